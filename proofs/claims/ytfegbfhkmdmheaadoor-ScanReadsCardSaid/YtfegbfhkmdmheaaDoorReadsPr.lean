/- ScanReads, plain: lists of steps that came in, whatever their lengths; much. (Made by tools/mkreadsr.py out of XReadsP.) -/
import Derived.Test.YtfegbfhkmdmheaaDoorStepF
set_option linter.unusedSimpArgs false
set_option linter.unusedVariables false
namespace Go.Proofs.YtfegbfhkmdmheaaDoor
open Go.RowKit Go.Lib

/-- a step: what to do, and the bytes: where they lie, how many, the room, which -/
structure Stp where
  z : Int
  A : Option Addr
  n : Nat
  c : Nat
  bs : List UInt8
def stepCells (l : List Stp) : List Value := l.flatMap fun s => [.int .i64 s.z, .slice s.A s.n s.c]
theorem stepCells_len (l : List Stp) : (stepCells l).length = l.length * 2 := by
  induction l with
  | nil => rfl
  | cons a t ih => simp [stepCells] at ih ⊢; omega
theorem stepCells_at : ∀ (l : List Stp) (i : Nat) (h : i < l.length), (stepCells l)[2 * i]? = some (.int .i64 l[i].z) ∧ (stepCells l)[2 * i + 1]? = some (.slice l[i].A l[i].n l[i].c)
  | [], i, h => by simp at h
  | a :: t, 0, _ => ⟨rfl, rfl⟩
  | a :: t, i + 1, h => by
    have := stepCells_at t i (by simpa using h)
    rw [show 2 * (i + 1) = 2 * i + 2 by omega]
    exact this
structure Steps (w : World) (B : Nat) (V : Option Addr) (m : Nat) (l : List Stp) : Prop where
  rd : Rd w B 2 V m (stepCells l)
  len : l.length = m
  each : ∀ s ∈ l, Rd w B 1 s.A s.n (byteCells' s.bs) ∧ (s.A = none → s.n = 0 ∧ s.c = 0) ∧ s.n ≤ 140737488355328
theorem Steps.keep {w w' : World} {B m : Nat} {V : Option Addr} {l : List Stp} (h : Steps w B V m l) (hk : ∀ p : Addr, p.block < B → w'.cell? p = w.cell? p) : Steps w' B V m l :=
  ⟨h.rd.keep hk, h.len, fun s hs => ⟨(h.each s hs).1.keep hk, (h.each s hs).2⟩⟩
theorem Steps.cell {w : World} {B m : Nat} {V : Option Addr} {l : List Stp} (h : Steps w B V m l) {i : Nat} (hi : i < l.length) : ∃ a, V = some a ∧ w.cell? (a.add (i * 2)) = some (.int .i64 l[i].z) ∧ w.cell? ⟨(a.add (i * 2)).block, (a.add (i * 2)).off + 1, none⟩ = some (.slice l[i].A l[i].n l[i].c) := by
  obtain ⟨a, e, _, hc⟩ := h.rd.addr (by have := h.len; omega)
  obtain ⟨c1, c2⟩ := stepCells_at l i hi
  refine ⟨a, e, ?_, ?_⟩
  · rw [Nat.mul_comm]; exact hc _ _ c1
  · have := hc _ _ c2
    rw [Nat.mul_comm, ← add_sum] at this
    rw [show (a.add (i * 2)).add 1 = ⟨(a.add (i * 2)).block, (a.add (i * 2)).off + 1, none⟩ from rfl] at this
    exact this

set_option maxRecDepth 100000 in
set_option maxHeartbeats 2000000 in
theorem much_any (w : World) (B m d : Nat) (V : Option Addr) (l : List Stp) (h : Steps w B V m l) (hm : m ≤ 140737488355328) (hB : B ≤ w.heap.size) : Calls Tryd.prog 6 #[.slice V m d] w fun e w' => (∃ b, e = .returned (.bool b) ∧ (b = false → m ≤ 16777216 ∧ ∀ s ∈ l, s.n ≤ 16777216)) ∧ Below w.heap.size w w' := by
  have H := Lib.hid h
  clear h
  go_enter Tryd.func6, Tryd.ntmps6
  go_wp2_with fail
  go_loopw [3, 4] (fun x i wr => ∃ k q : Nat, k ≤ m ∧ i = .int .i64 k ∧ x = .int .i64 q ∧ q ≤ 16777216 ∧ k ≤ q ∧ Hid (∀ j (hj : j < l.length), j < k → (l[j]).n ≤ 16777216) ∧ Below w.heap.size w wr) (fun _ i _ => m - (RowKit.intOf i).toNat)
  case atStart => exact ⟨0, 0, Nat.zero_le _, rfl, rfl, by omega, Nat.le_refl _, Lib.hid fun j hj h => absurd h (by omega), Below.refl _ _⟩
  case round =>
    obtain ⟨k, q, hk, rfl, rfl, hq, hkq, HJ, hbw⟩ := hrel
    by_cases hkm : k < m
    · have hkl : k < l.length := by rw [H.out.len]; exact hkm
      have hst := H.out.each _ (List.getElem_mem hkl)
      obtain ⟨a, rfl, hc1, hc2⟩ := (H.out.keep (fun p hp => hbw.cell (p := p) (by omega))).cell hkl
      have hB2 := hst.2.2
      obtain ⟨S, hS⟩ : ∃ S, l[k] = S := ⟨_, rfl⟩
      rw [hS] at hc1 hc2 hB2
      obtain ⟨n, hn⟩ : ∃ n, S.n = n := ⟨_, rfl⟩
      rw [hn] at hc2 hB2
      have Hbw := Lib.hid hbw
      have HSn := Lib.hid (show l[k].n = n by rw [hS, hn])
      have hw1 : IntKind.i64.wrap ((q : Int) + 1) = (q : Int) + 1 := IntWalk.i64_in _ (by omega)
      have hw2 : IntKind.i64.wrap ((q : Int) + 1 + (n : Int)) = (q : Int) + 1 + (n : Int) := IntWalk.i64_in _ (by omega)
      clear hc1 hst hS hbw hn
      by_cases hg : 16777216 < q + 1 + n
      · have hg2 : (16777216 : Int) < (q : Int) + 1 + (n : Int) := by omega
        go_wp2_with fail
        go_ret
        exact ⟨⟨_, rfl, fun h => by cases h⟩, Hbw.out⟩
      · have hg2 : ¬ ((16777216 : Int) < (q : Int) + 1 + (n : Int)) := by omega
        have HN := Lib.hid (show ∀ j (hj : j < l.length), j < k + 1 → (l[j]).n ≤ 16777216 from fun j hj h => by
          rcases Nat.lt_or_ge j k with h1 | h1
          · exact HJ.out j hj h1
          · obtain rfl : j = k := by omega
            rw [HSn.out]; omega)
        clear HJ
        go_wp2_with fail
        exact ⟨⟨k + 1, q + 1 + n, by omega, by go_num, by go_num, by omega, by omega, HN, Hbw.out⟩, by simp [RowKit.intOf]; omega⟩
    · have hkm2 : k = m := by omega
      have HF := Lib.hid (show m ≤ 16777216 ∧ ∀ s ∈ l, s.n ≤ 16777216 from ⟨by omega, fun s hs => by
        obtain ⟨j, hj, rfl⟩ := List.getElem_of_mem hs
        exact HJ.out j hj (by have := H.out.len; omega)⟩)
      clear HJ hkm2
      go_wp2_with fail
      go_ret
      exact ⟨⟨_, rfl, fun _ => HF.out⟩, hbw⟩
end Go.Proofs.YtfegbfhkmdmheaaDoor
