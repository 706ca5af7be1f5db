/- A table sought by halves: the shelf's search at this program, the closure that it asks, seek. -/
import Derived.Shelf.SlSorted.Search
import Derived.RegionTactic
import Derived.WalkKit
import Derived.Lib.Hide
import Derived.Test.YthkapcnhfdpdbaaDoorShelf
import Derived.Test.YthkapcnhfdpdbaaDoorLit
set_option linter.unusedSimpArgs false
set_option linter.unusedVariables false
namespace Go.Proofs.YthkapcnhfdpdbaaDoor
open Go.RowKit Go.Lib Go.Shelf Go.Sort

def search_ren : Go.Shelf.Ren := ⟨fun | 16 => 78 | n => n, fun | 3 => 3 | 4 => 4 | 35 => 110 | 38 => 105 | n => n, fun n => n⟩
theorem search_lays : Go.Proofs.SlLaysO.n16 Tryd.prog search_ren := {
  mixed := by kernel_rfl
  f16 := Tryd.func78.trans (congrArg some (by kernel_rfl))
  t3 := Tryd.underlying3
  a3 := Tryd.isAgg3
  z3 := Tryd.sizeOf3
  v3 := Tryd.zeroValue3
  t4 := Tryd.underlying4
  a4 := Tryd.isAgg4
  z4 := Tryd.sizeOf4
  v4 := Tryd.zeroValue4
  t35 := Tryd.underlying110
  a35 := Tryd.isAgg110
  z35 := Tryd.sizeOf110
  v35 := Tryd.zeroValue110
  t38 := Tryd.underlying105
  a38 := Tryd.isAgg105
  z38 := Tryd.sizeOf105
  v38 := Tryd.zeroValue105 }

theorem tabCells_at : ∀ (L : Tab) (i : Nat) (h : i < L.length), (tabCells L)[i * 2]? = some (.int .i32 (L[i].1 : Int)) ∧ (tabCells L)[i * 2 + 1]? = some (.int .u8 (L[i].2 : Int))
  | [], i, h => by simp at h
  | a :: t, 0, _ => ⟨rfl, rfl⟩
  | a :: t, i + 1, h => by
    have := tabCells_at t i (by simpa using h)
    rw [show (i + 1) * 2 = i * 2 + 2 by omega]
    exact this

set_option maxHeartbeats 1000000 in
theorem closure_any (ba bx blk n : Nat) (x y : Int) (i : Nat) (W : World) (hi : i < n)
    (ha : W.cell? ⟨ba, 0, none⟩ = some (.slice (some ⟨blk, 0, none⟩) n n)) (hx : W.cell? ⟨bx, 0, none⟩ = some (.int .i32 x)) (hc : W.cell? ⟨blk, i * 2, none⟩ = some (.int .i32 y)) :
    Calls Tryd.prog 79 (#[.int .i64 i] ++ #[.pointer (some ⟨ba, 0, none⟩), .pointer (some ⟨bx, 0, none⟩)]) W fun e w' => e = .returned (.bool (decide (x < y))) ∧ ∃ q, w' = W.drewN q := by
  have hiz : (i : Int) < (n : Int) := by omega
  go_enter Tryd.func79, Tryd.ntmps79
  go_wp2
  go_region
  all_goals go_wp2
  all_goals go_ret
  all_goals exact ⟨by first | rfl | simp, 1, rfl⟩

theorem cnt_array (L : Tab) (r : Nat) : (List.range L.length).countP (fun i => !decide ((r : Int) < ((L.toArray[i]!).1 : Int))) = cnt L r := by
  have h := Lib.countP_range L.toArray (fun e : Nat × Nat => !decide ((r : Int) < (e.1 : Int)))
  simp only [List.size_toArray] at h
  rw [h]
  unfold cnt
  apply List.countP_congr
  intro e _
  simp
theorem rises_at : ∀ (L : Tab), rises L = true → ∀ a b, a ≤ b → b < L.length → (L.toArray[a]!).1 ≤ (L.toArray[b]!).1
  | [], _, _, _, _, h => by simp at h
  | e :: t, hr, a, b, hab, hb => by
    cases b with
    | zero => obtain rfl : a = 0 := by omega
              exact Nat.le_refl _
    | succ b =>
      have hb' : b < t.length := by simpa using hb
      cases a with
      | zero =>
        have := rises_head hr t[b] (List.getElem_mem hb')
        simp [hb']
        omega
      | succ a =>
        have := rises_at t (rises_tail hr) a b (by omega) hb'
        simpa [hb', show a < t.length by omega] using this

set_option maxRecDepth 100000 in
set_option maxHeartbeats 2000000 in
theorem seek_any (L : Tab) (hr : rises L = true) (h0 : (L.getD 0 (1, 0)).1 = 0) (hn : L.length < 1000000) (h32 : ∀ e ∈ L, e.1 < 2000000) (r : Nat) (W : World) (b : Nat) (hb : b < W.heap.size)
    (hc : ∀ i v, (tabCells L)[i]? = some v → W.cell? ⟨b, i, none⟩ = some v) :
    Calls Tryd.prog 65 #[.slice (some ⟨b, 0, none⟩) L.length L.length, .int .i32 (r : Int)] W fun e w' => e = .returned (.tuple #[.int .u8 (cls L r : Nat), .int .i32 (endFrom L r : Nat)]) ∧ Below W.heap.size W w' := by
  obtain ⟨W0, hW0⟩ : ∃ W0, W0 = (W.alloc (.cells #[.slice (some ⟨b, 0, none⟩) L.length L.length] 96)).alloc (.cells #[.int .i32 (r : Int)] 21) := ⟨_, rfl⟩
  have hsize : W0.heap.size = W.heap.size + 1 + 1 := by rw [hW0]; simp
  have ca : W0.cell? ⟨W.heap.size, 0, none⟩ = some (.slice (some ⟨b, 0, none⟩) L.length L.length) := by rw [hW0]; exact cell_alloc_sl _ (cell_new_sl W _ _)
  have cx : W0.cell? ⟨W.heap.size + 1, 0, none⟩ = some (.int .i32 (r : Int)) := by rw [hW0]; have := cell_new_sl (W.alloc (.cells #[.slice (some ⟨b, 0, none⟩) L.length L.length] 96)) (.int .i32 (r : Int)) 21; rwa [World.size_alloc] at this
  have cc : ∀ i v, (tabCells L)[i]? = some v → W0.cell? ⟨b, i, none⟩ = some v := fun i v hv => by rw [hW0]; exact cell_alloc_sl _ (cell_alloc_sl _ (hc i v hv))
  have eg : ∀ args w, (callFunc 79 args).run Tryd.prog w = .ok (.enter 79 args) w := enters_of Tryd.func79 (by kernel_rfl) rfl
  have hfst : ∀ i (h : i < L.length), ((L.toArray[i]!).1 : Int) = (L[i].1 : Int) := fun i h => by simp [h]
  have hS := Any.sort_Search search_lays 79 #[.pointer (some ⟨W.heap.size, 0, none⟩), .pointer (some ⟨W.heap.size + 1, 0, none⟩)] L.length (fun i => decide ((r : Int) < ((L.toArray[i]!).1 : Int))) W0 eg (by omega)
    (fun m os i hi => (closure_any W.heap.size (W.heap.size + 1) b L.length r (L.toArray[i]!).1 i _ hi (cell_grown (by simp [hsize]; omega) ca m os) (cell_grown (by simp [hsize]) cx m os) (cell_grown (by simp [hsize]; omega) (cc _ _ (by rw [hfst i hi]; exact (tabCells_at L i hi).1)) m os)).mono
      fun _ _ ⟨he, q, hq⟩ => ⟨he, q, #[], by rw [hq, grow_empty]⟩) (fun x y hxy hy h => by have := rises_at L hr x y hxy hy; simp only [decide_eq_true_eq] at h ⊢; omega)
  rw [cnt_array] at hS
  change Calls Tryd.prog 78 _ _ _ at hS
  have hpos : 0 < cnt L r := by
    cases L with
    | nil => simp at h0
    | cons e t => rw [cnt_cons (show e.1 ≤ r by have : e.1 = 0 := h0; omega)]; omega
  have hle := cnt_le L r
  have hcl : cls L r = (L.getD (cnt L r - 1) (0, 0)).2 := by unfold cls; rw [clsFrom_at L 0 r hr, if_neg (by omega)]
  have hen := endFrom_at L r hr
  rw [hcl, hen]
  obtain ⟨k, hk⟩ : ∃ k, cnt L r = k + 1 := ⟨cnt L r - 1, by omega⟩
  rw [hk] at hS hle
  rw [hk]
  have hk1 : k < L.length := by omega
  have hB0 : Below W.heap.size W W0 := by rw [hW0]; exact ((Below.refl _ W).alloc (Nat.le_refl _) _).alloc (by simp) _
  have k1 := tabCells_at L k hk1
  rw [show k + 1 - 1 = k by omega, show (L.getD k (0, 0)).2 = L[k].2 by simp [hk1]]
  have hw1 : IntKind.i64.wrap (((k + 1 : Nat) : Int) - 1) = (k : Int) := by rw [show ((k + 1 : Nat) : Int) - 1 = (k : Int) by omega]; exact IntWalk.i64_in _ (by omega)
  have hkz : (k : Int) < (L.length : Int) := by omega
  have HS := Lib.hid hS
  have HC := Lib.hid cc
  have HB := Lib.hid hB0
  have HA := Lib.hid ca
  have HW := Lib.hid hW0
  clear hS cc eg hfst cx hc hcl hen hB0 hpos ca hW0
  by_cases hlt : k + 1 < L.length
  · have k2 := tabCells_at L (k + 1) hlt
    have hltz : ((k + 1 : Nat) : Int) < (L.length : Int) := by omega
    rw [if_pos hlt, show (L.getD (k + 1) (0, 0)).1 = L[k + 1].1 by simp [hlt]]
    have hge : 1 ≤ L[k + 1].1 := by
      have h1 := rises_at L hr 0 (k + 1) (by omega) hlt
      have h2 : k + 1 ≠ 0 := by omega
      rcases Nat.eq_zero_or_pos L[k + 1].1 with hz | hz
      · exfalso
        have := rises_head (a := L[0]'(by omega)) (t := L.tail) (by rw [show L[0]'(by omega) :: L.tail = L by cases L with | nil => simp at hlt | cons e t => rfl]; exact hr) (L[k + 1]) (by
          cases L with
          | nil => simp at hlt
          | cons e t => simp)
        omega
      · exact hz
    have h2m := h32 L[k + 1] (List.getElem_mem hlt)
    have hw2 : IntKind.i32.wrap ((L[k + 1].1 : Int) - 1) = ((L[k + 1].1 - 1 : Nat) : Int) := by rw [show (L[k + 1].1 : Int) - 1 = ((L[k + 1].1 - 1 : Nat) : Int) by omega]; exact IntWalk.i32_in _ (by omega)
    go_enter Tryd.func65, Tryd.ntmps65
    go_wp2_with (go_at_call 78; rw [← HW.out]; refine HS.out.mono ?_; rintro e w' ⟨rfl, q, os, rfl⟩; have ca := cell_grown (by simp [hsize]; omega) HA.out q os; have cd := cell_grown (by simp [hsize]; omega) (HC.out _ _ k1.2) q os; have ce := cell_grown (by simp [hsize]; omega) (HC.out _ _ k2.1) q os)
    go_ret2
    refine ⟨rfl, ?_⟩
    exact HB.out.trans (below_grown_sl W.heap.size W0 q os (by omega))
  · have hltz : ¬ (((k + 1 : Nat) : Int) < (L.length : Int)) := by omega
    rw [if_neg hlt]
    go_enter Tryd.func65, Tryd.ntmps65
    go_wp2_with (go_at_call 78; rw [← HW.out]; refine HS.out.mono ?_; rintro e w' ⟨rfl, q, os, rfl⟩; have ca := cell_grown (by simp [hsize]; omega) HA.out q os; have cd := cell_grown (by simp [hsize]; omega) (HC.out _ _ k1.2) q os)
    go_ret2
    refine ⟨rfl, ?_⟩
    exact HB.out.trans (below_grown_sl W.heap.size W0 q os (by omega))
end Go.Proofs.YthkapcnhfdpdbaaDoor
