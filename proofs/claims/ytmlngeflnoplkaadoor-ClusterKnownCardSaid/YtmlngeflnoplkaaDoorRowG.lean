/- The law's own helper that holds two lists of clusters against each other: where they are the same. -/
import Derived.Test.YtmlngeflnoplkaaDoorPcsC
import Derived.BigQuiet
import Derived.Deep.QuietTactic
namespace Go.Proofs.YtmlngeflnoplkaaDoor
open Go.RowKit Go.Lib

theorem pcCells_at : ∀ (L : List (Nat × ByteArray)) (i : Nat) (x : Nat × ByteArray), L[i]? = some x → (pcCells L)[i * 2]? = some (Value.int .i64 (x.1 : Int)) ∧ (pcCells L)[i * 2 + 1]? = some (Value.string x.2)
  | [], i, x, h => by simp at h
  | y :: L, 0, x, h => by
    obtain rfl : y = x := by simpa using h
    exact ⟨rfl, rfl⟩
  | y :: L, i + 1, x, h => by
    have := pcCells_at L i x (by simpa using h)
    rw [show (i + 1) * 2 = i * 2 + 2 by omega, show i * 2 + 2 + 1 = i * 2 + 1 + 2 by omega]
    exact this
theorem pcCells_len (L : List (Nat × ByteArray)) : (pcCells L).length = L.length * 2 := by
  induction L with
  | nil => rfl
  | cons x L ih => simp only [pcCells, List.flatMap_cons, List.length_append, List.length_cons, List.length_nil] at ih ⊢; omega
theorem add_next (a : Addr) (n : Nat) : a.add (n + 1) = ⟨(a.add n).block, (a.add n).off + 1, none⟩ := by
  unfold Addr.add
  by_cases hn : n = 0
  · subst hn
    simp
  · simp [hn, Nat.add_assoc]
/-- a list of clusters, read -/
def RdP (w : World) (B : Nat) (A : Option Addr) (L : List (Nat × ByteArray)) : Prop := Rd w B 2 A L.length (pcCells L)
theorem RdP.at_ {w : World} {B : Nat} {A : Option Addr} {L : List (Nat × ByteArray)} (h : RdP w B A L) {i : Nat} {x : Nat × ByteArray} (hx : L[i]? = some x) :
    ∃ a, A = some a ∧ a.block < B ∧ w.cell? (a.add (i * 2)) = some (Value.int .i64 (x.1 : Int)) ∧ w.cell? (a.add (i * 2 + 1)) = some (Value.string x.2) := by
  have hi := (List.getElem?_eq_some_iff.1 hx).1
  obtain ⟨a, e, hb, hc⟩ := Rd.addr h (by omega)
  obtain ⟨h1, h2⟩ := pcCells_at L i x hx
  exact ⟨a, e, hb, hc _ _ h1, hc _ _ h2⟩
theorem RdP.below {w w' : World} {B : Nat} {A : Option Addr} {L : List (Nat × ByteArray)} (h : RdP w B A L) (hb : Below B w w') : RdP w' B A L := Rd.below h hb

set_option maxRecDepth 100000 in
set_option maxHeartbeats 1000000 in
theorem same_true (w : World) (X Y : Nat) (A B : Option Addr) (c d : Nat) (xs ys : List (Nat × ByteArray)) (from_ : Nat) (hx : RdP w X A xs) (hy : RdP w Y B ys) (hn : xs.length = ys.length) (hm : xs.length ≤ 1073741824)
    (h : ∀ (i : Nat) (x y : Nat × ByteArray), xs[i]? = some x → ys[i]? = some y → x.2 = y.2 ∧ x.1 = y.1 + from_ ∧ x.1 ≤ 1073741824) :
    Calls Tryd.prog 25 #[.slice A xs.length c, .slice B ys.length d, .int .i64 (from_ : Int)] w fun e w' => e = .returned (.bool true) ∧ Below w.heap.size w w' := by
  obtain ⟨n, hxl⟩ : ∃ n, xs.length = n := ⟨_, rfl⟩
  have hyl : ys.length = n := by omega
  have Hx := Lib.hid hx
  have Hy := Lib.hid hy
  have H := Lib.hid h
  rw [hxl, hyl]
  rw [hxl] at hm
  have Hxl := Lib.hid hxl
  have Hyl := Lib.hid hyl
  clear hx hy h hxl hyl hn
  have hne : ((n : Int) != n) = false := by simp
  go_enter Tryd.func25, Tryd.ntmps25
  go_wp2
  go_loopw [7] (fun i wr => ∃ k q : Nat, k ≤ n ∧ i = .int .i64 k ∧ wr = w.drewN q) (fun i _ => n - (intOf i).toNat)
  case atStart => exact ⟨0, 0, Nat.zero_le _, rfl, rfl⟩
  case round =>
    obtain ⟨k, q, hk, rfl, rfl⟩ := hrel
    by_cases hkn : k < n
    · obtain ⟨x, hxe⟩ : ∃ x, xs[k]? = some x := ⟨_, List.getElem?_eq_getElem (by rw [Hxl.out]; exact hkn)⟩
      obtain ⟨y, hye⟩ : ∃ y, ys[k]? = some y := ⟨_, List.getElem?_eq_getElem (by rw [Hyl.out]; exact hkn)⟩
      obtain ⟨a, rfl, _, ha1, ha2⟩ := Hx.out.at_ hxe
      obtain ⟨b, rfl, _, hb1, hb2⟩ := Hy.out.at_ hye
      obtain ⟨e1, e2, e3⟩ := H.out k x y hxe hye
      have hw : IntKind.i64.wrap ((y.1 : Int) + (from_ : Int)) = (x.1 : Int) := by rw [IntWalk.i64_in _ (by omega)]; omega
      rw [e1] at ha2
      rw [add_next] at ha2 hb2
      clear hxe hye e1 e2
      have hb2' : ((x.1 : Int) != (x.1 : Int)) = false := by simp
      have hb3' : (x.1 != x.1) = false := by simp
      go_wp2_with fail
      go_quiet (fail)
      go_wp2
      go_roundw
      case rel => exact ⟨k + 1, _, by omega, by go_num, rfl⟩
      case measure => simp [intOf]; omega
    · go_wp2
      go_ret
      exact ⟨rfl, below_N (Below.refl _ _) _⟩
end Go.Proofs.YtmlngeflnoplkaaDoor

/- The law's own helper that holds a text's clusters against a list of texts: where they are those. And what holds of all clusters of a text. -/
namespace Go.Proofs.YtmlngeflnoplkaaDoor
open Go.RowKit Go.Lib

def sumB (L : List (Nat × ByteArray)) : Nat := (L.map fun x => x.2.size).sum
theorem sumB_snoc (L : List (Nat × ByteArray)) (x : Nat × ByteArray) : sumB (L ++ [x]) = sumB L + x.2.size := by simp [sumB]
theorem sumB_cons (L : List (Nat × ByteArray)) (x : Nat × ByteArray) : sumB (x :: L) = x.2.size + sumB L := by simp [sumB]
theorem pc_size (s : ByteArray) (j : Nat) : (s.extract (placeAt s j) (placeAt s (clEnd s j))).size = placeAt s (clEnd s j) - placeAt s j := by
  have := placeAt_le s (clEnd s j)
  simp
  omega
/-- each cluster begins where those ahead of it end -/
theorem pcsF_chain (s : ByteArray) : ∀ (f k i : Nat) (x : Nat × ByteArray), (pcsF s f k)[i]? = some x → x.1 = placeAt s k + sumB ((pcsF s f k).take i) ∧ 0 < x.2.size ∧ x.1 + x.2.size ≤ s.size
  | 0, k, i, x, h => by simp [pcsF] at h
  | f + 1, k, i, x, h => by
    unfold pcsF at h ⊢
    by_cases hk : k < chars s
    · rw [if_pos hk] at h ⊢
      have hb := clEnd_bounds hk
      have hlt := placeAt_lt s hb.1 hb.2
      have hle := placeAt_le s (clEnd s k)
      have hsz := pc_size s k
      cases i with
      | zero =>
        obtain rfl := Option.some.inj h
        simp only [List.take_zero, sumB, List.map_nil, List.sum_nil]
        rw [hsz]
        omega
      | succ i =>
        obtain ⟨h1, h2, h3⟩ := pcsF_chain s f (clEnd s k) i x (by simpa using h)
        rw [List.take_succ_cons, sumB_cons, hsz]
        omega
    · rw [if_neg hk] at h
      simp at h
theorem pcs_chain (s : ByteArray) (i : Nat) (x : Nat × ByteArray) (h : (pcs s)[i]? = some x) : x.1 = sumB ((pcs s).take i) ∧ 0 < x.2.size ∧ x.1 + x.2.size ≤ s.size := by
  have := pcsF_chain s _ _ i x h
  rw [placeAt_zero, Nat.zero_add] at this
  exact this
theorem take_snoc {α : Type} (L : List α) (i : Nat) (x : α) (h : L[i]? = some x) : L.take (i + 1) = L.take i ++ [x] := by
  obtain ⟨hi, rfl⟩ := List.getElem?_eq_some_iff.1 h
  exact List.take_succ_eq_append_getElem hi
theorem strs_at (ws : List ByteArray) (i : Nat) (x : ByteArray) (h : ws[i]? = some x) : (ws.map Value.string)[i]? = some (Value.string x) := by simp [h]

set_option maxRecDepth 100000 in
set_option maxHeartbeats 1000000 in
theorem row_true (s : ByteArray) (w : World) (A : Option Addr) (n c : Nat) (ws : List ByteArray) (hA : Rd w w.heap.size 1 A n (ws.map Value.string)) (hp : (pcs s).map (·.2) = ws) (hs : s.size ≤ 1073741824) (hT : Utf8Tabs 0 1 w) :
    Calls Tryd.prog 28 #[.string s, .slice A n c] w fun e w' => e = .returned (.bool true) ∧ Below w.heap.size w w' := by
  have hpl := pcs_len s
  obtain ⟨B, hB⟩ : ∃ B, w.heap.size = B := ⟨_, rfl⟩
  rw [hB] at hA ⊢
  have hwl : ws.length = n := by have := hA.1; simpa using this
  obtain ⟨L, hL⟩ : ∃ L, pcs s = L := ⟨_, rfl⟩
  have hLn : L.length = n := by rw [← hwl, ← hp, List.length_map, hL]
  have Hmk := Lib.hid (cl_mk s w)
  have Hpc := Lib.hid (fun W hc hT => pieces_all s B W hc hs hT)
  have Hch := Lib.hid (fun i x h => pcs_chain s i x h)
  rw [hL] at Hpc Hch hpl hp
  rw [hB] at Hmk
  rw [hLn] at hpl Hpc
  have Hp := Lib.hid hp
  have HA := Lib.hid hA
  have HT := Lib.hid hT
  have Hwl := Lib.hid hwl
  have HLn := Lib.hid hLn
  have HB := Lib.hid hB
  clear hp hA hT hL hwl hLn hB
  have hne : ((n : Int) != n) = false := by simp
  go_enter Tryd.func28, Tryd.ntmps28
  go_wp2_with fail
  refine Hmk.out.mono ?_
  rintro _ w1 ⟨rfl, hw1⟩
  have hb1 : Below B w w1 := by rw [hw1]; exact (Below.refl B w).alloc (by rw [HB.out]; exact Nat.le_refl _) _
  have hc1 : w1.cell? ⟨B, 0, none⟩ = some (.string s) := by
    have : Boxed w1 B 9 (.string s) := by rw [hw1]; have := Boxed.new w 9 (.string s); rwa [HB.out] at this
    exact this.cell
  have hT1 : Utf8Tabs 0 1 w1 := Utf8Tabs_below HT.out (by rw [HB.out]; exact hb1)
  have Hb1 := Lib.hid hb1
  have Hpc1 := Lib.hid (Hpc.out w1 hc1 hT1)
  clear hw1 hc1 hT1 hb1 Hpc
  go_wp2_with fail
  refine Hpc1.out.mono ?_
  rintro _ w2 ⟨C, d, rfl, hown, hb2⟩
  have hsB : B ≤ w1.heap.size := by have := Hb1.out.size; have := HB.out; omega
  have HR : Hid (RdP w2 w2.heap.size C L) := Lib.hid (by have := Rd.own hown; rw [← HLn.out] at this; exact this)
  have Hb2 := Lib.hid (Hb1.out.trans (hb2.mono hsB))
  have HA2 := Lib.hid (HA.out.below Hb2.out)
  clear hown hb2
  go_wp2_with fail
  go_loopw [6, 7] (fun x i wr => ∃ k q : Nat, k ≤ n ∧ i = .int .i64 k ∧ x = .int .i64 (sumB (L.take k) : Nat) ∧ wr = w2.drewN q) (fun _ i _ => n - (intOf i).toNat)
  case atStart => exact ⟨0, 0, Nat.zero_le _, rfl, rfl, rfl⟩
  case round =>
    obtain ⟨k, q, hk, rfl, rfl, rfl⟩ := hrel
    by_cases hkn : k < n
    · obtain ⟨x, hxe⟩ : ∃ x, L[k]? = some x := ⟨_, List.getElem?_eq_getElem (by rw [HLn.out]; exact hkn)⟩
      have hwe : ws[k]? = some x.2 := by rw [← Hp.out, List.getElem?_map, hxe]; rfl
      obtain ⟨a, rfl, _, ha1, ha2⟩ := HR.out.at_ hxe
      obtain ⟨b, rfl, _, hb⟩ := Rd.addr HA2.out (by omega)
      have hb1 := hb k _ (strs_at ws k x.2 hwe)
      obtain ⟨e1, e2, e3⟩ := Hch.out k x hxe
      have hsn : sumB (L.take (k + 1)) = sumB (L.take k) + x.2.size := by rw [take_snoc L k x hxe, sumB_snoc]
      rw [← e1] at hsn ⊢
      rw [add_next] at ha2
      have Hsn := Lib.hid hsn
      have hw : IntKind.i64.wrap ((x.1 : Int) + (x.2.size : Int)) = ((x.1 + x.2.size : Nat) : Int) := by rw [IntWalk.i64_in _ (by omega)]; omega
      have hb2' : ((x.1 : Int) != (x.1 : Int)) = false := by simp
      have hb3' : (x.1 != x.1) = false := by simp
      clear hxe hwe hb e1 e2 e3 hsn
      go_wp2_with fail
      go_quiet (fail)
      go_wp2
      go_roundw
      case rel => exact ⟨k + 1, _, by omega, by go_num, by rw [Hsn.out]; rfl, rfl⟩
      case measure => simp [intOf]; omega
    · go_wp2
      go_ret
      exact ⟨rfl, below_N Hb2.out _⟩
end Go.Proofs.YtmlngeflnoplkaaDoor
