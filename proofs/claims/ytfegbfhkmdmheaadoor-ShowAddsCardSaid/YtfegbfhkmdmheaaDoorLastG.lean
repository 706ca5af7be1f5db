/- cluster.Last walked. -/
import Derived.Test.YtfegbfhkmdmheaaDoorBackG
import Derived.Test.YtfegbfhkmdmheaaDoorRowG
import Derived.Test.YtfegbfhkmdmheaaDoorScanG
import Derived.Test.YtfegbfhkmdmheaaDoorRefTG
import Derived.Test.YtfegbfhkmdmheaaDoorMem
set_option linter.unusedSimpArgs false
set_option linter.unusedVariables false
namespace Go.Proofs.YtfegbfhkmdmheaaDoor
open Go.RowKit Go.Shelf Go.Lib
attribute [local go_sem] Oper.semAt_some

/-- how many bytes the last cluster has -/
def lastOf (L : List (Nat × ByteArray)) : Nat := match L with
  | [] => 0
  | x :: _ => x.2.size
def clLast (s : ByteArray) : Nat := lastOf (pcs s).reverse
end Go.Proofs.YtfegbfhkmdmheaaDoor

/- The law's own helpers that ask a few texts: steps, alive. -/
namespace Go.Proofs.YtfegbfhkmdmheaaDoor
open Go.RowKit Go.Lib

theorem cnext_s (s : ByteArray) (w : World) (hT : Utf8Tabs 0 1 w) (hs : s.size ≤ 1073741824) :
    Calls Tryd.prog 48 #[.string s] w fun e w' => e = .returned (.int .i64 ((placeAt s (clEnd s 0) : Nat) : Int)) ∧ Below w.heap.size w w' := by
  have h := cnext_rest s 0 w (Nat.zero_le _) hT (by omega)
  rw [placeAt_zero, Nat.sub_zero] at h
  have e : s.extract 0 s.size = s := by simp
  rw [e] at h
  exact h
theorem not_isB {s : ByteArray} {q : Int} {j : Nat} (hj : IsBord s j) (h1 : ((placeAt s j : Nat) : Int) < q) (h2 : q < ((placeAt s (clEnd s j) : Nat) : Int)) : ¬ isB s q := by
  rintro ⟨k, hk, rfl⟩
  rcases Nat.lt_or_ge j k with h | h
  · have := placeAt_mono s (isBord_lt hj hk h)
    omega
  · have := placeAt_mono s h
    omega

section texts
theorem a_next : placeAt ⟨#[97]⟩ (clEnd ⟨#[97]⟩ 0) = 1 := by decide +kernel
theorem a_last : clLast ⟨#[97]⟩ = 1 := by decide +kernel
theorem b_at : placeAt ⟨#[97, 204, 129, 98]⟩ (clEnd ⟨#[97, 204, 129, 98]⟩ 0) = 3 := by decide +kernel
theorem c_row : (pcs ⟨#[97, 204, 129, 13, 10, 98, 128]⟩).map (·.2) = [⟨#[97, 204, 129]⟩, ⟨#[13, 10]⟩, ⟨#[98]⟩, ⟨#[128]⟩] := by decide +kernel
theorem d_last : clLast ⟨#[97, 204, 129, 204, 130]⟩ = 5 := by decide +kernel
theorem e_at : placeAt ⟨#[97, 204, 129]⟩ (clEnd ⟨#[97, 204, 129]⟩ 0) = 3 := by decide +kernel
theorem e_size : placeAt ⟨#[97, 204, 129]⟩ (chars ⟨#[97, 204, 129]⟩) = 3 := by decide +kernel
theorem f_count : (pcs ⟨#[225, 132, 128, 225, 133, 161, 225, 134, 168, 120]⟩).length = 2 := by decide +kernel
theorem g_len : (pcs ⟨#[97, 98]⟩).length = 2 := by decide +kernel
end texts

end Go.Proofs.YtfegbfhkmdmheaaDoor

/- The program's package scan: the places of the bad bytes. -/
namespace Go.Proofs.YtfegbfhkmdmheaaDoor
open Go.RowKit Go.Lib

def badPos : Nat → List (Nat × Nat) → List Nat
  | _, [] => []
  | p, d :: xs => (if badSeg d = true then [p] else []) ++ badPos (p + d.2) xs
def badsOf (l : List UInt8) : List Nat := badPos 0 (segs l)
def posCells (ps : List Nat) : List Value := ps.map fun (p : Nat) => Value.int .i64 (p : Int)

theorem own_iterAtC {w : World} {base : Nat} {e : TypeId} {size : Nat} {v : Value} {n : Nat} {xs : List Value} (h : w.ownsRow base e size v n xs) {k : Nat} (hk : k < base) (s : ByteArray) (pos : Nat) : (w.iterAt k s pos).ownsRow base e size v n xs := by
  refine ⟨h.1, ?_⟩
  rcases h.2 with h0 | ⟨g, cap, cur, hv, hg, hh, r⟩
  · exact .inl h0
  · exact .inr ⟨g, cap, cur, hv, hg, (iterAt_other w k g s pos (by omega)).trans hh, r⟩
theorem iterPos_atC {w : World} {k : Nat} {s : ByteArray} {p : Nat} (h : w.heap[k]? = some (.stringIter s p)) : w.iterPos k = p := by simp [World.iterPos, h]

def cleanL (l : List UInt8) : ByteArray := runesBytes ((runesOf l).map fun (r : Nat) => (r : Int))
end Go.Proofs.YtfegbfhkmdmheaaDoor

/- A cluster by itself; pure. -/
namespace Go.Proofs.YtfegbfhkmdmheaaDoor
open Go.RowKit Go.Lib

section one
variable {s : ByteArray} {k : Nat} (hk : IsBord s k) (hkc : k < chars s)
include hk hkc
omit hk in
theorem one_chars : chars (s.extract (placeAt s k) (placeAt s (clEnd s k))) = clEnd s k - k := cut_chars s k (clEnd s k) (Nat.le_of_lt (clEnd_bounds hkc).1) (clEnd_bounds hkc).2
theorem one_pcs : pcs (s.extract (placeAt s k) (placeAt s (clEnd s k))) = [(0, s.extract (placeAt s k) (placeAt s (clEnd s k)))] := by
  have hb := clEnd_bounds hkc
  have h := cut_full s k (clEnd s k) hk (hk.next k hkc) (Nat.le_of_lt hb.1) (clEnd s k - k) (chars (s.extract (placeAt s k) (placeAt s (clEnd s k)))) 0 hk (by omega) (Nat.le_refl _) (by rw [one_chars hkc]; omega)
  unfold pcs
  rw [h]
  obtain ⟨f, hf⟩ : ∃ f, clEnd s k - k = f + 1 := ⟨clEnd s k - k - 1, by omega⟩
  rw [hf, bords, Nat.add_zero, if_pos hb.1, List.map_cons]
  have : bords s f (clEnd s k) (clEnd s k) = [] := by
    cases f with
    | zero => rfl
    | succ f => rw [bords, if_neg (by omega)]
  rw [this, Nat.sub_self]
  rfl
omit hk in
theorem one_next : placeAt (s.extract (placeAt s k) (placeAt s (clEnd s k))) (clEnd (s.extract (placeAt s k) (placeAt s (clEnd s k))) 0) = (s.extract (placeAt s k) (placeAt s (clEnd s k))).size := by
  have hb := clEnd_bounds hkc
  have h := cut_end s k (clEnd s k) (Nat.le_of_lt hb.1) hb.2 0 (by omega) (Nat.le_refl _)
  rw [Nat.add_zero] at h
  have h2 : clEnd (s.extract (placeAt s k) (placeAt s (clEnd s k))) 0 = chars (s.extract (placeAt s k) (placeAt s (clEnd s k))) := by rw [one_chars hkc]; omega
  rw [h2, placeAt_all]
theorem one_last : clLast (s.extract (placeAt s k) (placeAt s (clEnd s k))) = (s.extract (placeAt s k) (placeAt s (clEnd s k))).size := by
  unfold clLast
  rw [one_pcs hk hkc]
  rfl
omit hk in
theorem one_most : 1 ≤ clEnd s k - k ∧ clEnd s k - k ≤ 32 := by
  have h := clD_bounds (ds := (segs s.data.toList).drop k) (by rw [List.length_drop]; have : (segs s.data.toList).length = chars s := rfl; omega)
  unfold clEnd
  omega
end one
theorem runD_goes (ds : List (Nat × Nat)) : ∀ f n i, n ≤ i → i < runD ds f n → goesD ds i = true
  | 0, n, i, h1, h2 => by
    unfold runD at h2
    omega
  | f + 1, n, i, h1, h2 => by
    unfold runD at h2
    by_cases hc : n < ds.length ∧ n < 32 ∧ goesD ds n = true
    · rw [if_pos hc] at h2
      rcases Nat.eq_or_lt_of_le h1 with h | h
      · rw [← h]
        exact hc.2.2
      · exact runD_goes ds f (n + 1) i h h2
    · rw [if_neg hc] at h2
      omega
theorem syl_zero (a : Nat) : syl a 1 = false := by simp [syl]
/-- what stands with another is no bad byte -/
theorem clD_notBad (ds : List (Nat × Nat)) (h2 : 2 ≤ clD ds) (i : Nat) (hi : i < clD ds) : roleD ds i ≠ 1 := by
  unfold clD at h2 hi
  by_cases hl : ds.length = 0
  · rw [if_pos hl] at h2
    omega
  rw [if_neg hl] at h2 hi
  by_cases h14 : roleD ds 0 = 1 ∨ roleD ds 0 = 4
  · rw [if_pos h14] at h2
    omega
  rw [if_neg h14] at h2 hi
  by_cases h02 : roleD ds 0 = 2
  · rw [if_pos h02] at h2 hi
    by_cases h4 : roleD ds 1 = 4
    · rw [if_pos h4] at hi
      have : i = 0 ∨ i = 1 := by omega
      rcases this with rfl | rfl
      · rw [h02]; decide
      · rw [h4]; decide
    · rw [if_neg h4] at h2
      omega
  · rw [if_neg h02] at hi
    rcases Nat.eq_zero_or_pos i with h | h
    · subst h
      exact fun e => h14 (.inl e)
    · have hg := runD_goes ds 32 1 i h hi
      intro e
      unfold goesD at hg
      rw [e, syl_zero] at hg
      simp at hg
theorem role_bad (ds : List (Nat × Nat)) (i : Nat) (d : Nat × Nat) (h : ds[i]? = some d) (hb : badSeg d = true) : roleD ds i = 1 := by
  unfold roleD
  rw [h]
  show roleN d.1 d.2 = 1
  unfold badSeg at hb
  simp at hb
  unfold roleN
  rw [if_pos ⟨hb.2, hb.1⟩]
theorem badPos_none : ∀ (p : Nat) (l : List (Nat × Nat)), (∀ d ∈ l, badSeg d = false) → badPos p l = []
  | _, [], _ => rfl
  | p, d :: l, h => by
    rw [badPos, h d (by simp), badPos_none _ l (fun x hx => h x (by simp [hx]))]
    rfl
/-- a cluster of several characters has no bad byte; one of one that is bad has one byte -/
theorem one_bad {s : ByteArray} {k : Nat} (hkc : k < chars s) (h : (badsOf (s.extract (placeAt s k) (placeAt s (clEnd s k))).data.toList).length ≠ 0) : (s.extract (placeAt s k) (placeAt s (clEnd s k))).size = 1 := by
  have hb := clEnd_bounds hkc
  have hc := cut_segs s k (clEnd s k) (Nat.le_of_lt hb.1) hb.2
  have hcl : clEnd s k - k = clD ((segs s.data.toList).drop k) := by unfold clEnd; omega
  have hm := one_most (s := s) (k := k) hkc
  have hsz : total (segs (s.extract (placeAt s k) (placeAt s (clEnd s k))).data.toList) = (s.extract (placeAt s k) (placeAt s (clEnd s k))).size := by rw [total_segs, size_list]
  unfold badsOf at h
  rw [hc] at h hsz
  rw [hcl] at h hsz hm
  obtain ⟨ds, hds⟩ : ∃ ds, (segs s.data.toList).drop k = ds := ⟨_, rfl⟩
  rw [hds] at h hsz hm
  rcases Nat.lt_or_ge (clD ds) 2 with h2 | h2
  · have h1 : clD ds = 1 := by omega
    rw [h1] at h hsz
    cases ds with
    | nil => exact absurd rfl h
    | cons d l =>
      have e : (d :: l).take 1 = [d] := rfl
      rw [e] at h hsz
      rw [← hsz]
      by_cases hbd : badSeg d = true
      · have : d.2 = 1 := by
          unfold badSeg at hbd
          simp at hbd
          exact hbd.1
        simp [total, this]
      · rw [badPos_none 0 [d] (fun x hx => by
          obtain rfl : x = d := List.mem_singleton.1 hx
          simpa using hbd)] at h
        exact absurd rfl h
  · exfalso
    apply h
    rw [badPos_none 0 _ (fun d hd => ?_)]
    · rfl
    · obtain ⟨i, hi, rfl⟩ := List.getElem_of_mem hd
      have hi2 : i < clD ds := by simp at hi; omega
      cases hbd : badSeg ((ds.take (clD ds))[i]) with
      | false => rfl
      | true =>
        refine absurd (role_bad ds i _ ?_ hbd) (clD_notBad ds h2 i hi2)
        rw [List.getElem_take]
        exact List.getElem?_eq_getElem _
end Go.Proofs.YtfegbfhkmdmheaaDoor
