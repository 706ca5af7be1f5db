/- The columns of a text's two parts, cut at a border; where Cut cuts (pure). -/
import Derived.Test.YtfegbfhkmdmheaaDoorShAG
import Derived.Test.YtfegbfhkmdmheaaDoorLastG
set_option linter.unusedSimpArgs false
set_option linter.unusedVariables false
namespace Go.Proofs.YtfegbfhkmdmheaaDoor
open Go.RowKit Go.Lib

/-- cut at the n-th cluster -/
theorem cls_cut (s : ByteArray) (n : Nat) (hn : n ≤ (pcs s).length) : ∃ k, IsBord s k ∧ (pcs s).drop n = pcsF s (chars s) k ∧ clsB (s.extract 0 (placeAt s k)) = (clsB s).take n ∧ clsB (s.extract (placeAt s k) s.size) = (clsB s).drop n := by
  obtain ⟨k, hk, hd⟩ := split_at s n hn
  refine ⟨k, hk, hd, ?_, ?_⟩
  · unfold clsB
    rw [take_cut s n k hn hk hd, List.map_take]
  · obtain ⟨h1, h2⟩ := drop_cut s k hk
    unfold clsB
    rw [← List.map_drop, hd]
    apply List.ext_getElem?
    intro i
    rw [List.getElem?_map, List.getElem?_map]
    cases hx : (pcsF s (chars s) k)[i]? with
    | none =>
      have := List.getElem?_eq_none_iff.1 hx
      rw [List.getElem?_eq_none (by omega)]
    | some x =>
      have hi := (List.getElem?_eq_some_iff.1 hx).1
      have hy := List.getElem?_eq_getElem (show i < (pcs (s.extract (placeAt s k) s.size)).length by omega)
      rw [hy]
      have := (h2 i x _ hx hy).1
      simp [this]
theorem wide_split (rz wd : Bool) (tb : Int) (s : ByteArray) (c n : Nat) : sumW rz wd (tabN tb) ((clsB s).take n) c + sumW rz wd (tabN tb) ((clsB s).drop n) (c + sumW rz wd (tabN tb) ((clsB s).take n) c) = wideZ rz wd tb s c := by
  unfold wideZ
  rw [← sumW_append, List.take_append_drop]
theorem fit_le (rz wd : Bool) (tb : Int) (w : Int) (s : ByteArray) : fitN rz wd (tabN tb) w (clsB s) 0 ≤ (pcs s).length := by
  have := fitN_le rz wd (tabN tb) w (clsB s) 0
  rwa [clsB_len] at this
theorem fit_neg (rz wd : Bool) (tb : Nat) (w : Int) (h : w < 0) (L : List (List UInt8)) (c : Nat) : fitN rz wd tb w L c = 0 := by
  cases L with
  | nil => rfl
  | cons k L =>
    unfold fitN
    rw [if_pos (by omega)]
/-- where Cut cuts: ahead of the first cluster that has no place -/
theorem cut_at (rz wd : Bool) (tb : Int) (w : Int) (s : ByteArray) (n k : Nat) (hn : fitN rz wd (tabN tb) w (clsB s) 0 = n) (hk : IsBord s k) (hd : (pcs s).drop n = pcsF s (chars s) k) : cutZ rz wd tb s w = placeAt s k := by
  have hle := fit_le rz wd tb w s
  unfold cutZ
  rw [hn] at hle ⊢
  rcases Nat.lt_or_ge n (pcs s).length with h | h
  · rw [(drop_at s n k hd h).2]
  · obtain rfl : n = (pcs s).length := by omega
    rw [List.getElem?_eq_none (Nat.le_refl _), drop_none s k hk hd, placeAt_all]
end Go.Proofs.YtfegbfhkmdmheaaDoor

/- What is shown of one cluster, in the program's words and in the document's (pure). -/
namespace Go.Proofs.YtfegbfhkmdmheaaDoor
open Go.RowKit Go.Lib

theorem clu_good {k : List UInt8} (h : Clu k) (hb : ¬ ((dec k).1 = 65533 ∧ (dec k).2 = 1)) : ∀ d ∈ segs k, badSeg d = false := by
  intro d hd
  obtain ⟨i, hi, rfl⟩ := List.getElem_of_mem hd
  cases hbd : badSeg ((segs k)[i]) with
  | false => rfl
  | true =>
    rcases Nat.lt_or_ge (segs k).length 2 with h2 | h2
    · obtain rfl : i = 0 := by omega
      exfalso
      apply hb
      have e : (segs k)[0] = dec k := by
        have := segs_cons k h.1
        simp [this]
      rw [e] at hbd
      unfold badSeg at hbd
      simp at hbd
      exact ⟨hbd.2, hbd.1⟩
    · exact absurd (role_bad (segs k) i _ (List.getElem?_eq_getElem hi) hbd) (clD_notBad (segs k) (by rw [h.2.1]; exact h2) i (by rw [h.2.1]; exact hi))
theorem circ_clu {k : List UInt8} (h : Clu k) (raw wid : Bool) (stop : Nat) : oneZ (circP k) raw wid stop k = oneZ (circD k) raw wid stop k := by
  by_cases hb : (dec k).1 = 65533 ∧ (dec k).2 = 1
  · unfold oneZ
    dsimp only
    rw [if_neg h.1, if_neg h.1, if_pos hb, if_pos hb]
  · rw [circ_same (clu_good h hb) h.2.2]
/-- the document's words on one cluster are the program's -/
theorem doc_clu {k : List UInt8} (h : Clu k) (raw wid : Bool) (stop : Nat) : oneY (circD k) raw wid stop k = oneZ (circP k) raw wid stop k := by
  rw [h.same, ← circ_clu h]
/-- the first cluster of a text is one, if there is any -/
theorem first_clu {l : List UInt8} (h : l ≠ []) : Clu (firstK l) := by
  obtain ⟨s, rfl⟩ : ∃ s : ByteArray, l = s.data.toList := ⟨⟨l.toArray⟩, by simp⟩
  have hc : 0 < chars s := by
    have := List.length_pos_iff.2 (segs_ne _ h)
    exact this
  have := cut_clu (s := s) (i := 0) hc
  have e : (s.extract (placeAt s 0) (placeAt s (clEnd s 0))).data.toList = firstK s.data.toList := by
    rw [placeAt_zero, take_list]
    unfold firstK placeAt clEnd
    simp
  rwa [e] at this
theorem first_nil : firstK [] = [] := by
  unfold firstK
  simp
/-- one cluster's first cluster is itself -/
theorem first_self {k : List UInt8} (h : Clu k) : firstK k = k := by
  unfold firstK
  rw [h.2.1, List.take_of_length_le (Nat.le_refl _), total_segs, List.take_length]
end Go.Proofs.YtfegbfhkmdmheaaDoor
