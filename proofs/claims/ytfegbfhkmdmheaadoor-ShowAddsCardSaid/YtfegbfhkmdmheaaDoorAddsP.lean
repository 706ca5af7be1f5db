/- ShowAdds: what its rounds say (pure). -/
import Derived.Test.YtfegbfhkmdmheaaDoorShKG
import Derived.Test.YtfegbfhkmdmheaaDoorBordG
set_option linter.unusedSimpArgs false
set_option linter.unusedVariables false
namespace Go.Proofs.YtfegbfhkmdmheaaDoor
open Go.RowKit Go.Lib

/-- where the n-th cluster begins; the text's end behind the last -/
def plX (s : ByteArray) (n : Nat) : Nat := match (pcs s)[n]? with
  | some x => x.1
  | none => s.size
theorem plX_some {s : ByteArray} {n : Nat} {x : Nat × ByteArray} (h : (pcs s)[n]? = some x) : plX s n = x.1 := by unfold plX; rw [h]
theorem plX_bord (s : ByteArray) (n : Nat) (hn : n ≤ (pcs s).length) : ∃ k, IsBord s k ∧ plX s n = placeAt s k ∧ clsB (s.extract 0 (placeAt s k)) = (clsB s).take n ∧ clsB (s.extract (placeAt s k) s.size) = (clsB s).drop n := by
  obtain ⟨k, hk, hd, h1, h2⟩ := cls_cut s n hn
  refine ⟨k, hk, ?_, h1, h2⟩
  rcases Nat.lt_or_ge n (pcs s).length with h | h
  · rw [plX_some (drop_at s n k hd h).2]
  · obtain rfl : n = (pcs s).length := by omega
    unfold plX
    rw [List.getElem?_eq_none (Nat.le_refl _), drop_none s k hk hd, placeAt_all]
theorem plX_zero (s : ByteArray) : plX s 0 = 0 := by
  rcases Nat.lt_or_ge 0 (pcs s).length with h | h
  · rw [plX_some (drop_at s 0 0 rfl h).2]
    exact placeAt_zero s
  · have hl : (pcs s).length = 0 := by omega
    have h0 := drop_none s 0 .zero (by rw [hl]; rfl)
    unfold plX
    rw [List.getElem?_eq_none h]
    show s.size = 0
    rw [← placeAt_all s, ← h0]
    exact placeAt_zero s
/-- the best border behind n rounds -/
def bstX (s : ByteArray) (F n : Nat) : Nat := plX s (min (n - 1) F)
theorem adds_round (rz wd : Bool) (tb : Int) (s : ByteArray) (wl : Int) (c n : Nat) (x : Nat × ByteArray) (hx : (pcs s)[n]? = some x) :
    ∃ a b z : Nat, wideZ rz wd tb (s.extract 0 x.1) c = a ∧ wideZ rz wd tb (s.extract x.1 s.size) (c + a) = b ∧ wideZ rz wd tb (s.extract 0 x.1) 0 = z ∧ a + b = wideZ rz wd tb s c ∧
      a = sumW rz wd (tabN tb) ((clsB s).take n) c ∧ sumW rz wd (tabN tb) ((clsB s).take (n - 1)) c ≤ a ∧ a ≤ 16 * (pcs s).length ∧ b ≤ 16 * (pcs s).length ∧ z ≤ 16 * (pcs s).length ∧ x.1 ≤ s.size ∧
      ((z : Int) ≤ wl → x.1 = bstX s (fitN rz wd (tabN tb) wl (clsB s) 0) (n + 1)) ∧ (¬ (z : Int) ≤ wl → bstX s (fitN rz wd (tabN tb) wl (clsB s) 0) n = bstX s (fitN rz wd (tabN tb) wl (clsB s) 0) (n + 1)) := by
  have hn : n < (pcs s).length := (List.getElem?_eq_some_iff.1 hx).1
  obtain ⟨k, hk, hp, h1, h2⟩ := plX_bord s n (by omega)
  rw [plX_some hx] at hp
  rw [hp]
  refine ⟨_, _, _, rfl, rfl, rfl, ?_, ?_, ?_, ?_, ?_, ?_, ?_, ?_, ?_⟩
  · show wideZ rz wd tb (s.extract 0 (placeAt s k)) c + wideZ rz wd tb (s.extract (placeAt s k) s.size) (c + wideZ rz wd tb (s.extract 0 (placeAt s k)) c) = _
    unfold wideZ
    rw [h1, h2]
    exact wide_split rz wd tb s c n
  · unfold wideZ; rw [h1]
  · unfold wideZ; rw [h1]; exact sumW_le rz wd (tabN tb) (clsB s) c (by omega)
  · unfold wideZ
    have := sumW_bound rz wd tb (clsB (s.extract 0 (placeAt s k))) c
    rw [h1, List.length_take, clsB_len] at this
    rw [h1]
    omega
  · unfold wideZ
    refine Nat.le_trans (sumW_bound rz wd tb _ _) ?_
    rw [h2, List.length_drop, clsB_len]
    omega
  · unfold wideZ
    refine Nat.le_trans (sumW_bound rz wd tb _ _) ?_
    rw [h1, List.length_take, clsB_len]
    omega
  · exact placeAt_le s k
  · unfold wideZ
    rw [h1]
    intro hz
    unfold bstX
    rw [← hp, ← plX_some hx]
    by_cases h0 : n = 0
    · subst h0; rw [show min (0 + 1 - 1) (fitN rz wd (tabN tb) wl (clsB s) 0) = 0 by omega]
    · have := (fitN_is rz wd (tabN tb) wl (clsB s) 0 n (by omega) (by rw [clsB_len]; omega)).1 (by rw [Nat.zero_add]; exact hz)
      rw [show min (n + 1 - 1) _ = n by omega]
  · unfold wideZ
    rw [h1]
    intro hz
    unfold bstX
    by_cases h0 : n = 0
    · subst h0; rfl
    · have : ¬ n ≤ fitN rz wd (tabN tb) wl (clsB s) 0 := fun e => hz (by have := (fitN_is rz wd (tabN tb) wl (clsB s) 0 n (by omega) (by rw [clsB_len]; omega)).2 e; rwa [Nat.zero_add] at this)
      rw [show min (n + 1 - 1) (fitN rz wd (tabN tb) wl (clsB s) 0) = fitN rz wd (tabN tb) wl (clsB s) 0 by omega, show min (n - 1) (fitN rz wd (tabN tb) wl (clsB s) 0) = fitN rz wd (tabN tb) wl (clsB s) 0 by omega]
theorem adds_end (rz wd : Bool) (tb : Int) (s : ByteArray) (wl : Int) : (((wideZ rz wd tb s 0 : Nat) : Int) ≤ wl → cutZ rz wd tb s wl = s.size) ∧ (¬ ((wideZ rz wd tb s 0 : Nat) : Int) ≤ wl → cutZ rz wd tb s wl = bstX s (fitN rz wd (tabN tb) wl (clsB s) 0) (pcs s).length) := by
  have hle := fit_le rz wd tb wl s
  have hcut : cutZ rz wd tb s wl = plX s (fitN rz wd (tabN tb) wl (clsB s) 0) := rfl
  have hall : (clsB s).take (pcs s).length = clsB s := List.take_of_length_le (by rw [clsB_len]; omega)
  by_cases h0 : (pcs s).length = 0
  · have hz : s.size = 0 := by
      have := plX_zero s
      unfold plX at this
      rwa [List.getElem?_eq_none (by omega)] at this
    have hF : fitN rz wd (tabN tb) wl (clsB s) 0 = 0 := by omega
    constructor
    · intro _
      rw [hcut, hF, plX_zero, hz]
    · intro _
      rw [hcut]
      unfold bstX
      rw [hF, h0]
      rfl
  · have h := fitN_is rz wd (tabN tb) wl (clsB s) 0 (pcs s).length (by omega) (by rw [clsB_len]; omega)
    rw [hall, Nat.zero_add] at h
    constructor
    · intro hw
      have := h.1 hw
      rw [hcut, show fitN rz wd (tabN tb) wl (clsB s) 0 = (pcs s).length by omega]
      unfold plX
      rw [List.getElem?_eq_none (Nat.le_refl _)]
    · intro hw
      have : ¬ (pcs s).length ≤ fitN rz wd (tabN tb) wl (clsB s) 0 := fun e => hw (h.2 e)
      rw [hcut]
      unfold bstX
      rw [show min ((pcs s).length - 1) (fitN rz wd (tabN tb) wl (clsB s) 0) = fitN rz wd (tabN tb) wl (clsB s) 0 by omega]
theorem cut_isB (rz wd : Bool) (tb : Int) (s : ByteArray) (wl : Int) : isB s ((cutZ rz wd tb s wl : Nat) : Int) := by
  have hle := fit_le rz wd tb wl s
  obtain ⟨k, hk, hd⟩ := split_at s _ hle
  exact ⟨k, hk, by rw [cut_at rz wd tb wl s _ k rfl hk hd]⟩
theorem cut_size (rz wd : Bool) (tb : Int) (s : ByteArray) (wl : Int) : cutZ rz wd tb s wl ≤ s.size := by
  have hle := fit_le rz wd tb wl s
  obtain ⟨k, hk, hd⟩ := split_at s _ hle
  rw [cut_at rz wd tb wl s _ k rfl hk hd]
  exact placeAt_le s k
end Go.Proofs.YtfegbfhkmdmheaaDoor
