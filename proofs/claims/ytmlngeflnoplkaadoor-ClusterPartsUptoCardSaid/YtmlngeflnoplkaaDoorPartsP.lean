/- A text with a byte between two others that belongs to no character; pure. -/
import Derived.Test.YtmlngeflnoplkaaDoorRowG
namespace Go.Proofs.YtmlngeflnoplkaaDoor
open Go.RowKit Go.Lib

theorem dec_none (l : List UInt8) (h : 245 ≤ gb l 0) (h2 : gb l 0 < 256) : dec l = (65533, 1) := by
  unfold dec decodeN
  rw [if_neg (by omega), if_neg (by omega), if_neg (by omega)]
  split
  · rename_i hc
    rw [if_neg (by omega)]
  · rfl
theorem clD_behind (d : Nat × Nat) : clD [d, (65533, 1)] = 1 := by
  have h1 : roleD [d, (65533, 1)] 1 = 1 := rfl
  unfold clD
  rw [if_neg (by simp)]
  by_cases h14 : roleD [d, (65533, 1)] 0 = 1 ∨ roleD [d, (65533, 1)] 0 = 4
  · rw [if_pos h14]
  rw [if_neg h14]
  by_cases h2 : roleD [d, (65533, 1)] 0 = 2
  · rw [if_pos h2, if_neg (by rw [h1]; decide)]
  rw [if_neg h2]
  unfold runD
  rw [if_neg]
  rintro ⟨_, _, hg⟩
  unfold goesD at hg
  rw [h1] at hg
  simp [syl] at hg
theorem clD_ahead (d : Nat × Nat) : clD [(65533, 1), d] = 1 := by
  unfold clD
  rw [if_neg (by simp), if_pos (.inl rfl)]

section parts
variable (a b : ByteArray) (x : UInt8) (hx : 245 ≤ x.toNat)
abbrev joined (a b : ByteArray) (x : UInt8) : ByteArray := a ++ ⟨#[x]⟩ ++ b
theorem joined_list : (joined a b x).data.toList = a.data.toList ++ x :: b.data.toList := by simp [joined]
include hx
theorem joined_segs : segs (joined a b x).data.toList = segs a.data.toList ++ (65533, 1) :: segs b.data.toList := by
  have hl := joined_list a b x
  have hg : gb (joined a b x).data.toList a.data.toList.length = x.toNat := by rw [hl]; simp [gb]
  have hlt : a.data.toList.length < (joined a b x).data.toList.length := by rw [hl]; simp
  have hbd := border_start (l := (joined a b x).data.toList) a.data.toList.length hlt (by rw [hg]; have := UInt8.toNat_lt x; omega)
  have h := segs_parts hbd
  rw [← h, hl, List.take_left, List.drop_left, segs_cons (x :: b.data.toList) (by simp)]
  have hd : dec (x :: b.data.toList) = (65533, 1) := dec_none _ (by simpa [gb] using hx) (by simpa [gb] using UInt8.toNat_lt x)
  rw [hd]
  rfl
theorem joined_chars : chars (joined a b x) = chars a + 1 + chars b := by
  unfold chars
  rw [joined_segs a b x hx]
  simp
  omega
theorem joined_place : placeAt (joined a b x) (chars a) = a.size := by
  unfold placeAt
  rw [joined_segs a b x hx, List.take_left' (show (segs a.data.toList).length = chars a from rfl), total_segs, size_list]
theorem joined_place1 : placeAt (joined a b x) (chars a + 1) = a.size + 1 := by
  unfold placeAt
  have e : (segs a.data.toList ++ (65533, 1) :: segs b.data.toList).take (chars a + 1) = segs a.data.toList ++ [(65533, 1)] := by
    rw [List.take_append]
    have h1 : (segs a.data.toList).take (chars a + 1) = segs a.data.toList := List.take_of_length_le (by have : (segs a.data.toList).length = chars a := rfl; omega)
    have h2 : chars a + 1 - (segs a.data.toList).length = 1 := by have : (segs a.data.toList).length = chars a := rfl; omega
    rw [h1, h2]
    rfl
  rw [joined_segs a b x hx, e, total_append, total_segs, size_list]
  rfl
theorem joined_sign : sign (joined a b x) (chars a) = (65533, 1) := by
  unfold sign
  rw [joined_segs a b x hx, List.getD_eq_getElem?_getD, List.getElem?_append_right (show (segs a.data.toList).length ≤ chars a from Nat.le_refl _), show chars a - (segs a.data.toList).length = 0 from Nat.sub_self _]
  rfl
theorem joined_bord : IsBord (joined a b x) (chars a) := by
  have hc := joined_chars a b x hx
  refine cert_bord _ _ (by omega) ?_
  have hr : roleAt (joined a b x) (chars a) = 1 := by
    unfold roleAt
    rw [sign_at (by omega), joined_sign a b x hx]
    rfl
  unfold certB
  rw [hr, joined_sign a b x hx, clD_behind]
  simp
theorem joined_bord1 : IsBord (joined a b x) (chars a + 1) := by
  have hc := joined_chars a b x hx
  rcases Nat.lt_or_ge (chars a + 1) (chars (joined a b x)) with h | h
  · refine cert_bord _ _ h ?_
    unfold certB
    rw [Nat.add_sub_cancel, joined_sign a b x hx, clD_ahead]
    simp
  · rw [show chars a + 1 = chars (joined a b x) by omega]
    exact isBord_all _
/-- its clusters -/
theorem joined_pcs : ∃ M, pcs (joined a b x) = pcs a ++ (a.size, ⟨#[x]⟩) :: M ∧ M.length = (pcs b).length ∧
    ∀ (i : Nat) (y z : Nat × ByteArray), M[i]? = some y → (pcs b)[i]? = some z → y.2 = z.2 ∧ y.1 = z.1 + (a.size + 1) := by
  have hc := joined_chars a b x hx
  have h0 := joined_bord a b x hx
  have h1 := joined_bord1 a b x hx
  have hp0 := joined_place a b x hx
  have hp1 := joined_place1 a b x hx
  have hsz : (joined a b x).size = a.size + 1 + b.size := by
    rw [← size_list, joined_list]
    simp
    omega
  have hce : clEnd (joined a b x) (chars a) = chars a + 1 := by
    have := isBord_lt h0 h1 (by omega)
    have := (clEnd_bounds (s := joined a b x) (i := chars a) (by omega)).1
    omega
  have ha : (joined a b x).extract 0 a.size = a := by
    apply ByteArray.ext
    apply Array.toList_inj.1
    rw [take_list, joined_list, ← size_list, List.take_left]
  have hm : (joined a b x).extract a.size (a.size + 1) = ⟨#[x]⟩ := by
    apply ByteArray.ext
    apply Array.toList_inj.1
    simp [joined, ByteArray.data_extract, ByteArray.data_append]
  have hb : (joined a b x).extract (a.size + 1) (joined a b x).size = b := by
    apply ByteArray.ext
    apply Array.toList_inj.1
    rw [drop_list, joined_list, ← size_list, List.drop_append]
    simp
  have e1 := bords_pcs (joined a b x) (chars a) h0 (chars a) 0 .zero (Nat.zero_le _) (Nat.le_refl _)
  have e2 := cut_full (joined a b x) 0 (chars a) .zero h0 (Nat.zero_le _) (chars a) (chars ((joined a b x).extract (placeAt (joined a b x) 0) (placeAt (joined a b x) (chars a)))) 0 .zero (Nat.zero_le _) (by omega) (by rw [cut_chars (joined a b x) 0 (chars a) (Nat.zero_le _) (by omega)]; omega)
  rw [placeAt_zero, hp0, ha] at e2
  have e3 : pcs a = (bords (joined a b x) (chars a) 0 (chars a)).map (pc (joined a b x)) := e2
  rw [← e3, pcsF_step _ _ (show chars a < chars (joined a b x) by omega), hce, hp0, hp1, hm] at e1
  have hd := drop_cut (joined a b x) (chars a + 1) h1
  rw [hp1, hb] at hd
  exact ⟨_, e1, hd.1.symm, hd.2⟩
end parts
end Go.Proofs.YtmlngeflnoplkaaDoor
