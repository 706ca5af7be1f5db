/- ScanParts, walked: there and back; what is parted where a character begins. -/
import Derived.Test.YtfegbfhkmdmheaaDoorScanD
import Derived.Test.YtfegbfhkmdmheaaDoorScanE
import Derived.Test.YtfegbfhkmdmheaaDoorSame
import Derived.BigQuiet
import Derived.Deep.QuietTactic
set_option linter.unusedSimpArgs false
set_option linter.unusedVariables false
namespace Go.Proofs.YtfegbfhkmdmheaaDoor
open Go.RowKit Go.Lib

/-! ### plain -/
def zsOf (l : List UInt8) : List Int := (runesOf l).map fun (r : Nat) => (r : Int)
theorem zsOf_len (l : List UInt8) : (zsOf l).length = (segs l).length := by simp [zsOf, runesOf]
theorem runesOf_len (l : List UInt8) : (runesOf l).length = (segs l).length := by simp [runesOf]
theorem zsOf_cells (l : List UInt8) : runeCells' (runesOf l) = (zsOf l).map (Value.int .i32) := by simp [runeCells', zsOf]
theorem clean_dec (l : List UInt8) : ∀ d ∈ segs l, clean (d.1 : Int) = d.1 := by
  induction l using walk_ind with
  | h0 => intro d hd; simp [segs_nil] at hd
  | h1 l h ih =>
    intro d hd
    rw [segs_cons l h] at hd
    rcases List.mem_cons.1 hd with rfl | hd
    · have := (dec_facts l h).2.2.2.2.2.2
      unfold clean Utf8.valid
      rw [if_pos (by simp; omega)]
      simp
    · exact ih d hd
theorem map_clean (xs : List Nat) : (∀ r ∈ xs, clean (r : Int) = r) → (xs.map fun (r : Nat) => (r : Int)).map clean = xs := by
  induction xs with
  | nil => intro _; rfl
  | cons x xs ih =>
    intro h
    have h1 := h x (by simp)
    have h2 := ih fun r hr => h r (by simp [hr])
    rw [List.map_cons, List.map_cons, h1, h2]
theorem runesOf_encAll (zs : List Int) : runesOf (encAll zs) = zs.map clean := by
  unfold runesOf
  rw [segs_encAll, List.map_map]
  exact List.map_congr_left fun _ _ => rfl
theorem clean_runes (l : List UInt8) : runesOf (encAll (zsOf l)) = runesOf l := by
  rw [runesOf_encAll]
  unfold zsOf
  apply map_clean
  intro r hr
  unfold runesOf at hr
  obtain ⟨d, hd, rfl⟩ := List.mem_map.1 hr
  exact clean_dec l d hd
theorem cleanL_list (l : List UInt8) : (cleanL l).data.toList = encAll (zsOf l) := rfl
theorem cleanL_clean (l : List UInt8) : cleanL (encAll (zsOf l)) = cleanL l := by
  unfold cleanL
  rw [clean_runes]
set_option maxRecDepth 100000 in
/-- a text without a bad byte is what its numbers make -/
theorem enc_dec (l : List UInt8) (h : l ≠ []) (hb : badSeg (dec l) = false) : enc ((dec l).1 : Int) = l.take (dec l).2 := by
  obtain ⟨f1, f2, f3, _, _, _, f7⟩ := dec_facts l h
  have hc : clean ((dec l).1 : Int) = (dec l).1 := by
    unfold clean Utf8.valid
    rw [if_pos (by simp; omega)]
    simp
  rw [enc_encN, hc]
  have hb' : ¬ ((dec l).2 = 1 ∧ (dec l).1 = 65533) := by
    intro e
    unfold badSeg at hb
    simp [e] at hb
  clear hb hc f7
  have h0 := gb_lt l 0
  have h1 := gb_lt l 1
  have h2 := gb_lt l 2
  have h3 := gb_lt l 3
  have ext : ∀ (k : Nat) (bs : List UInt8), bs.length = k → k ≤ l.length → (∀ j (hj : j < bs.length), (bs[j]'hj).toNat = gb l j) → bs = l.take k := by
    intro k bs hk hkl hall
    apply List.ext_getElem
    · simp; omega
    · intro j hj1 hj2
      simp only [List.getElem_take]
      apply UInt8.toNat_inj.1
      rw [hall j hj1]
      unfold gb
      simp [List.getD, List.getElem?_eq_getElem (show j < l.length by omega)]
  obtain ⟨x, hx⟩ : ∃ x, dec l = x := ⟨_, rfl⟩
  rw [hx] at f1 f2 f3 hb' ⊢
  unfold dec decodeN at hx
  unfold encN
  repeat' split at hx
  all_goals subst hx
  all_goals try (exfalso; simp at hb'; done)
  · rw [if_pos (by assumption)]
    refine ext 1 _ rfl (by simpa using f3) ?_
    intro j hj
    have : j = 0 := by simpa using hj
    subst this
    simp only [List.getElem_cons_zero]
    rw [nat8 _ (by omega)]
  · simp only at f3
    rw [if_neg (by simp only; omega), if_pos (by simp only; omega)]
    refine ext 2 _ rfl f3 ?_
    intro j hj
    have : j = 0 ∨ j = 1 := by simp at hj; omega
    rcases this with rfl | rfl
    · simp only [List.getElem_cons_zero]; rw [nat8 _ (by omega)]; omega
    · simp only [List.getElem_cons_succ, List.getElem_cons_zero]; rw [nat8 _ (by omega)]; omega
  · simp only at f3
    rw [if_neg (by simp only; omega), if_neg (by simp only; omega), if_pos (by simp only; omega)]
    refine ext 3 _ rfl f3 ?_
    intro j hj
    have : j = 0 ∨ j = 1 ∨ j = 2 := by simp at hj; omega
    rcases this with rfl | rfl | rfl
    · simp only [List.getElem_cons_zero]; rw [nat8 _ (by omega)]; omega
    · simp only [List.getElem_cons_succ, List.getElem_cons_zero]; rw [nat8 _ (by omega)]; omega
    · simp only [List.getElem_cons_succ, List.getElem_cons_zero]; rw [nat8 _ (by omega)]; omega
  · simp only at f3
    rw [if_neg (by simp only; omega), if_neg (by simp only; omega), if_neg (by simp only; omega)]
    refine ext 4 _ rfl f3 ?_
    intro j hj
    have : j = 0 ∨ j = 1 ∨ j = 2 ∨ j = 3 := by simp at hj; omega
    rcases this with rfl | rfl | rfl | rfl
    · simp only [List.getElem_cons_zero]; rw [nat8 _ (by omega)]; omega
    · simp only [List.getElem_cons_succ, List.getElem_cons_zero]; rw [nat8 _ (by omega)]; omega
    · simp only [List.getElem_cons_succ, List.getElem_cons_zero]; rw [nat8 _ (by omega)]; omega
    · simp only [List.getElem_cons_succ, List.getElem_cons_zero]; rw [nat8 _ (by omega)]; omega
theorem clean_valid (l : List UInt8) : okSegs l = true → encAll (zsOf l) = l := by
  induction l using walk_ind with
  | h0 => intro _; rfl
  | h1 l h ih =>
    intro hok
    unfold okSegs at hok
    rw [segs_cons l h, List.all_cons, Bool.and_eq_true] at hok
    have hz : zsOf l = ((dec l).1 : Int) :: zsOf (l.drop (dec l).2) := by
      unfold zsOf runesOf
      rw [segs_cons l h]
      rfl
    rw [hz, encAll_cons, ih hok.2, enc_dec l h (by simpa using hok.1)]
    exact List.take_append_drop _ _
theorem badPos_nil (xs : List (Nat × Nat)) : ∀ p, decide ((badPos p xs).length = 0) = xs.all fun d => !badSeg d := by
  induction xs with
  | nil => intro p; rfl
  | cons d xs ih =>
    intro p
    unfold badPos
    rw [List.all_cons, ← ih (p + d.2)]
    cases badSeg d <;> simp
theorem bads_ok (l : List UInt8) : decide ((badsOf l).length = 0) = okSegs l := badPos_nil _ 0
theorem runes_parts {l : List UInt8} {k : Nat} (h : Border l k) : zsOf (l.take k) ++ zsOf (l.drop k) = zsOf l := by
  unfold zsOf runesOf
  rw [← List.map_append, ← List.map_append, segs_parts h]

end Go.Proofs.YtfegbfhkmdmheaaDoor
