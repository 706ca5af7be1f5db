/- NormParts (pure): a text parted ahead of a starter is taken apart part by part. -/
import Derived.Test.YtjkakemlhhieoaaGreatDoorNormG
set_option linter.unusedSimpArgs false
set_option linter.unusedVariables false
namespace Go.Proofs.YtjkakemlhhieoaaGreatDoor
open Go.RowKit Go.Lib

theorem items_parts {l : List UInt8} {k : Nat} (h : Border l k) : items (l.take k) ++ items (l.drop k) = items l := by
  induction h with
  | zero l => simp [items_nil]
  | step l k hl hb ih =>
    have h1 := dec_pos l
    have h2 := dec_le l hl
    have hb := border_le hb
    simp only [List.length_drop] at hb
    have ht : dec (l.take ((dec l).2 + k)) = dec l := dec_take l _ (by omega) (by omega) (by omega)
    have hne : l.take ((dec l).2 + k) ≠ [] := by
      intro e
      have := congrArg List.length e
      simp only [List.length_take, List.length_nil] at this
      omega
    have hg : gb (l.take ((dec l).2 + k)) 0 = gb l 0 := by rw [gb_take, if_pos (by omega)]
    have hh : headI (l.take ((dec l).2 + k)) = headI l := by unfold headI; rw [ht, hg]
    rw [items_step _ hne, hh, ht, items_step l hl, List.cons_append]
    congr 1
    rw [← ih, List.drop_take, List.drop_drop]
    simp

theorem lookI_val {l : List (List Int × Int)} {z r : Int} : lookI l z r = z ∨ ∃ x ∈ l, lookI l z r = x.2 := by
  induction l with
  | nil => exact .inl rfl
  | cons x t ih =>
    unfold lookI
    cases hx : hasI x.1 r with
    | true => exact .inr ⟨x, List.mem_cons_self .., rfl⟩
    | false =>
      rcases ih with h | ⟨y, hy, h⟩
      · exact .inl h
      · exact .inr ⟨y, List.mem_cons_of_mem _ hy, h⟩
theorem first_mark_l : ((greekT ++ cyrT ++ greatT ++ smallT).all fun x => markZ x.2 == 0) = true := by decide +kernel
theorem first_mark_k : ((List.range 192).all fun i => (markZ (kanaZ (12352 + (i : Int))).1 == 0) || decide ((kanaZ (12352 + (i : Int))).2 = 0)) = true := by decide +kernel
theorem first_mark_h : ((List.range 20).all fun i => markZ (4352 + (i : Int)) == 0) = true := by decide +kernel
theorem look_mark {t : List (List Int × Int)} (r : Int) (h : ∀ x ∈ t, markZ x.2 = 0) : markZ (lookI t 0 r) = 0 := by
  rcases lookI_val (l := t) (z := 0) (r := r) with e | ⟨x, hx, e⟩
  · rw [e]; exact markZ_zero
  · rw [e]; exact h x hx
theorem all_range {n : Nat} {p : Nat → Bool} (h : ((List.range n).all p) = true) {k : Int} (h0 : 0 ≤ k) (h1 : k < n) : p k.toNat = true :=
  List.all_eq_true.1 h k.toNat (List.mem_range.2 (by omega))
theorem letter_mark (r : Int) : markZ (letterZ r) = 0 := by
  have hl : ∀ x ∈ greekT ++ cyrT ++ greatT ++ smallT, markZ x.2 = 0 := fun x hx => eq_of_beq (List.all_eq_true.1 first_mark_l x hx)
  unfold letterZ
  split
  · exact look_mark r fun x hx => hl x (by simp [hx])
  · split
    · exact look_mark r fun x hx => hl x (by simp [hx])
    · split
      · exact look_mark r fun x hx => hl x (by simp [hx])
      · exact look_mark r fun x hx => hl x (by simp [hx])
/-- what a pair begins with is a starter -/
theorem parts_mark (r : Int) (h : (partsZ r).2 ≠ 0) : markZ (partsZ r).1 = 0 := by
  unfold partsZ at h ⊢
  by_cases h1 : r < 192
  · rw [if_pos h1] at h; exact absurd rfl h
  · rw [if_neg h1] at h ⊢
    by_cases h2 : 44032 ≤ r ∧ r < 55204
    · rw [if_pos h2]
      unfold sylZ
      have hm0 := Int.tmod_nonneg (28 : Int) (show (0 : Int) ≤ r - 44032 by omega)
      have hm := Int.tmod_lt_of_pos (r - 44032) (show (0 : Int) < 28 by decide)
      have hd0 := Int.tdiv_nonneg (show (0 : Int) ≤ r - 44032 by omega) (show (0 : Int) ≤ 28 by decide)
      have hd1 : (r - 44032).tdiv 28 < 399 := by rw [Int.tdiv_eq_ediv_of_nonneg (by omega)]; omega
      have hq0 := Int.tdiv_nonneg hd0 (show (0 : Int) ≤ 21 by decide)
      have hq1 : ((r - 44032).tdiv 28).tdiv 21 < 20 := by rw [Int.tdiv_eq_ediv_of_nonneg hd0]; omega
      have he := Int.tmod_add_mul_tdiv (r - 44032) 28
      split
      · exact mark_syll _ (by show 44032 ≤ r - (r - 44032).tmod 28 ∧ r - (r - 44032).tmod 28 ≤ 55203; omega)
      · have := eq_of_beq (all_range first_mark_h hq0 hq1)
        rw [show ((((r - 44032).tdiv 28).tdiv 21).toNat : Int) = ((r - 44032).tdiv 28).tdiv 21 by omega] at this
        exact this
    · rw [if_neg h2] at h ⊢
      by_cases h3 : 12352 ≤ r ∧ r < 12544
      · rw [if_pos h3] at h ⊢
        have := all_range first_mark_k (show (0 : Int) ≤ r - 12352 by omega) (show r - 12352 < (192 : Nat) by omega)
        rw [show 12352 + (((r - 12352).toNat : Nat) : Int) = r by omega] at this
        rcases Bool.or_eq_true_iff.1 this with e | e
        · exact eq_of_beq e
        · exact absurd (of_decide_eq_true e) h
      · rw [if_neg h3]
        exact letter_mark r
theorem single_mark (r : Int) (h : markZ r = 0) : markZ (singleZ r) = 0 := by
  unfold singleZ
  split
  · decide +kernel
  · split
    · decide +kernel
    · split
      · decide +kernel
      · exact h
theorem splitF_first : ∀ (f : Nat) (r : Int), markZ r = 0 → ∃ q t, splitF f r = q :: t ∧ markZ q = 0
  | 0, r, h => ⟨_, _, rfl, single_mark r h⟩
  | f + 1, r, h => by
    unfold splitF
    by_cases c : (stepZ r).2 = 0
    · rw [if_pos c]; exact ⟨_, _, rfl, single_mark r h⟩
    · rw [if_neg c]
      obtain ⟨q, t, e, hq⟩ := splitF_first f (stepZ r).1 (parts_mark (singleZ r) c)
      exact ⟨q, t ++ [(stepZ r).2], by rw [e]; rfl, hq⟩
/-- what a starter is taken apart into begins with a starter -/
theorem splitP_first (p : Pc) (h : p.2.1 = 0) (hm : p.2.2 = 0 → markZ p.1 = 0) : ∃ y t, splitP p = y :: t ∧ numP y = 0 := by
  unfold splitP
  by_cases c : p.2.2 = 0
  · rw [if_pos c]
    obtain ⟨q, t, e, hq⟩ := splitF_first 3 p.1 (hm c)
    exact ⟨(q, markZ q, 0), t.map fun q => (q, markZ q, 0), by unfold splitZ; rw [e]; rfl, hq⟩
  · rw [if_neg c]
    exact ⟨p, [], rfl, h⟩
theorem ordR_split {α : Type} (num : α → Nat) : ∀ (xs row : List α) (y : α) (ys : List α), num y = 0 → ordR num row (xs ++ y :: ys) = ordR num row xs ++ ordR num [] (y :: ys)
  | [], row, y, ys, h => by
    rw [List.nil_append, ordR_zero num ys row h, ordR_nil, ordR_zero num ys [] h, bucket_none, List.nil_append]
  | x :: xs, row, y, ys, h => by
    rw [List.cons_append]
    by_cases hx : num x = 0
    · rw [ordR_zero num _ row hx, ordR_zero num _ row hx, ordR_split num xs [] y ys h, List.append_assoc, List.cons_append]
    · rw [ordR_more num _ row hx, ordR_more num _ row hx, ordR_split num xs (row ++ [x]) y ys h]
theorem textP_append (a b : List Pc) : textP (a ++ b) = textP a ++ textP b := by simp [textP]
/-- does a starter, or a byte that is no character, stand at the head? -/
def startsZ (l : List UInt8) : Prop := markZ (dec l).1 = 0 ∨ (dec l).2 = 1 ∧ (dec l).1 = 65533
theorem mark_bad : markZ 65533 = 0 := by decide +kernel
theorem starts_mark {l : List UInt8} (h : startsZ l) : markZ (dec l).1 = 0 := by
  rcases h with h | h
  · exact h
  · rw [h.2]; exact mark_bad
theorem apartS_parts {l : List UInt8} {k : Nat} (hb : Border l k) (hk : k < l.length) (hs : startsZ (l.drop k)) : apartS l = apartS (l.take k) ++ apartS (l.drop k) := by
  have hne : l.drop k ≠ [] := by
    intro e
    have := congrArg List.length e
    rw [List.length_drop, List.length_nil] at this
    omega
  have hm := starts_mark hs
  have h1 : (headI (l.drop k)).2.1 = 0 := by
    unfold headI
    split
    · rfl
    · exact hm
  have h2 : (headI (l.drop k)).2.2 = 0 → markZ (headI (l.drop k)).1 = 0 := by
    unfold headI
    split
    · intro _; exact markZ_zero
    · intro _; exact hm
  obtain ⟨y, t, e, hy⟩ := splitP_first _ h1 h2
  unfold apartS
  rw [← textP_append]
  congr 1
  unfold apartP ordZ
  rw [rawP_items l, rawP_items (l.take k), rawP_items (l.drop k), ← items_parts hb, items_step (l.drop k) hne, List.flatMap_append, List.flatMap_cons, e, List.cons_append, ordR_split numP _ _ y _ hy]
end Go.Proofs.YtjkakemlhhieoaaGreatDoor
