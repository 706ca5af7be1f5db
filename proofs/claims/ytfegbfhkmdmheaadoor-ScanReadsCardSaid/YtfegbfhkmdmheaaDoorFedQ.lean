/- What is told and what is held hang on the text alone; what is held is told as so many of the number that stands for a bad byte: pure. -/
import Derived.Test.YtfegbfhkmdmheaaDoorFedP
set_option linter.unusedSimpArgs false
set_option linter.unusedVariables false
namespace Go.Proofs.YtfegbfhkmdmheaaDoor
open Go.RowKit Go.Lib

theorem fed_det {l r : List UInt8} {t : List Nat} (h : Fed l t r) : ∀ {t' : List Nat} {r' : List UInt8}, Fed l t' r' → t' = t ∧ r' = r := by
  induction h with
  | stop l h =>
    intro t' r' k
    cases k with
    | stop _ _ => exact ⟨rfl, rfl⟩
    | step _ _ _ hl hf _ =>
      rcases h with h | h
      · exact absurd h hl
      · rw [hf] at h
        cases h
  | step l t r hl hf _ ih =>
    intro t' r' k
    cases k with
    | stop _ h =>
      rcases h with h | h
      · exact absurd h hl
      · rw [hf] at h
        cases h
    | step _ t2 r2 _ _ k =>
      obtain ⟨rfl, rfl⟩ := ih k
      exact ⟨rfl, rfl⟩
theorem bad_one {l : List UInt8} (h128 : 128 ≤ gb l 0) (h194 : gb l 0 < 194) : dec l = (65533, 1) := by
  unfold dec decodeN
  have := gb_lt l 0
  repeat' split
  all_goals first | rfl | (exfalso; omega) | (apply Prod.ext <;> simp only <;> omega)
theorem tails_runes (l : List UInt8) : (∀ k, k < l.length → 128 ≤ gb l k ∧ gb l k ≤ 191) → runesOf l = List.replicate l.length 65533 := by
  unfold runesOf
  induction l using walk_ind with
  | h0 => intro _; rfl
  | h1 l h ih =>
    intro hk
    have hn := List.length_pos_iff.2 h
    have h0 := hk 0 hn
    have hd := bad_one h0.1 (by omega)
    rw [hd] at ih
    rw [segs_cons l h, hd, List.map_cons, ih fun k hk' => ?_]
    · rw [List.length_drop, ← List.replicate_succ]
      congr 1
      omega
    · rw [gb_drop]
      refine hk _ ?_
      simp at hk'
      omega
theorem held_runes {r : List UInt8} (h : r = [] ∨ full r = false) : runesOf r = List.replicate r.length 65533 := by
  by_cases hr : r = []
  · subst hr
    rfl
  · have hf : full r = false := by
      rcases h with h | h
      · exact absurd h hr
      · exact h
    have hn := List.length_pos_iff.2 hr
    rcases dec_slow r hr with ⟨h1, _⟩ | ⟨sz, lo, hi, b, h1, h2, h3, h4, h5, h6, h7, h8, h9, hs⟩
    · unfold full at hf
      rw [if_neg hr, if_pos h1] at hf
      cases hf
    · have hq : ¬ (sz ≤ r.length ∨ 1 < r.length ∧ (gb r 1 < lo ∨ hi < gb r 1) ∨ 2 < r.length ∧ (gb r 2 < 128 ∨ 191 < gb r 2)) := by
        rw [← full_eq r hr h1 h2 h3 h6 h7, hf]
        simp
      have hd : dec r = (65533, 1) := by
        unfold dec
        rw [hs _ _ _ _ hn (gb_lt _ _) (gb_lt _ _) (gb_lt _ _)]
        unfold slowN
        rw [if_pos (by omega)]
      have ht := tails_runes (r.drop 1) fun k hk => by
        rw [gb_drop]
        simp at hk
        have : k = 0 ∨ k = 1 := by omega
        rcases this with rfl | rfl
        · simp only [Nat.add_zero]
          omega
        · simp only [Nat.reduceAdd]
          omega
      unfold runesOf at ht ⊢
      rw [segs_cons r hr, hd, List.map_cons, ht, List.length_drop, ← List.replicate_succ]
      congr 1
      omega
end Go.Proofs.YtfegbfhkmdmheaaDoor
