/- What a reader tells of a text, and what it holds: pure. -/
import Derived.Test.YtfegbfhkmdmheaaDoorFull
import Derived.Test.YtfegbfhkmdmheaaDoorScanD
set_option linter.unusedSimpArgs false
set_option linter.unusedVariables false
namespace Go.Proofs.YtfegbfhkmdmheaaDoor
open Go.RowKit Go.Lib

/-- of 'l' the numbers 't' are told, and 'r' is held -/
inductive Fed : List UInt8 → List Nat → List UInt8 → Prop
  | stop (l : List UInt8) : (l = [] ∨ full l = false) → Fed l [] l
  | step (l : List UInt8) (t : List Nat) (r : List UInt8) : l ≠ [] → full l = true → Fed (l.drop (dec l).2) t r → Fed l ((dec l).1 :: t) r

theorem fed_ex : ∀ l, ∃ t r, Fed l t r := by
  intro l
  induction l using walk_ind with
  | h0 => exact ⟨_, _, .stop [] (.inl rfl)⟩
  | h1 l h ih =>
    cases hf : full l with
    | false => exact ⟨_, _, .stop l (.inr hf)⟩
    | true =>
      obtain ⟨t, r, k⟩ := ih
      exact ⟨_, _, .step l t r h hf k⟩
theorem fed_runes {l r : List UInt8} {t : List Nat} (h : Fed l t r) : runesOf l = t ++ runesOf r := by
  induction h with
  | stop l _ => rfl
  | step l t r hl _ _ ih =>
    unfold runesOf at ih ⊢
    rw [segs_cons l hl, List.map_cons, ih]
    rfl
theorem fed_rest {l r : List UInt8} {t : List Nat} (h : Fed l t r) : r = [] ∨ full r = false := by
  induction h with
  | stop l h => exact h
  | step _ _ _ _ _ _ ih => exact ih
theorem fed_len {l r : List UInt8} {t : List Nat} (h : Fed l t r) : r.length + t.length ≤ l.length := by
  induction h with
  | stop l h => simp
  | step l t r hl _ _ ih =>
    have := dec_pos l
    have := dec_le l hl
    simp at ih ⊢
    omega

theorem firstT_other {y : Nat} (h : y < 128 ∨ 128 ≤ y ∧ y < 194 ∨ 245 ≤ y) : 240 ≤ firstT y := by
  unfold firstT
  rcases h with h | h | h
  · rw [if_pos h]
    omega
  · rw [if_neg (by omega), if_pos (by omega)]
    omega
  · rw [if_neg (by omega), if_neg (by omega), if_neg (by omega), if_neg (by omega), if_neg (by omega), if_neg (by omega), if_neg (by omega), if_neg (by omega), if_neg (by omega), if_neg (by omega)]
    omega
/-- the table's form of a first character, by its first byte -/
theorem dec_slow (l : List UInt8) (h : l ≠ []) : (240 ≤ firstT (gb l 0) ∧ (dec l).2 = 1 ∧ ∀ x, dec (l ++ x) = dec l) ∨
    (∃ sz lo hi b, firstT (gb l 0) = b ∧ b < 240 ∧ b % 8 = sz ∧ 2 ≤ sz ∧ sz ≤ 4 ∧ accLo (b / 16) = lo ∧ accHi (b / 16) = hi ∧ 128 ≤ lo ∧ hi ≤ 191 ∧
      ∀ n b1 b2 b3, 1 ≤ n → b1 < 256 → b2 < 256 → b3 < 256 → decodeN n (gb l 0) b1 b2 b3 = slowN n (gb l 0) b1 b2 b3 sz lo hi) := by
  have hb := gb_lt l 0
  obtain ⟨y, hy⟩ : ∃ y, gb l 0 = y := ⟨_, rfl⟩
  have hg : ∀ x, gb (l ++ x) 0 = y := by
    intro x
    rw [← hy]
    cases l with
    | nil => exact absurd rfl h
    | cons a t => rfl
  rw [hy] at hb ⊢
  have K : ∀ n b1 b2 b3, (y < 128 ∨ 128 ≤ y ∧ y < 194 ∨ 245 ≤ y) → b1 < 256 → b2 < 256 → b3 < 256 → decodeN n y b1 b2 b3 = (if y < 128 then (y, 1) else (65533, 1)) := by
    intro n b1 b2 b3 hyy h1 h2 h3
    unfold decodeN
    repeat' split
    all_goals first | rfl | (exfalso; omega) | (apply Prod.ext <;> simp only <;> omega)
  rcases (by omega : y < 128 ∨ 128 ≤ y ∧ y < 194 ∨ 245 ≤ y ∨ 194 ≤ y ∧ y < 224 ∨ y = 224 ∨ (225 ≤ y ∧ y < 237 ∨ 238 ≤ y ∧ y < 240) ∨ y = 237 ∨ y = 240 ∨ 241 ≤ y ∧ y < 244 ∨ y = 244) with c | c | c | c | c | c | c | c | c | c
  iterate 3
    · refine .inl ⟨firstT_other (by omega), ?_, ?_⟩
      · unfold dec
        rw [hy, K _ _ _ _ (by omega) (gb_lt _ _) (gb_lt _ _) (gb_lt _ _)]
        split <;> rfl
      · intro x
        unfold dec
        rw [hy, hg, K _ _ _ _ (by omega) (gb_lt _ _) (gb_lt _ _) (gb_lt _ _), K _ _ _ _ (by omega) (gb_lt _ _) (gb_lt _ _) (gb_lt _ _)]
  · exact .inr ⟨2, 128, 191, 2, firstT_C2 c, by omega, rfl, by omega, by omega, rfl, rfl, by omega, by omega, fun n b1 b2 b3 hn h1 h2 h3 => (slow_C2 n y b1 b2 b3 hn h1 h2 h3 c).symm⟩
  · exact .inr ⟨3, 160, 191, 19, firstT_E0 c, by omega, rfl, by omega, by omega, rfl, rfl, by omega, by omega, fun n b1 b2 b3 hn h1 h2 h3 => (slow_E0 n y b1 b2 b3 hn h1 h2 h3 c).symm⟩
  · exact .inr ⟨3, 128, 191, 3, firstT_E1 c, by omega, rfl, by omega, by omega, rfl, rfl, by omega, by omega, fun n b1 b2 b3 hn h1 h2 h3 => (slow_E1 n y b1 b2 b3 hn h1 h2 h3 c).symm⟩
  · exact .inr ⟨3, 128, 159, 35, firstT_ED c, by omega, rfl, by omega, by omega, rfl, rfl, by omega, by omega, fun n b1 b2 b3 hn h1 h2 h3 => (slow_ED n y b1 b2 b3 hn h1 h2 h3 c).symm⟩
  · exact .inr ⟨4, 144, 191, 52, firstT_F0 c, by omega, rfl, by omega, by omega, rfl, rfl, by omega, by omega, fun n b1 b2 b3 hn h1 h2 h3 => (slow_F0 n y b1 b2 b3 hn h1 h2 h3 c).symm⟩
  · exact .inr ⟨4, 128, 191, 4, firstT_F1 c, by omega, rfl, by omega, by omega, rfl, rfl, by omega, by omega, fun n b1 b2 b3 hn h1 h2 h3 => (slow_F1 n y b1 b2 b3 hn h1 h2 h3 c).symm⟩
  · exact .inr ⟨4, 128, 143, 68, firstT_F4 c, by omega, rfl, by omega, by omega, rfl, rfl, by omega, by omega, fun n b1 b2 b3 hn h1 h2 h3 => (slow_F4 n y b1 b2 b3 hn h1 h2 h3 c).symm⟩

theorem full_eq (l : List UInt8) (h : l ≠ []) {sz lo hi b : Nat} (h1 : firstT (gb l 0) = b) (h2 : b < 240) (h3 : b % 8 = sz) (h4 : accLo (b / 16) = lo) (h5 : accHi (b / 16) = hi) :
    (full l = true ↔ sz ≤ l.length ∨ 1 < l.length ∧ (gb l 1 < lo ∨ hi < gb l 1) ∨ 2 < l.length ∧ (gb l 2 < 128 ∨ 191 < gb l 2)) := by
  unfold full
  rw [if_neg h, h1, if_neg (by omega), h3, h4, h5]
  repeat' split
  all_goals simp_all
  all_goals omega

theorem full_ne (l : List UInt8) (h : l ≠ []) (hd : (dec l).1 ≠ 65533) : full l = true := by
  rcases dec_slow l h with ⟨h1, _⟩ | ⟨sz, lo, hi, b, h1, h2, h3, h4, h5, h6, h7, h8, h9, hs⟩
  · unfold full
    rw [if_neg h, if_pos h1]
  · rw [full_eq l h h1 h2 h3 h6 h7]
    refine .inl ?_
    have hn := List.length_pos_iff.2 h
    unfold dec at hd
    rw [hs _ _ _ _ hn (gb_lt _ _) (gb_lt _ _) (gb_lt _ _)] at hd
    unfold slowN at hd
    split at hd
    · exact absurd rfl hd
    · omega
theorem gb_app (l x : List UInt8) (k : Nat) (h : k < l.length) : gb (l ++ x) k = gb l k := by
  unfold gb
  simp [List.getD, List.getElem?_append_left h]

set_option maxRecDepth 100000 in
set_option maxHeartbeats 2000000 in
theorem full_app (l x : List UInt8) (h : l ≠ []) (hf : full l = true) : dec (l ++ x) = dec l ∧ full (l ++ x) = true := by
  have hne : l ++ x ≠ [] := by simp [h]
  have hn := List.length_pos_iff.2 h
  have hg0 := gb_app l x 0 hn
  rcases dec_slow l h with ⟨h1, _, hx⟩ | ⟨sz, lo, hi, b, h1, h2, h3, h4, h5, h6, h7, h8, h9, hs⟩
  · refine ⟨hx x, ?_⟩
    unfold full
    rw [if_neg hne, hg0, if_pos h1]
  · rw [full_eq l h h1 h2 h3 h6 h7] at hf
    rw [full_eq (l ++ x) hne (by rw [hg0]; exact h1) h2 h3 h6 h7]
    have hlen : (l ++ x).length = l.length + x.length := by simp
    have g1 : 1 < l.length → gb (l ++ x) 1 = gb l 1 := gb_app l x 1
    have g2 : 2 < l.length → gb (l ++ x) 2 = gb l 2 := gb_app l x 2
    have g3 : 3 < l.length → gb (l ++ x) 3 = gb l 3 := gb_app l x 3
    refine ⟨?_, ?_⟩
    · unfold dec
      rw [hg0, hs _ _ _ _ (by omega) (gb_lt _ _) (gb_lt _ _) (gb_lt _ _), hs _ _ _ _ (by omega) (gb_lt _ _) (gb_lt _ _) (gb_lt _ _), hlen]
      obtain ⟨m, hm⟩ : ∃ m, l.length = m := ⟨_, rfl⟩
      obtain ⟨y0, hy0⟩ : ∃ y, gb l 0 = y := ⟨_, rfl⟩
      obtain ⟨y1, hy1⟩ : ∃ y, gb l 1 = y := ⟨_, rfl⟩
      obtain ⟨y2, hy2⟩ : ∃ y, gb l 2 = y := ⟨_, rfl⟩
      obtain ⟨y3, hy3⟩ : ∃ y, gb l 3 = y := ⟨_, rfl⟩
      obtain ⟨z1, hz1⟩ : ∃ y, gb (l ++ x) 1 = y := ⟨_, rfl⟩
      obtain ⟨z2, hz2⟩ : ∃ y, gb (l ++ x) 2 = y := ⟨_, rfl⟩
      obtain ⟨z3, hz3⟩ : ∃ y, gb (l ++ x) 3 = y := ⟨_, rfl⟩
      rw [hm, hy1, hy2] at hf
      rw [hm, hy1, hz1] at g1
      rw [hm, hy2, hz2] at g2
      rw [hm, hy3, hz3] at g3
      rw [hm, hy0, hy1, hy2, hy3, hz1, hz2, hz3]
      clear hm hy0 hy1 hy2 hy3 hz1 hz2 hz3 hs hg0 hlen h1
      unfold slowN
      repeat' split
      all_goals first | rfl | (exfalso; omega) | (apply Prod.ext <;> simp only <;> omega)
    · rw [hlen]
      rcases hf with a | ⟨a, c⟩ | ⟨a, c⟩
      · exact .inl (by omega)
      · exact .inr (.inl ⟨by omega, by rw [g1 a]; exact c⟩)
      · exact .inr (.inr ⟨by omega, by rw [g2 a]; exact c⟩)

theorem fed_app {l r : List UInt8} {t : List Nat} (h : Fed l t r) (x : List UInt8) {t2 : List Nat} {r2 : List UInt8} : Fed (r ++ x) t2 r2 → Fed (l ++ x) (t ++ t2) r2 := by
  induction h with
  | stop l _ => exact fun k => k
  | step l t r hl hf _ ih =>
    intro k
    obtain ⟨e1, e2⟩ := full_app l x hl hf
    have hd := ih k
    have h2 := dec_le l hl
    have := Fed.step (l ++ x) (t ++ t2) r2 (by simp [hl]) e2 (by rw [e1, List.drop_append_of_le_length h2]; exact hd)
    rw [e1] at this
    exact this

theorem tails_len (l : List UInt8) : (∀ k, k < l.length → 128 ≤ gb l k ∧ gb l k ≤ 191) → (segs l).length = l.length := by
  induction l using walk_ind with
  | h0 => intro _; rfl
  | h1 l h ih =>
    intro hk
    have hn := List.length_pos_iff.2 h
    have h0 := hk 0 hn
    have h1 : firstT (gb l 0) = 241 := by
      unfold firstT
      rw [if_neg (by omega), if_pos (by omega)]
    have h2 : (dec l).2 = 1 := by
      rcases dec_slow l h with ⟨_, h2, _⟩ | ⟨_, _, _, b, h2, h3, _⟩
      · exact h2
      · omega
    rw [h2] at ih
    rw [segs_cons l h, h2, List.length_cons, ih fun k hk' => ?_]
    · simp
      omega
    · rw [gb_drop]
      refine hk _ ?_
      simp at hk'
      omega
/-- what is held: few bytes, each told by itself -/
theorem fed_held {r : List UInt8} (h : r = [] ∨ full r = false) : r.length ≤ 3 ∧ (segs r).length = r.length := by
  by_cases hr : r = []
  · subst hr
    exact ⟨by simp, rfl⟩
  · have hf : full r = false := by
      rcases h with h | h
      · exact absurd h hr
      · exact h
    have hn := List.length_pos_iff.2 hr
    rcases dec_slow r hr with ⟨h1, _⟩ | ⟨sz, lo, hi, b, h1, h2, h3, h4, h5, h6, h7, h8, h9, hs⟩
    · unfold full at hf
      rw [if_neg hr, if_pos h1] at hf
      cases hf
    · have hq : ¬ (sz ≤ r.length ∨ 1 < r.length ∧ (gb r 1 < lo ∨ hi < gb r 1) ∨ 2 < r.length ∧ (gb r 2 < 128 ∨ 191 < gb r 2)) := by
        rw [← full_eq r hr h1 h2 h3 h6 h7, hf]
        simp
      have hd : (dec r).2 = 1 := by
        unfold dec
        rw [hs _ _ _ _ hn (gb_lt _ _) (gb_lt _ _) (gb_lt _ _)]
        unfold slowN
        rw [if_pos (by omega)]
      refine ⟨by omega, ?_⟩
      rw [segs_cons r hr, hd, List.length_cons, tails_len (r.drop 1) fun k hk => ?_]
      · simp
        omega
      · rw [gb_drop]
        simp at hk
        have : k = 0 ∨ k = 1 := by omega
        rcases this with rfl | rfl
        · simp only [Nat.add_zero]
          omega
        · simp only [Nat.reduceAdd]
          omega
end Go.Proofs.YtfegbfhkmdmheaaDoor
