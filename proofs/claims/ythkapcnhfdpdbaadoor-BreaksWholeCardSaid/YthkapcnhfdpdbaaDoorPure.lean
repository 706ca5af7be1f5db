/- Plain Lean, no program: how a text is gone through (the model's own decoding), from both ends; numbers as a text and back. -/
import Derived.Lib.SpaceU
import Derived.Lib.DecodeN
import Derived.Lib.DecodeNEq
set_option linter.unusedSimpArgs false
set_option linter.unusedVariables false
set_option linter.unusedVariables false
set_option linter.unusedSimpArgs false
namespace Go.Proofs.YthkapcnhfdpdbaaDoor
open Go.Lib

def gb (l : List UInt8) (i : Nat) : Nat := (l.getD i 0).toNat
theorem gb_lt (l : List UInt8) (i : Nat) : gb l i < 256 := UInt8.toNat_lt _
theorem gb_drop (l : List UInt8) (i k : Nat) : gb (l.drop i) k = gb l (i + k) := by
  unfold gb
  simp [List.getD, List.getElem?_drop]
theorem gb_take (l : List UInt8) (i k : Nat) : gb (l.take i) k = if k < i then gb l k else 0 := by
  unfold gb
  simp only [List.getD, List.getElem?_take]
  split <;> simp
theorem gb_ge (l : List UInt8) (k : Nat) (h : l.length ≤ k) : gb l k = 0 := by
  unfold gb
  simp [List.getD, List.getElem?_eq_none h]

/-- the first of a text: its number and how many bytes it has -/
def dec (l : List UInt8) : Nat × Nat := decodeN l.length (gb l 0) (gb l 1) (gb l 2) (gb l 3)

theorem gets_gb (s : ByteArray) (i : Nat) : (s.get! i).toNat = gb s.data.toList i := by
  cases s with
  | mk d =>
    show (d[i]!).toNat = (d.toList.getD i 0).toNat
    by_cases h : i < d.size
    · rw [getElem!_pos d i h]; simp [List.getD, h]
    · rw [getElem!_neg d i h]; simp [List.getD, h]; rfl
theorem size_list (s : ByteArray) : s.data.toList.length = s.size := by rw [Array.length_toList]; rfl
theorem decode_dec (s : ByteArray) (i : Nat) (h : i ≤ s.size) : Utf8.decode s i = dec (s.data.toList.drop i) := by
  rw [decode_at]
  unfold dec
  simp only [gets_gb, gb_drop, List.length_drop, size_list, Nat.add_zero]
theorem decodeL_dec (l : List UInt8) : decodeL l = dec l := by
  unfold decodeL
  rw [decode_dec _ _ (Nat.zero_le _)]
  simp

theorem decN_facts (n b0 b1 b2 b3 : Nat) (hn : 1 ≤ n) (h0 : b0 < 256) :
    1 ≤ (decodeN n b0 b1 b2 b3).2 ∧ (decodeN n b0 b1 b2 b3).2 ≤ 4 ∧ (decodeN n b0 b1 b2 b3).2 ≤ n ∧
    (2 ≤ (decodeN n b0 b1 b2 b3).2 → 192 ≤ b0 ∧ b1 / 64 = 2) ∧ (3 ≤ (decodeN n b0 b1 b2 b3).2 → b2 / 64 = 2) ∧ (4 ≤ (decodeN n b0 b1 b2 b3).2 → b3 / 64 = 2) ∧
    ((decodeN n b0 b1 b2 b3).1 < 55296 ∨ 57344 ≤ (decodeN n b0 b1 b2 b3).1 ∧ (decodeN n b0 b1 b2 b3).1 ≤ 1114111) := by
  unfold decodeN
  repeat' split
  all_goals (simp only; omega)
theorem dec_facts (l : List UInt8) (h : l ≠ []) :
    1 ≤ (dec l).2 ∧ (dec l).2 ≤ 4 ∧ (dec l).2 ≤ l.length ∧
    (2 ≤ (dec l).2 → 192 ≤ gb l 0 ∧ gb l 1 / 64 = 2) ∧ (3 ≤ (dec l).2 → gb l 2 / 64 = 2) ∧ (4 ≤ (dec l).2 → gb l 3 / 64 = 2) ∧
    ((dec l).1 < 55296 ∨ 57344 ≤ (dec l).1 ∧ (dec l).1 ≤ 1114111) :=
  decN_facts _ _ _ _ _ (List.length_pos_iff.2 h) (gb_lt _ _)
theorem dec_pos (l : List UInt8) : 1 ≤ (dec l).2 := by
  unfold dec decodeN
  repeat' split
  all_goals simp
theorem dec_le (l : List UInt8) (h : l ≠ []) : (dec l).2 ≤ l.length := (dec_facts l h).2.2.1
theorem dec_le4 (l : List UInt8) (h : l ≠ []) : (dec l).2 ≤ 4 := (dec_facts l h).2.1
theorem dec_rune (l : List UInt8) : (dec l).1 ≤ 1114111 := by
  have := gb_lt l 0
  unfold dec decodeN
  repeat' split
  all_goals (simp only; omega)
theorem dec_in (l : List UInt8) (h : l ≠ []) (k : Nat) (h0 : 0 < k) (hk : k < (dec l).2) : gb l k / 64 = 2 := by
  obtain ⟨_, h4, _, a, b, c, _⟩ := dec_facts l h
  have : k = 1 ∨ k = 2 ∨ k = 3 := by omega
  rcases this with rfl | rfl | rfl
  · exact (a (by omega)).2
  · exact b (by omega)
  · exact c (by omega)

set_option maxHeartbeats 4000000 in
theorem decN_take (n m b0 b1 b2 b3 : Nat) (hm : 1 ≤ m) (hmn : m ≤ n) (hw : (decodeN n b0 b1 b2 b3).2 ≤ m) :
    decodeN m b0 (if 1 < m then b1 else 0) (if 2 < m then b2 else 0) (if 3 < m then b3 else 0) = decodeN n b0 b1 b2 b3 := by
  by_cases m1 : 1 < m
  · by_cases m2 : 2 < m
    · by_cases m3 : 3 < m
      · have n1 : 1 < n := by omega
        have n2 : 2 < n := by omega
        have n3 : 3 < n := by omega
        simp only [m1, m2, m3, if_true, decodeN, n1, n2, n3, true_and]
      · have n1 : 1 < n := by omega
        have n2 : 2 < n := by omega
        revert hw
        simp only [m1, m2, m3, if_true, if_false, decodeN, n1, n2, true_and, false_and, and_false]
        repeat' split
        all_goals first | (intro _; rfl) | (intro hw; exfalso; simp only at hw; omega)
    · have m3 : ¬ 3 < m := by omega
      have n1 : 1 < n := by omega
      revert hw
      simp only [m1, m2, m3, if_true, if_false, decodeN, n1, true_and, false_and, and_false]
      repeat' split
      all_goals first | (intro _; rfl) | (intro hw; exfalso; simp only at hw; omega)
  · have m2 : ¬ 2 < m := by omega
    have m3 : ¬ 3 < m := by omega
    revert hw
    simp only [m1, m2, m3, if_false, decodeN, false_and, and_false]
    repeat' split
    all_goals first | (intro _; rfl) | (intro hw; exfalso; simp only at hw; omega)

theorem dec_take (l : List UInt8) (m : Nat) (hm : 1 ≤ m) (hl : m ≤ l.length) (hw : (dec l).2 ≤ m) : dec (l.take m) = dec l := by
  have h := decN_take l.length m (gb l 0) (gb l 1) (gb l 2) (gb l 3) hm hl hw
  unfold dec
  simp only [gb_take, List.length_take, Nat.min_eq_left hl]
  rw [if_pos (show 0 < m by omega)]
  exact h

/-- a text gone through from its beginning -/
def segsF : Nat → List UInt8 → List (Nat × Nat)
  | 0, _ => []
  | f + 1, l => if l = [] then [] else dec l :: segsF f (l.drop (dec l).2)
def segs (l : List UInt8) : List (Nat × Nat) := segsF l.length l

theorem segsF_nil (f : Nat) : segsF f [] = [] := by cases f <;> simp [segsF]
theorem segsF_eq : ∀ (f g : Nat) (l : List UInt8), l.length ≤ f → l.length ≤ g → segsF f l = segsF g l
  | 0, g, l, hf, _ => by
    obtain rfl : l = [] := List.eq_nil_of_length_eq_zero (by omega)
    rw [segsF_nil, segsF_nil]
  | f + 1, 0, l, _, hg => by
    obtain rfl : l = [] := List.eq_nil_of_length_eq_zero (by omega)
    rw [segsF_nil, segsF_nil]
  | f + 1, g + 1, l, hf, hg => by
    unfold segsF
    by_cases h : l = []
    · simp [h]
    · rw [if_neg h, if_neg h]
      have h1 := dec_pos l
      have hl := List.length_pos_iff.2 h
      rw [segsF_eq f g (l.drop (dec l).2) (by simp only [List.length_drop]; omega) (by simp only [List.length_drop]; omega)]
theorem segs_nil : segs [] = [] := rfl
theorem segs_cons (l : List UInt8) (h : l ≠ []) : segs l = dec l :: segs (l.drop (dec l).2) := by
  have h1 := dec_pos l
  have hl := List.length_pos_iff.2 h
  have e : segs l = segsF (l.length - 1 + 1) l := segsF_eq _ _ _ (Nat.le_refl _) (by omega)
  rw [e, segsF, if_neg h]
  congr 1
  exact segsF_eq _ _ _ (by simp only [List.length_drop]; omega) (by simp)

/-- induction along a text -/
theorem walk_ind {p : List UInt8 → Prop} (h0 : p []) (h1 : ∀ l, l ≠ [] → p (l.drop (dec l).2) → p l) : ∀ l, p l := by
  have key : ∀ n (l : List UInt8), l.length ≤ n → p l := by
    intro n
    induction n with
    | zero => intro l hl; obtain rfl : l = [] := List.eq_nil_of_length_eq_zero (by omega); exact h0
    | succ n ih =>
      intro l hl
      by_cases h : l = []
      · subst h; exact h0
      · have := dec_pos l
        have hp := List.length_pos_iff.2 h
        exact h1 l h (ih _ (by simp only [List.length_drop]; omega))
  exact fun l => key _ l (Nat.le_refl _)

theorem segs_len (l : List UInt8) : (segs l).length ≤ l.length := by
  induction l using walk_ind with
  | h0 => simp [segs_nil]
  | h1 l h ih =>
    have h1 := dec_pos l
    have hp := List.length_pos_iff.2 h
    rw [segs_cons l h]
    simp only [List.length_drop] at ih
    simp only [List.length_cons]
    omega
theorem segs_ne (l : List UInt8) (h : l ≠ []) : segs l ≠ [] := by rw [segs_cons l h]; simp

/-- where one of a text begins, or its end -/
inductive Border : List UInt8 → Nat → Prop
  | zero (l : List UInt8) : Border l 0
  | step (l : List UInt8) (k : Nat) : l ≠ [] → Border (l.drop (dec l).2) k → Border l ((dec l).2 + k)

theorem border_le {l : List UInt8} {k : Nat} (h : Border l k) : k ≤ l.length := by
  induction h with
  | zero l => exact Nat.zero_le _
  | step l k hl _ ih =>
    have := dec_le l hl
    simp only [List.length_drop] at ih
    omega
theorem segs_parts {l : List UInt8} {k : Nat} (h : Border l k) : segs (l.take k) ++ segs (l.drop k) = segs l := by
  induction h with
  | zero l => simp [segs_nil]
  | step l k hl hb ih =>
    have h1 := dec_pos l
    have h2 := dec_le l hl
    have hb := border_le hb
    simp only [List.length_drop] at hb
    have ht : dec (l.take ((dec l).2 + k)) = dec l := dec_take l _ (by omega) (by omega) (by omega)
    have hne : l.take ((dec l).2 + k) ≠ [] := by
      intro e
      have := congrArg List.length e
      simp only [List.length_take, List.length_nil] at this
      omega
    rw [segs_cons _ hne, ht, segs_cons l hl, List.cons_append]
    congr 1
    rw [← ih, List.drop_take, List.drop_drop]
    simp

/-- A byte that is no later one of a character begins one. -/
theorem border_start {l : List UInt8} : ∀ k, k < l.length → gb l k / 64 ≠ 2 → Border l k := by
  induction l using walk_ind with
  | h0 => intro k hk; simp at hk
  | h1 l h ih =>
    intro k hk hs
    by_cases h0 : k = 0
    · subst h0; exact .zero l
    · by_cases h1 : k < (dec l).2
      · exact absurd (dec_in l h k (by omega) h1) hs
      · have := ih (k - (dec l).2) (by simp only [List.length_drop]; omega) (by rw [gb_drop]; rwa [show (dec l).2 + (k - (dec l).2) = k by omega])
        have hb := Border.step l _ h this
        rwa [show (dec l).2 + (k - (dec l).2) = k by omega] at hb
theorem border_trans {l : List UInt8} {i j : Nat} (h : Border l i) (h' : Border (l.drop i) j) : Border l (i + j) := by
  induction h with
  | zero l => simpa using h'
  | step l k hl _ ih =>
    rw [← List.drop_drop] at h'
    have := Border.step l _ hl (ih h')
    rwa [← Nat.add_assoc] at this
theorem border_next {l : List UInt8} {i : Nat} (h : Border l i) (hi : i < l.length) : Border l (i + (dec (l.drop i)).2) := by
  have hne : l.drop i ≠ [] := by
    intro e
    have := congrArg List.length e
    simp at this
    omega
  have := Border.step (l.drop i) 0 hne (.zero _)
  exact border_trans h (by simpa using this)
/-- two borders: nothing between the beginning of one and its end -/
theorem border_gap {l : List UInt8} {i j : Nat} (h : Border l i) (hj : Border l j) (hij : i < j) : i + (dec (l.drop i)).2 ≤ j := by
  induction h generalizing j with
  | zero l =>
    cases hj with
    | zero => omega
    | step k hl hb => simp
  | step l k hl hb ih =>
    have h1 := dec_pos l
    cases hj with
    | zero => omega
    | step _ m hl2 hm =>
      have := ih hm (by omega)
      rw [List.drop_drop] at this
      omega
theorem border_end (l : List UInt8) : Border l l.length := by
  induction l using walk_ind with
  | h0 => exact .zero _
  | h1 l h ih =>
    have h2 := dec_le l h
    have := Border.step l _ h ih
    rwa [List.length_drop, show (dec l).2 + (l.length - (dec l).2) = l.length by omega] at this
/-- the last one of a text -/
theorem last_border (l : List UInt8) (h : l ≠ []) : ∃ k, Border l k ∧ k < l.length ∧ k + (dec (l.drop k)).2 = l.length ∧ segs l = segs (l.take k) ++ [dec (l.drop k)] := by
  induction l using walk_ind with
  | h0 => exact absurd rfl h
  | h1 l hl ih =>
    have h1 := dec_pos l
    have h2 := dec_le l hl
    by_cases hd : l.drop (dec l).2 = []
    · have hlen : (dec l).2 = l.length := by
        have := congrArg List.length hd
        simp at this
        omega
      refine ⟨0, .zero l, by omega, by simp [hlen], ?_⟩
      rw [segs_cons l hl, hd]
      simp [segs_nil]
    · obtain ⟨k, hb, hk, he, hs⟩ := ih hd
      simp only [List.length_drop] at hk
      rw [List.drop_drop, List.length_drop] at he
      have hb2 := Border.step l k hl hb
      refine ⟨(dec l).2 + k, hb2, by omega, by omega, ?_⟩
      have := segs_parts hb2
      rw [← this]
      congr 1
      have hne : l.drop ((dec l).2 + k) ≠ [] := by
        intro e
        have := congrArg List.length e
        simp at this
        omega
      have hz : (l.drop ((dec l).2 + k)).drop (dec (l.drop ((dec l).2 + k))).2 = [] := by
        rw [List.drop_drop]
        exact List.drop_of_length_le (by omega)
      rw [segs_cons _ hne, hz, segs_nil]

/-! ### from the end -/
theorem runeStartB_gb (l : List UInt8) (k : Nat) : runeStartB (l.getD k 0) = decide (gb l k / 64 ≠ 2) := by
  unfold runeStartB gb
  apply Bool.eq_iff_iff.2
  simp

/-- where the search from the end stops: a byte that begins one, or four bytes from the end -/
theorem lastStart_facts (l : List UInt8) (h : 1 ≤ l.length) :
    lastStart l < l.length ∧ l.length ≤ lastStart l + 5 ∧
    (l.length ≤ lastStart l + 4 → (2 ≤ l.length → lastStart l + 2 ≤ l.length) ∧
      (∀ k, lastStart l < k → k + 2 ≤ l.length → gb l k / 64 = 2) ∧ (lastStart l = 0 ∨ gb l (lastStart l) / 64 ≠ 2)) ∧
    (l.length = lastStart l + 5 → gb l (lastStart l + 1) / 64 = 2 ∧ gb l (lastStart l + 2) / 64 = 2 ∧ gb l (lastStart l + 3) / 64 = 2) := by
  unfold lastStart
  simp only [runeStartB_gb, decide_eq_true_eq]
  have hk : ∀ k, k < l.length → k + 5 ≤ l.length ∨ k = l.length - 1 ∨ k = l.length - 2 ∨ k = l.length - 3 ∨ k = l.length - 4 := by intro k _; omega
  by_cases h2 : l.length < 2
  · rw [if_pos h2]
    exact ⟨by omega, by omega, fun _ => ⟨by omega, fun k a b => by omega, .inl rfl⟩, by omega⟩
  · rw [if_neg h2]
    by_cases a2 : gb l (l.length - 2) / 64 ≠ 2
    · rw [if_pos a2]
      exact ⟨by omega, by omega, fun _ => ⟨by omega, fun k a b => by omega, .inr a2⟩, by omega⟩
    · rw [if_neg a2]
      have a2' : gb l (l.length - 2) / 64 = 2 := by omega
      by_cases h3 : l.length < 3
      · rw [if_pos h3]
        exact ⟨by omega, by omega, fun _ => ⟨by omega, fun k a b => by omega, .inl rfl⟩, by omega⟩
      · rw [if_neg h3]
        by_cases a3 : gb l (l.length - 3) / 64 ≠ 2
        · rw [if_pos a3]
          refine ⟨by omega, by omega, fun _ => ⟨by omega, fun k a b => ?_, .inr a3⟩, by omega⟩
          obtain rfl : k = l.length - 2 := by omega
          exact a2'
        · rw [if_neg a3]
          have a3' : gb l (l.length - 3) / 64 = 2 := by omega
          by_cases h4 : l.length < 4
          · rw [if_pos h4]
            refine ⟨by omega, by omega, fun _ => ⟨by omega, fun k a b => ?_, .inl rfl⟩, by omega⟩
            obtain rfl : k = l.length - 2 := by omega
            exact a2'
          · rw [if_neg h4]
            by_cases a4 : gb l (l.length - 4) / 64 ≠ 2
            · rw [if_pos a4]
              refine ⟨by omega, by omega, fun _ => ⟨by omega, fun k a b => ?_, .inr a4⟩, by omega⟩
              have : k = l.length - 2 ∨ k = l.length - 3 := by omega
              rcases this with rfl | rfl
              · exact a2'
              · exact a3'
            · rw [if_neg a4]
              have a4' : gb l (l.length - 4) / 64 = 2 := by omega
              by_cases h5 : l.length < 5
              · rw [if_pos h5]
                refine ⟨by omega, by omega, fun _ => ⟨by omega, fun k a b => ?_, .inl rfl⟩, by omega⟩
                have : k = l.length - 2 ∨ k = l.length - 3 := by omega
                rcases this with rfl | rfl
                · exact a2'
                · exact a3'
              · rw [if_neg h5]
                refine ⟨by omega, by omega, by omega, fun _ => ⟨?_, ?_, ?_⟩⟩
                · rwa [show l.length - 5 + 1 = l.length - 4 by omega]
                · rwa [show l.length - 5 + 2 = l.length - 3 by omega]
                · rwa [show l.length - 5 + 3 = l.length - 2 by omega]

theorem dec_one_high (l : List UInt8) (h : l.length = 1) (hb : 128 ≤ gb l 0) : dec l = (65533, 1) := by
  unfold dec decodeN
  rw [h]
  repeat' split
  all_goals first | rfl | (exfalso; omega)
theorem dec_one_low (l : List UInt8) (h : l.length = 1) (hb : gb l 0 < 128) : dec l = (gb l 0, 1) := by
  unfold dec decodeN
  rw [if_pos hb]
theorem dec_wide_high (l : List UInt8) (h : l ≠ []) (hb : 2 ≤ (dec l).2) : 192 ≤ gb l 0 := ((dec_facts l h).2.2.2.1 hb).1

/-- WHAT IS FOUND FROM THE END IS THE LAST ONE THAT THE TEXT IS GONE THROUGH. -/
theorem decodeLast_last (l : List UInt8) (h : l ≠ []) (k : Nat) (hb : Border l k) (hk : k < l.length) (he : k + (dec (l.drop k)).2 = l.length) : decodeLastL l = dec (l.drop k) := by
  have hlen := List.length_pos_iff.2 h
  have hne : l.drop k ≠ [] := by
    intro e
    have := congrArg List.length e
    simp at this
    omega
  have hdl : (l.drop k).length = l.length - k := List.length_drop ..
  have hf := dec_facts (l.drop k) hne
  unfold decodeLastL
  rw [if_neg h]
  have hg : (l.getD (l.length - 1) 0).toNat = gb l (l.length - 1) := rfl
  rw [hg]
  by_cases hw : (dec (l.drop k)).2 = 1
  · have hk1 : k = l.length - 1 := by omega
    by_cases ha : gb l (l.length - 1) < 128
    · rw [if_pos ha, dec_one_low _ (by omega) (by rw [gb_drop, hk1]; simpa using ha), gb_drop, hk1]
      simp
    · rw [if_neg ha, dec_one_high _ (by omega) (by rw [gb_drop, hk1]; simp; omega)]
      simp only [decodeL_dec]
      split
      · rename_i hd
        -- what is decoded further ahead ends at the end: it would be gone through as one
        obtain ⟨s1, s2, s3, s4⟩ := lastStart_facts l hlen
        by_cases h1 : l.length = 1
        · have : lastStart l = 0 := by omega
          rw [this] at hd ⊢
          simp only [List.drop_zero] at hd ⊢
          exact dec_one_high l h1 (by have := h1 ▸ ha; simpa using this)
        · exfalso
          have hle := dec_le4 (l.drop (lastStart l)) (by intro e; have := congrArg List.length e; simp at this; omega)
          have hst := s3 (by omega)
          have hne2 : l.drop (lastStart l) ≠ [] := by intro e; have := congrArg List.length e; simp at this; omega
          have hhi := dec_wide_high _ hne2 (by have := hst.1 (by omega); omega)
          rw [gb_drop, Nat.add_zero] at hhi
          have hlt := gb_lt l (lastStart l)
          have hbs := border_start (lastStart l) s1 (by omega)
          have := border_gap hbs hb (by have := hst.1 (by omega); omega)
          omega
      · rfl
  · -- a character of two bytes or more: all but its first byte are later ones
    have hhi := dec_wide_high _ hne (by omega)
    rw [gb_drop, Nat.add_zero] at hhi
    have hin := fun j (h0 : 0 < j) (hj : j < (dec (l.drop k)).2) => dec_in (l.drop k) hne j h0 hj
    have hlast := hin ((dec (l.drop k)).2 - 1) (by omega) (by omega)
    rw [gb_drop, show k + ((dec (l.drop k)).2 - 1) = l.length - 1 by omega] at hlast
    rw [if_neg (by omega)]
    obtain ⟨s1, s2, s3, s4⟩ := lastStart_facts l hlen
    have hst : lastStart l = k := by
      have hlt := gb_lt l k
      by_cases h5 : l.length = lastStart l + 5
      · exfalso
        have := s4 h5
        have hk3 : k = lastStart l + 1 ∨ k = lastStart l + 2 ∨ k = lastStart l + 3 := by omega
        rcases hk3 with e | e | e <;> rw [e] at hhi hlt <;> omega
      · obtain ⟨t1, t2, t3⟩ := s3 (by omega)
        rcases Nat.lt_trichotomy (lastStart l) k with hlt' | heq | hgt
        · have := t2 k hlt' (by omega)
          omega
        · exact heq
        · exfalso
          have := hin (lastStart l - k) (by omega) (by have := t1 (by omega); omega)
          rw [gb_drop, show k + (lastStart l - k) = lastStart l by omega] at this
          rcases t3 with e | e <;> omega
    simp only [decodeL_dec, hst]
    rw [if_pos he]

/-- P1.8: Last takes away what the last step of All does. -/
theorem decodeLast_segs (l : List UInt8) (h : l ≠ []) : segs l = segs (l.take (l.length - (decodeLastL l).2)) ++ [decodeLastL l] := by
  obtain ⟨k, hb, hk, he, hs⟩ := last_border l h
  have := decodeLast_last l h k hb hk he
  rw [this, show l.length - (dec (l.drop k)).2 = k by omega]
  exact hs

end Go.Proofs.YthkapcnhfdpdbaaDoor
