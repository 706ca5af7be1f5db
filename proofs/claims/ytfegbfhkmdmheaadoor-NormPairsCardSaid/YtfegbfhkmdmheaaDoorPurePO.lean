/- What two are together is taken apart as they are. -/
import Derived.Test.YtfegbfhkmdmheaaDoorLettG
import Derived.Test.YtfegbfhkmdmheaaDoorBuck
set_option linter.unusedSimpArgs false
set_option linter.unusedVariables false
namespace Go.Proofs.YtfegbfhkmdmheaaDoor
open Go.RowKit Go.Lib

theorem splitF_more : ∀ (f : Nat) (r : Int), depB f r = true → splitF (f + 1) r = splitF f r ∧ depB (f + 1) r = true
  | 0, r, h => by
    unfold depB at h
    have h0 := of_decide_eq_true h
    refine ⟨?_, ?_⟩
    · unfold splitF; rw [if_pos h0]
    · unfold depB; rw [decide_eq_true h0]; rfl
  | f + 1, r, h => by
    by_cases h0 : (stepZ r).2 = 0
    · refine ⟨?_, ?_⟩
      · rw [splitF, if_pos h0, splitF, if_pos h0]
      · unfold depB; rw [decide_eq_true h0]; rfl
    · unfold depB at h
      rw [decide_eq_false h0, Bool.false_or] at h
      obtain ⟨h1, h2⟩ := splitF_more f _ h
      refine ⟨?_, ?_⟩
      · rw [splitF, if_neg h0, h1]
        conv => rhs; rw [splitF, if_neg h0]
      · unfold depB; rw [h2]; simp
theorem lead_step (k : Int) (hk0 : 0 ≤ k) (hk1 : k < 20) : stepZ (4352 + k) = (0, 0) := by
  have := List.all_eq_true.1 dep_lead k.toNat (List.mem_range.2 (by omega))
  rw [show ((k.toNat : Nat) : Int) = k by omega] at this
  exact of_decide_eq_true this
theorem open_step (q : Int) (a : 44032 ≤ q) (b : q < 55204) (hm : (q - 44032).tmod 28 = 0) : stepZ q = (4352 + ((q - 44032).tdiv 28).tdiv 21, 4449 + ((q - 44032).tdiv 28).tmod 21) := by
  unfold stepZ
  rw [single_high (by omega)]
  unfold partsZ
  rw [if_neg (by omega), if_pos ⟨a, b⟩]
  unfold sylZ
  rw [if_neg (fun h => h hm)]
theorem shut_step (q : Int) (a : 44032 ≤ q) (b : q < 55204) (hm : (q - 44032).tmod 28 ≠ 0) : stepZ q = (q - (q - 44032).tmod 28, 4519 + (q - 44032).tmod 28) := by
  unfold stepZ
  rw [single_high (by omega)]
  unfold partsZ
  rw [if_neg (by omega), if_pos ⟨a, b⟩]
  unfold sylZ
  rw [if_pos hm]
theorem open_dep (q : Int) (a : 44032 ≤ q) (b : q < 55204) (hm : (q - 44032).tmod 28 = 0) : depB 1 q = true := by
  have e := open_step q a b hm
  have hd0 := Int.tdiv_nonneg (show (0 : Int) ≤ q - 44032 by omega) (show (0 : Int) ≤ 28 by decide)
  have hd1 : (q - 44032).tdiv 28 < 399 := by rw [Int.tdiv_eq_ediv_of_nonneg (by omega)]; omega
  have hq0 := Int.tdiv_nonneg hd0 (show (0 : Int) ≤ 21 by decide)
  have hq1 : ((q - 44032).tdiv 28).tdiv 21 < 20 := by rw [Int.tdiv_eq_ediv_of_nonneg hd0]; omega
  have hl := lead_step _ hq0 hq1
  unfold depB
  unfold depB
  rw [e]
  show (_ || decide ((stepZ (4352 + ((q - 44032).tdiv 28).tdiv 21)).2 = 0)) = true
  rw [hl]
  simp
theorem pairs_split1 : (pairsL.all fun x => splitZ x.2 == splitZ x.1.1 ++ [x.1.2]) = true := by decide +kernel
theorem look_has : ∀ (L : PL) (a b : Int), lookP L a b ≠ 0 → ∃ x ∈ L, x.1 = (a, b) ∧ x.2 = lookP L a b
  | [], a, b, h => absurd rfl h
  | x :: t, a, b, h => by
    unfold lookP at h ⊢
    by_cases hx : x.1 = (a, b)
    · rw [if_pos hx]; exact ⟨x, List.mem_cons_self .., hx, rfl⟩
    · rw [if_neg hx] at h ⊢
      obtain ⟨y, hy, h2⟩ := look_has t a b h
      exact ⟨y, List.mem_cons_of_mem _ hy, h2⟩
theorem syll_split (a b : Int) (h : syllZ a b ≠ 0) : splitZ (syllZ a b) = splitZ a ++ [b] := by
  unfold syllZ at h ⊢
  by_cases h1 : 4352 ≤ a ∧ a < 4371 ∧ 4449 ≤ b ∧ b < 4470
  · rw [if_pos h1]
    obtain ⟨n, hn⟩ : ∃ n : Int, (a - 4352) * 21 + b - 4449 = n := ⟨_, rfl⟩
    rw [hn]
    have hs : 44032 + n * 28 - 44032 = n * 28 := by omega
    have hm : (44032 + n * 28 - 44032).tmod 28 = 0 := by rw [hs, Int.mul_tmod_left]
    have hd : (44032 + n * 28 - 44032).tdiv 28 = n := by rw [hs, Int.mul_tdiv_cancel _ (by decide)]
    have e := open_step (44032 + n * 28) (by omega) (by omega) hm
    rw [hd] at e
    have e1 : n.tdiv 21 = a - 4352 := by rw [Int.tdiv_eq_ediv_of_nonneg (by omega)]; omega
    have e2 : n.tmod 21 = b - 4449 := by rw [Int.tmod_eq_emod_of_nonneg (by omega)]; omega
    rw [e1, e2, show (4352 : Int) + (a - 4352) = a by omega, show (4449 : Int) + (b - 4449) = b by omega] at e
    have hl := lead_step (a - 4352) (by omega) (by omega)
    rw [show (4352 : Int) + (a - 4352) = a by omega] at hl
    unfold splitZ
    rw [splitF, if_neg (by rw [e]; show b ≠ 0; omega), e]
    show splitF 2 a ++ [b] = splitF 3 a ++ [b]
    rw [splitF, if_pos (by rw [hl]), splitF, if_pos (by rw [hl])]
  · rw [if_neg h1] at h ⊢
    by_cases h2 : openZ a = true ∧ 4520 ≤ b ∧ b < 4547
    · rw [if_pos h2]
      have h3 := Bool.and_eq_true_iff.1 h2.1
      have h4 := of_decide_eq_true h3.1
      have h5 : (a - 44032).tmod 28 = 0 := eq_of_beq h3.2
      have h6 : (a - 44032) % 28 = 0 := by rw [← Int.tmod_eq_emod_of_nonneg (by omega)]; exact h5
      have h7 : (a + b - 4519 - 44032).tmod 28 = b - 4519 := by rw [Int.tmod_eq_emod_of_nonneg (by omega)]; omega
      have e := shut_step (a + b - 4519) (by omega) (by omega) (by rw [h7]; omega)
      rw [h7, show a + b - 4519 - (b - 4519) = a by omega, show 4519 + (b - 4519) = b by omega] at e
      have d1 := open_dep a (by omega) (by omega) h5
      have d2 := splitF_more 1 a d1
      have d3 := splitF_more 2 a d2.2
      unfold splitZ
      rw [splitF, if_neg (by rw [e]; show b ≠ 0; omega), e, d3.1]
    · rw [if_neg h2] at h
      exact absurd rfl h
theorem pair_split (a b : Int) (h : pairZ a b ≠ 0) : splitZ (pairZ a b) = splitZ a ++ [b] := by
  unfold pairZ at h ⊢
  by_cases hm : markZ b = 0
  · rw [if_pos hm] at h ⊢
    exact syll_split a b h
  · rw [if_neg hm] at h ⊢
    obtain ⟨x, hx, h1, h2⟩ := look_has pairsL a b h
    have h3 := eq_of_beq (List.all_eq_true.1 pairs_split1 x hx)
    rw [h2, h1] at h3
    exact h3
end Go.Proofs.YtfegbfhkmdmheaaDoor

/- Order: at once; starters stay; as often as before (pure). -/
namespace Go.Proofs.YtfegbfhkmdmheaaDoor
section
variable {α : Type} (num : α → Nat)
theorem pile_conc (xs : List α) (i : Nat) : ∀ K, pile num (conc num xs K) i = if i < K then pile num xs i else []
  | 0 => by rfl
  | K + 1 => by
    have h : pile num (conc num xs (K + 1)) i = pile num (conc num xs K) i ++ pile num (pile num xs K) i := by
      conv => lhs; rw [conc]
      unfold pile
      rw [List.filter_append]
    rw [h, pile_conc xs i K]
    by_cases h1 : i = K
    · subst h1
      rw [if_neg (by omega), if_pos (by omega)]
      unfold pile
      rw [List.filter_filter]
      simp
    · have h2 : pile num (pile num xs K) i = [] := by
        unfold pile
        rw [List.filter_filter, List.filter_eq_nil_iff]
        intro a _ ha
        simp only [Bool.and_eq_true, beq_iff_eq] at ha
        omega
      rw [h2, List.append_nil]
      by_cases h3 : i < K
      · rw [if_pos h3, if_pos (by omega)]
      · rw [if_neg h3, if_neg (by omega)]
theorem conc_conc (xs : List α) (K : Nat) : ∀ k, k ≤ K → conc num (conc num xs K) k = conc num xs k
  | 0, _ => rfl
  | k + 1, h => by
    rw [conc, conc_conc xs K k (by omega), pile_conc, if_pos (by omega)]
    rfl
theorem bucket_twice (xs : List α) : bucket num (bucket num xs) = bucket num xs := conc_conc num xs 256 256 (Nat.le_refl _)
theorem bucket_mem (xs : List α) (y : α) (h : y ∈ bucket num xs) : y ∈ xs := conc_mem num xs y 256 h
theorem ordR_row : ∀ (ys row zs : List α), (∀ y ∈ ys, num y ≠ 0) → ordR num row (ys ++ zs) = ordR num (row ++ ys) zs
  | [], row, zs, _ => by simp
  | y :: ys, row, zs, h => by
    rw [List.cons_append, ordR, if_neg (h y (by simp)), ordR_row ys (row ++ [y]) zs (fun z hz => h z (by simp [hz]))]
    simp
theorem ordR_zero {x : α} (t row : List α) (hx : num x = 0) : ordR num row (x :: t) = bucket num row ++ x :: ordR num [] t := by
  rw [ordR, if_pos hx]
theorem ordR_more {x : α} (t row : List α) (hx : num x ≠ 0) : ordR num row (x :: t) = ordR num (row ++ [x]) t := by
  rw [ordR, if_neg hx]
theorem ordR_nil (row : List α) : ordR num row [] = bucket num row := by rw [ordR]
theorem bucket_none : bucket num ([] : List α) = [] := conc_nil num 256
theorem ord_twice1 : ∀ (xs row : List α), (∀ y ∈ row, num y ≠ 0) → ordR num [] (ordR num row xs) = ordR num row xs
  | [], row, h => by
    have h1 := ordR_row num (bucket num row) [] [] (fun y hy => h y (bucket_mem num row y hy))
    rw [List.append_nil, List.nil_append] at h1
    rw [ordR_nil, h1, ordR_nil]
    exact bucket_twice num row
  | x :: t, row, h => by
    by_cases hx : num x = 0
    · rw [ordR_zero num t row hx]
      have h1 := ordR_row num (bucket num row) [] (x :: ordR num [] t) (fun y hy => h y (bucket_mem num row y hy))
      have h2 := ord_twice1 t [] (fun _ hy => by cases hy)
      rw [h1, List.nil_append, ordR_zero num _ _ hx, bucket_twice, h2]
    · rw [ordR_more num t row hx]
      exact ord_twice1 t (row ++ [x]) (fun y hy => by rcases List.mem_append.1 hy with hy | hy; exact h y hy; rw [List.mem_singleton.1 hy]; exact hx)
theorem ord_twice (xs : List α) : ordZ num (ordZ num xs) = ordZ num xs := ord_twice1 num xs [] (fun _ h => by cases h)
theorem ord_stay1 (hall : ∀ x, num x < 256) : ∀ (xs row : List α), (∀ y ∈ row, num y ≠ 0) → (∀ y ∈ row, num y < 256) → ∀ (i : Nat) (a b : α), (row ++ xs)[i]? = some a → (ordR num row xs)[i]? = some b → (num a = 0 → b = a) ∧ (num a = 0 ↔ num b = 0) := by
  intro xs
  induction xs with
  | nil =>
    intro row h hh i a b ha hb
    rw [ordR_nil] at hb
    rw [List.append_nil] at ha
    have h1 := h a (List.mem_of_getElem? ha)
    have h2 := h b (bucket_mem num row b (List.mem_of_getElem? hb))
    exact ⟨fun e => absurd e h1, fun e => absurd e h1, fun e => absurd e h2⟩
  | cons x t ih =>
    intro row h hh i a b ha hb
    by_cases hx : num x = 0
    · rw [ordR_zero num t row hx] at hb
      have hl := bucket_len num row hh
      rcases Nat.lt_trichotomy i row.length with hi | hi | hi
      · rw [List.getElem?_append_left hi] at ha
        rw [List.getElem?_append_left (by omega)] at hb
        have h1 := h a (List.mem_of_getElem? ha)
        have h2 := h b (bucket_mem num row b (List.mem_of_getElem? hb))
        exact ⟨fun e => absurd e h1, fun e => absurd e h1, fun e => absurd e h2⟩
      · subst hi
        rw [List.getElem?_append_right (Nat.le_refl _), Nat.sub_self] at ha
        rw [List.getElem?_append_right (by omega), hl, Nat.sub_self] at hb
        have e1 : x = a := by simpa using ha
        have e2 : x = b := by simpa using hb
        subst e1
        subst e2
        exact ⟨fun _ => rfl, Iff.rfl⟩
      · obtain ⟨j, rfl⟩ : ∃ j, i = row.length + (j + 1) := ⟨i - row.length - 1, by omega⟩
        rw [List.getElem?_append_right (by omega), show row.length + (j + 1) - row.length = j + 1 by omega, List.getElem?_cons_succ] at ha
        rw [List.getElem?_append_right (by omega), hl, show row.length + (j + 1) - row.length = j + 1 by omega, List.getElem?_cons_succ] at hb
        exact ih [] (fun _ hy => by cases hy) (fun _ hy => by cases hy) j a b (by simpa using ha) hb
    · rw [ordR_more num t row hx] at hb
      rw [show row ++ x :: t = (row ++ [x]) ++ t by simp] at ha
      have h2 := hall x
      exact ih (row ++ [x]) (fun y hy => by rcases List.mem_append.1 hy with hy | hy; exact h y hy; rw [List.mem_singleton.1 hy]; exact hx) (fun y hy => by rcases List.mem_append.1 hy with hy | hy; exact hh y hy; rw [List.mem_singleton.1 hy]; exact h2) i a b ha hb
theorem ord_stay (hall : ∀ x, num x < 256) (xs : List α) (i : Nat) (a b : α) (ha : xs[i]? = some a) (hb : (ordZ num xs)[i]? = some b) : (num a = 0 → b = a) ∧ (num a = 0 ↔ num b = 0) :=
  ord_stay1 num hall xs [] (fun _ h => by cases h) (fun _ h => by cases h) i a b (by simpa using ha) hb
variable [BEq α] [LawfulBEq α]
theorem conc_count (xs : List α) (r : α) : ∀ k, (conc num xs k).count r = if num r < k then xs.count r else 0
  | 0 => rfl
  | k + 1 => by
    rw [conc, List.count_append, conc_count xs r k]
    by_cases h : num r = k
    · have h1 : (pile num xs k).count r = xs.count r := List.count_filter (by simp [h])
      rw [h1, if_neg (by omega), if_pos (by omega), Nat.zero_add]
    · have h1 : (pile num xs k).count r = 0 := List.count_eq_zero.2 (fun hm => h (by have := (List.mem_filter.1 hm).2; simpa using this))
      rw [h1, Nat.add_zero]
      by_cases h2 : num r < k
      · rw [if_pos h2, if_pos (by omega)]
      · rw [if_neg h2, if_neg (by omega)]
theorem ord_count1 (hall : ∀ x, num x < 256) (r : α) : ∀ (xs row : List α), (ordR num row xs).count r = (row ++ xs).count r
  | [], row => by
    rw [List.append_nil, ordR_nil]
    unfold bucket
    rw [conc_count, if_pos (hall r)]
  | x :: t, row => by
    by_cases hx : num x = 0
    · rw [ordR_zero num t row hx, List.count_append, List.count_cons, ord_count1 hall r t [], List.nil_append, List.count_append, List.count_cons]
      unfold bucket
      rw [conc_count, if_pos (hall r)]
    · rw [ordR_more num t row hx, ord_count1 hall r t (row ++ [x])]
      simp
theorem ord_count (hall : ∀ x, num x < 256) (r : α) (xs : List α) : (ordZ num xs).count r = xs.count r := ord_count1 num hall r xs []
end
end Go.Proofs.YtfegbfhkmdmheaaDoor
