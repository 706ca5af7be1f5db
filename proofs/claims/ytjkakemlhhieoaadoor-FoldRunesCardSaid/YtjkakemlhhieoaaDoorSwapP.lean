/- Order looks at each number's pile alone; what it has put in order rises (pure). -/
import Derived.Test.YtjkakemlhhieoaaDoorPurePO
set_option linter.unusedSimpArgs false
set_option linter.unusedVariables false
namespace Go.Proofs.YtjkakemlhhieoaaDoor
section
variable {α : Type} (num : α → Nat)
theorem conc_piles {xs ys : List α} (h : ∀ i, pile num xs i = pile num ys i) : ∀ k, conc num xs k = conc num ys k
  | 0 => rfl
  | k + 1 => by rw [conc, conc, conc_piles h k, h k]
theorem ordR_piles : ∀ (xs row row' : List α), (∀ i, pile num row i = pile num row' i) → ordR num row xs = ordR num row' xs
  | [], row, row', h => by
    rw [ordR_nil, ordR_nil]
    exact conc_piles num h 256
  | x :: t, row, row', h => by
    by_cases hx : num x = 0
    · rw [ordR_zero num t row hx, ordR_zero num t row' hx]
      have e : bucket num row = bucket num row' := conc_piles num h 256
      rw [e]
    · rw [ordR_more num t row hx, ordR_more num t row' hx]
      exact ordR_piles t _ _ (fun i => by rw [pile_snoc, pile_snoc, h i])
theorem pile_append (xs ys : List α) (i : Nat) : pile num (xs ++ ys) i = pile num xs i ++ pile num ys i := by
  unfold pile
  exact List.filter_append ..
/-- one that is no starter may go ahead of others of other numbers -/
theorem ord_swap (row M rest : List α) (p : α) (hp : num p ≠ 0) (hM : ∀ m ∈ M, num m ≠ 0 ∧ num m ≠ num p) : ordR num row (M ++ p :: rest) = ordR num row (p :: (M ++ rest)) := by
  rw [ordR_row num M row (p :: rest) (fun m hm => (hM m hm).1), ordR_more num rest _ hp, ordR_more num (M ++ rest) row hp, ordR_row num M (row ++ [p]) rest (fun m hm => (hM m hm).1)]
  refine ordR_piles num rest _ _ (fun i => ?_)
  rw [pile_append, pile_append, pile_append, pile_append, List.append_assoc, List.append_assoc]
  by_cases h : num p = i
  · have e : pile num M i = [] := by
      unfold pile
      rw [List.filter_eq_nil_iff]
      intro m hm hc
      exact (hM m hm).2 (by rw [h]; exact eq_of_beq hc)
    rw [e, List.nil_append, List.append_nil]
  · have e : pile num [p] i = [] := by
      unfold pile
      rw [List.filter_eq_nil_iff]
      intro m hm hc
      rw [List.mem_singleton.1 hm] at hc
      exact h (eq_of_beq hc)
    rw [e, List.nil_append, List.append_nil]
theorem ord_ahead {xs ys : List α} (h : ∀ row, ordR num row xs = ordR num row ys) : ∀ (A row : List α), ordR num row (A ++ xs) = ordR num row (A ++ ys)
  | [], row => h row
  | a :: A, row => by
    rw [List.cons_append, List.cons_append]
    by_cases ha : num a = 0
    · rw [ordR_zero num _ _ ha, ordR_zero num _ _ ha, ord_ahead h A []]
    · rw [ordR_more num _ _ ha, ordR_more num _ _ ha, ord_ahead h A _]
theorem conc_sorted (xs : List α) : ∀ k, (conc num xs k).Pairwise (fun x y => num x ≤ num y) ∧ ∀ x ∈ conc num xs k, num x < k
  | 0 => by
    rw [conc]
    exact ⟨List.Pairwise.nil, fun x hx => by cases hx⟩
  | k + 1 => by
    obtain ⟨h1, h2⟩ := conc_sorted xs k
    have hk : ∀ x ∈ pile num xs k, num x = k := fun x hx => eq_of_beq (List.mem_filter.1 hx).2
    rw [conc]
    refine ⟨List.pairwise_append.2 ⟨h1, ?_, fun x hx y hy => by have := h2 x hx; have := hk y hy; omega⟩, fun x hx => ?_⟩
    · refine List.pairwise_of_forall_mem_list (fun x hx y hy => ?_)
      rw [hk x hx, hk y hy]
      exact Nat.le_refl _
    · rcases List.mem_append.1 hx with hx | hx
      · have := h2 x hx; omega
      · rw [hk x hx]; omega
/-- rows rise -/
inductive Asc : List α → Prop
  | nil : Asc []
  | one (x : α) : Asc [x]
  | cons {x y : α} {t : List α} : (num y = 0 ∨ num x ≤ num y) → Asc (y :: t) → Asc (x :: y :: t)
theorem asc_zero {x : α} (hx : num x = 0) : ∀ {t : List α}, Asc num t → Asc num (x :: t)
  | [], _ => .one x
  | y :: t, h => .cons (.inr (by omega)) h
theorem asc_sorted : ∀ (xs t : List α), xs.Pairwise (fun x y => num x ≤ num y) → Asc num t → (∀ y, t.head? = some y → num y = 0) → Asc num (xs ++ t)
  | [], t, _, h, _ => h
  | [x], [], _, _, _ => .one x
  | [x], y :: t, _, h, hy => .cons (.inl (hy y rfl)) h
  | x :: y :: xs, t, hs, h, hy => .cons (.inr (List.rel_of_pairwise_cons hs (List.mem_cons_self ..))) (asc_sorted (y :: xs) t (List.Pairwise.of_cons hs) h hy)
theorem asc_ordR : ∀ (xs row : List α), Asc num (ordR num row xs)
  | [], row => by
    have h := asc_sorted num (bucket num row) [] (conc_sorted num row 256).1 .nil (fun y hy => by cases hy)
    rw [List.append_nil] at h
    rw [ordR_nil]
    exact h
  | x :: t, row => by
    by_cases hx : num x = 0
    · have ht := asc_zero num hx (asc_ordR t [])
      have h := asc_sorted num (bucket num row) (x :: ordR num [] t) (conc_sorted num row 256).1 ht (fun y hy => by rw [List.head?_cons] at hy; rw [← Option.some.inj hy]; exact hx)
      rw [ordR_zero num t row hx]
      exact h
    · have h := asc_ordR t (row ++ [x])
      rw [ordR_more num t row hx]
      exact h
theorem asc_ordZ (xs : List α) : Asc num (ordZ num xs) := asc_ordR num xs []
end
end Go.Proofs.YtjkakemlhhieoaaDoor
