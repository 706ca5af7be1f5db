/- Spans, without the program: the stretches of a table that have a class. -/
import Derived.Test.YthakdkpgobloiabSpanC
namespace Go.Proofs.Ythakdkpgobloiab

/-- where the first stretch of what is left begins -/
def headOf : Tab → Nat
  | [] => 1114112
  | e :: _ => e.1
def spansFrom : Tab → Int → List (Nat × Nat)
  | [], _ => []
  | e :: t, v => (if (e.2 : Int) = v then charsOf e.1 (headOf t - 1) else []) ++ spansFrom t v

theorem cls_part : ∀ (pre : Tab) (c0 f c : Nat) (t : Tab), rises (pre ++ (f, c) :: t) = true → clsFrom (pre ++ (f, c) :: t) c0 f = c ∧ endFrom (pre ++ (f, c) :: t) f = headOf t - 1
  | [], c0, f, c, t, h => by
    have h1 : Nat.ble f f = true := by simp
    simp only [List.nil_append, clsFrom, endFrom, h1, cond_true]
    cases t with
    | nil => exact ⟨rfl, rfl⟩
    | cons e t =>
      have h2 : f < e.1 := rises_head h e (by simp)
      have h3 : Nat.ble e.1 f = false := by rw [← Bool.not_eq_true]; simp; omega
      simp only [clsFrom, endFrom, h3, cond_false, headOf, and_self]
  | e :: pre, c0, f, c, t, h => by
    have h1 : e.1 < f := rises_head h (f, c) (by simp)
    have h2 : Nat.ble e.1 f = true := by simp; omega
    simp only [List.cons_append, clsFrom, endFrom, h2, cond_true]
    exact cls_part pre e.2 f c t (rises_tail h)
theorem part_head (pre : Tab) (f c : Nat) (t : Tab) (h : rises (pre ++ (f, c) :: t) = true) (hm : ∀ e ∈ pre ++ (f, c) :: t, e.1 ≤ 1114111) : f < headOf t ∧ headOf t ≤ 1114112 := by
  have hs : rises ((f, c) :: t) = true := by
    induction pre with
    | nil => exact h
    | cons e pre ih => exact ih (rises_tail h) fun x hx => hm x (by simp [hx])
  cases t with
  | nil => exact ⟨by have := hm (f, c) (by simp); simp only [headOf]; omega, Nat.le_refl _⟩
  | cons e t => exact ⟨rises_head hs e (by simp), by have := hm e (by simp); simp only [headOf]; omega⟩
theorem charsOf_len (a b : Nat) : (charsOf a b).length ≤ 2 := by
  unfold charsOf
  split <;> split <;> simp
theorem spansFrom_len : ∀ (l : Tab) (v : Int), (spansFrom l v).length ≤ 2 * l.length
  | [], _ => Nat.le_refl _
  | e :: t, v => by
    have h1 := spansFrom_len t v
    have h2 := charsOf_len e.1 (headOf t - 1)
    simp only [spansFrom, List.length_append, List.length_cons]
    split <;> simp <;> omega
end Go.Proofs.Ythakdkpgobloiab
