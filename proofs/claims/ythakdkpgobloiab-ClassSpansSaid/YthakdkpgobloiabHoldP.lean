/- ClassSpansHold, without the program: spans rise and do not touch; a character lies in one just if the table says so. -/
import Derived.Test.YthakdkpgobloiabTilesP
namespace Go.Proofs.Ythakdkpgobloiab
open Go.RowKit Go.Lib

theorem clsFrom_before : ∀ (t : Tab) (c x : Nat), x < headOf t → clsFrom t c x = c
  | [], _, _, _ => rfl
  | e :: t, c, x, h => by
    have h1 : Nat.ble e.1 x = false := by rw [← Bool.not_eq_true]; simp only [headOf] at h; simp; omega
    unfold clsFrom
    rw [h1]
    rfl
theorem head_next {a : Nat × Nat} {t : Tab} (h : rises (a :: t) = true) (hm : ∀ e ∈ a :: t, e.1 ≤ 1114111) : a.1 < headOf t ∧ headOf t ≤ 1114112 := by
  cases t with
  | nil => exact ⟨by have := hm a (by simp); simp only [headOf]; omega, Nat.le_refl _⟩
  | cons e t => exact ⟨rises_head h e (by simp), by have := hm e (by simp); simp only [headOf]; omega⟩

theorem span_cls : ∀ (L : Tab) (c0 : Nat) (v : Int), rises L = true → (∀ e ∈ L, e.1 ≤ 1114111) → ∀ e ∈ spansFrom L v, headOf L ≤ e.1 ∧ ∀ x, e.1 ≤ x → x ≤ e.2 → (clsFrom L c0 x : Int) = v
  | [], _, _, _, _, e, he => by simp [spansFrom] at he
  | a :: t, c0, v, hr, hm, e, he => by
    obtain ⟨h1, h2⟩ := head_next hr hm
    rcases List.mem_append.1 he with h | h
    · split at h
      case isTrue hv =>
        obtain ⟨k1, k2, k3, k4⟩ := charsOf_in a.1 (headOf t - 1) (by omega) e h
        refine ⟨k3, fun x hx1 hx2 => ?_⟩
        have hb : Nat.ble a.1 x = true := by simp; omega
        unfold clsFrom
        rw [hb, cond_true, clsFrom_before t a.2 x (by omega)]
        exact hv
      case isFalse => simp at h
    · obtain ⟨k1, k2⟩ := span_cls t a.2 v (rises_tail hr) (fun x hx => hm x (by simp [hx])) e h
      refine ⟨by simp only [headOf]; omega, fun x hx1 hx2 => ?_⟩
      have hb : Nat.ble a.1 x = true := by simp; omega
      unfold clsFrom
      rw [hb, cond_true]
      exact k2 x hx1 hx2

def isChar (x : Nat) : Prop := x ≤ 1114111 ∧ (x < 55296 ∨ 57343 < x)
theorem charsOf_char (a b : Nat) (hb : b ≤ 1114111) : ∀ e ∈ charsOf a b, e.2 ≤ 55295 ∨ 57344 ≤ e.1 := by
  intro e he
  unfold charsOf at he
  rcases List.mem_append.1 he with h | h
  · split at h
    · simp only [List.mem_singleton] at h
      subst h
      dsimp only
      omega
    · simp at h
  · split at h
    · simp only [List.mem_singleton] at h
      subst h
      dsimp only
      omega
    · simp at h
theorem spansFrom_char : ∀ (l : Tab) (v : Int), (∀ e ∈ l, e.1 ≤ 1114111) → ∀ e ∈ spansFrom l v, e.2 ≤ 55295 ∨ 57344 ≤ e.1
  | [], _, _, e, he => by simp [spansFrom] at he
  | x :: t, v, h, e, he => by
    have hh : headOf t - 1 ≤ 1114111 := by
      cases t with
      | nil => simp [headOf]
      | cons y t => have := h y (by simp); simp only [headOf]; omega
    rcases List.mem_append.1 he with h1 | h1
    · split at h1
      · exact charsOf_char _ _ hh e h1
      · simp at h1
    · exact spansFrom_char t v (fun y hy => h y (by simp [hy])) e h1

def inCnt (l : List (Nat × Nat)) (x : Nat) : Nat := l.countP fun e => decide (e.1 ≤ x) && decide (x ≤ e.2)
theorem inCnt_append (a b : List (Nat × Nat)) (x : Nat) : inCnt (a ++ b) x = inCnt a x + inCnt b x := List.countP_append
theorem inCnt_zero (l : List (Nat × Nat)) (x : Nat) (h : ∀ e ∈ l, ¬ (e.1 ≤ x ∧ x ≤ e.2)) : inCnt l x = 0 := by
  unfold inCnt
  rw [List.countP_eq_zero]
  intro e he
  have := h e he
  simp
  omega
theorem charsOf_one (a b x : Nat) (h1 : a ≤ x) (h2 : x ≤ b) (hc : isChar x) : inCnt (charsOf a b) x = 1 := by
  unfold charsOf
  rw [inCnt_append]
  obtain ⟨h3, h4⟩ := hc
  by_cases hx : x < 55296
  · rw [if_pos (by omega), inCnt_zero (if max a 57344 ≤ b then [(max a 57344, b)] else []) x (by
      intro e he
      split at he
      · simp only [List.mem_singleton] at he
        subst he
        dsimp only
        omega
      · simp at he)]
    simp [inCnt]
    omega
  · rw [inCnt_zero (if a ≤ min b 55295 then [(a, min b 55295)] else []) x (by
      intro e he
      split at he
      · simp only [List.mem_singleton] at he
        subst he
        dsimp only
        omega
      · simp at he), if_pos (by omega)]
    simp [inCnt]
    omega
theorem cnt_before (L : Tab) (v : Int) (x : Nat) (hr : rises L = true) (hm : ∀ e ∈ L, e.1 ≤ 1114111) (hx : x < headOf L) : inCnt (spansFrom L v) x = 0 :=
  inCnt_zero _ x fun e he => by have := (span_cls L 0 v hr hm e he).1; omega
theorem cnt_spans : ∀ (L : Tab) (c0 : Nat) (v : Int) (x : Nat), L ≠ [] → rises L = true → (∀ e ∈ L, e.1 ≤ 1114111) → isChar x → headOf L ≤ x → inCnt (spansFrom L v) x = if (clsFrom L c0 x : Int) = v then 1 else 0
  | [], _, _, _, h, _, _, _, _ => absurd rfl h
  | a :: t, c0, v, x, _, hr, hm, hc, hx => by
    obtain ⟨h1, h2⟩ := head_next hr hm
    have hm' : ∀ e ∈ t, e.1 ≤ 1114111 := fun e he => hm e (by simp [he])
    have hb : Nat.ble a.1 x = true := by simp only [headOf] at hx; simp; omega
    have hcl : clsFrom (a :: t) c0 x = clsFrom t a.2 x := by
      show (bif Nat.ble a.1 x then clsFrom t a.2 x else c0) = _
      rw [hb]; rfl
    have hsp : spansFrom (a :: t) v = (if (a.2 : Int) = v then charsOf a.1 (headOf t - 1) else []) ++ spansFrom t v := rfl
    rw [hcl, hsp, inCnt_append]
    by_cases hlt : x < headOf t
    · rw [clsFrom_before t a.2 x hlt, cnt_before t v x (rises_tail hr) hm' hlt]
      by_cases hv : (a.2 : Int) = v
      · rw [if_pos hv, if_pos hv, charsOf_one a.1 (headOf t - 1) x hx (by omega) hc]
      · rw [if_neg hv, if_neg hv]
        rfl
    · have h0 : inCnt (if (a.2 : Int) = v then charsOf a.1 (headOf t - 1) else []) x = 0 := inCnt_zero _ x (by
        intro e he
        split at he
        · have := charsOf_in a.1 (headOf t - 1) (by omega) e he
          omega
        · simp at he)
      rw [h0, Nat.zero_add]
      cases t with
      | nil => obtain ⟨h3, _⟩ := hc; simp only [headOf] at hlt; omega
      | cons e t => exact cnt_spans (e :: t) a.2 v x (by simp) (rises_tail hr) hm' hc (by omega)

/-- neighbours differ -/
def differ : Tab → Bool
  | [] => true
  | [_] => true
  | a :: b :: t => !Nat.beq a.2 b.2 && differ (b :: t)
theorem spans_apart : ∀ (L : Tab) (v : Int), rises L = true → differ L = true → (∀ e ∈ L, e.1 ≤ 1114111) → (spansFrom L v).Pairwise fun e f => e.2 + 1 < f.1
  | [], _, _, _, _ => List.Pairwise.nil
  | a :: t, v, hr, hd, hm => by
    obtain ⟨h1, h2⟩ := head_next hr hm
    have hm' : ∀ e ∈ t, e.1 ≤ 1114111 := fun e he => hm e (by simp [he])
    have hd' : differ t = true := by
      cases t with
      | nil => rfl
      | cons b t => simp only [differ, Bool.and_eq_true] at hd; exact hd.2
    have ih := spans_apart t v (rises_tail hr) hd' hm'
    show ((if (a.2 : Int) = v then charsOf a.1 (headOf t - 1) else []) ++ spansFrom t v).Pairwise _
    rw [List.pairwise_append]
    refine ⟨?_, ih, fun e he f hf => ?_⟩
    · split
      · unfold charsOf
        split <;> split <;> simp
        omega
      · exact List.Pairwise.nil
    · split at he
      case isTrue hv =>
        have hk := charsOf_in a.1 (headOf t - 1) (by omega) e he
        cases t with
        | nil => simp [spansFrom] at hf
        | cons b t =>
          have hbv : ¬ ((b.2 : Int) = v) := by
            intro hb
            simp only [differ, Bool.and_eq_true, Bool.not_eq_true'] at hd
            have hne := hd.1
            have : a.2 = b.2 := by omega
            rw [this] at hne
            simp at hne
          have hf' : f ∈ spansFrom t v := by
            have e1 : spansFrom (b :: t) v = (if (b.2 : Int) = v then charsOf b.1 (headOf t - 1) else []) ++ spansFrom t v := rfl
            rw [e1, if_neg hbv, List.nil_append] at hf
            exact hf
          have h3 := (span_cls t 0 v (rises_tail (rises_tail hr)) (fun x hx => hm' x (by simp [hx])) f hf').1
          have h4 := (head_next (rises_tail hr) hm').1
          have e2 : headOf (b :: t) = b.1 := rfl
          rw [e2] at hk h1
          omega
      case isFalse => simp at he
end Go.Proofs.Ythakdkpgobloiab
