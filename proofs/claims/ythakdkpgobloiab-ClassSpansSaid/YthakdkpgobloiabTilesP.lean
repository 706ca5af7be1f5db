/- ClassTiles, without the program: how many characters the stretches have together. -/
import Derived.Test.YthakdkpgobloiabWorks
namespace Go.Proofs.Ythakdkpgobloiab
open Go.RowKit Go.Lib

def tot : List (Nat × Nat) → Nat
  | [] => 0
  | e :: t => (e.2 - e.1 + 1) + tot t
def sumK (L : Tab) : Nat → Nat
  | 0 => 0
  | k + 1 => sumK L k + tot (spansFrom L ((k : Int) - 1))
theorem tot_append (a b : List (Nat × Nat)) : tot (a ++ b) = tot a + tot b := by
  induction a with
  | nil => simp [tot]
  | cons e t ih => simp only [List.cons_append, tot, ih]; omega
theorem tot_take (l : List (Nat × Nat)) (i : Nat) : tot (l.take i) ≤ tot l := by
  have h := tot_append (l.take i) (l.drop i)
  rw [List.take_append_drop] at h
  omega
theorem tot_take_succ (l : List (Nat × Nat)) (i : Nat) (h : i < l.length) : tot (l.take (i + 1)) = tot (l.take i) + (l[i].2 - l[i].1 + 1) := by
  rw [List.take_succ_eq_append_getElem h, tot_append]
  simp [tot]
theorem tot_le (l : List (Nat × Nat)) (h : ∀ e ∈ l, e.2 ≤ 1114111) : tot l ≤ l.length * 1114112 := by
  induction l with
  | nil => simp [tot]
  | cons e t ih =>
    have h1 := h e (by simp)
    have h2 := ih fun x hx => h x (by simp [hx])
    simp only [tot, List.length_cons]
    omega
theorem charsOf_in (a b : Nat) (hb : b ≤ 1114111) : ∀ e ∈ charsOf a b, e.1 ≤ e.2 ∧ e.2 ≤ 1114111 ∧ a ≤ e.1 ∧ e.2 ≤ b := by
  intro e he
  unfold charsOf at he
  rcases List.mem_append.1 he with h | h
  · split at h
    · simp only [List.mem_singleton] at h
      subst h
      dsimp only
      omega
    · simp at h
  · split at h
    · simp only [List.mem_singleton] at h
      subst h
      dsimp only
      omega
    · simp at h
theorem spansFrom_in : ∀ (l : Tab) (v : Int), (∀ e ∈ l, e.1 ≤ 1114111) → ∀ e ∈ spansFrom l v, e.1 ≤ e.2 ∧ e.2 ≤ 1114111
  | [], _, _, e, he => by simp [spansFrom] at he
  | x :: t, v, h, e, he => by
    have hh : headOf t - 1 ≤ 1114111 := by
      cases t with
      | nil => simp [headOf]
      | cons y t => have := h y (by simp); simp only [headOf]; omega
    rcases List.mem_append.1 he with h1 | h1
    · split at h1
      · have := charsOf_in _ _ hh e h1
        exact ⟨this.1, this.2.1⟩
      · simp at h1
    · exact spansFrom_in t v (fun y hy => h y (by simp [hy])) e h1
theorem tabAt_in (t : Int) : (tabAt t).length < 200 ∧ ∀ e ∈ tabAt t, e.1 ≤ 1114111 := by
  unfold tabAt
  repeat' split
  · exact ⟨by decide +kernel, by decide +kernel⟩
  · exact ⟨by decide +kernel, by decide +kernel⟩
  · exact ⟨by decide +kernel, by decide +kernel⟩
  · exact ⟨by decide +kernel, by decide +kernel⟩
  · exact ⟨by decide +kernel, by decide +kernel⟩
  · exact ⟨by decide +kernel, by decide +kernel⟩
  · exact ⟨by decide +kernel, by decide +kernel⟩
theorem spans_small (t v : Int) : (spansFrom (tabAt t) v).length ≤ 400 ∧ (∀ e ∈ spansFrom (tabAt t) v, e.1 ≤ e.2 ∧ e.2 ≤ 1114111) ∧ tot (spansFrom (tabAt t) v) ≤ 445644800 := by
  obtain ⟨h1, h2⟩ := tabAt_in t
  have h3 := spansFrom_len (tabAt t) v
  have h4 := spansFrom_in (tabAt t) v h2
  have h5 := tot_le _ fun e he => (h4 e he).2
  have h6 : (spansFrom (tabAt t) v).length * 1114112 ≤ 400 * 1114112 := Nat.mul_le_mul_right _ (by omega)
  exact ⟨by omega, h4, by omega⟩
theorem sumK_le (t : Int) : ∀ k, sumK (tabAt t) k ≤ k * 445644800
  | 0 => by simp [sumK]
  | k + 1 => by
    have h1 := sumK_le t k
    have h2 := (spans_small t ((k : Int) - 1)).2.2
    simp only [sumK]
    omega
set_option maxRecDepth 100000
theorem sum_kinds : sumK kindsL 262 = 1112064 := by decide +kernel
theorem sum_dirs : sumK dirsL 262 = 1112064 := by decide +kernel
theorem sum_widths : sumK widthsL 262 = 1112064 := by decide +kernel
theorem sum_marks : sumK marksL 262 = 1112064 := by decide +kernel
theorem sum_joins : sumK joinsL 262 = 1112064 := by decide +kernel
theorem sum_breaks : sumK breaksL 262 = 1112064 := by decide +kernel
theorem sum_nil (k : Nat) : sumK [] k = 0 := by
  induction k with
  | zero => rfl
  | succ k ih => simp [sumK, ih, spansFrom, tot]
theorem sum_yes (t : Int) (h : 0 ≤ t ∧ t ≤ 5) : sumK (tabAt t) 262 = 1112064 := by
  have h' : t = 0 ∨ t = 1 ∨ t = 2 ∨ t = 3 ∨ t = 4 ∨ t = 5 := by omega
  rcases h' with rfl | rfl | rfl | rfl | rfl | rfl
  · exact sum_kinds
  · exact sum_dirs
  · exact sum_widths
  · exact sum_marks
  · exact sum_joins
  · exact sum_breaks
theorem tabAt_no (t : Int) (h : t < 0 ∨ 5 < t) : tabAt t = [] := by
  unfold tabAt
  rw [if_neg (by omega), if_neg (by omega), if_neg (by omega), if_neg (by omega), if_neg (by omega), if_neg (by omega)]
end Go.Proofs.Ythakdkpgobloiab
