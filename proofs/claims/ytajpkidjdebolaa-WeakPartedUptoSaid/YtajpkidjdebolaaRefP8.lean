/- Layer 8, pure: the document's rules place by place. -/
import Derived.Test.YtajpkidjdebolaaWkP
set_option linter.unusedSimpArgs false
set_option linter.unusedVariables false
namespace Go.Proofs.Ytajpkidjdebolaa

/-- the last one of a kind; s, if there is none -/
def lastZ (p : Int → Bool) (s : Int) (l : List Int) : Int := l.foldl (fun a k => if p k = true then k else a) s
theorem lastZ_snoc (p : Int → Bool) (s : Int) (l : List Int) (k : Int) : lastZ p s (l ++ [k]) = if p k = true then k else lastZ p s l := by simp [lastZ]
def sP (k : Int) : Bool := k == 0 || k == 1 || k == 2
def aP (k : Int) : Bool := k == 0 || k == 1
theorem fin2_last (l : List Int) : ∀ (b : Bool) (s : Int), b = (s == 2) → fin f2 b l = (lastZ sP s l == 2) := by
  induction l with
  | nil => intro b s h; exact h
  | cons k t ih =>
    intro b s h
    show fin f2 (f2 b k).2 t = (lastZ sP (if sP k = true then k else s) t == 2)
    apply ih
    unfold f2 sP
    by_cases h0 : k = 0
    · subst h0; simp
    · by_cases h1 : k = 1
      · subst h1; simp
      · by_cases h2 : k = 2
        · subst h2; simp
        · by_cases h3 : k = 3 ∧ b = true
          · simp [h0, h1, h2, h3, h]
            have := h3.2
            rw [h] at this
            simpa using this
          · simp only [h0, h1, h2, h3, h, false_or, if_false, Bool.or_false, beq_iff_eq]
            rw [h] at h3
            simp only [beq_iff_eq] at h3
            simp [h0, h1, h2]
            split <;> rfl
theorem fin7_last (l : List Int) : ∀ (s : Int), fin f7 s l = lastZ aP s l := by
  induction l with
  | nil => intro s; rfl
  | cons k t ih =>
    intro s
    show fin f7 (f7 s k).2 t = lastZ aP (if aP k = true then k else s) t
    rw [ih]
    congr 1
    unfold f7 aP
    by_cases h0 : k = 0
    · subst h0; simp
    · by_cases h1 : k = 1
      · subst h1; simp
      · by_cases h3 : k = 3 ∧ s = 0
        · simp [h0, h1, h3]
        · simp [h0, h1, h3]

/-- what stands ahead; -1, if nothing does -/
def lastD (p : List Int) : Int := p.getLast?.getD (-1)
theorem lastD_snoc (p : List Int) (k : Int) : lastD (p ++ [k]) = k := by simp [lastD]
def sepV (pr k : Int) : List Int → Int
  | [] => k
  | n :: _ => sepK pr k n
theorem sepZ_cons (pr k : Int) (t : List Int) : sepZ pr (k :: t) = sepV pr k t :: sepZ k t := by
  cases t <;> rfl
theorem sepV_none (k : Int) (t : List Int) : sepV (-1) k t = k := by
  cases t <;> simp [sepV, sepK, mayZ]

/-- what the rule n makes of what is left -/
def GZ (n : Nat) (s : Int) (p t : List Int) : List Int :=
  match n with
  | 2 => tr f2 (fin f2 false p) t
  | 3 => tr f3 () t
  | 4 => sepZ (lastD p) t
  | 6 => tr f6 () t
  | 7 => tr f7 (fin f7 s p) t
  | _ => t
/-- and of the one at the place -/
def VZ (n : Nat) (s : Int) (p : List Int) (k : Int) (t : List Int) : Int :=
  match n with
  | 2 => if k = 3 ∧ (s = 0 ∨ s = 1) ∧ lastZ sP s p = 2 then 6 else k
  | 3 => if k = 2 then 1 else k
  | 4 => sepV (lastD p) k t
  | 6 => if k = 4 ∨ k = 5 ∨ k = 7 then 13 else k
  | 7 => if k = 3 ∧ lastZ aP s p = 0 then 0 else k
  | _ => k
theorem GZ_cons (n : Nat) (s : Int) (hs : s = 0 ∨ s = 1) (p : List Int) (k : Int) (t : List Int) : GZ n s p (k :: t) = VZ n s p k t :: GZ n s (p ++ [k]) t := by
  unfold GZ VZ
  split
  · show (f2 (fin f2 false p) k).1 :: tr f2 (f2 (fin f2 false p) k).2 t = _
    rw [fin_snoc]
    congr 1
    rw [fin2_last p false s (by rcases hs with rfl | rfl <;> rfl)]
    unfold f2
    by_cases h0 : k = 0
    · subst h0; simp
    · by_cases h1 : k = 1
      · subst h1; simp
      · by_cases h2 : k = 2
        · subst h2; simp
        · by_cases h3 : k = 3
          · subst h3
            by_cases hl : lastZ sP s p = 2 <;> simp [hl, hs]
          · simp [h0, h1, h2, h3]
  · rfl
  · rw [sepZ_cons, lastD_snoc]
  · rfl
  · show (f7 (fin f7 s p) k).1 :: tr f7 (f7 (fin f7 s p) k).2 t = _
    rw [fin_snoc]
    congr 1
    rw [fin7_last]
    unfold f7
    by_cases h0 : k = 0
    · subst h0; simp
    · by_cases h1 : k = 1
      · subst h1; simp
      · by_cases h3 : k = 3
        · subst h3
          by_cases hl : lastZ aP s p = 0 <;> simp [hl]
        · simp [h0, h1, h3]
  · rfl
theorem GZ_nil (n : Nat) (s : Int) (p : List Int) : GZ n s p [] = [] := by
  unfold GZ
  split <;> rfl
theorem GZ_all (n : Nat) (hn : n ≠ 1 ∧ n ≠ 5) (s : Int) (l : List Int) : GZ n s [] l = stepZ n s l := by
  match n, hn with
  | 0, _ => rfl
  | 1, h => exact absurd rfl h.1
  | 2, _ => rfl
  | 3, _ => rfl
  | 4, _ => rfl
  | 5, h => exact absurd rfl h.2
  | 6, _ => rfl
  | 7, _ => rfl
  | n + 8, _ => rfl
end Go.Proofs.Ytajpkidjdebolaa
