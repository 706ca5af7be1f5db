/- Layer 11, pure: letters that are joined. Numbers of Join: 0 none, 1 right, 2 both, 3 cause, 4 through; of forms: 0 alone, 1 first, 2 middle, 3 last. -/
import Derived.Test.YtjecbchnckknkaaMem
set_option linter.unusedSimpArgs false
set_option linter.unusedVariables false
namespace Go.Proofs.Ytjecbchnckknkaa

/-- the neighbour behind -/
def nextJ : List Int → Int
  | [] => 0
  | k :: t => if k = 4 then nextJ t else k
/-- the neighbour ahead, from left to right -/
def stepJ (a k : Int) : Int := if k = 4 then a else k
def prevJ (l : List Int) : Int := l.foldl stepJ 0
def aheadJ (a k : Int) : Bool := (k == 1 || k == 2) && (a == 2 || a == 3)
def behindJ (k b : Int) : Bool := k == 2 && (b == 1 || b == 2 || b == 3)
def formJ (a k b : Int) : Int :=
  if aheadJ a k = true then (if behindJ k b = true then 2 else 3) else (if behindJ k b = true then 1 else 0)
def formsJ : Int → List Int → List Int
  | _, [] => []
  | a, k :: t => formJ a k (nextJ t) :: formsJ (stepJ a k) t

theorem formsJ_len : ∀ (l : List Int) (a : Int), (formsJ a l).length = l.length
  | [], _ => rfl
  | k :: t, a => by simp only [formsJ, List.length_cons, formsJ_len t]
theorem formJ_cases (a k b : Int) : formJ a k b = 0 ∨ formJ a k b = 1 ∨ formJ a k b = 2 ∨ formJ a k b = 3 := by
  unfold formJ; split <;> split <;> simp
theorem formJ_four (a b : Int) : formJ a 4 b = 0 := by simp [formJ, aheadJ, behindJ]
theorem formJ_none (a k b : Int) (h : ¬ (k = 1 ∨ k = 2)) : formJ a k b = 0 := by
  have h1 : (k == 1) = false := by simpa using fun e => h (.inl e)
  have h2 : (k == 2) = false := by simpa using fun e => h (.inr e)
  simp [formJ, aheadJ, behindJ, h1, h2]
/-- the form says who is joined -/
theorem formJ_ahead (a k b : Int) : ((formJ a k b == 3) || (formJ a k b == 2)) = aheadJ a k := by
  unfold formJ; split <;> split <;> simp_all
theorem formJ_behind (a k b : Int) : ((formJ a k b == 1) || (formJ a k b == 2)) = behindJ k b := by
  unfold formJ; split <;> split <;> simp_all
theorem prevJ_snoc (p : List Int) (k : Int) : prevJ (p ++ [k]) = stepJ (prevJ p) k := by simp [prevJ, List.foldl_append]
/-- place by place -/
theorem formsJ_get : ∀ (l : List Int) (a : Int) (i : Nat) (h : i < l.length),
    (formsJ a l)[i]? = some (formJ ((l.take i).foldl stepJ a) l[i] (nextJ (l.drop (i + 1))))
  | [], _, i, h => absurd h (by simp)
  | k :: t, a, 0, _ => by simp [formsJ]
  | k :: t, a, i + 1, h => by
    have := formsJ_get t (stepJ a k) i (by simpa using h)
    simpa [formsJ] using this
theorem formsJ_app : ∀ (p t : List Int) (a : Int), (formsJ a (p ++ t)).drop p.length = formsJ (p.foldl stepJ a) t
  | [], _, _ => rfl
  | k :: p, t, a => by simp only [List.cons_append, formsJ, List.length_cons, List.drop_succ_cons, List.foldl_cons]; exact formsJ_app p t _

/-- marks between change nothing -/
theorem nextJ_rep (n : Nat) (l : List Int) : nextJ (List.replicate n 4 ++ l) = nextJ l := by
  induction n with
  | zero => rfl
  | succ n ih => rw [List.replicate_succ, List.cons_append, nextJ, if_pos rfl]; exact ih
theorem stepJ_rep (n : Nat) (a : Int) : (List.replicate n (4 : Int)).foldl stepJ a = a := by
  induction n generalizing a with
  | zero => rfl
  | succ n ih => rw [List.replicate_succ, List.foldl_cons]; exact ih _
/-- the list with marks put in: c i of them ahead of the place i -/
def withJ (c : Nat → Nat) (m : Int) : Nat → List Int → List Int
  | i, [] => List.replicate (c i) m
  | i, x :: t => List.replicate (c i) m ++ x :: withJ c m (i + 1) t
def ownJ (c : Nat → Nat) : Nat → Nat → List Int → List Nat
  | _, _, [] => []
  | n, i, _ :: t => (n + c i) :: ownJ c (n + c i + 1) (i + 1) t
theorem ownJ_len (c : Nat → Nat) : ∀ (l : List Int) (n i : Nat), (ownJ c n i l).length = l.length
  | [], _, _ => rfl
  | _ :: t, n, i => by simp only [ownJ, List.length_cons, ownJ_len c t]
theorem withJ_map (f : Int → Int) (c : Nat → Nat) (m : Int) : ∀ (l : List Int) (i : Nat), (withJ c m i l).map f = withJ c (f m) i (l.map f)
  | [], i => by simp [withJ]
  | x :: t, i => by simp only [withJ, List.map_append, List.map_replicate, List.map_cons, withJ_map f c m t]
theorem nextJ_with (c : Nat → Nat) : ∀ (l : List Int) (i : Nat), nextJ (withJ c 4 i l) = nextJ l
  | [], i => by have := nextJ_rep (c i) []; rw [List.append_nil] at this; exact this
  | x :: t, i => by
    unfold withJ; rw [nextJ_rep]; unfold nextJ
    rw [nextJ_with c t]
/-- each rune's form is what it was: q: what stands ahead -/
theorem forms_with (c : Nat → Nat) : ∀ (l : List Int) (i : Nat) (q : List Int) (a : Int) (j : Nat) (h : j < l.length),
    (formsJ a (q ++ withJ c 4 i l))[(ownJ c q.length i l)[j]'(by rw [ownJ_len]; exact h)]? = (formsJ (q.foldl stepJ a) l)[j]?
  | [], _, _, _, j, h => absurd h (by simp)
  | x :: t, i, q, a, j, h => by
    have hw : q ++ withJ c 4 i (x :: t) = (q ++ List.replicate (c i) 4 ++ [x]) ++ withJ c 4 (i + 1) t := by simp [withJ]
    have hl : (q ++ List.replicate (c i) (4 : Int) ++ [x]).length = q.length + c i + 1 := by simp [Nat.add_assoc]
    cases j with
    | succ j =>
      have := forms_with c t (i + 1) (q ++ List.replicate (c i) 4 ++ [x]) a j (by simpa using h)
      rw [hw]
      simp only [hl] at this
      simp only [ownJ, formsJ, List.getElem_cons_succ, List.getElem?_cons_succ]
      rw [this]
      simp [List.foldl_append, stepJ_rep]
    | zero =>
      simp only [ownJ, List.getElem_cons_zero]
      rw [formsJ_get _ _ _ (by rw [hw, List.length_append, hl]; omega)]
      have ht : (q ++ withJ c 4 i (x :: t)).take (q.length + c i) = q ++ List.replicate (c i) 4 := by
        have : q ++ withJ c 4 i (x :: t) = (q ++ List.replicate (c i) 4) ++ (x :: withJ c 4 (i + 1) t) := by simp [withJ]
        rw [this]; exact List.take_left' (by simp)
      have hd : (q ++ withJ c 4 i (x :: t)).drop (q.length + c i + 1) = withJ c 4 (i + 1) t := by
        rw [hw]; exact List.drop_left' hl
      have hx : (q ++ withJ c 4 i (x :: t))[q.length + c i]? = some x := by
        have : q ++ withJ c 4 i (x :: t) = (q ++ List.replicate (c i) 4) ++ (x :: withJ c 4 (i + 1) t) := by simp [withJ]
        rw [this, List.getElem?_append_right (by simp)]; simp
      have hx' := (List.getElem?_eq_some_iff.1 hx).2
      rw [ht, hd, hx', nextJ_with, List.foldl_append, stepJ_rep]
      simp [formsJ]
/-- a mark's own form -/
theorem forms_four (l : List Int) (a : Int) (i : Nat) (h : l[i]? = some 4) : (formsJ a l)[i]? = some 0 := by
  obtain ⟨hi, e⟩ := List.getElem?_eq_some_iff.1 h
  rw [formsJ_get l a i hi, e, formJ_four]

/- Two letters with nothing but marks between. -/
/-- of the last one ahead that is not passed over: a: its own neighbour ahead; k: it; behind it: the rest -/
theorem mutual_letter (k' k b : Int) (hl : k = 1 ∨ k = 2) (hc : k' ≠ 3) : behindJ k' k = aheadJ k' k := by
  have : (k' == 3) = false := by simpa using hc
  rcases hl with rfl | rfl <;> simp [behindJ, aheadJ, this]
theorem mutual_cause (k : Int) (hl : k = 1 ∨ k = 2) : aheadJ 3 k = true := by rcases hl with rfl | rfl <;> rfl
theorem mutual_behind (k' k : Int) (h : behindJ k' k = true) : k = 1 ∨ k = 2 ∨ k = 3 := by
  simp [behindJ] at h; rcases h.2 with (h | h) | h <;> simp [h]
theorem behind_end (k : Int) : behindJ k 0 = false := by simp [behindJ]
theorem ahead_end (k : Int) : aheadJ 0 k = false := by simp [aheadJ]
theorem behind_one (b : Int) : behindJ 1 b = false := rfl
end Go.Proofs.Ytjecbchnckknkaa

/- Layer 11, pure: the last one that is not passed over (JoinMutual). -/
namespace Go.Proofs.Ytjecbchnckknkaa

/-- where the last one stands that is not passed over, ahead of the place i; what its form is -/
def LastJ (ks : List Int) (i : Nat) (last : Int) : Prop :=
  (last = -1 ∧ prevJ (ks.take i) = 0) ∨
  ∃ (j : Nat) (k : Int), last = (j : Int) ∧ j < i ∧ ks[j]? = some k ∧ k ≠ 4 ∧ prevJ (ks.take i) = k ∧ (formsJ 0 ks)[j]? = some (formJ (prevJ (ks.take j)) k (nextJ (ks.drop i)))
theorem lastJ_start (ks : List Int) : LastJ ks 0 (-1) := .inl ⟨rfl, rfl⟩
theorem drop_consJ {ks : List Int} {i : Nat} {k : Int} (h : ks[i]? = some k) : ks.drop i = k :: ks.drop (i + 1) := by
  obtain ⟨hi, e⟩ := List.getElem?_eq_some_iff.1 h
  rw [List.drop_eq_getElem_cons hi, e]
theorem prevJ_next {ks : List Int} {i : Nat} {k : Int} (h : ks[i]? = some k) : prevJ (ks.take (i + 1)) = stepJ (prevJ (ks.take i)) k := by
  rw [List.take_add_one, h]
  exact prevJ_snoc _ _
theorem lastJ_through {ks : List Int} {i : Nat} {last : Int} (h : LastJ ks i last) (hi : ks[i]? = some 4) : LastJ ks (i + 1) last := by
  have hp : prevJ (ks.take (i + 1)) = prevJ (ks.take i) := by rw [prevJ_next hi]; rfl
  have hn : nextJ (ks.drop i) = nextJ (ks.drop (i + 1)) := by rw [drop_consJ hi, nextJ, if_pos rfl]
  rcases h with ⟨h1, h2⟩ | ⟨j, k, h1, h2, h3, h4, h5, h6⟩
  · exact .inl ⟨h1, by rw [hp, h2]⟩
  · exact .inr ⟨j, k, h1, by omega, h3, h4, by rw [hp, h5], by rw [h6, hn]⟩
theorem lastJ_here {ks : List Int} {i : Nat} {k : Int} (hi : ks[i]? = some k) (h4 : k ≠ 4) : LastJ ks (i + 1) (i : Int) := by
  obtain ⟨hl, e⟩ := List.getElem?_eq_some_iff.1 hi
  refine .inr ⟨i, k, rfl, by omega, hi, h4, by rw [prevJ_next hi]; unfold stepJ; rw [if_neg h4], ?_⟩
  rw [formsJ_get ks 0 i hl, e]; rfl
/-- the form at a place -/
theorem form_here {ks : List Int} {i : Nat} {k : Int} (hi : ks[i]? = some k) : (formsJ 0 ks)[i]? = some (formJ (prevJ (ks.take i)) k (nextJ (ks.drop (i + 1)))) := by
  obtain ⟨hl, e⟩ := List.getElem?_eq_some_iff.1 hi
  rw [formsJ_get ks 0 i hl, e]; rfl
/-- two with nothing but marks between: who is joined to whom -/
theorem lastJ_two {ks : List Int} {i : Nat} {last k f : Int} (h : LastJ ks i last) (hi : ks[i]? = some k) (h4 : k ≠ 4) (hf : (formsJ 0 ks)[i]? = some f) :
    (last = -1 ∧ ((f == 3) || (f == 2)) = false) ∨
    ∃ (j : Nat) (kl fl : Int), last = (j : Int) ∧ j < i ∧ ks[j]? = some kl ∧ (formsJ 0 ks)[j]? = some fl ∧
      ((f == 3) || (f == 2)) = aheadJ kl k ∧ ((fl == 1) || (fl == 2)) = behindJ kl k := by
  rw [form_here hi] at hf
  have hf := (Option.some.inj hf).symm
  have hn : nextJ (ks.drop i) = k := by rw [drop_consJ hi, nextJ, if_neg h4]
  rcases h with ⟨h1, h2⟩ | ⟨j, kl, h1, h2, h3, h4', h5, h6⟩
  · refine .inl ⟨h1, ?_⟩
    rw [hf, formJ_ahead, h2, ahead_end]
  · refine .inr ⟨j, kl, _, h1, h2, h3, h6, ?_, ?_⟩
    · rw [hf, formJ_ahead, h5]
    · rw [formJ_behind, hn]
/-- at the end nothing is joined behind -/
theorem lastJ_end {ks : List Int} {last : Int} (h : LastJ ks ks.length last) :
    last = -1 ∨ ∃ (j : Nat) (fl : Int), last = (j : Int) ∧ j < ks.length ∧ (formsJ 0 ks)[j]? = some fl ∧ (fl = 0 ∨ fl = 3) := by
  rcases h with ⟨h1, _⟩ | ⟨j, kl, h1, h2, _, _, _, h6⟩
  · exact .inl h1
  · refine .inr ⟨j, _, h1, h2, h6, ?_⟩
    rw [List.drop_length]
    unfold formJ
    rw [show nextJ [] = 0 from rfl, behind_end]
    split <;> simp
/-- what each form is -/
theorem form_right {a b f : Int} (h : formJ a 1 b = f) : f ≠ 1 ∧ f ≠ 2 := by
  subst h
  unfold formJ
  rw [behind_one]
  split <;> simp
end Go.Proofs.Ytjecbchnckknkaa
