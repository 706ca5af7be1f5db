/- Layer 9, pure: brackets that belong together: how they are found; pairs nest. -/
import Derived.Test.YtkcckophnamajaaMem
set_option linter.unusedSimpArgs false
set_option linter.unusedVariables false
namespace Go.Proofs.Ytkcckophnamajaa

/-- what is open, the last one first: where, and its other one -/
abbrev Stk := List (Nat × Int)
abbrev Prs := List (Nat × Nat)
/-- the one opened last whose other one it is, and what was open ahead of that -/
def fndZ (r : Int) : Stk → Option (Nat × Stk)
  | [] => none
  | (a, o) :: t => if o = r then some (a, t) else fndZ r t
/-- behind how many of the first k a pair belongs -/
def putK (l : Prs) (a : Nat) : Nat → Nat
  | 0 => 0
  | k + 1 => if a < (l.getD k (0, 0)).1 then putK l a k else k + 1
def putZ (l : Prs) (p : Nat × Nat) : Prs := l.take (putK l p.1 l.length) ++ p :: l.drop (putK l p.1 l.length)
/-- pr: what class.Pair tells -/
def brkZ (pr : Int → Int × Bool × Bool) : Nat → List (Int × Int) → Stk → Prs → Prs
  | _, [], _, out => out
  | i, (r, k) :: t, stk, out =>
    if (pr r).2.2 = false ∨ k ≠ 13 then brkZ pr (i + 1) t stk out
    else if (pr r).2.1 = true then (if stk.length = 63 then out else brkZ pr (i + 1) t ((i, (pr r).1) :: stk) out)
    else match fndZ r stk with
      | none => brkZ pr (i + 1) t stk out
      | some (a, t') => brkZ pr (i + 1) t t' (putZ out (a, i))
def brZ (pr : Int → Int × Bool × Bool) (rs ks : List Int) : Prs := brkZ pr 0 (rs.zip ks) [] []

theorem putK_le (l : Prs) (a : Nat) : ∀ k, putK l a k ≤ k
  | 0 => Nat.le_refl _
  | k + 1 => by
    unfold putK
    split
    · have := putK_le l a k; omega
    · exact Nat.le_refl _
theorem putK_above (l : Prs) (a : Nat) : ∀ k j, putK l a k ≤ j → j < k → a < (l.getD j (0, 0)).1
  | 0, j, _, h => by omega
  | k + 1, j, h1, h2 => by
    unfold putK at h1
    split at h1
    · rcases Nat.lt_or_ge j k with h | h
      · exact putK_above l a k j h1 h
      · obtain rfl : j = k := by omega
        assumption
    · omega
theorem putK_below (l : Prs) (a : Nat) : ∀ k, putK l a k = 0 ∨ ¬ a < (l.getD (putK l a k - 1) (0, 0)).1
  | 0 => .inl rfl
  | k + 1 => by
    unfold putK
    split
    · exact putK_below l a k
    · refine .inr ?_
      rw [Nat.add_sub_cancel]
      assumption
theorem putZ_mem {l : Prs} {p q : Nat × Nat} : q ∈ putZ l p ↔ q = p ∨ q ∈ l := by
  unfold putZ
  rw [List.mem_append, List.mem_cons]
  constructor
  · rintro (h | h | h)
    · exact .inr (List.mem_of_mem_take h)
    · exact .inl h
    · exact .inr (List.mem_of_mem_drop h)
  · rintro (h | h)
    · exact .inr (.inl h)
    · rw [← List.take_append_drop (putK l p.1 l.length) l, List.mem_append] at h
      rcases h with h | h
      · exact .inl h
      · exact .inr (.inr h)
theorem putZ_len (l : Prs) (p : Nat × Nat) : (putZ l p).length = l.length + 1 := by
  unfold putZ
  have := putK_le l p.1 l.length
  simp only [List.length_append, List.length_take, List.length_cons, List.length_drop]
  omega
/-- by rising places of the first -/
def Up (l : Prs) : Prop := l.Pairwise fun p q => p.1 < q.1
theorem up_get {l : Prs} (h : Up l) {i j : Nat} (hij : i < j) (hj : j < l.length) : (l.getD i (0, 0)).1 < (l.getD j (0, 0)).1 := by
  have := List.pairwise_iff_getElem.1 h i j (by omega) hj hij
  rw [List.getD_eq_getElem?_getD, List.getD_eq_getElem?_getD, List.getElem?_eq_getElem (by omega), List.getElem?_eq_getElem hj]
  exact this
theorem putZ_up {l : Prs} {p : Nat × Nat} (h : Up l) (hn : ∀ q ∈ l, q.1 ≠ p.1) : Up (putZ l p) := by
  have hk := putK_le l p.1 l.length
  obtain ⟨k, hk'⟩ : ∃ k, putK l p.1 l.length = k := ⟨_, rfl⟩
  have hab := putK_above l p.1 l.length
  have hbe := putK_below l p.1 l.length
  unfold putZ
  rw [hk'] at hk hab hbe ⊢
  have hlo : ∀ q ∈ l.take k, q.1 < p.1 := by
    intro q hq
    obtain ⟨j, hj, rfl⟩ := List.getElem_of_mem hq
    simp only [List.length_take] at hj
    rw [List.getElem_take]
    have hmem : l[j]'(by omega) ∈ l := List.getElem_mem _
    have hne := hn _ hmem
    rcases hbe with h0 | h0
    · omega
    · have e1 : (l.getD (k - 1) (0, 0)).1 ≤ p.1 := by omega
      rcases Nat.lt_or_ge j (k - 1) with hjk | hjk
      · have := up_get h hjk (by omega)
        rw [List.getD_eq_getElem?_getD, List.getElem?_eq_getElem (by omega)] at this
        simp only [Option.getD_some] at this
        omega
      · obtain rfl : j = k - 1 := by omega
        rw [List.getD_eq_getElem?_getD, List.getElem?_eq_getElem (by omega)] at e1
        simp only [Option.getD_some] at e1
        omega
  have hhi : ∀ q ∈ l.drop k, p.1 < q.1 := by
    intro q hq
    obtain ⟨j, hj, rfl⟩ := List.getElem_of_mem hq
    simp only [List.length_drop] at hj
    rw [List.getElem_drop]
    have := hab (k + j) (by omega) (by omega)
    rw [List.getD_eq_getElem?_getD, List.getElem?_eq_getElem (by omega)] at this
    simpa using this
  unfold Up
  rw [List.pairwise_append, List.pairwise_cons]
  refine ⟨List.Pairwise.sublist (List.take_sublist k l) h, ⟨hhi, List.Pairwise.sublist (List.drop_sublist k l) h⟩, fun x hx y hy => ?_⟩
  rcases List.mem_cons.1 hy with rfl | hy
  · exact hlo x hx
  · exact Nat.lt_trans (hlo x hx) (hhi y hy)

/-- what holds between two characters -/
structure BrI (pr : Int → Int × Bool × Bool) (rs ks : List Int) (i : Nat) (stk : Stk) (out : Prs) : Prop where
  open_ : ∀ s ∈ stk, s.1 < i ∧ ks[s.1]? = some 13 ∧ ∃ r, rs[s.1]? = some r ∧ pr r = (s.2, true, true)
  down : stk.Pairwise fun x y => y.1 < x.1
  up : Up out
  pair : ∀ p ∈ out, p.1 < p.2 ∧ p.2 < i ∧ ks[p.1]? = some 13 ∧ ks[p.2]? = some 13 ∧ ∃ r r', rs[p.1]? = some r ∧ rs[p.2]? = some r' ∧ pr r = (r', true, true) ∧ pr r' = (r, false, true)
  apart : ∀ p ∈ out, ∀ s ∈ stk, p.2 < s.1 ∨ s.1 < p.1
  nest : ∀ p ∈ out, ∀ q ∈ out, p.1 < q.1 → p.2 < q.1 ∨ q.2 < p.2
theorem fndZ_some {r : Int} : ∀ {stk : Stk} {a : Nat} {t : Stk}, fndZ r stk = some (a, t) → ∃ u, stk = u ++ (a, r) :: t
  | [], _, _, h => by cases h
  | (b, o) :: s, a, t, h => by
    unfold fndZ at h
    split at h
    · next e =>
      injection h with h
      injection h with h1 h2
      exact ⟨[], by rw [← h1, ← h2, e]; rfl⟩
    · obtain ⟨u, e⟩ := fndZ_some h
      exact ⟨(b, o) :: u, by rw [e]; rfl⟩
section
variable {pr : Int → Int × Bool × Bool} {rs ks : List Int} {i : Nat} {stk : Stk} {out : Prs}
theorem BrI.next (h : BrI pr rs ks i stk out) : BrI pr rs ks (i + 1) stk out :=
  ⟨fun s hs => ⟨by have := (h.open_ s hs).1; omega, (h.open_ s hs).2⟩, h.down, h.up, fun p hp => ⟨(h.pair p hp).1, by have := (h.pair p hp).2.1; omega, (h.pair p hp).2.2⟩, h.apart, h.nest⟩
theorem BrI.push (h : BrI pr rs ks i stk out) {r o : Int} (hr : rs[i]? = some r) (hk : ks[i]? = some 13) (hp : pr r = (o, true, true)) : BrI pr rs ks (i + 1) ((i, o) :: stk) out := by
  refine ⟨fun s hs => ?_, ?_, h.up, h.next.pair, fun p hp' s hs => ?_, h.nest⟩
  · rcases List.mem_cons.1 hs with rfl | hs
    · exact ⟨by show i < i + 1; omega, hk, r, hr, hp⟩
    · exact h.next.open_ s hs
  · exact List.pairwise_cons.2 ⟨fun s hs => (h.open_ s hs).1, h.down⟩
  · rcases List.mem_cons.1 hs with rfl | hs
    · exact .inl (h.pair p hp').2.1
    · exact h.apart p hp' s hs
theorem BrI.close (h : BrI pr rs ks i stk out) {r : Int} {a : Nat} {t : Stk} (hm : ∀ x y, pr x = (y, true, true) → pr y = (x, false, true)) (hr : rs[i]? = some r) (hk : ks[i]? = some 13) (hf : fndZ r stk = some (a, t)) : BrI pr rs ks (i + 1) t (putZ out (a, i)) := by
  obtain ⟨u, rfl⟩ := fndZ_some hf
  have hs : (a, r) ∈ u ++ (a, r) :: t := by simp
  have hin : ∀ s ∈ t, s ∈ u ++ (a, r) :: t := fun s hs => by simp [hs]
  obtain ⟨hai, hka, ra, hra, hpa⟩ := h.open_ _ hs
  have hpr := hm _ _ hpa
  have hd := List.pairwise_append.1 h.down
  have hd2 := List.pairwise_cons.1 hd.2.1
  have hne : ∀ p ∈ out, p.1 ≠ a := fun p hp e => by
    rcases h.apart p hp _ hs with h1 | h1
    · have := (h.pair p hp).1
      simp only at h1
      omega
    · simp only at h1
      omega
  refine ⟨fun s hs => ?_, hd2.2, putZ_up h.up hne, fun p hp => ?_, fun p hp s hs => ?_, fun p hp q hq hpq => ?_⟩
  · exact h.next.open_ s (hin s hs)
  · rcases putZ_mem.1 hp with rfl | hp
    · exact ⟨hai, by show i < i + 1; omega, hka, hk, ra, r, hra, hr, hpa, hpr⟩
    · exact h.next.pair p hp
  · rcases putZ_mem.1 hp with rfl | hp
    · exact .inr (hd2.1 s hs)
    · exact h.apart p hp s (hin s hs)
  · rcases putZ_mem.1 hp with rfl | hp
    · rcases putZ_mem.1 hq with rfl | hq
      · omega
      · exact .inr (h.pair q hq).2.1
    · rcases putZ_mem.1 hq with rfl | hq
      · rcases h.apart p hp _ hs with h1 | h1
        · exact .inl h1
        · simp only at h1 hpq
          omega
      · exact h.nest p hp q hq hpq
theorem brkZ_holds (hm : ∀ x y, pr x = (y, true, true) → pr y = (x, false, true)) : ∀ (l : List (Int × Int)) (i : Nat) (stk : Stk) (out : Prs), (rs.zip ks).drop i = l → BrI pr rs ks i stk out → ∃ j stk', BrI pr rs ks j stk' (brkZ pr i l stk out)
  | [], i, stk, out, _, h => ⟨i, stk, h⟩
  | (r, k) :: t, i, stk, out, hl, h => by
    have hi : (rs.zip ks)[i]? = some (r, k) := by
      have := congrArg (fun l => l[0]?) hl
      simpa using this
    have hd : (rs.zip ks).drop (i + 1) = t := by rw [← List.drop_drop, hl]; rfl
    have hz := List.getElem?_zip_eq_some.1 hi
    unfold brkZ
    split
    · exact brkZ_holds hm t (i + 1) stk out hd h.next
    · next hc =>
      have hc1 : (pr r).2.2 = true := by
        cases e : (pr r).2.2 with
        | true => rfl
        | false => exact absurd (.inl e) hc
      have hc2 : k = 13 := by
        by_cases e : k = 13
        · exact e
        · exact absurd (.inr e) hc
      subst hc2
      split
      · next ho =>
        split
        · exact ⟨i, stk, h⟩
        · exact brkZ_holds hm t (i + 1) _ out hd (h.push hz.1 hz.2 (Prod.ext rfl (Prod.ext ho hc1)))
      · split
        · exact brkZ_holds hm t (i + 1) stk out hd h.next
        · next a t' hf => exact brkZ_holds hm t (i + 1) t' _ hd (h.close hm hz.1 hz.2 hf)
/-- pairs rise, nest, and are one another's -/
theorem brZ_holds (hm : ∀ x y, pr x = (y, true, true) → pr y = (x, false, true)) : ∃ j stk', BrI pr rs ks j stk' (brZ pr rs ks) :=
  brkZ_holds hm _ 0 [] [] (by simp) ⟨(fun _ h => by cases h), List.Pairwise.nil, List.Pairwise.nil, (fun _ h => by cases h), (fun _ h => by cases h), (fun _ h => by cases h)⟩
end
end Go.Proofs.Ytkcckophnamajaa

/- Layer 9, pure: the direction of all that has none. -/
namespace Go.Proofs.Ytkcckophnamajaa

def neuZ (k : Int) : Bool := !(k == 0 || k == 1 || k == 2 || k == 3 || k == 6)
def wayZ (k : Int) : Int := if k = 0 then 0 else 1
def sidZ (k : Int) : Int := if k = 1 then 1 else 0
def cn9 (k : Int) : Int := if k = 2 then 1 else k
def lvlZ (level : Int) : Int := if level.tmod 2 = 1 then 1 else 0
/-- what stands between -/
def sameZ (e : Int) (l : List Int) : Bool := l.any fun k => !neuZ k && wayZ k == e
def otherZ (e : Int) (l : List Int) : Bool := l.any fun k => !neuZ k && wayZ k != e
/-- the last one ahead -/
def aheadZ (s : Int) (l : List Int) : Int := l.foldl (fun a k => if neuZ k then a else wayZ k) s
/-- marks right behind -/
def runZ (nsm : Int → Bool) (v : Int) : List Int → List Int → List Int
  | r :: rs, k :: ks => if nsm r && neuZ k then v :: runZ nsm v rs ks else k :: ks
  | _, ks => ks
def becZ (nsm : Int → Bool) (rs : List Int) (ks : List Int) (i : Nat) (v : Int) : List Int :=
  ks.take i ++ (match ks.drop i with
    | [] => []
    | _ :: t => v :: runZ nsm v (rs.drop (i + 1)) t)
/-- step 1 of a pair -/
def pairZ9 (nsm : Int → Bool) (rs : List Int) (e sos : Int) (ks : List Int) (p : Nat × Nat) : List Int :=
  let mid := (ks.drop (p.1 + 1)).take (p.2 - (p.1 + 1))
  let a := aheadZ sos (ks.take p.1)
  if sameZ e mid = false ∧ otherZ e mid = false then ks
  else
    let v := if sameZ e mid = false ∧ a ≠ e then a else e
    becZ nsm rs (becZ nsm rs ks p.1 v) p.2 v
/-- steps 2 and 3: a: the direction ahead of the stretch; c: how long it is by now -/
def rstZ (e eos : Int) : Int → Nat → List Int → List Int
  | a, c, [] => List.replicate c (if a = eos then a else e)
  | a, c, k :: t => if neuZ k = true then rstZ e eos a (c + 1) t else List.replicate c (if a = wayZ k then a else e) ++ k :: rstZ e eos (wayZ k) 0 t
def rsZ (pr : Int → Int × Bool × Bool) (nsm : Int → Bool) (rs ks : List Int) (level sos eos : Int) : List Int :=
  let n := min rs.length ks.length
  let out := (ks.take n).map cn9
  let e := lvlZ level
  rstZ e (sidZ eos) (sidZ sos) 0 ((brZ pr (rs.take n) out).foldl (pairZ9 nsm (rs.take n) e (sidZ sos)) out)

theorem rstZ_len (e eos : Int) : ∀ (l : List Int) (a : Int) (c : Nat), (rstZ e eos a c l).length = c + l.length
  | [], a, c => by simp [rstZ]
  | k :: t, a, c => by
    unfold rstZ
    split
    · rw [rstZ_len e eos t a (c + 1), List.length_cons]; omega
    · simp only [List.length_append, List.length_replicate, List.length_cons, rstZ_len e eos t]; omega
theorem runZ_len (nsm : Int → Bool) (v : Int) : ∀ (rs ks : List Int), (runZ nsm v rs ks).length = ks.length
  | [], ks => by unfold runZ; rfl
  | r :: rs, [] => by unfold runZ; rfl
  | r :: rs, k :: ks => by
    unfold runZ
    split
    · simp only [List.length_cons, runZ_len nsm v rs ks]
    · rfl
theorem becZ_len (nsm : Int → Bool) (rs ks : List Int) (i : Nat) (v : Int) : (becZ nsm rs ks i v).length = ks.length := by
  unfold becZ
  rw [List.length_append]
  have h := List.length_drop (i := i) (l := ks)
  split
  · next e => rw [e] at h; simp at h ⊢; omega
  · next e => rw [e] at h; simp only [List.length_cons, runZ_len, List.length_take] at h ⊢; omega
theorem pairZ9_len (nsm : Int → Bool) (rs : List Int) (e sos : Int) (ks : List Int) (p : Nat × Nat) : (pairZ9 nsm rs e sos ks p).length = ks.length := by
  unfold pairZ9
  simp only
  split
  · rfl
  · rw [becZ_len, becZ_len]
theorem fold_len (nsm : Int → Bool) (rs : List Int) (e sos : Int) : ∀ (ps : Prs) (ks : List Int), (ps.foldl (pairZ9 nsm rs e sos) ks).length = ks.length
  | [], _ => rfl
  | p :: ps, ks => by rw [List.foldl_cons, fold_len nsm rs e sos ps, pairZ9_len]
theorem rsZ_len (pr : Int → Int × Bool × Bool) (nsm : Int → Bool) (rs ks : List Int) (level sos eos : Int) : (rsZ pr nsm rs ks level sos eos).length = min rs.length ks.length := by
  unfold rsZ
  simp only
  rw [rstZ_len, fold_len]
  simp

/-- a place that step 1 may write: neutral at first -/
theorem runZ_at (nsm : Int → Bool) (v : Int) : ∀ (rs ks : List Int) (j : Nat), (runZ nsm v rs ks)[j]? = ks[j]? ∨ (∃ k, ks[j]? = some k ∧ neuZ k = true ∧ (runZ nsm v rs ks)[j]? = some v)
  | [], ks, j => .inl (by unfold runZ; rfl)
  | r :: rs, [], j => .inl (by unfold runZ; rfl)
  | r :: rs, k :: ks, j => by
    unfold runZ
    split
    · next h =>
      rw [Bool.and_eq_true] at h
      cases j with
      | zero => exact .inr ⟨k, rfl, h.2, rfl⟩
      | succ j => exact runZ_at nsm v rs ks j
    · exact .inl rfl
theorem becZ_at (nsm : Int → Bool) (rs ks : List Int) (i : Nat) (v : Int) (j : Nat) : (becZ nsm rs ks i v)[j]? = ks[j]? ∨ (j = i ∧ j < ks.length ∧ (becZ nsm rs ks i v)[j]? = some v) ∨ (∃ k, ks[j]? = some k ∧ neuZ k = true ∧ (becZ nsm rs ks i v)[j]? = some v) := by
  unfold becZ
  rcases Nat.lt_or_ge j i with h | h
  · left
    rcases Nat.lt_or_ge j ks.length with h2 | h2
    · rw [List.getElem?_append_left (by simp; omega), List.getElem?_take, if_pos h]
    · rw [List.getElem?_eq_none h2, List.getElem?_eq_none]
      have hd : ks.drop i = [] := List.drop_of_length_le (by omega)
      rw [hd]
      simp
      omega
  · rcases Nat.lt_or_ge i ks.length with h2 | h2
    · have hl : (ks.take i).length = i := by simp; omega
      rw [List.getElem?_append_right (by omega), hl]
      obtain ⟨x, hx⟩ : ∃ x, ks[i]? = some x := ⟨_, List.getElem?_eq_getElem h2⟩
      have hd : ks.drop i = x :: ks.drop (i + 1) := by
        rw [List.drop_eq_getElem_cons h2]
        congr 1
        rw [List.getElem?_eq_getElem h2] at hx
        exact Option.some.inj hx
      rw [hd]
      rcases Nat.eq_or_lt_of_le h with h3 | h3
      · subst h3
        exact .inr (.inl ⟨rfl, h2, by simp⟩)
      · obtain ⟨m, hm⟩ : ∃ m, j - i = m + 1 := ⟨j - i - 1, by omega⟩
        rw [hm]
        have e : ks[j]? = (ks.drop (i + 1))[m]? := by rw [List.getElem?_drop]; congr 1; omega
        rcases runZ_at nsm v (rs.drop (i + 1)) (ks.drop (i + 1)) m with h4 | ⟨k, h4, h5, h6⟩
        · exact .inl (by rw [e, ← h4]; rfl)
        · exact .inr (.inr ⟨k, by rw [e, h4], h5, h6⟩)
    · left
      have hd : ks.drop i = [] := List.drop_of_length_le h2
      rw [hd, List.append_nil, List.getElem?_take]
      by_cases hj : j < i
      · rw [if_pos hj]
      · rw [if_neg hj, List.getElem?_eq_none (by omega)]
end Go.Proofs.Ytkcckophnamajaa

/- Layer 9, pure: what stays; one direction fills all; what is resolved stays; without brackets. -/
namespace Go.Proofs.Ytkcckophnamajaa

theorem neu_not {k : Int} (h : neuZ k = false) : k = 0 ∨ k = 1 ∨ k = 2 ∨ k = 3 ∨ k = 6 := by
  unfold neuZ at h
  simp only [Bool.not_eq_false', Bool.or_eq_true, beq_iff_eq] at h
  omega
theorem neu_two {k : Int} (h : k = 0 ∨ k = 1) : neuZ k = false := by rcases h with rfl | rfl <;> rfl
theorem way_two (k : Int) : wayZ k = 0 ∨ wayZ k = 1 := by unfold wayZ; split <;> simp
theorem way_self {k : Int} (h : k = 0 ∨ k = 1) : wayZ k = k := by rcases h with rfl | rfl <;> rfl
theorem sid_two (k : Int) : sidZ k = 0 ∨ sidZ k = 1 := by unfold sidZ; split <;> simp
theorem lvl_two (k : Int) : lvlZ k = 0 ∨ lvlZ k = 1 := by unfold lvlZ; split <;> simp
theorem ahead_two (l : List Int) : ∀ (s : Int), s = 0 ∨ s = 1 → aheadZ s l = 0 ∨ aheadZ s l = 1 := by
  induction l with
  | nil => exact fun s h => h
  | cons k t ih =>
    intro s h
    refine ih _ ?_
    show (if neuZ k = true then s else wayZ k) = 0 ∨ (if neuZ k = true then s else wayZ k) = 1
    split
    · exact h
    · exact way_two k
theorem ahead_snoc (s : Int) (l : List Int) (k : Int) : aheadZ s (l ++ [k]) = if neuZ k = true then aheadZ s l else wayZ k := by simp [aheadZ]

/-- what was not neutral at first stands as it stood -/
def KeepN (ks0 cur : List Int) : Prop := cur.length = ks0.length ∧ ∀ (j : Nat) k, ks0[j]? = some k → neuZ k = false → cur[j]? = some k
theorem bec_keep {nsm : Int → Bool} {rs ks0 cur : List Int} {i : Nat} {v : Int} (h : KeepN ks0 cur) (hi : ks0[i]? = some 13) : KeepN ks0 (becZ nsm rs cur i v) := by
  refine ⟨by rw [becZ_len]; exact h.1, fun j k hj hn => ?_⟩
  have hc := h.2 j k hj hn
  rcases becZ_at nsm rs cur i v j with e | ⟨e, _, _⟩ | ⟨k', e, hk, _⟩
  · rw [e, hc]
  · subst e
    rw [hi] at hj
    injection hj with hj
    subst hj
    cases hn
  · rw [hc] at e
    injection e with e
    subst e
    rw [hn] at hk
    cases hk
theorem pair_keep {nsm : Int → Bool} {rs ks0 cur : List Int} {e sos : Int} {p : Nat × Nat} (h : KeepN ks0 cur) (h1 : ks0[p.1]? = some 13) (h2 : ks0[p.2]? = some 13) : KeepN ks0 (pairZ9 nsm rs e sos cur p) := by
  unfold pairZ9
  simp only
  split
  · exact h
  · exact bec_keep (bec_keep h h1) h2
theorem fold_keep {nsm : Int → Bool} {rs ks0 : List Int} {e sos : Int} : ∀ (ps : Prs) (cur : List Int), KeepN ks0 cur → (∀ p ∈ ps, ks0[p.1]? = some 13 ∧ ks0[p.2]? = some 13) → KeepN ks0 (ps.foldl (pairZ9 nsm rs e sos) cur)
  | [], _, h, _ => h
  | p :: ps, cur, h, hp => fold_keep ps _ (pair_keep h (hp p (by simp)).1 (hp p (by simp)).2) (fun q hq => hp q (by simp [hq]))
/-- the stretches: what stands stays, all else becomes the direction ahead or the level's -/
theorem rst_at (e eos : Int) : ∀ (l : List Int) (a : Int) (c : Nat), (∀ i, i < c → (rstZ e eos a c l)[i]? = some a ∨ (rstZ e eos a c l)[i]? = some e) ∧
    ∀ (j : Nat) k, l[j]? = some k → (neuZ k = false → (rstZ e eos a c l)[c + j]? = some k) ∧ (neuZ k = true → (rstZ e eos a c l)[c + j]? = some (aheadZ a (l.take j)) ∨ (rstZ e eos a c l)[c + j]? = some e)
  | [], a, c => by
    refine ⟨fun i hi => ?_, fun j k h => by simp at h⟩
    unfold rstZ
    rw [List.getElem?_replicate, if_pos hi]
    by_cases h : a = eos
    · rw [if_pos h]; exact .inl rfl
    · rw [if_neg h]; exact .inr rfl
  | x :: t, a, c => by
    unfold rstZ
    by_cases hx : neuZ x = true
    · rw [if_pos hx]
      obtain ⟨h1, h2⟩ := rst_at e eos t a (c + 1)
      refine ⟨fun i hi => h1 i (by omega), fun j k hj => ?_⟩
      cases j with
      | zero =>
        have : x = k := by simpa using hj
        subst this
        exact ⟨(fun h => by rw [hx] at h; cases h), fun _ => h1 c (by omega)⟩
      | succ j =>
        have := h2 j k (by simpa using hj)
        rw [show c + (j + 1) = c + 1 + j by omega]
        refine ⟨this.1, fun h => ?_⟩
        have h3 := this.2 h
        rw [List.take_succ_cons]
        show _ = some ((t.take j).foldl _ (if neuZ x = true then a else wayZ x)) ∨ _
        rw [if_pos hx]
        exact h3
    · rw [if_neg hx]
      have hr : (List.replicate c (if a = wayZ x then a else e)).length = c := by simp
      refine ⟨fun i hi => ?_, fun j k hj => ?_⟩
      · rw [List.getElem?_append_left (by omega), List.getElem?_replicate, if_pos hi]
        by_cases h : a = wayZ x
        · rw [if_pos h]; exact .inl rfl
        · rw [if_neg h]; exact .inr rfl
      · rw [List.getElem?_append_right (by omega), hr]
        cases j with
        | zero =>
          have : x = k := by simpa using hj
          subst this
          exact ⟨fun _ => by simp, fun h => absurd h hx⟩
        | succ j =>
          obtain ⟨_, h2⟩ := rst_at e eos t (wayZ x) 0
          have := h2 j k (by simpa using hj)
          rw [Nat.zero_add] at this
          rw [show c + (j + 1) - c = j + 1 by omega, List.getElem?_cons_succ]
          refine ⟨this.1, fun h => ?_⟩
          have h3 := this.2 h
          rw [List.take_succ_cons]
          show _ = some ((t.take j).foldl _ (if neuZ x = true then a else wayZ x)) ∨ _
          rw [if_neg hx]
          exact h3
/-- of any place of the answer -/
theorem rst_two (e eos a : Int) (he : e = 0 ∨ e = 1) (ha : a = 0 ∨ a = 1) (l : List Int) (j : Nat) (k : Int) (h : l[j]? = some k) : (neuZ k = false → (rstZ e eos a 0 l)[j]? = some k) ∧ (neuZ k = true → ∃ v, (v = 0 ∨ v = 1) ∧ (rstZ e eos a 0 l)[j]? = some v) := by
  have := (rst_at e eos l a 0).2 j k h
  rw [Nat.zero_add] at this
  refine ⟨this.1, fun hn => ?_⟩
  rcases this.2 hn with h1 | h1
  · exact ⟨_, ahead_two _ a ha, h1⟩
  · exact ⟨e, he, h1⟩

/-- all of one direction -/
def OneW (e : Int) (l : List Int) : Prop := ∀ k ∈ l, neuZ k = false → wayZ k = e
theorem oneW_bec {nsm : Int → Bool} {rs cur : List Int} {i : Nat} {e : Int} (he : e = 0 ∨ e = 1) (h : OneW e cur) : OneW e (becZ nsm rs cur i e) := by
  intro k hk hn
  obtain ⟨j, hj⟩ := List.getElem?_of_mem hk
  rcases becZ_at nsm rs cur i e j with h1 | ⟨_, _, h1⟩ | ⟨_, _, _, h1⟩
  · rw [h1] at hj
    exact h k (List.mem_of_getElem? hj) hn
  · rw [h1] at hj
    injection hj with hj
    rw [← hj]
    exact way_self he
  · rw [h1] at hj
    injection hj with hj
    rw [← hj]
    exact way_self he
theorem oneW_other {e : Int} {l : List Int} (h : OneW e l) : otherZ e l = false := by
  unfold otherZ
  rw [List.any_eq_false]
  intro k hk hc
  rw [Bool.and_eq_true] at hc
  have hn : neuZ k = false := by simpa using hc.1
  have := h k hk hn
  simp [this] at hc
theorem oneW_sub {e : Int} {l m : List Int} (h : OneW e l) (hs : ∀ k ∈ m, k ∈ l) : OneW e m := fun k hk hn => h k (hs k hk) hn
theorem oneW_pair {nsm : Int → Bool} {rs cur : List Int} {e sos : Int} {p : Nat × Nat} (he : e = 0 ∨ e = 1) (h : OneW e cur) : OneW e (pairZ9 nsm rs e sos cur p) := by
  have ho : otherZ e ((cur.drop (p.1 + 1)).take (p.2 - (p.1 + 1))) = false := oneW_other (oneW_sub h fun k hk => List.mem_of_mem_drop (List.mem_of_mem_take hk))
  unfold pairZ9
  simp only [ho]
  split
  · exact h
  · next hc =>
    have hs : sameZ e ((cur.drop (p.1 + 1)).take (p.2 - (p.1 + 1))) ≠ false := fun x => hc (by simp [x])
    simp only [hs, false_and, if_false]
    exact oneW_bec he (oneW_bec he h)
theorem oneW_fold {nsm : Int → Bool} {rs : List Int} {e sos : Int} (he : e = 0 ∨ e = 1) : ∀ (ps : Prs) (cur : List Int), OneW e cur → OneW e (ps.foldl (pairZ9 nsm rs e sos) cur)
  | [], _, h => h
  | p :: ps, _, h => oneW_fold he ps _ (oneW_pair he h)
theorem oneW_ahead {e : Int} : ∀ (l : List Int), OneW e l → aheadZ e l = e
  | [], _ => rfl
  | k :: t, h => by
    show aheadZ (if neuZ k = true then e else wayZ k) t = e
    have ht := oneW_ahead t (oneW_sub h fun x hx => by simp [hx])
    split
    · exact ht
    · next hn => rw [h k (by simp) (by simpa using hn)]; exact ht
theorem rst_one {e : Int} {l : List Int} (h : OneW e l) {j : Nat} {k : Int} (hj : l[j]? = some k) (hn : neuZ k = true) : (rstZ e e e 0 l)[j]? = some e := by
  have := ((rst_at e e l e 0).2 j k hj).2 hn
  rw [Nat.zero_add, oneW_ahead _ (oneW_sub h fun x hx => List.mem_of_mem_take hx)] at this
  rcases this with h1 | h1 <;> exact h1

/-- nothing neutral: nothing is turned -/
theorem rst_id (e eos : Int) : ∀ (l : List Int) (a : Int), (∀ k ∈ l, neuZ k = false) → rstZ e eos a 0 l = l
  | [], _, _ => by simp [rstZ]
  | k :: t, a, h => by
    have hk := h k (by simp)
    unfold rstZ
    rw [if_neg (by rw [hk]; decide), rst_id e eos t _ (fun x hx => h x (by simp [hx]))]
    simp
theorem brk_none (pr : Int → Int × Bool × Bool) : ∀ (l : List (Int × Int)) (i : Nat) (stk : Stk) (out : Prs), (∀ x ∈ l, (pr x.1).2.2 = false ∨ x.2 ≠ 13) → brkZ pr i l stk out = out
  | [], _, _, _, _ => rfl
  | (r, k) :: t, i, stk, out, h => by
    unfold brkZ
    rw [if_pos (h (r, k) (by simp))]
    exact brk_none pr t (i + 1) stk out (fun x hx => h x (by simp [hx]))
theorem cn9_id {l : List Int} (h : ∀ k ∈ l, k ≠ 2) : l.map cn9 = l := by
  induction l with
  | nil => rfl
  | cons k t ih =>
    rw [List.map_cons, ih (fun x hx => h x (by simp [hx]))]
    congr 1
    unfold cn9
    rw [if_neg (h k (by simp))]
/-- what is resolved is resolved to itself -/
theorem rs_again (pr : Int → Int × Bool × Bool) (nsm : Int → Bool) (rs l : List Int) (level sos eos : Int) (hl : rs.length = l.length) (h : ∀ k ∈ l, k = 0 ∨ k = 1 ∨ k = 3 ∨ k = 6) : rsZ pr nsm rs l level sos eos = l := by
  have hb : brZ pr (rs.take (min rs.length l.length)) ((l.take (min rs.length l.length)).map cn9) = [] := by
    refine brk_none pr _ 0 [] [] (fun x hx => .inr ?_)
    have hx2 := (List.of_mem_zip hx).2
    rw [hl, Nat.min_self, List.take_length, cn9_id (fun k hk => by have := h k hk; omega)] at hx2
    have := h _ hx2
    omega
  unfold rsZ
  simp only
  rw [hb, List.foldl_nil, hl, Nat.min_self, List.take_length, cn9_id (fun k hk => by have := h k hk; omega)]
  refine rst_id _ _ _ _ (fun k hk => ?_)
  rcases h k hk with rfl | rfl | rfl | rfl <;> rfl
end Go.Proofs.Ytkcckophnamajaa

/- Layer 9, pure: the program's way: neutral kinds are one; pairs by the places of what closes; what stands between stays; counts. -/
namespace Go.Proofs.Ytkcckophnamajaa

def nf (k : Int) : Int := if neuZ k = true then 13 else k
/-- as it counts -/
def cntK (k : Int) : Int := if k = 0 ∨ k = 1 ∨ k = 3 ∨ k = 6 then k else if k = 2 then 1 else 13
theorem nf_neu {k : Int} (h : neuZ k = true) : nf k = 13 := if_pos h
theorem nf_not {k : Int} (h : neuZ k = false) : nf k = k := if_neg (by rw [h]; decide)
theorem neu_of {k : Int} (h0 : k ≠ 0) (h1 : k ≠ 1) (h2 : k ≠ 2) (h3 : k ≠ 3) (h6 : k ≠ 6) : neuZ k = true := by simp [neuZ, h0, h1, h2, h3, h6]
theorem nf_cn (k : Int) : nf (cn9 k) = cntK k := by
  by_cases h0 : k = 0
  · subst h0; rfl
  by_cases h1 : k = 1
  · subst h1; rfl
  by_cases h2 : k = 2
  · subst h2; rfl
  by_cases h3 : k = 3
  · subst h3; rfl
  by_cases h6 : k = 6
  · subst h6; rfl
  have e : cn9 k = k := if_neg h2
  rw [e, nf_neu (neu_of h0 h1 h2 h3 h6)]
  unfold cntK
  rw [if_neg (by omega), if_neg h2]
theorem neu_nf (k : Int) : neuZ (nf k) = neuZ k := by
  cases h : neuZ k with
  | true => rw [nf_neu h]; rfl
  | false => rw [nf_not h, h]
theorem same_nf (e : Int) (l : List Int) : sameZ e (l.map nf) = sameZ e l := by
  unfold sameZ
  rw [List.any_map]
  congr 1
  funext k
  show (!neuZ (nf k) && wayZ (nf k) == e) = _
  rw [neu_nf]
  cases h : neuZ k with
  | true => rfl
  | false => rw [nf_not h]
theorem other_nf (e : Int) (l : List Int) : otherZ e (l.map nf) = otherZ e l := by
  unfold otherZ
  rw [List.any_map]
  congr 1
  funext k
  show (!neuZ (nf k) && wayZ (nf k) != e) = _
  rw [neu_nf]
  cases h : neuZ k with
  | true => rfl
  | false => rw [nf_not h]
theorem ahead_nf : ∀ (l : List Int) (s : Int), aheadZ s (l.map nf) = aheadZ s l
  | [], _ => rfl
  | k :: l, s => by
    show aheadZ (if neuZ (nf k) = true then s else wayZ (nf k)) (l.map nf) = aheadZ (if neuZ k = true then s else wayZ k) l
    rw [ahead_nf l, neu_nf]
    cases h : neuZ k with
    | true => rfl
    | false => rw [nf_not h]
theorem run_nf (nsm : Int → Bool) {v : Int} (hv : nf v = v) : ∀ (rs ks : List Int), runZ nsm v rs (ks.map nf) = (runZ nsm v rs ks).map nf
  | [], ks => by simp [runZ]
  | r :: rs, [] => by simp [runZ]
  | r :: rs, k :: ks => by
    rw [List.map_cons, runZ, runZ, neu_nf]
    split
    · rw [List.map_cons, hv, run_nf nsm hv rs ks]
    · rw [List.map_cons]
theorem bec_nf (nsm : Int → Bool) (rs ks : List Int) (i : Nat) {v : Int} (hv : nf v = v) : becZ nsm rs (ks.map nf) i v = (becZ nsm rs ks i v).map nf := by
  unfold becZ
  rw [List.map_append, List.map_take, ← List.map_drop]
  congr 1
  cases ks.drop i with
  | nil => rfl
  | cons k t =>
    show v :: runZ nsm v (rs.drop (i + 1)) (t.map nf) = (v :: runZ nsm v (rs.drop (i + 1)) t).map nf
    rw [List.map_cons, hv, run_nf nsm hv]
theorem nf_two {v : Int} (h : v = 0 ∨ v = 1) : nf v = v := nf_not (neu_two h)
theorem pair_nf (nsm : Int → Bool) (rs : List Int) {e sos : Int} (he : e = 0 ∨ e = 1) (hs : sos = 0 ∨ sos = 1) (ks : List Int) (p : Nat × Nat) : pairZ9 nsm rs e sos (ks.map nf) p = (pairZ9 nsm rs e sos ks p).map nf := by
  have e1 : ((ks.map nf).drop (p.1 + 1)).take (p.2 - (p.1 + 1)) = ((ks.drop (p.1 + 1)).take (p.2 - (p.1 + 1))).map nf := by rw [List.map_take, List.map_drop]
  unfold pairZ9
  simp only
  rw [e1, same_nf, other_nf, ← List.map_take, ahead_nf]
  have ha := ahead_two (ks.take p.1) sos hs
  split
  · rfl
  · split
    · rw [bec_nf nsm rs _ _ (nf_two ha), bec_nf nsm rs _ _ (nf_two ha)]
    · rw [bec_nf nsm rs _ _ (nf_two he), bec_nf nsm rs _ _ (nf_two he)]
theorem fold_nf (nsm : Int → Bool) (rs : List Int) {e sos : Int} (he : e = 0 ∨ e = 1) (hs : sos = 0 ∨ sos = 1) : ∀ (ps : Prs) (ks : List Int), ps.foldl (pairZ9 nsm rs e sos) (ks.map nf) = (ps.foldl (pairZ9 nsm rs e sos) ks).map nf
  | [], _ => rfl
  | p :: ps, ks => by rw [List.foldl_cons, List.foldl_cons, pair_nf nsm rs he hs, fold_nf nsm rs he hs ps]
theorem rst_nf (e eos : Int) : ∀ (l : List Int) (a : Int) (c : Nat), rstZ e eos a c (l.map nf) = rstZ e eos a c l
  | [], _, _ => rfl
  | k :: l, a, c => by
    rw [List.map_cons, rstZ, rstZ, neu_nf]
    cases h : neuZ k with
    | true => simp only [if_true, rst_nf e eos l]
    | false => simp only [Bool.false_eq_true, if_false]; rw [nf_not h, rst_nf e eos l]
theorem run_take9 (nsm : Int → Bool) (v : Int) : ∀ (rs t : List Int) (m : Nat), t.length ≤ m → runZ nsm v (rs.take m) t = runZ nsm v rs t
  | [], t, m, _ => by simp
  | r :: rs, [], m, _ => by
    cases m with
    | zero => simp [runZ]
    | succ m => simp [runZ]
  | r :: rs, k :: t, m, h => by
    obtain ⟨m, rfl⟩ : ∃ q, m = q + 1 := ⟨m - 1, by simp at h; omega⟩
    rw [List.take_succ_cons, runZ, runZ, run_take9 nsm v rs t m (by simp at h; omega)]
theorem bec_take9 (nsm : Int → Bool) (rs ks : List Int) (i : Nat) (v : Int) (n : Nat) (h : ks.length = n) : becZ nsm (rs.take n) ks i v = becZ nsm rs ks i v := by
  unfold becZ
  congr 1
  have hd : (ks.drop i).length = n - i := by rw [List.length_drop, h]
  split
  · rfl
  · next x t e =>
    rw [e, List.length_cons] at hd
    rw [List.drop_take, run_take9 nsm v _ t _ (by omega)]
theorem pair_take9 (nsm : Int → Bool) (rs ks : List Int) (e sos : Int) (p : Nat × Nat) (n : Nat) (h : ks.length = n) : pairZ9 nsm (rs.take n) e sos ks p = pairZ9 nsm rs e sos ks p := by
  unfold pairZ9
  simp only
  split
  · rfl
  · rw [bec_take9 nsm rs ks p.1 _ n h, bec_take9 nsm rs _ p.2 _ n (by rw [becZ_len, h])]
theorem fold_take9 (nsm : Int → Bool) (rs : List Int) (e sos : Int) (n : Nat) : ∀ (ps : Prs) (ks : List Int), ks.length = n → ps.foldl (pairZ9 nsm (rs.take n) e sos) ks = ps.foldl (pairZ9 nsm rs e sos) ks
  | [], _, _ => rfl
  | p :: ps, ks, h => by rw [List.foldl_cons, List.foldl_cons, pair_take9 nsm rs ks e sos p n h, fold_take9 nsm rs e sos n ps _ (by rw [pairZ9_len, h])]
theorem zip_min : ∀ (rs ks : List Int), (rs.take (min rs.length ks.length)).zip (ks.take (min rs.length ks.length)) = rs.zip ks
  | [], ks => by simp
  | r :: rs, [] => by simp
  | r :: rs, k :: ks => by
    have e : min (r :: rs).length (k :: ks).length = min rs.length ks.length + 1 := by simp only [List.length_cons]; omega
    rw [e, List.take_succ_cons, List.take_succ_cons, List.zip_cons_cons, List.zip_cons_cons, zip_min rs ks]
theorem brk_map (pr : Int → Int × Bool × Bool) (f : Int → Int) (hf : ∀ k, f k = 13 ↔ k = 13) : ∀ (rs ks : List Int) (i : Nat) (stk : Stk) (out : Prs), brkZ pr i (rs.zip (ks.map f)) stk out = brkZ pr i (rs.zip ks) stk out
  | [], ks, _, _, _ => by simp
  | r :: rs, [], _, _, _ => by simp
  | r :: rs, k :: ks, i, stk, out => by
    have hc : ((pr r).2.2 = false ∨ f k ≠ 13) ↔ ((pr r).2.2 = false ∨ k ≠ 13) := by rw [ne_eq, ne_eq, hf]
    rw [List.map_cons, List.zip_cons_cons, List.zip_cons_cons, brkZ, brkZ]
    by_cases h : (pr r).2.2 = false ∨ k ≠ 13
    · rw [if_pos h, if_pos (hc.2 h), brk_map pr f hf rs ks]
    · rw [if_neg h, if_neg (fun x => h (hc.1 x)), brk_map pr f hf rs ks]
      split
      · rfl
      · split
        · exact brk_map pr f hf rs ks _ _ _
        · exact brk_map pr f hf rs ks _ _ _
theorem cn9_13 (k : Int) : cn9 k = 13 ↔ k = 13 := by
  unfold cn9
  split <;> omega
theorem brZ_min (pr : Int → Int × Bool × Bool) (rs ks : List Int) : brZ pr (rs.take (min rs.length ks.length)) ((ks.take (min rs.length ks.length)).map cn9) = brZ pr rs ks := by
  unfold brZ
  rw [brk_map pr cn9 cn9_13, zip_min]
/-- what the program reckons -/
theorem rsZ_prog (pr : Int → Int × Bool × Bool) (nsm : Int → Bool) (rs ks : List Int) (level sos eos : Int) :
    rsZ pr nsm rs ks level sos eos = rstZ (lvlZ level) (sidZ eos) (sidZ sos) 0 ((brZ pr rs ks).foldl (pairZ9 nsm rs (lvlZ level) (sidZ sos)) ((ks.take (min rs.length ks.length)).map cntK)) := by
  have hl : ((ks.take (min rs.length ks.length)).map cn9).length = min rs.length ks.length := by rw [List.length_map, List.length_take]; omega
  have e : (ks.take (min rs.length ks.length)).map cntK = ((ks.take (min rs.length ks.length)).map cn9).map nf := by
    rw [List.map_map]
    congr 1
    funext k
    exact (nf_cn k).symm
  unfold rsZ
  simp only
  rw [brZ_min, fold_take9 nsm rs _ _ _ _ _ hl, e, fold_nf nsm rs (lvl_two level) (sid_two sos), rst_nf]

/-- pairs by the places of the ones that close -/
def brkY (pr : Int → Int × Bool × Bool) : Nat → List (Int × Int) → Stk → Prs → Prs
  | _, [], _, out => out
  | i, (r, k) :: t, stk, out =>
    if (pr r).2.2 = false ∨ k ≠ 13 then brkY pr (i + 1) t stk out
    else if (pr r).2.1 = true then (if stk.length = 63 then out else brkY pr (i + 1) t ((i, (pr r).1) :: stk) out)
    else match fndZ r stk with
      | none => brkY pr (i + 1) t stk out
      | some (a, t') => brkY pr (i + 1) t t' (out ++ [(a, i)])
def brY (pr : Int → Int × Bool × Bool) (rs ks : List Int) : Prs := brkY pr 0 (rs.zip ks) [] []
theorem putZ_perm (l : Prs) (p : Nat × Nat) : (putZ l p).Perm (p :: l) := by
  unfold putZ
  exact List.perm_middle.trans (List.Perm.cons p (by rw [List.take_append_drop]))
theorem brkY_perm (pr : Int → Int × Bool × Bool) : ∀ (l : List (Int × Int)) (i : Nat) (stk : Stk) (out out' : Prs), out.Perm out' → (brkY pr i l stk out).Perm (brkZ pr i l stk out')
  | [], _, _, _, _, h => h
  | (r, k) :: t, i, stk, out, out', h => by
    unfold brkY brkZ
    split
    · exact brkY_perm pr t _ _ _ _ h
    · split
      · split
        · exact h
        · exact brkY_perm pr t _ _ _ _ h
      · generalize fndZ r stk = F
        rcases F with _ | ⟨a, t'⟩
        · exact brkY_perm pr t _ _ _ _ h
        · refine brkY_perm pr t _ _ _ _ ?_
          exact (List.perm_append_comm.trans (List.Perm.cons _ h)).trans (putZ_perm out' _).symm
/-- no more pairs than characters -/
theorem brkY_len (pr : Int → Int × Bool × Bool) : ∀ (l : List (Int × Int)) (i : Nat) (stk : Stk) (out : Prs), (brkY pr i l stk out).length ≤ out.length + l.length
  | [], _, _, _ => by unfold brkY; simp
  | (r, k) :: t, i, stk, out => by
    unfold brkY
    rw [List.length_cons]
    split
    · have := brkY_len pr t (i + 1) stk out; omega
    · split
      · split
        · omega
        · have := brkY_len pr t (i + 1) ((i, (pr r).1) :: stk) out; omega
      · split
        · have := brkY_len pr t (i + 1) stk out; omega
        · next a t' _ => have := brkY_len pr t (i + 1) t' (out ++ [(a, i)]); simp only [List.length_append, List.length_cons, List.length_nil] at this; omega
/-- what is sorted by the first ones is what was put so -/
theorem up_sorted {l m : Prs} (hm : Up m) (hp : l.Perm m) (hs : ∀ (i j : Nat) (p q : Nat × Nat), i < j → l[i]? = some p → l[j]? = some q → ¬ q.1 < p.1) : l = m := by
  refine List.Perm.eq_of_pairwise (le := fun p q : Nat × Nat => p.1 ≤ q.1) ?_ ?_ ?_ hp
  · intro a b ha hb h1 h2
    have ha' := hp.mem_iff.1 ha
    obtain ⟨i, hi, rfl⟩ := List.getElem_of_mem ha'
    obtain ⟨j, hj, rfl⟩ := List.getElem_of_mem hb
    rcases Nat.lt_trichotomy i j with h | h | h
    · have := List.pairwise_iff_getElem.1 hm i j hi hj h
      omega
    · subst h; rfl
    · have := List.pairwise_iff_getElem.1 hm j i hj hi h
      omega
  · rw [List.pairwise_iff_getElem]
    intro i j hi hj hij
    have := hs i j _ _ hij (List.getElem?_eq_getElem hi) (List.getElem?_eq_getElem hj)
    omega
  · exact List.Pairwise.imp (fun h => Nat.le_of_lt h) hm

/-- a place that step 1 may turn -/
def Tch (nsm : Int → Bool) (rs : List Int) (ps : Prs) (j : Nat) : Prop := ∃ p ∈ ps, ∃ a, (a = p.1 ∨ a = p.2) ∧ a ≤ j ∧ ∀ i, a < i → i ≤ j → ∃ r, rs[i]? = some r ∧ nsm r = true
theorem run_tch (nsm : Int → Bool) (v : Int) : ∀ (rs ks : List Int) (j : Nat), (runZ nsm v rs ks)[j]? = ks[j]? ∨ ∀ i, i ≤ j → ∃ r, rs[i]? = some r ∧ nsm r = true
  | [], ks, j => .inl (by unfold runZ; rfl)
  | r :: rs, [], j => .inl (by unfold runZ; rfl)
  | r :: rs, k :: ks, j => by
    unfold runZ
    split
    · next h =>
      rw [Bool.and_eq_true] at h
      cases j with
      | zero =>
        refine .inr (fun i hi => ?_)
        obtain rfl : i = 0 := by omega
        exact ⟨r, rfl, h.1⟩
      | succ j =>
        rcases run_tch nsm v rs ks j with h1 | h1
        · exact .inl h1
        · refine .inr (fun i hi => ?_)
          cases i with
          | zero => exact ⟨r, rfl, h.1⟩
          | succ i => exact h1 i (by omega)
    · exact .inl rfl
theorem bec_tch (nsm : Int → Bool) (rs ks : List Int) (a : Nat) (v : Int) (j : Nat) : (becZ nsm rs ks a v)[j]? = ks[j]? ∨ (a ≤ j ∧ ∀ i, a < i → i ≤ j → ∃ r, rs[i]? = some r ∧ nsm r = true) := by
  rcases Nat.lt_or_ge j a with h | h
  · left
    unfold becZ
    rcases Nat.lt_or_ge j ks.length with h2 | h2
    · rw [List.getElem?_append_left (by simp; omega), List.getElem?_take, if_pos h]
    · rw [List.getElem?_eq_none h2, List.getElem?_eq_none]
      have hd : ks.drop a = [] := List.drop_of_length_le (by omega)
      rw [hd]
      simp
      omega
  · rcases Nat.eq_or_lt_of_le h with h3 | h3
    · exact .inr ⟨h, fun i h4 h5 => by omega⟩
    · rcases Nat.lt_or_ge a ks.length with h2 | h2
      · have hl : (ks.take a).length = a := by simp; omega
        have hd : ks.drop a = ks[a] :: ks.drop (a + 1) := List.drop_eq_getElem_cons h2
        unfold becZ
        rw [hd, List.getElem?_append_right (by omega), hl]
        obtain ⟨m, hm⟩ : ∃ m, j - a = m + 1 := ⟨j - a - 1, by omega⟩
        rw [hm, List.getElem?_cons_succ]
        have e : ks[j]? = (ks.drop (a + 1))[m]? := by rw [List.getElem?_drop]; congr 1; omega
        rcases run_tch nsm v (rs.drop (a + 1)) (ks.drop (a + 1)) m with h4 | h4
        · exact .inl (by rw [e, ← h4])
        · refine .inr ⟨h, fun i h5 h6 => ?_⟩
          obtain ⟨r, hr, hn⟩ := h4 (i - (a + 1)) (by omega)
          rw [List.getElem?_drop] at hr
          exact ⟨r, by rw [← hr]; congr 1; omega, hn⟩
      · left
        have hb := becZ_len nsm rs ks a v
        rw [List.getElem?_eq_none (by omega), List.getElem?_eq_none (by omega)]
theorem fold_tch (nsm : Int → Bool) (rs : List Int) (e sos : Int) (j : Nat) : ∀ (ps : Prs) (ks : List Int), (ps.foldl (pairZ9 nsm rs e sos) ks)[j]? = ks[j]? ∨ Tch nsm rs ps j
  | [], _ => .inl rfl
  | p :: ps, ks => by
    rw [List.foldl_cons]
    rcases fold_tch nsm rs e sos j ps (pairZ9 nsm rs e sos ks p) with h | ⟨q, hq, h⟩
    · rw [h]
      unfold pairZ9
      simp only
      split
      · exact .inl rfl
      · next _ =>
        rcases bec_tch nsm rs (becZ nsm rs ks p.1 (if sameZ e ((ks.drop (p.1 + 1)).take (p.2 - (p.1 + 1))) = false ∧ aheadZ sos (ks.take p.1) ≠ e then aheadZ sos (ks.take p.1) else e)) p.2 (if sameZ e ((ks.drop (p.1 + 1)).take (p.2 - (p.1 + 1))) = false ∧ aheadZ sos (ks.take p.1) ≠ e then aheadZ sos (ks.take p.1) else e) j with h1 | h1
        · rcases bec_tch nsm rs ks p.1 (if sameZ e ((ks.drop (p.1 + 1)).take (p.2 - (p.1 + 1))) = false ∧ aheadZ sos (ks.take p.1) ≠ e then aheadZ sos (ks.take p.1) else e) j with h2 | h2
          · exact .inl (h1.trans h2)
          · exact .inr ⟨p, by simp, p.1, .inl rfl, h2⟩
        · exact .inr ⟨p, by simp, p.2, .inr rfl, h1⟩
    · exact .inr ⟨q, by simp [hq], h⟩
theorem mid_not {pr : Int → Int × Bool × Bool} {nsm : Int → Bool} {rs ks : List Int} {i : Nat} {stk : Stk} {ps : Prs} (hb : ∀ r, (pr r).2.2 = true → nsm r = false) (h : BrI pr rs ks i stk ps) {q : Nat} {p : Nat × Nat} (hq : ps[q]? = some p) {j : Nat} (h1 : p.1 < j) (h2 : j < p.2) : ¬ Tch nsm rs (ps.take q) j := by
  rintro ⟨x, hx, a, ha, haj, hn⟩
  obtain ⟨m, hm, rfl⟩ := List.getElem_of_mem hx
  rw [List.length_take] at hm
  rw [List.getElem_take] at ha
  have hqi := List.getElem?_eq_some_iff.1 hq
  have hql : q < ps.length := hqi.1
  have hxm : ps[m]'(by omega) ∈ ps := List.getElem_mem _
  have hpm : p ∈ ps := List.mem_of_getElem? hq
  have hlt := List.pairwise_iff_getElem.1 h.up m q (by omega) hql (by omega)
  rw [hqi.2] at hlt
  have hne := h.nest _ hxm _ hpm hlt
  have hpp := h.pair _ hpm
  have hxx := h.pair _ hxm
  rcases Nat.lt_trichotomy a p.1 with h3 | h3 | h3
  · obtain ⟨r, hr, hnr⟩ := hn p.1 h3 (by omega)
    obtain ⟨r1, r2, hr1, _, hp1, _⟩ := hpp.2.2.2.2
    rw [hr1] at hr
    injection hr with hr
    subst hr
    rw [hb r1 (by rw [hp1])] at hnr
    cases hnr
  · rcases ha with rfl | rfl <;> omega
  · rcases ha with rfl | rfl <;> omega
theorem mid_same {pr : Int → Int × Bool × Bool} {nsm : Int → Bool} {rs ks : List Int} {i : Nat} {stk : Stk} {ps : Prs} (hb : ∀ r, (pr r).2.2 = true → nsm r = false) (h : BrI pr rs ks i stk ps) {q : Nat} {p : Nat × Nat} (hq : ps[q]? = some p) (e sos : Int) (K : List Int) :
    ((((ps.take q).foldl (pairZ9 nsm rs e sos) K).drop (p.1 + 1)).take (p.2 - (p.1 + 1))) = (K.drop (p.1 + 1)).take (p.2 - (p.1 + 1)) := by
  refine List.ext_getElem? fun j => ?_
  rw [List.getElem?_take, List.getElem?_take]
  split
  · rw [List.getElem?_drop, List.getElem?_drop]
    rcases fold_tch nsm rs e sos (p.1 + 1 + j) (ps.take q) K with h1 | h1
    · exact h1
    · exact absurd h1 (mid_not hb h hq (by omega) (by omega))
  · rfl

/-- how many are of a direction -/
def cntD (d : Int) (l : List Int) : Nat := l.countP fun k => !neuZ k && wayZ k == d
theorem cntD_snoc (d : Int) (l : List Int) (k : Int) : cntD d (l ++ [k]) = cntD d l + (if neuZ k = false ∧ wayZ k = d then 1 else 0) := by
  unfold cntD
  rw [List.countP_append, List.countP_singleton]
  congr 1
  cases neuZ k <;> simp
theorem cntD_mid (d : Int) (l : List Int) {a b : Nat} (h : a ≤ b) : cntD d (l.take b) = cntD d (l.take a) + cntD d ((l.drop a).take (b - a)) := by
  unfold cntD
  rw [← List.countP_append]
  congr 1
  rw [show b = a + (b - a) by omega, List.take_add, show a + (b - a) - a = b - a by omega]
theorem cntD_same (e : Int) (l : List Int) : cntD e l = 0 ↔ sameZ e l = false := by
  unfold cntD sameZ
  rw [List.countP_eq_zero, List.any_eq_false]
theorem cntD_other {e d : Int} (h : (e = 0 ∧ d = 1) ∨ (e = 1 ∧ d = 0)) (l : List Int) : cntD d l = 0 ↔ otherZ e l = false := by
  unfold cntD otherZ
  rw [List.countP_eq_zero, List.any_eq_false]
  have e1 : ∀ k, (wayZ k == d) = (wayZ k != e) := fun k => by rcases way_two k with h1 | h1 <;> rw [h1] <;> rcases h with ⟨rfl, rfl⟩ | ⟨rfl, rfl⟩ <;> rfl
  constructor
  · intro h1 k hk; rw [← e1]; exact h1 k hk
  · intro h1 k hk; rw [e1]; exact h1 k hk
/-- a pair at a list whose counts are known -/
theorem pair_cases (nsm : Int → Bool) (rs : List Int) {e sos : Int} (he : e = 0 ∨ e = 1) (hs : sos = 0 ∨ sos = 1) (K N0 : List Int) (p : Nat × Nat) (hp : p.1 < p.2)
    (hm : (K.drop (p.1 + 1)).take (p.2 - (p.1 + 1)) = (N0.drop (p.1 + 1)).take (p.2 - (p.1 + 1))) :
    pairZ9 nsm rs e sos K p =
      if cntD 0 (N0.take (p.1 + 1)) = cntD 0 (N0.take p.2) ∧ cntD 1 (N0.take (p.1 + 1)) = cntD 1 (N0.take p.2) then K
      else if cntD e (N0.take (p.1 + 1)) ≠ cntD e (N0.take p.2) then becZ nsm rs (becZ nsm rs K p.1 e) p.2 e
      else becZ nsm rs (becZ nsm rs K p.1 (aheadZ sos (K.take p.1))) p.2 (aheadZ sos (K.take p.1)) := by
  have hc : ∀ d, cntD d (N0.take (p.1 + 1)) = cntD d (N0.take p.2) ↔ cntD d ((N0.drop (p.1 + 1)).take (p.2 - (p.1 + 1))) = 0 := fun d => by
    rw [cntD_mid d N0 (show p.1 + 1 ≤ p.2 by omega)]; omega
  have ha := ahead_two (K.take p.1) sos hs
  have hboth : (cntD 0 (N0.take (p.1 + 1)) = cntD 0 (N0.take p.2) ∧ cntD 1 (N0.take (p.1 + 1)) = cntD 1 (N0.take p.2)) ↔ (sameZ e ((N0.drop (p.1 + 1)).take (p.2 - (p.1 + 1))) = false ∧ otherZ e ((N0.drop (p.1 + 1)).take (p.2 - (p.1 + 1))) = false) := by
    rw [hc 0, hc 1]
    rcases he with rfl | rfl
    · rw [cntD_same, cntD_other (.inl ⟨rfl, rfl⟩)]
    · rw [cntD_other (e := 1) (d := 0) (.inr ⟨rfl, rfl⟩), cntD_same, and_comm]
  have hone : (cntD e (N0.take (p.1 + 1)) ≠ cntD e (N0.take p.2)) ↔ ¬ sameZ e ((N0.drop (p.1 + 1)).take (p.2 - (p.1 + 1))) = false := by rw [ne_eq, hc e, cntD_same]
  simp only [hboth, hone]
  unfold pairZ9
  simp only
  rw [hm]
  generalize sameZ e ((N0.drop (p.1 + 1)).take (p.2 - (p.1 + 1))) = S
  generalize otherZ e ((N0.drop (p.1 + 1)).take (p.2 - (p.1 + 1))) = O
  generalize aheadZ sos (K.take p.1) = A at ha
  cases S with
  | true => simp
  | false =>
    cases O with
    | false => simp
    | true =>
      by_cases hae : A = e
      · subst hae; simp
      · simp [hae]
theorem bec_head (nsm : Int → Bool) (rs ks : List Int) (i : Nat) (v : Int) : (becZ nsm rs ks i v).take i = ks.take i := by
  refine List.ext_getElem? fun j => ?_
  rw [List.getElem?_take, List.getElem?_take]
  split
  · rcases bec_tch nsm rs ks i v j with h | ⟨h, _⟩
    · exact h
    · omega
  · rfl
theorem pair_head (nsm : Int → Bool) (rs : List Int) (e sos : Int) (ks : List Int) (p : Nat × Nat) (hp : p.1 < p.2) : (pairZ9 nsm rs e sos ks p).take p.1 = ks.take p.1 := by
  unfold pairZ9
  simp only
  split
  · rfl
  · generalize (if sameZ e ((ks.drop (p.1 + 1)).take (p.2 - (p.1 + 1))) = false ∧ aheadZ sos (ks.take p.1) ≠ e then aheadZ sos (ks.take p.1) else e) = v
    have h := congrArg (List.take p.1) (bec_head nsm rs (becZ nsm rs ks p.1 v) p.2 v)
    rw [List.take_take, List.take_take, Nat.min_eq_left (Nat.le_of_lt hp)] at h
    rw [h, bec_head]
end Go.Proofs.Ytkcckophnamajaa
