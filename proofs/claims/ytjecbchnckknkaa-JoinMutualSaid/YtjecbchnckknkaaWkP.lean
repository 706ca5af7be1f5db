/- Layer 8, pure: a list gone over with a state; the seven rules; what they keep. -/
import Derived.Test.YtjecbchnckknkaaMem
set_option linter.unusedSimpArgs false
set_option linter.unusedVariables false
namespace Go.Proofs.Ytjecbchnckknkaa

section
variable {σ : Type}
/-- a list gone over with a state: what comes out -/
def tr (f : σ → Int → Int × σ) : σ → List Int → List Int
  | _, [] => []
  | s, k :: t => (f s k).1 :: tr f (f s k).2 t
/-- and the state behind it -/
def fin (f : σ → Int → Int × σ) : σ → List Int → σ
  | s, [] => s
  | s, k :: t => fin f (f s k).2 t
theorem tr_append (f : σ → Int → Int × σ) (s : σ) (a b : List Int) : tr f s (a ++ b) = tr f s a ++ tr f (fin f s a) b := by
  induction a generalizing s with
  | nil => rfl
  | cons k t ih => simp only [List.cons_append, tr, fin, ih]
theorem fin_append (f : σ → Int → Int × σ) (s : σ) (a b : List Int) : fin f s (a ++ b) = fin f (fin f s a) b := by
  induction a generalizing s with
  | nil => rfl
  | cons k t ih => simp only [List.cons_append, fin, ih]
theorem tr_len (f : σ → Int → Int × σ) (s : σ) (a : List Int) : (tr f s a).length = a.length := by
  induction a generalizing s with
  | nil => rfl
  | cons k t ih => simp only [tr, List.length_cons, ih]
theorem tr_snoc (f : σ → Int → Int × σ) (s : σ) (a : List Int) (k : Int) : tr f s (a ++ [k]) = tr f s a ++ [(f (fin f s a) k).1] := by
  rw [tr_append]; rfl
theorem fin_snoc (f : σ → Int → Int × σ) (s : σ) (a : List Int) (k : Int) : fin f s (a ++ [k]) = (f (fin f s a) k).2 := by
  rw [fin_append]; rfl
end

/-- what no class is counts as DirON -/
def cntZ (k : Int) : Int := if k < 0 ∨ 22 < k then 13 else k
def cntL (l : List Int) : List Int := l.map cntZ
def sideZ (s : Int) : Int := if s = 1 then 1 else 0
def isoZ (k : Int) : Bool := k == 19 || k == 20 || k == 21 || k == 22
def f1 (a k : Int) : Int × Int := if k = 8 then (a, a) else (k, if isoZ k = true then 13 else k)
def f2 (b : Bool) (k : Int) : Int × Bool := if k = 0 ∨ k = 1 then (k, false) else if k = 2 then (k, true) else if k = 3 ∧ b = true then (6, b) else (k, b)
def f3 (u : Unit) (k : Int) : Int × Unit := (if k = 2 then 1 else k, u)
def f6 (u : Unit) (k : Int) : Int × Unit := (if k = 4 ∨ k = 5 ∨ k = 7 then 13 else k, u)
def f7 (s k : Int) : Int × Int := if k = 0 ∨ k = 1 then (k, k) else if k = 3 ∧ s = 0 then (0, s) else (k, s)
def mayZ (k p : Int) : Bool := (k == 4 && p == 3) || (k == 7 && (p == 3 || p == 6))
/-- rule 4 at a place: what stands ahead, what stands there, what stands behind -/
def sepK (p k n : Int) : Int := if p = n ∧ mayZ k p = true then p else k
def sepZ : Int → List Int → List Int
  | _, [] => []
  | _, [k] => [k]
  | p, k :: n :: t => sepK p k n :: sepZ k (n :: t)
/-- rule 5: en: does a DirEN stand ahead of the row? c: how long the row is by now -/
def tZ : Bool → Nat → List Int → List Int
  | en, c, [] => List.replicate c (if en then 3 else 5)
  | en, c, k :: t => if k = 5 then tZ en (c + 1) t else List.replicate c (if en || k == 3 then 3 else 5) ++ k :: tZ (k == 3) 0 t

/-- the rule n -/
def stepZ (n : Nat) (s : Int) (l : List Int) : List Int :=
  match n with
  | 1 => tr f1 s l
  | 2 => tr f2 false l
  | 3 => tr f3 () l
  | 4 => sepZ (-1) l
  | 5 => tZ false 0 l
  | 6 => tr f6 () l
  | 7 => tr f7 s l
  | _ => l
/-- the rules up to n, one behind the other -/
def uptoZ : Nat → Int → List Int → List Int
  | 0, _, l => l
  | n + 1, s, l => stepZ (n + 1) s (uptoZ n s l)
/-- Resolve -/
def resZ (s : Int) (l : List Int) : List Int := uptoZ 7 (sideZ s) (cntL l)
/-- Step -/
def oneZ (n : Int) (s : Int) (l : List Int) : List Int := stepZ n.toNat (sideZ s) (cntL l)

theorem sepZ_len (p : Int) (l : List Int) : (sepZ p l).length = l.length := by
  induction l generalizing p with
  | nil => rfl
  | cons k t ih =>
    cases t with
    | nil => rfl
    | cons n t => simp only [sepZ, List.length_cons, ih]
theorem tZ_len (en : Bool) (c : Nat) (l : List Int) : (tZ en c l).length = c + l.length := by
  induction l generalizing en c with
  | nil => simp [tZ]
  | cons k t ih =>
    unfold tZ
    split
    · rw [ih, List.length_cons]; omega
    · simp only [List.length_append, List.length_replicate, List.length_cons, ih]; omega
theorem stepZ_len (n : Nat) (s : Int) (l : List Int) : (stepZ n s l).length = l.length := by
  unfold stepZ
  split <;> simp only [tr_len, sepZ_len, tZ_len, Nat.zero_add]
theorem uptoZ_len (n : Nat) (s : Int) (l : List Int) : (uptoZ n s l).length = l.length := by
  induction n with
  | zero => rfl
  | succ n ih => unfold uptoZ; rw [stepZ_len, ih]
theorem cntL_len (l : List Int) : (cntL l).length = l.length := by unfold cntL; rw [List.length_map]
theorem resZ_len (s : Int) (l : List Int) : (resZ s l).length = l.length := by unfold resZ; rw [uptoZ_len, cntL_len]
theorem oneZ_len (n s : Int) (l : List Int) : (oneZ n s l).length = l.length := by unfold oneZ; rw [stepZ_len, cntL_len]

/- what is a class -/
def InC (k : Int) : Prop := 0 ≤ k ∧ k ≤ 22
theorem cntZ_in (k : Int) : InC (cntZ k) := by unfold cntZ InC; split <;> omega
theorem cntZ_id {k : Int} (h : InC k) : cntZ k = k := by unfold cntZ; unfold InC at h; rw [if_neg (by omega)]
theorem cntL_in (l : List Int) : ∀ k ∈ cntL l, InC k := by
  intro k h
  obtain ⟨x, _, rfl⟩ := List.mem_map.1 h
  exact cntZ_in x
theorem cntL_id {l : List Int} (h : ∀ k ∈ l, InC k) : cntL l = l := by
  unfold cntL
  induction l with
  | nil => rfl
  | cons k t ih => rw [List.map_cons, cntZ_id (h k (by simp)), ih (fun x hx => h x (by simp [hx]))]
theorem sideZ_two (s : Int) : sideZ s = 0 ∨ sideZ s = 1 := by unfold sideZ; split <;> simp
theorem sideZ_side {s : Int} (h : s = 0 ∨ s = 1) : sideZ s = s := by rcases h with rfl | rfl <;> rfl

/-- a property that each step keeps, of what comes out -/
theorem tr_all {σ : Type} (f : σ → Int → Int × σ) (I : σ → Prop) (A B : Int → Prop) (h : ∀ s k, I s → A k → B (f s k).1 ∧ I (f s k).2) : ∀ (s : σ) (l : List Int), I s → (∀ k ∈ l, A k) → ∀ k ∈ tr f s l, B k
  | _, [], _, _ => fun k hk => by cases hk
  | s, k :: t, hs, hl => fun x hx => by
    have h0 := h s k hs (hl k (by simp))
    unfold tr at hx
    rcases List.mem_cons.1 hx with rfl | hx
    · exact h0.1
    · exact tr_all f I A B h _ t h0.2 (fun y hy => hl y (by simp [hy])) x hx
theorem sepZ_all (B : Int → Prop) (h : ∀ p k n, B k → (p = n → B n → B (sepK p k n)) ∧ (p ≠ n → B (sepK p k n))) : ∀ (p : Int) (l : List Int), (∀ k ∈ l, B k) → ∀ k ∈ sepZ p l, B k
  | _, [], _ => fun k hk => by cases hk
  | _, [k], hl => hl
  | p, k :: n :: t, hl => fun x hx => by
    unfold sepZ at hx
    rcases List.mem_cons.1 hx with rfl | hx
    · by_cases e : p = n
      · exact (h p k n (hl k (by simp))).1 e (hl n (by simp))
      · exact (h p k n (hl k (by simp))).2 e
    · exact sepZ_all B h k (n :: t) (fun y hy => hl y (by simp only [List.mem_cons] at hy ⊢; exact .inr hy)) x hx
theorem tZ_all (B : Int → Prop) (h3 : B 3) (h5 : B 5) : ∀ (l : List Int) (en : Bool) (c : Nat), (∀ k ∈ l, B k) → ∀ k ∈ tZ en c l, B k
  | [], en, c, _ => fun k hk => by
    unfold tZ at hk
    rw [(List.mem_replicate.1 hk).2]
    split <;> assumption
  | k :: t, en, c, hl => fun x hx => by
    unfold tZ at hx
    split at hx
    · exact tZ_all B h3 h5 t en (c + 1) (fun y hy => hl y (by simp [hy])) x hx
    · rcases List.mem_append.1 hx with hx | hx
      · rw [(List.mem_replicate.1 hx).2]
        split <;> assumption
      · rcases List.mem_cons.1 hx with rfl | hx
        · exact hl _ (by simp)
        · exact tZ_all B h3 h5 t _ 0 (fun y hy => hl y (by simp [hy])) x hx

theorem f1_in (s k : Int) (hs : InC s) (hk : InC k) : InC (f1 s k).1 ∧ InC (f1 s k).2 := by
  unfold f1
  split
  · exact ⟨hs, hs⟩
  · refine ⟨hk, ?_⟩
    show InC (if isoZ k = true then 13 else k)
    split
    · exact ⟨by decide, by decide⟩
    · exact hk
theorem stepZ_in (n : Nat) (s : Int) (hs : s = 0 ∨ s = 1) (l : List Int) (h : ∀ k ∈ l, InC k) : ∀ k ∈ stepZ n s l, InC k := by
  have i13 : InC 13 := ⟨by decide, by decide⟩
  have i6 : InC 6 := ⟨by decide, by decide⟩
  have i1 : InC 1 := ⟨by decide, by decide⟩
  have i0 : InC 0 := ⟨by decide, by decide⟩
  unfold stepZ
  split
  · exact tr_all f1 InC InC InC f1_in s l (by rcases hs with rfl | rfl <;> assumption) h
  · refine tr_all f2 (fun _ => True) InC InC (fun b k _ hk => ⟨?_, trivial⟩) false l trivial h
    unfold f2
    repeat' split
    all_goals first | exact hk | exact i6
  · refine tr_all f3 (fun _ => True) InC InC (fun b k _ hk => ⟨?_, trivial⟩) () l trivial h
    show InC (if k = 2 then 1 else k)
    split <;> assumption
  · refine sepZ_all InC (fun p k n hk => ⟨fun e hn => ?_, fun e => ?_⟩) (-1) l h
    · unfold sepK; split
      · rw [e]; exact hn
      · exact hk
    · unfold sepK; rw [if_neg (fun x => e x.1)]; exact hk
  · exact tZ_all InC ⟨by decide, by decide⟩ ⟨by decide, by decide⟩ l false 0 h
  · refine tr_all f6 (fun _ => True) InC InC (fun b k _ hk => ⟨?_, trivial⟩) () l trivial h
    show InC (if k = 4 ∨ k = 5 ∨ k = 7 then 13 else k)
    split <;> assumption
  · refine tr_all f7 InC InC InC (fun b k hb hk => ?_) s l (by rcases hs with rfl | rfl <;> assumption) h
    unfold f7
    repeat' split
    · exact ⟨hk, hk⟩
    · exact ⟨i0, hb⟩
    · exact ⟨hk, hb⟩
  · exact h
theorem uptoZ_in (n : Nat) (s : Int) (hs : s = 0 ∨ s = 1) (l : List Int) (h : ∀ k ∈ l, InC k) : ∀ k ∈ uptoZ n s l, InC k := by
  induction n with
  | zero => exact h
  | succ n ih => exact stepZ_in (n + 1) s hs _ ih
theorem resZ_in (s : Int) (l : List Int) : ∀ k ∈ resZ s l, InC k := uptoZ_in 7 _ (sideZ_two s) _ (cntL_in l)
end Go.Proofs.Ytjecbchnckknkaa
