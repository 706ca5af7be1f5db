/- Layer 8, pure: what follows from the rules: once is enough; what stays; parted ahead of a strong one. -/
import Derived.Test.YtajpkidjdebolaaRefP8
set_option linter.unusedSimpArgs false
set_option linter.unusedVariables false
namespace Go.Proofs.Ytajpkidjdebolaa

/-- what is never left -/
def NoP (k : Int) : Prop := k ≠ 8 ∧ k ≠ 2 ∧ k ≠ 4 ∧ k ≠ 5 ∧ k ≠ 7
theorem res_none (s : Int) (zs : List Int) : ∀ k ∈ resZ s zs, NoP k := by
  obtain ⟨s', hs', hs⟩ : ∃ s', sideZ s = s' ∧ (s' = 0 ∨ s' = 1) := ⟨_, rfl, sideZ_two s⟩
  unfold resZ
  rw [hs']
  have a1 : ∀ k ∈ uptoZ 1 s' (cntL zs), k ≠ 8 := by
    refine tr_all f1 (fun k => k ≠ 8) (fun _ => True) (fun k => k ≠ 8) (fun a k ha _ => ?_) s' (cntL zs) (by omega) (fun _ _ => trivial)
    unfold f1
    split
    · exact ⟨ha, ha⟩
    · refine ⟨by assumption, ?_⟩
      show (if isoZ k = true then 13 else k) ≠ 8
      split
      · decide
      · assumption
  have a2 : ∀ k ∈ uptoZ 2 s' (cntL zs), k ≠ 8 := by
    refine tr_all f2 (fun _ => True) (fun k => k ≠ 8) (fun k => k ≠ 8) (fun a k _ hk => ⟨?_, trivial⟩) false _ trivial a1
    unfold f2
    repeat' split
    all_goals first | exact hk | (show (6 : Int) ≠ 8; decide)
  have a3 : ∀ k ∈ uptoZ 3 s' (cntL zs), k ≠ 8 ∧ k ≠ 2 := by
    refine tr_all f3 (fun _ => True) (fun k => k ≠ 8) (fun k => k ≠ 8 ∧ k ≠ 2) (fun a k _ hk => ⟨?_, trivial⟩) () _ trivial a2
    show (if k = 2 then 1 else k) ≠ 8 ∧ (if k = 2 then 1 else k) ≠ 2
    split
    · exact ⟨by decide, by decide⟩
    · exact ⟨hk, by assumption⟩
  have a4 : ∀ k ∈ uptoZ 4 s' (cntL zs), k ≠ 8 ∧ k ≠ 2 := by
    refine sepZ_all (fun k => k ≠ 8 ∧ k ≠ 2) (fun p k n hk => ⟨fun e hn => ?_, fun e => ?_⟩) (-1) _ a3
    · unfold sepK; split
      · rw [e]; exact hn
      · exact hk
    · unfold sepK; rw [if_neg (fun x => e x.1)]; exact hk
  have a5 : ∀ k ∈ uptoZ 5 s' (cntL zs), k ≠ 8 ∧ k ≠ 2 := tZ_all (fun k => k ≠ 8 ∧ k ≠ 2) (by decide) (by decide) _ false 0 a4
  have a6 : ∀ k ∈ uptoZ 6 s' (cntL zs), NoP k := by
    refine tr_all f6 (fun _ => True) (fun k => k ≠ 8 ∧ k ≠ 2) NoP (fun a k _ hk => ⟨?_, trivial⟩) () _ trivial a5
    show NoP (if k = 4 ∨ k = 5 ∨ k = 7 then 13 else k)
    unfold NoP
    split <;> omega
  refine tr_all f7 (fun _ => True) NoP NoP (fun a k _ hk => ⟨?_, trivial⟩) s' _ trivial a6
  unfold f7
  repeat' split
  · exact hk
  · show NoP 0
    unfold NoP; omega
  · exact hk

theorem tr_id {σ : Type} (f : σ → Int → Int × σ) (I : σ → Prop) (A : Int → Prop) (h : ∀ s k, I s → A k → (f s k).1 = k ∧ I (f s k).2) : ∀ (s : σ) (l : List Int), I s → (∀ k ∈ l, A k) → tr f s l = l
  | _, [], _, _ => rfl
  | s, k :: t, hs, hl => by
    have h0 := h s k hs (hl k (by simp))
    show (f s k).1 :: tr f (f s k).2 t = k :: t
    rw [h0.1, tr_id f I A h _ t h0.2 (fun y hy => hl y (by simp [hy]))]
theorem sepZ_id : ∀ (p : Int) (l : List Int), (∀ k ∈ l, k ≠ 4 ∧ k ≠ 7) → sepZ p l = l
  | _, [], _ => rfl
  | p, k :: t, hl => by
    have h0 := hl k (by simp)
    rw [sepZ_cons, sepZ_id k t (fun y hy => hl y (by simp [hy]))]
    congr 1
    cases t with
    | nil => rfl
    | cons n t => simp [sepV, sepK, mayZ, h0.1, h0.2]
theorem tZ_id : ∀ (en : Bool) (l : List Int), (∀ k ∈ l, k ≠ 5) → tZ en 0 l = l
  | en, [], _ => by simp [tZ]
  | en, k :: t, hl => by
    have h0 := hl k (by simp)
    simp only [tZ, if_neg h0, List.replicate_zero, List.nil_append]
    rw [tZ_id _ t (fun y hy => hl y (by simp [hy]))]
theorem f7_twice : ∀ (s : Int) (l : List Int), tr f7 s (tr f7 s l) = tr f7 s l
  | _, [] => rfl
  | s, k :: t => by
    show (f7 s (f7 s k).1).1 :: tr f7 (f7 s (f7 s k).1).2 (tr f7 (f7 s k).2 t) = (f7 s k).1 :: tr f7 (f7 s k).2 t
    have h : f7 s (f7 s k).1 = ((f7 s k).1, (f7 s k).2) := by
      unfold f7
      by_cases h0 : k = 0 ∨ k = 1
      · simp [h0]
      · by_cases h3 : k = 3 ∧ s = 0
        · simp [h3]
        · simp [h0, h3]
    rw [h, f7_twice]
/-- once is enough -/
theorem res_twice (s : Int) (zs : List Int) : resZ s (resZ s zs) = resZ s zs := by
  have hn := res_none s zs
  have hc := resZ_in s zs
  have e7 : ∃ X, resZ s zs = tr f7 (sideZ s) X := ⟨uptoZ 6 (sideZ s) (cntL zs), rfl⟩
  obtain ⟨R, hR⟩ : ∃ R, resZ s zs = R := ⟨_, rfl⟩
  rw [hR] at hn hc e7 ⊢
  unfold resZ
  rw [cntL_id hc]
  have b1 : uptoZ 1 (sideZ s) R = R := tr_id f1 (fun _ => True) (fun k => k ≠ 8) (fun a k _ hk => ⟨by simp [f1, hk], trivial⟩) _ R trivial (fun k hk => (hn k hk).1)
  have b2 : uptoZ 2 (sideZ s) R = R := by
    show tr f2 false (uptoZ 1 (sideZ s) R) = R
    rw [b1]
    refine tr_id f2 (fun b => b = false) (fun k => k ≠ 2) (fun b k hb hk => ?_) false R rfl (fun k hk => (hn k hk).2.1)
    subst hb
    unfold f2
    simp only [hk, if_false]
    repeat' split
    all_goals first | exact ⟨rfl, rfl⟩ | simp_all
  have b3 : uptoZ 3 (sideZ s) R = R := by
    show tr f3 () (uptoZ 2 (sideZ s) R) = R
    rw [b2]
    exact tr_id f3 (fun _ => True) (fun k => k ≠ 2) (fun b k _ hk => ⟨by simp [f3, hk], trivial⟩) () R trivial (fun k hk => (hn k hk).2.1)
  have b4 : uptoZ 4 (sideZ s) R = R := by
    show sepZ (-1) (uptoZ 3 (sideZ s) R) = R
    rw [b3]
    exact sepZ_id (-1) R (fun k hk => ⟨(hn k hk).2.2.1, (hn k hk).2.2.2.2⟩)
  have b5 : uptoZ 5 (sideZ s) R = R := by
    show tZ false 0 (uptoZ 4 (sideZ s) R) = R
    rw [b4]
    exact tZ_id false R (fun k hk => (hn k hk).2.2.2.1)
  have b6 : uptoZ 6 (sideZ s) R = R := by
    show tr f6 () (uptoZ 5 (sideZ s) R) = R
    rw [b5]
    exact tr_id f6 (fun _ => True) (fun k => k ≠ 4 ∧ k ≠ 5 ∧ k ≠ 7) (fun b k _ hk => ⟨by simp [f6, hk], trivial⟩) () R trivial (fun k hk => (hn k hk).2.2)
  show tr f7 (sideZ s) (uptoZ 6 (sideZ s) R) = R
  rw [b6]
  obtain ⟨X, hX⟩ := e7
  rw [hX, f7_twice]

/-- what no rule changes -/
def stayZ (k : Int) : Bool := k == 0 || k == 1 || k == 10 || k == 11 || k == 12 || k == 13 || k == 9 || (decide (14 ≤ k) && decide (k ≤ 22))
theorem stay_ne {k : Int} (h : stayZ k = true) : k ≠ 2 ∧ k ≠ 3 ∧ k ≠ 4 ∧ k ≠ 5 ∧ k ≠ 6 ∧ k ≠ 7 ∧ k ≠ 8 := by
  unfold stayZ at h
  simp only [Bool.or_eq_true, Bool.and_eq_true, beq_iff_eq, decide_eq_true_eq] at h
  omega
theorem tr_stay {σ : Type} (f : σ → Int → Int × σ) (s : σ) (p t : List Int) (k : Int) (h : ∀ s, (f s k).1 = k) : ∃ p' t', tr f s (p ++ k :: t) = p' ++ k :: t' ∧ p'.length = p.length := by
  rw [tr_append]
  refine ⟨tr f s p, tr f (f (fin f s p) k).2 t, ?_, tr_len f s p⟩
  show tr f s p ++ (f (fin f s p) k).1 :: _ = _
  rw [h]
theorem sep_stay {k : Int} (h : k ≠ 4 ∧ k ≠ 7) (t : List Int) : ∀ (p : List Int) (pr : Int), ∃ p' t', sepZ pr (p ++ k :: t) = p' ++ k :: t' ∧ p'.length = p.length
  | [], pr => ⟨[], sepZ k t, by
    rw [List.nil_append, sepZ_cons, List.nil_append]
    congr 1
    cases t with
    | nil => rfl
    | cons n t => simp [sepV, sepK, mayZ, h.1, h.2], rfl⟩
  | x :: p, pr => by
    obtain ⟨p', t', e, hl⟩ := sep_stay h t p x
    exact ⟨sepV pr x (p ++ k :: t) :: p', t', by rw [List.cons_append, sepZ_cons, e, List.cons_append], by simp [hl]⟩
theorem tZ_stay {k : Int} (h : k ≠ 5) (t : List Int) : ∀ (p : List Int) (en : Bool) (c : Nat), ∃ p' t', tZ en c (p ++ k :: t) = p' ++ k :: t' ∧ p'.length = c + p.length
  | [], en, c => ⟨List.replicate c (if (en || k == 3) = true then 3 else 5), tZ (k == 3) 0 t, by rw [List.nil_append, tZ, if_neg h], by simp⟩
  | x :: p, en, c => by
    by_cases hx : x = 5
    · obtain ⟨p', t', e, hl⟩ := tZ_stay h t p en (c + 1)
      exact ⟨p', t', by rw [List.cons_append, tZ, if_pos hx, e], by rw [hl, List.length_cons]; omega⟩
    · obtain ⟨p', t', e, hl⟩ := tZ_stay h t p (x == 3) 0
      exact ⟨_, t', by rw [List.cons_append, tZ, if_neg hx, e, ← List.cons_append, ← List.append_assoc], by simp [hl]⟩
theorem step_stay {k : Int} (h : stayZ k = true) (n : Nat) (s : Int) (p t : List Int) : ∃ p' t', stepZ n s (p ++ k :: t) = p' ++ k :: t' ∧ p'.length = p.length := by
  obtain ⟨h2, h3, h4, h5, h6, h7, h8⟩ := stay_ne h
  unfold stepZ
  split
  · exact tr_stay f1 s p t k (fun s => by simp [f1, h8])
  · refine tr_stay f2 false p t k (fun b => ?_)
    unfold f2
    repeat' split
    all_goals first | rfl | omega
  · exact tr_stay f3 () p t k (fun _ => by simp [f3, h2])
  · exact sep_stay ⟨h4, h7⟩ t p (-1)
  · obtain ⟨p', t', e, hl⟩ := tZ_stay h5 t p false 0
    exact ⟨p', t', e, by rw [hl, Nat.zero_add]⟩
  · exact tr_stay f6 () p t k (fun _ => by simp [f6, h4, h5, h7])
  · refine tr_stay f7 s p t k (fun s => ?_)
    unfold f7
    repeat' split
    all_goals first | rfl | omega
  · exact ⟨p, t, rfl, rfl⟩
theorem upto_stay {k : Int} (h : stayZ k = true) (s : Int) (p t : List Int) : ∀ n, ∃ p' t', uptoZ n s (p ++ k :: t) = p' ++ k :: t' ∧ p'.length = p.length
  | 0 => ⟨p, t, rfl, rfl⟩
  | n + 1 => by
    obtain ⟨p', t', e, hl⟩ := upto_stay h s p t n
    obtain ⟨p2, t2, e2, hl2⟩ := step_stay h (n + 1) s p' t'
    exact ⟨p2, t2, by show stepZ (n + 1) s (uptoZ n s (p ++ k :: t)) = _; rw [e, e2], by omega⟩
theorem cntL_split (p t : List Int) (x : Int) : cntL (p ++ x :: t) = cntL p ++ cntZ x :: cntL t := by simp [cntL]
/-- at a place of what came in -/
theorem res_stay {x : Int} (h : stayZ (cntZ x) = true) (s : Int) (p t : List Int) : ∃ p' t', resZ s (p ++ x :: t) = p' ++ cntZ x :: t' ∧ p'.length = p.length := by
  unfold resZ
  rw [cntL_split]
  obtain ⟨p', t', e, hl⟩ := upto_stay h (sideZ s) (cntL p) (cntL t) 7
  exact ⟨p', t', e, by rw [hl, cntL_len]⟩
theorem one_stay {x : Int} (h : stayZ (cntZ x) = true) (n s : Int) (p t : List Int) : ∃ p' t', oneZ n s (p ++ x :: t) = p' ++ cntZ x :: t' ∧ p'.length = p.length := by
  unfold oneZ
  rw [cntL_split]
  obtain ⟨p', t', e, hl⟩ := step_stay h n.toNat (sideZ s) (cntL p) (cntL t)
  exact ⟨p', t', e, by rw [hl, cntL_len]⟩
theorem one_off {n : Int} (h : n < 1 ∨ 7 < n) (s : Int) (p t : List Int) (x : Int) : ∃ p' t', oneZ n s (p ++ x :: t) = p' ++ cntZ x :: t' ∧ p'.length = p.length := by
  refine ⟨cntL p, cntL t, ?_, cntL_len p⟩
  rw [← cntL_split]
  unfold oneZ
  have : n.toNat = 0 ∨ 7 < n.toNat := by omega
  unfold stepZ
  split <;> first | rfl | omega

/-- parted ahead of a strong one -/
theorem tr_part {σ : Type} (f : σ → Int → Int × σ) (s m : σ) (a b : List Int) (k : Int) (h : ∀ s s', f s k = f s' k) : tr f s (a ++ k :: b) = tr f s a ++ tr f m (k :: b) := by
  rw [tr_append]
  congr 1
  show (f (fin f s a) k).1 :: tr f (f (fin f s a) k).2 b = (f m k).1 :: tr f (f m k).2 b
  rw [h _ m]
theorem sep_part {k : Int} (h : k = 0 ∨ k = 1 ∨ k = 2) (b : List Int) : ∀ (a : List Int) (p : Int), sepZ p (a ++ k :: b) = sepZ p a ++ sepZ (-1) (k :: b)
  | [], p => by
    have hk : ∀ q, mayZ k q = false := by intro q; rcases h with rfl | rfl | rfl <;> simp [mayZ]
    rw [List.nil_append, sepZ_cons, sepZ_cons (-1), sepV_none]
    show sepV p k b :: sepZ k b = [] ++ (k :: sepZ k b)
    rw [List.nil_append]
    congr 1
    cases b with
    | nil => rfl
    | cons n t => simp [sepV, sepK, hk]
  | [x], p => by
    rw [List.singleton_append, sepZ_cons]
    have e := sep_part h b [] x
    rw [List.nil_append] at e
    rw [e]
    show sepK p x k :: ([] ++ sepZ (-1) (k :: b)) = [x] ++ sepZ (-1) (k :: b)
    have : sepK p x k = x := by
      unfold sepK
      refine if_neg (fun hh => ?_)
      obtain ⟨h1, h2⟩ := hh
      unfold mayZ at h2
      simp only [Bool.or_eq_true, Bool.and_eq_true, beq_iff_eq] at h2
      omega
    rw [this]
    rfl
  | x :: y :: a, p => by
    have e := sep_part h b (y :: a) x
    rw [List.cons_append, sepZ_cons, e]
    rfl
theorem tZ_part {k : Int} (h : k = 0 ∨ k = 1 ∨ k = 2) (b : List Int) : ∀ (a : List Int) (en : Bool) (c : Nat), tZ en c (a ++ k :: b) = tZ en c a ++ tZ false 0 (k :: b)
  | [], en, c => by
    have h5 : ¬ k = 5 := by omega
    have h3 : (k == 3) = false := by simp; omega
    have e1 : tZ en c (k :: b) = List.replicate c (if (en || k == 3) = true then 3 else 5) ++ k :: tZ (k == 3) 0 b := by rw [tZ, if_neg h5]
    have e2 : tZ false 0 (k :: b) = List.replicate 0 (if (false || k == 3) = true then 3 else 5) ++ k :: tZ (k == 3) 0 b := by rw [tZ, if_neg h5]
    have e3 : tZ en c [] = List.replicate c (if en = true then 3 else 5) := by rw [tZ]
    rw [List.nil_append, e1, e2, e3, h3]
    simp
  | x :: a, en, c => by
    by_cases hx : x = 5
    · rw [List.cons_append, tZ, if_pos hx, tZ_part h b a en (c + 1)]
      congr 1
      rw [tZ, if_pos hx]
    · rw [List.cons_append, tZ, if_neg hx, tZ_part h b a _ 0, ← List.cons_append, ← List.append_assoc]
      congr 1
      rw [tZ, if_neg hx]
theorem upto_part (s m : Int) (a b : List Int) (k : Int) (h : k = 0 ∨ k = 1 ∨ k = 2) : ∀ n, n ≤ 7 → uptoZ n s (a ++ k :: b) = uptoZ n s a ++ uptoZ n m (k :: b) ∧ ∃ k' b', uptoZ n m (k :: b) = k' :: b' ∧ (k' = 0 ∨ k' = 1 ∨ (n < 3 ∧ k' = 2))
  | 0, _ => ⟨rfl, k, b, rfl, by omega⟩
  | n + 1, hn => by
    obtain ⟨e, k', b', e', hk⟩ := upto_part s m a b k h n (by omega)
    have hk3 : k' = 0 ∨ k' = 1 ∨ k' = 2 := by omega
    show stepZ (n + 1) s (uptoZ n s (a ++ k :: b)) = stepZ (n + 1) s (uptoZ n s a) ++ stepZ (n + 1) m (uptoZ n m (k :: b)) ∧ ∃ k2 b2, stepZ (n + 1) m (uptoZ n m (k :: b)) = k2 :: b2 ∧ (k2 = 0 ∨ k2 = 1 ∨ (n + 1 < 3 ∧ k2 = 2))
    rw [e, e']
    obtain ⟨L, hL⟩ : ∃ L, uptoZ n s a = L := ⟨_, rfl⟩
    rw [hL]
    match n, hn, hk with
    | 0, _, hk =>
      refine ⟨tr_part f1 s m L b' k' (fun s s' => ?_), k', tr f1 (f1 m k').2 b', ?_, by omega⟩
      · rcases hk3 with rfl | rfl | rfl <;> rfl
      · show (f1 m k').1 :: _ = _
        rcases hk3 with rfl | rfl | rfl <;> rfl
    | 1, _, hk =>
      refine ⟨tr_part f2 false false L b' k' (fun s s' => ?_), k', tr f2 (f2 false k').2 b', ?_, by omega⟩
      · rcases hk3 with rfl | rfl | rfl <;> rfl
      · show (f2 false k').1 :: _ = _
        rcases hk3 with rfl | rfl | rfl <;> rfl
    | 2, _, hk =>
      refine ⟨tr_part f3 () () L b' k' (fun s s' => rfl), (f3 () k').1, tr f3 () b', rfl, ?_⟩
      rcases hk3 with rfl | rfl | rfl <;> simp [f3]
    | 3, _, hk =>
      refine ⟨sep_part hk3 b' L (-1), k', sepZ k' b', ?_, by omega⟩
      show sepZ (-1) (k' :: b') = _
      rw [sepZ_cons, sepV_none]
    | 4, _, hk =>
      refine ⟨tZ_part hk3 b' L false 0, k', tZ (k' == 3) 0 b', ?_, by omega⟩
      show tZ false 0 (k' :: b') = _
      rw [tZ, if_neg (by omega)]
      simp
    | 5, _, hk =>
      refine ⟨tr_part f6 () () L b' k' (fun s s' => rfl), k', tr f6 () b', ?_, by omega⟩
      show (f6 () k').1 :: _ = _
      rcases hk3 with rfl | rfl | rfl <;> rfl
    | 6, _, hk =>
      have hk2 : k' = 0 ∨ k' = 1 := by omega
      refine ⟨tr_part f7 s m L b' k' (fun s s' => ?_), k', tr f7 (f7 m k').2 b', ?_, by omega⟩
      · rcases hk2 with rfl | rfl <;> rfl
      · show (f7 m k').1 :: _ = _
        rcases hk2 with rfl | rfl <;> rfl
    | n + 7, hn, _ => omega
theorem res_part (s m : Int) (a b : List Int) (k : Int) (h : k = 0 ∨ k = 1 ∨ k = 2) : resZ s (a ++ k :: b) = resZ s a ++ resZ m (k :: b) := by
  have hk : cntZ k = k := by unfold cntZ; rw [if_neg (by omega)]
  have e : cntL (k :: b) = k :: cntL b := by unfold cntL; rw [List.map_cons, hk]
  unfold resZ
  rw [cntL_split, hk, e]
  exact (upto_part (sideZ s) (sideZ m) (cntL a) (cntL b) k h 7 (by omega)).1
end Go.Proofs.Ytajpkidjdebolaa
