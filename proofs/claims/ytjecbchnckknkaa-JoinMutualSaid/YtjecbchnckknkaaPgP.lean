/- Layer 11, the program, pure: the forms as they are made from left to right; the table of first shapes. -/
import Derived.Test.YtjecbchnckknkaaShpJ
set_option linter.unusedSimpArgs false
set_option linter.unusedVariables false
namespace Go.Proofs.Ytjecbchnckknkaa

/-- the forms of q when a comes behind it -/
def headJ : Int → List Int → Int → List Int
  | _, [], _ => []
  | s, k :: q, a => formJ s k (nextJ (q ++ [a])) :: headJ (stepJ s k) q a
theorem headJ_len : ∀ (q : List Int) (s a : Int), (headJ s q a).length = q.length
  | [], _, _ => rfl
  | k :: q, s, a => by simp only [headJ, List.length_cons, headJ_len q]
theorem nextJ_stop (a : Int) (h : a ≠ 4) (t : List Int) : ∀ q : List Int, nextJ (q ++ a :: t) = nextJ (q ++ [a])
  | [] => by simp only [List.nil_append, nextJ, if_neg h]
  | k :: q => by simp only [List.cons_append, nextJ, nextJ_stop a h t q]
theorem forms_head (a : Int) (h : a ≠ 4) (t : List Int) : ∀ (q : List Int) (s : Int), formsJ s (q ++ a :: t) = headJ s q a ++ formsJ (q.foldl stepJ s) (a :: t)
  | [], s => rfl
  | k :: q, s => by
    show formJ s k (nextJ (q ++ a :: t)) :: formsJ (stepJ s k) (q ++ a :: t) = formJ s k (nextJ (q ++ [a])) :: (headJ (stepJ s k) q a ++ formsJ (q.foldl stepJ (stepJ s k)) (a :: t))
    rw [nextJ_stop a h t q, forms_head a h t q]
theorem forms_marks (b : Int) (t : List Int) : ∀ m, formsJ b (List.replicate m 4 ++ t) = List.replicate m 0 ++ formsJ b t
  | 0 => rfl
  | m + 1 => by
    rw [List.replicate_succ, List.replicate_succ, List.cons_append, List.cons_append]
    show formJ b 4 _ :: formsJ (stepJ b 4) _ = _
    rw [formJ_four, show stepJ b 4 = b from rfl, forms_marks b t m]
/-- p was gone over: a: how the last one that is no mark joins, h: where it stands -/
def FiJ (p : List Int) (h : Nat) (a : Int) : Prop :=
  (∃ q m, p = q ++ a :: List.replicate m 4 ∧ a ≠ 4 ∧ h = q.length) ∨ (∃ m, p = List.replicate m 4 ∧ a = 0 ∧ h = 0)
theorem fi_nil : FiJ [] 0 0 := .inr ⟨0, rfl, rfl, rfl⟩
theorem fi_mark {p : List Int} {h : Nat} {a : Int} (f : FiJ p h a) : FiJ (p ++ [4]) h a ∧ formsJ 0 (p ++ [4]) = formsJ 0 p ++ [0] := by
  rcases f with ⟨q, m, rfl, ha, rfl⟩ | ⟨m, rfl, rfl, rfl⟩
  · refine ⟨.inl ⟨q, m + 1, by rw [List.replicate_succ']; simp, ha, rfl⟩, ?_⟩
    rw [List.append_assoc, List.cons_append, forms_head a ha, forms_head a ha, List.append_assoc]
    congr 1
    have e1 := forms_marks (stepJ (q.foldl stepJ 0) a) [4] m
    have e2 := forms_marks (stepJ (q.foldl stepJ 0) a) [] m
    rw [List.append_nil] at e2
    have n1 := nextJ_rep m [4]
    have n2 := nextJ_rep m []
    rw [List.append_nil] at n2
    simp only [formsJ] at e1 e2 ⊢
    rw [e1, e2, n1, n2, formJ_four]
    simp [nextJ]
  · refine ⟨.inr ⟨m + 1, by rw [List.replicate_succ'], rfl, rfl⟩, ?_⟩
    have e1 := forms_marks 0 [4] m
    have e2 := forms_marks 0 [] m
    rw [List.append_nil] at e2
    rw [e1, e2]
    simp [formsJ, formJ_four]
theorem fi_next (p : List Int) {k : Int} (hk : k ≠ 4) : FiJ (p ++ [k]) p.length k := .inl ⟨p, 0, rfl, hk, rfl⟩
/-- nothing ahead is joined to what comes -/
theorem fi_lone {p : List Int} {h : Nat} {a k : Int} (f : FiJ p h a) (hk : k ≠ 4) (hb : behindJ a k = false) : formsJ 0 (p ++ [k]) = formsJ 0 p ++ [formJ a k 0] := by
  rcases f with ⟨q, m, rfl, ha, rfl⟩ | ⟨m, rfl, rfl, rfl⟩
  · rw [List.append_assoc, List.cons_append, forms_head a ha, forms_head a ha, List.append_assoc]
    congr 1
    have hs : stepJ (q.foldl stepJ 0) a = a := if_neg ha
    have e1 := forms_marks a [k] m
    have e2 := forms_marks a [] m
    rw [List.append_nil] at e2
    have n1 := nextJ_rep m [k]
    have n2 := nextJ_rep m []
    rw [List.append_nil] at n2
    show formJ _ a _ :: formsJ (stepJ _ a) _ = (formJ _ a _ :: formsJ (stepJ _ a) _) ++ _
    rw [hs, e1, e2, n1, n2]
    have hn : nextJ [k] = k := by simp only [nextJ, if_neg hk]
    rw [hn]
    have : formJ (q.foldl stepJ 0) a k = formJ (q.foldl stepJ 0) a (nextJ []) := by unfold formJ; rw [hb, show nextJ [] = 0 from rfl, behind_end]
    rw [this]
    simp [formsJ, nextJ]
  · have e1 := forms_marks 0 [k] m
    have e2 := forms_marks 0 [] m
    rw [List.append_nil] at e2
    rw [e1, e2]
    simp [formsJ, nextJ]
/-- the one ahead is joined to what comes -/
theorem fi_both {p : List Int} {h : Nat} {a k : Int} (f : FiJ p h a) (hk : k ≠ 4) (hb : behindJ a k = true) :
    ∃ P x S, formsJ 0 p = P ++ x :: S ∧ P.length = h ∧ h < p.length ∧ (x = 0 ∨ x = 3) ∧ formsJ 0 (p ++ [k]) = P ++ (if x = 3 then 2 else 1) :: (S ++ [formJ a k 0]) := by
  rcases f with ⟨q, m, rfl, ha, rfl⟩ | ⟨m, rfl, rfl, rfl⟩
  · have hs : stepJ (q.foldl stepJ 0) a = a := if_neg ha
    have e1 := forms_marks a [k] m
    have e2 := forms_marks a [] m
    rw [List.append_nil] at e2
    have n1 := nextJ_rep m [k]
    have n2 := nextJ_rep m []
    rw [List.append_nil] at n2
    have hn : nextJ [k] = k := by simp only [nextJ, if_neg hk]
    refine ⟨headJ 0 q a, formJ (q.foldl stepJ 0) a 0, List.replicate m 0, ?_, headJ_len _ _ _, by simp, ?_, ?_⟩
    · rw [forms_head a ha]
      show _ ++ formJ _ a _ :: formsJ (stepJ _ a) _ = _
      rw [hs, e2, n2]
      simp [formsJ, nextJ]
    · unfold formJ; rw [behind_end]; split <;> simp
    · rw [List.append_assoc, List.cons_append, forms_head a ha]
      show _ ++ formJ _ a _ :: formsJ (stepJ _ a) _ = _
      rw [hs, e1, n1, hn]
      have : formJ (q.foldl stepJ 0) a k = if formJ (q.foldl stepJ 0) a 0 = 3 then 2 else 1 := by
        unfold formJ; rw [hb, behind_end]; split <;> simp
      rw [this]
      simp [formsJ, nextJ]
  · simp [behindJ] at hb

/-- the first shapes of the letters from 621 to 64A -/
def firstL : List Int := [0xFE80, 0xFE81, 0xFE83, 0xFE85, 0xFE87, 0xFE89, 0xFE8D, 0xFE8F, 0xFE93, 0xFE95, 0xFE99,
  0xFE9D, 0xFEA1, 0xFEA5, 0xFEA9, 0xFEAB, 0xFEAD, 0xFEAF, 0xFEB1, 0xFEB5, 0xFEB9, 0xFEBD, 0xFEC1, 0xFEC5, 0xFEC9, 0xFECD,
  0, 0, 0, 0, 0, 0, 0xFED1, 0xFED5, 0xFED9, 0xFEDD, 0xFEE1, 0xFEE5, 0xFEE9, 0xFEED, 0xFEEF, 0xFEF1]
def offJ (k form : Int) : Int :=
  if k = 2 ∧ form = 2 then 3 else if k = 2 ∧ form = 1 then 2 else if (k = 1 ∨ k = 2) ∧ (form = 2 ∨ form = 3) then 1 else 0
theorem offJ_of (k first form : Int) : ofJ k first form = first + offJ k form := by
  unfold ofJ offJ
  by_cases k1 : k = 1 <;> by_cases k2 : k = 2 <;> by_cases f1 : form = 1 <;> by_cases f2 : form = 2 <;> by_cases f3 : form = 3 <;> simp_all
theorem offJ_small (k form : Int) : 0 ≤ offJ k form ∧ offJ k form ≤ 3 := by
  unfold offJ; split
  · omega
  split
  · omega
  split <;> omega
theorem tab_first : ((List.range 42).all fun i => tabJ.find? (fun e => e.1 == 0x621 + (i : Int)) == if firstL.getD i 0 = 0 then none else some (0x621 + (i : Int), firstL.getD i 0)) = true := by decide +kernel
theorem tab_range : (tabJ.all fun e => decide (0x621 ≤ e.1) && decide (e.1 ≤ 0x64a)) = true := by decide +kernel
theorem firstL_small : (firstL.all fun x => decide (0 ≤ x) && decide (x ≤ 0xfef1)) = true := by decide +kernel
theorem shapeJ_out (r form : Int) (h : r < 0x621 ∨ 0x64a < r) : shapeJ r form = r := by
  unfold shapeJ
  split
  · rename_i e he
    obtain ⟨hm, rfl⟩ := found_tab he
    have := List.all_eq_true.1 tab_range e hm
    simp only [Bool.and_eq_true, decide_eq_true_eq] at this
    omega
  · rfl
theorem shapeJ_in (i : Nat) (form : Int) (h : i < 42) : shapeJ (0x621 + (i : Int)) form = if firstL.getD i 0 = 0 then 0x621 + (i : Int) else firstL.getD i 0 + offJ (kJ (0x621 + (i : Int))) form := by
  have := List.all_eq_true.1 tab_first i (List.mem_range.2 h)
  have := eq_of_beq this
  unfold shapeJ
  rw [this]
  split
  · rename_i e he
    split at he
    · cases he
    · rename_i hn
      injection he with he
      subst he
      rw [if_neg hn, offJ_of]
  · rename_i he
    split at he
    · rename_i hn; rw [if_pos hn]
    · cases he
theorem firstL_at (i : Nat) (h : i < 42) : 0 ≤ firstL.getD i 0 ∧ firstL.getD i 0 ≤ 0xfef1 := by
  have hl : i < firstL.length := h
  have e : firstL.getD i 0 = firstL[i] := by simp [List.getD, hl]
  have := List.all_eq_true.1 firstL_small firstL[i] (List.getElem_mem hl)
  simp only [Bool.and_eq_true, decide_eq_true_eq] at this
  rw [e]; exact this
/-- the last letter whose shapes begin there or ahead of it, of the first m -/
def letZ (r : Int) : Nat → Int
  | 0 => 0
  | m + 1 => if ¬ firstL.getD m 0 = 0 ∧ firstL.getD m 0 ≤ r then 0x621 + (m : Int) else letZ r m
theorem letZ_tab : ((List.range 117).all fun i => plainJ (0xfe80 + (i : Int)) == [letZ (0xfe80 + (i : Int)) 42]) = true := by decide +kernel
theorem plainJ_let (r : Int) (h1 : 0xfe80 ≤ r) (h2 : r < 0xfef5) : plainJ r = [letZ r 42] := by
  have h := List.all_eq_true.1 letZ_tab (r - 0xfe80).toNat (List.mem_range.2 (by omega))
  have e : (0xfe80 : Int) + ((r - 0xfe80).toNat : Int) = r := by omega
  rw [e] at h
  exact eq_of_beq h
theorem shape_rangeT : (tabJ.all fun e => [(0 : Int), 1, 2, 3].all fun g => decide (0xfe80 ≤ shapeJ e.1 g) && decide (shapeJ e.1 g ≤ 0xfefc)) = true := by decide +kernel
theorem plainJ_out (r : Int) (h : r < 0xfe80 ∨ 0xfefc < r) : plainJ r = [r] := by
  unfold plainJ
  rw [if_neg (by omega)]
  split
  · rename_i e he
    have hm := List.mem_of_find?_eq_some he
    have hp := List.find?_some he
    have hr := List.all_eq_true.1 shape_rangeT e hm
    simp only [List.all_cons, List.all_nil, Bool.and_eq_true, decide_eq_true_eq, Bool.and_true] at hr
    simp only [Bool.or_eq_true, beq_iff_eq] at hp
    omega
  · rfl
end Go.Proofs.Ytjecbchnckknkaa
