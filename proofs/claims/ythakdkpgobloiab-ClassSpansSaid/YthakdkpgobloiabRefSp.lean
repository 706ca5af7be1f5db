/- The document's spans, without the program: over the borders the same stretches as the table's. -/
import Derived.Test.YthakdkpgobloiabBord
namespace Go.Proofs.Ythakdkpgobloiab
open Go.RowKit Go.Lib

/-- one border's step -/
def refStep (lo hi c : Nat) (v : Int) (out : List (Nat × Nat)) : List (Nat × Nat) :=
  if (c : Int) = v ∧ lo ≠ 55296 then
    (if out ≠ [] ∧ (out.getLastD (0, 0)).2 + 1 = lo then out.dropLast ++ [((out.getLastD (0, 0)).1, hi - 1)] else out ++ [(lo, hi - 1)])
  else out
def refFold : List (Nat × Nat × Nat) → Int → List (Nat × Nat) → List (Nat × Nat)
  | [], _, out => out
  | z :: t, v, out => refFold t v (refStep z.1 z.2.1 z.2.2 v out)
def zipOk (L : Tab) : List Nat → List (Nat × Nat × Nat) → Bool
  | a :: b :: t, z :: s => Nat.beq a z.1 && Nat.beq b z.2.1 && Nat.beq z.2.2 (cls L (char a)) && Nat.blt 0 b && Nat.ble b 1114112 && zipOk L (b :: t) s
  | [_], [] => true
  | _, _ => false
theorem refFold_none (v : Int) : ∀ (Z : List (Nat × Nat × Nat)) (out : List (Nat × Nat)), (∀ z ∈ Z, ¬ (z.2.2 : Int) = v) → refFold Z v out = out
  | [], _, _ => rfl
  | z :: t, out, h => by
    have h1 := h z (by simp)
    unfold refFold
    rw [show refStep z.1 z.2.1 z.2.2 v out = out by unfold refStep; rw [if_neg (fun hh => h1 hh.1)]]
    exact refFold_none v t out fun x hx => h x (by simp [hx])
theorem spansFrom_none (v : Int) : ∀ (L : Tab), (∀ e ∈ L, ¬ (e.2 : Int) = v) → spansFrom L v = []
  | [], _ => rfl
  | e :: t, h => by
    unfold spansFrom
    rw [if_neg (h e (by simp)), List.nil_append]
    exact spansFrom_none v t fun x hx => h x (by simp [hx])
theorem ref_all (L : Tab) (Z : List (Nat × Nat × Nat)) (V : List Int) (h1 : ∀ z ∈ Z, (z.2.2 : Int) ∈ V) (h2 : ∀ e ∈ L, (e.2 : Int) ∈ V) (h3 : ∀ v ∈ V, refFold Z v [] = spansFrom L v) (v : Int) : refFold Z v [] = spansFrom L v := by
  by_cases h : v ∈ V
  · exact h3 v h
  · rw [refFold_none v Z [] fun z hz e => h (e ▸ h1 z hz), spansFrom_none v L fun e he x => h (x ▸ h2 e he)]
set_option maxRecDepth 100000
theorem ref_kinds (v : Int) : refFold kindsZ v [] = spansFrom kindsL v := ref_all kindsL kindsZ kindsV (by decide +kernel) (by decide +kernel) (by decide +kernel) v
theorem ref_dirs (v : Int) : refFold dirsZ v [] = spansFrom dirsL v := ref_all dirsL dirsZ dirsV (by decide +kernel) (by decide +kernel) (by decide +kernel) v
theorem ref_widths (v : Int) : refFold widthsZ v [] = spansFrom widthsL v := ref_all widthsL widthsZ widthsV (by decide +kernel) (by decide +kernel) (by decide +kernel) v
theorem ref_marks (v : Int) : refFold marksZ v [] = spansFrom marksL v := ref_all marksL marksZ marksV (by decide +kernel) (by decide +kernel) (by decide +kernel) v
theorem ref_joins (v : Int) : refFold joinsZ v [] = spansFrom joinsL v := ref_all joinsL joinsZ joinsV (by decide +kernel) (by decide +kernel) (by decide +kernel) v
theorem ref_breaks (v : Int) : refFold breaksZ v [] = spansFrom breaksL v := ref_all breaksL breaksZ breaksV (by decide +kernel) (by decide +kernel) (by decide +kernel) v
theorem zip_kinds : zipOk kindsL bordL kindsZ = true := by decide +kernel
theorem zip_dirs : zipOk dirsL bordL dirsZ = true := by decide +kernel
theorem zip_widths : zipOk widthsL bordL widthsZ = true := by decide +kernel
theorem zip_marks : zipOk marksL bordL marksZ = true := by decide +kernel
theorem zip_joins : zipOk joinsL bordL joinsZ = true := by decide +kernel
theorem zip_breaks : zipOk breaksL bordL breaksZ = true := by decide +kernel
theorem zip_at (L : Tab) : ∀ (b : List Nat) (Z : List (Nat × Nat × Nat)), zipOk L b Z = true → b.length = Z.length + 1 ∧ ∀ k (h : k < Z.length), b[k]? = some Z[k].1 ∧ b[k + 1]? = some Z[k].2.1 ∧ Z[k].2.2 = cls L (char (Z[k].1 : Int)) ∧ 0 < Z[k].2.1 ∧ Z[k].2.1 ≤ 1114112
  | [], Z, h => by cases Z <;> simp [zipOk] at h
  | [a], [], _ => ⟨rfl, fun k h => absurd h (by simp)⟩
  | [a], z :: s, h => by simp [zipOk] at h
  | a :: b :: t, [], h => by simp [zipOk] at h
  | a :: b :: t, z :: s, h => by
    simp only [zipOk, Bool.and_eq_true] at h
    obtain ⟨⟨⟨⟨⟨h1, h2⟩, h3⟩, h4⟩, h5⟩, h6⟩ := h
    obtain ⟨i1, i2⟩ := zip_at L (b :: t) s h6
    have e1 := Nat.eq_of_beq_eq_true h1
    have e2 := Nat.eq_of_beq_eq_true h2
    have e3 := Nat.eq_of_beq_eq_true h3
    have e4 : 0 < b := by simpa [Nat.blt, Nat.lt_iff_add_one_le] using h4
    have e5 := Nat.le_of_ble_eq_true h5
    refine ⟨by simp at i1 ⊢; omega, fun k hk => ?_⟩
    cases k with
    | zero => exact ⟨by simp [e1], by simp [e2], by simp only [List.getElem_cons_zero]; rw [e3, e1], by simp only [List.getElem_cons_zero]; omega, by simp only [List.getElem_cons_zero]; omega⟩
    | succ k =>
      have := i2 k (by simpa using hk)
      simpa using this
end Go.Proofs.Ythakdkpgobloiab
