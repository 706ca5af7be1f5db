/- ClassAlike, without the program: mirrors and brackets are mutual; marks are marks in every table. -/
import Derived.Test.YtkcckophnamajaaSpanG
set_option linter.unusedSimpArgs false
set_option linter.unusedVariables false
namespace Go.Proofs.Ytkcckophnamajaa
open Go.RowKit Go.Lib

/-- all that has a mirror -/
def mirS : List Int := mirrorsL.flatMap fun e => [(e.1 : Int), (e.2.1 : Int)]
theorem coupleOf_mem (x : Int) : coupleOf x = (0, 0, false) ∨ coupleOf x ∈ mirrorsL := by
  unfold coupleOf
  by_cases h : cntM x = 0
  · rw [if_pos h]; exact .inl rfl
  · rw [if_neg h]
    have hle : cntM x ≤ mirrorsL.length := List.countP_le_length
    have hlt : cntM x - 1 < mirrorsL.length := by omega
    rw [show mirrorsL.getD (cntM x - 1) (0, 0, false) = mirrorsL[cntM x - 1] by simp [hlt]]
    exact .inr (List.getElem_mem hlt)
theorem not_mirS {x : Int} (h : x ∉ mirS) : mirrorOf x = x ∧ pairOf x = (0, false, false) := by
  unfold mirrorOf pairOf
  rcases coupleOf_mem x with hc | hc
  · rw [hc]
    refine ⟨?_, rfl⟩
    by_cases h0 : x = 0
    · subst h0; rfl
    · rw [if_neg (by simpa using h0), if_neg (by simpa using h0)]
  · have h1 : x ≠ ((coupleOf x).1 : Int) := fun e => h (List.mem_flatMap.2 ⟨_, hc, by rw [← e]; simp⟩)
    have h2 : x ≠ ((coupleOf x).2.1 : Int) := fun e => h (List.mem_flatMap.2 ⟨_, hc, by rw [← e]; simp⟩)
    rw [if_neg h1, if_neg h2, if_neg h1, if_neg h2, ite_self]
    exact ⟨rfl, rfl⟩
theorem mirS_known : ∀ x ∈ mirS, 0 ≤ x ∧ x < 70000 ∧ (x < 55296 ∨ 57343 < x) := by decide +kernel
theorem mirS_back : ∀ x ∈ mirS, mirrorOf (mirrorOf x) = x := by decide +kernel
theorem mirS_pair : ∀ x ∈ mirS, (pairOf x).2.2 = true → pairOf (pairOf x).1 = (x, !(pairOf x).2.1, true) ∧ (pairOf x).1 = mirrorOf x ∧ (pairOf x).1 ≠ x := by decide +kernel
theorem mirS_none : ∀ x ∈ mirS, (pairOf x).2.2 = false → (pairOf x).1 = 0 ∧ (pairOf x).2.1 = false := by decide +kernel
theorem mirror_back (x : Int) : mirrorOf (mirrorOf x) = x := by
  by_cases h : x ∈ mirS
  · exact mirS_back x h
  · rw [(not_mirS h).1, (not_mirS h).1]
theorem mirror_unknown (x : Int) (h : x < 0 ∨ 1114111 < x ∨ (55296 ≤ x ∧ x ≤ 57343)) : mirrorOf x = x ∧ pairOf x = (0, false, false) :=
  not_mirS fun hx => by have := mirS_known x hx; omega
theorem pair_some (x : Int) (h : (pairOf x).2.2 = true) : pairOf (pairOf x).1 = (x, !(pairOf x).2.1, true) ∧ (pairOf x).1 = mirrorOf x ∧ (pairOf x).1 ≠ x := by
  by_cases hx : x ∈ mirS
  · exact mirS_pair x hx h
  · rw [(not_mirS hx).2] at h
    cases h
theorem pair_none (x : Int) (h : (pairOf x).2.2 = false) : pairOf x = (0, false, false) := by
  by_cases hx : x ∈ mirS
  · obtain ⟨h1, h2⟩ := mirS_none x hx h
    rw [show pairOf x = ((pairOf x).1, (pairOf x).2.1, (pairOf x).2.2) from rfl, h1, h2, h]
  · exact (not_mirS hx).2

/-- what is asked of a number's classes -/
def marksOk (k d j w m : Nat) : Bool :=
  (Nat.beq k 2 == Nat.beq d 8) && (Nat.beq k 2 == Nat.beq j 4) && (!Nat.beq k 2 || Nat.beq w 0) && (Nat.beq m 0 || Nat.beq k 2) && (!(Nat.beq k 0 || Nat.beq k 1) || Nat.beq w 0)
def allBorders : List Nat := kindsL.map (·.1) ++ dirsL.map (·.1) ++ joinsL.map (·.1) ++ widthsL.map (·.1) ++ marksL.map (·.1)
set_option maxRecDepth 100000
theorem among_k : among kindsL allBorders = true := by decide +kernel
theorem among_d : among dirsL allBorders = true := by decide +kernel
theorem among_j : among joinsL allBorders = true := by decide +kernel
theorem among_w : among widthsL allBorders = true := by decide +kernel
theorem among_m : among marksL allBorders = true := by decide +kernel
theorem marks_all : (allBorders.all fun a => marksOk (cls kindsL a) (cls dirsL a) (cls joinsL a) (cls widthsL a) (cls marksL a)) = true := by decide +kernel
theorem marks_ok (r : Nat) : marksOk (cls kindsL r) (cls dirsL r) (cls joinsL r) (cls widthsL r) (cls marksL r) = true := by
  obtain ⟨a, ha, hle, hg⟩ := greatest allBorders (by decide +kernel) r
  rw [cls_same among_k hle hg, cls_same among_d hle hg, cls_same among_j hle hg, cls_same among_w hle hg, cls_same among_m hle hg]
  exact List.all_eq_true.1 marks_all a ha
theorem wide_le (c : Nat) : wideOf c false ≤ wideOf c true := by
  unfold wideOf
  cases Nat.beq c 3 <;> simp
end Go.Proofs.Ytkcckophnamajaa
