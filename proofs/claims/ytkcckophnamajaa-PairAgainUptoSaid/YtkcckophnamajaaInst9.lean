/- Layer 9: what is asked of class: brackets and marks, out of stage 2. -/
import Derived.Test.YtkcckophnamajaaRes9
import Derived.Test.YtkcckophnamajaaPureG
import Derived.Test.YtkcckophnamajaaMirrors
import Derived.Test.YtkcckophnamajaaSameT
set_option linter.unusedSimpArgs false
set_option linter.unusedVariables false
namespace Go.Proofs.Ytkcckophnamajaa
open Go.RowKit Go.Lib

def dz9 (x : Int) : Int := ((cls dirsL (char x) : Nat) : Int)
def nsm9 (r : Int) : Bool := dz9 r == 8
theorem HDir9 : Hid (∀ x w, Calls Try.prog 50 #[.int .i32 x] w fun e w' => e = .returned (.int .i8 (dz9 x)) ∧ w' = w) := Lib.hid refDir_is
theorem HPair9 : Hid (∀ x w, Calls Try.prog 24 #[.int .i32 x] w fun e w' => e = .returned (.tuple #[.int .i32 (pairOf x).1, .bool (pairOf x).2.1, .bool (pairOf x).2.2]) ∧ Below w.heap.size w w') := Lib.hid refPair_any
theorem brk_len9 : brkL.length = 30 := rfl
theorem pair_in {x : Int} (h : (pairOf x).2.2 = true) : ∃ k, k < 30 ∧ brkL.getD k 0 = x := by
  by_cases hx : x ∈ mirS
  · rcases mirS_parts x hx with h1 | h1
    · obtain ⟨k, hk, e⟩ := List.getElem_of_mem h1
      have hk' : k < 30 := by rw [brk_len9] at hk; exact hk
      exact ⟨k, hk', by rw [List.getD_eq_getElem?_getD, List.getElem?_eq_getElem hk, e]; rfl⟩
    · rw [mir_pair x h1] at h; cases h
  · rw [(not_mirS hx).2] at h; cases h
theorem xo_xo : ∀ k, k < 30 → xo (xo k) = k ∧ xo k < 30 ∧ decide (xo k % 2 = 0) = !decide (k % 2 = 0) := by decide
theorem pair_back (x y : Int) (h : pairOf x = (y, true, true)) : pairOf y = (x, false, true) := by
  obtain ⟨k, hk, rfl⟩ := pair_in (by rw [h] : (pairOf x).2.2 = true)
  have h1 := brk_pair k hk
  obtain ⟨h3, h4, h5⟩ := xo_xo k hk
  rw [h] at h1
  injection h1 with h6 h7
  injection h7 with h7 _
  rw [h6, brk_pair (xo k) h4, h3, h5, ← h7]
  rfl
theorem brk_nsm : ∀ k : Nat, k < 30 → nsm9 (brkL.getD k 0) = false := by decide +kernel
theorem pair_nsm (r : Int) (h : (pairOf r).2.2 = true) : nsm9 r = false := by
  obtain ⟨k, hk, rfl⟩ := pair_in h
  exact brk_nsm k hk
end Go.Proofs.Ytkcckophnamajaa
