/- Mirror and Pair, out of the couple; what table a number names; what of a stretch are characters. -/
import Derived.Test.YtkcckophnamajaaMir
set_option linter.unusedSimpArgs false
set_option linter.unusedVariables false
namespace Go.Proofs.Ytkcckophnamajaa
open Go.RowKit Go.Lib

def mirrorOf (x : Int) : Int := if x = ((coupleOf x).1 : Int) then ((coupleOf x).2.1 : Int) else if x = ((coupleOf x).2.1 : Int) then ((coupleOf x).1 : Int) else x
def pairOf (x : Int) : Int × Bool × Bool :=
  if (coupleOf x).2.2 = false then (0, false, false) else if x = ((coupleOf x).1 : Int) then ((coupleOf x).2.1, true, true) else if x = ((coupleOf x).2.1 : Int) then ((coupleOf x).1, false, true) else (0, false, false)

set_option maxRecDepth 100000 in
set_option maxHeartbeats 1000000 in
theorem Pair_any (x : Int) (w : World) : Calls Try.prog 18 #[.int .i32 x] w fun e w' => e = .returned (.tuple #[.int .i32 (pairOf x).1, .bool (pairOf x).2.1, .bool (pairOf x).2.2]) ∧ Below w.heap.size w w' := by
  have hm := mirrors_any x w
  unfold pairOf
  revert hm
  generalize coupleOf x = c
  obtain ⟨l, m, b⟩ := c
  intro hm
  change Calls _ _ _ _ (fun e w' => e = .returned (.agg #[.int .i32 (l : Int), .int .i32 (m : Int), .bool b]) ∧ Below w.heap.size w w') at hm
  cases b with
  | false =>
    rw [if_pos rfl]
    go_enter Try.func18, Try.ntmps18
    go_wp2_with fail
    refine hm.mono ?_
    rintro _ w' ⟨rfl, hB⟩
    go_wp2_with fail
    go_ret3
    exact ⟨rfl, hB.alloc hB.size _⟩
  | true =>
    rw [if_neg (by simp)]
    by_cases h1 : x = (l : Int)
    · have e1 : (x == (l : Int)) = true := by simpa using h1
      rw [if_pos h1]
      clear h1
      go_enter Try.func18, Try.ntmps18
      go_wp2_with fail
      refine hm.mono ?_
      rintro _ w' ⟨rfl, hB⟩
      go_wp2_with fail
      go_ret3
      exact ⟨rfl, hB.alloc hB.size _⟩
    · have e1 : (x == (l : Int)) = false := by simpa using h1
      rw [if_neg h1]
      clear h1
      by_cases h2 : x = (m : Int)
      · have e2 : (x == (m : Int)) = true := by simpa using h2
        rw [if_pos h2]
        clear h2
        go_enter Try.func18, Try.ntmps18
        go_wp2_with fail
        refine hm.mono ?_
        rintro _ w' ⟨rfl, hB⟩
        go_wp2_with fail
        go_ret3
        exact ⟨rfl, hB.alloc hB.size _⟩
      · have e2 : (x == (m : Int)) = false := by simpa using h2
        rw [if_neg h2]
        clear h2
        go_enter Try.func18, Try.ntmps18
        go_wp2_with fail
        refine hm.mono ?_
        rintro _ w' ⟨rfl, hB⟩
        go_wp2_with fail
        go_ret3
        exact ⟨rfl, hB.alloc hB.size _⟩
end Go.Proofs.Ytkcckophnamajaa
