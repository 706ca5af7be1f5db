/- ClassSpansHold, walked for every table's number. -/
import Derived.Test.YthakdkpgobloiabHold
namespace Go.Proofs.Ythakdkpgobloiab
open Go.RowKit Go.Lib

set_option maxRecDepth 100000 in
set_option maxHeartbeats 2000000 in
theorem hold_no (t v r : Int) (ht : t < 0 ∨ 5 < t) (w : World) : Calls Try.prog 6 #[.int .i8 t, .int .i64 v, .int .i32 r] w fun e w' => e = .returned (.bool true) ∧ Below w.heap.size w w' := by
  have hs := fun W => Spans_no t v ht W
  by_cases h0 : t < 0
  · go_enter Try.func6, Try.ntmps6
    go_wp2_with fail
    refine (works_any _).mono ?_
    rintro _ w1 ⟨rfl, b1⟩
    have B1 := Lib.hid b1
    clear b1
    go_wp2_with fail
    refine (hs _).mono ?_
    rintro _ w1 ⟨rfl, rfl⟩
    go_wp2_with fail
    go_ret
    exact ⟨rfl, B1.out⟩
  · have h5 : 5 < t := by omega
    clear ht
    go_enter Try.func6, Try.ntmps6
    go_wp2_with fail
    refine (works_any _).mono ?_
    rintro _ w1 ⟨rfl, b1⟩
    have B1 := Lib.hid b1
    clear b1
    go_wp2_with fail
    refine (hs _).mono ?_
    rintro _ w1 ⟨rfl, rfl⟩
    go_wp2_with fail
    go_ret
    exact ⟨rfl, B1.out⟩
theorem hold_walk (t v r : Int) (w : World) : Calls Try.prog 6 #[.int .i8 t, .int .i64 v, .int .i32 r] w fun e w' => e = .returned (.bool true) ∧ Below w.heap.size w w' := by
  by_cases h : 0 ≤ t ∧ t ≤ 5
  · exact hold_yes t v r h w
  · exact hold_no t v r (by omega) w
end Go.Proofs.Ythakdkpgobloiab
