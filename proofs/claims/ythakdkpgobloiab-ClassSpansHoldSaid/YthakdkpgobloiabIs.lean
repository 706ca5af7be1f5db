/- is: what a table says of a number, by the functions. -/
import Derived.Test.YthakdkpgobloiabHoldP
namespace Go.Proofs.Ythakdkpgobloiab
open Go.RowKit Go.Lib

theorem is_0 (x : Int) (w : World) : Calls Try.prog 19 #[.int .i8 0, .int .i32 x] w fun e w' => e = .returned (.int .i64 (cls kindsL (char x) : Nat)) ∧ Below w.heap.size w w' := by
  have hk := Kind_any x w
  have hl := cls_lt (m := 256) kindsL (char x) (by decide) (by decide +kernel)
  revert hk hl
  generalize cls kindsL (char x) = c
  intro hk hl
  have hw : IntKind.i64.wrap (c : Int) = (c : Int) := IntWalk.i64_in _ (by omega)
  go_enter Try.func19, Try.ntmps19
  go_wp2_with fail
  refine hk.mono ?_
  rintro _ w' ⟨rfl, hB⟩
  go_wp2_with fail
  go_ret
  exact ⟨rfl, hB⟩
theorem is_1 (x : Int) (w : World) : Calls Try.prog 19 #[.int .i8 1, .int .i32 x] w fun e w' => e = .returned (.int .i64 (cls dirsL (char x) : Nat)) ∧ Below w.heap.size w w' := by
  have hk := Dir_any x w
  have hl := cls_lt (m := 256) dirsL (char x) (by decide) (by decide +kernel)
  revert hk hl
  generalize cls dirsL (char x) = c
  intro hk hl
  have hw : IntKind.i64.wrap (c : Int) = (c : Int) := IntWalk.i64_in _ (by omega)
  go_enter Try.func19, Try.ntmps19
  go_wp2_with fail
  refine hk.mono ?_
  rintro _ w' ⟨rfl, hB⟩
  go_wp2_with fail
  go_ret
  exact ⟨rfl, hB⟩
theorem is_3 (x : Int) (w : World) : Calls Try.prog 19 #[.int .i8 3, .int .i32 x] w fun e w' => e = .returned (.int .i64 (cls marksL (char x) : Nat)) ∧ Below w.heap.size w w' := by
  have hk := Mark_any x w
  have hl := cls_lt (m := 256) marksL (char x) (by decide) (by decide +kernel)
  revert hk hl
  generalize cls marksL (char x) = c
  intro hk hl
  have hw : IntKind.i64.wrap (c : Int) = (c : Int) := IntWalk.i64_in _ (by omega)
  go_enter Try.func19, Try.ntmps19
  go_wp2_with fail
  refine hk.mono ?_
  rintro _ w' ⟨rfl, hB⟩
  go_wp2_with fail
  go_ret
  exact ⟨rfl, hB⟩
theorem is_4 (x : Int) (w : World) : Calls Try.prog 19 #[.int .i8 4, .int .i32 x] w fun e w' => e = .returned (.int .i64 (cls joinsL (char x) : Nat)) ∧ Below w.heap.size w w' := by
  have hk := Join_any x w
  have hl := cls_lt (m := 256) joinsL (char x) (by decide) (by decide +kernel)
  revert hk hl
  generalize cls joinsL (char x) = c
  intro hk hl
  have hw : IntKind.i64.wrap (c : Int) = (c : Int) := IntWalk.i64_in _ (by omega)
  go_enter Try.func19, Try.ntmps19
  go_wp2_with fail
  refine hk.mono ?_
  rintro _ w' ⟨rfl, hB⟩
  go_wp2_with fail
  go_ret
  exact ⟨rfl, hB⟩
theorem is_5 (x : Int) (w : World) : Calls Try.prog 19 #[.int .i8 5, .int .i32 x] w fun e w' => e = .returned (.int .i64 (cls breaksL (char x) : Nat)) ∧ Below w.heap.size w w' := by
  have hk := Break_any x w
  have hl := cls_lt (m := 256) breaksL (char x) (by decide) (by decide +kernel)
  revert hk hl
  generalize cls breaksL (char x) = c
  intro hk hl
  have hw : IntKind.i64.wrap (c : Int) = (c : Int) := IntWalk.i64_in _ (by omega)
  go_enter Try.func19, Try.ntmps19
  go_wp2_with fail
  refine hk.mono ?_
  rintro _ w' ⟨rfl, hB⟩
  go_wp2_with fail
  go_ret
  exact ⟨rfl, hB⟩
theorem is_2 (x : Int) (w : World) : Calls Try.prog 19 #[.int .i8 2, .int .i32 x] w fun e w' => e = .returned (.int .i64 (cls widthsL (char x) : Nat)) ∧ Below w.heap.size w w' := by
  have h0 := Wide_any x false
  have h1 := Wide_any x true
  have hl := cls_lt (m := 4) widthsL (char x) (by decide) (by decide +kernel)
  revert h0 h1 hl
  generalize cls widthsL (char x) = c
  intro h0 h1 hl
  have hc : c = 0 ∨ c = 1 ∨ c = 2 ∨ c = 3 := by omega
  clear hl
  rcases hc with rfl | rfl | rfl | rfl
  · rw [show wideOf 0 false = 0 from rfl] at h0
    rw [show wideOf 0 true = 0 from rfl] at h1
    go_enter Try.func19, Try.ntmps19
    go_wp2_with fail
    refine (h0 _).mono ?_
    rintro _ w1 ⟨rfl, b1⟩
    have B1 := Lib.hid b1
    clear b1
    go_wp2_with fail
    go_ret
    exact ⟨rfl, B1.out⟩
  · rw [show wideOf 1 false = 1 from rfl] at h0
    rw [show wideOf 1 true = 1 from rfl] at h1
    go_enter Try.func19, Try.ntmps19
    go_wp2_with fail
    refine (h0 _).mono ?_
    rintro _ w1 ⟨rfl, b1⟩
    have B1 := Lib.hid b1
    clear b1
    go_wp2_with fail
    refine (h1 _).mono ?_
    rintro _ w2 ⟨rfl, b2⟩
    have B2 := Lib.hid (B1.out.trans (b2.mono B1.out.size))
    clear b2
    go_wp2_with fail
    go_ret
    exact ⟨rfl, B2.out⟩
  · rw [show wideOf 2 false = 2 from rfl] at h0
    rw [show wideOf 2 true = 2 from rfl] at h1
    go_enter Try.func19, Try.ntmps19
    go_wp2_with fail
    refine (h0 _).mono ?_
    rintro _ w1 ⟨rfl, b1⟩
    have B1 := Lib.hid b1
    clear b1
    go_wp2_with fail
    go_ret
    exact ⟨rfl, B1.out⟩
  · rw [show wideOf 3 false = 1 from rfl] at h0
    rw [show wideOf 3 true = 2 from rfl] at h1
    go_enter Try.func19, Try.ntmps19
    go_wp2_with fail
    refine (h0 _).mono ?_
    rintro _ w1 ⟨rfl, b1⟩
    have B1 := Lib.hid b1
    clear b1
    go_wp2_with fail
    refine (h1 _).mono ?_
    rintro _ w2 ⟨rfl, b2⟩
    have B2 := Lib.hid (B1.out.trans (b2.mono B1.out.size))
    clear b2
    go_wp2_with fail
    go_ret
    exact ⟨rfl, B2.out⟩
theorem is_any (t x : Int) (h : 0 ≤ t ∧ t ≤ 5) (w : World) : Calls Try.prog 19 #[.int .i8 t, .int .i32 x] w fun e w' => e = .returned (.int .i64 (cls (tabAt t) (char x) : Nat)) ∧ Below w.heap.size w w' := by
  have h' : t = 0 ∨ t = 1 ∨ t = 2 ∨ t = 3 ∨ t = 4 ∨ t = 5 := by omega
  rcases h' with rfl | rfl | rfl | rfl | rfl | rfl
  · exact is_0 x w
  · exact is_1 x w
  · exact is_2 x w
  · exact is_3 x w
  · exact is_4 x w
  · exact is_5 x w
end Go.Proofs.Ythakdkpgobloiab
