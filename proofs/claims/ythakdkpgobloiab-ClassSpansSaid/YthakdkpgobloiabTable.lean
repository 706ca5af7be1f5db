/- What table a number names; Spans of every table and value. -/
import Derived.Test.YthakdkpgobloiabSpans
namespace Go.Proofs.Ythakdkpgobloiab
open Go.RowKit Go.Lib

theorem tableOf_0 (w : World) : Calls Try.prog 38 #[.int .i8 0] w fun e w' => e = .returned (.func (.func 40) #[] #[]) ∧ w' = w := by
  go_enter Try.func38, Try.ntmps38
  go_wp2_with fail
  go_ret
  exact ⟨rfl, rfl⟩
theorem tableOf_1 (w : World) : Calls Try.prog 38 #[.int .i8 1] w fun e w' => e = .returned (.func (.func 42) #[] #[]) ∧ w' = w := by
  go_enter Try.func38, Try.ntmps38
  go_wp2_with fail
  go_ret
  exact ⟨rfl, rfl⟩
theorem tableOf_2 (w : World) : Calls Try.prog 38 #[.int .i8 2] w fun e w' => e = .returned (.func (.func 44) #[] #[]) ∧ w' = w := by
  go_enter Try.func38, Try.ntmps38
  go_wp2_with fail
  go_ret
  exact ⟨rfl, rfl⟩
theorem tableOf_3 (w : World) : Calls Try.prog 38 #[.int .i8 3] w fun e w' => e = .returned (.func (.func 45) #[] #[]) ∧ w' = w := by
  go_enter Try.func38, Try.ntmps38
  go_wp2_with fail
  go_ret
  exact ⟨rfl, rfl⟩
theorem tableOf_4 (w : World) : Calls Try.prog 38 #[.int .i8 4] w fun e w' => e = .returned (.func (.func 43) #[] #[]) ∧ w' = w := by
  go_enter Try.func38, Try.ntmps38
  go_wp2_with fail
  go_ret
  exact ⟨rfl, rfl⟩
theorem tableOf_5 (w : World) : Calls Try.prog 38 #[.int .i8 5] w fun e w' => e = .returned (.func (.func 46) #[] #[]) ∧ w' = w := by
  go_enter Try.func38, Try.ntmps38
  go_wp2_with fail
  go_ret
  exact ⟨rfl, rfl⟩
theorem tableOf_no (t : Int) (h : t < 0 ∨ 5 < t) (w : World) : Calls Try.prog 38 #[.int .i8 t] w fun e w' => e = .returned .nilFunc ∧ w' = w := by
  have h0 : (t == 0) = false := by simp; omega
  have h1 : (t == 1) = false := by simp; omega
  have h2 : (t == 2) = false := by simp; omega
  have h3 : (t == 3) = false := by simp; omega
  have h4 : (t == 4) = false := by simp; omega
  have h5 : (t == 5) = false := by simp; omega
  clear h
  go_enter Try.func38, Try.ntmps38
  go_wp2_with fail
  go_ret
  exact ⟨rfl, rfl⟩

/-- the table that a number names; none: no stretches -/
def tabAt (t : Int) : Tab := if t = 0 then kindsL else if t = 1 then dirsL else if t = 2 then widthsL else if t = 3 then marksL else if t = 4 then joinsL else if t = 5 then breaksL else []

set_option maxRecDepth 100000 in
set_option maxHeartbeats 1000000 in
theorem Spans_no (t v : Int) (h : t < 0 ∨ 5 < t) (w : World) : Calls Try.prog 17 #[.int .i8 t, .int .i64 v] w fun e w' => e = .returned (.slice none 0 0) ∧ w' = w := by
  have ht := Lib.hid (tableOf_no t h w)
  clear h
  have hnil : ∀ w, (binOp .eql 51 .nilFunc .nilFunc).run Try.prog w = .ok (.bool true) w := fun w => by rfl
  go_enter Try.func17, Try.ntmps17
  go_wp2_with fail
  refine ht.out.mono ?_
  rintro _ w ⟨rfl, rfl⟩
  go_wp2_with fail
  go_ret
  exact ⟨rfl, rfl⟩

set_option maxRecDepth 100000 in
theorem Spans_any (t v : Int) (w : World) : Calls Try.prog 17 #[.int .i8 t, .int .i64 v] w fun e w' =>
    ∃ u, e = .returned u ∧ w'.ownsRow w.heap.size 35 2 u (spansFrom (tabAt t) v).length (spCells (spansFrom (tabAt t) v)) ∧ Below w.heap.size w w' := by
  by_cases h : t < 0 ∨ 5 < t
  · have e : tabAt t = [] := by
      unfold tabAt
      rw [if_neg (by omega), if_neg (by omega), if_neg (by omega), if_neg (by omega), if_neg (by omega), if_neg (by omega)]
    rw [e]
    refine (Spans_no t v h w).mono fun e w' hh => ?_
    obtain ⟨rfl, rfl⟩ := hh
    exact ⟨_, rfl, World.ownsRow_nil _ _ _ _, Below.refl _ _⟩
  · have h' : t = 0 ∨ t = 1 ∨ t = 2 ∨ t = 3 ∨ t = 4 ∨ t = 5 := by omega
    rcases h' with rfl | rfl | rfl | rfl | rfl | rfl
    · exact spans_with 40 kindsL 0 v w (by decide +kernel) rfl (by decide +kernel) (by decide +kernel) (enters_of Try.func40 (by kernel_rfl) rfl) kinds_any (tableOf_0 w)
    · exact spans_with 42 dirsL 1 v w (by decide +kernel) rfl (by decide +kernel) (by decide +kernel) (enters_of Try.func42 (by kernel_rfl) rfl) dirs_any (tableOf_1 w)
    · exact spans_with 44 widthsL 2 v w (by decide +kernel) rfl (by decide +kernel) (by decide +kernel) (enters_of Try.func44 (by kernel_rfl) rfl) widths_any (tableOf_2 w)
    · exact spans_with 45 marksL 3 v w (by decide +kernel) rfl (by decide +kernel) (by decide +kernel) (enters_of Try.func45 (by kernel_rfl) rfl) marks_any (tableOf_3 w)
    · exact spans_with 43 joinsL 4 v w (by decide +kernel) rfl (by decide +kernel) (by decide +kernel) (enters_of Try.func43 (by kernel_rfl) rfl) joins_any (tableOf_4 w)
    · exact spans_with 46 breaksL 5 v w (by decide +kernel) rfl (by decide +kernel) (by decide +kernel) (enters_of Try.func46 (by kernel_rfl) rfl) breaks_any (tableOf_5 w)
end Go.Proofs.Ythakdkpgobloiab
