/- ClassTells, walked: all that the tables say of a number is the document's. -/
import Derived.Test.YthakdkpgobloiabWorks
import Derived.Test.YthakdkpgobloiabSameT
namespace Go.Proofs.Ythakdkpgobloiab
open Go.RowKit Go.Lib

theorem refWide_any (x : Int) (b : Bool) (w : World) : Calls Try.prog 32 #[.int .i32 x, .bool b] w fun e w' => e = .returned (.int .i64 (wideOf (cls widthsL (char x)) b : Nat)) ∧ w' = w := by
  have hk := refColumns_is x w
  revert hk
  generalize cls widthsL (char x) = c
  intro hk
  have HK := Lib.hid hk
  clear hk
  by_cases h3 : c = 3
  · subst h3
    cases b with
    | true =>
      go_enter Try.func32, Try.ntmps32
      go_wp2_with fail
      refine HK.out.mono ?_
      rintro _ w ⟨rfl, rfl⟩
      go_wp2_with fail
      go_ret
      exact ⟨rfl, rfl⟩
    | false =>
      go_enter Try.func32, Try.ntmps32
      go_wp2_with fail
      refine HK.out.mono ?_
      rintro _ w ⟨rfl, rfl⟩
      go_wp2_with fail
      go_ret
      exact ⟨rfl, rfl⟩
  · have e : wideOf c b = c := by
      unfold wideOf
      rw [show Nat.beq c 3 = false by rw [← Bool.not_eq_true]; exact fun h => h3 (Nat.eq_of_beq_eq_true h)]
      rfl
    rw [e]
    have hz : (((c : Nat) : Int) == 3) = false := by simp; omega
    have h3z : ¬ ((c : Int) = 3) := by omega
    go_enter Try.func32, Try.ntmps32
    go_wp2_with fail
    refine HK.out.mono ?_
    rintro _ w ⟨rfl, rfl⟩
    go_wp2_with fail
    go_ret
    exact ⟨rfl, rfl⟩

set_option maxRecDepth 100000 in
set_option maxHeartbeats 4000000 in
theorem tells_walk (x : Int) (b : Bool) (w : World) : Calls Try.prog 15 #[.int .i32 x, .bool b] w fun e w' => e = .returned (.bool true) ∧ Below w.heap.size w w' := by
  have p1 := Kind_any x
  have q1 := refKind_is x
  have p2 := Dir_any x
  have q2 := refDir_is x
  have p3 := Wide_any x b
  have q3 := refWide_any x b
  have p4 := Mark_any x
  have q4 := refMark_is x
  have p5 := Join_any x
  have q5 := refJoin_is x
  have p6 := Break_any x
  have q6 := refBreak_is x
  revert p1 q1 p2 q2 p3 q3 p4 q4 p5 q5 p6 q6
  generalize cls kindsL (char x) = c1
  generalize cls dirsL (char x) = c2
  generalize wideOf (cls widthsL (char x)) b = c3
  generalize cls marksL (char x) = c4
  generalize cls joinsL (char x) = c5
  generalize cls breaksL (char x) = c6
  intro p1 q1 p2 q2 p3 q3 p4 q4 p5 q5 p6 q6
  go_enter Try.func15, Try.ntmps15
  go_wp2_with fail
  refine (p1 _).mono ?_
  rintro _ w1 ⟨rfl, b1⟩
  have D1 := Lib.hid b1
  clear b1 p1
  go_wp2_with fail
  refine (q1 _).mono ?_
  rintro _ w1 ⟨rfl, rfl⟩
  clear q1
  go_wp2_with fail
  refine (p2 _).mono ?_
  rintro _ w2 ⟨rfl, b2⟩
  have D2 := Lib.hid (D1.out.trans (b2.mono D1.out.size))
  clear b2 p2 D1
  go_wp2_with fail
  refine (q2 _).mono ?_
  rintro _ w2 ⟨rfl, rfl⟩
  clear q2
  go_wp2_with fail
  refine (p3 _).mono ?_
  rintro _ w3 ⟨rfl, b3⟩
  have D3 := Lib.hid (D2.out.trans (b3.mono D2.out.size))
  clear b3 p3 D2
  go_wp2_with fail
  refine (q3 _).mono ?_
  rintro _ w3 ⟨rfl, rfl⟩
  clear q3
  go_wp2_with fail
  refine (p4 _).mono ?_
  rintro _ w4 ⟨rfl, b4⟩
  have D4 := Lib.hid (D3.out.trans (b4.mono D3.out.size))
  clear b4 p4 D3
  go_wp2_with fail
  refine (q4 _).mono ?_
  rintro _ w4 ⟨rfl, rfl⟩
  clear q4
  go_wp2_with fail
  refine (p5 _).mono ?_
  rintro _ w5 ⟨rfl, b5⟩
  have D5 := Lib.hid (D4.out.trans (b5.mono D4.out.size))
  clear b5 p5 D4
  go_wp2_with fail
  refine (q5 _).mono ?_
  rintro _ w5 ⟨rfl, rfl⟩
  clear q5
  go_wp2_with fail
  refine (p6 _).mono ?_
  rintro _ w6 ⟨rfl, b6⟩
  have D6 := Lib.hid (D5.out.trans (b6.mono D5.out.size))
  clear b6 p6 D5
  go_wp2_with fail
  refine (q6 _).mono ?_
  rintro _ w6 ⟨rfl, rfl⟩
  clear q6
  go_wp2_with fail
  refine (works_any _).mono ?_
  rintro _ w7 ⟨rfl, b7⟩
  have D7 := Lib.hid (D6.out.trans (b7.mono D6.out.size))
  clear b7 D6
  go_wp2_with fail
  go_ret
  exact ⟨rfl, D7.out⟩
end Go.Proofs.Ythakdkpgobloiab
