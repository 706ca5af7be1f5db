/- ClassKnown, walked: the chapter's examples. -/
import Derived.Test.YthakdkpgobloiabWorks
namespace Go.Proofs.Ythakdkpgobloiab
open Go.RowKit Go.Lib

theorem Spans_nil (t v : Int) (h : spansFrom (tabAt t) v = []) (w : World) : Calls Try.prog 17 #[.int .i8 t, .int .i64 v] w fun e w' => (∃ A c, e = .returned (.slice A 0 c)) ∧ Below w.heap.size w w' := by
  refine (Spans_any t v w).mono ?_
  rintro _ w' ⟨u, rfl, own, b⟩
  rw [h] at own
  obtain ⟨A, c, rfl, _, _⟩ := own_shape own
  exact ⟨⟨A, c, rfl⟩, b⟩

set_option maxRecDepth 100000 in
set_option maxHeartbeats 4000000 in
theorem known_walk (w : World) : Calls Try.prog 9 #[] w fun e w' => e = .returned (.bool true) ∧ Below w.heap.size w w' := by
  have q1 := fun W => Kind_any (65) W
  rw [show cls kindsL (char (65)) = 3 by decide +kernel] at q1
  have q2 := fun W => Kind_any (0) W
  rw [show cls kindsL (char (0)) = 0 by decide +kernel] at q2
  have q3 := fun W => Kind_any (769) W
  rw [show cls kindsL (char (769)) = 2 by decide +kernel] at q3
  have q4 := fun W => Kind_any (-1) W
  rw [show cls kindsL (char (-1)) = 7 by decide +kernel] at q4
  have q5 := fun W => Kind_any (55296) W
  rw [show cls kindsL (char (55296)) = 7 by decide +kernel] at q5
  have q6 := fun W => Kind_any (1114112) W
  rw [show cls kindsL (char (1114112)) = 7 by decide +kernel] at q6
  have q7 := fun W => Dir_any (65) W
  rw [show cls dirsL (char (65)) = 0 by decide +kernel] at q7
  have q8 := fun W => Dir_any (1575) W
  rw [show cls dirsL (char (1575)) = 2 by decide +kernel] at q8
  have q9 := fun W => Dir_any (51) W
  rw [show cls dirsL (char (51)) = 3 by decide +kernel] at q9
  have q10 := fun W => Dir_any (1635) W
  rw [show cls dirsL (char (1635)) = 6 by decide +kernel] at q10
  have q11 := fun W => Dir_any (46) W
  rw [show cls dirsL (char (46)) = 7 by decide +kernel] at q11
  have q12 := fun W => Dir_any (40) W
  rw [show cls dirsL (char (40)) = 13 by decide +kernel] at q12
  have q13 := fun W => Dir_any (8295) W
  rw [show cls dirsL (char (8295)) = 20 by decide +kernel] at q13
  have q14 := fun W => Wide_any (65) true W
  rw [show wideOf (cls widthsL (char (65))) true = 1 by decide +kernel] at q14
  have q15 := fun W => Wide_any (945) false W
  rw [show wideOf (cls widthsL (char (945))) false = 1 by decide +kernel] at q15
  have q16 := fun W => Wide_any (945) true W
  rw [show wideOf (cls widthsL (char (945))) true = 2 by decide +kernel] at q16
  have q17 := fun W => Wide_any (769) true W
  rw [show wideOf (cls widthsL (char (769))) true = 0 by decide +kernel] at q17
  have q18 := fun W => Wide_any (57344) true W
  rw [show wideOf (cls widthsL (char (57344))) true = 2 by decide +kernel] at q18
  have q19 := fun W => Wide_any (-7) true W
  rw [show wideOf (cls widthsL (char (-7))) true = 1 by decide +kernel] at q19
  have q20 := fun W => Pair_any 60 W
  rw [show pairOf 60 = (0, false, false) by decide +kernel] at q20
  have q21 := fun W => Mark_any (803) W
  rw [show cls marksL (char (803)) = 220 by decide +kernel] at q21
  have q22 := fun W => Mark_any (1468) W
  rw [show cls marksL (char (1468)) = 21 by decide +kernel] at q22
  have q23 := fun W => Mark_any (65) W
  rw [show cls marksL (char (65)) = 0 by decide +kernel] at q23
  have q24 := fun W => Join_any (1611) W
  rw [show cls joinsL (char (1611)) = 4 by decide +kernel] at q24
  have q25 := fun W => Join_any (8204) W
  rw [show cls joinsL (char (8204)) = 0 by decide +kernel] at q25
  have q26 := fun W => Break_any (7) W
  rw [show cls breaksL (char (7)) = 8 by decide +kernel] at q26
  have q27 := fun W => Break_any (10) W
  rw [show cls breaksL (char (10)) = 2 by decide +kernel] at q27
  have q28 := fun W => Mirror_any 60 W
  rw [show mirrorOf 60 = 62 by decide +kernel] at q28
  have q29 := fun W => Spans_nil 77 0 (by decide +kernel) W
  have q30 := fun W => Spans_nil 4 9 (by decide +kernel) W
  have q31 := fun W => works_any W
  go_enter Try.func9, Try.ntmps9
  go_wp2_with fail
  refine (q1 _).mono ?_
  rintro _ w1 ⟨rfl, b1⟩
  have D1 := Lib.hid b1
  clear b1 q1
  go_wp2_with fail
  refine (q2 _).mono ?_
  rintro _ w2 ⟨rfl, b2⟩
  have D2 := Lib.hid (D1.out.trans (b2.mono D1.out.size))
  clear b2 q2 D1
  go_wp2_with fail
  refine (q3 _).mono ?_
  rintro _ w3 ⟨rfl, b3⟩
  have D3 := Lib.hid (D2.out.trans (b3.mono D2.out.size))
  clear b3 q3 D2
  go_wp2_with fail
  refine (q4 _).mono ?_
  rintro _ w4 ⟨rfl, b4⟩
  have D4 := Lib.hid (D3.out.trans (b4.mono D3.out.size))
  clear b4 q4 D3
  go_wp2_with fail
  refine (q5 _).mono ?_
  rintro _ w5 ⟨rfl, b5⟩
  have D5 := Lib.hid (D4.out.trans (b5.mono D4.out.size))
  clear b5 q5 D4
  go_wp2_with fail
  refine (q6 _).mono ?_
  rintro _ w6 ⟨rfl, b6⟩
  have D6 := Lib.hid (D5.out.trans (b6.mono D5.out.size))
  clear b6 q6 D5
  go_wp2_with fail
  refine (q7 _).mono ?_
  rintro _ w7 ⟨rfl, b7⟩
  have D7 := Lib.hid (D6.out.trans (b7.mono D6.out.size))
  clear b7 q7 D6
  go_wp2_with fail
  refine (q8 _).mono ?_
  rintro _ w8 ⟨rfl, b8⟩
  have D8 := Lib.hid (D7.out.trans (b8.mono D7.out.size))
  clear b8 q8 D7
  go_wp2_with fail
  refine (q9 _).mono ?_
  rintro _ w9 ⟨rfl, b9⟩
  have D9 := Lib.hid (D8.out.trans (b9.mono D8.out.size))
  clear b9 q9 D8
  go_wp2_with fail
  refine (q10 _).mono ?_
  rintro _ w10 ⟨rfl, b10⟩
  have D10 := Lib.hid (D9.out.trans (b10.mono D9.out.size))
  clear b10 q10 D9
  go_wp2_with fail
  refine (q11 _).mono ?_
  rintro _ w11 ⟨rfl, b11⟩
  have D11 := Lib.hid (D10.out.trans (b11.mono D10.out.size))
  clear b11 q11 D10
  go_wp2_with fail
  refine (q12 _).mono ?_
  rintro _ w12 ⟨rfl, b12⟩
  have D12 := Lib.hid (D11.out.trans (b12.mono D11.out.size))
  clear b12 q12 D11
  go_wp2_with fail
  refine (q13 _).mono ?_
  rintro _ w13 ⟨rfl, b13⟩
  have D13 := Lib.hid (D12.out.trans (b13.mono D12.out.size))
  clear b13 q13 D12
  go_wp2_with fail
  refine (q14 _).mono ?_
  rintro _ w14 ⟨rfl, b14⟩
  have D14 := Lib.hid (D13.out.trans (b14.mono D13.out.size))
  clear b14 q14 D13
  go_wp2_with fail
  refine (q15 _).mono ?_
  rintro _ w15 ⟨rfl, b15⟩
  have D15 := Lib.hid (D14.out.trans (b15.mono D14.out.size))
  clear b15 q15 D14
  go_wp2_with fail
  refine (q16 _).mono ?_
  rintro _ w16 ⟨rfl, b16⟩
  have D16 := Lib.hid (D15.out.trans (b16.mono D15.out.size))
  clear b16 q16 D15
  go_wp2_with fail
  refine (q17 _).mono ?_
  rintro _ w17 ⟨rfl, b17⟩
  have D17 := Lib.hid (D16.out.trans (b17.mono D16.out.size))
  clear b17 q17 D16
  go_wp2_with fail
  refine (q18 _).mono ?_
  rintro _ w18 ⟨rfl, b18⟩
  have D18 := Lib.hid (D17.out.trans (b18.mono D17.out.size))
  clear b18 q18 D17
  go_wp2_with fail
  refine (q19 _).mono ?_
  rintro _ w19 ⟨rfl, b19⟩
  have D19 := Lib.hid (D18.out.trans (b19.mono D18.out.size))
  clear b19 q19 D18
  go_wp2_with fail
  refine (q20 _).mono ?_
  rintro _ w20 ⟨rfl, b20⟩
  have D20 := Lib.hid (D19.out.trans (b20.mono D19.out.size))
  clear b20 q20 D19
  go_wp2_with fail
  refine (q21 _).mono ?_
  rintro _ w21 ⟨rfl, b21⟩
  have D21 := Lib.hid (D20.out.trans (b21.mono D20.out.size))
  clear b21 q21 D20
  go_wp2_with fail
  refine (q22 _).mono ?_
  rintro _ w22 ⟨rfl, b22⟩
  have D22 := Lib.hid (D21.out.trans (b22.mono D21.out.size))
  clear b22 q22 D21
  go_wp2_with fail
  refine (q23 _).mono ?_
  rintro _ w23 ⟨rfl, b23⟩
  have D23 := Lib.hid (D22.out.trans (b23.mono D22.out.size))
  clear b23 q23 D22
  go_wp2_with fail
  refine (q24 _).mono ?_
  rintro _ w24 ⟨rfl, b24⟩
  have D24 := Lib.hid (D23.out.trans (b24.mono D23.out.size))
  clear b24 q24 D23
  go_wp2_with fail
  refine (q25 _).mono ?_
  rintro _ w25 ⟨rfl, b25⟩
  have D25 := Lib.hid (D24.out.trans (b25.mono D24.out.size))
  clear b25 q25 D24
  go_wp2_with fail
  refine (q26 _).mono ?_
  rintro _ w26 ⟨rfl, b26⟩
  have D26 := Lib.hid (D25.out.trans (b26.mono D25.out.size))
  clear b26 q26 D25
  go_wp2_with fail
  refine (q27 _).mono ?_
  rintro _ w27 ⟨rfl, b27⟩
  have D27 := Lib.hid (D26.out.trans (b27.mono D26.out.size))
  clear b27 q27 D26
  go_wp2_with fail
  refine (q28 _).mono ?_
  rintro _ w28 ⟨rfl, b28⟩
  have D28 := Lib.hid (D27.out.trans (b28.mono D27.out.size))
  clear b28 q28 D27
  go_wp2_with fail
  refine (q29 _).mono ?_
  rintro _ w29 ⟨⟨A29, c29, rfl⟩, b29⟩
  have D29 := Lib.hid (D28.out.trans (b29.mono D28.out.size))
  clear b29 q29 D28
  go_wp2_with fail
  refine (q30 _).mono ?_
  rintro _ w30 ⟨⟨A30, c30, rfl⟩, b30⟩
  have D30 := Lib.hid (D29.out.trans (b30.mono D29.out.size))
  clear b30 q30 D29
  go_wp2_with fail
  refine (q31 _).mono ?_
  rintro _ w31 ⟨rfl, b31⟩
  have D31 := Lib.hid (D30.out.trans (b31.mono D30.out.size))
  clear b31 q31 D30
  go_wp2_with fail
  go_ret
  exact ⟨rfl, D31.out⟩
end Go.Proofs.Ythakdkpgobloiab
