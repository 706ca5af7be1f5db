/- FoldLetters, walked. -/
import Derived.Test.YtjkakemlhhieoaaDoorWalkGF
import Derived.Test.YtjkakemlhhieoaaDoorRefL5
set_option linter.unusedSimpArgs false
set_option linter.unusedVariables false
namespace Go.Proofs.YtjkakemlhhieoaaDoor
open Go.RowKit Go.Lib

set_option maxRecDepth 100000 in
set_option maxHeartbeats 1000000 in
theorem letters5_walk (x : Int) (h0 : -2147483648 ≤ x) (h1 : x ≤ 2147483647) (w : World) (hE : Env5 w) :
    Calls Tryd.prog 3 #[.int .i32 x] w fun e w' => e = .returned (.bool true) ∧ Below w.heap.size w w' := by
  have HS := Lib.hid (fun W hP => Small_any x h0 h1 W hP)
  have HG := Lib.hid (fun W hP => Great_any x h0 h1 W hP)
  have HRS := Lib.hid (fun W => rSmall_any x h0 h1 W)
  have HRG := Lib.hid (fun W => rGreat_any x h0 h1 W)
  have HE := Lib.hid hE
  obtain ⟨a, ha⟩ : ∃ a, smallF x = a := ⟨_, rfl⟩
  obtain ⟨b, hb⟩ : ∃ b, greatF x = b := ⟨_, rfl⟩
  rw [ha] at HS HRS
  rw [hb] at HG HRG
  clear ha hb hE
  go_enter Tryd.func3, Tryd.ntmps3
  go_wp2_with fail
  refine (HS.out w HE.out.2).mono ?_
  rintro _ w1 ⟨rfl, b1⟩
  have HE1 := Lib.hid (HE.out.below b1)
  have Hb1 := Lib.hid b1
  clear b1
  go_wp2_with fail
  refine (HRS.out w1).mono ?_
  rintro _ w2 ⟨rfl, b2⟩
  have HE2 := Lib.hid (HE1.out.below b2)
  have Hb2 := Lib.hid (Hb1.out.trans (b2.mono Hb1.out.size))
  clear b2
  go_wp2_with fail
  refine (HG.out w2 HE2.out.2).mono ?_
  rintro _ w3 ⟨rfl, b3⟩
  have HE3 := Lib.hid (HE2.out.below b3)
  have Hb3 := Lib.hid (Hb2.out.trans (b3.mono Hb2.out.size))
  clear b3
  go_wp2_with fail
  refine (HRG.out w3).mono ?_
  rintro _ w4 ⟨rfl, b4⟩
  have HE4 := Lib.hid (HE3.out.below b4)
  have Hb4 := Lib.hid (Hb3.out.trans (b4.mono Hb3.out.size))
  clear b4
  go_wp2_with fail
  refine (works5_any w4 HE4.out).mono ?_
  rintro _ w5 ⟨rfl, b5⟩
  have Hb5 := Lib.hid (Hb4.out.trans (b5.mono Hb4.out.size))
  clear b5
  go_wp2_with fail
  go_ret
  exact ⟨rfl, Hb5.out⟩
end Go.Proofs.YtjkakemlhhieoaaDoor
