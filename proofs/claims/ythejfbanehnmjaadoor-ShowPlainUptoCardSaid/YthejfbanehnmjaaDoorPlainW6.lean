/- ShowPlain, walked. -/
import Derived.Test.YthejfbanehnmjaaDoorAlive6
import Derived.Test.YthejfbanehnmjaaDoorRfCDG
set_option linter.unusedSimpArgs false
set_option linter.unusedVariables false
namespace Go.Proofs.YthejfbanehnmjaaDoor
open Go.RowKit Go.Lib

set_option maxRecDepth 100000 in
set_option maxHeartbeats 2000000 in
theorem plain6_walk (s : ByteArray) (w : World) (hs : s.size ≤ 1073741824) (hT : Utf8Tabs 0 1 w) :
    Calls Tryd.prog 6 #[.string s] w fun e w' => e = .returned (.bool true) ∧ Below w.heap.size w w' := by
  have hP := fun W hT => pplain_any s W hs hT
  have hD := fun W => rplain6_any s W hs
  obtain ⟨R, hR⟩ : ∃ R : ByteArray, (⟨(plainZ s).toArray⟩ : ByteArray) = R := ⟨_, rfl⟩
  simp only [hR] at hP hD
  have HP := Lib.hid hP
  have HD := Lib.hid hD
  have HA := Lib.hid (fun W hT => alive6_any W hT)
  have HT := Lib.hid hT
  clear hP hD hR hT
  go_enter Tryd.func6, Tryd.ntmps6
  go_wp2_with fail
  refine (HP.out _ HT.out).mono ?_
  rintro _ w1 ⟨rfl, b1⟩
  have H1 := Lib.hid b1
  clear b1
  go_wp2_with fail
  refine (HD.out _).mono ?_
  rintro _ w2 ⟨rfl, b2⟩
  have H2 := Lib.hid (H1.out.trans (b2.mono H1.out.size))
  clear b2
  go_wp2_with fail
  refine (HA.out _ (Utf8Tabs_below HT.out H2.out)).mono ?_
  rintro _ w3 ⟨rfl, b3⟩
  have H3 := Lib.hid (H2.out.trans (b3.mono H2.out.size))
  clear b3
  go_wp2
  go_ret
  exact ⟨rfl, H3.out⟩
end Go.Proofs.YthejfbanehnmjaaDoor
