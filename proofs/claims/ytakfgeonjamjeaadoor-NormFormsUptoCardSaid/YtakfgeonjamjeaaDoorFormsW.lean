/- NormForms, walked. -/
import Derived.Test.YtakfgeonjamjeaaDoorTogRG
import Derived.Test.YtakfgeonjamjeaaDoorWakes4
namespace Go.Proofs.YtakfgeonjamjeaaDoor
open Go.RowKit Go.Lib

set_option maxRecDepth 100000 in
set_option maxHeartbeats 2000000 in
theorem forms_walk (s : ByteArray) (w : World) (hs : s.size ≤ 134217728) (hT : Utf8Tabs 0 1 w) :
    Calls Tryd.prog 5 #[.string s] w fun e w' => e = .returned (.bool true) ∧ Below w.heap.size w w' := by
  have HA := Lib.hid (Apart_any s w (by omega) hT)
  have HB := Lib.hid (fun w => rApart_any s w hs)
  have HC := Lib.hid (fun w hT => Together_any s w (by omega) hT)
  have HD := Lib.hid (fun w => rtog_any s w hs)
  have HT := Lib.hid hT
  obtain ⟨x, hx⟩ : ∃ x : ByteArray, ⟨(apartS s.data.toList).toArray⟩ = x := ⟨_, rfl⟩
  obtain ⟨y, hy⟩ : ∃ y : ByteArray, ⟨(togS s.data.toList).toArray⟩ = y := ⟨_, rfl⟩
  rw [hx] at HA HB
  rw [hy] at HC HD
  clear hx hy hT
  go_enter Tryd.func5, Tryd.ntmps5
  go_wp2_with fail
  refine HA.out.mono ?_
  rintro _ w1 ⟨rfl, b1⟩
  have Hb1 := Lib.hid b1
  clear b1
  go_wp2_with fail
  refine (HB.out w1).mono ?_
  rintro _ w2 ⟨rfl, b2⟩
  have Hb2 := Lib.hid (Hb1.out.trans (b2.mono Hb1.out.size))
  clear b2
  go_wp2_with fail
  refine (HC.out w2 (Utf8Tabs_below HT.out Hb2.out)).mono ?_
  rintro _ w3 ⟨rfl, b3⟩
  have Hb3 := Lib.hid (Hb2.out.trans (b3.mono Hb2.out.size))
  clear b3
  go_wp2_with fail
  refine (HD.out w3).mono ?_
  rintro _ w4 ⟨rfl, b4⟩
  have Hb4 := Lib.hid (Hb3.out.trans (b4.mono Hb3.out.size))
  clear b4
  go_wp2_with fail
  refine (wakes4_any w4 (Utf8Tabs_below HT.out Hb4.out)).mono ?_
  rintro _ wz ⟨rfl, bz⟩
  have Hbz := Lib.hid (Hb4.out.trans (bz.mono Hb4.out.size))
  clear bz
  go_wp2_with fail
  go_ret
  exact ⟨rfl, Hbz.out⟩
end Go.Proofs.YtakfgeonjamjeaaDoor
