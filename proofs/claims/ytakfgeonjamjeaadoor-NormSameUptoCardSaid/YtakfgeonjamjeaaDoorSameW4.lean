/- NormSame, walked. -/
import Derived.Test.YtakfgeonjamjeaaDoorTextRG
import Derived.Test.YtakfgeonjamjeaaDoorWakes4
namespace Go.Proofs.YtakfgeonjamjeaaDoor
open Go.RowKit Go.Lib

set_option maxRecDepth 100000 in
set_option maxHeartbeats 2000000 in
theorem same_walk4 (a b : ByteArray) (w : World) (ha : a.size ≤ 134217728) (hb : b.size ≤ 134217728) (hT : Utf8Tabs 0 1 w) :
    Calls Tryd.prog 6 #[.string a, .string b] w fun e w' => e = .returned (.bool true) ∧ Below w.heap.size w w' := by
  have HA := Lib.hid (NSame_any a b w (by omega) (by omega) hT)
  have HB := Lib.hid (fun w => rSame_any a b w ha hb)
  have HT := Lib.hid hT
  obtain ⟨x, hx⟩ : ∃ x, sameZ a.data.toList b.data.toList = x := ⟨_, rfl⟩
  rw [hx] at HA HB
  have hxx : (x == x) = true := by simp
  clear hx hT
  go_enter Tryd.func6, Tryd.ntmps6
  go_wp2_with fail
  refine HA.out.mono ?_
  rintro _ w1 ⟨rfl, b1⟩
  have Hb1 := Lib.hid b1
  clear b1
  go_wp2_with fail
  refine (HB.out w1).mono ?_
  rintro _ w2 ⟨rfl, b2⟩
  have Hb2 := Lib.hid (Hb1.out.trans (b2.mono Hb1.out.size))
  clear b2
  go_wp2_with fail
  refine (wakes4_any w2 (Utf8Tabs_below HT.out Hb2.out)).mono ?_
  rintro _ wz ⟨rfl, bz⟩
  have Hbz := Lib.hid (Hb2.out.trans (bz.mono Hb2.out.size))
  clear bz
  go_wp2_with fail
  go_ret
  exact ⟨rfl, Hbz.out⟩
end Go.Proofs.YtakfgeonjamjeaaDoor
