/- works: a few characters are known. -/
import Derived.Test.YthakdkpgobloiabTable
import Derived.Deep.RegionHeld3
namespace Go.Proofs.Ythakdkpgobloiab
open Go.RowKit Go.Lib

set_option maxRecDepth 100000 in
set_option maxHeartbeats 4000000 in
theorem works_any (w : World) : Calls Try.prog 14 #[] w fun e w' => e = .returned (.bool true) ∧ Below w.heap.size w w' := by
  have e1 : (pairOf 41) = (40, false, true) := by decide +kernel
  have p1 := fun W => Pair_any 41 W
  rw [e1] at p1
  have e2 : spansFrom (tabAt 4) 3 = [(1600, 1600), (8205, 8205)] := by decide +kernel
  have p2 := fun W => Spans_any 4 3 W
  rw [e2] at p2
  have p3 := fun W => Kind_any 97 W
  rw [show cls kindsL (char 97) = 3 by decide +kernel] at p3
  have p4 := fun W => Dir_any 1488 W
  rw [show cls dirsL (char 1488) = 1 by decide +kernel] at p4
  have p5 := fun W => Wide_any 19968 false W
  rw [show wideOf (cls widthsL (char 19968)) false = 2 by decide +kernel] at p5
  have p6 := fun W => Mark_any 769 W
  rw [show cls marksL (char 769) = 230 by decide +kernel] at p6
  have p7 := fun W => Join_any 1576 W
  rw [show cls joinsL (char 1576) = 2 by decide +kernel] at p7
  have p8 := fun W => Break_any 32 W
  rw [show cls breaksL (char 32) = 1 by decide +kernel] at p8
  have p9 := fun W => Mirror_any 40 W
  rw [show mirrorOf 40 = 41 by decide +kernel] at p9
  clear e1 e2
  go_enter Try.func14, Try.ntmps14
  go_wp2_with fail
  refine (p1 _).mono ?_
  rintro _ w1 ⟨rfl, b1⟩
  go_wp2_with fail
  refine (p2 _).mono ?_
  rintro _ w2 ⟨u, rfl, own2, b2⟩
  obtain ⟨g, cap, rfl, hg, hlt⟩ := own2.form (by decide)
  have c2 : w2.cell? ⟨g, 2, none⟩ = some (.int .i32 8205) := own2.cells (g := g) rfl 2 _ rfl
  have c3 : w2.cell? ⟨g, 3, none⟩ = some (.int .i32 8205) := own2.cells (g := g) rfl 3 _ rfl
  have C2 := Lib.hid c2
  have C3 := Lib.hid c3
  have B1 := Lib.hid b1
  have S1 := b1.size
  have B2 := Lib.hid (b1.trans (b2.mono b1.size))
  have S2 := b2.size
  clear c2 c3 b1 b2 own2
  go_wp2_with fail
  refine (p3 _).mono ?_
  rintro _ w3 ⟨rfl, b3⟩
  have S3 := b3.size
  have D3 := Lib.hid b3
  clear b3
  go_wp2_with fail
  refine (p4 _).mono ?_
  rintro _ w4 ⟨rfl, b4⟩
  have S4 := b4.size
  have D4 := Lib.hid (D3.out.trans (b4.mono (by omega)))
  clear b4
  go_wp2_with fail
  refine (p5 _).mono ?_
  rintro _ w5 ⟨rfl, b5⟩
  have S5 := b5.size
  have D5 := Lib.hid (D4.out.trans (b5.mono (by omega)))
  clear b5
  go_wp2_with fail
  refine (p6 _).mono ?_
  rintro _ w6 ⟨rfl, b6⟩
  have S6 := b6.size
  have D6 := Lib.hid (D5.out.trans (b6.mono (by omega)))
  clear b6
  go_wp2_with fail
  refine (p7 _).mono ?_
  rintro _ w7 ⟨rfl, b7⟩
  have S7 := b7.size
  have D7 := Lib.hid (D6.out.trans (b7.mono (by omega)))
  clear b7
  go_wp2_with fail
  refine (p8 _).mono ?_
  rintro _ w8 ⟨rfl, b8⟩
  have S8 := b8.size
  have D8 := Lib.hid (D7.out.trans (b8.mono (by omega)))
  clear b8
  go_wp2_with fail
  refine (p9 _).mono ?_
  rintro _ w9 ⟨rfl, b9⟩
  have S9 := b9.size
  have D9 := Lib.hid (D8.out.trans (b9.mono (by omega)))
  clear b9
  have c2 : w9.cell? ⟨g, 2, none⟩ = some (.int .i32 8205) := (D9.out.cell (p := ⟨g, 2, none⟩) hlt).trans C2.out
  have c3 : w9.cell? ⟨g, 3, none⟩ = some (.int .i32 8205) := (D9.out.cell (p := ⟨g, 3, none⟩) hlt).trans C3.out
  go_wp2_with fail
  go_ret
  exact ⟨rfl, B2.out.trans (D9.out.mono (by omega))⟩
end Go.Proofs.Ythakdkpgobloiab
