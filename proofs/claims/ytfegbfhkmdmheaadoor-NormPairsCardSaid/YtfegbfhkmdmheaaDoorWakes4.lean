/- What the document says of a few letters. -/
import Derived.Test.YtfegbfhkmdmheaaDoorCompG
import Derived.Test.YtfegbfhkmdmheaaDoorRowRG
import Derived.Test.YtfegbfhkmdmheaaDoorSame4
set_option linter.unusedSimpArgs false
set_option linter.unusedVariables false
namespace Go.Proofs.YtfegbfhkmdmheaaDoor
open Go.RowKit Go.Lib

theorem wk1 : splitZ 233 = [101, 769] := by decide +kernel
theorem wk2 : pairZ 101 769 = 233 := by decide +kernel
theorem wk3 : apartS [195, 169] = [101, 204, 129] := by decide +kernel
theorem wk4 : togS [101, 204, 129] = [195, 169] := by decide +kernel
theorem wk5 : sameZ [195, 169] [101, 204, 129] = true := by decide +kernel
theorem wk6 : sameZ [97] [98] = false := by decide +kernel
theorem wk7 : apartS [97, 255] = [97, 255] := by decide +kernel

set_option maxRecDepth 100000 in
set_option maxHeartbeats 2000000 in
theorem wakes4_any (w : World) (hT : Utf8Tabs 0 1 w) : Calls Tryd.prog 18 #[] w fun e w' => e = .returned (.bool true) ∧ Below w.heap.size w w' := by
  have H1 := SplitN_any 233 w
  rw [wk1] at H1
  have HS := Lib.hid H1
  have HP := Lib.hid (fun w => by have h := PairN_any 101 769 w (by decide) (by decide); rw [wk2] at h; exact h)
  have HA := Lib.hid (fun w hT => by have h := Apart_any ⟨#[195, 169]⟩ w (by decide) hT; rw [show apartS (ByteArray.mk #[195, 169]).data.toList = [101, 204, 129] from wk3] at h; exact h)
  have HG := Lib.hid (fun w hT => by have h := Together_any ⟨#[101, 204, 129]⟩ w (by decide) hT; rw [show togS (ByteArray.mk #[101, 204, 129]).data.toList = [195, 169] from wk4] at h; exact h)
  have HE := Lib.hid (fun w hT => by have h := NSame_any ⟨#[195, 169]⟩ ⟨#[101, 204, 129]⟩ w (by decide) (by decide) hT; rw [show sameZ (ByteArray.mk #[195, 169]).data.toList (ByteArray.mk #[101, 204, 129]).data.toList = true from wk5] at h; exact h)
  have HN := Lib.hid (fun w hT => by have h := NSame_any ⟨#[97]⟩ ⟨#[98]⟩ w (by decide) (by decide) hT; rw [show sameZ (ByteArray.mk #[97]).data.toList (ByteArray.mk #[98]).data.toList = false from wk6] at h; exact h)
  have HO := Lib.hid (fun A n c w h h2 h3 => Order_any [97] A n c w h h2 h3)
  have HB := Lib.hid (fun w hT => by have h := Apart_any ⟨#[97, 255]⟩ w (by decide) hT; rw [show apartS (ByteArray.mk #[97, 255]).data.toList = [97, 255] from wk7] at h; exact h)
  have HT := Lib.hid hT
  clear H1 hT
  go_enter Tryd.func18, Tryd.ntmps18
  go_wp2_with fail
  refine HS.out.mono ?_
  rintro _ w1 ⟨v1, rfl, hown, b1⟩
  obtain ⟨A, c, rfl, hc1, hc2⟩ := own_shape hown
  obtain ⟨g, cap, hv, _, _⟩ := hown.form (by decide)
  have hA : A = some ⟨g, 0, none⟩ := by injection hv
  subst hA
  have hcell := hown.cells (g := g) rfl
  have c0 : w1.cell? ⟨g, 0, none⟩ = some (.int .i32 101) := hcell 0 _ rfl
  have c1 : w1.cell? ⟨g, 1, none⟩ = some (.int .i32 769) := by have := hcell 1 _ rfl; simpa [Addr.add] using this
  have Hb1 := Lib.hid b1
  have HT1 := Lib.hid (Utf8Tabs_below HT.out b1)
  clear hown hcell b1 hv
  go_wp2_with fail
  refine (HP.out _).mono ?_
  rintro _ w2 ⟨rfl, b2⟩
  have Hb2 := Lib.hid (Hb1.out.trans (b2.mono Hb1.out.size))
  have HT2 := Lib.hid (Utf8Tabs_below HT.out Hb2.out)
  clear b2
  go_wp2_with fail
  refine (HA.out w2 HT2.out).mono ?_
  rintro _ w3 ⟨rfl, b3⟩
  have Hb3 := Lib.hid (Hb2.out.trans (b3.mono Hb2.out.size))
  have HT3 := Lib.hid (Utf8Tabs_below HT.out Hb3.out)
  clear b3
  go_wp2_with fail
  refine (HG.out w3 HT3.out).mono ?_
  rintro _ w4 ⟨rfl, b4⟩
  have Hb4 := Lib.hid (Hb3.out.trans (b4.mono Hb3.out.size))
  have HT4 := Lib.hid (Utf8Tabs_below HT.out Hb4.out)
  clear b4
  go_wp2_with fail
  refine (HE.out w4 HT4.out).mono ?_
  rintro _ w5 ⟨rfl, b5⟩
  have Hb5 := Lib.hid (Hb4.out.trans (b5.mono Hb4.out.size))
  have HT5 := Lib.hid (Utf8Tabs_below HT.out Hb5.out)
  clear b5
  go_wp2_with fail
  refine (HN.out w5 HT5.out).mono ?_
  rintro _ w6 ⟨rfl, b6⟩
  have Hb6 := Lib.hid (Hb5.out.trans (b6.mono Hb5.out.size))
  have HT6 := Lib.hid (Utf8Tabs_below HT.out Hb6.out)
  clear b6
  go_wp2_with fail
  obtain ⟨w7, hw7⟩ : ∃ w7, w6.alloc (.cells #[.int .i32 97] 21) = w7 := ⟨_, rfl⟩
  have hh : w7.heap[w6.heap.size]? = some (.cells #[.int .i32 97] 21 (0, 0)) := by rw [← hw7]; exact (MapKept.heap_alloc _ _).1
  have hlt : w6.heap.size < w7.heap.size := (Array.getElem?_eq_some_iff.1 hh).1
  have hb7 : Below w6.heap.size w6 w7 := by rw [← hw7]; exact (Below.refl _ w6).alloc (Nat.le_refl _) _
  have hrd : Rd w7 w7.heap.size 1 (some ⟨w6.heap.size, 0, none⟩) 1 (runes [97]) := ⟨rfl, .inr ⟨_, rfl, hlt, fun j u hu => by
    cases j with
    | zero =>
      have e : (Value.int .i32 97) = u := by simpa using hu
      subst e
      simp [Addr.add, World.cell?, hh]
    | succ j => simp at hu⟩⟩
  have Hb7 := Lib.hid (Hb6.out.trans (hb7.mono Hb6.out.size))
  have Hrd := Lib.hid hrd
  clear hh hrd hb7 hlt
  rw [hw7]
  refine (HO.out _ _ 1 _ Hrd.out (fun h => by cases h) (by decide)).mono ?_
  rintro _ w8 ⟨A8, c8, rfl, _, b8⟩
  have Hb8 := Lib.hid (Hb7.out.trans (b8.mono Hb7.out.size))
  have HT8 := Lib.hid (Utf8Tabs_below HT.out Hb8.out)
  clear b8
  go_wp2_with fail
  refine (HB.out w8 HT8.out).mono ?_
  rintro _ w9 ⟨rfl, b9⟩
  have Hb9 := Lib.hid (Hb8.out.trans (b9.mono Hb8.out.size))
  clear b9
  go_wp2_with fail
  go_ret
  exact ⟨rfl, Hb9.out⟩
end Go.Proofs.YtfegbfhkmdmheaaDoor
