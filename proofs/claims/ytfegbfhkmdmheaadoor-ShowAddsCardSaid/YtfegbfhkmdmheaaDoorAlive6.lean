/- The law's own helpers: shows, alive: walked. MADE: tools/mkalive6.py. -/
import Derived.Test.YtfegbfhkmdmheaaDoorShKG
import Derived.Test.YtfegbfhkmdmheaaDoorPlG
set_option linter.unusedSimpArgs false
set_option linter.unusedVariables false
namespace Go.Proofs.YtfegbfhkmdmheaaDoor
open Go.RowKit Go.Lib

theorem ba_self6 (s : ByteArray) : (⟨s.data.toList.toArray⟩ : ByteArray) = s := ba6 (by simp)
set_option maxRecDepth 100000 in
set_option maxHeartbeats 1000000 in
theorem shows_yes (s want : ByteArray) (col : Int) (n : Nat) (tb : Int) (wd : Bool) (wt : Int) (jn rz : Bool) (w : World) (hs : s.size ≤ 1073741824) (h0 : -9223372036854775808 ≤ col) (h1 : col ≤ 9223372036854775807) (hT : Utf8Tabs 0 1 w)
    (h : textZ rz wd tb col.toNat s.data.toList = (want.data.toList, n)) :
    Calls Tryd.prog 49 #[.string s, .int .i64 col, lookV tb wd wt jn rz, .string want, .int .i64 ((n : Nat) : Int)] w fun e w' => e = .returned (.bool true) ∧ Below w.heap.size w w' := by
  have hx := fun W hT => ptext_any s col tb wd wt jn rz W hs h0 h1 hT
  rw [h] at hx
  simp only [ba_self6] at hx
  have HX := Lib.hid hx
  have hb : Below w.heap.size w (w.alloc (.cells #[.int .i64 tb, .bool wd, .int .i8 wt, .bool jn, .bool rz] 46)) := (Below.refl _ w).alloc (Nat.le_refl _) _
  have hTW : Utf8Tabs 0 1 (w.alloc (.cells #[.int .i64 tb, .bool wd, .int .i8 wt, .bool jn, .bool rz] 46)) := Utf8Tabs_below hT hb
  have hsz : w.heap.size < (w.alloc (.cells #[.int .i64 tb, .bool wd, .int .i8 wt, .bool jn, .bool rz] 46)).heap.size := by simp
  have Hb := Lib.hid hb
  have HT := Lib.hid hTW
  clear hx h hT hb hTW
  go_enter Tryd.func49, Tryd.ntmps49
  go_wp2_with fail
  refine (HX.out _ HT.out).mono ?_
  rintro _ w1 ⟨rfl, b1⟩
  have Hb1 := Lib.hid (Hb.out.trans (b1.mono (by omega)))
  clear b1
  go_wp2
  go_ret
  exact ⟨rfl, Hb1.out⟩

theorem al6_0 : textZ false false 0 0 [255] = ([60, 102, 102, 62], 4) := by decide +kernel
theorem al6_1 : textZ false false 0 5 [9] = ([32, 32, 32], 3) := by decide +kernel
theorem al6_2 : textZ true false 0 0 [1] = ([94, 65], 2) := by decide +kernel
theorem al6_3 : textZ true false 0 0 [226, 128, 174] = ([60, 50, 48, 50, 101, 62], 6) := by decide +kernel
theorem al6_4 : textZ true false 0 0 [97, 204, 129, 98] = ([97, 204, 129], 1) := by decide +kernel
theorem al6_5 : wideZ false false 0 ⟨#[97, 9, 98]⟩ 0 = 9 := by decide +kernel
theorem al6_6 : cutZ false false 0 ⟨#[97, 228, 184, 150, 98]⟩ 2 = 1 := by decide +kernel
theorem al6_7 : plainZ ⟨#[97, 10, 128]⟩ = [97, 94, 74, 60, 56, 48, 62] := by decide +kernel
theorem al6_8 : textZ true false 0 0 [228, 184, 150] = ([228, 184, 150], 2) := by decide +kernel
set_option maxRecDepth 100000 in
set_option maxHeartbeats 2000000 in
theorem alive6_any (w : World) (hT : Utf8Tabs 0 1 w) : Calls Tryd.prog 21 #[] w fun e w' => e = .returned (.bool true) ∧ Below w.heap.size w w' := by
  have H0 := Lib.hid (fun W hT => shows_yes ⟨#[255]⟩ ⟨#[60, 102, 102, 62]⟩ 0 4 0 false 0 false false W (by decide) (by omega) (by omega) hT al6_0)
  have H1 := Lib.hid (fun W hT => shows_yes ⟨#[9]⟩ ⟨#[32, 32, 32]⟩ 5 3 0 false 0 false false W (by decide) (by omega) (by omega) hT al6_1)
  have H2 := Lib.hid (fun W hT => shows_yes ⟨#[1]⟩ ⟨#[94, 65]⟩ 0 2 0 false 0 false true W (by decide) (by omega) (by omega) hT al6_2)
  have H3 := Lib.hid (fun W hT => shows_yes ⟨#[226, 128, 174]⟩ ⟨#[60, 50, 48, 50, 101, 62]⟩ 0 6 0 false 0 false true W (by decide) (by omega) (by omega) hT al6_3)
  have H4 := Lib.hid (fun W hT => shows_yes ⟨#[97, 204, 129, 98]⟩ ⟨#[97, 204, 129]⟩ 0 1 0 false 0 false true W (by decide) (by omega) (by omega) hT al6_4)
  have h5 := fun W hT => pwide_any ⟨#[97, 9, 98]⟩ 0 0 false 0 false false W (by decide) (by omega) (by omega) hT
  rw [show ((0 : Int)).toNat = 0 from rfl, al6_5] at h5
  have H5 := Lib.hid h5
  clear h5
  have h6 := fun W hT => pcut_any ⟨#[97, 228, 184, 150, 98]⟩ 2 0 false 0 false false W (by decide) hT
  rw [al6_6] at h6
  have H6 := Lib.hid h6
  clear h6
  have h7 := fun W hT => pplain_any ⟨#[97, 10, 128]⟩ W (by decide) hT
  rw [al6_7] at h7
  have H7 := Lib.hid h7
  clear h7
  have H8 := Lib.hid (fun W hT => shows_yes ⟨#[228, 184, 150]⟩ ⟨#[228, 184, 150]⟩ 0 2 0 false 0 false true W (by decide) (by omega) (by omega) hT al6_8)
  have hL := LookAt.new w 46 0 false 0 false true
  have hb : Below w.heap.size w (w.alloc (.cells #[.int .i64 0, .bool false, .int .i8 0, .bool false, .bool true] 46)) := (Below.refl _ w).alloc (Nat.le_refl _) _
  have hTW := Utf8Tabs_below hT hb
  obtain ⟨w0, hW⟩ : ∃ W, w.alloc (.cells #[.int .i64 0, .bool false, .int .i8 0, .bool false, .bool true] 46) = W := ⟨_, rfl⟩
  have hs0 : w.heap.size < w0.heap.size := by rw [← hW]; simp
  rw [hW] at hL hb hTW
  obtain ⟨B, hB⟩ : ∃ B, w.heap.size = B := ⟨_, rfl⟩
  rw [hB] at hL hb hs0 ⊢
  have L0 := Lib.hid hL
  have Hb0 := Lib.hid hb
  have T0 := Lib.hid hTW
  clear hL hb hTW hT
  go_enter Tryd.func21, Tryd.ntmps21
  go_wp2_with fail
  try rw [hW]
  clear hW
  refine (H0.out _ T0.out).mono ?_
  rintro _ w1 ⟨rfl, b1⟩
  have L1 := Lib.hid (L0.out.below b1 hs0)
  have Hb1 := Lib.hid (Hb0.out.trans (b1.mono (by omega)))
  have T1 := Lib.hid (Utf8Tabs_below T0.out b1)
  have hs1 : B < w1.heap.size := by have := b1.size; omega
  clear b1 T0 Hb0 L0
  obtain ⟨c0, c1, c2, c3, c4⟩ := L1.out
  go_wp2_with fail
  refine (H1.out _ T1.out).mono ?_
  rintro _ w2 ⟨rfl, b2⟩
  have L2 := Lib.hid (L1.out.below b2 hs1)
  have Hb2 := Lib.hid (Hb1.out.trans (b2.mono (by omega)))
  have T2 := Lib.hid (Utf8Tabs_below T1.out b2)
  have hs2 : B < w2.heap.size := by have := b2.size; omega
  clear b2 T1 Hb1 L1
  obtain ⟨c0, c1, c2, c3, c4⟩ := L2.out
  go_wp2_with fail
  refine (H2.out _ T2.out).mono ?_
  rintro _ w3 ⟨rfl, b3⟩
  have L3 := Lib.hid (L2.out.below b3 hs2)
  have Hb3 := Lib.hid (Hb2.out.trans (b3.mono (by omega)))
  have T3 := Lib.hid (Utf8Tabs_below T2.out b3)
  have hs3 : B < w3.heap.size := by have := b3.size; omega
  clear b3 T2 Hb2 L2
  obtain ⟨c0, c1, c2, c3, c4⟩ := L3.out
  go_wp2_with fail
  refine (H3.out _ T3.out).mono ?_
  rintro _ w4 ⟨rfl, b4⟩
  have L4 := Lib.hid (L3.out.below b4 hs3)
  have Hb4 := Lib.hid (Hb3.out.trans (b4.mono (by omega)))
  have T4 := Lib.hid (Utf8Tabs_below T3.out b4)
  have hs4 : B < w4.heap.size := by have := b4.size; omega
  clear b4 T3 Hb3 L3
  obtain ⟨c0, c1, c2, c3, c4⟩ := L4.out
  go_wp2_with fail
  refine (H4.out _ T4.out).mono ?_
  rintro _ w5 ⟨rfl, b5⟩
  have L5 := Lib.hid (L4.out.below b5 hs4)
  have Hb5 := Lib.hid (Hb4.out.trans (b5.mono (by omega)))
  have T5 := Lib.hid (Utf8Tabs_below T4.out b5)
  have hs5 : B < w5.heap.size := by have := b5.size; omega
  clear b5 T4 Hb4 L4
  obtain ⟨c0, c1, c2, c3, c4⟩ := L5.out
  go_wp2_with fail
  refine (H5.out _ T5.out).mono ?_
  rintro _ w6 ⟨rfl, b6⟩
  have L6 := Lib.hid (L5.out.below b6 hs5)
  have Hb6 := Lib.hid (Hb5.out.trans (b6.mono (by omega)))
  have T6 := Lib.hid (Utf8Tabs_below T5.out b6)
  have hs6 : B < w6.heap.size := by have := b6.size; omega
  clear b6 T5 Hb5 L5
  obtain ⟨c0, c1, c2, c3, c4⟩ := L6.out
  go_wp2_with fail
  refine (H6.out _ T6.out).mono ?_
  rintro _ w7 ⟨rfl, b7⟩
  have L7 := Lib.hid (L6.out.below b7 hs6)
  have Hb7 := Lib.hid (Hb6.out.trans (b7.mono (by omega)))
  have T7 := Lib.hid (Utf8Tabs_below T6.out b7)
  have hs7 : B < w7.heap.size := by have := b7.size; omega
  clear b7 T6 Hb6 L6
  obtain ⟨c0, c1, c2, c3, c4⟩ := L7.out
  go_wp2_with fail
  refine (H7.out _ T7.out).mono ?_
  rintro _ w8 ⟨rfl, b8⟩
  have L8 := Lib.hid (L7.out.below b8 hs7)
  have Hb8 := Lib.hid (Hb7.out.trans (b8.mono (by omega)))
  have T8 := Lib.hid (Utf8Tabs_below T7.out b8)
  have hs8 : B < w8.heap.size := by have := b8.size; omega
  clear b8 T7 Hb7 L7
  obtain ⟨c0, c1, c2, c3, c4⟩ := L8.out
  go_wp2_with fail
  refine (H8.out _ T8.out).mono ?_
  rintro _ w9 ⟨rfl, b9⟩
  have L9 := Lib.hid (L8.out.below b9 hs8)
  have Hb9 := Lib.hid (Hb8.out.trans (b9.mono (by omega)))
  have T9 := Lib.hid (Utf8Tabs_below T8.out b9)
  have hs9 : B < w9.heap.size := by have := b9.size; omega
  clear b9 T8 Hb8 L8
  obtain ⟨c0, c1, c2, c3, c4⟩ := L9.out
  go_wp2_with fail
  go_ret
  exact ⟨rfl, Hb9.out⟩
end Go.Proofs.YtfegbfhkmdmheaaDoor
