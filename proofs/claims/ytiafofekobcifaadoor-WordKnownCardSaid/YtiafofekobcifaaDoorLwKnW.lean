/- Layer 12, the law WordKnown, over the program's contracts. (Made by tools/mkknown12.py.) -/
import Derived.Test.YtiafofekobcifaaDoorHyW
set_option linter.unusedSimpArgs false
set_option linter.unusedVariables false
namespace Go.Proofs.YtiafofekobcifaaDoor
open Go.RowKit Go.Lib

section texts
theorem kw_0 : (wds ⟨#[97, 39, 49, 32, 49, 39, 97, 32, 39, 97, 39]⟩).map (·.2) = [⟨#[97]⟩, ⟨#[39]⟩, ⟨#[49]⟩, ⟨#[32]⟩, ⟨#[49]⟩, ⟨#[39]⟩, ⟨#[97]⟩, ⟨#[32]⟩, ⟨#[39]⟩, ⟨#[97]⟩, ⟨#[39]⟩] := by decide +kernel
theorem kw_1 : (wds ⟨#[49, 44, 48, 48, 48, 46, 53, 32, 49, 46, 32, 46, 53, 32, 97, 46, 98]⟩).map (·.2) = [⟨#[49, 44, 48, 48, 48, 46, 53]⟩, ⟨#[32]⟩, ⟨#[49]⟩, ⟨#[46]⟩, ⟨#[32]⟩, ⟨#[46]⟩, ⟨#[53]⟩, ⟨#[32]⟩, ⟨#[97]⟩, ⟨#[46]⟩, ⟨#[98]⟩] := by decide +kernel
theorem kw_2 : (wds ⟨#[97, 39, 39, 98, 44, 32, 97, 58, 98, 32, 120, 95, 49]⟩).map (·.2) = [⟨#[97]⟩, ⟨#[39]⟩, ⟨#[39]⟩, ⟨#[98]⟩, ⟨#[44]⟩, ⟨#[32]⟩, ⟨#[97, 58, 98]⟩, ⟨#[32]⟩, ⟨#[120, 95, 49]⟩] := by decide +kernel
theorem kw_3 : (wds ⟨#[228, 184, 150, 228, 184, 151, 32, 32]⟩).map (·.2) = [⟨#[228, 184, 150]⟩, ⟨#[228, 184, 151]⟩, ⟨#[32, 32]⟩] := by decide +kernel
theorem kw_4 : (wds ⟨#[97, 204, 129, 255, 98]⟩).map (·.2) = [⟨#[97, 204, 129]⟩, ⟨#[255]⟩, ⟨#[98]⟩] := by decide +kernel
theorem kw_5 : (wds ⟨#[9, 32, 10, 32]⟩).map (·.2) = [⟨#[9, 32]⟩, ⟨#[10]⟩, ⟨#[32]⟩] := by decide +kernel
theorem kw_6 : (wds ⟨#[97, 226, 128, 153, 98]⟩).map (·.2) = [⟨#[97, 226, 128, 153, 98]⟩] := by decide +kernel
theorem kw_7 : (wds ⟨#[97, 39, 204, 129, 98]⟩).map (·.2) = [⟨#[97]⟩, ⟨#[39, 204, 129]⟩, ⟨#[98]⟩] := by decide +kernel
theorem kw_8 : (wds ⟨#[]⟩).map (·.2) = [] := by decide +kernel
theorem kw_9 : atW ⟨#[97, 32, 98, 99]⟩ 1 = (1, 2) := by decide +kernel
theorem kw_10 : atW ⟨#[97, 32, 98, 99]⟩ 9 = (4, 4) := by decide +kernel
theorem kw_11 : nextW ⟨#[97, 32, 98]⟩ 2 = 3 := by decide +kernel
theorem kw_12 : nextW ⟨#[97, 32, 98]⟩ (-1) = 2 := by decide +kernel
theorem kw_13 : prevW ⟨#[97, 32, 98]⟩ 2 = 0 := by decide +kernel
theorem kw_14 : prevW ⟨#[97, 32, 98]⟩ 0 = 0 := by decide +kernel
theorem kw_15 : nextW ⟨#[32, 32, 97]⟩ (-5) = 2 := by decide +kernel
theorem kw_16 : prevW ⟨#[32, 97, 32]⟩ 99 = 1 := by decide +kernel
theorem kw_17 : isW ⟨#[]⟩ 0 = true := by decide +kernel
theorem kw_18 : isW ⟨#[97]⟩ 2 = false := by decide +kernel
end texts
set_option maxRecDepth 100000 in
set_option maxHeartbeats 4000000 in
theorem wordKnown_any (H : WordP) (w0 : World) (hT : Utf8Tabs 0 1 w0) : Calls Tryd.prog 7 #[] w0 fun e w' => e = .returned (.bool true) ∧ Below w0.heap.size w0 w' := by
  have h0 := Lib.hid (fun w A n c hA hT => row12_true H ⟨#[97, 39, 49, 32, 49, 39, 97, 32, 39, 97, 39]⟩ w A n c _ hA kw_0 (by decide) hT)
  have h1 := Lib.hid (fun w A n c hA hT => row12_true H ⟨#[49, 44, 48, 48, 48, 46, 53, 32, 49, 46, 32, 46, 53, 32, 97, 46, 98]⟩ w A n c _ hA kw_1 (by decide) hT)
  have h2 := Lib.hid (fun w A n c hA hT => row12_true H ⟨#[97, 39, 39, 98, 44, 32, 97, 58, 98, 32, 120, 95, 49]⟩ w A n c _ hA kw_2 (by decide) hT)
  have h3 := Lib.hid (fun w A n c hA hT => row12_true H ⟨#[228, 184, 150, 228, 184, 151, 32, 32]⟩ w A n c _ hA kw_3 (by decide) hT)
  have h4 := Lib.hid (fun w A n c hA hT => row12_true H ⟨#[97, 204, 129, 255, 98]⟩ w A n c _ hA kw_4 (by decide) hT)
  have h5 := Lib.hid (fun w A n c hA hT => row12_true H ⟨#[9, 32, 10, 32]⟩ w A n c _ hA kw_5 (by decide) hT)
  have h6 := Lib.hid (fun w A n c hA hT => row12_true H ⟨#[97, 226, 128, 153, 98]⟩ w A n c _ hA kw_6 (by decide) hT)
  have h7 := Lib.hid (fun w A n c hA hT => row12_true H ⟨#[97, 39, 204, 129, 98]⟩ w A n c _ hA kw_7 (by decide) hT)
  have h8 := Lib.hid (fun w A n c hA hT => row12_true H ⟨#[]⟩ w A n c _ hA kw_8 (by decide) hT)
  have g9 := fun w hT => H.at_ ⟨#[97, 32, 98, 99]⟩ 1 w (by decide) hT
  rw [kw_9] at g9
  have h9 := Lib.hid g9
  clear g9
  have g10 := fun w hT => H.at_ ⟨#[97, 32, 98, 99]⟩ 9 w (by decide) hT
  rw [kw_10] at g10
  have h10 := Lib.hid g10
  clear g10
  have g11 := fun w hT => H.next ⟨#[97, 32, 98]⟩ 2 w (by decide) hT
  rw [kw_11] at g11
  have h11 := Lib.hid g11
  clear g11
  have g12 := fun w hT => H.next ⟨#[97, 32, 98]⟩ (-1) w (by decide) hT
  rw [kw_12] at g12
  have h12 := Lib.hid g12
  clear g12
  have g13 := fun w hT => H.prev ⟨#[97, 32, 98]⟩ 2 w (by decide) hT
  rw [kw_13] at g13
  have h13 := Lib.hid g13
  clear g13
  have g14 := fun w hT => H.prev ⟨#[97, 32, 98]⟩ 0 w (by decide) hT
  rw [kw_14] at g14
  have h14 := Lib.hid g14
  clear g14
  have g15 := fun w hT => H.next ⟨#[32, 32, 97]⟩ (-5) w (by decide) hT
  rw [kw_15] at g15
  have h15 := Lib.hid g15
  clear g15
  have g16 := fun w hT => H.prev ⟨#[32, 97, 32]⟩ 99 w (by decide) hT
  rw [kw_16] at g16
  have h16 := Lib.hid g16
  clear g16
  have g17 := fun w hT => H.is_ ⟨#[]⟩ 0 w (by decide) hT
  rw [kw_17] at g17
  have h17 := Lib.hid g17
  clear g17
  have g18 := fun w hT => H.is_ ⟨#[97]⟩ 2 w (by decide) hT
  rw [kw_18] at g18
  have h18 := Lib.hid g18
  clear g18
  have h19 := Lib.hid (fun w hT => alive12_any H w hT)
  have HT0 := Lib.hid hT
  have B0 := Lib.hid (Below.refl w0.heap.size w0)
  clear hT
  go_enter Tryd.func7, Tryd.ntmps7
  go_wp2_with fail
  obtain ⟨w1, hw1⟩ : ∃ w1, w0.alloc (.cells #[.string ⟨#[97]⟩, .string ⟨#[39]⟩, .string ⟨#[49]⟩, .string ⟨#[32]⟩, .string ⟨#[49]⟩, .string ⟨#[39]⟩, .string ⟨#[97]⟩, .string ⟨#[32]⟩, .string ⟨#[39]⟩, .string ⟨#[97]⟩, .string ⟨#[39]⟩] 9) = w1 := ⟨_, rfl⟩
  have hR1 : Rd w1 w1.heap.size 1 (some ⟨w0.heap.size, 0, none⟩) 11 (([⟨#[97]⟩, ⟨#[39]⟩, ⟨#[49]⟩, ⟨#[32]⟩, ⟨#[49]⟩, ⟨#[39]⟩, ⟨#[97]⟩, ⟨#[32]⟩, ⟨#[39]⟩, ⟨#[97]⟩, ⟨#[39]⟩] : List ByteArray).map Value.string) := by
    refine ⟨rfl, .inr ⟨_, rfl, by rw [← hw1]; simp, fun j u hu => ?_⟩⟩
    rw [← hw1]
    exact new_cells w0 [.string ⟨#[97]⟩, .string ⟨#[39]⟩, .string ⟨#[49]⟩, .string ⟨#[32]⟩, .string ⟨#[49]⟩, .string ⟨#[39]⟩, .string ⟨#[97]⟩, .string ⟨#[32]⟩, .string ⟨#[39]⟩, .string ⟨#[97]⟩, .string ⟨#[39]⟩] 9 j u hu
  have b1 : Below w0.heap.size w0 w1 := by rw [← hw1]; exact (Below.refl _ w0).alloc (Nat.le_refl _) _
  have HT1 := Lib.hid (Utf8Tabs_below HT0.out b1)
  have B1 := Lib.hid (B0.out.trans (b1.mono B0.out.size))
  have HR1 := Lib.hid hR1
  clear b1 hR1 HT0 B0
  rw [hw1]
  clear hw1
  refine (h0.out w1 _ _ 11 HR1.out HT1.out).mono ?_
  rintro _ w2 ⟨rfl, b2⟩
  have HT2 := Lib.hid (Utf8Tabs_below HT1.out b2)
  have B2 := Lib.hid (B1.out.trans (b2.mono B1.out.size))
  clear b2 HT1 B1 h0
  go_wp2_with fail
  obtain ⟨w3, hw3⟩ : ∃ w3, w2.alloc (.cells #[.string ⟨#[49, 44, 48, 48, 48, 46, 53]⟩, .string ⟨#[32]⟩, .string ⟨#[49]⟩, .string ⟨#[46]⟩, .string ⟨#[32]⟩, .string ⟨#[46]⟩, .string ⟨#[53]⟩, .string ⟨#[32]⟩, .string ⟨#[97]⟩, .string ⟨#[46]⟩, .string ⟨#[98]⟩] 9) = w3 := ⟨_, rfl⟩
  have hR3 : Rd w3 w3.heap.size 1 (some ⟨w2.heap.size, 0, none⟩) 11 (([⟨#[49, 44, 48, 48, 48, 46, 53]⟩, ⟨#[32]⟩, ⟨#[49]⟩, ⟨#[46]⟩, ⟨#[32]⟩, ⟨#[46]⟩, ⟨#[53]⟩, ⟨#[32]⟩, ⟨#[97]⟩, ⟨#[46]⟩, ⟨#[98]⟩] : List ByteArray).map Value.string) := by
    refine ⟨rfl, .inr ⟨_, rfl, by rw [← hw3]; simp, fun j u hu => ?_⟩⟩
    rw [← hw3]
    exact new_cells w2 [.string ⟨#[49, 44, 48, 48, 48, 46, 53]⟩, .string ⟨#[32]⟩, .string ⟨#[49]⟩, .string ⟨#[46]⟩, .string ⟨#[32]⟩, .string ⟨#[46]⟩, .string ⟨#[53]⟩, .string ⟨#[32]⟩, .string ⟨#[97]⟩, .string ⟨#[46]⟩, .string ⟨#[98]⟩] 9 j u hu
  have b3 : Below w2.heap.size w2 w3 := by rw [← hw3]; exact (Below.refl _ w2).alloc (Nat.le_refl _) _
  have HT3 := Lib.hid (Utf8Tabs_below HT2.out b3)
  have B3 := Lib.hid (B2.out.trans (b3.mono B2.out.size))
  have HR3 := Lib.hid hR3
  clear b3 hR3 HT2 B2
  rw [hw3]
  clear hw3
  refine (h1.out w3 _ _ 11 HR3.out HT3.out).mono ?_
  rintro _ w4 ⟨rfl, b4⟩
  have HT4 := Lib.hid (Utf8Tabs_below HT3.out b4)
  have B4 := Lib.hid (B3.out.trans (b4.mono B3.out.size))
  clear b4 HT3 B3 h1
  go_wp2_with fail
  obtain ⟨w5, hw5⟩ : ∃ w5, w4.alloc (.cells #[.string ⟨#[97]⟩, .string ⟨#[39]⟩, .string ⟨#[39]⟩, .string ⟨#[98]⟩, .string ⟨#[44]⟩, .string ⟨#[32]⟩, .string ⟨#[97, 58, 98]⟩, .string ⟨#[32]⟩, .string ⟨#[120, 95, 49]⟩] 9) = w5 := ⟨_, rfl⟩
  have hR5 : Rd w5 w5.heap.size 1 (some ⟨w4.heap.size, 0, none⟩) 9 (([⟨#[97]⟩, ⟨#[39]⟩, ⟨#[39]⟩, ⟨#[98]⟩, ⟨#[44]⟩, ⟨#[32]⟩, ⟨#[97, 58, 98]⟩, ⟨#[32]⟩, ⟨#[120, 95, 49]⟩] : List ByteArray).map Value.string) := by
    refine ⟨rfl, .inr ⟨_, rfl, by rw [← hw5]; simp, fun j u hu => ?_⟩⟩
    rw [← hw5]
    exact new_cells w4 [.string ⟨#[97]⟩, .string ⟨#[39]⟩, .string ⟨#[39]⟩, .string ⟨#[98]⟩, .string ⟨#[44]⟩, .string ⟨#[32]⟩, .string ⟨#[97, 58, 98]⟩, .string ⟨#[32]⟩, .string ⟨#[120, 95, 49]⟩] 9 j u hu
  have b5 : Below w4.heap.size w4 w5 := by rw [← hw5]; exact (Below.refl _ w4).alloc (Nat.le_refl _) _
  have HT5 := Lib.hid (Utf8Tabs_below HT4.out b5)
  have B5 := Lib.hid (B4.out.trans (b5.mono B4.out.size))
  have HR5 := Lib.hid hR5
  clear b5 hR5 HT4 B4
  rw [hw5]
  clear hw5
  refine (h2.out w5 _ _ 9 HR5.out HT5.out).mono ?_
  rintro _ w6 ⟨rfl, b6⟩
  have HT6 := Lib.hid (Utf8Tabs_below HT5.out b6)
  have B6 := Lib.hid (B5.out.trans (b6.mono B5.out.size))
  clear b6 HT5 B5 h2
  go_wp2_with fail
  obtain ⟨w7, hw7⟩ : ∃ w7, w6.alloc (.cells #[.string ⟨#[228, 184, 150]⟩, .string ⟨#[228, 184, 151]⟩, .string ⟨#[32, 32]⟩] 9) = w7 := ⟨_, rfl⟩
  have hR7 : Rd w7 w7.heap.size 1 (some ⟨w6.heap.size, 0, none⟩) 3 (([⟨#[228, 184, 150]⟩, ⟨#[228, 184, 151]⟩, ⟨#[32, 32]⟩] : List ByteArray).map Value.string) := by
    refine ⟨rfl, .inr ⟨_, rfl, by rw [← hw7]; simp, fun j u hu => ?_⟩⟩
    rw [← hw7]
    exact new_cells w6 [.string ⟨#[228, 184, 150]⟩, .string ⟨#[228, 184, 151]⟩, .string ⟨#[32, 32]⟩] 9 j u hu
  have b7 : Below w6.heap.size w6 w7 := by rw [← hw7]; exact (Below.refl _ w6).alloc (Nat.le_refl _) _
  have HT7 := Lib.hid (Utf8Tabs_below HT6.out b7)
  have B7 := Lib.hid (B6.out.trans (b7.mono B6.out.size))
  have HR7 := Lib.hid hR7
  clear b7 hR7 HT6 B6
  rw [hw7]
  clear hw7
  refine (h3.out w7 _ _ 3 HR7.out HT7.out).mono ?_
  rintro _ w8 ⟨rfl, b8⟩
  have HT8 := Lib.hid (Utf8Tabs_below HT7.out b8)
  have B8 := Lib.hid (B7.out.trans (b8.mono B7.out.size))
  clear b8 HT7 B7 h3
  go_wp2_with fail
  obtain ⟨w9, hw9⟩ : ∃ w9, w8.alloc (.cells #[.string ⟨#[97, 204, 129]⟩, .string ⟨#[255]⟩, .string ⟨#[98]⟩] 9) = w9 := ⟨_, rfl⟩
  have hR9 : Rd w9 w9.heap.size 1 (some ⟨w8.heap.size, 0, none⟩) 3 (([⟨#[97, 204, 129]⟩, ⟨#[255]⟩, ⟨#[98]⟩] : List ByteArray).map Value.string) := by
    refine ⟨rfl, .inr ⟨_, rfl, by rw [← hw9]; simp, fun j u hu => ?_⟩⟩
    rw [← hw9]
    exact new_cells w8 [.string ⟨#[97, 204, 129]⟩, .string ⟨#[255]⟩, .string ⟨#[98]⟩] 9 j u hu
  have b9 : Below w8.heap.size w8 w9 := by rw [← hw9]; exact (Below.refl _ w8).alloc (Nat.le_refl _) _
  have HT9 := Lib.hid (Utf8Tabs_below HT8.out b9)
  have B9 := Lib.hid (B8.out.trans (b9.mono B8.out.size))
  have HR9 := Lib.hid hR9
  clear b9 hR9 HT8 B8
  rw [hw9]
  clear hw9
  refine (h4.out w9 _ _ 3 HR9.out HT9.out).mono ?_
  rintro _ w10 ⟨rfl, b10⟩
  have HT10 := Lib.hid (Utf8Tabs_below HT9.out b10)
  have B10 := Lib.hid (B9.out.trans (b10.mono B9.out.size))
  clear b10 HT9 B9 h4
  go_wp2_with fail
  obtain ⟨w11, hw11⟩ : ∃ w11, w10.alloc (.cells #[.string ⟨#[9, 32]⟩, .string ⟨#[10]⟩, .string ⟨#[32]⟩] 9) = w11 := ⟨_, rfl⟩
  have hR11 : Rd w11 w11.heap.size 1 (some ⟨w10.heap.size, 0, none⟩) 3 (([⟨#[9, 32]⟩, ⟨#[10]⟩, ⟨#[32]⟩] : List ByteArray).map Value.string) := by
    refine ⟨rfl, .inr ⟨_, rfl, by rw [← hw11]; simp, fun j u hu => ?_⟩⟩
    rw [← hw11]
    exact new_cells w10 [.string ⟨#[9, 32]⟩, .string ⟨#[10]⟩, .string ⟨#[32]⟩] 9 j u hu
  have b11 : Below w10.heap.size w10 w11 := by rw [← hw11]; exact (Below.refl _ w10).alloc (Nat.le_refl _) _
  have HT11 := Lib.hid (Utf8Tabs_below HT10.out b11)
  have B11 := Lib.hid (B10.out.trans (b11.mono B10.out.size))
  have HR11 := Lib.hid hR11
  clear b11 hR11 HT10 B10
  rw [hw11]
  clear hw11
  refine (h5.out w11 _ _ 3 HR11.out HT11.out).mono ?_
  rintro _ w12 ⟨rfl, b12⟩
  have HT12 := Lib.hid (Utf8Tabs_below HT11.out b12)
  have B12 := Lib.hid (B11.out.trans (b12.mono B11.out.size))
  clear b12 HT11 B11 h5
  go_wp2_with fail
  obtain ⟨w13, hw13⟩ : ∃ w13, w12.alloc (.cells #[.string ⟨#[97, 226, 128, 153, 98]⟩] 9) = w13 := ⟨_, rfl⟩
  have hR13 : Rd w13 w13.heap.size 1 (some ⟨w12.heap.size, 0, none⟩) 1 (([⟨#[97, 226, 128, 153, 98]⟩] : List ByteArray).map Value.string) := by
    refine ⟨rfl, .inr ⟨_, rfl, by rw [← hw13]; simp, fun j u hu => ?_⟩⟩
    rw [← hw13]
    exact new_cells w12 [.string ⟨#[97, 226, 128, 153, 98]⟩] 9 j u hu
  have b13 : Below w12.heap.size w12 w13 := by rw [← hw13]; exact (Below.refl _ w12).alloc (Nat.le_refl _) _
  have HT13 := Lib.hid (Utf8Tabs_below HT12.out b13)
  have B13 := Lib.hid (B12.out.trans (b13.mono B12.out.size))
  have HR13 := Lib.hid hR13
  clear b13 hR13 HT12 B12
  rw [hw13]
  clear hw13
  refine (h6.out w13 _ _ 1 HR13.out HT13.out).mono ?_
  rintro _ w14 ⟨rfl, b14⟩
  have HT14 := Lib.hid (Utf8Tabs_below HT13.out b14)
  have B14 := Lib.hid (B13.out.trans (b14.mono B13.out.size))
  clear b14 HT13 B13 h6
  go_wp2_with fail
  obtain ⟨w15, hw15⟩ : ∃ w15, w14.alloc (.cells #[.string ⟨#[97]⟩, .string ⟨#[39, 204, 129]⟩, .string ⟨#[98]⟩] 9) = w15 := ⟨_, rfl⟩
  have hR15 : Rd w15 w15.heap.size 1 (some ⟨w14.heap.size, 0, none⟩) 3 (([⟨#[97]⟩, ⟨#[39, 204, 129]⟩, ⟨#[98]⟩] : List ByteArray).map Value.string) := by
    refine ⟨rfl, .inr ⟨_, rfl, by rw [← hw15]; simp, fun j u hu => ?_⟩⟩
    rw [← hw15]
    exact new_cells w14 [.string ⟨#[97]⟩, .string ⟨#[39, 204, 129]⟩, .string ⟨#[98]⟩] 9 j u hu
  have b15 : Below w14.heap.size w14 w15 := by rw [← hw15]; exact (Below.refl _ w14).alloc (Nat.le_refl _) _
  have HT15 := Lib.hid (Utf8Tabs_below HT14.out b15)
  have B15 := Lib.hid (B14.out.trans (b15.mono B14.out.size))
  have HR15 := Lib.hid hR15
  clear b15 hR15 HT14 B14
  rw [hw15]
  clear hw15
  refine (h7.out w15 _ _ 3 HR15.out HT15.out).mono ?_
  rintro _ w16 ⟨rfl, b16⟩
  have HT16 := Lib.hid (Utf8Tabs_below HT15.out b16)
  have B16 := Lib.hid (B15.out.trans (b16.mono B15.out.size))
  clear b16 HT15 B15 h7
  go_wp2_with fail
  refine (h8.out w16 none 0 0 (Rd.nil _ _ _ _) HT16.out).mono ?_
  rintro _ w17 ⟨rfl, b17⟩
  have HT17 := Lib.hid (Utf8Tabs_below HT16.out b17)
  have B17 := Lib.hid (B16.out.trans (b17.mono B16.out.size))
  clear b17 HT16 B16 h8
  go_wp2_with fail
  refine (h9.out _ HT17.out).mono ?_
  rintro _ w18 ⟨rfl, b18⟩
  have HT18 := Lib.hid (Utf8Tabs_below HT17.out b18)
  have B18 := Lib.hid (B17.out.trans (b18.mono B17.out.size))
  clear b18 HT17 B17 h9
  go_wp2_with fail
  refine (h10.out _ HT18.out).mono ?_
  rintro _ w19 ⟨rfl, b19⟩
  have HT19 := Lib.hid (Utf8Tabs_below HT18.out b19)
  have B19 := Lib.hid (B18.out.trans (b19.mono B18.out.size))
  clear b19 HT18 B18 h10
  go_wp2_with fail
  refine (h11.out _ HT19.out).mono ?_
  rintro _ w20 ⟨rfl, b20⟩
  have HT20 := Lib.hid (Utf8Tabs_below HT19.out b20)
  have B20 := Lib.hid (B19.out.trans (b20.mono B19.out.size))
  clear b20 HT19 B19 h11
  go_wp2_with fail
  refine (h12.out _ HT20.out).mono ?_
  rintro _ w21 ⟨rfl, b21⟩
  have HT21 := Lib.hid (Utf8Tabs_below HT20.out b21)
  have B21 := Lib.hid (B20.out.trans (b21.mono B20.out.size))
  clear b21 HT20 B20 h12
  go_wp2_with fail
  refine (h13.out _ HT21.out).mono ?_
  rintro _ w22 ⟨rfl, b22⟩
  have HT22 := Lib.hid (Utf8Tabs_below HT21.out b22)
  have B22 := Lib.hid (B21.out.trans (b22.mono B21.out.size))
  clear b22 HT21 B21 h13
  go_wp2_with fail
  refine (h14.out _ HT22.out).mono ?_
  rintro _ w23 ⟨rfl, b23⟩
  have HT23 := Lib.hid (Utf8Tabs_below HT22.out b23)
  have B23 := Lib.hid (B22.out.trans (b23.mono B22.out.size))
  clear b23 HT22 B22 h14
  go_wp2_with fail
  refine (h15.out _ HT23.out).mono ?_
  rintro _ w24 ⟨rfl, b24⟩
  have HT24 := Lib.hid (Utf8Tabs_below HT23.out b24)
  have B24 := Lib.hid (B23.out.trans (b24.mono B23.out.size))
  clear b24 HT23 B23 h15
  go_wp2_with fail
  refine (h16.out _ HT24.out).mono ?_
  rintro _ w25 ⟨rfl, b25⟩
  have HT25 := Lib.hid (Utf8Tabs_below HT24.out b25)
  have B25 := Lib.hid (B24.out.trans (b25.mono B24.out.size))
  clear b25 HT24 B24 h16
  go_wp2_with fail
  refine (h17.out _ HT25.out).mono ?_
  rintro _ w26 ⟨rfl, b26⟩
  have HT26 := Lib.hid (Utf8Tabs_below HT25.out b26)
  have B26 := Lib.hid (B25.out.trans (b26.mono B25.out.size))
  clear b26 HT25 B25 h17
  go_wp2_with fail
  refine (h18.out _ HT26.out).mono ?_
  rintro _ w27 ⟨rfl, b27⟩
  have HT27 := Lib.hid (Utf8Tabs_below HT26.out b27)
  have B27 := Lib.hid (B26.out.trans (b27.mono B26.out.size))
  clear b27 HT26 B26 h18
  go_wp2_with fail
  refine (h19.out _ HT27.out).mono ?_
  rintro _ w28 ⟨rfl, b28⟩
  have HT28 := Lib.hid (Utf8Tabs_below HT27.out b28)
  have B28 := Lib.hid (B27.out.trans (b28.mono B27.out.size))
  clear b28 HT27 B27 h19
  go_wp2_with fail
  go_ret
  exact ⟨rfl, B28.out⟩
end Go.Proofs.YtiafofekobcifaaDoor
