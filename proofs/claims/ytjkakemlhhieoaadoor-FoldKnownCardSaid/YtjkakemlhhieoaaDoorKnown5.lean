/- FoldKnown, walked. (Made by tools/mkpairs5.py.) -/
import Derived.Test.YtjkakemlhhieoaaDoorWalkGF
namespace Go.Proofs.YtjkakemlhhieoaaDoor
open Go.RowKit Go.Lib

theorem kn5_0 (w : World) (hE : Env5 w) : Calls Tryd.prog 10 #[.int .i32 313] w fun e w' => e = .returned (.int .i32 314) ∧ Below w.heap.size w w' := by
  have h := Small_any 313 (by decide) (by decide) w hE.2
  rw [show smallF 313 = 314 by decide +kernel] at h
  exact h
theorem kn5_1 (w : World) (hE : Env5 w) : Calls Tryd.prog 10 #[.int .i32 304] w fun e w' => e = .returned (.int .i32 304) ∧ Below w.heap.size w w' := by
  have h := Small_any 304 (by decide) (by decide) w hE.2
  rw [show smallF 304 = 304 by decide +kernel] at h
  exact h
theorem kn5_2 (w : World) (hE : Env5 w) : Calls Tryd.prog 10 #[.int .i32 962] w fun e w' => e = .returned (.int .i32 962) ∧ Below w.heap.size w w' := by
  have h := Small_any 962 (by decide) (by decide) w hE.2
  rw [show smallF 962 = 962 by decide +kernel] at h
  exact h
theorem kn5_3 (w : World) (hE : Env5 w) : Calls Tryd.prog 12 #[.int .i32 223] w fun e w' => e = .returned (.int .i32 223) ∧ Below w.heap.size w w' := by
  have h := Great_any 223 (by decide) (by decide) w hE.2
  rw [show greatF 223 = 223 by decide +kernel] at h
  exact h
theorem kn5_4 (w : World) (hE : Env5 w) : Calls Tryd.prog 12 #[.int .i32 962] w fun e w' => e = .returned (.int .i32 931) ∧ Below w.heap.size w w' := by
  have h := Great_any 962 (by decide) (by decide) w hE.2
  rw [show greatF 962 = 931 by decide +kernel] at h
  exact h
theorem kn5_5 (w : World) (hE : Env5 w) : Calls Tryd.prog 12 #[.int .i32 305] w fun e w' => e = .returned (.int .i32 305) ∧ Below w.heap.size w w' := by
  have h := Great_any 305 (by decide) (by decide) w hE.2
  rw [show greatF 305 = 305 by decide +kernel] at h
  exact h
theorem kn5_6 (w : World) (hE : Env5 w) : Calls Tryd.prog 10 #[.int .i32 (-1)] w fun e w' => e = .returned (.int .i32 (-1)) ∧ Below w.heap.size w w' := by
  have h := Small_any (-1) (by decide) (by decide) w hE.2
  rw [show smallF (-1) = (-1) by decide +kernel] at h
  exact h
theorem kn5_7 (w : World) (hE : Env5 w) : Calls Tryd.prog 16 #[.string ⟨#[206, 145, 206, 163]⟩] w fun e w' => e = .returned (.string ⟨#[206, 177, 207, 130]⟩) ∧ Below w.heap.size w w' := by
  have h := Lower_any ⟨#[206, 145, 206, 163]⟩ w (by decide) hE
  rw [show madeS (lowF kind5) (ByteArray.mk #[206, 145, 206, 163]).data.toList = [206, 177, 207, 130] from (by decide +kernel : madeS (lowF kind5) [206, 145, 206, 163] = [206, 177, 207, 130])] at h
  exact h
theorem kn5_8 (w : World) (hE : Env5 w) : Calls Tryd.prog 16 #[.string ⟨#[206, 163, 206, 145]⟩] w fun e w' => e = .returned (.string ⟨#[207, 131, 206, 177]⟩) ∧ Below w.heap.size w w' := by
  have h := Lower_any ⟨#[206, 163, 206, 145]⟩ w (by decide) hE
  rw [show madeS (lowF kind5) (ByteArray.mk #[206, 163, 206, 145]).data.toList = [207, 131, 206, 177] from (by decide +kernel : madeS (lowF kind5) [206, 163, 206, 145] = [207, 131, 206, 177])] at h
  exact h
theorem kn5_9 (w : World) (hE : Env5 w) : Calls Tryd.prog 16 #[.string ⟨#[206, 145, 206, 163, 204, 129, 46]⟩] w fun e w' => e = .returned (.string ⟨#[206, 177, 207, 130, 204, 129, 46]⟩) ∧ Below w.heap.size w w' := by
  have h := Lower_any ⟨#[206, 145, 206, 163, 204, 129, 46]⟩ w (by decide) hE
  rw [show madeS (lowF kind5) (ByteArray.mk #[206, 145, 206, 163, 204, 129, 46]).data.toList = [206, 177, 207, 130, 204, 129, 46] from (by decide +kernel : madeS (lowF kind5) [206, 145, 206, 163, 204, 129, 46] = [206, 177, 207, 130, 204, 129, 46])] at h
  exact h
theorem kn5_10 (w : World) (hE : Env5 w) : Calls Tryd.prog 16 #[.string ⟨#[206, 145, 206, 163, 206, 145]⟩] w fun e w' => e = .returned (.string ⟨#[206, 177, 207, 131, 206, 177]⟩) ∧ Below w.heap.size w w' := by
  have h := Lower_any ⟨#[206, 145, 206, 163, 206, 145]⟩ w (by decide) hE
  rw [show madeS (lowF kind5) (ByteArray.mk #[206, 145, 206, 163, 206, 145]).data.toList = [206, 177, 207, 131, 206, 177] from (by decide +kernel : madeS (lowF kind5) [206, 145, 206, 163, 206, 145] = [206, 177, 207, 131, 206, 177])] at h
  exact h
theorem kn5_11 (w : World) (hE : Env5 w) : Calls Tryd.prog 16 #[.string ⟨#[206, 163]⟩] w fun e w' => e = .returned (.string ⟨#[207, 131]⟩) ∧ Below w.heap.size w w' := by
  have h := Lower_any ⟨#[206, 163]⟩ w (by decide) hE
  rw [show madeS (lowF kind5) (ByteArray.mk #[206, 163]).data.toList = [207, 131] from (by decide +kernel : madeS (lowF kind5) [206, 163] = [207, 131])] at h
  exact h
theorem kn5_12 (w : World) (hE : Env5 w) : Calls Tryd.prog 18 #[.string ⟨#[111, 39, 110, 101, 105, 108, 32, 195, 159, 97, 32, 52, 116, 104, 32, 52, 32, 116, 104]⟩] w fun e w' => e = .returned (.string ⟨#[79, 39, 78, 101, 105, 108, 32, 83, 115, 97, 32, 52, 116, 104, 32, 52, 32, 84, 104]⟩) ∧ Below w.heap.size w w' := by
  have h := Title_any ⟨#[111, 39, 110, 101, 105, 108, 32, 195, 159, 97, 32, 52, 116, 104, 32, 52, 32, 116, 104]⟩ w (by decide) hE
  rw [show madeS (titleF kind5) (ByteArray.mk #[111, 39, 110, 101, 105, 108, 32, 195, 159, 97, 32, 52, 116, 104, 32, 52, 32, 116, 104]).data.toList = [79, 39, 78, 101, 105, 108, 32, 83, 115, 97, 32, 52, 116, 104, 32, 52, 32, 84, 104] from (by decide +kernel : madeS (titleF kind5) [111, 39, 110, 101, 105, 108, 32, 195, 159, 97, 32, 52, 116, 104, 32, 52, 32, 116, 104] = [79, 39, 78, 101, 105, 108, 32, 83, 115, 97, 32, 52, 116, 104, 32, 52, 32, 84, 104])] at h
  exact h
theorem kn5_13 (w : World) (hE : Env5 w) : Calls Tryd.prog 18 #[.string ⟨#[206, 145, 206, 163, 32, 206, 145, 206, 163, 206, 145]⟩] w fun e w' => e = .returned (.string ⟨#[206, 145, 207, 130, 32, 206, 145, 207, 131, 206, 177]⟩) ∧ Below w.heap.size w w' := by
  have h := Title_any ⟨#[206, 145, 206, 163, 32, 206, 145, 206, 163, 206, 145]⟩ w (by decide) hE
  rw [show madeS (titleF kind5) (ByteArray.mk #[206, 145, 206, 163, 32, 206, 145, 206, 163, 206, 145]).data.toList = [206, 145, 207, 130, 32, 206, 145, 207, 131, 206, 177] from (by decide +kernel : madeS (titleF kind5) [206, 145, 206, 163, 32, 206, 145, 206, 163, 206, 145] = [206, 145, 207, 130, 32, 206, 145, 207, 131, 206, 177])] at h
  exact h
theorem kn5_14 (w : World) (hE : Env5 w) : Calls Tryd.prog 19 #[.string ⟨#[65, 206, 178, 195, 159]⟩] w fun e w' => e = .returned (.string ⟨#[97, 206, 146, 83, 83]⟩) ∧ Below w.heap.size w w' := by
  have h := Swap_any ⟨#[65, 206, 178, 195, 159]⟩ w (by decide) hE
  rw [show madeS swapF (ByteArray.mk #[65, 206, 178, 195, 159]).data.toList = [97, 206, 146, 83, 83] from (by decide +kernel : madeS swapF [65, 206, 178, 195, 159] = [97, 206, 146, 83, 83])] at h
  exact h
theorem kn5_15 (w : World) (hE : Env5 w) : Calls Tryd.prog 15 #[.string ⟨#[206, 145, 206, 163]⟩] w fun e w' => e = .returned (.string ⟨#[206, 177, 207, 131]⟩) ∧ Below w.heap.size w w' := by
  have h := Fold_any ⟨#[206, 145, 206, 163]⟩ w (show Fine5 [206, 145, 206, 163] by unfold Fine5; decide +kernel) hE
  rw [show foldS (ByteArray.mk #[206, 145, 206, 163]).data.toList = [206, 177, 207, 131] from (by decide +kernel : foldS [206, 145, 206, 163] = [206, 177, 207, 131])] at h
  exact h
theorem kn5_16 (w : World) (hE : Env5 w) : Calls Tryd.prog 15 #[.string ⟨#[196, 176]⟩] w fun e w' => e = .returned (.string ⟨#[105, 204, 135]⟩) ∧ Below w.heap.size w w' := by
  have h := Fold_any ⟨#[196, 176]⟩ w (show Fine5 [196, 176] by unfold Fine5; decide +kernel) hE
  rw [show foldS (ByteArray.mk #[196, 176]).data.toList = [105, 204, 135] from (by decide +kernel : foldS [196, 176] = [105, 204, 135])] at h
  exact h
theorem kn5_17 (w : World) (hE : Env5 w) : Calls Tryd.prog 15 #[.string ⟨#[239, 188, 179]⟩] w fun e w' => e = .returned (.string ⟨#[239, 189, 147]⟩) ∧ Below w.heap.size w w' := by
  have h := Fold_any ⟨#[239, 188, 179]⟩ w (show Fine5 [239, 188, 179] by unfold Fine5; decide +kernel) hE
  rw [show foldS (ByteArray.mk #[239, 188, 179]).data.toList = [239, 189, 147] from (by decide +kernel : foldS [239, 188, 179] = [239, 189, 147])] at h
  exact h
theorem kn5_18 (w : World) (hE : Env5 w) : Calls Tryd.prog 22 #[.string ⟨#[195, 169]⟩, .string ⟨#[69, 204, 129]⟩] w fun e w' => e = .returned (.bool true) ∧ Below w.heap.size w w' := by
  have h := FSame_any ⟨#[195, 169]⟩ ⟨#[69, 204, 129]⟩ w (show Fine5 [195, 169] by unfold Fine5; decide +kernel) (show Fine5 [69, 204, 129] by unfold Fine5; decide +kernel) hE
  rw [show same5 (ByteArray.mk #[195, 169]).data.toList (ByteArray.mk #[69, 204, 129]).data.toList = true from (by decide +kernel : same5 [195, 169] [69, 204, 129] = true)] at h
  exact h
theorem kn5_19 (w : World) (hE : Env5 w) : Calls Tryd.prog 22 #[.string ⟨#[195]⟩, .string ⟨#[227]⟩] w fun e w' => e = .returned (.bool false) ∧ Below w.heap.size w w' := by
  have h := FSame_any ⟨#[195]⟩ ⟨#[227]⟩ w (show Fine5 [195] by unfold Fine5; decide +kernel) (show Fine5 [227] by unfold Fine5; decide +kernel) hE
  rw [show same5 (ByteArray.mk #[195]).data.toList (ByteArray.mk #[227]).data.toList = false from (by decide +kernel : same5 [195] [227] = false)] at h
  exact h
set_option maxRecDepth 100000 in
set_option maxHeartbeats 4000000 in
theorem known5_walk (w : World) (hE : Env5 w) : Calls Tryd.prog 9 #[] w fun e w' => e = .returned (.bool true) ∧ Below w.heap.size w w' := by
  have HE := Lib.hid hE
  clear hE
  go_enter Tryd.func9, Tryd.ntmps9
  go_wp2_with fail
  refine (kn5_0 w HE.out).mono ?_
  rintro _ w1 ⟨rfl, b0⟩
  have HE1 := Lib.hid (HE.out.below b0)
  have Hb1 := Lib.hid (b0)
  clear b0
  go_wp2_with fail
  refine (kn5_1 w1 HE1.out).mono ?_
  rintro _ w2 ⟨rfl, b1⟩
  have HE2 := Lib.hid (HE1.out.below b1)
  have Hb2 := Lib.hid (Hb1.out.trans (b1.mono Hb1.out.size))
  clear b1
  go_wp2_with fail
  refine (kn5_2 w2 HE2.out).mono ?_
  rintro _ w3 ⟨rfl, b2⟩
  have HE3 := Lib.hid (HE2.out.below b2)
  have Hb3 := Lib.hid (Hb2.out.trans (b2.mono Hb2.out.size))
  clear b2
  go_wp2_with fail
  refine (kn5_3 w3 HE3.out).mono ?_
  rintro _ w4 ⟨rfl, b3⟩
  have HE4 := Lib.hid (HE3.out.below b3)
  have Hb4 := Lib.hid (Hb3.out.trans (b3.mono Hb3.out.size))
  clear b3
  go_wp2_with fail
  refine (kn5_4 w4 HE4.out).mono ?_
  rintro _ w5 ⟨rfl, b4⟩
  have HE5 := Lib.hid (HE4.out.below b4)
  have Hb5 := Lib.hid (Hb4.out.trans (b4.mono Hb4.out.size))
  clear b4
  go_wp2_with fail
  refine (kn5_5 w5 HE5.out).mono ?_
  rintro _ w6 ⟨rfl, b5⟩
  have HE6 := Lib.hid (HE5.out.below b5)
  have Hb6 := Lib.hid (Hb5.out.trans (b5.mono Hb5.out.size))
  clear b5
  go_wp2_with fail
  refine (kn5_6 w6 HE6.out).mono ?_
  rintro _ w7 ⟨rfl, b6⟩
  have HE7 := Lib.hid (HE6.out.below b6)
  have Hb7 := Lib.hid (Hb6.out.trans (b6.mono Hb6.out.size))
  clear b6
  go_wp2_with fail
  refine (kn5_7 w7 HE7.out).mono ?_
  rintro _ w8 ⟨rfl, b7⟩
  have HE8 := Lib.hid (HE7.out.below b7)
  have Hb8 := Lib.hid (Hb7.out.trans (b7.mono Hb7.out.size))
  clear b7
  go_wp2_with fail
  refine (kn5_8 w8 HE8.out).mono ?_
  rintro _ w9 ⟨rfl, b8⟩
  have HE9 := Lib.hid (HE8.out.below b8)
  have Hb9 := Lib.hid (Hb8.out.trans (b8.mono Hb8.out.size))
  clear b8
  go_wp2_with fail
  refine (kn5_9 w9 HE9.out).mono ?_
  rintro _ w10 ⟨rfl, b9⟩
  have HE10 := Lib.hid (HE9.out.below b9)
  have Hb10 := Lib.hid (Hb9.out.trans (b9.mono Hb9.out.size))
  clear b9
  go_wp2_with fail
  refine (kn5_10 w10 HE10.out).mono ?_
  rintro _ w11 ⟨rfl, b10⟩
  have HE11 := Lib.hid (HE10.out.below b10)
  have Hb11 := Lib.hid (Hb10.out.trans (b10.mono Hb10.out.size))
  clear b10
  go_wp2_with fail
  refine (kn5_11 w11 HE11.out).mono ?_
  rintro _ w12 ⟨rfl, b11⟩
  have HE12 := Lib.hid (HE11.out.below b11)
  have Hb12 := Lib.hid (Hb11.out.trans (b11.mono Hb11.out.size))
  clear b11
  go_wp2_with fail
  refine (kn5_12 w12 HE12.out).mono ?_
  rintro _ w13 ⟨rfl, b12⟩
  have HE13 := Lib.hid (HE12.out.below b12)
  have Hb13 := Lib.hid (Hb12.out.trans (b12.mono Hb12.out.size))
  clear b12
  go_wp2_with fail
  refine (kn5_13 w13 HE13.out).mono ?_
  rintro _ w14 ⟨rfl, b13⟩
  have HE14 := Lib.hid (HE13.out.below b13)
  have Hb14 := Lib.hid (Hb13.out.trans (b13.mono Hb13.out.size))
  clear b13
  go_wp2_with fail
  refine (kn5_14 w14 HE14.out).mono ?_
  rintro _ w15 ⟨rfl, b14⟩
  have HE15 := Lib.hid (HE14.out.below b14)
  have Hb15 := Lib.hid (Hb14.out.trans (b14.mono Hb14.out.size))
  clear b14
  go_wp2_with fail
  refine (kn5_15 w15 HE15.out).mono ?_
  rintro _ w16 ⟨rfl, b15⟩
  have HE16 := Lib.hid (HE15.out.below b15)
  have Hb16 := Lib.hid (Hb15.out.trans (b15.mono Hb15.out.size))
  clear b15
  go_wp2_with fail
  refine (kn5_16 w16 HE16.out).mono ?_
  rintro _ w17 ⟨rfl, b16⟩
  have HE17 := Lib.hid (HE16.out.below b16)
  have Hb17 := Lib.hid (Hb16.out.trans (b16.mono Hb16.out.size))
  clear b16
  go_wp2_with fail
  refine (kn5_17 w17 HE17.out).mono ?_
  rintro _ w18 ⟨rfl, b17⟩
  have HE18 := Lib.hid (HE17.out.below b17)
  have Hb18 := Lib.hid (Hb17.out.trans (b17.mono Hb17.out.size))
  clear b17
  go_wp2_with fail
  refine (kn5_18 w18 HE18.out).mono ?_
  rintro _ w19 ⟨rfl, b18⟩
  have HE19 := Lib.hid (HE18.out.below b18)
  have Hb19 := Lib.hid (Hb18.out.trans (b18.mono Hb18.out.size))
  clear b18
  go_wp2_with fail
  refine (kn5_19 w19 HE19.out).mono ?_
  rintro _ w20 ⟨rfl, b19⟩
  have HE20 := Lib.hid (HE19.out.below b19)
  have Hb20 := Lib.hid (Hb19.out.trans (b19.mono Hb19.out.size))
  clear b19
  go_wp2_with fail
  refine (works5_any w20 HE20.out).mono ?_
  rintro _ w21 ⟨rfl, b20⟩
  have HE21 := Lib.hid (HE20.out.below b20)
  have Hb21 := Lib.hid (Hb20.out.trans (b20.mono Hb20.out.size))
  clear b20
  go_wp2_with fail
  go_ret
  exact ⟨rfl, Hb21.out⟩
end Go.Proofs.YtjkakemlhhieoaaDoor
