/- ShowKnown, walked. MADE: tools/mkknown6.py (its drawn region out of the seat's own text). -/
import Derived.Test.YthejfbanehnmjaaDoorAlive6
import Derived.Lib.AppendStr
import Derived.Deep.RegionHeld3
set_option linter.unusedSimpArgs false
set_option linter.unusedVariables false
namespace Go.Proofs.YthejfbanehnmjaaDoor
open Go.RowKit Go.Lib

def mk6 (k : Nat) : List UInt8 := (List.replicate k [204, 129]).flatten
theorem mk6_succ (k : Nat) : mk6 (k + 1) = mk6 k ++ [204, 129] := by
  unfold mk6
  rw [List.replicate_succ', List.flatten_append]
  rfl
theorem mk6_len (k : Nat) : (mk6 k).length = k * 2 := by
  induction k with
  | zero => rfl
  | succ k ih => rw [mk6_succ, List.length_append, ih]; simp; omega
def tm64 : ByteArray := ⟨(mk6 32).toArray⟩
def tm62 : ByteArray := ⟨(mk6 31).toArray⟩
theorem tm_size : tm64.size = 64 ∧ tm62.size = 62 := by decide +kernel
theorem mk6_take : (mk6 32).take 62 = mk6 31 := by decide +kernel
theorem u8_info6 : (Tryd.prog.info? 5).map (fun i => (i.zero, i.size, i.bytes)) = some (some (.int .u8 0), 1, 1) := by kernel_rfl

theorem kn6_0 : textZ true false 0 ((5 : Int).toNat) [195] = ([60, 99, 51, 62], 4) := by decide +kernel
theorem kn6_1 : textZ false false 0 ((0 : Int).toNat) [9] = ([32, 32, 32, 32, 32, 32, 32, 32], 8) := by decide +kernel
theorem kn6_2 : textZ false false 4 ((5 : Int).toNat) [9] = ([32, 32, 32], 3) := by decide +kernel
theorem kn6_3 : textZ false false 99 ((-3 : Int).toNat) [9] = ([32, 32, 32, 32, 32, 32, 32, 32], 8) := by decide +kernel
theorem kn6_4 : textZ false false 16 ((16 : Int).toNat) [9] = ([32, 32, 32, 32, 32, 32, 32, 32, 32, 32, 32, 32, 32, 32, 32, 32], 16) := by decide +kernel
theorem kn6_5 : textZ true false 0 ((0 : Int).toNat) [10] = ([], 0) := by decide +kernel
theorem kn6_6 : textZ true false 0 ((0 : Int).toNat) [13, 10] = ([], 0) := by decide +kernel
theorem kn6_7 : textZ false false 0 ((0 : Int).toNat) [13] = ([94, 77], 2) := by decide +kernel
theorem kn6_8 : textZ false false 0 ((0 : Int).toNat) [127] = ([94, 63], 2) := by decide +kernel
theorem kn6_9 : textZ false false 0 ((0 : Int).toNat) [0] = ([94, 64], 2) := by decide +kernel
theorem kn6_10 : textZ false false 0 ((0 : Int).toNat) [] = ([], 0) := by decide +kernel
theorem kn6_11 : textZ false false 0 ((0 : Int).toNat) [226, 128, 174] = ([], 0) := by decide +kernel
theorem kn6_12 : textZ true false 0 ((0 : Int).toNat) [194, 133] = ([60, 48, 48, 56, 53, 62], 6) := by decide +kernel
theorem kn6_13 : textZ false false 0 ((0 : Int).toNat) [204, 129] = ([226, 151, 140, 204, 129], 1) := by decide +kernel
theorem kn6_14 : textZ false false 0 ((0 : Int).toNat) [226, 128, 141] = ([226, 151, 140, 226, 128, 141], 1) := by decide +kernel
theorem kn6_15 : textZ false false 0 ((0 : Int).toNat) [240, 159, 135, 166, 240, 159, 135, 167] = ([240, 159, 135, 166, 240, 159, 135, 167], 2) := by decide +kernel
theorem kn6_16 : textZ true false 0 ((0 : Int).toNat) [226, 128, 168] = ([60, 50, 48, 50, 56, 62], 6) := by decide +kernel
theorem kn6_17 : wideZ false false 0 ⟨#[9, 98]⟩ 1 = 8 := by decide +kernel
theorem kn6_18 : wideZ false false 0 ⟨#[228, 184, 150, 97]⟩ 4611686018427387904 = 3 := by decide +kernel
theorem kn6_19 : cutZ false false 0 ⟨#[97, 204, 129]⟩ (1) = 3 := by decide +kernel
theorem kn6_20 : cutZ false false 0 ⟨#[97]⟩ (-1) = 0 := by decide +kernel
theorem kn6_21 : cutZ false false 0 ⟨#[226, 128, 174, 97]⟩ (0) = 3 := by decide +kernel
theorem kn6_22 : plainZ ⟨#[97, 10, 9, 128, 226, 128, 174, 13, 10]⟩ = [97, 94, 74, 94, 73, 60, 56, 48, 62, 60, 50, 48, 50, 101, 62, 94, 77, 94, 74] := by decide +kernel
theorem kn6_23 : textZ false false 0 ((0 : Int).toNat) tm64.data.toList = (((⟨#[226, 151, 140]⟩ : ByteArray) ++ tm62).data.toList, 1) := by decide +kernel
theorem kn6_24 : textZ false false 0 ((0 : Int).toNat) tm62.data.toList = (((⟨#[226, 151, 140]⟩ : ByteArray) ++ tm62).data.toList, 1) := by decide +kernel
theorem kn6_25 : textZ false false 0 ((0 : Int).toNat) [194, 169, 239, 184, 143] = ([194, 169, 239, 184, 143], 2) := by decide +kernel
theorem kn6_26 : textZ true false 0 ((0 : Int).toNat) [225, 133, 161] = ([], 0) := by decide +kernel
theorem kn6_27 : textZ false true 0 ((0 : Int).toNat) [194, 161] = ([194, 161], 2) := by decide +kernel
theorem kn6_28 : textZ true false 0 ((0 : Int).toNat) [239, 187, 191] = ([60, 102, 101, 102, 102, 62], 6) := by decide +kernel
set_option maxRecDepth 100000 in
set_option maxHeartbeats 8000000 in
theorem known6_walk (w : World) (hT : Utf8Tabs 0 1 w) : Calls Tryd.prog 9 #[] w fun e w' => e = .returned (.bool true) ∧ Below w.heap.size w w' := by
  obtain ⟨i0, hi, hz0, hz1, hz2⟩ := info_parts u8_info6
  have H0 := Lib.hid (fun W hT => shows_yes ⟨#[195]⟩ ⟨#[60, 99, 51, 62]⟩ (5) 4 0 false 0 false true W (by decide +kernel) (by omega) (by omega) hT kn6_0)
  have H1 := Lib.hid (fun W hT => shows_yes ⟨#[9]⟩ ⟨#[32, 32, 32, 32, 32, 32, 32, 32]⟩ (0) 8 0 false 0 false false W (by decide +kernel) (by omega) (by omega) hT kn6_1)
  have H2 := Lib.hid (fun W hT => shows_yes ⟨#[9]⟩ ⟨#[32, 32, 32]⟩ (5) 3 4 false 0 false false W (by decide +kernel) (by omega) (by omega) hT kn6_2)
  have H3 := Lib.hid (fun W hT => shows_yes ⟨#[9]⟩ ⟨#[32, 32, 32, 32, 32, 32, 32, 32]⟩ (-3) 8 99 false 0 false false W (by decide +kernel) (by omega) (by omega) hT kn6_3)
  have H4 := Lib.hid (fun W hT => shows_yes ⟨#[9]⟩ ⟨#[32, 32, 32, 32, 32, 32, 32, 32, 32, 32, 32, 32, 32, 32, 32, 32]⟩ (16) 16 16 false 0 false false W (by decide +kernel) (by omega) (by omega) hT kn6_4)
  have H5 := Lib.hid (fun W hT => shows_yes ⟨#[10]⟩ ⟨#[]⟩ (0) 0 0 false 0 false true W (by decide +kernel) (by omega) (by omega) hT kn6_5)
  have H6 := Lib.hid (fun W hT => shows_yes ⟨#[13, 10]⟩ ⟨#[]⟩ (0) 0 0 false 0 false true W (by decide +kernel) (by omega) (by omega) hT kn6_6)
  have H7 := Lib.hid (fun W hT => shows_yes ⟨#[13]⟩ ⟨#[94, 77]⟩ (0) 2 0 false 0 false false W (by decide +kernel) (by omega) (by omega) hT kn6_7)
  have H8 := Lib.hid (fun W hT => shows_yes ⟨#[127]⟩ ⟨#[94, 63]⟩ (0) 2 0 false 0 false false W (by decide +kernel) (by omega) (by omega) hT kn6_8)
  have H9 := Lib.hid (fun W hT => shows_yes ⟨#[0]⟩ ⟨#[94, 64]⟩ (0) 2 0 false 0 false false W (by decide +kernel) (by omega) (by omega) hT kn6_9)
  have H10 := Lib.hid (fun W hT => shows_yes ⟨#[]⟩ ⟨#[]⟩ (0) 0 0 false 0 false false W (by decide +kernel) (by omega) (by omega) hT kn6_10)
  have H11 := Lib.hid (fun W hT => shows_yes ⟨#[226, 128, 174]⟩ ⟨#[]⟩ (0) 0 0 false 0 false false W (by decide +kernel) (by omega) (by omega) hT kn6_11)
  have H12 := Lib.hid (fun W hT => shows_yes ⟨#[194, 133]⟩ ⟨#[60, 48, 48, 56, 53, 62]⟩ (0) 6 0 false 0 false true W (by decide +kernel) (by omega) (by omega) hT kn6_12)
  have H13 := Lib.hid (fun W hT => shows_yes ⟨#[204, 129]⟩ ⟨#[226, 151, 140, 204, 129]⟩ (0) 1 0 false 0 false false W (by decide +kernel) (by omega) (by omega) hT kn6_13)
  have H14 := Lib.hid (fun W hT => shows_yes ⟨#[226, 128, 141]⟩ ⟨#[226, 151, 140, 226, 128, 141]⟩ (0) 1 0 false 0 false false W (by decide +kernel) (by omega) (by omega) hT kn6_14)
  have H15 := Lib.hid (fun W hT => shows_yes ⟨#[240, 159, 135, 166, 240, 159, 135, 167]⟩ ⟨#[240, 159, 135, 166, 240, 159, 135, 167]⟩ (0) 2 0 false 0 false false W (by decide +kernel) (by omega) (by omega) hT kn6_15)
  have H16 := Lib.hid (fun W hT => shows_yes ⟨#[226, 128, 168]⟩ ⟨#[60, 50, 48, 50, 56, 62]⟩ (0) 6 0 false 0 false true W (by decide +kernel) (by omega) (by omega) hT kn6_16)
  have h17q := fun W hT => pwide_any ⟨#[9, 98]⟩ 1 0 false 0 false false W (by decide) (by omega) (by omega) hT
  rw [show ((1 : Int)).toNat = 1 from rfl, kn6_17] at h17q
  have H17 := Lib.hid h17q
  clear h17q
  have h18q := fun W hT => pwide_any ⟨#[228, 184, 150, 97]⟩ 4611686018427387904 0 false 0 false false W (by decide) (by omega) (by omega) hT
  rw [show ((4611686018427387904 : Int)).toNat = 4611686018427387904 from rfl, kn6_18] at h18q
  have H18 := Lib.hid h18q
  clear h18q
  have h19q := fun W hT => pcut_any ⟨#[97, 204, 129]⟩ (1) 0 false 0 false false W (by decide) hT
  rw [kn6_19] at h19q
  have H19 := Lib.hid h19q
  clear h19q
  have h20q := fun W hT => pcut_any ⟨#[97]⟩ (-1) 0 false 0 false false W (by decide) hT
  rw [kn6_20] at h20q
  have H20 := Lib.hid h20q
  clear h20q
  have h21q := fun W hT => pcut_any ⟨#[226, 128, 174, 97]⟩ (0) 0 false 0 false false W (by decide) hT
  rw [kn6_21] at h21q
  have H21 := Lib.hid h21q
  clear h21q
  have h22q := fun W hT => pplain_any ⟨#[97, 10, 9, 128, 226, 128, 174, 13, 10]⟩ W (by decide) hT
  rw [kn6_22] at h22q
  have H22 := Lib.hid h22q
  clear h22q
  have H23 := Lib.hid (fun W hT => shows_yes tm64 ((⟨#[226, 151, 140]⟩ : ByteArray) ++ tm62) (0) 1 0 false 0 false false W (by decide +kernel) (by omega) (by omega) hT kn6_23)
  have H24 := Lib.hid (fun W hT => shows_yes tm62 ((⟨#[226, 151, 140]⟩ : ByteArray) ++ tm62) (0) 1 0 false 0 false false W (by decide +kernel) (by omega) (by omega) hT kn6_24)
  have H25 := Lib.hid (fun W hT => shows_yes ⟨#[194, 169, 239, 184, 143]⟩ ⟨#[194, 169, 239, 184, 143]⟩ (0) 2 0 false 0 false false W (by decide +kernel) (by omega) (by omega) hT kn6_25)
  have H26 := Lib.hid (fun W hT => shows_yes ⟨#[225, 133, 161]⟩ ⟨#[]⟩ (0) 0 0 false 0 false true W (by decide +kernel) (by omega) (by omega) hT kn6_26)
  have H27 := Lib.hid (fun W hT => shows_yes ⟨#[194, 161]⟩ ⟨#[194, 161]⟩ (0) 2 0 true 0 false false W (by decide +kernel) (by omega) (by omega) hT kn6_27)
  have H28 := Lib.hid (fun W hT => shows_yes ⟨#[239, 187, 191]⟩ ⟨#[60, 102, 101, 102, 102, 62]⟩ (0) 6 0 false 0 false true W (by decide +kernel) (by omega) (by omega) hT kn6_28)
  have HA := Lib.hid (fun W hT => alive6_any W hT)
  obtain ⟨B, hB⟩ : ∃ B, w.heap.size = B := ⟨_, rfl⟩
  have hL := LookAt.new w 24 0 false 0 false false
  have hR := LookAt.new (w.alloc (.cells #[.int .i64 0, .bool false, .int .i8 0, .bool false, .bool false] 24)) 24 0 false 0 false true
  obtain ⟨w0, hW⟩ : ∃ W, (w.alloc (.cells #[.int .i64 0, .bool false, .int .i8 0, .bool false, .bool false] 24)).alloc (.cells #[.int .i64 0, .bool false, .int .i8 0, .bool false, .bool true] 24) = W := ⟨_, rfl⟩
  have hb : Below B w w0 := by rw [← hW]; exact ((Below.refl B w).alloc (by omega) _).alloc (by simp; omega) _
  have hs0 : B + 1 < w0.heap.size := by rw [← hW]; simp; omega
  rw [show (w.alloc (.cells #[.int .i64 0, .bool false, .int .i8 0, .bool false, .bool false] 24)).heap.size = B + 1 by simp [hB], hW] at hR
  have hL2 : LookAt w0 B 0 false 0 false false := by
    rw [hB] at hL
    rw [← hW]
    exact hL.below ((Below.refl (B + 1) _).alloc (by simp; omega) _) (by omega)
  have hTW : Utf8Tabs 0 1 w0 := Utf8Tabs_below hT (by rw [hB]; exact hb)
  rw [hB]
  have L0 := Lib.hid hL2
  have R0 := Lib.hid hR
  have Hb0 := Lib.hid hb
  have T0 := Lib.hid hTW
  clear hL hR hL2 hb hTW hT
  obtain ⟨c0, c1, c2, c3, c4⟩ := L0.out
  obtain ⟨d0, d1, d2, d3, d4⟩ := R0.out
  go_enter Tryd.func9, Tryd.ntmps9
  go_wp2_with fail
  try rw [hW]
  clear hW
  refine (H0.out _ T0.out).mono ?_
  rintro _ w1 ⟨rfl, b1⟩
  have L1 := Lib.hid (L0.out.below b1 (by omega))
  have R1 := Lib.hid (R0.out.below b1 hs0)
  have Hb1 := Lib.hid (Hb0.out.trans (b1.mono (by omega)))
  have T1 := Lib.hid (Utf8Tabs_below T0.out b1)
  have hs1 : B + 1 < w1.heap.size := by have := b1.size; omega
  clear b1 T0 Hb0 L0 R0 H0 hs0 c0 c1 c2 c3 c4 d0 d1 d2 d3 d4
  obtain ⟨c0, c1, c2, c3, c4⟩ := L1.out
  obtain ⟨d0, d1, d2, d3, d4⟩ := R1.out
  go_wp2_with fail
  refine (H1.out _ T1.out).mono ?_
  rintro _ w2 ⟨rfl, b2⟩
  have L2 := Lib.hid (L1.out.below b2 (by omega))
  have R2 := Lib.hid (R1.out.below b2 hs1)
  have Hb2 := Lib.hid (Hb1.out.trans (b2.mono (by omega)))
  have T2 := Lib.hid (Utf8Tabs_below T1.out b2)
  have hs2 : B + 1 < w2.heap.size := by have := b2.size; omega
  clear b2 T1 Hb1 L1 R1 H1 hs1 c0 c1 c2 c3 c4 d0 d1 d2 d3 d4
  obtain ⟨c0, c1, c2, c3, c4⟩ := L2.out
  obtain ⟨d0, d1, d2, d3, d4⟩ := R2.out
  go_wp2_with fail
  refine (H2.out _ T2.out).mono ?_
  rintro _ w3 ⟨rfl, b3⟩
  have L3 := Lib.hid (L2.out.below b3 (by omega))
  have R3 := Lib.hid (R2.out.below b3 hs2)
  have Hb3 := Lib.hid (Hb2.out.trans (b3.mono (by omega)))
  have T3 := Lib.hid (Utf8Tabs_below T2.out b3)
  have hs3 : B + 1 < w3.heap.size := by have := b3.size; omega
  clear b3 T2 Hb2 L2 R2 H2 hs2 c0 c1 c2 c3 c4 d0 d1 d2 d3 d4
  obtain ⟨c0, c1, c2, c3, c4⟩ := L3.out
  obtain ⟨d0, d1, d2, d3, d4⟩ := R3.out
  go_wp2_with fail
  refine (H3.out _ T3.out).mono ?_
  rintro _ w4 ⟨rfl, b4⟩
  have L4 := Lib.hid (L3.out.below b4 (by omega))
  have R4 := Lib.hid (R3.out.below b4 hs3)
  have Hb4 := Lib.hid (Hb3.out.trans (b4.mono (by omega)))
  have T4 := Lib.hid (Utf8Tabs_below T3.out b4)
  have hs4 : B + 1 < w4.heap.size := by have := b4.size; omega
  clear b4 T3 Hb3 L3 R3 H3 hs3 c0 c1 c2 c3 c4 d0 d1 d2 d3 d4
  obtain ⟨c0, c1, c2, c3, c4⟩ := L4.out
  obtain ⟨d0, d1, d2, d3, d4⟩ := R4.out
  go_wp2_with fail
  refine (H4.out _ T4.out).mono ?_
  rintro _ w5 ⟨rfl, b5⟩
  have L5 := Lib.hid (L4.out.below b5 (by omega))
  have R5 := Lib.hid (R4.out.below b5 hs4)
  have Hb5 := Lib.hid (Hb4.out.trans (b5.mono (by omega)))
  have T5 := Lib.hid (Utf8Tabs_below T4.out b5)
  have hs5 : B + 1 < w5.heap.size := by have := b5.size; omega
  clear b5 T4 Hb4 L4 R4 H4 hs4 c0 c1 c2 c3 c4 d0 d1 d2 d3 d4
  obtain ⟨c0, c1, c2, c3, c4⟩ := L5.out
  obtain ⟨d0, d1, d2, d3, d4⟩ := R5.out
  go_wp2_with fail
  refine (H5.out _ T5.out).mono ?_
  rintro _ w6 ⟨rfl, b6⟩
  have L6 := Lib.hid (L5.out.below b6 (by omega))
  have R6 := Lib.hid (R5.out.below b6 hs5)
  have Hb6 := Lib.hid (Hb5.out.trans (b6.mono (by omega)))
  have T6 := Lib.hid (Utf8Tabs_below T5.out b6)
  have hs6 : B + 1 < w6.heap.size := by have := b6.size; omega
  clear b6 T5 Hb5 L5 R5 H5 hs5 c0 c1 c2 c3 c4 d0 d1 d2 d3 d4
  obtain ⟨c0, c1, c2, c3, c4⟩ := L6.out
  obtain ⟨d0, d1, d2, d3, d4⟩ := R6.out
  go_wp2_with fail
  refine (H6.out _ T6.out).mono ?_
  rintro _ w7 ⟨rfl, b7⟩
  have L7 := Lib.hid (L6.out.below b7 (by omega))
  have R7 := Lib.hid (R6.out.below b7 hs6)
  have Hb7 := Lib.hid (Hb6.out.trans (b7.mono (by omega)))
  have T7 := Lib.hid (Utf8Tabs_below T6.out b7)
  have hs7 : B + 1 < w7.heap.size := by have := b7.size; omega
  clear b7 T6 Hb6 L6 R6 H6 hs6 c0 c1 c2 c3 c4 d0 d1 d2 d3 d4
  obtain ⟨c0, c1, c2, c3, c4⟩ := L7.out
  obtain ⟨d0, d1, d2, d3, d4⟩ := R7.out
  go_wp2_with fail
  refine (H7.out _ T7.out).mono ?_
  rintro _ w8 ⟨rfl, b8⟩
  have L8 := Lib.hid (L7.out.below b8 (by omega))
  have R8 := Lib.hid (R7.out.below b8 hs7)
  have Hb8 := Lib.hid (Hb7.out.trans (b8.mono (by omega)))
  have T8 := Lib.hid (Utf8Tabs_below T7.out b8)
  have hs8 : B + 1 < w8.heap.size := by have := b8.size; omega
  clear b8 T7 Hb7 L7 R7 H7 hs7 c0 c1 c2 c3 c4 d0 d1 d2 d3 d4
  obtain ⟨c0, c1, c2, c3, c4⟩ := L8.out
  obtain ⟨d0, d1, d2, d3, d4⟩ := R8.out
  go_wp2_with fail
  refine (H8.out _ T8.out).mono ?_
  rintro _ w9 ⟨rfl, b9⟩
  have L9 := Lib.hid (L8.out.below b9 (by omega))
  have R9 := Lib.hid (R8.out.below b9 hs8)
  have Hb9 := Lib.hid (Hb8.out.trans (b9.mono (by omega)))
  have T9 := Lib.hid (Utf8Tabs_below T8.out b9)
  have hs9 : B + 1 < w9.heap.size := by have := b9.size; omega
  clear b9 T8 Hb8 L8 R8 H8 hs8 c0 c1 c2 c3 c4 d0 d1 d2 d3 d4
  obtain ⟨c0, c1, c2, c3, c4⟩ := L9.out
  obtain ⟨d0, d1, d2, d3, d4⟩ := R9.out
  go_wp2_with fail
  refine (H9.out _ T9.out).mono ?_
  rintro _ w10 ⟨rfl, b10⟩
  have L10 := Lib.hid (L9.out.below b10 (by omega))
  have R10 := Lib.hid (R9.out.below b10 hs9)
  have Hb10 := Lib.hid (Hb9.out.trans (b10.mono (by omega)))
  have T10 := Lib.hid (Utf8Tabs_below T9.out b10)
  have hs10 : B + 1 < w10.heap.size := by have := b10.size; omega
  clear b10 T9 Hb9 L9 R9 H9 hs9 c0 c1 c2 c3 c4 d0 d1 d2 d3 d4
  obtain ⟨c0, c1, c2, c3, c4⟩ := L10.out
  obtain ⟨d0, d1, d2, d3, d4⟩ := R10.out
  go_wp2_with fail
  refine (H10.out _ T10.out).mono ?_
  rintro _ w11 ⟨rfl, b11⟩
  have L11 := Lib.hid (L10.out.below b11 (by omega))
  have R11 := Lib.hid (R10.out.below b11 hs10)
  have Hb11 := Lib.hid (Hb10.out.trans (b11.mono (by omega)))
  have T11 := Lib.hid (Utf8Tabs_below T10.out b11)
  have hs11 : B + 1 < w11.heap.size := by have := b11.size; omega
  clear b11 T10 Hb10 L10 R10 H10 hs10 c0 c1 c2 c3 c4 d0 d1 d2 d3 d4
  obtain ⟨c0, c1, c2, c3, c4⟩ := L11.out
  obtain ⟨d0, d1, d2, d3, d4⟩ := R11.out
  go_wp2_with fail
  refine (H11.out _ T11.out).mono ?_
  rintro _ w12 ⟨rfl, b12⟩
  have L12 := Lib.hid (L11.out.below b12 (by omega))
  have R12 := Lib.hid (R11.out.below b12 hs11)
  have Hb12 := Lib.hid (Hb11.out.trans (b12.mono (by omega)))
  have T12 := Lib.hid (Utf8Tabs_below T11.out b12)
  have hs12 : B + 1 < w12.heap.size := by have := b12.size; omega
  clear b12 T11 Hb11 L11 R11 H11 hs11 c0 c1 c2 c3 c4 d0 d1 d2 d3 d4
  obtain ⟨c0, c1, c2, c3, c4⟩ := L12.out
  obtain ⟨d0, d1, d2, d3, d4⟩ := R12.out
  go_wp2_with fail
  refine (H12.out _ T12.out).mono ?_
  rintro _ w13 ⟨rfl, b13⟩
  have L13 := Lib.hid (L12.out.below b13 (by omega))
  have R13 := Lib.hid (R12.out.below b13 hs12)
  have Hb13 := Lib.hid (Hb12.out.trans (b13.mono (by omega)))
  have T13 := Lib.hid (Utf8Tabs_below T12.out b13)
  have hs13 : B + 1 < w13.heap.size := by have := b13.size; omega
  clear b13 T12 Hb12 L12 R12 H12 hs12 c0 c1 c2 c3 c4 d0 d1 d2 d3 d4
  obtain ⟨c0, c1, c2, c3, c4⟩ := L13.out
  obtain ⟨d0, d1, d2, d3, d4⟩ := R13.out
  go_wp2_with fail
  refine (H13.out _ T13.out).mono ?_
  rintro _ w14 ⟨rfl, b14⟩
  have L14 := Lib.hid (L13.out.below b14 (by omega))
  have R14 := Lib.hid (R13.out.below b14 hs13)
  have Hb14 := Lib.hid (Hb13.out.trans (b14.mono (by omega)))
  have T14 := Lib.hid (Utf8Tabs_below T13.out b14)
  have hs14 : B + 1 < w14.heap.size := by have := b14.size; omega
  clear b14 T13 Hb13 L13 R13 H13 hs13 c0 c1 c2 c3 c4 d0 d1 d2 d3 d4
  obtain ⟨c0, c1, c2, c3, c4⟩ := L14.out
  obtain ⟨d0, d1, d2, d3, d4⟩ := R14.out
  go_wp2_with fail
  refine (H14.out _ T14.out).mono ?_
  rintro _ w15 ⟨rfl, b15⟩
  have L15 := Lib.hid (L14.out.below b15 (by omega))
  have R15 := Lib.hid (R14.out.below b15 hs14)
  have Hb15 := Lib.hid (Hb14.out.trans (b15.mono (by omega)))
  have T15 := Lib.hid (Utf8Tabs_below T14.out b15)
  have hs15 : B + 1 < w15.heap.size := by have := b15.size; omega
  clear b15 T14 Hb14 L14 R14 H14 hs14 c0 c1 c2 c3 c4 d0 d1 d2 d3 d4
  obtain ⟨c0, c1, c2, c3, c4⟩ := L15.out
  obtain ⟨d0, d1, d2, d3, d4⟩ := R15.out
  go_wp2_with fail
  refine (H15.out _ T15.out).mono ?_
  rintro _ w16 ⟨rfl, b16⟩
  have L16 := Lib.hid (L15.out.below b16 (by omega))
  have R16 := Lib.hid (R15.out.below b16 hs15)
  have Hb16 := Lib.hid (Hb15.out.trans (b16.mono (by omega)))
  have T16 := Lib.hid (Utf8Tabs_below T15.out b16)
  have hs16 : B + 1 < w16.heap.size := by have := b16.size; omega
  clear b16 T15 Hb15 L15 R15 H15 hs15 c0 c1 c2 c3 c4 d0 d1 d2 d3 d4
  obtain ⟨c0, c1, c2, c3, c4⟩ := L16.out
  obtain ⟨d0, d1, d2, d3, d4⟩ := R16.out
  go_wp2_with fail
  refine (H16.out _ T16.out).mono ?_
  rintro _ w17 ⟨rfl, b17⟩
  have L17 := Lib.hid (L16.out.below b17 (by omega))
  have R17 := Lib.hid (R16.out.below b17 hs16)
  have Hb17 := Lib.hid (Hb16.out.trans (b17.mono (by omega)))
  have T17 := Lib.hid (Utf8Tabs_below T16.out b17)
  have hs17 : B + 1 < w17.heap.size := by have := b17.size; omega
  clear b17 T16 Hb16 L16 R16 H16 hs16 c0 c1 c2 c3 c4 d0 d1 d2 d3 d4
  obtain ⟨c0, c1, c2, c3, c4⟩ := L17.out
  obtain ⟨d0, d1, d2, d3, d4⟩ := R17.out
  go_wp2_with fail
  refine (H17.out _ T17.out).mono ?_
  rintro _ w18 ⟨rfl, b18⟩
  have L18 := Lib.hid (L17.out.below b18 (by omega))
  have R18 := Lib.hid (R17.out.below b18 hs17)
  have Hb18 := Lib.hid (Hb17.out.trans (b18.mono (by omega)))
  have T18 := Lib.hid (Utf8Tabs_below T17.out b18)
  have hs18 : B + 1 < w18.heap.size := by have := b18.size; omega
  clear b18 T17 Hb17 L17 R17 H17 hs17 c0 c1 c2 c3 c4 d0 d1 d2 d3 d4
  obtain ⟨c0, c1, c2, c3, c4⟩ := L18.out
  obtain ⟨d0, d1, d2, d3, d4⟩ := R18.out
  go_wp2_with fail
  refine (H18.out _ T18.out).mono ?_
  rintro _ w19 ⟨rfl, b19⟩
  have L19 := Lib.hid (L18.out.below b19 (by omega))
  have R19 := Lib.hid (R18.out.below b19 hs18)
  have Hb19 := Lib.hid (Hb18.out.trans (b19.mono (by omega)))
  have T19 := Lib.hid (Utf8Tabs_below T18.out b19)
  have hs19 : B + 1 < w19.heap.size := by have := b19.size; omega
  clear b19 T18 Hb18 L18 R18 H18 hs18 c0 c1 c2 c3 c4 d0 d1 d2 d3 d4
  obtain ⟨c0, c1, c2, c3, c4⟩ := L19.out
  obtain ⟨d0, d1, d2, d3, d4⟩ := R19.out
  go_wp2_with fail
  refine (H19.out _ T19.out).mono ?_
  rintro _ w20 ⟨rfl, b20⟩
  have L20 := Lib.hid (L19.out.below b20 (by omega))
  have R20 := Lib.hid (R19.out.below b20 hs19)
  have Hb20 := Lib.hid (Hb19.out.trans (b20.mono (by omega)))
  have T20 := Lib.hid (Utf8Tabs_below T19.out b20)
  have hs20 : B + 1 < w20.heap.size := by have := b20.size; omega
  clear b20 T19 Hb19 L19 R19 H19 hs19 c0 c1 c2 c3 c4 d0 d1 d2 d3 d4
  obtain ⟨c0, c1, c2, c3, c4⟩ := L20.out
  obtain ⟨d0, d1, d2, d3, d4⟩ := R20.out
  go_wp2_with fail
  refine (H20.out _ T20.out).mono ?_
  rintro _ w21 ⟨rfl, b21⟩
  have L21 := Lib.hid (L20.out.below b21 (by omega))
  have R21 := Lib.hid (R20.out.below b21 hs20)
  have Hb21 := Lib.hid (Hb20.out.trans (b21.mono (by omega)))
  have T21 := Lib.hid (Utf8Tabs_below T20.out b21)
  have hs21 : B + 1 < w21.heap.size := by have := b21.size; omega
  clear b21 T20 Hb20 L20 R20 H20 hs20 c0 c1 c2 c3 c4 d0 d1 d2 d3 d4
  obtain ⟨c0, c1, c2, c3, c4⟩ := L21.out
  obtain ⟨d0, d1, d2, d3, d4⟩ := R21.out
  go_wp2_with fail
  refine (H21.out _ T21.out).mono ?_
  rintro _ w22 ⟨rfl, b22⟩
  have L22 := Lib.hid (L21.out.below b22 (by omega))
  have R22 := Lib.hid (R21.out.below b22 hs21)
  have Hb22 := Lib.hid (Hb21.out.trans (b22.mono (by omega)))
  have T22 := Lib.hid (Utf8Tabs_below T21.out b22)
  have hs22 : B + 1 < w22.heap.size := by have := b22.size; omega
  clear b22 T21 Hb21 L21 R21 H21 hs21 c0 c1 c2 c3 c4 d0 d1 d2 d3 d4
  obtain ⟨c0, c1, c2, c3, c4⟩ := L22.out
  obtain ⟨d0, d1, d2, d3, d4⟩ := R22.out
  go_wp2_with fail
  refine (H22.out _ T22.out).mono ?_
  rintro _ w23 ⟨rfl, b23⟩
  have L23 := Lib.hid (L22.out.below b23 (by omega))
  have R23 := Lib.hid (R22.out.below b23 hs22)
  have Hb23 := Lib.hid (Hb22.out.trans (b23.mono (by omega)))
  have T23 := Lib.hid (Utf8Tabs_below T22.out b23)
  have hs23 : B + 1 < w23.heap.size := by have := b23.size; omega
  clear b23 T22 Hb22 L22 R22 H22 hs22 c0 c1 c2 c3 c4 d0 d1 d2 d3 d4
  obtain ⟨c0, c1, c2, c3, c4⟩ := L23.out
  obtain ⟨d0, d1, d2, d3, d4⟩ := R23.out
  go_wp2_with fail
  go_loopw [6, 7] (fun v i wr => ∃ k : Nat, k ≤ 32 ∧ i = .int .i64 k ∧ wr.ownsRow w23.heap.size 5 1 v (k * 2) (Lib.byteCells (mk6 k)) ∧ Below w23.heap.size w23 wr) (fun _ i _ => 32 - (RowKit.intOf i).toNat)
  case atStart => exact ⟨0, Nat.zero_le _, rfl, World.ownsRow_nil _ _ _ _, Below.refl _ _⟩
  case round =>
    rename_i v i wr
    obtain ⟨k, hk, rfl, hown, hbw⟩ := hrel
    have hbs : w23.heap.size ≤ wr.heap.size := hbw.size
    by_cases hk32 : k < 32
    · have hki : (k : Int) < 32 := by omega
      have Hown := Lib.hid hown
      have Hbw := Lib.hid hbw
      have hs2 : (⟨#[204, 129]⟩ : ByteArray).size = 2 := rfl
      have c3' : k * 2 + (⟨#[204, 129]⟩ : ByteArray).size ≤ maxLen := by rw [hs2]; unfold maxLen; omega
      have c4' : k * 2 + (⟨#[204, 129]⟩ : ByteArray).size ≤ 140737488355328 := by rw [hs2]; omega
      clear hown hbw
      go_wp2_with (at_builtin; refine Hid.out ?_)
      refine Lib.hid ?_
      refine wpList_append_own_string _ rfl _ _ 38 9 rfl w23.heap.size 5 i0 Tryd.underlying38 Tryd.underlying9 hi hz0 hz1 hz2 _ _ _ rfl Hown.out ⟨#[204, 129]⟩ rfl c3' c4' hbs ?_
      intro v' w2 hown2 hg2 _
      have hfin : w2.ownsRow w23.heap.size 5 1 v' ((k + 1) * 2) (Lib.byteCells (mk6 (k + 1))) ∧ Below w23.heap.size w23 w2 := by
        refine ⟨?_, Hbw.out.grown hg2 hbs (fun i hi => (Hown.out.lt i hi).1)⟩
        rw [hs2, show k * 2 + 2 = (k + 1) * 2 by omega] at hown2
        rw [mk6_succ]
        unfold Lib.byteCells
        rw [List.map_append]
        exact hown2
      have Hfin := Lib.hid hfin
      clear hown2 hg2 hfin
      go_wp2
      exact ⟨⟨k + 1, by omega, by go_num, Hfin.out.1, Hfin.out.2⟩, by simp only [RowKit.intOf]; omega⟩
    · obtain rfl : k = 32 := by omega
      obtain ⟨g, cap, hv, _, hlt⟩ := hown.form (by omega)
      subst hv
      have hcells := hown.cells (g := g) rfl
      have hnc : 64 ≤ cap := by obtain ⟨_, _, h1, h2, _⟩ := own_shape hown; cases h1; exact h2
      have h64 : ∀ W, Below wr.heap.size wr W → (convert 38 9 (.slice (some ⟨g, 0, none⟩) 64 cap)).run Tryd.prog W = .ok (.string tm64) W := fun W hb =>
        run_convert_bytes_back W _ _ 5 ⟨g, 0, none⟩ cap (mk6 32) Tryd.underlying38 Tryd.underlying5 Tryd.underlying9 (fun j hj => by
          refine (hb.cell (p := (⟨g, 0, none⟩ : Addr).add j) (by rw [add_block]; exact hlt)).trans (hcells j _ ?_)
          unfold Lib.byteCells
          rw [List.getElem?_map, List.getElem?_eq_getElem hj]
          rfl)
      have h62 : ∀ W, Below wr.heap.size wr W → (convert 38 9 (.slice (some ⟨g, 0, none⟩) 62 cap)).run Tryd.prog W = .ok (.string tm62) W := fun W hb => by
        have h := run_convert_bytes_back W _ _ 5 ⟨g, 0, none⟩ cap ((mk6 32).take 62) Tryd.underlying38 Tryd.underlying5 Tryd.underlying9 (fun j hj => by
          refine (hb.cell (p := (⟨g, 0, none⟩ : Addr).add j) (by rw [add_block]; exact hlt)).trans (hcells j _ ?_)
          have hj2 : j < 62 := by rw [List.length_take] at hj; omega
          have hj3 : j < (mk6 32).length := by rw [mk6_len]; omega
          unfold Lib.byteCells
          rw [List.getElem?_map, List.getElem?_eq_getElem hj3, List.getElem_take]
          rfl)
        rw [mk6_take] at h
        exact h
      have HS : Hid (∀ W, Below wr.heap.size wr W → (fun W => ((convert 38 9 (.slice (some ⟨g, 0, none⟩) 64 cap)).run Tryd.prog W = .ok (.string tm64) W ∧ (convert 38 9 (.slice (some ⟨g, 0, none⟩) 62 cap)).run Tryd.prog W = .ok (.string tm62) W) ∧ (W.cell? ⟨B, 0, none⟩ = some (.int .i64 0) ∧ W.cell? ⟨B, 1, none⟩ = some (.bool false) ∧ W.cell? ⟨B, 2, none⟩ = some (.int .i8 0) ∧ W.cell? ⟨B, 3, none⟩ = some (.bool false) ∧ W.cell? ⟨B, 4, none⟩ = some (.bool false)) ∧ (W.cell? ⟨B + 1, 0, none⟩ = some (.int .i64 0) ∧ W.cell? ⟨B + 1, 1, none⟩ = some (.bool false) ∧ W.cell? ⟨B + 1, 2, none⟩ = some (.int .i8 0) ∧ W.cell? ⟨B + 1, 3, none⟩ = some (.bool false) ∧ W.cell? ⟨B + 1, 4, none⟩ = some (.bool true))) W) := Lib.hid (fun W hb => by
        have hbB : Below (B + 2) w23 W := (hbw.mono (by omega)).trans (hb.mono (by omega))
        have q1 := L23.out.below hbB (by omega)
        have q2 := R23.out.below hbB (by omega)
        exact ⟨⟨h64 W hb, h62 W hb⟩, ⟨q1.c0, q1.c1, q1.c2, q1.c3, q1.c4⟩, ⟨q2.c0, q2.c1, q2.c2, q2.c3, q2.c4⟩⟩)
      have Hv0 := Lib.hid ((Below.refl wr.heap.size wr).drew)
      have hc62 : 62 ≤ cap := by omega
      have hc62i : (62 : Int) ≤ (cap : Int) := by omega
      have ht1 := tm_size.1
      have ht2 := tm_size.2
      have HTd := Lib.hid (show Utf8Tabs 0 1 wr from Utf8Tabs_below T23.out hbw)
      have Hbw := Lib.hid (Hb23.out.trans (hbw.mono (by omega)))
      have hkn : ¬ (((32 : Nat) : Int) < 32) := by omega
      have hBr : B ≤ wr.heap.size := by omega
      rw [show (32 * 2 : Nat) = 64 from rfl]
      clear hcells h64 h62 hown hbw c0 c1 c2 c3 c4 d0 d1 d2 d3 d4
      go_wp2_with fail

      refine wp_region_noPanic ?_
      refine wp_region_held_drew (S := (fun W => ((convert 38 9 (.slice (some ⟨g, 0, none⟩) 64 cap)).run Tryd.prog W = .ok (.string tm64) W ∧ (convert 38 9 (.slice (some ⟨g, 0, none⟩) 62 cap)).run Tryd.prog W = .ok (.string tm62) W) ∧ (W.cell? ⟨B, 0, none⟩ = some (.int .i64 0) ∧ W.cell? ⟨B, 1, none⟩ = some (.bool false) ∧ W.cell? ⟨B, 2, none⟩ = some (.int .i8 0) ∧ W.cell? ⟨B, 3, none⟩ = some (.bool false) ∧ W.cell? ⟨B, 4, none⟩ = some (.bool false)) ∧ (W.cell? ⟨B + 1, 0, none⟩ = some (.int .i64 0) ∧ W.cell? ⟨B + 1, 1, none⟩ = some (.bool false) ∧ W.cell? ⟨B + 1, 2, none⟩ = some (.int .i8 0) ∧ W.cell? ⟨B + 1, 3, none⟩ = some (.bool false) ∧ W.cell? ⟨B + 1, 4, none⟩ = some (.bool true)))) (by kernel_rfl) (HS.out _ Hv0.out) (fun hHeld => ?_)
      refine wpAnyH_take (i := 0) (oi := ({ dst := some 107, op := Op.move (Operand.tmp 5), type := 4, pos := "outright.go:104", after := #[], guard := none } : Oper)) (v := ?_) rfl (by kernel_rfl) (by kernel_rfl) (by kernel_rfl) (fun _ _ _ h => h) (Or.inl ⟨by rfl, ?_⟩) (by assumption) ?_
      rotate_left
      · (intro w hSw; (try dsimp only at hSw); go_simp; all_goals (with_reducible rfl))
      try simp only [Act.put, List.setIfInBounds_toArray, List.set_cons_zero, List.set_cons_succ]
      refine wpAnyH_take (i := 1) (oi := ({ dst := some 108, op := Op.move (Operand.tmp 107), type := 4, pos := "outright.go:104", after := #[{ on := 0, ground := Ground.data }], guard := none } : Oper)) (v := ?_) rfl (by kernel_rfl) (by kernel_rfl) (by kernel_rfl) (fun _ _ _ h => h) (Or.inl ⟨by rfl, ?_⟩) (by assumption) ?_
      rotate_left
      · (intro w hSw; (try dsimp only at hSw); go_simp; all_goals (with_reducible rfl))
      try simp only [Act.put, List.setIfInBounds_toArray, List.set_cons_zero, List.set_cons_succ]
      refine wpAnyH_take (i := 2) (oi := ({ dst := some 109, op := Op.move (Operand.tmp 6), type := 38, pos := "outright.go:104", after := #[{ on := 1, ground := Ground.guard }], guard := some (1, true) } : Oper)) (v := ?_) rfl (by kernel_rfl) (by kernel_rfl) (by kernel_rfl) (fun _ _ _ h => h) (Or.inl ⟨by rfl, ?_⟩) (by assumption) ?_
      rotate_left
      · (intro w hSw; (try dsimp only at hSw); go_simp; all_goals (with_reducible rfl))
      try simp only [Act.put, List.setIfInBounds_toArray, List.set_cons_zero, List.set_cons_succ]
      refine wpAnyH_take (i := 3) (oi := ({ dst := some 110, op := Op.convert 38 9 (Operand.tmp 109), type := 9, pos := "outright.go:104", after := #[{ on := 2, ground := Ground.data }, { on := 1, ground := Ground.guard }], guard := some (1, true) } : Oper)) (v := ?_) rfl (by kernel_rfl) (by kernel_rfl) (by kernel_rfl) (fun _ _ _ h => h) (Or.inl ⟨by rfl, ?_⟩) (by assumption) ?_
      rotate_left
      · (intro w hSw; (try dsimp only at hSw); go_simp; all_goals (with_reducible rfl))
      try simp only [Act.put, List.setIfInBounds_toArray, List.set_cons_zero, List.set_cons_succ]
      refine wpAnyH_take (i := 4) (oi := ({ dst := some 111, op := Op.load 24 (Operand.tmp 1), type := 24, pos := "outright.go:104", after := #[{ on := 1, ground := Ground.guard }], guard := some (1, true) } : Oper)) (v := ?_) rfl (by kernel_rfl) (by kernel_rfl) (by kernel_rfl) (fun _ _ _ h => h) (Or.inl ⟨by rfl, ?_⟩) (by assumption) ?_
      rotate_left
      · (intro w hSw; (try dsimp only at hSw); go_simp; all_goals (with_reducible rfl))
      try simp only [Act.put, List.setIfInBounds_toArray, List.set_cons_zero, List.set_cons_succ]
      refine wpAnyH_take (i := 5) (oi := ({ dst := some 112, op := Op.move (Operand.tmp 6), type := 38, pos := "outright.go:104", after := #[{ on := 1, ground := Ground.guard }], guard := some (1, true) } : Oper)) (v := ?_) rfl (by kernel_rfl) (by kernel_rfl) (by kernel_rfl) (fun _ _ _ h => h) (Or.inl ⟨by rfl, ?_⟩) (by assumption) ?_
      rotate_left
      · (intro w hSw; (try dsimp only at hSw); go_simp; all_goals (with_reducible rfl))
      try simp only [Act.put, List.setIfInBounds_toArray, List.set_cons_zero, List.set_cons_succ]
      refine wpAnyH_take (i := 6) (oi := ({ dst := some 113, op := Op.slice 38 (Operand.tmp 112) none (some (Operand.const (Value.int IntKind.i64 62))) none, type := 38, pos := "outright.go:104", after := #[{ on := 5, ground := Ground.data }, { on := 1, ground := Ground.guard }], guard := some (1, true) } : Oper)) (v := ?_) rfl (by kernel_rfl) (by kernel_rfl) (by kernel_rfl) (fun _ _ _ h => h) (Or.inl ⟨by rfl, ?_⟩) (by assumption) ?_
      rotate_left
      · (intro w hSw; (try dsimp only at hSw); go_simp; all_goals (with_reducible rfl))
      try simp only [Act.put, List.setIfInBounds_toArray, List.set_cons_zero, List.set_cons_succ]
      refine wpAnyH_take (i := 7) (oi := ({ dst := some 114, op := Op.convert 38 9 (Operand.tmp 113), type := 9, pos := "outright.go:104", after := #[{ on := 6, ground := Ground.data }, { on := 1, ground := Ground.guard }], guard := some (1, true) } : Oper)) (v := ?_) rfl (by kernel_rfl) (by kernel_rfl) (by kernel_rfl) (fun _ _ _ h => h) (Or.inl ⟨by rfl, ?_⟩) (by assumption) ?_
      rotate_left
      · (intro w hSw; (try dsimp only at hSw); go_simp; all_goals (with_reducible rfl))
      try simp only [Act.put, List.setIfInBounds_toArray, List.set_cons_zero, List.set_cons_succ]
      refine wpAnyH_take (i := 8) (oi := ({ dst := some 115, op := Op.binOp BinOp.add 9 (Operand.const (Value.string { data := #[226, 151, 140] })) (Operand.tmp 114) 9, type := 9, pos := "outright.go:104", after := #[{ on := 7, ground := Ground.data }, { on := 1, ground := Ground.guard }], guard := some (1, true) } : Oper)) (v := ?_) rfl (by kernel_rfl) (by kernel_rfl) (by kernel_rfl) (fun _ _ _ h => h) (Or.inl ⟨by rfl, ?_⟩) (by assumption) ?_
      rotate_left
      · (intro w hSw; (try dsimp only at hSw); go_simp; all_goals (with_reducible rfl))
      try simp only [Act.put, List.setIfInBounds_toArray, List.set_cons_zero, List.set_cons_succ]
      refine wpAnyH_ready (rs := [9]) (by kernel_rfl) (by simp) ?_
      refine AllReadyH.cons (o := ({ dst := some 116, op := Op.call { callee := Callee.value (Operand.func 21), args := #[Operand.tmp 110, Operand.const (Value.int IntKind.i64 0), Operand.tmp 111, Operand.tmp 115, Operand.const (Value.int IntKind.i64 1)], argTypes := #[9, 3, 24, 9, 3] }, type := 4, pos := "outright.go:104", after := #[{ on := 3, ground := Ground.data }, { on := 4, ground := Ground.data }, { on := 8, ground := Ground.data }, { on := 1, ground := Ground.chain }, { on := 1, ground := Ground.guard }], guard := some (1, true) } : Oper)) rfl (fun K hK => ?_) AllReadyH.nil
      (go_simp; go_at_call 21; refine (H23.out _ (Utf8Tabs_below HTd.out Hv0.out)).mono ?_; rintro _ v1 ⟨rfl, bb1⟩; have Hv1 := Lib.hid (Hv0.out.trans (bb1.mono Hv0.out.size)); clear bb1; (try dsimp only))
      refine hK.out _ _ (HS.out _ Hv1.out) (fun hHeld => ?_)
      clear hK K
      try simp only [Act.put, List.setIfInBounds_toArray, List.set_cons_zero, List.set_cons_succ]
      refine wpAnyH_take (i := 10) (oi := ({ dst := some 117, op := Op.pick (Operand.tmp 108) (Operand.tmp 116) (Operand.const (Value.bool false)), type := 4, pos := "outright.go:104", after := #[{ on := 1, ground := Ground.data }, { on := 9, ground := Ground.data }], guard := none } : Oper)) (v := ?_) rfl (by kernel_rfl) (by kernel_rfl) (by kernel_rfl) (fun _ _ _ h => h) (Or.inl ⟨by rfl, ?_⟩) (by assumption) ?_
      rotate_left
      · (intro w hSw; (try dsimp only at hSw); go_simp; all_goals (with_reducible rfl))
      try simp only [Act.put, List.setIfInBounds_toArray, List.set_cons_zero, List.set_cons_succ]
      refine wpAnyH_take (i := 11) (oi := ({ dst := some 118, op := Op.move (Operand.tmp 117), type := 4, pos := "outright.go:104", after := #[{ on := 10, ground := Ground.data }, { on := 9, ground := Ground.chain }], guard := none } : Oper)) (v := ?_) rfl (by kernel_rfl) (by kernel_rfl) (by kernel_rfl) (fun _ _ _ h => h) (Or.inl ⟨by rfl, ?_⟩) (by assumption) ?_
      rotate_left
      · (intro w hSw; (try dsimp only at hSw); go_simp; all_goals (with_reducible rfl))
      try simp only [Act.put, List.setIfInBounds_toArray, List.set_cons_zero, List.set_cons_succ]
      refine wpAnyH_take (i := 12) (oi := ({ dst := some 119, op := Op.move (Operand.tmp 6), type := 38, pos := "outright.go:104", after := #[{ on := 11, ground := Ground.guard }], guard := some (11, true) } : Oper)) (v := ?_) rfl (by kernel_rfl) (by kernel_rfl) (by kernel_rfl) (fun _ _ _ h => h) (Or.inl ⟨by rfl, ?_⟩) (by assumption) ?_
      rotate_left
      · (intro w hSw; (try dsimp only at hSw); go_simp; all_goals (with_reducible rfl))
      try simp only [Act.put, List.setIfInBounds_toArray, List.set_cons_zero, List.set_cons_succ]
      refine wpAnyH_take (i := 13) (oi := ({ dst := some 120, op := Op.slice 38 (Operand.tmp 119) none (some (Operand.const (Value.int IntKind.i64 62))) none, type := 38, pos := "outright.go:104", after := #[{ on := 12, ground := Ground.data }, { on := 11, ground := Ground.guard }], guard := some (11, true) } : Oper)) (v := ?_) rfl (by kernel_rfl) (by kernel_rfl) (by kernel_rfl) (fun _ _ _ h => h) (Or.inl ⟨by rfl, ?_⟩) (by assumption) ?_
      rotate_left
      · (intro w hSw; (try dsimp only at hSw); go_simp; all_goals (with_reducible rfl))
      try simp only [Act.put, List.setIfInBounds_toArray, List.set_cons_zero, List.set_cons_succ]
      refine wpAnyH_take (i := 14) (oi := ({ dst := some 121, op := Op.convert 38 9 (Operand.tmp 120), type := 9, pos := "outright.go:104", after := #[{ on := 13, ground := Ground.data }, { on := 11, ground := Ground.guard }], guard := some (11, true) } : Oper)) (v := ?_) rfl (by kernel_rfl) (by kernel_rfl) (by kernel_rfl) (fun _ _ _ h => h) (Or.inl ⟨by rfl, ?_⟩) (by assumption) ?_
      rotate_left
      · (intro w hSw; (try dsimp only at hSw); go_simp; all_goals (with_reducible rfl))
      try simp only [Act.put, List.setIfInBounds_toArray, List.set_cons_zero, List.set_cons_succ]
      refine wpAnyH_take (i := 15) (oi := ({ dst := some 122, op := Op.load 24 (Operand.tmp 1), type := 24, pos := "outright.go:104", after := #[{ on := 11, ground := Ground.guard }], guard := some (11, true) } : Oper)) (v := ?_) rfl (by kernel_rfl) (by kernel_rfl) (by kernel_rfl) (fun _ _ _ h => h) (Or.inl ⟨by rfl, ?_⟩) (by assumption) ?_
      rotate_left
      · (intro w hSw; (try dsimp only at hSw); go_simp; all_goals (with_reducible rfl))
      try simp only [Act.put, List.setIfInBounds_toArray, List.set_cons_zero, List.set_cons_succ]
      refine wpAnyH_take (i := 16) (oi := ({ dst := some 123, op := Op.move (Operand.tmp 6), type := 38, pos := "outright.go:104", after := #[{ on := 11, ground := Ground.guard }], guard := some (11, true) } : Oper)) (v := ?_) rfl (by kernel_rfl) (by kernel_rfl) (by kernel_rfl) (fun _ _ _ h => h) (Or.inl ⟨by rfl, ?_⟩) (by assumption) ?_
      rotate_left
      · (intro w hSw; (try dsimp only at hSw); go_simp; all_goals (with_reducible rfl))
      try simp only [Act.put, List.setIfInBounds_toArray, List.set_cons_zero, List.set_cons_succ]
      refine wpAnyH_take (i := 17) (oi := ({ dst := some 124, op := Op.slice 38 (Operand.tmp 123) none (some (Operand.const (Value.int IntKind.i64 62))) none, type := 38, pos := "outright.go:104", after := #[{ on := 16, ground := Ground.data }, { on := 11, ground := Ground.guard }], guard := some (11, true) } : Oper)) (v := ?_) rfl (by kernel_rfl) (by kernel_rfl) (by kernel_rfl) (fun _ _ _ h => h) (Or.inl ⟨by rfl, ?_⟩) (by assumption) ?_
      rotate_left
      · (intro w hSw; (try dsimp only at hSw); go_simp; all_goals (with_reducible rfl))
      try simp only [Act.put, List.setIfInBounds_toArray, List.set_cons_zero, List.set_cons_succ]
      refine wpAnyH_take (i := 18) (oi := ({ dst := some 125, op := Op.convert 38 9 (Operand.tmp 124), type := 9, pos := "outright.go:104", after := #[{ on := 17, ground := Ground.data }, { on := 11, ground := Ground.guard }], guard := some (11, true) } : Oper)) (v := ?_) rfl (by kernel_rfl) (by kernel_rfl) (by kernel_rfl) (fun _ _ _ h => h) (Or.inl ⟨by rfl, ?_⟩) (by assumption) ?_
      rotate_left
      · (intro w hSw; (try dsimp only at hSw); go_simp; all_goals (with_reducible rfl))
      try simp only [Act.put, List.setIfInBounds_toArray, List.set_cons_zero, List.set_cons_succ]
      refine wpAnyH_take (i := 19) (oi := ({ dst := some 126, op := Op.binOp BinOp.add 9 (Operand.const (Value.string { data := #[226, 151, 140] })) (Operand.tmp 125) 9, type := 9, pos := "outright.go:104", after := #[{ on := 18, ground := Ground.data }, { on := 11, ground := Ground.guard }], guard := some (11, true) } : Oper)) (v := ?_) rfl (by kernel_rfl) (by kernel_rfl) (by kernel_rfl) (fun _ _ _ h => h) (Or.inl ⟨by rfl, ?_⟩) (by assumption) ?_
      rotate_left
      · (intro w hSw; (try dsimp only at hSw); go_simp; all_goals (with_reducible rfl))
      try simp only [Act.put, List.setIfInBounds_toArray, List.set_cons_zero, List.set_cons_succ]
      refine wpAnyH_ready (rs := [20]) (by kernel_rfl) (by simp) ?_
      refine AllReadyH.cons (o := ({ dst := some 127, op := Op.call { callee := Callee.value (Operand.func 21), args := #[Operand.tmp 121, Operand.const (Value.int IntKind.i64 0), Operand.tmp 122, Operand.tmp 126, Operand.const (Value.int IntKind.i64 1)], argTypes := #[9, 3, 24, 9, 3] }, type := 4, pos := "outright.go:104", after := #[{ on := 14, ground := Ground.data }, { on := 15, ground := Ground.data }, { on := 19, ground := Ground.data }, { on := 11, ground := Ground.chain }, { on := 11, ground := Ground.guard }], guard := some (11, true) } : Oper)) rfl (fun K hK => ?_) AllReadyH.nil
      (go_simp; go_at_call 21; refine (H24.out _ (Utf8Tabs_below HTd.out Hv1.out)).mono ?_; rintro _ v2 ⟨rfl, bb2⟩; have Hv2 := Lib.hid (Hv1.out.trans (bb2.mono Hv1.out.size)); clear bb2; (try dsimp only))
      refine hK.out _ _ (HS.out _ Hv2.out) (fun hHeld => ?_)
      clear hK K
      try simp only [Act.put, List.setIfInBounds_toArray, List.set_cons_zero, List.set_cons_succ]
      refine wpAnyH_take (i := 21) (oi := ({ dst := some 128, op := Op.pick (Operand.tmp 118) (Operand.tmp 127) (Operand.const (Value.bool false)), type := 4, pos := "outright.go:104", after := #[{ on := 11, ground := Ground.data }, { on := 20, ground := Ground.data }], guard := none } : Oper)) (v := ?_) rfl (by kernel_rfl) (by kernel_rfl) (by kernel_rfl) (fun _ _ _ h => h) (Or.inl ⟨by rfl, ?_⟩) (by assumption) ?_
      rotate_left
      · (intro w hSw; (try dsimp only at hSw); go_simp; all_goals (with_reducible rfl))
      try simp only [Act.put, List.setIfInBounds_toArray, List.set_cons_zero, List.set_cons_succ]
      refine wpAnyH_take (i := 22) (oi := ({ dst := some 129, op := Op.move (Operand.tmp 128), type := 4, pos := "outright.go:104", after := #[{ on := 21, ground := Ground.data }, { on := 20, ground := Ground.chain }], guard := none } : Oper)) (v := ?_) rfl (by kernel_rfl) (by kernel_rfl) (by kernel_rfl) (fun _ _ _ h => h) (Or.inl ⟨by rfl, ?_⟩) (by assumption) ?_
      rotate_left
      · (intro w hSw; (try dsimp only at hSw); go_simp; all_goals (with_reducible rfl))
      try simp only [Act.put, List.setIfInBounds_toArray, List.set_cons_zero, List.set_cons_succ]
      refine wpAnyH_take (i := 23) (oi := ({ dst := some 130, op := Op.load 24 (Operand.tmp 1), type := 24, pos := "outright.go:104", after := #[{ on := 22, ground := Ground.guard }], guard := some (22, true) } : Oper)) (v := ?_) rfl (by kernel_rfl) (by kernel_rfl) (by kernel_rfl) (fun _ _ _ h => h) (Or.inl ⟨by rfl, ?_⟩) (by assumption) ?_
      rotate_left
      · (intro w hSw; (try dsimp only at hSw); go_simp; all_goals (with_reducible rfl))
      try simp only [Act.put, List.setIfInBounds_toArray, List.set_cons_zero, List.set_cons_succ]
      refine wpAnyH_ready (rs := [24]) (by kernel_rfl) (by simp) ?_
      refine AllReadyH.cons (o := ({ dst := some 131, op := Op.call { callee := Callee.value (Operand.func 21), args := #[Operand.const (Value.string { data := #[194, 169, 239, 184, 143] }), Operand.const (Value.int IntKind.i64 0), Operand.tmp 130, Operand.const (Value.string { data := #[194, 169, 239, 184, 143] }), Operand.const (Value.int IntKind.i64 2)], argTypes := #[9, 3, 24, 9, 3] }, type := 4, pos := "outright.go:104", after := #[{ on := 23, ground := Ground.data }, { on := 22, ground := Ground.chain }, { on := 22, ground := Ground.guard }], guard := some (22, true) } : Oper)) rfl (fun K hK => ?_) AllReadyH.nil
      (go_simp; go_at_call 21; refine (H25.out _ (Utf8Tabs_below HTd.out Hv2.out)).mono ?_; rintro _ v3 ⟨rfl, bb3⟩; have Hv3 := Lib.hid (Hv2.out.trans (bb3.mono Hv2.out.size)); clear bb3; (try dsimp only))
      refine hK.out _ _ (HS.out _ Hv3.out) (fun hHeld => ?_)
      clear hK K
      try simp only [Act.put, List.setIfInBounds_toArray, List.set_cons_zero, List.set_cons_succ]
      refine wpAnyH_take (i := 25) (oi := ({ dst := some 132, op := Op.pick (Operand.tmp 129) (Operand.tmp 131) (Operand.const (Value.bool false)), type := 4, pos := "outright.go:104", after := #[{ on := 22, ground := Ground.data }, { on := 24, ground := Ground.data }], guard := none } : Oper)) (v := ?_) rfl (by kernel_rfl) (by kernel_rfl) (by kernel_rfl) (fun _ _ _ h => h) (Or.inl ⟨by rfl, ?_⟩) (by assumption) ?_
      rotate_left
      · (intro w hSw; (try dsimp only at hSw); go_simp; all_goals (with_reducible rfl))
      try simp only [Act.put, List.setIfInBounds_toArray, List.set_cons_zero, List.set_cons_succ]
      refine wpAnyH_take (i := 26) (oi := ({ dst := some 133, op := Op.move (Operand.tmp 132), type := 4, pos := "outright.go:104", after := #[{ on := 25, ground := Ground.data }, { on := 24, ground := Ground.chain }], guard := none } : Oper)) (v := ?_) rfl (by kernel_rfl) (by kernel_rfl) (by kernel_rfl) (fun _ _ _ h => h) (Or.inl ⟨by rfl, ?_⟩) (by assumption) ?_
      rotate_left
      · (intro w hSw; (try dsimp only at hSw); go_simp; all_goals (with_reducible rfl))
      try simp only [Act.put, List.setIfInBounds_toArray, List.set_cons_zero, List.set_cons_succ]
      refine wpAnyH_take (i := 27) (oi := ({ dst := some 134, op := Op.load 24 (Operand.tmp 2), type := 24, pos := "outright.go:104", after := #[{ on := 26, ground := Ground.guard }], guard := some (26, true) } : Oper)) (v := ?_) rfl (by kernel_rfl) (by kernel_rfl) (by kernel_rfl) (fun _ _ _ h => h) (Or.inl ⟨by rfl, ?_⟩) (by assumption) ?_
      rotate_left
      · (intro w hSw; (try dsimp only at hSw); go_simp; all_goals (with_reducible rfl))
      try simp only [Act.put, List.setIfInBounds_toArray, List.set_cons_zero, List.set_cons_succ]
      refine wpAnyH_ready (rs := [28]) (by kernel_rfl) (by simp) ?_
      refine AllReadyH.cons (o := ({ dst := some 135, op := Op.call { callee := Callee.value (Operand.func 21), args := #[Operand.const (Value.string { data := #[225, 133, 161] }), Operand.const (Value.int IntKind.i64 0), Operand.tmp 134, Operand.const (Value.string { data := #[] }), Operand.const (Value.int IntKind.i64 0)], argTypes := #[9, 3, 24, 9, 3] }, type := 4, pos := "outright.go:104", after := #[{ on := 27, ground := Ground.data }, { on := 26, ground := Ground.chain }, { on := 26, ground := Ground.guard }], guard := some (26, true) } : Oper)) rfl (fun K hK => ?_) AllReadyH.nil
      (go_simp; go_at_call 21; refine (H26.out _ (Utf8Tabs_below HTd.out Hv3.out)).mono ?_; rintro _ v4 ⟨rfl, bb4⟩; have Hv4 := Lib.hid (Hv3.out.trans (bb4.mono Hv3.out.size)); clear bb4; (try dsimp only))
      refine hK.out _ _ (HS.out _ Hv4.out) (fun hHeld => ?_)
      clear hK K
      try simp only [Act.put, List.setIfInBounds_toArray, List.set_cons_zero, List.set_cons_succ]
      refine wpAnyH_take (i := 29) (oi := ({ dst := some 136, op := Op.pick (Operand.tmp 133) (Operand.tmp 135) (Operand.const (Value.bool false)), type := 4, pos := "outright.go:104", after := #[{ on := 26, ground := Ground.data }, { on := 28, ground := Ground.data }], guard := none } : Oper)) (v := ?_) rfl (by kernel_rfl) (by kernel_rfl) (by kernel_rfl) (fun _ _ _ h => h) (Or.inl ⟨by rfl, ?_⟩) (by assumption) ?_
      rotate_left
      · (intro w hSw; (try dsimp only at hSw); go_simp; all_goals (with_reducible rfl))
      try simp only [Act.put, List.setIfInBounds_toArray, List.set_cons_zero, List.set_cons_succ]
      refine wpAnyH_take (i := 30) (oi := ({ dst := some 137, op := Op.move (Operand.tmp 136), type := 4, pos := "outright.go:104", after := #[{ on := 29, ground := Ground.data }, { on := 28, ground := Ground.chain }], guard := none } : Oper)) (v := ?_) rfl (by kernel_rfl) (by kernel_rfl) (by kernel_rfl) (fun _ _ _ h => h) (Or.inl ⟨by rfl, ?_⟩) (by assumption) ?_
      rotate_left
      · (intro w hSw; (try dsimp only at hSw); go_simp; all_goals (with_reducible rfl))
      try simp only [Act.put, List.setIfInBounds_toArray, List.set_cons_zero, List.set_cons_succ]
      refine wpAnyH_take (i := 31) (oi := ({ dst := some 138, op := Op.build 24 #[(1, Operand.const (Value.bool true))], type := 24, pos := "outright.go:104", after := #[{ on := 30, ground := Ground.guard }], guard := some (30, true) } : Oper)) (v := ?_) rfl (by kernel_rfl) (by kernel_rfl) (by kernel_rfl) (fun _ _ _ h => h) (Or.inl ⟨by rfl, ?_⟩) (by assumption) ?_
      rotate_left
      · (intro w hSw; (try dsimp only at hSw); go_simp; all_goals (with_reducible rfl))
      try simp only [Act.put, List.setIfInBounds_toArray, List.set_cons_zero, List.set_cons_succ]
      refine wpAnyH_ready (rs := [32]) (by kernel_rfl) (by simp) ?_
      refine AllReadyH.cons (o := ({ dst := some 139, op := Op.call { callee := Callee.value (Operand.func 21), args := #[Operand.const (Value.string { data := #[194, 161] }), Operand.const (Value.int IntKind.i64 0), Operand.tmp 138, Operand.const (Value.string { data := #[194, 161] }), Operand.const (Value.int IntKind.i64 2)], argTypes := #[9, 3, 24, 9, 3] }, type := 4, pos := "outright.go:104", after := #[{ on := 31, ground := Ground.data }, { on := 30, ground := Ground.chain }, { on := 30, ground := Ground.guard }], guard := some (30, true) } : Oper)) rfl (fun K hK => ?_) AllReadyH.nil
      (go_simp; go_at_call 21; refine (H27.out _ (Utf8Tabs_below HTd.out Hv4.out)).mono ?_; rintro _ v5 ⟨rfl, bb5⟩; have Hv5 := Lib.hid (Hv4.out.trans (bb5.mono Hv4.out.size)); clear bb5; (try dsimp only))
      refine hK.out _ _ (HS.out _ Hv5.out) (fun hHeld => ?_)
      clear hK K
      try simp only [Act.put, List.setIfInBounds_toArray, List.set_cons_zero, List.set_cons_succ]
      refine wpAnyH_take (i := 33) (oi := ({ dst := some 140, op := Op.pick (Operand.tmp 137) (Operand.tmp 139) (Operand.const (Value.bool false)), type := 4, pos := "outright.go:104", after := #[{ on := 30, ground := Ground.data }, { on := 32, ground := Ground.data }], guard := none } : Oper)) (v := ?_) rfl (by kernel_rfl) (by kernel_rfl) (by kernel_rfl) (fun _ _ _ h => h) (Or.inl ⟨by rfl, ?_⟩) (by assumption) ?_
      rotate_left
      · (intro w hSw; (try dsimp only at hSw); go_simp; all_goals (with_reducible rfl))
      try simp only [Act.put, List.setIfInBounds_toArray, List.set_cons_zero, List.set_cons_succ]
      refine wpAnyH_take (i := 34) (oi := ({ dst := some 141, op := Op.move (Operand.tmp 140), type := 4, pos := "outright.go:104", after := #[{ on := 33, ground := Ground.data }, { on := 32, ground := Ground.chain }], guard := none } : Oper)) (v := ?_) rfl (by kernel_rfl) (by kernel_rfl) (by kernel_rfl) (fun _ _ _ h => h) (Or.inl ⟨by rfl, ?_⟩) (by assumption) ?_
      rotate_left
      · (intro w hSw; (try dsimp only at hSw); go_simp; all_goals (with_reducible rfl))
      try simp only [Act.put, List.setIfInBounds_toArray, List.set_cons_zero, List.set_cons_succ]
      refine wpAnyH_take (i := 35) (oi := ({ dst := some 142, op := Op.load 24 (Operand.tmp 2), type := 24, pos := "outright.go:104", after := #[{ on := 34, ground := Ground.guard }], guard := some (34, true) } : Oper)) (v := ?_) rfl (by kernel_rfl) (by kernel_rfl) (by kernel_rfl) (fun _ _ _ h => h) (Or.inl ⟨by rfl, ?_⟩) (by assumption) ?_
      rotate_left
      · (intro w hSw; (try dsimp only at hSw); go_simp; all_goals (with_reducible rfl))
      try simp only [Act.put, List.setIfInBounds_toArray, List.set_cons_zero, List.set_cons_succ]
      refine wpAnyH_ready (rs := [36]) (by kernel_rfl) (by simp) ?_
      refine AllReadyH.cons (o := ({ dst := some 143, op := Op.call { callee := Callee.value (Operand.func 21), args := #[Operand.const (Value.string { data := #[239, 187, 191] }), Operand.const (Value.int IntKind.i64 0), Operand.tmp 142, Operand.const (Value.string { data := #[60, 102, 101, 102, 102, 62] }), Operand.const (Value.int IntKind.i64 6)], argTypes := #[9, 3, 24, 9, 3] }, type := 4, pos := "outright.go:104", after := #[{ on := 35, ground := Ground.data }, { on := 34, ground := Ground.chain }, { on := 34, ground := Ground.guard }], guard := some (34, true) } : Oper)) rfl (fun K hK => ?_) AllReadyH.nil
      (go_simp; go_at_call 21; refine (H28.out _ (Utf8Tabs_below HTd.out Hv5.out)).mono ?_; rintro _ v6 ⟨rfl, bb6⟩; have Hv6 := Lib.hid (Hv5.out.trans (bb6.mono Hv5.out.size)); clear bb6; (try dsimp only))
      refine hK.out _ _ (HS.out _ Hv6.out) (fun hHeld => ?_)
      clear hK K
      try simp only [Act.put, List.setIfInBounds_toArray, List.set_cons_zero, List.set_cons_succ]
      refine wpAnyH_take (i := 37) (oi := ({ dst := some 144, op := Op.pick (Operand.tmp 141) (Operand.tmp 143) (Operand.const (Value.bool false)), type := 4, pos := "outright.go:104", after := #[{ on := 34, ground := Ground.data }, { on := 36, ground := Ground.data }], guard := none } : Oper)) (v := ?_) rfl (by kernel_rfl) (by kernel_rfl) (by kernel_rfl) (fun _ _ _ h => h) (Or.inl ⟨by rfl, ?_⟩) (by assumption) ?_
      rotate_left
      · (intro w hSw; (try dsimp only at hSw); go_simp; all_goals (with_reducible rfl))
      try simp only [Act.put, List.setIfInBounds_toArray, List.set_cons_zero, List.set_cons_succ]
      refine wpAnyH_take (i := 38) (oi := ({ dst := some 5, op := Op.assign (Operand.tmp 144), type := 4, pos := "outright.go:104", after := #[{ on := 37, ground := Ground.data }, { on := 36, ground := Ground.chain }, { on := 0, ground := Ground.phase }, { on := 1, ground := Ground.phase }, { on := 2, ground := Ground.phase }, { on := 3, ground := Ground.phase }, { on := 4, ground := Ground.phase }, { on := 5, ground := Ground.phase }, { on := 6, ground := Ground.phase }, { on := 7, ground := Ground.phase }, { on := 8, ground := Ground.phase }, { on := 9, ground := Ground.phase }, { on := 10, ground := Ground.phase }, { on := 11, ground := Ground.phase }, { on := 12, ground := Ground.phase }, { on := 13, ground := Ground.phase }, { on := 14, ground := Ground.phase }, { on := 15, ground := Ground.phase }, { on := 16, ground := Ground.phase }, { on := 17, ground := Ground.phase }, { on := 18, ground := Ground.phase }, { on := 19, ground := Ground.phase }, { on := 20, ground := Ground.phase }, { on := 21, ground := Ground.phase }, { on := 22, ground := Ground.phase }, { on := 23, ground := Ground.phase }, { on := 24, ground := Ground.phase }, { on := 25, ground := Ground.phase }, { on := 26, ground := Ground.phase }, { on := 27, ground := Ground.phase }, { on := 28, ground := Ground.phase }, { on := 29, ground := Ground.phase }, { on := 30, ground := Ground.phase }, { on := 31, ground := Ground.phase }, { on := 32, ground := Ground.phase }, { on := 33, ground := Ground.phase }, { on := 34, ground := Ground.phase }, { on := 35, ground := Ground.phase }, { on := 36, ground := Ground.phase }, { on := 37, ground := Ground.phase }], guard := none } : Oper)) (v := ?_) rfl (by kernel_rfl) (by kernel_rfl) (by kernel_rfl) (fun _ _ _ h => h) (Or.inl ⟨by rfl, ?_⟩) (by assumption) ?_
      rotate_left
      · (intro w hSw; (try dsimp only at hSw); go_simp; all_goals (with_reducible rfl))
      try simp only [Act.put, List.setIfInBounds_toArray, List.set_cons_zero, List.set_cons_succ]
      refine wpAnyH_done (by kernel_rfl) ?_ _
      refine NoPanic.normal ?_
      go_wp2_with fail
      refine (HA.out _ (Utf8Tabs_below HTd.out Hv6.out)).mono ?_
      rintro _ v7 ⟨rfl, bb⟩
      have Hv7 := Lib.hid (Hv6.out.trans (bb.mono Hv6.out.size))
      clear bb
      go_wp2
      go_ret
      exact ⟨rfl, Hbw.out.trans (Hv7.out.mono hBr)⟩
end Go.Proofs.YthejfbanehnmjaaDoor
