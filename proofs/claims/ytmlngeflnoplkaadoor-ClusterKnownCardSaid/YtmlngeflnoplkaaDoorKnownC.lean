/- ClusterKnown, walked. (Made by tools/mkknownc.py.) -/
import Derived.Test.YtmlngeflnoplkaaDoorAliveC
import Derived.Lib.AppendStr
import Derived.Deep.RegionHeld3
import Derived.Laws.IdiomStrings
namespace Go.Proofs.YtmlngeflnoplkaaDoor
open Go.RowKit Go.Lib

theorem row_new (s : ByteArray) (ws : List ByteArray) (n : Nat) (hn : ws.length = n) (w : World) (hp : (pcs s).map (·.2) = ws) (hs : s.size ≤ 1073741824) (hT : Utf8Tabs 0 1 w) (W : World) (hW : W = w.alloc (.cells (ws.map Value.string).toArray 9)) :
    Calls Tryd.prog 28 #[.string s, .slice (some ⟨w.heap.size, 0, none⟩) n n] W fun e w' => e = .returned (.bool true) ∧ Below w.heap.size w w' := by
  have b : Below w.heap.size w W := by rw [hW]; exact (Below.refl _ w).alloc (Nat.le_refl _) _
  have hR : Rd W W.heap.size 1 (some ⟨w.heap.size, 0, none⟩) n (ws.map Value.string) := by
    refine ⟨by simp [hn], .inr ⟨_, rfl, by rw [hW]; simp, fun j u hu => ?_⟩⟩
    rw [hW]
    exact new_cells w _ _ j u hu
  refine (row_true s W _ n n ws hR hp hs (Utf8Tabs_below hT b)).mono ?_
  rintro e w' ⟨he, hb⟩
  exact ⟨he, b.trans (hb.mono b.size)⟩
theorem kn_0 : (pcs ⟨#[97, 204, 129, 204, 129, 98]⟩).map (·.2) = [⟨#[97, 204, 129, 204, 129]⟩, ⟨#[98]⟩] := by decide +kernel
theorem kn_1 : (pcs ⟨#[204, 129, 97]⟩).map (·.2) = [⟨#[204, 129]⟩, ⟨#[97]⟩] := by decide +kernel
theorem kn_2 : (pcs ⟨#[13, 10, 10, 13, 97, 204, 129]⟩).map (·.2) = [⟨#[13, 10]⟩, ⟨#[10]⟩, ⟨#[13]⟩, ⟨#[97, 204, 129]⟩] := by decide +kernel
theorem kn_3 : (pcs ⟨#[10, 204, 129]⟩).map (·.2) = [⟨#[10]⟩, ⟨#[204, 129]⟩] := by decide +kernel
theorem kn_4 : (pcs ⟨#[]⟩).map (·.2) = [] := by decide +kernel
theorem kn_5 : (pcs ⟨#[240, 159, 135, 166, 240, 159, 135, 167, 240, 159, 135, 168, 204, 129, 240, 159, 135, 169]⟩).map (·.2) = [⟨#[240, 159, 135, 166, 240, 159, 135, 167]⟩, ⟨#[240, 159, 135, 168, 204, 129]⟩, ⟨#[240, 159, 135, 169]⟩] := by decide +kernel
theorem kn_6 : (pcs ⟨#[240, 159, 145, 169, 226, 128, 141, 240, 159, 146, 187, 226, 128, 141, 97]⟩).map (·.2) = [⟨#[240, 159, 145, 169, 226, 128, 141, 240, 159, 146, 187, 226, 128, 141]⟩, ⟨#[97]⟩] := by decide +kernel
theorem kn_7 : (pcs ⟨#[97, 226, 128, 141, 240, 159, 146, 187]⟩).map (·.2) = [⟨#[97, 226, 128, 141]⟩, ⟨#[240, 159, 146, 187]⟩] := by decide +kernel
theorem kn_8 : (pcs ⟨#[225, 132, 128, 225, 133, 161, 225, 134, 168, 234, 176, 128, 225, 134, 168]⟩).map (·.2) = [⟨#[225, 132, 128, 225, 133, 161, 225, 134, 168]⟩, ⟨#[234, 176, 128, 225, 134, 168]⟩] := by decide +kernel
theorem kn_9 : (pcs ⟨#[234, 176, 129, 225, 133, 161]⟩).map (·.2) = [⟨#[234, 176, 129]⟩, ⟨#[225, 133, 161]⟩] := by decide +kernel
theorem kn_10 : (pcs ⟨#[225, 133, 161, 204, 129, 225, 134, 168]⟩).map (·.2) = [⟨#[225, 133, 161, 204, 129]⟩, ⟨#[225, 134, 168]⟩] := by decide +kernel
theorem kn_11 : (pcs ⟨#[97, 128, 204, 129]⟩).map (·.2) = [⟨#[97]⟩, ⟨#[128]⟩, ⟨#[204, 129]⟩] := by decide +kernel
theorem kn_12 : (pcs ⟨#[226, 128, 174, 204, 129]⟩).map (·.2) = [⟨#[226, 128, 174]⟩, ⟨#[204, 129]⟩] := by decide +kernel
theorem kn_13 : (pcs ⟨#[226, 128, 168, 204, 129]⟩).map (·.2) = [⟨#[226, 128, 168]⟩, ⟨#[204, 129]⟩] := by decide +kernel
theorem kn_14 : (pcs ⟨#[228, 184]⟩).map (·.2) = [⟨#[228]⟩, ⟨#[184]⟩] := by decide +kernel
theorem kn_15 : (pcs ⟨#[226, 128, 169, 204, 129]⟩).map (·.2) = [⟨#[226, 128, 169]⟩, ⟨#[204, 129]⟩] := by decide +kernel
theorem kn_16 : (pcs ⟨#[225, 132, 128, 225, 132, 128, 225, 133, 161, 225, 133, 161, 225, 134, 168, 225, 134, 168, 97]⟩).map (·.2) = [⟨#[225, 132, 128, 225, 132, 128, 225, 133, 161, 225, 133, 161, 225, 134, 168, 225, 134, 168]⟩, ⟨#[97]⟩] := by decide +kernel
theorem kn_17 : (pcs ⟨#[234, 176, 156, 225, 133, 161, 225, 134, 168]⟩).map (·.2) = [⟨#[234, 176, 156, 225, 133, 161, 225, 134, 168]⟩] := by decide +kernel
theorem kn_18 : (pcs ⟨#[225, 132, 128, 234, 176, 129, 225, 132, 128]⟩).map (·.2) = [⟨#[225, 132, 128, 234, 176, 129]⟩, ⟨#[225, 132, 128]⟩] := by decide +kernel
theorem kn_19 : (pcs ⟨#[225, 134, 168, 225, 133, 161]⟩).map (·.2) = [⟨#[225, 134, 168]⟩, ⟨#[225, 133, 161]⟩] := by decide +kernel
theorem kn_at2 (w : World) (hT : Utf8Tabs 0 1 w) : Calls Tryd.prog 20 #[.string ⟨#[97, 204, 129]⟩, .int .i64 2] w fun e w' => e = .returned (.tuple #[.int .i64 0, .int .i64 3]) ∧ Below w.heap.size w w' := by
  refine (at_any ⟨#[97, 204, 129]⟩ 2 2 w (by decide) (by decide) (by decide) hT).mono ?_
  rintro e w' ⟨⟨a, b, rfl, ha⟩, hb⟩
  obtain ⟨rfl, rfl⟩ := around_one ha .zero (by decide) (by rw [e_at]; decide)
  rw [e_at]
  exact ⟨rfl, hb⟩
theorem kn_at99 (w : World) : Calls Tryd.prog 20 #[.string ⟨#[97, 204, 129]⟩, .int .i64 99] w fun e w' => e = .returned (.tuple #[.int .i64 3, .int .i64 3]) ∧ Below w.heap.size w w' := at_end ⟨#[97, 204, 129]⟩ 99 w (by decide) (by decide)
theorem kn_at5 (w : World) (hT : Utf8Tabs 0 1 w) : Calls Tryd.prog 20 #[.string ⟨#[97, 204, 129]⟩, .int .i64 (-5)] w fun e w' => e = .returned (.tuple #[.int .i64 0, .int .i64 3]) ∧ Below w.heap.size w w' := by
  refine (at_any ⟨#[97, 204, 129]⟩ (-5) 0 w (by decide) (by decide) (by decide) hT).mono ?_
  rintro e w' ⟨⟨a, b, rfl, ha⟩, hb⟩
  obtain ⟨rfl, rfl⟩ := around_one ha .zero (by decide) (by rw [e_at]; decide)
  rw [e_at]
  exact ⟨rfl, hb⟩
theorem is_yes (s : ByteArray) (q : Int) (w : World) (hs : s.size ≤ 1073741824) (hT : Utf8Tabs 0 1 w) (h : isB s q) : Calls Tryd.prog 22 #[.string s, .int .i64 q] w fun e w' => e = .returned (.bool true) ∧ Below w.heap.size w w' := by
  refine (is_any s q w hs hT).mono ?_
  rintro e w' ⟨⟨b, rfl, hb⟩, hbl⟩
  rw [hb.2 h]
  exact ⟨rfl, hbl⟩
theorem is_no (s : ByteArray) (q : Int) (w : World) (hs : s.size ≤ 1073741824) (hT : Utf8Tabs 0 1 w) (h : ¬ isB s q) : Calls Tryd.prog 22 #[.string s, .int .i64 q] w fun e w' => e = .returned (.bool false) ∧ Below w.heap.size w w' := by
  refine (is_any s q w hs hT).mono ?_
  rintro e w' ⟨⟨b, rfl, hb⟩, hbl⟩
  have : b = false := by
    cases b with
    | false => rfl
    | true => exact absurd (hb.1 rfl) h
  subst this
  exact ⟨rfl, hbl⟩
theorem kn_is0 (w : World) (hT : Utf8Tabs 0 1 w) : Calls Tryd.prog 22 #[.string ⟨#[97, 204, 129]⟩, .int .i64 0] w fun e w' => e = .returned (.bool true) ∧ Below w.heap.size w w' := is_yes ⟨#[97, 204, 129]⟩ 0 w (by decide) hT ⟨0, .zero, rfl⟩
theorem kn_ism (w : World) (hT : Utf8Tabs 0 1 w) : Calls Tryd.prog 22 #[.string ⟨#[97, 204, 129]⟩, .int .i64 (-1)] w fun e w' => e = .returned (.bool false) ∧ Below w.heap.size w w' := is_no ⟨#[97, 204, 129]⟩ (-1) w (by decide) hT (by rintro ⟨k, _, h⟩; omega)
theorem kn_is4 (w : World) (hT : Utf8Tabs 0 1 w) : Calls Tryd.prog 22 #[.string ⟨#[97, 204, 129]⟩, .int .i64 4] w fun e w' => e = .returned (.bool false) ∧ Below w.heap.size w w' := is_no ⟨#[97, 204, 129]⟩ 4 w (by decide) hT (by
  rintro ⟨k, _, h⟩
  have := placeAt_le ⟨#[97, 204, 129]⟩ k
  have : (⟨#[97, 204, 129]⟩ : ByteArray).size = 3 := rfl
  omega)
theorem kn_isE (w : World) (hT : Utf8Tabs 0 1 w) : Calls Tryd.prog 22 #[.string ⟨#[]⟩, .int .i64 0] w fun e w' => e = .returned (.bool true) ∧ Below w.heap.size w w' := is_yes ⟨#[]⟩ 0 w (by decide) hT ⟨0, .zero, rfl⟩
theorem knE1 : placeAt ⟨#[]⟩ (clEnd ⟨#[]⟩ 0) = 0 := by decide +kernel
theorem knE2 : clLast ⟨#[]⟩ = 0 := by decide +kernel
theorem kn_nextE (w : World) (hT : Utf8Tabs 0 1 w) : Calls Tryd.prog 14 #[.string ⟨#[]⟩] w fun e w' => e = .returned (.int .i64 0) ∧ Below w.heap.size w w' := by
  have h := cnext_s ⟨#[]⟩ w hT (by decide)
  rw [knE1] at h
  exact h
theorem kn_lastE (w : World) (hT : Utf8Tabs 0 1 w) : Calls Tryd.prog 16 #[.string ⟨#[]⟩] w fun e w' => e = .returned (.int .i64 0) ∧ Below w.heap.size w w' := by
  have h := clast_any ⟨#[]⟩ w (by decide) hT
  rw [knE2] at h
  exact h

theorem u8_infoK : (Tryd.prog.info? 5).map (fun i => (i.zero, i.size, i.bytes)) = some (some (.int .u8 0), 1, 1) := by kernel_rfl
def mkC (k : Nat) : List Value := (List.replicate k (strCells ⟨#[204, 129]⟩)).flatten
theorem mkC_succ (k : Nat) : mkC (k + 1) = mkC k ++ strCells ⟨#[204, 129]⟩ := by simp [mkC, List.replicate_succ']
def tmL : List UInt8 := (List.replicate 33 [204, 129]).flatten
abbrev tm66 : ByteArray := ⟨tmL.toArray⟩
abbrev tm64 : ByteArray := ⟨(tmL.take 64).toArray⟩
theorem mkC_tm : mkC 33 = tmL.map fun b : UInt8 => Value.int .u8 (b.toNat : Int) := by kernel_rfl
theorem tm_pcs : (pcs tm66).map (·.2) = [tm64, ⟨#[204, 129]⟩] := by decide +kernel

set_option maxRecDepth 100000 in
set_option maxHeartbeats 4000000 in
theorem knownc_walk (w0 : World) (hT : Utf8Tabs 0 1 w0) : Calls Tryd.prog 8 #[] w0 fun e w' => e = .returned (.bool true) ∧ Below w0.heap.size w0 w' := by
  have HT0 := Lib.hid hT
  have B0 := Lib.hid (Below.refl w0.heap.size w0)
  clear hT
  go_enter Tryd.func8, Tryd.ntmps8
  go_wp2_with fail
  refine (steps_any _ HT0.out).mono ?_
  rintro _ w1 ⟨rfl, b1⟩
  have HT1 := Lib.hid (Utf8Tabs_below HT0.out b1)
  have B1 := Lib.hid (B0.out.trans (b1.mono B0.out.size))
  clear b1
  go_wp2_with fail
  refine (row_new ⟨#[97, 204, 129, 204, 129, 98]⟩ _ 2 rfl w1 kn_0 (by decide) HT1.out _ rfl).mono ?_
  rintro _ w2 ⟨rfl, b2⟩
  have HT2 := Lib.hid (Utf8Tabs_below HT1.out b2)
  have B2 := Lib.hid (B1.out.trans (b2.mono B1.out.size))
  clear b2
  go_wp2_with fail
  refine (row_new ⟨#[204, 129, 97]⟩ _ 2 rfl w2 kn_1 (by decide) HT2.out _ rfl).mono ?_
  rintro _ w3 ⟨rfl, b3⟩
  have HT3 := Lib.hid (Utf8Tabs_below HT2.out b3)
  have B3 := Lib.hid (B2.out.trans (b3.mono B2.out.size))
  clear b3
  go_wp2_with fail
  refine (row_new ⟨#[13, 10, 10, 13, 97, 204, 129]⟩ _ 4 rfl w3 kn_2 (by decide) HT3.out _ rfl).mono ?_
  rintro _ w4 ⟨rfl, b4⟩
  have HT4 := Lib.hid (Utf8Tabs_below HT3.out b4)
  have B4 := Lib.hid (B3.out.trans (b4.mono B3.out.size))
  clear b4
  go_wp2_with fail
  refine (row_new ⟨#[10, 204, 129]⟩ _ 2 rfl w4 kn_3 (by decide) HT4.out _ rfl).mono ?_
  rintro _ w5 ⟨rfl, b5⟩
  have HT5 := Lib.hid (Utf8Tabs_below HT4.out b5)
  have B5 := Lib.hid (B4.out.trans (b5.mono B4.out.size))
  clear b5
  go_wp2_with fail
  refine (row_true ⟨#[]⟩ w5 none 0 0 [] (Rd.nil _ _ _ _) kn_4 (by decide) HT5.out).mono ?_
  rintro _ w6 ⟨rfl, b6⟩
  have HT6 := Lib.hid (Utf8Tabs_below HT5.out b6)
  have B6 := Lib.hid (B5.out.trans (b6.mono B5.out.size))
  clear b6
  go_wp2_with fail
  refine (row_new ⟨#[240, 159, 135, 166, 240, 159, 135, 167, 240, 159, 135, 168, 204, 129, 240, 159, 135, 169]⟩ _ 3 rfl w6 kn_5 (by decide) HT6.out _ rfl).mono ?_
  rintro _ w7 ⟨rfl, b7⟩
  have HT7 := Lib.hid (Utf8Tabs_below HT6.out b7)
  have B7 := Lib.hid (B6.out.trans (b7.mono B6.out.size))
  clear b7
  go_wp2_with fail
  refine (row_new ⟨#[240, 159, 145, 169, 226, 128, 141, 240, 159, 146, 187, 226, 128, 141, 97]⟩ _ 2 rfl w7 kn_6 (by decide) HT7.out _ rfl).mono ?_
  rintro _ w8 ⟨rfl, b8⟩
  have HT8 := Lib.hid (Utf8Tabs_below HT7.out b8)
  have B8 := Lib.hid (B7.out.trans (b8.mono B7.out.size))
  clear b8
  go_wp2_with fail
  refine (row_new ⟨#[97, 226, 128, 141, 240, 159, 146, 187]⟩ _ 2 rfl w8 kn_7 (by decide) HT8.out _ rfl).mono ?_
  rintro _ w9 ⟨rfl, b9⟩
  have HT9 := Lib.hid (Utf8Tabs_below HT8.out b9)
  have B9 := Lib.hid (B8.out.trans (b9.mono B8.out.size))
  clear b9
  go_wp2_with fail
  refine (row_new ⟨#[225, 132, 128, 225, 133, 161, 225, 134, 168, 234, 176, 128, 225, 134, 168]⟩ _ 2 rfl w9 kn_8 (by decide) HT9.out _ rfl).mono ?_
  rintro _ w10 ⟨rfl, b10⟩
  have HT10 := Lib.hid (Utf8Tabs_below HT9.out b10)
  have B10 := Lib.hid (B9.out.trans (b10.mono B9.out.size))
  clear b10
  go_wp2_with fail
  refine (row_new ⟨#[234, 176, 129, 225, 133, 161]⟩ _ 2 rfl w10 kn_9 (by decide) HT10.out _ rfl).mono ?_
  rintro _ w11 ⟨rfl, b11⟩
  have HT11 := Lib.hid (Utf8Tabs_below HT10.out b11)
  have B11 := Lib.hid (B10.out.trans (b11.mono B10.out.size))
  clear b11
  go_wp2_with fail
  refine (row_new ⟨#[225, 133, 161, 204, 129, 225, 134, 168]⟩ _ 2 rfl w11 kn_10 (by decide) HT11.out _ rfl).mono ?_
  rintro _ w12 ⟨rfl, b12⟩
  have HT12 := Lib.hid (Utf8Tabs_below HT11.out b12)
  have B12 := Lib.hid (B11.out.trans (b12.mono B11.out.size))
  clear b12
  go_wp2_with fail
  refine (row_new ⟨#[97, 128, 204, 129]⟩ _ 3 rfl w12 kn_11 (by decide) HT12.out _ rfl).mono ?_
  rintro _ w13 ⟨rfl, b13⟩
  have HT13 := Lib.hid (Utf8Tabs_below HT12.out b13)
  have B13 := Lib.hid (B12.out.trans (b13.mono B12.out.size))
  clear b13
  go_wp2_with fail
  refine (row_new ⟨#[226, 128, 174, 204, 129]⟩ _ 2 rfl w13 kn_12 (by decide) HT13.out _ rfl).mono ?_
  rintro _ w14 ⟨rfl, b14⟩
  have HT14 := Lib.hid (Utf8Tabs_below HT13.out b14)
  have B14 := Lib.hid (B13.out.trans (b14.mono B13.out.size))
  clear b14
  go_wp2_with fail
  refine (row_new ⟨#[226, 128, 168, 204, 129]⟩ _ 2 rfl w14 kn_13 (by decide) HT14.out _ rfl).mono ?_
  rintro _ w15 ⟨rfl, b15⟩
  have HT15 := Lib.hid (Utf8Tabs_below HT14.out b15)
  have B15 := Lib.hid (B14.out.trans (b15.mono B14.out.size))
  clear b15
  go_wp2_with fail
  refine (row_new ⟨#[228, 184]⟩ _ 2 rfl w15 kn_14 (by decide) HT15.out _ rfl).mono ?_
  rintro _ w16 ⟨rfl, b16⟩
  have HT16 := Lib.hid (Utf8Tabs_below HT15.out b16)
  have B16 := Lib.hid (B15.out.trans (b16.mono B15.out.size))
  clear b16
  go_wp2_with fail
  refine (row_new ⟨#[226, 128, 169, 204, 129]⟩ _ 2 rfl w16 kn_15 (by decide) HT16.out _ rfl).mono ?_
  rintro _ w17 ⟨rfl, b17⟩
  have HT17 := Lib.hid (Utf8Tabs_below HT16.out b17)
  have B17 := Lib.hid (B16.out.trans (b17.mono B16.out.size))
  clear b17
  go_wp2_with fail
  refine (row_new ⟨#[225, 132, 128, 225, 132, 128, 225, 133, 161, 225, 133, 161, 225, 134, 168, 225, 134, 168, 97]⟩ _ 2 rfl w17 kn_16 (by decide) HT17.out _ rfl).mono ?_
  rintro _ w18 ⟨rfl, b18⟩
  have HT18 := Lib.hid (Utf8Tabs_below HT17.out b18)
  have B18 := Lib.hid (B17.out.trans (b18.mono B17.out.size))
  clear b18
  go_wp2_with fail
  refine (row_new ⟨#[234, 176, 156, 225, 133, 161, 225, 134, 168]⟩ _ 1 rfl w18 kn_17 (by decide) HT18.out _ rfl).mono ?_
  rintro _ w19 ⟨rfl, b19⟩
  have HT19 := Lib.hid (Utf8Tabs_below HT18.out b19)
  have B19 := Lib.hid (B18.out.trans (b19.mono B18.out.size))
  clear b19
  go_wp2_with fail
  refine (row_new ⟨#[225, 132, 128, 234, 176, 129, 225, 132, 128]⟩ _ 2 rfl w19 kn_18 (by decide) HT19.out _ rfl).mono ?_
  rintro _ w20 ⟨rfl, b20⟩
  have HT20 := Lib.hid (Utf8Tabs_below HT19.out b20)
  have B20 := Lib.hid (B19.out.trans (b20.mono B19.out.size))
  clear b20
  go_wp2_with fail
  refine (row_new ⟨#[225, 134, 168, 225, 133, 161]⟩ _ 2 rfl w20 kn_19 (by decide) HT20.out _ rfl).mono ?_
  rintro _ w21 ⟨rfl, b21⟩
  have HT21 := Lib.hid (Utf8Tabs_below HT20.out b21)
  have B21 := Lib.hid (B20.out.trans (b21.mono B20.out.size))
  clear b21
  go_wp2_with fail
  refine (kn_at2 w21 HT21.out).mono ?_
  rintro _ w22 ⟨rfl, b22⟩
  have HT22 := Lib.hid (Utf8Tabs_below HT21.out b22)
  have B22 := Lib.hid (B21.out.trans (b22.mono B21.out.size))
  clear b22
  go_wp2_with fail
  refine (kn_at99 w22).mono ?_
  rintro _ w23 ⟨rfl, b23⟩
  have HT23 := Lib.hid (Utf8Tabs_below HT22.out b23)
  have B23 := Lib.hid (B22.out.trans (b23.mono B22.out.size))
  clear b23
  go_wp2_with fail
  refine (kn_at5 w23 HT23.out).mono ?_
  rintro _ w24 ⟨rfl, b24⟩
  have HT24 := Lib.hid (Utf8Tabs_below HT23.out b24)
  have B24 := Lib.hid (B23.out.trans (b24.mono B23.out.size))
  clear b24
  go_wp2_with fail
  refine (kn_is0 w24 HT24.out).mono ?_
  rintro _ w25 ⟨rfl, b25⟩
  have HT25 := Lib.hid (Utf8Tabs_below HT24.out b25)
  have B25 := Lib.hid (B24.out.trans (b25.mono B24.out.size))
  clear b25
  go_wp2_with fail
  refine (kn_ism w25 HT25.out).mono ?_
  rintro _ w26 ⟨rfl, b26⟩
  have HT26 := Lib.hid (Utf8Tabs_below HT25.out b26)
  have B26 := Lib.hid (B25.out.trans (b26.mono B25.out.size))
  clear b26
  go_wp2_with fail
  refine (kn_is4 w26 HT26.out).mono ?_
  rintro _ w27 ⟨rfl, b27⟩
  have HT27 := Lib.hid (Utf8Tabs_below HT26.out b27)
  have B27 := Lib.hid (B26.out.trans (b27.mono B26.out.size))
  clear b27
  go_wp2_with fail
  refine (kn_isE w27 HT27.out).mono ?_
  rintro _ w28 ⟨rfl, b28⟩
  have HT28 := Lib.hid (Utf8Tabs_below HT27.out b28)
  have B28 := Lib.hid (B27.out.trans (b28.mono B27.out.size))
  clear b28
  go_wp2_with fail
  refine (kn_nextE w28 HT28.out).mono ?_
  rintro _ w29 ⟨rfl, b29⟩
  have HT29 := Lib.hid (Utf8Tabs_below HT28.out b29)
  have B29 := Lib.hid (B28.out.trans (b29.mono B28.out.size))
  clear b29
  go_wp2_with fail
  refine (kn_lastE w29 HT29.out).mono ?_
  rintro _ w30 ⟨rfl, b30⟩
  have HT30 := Lib.hid (Utf8Tabs_below HT29.out b30)
  have B30 := Lib.hid (B29.out.trans (b30.mono B29.out.size))
  clear b30
  obtain ⟨i0, hi, hz0, hz1, hz2⟩ := info_parts u8_infoK
  go_wp2_with fail
  go_loopw [11, 12] (fun v i wr => ∃ k : Nat, k ≤ 33 ∧ i = .int .i64 k ∧ wr.ownsRow w30.heap.size 5 1 v (k * 2) (mkC k) ∧ Below w30.heap.size w30 wr) (fun _ i _ => 33 - (RowKit.intOf i).toNat)
  case atStart => exact ⟨0, Nat.zero_le _, rfl, World.ownsRow_nil _ _ _ _, Below.refl _ _⟩
  case round =>
    rename_i v i wr
    obtain ⟨k, hk, rfl, hown, hbw⟩ := hrel
    have hbs : w30.heap.size ≤ wr.heap.size := hbw.size
    by_cases hk33 : k < 33
    · have hki : (k : Int) < 33 := by omega
      have Hown := Lib.hid hown
      have Hbw := Lib.hid hbw
      have hs2 : (⟨#[204, 129]⟩ : ByteArray).size = 2 := rfl
      clear hown hbw
      go_wp2_with (at_builtin; refine wpList_append_own_string _ rfl _ _ 42 9 rfl w30.heap.size 5 i0 Tryd.underlying42 Tryd.underlying9 hi hz0 hz1 hz2 _ _ _ rfl Hown.out ⟨#[204, 129]⟩ rfl (by rw [hs2]; unfold maxLen; omega) (by rw [hs2]; omega) hbs ?_)
      intro v' w2 hown2 hg2 _
      have hfin : w2.ownsRow w30.heap.size 5 1 v' ((k + 1) * 2) (mkC (k + 1)) ∧ Below w30.heap.size w30 w2 := by
        refine ⟨?_, Hbw.out.grown hg2 hbs (fun i hi => (Hown.out.lt i hi).1)⟩
        rw [show k * 2 + 2 = (k + 1) * 2 by omega] at hown2
        rw [mkC_succ]
        exact hown2
      have Hfin := Lib.hid hfin
      clear hown2 hg2 hfin
      go_wp2
      exact ⟨⟨k + 1, by omega, by go_num, Hfin.out.1, Hfin.out.2⟩, by simp only [RowKit.intOf]; omega⟩
    · obtain rfl : k = 33 := by omega
      obtain ⟨g, cap, hv, _, hlt⟩ := hown.form (by omega)
      subst hv
      have hcells := hown.cells (g := g) rfl
      have hnc : 66 ≤ cap := by obtain ⟨_, _, h1, h2, _⟩ := own_shape hown; cases h1; exact h2
      have h66 : ∀ W, Below wr.heap.size wr W → (convert 42 9 (.slice (some ⟨g, 0, none⟩) 66 cap)).run Tryd.prog W = .ok (.string tm66) W := fun W hb =>
        run_convert_bytes_back W _ _ 5 ⟨g, 0, none⟩ cap tmL Tryd.underlying42 Tryd.underlying5 Tryd.underlying9 (fun j hj => by
          refine (hb.cell (p := (⟨g, 0, none⟩ : Addr).add j) (by rw [add_block]; exact hlt)).trans (hcells j _ ?_)
          rw [mkC_tm, List.getElem?_map, List.getElem?_eq_getElem hj]
          rfl)
      have h64 : ∀ W, Below wr.heap.size wr W → (convert 42 9 (.slice (some ⟨g, 0, none⟩) 64 cap)).run Tryd.prog W = .ok (.string tm64) W := fun W hb =>
        run_convert_bytes_back W _ _ 5 ⟨g, 0, none⟩ cap (tmL.take 64) Tryd.underlying42 Tryd.underlying5 Tryd.underlying9 (fun j hj => by
          refine (hb.cell (p := (⟨g, 0, none⟩ : Addr).add j) (by rw [add_block]; exact hlt)).trans (hcells j _ ?_)
          have hj2 : j < 64 := by simp at hj; omega
          have hj3 : j < tmL.length := by have : tmL.length = 66 := rfl; omega
          rw [mkC_tm, List.getElem?_map, List.getElem?_eq_getElem hj3, List.getElem_take]
          rfl)
      have hbd : Below wr.heap.size wr wr.drew := (Below.refl _ wr).drew
      have hcv : ∀ W, Below wr.heap.size wr W → (convert 42 9 (.slice (some ⟨g, 0, none⟩) 66 cap)).run Tryd.prog W = .ok (.string tm66) W ∧ (convert 42 9 (.slice (some ⟨g, 0, none⟩) 64 cap)).run Tryd.prog W = .ok (.string tm64) W := fun W hb => ⟨h66 W hb, h64 W hb⟩
      have Hcv := Lib.hid hcv
      have hal : Below wr.heap.size wr (wr.alloc (.cells #[.string tm64, .string ⟨#[204, 129]⟩] 9)).drew := ((Below.refl _ wr).alloc (Nat.le_refl _) _).drew
      have Hbd := Lib.hid hbd
      have Hal := Lib.hid hal
      have hc64 : 64 ≤ cap := by omega
      have hc64i : (64 : Int) ≤ (cap : Int) := by omega
      have HTd := Lib.hid (show Utf8Tabs 0 1 wr.drew from Utf8Tabs_below HT30.out hbw.drew)
      have Hbw := Lib.hid (B30.out.trans (hbw.mono B30.out.size))
      have hkn : ¬ (((33 : Nat) : Int) < 33) := by omega
      rw [show (33 * 2 : Nat) = 66 from rfl]
      clear hcells h66 h64 hown hbw hbd hcv hal
      go_wp2_with fail
      go_region_held3 (fun W => (convert 42 9 (.slice (some ⟨g, 0, none⟩) 66 cap)).run Tryd.prog W = .ok (.string tm66) W ∧ (convert 42 9 (.slice (some ⟨g, 0, none⟩) 64 cap)).run Tryd.prog W = .ok (.string tm64) W)
        (first | exact Hcv.out _ Hbd.out | exact Hcv.out _ Hal.out | exact Hcv.out _ (Hbd.out.trans c1) | exact Hcv.out _ (Hbd.out.trans (c1.trans (c2.mono c1.size))))
        (first
          | (go_at_call 28; refine (row_new tm66 [tm64, ⟨#[204, 129]⟩] 2 rfl wr.drew tm_pcs (by decide) HTd.out _ rfl).mono ?_; rintro e u1 ⟨rfl, c1⟩)
          | (go_at_call 19; refine (alive_any _ (Utf8Tabs_below HTd.out c1)).mono ?_; rintro e u2 ⟨rfl, c2⟩))
      all_goals
        go_wp2_with fail
        go_ret
        have f1 : Below wr.heap.size wr.drew u2 := c1.trans (c2.mono c1.size)
        exact ⟨rfl, Hbw.out.drew.trans (f1.mono Hbw.out.size)⟩
end Go.Proofs.YtmlngeflnoplkaaDoor
