/- ClusterParts, walked. -/
import Derived.Test.YtmlngeflnoplkaaDoorPartsP
import Derived.Test.YtmlngeflnoplkaaDoorAliveC
namespace Go.Proofs.YtmlngeflnoplkaaDoor
open Go.RowKit Go.Lib

theorem one_string (w : World) (y : Nat) (hy : y < 256) (W : World) (hW : W = w.alloc (.cells #[.int .u8 (y : Int)] 5)) :
    (convert 42 9 (.slice (some ⟨w.heap.size, 0, none⟩) 1 1)).run Tryd.prog W = .ok (.string ⟨#[UInt8.ofNat y]⟩) W := by
  refine run_convert_bytes_back W _ _ 5 ⟨w.heap.size, 0, none⟩ 1 [UInt8.ofNat y] Tryd.underlying42 Tryd.underlying5 Tryd.underlying9 (fun j hj => ?_)
  obtain rfl : j = 0 := by simpa using hj
  rw [hW]
  have := new_cells w [.int .u8 (y : Int)] 5 0 _ rfl
  simpa [Nat.mod_eq_of_lt hy] using this

set_option maxRecDepth 100000 in
set_option maxHeartbeats 4000000 in
theorem partsc_walk (a b : ByteArray) (which : Int) (w : World) (hw1 : 0 ≤ which) (hw2 : which ≤ 255) (hs : a.size ≤ 1048576) (hs2 : b.size ≤ 1048576) (hT : Utf8Tabs 0 1 w) :
    Calls Tryd.prog 7 #[.string a, .string b, .int .u8 which] w fun e w' => e = .returned (.bool true) ∧ Below w.heap.size w w' := by
  have Hst := Lib.hid steps_any
  have Hal := Lib.hid alive_any
  have Hmk := Lib.hid cl_mk
  have Hpa := Lib.hid (fun s' (h : s'.size ≤ 1073741824) Bn w hc hT => pieces_all s' Bn w hc h hT)
  have HT := Lib.hid hT
  clear hT
  obtain ⟨y, hy, hy1, hy2⟩ : ∃ y : Nat, 245 + which % 11 = (y : Int) ∧ 245 ≤ y ∧ y ≤ 255 := by
    exact ⟨(245 + which % 11).toNat, by omega, by omega, by omega⟩
  have hwy : IntKind.u8.wrap (245 + which % 11) = (y : Int) := by
    rw [hy]
    exact IntWalk.u8_in _ (by omega)
  go_enter Tryd.func7, Tryd.ntmps7
  go_wp2_with fail
  refine (Hst.out _ HT.out).mono ?_
  rintro _ w1 ⟨rfl, b1⟩
  have HT1 := Lib.hid (Utf8Tabs_below HT.out b1)
  have B1 := Lib.hid b1
  clear b1
  have hcv := one_string w1 y (by omega) _ rfl
  obtain ⟨w2, hw2⟩ : ∃ w2, w1.alloc (.cells #[.int .u8 (y : Int)] 5) = w2 := ⟨_, rfl⟩
  rw [hw2] at hcv
  have b2 : Below w1.heap.size w1 w2 := by rw [← hw2]; exact (Below.refl _ w1).alloc (Nat.le_refl _) _
  have HT2 := Lib.hid (Utf8Tabs_below HT1.out b2)
  have B2 := Lib.hid (B1.out.trans (b2.mono B1.out.size))
  obtain ⟨x, hx⟩ : ∃ x, UInt8.ofNat y = x := ⟨_, rfl⟩
  have hx5 : 245 ≤ x.toNat := by rw [← hx]; simp; omega
  rw [hx] at hcv
  clear b2 hx
  obtain ⟨M, hM1, hM2, hM3⟩ := joined_pcs a b x hx5
  have hSs : (joined a b x).size = a.size + 1 + b.size := by
    rw [← size_list, joined_list]
    simp
    omega
  go_wp2_with fail
  obtain ⟨S, hS⟩ : ∃ S, joined a b x = S := ⟨_, rfl⟩
  rw [show a ++ { data := #[x] } ++ b = S from hS]
  rw [hS] at hM1 hSs
  have Hch := Lib.hid (fun i y h => pcs_chain S i y h)
  have hna := pcs_len a
  have hmb := pcs_len b
  obtain ⟨X, hX⟩ : ∃ X, pcs a = X := ⟨_, rfl⟩
  obtain ⟨Y, hY⟩ : ∃ Y, pcs b = Y := ⟨_, rfl⟩
  obtain ⟨L, hL⟩ : ∃ L, pcs S = L := ⟨_, rfl⟩
  rw [hX] at hM1 hna
  rw [hY] at hM2 hM3 hmb
  rw [hL] at hM1 Hch
  obtain ⟨n, hn⟩ : ∃ n, X.length = n := ⟨_, rfl⟩
  obtain ⟨m, hm⟩ : ∃ m, Y.length = m := ⟨_, rfl⟩
  rw [hm] at hM2
  rw [hn] at hna
  rw [hm] at hmb
  have hLn : L.length = n + 1 + m := by rw [hM1]; simp [hn, hM2]; omega
  have hLat : L[n]? = some (a.size, ⟨#[x]⟩) := by rw [hM1, ← hn]; simp
  have hLt : L.take n = X := by rw [hM1, List.take_left' hn]
  have hLd : L.drop (n + 1) = M := by
    rw [hM1, ← List.drop_drop, List.drop_left' hn]
    rfl
  have PS := Lib.hid (fun Bn w hc hT => pieces_all S Bn w hc (by omega) hT)
  have PA := Lib.hid (fun Bn w hc hT => pieces_all a Bn w hc (by omega) hT)
  have PB := Lib.hid (fun Bn w hc hT => pieces_all b Bn w hc (by omega) hT)
  rw [hL, hLn] at PS
  rw [hX, hn] at PA
  rw [hY, hm] at PB
  have HM3 := Lib.hid hM3
  have HLt := Lib.hid hLt
  have HLd := Lib.hid hLd
  have HLn := Lib.hid hLn
  have Hn := Lib.hid hn
  have Hm := Lib.hid hm
  have HM2 := Lib.hid hM2
  have HLat := Lib.hid hLat
  have e1 : IntKind.i64.wrap ((n : Int) + 1) = ((n + 1 : Nat) : Int) := by rw [IntWalk.i64_in _ (by omega)]; omega
  have e2 : IntKind.i64.wrap (((n + 1 : Nat) : Int) + (m : Int)) = ((n + 1 + m : Nat) : Int) := by rw [IntWalk.i64_in _ (by omega)]; omega
  have e3 : IntKind.i64.wrap ((a.size : Int) + 1) = ((a.size + 1 : Nat) : Int) := by rw [IntWalk.i64_in _ (by omega)]; omega
  clear hM1 hM3 hX hY hL hn hm hLt hLd hLn hLat hM2 hS hy hwy hcv hx5 hw2 Hpa
  refine (Hmk.out S _).mono ?_
  rintro _ w3 ⟨rfl, hw⟩
  have b3 : Below w2.heap.size w2 w3 := by rw [hw]; exact (Below.refl _ w2).alloc (Nat.le_refl _) _
  have HT3 := Lib.hid (Utf8Tabs_below HT2.out b3)
  have B3 := Lib.hid (B2.out.trans (b3.mono B2.out.size))
  have P3 := Lib.hid (PS.out w2.heap.size w3 (by rw [hw]; exact (Boxed.new w2 9 (.string S)).cell) HT3.out)
  clear b3 hw HT2 B2 HT1 B1 HT
  go_wp2_with fail
  refine P3.out.mono ?_
  rintro _ w4 ⟨A, c, rfl, hown, b4⟩
  have HT4 := Lib.hid (Utf8Tabs_below HT3.out b4)
  have B4 := Lib.hid (B3.out.trans (b4.mono B3.out.size))
  have hnc : n + 1 + m ≤ c := by obtain ⟨_, _, h1, h2, _⟩ := own_shape hown; cases h1; exact h2
  have R4 := Lib.hid (show RdP w4 w4.heap.size A L by unfold RdP; rw [HLn.out]; exact Rd.own hown)
  clear b4 hown P3 HT3 B3
  go_wp2_with fail
  refine (Hmk.out a _).mono ?_
  rintro _ w5 ⟨rfl, hw⟩
  have b5 : Below w4.heap.size w4 w5 := by rw [hw]; exact (Below.refl _ w4).alloc (Nat.le_refl _) _
  have HT5 := Lib.hid (Utf8Tabs_below HT4.out b5)
  have B5 := Lib.hid (B4.out.trans (b5.mono B4.out.size))
  have P5 := Lib.hid (PA.out w4.heap.size w5 (by rw [hw]; exact (Boxed.new w4 9 (.string a)).cell) HT5.out)
  have S5 := Lib.hid b5
  clear b5 hw HT4 B4
  go_wp2_with fail
  refine P5.out.mono ?_
  rintro _ w6 ⟨A6, c6, rfl, hown, b6⟩
  have HT6 := Lib.hid (Utf8Tabs_below HT5.out b6)
  have B6 := Lib.hid (B5.out.trans (b6.mono B5.out.size))
  have S6 := Lib.hid (S5.out.trans (b6.mono S5.out.size))
  have R6 := Lib.hid (show RdP w6 w6.heap.size A6 X by unfold RdP; rw [Hn.out]; exact Rd.own hown)
  clear b6 hown P5 HT5 B5 S5
  go_wp2_with fail
  refine (Hmk.out b _).mono ?_
  rintro _ w7 ⟨rfl, hw⟩
  have b7 : Below w6.heap.size w6 w7 := by rw [hw]; exact (Below.refl _ w6).alloc (Nat.le_refl _) _
  have HT7 := Lib.hid (Utf8Tabs_below HT6.out b7)
  have B7 := Lib.hid (B6.out.trans (b7.mono B6.out.size))
  have P7 := Lib.hid (PB.out w6.heap.size w7 (by rw [hw]; exact (Boxed.new w6 9 (.string b)).cell) HT7.out)
  have S7 := Lib.hid (S6.out.trans (b7.mono S6.out.size))
  have Q7 := Lib.hid b7
  clear b7 hw HT6 B6 S6
  go_wp2_with fail
  refine P7.out.mono ?_
  rintro _ w8 ⟨A8, c8, rfl, hown, b8⟩
  have HT8 := Lib.hid (Utf8Tabs_below HT7.out b8)
  have B8 := Lib.hid (B7.out.trans (b8.mono B7.out.size))
  have S8 := Lib.hid (S7.out.trans (b8.mono S7.out.size))
  have Q8 := Lib.hid (Q7.out.trans (b8.mono Q7.out.size))
  have R8 := Lib.hid (show RdP w8 w8.heap.size A8 Y by unfold RdP; rw [Hm.out]; exact Rd.own hown)
  clear b8 hown P7 HT7 B7 S7 Q7
  have R4' := Lib.hid (R4.out.below S8.out)
  have R6' := Lib.hid (R6.out.below Q8.out)
  obtain ⟨ad, rfl, _, ha1, ha2⟩ := R4'.out.at_ HLat.out
  rw [add_next] at ha2
  dsimp only at ha1 ha2
  have hs1 := same_true w8 _ _ (some ad) A6 c c6 X X 0 (by have := R4'.out.take n; rw [HLt.out] at this; exact this) R6'.out rfl (by rw [Hn.out]; omega) (fun i y z hy hz => by
    rw [hy] at hz
    obtain rfl := Option.some.inj hz
    rw [← HLt.out] at hy
    have := Hch.out i y (take_get hy)
    exact ⟨rfl, rfl, by omega⟩)
  rw [Hn.out] at hs1
  have Hs1 := Lib.hid hs1
  have Hs2 : Hid (∀ w A' d, Below w8.heap.size w8 w → (A' = some (ad.add ((n + 1) * 2)) ∨ m = 0) → Calls Tryd.prog 25 #[.slice A' m d, .slice A8 m c8, .int .i64 ((a.size : Int) + 1)] w fun e w' => e = .returned (.bool true) ∧ Below w.heap.size w w') := by
    refine Lib.hid (fun w A' d hb hA => ?_)
    have hR : RdP w w8.heap.size A' M := by
      rcases hA with rfl | h0
      · have := RdP.drop (R4'.out.below (hb.mono S8.out.size)) (n + 1) (by rw [HLn.out]; omega)
        rw [HLd.out] at this
        exact Rd.more this S8.out.size
      · have : M = [] := List.eq_nil_of_length_eq_zero (by rw [HM2.out, h0])
        rw [this]
        exact RdP.nil _ _ _
    have h := same_true w _ _ A' A8 d c8 M Y (a.size + 1) hR (R8.out.below hb) (by rw [HM2.out, Hm.out]) (by rw [HM2.out]; omega) (fun i y z hy hz => by
      obtain ⟨g1, g2⟩ := HM3.out i y z hy hz
      rw [← HLd.out, List.getElem?_drop] at hy
      have := Hch.out _ y hy
      exact ⟨g1, g2, by omega⟩)
    rw [HM2.out, Hm.out, show ((a.size + 1 : Nat) : Int) = (a.size : Int) + 1 by omega] at h
    exact h
  clear hs1 R4 R4' R6 R6' R8 Q8
  have hnN : (n : Int) < ((n + 1 + m : Nat) : Int) := by omega
  have hnN2 : ((n + 1 : Nat) : Int) ≤ ((n + 1 + m : Nat) : Int) := by omega
  have hcm : c = n + 1 → m = 0 := fun e => by omega
  go_wp2_with fail
  refine Hs1.out.mono ?_
  rintro _ w9 ⟨rfl, b9⟩
  have HT9 := Lib.hid (Utf8Tabs_below HT8.out b9)
  have B9 := Lib.hid (B8.out.trans (b9.mono B8.out.size))
  have Hs3 := Lib.hid (fun A' d h => Hs2.out w9 A' d b9 h)
  clear b9 Hs1 Hs2 HT8
  go_wp2_with fail
  case inl =>
    have hm0 : m = 0 := by omega
    have h0 := Hs3.out (some ad) 0 (.inr hm0)
    rw [hm0] at h0
    refine h0.mono ?_
    clear h0
    rintro _ w10 ⟨rfl, b10⟩
    have HT10 := Lib.hid (Utf8Tabs_below HT9.out b10)
    have B10 := Lib.hid (B9.out.trans (b10.mono B9.out.size))
    clear b10 Hs3
    go_wp2_with fail
    refine (Hal.out _ HT10.out).mono ?_
    rintro _ w11 ⟨rfl, b11⟩
    go_wp2_with fail
    go_ret
    exact ⟨rfl, B10.out.trans (b11.mono B10.out.size)⟩
  case inr =>
    refine (Hs3.out _ _ (.inl rfl)).mono ?_
    rintro _ w10 ⟨rfl, b10⟩
    have HT10 := Lib.hid (Utf8Tabs_below HT9.out b10)
    have B10 := Lib.hid (B9.out.trans (b10.mono B9.out.size))
    clear b10 Hs3
    go_wp2_with fail
    refine (Hal.out _ HT10.out).mono ?_
    rintro _ w11 ⟨rfl, b11⟩
    go_wp2_with fail
    go_ret
    exact ⟨rfl, B10.out.trans (b11.mono B10.out.size)⟩
end Go.Proofs.YtmlngeflnoplkaaDoor
