/- ClusterCuts, walked. -/
import Derived.Test.YtmlngeflnoplkaaDoorRowG
import Derived.Test.YtmlngeflnoplkaaDoorAliveC
import Derived.Deep.RegionHeld3
namespace Go.Proofs.YtmlngeflnoplkaaDoor
open Go.RowKit Go.Lib

set_option maxRecDepth 100000 in
set_option maxHeartbeats 4000000 in
theorem cuts_walk (s : ByteArray) (which : Int) (w : World) (hw1 : -9223372036854775808 ≤ which) (hw2 : which ≤ 9223372036854775807) (hs : s.size ≤ 1073741824) (hT : Utf8Tabs 0 1 w) :
    Calls Tryd.prog 5 #[.string s, .int .i64 which] w fun e w' => e = .returned (.bool true) ∧ Below w.heap.size w w' := by
  have hpl := pcs_len s
  obtain ⟨N, hN⟩ : ∃ N, (pcs s).length = N := ⟨_, rfl⟩
  obtain ⟨L, hL⟩ : ∃ L, pcs s = L := ⟨_, rfl⟩
  have hLN : L.length = N := by rw [← hL, hN]
  have Hst := Lib.hid steps_any
  have Hal := Lib.hid alive_any
  have Hmk := Lib.hid cl_mk
  have Hmb := Lib.hid clb_mk
  have Hpa := Lib.hid (fun s' (h : s'.size ≤ 1073741824) Bn w hc hT => pieces_all s' Bn w hc h hT)
  have Hpb := Lib.hid (fun Bn w hc hT => pieces_back s Bn w hc hs hT)
  have Hco := Lib.hid (fun w hT => ccount_any s w hs hT)
  have Hch := Lib.hid (fun i x h => pcs_chain s i x h)
  have Hbk := Lib.hid (fun i x h => back_get (pcs s) i x h)
  have Hsum := Lib.hid (pcs_sum s)
  have Hspl := Lib.hid (split_at s)
  have Htk := Lib.hid (take_cut s)
  have Hda := Lib.hid (drop_at s)
  have Hdn := Lib.hid (drop_none s)
  rw [hN] at Hpb Hco Hbk Hspl Htk Hda Hdn
  rw [hL] at Hpb Hch Hbk Hsum Hspl Htk Hda Hdn
  have HT := Lib.hid hT
  have HL := Lib.hid hL
  have HLN := Lib.hid hLN
  rw [hN] at hpl
  clear hT hL hLN hN
  have hne : ((N : Int) != N) = false := by simp
  go_enter Tryd.func5, Tryd.ntmps5
  go_wp2_with fail
  refine (Hst.out _ HT.out).mono ?_
  rintro _ w1 ⟨rfl, b1⟩
  have HT1 := Lib.hid (Utf8Tabs_below HT.out b1)
  have B1 := Lib.hid b1
  clear b1
  go_wp2_with fail
  refine (Hmk.out s _).mono ?_
  rintro _ w2 ⟨rfl, hw⟩
  have b2 : Below w1.heap.size w1 w2 := by rw [hw]; exact (Below.refl _ w1).alloc (Nat.le_refl _) _
  have HT2 := Lib.hid (Utf8Tabs_below HT1.out b2)
  have B2 := Lib.hid (B1.out.trans (b2.mono B1.out.size))
  have P2 := Lib.hid (Hpa.out s hs w1.heap.size w2 (by rw [hw]; exact (Boxed.new w1 9 (.string s)).cell) HT2.out)
  rw [HL.out, HLN.out] at P2
  clear b2 hw
  go_wp2_with fail
  refine P2.out.mono ?_
  rintro _ w3 ⟨A, c, rfl, hown, b3⟩
  have HT3 := Lib.hid (Utf8Tabs_below HT2.out b3)
  have B3 := Lib.hid (B2.out.trans (b3.mono B2.out.size))
  have hsh := own_shape hown
  have hnc : N ≤ c := by obtain ⟨_, _, h1, h2, _⟩ := hsh; cases h1; exact h2
  have hAn : A = none → N = 0 ∧ c = 0 := fun e => by
    subst e
    rcases hown.2 with ⟨h1, h2⟩ | ⟨g, cap, cur, h1, _⟩
    · cases h1
      exact ⟨rfl, rfl⟩
    · cases h1
  have RA := Lib.hid (show RdP w3 w3.heap.size A L by have := Rd.own hown; rw [← HLN.out] at this; exact this)
  clear b3 hown hsh P2
  go_wp2_with fail
  refine (Hmb.out s _).mono ?_
  rintro _ w4 ⟨rfl, hw⟩
  have b4 : Below w3.heap.size w3 w4 := by rw [hw]; exact (Below.refl _ w3).alloc (Nat.le_refl _) _
  have HT4 := Lib.hid (Utf8Tabs_below HT3.out b4)
  have B4 := Lib.hid (B3.out.trans (b4.mono B3.out.size))
  have P4 := Lib.hid (Hpb.out w3.heap.size w4 (by rw [hw]; exact (Boxed.new w3 9 (.string s)).cell) HT4.out)
  have S4 := Lib.hid b4
  clear b4 hw
  go_wp2_with fail
  refine P4.out.mono ?_
  rintro _ w5 ⟨A', c', rfl, hown, b5⟩
  have HT5 := Lib.hid (Utf8Tabs_below HT4.out b5)
  have B5 := Lib.hid (B4.out.trans (b5.mono B4.out.size))
  have S5 := Lib.hid (S4.out.trans (b5.mono S4.out.size))
  have RB := Lib.hid (show RdP w5 w5.heap.size A' L.reverse by have := Rd.own hown; rw [← HLN.out, ← List.length_reverse] at this; exact this)
  clear b5 hown P4 S4
  go_wp2_with fail
  refine (Hco.out _ HT5.out).mono ?_
  rintro _ w6 ⟨rfl, b6⟩
  have HT6 := Lib.hid (Utf8Tabs_below HT5.out b6)
  have B6 := Lib.hid (B5.out.trans (b6.mono B5.out.size))
  have S6 := Lib.hid (S5.out.trans (b6.mono S5.out.size))
  have Q6 := Lib.hid b6
  clear b6
  go_wp2_with fail
  refine (Hal.out _ HT6.out).mono ?_
  rintro _ w7 ⟨rfl, b7⟩
  have HT7 := Lib.hid (Utf8Tabs_below HT6.out b7)
  have B7 := Lib.hid (B6.out.trans (b7.mono B6.out.size))
  have RA7 := Lib.hid (RA.out.below (S6.out.trans (b7.mono S6.out.size)))
  have hs37 : w3.heap.size ≤ w7.heap.size := by have := S6.out.size; have := b7.size; omega
  have RB7 := Lib.hid (RB.out.below (Q6.out.trans (b7.mono Q6.out.size)))
  clear b7 Q6 S6 S5
  go_wp2_with fail
  go_loopw [7, 8] (fun x i wr => ∃ k q : Nat, k ≤ N ∧ i = .int .i64 k ∧ x = .int .i64 (sumB (L.take k) : Nat) ∧ wr = w7.drewN q) (fun _ i _ => N - (RowKit.intOf i).toNat)
  case atStart => exact ⟨0, 0, Nat.zero_le _, rfl, rfl, rfl⟩
  case round =>
    obtain ⟨k, q, hk, rfl, rfl, rfl⟩ := hrel
    by_cases hkn : k < N
    · obtain ⟨x, hxe⟩ : ∃ x, L[k]? = some x := ⟨_, List.getElem?_eq_getElem (by rw [HLN.out]; exact hkn)⟩
      have hxb := Hbk.out k x hxe
      obtain ⟨a, rfl, _, ha1, ha2⟩ := RA7.out.at_ hxe
      obtain ⟨b, rfl, _, hb1, hb2⟩ := RB7.out.at_ hxb
      obtain ⟨e1, e2, e3⟩ := Hch.out k x hxe
      have hsn : sumB (L.take (k + 1)) = sumB (L.take k) + x.2.size := by rw [take_snoc L k x hxe, sumB_snoc]
      rw [← e1] at hsn ⊢
      rw [add_next] at ha2 hb2
      have Hsn := Lib.hid hsn
      have hw : IntKind.i64.wrap ((x.1 : Int) + (x.2.size : Int)) = ((x.1 + x.2.size : Nat) : Int) := by rw [IntWalk.i64_in _ (by omega)]; omega
      have hw1 : IntKind.i64.wrap ((N : Int) - 1) = ((N - 1 : Nat) : Int) := by rw [IntWalk.i64_in _ (by omega)]; omega
      have hw2 : IntKind.i64.wrap (((N - 1 : Nat) : Int) - (k : Int)) = ((N - 1 - k : Nat) : Int) := by rw [IntWalk.i64_in _ (by omega)]; omega
      have hb2' : ((x.1 : Int) != (x.1 : Int)) = false := by simp
      have hb3' : (x.1 != x.1) = false := by simp
      have hem : x.2.toList.isEmpty = false := empty_no x.2 e2
      clear hxe hxb e1 e2 hsn
      go_wp2_with fail
      go_quiet (fail)
      go_wp2
      refine ⟨⟨k + 1, _, by omega, by go_num, by rw [Hsn.out]; rfl, rfl⟩, ?_⟩
      simp only [RowKit.intOf]
      omega
    · have hkN : k = N := by omega
      have hkL : L.take k = L := List.take_of_length_le (by rw [HLN.out]; omega)
      subst hkN
      rw [hkL, Hsum.out]
      clear hkL
      obtain ⟨W, hW⟩ : ∃ W, w7.drewN q = W := ⟨_, rfl⟩
      have HTW := Lib.hid (show Utf8Tabs 0 1 W by rw [← hW]; exact HT7.out)
      have BW := Lib.hid (show Below w.heap.size w W by rw [← hW]; exact below_N B7.out _)
      have RAW := Lib.hid (show RdP W W.heap.size A L by rw [← hW]; exact Rd.more RA7.out hs37)
      rw [hW]
      clear hW RA7 RB7 HT7 B7 B1 B2 B3 B4 B5 B6 HT1 HT2 HT3 HT4 HT5 HT6 RA RB HT Hbk Hpb Hco Hst Hal Hmb
      -- the number of the border
      have h1 := Int.tmod_lt_of_pos which (show (0 : Int) < (k : Int) + 1 by omega)
      have h2 : -((k : Int) + 1) < which.tmod ((k : Int) + 1) := Int.lt_tmod_of_pos which (show (0 : Int) < (k : Int) + 1 by omega)
      have hwk : IntKind.i64.wrap ((k : Int) + 1) = (k : Int) + 1 := IntWalk.i64_in _ (by omega)
      have hk0 : ((k : Int) + 1) ≠ 0 := by omega
      obtain ⟨r, hr⟩ : ∃ r, which.tmod ((k : Int) + 1) = r := ⟨_, rfl⟩
      rw [hr] at h1 h2
      obtain ⟨n, hn⟩ : ∃ n : Nat, (if r < 0 then r + k + 1 else r) = (n : Int) := by
        by_cases hr : r < 0
        · rw [if_pos hr]
          exact ⟨(r + k + 1).toNat, by omega⟩
        · rw [if_neg hr]
          exact ⟨r.toNat, by omega⟩
      have hnk : n ≤ k := by
        by_cases hr : r < 0
        · rw [if_pos hr] at hn
          omega
        · rw [if_neg hr] at hn
          omega
      obtain ⟨kb, hkb, hd⟩ := Hspl.out n hnk
      by_cases hnk' : n < k
      · obtain ⟨hkc, hx⟩ := Hda.out n kb hd hnk'
        obtain ⟨a, rfl, _, ha1, ha2⟩ := RAW.out.at_ hx
        rw [add_next] at ha2
        have hbd := clEnd_bounds hkc
        have hPE := placeAt_lt s hbd.1 hbd.2
        have hEs := placeAt_le s (clEnd s kb)
        have htk := Htk.out n kb hnk hkb hd
        have hdc := drop_cut s kb hkb
        rw [← hd] at hdc
        obtain ⟨P, hP⟩ : ∃ P, placeAt s kb = P := ⟨_, rfl⟩
        obtain ⟨E, hE⟩ : ∃ E, placeAt s (clEnd s kb) = E := ⟨_, rfl⟩
        obtain ⟨X, hX⟩ : ∃ X, s.extract P E = X := ⟨_, rfl⟩
        have hpc : pc s kb = (P, X) := by show (placeAt s kb, s.extract (placeAt s kb) (placeAt s (clEnd s kb))) = _; rw [hP, hE, hX]
        rw [hpc] at ha1 ha2
        rw [hP] at hPE htk hdc
        rw [hE] at hPE hEs
        dsimp only at ha1 ha2
        have hXs : X.size = E - P := by rw [← hX]; simp; omega
        have hwE1 : IntKind.i64.wrap ((P : Int) + (X.size : Int)) = (E : Int) := by rw [IntWalk.i64_in _ (by omega)]; omega
        have hwE2 : IntKind.i64.wrap ((E : Int) - 1) = ((E - 1 : Nat) : Int) := by rw [IntWalk.i64_in _ (by omega)]; omega
        have hXs2 : ((E - P : Nat) : Int) = (X.size : Int) := by omega
        have HP := Lib.hid hP
        have HE := Lib.hid hE
        have Htk2 := Lib.hid htk
        have Hdc := Lib.hid hdc
        have hPs : (P : Int) ≤ (s.size : Int) := by omega
        have hnki : (n : Int) < (k : Int) := by omega
        have hPs2 : P ≤ s.size := by omega
        have hnc2 : n ≤ c := by omega
        have Hd := Lib.hid hd
        have Hkb := Lib.hid hkb
        have Hkc := Lib.hid hkc
        clear hP hE htk hdc hpc hX hx hd hkb hkc hbd Hspl Htk Hda Hdn
        have hlt : (L.take n).length = n := by rw [List.length_take, HLN.out]; omega
        have hld : (L.drop n).length = k - n := by rw [List.length_drop, HLN.out]
        have hlt : (L.take n).length = n := by rw [List.length_take, HLN.out]; omega
        have hld : (L.drop n).length = k - n := by rw [List.length_drop, HLN.out]
        have hlt : (L.take n).length = n := by rw [List.length_take, HLN.out]; omega
        have hld : (L.drop n).length = k - n := by rw [List.length_drop, HLN.out]
        have hlt : (L.take n).length = n := by rw [List.length_take, HLN.out]; omega
        have hld : (L.drop n).length = k - n := by rw [List.length_drop, HLN.out]
        have hlt : (L.take n).length = n := by rw [List.length_take, HLN.out]; omega
        have hld : (L.drop n).length = k - n := by rw [List.length_drop, HLN.out]
        have hlt : (L.take n).length = n := by rw [List.length_take, HLN.out]; omega
        have hld : (L.drop n).length = k - n := by rw [List.length_drop, HLN.out]
        have hlt : (L.take n).length = n := by rw [List.length_take, HLN.out]; omega
        have hld : (L.drop n).length = k - n := by rw [List.length_drop, HLN.out]
        have hlt : (L.take n).length = n := by rw [List.length_take, HLN.out]; omega
        have hld : (L.drop n).length = k - n := by rw [List.length_drop, HLN.out]
        rcases Int.lt_or_le r 0 with hr0 | hr0
        · rw [if_pos hr0] at hn
          have hwr1 : IntKind.i64.wrap (r + (k : Int)) = r + k := IntWalk.i64_in _ (by omega)
          have hwr2 : IntKind.i64.wrap (r + (k : Int) + 1) = (n : Int) := by rw [hn]; exact IntWalk.i64_in _ (by omega)
          clear hn
          go_wp2_with fail
          refine (Hmk.out (s.extract 0 P) _).mono ?_
          rintro _ w8 ⟨rfl, hw⟩
          have b8 : Below W.heap.size W w8 := by rw [hw]; exact (Below.refl _ W).alloc (Nat.le_refl _) _
          have HT8 := Lib.hid (Utf8Tabs_below HTW.out b8)
          have P8 := Lib.hid (Hpa.out (s.extract 0 P) (by simp; omega) W.heap.size w8 (by rw [hw]; exact (Boxed.new W 9 (.string (s.extract 0 P))).cell) HT8.out)
          have S8 := Lib.hid b8
          rw [Htk2.out, hlt] at P8
          clear b8 hw
          go_wp2_with fail
          refine P8.out.mono ?_
          rintro _ w9 ⟨A8, c8, rfl, hown, b9⟩
          have HT9 := Lib.hid (Utf8Tabs_below HT8.out b9)
          have S9 := Lib.hid (S8.out.trans (b9.mono S8.out.size))
          have R8 := Lib.hid (show RdP w9 w9.heap.size A8 (L.take n) by unfold RdP; rw [hlt]; exact Rd.own hown)
          clear b9 hown P8 S8 HT8
          go_wp2_with fail
          refine (Hmk.out (s.extract P s.size) _).mono ?_
          rintro _ w10 ⟨rfl, hw⟩
          have b10 : Below w9.heap.size w9 w10 := by rw [hw]; exact (Below.refl _ w9).alloc (Nat.le_refl _) _
          have HT10 := Lib.hid (Utf8Tabs_below HT9.out b10)
          have P10 := Lib.hid (Hpa.out (s.extract P s.size) (by simp; omega) w9.heap.size w10 (by rw [hw]; exact (Boxed.new w9 9 (.string (s.extract P s.size))).cell) HT10.out)
          have S10 := Lib.hid (S9.out.trans (b10.mono S9.out.size))
          have R8' := Lib.hid (R8.out.below b10)
          have hle9 : w9.heap.size ≤ w10.heap.size := b10.size
          have hdl := Hdc.out.1
          have Hds := Lib.hid Hdc.out.2
          obtain ⟨M, hM⟩ : ∃ M, pcs (s.extract P s.size) = M := ⟨_, rfl⟩
          rw [hM] at P10 hdl Hds
          rw [hld] at hdl
          rw [hdl] at P10
          have HM := Lib.hid hM
          clear b10 hw hM
          go_wp2_with fail
          refine P10.out.mono ?_
          rintro _ w11 ⟨A10, c10, rfl, hown, b11⟩
          have HT11 := Lib.hid (Utf8Tabs_below HT10.out b11)
          have S11 := Lib.hid (S10.out.trans (b11.mono S10.out.size))
          have R10 := Lib.hid (show RdP w11 w11.heap.size A10 M by unfold RdP; rw [hdl]; exact Rd.own hown)
          have R8'' := Lib.hid (R8'.out.below (b11.mono hle9))
          have RAX := Lib.hid (RAW.out.below S11.out)
          clear b11 hown P10 S10 HT10 R8' R8 S9 HT9
          have hs1 := same_true w11 _ _ (some a) A8 c c8 (L.take n) (L.take n) 0 (RAX.out.take n) R8''.out rfl (by rw [hlt]; omega) (fun i x y hx hy => by
            rw [hx] at hy
            obtain rfl := Option.some.inj hy
            have := Hch.out i x (take_get hx)
            exact ⟨rfl, rfl, by omega⟩)
          rw [hlt] at hs1
          have Hs1 := Lib.hid hs1
          clear hs1
          go_wp2_with fail
          refine Hs1.out.mono ?_
          rintro _ w12 ⟨rfl, b12⟩
          have HT12 := Lib.hid (Utf8Tabs_below HT11.out b12)
          have S12 := Lib.hid (S11.out.trans (b12.mono S11.out.size))
          have RAY := Lib.hid (RAX.out.below (b12.mono S11.out.size))
          have hs2 := same_true w12 _ _ (some (a.add (n * 2))) A10 (c - n) c10 (L.drop n) M P (RAY.out.drop n (by rw [HLN.out]; exact hnk)) (R10.out.below b12) (by rw [hld, hdl]) (by rw [hld]; omega) (fun i x y hx hy => by
            obtain ⟨g1, g2⟩ := Hds.out i x y hx hy
            rw [List.getElem?_drop] at hx
            have := Hch.out _ x hx
            exact ⟨g1, g2, by omega⟩)
          rw [hld, hdl] at hs2
          have Hs2 := Lib.hid hs2
          clear hs2 b12 Hs1 RAX S11 HT11 R8'' R10
          go_wp2_with fail
          refine Hs2.out.mono ?_
          rintro _ w13 ⟨rfl, b13⟩
          have HT13 := Lib.hid (Utf8Tabs_below HT12.out b13)
          have S13 := Lib.hid (S12.out.trans (b13.mono S12.out.size))
          have HIs := Lib.hid (is_any s P w13 hs HT13.out)
          clear b13 Hs2 S12 HT12
          go_wp2_with fail
          refine HIs.out.mono ?_
          rintro _ w14 ⟨⟨bb, rfl, hbb⟩, b14⟩
          obtain rfl : bb = true := hbb.2 ⟨kb, Hkb.out, by rw [HP.out]⟩
          have HT14 := Lib.hid (Utf8Tabs_below HT13.out b14)
          have S14 := Lib.hid (S13.out.trans (b14.mono S13.out.size))
          have ha24 := (S14.out.cell (p := ⟨(a.add (n * 2)).block, (a.add (n * 2)).off + 1, none⟩) (show (a.add (n * 2)).block < W.heap.size by exact cell_ltN (a := ⟨(a.add (n * 2)).block, (a.add (n * 2)).off + 1, none⟩) ha2)).trans ha2
          have HAt := Lib.hid (at_any s ((E - 1 : Nat) : Int) (E - 1) w14 (by omega) (by omega) hs HT14.out)
          clear b14 hbb HIs S13 HT13
          go_wp2_with fail
          refine HAt.out.mono ?_
          rintro _ w15 ⟨⟨x1, x2, rfl, har⟩, b15⟩
          obtain ⟨rfl, rfl⟩ := around_one har Hkb.out (by rw [HP.out]; omega) (by rw [HE.out]; omega)
          rw [HP.out, HE.out]
          have HT15 := Lib.hid (Utf8Tabs_below HT14.out b15)
          have S15 := Lib.hid (S14.out.trans (b15.mono S14.out.size))
          have ha25 := (S15.out.cell (p := ⟨(a.add (n * 2)).block, (a.add (n * 2)).off + 1, none⟩) (show (a.add (n * 2)).block < W.heap.size by exact cell_ltN (a := ⟨(a.add (n * 2)).block, (a.add (n * 2)).off + 1, none⟩) ha2)).trans ha2
          have HNx := Lib.hid (cnext_rest s kb w15.drew (Nat.le_of_lt Hkc.out) (show Utf8Tabs 0 1 w15 from HT15.out) hs)
          rw [HP.out, HE.out, hXs2] at HNx
          clear b15 har HAt S14 HT14 ha24
          go_wp2_with fail
          have c0d : w15.drew.cell? ⟨(a.add (n * 2)).block, (a.add (n * 2)).off + 1, none⟩ = some (.string X) := ha25
          have hltd : (a.add (n * 2)).block < w15.drew.heap.size := cell_ltN (a := ⟨(a.add (n * 2)).block, (a.add (n * 2)).off + 1, none⟩) c0d
          clear hdl hlt hld hXs hwE2 h1 h2 hwr1 hwr2 hr0 Hds HM Htk2 Hdc Hd Hkb Hkc HP HE Hch Hsum Hpa Hmk RAY HTW HT15 RAW HLN HL ha1 ha2 ha25
          go_region_held3 (fun w' => w'.cell? ⟨(a.add (n * 2)).block, (a.add (n * 2)).off + 1, none⟩ = some (.string X)) (first | exact c0d | exact (b16.cell (p := ⟨(a.add (n * 2)).block, (a.add (n * 2)).off + 1, none⟩) hltd).trans c0d)
            (first
              | (go_at_call 14; refine HNx.out.mono ?_; rintro e w16 ⟨rfl, b16⟩))
          go_wp2_with fail
          go_ret
          have f15 := BW.out.trans (S15.out.mono BW.out.size)
          exact ⟨rfl, f15.drew.trans (b16.mono f15.size)⟩
        · rw [if_neg (by omega)] at hn
          subst hn
          have hwr1 := trivial
          have hwr2 := trivial
          go_wp2_with fail
          refine (Hmk.out (s.extract 0 P) _).mono ?_
          rintro _ w8 ⟨rfl, hw⟩
          have b8 : Below W.heap.size W w8 := by rw [hw]; exact (Below.refl _ W).alloc (Nat.le_refl _) _
          have HT8 := Lib.hid (Utf8Tabs_below HTW.out b8)
          have P8 := Lib.hid (Hpa.out (s.extract 0 P) (by simp; omega) W.heap.size w8 (by rw [hw]; exact (Boxed.new W 9 (.string (s.extract 0 P))).cell) HT8.out)
          have S8 := Lib.hid b8
          rw [Htk2.out, hlt] at P8
          clear b8 hw
          go_wp2_with fail
          refine P8.out.mono ?_
          rintro _ w9 ⟨A8, c8, rfl, hown, b9⟩
          have HT9 := Lib.hid (Utf8Tabs_below HT8.out b9)
          have S9 := Lib.hid (S8.out.trans (b9.mono S8.out.size))
          have R8 := Lib.hid (show RdP w9 w9.heap.size A8 (L.take n) by unfold RdP; rw [hlt]; exact Rd.own hown)
          clear b9 hown P8 S8 HT8
          go_wp2_with fail
          refine (Hmk.out (s.extract P s.size) _).mono ?_
          rintro _ w10 ⟨rfl, hw⟩
          have b10 : Below w9.heap.size w9 w10 := by rw [hw]; exact (Below.refl _ w9).alloc (Nat.le_refl _) _
          have HT10 := Lib.hid (Utf8Tabs_below HT9.out b10)
          have P10 := Lib.hid (Hpa.out (s.extract P s.size) (by simp; omega) w9.heap.size w10 (by rw [hw]; exact (Boxed.new w9 9 (.string (s.extract P s.size))).cell) HT10.out)
          have S10 := Lib.hid (S9.out.trans (b10.mono S9.out.size))
          have R8' := Lib.hid (R8.out.below b10)
          have hle9 : w9.heap.size ≤ w10.heap.size := b10.size
          have hdl := Hdc.out.1
          have Hds := Lib.hid Hdc.out.2
          obtain ⟨M, hM⟩ : ∃ M, pcs (s.extract P s.size) = M := ⟨_, rfl⟩
          rw [hM] at P10 hdl Hds
          rw [hld] at hdl
          rw [hdl] at P10
          have HM := Lib.hid hM
          clear b10 hw hM
          go_wp2_with fail
          refine P10.out.mono ?_
          rintro _ w11 ⟨A10, c10, rfl, hown, b11⟩
          have HT11 := Lib.hid (Utf8Tabs_below HT10.out b11)
          have S11 := Lib.hid (S10.out.trans (b11.mono S10.out.size))
          have R10 := Lib.hid (show RdP w11 w11.heap.size A10 M by unfold RdP; rw [hdl]; exact Rd.own hown)
          have R8'' := Lib.hid (R8'.out.below (b11.mono hle9))
          have RAX := Lib.hid (RAW.out.below S11.out)
          clear b11 hown P10 S10 HT10 R8' R8 S9 HT9
          have hs1 := same_true w11 _ _ (some a) A8 c c8 (L.take n) (L.take n) 0 (RAX.out.take n) R8''.out rfl (by rw [hlt]; omega) (fun i x y hx hy => by
            rw [hx] at hy
            obtain rfl := Option.some.inj hy
            have := Hch.out i x (take_get hx)
            exact ⟨rfl, rfl, by omega⟩)
          rw [hlt] at hs1
          have Hs1 := Lib.hid hs1
          clear hs1
          go_wp2_with fail
          refine Hs1.out.mono ?_
          rintro _ w12 ⟨rfl, b12⟩
          have HT12 := Lib.hid (Utf8Tabs_below HT11.out b12)
          have S12 := Lib.hid (S11.out.trans (b12.mono S11.out.size))
          have RAY := Lib.hid (RAX.out.below (b12.mono S11.out.size))
          have hs2 := same_true w12 _ _ (some (a.add (n * 2))) A10 (c - n) c10 (L.drop n) M P (RAY.out.drop n (by rw [HLN.out]; exact hnk)) (R10.out.below b12) (by rw [hld, hdl]) (by rw [hld]; omega) (fun i x y hx hy => by
            obtain ⟨g1, g2⟩ := Hds.out i x y hx hy
            rw [List.getElem?_drop] at hx
            have := Hch.out _ x hx
            exact ⟨g1, g2, by omega⟩)
          rw [hld, hdl] at hs2
          have Hs2 := Lib.hid hs2
          clear hs2 b12 Hs1 RAX S11 HT11 R8'' R10
          go_wp2_with fail
          refine Hs2.out.mono ?_
          rintro _ w13 ⟨rfl, b13⟩
          have HT13 := Lib.hid (Utf8Tabs_below HT12.out b13)
          have S13 := Lib.hid (S12.out.trans (b13.mono S12.out.size))
          have HIs := Lib.hid (is_any s P w13 hs HT13.out)
          clear b13 Hs2 S12 HT12
          go_wp2_with fail
          refine HIs.out.mono ?_
          rintro _ w14 ⟨⟨bb, rfl, hbb⟩, b14⟩
          obtain rfl : bb = true := hbb.2 ⟨kb, Hkb.out, by rw [HP.out]⟩
          have HT14 := Lib.hid (Utf8Tabs_below HT13.out b14)
          have S14 := Lib.hid (S13.out.trans (b14.mono S13.out.size))
          have ha24 := (S14.out.cell (p := ⟨(a.add (n * 2)).block, (a.add (n * 2)).off + 1, none⟩) (show (a.add (n * 2)).block < W.heap.size by exact cell_ltN (a := ⟨(a.add (n * 2)).block, (a.add (n * 2)).off + 1, none⟩) ha2)).trans ha2
          have HAt := Lib.hid (at_any s ((E - 1 : Nat) : Int) (E - 1) w14 (by omega) (by omega) hs HT14.out)
          clear b14 hbb HIs S13 HT13
          go_wp2_with fail
          refine HAt.out.mono ?_
          rintro _ w15 ⟨⟨x1, x2, rfl, har⟩, b15⟩
          obtain ⟨rfl, rfl⟩ := around_one har Hkb.out (by rw [HP.out]; omega) (by rw [HE.out]; omega)
          rw [HP.out, HE.out]
          have HT15 := Lib.hid (Utf8Tabs_below HT14.out b15)
          have S15 := Lib.hid (S14.out.trans (b15.mono S14.out.size))
          have ha25 := (S15.out.cell (p := ⟨(a.add (n * 2)).block, (a.add (n * 2)).off + 1, none⟩) (show (a.add (n * 2)).block < W.heap.size by exact cell_ltN (a := ⟨(a.add (n * 2)).block, (a.add (n * 2)).off + 1, none⟩) ha2)).trans ha2
          have HNx := Lib.hid (cnext_rest s kb w15.drew (Nat.le_of_lt Hkc.out) (show Utf8Tabs 0 1 w15 from HT15.out) hs)
          rw [HP.out, HE.out, hXs2] at HNx
          clear b15 har HAt S14 HT14 ha24
          go_wp2_with fail
          have c0d : w15.drew.cell? ⟨(a.add (n * 2)).block, (a.add (n * 2)).off + 1, none⟩ = some (.string X) := ha25
          have hltd : (a.add (n * 2)).block < w15.drew.heap.size := cell_ltN (a := ⟨(a.add (n * 2)).block, (a.add (n * 2)).off + 1, none⟩) c0d
          clear hdl hlt hld hXs hwE2 h1 h2 hwr1 hwr2 hr0 Hds HM Htk2 Hdc Hd Hkb Hkc HP HE Hch Hsum Hpa Hmk RAY HTW HT15 RAW HLN HL ha1 ha2 ha25
          go_region_held3 (fun w' => w'.cell? ⟨(a.add (n * 2)).block, (a.add (n * 2)).off + 1, none⟩ = some (.string X)) (first | exact c0d | exact (b16.cell (p := ⟨(a.add (n * 2)).block, (a.add (n * 2)).off + 1, none⟩) hltd).trans c0d)
            (first
              | (go_at_call 14; refine HNx.out.mono ?_; rintro e w16 ⟨rfl, b16⟩))
          go_wp2_with fail
          go_ret
          have f15 := BW.out.trans (S15.out.mono BW.out.size)
          exact ⟨rfl, f15.drew.trans (b16.mono f15.size)⟩
      · obtain rfl : n = k := by omega
        obtain rfl := Hdn.out kb hkb hd
        have hnki : ¬ ((n : Int) < (n : Int)) := by omega
        have hss : (s.size : Int) ≤ (s.size : Int) := by omega
        have hsn : s.extract 0 s.size = s := by simp
        clear hd hkb Hspl Htk Hda Hdn
        rcases Int.lt_or_le r 0 with hr0 | hr0
        · rw [if_pos hr0] at hn
          have hwr1 : IntKind.i64.wrap (r + (n : Int)) = r + n := IntWalk.i64_in _ (by omega)
          have hwr2 : IntKind.i64.wrap (r + (n : Int) + 1) = (n : Int) := by rw [hn]; exact IntWalk.i64_in _ (by omega)
          clear hn
          go_wp2_with fail
          refine (Hmk.out s _).mono ?_
          rintro _ w8 ⟨rfl, hw⟩
          have b8 : Below W.heap.size W w8 := by rw [hw]; exact (Below.refl _ W).alloc (Nat.le_refl _) _
          have HT8 := Lib.hid (Utf8Tabs_below HTW.out b8)
          have P8 := Lib.hid (Hpa.out s hs W.heap.size w8 (by rw [hw]; exact (Boxed.new W 9 (.string s)).cell) HT8.out)
          have S8 := Lib.hid b8
          rw [HL.out, HLN.out] at P8
          clear b8 hw
          go_wp2_with fail
          refine P8.out.mono ?_
          rintro _ w9 ⟨A8, c8, rfl, hown, b9⟩
          have HT9 := Lib.hid (Utf8Tabs_below HT8.out b9)
          have S9 := Lib.hid (S8.out.trans (b9.mono S8.out.size))
          have R8 := Lib.hid (show RdP w9 w9.heap.size A8 L by unfold RdP; rw [HLN.out]; exact Rd.own hown)
          clear b9 hown P8 S8 HT8
          go_wp2_with fail
          refine (Hmk.out ByteArray.empty _).mono ?_
          rintro _ w10 ⟨rfl, hw⟩
          have b10 : Below w9.heap.size w9 w10 := by rw [hw]; exact (Below.refl _ w9).alloc (Nat.le_refl _) _
          have HT10 := Lib.hid (Utf8Tabs_below HT9.out b10)
          have P10 := Lib.hid (Hpa.out ByteArray.empty (by simp) w9.heap.size w10 (by rw [hw]; exact (Boxed.new w9 9 (.string ByteArray.empty)).cell) HT10.out)
          have S10 := Lib.hid (S9.out.trans (b10.mono S9.out.size))
          have R8' := Lib.hid (R8.out.below b10)
          have hle9 : w9.heap.size ≤ w10.heap.size := b10.size
          have hM : pcs ByteArray.empty = [] := by
            have := pcs_len ByteArray.empty
            exact List.eq_nil_of_length_eq_zero (by simp at this ⊢; exact this)
          rw [hM, List.length_nil] at P10
          clear b10 hw hM
          go_wp2_with fail
          refine P10.out.mono ?_
          rintro _ w11 ⟨A10, c10, rfl, hown, b11⟩
          have HT11 := Lib.hid (Utf8Tabs_below HT10.out b11)
          have S11 := Lib.hid (S10.out.trans (b11.mono S10.out.size))
          have R8'' := Lib.hid (R8'.out.below (b11.mono hle9))
          have RAX := Lib.hid (RAW.out.below S11.out)
          clear b11 hown P10 S10 HT10 R8' R8 S9 HT9
          have hs1 := same_true w11 _ _ A A8 c c8 L L 0 RAX.out R8''.out rfl (by rw [HLN.out]; omega) (fun i x y hx hy => by
            rw [hx] at hy
            obtain rfl := Option.some.inj hy
            have := Hch.out i x hx
            exact ⟨rfl, rfl, by omega⟩)
          rw [HLN.out] at hs1
          have Hs1 := Lib.hid hs1
          have HA2 := Lib.hid (fun (B' : Option Addr) (d : Nat) (w : World) => same_true w 0 0 B' A10 d c10 [] [] s.size (RdP.nil _ _ _) (RdP.nil _ _ _) rfl (by simp) (fun i x y hx _ => by simp at hx))
          clear hs1
          rcases A with _ | a
          · obtain ⟨rfl, rfl⟩ := hAn rfl
            go_wp2_with fail
            refine Hs1.out.mono ?_
            rintro _ w12 ⟨rfl, b12⟩
            have HT12 := Lib.hid (Utf8Tabs_below HT11.out b12)
            have S12 := Lib.hid (S11.out.trans (b12.mono S11.out.size))
            clear b12 Hs1 RAX S11 HT11 R8''
            go_wp2_with fail
            all_goals
              refine (HA2.out _ _ _).mono ?_
              rintro _ w13 ⟨rfl, b13⟩
              have HT13 := Lib.hid (Utf8Tabs_below HT12.out b13)
              have S13 := Lib.hid (S12.out.trans (b13.mono S12.out.size))
              have HIs := Lib.hid (is_any s (s.size : Int) w13 hs HT13.out)
              clear b13 HA2 S12 HT12
              go_wp2_with fail
              refine HIs.out.mono ?_
              rintro _ w14 ⟨⟨bb, rfl, hbb⟩, b14⟩
              obtain rfl : bb = true := hbb.2 ⟨chars s, isBord_all s, by rw [placeAt_all]⟩
              have S14 := Lib.hid (S13.out.trans (b14.mono S13.out.size))
              have HAt := Lib.hid (at_end s (s.size : Int) w14 (by omega) hs)
              clear b14 hbb HIs S13 HT13
              go_wp2_with fail
              refine HAt.out.mono ?_
              rintro _ w15 ⟨rfl, b15⟩
              have S15 := Lib.hid (S14.out.trans (b15.mono S14.out.size))
              clear b15 HAt S14
              go_wp2_with fail
              go_ret
              exact ⟨rfl, BW.out.trans (S15.out.mono BW.out.size)⟩
          · go_wp2_with fail
            refine Hs1.out.mono ?_
            rintro _ w12 ⟨rfl, b12⟩
            have HT12 := Lib.hid (Utf8Tabs_below HT11.out b12)
            have S12 := Lib.hid (S11.out.trans (b12.mono S11.out.size))
            clear b12 Hs1 RAX S11 HT11 R8''
            go_wp2_with fail
            all_goals
              refine (HA2.out _ _ _).mono ?_
              rintro _ w13 ⟨rfl, b13⟩
              have HT13 := Lib.hid (Utf8Tabs_below HT12.out b13)
              have S13 := Lib.hid (S12.out.trans (b13.mono S12.out.size))
              have HIs := Lib.hid (is_any s (s.size : Int) w13 hs HT13.out)
              clear b13 HA2 S12 HT12
              go_wp2_with fail
              refine HIs.out.mono ?_
              rintro _ w14 ⟨⟨bb, rfl, hbb⟩, b14⟩
              obtain rfl : bb = true := hbb.2 ⟨chars s, isBord_all s, by rw [placeAt_all]⟩
              have S14 := Lib.hid (S13.out.trans (b14.mono S13.out.size))
              have HAt := Lib.hid (at_end s (s.size : Int) w14 (by omega) hs)
              clear b14 hbb HIs S13 HT13
              go_wp2_with fail
              refine HAt.out.mono ?_
              rintro _ w15 ⟨rfl, b15⟩
              have S15 := Lib.hid (S14.out.trans (b15.mono S14.out.size))
              clear b15 HAt S14
              go_wp2_with fail
              go_ret
              exact ⟨rfl, BW.out.trans (S15.out.mono BW.out.size)⟩
        · rw [if_neg (by omega)] at hn
          subst hn
          go_wp2_with fail
          refine (Hmk.out s _).mono ?_
          rintro _ w8 ⟨rfl, hw⟩
          have b8 : Below W.heap.size W w8 := by rw [hw]; exact (Below.refl _ W).alloc (Nat.le_refl _) _
          have HT8 := Lib.hid (Utf8Tabs_below HTW.out b8)
          have P8 := Lib.hid (Hpa.out s hs W.heap.size w8 (by rw [hw]; exact (Boxed.new W 9 (.string s)).cell) HT8.out)
          have S8 := Lib.hid b8
          rw [HL.out, HLN.out] at P8
          clear b8 hw
          go_wp2_with fail
          refine P8.out.mono ?_
          rintro _ w9 ⟨A8, c8, rfl, hown, b9⟩
          have HT9 := Lib.hid (Utf8Tabs_below HT8.out b9)
          have S9 := Lib.hid (S8.out.trans (b9.mono S8.out.size))
          have R8 := Lib.hid (show RdP w9 w9.heap.size A8 L by unfold RdP; rw [HLN.out]; exact Rd.own hown)
          clear b9 hown P8 S8 HT8
          go_wp2_with fail
          refine (Hmk.out ByteArray.empty _).mono ?_
          rintro _ w10 ⟨rfl, hw⟩
          have b10 : Below w9.heap.size w9 w10 := by rw [hw]; exact (Below.refl _ w9).alloc (Nat.le_refl _) _
          have HT10 := Lib.hid (Utf8Tabs_below HT9.out b10)
          have P10 := Lib.hid (Hpa.out ByteArray.empty (by simp) w9.heap.size w10 (by rw [hw]; exact (Boxed.new w9 9 (.string ByteArray.empty)).cell) HT10.out)
          have S10 := Lib.hid (S9.out.trans (b10.mono S9.out.size))
          have R8' := Lib.hid (R8.out.below b10)
          have hle9 : w9.heap.size ≤ w10.heap.size := b10.size
          have hM : pcs ByteArray.empty = [] := by
            have := pcs_len ByteArray.empty
            exact List.eq_nil_of_length_eq_zero (by simp at this ⊢; exact this)
          rw [hM, List.length_nil] at P10
          clear b10 hw hM
          go_wp2_with fail
          refine P10.out.mono ?_
          rintro _ w11 ⟨A10, c10, rfl, hown, b11⟩
          have HT11 := Lib.hid (Utf8Tabs_below HT10.out b11)
          have S11 := Lib.hid (S10.out.trans (b11.mono S10.out.size))
          have R8'' := Lib.hid (R8'.out.below (b11.mono hle9))
          have RAX := Lib.hid (RAW.out.below S11.out)
          clear b11 hown P10 S10 HT10 R8' R8 S9 HT9
          have hs1 := same_true w11 _ _ A A8 c c8 L L 0 RAX.out R8''.out rfl (by rw [HLN.out]; omega) (fun i x y hx hy => by
            rw [hx] at hy
            obtain rfl := Option.some.inj hy
            have := Hch.out i x hx
            exact ⟨rfl, rfl, by omega⟩)
          rw [HLN.out] at hs1
          have Hs1 := Lib.hid hs1
          have HA2 := Lib.hid (fun (B' : Option Addr) (d : Nat) (w : World) => same_true w 0 0 B' A10 d c10 [] [] s.size (RdP.nil _ _ _) (RdP.nil _ _ _) rfl (by simp) (fun i x y hx _ => by simp at hx))
          clear hs1
          rcases A with _ | a
          · obtain ⟨rfl, rfl⟩ := hAn rfl
            go_wp2_with fail
            refine Hs1.out.mono ?_
            rintro _ w12 ⟨rfl, b12⟩
            have HT12 := Lib.hid (Utf8Tabs_below HT11.out b12)
            have S12 := Lib.hid (S11.out.trans (b12.mono S11.out.size))
            clear b12 Hs1 RAX S11 HT11 R8''
            go_wp2_with fail
            all_goals
              refine (HA2.out _ _ _).mono ?_
              rintro _ w13 ⟨rfl, b13⟩
              have HT13 := Lib.hid (Utf8Tabs_below HT12.out b13)
              have S13 := Lib.hid (S12.out.trans (b13.mono S12.out.size))
              have HIs := Lib.hid (is_any s (s.size : Int) w13 hs HT13.out)
              clear b13 HA2 S12 HT12
              go_wp2_with fail
              refine HIs.out.mono ?_
              rintro _ w14 ⟨⟨bb, rfl, hbb⟩, b14⟩
              obtain rfl : bb = true := hbb.2 ⟨chars s, isBord_all s, by rw [placeAt_all]⟩
              have S14 := Lib.hid (S13.out.trans (b14.mono S13.out.size))
              have HAt := Lib.hid (at_end s (s.size : Int) w14 (by omega) hs)
              clear b14 hbb HIs S13 HT13
              go_wp2_with fail
              refine HAt.out.mono ?_
              rintro _ w15 ⟨rfl, b15⟩
              have S15 := Lib.hid (S14.out.trans (b15.mono S14.out.size))
              clear b15 HAt S14
              go_wp2_with fail
              go_ret
              exact ⟨rfl, BW.out.trans (S15.out.mono BW.out.size)⟩
          · go_wp2_with fail
            refine Hs1.out.mono ?_
            rintro _ w12 ⟨rfl, b12⟩
            have HT12 := Lib.hid (Utf8Tabs_below HT11.out b12)
            have S12 := Lib.hid (S11.out.trans (b12.mono S11.out.size))
            clear b12 Hs1 RAX S11 HT11 R8''
            go_wp2_with fail
            all_goals
              refine (HA2.out _ _ _).mono ?_
              rintro _ w13 ⟨rfl, b13⟩
              have HT13 := Lib.hid (Utf8Tabs_below HT12.out b13)
              have S13 := Lib.hid (S12.out.trans (b13.mono S12.out.size))
              have HIs := Lib.hid (is_any s (s.size : Int) w13 hs HT13.out)
              clear b13 HA2 S12 HT12
              go_wp2_with fail
              refine HIs.out.mono ?_
              rintro _ w14 ⟨⟨bb, rfl, hbb⟩, b14⟩
              obtain rfl : bb = true := hbb.2 ⟨chars s, isBord_all s, by rw [placeAt_all]⟩
              have S14 := Lib.hid (S13.out.trans (b14.mono S13.out.size))
              have HAt := Lib.hid (at_end s (s.size : Int) w14 (by omega) hs)
              clear b14 hbb HIs S13 HT13
              go_wp2_with fail
              refine HAt.out.mono ?_
              rintro _ w15 ⟨rfl, b15⟩
              have S15 := Lib.hid (S14.out.trans (b15.mono S14.out.size))
              clear b15 HAt S14
              go_wp2_with fail
              go_ret
              exact ⟨rfl, BW.out.trans (S15.out.mono BW.out.size)⟩
end Go.Proofs.YtmlngeflnoplkaaDoor
