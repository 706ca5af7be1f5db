/- ClusterOnes, walked. -/
import Derived.Test.YtmlngeflnoplkaaDoorOnesP
namespace Go.Proofs.YtmlngeflnoplkaaDoor
open Go.RowKit Go.Lib

set_option maxRecDepth 100000 in
set_option maxHeartbeats 4000000 in
theorem ones_walk (s : ByteArray) (w : World) (hs : s.size ≤ 1073741824) (hT : Utf8Tabs 0 1 w) :
    Calls Tryd.prog 6 #[.string s] w fun e w' => e = .returned (.bool true) ∧ Below w.heap.size w w' := by
  have hpl := pcs_len s
  obtain ⟨N, hN⟩ : ∃ N, (pcs s).length = N := ⟨_, rfl⟩
  obtain ⟨L, hL⟩ : ∃ L, pcs s = L := ⟨_, rfl⟩
  have hLN : L.length = N := by rw [← hL, hN]
  have Hst := Lib.hid steps_any
  have Hal := Lib.hid alive_any
  have Hmk := Lib.hid cl_mk
  have Hpa := Lib.hid (fun Bn w hc hT => pieces_all s Bn w hc hs hT)
  have Hspl := Lib.hid (split_at s)
  have Hda := Lib.hid (drop_at s)
  rw [hN] at Hspl Hda
  rw [hL] at Hpa Hspl Hda
  have HT := Lib.hid hT
  have HLN := Lib.hid hLN
  rw [hN] at hpl
  rw [hLN] at Hpa
  clear hT hL hLN hN
  go_enter Tryd.func6, Tryd.ntmps6
  go_wp2_with fail
  refine (Hst.out _ HT.out).mono ?_
  rintro _ w1 ⟨rfl, b1⟩
  have HT1 := Lib.hid (Utf8Tabs_below HT.out b1)
  have B1 := Lib.hid b1
  clear b1
  go_wp2_with fail
  refine (Hmk.out s _).mono ?_
  rintro _ w2 ⟨rfl, hw⟩
  have b2 : Below w1.heap.size w1 w2 := by rw [hw]; exact (Below.refl _ w1).alloc (Nat.le_refl _) _
  have HT2 := Lib.hid (Utf8Tabs_below HT1.out b2)
  have B2 := Lib.hid (B1.out.trans (b2.mono B1.out.size))
  have P2 := Lib.hid (Hpa.out w1.heap.size w2 (by rw [hw]; exact (Boxed.new w1 9 (.string s)).cell) HT2.out)
  clear b2 hw
  go_wp2_with fail
  refine P2.out.mono ?_
  rintro _ w3 ⟨A, c, rfl, hown, b3⟩
  have HT3 := Lib.hid (Utf8Tabs_below HT2.out b3)
  have B3 := Lib.hid (B2.out.trans (b3.mono B2.out.size))
  have RA := Lib.hid (show RdP w3 w3.heap.size A L by unfold RdP; rw [HLN.out]; exact Rd.own hown)
  clear b3 hown P2 HT HT1 HT2 B1 B2 Hpa
  go_wp2_with fail
  go_loopw [4] (fun i wr => ∃ (k : Nat) (W : World), W = wr ∧ k ≤ N ∧ i = .int .i64 k ∧ Below w3.heap.size w3 W) (fun i _ => N - (RowKit.intOf i).toNat)
  case atStart => exact ⟨0, _, rfl, Nat.zero_le _, rfl, Below.refl _ _⟩
  case round =>
    obtain ⟨k, W, rfl, hk, rfl, hbw⟩ := hrel
    have BW := Lib.hid hbw
    have HTW := Lib.hid (Utf8Tabs_below HT3.out hbw)
    have RAW := Lib.hid (RA.out.below hbw)
    clear hbw
    by_cases hkn : k < N
    · obtain ⟨kb, hkb, hd⟩ := Hspl.out k hk
      obtain ⟨hkc, hx⟩ := Hda.out k kb hd hkn
      obtain ⟨a, rfl, hab, ha1, ha2⟩ := RA.out.at_ hx
      have hbd := clEnd_bounds hkc
      have hPE := placeAt_lt s hbd.1 hbd.2
      have hEs := placeAt_le s (clEnd s kb)
      have h1 := one_next (s := s) (k := kb) hkc
      have h2 := one_last hkb hkc
      have h3 := one_chars (s := s) (k := kb) hkc
      have h4 := one_most (s := s) (k := kb) hkc
      have h5 := one_bad (s := s) (k := kb) hkc
      have h6 := pc_size s kb
      obtain ⟨m, hm⟩ : ∃ m, clEnd s kb - kb = m := ⟨_, rfl⟩
      rw [hm] at h3 h4
      obtain ⟨P, hP⟩ : ∃ P, placeAt s kb = P := ⟨_, rfl⟩
      obtain ⟨E, hE⟩ : ∃ E, placeAt s (clEnd s kb) = E := ⟨_, rfl⟩
      obtain ⟨X, hX⟩ : ∃ X, s.extract P E = X := ⟨_, rfl⟩
      have hpc : pc s kb = (P, X) := by show (placeAt s kb, s.extract (placeAt s kb) (placeAt s (clEnd s kb))) = _; rw [hP, hE, hX]
      rw [hpc] at ha1 ha2
      rw [hP, hE, hX] at h1 h2 h3 h5 h6
      rw [hP] at hPE
      rw [hE] at hPE hEs
      dsimp only at ha1 ha2
      have hW1 := (BW.out.cell (p := a.add (k * 2)) (by rw [add_block]; exact hab)).trans ha1
      have hW2 := (BW.out.cell (p := a.add (k * 2 + 1)) (by rw [add_block]; exact hab)).trans ha2
      rw [add_next] at hW2
      clear ha2
      have hXs : X.size ≤ 1073741824 := by omega
      have c1 := fun w hT => cnext_s X w hT hXs
      have c2 := fun w hT => clast_any X w hXs hT
      have c3 := fun w => count_any X w (by omega)
      have c4 := fun w => bad_any X w hXs
      rw [h1] at c1
      rw [h2] at c2
      rw [show (segs X.data.toList).length = m from h3] at c3
      obtain ⟨nb, hnb⟩ : ∃ nb, (badsOf X.data.toList).length = nb := ⟨_, rfl⟩
      rw [hnb] at c4 h5
      have C1 := Lib.hid c1
      have C2 := Lib.hid c2
      have C3 := Lib.hid c3
      have C4 := Lib.hid c4
      have HP := Lib.hid hP
      have HE := Lib.hid hE
      have Hkb := Lib.hid hkb
      have hm1 : ¬ ((m : Int) < 1) := by omega
      have hm32 : ¬ ((32 : Int) < (m : Int)) := by omega
      clear c1 c2 c3 c4 h1 h2 h3 hP hE hX hpc hx hd hkb hnb hm hbd
      go_wp2_with fail
      refine (C1.out _ HTW.out).mono ?_
      rintro _ w4 ⟨rfl, b4⟩
      have HT4 := Lib.hid (Utf8Tabs_below HTW.out b4)
      have S4 := Lib.hid b4
      clear b4
      go_wp2_with fail
      refine (C2.out _ HT4.out).mono ?_
      rintro _ w5 ⟨rfl, b5⟩
      have HT5 := Lib.hid (Utf8Tabs_below HT4.out b5)
      have S5 := Lib.hid (S4.out.trans (b5.mono S4.out.size))
      clear b5 HT4 S4
      go_wp2_with fail
      refine (C3.out _).mono ?_
      rintro _ w6 ⟨rfl, b6⟩
      have HT6 := Lib.hid (Utf8Tabs_below HT5.out b6)
      have S6 := Lib.hid (S5.out.trans (b6.mono S5.out.size))
      clear b6 HT5 S5
      go_wp2_with fail
      refine (C3.out _).mono ?_
      rintro _ w7 ⟨rfl, b7⟩
      have HT7 := Lib.hid (Utf8Tabs_below HT6.out b7)
      have S7 := Lib.hid (S6.out.trans (b7.mono S6.out.size))
      clear b7 HT6 S6
      go_wp2_with fail
      refine (C4.out _).mono ?_
      rintro _ w8 ⟨v8, rfl, hown, b8⟩
      have HT8 := Lib.hid (Utf8Tabs_below HT7.out b8)
      have S8 := Lib.hid (S7.out.trans (b8.mono S7.out.size))
      obtain ⟨A8, c8, rfl, _, _⟩ := own_shape hown
      clear b8 HT7 S7 hown
      have hb01 : nb = 0 ∨ (nb ≠ 0 ∧ X.size = 1) := by
        rcases Nat.eq_zero_or_pos nb with h | h
        · exact .inl h
        · exact .inr ⟨by omega, h5 (by omega)⟩
      have S8' := Lib.hid (BW.out.trans (S8.out.mono BW.out.size))
      clear S8 C1 C2 C3 C4
      rcases hb01 with rfl | ⟨hn0, hX1⟩
      · have hnb0 : ¬ ((0 : Int) < ((0 : Nat) : Int)) := by omega
        go_wp2_with fail
        go_loopw [6] (fun i wq => ∃ (q : Nat) (V : World), V = wq ∧ 1 ≤ q ∧ i = .int .i64 q ∧ Below w3.heap.size w3 V) (fun i _ => E - P - (RowKit.intOf i).toNat)
        case atStart => exact ⟨1, _, rfl, Nat.le_refl _, rfl, S8'.out⟩
        case round =>
          rename_i i wq
          obtain ⟨q, V, rfl, hq1, rfl, hbv⟩ := hrel
          have BV := Lib.hid hbv
          have HTV := Lib.hid (Utf8Tabs_below HT3.out hbv)
          clear hbv
          by_cases hqE : q < E - P
          · have hqi : (q : Int) < ((E - P : Nat) : Int) := by omega
            by_cases hs2 : s.size < 200
            · have hs2i : (s.size : Int) < 200 := by omega
              have hwq : IntKind.i64.wrap ((P : Int) + (q : Int)) = ((P + q : Nat) : Int) := by rw [IntWalk.i64_in _ (by omega)]; omega
              have hwE : IntKind.i64.wrap ((P : Int) + ((E - P : Nat) : Int)) = (E : Int) := by rw [IntWalk.i64_in _ (by omega)]; omega
              have hcV := (BV.out.cell (p := a.add (k * 2)) (by rw [add_block]; exact hab)).trans ha1
              have HAt := Lib.hid (at_any s ((P + q : Nat) : Int) (P + q) V (by omega) (by omega) hs HTV.out)
              go_wp2_with fail
              refine HAt.out.mono ?_
              rintro _ w9 ⟨⟨x1, x2, rfl, har⟩, b9⟩
              obtain ⟨rfl, rfl⟩ := around_one har Hkb.out (by rw [HP.out]; omega) (by rw [HE.out]; omega)
              rw [HP.out, HE.out]
              have B9 := Lib.hid (BV.out.trans (b9.mono BV.out.size))
              have hc9 := (B9.out.cell (p := a.add (k * 2)) (by rw [add_block]; exact hab)).trans ha1
              have HIs := Lib.hid (is_any s ((P + q : Nat) : Int) w9 hs (Utf8Tabs_below HT3.out B9.out))
              clear b9 har HAt hcV
              go_wp2_with fail
              refine HIs.out.mono ?_
              rintro _ w10 ⟨⟨bb, rfl, hbb⟩, b10⟩
              have hnot : ¬ isB s ((P + q : Nat) : Int) := not_isB Hkb.out (by rw [HP.out]; omega) (by rw [HE.out]; omega)
              obtain rfl : bb = false := by
                cases bb with
                | false => rfl
                | true => exact absurd (hbb.1 rfl) hnot
              have B10 := Lib.hid (B9.out.trans (b10.mono B9.out.size))
              have hc10 := (B10.out.cell (p := a.add (k * 2)) (by rw [add_block]; exact hab)).trans ha1
              clear b10 hbb HIs hc9 hnot B9
              go_wp2_with fail
              exact ⟨⟨q + 1, _, rfl, by omega, by go_num, B10.out⟩, by simp only [RowKit.intOf]; omega⟩
            · have hs2i : ¬ ((s.size : Int) < 200) := by omega
              go_wp2_with fail
              exact ⟨⟨k + 1, _, rfl, by omega, by go_num, BV.out⟩, by simp only [RowKit.intOf]; omega⟩
          · have hqi : ¬ ((q : Int) < ((E - P : Nat) : Int)) := by omega
            go_wp2_with fail
            exact ⟨⟨k + 1, _, rfl, by omega, by go_num, BV.out⟩, by simp only [RowKit.intOf]; omega⟩
      · have hnb0 : (0 : Int) < (nb : Int) := by omega
        have hX1i : ((E - P : Nat) : Int) = 1 := by omega
        go_wp2_with fail
        go_loopw [6] (fun i wq => ∃ (q : Nat) (V : World), V = wq ∧ 1 ≤ q ∧ i = .int .i64 q ∧ Below w3.heap.size w3 V) (fun i _ => E - P - (RowKit.intOf i).toNat)
        case atStart => exact ⟨1, _, rfl, Nat.le_refl _, rfl, S8'.out⟩
        case round =>
          rename_i i wq
          obtain ⟨q, V, rfl, hq1, rfl, hbv⟩ := hrel
          have BV := Lib.hid hbv
          have HTV := Lib.hid (Utf8Tabs_below HT3.out hbv)
          clear hbv
          by_cases hqE : q < E - P
          · exact absurd hqE (by omega)
          · have hqi : ¬ ((q : Int) < ((E - P : Nat) : Int)) := by omega
            go_wp2_with fail
            exact ⟨⟨k + 1, _, rfl, by omega, by go_num, BV.out⟩, by simp only [RowKit.intOf]; omega⟩
    · have hkn2 : ¬ ((k : Int) < (N : Int)) := by omega
      go_wp2_with fail
      refine (Hal.out _ HTW.out).mono ?_
      rintro _ w4 ⟨rfl, b4⟩
      go_wp2_with fail
      go_ret
      have f := B3.out.trans (BW.out.mono B3.out.size)
      exact ⟨rfl, f.trans (b4.mono f.size)⟩
end Go.Proofs.YtmlngeflnoplkaaDoor
