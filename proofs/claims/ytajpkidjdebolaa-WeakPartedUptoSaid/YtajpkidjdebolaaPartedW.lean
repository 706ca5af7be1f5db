/- Layer 8: WeakParted walked. -/
import Derived.Test.YtajpkidjdebolaaLentW
import Derived.Test.YtajpkidjdebolaaLawP8
set_option linter.unusedSimpArgs false
set_option linter.unusedVariables false
namespace Go.Proofs.Ytajpkidjdebolaa
open Go.RowKit Go.Lib

theorem own_nil8 {w : World} {B n c : Nat} {A : Option Addr} {xs : List Value} (h : w.ownsRow B 23 1 (.slice A n c) n xs) : A = none → c = 0 := by
  intro e
  rcases h.2 with ⟨h1, _⟩ | ⟨g, cap, cur, h1, _⟩
  · injection h1
  · rw [e] at h1
    cases h1
theorem one_cells (l : List Int) : ∀ u ∈ i8s l, u.oneCell' = true := by
  intro u hu
  obtain ⟨x, _, rfl⟩ := List.mem_map.1 hu
  rfl
theorem i8s_app (a b : List Int) : i8s a ++ i8s b = i8s (a ++ b) := by simp [i8s]
set_option maxRecDepth 100000 in
set_option maxHeartbeats 4000000 in
theorem parted_walk (A : Option Addr) (n c : Nat) (zs : List Int) (A1 : Option Addr) (n1 c1 : Nat) (zs1 : List Int) (st s m : Int) (w : World) (hrd : Rd w w.heap.size 1 A n (i8s zs)) (hn : n ≤ 1048576) (hnil : A = none → c = 0) (hrd1 : Rd w w.heap.size 1 A1 n1 (i8s zs1)) (hn1 : n1 ≤ 1048576) (hnil1 : A1 = none → c1 = 0) :
    Calls Try.prog 7 #[.slice A n c, .slice A1 n1 c1, .int .i8 st, .int .i8 s, .int .i8 m] w fun e w' => e = .returned (.bool true) ∧ Below w.heap.size w w' := by
  obtain ⟨i0, hi, hz0, hz1, hz2⟩ := info_parts i8_info
  have HR := Lib.hid (fun A n c s zs w (h : RdK w A n zs) hn => wresolve_any A n c s zs w h hn)
  have HE := Lib.hid same_any8
  have HW := Lib.hid works_any8
  unfold NewAt at HR
  obtain ⟨k, hk, hcase⟩ : ∃ k : Int, (k = 0 ∨ k = 1 ∨ k = 2) ∧ ((st = 1 ∧ k = 1) ∨ (st = 2 ∧ k = 2) ∨ ((st != 1) = true ∧ (st != 2) = true ∧ k = 0)) := by
    by_cases h1 : st = 1
    · exact ⟨1, by omega, .inl ⟨h1, rfl⟩⟩
    · by_cases h2 : st = 2
      · exact ⟨2, by omega, .inr (.inl ⟨h2, rfl⟩)⟩
      · exact ⟨0, by omega, .inr (.inr ⟨by simpa using h1, by simpa using h2, rfl⟩)⟩
  have Hpart := Lib.hid (res_part s m zs zs1 k hk)
  obtain ⟨R1, hR1⟩ : ∃ R1, resZ s zs = R1 := ⟨_, rfl⟩
  obtain ⟨R2, hR2⟩ : ∃ R2, resZ m (k :: zs1) = R2 := ⟨_, rfl⟩
  have HR1 := Lib.hid hR1
  have HR2 := Lib.hid hR2
  rw [hR1, hR2] at Hpart
  obtain ⟨Q, hQ⟩ : ∃ Q, w.heap.size = Q := ⟨_, rfl⟩
  rw [hQ]
  have HB0 := Lib.hid (show Below Q w w ∧ Q ≤ w.heap.size from ⟨Below.refl Q w, by omega⟩)
  have Hz := Lib.hid (show RdK w A n zs from hrd)
  have Hy := Lib.hid (show RdK w A1 n1 zs1 from hrd1)
  have Hcase := Lib.hid hcase
  clear hrd hrd1 hR1 hR2 hQ hk hcase
  go_enter Try.func7, Try.ntmps7
  go_wp2_with fail
  refine (HW.out _).mono ?_
  rintro _ w1 ⟨rfl, b1⟩
  have HB1 := Lib.hid (after_same HB0.out b1)
  have Hz := Lib.hid (Hz.out.below b1)
  have Hy := Lib.hid (Hy.out.below b1)
  clear b1 HB0
  rcases Hcase.out with ⟨rfl, rfl⟩ | ⟨rfl, rfl⟩ | ⟨hs1, hs2, rfl⟩
  · obtain ⟨M1, hM1⟩ : ∃ M1, w1.heap.size = M1 := ⟨_, rfl⟩
    have HM1 := Lib.hid hM1
    clear hM1
    go_wp2_with (at_builtin; refine wpList_put_own _ rfl _ _ 22 rfl M1 23 i0 _ Try.underlying22 hi hz0 hz1 hz2 rfl _ 0 [] rfl (World.ownsRow_nil _ _ _ _) ⟨w1.heap.size, 0, none⟩ (.int .i8 1) rfl ?x1a1 rfl ?x1a2 ?x1a3 ?x1a4 ?_)
    case x1a1 => exact new_at w1 _ _
    case x1a2 => unfold maxLen; omega
    case x1a3 => omega
    case x1a4 => have := HM1.out; rw [World.size_alloc]; omega
    intro v2 w2 o2 g2 _
    have B2 := Lib.hid (show Below M1 w1 w2 from ((Below.refl M1 w1).alloc (by have := HM1.out; omega) _).grown g2 (by have := HM1.out; rw [World.size_alloc]; omega) (fun k hk => by cases hk))
    have o2' : w2.ownsRow M1 23 1 v2 1 (i8s [1]) := by simpa using o2
    have O2 := Lib.hid o2'
    have Hy := Lib.hid (show RdK w2 A1 n1 zs1 from Hy.out.below (by rw [HM1.out]; exact B2.out))
    have hq2 : M1 ≤ w2.heap.size := by have := B2.out.size; have := HM1.out; omega
    clear o2 o2' g2
    go_wp2_with (at_builtin; refine wpList_append_rd8 rfl _ _ 22 rfl M1 23 i0 _ 1 Try.underlying22 hi hz0 hz1 hz2 rfl _ _ _ rfl O2.out _ _ _ _ rfl hnil1 _ Hy.out (one_cells _) ?x1b2 ?x1b3 ?x1b4 ?_)
    case x1b2 => unfold maxLen; omega
    case x1b3 => omega
    case x1b4 => exact hq2
    intro v3 w3 o3 g3
    have B3 := Lib.hid (show Below M1 w1 w3 from B2.out.grown g3 hq2 (fun k hk => (O2.out.lt k hk).1))
    have o3' : w3.ownsRow M1 23 1 v3 (1 + n1) (i8s (1 :: zs1)) := by rw [show i8s (1 :: zs1) = i8s [1] ++ i8s zs1 by simp [i8s]]; exact o3
    obtain ⟨A3, c3, hv3, _, _⟩ := own_shape o3'
    subst hv3
    have hnil3 := own_nil8 o3'
    have HB3 := Lib.hid (after_same HB1.out (by rw [HM1.out]; exact B3.out))
    have Hz := Lib.hid (show RdK w3 A n zs from Hz.out.below (by rw [HM1.out]; exact B3.out))
    have Hr3 := Lib.hid (RdK.own o3')
    clear o3 o3' g3 B2 O2 Hy hq2 HB1 B3
    obtain ⟨q, hq⟩ : ∃ q, 1 + n1 = q := ⟨_, rfl⟩
    rw [hq] at Hr3 ⊢
    have hqb : q ≤ 1048577 := by omega
    obtain ⟨M3, hM3⟩ : ∃ M3, w3.heap.size = M3 := ⟨_, rfl⟩
    have HM3 := Lib.hid hM3
    clear hM3
    go_wp2_with (at_builtin; refine wpList_append_rd8 rfl _ _ 22 rfl M3 23 i0 _ 1 Try.underlying22 hi hz0 hz1 hz2 rfl _ 0 [] rfl (World.ownsRow_nil _ _ _ _) _ _ _ _ rfl hnil _ Hz.out (one_cells _) ?x1c2 ?x1c3 ?x1c4 ?_)
    case x1c2 => unfold maxLen; omega
    case x1c3 => omega
    case x1c4 => have := HM3.out; omega
    intro v4 w4 o4 g4
    have B4 := Lib.hid (show Below M3 w3 w4 from (Below.refl M3 w3).grown g4 (by have := HM3.out; omega) (fun k hk => by cases hk))
    have o4' : w4.ownsRow M3 23 1 v4 n (i8s zs) := by simpa using o4
    have O4 := Lib.hid o4'
    have Hr := Lib.hid (show RdK w4 A3 q (1 :: zs1) from Hr3.out.below (by rw [HM3.out]; exact B4.out))
    have hq4 : M3 ≤ w4.heap.size := by have := B4.out.size; have := HM3.out; omega
    clear o4 o4' g4 hq
    go_wp2_with (at_builtin; refine wpList_append_rd8 rfl _ _ 22 rfl M3 23 i0 _ 1 Try.underlying22 hi hz0 hz1 hz2 rfl _ _ _ rfl O4.out _ _ _ _ rfl hnil3 _ Hr.out (one_cells _) ?x1d2 ?x1d3 ?x1d4 ?_)
    case x1d2 => unfold maxLen; omega
    case x1d3 => omega
    case x1d4 => exact hq4
    intro v5 w5 o5 g5
    have B5 := Lib.hid (show Below M3 w3 w5 from B4.out.grown g5 hq4 (fun k hk => (O4.out.lt k hk).1))
    have o5' : w5.ownsRow M3 23 1 v5 (n + q) (i8s (zs ++ 1 :: zs1)) := by rw [← i8s_app]; exact o5
    obtain ⟨A5, c5, hv5, _, _⟩ := own_shape o5'
    subst hv5
    have HB5 := Lib.hid (after_same HB3.out (by rw [HM3.out]; exact B5.out))
    have Hz := Lib.hid (show RdK w5 A n zs from Hz.out.below (by rw [HM3.out]; exact B5.out))
    have Hr := Lib.hid (show RdK w5 A3 q (1 :: zs1) from Hr3.out.below (by rw [HM3.out]; exact B5.out))
    have Hw := Lib.hid (RdK.own o5')
    clear o5 o5' g5 B4 O4 hq4 HB3 B5 Hr3
    go_wp2_with fail
    refine (HR.out A n c s zs _ Hz.out (by omega)).mono ?_
    rintro _ w6 ⟨A6, c6, rfl, o6, b6⟩
    rw [HR1.out] at o6
    have HB6 := Lib.hid (after_same HB5.out b6)
    have Hr := Lib.hid (Hr.out.below b6)
    have Hw := Lib.hid (Hw.out.below b6)
    have H1 := Lib.hid (RdK.own o6)
    have hnil6 := own_nil8 o6
    clear o6 b6 HB5 Hz
    obtain ⟨M6, hM6⟩ : ∃ M6, w6.heap.size = M6 := ⟨_, rfl⟩
    have HM6 := Lib.hid hM6
    clear hM6
    go_wp2_with (at_builtin; refine wpList_append_rd8 rfl _ _ 22 rfl M6 23 i0 _ 1 Try.underlying22 hi hz0 hz1 hz2 rfl _ 0 [] rfl (World.ownsRow_nil _ _ _ _) _ _ _ _ rfl hnil6 _ H1.out (one_cells _) ?x1e2 ?x1e3 ?x1e4 ?_)
    case x1e2 => unfold maxLen; omega
    case x1e3 => omega
    case x1e4 => have := HM6.out; omega
    intro v7 w7 o7 g7
    have B7 := Lib.hid (show Below M6 w6 w7 from (Below.refl M6 w6).grown g7 (by have := HM6.out; omega) (fun k hk => by cases hk))
    have o7' : w7.ownsRow M6 23 1 v7 n (i8s R1) := by simpa using o7
    have O7 := Lib.hid o7'
    have hq7 : M6 ≤ w7.heap.size := by have := B7.out.size; have := HM6.out; omega
    have Hr := Lib.hid (show RdK w7 A3 q (1 :: zs1) from Hr.out.below (by rw [HM6.out]; exact B7.out))
    clear o7 o7' g7 H1
    go_wp2_with fail
    refine (HR.out A3 q c3 m (1 :: zs1) _ Hr.out (by omega)).mono ?_
    rintro _ w8 ⟨A8, c8, rfl, o8, b8⟩
    rw [HR2.out] at o8
    have O8 := Lib.hid (own_below O7.out b8)
    have B8 := Lib.hid (show Below M6 w6 w8 from B7.out.trans (b8.mono hq7))
    have H2 := Lib.hid (RdK.own o8)
    have hnil8 := own_nil8 o8
    have hq8 : M6 ≤ w8.heap.size := by have := b8.size; omega
    clear o8 b8 O7 B7 Hr hq7
    go_wp2_with (at_builtin; refine wpList_append_rd8 rfl _ _ 22 rfl M6 23 i0 _ 1 Try.underlying22 hi hz0 hz1 hz2 rfl _ _ _ rfl O8.out _ _ _ _ rfl hnil8 _ H2.out (one_cells _) ?x1f2 ?x1f3 ?x1f4 ?_)
    case x1f2 => unfold maxLen; omega
    case x1f3 => omega
    case x1f4 => exact hq8
    intro v9 w9 o9 g9
    have B9 := Lib.hid (show Below M6 w6 w9 from B8.out.grown g9 hq8 (fun k hk => (O8.out.lt k hk).1))
    have o9' : w9.ownsRow M6 23 1 v9 (n + q) (i8s (R1 ++ R2)) := by rw [← i8s_app]; exact o9
    obtain ⟨A9, c9, hv9, _, _⟩ := own_shape o9'
    subst hv9
    have HB9 := Lib.hid (after_same HB6.out (by rw [HM6.out]; exact B9.out))
    have Hw := Lib.hid (show RdK w9 A5 (n + q) (zs ++ 1 :: zs1) from Hw.out.below (by rw [HM6.out]; exact B9.out))
    have Hv := Lib.hid (RdK.own o9')
    clear o9 o9' g9 O8 B8 H2 hq8 HB6 B9
    go_wp2_with fail
    refine (HR.out A5 (n + q) c5 s (zs ++ 1 :: zs1) _ Hw.out (by omega)).mono ?_
    rintro _ w10 ⟨A10, c10, rfl, o10, b10⟩
    rw [Hpart.out] at o10
    have HB10 := Lib.hid (after_same HB9.out b10)
    have Hv := Lib.hid (Hv.out.below b10)
    have Hx := Lib.hid (RdK.own o10)
    clear o10 b10 HB9 Hw
    go_wp2_with fail
    refine (HE.out (R1 ++ R2) A10 A9 (n + q) c10 c9 _ Hx.out Hv.out (by omega)).mono ?_
    rintro _ w11 ⟨rfl, b11⟩
    have HB11 := Lib.hid (after_same HB10.out b11)
    clear b11 HB10
    go_wp2_with fail
    go_ret
    exact ⟨rfl, HB11.out.1⟩
  · obtain ⟨M1, hM1⟩ : ∃ M1, w1.heap.size = M1 := ⟨_, rfl⟩
    have HM1 := Lib.hid hM1
    clear hM1
    go_wp2_with (at_builtin; refine wpList_put_own _ rfl _ _ 22 rfl M1 23 i0 _ Try.underlying22 hi hz0 hz1 hz2 rfl _ 0 [] rfl (World.ownsRow_nil _ _ _ _) ⟨w1.heap.size, 0, none⟩ (.int .i8 2) rfl ?x2a1 rfl ?x2a2 ?x2a3 ?x2a4 ?_)
    case x2a1 => exact new_at w1 _ _
    case x2a2 => unfold maxLen; omega
    case x2a3 => omega
    case x2a4 => have := HM1.out; rw [World.size_alloc]; omega
    intro v2 w2 o2 g2 _
    have B2 := Lib.hid (show Below M1 w1 w2 from ((Below.refl M1 w1).alloc (by have := HM1.out; omega) _).grown g2 (by have := HM1.out; rw [World.size_alloc]; omega) (fun k hk => by cases hk))
    have o2' : w2.ownsRow M1 23 1 v2 1 (i8s [2]) := by simpa using o2
    have O2 := Lib.hid o2'
    have Hy := Lib.hid (show RdK w2 A1 n1 zs1 from Hy.out.below (by rw [HM1.out]; exact B2.out))
    have hq2 : M1 ≤ w2.heap.size := by have := B2.out.size; have := HM1.out; omega
    clear o2 o2' g2
    go_wp2_with (at_builtin; refine wpList_append_rd8 rfl _ _ 22 rfl M1 23 i0 _ 1 Try.underlying22 hi hz0 hz1 hz2 rfl _ _ _ rfl O2.out _ _ _ _ rfl hnil1 _ Hy.out (one_cells _) ?x2b2 ?x2b3 ?x2b4 ?_)
    case x2b2 => unfold maxLen; omega
    case x2b3 => omega
    case x2b4 => exact hq2
    intro v3 w3 o3 g3
    have B3 := Lib.hid (show Below M1 w1 w3 from B2.out.grown g3 hq2 (fun k hk => (O2.out.lt k hk).1))
    have o3' : w3.ownsRow M1 23 1 v3 (1 + n1) (i8s (2 :: zs1)) := by rw [show i8s (2 :: zs1) = i8s [2] ++ i8s zs1 by simp [i8s]]; exact o3
    obtain ⟨A3, c3, hv3, _, _⟩ := own_shape o3'
    subst hv3
    have hnil3 := own_nil8 o3'
    have HB3 := Lib.hid (after_same HB1.out (by rw [HM1.out]; exact B3.out))
    have Hz := Lib.hid (show RdK w3 A n zs from Hz.out.below (by rw [HM1.out]; exact B3.out))
    have Hr3 := Lib.hid (RdK.own o3')
    clear o3 o3' g3 B2 O2 Hy hq2 HB1 B3
    obtain ⟨q, hq⟩ : ∃ q, 1 + n1 = q := ⟨_, rfl⟩
    rw [hq] at Hr3 ⊢
    have hqb : q ≤ 1048577 := by omega
    obtain ⟨M3, hM3⟩ : ∃ M3, w3.heap.size = M3 := ⟨_, rfl⟩
    have HM3 := Lib.hid hM3
    clear hM3
    go_wp2_with (at_builtin; refine wpList_append_rd8 rfl _ _ 22 rfl M3 23 i0 _ 1 Try.underlying22 hi hz0 hz1 hz2 rfl _ 0 [] rfl (World.ownsRow_nil _ _ _ _) _ _ _ _ rfl hnil _ Hz.out (one_cells _) ?x2c2 ?x2c3 ?x2c4 ?_)
    case x2c2 => unfold maxLen; omega
    case x2c3 => omega
    case x2c4 => have := HM3.out; omega
    intro v4 w4 o4 g4
    have B4 := Lib.hid (show Below M3 w3 w4 from (Below.refl M3 w3).grown g4 (by have := HM3.out; omega) (fun k hk => by cases hk))
    have o4' : w4.ownsRow M3 23 1 v4 n (i8s zs) := by simpa using o4
    have O4 := Lib.hid o4'
    have Hr := Lib.hid (show RdK w4 A3 q (2 :: zs1) from Hr3.out.below (by rw [HM3.out]; exact B4.out))
    have hq4 : M3 ≤ w4.heap.size := by have := B4.out.size; have := HM3.out; omega
    clear o4 o4' g4 hq
    go_wp2_with (at_builtin; refine wpList_append_rd8 rfl _ _ 22 rfl M3 23 i0 _ 1 Try.underlying22 hi hz0 hz1 hz2 rfl _ _ _ rfl O4.out _ _ _ _ rfl hnil3 _ Hr.out (one_cells _) ?x2d2 ?x2d3 ?x2d4 ?_)
    case x2d2 => unfold maxLen; omega
    case x2d3 => omega
    case x2d4 => exact hq4
    intro v5 w5 o5 g5
    have B5 := Lib.hid (show Below M3 w3 w5 from B4.out.grown g5 hq4 (fun k hk => (O4.out.lt k hk).1))
    have o5' : w5.ownsRow M3 23 1 v5 (n + q) (i8s (zs ++ 2 :: zs1)) := by rw [← i8s_app]; exact o5
    obtain ⟨A5, c5, hv5, _, _⟩ := own_shape o5'
    subst hv5
    have HB5 := Lib.hid (after_same HB3.out (by rw [HM3.out]; exact B5.out))
    have Hz := Lib.hid (show RdK w5 A n zs from Hz.out.below (by rw [HM3.out]; exact B5.out))
    have Hr := Lib.hid (show RdK w5 A3 q (2 :: zs1) from Hr3.out.below (by rw [HM3.out]; exact B5.out))
    have Hw := Lib.hid (RdK.own o5')
    clear o5 o5' g5 B4 O4 hq4 HB3 B5 Hr3
    go_wp2_with fail
    refine (HR.out A n c s zs _ Hz.out (by omega)).mono ?_
    rintro _ w6 ⟨A6, c6, rfl, o6, b6⟩
    rw [HR1.out] at o6
    have HB6 := Lib.hid (after_same HB5.out b6)
    have Hr := Lib.hid (Hr.out.below b6)
    have Hw := Lib.hid (Hw.out.below b6)
    have H1 := Lib.hid (RdK.own o6)
    have hnil6 := own_nil8 o6
    clear o6 b6 HB5 Hz
    obtain ⟨M6, hM6⟩ : ∃ M6, w6.heap.size = M6 := ⟨_, rfl⟩
    have HM6 := Lib.hid hM6
    clear hM6
    go_wp2_with (at_builtin; refine wpList_append_rd8 rfl _ _ 22 rfl M6 23 i0 _ 1 Try.underlying22 hi hz0 hz1 hz2 rfl _ 0 [] rfl (World.ownsRow_nil _ _ _ _) _ _ _ _ rfl hnil6 _ H1.out (one_cells _) ?x2e2 ?x2e3 ?x2e4 ?_)
    case x2e2 => unfold maxLen; omega
    case x2e3 => omega
    case x2e4 => have := HM6.out; omega
    intro v7 w7 o7 g7
    have B7 := Lib.hid (show Below M6 w6 w7 from (Below.refl M6 w6).grown g7 (by have := HM6.out; omega) (fun k hk => by cases hk))
    have o7' : w7.ownsRow M6 23 1 v7 n (i8s R1) := by simpa using o7
    have O7 := Lib.hid o7'
    have hq7 : M6 ≤ w7.heap.size := by have := B7.out.size; have := HM6.out; omega
    have Hr := Lib.hid (show RdK w7 A3 q (2 :: zs1) from Hr.out.below (by rw [HM6.out]; exact B7.out))
    clear o7 o7' g7 H1
    go_wp2_with fail
    refine (HR.out A3 q c3 m (2 :: zs1) _ Hr.out (by omega)).mono ?_
    rintro _ w8 ⟨A8, c8, rfl, o8, b8⟩
    rw [HR2.out] at o8
    have O8 := Lib.hid (own_below O7.out b8)
    have B8 := Lib.hid (show Below M6 w6 w8 from B7.out.trans (b8.mono hq7))
    have H2 := Lib.hid (RdK.own o8)
    have hnil8 := own_nil8 o8
    have hq8 : M6 ≤ w8.heap.size := by have := b8.size; omega
    clear o8 b8 O7 B7 Hr hq7
    go_wp2_with (at_builtin; refine wpList_append_rd8 rfl _ _ 22 rfl M6 23 i0 _ 1 Try.underlying22 hi hz0 hz1 hz2 rfl _ _ _ rfl O8.out _ _ _ _ rfl hnil8 _ H2.out (one_cells _) ?x2f2 ?x2f3 ?x2f4 ?_)
    case x2f2 => unfold maxLen; omega
    case x2f3 => omega
    case x2f4 => exact hq8
    intro v9 w9 o9 g9
    have B9 := Lib.hid (show Below M6 w6 w9 from B8.out.grown g9 hq8 (fun k hk => (O8.out.lt k hk).1))
    have o9' : w9.ownsRow M6 23 1 v9 (n + q) (i8s (R1 ++ R2)) := by rw [← i8s_app]; exact o9
    obtain ⟨A9, c9, hv9, _, _⟩ := own_shape o9'
    subst hv9
    have HB9 := Lib.hid (after_same HB6.out (by rw [HM6.out]; exact B9.out))
    have Hw := Lib.hid (show RdK w9 A5 (n + q) (zs ++ 2 :: zs1) from Hw.out.below (by rw [HM6.out]; exact B9.out))
    have Hv := Lib.hid (RdK.own o9')
    clear o9 o9' g9 O8 B8 H2 hq8 HB6 B9
    go_wp2_with fail
    refine (HR.out A5 (n + q) c5 s (zs ++ 2 :: zs1) _ Hw.out (by omega)).mono ?_
    rintro _ w10 ⟨A10, c10, rfl, o10, b10⟩
    rw [Hpart.out] at o10
    have HB10 := Lib.hid (after_same HB9.out b10)
    have Hv := Lib.hid (Hv.out.below b10)
    have Hx := Lib.hid (RdK.own o10)
    clear o10 b10 HB9 Hw
    go_wp2_with fail
    refine (HE.out (R1 ++ R2) A10 A9 (n + q) c10 c9 _ Hx.out Hv.out (by omega)).mono ?_
    rintro _ w11 ⟨rfl, b11⟩
    have HB11 := Lib.hid (after_same HB10.out b11)
    clear b11 HB10
    go_wp2_with fail
    go_ret
    exact ⟨rfl, HB11.out.1⟩
  · obtain ⟨M1, hM1⟩ : ∃ M1, w1.heap.size = M1 := ⟨_, rfl⟩
    have HM1 := Lib.hid hM1
    clear hM1
    go_wp2_with (at_builtin; refine wpList_put_own _ rfl _ _ 22 rfl M1 23 i0 _ Try.underlying22 hi hz0 hz1 hz2 rfl _ 0 [] rfl (World.ownsRow_nil _ _ _ _) ⟨w1.heap.size, 0, none⟩ (.int .i8 0) rfl ?x0a1 rfl ?x0a2 ?x0a3 ?x0a4 ?_)
    case x0a1 => exact new_at w1 _ _
    case x0a2 => unfold maxLen; omega
    case x0a3 => omega
    case x0a4 => have := HM1.out; rw [World.size_alloc]; omega
    intro v2 w2 o2 g2 _
    have B2 := Lib.hid (show Below M1 w1 w2 from ((Below.refl M1 w1).alloc (by have := HM1.out; omega) _).grown g2 (by have := HM1.out; rw [World.size_alloc]; omega) (fun k hk => by cases hk))
    have o2' : w2.ownsRow M1 23 1 v2 1 (i8s [0]) := by simpa using o2
    have O2 := Lib.hid o2'
    have Hy := Lib.hid (show RdK w2 A1 n1 zs1 from Hy.out.below (by rw [HM1.out]; exact B2.out))
    have hq2 : M1 ≤ w2.heap.size := by have := B2.out.size; have := HM1.out; omega
    clear o2 o2' g2
    go_wp2_with (at_builtin; refine wpList_append_rd8 rfl _ _ 22 rfl M1 23 i0 _ 1 Try.underlying22 hi hz0 hz1 hz2 rfl _ _ _ rfl O2.out _ _ _ _ rfl hnil1 _ Hy.out (one_cells _) ?x0b2 ?x0b3 ?x0b4 ?_)
    case x0b2 => unfold maxLen; omega
    case x0b3 => omega
    case x0b4 => exact hq2
    intro v3 w3 o3 g3
    have B3 := Lib.hid (show Below M1 w1 w3 from B2.out.grown g3 hq2 (fun k hk => (O2.out.lt k hk).1))
    have o3' : w3.ownsRow M1 23 1 v3 (1 + n1) (i8s (0 :: zs1)) := by rw [show i8s (0 :: zs1) = i8s [0] ++ i8s zs1 by simp [i8s]]; exact o3
    obtain ⟨A3, c3, hv3, _, _⟩ := own_shape o3'
    subst hv3
    have hnil3 := own_nil8 o3'
    have HB3 := Lib.hid (after_same HB1.out (by rw [HM1.out]; exact B3.out))
    have Hz := Lib.hid (show RdK w3 A n zs from Hz.out.below (by rw [HM1.out]; exact B3.out))
    have Hr3 := Lib.hid (RdK.own o3')
    clear o3 o3' g3 B2 O2 Hy hq2 HB1 B3
    obtain ⟨q, hq⟩ : ∃ q, 1 + n1 = q := ⟨_, rfl⟩
    rw [hq] at Hr3 ⊢
    have hqb : q ≤ 1048577 := by omega
    obtain ⟨M3, hM3⟩ : ∃ M3, w3.heap.size = M3 := ⟨_, rfl⟩
    have HM3 := Lib.hid hM3
    clear hM3
    go_wp2_with (at_builtin; refine wpList_append_rd8 rfl _ _ 22 rfl M3 23 i0 _ 1 Try.underlying22 hi hz0 hz1 hz2 rfl _ 0 [] rfl (World.ownsRow_nil _ _ _ _) _ _ _ _ rfl hnil _ Hz.out (one_cells _) ?x0c2 ?x0c3 ?x0c4 ?_)
    case x0c2 => unfold maxLen; omega
    case x0c3 => omega
    case x0c4 => have := HM3.out; omega
    intro v4 w4 o4 g4
    have B4 := Lib.hid (show Below M3 w3 w4 from (Below.refl M3 w3).grown g4 (by have := HM3.out; omega) (fun k hk => by cases hk))
    have o4' : w4.ownsRow M3 23 1 v4 n (i8s zs) := by simpa using o4
    have O4 := Lib.hid o4'
    have Hr := Lib.hid (show RdK w4 A3 q (0 :: zs1) from Hr3.out.below (by rw [HM3.out]; exact B4.out))
    have hq4 : M3 ≤ w4.heap.size := by have := B4.out.size; have := HM3.out; omega
    clear o4 o4' g4 hq
    go_wp2_with (at_builtin; refine wpList_append_rd8 rfl _ _ 22 rfl M3 23 i0 _ 1 Try.underlying22 hi hz0 hz1 hz2 rfl _ _ _ rfl O4.out _ _ _ _ rfl hnil3 _ Hr.out (one_cells _) ?x0d2 ?x0d3 ?x0d4 ?_)
    case x0d2 => unfold maxLen; omega
    case x0d3 => omega
    case x0d4 => exact hq4
    intro v5 w5 o5 g5
    have B5 := Lib.hid (show Below M3 w3 w5 from B4.out.grown g5 hq4 (fun k hk => (O4.out.lt k hk).1))
    have o5' : w5.ownsRow M3 23 1 v5 (n + q) (i8s (zs ++ 0 :: zs1)) := by rw [← i8s_app]; exact o5
    obtain ⟨A5, c5, hv5, _, _⟩ := own_shape o5'
    subst hv5
    have HB5 := Lib.hid (after_same HB3.out (by rw [HM3.out]; exact B5.out))
    have Hz := Lib.hid (show RdK w5 A n zs from Hz.out.below (by rw [HM3.out]; exact B5.out))
    have Hr := Lib.hid (show RdK w5 A3 q (0 :: zs1) from Hr3.out.below (by rw [HM3.out]; exact B5.out))
    have Hw := Lib.hid (RdK.own o5')
    clear o5 o5' g5 B4 O4 hq4 HB3 B5 Hr3
    go_wp2_with fail
    refine (HR.out A n c s zs _ Hz.out (by omega)).mono ?_
    rintro _ w6 ⟨A6, c6, rfl, o6, b6⟩
    rw [HR1.out] at o6
    have HB6 := Lib.hid (after_same HB5.out b6)
    have Hr := Lib.hid (Hr.out.below b6)
    have Hw := Lib.hid (Hw.out.below b6)
    have H1 := Lib.hid (RdK.own o6)
    have hnil6 := own_nil8 o6
    clear o6 b6 HB5 Hz
    obtain ⟨M6, hM6⟩ : ∃ M6, w6.heap.size = M6 := ⟨_, rfl⟩
    have HM6 := Lib.hid hM6
    clear hM6
    go_wp2_with (at_builtin; refine wpList_append_rd8 rfl _ _ 22 rfl M6 23 i0 _ 1 Try.underlying22 hi hz0 hz1 hz2 rfl _ 0 [] rfl (World.ownsRow_nil _ _ _ _) _ _ _ _ rfl hnil6 _ H1.out (one_cells _) ?x0e2 ?x0e3 ?x0e4 ?_)
    case x0e2 => unfold maxLen; omega
    case x0e3 => omega
    case x0e4 => have := HM6.out; omega
    intro v7 w7 o7 g7
    have B7 := Lib.hid (show Below M6 w6 w7 from (Below.refl M6 w6).grown g7 (by have := HM6.out; omega) (fun k hk => by cases hk))
    have o7' : w7.ownsRow M6 23 1 v7 n (i8s R1) := by simpa using o7
    have O7 := Lib.hid o7'
    have hq7 : M6 ≤ w7.heap.size := by have := B7.out.size; have := HM6.out; omega
    have Hr := Lib.hid (show RdK w7 A3 q (0 :: zs1) from Hr.out.below (by rw [HM6.out]; exact B7.out))
    clear o7 o7' g7 H1
    go_wp2_with fail
    refine (HR.out A3 q c3 m (0 :: zs1) _ Hr.out (by omega)).mono ?_
    rintro _ w8 ⟨A8, c8, rfl, o8, b8⟩
    rw [HR2.out] at o8
    have O8 := Lib.hid (own_below O7.out b8)
    have B8 := Lib.hid (show Below M6 w6 w8 from B7.out.trans (b8.mono hq7))
    have H2 := Lib.hid (RdK.own o8)
    have hnil8 := own_nil8 o8
    have hq8 : M6 ≤ w8.heap.size := by have := b8.size; omega
    clear o8 b8 O7 B7 Hr hq7
    go_wp2_with (at_builtin; refine wpList_append_rd8 rfl _ _ 22 rfl M6 23 i0 _ 1 Try.underlying22 hi hz0 hz1 hz2 rfl _ _ _ rfl O8.out _ _ _ _ rfl hnil8 _ H2.out (one_cells _) ?x0f2 ?x0f3 ?x0f4 ?_)
    case x0f2 => unfold maxLen; omega
    case x0f3 => omega
    case x0f4 => exact hq8
    intro v9 w9 o9 g9
    have B9 := Lib.hid (show Below M6 w6 w9 from B8.out.grown g9 hq8 (fun k hk => (O8.out.lt k hk).1))
    have o9' : w9.ownsRow M6 23 1 v9 (n + q) (i8s (R1 ++ R2)) := by rw [← i8s_app]; exact o9
    obtain ⟨A9, c9, hv9, _, _⟩ := own_shape o9'
    subst hv9
    have HB9 := Lib.hid (after_same HB6.out (by rw [HM6.out]; exact B9.out))
    have Hw := Lib.hid (show RdK w9 A5 (n + q) (zs ++ 0 :: zs1) from Hw.out.below (by rw [HM6.out]; exact B9.out))
    have Hv := Lib.hid (RdK.own o9')
    clear o9 o9' g9 O8 B8 H2 hq8 HB6 B9
    go_wp2_with fail
    refine (HR.out A5 (n + q) c5 s (zs ++ 0 :: zs1) _ Hw.out (by omega)).mono ?_
    rintro _ w10 ⟨A10, c10, rfl, o10, b10⟩
    rw [Hpart.out] at o10
    have HB10 := Lib.hid (after_same HB9.out b10)
    have Hv := Lib.hid (Hv.out.below b10)
    have Hx := Lib.hid (RdK.own o10)
    clear o10 b10 HB9 Hw
    go_wp2_with fail
    refine (HE.out (R1 ++ R2) A10 A9 (n + q) c10 c9 _ Hx.out Hv.out (by omega)).mono ?_
    rintro _ w11 ⟨rfl, b11⟩
    have HB11 := Lib.hid (after_same HB10.out b11)
    clear b11 HB10
    go_wp2_with fail
    go_ret
    exact ⟨rfl, HB11.out.1⟩
end Go.Proofs.Ytajpkidjdebolaa
