/- ShowBytes, walked. -/
import Derived.Test.YthejfbanehnmjaaDoorAlive6
import Derived.Test.YthejfbanehnmjaaDoorShGG
set_option linter.unusedSimpArgs false
set_option linter.unusedVariables false
namespace Go.Proofs.YthejfbanehnmjaaDoor
open Go.RowKit Go.Lib

theorem one_string6 (w : World) (y : Nat) (hy : y < 256) (W : World) (hW : W = w.alloc (.cells #[.int .u8 (y : Int)] 5)) :
    (convert 38 9 (.slice (some ⟨w.heap.size, 0, none⟩) 1 1)).run Tryd.prog W = .ok (.string ⟨#[UInt8.ofNat y]⟩) W := by
  refine run_convert_bytes_back W _ _ 5 ⟨w.heap.size, 0, none⟩ 1 [UInt8.ofNat y] Tryd.underlying38 Tryd.underlying5 Tryd.underlying9 (fun j hj => ?_)
  obtain rfl : j = 0 := by simpa using hj
  rw [hW]
  have := new_cells w [.int .u8 (y : Int)] 5 0 _ rfl
  simpa [Nat.mod_eq_of_lt hy] using this
theorem text_byte6 (rz wd : Bool) (tb : Int) (col : Nat) (b : UInt8) : textZ rz wd tb col [b] = oneZ (circP [b]) rz wd (stopZ (tabN tb) col) [b] := by
  unfold textZ
  rw [first_self (clu_byte b)]
set_option maxRecDepth 100000 in
set_option maxHeartbeats 2000000 in
theorem bytes6_low (y : Nat) (h32 : 32 ≤ y) (h127 : y < 127) (x1 tb : Int) (wd : Bool) (wt : Int) (jn rz : Bool) (w : World) (hx1 : -9223372036854775808 ≤ x1 ∧ x1 ≤ 9223372036854775807) (hT : Utf8Tabs 0 1 w) :
    Calls Tryd.prog 8 #[.int .u8 (y : Int), .int .i64 x1, lookV tb wd wt jn rz] w fun e w' => e = .returned (.bool true) ∧ Below w.heap.size w w' := by
  obtain ⟨b, hbe⟩ : ∃ b, UInt8.ofNat y = b := ⟨_, rfl⟩
  have hby : b.toNat = y := by rw [← hbe]; simp; omega
  have htx : textZ rz wd tb x1.toNat [b] = ([b], 1) := by rw [text_byte6]; exact show_low _ _ _ _ b (by omega) (by omega)
  have HS := Lib.hid (fun W hT => shows_yes ⟨#[b]⟩ ⟨#[b]⟩ x1 1 tb wd wt jn rz W (show 1 ≤ 1073741824 by omega) hx1.1 hx1.2 hT htx)
  have HA := Lib.hid (fun W hT => alive6_any W hT)
  have hL := LookAt.new w 24 tb wd wt jn rz
  have hb0 : Below w.heap.size w (w.alloc (.cells #[.int .i64 tb, .bool wd, .int .i8 wt, .bool jn, .bool rz] 24)) := (Below.refl _ w).alloc (Nat.le_refl _) _
  obtain ⟨W0, hW0⟩ : ∃ W, w.alloc (.cells #[.int .i64 tb, .bool wd, .int .i8 wt, .bool jn, .bool rz] 24) = W := ⟨_, rfl⟩
  have hs0 : w.heap.size < W0.heap.size := by rw [← hW0]; simp
  rw [hW0] at hL hb0
  have hcv1 := one_string6 W0 y (by omega) _ rfl
  have hb1 : Below W0.heap.size W0 (W0.alloc (.cells #[.int .u8 (y : Int)] 5)) := (Below.refl _ W0).alloc (Nat.le_refl _) _
  obtain ⟨W1, hW1⟩ : ∃ W, W0.alloc (.cells #[.int .u8 (y : Int)] 5) = W := ⟨_, rfl⟩
  rw [hW1] at hcv1 hb1
  have hcv2 := one_string6 W1 y (by omega) _ rfl
  have hb2 : Below W1.heap.size W1 (W1.alloc (.cells #[.int .u8 (y : Int)] 5)) := (Below.refl _ W1).alloc (Nat.le_refl _) _
  obtain ⟨W2, hW2⟩ : ∃ W, W1.alloc (.cells #[.int .u8 (y : Int)] 5) = W := ⟨_, rfl⟩
  rw [hW2] at hcv2 hb2
  rw [hbe] at hcv1 hcv2
  have hL1 := hL.below hb1 hs0
  obtain ⟨c0, c1, c2, c3, c4⟩ := hL1
  have hb02 : Below w.heap.size w W2 := (hb0.trans (hb1.mono (by omega))).trans (hb2.mono (by have := hb1.size; omega))
  have HT2 := Lib.hid (Utf8Tabs_below hT hb02)
  have Hb2 := Lib.hid hb02
  have hsz2 : w.heap.size ≤ W2.heap.size := hb02.size
  clear hb0 hb1 hb2 hb02 hL hbe htx hT
  have h32i : (32 : Int) ≤ (y : Int) := by omega
  have h127i : (y : Int) < 127 := by omega
  go_enter Tryd.func8, Tryd.ntmps8
  go_wp2_with fail
  refine (HS.out _ HT2.out).mono ?_
  rintro _ w3 ⟨rfl, b3⟩
  have HT3 := Lib.hid (Utf8Tabs_below HT2.out b3)
  have Hb3 := Lib.hid (Hb2.out.trans (b3.mono hsz2))
  have hsz3 : w.heap.size ≤ w3.heap.size := Hb3.out.size
  clear b3
  go_wp2_with fail
  refine (HA.out _ HT3.out).mono ?_
  rintro _ w4 ⟨rfl, b4⟩
  have Hb4 := Lib.hid (Hb3.out.trans (b4.mono hsz3))
  clear b4
  go_wp2
  go_ret
  exact ⟨rfl, Hb4.out⟩
set_option maxRecDepth 100000 in
set_option maxHeartbeats 2000000 in
theorem bytes6_other (y : Nat) (hy : y < 256) (ho : y < 32 ∨ 127 ≤ y) (x1 tb : Int) (wd : Bool) (wt : Int) (jn rz : Bool) (w : World) (hx1 : -9223372036854775808 ≤ x1 ∧ x1 ≤ 9223372036854775807) (hT : Utf8Tabs 0 1 w) :
    Calls Tryd.prog 8 #[.int .u8 (y : Int), .int .i64 x1, lookV tb wd wt jn rz] w fun e w' => e = .returned (.bool true) ∧ Below w.heap.size w w' := by
  obtain ⟨b, hbe⟩ : ∃ b, UInt8.ofNat y = b := ⟨_, rfl⟩
  have hby : b.toNat = y := by rw [← hbe]; simp; omega
  have hx := fun W hT => ptext_any ⟨#[b]⟩ x1 tb wd wt jn rz W (show 1 ≤ 1073741824 by omega) hx1.1 hx1.2 hT
  rw [show (⟨#[b]⟩ : ByteArray).data.toList = [b] from rfl, text_byte6] at hx
  obtain ⟨⟨L, n⟩, hLn⟩ : ∃ X, oneZ (circP [b]) rz wd (stopZ (tabN tb) x1.toNat) [b] = X := ⟨_, rfl⟩
  rw [hLn] at hx
  obtain ⟨e1, e2, e3⟩ := show_other _ rz wd _ b (by rw [hby]; exact ho) (stopZ_le tb x1.toNat).1 L n hLn
  obtain ⟨S, hS⟩ : ∃ S : ByteArray, (⟨L.toArray⟩ : ByteArray) = S := ⟨_, rfl⟩
  have hSn : S.size = n := by rw [← hS, ← e1]; simp [ByteArray.size]
  have hSb : ∀ k (h : k < S.size), 32 ≤ (S[k]'h).toNat ∧ (S[k]'h).toNat ≤ 126 := by
    intro k h
    refine e3 _ ?_
    subst hS
    show L.toArray[k] ∈ L
    simp
  simp only [hS] at hx
  have HX := Lib.hid hx
  obtain ⟨q, hq⟩ : ∃ q, ((n : Int) == 0) = q := ⟨_, rfl⟩
  have hq2 : ((y : Int) == 10) = q := by
    rw [← hq]
    rw [hby] at e2
    by_cases h0 : n = 0
    · have := e2.1 h0
      subst this h0
      rfl
    · have := fun e => h0 (e2.2 e)
      rw [show ((n : Int) == 0) = false by rw [beq_eq_false_iff_ne]; omega]
      rw [beq_eq_false_iff_ne]
      omega
  have hne : ((S.size : Int) != (n : Int)) = false := by rw [hSn]; simp
  have hnn : S.size ≤ 9223372036854775807 := by
    have := stopZ_le tb x1.toNat
    have := one_le (circP [b]) rz wd (stopZ (tabN tb) x1.toNat) [b] this.2
    rw [hLn] at this
    simp only at this
    omega
  have HA := Lib.hid (fun W hT => alive6_any W hT)
  have HSb := Lib.hid hSb
  have hL := LookAt.new w 24 tb wd wt jn rz
  have hb0 : Below w.heap.size w (w.alloc (.cells #[.int .i64 tb, .bool wd, .int .i8 wt, .bool jn, .bool rz] 24)) := (Below.refl _ w).alloc (Nat.le_refl _) _
  obtain ⟨W0, hW0⟩ : ∃ W, w.alloc (.cells #[.int .i64 tb, .bool wd, .int .i8 wt, .bool jn, .bool rz] 24) = W := ⟨_, rfl⟩
  have hs0 : w.heap.size < W0.heap.size := by rw [← hW0]; simp
  rw [hW0] at hL hb0
  have hcv1 := one_string6 W0 y (by omega) _ rfl
  have hb1 : Below W0.heap.size W0 (W0.alloc (.cells #[.int .u8 (y : Int)] 5)) := (Below.refl _ W0).alloc (Nat.le_refl _) _
  obtain ⟨W1, hW1⟩ : ∃ W, W0.alloc (.cells #[.int .u8 (y : Int)] 5) = W := ⟨_, rfl⟩
  rw [hW1] at hcv1 hb1
  rw [hbe] at hcv1
  obtain ⟨c0, c1, c2, c3, c4⟩ := hL.below hb1 hs0
  have hb01 : Below w.heap.size w W1 := hb0.trans (hb1.mono (by omega))
  have HT1 := Lib.hid (Utf8Tabs_below hT hb01)
  have Hb1 := Lib.hid hb01
  have hsz1 : w.heap.size ≤ W1.heap.size := hb01.size
  have hlow : (y < 32 ∧ ¬ (32 : Int) ≤ (y : Int)) ∨ ((32 : Int) ≤ (y : Int) ∧ ¬ (y : Int) < 127) := by omega
  clear hb0 hb1 hb01 hL hbe hT hx hLn e1 e2 e3 hS hSb
  rcases hlow with ⟨_, hl1⟩ | ⟨hl1, hl2⟩
  all_goals
    go_enter Tryd.func8, Tryd.ntmps8
    go_wp2_with fail
    refine (HX.out _ HT1.out).mono ?_
    rintro _ w3 ⟨rfl, b3⟩
    have HT3 := Lib.hid (Utf8Tabs_below HT1.out b3)
    have Hb3 := Lib.hid (Hb1.out.trans (b3.mono hsz1))
    have hsz3 : w.heap.size ≤ w3.heap.size := Hb3.out.size
    have Hqq := Lib.hid hq
    clear b3
    cases q
    all_goals
      go_wp2_with fail
      go_loopw [9] (fun i wr => ∃ k : Nat, i = .int .i64 (k : Int) ∧ k ≤ S.size ∧ wr = w3) (fun i _ => S.size - (RowKit.intOf i).toNat)
      case atStart => exact ⟨0, rfl, Nat.zero_le _, rfl⟩
      case round =>
        obtain ⟨k, rfl, hk, rfl⟩ := hrel
        by_cases hkn : k < S.size
        · obtain ⟨g1, g2⟩ := HSb.out k hkn
          have hki : (k : Int) < (S.size : Int) := by omega
          obtain ⟨u, hu⟩ : ∃ u, S[k]'hkn = u := ⟨_, rfl⟩
          rw [hu] at g1 g2
          have g1i : ¬ ((u.toNat : Int) < 32) := by omega
          have g2i : ¬ ((126 : Int) < (u.toNat : Int)) := by omega
          have hw : IntKind.i64.wrap ((k : Int) + 1) = (k : Int) + 1 := IntWalk.i64_in _ (by omega)
          go_wp2
          go_roundw
          case rel => exact ⟨k + 1, by go_num, hkn, trivial⟩
          case measure => simp [RowKit.intOf]; omega
        · have hki : ¬ (k : Int) < (S.size : Int) := by omega
          go_wp2_with fail
          refine (HA.out _ HT3.out).mono ?_
          rintro _ w4 ⟨rfl, b4⟩
          have Hb4 := Lib.hid (Hb3.out.trans (b4.mono hsz3))
          clear b4
          go_wp2
          go_ret
          exact ⟨rfl, Hb4.out⟩
theorem bytes6_walk (x0 x1 tb : Int) (wd : Bool) (wt : Int) (jn rz : Bool) (w : World) (hx0 : 0 ≤ x0 ∧ x0 ≤ 255) (hx1 : -9223372036854775808 ≤ x1 ∧ x1 ≤ 9223372036854775807) (hT : Utf8Tabs 0 1 w) :
    Calls Tryd.prog 8 #[.int .u8 x0, .int .i64 x1, lookV tb wd wt jn rz] w fun e w' => e = .returned (.bool true) ∧ Below w.heap.size w w' := by
  obtain ⟨y, rfl⟩ : ∃ y : Nat, x0 = (y : Int) := ⟨x0.toNat, by omega⟩
  by_cases h : 32 ≤ y ∧ y < 127
  · exact bytes6_low y h.1 h.2 x1 tb wd wt jn rz w hx1 hT
  · exact bytes6_other y (by omega) (by omega) x1 tb wd wt jn rz w hx1 hT
end Go.Proofs.YthejfbanehnmjaaDoor
