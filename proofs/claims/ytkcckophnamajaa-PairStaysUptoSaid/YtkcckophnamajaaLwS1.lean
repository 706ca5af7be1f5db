/- Layer 9: PairStays, walked: the other direction of the level. (Made by tools/mkstays9.py.) -/
import Derived.Test.YtkcckophnamajaaLwS0
set_option linter.unusedSimpArgs false
set_option linter.unusedVariables false
namespace Go.Proofs.Ytkcckophnamajaa
open Go.RowKit Go.Lib

set_option maxRecDepth 100000 in
set_option maxHeartbeats 16000000 in
theorem pairStays_100 (Ar A : Option Addr) (nr cr n0 c : Nat) (rs0 ks0 : List Int) (lv sos eos : Int) (h0 : 0 ≤ lv) (hlv : lv.tmod 2 = 1) (hs1 : (sos == 1) = false) (hs2 : (eos == 1) = false) (w : World) (hr0 : RdR w Ar nr rs0) (hk0 : RdK w A n0 ks0) (hnr : nr ≤ 1048576) (hn0 : n0 ≤ 1048576) (hcr : nr ≤ cr) (hnc : n0 ≤ c) :
    Calls Try.prog 6 #[.slice Ar nr cr, .slice A n0 c, .int .u8 lv, .int .i8 sos, .int .i8 eos] w fun e w' => e = .returned (.bool true) ∧ Below w.heap.size w w' := by
  have HSh := Lib.hid (short_any9 Ar A nr cr n0 c w hcr hnc)
  obtain ⟨n, hn⟩ : ∃ n, min nr n0 = n := ⟨_, rfl⟩
  rw [hn] at HSh
  have hr := hr0.take9 n (by omega)
  have hk := hk0.take9 n (by omega)
  have hrl := hr.len
  have hkl := hk.len
  obtain ⟨rs, hrs⟩ : ∃ rs, rs0.take n = rs := ⟨_, rfl⟩
  obtain ⟨ks, hks⟩ : ∃ ks, ks0.take n = ks := ⟨_, rfl⟩
  rw [hrs] at hr hrl
  rw [hks] at hk hkl
  obtain ⟨Q, hQ⟩ : ∃ Q, w.heap.size = Q := ⟨_, rfl⟩
  have HPb := Lib.hid (fun (W : World) (hb : Below Q w W) => presolve_any9 Ar A n cr n c rs ks lv sos eos W (hr.below (by rw [hQ]; exact hb)) (hk.below (by rw [hQ]; exact hb)) (by omega) (by omega) (by omega) h0)
  have HLl := Lib.hid (show (rsZ pairOf nsm9 rs ks lv sos eos).length = n by rw [rsZ_len, hrl, hkl, Nat.min_self])
  have HS := Lib.hid (fun (i : Nat) (k : Int) (hi : ks[i]? = some k) => stays_at hrl hkl lv sos eos hi)
  have HO := Lib.hid (fun h1 h2 ho (i : Nat) (v : Int) hi => stays_one (i := i) (v := v) hrl hkl lv sos eos h1 h2 ho hi)
  obtain ⟨L, hL⟩ : ∃ L, rsZ pairOf nsm9 rs ks lv sos eos = L := ⟨_, rfl⟩
  unfold NewAt at HPb
  rw [hL] at HPb HLl HS HO
  rw [Nat.min_self] at HPb
  have Hk := Lib.hid (show ∀ W, Below Q w W → RdK W A n ks from fun W hb => hk.below (by rw [hQ]; exact hb))
  have HAl := Lib.hid alive_any9
  have HQ := Lib.hid hQ
  have Hkl := Lib.hid hkl
  have hn20 : n ≤ 1048576 := by omega
  rw [hQ] at HSh ⊢
  clear hr0 hk0 hr hk hrl hkl hrs hks hL hQ hn hnr hn0
  go_enter Try.func6, Try.ntmps6
  go_wp2_with fail
  refine (HSh.out).mono ?_
  rintro _ w1 ⟨rfl, b1⟩
  have B1 := Lib.hid b1
  have hs1 : Q ≤ w1.heap.size := by have := b1.size; have := HQ.out; omega
  clear b1 HSh
  go_wp2_with fail
  refine (HPb.out w1 B1.out).mono ?_
  rintro _ w2 ⟨Al, cl, rfl, ol, b2⟩
  have H2 := Lib.hid (show Below Q w w2 ∧ Q ≤ w2.heap.size from ⟨B1.out.trans (b2.mono hs1), by have := b2.size; omega⟩)
  have HL := Lib.hid (RdK.own ol)
  have HK := Lib.hid (Hk.out w2 H2.out.1)
  have hnn0 : ((n : Int) != (n : Int)) = false := by simp
  clear ol b2 B1 hs1 HPb Hk
  have Hs := Lib.hid (show _ ∧ _ from ⟨hs1, hs2⟩)
  have hlb : (lv.tmod 2 == 1) = true := by simp [hlv]
  have hlb2 : (lv % 2 == 1) = true := by rw [← Int.tmod_eq_emod_of_nonneg h0]; exact hlb
  have HE := Lib.hid (show lvlZ lv = 1 by unfold lvlZ; rw [if_pos hlv])
  clear hlv
  go_wp2_with fail
  go_loopw [15, 16] (fun y x wr => wr = w2 ∧ ∃ i : Nat, y = .bool true ∧ x = .int .i64 (i : Int) ∧ i ≤ n) (fun _ x _ => n - (RowKit.intOf x).toNat)
  case atStart => exact ⟨rfl, 0, rfl, rfl, Nat.zero_le _⟩
  case round =>
    obtain ⟨hWW, i, rfl, rfl, hin⟩ := hrel
    subst hWW
    rcases Nat.lt_or_ge i n with hlt | hge
    · obtain ⟨k, hk⟩ : ∃ k, ks[i]? = some k := ⟨_, List.getElem?_eq_getElem (by rw [Hkl.out]; exact hlt)⟩
      have hS := HS.out i k hk
      obtain ⟨ak, hA, _, _, kc⟩ := HK.out.get hk
      subst hA
      have hini : (i : Int) < (n : Int) := by omega
      have hnext : IntKind.i64.wrap ((i : Int) + 1) = (i : Int) + 1 := IntWalk.i64_in _ (by omega)
      by_cases hne : neuZ k = true
      · obtain ⟨v, hv, hLv⟩ := hS.2 hne
        obtain ⟨al, hA, _, _, lc⟩ := HL.out.get hLv
        subst hA
        have k0 : (k == 0) = false := by cases e : (k == 0) with | false => rfl | true => (have := beq_iff_eq.1 e; subst this; cases hne)
        have k1 : (k == 1) = false := by cases e : (k == 1) with | false => rfl | true => (have := beq_iff_eq.1 e; subst this; cases hne)
        have k2 : (k == 2) = false := by cases e : (k == 2) with | false => rfl | true => (have := beq_iff_eq.1 e; subst this; cases hne)
        have k3 : (k == 3) = false := by cases e : (k == 3) with | false => rfl | true => (have := beq_iff_eq.1 e; subst this; cases hne)
        have k6 : (k == 6) = false := by cases e : (k == 6) with | false => rfl | true => (have := beq_iff_eq.1 e; subst this; cases hne)
        clear hk hS hne hLv
        rcases hv with rfl | rfl
        · go_wp2_with fail
          go_roundw
          case rel => exact ⟨trivial, i + 1, rfl, by first | rfl | go_num, hlt⟩
          case measure => simp [RowKit.intOf]; omega
        · go_wp2_with fail
          go_roundw
          case rel => exact ⟨trivial, i + 1, rfl, by first | rfl | go_num, hlt⟩
          case measure => simp [RowKit.intOf]; omega
      · have hnf : neuZ k = false := by simpa using hne
        have hLv := hS.1 hnf
        obtain ⟨al, hA, _, _, lc⟩ := HL.out.get hLv
        subst hA
        have hkk := neu_not hnf
        clear hk hS hne hLv hnf
        rcases hkk with rfl | rfl | rfl | rfl | rfl
        all_goals (
          have lc9 := lc
          simp only [cn9] at lc9
          go_wp2_with fail
          go_roundw
          case rel => exact ⟨trivial, i + 1, rfl, by first | rfl | go_num, hlt⟩
          case measure => simp [RowKit.intOf]; omega)
    · obtain rfl : i = n := by omega
      have hnn : ¬ (i : Int) < (i : Int) := by omega
      clear hin hge
      obtain ⟨wr9, hwr9⟩ : ∃ wr9, wr = wr9 := ⟨_, rfl⟩
      subst hwr9
      go_wp2_with fail
      go_loopw [18] (fun x wr' => wr' = wr ∧ ∃ j : Nat, x = .int .i64 (j : Int) ∧ j ≤ i) (fun x _ => i - (RowKit.intOf x).toNat)
      case atStart => exact ⟨rfl, 0, rfl, Nat.zero_le _⟩
      case round =>
        obtain ⟨hWW, j, rfl, hji⟩ := hrel
        subst hWW
        rcases Nat.lt_or_ge j i with hlt | hge
        · have hjni : (j : Int) < (i : Int) := by omega
          have dj : decide ((j : Int) < (i : Int)) = true := decide_eq_true hjni
          have dj2 : decide (j < i) = true := decide_eq_true hlt
          go_wp2_with fail
          refine (HAl.out _).mono ?_
          rintro _ w9 ⟨rfl, b9⟩
          have HEn := Lib.hid (H2.out.1.trans (b9.mono H2.out.2))
          clear b9
          go_wp2_with fail
          go_ret
          exact ⟨rfl, HEn.out⟩
        · obtain rfl : j = i := by omega
          have hjj : ¬ (j : Int) < (j : Int) := by omega
          have dj : decide ((j : Int) < (j : Int)) = false := decide_eq_false hjj
          go_wp2_with fail
          refine (HAl.out _).mono ?_
          rintro _ w9 ⟨rfl, b9⟩
          have HEn := Lib.hid (H2.out.1.trans (b9.mono H2.out.2))
          clear b9
          go_wp2_with fail
          go_ret
          exact ⟨rfl, HEn.out⟩
set_option maxRecDepth 100000 in
set_option maxHeartbeats 16000000 in
theorem pairStays_101 (Ar A : Option Addr) (nr cr n0 c : Nat) (rs0 ks0 : List Int) (lv sos eos : Int) (h0 : 0 ≤ lv) (hlv : lv.tmod 2 = 1) (hs1 : (sos == 1) = false) (hs2 : (eos == 1) = true) (w : World) (hr0 : RdR w Ar nr rs0) (hk0 : RdK w A n0 ks0) (hnr : nr ≤ 1048576) (hn0 : n0 ≤ 1048576) (hcr : nr ≤ cr) (hnc : n0 ≤ c) :
    Calls Try.prog 6 #[.slice Ar nr cr, .slice A n0 c, .int .u8 lv, .int .i8 sos, .int .i8 eos] w fun e w' => e = .returned (.bool true) ∧ Below w.heap.size w w' := by
  have HSh := Lib.hid (short_any9 Ar A nr cr n0 c w hcr hnc)
  obtain ⟨n, hn⟩ : ∃ n, min nr n0 = n := ⟨_, rfl⟩
  rw [hn] at HSh
  have hr := hr0.take9 n (by omega)
  have hk := hk0.take9 n (by omega)
  have hrl := hr.len
  have hkl := hk.len
  obtain ⟨rs, hrs⟩ : ∃ rs, rs0.take n = rs := ⟨_, rfl⟩
  obtain ⟨ks, hks⟩ : ∃ ks, ks0.take n = ks := ⟨_, rfl⟩
  rw [hrs] at hr hrl
  rw [hks] at hk hkl
  obtain ⟨Q, hQ⟩ : ∃ Q, w.heap.size = Q := ⟨_, rfl⟩
  have HPb := Lib.hid (fun (W : World) (hb : Below Q w W) => presolve_any9 Ar A n cr n c rs ks lv sos eos W (hr.below (by rw [hQ]; exact hb)) (hk.below (by rw [hQ]; exact hb)) (by omega) (by omega) (by omega) h0)
  have HLl := Lib.hid (show (rsZ pairOf nsm9 rs ks lv sos eos).length = n by rw [rsZ_len, hrl, hkl, Nat.min_self])
  have HS := Lib.hid (fun (i : Nat) (k : Int) (hi : ks[i]? = some k) => stays_at hrl hkl lv sos eos hi)
  have HO := Lib.hid (fun h1 h2 ho (i : Nat) (v : Int) hi => stays_one (i := i) (v := v) hrl hkl lv sos eos h1 h2 ho hi)
  obtain ⟨L, hL⟩ : ∃ L, rsZ pairOf nsm9 rs ks lv sos eos = L := ⟨_, rfl⟩
  unfold NewAt at HPb
  rw [hL] at HPb HLl HS HO
  rw [Nat.min_self] at HPb
  have Hk := Lib.hid (show ∀ W, Below Q w W → RdK W A n ks from fun W hb => hk.below (by rw [hQ]; exact hb))
  have HAl := Lib.hid alive_any9
  have HQ := Lib.hid hQ
  have Hkl := Lib.hid hkl
  have hn20 : n ≤ 1048576 := by omega
  rw [hQ] at HSh ⊢
  clear hr0 hk0 hr hk hrl hkl hrs hks hL hQ hn hnr hn0
  go_enter Try.func6, Try.ntmps6
  go_wp2_with fail
  refine (HSh.out).mono ?_
  rintro _ w1 ⟨rfl, b1⟩
  have B1 := Lib.hid b1
  have hs1 : Q ≤ w1.heap.size := by have := b1.size; have := HQ.out; omega
  clear b1 HSh
  go_wp2_with fail
  refine (HPb.out w1 B1.out).mono ?_
  rintro _ w2 ⟨Al, cl, rfl, ol, b2⟩
  have H2 := Lib.hid (show Below Q w w2 ∧ Q ≤ w2.heap.size from ⟨B1.out.trans (b2.mono hs1), by have := b2.size; omega⟩)
  have HL := Lib.hid (RdK.own ol)
  have HK := Lib.hid (Hk.out w2 H2.out.1)
  have hnn0 : ((n : Int) != (n : Int)) = false := by simp
  clear ol b2 B1 hs1 HPb Hk
  have Hs := Lib.hid (show _ ∧ _ from ⟨hs1, hs2⟩)
  have hlb : (lv.tmod 2 == 1) = true := by simp [hlv]
  have hlb2 : (lv % 2 == 1) = true := by rw [← Int.tmod_eq_emod_of_nonneg h0]; exact hlb
  have HE := Lib.hid (show lvlZ lv = 1 by unfold lvlZ; rw [if_pos hlv])
  clear hlv
  go_wp2_with fail
  go_loopw [15, 16] (fun y x wr => wr = w2 ∧ ∃ i : Nat, y = .bool true ∧ x = .int .i64 (i : Int) ∧ i ≤ n) (fun _ x _ => n - (RowKit.intOf x).toNat)
  case atStart => exact ⟨rfl, 0, rfl, rfl, Nat.zero_le _⟩
  case round =>
    obtain ⟨hWW, i, rfl, rfl, hin⟩ := hrel
    subst hWW
    rcases Nat.lt_or_ge i n with hlt | hge
    · obtain ⟨k, hk⟩ : ∃ k, ks[i]? = some k := ⟨_, List.getElem?_eq_getElem (by rw [Hkl.out]; exact hlt)⟩
      have hS := HS.out i k hk
      obtain ⟨ak, hA, _, _, kc⟩ := HK.out.get hk
      subst hA
      have hini : (i : Int) < (n : Int) := by omega
      have hnext : IntKind.i64.wrap ((i : Int) + 1) = (i : Int) + 1 := IntWalk.i64_in _ (by omega)
      by_cases hne : neuZ k = true
      · obtain ⟨v, hv, hLv⟩ := hS.2 hne
        obtain ⟨al, hA, _, _, lc⟩ := HL.out.get hLv
        subst hA
        have k0 : (k == 0) = false := by cases e : (k == 0) with | false => rfl | true => (have := beq_iff_eq.1 e; subst this; cases hne)
        have k1 : (k == 1) = false := by cases e : (k == 1) with | false => rfl | true => (have := beq_iff_eq.1 e; subst this; cases hne)
        have k2 : (k == 2) = false := by cases e : (k == 2) with | false => rfl | true => (have := beq_iff_eq.1 e; subst this; cases hne)
        have k3 : (k == 3) = false := by cases e : (k == 3) with | false => rfl | true => (have := beq_iff_eq.1 e; subst this; cases hne)
        have k6 : (k == 6) = false := by cases e : (k == 6) with | false => rfl | true => (have := beq_iff_eq.1 e; subst this; cases hne)
        clear hk hS hne hLv
        rcases hv with rfl | rfl
        · go_wp2_with fail
          go_roundw
          case rel => exact ⟨trivial, i + 1, rfl, by first | rfl | go_num, hlt⟩
          case measure => simp [RowKit.intOf]; omega
        · go_wp2_with fail
          go_roundw
          case rel => exact ⟨trivial, i + 1, rfl, by first | rfl | go_num, hlt⟩
          case measure => simp [RowKit.intOf]; omega
      · have hnf : neuZ k = false := by simpa using hne
        have hLv := hS.1 hnf
        obtain ⟨al, hA, _, _, lc⟩ := HL.out.get hLv
        subst hA
        have hkk := neu_not hnf
        clear hk hS hne hLv hnf
        rcases hkk with rfl | rfl | rfl | rfl | rfl
        all_goals (
          have lc9 := lc
          simp only [cn9] at lc9
          go_wp2_with fail
          go_roundw
          case rel => exact ⟨trivial, i + 1, rfl, by first | rfl | go_num, hlt⟩
          case measure => simp [RowKit.intOf]; omega)
    · obtain rfl : i = n := by omega
      have hnn : ¬ (i : Int) < (i : Int) := by omega
      clear hin hge
      obtain ⟨wr9, hwr9⟩ : ∃ wr9, wr = wr9 := ⟨_, rfl⟩
      subst hwr9
      go_wp2_with fail
      go_loopw [18] (fun x wr' => wr' = wr ∧ ∃ j : Nat, x = .int .i64 (j : Int) ∧ j ≤ i) (fun x _ => i - (RowKit.intOf x).toNat)
      case atStart => exact ⟨rfl, 0, rfl, Nat.zero_le _⟩
      case round =>
        obtain ⟨hWW, j, rfl, hji⟩ := hrel
        subst hWW
        rcases Nat.lt_or_ge j i with hlt | hge
        · have hjni : (j : Int) < (i : Int) := by omega
          have dj : decide ((j : Int) < (i : Int)) = true := decide_eq_true hjni
          have dj2 : decide (j < i) = true := decide_eq_true hlt
          go_wp2_with fail
          refine (HAl.out _).mono ?_
          rintro _ w9 ⟨rfl, b9⟩
          have HEn := Lib.hid (H2.out.1.trans (b9.mono H2.out.2))
          clear b9
          go_wp2_with fail
          go_ret
          exact ⟨rfl, HEn.out⟩
        · obtain rfl : j = i := by omega
          have hjj : ¬ (j : Int) < (j : Int) := by omega
          have dj : decide ((j : Int) < (j : Int)) = false := decide_eq_false hjj
          go_wp2_with fail
          refine (HAl.out _).mono ?_
          rintro _ w9 ⟨rfl, b9⟩
          have HEn := Lib.hid (H2.out.1.trans (b9.mono H2.out.2))
          clear b9
          go_wp2_with fail
          go_ret
          exact ⟨rfl, HEn.out⟩
set_option maxRecDepth 100000 in
set_option maxHeartbeats 16000000 in
theorem pairStays_110 (Ar A : Option Addr) (nr cr n0 c : Nat) (rs0 ks0 : List Int) (lv sos eos : Int) (h0 : 0 ≤ lv) (hlv : lv.tmod 2 = 1) (hs1 : (sos == 1) = true) (hs2 : (eos == 1) = false) (w : World) (hr0 : RdR w Ar nr rs0) (hk0 : RdK w A n0 ks0) (hnr : nr ≤ 1048576) (hn0 : n0 ≤ 1048576) (hcr : nr ≤ cr) (hnc : n0 ≤ c) :
    Calls Try.prog 6 #[.slice Ar nr cr, .slice A n0 c, .int .u8 lv, .int .i8 sos, .int .i8 eos] w fun e w' => e = .returned (.bool true) ∧ Below w.heap.size w w' := by
  have HSh := Lib.hid (short_any9 Ar A nr cr n0 c w hcr hnc)
  obtain ⟨n, hn⟩ : ∃ n, min nr n0 = n := ⟨_, rfl⟩
  rw [hn] at HSh
  have hr := hr0.take9 n (by omega)
  have hk := hk0.take9 n (by omega)
  have hrl := hr.len
  have hkl := hk.len
  obtain ⟨rs, hrs⟩ : ∃ rs, rs0.take n = rs := ⟨_, rfl⟩
  obtain ⟨ks, hks⟩ : ∃ ks, ks0.take n = ks := ⟨_, rfl⟩
  rw [hrs] at hr hrl
  rw [hks] at hk hkl
  obtain ⟨Q, hQ⟩ : ∃ Q, w.heap.size = Q := ⟨_, rfl⟩
  have HPb := Lib.hid (fun (W : World) (hb : Below Q w W) => presolve_any9 Ar A n cr n c rs ks lv sos eos W (hr.below (by rw [hQ]; exact hb)) (hk.below (by rw [hQ]; exact hb)) (by omega) (by omega) (by omega) h0)
  have HLl := Lib.hid (show (rsZ pairOf nsm9 rs ks lv sos eos).length = n by rw [rsZ_len, hrl, hkl, Nat.min_self])
  have HS := Lib.hid (fun (i : Nat) (k : Int) (hi : ks[i]? = some k) => stays_at hrl hkl lv sos eos hi)
  have HO := Lib.hid (fun h1 h2 ho (i : Nat) (v : Int) hi => stays_one (i := i) (v := v) hrl hkl lv sos eos h1 h2 ho hi)
  obtain ⟨L, hL⟩ : ∃ L, rsZ pairOf nsm9 rs ks lv sos eos = L := ⟨_, rfl⟩
  unfold NewAt at HPb
  rw [hL] at HPb HLl HS HO
  rw [Nat.min_self] at HPb
  have Hk := Lib.hid (show ∀ W, Below Q w W → RdK W A n ks from fun W hb => hk.below (by rw [hQ]; exact hb))
  have HAl := Lib.hid alive_any9
  have HQ := Lib.hid hQ
  have Hkl := Lib.hid hkl
  have hn20 : n ≤ 1048576 := by omega
  rw [hQ] at HSh ⊢
  clear hr0 hk0 hr hk hrl hkl hrs hks hL hQ hn hnr hn0
  go_enter Try.func6, Try.ntmps6
  go_wp2_with fail
  refine (HSh.out).mono ?_
  rintro _ w1 ⟨rfl, b1⟩
  have B1 := Lib.hid b1
  have hs1 : Q ≤ w1.heap.size := by have := b1.size; have := HQ.out; omega
  clear b1 HSh
  go_wp2_with fail
  refine (HPb.out w1 B1.out).mono ?_
  rintro _ w2 ⟨Al, cl, rfl, ol, b2⟩
  have H2 := Lib.hid (show Below Q w w2 ∧ Q ≤ w2.heap.size from ⟨B1.out.trans (b2.mono hs1), by have := b2.size; omega⟩)
  have HL := Lib.hid (RdK.own ol)
  have HK := Lib.hid (Hk.out w2 H2.out.1)
  have hnn0 : ((n : Int) != (n : Int)) = false := by simp
  clear ol b2 B1 hs1 HPb Hk
  have Hs := Lib.hid (show _ ∧ _ from ⟨hs1, hs2⟩)
  have hlb : (lv.tmod 2 == 1) = true := by simp [hlv]
  have hlb2 : (lv % 2 == 1) = true := by rw [← Int.tmod_eq_emod_of_nonneg h0]; exact hlb
  have HE := Lib.hid (show lvlZ lv = 1 by unfold lvlZ; rw [if_pos hlv])
  clear hlv
  go_wp2_with fail
  go_loopw [15, 16] (fun y x wr => wr = w2 ∧ ∃ i : Nat, y = .bool true ∧ x = .int .i64 (i : Int) ∧ i ≤ n) (fun _ x _ => n - (RowKit.intOf x).toNat)
  case atStart => exact ⟨rfl, 0, rfl, rfl, Nat.zero_le _⟩
  case round =>
    obtain ⟨hWW, i, rfl, rfl, hin⟩ := hrel
    subst hWW
    rcases Nat.lt_or_ge i n with hlt | hge
    · obtain ⟨k, hk⟩ : ∃ k, ks[i]? = some k := ⟨_, List.getElem?_eq_getElem (by rw [Hkl.out]; exact hlt)⟩
      have hS := HS.out i k hk
      obtain ⟨ak, hA, _, _, kc⟩ := HK.out.get hk
      subst hA
      have hini : (i : Int) < (n : Int) := by omega
      have hnext : IntKind.i64.wrap ((i : Int) + 1) = (i : Int) + 1 := IntWalk.i64_in _ (by omega)
      by_cases hne : neuZ k = true
      · obtain ⟨v, hv, hLv⟩ := hS.2 hne
        obtain ⟨al, hA, _, _, lc⟩ := HL.out.get hLv
        subst hA
        have k0 : (k == 0) = false := by cases e : (k == 0) with | false => rfl | true => (have := beq_iff_eq.1 e; subst this; cases hne)
        have k1 : (k == 1) = false := by cases e : (k == 1) with | false => rfl | true => (have := beq_iff_eq.1 e; subst this; cases hne)
        have k2 : (k == 2) = false := by cases e : (k == 2) with | false => rfl | true => (have := beq_iff_eq.1 e; subst this; cases hne)
        have k3 : (k == 3) = false := by cases e : (k == 3) with | false => rfl | true => (have := beq_iff_eq.1 e; subst this; cases hne)
        have k6 : (k == 6) = false := by cases e : (k == 6) with | false => rfl | true => (have := beq_iff_eq.1 e; subst this; cases hne)
        clear hk hS hne hLv
        rcases hv with rfl | rfl
        · go_wp2_with fail
          go_roundw
          case rel => exact ⟨trivial, i + 1, rfl, by first | rfl | go_num, hlt⟩
          case measure => simp [RowKit.intOf]; omega
        · go_wp2_with fail
          go_roundw
          case rel => exact ⟨trivial, i + 1, rfl, by first | rfl | go_num, hlt⟩
          case measure => simp [RowKit.intOf]; omega
      · have hnf : neuZ k = false := by simpa using hne
        have hLv := hS.1 hnf
        obtain ⟨al, hA, _, _, lc⟩ := HL.out.get hLv
        subst hA
        have hkk := neu_not hnf
        clear hk hS hne hLv hnf
        rcases hkk with rfl | rfl | rfl | rfl | rfl
        all_goals (
          have lc9 := lc
          simp only [cn9] at lc9
          go_wp2_with fail
          go_roundw
          case rel => exact ⟨trivial, i + 1, rfl, by first | rfl | go_num, hlt⟩
          case measure => simp [RowKit.intOf]; omega)
    · obtain rfl : i = n := by omega
      have hnn : ¬ (i : Int) < (i : Int) := by omega
      clear hin hge
      obtain ⟨wr9, hwr9⟩ : ∃ wr9, wr = wr9 := ⟨_, rfl⟩
      subst hwr9
      go_wp2_with fail
      go_loopw [18] (fun x wr' => wr' = wr ∧ ∃ j : Nat, x = .int .i64 (j : Int) ∧ j ≤ i) (fun x _ => i - (RowKit.intOf x).toNat)
      case atStart => exact ⟨rfl, 0, rfl, Nat.zero_le _⟩
      case round =>
        obtain ⟨hWW, j, rfl, hji⟩ := hrel
        subst hWW
        rcases Nat.lt_or_ge j i with hlt | hge
        · have hjni : (j : Int) < (i : Int) := by omega
          have dj : decide ((j : Int) < (i : Int)) = true := decide_eq_true hjni
          have dj2 : decide (j < i) = true := decide_eq_true hlt
          go_wp2_with fail
          refine (HAl.out _).mono ?_
          rintro _ w9 ⟨rfl, b9⟩
          have HEn := Lib.hid (H2.out.1.trans (b9.mono H2.out.2))
          clear b9
          go_wp2_with fail
          go_ret
          exact ⟨rfl, HEn.out⟩
        · obtain rfl : j = i := by omega
          have hjj : ¬ (j : Int) < (j : Int) := by omega
          have dj : decide ((j : Int) < (j : Int)) = false := decide_eq_false hjj
          go_wp2_with fail
          refine (HAl.out _).mono ?_
          rintro _ w9 ⟨rfl, b9⟩
          have HEn := Lib.hid (H2.out.1.trans (b9.mono H2.out.2))
          clear b9
          go_wp2_with fail
          go_ret
          exact ⟨rfl, HEn.out⟩
set_option maxRecDepth 100000 in
set_option maxHeartbeats 16000000 in
theorem pairStays_111 (Ar A : Option Addr) (nr cr n0 c : Nat) (rs0 ks0 : List Int) (lv sos eos : Int) (h0 : 0 ≤ lv) (hlv : lv.tmod 2 = 1) (hs1 : (sos == 1) = true) (hs2 : (eos == 1) = true) (w : World) (hr0 : RdR w Ar nr rs0) (hk0 : RdK w A n0 ks0) (hnr : nr ≤ 1048576) (hn0 : n0 ≤ 1048576) (hcr : nr ≤ cr) (hnc : n0 ≤ c) :
    Calls Try.prog 6 #[.slice Ar nr cr, .slice A n0 c, .int .u8 lv, .int .i8 sos, .int .i8 eos] w fun e w' => e = .returned (.bool true) ∧ Below w.heap.size w w' := by
  have HSh := Lib.hid (short_any9 Ar A nr cr n0 c w hcr hnc)
  obtain ⟨n, hn⟩ : ∃ n, min nr n0 = n := ⟨_, rfl⟩
  rw [hn] at HSh
  have hr := hr0.take9 n (by omega)
  have hk := hk0.take9 n (by omega)
  have hrl := hr.len
  have hkl := hk.len
  obtain ⟨rs, hrs⟩ : ∃ rs, rs0.take n = rs := ⟨_, rfl⟩
  obtain ⟨ks, hks⟩ : ∃ ks, ks0.take n = ks := ⟨_, rfl⟩
  rw [hrs] at hr hrl
  rw [hks] at hk hkl
  obtain ⟨Q, hQ⟩ : ∃ Q, w.heap.size = Q := ⟨_, rfl⟩
  have HPb := Lib.hid (fun (W : World) (hb : Below Q w W) => presolve_any9 Ar A n cr n c rs ks lv sos eos W (hr.below (by rw [hQ]; exact hb)) (hk.below (by rw [hQ]; exact hb)) (by omega) (by omega) (by omega) h0)
  have HLl := Lib.hid (show (rsZ pairOf nsm9 rs ks lv sos eos).length = n by rw [rsZ_len, hrl, hkl, Nat.min_self])
  have HS := Lib.hid (fun (i : Nat) (k : Int) (hi : ks[i]? = some k) => stays_at hrl hkl lv sos eos hi)
  have HO := Lib.hid (fun h1 h2 ho (i : Nat) (v : Int) hi => stays_one (i := i) (v := v) hrl hkl lv sos eos h1 h2 ho hi)
  obtain ⟨L, hL⟩ : ∃ L, rsZ pairOf nsm9 rs ks lv sos eos = L := ⟨_, rfl⟩
  unfold NewAt at HPb
  rw [hL] at HPb HLl HS HO
  rw [Nat.min_self] at HPb
  have Hk := Lib.hid (show ∀ W, Below Q w W → RdK W A n ks from fun W hb => hk.below (by rw [hQ]; exact hb))
  have HAl := Lib.hid alive_any9
  have HQ := Lib.hid hQ
  have Hkl := Lib.hid hkl
  have hn20 : n ≤ 1048576 := by omega
  rw [hQ] at HSh ⊢
  clear hr0 hk0 hr hk hrl hkl hrs hks hL hQ hn hnr hn0
  go_enter Try.func6, Try.ntmps6
  go_wp2_with fail
  refine (HSh.out).mono ?_
  rintro _ w1 ⟨rfl, b1⟩
  have B1 := Lib.hid b1
  have hs1 : Q ≤ w1.heap.size := by have := b1.size; have := HQ.out; omega
  clear b1 HSh
  go_wp2_with fail
  refine (HPb.out w1 B1.out).mono ?_
  rintro _ w2 ⟨Al, cl, rfl, ol, b2⟩
  have H2 := Lib.hid (show Below Q w w2 ∧ Q ≤ w2.heap.size from ⟨B1.out.trans (b2.mono hs1), by have := b2.size; omega⟩)
  have HL := Lib.hid (RdK.own ol)
  have HK := Lib.hid (Hk.out w2 H2.out.1)
  have hnn0 : ((n : Int) != (n : Int)) = false := by simp
  clear ol b2 B1 hs1 HPb Hk
  have Hs := Lib.hid (show _ ∧ _ from ⟨hs1, hs2⟩)
  have hlb : (lv.tmod 2 == 1) = true := by simp [hlv]
  have hlb2 : (lv % 2 == 1) = true := by rw [← Int.tmod_eq_emod_of_nonneg h0]; exact hlb
  have HE := Lib.hid (show lvlZ lv = 1 by unfold lvlZ; rw [if_pos hlv])
  clear hlv
  go_wp2_with fail
  go_loopw [15, 16] (fun y x wr => wr = w2 ∧ ∃ i : Nat, y = .bool (endB 1 sos eos || otherZ 1 (ks.take i)) ∧ x = .int .i64 (i : Int) ∧ i ≤ n) (fun _ x _ => n - (RowKit.intOf x).toNat)
  case atStart => exact ⟨rfl, 0, by unfold endB; rw [Hs.out.1, Hs.out.2]; rfl, rfl, Nat.zero_le _⟩
  case round =>
    obtain ⟨hWW, i, rfl, rfl, hin⟩ := hrel
    subst hWW
    rcases Nat.lt_or_ge i n with hlt | hge
    · obtain ⟨k, hk⟩ : ∃ k, ks[i]? = some k := ⟨_, List.getElem?_eq_getElem (by rw [Hkl.out]; exact hlt)⟩
      have hst := other_step 1 ks hk
      have hS := HS.out i k hk
      obtain ⟨ak, hA, _, _, kc⟩ := HK.out.get hk
      subst hA
      obtain ⟨cc, hcc⟩ : ∃ cc, (endB 1 sos eos || otherZ 1 (ks.take i)) = cc := ⟨_, rfl⟩
      have HN := Lib.hid (show (endB 1 sos eos || otherZ 1 (ks.take (i + 1))) = (cc || (!neuZ k && wayZ k != 1)) by rw [hst, ← Bool.or_assoc, hcc])
      rw [hcc]
      have hini : (i : Int) < (n : Int) := by omega
      have hnext : IntKind.i64.wrap ((i : Int) + 1) = (i : Int) + 1 := IntWalk.i64_in _ (by omega)
      by_cases hne : neuZ k = true
      · obtain ⟨v, hv, hLv⟩ := hS.2 hne
        obtain ⟨al, hA, _, _, lc⟩ := HL.out.get hLv
        subst hA
        have k0 : (k == 0) = false := by cases e : (k == 0) with | false => rfl | true => (have := beq_iff_eq.1 e; subst this; cases hne)
        have k1 : (k == 1) = false := by cases e : (k == 1) with | false => rfl | true => (have := beq_iff_eq.1 e; subst this; cases hne)
        have k2 : (k == 2) = false := by cases e : (k == 2) with | false => rfl | true => (have := beq_iff_eq.1 e; subst this; cases hne)
        have k3 : (k == 3) = false := by cases e : (k == 3) with | false => rfl | true => (have := beq_iff_eq.1 e; subst this; cases hne)
        have k6 : (k == 6) = false := by cases e : (k == 6) with | false => rfl | true => (have := beq_iff_eq.1 e; subst this; cases hne)
        have HNN := Lib.hid (show (endB 1 sos eos || otherZ 1 (ks.take (i + 1))) = cc by rw [HN.out, hne]; simp)
        clear hk hst hS hcc HN hne hLv
        rcases hv with rfl | rfl
        · go_wp2_with fail
          go_roundw
          case rel => exact ⟨trivial, i + 1, by rw [HNN.out], by first | rfl | go_num, hlt⟩
          case measure => simp [RowKit.intOf]; omega
        · go_wp2_with fail
          go_roundw
          case rel => exact ⟨trivial, i + 1, by rw [HNN.out], by first | rfl | go_num, hlt⟩
          case measure => simp [RowKit.intOf]; omega
      · have hnf : neuZ k = false := by simpa using hne
        have hLv := hS.1 hnf
        obtain ⟨al, hA, _, _, lc⟩ := HL.out.get hLv
        subst hA
        have hkk := neu_not hnf
        clear hk hst hS hcc hne hLv hnf
        rcases hkk with rfl | rfl | rfl | rfl | rfl
        all_goals (
          have lc9 := lc
          simp only [cn9] at lc9
          rcases cc with _ | _
          all_goals (
            have HNN := Lib.hid HN.out
            clear HN
            go_wp2_with fail
            go_roundw
            case rel => exact ⟨trivial, i + 1, by rw [HNN.out]; rfl, by first | rfl | go_num, hlt⟩
            case measure => simp [RowKit.intOf]; omega))
    · obtain rfl : i = n := by omega
      have hnn : ¬ (i : Int) < (i : Int) := by omega
      obtain ⟨cc, hcc⟩ : ∃ cc, (endB 1 sos eos || otherZ 1 (ks.take i)) = cc := ⟨_, rfl⟩
      rw [hcc]
      have hks : ks.take i = ks := by rw [← Hkl.out]; exact List.take_length
      rw [hks] at hcc
      have Hcc := Lib.hid hcc
      clear hin hge hcc hks
      obtain ⟨wr9, hwr9⟩ : ∃ wr9, wr = wr9 := ⟨_, rfl⟩
      subst hwr9
      go_wp2_with fail
      go_loopw [18] (fun x wr' => wr' = wr ∧ ∃ j : Nat, x = .int .i64 (j : Int) ∧ j ≤ i) (fun x _ => i - (RowKit.intOf x).toNat)
      case atStart => exact ⟨rfl, 0, rfl, Nat.zero_le _⟩
      case round =>
        obtain ⟨hWW, j, rfl, hji⟩ := hrel
        subst hWW
        rcases Nat.lt_or_ge j i with hlt | hge
        · have hjni : (j : Int) < (i : Int) := by omega
          have dj : decide ((j : Int) < (i : Int)) = true := decide_eq_true hjni
          have dj2 : decide (j < i) = true := decide_eq_true hlt
          rcases cc with _ | _
          · have hb := Bool.or_eq_false_iff.1 Hcc.out
            have hsd := endB_no (.inr rfl) hb.1
            obtain ⟨v, hv⟩ : ∃ v, L[j]? = some v := ⟨_, List.getElem?_eq_getElem (by rw [HLl.out]; exact hlt)⟩
            have hone := HO.out (by rw [HE.out]; exact hsd.1) (by rw [HE.out]; exact hsd.2) (by rw [HE.out]; exact hb.2) j v hv
            rw [HE.out] at hone
            obtain ⟨al, hA, _, _, lc⟩ := HL.out.get hv
            subst hA
            have hnx : IntKind.i64.wrap ((j : Int) + 1) = (j : Int) + 1 := IntWalk.i64_in _ (by omega)
            clear hb hsd hv
            rcases hone with rfl | rfl | rfl
            all_goals (
              go_wp2_with fail
              go_roundw
              case rel => exact ⟨trivial, j + 1, by first | rfl | go_num, hlt⟩
              case measure => simp [RowKit.intOf]; omega)
          · go_wp2_with fail
            refine (HAl.out _).mono ?_
            rintro _ w9 ⟨rfl, b9⟩
            have HEn := Lib.hid (H2.out.1.trans (b9.mono H2.out.2))
            clear b9
            go_wp2_with fail
            go_ret
            exact ⟨rfl, HEn.out⟩
        · obtain rfl : j = i := by omega
          have hjj : ¬ (j : Int) < (j : Int) := by omega
          have dj : decide ((j : Int) < (j : Int)) = false := decide_eq_false hjj
          go_wp2_with fail
          refine (HAl.out _).mono ?_
          rintro _ w9 ⟨rfl, b9⟩
          have HEn := Lib.hid (H2.out.1.trans (b9.mono H2.out.2))
          clear b9
          go_wp2_with fail
          go_ret
          exact ⟨rfl, HEn.out⟩
end Go.Proofs.Ytkcckophnamajaa
