/- Layer 9, the program: direction, side, ofLevel, counted, settleStretch. -/
import Derived.Test.YtkcckophnamajaaRd9
import Derived.Test.YtkcckophnamajaaPureG
import Derived.Laws.MakeOwn
import Derived.Deep.WholeRow
set_option linter.unusedSimpArgs false
set_option linter.unusedVariables false
namespace Go.Proofs.Ytkcckophnamajaa
open Go.RowKit Go.Lib

theorem direction_any9 (k : Int) (w : World) : Calls Try.prog 45 #[.int .i8 k] w fun e w' => e = .returned (.int .i8 (wayZ k)) ∧ w' = w := by
  by_cases h : k = 0
  · subst h
    go_enter Try.func45, Try.ntmps45
    go_wp2
    go_ret
    exact ⟨rfl, rfl⟩
  · have hb : (k == 0) = false := by simpa using h
    have hs : wayZ k = 1 := by unfold wayZ; rw [if_neg h]
    rw [hs]
    go_enter Try.func45, Try.ntmps45
    go_wp2
    go_ret
    exact ⟨rfl, rfl⟩
theorem pside_any9 (k : Int) (w : World) : Calls Try.prog 30 #[.int .i8 k] w fun e w' => e = .returned (.int .i8 (sidZ k)) ∧ w' = w := by
  by_cases h : k = 1
  · subst h
    go_enter Try.func30, Try.ntmps30
    go_wp2
    go_ret
    exact ⟨rfl, rfl⟩
  · have hb : (k == 1) = false := by simpa using h
    have hs : sidZ k = 0 := by unfold sidZ; rw [if_neg h]
    rw [hs]
    go_enter Try.func30, Try.ntmps30
    go_wp2
    go_ret
    exact ⟨rfl, rfl⟩
theorem ofLevel_any9 (lv : Int) (h0 : 0 ≤ lv) (w : World) : Calls Try.prog 29 #[.int .u8 lv] w fun e w' => e = .returned (.int .i8 (lvlZ lv)) ∧ w' = w := by
  have hm : lv.tmod 2 = 0 ∨ lv.tmod 2 = 1 := by
    have h1 := Int.tmod_nonneg (a := lv) 2 h0
    have h2 := Int.tmod_lt_of_pos lv (show (0 : Int) < 2 by omega)
    omega
  rcases hm with h | h
  · have hb : (lv.tmod 2 == 0) = true := by simpa using h
    have hs : lvlZ lv = 0 := by unfold lvlZ; rw [if_neg (by omega)]
    rw [hs]
    go_enter Try.func29, Try.ntmps29
    go_wp2
    go_ret
    exact ⟨rfl, rfl⟩
  · have hb : (lv.tmod 2 == 0) = false := by simp [h]
    have hs : lvlZ lv = 1 := by unfold lvlZ; rw [if_pos h]
    rw [hs]
    go_enter Try.func29, Try.ntmps29
    go_wp2
    go_ret
    exact ⟨rfl, rfl⟩
set_option maxRecDepth 100000 in
set_option maxHeartbeats 2000000 in
theorem counted_any9 (A : Option Addr) (n c : Nat) (zs : List Int) (w : World) (hrd : RdK w A n zs) (hn : n ≤ 140737488355328) :
    Calls Try.prog 28 #[.slice A n c] w fun e w' => e = .returned (.slice (some ⟨w.heap.size, 0, none⟩) n n) ∧ w'.ownsRow w.heap.size 33 1 (.slice (some ⟨w.heap.size, 0, none⟩) n n) n (i8s (zs.map cntK)) ∧ Below w.heap.size w w' := by
  obtain ⟨i0, hi, hz0, hz1, hz2⟩ := info_parts i8_info
  have hzl : zs.length = n := hrd.len
  obtain ⟨W0, hrun, hown0, hg0⟩ := run_make_full (P := Try.prog) w w.heap.size 23 33 i0 _ 1 Try.underlying23 hi hz0 hz1 .i64 .i64 n (by rw [hz2]; omega) (by unfold maxLen; omega) (Nat.le_refl _)
  have hz : (madeCells (Value.int .i8 0).cells (n * 1)).toList = i8s (List.replicate n 0) := by
    rw [Nat.mul_one]
    show (madeCells #[Value.int .i8 0] n).toList = _
    rw [toList_madeCells_one]
    simp [i8s]
  rw [hz] at hown0
  clear hz
  obtain ⟨Q, hQ⟩ : ∃ Q, w.heap.size = Q := ⟨_, rfl⟩
  have hrd0 : Rd w Q 1 A n (i8s zs) := by rw [← hQ]; exact hrd
  rw [hQ] at hrun hown0 ⊢
  have hb0 : Below Q w W0 := (Below.refl Q w).grown hg0 (by omega) (fun k hk => by cases hk)
  have HRd := Lib.hid hrd0
  have H0 := Lib.hid (show _ ∧ _ from ⟨hown0, hb0⟩)
  have HQ := Lib.hid hQ
  clear hrd hrd0 hown0 hg0 hb0 hQ
  go_enter Try.func28, Try.ntmps28
  go_wp2
  go_loopw [11] (fun x wr => ∃ (p t : List Int) (W : World), W = wr ∧ Hid (zs = p ++ t) ∧ x = .int .i64 (p.length : Int) ∧ Hid (W.ownsRow Q 33 1 (.slice (some ⟨Q, 0, none⟩) n n) n (i8s (p.map cntK ++ List.replicate t.length 0)) ∧ Below Q w W)) (fun x _ => n - (RowKit.intOf x).toNat)
  case atStart => exact ⟨[], zs, _, rfl, Lib.hid rfl, rfl, Lib.hid ⟨by rw [hzl]; exact H0.out.1, H0.out.2⟩⟩
  case round =>
    obtain ⟨p, t, W, hW, hx, rfl, HW⟩ := hrel
    subst hW
    have hlen := congrArg List.length hx.out
    rw [hzl, List.length_append] at hlen
    rcases t with _ | ⟨k, t⟩
    · have hpl : p.length = n := by simpa using hlen.symm
      rw [hpl]
      have hnn : ¬ (n : Int) < (n : Int) := by omega
      clear hlen
      go_wp2
      go_ret
      refine ⟨rfl, ?_, HW.out.2⟩
      have h1 := HW.out.1
      have h2 := hx.out
      rw [List.append_nil] at h2
      rw [h2]
      simpa using h1
    · obtain ⟨h1, h2⟩ := HW.out
      rw [List.length_cons, List.replicate_succ] at h1
      obtain ⟨g, hA, hin, _, hcm, hcell0, hfz, hset⟩ := row_at h1
      injection hA with hA
      injection hA with hA
      subst hA
      rw [List.length_map] at hin hcell0 hfz hset
      have hrd' := HRd.out.below h2
      rw [hx.out] at hrd'
      obtain ⟨a, hA, _, hcell⟩ := hrd'.addr (by omega)
      subst hA
      have hcell := hcell p.length (.int .i8 k) (by simp)
      have hnext := i64_next hin (Nat.le_refl _) hcm
      have hini : (p.length : Int) < (n : Int) := by omega
      have hsnoc := snoc_len p k
      have Hset := Lib.hid (fun v => show _ ∧ _ from ⟨(hset v).1, h2.setCell (p := ⟨Q, p.length, none⟩) (Nat.le_refl _) (.int .i8 v)⟩)
      have Hx := Lib.hid (show zs = (p ++ [k]) ++ t by rw [hx.out]; simp)
      have Hc := Lib.hid (fun v (e : cntK k = v) => show (p ++ [k]).map cntK ++ List.replicate t.length 0 = p.map cntK ++ v :: List.replicate t.length 0 by simp [e])
      obtain ⟨q, hq⟩ : ∃ q, p ++ [k] = q := ⟨_, rfl⟩
      obtain ⟨i, hi'⟩ : ∃ i, p.length = i := ⟨_, rfl⟩
      rw [hq, hi'] at hsnoc
      rw [hq] at Hx Hc
      rw [hi'] at hin hcell hcell0 hfz Hset hnext hini ⊢
      clear hx hset h1 h2 HW hlen hq hi' hrd'
      by_cases k0 : k = 0
      · subst k0
        have HC := Hc.out 0 rfl
        have HS := Hset.out 0
        rw [← HC] at HS
        have HS := Lib.hid HS
        clear HC Hc Hset
        go_wp2
        go_roundw
        case rel => exact ⟨q, t, _, rfl, Hx, by rw [hsnoc], HS⟩
        case measure => simp [RowKit.intOf]; omega
      have b0 : (k == 0) = false := by simpa using k0
      by_cases k1 : k = 1
      · subst k1
        have HC := Hc.out 1 rfl
        have HS := Hset.out 1
        rw [← HC] at HS
        have HS := Lib.hid HS
        clear HC Hc Hset
        go_wp2
        go_roundw
        case rel => exact ⟨q, t, _, rfl, Hx, by rw [hsnoc], HS⟩
        case measure => simp [RowKit.intOf]; omega
      have b1 : (k == 1) = false := by simpa using k1
      by_cases k3 : k = 3
      · subst k3
        have HC := Hc.out 3 rfl
        have HS := Hset.out 3
        rw [← HC] at HS
        have HS := Lib.hid HS
        clear HC Hc Hset
        go_wp2
        go_roundw
        case rel => exact ⟨q, t, _, rfl, Hx, by rw [hsnoc], HS⟩
        case measure => simp [RowKit.intOf]; omega
      have b3 : (k == 3) = false := by simpa using k3
      by_cases k6 : k = 6
      · subst k6
        have HC := Hc.out 6 rfl
        have HS := Hset.out 6
        rw [← HC] at HS
        have HS := Lib.hid HS
        clear HC Hc Hset
        go_wp2
        go_roundw
        case rel => exact ⟨q, t, _, rfl, Hx, by rw [hsnoc], HS⟩
        case measure => simp [RowKit.intOf]; omega
      have b6 : (k == 6) = false := by simpa using k6
      by_cases k2 : k = 2
      · subst k2
        have HC := Hc.out 1 rfl
        have HS := Hset.out 1
        rw [← HC] at HS
        have HS := Lib.hid HS
        clear HC Hc Hset
        go_wp2
        go_roundw
        case rel => exact ⟨q, t, _, rfl, Hx, by rw [hsnoc], HS⟩
        case measure => simp [RowKit.intOf]; omega
      have b2 : (k == 2) = false := by simpa using k2
      have HC := Hc.out 13 (by unfold cntK; rw [if_neg (by omega), if_neg k2])
      have HS := Hset.out 13
      rw [← HC] at HS
      have HS := Lib.hid HS
      clear HC Hc Hset k0 k1 k3 k6 k2
      go_wp2
      go_roundw
      case rel => exact ⟨q, t, _, rfl, Hx, by rw [hsnoc], HS⟩
      case measure => simp [RowKit.intOf]; omega

set_option maxRecDepth 100000 in
set_option maxHeartbeats 2000000 in
theorem stretch_any9 (B g c n f m c' : Nat) (p M t : List Int) (a b l : Int) (w : World) (h : w.ownsRow B 33 1 (.slice (some ⟨g, 0, none⟩) n c) n (i8s (p ++ (M ++ t)))) (hf : p.length = f) (hm : M.length = m) (hmc : m ≤ 140737488355328) :
    Calls Try.prog 47 #[.slice (some ⟨g, f, none⟩) m c', .int .i8 a, .int .i8 b, .int .i8 l] w fun e w' => e = .returned (.tuple #[]) ∧ w'.ownsRow B 33 1 (.slice (some ⟨g, 0, none⟩) n c) n (i8s (p ++ (List.replicate m (if a = b then a else l) ++ t))) ∧ w.grownBy w' (some g) := by
  have loop : ∀ v : Int, ∀ _ : (if a = b then a else l) = v, True := fun _ _ => trivial
  clear loop
  obtain ⟨v, hv⟩ : ∃ v, (if a = b then a else l) = v := ⟨_, rfl⟩
  rw [hv]
  have H0 := Lib.hid (show w.ownsRow B 33 1 (.slice (some ⟨g, 0, none⟩) n c) n (i8s (p ++ (M ++ t))) ∧ w.grownBy w (some g) from ⟨h, World.grownBy.refl _ _⟩)
  have Hf := Lib.hid hf
  have Hm := Lib.hid hm
  clear h hf hm
  by_cases hab : a = b
  · subst hab
    rw [if_pos rfl] at hv
    subst hv
    have hb : (a == a) = true := by simp
    go_enter Try.func47, Try.ntmps47
    go_wp2_with fail
    go_loopw [17] (fun x wr => ∃ (j : Nat) (T : List Int) (W : World), W = wr ∧ x = .int .i64 (j : Int) ∧ j + T.length = m ∧ Hid (W.ownsRow B 33 1 (.slice (some ⟨g, 0, none⟩) n c) n (i8s (p ++ (List.replicate j a ++ (T ++ t)))) ∧ w.grownBy W (some g))) (fun x _ => m - (RowKit.intOf x).toNat)
    case atStart => exact ⟨0, M, _, rfl, rfl, by rw [Hm.out, Nat.zero_add], H0⟩
    case round =>
      obtain ⟨j, T, W, hW, rfl, hjT, HW⟩ := hrel
      subst hW
      rcases T with _ | ⟨k, T⟩
      · have hq : j = m := by simpa using hjT
        subst hq
        have hnn : ¬ (j : Int) < (j : Int) := by omega
        clear hjT
        go_wp2_with fail
        go_end0
        exact ⟨rfl, by simpa [i8s] using HW.out.1, HW.out.2⟩
      · rw [List.length_cons] at hjT
        obtain ⟨h1, h2⟩ := HW.out
        have e1 : p ++ (List.replicate j a ++ ((k :: T) ++ t)) = (p ++ List.replicate j a) ++ k :: (T ++ t) := by simp
        rw [e1] at h1
        obtain ⟨g', hA, hin, hnc, hcm, hcell, hfz, hset⟩ := row_at h1
        injection hA with hA
        injection hA with hA
        subst hA
        have e2 : (p ++ List.replicate j a).length = f + j := by have := Hf.out; simp; omega
        rw [e2] at hin hcell hfz hset
        have HS := Lib.hid (show (W.setCell ⟨g, f + j, none⟩ (.int .i8 a)).ownsRow B 33 1 (.slice (some ⟨g, 0, none⟩) n c) n (i8s (p ++ (List.replicate (j + 1) a ++ (T ++ t)))) ∧ w.grownBy (W.setCell ⟨g, f + j, none⟩ (.int .i8 a)) (some g) from by
          refine ⟨?_, h2.trans (hset a).2⟩
          have := (hset a).1
          rw [show p ++ (List.replicate (j + 1) a ++ (T ++ t)) = (p ++ List.replicate j a) ++ a :: (T ++ t) by rw [List.replicate_succ']; simp]
          exact this)
        have hjm : (j : Int) < (m : Int) := by omega
        have hnext : IntKind.i64.wrap ((j : Int) + 1) = (j : Int) + 1 := IntWalk.i64_in _ (by omega)
        clear h1 h2 hset e1 e2 HW
        go_wp2_with fail
        go_roundw
        case rel => exact ⟨j + 1, T, _, rfl, by first | rfl | go_num, by omega, HS⟩
        case measure => simp [RowKit.intOf]; omega
  · rw [if_neg hab] at hv
    subst hv
    have hb : (a == b) = false := by simpa using hab
    clear hab
    go_enter Try.func47, Try.ntmps47
    go_wp2_with fail
    go_loopw [17] (fun x wr => ∃ (j : Nat) (T : List Int) (W : World), W = wr ∧ x = .int .i64 (j : Int) ∧ j + T.length = m ∧ Hid (W.ownsRow B 33 1 (.slice (some ⟨g, 0, none⟩) n c) n (i8s (p ++ (List.replicate j l ++ (T ++ t)))) ∧ w.grownBy W (some g))) (fun x _ => m - (RowKit.intOf x).toNat)
    case atStart => exact ⟨0, M, _, rfl, rfl, by rw [Hm.out, Nat.zero_add], H0⟩
    case round =>
      obtain ⟨j, T, W, hW, rfl, hjT, HW⟩ := hrel
      subst hW
      rcases T with _ | ⟨k, T⟩
      · have hq : j = m := by simpa using hjT
        subst hq
        have hnn : ¬ (j : Int) < (j : Int) := by omega
        clear hjT
        go_wp2_with fail
        go_end0
        exact ⟨rfl, by simpa [i8s] using HW.out.1, HW.out.2⟩
      · rw [List.length_cons] at hjT
        obtain ⟨h1, h2⟩ := HW.out
        have e1 : p ++ (List.replicate j l ++ ((k :: T) ++ t)) = (p ++ List.replicate j l) ++ k :: (T ++ t) := by simp
        rw [e1] at h1
        obtain ⟨g', hA, hin, hnc, hcm, hcell, hfz, hset⟩ := row_at h1
        injection hA with hA
        injection hA with hA
        subst hA
        have e2 : (p ++ List.replicate j l).length = f + j := by have := Hf.out; simp; omega
        rw [e2] at hin hcell hfz hset
        have HS := Lib.hid (show (W.setCell ⟨g, f + j, none⟩ (.int .i8 l)).ownsRow B 33 1 (.slice (some ⟨g, 0, none⟩) n c) n (i8s (p ++ (List.replicate (j + 1) l ++ (T ++ t)))) ∧ w.grownBy (W.setCell ⟨g, f + j, none⟩ (.int .i8 l)) (some g) from by
          refine ⟨?_, h2.trans (hset l).2⟩
          have := (hset l).1
          rw [show p ++ (List.replicate (j + 1) l ++ (T ++ t)) = (p ++ List.replicate j l) ++ l :: (T ++ t) by rw [List.replicate_succ']; simp]
          exact this)
        have hjm : (j : Int) < (m : Int) := by omega
        have hnext : IntKind.i64.wrap ((j : Int) + 1) = (j : Int) + 1 := IntWalk.i64_in _ (by omega)
        clear h1 h2 hset e1 e2 HW
        go_wp2_with fail
        go_roundw
        case rel => exact ⟨j + 1, T, _, rfl, by first | rfl | go_num, by omega, HS⟩
        case measure => simp [RowKit.intOf]; omega
end Go.Proofs.Ytkcckophnamajaa
