/- NormPairs, walked. -/
import Derived.Test.YtfegbfhkmdmheaaDoorPurePO
import Derived.Test.YtfegbfhkmdmheaaDoorWakes4
set_option linter.unusedSimpArgs false
set_option linter.unusedVariables false
namespace Go.Proofs.YtfegbfhkmdmheaaDoor
open Go.RowKit Go.Lib

theorem below_Dp {B : Nat} {w w' : World} (h : Below B w w') : Below B w w'.drew := ⟨h.os, h.tape, h.output, h.size, h.block⟩
theorem ownNil {w : World} {base : Nat} {e : TypeId} {size n c : Nat} {A : Option Addr} {xs : List Value} (h : w.ownsRow base e size (.slice A n c) n xs) (hA : A = none) : c = 0 := by
  subst hA
  rcases h.2 with ⟨h1, _⟩ | ⟨g, cap, cur, h1, _⟩
  · injection h1
  · injection h1 with h2; cases h2
theorem Rd_cell {w : World} {B n : Nat} {A : Option Addr} {xs : List Int} (h : Rd w B 1 A n (runes xs)) {k : Nat} {x : Int} (hx : xs[k]? = some x) : ∃ a, A = some a ∧ a.block < B ∧ w.cell? (a.add k) = some (.int .i32 x) := by
  have hk : k < (runes xs).length := by simpa using (List.getElem?_eq_some_iff.1 hx).1
  obtain ⟨a, ha, hb, hc⟩ := h.at_ hk
  refine ⟨a, ha, hb, ?_⟩
  rw [hc]
  have := (List.getElem?_eq_some_iff.1 hx).2
  simp [this]

set_option maxRecDepth 100000 in
set_option maxHeartbeats 8000000 in
theorem normPairs_any (a b : Int) (xs : List Int) (A : Option Addr) (n c : Nat) (w : World) (ha : -2147483648 ≤ a ∧ a ≤ 2147483647) (hb : -2147483648 ≤ b ∧ b ≤ 2147483647) (hrd : Rd w w.heap.size 1 A n (runes xs)) (hnil : A = none → c = 0) (hn : n ≤ 35184372087808) (hT : Utf8Tabs 0 1 w) :
    Calls Tryd.prog 4 #[.int .i32 a, .int .i32 b, .slice A n c] w fun e w' => e = .returned (.bool true) ∧ Below w.heap.size w w' := by
  obtain ⟨i0, hi, hz0, hz1, hz2⟩ := info_parts runeN_info
  have HP := Lib.hid (PairN_any a b w ha hb)
  have hsp := pair_split a b
  have HSa := Lib.hid (fun w => SplitN_any a w)
  obtain ⟨p, hp⟩ : ∃ p, pairZ a b = p := ⟨_, rfl⟩
  rw [hp] at HP hsp
  have HSp := Lib.hid (fun (h : p ≠ 0) w => by have h1 := SplitN_any p w; rw [hsp h] at h1; exact h1)
  have hzl := splitF_len 3 a
  obtain ⟨zs, hzs⟩ : ∃ zs, splitZ a = zs := ⟨_, rfl⟩
  have hzl : zs.length ≤ 4 := by rw [← hzs]; exact hzl
  rw [hzs] at HSa
  simp only [hzs] at HSp
  have hxl : xs.length = n := by have := hrd.1; simpa using this
  obtain ⟨ys, hys⟩ : ∃ ys, ordZ markZ xs = ys := ⟨_, rfl⟩
  have hyl : ys.length = n := by
    have := ordR_len markZ xs [] (fun _ h => by cases h) (fun x _ => markZ_lt x)
    rw [← hys]
    unfold ordZ
    rw [this, hxl]
    simp
  have HO := Lib.hid (fun w' h => by have h1 := Order_any xs A n c w' h hnil hn; rw [hys] at h1; exact h1)
  have HO2 := Lib.hid (fun A n c w' h h2 h3 => by have h1 := Order_any ys A n c w' h h2 h3; rw [show ordZ markZ ys = ys by rw [← hys]; exact ord_twice markZ xs] at h1; exact h1)
  have Hstay := Lib.hid (fun k x y (h1 : xs[k]? = some x) (h2 : ys[k]? = some y) => ord_stay markZ markZ_lt xs k x y h1 (by rw [hys]; exact h2))
  have Hcnt := Lib.hid (fun r => show ys.count r = xs.count r by rw [← hys]; exact ord_count markZ markZ_lt r xs)
  have Hrd := Lib.hid hrd
  have HT := Lib.hid hT
  have Hxl := Lib.hid hxl
  have Hyl := Lib.hid hyl
  have hnn : ((n : Int) != (n : Int)) = false := by simp
  clear hp hsp hzs hrd hT hxl hyl hys ha hb
  go_enter Tryd.func4, Tryd.ntmps4
  go_wp2_with fail
  refine HP.out.mono ?_
  rintro _ w1 ⟨rfl, b1⟩
  have Hb1 := Lib.hid b1
  clear b1
  by_cases hp0 : p = 0
  case' pos =>
    subst hp0
    obtain ⟨w6, hw6⟩ : ∃ w6, w6 = w1 := ⟨_, rfl⟩
    subst hw6
    have Hb6 := Lib.hid Hb1.out
    clear Hb1 HSp HSa
    go_wp2_with fail
  case' neg =>
    have hpn : (p != 0) = true := by simp [hp0]
    have HSq := Lib.hid (HSp.out hp0)
    clear HSp hp0
    go_wp2_with fail
    refine (HSq.out _).mono ?_
    rintro _ w2 ⟨v2, rfl, hown2, b2⟩
    obtain ⟨A2, c2, rfl, _, _⟩ := own_shape hown2
    have hr2 := Rd.own hown2
    have Hb2 := Lib.hid (Hb1.out.trans (b2.mono Hb1.out.size))
    rw [List.length_append] at hr2
    have Hr2 := Lib.hid hr2
    clear hown2 b2 hr2
    go_wp2_with fail
    refine (HSa.out _).mono ?_
    rintro _ w3 ⟨v3, rfl, hown3, b3⟩
    obtain ⟨A3, c3, rfl, _, _⟩ := own_shape hown3
    have Hown3 := Lib.hid hown3
    have Hr3 := Lib.hid (Hr2.out.below b3)
    have Hb3 := Lib.hid (Hb2.out.trans (b3.mono Hb2.out.size))
    have hs3 := b3.size
    have hs2 := Hb2.out.size
    clear hown3
    go_wp2_with (at_builtin; refine wpList_append_own_at _ rfl _ _ 36 rfl w2.heap.size 21 i0 _ 1 4 Tryd.underlying36 hi hz0 hz1 hz2 rfl (by decide) _ _ _ rfl (Hown3.out.alloc _) ⟨w3.heap.size, 0, none⟩ 1 1 [.int .i32 b] rfl rfl ?c1 ?c2 ?c3 ?c4 ?c5 ?_)
    try (case c1 => exact new_cells w3 [.int .i32 b] 21)
    case c2 => simp [Value.oneCell']
    case c3 => unfold maxLen; omega
    case c4 => omega
    case c5 => simp; omega
    intro v' w4 hown4 hg4 _ _
    obtain ⟨A4, c4, rfl, _, _⟩ := own_shape hown4
    have hb24 : Below w2.heap.size w2 w4 := (b3.alloc hs3 _).grown hg4 (by rw [World.size_alloc]; omega) (fun k hk => (Hown3.out.lt k hk).1)
    have hr4 := Rd.own hown4
    rw [show runes zs ++ [Value.int .i32 b] = runes (zs ++ [b]) by simp [runes]] at hr4
    have HQ := Lib.hid (by have h := same04_any w4 _ _ _ _ _ _ c2 c4 (zs ++ [b]) (zs ++ [b]) (Hr2.out.below hb24) hr4 (by unfold maxLen; simp; omega); rw [decide_eq_true (rfl : zs ++ [b] = zs ++ [b])] at h; exact h)
    have Hb4 := Lib.hid (Hb2.out.trans (hb24.mono hs2))
    clear hown4 hg4 hb24 hr4 b3 Hr3
    go_wp2_with fail
    refine HQ.out.mono ?_
    rintro _ w6 ⟨rfl, b6⟩
    have Hb6 := Lib.hid (Hb4.out.trans (b6.mono Hb4.out.size))
    clear b6
    go_wp2_with fail
  all_goals
    have HO6 := Lib.hid (HO.out w6 ((Hrd.out.below Hb6.out).more Hb6.out.size))
    refine HO6.out.mono ?_
    rintro _ w7 ⟨A7, c7, rfl, own7, b7⟩
    have Hr7 := Lib.hid (Rd.own own7)
    have HO7 := Lib.hid (HO2.out A7 n c7 w7 Hr7.out (ownNil own7) hn)
    have Hb7 := Lib.hid (Hb6.out.trans (b7.mono Hb6.out.size))
    clear own7 b7
    go_wp2_with fail
    refine HO7.out.mono ?_
    rintro _ w8 ⟨A8, c8, rfl, own8, b8⟩
    have Hr78 := Lib.hid (Hr7.out.below b8)
    have HQ8 := Lib.hid (by have h := same04_any w8 _ _ A8 A7 n n c8 c7 ys ys (Rd.own own8) Hr78.out (by unfold maxLen; omega); rw [decide_eq_true (rfl : ys = ys)] at h; exact h)
    have Hb8 := Lib.hid (Hb7.out.trans (b8.mono Hb7.out.size))
    have hs8 := b8.size
    clear own8 b8
    go_wp2_with fail
    refine HQ8.out.mono ?_
    rintro _ w9 ⟨rfl, b9⟩
    have Hr9 := Lib.hid ((Hr78.out.below (b9.mono hs8)).more (Nat.le_trans hs8 b9.size))
    have Hb9 := Lib.hid (Hb8.out.trans (b9.mono Hb8.out.size))
    have Hl9 := Lib.hid ((Hrd.out.below Hb9.out).more Hb9.out.size)
    clear b9 hs8 Hr78 Hr7 Hb6 Hb7 Hb8 HQ8 HO7 HO6 HO HO2
    go_wp2_with fail
    go_loopw [11] (fun i wr => ∃ k : Nat, k ≤ n ∧ i = .int .i64 k ∧ Hid (Below w9.heap.size w9 wr)) (fun i _ => n - (RowKit.intOf i).toNat)
    case atStart => exact ⟨0, Nat.zero_le _, rfl, Lib.hid (Below.refl _ _)⟩
    case round =>
      obtain ⟨k, hk, rfl, Hbr⟩ := hrel
      by_cases hkn : k < n
      · obtain ⟨x, hx⟩ : ∃ x, xs[k]? = some x := ⟨_, List.getElem?_eq_getElem (by rw [Hxl.out]; exact hkn)⟩
        obtain ⟨y, hy⟩ : ∃ y, ys[k]? = some y := ⟨_, List.getElem?_eq_getElem (by rw [Hyl.out]; exact hkn)⟩
        obtain ⟨a1, rfl, hab1, hc1⟩ := Rd_cell Hl9.out hx
        obtain ⟨a2, rfl, hab2, hc2⟩ := Rd_cell Hr9.out hy
        have HC := Lib.hid (fun (W : World) (h : Below w9.heap.size w9 W) => show W.cell? (a1.add k) = some (.int .i32 x) ∧ W.cell? (a2.add k) = some (.int .i32 y) from ⟨(h.cell (by rw [add_block]; exact hab1)).trans hc1, (h.cell (by rw [add_block]; exact hab2)).trans hc2⟩)
        have hst := Hstay.out k x y hx hy
        have BR := Lib.hid (below_Dp Hbr.out)
        have PR := Lib.hid (HC.out _ BR.out)
        obtain ⟨mx, hmx⟩ : ∃ m, markZ x = m := ⟨_, rfl⟩
        obtain ⟨my, hmy⟩ : ∃ m, markZ y = m := ⟨_, rfl⟩
        have HMx := Lib.hid (fun W => by have h := Mark_any x W; rw [show cls marksL (char x) = mx from hmx] at h; exact h)
        have HMy := Lib.hid (fun W => by have h := Mark_any y W; rw [show cls marksL (char y) = my from hmy] at h; exact h)
        have HTl := Lib.hid (fun (W : World) (h : Below w9.heap.size w9 W) => times_any W _ _ n c x xs (Hl9.out.below h) (by unfold maxLen; omega))
        have HTm := Lib.hid (fun (W : World) (h : Below w9.heap.size w9 W) => by have h1 := times_any W _ _ n c7 x ys (Hr9.out.below h) (by unfold maxLen; omega); rw [Hcnt.out x] at h1; exact h1)
        obtain ⟨q, hq⟩ : ∃ q, xs.count x = q := ⟨_, rfl⟩
        rw [hq] at HTl HTm
        have hqq : ((q : Int) != (q : Int)) = false := by simp
        rw [hmx, hmy] at hst
        have hz1 : wr.drew.cell? (a1.add k) = some (.int .i32 x) := PR.out.1
        clear hx hy hc1 hc2 hab1 hab2 hmx hmy hq
        by_cases h0 : mx = 0
        · obtain rfl : y = x := hst.1 h0
          obtain rfl : my = 0 := hst.2.1 h0
          subst h0
          have hxx : (y != y) = false := by simp
          clear hst
          go_wp2_with fail
          have tok1 : True := trivial
          have tok2 : True := trivial
          have tok3 : True := trivial
          have tok4 : True := trivial
          have tok5 : True := trivial
          go_region_held3 (fun W' => W'.cell? (a1.add k) = some (.int .i32 y) ∧ W'.cell? (a2.add k) = some (.int .i32 y))
              (first | exact PR.out | exact Pa.out | exact Pb.out | exact Pc.out | exact Pd.out | exact Pe.out)
              (first
                | (have _t := tok1; clear tok1; go_at_call 16; refine (HMx.out _).mono ?_; rintro e wa ⟨rfl, ba⟩; have Ba := Lib.hid (BR.out.trans (ba.mono BR.out.size)); have Pa := Lib.hid (HC.out _ Ba.out); clear ba)
                | (have _t := tok2; clear tok2; go_at_call 16; refine (HMx.out _).mono ?_; rintro e wb ⟨rfl, bb⟩; have Bb := Lib.hid (Ba.out.trans (bb.mono Ba.out.size)); have Pb := Lib.hid (HC.out _ Bb.out); clear bb)
                | (have _t := tok3; clear tok3; go_at_call 16; refine (HMy.out _).mono ?_; rintro e wc ⟨rfl, bc⟩; have Bc := Lib.hid (Bb.out.trans (bc.mono Bb.out.size)); have Pc := Lib.hid (HC.out _ Bc.out); clear bc)
                | (have _t := tok4; clear tok4; go_at_call 17; refine (HTl.out _ Bc.out).mono ?_; rintro e wd ⟨rfl, bd⟩; have Bd := Lib.hid (Bc.out.trans (bd.mono Bc.out.size)); have Pd := Lib.hid (HC.out _ Bd.out); clear bd)
                | (have _t := tok5; clear tok5; go_at_call 17; refine (HTm.out _ Bd.out).mono ?_; rintro e we ⟨rfl, be⟩; have Be := Lib.hid (Bd.out.trans (be.mono Bd.out.size)); have Pe := Lib.hid (HC.out _ Be.out); clear be))
          by_cases h3 : 300 ≤ k
          · have h3' : (300 : Int) ≤ (k : Int) := by omega
            have HW := Lib.hid (wakes4_any we (Utf8Tabs_below HT.out (Hb9.out.trans (Be.out.mono Hb9.out.size))))
            go_wp2_with fail
            refine HW.out.mono ?_
            rintro _ wz ⟨rfl, bz⟩
            have Hbz := Lib.hid ((Hb9.out.trans (Be.out.mono Hb9.out.size)).trans (bz.mono (Hb9.out.trans (Be.out.mono Hb9.out.size)).size))
            clear bz
            go_wp2_with fail
            go_ret
            exact ⟨rfl, Hbz.out⟩
          · have h3' : ¬ (300 : Int) ≤ (k : Int) := by omega
            go_wp2_with fail
            go_roundw
            case rel => exact ⟨k + 1, by omega, by go_num, Be⟩
            case measure => simp [RowKit.intOf]; omega
        · have h1 : my ≠ 0 := fun e => h0 (hst.2.2 e)
          obtain ⟨M, hM⟩ : ∃ M : Int, (mx : Int) = M := ⟨_, rfl⟩
          obtain ⟨M2, hM2⟩ : ∃ M : Int, (my : Int) = M := ⟨_, rfl⟩
          rw [hM] at HMx
          rw [hM2] at HMy
          have e1 : (M == 0) = false := by simp; omega
          have e2 : (M2 == 0) = false := by simp; omega
          have e3 : ¬ M = 0 := by omega
          have e4 : ¬ M2 = 0 := by omega
          clear hst h0 h1 hM hM2
          go_wp2_with fail
          have tok1 : True := trivial
          have tok2 : True := trivial
          have tok3 : True := trivial
          have tok4 : True := trivial
          have tok5 : True := trivial
          refine wp_region_noPanic ?_
          refine wp_region_held_drew (S := fun W' => W'.cell? (a1.add k) = some (.int .i32 x) ∧ W'.cell? (a2.add k) = some (.int .i32 y)) (by kernel_rfl) (PR.out) (fun hHeld => ?_)
          refine wpAnyH_take (i := 0) (oi := ({ dst := some 48, op := Op.move (Operand.tmp 2), type := 36, pos := "outright.go:102", after := #[], guard := none } : Oper)) (v := ?_) rfl (by kernel_rfl) (by kernel_rfl) (by kernel_rfl) (fun _ _ _ h => h) (Or.inl ⟨by rfl, ?_⟩) (by assumption) ?_
          rotate_left
          · (intro w hSw; (try dsimp only at hSw); go_simp; all_goals (with_reducible rfl))
          try simp only [Act.put, List.setIfInBounds_toArray, List.set_cons_zero, List.set_cons_succ]
          refine wpAnyH_take (i := 1) (oi := ({ dst := some 49, op := Op.move (Operand.tmp 11), type := 3, pos := "outright.go:102", after := #[], guard := none } : Oper)) (v := ?_) rfl (by kernel_rfl) (by kernel_rfl) (by kernel_rfl) (fun _ _ _ h => h) (Or.inl ⟨by rfl, ?_⟩) (by assumption) ?_
          rotate_left
          · (intro w hSw; (try dsimp only at hSw); go_simp; all_goals (with_reducible rfl))
          try simp only [Act.put, List.setIfInBounds_toArray, List.set_cons_zero, List.set_cons_succ]
          refine wpAnyH_take (i := 2) (oi := ({ dst := some 50, op := Op.indexAddr 36 (Operand.tmp 48) (Operand.tmp 49), type := 0, pos := "outright.go:102", after := #[{ on := 0, ground := Ground.data }, { on := 1, ground := Ground.data }], guard := none } : Oper)) (v := ?_) rfl (by kernel_rfl) (by kernel_rfl) (by kernel_rfl) (fun _ _ _ h => h) (Or.inl ⟨by rfl, ?_⟩) (by assumption) ?_
          rotate_left
          · (intro w hSw; (try dsimp only at hSw); go_simp; all_goals (with_reducible rfl))
          try simp only [Act.put, List.setIfInBounds_toArray, List.set_cons_zero, List.set_cons_succ]
          refine wpAnyH_take (i := 3) (oi := ({ dst := some 51, op := Op.load 21 (Operand.tmp 50), type := 21, pos := "outright.go:102", after := #[{ on := 2, ground := Ground.data }], guard := none } : Oper)) (v := ?_) rfl (by kernel_rfl) (by kernel_rfl) (by kernel_rfl) (fun _ _ _ h => h) (Or.inl ⟨by rfl, ?_⟩) (by assumption) ?_
          rotate_left
          · (intro w hSw; (try dsimp only at hSw); go_simp; all_goals (with_reducible rfl))
          try simp only [Act.put, List.setIfInBounds_toArray, List.set_cons_zero, List.set_cons_succ]
          refine wpAnyH_ready (rs := [4]) (by kernel_rfl) (by simp) ?_
          refine AllReadyH.cons (o := ({ dst := some 52, op := Op.call { callee := Callee.value (Operand.func 16), args := #[Operand.tmp 51], argTypes := #[21] }, type := 5, pos := "outright.go:102", after := #[{ on := 3, ground := Ground.data }], guard := none } : Oper)) rfl (fun K hK => ?_) AllReadyH.nil
          (go_simp; go_at_call 16; refine (HMx.out _).mono ?_; rintro e wa ⟨rfl, ba⟩; have Ba := Lib.hid (BR.out.trans (ba.mono BR.out.size)); clear ba; (try dsimp only))
          refine hK.out _ _ (HC.out _ Ba.out) (fun hHeld => ?_)
          clear hK K
          try simp only [Act.put, List.setIfInBounds_toArray, List.set_cons_zero, List.set_cons_succ]
          refine wpAnyH_take (i := 5) (oi := ({ dst := some 53, op := Op.binOp BinOp.eql 5 (Operand.tmp 52) (Operand.const (Value.int IntKind.u8 0)) 5, type := 4, pos := "outright.go:102", after := #[{ on := 4, ground := Ground.data }], guard := none } : Oper)) (v := ?_) rfl (by kernel_rfl) (by kernel_rfl) (by kernel_rfl) (fun _ _ _ h => h) (Or.inl ⟨by rfl, ?_⟩) (by assumption) ?_
          rotate_left
          · (intro w hSw; (try dsimp only at hSw); go_simp; all_goals (with_reducible rfl))
          try simp only [Act.put, List.setIfInBounds_toArray, List.set_cons_zero, List.set_cons_succ]
          refine wpAnyH_take (i := 6) (oi := ({ dst := some 54, op := Op.move (Operand.tmp 53), type := 4, pos := "outright.go:102", after := #[{ on := 5, ground := Ground.data }, { on := 4, ground := Ground.chain }], guard := none } : Oper)) (v := ?_) rfl (by kernel_rfl) (by kernel_rfl) (by kernel_rfl) (fun _ _ _ h => h) (Or.inl ⟨by rfl, ?_⟩) (by assumption) ?_
          rotate_left
          · (intro w hSw; (try dsimp only at hSw); go_simp; all_goals (with_reducible rfl))
          try simp only [Act.put, List.setIfInBounds_toArray, List.set_cons_zero, List.set_cons_succ]
          refine wpAnyH_take (i := 7) (oi := ({ dst := some 55, op := Op.move (Operand.tmp 10), type := 36, pos := "outright.go:102", after := #[{ on := 6, ground := Ground.guard }], guard := some (6, true) } : Oper)) (v := undef) rfl (by kernel_rfl) (by kernel_rfl) (by kernel_rfl) (fun _ _ _ h => h) (Or.inr ⟨by rfl, rfl⟩) (by assumption) ?_
          try simp only [Act.put, List.setIfInBounds_toArray, List.set_cons_zero, List.set_cons_succ]
          refine wpAnyH_take (i := 8) (oi := ({ dst := some 56, op := Op.move (Operand.tmp 11), type := 3, pos := "outright.go:102", after := #[{ on := 6, ground := Ground.guard }], guard := some (6, true) } : Oper)) (v := undef) rfl (by kernel_rfl) (by kernel_rfl) (by kernel_rfl) (fun _ _ _ h => h) (Or.inr ⟨by rfl, rfl⟩) (by assumption) ?_
          try simp only [Act.put, List.setIfInBounds_toArray, List.set_cons_zero, List.set_cons_succ]
          refine wpAnyH_take (i := 9) (oi := ({ dst := some 57, op := Op.indexAddr 36 (Operand.tmp 55) (Operand.tmp 56), type := 0, pos := "outright.go:102", after := #[{ on := 7, ground := Ground.data }, { on := 8, ground := Ground.data }, { on := 6, ground := Ground.guard }], guard := some (6, true) } : Oper)) (v := undef) rfl (by kernel_rfl) (by kernel_rfl) (by kernel_rfl) (fun _ _ _ h => h) (Or.inr ⟨by rfl, rfl⟩) (by assumption) ?_
          try simp only [Act.put, List.setIfInBounds_toArray, List.set_cons_zero, List.set_cons_succ]
          refine wpAnyH_take (i := 10) (oi := ({ dst := some 58, op := Op.load 21 (Operand.tmp 57), type := 21, pos := "outright.go:102", after := #[{ on := 9, ground := Ground.data }, { on := 6, ground := Ground.guard }], guard := some (6, true) } : Oper)) (v := undef) rfl (by kernel_rfl) (by kernel_rfl) (by kernel_rfl) (fun _ _ _ h => h) (Or.inr ⟨by rfl, rfl⟩) (by assumption) ?_
          try simp only [Act.put, List.setIfInBounds_toArray, List.set_cons_zero, List.set_cons_succ]
          refine wpAnyH_take (i := 11) (oi := ({ dst := some 59, op := Op.move (Operand.tmp 2), type := 36, pos := "outright.go:102", after := #[{ on := 6, ground := Ground.guard }], guard := some (6, true) } : Oper)) (v := undef) rfl (by kernel_rfl) (by kernel_rfl) (by kernel_rfl) (fun _ _ _ h => h) (Or.inr ⟨by rfl, rfl⟩) (by assumption) ?_
          try simp only [Act.put, List.setIfInBounds_toArray, List.set_cons_zero, List.set_cons_succ]
          refine wpAnyH_take (i := 12) (oi := ({ dst := some 60, op := Op.move (Operand.tmp 11), type := 3, pos := "outright.go:102", after := #[{ on := 6, ground := Ground.guard }], guard := some (6, true) } : Oper)) (v := undef) rfl (by kernel_rfl) (by kernel_rfl) (by kernel_rfl) (fun _ _ _ h => h) (Or.inr ⟨by rfl, rfl⟩) (by assumption) ?_
          try simp only [Act.put, List.setIfInBounds_toArray, List.set_cons_zero, List.set_cons_succ]
          refine wpAnyH_take (i := 13) (oi := ({ dst := some 61, op := Op.indexAddr 36 (Operand.tmp 59) (Operand.tmp 60), type := 0, pos := "outright.go:102", after := #[{ on := 11, ground := Ground.data }, { on := 12, ground := Ground.data }, { on := 6, ground := Ground.guard }], guard := some (6, true) } : Oper)) (v := undef) rfl (by kernel_rfl) (by kernel_rfl) (by kernel_rfl) (fun _ _ _ h => h) (Or.inr ⟨by rfl, rfl⟩) (by assumption) ?_
          try simp only [Act.put, List.setIfInBounds_toArray, List.set_cons_zero, List.set_cons_succ]
          refine wpAnyH_take (i := 14) (oi := ({ dst := some 62, op := Op.load 21 (Operand.tmp 61), type := 21, pos := "outright.go:102", after := #[{ on := 13, ground := Ground.data }, { on := 6, ground := Ground.guard }], guard := some (6, true) } : Oper)) (v := undef) rfl (by kernel_rfl) (by kernel_rfl) (by kernel_rfl) (fun _ _ _ h => h) (Or.inr ⟨by rfl, rfl⟩) (by assumption) ?_
          try simp only [Act.put, List.setIfInBounds_toArray, List.set_cons_zero, List.set_cons_succ]
          refine wpAnyH_take (i := 15) (oi := ({ dst := some 63, op := Op.binOp BinOp.neq 21 (Operand.tmp 58) (Operand.tmp 62) 21, type := 4, pos := "outright.go:102", after := #[{ on := 10, ground := Ground.data }, { on := 14, ground := Ground.data }, { on := 6, ground := Ground.guard }], guard := some (6, true) } : Oper)) (v := undef) rfl (by kernel_rfl) (by kernel_rfl) (by kernel_rfl) (fun _ _ _ h => h) (Or.inr ⟨by rfl, rfl⟩) (by assumption) ?_
          try simp only [Act.put, List.setIfInBounds_toArray, List.set_cons_zero, List.set_cons_succ]
          refine wpAnyH_take (i := 16) (oi := ({ dst := some 64, op := Op.pick (Operand.tmp 54) (Operand.tmp 63) (Operand.const (Value.bool false)), type := 4, pos := "outright.go:102", after := #[{ on := 6, ground := Ground.data }, { on := 15, ground := Ground.data }], guard := none } : Oper)) (v := ?_) rfl (by kernel_rfl) (by kernel_rfl) (by kernel_rfl) (fun _ _ _ h => h) (Or.inl ⟨by rfl, ?_⟩) (by assumption) ?_
          rotate_left
          · (intro w hSw; (try dsimp only at hSw); go_simp; all_goals (with_reducible rfl))
          try simp only [Act.put, List.setIfInBounds_toArray, List.set_cons_zero, List.set_cons_succ]
          refine wpAnyH_take (i := 17) (oi := ({ dst := some 65, op := Op.move (Operand.tmp 64), type := 4, pos := "outright.go:102", after := #[{ on := 16, ground := Ground.data }, { on := 6, ground := Ground.chain }], guard := none } : Oper)) (v := ?_) rfl (by kernel_rfl) (by kernel_rfl) (by kernel_rfl) (fun _ _ _ h => h) (Or.inl ⟨by rfl, ?_⟩) (by assumption) ?_
          rotate_left
          · (intro w hSw; (try dsimp only at hSw); go_simp; all_goals (with_reducible rfl))
          try simp only [Act.put, List.setIfInBounds_toArray, List.set_cons_zero, List.set_cons_succ]
          refine wpAnyH_take (i := 18) (oi := ({ dst := some 66, op := Op.move (Operand.tmp 2), type := 36, pos := "outright.go:102", after := #[{ on := 17, ground := Ground.guard }], guard := some (17, false) } : Oper)) (v := ?_) rfl (by kernel_rfl) (by kernel_rfl) (by kernel_rfl) (fun _ _ _ h => h) (Or.inl ⟨by rfl, ?_⟩) (by assumption) ?_
          rotate_left
          · (intro w hSw; (try dsimp only at hSw); go_simp; all_goals (with_reducible rfl))
          try simp only [Act.put, List.setIfInBounds_toArray, List.set_cons_zero, List.set_cons_succ]
          refine wpAnyH_take (i := 19) (oi := ({ dst := some 67, op := Op.move (Operand.tmp 11), type := 3, pos := "outright.go:102", after := #[{ on := 17, ground := Ground.guard }], guard := some (17, false) } : Oper)) (v := ?_) rfl (by kernel_rfl) (by kernel_rfl) (by kernel_rfl) (fun _ _ _ h => h) (Or.inl ⟨by rfl, ?_⟩) (by assumption) ?_
          rotate_left
          · (intro w hSw; (try dsimp only at hSw); go_simp; all_goals (with_reducible rfl))
          try simp only [Act.put, List.setIfInBounds_toArray, List.set_cons_zero, List.set_cons_succ]
          refine wpAnyH_take (i := 20) (oi := ({ dst := some 68, op := Op.indexAddr 36 (Operand.tmp 66) (Operand.tmp 67), type := 0, pos := "outright.go:102", after := #[{ on := 18, ground := Ground.data }, { on := 19, ground := Ground.data }, { on := 17, ground := Ground.guard }], guard := some (17, false) } : Oper)) (v := ?_) rfl (by kernel_rfl) (by kernel_rfl) (by kernel_rfl) (fun _ _ _ h => h) (Or.inl ⟨by rfl, ?_⟩) (by assumption) ?_
          rotate_left
          · (intro w hSw; (try dsimp only at hSw); go_simp; all_goals (with_reducible rfl))
          try simp only [Act.put, List.setIfInBounds_toArray, List.set_cons_zero, List.set_cons_succ]
          refine wpAnyH_take (i := 21) (oi := ({ dst := some 69, op := Op.load 21 (Operand.tmp 68), type := 21, pos := "outright.go:102", after := #[{ on := 20, ground := Ground.data }, { on := 17, ground := Ground.guard }], guard := some (17, false) } : Oper)) (v := ?_) rfl (by kernel_rfl) (by kernel_rfl) (by kernel_rfl) (fun _ _ _ h => h) (Or.inl ⟨by rfl, ?_⟩) (by assumption) ?_
          rotate_left
          · (intro w hSw; (try dsimp only at hSw); go_simp; all_goals (with_reducible rfl))
          try simp only [Act.put, List.setIfInBounds_toArray, List.set_cons_zero, List.set_cons_succ]
          refine wpAnyH_take (i := 24) (oi := ({ dst := some 72, op := Op.move (Operand.tmp 10), type := 36, pos := "outright.go:102", after := #[{ on := 17, ground := Ground.guard }], guard := some (17, false) } : Oper)) (v := ?_) rfl (by kernel_rfl) (by kernel_rfl) (by kernel_rfl) (fun _ _ _ h => h) (Or.inl ⟨by rfl, ?_⟩) (by assumption) ?_
          rotate_left
          · (intro w hSw; (try dsimp only at hSw); go_simp; all_goals (with_reducible rfl))
          try simp only [Act.put, List.setIfInBounds_toArray, List.set_cons_zero, List.set_cons_succ]
          refine wpAnyH_take (i := 25) (oi := ({ dst := some 73, op := Op.move (Operand.tmp 11), type := 3, pos := "outright.go:102", after := #[{ on := 17, ground := Ground.guard }], guard := some (17, false) } : Oper)) (v := ?_) rfl (by kernel_rfl) (by kernel_rfl) (by kernel_rfl) (fun _ _ _ h => h) (Or.inl ⟨by rfl, ?_⟩) (by assumption) ?_
          rotate_left
          · (intro w hSw; (try dsimp only at hSw); go_simp; all_goals (with_reducible rfl))
          try simp only [Act.put, List.setIfInBounds_toArray, List.set_cons_zero, List.set_cons_succ]
          refine wpAnyH_take (i := 26) (oi := ({ dst := some 74, op := Op.indexAddr 36 (Operand.tmp 72) (Operand.tmp 73), type := 0, pos := "outright.go:102", after := #[{ on := 24, ground := Ground.data }, { on := 25, ground := Ground.data }, { on := 17, ground := Ground.guard }], guard := some (17, false) } : Oper)) (v := ?_) rfl (by kernel_rfl) (by kernel_rfl) (by kernel_rfl) (fun _ _ _ h => h) (Or.inl ⟨by rfl, ?_⟩) (by assumption) ?_
          rotate_left
          · (intro w hSw; (try dsimp only at hSw); go_simp; all_goals (with_reducible rfl))
          try simp only [Act.put, List.setIfInBounds_toArray, List.set_cons_zero, List.set_cons_succ]
          refine wpAnyH_take (i := 27) (oi := ({ dst := some 75, op := Op.load 21 (Operand.tmp 74), type := 21, pos := "outright.go:102", after := #[{ on := 26, ground := Ground.data }, { on := 17, ground := Ground.guard }], guard := some (17, false) } : Oper)) (v := ?_) rfl (by kernel_rfl) (by kernel_rfl) (by kernel_rfl) (fun _ _ _ h => h) (Or.inl ⟨by rfl, ?_⟩) (by assumption) ?_
          rotate_left
          · (intro w hSw; (try dsimp only at hSw); go_simp; all_goals (with_reducible rfl))
          try simp only [Act.put, List.setIfInBounds_toArray, List.set_cons_zero, List.set_cons_succ]
          refine wpAnyH_ready (rs := [22]) (by kernel_rfl) (by simp) ?_
          refine AllReadyH.cons (o := ({ dst := some 70, op := Op.call { callee := Callee.value (Operand.func 16), args := #[Operand.tmp 69], argTypes := #[21] }, type := 5, pos := "outright.go:102", after := #[{ on := 21, ground := Ground.data }, { on := 17, ground := Ground.chain }, { on := 17, ground := Ground.guard }], guard := some (17, false) } : Oper)) rfl (fun K hK => ?_) AllReadyH.nil
          (go_simp; go_at_call 16; refine (HMx.out _).mono ?_; rintro e wb ⟨rfl, bb⟩; have Bb := Lib.hid (Ba.out.trans (bb.mono Ba.out.size)); clear bb; (try dsimp only))
          refine hK.out _ _ (HC.out _ Bb.out) (fun hHeld => ?_)
          clear hK K
          try simp only [Act.put, List.setIfInBounds_toArray, List.set_cons_zero, List.set_cons_succ]
          refine wpAnyH_take (i := 23) (oi := ({ dst := some 71, op := Op.binOp BinOp.eql 5 (Operand.tmp 70) (Operand.const (Value.int IntKind.u8 0)) 5, type := 4, pos := "outright.go:102", after := #[{ on := 22, ground := Ground.data }, { on := 17, ground := Ground.guard }], guard := some (17, false) } : Oper)) (v := ?_) rfl (by kernel_rfl) (by kernel_rfl) (by kernel_rfl) (fun _ _ _ h => h) (Or.inl ⟨by rfl, ?_⟩) (by assumption) ?_
          rotate_left
          · (intro w hSw; (try dsimp only at hSw); go_simp; all_goals (with_reducible rfl))
          try simp only [Act.put, List.setIfInBounds_toArray, List.set_cons_zero, List.set_cons_succ]
          refine wpAnyH_ready (rs := [28]) (by kernel_rfl) (by simp) ?_
          refine AllReadyH.cons (o := ({ dst := some 76, op := Op.call { callee := Callee.value (Operand.func 16), args := #[Operand.tmp 75], argTypes := #[21] }, type := 5, pos := "outright.go:102", after := #[{ on := 27, ground := Ground.data }, { on := 22, ground := Ground.chain }, { on := 17, ground := Ground.guard }], guard := some (17, false) } : Oper)) rfl (fun K hK => ?_) AllReadyH.nil
          (go_simp; go_at_call 16; refine (HMy.out _).mono ?_; rintro e wc ⟨rfl, bc⟩; have Bc := Lib.hid (Bb.out.trans (bc.mono Bb.out.size)); clear bc; (try dsimp only))
          refine hK.out _ _ (HC.out _ Bc.out) (fun hHeld => ?_)
          clear hK K
          try simp only [Act.put, List.setIfInBounds_toArray, List.set_cons_zero, List.set_cons_succ]
          refine wpAnyH_take (i := 29) (oi := ({ dst := some 77, op := Op.binOp BinOp.eql 5 (Operand.tmp 76) (Operand.const (Value.int IntKind.u8 0)) 5, type := 4, pos := "outright.go:102", after := #[{ on := 28, ground := Ground.data }, { on := 17, ground := Ground.guard }], guard := some (17, false) } : Oper)) (v := ?_) rfl (by kernel_rfl) (by kernel_rfl) (by kernel_rfl) (fun _ _ _ h => h) (Or.inl ⟨by rfl, ?_⟩) (by assumption) ?_
          rotate_left
          · (intro w hSw; (try dsimp only at hSw); go_simp; all_goals (with_reducible rfl))
          try simp only [Act.put, List.setIfInBounds_toArray, List.set_cons_zero, List.set_cons_succ]
          refine wpAnyH_take (i := 30) (oi := ({ dst := some 78, op := Op.binOp BinOp.neq 4 (Operand.tmp 71) (Operand.tmp 77) 4, type := 4, pos := "outright.go:102", after := #[{ on := 23, ground := Ground.data }, { on := 29, ground := Ground.data }, { on := 17, ground := Ground.guard }], guard := some (17, false) } : Oper)) (v := ?_) rfl (by kernel_rfl) (by kernel_rfl) (by kernel_rfl) (fun _ _ _ h => h) (Or.inl ⟨by rfl, ?_⟩) (by assumption) ?_
          rotate_left
          · (intro w hSw; (try dsimp only at hSw); go_simp; all_goals (with_reducible rfl))
          try simp only [Act.put, List.setIfInBounds_toArray, List.set_cons_zero, List.set_cons_succ]
          refine wpAnyH_take (i := 31) (oi := ({ dst := some 79, op := Op.pick (Operand.tmp 65) (Operand.const (Value.bool true)) (Operand.tmp 78), type := 4, pos := "outright.go:102", after := #[{ on := 17, ground := Ground.data }, { on := 30, ground := Ground.data }], guard := none } : Oper)) (v := ?_) rfl (by kernel_rfl) (by kernel_rfl) (by kernel_rfl) (fun _ _ _ h => h) (Or.inl ⟨by rfl, ?_⟩) (by assumption) ?_
          rotate_left
          · (intro w hSw; (try dsimp only at hSw); go_simp; all_goals (with_reducible rfl))
          try simp only [Act.put, List.setIfInBounds_toArray, List.set_cons_zero, List.set_cons_succ]
          refine wpAnyH_take (i := 32) (oi := ({ dst := some 80, op := Op.move (Operand.tmp 79), type := 4, pos := "outright.go:102", after := #[{ on := 31, ground := Ground.data }, { on := 28, ground := Ground.chain }], guard := none } : Oper)) (v := ?_) rfl (by kernel_rfl) (by kernel_rfl) (by kernel_rfl) (fun _ _ _ h => h) (Or.inl ⟨by rfl, ?_⟩) (by assumption) ?_
          rotate_left
          · (intro w hSw; (try dsimp only at hSw); go_simp; all_goals (with_reducible rfl))
          try simp only [Act.put, List.setIfInBounds_toArray, List.set_cons_zero, List.set_cons_succ]
          refine wpAnyH_take (i := 33) (oi := ({ dst := some 81, op := Op.move (Operand.tmp 2), type := 36, pos := "outright.go:102", after := #[{ on := 32, ground := Ground.guard }], guard := some (32, false) } : Oper)) (v := ?_) rfl (by kernel_rfl) (by kernel_rfl) (by kernel_rfl) (fun _ _ _ h => h) (Or.inl ⟨by rfl, ?_⟩) (by assumption) ?_
          rotate_left
          · (intro w hSw; (try dsimp only at hSw); go_simp; all_goals (with_reducible rfl))
          try simp only [Act.put, List.setIfInBounds_toArray, List.set_cons_zero, List.set_cons_succ]
          refine wpAnyH_take (i := 34) (oi := ({ dst := some 82, op := Op.move (Operand.tmp 2), type := 36, pos := "outright.go:102", after := #[{ on := 32, ground := Ground.guard }], guard := some (32, false) } : Oper)) (v := ?_) rfl (by kernel_rfl) (by kernel_rfl) (by kernel_rfl) (fun _ _ _ h => h) (Or.inl ⟨by rfl, ?_⟩) (by assumption) ?_
          rotate_left
          · (intro w hSw; (try dsimp only at hSw); go_simp; all_goals (with_reducible rfl))
          try simp only [Act.put, List.setIfInBounds_toArray, List.set_cons_zero, List.set_cons_succ]
          refine wpAnyH_take (i := 35) (oi := ({ dst := some 83, op := Op.move (Operand.tmp 11), type := 3, pos := "outright.go:102", after := #[{ on := 32, ground := Ground.guard }], guard := some (32, false) } : Oper)) (v := ?_) rfl (by kernel_rfl) (by kernel_rfl) (by kernel_rfl) (fun _ _ _ h => h) (Or.inl ⟨by rfl, ?_⟩) (by assumption) ?_
          rotate_left
          · (intro w hSw; (try dsimp only at hSw); go_simp; all_goals (with_reducible rfl))
          try simp only [Act.put, List.setIfInBounds_toArray, List.set_cons_zero, List.set_cons_succ]
          refine wpAnyH_take (i := 36) (oi := ({ dst := some 84, op := Op.indexAddr 36 (Operand.tmp 82) (Operand.tmp 83), type := 0, pos := "outright.go:102", after := #[{ on := 34, ground := Ground.data }, { on := 35, ground := Ground.data }, { on := 32, ground := Ground.guard }], guard := some (32, false) } : Oper)) (v := ?_) rfl (by kernel_rfl) (by kernel_rfl) (by kernel_rfl) (fun _ _ _ h => h) (Or.inl ⟨by rfl, ?_⟩) (by assumption) ?_
          rotate_left
          · (intro w hSw; (try dsimp only at hSw); go_simp; all_goals (with_reducible rfl))
          try simp only [Act.put, List.setIfInBounds_toArray, List.set_cons_zero, List.set_cons_succ]
          refine wpAnyH_take (i := 37) (oi := ({ dst := some 85, op := Op.load 21 (Operand.tmp 84), type := 21, pos := "outright.go:102", after := #[{ on := 36, ground := Ground.data }, { on := 32, ground := Ground.guard }], guard := some (32, false) } : Oper)) (v := ?_) rfl (by kernel_rfl) (by kernel_rfl) (by kernel_rfl) (fun _ _ _ h => h) (Or.inl ⟨by rfl, ?_⟩) (by assumption) ?_
          rotate_left
          · (intro w hSw; (try dsimp only at hSw); go_simp; all_goals (with_reducible rfl))
          try simp only [Act.put, List.setIfInBounds_toArray, List.set_cons_zero, List.set_cons_succ]
          refine wpAnyH_take (i := 39) (oi := ({ dst := some 87, op := Op.move (Operand.tmp 10), type := 36, pos := "outright.go:102", after := #[{ on := 32, ground := Ground.guard }], guard := some (32, false) } : Oper)) (v := ?_) rfl (by kernel_rfl) (by kernel_rfl) (by kernel_rfl) (fun _ _ _ h => h) (Or.inl ⟨by rfl, ?_⟩) (by assumption) ?_
          rotate_left
          · (intro w hSw; (try dsimp only at hSw); go_simp; all_goals (with_reducible rfl))
          try simp only [Act.put, List.setIfInBounds_toArray, List.set_cons_zero, List.set_cons_succ]
          refine wpAnyH_take (i := 40) (oi := ({ dst := some 88, op := Op.move (Operand.tmp 2), type := 36, pos := "outright.go:102", after := #[{ on := 32, ground := Ground.guard }], guard := some (32, false) } : Oper)) (v := ?_) rfl (by kernel_rfl) (by kernel_rfl) (by kernel_rfl) (fun _ _ _ h => h) (Or.inl ⟨by rfl, ?_⟩) (by assumption) ?_
          rotate_left
          · (intro w hSw; (try dsimp only at hSw); go_simp; all_goals (with_reducible rfl))
          try simp only [Act.put, List.setIfInBounds_toArray, List.set_cons_zero, List.set_cons_succ]
          refine wpAnyH_take (i := 41) (oi := ({ dst := some 89, op := Op.move (Operand.tmp 11), type := 3, pos := "outright.go:102", after := #[{ on := 32, ground := Ground.guard }], guard := some (32, false) } : Oper)) (v := ?_) rfl (by kernel_rfl) (by kernel_rfl) (by kernel_rfl) (fun _ _ _ h => h) (Or.inl ⟨by rfl, ?_⟩) (by assumption) ?_
          rotate_left
          · (intro w hSw; (try dsimp only at hSw); go_simp; all_goals (with_reducible rfl))
          try simp only [Act.put, List.setIfInBounds_toArray, List.set_cons_zero, List.set_cons_succ]
          refine wpAnyH_take (i := 42) (oi := ({ dst := some 90, op := Op.indexAddr 36 (Operand.tmp 88) (Operand.tmp 89), type := 0, pos := "outright.go:102", after := #[{ on := 40, ground := Ground.data }, { on := 41, ground := Ground.data }, { on := 32, ground := Ground.guard }], guard := some (32, false) } : Oper)) (v := ?_) rfl (by kernel_rfl) (by kernel_rfl) (by kernel_rfl) (fun _ _ _ h => h) (Or.inl ⟨by rfl, ?_⟩) (by assumption) ?_
          rotate_left
          · (intro w hSw; (try dsimp only at hSw); go_simp; all_goals (with_reducible rfl))
          try simp only [Act.put, List.setIfInBounds_toArray, List.set_cons_zero, List.set_cons_succ]
          refine wpAnyH_take (i := 43) (oi := ({ dst := some 91, op := Op.load 21 (Operand.tmp 90), type := 21, pos := "outright.go:102", after := #[{ on := 42, ground := Ground.data }, { on := 32, ground := Ground.guard }], guard := some (32, false) } : Oper)) (v := ?_) rfl (by kernel_rfl) (by kernel_rfl) (by kernel_rfl) (fun _ _ _ h => h) (Or.inl ⟨by rfl, ?_⟩) (by assumption) ?_
          rotate_left
          · (intro w hSw; (try dsimp only at hSw); go_simp; all_goals (with_reducible rfl))
          try simp only [Act.put, List.setIfInBounds_toArray, List.set_cons_zero, List.set_cons_succ]
          refine wpAnyH_ready (rs := [38]) (by kernel_rfl) (by simp) ?_
          refine AllReadyH.cons (o := ({ dst := some 86, op := Op.call { callee := Callee.value (Operand.func 17), args := #[Operand.tmp 81, Operand.tmp 85], argTypes := #[36, 21] }, type := 3, pos := "outright.go:102", after := #[{ on := 33, ground := Ground.data }, { on := 37, ground := Ground.data }, { on := 32, ground := Ground.chain }, { on := 32, ground := Ground.guard }], guard := some (32, false) } : Oper)) rfl (fun K hK => ?_) AllReadyH.nil
          (go_simp; go_at_call 17; refine (HTl.out _ Bc.out).mono ?_; rintro e wd ⟨rfl, bd⟩; have Bd := Lib.hid (Bc.out.trans (bd.mono Bc.out.size)); clear bd; (try dsimp only))
          refine hK.out _ _ (HC.out _ Bd.out) (fun hHeld => ?_)
          clear hK K
          try simp only [Act.put, List.setIfInBounds_toArray, List.set_cons_zero, List.set_cons_succ]
          refine wpAnyH_ready (rs := [44]) (by kernel_rfl) (by simp) ?_
          refine AllReadyH.cons (o := ({ dst := some 92, op := Op.call { callee := Callee.value (Operand.func 17), args := #[Operand.tmp 87, Operand.tmp 91], argTypes := #[36, 21] }, type := 3, pos := "outright.go:102", after := #[{ on := 39, ground := Ground.data }, { on := 43, ground := Ground.data }, { on := 38, ground := Ground.chain }, { on := 32, ground := Ground.guard }], guard := some (32, false) } : Oper)) rfl (fun K hK => ?_) AllReadyH.nil
          (go_simp; go_at_call 17; refine (HTm.out _ Bd.out).mono ?_; rintro e we ⟨rfl, be⟩; have Be := Lib.hid (Bd.out.trans (be.mono Bd.out.size)); clear be; (try dsimp only))
          refine hK.out _ _ (HC.out _ Be.out) (fun hHeld => ?_)
          clear hK K
          try simp only [Act.put, List.setIfInBounds_toArray, List.set_cons_zero, List.set_cons_succ]
          refine wpAnyH_take (i := 45) (oi := ({ dst := some 93, op := Op.binOp BinOp.neq 3 (Operand.tmp 86) (Operand.tmp 92) 3, type := 4, pos := "outright.go:102", after := #[{ on := 38, ground := Ground.data }, { on := 44, ground := Ground.data }, { on := 32, ground := Ground.guard }], guard := some (32, false) } : Oper)) (v := ?_) rfl (by kernel_rfl) (by kernel_rfl) (by kernel_rfl) (fun _ _ _ h => h) (Or.inl ⟨by rfl, ?_⟩) (by assumption) ?_
          rotate_left
          · (intro w hSw; (try dsimp only at hSw); go_simp; all_goals (with_reducible rfl))
          try simp only [Act.put, List.setIfInBounds_toArray, List.set_cons_zero, List.set_cons_succ]
          refine wpAnyH_take (i := 46) (oi := ({ dst := some 94, op := Op.pick (Operand.tmp 80) (Operand.const (Value.bool true)) (Operand.tmp 93), type := 4, pos := "outright.go:102", after := #[{ on := 32, ground := Ground.data }, { on := 45, ground := Ground.data }], guard := none } : Oper)) (v := ?_) rfl (by kernel_rfl) (by kernel_rfl) (by kernel_rfl) (fun _ _ _ h => h) (Or.inl ⟨by rfl, ?_⟩) (by assumption) ?_
          rotate_left
          · (intro w hSw; (try dsimp only at hSw); go_simp; all_goals (with_reducible rfl))
          try simp only [Act.put, List.setIfInBounds_toArray, List.set_cons_zero, List.set_cons_succ]
          refine wpAnyH_done (by kernel_rfl) ?_ _
          refine NoPanic.normal ?_
          by_cases h3 : 300 ≤ k
          · have h3' : (300 : Int) ≤ (k : Int) := by omega
            have HW := Lib.hid (wakes4_any we (Utf8Tabs_below HT.out (Hb9.out.trans (Be.out.mono Hb9.out.size))))
            go_wp2_with fail
            refine HW.out.mono ?_
            rintro _ wz ⟨rfl, bz⟩
            have Hbz := Lib.hid ((Hb9.out.trans (Be.out.mono Hb9.out.size)).trans (bz.mono (Hb9.out.trans (Be.out.mono Hb9.out.size)).size))
            clear bz
            go_wp2_with fail
            go_ret
            exact ⟨rfl, Hbz.out⟩
          · have h3' : ¬ (300 : Int) ≤ (k : Int) := by omega
            go_wp2_with fail
            go_roundw
            case rel => exact ⟨k + 1, by omega, by go_num, Be⟩
            case measure => simp [RowKit.intOf]; omega
      · have HW := Lib.hid (wakes4_any wr (Utf8Tabs_below HT.out (Hb9.out.trans (Hbr.out.mono Hb9.out.size))))
        go_wp2_with fail
        refine HW.out.mono ?_
        rintro _ wz ⟨rfl, bz⟩
        have Hbz := Lib.hid ((Hb9.out.trans (Hbr.out.mono Hb9.out.size)).trans (bz.mono (Hb9.out.trans (Hbr.out.mono Hb9.out.size)).size))
        clear bz
        go_wp2_with fail
        go_ret
        exact ⟨rfl, Hbz.out⟩
end Go.Proofs.YtfegbfhkmdmheaaDoor
