/- Layer 13, the law BreaksWhere, over the program's contracts. (Made by tools/mkwhere13.py.) -/
import Derived.Test.YthkapcnhfdpdbaaDoorHlG
import Derived.Deep.QuietTactic
set_option linter.unusedSimpArgs false
set_option linter.unusedVariables false
namespace Go.Proofs.YthkapcnhfdpdbaaDoor
open Go.RowKit Go.Lib

theorem take_nextI (xs : List Int) (k : Nat) (h : k < xs.length) : xs.take (k + 1) = xs.take k ++ [xs[k]] := List.take_succ_eq_append_getElem h
theorem ret_boolI {a b : Bool} (h : a = b) : Ending.returned (.bool a) = .returned (.bool b) := by rw [h]
set_option maxHeartbeats 1000000 in
theorem sameDirs_any (w : World) (X Y : Nat) (A B : Option Addr) (n m c d : Nat) (xs ys : List Int) (hx : Rd w X 1 A n (xs.map (Value.int .i8))) (hy : Rd w Y 1 B m (ys.map (Value.int .i8))) (hn : n ≤ maxLen) :
    Calls Tryd.prog 9 #[.slice A n c, .slice B m d] w fun e w' => e = .returned (.bool (decide (xs = ys))) ∧ Below w.heap.size w w' := by
  unfold maxLen at hn
  have hxl : xs.length = n := by have := hx.1; simpa using this
  have hyl : ys.length = m := by have := hy.1; simpa using this
  have Hx := Lib.hid hx
  have Hy := Lib.hid hy
  have Hxl := Lib.hid hxl
  have Hyl := Lib.hid hyl
  clear hx hy
  by_cases hnm : n = m
  · subst hnm
    have hne : ((n : Int) != n) = false := by simp
    clear hxl hyl
    go_enter Tryd.func9, Tryd.ntmps9
    go_wp2
    go_loopw [5] (fun i wr => ∃ k q : Nat, k ≤ n ∧ i = .int .i64 k ∧ wr = w.drewN q ∧ Hid (xs.take k = ys.take k)) (fun i _ => n - (intOf i).toNat)
    case atStart => exact ⟨0, 0, Nat.zero_le _, rfl, rfl, rfl⟩
    case round =>
      obtain ⟨k, q, hk, rfl, rfl, hrun⟩ := hrel
      by_cases hkn : k < n
      · have hkx : k < xs.length := by rw [Hxl.out]; exact hkn
        have hky : k < ys.length := by rw [Hyl.out]; exact hkn
        obtain ⟨a, rfl, _, ha⟩ := Hx.out.at_ (k := k) (by simpa using hkx)
        obtain ⟨b, rfl, _, hb⟩ := Hy.out.at_ (k := k) (by simpa using hky)
        simp only [List.getElem_map] at ha hb
        have Hkx := Lib.hid (take_nextI xs k hkx)
        have Hky := Lib.hid (take_nextI ys k hky)
        obtain ⟨x, hxe⟩ : ∃ x, xs[k] = x := ⟨_, rfl⟩
        obtain ⟨y, hye⟩ : ∃ y, ys[k] = y := ⟨_, rfl⟩
        rw [hxe] at ha Hkx
        rw [hye] at hb Hky
        clear hxe hye hkx hky
        by_cases hxy : x = y
        · have hb1 : (x != y) = false := by simp [hxy]
          have Hxy := Lib.hid hxy
          clear hxy
          go_wp2
          go_quiet (fail)
          go_wp2
          go_roundw
          case rel =>
            refine ⟨k + 1, _, by omega, by go_num, rfl, ?_⟩
            unfold Hid
            rw [Hkx.out, Hky.out, hrun.out, Hxy.out]
          case measure => simp [intOf]; omega
        · have hb1 : (x != y) = true := by simp [hxy]
          have Hxy := Lib.hid hxy
          clear hxy
          go_wp2
          go_quiet (fail)
          go_wp2
          go_ret
          refine ⟨ret_boolI ?_, below_N (below_N (Below.refl _ _) _) _⟩
          symm
          rw [decide_eq_false_iff_not]
          intro e
          apply Hxy.out
          have e1 := Hkx.out
          rw [e, Hky.out, ← hrun.out, e] at e1
          have := List.append_cancel_left e1
          simpa using this.symm
      · go_wp2
        go_ret
        refine ⟨ret_boolI ?_, below_N (Below.refl _ _) _⟩
        symm
        rw [decide_eq_true_iff]
        have e := hrun.out
        rw [List.take_of_length_le (by rw [Hxl.out]; omega), List.take_of_length_le (by rw [Hyl.out]; omega)] at e
        exact e
  · have hne : ((n : Int) != m) = true := by simp; omega
    have hfin : decide (xs = ys) = false := by
      rw [decide_eq_false_iff_not]
      intro e
      rw [e, hyl] at hxl
      omega
    rw [hfin]
    clear hxl hyl hnm hfin
    go_enter Tryd.func9, Tryd.ntmps9
    go_wp2
    go_ret
    exact ⟨rfl, Below.refl _ _⟩

def Lies13 (W : World) (lo hi : Nat) (v : Value) (n : Nat) (xs : List Value) : Prop := W.ownsRow lo 25 1 v n xs ∧ ∀ k, v.ownBlock = some k → lo ≤ k ∧ k < hi
theorem Lies13.mk' {W : World} {lo : Nat} {v : Value} {n : Nat} {xs : List Value} (h : W.ownsRow lo 25 1 v n xs) : Lies13 W lo W.heap.size v n xs := ⟨h, fun k hk => h.lt k hk⟩
theorem Lies13.below {W W' : World} {lo hi : Nat} {v : Value} {n : Nat} {xs : List Value} (h : Lies13 W lo hi v n xs) (hb : Below W.heap.size W W') : Lies13 W' lo hi v n xs := ⟨own_below h.1 hb, h.2⟩
theorem Lies13.kept {W W' : World} {lo hi : Nat} {v : Value} {n : Nat} {xs : List Value} {row : Option Nat} (h : Lies13 W lo hi v n xs) (hg : W.grownBy W' row) (hr : ∀ k, row = some k → k < lo ∨ hi ≤ k) : Lies13 W' lo hi v n xs := by
  refine ⟨h.1.kept hg ?_, h.2⟩
  cases e : v.ownBlock with
  | none => exact .inl rfl
  | some k =>
    refine .inr fun e' => ?_
    have h1 := h.2 k e
    have h2 := hr k e'.symm
    omega
theorem Lies13.alloc {W : World} {lo hi : Nat} {v : Value} {n : Nat} {xs : List Value} (h : Lies13 W lo hi v n xs) (o : Obj) : Lies13 (W.alloc o) lo hi v n xs := ⟨h.1.alloc o, h.2⟩
theorem Lies13.rd {W : World} {lo hi n c : Nat} {A : Option Addr} {xs : List Value} (h : Lies13 W lo hi (.slice A n c) n xs) : Rd W W.heap.size 1 A n xs := Rd.own h.1

theorem whV_map (l : List Nat) : whV l = (l.map fun (n : Nat) => (n : Int)).map (Value.int .i8) := by unfold whV; rw [List.map_map]; rfl
set_option maxRecDepth 100000 in
set_option maxHeartbeats 4000000 in
theorem breaksWhere_any (H : BreakP) (s : ByteArray) (w : World) (hs : s.size ≤ 536870912) (hT : Utf8Tabs 0 1 w) :
    Calls Tryd.prog 3 #[.string s] w fun e w' => e = .returned (.bool true) ∧ Below w.heap.size w w' := by
  obtain ⟨i0, ii, hz0, hz1, hz2⟩ := info_parts ri8_info
  have hw := rwhere13_any s w (by omega)
  have hp := fun w hT => H.where_ s w hs hT
  have hzl : (whereN s).length ≤ 536870912 := by unfold whereN; rw [whereF_len, List.length_map]; exact Nat.le_trans (pcs_len s) hs
  rw [whV_map] at hw
  simp only [whV_map] at hp
  obtain ⟨zs, hzs⟩ : ∃ zs, ((whereN s).map fun (n : Nat) => (n : Int)) = zs := ⟨_, rfl⟩
  rw [hzs] at hw
  simp only [hzs] at hp
  obtain ⟨n, hn⟩ : ∃ n, (whereN s).length = n := ⟨_, rfl⟩
  rw [hn] at hw hzl
  simp only [hn] at hp
  have hn : zs.length = n := by rw [← hzs, List.length_map, hn]
  obtain ⟨B, hB⟩ : ∃ B, w.heap.size = B := ⟨_, rfl⟩
  rw [hB] at hw ⊢
  have Hw := Lib.hid hw
  have Hp := Lib.hid hp
  have HB := Lib.hid hB
  have Hn := Lib.hid hn
  have HT := Lib.hid (fun (W : World) (h : Below B w W) => (Utf8Tabs_below hT (by rw [hB]; exact h) : Utf8Tabs 0 1 W))
  have hnm : n ≤ maxLen := by unfold maxLen; omega
  clear hw hp hB hn hT hs hzs
  go_enter Tryd.func3, Tryd.ntmps3
  go_wp2_with fail
  refine Hw.out.mono ?_
  rintro _ w1 ⟨A1, c1, rfl, own1, b1⟩
  have L1 := Lib.hid (Lies13.mk' own1)
  have B1 := Lib.hid b1
  have S1 : B ≤ w1.heap.size := by have := b1.size; have := HB.out; omega
  clear own1 b1
  go_wp2_with fail
  refine (Hp.out _ (HT.out _ B1.out)).mono ?_
  rintro _ w2 ⟨A2, c2, rfl, own2, b2⟩
  have L1 := Lib.hid (L1.out.below b2)
  have L2 := Lib.hid (Lies13.mk' own2)
  have B2 := Lib.hid (B1.out.trans (b2.mono S1))
  have S2 := b2.size
  clear own2 b2 B1
  go_wp2_with fail
  refine (Hp.out _ (HT.out _ B2.out)).mono ?_
  rintro _ w3 ⟨A3, c3, rfl, own3, b3⟩
  have L1 := Lib.hid (L1.out.below b3)
  have L2 := Lib.hid (L2.out.below b3)
  have L3 := Lib.hid (Lies13.mk' own3)
  have B3 := Lib.hid (B2.out.trans (b3.mono (by omega)))
  have S3 := b3.size
  clear own3 b3 B2
  have HQ := Lib.hid (by have h := sameDirs_any w3 _ _ A2 A1 n n c2 c1 zs zs L2.out.rd L1.out.rd hnm; rw [decide_eq_true (rfl : zs = zs)] at h; exact h)
  go_wp2_with fail
  refine HQ.out.mono ?_
  rintro _ w4 ⟨rfl, b4⟩
  have L1 := Lib.hid (L1.out.below b4)
  have L2 := Lib.hid (L2.out.below b4)
  have L3 := Lib.hid (L3.out.below b4)
  have B4 := Lib.hid (B3.out.trans (b4.mono (by omega)))
  have S4 := b4.size
  clear b4 B3 HQ
  have HQ := Lib.hid (by have h := sameDirs_any w4 _ _ A3 A1 n n c3 c1 zs zs L3.out.rd L1.out.rd hnm; rw [decide_eq_true (rfl : zs = zs)] at h; exact h)
  go_wp2_with fail
  refine HQ.out.mono ?_
  rintro _ w5 ⟨rfl, b5⟩
  have L1 := Lib.hid (L1.out.below b5)
  have L2 := Lib.hid (L2.out.below b5)
  have L3 := Lib.hid (L3.out.below b5)
  have B5 := Lib.hid (B4.out.trans (b5.mono (by omega)))
  have S5 := b5.size
  clear b5 B4 HQ
  go_wp2_with fail
  go_loopw [6] (fun i wr => ∃ (j : Nat) (W : World) (ys : List Value), W = wr ∧ i = .int .i64 (j : Int) ∧ j ≤ n ∧ W.ownsRow w1.heap.size 25 1 (.slice A2 n c2) n ys ∧ Hid (Lies13 W B w1.heap.size (.slice A1 n c1) n (zs.map (Value.int .i8))) ∧ Hid (Lies13 W w2.heap.size w3.heap.size (.slice A3 n c3) n (zs.map (Value.int .i8))) ∧ Hid (Below B w W) ∧ w3.heap.size ≤ W.heap.size) (fun i _ => n - (RowKit.intOf i).toNat)
  case atStart => exact ⟨0, _, _, rfl, rfl, Nat.zero_le _, L2.out.1, L1, L3, B5, by omega⟩
  case round =>
    obtain ⟨j, W, ys, hW, rfl, hj, hown, L1, L3, BW, SW⟩ := hrel
    subst hW
    by_cases hjn : j < n
    · have hjz : (j : Int) < (n : Int) := by omega
      have hlt2 := L2.out.2
      obtain ⟨g, cap, hv, _, hlt⟩ := hown.form (by omega)
      injection hv with hA _ hcc
      subst hA hcc
      have hg2 := hlt2 g rfl
      have hyl := hown.1
      have k1 := hown.cellAt j (by omega)
      rw [List.getElem?_eq_getElem (by omega)] at k1
      have f1 := hown.frozenAt j
      have Hown := Lib.hid hown
      clear hown hlt2
      go_wp2_with fail
      obtain ⟨s1, t1⟩ := Hown.out.stored j (.int .i8 77)
      refine ⟨⟨j + 1, _, _, rfl, rfl, by omega, s1, Lib.hid (L1.out.kept t1 (fun k hk => ?_)), Lib.hid (L3.out.kept t1 (fun k hk => ?_)), Lib.hid (BW.out.grown t1 (by omega) (fun k hk => ?_)), by have := t1.size; omega⟩, by simp [RowKit.intOf]; omega⟩
      · injection hk with hk; subst hk; exact .inr hg2.1
      · injection hk with hk; subst hk; exact .inl hg2.2
      · injection hk with hk; subst hk; show B ≤ g; omega
    · clear hj
      have Hown0 := Lib.hid hown
      have hv0 : ∀ k, (Value.slice A2 n c2).ownBlock = some k → w1.heap.size ≤ k ∧ (k < w2.heap.size ∨ w3.heap.size ≤ k) := fun k hk => by have := L2.out.2 k hk; omega
      have Hv0 := Lib.hid hv0
      clear hown hv0
      go_wp2_with fail
      go_loopw [4, 7] (fun v i wr => ∃ (j : Nat) (W : World) (ys : List Value), W = wr ∧ i = .int .i64 (j : Int) ∧ j ≤ 30 ∧ W.ownsRow w1.heap.size 25 1 v (n + j) ys ∧ Hid (∀ k, v.ownBlock = some k → w1.heap.size ≤ k ∧ (k < w2.heap.size ∨ w3.heap.size ≤ k)) ∧ Hid (Lies13 W B w1.heap.size (.slice A1 n c1) n (zs.map (Value.int .i8))) ∧ Hid (Lies13 W w2.heap.size w3.heap.size (.slice A3 n c3) n (zs.map (Value.int .i8))) ∧ Hid (Below B w W) ∧ w3.heap.size ≤ W.heap.size) (fun _ i _ => 30 - (RowKit.intOf i).toNat)
      case atStart => exact ⟨0, _, _, rfl, rfl, Nat.zero_le _, Hown0.out, Hv0, L1, L3, BW, SW⟩
      case round =>
        obtain ⟨q, V, zz, hV, rfl, hq, hown, hvb, L1, L3, BV, SV⟩ := hrel
        subst hV
        by_cases hqn : q < 30
        · have hqz : (q : Int) < 30 := by omega
          have Hown := Lib.hid hown
          clear hown
          go_wp2_with (at_builtin; refine wpList_append_own_at _ rfl _ _ 22 rfl w1.heap.size 25 i0 _ 1 1 Tryd.underlying22 ii hz0 hz1 hz2 rfl (by decide) _ _ _ rfl (Hown.out.alloc _) ⟨V.heap.size, 0, none⟩ 1 1 [.int .i8 78] rfl rfl ?c1 ?c2 ?c3 ?c4 ?c5 ?_)
          try (case c1 => exact new_cells V [.int .i8 78] 25)
          case c2 => simp [Value.oneCell']
          case c3 => unfold maxLen; omega
          case c4 => omega
          case c5 => simp; omega
          intro v' w6 own6 g6 _ hob
          have L1 := Lib.hid ((L1.out.alloc _).kept g6 (fun k hk => .inr (hvb.out k hk).1))
          have L3 := Lib.hid ((L3.out.alloc _).kept g6 (fun k hk => (hvb.out k hk).2))
          have B6 := Lib.hid ((BV.out.alloc (by omega) _).grown g6 (by simp; omega) (fun k hk => by have := (hvb.out k hk).1; omega))
          have S6 : w3.heap.size ≤ w6.heap.size := by have := g6.size; simp at this; omega
          have Hvb : Hid (∀ k, v'.ownBlock = some k → w1.heap.size ≤ k ∧ (k < w2.heap.size ∨ w3.heap.size ≤ k)) := by
            unfold Hid
            intro k hk
            rcases hob with h | h
            · exact hvb.out k (h ▸ hk)
            · rw [h] at hk
              injection hk with hk
              subst hk
              try simp
              omega
          have Hown6 := Lib.hid own6
          clear own6 g6 hob
          go_wp2
          go_roundw
          case rel => exact ⟨q + 1, _, _, rfl, by go_num, by omega, Hown6.out, Hvb, L1, L3, B6, S6⟩
          case measure => simp [RowKit.intOf]; omega
        · obtain rfl : q = 30 := by omega
          obtain ⟨A6, c6, rfl, _, _⟩ := own_shape hown
          have BV := BV
          have wn : IntKind.i64.wrap ((n : Int) + 30) = (n : Int) + 30 := IntWalk.i64_in _ (by omega)
          have hnc : (((n + 30 : Nat) : Int) == (n : Int) + 30) = true := by simp
          have HQ := Lib.hid (by have h := sameDirs_any V _ _ A3 A1 n n c3 c1 zs zs L3.out.rd L1.out.rd hnm; rw [decide_eq_true (rfl : zs = zs)] at h; exact h)
          have SB : B ≤ V.heap.size := by omega
          clear hown hvb
          go_wp2_with fail
          refine HQ.out.mono ?_
          rintro _ w7 ⟨rfl, b7⟩
          have B7 := Lib.hid (BV.out.trans (b7.mono SB))
          have S7 := b7.size
          clear b7
          go_wp2_with fail
          refine (wakes13_any H _ (HT.out _ B7.out)).mono ?_
          rintro _ wz ⟨rfl, bz⟩
          have Bz := Lib.hid (B7.out.trans (bz.mono (by omega)))
          clear bz
          go_wp2_with fail
          go_ret
          exact ⟨rfl, Bz.out⟩
end Go.Proofs.YthkapcnhfdpdbaaDoor
