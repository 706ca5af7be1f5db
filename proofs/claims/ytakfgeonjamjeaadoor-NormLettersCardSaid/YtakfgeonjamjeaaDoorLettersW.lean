/- NormLetters, walked. -/
import Derived.Test.YtakfgeonjamjeaaDoorRefPG
import Derived.Test.YtakfgeonjamjeaaDoorRowsK
import Derived.Test.YtakfgeonjamjeaaDoorWakes4
namespace Go.Proofs.YtakfgeonjamjeaaDoor
open Go.RowKit Go.Lib

set_option maxRecDepth 100000 in
set_option maxHeartbeats 4000000 in
theorem letters_walk (a b : Int) (w : World) (ha : -2147483648 ≤ a ∧ a ≤ 2147483647) (hb : -2147483648 ≤ b ∧ b ≤ 2147483647) (hT : Utf8Tabs 0 1 w) :
    Calls Tryd.prog 3 #[.int .i32 a, .int .i32 b] w fun e w' => e = .returned (.bool true) ∧ Below w.heap.size w w' := by
  obtain ⟨i0, ii, hz0, hz1, hz2⟩ := info_parts runeN_info
  have hw := rsplit_any a ha.2 w
  have hp := fun w => SplitN_any a w
  have HPr := Lib.hid (fun w => PairN_any a b w ha hb)
  have HPd := Lib.hid (fun w => rpair_any a b w)
  have hzl := splitF_len 3 a
  change (splitZ a).length ≤ 4 at hzl
  unfold SplitAt at hw
  obtain ⟨zs, hzs⟩ : ∃ zs, splitZ a = zs := ⟨_, rfl⟩
  obtain ⟨pr, hpr⟩ : ∃ p, pairZ a b = p := ⟨_, rfl⟩
  rw [hpr] at HPr HPd
  rw [hzs] at hw hzl
  simp only [hzs] at hp
  obtain ⟨n, hn⟩ : ∃ n, zs.length = n := ⟨_, rfl⟩
  rw [hn] at hw hzl
  simp only [hn] at hp
  obtain ⟨B, hB⟩ : ∃ B, w.heap.size = B := ⟨_, rfl⟩
  rw [hB] at hw ⊢
  have Hw := Lib.hid hw
  have Hp := Lib.hid hp
  have HB := Lib.hid hB
  have Hn := Lib.hid hn
  have HT := Lib.hid (fun (W : World) (h : Below B w W) => (Utf8Tabs_below hT (by rw [hB]; exact h) : Utf8Tabs 0 1 W))
  have prr : (pr == pr) = true := by simp
  have hnm : n ≤ maxLen := by unfold maxLen; omega
  clear hw hp hB hn hT ha hb hzs hpr
  go_enter Tryd.func3, Tryd.ntmps3
  go_wp2_with fail
  refine Hw.out.mono ?_
  rintro _ w1 ⟨u1, rfl, own1, b1⟩
  obtain ⟨A1, c1, rfl, _, _⟩ := own_shape own1
  have L1 := Lib.hid (Lies4.mk' own1)
  have B1 := Lib.hid b1
  have S1 : B ≤ w1.heap.size := by have := b1.size; have := HB.out; omega
  clear own1 b1
  go_wp2_with fail
  refine (Hp.out _).mono ?_
  rintro _ w2 ⟨u2, rfl, own2, b2⟩
  obtain ⟨A2, c2, rfl, _, _⟩ := own_shape own2
  have L1 := Lib.hid (L1.out.below b2)
  have L2 := Lib.hid (Lies4.mk' own2)
  have B2 := Lib.hid (B1.out.trans (b2.mono S1))
  have S2 := b2.size
  clear own2 b2 B1
  go_wp2_with fail
  refine (Hp.out _).mono ?_
  rintro _ w3 ⟨u3, rfl, own3, b3⟩
  obtain ⟨A3, c3, rfl, _, _⟩ := own_shape own3
  have L1 := Lib.hid (L1.out.below b3)
  have L2 := Lib.hid (L2.out.below b3)
  have L3 := Lib.hid (Lies4.mk' own3)
  have B3 := Lib.hid (B2.out.trans (b3.mono (by omega)))
  have S3 := b3.size
  clear own3 b3 B2
  have HQ := Lib.hid (by have h := sameRunes_any w3 _ _ A2 A1 n n c2 c1 zs zs L2.out.rd L1.out.rd hnm; rw [decide_eq_true (rfl : zs = zs)] at h; exact h)
  go_wp2_with fail
  refine HQ.out.mono ?_
  rintro _ w4 ⟨rfl, b4⟩
  have L1 := Lib.hid (L1.out.below b4)
  have L2 := Lib.hid (L2.out.below b4)
  have L3 := Lib.hid (L3.out.below b4)
  have B4 := Lib.hid (B3.out.trans (b4.mono (by omega)))
  have S4 := b4.size
  clear b4 B3 HQ
  have HQ := Lib.hid (by have h := sameRunes_any w4 _ _ A3 A1 n n c3 c1 zs zs L3.out.rd L1.out.rd hnm; rw [decide_eq_true (rfl : zs = zs)] at h; exact h)
  go_wp2_with fail
  refine HQ.out.mono ?_
  rintro _ w5 ⟨rfl, b5⟩
  have L1 := Lib.hid (L1.out.below b5)
  have L2 := Lib.hid (L2.out.below b5)
  have L3 := Lib.hid (L3.out.below b5)
  have B5 := Lib.hid (B4.out.trans (b5.mono (by omega)))
  have S5 := b5.size
  clear b5 B4 HQ
  go_wp2_with fail
  go_loopw [8] (fun i wr => ∃ (j : Nat) (W : World) (ys : List Value), W = wr ∧ i = .int .i64 (j : Int) ∧ j ≤ n ∧ W.ownsRow w1.heap.size 21 1 (.slice A2 n c2) n ys ∧ Hid (Lies4 W B w1.heap.size (.slice A1 n c1) n (runes zs)) ∧ Hid (Lies4 W w2.heap.size w3.heap.size (.slice A3 n c3) n (runes zs)) ∧ Hid (Below B w W) ∧ w3.heap.size ≤ W.heap.size) (fun i _ => n - (RowKit.intOf i).toNat)
  case atStart => exact ⟨0, _, _, rfl, rfl, Nat.zero_le _, L2.out.1, L1, L3, B5, by omega⟩
  case round =>
    obtain ⟨j, W, ys, hW, rfl, hj, hown, L1, L3, BW, SW⟩ := hrel
    subst hW
    by_cases hjn : j < n
    · have hjz : (j : Int) < (n : Int) := by omega
      have hlt2 := L2.out.2
      obtain ⟨g, cap, hv, _, hlt⟩ := hown.form (by omega)
      injection hv with hA _ hcc
      subst hA hcc
      have hg2 := hlt2 g rfl
      have hyl := hown.1
      have k1 := hown.cellAt j (by omega)
      rw [List.getElem?_eq_getElem (by omega)] at k1
      have f1 := hown.frozenAt j
      have Hown := Lib.hid hown
      clear hown hlt2
      go_wp2_with fail
      obtain ⟨s1, t1⟩ := Hown.out.stored j (.int .i32 7)
      refine ⟨⟨j + 1, _, _, rfl, rfl, by omega, s1, Lib.hid (L1.out.kept t1 (fun k hk => ?_)), Lib.hid (L3.out.kept t1 (fun k hk => ?_)), Lib.hid (BW.out.grown t1 (by omega) (fun k hk => ?_)), by have := t1.size; omega⟩, by simp [RowKit.intOf]; omega⟩
      · injection hk with hk; subst hk; exact .inr hg2.1
      · injection hk with hk; subst hk; exact .inl hg2.2
      · injection hk with hk; subst hk; show B ≤ g; omega
    · clear hj
      have Hown0 := Lib.hid hown
      have hv0 : ∀ k, (Value.slice A2 n c2).ownBlock = some k → w1.heap.size ≤ k ∧ (k < w2.heap.size ∨ w3.heap.size ≤ k) := fun k hk => by have := L2.out.2 k hk; omega
      have Hv0 := Lib.hid hv0
      clear hown hv0
      go_wp2_with fail
      go_loopw [6, 9] (fun v i wr => ∃ (j : Nat) (W : World) (ys : List Value), W = wr ∧ i = .int .i64 (j : Int) ∧ j ≤ 30 ∧ W.ownsRow w1.heap.size 21 1 v (n + j) ys ∧ Hid (∀ k, v.ownBlock = some k → w1.heap.size ≤ k ∧ (k < w2.heap.size ∨ w3.heap.size ≤ k)) ∧ Hid (Lies4 W B w1.heap.size (.slice A1 n c1) n (runes zs)) ∧ Hid (Lies4 W w2.heap.size w3.heap.size (.slice A3 n c3) n (runes zs)) ∧ Hid (Below B w W) ∧ w3.heap.size ≤ W.heap.size) (fun _ i _ => 30 - (RowKit.intOf i).toNat)
      case atStart => exact ⟨0, _, _, rfl, rfl, Nat.zero_le _, Hown0.out, Hv0, L1, L3, BW, SW⟩
      case round =>
        obtain ⟨q, V, zz, hV, rfl, hq, hown, hvb, L1, L3, BV, SV⟩ := hrel
        subst hV
        by_cases hqn : q < 30
        · have hqz : (q : Int) < 30 := by omega
          have Hown := Lib.hid hown
          clear hown
          go_wp2_with (at_builtin; refine wpList_append_own_at _ rfl _ _ 22 rfl w1.heap.size 21 i0 _ 1 4 Tryd.underlying22 ii hz0 hz1 hz2 rfl (by decide) _ _ _ rfl (Hown.out.alloc _) ⟨V.heap.size, 0, none⟩ 1 1 [.int .i32 8] rfl rfl ?c1 ?c2 ?c3 ?c4 ?c5 ?_)
          try (case c1 => exact new_cells V [.int .i32 8] 21)
          case c2 => simp [Value.oneCell']
          case c3 => unfold maxLen; omega
          case c4 => omega
          case c5 => simp; omega
          intro v' w6 own6 g6 _ hob
          have L1 := Lib.hid ((L1.out.alloc _).kept g6 (fun k hk => .inr (hvb.out k hk).1))
          have L3 := Lib.hid ((L3.out.alloc _).kept g6 (fun k hk => (hvb.out k hk).2))
          have B6 := Lib.hid ((BV.out.alloc (by omega) _).grown g6 (by simp; omega) (fun k hk => by have := (hvb.out k hk).1; omega))
          have S6 : w3.heap.size ≤ w6.heap.size := by have := g6.size; simp at this; omega
          have Hvb : Hid (∀ k, v'.ownBlock = some k → w1.heap.size ≤ k ∧ (k < w2.heap.size ∨ w3.heap.size ≤ k)) := by
            unfold Hid
            intro k hk
            rcases hob with h | h
            · exact hvb.out k (h ▸ hk)
            · rw [h] at hk
              injection hk with hk
              subst hk
              try simp
              omega
          have Hown6 := Lib.hid own6
          clear own6 g6 hob
          go_wp2
          go_roundw
          case rel => exact ⟨q + 1, _, _, rfl, by go_num, by omega, Hown6.out, Hvb, L1, L3, B6, S6⟩
          case measure => simp [RowKit.intOf]; omega
        · obtain rfl : q = 30 := by omega
          obtain ⟨A6, c6, rfl, _, _⟩ := own_shape hown
          have BV := BV
          have wn : IntKind.i64.wrap ((n : Int) + 30) = (n : Int) + 30 := IntWalk.i64_in _ (by omega)
          have hnc : (((n + 30 : Nat) : Int) == (n : Int) + 30) = true := by simp
          have HQ := Lib.hid (by have h := sameRunes_any V _ _ A3 A1 n n c3 c1 zs zs L3.out.rd L1.out.rd hnm; rw [decide_eq_true (rfl : zs = zs)] at h; exact h)
          have SB : B ≤ V.heap.size := by omega
          clear hown hvb
          go_wp2_with fail
          refine HQ.out.mono ?_
          rintro _ w7 ⟨rfl, b7⟩
          have B7 := Lib.hid (BV.out.trans (b7.mono SB))
          have S7 := b7.size
          clear b7
          go_wp2_with fail
          refine (HPr.out _).mono ?_
          rintro _ w8 ⟨rfl, b8⟩
          have B8 := Lib.hid (B7.out.trans (b8.mono (by omega)))
          have S8 := b8.size
          clear b8
          go_wp2_with fail
          refine (HPd.out _).mono ?_
          rintro _ w9 ⟨rfl, b9⟩
          have B9 := Lib.hid (B8.out.trans (b9.mono (by omega)))
          have S9 := b9.size
          clear b9
          go_wp2_with fail
          refine (wakes4_any _ (HT.out _ B9.out)).mono ?_
          rintro _ wz ⟨rfl, bz⟩
          have Bz := Lib.hid (B9.out.trans (bz.mono (by omega)))
          clear bz
          go_wp2_with fail
          go_ret
          exact ⟨rfl, Bz.out⟩
end Go.Proofs.YtakfgeonjamjeaaDoor
