/- NormOrder, walked. -/
import Derived.Test.YtakfgeonjamjeaaDoorROrdW
import Derived.Test.YtakfgeonjamjeaaDoorRowsK
import Derived.Test.YtakfgeonjamjeaaDoorWakes4
namespace Go.Proofs.YtakfgeonjamjeaaDoor
open Go.RowKit Go.Lib

theorem Lies4.front {W : World} {lo hi n c : Nat} {A : Option Addr} {xs : List Int} {more : List Value} (h : Lies4 W lo hi (.slice A (n + 2) c) (n + 2) (runes xs ++ more)) (hl : xs.length = n) : Rd W W.heap.size 1 A n (runes xs) := by
  have hr := h.rd
  refine ⟨by simp [hl], ?_⟩
  rcases Nat.eq_zero_or_pos n with h0 | h0
  · exact .inl h0
  · right
    obtain ⟨a, e, hb, hc⟩ := hr.addr (by omega)
    refine ⟨a, e, hb, fun j u hu => hc j u ?_⟩
    rw [List.getElem?_append_left (List.getElem?_eq_some_iff.1 hu).1]
    exact hu
set_option maxRecDepth 100000 in
set_option maxHeartbeats 8000000 in
theorem order_walk (xs : List Int) (A : Option Addr) (n c : Nat) (w : World) (hrd : Rd w w.heap.size 1 A n (runes xs)) (hnil : A = none → c = 0) (hn : n ≤ 1048576) (hT : Utf8Tabs 0 1 w) :
    Calls Tryd.prog 4 #[.slice A n c] w fun e w' => e = .returned (.bool true) ∧ Below w.heap.size w w' := by
  obtain ⟨i0, ii, hz0, hz1, hz2⟩ := info_parts runeN_info
  have hxl : xs.length = n := by have := hrd.1; simpa using this
  have hw := rOrder_any xs A n c w hrd (by omega)
  have hp := fun A c w h1 h2 => Order_any xs A n c w h1 h2 (by omega)
  obtain ⟨ys, hys⟩ : ∃ ys, ordZ markZ xs = ys := ⟨_, rfl⟩
  rw [hys] at hw
  simp only [hys] at hp
  obtain ⟨B, hB⟩ : ∃ B, w.heap.size = B := ⟨_, rfl⟩
  have Hrd := Lib.hid (fun (W : World) (hb : Below B w W) => (show Rd W W.heap.size 1 A n (runes xs) from (hrd.below (by rw [hB]; exact hb)).more (by rw [hB]; have := hb.size; omega)))
  rw [hB] at hw ⊢
  have Hw := Lib.hid hw
  have Hp := Lib.hid hp
  have HB := Lib.hid hB
  have Hxl := Lib.hid hxl
  have Hnil := Lib.hid hnil
  have HT := Lib.hid (fun (W : World) (h : Below B w W) => (Utf8Tabs_below hT (by rw [hB]; exact h) : Utf8Tabs 0 1 W))
  have hnm : n ≤ maxLen := by unfold maxLen; omega
  clear hw hp hB hT hrd hxl hnil hys
  go_enter Tryd.func4, Tryd.ntmps4
  go_wp2_with fail
  refine Hw.out.mono ?_
  rintro _ w1 ⟨u1, rfl, own1, b1⟩
  obtain ⟨A1, c1, rfl, _, _⟩ := own_shape own1
  have L1 := Lib.hid (Lies4.mk' own1)
  have B1 := Lib.hid b1
  have S1 : B ≤ w1.heap.size := by have := b1.size; have := HB.out; omega
  clear own1 b1
  -- a room of its own: the list, and two behind it
  have Own0 := Lib.hid (World.ownsRow_lit (base := w1.heap.size) (e := 21) (size := 1) w1 (#[] : Array Value) 0 (Nat.le_refl _) (by decide) rfl)
  have Rd0 := Lib.hid (Hrd.out _ (B1.out.alloc S1 (.cells (#[] : Array Value) 21)))
  go_wp2_with (at_builtin; refine wpList_append_rd rfl _ _ 22 rfl w1.heap.size 21 i0 _ 1 4 Tryd.underlying22 ii hz0 hz1 hz2 rfl (by decide) _ 0 _ rfl Own0.out _ A n c (runes xs) rfl Rd0.out Hnil.out (by intro u hu; obtain ⟨z, _, rfl⟩ := List.mem_map.1 hu; rfl) (by unfold maxLen; omega) (by omega) (by simp) ?_)
  intro v2 w2 own2 g2
  have L1 := Lib.hid ((L1.out.alloc _).kept g2 (fun k hk => .inr (by injection hk with hk; subst hk; exact Nat.le_refl _)))
  have B2 := Lib.hid ((B1.out.alloc S1 (.cells (#[] : Array Value) 21)).grown g2 (by simp; omega) (fun k hk => by injection hk with hk; subst hk; exact S1))
  have Own2 := Lib.hid own2
  have S2 : w1.heap.size ≤ w2.heap.size := by have := g2.size; simp at this; omega
  clear own2 g2 Own0 Rd0 B1
  go_wp2_with (at_builtin; refine wpList_append_own _ rfl _ _ 22 rfl w1.heap.size 21 i0 _ 1 4 Tryd.underlying22 ii hz0 hz1 hz2 rfl (by decide) _ _ _ rfl (Own2.out.alloc _) ⟨w2.heap.size, 0, none⟩ 2 2 [.int .i32 65, .int .i32 66] rfl rfl (new_cells w2 [.int .i32 65, .int .i32 66] 21) (by simp [Value.oneCell']) (by unfold maxLen; omega) (by omega) (by simp; omega) ?_)
  intro v3 w3 own3 g3 _
  have L1 := Lib.hid ((L1.out.alloc _).kept g3 (fun k hk => .inr (Own2.out.lt k hk).1))
  have B3 := Lib.hid ((B2.out.alloc (by omega) (.cells #[.int .i32 65, .int .i32 66] 21)).grown g3 (by simp; omega) (fun k hk => Nat.le_trans S1 (Own2.out.lt k hk).1))
  try rw [Nat.zero_add, List.nil_append] at own3
  have S3 : w1.heap.size ≤ w3.heap.size := by have := g3.size; simp at this; omega
  obtain ⟨g, c3, hv3, _, hglt⟩ := own3.form (by omega)
  subst hv3
  have hc3 : n + 2 ≤ c3 := by
    obtain ⟨A', c', hsh, h1, h2⟩ := own_shape own3
    have e : c3 = c' := by injection hsh
    omega
  have L2 := Lib.hid (Lies4.mk' own3)
  have hc30 : ¬ c3 = 0 := by omega
  have hnc3 : (n : Int) ≤ (c3 : Int) := by omega
  clear own3 g3 Own2 B2
  have HP1 := Lib.hid (Hp.out (some ⟨g, 0, none⟩) c3 w3 (L2.out.front Hxl.out) (fun e => by cases e))
  go_wp2_with fail
  refine HP1.out.mono ?_
  rintro _ w4 ⟨A4, c4, rfl, own4, b4⟩
  have L1 := Lib.hid (L1.out.below b4)
  have L2 := Lib.hid (L2.out.below b4)
  have L4 := Lib.hid (Lies4.mk' own4)
  have B4 := Lib.hid (B3.out.trans (b4.mono (by omega)))
  have S4 := b4.size
  clear own4 b4 B3 HP1
  have HP2 := Lib.hid (Hp.out (some ⟨g, 0, none⟩) c3 w4 (L2.out.front Hxl.out) (fun e => by cases e))
  go_wp2_with fail
  refine HP2.out.mono ?_
  rintro _ w5 ⟨A5, c5, rfl, own5, b5⟩
  have L1 := Lib.hid (L1.out.below b5)
  have L2 := Lib.hid (L2.out.below b5)
  have L4 := Lib.hid (L4.out.below b5)
  have L5 := Lib.hid (Lies4.mk' own5)
  have B5 := Lib.hid (B4.out.trans (b5.mono (by omega)))
  have S5 := b5.size
  clear own5 b5 B4 HP2
  have HQ := Lib.hid (by have h := sameRunes_any w5 _ _ A4 A1 n n c4 c1 ys ys L4.out.rd L1.out.rd hnm; rw [decide_eq_true (rfl : ys = ys)] at h; exact h)
  go_wp2_with fail
  refine HQ.out.mono ?_
  rintro _ w6 ⟨rfl, b6⟩
  have L1 := Lib.hid (L1.out.below b6)
  have L2 := Lib.hid (L2.out.below b6)
  have L4 := Lib.hid (L4.out.below b6)
  have L5 := Lib.hid (L5.out.below b6)
  have B6 := Lib.hid (B5.out.trans (b6.mono (by omega)))
  have S6 := b6.size
  clear b6 B5 HQ
  have HQ := Lib.hid (by have h := sameRunes_any w6 _ _ A5 A1 n n c5 c1 ys ys L5.out.rd L1.out.rd hnm; rw [decide_eq_true (rfl : ys = ys)] at h; exact h)
  go_wp2_with fail
  refine HQ.out.mono ?_
  rintro _ w7 ⟨rfl, b7⟩
  have L1 := Lib.hid (L1.out.below b7)
  have L2 := Lib.hid (L2.out.below b7)
  have L4 := Lib.hid (L4.out.below b7)
  have L5 := Lib.hid (L5.out.below b7)
  have B7 := Lib.hid (B6.out.trans (b7.mono (by omega)))
  have S7 := b7.size
  clear b7 B6 HQ
  have HQ := Lib.hid (by have h := sameRunes_any w7 _ _ (some ⟨g, 0, none⟩) A n n c3 c xs xs (L2.out.front Hxl.out) (Hrd.out _ B7.out) hnm; rw [decide_eq_true (rfl : xs = xs)] at h; exact h)
  go_wp2_with fail
  refine HQ.out.mono ?_
  rintro _ w8 ⟨rfl, b8⟩
  have L1 := Lib.hid (L1.out.below b8)
  have L2 := Lib.hid (L2.out.below b8)
  have L4 := Lib.hid (L4.out.below b8)
  have L5 := Lib.hid (L5.out.below b8)
  have B8 := Lib.hid (B7.out.trans (b8.mono (by omega)))
  have S8 := b8.size
  clear b8 B7 HQ
  go_wp2_with fail
  go_loopw [8] (fun i wr => ∃ (j : Nat) (W : World) (zz : List Value), W = wr ∧ i = .int .i64 (j : Int) ∧ j ≤ n ∧ W.ownsRow w3.heap.size 21 1 (.slice A4 n c4) n zz ∧ Hid (Lies4 W B w1.heap.size (.slice A1 n c1) n (runes ys)) ∧ Hid (Lies4 W w1.heap.size w3.heap.size (.slice (some ⟨g, 0, none⟩) (n + 2) c3) (n + 2) (runes xs ++ [.int .i32 65, .int .i32 66])) ∧ Hid (Lies4 W w4.heap.size w5.heap.size (.slice A5 n c5) n (runes ys)) ∧ Hid (Below B w W) ∧ w5.heap.size ≤ W.heap.size) (fun i _ => n - (RowKit.intOf i).toNat)
  case atStart => exact ⟨0, _, _, rfl, rfl, Nat.zero_le _, L4.out.1, L1, L2, L5, B8, by omega⟩
  case round =>
    obtain ⟨j, W, zz, hW, rfl, hj, hown, L1, L2, L5, BW, SW⟩ := hrel
    subst hW
    by_cases hjn : j < n
    · have hjz : (j : Int) < (n : Int) := by omega
      have hlt4 := L4.out.2
      obtain ⟨ga, cap, hv, _, hlt⟩ := hown.form (by omega)
      injection hv with hA _ hcc
      subst hA hcc
      have hg4 := hlt4 ga rfl
      have hyl := hown.1
      have k1 := hown.cellAt j (by omega)
      rw [List.getElem?_eq_getElem (by omega)] at k1
      have f1 := hown.frozenAt j
      have Hown := Lib.hid hown
      clear hown hlt4
      go_wp2_with fail
      obtain ⟨s1, t1⟩ := Hown.out.stored j (.int .i32 7)
      refine ⟨⟨j + 1, _, _, rfl, rfl, by omega, s1, Lib.hid (L1.out.kept t1 (fun k hk => ?_)), Lib.hid (L2.out.kept t1 (fun k hk => ?_)), Lib.hid (L5.out.kept t1 (fun k hk => ?_)), Lib.hid (BW.out.grown t1 (by omega) (fun k hk => ?_)), by have := t1.size; omega⟩, by simp [RowKit.intOf]; omega⟩
      · injection hk with hk; subst hk; exact .inr (by omega)
      · injection hk with hk; subst hk; exact .inr (by omega)
      · injection hk with hk; subst hk; exact .inl (by omega)
      · injection hk with hk; subst hk; show B ≤ ga; omega
    · clear hj
      have Hown0 := Lib.hid hown
      have hv0 : ∀ k, (Value.slice A4 n c4).ownBlock = some k → w3.heap.size ≤ k ∧ (k < w4.heap.size ∨ w5.heap.size ≤ k) := fun k hk => by have := L4.out.2 k hk; omega
      have Hv0 := Lib.hid hv0
      clear hown hv0
      go_wp2_with fail
      go_loopw [6, 9] (fun v i wr => ∃ (j : Nat) (W : World) (zz : List Value), W = wr ∧ i = .int .i64 (j : Int) ∧ j ≤ 30 ∧ W.ownsRow w3.heap.size 21 1 v (n + j) zz ∧ Hid (∀ k, v.ownBlock = some k → w3.heap.size ≤ k ∧ (k < w4.heap.size ∨ w5.heap.size ≤ k)) ∧ Hid (Lies4 W B w1.heap.size (.slice A1 n c1) n (runes ys)) ∧ Hid (Lies4 W w1.heap.size w3.heap.size (.slice (some ⟨g, 0, none⟩) (n + 2) c3) (n + 2) (runes xs ++ [.int .i32 65, .int .i32 66])) ∧ Hid (Lies4 W w4.heap.size w5.heap.size (.slice A5 n c5) n (runes ys)) ∧ Hid (Below B w W) ∧ w5.heap.size ≤ W.heap.size) (fun _ i _ => 30 - (RowKit.intOf i).toNat)
      case atStart => exact ⟨0, _, _, rfl, rfl, Nat.zero_le _, Hown0.out, Hv0, L1, L2, L5, BW, SW⟩
      case round =>
        obtain ⟨q, V, zz, hV, rfl, hq, hown, hvb, L1, L2, L5, BV, SV⟩ := hrel
        subst hV
        by_cases hqn : q < 30
        · have hqz : (q : Int) < 30 := by omega
          have Hown := Lib.hid hown
          clear hown
          go_wp2_with (at_builtin; refine wpList_append_own_at _ rfl _ _ 22 rfl w3.heap.size 21 i0 _ 1 4 Tryd.underlying22 ii hz0 hz1 hz2 rfl (by decide) _ _ _ rfl (Hown.out.alloc _) ⟨V.heap.size, 0, none⟩ 1 1 [.int .i32 8] rfl rfl ?c1 ?c2 ?c3 ?c4 ?c5 ?_)
          try (case c1 => exact new_cells V [.int .i32 8] 21)
          case c2 => simp [Value.oneCell']
          case c3 => unfold maxLen; omega
          case c4 => omega
          case c5 => simp; omega
          intro v' w6 own6 g6 _ hob
          have L1 := Lib.hid ((L1.out.alloc _).kept g6 (fun k hk => .inr (by have := (hvb.out k hk).1; omega)))
          have L2 := Lib.hid ((L2.out.alloc _).kept g6 (fun k hk => .inr (hvb.out k hk).1))
          have L5 := Lib.hid ((L5.out.alloc _).kept g6 (fun k hk => (hvb.out k hk).2))
          have B6 := Lib.hid ((BV.out.alloc (by omega) _).grown g6 (by simp; omega) (fun k hk => by have := (hvb.out k hk).1; omega))
          have S6 : w5.heap.size ≤ w6.heap.size := by have := g6.size; simp at this; omega
          have Hvb : Hid (∀ k, v'.ownBlock = some k → w3.heap.size ≤ k ∧ (k < w4.heap.size ∨ w5.heap.size ≤ k)) := by
            unfold Hid
            intro k hk
            rcases hob with h | h
            · exact hvb.out k (h ▸ hk)
            · rw [h] at hk
              injection hk with hk
              subst hk
              try simp
              omega
          have Hown6 := Lib.hid own6
          clear own6 g6 hob
          go_wp2
          go_roundw
          case rel => exact ⟨q + 1, _, _, rfl, by go_num, by omega, Hown6.out, Hvb, L1, L2, L5, B6, S6⟩
          case measure => simp [RowKit.intOf]; omega
        · obtain rfl : q = 30 := by omega
          obtain ⟨A6, c6, rfl, _, _⟩ := own_shape hown
          have wn : IntKind.i64.wrap ((n : Int) + 30) = (n : Int) + 30 := IntWalk.i64_in _ (by omega)
          have hnc : (((n + 30 : Nat) : Int) == (n : Int) + 30) = true := by simp
          have wn1 : IntKind.i64.wrap ((n : Int) + 1) = (n : Int) + 1 := IntWalk.i64_in _ (by omega)
          have nn1 : ((n : Int) + 1).toNat = n + 1 := by omega
          have nn2 : (0 : Int) ≤ (n : Int) + 1 := by omega
          have nn3 : (n : Int) + 1 < ((n + 2 : Nat) : Int) := by omega
          have nn4 : (n : Int) < ((n + 2 : Nat) : Int) := by omega
          have nn5 : (n : Int) + 1 < (n : Int) + 2 := by omega
          have nn6 : (n : Int) < (n : Int) + 2 := by omega
          have SB : B ≤ V.heap.size := by omega
          have HQ := Lib.hid (by have h := sameRunes_any V _ _ A5 A1 n n c5 c1 ys ys L5.out.rd L1.out.rd hnm; rw [decide_eq_true (rfl : ys = ys)] at h; exact h)
          clear hown hvb
          go_wp2_with fail
          refine HQ.out.mono ?_
          rintro _ wa ⟨rfl, ba⟩
          have L2 := Lib.hid (L2.out.below ba)
          have Ba := Lib.hid (BV.out.trans (ba.mono SB))
          have Sa := ba.size
          clear ba HQ
          have HQ := Lib.hid (by have h := sameRunes_any wa _ _ (some ⟨g, 0, none⟩) A n n c3 c xs xs (L2.out.front Hxl.out) (Hrd.out _ Ba.out) hnm; rw [decide_eq_true (rfl : xs = xs)] at h; exact h)
          go_wp2_with fail
          refine HQ.out.mono ?_
          rintro _ wb ⟨rfl, bb⟩
          have L2 := Lib.hid (L2.out.below bb)
          have Bb := Lib.hid (Ba.out.trans (bb.mono (by omega)))
          have Sb := bb.size
          clear bb HQ
          have r1 : wb.cell? ⟨g, n, none⟩ = some (.int .i32 65) := by
            rw [L2.out.1.cellAt n (by omega), List.getElem?_append_right (by simp [Hxl.out])]
            simp [Hxl.out]
          have r2 : wb.cell? ⟨g, n + 1, none⟩ = some (.int .i32 66) := by
            rw [L2.out.1.cellAt (n + 1) (by omega), List.getElem?_append_right (by simp [Hxl.out])]
            simp [Hxl.out]
          have HW := Lib.hid (wakes4_any wb (HT.out _ Bb.out))
          go_wp2_with fail
          refine HW.out.mono ?_
          rintro _ wz ⟨rfl, bz⟩
          have Bz := Lib.hid (Bb.out.trans (bz.mono (by omega)))
          clear bz
          go_wp2_with fail
          go_ret
          exact ⟨rfl, Bz.out⟩
end Go.Proofs.YtakfgeonjamjeaaDoor
