/- ClassSpans, walked. -/
import Derived.Test.YthakdkpgobloiabWantN
namespace Go.Proofs.Ythakdkpgobloiab
open Go.RowKit Go.Lib

theorem lies_N {w : World} {A : Option Addr} {l : List (Nat × Nat)} (h : Lies w A l) (q : Nat) : Lies (w.drewN q) A l := h
theorem ne_own {v : Value} {row : Option Nat} {b : Nat} (h : ∀ k, v.ownBlock = some k → k < b) (h' : ∀ k, row = some k → b ≤ k) : v.ownBlock = none ∨ v.ownBlock ≠ row := by
  cases e : v.ownBlock with
  | none => exact .inl rfl
  | some k =>
    refine .inr fun e' => ?_
    have := h k e
    have := h' k e'.symm
    omega
theorem ne_own' {v : Value} {row : Option Nat} {b : Nat} (h : ∀ k, v.ownBlock = some k → b ≤ k) (h' : ∀ k, row = some k → k < b) : v.ownBlock = none ∨ v.ownBlock ≠ row := by
  cases e : v.ownBlock with
  | none => exact .inl rfl
  | some k =>
    refine .inr fun e' => ?_
    have := h k e
    have := h' k e'.symm
    omega
set_option maxRecDepth 100000 in
set_option maxHeartbeats 4000000 in
theorem spans_law (t v : Int) (w : World) : Calls Try.prog 5 #[.int .i8 t, .int .i64 v] w fun e w' => e = .returned (.bool true) ∧ Below w.heap.size w w' := by
  obtain ⟨B, hB⟩ : ∃ B, w.heap.size = B := ⟨_, rfl⟩
  obtain ⟨i0, ii, hz0, hz1, hz2⟩ := info_parts span_info
  have hw := fun W => want_any t v W
  have hp := fun W => Spans_any t v W
  have hlen := (spans_small t v).1
  rw [hB]
  revert hw hp hlen
  generalize spansFrom (tabAt t) v = l
  intro hw hp hlen
  obtain ⟨n, hn⟩ : ∃ n, l.length = n := ⟨_, rfl⟩
  rw [hn] at hw hp hlen
  have Hw := Lib.hid hw
  have Hp := Lib.hid hp
  have Hn := Lib.hid hn
  have HB := Lib.hid hB
  clear hw hp hn hB
  go_enter Try.func5, Try.ntmps5
  go_wp2_with fail
  refine (Hw.out _).mono ?_
  rintro _ w1 ⟨u1, rfl, own1, b1⟩
  rw [HB.out] at own1 b1
  obtain ⟨A1, c1, rfl, hnc1, hcm1⟩ := own_shape own1
  have Own1 := Lib.hid own1
  have B1 := Lib.hid b1
  have Lt1 := Lib.hid Own1.out.lt
  have S1 : B ≤ w1.heap.size := by have := b1.size; have := HB.out; omega
  clear own1 b1
  go_wp2_with fail
  refine (Hp.out _).mono ?_
  rintro _ w2 ⟨u2, rfl, own2, b2⟩
  obtain ⟨A2, c2, rfl, hnc2, hcm2⟩ := own_shape own2
  have Own1 := Lib.hid (own_below Own1.out b2)
  have Own2 := Lib.hid own2
  have B2 := Lib.hid (B1.out.trans (b2.mono S1))
  have S2 := b2.size
  have Lt2 := Lib.hid Own2.out.lt
  clear own2 b2 B1
  go_wp2_with fail
  refine (Hp.out _).mono ?_
  rintro _ w3 ⟨u3, rfl, own3, b3⟩
  obtain ⟨A3, c3, rfl, hnc3, hcm3⟩ := own_shape own3
  have Own1 := Lib.hid (own_below Own1.out b3)
  have Own2 := Lib.hid (own_below Own2.out b3)
  have Own3 := Lib.hid own3
  have B3 := Lib.hid (B2.out.trans (b3.mono (by omega)))
  have Lt3 := Lib.hid Own3.out.lt
  have S3 := b3.size
  clear own3 b3 B2
  have L1 := Lib.hid (own_lies Hn.out.symm Own1.out)
  have L2 := Lib.hid (own_lies Hn.out.symm Own2.out)
  have L3 := Lib.hid (own_lies Hn.out.symm Own3.out)
  go_wp2_with fail
  refine (same_yes l n Hn.out (by omega) A2 A1 c2 c1 _ L2.out L1.out).mono ?_
  rintro _ w4 ⟨rfl, q, rfl⟩
  go_wp2_with fail
  refine (same_yes l n Hn.out (by omega) A3 A1 c3 c1 _ (lies_N L3.out q) (lies_N L1.out q)).mono ?_
  rintro _ w5 ⟨rfl, q2, rfl⟩
  have Own1 := Lib.hid (own_N (own_N Own1.out q) q2)
  have Own2 := Lib.hid (own_N (own_N Own2.out q) q2)
  have Own3 := Lib.hid (own_N (own_N Own3.out q) q2)
  have B3 := Lib.hid (below_N (below_N B3.out q) q2)
  have S3 : w2.heap.size ≤ ((w3.drewN q).drewN q2).heap.size := S3
  clear L1 L2 L3
  revert Own1 Own2 Own3 B3 S3
  generalize (w3.drewN q).drewN q2 = w4
  intro Own1 Own2 Own3 B3 S3
  go_wp2_with fail
  go_loopw [31] (fun i wr => ∃ (j : Nat) (W : World) (ys : List Value), W = wr ∧ i = .int .i64 (j : Int) ∧ j ≤ n ∧ W.ownsRow w1.heap.size 35 2 (.slice A2 n c2) n ys ∧ w4.grownBy W (Value.ownBlock (.slice A2 n c2))) (fun i _ => n - (RowKit.intOf i).toNat)
  case atStart => exact ⟨0, _, _, rfl, rfl, Nat.zero_le _, Own2.out, World.grownBy.refl _ _⟩
  case round =>
    obtain ⟨j, W, ys, hW, rfl, hj, hown, hgr⟩ := hrel
    subst hW
    by_cases hjn : j < n
    · have hjz : (j : Int) < (n : Int) := by omega
      obtain ⟨g, cap, hv, _, hlt⟩ := hown.form (by omega)
      injection hv with hA _ hcc
      subst hA hcc
      have hyl := hown.1
      have k1 := hown.cellAt (j * 2) (by omega)
      have k2 := hown.cellAt (j * 2 + 1) (by omega)
      rw [List.getElem?_eq_getElem (by omega)] at k1 k2
      have f1 := hown.frozenAt (j * 2)
      have f2 := hown.frozenAt (j * 2 + 1)
      have Hgr := Lib.hid hgr
      have Hown := Lib.hid hown
      clear hgr hown
      go_wp2_with fail
      obtain ⟨s1, t1⟩ := Hown.out.stored (j * 2) (.int .i32 (-1))
      obtain ⟨s2, t2⟩ := s1.stored (j * 2 + 1) (.int .i32 (-1))
      exact ⟨⟨j + 1, _, _, rfl, rfl, by omega, s2, (Hgr.out.trans t1).trans t2⟩, by simp [RowKit.intOf]; omega⟩
    · have hbz : w1.heap.size ≤ W.heap.size := by have := hgr.size; omega
      have hbB : B ≤ W.heap.size := by omega
      have Ow1 := Lib.hid (Own1.out.kept hgr (ne_own (b := w1.heap.size) (fun k hk => (Lt1.out k hk).2) (fun k hk => (Lt2.out k hk).1)))
      have Ow3 := Lib.hid (Own3.out.kept hgr (ne_own' (b := w2.heap.size) (fun k hk => (Lt3.out k hk).1) (fun k hk => (Lt2.out k hk).2)))
      have BW := Lib.hid (B3.out.grown hgr (by omega) (fun k hk => by have := (Lt2.out k hk).1; omega))
      have Hown := Lib.hid hown
      clear hgr hown
      have h63 : n + 3 ≤ maxLen := by unfold maxLen; omega
      have hby : (n + 3) * 8 ≤ 140737488355328 := by omega
      go_wp2_with (at_builtin; refine wpList_append_own _ rfl (.tmp 39) (.tmp 43) 31 rfl w1.heap.size 35 i0 _ 2 8 Try.underlying31 ii hz0 hz1 hz2 rfl (by decide) _ n ys rfl (Hown.out.alloc _) ⟨W.heap.size, 0, none⟩ 3 3 [.int .i32 0, .int .i32 0, .int .i32 0, .int .i32 0, .int .i32 0, .int .i32 0] rfl rfl (new_cells W [.int .i32 0, .int .i32 0, .int .i32 0, .int .i32 0, .int .i32 0, .int .i32 0] 35) (by simp [Value.oneCell']) h63 hby (Nat.le_trans hbz (by simp)) ?_; intro v5 w5 own5 g5 _; have Ow1 := Lib.hid ((Ow1.out.alloc _).kept g5 (ne_own (b := w1.heap.size) (fun k hk => (Lt1.out k hk).2) (fun k hk => (Lt2.out k hk).1))); have Ow3 := Lib.hid ((Ow3.out.alloc _).kept g5 (ne_own' (b := w2.heap.size) (fun k hk => (Lt3.out k hk).1) (fun k hk => (Lt2.out k hk).2))); have B5 := Lib.hid ((BW.out.alloc hbB _).grown g5 (Nat.le_trans hbB (by simp)) (fun k hk => by have := (Lt2.out k hk).1; omega)); obtain ⟨A5, c5, hv5, _, _⟩ := own_shape own5; subst hv5; clear own5 g5)
      have L3 := Lib.hid (own_lies Hn.out.symm Ow3.out)
      have L1 := Lib.hid (own_lies Hn.out.symm Ow1.out)
      refine (same_yes l n Hn.out (by omega) A3 A1 c3 c1 _ L3.out L1.out).mono ?_
      rintro _ w6 ⟨rfl, q, rfl⟩
      have Ow1 := Lib.hid (own_N Ow1.out q)
      have B6 := Lib.hid (below_N B5.out q)
      clear L1 L3 B5
      revert Ow1 B6
      generalize w5.drewN q = w6
      intro Ow1 B6
      have S6 : B ≤ w6.heap.size := by have := B6.out.size; have := HB.out; omega
      go_wp2_with fail
      refine (Hp.out _).mono ?_
      rintro _ w7 ⟨u7, rfl, own7, b7⟩
      obtain ⟨A7, c7, rfl, _, _⟩ := own_shape own7
      have L7 := Lib.hid (own_lies Hn.out.symm own7)
      have L1 := Lib.hid (own_lies Hn.out.symm (own_below Ow1.out b7))
      have B7 := Lib.hid (B6.out.trans (b7.mono S6))
      have S7 := b7.size
      clear own7 b7
      go_wp2_with fail
      refine (same_yes l n Hn.out (by omega) A7 A1 c7 c1 _ L7.out L1.out).mono ?_
      rintro _ w8 ⟨rfl, q, rfl⟩
      have B8 := Lib.hid (below_N B7.out q)
      have S8 : B ≤ (w7.drewN q).heap.size := Nat.le_trans S6 S7
      clear L1 L7
      revert B8 S8
      generalize w7.drewN q = w8
      intro B8 S8
      have hwn : IntKind.i64.wrap ((n : Int) + 3) = (n : Int) + 3 := IntWalk.i64_in _ (by omega)
      go_wp2_with fail
      refine (works_any _).mono ?_
      rintro _ w9 ⟨rfl, b9⟩
      have B9 := Lib.hid (B8.out.trans (b9.mono S8))
      clear b9
      go_wp2_with fail
      go_ret
      exact ⟨rfl, B9.out⟩
theorem spanslaw_walk (t v : Int) (w : World) (_ : (Lit.int .i8 t).wf = true) (_ : (Lit.int .i64 v).wf = true) : Calls Try.prog 5 #[.int .i8 t, .int .i64 v] w fun e w' => e = .returned (.bool true) ∧ Below w.heap.size w w' := spans_law t v w
end Go.Proofs.Ythakdkpgobloiab
