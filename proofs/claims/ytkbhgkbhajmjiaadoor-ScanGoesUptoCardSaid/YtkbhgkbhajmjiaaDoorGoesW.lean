/- ScanGoes, walked. -/
import Derived.Test.YtkbhgkbhajmjiaaDoorRefBk
import Derived.Test.YtkbhgkbhajmjiaaDoorScanC
import Derived.Laws.EntriesVeiled
namespace Go.Proofs.YtkbhgkbhajmjiaaDoor
open Go.RowKit Go.Shelf Go.Lib
attribute [local go_sem] Oper.semAt_some

theorem cell_lt {w : World} {a : Addr} {v : Value} (h : w.cell? a = some v) : a.block < w.heap.size := by
  rcases Nat.lt_or_ge a.block w.heap.size with h' | h'
  · exact h'
  · simp [World.cell?, Array.getElem?_eq_none h'] at h
theorem goes_all (s : ByteArray) (Bn : Nat) (A : Option Addr) (n c base : Nat) (most : Int) (w : World) (hs : s.size ≤ 1073741824) (hc : w.cell? ⟨Bn, 0, none⟩ = some (.string s))
    (hrow : w.ownsRow base 43 4 (.slice A n c) n (ones 0 (segs s.data.toList))) (hn : n = (places s).length) :
    Calls Tryd.prog 37 #[.func (.func 55) #[] #[.pointer (some ⟨Bn, 0, none⟩)], .slice A n c, .int .i64 most] w fun e w' => e = .returned (.bool true) ∧ Below w.heap.size w w' :=
  goes_any 55 Bn (places s) A n c base (ones 0 (segs s.data.toList)) most w (enters_of Tryd.func55 (by kernel_rfl) rfl) (fun W => by rfl)
    (fun W hb => seqAll Fence.wide 8 trivial rfl (by omega) Bn w.heap.size s W (cell_lt hc) ((hb.cell (cell_lt hc)).trans hc)) hrow hn (fun j x h => all_list s h)
    (by have := segs_len s.data.toList; rw [size_list] at this; rw [places_len]; omega)
theorem goes_back (s : ByteArray) (Bn : Nat) (A : Option Addr) (n c base : Nat) (xs : List Value) (most : Int) (w : World) (hs : s.size ≤ 1073741824) (hT : Utf8Tabs 0 1 w) (hc : w.cell? ⟨Bn, 0, none⟩ = some (.string s))
    (hrow : w.ownsRow base 43 4 (.slice A n c) n xs) (hn : n = (places s).length) (hxs : ∀ j x, (places s).reverse[j]? = some x → xs[4 * j]? = some (.int .i64 (x.1 : Int)) ∧ xs[4 * j + 1]? = some (.int .i32 (x.2 : Int))) :
    Calls Tryd.prog 37 #[.func (.func 56) #[] #[.pointer (some ⟨Bn, 0, none⟩)], .slice A n c, .int .i64 most] w fun e w' => e = .returned (.bool true) ∧ Below w.heap.size w w' :=
  goes_any 56 Bn (places s).reverse A n c base xs most w (enters_of Tryd.func56 (by kernel_rfl) rfl) (fun W => by rfl)
    (fun W hb => by
      have := seqBack 8 (by omega) Bn w.heap.size s W (cell_lt hc) (tabs_size hT) ((hb.cell (cell_lt hc)).trans hc) (by unfold maxLen; omega) (Utf8Tabs_below hT hb)
      rw [← List.length_reverse] at this
      exact this) hrow (by rw [List.length_reverse]; exact hn) hxs
    (by have := segs_len s.data.toList; rw [size_list] at this; rw [List.length_reverse, places_len]; omega)

structure GEnv (s : ByteArray) (B B1 B2 : Nat) (A1 A2 : Option Addr) (m c1 c2 : Nat) (N : Int) (xs2 : List Value) (W : World) : Prop where
  size : B2 + 6 ≤ W.heap.size
  u8 : Utf8Tabs 0 1 W
  res : Boxed W B 4 (.bool false)
  x5 : Boxed W B1 36 (.slice A1 m c1)
  x6 : Boxed W B2 36 (.slice A2 m c2)
  x7 : Boxed W (B2 + 1) 3 (.int .i64 N)
  xa : Boxed W (B2 + 1 + 1) 9 (.string s)
  x8 : Boxed W (B2 + 1 + 1 + 1) 39 (.func (.func 55) #[] #[.pointer (some ⟨B2 + 1 + 1, 0, none⟩)])
  xb : Boxed W (B2 + 1 + 1 + 1 + 1) 9 (.string s)
  x9 : Boxed W (B2 + 1 + 1 + 1 + 1 + 1) 39 (.func (.func 56) #[] #[.pointer (some ⟨B2 + 1 + 1 + 1 + 1, 0, none⟩)])
  row1 : W.ownsRow (B + 1) 43 4 (.slice A1 m c1) m (ones 0 (segs s.data.toList))
  row2 : W.ownsRow (B1 + 1) 43 4 (.slice A2 m c2) m xs2
  lt1 : ∀ k, (Value.slice A1 m c1).ownBlock = some k → k < B2 + 6
  lt2 : ∀ k, (Value.slice A2 m c2).ownBlock = some k → k < B2 + 6
theorem GEnv.below {s : ByteArray} {B B1 B2 : Nat} {A1 A2 : Option Addr} {m c1 c2 : Nat} {N : Int} {xs2 : List Value} {W W' : World} {b : Nat} (h : GEnv s B B1 B2 A1 A2 m c1 c2 N xs2 W) (hb : Below b W W') (hz : B2 + 6 ≤ b) (h1 : B < B1) (h2 : B1 < B2) : GEnv s B B1 B2 A1 A2 m c1 c2 N xs2 W' :=
  ⟨by have := h.size; have := hb.size; omega, (⟨hb.size, fun k _ hk => hb.block k (hk.elim id False.elim)⟩ : KeepT b (fun _ => False) W W').u8 (by omega) h.u8,
   (hb.block _ (by omega)).trans h.res, (hb.block _ (by omega)).trans h.x5, (hb.block _ (by omega)).trans h.x6, (hb.block _ (by omega)).trans h.x7, (hb.block _ (by omega)).trans h.xa, (hb.block _ (by omega)).trans h.x8, (hb.block _ (by omega)).trans h.xb, (hb.block _ (by omega)).trans h.x9,
   row_same h.row1 (fun k hk => hb.block k (by have := h.lt1 k hk; omega)), row_same h.row2 (fun k hk => hb.block k (by have := h.lt2 k hk; omega)), h.lt1, h.lt2⟩

set_option maxRecDepth 100000 in
set_option maxHeartbeats 4000000 in
theorem goes_walk (s : ByteArray) (most : Int) (w : World) (hs : s.size ≤ 1073741824) (hT : Utf8Tabs 0 1 w) :
    Calls Tryd.prog 6 #[.string s, .int .i64 most] w fun e w' => e = .returned (.bool true) ∧ Below w.heap.size w w' := by
  obtain ⟨B, hB⟩ : ∃ B, w.heap.size = B := ⟨_, rfl⟩
  have h2 : 2 ≤ w.heap.size := tabs_size hT
  obtain ⟨m, hm⟩ : ∃ m, (places s).length = m := ⟨_, rfl⟩
  have hms : m ≤ 1073741824 := by
    have := segs_len s.data.toList
    rw [size_list] at this
    rw [← hm, places_len]
    omega
  rw [hB] at h2 ⊢
  have Hall := Lib.hid (fun W => all_any s W hs)
  have Hbk := Lib.hid (fun W => refBack_any s W hs)
  have Hbm := Lib.hid (fun W => back_maker s W)
  have Ham := Lib.hid (fun W => all_mk s W)
  have HT := Lib.hid hT
  have HB := Lib.hid hB
  have Hm := Lib.hid hm
  clear hT hm
  refine (callsIn_wide (n := 9)).1 ?_
  refine callsIn_of_wp_marks Tryd.func6 rfl trivial ?_ rfl
  refine wpIn_wide.2 ?_
  simp only [Tryd.ntmps6, List.size_toArray, List.length_cons, List.length_nil, Nat.reduceAdd, Nat.reduceSub, Array.replicate_succ, Array.replicate_zero, List.push_toArray, List.append_toArray, List.nil_append, List.cons_append]
  go_wp2_with fail
  refine (Hall.out _).mono ?_
  rintro _ w1 ⟨v1, rfl, row1, bl1⟩
  have hsz0 : (w.alloc (.cells #[.bool false] 4)).heap.size = B + 1 := by simp [hB]
  rw [hsz0] at row1 bl1
  rw [← places_len, Hm.out] at row1
  have bt1 : Boxed w1 B 4 (.bool false) := (bl1.block B (by omega)).trans (by have := Boxed.new w 4 (.bool false); rwa [hB] at this)
  have bw1 : Below B w w1 := ((Below.refl B w).alloc (by omega) _).trans (bl1.mono (by omega))
  obtain ⟨A1, c1, rfl, hnc1, hcx1⟩ := own_shape row1
  obtain ⟨B1, hB1⟩ : ∃ B1, w1.heap.size = B1 := ⟨_, rfl⟩
  have HB1 := Lib.hid hB1
  have Row1 := Lib.hid row1
  have Bt1 := Lib.hid bt1
  have Bw1 := Lib.hid bw1
  have hle1 : B + 1 ≤ B1 := by have := bl1.size; omega
  clear row1 bt1 bw1 bl1 hsz0
  go_wp2_with fail
  refine (Hbk.out _).mono ?_
  rintro _ w2 ⟨v2, xs2, rfl, row2, hx2, bl2⟩
  have hsz0 : (w1.alloc (.cells #[.slice A1 m c1] 36)).heap.size = B1 + 1 := by simp [hB1]
  rw [hsz0] at row2 bl2
  rw [Hm.out] at row2
  have bw2 : Below B1 w1 w2 := ((Below.refl B1 w1).alloc (by omega) _).trans (bl2.mono (by omega))
  have bx5 : Boxed w2 B1 36 (.slice A1 m c1) := (bl2.block B1 (by omega)).trans (by have := Boxed.new w1 36 (.slice A1 m c1); rwa [hB1] at this)
  obtain ⟨A2, c2, rfl, hnc2, hcx2⟩ := own_shape row2
  obtain ⟨B2, hB2⟩ : ∃ B2, w2.heap.size = B2 := ⟨_, rfl⟩
  have hle2 : B1 + 1 ≤ B2 := by have := bl2.size; omega
  have hc5 := (bx5.alloc (.cells #[.slice A2 m c2] 36)).cell
  have Row2 := Lib.hid row2
  have Hx2 := Lib.hid hx2
  have Bx5 := Lib.hid bx5
  have Bw2 := Lib.hid bw2
  clear row2 bx5 bw2 bl2 hx2 hsz0 hB hB1
  go_wp2_with fail
  obtain ⟨N, hN⟩ : ∃ N : Int, min (max most 0) (m : Int) = N := ⟨_, rfl⟩
  obtain ⟨Wz, hWz⟩ : ∃ Wz, ((((((w2.alloc (.cells #[.slice A2 m c2] 36)).alloc (.cells #[.int .i64 N] 3)).alloc (.cells #[.string s] 9)).alloc
    (.cells #[.func (.func 55) #[] #[.pointer (some ⟨B2 + 1 + 1, 0, none⟩)]] 39)).alloc (.cells #[.string s] 9)).alloc
    (.cells #[.func (.func 56) #[] #[.pointer (some ⟨B2 + 1 + 1 + 1 + 1, 0, none⟩)]] 39)) = Wz := ⟨_, rfl⟩
  have hbz : Below B2 w2 Wz := by rw [← hWz]; exact ((((((Below.refl B2 w2).alloc (by omega) _).alloc (by simp; omega) _).alloc (by simp; omega) _).alloc (by simp; omega) _).alloc (by simp; omega) _).alloc (by simp; omega) _
  have hszz : Wz.heap.size = B2 + 6 := by rw [← hWz]; simp [hB2]
  have hbz1 : Below B1 w1 Wz := Bw2.out.trans (hbz.mono (by omega))
  have hbzw : Below B w Wz := Bw1.out.trans (hbz1.mono (by omega))
  have hlt1 : ∀ k, (Value.slice A1 m c1).ownBlock = some k → k < B1 := fun k hk => by have := (Row1.out.lt k hk).2; have := HB1.out; omega
  have hlt2 : ∀ k, (Value.slice A2 m c2).ownBlock = some k → k < B2 := fun k hk => by have := (Row2.out.lt k hk).2; omega
  have henv : GEnv s B B1 B2 A1 A2 m c1 c2 N xs2 Wz := by
    refine ⟨by omega, ?_, (hbz1.block B (by omega)).trans Bt1.out, (hbz.block B1 (by omega)).trans Bx5.out, ?_, ?_, ?_, ?_, ?_, ?_, row_same Row1.out (fun k hk => hbz1.block k (hlt1 k hk)), row_same Row2.out (fun k hk => hbz.block k (hlt2 k hk)), fun k hk => by have := hlt1 k hk; omega, fun k hk => by have := hlt2 k hk; omega⟩
    · exact (⟨hbzw.size, fun k _ hk => hbzw.block k (hk.elim id False.elim)⟩ : KeepT B (fun _ => False) w Wz).u8 h2 HT.out
    all_goals
      rw [← hWz]
      simp only [Boxed, alloc_get, World.size_alloc, hB2]
      repeat rw [if_neg (by omega)]
      simp
  have hc6 := henv.x6.cell
  have hc7 := henv.x7.cell
  have hc8 := henv.x8.cell
  have hc9 := henv.x9.cell
  have hc5 := henv.x5.cell
  have Henv := Lib.hid henv
  have Hbzw := Lib.hid hbzw
  clear henv hbzw hbz hbz1 hlt1 hlt2
  refine (Ham.out _).mono ?_
  rintro _ w3 ⟨rfl, rfl⟩
  go_wp2_with fail
  refine (Hbm.out _).mono ?_
  rintro _ w4 ⟨rfl, rfl⟩
  go_wp2_with fail
  have E0 := Henv
  have S0 : Hid (Below (B2 + 6) Wz Wz) := Lib.hid (Below.refl _ _)
  refine (goes_all s (B2 + 1 + 1) A1 m c1 _ _ Wz hs E0.out.xa.cell E0.out.row1 Hm.out.symm).mono ?_
  rintro _ w5 ⟨rfl, bw5⟩
  have ew5 := E0.out.below bw5 E0.out.size (by omega) (by omega)
  have Sw5 := Lib.hid ((S0.out).trans (bw5.mono (by have := E0.out.size; omega)))
  have Ew5 := Lib.hid ew5
  have k5w5 := ew5.x5.cell
  have k6w5 := ew5.x6.cell
  have k7w5 := ew5.x7.cell
  have k8w5 := ew5.x8.cell
  have k9w5 := ew5.x9.cell
  clear bw5 ew5
  go_wp2_with fail
  refine (goes_back s (B2 + 1 + 1 + 1 + 1) A2 m c2 _ xs2 _ w5 hs Ew5.out.u8 Ew5.out.xb.cell Ew5.out.row2 Hm.out.symm Hx2.out).mono ?_
  rintro _ w6 ⟨rfl, bw6⟩
  have ew6 := Ew5.out.below bw6 Ew5.out.size (by omega) (by omega)
  have Sw6 := Lib.hid ((Sw5.out).trans (bw6.mono (by have := Ew5.out.size; omega)))
  have Ew6 := Lib.hid ew6
  have k5w6 := ew6.x5.cell
  have k6w6 := ew6.x6.cell
  have k7w6 := ew6.x7.cell
  have k8w6 := ew6.x8.cell
  have k9w6 := ew6.x9.cell
  clear bw6 ew6
  go_wp2_with fail
  refine (goes_all s (B2 + 1 + 1) A1 m c1 _ _ w6 hs Ew6.out.xa.cell Ew6.out.row1 Hm.out.symm).mono ?_
  rintro _ w7 ⟨rfl, bw7⟩
  have ew7 := Ew6.out.below bw7 Ew6.out.size (by omega) (by omega)
  have Sw7 := Lib.hid ((Sw6.out).trans (bw7.mono (by have := Ew6.out.size; omega)))
  have Ew7 := Lib.hid ew7
  have k5w7 := ew7.x5.cell
  have k6w7 := ew7.x6.cell
  have k7w7 := ew7.x7.cell
  have k8w7 := ew7.x8.cell
  have k9w7 := ew7.x9.cell
  clear bw7 ew7
  go_wp2_with fail
  refine (goes_back s (B2 + 1 + 1 + 1 + 1) A2 m c2 _ xs2 _ w7 hs Ew7.out.u8 Ew7.out.xb.cell Ew7.out.row2 Hm.out.symm Hx2.out).mono ?_
  rintro _ w8 ⟨rfl, bw8⟩
  have ew8 := Ew7.out.below bw8 Ew7.out.size (by omega) (by omega)
  have Sw8 := Lib.hid ((Sw7.out).trans (bw8.mono (by have := Ew7.out.size; omega)))
  have Ew8 := Lib.hid ew8
  have k5w8 := ew8.x5.cell
  have k6w8 := ew8.x6.cell
  have k7w8 := ew8.x7.cell
  have k8w8 := ew8.x8.cell
  have k9w8 := ew8.x9.cell
  clear bw8 ew8
  obtain ⟨b, hb8⟩ : ∃ b, w8.heap.size = b := ⟨_, rfl⟩
  obtain ⟨WL, hWL⟩ : ∃ WL, w8.alloc (.cells #[.int .i64 0] 3) = WL := ⟨_, rfl⟩
  have hbL : Below b w8 WL := by rw [← hWL]; exact (Below.refl b w8).alloc (by omega) _
  have hszL : WL.heap.size = b + 1 := by rw [← hWL]; simp [hb8]
  have kL : Boxed WL b 3 (.int .i64 0) := by have := Boxed.new w8 3 (.int .i64 0); rwa [hb8, hWL] at this
  have hbz : B2 + 6 ≤ b := by have := Ew8.out.size; omega
  have EL := Lib.hid (Ew8.out.below hbL hbz (by omega) (by omega))
  have SL := Lib.hid (Sw8.out.trans (hbL.mono hbz))
  have k8L := (Ew8.out.x8.alloc (.cells #[.int .i64 0] 3)).cell
  have hmL : (places s).length = m := Hm.out
  have HWL := Lib.hid hWL
  clear hWL
  go_wp2_with fail
  rw [HWL.out]
  refine (wpIn_wide (n := 9)).1 ?_
  refine range_T1 rfl (by omega) (gf := 55) (lb := #[.pointer (some ⟨B2 + 1 + 1, 0, none⟩)]) rfl trivial (enters_of Tryd.func55 (by kernel_rfl) rfl)
    (seqAll Fence.wide 8 trivial rfl (by omega) (B2 + 1 + 1) b s WL (by omega) EL.out.xa.cell) (Below.refl _ _) (by omega) (fun _ => rfl)
    (fun pre T W => Boxed W b 3 (.int .i64 (pre.length : Int)) ∧ Below b WL W)
    (fun _ _ _ _ => False)
    ?hI (fun _ _ _ _ _ _ h _ _ _ => h)
    ⟨kL, Below.refl _ _⟩
    ?a1 ?assign ?body ?done ?stop
  case assign =>
    intro l x W K hK
    gi_wp2
    exact hK
  case stop =>
    rintro D c pre T W _ _ _ h _
    exact h.elim
  case hI =>
    rintro pre T T' W1 W2 ⟨h1, hb⟩ hT hm hg
    exact ⟨(hm.block _ h1.lt (fun e => by have := (hT _ e).1; omega)).trans h1, hb.trans ⟨hm.os, hm.tape, hm.output, hm.size, fun k hk => hm.block k (by have := hb.size; omega) (fun e => by have := (hT _ e).1; omega)⟩⟩
  case body =>
    rintro l pre x T W hl hT hr ⟨h1, hb⟩ hlen hsp
    have hget := prefix_get hsp
    obtain ⟨j, hj⟩ : ∃ j, pre.length = j := ⟨_, rfl⟩
    rw [hj] at hget h1 hlen
    rw [hmL] at hlen
    have hnT : ¬ T b := fun e => by have := (hT _ e).1; omega
    have E := Lib.hid (EL.out.below hb hbz (by omega) (by omega))
    obtain ⟨q1, q2⟩ := all_list s hget
    obtain ⟨g, cap, hv, _, hlt⟩ := E.out.row1.form (by omega)
    injection hv with hA _ hcc
    subst hA hcc
    have hgb : g < b := by have := E.out.lt1 g rfl; omega
    have c0 := h1.cell
    have c0f := h1.frozen
    have c5 := E.out.x5.cell
    have c6 := E.out.x6.cell
    have c7 := E.out.x7.cell
    have c8 := E.out.x8.cell
    have c9 := E.out.x9.cell
    have d1 := E.out.row1.cells (g := g) rfl _ _ q1
    have d2 := E.out.row1.cells (g := g) rfl _ _ q2
    rw [Addr.add_lit, Nat.zero_add, Nat.mul_comm 4 j] at d1 d2
    have hjn : (j : Int) < (m : Int) := by omega
    have hjn2 : ¬ ((m : Int) ≤ (j : Int)) := by omega
    have hw : IntKind.i64.wrap ((j : Int) + 1) = ((j + 1 : Nat) : Int) := by rw [IntWalk.i64_in _ (by omega)]; omega
    have hfin : ∀ W', Below W.heap.size W W' → KeepT b T W (W'.setCell ⟨b, 0, none⟩ (.int .i64 ((j : Int) + 1))) ∧ Boxed (W'.setCell ⟨b, 0, none⟩ (.int .i64 ((j : Int) + 1))) b 3 (.int .i64 (((pre ++ [x]).length : Nat) : Int)) ∧ Below b WL (W'.setCell ⟨b, 0, none⟩ (.int .i64 ((j : Int) + 1))) := by
      intro W' hW'
      have hbs : b ≤ W.heap.size := by have := hb.size; omega
      refine ⟨(KeepT.of_below b T hW').trans (KeepT.setCell b T W' b _ (Nat.le_refl _) hnT), ?_, (hb.trans (hW'.mono hbs)).setCell (p := ⟨b, 0, none⟩) (Nat.le_refl _) _⟩
      rw [show (((pre ++ [x]).length : Nat) : Int) = (j : Int) + 1 by simp; omega]
      exact (boxed_below h1 hW').set _
    have Hfin := Lib.hid hfin
    have Hh1 := Lib.hid h1
    clear hfin h1
    by_cases hjm : (j : Int) = N
    · subst hjm
      gi_wp2_with fail
      refine ⟨trivial, (CallsIn.inRound l (callsIn_wide.2 (goes_all s (B2 + 1 + 1) _ m c1 _ (-1) W hs E.out.xa.cell E.out.row1 Hm.out.symm))).mono ?_⟩
      rintro _ u5 ⟨rfl, b5⟩
      have E5 := Lib.hid (E.out.below b5 E.out.size (by omega) (by omega))
      have k6 := E5.out.x6.cell
      have k9 := E5.out.x9.cell
      have B5 := Lib.hid b5
      clear b5
      gi_wp2_with fail
      refine ⟨trivial, (CallsIn.inRound l (callsIn_wide.2 (goes_back s (B2 + 1 + 1 + 1 + 1) A2 m c2 _ xs2 (-1) u5 hs E5.out.u8 E5.out.xb.cell E5.out.row2 Hm.out.symm Hx2.out))).mono ?_⟩
      rintro _ u6 ⟨rfl, b6⟩
      have E6 := Lib.hid (E5.out.below b6 E5.out.size (by omega) (by omega))
      have B6 := Lib.hid (B5.out.trans (b6.mono B5.out.size))
      have h6 := boxed_below Hh1.out B6.out
      have c0 := h6.cell
      have c0f := h6.frozen
      have c5 := E6.out.x5.cell
      have c7 := E6.out.x7.cell
      have d1 := E6.out.row1.cells (g := g) rfl _ _ q1
      have d2 := E6.out.row1.cells (g := g) rfl _ _ q2
      rw [Addr.add_lit, Nat.zero_add, Nat.mul_comm 4 j] at d1 d2
      clear b6 h6
      gi_wp2
      exact Hfin.out u6 B6.out
    · have hjb : ((j : Int) == N) = false := by simp [hjm]
      gi_wp2
      refine ⟨trivial, ?_⟩
      gi_wp2_with fail
      · rename_i _ _ heq _
        injection heq with e
        cases e
      · rename_i _ _ heq _
        injection heq with e
        cases e
      · refine ⟨trivial, ?_⟩
        gi_wp2
        exact Hfin.out W (Below.refl _ _)
  case done =>
    rintro D ys T W hD hT rfl ⟨h1, hb⟩ hK
    rw [hmL] at h1
    have E := Lib.hid (EL.out.below hb hbz (by omega) (by omega))
    have c0 := h1.cell
    have c5 := E.out.x5.cell
    have HK := Lib.hid hK
    have Hb := Lib.hid hb
    have Hwk := Lib.hid (wakes_any W E.out.u8)
    clear h1 hK hb
    go_wp2_with fail
    refine Hwk.out.mono ?_
    rintro _ u6 ⟨rfl, b6⟩
    have E6 := Lib.hid (E.out.below b6 E.out.size (by omega) (by omega))
    have c4 := E6.out.res.cell
    have c4f := E6.out.res.frozen
    have B6 := Lib.hid b6
    clear b6
    go_wp2
    have hD1 := hT D hD
    have hk' : (u6.setCell ⟨B, 0, none⟩ (.bool true)).heap[D]? = some (.deferred (some [])) := (KeepsOthers.setCell _ _ _).same D _ ((B6.out.block D hD1.2).trans HK.out) rfl
    have hc7 := cell_kept (E6.out.res.set (.bool true)).cell (grownBy_putObj' _ D (.deferred none)) (fun r e => by cases e; exact ⟨_, hk', rfl⟩)
    refine ⟨by simp, .inl ⟨_, _, rfl, run_takeDeferred hk', ?_⟩⟩
    have hbW : B ≤ W.heap.size := by have := E.out.size; omega
    have hfb : Below B w (u6.setCell ⟨B, 0, none⟩ (.bool true)) := (((Hbzw.out.trans (SL.out.mono (by omega))).trans (Hb.out.mono (by omega))).trans (B6.out.mono hbW)).setCell (p := ⟨B, 0, none⟩) (Nat.le_refl _) _
    have hwB : w.heap.size = B := HB.out
    refine ⟨.bool true, ?_, rfl, hfb.trans (belowK_b (w := w) (by omega) _ D _ (.deferred none) (by omega) hk' rfl rfl)⟩
    simp [results, Tryd.f6, go_sem, hc7]
end Go.Proofs.YtkbhgkbhajmjiaaDoor
