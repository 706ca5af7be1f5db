/- Layer 9: PairBrackets, walked. -/
import Derived.Test.YtkcckophnamajaaHlD9
import Derived.Test.YtkcckophnamajaaHlB9
set_option linter.unusedSimpArgs false
set_option linter.unusedVariables false
namespace Go.Proofs.Ytkcckophnamajaa
open Go.RowKit Go.Lib

theorem ne9 {w1 w2 : World} {B1 B2 n n' z z' : Nat} {e e' : TypeId} {v1 v2 : Value} {xs xs' : List Value} (h1 : w1.ownsRow B1 e z v1 n xs) (h2 : w2.ownsRow B2 e' z' v2 n' xs') (hle : w1.heap.size ≤ B2) : (v2.ownBlock = none ∨ v2.ownBlock ≠ v1.ownBlock) ∧ (v1.ownBlock = none ∨ v1.ownBlock ≠ v2.ownBlock) := by
  cases h3 : v1.ownBlock with
  | none =>
    refine ⟨?_, .inl rfl⟩
    cases h4 : v2.ownBlock with
    | none => exact .inl rfl
    | some q => exact .inr (by simp)
  | some p =>
    have hp := (h1.lt p h3).2
    cases h4 : v2.ownBlock with
    | none => exact ⟨.inl rfl, .inr (by simp)⟩
    | some q =>
      have hq := (h2.lt q h4).1
      exact ⟨.inr (fun e => by injection e with e; omega), .inr (fun e => by injection e with e; omega)⟩
/-- what lies there while the first answer is written over -/
structure PbS (w : World) (Q nr n g1 c1 g2 c2 m cb cw Bb Bw : Nat) (rs ks : List Int) (G : Prs) (Ab Aw : Option Addr) (W : World) : Prop where
  ob : W.ownsRow Bb 29 2 (.slice Ab m cb) m (prC G)
  ow : W.ownsRow Bw 29 2 (.slice Aw m cw) m (prC G)
  lr : LentR nr rs g1 c1 Q W
  lk : LentK n ks g2 c2 Q W
  be : Below Q w W
  sz : Q ≤ W.heap.size
theorem PbS.below {w : World} {Q nr n g1 c1 g2 c2 m cb cw Bb Bw : Nat} {rs ks : List Int} {G : Prs} {Ab Aw : Option Addr} {W W' : World} (h : PbS w Q nr n g1 c1 g2 c2 m cb cw Bb Bw rs ks G Ab Aw W) (hb : Below W.heap.size W W') : PbS w Q nr n g1 c1 g2 c2 m cb cw Bb Bw rs ks G Ab Aw W' :=
  ⟨own_below h.ob hb, own_below h.ow hb, own_below h.lr hb, own_below h.lk hb, h.be.trans (hb.mono h.sz), by have := hb.size; have := h.sz; omega⟩
/-- the blocks that are not the first answer's -/
structure PbN (Q g1 c1 g2 c2 nr n m cb cw : Nat) (Ab Aw : Option Addr) (row : Option Nat) : Prop where
  nb : (Value.slice Ab m cb).ownBlock = none ∨ (Value.slice Ab m cb).ownBlock ≠ row
  nw : (Value.slice Aw m cw).ownBlock = none ∨ (Value.slice Aw m cw).ownBlock ≠ row
  n1 : (Value.slice (some ⟨g1, 0, none⟩) (nr + 2) c1).ownBlock = none ∨ (Value.slice (some ⟨g1, 0, none⟩) (nr + 2) c1).ownBlock ≠ row
  n2 : (Value.slice (some ⟨g2, 0, none⟩) (n + 2) c2).ownBlock = none ∨ (Value.slice (some ⟨g2, 0, none⟩) (n + 2) c2).ownBlock ≠ row
  nq : ∀ k, row = some k → Q ≤ k
theorem PbS.grown {w : World} {Q nr n g1 c1 g2 c2 m cb cw Bb Bw : Nat} {rs ks : List Int} {G : Prs} {Ab Aw : Option Addr} {W W' : World} {row : Option Nat} (h : PbS w Q nr n g1 c1 g2 c2 m cb cw Bb Bw rs ks G Ab Aw W) (hN : PbN Q g1 c1 g2 c2 nr n m cb cw Ab Aw row) (hg : W.grownBy W' row) : PbS w Q nr n g1 c1 g2 c2 m cb cw Bb Bw rs ks G Ab Aw W' :=
  ⟨h.ob.kept hg hN.nb, h.ow.kept hg hN.nw, World.ownsRow.kept h.lr hg hN.n1, World.ownsRow.kept h.lk hg hN.n2, h.be.grown hg h.sz hN.nq, by have := hg.size; have := h.sz; omega⟩
set_option maxRecDepth 100000 in
set_option maxHeartbeats 8000000 in
theorem pairBrackets_walk (Ar A : Option Addr) (nr cr n c : Nat) (rs ks : List Int) (w : World) (hr : RdR w Ar nr rs) (hk : RdK w A n ks) (hnr : nr ≤ 1048576) (hn : n ≤ 1048576) (hnilr : Ar = none → cr = 0) (hnil : A = none → c = 0) :
    Calls Try.prog 3 #[.slice Ar nr cr, .slice A n c] w fun e w' => e = .returned (.bool true) ∧ Below w.heap.size w w' := by
  obtain ⟨i1, hi1, hy0, hy1, hy2⟩ := info_parts pr_info
  have HKp := Lib.hid (kept_any9 Ar A nr cr n c rs ks w hr hk hnr hn hnilr hnil)
  have hG20 := brZ_len rs ks
  rw [hr.len, hk.len] at hG20
  obtain ⟨G, hG⟩ : ∃ G, brZ pairOf rs ks = G := ⟨_, rfl⟩
  rw [hG] at hG20
  obtain ⟨m, hm⟩ : ∃ m, G.length = m := ⟨_, rfl⟩
  rw [hm] at hG20
  obtain ⟨Q, hQ⟩ : ∃ Q, w.heap.size = Q := ⟨_, rfl⟩
  have HPb := Lib.hid (fun (g1 c1 g2 c2 : Nat) (W : World) (h1 : LentR nr rs g1 c1 Q W) (h2 : LentK n ks g2 c2 Q W) => pbrackets_any9 (some ⟨g1, 0, none⟩) (some ⟨g2, 0, none⟩) nr c1 n c2 rs ks W h1.read h2.read (by omega) (by have := (own_caps h1).1; omega))
  have HRb := Lib.hid (fun (W : World) (hb : Below Q w W) => brackets_any9 pairOf HPair9 Ar A nr cr n c rs ks W (hr.below (by rw [hQ]; exact hb)) (hk.below (by rw [hQ]; exact hb)) (by omega))
  rw [hG] at HPb HRb
  unfold NewPr at HPb HRb
  rw [hm] at HPb HRb
  have HSa := Lib.hid (fun (B B' : Nat) (A1 A2 : Option Addr) (c c' : Nat) (W : World) h1 h2 => pairs_same9 B B' A1 A2 m c c' G W h1 h2 (by omega))
  have HSt := Lib.hid (fun (g1 c1 g2 c2 : Nat) (W : World) (hb : Below Q w W) (h1 : LentR nr rs g1 c1 Q W) (h2 : LentK n ks g2 c2 Q W) => stay_any9 Ar A nr cr n c g1 c1 g2 c2 Q rs ks W (hr.below (by rw [hQ]; exact hb)) (hk.below (by rw [hQ]; exact hb)) h1 h2 hnr hn)
  have HAl := Lib.hid alive_any9
  have hm20 : m ≤ 1048576 := by omega
  rw [hQ] at HKp
  rw [hQ]
  clear hr hk hG hm hQ hG20
  go_enter Try.func3, Try.ntmps3
  go_wp2_with fail
  refine (HKp.out).mono ?_
  rintro _ w1 ⟨g1, c1, g2, c2, rfl, l1, l2, b1⟩
  have H1 := Lib.hid (show LentR nr rs g1 c1 Q w1 ∧ LentK n ks g2 c2 Q w1 ∧ Below Q w w1 from ⟨l1, l2, b1⟩)
  have hQ1 : g1 < w1.heap.size ∧ g2 < w1.heap.size ∧ Q ≤ g1 ∧ Q ≤ g2 := by
    have h1 := l1.lt g1 rfl
    have h2 := l2.lt g2 rfl
    omega
  have HQ1 := Lib.hid hQ1
  clear l1 l2 b1 HKp hQ1
  go_wp2_with fail
  refine (HPb.out g1 c1 g2 c2 w1 H1.out.1 H1.out.2.1).mono ?_
  rintro _ w2 ⟨Aa, ca, rfl, oa, b2⟩
  have H2 := Lib.hid (show LentR nr rs g1 c1 Q w2 ∧ LentK n ks g2 c2 Q w2 ∧ Below Q w w2 ∧ w1.heap.size ≤ w2.heap.size from ⟨own_below H1.out.1 b2, own_below H1.out.2.1 b2, H1.out.2.2.trans (b2.mono (by have := HQ1.out; omega)), b2.size⟩)
  have HA2 := Lib.hid oa
  clear oa b2
  go_wp2_with fail
  refine (HPb.out g1 c1 g2 c2 w2 H2.out.1 H2.out.2.1).mono ?_
  rintro _ w3 ⟨Ab, cb, rfl, ob, b3⟩
  have H3 := Lib.hid (show LentR nr rs g1 c1 Q w3 ∧ LentK n ks g2 c2 Q w3 ∧ Below Q w w3 ∧ w2.heap.size ≤ w3.heap.size from ⟨own_below H2.out.1 b3, own_below H2.out.2.1 b3, H2.out.2.2.1.trans (b3.mono (by have := HQ1.out; have := H2.out.2.2.2; omega)), b3.size⟩)
  have HA3 := Lib.hid (own_below HA2.out b3)
  have HB3 := Lib.hid ob
  clear ob b3
  go_wp2_with fail
  refine (HRb.out w3 H3.out.2.2.1).mono ?_
  rintro _ w4 ⟨Aw, cw, rfl, ow, b4⟩
  have hs3 := H3.out.2.2.2
  have hs2 := H2.out.2.2.2
  have H4 := Lib.hid (show PbS w Q nr n g1 c1 g2 c2 m cb cw w2.heap.size w3.heap.size rs ks G Ab Aw w4 from ⟨own_below HB3.out b4, ow, own_below H3.out.1 b4, own_below H3.out.2.1 b4, H3.out.2.2.1.trans (b4.mono (by have := HQ1.out; omega)), by have := b4.size; have := HQ1.out; omega⟩)
  have HA4 := Lib.hid (own_below HA3.out b4)
  have HN := Lib.hid (show PbN Q g1 c1 g2 c2 nr n m cb cw Ab Aw (Value.slice Aa m ca).ownBlock from ⟨(ne9 HA2.out HB3.out (Nat.le_refl _)).1, (ne9 HA2.out ow hs3).1, (ne9 H1.out.1 HA2.out (Nat.le_refl _)).2, (ne9 H1.out.2.1 HA2.out (Nat.le_refl _)).2, fun k hk => by have := (HA2.out.lt k hk).1; have := HQ1.out; omega⟩)
  clear ow b4 H1 H2 H3 HA2 HA3 HB3 HPb HRb
  go_wp2_with fail
  refine (HSa.out _ _ _ _ _ _ w4 HA4.out H4.out.ow).mono ?_
  rintro _ w5 ⟨rfl, b5⟩
  have H5 := Lib.hid (H4.out.below b5)
  have HA5 := Lib.hid (own_below HA4.out b5)
  clear b5 H4 HA4
  go_wp2_with fail
  refine (HSa.out _ _ _ _ _ _ w5 H5.out.ob H5.out.ow).mono ?_
  rintro _ w6 ⟨rfl, b6⟩
  have H6 := Lib.hid (H5.out.below b6)
  have HA6 := Lib.hid (show w6.ownsRow Q 29 2 (.slice Aa m ca) m (prC G) from own_base (own_below HA5.out b6) (by have := HQ1.out; omega))
  clear b6 H5 HA5
  go_wp2_with fail
  go_loopw [10] (fun x wr => ∃ (i : Nat) (xs : List Value) (W : World), W = wr ∧ x = .int .i64 (i : Int) ∧ i ≤ m ∧ Hid (W.ownsRow Q 29 2 (.slice Aa m ca) m xs ∧ PbS w Q nr n g1 c1 g2 c2 m cb cw w2.heap.size w3.heap.size rs ks G Ab Aw W)) (fun x _ => m - (RowKit.intOf x).toNat)
  case atStart => exact ⟨0, _, _, rfl, rfl, Nat.zero_le _, Lib.hid ⟨HA6.out, H6.out⟩⟩
  case round =>
    obtain ⟨i, xs, W, hW, rfl, him, HI⟩ := hrel
    subst hW
    rcases Nat.lt_or_ge i m with hlt | hge
    · have ho := HI.out.1
      have hxl := ho.1
      obtain ⟨ga, _, hv1, _, _⟩ := ho.form (by omega)
      have hA1 : Aa = some ⟨ga, 0, none⟩ := by injection hv1
      subst hA1
      obtain ⟨u0, hu0⟩ : ∃ u, xs[i * 2]? = some u := ⟨_, List.getElem?_eq_getElem (by omega)⟩
      obtain ⟨u1, hu1⟩ : ∃ u, xs[i * 2 + 1]? = some u := ⟨_, List.getElem?_eq_getElem (by omega)⟩
      have k0 := (ho.cellAt (i * 2) (by omega)).trans hu0
      have k1 := (ho.cellAt (i * 2 + 1) (by omega)).trans hu1
      have f0 := ho.frozenAt (i * 2)
      have f1 := ho.frozenAt (i * 2 + 1)
      have s0 := ho.stored (i * 2) (.int .i64 (-1))
      have s1 := s0.1.stored (i * 2 + 1) (.int .i64 (-1))
      have hini : (i : Int) < (m : Int) := by omega
      have hnext : IntKind.i64.wrap ((i : Int) + 1) = (i : Int) + 1 := IntWalk.i64_in _ (by omega)
      have HS := Lib.hid (show ∃ ys, ((W.setCell ⟨ga, i * 2, none⟩ (.int .i64 (-1))).setCell ⟨ga, i * 2 + 1, none⟩ (.int .i64 (-1))).ownsRow Q 29 2 (.slice (some ⟨ga, 0, none⟩) m ca) m ys ∧ PbS w Q nr n g1 c1 g2 c2 m cb cw w2.heap.size w3.heap.size rs ks G Ab Aw ((W.setCell ⟨ga, i * 2, none⟩ (.int .i64 (-1))).setCell ⟨ga, i * 2 + 1, none⟩ (.int .i64 (-1))) from ⟨_, s1.1, HI.out.2.grown HN.out (s0.2.trans s1.2)⟩)
      clear ho hxl hv1 hu0 hu1 s0 s1 HI
      go_wp2_with fail
      go_roundw
      case rel =>
        obtain ⟨ys, h9⟩ := HS.out
        exact ⟨i + 1, ys, _, rfl, by first | rfl | go_num, hlt, Lib.hid h9⟩
      case measure => simp [RowKit.intOf]; omega
    · obtain rfl : i = m := by omega
      have hnn : ¬ (i : Int) < (i : Int) := by omega
      have hb0 := HI.out.2.sz
      clear him hge
      go_wp2_with (at_builtin; refine wpList_append_own_at _ rfl _ _ 26 rfl Q 29 i1 _ 2 16 Try.underlying26 hi1 hy0 hy1 hy2 rfl (by decide) _ _ _ rfl (HI.out.1.alloc _) ⟨W.heap.size, 0, none⟩ 1 1 [.int .i64 0, .int .i64 0] rfl rfl ?d1 ?d2 ?d3 ?d4 ?d5 ?_)
      try (case d1 => exact new_cells W [.int .i64 0, .int .i64 0] 29)
      case d2 => simp [Value.oneCell']
      case d3 => unfold maxLen; omega
      case d4 => omega
      case d5 => first | omega | (rw [World.size_alloc]; omega)
      intro v7 w7 o7 g7 _ _
      obtain ⟨A7, c7, hv7, _, _⟩ := own_shape o7
      subst hv7
      have H7 := Lib.hid (show PbS w Q nr n g1 c1 g2 c2 i cb cw w2.heap.size w3.heap.size rs ks G Ab Aw w7 from (HI.out.2.grown HN.out (World.grownBy_alloc _ _ _)).grown HN.out g7)
      have hwm : IntKind.i64.wrap ((i : Int) + 1) = ((i + 1 : Nat) : Int) := by rw [IntWalk.i64_in _ (by omega)]; omega
      obtain ⟨i2, hi2⟩ : ∃ i2, i + 1 = i2 := ⟨_, rfl⟩
      rw [hi2] at hwm
      have hee : ((i2 : Int) == (i2 : Int)) = true := by simp
      have HI2 := Lib.hid hi2
      clear o7 g7 HI hb0
      go_wp2_with fail
      refine (HSa.out _ _ _ _ _ _ w7 H7.out.ob H7.out.ow).mono ?_
      rintro _ w8 ⟨rfl, b8⟩
      have H8 := Lib.hid (H7.out.below b8)
      clear b8 H7
      rw [hi2]
      go_wp2_with fail
      refine (HSt.out g1 c1 g2 c2 w8 H8.out.be H8.out.lr H8.out.lk).mono ?_
      rintro _ w9 ⟨rfl, b9⟩
      have H9 := Lib.hid (H8.out.below b9)
      clear b9 H8
      go_wp2_with fail
      refine (HAl.out w9).mono ?_
      rintro _ w10 ⟨rfl, b10⟩
      have HE := Lib.hid (H9.out.be.trans (b10.mono H9.out.sz))
      clear b10 H9
      go_wp2_with fail
      go_ret
      exact ⟨by first | rfl | simp, HE.out⟩
end Go.Proofs.Ytkcckophnamajaa
