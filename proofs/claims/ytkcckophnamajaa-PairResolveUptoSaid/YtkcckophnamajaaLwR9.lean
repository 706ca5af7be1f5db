/- Layer 9: PairResolve, walked. -/
import Derived.Test.YtkcckophnamajaaLwB9
set_option linter.unusedSimpArgs false
set_option linter.unusedVariables false
namespace Go.Proofs.Ytkcckophnamajaa
open Go.RowKit Go.Lib

/-- what lies there while the first answer is written over -/
structure PrS (w : World) (Q nr n g1 c1 g2 c2 m cb cw Bb Bw : Nat) (rs ks L : List Int) (Ab Aw : Option Addr) (W : World) : Prop where
  ob : W.ownsRow Bb 33 1 (.slice Ab m cb) m (i8s L)
  ow : W.ownsRow Bw 33 1 (.slice Aw m cw) m (i8s L)
  lr : LentR nr rs g1 c1 Q W
  lk : LentK n ks g2 c2 Q W
  be : Below Q w W
  sz : Q ≤ W.heap.size
theorem PrS.below {w : World} {Q nr n g1 c1 g2 c2 m cb cw Bb Bw : Nat} {rs ks L : List Int} {Ab Aw : Option Addr} {W W' : World} (h : PrS w Q nr n g1 c1 g2 c2 m cb cw Bb Bw rs ks L Ab Aw W) (hb : Below W.heap.size W W') : PrS w Q nr n g1 c1 g2 c2 m cb cw Bb Bw rs ks L Ab Aw W' :=
  ⟨own_below h.ob hb, own_below h.ow hb, own_below h.lr hb, own_below h.lk hb, h.be.trans (hb.mono h.sz), by have := hb.size; have := h.sz; omega⟩
theorem PrS.grown {w : World} {Q nr n g1 c1 g2 c2 m cb cw Bb Bw : Nat} {rs ks L : List Int} {Ab Aw : Option Addr} {W W' : World} {row : Option Nat} (h : PrS w Q nr n g1 c1 g2 c2 m cb cw Bb Bw rs ks L Ab Aw W) (hN : PbN Q g1 c1 g2 c2 nr n m cb cw Ab Aw row) (hg : W.grownBy W' row) : PrS w Q nr n g1 c1 g2 c2 m cb cw Bb Bw rs ks L Ab Aw W' :=
  ⟨h.ob.kept hg hN.nb, h.ow.kept hg hN.nw, World.ownsRow.kept h.lr hg hN.n1, World.ownsRow.kept h.lk hg hN.n2, h.be.grown hg h.sz hN.nq, by have := hg.size; have := h.sz; omega⟩
set_option maxRecDepth 100000 in
set_option maxHeartbeats 8000000 in
theorem pairResolve_walk (Ar A : Option Addr) (nr cr n c : Nat) (rs ks : List Int) (lv sos eos : Int) (h0 : 0 ≤ lv) (w : World) (hr : RdR w Ar nr rs) (hk : RdK w A n ks) (hnr : nr ≤ 1048576) (hn : n ≤ 1048576) (hcr : nr ≤ cr) (hnilr : Ar = none → cr = 0) (hnil : A = none → c = 0) :
    Calls Try.prog 4 #[.slice Ar nr cr, .slice A n c, .int .u8 lv, .int .i8 sos, .int .i8 eos] w fun e w' => e = .returned (.bool true) ∧ Below w.heap.size w w' := by
  have HKp := Lib.hid (kept_any9 Ar A nr cr n c rs ks w hr hk hnr hn hnilr hnil)
  have hLl := rsZ_len pairOf nsm9 rs ks lv sos eos
  rw [hr.len, hk.len] at hLl
  obtain ⟨L, hL⟩ : ∃ L, rsZ pairOf nsm9 rs ks lv sos eos = L := ⟨_, rfl⟩
  rw [hL] at hLl
  obtain ⟨m, hm⟩ : ∃ m, min nr n = m := ⟨_, rfl⟩
  obtain ⟨Q, hQ⟩ : ∃ Q, w.heap.size = Q := ⟨_, rfl⟩
  have HPb := Lib.hid (fun (g1 c1 g2 c2 : Nat) (W : World) (h1 : LentR nr rs g1 c1 Q W) (h2 : LentK n ks g2 c2 Q W) => presolve_any9 (some ⟨g1, 0, none⟩) (some ⟨g2, 0, none⟩) nr c1 n c2 rs ks lv sos eos W h1.read h2.read (by omega) (by have := (own_caps h1).1; omega) (by have := (own_caps h2).1; omega) h0)
  have HRb := Lib.hid (fun (W : World) (hb : Below Q w W) => resolve_any9 pairOf pair_back HPair9 dz9 HDir9 Ar A nr cr n c rs ks lv sos eos W (hr.below (by rw [hQ]; exact hb)) (hk.below (by rw [hQ]; exact hb)) (by omega) hcr)
  have HRb := Lib.hid (show ∀ (W : World) (hb : Below Q w W), Calls Try.prog 15 #[.slice Ar nr cr, .slice A n c, .int .u8 lv, .int .i8 sos, .int .i8 eos] W (NewAt (min nr n) (rsZ pairOf nsm9 rs ks lv sos eos) W) from HRb.out)
  rw [hL] at HPb HRb
  unfold NewAt at HPb HRb
  rw [hm] at HPb HRb
  have hm20 : m ≤ 1048576 := by omega
  have HSa := Lib.hid (fun (A1 A2 : Option Addr) (c c' : Nat) (W : World) (h1 : RdK W A1 m L) (h2 : RdK W A2 m L) => Same_any9 A1 A2 m m c c' L L W h1 h2 (by omega))
  have HSa := Lib.hid (show ∀ (A1 A2 : Option Addr) (c c' : Nat) (W : World) (h1 : RdK W A1 m L) (h2 : RdK W A2 m L), Calls Try.prog 16 #[.slice A1 m c, .slice A2 m c'] W fun e w' => e = .returned (.bool true) ∧ Below W.heap.size W w' from fun A1 A2 c c' W h1 h2 => by have := HSa.out A1 A2 c c' W h1 h2; rwa [decide_eq_true rfl] at this)
  have HSt := Lib.hid (fun (g1 c1 g2 c2 : Nat) (W : World) (hb : Below Q w W) (h1 : LentR nr rs g1 c1 Q W) (h2 : LentK n ks g2 c2 Q W) => stay_any9 Ar A nr cr n c g1 c1 g2 c2 Q rs ks W (hr.below (by rw [hQ]; exact hb)) (hk.below (by rw [hQ]; exact hb)) h1 h2 hnr hn)
  have HAl := Lib.hid alive_any9
  rw [hQ] at HKp
  rw [hQ]
  clear hr hk hL hm hQ hLl
  go_enter Try.func4, Try.ntmps4
  go_wp2_with fail
  refine (HKp.out).mono ?_
  rintro _ w1 ⟨g1, c1, g2, c2, rfl, l1, l2, b1⟩
  have H1 := Lib.hid (show LentR nr rs g1 c1 Q w1 ∧ LentK n ks g2 c2 Q w1 ∧ Below Q w w1 from ⟨l1, l2, b1⟩)
  have hQ1 : g1 < w1.heap.size ∧ g2 < w1.heap.size ∧ Q ≤ g1 ∧ Q ≤ g2 := by
    have h1 := l1.lt g1 rfl
    have h2 := l2.lt g2 rfl
    omega
  have HQ1 := Lib.hid hQ1
  clear l1 l2 b1 HKp hQ1
  go_wp2_with fail
  refine (HPb.out g1 c1 g2 c2 w1 H1.out.1 H1.out.2.1).mono ?_
  rintro _ w2 ⟨Aa, ca, rfl, oa, b2⟩
  have H2 := Lib.hid (show LentR nr rs g1 c1 Q w2 ∧ LentK n ks g2 c2 Q w2 ∧ Below Q w w2 ∧ w1.heap.size ≤ w2.heap.size from ⟨own_below H1.out.1 b2, own_below H1.out.2.1 b2, H1.out.2.2.trans (b2.mono (by have := HQ1.out; omega)), b2.size⟩)
  have HA2 := Lib.hid oa
  clear oa b2
  go_wp2_with fail
  refine (HPb.out g1 c1 g2 c2 w2 H2.out.1 H2.out.2.1).mono ?_
  rintro _ w3 ⟨Ab, cb, rfl, ob, b3⟩
  have H3 := Lib.hid (show LentR nr rs g1 c1 Q w3 ∧ LentK n ks g2 c2 Q w3 ∧ Below Q w w3 ∧ w2.heap.size ≤ w3.heap.size from ⟨own_below H2.out.1 b3, own_below H2.out.2.1 b3, H2.out.2.2.1.trans (b3.mono (by have := HQ1.out; have := H2.out.2.2.2; omega)), b3.size⟩)
  have HA3 := Lib.hid (own_below HA2.out b3)
  have HB3 := Lib.hid ob
  clear ob b3
  go_wp2_with fail
  refine (HRb.out w3 H3.out.2.2.1).mono ?_
  rintro _ w4 ⟨Aw, cw, rfl, ow, b4⟩
  have hs3 := H3.out.2.2.2
  have hs2 := H2.out.2.2.2
  have H4 := Lib.hid (show PrS w Q nr n g1 c1 g2 c2 m cb cw w2.heap.size w3.heap.size rs ks L Ab Aw w4 from ⟨own_below HB3.out b4, ow, own_below H3.out.1 b4, own_below H3.out.2.1 b4, H3.out.2.2.1.trans (b4.mono (by have := HQ1.out; omega)), by have := b4.size; have := HQ1.out; omega⟩)
  have HA4 := Lib.hid (own_below HA3.out b4)
  have HN := Lib.hid (show PbN Q g1 c1 g2 c2 nr n m cb cw Ab Aw (Value.slice Aa m ca).ownBlock from ⟨(ne9 HA2.out HB3.out (Nat.le_refl _)).1, (ne9 HA2.out ow hs3).1, (ne9 H1.out.1 HA2.out (Nat.le_refl _)).2, (ne9 H1.out.2.1 HA2.out (Nat.le_refl _)).2, fun k hk => by have := (HA2.out.lt k hk).1; have := HQ1.out; omega⟩)
  clear ow b4 H1 H2 H3 HA2 HA3 HB3 HPb HRb
  go_wp2_with fail
  refine (HSa.out _ _ _ _ w4 (RdK.own HA4.out) (RdK.own H4.out.ow)).mono ?_
  rintro _ w5 ⟨rfl, b5⟩
  have H5 := Lib.hid (H4.out.below b5)
  have HA5 := Lib.hid (own_below HA4.out b5)
  clear b5 H4 HA4
  go_wp2_with fail
  refine (HSa.out _ _ _ _ w5 (RdK.own H5.out.ob) (RdK.own H5.out.ow)).mono ?_
  rintro _ w6 ⟨rfl, b6⟩
  have H6 := Lib.hid (H5.out.below b6)
  have HA6 := Lib.hid (show w6.ownsRow Q 33 1 (.slice Aa m ca) m (i8s L) from own_base (own_below HA5.out b6) (by have := HQ1.out; omega))
  clear b6 H5 HA5
  go_wp2_with fail
  go_loopw [16] (fun x wr => ∃ (i : Nat) (xs : List Value) (W : World), W = wr ∧ x = .int .i64 (i : Int) ∧ i ≤ m ∧ Hid (W.ownsRow Q 33 1 (.slice Aa m ca) m xs ∧ PrS w Q nr n g1 c1 g2 c2 m cb cw w2.heap.size w3.heap.size rs ks L Ab Aw W)) (fun x _ => m - (RowKit.intOf x).toNat)
  case atStart => exact ⟨0, _, _, rfl, rfl, Nat.zero_le _, Lib.hid ⟨HA6.out, H6.out⟩⟩
  case round =>
    obtain ⟨i, xs, W, hW, rfl, him, HI⟩ := hrel
    subst hW
    rcases Nat.lt_or_ge i m with hlt | hge
    · have ho := HI.out.1
      have hxl := ho.1
      obtain ⟨ga, _, hv1, _, _⟩ := ho.form (by omega)
      have hA1 : Aa = some ⟨ga, 0, none⟩ := by injection hv1
      subst hA1
      obtain ⟨u0, hu0⟩ : ∃ u, xs[i]? = some u := ⟨_, List.getElem?_eq_getElem (by omega)⟩
      have k0 := (ho.cellAt i (by omega)).trans hu0
      have f0 := ho.frozenAt i
      have s0 := ho.stored i (.int .i8 55)
      have hini : (i : Int) < (m : Int) := by omega
      have hnext : IntKind.i64.wrap ((i : Int) + 1) = (i : Int) + 1 := IntWalk.i64_in _ (by omega)
      have HS := Lib.hid (show ∃ ys, (W.setCell ⟨ga, i, none⟩ (.int .i8 55)).ownsRow Q 33 1 (.slice (some ⟨ga, 0, none⟩) m ca) m ys ∧ PrS w Q nr n g1 c1 g2 c2 m cb cw w2.heap.size w3.heap.size rs ks L Ab Aw (W.setCell ⟨ga, i, none⟩ (.int .i8 55)) from ⟨_, s0.1, HI.out.2.grown HN.out s0.2⟩)
      clear ho hxl hv1 hu0 s0 HI
      go_wp2_with fail
      go_roundw
      case rel =>
        obtain ⟨ys, h9⟩ := HS.out
        exact ⟨i + 1, ys, _, rfl, by first | rfl | go_num, hlt, Lib.hid h9⟩
      case measure => simp [RowKit.intOf]; omega
    · obtain rfl : i = m := by omega
      have hnn : ¬ (i : Int) < (i : Int) := by omega
      have H7 := Lib.hid HI.out.2
      clear him hge HI
      go_wp2_with fail
      refine (HSa.out _ _ _ _ W (RdK.own H7.out.ob) (RdK.own H7.out.ow)).mono ?_
      rintro _ w8 ⟨rfl, b8⟩
      have H8 := Lib.hid (H7.out.below b8)
      clear b8 H7
      go_wp2_with fail
      refine (HSt.out g1 c1 g2 c2 w8 H8.out.be H8.out.lr H8.out.lk).mono ?_
      rintro _ w9 ⟨rfl, b9⟩
      have H9 := Lib.hid (H8.out.below b9)
      clear b9 H8
      go_wp2_with fail
      refine (HAl.out w9).mono ?_
      rintro _ w10 ⟨rfl, b10⟩
      have HE := Lib.hid (H9.out.be.trans (b10.mono H9.out.sz))
      clear b10 H9
      go_wp2_with fail
      go_ret
      exact ⟨by first | rfl | simp, HE.out⟩
end Go.Proofs.Ytkcckophnamajaa
