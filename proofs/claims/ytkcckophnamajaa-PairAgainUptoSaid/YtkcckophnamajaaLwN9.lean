/- Layer 9: PairNests, walked. (Made by tools/mknests9.py.) -/
import Derived.Test.YtkcckophnamajaaLwB9
import Derived.Laws.MakeOwn
set_option linter.unusedSimpArgs false
set_option linter.unusedVariables false
namespace Go.Proofs.Ytkcckophnamajaa
open Go.RowKit Go.Lib

theorem RdK.take9 {w : World} {n : Nat} {A : Option Addr} {xs : List Int} (h : RdK w A n xs) (k : Nat) (hk : k ≤ n) : RdK w A k (xs.take k) := by
  have hl := h.len
  refine ⟨by simp; omega, ?_⟩
  rcases h.2 with h0 | ⟨a, e, hb, hc⟩
  · exact .inl (by omega)
  · refine .inr ⟨a, e, hb, fun j u hu => hc j u ?_⟩
    rw [List.getElem?_map, List.getElem?_take] at hu
    split at hu
    · rw [List.getElem?_map]; exact hu
    · cases hu
/-- which places are in a pair -/
def usd (l : Prs) (j : Nat) : Bool := l.any fun p => p.1 == j || p.2 == j
def usC (l : Prs) (n : Nat) : List Value := (List.range n).map fun j => .bool (usd l j)
theorem usC_len (l : Prs) (n : Nat) : (usC l n).length = n := by simp [usC]
theorem usC_at (l : Prs) {n j : Nat} (h : j < n) : (usC l n)[j]? = some (.bool (usd l j)) := by
  unfold usC
  rw [List.getElem?_map, List.getElem?_range h]
  rfl
theorem usC_snoc (l : Prs) (n a b : Nat) : ((usC l n).set a (.bool true)).set b (.bool true) = usC (l ++ [(a, b)]) n := by
  refine List.ext_getElem? fun j => ?_
  rw [List.getElem?_set, List.getElem?_set]
  simp only [List.length_set, usC_len]
  rcases Nat.lt_or_ge j n with hj | hj
  · rw [usC_at _ hj, usC_at _ hj]
    have e : usd (l ++ [(a, b)]) j = (usd l j || (a == j || b == j)) := by simp [usd]
    rw [e]
    by_cases hb : b = j
    · subst hb; simp [hj]
    · by_cases ha : a = j
      · subst ha; simp [hb, hj]
      · simp [ha, hb]
  · rw [List.getElem?_eq_none (by rw [usC_len]; exact hj), List.getElem?_eq_none (by rw [usC_len]; exact hj)]
    split
    · rw [if_neg (by omega)]
    · split
      · rw [if_neg (by omega)]
      · rfl
theorem usC_nil (n : Nat) : usC [] n = List.replicate n (.bool false) := by
  refine List.eq_replicate_iff.2 ⟨usC_len _ _, fun x hx => ?_⟩
  unfold usC at hx
  obtain ⟨j, _, rfl⟩ := List.mem_map.1 hx
  rfl
theorem bool_info9 : (Try.prog.info? 4).map (fun i => (i.zero, i.size, i.bytes)) = some (some (.bool false), 1, 1) := by kernel_rfl
/-- what the pairs are -/
structure NsF (rs ks : List Int) (G : Prs) (n m : Nat) : Prop where
  ml : G.length = m
  at_ : ∀ (q : Nat) (a b : Nat), G[q]? = some (a, b) → a < b ∧ b < n ∧ ks[a]? = some 13 ∧ ks[b]? = some 13 ∧ ∃ r r', rs[a]? = some r ∧ rs[b]? = some r' ∧ pairOf r = (r', true, true) ∧ pairOf r' = (r, false, true)
  up : ∀ (q q' : Nat) (p p' : Nat × Nat), q < q' → G[q]? = some p → G[q']? = some p' → p.1 < p'.1 ∧ (p.2 < p'.1 ∨ p'.2 < p.2)
  un : ∀ (q : Nat) (a b : Nat), G[q]? = some (a, b) → usd (G.take q) a = false ∧ usd (G.take q) b = false
theorem nsF_of {rs ks : List Int} {n : Nat} (hr : rs.length = n) : NsF rs ks (brZ pairOf rs ks) n (brZ pairOf rs ks).length := by
  obtain ⟨i, stk, h⟩ := brZ_holds (rs := rs) (ks := ks) pair_back
  have hup : ∀ (q q' : Nat) (p p' : Nat × Nat), q < q' → (brZ pairOf rs ks)[q]? = some p → (brZ pairOf rs ks)[q']? = some p' → p.1 < p'.1 ∧ (p.2 < p'.1 ∨ p'.2 < p.2) := fun q q' p p' hq hp hp' => by
    have h1 := List.getElem?_eq_some_iff.1 hp
    have h2 := List.getElem?_eq_some_iff.1 hp'
    have h3 := List.pairwise_iff_getElem.1 h.up q q' h1.1 h2.1 hq
    rw [h1.2, h2.2] at h3
    exact ⟨h3, h.nest p (List.mem_of_getElem? hp) p' (List.mem_of_getElem? hp') h3⟩
  refine ⟨rfl, fun q a b hq => ?_, hup, fun q a b hq => ?_⟩
  · have hp := h.pair (a, b) (List.mem_of_getElem? hq)
    obtain ⟨r, r', h1, h2, h3, h4⟩ := hp.2.2.2.2
    exact ⟨hp.1, by have := (List.getElem?_eq_some_iff.1 h2).1; simp only at this; omega, hp.2.2.1, hp.2.2.2.1, r, r', h1, h2, h3, h4⟩
  · have hpq := h.pair (a, b) (List.mem_of_getElem? hq)
    have hno : ∀ p ∈ (brZ pairOf rs ks).take q, p.1 ≠ a ∧ p.2 ≠ a ∧ p.1 ≠ b ∧ p.2 ≠ b := fun p hp => by
      obtain ⟨j, hj⟩ := List.getElem?_of_mem hp
      rw [List.getElem?_take] at hj
      split at hj
      · next hjq =>
        have h1 := hup j q p (a, b) hjq hj hq
        have h2 := (h.pair p (List.mem_of_getElem? hj)).1
        have h3 := hpq.1
        simp only at h1 h3
        omega
      · cases hj
    constructor
    · unfold usd
      rw [List.any_eq_false]
      intro p hp
      have := hno p hp
      simp [this.1, this.2.1]
    · unfold usd
      rw [List.any_eq_false]
      intro p hp
      have := hno p hp
      simp [this.2.2.1, this.2.2.2]
/-- what holds between two pairs -/
structure NsS (w : World) (Q gl gu cl n m : Nat) (G : Prs) (i : Nat) (W : World) : Prop where
  ol : 0 < m → W.ownsRow Q 29 2 (.slice (some ⟨gl, 0, none⟩) m cl) m (prC G)
  ou : W.ownsRow Q 4 1 (.slice (some ⟨gu, 0, none⟩) n n) n (usC (G.take i) n)
  be : Below Q w W
  sz : Q ≤ W.heap.size
theorem NsS.below {w : World} {Q gl gu cl n m : Nat} {G : Prs} {i : Nat} {W W' : World} (h : NsS w Q gl gu cl n m G i W) (hb : Below W.heap.size W W') : NsS w Q gl gu cl n m G i W' :=
  ⟨fun h0 => own_below (h.ol h0) hb, own_below h.ou hb, h.be.trans (hb.mono h.sz), by have := hb.size; have := h.sz; omega⟩
theorem NsS.mark {w : World} {Q gl gu cl n m : Nat} {G : Prs} {i a b : Nat} {W : World} (h : NsS w Q gl gu cl n m G i W) (hm : 0 < m) (hp : G[i]? = some (a, b)) : NsS w Q gl gu cl n m G (i + 1) ((W.setCell ⟨gu, a, none⟩ (.bool true)).setCell ⟨gu, b, none⟩ (.bool true)) := by
  obtain ⟨s0, t0⟩ := h.ou.stored a (.bool true)
  obtain ⟨s1, t1⟩ := s0.stored b (.bool true)
  refine ⟨fun h0 => own_other2 (h.ol h0) h.ou (by decide) (t0.trans t1), ?_, h.be.grown (t0.trans t1) h.sz (fun k hk => (h.ou.lt k hk).1), by have := (t0.trans t1).size; have := h.sz; omega⟩
  rw [List.take_add_one, hp]
  have e := usC_snoc (G.take i) n a b
  rw [e] at s1
  exact s1
set_option maxRecDepth 100000 in
set_option maxHeartbeats 16000000 in
theorem pairNests_walk (Ar A : Option Addr) (nr cr n0 c : Nat) (rs0 ks0 : List Int) (w : World) (hr0 : RdR w Ar nr rs0) (hk0 : RdK w A n0 ks0) (hnr : nr ≤ 1048576) (hn0 : n0 ≤ 1048576) (hcr : nr ≤ cr) (hnc : n0 ≤ c) :
    Calls Try.prog 5 #[.slice Ar nr cr, .slice A n0 c] w fun e w' => e = .returned (.bool true) ∧ Below w.heap.size w w' := by
  obtain ⟨i0, hi, hz0, hz1, hz2⟩ := info_parts bool_info9
  have HSh := Lib.hid (short_any9 Ar A nr cr n0 c w hcr hnc)
  obtain ⟨n, hn⟩ : ∃ n, min nr n0 = n := ⟨_, rfl⟩
  rw [hn] at HSh
  have hr := hr0.take9 n (by omega)
  have hk := hk0.take9 n (by omega)
  have hrl := hr.len
  have hkl := hk.len
  obtain ⟨rs, hrs⟩ : ∃ rs, rs0.take n = rs := ⟨_, rfl⟩
  obtain ⟨ks, hks⟩ : ∃ ks, ks0.take n = ks := ⟨_, rfl⟩
  rw [hrs] at hr hrl
  rw [hks] at hk hkl
  have hF := nsF_of (ks := ks) hrl
  have hG20 := brZ_len rs ks
  rw [hrl, hkl, Nat.min_self] at hG20
  obtain ⟨Q, hQ⟩ : ∃ Q, w.heap.size = Q := ⟨_, rfl⟩
  have HPb := Lib.hid (fun (W : World) (hb : Below Q w W) => pbrackets_any9 Ar A n cr n c rs ks W (hr.below (by rw [hQ]; exact hb)) (hk.below (by rw [hQ]; exact hb)) (by omega) (by omega))
  have Hr := Lib.hid (show ∀ W, Below Q w W → RdR W Ar n rs from fun W hb => hr.below (by rw [hQ]; exact hb))
  have Hk := Lib.hid (show ∀ W, Below Q w W → RdK W A n ks from fun W hb => hk.below (by rw [hQ]; exact hb))
  obtain ⟨G, hG⟩ : ∃ G, brZ pairOf rs ks = G := ⟨_, rfl⟩
  unfold NewPr at HPb
  rw [hG] at HPb hF hG20
  obtain ⟨m, hm⟩ : ∃ m, G.length = m := ⟨_, rfl⟩
  rw [hm] at HPb hF hG20
  have HF := Lib.hid hF
  have HAl := Lib.hid alive_any9
  have HPr := Lib.hid Pair_any
  have HQ := Lib.hid hQ
  have hn20 : n ≤ 1048576 := by omega
  rw [hQ] at HSh ⊢
  clear hr0 hk0 hr hk hrl hkl hrs hks hF hG hm hQ hn hnr hn0
  go_enter Try.func5, Try.ntmps5
  go_wp2_with fail
  refine (HSh.out).mono ?_
  rintro _ w1 ⟨rfl, b1⟩
  have B1 := Lib.hid b1
  have hs1 : Q ≤ w1.heap.size := by have := b1.size; have := HQ.out; omega
  clear b1 HSh
  go_wp2_with fail
  refine (HPb.out w1 B1.out).mono ?_
  rintro _ w2 ⟨Al, cl, rfl, ol, b2⟩
  have hs2 : Q ≤ w2.heap.size := by have := b2.size; omega
  have HL := Lib.hid (show w2.ownsRow Q 29 2 (.slice Al m cl) m (prC G) ∧ Below Q w w2 from ⟨own_base ol hs1, B1.out.trans (b2.mono hs1)⟩)
  clear ol b2
  obtain ⟨W0, hrun, hown0, hg0⟩ := run_make_full (P := Try.prog) w2 Q 37 4 i0 _ 1 Try.underlying37 hi hz0 hz1 .i64 .i64 n (by rw [hz2]; omega) (by unfold maxLen; omega) hs2
  have hz : (madeCells (Value.bool false).cells (n * 1)).toList = usC [] n := by
    rw [Nat.mul_one, usC_nil]
    show (madeCells #[Value.bool false] n).toList = _
    rw [toList_madeCells_one]
  rw [hz] at hown0
  obtain ⟨gu, hgu⟩ : ∃ gu, w2.heap.size = gu := ⟨_, rfl⟩
  rw [hgu] at hrun hown0
  obtain ⟨gl, hgl⟩ : ∃ gl, (0 < m → Al = some ⟨gl, 0, none⟩) := by
    rcases Nat.eq_zero_or_pos m with h | h
    · exact ⟨0, fun h1 => by omega⟩
    · obtain ⟨g, _, hv, _, _⟩ := HL.out.1.form h
      exact ⟨g, fun _ => by injection hv⟩
  have H0 := Lib.hid (show NsS w Q gl gu cl n m G 0 W0 from ⟨fun h0 => by
      have := HL.out.1.kept hg0 (.inr (by
        have h1 := hgl h0
        rw [h1]
        exact fun e => by cases e))
      rw [hgl h0] at this
      exact this, hown0, HL.out.2.grown hg0 hs2 (fun k hk => by cases hk), by have := hg0.size; omega⟩)
  have Hgl := Lib.hid hgl
  clear hz hown0 hg0 hgu HL B1 HPb hgl hs1 hs2
  go_wp2_with fail
  go_loopw [9] (fun x wr => ∃ (i : Nat) (W : World), W = wr ∧ x = .int .i64 (i : Int) ∧ i ≤ m ∧ Hid (NsS w Q gl gu cl n m G i W)) (fun x _ => m - (RowKit.intOf x).toNat)
  case atStart => exact ⟨0, _, rfl, rfl, Nat.zero_le _, H0⟩
  case round =>
    obtain ⟨i, W, hW, rfl, him, HI⟩ := hrel
    subst hW
    rcases Nat.lt_or_ge i m with hlt | hge
    · obtain rfl := Hgl.out (by omega)
      obtain ⟨⟨a, b⟩, hp⟩ : ∃ p, G[i]? = some p := ⟨_, List.getElem?_eq_getElem (by have := HF.out.ml; omega)⟩
      obtain ⟨hab, hbn, hka, hkb, r, r', hra, hrb, hpa, hpb⟩ := HF.out.at_ i a b hp
      obtain ⟨hua, hub⟩ := HF.out.un i a b hp
      have hpg := prC_get hp
      have hol := HI.out.ol (by omega)
      have l0 := (hol.cellAt (i * 2) (by omega)).trans hpg.1
      have l1 := (hol.cellAt (i * 2 + 1) (by omega)).trans hpg.2
      have u0 := (HI.out.ou.cellAt a (by omega)).trans (usC_at (G.take i) (show a < n by omega))
      have u1 := (HI.out.ou.cellAt b (by omega)).trans (usC_at (G.take i) hbn)
      rw [hua] at u0
      rw [hub] at u1
      have HMl := Lib.hid hol
      have fu0 := HI.out.ou.frozenAt a
      have fu1 := HI.out.ou.frozenAt b
      obtain ⟨ak, hAk, _, _, k0⟩ := (Hk.out W HI.out.be).get hka
      obtain ⟨ak', hAk', _, _, k1⟩ := (Hk.out W HI.out.be).get hkb
      subst hAk
      obtain rfl : ak = ak' := by injection hAk'
      have HM := Lib.hid (HI.out.mark (by omega) hp)
      obtain ⟨W1, hW1⟩ : ∃ W1, (W.setCell ⟨gu, a, none⟩ (.bool true)).setCell ⟨gu, b, none⟩ (.bool true) = W1 := ⟨_, rfl⟩
      rw [hW1] at HM
      obtain ⟨ar, hAr, _, hrblk, c0⟩ := (Hr.out W1 HM.out.be).at hra
      obtain ⟨ar', hAr', _, _, c1⟩ := (Hr.out W1 HM.out.be).at hrb
      subst hAr
      obtain rfl : ar = ar' := by injection hAr'
      have HWq := Lib.hid hW1
      have c0u : ((W.setCell ⟨gu, a, none⟩ (.bool true)).setCell ⟨gu, b, none⟩ (.bool true)).cell? (ar.add a) = some (.int .i32 r) := by rw [hW1]; exact c0
      have HP1 := Lib.hid (show ∀ W', Calls Try.prog 18 #[.int .i32 r] W' fun e w' => e = .returned (.tuple #[.int .i32 r', .bool true, .bool true]) ∧ Below W'.heap.size W' w' from fun W' => by have := HPr.out r W'; rw [hpa] at this; exact this)
      have HP2 := Lib.hid (show ∀ W', Calls Try.prog 18 #[.int .i32 r'] W' fun e w' => e = .returned (.tuple #[.int .i32 r, .bool false, .bool true]) ∧ Below W'.heap.size W' w' from fun W' => by have := HPr.out r' W'; rw [hpb] at this; exact this)
      have Hra := Lib.hid (show rs[a]? = some r ∧ rs[b]? = some r' from ⟨hra, hrb⟩)
      have hlti : (i : Int) < (m : Int) := by omega
      have hnext : IntKind.i64.wrap ((i : Int) + 1) = (i : Int) + 1 := IntWalk.i64_in _ (by omega)
      have ha0 : ¬ (a : Int) < 0 := by omega
      have hba : ¬ (b : Int) ≤ (a : Int) := by omega
      have hnb : ¬ (n : Int) ≤ (b : Int) := by omega
      have hani : (a : Int) < (n : Int) := by omega
      have hbni : (b : Int) < (n : Int) := by omega
      have da0 : decide ((a : Int) < 0) = false := decide_eq_false ha0
      have dba : decide ((b : Int) ≤ (a : Int)) = false := decide_eq_false hba
      have dba2 : decide (b ≤ a) = false := decide_eq_false (by omega)
      have dnb : decide ((n : Int) ≤ (b : Int)) = false := decide_eq_false hnb
      have dnb2 : decide (n ≤ b) = false := decide_eq_false (by omega)
      have hrr : (r' != r') = false := by simp
      have hrr2 : (r != r) = false := by simp
      have Hab := Lib.hid (show a < b ∧ b < n from ⟨hab, hbn⟩)
      have Hp := Lib.hid hp
      clear hua hub hpg hol hka hkb hra hrb hpa hpb hAk' hAr' hW1 HI hab hbn hp hrblk
      rcases i with _ | i
      · go_wp2_with fail
        rw [HWq.out]
        refine (HP1.out _).mono ?_
        rintro _ w5 ⟨rfl, b5⟩
        have H5 := Lib.hid (HM.out.below b5)
        clear b5 HM c0 c1 c0u
        obtain ⟨ar5, hA5, _, _, c05⟩ := (Hr.out w5 H5.out.be).at Hra.out.1
        obtain ⟨ar6, hA6, _, _, c15⟩ := (Hr.out w5 H5.out.be).at Hra.out.2
        obtain rfl : ar = ar5 := by injection hA5
        obtain rfl : ar = ar6 := by injection hA6
        clear hA5 hA6
        go_wp2_with fail
        refine (HP2.out _).mono ?_
        rintro _ w6 ⟨rfl, b6⟩
        have H6 := Lib.hid (H5.out.below b6)
        clear b6 H5 c05 c15
        obtain ⟨ar5, hA5, _, _, c05⟩ := (Hr.out w6 H6.out.be).at Hra.out.1
        obtain ⟨ar6, hA6, _, _, c15⟩ := (Hr.out w6 H6.out.be).at Hra.out.2
        obtain rfl : ar = ar5 := by injection hA5
        obtain rfl : ar = ar6 := by injection hA6
        clear hA5 hA6
        go_wp2_with fail
        go_loopw [18] (fun x wr => wr = w6 ∧ ∃ j : Nat, x = .int .i64 (j : Int) ∧ j ≤ 0) (fun x _ => 0 - (RowKit.intOf x).toNat)
        case atStart => exact ⟨rfl, 0, rfl, Nat.zero_le _⟩
        case round =>
          obtain ⟨hWW, j, rfl, hji⟩ := hrel
          subst hWW
          obtain rfl : j = 0 := by omega
          go_wp2_with fail
          go_roundw
          case rel => exact ⟨1, _, rfl, by first | rfl | go_num, hlt, H6⟩
          case measure => simp [RowKit.intOf]; omega
      · obtain ⟨⟨a1, b1⟩, hp1⟩ : ∃ p, G[i]? = some p := ⟨_, List.getElem?_eq_getElem (by have := HF.out.ml; omega)⟩
        have hup := (HF.out.up i (i + 1) (a1, b1) (a, b) (Nat.lt_succ_self i) hp1 Hp.out).1
        have hpg1 := prC_get hp1
        have l3 : W.cell? ⟨gl, i * 2, none⟩ = some (.int .i64 (a1 : Int)) := by
          have h9 := HMl.out
          exact (h9.cellAt (i * 2) (by omega)).trans hpg1.1
        have hi1 : IntKind.i64.wrap (((i + 1 : Nat) : Int) - 1) = (i : Int) := by rw [IntWalk.i64_in _ (by omega)]; omega
        obtain ⟨i1, hi1e⟩ : ∃ i1, i + 1 = i1 := ⟨_, rfl⟩
        rw [hi1e] at l0 l1 hi1 hlti hnext hlt ⊢
        rw [hi1e] at HM Hp
        have hpos : (0 : Int) < (i1 : Int) := by omega
        have dpos : decide ((0 : Int) < (i1 : Int)) = true := decide_eq_true hpos
        have dpos2 : decide (0 < i1) = true := decide_eq_true (by omega)
        have hlm : (i : Int) < (m : Int) := by omega
        have hao : ¬ (a : Int) ≤ (a1 : Int) := by simp only at hup; omega
        have dao : decide ((a : Int) ≤ (a1 : Int)) = false := decide_eq_false hao
        have dao2 : decide (a ≤ a1) = false := decide_eq_false (by simp only at hup; omega)
        have Hi1 := Lib.hid hi1e
        clear hp1 hup hpg1 hi1e
        go_wp2_with fail
        rw [HWq.out]
        refine (HP1.out _).mono ?_
        rintro _ w5 ⟨rfl, b5⟩
        have H5 := Lib.hid (HM.out.below b5)
        clear b5 HM c0 c1 c0u
        obtain ⟨ar5, hA5, _, _, c05⟩ := (Hr.out w5 H5.out.be).at Hra.out.1
        obtain ⟨ar6, hA6, _, _, c15⟩ := (Hr.out w5 H5.out.be).at Hra.out.2
        obtain rfl : ar = ar5 := by injection hA5
        obtain rfl : ar = ar6 := by injection hA6
        clear hA5 hA6
        go_wp2_with fail
        refine (HP2.out _).mono ?_
        rintro _ w6 ⟨rfl, b6⟩
        have H6 := Lib.hid (H5.out.below b6)
        clear b6 H5 c05 c15
        obtain ⟨ar5, hA5, _, _, c05⟩ := (Hr.out w6 H6.out.be).at Hra.out.1
        obtain ⟨ar6, hA6, _, _, c15⟩ := (Hr.out w6 H6.out.be).at Hra.out.2
        obtain rfl : ar = ar5 := by injection hA5
        obtain rfl : ar = ar6 := by injection hA6
        clear hA5 hA6
        go_wp2_with fail
        go_loopw [18] (fun x wr => wr = w6 ∧ ∃ j : Nat, x = .int .i64 (j : Int) ∧ j ≤ i1) (fun x _ => i1 - (RowKit.intOf x).toNat)
        case atStart => exact ⟨rfl, 0, rfl, Nat.zero_le _⟩
        case round =>
          obtain ⟨hWW, j, rfl, hji⟩ := hrel
          subst hWW
          rcases Nat.lt_or_ge j i1 with hjl | hjg
          · by_cases h300 : m < 300
            · obtain ⟨⟨a2, b2⟩, hp2⟩ : ∃ p, G[j]? = some p := ⟨_, List.getElem?_eq_getElem (by have := HF.out.ml; omega)⟩
              have hnn := (HF.out.up j i1 (a2, b2) (a, b) hjl hp2 Hp.out).2
              simp only at hnn
              have hpg2 := prC_get hp2
              have y0 := ((H6.out.ol (by omega)).cellAt (j * 2 + 1) (by omega)).trans hpg2.2
              have hjli : (j : Int) < (i1 : Int) := by omega
              have hjm : (j : Int) < (m : Int) := by omega
              have hm3 : (m : Int) < 300 := by omega
              have dj : decide ((j : Int) < (i1 : Int)) = true := decide_eq_true hjli
              have dj2 : decide (j < i1) = true := decide_eq_true hjl
              have dm : decide ((m : Int) < 300) = true := decide_eq_true hm3
              have dm2 : decide (m < 300) = true := decide_eq_true h300
              have hjn : IntKind.i64.wrap ((j : Int) + 1) = (j : Int) + 1 := IntWalk.i64_in _ (by omega)
              by_cases hya : a < b2
              · have q1 : (a : Int) < (b2 : Int) := by omega
                have q2 : ¬ (b2 : Int) < (b : Int) := by have := Hab.out; omega
                have d1 : decide ((a : Int) < (b2 : Int)) = true := decide_eq_true q1
                have d2 : decide ((b2 : Int) < (b : Int)) = false := decide_eq_false q2
                have d3 : decide (a < b2) = true := decide_eq_true hya
                have d4 : decide (b2 < b) = false := decide_eq_false (by omega)
                clear hnn hp2 hpg2
                go_wp2_with fail
                go_roundw
                case rel => exact ⟨trivial, j + 1, by first | rfl | go_num, hjl⟩
                case measure => simp [RowKit.intOf]; omega
              · have q1 : ¬ (a : Int) < (b2 : Int) := by omega
                have d1 : decide ((a : Int) < (b2 : Int)) = false := decide_eq_false q1
                have d3 : decide (a < b2) = false := decide_eq_false hya
                clear hnn hp2 hpg2
                go_wp2_with fail
                go_roundw
                case rel => exact ⟨trivial, j + 1, by first | rfl | go_num, hjl⟩
                case measure => simp [RowKit.intOf]; omega
            · have hjli : (j : Int) < (i1 : Int) := by omega
              have hm3 : ¬ (m : Int) < 300 := by omega
              have dj : decide ((j : Int) < (i1 : Int)) = true := decide_eq_true hjli
              have dj2 : decide (j < i1) = true := decide_eq_true hjl
              have dm : decide ((m : Int) < 300) = false := decide_eq_false hm3
              have dm2 : decide (m < 300) = false := decide_eq_false h300
              go_wp2_with fail
              go_roundw
              case rel => exact ⟨i1 + 1, _, rfl, by first | rfl | go_num, hlt, H6⟩
              case measure => simp [RowKit.intOf]; omega
          · obtain rfl : j = i1 := by omega
            have hjj : ¬ (j : Int) < (j : Int) := by omega
            have dj : decide ((j : Int) < (j : Int)) = false := decide_eq_false hjj
            go_wp2_with fail
            go_roundw
            case rel => exact ⟨j + 1, _, rfl, by first | rfl | go_num, hlt, H6⟩
            case measure => simp [RowKit.intOf]; omega
    · obtain rfl : i = m := by omega
      have hnn : ¬ (i : Int) < (i : Int) := by omega
      clear him hge
      go_wp2_with fail
      refine (HAl.out W).mono ?_
      rintro _ w9 ⟨rfl, b9⟩
      have HE := Lib.hid (HI.out.be.trans (b9.mono HI.out.sz))
      clear b9 HI
      go_wp2_with fail
      go_ret
      exact ⟨rfl, HE.out⟩
end Go.Proofs.Ytkcckophnamajaa
