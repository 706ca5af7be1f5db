/- Layer 8, the document: Step. (Made by tools/mkrefe8.py.) -/
import Derived.Test.YtajpkidjdebolaaRefD8
import Derived.Test.YtajpkidjdebolaaWalkG
set_option linter.unusedSimpArgs false
set_option linter.unusedVariables false
namespace Go.Proofs.Ytajpkidjdebolaa
open Go.RowKit Go.Lib

/-- what holds between two rounds: the one that is written, the one that is read -/
def SInv (w : World) (Q M : Nat) (A1 : Option Addr) (c1 : Nat) (A2 : Option Addr) (c2 n : Nat) (L R : List Int) (G : List Int → List Int → List Int) (W : World) (d p t : List Int) : Prop :=
  L = p ++ t ∧ d.length = p.length ∧ d ++ G p t = R ∧ W.ownsRow Q 23 1 (.slice A1 n c1) n (i8s (d ++ t)) ∧ W.ownsRow M 23 1 (.slice A2 n c2) n (i8s L) ∧ Below Q w W
theorem sinv_below {w : World} {Q M : Nat} {A1 : Option Addr} {c1 : Nat} {A2 : Option Addr} {c2 n : Nat} {L R : List Int} {G : List Int → List Int → List Int} {W W' : World} {d p t : List Int} (h : SInv w Q M A1 c1 A2 c2 n L R G W d p t) (hq : Q ≤ W.heap.size) (hb : Below W.heap.size W W') : SInv w Q M A1 c1 A2 c2 n L R G W' d p t :=
  ⟨h.1, h.2.1, h.2.2.1, own_below h.2.2.2.1 hb, own_below h.2.2.2.2.1 hb, h.2.2.2.2.2.trans (hb.mono hq)⟩
/-- a round: what stands at the place, and what may be written there -/
theorem sinv_at {w : World} {Q M : Nat} {A1 : Option Addr} {c1 : Nat} {A2 : Option Addr} {c2 n : Nat} {L R : List Int} {G : List Int → List Int → List Int} {W : World} {d p t : List Int} {k : Int}
    (h : SInv w Q M A1 c1 A2 c2 n L R G W d p (k :: t)) (hq : Q ≤ W.heap.size) (hM : ∀ g, Value.ownBlock (.slice A1 n c1) = some g → g < M) :
    ∃ g1 g2, A1 = some ⟨g1, 0, none⟩ ∧ A2 = some ⟨g2, 0, none⟩ ∧ p.length < n ∧ n ≤ c1 ∧ c1 ≤ maxLen ∧ W.cell? ⟨g1, p.length, none⟩ = some (.int .i8 k) ∧ W.frozen? ⟨g1, p.length, none⟩ = false ∧ W.cell? ⟨g2, p.length, none⟩ = some (.int .i8 k) ∧
      (∀ v, G p (k :: t) = v :: G (p ++ [k]) t → SInv w Q M A1 c1 A2 c2 n L R G (W.setCell ⟨g1, p.length, none⟩ (.int .i8 v)) (d ++ [v]) (p ++ [k]) t) ∧
      (G p (k :: t) = k :: G (p ++ [k]) t → SInv w Q M A1 c1 A2 c2 n L R G W (d ++ [k]) (p ++ [k]) t) := by
  obtain ⟨h1, h2, h3, h4, h5, h6⟩ := h
  obtain ⟨g1, e1, hin, hnc, hcm, hc1, hf1, hset⟩ := row_at h4
  have h5' := h5
  rw [h1] at h5'
  obtain ⟨g2, e2, _, _, _, hc2, _, _⟩ := row_at h5'
  rw [h2] at hin hc1 hf1 hset
  refine ⟨g1, g2, e1, e2, hin, hnc, hcm, hc1, hf1, hc2, fun v hv => ?_, fun hv => ?_⟩
  · obtain ⟨s1, s2⟩ := hset v
    have hne : Value.ownBlock (.slice A2 n c2) = none ∨ Value.ownBlock (.slice A2 n c2) ≠ Value.ownBlock (.slice A1 n c1) := by
      cases e : Value.ownBlock (.slice A2 n c2) with
      | none => exact .inl rfl
      | some b =>
        refine .inr (fun e' => ?_)
        have := hM b e'.symm
        have := (h5.lt b e).1
        omega
    refine ⟨by rw [h1]; simp, by simp [h2], ?_, by rw [List.append_assoc]; exact s1, h5.kept s2 hne, h6.grown s2 hq (fun b hb => (h4.lt b hb).1)⟩
    rw [← h3, hv]
    simp
  · refine ⟨by rw [h1]; simp, by simp [h2], ?_, by rw [List.append_assoc]; exact h4, h5, h6⟩
    rw [← h3, hv]
    simp

set_option maxRecDepth 100000 in
set_option maxHeartbeats 2000000 in
theorem rstep2_any (A : Option Addr) (n c : Nat) (s : Int) (zs : List Int) (w : World) (hrd : Rd w w.heap.size 1 A n (i8s zs)) (hn : n ≤ 140737488355328) :
    Calls Try.prog 16 #[.int .i64 2, .slice A n c, .int .i8 s] w (NewAt n (oneZ 2 s zs) w) := by
  have HC := Lib.hid (fun w' (hb : Below w.heap.size w w') => listed_any A n c zs w' ((hrd.below hb).more hb.size) hn)
  have HX := Lib.hid (fun (A : Option Addr) c p t w h i hi => strong_any A n c s p t w h hn i hi)
  have hs := sideZ_two s
  obtain ⟨R, hR⟩ : ∃ R, oneZ 2 s zs = R := ⟨_, rfl⟩
  obtain ⟨s', hs'⟩ : ∃ s', sideZ s = s' := ⟨_, rfl⟩
  rw [hs'] at HX hs
  obtain ⟨L, hL⟩ : ∃ L, cntL zs = L := ⟨_, rfl⟩
  have HR := Lib.hid (show GZ 2 s' [] L = R from by
    rw [GZ_all 2 (by omega), ← hR, ← hs', ← hL]
    rfl)
  rw [hR]
  unfold NewAt at HC ⊢
  rw [hL] at HC
  obtain ⟨Q, hQ⟩ : ∃ Q, w.heap.size = Q := ⟨_, rfl⟩
  have HC0 := Lib.hid (HC.out w (Below.refl _ _))
  rw [hQ] at HC0 HC ⊢
  have HQ := Lib.hid hQ
  have Hs := Lib.hid hs
  clear hrd hQ hR hs' hL hs
  go_enter Try.func16, Try.ntmps16
  go_wp2_with fail
  refine HC0.out.mono ?_
  rintro _ w1 ⟨A1, c1, rfl, hown1, hb1⟩
  have HC1 := Lib.hid (HC.out w1 hb1)
  obtain ⟨M, hM⟩ : ∃ M, w1.heap.size = M := ⟨_, rfl⟩
  rw [hM] at HC1
  have Ho1 := Lib.hid (show _ ∧ _ from ⟨hown1, hb1⟩)
  have HMs := Lib.hid hM
  have HlM := Lib.hid (show ∀ g, Value.ownBlock (.slice A1 n c1) = some g → g < M from fun g hg => by have := (hown1.lt g hg).2; omega)
  clear hown1 hb1 HC HC0 hM
  go_wp2_with fail
  refine HC1.out.mono ?_
  rintro _ w2 ⟨A2, c2, rfl, hown2, hb2⟩
  have H2 := Lib.hid (show SInv w Q M A1 c1 A2 c2 n L R (GZ 2 s') w2 [] [] L from ⟨rfl, rfl, HR.out, own_below Ho1.out.1 (by rw [HMs.out]; exact hb2), hown2, Ho1.out.2.trans (hb2.mono (by have := Ho1.out.2.size; have := HQ.out; have := HMs.out; omega))⟩)
  clear hown2 hb2 HC1 Ho1 HR HMs
  go_wp2_with fail
  go_loopw [9] (fun x wr => ∃ (d p t : List Int) (W : World), W = wr ∧ x = .int .i64 (p.length : Int) ∧ Hid (SInv w Q M A1 c1 A2 c2 n L R (GZ 2 s') W d p t)) (fun x _ => n - (RowKit.intOf x).toNat)
  case atStart => exact ⟨[], [], L, _, rfl, rfl, H2⟩
  case round =>
    obtain ⟨d, p, t, W, hW, rfl, HI⟩ := hrel
    subst hW
    have hl : (d ++ t).length = n := by have := HI.out.2.2.2.1.1; simpa using this
    rw [List.length_append, HI.out.2.1] at hl
    have hQW : Q ≤ W.heap.size := by have := HI.out.2.2.2.2.2.size; have := HQ.out; omega
    rcases t with _ | ⟨x, t⟩
    · have hpl : p.length = n := by simpa using hl
      rw [hpl]
      have hnn : ¬ (n : Int) < (n : Int) := by omega
      have HF := Lib.hid (show W.ownsRow Q 23 1 (.slice A1 n c1) n (i8s R) ∧ Below Q w W from by
        obtain ⟨_, _, h3, h4, _, h6⟩ := HI.out
        rw [GZ_nil] at h3
        rw [← h3]
        exact ⟨h4, h6⟩)
      clear hl hpl HI
      go_wp2_with fail
      go_ret
      exact ⟨_, _, rfl, HF.out⟩
    · obtain ⟨g1, g2, e1, e2, hin, hnc, hcm, hc1, hf1, hc2, hst, hkp⟩ := sinv_at HI.out hQW HlM.out
      rw [GZ_cons 2 s' Hs.out] at hst hkp
      have hrdw := Rd.own HI.out.2.2.2.2.1
      rw [HI.out.1] at hrdw
      have HXx := Lib.hid (HX.out A2 c2 p (x :: t) W hrdw p.length rfl)
      subst e1 e2
      have hnext := i64_next hin hnc hcm
      have hini : (p.length : Int) < (n : Int) := by omega
      have Hst := Lib.hid (fun v (e : VZ 2 s' p x t = v) => hst v (by rw [e]))
      have Hkp := Lib.hid (fun (e : VZ 2 s' p x t = x) => hkp (by rw [e]))
      have HI' := HI
      have hsnoc := snoc_len p x
      obtain ⟨q, hq⟩ : ∃ q, p ++ [x] = q := ⟨_, rfl⟩
      obtain ⟨i, hi⟩ : ∃ i, p.length = i := ⟨_, rfl⟩
      rw [hq, hi] at hsnoc
      rw [hq] at Hst Hkp
      rw [hi] at hin hc1 hc2 hf1 Hst hnext hini HXx ⊢
      clear hst hkp hrdw HI HI' hl hq hi
      by_cases x3 : x = 3
      · subst x3
        obtain ⟨ls, hls⟩ : ∃ ls, lastZ sP s' p = ls := ⟨_, rfl⟩
        rw [hls] at HXx
        have HE := Lib.hid hls
        clear hls
        go_wp2_with fail
        refine HXx.out.mono ?_
        rintro _ w9 ⟨rfl, h9⟩
        obtain rfl := h9.symm
        by_cases hv : ls = 2
        · subst hv
          have HN := Lib.hid (Hst.out 6 (by simp [VZ, Hs.out, HE.out]))
          clear Hst Hkp
          go_wp2_with fail
          go_roundw
          case rel => exact ⟨_, q, t, _, rfl, by rw [hsnoc], HN⟩
          case measure => simp [RowKit.intOf]; omega
        · have hvb : (ls == 2) = false := by simpa using hv
          have HE := Lib.hid (show ¬ (lastZ sP s' p = 2) from by rw [HE.out]; exact hv)
          have HN := Lib.hid (Hkp.out (by simp [VZ, Hs.out, HE.out]))
          clear Hst Hkp
          go_wp2_with fail
          go_roundw
          case rel => exact ⟨_, q, t, _, rfl, by rw [hsnoc], HN⟩
          case measure => simp [RowKit.intOf]; omega
      · have xb : (x == 3) = false := by simpa using x3
        have HN := Lib.hid (Hkp.out (by simp [VZ, x3]))
        clear Hst Hkp
        go_wp2_with fail
        go_roundw
        case rel => exact ⟨_, q, t, _, rfl, by rw [hsnoc], HN⟩
        case measure => simp [RowKit.intOf]; omega

set_option maxRecDepth 100000 in
set_option maxHeartbeats 2000000 in
theorem rstep7_any (A : Option Addr) (n c : Nat) (s : Int) (zs : List Int) (w : World) (hrd : Rd w w.heap.size 1 A n (i8s zs)) (hn : n ≤ 140737488355328) :
    Calls Try.prog 16 #[.int .i64 7, .slice A n c, .int .i8 s] w (NewAt n (oneZ 7 s zs) w) := by
  have HC := Lib.hid (fun w' (hb : Below w.heap.size w w') => listed_any A n c zs w' ((hrd.below hb).more hb.size) hn)
  have HX := Lib.hid (fun (A : Option Addr) c p t w h i hi => ahead_any A n c s p t w h hn i hi)
  have hs := sideZ_two s
  obtain ⟨R, hR⟩ : ∃ R, oneZ 7 s zs = R := ⟨_, rfl⟩
  obtain ⟨s', hs'⟩ : ∃ s', sideZ s = s' := ⟨_, rfl⟩
  rw [hs'] at HX hs
  obtain ⟨L, hL⟩ : ∃ L, cntL zs = L := ⟨_, rfl⟩
  have HR := Lib.hid (show GZ 7 s' [] L = R from by
    rw [GZ_all 7 (by omega), ← hR, ← hs', ← hL]
    rfl)
  rw [hR]
  unfold NewAt at HC ⊢
  rw [hL] at HC
  obtain ⟨Q, hQ⟩ : ∃ Q, w.heap.size = Q := ⟨_, rfl⟩
  have HC0 := Lib.hid (HC.out w (Below.refl _ _))
  rw [hQ] at HC0 HC ⊢
  have HQ := Lib.hid hQ
  have Hs := Lib.hid hs
  clear hrd hQ hR hs' hL hs
  go_enter Try.func16, Try.ntmps16
  go_wp2_with fail
  refine HC0.out.mono ?_
  rintro _ w1 ⟨A1, c1, rfl, hown1, hb1⟩
  have HC1 := Lib.hid (HC.out w1 hb1)
  obtain ⟨M, hM⟩ : ∃ M, w1.heap.size = M := ⟨_, rfl⟩
  rw [hM] at HC1
  have Ho1 := Lib.hid (show _ ∧ _ from ⟨hown1, hb1⟩)
  have HMs := Lib.hid hM
  have HlM := Lib.hid (show ∀ g, Value.ownBlock (.slice A1 n c1) = some g → g < M from fun g hg => by have := (hown1.lt g hg).2; omega)
  clear hown1 hb1 HC HC0 hM
  go_wp2_with fail
  refine HC1.out.mono ?_
  rintro _ w2 ⟨A2, c2, rfl, hown2, hb2⟩
  have H2 := Lib.hid (show SInv w Q M A1 c1 A2 c2 n L R (GZ 7 s') w2 [] [] L from ⟨rfl, rfl, HR.out, own_below Ho1.out.1 (by rw [HMs.out]; exact hb2), hown2, Ho1.out.2.trans (hb2.mono (by have := Ho1.out.2.size; have := HQ.out; have := HMs.out; omega))⟩)
  clear hown2 hb2 HC1 Ho1 HR HMs
  go_wp2_with fail
  go_loopw [9] (fun x wr => ∃ (d p t : List Int) (W : World), W = wr ∧ x = .int .i64 (p.length : Int) ∧ Hid (SInv w Q M A1 c1 A2 c2 n L R (GZ 7 s') W d p t)) (fun x _ => n - (RowKit.intOf x).toNat)
  case atStart => exact ⟨[], [], L, _, rfl, rfl, H2⟩
  case round =>
    obtain ⟨d, p, t, W, hW, rfl, HI⟩ := hrel
    subst hW
    have hl : (d ++ t).length = n := by have := HI.out.2.2.2.1.1; simpa using this
    rw [List.length_append, HI.out.2.1] at hl
    have hQW : Q ≤ W.heap.size := by have := HI.out.2.2.2.2.2.size; have := HQ.out; omega
    rcases t with _ | ⟨x, t⟩
    · have hpl : p.length = n := by simpa using hl
      rw [hpl]
      have hnn : ¬ (n : Int) < (n : Int) := by omega
      have HF := Lib.hid (show W.ownsRow Q 23 1 (.slice A1 n c1) n (i8s R) ∧ Below Q w W from by
        obtain ⟨_, _, h3, h4, _, h6⟩ := HI.out
        rw [GZ_nil] at h3
        rw [← h3]
        exact ⟨h4, h6⟩)
      clear hl hpl HI
      go_wp2_with fail
      go_ret
      exact ⟨_, _, rfl, HF.out⟩
    · obtain ⟨g1, g2, e1, e2, hin, hnc, hcm, hc1, hf1, hc2, hst, hkp⟩ := sinv_at HI.out hQW HlM.out
      rw [GZ_cons 7 s' Hs.out] at hst hkp
      have hrdw := Rd.own HI.out.2.2.2.2.1
      rw [HI.out.1] at hrdw
      have HXx := Lib.hid (HX.out A2 c2 p (x :: t) W hrdw p.length rfl)
      subst e1 e2
      have hnext := i64_next hin hnc hcm
      have hini : (p.length : Int) < (n : Int) := by omega
      have Hst := Lib.hid (fun v (e : VZ 7 s' p x t = v) => hst v (by rw [e]))
      have Hkp := Lib.hid (fun (e : VZ 7 s' p x t = x) => hkp (by rw [e]))
      have HI' := HI
      have hsnoc := snoc_len p x
      obtain ⟨q, hq⟩ : ∃ q, p ++ [x] = q := ⟨_, rfl⟩
      obtain ⟨i, hi⟩ : ∃ i, p.length = i := ⟨_, rfl⟩
      rw [hq, hi] at hsnoc
      rw [hq] at Hst Hkp
      rw [hi] at hin hc1 hc2 hf1 Hst hnext hini HXx ⊢
      clear hst hkp hrdw HI HI' hl hq hi
      by_cases x3 : x = 3
      · subst x3
        obtain ⟨ls, hls⟩ : ∃ ls, lastZ aP s' p = ls := ⟨_, rfl⟩
        rw [hls] at HXx
        have HE := Lib.hid hls
        clear hls
        go_wp2_with fail
        refine HXx.out.mono ?_
        rintro _ w9 ⟨rfl, h9⟩
        obtain rfl := h9.symm
        by_cases hv : ls = 0
        · subst hv
          have HN := Lib.hid (Hst.out 0 (by simp [VZ, Hs.out, HE.out]))
          clear Hst Hkp
          go_wp2_with fail
          go_roundw
          case rel => exact ⟨_, q, t, _, rfl, by rw [hsnoc], HN⟩
          case measure => simp [RowKit.intOf]; omega
        · have hvb : (ls == 0) = false := by simpa using hv
          have HE := Lib.hid (show ¬ (lastZ aP s' p = 0) from by rw [HE.out]; exact hv)
          have HN := Lib.hid (Hkp.out (by simp [VZ, Hs.out, HE.out]))
          clear Hst Hkp
          go_wp2_with fail
          go_roundw
          case rel => exact ⟨_, q, t, _, rfl, by rw [hsnoc], HN⟩
          case measure => simp [RowKit.intOf]; omega
      · have xb : (x == 3) = false := by simpa using x3
        have HN := Lib.hid (Hkp.out (by simp [VZ, x3]))
        clear Hst Hkp
        go_wp2_with fail
        go_roundw
        case rel => exact ⟨_, q, t, _, rfl, by rw [hsnoc], HN⟩
        case measure => simp [RowKit.intOf]; omega

set_option maxRecDepth 100000 in
set_option maxHeartbeats 2000000 in
theorem rstep3_any (A : Option Addr) (n c : Nat) (s : Int) (zs : List Int) (w : World) (hrd : Rd w w.heap.size 1 A n (i8s zs)) (hn : n ≤ 140737488355328) :
    Calls Try.prog 16 #[.int .i64 3, .slice A n c, .int .i8 s] w (NewAt n (oneZ 3 s zs) w) := by
  have HC := Lib.hid (fun w' (hb : Below w.heap.size w w') => listed_any A n c zs w' ((hrd.below hb).more hb.size) hn)
  have HX := Lib.hid (fun (A : Option Addr) c p t w h i hi => strong_any A n c s p t w h hn i hi)
  have hs := sideZ_two s
  obtain ⟨R, hR⟩ : ∃ R, oneZ 3 s zs = R := ⟨_, rfl⟩
  obtain ⟨s', hs'⟩ : ∃ s', sideZ s = s' := ⟨_, rfl⟩
  rw [hs'] at HX hs
  obtain ⟨L, hL⟩ : ∃ L, cntL zs = L := ⟨_, rfl⟩
  have HR := Lib.hid (show GZ 3 s' [] L = R from by
    rw [GZ_all 3 (by omega), ← hR, ← hs', ← hL]
    rfl)
  rw [hR]
  unfold NewAt at HC ⊢
  rw [hL] at HC
  obtain ⟨Q, hQ⟩ : ∃ Q, w.heap.size = Q := ⟨_, rfl⟩
  have HC0 := Lib.hid (HC.out w (Below.refl _ _))
  rw [hQ] at HC0 HC ⊢
  have HQ := Lib.hid hQ
  have Hs := Lib.hid hs
  clear hrd hQ hR hs' hL hs
  go_enter Try.func16, Try.ntmps16
  go_wp2_with fail
  refine HC0.out.mono ?_
  rintro _ w1 ⟨A1, c1, rfl, hown1, hb1⟩
  have HC1 := Lib.hid (HC.out w1 hb1)
  obtain ⟨M, hM⟩ : ∃ M, w1.heap.size = M := ⟨_, rfl⟩
  rw [hM] at HC1
  have Ho1 := Lib.hid (show _ ∧ _ from ⟨hown1, hb1⟩)
  have HMs := Lib.hid hM
  have HlM := Lib.hid (show ∀ g, Value.ownBlock (.slice A1 n c1) = some g → g < M from fun g hg => by have := (hown1.lt g hg).2; omega)
  clear hown1 hb1 HC HC0 hM
  go_wp2_with fail
  refine HC1.out.mono ?_
  rintro _ w2 ⟨A2, c2, rfl, hown2, hb2⟩
  have H2 := Lib.hid (show SInv w Q M A1 c1 A2 c2 n L R (GZ 3 s') w2 [] [] L from ⟨rfl, rfl, HR.out, own_below Ho1.out.1 (by rw [HMs.out]; exact hb2), hown2, Ho1.out.2.trans (hb2.mono (by have := Ho1.out.2.size; have := HQ.out; have := HMs.out; omega))⟩)
  clear hown2 hb2 HC1 Ho1 HR HMs
  go_wp2_with fail
  go_loopw [9] (fun x wr => ∃ (d p t : List Int) (W : World), W = wr ∧ x = .int .i64 (p.length : Int) ∧ Hid (SInv w Q M A1 c1 A2 c2 n L R (GZ 3 s') W d p t)) (fun x _ => n - (RowKit.intOf x).toNat)
  case atStart => exact ⟨[], [], L, _, rfl, rfl, H2⟩
  case round =>
    obtain ⟨d, p, t, W, hW, rfl, HI⟩ := hrel
    subst hW
    have hl : (d ++ t).length = n := by have := HI.out.2.2.2.1.1; simpa using this
    rw [List.length_append, HI.out.2.1] at hl
    have hQW : Q ≤ W.heap.size := by have := HI.out.2.2.2.2.2.size; have := HQ.out; omega
    rcases t with _ | ⟨x, t⟩
    · have hpl : p.length = n := by simpa using hl
      rw [hpl]
      have hnn : ¬ (n : Int) < (n : Int) := by omega
      have HF := Lib.hid (show W.ownsRow Q 23 1 (.slice A1 n c1) n (i8s R) ∧ Below Q w W from by
        obtain ⟨_, _, h3, h4, _, h6⟩ := HI.out
        rw [GZ_nil] at h3
        rw [← h3]
        exact ⟨h4, h6⟩)
      clear hl hpl HI
      go_wp2_with fail
      go_ret
      exact ⟨_, _, rfl, HF.out⟩
    · obtain ⟨g1, g2, e1, e2, hin, hnc, hcm, hc1, hf1, hc2, hst, hkp⟩ := sinv_at HI.out hQW HlM.out
      rw [GZ_cons 3 s' Hs.out] at hst hkp
      have hrdw := Rd.own HI.out.2.2.2.2.1
      rw [HI.out.1] at hrdw
      have HXx := Lib.hid (HX.out A2 c2 p (x :: t) W hrdw p.length rfl)
      subst e1 e2
      have hnext := i64_next hin hnc hcm
      have hini : (p.length : Int) < (n : Int) := by omega
      have Hst := Lib.hid (fun v (e : VZ 3 s' p x t = v) => hst v (by rw [e]))
      have Hkp := Lib.hid (fun (e : VZ 3 s' p x t = x) => hkp (by rw [e]))
      have HI' := HI
      have hsnoc := snoc_len p x
      obtain ⟨q, hq⟩ : ∃ q, p ++ [x] = q := ⟨_, rfl⟩
      obtain ⟨i, hi⟩ : ∃ i, p.length = i := ⟨_, rfl⟩
      rw [hq, hi] at hsnoc
      rw [hq] at Hst Hkp
      rw [hi] at hin hc1 hc2 hf1 Hst hnext hini HXx ⊢
      clear hst hkp hrdw HI HI' hl hq hi
      by_cases x2 : x = 2
      · subst x2
        have HN := Lib.hid (Hst.out 1 (by simp [VZ]))
        clear Hst Hkp
        go_wp2_with fail
        go_roundw
        case rel => exact ⟨_, q, t, _, rfl, by rw [hsnoc], HN⟩
        case measure => simp [RowKit.intOf]; omega
      · have b2 : (x == 2) = false := by simpa using x2
        have HN := Lib.hid (Hkp.out (by simp [VZ, x2]))
        clear Hst Hkp
        go_wp2_with fail
        go_roundw
        case rel => exact ⟨_, q, t, _, rfl, by rw [hsnoc], HN⟩
        case measure => simp [RowKit.intOf]; omega

set_option maxRecDepth 100000 in
set_option maxHeartbeats 2000000 in
theorem rstep6_any (A : Option Addr) (n c : Nat) (s : Int) (zs : List Int) (w : World) (hrd : Rd w w.heap.size 1 A n (i8s zs)) (hn : n ≤ 140737488355328) :
    Calls Try.prog 16 #[.int .i64 6, .slice A n c, .int .i8 s] w (NewAt n (oneZ 6 s zs) w) := by
  have HC := Lib.hid (fun w' (hb : Below w.heap.size w w') => listed_any A n c zs w' ((hrd.below hb).more hb.size) hn)
  have HX := Lib.hid (fun (A : Option Addr) c p t w h i hi => strong_any A n c s p t w h hn i hi)
  have hs := sideZ_two s
  obtain ⟨R, hR⟩ : ∃ R, oneZ 6 s zs = R := ⟨_, rfl⟩
  obtain ⟨s', hs'⟩ : ∃ s', sideZ s = s' := ⟨_, rfl⟩
  rw [hs'] at HX hs
  obtain ⟨L, hL⟩ : ∃ L, cntL zs = L := ⟨_, rfl⟩
  have HR := Lib.hid (show GZ 6 s' [] L = R from by
    rw [GZ_all 6 (by omega), ← hR, ← hs', ← hL]
    rfl)
  rw [hR]
  unfold NewAt at HC ⊢
  rw [hL] at HC
  obtain ⟨Q, hQ⟩ : ∃ Q, w.heap.size = Q := ⟨_, rfl⟩
  have HC0 := Lib.hid (HC.out w (Below.refl _ _))
  rw [hQ] at HC0 HC ⊢
  have HQ := Lib.hid hQ
  have Hs := Lib.hid hs
  clear hrd hQ hR hs' hL hs
  go_enter Try.func16, Try.ntmps16
  go_wp2_with fail
  refine HC0.out.mono ?_
  rintro _ w1 ⟨A1, c1, rfl, hown1, hb1⟩
  have HC1 := Lib.hid (HC.out w1 hb1)
  obtain ⟨M, hM⟩ : ∃ M, w1.heap.size = M := ⟨_, rfl⟩
  rw [hM] at HC1
  have Ho1 := Lib.hid (show _ ∧ _ from ⟨hown1, hb1⟩)
  have HMs := Lib.hid hM
  have HlM := Lib.hid (show ∀ g, Value.ownBlock (.slice A1 n c1) = some g → g < M from fun g hg => by have := (hown1.lt g hg).2; omega)
  clear hown1 hb1 HC HC0 hM
  go_wp2_with fail
  refine HC1.out.mono ?_
  rintro _ w2 ⟨A2, c2, rfl, hown2, hb2⟩
  have H2 := Lib.hid (show SInv w Q M A1 c1 A2 c2 n L R (GZ 6 s') w2 [] [] L from ⟨rfl, rfl, HR.out, own_below Ho1.out.1 (by rw [HMs.out]; exact hb2), hown2, Ho1.out.2.trans (hb2.mono (by have := Ho1.out.2.size; have := HQ.out; have := HMs.out; omega))⟩)
  clear hown2 hb2 HC1 Ho1 HR HMs
  go_wp2_with fail
  go_loopw [9] (fun x wr => ∃ (d p t : List Int) (W : World), W = wr ∧ x = .int .i64 (p.length : Int) ∧ Hid (SInv w Q M A1 c1 A2 c2 n L R (GZ 6 s') W d p t)) (fun x _ => n - (RowKit.intOf x).toNat)
  case atStart => exact ⟨[], [], L, _, rfl, rfl, H2⟩
  case round =>
    obtain ⟨d, p, t, W, hW, rfl, HI⟩ := hrel
    subst hW
    have hl : (d ++ t).length = n := by have := HI.out.2.2.2.1.1; simpa using this
    rw [List.length_append, HI.out.2.1] at hl
    have hQW : Q ≤ W.heap.size := by have := HI.out.2.2.2.2.2.size; have := HQ.out; omega
    rcases t with _ | ⟨x, t⟩
    · have hpl : p.length = n := by simpa using hl
      rw [hpl]
      have hnn : ¬ (n : Int) < (n : Int) := by omega
      have HF := Lib.hid (show W.ownsRow Q 23 1 (.slice A1 n c1) n (i8s R) ∧ Below Q w W from by
        obtain ⟨_, _, h3, h4, _, h6⟩ := HI.out
        rw [GZ_nil] at h3
        rw [← h3]
        exact ⟨h4, h6⟩)
      clear hl hpl HI
      go_wp2_with fail
      go_ret
      exact ⟨_, _, rfl, HF.out⟩
    · obtain ⟨g1, g2, e1, e2, hin, hnc, hcm, hc1, hf1, hc2, hst, hkp⟩ := sinv_at HI.out hQW HlM.out
      rw [GZ_cons 6 s' Hs.out] at hst hkp
      have hrdw := Rd.own HI.out.2.2.2.2.1
      rw [HI.out.1] at hrdw
      have HXx := Lib.hid (HX.out A2 c2 p (x :: t) W hrdw p.length rfl)
      subst e1 e2
      have hnext := i64_next hin hnc hcm
      have hini : (p.length : Int) < (n : Int) := by omega
      have Hst := Lib.hid (fun v (e : VZ 6 s' p x t = v) => hst v (by rw [e]))
      have Hkp := Lib.hid (fun (e : VZ 6 s' p x t = x) => hkp (by rw [e]))
      have HI' := HI
      have hsnoc := snoc_len p x
      obtain ⟨q, hq⟩ : ∃ q, p ++ [x] = q := ⟨_, rfl⟩
      obtain ⟨i, hi⟩ : ∃ i, p.length = i := ⟨_, rfl⟩
      rw [hq, hi] at hsnoc
      rw [hq] at Hst Hkp
      rw [hi] at hin hc1 hc2 hf1 Hst hnext hini HXx ⊢
      clear hst hkp hrdw HI HI' hl hq hi
      by_cases x4 : x = 4
      · subst x4
        have HN := Lib.hid (Hst.out 13 (by simp [VZ]))
        clear Hst Hkp
        go_wp2_with fail
        go_roundw
        case rel => exact ⟨_, q, t, _, rfl, by rw [hsnoc], HN⟩
        case measure => simp [RowKit.intOf]; omega
      · have b4 : (x == 4) = false := by simpa using x4
        by_cases x5 : x = 5
        · subst x5
          have HN := Lib.hid (Hst.out 13 (by simp [VZ]))
          clear Hst Hkp
          go_wp2_with fail
          go_roundw
          case rel => exact ⟨_, q, t, _, rfl, by rw [hsnoc], HN⟩
          case measure => simp [RowKit.intOf]; omega
        · have b5 : (x == 5) = false := by simpa using x5
          by_cases x7 : x = 7
          · subst x7
            have HN := Lib.hid (Hst.out 13 (by simp [VZ]))
            clear Hst Hkp
            go_wp2_with fail
            go_roundw
            case rel => exact ⟨_, q, t, _, rfl, by rw [hsnoc], HN⟩
            case measure => simp [RowKit.intOf]; omega
          · have b7 : (x == 7) = false := by simpa using x7
            have HN := Lib.hid (Hkp.out (by simp [VZ, x4, x5, x7]))
            clear Hst Hkp
            go_wp2_with fail
            go_roundw
            case rel => exact ⟨_, q, t, _, rfl, by rw [hsnoc], HN⟩
            case measure => simp [RowKit.intOf]; omega

set_option maxRecDepth 100000 in
set_option maxHeartbeats 2000000 in
theorem rstep4_any (A : Option Addr) (n c : Nat) (s : Int) (zs : List Int) (w : World) (hrd : Rd w w.heap.size 1 A n (i8s zs)) (hn : n ≤ 140737488355328) :
    Calls Try.prog 16 #[.int .i64 4, .slice A n c, .int .i8 s] w (NewAt n (oneZ 4 s zs) w) := by
  have HC := Lib.hid (fun w' (hb : Below w.heap.size w w') => listed_any A n c zs w' ((hrd.below hb).more hb.size) hn)
  have HX := Lib.hid (fun (A : Option Addr) c p t w h i hi => strong_any A n c s p t w h hn i hi)
  have hs := sideZ_two s
  obtain ⟨R, hR⟩ : ∃ R, oneZ 4 s zs = R := ⟨_, rfl⟩
  obtain ⟨s', hs'⟩ : ∃ s', sideZ s = s' := ⟨_, rfl⟩
  rw [hs'] at HX hs
  obtain ⟨L, hL⟩ : ∃ L, cntL zs = L := ⟨_, rfl⟩
  have HR := Lib.hid (show GZ 4 s' [] L = R from by
    rw [GZ_all 4 (by omega), ← hR, ← hs', ← hL]
    rfl)
  rw [hR]
  unfold NewAt at HC ⊢
  rw [hL] at HC
  obtain ⟨Q, hQ⟩ : ∃ Q, w.heap.size = Q := ⟨_, rfl⟩
  have HC0 := Lib.hid (HC.out w (Below.refl _ _))
  rw [hQ] at HC0 HC ⊢
  have HQ := Lib.hid hQ
  have Hs := Lib.hid hs
  clear hrd hQ hR hs' hL hs
  go_enter Try.func16, Try.ntmps16
  go_wp2_with fail
  refine HC0.out.mono ?_
  rintro _ w1 ⟨A1, c1, rfl, hown1, hb1⟩
  have HC1 := Lib.hid (HC.out w1 hb1)
  obtain ⟨M, hM⟩ : ∃ M, w1.heap.size = M := ⟨_, rfl⟩
  rw [hM] at HC1
  have Ho1 := Lib.hid (show _ ∧ _ from ⟨hown1, hb1⟩)
  have HMs := Lib.hid hM
  have HlM := Lib.hid (show ∀ g, Value.ownBlock (.slice A1 n c1) = some g → g < M from fun g hg => by have := (hown1.lt g hg).2; omega)
  clear hown1 hb1 HC HC0 hM
  go_wp2_with fail
  refine HC1.out.mono ?_
  rintro _ w2 ⟨A2, c2, rfl, hown2, hb2⟩
  have H2 := Lib.hid (show SInv w Q M A1 c1 A2 c2 n L R (GZ 4 s') w2 [] [] L from ⟨rfl, rfl, HR.out, own_below Ho1.out.1 (by rw [HMs.out]; exact hb2), hown2, Ho1.out.2.trans (hb2.mono (by have := Ho1.out.2.size; have := HQ.out; have := HMs.out; omega))⟩)
  clear hown2 hb2 HC1 Ho1 HR HMs
  go_wp2_with fail
  go_loopw [9] (fun x wr => ∃ (d p t : List Int) (W : World), W = wr ∧ x = .int .i64 (p.length : Int) ∧ Hid (SInv w Q M A1 c1 A2 c2 n L R (GZ 4 s') W d p t)) (fun x _ => n - (RowKit.intOf x).toNat)
  case atStart => exact ⟨[], [], L, _, rfl, rfl, H2⟩
  case round =>
    obtain ⟨d, p, t, W, hW, rfl, HI⟩ := hrel
    subst hW
    have hl : (d ++ t).length = n := by have := HI.out.2.2.2.1.1; simpa using this
    rw [List.length_append, HI.out.2.1] at hl
    have hQW : Q ≤ W.heap.size := by have := HI.out.2.2.2.2.2.size; have := HQ.out; omega
    rcases t with _ | ⟨x, t⟩
    · have hpl : p.length = n := by simpa using hl
      rw [hpl]
      have hnn : ¬ (n : Int) < (n : Int) := by omega
      have HF := Lib.hid (show W.ownsRow Q 23 1 (.slice A1 n c1) n (i8s R) ∧ Below Q w W from by
        obtain ⟨_, _, h3, h4, _, h6⟩ := HI.out
        rw [GZ_nil] at h3
        rw [← h3]
        exact ⟨h4, h6⟩)
      clear hl hpl HI
      go_wp2_with fail
      go_ret
      exact ⟨_, _, rfl, HF.out⟩
    · obtain ⟨g1, g2, e1, e2, hin, hnc, hcm, hc1, hf1, hc2, hst, hkp⟩ := sinv_at HI.out hQW HlM.out
      rw [GZ_cons 4 s' Hs.out] at hst hkp
      have hrdw := Rd.own HI.out.2.2.2.2.1
      rw [HI.out.1] at hrdw
      have HXx := Lib.hid (HX.out A2 c2 p (x :: t) W hrdw p.length rfl)
      subst e1 e2
      have hnext := i64_next hin hnc hcm
      have hini : (p.length : Int) < (n : Int) := by omega
      have Hst := Lib.hid (fun v (e : VZ 4 s' p x t = v) => hst v (by rw [e]))
      have Hkp := Lib.hid (fun (e : VZ 4 s' p x t = x) => hkp (by rw [e]))
      have HI' := HI
      have hsnoc := snoc_len p x
      have HX4 := Lib.hid (rseps_any (some ⟨g2, 0, none⟩) n c2 p t x W hrdw hn p.length rfl)
      have HS4 := Lib.hid (show ∀ W' : World, Below W.heap.size W W' → ∀ v, VZ 4 s' p x t = v → W'.cell? ⟨g1, p.length, none⟩ = some (.int .i8 x) ∧ W'.frozen? ⟨g1, p.length, none⟩ = false ∧ SInv w Q M (some ⟨g1, 0, none⟩) c1 (some ⟨g2, 0, none⟩) c2 n L R (GZ 4 s') (W'.setCell ⟨g1, p.length, none⟩ (.int .i8 v)) (d ++ [v]) (p ++ [x]) t from fun W' hb v hv => by
        have hI := sinv_below HI'.out hQW hb
        obtain ⟨g1', g2', e1', _, _, _, _, hc1', hf1', _, hst', _⟩ := sinv_at hI (by have := hb.size; omega) HlM.out
        injection e1' with e1'
        injection e1' with e1'
        subst e1'
        refine ⟨hc1', hf1', hst' v ?_⟩
        rw [GZ_cons 4 s' Hs.out, hv])
      obtain ⟨q, hq⟩ : ∃ q, p ++ [x] = q := ⟨_, rfl⟩
      obtain ⟨i, hi⟩ : ∃ i, p.length = i := ⟨_, rfl⟩
      rw [hq, hi] at hsnoc
      rw [hq] at Hst Hkp HS4
      rw [hi] at hin hc1 hc2 hf1 Hst hnext hini HXx HX4 HS4 ⊢
      clear hst hkp hrdw HI HI' hl hq hi
      obtain ⟨v, hv⟩ : ∃ v, sepV (lastD p) x t = v := ⟨_, rfl⟩
      rw [hv] at HX4
      have HE := Lib.hid (show VZ 4 s' p x t = v from hv)
      have HG := Lib.hid (fun (W' : World) (hb : Below W.heap.size W W') => HS4.out W' hb v HE.out)
      clear hv HXx Hst Hkp
      go_wp2_with fail
      refine HX4.out.mono ?_
      rintro _ w9 ⟨rfl, h9⟩
      obtain ⟨hca, hfa, hsa⟩ := HG.out w9 h9
      have HN := Lib.hid hsa
      clear hsa HG h9
      go_wp2_with fail
      go_roundw
      case rel => exact ⟨_, q, t, _, rfl, by rw [hsnoc], HN⟩
      case measure => simp [RowKit.intOf]; omega

set_option maxRecDepth 100000 in
set_option maxHeartbeats 2000000 in
theorem rstepo_any (k : Int) (kn : Nat) (A : Option Addr) (n c : Nat) (s : Int) (zs : List Int) (w : World) (hrd : Rd w w.heap.size 1 A n (i8s zs)) (hn : n ≤ 140737488355328) (hk : kn = 0 ∨ 7 < kn) (k1 : (k == 1) = false) (k2 : (k == 2) = false) (k3 : (k == 3) = false) (k4 : (k == 4) = false) (k5 : (k == 5) = false) (k6 : (k == 6) = false) (k7 : (k == 7) = false) :
    Calls Try.prog 16 #[.int .i64 k, .slice A n c, .int .i8 s] w (NewAt n (cntL zs) w) := by
  have HC := Lib.hid (fun w' (hb : Below w.heap.size w w') => listed_any A n c zs w' ((hrd.below hb).more hb.size) hn)
  have HX := Lib.hid (fun (A : Option Addr) c p t w h i hi => strong_any A n c s p t w h hn i hi)
  have hs := sideZ_two s
  obtain ⟨R, hR⟩ : ∃ R, cntL zs = R := ⟨_, rfl⟩
  obtain ⟨s', hs'⟩ : ∃ s', sideZ s = s' := ⟨_, rfl⟩
  rw [hs'] at HX hs
  obtain ⟨L, hL⟩ : ∃ L, cntL zs = L := ⟨_, rfl⟩
  have HR := Lib.hid (show GZ kn s' [] L = R from by
    rw [GZ_all kn (by omega), stepZ_off hk, ← hR, ← hL])
  have Hvz := Lib.hid (show ∀ p x t, VZ kn s' p x t = x from fun p x t => by unfold VZ; split <;> first | rfl | omega)
  rw [hR]
  unfold NewAt at HC ⊢
  rw [hL] at HC
  obtain ⟨Q, hQ⟩ : ∃ Q, w.heap.size = Q := ⟨_, rfl⟩
  have HC0 := Lib.hid (HC.out w (Below.refl _ _))
  rw [hQ] at HC0 HC ⊢
  have HQ := Lib.hid hQ
  have Hs := Lib.hid hs
  clear hrd hQ hR hs' hL hs
  go_enter Try.func16, Try.ntmps16
  go_wp2_with fail
  refine HC0.out.mono ?_
  rintro _ w1 ⟨A1, c1, rfl, hown1, hb1⟩
  have HC1 := Lib.hid (HC.out w1 hb1)
  obtain ⟨M, hM⟩ : ∃ M, w1.heap.size = M := ⟨_, rfl⟩
  rw [hM] at HC1
  have Ho1 := Lib.hid (show _ ∧ _ from ⟨hown1, hb1⟩)
  have HMs := Lib.hid hM
  have HlM := Lib.hid (show ∀ g, Value.ownBlock (.slice A1 n c1) = some g → g < M from fun g hg => by have := (hown1.lt g hg).2; omega)
  clear hown1 hb1 HC HC0 hM
  go_wp2_with fail
  refine HC1.out.mono ?_
  rintro _ w2 ⟨A2, c2, rfl, hown2, hb2⟩
  have H2 := Lib.hid (show SInv w Q M A1 c1 A2 c2 n L R (GZ kn s') w2 [] [] L from ⟨rfl, rfl, HR.out, own_below Ho1.out.1 (by rw [HMs.out]; exact hb2), hown2, Ho1.out.2.trans (hb2.mono (by have := Ho1.out.2.size; have := HQ.out; have := HMs.out; omega))⟩)
  clear hown2 hb2 HC1 Ho1 HR HMs
  go_wp2_with fail
  go_loopw [9] (fun x wr => ∃ (d p t : List Int) (W : World), W = wr ∧ x = .int .i64 (p.length : Int) ∧ Hid (SInv w Q M A1 c1 A2 c2 n L R (GZ kn s') W d p t)) (fun x _ => n - (RowKit.intOf x).toNat)
  case atStart => exact ⟨[], [], L, _, rfl, rfl, H2⟩
  case round =>
    obtain ⟨d, p, t, W, hW, rfl, HI⟩ := hrel
    subst hW
    have hl : (d ++ t).length = n := by have := HI.out.2.2.2.1.1; simpa using this
    rw [List.length_append, HI.out.2.1] at hl
    have hQW : Q ≤ W.heap.size := by have := HI.out.2.2.2.2.2.size; have := HQ.out; omega
    rcases t with _ | ⟨x, t⟩
    · have hpl : p.length = n := by simpa using hl
      rw [hpl]
      have hnn : ¬ (n : Int) < (n : Int) := by omega
      have HF := Lib.hid (show W.ownsRow Q 23 1 (.slice A1 n c1) n (i8s R) ∧ Below Q w W from by
        obtain ⟨_, _, h3, h4, _, h6⟩ := HI.out
        rw [GZ_nil] at h3
        rw [← h3]
        exact ⟨h4, h6⟩)
      clear hl hpl HI
      go_wp2_with fail
      go_ret
      exact ⟨_, _, rfl, HF.out⟩
    · obtain ⟨g1, g2, e1, e2, hin, hnc, hcm, hc1, hf1, hc2, hst, hkp⟩ := sinv_at HI.out hQW HlM.out
      rw [GZ_cons kn s' Hs.out] at hst hkp
      have hrdw := Rd.own HI.out.2.2.2.2.1
      rw [HI.out.1] at hrdw
      have HXx := Lib.hid (HX.out A2 c2 p (x :: t) W hrdw p.length rfl)
      subst e1 e2
      have hnext := i64_next hin hnc hcm
      have hini : (p.length : Int) < (n : Int) := by omega
      have Hst := Lib.hid (fun v (e : VZ kn s' p x t = v) => hst v (by rw [e]))
      have Hkp := Lib.hid (fun (e : VZ kn s' p x t = x) => hkp (by rw [e]))
      have HI' := HI
      have hsnoc := snoc_len p x
      obtain ⟨q, hq⟩ : ∃ q, p ++ [x] = q := ⟨_, rfl⟩
      obtain ⟨i, hi⟩ : ∃ i, p.length = i := ⟨_, rfl⟩
      rw [hq, hi] at hsnoc
      rw [hq] at Hst Hkp
      rw [hi] at hin hc1 hc2 hf1 Hst hnext hini HXx ⊢
      clear hst hkp hrdw HI HI' hl hq hi
      have HN := Lib.hid (Hkp.out (Hvz.out _ _ _))
      clear Hst Hkp
      go_wp2_with fail
      go_roundw
      case rel => exact ⟨_, q, t, _, rfl, by rw [hsnoc], HN⟩
      case measure => simp [RowKit.intOf]; omega
end Go.Proofs.Ytajpkidjdebolaa
