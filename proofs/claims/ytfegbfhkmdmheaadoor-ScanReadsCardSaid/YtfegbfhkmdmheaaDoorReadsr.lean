/- ScanReads, plain, walked (made by tools/mkreadsr.py out of XReads): two readers, any calls on each in turns. -/
import Derived.Test.YtfegbfhkmdmheaaDoorReadsPr
set_option linter.unusedSimpArgs false
set_option linter.unusedVariables false
namespace Go.Proofs.YtfegbfhkmdmheaaDoor
open Go.RowKit Go.Lib

theorem U8_cells {w w' : World} (h : U8 w) (hb : ∀ p : Addr, p.block < w.heap.size → w'.cell? p = w.cell? p) : U8 w' := by
  have lt : ∀ {a : Addr} {v : Value}, w.cell? a = some v → a.block < w.heap.size := fun {a v} hc => by
    rcases Nat.lt_or_ge a.block w.heap.size with h' | h'
    · exact h'
    · simp [World.cell?, Array.getElem?_eq_none h'] at hc
  exact ⟨fun c hc => (hb _ (lt (h.1 c hc))).trans (h.1 c hc), fun i hi => ⟨(hb _ (lt (h.2 i hi).1)).trans (h.2 i hi).1, (hb _ (lt (h.2 i hi).2)).trans (h.2 i hi).2⟩⟩

theorem step_any (w0 w : World) (g y : Nat) (s : Stp) (R : ByteArray) (P : Pair g y R w) (hR : HeldR R) (hb : Below w0.heap.size w0 w) (hg : w0.heap.size ≤ g) (hy : w0.heap.size ≤ y)
    (hs : Rd w w0.heap.size 1 s.A s.n (byteCells' s.bs) ∧ (s.A = none → s.n = 0 ∧ s.c = 0) ∧ s.n ≤ 16777216) (hT : U8 w0) :
    Calls Tryd.prog 8 #[.pointer (some ⟨g, 0, none⟩), .pointer (some ⟨y, 0, none⟩), .agg #[.int .i64 s.z, .slice s.A s.n s.c]] w (StepAt w g y) := by
  by_cases h0 : s.z = 0
  · rw [h0]
    exact step_feed w g y s.n s.c w0.heap.size s.A s.bs R P hR hs.1 hb.size hg hy hs.2.1 (by have := hs.2.2; omega) (fun W hW => U8_cells hT fun p hp => (hW p hp).trans (hb.cell hp))
  · by_cases h1 : s.z = 1
    · rw [h1]
      exact step_end w g y s.n s.c s.A R P hR
    · by_cases h2 : s.z = 2
      · rw [h2]
        exact step_held w g y s.n s.c s.A R P hR
      · exact step_none w g y s.n s.c s.A s.z R P hR h0 h1 h2

theorem Pair.two {b y a x : Nat} {S : ByteArray} {w w' : World} (p : Pair b y S w) (t : Two w.heap.size a x w w') (h1 : b ≠ a) (h2 : b ≠ x) (h3 : y ≠ a) (h4 : y ≠ x) : Pair b y S w' := by
  have e1 := t.block b p.lg h1 h2
  have e2 := t.block y p.lh h3 h4
  exact ⟨(World.cell?_of_block (a := ⟨b, 0, none⟩) e1).trans p.cg, (World.frozen?_of_block (a := ⟨b, 0, none⟩) e1).trans p.fg, (World.cell?_of_block (a := ⟨y, 0, none⟩) e2).trans p.ch, (World.frozen?_of_block (a := ⟨y, 0, none⟩) e2).trans p.fh,
    Nat.lt_of_lt_of_le p.lg t.size, Nat.lt_of_lt_of_le p.lh t.size, p.ne⟩
/-- both pairs of readers, between two calls -/
structure Both (w0 : World) (a b x y : Nat) (w : World) : Prop where
  one : ∃ R, Pair a x R w ∧ HeldR R
  two : ∃ S, Pair b y S w ∧ HeldR S
  below : Below w0.heap.size w0 w
structure Apart (N a b x y : Nat) : Prop where
  ba : b ≠ a
  bx : b ≠ x
  ya : y ≠ a
  yx : y ≠ x
  na : N ≤ a
  nb : N ≤ b
  nx : N ≤ x
  ny : N ≤ y
theorem Both.first {w0 w w' : World} {a b x y : Nat} {e : Ending} (h : Both w0 a b x y w) (p : Apart w0.heap.size a b x y) (s : StepAt w a x e w') : e = .returned (.bool true) ∧ Both w0 a b x y w' := by
  obtain ⟨R, rfl, pr, hr, t⟩ := s
  obtain ⟨S, ps, hs⟩ := h.two
  exact ⟨rfl, ⟨R, pr, hr⟩, ⟨S, ps.two t p.ba p.bx p.ya p.yx, hs⟩, h.below.trans ⟨t.os, t.tape, t.output, t.size, fun k hk => t.block k (Nat.lt_of_lt_of_le hk h.below.size) (by have := p.na; omega) (by have := p.nx; omega)⟩⟩
theorem Both.second {w0 w w' : World} {a b x y : Nat} {e : Ending} (h : Both w0 a b x y w) (p : Apart w0.heap.size a b x y) (s : StepAt w b y e w') : e = .returned (.bool true) ∧ Both w0 a b x y w' := by
  obtain ⟨S, rfl, ps, hs, t⟩ := s
  obtain ⟨R, pr, hr⟩ := h.one
  exact ⟨rfl, ⟨R, pr.two t p.ba.symm p.ya.symm p.bx.symm p.yx.symm, hr⟩, ⟨S, ps, hs⟩, h.below.trans ⟨t.os, t.tape, t.output, t.size, fun k hk => t.block k (Nat.lt_of_lt_of_le hk h.below.size) (by have := p.nb; omega) (by have := p.ny; omega)⟩⟩

theorem start_both {w0 wb wc wd : World} {t : TypeId} (B2 : Below w0.heap.size w0 wb) (hc1 : wc.cell? ⟨wb.heap.size, 0, none⟩ = some (.string ByteArray.empty)) (hf1 : wc.frozen? ⟨wb.heap.size, 0, none⟩ = false) (hG1 : wb.heap.size < wc.heap.size) (b3 : Below wb.heap.size wb wc)
    (hc2 : wd.cell? ⟨wc.heap.size, 0, none⟩ = some (.string ByteArray.empty)) (hf2 : wd.frozen? ⟨wc.heap.size, 0, none⟩ = false) (hG2 : wc.heap.size < wd.heap.size) (b4 : Below wc.heap.size wc wd) :
    Both w0 wb.heap.size wc.heap.size wd.heap.size (wd.heap.size + 1) ((wd.alloc (.cells #[.string ⟨#[]⟩] t)).alloc (.cells #[.string ⟨#[]⟩] t)) ∧ Apart w0.heap.size wb.heap.size wc.heap.size wd.heap.size (wd.heap.size + 1) := by
  have s0 := B2.size
  have ox := (World.ownsRow_lit (base := 0) (e := t) (size := 1) wd #[.string ⟨#[]⟩] 1 (Nat.zero_le _) (by unfold maxLen; omega) rfl)
  have oy := (World.ownsRow_lit (base := 0) (e := t) (size := 1) (wd.alloc (.cells #[.string ⟨#[]⟩] t)) #[.string ⟨#[]⟩] 1 (Nat.zero_le _) (by unfold maxLen; omega) rfl)
  have ox2 := ox.alloc (.cells #[.string ⟨#[]⟩] t)
  rw [World.size_alloc] at oy
  have bd : Below wd.heap.size wd ((wd.alloc (.cells #[.string ⟨#[]⟩] t)).alloc (.cells #[.string ⟨#[]⟩] t)) := ((Below.refl _ wd).alloc (Nat.le_refl _) _).alloc (by simp) _
  have bc := b4.trans (bd.mono (by omega))
  have bb := b3.trans (bc.mono (by omega))
  have sE : ((wd.alloc (.cells #[.string ⟨#[]⟩] t)).alloc (.cells #[.string ⟨#[]⟩] t)).heap.size = wd.heap.size + 2 := by simp
  refine ⟨⟨⟨ByteArray.empty, ⟨(bc.cell (p := ⟨wb.heap.size, 0, none⟩) hG1).trans hc1, (bc.frozen (p := ⟨wb.heap.size, 0, none⟩) hG1).trans hf1, (ox2.cellAt 0 (by omega)).trans rfl, ox2.frozenAt 0, by omega, by omega, by omega⟩, .inl rfl⟩,
    ⟨ByteArray.empty, ⟨(bd.cell (p := ⟨wc.heap.size, 0, none⟩) hG2).trans hc2, (bd.frozen (p := ⟨wc.heap.size, 0, none⟩) hG2).trans hf2, (oy.cellAt 0 (by omega)).trans rfl, oy.frozenAt 0, by omega, by omega, by omega⟩, .inl rfl⟩, B2.trans (bb.mono (by omega))⟩, ?_⟩
  constructor <;> omega
theorem Both.keep {w0 w w' : World} {a b x y : Nat} (h : Both w0 a b x y w) (hb : Below w.heap.size w w') : Both w0 a b x y w' := by
  obtain ⟨R, pr, hr⟩ := h.one
  obtain ⟨S, ps, hs⟩ := h.two
  exact ⟨⟨R, pr.other (grown_of_below hb) (by simp) (by simp), hr⟩, ⟨S, ps.other (grown_of_below hb) (by simp) (by simp), hs⟩, h.below.trans (hb.mono h.below.size)⟩

set_option maxRecDepth 100000 in
set_option maxHeartbeats 4000000 in
theorem reads_walk (w : World) (V1 V2 : Option Addr) (m1 d1 m2 d2 : Nat) (l1 l2 : List Stp) (h1 : Steps w w.heap.size V1 m1 l1) (h2 : Steps w w.heap.size V2 m2 l2) (hm1 : m1 ≤ 140737488355328) (hm2 : m2 ≤ 140737488355328) (hT : U8 w) :
    Calls Tryd.prog 3 #[.slice V1 m1 d1, .slice V2 m2 d2] w fun e w' => e = .returned (.bool true) ∧ Below w.heap.size w w' := by
  have H1 := Lib.hid h1
  have H2 := Lib.hid h2
  have HT := Lib.hid hT
  clear h1 h2 hT
  go_enter Tryd.func3, Tryd.ntmps3
  go_wp2_with fail
  refine (much_any w _ m1 d1 V1 l1 H1.out hm1 (Nat.le_refl _)).mono ?_
  rintro e wa ⟨⟨ba, rfl, hba⟩, b1⟩
  have HBA := Lib.hid hba
  clear hba
  have B1 := Lib.hid b1
  clear b1
  cases ba with
  | true =>
    go_wp2_with fail
    go_ret
    exact ⟨rfl, B1.out⟩
  | false =>
    obtain ⟨hm1s, he1⟩ := HBA.out rfl
    have HE1 := Lib.hid he1
    clear he1
    go_wp2_with fail
    refine (much_any wa _ m2 d2 V2 l2 (H2.out.keep fun p hp => B1.out.cell hp) hm2 B1.out.size).mono ?_
    rintro e wb ⟨⟨bb, rfl, hbb⟩, b2⟩
    have HBB := Lib.hid hbb
    clear hbb
    have B2 := Lib.hid (B1.out.trans (b2.mono B1.out.size))
    clear b2 B1
    cases bb with
    | true =>
      go_wp2_with fail
      go_ret
      exact ⟨rfl, B2.out⟩
    | false =>
      obtain ⟨hm2s, he2⟩ := HBB.out rfl
      have HE2 := Lib.hid he2
      clear he2
      go_wp2_with fail
      refine (new_any wb).mono ?_
      rintro e wc ⟨rfl, hc1, hf1, hG1, b3⟩
      have HC1 := Lib.hid hc1
      have HF1 := Lib.hid hf1
      have B3 := Lib.hid b3
      clear hc1 hf1 b3
      go_wp2_with fail
      refine (new_any wc).mono ?_
      rintro e wd ⟨rfl, hc2, hf2, hG2, b4⟩
      have HC2 := Lib.hid hc2
      have HF2 := Lib.hid hf2
      have B4 := Lib.hid b4
      clear hc2 hf2 b4
      go_wp2_with fail
      obtain ⟨S0, AP⟩ := start_both (t := 28) B2.out HC1.out HF1.out hG1 B3.out HC2.out HF2.out hG2 B4.out
      obtain ⟨a, ha⟩ : ∃ a, wb.heap.size = a := ⟨_, rfl⟩
      obtain ⟨b, hb⟩ : ∃ b, wc.heap.size = b := ⟨_, rfl⟩
      obtain ⟨x, hx⟩ : ∃ x, wd.heap.size = x := ⟨_, rfl⟩
      obtain ⟨y, hy⟩ : ∃ y, x + 1 = y := ⟨_, rfl⟩
      rw [ha, hb, hx, hy] at S0 AP
      rw [ha, hb, hx, hy]
      have HS0 := Lib.hid S0
      have HAP := Lib.hid AP
      clear S0 AP ha hb hx hy HC1 HF1 HC2 HF2 B2 B3 B4 hG1 hG2
      go_loopw [9] (fun i wr => ∃ k : Nat, i = .int .i64 k ∧ k ≤ max m1 m2 ∧ Both w a b x y wr) (fun i _ => max m1 m2 - (RowKit.intOf i).toNat)
      case atStart => exact ⟨0, rfl, Nat.zero_le _, HS0.out⟩
      case round =>
        rename_i i wr
        obtain ⟨k, rfl, hk, hS⟩ := hrel
        have HS := Lib.hid hS
        clear hS HS0
        by_cases hk1 : k < m1
        · have hkl : k < l1.length := by rw [H1.out.len]; exact hk1
          have hst0 := (H1.out.keep fun p hp => HS.out.below.cell hp).each _ (List.getElem_mem hkl)
          have hst := And.intro hst0.1 (And.intro hst0.2.1 (HE1.out _ (List.getElem_mem hkl)))
          clear hst0
          obtain ⟨V, rfl, hc1, hc2⟩ := (H1.out.keep fun p hp => HS.out.below.cell hp).cell hkl
          obtain ⟨s1, hs1⟩ : ∃ s, l1[k] = s := ⟨_, rfl⟩
          rw [hs1] at hc1 hc2 hst
          obtain ⟨R, pr, hr⟩ := HS.out.one
          have Hst := Lib.hid (step_any w wr a x s1 R pr hr HS.out.below HAP.out.na HAP.out.nx hst HT.out)
          clear hs1 hst pr hr
          go_wp2_with fail
          refine Hst.out.mono ?_
          rintro e w1 h1
          obtain ⟨rfl, S1⟩ := HS.out.first HAP.out h1
          have HS1 := Lib.hid S1
          clear h1 S1 Hst hc1 hc2 HS
          by_cases hk2 : k < m2
          · have hkl2 : k < l2.length := by rw [H2.out.len]; exact hk2
            have hst20 := (H2.out.keep fun p hp => HS1.out.below.cell hp).each _ (List.getElem_mem hkl2)
            have hst2 := And.intro hst20.1 (And.intro hst20.2.1 (HE2.out _ (List.getElem_mem hkl2)))
            clear hst20
            obtain ⟨V', rfl, hd1, hd2⟩ := (H2.out.keep fun p hp => HS1.out.below.cell hp).cell hkl2
            obtain ⟨s2, hs2⟩ : ∃ s, l2[k] = s := ⟨_, rfl⟩
            rw [hs2] at hd1 hd2 hst2
            obtain ⟨R2, pr2, hr2⟩ := HS1.out.two
            have Hst2 := Lib.hid (step_any w w1 b y s2 R2 pr2 hr2 HS1.out.below HAP.out.nb HAP.out.ny hst2 HT.out)
            clear hs2 hst2 pr2 hr2
            go_wp2_with fail
            refine Hst2.out.mono ?_
            rintro e w2 h2
            obtain ⟨rfl, S2⟩ := HS1.out.second HAP.out h2
            have HS2 := Lib.hid S2
            clear h2 S2 Hst2
            go_wp2_with fail
            exact ⟨⟨k + 1, by go_num, by omega, HS2.out⟩, by simp [RowKit.intOf]; omega⟩
          · go_wp2_with fail
            exact ⟨⟨k + 1, by go_num, by omega, HS1.out⟩, by simp [RowKit.intOf]; omega⟩
        · by_cases hk2 : k < m2
          · have hkl2 : k < l2.length := by rw [H2.out.len]; exact hk2
            have hst20 := (H2.out.keep fun p hp => HS.out.below.cell hp).each _ (List.getElem_mem hkl2)
            have hst2 := And.intro hst20.1 (And.intro hst20.2.1 (HE2.out _ (List.getElem_mem hkl2)))
            clear hst20
            obtain ⟨V', rfl, hd1, hd2⟩ := (H2.out.keep fun p hp => HS.out.below.cell hp).cell hkl2
            obtain ⟨s2, hs2⟩ : ∃ s, l2[k] = s := ⟨_, rfl⟩
            rw [hs2] at hd1 hd2 hst2
            obtain ⟨R2, pr2, hr2⟩ := HS.out.two
            have Hst2 := Lib.hid (step_any w wr b y s2 R2 pr2 hr2 HS.out.below HAP.out.nb HAP.out.ny hst2 HT.out)
            clear hs2 hst2 pr2 hr2
            go_wp2_with fail
            refine Hst2.out.mono ?_
            rintro e w2 h2
            obtain ⟨rfl, S2⟩ := HS.out.second HAP.out h2
            have HS2 := Lib.hid S2
            clear h2 S2 Hst2
            go_wp2_with fail
            exact ⟨⟨k + 1, by go_num, by omega, HS2.out⟩, by simp [RowKit.intOf]; omega⟩
          · obtain ⟨R, pr, _⟩ := HS.out.one
            obtain ⟨S, ps, _⟩ := HS.out.two
            have hRR : ((R.size : Int) == R.size) = true := by simp
            have hSS : ((S.size : Int) == S.size) = true := by simp
            go_wp2_with (first
              | (go_at_call 9; refine (held_any wr a R pr.cg).mono ?_; rintro e wh ⟨rfl, rfl⟩)
              | (go_at_call 10; refine (refHeld_any _ x R pr.ch).mono ?_; rintro e wh ⟨rfl, rfl⟩)
              | (go_at_call 9; refine (held_any _ b S ps.cg).mono ?_; rintro e wh ⟨rfl, rfl⟩)
              | (go_at_call 10; refine (refHeld_any _ y S ps.ch).mono ?_; rintro e wh ⟨rfl, rfl⟩)
              | (go_at_call 11; refine (wakes_any _ (Utf8Tabs_below HT.out HS.out.below)).mono ?_; rintro e wz ⟨rfl, bz⟩))
            go_ret
            exact ⟨rfl, HS.out.below.trans (bz.mono HS.out.below.size)⟩
end Go.Proofs.YtfegbfhkmdmheaaDoor
