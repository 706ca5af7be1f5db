/- Pair: what two are together. -/
import Derived.Test.YtakfgeonjamjeaaDoorLett
import Derived.Test.YtakfgeonjamjeaaDoorClassG
namespace Go.Proofs.YtakfgeonjamjeaaDoor
open Go.RowKit Go.Lib Go.Maps

def openZ (a : Int) : Bool := decide (44032 ≤ a ∧ a < 44032 + 11172) && ((a - 44032).tmod 28 == 0)
def syllZ (a b : Int) : Int := if 4352 ≤ a ∧ a < 4371 ∧ 4449 ≤ b ∧ b < 4470 then 44032 + ((a - 4352) * 21 + b - 4449) * 28 else if openZ a = true ∧ 4520 ≤ b ∧ b < 4547 then a + b - 4519 else 0
def markZ (b : Int) : Nat := cls marksL (char b)
def pairZ (a b : Int) : Int := if markZ b = 0 then syllZ a b else lookP pairsL a b

theorem openN_any (a : Int) (w : World) : Calls Tryd.prog 82 #[.int .i32 a] w fun e w' => e = .returned (.bool (openZ a)) ∧ w' = w := by
  have H1 := Lib.hid (withinN_any a 44032 11172 w (by decide))
  unfold openZ
  obtain ⟨R, hR⟩ : ∃ R, (decide (44032 ≤ a ∧ a < 44032 + 11172) && ((a - 44032).tmod 28 == 0)) = R := ⟨_, rfl⟩
  rw [hR]
  go_enter Tryd.func82, Tryd.ntmps82
  go_wp2_with fail
  refine H1.out.mono ?_
  rintro _ w1 ⟨rfl, h⟩
  obtain rfl := h.symm
  by_cases c1 : 44032 ≤ a ∧ a < 44032 + 11172
  · have w1 : IntKind.i32.wrap (a - 44032) = a - 44032 := IntWalk.i32_in _ (by omega)
    rw [decide_eq_true c1] at hR ⊢
    rw [Bool.true_and] at hR
    obtain ⟨m, hm⟩ : ∃ m, (a - 44032).tmod 28 = m := ⟨_, rfl⟩
    rw [hm] at hR
    subst hR
    go_wp2_with fail
    go_ret
    exact ⟨rfl, rfl⟩
  · rw [decide_eq_false c1] at hR ⊢
    rw [Bool.false_and] at hR
    subst hR
    go_wp2_with fail
    go_ret
    exact ⟨rfl, rfl⟩

theorem syllableN_any (a b : Int) (w : World) : Calls Tryd.prog 60 #[.int .i32 a, .int .i32 b] w fun e w' => e = .returned (.int .i32 (syllZ a b)) ∧ w' = w := by
  have H1 := Lib.hid (withinN_any a 4352 19 w (by decide))
  have H2 := Lib.hid (withinN_any b 4449 21 w (by decide))
  have H3 := Lib.hid (openN_any a w)
  have H4 := Lib.hid (withinN_any b 4520 27 w (by decide))
  unfold syllZ
  obtain ⟨o, ho⟩ : ∃ o, openZ a = o := ⟨_, rfl⟩
  have hoa : o = true → 44032 ≤ a ∧ a < 55204 := by
    rw [← ho]
    unfold openZ
    intro h
    have := (Bool.and_eq_true_iff.1 h).1
    have := of_decide_eq_true this
    omega
  rw [ho] at H3 ⊢
  clear ho
  obtain ⟨R, hR⟩ : ∃ R, (if 4352 ≤ a ∧ a < 4371 ∧ 4449 ≤ b ∧ b < 4470 then 44032 + ((a - 4352) * 21 + b - 4449) * 28 else if o = true ∧ 4520 ≤ b ∧ b < 4547 then a + b - 4519 else 0) = R := ⟨_, rfl⟩
  rw [hR]
  go_enter Tryd.func60, Tryd.ntmps60
  go_wp2_with fail
  refine H1.out.mono ?_
  rintro _ w1 ⟨rfl, h⟩
  obtain rfl := h.symm
  have hrest : ∀ hno : ¬ (4352 ≤ a ∧ a < 4371 ∧ 4449 ≤ b ∧ b < 4470), (if o = true ∧ 4520 ≤ b ∧ b < 4547 then a + b - 4519 else 0) = R := fun hno => by rw [if_neg hno] at hR; exact hR
  by_cases c1 : 4352 ≤ a ∧ a < 4352 + 19
  · rw [decide_eq_true c1]
    go_wp2_with fail
    refine H2.out.mono ?_
    rintro _ w1 ⟨rfl, h⟩
    obtain rfl := h.symm
    by_cases c2 : 4449 ≤ b ∧ b < 4449 + 21
    · rw [decide_eq_true c2]
      rw [if_pos (by omega)] at hR
      subst hR
      clear hrest
      have w1 : IntKind.i32.wrap (a - 4352) = a - 4352 := IntWalk.i32_in _ (by omega)
      have w2 : IntKind.i32.wrap ((a - 4352) * 21) = (a - 4352) * 21 := IntWalk.i32_in _ (by omega)
      have w3 : IntKind.i32.wrap ((a - 4352) * 21 + b) = (a - 4352) * 21 + b := IntWalk.i32_in _ (by omega)
      have w4 : IntKind.i32.wrap ((a - 4352) * 21 + b - 4449) = (a - 4352) * 21 + b - 4449 := IntWalk.i32_in _ (by omega)
      have w5 : IntKind.i32.wrap (((a - 4352) * 21 + b - 4449) * 28) = ((a - 4352) * 21 + b - 4449) * 28 := IntWalk.i32_in _ (by omega)
      have w6 : IntKind.i32.wrap (44032 + ((a - 4352) * 21 + b - 4449) * 28) = 44032 + ((a - 4352) * 21 + b - 4449) * 28 := IntWalk.i32_in _ (by omega)
      go_wp2_with fail
      go_ret
      exact ⟨rfl, rfl⟩
    · rw [decide_eq_false c2]
      have hR := hrest (by omega)
      clear hrest
      go_wp2_with fail
      refine H3.out.mono ?_
      rintro _ w1 ⟨rfl, h⟩
      obtain rfl := h.symm
      cases o with
      | false =>
        rw [if_neg (by simp)] at hR
        subst hR
        go_wp2_with fail
        go_ret
        exact ⟨rfl, rfl⟩
      | true =>
        have ha := hoa rfl
        go_wp2_with fail
        refine H4.out.mono ?_
        rintro _ w1 ⟨rfl, h⟩
        obtain rfl := h.symm
        by_cases c3 : 4520 ≤ b ∧ b < 4520 + 27
        · rw [decide_eq_true c3]
          rw [if_pos (show True ∧ 4520 ≤ b ∧ b < 4547 from ⟨trivial, by omega, by omega⟩)] at hR
          subst hR
          have w1 : IntKind.i32.wrap (a + b) = a + b := IntWalk.i32_in _ (by omega)
          have w2 : IntKind.i32.wrap (a + b - 4519) = a + b - 4519 := IntWalk.i32_in _ (by omega)
          go_wp2_with fail
          go_ret
          exact ⟨rfl, rfl⟩
        · rw [decide_eq_false c3]
          rw [if_neg (by omega)] at hR
          subst hR
          go_wp2_with fail
          go_ret
          exact ⟨rfl, rfl⟩
  · rw [decide_eq_false c1]
    have hR := hrest (by omega)
    clear hrest
    go_wp2_with fail
    refine H3.out.mono ?_
    rintro _ w1 ⟨rfl, h⟩
    obtain rfl := h.symm
    cases o with
    | false =>
      rw [if_neg (by simp)] at hR
      subst hR
      go_wp2_with fail
      go_ret
      exact ⟨rfl, rfl⟩
    | true =>
      have ha := hoa rfl
      go_wp2_with fail
      refine H4.out.mono ?_
      rintro _ w1 ⟨rfl, h⟩
      obtain rfl := h.symm
      by_cases c3 : 4520 ≤ b ∧ b < 4520 + 27
      · rw [decide_eq_true c3]
        rw [if_pos (show True ∧ 4520 ≤ b ∧ b < 4547 from ⟨trivial, by omega, by omega⟩)] at hR
        subst hR
        have w1 : IntKind.i32.wrap (a + b) = a + b := IntWalk.i32_in _ (by omega)
        have w2 : IntKind.i32.wrap (a + b - 4519) = a + b - 4519 := IntWalk.i32_in _ (by omega)
        go_wp2_with fail
        go_ret
        exact ⟨rfl, rfl⟩
      · rw [decide_eq_false c3]
        rw [if_neg (by omega)] at hR
        subst hR
        go_wp2_with fail
        go_ret
        exact ⟨rfl, rfl⟩

/-- a composer's map: not made yet, or the letters with marks -/
def HasMap (w : World) (C : Nat) : Prop := w.frozen? ⟨C, 3, none⟩ = false ∧ (w.cell? ⟨C, 3, none⟩ = some (.map none) ∨ ∃ B M, w.cell? ⟨C, 3, none⟩ = some (.map (some B)) ∧ B ≠ C ∧ MapIs w B M pairsL)
/-- what asking a composer turns: its map's field, and nothing else -/
def Turned (w w' : World) (C : Nat) : Prop := ∃ w1, Below w.heap.size w w1 ∧ (w' = w1 ∨ ∃ v, w' = w1.setCell ⟨C, 3, none⟩ v)

theorem grownBySet (w : World) (p : Addr) (u : Value) : w.grownBy (w.setCell p u) (some p.block) := ⟨rfl, rfl, rfl, by simp [World.setCell], fun k _ hk => heap_setCell_other w p k u (fun e => hk (by simp [e]))⟩
theorem markZ_lt (b : Int) : markZ b < 256 := cls_lt (m := 256) marksL (char b) (by decide) (by decide +kernel)
theorem HasMap.below {w w' : World} {C b : Nat} (h : HasMap w C) (hb : Below b w w') (hC : C < b) (hbw : b = w.heap.size) : HasMap w' C := by
  obtain ⟨h1, h2⟩ := h
  have e := hb.block C hC
  refine ⟨?_, ?_⟩
  · unfold World.frozen? at h1 ⊢
    rw [e]
    exact h1
  · rcases h2 with h2 | ⟨B, M, h2, h3, h4⟩
    · exact .inl ((hb.cell (p := ⟨C, 3, none⟩) hC).trans h2)
    · exact .inr ⟨B, M, (hb.cell (p := ⟨C, 3, none⟩) hC).trans h2, h3, h4.below hb (by rw [hbw]; exact h4.lt)⟩

set_option maxRecDepth 100000 in
set_option maxHeartbeats 1000000 in
theorem pair_any (a b : Int) (C : Nat) (w : World) (ha : -2147483648 ≤ a ∧ a ≤ 2147483647) (hb : -2147483648 ≤ b ∧ b ≤ 2147483647) (hC : C < w.heap.size) (hm : HasMap w C) :
    Calls Tryd.prog 37 #[.pointer (some ⟨C, 0, none⟩), .int .i32 a, .int .i32 b] w fun e w' => e = .returned (.int .i32 (pairZ a b)) ∧ Turned w w' C ∧ HasMap w' C := by
  have HM := Lib.hid (Mark_any b w)
  have HS := Lib.hid (fun w => syllableN_any a b w)
  have HL := Lib.hid (fun w => lett_any w)
  have hkey := keyIs a b (WalkArith.wf_i32 ha) (WalkArith.wf_i32 hb)
  have hmt := markZ_lt b
  unfold markZ at hmt
  obtain ⟨R, hR⟩ : ∃ R, pairZ a b = R := ⟨_, rfl⟩
  rw [hR]
  unfold pairZ markZ at hR
  obtain ⟨m, hmm⟩ : ∃ m, cls marksL (char b) = m := ⟨_, rfl⟩
  rw [hmm] at HM hR hmt
  clear hmm
  have hnil1 : ∀ W, (binOp .eql 50 (.map none) (.map none)).run Tryd.prog W = .ok (.bool true) W := fun W => by first | rfl | kernel_rfl
  have hnil2 : ∀ B W, (binOp .eql 50 (.map (some B)) (.map none)).run Tryd.prog W = .ok (.bool false) W := fun B W => by first | rfl | kernel_rfl
  go_enter Tryd.func37, Tryd.ntmps37
  go_wp2_with fail
  refine HM.out.mono ?_
  rintro _ w1 ⟨rfl, b1⟩
  have hC1 : C < w1.heap.size := by have := b1.size; omega
  have hm1 : HasMap w1 C := hm.below b1 hC rfl
  have B1 := Lib.hid b1
  clear b1 hm
  by_cases hm0 : m = 0
  · subst hm0
    rw [if_pos rfl] at hR
    have Hm1 := Lib.hid hm1
    clear hm1
    go_wp2_with fail
    refine (HS.out _).mono ?_
    rintro _ w2 ⟨rfl, h⟩
    obtain rfl := h.symm
    subst hR
    go_wp2_with fail
    go_ret
    exact ⟨rfl, ⟨w1, B1.out, .inl rfl⟩, Hm1.out⟩
  · rw [if_neg hm0] at hR
    have hz : ((m : Int) == 0) = false := by rw [beq_eq_false_iff_ne]; omega
    obtain ⟨f1, c1 | ⟨B, M, c1, hBC, hmp⟩⟩ := hm1
    · go_wp2_with fail
      refine (HL.out w1).mono ?_
      rintro _ w2 ⟨M, rfl, hmp, b2⟩
      obtain ⟨B, hB⟩ : ∃ B, w1.heap.size = B := ⟨_, rfl⟩
      rw [hB] at hmp
      have e2 := b2.block C hC1
      have c2 : w2.cell? ⟨C, 3, none⟩ = some (.map none) := (b2.cell (p := ⟨C, 3, none⟩) hC1).trans c1
      have f2 : w2.frozen? ⟨C, 3, none⟩ = false := by unfold World.frozen? at f1 ⊢; rw [e2]; exact f1
      have hBC : B ≠ C := by omega
      obtain ⟨w3, hw3⟩ : ∃ w3, w2.setCell ⟨C, 3, none⟩ (.map (some B)) = w3 := ⟨_, rfl⟩
      have hmp3 : MapIs w3 B M pairsL := by rw [← hw3]; exact hmp.kept (grownBySet _ _ _) (fun e => hBC (by simpa using e))
      have c3 : w3.cell? ⟨C, 3, none⟩ = some (.map (some B)) := by rw [← hw3]; exact World.cell?_setCell_same' _ _ _ (by rw [c2]; rfl)
      have f3 : w3.frozen? ⟨C, 3, none⟩ = false := by rw [← hw3, World.frozen?_setCell]; exact f2
      have HW := Lib.hid hw3
      have B2 := Lib.hid (B1.out.trans (b2.mono B1.out.size))
      obtain ⟨D, hmd, hown, h3⟩ := hmp3
      have Hown := Lib.hid hown
      have Hmp3 := Lib.hid (show MapIs w3 B M pairsL from ⟨D, hmd, hown, h3⟩)
      have H3 := Lib.hid (h3 a b _ hkey)
      clear hmp b2 e2 hown h3 hmd
      rw [hB]
      go_wp2_with (at_lookup; refine wpList_lookup_own_int _ rfl _ _ 50 rfl 83 21 .i32 keyLaw Tryd.underlying50 Tryd.underlying21 (zero32 _) B M _ rfl Hown.out _ _ rfl hkey ?_)
      intro c hat hwc
      have hc : c = lookP pairsL a b := by
        have := H3.out
        rw [hat] at this
        simpa using this
      rw [hc, hR]
      go_wp2
      go_ret
      exact ⟨rfl, ⟨w2, B2.out, .inr ⟨_, HW.out.symm⟩⟩, f3, .inr ⟨B, M, c3, hBC, Hmp3.out⟩⟩
    · obtain ⟨D, hmd, hown, h3⟩ := hmp
      have Hown := Lib.hid hown
      have Hmp := Lib.hid (show MapIs w1 B M pairsL from ⟨D, hmd, hown, h3⟩)
      have H3 := Lib.hid (h3 a b _ hkey)
      clear hown h3 hmd
      go_wp2_with (at_lookup; refine wpList_lookup_own_int _ rfl _ _ 50 rfl 83 21 .i32 keyLaw Tryd.underlying50 Tryd.underlying21 (zero32 _) B M _ rfl Hown.out _ _ rfl hkey ?_)
      intro c hat hwc
      have hc : c = lookP pairsL a b := by
        have := H3.out
        rw [hat] at this
        simpa using this
      rw [hc, hR]
      go_wp2
      go_ret
      exact ⟨rfl, ⟨w1, B1.out, .inl rfl⟩, f1, .inr ⟨B, M, c1, hBC, Hmp.out⟩⟩

set_option maxRecDepth 100000 in
theorem PairN_any (a b : Int) (w : World) (ha : -2147483648 ≤ a ∧ a ≤ 2147483647) (hb : -2147483648 ≤ b ∧ b ≤ 2147483647) :
    Calls Tryd.prog 15 #[.int .i32 a, .int .i32 b] w fun e w' => e = .returned (.int .i32 (pairZ a b)) ∧ Below w.heap.size w w' := by
  obtain ⟨C, hC⟩ : ∃ C, w.heap.size = C := ⟨_, rfl⟩
  obtain ⟨w1, hw1⟩ : ∃ w1, w.alloc (.cells #[.slice none 0 0, .bool false, .int .i64 0, .map none] 52) = w1 := ⟨_, rfl⟩
  have hh : w1.heap[C]? = some (.cells #[.slice none 0 0, .bool false, .int .i64 0, .map none] 52 (0, 0)) := by rw [← hw1, ← hC]; exact (MapKept.heap_alloc _ _).1
  have hb1 : Below C w w1 := by rw [← hw1, ← hC]; exact (Below.refl _ w).alloc (Nat.le_refl _) _
  have hm : HasMap w1 C := ⟨by simp [World.frozen?, hh], .inl (by simp [World.cell?, hh])⟩
  have HP := Lib.hid (pair_any a b C w1 ha hb (heap_lt4 hh) hm)
  have hlt := heap_lt4 hh
  obtain ⟨R, hR⟩ : ∃ R, pairZ a b = R := ⟨_, rfl⟩
  rw [hR] at HP ⊢
  rw [hC]
  have HW := Lib.hid hw1
  have HB := Lib.hid hb1
  clear hw1 hb1 hh hm hR
  go_enter Tryd.func15, Tryd.ntmps15
  go_wp2_with fail
  rw [HW.out]
  refine HP.out.mono ?_
  rintro _ w2 ⟨rfl, ⟨w3, hb3, hw⟩, _⟩
  have hbf : Below C w w2 := by
    rcases hw with rfl | ⟨v, rfl⟩
    · exact HB.out.trans (hb3.mono (by omega))
    · exact (HB.out.trans (hb3.mono (by omega))).setCell (p := ⟨C, 3, none⟩) (Nat.le_refl _) _
  have HF := Lib.hid hbf
  clear hbf hw hb3
  go_wp2_with fail
  go_ret
  exact ⟨rfl, HF.out⟩
end Go.Proofs.YtakfgeonjamjeaaDoor
