/- The map of letters with marks: made. -/
import Derived.Test.YtfegbfhkmdmheaaDoorPairMap
import Derived.LoopN
import Derived.Test.YtfegbfhkmdmheaaDoorClassG
set_option linter.unusedSimpArgs false
set_option linter.unusedVariables false
namespace Go.Proofs.YtfegbfhkmdmheaaDoor
open Go.RowKit Go.Lib Go.Maps

def stepP (L : PL) (r : Int) : PL := if (partsZ r).2 = 0 then L else (partsZ r, r) :: L
def runP : Nat → Int → PL → PL
  | 0, _, L => L
  | n + 1, r, L => stepP (runP n r L) (r + n)
def blkL : Nat → PL
  | 0 => []
  | 1 => runP 191 192 []
  | 2 => runP 73 902 (runP 191 192 [])
  | 3 => runP 94 1025 (runP 73 902 (runP 191 192 []))
  | 4 => runP 48 7844 (runP 94 1025 (runP 73 902 (runP 191 192 [])))
  | _ => runP 146 12364 (runP 48 7844 (runP 94 1025 (runP 73 902 (runP 191 192 []))))
/-- all pairs of a letter and a mark -/
def pairsL : PL := blkL 5

theorem lookI_le {l : List (List Int × Int)} {z r N : Int} (h : (l.all fun x => decide (0 ≤ x.2) && decide (x.2 ≤ N)) = true) (hz : 0 ≤ z ∧ z ≤ N) : 0 ≤ lookI l z r ∧ lookI l z r ≤ N := by
  induction l with
  | nil => exact hz
  | cons x t ih =>
    simp only [List.all_cons, Bool.and_eq_true, decide_eq_true_eq] at h
    unfold lookI
    cases hasI x.1 r with
    | true => exact h.1
    | false => exact ih h.2
theorem parts_le (r : Int) : 0 ≤ (partsZ r).1 ∧ (partsZ r).1 ≤ 70000 ∧ 0 ≤ (partsZ r).2 ∧ (partsZ r).2 ≤ 70000 := by
  unfold partsZ
  by_cases h1 : r < 192
  · rw [if_pos h1]; decide
  · rw [if_neg h1]
    by_cases h2 : 44032 ≤ r ∧ r < 55204
    · rw [if_pos h2]
      unfold sylZ
      have hm0 := Int.tmod_nonneg (28 : Int) (show (0 : Int) ≤ r - 44032 by omega)
      have hm := Int.tmod_lt_of_pos (r - 44032) (show (0 : Int) < 28 by decide)
      have hd0 := Int.tdiv_nonneg (show (0 : Int) ≤ r - 44032 by omega) (show (0 : Int) ≤ 28 by decide)
      have hd1 : (r - 44032).tdiv 28 < 399 := by rw [Int.tdiv_eq_ediv_of_nonneg (by omega)]; omega
      have hq0 := Int.tdiv_nonneg hd0 (show (0 : Int) ≤ 21 by decide)
      have hq1 : ((r - 44032).tdiv 28).tdiv 21 < 20 := by rw [Int.tdiv_eq_ediv_of_nonneg hd0]; omega
      have hr0 := Int.tmod_nonneg (21 : Int) hd0
      have hr1 := Int.tmod_lt_of_pos ((r - 44032).tdiv 28) (show (0 : Int) < 21 by decide)
      split <;> (simp only; omega)
    · rw [if_neg h2]
      by_cases h3 : 12352 ≤ r ∧ r < 12544
      · rw [if_pos h3]
        unfold kanaZ
        cases hasI kanaV (kanaL r - 1) with
        | true => simp only [cond_true]; omega
        | false =>
          cases hasI kanaH (kanaL r - 2) with
          | true => simp only [cond_true, cond_false]; omega
          | false => simp only [cond_false]; omega
      · rw [if_neg h3]
        have a := lookI_le (l := greekT) (z := 0) (r := r) (N := 70000) (by decide +kernel) (by decide)
        have b := lookI_le (l := cyrT) (z := 0) (r := r) (N := 70000) (by decide +kernel) (by decide)
        have c := lookI_le (l := greatT) (z := 0) (r := r) (N := 70000) (by decide +kernel) (by decide)
        have d := lookI_le (l := smallT) (z := 0) (r := r) (N := 70000) (by decide +kernel) (by decide)
        have e := lookI_le (l := markT) (z := 0) (r := r) (N := 70000) (by decide +kernel) (by decide)
        refine ⟨?_, ?_, e.1, e.2⟩
        all_goals
          unfold letterZ
          split
          · omega
          · split
            · omega
            · split <;> omega
theorem wf_rune (a : Int) (h : 0 ≤ a ∧ a ≤ 2147483647) : (Lit.int .i32 a).wf = true := by
  exact WalkArith.wf_i32 (by omega)
theorem heap_lt4 {W : World} {D : Nat} {o : Obj} (h : W.heap[D]? = some o) : D < W.heap.size := (Array.getElem?_eq_some_iff.1 h).1
theorem make_hint (w : World) : (Instr.makeMap 64 (some (.int .i64 255))).run Tryd.prog w = .ok (.map (some w.heap.size)) (w.alloc (.map #[] 0)) := by
  first
    | kernel_rfl
    | simp [Instr.makeMap, run_underlying Tryd.underlying64, asInt, asIntOf, Result.andThen]

set_option maxRecDepth 100000 in
set_option maxHeartbeats 4000000 in
theorem lett_any (w : World) : Calls Tryd.prog 60 #[] w fun e w' => ∃ M, e = .returned (.map (some w.heap.size)) ∧ MapIs w' w.heap.size M pairsL ∧ Below w.heap.size w w' := by
  have hmm := make_hint
  have hidx0 : ∀ w, (Instr.index 134 (.agg #[.int .i32 192, .int .i32 382, .int .i32 902, .int .i32 974, .int .i32 1025, .int .i32 1118, .int .i32 7844, .int .i32 7891, .int .i32 12364, .int .i32 12509]) (.int .i64 0)).run Tryd.prog w = .ok (.agg #[.int .i32 192, .int .i32 382]) w := fun w => by kernel_rfl
  have hidx1 : ∀ w, (Instr.index 134 (.agg #[.int .i32 192, .int .i32 382, .int .i32 902, .int .i32 974, .int .i32 1025, .int .i32 1118, .int .i32 7844, .int .i32 7891, .int .i32 12364, .int .i32 12509]) (.int .i64 1)).run Tryd.prog w = .ok (.agg #[.int .i32 902, .int .i32 974]) w := fun w => by kernel_rfl
  have hidx2 : ∀ w, (Instr.index 134 (.agg #[.int .i32 192, .int .i32 382, .int .i32 902, .int .i32 974, .int .i32 1025, .int .i32 1118, .int .i32 7844, .int .i32 7891, .int .i32 12364, .int .i32 12509]) (.int .i64 2)).run Tryd.prog w = .ok (.agg #[.int .i32 1025, .int .i32 1118]) w := fun w => by kernel_rfl
  have hidx3 : ∀ w, (Instr.index 134 (.agg #[.int .i32 192, .int .i32 382, .int .i32 902, .int .i32 974, .int .i32 1025, .int .i32 1118, .int .i32 7844, .int .i32 7891, .int .i32 12364, .int .i32 12509]) (.int .i64 3)).run Tryd.prog w = .ok (.agg #[.int .i32 7844, .int .i32 7891]) w := fun w => by kernel_rfl
  have hidx4 : ∀ w, (Instr.index 134 (.agg #[.int .i32 192, .int .i32 382, .int .i32 902, .int .i32 974, .int .i32 1025, .int .i32 1118, .int .i32 7844, .int .i32 7891, .int .i32 12364, .int .i32 12509]) (.int .i64 4)).run Tryd.prog w = .ok (.agg #[.int .i32 12364, .int .i32 12509]) w := fun w => by kernel_rfl
  have Hp := Lib.hid (fun x w => partsN_any x w (fun a b => kana_any _ a b w))
  obtain ⟨B, hB⟩ : ∃ B, w.heap.size = B := ⟨_, rfl⟩
  have HB := Lib.hid hB
  have hmade : Hid (MapIs (w.alloc (.map #[] 0)) B 0 []) := Lib.hid (by rw [← hB]; exact MapIs.made w)
  have hbel : Hid (Below B w (w.alloc (.map #[] 0))) := Lib.hid (by rw [← hB]; exact (Below.refl _ w).alloc (Nat.le_refl _) _)
  rw [hB]
  clear hB
  go_enter Tryd.func60, Tryd.ntmps60
  go_wp2_with fail
  have hmd := hmade.out
  revert hmade hbel
  rw [HB.out]
  generalize w.alloc (.map #[] 0) = W0
  intro hmade hbel
  clear hmd
  have hm0 : ∃ M, M ≤ 0 ∧ MapIs W0 B M (blkL 0) := ⟨0, Nat.le_refl _, hmade.out⟩
  have Hm0 := Lib.hid hm0
  have hb0 := hbel
  clear hm0 hmade hbel
  refine wp_loop_rounds 6 ?_
  rw [rounds_succ]
  go_wp2_with fail
  obtain ⟨X0, hX0⟩ : ∃ X0, W0.heap.size = X0 := ⟨_, rfl⟩
  have hBX0 : B < X0 := by obtain ⟨M, _, h⟩ := Hm0.out; rw [← hX0]; exact h.lt
  obtain ⟨V0, hV0⟩ : ∃ V0, W0.alloc (.cells #[.int .i32 192, .int .i32 382] 133) = V0 := ⟨_, rfl⟩
  have hx0 : V0.heap[X0]? = some (.cells #[.int .i32 192, .int .i32 382] 133 (0, 0)) := by rw [← hV0, ← hX0]; exact (MapKept.heap_alloc _ _).1
  have hv0 : Below B w V0 := by rw [← hV0]; exact hb0.out.alloc (by omega) _
  have hmv0 : ∃ M, M ≤ 0 ∧ MapIs V0 B M (blkL 0) := by
    obtain ⟨M, h1, h2⟩ := Hm0.out
    refine ⟨M, h1, ?_⟩
    rw [← hV0]
    exact h2.kept (World.grownBy_alloc _ _ none) (by simp)
  rw [hV0]
  rw [hX0]
  clear hV0 hX0 Hm0 hb0
  go_loopw [4] (fun i wr => ∃ j M : Nat, j ≤ 191 ∧ M ≤ 0 + j ∧ i = .int .i32 ((192 : Int) + (j : Int)) ∧ MapIs wr B M (runP j 192 (blkL 0)) ∧ wr.heap[X0]? = some (.cells #[.int .i32 192, .int .i32 382] 133 (0, 0)) ∧ Below B w wr) (fun i _ => 192 - ((RowKit.intOf i) - 192).toNat)
  case atStart =>
    obtain ⟨M, h1, h2⟩ := hmv0
    exact ⟨0, M, Nat.zero_le _, h1, rfl, h2, hx0, hv0⟩
  case round =>
    obtain ⟨j, M, hj, hM, rfl, hmp, hX, hbw⟩ := hrel
    have c1 : wr.cell? ⟨X0, 1, none⟩ = some (.int .i32 382) := by simp [World.cell?, hX]
    by_cases hjn : j < 191
    · have hle : ((192 : Int) + (j : Int)) ≤ 382 := by omega
      have hwk : IntKind.i32.wrap ((192 : Int) + (j : Int) + 1) = (192 : Int) + ((j + 1 : Nat) : Int) := by rw [IntWalk.i32_in _ (by omega)]; omega
      have hstep : runP (j + 1) 192 (blkL 0) = stepP (runP j 192 (blkL 0)) ((192 : Int) + (j : Int)) := rfl
      obtain ⟨r, hr⟩ : ∃ r, (192 : Int) + (j : Int) = r := ⟨_, rfl⟩
      have hpl := parts_le r
      have hP := Hp.out r wr
      obtain ⟨L, hL⟩ : ∃ L, runP j 192 (blkL 0) = L := ⟨_, rfl⟩
      rw [hr] at hstep hle hwk ⊢
      rw [hL] at hstep hmp
      unfold stepP at hstep
      obtain ⟨p, hp⟩ : ∃ p, partsZ r = p := ⟨_, rfl⟩
      rw [hp] at hstep hpl hP
      have HP := Lib.hid hP
      have Hst := Lib.hid hstep
      have Hr := Lib.hid hr
      have Hbw := Lib.hid hbw
      clear hP hp hL hstep hr hbw
      go_wp2_with fail
      refine HP.out.mono ?_
      rintro _ w1 ⟨rfl, h⟩
      obtain rfl := h.symm
      by_cases h0 : p.2 = 0
      · have hz : (p.2 == 0) = true := by simp [h0]
        have Hmp := Lib.hid hmp
        have HX := Lib.hid hX
        clear hmp hX
        go_wp2
        go_roundw
        case rel =>
          refine ⟨j + 1, M, by omega, by omega, by first | rfl | (rw [← hwk]), ?_, HX.out, Hbw.out⟩
          rw [Hst.out, if_pos h0]
          exact Hmp.out
        case measure => simp [RowKit.intOf]; have := Hr.out; omega
      · have hz : (p.2 == 0) = false := by simp [h0]
        obtain ⟨D, hmd, hown, h3⟩ := hmp
        have hkey := keyIs p.1 p.2 (wf_rune _ ⟨hpl.1, by omega⟩) (wf_rune _ ⟨hpl.2.2.1, by omega⟩)
        have Hown := Lib.hid hown
        have H3 := Lib.hid h3
        have HX := Lib.hid hX
        clear h3 hX hown
        go_wp2_with (at_mapUpdate; refine wpList_mapUpdate_own _ rfl _ _ _ 64 rfl 88 21 keyLaw Tryd.underlying64 _ B M _ rfl Hown.out (by unfold maxLen; omega) _ _ _ rfl rfl hkey _ [] (plainElem_int Tryd.underlying21 (wf_rune r (by have := Hr.out; omega))) ?_)
        intro w2 hown2 hg2
        have Hown2 := Lib.hid hown2
        have Hg2 := Lib.hid hg2
        clear hown2 hg2
        go_wp2
        go_roundw
        case rel =>
          refine ⟨j + 1, M + 1, by omega, by omega, by first | rfl | (rw [← hwk]), ?_, (Hg2.out.block X0 (heap_lt4 HX.out) (by intro e; cases e; omega)).trans HX.out, Hbw.out.grown Hg2.out (by have := Hbw.out.size; have := HB.out; omega) (fun i hi => by cases hi; exact Nat.le_refl _)⟩
          rw [Hst.out, if_neg h0]
          exact MapIs.put hmd H3.out hkey Hown2.out
        case measure => simp [RowKit.intOf]; have := Hr.out; omega
    · obtain rfl : j = 191 := by omega
      have hle : ¬ ((192 : Int) + ((191 : Nat) : Int)) ≤ 382 := by omega
      have Hm1 : Hid (∃ M, M ≤ 191 ∧ MapIs wr B M (blkL 1)) := Lib.hid ⟨M, hM, hmp⟩
      have hb1 := Lib.hid hbw
      clear hmp hX hbw hmv0 hx0 hv0
      obtain ⟨W1, hW1⟩ : ∃ W, W = wr := ⟨_, rfl⟩
      subst hW1
      go_wp2_with fail
      rw [rounds_succ]
      go_wp2_with fail
      obtain ⟨X1, hX1⟩ : ∃ X1, W1.heap.size = X1 := ⟨_, rfl⟩
      have hBX1 : B < X1 := by obtain ⟨M, _, h⟩ := Hm1.out; rw [← hX1]; exact h.lt
      obtain ⟨V1, hV1⟩ : ∃ V1, W1.alloc (.cells #[.int .i32 902, .int .i32 974] 133) = V1 := ⟨_, rfl⟩
      have hx1 : V1.heap[X1]? = some (.cells #[.int .i32 902, .int .i32 974] 133 (0, 0)) := by rw [← hV1, ← hX1]; exact (MapKept.heap_alloc _ _).1
      have hv1 : Below B w V1 := by rw [← hV1]; exact hb1.out.alloc (by omega) _
      have hmv1 : ∃ M, M ≤ 191 ∧ MapIs V1 B M (blkL 1) := by
        obtain ⟨M, h1, h2⟩ := Hm1.out
        refine ⟨M, h1, ?_⟩
        rw [← hV1]
        exact h2.kept (World.grownBy_alloc _ _ none) (by simp)
      rw [hV1]
      rw [hX1]
      clear hV1 hX1 Hm1 hb1
      go_loopw [4] (fun i wr => ∃ j M : Nat, j ≤ 73 ∧ M ≤ 191 + j ∧ i = .int .i32 ((902 : Int) + (j : Int)) ∧ MapIs wr B M (runP j 902 (blkL 1)) ∧ wr.heap[X1]? = some (.cells #[.int .i32 902, .int .i32 974] 133 (0, 0)) ∧ Below B w wr) (fun i _ => 74 - ((RowKit.intOf i) - 902).toNat)
      case atStart =>
        obtain ⟨M, h1, h2⟩ := hmv1
        exact ⟨0, M, Nat.zero_le _, h1, rfl, h2, hx1, hv1⟩
      case round =>
        obtain ⟨j, M, hj, hM, rfl, hmp, hX, hbw⟩ := hrel
        have c1 : wr.cell? ⟨X1, 1, none⟩ = some (.int .i32 974) := by simp [World.cell?, hX]
        by_cases hjn : j < 73
        · have hle : ((902 : Int) + (j : Int)) ≤ 974 := by omega
          have hwk : IntKind.i32.wrap ((902 : Int) + (j : Int) + 1) = (902 : Int) + ((j + 1 : Nat) : Int) := by rw [IntWalk.i32_in _ (by omega)]; omega
          have hstep : runP (j + 1) 902 (blkL 1) = stepP (runP j 902 (blkL 1)) ((902 : Int) + (j : Int)) := rfl
          obtain ⟨r, hr⟩ : ∃ r, (902 : Int) + (j : Int) = r := ⟨_, rfl⟩
          have hpl := parts_le r
          have hP := Hp.out r wr
          obtain ⟨L, hL⟩ : ∃ L, runP j 902 (blkL 1) = L := ⟨_, rfl⟩
          rw [hr] at hstep hle hwk ⊢
          rw [hL] at hstep hmp
          unfold stepP at hstep
          obtain ⟨p, hp⟩ : ∃ p, partsZ r = p := ⟨_, rfl⟩
          rw [hp] at hstep hpl hP
          have HP := Lib.hid hP
          have Hst := Lib.hid hstep
          have Hr := Lib.hid hr
          have Hbw := Lib.hid hbw
          clear hP hp hL hstep hr hbw
          go_wp2_with fail
          refine HP.out.mono ?_
          rintro _ w1 ⟨rfl, h⟩
          obtain rfl := h.symm
          by_cases h0 : p.2 = 0
          · have hz : (p.2 == 0) = true := by simp [h0]
            have Hmp := Lib.hid hmp
            have HX := Lib.hid hX
            clear hmp hX
            go_wp2
            go_roundw
            case rel =>
              refine ⟨j + 1, M, by omega, by omega, by first | rfl | (rw [← hwk]), ?_, HX.out, Hbw.out⟩
              rw [Hst.out, if_pos h0]
              exact Hmp.out
            case measure => simp [RowKit.intOf]; have := Hr.out; omega
          · have hz : (p.2 == 0) = false := by simp [h0]
            obtain ⟨D, hmd, hown, h3⟩ := hmp
            have hkey := keyIs p.1 p.2 (wf_rune _ ⟨hpl.1, by omega⟩) (wf_rune _ ⟨hpl.2.2.1, by omega⟩)
            have Hown := Lib.hid hown
            have H3 := Lib.hid h3
            have HX := Lib.hid hX
            clear h3 hX hown
            go_wp2_with (at_mapUpdate; refine wpList_mapUpdate_own _ rfl _ _ _ 64 rfl 88 21 keyLaw Tryd.underlying64 _ B M _ rfl Hown.out (by unfold maxLen; omega) _ _ _ rfl rfl hkey _ [] (plainElem_int Tryd.underlying21 (wf_rune r (by have := Hr.out; omega))) ?_)
            intro w2 hown2 hg2
            have Hown2 := Lib.hid hown2
            have Hg2 := Lib.hid hg2
            clear hown2 hg2
            go_wp2
            go_roundw
            case rel =>
              refine ⟨j + 1, M + 1, by omega, by omega, by first | rfl | (rw [← hwk]), ?_, (Hg2.out.block X1 (heap_lt4 HX.out) (by intro e; cases e; omega)).trans HX.out, Hbw.out.grown Hg2.out (by have := Hbw.out.size; have := HB.out; omega) (fun i hi => by cases hi; exact Nat.le_refl _)⟩
              rw [Hst.out, if_neg h0]
              exact MapIs.put hmd H3.out hkey Hown2.out
            case measure => simp [RowKit.intOf]; have := Hr.out; omega
        · obtain rfl : j = 73 := by omega
          have hle : ¬ ((902 : Int) + ((73 : Nat) : Int)) ≤ 974 := by omega
          have Hm2 : Hid (∃ M, M ≤ 264 ∧ MapIs wr B M (blkL 2)) := Lib.hid ⟨M, hM, hmp⟩
          have hb2 := Lib.hid hbw
          clear hmp hX hbw hmv1 hx1 hv1
          obtain ⟨W2, hW2⟩ : ∃ W, W = wr := ⟨_, rfl⟩
          subst hW2
          go_wp2_with fail
          rw [rounds_succ]
          go_wp2_with fail
          obtain ⟨X2, hX2⟩ : ∃ X2, W2.heap.size = X2 := ⟨_, rfl⟩
          have hBX2 : B < X2 := by obtain ⟨M, _, h⟩ := Hm2.out; rw [← hX2]; exact h.lt
          obtain ⟨V2, hV2⟩ : ∃ V2, W2.alloc (.cells #[.int .i32 1025, .int .i32 1118] 133) = V2 := ⟨_, rfl⟩
          have hx2 : V2.heap[X2]? = some (.cells #[.int .i32 1025, .int .i32 1118] 133 (0, 0)) := by rw [← hV2, ← hX2]; exact (MapKept.heap_alloc _ _).1
          have hv2 : Below B w V2 := by rw [← hV2]; exact hb2.out.alloc (by omega) _
          have hmv2 : ∃ M, M ≤ 264 ∧ MapIs V2 B M (blkL 2) := by
            obtain ⟨M, h1, h2⟩ := Hm2.out
            refine ⟨M, h1, ?_⟩
            rw [← hV2]
            exact h2.kept (World.grownBy_alloc _ _ none) (by simp)
          rw [hV2]
          rw [hX2]
          clear hV2 hX2 Hm2 hb2
          go_loopw [4] (fun i wr => ∃ j M : Nat, j ≤ 94 ∧ M ≤ 264 + j ∧ i = .int .i32 ((1025 : Int) + (j : Int)) ∧ MapIs wr B M (runP j 1025 (blkL 2)) ∧ wr.heap[X2]? = some (.cells #[.int .i32 1025, .int .i32 1118] 133 (0, 0)) ∧ Below B w wr) (fun i _ => 95 - ((RowKit.intOf i) - 1025).toNat)
          case atStart =>
            obtain ⟨M, h1, h2⟩ := hmv2
            exact ⟨0, M, Nat.zero_le _, h1, rfl, h2, hx2, hv2⟩
          case round =>
            obtain ⟨j, M, hj, hM, rfl, hmp, hX, hbw⟩ := hrel
            have c1 : wr.cell? ⟨X2, 1, none⟩ = some (.int .i32 1118) := by simp [World.cell?, hX]
            by_cases hjn : j < 94
            · have hle : ((1025 : Int) + (j : Int)) ≤ 1118 := by omega
              have hwk : IntKind.i32.wrap ((1025 : Int) + (j : Int) + 1) = (1025 : Int) + ((j + 1 : Nat) : Int) := by rw [IntWalk.i32_in _ (by omega)]; omega
              have hstep : runP (j + 1) 1025 (blkL 2) = stepP (runP j 1025 (blkL 2)) ((1025 : Int) + (j : Int)) := rfl
              obtain ⟨r, hr⟩ : ∃ r, (1025 : Int) + (j : Int) = r := ⟨_, rfl⟩
              have hpl := parts_le r
              have hP := Hp.out r wr
              obtain ⟨L, hL⟩ : ∃ L, runP j 1025 (blkL 2) = L := ⟨_, rfl⟩
              rw [hr] at hstep hle hwk ⊢
              rw [hL] at hstep hmp
              unfold stepP at hstep
              obtain ⟨p, hp⟩ : ∃ p, partsZ r = p := ⟨_, rfl⟩
              rw [hp] at hstep hpl hP
              have HP := Lib.hid hP
              have Hst := Lib.hid hstep
              have Hr := Lib.hid hr
              have Hbw := Lib.hid hbw
              clear hP hp hL hstep hr hbw
              go_wp2_with fail
              refine HP.out.mono ?_
              rintro _ w1 ⟨rfl, h⟩
              obtain rfl := h.symm
              by_cases h0 : p.2 = 0
              · have hz : (p.2 == 0) = true := by simp [h0]
                have Hmp := Lib.hid hmp
                have HX := Lib.hid hX
                clear hmp hX
                go_wp2
                go_roundw
                case rel =>
                  refine ⟨j + 1, M, by omega, by omega, by first | rfl | (rw [← hwk]), ?_, HX.out, Hbw.out⟩
                  rw [Hst.out, if_pos h0]
                  exact Hmp.out
                case measure => simp [RowKit.intOf]; have := Hr.out; omega
              · have hz : (p.2 == 0) = false := by simp [h0]
                obtain ⟨D, hmd, hown, h3⟩ := hmp
                have hkey := keyIs p.1 p.2 (wf_rune _ ⟨hpl.1, by omega⟩) (wf_rune _ ⟨hpl.2.2.1, by omega⟩)
                have Hown := Lib.hid hown
                have H3 := Lib.hid h3
                have HX := Lib.hid hX
                clear h3 hX hown
                go_wp2_with (at_mapUpdate; refine wpList_mapUpdate_own _ rfl _ _ _ 64 rfl 88 21 keyLaw Tryd.underlying64 _ B M _ rfl Hown.out (by unfold maxLen; omega) _ _ _ rfl rfl hkey _ [] (plainElem_int Tryd.underlying21 (wf_rune r (by have := Hr.out; omega))) ?_)
                intro w2 hown2 hg2
                have Hown2 := Lib.hid hown2
                have Hg2 := Lib.hid hg2
                clear hown2 hg2
                go_wp2
                go_roundw
                case rel =>
                  refine ⟨j + 1, M + 1, by omega, by omega, by first | rfl | (rw [← hwk]), ?_, (Hg2.out.block X2 (heap_lt4 HX.out) (by intro e; cases e; omega)).trans HX.out, Hbw.out.grown Hg2.out (by have := Hbw.out.size; have := HB.out; omega) (fun i hi => by cases hi; exact Nat.le_refl _)⟩
                  rw [Hst.out, if_neg h0]
                  exact MapIs.put hmd H3.out hkey Hown2.out
                case measure => simp [RowKit.intOf]; have := Hr.out; omega
            · obtain rfl : j = 94 := by omega
              have hle : ¬ ((1025 : Int) + ((94 : Nat) : Int)) ≤ 1118 := by omega
              have Hm3 : Hid (∃ M, M ≤ 358 ∧ MapIs wr B M (blkL 3)) := Lib.hid ⟨M, hM, hmp⟩
              have hb3 := Lib.hid hbw
              clear hmp hX hbw hmv2 hx2 hv2
              obtain ⟨W3, hW3⟩ : ∃ W, W = wr := ⟨_, rfl⟩
              subst hW3
              go_wp2_with fail
              rw [rounds_succ]
              go_wp2_with fail
              obtain ⟨X3, hX3⟩ : ∃ X3, W3.heap.size = X3 := ⟨_, rfl⟩
              have hBX3 : B < X3 := by obtain ⟨M, _, h⟩ := Hm3.out; rw [← hX3]; exact h.lt
              obtain ⟨V3, hV3⟩ : ∃ V3, W3.alloc (.cells #[.int .i32 7844, .int .i32 7891] 133) = V3 := ⟨_, rfl⟩
              have hx3 : V3.heap[X3]? = some (.cells #[.int .i32 7844, .int .i32 7891] 133 (0, 0)) := by rw [← hV3, ← hX3]; exact (MapKept.heap_alloc _ _).1
              have hv3 : Below B w V3 := by rw [← hV3]; exact hb3.out.alloc (by omega) _
              have hmv3 : ∃ M, M ≤ 358 ∧ MapIs V3 B M (blkL 3) := by
                obtain ⟨M, h1, h2⟩ := Hm3.out
                refine ⟨M, h1, ?_⟩
                rw [← hV3]
                exact h2.kept (World.grownBy_alloc _ _ none) (by simp)
              rw [hV3]
              rw [hX3]
              clear hV3 hX3 Hm3 hb3
              go_loopw [4] (fun i wr => ∃ j M : Nat, j ≤ 48 ∧ M ≤ 358 + j ∧ i = .int .i32 ((7844 : Int) + (j : Int)) ∧ MapIs wr B M (runP j 7844 (blkL 3)) ∧ wr.heap[X3]? = some (.cells #[.int .i32 7844, .int .i32 7891] 133 (0, 0)) ∧ Below B w wr) (fun i _ => 49 - ((RowKit.intOf i) - 7844).toNat)
              case atStart =>
                obtain ⟨M, h1, h2⟩ := hmv3
                exact ⟨0, M, Nat.zero_le _, h1, rfl, h2, hx3, hv3⟩
              case round =>
                obtain ⟨j, M, hj, hM, rfl, hmp, hX, hbw⟩ := hrel
                have c1 : wr.cell? ⟨X3, 1, none⟩ = some (.int .i32 7891) := by simp [World.cell?, hX]
                by_cases hjn : j < 48
                · have hle : ((7844 : Int) + (j : Int)) ≤ 7891 := by omega
                  have hwk : IntKind.i32.wrap ((7844 : Int) + (j : Int) + 1) = (7844 : Int) + ((j + 1 : Nat) : Int) := by rw [IntWalk.i32_in _ (by omega)]; omega
                  have hstep : runP (j + 1) 7844 (blkL 3) = stepP (runP j 7844 (blkL 3)) ((7844 : Int) + (j : Int)) := rfl
                  obtain ⟨r, hr⟩ : ∃ r, (7844 : Int) + (j : Int) = r := ⟨_, rfl⟩
                  have hpl := parts_le r
                  have hP := Hp.out r wr
                  obtain ⟨L, hL⟩ : ∃ L, runP j 7844 (blkL 3) = L := ⟨_, rfl⟩
                  rw [hr] at hstep hle hwk ⊢
                  rw [hL] at hstep hmp
                  unfold stepP at hstep
                  obtain ⟨p, hp⟩ : ∃ p, partsZ r = p := ⟨_, rfl⟩
                  rw [hp] at hstep hpl hP
                  have HP := Lib.hid hP
                  have Hst := Lib.hid hstep
                  have Hr := Lib.hid hr
                  have Hbw := Lib.hid hbw
                  clear hP hp hL hstep hr hbw
                  go_wp2_with fail
                  refine HP.out.mono ?_
                  rintro _ w1 ⟨rfl, h⟩
                  obtain rfl := h.symm
                  by_cases h0 : p.2 = 0
                  · have hz : (p.2 == 0) = true := by simp [h0]
                    have Hmp := Lib.hid hmp
                    have HX := Lib.hid hX
                    clear hmp hX
                    go_wp2
                    go_roundw
                    case rel =>
                      refine ⟨j + 1, M, by omega, by omega, by first | rfl | (rw [← hwk]), ?_, HX.out, Hbw.out⟩
                      rw [Hst.out, if_pos h0]
                      exact Hmp.out
                    case measure => simp [RowKit.intOf]; have := Hr.out; omega
                  · have hz : (p.2 == 0) = false := by simp [h0]
                    obtain ⟨D, hmd, hown, h3⟩ := hmp
                    have hkey := keyIs p.1 p.2 (wf_rune _ ⟨hpl.1, by omega⟩) (wf_rune _ ⟨hpl.2.2.1, by omega⟩)
                    have Hown := Lib.hid hown
                    have H3 := Lib.hid h3
                    have HX := Lib.hid hX
                    clear h3 hX hown
                    go_wp2_with (at_mapUpdate; refine wpList_mapUpdate_own _ rfl _ _ _ 64 rfl 88 21 keyLaw Tryd.underlying64 _ B M _ rfl Hown.out (by unfold maxLen; omega) _ _ _ rfl rfl hkey _ [] (plainElem_int Tryd.underlying21 (wf_rune r (by have := Hr.out; omega))) ?_)
                    intro w2 hown2 hg2
                    have Hown2 := Lib.hid hown2
                    have Hg2 := Lib.hid hg2
                    clear hown2 hg2
                    go_wp2
                    go_roundw
                    case rel =>
                      refine ⟨j + 1, M + 1, by omega, by omega, by first | rfl | (rw [← hwk]), ?_, (Hg2.out.block X3 (heap_lt4 HX.out) (by intro e; cases e; omega)).trans HX.out, Hbw.out.grown Hg2.out (by have := Hbw.out.size; have := HB.out; omega) (fun i hi => by cases hi; exact Nat.le_refl _)⟩
                      rw [Hst.out, if_neg h0]
                      exact MapIs.put hmd H3.out hkey Hown2.out
                    case measure => simp [RowKit.intOf]; have := Hr.out; omega
                · obtain rfl : j = 48 := by omega
                  have hle : ¬ ((7844 : Int) + ((48 : Nat) : Int)) ≤ 7891 := by omega
                  have Hm4 : Hid (∃ M, M ≤ 406 ∧ MapIs wr B M (blkL 4)) := Lib.hid ⟨M, hM, hmp⟩
                  have hb4 := Lib.hid hbw
                  clear hmp hX hbw hmv3 hx3 hv3
                  obtain ⟨W4, hW4⟩ : ∃ W, W = wr := ⟨_, rfl⟩
                  subst hW4
                  go_wp2_with fail
                  rw [rounds_succ]
                  go_wp2_with fail
                  obtain ⟨X4, hX4⟩ : ∃ X4, W4.heap.size = X4 := ⟨_, rfl⟩
                  have hBX4 : B < X4 := by obtain ⟨M, _, h⟩ := Hm4.out; rw [← hX4]; exact h.lt
                  obtain ⟨V4, hV4⟩ : ∃ V4, W4.alloc (.cells #[.int .i32 12364, .int .i32 12509] 133) = V4 := ⟨_, rfl⟩
                  have hx4 : V4.heap[X4]? = some (.cells #[.int .i32 12364, .int .i32 12509] 133 (0, 0)) := by rw [← hV4, ← hX4]; exact (MapKept.heap_alloc _ _).1
                  have hv4 : Below B w V4 := by rw [← hV4]; exact hb4.out.alloc (by omega) _
                  have hmv4 : ∃ M, M ≤ 406 ∧ MapIs V4 B M (blkL 4) := by
                    obtain ⟨M, h1, h2⟩ := Hm4.out
                    refine ⟨M, h1, ?_⟩
                    rw [← hV4]
                    exact h2.kept (World.grownBy_alloc _ _ none) (by simp)
                  rw [hV4]
                  rw [hX4]
                  clear hV4 hX4 Hm4 hb4
                  go_loopw [4] (fun i wr => ∃ j M : Nat, j ≤ 146 ∧ M ≤ 406 + j ∧ i = .int .i32 ((12364 : Int) + (j : Int)) ∧ MapIs wr B M (runP j 12364 (blkL 4)) ∧ wr.heap[X4]? = some (.cells #[.int .i32 12364, .int .i32 12509] 133 (0, 0)) ∧ Below B w wr) (fun i _ => 147 - ((RowKit.intOf i) - 12364).toNat)
                  case atStart =>
                    obtain ⟨M, h1, h2⟩ := hmv4
                    exact ⟨0, M, Nat.zero_le _, h1, rfl, h2, hx4, hv4⟩
                  case round =>
                    obtain ⟨j, M, hj, hM, rfl, hmp, hX, hbw⟩ := hrel
                    have c1 : wr.cell? ⟨X4, 1, none⟩ = some (.int .i32 12509) := by simp [World.cell?, hX]
                    by_cases hjn : j < 146
                    · have hle : ((12364 : Int) + (j : Int)) ≤ 12509 := by omega
                      have hwk : IntKind.i32.wrap ((12364 : Int) + (j : Int) + 1) = (12364 : Int) + ((j + 1 : Nat) : Int) := by rw [IntWalk.i32_in _ (by omega)]; omega
                      have hstep : runP (j + 1) 12364 (blkL 4) = stepP (runP j 12364 (blkL 4)) ((12364 : Int) + (j : Int)) := rfl
                      obtain ⟨r, hr⟩ : ∃ r, (12364 : Int) + (j : Int) = r := ⟨_, rfl⟩
                      have hpl := parts_le r
                      have hP := Hp.out r wr
                      obtain ⟨L, hL⟩ : ∃ L, runP j 12364 (blkL 4) = L := ⟨_, rfl⟩
                      rw [hr] at hstep hle hwk ⊢
                      rw [hL] at hstep hmp
                      unfold stepP at hstep
                      obtain ⟨p, hp⟩ : ∃ p, partsZ r = p := ⟨_, rfl⟩
                      rw [hp] at hstep hpl hP
                      have HP := Lib.hid hP
                      have Hst := Lib.hid hstep
                      have Hr := Lib.hid hr
                      have Hbw := Lib.hid hbw
                      clear hP hp hL hstep hr hbw
                      go_wp2_with fail
                      refine HP.out.mono ?_
                      rintro _ w1 ⟨rfl, h⟩
                      obtain rfl := h.symm
                      by_cases h0 : p.2 = 0
                      · have hz : (p.2 == 0) = true := by simp [h0]
                        have Hmp := Lib.hid hmp
                        have HX := Lib.hid hX
                        clear hmp hX
                        go_wp2
                        go_roundw
                        case rel =>
                          refine ⟨j + 1, M, by omega, by omega, by first | rfl | (rw [← hwk]), ?_, HX.out, Hbw.out⟩
                          rw [Hst.out, if_pos h0]
                          exact Hmp.out
                        case measure => simp [RowKit.intOf]; have := Hr.out; omega
                      · have hz : (p.2 == 0) = false := by simp [h0]
                        obtain ⟨D, hmd, hown, h3⟩ := hmp
                        have hkey := keyIs p.1 p.2 (wf_rune _ ⟨hpl.1, by omega⟩) (wf_rune _ ⟨hpl.2.2.1, by omega⟩)
                        have Hown := Lib.hid hown
                        have H3 := Lib.hid h3
                        have HX := Lib.hid hX
                        clear h3 hX hown
                        go_wp2_with (at_mapUpdate; refine wpList_mapUpdate_own _ rfl _ _ _ 64 rfl 88 21 keyLaw Tryd.underlying64 _ B M _ rfl Hown.out (by unfold maxLen; omega) _ _ _ rfl rfl hkey _ [] (plainElem_int Tryd.underlying21 (wf_rune r (by have := Hr.out; omega))) ?_)
                        intro w2 hown2 hg2
                        have Hown2 := Lib.hid hown2
                        have Hg2 := Lib.hid hg2
                        clear hown2 hg2
                        go_wp2
                        go_roundw
                        case rel =>
                          refine ⟨j + 1, M + 1, by omega, by omega, by first | rfl | (rw [← hwk]), ?_, (Hg2.out.block X4 (heap_lt4 HX.out) (by intro e; cases e; omega)).trans HX.out, Hbw.out.grown Hg2.out (by have := Hbw.out.size; have := HB.out; omega) (fun i hi => by cases hi; exact Nat.le_refl _)⟩
                          rw [Hst.out, if_neg h0]
                          exact MapIs.put hmd H3.out hkey Hown2.out
                        case measure => simp [RowKit.intOf]; have := Hr.out; omega
                    · obtain rfl : j = 146 := by omega
                      have hle : ¬ ((12364 : Int) + ((146 : Nat) : Int)) ≤ 12509 := by omega
                      have Hm5 : Hid (∃ M, M ≤ 552 ∧ MapIs wr B M (blkL 5)) := Lib.hid ⟨M, hM, hmp⟩
                      have hb5 := Lib.hid hbw
                      clear hmp hX hbw hmv4 hx4 hv4
                      obtain ⟨W5, hW5⟩ : ∃ W, W = wr := ⟨_, rfl⟩
                      subst hW5
                      go_wp2_with fail
                      rw [rounds_succ]
                      go_wp2_with fail
                      go_ret
                      obtain ⟨M, _, h⟩ := Hm5.out
                      exact ⟨M, rfl, h, hb5.out⟩
end Go.Proofs.YtfegbfhkmdmheaaDoor

/- Pair: what two are together. -/
namespace Go.Proofs.YtfegbfhkmdmheaaDoor
open Go.RowKit Go.Lib Go.Maps

def openZ (a : Int) : Bool := decide (44032 ≤ a ∧ a < 44032 + 11172) && ((a - 44032).tmod 28 == 0)
def syllZ (a b : Int) : Int := if 4352 ≤ a ∧ a < 4371 ∧ 4449 ≤ b ∧ b < 4470 then 44032 + ((a - 4352) * 21 + b - 4449) * 28 else if openZ a = true ∧ 4520 ≤ b ∧ b < 4547 then a + b - 4519 else 0
def markZ (b : Int) : Nat := cls marksL (char b)
def pairZ (a b : Int) : Int := if markZ b = 0 then syllZ a b else lookP pairsL a b

theorem openN_any (a : Int) (w : World) : Calls Tryd.prog 91 #[.int .i32 a] w fun e w' => e = .returned (.bool (openZ a)) ∧ w' = w := by
  have H1 := Lib.hid (withinN_any a 44032 11172 w (by decide))
  unfold openZ
  obtain ⟨R, hR⟩ : ∃ R, (decide (44032 ≤ a ∧ a < 44032 + 11172) && ((a - 44032).tmod 28 == 0)) = R := ⟨_, rfl⟩
  rw [hR]
  go_enter Tryd.func91, Tryd.ntmps91
  go_wp2_with fail
  refine H1.out.mono ?_
  rintro _ w1 ⟨rfl, h⟩
  obtain rfl := h.symm
  by_cases c1 : 44032 ≤ a ∧ a < 44032 + 11172
  · have w1 : IntKind.i32.wrap (a - 44032) = a - 44032 := IntWalk.i32_in _ (by omega)
    rw [decide_eq_true c1] at hR ⊢
    rw [Bool.true_and] at hR
    obtain ⟨m, hm⟩ : ∃ m, (a - 44032).tmod 28 = m := ⟨_, rfl⟩
    rw [hm] at hR
    subst hR
    go_wp2_with fail
    go_ret
    exact ⟨rfl, rfl⟩
  · rw [decide_eq_false c1] at hR ⊢
    rw [Bool.false_and] at hR
    subst hR
    go_wp2_with fail
    go_ret
    exact ⟨rfl, rfl⟩

theorem syllableN_any (a b : Int) (w : World) : Calls Tryd.prog 59 #[.int .i32 a, .int .i32 b] w fun e w' => e = .returned (.int .i32 (syllZ a b)) ∧ w' = w := by
  have H1 := Lib.hid (withinN_any a 4352 19 w (by decide))
  have H2 := Lib.hid (withinN_any b 4449 21 w (by decide))
  have H3 := Lib.hid (openN_any a w)
  have H4 := Lib.hid (withinN_any b 4520 27 w (by decide))
  unfold syllZ
  obtain ⟨o, ho⟩ : ∃ o, openZ a = o := ⟨_, rfl⟩
  have hoa : o = true → 44032 ≤ a ∧ a < 55204 := by
    rw [← ho]
    unfold openZ
    intro h
    have := (Bool.and_eq_true_iff.1 h).1
    have := of_decide_eq_true this
    omega
  rw [ho] at H3 ⊢
  clear ho
  obtain ⟨R, hR⟩ : ∃ R, (if 4352 ≤ a ∧ a < 4371 ∧ 4449 ≤ b ∧ b < 4470 then 44032 + ((a - 4352) * 21 + b - 4449) * 28 else if o = true ∧ 4520 ≤ b ∧ b < 4547 then a + b - 4519 else 0) = R := ⟨_, rfl⟩
  rw [hR]
  go_enter Tryd.func59, Tryd.ntmps59
  go_wp2_with fail
  refine H1.out.mono ?_
  rintro _ w1 ⟨rfl, h⟩
  obtain rfl := h.symm
  have hrest : ∀ hno : ¬ (4352 ≤ a ∧ a < 4371 ∧ 4449 ≤ b ∧ b < 4470), (if o = true ∧ 4520 ≤ b ∧ b < 4547 then a + b - 4519 else 0) = R := fun hno => by rw [if_neg hno] at hR; exact hR
  by_cases c1 : 4352 ≤ a ∧ a < 4352 + 19
  · rw [decide_eq_true c1]
    go_wp2_with fail
    refine H2.out.mono ?_
    rintro _ w1 ⟨rfl, h⟩
    obtain rfl := h.symm
    by_cases c2 : 4449 ≤ b ∧ b < 4449 + 21
    · rw [decide_eq_true c2]
      rw [if_pos (by omega)] at hR
      subst hR
      clear hrest
      have w1 : IntKind.i32.wrap (a - 4352) = a - 4352 := IntWalk.i32_in _ (by omega)
      have w2 : IntKind.i32.wrap ((a - 4352) * 21) = (a - 4352) * 21 := IntWalk.i32_in _ (by omega)
      have w3 : IntKind.i32.wrap ((a - 4352) * 21 + b) = (a - 4352) * 21 + b := IntWalk.i32_in _ (by omega)
      have w4 : IntKind.i32.wrap ((a - 4352) * 21 + b - 4449) = (a - 4352) * 21 + b - 4449 := IntWalk.i32_in _ (by omega)
      have w5 : IntKind.i32.wrap (((a - 4352) * 21 + b - 4449) * 28) = ((a - 4352) * 21 + b - 4449) * 28 := IntWalk.i32_in _ (by omega)
      have w6 : IntKind.i32.wrap (44032 + ((a - 4352) * 21 + b - 4449) * 28) = 44032 + ((a - 4352) * 21 + b - 4449) * 28 := IntWalk.i32_in _ (by omega)
      go_wp2_with fail
      go_ret
      exact ⟨rfl, rfl⟩
    · rw [decide_eq_false c2]
      have hR := hrest (by omega)
      clear hrest
      go_wp2_with fail
      refine H3.out.mono ?_
      rintro _ w1 ⟨rfl, h⟩
      obtain rfl := h.symm
      cases o with
      | false =>
        rw [if_neg (by simp)] at hR
        subst hR
        go_wp2_with fail
        go_ret
        exact ⟨rfl, rfl⟩
      | true =>
        have ha := hoa rfl
        go_wp2_with fail
        refine H4.out.mono ?_
        rintro _ w1 ⟨rfl, h⟩
        obtain rfl := h.symm
        by_cases c3 : 4520 ≤ b ∧ b < 4520 + 27
        · rw [decide_eq_true c3]
          rw [if_pos (show True ∧ 4520 ≤ b ∧ b < 4547 from ⟨trivial, by omega, by omega⟩)] at hR
          subst hR
          have w1 : IntKind.i32.wrap (a + b) = a + b := IntWalk.i32_in _ (by omega)
          have w2 : IntKind.i32.wrap (a + b - 4519) = a + b - 4519 := IntWalk.i32_in _ (by omega)
          go_wp2_with fail
          go_ret
          exact ⟨rfl, rfl⟩
        · rw [decide_eq_false c3]
          rw [if_neg (by omega)] at hR
          subst hR
          go_wp2_with fail
          go_ret
          exact ⟨rfl, rfl⟩
  · rw [decide_eq_false c1]
    have hR := hrest (by omega)
    clear hrest
    go_wp2_with fail
    refine H3.out.mono ?_
    rintro _ w1 ⟨rfl, h⟩
    obtain rfl := h.symm
    cases o with
    | false =>
      rw [if_neg (by simp)] at hR
      subst hR
      go_wp2_with fail
      go_ret
      exact ⟨rfl, rfl⟩
    | true =>
      have ha := hoa rfl
      go_wp2_with fail
      refine H4.out.mono ?_
      rintro _ w1 ⟨rfl, h⟩
      obtain rfl := h.symm
      by_cases c3 : 4520 ≤ b ∧ b < 4520 + 27
      · rw [decide_eq_true c3]
        rw [if_pos (show True ∧ 4520 ≤ b ∧ b < 4547 from ⟨trivial, by omega, by omega⟩)] at hR
        subst hR
        have w1 : IntKind.i32.wrap (a + b) = a + b := IntWalk.i32_in _ (by omega)
        have w2 : IntKind.i32.wrap (a + b - 4519) = a + b - 4519 := IntWalk.i32_in _ (by omega)
        go_wp2_with fail
        go_ret
        exact ⟨rfl, rfl⟩
      · rw [decide_eq_false c3]
        rw [if_neg (by omega)] at hR
        subst hR
        go_wp2_with fail
        go_ret
        exact ⟨rfl, rfl⟩

/-- a composer's map: not made yet, or the letters with marks -/
def HasMap (w : World) (C : Nat) : Prop := w.frozen? ⟨C, 3, none⟩ = false ∧ (w.cell? ⟨C, 3, none⟩ = some (.map none) ∨ ∃ B M, w.cell? ⟨C, 3, none⟩ = some (.map (some B)) ∧ B ≠ C ∧ MapIs w B M pairsL)
/-- what asking a composer turns: its map's field, and nothing else -/
def Turned (w w' : World) (C : Nat) : Prop := ∃ w1, Below w.heap.size w w1 ∧ (w' = w1 ∨ ∃ v, w' = w1.setCell ⟨C, 3, none⟩ v)

theorem grownBySet (w : World) (p : Addr) (u : Value) : w.grownBy (w.setCell p u) (some p.block) := ⟨rfl, rfl, rfl, by simp [World.setCell], fun k _ hk => heap_setCell_other w p k u (fun e => hk (by simp [e]))⟩
theorem markZ_lt (b : Int) : markZ b < 256 := cls_lt (m := 256) marksL (char b) (by decide) (by decide +kernel)
theorem HasMap.below {w w' : World} {C b : Nat} (h : HasMap w C) (hb : Below b w w') (hC : C < b) (hbw : b = w.heap.size) : HasMap w' C := by
  obtain ⟨h1, h2⟩ := h
  have e := hb.block C hC
  refine ⟨?_, ?_⟩
  · unfold World.frozen? at h1 ⊢
    rw [e]
    exact h1
  · rcases h2 with h2 | ⟨B, M, h2, h3, h4⟩
    · exact .inl ((hb.cell (p := ⟨C, 3, none⟩) hC).trans h2)
    · exact .inr ⟨B, M, (hb.cell (p := ⟨C, 3, none⟩) hC).trans h2, h3, h4.below hb (by rw [hbw]; exact h4.lt)⟩

set_option maxRecDepth 100000 in
set_option maxHeartbeats 1000000 in
theorem pair_any (a b : Int) (C : Nat) (w : World) (ha : -2147483648 ≤ a ∧ a ≤ 2147483647) (hb : -2147483648 ≤ b ∧ b ≤ 2147483647) (hC : C < w.heap.size) (hm : HasMap w C) :
    Calls Tryd.prog 36 #[.pointer (some ⟨C, 0, none⟩), .int .i32 a, .int .i32 b] w fun e w' => e = .returned (.int .i32 (pairZ a b)) ∧ Turned w w' C ∧ HasMap w' C := by
  have HM := Lib.hid (Mark_any b w)
  have HS := Lib.hid (fun w => syllableN_any a b w)
  have HL := Lib.hid (fun w => lett_any w)
  have hkey := keyIs a b (WalkArith.wf_i32 ha) (WalkArith.wf_i32 hb)
  have hmt := markZ_lt b
  unfold markZ at hmt
  obtain ⟨R, hR⟩ : ∃ R, pairZ a b = R := ⟨_, rfl⟩
  rw [hR]
  unfold pairZ markZ at hR
  obtain ⟨m, hmm⟩ : ∃ m, cls marksL (char b) = m := ⟨_, rfl⟩
  rw [hmm] at HM hR hmt
  clear hmm
  have hnil1 : ∀ W, (binOp .eql 64 (.map none) (.map none)).run Tryd.prog W = .ok (.bool true) W := fun W => by first | rfl | kernel_rfl
  have hnil2 : ∀ B W, (binOp .eql 64 (.map (some B)) (.map none)).run Tryd.prog W = .ok (.bool false) W := fun B W => by first | rfl | kernel_rfl
  go_enter Tryd.func36, Tryd.ntmps36
  go_wp2_with fail
  refine HM.out.mono ?_
  rintro _ w1 ⟨rfl, b1⟩
  have hC1 : C < w1.heap.size := by have := b1.size; omega
  have hm1 : HasMap w1 C := hm.below b1 hC rfl
  have B1 := Lib.hid b1
  clear b1 hm
  by_cases hm0 : m = 0
  · subst hm0
    rw [if_pos rfl] at hR
    have Hm1 := Lib.hid hm1
    clear hm1
    go_wp2_with fail
    refine (HS.out _).mono ?_
    rintro _ w2 ⟨rfl, h⟩
    obtain rfl := h.symm
    subst hR
    go_wp2_with fail
    go_ret
    exact ⟨rfl, ⟨w1, B1.out, .inl rfl⟩, Hm1.out⟩
  · rw [if_neg hm0] at hR
    have hz : ((m : Int) == 0) = false := by rw [beq_eq_false_iff_ne]; omega
    obtain ⟨f1, c1 | ⟨B, M, c1, hBC, hmp⟩⟩ := hm1
    · go_wp2_with fail
      refine (HL.out w1).mono ?_
      rintro _ w2 ⟨M, rfl, hmp, b2⟩
      obtain ⟨B, hB⟩ : ∃ B, w1.heap.size = B := ⟨_, rfl⟩
      rw [hB] at hmp
      have e2 := b2.block C hC1
      have c2 : w2.cell? ⟨C, 3, none⟩ = some (.map none) := (b2.cell (p := ⟨C, 3, none⟩) hC1).trans c1
      have f2 : w2.frozen? ⟨C, 3, none⟩ = false := by unfold World.frozen? at f1 ⊢; rw [e2]; exact f1
      have hBC : B ≠ C := by omega
      obtain ⟨w3, hw3⟩ : ∃ w3, w2.setCell ⟨C, 3, none⟩ (.map (some B)) = w3 := ⟨_, rfl⟩
      have hmp3 : MapIs w3 B M pairsL := by rw [← hw3]; exact hmp.kept (grownBySet _ _ _) (fun e => hBC (by simpa using e))
      have c3 : w3.cell? ⟨C, 3, none⟩ = some (.map (some B)) := by rw [← hw3]; exact World.cell?_setCell_same' _ _ _ (by rw [c2]; rfl)
      have f3 : w3.frozen? ⟨C, 3, none⟩ = false := by rw [← hw3, World.frozen?_setCell]; exact f2
      have HW := Lib.hid hw3
      have B2 := Lib.hid (B1.out.trans (b2.mono B1.out.size))
      obtain ⟨D, hmd, hown, h3⟩ := hmp3
      have Hown := Lib.hid hown
      have Hmp3 := Lib.hid (show MapIs w3 B M pairsL from ⟨D, hmd, hown, h3⟩)
      have H3 := Lib.hid (h3 a b _ hkey)
      clear hmp b2 e2 hown h3 hmd
      rw [hB]
      go_wp2_with (at_lookup; refine wpList_lookup_own_int _ rfl _ _ 64 rfl 88 21 .i32 keyLaw Tryd.underlying64 Tryd.underlying21 (zero32 _) B M _ rfl Hown.out _ _ rfl hkey ?_)
      intro c hat hwc
      have hc : c = lookP pairsL a b := by
        have := H3.out
        rw [hat] at this
        simpa using this
      rw [hc, hR]
      go_wp2
      go_ret
      exact ⟨rfl, ⟨w2, B2.out, .inr ⟨_, HW.out.symm⟩⟩, f3, .inr ⟨B, M, c3, hBC, Hmp3.out⟩⟩
    · obtain ⟨D, hmd, hown, h3⟩ := hmp
      have Hown := Lib.hid hown
      have Hmp := Lib.hid (show MapIs w1 B M pairsL from ⟨D, hmd, hown, h3⟩)
      have H3 := Lib.hid (h3 a b _ hkey)
      clear hown h3 hmd
      go_wp2_with (at_lookup; refine wpList_lookup_own_int _ rfl _ _ 64 rfl 88 21 .i32 keyLaw Tryd.underlying64 Tryd.underlying21 (zero32 _) B M _ rfl Hown.out _ _ rfl hkey ?_)
      intro c hat hwc
      have hc : c = lookP pairsL a b := by
        have := H3.out
        rw [hat] at this
        simpa using this
      rw [hc, hR]
      go_wp2
      go_ret
      exact ⟨rfl, ⟨w1, B1.out, .inl rfl⟩, f1, .inr ⟨B, M, c1, hBC, Hmp.out⟩⟩

set_option maxRecDepth 100000 in
theorem PairN_any (a b : Int) (w : World) (ha : -2147483648 ≤ a ∧ a ≤ 2147483647) (hb : -2147483648 ≤ b ∧ b ≤ 2147483647) :
    Calls Tryd.prog 12 #[.int .i32 a, .int .i32 b] w fun e w' => e = .returned (.int .i32 (pairZ a b)) ∧ Below w.heap.size w w' := by
  obtain ⟨C, hC⟩ : ∃ C, w.heap.size = C := ⟨_, rfl⟩
  obtain ⟨w1, hw1⟩ : ∃ w1, w.alloc (.cells #[.slice none 0 0, .bool false, .int .i64 0, .map none] 66) = w1 := ⟨_, rfl⟩
  have hh : w1.heap[C]? = some (.cells #[.slice none 0 0, .bool false, .int .i64 0, .map none] 66 (0, 0)) := by rw [← hw1, ← hC]; exact (MapKept.heap_alloc _ _).1
  have hb1 : Below C w w1 := by rw [← hw1, ← hC]; exact (Below.refl _ w).alloc (Nat.le_refl _) _
  have hm : HasMap w1 C := ⟨by simp [World.frozen?, hh], .inl (by simp [World.cell?, hh])⟩
  have HP := Lib.hid (pair_any a b C w1 ha hb (heap_lt4 hh) hm)
  have hlt := heap_lt4 hh
  obtain ⟨R, hR⟩ : ∃ R, pairZ a b = R := ⟨_, rfl⟩
  rw [hR] at HP ⊢
  rw [hC]
  have HW := Lib.hid hw1
  have HB := Lib.hid hb1
  clear hw1 hb1 hh hm hR
  go_enter Tryd.func12, Tryd.ntmps12
  go_wp2_with fail
  rw [HW.out]
  refine HP.out.mono ?_
  rintro _ w2 ⟨rfl, ⟨w3, hb3, hw⟩, _⟩
  have hbf : Below C w w2 := by
    rcases hw with rfl | ⟨v, rfl⟩
    · exact HB.out.trans (hb3.mono (by omega))
    · exact (HB.out.trans (hb3.mono (by omega))).setCell (p := ⟨C, 3, none⟩) (Nat.le_refl _) _
  have HF := Lib.hid hbf
  clear hbf hw hb3
  go_wp2_with fail
  go_ret
  exact ⟨rfl, HF.out⟩
end Go.Proofs.YtfegbfhkmdmheaaDoor
