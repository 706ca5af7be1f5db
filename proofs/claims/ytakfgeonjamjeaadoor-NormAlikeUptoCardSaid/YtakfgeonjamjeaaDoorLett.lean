/- The map of letters with marks: made. -/
import Derived.Test.YtakfgeonjamjeaaDoorPairMap
import Derived.LoopN
namespace Go.Proofs.YtakfgeonjamjeaaDoor
open Go.RowKit Go.Lib Go.Maps

def stepP (L : PL) (r : Int) : PL := if (partsZ r).2 = 0 then L else (partsZ r, r) :: L
def runP : Nat → Int → PL → PL
  | 0, _, L => L
  | n + 1, r, L => stepP (runP n r L) (r + n)
def blkL : Nat → PL
  | 0 => []
  | 1 => runP 191 192 []
  | 2 => runP 73 902 (runP 191 192 [])
  | 3 => runP 94 1025 (runP 73 902 (runP 191 192 []))
  | 4 => runP 48 7844 (runP 94 1025 (runP 73 902 (runP 191 192 [])))
  | _ => runP 146 12364 (runP 48 7844 (runP 94 1025 (runP 73 902 (runP 191 192 []))))
/-- all pairs of a letter and a mark -/
def pairsL : PL := blkL 5

theorem lookI_le {l : List (List Int × Int)} {z r N : Int} (h : (l.all fun x => decide (0 ≤ x.2) && decide (x.2 ≤ N)) = true) (hz : 0 ≤ z ∧ z ≤ N) : 0 ≤ lookI l z r ∧ lookI l z r ≤ N := by
  induction l with
  | nil => exact hz
  | cons x t ih =>
    simp only [List.all_cons, Bool.and_eq_true, decide_eq_true_eq] at h
    unfold lookI
    cases hasI x.1 r with
    | true => exact h.1
    | false => exact ih h.2
theorem parts_le (r : Int) : 0 ≤ (partsZ r).1 ∧ (partsZ r).1 ≤ 70000 ∧ 0 ≤ (partsZ r).2 ∧ (partsZ r).2 ≤ 70000 := by
  unfold partsZ
  by_cases h1 : r < 192
  · rw [if_pos h1]; decide
  · rw [if_neg h1]
    by_cases h2 : 44032 ≤ r ∧ r < 55204
    · rw [if_pos h2]
      unfold sylZ
      have hm0 := Int.tmod_nonneg (28 : Int) (show (0 : Int) ≤ r - 44032 by omega)
      have hm := Int.tmod_lt_of_pos (r - 44032) (show (0 : Int) < 28 by decide)
      have hd0 := Int.tdiv_nonneg (show (0 : Int) ≤ r - 44032 by omega) (show (0 : Int) ≤ 28 by decide)
      have hd1 : (r - 44032).tdiv 28 < 399 := by rw [Int.tdiv_eq_ediv_of_nonneg (by omega)]; omega
      have hq0 := Int.tdiv_nonneg hd0 (show (0 : Int) ≤ 21 by decide)
      have hq1 : ((r - 44032).tdiv 28).tdiv 21 < 20 := by rw [Int.tdiv_eq_ediv_of_nonneg hd0]; omega
      have hr0 := Int.tmod_nonneg (21 : Int) hd0
      have hr1 := Int.tmod_lt_of_pos ((r - 44032).tdiv 28) (show (0 : Int) < 21 by decide)
      split <;> (simp only; omega)
    · rw [if_neg h2]
      by_cases h3 : 12352 ≤ r ∧ r < 12544
      · rw [if_pos h3]
        unfold kanaZ
        cases hasI kanaV (kanaL r - 1) with
        | true => simp only [cond_true]; omega
        | false =>
          cases hasI kanaH (kanaL r - 2) with
          | true => simp only [cond_true, cond_false]; omega
          | false => simp only [cond_false]; omega
      · rw [if_neg h3]
        have a := lookI_le (l := greekT) (z := 0) (r := r) (N := 70000) (by decide +kernel) (by decide)
        have b := lookI_le (l := cyrT) (z := 0) (r := r) (N := 70000) (by decide +kernel) (by decide)
        have c := lookI_le (l := greatT) (z := 0) (r := r) (N := 70000) (by decide +kernel) (by decide)
        have d := lookI_le (l := smallT) (z := 0) (r := r) (N := 70000) (by decide +kernel) (by decide)
        have e := lookI_le (l := markT) (z := 0) (r := r) (N := 70000) (by decide +kernel) (by decide)
        refine ⟨?_, ?_, e.1, e.2⟩
        all_goals
          unfold letterZ
          split
          · omega
          · split
            · omega
            · split <;> omega
theorem wf_rune (a : Int) (h : 0 ≤ a ∧ a ≤ 2147483647) : (Lit.int .i32 a).wf = true := by
  exact WalkArith.wf_i32 (by omega)
theorem heap_lt4 {W : World} {D : Nat} {o : Obj} (h : W.heap[D]? = some o) : D < W.heap.size := (Array.getElem?_eq_some_iff.1 h).1
theorem make_hint (w : World) : (Instr.makeMap 50 (some (.int .i64 255))).run Tryd.prog w = .ok (.map (some w.heap.size)) (w.alloc (.map #[] 0)) := by
  first
    | kernel_rfl
    | simp [Instr.makeMap, run_underlying Tryd.underlying50, asInt, asIntOf, Result.andThen]

set_option maxRecDepth 100000 in
set_option maxHeartbeats 4000000 in
theorem lett_any (w : World) : Calls Tryd.prog 61 #[] w fun e w' => ∃ M, e = .returned (.map (some w.heap.size)) ∧ MapIs w' w.heap.size M pairsL ∧ Below w.heap.size w w' := by
  have hmm := make_hint
  have hidx0 : ∀ w, (Instr.index 108 (.agg #[.int .i32 192, .int .i32 382, .int .i32 902, .int .i32 974, .int .i32 1025, .int .i32 1118, .int .i32 7844, .int .i32 7891, .int .i32 12364, .int .i32 12509]) (.int .i64 0)).run Tryd.prog w = .ok (.agg #[.int .i32 192, .int .i32 382]) w := fun w => by kernel_rfl
  have hidx1 : ∀ w, (Instr.index 108 (.agg #[.int .i32 192, .int .i32 382, .int .i32 902, .int .i32 974, .int .i32 1025, .int .i32 1118, .int .i32 7844, .int .i32 7891, .int .i32 12364, .int .i32 12509]) (.int .i64 1)).run Tryd.prog w = .ok (.agg #[.int .i32 902, .int .i32 974]) w := fun w => by kernel_rfl
  have hidx2 : ∀ w, (Instr.index 108 (.agg #[.int .i32 192, .int .i32 382, .int .i32 902, .int .i32 974, .int .i32 1025, .int .i32 1118, .int .i32 7844, .int .i32 7891, .int .i32 12364, .int .i32 12509]) (.int .i64 2)).run Tryd.prog w = .ok (.agg #[.int .i32 1025, .int .i32 1118]) w := fun w => by kernel_rfl
  have hidx3 : ∀ w, (Instr.index 108 (.agg #[.int .i32 192, .int .i32 382, .int .i32 902, .int .i32 974, .int .i32 1025, .int .i32 1118, .int .i32 7844, .int .i32 7891, .int .i32 12364, .int .i32 12509]) (.int .i64 3)).run Tryd.prog w = .ok (.agg #[.int .i32 7844, .int .i32 7891]) w := fun w => by kernel_rfl
  have hidx4 : ∀ w, (Instr.index 108 (.agg #[.int .i32 192, .int .i32 382, .int .i32 902, .int .i32 974, .int .i32 1025, .int .i32 1118, .int .i32 7844, .int .i32 7891, .int .i32 12364, .int .i32 12509]) (.int .i64 4)).run Tryd.prog w = .ok (.agg #[.int .i32 12364, .int .i32 12509]) w := fun w => by kernel_rfl
  have Hp := Lib.hid (fun x w => partsN_any x w (fun a b => kana_any _ a b w))
  obtain ⟨B, hB⟩ : ∃ B, w.heap.size = B := ⟨_, rfl⟩
  have HB := Lib.hid hB
  have hmade : Hid (MapIs (w.alloc (.map #[] 0)) B 0 []) := Lib.hid (by rw [← hB]; exact MapIs.made w)
  have hbel : Hid (Below B w (w.alloc (.map #[] 0))) := Lib.hid (by rw [← hB]; exact (Below.refl _ w).alloc (Nat.le_refl _) _)
  rw [hB]
  clear hB
  go_enter Tryd.func61, Tryd.ntmps61
  go_wp2_with fail
  have hmd := hmade.out
  revert hmade hbel
  rw [HB.out]
  generalize w.alloc (.map #[] 0) = W0
  intro hmade hbel
  clear hmd
  have hm0 : ∃ M, M ≤ 0 ∧ MapIs W0 B M (blkL 0) := ⟨0, Nat.le_refl _, hmade.out⟩
  have Hm0 := Lib.hid hm0
  have hb0 := hbel
  clear hm0 hmade hbel
  refine wp_loop_rounds 6 ?_
  rw [rounds_succ]
  go_wp2_with fail
  obtain ⟨X0, hX0⟩ : ∃ X0, W0.heap.size = X0 := ⟨_, rfl⟩
  have hBX0 : B < X0 := by obtain ⟨M, _, h⟩ := Hm0.out; rw [← hX0]; exact h.lt
  obtain ⟨V0, hV0⟩ : ∃ V0, W0.alloc (.cells #[.int .i32 192, .int .i32 382] 107) = V0 := ⟨_, rfl⟩
  have hx0 : V0.heap[X0]? = some (.cells #[.int .i32 192, .int .i32 382] 107 (0, 0)) := by rw [← hV0, ← hX0]; exact (MapKept.heap_alloc _ _).1
  have hv0 : Below B w V0 := by rw [← hV0]; exact hb0.out.alloc (by omega) _
  have hmv0 : ∃ M, M ≤ 0 ∧ MapIs V0 B M (blkL 0) := by
    obtain ⟨M, h1, h2⟩ := Hm0.out
    refine ⟨M, h1, ?_⟩
    rw [← hV0]
    exact h2.kept (World.grownBy_alloc _ _ none) (by simp)
  rw [hV0]
  rw [hX0]
  clear hV0 hX0 Hm0 hb0
  go_loopw [4] (fun i wr => ∃ j M : Nat, j ≤ 191 ∧ M ≤ 0 + j ∧ i = .int .i32 ((192 : Int) + (j : Int)) ∧ MapIs wr B M (runP j 192 (blkL 0)) ∧ wr.heap[X0]? = some (.cells #[.int .i32 192, .int .i32 382] 107 (0, 0)) ∧ Below B w wr) (fun i _ => 192 - ((RowKit.intOf i) - 192).toNat)
  case atStart =>
    obtain ⟨M, h1, h2⟩ := hmv0
    exact ⟨0, M, Nat.zero_le _, h1, rfl, h2, hx0, hv0⟩
  case round =>
    obtain ⟨j, M, hj, hM, rfl, hmp, hX, hbw⟩ := hrel
    have c1 : wr.cell? ⟨X0, 1, none⟩ = some (.int .i32 382) := by simp [World.cell?, hX]
    by_cases hjn : j < 191
    · have hle : ((192 : Int) + (j : Int)) ≤ 382 := by omega
      have hwk : IntKind.i32.wrap ((192 : Int) + (j : Int) + 1) = (192 : Int) + ((j + 1 : Nat) : Int) := by rw [IntWalk.i32_in _ (by omega)]; omega
      have hstep : runP (j + 1) 192 (blkL 0) = stepP (runP j 192 (blkL 0)) ((192 : Int) + (j : Int)) := rfl
      obtain ⟨r, hr⟩ : ∃ r, (192 : Int) + (j : Int) = r := ⟨_, rfl⟩
      have hpl := parts_le r
      have hP := Hp.out r wr
      obtain ⟨L, hL⟩ : ∃ L, runP j 192 (blkL 0) = L := ⟨_, rfl⟩
      rw [hr] at hstep hle hwk ⊢
      rw [hL] at hstep hmp
      unfold stepP at hstep
      obtain ⟨p, hp⟩ : ∃ p, partsZ r = p := ⟨_, rfl⟩
      rw [hp] at hstep hpl hP
      have HP := Lib.hid hP
      have Hst := Lib.hid hstep
      have Hr := Lib.hid hr
      have Hbw := Lib.hid hbw
      clear hP hp hL hstep hr hbw
      go_wp2_with fail
      refine HP.out.mono ?_
      rintro _ w1 ⟨rfl, h⟩
      obtain rfl := h.symm
      by_cases h0 : p.2 = 0
      · have hz : (p.2 == 0) = true := by simp [h0]
        have Hmp := Lib.hid hmp
        have HX := Lib.hid hX
        clear hmp hX
        go_wp2
        go_roundw
        case rel =>
          refine ⟨j + 1, M, by omega, by omega, by first | rfl | (rw [← hwk]), ?_, HX.out, Hbw.out⟩
          rw [Hst.out, if_pos h0]
          exact Hmp.out
        case measure => simp [RowKit.intOf]; have := Hr.out; omega
      · have hz : (p.2 == 0) = false := by simp [h0]
        obtain ⟨D, hmd, hown, h3⟩ := hmp
        have hkey := keyIs p.1 p.2 (wf_rune _ ⟨hpl.1, by omega⟩) (wf_rune _ ⟨hpl.2.2.1, by omega⟩)
        have Hown := Lib.hid hown
        have H3 := Lib.hid h3
        have HX := Lib.hid hX
        clear h3 hX hown
        go_wp2_with (at_mapUpdate; refine wpList_mapUpdate_own _ rfl _ _ _ 50 rfl 83 21 keyLaw Tryd.underlying50 _ B M _ rfl Hown.out (by unfold maxLen; omega) _ _ _ rfl rfl hkey _ [] (plainElem_int Tryd.underlying21 (wf_rune r (by have := Hr.out; omega))) ?_)
        intro w2 hown2 hg2
        have Hown2 := Lib.hid hown2
        have Hg2 := Lib.hid hg2
        clear hown2 hg2
        go_wp2
        go_roundw
        case rel =>
          refine ⟨j + 1, M + 1, by omega, by omega, by first | rfl | (rw [← hwk]), ?_, (Hg2.out.block X0 (heap_lt4 HX.out) (by intro e; cases e; omega)).trans HX.out, Hbw.out.grown Hg2.out (by have := Hbw.out.size; have := HB.out; omega) (fun i hi => by cases hi; exact Nat.le_refl _)⟩
          rw [Hst.out, if_neg h0]
          exact MapIs.put hmd H3.out hkey Hown2.out
        case measure => simp [RowKit.intOf]; have := Hr.out; omega
    · obtain rfl : j = 191 := by omega
      have hle : ¬ ((192 : Int) + ((191 : Nat) : Int)) ≤ 382 := by omega
      have Hm1 : Hid (∃ M, M ≤ 191 ∧ MapIs wr B M (blkL 1)) := Lib.hid ⟨M, hM, hmp⟩
      have hb1 := Lib.hid hbw
      clear hmp hX hbw hmv0 hx0 hv0
      obtain ⟨W1, hW1⟩ : ∃ W, W = wr := ⟨_, rfl⟩
      subst hW1
      go_wp2_with fail
      rw [rounds_succ]
      go_wp2_with fail
      obtain ⟨X1, hX1⟩ : ∃ X1, W1.heap.size = X1 := ⟨_, rfl⟩
      have hBX1 : B < X1 := by obtain ⟨M, _, h⟩ := Hm1.out; rw [← hX1]; exact h.lt
      obtain ⟨V1, hV1⟩ : ∃ V1, W1.alloc (.cells #[.int .i32 902, .int .i32 974] 107) = V1 := ⟨_, rfl⟩
      have hx1 : V1.heap[X1]? = some (.cells #[.int .i32 902, .int .i32 974] 107 (0, 0)) := by rw [← hV1, ← hX1]; exact (MapKept.heap_alloc _ _).1
      have hv1 : Below B w V1 := by rw [← hV1]; exact hb1.out.alloc (by omega) _
      have hmv1 : ∃ M, M ≤ 191 ∧ MapIs V1 B M (blkL 1) := by
        obtain ⟨M, h1, h2⟩ := Hm1.out
        refine ⟨M, h1, ?_⟩
        rw [← hV1]
        exact h2.kept (World.grownBy_alloc _ _ none) (by simp)
      rw [hV1]
      rw [hX1]
      clear hV1 hX1 Hm1 hb1
      go_loopw [4] (fun i wr => ∃ j M : Nat, j ≤ 73 ∧ M ≤ 191 + j ∧ i = .int .i32 ((902 : Int) + (j : Int)) ∧ MapIs wr B M (runP j 902 (blkL 1)) ∧ wr.heap[X1]? = some (.cells #[.int .i32 902, .int .i32 974] 107 (0, 0)) ∧ Below B w wr) (fun i _ => 74 - ((RowKit.intOf i) - 902).toNat)
      case atStart =>
        obtain ⟨M, h1, h2⟩ := hmv1
        exact ⟨0, M, Nat.zero_le _, h1, rfl, h2, hx1, hv1⟩
      case round =>
        obtain ⟨j, M, hj, hM, rfl, hmp, hX, hbw⟩ := hrel
        have c1 : wr.cell? ⟨X1, 1, none⟩ = some (.int .i32 974) := by simp [World.cell?, hX]
        by_cases hjn : j < 73
        · have hle : ((902 : Int) + (j : Int)) ≤ 974 := by omega
          have hwk : IntKind.i32.wrap ((902 : Int) + (j : Int) + 1) = (902 : Int) + ((j + 1 : Nat) : Int) := by rw [IntWalk.i32_in _ (by omega)]; omega
          have hstep : runP (j + 1) 902 (blkL 1) = stepP (runP j 902 (blkL 1)) ((902 : Int) + (j : Int)) := rfl
          obtain ⟨r, hr⟩ : ∃ r, (902 : Int) + (j : Int) = r := ⟨_, rfl⟩
          have hpl := parts_le r
          have hP := Hp.out r wr
          obtain ⟨L, hL⟩ : ∃ L, runP j 902 (blkL 1) = L := ⟨_, rfl⟩
          rw [hr] at hstep hle hwk ⊢
          rw [hL] at hstep hmp
          unfold stepP at hstep
          obtain ⟨p, hp⟩ : ∃ p, partsZ r = p := ⟨_, rfl⟩
          rw [hp] at hstep hpl hP
          have HP := Lib.hid hP
          have Hst := Lib.hid hstep
          have Hr := Lib.hid hr
          have Hbw := Lib.hid hbw
          clear hP hp hL hstep hr hbw
          go_wp2_with fail
          refine HP.out.mono ?_
          rintro _ w1 ⟨rfl, h⟩
          obtain rfl := h.symm
          by_cases h0 : p.2 = 0
          · have hz : (p.2 == 0) = true := by simp [h0]
            have Hmp := Lib.hid hmp
            have HX := Lib.hid hX
            clear hmp hX
            go_wp2
            go_roundw
            case rel =>
              refine ⟨j + 1, M, by omega, by omega, by first | rfl | (rw [← hwk]), ?_, HX.out, Hbw.out⟩
              rw [Hst.out, if_pos h0]
              exact Hmp.out
            case measure => simp [RowKit.intOf]; have := Hr.out; omega
          · have hz : (p.2 == 0) = false := by simp [h0]
            obtain ⟨D, hmd, hown, h3⟩ := hmp
            have hkey := keyIs p.1 p.2 (wf_rune _ ⟨hpl.1, by omega⟩) (wf_rune _ ⟨hpl.2.2.1, by omega⟩)
            have Hown := Lib.hid hown
            have H3 := Lib.hid h3
            have HX := Lib.hid hX
            clear h3 hX hown
            go_wp2_with (at_mapUpdate; refine wpList_mapUpdate_own _ rfl _ _ _ 50 rfl 83 21 keyLaw Tryd.underlying50 _ B M _ rfl Hown.out (by unfold maxLen; omega) _ _ _ rfl rfl hkey _ [] (plainElem_int Tryd.underlying21 (wf_rune r (by have := Hr.out; omega))) ?_)
            intro w2 hown2 hg2
            have Hown2 := Lib.hid hown2
            have Hg2 := Lib.hid hg2
            clear hown2 hg2
            go_wp2
            go_roundw
            case rel =>
              refine ⟨j + 1, M + 1, by omega, by omega, by first | rfl | (rw [← hwk]), ?_, (Hg2.out.block X1 (heap_lt4 HX.out) (by intro e; cases e; omega)).trans HX.out, Hbw.out.grown Hg2.out (by have := Hbw.out.size; have := HB.out; omega) (fun i hi => by cases hi; exact Nat.le_refl _)⟩
              rw [Hst.out, if_neg h0]
              exact MapIs.put hmd H3.out hkey Hown2.out
            case measure => simp [RowKit.intOf]; have := Hr.out; omega
        · obtain rfl : j = 73 := by omega
          have hle : ¬ ((902 : Int) + ((73 : Nat) : Int)) ≤ 974 := by omega
          have Hm2 : Hid (∃ M, M ≤ 264 ∧ MapIs wr B M (blkL 2)) := Lib.hid ⟨M, hM, hmp⟩
          have hb2 := Lib.hid hbw
          clear hmp hX hbw hmv1 hx1 hv1
          obtain ⟨W2, hW2⟩ : ∃ W, W = wr := ⟨_, rfl⟩
          subst hW2
          go_wp2_with fail
          rw [rounds_succ]
          go_wp2_with fail
          obtain ⟨X2, hX2⟩ : ∃ X2, W2.heap.size = X2 := ⟨_, rfl⟩
          have hBX2 : B < X2 := by obtain ⟨M, _, h⟩ := Hm2.out; rw [← hX2]; exact h.lt
          obtain ⟨V2, hV2⟩ : ∃ V2, W2.alloc (.cells #[.int .i32 1025, .int .i32 1118] 107) = V2 := ⟨_, rfl⟩
          have hx2 : V2.heap[X2]? = some (.cells #[.int .i32 1025, .int .i32 1118] 107 (0, 0)) := by rw [← hV2, ← hX2]; exact (MapKept.heap_alloc _ _).1
          have hv2 : Below B w V2 := by rw [← hV2]; exact hb2.out.alloc (by omega) _
          have hmv2 : ∃ M, M ≤ 264 ∧ MapIs V2 B M (blkL 2) := by
            obtain ⟨M, h1, h2⟩ := Hm2.out
            refine ⟨M, h1, ?_⟩
            rw [← hV2]
            exact h2.kept (World.grownBy_alloc _ _ none) (by simp)
          rw [hV2]
          rw [hX2]
          clear hV2 hX2 Hm2 hb2
          go_loopw [4] (fun i wr => ∃ j M : Nat, j ≤ 94 ∧ M ≤ 264 + j ∧ i = .int .i32 ((1025 : Int) + (j : Int)) ∧ MapIs wr B M (runP j 1025 (blkL 2)) ∧ wr.heap[X2]? = some (.cells #[.int .i32 1025, .int .i32 1118] 107 (0, 0)) ∧ Below B w wr) (fun i _ => 95 - ((RowKit.intOf i) - 1025).toNat)
          case atStart =>
            obtain ⟨M, h1, h2⟩ := hmv2
            exact ⟨0, M, Nat.zero_le _, h1, rfl, h2, hx2, hv2⟩
          case round =>
            obtain ⟨j, M, hj, hM, rfl, hmp, hX, hbw⟩ := hrel
            have c1 : wr.cell? ⟨X2, 1, none⟩ = some (.int .i32 1118) := by simp [World.cell?, hX]
            by_cases hjn : j < 94
            · have hle : ((1025 : Int) + (j : Int)) ≤ 1118 := by omega
              have hwk : IntKind.i32.wrap ((1025 : Int) + (j : Int) + 1) = (1025 : Int) + ((j + 1 : Nat) : Int) := by rw [IntWalk.i32_in _ (by omega)]; omega
              have hstep : runP (j + 1) 1025 (blkL 2) = stepP (runP j 1025 (blkL 2)) ((1025 : Int) + (j : Int)) := rfl
              obtain ⟨r, hr⟩ : ∃ r, (1025 : Int) + (j : Int) = r := ⟨_, rfl⟩
              have hpl := parts_le r
              have hP := Hp.out r wr
              obtain ⟨L, hL⟩ : ∃ L, runP j 1025 (blkL 2) = L := ⟨_, rfl⟩
              rw [hr] at hstep hle hwk ⊢
              rw [hL] at hstep hmp
              unfold stepP at hstep
              obtain ⟨p, hp⟩ : ∃ p, partsZ r = p := ⟨_, rfl⟩
              rw [hp] at hstep hpl hP
              have HP := Lib.hid hP
              have Hst := Lib.hid hstep
              have Hr := Lib.hid hr
              have Hbw := Lib.hid hbw
              clear hP hp hL hstep hr hbw
              go_wp2_with fail
              refine HP.out.mono ?_
              rintro _ w1 ⟨rfl, h⟩
              obtain rfl := h.symm
              by_cases h0 : p.2 = 0
              · have hz : (p.2 == 0) = true := by simp [h0]
                have Hmp := Lib.hid hmp
                have HX := Lib.hid hX
                clear hmp hX
                go_wp2
                go_roundw
                case rel =>
                  refine ⟨j + 1, M, by omega, by omega, by first | rfl | (rw [← hwk]), ?_, HX.out, Hbw.out⟩
                  rw [Hst.out, if_pos h0]
                  exact Hmp.out
                case measure => simp [RowKit.intOf]; have := Hr.out; omega
              · have hz : (p.2 == 0) = false := by simp [h0]
                obtain ⟨D, hmd, hown, h3⟩ := hmp
                have hkey := keyIs p.1 p.2 (wf_rune _ ⟨hpl.1, by omega⟩) (wf_rune _ ⟨hpl.2.2.1, by omega⟩)
                have Hown := Lib.hid hown
                have H3 := Lib.hid h3
                have HX := Lib.hid hX
                clear h3 hX hown
                go_wp2_with (at_mapUpdate; refine wpList_mapUpdate_own _ rfl _ _ _ 50 rfl 83 21 keyLaw Tryd.underlying50 _ B M _ rfl Hown.out (by unfold maxLen; omega) _ _ _ rfl rfl hkey _ [] (plainElem_int Tryd.underlying21 (wf_rune r (by have := Hr.out; omega))) ?_)
                intro w2 hown2 hg2
                have Hown2 := Lib.hid hown2
                have Hg2 := Lib.hid hg2
                clear hown2 hg2
                go_wp2
                go_roundw
                case rel =>
                  refine ⟨j + 1, M + 1, by omega, by omega, by first | rfl | (rw [← hwk]), ?_, (Hg2.out.block X2 (heap_lt4 HX.out) (by intro e; cases e; omega)).trans HX.out, Hbw.out.grown Hg2.out (by have := Hbw.out.size; have := HB.out; omega) (fun i hi => by cases hi; exact Nat.le_refl _)⟩
                  rw [Hst.out, if_neg h0]
                  exact MapIs.put hmd H3.out hkey Hown2.out
                case measure => simp [RowKit.intOf]; have := Hr.out; omega
            · obtain rfl : j = 94 := by omega
              have hle : ¬ ((1025 : Int) + ((94 : Nat) : Int)) ≤ 1118 := by omega
              have Hm3 : Hid (∃ M, M ≤ 358 ∧ MapIs wr B M (blkL 3)) := Lib.hid ⟨M, hM, hmp⟩
              have hb3 := Lib.hid hbw
              clear hmp hX hbw hmv2 hx2 hv2
              obtain ⟨W3, hW3⟩ : ∃ W, W = wr := ⟨_, rfl⟩
              subst hW3
              go_wp2_with fail
              rw [rounds_succ]
              go_wp2_with fail
              obtain ⟨X3, hX3⟩ : ∃ X3, W3.heap.size = X3 := ⟨_, rfl⟩
              have hBX3 : B < X3 := by obtain ⟨M, _, h⟩ := Hm3.out; rw [← hX3]; exact h.lt
              obtain ⟨V3, hV3⟩ : ∃ V3, W3.alloc (.cells #[.int .i32 7844, .int .i32 7891] 107) = V3 := ⟨_, rfl⟩
              have hx3 : V3.heap[X3]? = some (.cells #[.int .i32 7844, .int .i32 7891] 107 (0, 0)) := by rw [← hV3, ← hX3]; exact (MapKept.heap_alloc _ _).1
              have hv3 : Below B w V3 := by rw [← hV3]; exact hb3.out.alloc (by omega) _
              have hmv3 : ∃ M, M ≤ 358 ∧ MapIs V3 B M (blkL 3) := by
                obtain ⟨M, h1, h2⟩ := Hm3.out
                refine ⟨M, h1, ?_⟩
                rw [← hV3]
                exact h2.kept (World.grownBy_alloc _ _ none) (by simp)
              rw [hV3]
              rw [hX3]
              clear hV3 hX3 Hm3 hb3
              go_loopw [4] (fun i wr => ∃ j M : Nat, j ≤ 48 ∧ M ≤ 358 + j ∧ i = .int .i32 ((7844 : Int) + (j : Int)) ∧ MapIs wr B M (runP j 7844 (blkL 3)) ∧ wr.heap[X3]? = some (.cells #[.int .i32 7844, .int .i32 7891] 107 (0, 0)) ∧ Below B w wr) (fun i _ => 49 - ((RowKit.intOf i) - 7844).toNat)
              case atStart =>
                obtain ⟨M, h1, h2⟩ := hmv3
                exact ⟨0, M, Nat.zero_le _, h1, rfl, h2, hx3, hv3⟩
              case round =>
                obtain ⟨j, M, hj, hM, rfl, hmp, hX, hbw⟩ := hrel
                have c1 : wr.cell? ⟨X3, 1, none⟩ = some (.int .i32 7891) := by simp [World.cell?, hX]
                by_cases hjn : j < 48
                · have hle : ((7844 : Int) + (j : Int)) ≤ 7891 := by omega
                  have hwk : IntKind.i32.wrap ((7844 : Int) + (j : Int) + 1) = (7844 : Int) + ((j + 1 : Nat) : Int) := by rw [IntWalk.i32_in _ (by omega)]; omega
                  have hstep : runP (j + 1) 7844 (blkL 3) = stepP (runP j 7844 (blkL 3)) ((7844 : Int) + (j : Int)) := rfl
                  obtain ⟨r, hr⟩ : ∃ r, (7844 : Int) + (j : Int) = r := ⟨_, rfl⟩
                  have hpl := parts_le r
                  have hP := Hp.out r wr
                  obtain ⟨L, hL⟩ : ∃ L, runP j 7844 (blkL 3) = L := ⟨_, rfl⟩
                  rw [hr] at hstep hle hwk ⊢
                  rw [hL] at hstep hmp
                  unfold stepP at hstep
                  obtain ⟨p, hp⟩ : ∃ p, partsZ r = p := ⟨_, rfl⟩
                  rw [hp] at hstep hpl hP
                  have HP := Lib.hid hP
                  have Hst := Lib.hid hstep
                  have Hr := Lib.hid hr
                  have Hbw := Lib.hid hbw
                  clear hP hp hL hstep hr hbw
                  go_wp2_with fail
                  refine HP.out.mono ?_
                  rintro _ w1 ⟨rfl, h⟩
                  obtain rfl := h.symm
                  by_cases h0 : p.2 = 0
                  · have hz : (p.2 == 0) = true := by simp [h0]
                    have Hmp := Lib.hid hmp
                    have HX := Lib.hid hX
                    clear hmp hX
                    go_wp2
                    go_roundw
                    case rel =>
                      refine ⟨j + 1, M, by omega, by omega, by first | rfl | (rw [← hwk]), ?_, HX.out, Hbw.out⟩
                      rw [Hst.out, if_pos h0]
                      exact Hmp.out
                    case measure => simp [RowKit.intOf]; have := Hr.out; omega
                  · have hz : (p.2 == 0) = false := by simp [h0]
                    obtain ⟨D, hmd, hown, h3⟩ := hmp
                    have hkey := keyIs p.1 p.2 (wf_rune _ ⟨hpl.1, by omega⟩) (wf_rune _ ⟨hpl.2.2.1, by omega⟩)
                    have Hown := Lib.hid hown
                    have H3 := Lib.hid h3
                    have HX := Lib.hid hX
                    clear h3 hX hown
                    go_wp2_with (at_mapUpdate; refine wpList_mapUpdate_own _ rfl _ _ _ 50 rfl 83 21 keyLaw Tryd.underlying50 _ B M _ rfl Hown.out (by unfold maxLen; omega) _ _ _ rfl rfl hkey _ [] (plainElem_int Tryd.underlying21 (wf_rune r (by have := Hr.out; omega))) ?_)
                    intro w2 hown2 hg2
                    have Hown2 := Lib.hid hown2
                    have Hg2 := Lib.hid hg2
                    clear hown2 hg2
                    go_wp2
                    go_roundw
                    case rel =>
                      refine ⟨j + 1, M + 1, by omega, by omega, by first | rfl | (rw [← hwk]), ?_, (Hg2.out.block X3 (heap_lt4 HX.out) (by intro e; cases e; omega)).trans HX.out, Hbw.out.grown Hg2.out (by have := Hbw.out.size; have := HB.out; omega) (fun i hi => by cases hi; exact Nat.le_refl _)⟩
                      rw [Hst.out, if_neg h0]
                      exact MapIs.put hmd H3.out hkey Hown2.out
                    case measure => simp [RowKit.intOf]; have := Hr.out; omega
                · obtain rfl : j = 48 := by omega
                  have hle : ¬ ((7844 : Int) + ((48 : Nat) : Int)) ≤ 7891 := by omega
                  have Hm4 : Hid (∃ M, M ≤ 406 ∧ MapIs wr B M (blkL 4)) := Lib.hid ⟨M, hM, hmp⟩
                  have hb4 := Lib.hid hbw
                  clear hmp hX hbw hmv3 hx3 hv3
                  obtain ⟨W4, hW4⟩ : ∃ W, W = wr := ⟨_, rfl⟩
                  subst hW4
                  go_wp2_with fail
                  rw [rounds_succ]
                  go_wp2_with fail
                  obtain ⟨X4, hX4⟩ : ∃ X4, W4.heap.size = X4 := ⟨_, rfl⟩
                  have hBX4 : B < X4 := by obtain ⟨M, _, h⟩ := Hm4.out; rw [← hX4]; exact h.lt
                  obtain ⟨V4, hV4⟩ : ∃ V4, W4.alloc (.cells #[.int .i32 12364, .int .i32 12509] 107) = V4 := ⟨_, rfl⟩
                  have hx4 : V4.heap[X4]? = some (.cells #[.int .i32 12364, .int .i32 12509] 107 (0, 0)) := by rw [← hV4, ← hX4]; exact (MapKept.heap_alloc _ _).1
                  have hv4 : Below B w V4 := by rw [← hV4]; exact hb4.out.alloc (by omega) _
                  have hmv4 : ∃ M, M ≤ 406 ∧ MapIs V4 B M (blkL 4) := by
                    obtain ⟨M, h1, h2⟩ := Hm4.out
                    refine ⟨M, h1, ?_⟩
                    rw [← hV4]
                    exact h2.kept (World.grownBy_alloc _ _ none) (by simp)
                  rw [hV4]
                  rw [hX4]
                  clear hV4 hX4 Hm4 hb4
                  go_loopw [4] (fun i wr => ∃ j M : Nat, j ≤ 146 ∧ M ≤ 406 + j ∧ i = .int .i32 ((12364 : Int) + (j : Int)) ∧ MapIs wr B M (runP j 12364 (blkL 4)) ∧ wr.heap[X4]? = some (.cells #[.int .i32 12364, .int .i32 12509] 107 (0, 0)) ∧ Below B w wr) (fun i _ => 147 - ((RowKit.intOf i) - 12364).toNat)
                  case atStart =>
                    obtain ⟨M, h1, h2⟩ := hmv4
                    exact ⟨0, M, Nat.zero_le _, h1, rfl, h2, hx4, hv4⟩
                  case round =>
                    obtain ⟨j, M, hj, hM, rfl, hmp, hX, hbw⟩ := hrel
                    have c1 : wr.cell? ⟨X4, 1, none⟩ = some (.int .i32 12509) := by simp [World.cell?, hX]
                    by_cases hjn : j < 146
                    · have hle : ((12364 : Int) + (j : Int)) ≤ 12509 := by omega
                      have hwk : IntKind.i32.wrap ((12364 : Int) + (j : Int) + 1) = (12364 : Int) + ((j + 1 : Nat) : Int) := by rw [IntWalk.i32_in _ (by omega)]; omega
                      have hstep : runP (j + 1) 12364 (blkL 4) = stepP (runP j 12364 (blkL 4)) ((12364 : Int) + (j : Int)) := rfl
                      obtain ⟨r, hr⟩ : ∃ r, (12364 : Int) + (j : Int) = r := ⟨_, rfl⟩
                      have hpl := parts_le r
                      have hP := Hp.out r wr
                      obtain ⟨L, hL⟩ : ∃ L, runP j 12364 (blkL 4) = L := ⟨_, rfl⟩
                      rw [hr] at hstep hle hwk ⊢
                      rw [hL] at hstep hmp
                      unfold stepP at hstep
                      obtain ⟨p, hp⟩ : ∃ p, partsZ r = p := ⟨_, rfl⟩
                      rw [hp] at hstep hpl hP
                      have HP := Lib.hid hP
                      have Hst := Lib.hid hstep
                      have Hr := Lib.hid hr
                      have Hbw := Lib.hid hbw
                      clear hP hp hL hstep hr hbw
                      go_wp2_with fail
                      refine HP.out.mono ?_
                      rintro _ w1 ⟨rfl, h⟩
                      obtain rfl := h.symm
                      by_cases h0 : p.2 = 0
                      · have hz : (p.2 == 0) = true := by simp [h0]
                        have Hmp := Lib.hid hmp
                        have HX := Lib.hid hX
                        clear hmp hX
                        go_wp2
                        go_roundw
                        case rel =>
                          refine ⟨j + 1, M, by omega, by omega, by first | rfl | (rw [← hwk]), ?_, HX.out, Hbw.out⟩
                          rw [Hst.out, if_pos h0]
                          exact Hmp.out
                        case measure => simp [RowKit.intOf]; have := Hr.out; omega
                      · have hz : (p.2 == 0) = false := by simp [h0]
                        obtain ⟨D, hmd, hown, h3⟩ := hmp
                        have hkey := keyIs p.1 p.2 (wf_rune _ ⟨hpl.1, by omega⟩) (wf_rune _ ⟨hpl.2.2.1, by omega⟩)
                        have Hown := Lib.hid hown
                        have H3 := Lib.hid h3
                        have HX := Lib.hid hX
                        clear h3 hX hown
                        go_wp2_with (at_mapUpdate; refine wpList_mapUpdate_own _ rfl _ _ _ 50 rfl 83 21 keyLaw Tryd.underlying50 _ B M _ rfl Hown.out (by unfold maxLen; omega) _ _ _ rfl rfl hkey _ [] (plainElem_int Tryd.underlying21 (wf_rune r (by have := Hr.out; omega))) ?_)
                        intro w2 hown2 hg2
                        have Hown2 := Lib.hid hown2
                        have Hg2 := Lib.hid hg2
                        clear hown2 hg2
                        go_wp2
                        go_roundw
                        case rel =>
                          refine ⟨j + 1, M + 1, by omega, by omega, by first | rfl | (rw [← hwk]), ?_, (Hg2.out.block X4 (heap_lt4 HX.out) (by intro e; cases e; omega)).trans HX.out, Hbw.out.grown Hg2.out (by have := Hbw.out.size; have := HB.out; omega) (fun i hi => by cases hi; exact Nat.le_refl _)⟩
                          rw [Hst.out, if_neg h0]
                          exact MapIs.put hmd H3.out hkey Hown2.out
                        case measure => simp [RowKit.intOf]; have := Hr.out; omega
                    · obtain rfl : j = 146 := by omega
                      have hle : ¬ ((12364 : Int) + ((146 : Nat) : Int)) ≤ 12509 := by omega
                      have Hm5 : Hid (∃ M, M ≤ 552 ∧ MapIs wr B M (blkL 5)) := Lib.hid ⟨M, hM, hmp⟩
                      have hb5 := Lib.hid hbw
                      clear hmp hX hbw hmv4 hx4 hv4
                      obtain ⟨W5, hW5⟩ : ∃ W, W = wr := ⟨_, rfl⟩
                      subst hW5
                      go_wp2_with fail
                      rw [rounds_succ]
                      go_wp2_with fail
                      go_ret
                      obtain ⟨M, _, h⟩ := Hm5.out
                      exact ⟨M, rfl, h, hb5.out⟩
end Go.Proofs.YtakfgeonjamjeaaDoor
