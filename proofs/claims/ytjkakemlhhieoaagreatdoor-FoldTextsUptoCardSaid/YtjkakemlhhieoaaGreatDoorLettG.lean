/- The map of letters with marks: made. -/
import Derived.Test.YtjkakemlhhieoaaGreatDoorSplG
import Derived.LoopN
import Derived.Test.YtjkakemlhhieoaaGreatDoorClassG
set_option linter.unusedSimpArgs false
set_option linter.unusedVariables false
namespace Go.Proofs.YtjkakemlhhieoaaGreatDoor
open Go.RowKit Go.Lib Go.Maps

def stepP (L : PL) (r : Int) : PL := if (partsZ r).2 = 0 then L else (partsZ r, r) :: L
def runP : Nat → Int → PL → PL
  | 0, _, L => L
  | n + 1, r, L => stepP (runP n r L) (r + n)
def blkL : Nat → PL
  | 0 => []
  | 1 => runP 191 192 []
  | 2 => runP 73 902 (runP 191 192 [])
  | 3 => runP 94 1025 (runP 73 902 (runP 191 192 []))
  | 4 => runP 48 7844 (runP 94 1025 (runP 73 902 (runP 191 192 [])))
  | _ => runP 146 12364 (runP 48 7844 (runP 94 1025 (runP 73 902 (runP 191 192 []))))
/-- all pairs of a letter and a mark -/
def pairsL : PL := blkL 5

theorem lookI_le {l : List (List Int × Int)} {z r N : Int} (h : (l.all fun x => decide (0 ≤ x.2) && decide (x.2 ≤ N)) = true) (hz : 0 ≤ z ∧ z ≤ N) : 0 ≤ lookI l z r ∧ lookI l z r ≤ N := by
  induction l with
  | nil => exact hz
  | cons x t ih =>
    simp only [List.all_cons, Bool.and_eq_true, decide_eq_true_eq] at h
    unfold lookI
    cases hasI x.1 r with
    | true => exact h.1
    | false => exact ih h.2
theorem parts_le (r : Int) : 0 ≤ (partsZ r).1 ∧ (partsZ r).1 ≤ 70000 ∧ 0 ≤ (partsZ r).2 ∧ (partsZ r).2 ≤ 70000 := by
  unfold partsZ
  by_cases h1 : r < 192
  · rw [if_pos h1]; decide
  · rw [if_neg h1]
    by_cases h2 : 44032 ≤ r ∧ r < 55204
    · rw [if_pos h2]
      unfold sylZ
      have hm0 := Int.tmod_nonneg (28 : Int) (show (0 : Int) ≤ r - 44032 by omega)
      have hm := Int.tmod_lt_of_pos (r - 44032) (show (0 : Int) < 28 by decide)
      have hd0 := Int.tdiv_nonneg (show (0 : Int) ≤ r - 44032 by omega) (show (0 : Int) ≤ 28 by decide)
      have hd1 : (r - 44032).tdiv 28 < 399 := by rw [Int.tdiv_eq_ediv_of_nonneg (by omega)]; omega
      have hq0 := Int.tdiv_nonneg hd0 (show (0 : Int) ≤ 21 by decide)
      have hq1 : ((r - 44032).tdiv 28).tdiv 21 < 20 := by rw [Int.tdiv_eq_ediv_of_nonneg hd0]; omega
      have hr0 := Int.tmod_nonneg (21 : Int) hd0
      have hr1 := Int.tmod_lt_of_pos ((r - 44032).tdiv 28) (show (0 : Int) < 21 by decide)
      split <;> (simp only; omega)
    · rw [if_neg h2]
      by_cases h3 : 12352 ≤ r ∧ r < 12544
      · rw [if_pos h3]
        unfold kanaZ
        cases hasI kanaV (kanaL r - 1) with
        | true => simp only [cond_true]; omega
        | false =>
          cases hasI kanaH (kanaL r - 2) with
          | true => simp only [cond_true, cond_false]; omega
          | false => simp only [cond_false]; omega
      · rw [if_neg h3]
        have a := lookI_le (l := greekT) (z := 0) (r := r) (N := 70000) (by decide +kernel) (by decide)
        have b := lookI_le (l := cyrT) (z := 0) (r := r) (N := 70000) (by decide +kernel) (by decide)
        have c := lookI_le (l := greatT) (z := 0) (r := r) (N := 70000) (by decide +kernel) (by decide)
        have d := lookI_le (l := smallT) (z := 0) (r := r) (N := 70000) (by decide +kernel) (by decide)
        have e := lookI_le (l := markT) (z := 0) (r := r) (N := 70000) (by decide +kernel) (by decide)
        refine ⟨?_, ?_, e.1, e.2⟩
        all_goals
          unfold letterZ
          split
          · omega
          · split
            · omega
            · split <;> omega
theorem wf_rune (a : Int) (h : 0 ≤ a ∧ a ≤ 2147483647) : (Lit.int .i32 a).wf = true := by
  exact WalkArith.wf_i32 (by omega)
theorem heap_lt4 {W : World} {D : Nat} {o : Obj} (h : W.heap[D]? = some o) : D < W.heap.size := (Array.getElem?_eq_some_iff.1 h).1
end Go.Proofs.YtjkakemlhhieoaaGreatDoor

/- Pair: what two are together. -/
namespace Go.Proofs.YtjkakemlhhieoaaGreatDoor
open Go.RowKit Go.Lib Go.Maps

def openZ (a : Int) : Bool := decide (44032 ≤ a ∧ a < 44032 + 11172) && ((a - 44032).tmod 28 == 0)
def syllZ (a b : Int) : Int := if 4352 ≤ a ∧ a < 4371 ∧ 4449 ≤ b ∧ b < 4470 then 44032 + ((a - 4352) * 21 + b - 4449) * 28 else if openZ a = true ∧ 4520 ≤ b ∧ b < 4547 then a + b - 4519 else 0
def markZ (b : Int) : Nat := cls marksL (char b)
def pairZ (a b : Int) : Int := if markZ b = 0 then syllZ a b else lookP pairsL a b

/-- what asking a composer turns: its map's field, and nothing else -/
def Turned (w w' : World) (C : Nat) : Prop := ∃ w1, Below w.heap.size w w1 ∧ (w' = w1 ∨ ∃ v, w' = w1.setCell ⟨C, 3, none⟩ v)

theorem grownBySet (w : World) (p : Addr) (u : Value) : w.grownBy (w.setCell p u) (some p.block) := ⟨rfl, rfl, rfl, by simp [World.setCell], fun k _ hk => heap_setCell_other w p k u (fun e => hk (by simp [e]))⟩
theorem markZ_lt (b : Int) : markZ b < 256 := cls_lt (m := 256) marksL (char b) (by decide) (by decide +kernel)
end Go.Proofs.YtjkakemlhhieoaaGreatDoor
