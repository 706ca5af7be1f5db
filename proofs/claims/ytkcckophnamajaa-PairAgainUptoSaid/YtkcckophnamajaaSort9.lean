/- Layer 9, the program: pairs put in order by their first ones. -/
import Derived.Test.YtkcckophnamajaaPut9
import Derived.Test.YtkcckophnamajaaPureG
import Derived.Test.YtkcckophnamajaaShelf
import Derived.Test.YtkcckophnamajaaShelfS
set_option linter.unusedSimpArgs false
set_option linter.unusedVariables false
namespace Go.Proofs.Ytkcckophnamajaa
open Go.Shelf Go.RowKit Go.Lib Go.Sort

def encP (x : Nat × Nat) : List Value := [.int .i64 (x.1 : Int), .int .i64 (x.2 : Int)]
def cmpP (x y : Nat × Nat) : Int := Lib.compareInt (x.1 : Int) (y.1 : Int)
theorem ltP (x y : Nat × Nat) : ltOf cmpP x y = decide (x.1 < y.1) := by
  unfold ltOf cmpP Lib.compareInt
  by_cases h1 : x.1 < y.1
  · simp [h1]
  · by_cases h2 : y.1 < x.1 <;> simp [h1, h2]
theorem swoP : SWO (ltOf cmpP) where
  irrefl x := by rw [ltP]; simp
  trans x y z h1 h2 := by rw [ltP] at *; simp at *; omega
  ntrans x y z h1 h2 := by rw [ltP] at *; simp at *; omega
set_option maxHeartbeats 1000000 in
theorem closure9 (x y : Nat × Nat) (W : World) : Calls Try.prog 21 #[.agg #[.int .i64 (x.1 : Int), .int .i64 (x.2 : Int)], .agg #[.int .i64 (y.1 : Int), .int .i64 (y.2 : Int)]] W fun e w' => e = .returned (.int .i64 (cmpP x y)) ∧ ∃ q os', w' = grow (W.drewN q) os' := by
  have hcon := fun W' => Try.cmp_Compare_int (x.1 : Int) (y.1 : Int) W'
  unfold cmpP
  generalize Lib.compareInt (x.1 : Int) (y.1 : Int) = r at hcon ⊢
  go_enter Try.func21, Try.ntmps21
  go_wp2_with (go_at_call 22; refine (hcon _).mono ?_; rintro e w' ⟨rfl, rfl⟩)
  go_ret
  exact ⟨rfl, 0, _, by rw [alloc_eq_grow, alloc_eq_grow, grow_grow]; rfl⟩
theorem cmpLays9 (blk off size : Nat) (w : World) : CmpLays Try.prog 21 #[] encP 2 cmpP blk off size w :=
  fun _ _ _ _ x y => closure9 x y _
theorem sortW_block (w : World) (g n : Nat) (d : Array (Nat × Nat)) (os : Array Obj) {cur : Array Value} {e : TypeId} (hg : w.heap[g]? = some (.cells cur e (0, 0))) :
    (sortWorldK encP 2 w g 0 n d os).heap[g]? = some (.cells (putCells id 0 (flatK encP 2 d) cur) e (0, 0)) := by
  have hlt := (Array.getElem?_eq_some_iff.1 hg).1
  show ((w.heap.modify g (onCells (putCells id 0 (flatK encP 2 d)))) ++ os)[g]? = _
  rw [Array.getElem?_append_left (by simpa using hlt), Array.getElem?_modify, if_pos rfl, hg]
  rfl
theorem sortW_other (w : World) (g n : Nat) (d : Array (Nat × Nat)) (os : Array Obj) {q : Nat} (hq : q < w.heap.size) (hne : q ≠ g) : (sortWorldK encP 2 w g 0 n d os).heap[q]? = w.heap[q]? := by
  show ((w.heap.modify g (onCells (putCells id 0 (flatK encP 2 d)))) ++ os)[q]? = _
  rw [Array.getElem?_append_left (by simpa using hq), Array.getElem?_modify, if_neg (fun h => hne h.symm)]
theorem sortW_below (B : Nat) (w : World) (g n : Nat) (d : Array (Nat × Nat)) (os : Array Obj) (hB : B ≤ g) (hg : g < w.heap.size) : Below B w (sortWorldK encP 2 w g 0 n d os) :=
  ⟨rfl, rfl, rfl, by
    show w.heap.size ≤ ((w.heap.modify g (onCells (putCells id 0 (flatK encP 2 d)))) ++ os).size
    simp, fun q hq => sortW_other w g n d os (by omega) (by omega)⟩
theorem put_take (d : Array (Nat × Nat)) (cur : Array Value) (h : d.size * 2 ≤ cur.size) : (putCells id 0 (flatK encP 2 d) cur).toList.take (d.size * 2) = prC d.toList := by
  have hl : (prC d.toList).length = d.size * 2 := by rw [prC_len]; simp
  refine List.ext_getElem? fun j => ?_
  rw [List.getElem?_take]
  by_cases hj : j < d.size * 2
  · rw [if_pos hj]
    have hjc : j < cur.size := by omega
    have e1 : (putCells id 0 (flatK encP 2 d) cur).toList[j]? = some ((flatK encP 2 d)[j]!) := by
      rw [Array.getElem?_toList]
      unfold putCells
      rw [Array.getElem?_mapIdx, Array.getElem?_eq_getElem hjc]
      simp only [Option.map_some, Nat.zero_le, true_and, Nat.zero_add, size_flatK, hj, if_true, Nat.sub_zero, id]
    rw [e1, get_flatK _ _ _ _ hj]
    have hi : j / 2 < d.size := by omega
    have hp := prC_get (l := d.toList) (i := j / 2) (p := d[j / 2]) (by rw [Array.getElem?_toList, Array.getElem?_eq_getElem hi])
    rw [getElem!_pos d (j / 2) hi]
    rcases (show j % 2 = 0 ∨ j % 2 = 1 by omega) with h2 | h2
    · rw [h2]
      have : j = j / 2 * 2 := by omega
      rw [show (prC d.toList)[j]? = (prC d.toList)[j / 2 * 2]? by rw [← this], hp.1]
      rfl
    · rw [h2]
      have : j = j / 2 * 2 + 1 := by omega
      rw [show (prC d.toList)[j]? = (prC d.toList)[j / 2 * 2 + 1]? by rw [← this], hp.2]
      rfl
  · rw [if_neg hj, List.getElem?_eq_none (by omega)]
theorem holds9 {w : World} {B g cap n : Nat} {l : Prs} (h : w.ownsRow B 29 2 (.slice (some ⟨g, 0, none⟩) n cap) n (prC l)) : HoldsK encP 2 w g 0 l.toArray := by
  have hl := h.1
  rw [prC_len] at hl
  intro j hj
  rw [size_flatK] at hj
  simp only [List.size_toArray] at hj
  rw [Nat.zero_add]
  refine ⟨?_, h.frozenAt _⟩
  rw [h.cellAt _ (by omega)]
  have hi : j / 2 < l.length := by omega
  have hp := prC_get (l := l) (i := j / 2) (p := l[j / 2]) (List.getElem?_eq_getElem hi)
  rw [get_flatK _ _ _ _ (by simpa using hj)]
  have e : l.toArray[j / 2]! = l[j / 2] := by rw [getElem!_pos l.toArray (j / 2) (by simpa using hi)]; simp
  rw [e]
  rcases (show j % 2 = 0 ∨ j % 2 = 1 by omega) with h2 | h2
  · rw [h2]
    have : j = j / 2 * 2 := by omega
    rw [show (prC l)[j]? = (prC l)[j / 2 * 2]? by rw [← this], hp.1]
    rfl
  · rw [h2]
    have : j = j / 2 * 2 + 1 := by omega
    rw [show (prC l)[j]? = (prC l)[j / 2 * 2 + 1]? by rw [← this], hp.2]
    rfl
set_option maxRecDepth 100000 in
theorem sort_any9 (B o co : Nat) (Ao : Option Addr) (out m : Prs) (w : World) (h : w.ownsRow B 29 2 (.slice Ao o co) o (prC out)) (hp : out.Perm m) (hu : Up m) (ho : o ≤ 1048576) :
    Calls Try.prog 20 #[.slice Ao o co, .func (.func 21) #[] #[]] w fun e w' => e = .returned (.tuple #[]) ∧ w'.ownsRow B 29 2 (.slice Ao o co) o (prC m) ∧ Below B w w' := by
  have hl := h.1
  rw [prC_len] at hl
  have hlo : out.length = o := by omega
  rcases h.2 with ⟨h1, h2⟩ | ⟨g, cap, cur, h1, hBg, hgg, hc1, hc2, hc3, hc4⟩
  · injection h1 with hA _ hc
    subst hA hc h2
    obtain rfl := List.eq_nil_of_length_eq_zero hlo
    have hm : m = [] := by have := hp.length_eq; simpa using this.symm
    subst hm
    exact (Try.slices_SortFunc_none (α := Nat) none 0 _ w).mono fun _ _ ⟨he, hw⟩ => ⟨he, by rw [hw]; exact h, by rw [hw]; exact Below.refl _ _⟩
  · injection h1 with hA _ hc
    subst hA hc
    have eg : ∀ args w, (callFunc 21 args).run Try.prog w = .ok (.enter 21 args) w := enters_of Try.func21 (by kernel_rfl) rfl
    have hglt := (Array.getElem?_eq_some_iff.1 hgg).1
    have hcon := Try.slices_SortFunc (α := Nat × Nat) 2 Try.isAgg29 Try.sizeOf29 encP (fun _ => rfl) (fun x v hv => by simp [encP] at hv; rcases hv with rfl | rfl <;> rfl) cmpP swoP 21 #[] g 0 co out.toArray w eg (cmpLays9 g 0 _ w) (holds9 h) hglt (by simp; omega)
    rw [List.size_toArray, hlo] at hcon
    refine hcon.mono ?_
    rintro e w' ⟨he, d', n, os, hP, hS, rfl⟩
    refine ⟨he, ?_, sortW_below B w g n d' os hBg hglt⟩
    obtain ⟨hsz, _, hperm⟩ := hP
    have hso : d'.size = o := by rw [hsz]; simpa using hlo
    have e1 : d'.extract 0 o = d' := by rw [← hso]; exact Array.extract_size
    have e2 : out.toArray.extract 0 o = out.toArray := by
      have : o = out.toArray.size := by simpa using hlo.symm
      rw [this]; exact Array.extract_size
    rw [e1, e2] at hperm
    have hd : d'.toList = m := by
      refine up_sorted hu (hperm.trans (by simpa using hp)) ?_
      intro i j p q hij hi hj
      rw [Array.getElem?_toList] at hi hj
      have hj' := Array.getElem?_eq_some_iff.1 hj
      have hi' := Array.getElem?_eq_some_iff.1 hi
      have := hS i j (Nat.zero_le _) hij (by have := hj'.1; omega)
      rw [getElem!_pos d' j hj'.1, getElem!_pos d' i hi'.1, hj'.2, hi'.2, ltP] at this
      simpa using this
    refine ⟨by rw [prC_len, ← hd]; simp [hso], .inr ⟨g, co, _, rfl, hBg, sortW_block w g n d' os hgg, hc1, hc2, by unfold putCells; simpa using hc3, ?_⟩⟩
    have := put_take d' cur (by rw [hc3, hso]; exact Nat.mul_le_mul_right _ hc1)
    rw [hso] at this
    rw [this, hd]
end Go.Proofs.Ytkcckophnamajaa
