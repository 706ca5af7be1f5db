/- Ranging over scan.All: what the iterator tells a round. -/
import Derived.Test.YtfegbfhkmdmheaaDoorMem
import Derived.Test.YtfegbfhkmdmheaaDoorPure
import Derived.Test.YtfegbfhkmdmheaaDoorRows
import Derived.RangeFuncNested
import Derived.RangeFuncBound
import Derived.RangeFuncCalls
import Derived.RangeFuncLeaves
import Derived.Shelf.Abstract
import Derived.Shelf.RegionOpen
import Derived.WalkKit
import Derived.OwnWalkIn
import Derived.TacticsInMore
import Derived.LoopNIn
import Derived.LoopIn
import Derived.Lib.OthersKept
import Derived.Laws.IdiomStrings
import Derived.Below
import Derived.Test.YtfegbfhkmdmheaaDoorShelf
set_option linter.unusedSimpArgs false
set_option linter.unusedVariables false
namespace Go.Proofs.YtfegbfhkmdmheaaDoor
open Go.RowKit Go.Shelf Go.Lib
attribute [local go_sem] Oper.semAt_some

/-- the places and numbers of a text from p on -/
def placesF (s : ByteArray) : Nat → Nat → List (Nat × Nat)
  | 0, _ => []
  | f + 1, p => if p < s.size then (p, (Utf8.decode s p).1) :: placesF s f (p + (Utf8.decode s p).2) else []
def places (s : ByteArray) : List (Nat × Nat) := placesF s s.size 0
theorem decode_pos (s : ByteArray) (i : Nat) : 0 < (Utf8.decode s i).2 := by
  unfold Utf8.decode
  dsimp only
  repeat' split
  all_goals simp
theorem placesF_end (s : ByteArray) (f p : Nat) (h : ¬ p < s.size) : placesF s f p = [] := by
  cases f with
  | zero => rfl
  | succ f => unfold placesF; rw [if_neg h]
theorem placesF_fuel (s : ByteArray) : ∀ (f g p : Nat), s.size - p ≤ f → s.size - p ≤ g → placesF s f p = placesF s g p
  | 0, g, p, hf, _ => by rw [placesF_end s 0 p (by omega), placesF_end s g p (by omega)]
  | f + 1, 0, p, _, hg => by rw [placesF_end s 0 p (by omega), placesF_end s (f + 1) p (by omega)]
  | f + 1, g + 1, p, hf, hg => by
    have := decode_pos s p
    unfold placesF
    by_cases h : p < s.size
    · rw [if_pos h, if_pos h, placesF_fuel s f g _ (by omega) (by omega)]
    · rw [if_neg h, if_neg h]
theorem placesF_step (s : ByteArray) (p : Nat) (h : p < s.size) : placesF s s.size p = (p, (Utf8.decode s p).1) :: placesF s s.size (p + (Utf8.decode s p).2) := by
  have := decode_pos s p
  rw [placesF_fuel s s.size (s.size - 1 + 1) p (by omega) (by omega)]
  rw [show placesF s (s.size - 1 + 1) p = (p, (Utf8.decode s p).1) :: placesF s (s.size - 1) (p + (Utf8.decode s p).2) by rw [placesF, if_pos h]]
  rw [placesF_fuel s (s.size - 1) s.size _ (by omega) (by omega)]
abbrev encPlace (x : Nat × Nat) : Array Value := #[.int .i64 (x.1 : Int), .int .i32 (x.2 : Int)]
theorem iterPos_at {w : World} {k : Nat} {s : ByteArray} {p : Nat} (h : w.heap[k]? = some (.stringIter s p)) : w.iterPos k = p := by simp [World.iterPos, h]

set_option maxRecDepth 100000 in
set_option maxHeartbeats 1000000 in
theorem iterAll_in (F : Fence) (n : Nat) (h6 : F.fn 76) (hro : F.round = none) (hn : 1 ≤ n) (l Bn : Nat) (s : ByteArray) (B0 : Nat) (J Jx : List (Nat × Nat) → World → Prop) (hJ : AbidesFrom B0 J)
    (hY : ∀ pre x W, J pre W → pre.length < (places s).length → YieldAt F (n - 1) Tryd.prog l (encPlace x) W fun e W' =>
      (e = .returned (.bool true) ∧ J (pre ++ [x]) W' ∧ KeepsWalks W W') ∨ (e = .returned (.bool false) ∧ Jx (pre ++ [x]) W'))
    (W : World) (hB0 : B0 ≤ W.heap.size) (hBn : W.cell? ⟨Bn, 0, none⟩ = some (.string s)) (h0 : J [] W) :
    CallsIn F n Tryd.prog 76 #[.func (.yield l) #[] #[], .pointer (some ⟨Bn, 0, none⟩)] W fun e W' => (∃ v, e = .returned v) ∧
      ((∃ ys, ys = places s ∧ J ys W') ∨ (∃ pre, pre <+: places s ∧ Jx pre W')) := by
  refine callsIn_of_wp Tryd.func76 rfl h6 ?_ hro
  simp only [Tryd.ntmps76, List.size_toArray, List.length_cons, List.length_nil, Nat.reduceAdd, Nat.reduceSub, Array.replicate_succ, Array.replicate_zero, List.push_toArray, List.append_toArray, List.nil_append, List.cons_append]
  gi_wp2
  obtain ⟨Bi, hBi⟩ : ∃ Bi, W.heap.size = Bi := ⟨_, rfl⟩
  have hit0 : (W.iter s 0).heap[Bi]? = some (.stringIter s 0) := by rw [← hBi]; exact World.iter_heap W s 0
  have hJ0 : J [] (W.iter s 0) := hJ [] W (W.iter s 0) none h0 (World.grownBy_alloc W _ none) (fun r e => by cases e)
  rw [hBi] at hB0 ⊢
  gi_loopw [3] (fun _ wr => ∃ (pos : Nat) (pre : List (Nat × Nat)), wr.heap[Bi]? = some (.stringIter s pos) ∧ Hid (pre ++ placesF s s.size pos = places s) ∧ J pre wr)
    (fun _ wr => s.size - wr.iterPos Bi)
  case atStart => exact ⟨0, [], hit0, by unfold Hid; rfl, hJ0⟩
  case round =>
    obtain ⟨pos, pre, hit, hpl, hJs⟩ := hrel
    by_cases hp : pos < s.size
    · have hd2 := decode_pos s pos
      have hnx : ∀ ty, (Instr.next (.pointer (some ⟨Bi, 0, none⟩)) true ty).run Tryd.prog wr = .ok (.tuple #[.bool true, .int .i64 pos, .int .i32 (Utf8.decode s pos).1]) (wr.iterAt Bi s (pos + (Utf8.decode s pos).2)) := fun ty => Lib.run_next_any_at wr Bi s pos ty hit hp
      have hpl2 := hpl.out
      rw [placesF_step s pos hp] at hpl2
      revert hd2 hnx hpl2
      generalize Utf8.decode s pos = d
      intro hd2 hnx hpl2
      have hlen : pre.length < (places s).length := by rw [← hpl2]; simp
      have hit2 := Lib.iterAt_heap wr Bi s pos (pos + d.2) hit
      have hJ2 : J pre (wr.iterAt Bi s (pos + d.2)) := hJ pre wr _ (some Bi) hJs ⟨rfl, rfl, rfl, by rw [Lib.iterAt_size]; exact Nat.le_refl _, fun i _ hne => Lib.iterAt_other wr Bi i s (pos + d.2) (fun e => hne (by rw [e]))⟩ (fun r e => by cases e; exact ⟨hB0, _, hit, rfl⟩)
      have hpl3 : (pre ++ [(pos, d.1)]) ++ placesF s s.size (pos + d.2) = places s := by rw [← hpl2]; simp
      have Hpl := Lib.hid hpl3
      have Hpos := Lib.hid (iterPos_at hit)
      have hpre : pre ++ [(pos, d.1)] <+: places s := ⟨_, hpl3⟩
      have Hpre := Lib.hid hpre
      clear hpl hpl2 hpl3 hit hJs hpre
      obtain ⟨w1, hw1⟩ : ∃ w1, wr.iterAt Bi s (pos + d.2) = w1 := ⟨_, rfl⟩
      rw [hw1] at hnx hit2 hJ2
      clear hw1
      obtain ⟨fn, tmps, assign, body, hy, hR⟩ := hY pre (pos, d.1) w1 hJ2 hlen
      dsimp only [encPlace] at hy
      gi_wp2
      refine hR.mono ?_
      rintro e W3 (⟨rfl, hJ3, hk3⟩ | ⟨rfl, hJx3⟩)
      · have hit3 := hk3.same Bi _ hit2 rfl
        gi_wp2
        go_roundw
        case rel => exact ⟨pos + d.2, pre ++ [(pos, d.1)], hit3, Hpl, hJ3⟩
        case measure => rw [Hpos.out, iterPos_at hit3]; omega
      · gi_wp2
        refine bodyPost_ret (results_none rfl _ _ _) rfl ?_
        exact ⟨⟨_, rfl⟩, .inr ⟨pre ++ [(pos, d.1)], Hpre.out, hJx3⟩⟩
    · have hnx : ∀ ty, (Instr.next (.pointer (some ⟨Bi, 0, none⟩)) true ty).run Tryd.prog wr = _ := fun ty => Lib.run_next_end_at wr Bi s pos ty hit hp
      have hpl2 := hpl.out
      rw [placesF_end s _ _ hp, List.append_nil] at hpl2
      have Hpl := Lib.hid hpl2
      clear hpl hpl2 hit
      gi_wp2
      go_end0
      exact ⟨⟨_, rfl⟩, .inl ⟨pre, Hpl.out, hJs⟩⟩
end Go.Proofs.YtfegbfhkmdmheaaDoor

/- Ranging over a function whose iterator keeps blocks of its own (cells too): the caller's law, over the set of blocks that are the iterator's. -/
namespace Go.Proofs.YtfegbfhkmdmheaaDoor
open Go.RowKit

/-- a set of blocks -/
abbrev Bl := Nat → Prop
/-- what turns lies in T, or is new -/
structure Moves (T : Bl) (A B : World) : Prop where
  os : B.os = A.os
  tape : B.tape = A.tape
  output : B.output = A.output
  size : A.heap.size ≤ B.heap.size
  block : ∀ k, k < A.heap.size → ¬ T k → B.heap[k]? = A.heap[k]?
/-- T' is T and perhaps some of what is new -/
def Grow (T T' : Bl) (A B : World) : Prop := (∀ k, T k → T' k) ∧ ∀ k, T' k → T k ∨ (A.heap.size ≤ k ∧ k < B.heap.size)
def InT (B : Nat) (T : Bl) (W : World) : Prop := ∀ k, T k → B ≤ k ∧ k < W.heap.size
/-- J abides what an iterator does in blocks of its own -/
def TC {β : Type} (B : Nat) (J : β → Bl → World → Prop) : Prop := ∀ s T T' A A', J s T A → InT B T A → Moves T A A' → Grow T T' A A' → J s T' A'
/-- what a round keeps: all below n₀, and what is the iterator's -/
structure KeepT (n₀ : Nat) (T : Bl) (A B : World) : Prop where
  size : A.heap.size ≤ B.heap.size
  block : ∀ k, k < A.heap.size → k < n₀ ∨ T k → B.heap[k]? = A.heap[k]?

section words
variable {T T' T'' : Bl} {A B C : World} {n₀ : Nat}
theorem Moves.refl (T : Bl) (A : World) : Moves T A A := ⟨rfl, rfl, rfl, Nat.le_refl _, fun _ _ _ => rfl⟩
theorem Moves.mono (h : Moves T A B) (hT : ∀ k, T k → T' k) : Moves T' A B := ⟨h.os, h.tape, h.output, h.size, fun k hk hn => h.block k hk (fun e => hn (hT k e))⟩
theorem Moves.of_below (T : Bl) (h : Below A.heap.size A B) : Moves T A B := ⟨h.os, h.tape, h.output, h.size, fun k hk _ => h.block k hk⟩
theorem Moves.trans (h : Moves T A B) (g : Grow T T' A B) (k : Moves T' B C) : Moves T A C :=
  ⟨k.os.trans h.os, k.tape.trans h.tape, k.output.trans h.output, Nat.le_trans h.size k.size, fun i hi hn =>
    (k.block i (Nat.lt_of_lt_of_le hi h.size) (fun e => (g.2 i e).elim hn (fun e => by omega))).trans (h.block i hi hn)⟩
theorem Moves.trans' (h : Moves T A B) (k : Moves T B C) : Moves T A C := h.trans ⟨fun _ h => h, fun _ h => .inl h⟩ k
theorem Moves.putObj (T : Bl) (A : World) (l : Nat) (o : Obj) (hl : T l) : Moves T A (A.putObj l o) := ⟨rfl, rfl, rfl, by simp, fun k _ hn => World.putObj_heap_other (fun e => hn (e ▸ hl))⟩
theorem Moves.alloc (T : Bl) (A : World) (o : Obj) : Moves T A (A.alloc o) := .of_below T ((Below.refl _ A).alloc (Nat.le_refl _) o)
theorem Grow.same (T : Bl) (A B : World) : Grow T T A B := ⟨fun _ h => h, fun _ h => .inl h⟩
theorem KeepT.refl (n₀ : Nat) (T : Bl) (A : World) : KeepT n₀ T A A := ⟨Nat.le_refl _, fun _ _ _ => rfl⟩
theorem KeepT.trans (h : KeepT n₀ T A B) (k : KeepT n₀ T B C) : KeepT n₀ T A C := ⟨Nat.le_trans h.size k.size, fun i hi hn => (k.block i (Nat.lt_of_lt_of_le hi h.size) hn).trans (h.block i hi hn)⟩
theorem KeepT.less (h : KeepT n₀ T A B) (hT : ∀ k, T' k → T k) : KeepT n₀ T' A B := ⟨h.size, fun k hk hn => h.block k hk (hn.imp id (hT k))⟩
theorem KeepT.of_below (n₀ : Nat) (T : Bl) (h : Below A.heap.size A B) : KeepT n₀ T A B := ⟨h.size, fun k hk _ => h.block k hk⟩
theorem KeepT.putObj (n₀ : Nat) (T : Bl) (A : World) (l : Nat) (o : Obj) (h0 : n₀ ≤ l) (hl : ¬ T l) : KeepT n₀ T A (A.putObj l o) := ⟨by simp, fun k _ hn => World.putObj_heap_other (fun e => by subst e; exact hn.elim (fun h => by omega) hl)⟩
theorem TC.of {β : Type} {B : Nat} {J : β → Bl → World → Prop} (h : TC B J) {s : β} {T : Bl} {A A' : World} (hs : J s T A) (hT : InT B T A) (hm : Moves T A A') : J s T A' := h s T T A A' hs hT hm (Grow.same _ _ _)
theorem InT.more {B : Nat} (h : InT B T A) (hs : A.heap.size ≤ C.heap.size) : InT B T C := fun k hk => ⟨(h k hk).1, Nat.lt_of_lt_of_le (h k hk).2 hs⟩
end words

/-- AN ITERATOR's CONTRACT -/
def SeqT {α : Type} (F : Fence) (n : Nat) (P : Program) (g : Nat) (lb : Array Value) (encs : α → Array Value) (S Sp : List α → Prop) (N n₀ : Nat) (w : World) : Prop :=
  ∀ (l : Nat) (J Jx : List α → Bl → World → Prop) (W : World), Below n₀ w W → TC W.heap.size J → TC W.heap.size Jx →
    (∀ pre x T W1, J pre T W1 → InT W.heap.size T W1 → pre.length < N → Sp (pre ++ [x]) → YieldAt F (n - 1) P l (encs x) W1 fun e W' =>
      (e = .returned (.bool true) ∧ J (pre ++ [x]) T W' ∧ KeepT n₀ T W1 W') ∨ (e = .returned (.bool false) ∧ Jx (pre ++ [x]) T W' ∧ KeepT n₀ T W1 W')) →
    J [] (fun _ => False) W →
    CallsIn F n P g (#[.func (.yield l) #[] #[]] ++ lb) W fun e W' => (∃ v, e = .returned v) ∧ ((∃ xs T, S xs ∧ J xs T W' ∧ InT W.heap.size T W') ∨ (∃ pre T, Sp pre ∧ Jx pre T W' ∧ InT W.heap.size T W'))

/-- HOW THE BODY OF A ROUND MAY BE LEFT -/
def postT {α : Type} (n₀ : Nat) (I : List α → Bl → World → Prop) (Ix : Code → List α → Bl → World → Prop) (xs : List α) (T : Bl) (W : World) : Exit → Act → World → Prop
  | .normal, _, W' => KeepT n₀ T W W' ∧ I xs T W'
  | .ret, _, W' => KeepT n₀ T W W' ∧ Ix .ret xs T W'
  | .exit id, _, W' => KeepT n₀ T W W' ∧ Ix (.exit id) xs T W'
  | .goto t, _, W' => KeepT n₀ T W W' ∧ Ix (.goto t) xs T W'
  | .panic _, _, _ => False
  | .outgrown, _, _ => False

section law
variable {F : Fence} {m : Nat} {P : Program} {α : Type} {ps : Array Tmp} {assign body : Code} {gf : Nat} {lb : Array Value} {encs : α → Array Value} {S Sp : List α → Prop} {N n₀ : Nat} {w0 : World}

/-- the rounds, once the loop's record L lies in W1; 'bk': the blocks of book-keeping -/
theorem rounds_T {fn : FuncId} (hFn : F.fn fn) {tm : Array Value} {dd : Nat} (L B : Nat) (bk : Bl) (W1 : World) (hbk : InT B bk W1) (hbL : bk L)
    (hL1 : W1.heap[L]? = some (.loop { state := .ready, pending := none, fn, tmps := tm, params := ps, assign, body, defers := dd }))
    (hseq : SeqT F m P gf lb encs S Sp N n₀ w0) (hb0 : Below n₀ w0 W1) (hn0 : n₀ ≤ B) (hps : ∀ x, (encs x).size = ps.size)
    (I : List α → Bl → World → Prop) (Ix : Code → List α → Bl → World → Prop) (hI : TC B I) (hIx : ∀ c, TC B (Ix c)) (h0 : I [] bk W1)
    (Ax : α → Act → Bl → World → Prop) (hAx : ∀ x a', TC B (fun (_ : Unit) => Ax x a'))
    (hassign : ∀ (pre : List α) (x : α) (T : Bl) (W : World) (K : Act → World → Prop), I pre T W → InT B T W → T L → (∀ a' W', KeepT n₀ T W W' → I pre T W' → Ax x a' T W' → K a' W') →
      assign.wpIn (F.inRound L) (m - 1) P (Exit.then K (fun _ _ _ => False)) { tmps := (ps.zip (encs x)).foldl (fun t (p, v) => t.setIfInBounds p v) tm, defers := [] } W)
    (hbody : ∀ (pre : List α) (x : α) (a' : Act) (T : Bl) (W : World), T L → InT B T W → (∃ r, W.heap[L]? = some (.loop r)) → I pre T W → Ax x a' T W → pre.length < N → Sp (pre ++ [x]) →
      body.wpIn (F.inRound L) (m - 1) P (postT n₀ I Ix (pre ++ [x]) T W) a' W) :
    CallsIn F m P gf (#[.func (.yield L) #[] #[]] ++ lb) W1 fun e W2 => (∃ v, e = .returned v) ∧ (∀ k, bk k → k ≠ L → W2.heap[k]? = W1.heap[k]?) ∧
      ((∃ xs T, S xs ∧ I xs T W2 ∧ InT B T W2 ∧ (∀ k, bk k → T k) ∧ W2.heap[L]? = some (.loop { state := .ready, pending := none, fn, tmps := tm, params := ps, assign, body, defers := dd })) ∨
       (∃ pre T c, Sp pre ∧ Ix c pre T W2 ∧ InT B T W2 ∧ (∀ k, bk k → T k) ∧ W2.heap[L]? = some (.loop { state := .done, pending := some c, fn, tmps := tm, params := ps, assign, body, defers := dd }))) := by
  obtain ⟨rec, hrec⟩ : ∃ rec : LoopState → Option Code → Loop, rec = fun st pe => { state := st, pending := pe, fn, tmps := tm, params := ps, assign, body, defers := dd } := ⟨_, rfl⟩
  have hL : W1.heap[L]? = some (.loop (rec .ready none)) := by rw [hrec]; exact hL1
  have hB1 : ∀ k, bk k → B ≤ k ∧ k < W1.heap.size := hbk
  have hin : ∀ {T : Bl} {W : World}, InT W1.heap.size T W → W1.heap.size ≤ W.heap.size → InT B (fun k => bk k ∨ T k) W := by
    intro T W hT hs k hk
    have := hB1 L hbL
    rcases hk with hk | hk
    · have := hB1 k hk; omega
    · have := hT k hk; omega
  have hmv : ∀ {T : Bl} {A A' : World}, Moves T A A' → Moves (fun k => bk k ∨ T k) A A' := fun h => h.mono fun _ => .inr
  have hgr : ∀ {T T' : Bl} {A A' : World}, Grow T T' A A' → Grow (fun k => bk k ∨ T k) (fun k => bk k ∨ T' k) A A' := fun h =>
    ⟨fun k hk => hk.imp id (h.1 k), fun k hk => hk.elim (fun hk => .inl (.inl hk)) (fun hk => (h.2 k hk).imp .inr id)⟩
  have hstay : ∀ {T : Bl} {A A' : World}, Moves T A A' → InT W1.heap.size T A → W1.heap.size ≤ A.heap.size → ∀ k, bk k → A'.heap[k]? = A.heap[k]? := fun h hT hs k hk =>
    h.block k (Nat.lt_of_lt_of_le (hB1 k hk).2 hs) (fun e => by have := hT k e; have := hB1 k hk; omega)
  refine (hseq L (fun pre T W => I pre (fun k => bk k ∨ T k) W ∧ W.heap[L]? = some (.loop (rec .ready none)) ∧ (∀ k, bk k → k ≠ L → W.heap[k]? = W1.heap[k]?) ∧ W1.heap.size ≤ W.heap.size)
    (fun pre T W => ∃ c, Ix c pre (fun k => bk k ∨ T k) W ∧ W.heap[L]? = some (.loop (rec .done (some c))) ∧ (∀ k, bk k → k ≠ L → W.heap[k]? = W1.heap[k]?) ∧ W1.heap.size ≤ W.heap.size) W1 hb0 ?_ ?_ ?_
    ⟨hI _ _ _ _ _ h0 hbk (Moves.refl _ _) ⟨fun k h => .inl h, fun k h => .inl (h.elim id False.elim)⟩, hL, fun _ _ _ => rfl, Nat.le_refl _⟩).mono ?_
  · rintro s T T' A A' ⟨hi, hl, ho, hs⟩ hT hm hg
    exact ⟨hI _ _ _ _ _ hi (hin hT hs) (hmv hm) (hgr hg), (hstay hm hT hs L hbL).trans hl, fun k hk hne => (hstay hm hT hs k hk).trans (ho k hk hne), Nat.le_trans hs hm.size⟩
  · rintro s T T' A A' ⟨c, hi, hl, ho, hs⟩ hT hm hg
    exact ⟨c, hIx c _ _ _ _ _ hi (hin hT hs) (hmv hm) (hgr hg), (hstay hm hT hs L hbL).trans hl, fun k hk hne => (hstay hm hT hs k hk).trans (ho k hk hne), Nat.le_trans hs hm.size⟩
  · rintro pre x T W ⟨hi, hl, ho, hs⟩ hT hlen hsp
    have hTb : InT B (fun k => bk k ∨ T k) W := hin hT hs
    have hnL : ¬ T L := fun e => by have := hT L e; have := hB1 L hbL; omega
    have hy := run_yield (P := P) (args := encs x) hl (by rw [hrec]; exact hps x)
    rw [hrec] at hy
    refine ⟨fn, _, assign, body, hy, roundIn_of_wpIn hFn (hassign pre x _ W _ hi hTb (.inl hbL) ?_)⟩
    intro a' Wa hka hia hax
    have hla : Wa.heap[L]? = some (.loop (rec .ready none)) := (hka.block L (hTb L (.inl hbL)).2 (.inr (.inl hbL))).trans hl
    have hsa : W1.heap.size ≤ Wa.heap.size := Nat.le_trans hs hka.size
    have hTa : InT B (fun k => bk k ∨ T k) Wa := hTb.more hka.size
    refine ⟨_, run_beginRound hla (by rw [hrec]), ?_⟩
    have hlt : L < Wa.heap.size := (hTa L (.inl hbL)).2
    have hmb : Moves (fun k => bk k ∨ T k) Wa (Wa.putObj L (.loop { rec .ready none with state := .busy })) := Moves.putObj _ _ _ _ (.inl hbL)
    have hlb : (Wa.putObj L (.loop { rec .ready none with state := .busy })).heap[L]? = some (.loop { rec .ready none with state := .busy }) := World.putObj_heap_same hlt
    have hsb : W1.heap.size ≤ (Wa.putObj L (.loop { rec .ready none with state := .busy })).heap.size := by simpa using hsa
    have hob : ∀ k, bk k → k ≠ L → (Wa.putObj L (.loop { rec .ready none with state := .busy })).heap[k]? = W1.heap[k]? := fun k hk hne =>
      (World.putObj_heap_other hne).trans ((hka.block k (hTb k (.inl hk)).2 (.inr (.inl hk))).trans (ho k hk hne))
    have hkb : KeepT n₀ T W (Wa.putObj L (.loop { rec .ready none with state := .busy })) := (hka.less fun _ => .inr).trans (KeepT.putObj _ _ _ _ _ (Nat.le_trans hn0 (hB1 L hbL).1) hnL)
    have hib := hI.of hia hTa hmb
    have haxb := (hAx x a').of (s := ()) hax hTa hmb
    have hTbb : InT B (fun k => bk k ∨ T k) (Wa.putObj L (.loop { rec .ready none with state := .busy })) := hTa.more hmb.size
    revert hlb hsb hob hkb hib haxb hTbb
    generalize Wa.putObj L (.loop { rec .ready none with state := .busy }) = Wb
    intro hlb hsb hob hkb hib haxb hTbb
    refine wpIn_mono (hbody pre x a' _ Wb (.inl hbL) hTbb ⟨_, hlb⟩ hib haxb hlen hsp) ?_
    have fin : ∀ (jump : Option Code) (W3 : World), KeepT n₀ (fun k => bk k ∨ T k) Wb W3 →
        (Instr.endRound L jump).run P W3 = .ok (.bool jump.isNone) (W3.putObj L (.loop (rec (if jump.isNone then .ready else .done) jump))) ∧
        (W3.putObj L (.loop (rec (if jump.isNone then .ready else .done) jump))).heap[L]? = some (.loop (rec (if jump.isNone then .ready else .done) jump)) ∧
        (∀ k, bk k → k ≠ L → (W3.putObj L (.loop (rec (if jump.isNone then .ready else .done) jump))).heap[k]? = W1.heap[k]?) ∧
        W1.heap.size ≤ (W3.putObj L (.loop (rec (if jump.isNone then .ready else .done) jump))).heap.size ∧
        Moves (fun k => bk k ∨ T k) W3 (W3.putObj L (.loop (rec (if jump.isNone then .ready else .done) jump))) ∧
        InT B (fun k => bk k ∨ T k) W3 ∧ KeepT n₀ T W (W3.putObj L (.loop (rec (if jump.isNone then .ready else .done) jump))) := fun jump W3 hk3 => by
      have hl3 : W3.heap[L]? = some (.loop { rec .ready none with state := .busy }) := (hk3.block L (hTbb L (.inl hbL)).2 (.inr (.inl hbL))).trans hlb
      have hr := run_endRound (P := P) jump hl3
      refine ⟨by rw [hrec] at hr ⊢; exact hr, World.putObj_heap_same (Array.getElem?_eq_some_iff.1 hl3).1, fun k hk hne => (World.putObj_heap_other hne).trans ((hk3.block k (hTbb k (.inl hk)).2 (.inr (.inl hk))).trans (hob k hk hne)), ?_, Moves.putObj _ _ _ _ (.inl hbL), hTbb.more hk3.size, ?_⟩
      · have := hk3.size; simp; omega
      · exact hkb.trans ((hk3.less fun _ => .inr).trans (KeepT.putObj _ _ _ _ _ (Nat.le_trans hn0 (hB1 L hbL).1) hnL))
    rintro e a3 W3 hp
    cases e with
    | normal =>
      obtain ⟨hk3, hi3⟩ := hp
      obtain ⟨hr, hl4, ho4, hs4, hm4, hT4, hk4⟩ := fin none W3 hk3
      exact ⟨_, _, hr, .inl ⟨rfl, ⟨hI.of hi3 hT4 hm4, hl4, ho4, hs4⟩, hk4⟩⟩
    | ret =>
      obtain ⟨hk3, hi3⟩ := hp
      obtain ⟨hr, hl4, ho4, hs4, hm4, hT4, hk4⟩ := fin (some .ret) W3 hk3
      exact ⟨_, _, hr, .inr ⟨rfl, ⟨.ret, (hIx _).of hi3 hT4 hm4, hl4, ho4, hs4⟩, hk4⟩⟩
    | exit id =>
      obtain ⟨hk3, hi3⟩ := hp
      obtain ⟨hr, hl4, ho4, hs4, hm4, hT4, hk4⟩ := fin (some (.exit id)) W3 hk3
      exact ⟨_, _, hr, .inr ⟨rfl, ⟨.exit id, (hIx _).of hi3 hT4 hm4, hl4, ho4, hs4⟩, hk4⟩⟩
    | goto t =>
      obtain ⟨hk3, hi3⟩ := hp
      obtain ⟨hr, hl4, ho4, hs4, hm4, hT4, hk4⟩ := fin (some (.goto t)) W3 hk3
      exact ⟨_, _, hr, .inr ⟨rfl, ⟨.goto t, (hIx _).of hi3 hT4 hm4, hl4, ho4, hs4⟩, hk4⟩⟩
    | panic ch => exact hp.elim
    | outgrown => exact hp.elim
  · rintro e W2 ⟨hv, (⟨xs, T, hS, ⟨hi, hl, ho, hs⟩, hT⟩ | ⟨pre, T, hSp, ⟨c, hi, hl, ho, hs⟩, hT⟩)⟩
    · exact ⟨hv, ho, .inl ⟨xs, _, hS, hi, hin hT hs, fun _ => .inl, by rw [hrec] at hl; exact hl⟩⟩
    · exact ⟨hv, ho, .inr ⟨pre, _, c, hSp, hi, hin hT hs, fun _ => .inl, by rw [hrec] at hl; exact hl⟩⟩

/-- THE CALLER's LAW, at a loop that stands in no round. -/
theorem range_T {n : Nat} {g : Operand} {Q : Exit → Act → World → Prop} {a : Act} {w : World} (hro : F.round = none) (h1 : 1 ≤ n) (hg : a.eval g = .func (.func gf) #[] lb) (hFg : F.fn gf) (eg : ∀ args w, (callFunc gf args).run P w = .ok (.enter gf args) w)
    (hseq : SeqT F (n - 1) P gf lb encs S Sp N n₀ w0) (hb0 : Below n₀ w0 w) (hn0 : n₀ ≤ w.heap.size) (hps : ∀ x, (encs x).size = ps.size)
    (I : List α → Bl → World → Prop) (Ix : Code → List α → Bl → World → Prop) (hI : TC w.heap.size I) (hIx : ∀ c, TC w.heap.size (Ix c)) (h0 : I [] (fun _ => False) w)
    (Ax : α → Act → Bl → World → Prop) (hAx : ∀ x a', TC w.heap.size (fun (_ : Unit) => Ax x a'))
    (hassign : ∀ (l : Nat) (pre : List α) (x : α) (T : Bl) (W : World) (K : Act → World → Prop), I pre T W → InT w.heap.size T W → T l → (∀ a' W', KeepT n₀ T W W' → I pre T W' → Ax x a' T W' → K a' W') →
      assign.wpIn (F.inRound l) (n - 1 - 1) P (Exit.then K (fun _ _ _ => False)) { tmps := (ps.zip (encs x)).foldl (fun t (p, v) => t.setIfInBounds p v) a.tmps, defers := [] } W)
    (hbody : ∀ (l : Nat) (pre : List α) (x : α) (a' : Act) (T : Bl) (W : World), T l → InT w.heap.size T W → (∃ r, W.heap[l]? = some (.loop r)) → I pre T W → Ax x a' T W → pre.length < N → Sp (pre ++ [x]) →
      body.wpIn (F.inRound l) (n - 1 - 1) P (postT n₀ I Ix (pre ++ [x]) T W) a' W)
    (hdone : ∀ (D : Nat) (xs : List α) (T : Bl) (W : World), T D → InT w.heap.size T W → S xs → I xs T W → W.heap[D]? = some (.deferred (some [])) → Q .normal { a with defers := { target := .collected D, args := #[] } :: a.defers } W)
    (hstop : ∀ (D : Nat) (c : Code) (pre : List α) (T : Bl) (W : World), T D → InT w.heap.size T W → Sp pre → Ix c pre T W → W.heap[D]? = some (.deferred (some [])) → c.wpIn F n P Q { a with defers := { target := .collected D, args := #[] } :: a.defers } W) :
    (Code.rangeFunc g ps assign body).wpIn F n P Q a w := by
  refine wpIn_rangeFunc ?_
  intro fn hfn
  rw [hro]
  obtain ⟨W1, hW1⟩ : ∃ W1, (w.alloc (.deferred (some []))).alloc (.loop { state := .ready, pending := none, fn, tmps := a.tmps, params := ps, assign, body, defers := w.heap.size }) = W1 := ⟨_, rfl⟩
  have hs1 : W1.heap.size = w.heap.size + 2 := by rw [← hW1]; simp
  have hL1 : W1.heap[w.heap.size + 1]? = some (.loop { state := .ready, pending := none, fn, tmps := a.tmps, params := ps, assign, body, defers := w.heap.size }) := by
    rw [← hW1]
    have := World.alloc_heap_new (w.alloc (.deferred (some []))) (.loop { state := .ready, pending := none, fn, tmps := a.tmps, params := ps, assign, body, defers := w.heap.size })
    rwa [World.size_alloc] at this
  have hD1 : W1.heap[w.heap.size]? = some (.deferred (some [])) := by
    rw [← hW1]
    exact (Below.heap_alloc _ _ _ (by simp)).trans (World.alloc_heap_new w _)
  have hbw : Below w.heap.size w W1 := by rw [← hW1]; exact ((Below.refl _ w).alloc (Nat.le_refl _) _).alloc (by simp) _
  refine ⟨w.heap.size + 1, [{ target := .collected w.heap.size, args := #[] }], W1, { target := .fn (.func gf) lb, args := #[.func (.yield (w.heap.size + 1)) #[] #[]] }, W1, gf,
    #[.func (.yield (w.heap.size + 1)) #[] #[]] ++ lb, W1, by rw [← hW1]; exact run_enterLoop_outer _ _ _ _ _, by simp only [resolve, hg]; simp [go_sem], fun f' hf' => by simp [Target.leads] at hf'; subst hf'; exact hFg, by simp [invoke, go_sem, eg], fun _ => h1, ?_⟩
  refine (rounds_T hfn (w.heap.size + 1) w.heap.size (fun k => k = w.heap.size ∨ k = w.heap.size + 1) W1 (fun k hk => by rcases hk with rfl | rfl <;> omega) (.inr rfl) hL1 hseq (hb0.trans (hbw.mono hn0)) hn0 hps I Ix hI hIx
    (hI _ _ _ _ _ h0 (fun k h => h.elim) (.of_below _ hbw) ⟨fun k h => h.elim, fun k hk => .inr (by rcases hk with rfl | rfl <;> omega)⟩) Ax hAx (hassign (w.heap.size + 1)) (hbody (w.heap.size + 1))).mono ?_
  rintro e W2 ⟨⟨v, rfl⟩, ho, (⟨xs, T, hS, hi, hT, hsub, hl⟩ | ⟨pre, T, c, hSp, hi, hT, hsub, hl⟩)⟩
  · refine ⟨none, _, run_endLoop (P := P) hl (by simp), ?_⟩
    have hmv := Moves.putObj T W2 (w.heap.size + 1) (.loop { state := .exhausted, pending := none, fn, tmps := a.tmps, params := ps, assign, body, defers := w.heap.size }) (hsub _ (.inr rfl))
    exact hdone w.heap.size xs T _ (hsub _ (.inl rfl)) (hT.more hmv.size) hS (hI.of hi hT hmv) ((World.putObj_heap_other (by omega)).trans ((ho _ (.inl rfl) (by omega)).trans hD1))
  · refine ⟨some c, _, run_endLoop (P := P) hl (by simp), ?_⟩
    have hmv := Moves.putObj T W2 (w.heap.size + 1) (.loop { state := .exhausted, pending := some c, fn, tmps := a.tmps, params := ps, assign, body, defers := w.heap.size }) (hsub _ (.inr rfl))
    exact hstop w.heap.size c pre T _ (hsub _ (.inl rfl)) (hT.more hmv.size) hSp ((hIx c).of hi hT hmv) ((World.putObj_heap_other (by omega)).trans ((ho _ (.inl rfl) (by omega)).trans hD1))

/-- the law where the assignment lays no block -/
theorem range_T1 {n : Nat} {g : Operand} {Q : Exit → Act → World → Prop} {a : Act} {w : World} (hro : F.round = none) (h1 : 1 ≤ n) (hg : a.eval g = .func (.func gf) #[] lb) (hFg : F.fn gf) (eg : ∀ args w, (callFunc gf args).run P w = .ok (.enter gf args) w)
    (hseq : SeqT F (n - 1) P gf lb encs S Sp N n₀ w0) (hb0 : Below n₀ w0 w) (hn0 : n₀ ≤ w.heap.size) (hps : ∀ x, (encs x).size = ps.size)
    (I : List α → Bl → World → Prop) (Ix : Code → List α → Bl → World → Prop) (hI : TC w.heap.size I) (hIx : ∀ c, TC w.heap.size (Ix c)) (h0 : I [] (fun _ => False) w)
    (a₁ : α → Act)
    (hassign : ∀ (l : Nat) (x : α) (W : World) (K : Act → World → Prop), K (a₁ x) W →
      assign.wpIn (F.inRound l) (n - 1 - 1) P (Exit.then K (fun _ _ _ => False)) { tmps := (ps.zip (encs x)).foldl (fun t (p, v) => t.setIfInBounds p v) a.tmps, defers := [] } W)
    (hbody : ∀ (l : Nat) (pre : List α) (x : α) (T : Bl) (W : World), T l → InT w.heap.size T W → (∃ r, W.heap[l]? = some (.loop r)) → I pre T W → pre.length < N → Sp (pre ++ [x]) →
      body.wpIn (F.inRound l) (n - 1 - 1) P (postT n₀ I Ix (pre ++ [x]) T W) (a₁ x) W)
    (hdone : ∀ (D : Nat) (xs : List α) (T : Bl) (W : World), T D → InT w.heap.size T W → S xs → I xs T W → W.heap[D]? = some (.deferred (some [])) → Q .normal { a with defers := { target := .collected D, args := #[] } :: a.defers } W)
    (hstop : ∀ (D : Nat) (c : Code) (pre : List α) (T : Bl) (W : World), T D → InT w.heap.size T W → Sp pre → Ix c pre T W → W.heap[D]? = some (.deferred (some [])) → c.wpIn F n P Q { a with defers := { target := .collected D, args := #[] } :: a.defers } W) :
    (Code.rangeFunc g ps assign body).wpIn F n P Q a w :=
  range_T hro h1 hg hFg eg hseq hb0 hn0 hps I Ix hI hIx h0 (fun x a' _ _ => a' = a₁ x) (fun _ _ _ _ _ _ _ h _ _ _ => h) (fun l pre x T W K hi _ _ hK => hassign l x W K (hK _ _ (KeepT.refl _ _ _) hi rfl))
    (fun l pre x a' T W hl hT hr hi e hn hs => by subst e; exact hbody l pre x T W hl hT hr hi hn hs) hdone hstop

/-- THE CALLER's LAW, at a loop that stands in a round of loop l₀. -/
theorem range_TN {n : Nat} {g : Operand} {Q : Exit → Act → World → Prop} {a : Act} {w : World} {l₀ : Nat} {r₀ : Loop} (hro : F.round = some l₀) (hl₀ : w.heap[l₀]? = some (.loop r₀)) (h1 : 1 ≤ n) (hg : a.eval g = .func (.func gf) #[] lb) (hFg : F.fn gf) (eg : ∀ args w, (callFunc gf args).run P w = .ok (.enter gf args) w)
    (hseq : SeqT F (n - 1) P gf lb encs S Sp N n₀ w0) (hb0 : Below n₀ w0 w) (hn0 : n₀ ≤ w.heap.size) (hps : ∀ x, (encs x).size = ps.size)
    (I : List α → Bl → World → Prop) (Ix : Code → List α → Bl → World → Prop) (hI : TC w.heap.size I) (hIx : ∀ c, TC w.heap.size (Ix c)) (h0 : I [] (fun _ => False) w)
    (Ax : α → Act → Bl → World → Prop) (hAx : ∀ x a', TC w.heap.size (fun (_ : Unit) => Ax x a'))
    (hassign : ∀ (l : Nat) (pre : List α) (x : α) (T : Bl) (W : World) (K : Act → World → Prop), I pre T W → InT w.heap.size T W → T l → (∀ a' W', KeepT n₀ T W W' → I pre T W' → Ax x a' T W' → K a' W') →
      assign.wpIn (F.inRound l) (n - 1 - 1) P (Exit.then K (fun _ _ _ => False)) { tmps := (ps.zip (encs x)).foldl (fun t (p, v) => t.setIfInBounds p v) a.tmps, defers := [] } W)
    (hbody : ∀ (l : Nat) (pre : List α) (x : α) (a' : Act) (T : Bl) (W : World), T l → InT w.heap.size T W → (∃ r, W.heap[l]? = some (.loop r)) → I pre T W → Ax x a' T W → pre.length < N → Sp (pre ++ [x]) →
      body.wpIn (F.inRound l) (n - 1 - 1) P (postT n₀ I Ix (pre ++ [x]) T W) a' W)
    (hdone : ∀ (xs : List α) (T : Bl) (W : World), InT w.heap.size T W → S xs → I xs T W → Q .normal a W)
    (hstop : ∀ (c : Code) (pre : List α) (T : Bl) (W : World), InT w.heap.size T W → Sp pre → Ix c pre T W → c.wpIn F n P Q a W) :
    (Code.rangeFunc g ps assign body).wpIn F n P Q a w := by
  refine wpIn_rangeFunc ?_
  intro fn hfn
  rw [hro]
  obtain ⟨W1, hW1⟩ : ∃ W1, w.alloc (.loop { state := .ready, pending := none, fn, tmps := a.tmps, params := ps, assign, body, defers := r₀.defers }) = W1 := ⟨_, rfl⟩
  have hs1 : W1.heap.size = w.heap.size + 1 := by rw [← hW1]; simp
  have hL1 : W1.heap[w.heap.size]? = some (.loop { state := .ready, pending := none, fn, tmps := a.tmps, params := ps, assign, body, defers := r₀.defers }) := by rw [← hW1]; exact World.alloc_heap_new w _
  have hbw : Below w.heap.size w W1 := by rw [← hW1]; exact (Below.refl _ w).alloc (Nat.le_refl _) _
  refine ⟨w.heap.size, [], W1, { target := .fn (.func gf) lb, args := #[.func (.yield w.heap.size) #[] #[]] }, W1, gf,
    #[.func (.yield w.heap.size) #[] #[]] ++ lb, W1, by rw [← hW1]; exact run_enterLoop_inner hl₀ _ _ _ _ _, by simp only [resolve, hg]; simp [go_sem], fun f' hf' => by simp [Target.leads] at hf'; subst hf'; exact hFg, by simp [invoke, go_sem, eg], fun _ => h1, ?_⟩
  refine (rounds_T hfn w.heap.size w.heap.size (fun k => k = w.heap.size) W1 (fun k hk => by subst hk; omega) rfl hL1 hseq (hb0.trans (hbw.mono hn0)) hn0 hps I Ix hI hIx
    (hI _ _ _ _ _ h0 (fun k h => h.elim) (.of_below _ hbw) ⟨fun k h => h.elim, fun k hk => .inr (by subst hk; omega)⟩) Ax hAx (hassign w.heap.size) (hbody w.heap.size)).mono ?_
  rintro e W2 ⟨⟨v, rfl⟩, ho, (⟨xs, T, hS, hi, hT, hsub, hl⟩ | ⟨pre, T, c, hSp, hi, hT, hsub, hl⟩)⟩
  · refine ⟨none, _, run_endLoop (P := P) hl (by simp), ?_⟩
    have hmv := Moves.putObj T W2 w.heap.size (.loop { state := .exhausted, pending := none, fn, tmps := a.tmps, params := ps, assign, body, defers := r₀.defers }) (hsub _ rfl)
    exact hdone xs T _ (hT.more hmv.size) hS (hI.of hi hT hmv)
  · refine ⟨some c, _, run_endLoop (P := P) hl (by simp), ?_⟩
    have hmv := Moves.putObj T W2 w.heap.size (.loop { state := .exhausted, pending := some c, fn, tmps := a.tmps, params := ps, assign, body, defers := r₀.defers }) (hsub _ rfl)
    exact hstop c pre T _ (hT.more hmv.size) hSp ((hIx c).of hi hT hmv)
theorem range_TN1 {n : Nat} {g : Operand} {Q : Exit → Act → World → Prop} {a : Act} {w : World} {l₀ : Nat} {r₀ : Loop} (hro : F.round = some l₀) (hl₀ : w.heap[l₀]? = some (.loop r₀)) (h1 : 1 ≤ n) (hg : a.eval g = .func (.func gf) #[] lb) (hFg : F.fn gf) (eg : ∀ args w, (callFunc gf args).run P w = .ok (.enter gf args) w)
    (hseq : SeqT F (n - 1) P gf lb encs S Sp N n₀ w0) (hb0 : Below n₀ w0 w) (hn0 : n₀ ≤ w.heap.size) (hps : ∀ x, (encs x).size = ps.size)
    (I : List α → Bl → World → Prop) (Ix : Code → List α → Bl → World → Prop) (hI : TC w.heap.size I) (hIx : ∀ c, TC w.heap.size (Ix c)) (h0 : I [] (fun _ => False) w)
    (a₁ : α → Act)
    (hassign : ∀ (l : Nat) (x : α) (W : World) (K : Act → World → Prop), K (a₁ x) W →
      assign.wpIn (F.inRound l) (n - 1 - 1) P (Exit.then K (fun _ _ _ => False)) { tmps := (ps.zip (encs x)).foldl (fun t (p, v) => t.setIfInBounds p v) a.tmps, defers := [] } W)
    (hbody : ∀ (l : Nat) (pre : List α) (x : α) (T : Bl) (W : World), T l → InT w.heap.size T W → (∃ r, W.heap[l]? = some (.loop r)) → I pre T W → pre.length < N → Sp (pre ++ [x]) →
      body.wpIn (F.inRound l) (n - 1 - 1) P (postT n₀ I Ix (pre ++ [x]) T W) (a₁ x) W)
    (hdone : ∀ (xs : List α) (T : Bl) (W : World), InT w.heap.size T W → S xs → I xs T W → Q .normal a W)
    (hstop : ∀ (c : Code) (pre : List α) (T : Bl) (W : World), InT w.heap.size T W → Sp pre → Ix c pre T W → c.wpIn F n P Q a W) :
    (Code.rangeFunc g ps assign body).wpIn F n P Q a w :=
  range_TN hro hl₀ h1 hg hFg eg hseq hb0 hn0 hps I Ix hI hIx h0 (fun x a' _ _ => a' = a₁ x) (fun _ _ _ _ _ _ _ h _ _ _ => h) (fun l pre x T W K hi _ _ hK => hassign l x W K (hK _ _ (KeepT.refl _ _ _) hi rfl))
    (fun l pre x a' T W hl hT hr hi e hn hs => by subst e; exact hbody l pre x T W hl hT hr hi hn hs) hdone hstop
theorem SeqT.inRound {n : Nat} {w : World} (l : Nat) (h : SeqT F n P gf lb encs S Sp N n₀ w) : SeqT (F.inRound l) n P gf lb encs S Sp N n₀ w := h
theorem YieldAt.inRound {n l : Nat} {args : Array Value} {W : World} {R : Ending → World → Prop} (l' : Nat) (h : YieldAt F n P l args W R) : YieldAt (F.inRound l') n P l args W R := h
end law
end Go.Proofs.YtfegbfhkmdmheaaDoor

/- Ranging over scan.All: the iterator's contract over blocks of its own. -/
namespace Go.Proofs.YtfegbfhkmdmheaaDoor
open Go.RowKit Go.Shelf Go.Lib
attribute [local go_sem] Oper.semAt_some

theorem all_mk (s : ByteArray) (w : World) : Calls Tryd.prog 47 #[.string s] w fun e w' => e = .returned (.func (.func 76) #[] #[.pointer (some ⟨w.heap.size, 0, none⟩)]) ∧ w' = w.alloc (.cells #[.string s] 9) := by
  go_enter Tryd.func47, Tryd.ntmps47
  go_wp2
  go_ret
  exact ⟨rfl, rfl⟩
theorem KeepT.cell {n₀ : Nat} {T : Bl} {A B : World} (h : KeepT n₀ T A B) {p : Addr} {v : Value} (hp : p.block < n₀ ∨ T p.block) (hc : A.cell? p = some v) : B.cell? p = some v := by
  have hlt : p.block < A.heap.size := by
    rcases Nat.lt_or_ge p.block A.heap.size with h' | h'
    · exact h'
    · simp [World.cell?, Array.getElem?_eq_none h'] at hc
  have := h.block _ hlt hp
  unfold World.cell? at hc ⊢
  rw [this]
  exact hc
theorem tabs_size {w : World} (hT : Utf8Tabs 0 1 w) : 1 + 1 ≤ w.heap.size := by
  rcases Nat.lt_or_ge 1 w.heap.size with h | h
  · exact h
  · have := (hT.2 0 (by omega)).1
    simp [World.cell?, Array.getElem?_eq_none h] at this
theorem KeepT.u8 {n₀ : Nat} {T : Bl} {A B : World} (h : KeepT n₀ T A B) (h2 : 1 + 1 ≤ n₀) (hT : Utf8Tabs 0 1 A) : Utf8Tabs 0 1 B :=
  ⟨fun c hc => h.cell (.inl (show 0 < n₀ by omega)) (hT.1 c hc), fun i hi => ⟨h.cell (.inl (show 1 < n₀ by omega)) (hT.2 i hi).1, h.cell (.inl (show 1 < n₀ by omega)) (hT.2 i hi).2⟩⟩

set_option maxRecDepth 100000 in
set_option maxHeartbeats 1000000 in
theorem seqAll (F : Fence) (n : Nat) (h6 : F.fn 76) (hro : F.round = none) (hn : 1 ≤ n) (Bn n₀ : Nat) (s : ByteArray) (w : World) (hBn : Bn < n₀) (hc : w.cell? ⟨Bn, 0, none⟩ = some (.string s)) :
    SeqT F n Tryd.prog 76 #[.pointer (some ⟨Bn, 0, none⟩)] encPlace (fun ys => ys = places s) (fun pre => pre <+: places s) (places s).length n₀ w := by
  intro l J Jx W hW hJ hJx hY h0
  have hcW : W.cell? ⟨Bn, 0, none⟩ = some (.string s) := (hW.cell (p := ⟨Bn, 0, none⟩) hBn).trans hc
  clear hc hW
  refine callsIn_of_wp Tryd.func76 rfl h6 ?_ hro
  simp only [Tryd.ntmps76, List.size_toArray, List.length_cons, List.length_nil, Nat.reduceAdd, Nat.reduceSub, Array.replicate_succ, Array.replicate_zero, List.push_toArray, List.append_toArray, List.nil_append, List.cons_append]
  gi_wp2
  obtain ⟨Bi, hBi⟩ : ∃ Bi, W.heap.size = Bi := ⟨_, rfl⟩
  have hit0 : (W.iter s 0).heap[Bi]? = some (.stringIter s 0) := by rw [← hBi]; exact World.iter_heap W s 0
  have hsz0 : (W.iter s 0).heap.size = Bi + 1 := by rw [← hBi]; exact World.size_alloc _ _
  have hJ0 : J [] (fun k => k = Bi) (W.iter s 0) := hJ _ _ _ _ _ h0 (fun _ h => h.elim) (Moves.alloc _ _ _) ⟨fun _ h => h.elim, fun k hk => .inr (by subst hk; omega)⟩
  rw [hBi] at hJ hJx hY ⊢
  gi_loopw [3] (fun _ wr => ∃ (pos : Nat) (pre : List (Nat × Nat)), wr.heap[Bi]? = some (.stringIter s pos) ∧ Hid (pre ++ placesF s s.size pos = places s) ∧ J pre (fun k => k = Bi) wr)
    (fun _ wr => s.size - wr.iterPos Bi)
  case atStart => exact ⟨0, [], hit0, by unfold Hid; rfl, hJ0⟩
  case round =>
    obtain ⟨pos, pre, hit, hpl, hJs⟩ := hrel
    by_cases hp : pos < s.size
    · have hd2 := decode_pos s pos
      have hnx : ∀ ty, (Instr.next (.pointer (some ⟨Bi, 0, none⟩)) true ty).run Tryd.prog wr = .ok (.tuple #[.bool true, .int .i64 pos, .int .i32 (Utf8.decode s pos).1]) (wr.iterAt Bi s (pos + (Utf8.decode s pos).2)) := fun ty => Lib.run_next_any_at wr Bi s pos ty hit hp
      have hpl2 := hpl.out
      rw [placesF_step s pos hp] at hpl2
      revert hd2 hnx hpl2
      generalize Utf8.decode s pos = d
      intro hd2 hnx hpl2
      have hlen : pre.length < (places s).length := by rw [← hpl2]; simp
      have hit2 := Lib.iterAt_heap wr Bi s pos (pos + d.2) hit
      have hlt : Bi < wr.heap.size := (Array.getElem?_eq_some_iff.1 hit).1
      have hmv : Moves (fun k => k = Bi) wr (wr.iterAt Bi s (pos + d.2)) := ⟨rfl, rfl, rfl, by rw [Lib.iterAt_size]; exact Nat.le_refl _, fun i _ hne => Lib.iterAt_other wr Bi i s (pos + d.2) hne⟩
      have hJ2 : J pre (fun k => k = Bi) (wr.iterAt Bi s (pos + d.2)) := hJ.of hJs (fun k hk => by subst hk; exact ⟨Nat.le_refl _, hlt⟩) hmv
      have hpl3 : (pre ++ [(pos, d.1)]) ++ placesF s s.size (pos + d.2) = places s := by rw [← hpl2]; simp
      have Hpl := Lib.hid hpl3
      have Hpos := Lib.hid (iterPos_at hit)
      have hpre : pre ++ [(pos, d.1)] <+: places s := ⟨_, hpl3⟩
      have Hpre := Lib.hid hpre
      clear hpl hpl2 hpl3 hit hJs hpre hlt hmv
      obtain ⟨w1, hw1⟩ : ∃ w1, wr.iterAt Bi s (pos + d.2) = w1 := ⟨_, rfl⟩
      rw [hw1] at hnx hit2 hJ2
      clear hw1
      have hin1 : InT Bi (fun k => k = Bi) w1 := fun k hk => by subst hk; exact ⟨Nat.le_refl _, (Array.getElem?_eq_some_iff.1 hit2).1⟩
      obtain ⟨fn, tmps, assign, body, hy, hR⟩ := hY pre (pos, d.1) _ w1 hJ2 hin1 hlen Hpre.out
      dsimp only [encPlace] at hy
      gi_wp2
      refine hR.mono ?_
      rintro e W3 (⟨rfl, hJ3, hk3⟩ | ⟨rfl, hJx3, hk3⟩)
      · have hit3 := (hk3.block Bi (hin1 Bi rfl).2 (.inr rfl)).trans hit2
        gi_wp2
        go_roundw
        case rel => exact ⟨pos + d.2, pre ++ [(pos, d.1)], hit3, Hpl, hJ3⟩
        case measure => rw [Hpos.out, iterPos_at hit3]; omega
      · gi_wp2
        refine bodyPost_ret (results_none rfl _ _ _) rfl ?_
        exact ⟨⟨_, rfl⟩, .inr ⟨pre ++ [(pos, d.1)], _, Hpre.out, hJx3, by rw [hBi]; exact hin1.more hk3.size⟩⟩
    · have hnx : ∀ ty, (Instr.next (.pointer (some ⟨Bi, 0, none⟩)) true ty).run Tryd.prog wr = _ := fun ty => Lib.run_next_end_at wr Bi s pos ty hit hp
      have hpl2 := hpl.out
      rw [placesF_end s _ _ hp, List.append_nil] at hpl2
      have Hpl := Lib.hid hpl2
      have Hin : Hid (InT Bi (fun k => k = Bi) wr) := Lib.hid (fun k hk => by subst hk; exact ⟨Nat.le_refl _, (Array.getElem?_eq_some_iff.1 hit).1⟩)
      clear hpl hpl2 hit
      gi_wp2
      go_end0
      exact ⟨⟨_, rfl⟩, .inl ⟨pre, _, Hpl.out, hJs, by rw [hBi]; exact Hin.out⟩⟩
end Go.Proofs.YtfegbfhkmdmheaaDoor
