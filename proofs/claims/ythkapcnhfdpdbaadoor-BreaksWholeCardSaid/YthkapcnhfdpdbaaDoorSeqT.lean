/- Ranging over a function whose iterator keeps blocks of its own (cells too): the caller's law, over the set of blocks that are the iterator's. -/
import Derived.RangeFuncNested
import Derived.RangeFuncBound
import Derived.RangeFuncCalls
import Derived.RangeFuncLeaves
import Derived.Below
import Derived.Test.YthkapcnhfdpdbaaDoorRows
set_option linter.unusedSimpArgs false
set_option linter.unusedVariables false
namespace Go.Proofs.YthkapcnhfdpdbaaDoor
open Go.RowKit

/-- a set of blocks -/
abbrev Bl := Nat → Prop
/-- what turns lies in T, or is new -/
structure Moves (T : Bl) (A B : World) : Prop where
  os : B.os = A.os
  tape : B.tape = A.tape
  output : B.output = A.output
  size : A.heap.size ≤ B.heap.size
  block : ∀ k, k < A.heap.size → ¬ T k → B.heap[k]? = A.heap[k]?
/-- T' is T and perhaps some of what is new -/
def Grow (T T' : Bl) (A B : World) : Prop := (∀ k, T k → T' k) ∧ ∀ k, T' k → T k ∨ (A.heap.size ≤ k ∧ k < B.heap.size)
def InT (B : Nat) (T : Bl) (W : World) : Prop := ∀ k, T k → B ≤ k ∧ k < W.heap.size
/-- J abides what an iterator does in blocks of its own -/
def TC {β : Type} (B : Nat) (J : β → Bl → World → Prop) : Prop := ∀ s T T' A A', J s T A → InT B T A → Moves T A A' → Grow T T' A A' → J s T' A'
/-- what a round keeps: all below n₀, and what is the iterator's -/
structure KeepT (n₀ : Nat) (T : Bl) (A B : World) : Prop where
  size : A.heap.size ≤ B.heap.size
  block : ∀ k, k < A.heap.size → k < n₀ ∨ T k → B.heap[k]? = A.heap[k]?

section words
variable {T T' T'' : Bl} {A B C : World} {n₀ : Nat}
theorem Moves.refl (T : Bl) (A : World) : Moves T A A := ⟨rfl, rfl, rfl, Nat.le_refl _, fun _ _ _ => rfl⟩
theorem Moves.mono (h : Moves T A B) (hT : ∀ k, T k → T' k) : Moves T' A B := ⟨h.os, h.tape, h.output, h.size, fun k hk hn => h.block k hk (fun e => hn (hT k e))⟩
theorem Moves.of_below (T : Bl) (h : Below A.heap.size A B) : Moves T A B := ⟨h.os, h.tape, h.output, h.size, fun k hk _ => h.block k hk⟩
theorem Moves.trans (h : Moves T A B) (g : Grow T T' A B) (k : Moves T' B C) : Moves T A C :=
  ⟨k.os.trans h.os, k.tape.trans h.tape, k.output.trans h.output, Nat.le_trans h.size k.size, fun i hi hn =>
    (k.block i (Nat.lt_of_lt_of_le hi h.size) (fun e => (g.2 i e).elim hn (fun e => by omega))).trans (h.block i hi hn)⟩
theorem Moves.trans' (h : Moves T A B) (k : Moves T B C) : Moves T A C := h.trans ⟨fun _ h => h, fun _ h => .inl h⟩ k
theorem Moves.putObj (T : Bl) (A : World) (l : Nat) (o : Obj) (hl : T l) : Moves T A (A.putObj l o) := ⟨rfl, rfl, rfl, by simp, fun k _ hn => World.putObj_heap_other (fun e => hn (e ▸ hl))⟩
theorem Moves.alloc (T : Bl) (A : World) (o : Obj) : Moves T A (A.alloc o) := .of_below T ((Below.refl _ A).alloc (Nat.le_refl _) o)
theorem Grow.same (T : Bl) (A B : World) : Grow T T A B := ⟨fun _ h => h, fun _ h => .inl h⟩
theorem KeepT.refl (n₀ : Nat) (T : Bl) (A : World) : KeepT n₀ T A A := ⟨Nat.le_refl _, fun _ _ _ => rfl⟩
theorem KeepT.trans (h : KeepT n₀ T A B) (k : KeepT n₀ T B C) : KeepT n₀ T A C := ⟨Nat.le_trans h.size k.size, fun i hi hn => (k.block i (Nat.lt_of_lt_of_le hi h.size) hn).trans (h.block i hi hn)⟩
theorem KeepT.less (h : KeepT n₀ T A B) (hT : ∀ k, T' k → T k) : KeepT n₀ T' A B := ⟨h.size, fun k hk hn => h.block k hk (hn.imp id (hT k))⟩
theorem KeepT.of_below (n₀ : Nat) (T : Bl) (h : Below A.heap.size A B) : KeepT n₀ T A B := ⟨h.size, fun k hk _ => h.block k hk⟩
theorem KeepT.putObj (n₀ : Nat) (T : Bl) (A : World) (l : Nat) (o : Obj) (h0 : n₀ ≤ l) (hl : ¬ T l) : KeepT n₀ T A (A.putObj l o) := ⟨by simp, fun k _ hn => World.putObj_heap_other (fun e => by subst e; exact hn.elim (fun h => by omega) hl)⟩
theorem TC.of {β : Type} {B : Nat} {J : β → Bl → World → Prop} (h : TC B J) {s : β} {T : Bl} {A A' : World} (hs : J s T A) (hT : InT B T A) (hm : Moves T A A') : J s T A' := h s T T A A' hs hT hm (Grow.same _ _ _)
theorem InT.more {B : Nat} (h : InT B T A) (hs : A.heap.size ≤ C.heap.size) : InT B T C := fun k hk => ⟨(h k hk).1, Nat.lt_of_lt_of_le (h k hk).2 hs⟩
end words

/-- AN ITERATOR's CONTRACT -/
def SeqT {α : Type} (F : Fence) (n : Nat) (P : Program) (g : Nat) (lb : Array Value) (encs : α → Array Value) (S Sp : List α → Prop) (N n₀ : Nat) (w : World) : Prop :=
  ∀ (l : Nat) (J Jx : List α → Bl → World → Prop) (W : World), Below n₀ w W → TC W.heap.size J → TC W.heap.size Jx →
    (∀ pre x T W1, J pre T W1 → InT W.heap.size T W1 → pre.length < N → Sp (pre ++ [x]) → YieldAt F (n - 1) P l (encs x) W1 fun e W' =>
      (e = .returned (.bool true) ∧ J (pre ++ [x]) T W' ∧ KeepT n₀ T W1 W') ∨ (e = .returned (.bool false) ∧ Jx (pre ++ [x]) T W' ∧ KeepT n₀ T W1 W')) →
    J [] (fun _ => False) W →
    CallsIn F n P g (#[.func (.yield l) #[] #[]] ++ lb) W fun e W' => (∃ v, e = .returned v) ∧ ((∃ xs T, S xs ∧ J xs T W' ∧ InT W.heap.size T W') ∨ (∃ pre T, Sp pre ∧ Jx pre T W' ∧ InT W.heap.size T W'))

/-- HOW THE BODY OF A ROUND MAY BE LEFT -/
def postT {α : Type} (n₀ : Nat) (I : List α → Bl → World → Prop) (Ix : Code → List α → Bl → World → Prop) (xs : List α) (T : Bl) (W : World) : Exit → Act → World → Prop
  | .normal, _, W' => KeepT n₀ T W W' ∧ I xs T W'
  | .ret, _, W' => KeepT n₀ T W W' ∧ Ix .ret xs T W'
  | .exit id, _, W' => KeepT n₀ T W W' ∧ Ix (.exit id) xs T W'
  | .goto t, _, W' => KeepT n₀ T W W' ∧ Ix (.goto t) xs T W'
  | .panic _, _, _ => False
  | .outgrown, _, _ => False

section law
variable {F : Fence} {m : Nat} {P : Program} {α : Type} {ps : Array Tmp} {assign body : Code} {gf : Nat} {lb : Array Value} {encs : α → Array Value} {S Sp : List α → Prop} {N n₀ : Nat} {w0 : World}

/-- the rounds, once the loop's record L lies in W1; 'bk': the blocks of book-keeping -/
theorem rounds_T {fn : FuncId} (hFn : F.fn fn) {tm : Array Value} {dd : Nat} (L B : Nat) (bk : Bl) (W1 : World) (hbk : InT B bk W1) (hbL : bk L)
    (hL1 : W1.heap[L]? = some (.loop { state := .ready, pending := none, fn, tmps := tm, params := ps, assign, body, defers := dd }))
    (hseq : SeqT F m P gf lb encs S Sp N n₀ w0) (hb0 : Below n₀ w0 W1) (hn0 : n₀ ≤ B) (hps : ∀ x, (encs x).size = ps.size)
    (I : List α → Bl → World → Prop) (Ix : Code → List α → Bl → World → Prop) (hI : TC B I) (hIx : ∀ c, TC B (Ix c)) (h0 : I [] bk W1)
    (Ax : α → Act → Bl → World → Prop) (hAx : ∀ x a', TC B (fun (_ : Unit) => Ax x a'))
    (hassign : ∀ (pre : List α) (x : α) (T : Bl) (W : World) (K : Act → World → Prop), I pre T W → InT B T W → T L → (∀ a' W', KeepT n₀ T W W' → I pre T W' → Ax x a' T W' → K a' W') →
      assign.wpIn (F.inRound L) (m - 1) P (Exit.then K (fun _ _ _ => False)) { tmps := (ps.zip (encs x)).foldl (fun t (p, v) => t.setIfInBounds p v) tm, defers := [] } W)
    (hbody : ∀ (pre : List α) (x : α) (a' : Act) (T : Bl) (W : World), T L → InT B T W → (∃ r, W.heap[L]? = some (.loop r)) → I pre T W → Ax x a' T W → pre.length < N → Sp (pre ++ [x]) →
      body.wpIn (F.inRound L) (m - 1) P (postT n₀ I Ix (pre ++ [x]) T W) a' W) :
    CallsIn F m P gf (#[.func (.yield L) #[] #[]] ++ lb) W1 fun e W2 => (∃ v, e = .returned v) ∧ (∀ k, bk k → k ≠ L → W2.heap[k]? = W1.heap[k]?) ∧
      ((∃ xs T, S xs ∧ I xs T W2 ∧ InT B T W2 ∧ (∀ k, bk k → T k) ∧ W2.heap[L]? = some (.loop { state := .ready, pending := none, fn, tmps := tm, params := ps, assign, body, defers := dd })) ∨
       (∃ pre T c, Sp pre ∧ Ix c pre T W2 ∧ InT B T W2 ∧ (∀ k, bk k → T k) ∧ W2.heap[L]? = some (.loop { state := .done, pending := some c, fn, tmps := tm, params := ps, assign, body, defers := dd }))) := by
  obtain ⟨rec, hrec⟩ : ∃ rec : LoopState → Option Code → Loop, rec = fun st pe => { state := st, pending := pe, fn, tmps := tm, params := ps, assign, body, defers := dd } := ⟨_, rfl⟩
  have hL : W1.heap[L]? = some (.loop (rec .ready none)) := by rw [hrec]; exact hL1
  have hB1 : ∀ k, bk k → B ≤ k ∧ k < W1.heap.size := hbk
  have hin : ∀ {T : Bl} {W : World}, InT W1.heap.size T W → W1.heap.size ≤ W.heap.size → InT B (fun k => bk k ∨ T k) W := by
    intro T W hT hs k hk
    have := hB1 L hbL
    rcases hk with hk | hk
    · have := hB1 k hk; omega
    · have := hT k hk; omega
  have hmv : ∀ {T : Bl} {A A' : World}, Moves T A A' → Moves (fun k => bk k ∨ T k) A A' := fun h => h.mono fun _ => .inr
  have hgr : ∀ {T T' : Bl} {A A' : World}, Grow T T' A A' → Grow (fun k => bk k ∨ T k) (fun k => bk k ∨ T' k) A A' := fun h =>
    ⟨fun k hk => hk.imp id (h.1 k), fun k hk => hk.elim (fun hk => .inl (.inl hk)) (fun hk => (h.2 k hk).imp .inr id)⟩
  have hstay : ∀ {T : Bl} {A A' : World}, Moves T A A' → InT W1.heap.size T A → W1.heap.size ≤ A.heap.size → ∀ k, bk k → A'.heap[k]? = A.heap[k]? := fun h hT hs k hk =>
    h.block k (Nat.lt_of_lt_of_le (hB1 k hk).2 hs) (fun e => by have := hT k e; have := hB1 k hk; omega)
  refine (hseq L (fun pre T W => I pre (fun k => bk k ∨ T k) W ∧ W.heap[L]? = some (.loop (rec .ready none)) ∧ (∀ k, bk k → k ≠ L → W.heap[k]? = W1.heap[k]?) ∧ W1.heap.size ≤ W.heap.size)
    (fun pre T W => ∃ c, Ix c pre (fun k => bk k ∨ T k) W ∧ W.heap[L]? = some (.loop (rec .done (some c))) ∧ (∀ k, bk k → k ≠ L → W.heap[k]? = W1.heap[k]?) ∧ W1.heap.size ≤ W.heap.size) W1 hb0 ?_ ?_ ?_
    ⟨hI _ _ _ _ _ h0 hbk (Moves.refl _ _) ⟨fun k h => .inl h, fun k h => .inl (h.elim id False.elim)⟩, hL, fun _ _ _ => rfl, Nat.le_refl _⟩).mono ?_
  · rintro s T T' A A' ⟨hi, hl, ho, hs⟩ hT hm hg
    exact ⟨hI _ _ _ _ _ hi (hin hT hs) (hmv hm) (hgr hg), (hstay hm hT hs L hbL).trans hl, fun k hk hne => (hstay hm hT hs k hk).trans (ho k hk hne), Nat.le_trans hs hm.size⟩
  · rintro s T T' A A' ⟨c, hi, hl, ho, hs⟩ hT hm hg
    exact ⟨c, hIx c _ _ _ _ _ hi (hin hT hs) (hmv hm) (hgr hg), (hstay hm hT hs L hbL).trans hl, fun k hk hne => (hstay hm hT hs k hk).trans (ho k hk hne), Nat.le_trans hs hm.size⟩
  · rintro pre x T W ⟨hi, hl, ho, hs⟩ hT hlen hsp
    have hTb : InT B (fun k => bk k ∨ T k) W := hin hT hs
    have hnL : ¬ T L := fun e => by have := hT L e; have := hB1 L hbL; omega
    have hy := run_yield (P := P) (args := encs x) hl (by rw [hrec]; exact hps x)
    rw [hrec] at hy
    refine ⟨fn, _, assign, body, hy, roundIn_of_wpIn hFn (hassign pre x _ W _ hi hTb (.inl hbL) ?_)⟩
    intro a' Wa hka hia hax
    have hla : Wa.heap[L]? = some (.loop (rec .ready none)) := (hka.block L (hTb L (.inl hbL)).2 (.inr (.inl hbL))).trans hl
    have hsa : W1.heap.size ≤ Wa.heap.size := Nat.le_trans hs hka.size
    have hTa : InT B (fun k => bk k ∨ T k) Wa := hTb.more hka.size
    refine ⟨_, run_beginRound hla (by rw [hrec]), ?_⟩
    have hlt : L < Wa.heap.size := (hTa L (.inl hbL)).2
    have hmb : Moves (fun k => bk k ∨ T k) Wa (Wa.putObj L (.loop { rec .ready none with state := .busy })) := Moves.putObj _ _ _ _ (.inl hbL)
    have hlb : (Wa.putObj L (.loop { rec .ready none with state := .busy })).heap[L]? = some (.loop { rec .ready none with state := .busy }) := World.putObj_heap_same hlt
    have hsb : W1.heap.size ≤ (Wa.putObj L (.loop { rec .ready none with state := .busy })).heap.size := by simpa using hsa
    have hob : ∀ k, bk k → k ≠ L → (Wa.putObj L (.loop { rec .ready none with state := .busy })).heap[k]? = W1.heap[k]? := fun k hk hne =>
      (World.putObj_heap_other hne).trans ((hka.block k (hTb k (.inl hk)).2 (.inr (.inl hk))).trans (ho k hk hne))
    have hkb : KeepT n₀ T W (Wa.putObj L (.loop { rec .ready none with state := .busy })) := (hka.less fun _ => .inr).trans (KeepT.putObj _ _ _ _ _ (Nat.le_trans hn0 (hB1 L hbL).1) hnL)
    have hib := hI.of hia hTa hmb
    have haxb := (hAx x a').of (s := ()) hax hTa hmb
    have hTbb : InT B (fun k => bk k ∨ T k) (Wa.putObj L (.loop { rec .ready none with state := .busy })) := hTa.more hmb.size
    revert hlb hsb hob hkb hib haxb hTbb
    generalize Wa.putObj L (.loop { rec .ready none with state := .busy }) = Wb
    intro hlb hsb hob hkb hib haxb hTbb
    refine wpIn_mono (hbody pre x a' _ Wb (.inl hbL) hTbb ⟨_, hlb⟩ hib haxb hlen hsp) ?_
    have fin : ∀ (jump : Option Code) (W3 : World), KeepT n₀ (fun k => bk k ∨ T k) Wb W3 →
        (Instr.endRound L jump).run P W3 = .ok (.bool jump.isNone) (W3.putObj L (.loop (rec (if jump.isNone then .ready else .done) jump))) ∧
        (W3.putObj L (.loop (rec (if jump.isNone then .ready else .done) jump))).heap[L]? = some (.loop (rec (if jump.isNone then .ready else .done) jump)) ∧
        (∀ k, bk k → k ≠ L → (W3.putObj L (.loop (rec (if jump.isNone then .ready else .done) jump))).heap[k]? = W1.heap[k]?) ∧
        W1.heap.size ≤ (W3.putObj L (.loop (rec (if jump.isNone then .ready else .done) jump))).heap.size ∧
        Moves (fun k => bk k ∨ T k) W3 (W3.putObj L (.loop (rec (if jump.isNone then .ready else .done) jump))) ∧
        InT B (fun k => bk k ∨ T k) W3 ∧ KeepT n₀ T W (W3.putObj L (.loop (rec (if jump.isNone then .ready else .done) jump))) := fun jump W3 hk3 => by
      have hl3 : W3.heap[L]? = some (.loop { rec .ready none with state := .busy }) := (hk3.block L (hTbb L (.inl hbL)).2 (.inr (.inl hbL))).trans hlb
      have hr := run_endRound (P := P) jump hl3
      refine ⟨by rw [hrec] at hr ⊢; exact hr, World.putObj_heap_same (Array.getElem?_eq_some_iff.1 hl3).1, fun k hk hne => (World.putObj_heap_other hne).trans ((hk3.block k (hTbb k (.inl hk)).2 (.inr (.inl hk))).trans (hob k hk hne)), ?_, Moves.putObj _ _ _ _ (.inl hbL), hTbb.more hk3.size, ?_⟩
      · have := hk3.size; simp; omega
      · exact hkb.trans ((hk3.less fun _ => .inr).trans (KeepT.putObj _ _ _ _ _ (Nat.le_trans hn0 (hB1 L hbL).1) hnL))
    rintro e a3 W3 hp
    cases e with
    | normal =>
      obtain ⟨hk3, hi3⟩ := hp
      obtain ⟨hr, hl4, ho4, hs4, hm4, hT4, hk4⟩ := fin none W3 hk3
      exact ⟨_, _, hr, .inl ⟨rfl, ⟨hI.of hi3 hT4 hm4, hl4, ho4, hs4⟩, hk4⟩⟩
    | ret =>
      obtain ⟨hk3, hi3⟩ := hp
      obtain ⟨hr, hl4, ho4, hs4, hm4, hT4, hk4⟩ := fin (some .ret) W3 hk3
      exact ⟨_, _, hr, .inr ⟨rfl, ⟨.ret, (hIx _).of hi3 hT4 hm4, hl4, ho4, hs4⟩, hk4⟩⟩
    | exit id =>
      obtain ⟨hk3, hi3⟩ := hp
      obtain ⟨hr, hl4, ho4, hs4, hm4, hT4, hk4⟩ := fin (some (.exit id)) W3 hk3
      exact ⟨_, _, hr, .inr ⟨rfl, ⟨.exit id, (hIx _).of hi3 hT4 hm4, hl4, ho4, hs4⟩, hk4⟩⟩
    | goto t =>
      obtain ⟨hk3, hi3⟩ := hp
      obtain ⟨hr, hl4, ho4, hs4, hm4, hT4, hk4⟩ := fin (some (.goto t)) W3 hk3
      exact ⟨_, _, hr, .inr ⟨rfl, ⟨.goto t, (hIx _).of hi3 hT4 hm4, hl4, ho4, hs4⟩, hk4⟩⟩
    | panic ch => exact hp.elim
    | outgrown => exact hp.elim
  · rintro e W2 ⟨hv, (⟨xs, T, hS, ⟨hi, hl, ho, hs⟩, hT⟩ | ⟨pre, T, hSp, ⟨c, hi, hl, ho, hs⟩, hT⟩)⟩
    · exact ⟨hv, ho, .inl ⟨xs, _, hS, hi, hin hT hs, fun _ => .inl, by rw [hrec] at hl; exact hl⟩⟩
    · exact ⟨hv, ho, .inr ⟨pre, _, c, hSp, hi, hin hT hs, fun _ => .inl, by rw [hrec] at hl; exact hl⟩⟩

/-- THE CALLER's LAW, at a loop that stands in no round. -/
theorem range_T {n : Nat} {g : Operand} {Q : Exit → Act → World → Prop} {a : Act} {w : World} (hro : F.round = none) (h1 : 1 ≤ n) (hg : a.eval g = .func (.func gf) #[] lb) (hFg : F.fn gf) (eg : ∀ args w, (callFunc gf args).run P w = .ok (.enter gf args) w)
    (hseq : SeqT F (n - 1) P gf lb encs S Sp N n₀ w0) (hb0 : Below n₀ w0 w) (hn0 : n₀ ≤ w.heap.size) (hps : ∀ x, (encs x).size = ps.size)
    (I : List α → Bl → World → Prop) (Ix : Code → List α → Bl → World → Prop) (hI : TC w.heap.size I) (hIx : ∀ c, TC w.heap.size (Ix c)) (h0 : I [] (fun _ => False) w)
    (Ax : α → Act → Bl → World → Prop) (hAx : ∀ x a', TC w.heap.size (fun (_ : Unit) => Ax x a'))
    (hassign : ∀ (l : Nat) (pre : List α) (x : α) (T : Bl) (W : World) (K : Act → World → Prop), I pre T W → InT w.heap.size T W → T l → (∀ a' W', KeepT n₀ T W W' → I pre T W' → Ax x a' T W' → K a' W') →
      assign.wpIn (F.inRound l) (n - 1 - 1) P (Exit.then K (fun _ _ _ => False)) { tmps := (ps.zip (encs x)).foldl (fun t (p, v) => t.setIfInBounds p v) a.tmps, defers := [] } W)
    (hbody : ∀ (l : Nat) (pre : List α) (x : α) (a' : Act) (T : Bl) (W : World), T l → InT w.heap.size T W → (∃ r, W.heap[l]? = some (.loop r)) → I pre T W → Ax x a' T W → pre.length < N → Sp (pre ++ [x]) →
      body.wpIn (F.inRound l) (n - 1 - 1) P (postT n₀ I Ix (pre ++ [x]) T W) a' W)
    (hdone : ∀ (D : Nat) (xs : List α) (T : Bl) (W : World), T D → InT w.heap.size T W → S xs → I xs T W → W.heap[D]? = some (.deferred (some [])) → Q .normal { a with defers := { target := .collected D, args := #[] } :: a.defers } W)
    (hstop : ∀ (D : Nat) (c : Code) (pre : List α) (T : Bl) (W : World), T D → InT w.heap.size T W → Sp pre → Ix c pre T W → W.heap[D]? = some (.deferred (some [])) → c.wpIn F n P Q { a with defers := { target := .collected D, args := #[] } :: a.defers } W) :
    (Code.rangeFunc g ps assign body).wpIn F n P Q a w := by
  refine wpIn_rangeFunc ?_
  intro fn hfn
  rw [hro]
  obtain ⟨W1, hW1⟩ : ∃ W1, (w.alloc (.deferred (some []))).alloc (.loop { state := .ready, pending := none, fn, tmps := a.tmps, params := ps, assign, body, defers := w.heap.size }) = W1 := ⟨_, rfl⟩
  have hs1 : W1.heap.size = w.heap.size + 2 := by rw [← hW1]; simp
  have hL1 : W1.heap[w.heap.size + 1]? = some (.loop { state := .ready, pending := none, fn, tmps := a.tmps, params := ps, assign, body, defers := w.heap.size }) := by
    rw [← hW1]
    have := World.alloc_heap_new (w.alloc (.deferred (some []))) (.loop { state := .ready, pending := none, fn, tmps := a.tmps, params := ps, assign, body, defers := w.heap.size })
    rwa [World.size_alloc] at this
  have hD1 : W1.heap[w.heap.size]? = some (.deferred (some [])) := by
    rw [← hW1]
    exact (Below.heap_alloc _ _ _ (by simp)).trans (World.alloc_heap_new w _)
  have hbw : Below w.heap.size w W1 := by rw [← hW1]; exact ((Below.refl _ w).alloc (Nat.le_refl _) _).alloc (by simp) _
  refine ⟨w.heap.size + 1, [{ target := .collected w.heap.size, args := #[] }], W1, { target := .fn (.func gf) lb, args := #[.func (.yield (w.heap.size + 1)) #[] #[]] }, W1, gf,
    #[.func (.yield (w.heap.size + 1)) #[] #[]] ++ lb, W1, by rw [← hW1]; exact run_enterLoop_outer _ _ _ _ _, by simp only [resolve, hg]; simp [go_sem], fun f' hf' => by simp [Target.leads] at hf'; subst hf'; exact hFg, by simp [invoke, go_sem, eg], fun _ => h1, ?_⟩
  refine (rounds_T hfn (w.heap.size + 1) w.heap.size (fun k => k = w.heap.size ∨ k = w.heap.size + 1) W1 (fun k hk => by rcases hk with rfl | rfl <;> omega) (.inr rfl) hL1 hseq (hb0.trans (hbw.mono hn0)) hn0 hps I Ix hI hIx
    (hI _ _ _ _ _ h0 (fun k h => h.elim) (.of_below _ hbw) ⟨fun k h => h.elim, fun k hk => .inr (by rcases hk with rfl | rfl <;> omega)⟩) Ax hAx (hassign (w.heap.size + 1)) (hbody (w.heap.size + 1))).mono ?_
  rintro e W2 ⟨⟨v, rfl⟩, ho, (⟨xs, T, hS, hi, hT, hsub, hl⟩ | ⟨pre, T, c, hSp, hi, hT, hsub, hl⟩)⟩
  · refine ⟨none, _, run_endLoop (P := P) hl (by simp), ?_⟩
    have hmv := Moves.putObj T W2 (w.heap.size + 1) (.loop { state := .exhausted, pending := none, fn, tmps := a.tmps, params := ps, assign, body, defers := w.heap.size }) (hsub _ (.inr rfl))
    exact hdone w.heap.size xs T _ (hsub _ (.inl rfl)) (hT.more hmv.size) hS (hI.of hi hT hmv) ((World.putObj_heap_other (by omega)).trans ((ho _ (.inl rfl) (by omega)).trans hD1))
  · refine ⟨some c, _, run_endLoop (P := P) hl (by simp), ?_⟩
    have hmv := Moves.putObj T W2 (w.heap.size + 1) (.loop { state := .exhausted, pending := some c, fn, tmps := a.tmps, params := ps, assign, body, defers := w.heap.size }) (hsub _ (.inr rfl))
    exact hstop w.heap.size c pre T _ (hsub _ (.inl rfl)) (hT.more hmv.size) hSp ((hIx c).of hi hT hmv) ((World.putObj_heap_other (by omega)).trans ((ho _ (.inl rfl) (by omega)).trans hD1))

/-- the law where the assignment lays no block -/
theorem range_T1 {n : Nat} {g : Operand} {Q : Exit → Act → World → Prop} {a : Act} {w : World} (hro : F.round = none) (h1 : 1 ≤ n) (hg : a.eval g = .func (.func gf) #[] lb) (hFg : F.fn gf) (eg : ∀ args w, (callFunc gf args).run P w = .ok (.enter gf args) w)
    (hseq : SeqT F (n - 1) P gf lb encs S Sp N n₀ w0) (hb0 : Below n₀ w0 w) (hn0 : n₀ ≤ w.heap.size) (hps : ∀ x, (encs x).size = ps.size)
    (I : List α → Bl → World → Prop) (Ix : Code → List α → Bl → World → Prop) (hI : TC w.heap.size I) (hIx : ∀ c, TC w.heap.size (Ix c)) (h0 : I [] (fun _ => False) w)
    (a₁ : α → Act)
    (hassign : ∀ (l : Nat) (x : α) (W : World) (K : Act → World → Prop), K (a₁ x) W →
      assign.wpIn (F.inRound l) (n - 1 - 1) P (Exit.then K (fun _ _ _ => False)) { tmps := (ps.zip (encs x)).foldl (fun t (p, v) => t.setIfInBounds p v) a.tmps, defers := [] } W)
    (hbody : ∀ (l : Nat) (pre : List α) (x : α) (T : Bl) (W : World), T l → InT w.heap.size T W → (∃ r, W.heap[l]? = some (.loop r)) → I pre T W → pre.length < N → Sp (pre ++ [x]) →
      body.wpIn (F.inRound l) (n - 1 - 1) P (postT n₀ I Ix (pre ++ [x]) T W) (a₁ x) W)
    (hdone : ∀ (D : Nat) (xs : List α) (T : Bl) (W : World), T D → InT w.heap.size T W → S xs → I xs T W → W.heap[D]? = some (.deferred (some [])) → Q .normal { a with defers := { target := .collected D, args := #[] } :: a.defers } W)
    (hstop : ∀ (D : Nat) (c : Code) (pre : List α) (T : Bl) (W : World), T D → InT w.heap.size T W → Sp pre → Ix c pre T W → W.heap[D]? = some (.deferred (some [])) → c.wpIn F n P Q { a with defers := { target := .collected D, args := #[] } :: a.defers } W) :
    (Code.rangeFunc g ps assign body).wpIn F n P Q a w :=
  range_T hro h1 hg hFg eg hseq hb0 hn0 hps I Ix hI hIx h0 (fun x a' _ _ => a' = a₁ x) (fun _ _ _ _ _ _ _ h _ _ _ => h) (fun l pre x T W K hi _ _ hK => hassign l x W K (hK _ _ (KeepT.refl _ _ _) hi rfl))
    (fun l pre x a' T W hl hT hr hi e hn hs => by subst e; exact hbody l pre x T W hl hT hr hi hn hs) hdone hstop

/-- THE CALLER's LAW, at a loop that stands in a round of loop l₀. -/
theorem range_TN {n : Nat} {g : Operand} {Q : Exit → Act → World → Prop} {a : Act} {w : World} {l₀ : Nat} {r₀ : Loop} (hro : F.round = some l₀) (hl₀ : w.heap[l₀]? = some (.loop r₀)) (h1 : 1 ≤ n) (hg : a.eval g = .func (.func gf) #[] lb) (hFg : F.fn gf) (eg : ∀ args w, (callFunc gf args).run P w = .ok (.enter gf args) w)
    (hseq : SeqT F (n - 1) P gf lb encs S Sp N n₀ w0) (hb0 : Below n₀ w0 w) (hn0 : n₀ ≤ w.heap.size) (hps : ∀ x, (encs x).size = ps.size)
    (I : List α → Bl → World → Prop) (Ix : Code → List α → Bl → World → Prop) (hI : TC w.heap.size I) (hIx : ∀ c, TC w.heap.size (Ix c)) (h0 : I [] (fun _ => False) w)
    (Ax : α → Act → Bl → World → Prop) (hAx : ∀ x a', TC w.heap.size (fun (_ : Unit) => Ax x a'))
    (hassign : ∀ (l : Nat) (pre : List α) (x : α) (T : Bl) (W : World) (K : Act → World → Prop), I pre T W → InT w.heap.size T W → T l → (∀ a' W', KeepT n₀ T W W' → I pre T W' → Ax x a' T W' → K a' W') →
      assign.wpIn (F.inRound l) (n - 1 - 1) P (Exit.then K (fun _ _ _ => False)) { tmps := (ps.zip (encs x)).foldl (fun t (p, v) => t.setIfInBounds p v) a.tmps, defers := [] } W)
    (hbody : ∀ (l : Nat) (pre : List α) (x : α) (a' : Act) (T : Bl) (W : World), T l → InT w.heap.size T W → (∃ r, W.heap[l]? = some (.loop r)) → I pre T W → Ax x a' T W → pre.length < N → Sp (pre ++ [x]) →
      body.wpIn (F.inRound l) (n - 1 - 1) P (postT n₀ I Ix (pre ++ [x]) T W) a' W)
    (hdone : ∀ (xs : List α) (T : Bl) (W : World), InT w.heap.size T W → S xs → I xs T W → Q .normal a W)
    (hstop : ∀ (c : Code) (pre : List α) (T : Bl) (W : World), InT w.heap.size T W → Sp pre → Ix c pre T W → c.wpIn F n P Q a W) :
    (Code.rangeFunc g ps assign body).wpIn F n P Q a w := by
  refine wpIn_rangeFunc ?_
  intro fn hfn
  rw [hro]
  obtain ⟨W1, hW1⟩ : ∃ W1, w.alloc (.loop { state := .ready, pending := none, fn, tmps := a.tmps, params := ps, assign, body, defers := r₀.defers }) = W1 := ⟨_, rfl⟩
  have hs1 : W1.heap.size = w.heap.size + 1 := by rw [← hW1]; simp
  have hL1 : W1.heap[w.heap.size]? = some (.loop { state := .ready, pending := none, fn, tmps := a.tmps, params := ps, assign, body, defers := r₀.defers }) := by rw [← hW1]; exact World.alloc_heap_new w _
  have hbw : Below w.heap.size w W1 := by rw [← hW1]; exact (Below.refl _ w).alloc (Nat.le_refl _) _
  refine ⟨w.heap.size, [], W1, { target := .fn (.func gf) lb, args := #[.func (.yield w.heap.size) #[] #[]] }, W1, gf,
    #[.func (.yield w.heap.size) #[] #[]] ++ lb, W1, by rw [← hW1]; exact run_enterLoop_inner hl₀ _ _ _ _ _, by simp only [resolve, hg]; simp [go_sem], fun f' hf' => by simp [Target.leads] at hf'; subst hf'; exact hFg, by simp [invoke, go_sem, eg], fun _ => h1, ?_⟩
  refine (rounds_T hfn w.heap.size w.heap.size (fun k => k = w.heap.size) W1 (fun k hk => by subst hk; omega) rfl hL1 hseq (hb0.trans (hbw.mono hn0)) hn0 hps I Ix hI hIx
    (hI _ _ _ _ _ h0 (fun k h => h.elim) (.of_below _ hbw) ⟨fun k h => h.elim, fun k hk => .inr (by subst hk; omega)⟩) Ax hAx (hassign w.heap.size) (hbody w.heap.size)).mono ?_
  rintro e W2 ⟨⟨v, rfl⟩, ho, (⟨xs, T, hS, hi, hT, hsub, hl⟩ | ⟨pre, T, c, hSp, hi, hT, hsub, hl⟩)⟩
  · refine ⟨none, _, run_endLoop (P := P) hl (by simp), ?_⟩
    have hmv := Moves.putObj T W2 w.heap.size (.loop { state := .exhausted, pending := none, fn, tmps := a.tmps, params := ps, assign, body, defers := r₀.defers }) (hsub _ rfl)
    exact hdone xs T _ (hT.more hmv.size) hS (hI.of hi hT hmv)
  · refine ⟨some c, _, run_endLoop (P := P) hl (by simp), ?_⟩
    have hmv := Moves.putObj T W2 w.heap.size (.loop { state := .exhausted, pending := some c, fn, tmps := a.tmps, params := ps, assign, body, defers := r₀.defers }) (hsub _ rfl)
    exact hstop c pre T _ (hT.more hmv.size) hSp ((hIx c).of hi hT hmv)
theorem range_TN1 {n : Nat} {g : Operand} {Q : Exit → Act → World → Prop} {a : Act} {w : World} {l₀ : Nat} {r₀ : Loop} (hro : F.round = some l₀) (hl₀ : w.heap[l₀]? = some (.loop r₀)) (h1 : 1 ≤ n) (hg : a.eval g = .func (.func gf) #[] lb) (hFg : F.fn gf) (eg : ∀ args w, (callFunc gf args).run P w = .ok (.enter gf args) w)
    (hseq : SeqT F (n - 1) P gf lb encs S Sp N n₀ w0) (hb0 : Below n₀ w0 w) (hn0 : n₀ ≤ w.heap.size) (hps : ∀ x, (encs x).size = ps.size)
    (I : List α → Bl → World → Prop) (Ix : Code → List α → Bl → World → Prop) (hI : TC w.heap.size I) (hIx : ∀ c, TC w.heap.size (Ix c)) (h0 : I [] (fun _ => False) w)
    (a₁ : α → Act)
    (hassign : ∀ (l : Nat) (x : α) (W : World) (K : Act → World → Prop), K (a₁ x) W →
      assign.wpIn (F.inRound l) (n - 1 - 1) P (Exit.then K (fun _ _ _ => False)) { tmps := (ps.zip (encs x)).foldl (fun t (p, v) => t.setIfInBounds p v) a.tmps, defers := [] } W)
    (hbody : ∀ (l : Nat) (pre : List α) (x : α) (T : Bl) (W : World), T l → InT w.heap.size T W → (∃ r, W.heap[l]? = some (.loop r)) → I pre T W → pre.length < N → Sp (pre ++ [x]) →
      body.wpIn (F.inRound l) (n - 1 - 1) P (postT n₀ I Ix (pre ++ [x]) T W) (a₁ x) W)
    (hdone : ∀ (xs : List α) (T : Bl) (W : World), InT w.heap.size T W → S xs → I xs T W → Q .normal a W)
    (hstop : ∀ (c : Code) (pre : List α) (T : Bl) (W : World), InT w.heap.size T W → Sp pre → Ix c pre T W → c.wpIn F n P Q a W) :
    (Code.rangeFunc g ps assign body).wpIn F n P Q a w :=
  range_TN hro hl₀ h1 hg hFg eg hseq hb0 hn0 hps I Ix hI hIx h0 (fun x a' _ _ => a' = a₁ x) (fun _ _ _ _ _ _ _ h _ _ _ => h) (fun l pre x T W K hi _ _ hK => hassign l x W K (hK _ _ (KeepT.refl _ _ _) hi rfl))
    (fun l pre x a' T W hl hT hr hi e hn hs => by subst e; exact hbody l pre x T W hl hT hr hi hn hs) hdone hstop
theorem SeqT.inRound {n : Nat} {w : World} (l : Nat) (h : SeqT F n P gf lb encs S Sp N n₀ w) : SeqT (F.inRound l) n P gf lb encs S Sp N n₀ w := h
theorem YieldAt.inRound {n l : Nat} {args : Array Value} {W : World} {R : Ending → World → Prop} (l' : Nat) (h : YieldAt F n P l args W R) : YieldAt (F.inRound l') n P l args W R := h
end law
end Go.Proofs.YthkapcnhfdpdbaaDoor
