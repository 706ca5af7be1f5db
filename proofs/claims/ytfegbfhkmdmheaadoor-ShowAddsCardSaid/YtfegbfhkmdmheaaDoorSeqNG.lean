/- Ranging over a function whose iterator keeps blocks of its own, what a round keeps being any set of blocks: the caller's law. -/
import Derived.Test.YtfegbfhkmdmheaaDoorIterG
import Derived.Test.YtfegbfhkmdmheaaDoorSeqBG
import Derived.OrdersIn
import Derived.OwnWalkIn
import Derived.Test.YtfegbfhkmdmheaaDoorTakeG
import Derived.Test.YtfegbfhkmdmheaaDoorScanG
set_option linter.unusedSimpArgs false
set_option linter.unusedVariables false
namespace Go.Proofs.YtfegbfhkmdmheaaDoor
open Go.RowKit

/-- what a round keeps: the set N₀, and what is the iterator's -/
structure KeepN (N₀ : Bl) (T : Bl) (A B : World) : Prop where
  size : A.heap.size ≤ B.heap.size
  block : ∀ k, k < A.heap.size → N₀ k ∨ T k → B.heap[k]? = A.heap[k]?

section words
variable {T T' : Bl} {A B C : World} {N₀ : Bl}
theorem KeepN.refl (N₀ : Bl) (T : Bl) (A : World) : KeepN N₀ T A A := ⟨Nat.le_refl _, fun _ _ _ => rfl⟩
theorem KeepN.trans (h : KeepN N₀ T A B) (k : KeepN N₀ T B C) : KeepN N₀ T A C := ⟨Nat.le_trans h.size k.size, fun i hi hn => (k.block i (Nat.lt_of_lt_of_le hi h.size) hn).trans (h.block i hi hn)⟩
theorem KeepN.less (h : KeepN N₀ T A B) (hT : ∀ k, T' k → T k) : KeepN N₀ T' A B := ⟨h.size, fun k hk hn => h.block k hk (hn.imp id (hT k))⟩
theorem KeepN.of_below (N₀ : Bl) (T : Bl) (h : Below A.heap.size A B) : KeepN N₀ T A B := ⟨h.size, fun k hk _ => h.block k hk⟩
theorem KeepN.putObj (N₀ : Bl) (T : Bl) (A : World) (l : Nat) (o : Obj) (h0 : ¬ N₀ l) (hl : ¬ T l) : KeepN N₀ T A (A.putObj l o) := ⟨by simp, fun k _ hn => World.putObj_heap_other (fun e => by subst e; exact hn.elim h0 hl)⟩
theorem KeepN.setCell (N₀ : Bl) (T : Bl) (W : World) (b o : Nat) (v : Value) (hb : ¬ N₀ b) (hT : ¬ T b) : KeepN N₀ T W (W.setCell ⟨b, o, none⟩ v) :=
  ⟨by simp, fun k _ hn => Below.heap_setCell _ _ _ k (fun e => by
    have e : k = b := e
    subst e
    exact hn.elim hb hT)⟩
theorem KeepN.cell (h : KeepN N₀ T A B) {p : Addr} {v : Value} (hp : N₀ p.block ∨ T p.block) (hc : A.cell? p = some v) : B.cell? p = some v := by
  have hlt : p.block < A.heap.size := by
    rcases Nat.lt_or_ge p.block A.heap.size with h' | h'
    · exact h'
    · simp [World.cell?, Array.getElem?_eq_none h'] at hc
  have := h.block _ hlt hp
  unfold World.cell? at hc ⊢
  rw [this]
  exact hc
theorem KeepN.u8 (h : KeepN N₀ T A B) (h0 : N₀ 0 ∨ T 0) (h1 : N₀ 1 ∨ T 1) (hT : Lib.Utf8Tabs 0 1 A) : Lib.Utf8Tabs 0 1 B :=
  ⟨fun c hc => h.cell (p := ⟨0, c, none⟩) h0 (hT.1 c hc), fun i hi => ⟨h.cell (p := ⟨1, 2 * i, none⟩) h1 (hT.2 i hi).1, h.cell (p := ⟨1, 2 * i + 1, none⟩) h1 (hT.2 i hi).2⟩⟩
end words

/-- AN ITERATOR's CONTRACT -/
def SeqN {α : Type} (F : Fence) (n : Nat) (P : Program) (g : Nat) (lb : Array Value) (encs : α → Array Value) (S Sp : List α → Prop) (N : Nat) (N₀ : Bl) (w : World) : Prop :=
  ∀ (l : Nat) (J Jx : List α → Bl → World → Prop) (W : World), Below w.heap.size w W → TC W.heap.size J → TC W.heap.size Jx →
    (∀ pre x T W1, J pre T W1 → InT W.heap.size T W1 → pre.length < N → Sp (pre ++ [x]) → YieldAt F (n - 1) P l (encs x) W1 fun e W' =>
      (e = .returned (.bool true) ∧ J (pre ++ [x]) T W' ∧ KeepN N₀ T W1 W') ∨ (e = .returned (.bool false) ∧ Jx (pre ++ [x]) T W' ∧ KeepN N₀ T W1 W')) →
    J [] (fun _ => False) W →
    CallsIn F n P g (#[.func (.yield l) #[] #[]] ++ lb) W fun e W' => (∃ v, e = .returned v) ∧ ((∃ xs T, S xs ∧ J xs T W' ∧ InT W.heap.size T W') ∨ (∃ pre T, Sp pre ∧ Jx pre T W' ∧ InT W.heap.size T W'))

/-- HOW THE BODY OF A ROUND MAY BE LEFT -/
def postN {α : Type} (N₀ : Bl) (I : List α → Bl → World → Prop) (Ix : Code → List α → Bl → World → Prop) (xs : List α) (T : Bl) (W : World) : Exit → Act → World → Prop
  | .normal, _, W' => KeepN N₀ T W W' ∧ I xs T W'
  | .ret, _, W' => KeepN N₀ T W W' ∧ Ix .ret xs T W'
  | .exit id, _, W' => KeepN N₀ T W W' ∧ Ix (.exit id) xs T W'
  | .goto t, _, W' => KeepN N₀ T W W' ∧ Ix (.goto t) xs T W'
  | .panic _, _, _ => False
  | .outgrown, _, _ => False

section law
variable {F : Fence} {m : Nat} {P : Program} {α : Type} {ps : Array Tmp} {assign body : Code} {gf : Nat} {lb : Array Value} {encs : α → Array Value} {S Sp : List α → Prop} {N : Nat} {N₀ : Bl}

/-- the rounds, once the loop's record L lies in W1; 'bk': the blocks of book-keeping -/
theorem rounds_N {w0 : World} {fn : FuncId} (hFn : F.fn fn) {tm : Array Value} {dd : Nat} (L B : Nat) (bk : Bl) (W1 : World) (hbk : InT B bk W1) (hbL : bk L)
    (hL1 : W1.heap[L]? = some (.loop { state := .ready, pending := none, fn, tmps := tm, params := ps, assign, body, defers := dd }))
    (hseq : SeqN F m P gf lb encs S Sp N N₀ w0) (hb0 : Below w0.heap.size w0 W1) (hn0 : ∀ k, N₀ k → k < B) (hps : ∀ x, (encs x).size = ps.size)
    (I : List α → Bl → World → Prop) (Ix : Code → List α → Bl → World → Prop) (hI : TC B I) (hIx : ∀ c, TC B (Ix c)) (h0 : I [] bk W1)
    (Ax : α → Act → Bl → World → Prop) (hAx : ∀ x a', TC B (fun (_ : Unit) => Ax x a'))
    (hassign : ∀ (pre : List α) (x : α) (T : Bl) (W : World) (K : Act → World → Prop), I pre T W → InT B T W → T L → (∀ a' W', KeepN N₀ T W W' → I pre T W' → Ax x a' T W' → K a' W') →
      assign.wpIn (F.inRound L) (m - 1) P (Exit.then K (fun _ _ _ => False)) { tmps := (ps.zip (encs x)).foldl (fun t (p, v) => t.setIfInBounds p v) tm, defers := [] } W)
    (hbody : ∀ (pre : List α) (x : α) (a' : Act) (T : Bl) (W : World), T L → InT B T W → (∃ r, W.heap[L]? = some (.loop r)) → I pre T W → Ax x a' T W → pre.length < N → Sp (pre ++ [x]) →
      body.wpIn (F.inRound L) (m - 1) P (postN N₀ I Ix (pre ++ [x]) T W) a' W) :
    CallsIn F m P gf (#[.func (.yield L) #[] #[]] ++ lb) W1 fun e W2 => (∃ v, e = .returned v) ∧ (∀ k, bk k → k ≠ L → W2.heap[k]? = W1.heap[k]?) ∧
      ((∃ xs T, S xs ∧ I xs T W2 ∧ InT B T W2 ∧ (∀ k, bk k → T k) ∧ W2.heap[L]? = some (.loop { state := .ready, pending := none, fn, tmps := tm, params := ps, assign, body, defers := dd })) ∨
       (∃ pre T c, Sp pre ∧ Ix c pre T W2 ∧ InT B T W2 ∧ (∀ k, bk k → T k) ∧ W2.heap[L]? = some (.loop { state := .done, pending := some c, fn, tmps := tm, params := ps, assign, body, defers := dd }))) := by
  obtain ⟨rec, hrec⟩ : ∃ rec : LoopState → Option Code → Loop, rec = fun st pe => { state := st, pending := pe, fn, tmps := tm, params := ps, assign, body, defers := dd } := ⟨_, rfl⟩
  have hL : W1.heap[L]? = some (.loop (rec .ready none)) := by rw [hrec]; exact hL1
  have hB1 : ∀ k, bk k → B ≤ k ∧ k < W1.heap.size := hbk
  have hin : ∀ {T : Bl} {W : World}, InT W1.heap.size T W → W1.heap.size ≤ W.heap.size → InT B (fun k => bk k ∨ T k) W := by
    intro T W hT hs k hk
    have := hB1 L hbL
    rcases hk with hk | hk
    · have := hB1 k hk; omega
    · have := hT k hk; omega
  have hmv : ∀ {T : Bl} {A A' : World}, Moves T A A' → Moves (fun k => bk k ∨ T k) A A' := fun h => h.mono fun _ => .inr
  have hgr : ∀ {T T' : Bl} {A A' : World}, Grow T T' A A' → Grow (fun k => bk k ∨ T k) (fun k => bk k ∨ T' k) A A' := fun h =>
    ⟨fun k hk => hk.imp id (h.1 k), fun k hk => hk.elim (fun hk => .inl (.inl hk)) (fun hk => (h.2 k hk).imp .inr id)⟩
  have hstay : ∀ {T : Bl} {A A' : World}, Moves T A A' → InT W1.heap.size T A → W1.heap.size ≤ A.heap.size → ∀ k, bk k → A'.heap[k]? = A.heap[k]? := fun h hT hs k hk =>
    h.block k (Nat.lt_of_lt_of_le (hB1 k hk).2 hs) (fun e => by have := hT k e; have := hB1 k hk; omega)
  refine (hseq L (fun pre T W => I pre (fun k => bk k ∨ T k) W ∧ W.heap[L]? = some (.loop (rec .ready none)) ∧ (∀ k, bk k → k ≠ L → W.heap[k]? = W1.heap[k]?) ∧ W1.heap.size ≤ W.heap.size)
    (fun pre T W => ∃ c, Ix c pre (fun k => bk k ∨ T k) W ∧ W.heap[L]? = some (.loop (rec .done (some c))) ∧ (∀ k, bk k → k ≠ L → W.heap[k]? = W1.heap[k]?) ∧ W1.heap.size ≤ W.heap.size) W1 hb0 ?_ ?_ ?_
    ⟨hI _ _ _ _ _ h0 hbk (Moves.refl _ _) ⟨fun k h => .inl h, fun k h => .inl (h.elim id False.elim)⟩, hL, fun _ _ _ => rfl, Nat.le_refl _⟩).mono ?_
  · rintro s T T' A A' ⟨hi, hl, ho, hs⟩ hT hm hg
    exact ⟨hI _ _ _ _ _ hi (hin hT hs) (hmv hm) (hgr hg), (hstay hm hT hs L hbL).trans hl, fun k hk hne => (hstay hm hT hs k hk).trans (ho k hk hne), Nat.le_trans hs hm.size⟩
  · rintro s T T' A A' ⟨c, hi, hl, ho, hs⟩ hT hm hg
    exact ⟨c, hIx c _ _ _ _ _ hi (hin hT hs) (hmv hm) (hgr hg), (hstay hm hT hs L hbL).trans hl, fun k hk hne => (hstay hm hT hs k hk).trans (ho k hk hne), Nat.le_trans hs hm.size⟩
  · rintro pre x T W ⟨hi, hl, ho, hs⟩ hT hlen hsp
    have hTb : InT B (fun k => bk k ∨ T k) W := hin hT hs
    have hnL : ¬ T L := fun e => by have := hT L e; have := hB1 L hbL; omega
    have hy := run_yield (P := P) (args := encs x) hl (by rw [hrec]; exact hps x)
    rw [hrec] at hy
    refine ⟨fn, _, assign, body, hy, roundIn_of_wpIn hFn (hassign pre x _ W _ hi hTb (.inl hbL) ?_)⟩
    intro a' Wa hka hia hax
    have hla : Wa.heap[L]? = some (.loop (rec .ready none)) := (hka.block L (hTb L (.inl hbL)).2 (.inr (.inl hbL))).trans hl
    have hsa : W1.heap.size ≤ Wa.heap.size := Nat.le_trans hs hka.size
    have hTa : InT B (fun k => bk k ∨ T k) Wa := hTb.more hka.size
    refine ⟨_, run_beginRound hla (by rw [hrec]), ?_⟩
    have hlt : L < Wa.heap.size := (hTa L (.inl hbL)).2
    have hmb : Moves (fun k => bk k ∨ T k) Wa (Wa.putObj L (.loop { rec .ready none with state := .busy })) := Moves.putObj _ _ _ _ (.inl hbL)
    have hlb : (Wa.putObj L (.loop { rec .ready none with state := .busy })).heap[L]? = some (.loop { rec .ready none with state := .busy }) := World.putObj_heap_same hlt
    have hsb : W1.heap.size ≤ (Wa.putObj L (.loop { rec .ready none with state := .busy })).heap.size := by simpa using hsa
    have hob : ∀ k, bk k → k ≠ L → (Wa.putObj L (.loop { rec .ready none with state := .busy })).heap[k]? = W1.heap[k]? := fun k hk hne =>
      (World.putObj_heap_other hne).trans ((hka.block k (hTb k (.inl hk)).2 (.inr (.inl hk))).trans (ho k hk hne))
    have hkb : KeepN N₀ T W (Wa.putObj L (.loop { rec .ready none with state := .busy })) := (hka.less fun _ => .inr).trans (KeepN.putObj _ _ _ _ _ (fun e => by have := hn0 L e; have := (hB1 L hbL).1; omega) hnL)
    have hib := hI.of hia hTa hmb
    have haxb := (hAx x a').of (s := ()) hax hTa hmb
    have hTbb : InT B (fun k => bk k ∨ T k) (Wa.putObj L (.loop { rec .ready none with state := .busy })) := hTa.more hmb.size
    revert hlb hsb hob hkb hib haxb hTbb
    generalize Wa.putObj L (.loop { rec .ready none with state := .busy }) = Wb
    intro hlb hsb hob hkb hib haxb hTbb
    refine wpIn_mono (hbody pre x a' _ Wb (.inl hbL) hTbb ⟨_, hlb⟩ hib haxb hlen hsp) ?_
    have fin : ∀ (jump : Option Code) (W3 : World), KeepN N₀ (fun k => bk k ∨ T k) Wb W3 →
        (Instr.endRound L jump).run P W3 = .ok (.bool jump.isNone) (W3.putObj L (.loop (rec (if jump.isNone then .ready else .done) jump))) ∧
        (W3.putObj L (.loop (rec (if jump.isNone then .ready else .done) jump))).heap[L]? = some (.loop (rec (if jump.isNone then .ready else .done) jump)) ∧
        (∀ k, bk k → k ≠ L → (W3.putObj L (.loop (rec (if jump.isNone then .ready else .done) jump))).heap[k]? = W1.heap[k]?) ∧
        W1.heap.size ≤ (W3.putObj L (.loop (rec (if jump.isNone then .ready else .done) jump))).heap.size ∧
        Moves (fun k => bk k ∨ T k) W3 (W3.putObj L (.loop (rec (if jump.isNone then .ready else .done) jump))) ∧
        InT B (fun k => bk k ∨ T k) W3 ∧ KeepN N₀ T W (W3.putObj L (.loop (rec (if jump.isNone then .ready else .done) jump))) := fun jump W3 hk3 => by
      have hl3 : W3.heap[L]? = some (.loop { rec .ready none with state := .busy }) := (hk3.block L (hTbb L (.inl hbL)).2 (.inr (.inl hbL))).trans hlb
      have hr := run_endRound (P := P) jump hl3
      refine ⟨by rw [hrec] at hr ⊢; exact hr, World.putObj_heap_same (Array.getElem?_eq_some_iff.1 hl3).1, fun k hk hne => (World.putObj_heap_other hne).trans ((hk3.block k (hTbb k (.inl hk)).2 (.inr (.inl hk))).trans (hob k hk hne)), ?_, Moves.putObj _ _ _ _ (.inl hbL), hTbb.more hk3.size, ?_⟩
      · have := hk3.size; simp; omega
      · exact hkb.trans ((hk3.less fun _ => .inr).trans (KeepN.putObj _ _ _ _ _ (fun e => by have := hn0 L e; have := (hB1 L hbL).1; omega) hnL))
    rintro e a3 W3 hp
    cases e with
    | normal =>
      obtain ⟨hk3, hi3⟩ := hp
      obtain ⟨hr, hl4, ho4, hs4, hm4, hT4, hk4⟩ := fin none W3 hk3
      exact ⟨_, _, hr, .inl ⟨rfl, ⟨hI.of hi3 hT4 hm4, hl4, ho4, hs4⟩, hk4⟩⟩
    | ret =>
      obtain ⟨hk3, hi3⟩ := hp
      obtain ⟨hr, hl4, ho4, hs4, hm4, hT4, hk4⟩ := fin (some .ret) W3 hk3
      exact ⟨_, _, hr, .inr ⟨rfl, ⟨.ret, (hIx _).of hi3 hT4 hm4, hl4, ho4, hs4⟩, hk4⟩⟩
    | exit id =>
      obtain ⟨hk3, hi3⟩ := hp
      obtain ⟨hr, hl4, ho4, hs4, hm4, hT4, hk4⟩ := fin (some (.exit id)) W3 hk3
      exact ⟨_, _, hr, .inr ⟨rfl, ⟨.exit id, (hIx _).of hi3 hT4 hm4, hl4, ho4, hs4⟩, hk4⟩⟩
    | goto t =>
      obtain ⟨hk3, hi3⟩ := hp
      obtain ⟨hr, hl4, ho4, hs4, hm4, hT4, hk4⟩ := fin (some (.goto t)) W3 hk3
      exact ⟨_, _, hr, .inr ⟨rfl, ⟨.goto t, (hIx _).of hi3 hT4 hm4, hl4, ho4, hs4⟩, hk4⟩⟩
    | panic ch => exact hp.elim
    | outgrown => exact hp.elim
  · rintro e W2 ⟨hv, (⟨xs, T, hS, ⟨hi, hl, ho, hs⟩, hT⟩ | ⟨pre, T, hSp, ⟨c, hi, hl, ho, hs⟩, hT⟩)⟩
    · exact ⟨hv, ho, .inl ⟨xs, _, hS, hi, hin hT hs, fun _ => .inl, by rw [hrec] at hl; exact hl⟩⟩
    · exact ⟨hv, ho, .inr ⟨pre, _, c, hSp, hi, hin hT hs, fun _ => .inl, by rw [hrec] at hl; exact hl⟩⟩

/-- THE CALLER's LAW, at a loop that stands in no round. -/
theorem range_N {n : Nat} {g : Operand} {Q : Exit → Act → World → Prop} {a : Act} {w : World} (hro : F.round = none) (h1 : 1 ≤ n) (hg : a.eval g = .func (.func gf) #[] lb) (hFg : F.fn gf) (eg : ∀ args w, (callFunc gf args).run P w = .ok (.enter gf args) w)
    (hseq : SeqN F (n - 1) P gf lb encs S Sp N N₀ w) (hn0 : ∀ k, N₀ k → k < w.heap.size) (hps : ∀ x, (encs x).size = ps.size)
    (I : List α → Bl → World → Prop) (Ix : Code → List α → Bl → World → Prop) (hI : TC w.heap.size I) (hIx : ∀ c, TC w.heap.size (Ix c)) (h0 : I [] (fun _ => False) w)
    (Ax : α → Act → Bl → World → Prop) (hAx : ∀ x a', TC w.heap.size (fun (_ : Unit) => Ax x a'))
    (hassign : ∀ (l : Nat) (pre : List α) (x : α) (T : Bl) (W : World) (K : Act → World → Prop), I pre T W → InT w.heap.size T W → T l → (∀ a' W', KeepN N₀ T W W' → I pre T W' → Ax x a' T W' → K a' W') →
      assign.wpIn (F.inRound l) (n - 1 - 1) P (Exit.then K (fun _ _ _ => False)) { tmps := (ps.zip (encs x)).foldl (fun t (p, v) => t.setIfInBounds p v) a.tmps, defers := [] } W)
    (hbody : ∀ (l : Nat) (pre : List α) (x : α) (a' : Act) (T : Bl) (W : World), T l → InT w.heap.size T W → (∃ r, W.heap[l]? = some (.loop r)) → I pre T W → Ax x a' T W → pre.length < N → Sp (pre ++ [x]) →
      body.wpIn (F.inRound l) (n - 1 - 1) P (postN N₀ I Ix (pre ++ [x]) T W) a' W)
    (hdone : ∀ (D : Nat) (xs : List α) (T : Bl) (W : World), T D → InT w.heap.size T W → S xs → I xs T W → W.heap[D]? = some (.deferred (some [])) → Q .normal { a with defers := { target := .collected D, args := #[] } :: a.defers } W)
    (hstop : ∀ (D : Nat) (c : Code) (pre : List α) (T : Bl) (W : World), T D → InT w.heap.size T W → Sp pre → Ix c pre T W → W.heap[D]? = some (.deferred (some [])) → c.wpIn F n P Q { a with defers := { target := .collected D, args := #[] } :: a.defers } W) :
    (Code.rangeFunc g ps assign body).wpIn F n P Q a w := by
  refine wpIn_rangeFunc ?_
  intro fn hfn
  rw [hro]
  obtain ⟨W1, hW1⟩ : ∃ W1, (w.alloc (.deferred (some []))).alloc (.loop { state := .ready, pending := none, fn, tmps := a.tmps, params := ps, assign, body, defers := w.heap.size }) = W1 := ⟨_, rfl⟩
  have hs1 : W1.heap.size = w.heap.size + 2 := by rw [← hW1]; simp
  have hL1 : W1.heap[w.heap.size + 1]? = some (.loop { state := .ready, pending := none, fn, tmps := a.tmps, params := ps, assign, body, defers := w.heap.size }) := by
    rw [← hW1]
    have := World.alloc_heap_new (w.alloc (.deferred (some []))) (.loop { state := .ready, pending := none, fn, tmps := a.tmps, params := ps, assign, body, defers := w.heap.size })
    rwa [World.size_alloc] at this
  have hD1 : W1.heap[w.heap.size]? = some (.deferred (some [])) := by
    rw [← hW1]
    exact (Below.heap_alloc _ _ _ (by simp)).trans (World.alloc_heap_new w _)
  have hbw : Below w.heap.size w W1 := by rw [← hW1]; exact ((Below.refl _ w).alloc (Nat.le_refl _) _).alloc (by simp) _
  refine ⟨w.heap.size + 1, [{ target := .collected w.heap.size, args := #[] }], W1, { target := .fn (.func gf) lb, args := #[.func (.yield (w.heap.size + 1)) #[] #[]] }, W1, gf,
    #[.func (.yield (w.heap.size + 1)) #[] #[]] ++ lb, W1, by rw [← hW1]; exact run_enterLoop_outer _ _ _ _ _, by simp only [resolve, hg]; simp [go_sem], fun f' hf' => by simp [Target.leads] at hf'; subst hf'; exact hFg, by simp [invoke, go_sem, eg], fun _ => h1, ?_⟩
  refine (rounds_N hfn (w.heap.size + 1) w.heap.size (fun k => k = w.heap.size ∨ k = w.heap.size + 1) W1 (fun k hk => by rcases hk with rfl | rfl <;> omega) (.inr rfl) hL1 hseq hbw hn0 hps I Ix hI hIx
    (hI _ _ _ _ _ h0 (fun k h => h.elim) (.of_below _ hbw) ⟨fun k h => h.elim, fun k hk => .inr (by rcases hk with rfl | rfl <;> omega)⟩) Ax hAx (hassign (w.heap.size + 1)) (hbody (w.heap.size + 1))).mono ?_
  rintro e W2 ⟨⟨v, rfl⟩, ho, (⟨xs, T, hS, hi, hT, hsub, hl⟩ | ⟨pre, T, c, hSp, hi, hT, hsub, hl⟩)⟩
  · refine ⟨none, _, run_endLoop (P := P) hl (by simp), ?_⟩
    have hmv := Moves.putObj T W2 (w.heap.size + 1) (.loop { state := .exhausted, pending := none, fn, tmps := a.tmps, params := ps, assign, body, defers := w.heap.size }) (hsub _ (.inr rfl))
    exact hdone w.heap.size xs T _ (hsub _ (.inl rfl)) (hT.more hmv.size) hS (hI.of hi hT hmv) ((World.putObj_heap_other (by omega)).trans ((ho _ (.inl rfl) (by omega)).trans hD1))
  · refine ⟨some c, _, run_endLoop (P := P) hl (by simp), ?_⟩
    have hmv := Moves.putObj T W2 (w.heap.size + 1) (.loop { state := .exhausted, pending := some c, fn, tmps := a.tmps, params := ps, assign, body, defers := w.heap.size }) (hsub _ (.inr rfl))
    exact hstop w.heap.size c pre T _ (hsub _ (.inl rfl)) (hT.more hmv.size) hSp ((hIx c).of hi hT hmv) ((World.putObj_heap_other (by omega)).trans ((ho _ (.inl rfl) (by omega)).trans hD1))

/-- the law where the assignment lays no block -/
theorem range_N1 {n : Nat} {g : Operand} {Q : Exit → Act → World → Prop} {a : Act} {w : World} (hro : F.round = none) (h1 : 1 ≤ n) (hg : a.eval g = .func (.func gf) #[] lb) (hFg : F.fn gf) (eg : ∀ args w, (callFunc gf args).run P w = .ok (.enter gf args) w)
    (hseq : SeqN F (n - 1) P gf lb encs S Sp N N₀ w) (hn0 : ∀ k, N₀ k → k < w.heap.size) (hps : ∀ x, (encs x).size = ps.size)
    (I : List α → Bl → World → Prop) (Ix : Code → List α → Bl → World → Prop) (hI : TC w.heap.size I) (hIx : ∀ c, TC w.heap.size (Ix c)) (h0 : I [] (fun _ => False) w)
    (a₁ : α → Act)
    (hassign : ∀ (l : Nat) (x : α) (W : World) (K : Act → World → Prop), K (a₁ x) W →
      assign.wpIn (F.inRound l) (n - 1 - 1) P (Exit.then K (fun _ _ _ => False)) { tmps := (ps.zip (encs x)).foldl (fun t (p, v) => t.setIfInBounds p v) a.tmps, defers := [] } W)
    (hbody : ∀ (l : Nat) (pre : List α) (x : α) (T : Bl) (W : World), T l → InT w.heap.size T W → (∃ r, W.heap[l]? = some (.loop r)) → I pre T W → pre.length < N → Sp (pre ++ [x]) →
      body.wpIn (F.inRound l) (n - 1 - 1) P (postN N₀ I Ix (pre ++ [x]) T W) (a₁ x) W)
    (hdone : ∀ (D : Nat) (xs : List α) (T : Bl) (W : World), T D → InT w.heap.size T W → S xs → I xs T W → W.heap[D]? = some (.deferred (some [])) → Q .normal { a with defers := { target := .collected D, args := #[] } :: a.defers } W)
    (hstop : ∀ (D : Nat) (c : Code) (pre : List α) (T : Bl) (W : World), T D → InT w.heap.size T W → Sp pre → Ix c pre T W → W.heap[D]? = some (.deferred (some [])) → c.wpIn F n P Q { a with defers := { target := .collected D, args := #[] } :: a.defers } W) :
    (Code.rangeFunc g ps assign body).wpIn F n P Q a w :=
  range_N hro h1 hg hFg eg hseq hn0 hps I Ix hI hIx h0 (fun x a' _ _ => a' = a₁ x) (fun _ _ _ _ _ _ _ h _ _ _ => h) (fun l pre x T W K hi _ _ hK => hassign l x W K (hK _ _ (KeepN.refl _ _ _) hi rfl))
    (fun l pre x a' T W hl hT hr hi e hn hs => by subst e; exact hbody l pre x T W hl hT hr hi hn hs) hdone hstop

/-- THE CALLER's LAW, at a loop that stands in a round of loop l₀. -/
theorem range_NN {n : Nat} {g : Operand} {Q : Exit → Act → World → Prop} {a : Act} {w : World} {l₀ : Nat} {r₀ : Loop} (hro : F.round = some l₀) (hl₀ : w.heap[l₀]? = some (.loop r₀)) (h1 : 1 ≤ n) (hg : a.eval g = .func (.func gf) #[] lb) (hFg : F.fn gf) (eg : ∀ args w, (callFunc gf args).run P w = .ok (.enter gf args) w)
    (hseq : SeqN F (n - 1) P gf lb encs S Sp N N₀ w) (hn0 : ∀ k, N₀ k → k < w.heap.size) (hps : ∀ x, (encs x).size = ps.size)
    (I : List α → Bl → World → Prop) (Ix : Code → List α → Bl → World → Prop) (hI : TC w.heap.size I) (hIx : ∀ c, TC w.heap.size (Ix c)) (h0 : I [] (fun _ => False) w)
    (Ax : α → Act → Bl → World → Prop) (hAx : ∀ x a', TC w.heap.size (fun (_ : Unit) => Ax x a'))
    (hassign : ∀ (l : Nat) (pre : List α) (x : α) (T : Bl) (W : World) (K : Act → World → Prop), I pre T W → InT w.heap.size T W → T l → (∀ a' W', KeepN N₀ T W W' → I pre T W' → Ax x a' T W' → K a' W') →
      assign.wpIn (F.inRound l) (n - 1 - 1) P (Exit.then K (fun _ _ _ => False)) { tmps := (ps.zip (encs x)).foldl (fun t (p, v) => t.setIfInBounds p v) a.tmps, defers := [] } W)
    (hbody : ∀ (l : Nat) (pre : List α) (x : α) (a' : Act) (T : Bl) (W : World), T l → InT w.heap.size T W → (∃ r, W.heap[l]? = some (.loop r)) → I pre T W → Ax x a' T W → pre.length < N → Sp (pre ++ [x]) →
      body.wpIn (F.inRound l) (n - 1 - 1) P (postN N₀ I Ix (pre ++ [x]) T W) a' W)
    (hdone : ∀ (xs : List α) (T : Bl) (W : World), InT w.heap.size T W → S xs → I xs T W → Q .normal a W)
    (hstop : ∀ (c : Code) (pre : List α) (T : Bl) (W : World), InT w.heap.size T W → Sp pre → Ix c pre T W → c.wpIn F n P Q a W) :
    (Code.rangeFunc g ps assign body).wpIn F n P Q a w := by
  refine wpIn_rangeFunc ?_
  intro fn hfn
  rw [hro]
  obtain ⟨W1, hW1⟩ : ∃ W1, w.alloc (.loop { state := .ready, pending := none, fn, tmps := a.tmps, params := ps, assign, body, defers := r₀.defers }) = W1 := ⟨_, rfl⟩
  have hs1 : W1.heap.size = w.heap.size + 1 := by rw [← hW1]; simp
  have hL1 : W1.heap[w.heap.size]? = some (.loop { state := .ready, pending := none, fn, tmps := a.tmps, params := ps, assign, body, defers := r₀.defers }) := by rw [← hW1]; exact World.alloc_heap_new w _
  have hbw : Below w.heap.size w W1 := by rw [← hW1]; exact (Below.refl _ w).alloc (Nat.le_refl _) _
  refine ⟨w.heap.size, [], W1, { target := .fn (.func gf) lb, args := #[.func (.yield w.heap.size) #[] #[]] }, W1, gf,
    #[.func (.yield w.heap.size) #[] #[]] ++ lb, W1, by rw [← hW1]; exact run_enterLoop_inner hl₀ _ _ _ _ _, by simp only [resolve, hg]; simp [go_sem], fun f' hf' => by simp [Target.leads] at hf'; subst hf'; exact hFg, by simp [invoke, go_sem, eg], fun _ => h1, ?_⟩
  refine (rounds_N hfn w.heap.size w.heap.size (fun k => k = w.heap.size) W1 (fun k hk => by subst hk; omega) rfl hL1 hseq hbw hn0 hps I Ix hI hIx
    (hI _ _ _ _ _ h0 (fun k h => h.elim) (.of_below _ hbw) ⟨fun k h => h.elim, fun k hk => .inr (by subst hk; omega)⟩) Ax hAx (hassign w.heap.size) (hbody w.heap.size)).mono ?_
  rintro e W2 ⟨⟨v, rfl⟩, ho, (⟨xs, T, hS, hi, hT, hsub, hl⟩ | ⟨pre, T, c, hSp, hi, hT, hsub, hl⟩)⟩
  · refine ⟨none, _, run_endLoop (P := P) hl (by simp), ?_⟩
    have hmv := Moves.putObj T W2 w.heap.size (.loop { state := .exhausted, pending := none, fn, tmps := a.tmps, params := ps, assign, body, defers := r₀.defers }) (hsub _ rfl)
    exact hdone xs T _ (hT.more hmv.size) hS (hI.of hi hT hmv)
  · refine ⟨some c, _, run_endLoop (P := P) hl (by simp), ?_⟩
    have hmv := Moves.putObj T W2 w.heap.size (.loop { state := .exhausted, pending := some c, fn, tmps := a.tmps, params := ps, assign, body, defers := r₀.defers }) (hsub _ rfl)
    exact hstop c pre T _ (hT.more hmv.size) hSp ((hIx c).of hi hT hmv)
theorem range_NN1 {n : Nat} {g : Operand} {Q : Exit → Act → World → Prop} {a : Act} {w : World} {l₀ : Nat} {r₀ : Loop} (hro : F.round = some l₀) (hl₀ : w.heap[l₀]? = some (.loop r₀)) (h1 : 1 ≤ n) (hg : a.eval g = .func (.func gf) #[] lb) (hFg : F.fn gf) (eg : ∀ args w, (callFunc gf args).run P w = .ok (.enter gf args) w)
    (hseq : SeqN F (n - 1) P gf lb encs S Sp N N₀ w) (hn0 : ∀ k, N₀ k → k < w.heap.size) (hps : ∀ x, (encs x).size = ps.size)
    (I : List α → Bl → World → Prop) (Ix : Code → List α → Bl → World → Prop) (hI : TC w.heap.size I) (hIx : ∀ c, TC w.heap.size (Ix c)) (h0 : I [] (fun _ => False) w)
    (a₁ : α → Act)
    (hassign : ∀ (l : Nat) (x : α) (W : World) (K : Act → World → Prop), K (a₁ x) W →
      assign.wpIn (F.inRound l) (n - 1 - 1) P (Exit.then K (fun _ _ _ => False)) { tmps := (ps.zip (encs x)).foldl (fun t (p, v) => t.setIfInBounds p v) a.tmps, defers := [] } W)
    (hbody : ∀ (l : Nat) (pre : List α) (x : α) (T : Bl) (W : World), T l → InT w.heap.size T W → (∃ r, W.heap[l]? = some (.loop r)) → I pre T W → pre.length < N → Sp (pre ++ [x]) →
      body.wpIn (F.inRound l) (n - 1 - 1) P (postN N₀ I Ix (pre ++ [x]) T W) (a₁ x) W)
    (hdone : ∀ (xs : List α) (T : Bl) (W : World), InT w.heap.size T W → S xs → I xs T W → Q .normal a W)
    (hstop : ∀ (c : Code) (pre : List α) (T : Bl) (W : World), InT w.heap.size T W → Sp pre → Ix c pre T W → c.wpIn F n P Q a W) :
    (Code.rangeFunc g ps assign body).wpIn F n P Q a w :=
  range_NN hro hl₀ h1 hg hFg eg hseq hn0 hps I Ix hI hIx h0 (fun x a' _ _ => a' = a₁ x) (fun _ _ _ _ _ _ _ h _ _ _ => h) (fun l pre x T W K hi _ _ hK => hassign l x W K (hK _ _ (KeepN.refl _ _ _) hi rfl))
    (fun l pre x a' T W hl hT hr hi e hn hs => by subst e; exact hbody l pre x T W hl hT hr hi hn hs) hdone hstop
end law
end Go.Proofs.YtfegbfhkmdmheaaDoor

/- The iterators of scan.All and scan.Back, what a round keeps being any set. -/
namespace Go.Proofs.YtfegbfhkmdmheaaDoor
open Go.RowKit Go.Shelf Go.Lib
attribute [local go_sem] Oper.semAt_some

theorem cell_ltN {w : World} {a : Addr} {v : Value} (h : w.cell? a = some v) : a.block < w.heap.size := by
  rcases Nat.lt_or_ge a.block w.heap.size with h' | h'
  · exact h'
  · simp [World.cell?, Array.getElem?_eq_none h'] at h

set_option maxRecDepth 100000 in
set_option maxHeartbeats 1000000 in
theorem seqAllN (F : Fence) (n : Nat) (h6 : F.fn 76) (hro : F.round = none) (hn : 1 ≤ n) (Bn : Nat) (N₀ : Bl) (s : ByteArray) (w : World) (hc : w.cell? ⟨Bn, 0, none⟩ = some (.string s)) :
    SeqN F n Tryd.prog 76 #[.pointer (some ⟨Bn, 0, none⟩)] encPlace (fun ys => ys = places s) (fun pre => pre <+: places s) (places s).length N₀ w := by
  intro l J Jx W hW hJ hJx hY h0
  have hcW : W.cell? ⟨Bn, 0, none⟩ = some (.string s) := (hW.cell (p := ⟨Bn, 0, none⟩) (cell_ltN hc)).trans hc
  clear hc hW
  refine callsIn_of_wp Tryd.func76 rfl h6 ?_ hro
  simp only [Tryd.ntmps76, List.size_toArray, List.length_cons, List.length_nil, Nat.reduceAdd, Nat.reduceSub, Array.replicate_succ, Array.replicate_zero, List.push_toArray, List.append_toArray, List.nil_append, List.cons_append]
  gi_wp2
  obtain ⟨Bi, hBi⟩ : ∃ Bi, W.heap.size = Bi := ⟨_, rfl⟩
  have hit0 : (W.iter s 0).heap[Bi]? = some (.stringIter s 0) := by rw [← hBi]; exact World.iter_heap W s 0
  have hsz0 : (W.iter s 0).heap.size = Bi + 1 := by rw [← hBi]; exact World.size_alloc _ _
  have hJ0 : J [] (fun k => k = Bi) (W.iter s 0) := hJ _ _ _ _ _ h0 (fun _ h => h.elim) (Moves.alloc _ _ _) ⟨fun _ h => h.elim, fun k hk => .inr (by subst hk; omega)⟩
  rw [hBi] at hJ hJx hY ⊢
  gi_loopw [3] (fun _ wr => ∃ (pos : Nat) (pre : List (Nat × Nat)), wr.heap[Bi]? = some (.stringIter s pos) ∧ Hid (pre ++ placesF s s.size pos = places s) ∧ J pre (fun k => k = Bi) wr)
    (fun _ wr => s.size - wr.iterPos Bi)
  case atStart => exact ⟨0, [], hit0, by unfold Hid; rfl, hJ0⟩
  case round =>
    obtain ⟨pos, pre, hit, hpl, hJs⟩ := hrel
    by_cases hp : pos < s.size
    · have hd2 := decode_pos s pos
      have hnx : ∀ ty, (Instr.next (.pointer (some ⟨Bi, 0, none⟩)) true ty).run Tryd.prog wr = .ok (.tuple #[.bool true, .int .i64 pos, .int .i32 (Utf8.decode s pos).1]) (wr.iterAt Bi s (pos + (Utf8.decode s pos).2)) := fun ty => Lib.run_next_any_at wr Bi s pos ty hit hp
      have hpl2 := hpl.out
      rw [placesF_step s pos hp] at hpl2
      revert hd2 hnx hpl2
      generalize Utf8.decode s pos = d
      intro hd2 hnx hpl2
      have hlen : pre.length < (places s).length := by rw [← hpl2]; simp
      have hit2 := Lib.iterAt_heap wr Bi s pos (pos + d.2) hit
      have hlt : Bi < wr.heap.size := (Array.getElem?_eq_some_iff.1 hit).1
      have hmv : Moves (fun k => k = Bi) wr (wr.iterAt Bi s (pos + d.2)) := ⟨rfl, rfl, rfl, by rw [Lib.iterAt_size]; exact Nat.le_refl _, fun i _ hne => Lib.iterAt_other wr Bi i s (pos + d.2) hne⟩
      have hJ2 : J pre (fun k => k = Bi) (wr.iterAt Bi s (pos + d.2)) := hJ.of hJs (fun k hk => by subst hk; exact ⟨Nat.le_refl _, hlt⟩) hmv
      have hpl3 : (pre ++ [(pos, d.1)]) ++ placesF s s.size (pos + d.2) = places s := by rw [← hpl2]; simp
      have Hpl := Lib.hid hpl3
      have Hpos := Lib.hid (iterPos_at hit)
      have hpre : pre ++ [(pos, d.1)] <+: places s := ⟨_, hpl3⟩
      have Hpre := Lib.hid hpre
      clear hpl hpl2 hpl3 hit hJs hpre hlt hmv
      obtain ⟨w1, hw1⟩ : ∃ w1, wr.iterAt Bi s (pos + d.2) = w1 := ⟨_, rfl⟩
      rw [hw1] at hnx hit2 hJ2
      clear hw1
      have hin1 : InT Bi (fun k => k = Bi) w1 := fun k hk => by subst hk; exact ⟨Nat.le_refl _, (Array.getElem?_eq_some_iff.1 hit2).1⟩
      obtain ⟨fn, tmps, assign, body, hy, hR⟩ := hY pre (pos, d.1) _ w1 hJ2 hin1 hlen Hpre.out
      dsimp only [encPlace] at hy
      gi_wp2
      refine hR.mono ?_
      rintro e W3 (⟨rfl, hJ3, hk3⟩ | ⟨rfl, hJx3, hk3⟩)
      · have hit3 := (hk3.block Bi (hin1 Bi rfl).2 (.inr rfl)).trans hit2
        gi_wp2
        go_roundw
        case rel => exact ⟨pos + d.2, pre ++ [(pos, d.1)], hit3, Hpl, hJ3⟩
        case measure => rw [Hpos.out, iterPos_at hit3]; omega
      · gi_wp2
        refine bodyPost_ret (results_none rfl _ _ _) rfl ?_
        exact ⟨⟨_, rfl⟩, .inr ⟨pre ++ [(pos, d.1)], _, Hpre.out, hJx3, by rw [hBi]; exact hin1.more hk3.size⟩⟩
    · have hnx : ∀ ty, (Instr.next (.pointer (some ⟨Bi, 0, none⟩)) true ty).run Tryd.prog wr = _ := fun ty => Lib.run_next_end_at wr Bi s pos ty hit hp
      have hpl2 := hpl.out
      rw [placesF_end s _ _ hp, List.append_nil] at hpl2
      have Hpl := Lib.hid hpl2
      have Hin : Hid (InT Bi (fun k => k = Bi) wr) := Lib.hid (fun k hk => by subst hk; exact ⟨Nat.le_refl _, (Array.getElem?_eq_some_iff.1 hit).1⟩)
      clear hpl hpl2 hit
      gi_wp2
      go_end0
      exact ⟨⟨_, rfl⟩, .inl ⟨pre, _, Hpl.out, hJs, by rw [hBi]; exact Hin.out⟩⟩
set_option maxRecDepth 100000 in
set_option maxHeartbeats 1000000 in
theorem seqBackN (n : Nat) (hn : 1 ≤ n) (Bn : Nat) (N₀ : Bl) (s : ByteArray) (w : World) (hBn : N₀ Bn) (hN0 : N₀ 0) (hN1 : N₀ 1) (hc : w.cell? ⟨Bn, 0, none⟩ = some (.string s)) (hs : s.size ≤ maxLen) (hT : Utf8Tabs 0 1 w) :
    SeqN Fence.wide n Tryd.prog 129 #[.pointer (some ⟨Bn, 0, none⟩)] encPlace (fun ys => ys = (places s).reverse) (fun pre => pre <+: (places s).reverse) (places s).length N₀ w := by
  intro l J Jx W hW hJ hJx hY h0
  have hk0 : KeepN N₀ (fun _ => False) w W := ⟨hW.size, fun k hk _ => hW.block k hk⟩
  have hcW : W.cell? ⟨Bn, 0, none⟩ = some (.string s) := hk0.cell (.inl hBn) hc
  have hTW : Utf8Tabs 0 1 W := hk0.u8 (.inl hN0) (.inl hN1) hT
  clear hc hW hk0 hT
  have hlast := fun (k : Nat) (hk : k ≤ s.size) (W : World) (hT : Utf8Tabs 0 1 W) => (callsIn_wide (n := n - 1)).2 (last_any (s.extract 0 k) W (by simp; omega) hT)
  simp only [take_list] at hlast
  have Hlast := Lib.hid hlast
  clear hlast
  refine callsIn_of_wp Tryd.func129 rfl trivial ?_ rfl
  simp only [Tryd.ntmps129, List.size_toArray, List.length_cons, List.length_nil, Nat.reduceAdd, Nat.reduceSub, Array.replicate_succ, Array.replicate_zero, List.push_toArray, List.append_toArray, List.nil_append, List.cons_append]
  gi_wp2
  gi_loopw [3] (fun v wr => ∃ (p : Nat) (pre : List (Nat × Nat)), v = .int .i64 (p : Int) ∧ p ≤ s.size ∧ wr.cell? ⟨Bn, 0, none⟩ = some (.string s) ∧ Utf8Tabs 0 1 wr ∧ Hid (offs 0 (segs (s.data.toList.take p)) ++ pre.reverse = places s) ∧ J pre (fun _ => False) wr)
    (fun v _ => (RowKit.intOf v).toNat)
  case atStart => exact ⟨s.size, [], rfl, Nat.le_refl _, hcW, hTW, by unfold Hid; rw [← size_list, List.take_length, places_offs]; simp, h0⟩
  case round =>
    obtain ⟨p, pre, rfl, hps, hcs, hTs, hpl, hJs⟩ := hrel
    by_cases hp : 0 < p
    · have hpi : (0 : Int) < (p : Int) := by omega
      obtain ⟨hd1, hd2, hst⟩ := back_step s.data.toList p hp (by rw [size_list]; exact hps)
      have hl := Hlast.out p hps wr hTs
      revert hd1 hd2 hst hl
      generalize decodeLastL (s.data.toList.take p) = d
      intro hd1 hd2 hst hl
      have hpl2 := hpl.out
      rw [hst, List.append_assoc] at hpl2
      have hlen : pre.length < (places s).length := by rw [← hpl2]; simp; omega
      have hw : IntKind.i64.wrap ((p : Int) - (d.2 : Int)) = ((p - d.2 : Nat) : Int) := by
        rw [IntWalk.i64_in _ (by unfold maxLen at hs; omega)]
        omega
      have hsl : p ≤ s.size := hps
      have hpre : pre ++ [(p - d.2, d.1)] <+: (places s).reverse := by rw [← hpl2]; simp
      have Hpre := Lib.hid hpre
      clear hpre
      have Hl := Lib.hid hl
      have Hpl := Lib.hid hpl2
      have Hd1 := Lib.hid hd1
      have Hd2 := Lib.hid hd2
      have HJ := Lib.hid hJs
      have HT := Lib.hid hTs
      clear hl hpl2 hpl hst hd1 hd2 hJs hTs
      gi_wp2
      refine ⟨trivial, Hl.out.mono ?_⟩
      rintro e w2 ⟨rfl, hb2⟩
      have hc2 := (hb2.cell (p := ⟨Bn, 0, none⟩) (show Bn < wr.heap.size from ?lt)).trans hcs
      case lt =>
        rcases Nat.lt_or_ge Bn wr.heap.size with h' | h'
        · exact h'
        · simp [World.cell?, Array.getElem?_eq_none h'] at hcs
      have hT2 := Utf8Tabs_below HT.out hb2
      have hJ2 : J pre (fun _ => False) w2 := hJ.of HJ.out (fun _ h => h.elim) (.of_below _ hb2)
      have HT2 := Lib.hid hT2
      obtain ⟨fn, tmps, assign, body, hy, hR⟩ := hY pre (p - d.2, d.1) _ w2 hJ2 (fun _ h => h.elim) hlen Hpre.out
      dsimp only [encPlace] at hy
      clear hJ2 hb2 hT2 hcs
      gi_wp2
      refine hR.mono ?_
      rintro e W3 (⟨rfl, hJ3, hk3⟩ | ⟨rfl, hJx3, hk3⟩)
      · have hc3 := hk3.cell (p := ⟨Bn, 0, none⟩) (.inl hBn) hc2
        have hT3 := Lib.hid (hk3.u8 (.inl hN0) (.inl hN1) HT2.out)
        clear hk3
        gi_wp2
        go_roundw
        case rel => exact ⟨p - d.2, pre ++ [(p - d.2, d.1)], rfl, by omega, hc3, hT3.out, by unfold Hid; rw [← Hpl.out]; simp, hJ3⟩
        case measure => have := Hd1.out; have := Hd2.out; simp only [RowKit.intOf]; omega
      · gi_wp2
        refine bodyPost_ret (results_none rfl _ _ _) rfl ?_
        refine ⟨⟨_, rfl⟩, .inr ⟨pre ++ [(p - d.2, d.1)], _, Hpre.out, hJx3, fun _ h => h.elim⟩⟩
    · have hp0 : p = 0 := by omega
      subst hp0
      have Hpl := Lib.hid hpl.out
      clear hpl hTs hcs
      gi_wp2
      go_end0
      refine ⟨⟨_, rfl⟩, .inl ⟨pre, _, ?_, hJs, fun _ h => h.elim⟩⟩
      have := Hpl.out
      rw [List.take_zero, segs_nil] at this
      rw [← this]
      simp [offs]
end Go.Proofs.YtfegbfhkmdmheaaDoor

/- A region that draws its order, in a round: the operations that only read come in whatever order. -/
namespace Go.Proofs.YtfegbfhkmdmheaaDoor

variable {F : Fence} {n : Nat} {P : Program} {Q : Exit → Act → World → Prop} {ops : Array Oper}

def dstOf (ops : Array Oper) (i : Nat) : Option Tmp := (ops[i]?).bind (·.dst)
def heldOk (ops : Array Oper) (r : Nat) (L : List Bool) : Bool :=
  !(Region.ready .any ops (L ++ List.replicate (ops.size - r) false).toArray).isEmpty &&
  (Region.ready .any ops (L ++ List.replicate (ops.size - r) false).toArray).all fun i => decide (i < r) && (match ops[i]? with
    | some o => o.op.operands.all fun x => match x with
      | .tmp t => (List.range r).all fun j => L.getD j true || (dstOf ops j != some t)
      | _ => true
    | none => true)
/-- what is listed, has what it waits for listed -/
def Closed (ops : Array Oper) (L : List Bool) : Prop := ∀ j o, L.getD j false = true → ops[j]? = some o → ∀ e ∈ o.after, Region.binds .any e = true → L.getD e.on false = true
def closedB (ops : Array Oper) (L : List Bool) : Bool := (List.range L.length).all fun j => !L.getD j false || (match ops[j]? with
  | some o => o.after.all fun e => !Region.binds .any e || L.getD e.on false
  | none => true)
theorem Closed.b {ops : Array Oper} {L : List Bool} (h : Closed ops L) : closedB ops L = true := by
  unfold closedB
  refine List.all_eq_true.2 fun j _ => ?_
  cases hj : L.getD j false with
  | false => rfl
  | true =>
    cases ho : ops[j]? with
    | none => rfl
    | some o =>
      simp only [Bool.not_true, Bool.false_or]
      refine Array.all_eq_true_iff_forall_mem.2 fun e he => ?_
      cases hb : Region.binds .any e with
      | false => rfl
      | true => simp only [Bool.not_true, Bool.false_or]; exact h j o hj ho e he hb
def ReadsAll (P : Program) (ops : Array Oper) (r : Nat) (aF : Act) (w : World) : Prop :=
  ∀ i, i < r → ∃ o d v, ops[i]? = some o ∧ o.guard = none ∧ o.dst = some d ∧ (∀ cs b, o.op ≠ .select cs b) ∧ (∀ c, o.op ≠ .defer c) ∧ (execOp aF.eval o).run P w = .ok (.value v) w ∧ aF.tmps[d]? = some v ∧ o.about P w aF.eval = none
structure Agree (ops : Array Oper) (r : Nat) (aF : Act) (L : List Bool) (a : Act) : Prop where
  defers : a.defers = aF.defers
  size : a.tmps.size = aF.tmps.size
  tmps : ∀ t, (∀ j, j < r → L.getD j true = false → dstOf ops j ≠ some t) → a.tmps[t]? = aF.tmps[t]?

theorem held_in (r : Nat) (aF : Act) (w : World) (hok : ∀ L : List Bool, L.length = r → (!closedB ops L || L.all (fun b => b) || heldOk ops r L) = true) (hread : ReadsAll P ops r aF w)
    (hfin : wpAnyIn F n P .any ops Q (ops.size - r) (List.replicate r true ++ List.replicate (ops.size - r) false).toArray aF w) :
    ∀ (m : Nat) (L : List Bool) (a : Act), L.length = r → Closed ops L → L.count false = m → Agree ops r aF L a → wpAnyIn F n P .any ops Q (m + (ops.size - r)) (L ++ List.replicate (ops.size - r) false).toArray a w := by
  intro m
  induction m with
  | zero =>
    intro L a hL hcl hc hA
    have hall : ∀ b ∈ L, b = true := fun b hb => by
      cases b with
      | true => rfl
      | false => exact absurd (List.count_pos_iff.2 hb) (by omega)
    have hLr : L = List.replicate r true := by rw [← hL]; exact List.eq_replicate_of_mem hall
    have ha : a = aF := by
      have ht : a.tmps = aF.tmps := Array.ext_getElem? fun t => hA.tmps t (fun j hj hf => by
        rw [hLr] at hf
        simp [List.getD, hj] at hf)
      cases a; cases aF
      simp only at ht
      have := hA.defers
      simp only at this
      rw [ht, this]
    rw [Nat.zero_add, hLr, ha]
    exact hfin
  | succ m ih =>
    intro L a hL hcl hc hA
    have hnall : ¬ L.all (fun b => b) = true := fun h => by
      have : (false : Bool) ∈ L := List.count_pos_iff.1 (by omega)
      have := List.all_eq_true.1 h _ this
      cases this
    have hh : heldOk ops r L = true := by
      have h0 := hok L hL
      rw [hcl.b] at h0
      have hf : L.all (fun b => b) = false := by simpa using hnall
      rw [hf] at h0
      simpa using h0
    unfold heldOk at hh
    rw [Bool.and_eq_true] at hh
    obtain ⟨h1, h2⟩ := hh
    rw [show m + 1 + (ops.size - r) = (m + (ops.size - r)) + 1 by omega]
    refine ⟨fun he => ?_, fun i hi => ?_⟩
    · rw [he] at h1
      cases h1
    · have h3 := List.all_eq_true.1 h2 i hi
      rw [Bool.and_eq_true] at h3
      have hir : i < r := of_decide_eq_true h3.1
      obtain ⟨o, d, v, ho, hg, hd, hs, hdf, hrun, hv, hab⟩ := hread i hir
      rw [ho] at h3
      have h32 := h3.2
      simp only at h32
      have hun := (mem_ready.1 hi).1
      have hLi : L[i]? = some false := by
        have hlt : i < L.length := by omega
        simp only [Array.getD_eq_getD_getElem?, List.getElem?_toArray] at hun
        rw [List.getElem?_append_left hlt, List.getElem?_eq_getElem hlt] at hun
        rw [List.getElem?_eq_getElem hlt]
        exact congrArg some hun
      have hops : ∀ x ∈ o.op.operands, a.eval x = aF.eval x := fun x hx => by
        have h4 := Array.all_eq_true_iff_forall_mem.1 h32 x hx
        cases x with
        | tmp t =>
          have := hA.tmps t (fun j hj hf e => by
            have h5 := List.all_eq_true.1 h4 j (List.mem_range.2 hj)
            rw [hf, e] at h5
            simp at h5)
          simp only [Act.eval, Array.getD_eq_getD_getElem?]
          rw [this]
        | _ => rfl
      unfold wpOpIn
      simp only [ho]
      have hw : Region.wanted o (yielded ops a.tmps) = true := by unfold Region.wanted; rw [hg]
      rw [if_pos hw]
      unfold Oper.wpIn
      refine ⟨fun f hf => (by rw [about_congr o w hops, hab] at hf; cases hf), ?_⟩
      rw [Oper.semAt_plain F _ _ hdf, execOp_congr o hs hops, hrun]
      simp only [Oper.uponIn]
      have hset : (L ++ List.replicate (ops.size - r) false).toArray.setIfInBounds i true = (L.set i true ++ List.replicate (ops.size - r) false).toArray := by
        rw [List.setIfInBounds_toArray, List.set_append_left _ _ (by omega)]
      rw [hset]
      have hlt : i < L.length := by omega
      refine ih (L.set i true) (a.put o.dst v) (by simp [hL]) ?_ ?_ ?_
      · intro j oj hj hoj e he hb
        have hmono : ∀ q, L.getD q false = true → (L.set i true).getD q false = true := fun q hq => by
          rw [List.getD_eq_getElem?_getD] at hq ⊢
          by_cases hqi : i = q
          · subst hqi
            rw [List.getElem?_set_self hlt]
            rfl
          · rw [List.getElem?_set_ne hqi]
            exact hq
        by_cases hji : j = i
        · subst hji
          have hr2 := (mem_ready.1 hi).2
          obtain ⟨o2, ho2, hall2⟩ := hr2
          rw [hoj] at ho2
          have hoo := Option.some.inj ho2
          subst hoo
          have h5 := hall2 e he hb
          simp only [Array.getD_eq_getD_getElem?, List.getElem?_toArray] at h5
          refine hmono _ ?_
          rw [List.getD_eq_getElem?_getD]
          by_cases hq : e.on < L.length
          · rwa [List.getElem?_append_left hq] at h5
          · rw [List.getElem?_append_right (by omega), List.getElem?_replicate] at h5
            by_cases hq2 : e.on - L.length < ops.size - r
            · rw [if_pos hq2] at h5; cases h5
            · rw [if_neg hq2] at h5; cases h5
        · refine hmono _ (hcl j oj ?_ hoj e he hb)
          rw [List.getD_eq_getElem?_getD] at hj ⊢
          rwa [List.getElem?_set_ne (Ne.symm hji)] at hj
      · have hLe : L[i] = false := by
          have := hLi
          rw [List.getElem?_eq_getElem hlt] at this
          exact Option.some.inj this
        have := List.count_set (l := L) (a := true) (b := false) (i := i) hlt
        rw [this, hLe]
        simp
        omega
      · rw [hd]
        have hdl : d < a.tmps.size := by
          rw [hA.size]
          exact (Array.getElem?_eq_some_iff.1 hv).1
        refine ⟨hA.defers, by simp [Act.put, hA.size], fun t ht => ?_⟩
        simp only [Act.put]
        rw [Array.getElem?_setIfInBounds]
        by_cases hdt : d = t
        · subst hdt
          rw [if_pos rfl, if_pos hdl, hv]
        · rw [if_neg hdt]
          refine hA.tmps t (fun j hj hf e => ?_)
          by_cases hji : j = i
          · subst hji
            unfold dstOf at e
            rw [ho] at e
            simp [hd] at e
            exact hdt e
          · exact ht j hj (by rw [List.getD_eq_getElem?_getD, List.getElem?_set_ne (Ne.symm hji), ← List.getD_eq_getElem?_getD]; exact hf) e
def puts (a : Act) : List (Tmp × Value) → Act
  | [] => a
  | (d, v) :: t => puts (a.put (some d) v) t
theorem puts_defers : ∀ (ds : List (Tmp × Value)) (a : Act), (puts a ds).defers = a.defers
  | [], _ => rfl
  | (d, v) :: t, a => by rw [puts, puts_defers t]; rfl
theorem puts_size : ∀ (ds : List (Tmp × Value)) (a : Act), (puts a ds).tmps.size = a.tmps.size
  | [], _ => rfl
  | (d, v) :: t, a => by rw [puts, puts_size t]; simp [Act.put]
theorem puts_tmps : ∀ (ds : List (Tmp × Value)) (a : Act) (t : Tmp), (∀ x ∈ ds, x.1 ≠ t) → (puts a ds).tmps[t]? = a.tmps[t]?
  | [], _, _, _ => rfl
  | (d, v) :: r, a, t, h => by
    rw [puts, puts_tmps r _ t (fun x hx => h x (List.mem_cons_of_mem _ hx))]
    have : d ≠ t := h (d, v) List.mem_cons_self
    simp only [Act.put]
    rw [Array.getElem?_setIfInBounds, if_neg this]
def lists : Nat → List (List Bool)
  | 0 => [[]]
  | r + 1 => (lists r).flatMap fun L => [false :: L, true :: L]
theorem mem_lists : ∀ (L : List Bool), L ∈ lists L.length
  | [] => by simp [lists]
  | b :: L => by
    rw [List.length_cons, lists]
    refine List.mem_flatMap.2 ⟨L, mem_lists L, ?_⟩
    cases b <;> simp
def okAll (ops : Array Oper) (r : Nat) : Bool := (lists r).all fun L => !closedB ops L || L.all (fun b => b) || heldOk ops r L
/-- the whole region: the first r operations read, and leave what 'ds' says; then the others -/
theorem region_held_in {id : Nat} {a : Act} {w : World} (r : Nat) (ds : List (Tmp × Value)) (hm : P.follows .mixedOrders = true) (hr : r ≤ ops.size) (hds : ds.map (fun x => some x.1) = (List.range r).map (dstOf ops))
    (hok : okAll ops r = true) (hread : ReadsAll P ops r (puts a ds) w.drew)
    (hfin : wpAnyIn F n P .any ops Q (ops.size - r) (List.replicate r true ++ List.replicate (ops.size - r) false).toArray (puts a ds) w.drew) : (Code.region id ops true).wpIn F n P Q a w := by
  refine wpIn_region_any hm ?_
  have := held_in r (puts a ds) w.drew (fun L hL => List.all_eq_true.1 hok L (hL ▸ mem_lists L)) hread hfin r (List.replicate r false) a (by simp) (fun j o hj => by rw [List.getD_eq_getElem?_getD, List.getElem?_replicate] at hj; by_cases h : j < r; rw [if_pos h] at hj; cases hj; rw [if_neg h] at hj; cases hj) (by simp) ⟨(puts_defers ds a).symm, (puts_size ds a).symm, fun t ht => (puts_tmps ds a t (fun x hx e => by
    have h1 : some x.1 ∈ (List.range r).map (dstOf ops) := by rw [← hds]; exact List.mem_map.2 ⟨x, hx, rfl⟩
    obtain ⟨j, hj, hje⟩ := List.mem_map.1 h1
    have hj := List.mem_range.1 hj
    exact ht j hj (by simp [List.getD, hj]) (by rw [hje, e]))).symm⟩
  rw [Nat.add_sub_cancel' hr, List.replicate_append_replicate, Nat.add_sub_cancel' hr] at this
  exact this
def plainB : Op → Bool
  | .call _ => false
  | .defer _ => false
  | .select _ _ => false
  | _ => true
def readChk (l : List Oper) (r : Nat) (dd : List Tmp) : Bool :=
  decide (r ≤ l.length) && decide (dd.length = r) && ((List.range r).all fun i => match l[i]? with
    | some o => o.guard.isNone && plainB o.op && (o.dst == dd[i]?)
    | none => false) && decide dd.Nodup && okAll l.toArray r
def readRuns (P : Program) (aF : Act) (w : World) : List Oper → List (Tmp × Value) → Prop
  | o :: os, x :: xs => (execOp aF.eval o).run P w = .ok (.value x.2) w ∧ readRuns P aF w os xs
  | _, _ => True
theorem readRuns_at {P : Program} {aF : Act} {w : World} : ∀ {os : List Oper} {xs : List (Tmp × Value)}, readRuns P aF w os xs → ∀ (i : Nat) (o : Oper) (x : Tmp × Value), os[i]? = some o → xs[i]? = some x → (execOp aF.eval o).run P w = .ok (.value x.2) w
  | o :: os, x :: xs, h, 0, _, _, ho, hx => by
    have ho := Option.some.inj ho
    have hx := Option.some.inj hx
    subst ho hx
    exact h.1
  | o :: os, x :: xs, h, i + 1, o', x', ho, hx => readRuns_at (os := os) (xs := xs) h.2 i o' x' ho hx
  | [], _, _, _, _, _, ho, _ => by cases ho
  | _ :: _, [], _, _, _, _, _, hx => by cases hx
theorem puts_at : ∀ (ds : List (Tmp × Value)) (a : Act), (ds.map (·.1)).Nodup → (∀ x ∈ ds, x.1 < a.tmps.size) → ∀ x ∈ ds, (puts a ds).tmps[x.1]? = some x.2
  | (d, v) :: r, a, hn, hs, x, hx => by
    rw [List.map_cons, List.nodup_cons] at hn
    rw [puts]
    rcases List.mem_cons.1 hx with rfl | hx
    · rw [puts_tmps r _ _ (fun y hy e => hn.1 (by rw [← e]; exact List.mem_map.2 ⟨y, hy, rfl⟩))]
      simp only [Act.put]
      rw [Array.getElem?_setIfInBounds, if_pos rfl, if_pos (hs (d, v) List.mem_cons_self)]
    · exact puts_at r _ hn.2 (fun y hy => by
        have := hs y (List.mem_cons_of_mem _ hy)
        simpa [Act.put] using this) x hx
theorem plainB_spec {o : Oper} (h : plainB o.op = true) : (∀ cs b, o.op ≠ .select cs b) ∧ (∀ c, o.op ≠ .defer c) ∧ ∀ (P : Program) (w : World) ρ, o.about P w ρ = none := by
  refine ⟨fun cs b e => (by rw [e] at h; cases h), fun c e => (by rw [e] at h; cases h), fun P w ρ => ?_⟩
  unfold Oper.about
  cases e : o.op <;> first | rfl | (rw [e] at h; cases h)
/-- the same, its closed part asked at once -/
theorem region_read {l : List Oper} {id : Nat} {a : Act} {w : World} (r : Nat) (ds : List (Tmp × Value)) (hm : P.follows .mixedOrders = true) (hchk : readChk l r (ds.map (·.1)) = true) (hsz : ∀ x ∈ ds, x.1 < a.tmps.size)
    (hread : readRuns P (puts a ds) w.drew (l.take r) ds)
    (hfin : wpAnyIn F n P .any l.toArray Q (l.length - r) (List.replicate r true ++ List.replicate (l.length - r) false).toArray (puts a ds) w.drew) : (Code.region id l.toArray true).wpIn F n P Q a w := by
  unfold readChk at hchk
  simp only [Bool.and_eq_true, decide_eq_true_eq] at hchk
  obtain ⟨⟨⟨⟨h1, h2⟩, h3⟩, h4⟩, h5⟩ := hchk
  rw [List.length_map] at h2
  have hat : ∀ i, i < r → ∃ o d v, l[i]? = some o ∧ ds[i]? = some (d, v) ∧ o.guard = none ∧ plainB o.op = true ∧ o.dst = some d := fun i hi => by
    have h6 := List.all_eq_true.1 h3 i (List.mem_range.2 hi)
    have hil : i < l.length := by omega
    have hid : i < ds.length := by omega
    rw [List.getElem?_eq_getElem hil] at h6
    simp only [Bool.and_eq_true, beq_iff_eq] at h6
    refine ⟨l[i], ds[i].1, ds[i].2, List.getElem?_eq_getElem hil, List.getElem?_eq_getElem hid, by simpa using h6.1.1, h6.1.2, ?_⟩
    rw [h6.2, List.getElem?_map, List.getElem?_eq_getElem hid]
    rfl
  refine region_held_in r ds hm (by simpa using h1) ?_ h5 (fun i hi => ?_) (by simpa using hfin)
  · apply List.ext_getElem?
    intro i
    rw [List.getElem?_map, List.getElem?_map]
    by_cases hi : i < r
    · obtain ⟨o, d, v, ho, hd, _, _, hdst⟩ := hat i hi
      rw [hd, List.getElem?_range hi]
      unfold dstOf
      simp [ho, hdst]
    · rw [List.getElem?_eq_none (by omega), List.getElem?_eq_none (by simp; omega)]
      rfl
  · obtain ⟨o, d, v, ho, hd, hg, hp, hdst⟩ := hat i hi
    obtain ⟨p1, p2, p3⟩ := plainB_spec hp
    refine ⟨o, d, v, by simpa using ho, hg, hdst, p1, p2, ?_, puts_at ds a h4 hsz (d, v) (List.mem_of_getElem? hd), p3 _ _ _⟩
    exact readRuns_at hread i o (d, v) (by rw [List.getElem?_take_of_lt hi]; exact ho) hd
end Go.Proofs.YtfegbfhkmdmheaaDoor

/- Ranging over cluster.All: the iterator's contract. -/
namespace Go.Proofs.YtfegbfhkmdmheaaDoor
open Go.RowKit Go.Shelf Go.Lib
attribute [local go_sem] Oper.semAt_some

abbrev encCl (x : Nat × ByteArray) : Array Value := #[.int .i64 (x.1 : Int), .string x.2]
theorem roundIn_wide {m m' l l' : Nat} {P : Program} {f : FuncId} {tmps : Array Value} {assign body : Code} {w : World} {R : Ending → World → Prop} (h : RoundIn Fence.wide m P l f tmps assign body w R) : RoundIn (Fence.wide.inRound l') m' P l f tmps assign body w R :=
  ⟨h.1, fun c cs _ => h.2 c cs (fun d e => by cases e)⟩
theorem cl_mk (s : ByteArray) (w : World) : Calls Tryd.prog 20 #[.string s] w fun e w' => e = .returned (.func (.func 46) #[] #[.pointer (some ⟨w.heap.size, 0, none⟩)]) ∧ w' = w.alloc (.cells #[.string s] 9) := by
  go_enter Tryd.func20, Tryd.ntmps20
  go_wp2
  go_ret
  exact ⟨rfl, rfl⟩

set_option maxRecDepth 100000 in
set_option maxHeartbeats 1000000 in
theorem seqCl (n : Nat) (hn : 3 ≤ n) (Bn : Nat) (N₀ : Bl) (s : ByteArray) (w : World) (hBn : N₀ Bn) (hN0 : N₀ 0) (hN1 : N₀ 1) (hc : w.cell? ⟨Bn, 0, none⟩ = some (.string s)) (hs : s.size ≤ 140737488351232) (hT : Utf8Tabs 0 1 w) :
    SeqN Fence.wide n Tryd.prog 46 #[.pointer (some ⟨Bn, 0, none⟩)] encCl (fun ys => ys = pcs s) (fun pre => pre <+: pcs s) (pcs s).length N₀ w := by
  intro l J Jx W hW hJ hJx hY h0
  have hcW : W.cell? ⟨Bn, 0, none⟩ = some (.string s) := (hW.cell (p := ⟨Bn, 0, none⟩) (cell_ltN hc)).trans hc
  have hTW : Utf8Tabs 0 1 W := Utf8Tabs_below hT hW
  have h2 := tabs_size hTW
  obtain ⟨B, hB⟩ : ∃ B, W.heap.size = B := ⟨_, rfl⟩
  have hBnB : Bn < B := by rw [← hB]; exact cell_ltN hcW
  rw [hB] at hJ hJx hY h2 ⊢
  have Hy := Lib.hid hY
  have HTW := Lib.hid hTW
  have Ham := Lib.hid (fun W => all_mk s W)
  have Hcn := Lib.hid (fun i w hi hT => cnext_rest s i w hi hT hs)
  clear hc hW hT hY hTW
  refine callsIn_of_wp_marks Tryd.func46 rfl trivial ?_ rfl
  refine wpIn_wide.2 ?_
  simp only [Tryd.ntmps46, List.size_toArray, List.length_cons, List.length_nil, Nat.reduceAdd, Nat.reduceSub, Array.replicate_succ, Array.replicate_zero, List.push_toArray, List.append_toArray, List.nil_append, List.cons_append]
  go_wp2_with fail
  refine (Ham.out _).mono ?_
  rintro _ w1 ⟨rfl, rfl⟩
  obtain ⟨Wa, hWa⟩ : ∃ Wa, ((W.alloc (.cells #[.func (.yield l) #[] #[]] 77)).alloc (.cells #[.int .i64 0] 3)).alloc (.cells #[.string s] 9) = Wa := ⟨_, rfl⟩
  have hsz : Wa.heap.size = B + 3 := by rw [← hWa]; simp [hB]
  have b0 : Boxed Wa B 77 (.func (.yield l) #[] #[]) := by rw [← hWa]; simp only [Boxed, alloc_get, World.size_alloc, hB]; rw [if_neg (by omega), if_neg (by omega)]; simp
  have b1 : Boxed Wa (B + 1) 3 (.int .i64 0) := by rw [← hWa]; simp only [Boxed, alloc_get, World.size_alloc, hB]; rw [if_neg (by omega)]; simp
  have b2 : Boxed Wa (B + 1 + 1) 9 (.string s) := by rw [← hWa]; simp only [Boxed, alloc_get, World.size_alloc, hB]; simp
  have hBa : Below B W Wa := by rw [← hWa]; exact (((Below.refl B W).alloc (by omega) _).alloc (by simp; omega) _).alloc (by simp; omega) _
  have hca : Wa.cell? ⟨Bn, 0, none⟩ = some (.string s) := (hBa.cell (p := ⟨Bn, 0, none⟩) hBnB).trans hcW
  have hTa : Utf8Tabs 0 1 Wa := Utf8Tabs_below HTW.out (by rw [hB]; exact hBa)
  have hJa : J [] (fun k => B ≤ k ∧ k < B + 3) Wa := hJ _ _ _ _ _ h0 (fun _ h => h.elim) (.of_below _ (by rw [hB]; exact hBa)) ⟨fun _ h => h.elim, fun k hk => .inr (by omega)⟩
  go_wp2_with fail
  clear hWa
  refine (wpIn_wide (n := n)).1 ?_
  refine range_N1 rfl (by omega) (gf := 76) (lb := #[.pointer (some ⟨B + 1 + 1, 0, none⟩)]) rfl trivial (enters_of Tryd.func76 (by kernel_rfl) rfl)
    (seqAllN Fence.wide (n - 1) trivial rfl (by omega) (B + 1 + 1) (fun k => N₀ k ∧ k < B) s Wa b2.cell) (fun k hk => by omega) (fun _ => rfl)
    (fun pre T W' => (Boxed W' B 77 (.func (.yield l) #[] #[]) ∧ W'.cell? ⟨Bn, 0, none⟩ = some (.string s) ∧ Utf8Tabs 0 1 W' ∧ Wa.heap.size ≤ W'.heap.size) ∧
      ∃ (e : Nat) (done : List (Nat × ByteArray)), Boxed W' (B + 1) 3 (.int .i64 (placeAt s e : Int)) ∧ pre.length ≤ e ∧ e ≤ chars s ∧ done ++ pcsF s (chars s) e = pcs s ∧ J done (fun k => (B ≤ k ∧ k < B + 3) ∨ T k) W')
    (fun c pre T W' => c = .ret ∧ Wa.heap.size ≤ W'.heap.size ∧ ∃ q, q <+: pcs s ∧ Jx q (fun k => (B ≤ k ∧ k < B + 3) ∨ T k) W')
    ?hI ?hIx
    ⟨⟨b0, hca, hTa, Nat.le_refl _⟩, 0, [], b1, Nat.le_refl _, Nat.zero_le _, rfl, hJ _ _ _ _ _ hJa (fun k hk => by omega) (.refl _ _) ⟨fun k hk => .inl hk, fun k hk => .inl (hk.elim id False.elim)⟩⟩
    ?a1 ?assign ?body ?done ?stop
  case assign =>
    intro l x W K hK
    gi_wp2
    exact hK
  case hI =>
    rintro pre T T' A A' ⟨⟨h1, h2', h3, h4⟩, e, dn, h5, h6, h7, h8, h9⟩ hT hm hg
    have hlow : ∀ k, k < B + 3 → A'.heap[k]? = A.heap[k]? := fun k hk => hm.block k (by omega) (fun e => by have := (hT _ e).1; omega)
    have hbl : KeepN (fun k => k < B + 3) (fun _ => False) A A' := ⟨hm.size, fun k _ hk => hlow k (hk.elim id False.elim)⟩
    refine ⟨⟨(hlow _ (by omega)).trans h1, hbl.cell (p := ⟨Bn, 0, none⟩) (.inl (show Bn < B + 3 by omega)) h2', hbl.u8 (.inl (by omega)) (.inl (by omega)) h3, Nat.le_trans h4 hm.size⟩, e, dn, (hlow _ (by omega)).trans h5, h6, h7, h8, ?_⟩
    refine hJ _ _ _ _ _ h9 (fun k hk => ?_) (hm.mono fun k hk => .inr hk) ⟨fun k hk => hk.imp id (hg.1 k), fun k hk => ?_⟩
    · rcases hk with hk | hk
      · omega
      · have := hT k hk; omega
    · rcases hk with hk | hk
      · exact .inl (.inl hk)
      · exact (hg.2 k hk).imp .inr id
  case hIx =>
    rintro cd pre T T' A A' ⟨rfl, hsA, q, hq, h9⟩ hT hm hg
    refine ⟨rfl, Nat.le_trans hsA hm.size, q, hq, hJx _ _ _ _ _ h9 (fun k hk => ?_) (hm.mono fun k hk => .inr hk) ⟨fun k hk => hk.imp id (hg.1 k), fun k hk => ?_⟩⟩
    · rcases hk with hk | hk
      · omega
      · have := hT k hk; omega
    · rcases hk with hk | hk
      · exact .inl (.inl hk)
      · exact (hg.2 k hk).imp .inr id
  case body =>
    rintro l1 pre x T W1 hl1 hT1 hr1 ⟨⟨h1, h2', h3, h4⟩, e, dn, h5, h6, h7, h8, h9⟩ hlen hsp
    have hget := prefix_get hsp
    obtain ⟨j, hj⟩ : ∃ j, pre.length = j := ⟨_, rfl⟩
    rw [hj] at hget h6 hlen
    obtain ⟨_, hlt, hx, _⟩ := place_at s hget
    have hjm : j < chars s := by rw [places_len] at hlen; exact hlen
    have hplen : (pre ++ [x]).length = j + 1 := by simp [hj]
    obtain ⟨p, hp⟩ : ∃ p, placeAt s j = p := ⟨_, rfl⟩
    have hxp : x.1 = p := by rw [hx]; exact hp
    have c1 := h5.cell
    have c0 := h1.cell
    by_cases hje : j < e
    · have hlt2 : x.1 < placeAt s e := by rw [hxp, ← hp]; exact placeAt_lt s hje h7
      have hlti : (x.1 : Int) < (placeAt s e : Int) := by omega
      gi_wp2
      exact ⟨KeepN.refl _ _ _, ⟨h1, h2', h3, h4⟩, e, dn, h5, by rw [hplen]; omega, h7, h8, h9⟩
    · have hee : e = j := by omega
      subst hee
      have hlti : ¬ ((x.1 : Int) < (placeAt s e : Int)) := by omega
      obtain ⟨e', he'⟩ : ∃ e', clEnd s e = e' := ⟨_, rfl⟩
      have hbd := clEnd_bounds hjm
      rw [he'] at hbd
      have hstep := pcsF_step s e hjm
      rw [he', hp] at hstep
      rw [hstep] at h8
      have hcn := Hcn.out e W1 (Nat.le_of_lt hjm) h3
      rw [he', hp] at hcn
      have hpl : p < placeAt s e' := by rw [← hp]; exact placeAt_lt s hbd.1 hbd.2
      have hpe := placeAt_le s e'
      obtain ⟨P, hP⟩ : ∃ P, placeAt s e' = P := ⟨_, rfl⟩
      rw [hP] at hcn hpl hpe h8
      rw [hp] at hlti c1
      rw [hxp] at hlti
      have hw1 : IntKind.i64.wrap ((p : Int) + ((P - p : Nat) : Int)) = (P : Int) := by rw [IntWalk.i64_in _ (by omega)]; omega
      have hps : p ≤ s.size := by omega
      have hps1 : (p : Int) ≤ (s.size : Int) := by omega
      have hPs1 : (P : Int) ≤ (s.size : Int) := by omega
      have hpP1 : (p : Int) ≤ (P : Int) := by omega
      have hxv : (x.1 : Int) = (p : Int) := by omega
      have hn1 : 1 ≤ n - 1 - 1 := by omega
      have hcn' := Lib.hid hcn
      have H1 := Lib.hid h1
      have H3 := Lib.hid h3
      have H5 := Lib.hid h5
      have H8 := Lib.hid h8
      have H9 := Lib.hid h9
      clear hcn h1 h3 h5 h8 h9 hstep hx hget hsp hlt
      rw [hxv]
      gi_wp2_with fail
      refine ⟨trivial, (CallsIn.inRound l1 (callsIn_wide.2 hcn'.out)).mono ?_⟩
      rintro _ w3 ⟨rfl, b3⟩
      have k5 := boxed_below H5.out b3
      have k1 := boxed_below H1.out b3
      have kc := (b3.cell (p := ⟨Bn, 0, none⟩) (show Bn < W1.heap.size by omega)).trans h2'
      have hs3 := b3.size
      have k5c := k5.cell
      have k5f := k5.frozen
      have m5 := k5.set (.int .i64 (P : Int))
      have m1 : Boxed (w3.setCell ⟨B + 1, 0, none⟩ (.int .i64 (P : Int))) B 77 (.func (.yield l) #[] #[]) := k1.other (by omega) _
      have hkN : KeepN (fun k => k < B) T W1 (w3.setCell ⟨B + 1, 0, none⟩ (.int .i64 (P : Int))) := (KeepN.of_below _ _ b3).trans (KeepN.setCell _ _ _ _ _ _ (by omega) (fun e => by have := (hT1 _ e).1; omega))
      have hkN2 : KeepN (fun k => N₀ k ∧ k < B) T W1 (w3.setCell ⟨B + 1, 0, none⟩ (.int .i64 (P : Int))) := (KeepN.of_below _ _ b3).trans (KeepN.setCell _ _ _ _ _ _ (by omega) (fun e => by have := (hT1 _ e).1; omega))
      obtain ⟨W4, hW4⟩ : ∃ W4, w3.setCell ⟨B + 1, 0, none⟩ (.int .i64 (P : Int)) = W4 := ⟨_, rfl⟩
      have hmv : Moves (fun k => (B ≤ k ∧ k < B + 3) ∨ T k) W1 W4 := by
        rw [← hW4]
        exact (Moves.of_below _ b3).trans' ⟨rfl, rfl, rfl, by simp, fun k _ hk => Below.heap_setCell _ _ _ k (fun e => hk (.inl (by have e : k = B + 1 := e; omega)))⟩
      rw [hW4] at m5 m1 hkN hkN2
      have m5c := m5.cell
      have m1c := m1.cell
      have mcc := hkN.cell (p := ⟨Bn, 0, none⟩) (.inl hBnB) h2'
      have mT := Lib.hid (hkN.u8 (.inl (by omega)) (.inl (by omega)) H3.out)
      have hin : InT B (fun k => (B ≤ k ∧ k < B + 3) ∨ T k) W4 := fun k hk => by
        have := hmv.size
        rcases hk with hk | hk
        · omega
        · have := hT1 k hk; omega
      have hin1 : InT B (fun k => (B ≤ k ∧ k < B + 3) ∨ T k) W1 := fun k hk => by
        rcases hk with hk | hk
        · omega
        · have := hT1 k hk; omega
      have hJ4 := hJ.of H9.out hin1 hmv
      have hpre : dn ++ [(p, s.extract p P)] <+: pcs s := ⟨pcsF s (chars s) e', by rw [← H8.out]; simp⟩
      have hlen2 : dn.length < (pcs s).length := by rw [← H8.out]; simp
      have hJ5 : J dn (fun k => (B ≤ k ∧ k < B + 3) ∨ T k) W4.drew := hJ.of hJ4 hin ⟨rfl, rfl, rfl, Nat.le_refl _, fun _ _ _ => rfl⟩
      obtain ⟨fn, tmps, assign, body, hy, hR⟩ := Hy.out dn (p, s.extract p P) _ W4.drew hJ5 hin hlen2 hpre
      dsimp only [encCl] at hy
      have hR2 := Lib.hid (roundIn_wide (m' := n - 1 - 1 - 1) (l' := l1) (hR.mono (R' := fun e W' => ∃ b : Bool, e = .returned (.bool b) ∧ (b = true → J (dn ++ [(p, s.extract p P)]) (fun k => (B ≤ k ∧ k < B + 3) ∨ T k) W') ∧ (b = false → Jx (dn ++ [(p, s.extract p P)]) (fun k => (B ≤ k ∧ k < B + 3) ∨ T k) W') ∧ KeepN N₀ (fun k => (B ≤ k ∧ k < B + 3) ∨ T k) W4.drew W') (by
        rintro e W' (⟨rfl, h1, h2⟩ | ⟨rfl, h1, h2⟩)
        · exact ⟨true, rfl, fun _ => h1, fun e => (by cases e), h2⟩
        · exact ⟨false, rfl, fun e => (by cases e), fun _ => h1, h2⟩)))
      have Hk2 := Lib.hid hkN2
      have Hpre := Lib.hid hpre
      have M5 := Lib.hid m5
      have M1 := Lib.hid m1
      clear hR hkN hkN2 hpre m5 m1 b3 hJ4 hJ5 hmv
      gi_wp2_with fail
      have m1d : W4.drew.cell? ⟨B, 0, none⟩ = some (.func (.yield l) #[] #[]) := m1c
      have m5d : W4.drew.cell? ⟨B + 1, 0, none⟩ = some (.int .i64 (P : Int)) := m5c
      have mcd : W4.drew.cell? ⟨Bn, 0, none⟩ = some (.string s) := mcc
      refine region_read 6 [(18, .func (.yield l) #[] #[]), (19, .int .i64 (p : Int)), (20, .string s), (21, .int .i64 (p : Int)), (22, .int .i64 (P : Int)), (23, .string (s.extract p P))] (by kernel_rfl) (by kernel_rfl) (by simp) ?hread ?hfin
      case hread =>
        clear Hy Hcn Ham HTW hcn' H1 H3 H5 H8 H9 hR2 Hk2 Hpre M5 M1 mT hy hin hin1 hJ hJx h0 hcW hTa hJa b0 b1 b2 hBa hca k5 k1 kc k5c k5f hl1 hT1 hr1
        dsimp only [List.take, readRuns, puts, Act.put]
        refine ⟨?_, ?_, ?_, ?_, ?_, ?_, trivial⟩
        all_goals go_simp
      case hfin =>
        simp only [puts, Act.put]
        refine wpAnyIn_ready (rs := [6]) (by kernel_rfl) (by simp) ?_
        refine AllReadyIn.cons rfl (fun K hK => ?_) AllReadyIn.nil
        go_simp
        refine hR2.out.mono ?_
        rintro _ W6 ⟨bb, rfl, hbt, hbf, hk6⟩
        have hbt' := Lib.hid hbt
        have hbf' := Lib.hid hbf
        have Hk6 := Lib.hid hk6
        clear hbt hbf hk6
        refine hK _ _ ?_
        refine wpAnyIn_ready (rs := [7]) (by kernel_rfl) (by simp) ?_
        refine AllReadyIn.cons rfl (fun K2 hK2 => ?_) AllReadyIn.nil
        go_simp
        refine hK2 _ _ ?_
        refine wpAnyIn_done (by kernel_rfl) ?_ _
        clear hK hK2
        have hs4 : W4.drew.heap.size = W4.heap.size := rfl
        have hlt4 : ∀ k, k < B + 3 → k < W4.drew.heap.size := fun k hk => by have h := Hk2.out.size; show k < W4.heap.size; omega
        have hkeep : KeepN (fun k => N₀ k ∧ k < B) T W1 W6 := Hk2.out.trans ⟨Hk6.out.size, fun k hk ho => Hk6.out.block k hk (ho.imp (fun h => h.1) .inr)⟩
        have hsz6 : B + 3 ≤ W6.heap.size := by have := hkeep.size; omega
        cases bb with
        | true =>
          gi_wp2_with fail
          refine ⟨hkeep, ⟨(Hk6.out.block B (hlt4 _ (by omega)) (.inr (.inl (by omega)))).trans M1.out, Hk6.out.cell (p := ⟨Bn, 0, none⟩) (.inl hBn) mcd, Hk6.out.u8 (.inl hN0) (.inl hN1) (show Utf8Tabs 0 1 W4.drew from mT.out), hsz6⟩, e', ?_, by rw [hplen]; omega, hbd.2, dn ++ [(p, s.extract p P)], by rw [← H8.out]; simp, by have := hbt'.out; simpa using this⟩
          rw [hP]
          exact (Hk6.out.block (B + 1) (hlt4 _ (by omega)) (.inr (.inl (by omega)))).trans M5.out
        | false =>
          gi_wp2_with fail
          exact ⟨hkeep, rfl, hsz6, dn ++ [(p, s.extract p P)], Hpre.out, by have := hbf'.out; simpa using this⟩
  case done =>
    rintro D ys T W2 hD hT2 rfl ⟨⟨h1, h2', h3, h4⟩, e, dn, h5, h6, h7, h8, h9⟩ hK
    rw [places_len] at h6
    have he : e = chars s := Nat.le_antisymm h7 h6
    rw [he, pcsF_end s _ _ (Nat.le_refl _), List.append_nil] at h8
    have hin : InT B (fun k => (B ≤ k ∧ k < B + 3) ∨ T k) W2 := fun k hk => by
      rcases hk with hk | hk
      · omega
      · have := hT2 k hk; omega
    have hmv := Moves.putObj (fun k => (B ≤ k ∧ k < B + 3) ∨ T k) W2 D (.deferred none) (.inr hD)
    have hJf := hJ.of h9 hin hmv
    have hinf := hin.more hmv.size
    have HK := Lib.hid hK
    have H8 := Lib.hid h8
    clear h1 h2' h3 h5 h6 h8 h9 hK
    gi_wp2_with fail
    refine ⟨by simp, .inl ⟨_, _, rfl, run_takeDeferred HK.out, ?_⟩⟩
    exact ⟨_, results_none rfl _ _ _, ⟨_, rfl⟩, .inl ⟨dn, _, H8.out, hJf, hinf⟩⟩
  case stop =>
    rintro D c pre T W2 hD hT2 _ ⟨rfl, hsA, q, hq, h9⟩ hK
    have hin : InT B (fun k => (B ≤ k ∧ k < B + 3) ∨ T k) W2 := fun k hk => by
      rcases hk with hk | hk
      · omega
      · have := hT2 k hk; omega
    have hmv := Moves.putObj (fun k => (B ≤ k ∧ k < B + 3) ∨ T k) W2 D (.deferred none) (.inr hD)
    have hJf := hJx.of h9 hin hmv
    have hinf := hin.more hmv.size
    have HK := Lib.hid hK
    clear h9 hK
    gi_wp2_with fail
    refine ⟨by simp, .inl ⟨_, _, rfl, run_takeDeferred HK.out, ?_⟩⟩
    exact ⟨_, results_none rfl _ _ _, ⟨_, rfl⟩, .inr ⟨q, _, hq, hJf, hinf⟩⟩
end Go.Proofs.YtfegbfhkmdmheaaDoor

/- cluster.Count. -/
namespace Go.Proofs.YtfegbfhkmdmheaaDoor
open Go.RowKit Go.Shelf Go.Lib
attribute [local go_sem] Oper.semAt_some

theorem pcsF_len (s : ByteArray) : ∀ (f i : Nat), (pcsF s f i).length ≤ f
  | 0, _ => Nat.le_refl _
  | f + 1, i => by
    unfold pcsF
    split
    · have := pcsF_len s f (clEnd s i)
      simp
      omega
    · simp
theorem pcs_len (s : ByteArray) : (pcs s).length ≤ s.size := by
  have h1 := pcsF_len s (chars s) 0
  have h2 := segs_len s.data.toList
  rw [size_list] at h2
  unfold pcs
  unfold chars at h1 ⊢
  omega
end Go.Proofs.YtfegbfhkmdmheaaDoor
