/- Ranging over a function whose iterator keeps blocks of its own, what a round keeps being any set of blocks: the caller's law. -/
import Derived.Test.YthkapcnhfdpdbaaDoorSeqA
set_option linter.unusedSimpArgs false
set_option linter.unusedVariables false
namespace Go.Proofs.YthkapcnhfdpdbaaDoor
open Go.RowKit

/-- what a round keeps: the set N₀, and what is the iterator's -/
structure KeepN (N₀ : Bl) (T : Bl) (A B : World) : Prop where
  size : A.heap.size ≤ B.heap.size
  block : ∀ k, k < A.heap.size → N₀ k ∨ T k → B.heap[k]? = A.heap[k]?

section words
variable {T T' : Bl} {A B C : World} {N₀ : Bl}
theorem KeepN.refl (N₀ : Bl) (T : Bl) (A : World) : KeepN N₀ T A A := ⟨Nat.le_refl _, fun _ _ _ => rfl⟩
theorem KeepN.trans (h : KeepN N₀ T A B) (k : KeepN N₀ T B C) : KeepN N₀ T A C := ⟨Nat.le_trans h.size k.size, fun i hi hn => (k.block i (Nat.lt_of_lt_of_le hi h.size) hn).trans (h.block i hi hn)⟩
theorem KeepN.less (h : KeepN N₀ T A B) (hT : ∀ k, T' k → T k) : KeepN N₀ T' A B := ⟨h.size, fun k hk hn => h.block k hk (hn.imp id (hT k))⟩
theorem KeepN.of_below (N₀ : Bl) (T : Bl) (h : Below A.heap.size A B) : KeepN N₀ T A B := ⟨h.size, fun k hk _ => h.block k hk⟩
theorem KeepN.putObj (N₀ : Bl) (T : Bl) (A : World) (l : Nat) (o : Obj) (h0 : ¬ N₀ l) (hl : ¬ T l) : KeepN N₀ T A (A.putObj l o) := ⟨by simp, fun k _ hn => World.putObj_heap_other (fun e => by subst e; exact hn.elim h0 hl)⟩
theorem KeepN.setCell (N₀ : Bl) (T : Bl) (W : World) (b o : Nat) (v : Value) (hb : ¬ N₀ b) (hT : ¬ T b) : KeepN N₀ T W (W.setCell ⟨b, o, none⟩ v) :=
  ⟨by simp, fun k _ hn => Below.heap_setCell _ _ _ k (fun e => by
    have e : k = b := e
    subst e
    exact hn.elim hb hT)⟩
theorem KeepN.cell (h : KeepN N₀ T A B) {p : Addr} {v : Value} (hp : N₀ p.block ∨ T p.block) (hc : A.cell? p = some v) : B.cell? p = some v := by
  have hlt : p.block < A.heap.size := by
    rcases Nat.lt_or_ge p.block A.heap.size with h' | h'
    · exact h'
    · simp [World.cell?, Array.getElem?_eq_none h'] at hc
  have := h.block _ hlt hp
  unfold World.cell? at hc ⊢
  rw [this]
  exact hc
theorem KeepN.u8 (h : KeepN N₀ T A B) (h0 : N₀ 0 ∨ T 0) (h1 : N₀ 1 ∨ T 1) (hT : Lib.Utf8Tabs 0 1 A) : Lib.Utf8Tabs 0 1 B :=
  ⟨fun c hc => h.cell (p := ⟨0, c, none⟩) h0 (hT.1 c hc), fun i hi => ⟨h.cell (p := ⟨1, 2 * i, none⟩) h1 (hT.2 i hi).1, h.cell (p := ⟨1, 2 * i + 1, none⟩) h1 (hT.2 i hi).2⟩⟩
end words

/-- AN ITERATOR's CONTRACT -/
def SeqN {α : Type} (F : Fence) (n : Nat) (P : Program) (g : Nat) (lb : Array Value) (encs : α → Array Value) (S Sp : List α → Prop) (N : Nat) (N₀ : Bl) (w : World) : Prop :=
  ∀ (l : Nat) (J Jx : List α → Bl → World → Prop) (W : World), Below w.heap.size w W → TC W.heap.size J → TC W.heap.size Jx →
    (∀ pre x T W1, J pre T W1 → InT W.heap.size T W1 → pre.length < N → Sp (pre ++ [x]) → YieldAt F (n - 1) P l (encs x) W1 fun e W' =>
      (e = .returned (.bool true) ∧ J (pre ++ [x]) T W' ∧ KeepN N₀ T W1 W') ∨ (e = .returned (.bool false) ∧ Jx (pre ++ [x]) T W' ∧ KeepN N₀ T W1 W')) →
    J [] (fun _ => False) W →
    CallsIn F n P g (#[.func (.yield l) #[] #[]] ++ lb) W fun e W' => (∃ v, e = .returned v) ∧ ((∃ xs T, S xs ∧ J xs T W' ∧ InT W.heap.size T W') ∨ (∃ pre T, Sp pre ∧ Jx pre T W' ∧ InT W.heap.size T W'))

/-- HOW THE BODY OF A ROUND MAY BE LEFT -/
def postN {α : Type} (N₀ : Bl) (I : List α → Bl → World → Prop) (Ix : Code → List α → Bl → World → Prop) (xs : List α) (T : Bl) (W : World) : Exit → Act → World → Prop
  | .normal, _, W' => KeepN N₀ T W W' ∧ I xs T W'
  | .ret, _, W' => KeepN N₀ T W W' ∧ Ix .ret xs T W'
  | .exit id, _, W' => KeepN N₀ T W W' ∧ Ix (.exit id) xs T W'
  | .goto t, _, W' => KeepN N₀ T W W' ∧ Ix (.goto t) xs T W'
  | .panic _, _, _ => False
  | .outgrown, _, _ => False

section law
variable {F : Fence} {m : Nat} {P : Program} {α : Type} {ps : Array Tmp} {assign body : Code} {gf : Nat} {lb : Array Value} {encs : α → Array Value} {S Sp : List α → Prop} {N : Nat} {N₀ : Bl}

/-- the rounds, once the loop's record L lies in W1; 'bk': the blocks of book-keeping -/
theorem rounds_N {w0 : World} {fn : FuncId} (hFn : F.fn fn) {tm : Array Value} {dd : Nat} (L B : Nat) (bk : Bl) (W1 : World) (hbk : InT B bk W1) (hbL : bk L)
    (hL1 : W1.heap[L]? = some (.loop { state := .ready, pending := none, fn, tmps := tm, params := ps, assign, body, defers := dd }))
    (hseq : SeqN F m P gf lb encs S Sp N N₀ w0) (hb0 : Below w0.heap.size w0 W1) (hn0 : ∀ k, N₀ k → k < B) (hps : ∀ x, (encs x).size = ps.size)
    (I : List α → Bl → World → Prop) (Ix : Code → List α → Bl → World → Prop) (hI : TC B I) (hIx : ∀ c, TC B (Ix c)) (h0 : I [] bk W1)
    (Ax : α → Act → Bl → World → Prop) (hAx : ∀ x a', TC B (fun (_ : Unit) => Ax x a'))
    (hassign : ∀ (pre : List α) (x : α) (T : Bl) (W : World) (K : Act → World → Prop), I pre T W → InT B T W → T L → (∀ a' W', KeepN N₀ T W W' → I pre T W' → Ax x a' T W' → K a' W') →
      assign.wpIn (F.inRound L) (m - 1) P (Exit.then K (fun _ _ _ => False)) { tmps := (ps.zip (encs x)).foldl (fun t (p, v) => t.setIfInBounds p v) tm, defers := [] } W)
    (hbody : ∀ (pre : List α) (x : α) (a' : Act) (T : Bl) (W : World), T L → InT B T W → (∃ r, W.heap[L]? = some (.loop r)) → I pre T W → Ax x a' T W → pre.length < N → Sp (pre ++ [x]) →
      body.wpIn (F.inRound L) (m - 1) P (postN N₀ I Ix (pre ++ [x]) T W) a' W) :
    CallsIn F m P gf (#[.func (.yield L) #[] #[]] ++ lb) W1 fun e W2 => (∃ v, e = .returned v) ∧ (∀ k, bk k → k ≠ L → W2.heap[k]? = W1.heap[k]?) ∧
      ((∃ xs T, S xs ∧ I xs T W2 ∧ InT B T W2 ∧ (∀ k, bk k → T k) ∧ W2.heap[L]? = some (.loop { state := .ready, pending := none, fn, tmps := tm, params := ps, assign, body, defers := dd })) ∨
       (∃ pre T c, Sp pre ∧ Ix c pre T W2 ∧ InT B T W2 ∧ (∀ k, bk k → T k) ∧ W2.heap[L]? = some (.loop { state := .done, pending := some c, fn, tmps := tm, params := ps, assign, body, defers := dd }))) := by
  obtain ⟨rec, hrec⟩ : ∃ rec : LoopState → Option Code → Loop, rec = fun st pe => { state := st, pending := pe, fn, tmps := tm, params := ps, assign, body, defers := dd } := ⟨_, rfl⟩
  have hL : W1.heap[L]? = some (.loop (rec .ready none)) := by rw [hrec]; exact hL1
  have hB1 : ∀ k, bk k → B ≤ k ∧ k < W1.heap.size := hbk
  have hin : ∀ {T : Bl} {W : World}, InT W1.heap.size T W → W1.heap.size ≤ W.heap.size → InT B (fun k => bk k ∨ T k) W := by
    intro T W hT hs k hk
    have := hB1 L hbL
    rcases hk with hk | hk
    · have := hB1 k hk; omega
    · have := hT k hk; omega
  have hmv : ∀ {T : Bl} {A A' : World}, Moves T A A' → Moves (fun k => bk k ∨ T k) A A' := fun h => h.mono fun _ => .inr
  have hgr : ∀ {T T' : Bl} {A A' : World}, Grow T T' A A' → Grow (fun k => bk k ∨ T k) (fun k => bk k ∨ T' k) A A' := fun h =>
    ⟨fun k hk => hk.imp id (h.1 k), fun k hk => hk.elim (fun hk => .inl (.inl hk)) (fun hk => (h.2 k hk).imp .inr id)⟩
  have hstay : ∀ {T : Bl} {A A' : World}, Moves T A A' → InT W1.heap.size T A → W1.heap.size ≤ A.heap.size → ∀ k, bk k → A'.heap[k]? = A.heap[k]? := fun h hT hs k hk =>
    h.block k (Nat.lt_of_lt_of_le (hB1 k hk).2 hs) (fun e => by have := hT k e; have := hB1 k hk; omega)
  refine (hseq L (fun pre T W => I pre (fun k => bk k ∨ T k) W ∧ W.heap[L]? = some (.loop (rec .ready none)) ∧ (∀ k, bk k → k ≠ L → W.heap[k]? = W1.heap[k]?) ∧ W1.heap.size ≤ W.heap.size)
    (fun pre T W => ∃ c, Ix c pre (fun k => bk k ∨ T k) W ∧ W.heap[L]? = some (.loop (rec .done (some c))) ∧ (∀ k, bk k → k ≠ L → W.heap[k]? = W1.heap[k]?) ∧ W1.heap.size ≤ W.heap.size) W1 hb0 ?_ ?_ ?_
    ⟨hI _ _ _ _ _ h0 hbk (Moves.refl _ _) ⟨fun k h => .inl h, fun k h => .inl (h.elim id False.elim)⟩, hL, fun _ _ _ => rfl, Nat.le_refl _⟩).mono ?_
  · rintro s T T' A A' ⟨hi, hl, ho, hs⟩ hT hm hg
    exact ⟨hI _ _ _ _ _ hi (hin hT hs) (hmv hm) (hgr hg), (hstay hm hT hs L hbL).trans hl, fun k hk hne => (hstay hm hT hs k hk).trans (ho k hk hne), Nat.le_trans hs hm.size⟩
  · rintro s T T' A A' ⟨c, hi, hl, ho, hs⟩ hT hm hg
    exact ⟨c, hIx c _ _ _ _ _ hi (hin hT hs) (hmv hm) (hgr hg), (hstay hm hT hs L hbL).trans hl, fun k hk hne => (hstay hm hT hs k hk).trans (ho k hk hne), Nat.le_trans hs hm.size⟩
  · rintro pre x T W ⟨hi, hl, ho, hs⟩ hT hlen hsp
    have hTb : InT B (fun k => bk k ∨ T k) W := hin hT hs
    have hnL : ¬ T L := fun e => by have := hT L e; have := hB1 L hbL; omega
    have hy := run_yield (P := P) (args := encs x) hl (by rw [hrec]; exact hps x)
    rw [hrec] at hy
    refine ⟨fn, _, assign, body, hy, roundIn_of_wpIn hFn (hassign pre x _ W _ hi hTb (.inl hbL) ?_)⟩
    intro a' Wa hka hia hax
    have hla : Wa.heap[L]? = some (.loop (rec .ready none)) := (hka.block L (hTb L (.inl hbL)).2 (.inr (.inl hbL))).trans hl
    have hsa : W1.heap.size ≤ Wa.heap.size := Nat.le_trans hs hka.size
    have hTa : InT B (fun k => bk k ∨ T k) Wa := hTb.more hka.size
    refine ⟨_, run_beginRound hla (by rw [hrec]), ?_⟩
    have hlt : L < Wa.heap.size := (hTa L (.inl hbL)).2
    have hmb : Moves (fun k => bk k ∨ T k) Wa (Wa.putObj L (.loop { rec .ready none with state := .busy })) := Moves.putObj _ _ _ _ (.inl hbL)
    have hlb : (Wa.putObj L (.loop { rec .ready none with state := .busy })).heap[L]? = some (.loop { rec .ready none with state := .busy }) := World.putObj_heap_same hlt
    have hsb : W1.heap.size ≤ (Wa.putObj L (.loop { rec .ready none with state := .busy })).heap.size := by simpa using hsa
    have hob : ∀ k, bk k → k ≠ L → (Wa.putObj L (.loop { rec .ready none with state := .busy })).heap[k]? = W1.heap[k]? := fun k hk hne =>
      (World.putObj_heap_other hne).trans ((hka.block k (hTb k (.inl hk)).2 (.inr (.inl hk))).trans (ho k hk hne))
    have hkb : KeepN N₀ T W (Wa.putObj L (.loop { rec .ready none with state := .busy })) := (hka.less fun _ => .inr).trans (KeepN.putObj _ _ _ _ _ (fun e => by have := hn0 L e; have := (hB1 L hbL).1; omega) hnL)
    have hib := hI.of hia hTa hmb
    have haxb := (hAx x a').of (s := ()) hax hTa hmb
    have hTbb : InT B (fun k => bk k ∨ T k) (Wa.putObj L (.loop { rec .ready none with state := .busy })) := hTa.more hmb.size
    revert hlb hsb hob hkb hib haxb hTbb
    generalize Wa.putObj L (.loop { rec .ready none with state := .busy }) = Wb
    intro hlb hsb hob hkb hib haxb hTbb
    refine wpIn_mono (hbody pre x a' _ Wb (.inl hbL) hTbb ⟨_, hlb⟩ hib haxb hlen hsp) ?_
    have fin : ∀ (jump : Option Code) (W3 : World), KeepN N₀ (fun k => bk k ∨ T k) Wb W3 →
        (Instr.endRound L jump).run P W3 = .ok (.bool jump.isNone) (W3.putObj L (.loop (rec (if jump.isNone then .ready else .done) jump))) ∧
        (W3.putObj L (.loop (rec (if jump.isNone then .ready else .done) jump))).heap[L]? = some (.loop (rec (if jump.isNone then .ready else .done) jump)) ∧
        (∀ k, bk k → k ≠ L → (W3.putObj L (.loop (rec (if jump.isNone then .ready else .done) jump))).heap[k]? = W1.heap[k]?) ∧
        W1.heap.size ≤ (W3.putObj L (.loop (rec (if jump.isNone then .ready else .done) jump))).heap.size ∧
        Moves (fun k => bk k ∨ T k) W3 (W3.putObj L (.loop (rec (if jump.isNone then .ready else .done) jump))) ∧
        InT B (fun k => bk k ∨ T k) W3 ∧ KeepN N₀ T W (W3.putObj L (.loop (rec (if jump.isNone then .ready else .done) jump))) := fun jump W3 hk3 => by
      have hl3 : W3.heap[L]? = some (.loop { rec .ready none with state := .busy }) := (hk3.block L (hTbb L (.inl hbL)).2 (.inr (.inl hbL))).trans hlb
      have hr := run_endRound (P := P) jump hl3
      refine ⟨by rw [hrec] at hr ⊢; exact hr, World.putObj_heap_same (Array.getElem?_eq_some_iff.1 hl3).1, fun k hk hne => (World.putObj_heap_other hne).trans ((hk3.block k (hTbb k (.inl hk)).2 (.inr (.inl hk))).trans (hob k hk hne)), ?_, Moves.putObj _ _ _ _ (.inl hbL), hTbb.more hk3.size, ?_⟩
      · have := hk3.size; simp; omega
      · exact hkb.trans ((hk3.less fun _ => .inr).trans (KeepN.putObj _ _ _ _ _ (fun e => by have := hn0 L e; have := (hB1 L hbL).1; omega) hnL))
    rintro e a3 W3 hp
    cases e with
    | normal =>
      obtain ⟨hk3, hi3⟩ := hp
      obtain ⟨hr, hl4, ho4, hs4, hm4, hT4, hk4⟩ := fin none W3 hk3
      exact ⟨_, _, hr, .inl ⟨rfl, ⟨hI.of hi3 hT4 hm4, hl4, ho4, hs4⟩, hk4⟩⟩
    | ret =>
      obtain ⟨hk3, hi3⟩ := hp
      obtain ⟨hr, hl4, ho4, hs4, hm4, hT4, hk4⟩ := fin (some .ret) W3 hk3
      exact ⟨_, _, hr, .inr ⟨rfl, ⟨.ret, (hIx _).of hi3 hT4 hm4, hl4, ho4, hs4⟩, hk4⟩⟩
    | exit id =>
      obtain ⟨hk3, hi3⟩ := hp
      obtain ⟨hr, hl4, ho4, hs4, hm4, hT4, hk4⟩ := fin (some (.exit id)) W3 hk3
      exact ⟨_, _, hr, .inr ⟨rfl, ⟨.exit id, (hIx _).of hi3 hT4 hm4, hl4, ho4, hs4⟩, hk4⟩⟩
    | goto t =>
      obtain ⟨hk3, hi3⟩ := hp
      obtain ⟨hr, hl4, ho4, hs4, hm4, hT4, hk4⟩ := fin (some (.goto t)) W3 hk3
      exact ⟨_, _, hr, .inr ⟨rfl, ⟨.goto t, (hIx _).of hi3 hT4 hm4, hl4, ho4, hs4⟩, hk4⟩⟩
    | panic ch => exact hp.elim
    | outgrown => exact hp.elim
  · rintro e W2 ⟨hv, (⟨xs, T, hS, ⟨hi, hl, ho, hs⟩, hT⟩ | ⟨pre, T, hSp, ⟨c, hi, hl, ho, hs⟩, hT⟩)⟩
    · exact ⟨hv, ho, .inl ⟨xs, _, hS, hi, hin hT hs, fun _ => .inl, by rw [hrec] at hl; exact hl⟩⟩
    · exact ⟨hv, ho, .inr ⟨pre, _, c, hSp, hi, hin hT hs, fun _ => .inl, by rw [hrec] at hl; exact hl⟩⟩

/-- THE CALLER's LAW, at a loop that stands in no round. -/
theorem range_N {n : Nat} {g : Operand} {Q : Exit → Act → World → Prop} {a : Act} {w : World} (hro : F.round = none) (h1 : 1 ≤ n) (hg : a.eval g = .func (.func gf) #[] lb) (hFg : F.fn gf) (eg : ∀ args w, (callFunc gf args).run P w = .ok (.enter gf args) w)
    (hseq : SeqN F (n - 1) P gf lb encs S Sp N N₀ w) (hn0 : ∀ k, N₀ k → k < w.heap.size) (hps : ∀ x, (encs x).size = ps.size)
    (I : List α → Bl → World → Prop) (Ix : Code → List α → Bl → World → Prop) (hI : TC w.heap.size I) (hIx : ∀ c, TC w.heap.size (Ix c)) (h0 : I [] (fun _ => False) w)
    (Ax : α → Act → Bl → World → Prop) (hAx : ∀ x a', TC w.heap.size (fun (_ : Unit) => Ax x a'))
    (hassign : ∀ (l : Nat) (pre : List α) (x : α) (T : Bl) (W : World) (K : Act → World → Prop), I pre T W → InT w.heap.size T W → T l → (∀ a' W', KeepN N₀ T W W' → I pre T W' → Ax x a' T W' → K a' W') →
      assign.wpIn (F.inRound l) (n - 1 - 1) P (Exit.then K (fun _ _ _ => False)) { tmps := (ps.zip (encs x)).foldl (fun t (p, v) => t.setIfInBounds p v) a.tmps, defers := [] } W)
    (hbody : ∀ (l : Nat) (pre : List α) (x : α) (a' : Act) (T : Bl) (W : World), T l → InT w.heap.size T W → (∃ r, W.heap[l]? = some (.loop r)) → I pre T W → Ax x a' T W → pre.length < N → Sp (pre ++ [x]) →
      body.wpIn (F.inRound l) (n - 1 - 1) P (postN N₀ I Ix (pre ++ [x]) T W) a' W)
    (hdone : ∀ (D : Nat) (xs : List α) (T : Bl) (W : World), T D → InT w.heap.size T W → S xs → I xs T W → W.heap[D]? = some (.deferred (some [])) → Q .normal { a with defers := { target := .collected D, args := #[] } :: a.defers } W)
    (hstop : ∀ (D : Nat) (c : Code) (pre : List α) (T : Bl) (W : World), T D → InT w.heap.size T W → Sp pre → Ix c pre T W → W.heap[D]? = some (.deferred (some [])) → c.wpIn F n P Q { a with defers := { target := .collected D, args := #[] } :: a.defers } W) :
    (Code.rangeFunc g ps assign body).wpIn F n P Q a w := by
  refine wpIn_rangeFunc ?_
  intro fn hfn
  rw [hro]
  obtain ⟨W1, hW1⟩ : ∃ W1, (w.alloc (.deferred (some []))).alloc (.loop { state := .ready, pending := none, fn, tmps := a.tmps, params := ps, assign, body, defers := w.heap.size }) = W1 := ⟨_, rfl⟩
  have hs1 : W1.heap.size = w.heap.size + 2 := by rw [← hW1]; simp
  have hL1 : W1.heap[w.heap.size + 1]? = some (.loop { state := .ready, pending := none, fn, tmps := a.tmps, params := ps, assign, body, defers := w.heap.size }) := by
    rw [← hW1]
    have := World.alloc_heap_new (w.alloc (.deferred (some []))) (.loop { state := .ready, pending := none, fn, tmps := a.tmps, params := ps, assign, body, defers := w.heap.size })
    rwa [World.size_alloc] at this
  have hD1 : W1.heap[w.heap.size]? = some (.deferred (some [])) := by
    rw [← hW1]
    exact (Below.heap_alloc _ _ _ (by simp)).trans (World.alloc_heap_new w _)
  have hbw : Below w.heap.size w W1 := by rw [← hW1]; exact ((Below.refl _ w).alloc (Nat.le_refl _) _).alloc (by simp) _
  refine ⟨w.heap.size + 1, [{ target := .collected w.heap.size, args := #[] }], W1, { target := .fn (.func gf) lb, args := #[.func (.yield (w.heap.size + 1)) #[] #[]] }, W1, gf,
    #[.func (.yield (w.heap.size + 1)) #[] #[]] ++ lb, W1, by rw [← hW1]; exact run_enterLoop_outer _ _ _ _ _, by simp only [resolve, hg]; simp [go_sem], fun f' hf' => by simp [Target.leads] at hf'; subst hf'; exact hFg, by simp [invoke, go_sem, eg], fun _ => h1, ?_⟩
  refine (rounds_N hfn (w.heap.size + 1) w.heap.size (fun k => k = w.heap.size ∨ k = w.heap.size + 1) W1 (fun k hk => by rcases hk with rfl | rfl <;> omega) (.inr rfl) hL1 hseq hbw hn0 hps I Ix hI hIx
    (hI _ _ _ _ _ h0 (fun k h => h.elim) (.of_below _ hbw) ⟨fun k h => h.elim, fun k hk => .inr (by rcases hk with rfl | rfl <;> omega)⟩) Ax hAx (hassign (w.heap.size + 1)) (hbody (w.heap.size + 1))).mono ?_
  rintro e W2 ⟨⟨v, rfl⟩, ho, (⟨xs, T, hS, hi, hT, hsub, hl⟩ | ⟨pre, T, c, hSp, hi, hT, hsub, hl⟩)⟩
  · refine ⟨none, _, run_endLoop (P := P) hl (by simp), ?_⟩
    have hmv := Moves.putObj T W2 (w.heap.size + 1) (.loop { state := .exhausted, pending := none, fn, tmps := a.tmps, params := ps, assign, body, defers := w.heap.size }) (hsub _ (.inr rfl))
    exact hdone w.heap.size xs T _ (hsub _ (.inl rfl)) (hT.more hmv.size) hS (hI.of hi hT hmv) ((World.putObj_heap_other (by omega)).trans ((ho _ (.inl rfl) (by omega)).trans hD1))
  · refine ⟨some c, _, run_endLoop (P := P) hl (by simp), ?_⟩
    have hmv := Moves.putObj T W2 (w.heap.size + 1) (.loop { state := .exhausted, pending := some c, fn, tmps := a.tmps, params := ps, assign, body, defers := w.heap.size }) (hsub _ (.inr rfl))
    exact hstop w.heap.size c pre T _ (hsub _ (.inl rfl)) (hT.more hmv.size) hSp ((hIx c).of hi hT hmv) ((World.putObj_heap_other (by omega)).trans ((ho _ (.inl rfl) (by omega)).trans hD1))

/-- the law where the assignment lays no block -/
theorem range_N1 {n : Nat} {g : Operand} {Q : Exit → Act → World → Prop} {a : Act} {w : World} (hro : F.round = none) (h1 : 1 ≤ n) (hg : a.eval g = .func (.func gf) #[] lb) (hFg : F.fn gf) (eg : ∀ args w, (callFunc gf args).run P w = .ok (.enter gf args) w)
    (hseq : SeqN F (n - 1) P gf lb encs S Sp N N₀ w) (hn0 : ∀ k, N₀ k → k < w.heap.size) (hps : ∀ x, (encs x).size = ps.size)
    (I : List α → Bl → World → Prop) (Ix : Code → List α → Bl → World → Prop) (hI : TC w.heap.size I) (hIx : ∀ c, TC w.heap.size (Ix c)) (h0 : I [] (fun _ => False) w)
    (a₁ : α → Act)
    (hassign : ∀ (l : Nat) (x : α) (W : World) (K : Act → World → Prop), K (a₁ x) W →
      assign.wpIn (F.inRound l) (n - 1 - 1) P (Exit.then K (fun _ _ _ => False)) { tmps := (ps.zip (encs x)).foldl (fun t (p, v) => t.setIfInBounds p v) a.tmps, defers := [] } W)
    (hbody : ∀ (l : Nat) (pre : List α) (x : α) (T : Bl) (W : World), T l → InT w.heap.size T W → (∃ r, W.heap[l]? = some (.loop r)) → I pre T W → pre.length < N → Sp (pre ++ [x]) →
      body.wpIn (F.inRound l) (n - 1 - 1) P (postN N₀ I Ix (pre ++ [x]) T W) (a₁ x) W)
    (hdone : ∀ (D : Nat) (xs : List α) (T : Bl) (W : World), T D → InT w.heap.size T W → S xs → I xs T W → W.heap[D]? = some (.deferred (some [])) → Q .normal { a with defers := { target := .collected D, args := #[] } :: a.defers } W)
    (hstop : ∀ (D : Nat) (c : Code) (pre : List α) (T : Bl) (W : World), T D → InT w.heap.size T W → Sp pre → Ix c pre T W → W.heap[D]? = some (.deferred (some [])) → c.wpIn F n P Q { a with defers := { target := .collected D, args := #[] } :: a.defers } W) :
    (Code.rangeFunc g ps assign body).wpIn F n P Q a w :=
  range_N hro h1 hg hFg eg hseq hn0 hps I Ix hI hIx h0 (fun x a' _ _ => a' = a₁ x) (fun _ _ _ _ _ _ _ h _ _ _ => h) (fun l pre x T W K hi _ _ hK => hassign l x W K (hK _ _ (KeepN.refl _ _ _) hi rfl))
    (fun l pre x a' T W hl hT hr hi e hn hs => by subst e; exact hbody l pre x T W hl hT hr hi hn hs) hdone hstop

/-- THE CALLER's LAW, at a loop that stands in a round of loop l₀. -/
theorem range_NN {n : Nat} {g : Operand} {Q : Exit → Act → World → Prop} {a : Act} {w : World} {l₀ : Nat} {r₀ : Loop} (hro : F.round = some l₀) (hl₀ : w.heap[l₀]? = some (.loop r₀)) (h1 : 1 ≤ n) (hg : a.eval g = .func (.func gf) #[] lb) (hFg : F.fn gf) (eg : ∀ args w, (callFunc gf args).run P w = .ok (.enter gf args) w)
    (hseq : SeqN F (n - 1) P gf lb encs S Sp N N₀ w) (hn0 : ∀ k, N₀ k → k < w.heap.size) (hps : ∀ x, (encs x).size = ps.size)
    (I : List α → Bl → World → Prop) (Ix : Code → List α → Bl → World → Prop) (hI : TC w.heap.size I) (hIx : ∀ c, TC w.heap.size (Ix c)) (h0 : I [] (fun _ => False) w)
    (Ax : α → Act → Bl → World → Prop) (hAx : ∀ x a', TC w.heap.size (fun (_ : Unit) => Ax x a'))
    (hassign : ∀ (l : Nat) (pre : List α) (x : α) (T : Bl) (W : World) (K : Act → World → Prop), I pre T W → InT w.heap.size T W → T l → (∀ a' W', KeepN N₀ T W W' → I pre T W' → Ax x a' T W' → K a' W') →
      assign.wpIn (F.inRound l) (n - 1 - 1) P (Exit.then K (fun _ _ _ => False)) { tmps := (ps.zip (encs x)).foldl (fun t (p, v) => t.setIfInBounds p v) a.tmps, defers := [] } W)
    (hbody : ∀ (l : Nat) (pre : List α) (x : α) (a' : Act) (T : Bl) (W : World), T l → InT w.heap.size T W → (∃ r, W.heap[l]? = some (.loop r)) → I pre T W → Ax x a' T W → pre.length < N → Sp (pre ++ [x]) →
      body.wpIn (F.inRound l) (n - 1 - 1) P (postN N₀ I Ix (pre ++ [x]) T W) a' W)
    (hdone : ∀ (xs : List α) (T : Bl) (W : World), InT w.heap.size T W → S xs → I xs T W → Q .normal a W)
    (hstop : ∀ (c : Code) (pre : List α) (T : Bl) (W : World), InT w.heap.size T W → Sp pre → Ix c pre T W → c.wpIn F n P Q a W) :
    (Code.rangeFunc g ps assign body).wpIn F n P Q a w := by
  refine wpIn_rangeFunc ?_
  intro fn hfn
  rw [hro]
  obtain ⟨W1, hW1⟩ : ∃ W1, w.alloc (.loop { state := .ready, pending := none, fn, tmps := a.tmps, params := ps, assign, body, defers := r₀.defers }) = W1 := ⟨_, rfl⟩
  have hs1 : W1.heap.size = w.heap.size + 1 := by rw [← hW1]; simp
  have hL1 : W1.heap[w.heap.size]? = some (.loop { state := .ready, pending := none, fn, tmps := a.tmps, params := ps, assign, body, defers := r₀.defers }) := by rw [← hW1]; exact World.alloc_heap_new w _
  have hbw : Below w.heap.size w W1 := by rw [← hW1]; exact (Below.refl _ w).alloc (Nat.le_refl _) _
  refine ⟨w.heap.size, [], W1, { target := .fn (.func gf) lb, args := #[.func (.yield w.heap.size) #[] #[]] }, W1, gf,
    #[.func (.yield w.heap.size) #[] #[]] ++ lb, W1, by rw [← hW1]; exact run_enterLoop_inner hl₀ _ _ _ _ _, by simp only [resolve, hg]; simp [go_sem], fun f' hf' => by simp [Target.leads] at hf'; subst hf'; exact hFg, by simp [invoke, go_sem, eg], fun _ => h1, ?_⟩
  refine (rounds_N hfn w.heap.size w.heap.size (fun k => k = w.heap.size) W1 (fun k hk => by subst hk; omega) rfl hL1 hseq hbw hn0 hps I Ix hI hIx
    (hI _ _ _ _ _ h0 (fun k h => h.elim) (.of_below _ hbw) ⟨fun k h => h.elim, fun k hk => .inr (by subst hk; omega)⟩) Ax hAx (hassign w.heap.size) (hbody w.heap.size)).mono ?_
  rintro e W2 ⟨⟨v, rfl⟩, ho, (⟨xs, T, hS, hi, hT, hsub, hl⟩ | ⟨pre, T, c, hSp, hi, hT, hsub, hl⟩)⟩
  · refine ⟨none, _, run_endLoop (P := P) hl (by simp), ?_⟩
    have hmv := Moves.putObj T W2 w.heap.size (.loop { state := .exhausted, pending := none, fn, tmps := a.tmps, params := ps, assign, body, defers := r₀.defers }) (hsub _ rfl)
    exact hdone xs T _ (hT.more hmv.size) hS (hI.of hi hT hmv)
  · refine ⟨some c, _, run_endLoop (P := P) hl (by simp), ?_⟩
    have hmv := Moves.putObj T W2 w.heap.size (.loop { state := .exhausted, pending := some c, fn, tmps := a.tmps, params := ps, assign, body, defers := r₀.defers }) (hsub _ rfl)
    exact hstop c pre T _ (hT.more hmv.size) hSp ((hIx c).of hi hT hmv)
theorem range_NN1 {n : Nat} {g : Operand} {Q : Exit → Act → World → Prop} {a : Act} {w : World} {l₀ : Nat} {r₀ : Loop} (hro : F.round = some l₀) (hl₀ : w.heap[l₀]? = some (.loop r₀)) (h1 : 1 ≤ n) (hg : a.eval g = .func (.func gf) #[] lb) (hFg : F.fn gf) (eg : ∀ args w, (callFunc gf args).run P w = .ok (.enter gf args) w)
    (hseq : SeqN F (n - 1) P gf lb encs S Sp N N₀ w) (hn0 : ∀ k, N₀ k → k < w.heap.size) (hps : ∀ x, (encs x).size = ps.size)
    (I : List α → Bl → World → Prop) (Ix : Code → List α → Bl → World → Prop) (hI : TC w.heap.size I) (hIx : ∀ c, TC w.heap.size (Ix c)) (h0 : I [] (fun _ => False) w)
    (a₁ : α → Act)
    (hassign : ∀ (l : Nat) (x : α) (W : World) (K : Act → World → Prop), K (a₁ x) W →
      assign.wpIn (F.inRound l) (n - 1 - 1) P (Exit.then K (fun _ _ _ => False)) { tmps := (ps.zip (encs x)).foldl (fun t (p, v) => t.setIfInBounds p v) a.tmps, defers := [] } W)
    (hbody : ∀ (l : Nat) (pre : List α) (x : α) (T : Bl) (W : World), T l → InT w.heap.size T W → (∃ r, W.heap[l]? = some (.loop r)) → I pre T W → pre.length < N → Sp (pre ++ [x]) →
      body.wpIn (F.inRound l) (n - 1 - 1) P (postN N₀ I Ix (pre ++ [x]) T W) (a₁ x) W)
    (hdone : ∀ (xs : List α) (T : Bl) (W : World), InT w.heap.size T W → S xs → I xs T W → Q .normal a W)
    (hstop : ∀ (c : Code) (pre : List α) (T : Bl) (W : World), InT w.heap.size T W → Sp pre → Ix c pre T W → c.wpIn F n P Q a W) :
    (Code.rangeFunc g ps assign body).wpIn F n P Q a w :=
  range_NN hro hl₀ h1 hg hFg eg hseq hn0 hps I Ix hI hIx h0 (fun x a' _ _ => a' = a₁ x) (fun _ _ _ _ _ _ _ h _ _ _ => h) (fun l pre x T W K hi _ _ hK => hassign l x W K (hK _ _ (KeepN.refl _ _ _) hi rfl))
    (fun l pre x a' T W hl hT hr hi e hn hs => by subst e; exact hbody l pre x T W hl hT hr hi hn hs) hdone hstop
end law
end Go.Proofs.YthkapcnhfdpdbaaDoor
