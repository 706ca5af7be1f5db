/- The composer: reaches. -/
import Derived.Test.YtfegbfhkmdmheaaDoorApG
import Derived.Deep.QuietTactic
import Derived.BigQuiet
import Derived.Deep.RegionLaw
set_option linter.unusedSimpArgs false
set_option linter.unusedVariables false
namespace Go.Proofs.YtfegbfhkmdmheaaDoor
open Go.RowKit Go.Lib

def CompMap (w : World) (mv : Value) : Prop := mv = .map none ∨ ∃ Bm M, mv = .map (some Bm) ∧ MapIs w Bm M pairsL
/-- a composer in block C: what it has made, where its last starter stands -/
def Comp (w : World) (B C : Nat) (made : List Pc) (st : Option Nat) : Prop :=
  B ≤ C ∧ (∀ k, st = some k → k < made.length) ∧ ∃ v mv, w.heap[C]? = some (.cells #[v, .bool st.isSome, .int .i64 ((st.getD 0 : Nat) : Int), mv] 66 (0, 0)) ∧
    w.ownsRow B 100 3 v made.length (flat encP made) ∧ CompMap w mv
theorem own_ne4 {w : World} {B : Nat} {e T : TypeId} {v : Value} {sz n : Nat} {xs : List Value} {b : Nat} {cs : Array Value} {fr : Nat × Nat} (hown : w.ownsRow B e sz v n xs) (hb : w.heap[b]? = some (.cells cs T fr)) (hTe : T ≠ e) : v.ownBlock ≠ some b := by
  rcases hown.2 with ⟨rfl, _⟩ | ⟨g, cap, cur, rfl, _, hg, _⟩
  · intro h; cases h
  · intro h
    cases h
    rw [hg] at hb
    simp only [Option.some.injEq, Obj.cells.injEq] at hb
    exact hTe hb.2.1.symm
theorem CompMap.keep {w w' : World} {mv : Value} (h : CompMap w mv) (hk : ∀ Bm, mv = .map (some Bm) → w'.heap[Bm]? = w.heap[Bm]?) : CompMap w' mv := by
  rcases h with h | ⟨Bm, M, rfl, ⟨D, h1, ⟨es, clock, e1, e2⟩, h3⟩⟩
  · exact .inl h
  · exact .inr ⟨Bm, M, rfl, ⟨D, h1, ⟨es, clock, (hk Bm rfl).trans e1, e2⟩, h3⟩⟩
theorem CompMap.lt {w : World} {Bm : Nat} {mv : Value} (h : CompMap w mv) (e : mv = .map (some Bm)) : Bm < w.heap.size := by
  rcases h with h | ⟨Bm', M, h1, h2⟩
  · rw [h] at e; cases e
  · rw [h1] at e
    cases e
    exact h2.lt
theorem Comp.below {w w' : World} {B C : Nat} {made : List Pc} {st : Option Nat} (h : Comp w B C made st) (hb : Below w.heap.size w w') : Comp w' B C made st := by
  obtain ⟨h1, h2, v, mv, h3, h4, h5⟩ := h
  exact ⟨h1, h2, v, mv, (hb.block C (heap_lt4 h3)).trans h3, own_below h4 hb, h5.keep fun Bm e => hb.block Bm (h5.lt e)⟩

theorem below_N4 {B : Nat} {a w : World} (h : Below B a w) : ∀ n, Below B a (w.drewN n) := fun _ => ⟨h.os, h.tape, h.output, h.size, h.block⟩
/-- a map's block is no row of cells -/
theorem CompMap.ne {w : World} {mv : Value} {Bm g : Nat} (h : CompMap w mv) (e : mv = .map (some Bm)) {cs : Array Value} {t : TypeId} {fr : Nat × Nat} (hg : w.heap[g]? = some (.cells cs t fr)) : Bm ≠ g := by
  rintro rfl
  rcases h with h | ⟨Bm', M, h1, ⟨D, _, ⟨es, clock, e1, _⟩, _⟩⟩
  · rw [h] at e; cases e
  · rw [h1] at e
    cases e
    rw [e1] at hg
    cases hg
theorem Comp.hasMap {w : World} {B C : Nat} {made : List Pc} {st : Option Nat} (h : Comp w B C made st) : HasMap w C := by
  obtain ⟨h1, h2, v, mv, h3, h4, h5⟩ := h
  have hc : w.cell? ⟨C, 3, none⟩ = some mv := by simp [World.cell?, h3]
  refine ⟨by simp [World.frozen?, h3], ?_⟩
  rcases h5 with rfl | ⟨Bm, M, rfl, h6⟩
  · exact .inl hc
  · exact .inr ⟨Bm, M, hc, CompMap.ne (mv := .map (some Bm)) (.inr ⟨Bm, M, rfl, h6⟩) rfl h3, h6⟩
theorem Comp.turned {w w' : World} {B C : Nat} {made : List Pc} {st : Option Nat} (h : Comp w B C made st) (ht : Turned w w' C) (hm : HasMap w' C) : Comp w' B C made st := by
  obtain ⟨h1, h2, v, mv, h3, h4, h5⟩ := h
  obtain ⟨w1, hb, hw⟩ := ht
  have h31 := (hb.block C (heap_lt4 h3)).trans h3
  have h41 := own_below h4 hb
  have hcm : ∀ mv', w'.cell? ⟨C, 3, none⟩ = some mv' → CompMap w' mv' := by
    intro mv' e
    rcases hm.2 with h | ⟨Bm, M, h, _, h6⟩
    · rw [h] at e
      cases e
      exact .inl rfl
    · rw [h] at e
      cases e
      exact .inr ⟨Bm, M, rfl, h6⟩
  rcases hw with rfl | ⟨u, rfl⟩
  · exact ⟨h1, h2, v, mv, h31, h41, hcm mv (by simp [World.cell?, h31])⟩
  · have h32 : (w1.setCell ⟨C, 3, none⟩ u).heap[C]? = some (.cells #[v, .bool st.isSome, .int .i64 ((st.getD 0 : Nat) : Int), u] 66 (0, 0)) := by
      rw [heap_setCell_same w1 C 3 _ _ u h31]
      rfl
    refine ⟨h1, h2, v, u, h32, row_same4 h41 (fun k hk => heap_setCell_other _ _ _ _ ?_), hcm u (by simp [World.cell?, h32])⟩
    intro e
    have e : k = C := e
    subst e
    exact own_ne4 h41 h31 (by decide) hk
theorem Turned.below {w w' : World} {B C : Nat} (h : Turned w w' C) (hB : B ≤ C) (hw : B ≤ w.heap.size) : Below B w w' := by
  obtain ⟨w1, hb, rfl | ⟨u, rfl⟩⟩ := h
  · exact hb.mono hw
  · exact (hb.mono hw).setCell (p := ⟨C, 3, none⟩) hB u
theorem Turned.block {w w' : World} {C : Nat} (h : Turned w w' C) {k : Nat} (hk : k < w.heap.size) (hn : k ≠ C) : w'.heap[k]? = w.heap[k]? := by
  obtain ⟨w1, hb, rfl | ⟨u, rfl⟩⟩ := h
  · exact hb.block k hk
  · exact (heap_setCell_other _ _ _ _ hn).trans (hb.block k hk)
def lastZ (made : List Pc) : Pc := made.getD (made.length - 1) (0, 0, 0)
def reachZ (made : List Pc) (st : Option Nat) (p : Pc) : Bool := match st with
  | none => false
  | some k => (made.length - 1 == k) || decide ((lastZ made).2.1 < p.2.1)

set_option maxRecDepth 100000 in
set_option maxHeartbeats 2000000 in
theorem reach_any (B C : Nat) (made : List Pc) (st : Option Nat) (p : Pc) (w : World) (h : Comp w B C made st) (hm : made.length ≤ 1073741824) :
    Calls Tryd.prog 102 #[.pointer (some ⟨C, 0, none⟩), .agg #[.int .i32 p.1, .int .u8 (p.2.1 : Int), .int .u8 (p.2.2 : Int)]] w fun e w' => e = .returned (.bool (reachZ made st p)) ∧ Below w.heap.size w w' := by
  obtain ⟨h1, h2, v, mv, h3, h4, h5⟩ := h
  obtain ⟨X, hX⟩ : ∃ X, w.heap.size = X := ⟨_, rfl⟩
  obtain ⟨V, hV⟩ : ∃ V, w.alloc (.cells #[.int .i32 p.1, .int .u8 (p.2.1 : Int), .int .u8 (p.2.2 : Int)] 100) = V := ⟨_, rfl⟩
  have hCX : C < X := by rw [← hX]; exact heap_lt4 h3
  have hVb : Below X w V := by rw [← hV, ← hX]; exact (Below.refl _ w).alloc (Nat.le_refl _) _
  have hVX : V.heap[X]? = some (.cells #[.int .i32 p.1, .int .u8 (p.2.1 : Int), .int .u8 (p.2.2 : Int)] 100 (0, 0)) := by rw [← hV, ← hX]; exact (MapKept.heap_alloc _ _).1
  have b1 : V.cell? ⟨X, 1, none⟩ = some (.int .u8 (p.2.1 : Int)) := by simp [World.cell?, hVX]
  have hVC := (hVb.block C hCX).trans h3
  have c0 : V.cell? ⟨C, 0, none⟩ = some v := by simp [World.cell?, hVC]
  have c1 : V.cell? ⟨C, 1, none⟩ = some (.bool st.isSome) := by simp [World.cell?, hVC]
  have c2 : V.cell? ⟨C, 2, none⟩ = some (.int .i64 ((st.getD 0 : Nat) : Int)) := by simp [World.cell?, hVC]
  have HVb := Lib.hid hVb
  rw [hX]
  cases st with
  | none =>
    simp only [Option.isSome_none] at c1
    clear hVC hVX hVb h3 h5 h4
    subst hV
    go_enter Tryd.func102, Tryd.ntmps102
    go_wp2_with fail
    go_ret
    exact ⟨rfl, HVb.out⟩
  | some k =>
    simp only [Option.isSome_some] at c1
    simp only [Option.getD_some] at c2
    have hk := h2 k rfl
    obtain ⟨n, hn⟩ : ∃ n, made.length = n := ⟨_, rfl⟩
    have hl : lastZ made = made.getD (n - 1) (0, 0, 0) := by unfold lastZ; rw [hn]
    unfold reachZ
    rw [hn] at hk hm h4 ⊢
    obtain ⟨y, hy⟩ : ∃ y, made[n - 1]? = some y := ⟨_, List.getElem?_eq_getElem (by omega)⟩
    have hly : lastZ made = y := by rw [hl, List.getD_eq_getElem?_getD, hy]; rfl
    rw [hly]
    dsimp only
    obtain ⟨g, cap, rfl, _, hglt⟩ := h4.form (by omega)
    have hyc := h4.cells (g := g) rfl ((n - 1) * 3 + 1) (.int .u8 (y.2.1 : Int)) (flat_at encP_len made (n - 1) y hy 1 _ rfl)
    have hyc2 : V.cell? ⟨g, (n - 1) * 3 + 1, none⟩ = some (.int .u8 (y.2.1 : Int)) := by
      have h := (hVb.cell (p := (⟨g, 0, none⟩ : Addr).add ((n - 1) * 3 + 1)) (by rw [add_block]; show g < X; omega)).trans hyc
      simpa [Addr.add] using h
    have hw1 : IntKind.i64.wrap ((n : Int) - 1) = ((n - 1 : Nat) : Int) := by rw [IntWalk.i64_in _ (by omega)]; omega
    have hlt : ((n - 1 : Nat) : Int) < (n : Int) := by omega
    have hn1 : n - 1 < n := by omega
    clear hVC hVX hVb h3 h5 h4 hyc hy hl hly hn
    subst hV
    by_cases hk1 : n - 1 = k
    · have e1 : ((((n - 1 : Nat) : Int)) == (k : Int)) = true := by rw [hk1]; simp
      have e2 : (n - 1 == k) = true := by simp [hk1]
      have Hk1 := Lib.hid hk1
      clear hk1
      rw [e2, Bool.true_or]
      go_enter Tryd.func102, Tryd.ntmps102
      go_wp2_with fail
      go_quiet (fail)
      go_wp2_with fail
      go_ret
      exact ⟨rfl, below_N4 HVb.out _⟩
    · have e1 : ((((n - 1 : Nat) : Int)) == (k : Int)) = false := by rw [beq_eq_false_iff_ne]; omega
      have e2 : (n - 1 == k) = false := by simp [hk1]
      by_cases hy1 : y.2.1 < p.2.1
      · have e3 : (y.2.1 : Int) < (p.2.1 : Int) := by omega
        have e4 : decide (y.2.1 < p.2.1) = true := decide_eq_true hy1
        rw [e2, e4, Bool.false_or]
        go_enter Tryd.func102, Tryd.ntmps102
        go_wp2_with fail
        go_quiet (fail)
        go_wp2_with fail
        go_ret
        exact ⟨rfl, below_N4 HVb.out _⟩
      · have e3 : ¬ (y.2.1 : Int) < (p.2.1 : Int) := by omega
        have e4 : decide (y.2.1 < p.2.1) = false := decide_eq_false hy1
        rw [e2, e4, Bool.false_or]
        go_enter Tryd.func102, Tryd.ntmps102
        go_wp2_with fail
        go_quiet (fail)
        go_wp2_with fail
        go_ret
        exact ⟨rfl, below_N4 HVb.out _⟩
end Go.Proofs.YtfegbfhkmdmheaaDoor

/- The composer: add. (Made by tools/mkadd.py.) -/
namespace Go.Proofs.YtfegbfhkmdmheaaDoor
open Go.RowKit Go.Lib

def atZ (made : List Pc) (st : Option Nat) : Pc := made.getD (st.getD 0) (0, 0, 0)
def bothZ (made : List Pc) (st : Option Nat) (p : Pc) : Int := pairZ (atZ made st).1 p.1
def addZ (made : List Pc) (st : Option Nat) (p : Pc) : List Pc × Option Nat :=
  if reachZ made st p = true ∧ bothZ made st p ≠ 0 then (made.set (st.getD 0) (bothZ made st p, (atZ made st).2), st) else (made ++ [p], if p.2.1 = 0 then some made.length else st)
def R32 (a : Int) : Prop := -2147483648 ≤ a ∧ a ≤ 2147483647

theorem comp_push {w w3 : World} {B C : Nat} {made : List Pc} {st : Option Nat} {v v' mv : Value} {p : Pc} (h1 : B ≤ C) (h2 : ∀ k, st = some k → k < made.length + 1)
    (h3 : w.heap[C]? = some (.cells #[v, .bool st.isSome, .int .i64 ((st.getD 0 : Nat) : Int), mv] 66 (0, 0))) (h4 : w.ownsRow B 100 3 v made.length (flat encP made)) (h5 : CompMap w mv)
    (hg : Grew w w3 v v') (hown : w3.ownsRow B 100 3 v' (made.length + 1) (flat encP made ++ encP p)) : Comp (w3.setCell ⟨C, 0, none⟩ v') B C (made ++ [p]) st := by
  have h33 : w3.heap[C]? = some (.cells #[v, .bool st.isSome, .int .i64 ((st.getD 0 : Nat) : Int), mv] 66 (0, 0)) := (hg.block C (heap_lt4 h3) (fun e => own_ne4 h4 h3 (by decide) e.symm)).trans h3
  have hl : (made ++ [p]).length = made.length + 1 := by simp
  refine ⟨h1, fun k e => by rw [hl]; exact h2 k e, v', mv, ?_, ?_, ?_⟩
  · rw [heap_setCell_same w3 C 0 _ _ v' h33]
    rfl
  · rw [hl, flat_append, show flat encP [p] = encP p by simp [flat]]
    exact row_same4 hown (fun k hk => heap_setCell_other _ _ _ _ (fun e => own_ne4 hown h33 (by decide) (by have e : k = C := e; rw [hk, e])))
  · refine h5.keep fun Bm e => ?_
    refine (heap_setCell_other _ _ _ _ (fun e2 => h5.ne e h3 e2)).trans (hg.block Bm (h5.lt e) ?_)
    intro e2
    rcases h4.2 with ⟨rfl, _⟩ | ⟨g, cap, cur, rfl, _, hgg, _⟩
    · cases e2
    · cases e2
      exact h5.ne e hgg rfl
theorem comp_set {w : World} {B C g cap k : Nat} {made : List Pc} {mv : Value} {a : Int} (h1 : B ≤ C) (hk : k < made.length)
    (h3 : w.heap[C]? = some (.cells #[.slice (some ⟨g, 0, none⟩) made.length cap, .bool true, .int .i64 ((k : Nat) : Int), mv] 66 (0, 0))) (h4 : w.ownsRow B 100 3 (.slice (some ⟨g, 0, none⟩) made.length cap) made.length (flat encP made)) (h5 : CompMap w mv) :
    Comp (w.setCell ⟨g, k * 3, none⟩ (.int .i32 a)) B C (made.set k (a, (made.getD k (0, 0, 0)).2)) (some k) := by
  have hgC : C ≠ g := fun e => own_ne4 h4 h3 (by decide) (by rw [e]; rfl)
  obtain ⟨post, hb, hBg, hnc, hcm, hlx, hlc⟩ := own_blk h4
  obtain ⟨y, hy⟩ : ∃ y, made[k]? = some y := ⟨_, List.getElem?_eq_getElem hk⟩
  have hgd : made.getD k (0, 0, 0) = y := by rw [List.getD_eq_getElem?_getD, hy]; rfl
  have hmk : made[k] = y := by rw [List.getElem?_eq_getElem hk] at hy; exact Option.some.inj hy
  have hsp : made = made.take k ++ y :: made.drop (k + 1) := by
    rw [← hmk, List.getElem_cons_drop, List.take_append_drop]
  have hst : made.set k (a, y.2) = made.take k ++ (a, y.2) :: made.drop (k + 1) := List.set_eq_take_append_cons_drop .. |>.trans (by rw [if_pos hk])
  have hl1 : (flat encP (made.take k)).length = k * 3 := by rw [flat_len encP_len, List.length_take, Nat.min_eq_left (by omega)]
  have hf1 : flat encP made ++ post = flat encP (made.take k) ++ Value.int .i32 y.1 :: ([.int .u8 (y.2.1 : Int), .int .u8 (y.2.2 : Int)] ++ flat encP (made.drop (k + 1)) ++ post) := by
    conv => lhs; rw [hsp]
    rw [flat_append]
    simp [flat, encP]
  rw [hf1] at hb
  have hb2 := hb.setCell (Value.int .i32 a)
  rw [hl1] at hb2
  have hf2 : flat encP (made.take k) ++ Value.int .i32 a :: ([.int .u8 (y.2.1 : Int), .int .u8 (y.2.2 : Int)] ++ flat encP (made.drop (k + 1)) ++ post) = flat encP (made.set k (a, y.2)) ++ post := by
    rw [hst, flat_append]
    simp [flat, encP]
  rw [hf2] at hb2
  have hls : (made.set k (a, y.2)).length = made.length := List.length_set ..
  have hl2 : (flat encP (made.set k (a, y.2))).length = made.length * 3 := by rw [flat_len encP_len, hls]
  rw [hgd]
  refine ⟨h1, fun j e => by cases e; rw [hls]; exact hk, _, mv, (heap_setCell_other _ _ _ _ hgC).trans h3, ?_, ?_⟩
  · rw [hls]
    exact blk_own hb2 hBg hnc hcm hl2 (by rw [List.length_append, hl2, ← hlc, List.length_append, hlx])
  · exact h5.keep fun Bm e => heap_setCell_other _ _ _ _ (fun e2 => by
      have e2 : Bm = g := e2
      exact h5.ne e hb e2)

set_option maxRecDepth 100000 in
set_option maxHeartbeats 8000000 in
theorem add_any (B C : Nat) (made : List Pc) (st : Option Nat) (p : Pc) (w : World) (h : Comp w B C made st) (hBw : B ≤ w.heap.size) (hm : made.length ≤ 1073741824) (hok : ∀ q ∈ made, R32 q.1) (hp : R32 p.1) :
    Calls Tryd.prog 68 #[.pointer (some ⟨C, 0, none⟩), .agg #[.int .i32 p.1, .int .u8 (p.2.1 : Int), .int .u8 (p.2.2 : Int)]] w fun e w' =>
      e = .returned (.tuple #[]) ∧ Comp w' B C (addZ made st p).1 (addZ made st p).2 ∧ Below B w w' := by
  obtain ⟨i0, hi, hz0, hz1, hz2⟩ := info_parts pieceN_info
  obtain ⟨X, hX⟩ : ∃ X, w.heap.size = X := ⟨_, rfl⟩
  obtain ⟨V, hV⟩ : ∃ V, w.alloc (.cells #[.int .i32 p.1, .int .u8 (p.2.1 : Int), .int .u8 (p.2.2 : Int)] 100) = V := ⟨_, rfl⟩
  have hVb : Below X w V := by rw [← hV, ← hX]; exact (Below.refl _ w).alloc (Nat.le_refl _) _
  have hVX : V.heap[X]? = some (.cells #[.int .i32 p.1, .int .u8 (p.2.1 : Int), .int .u8 (p.2.2 : Int)] 100 (0, 0)) := by rw [← hV, ← hX]; exact (MapKept.heap_alloc _ _).1
  have hcV : Comp V B C made st := h.below (by rw [hX]; exact hVb)
  have hCX : C ≠ X := by
    obtain ⟨_, _, v, mv, h3, _⟩ := h
    have := heap_lt4 h3
    omega
  have hBX : B ≤ X := by omega
  have hownX : ∀ v n xs, World.ownsRow w B 100 3 v n xs → some X ≠ v.ownBlock := fun v n xs h e => by have := (h.lt X e.symm).2; omega
  have hwX : ∀ v mv', w.heap[C]? = some (.cells #[v, .bool st.isSome, .int .i64 ((st.getD 0 : Nat) : Int), mv'] 66 (0, 0)) → some X ≠ v.ownBlock := by
    intro v mv' e e2
    obtain ⟨_, _, v2, mv2, h3, h4, _⟩ := h
    rw [h3] at e
    have e3 := Obj.cells.inj (Option.some.inj e)
    have e4 : v2 = v := by have := congrArg (fun a : Array Value => a.toList.head?) e3.1; simpa using this
    rw [← e4] at e2
    exact hownX _ _ _ h4 e2
  have HwX := Lib.hid hwX
  have HRe := Lib.hid (reach_any B C made st p V hcV hm)
  have HcV := Lib.hid hcV
  have HVX := Lib.hid hVX
  have HVb := Lib.hid hVb
  have hCw : C < w.heap.size := by obtain ⟨_, _, v, mv, h3, _⟩ := h; exact heap_lt4 h3
  have hx0 : V.cell? ⟨X, 0, none⟩ = some (.int .i32 p.1) := by simp [World.cell?, hVX]
  have hx1 : V.cell? ⟨X, 1, none⟩ = some (.int .u8 (p.2.1 : Int)) := by simp [World.cell?, hVX]
  have hx2 : V.cell? ⟨X, 2, none⟩ = some (.int .u8 (p.2.2 : Int)) := by simp [World.cell?, hVX]
  obtain ⟨made', hmd⟩ : ∃ m, (addZ made st p).1 = m := ⟨_, rfl⟩
  obtain ⟨st', hst⟩ : ∃ s, (addZ made st p).2 = s := ⟨_, rfl⟩
  rw [hmd, hst]
  have Hmd := Lib.hid hmd
  have Hst := Lib.hid hst
  obtain ⟨rz, hrz⟩ : ∃ rz, reachZ made st p = rz := ⟨_, rfl⟩
  rw [hrz] at HRe
  have Hrz := Lib.hid hrz
  have hstn : ∀ k, st = some k → k < made.length := by obtain ⟨_, h2, _⟩ := h; exact h2
  have hBC : B ≤ C := by obtain ⟨h1, _⟩ := h; exact h1
  have HX0 := Lib.hid hX
  clear hmd hst hrz hcV hVX hVb h hownX hwX
  subst hV
  go_enter Tryd.func68, Tryd.ntmps68
  go_wp2_with fail
  refine HRe.out.mono ?_
  rintro _ w1 ⟨rfl, b1⟩
  have hXV : X < (w.alloc (.cells #[.int .i32 p.1, .int .u8 (p.2.1 : Int), .int .u8 (p.2.2 : Int)] 100)).heap.size := heap_lt4 HVX.out
  have HX1 := Lib.hid ((b1.block X hXV).trans HVX.out)
  have Hc1 := Lib.hid (HcV.out.below b1)
  have Hb1 : Hid (Below B w w1) := Lib.hid ((HVb.out.trans (b1.mono (by omega))).mono hBX)
  -- the list of what is made lies in no box
  have Hv1 : Hid (∀ v mv', w1.heap[C]? = some (.cells #[v, .bool st.isSome, .int .i64 ((st.getD 0 : Nat) : Int), mv'] 66 (0, 0)) → some X ≠ v.ownBlock) := Lib.hid (fun v mv' e => HwX.out v mv' (by
    have e1 := b1.block C (by have := HVb.out.size; omega)
    have e2 := HVb.out.block C (by omega)
    rw [← e2, ← e1]
    exact e))
  clear b1 hx0 hx1 hx2 HwX
  cases rz with
  | false =>
    have hadd : addZ made st p = (made ++ [p], if p.2.1 = 0 then some made.length else st) := by unfold addZ; rw [Hrz.out, if_neg (fun h => by cases h.1)]
    have Hadd := Lib.hid hadd
    clear hadd
    obtain ⟨w2, hw2⟩ : ∃ w2, w2 = w1 := ⟨_, rfl⟩
    subst hw2
    obtain ⟨h1, h2, v, mv, h3, h4, h5⟩ := Hc1.out
    have hneX := Hv1.out v mv h3
    have x0 : w2.cell? ⟨X, 0, none⟩ = some (.int .i32 p.1) := by simp [World.cell?, HX1.out]
    have x1 : w2.cell? ⟨X, 1, none⟩ = some (.int .u8 (p.2.1 : Int)) := by simp [World.cell?, HX1.out]
    have x2 : w2.cell? ⟨X, 2, none⟩ = some (.int .u8 (p.2.2 : Int)) := by simp [World.cell?, HX1.out]
    have c0 : w2.cell? ⟨C, 0, none⟩ = some v := by simp [World.cell?, h3]
    have c1 : w2.cell? ⟨C, 1, none⟩ = some (.bool st.isSome) := by simp [World.cell?, h3]
    have c2 : w2.cell? ⟨C, 2, none⟩ = some (.int .i64 ((st.getD 0 : Nat) : Int)) := by simp [World.cell?, h3]
    obtain ⟨Av, cv, rfl, _, _⟩ := own_shape h4
    obtain ⟨n, hn⟩ : ∃ n, made.length = n := ⟨_, rfl⟩
    rw [hn] at h4 c0 hneX h3 hm
    have hwn : w2.heap.size = w2.heap.size := rfl
    have H4 := Lib.hid h4
    have H5 := Lib.hid h5
    by_cases hz : p.2.1 = 0
    · have hzz : ((p.2.1 : Int) == 0) = true := by simp [hz]
      have hs : (addZ made st p).2 = some n := by rw [Hadd.out]; show (if p.2.1 = 0 then some made.length else st) = some n; rw [if_pos hz, hn]
      have f1 : w2.frozen? ⟨C, 1, none⟩ = false := Lib.frozen_of_heap h3 1
      have h3a : (w2.setCell ⟨C, 1, none⟩ (.bool true)).heap[C]? = some (.cells #[.slice Av n cv, .bool true, .int .i64 ((st.getD 0 : Nat) : Int), mv] 66 (0, 0)) := by
        rw [heap_setCell_same w2 C 1 _ _ _ h3]
        rfl
      have c2a : (w2.setCell ⟨C, 1, none⟩ (.bool true)).cell? ⟨C, 2, none⟩ = some (.int .i64 ((st.getD 0 : Nat) : Int)) := by simp [World.cell?, h3a]
      have f2a : (w2.setCell ⟨C, 1, none⟩ (.bool true)).frozen? ⟨C, 2, none⟩ = false := Lib.frozen_of_heap h3a 2
      obtain ⟨W2, hW2⟩ : ∃ W2, (w2.setCell ⟨C, 1, none⟩ (.bool true)).setCell ⟨C, 2, none⟩ (.int .i64 (n : Int)) = W2 := ⟨_, rfl⟩
      have h3b : W2.heap[C]? = some (.cells #[.slice Av n cv, .bool true, .int .i64 (n : Int), mv] 66 (0, 0)) := by
        rw [← hW2, heap_setCell_same _ C 2 _ _ _ h3a]
        rfl
      have hoth : ∀ k, k ≠ C → W2.heap[k]? = w2.heap[k]? := fun k hk => by rw [← hW2]; exact (heap_setCell_other _ _ _ _ hk).trans (heap_setCell_other _ _ _ _ hk)
      have hb2 : Below B w2 W2 := by rw [← hW2]; exact ((Below.refl B w2).setCell (p := ⟨C, 1, none⟩) h1 _).setCell (p := ⟨C, 2, none⟩) h1 _
      have h4b : W2.ownsRow B 100 3 (.slice Av n cv) n (flat encP made) := row_same4 h4 (fun k hk => hoth k (fun e => own_ne4 h4 h3 (by decide) (by rw [hk, e])))
      have h5b : CompMap W2 mv := h5.keep fun Bm e => hoth Bm (h5.ne e h3)
      have hXb : W2.heap[X]? = some (.cells #[.int .i32 p.1, .int .u8 (p.2.1 : Int), .int .u8 (p.2.2 : Int)] 100 (0, 0)) := (hoth X (fun e => hCX e.symm)).trans HX1.out
      have HW2 := Lib.hid hW2
      have Hs := Lib.hid hs
      have Hb2 := Lib.hid (Hb1.out.trans hb2)
      have H3b := Lib.hid h3b
      have H4b := Lib.hid h4b
      have H5b := Lib.hid h5b
      have HXb := Lib.hid hXb
      clear hW2 hoth hb2 h4 h5 h3 h4b h5b hXb h3a hz hs h3b
      go_wp2_with fail
      rw [HW2.out]
      have y4 : W2.drew.cell? ⟨C, 0, none⟩ = some (.slice Av n cv) := by show W2.cell? _ = _; simp [World.cell?, H3b.out]
      have y5 : ∀ o, (W2.drew.alloc o).cell? ⟨C, 0, none⟩ = some (.slice Av n cv) := fun o => cell_alloc4 _ y4
      have z0 : W2.drew.cell? ⟨X, 0, none⟩ = some (.int .i32 p.1) := by show W2.cell? _ = _; simp [World.cell?, HXb.out]
      have z1 : W2.drew.cell? ⟨X, 1, none⟩ = some (.int .u8 (p.2.1 : Int)) := by show W2.cell? _ = _; simp [World.cell?, HXb.out]
      have z2 : W2.drew.cell? ⟨X, 2, none⟩ = some (.int .u8 (p.2.2 : Int)) := by show W2.cell? _ = _; simp [World.cell?, HXb.out]
      have z3 : ∀ o, (W2.drew.alloc o).cell? ⟨X, 0, none⟩ = some (.int .i32 p.1) := fun o => cell_alloc4 _ z0
      have z4 : ∀ o, (W2.drew.alloc o).cell? ⟨X, 1, none⟩ = some (.int .u8 (p.2.1 : Int)) := fun o => cell_alloc4 _ z1
      have z5 : ∀ o, (W2.drew.alloc o).cell? ⟨X, 2, none⟩ = some (.int .u8 (p.2.2 : Int)) := fun o => cell_alloc4 _ z2
      have y6 : ∀ o, (W2.alloc o).cell? ⟨C, 0, none⟩ = some (.slice Av n cv) := fun o => cell_alloc4 _ y4
      have z6 : ∀ o, (W2.alloc o).cell? ⟨X, 0, none⟩ = some (.int .i32 p.1) := fun o => cell_alloc4 _ z0
      have z7 : ∀ o, (W2.alloc o).cell? ⟨X, 1, none⟩ = some (.int .u8 (p.2.1 : Int)) := fun o => cell_alloc4 _ z1
      have z8 : ∀ o, (W2.alloc o).cell? ⟨X, 2, none⟩ = some (.int .u8 (p.2.2 : Int)) := fun o => cell_alloc4 _ z2
      have Hnews := Lib.hid (new_cells W2 [.int .i32 p.1, .int .u8 (p.2.1 : Int), .int .u8 (p.2.2 : Int)] 100)
      have hone : ∀ u ∈ [Value.int .i32 p.1, Value.int .u8 (p.2.1 : Int), Value.int .u8 (p.2.2 : Int)], u.oneCell' = true := by simp [Value.oneCell']
      have hm1 : n + 1 ≤ maxLen := by unfold maxLen; omega
      have hm2 : (n + 1) * 8 ≤ 140737488355328 := by omega
      have hBs : B ≤ (W2.alloc (.cells #[.int .i32 p.1, .int .u8 (p.2.1 : Int), .int .u8 (p.2.2 : Int)] 100)).heap.size := by have := Hb2.out.size; simp; omega
      go_wp2_with fail
      go_region_law (first
          | (refine step_append_at rfl (.tmp 54) (.tmp 56) 63 rfl B 100 i0 _ 3 8 Tryd.underlying63 hi hz0 hz1 hz2 rfl (by decide) _ n (flat encP made) rfl (H4b.out.alloc _) ⟨W2.heap.size, 0, none⟩ 1 1 [.int .i32 p.1, .int .u8 (p.2.1 : Int), .int .u8 (p.2.2 : Int)] rfl rfl Hnews.out hone hm1 hm2 hBs ?_; intro v3 w3 own3 g3 hb3; obtain ⟨g1, cap1, rfl⟩ := succ4 own3; have hgr : Grew W2 w3 (.slice Av n cv) (.slice (some ⟨g1, 0, none⟩) (n + 1) cap1) := .of_append ((below_D4 (Below.refl _ W2)).alloc (Nat.le_refl _) _) g3 hb3; have hC3 := (hgr.block C (heap_lt4 H3b.out) (fun e => own_ne4 H4b.out H3b.out (by decide) e.symm)).trans H3b.out; have e6 : w3.cell? ⟨C, 0, none⟩ = some (.slice Av n cv) := (by simp [World.cell?, hC3]); have e7 : w3.frozen? ⟨C, 0, none⟩ = false := Lib.frozen_of_heap hC3 0; have Own3 := Lib.hid own3; have Hgr := Lib.hid hgr; clear own3 g3 hb3 hgr hC3))
      all_goals
        go_wp2_with fail
        refine ⟨rfl, _, results_none rfl _ _ _, rfl, ?_, ?_⟩
        · rw [← Hmd.out, ← Hst.out, Hs.out, Hadd.out]
          subst hn
          exact comp_push (st := some made.length) hBC (by intro j e; cases e; omega) H3b.out H4b.out H5b.out Hgr.out Own3.out
        · refine (Hb2.out.trans ?_).setCell (p := ⟨C, 0, none⟩) hBC _
          exact ⟨Hgr.out.os, Hgr.out.tape, Hgr.out.output, by have := Hgr.out.size; have := Hb2.out.size; omega, fun j hj => Hgr.out.block j (by have := Hb2.out.size; omega) (fun e => by have := (H4b.out.lt j e.symm).1; omega)⟩
    · have hzz : ((p.2.1 : Int) == 0) = false := by rw [beq_eq_false_iff_ne]; omega
      have hs : (addZ made st p).2 = st := by rw [Hadd.out]; show (if p.2.1 = 0 then some made.length else st) = st; rw [if_neg hz]
      obtain ⟨W2, hW2⟩ : ∃ W2, W2 = w2 := ⟨_, rfl⟩
      have HW2 := Lib.hid hW2
      have Hs := Lib.hid hs
      have Hb2 : Hid (Below B w W2) := Lib.hid (by rw [hW2]; exact Hb1.out)
      have H3b : Hid (W2.heap[C]? = some (.cells #[.slice Av n cv, .bool st.isSome, .int .i64 ((st.getD 0 : Nat) : Int), mv] 66 (0, 0))) := Lib.hid (by rw [hW2]; exact h3)
      have H4b : Hid (W2.ownsRow B 100 3 (.slice Av n cv) n (flat encP made)) := Lib.hid (by rw [hW2]; exact h4)
      have H5b : Hid (CompMap W2 mv) := Lib.hid (by rw [hW2]; exact h5)
      have HXb : Hid (W2.heap[X]? = some (.cells #[.int .i32 p.1, .int .u8 (p.2.1 : Int), .int .u8 (p.2.2 : Int)] 100 (0, 0))) := Lib.hid (by rw [hW2]; exact HX1.out)
      clear h4 h5 h3 hz hs hW2
      go_wp2_with fail
      rw [← HW2.out]
      have y4 : W2.drew.cell? ⟨C, 0, none⟩ = some (.slice Av n cv) := by show W2.cell? _ = _; simp [World.cell?, H3b.out]
      have y5 : ∀ o, (W2.drew.alloc o).cell? ⟨C, 0, none⟩ = some (.slice Av n cv) := fun o => cell_alloc4 _ y4
      have z0 : W2.drew.cell? ⟨X, 0, none⟩ = some (.int .i32 p.1) := by show W2.cell? _ = _; simp [World.cell?, HXb.out]
      have z1 : W2.drew.cell? ⟨X, 1, none⟩ = some (.int .u8 (p.2.1 : Int)) := by show W2.cell? _ = _; simp [World.cell?, HXb.out]
      have z2 : W2.drew.cell? ⟨X, 2, none⟩ = some (.int .u8 (p.2.2 : Int)) := by show W2.cell? _ = _; simp [World.cell?, HXb.out]
      have z3 : ∀ o, (W2.drew.alloc o).cell? ⟨X, 0, none⟩ = some (.int .i32 p.1) := fun o => cell_alloc4 _ z0
      have z4 : ∀ o, (W2.drew.alloc o).cell? ⟨X, 1, none⟩ = some (.int .u8 (p.2.1 : Int)) := fun o => cell_alloc4 _ z1
      have z5 : ∀ o, (W2.drew.alloc o).cell? ⟨X, 2, none⟩ = some (.int .u8 (p.2.2 : Int)) := fun o => cell_alloc4 _ z2
      have y6 : ∀ o, (W2.alloc o).cell? ⟨C, 0, none⟩ = some (.slice Av n cv) := fun o => cell_alloc4 _ y4
      have z6 : ∀ o, (W2.alloc o).cell? ⟨X, 0, none⟩ = some (.int .i32 p.1) := fun o => cell_alloc4 _ z0
      have z7 : ∀ o, (W2.alloc o).cell? ⟨X, 1, none⟩ = some (.int .u8 (p.2.1 : Int)) := fun o => cell_alloc4 _ z1
      have z8 : ∀ o, (W2.alloc o).cell? ⟨X, 2, none⟩ = some (.int .u8 (p.2.2 : Int)) := fun o => cell_alloc4 _ z2
      have Hnews := Lib.hid (new_cells W2 [.int .i32 p.1, .int .u8 (p.2.1 : Int), .int .u8 (p.2.2 : Int)] 100)
      have hone : ∀ u ∈ [Value.int .i32 p.1, Value.int .u8 (p.2.1 : Int), Value.int .u8 (p.2.2 : Int)], u.oneCell' = true := by simp [Value.oneCell']
      have hm1 : n + 1 ≤ maxLen := by unfold maxLen; omega
      have hm2 : (n + 1) * 8 ≤ 140737488355328 := by omega
      have hBs : B ≤ (W2.alloc (.cells #[.int .i32 p.1, .int .u8 (p.2.1 : Int), .int .u8 (p.2.2 : Int)] 100)).heap.size := by have := Hb2.out.size; simp; omega
      go_wp2_with fail
      go_region_law (first
          | (refine step_append_at rfl (.tmp 54) (.tmp 56) 63 rfl B 100 i0 _ 3 8 Tryd.underlying63 hi hz0 hz1 hz2 rfl (by decide) _ n (flat encP made) rfl (H4b.out.alloc _) ⟨W2.heap.size, 0, none⟩ 1 1 [.int .i32 p.1, .int .u8 (p.2.1 : Int), .int .u8 (p.2.2 : Int)] rfl rfl Hnews.out hone hm1 hm2 hBs ?_; intro v3 w3 own3 g3 hb3; obtain ⟨g1, cap1, rfl⟩ := succ4 own3; have hgr : Grew W2 w3 (.slice Av n cv) (.slice (some ⟨g1, 0, none⟩) (n + 1) cap1) := .of_append ((below_D4 (Below.refl _ W2)).alloc (Nat.le_refl _) _) g3 hb3; have hC3 := (hgr.block C (heap_lt4 H3b.out) (fun e => own_ne4 H4b.out H3b.out (by decide) e.symm)).trans H3b.out; have e6 : w3.cell? ⟨C, 0, none⟩ = some (.slice Av n cv) := (by simp [World.cell?, hC3]); have e7 : w3.frozen? ⟨C, 0, none⟩ = false := Lib.frozen_of_heap hC3 0; have Own3 := Lib.hid own3; have Hgr := Lib.hid hgr; clear own3 g3 hb3 hgr hC3))
      all_goals
        go_wp2_with fail
        refine ⟨rfl, _, results_none rfl _ _ _, rfl, ?_, ?_⟩
        · rw [← Hmd.out, ← Hst.out, Hs.out, Hadd.out]
          subst hn
          exact comp_push (st := st) hBC (by intro j e; have := hstn j e; omega) H3b.out H4b.out H5b.out Hgr.out Own3.out
        · refine (Hb2.out.trans ?_).setCell (p := ⟨C, 0, none⟩) hBC _
          exact ⟨Hgr.out.os, Hgr.out.tape, Hgr.out.output, by have := Hgr.out.size; have := Hb2.out.size; omega, fun j hj => Hgr.out.block j (by have := Hb2.out.size; omega) (fun e => by have := (H4b.out.lt j e.symm).1; omega)⟩
  | true =>
    obtain ⟨k, rfl⟩ : ∃ k, st = some k := by
      have h := Hrz.out
      cases st with
      | none => cases h
      | some k => exact ⟨k, rfl⟩
    have hk := hstn k rfl
    obtain ⟨h1, h2, v, mv, h3, h4, h5⟩ := Hc1.out
    obtain ⟨y, hy⟩ : ∃ y, made[k]? = some y := ⟨_, List.getElem?_eq_getElem hk⟩
    have hyz : atZ made (some k) = y := by unfold atZ; rw [Option.getD_some, List.getD_eq_getElem?_getD, hy]; rfl
    obtain ⟨g, cap, rfl, _, hglt⟩ := h4.form (by omega)
    have hy0 := h4.cells (g := g) rfl (k * 3) (.int .i32 y.1) (by have := flat_at encP_len made k y hy 0 _ rfl; simpa using this)
    have hy1 : w1.cell? ⟨g, k * 3, none⟩ = some (.int .i32 y.1) := by rw [Addr.add_lit, Nat.zero_add] at hy0; exact hy0
    have hx0 : w1.cell? ⟨X, 0, none⟩ = some (.int .i32 p.1) := by simp [World.cell?, HX1.out]
    have c0 : w1.cell? ⟨C, 0, none⟩ = some (.slice (some ⟨g, 0, none⟩) made.length cap) := by simp [World.cell?, h3]
    have c2 : w1.cell? ⟨C, 2, none⟩ = some (.int .i64 (k : Int)) := by simp [World.cell?, h3]
    have hyr := hok y (List.mem_of_getElem? hy)
    have HP := Lib.hid (pair_any y.1 p.1 C w1.drew hyr hp (heap_lt4 h3) (show HasMap w1 C from Hc1.out.hasMap))
    have hbz : bothZ made (some k) p = pairZ y.1 p.1 := by unfold bothZ; rw [hyz]
    obtain ⟨both, hbo⟩ : ∃ both, pairZ y.1 p.1 = both := ⟨_, rfl⟩
    rw [hbo] at HP hbz
    obtain ⟨n, hn⟩ : ∃ n, made.length = n := ⟨_, rfl⟩
    have hki : (k : Int) < (n : Int) := by omega
    have hkn : k < n := by omega
    rw [hn] at c0
    have Hbz := Lib.hid hbz
    have Hyz := Lib.hid hyz
    have Hn := Lib.hid hn
    have hgX := Hv1.out _ mv h3
    clear h4 h5 hy hy0 hbo hbz hyz
    go_wp2_with fail
    have d0 : w1.drew.cell? ⟨C, 0, none⟩ = some (.slice (some ⟨g, 0, none⟩) n cap) := c0
    have d2 : w1.drew.cell? ⟨C, 2, none⟩ = some (.int .i64 (k : Int)) := c2
    have d3 : w1.drew.cell? ⟨g, k * 3, none⟩ = some (.int .i32 y.1) := hy1
    have d4 : w1.drew.cell? ⟨X, 0, none⟩ = some (.int .i32 p.1) := hx0
    go_region_law (first
      | (go_simp; go_at_call 36; refine HP.out.mono ?_; rintro e w2 ⟨rfl, ht, hhm⟩))
    all_goals
      have hc2 : Comp w2 B C made (some k) := Comp.turned (w := w1.drew) (show Comp w1 B C made (some k) from Hc1.out) ht hhm
      have hb2 : Below B w w2 := (below_D4 Hb1.out).trans (ht.below hBC (by have := Hb1.out.size; exact Nat.le_trans hBw this))
      have hX2 : w2.heap[X]? = _ := (ht.block (show X < w1.drew.heap.size from heap_lt4 HX1.out) (fun e => hCX e.symm)).trans (show w1.drew.heap[X]? = _ from HX1.out)
      have hv2 : ∀ v mv', w2.heap[C]? = some (.cells #[v, .bool (some k).isSome, .int .i64 (((some k).getD 0 : Nat) : Int), mv'] 66 (0, 0)) → some X ≠ v.ownBlock := by
        intro v mv' e
        obtain ⟨wx, hbx, hw⟩ := ht
        have e0 : ∃ mv2, w1.heap[C]? = some (.cells #[v, .bool (some k).isSome, .int .i64 (((some k).getD 0 : Nat) : Int), mv2] 66 (0, 0)) := by
          have ex := (hbx.block C (show C < w1.drew.heap.size from heap_lt4 h3)).trans (show w1.drew.heap[C]? = _ from h3)
          rcases hw with rfl | ⟨u, rfl⟩
          · rw [ex] at e
            have e3 := Obj.cells.inj (Option.some.inj e)
            have e4 : Value.slice (some ⟨g, 0, none⟩) made.length cap = v := by have := congrArg (fun a : Array Value => a.toList.head?) e3.1; simpa using this
            exact ⟨mv, by rw [← e4]; exact h3⟩
          · rw [heap_setCell_same wx C 3 _ _ u ex] at e
            have e3 := Obj.cells.inj (Option.some.inj e)
            have e4 : Value.slice (some ⟨g, 0, none⟩) made.length cap = v := by have := congrArg (fun a : Array Value => a.toList.head?) e3.1; simpa using this
            exact ⟨mv, by rw [← e4]; exact h3⟩
        obtain ⟨mv2, e0⟩ := e0
        exact Hv1.out v mv2 e0
      have Hc2 := Lib.hid hc2
      have Hb2' := Lib.hid hb2
      have HX2 := Lib.hid hX2
      have Hv2 := Lib.hid hv2
      clear hc2 hb2 hX2 hv2 ht hhm d0 d2 d3 d4 c0 c2 hy1 hx0 h3 Hc1 HX1 Hv1 Hb1
      by_cases hb0 : both = 0
      · have hzb : (both != 0) = false := by simp [hb0]
        have hadd : addZ made (some k) p = (made ++ [p], if p.2.1 = 0 then some made.length else some k) := by unfold addZ; rw [Hbz.out, if_neg (fun h => h.2 hb0)]
        have Hadd := Lib.hid hadd
        have Hc1 := Hc2
        have HX1 := HX2
        have Hv1 := Hv2
        have Hb1 := Hb2'
        clear hadd Hc2 HX2 Hv2 Hb2' hb0 Hn hn hki hkn hgX
        obtain ⟨h1, h2, v, mv, h3, h4, h5⟩ := Hc1.out
        have hneX := Hv1.out v mv h3
        have x0 : w2.cell? ⟨X, 0, none⟩ = some (.int .i32 p.1) := by simp [World.cell?, HX1.out]
        have x1 : w2.cell? ⟨X, 1, none⟩ = some (.int .u8 (p.2.1 : Int)) := by simp [World.cell?, HX1.out]
        have x2 : w2.cell? ⟨X, 2, none⟩ = some (.int .u8 (p.2.2 : Int)) := by simp [World.cell?, HX1.out]
        have c0 : w2.cell? ⟨C, 0, none⟩ = some v := by simp [World.cell?, h3]
        have c1 : w2.cell? ⟨C, 1, none⟩ = some (.bool (some k).isSome) := by simp [World.cell?, h3]
        have c2 : w2.cell? ⟨C, 2, none⟩ = some (.int .i64 (((some k).getD 0 : Nat) : Int)) := by simp [World.cell?, h3]
        obtain ⟨Av, cv, rfl, _, _⟩ := own_shape h4
        obtain ⟨n, hn⟩ : ∃ n, made.length = n := ⟨_, rfl⟩
        rw [hn] at h4 c0 hneX h3 hm
        have hwn : w2.heap.size = w2.heap.size := rfl
        have H4 := Lib.hid h4
        have H5 := Lib.hid h5
        by_cases hz : p.2.1 = 0
        · have hzz : ((p.2.1 : Int) == 0) = true := by simp [hz]
          have hs : (addZ made (some k) p).2 = some n := by rw [Hadd.out]; show (if p.2.1 = 0 then some made.length else some k) = some n; rw [if_pos hz, hn]
          have f1 : w2.frozen? ⟨C, 1, none⟩ = false := Lib.frozen_of_heap h3 1
          have h3a : (w2.setCell ⟨C, 1, none⟩ (.bool true)).heap[C]? = some (.cells #[.slice Av n cv, .bool true, .int .i64 (((some k).getD 0 : Nat) : Int), mv] 66 (0, 0)) := by
            rw [heap_setCell_same w2 C 1 _ _ _ h3]
            rfl
          have c2a : (w2.setCell ⟨C, 1, none⟩ (.bool true)).cell? ⟨C, 2, none⟩ = some (.int .i64 (((some k).getD 0 : Nat) : Int)) := by simp [World.cell?, h3a]
          have f2a : (w2.setCell ⟨C, 1, none⟩ (.bool true)).frozen? ⟨C, 2, none⟩ = false := Lib.frozen_of_heap h3a 2
          obtain ⟨W2, hW2⟩ : ∃ W2, (w2.setCell ⟨C, 1, none⟩ (.bool true)).setCell ⟨C, 2, none⟩ (.int .i64 (n : Int)) = W2 := ⟨_, rfl⟩
          have h3b : W2.heap[C]? = some (.cells #[.slice Av n cv, .bool true, .int .i64 (n : Int), mv] 66 (0, 0)) := by
            rw [← hW2, heap_setCell_same _ C 2 _ _ _ h3a]
            rfl
          have hoth : ∀ k, k ≠ C → W2.heap[k]? = w2.heap[k]? := fun k hk => by rw [← hW2]; exact (heap_setCell_other _ _ _ _ hk).trans (heap_setCell_other _ _ _ _ hk)
          have hb2 : Below B w2 W2 := by rw [← hW2]; exact ((Below.refl B w2).setCell (p := ⟨C, 1, none⟩) h1 _).setCell (p := ⟨C, 2, none⟩) h1 _
          have h4b : W2.ownsRow B 100 3 (.slice Av n cv) n (flat encP made) := row_same4 h4 (fun k hk => hoth k (fun e => own_ne4 h4 h3 (by decide) (by rw [hk, e])))
          have h5b : CompMap W2 mv := h5.keep fun Bm e => hoth Bm (h5.ne e h3)
          have hXb : W2.heap[X]? = some (.cells #[.int .i32 p.1, .int .u8 (p.2.1 : Int), .int .u8 (p.2.2 : Int)] 100 (0, 0)) := (hoth X (fun e => hCX e.symm)).trans HX1.out
          have HW2 := Lib.hid hW2
          have Hs := Lib.hid hs
          have Hb2 := Lib.hid (Hb1.out.trans hb2)
          have H3b := Lib.hid h3b
          have H4b := Lib.hid h4b
          have H5b := Lib.hid h5b
          have HXb := Lib.hid hXb
          clear hW2 hoth hb2 h4 h5 h3 h4b h5b hXb h3a hz hs h3b
          go_wp2_with fail
          rw [HW2.out]
          have y4 : W2.drew.cell? ⟨C, 0, none⟩ = some (.slice Av n cv) := by show W2.cell? _ = _; simp [World.cell?, H3b.out]
          have y5 : ∀ o, (W2.drew.alloc o).cell? ⟨C, 0, none⟩ = some (.slice Av n cv) := fun o => cell_alloc4 _ y4
          have z0 : W2.drew.cell? ⟨X, 0, none⟩ = some (.int .i32 p.1) := by show W2.cell? _ = _; simp [World.cell?, HXb.out]
          have z1 : W2.drew.cell? ⟨X, 1, none⟩ = some (.int .u8 (p.2.1 : Int)) := by show W2.cell? _ = _; simp [World.cell?, HXb.out]
          have z2 : W2.drew.cell? ⟨X, 2, none⟩ = some (.int .u8 (p.2.2 : Int)) := by show W2.cell? _ = _; simp [World.cell?, HXb.out]
          have z3 : ∀ o, (W2.drew.alloc o).cell? ⟨X, 0, none⟩ = some (.int .i32 p.1) := fun o => cell_alloc4 _ z0
          have z4 : ∀ o, (W2.drew.alloc o).cell? ⟨X, 1, none⟩ = some (.int .u8 (p.2.1 : Int)) := fun o => cell_alloc4 _ z1
          have z5 : ∀ o, (W2.drew.alloc o).cell? ⟨X, 2, none⟩ = some (.int .u8 (p.2.2 : Int)) := fun o => cell_alloc4 _ z2
          have y6 : ∀ o, (W2.alloc o).cell? ⟨C, 0, none⟩ = some (.slice Av n cv) := fun o => cell_alloc4 _ y4
          have z6 : ∀ o, (W2.alloc o).cell? ⟨X, 0, none⟩ = some (.int .i32 p.1) := fun o => cell_alloc4 _ z0
          have z7 : ∀ o, (W2.alloc o).cell? ⟨X, 1, none⟩ = some (.int .u8 (p.2.1 : Int)) := fun o => cell_alloc4 _ z1
          have z8 : ∀ o, (W2.alloc o).cell? ⟨X, 2, none⟩ = some (.int .u8 (p.2.2 : Int)) := fun o => cell_alloc4 _ z2
          have Hnews := Lib.hid (new_cells W2 [.int .i32 p.1, .int .u8 (p.2.1 : Int), .int .u8 (p.2.2 : Int)] 100)
          have hone : ∀ u ∈ [Value.int .i32 p.1, Value.int .u8 (p.2.1 : Int), Value.int .u8 (p.2.2 : Int)], u.oneCell' = true := by simp [Value.oneCell']
          have hm1 : n + 1 ≤ maxLen := by unfold maxLen; omega
          have hm2 : (n + 1) * 8 ≤ 140737488355328 := by omega
          have hBs : B ≤ (W2.alloc (.cells #[.int .i32 p.1, .int .u8 (p.2.1 : Int), .int .u8 (p.2.2 : Int)] 100)).heap.size := by have := Hb2.out.size; simp; omega
          go_wp2_with fail
          go_region_law (first
              | (refine step_append_at rfl (.tmp 54) (.tmp 56) 63 rfl B 100 i0 _ 3 8 Tryd.underlying63 hi hz0 hz1 hz2 rfl (by decide) _ n (flat encP made) rfl (H4b.out.alloc _) ⟨W2.heap.size, 0, none⟩ 1 1 [.int .i32 p.1, .int .u8 (p.2.1 : Int), .int .u8 (p.2.2 : Int)] rfl rfl Hnews.out hone hm1 hm2 hBs ?_; intro v3 w3 own3 g3 hb3; obtain ⟨g1, cap1, rfl⟩ := succ4 own3; have hgr : Grew W2 w3 (.slice Av n cv) (.slice (some ⟨g1, 0, none⟩) (n + 1) cap1) := .of_append ((below_D4 (Below.refl _ W2)).alloc (Nat.le_refl _) _) g3 hb3; have hC3 := (hgr.block C (heap_lt4 H3b.out) (fun e => own_ne4 H4b.out H3b.out (by decide) e.symm)).trans H3b.out; have e6 : w3.cell? ⟨C, 0, none⟩ = some (.slice Av n cv) := (by simp [World.cell?, hC3]); have e7 : w3.frozen? ⟨C, 0, none⟩ = false := Lib.frozen_of_heap hC3 0; have Own3 := Lib.hid own3; have Hgr := Lib.hid hgr; clear own3 g3 hb3 hgr hC3))
          all_goals
            go_wp2_with fail
            refine ⟨rfl, _, results_none rfl _ _ _, rfl, ?_, ?_⟩
            · rw [← Hmd.out, ← Hst.out, Hs.out, Hadd.out]
              subst hn
              exact comp_push (st := some made.length) hBC (by intro j e; cases e; omega) H3b.out H4b.out H5b.out Hgr.out Own3.out
            · refine (Hb2.out.trans ?_).setCell (p := ⟨C, 0, none⟩) hBC _
              exact ⟨Hgr.out.os, Hgr.out.tape, Hgr.out.output, by have := Hgr.out.size; have := Hb2.out.size; omega, fun j hj => Hgr.out.block j (by have := Hb2.out.size; omega) (fun e => by have := (H4b.out.lt j e.symm).1; omega)⟩
        · have hzz : ((p.2.1 : Int) == 0) = false := by rw [beq_eq_false_iff_ne]; omega
          have hs : (addZ made (some k) p).2 = some k := by rw [Hadd.out]; show (if p.2.1 = 0 then some made.length else some k) = some k; rw [if_neg hz]
          obtain ⟨W2, hW2⟩ : ∃ W2, W2 = w2 := ⟨_, rfl⟩
          have HW2 := Lib.hid hW2
          have Hs := Lib.hid hs
          have Hb2 : Hid (Below B w W2) := Lib.hid (by rw [hW2]; exact Hb1.out)
          have H3b : Hid (W2.heap[C]? = some (.cells #[.slice Av n cv, .bool (some k).isSome, .int .i64 (((some k).getD 0 : Nat) : Int), mv] 66 (0, 0))) := Lib.hid (by rw [hW2]; exact h3)
          have H4b : Hid (W2.ownsRow B 100 3 (.slice Av n cv) n (flat encP made)) := Lib.hid (by rw [hW2]; exact h4)
          have H5b : Hid (CompMap W2 mv) := Lib.hid (by rw [hW2]; exact h5)
          have HXb : Hid (W2.heap[X]? = some (.cells #[.int .i32 p.1, .int .u8 (p.2.1 : Int), .int .u8 (p.2.2 : Int)] 100 (0, 0))) := Lib.hid (by rw [hW2]; exact HX1.out)
          clear h4 h5 h3 hz hs hW2
          go_wp2_with fail
          rw [← HW2.out]
          have y4 : W2.drew.cell? ⟨C, 0, none⟩ = some (.slice Av n cv) := by show W2.cell? _ = _; simp [World.cell?, H3b.out]
          have y5 : ∀ o, (W2.drew.alloc o).cell? ⟨C, 0, none⟩ = some (.slice Av n cv) := fun o => cell_alloc4 _ y4
          have z0 : W2.drew.cell? ⟨X, 0, none⟩ = some (.int .i32 p.1) := by show W2.cell? _ = _; simp [World.cell?, HXb.out]
          have z1 : W2.drew.cell? ⟨X, 1, none⟩ = some (.int .u8 (p.2.1 : Int)) := by show W2.cell? _ = _; simp [World.cell?, HXb.out]
          have z2 : W2.drew.cell? ⟨X, 2, none⟩ = some (.int .u8 (p.2.2 : Int)) := by show W2.cell? _ = _; simp [World.cell?, HXb.out]
          have z3 : ∀ o, (W2.drew.alloc o).cell? ⟨X, 0, none⟩ = some (.int .i32 p.1) := fun o => cell_alloc4 _ z0
          have z4 : ∀ o, (W2.drew.alloc o).cell? ⟨X, 1, none⟩ = some (.int .u8 (p.2.1 : Int)) := fun o => cell_alloc4 _ z1
          have z5 : ∀ o, (W2.drew.alloc o).cell? ⟨X, 2, none⟩ = some (.int .u8 (p.2.2 : Int)) := fun o => cell_alloc4 _ z2
          have y6 : ∀ o, (W2.alloc o).cell? ⟨C, 0, none⟩ = some (.slice Av n cv) := fun o => cell_alloc4 _ y4
          have z6 : ∀ o, (W2.alloc o).cell? ⟨X, 0, none⟩ = some (.int .i32 p.1) := fun o => cell_alloc4 _ z0
          have z7 : ∀ o, (W2.alloc o).cell? ⟨X, 1, none⟩ = some (.int .u8 (p.2.1 : Int)) := fun o => cell_alloc4 _ z1
          have z8 : ∀ o, (W2.alloc o).cell? ⟨X, 2, none⟩ = some (.int .u8 (p.2.2 : Int)) := fun o => cell_alloc4 _ z2
          have Hnews := Lib.hid (new_cells W2 [.int .i32 p.1, .int .u8 (p.2.1 : Int), .int .u8 (p.2.2 : Int)] 100)
          have hone : ∀ u ∈ [Value.int .i32 p.1, Value.int .u8 (p.2.1 : Int), Value.int .u8 (p.2.2 : Int)], u.oneCell' = true := by simp [Value.oneCell']
          have hm1 : n + 1 ≤ maxLen := by unfold maxLen; omega
          have hm2 : (n + 1) * 8 ≤ 140737488355328 := by omega
          have hBs : B ≤ (W2.alloc (.cells #[.int .i32 p.1, .int .u8 (p.2.1 : Int), .int .u8 (p.2.2 : Int)] 100)).heap.size := by have := Hb2.out.size; simp; omega
          go_wp2_with fail
          go_region_law (first
              | (refine step_append_at rfl (.tmp 54) (.tmp 56) 63 rfl B 100 i0 _ 3 8 Tryd.underlying63 hi hz0 hz1 hz2 rfl (by decide) _ n (flat encP made) rfl (H4b.out.alloc _) ⟨W2.heap.size, 0, none⟩ 1 1 [.int .i32 p.1, .int .u8 (p.2.1 : Int), .int .u8 (p.2.2 : Int)] rfl rfl Hnews.out hone hm1 hm2 hBs ?_; intro v3 w3 own3 g3 hb3; obtain ⟨g1, cap1, rfl⟩ := succ4 own3; have hgr : Grew W2 w3 (.slice Av n cv) (.slice (some ⟨g1, 0, none⟩) (n + 1) cap1) := .of_append ((below_D4 (Below.refl _ W2)).alloc (Nat.le_refl _) _) g3 hb3; have hC3 := (hgr.block C (heap_lt4 H3b.out) (fun e => own_ne4 H4b.out H3b.out (by decide) e.symm)).trans H3b.out; have e6 : w3.cell? ⟨C, 0, none⟩ = some (.slice Av n cv) := (by simp [World.cell?, hC3]); have e7 : w3.frozen? ⟨C, 0, none⟩ = false := Lib.frozen_of_heap hC3 0; have Own3 := Lib.hid own3; have Hgr := Lib.hid hgr; clear own3 g3 hb3 hgr hC3))
          all_goals
            go_wp2_with fail
            refine ⟨rfl, _, results_none rfl _ _ _, rfl, ?_, ?_⟩
            · rw [← Hmd.out, ← Hst.out, Hs.out, Hadd.out]
              subst hn
              exact comp_push (st := some k) hBC (by intro j e; have := hstn j e; omega) H3b.out H4b.out H5b.out Hgr.out Own3.out
            · refine (Hb2.out.trans ?_).setCell (p := ⟨C, 0, none⟩) hBC _
              exact ⟨Hgr.out.os, Hgr.out.tape, Hgr.out.output, by have := Hgr.out.size; have := Hb2.out.size; omega, fun j hj => Hgr.out.block j (by have := Hb2.out.size; omega) (fun e => by have := (H4b.out.lt j e.symm).1; omega)⟩
      · have hzb : (both != 0) = true := by simp [hb0]
        have hadd : addZ made (some k) p = (made.set k (both, (made.getD k (0, 0, 0)).2), some k) := by
          unfold addZ
          rw [Hbz.out, if_pos ⟨Hrz.out, hb0⟩]
          rfl
        have Hadd := Lib.hid hadd
        obtain ⟨h1, h2, v, mv2, h3, h4, h5⟩ := Hc2.out
        obtain ⟨g2, cap2, rfl, _, hglt2⟩ := h4.form (by omega)
        have hset := comp_set (a := both) hBC hk h3 h4 h5
        have c0 : w2.cell? ⟨C, 0, none⟩ = some (.slice (some ⟨g2, 0, none⟩) n cap2) := by simp [World.cell?, h3, Hn.out]
        have c2 : w2.cell? ⟨C, 2, none⟩ = some (.int .i64 (k : Int)) := by simp [World.cell?, h3]
        obtain ⟨post, hbl, hBg, _, _, hlx, _⟩ := own_blk h4
        have c3 : ∃ u, w2.cell? ⟨g2, k * 3, none⟩ = some u := by
          have hlt : k * 3 < (flat encP made ++ post).length := by rw [List.length_append, hlx]; omega
          exact ⟨_, hbl.cell (List.getElem?_eq_getElem hlt)⟩
        obtain ⟨u3, c3⟩ := c3
        have f3 := hbl.frozen (k * 3)
        have Hset := Lib.hid hset
        clear hadd hset h3 h4 h5 hbl hlx
        go_wp2_with fail
        have d0 : w2.drew.cell? ⟨C, 0, none⟩ = some (.slice (some ⟨g2, 0, none⟩) n cap2) := c0
        have d2 : w2.drew.cell? ⟨C, 2, none⟩ = some (.int .i64 (k : Int)) := c2
        have d3 : w2.drew.cell? ⟨g2, k * 3, none⟩ = some u3 := c3
        have d4 : w2.drew.frozen? ⟨g2, k * 3, none⟩ = false := f3
        go_region_law (first | fail)
        all_goals
          go_wp2_with fail
          refine ⟨rfl, _, results_none rfl _ _ _, rfl, ?_, ?_⟩
          · rw [← Hmd.out, ← Hst.out, Hadd.out]
            exact Hset.out
          · exact (below_D4 Hb2'.out).setCell (p := ⟨g2, k * 3, none⟩) hBg _
end Go.Proofs.YtfegbfhkmdmheaaDoor

/- norm's Together. -/
namespace Go.Proofs.YtfegbfhkmdmheaaDoor
open Go.RowKit Go.Lib

theorem lookP_le : ∀ (L : PL) (N : Int), (L.all fun x => decide (0 ≤ x.2) && decide (x.2 ≤ N)) = true → 0 ≤ N → ∀ a b, 0 ≤ lookP L a b ∧ lookP L a b ≤ N
  | [], N, _, hN, a, b => ⟨Int.le_refl _, hN⟩
  | x :: t, N, h, hN, a, b => by
    simp only [List.all_cons, Bool.and_eq_true, decide_eq_true_eq] at h
    unfold lookP
    split
    · exact h.1
    · exact lookP_le t N h.2 hN a b
theorem pairsL_le : (pairsL.all fun x => decide (0 ≤ x.2) && decide (x.2 ≤ 1114111)) = true := by decide +kernel
theorem pairZ_le (a b : Int) : 0 ≤ pairZ a b ∧ pairZ a b ≤ 1114111 := by
  unfold pairZ
  split
  · unfold syllZ
    split
    · omega
    · split
      · rename_i h1 h2
        have h3 := h2.1
        unfold openZ at h3
        have h4 := of_decide_eq_true (Bool.and_eq_true_iff.1 h3).1
        omega
      · omega
  · exact lookP_le pairsL 1114111 pairsL_le (by decide) a b
def stepT (s : List Pc × Option Nat) (p : Pc) : List Pc × Option Nat := addZ s.1 s.2 p
def togF (ps : List Pc) : List Pc × Option Nat := ps.foldl stepT ([], none)
/-- what Together says -/
def togS (l : List UInt8) : List UInt8 := textP (togF (apartP l)).1
theorem togF_snoc (ps : List Pc) (p : Pc) : togF (ps ++ [p]) = stepT (togF ps) p := by simp [togF]
theorem stepT_ok (s : List Pc × Option Nat) (p : Pc) (h : ∀ q ∈ s.1, OkP q) (hp : OkP p) : (∀ q ∈ (stepT s p).1, OkP q) ∧ (stepT s p).1.length ≤ s.1.length + 1 := by
  unfold stepT addZ
  split
  · rename_i hc
    refine ⟨fun q hq => ?_, by simp⟩
    rcases List.mem_or_eq_of_mem_set hq with hq | rfl
    · exact h q hq
    · have hb := pairZ_le (atZ s.1 s.2).1 p.1
      have hz : OkP (atZ s.1 s.2) := by
        unfold atZ
        rw [List.getD_eq_getElem?_getD]
        cases hg : s.1[s.2.getD 0]? with
        | none => exact ⟨by decide, by decide, by decide, by decide⟩
        | some y => exact h y (List.mem_of_getElem? hg)
      exact ⟨hb.1, hb.2, hz.2.2.1, hz.2.2.2⟩
  · refine ⟨fun q hq => ?_, by simp⟩
    rcases List.mem_append.1 hq with hq | hq
    · exact h q hq
    · rw [List.mem_singleton.1 hq]; exact hp
theorem togF_ok1 : ∀ (ps : List Pc) (s : List Pc × Option Nat), (∀ q ∈ s.1, OkP q) → (∀ q ∈ ps, OkP q) → (∀ q ∈ (ps.foldl stepT s).1, OkP q) ∧ (ps.foldl stepT s).1.length ≤ s.1.length + ps.length
  | [], s, hs, _ => ⟨hs, Nat.le_refl _⟩
  | p :: ps, s, hs, h => by
    have h2 := stepT_ok s p hs (h p List.mem_cons_self)
    have h3 := togF_ok1 ps (stepT s p) h2.1 (fun q hq => h q (List.mem_cons_of_mem _ hq))
    rw [List.foldl_cons, List.length_cons]
    exact ⟨h3.1, by omega⟩
theorem togF_ok (ps : List Pc) (h : ∀ q ∈ ps, OkP q) : (∀ q ∈ (togF ps).1, OkP q) ∧ (togF ps).1.length ≤ ps.length := by
  have h1 := togF_ok1 ps ([], none) (fun q hq => by simp at hq) h
  exact ⟨h1.1, by have := h1.2; simp at this; exact this⟩

set_option maxRecDepth 100000 in
set_option maxHeartbeats 4000000 in
theorem Together_any (s : ByteArray) (w : World) (hs : s.size ≤ 134217728) (hT : Utf8Tabs 0 1 w) : Calls Tryd.prog 42 #[.string s] w fun e w' => e = .returned (.string ⟨(togS s.data.toList).toArray⟩) ∧ Below w.heap.size w w' := by
  obtain ⟨i0, hi, hz0, hz1, hz2⟩ := info_parts pieceN_info
  have HA := Lib.hid (apart_any s w (by omega) hT)
  have HX := Lib.hid (fun ps A n c w a b c' d => ntext_any ps A n c w a b c' d)
  have HAdd := Lib.hid (fun B C made st p w a b c d e => add_any B C made st p w a b c d e)
  have hlen := apartP_len s.data.toList
  have hsl := size_list s
  have hok := apartP_ok s.data.toList
  unfold togS
  obtain ⟨ps, hps⟩ : ∃ ps, apartP s.data.toList = ps := ⟨_, rfl⟩
  rw [hps] at HA hlen hok ⊢
  rw [hsl] at hlen
  obtain ⟨n, hn⟩ : ∃ n, ps.length = n := ⟨_, rfl⟩
  rw [hn] at HA hlen
  have HN := Lib.hid hn
  have Hok := Lib.hid hok
  obtain ⟨R, hR⟩ : ∃ R, (⟨(textP (togF ps).1).toArray⟩ : ByteArray) = R := ⟨_, rfl⟩
  rw [hR]
  have HR := Lib.hid hR
  clear hps hsl hn hR hok hT
  go_enter Tryd.func42, Tryd.ntmps42
  go_wp2_with fail
  refine HA.out.mono ?_
  rintro _ w1 ⟨A, c, rfl, hown, b1⟩
  have HRd := Lib.hid (Rd.own hown)
  have Hb1 := Lib.hid b1
  obtain ⟨W0, hrun, hown0, hg0⟩ := run_make_own (P := Tryd.prog) w1 w1.heap.size 63 100 i0 _ 3 Tryd.underlying63 hi hz0 hz1 .i64 .i64 n (by rw [hz2]; omega) (by unfold maxLen; omega) (Nat.le_refl _)
  obtain ⟨B, hB⟩ : ∃ B, w1.heap.size = B := ⟨_, rfl⟩
  rw [hB] at hrun hown0 HRd
  have hb0 : Below B w1 W0 := (Below.refl B w1).grown hg0 (by omega) (fun k hk => by cases hk)
  obtain ⟨C, hC⟩ : ∃ C, W0.heap.size = C := ⟨_, rfl⟩
  obtain ⟨W, hW⟩ : ∃ W, W0.alloc (.cells #[.slice (some ⟨B, 0, none⟩) 0 n, .bool false, .int .i64 0, .map none] 66) = W := ⟨_, rfl⟩
  have hCW : W.heap[C]? = some (.cells #[.slice (some ⟨B, 0, none⟩) 0 n, .bool false, .int .i64 0, .map none] 66 (0, 0)) := by rw [← hW, ← hC]; exact (MapKept.heap_alloc _ _).1
  have hWb : Below C W0 W := by rw [← hW, ← hC]; exact (Below.refl _ W0).alloc (Nat.le_refl _) _
  have hBC : B ≤ C := by have := hb0.size; omega
  have hcomp : Comp W B C [] none := ⟨hBC, (fun k e => by cases e), _, _, hCW, own_below hown0 (by rw [hC]; exact hWb), .inl rfl⟩
  have Hcomp := Lib.hid hcomp
  have HW := Lib.hid hW
  have HBW : Hid (Below B w1 W) := Lib.hid (hb0.trans (hWb.mono hBC))
  have HC := Lib.hid hC
  have HB := Lib.hid hB
  clear hown b1 hown0 hg0 hb0 hC hW hCW hWb hcomp hB
  go_wp2_with fail
  rw [HW.out, HC.out]
  go_loopw [15] (fun i wr => ∃ k : Nat, k ≤ n ∧ i = .int .i64 (k : Int) ∧ Comp wr B C (togF (ps.take k)).1 (togF (ps.take k)).2 ∧ Below B w1 wr) (fun i _ => n - (RowKit.intOf i).toNat)
  case atStart => exact ⟨0, Nat.zero_le _, rfl, Hcomp.out, HBW.out⟩
  case round =>
    obtain ⟨k, hk, rfl, hcp, hbw⟩ := hrel
    have hBw : B ≤ wr.heap.size := by have := hbw.size; have := HB.out; omega
    by_cases hkn : k < n
    · have hki : (k : Int) < (n : Int) := by omega
      obtain ⟨x, hx⟩ : ∃ x, ps[k]? = some x := ⟨_, List.getElem?_eq_getElem (by rw [HN.out]; exact hkn)⟩
      obtain ⟨a, rfl, hab, hc⟩ := Rd.addr (HRd.out.below hbw) (by omega)
      have hx3 : ∀ j u, (encP x)[j]? = some u → wr.cell? ((a.add (k * 3)).add j) = some u := by
        intro j u hu
        rw [add_sum]
        exact hc _ u (flat_at encP_len ps k x hx j u hu)
      have hx0 : wr.cell? (a.add (k * 3)) = some (.int .i32 x.1) := by have := hx3 0 _ rfl; simpa [Addr.add] using this
      have hx1 : wr.cell? ⟨(a.add (k * 3)).block, (a.add (k * 3)).off + 1, none⟩ = some (.int .u8 (x.2.1 : Int)) := by have := hx3 1 _ rfl; simpa [Addr.add] using this
      have hx2 : wr.cell? ⟨(a.add (k * 3)).block, (a.add (k * 3)).off + 2, none⟩ = some (.int .u8 (x.2.2 : Int)) := by have := hx3 2 _ rfl; simpa [Addr.add] using this
      obtain ⟨V, hV⟩ : ∃ V, wr.alloc (.cells #[.int .i32 x.1, .int .u8 (x.2.1 : Int), .int .u8 (x.2.2 : Int)] 100) = V := ⟨_, rfl⟩
      have hVb : Below wr.heap.size wr V := by rw [← hV]; exact (Below.refl _ wr).alloc (Nat.le_refl _) _
      have htk : togF (ps.take (k + 1)) = stepT (togF (ps.take k)) x := by
        obtain ⟨h, rfl⟩ := List.getElem?_eq_some_iff.1 hx
        rw [List.take_succ_eq_append_getElem h, togF_snoc]
      have hto := togF_ok (ps.take k) (fun q hq => Hok.out q (List.mem_of_mem_take hq))
      have hlt := List.length_take_le k ps
      have hxo := Hok.out x (List.mem_of_getElem? hx)
      have HAd := Lib.hid (HAdd.out B C (togF (ps.take k)).1 (togF (ps.take k)).2 x V (hcp.below hVb) (by have := hVb.size; omega) (by omega) (fun q hq => ⟨by have := (hto.1 q hq).1; omega, by have := (hto.1 q hq).2.1; omega⟩) ⟨by have := hxo.1; omega, by have := hxo.2.1; omega⟩)
      have Htk := Lib.hid htk
      have HV := Lib.hid hV
      have HBV := Lib.hid (hbw.trans (hVb.mono hBw))
      clear hx hc hx3 hV hVb htk hto hlt hcp hbw
      go_wp2_with fail
      rw [HV.out]
      refine HAd.out.mono ?_
      rintro _ w2 ⟨rfl, hcp2, hb2⟩
      have Hcp2 := Lib.hid hcp2
      have Hb2 := Lib.hid (HBV.out.trans hb2)
      clear hcp2 hb2
      go_wp2
      go_roundw
      case rel =>
        refine ⟨k + 1, by omega, by go_num, ?_, Hb2.out⟩
        rw [Htk.out]
        exact Hcp2.out
      case measure => simp [RowKit.intOf]; omega
    · obtain rfl : k = n := by omega
      rw [List.take_of_length_le (by rw [HN.out]; exact Nat.le_refl _)] at hcp
      have hto := togF_ok ps Hok.out
      obtain ⟨h1, h2, v, mv, h3, h4, h5⟩ := hcp
      obtain ⟨Av, cv, rfl, _, _⟩ := own_shape h4
      have c0 : wr.cell? ⟨C, 0, none⟩ = some (.slice Av (togF ps).1.length cv) := by simp [World.cell?, h3]
      have hnn := HN.out
      have HTx := HX.out (togF ps).1 Av _ cv wr (Rd.own h4) rfl (by omega) (fun p hp => ⟨by have := (hto.1 p hp).1; omega, by have := (hto.1 p hp).2.1; omega, (hto.1 p hp).2.2.2⟩)
      rw [HR.out] at HTx
      have HT2 := Lib.hid HTx
      have Hbw := Lib.hid hbw
      clear HTx h2 h3 h4 h5 hto hbw
      go_wp2_with fail
      refine HT2.out.mono ?_
      rintro _ w2 ⟨rfl, b2⟩
      have Hb2 := Lib.hid (Hbw.out.trans (b2.mono hBw))
      clear b2
      go_wp2_with fail
      go_ret
      exact ⟨rfl, Hb1.out.trans (Hb2.out.mono (by have := Hb1.out.size; have := HB.out; omega))⟩
end Go.Proofs.YtfegbfhkmdmheaaDoor
