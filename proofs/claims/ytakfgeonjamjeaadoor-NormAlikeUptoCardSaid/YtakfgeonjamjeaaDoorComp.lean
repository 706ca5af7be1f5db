/- The composer: reaches. -/
import Derived.Test.YtakfgeonjamjeaaDoorAps
import Derived.Deep.QuietTactic
import Derived.BigQuiet
namespace Go.Proofs.YtakfgeonjamjeaaDoor
open Go.RowKit Go.Lib

def CompMap (w : World) (mv : Value) : Prop := mv = .map none ∨ ∃ Bm M, mv = .map (some Bm) ∧ MapIs w Bm M pairsL
/-- a composer in block C: what it has made, where its last starter stands -/
def Comp (w : World) (B C : Nat) (made : List Pc) (st : Option Nat) : Prop :=
  B ≤ C ∧ (∀ k, st = some k → k < made.length) ∧ ∃ v mv, w.heap[C]? = some (.cells #[v, .bool st.isSome, .int .i64 ((st.getD 0 : Nat) : Int), mv] 52 (0, 0)) ∧
    w.ownsRow B 64 3 v made.length (flat encP made) ∧ CompMap w mv
theorem own_ne4 {w : World} {B : Nat} {e T : TypeId} {v : Value} {sz n : Nat} {xs : List Value} {b : Nat} {cs : Array Value} {fr : Nat × Nat} (hown : w.ownsRow B e sz v n xs) (hb : w.heap[b]? = some (.cells cs T fr)) (hTe : T ≠ e) : v.ownBlock ≠ some b := by
  rcases hown.2 with ⟨rfl, _⟩ | ⟨g, cap, cur, rfl, _, hg, _⟩
  · intro h; cases h
  · intro h
    cases h
    rw [hg] at hb
    simp only [Option.some.injEq, Obj.cells.injEq] at hb
    exact hTe hb.2.1.symm
theorem CompMap.keep {w w' : World} {mv : Value} (h : CompMap w mv) (hk : ∀ Bm, mv = .map (some Bm) → w'.heap[Bm]? = w.heap[Bm]?) : CompMap w' mv := by
  rcases h with h | ⟨Bm, M, rfl, ⟨D, h1, ⟨es, clock, e1, e2⟩, h3⟩⟩
  · exact .inl h
  · exact .inr ⟨Bm, M, rfl, ⟨D, h1, ⟨es, clock, (hk Bm rfl).trans e1, e2⟩, h3⟩⟩
theorem CompMap.lt {w : World} {Bm : Nat} {mv : Value} (h : CompMap w mv) (e : mv = .map (some Bm)) : Bm < w.heap.size := by
  rcases h with h | ⟨Bm', M, h1, h2⟩
  · rw [h] at e; cases e
  · rw [h1] at e
    cases e
    exact h2.lt
theorem Comp.below {w w' : World} {B C : Nat} {made : List Pc} {st : Option Nat} (h : Comp w B C made st) (hb : Below w.heap.size w w') : Comp w' B C made st := by
  obtain ⟨h1, h2, v, mv, h3, h4, h5⟩ := h
  exact ⟨h1, h2, v, mv, (hb.block C (heap_lt4 h3)).trans h3, own_below h4 hb, h5.keep fun Bm e => hb.block Bm (h5.lt e)⟩

theorem below_N4 {B : Nat} {a w : World} (h : Below B a w) : ∀ n, Below B a (w.drewN n) := fun n => ⟨h.os, h.tape, h.output, h.size, h.block⟩
/-- a map's block is no row of cells -/
theorem CompMap.ne {w : World} {mv : Value} {Bm g : Nat} (h : CompMap w mv) (e : mv = .map (some Bm)) {cs : Array Value} {t : TypeId} {fr : Nat × Nat} (hg : w.heap[g]? = some (.cells cs t fr)) : Bm ≠ g := by
  rintro rfl
  rcases h with h | ⟨Bm', M, h1, ⟨D, _, ⟨es, clock, e1, _⟩, _⟩⟩
  · rw [h] at e; cases e
  · rw [h1] at e
    cases e
    rw [e1] at hg
    cases hg
theorem Comp.hasMap {w : World} {B C : Nat} {made : List Pc} {st : Option Nat} (h : Comp w B C made st) : HasMap w C := by
  obtain ⟨h1, h2, v, mv, h3, h4, h5⟩ := h
  have hc : w.cell? ⟨C, 3, none⟩ = some mv := by simp [World.cell?, h3]
  refine ⟨by simp [World.frozen?, h3], ?_⟩
  rcases h5 with rfl | ⟨Bm, M, rfl, h6⟩
  · exact .inl hc
  · exact .inr ⟨Bm, M, hc, CompMap.ne (mv := .map (some Bm)) (.inr ⟨Bm, M, rfl, h6⟩) rfl h3, h6⟩
theorem Comp.turned {w w' : World} {B C : Nat} {made : List Pc} {st : Option Nat} (h : Comp w B C made st) (ht : Turned w w' C) (hm : HasMap w' C) : Comp w' B C made st := by
  obtain ⟨h1, h2, v, mv, h3, h4, h5⟩ := h
  obtain ⟨w1, hb, hw⟩ := ht
  have h31 := (hb.block C (heap_lt4 h3)).trans h3
  have h41 := own_below h4 hb
  have hcm : ∀ mv', w'.cell? ⟨C, 3, none⟩ = some mv' → CompMap w' mv' := by
    intro mv' e
    rcases hm.2 with h | ⟨Bm, M, h, _, h6⟩
    · rw [h] at e
      cases e
      exact .inl rfl
    · rw [h] at e
      cases e
      exact .inr ⟨Bm, M, rfl, h6⟩
  rcases hw with rfl | ⟨u, rfl⟩
  · exact ⟨h1, h2, v, mv, h31, h41, hcm mv (by simp [World.cell?, h31])⟩
  · have h32 : (w1.setCell ⟨C, 3, none⟩ u).heap[C]? = some (.cells #[v, .bool st.isSome, .int .i64 ((st.getD 0 : Nat) : Int), u] 52 (0, 0)) := by
      rw [heap_setCell_same w1 C 3 _ _ u h31]
      rfl
    refine ⟨h1, h2, v, u, h32, row_same4 h41 (fun k hk => heap_setCell_other _ _ _ _ ?_), hcm u (by simp [World.cell?, h32])⟩
    intro e
    have e : k = C := e
    subst e
    exact own_ne4 h41 h31 (by decide) hk
theorem Turned.below {w w' : World} {B C : Nat} (h : Turned w w' C) (hB : B ≤ C) (hw : B ≤ w.heap.size) : Below B w w' := by
  obtain ⟨w1, hb, rfl | ⟨u, rfl⟩⟩ := h
  · exact hb.mono hw
  · exact (hb.mono hw).setCell (p := ⟨C, 3, none⟩) hB u
theorem Turned.block {w w' : World} {C : Nat} (h : Turned w w' C) {k : Nat} (hk : k < w.heap.size) (hn : k ≠ C) : w'.heap[k]? = w.heap[k]? := by
  obtain ⟨w1, hb, rfl | ⟨u, rfl⟩⟩ := h
  · exact hb.block k hk
  · exact (heap_setCell_other _ _ _ _ hn).trans (hb.block k hk)
def lastZ (made : List Pc) : Pc := made.getD (made.length - 1) (0, 0, 0)
def reachZ (made : List Pc) (st : Option Nat) (p : Pc) : Bool := match st with
  | none => false
  | some k => (made.length - 1 == k) || decide ((lastZ made).2.1 < p.2.1)

set_option maxRecDepth 100000 in
set_option maxHeartbeats 2000000 in
theorem reach_any (B C : Nat) (made : List Pc) (st : Option Nat) (p : Pc) (w : World) (h : Comp w B C made st) (hm : made.length ≤ 1073741824) :
    Calls Tryd.prog 70 #[.pointer (some ⟨C, 0, none⟩), .agg #[.int .i32 p.1, .int .u8 (p.2.1 : Int), .int .u8 (p.2.2 : Int)]] w fun e w' => e = .returned (.bool (reachZ made st p)) ∧ Below w.heap.size w w' := by
  obtain ⟨h1, h2, v, mv, h3, h4, h5⟩ := h
  obtain ⟨X, hX⟩ : ∃ X, w.heap.size = X := ⟨_, rfl⟩
  obtain ⟨V, hV⟩ : ∃ V, w.alloc (.cells #[.int .i32 p.1, .int .u8 (p.2.1 : Int), .int .u8 (p.2.2 : Int)] 64) = V := ⟨_, rfl⟩
  have hCX : C < X := by rw [← hX]; exact heap_lt4 h3
  have hVb : Below X w V := by rw [← hV, ← hX]; exact (Below.refl _ w).alloc (Nat.le_refl _) _
  have hVX : V.heap[X]? = some (.cells #[.int .i32 p.1, .int .u8 (p.2.1 : Int), .int .u8 (p.2.2 : Int)] 64 (0, 0)) := by rw [← hV, ← hX]; exact (MapKept.heap_alloc _ _).1
  have b1 : V.cell? ⟨X, 1, none⟩ = some (.int .u8 (p.2.1 : Int)) := by simp [World.cell?, hVX]
  have hVC := (hVb.block C hCX).trans h3
  have c0 : V.cell? ⟨C, 0, none⟩ = some v := by simp [World.cell?, hVC]
  have c1 : V.cell? ⟨C, 1, none⟩ = some (.bool st.isSome) := by simp [World.cell?, hVC]
  have c2 : V.cell? ⟨C, 2, none⟩ = some (.int .i64 ((st.getD 0 : Nat) : Int)) := by simp [World.cell?, hVC]
  have HVb := Lib.hid hVb
  rw [hX]
  cases st with
  | none =>
    simp only [Option.isSome_none] at c1
    clear hVC hVX hVb h3 h5 h4
    subst hV
    go_enter Tryd.func70, Tryd.ntmps70
    go_wp2_with fail
    go_ret
    exact ⟨rfl, HVb.out⟩
  | some k =>
    simp only [Option.isSome_some] at c1
    simp only [Option.getD_some] at c2
    have hk := h2 k rfl
    obtain ⟨n, hn⟩ : ∃ n, made.length = n := ⟨_, rfl⟩
    have hl : lastZ made = made.getD (n - 1) (0, 0, 0) := by unfold lastZ; rw [hn]
    unfold reachZ
    rw [hn] at hk hm h4 ⊢
    obtain ⟨y, hy⟩ : ∃ y, made[n - 1]? = some y := ⟨_, List.getElem?_eq_getElem (by omega)⟩
    have hly : lastZ made = y := by rw [hl, List.getD_eq_getElem?_getD, hy]; rfl
    rw [hly]
    dsimp only
    obtain ⟨g, cap, rfl, _, hglt⟩ := h4.form (by omega)
    have hyc := h4.cells (g := g) rfl ((n - 1) * 3 + 1) (.int .u8 (y.2.1 : Int)) (flat_at encP_len made (n - 1) y hy 1 _ rfl)
    have hyc2 : V.cell? ⟨g, (n - 1) * 3 + 1, none⟩ = some (.int .u8 (y.2.1 : Int)) := by
      have h := (hVb.cell (p := (⟨g, 0, none⟩ : Addr).add ((n - 1) * 3 + 1)) (by rw [add_block]; show g < X; omega)).trans hyc
      simpa [Addr.add] using h
    have hw1 : IntKind.i64.wrap ((n : Int) - 1) = ((n - 1 : Nat) : Int) := by rw [IntWalk.i64_in _ (by omega)]; omega
    have hlt : ((n - 1 : Nat) : Int) < (n : Int) := by omega
    have hn1 : n - 1 < n := by omega
    clear hVC hVX hVb h3 h5 h4 hyc hy hl hly hn
    subst hV
    by_cases hk1 : n - 1 = k
    · have e1 : ((((n - 1 : Nat) : Int)) == (k : Int)) = true := by rw [hk1]; simp
      have e2 : (n - 1 == k) = true := by simp [hk1]
      have Hk1 := Lib.hid hk1
      clear hk1
      rw [e2, Bool.true_or]
      go_enter Tryd.func70, Tryd.ntmps70
      go_wp2_with fail
      go_quiet (fail)
      go_wp2_with fail
      go_ret
      exact ⟨rfl, below_N4 HVb.out _⟩
    · have e1 : ((((n - 1 : Nat) : Int)) == (k : Int)) = false := by rw [beq_eq_false_iff_ne]; omega
      have e2 : (n - 1 == k) = false := by simp [hk1]
      by_cases hy1 : y.2.1 < p.2.1
      · have e3 : (y.2.1 : Int) < (p.2.1 : Int) := by omega
        have e4 : decide (y.2.1 < p.2.1) = true := decide_eq_true hy1
        rw [e2, e4, Bool.false_or]
        go_enter Tryd.func70, Tryd.ntmps70
        go_wp2_with fail
        go_quiet (fail)
        go_wp2_with fail
        go_ret
        exact ⟨rfl, below_N4 HVb.out _⟩
      · have e3 : ¬ (y.2.1 : Int) < (p.2.1 : Int) := by omega
        have e4 : decide (y.2.1 < p.2.1) = false := decide_eq_false hy1
        rw [e2, e4, Bool.false_or]
        go_enter Tryd.func70, Tryd.ntmps70
        go_wp2_with fail
        go_quiet (fail)
        go_wp2_with fail
        go_ret
        exact ⟨rfl, below_N4 HVb.out _⟩
end Go.Proofs.YtakfgeonjamjeaaDoor
