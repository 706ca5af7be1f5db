/- told: ranging over an iterator of clusters, held against a list; left early, then gone over twice. -/
import Derived.Test.YtiafofekobcifaaDoorRowG
import Derived.LoopN
set_option linter.unusedSimpArgs false
set_option linter.unusedVariables false
namespace Go.Proofs.YtiafofekobcifaaDoor
open Go.RowKit Go.Shelf Go.Lib
attribute [local go_sem] Oper.semAt_some

/-- what lies in told's boxes, and the calls it has put off -/
structure TS (w : World) (B : Nat) (A : Option Addr) (n c : Nat) (bk : Bool) (lv m : Int) (Ds : List Nat) (W : World) : Prop where
  b0 : Boxed W B 22 (.slice A n c)
  b1 : Boxed W (B + 1) 4 (.bool bk)
  b2 : Boxed W (B + 1 + 1) 3 (.int .i64 lv)
  b3 : Boxed W (B + 1 + 1 + 1) 4 (.bool false)
  b4 : Boxed W (B + 1 + 1 + 1 + 1) 3 (.int .i64 m)
  bel : Below B w W
  ds : ∀ D ∈ Ds, B + 4 < D ∧ W.heap[D]? = some (.deferred (some []))
section
variable {w : World} {B : Nat} {A : Option Addr} {n c : Nat} {bk : Bool} {lv m : Int} {Ds : List Nat} {W : World}
theorem heap_lt {W : World} {D : Nat} {o : Obj} (h : W.heap[D]? = some o) : D < W.heap.size := (Array.getElem?_eq_some_iff.1 h).1
theorem TS.moves (h : TS w B A n c bk lv m Ds W) {b : Nat} {T : Bl} {W' : World} (hT : ∀ k, T k → b ≤ k) (hb : B + 4 < b) (hd : ∀ D ∈ Ds, D < b) (hm : Moves T W W') : TS w B A n c bk lv m Ds W' := by
  have hn : ∀ k, k < b → ¬ T k := fun k hk e => by have := hT _ e; omega
  exact ⟨(hm.block _ h.b0.lt (hn _ (by omega))).trans h.b0, (hm.block _ h.b1.lt (hn _ (by omega))).trans h.b1, (hm.block _ h.b2.lt (hn _ (by omega))).trans h.b2, (hm.block _ h.b3.lt (hn _ (by omega))).trans h.b3, (hm.block _ h.b4.lt (hn _ (by omega))).trans h.b4,
    h.bel.trans ⟨hm.os, hm.tape, hm.output, hm.size, fun k hk => hm.block k (by have := h.bel.size; have := h.b0.lt; omega) (hn _ (by omega))⟩,
    fun D hD => ⟨(h.ds D hD).1, (hm.block _ (heap_lt (h.ds D hD).2) (hn _ (hd D hD))).trans (h.ds D hD).2⟩⟩
theorem TS.set (h : TS w B A n c bk lv m Ds W) (m' : Int) : TS w B A n c bk lv m' Ds (W.setCell ⟨B + 1 + 1 + 1 + 1, 0, none⟩ (.int .i64 m')) :=
  ⟨h.b0.other (by omega) _, h.b1.other (by omega) _, h.b2.other (by omega) _, h.b3.other (by omega) _, h.b4.set _, h.bel.setCell (p := ⟨B + 1 + 1 + 1 + 1, 0, none⟩) (show B ≤ B + 1 + 1 + 1 + 1 by omega) _,
    fun D hD => ⟨(h.ds D hD).1, (Below.heap_setCell _ _ _ D (fun e => by have e : D = B + 1 + 1 + 1 + 1 := e; have := (h.ds D hD).1; omega)).trans (h.ds D hD).2⟩⟩
theorem TS.more (h : TS w B A n c bk lv m Ds W) {D : Nat} (h1 : B + 4 < D) (hD : W.heap[D]? = some (.deferred (some []))) : TS w B A n c bk lv m (D :: Ds) W :=
  ⟨h.b0, h.b1, h.b2, h.b3, h.b4, h.bel, fun E hE => by
    rcases List.mem_cons.1 hE with rfl | hE
    · exact ⟨h1, hD⟩
    · exact h.ds E hE⟩
theorem TS.lt (h : TS w B A n c bk lv m Ds W) : B + 4 < W.heap.size := by have := h.b4.lt; omega
theorem TS.dlt (h : TS w B A n c bk lv m Ds W) : ∀ D ∈ Ds, D < W.heap.size := fun D hD => heap_lt (h.ds D hD).2
end

end Go.Proofs.YtiafofekobcifaaDoor
