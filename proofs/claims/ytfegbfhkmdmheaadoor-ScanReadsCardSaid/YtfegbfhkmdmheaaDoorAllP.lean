/- ScanAll's rows: four that stay, two that are written over and grown. -/
import Derived.Test.YtfegbfhkmdmheaaDoorMem
import Derived.Maps.AppendAt
import Derived.Laws.OwnMore
set_option linter.unusedSimpArgs false
set_option linter.unusedVariables false
namespace Go.Proofs.YtfegbfhkmdmheaaDoor
open Go.RowKit Go.Lib

/-- The four rows that stay. -/
structure Four (w0 : World) (ti tr : TypeId) (vb vB vr vd : Value) (nb nr : Nat) (xb xr : List Value) (w : World) : Prop where
  below : Below w0.heap.size w0 w
  b1 : w.ownsRow w0.heap.size ti 1 vb nb xb
  b2 : w.ownsRow w0.heap.size ti 1 vB nb xb
  r1 : w.ownsRow w0.heap.size tr 1 vr nr xr
  r2 : w.ownsRow w0.heap.size tr 1 vd nr xr

def Off (vb vB vr vd : Value) (g : Nat) : Prop := vb.ownBlock ≠ some g ∧ vB.ownBlock ≠ some g ∧ vr.ownBlock ≠ some g ∧ vd.ownBlock ≠ some g

section
variable {w0 w w' : World} {ti tr : TypeId} {vb vB vr vd : Value} {nb nr : Nat} {xb xr : List Value}
theorem Four.grow (h : Four w0 ti tr vb vB vr vd nb nr xb xr w) {row : Option Nat} (hg : w.grownBy w' row) (ho : ∀ g, row = some g → w0.heap.size ≤ g ∧ Off vb vB vr vd g) : Four w0 ti tr vb vB vr vd nb nr xb xr w' := by
  have K : ∀ v : Value, (∀ g, row = some g → v.ownBlock ≠ some g) → v.ownBlock = none ∨ v.ownBlock ≠ row := by
    intro v hv
    cases hr : row with
    | none => cases v.ownBlock <;> simp
    | some g => exact .inr (hv g hr)
  exact ⟨h.below.grown hg h.below.size fun k hk => (ho k hk).1, h.b1.kept hg (K _ fun g e => (ho g e).2.1), h.b2.kept hg (K _ fun g e => (ho g e).2.2.1), h.r1.kept hg (K _ fun g e => (ho g e).2.2.2.1), h.r2.kept hg (K _ fun g e => (ho g e).2.2.2.2)⟩
theorem Four.off_new (h : Four w0 ti tr vb vB vr vd nb nr xb xr w) {g : Nat} (hg : w.heap.size ≤ g) : Off vb vB vr vd g :=
  ⟨fun e => by have := (h.b1.lt g e).2; omega, fun e => by have := (h.b2.lt g e).2; omega, fun e => by have := (h.r1.lt g e).2; omega, fun e => by have := (h.r2.lt g e).2; omega⟩

/-- With the two rows that are written. -/
structure Six (w0 : World) (ti tr : TypeId) (vb vB vr vd : Value) (nb nr : Nat) (xb xr : List Value) (va : Value) (na : Nat) (vc : Value) (nc : Nat) (w : World) : Prop where
  four : Four w0 ti tr vb vB vr vd nb nr xb xr w
  a : ∃ xs, w.ownsRow w0.heap.size ti 1 va na xs
  c : ∃ ys, w.ownsRow w0.heap.size tr 1 vc nc ys
  offA : ∀ g, va.ownBlock = some g → Off vb vB vr vd g ∧ vc.ownBlock ≠ some g
  offC : ∀ g, vc.ownBlock = some g → Off vb vB vr vd g

variable {va vc va' vc' : Value} {na nc na' nc' : Nat}
theorem Six.growA (h : Six w0 ti tr vb vB vr vd nb nr xb xr va na vc nc w) (hg : w.grownBy w' va.ownBlock) (hn : ∃ xs, w'.ownsRow w0.heap.size ti 1 va' na' xs) (hb : va'.ownBlock = va.ownBlock ∨ va'.ownBlock = some w.heap.size) :
    Six w0 ti tr vb vB vr vd nb nr xb xr va' na' vc nc w' := by
  obtain ⟨xs, hx⟩ := h.a
  obtain ⟨ys, hy⟩ := h.c
  refine ⟨h.four.grow hg fun g e => ⟨(hx.lt g e).1, (h.offA g e).1⟩, hn, ⟨ys, hy.kept hg ?_⟩, fun g e => ?_, h.offC⟩
  · cases hr : va.ownBlock with
    | none => cases vc.ownBlock <;> simp
    | some g => exact .inr (h.offA g hr).2
  · rcases hb with hb | hb
    · exact h.offA g (hb ▸ e)
    · rw [hb] at e
      cases e
      exact ⟨h.four.off_new (Nat.le_refl _), fun e => by have := (hy.lt _ e).2; omega⟩
theorem Six.growC (h : Six w0 ti tr vb vB vr vd nb nr xb xr va na vc nc w) (hg : w.grownBy w' vc.ownBlock) (hn : ∃ xs, w'.ownsRow w0.heap.size tr 1 vc' nc' xs) (hb : vc'.ownBlock = vc.ownBlock ∨ vc'.ownBlock = some w.heap.size) :
    Six w0 ti tr vb vB vr vd nb nr xb xr va na vc' nc' w' := by
  obtain ⟨xs, hx⟩ := h.a
  obtain ⟨ys, hy⟩ := h.c
  refine ⟨h.four.grow hg fun g e => ⟨(hy.lt g e).1, h.offC g e⟩, ⟨xs, hx.kept hg ?_⟩, hn, fun g e => ?_, fun g e => ?_⟩
  · cases hr : vc.ownBlock with
    | none => cases va.ownBlock <;> simp
    | some g => exact .inr fun e => (h.offA g e).2 hr
  · refine ⟨(h.offA g e).1, fun e' => ?_⟩
    rcases hb with hb | hb
    · exact (h.offA g e).2 (hb ▸ e')
    · rw [hb] at e'
      cases e'
      have := (hx.lt _ e).2
      omega
  · rcases hb with hb | hb
    · exact h.offC g (hb ▸ e)
    · rw [hb] at e
      cases e
      exact h.four.off_new (Nat.le_refl _)
theorem Six.quiet (h : Six w0 ti tr vb vB vr vd nb nr xb xr va na vc nc w) (hg : w.grownBy w' none) : Six w0 ti tr vb vB vr vd nb nr xb xr va na vc nc w' := by
  obtain ⟨xs, hx⟩ := h.a
  obtain ⟨ys, hy⟩ := h.c
  have K : ∀ v : Value, v.ownBlock = none ∨ v.ownBlock ≠ none := fun v => by cases v.ownBlock <;> simp
  exact ⟨h.four.grow hg (fun g e => by cases e), ⟨xs, hx.kept hg (K _)⟩, ⟨ys, hy.kept hg (K _)⟩, h.offA, h.offC⟩
theorem Six.drewN (h : Six w0 ti tr vb vB vr vd nb nr xb xr va na vc nc w) (n : Nat) : Six w0 ti tr vb vB vr vd nb nr xb xr va na vc nc (w.drewN n) :=
  ⟨⟨below_N h.four.below n, h.four.b1, h.four.b2, h.four.r1, h.four.r2⟩, h.a, h.c, h.offA, h.offC⟩
theorem grown_of_below (h : Below w.heap.size w w') : w.grownBy w' none := ⟨h.os, h.tape, h.output, h.size, fun k hk _ => h.block k hk⟩
theorem Six.alloc (h : Six w0 ti tr vb vB vr vd nb nr xb xr va na vc nc w) (o : Obj) : Six w0 ti tr vb vB vr vd nb nr xb xr va na vc nc (w.alloc o) := h.quiet (World.grownBy_alloc w o none)
theorem Six.putA {A : Option Addr} {c : Nat} (h : Six w0 ti tr vb vB vr vd nb nr xb xr (.slice A na c) na vc nc w) (hn : 0 < na) : ∃ g, A = some ⟨g, 0, none⟩ ∧ (∀ j, w.frozen? ⟨g, j, none⟩ = false) ∧ (∀ j, j < na → ∃ x, w.cell? ⟨g, j, none⟩ = some x) ∧
    ∀ j u, Six w0 ti tr vb vB vr vd nb nr xb xr (.slice A na c) na vc nc (w.setCell ⟨g, j, none⟩ u) := by
  obtain ⟨xs, hx⟩ := h.a
  obtain ⟨g, cap, e, _, _⟩ := hx.form hn
  injection e with e1 _ e3
  subst e1
  refine ⟨g, rfl, hx.frozenAt, fun j hj => ⟨xs[j]'(by rw [hx.1]; omega), by rw [hx.cellAt j (by omega)]; exact List.getElem?_eq_getElem _⟩, fun j u => ?_⟩
  exact h.growA (hx.stored j u).2 ⟨_, (hx.stored j u).1⟩ (.inl rfl)
theorem Six.putC {A : Option Addr} {c : Nat} (h : Six w0 ti tr vb vB vr vd nb nr xb xr va na (.slice A nc c) nc w) (hn : 0 < nc) : ∃ g, A = some ⟨g, 0, none⟩ ∧ (∀ j, w.frozen? ⟨g, j, none⟩ = false) ∧ (∀ j, j < nc → ∃ x, w.cell? ⟨g, j, none⟩ = some x) ∧
    ∀ j u, Six w0 ti tr vb vB vr vd nb nr xb xr va na (.slice A nc c) nc (w.setCell ⟨g, j, none⟩ u) := by
  obtain ⟨xs, hx⟩ := h.c
  obtain ⟨g, cap, e, _, _⟩ := hx.form hn
  injection e with e1 _ e3
  subst e1
  refine ⟨g, rfl, hx.frozenAt, fun j hj => ⟨xs[j]'(by rw [hx.1]; omega), by rw [hx.cellAt j (by omega)]; exact List.getElem?_eq_getElem _⟩, fun j u => ?_⟩
  exact h.growC (hx.stored j u).2 ⟨_, (hx.stored j u).1⟩ (.inl rfl)

theorem six_start {w1 w2 w3 w4 w5 w6 : World} {xa xc : List Value} (hb : w1.ownsRow w0.heap.size ti 1 vb nb xb) (b1 : Below w0.heap.size w0 w1) (hr : w2.ownsRow w1.heap.size tr 1 vr nr xr) (b2 : Below w1.heap.size w1 w2)
    (ha : w3.ownsRow w2.heap.size ti 1 va na xa) (b3 : Below w2.heap.size w2 w3) (hB : w4.ownsRow w3.heap.size ti 1 vB nb xb) (b4 : Below w3.heap.size w3 w4)
    (hc : w5.ownsRow w4.heap.size tr 1 vc nc xc) (b5 : Below w4.heap.size w4 w5) (hd : w6.ownsRow w5.heap.size tr 1 vd nr xr) (b6 : Below w5.heap.size w5 w6) : Six w0 ti tr vb vB vr vd nb nr xb xr va na vc nc w6 := by
  have s1 := b1.size
  have s2 := b2.size
  have s3 := b3.size
  have s4 := b4.size
  have s5 := b5.size
  have s6 := b6.size
  have c56 := b6
  have c46 := b5.trans (b6.mono s5)
  have c36 := b4.trans (c46.mono s4)
  have c26 := b3.trans (c36.mono s3)
  have c16 := b2.trans (c26.mono s2)
  have c06 := b1.trans (c16.mono s1)
  have Lb := hb.lt
  have Lr := hr.lt
  have La := ha.lt
  have LB := hB.lt
  have Lc := hc.lt
  have Ld := hd.lt
  refine ⟨⟨c06, own_below hb c16, own_base (own_below hB c46) (by omega), own_base (own_below hr c26) (by omega), own_base hd (by omega)⟩, ⟨_, own_base (own_below ha c36) (by omega)⟩, ⟨_, own_base (own_below hc c56) (by omega)⟩, fun g e => ?_, fun g e => ?_⟩
  · have := La g e
    exact ⟨⟨fun e => by have := Lb g e; omega, fun e => by have := LB g e; omega, fun e => by have := Lr g e; omega, fun e => by have := Ld g e; omega⟩, fun e => by have := Lc g e; omega⟩
  · have := Lc g e
    exact ⟨fun e => by have := Lb g e; omega, fun e => by have := LB g e; omega, fun e => by have := Lr g e; omega, fun e => by have := Ld g e; omega⟩
end
end Go.Proofs.YtfegbfhkmdmheaaDoor
