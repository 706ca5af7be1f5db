/- What comes in, opened: slices of numbers; and what a bound on the whole gives. -/
import Derived.Test.YtfegbfhkmdmheaaDoorClose
import Derived.ChangeSlices
import Derived.Lib.SmallJoins
import Derived.Deep.Fields23
set_option linter.unusedSimpArgs false
set_option linter.unusedVariables false
namespace Go.Proofs.YtfegbfhkmdmheaaDoor
open Go.ChangeShapes Go.WideShapes Go.ChangeAt Go.RowKit Go.Lib

theorem lits_len {H : Type} (k : IntKind) (zs : List Int) : (lits (H := H) k zs).length = zs.length := by simp [lits]

theorem open_list {H : Type} {enc : TypeId × Value → H} {P : Program} {W : World} {base : Nat} {t e : TypeId} {k : IntKind} {v : Value} {d : DataW H} {p : List MemPlace}
    (ht : P.underlying t = some (.slice e)) (he : P.underlying e = some (.int k)) (hc : P.cellsOf e = 1) (hval : Value.okWide P W .any base t v) (h : DataW.Trod enc P W 0 (fun _ => true) true t v d p) :
    ∃ (A : Option Addr) (n c : Nat) (zs : List Int), v = .slice A n c ∧ Rd W W.heap.size 1 A n (zs.map (Value.int k)) ∧ n ≤ c ∧ c ≤ maxLen ∧ (∀ z ∈ zs, (Lit.int k z).wf = true) ∧
      (d = .nil ∧ n = 0 ∧ c = 0 ∨ A ≠ none ∧ ∃ rest, d = .slice (lits k zs) (lits k rest) ∧ zs.length + rest.length = c) := by
  obtain ⟨a1, len, cap, rfl⟩ := okWide_slice ht hval
  obtain ⟨fuel, hf⟩ := h
  rcases open_ints ht he hc hf with ⟨hcs, hx⟩ | ⟨a, len', cap', zs, hcs, _, hl, hm, hz, hx, hcell, hwz⟩
  · simp [Value.cells] at hcs
    obtain ⟨rfl, rfl, rfl⟩ := hcs
    simp only [Prod.mk.injEq] at hx
    exact ⟨none, 0, 0, [], rfl, Rd.nil _ _ _ _, Nat.le_refl _, Nat.zero_le _, by simp, .inl ⟨hx.1, rfl, rfl⟩⟩
  · simp [Value.cells] at hcs
    obtain ⟨rfl, rfl, rfl⟩ := hcs
    simp only [Prod.mk.injEq] at hx
    simp only [if_true] at hz
    have htl : (zs.take len).length = len := by simp; omega
    refine ⟨some a, len, cap, zs.take len, rfl, ⟨by simp; omega, ?_⟩, hl, hm, fun z hz => hwz z (List.mem_of_mem_take hz), .inr ⟨by simp, zs.drop len, hx.1, by simp; omega⟩⟩
    rcases Nat.eq_zero_or_pos len with h0 | h0
    · exact .inl h0
    · refine .inr ⟨a, rfl, ?_, fun j u hu => ?_⟩
      · have := World.block_lt_of_cell? W _ (hcell 0 (by omega))
        rwa [add_block] at this
      · have hj : j < (zs.take len).length := by
          have := (List.getElem?_eq_some_iff.1 hu).1
          simpa using this
        have h1 := hcell j (by omega)
        rw [h1, ← hu]
        rw [htl] at hj
        simp [List.getElem?_take, hj, List.getD, List.getElem?_eq_getElem (show j < zs.length by omega)]

theorem bulk_two {H : Type} {a b : DataW H} (h : Rows.uptoSmall H [a, b] = true) : Rows.uptoBulk a ≤ 1048576 ∧ Rows.uptoBulk b ≤ 1048576 := by
  have h : Rows.uptoBulkAll [a, b] ≤ 1048576 := of_decide_eq_true h
  simp only [Rows.uptoBulkAll] at h
  omega
theorem bulk_one {H : Type} {a : DataW H} (h : Rows.uptoSmall H [a] = true) : Rows.uptoBulk a ≤ 1048576 := by
  have h : Rows.uptoBulkAll [a] ≤ 1048576 := of_decide_eq_true h
  simp only [Rows.uptoBulkAll] at h
  omega
theorem bulk_string {H : Type} {s : ByteArray} (h : Rows.uptoBulk (DataW.lit (H := H) (.string s.data.toList)) ≤ 1048576) : s.size ≤ 1048576 := by
  simp only [Rows.uptoBulk] at h
  rw [size_list] at h
  omega
theorem bulk_len {H : Type} (l : List (DataW H)) : l.length ≤ Rows.uptoBulkAll l := by
  induction l with
  | nil => exact Nat.zero_le _
  | cons x r ih =>
    have h1 : 1 ≤ Rows.uptoBulk x := by
      cases x with
      | lit l => cases l <;> simp [Rows.uptoBulk]
      | nil => simp [Rows.uptoBulk]
      | ptr d => simp [Rows.uptoBulk]
      | slice elems spare => simp [Rows.uptoBulk]
      | agg parts => simp [Rows.uptoBulk]
      | iface t d => simp [Rows.uptoBulk]
      | map entries => simp [Rows.uptoBulk]
      | held h => simp [Rows.uptoBulk]
    simp only [Rows.uptoBulkAll, List.length_cons]
    omega
theorem bulk_slice {H : Type} {a b : List (DataW H)} (h : Rows.uptoBulk (DataW.slice a b) ≤ 1048576) : a.length ≤ 1048576 := by
  have := bulk_len a
  simp only [Rows.uptoBulk] at h
  omega
/-- the form's own reach: a slice of 4-byte numbers -/
theorem reach_slice {H : Type} {P : Program} {t e : TypeId} {a b : List (DataW H)} {ts : List TypeId} {ds : List (DataW H)} (ht : P.underlying t = some (.slice e)) (hb : P.bytesOf e = 4)
    (h : (DataW.weightsEach P (t :: ts) (DataW.slice a b :: ds)).all (· ≤ reachBytes) = true) : a.length ≤ 35184372087808 := by
  simp only [DataW.weightsEach, DataW.weights, ht, List.cons_append, List.all_cons, Bool.and_eq_true, decide_eq_true_eq, hb, reachBytes] at h
  have := of_decide_eq_true h.1
  omega

end Go.Proofs.YtfegbfhkmdmheaaDoor

/- What comes in, opened: a few words more. -/
namespace Go.Proofs.YtfegbfhkmdmheaaDoor
open Go.RowKit
theorem i64_wf3 (z : Int) (h : (Lit.int .i64 z).wf = true) : -9223372036854775808 ≤ z ∧ z ≤ 9223372036854775807 := by
  simp [Lit.wf, IntKind.min, IntKind.max, IntKind.signed, IntKind.bits] at h
  omega
theorem u8_wf (z : Int) (h : (Lit.int .u8 z).wf = true) : 0 ≤ z ∧ z ≤ 255 := by
  simp [Lit.wf, IntKind.min, IntKind.max, IntKind.signed, IntKind.bits] at h
  omega
theorem bulk_three {H : Type} {a b c : DataW H} (h : Rows.uptoSmall H [a, b, c] = true) : Rows.uptoBulk a ≤ 1048576 ∧ Rows.uptoBulk b ≤ 1048576 ∧ Rows.uptoBulk c ≤ 1048576 := by
  have h : Rows.uptoBulkAll [a, b, c] ≤ 1048576 := of_decide_eq_true h
  simp only [Rows.uptoBulkAll] at h
  omega
end Go.Proofs.YtfegbfhkmdmheaaDoor

/- A look that comes in, opened. -/
namespace Go.Proofs.YtfegbfhkmdmheaaDoor
open Go.ChangeShapes Go.WideShapes Go.ChangeAt Go.RowKit Go.Lib Go.Deep Go.Maps

theorem array5 {α : Type} {cs : Array α} (h : cs.size = 5) : ∃ c0 c1 c2 c3 c4, cs = #[c0, c1, c2, c3, c4] := by
  obtain ⟨l⟩ := cs
  match l, h with
  | [c0, c1, c2, c3, c4], _ => exact ⟨c0, c1, c2, c3, c4, rfl⟩

theorem bulk_head {H : Type} {a : DataW H} {l : List (DataW H)} (h : Rows.uptoSmall H (a :: l) = true) : Rows.uptoBulk a ≤ 1048576 := by
  have h : Rows.uptoBulkAll (a :: l) ≤ 1048576 := of_decide_eq_true h
  simp only [Rows.uptoBulkAll] at h
  omega
section
variable {H : Type} {enc : TypeId × Value → H} {P : Program} {W : World} {base : Nat}
theorem open_look {t t0 t1 t2 t3 t4 : TypeId} {f0 f1 f2 f3 f4 : Field} {v : Value} {d : DataW H} {p : List MemPlace} (hs : P.underlying t = some (.struct #[f0, f1, f2, f3, f4])) (hone : oneCellFields P #[f0, f1, f2, f3, f4] = true) (hC : P.cellsOf t = 5)
    (e0 : f0.type = t0) (e1 : f1.type = t1) (e2 : f2.type = t2) (e3 : f3.type = t3) (e4 : f4.type = t4)
    (h0 : P.underlying t0 = some (.int .i64)) (h1 : P.underlying t1 = some .bool) (h2 : P.underlying t2 = some (.int .i8)) (h3 : P.underlying t3 = some .bool) (h4 : P.underlying t4 = some .bool)
    (hv : Value.okWide P W .any base t v) (h : DataW.Trod enc P W 0 (fun _ => true) true t v d p) :
    ∃ (tb : Int) (wd : Bool) (wt : Int) (jn rz : Bool), v = .agg #[.int .i64 tb, .bool wd, .int .i8 wt, .bool jn, .bool rz] ∧ d = .agg [.lit (.int .i64 tb), .lit (.bool wd), .lit (.int .i8 wt), .lit (.bool jn), .lit (.bool rz)] ∧ p = [] ∧ (Lit.int .i64 tb).wf = true := by
  subst e0 e1 e2 e3 e4
  obtain ⟨cs, rfl, hsz⟩ := okWide_struct hs hv
  obtain ⟨c0, c1, c2, c3, c4, rfl⟩ := array5 (hsz.trans hC)
  obtain ⟨fuel, hf⟩ := h
  obtain ⟨xs, n, _, hx, hl, hlen, hf⟩ := DataW.trod_struct hs hf
  obtain ⟨o0, k0⟩ := hone_of hone 0 f0 rfl
  obtain ⟨o1, k1⟩ := hone_of hone 1 f1 rfl
  obtain ⟨o2, k2⟩ := hone_of hone 2 f2 rfl
  obtain ⟨o3, k3⟩ := hone_of hone 3 f3 rfl
  obtain ⟨o4, k4⟩ := hone_of hone 4 f4 rfl
  match xs, hlen with
  | [y0, y1, y2, y3, y4], _ =>
    have g0 := hf 0 f0 rfl
    have g1 := hf 1 f1 rfl
    have g2 := hf 2 f2 rfl
    have g3 := hf 3 f3 rfl
    have g4 := hf 4 f4 rfl
    simp [Value.cells, o0, k0] at g0
    simp [Value.cells, o1, k1] at g1
    simp [Value.cells, o2, k2] at g2
    simp [Value.cells, o3, k3] at g3
    simp [Value.cells, o4, k4] at g4
    obtain ⟨z0, q0, x0, wf0⟩ := DataW.trod_int h0 g0
    obtain ⟨z1, q1, x1⟩ := DataW.trod_bool h1 g1
    obtain ⟨z2, q2, x2, _⟩ := DataW.trod_int h2 g2
    obtain ⟨z3, q3, x3⟩ := DataW.trod_bool h3 g3
    obtain ⟨z4, q4, x4⟩ := DataW.trod_bool h4 g4
    simp at q0 q1 q2 q3 q4
    subst q0 q1 q2 q3 q4 x0 x1 x2 x3 x4
    simp at hx
    exact ⟨z0, z1, z2, z3, z4, rfl, hx.1, hx.2, wf0⟩
end
end Go.Proofs.YtfegbfhkmdmheaaDoor
