/- What comes in, opened: slices of numbers; and what a bound on the whole gives. -/
import Derived.Test.YthkapcnhfdpdbaaDoorClose
import Derived.ChangeSlices
set_option linter.unusedSimpArgs false
set_option linter.unusedVariables false
namespace Go.Proofs.YthkapcnhfdpdbaaDoor
open Go.ChangeShapes Go.WideShapes Go.ChangeAt Go.RowKit Go.Lib

theorem lits_len {H : Type} (k : IntKind) (zs : List Int) : (lits (H := H) k zs).length = zs.length := by simp [lits]

theorem open_list {H : Type} {enc : TypeId × Value → H} {P : Program} {W : World} {base : Nat} {t e : TypeId} {k : IntKind} {v : Value} {d : DataW H} {p : List MemPlace}
    (ht : P.underlying t = some (.slice e)) (he : P.underlying e = some (.int k)) (hc : P.cellsOf e = 1) (hval : Value.okWide P W .any base t v) (h : DataW.Trod enc P W 0 (fun _ => true) true t v d p) :
    ∃ (A : Option Addr) (n c : Nat) (zs : List Int), v = .slice A n c ∧ Rd W W.heap.size 1 A n (zs.map (Value.int k)) ∧ n ≤ c ∧ c ≤ maxLen ∧ (∀ z ∈ zs, (Lit.int k z).wf = true) ∧
      (d = .nil ∧ n = 0 ∧ c = 0 ∨ A ≠ none ∧ ∃ rest, d = .slice (lits k zs) (lits k rest) ∧ zs.length + rest.length = c) := by
  obtain ⟨a1, len, cap, rfl⟩ := okWide_slice ht hval
  obtain ⟨fuel, hf⟩ := h
  rcases open_ints ht he hc hf with ⟨hcs, hx⟩ | ⟨a, len', cap', zs, hcs, _, hl, hm, hz, hx, hcell, hwz⟩
  · simp [Value.cells] at hcs
    obtain ⟨rfl, rfl, rfl⟩ := hcs
    simp only [Prod.mk.injEq] at hx
    exact ⟨none, 0, 0, [], rfl, Rd.nil _ _ _ _, Nat.le_refl _, Nat.zero_le _, by simp, .inl ⟨hx.1, rfl, rfl⟩⟩
  · simp [Value.cells] at hcs
    obtain ⟨rfl, rfl, rfl⟩ := hcs
    simp only [Prod.mk.injEq] at hx
    simp only [if_true] at hz
    have htl : (zs.take len).length = len := by simp; omega
    refine ⟨some a, len, cap, zs.take len, rfl, ⟨by simp; omega, ?_⟩, hl, hm, fun z hz => hwz z (List.mem_of_mem_take hz), .inr ⟨by simp, zs.drop len, hx.1, by simp; omega⟩⟩
    rcases Nat.eq_zero_or_pos len with h0 | h0
    · exact .inl h0
    · refine .inr ⟨a, rfl, ?_, fun j u hu => ?_⟩
      · have := World.block_lt_of_cell? W _ (hcell 0 (by omega))
        rwa [add_block] at this
      · have hj : j < (zs.take len).length := by
          have := (List.getElem?_eq_some_iff.1 hu).1
          simpa using this
        have h1 := hcell j (by omega)
        rw [h1, ← hu]
        rw [htl] at hj
        simp [List.getElem?_take, hj, List.getD, List.getElem?_eq_getElem (show j < zs.length by omega)]

theorem bulk_two {H : Type} {a b : DataW H} (h : Rows.uptoSmall H [a, b] = true) : Rows.uptoBulk a ≤ 1048576 ∧ Rows.uptoBulk b ≤ 1048576 := by
  have h : Rows.uptoBulkAll [a, b] ≤ 1048576 := of_decide_eq_true h
  simp only [Rows.uptoBulkAll] at h
  omega
theorem bulk_one {H : Type} {a : DataW H} (h : Rows.uptoSmall H [a] = true) : Rows.uptoBulk a ≤ 1048576 := by
  have h : Rows.uptoBulkAll [a] ≤ 1048576 := of_decide_eq_true h
  simp only [Rows.uptoBulkAll] at h
  omega
theorem bulk_string {H : Type} {s : ByteArray} (h : Rows.uptoBulk (DataW.lit (H := H) (.string s.data.toList)) ≤ 1048576) : s.size ≤ 1048576 := by
  simp only [Rows.uptoBulk] at h
  rw [size_list] at h
  omega
theorem bulk_len {H : Type} (l : List (DataW H)) : l.length ≤ Rows.uptoBulkAll l := by
  induction l with
  | nil => exact Nat.zero_le _
  | cons x r ih =>
    have h1 : 1 ≤ Rows.uptoBulk x := by
      cases x with
      | lit l => cases l <;> simp [Rows.uptoBulk]
      | nil => simp [Rows.uptoBulk]
      | ptr d => simp [Rows.uptoBulk]
      | slice elems spare => simp [Rows.uptoBulk]
      | agg parts => simp [Rows.uptoBulk]
      | iface t d => simp [Rows.uptoBulk]
      | map entries => simp [Rows.uptoBulk]
      | held h => simp [Rows.uptoBulk]
    simp only [Rows.uptoBulkAll, List.length_cons]
    omega
theorem bulk_slice {H : Type} {a b : List (DataW H)} (h : Rows.uptoBulk (DataW.slice a b) ≤ 1048576) : a.length ≤ 1048576 := by
  have := bulk_len a
  simp only [Rows.uptoBulk] at h
  omega
/-- the form's own reach: a slice of 4-byte numbers -/
theorem reach_slice {H : Type} {P : Program} {t e : TypeId} {a b : List (DataW H)} {ts : List TypeId} {ds : List (DataW H)} (ht : P.underlying t = some (.slice e)) (hb : P.bytesOf e = 4)
    (h : (DataW.weightsEach P (t :: ts) (DataW.slice a b :: ds)).all (· ≤ reachBytes) = true) : a.length ≤ 35184372087808 := by
  simp only [DataW.weightsEach, DataW.weights, ht, List.cons_append, List.all_cons, Bool.and_eq_true, decide_eq_true_eq, hb, reachBytes] at h
  have := of_decide_eq_true h.1
  omega

end Go.Proofs.YthkapcnhfdpdbaaDoor
