/- Lists of steps that come in, opened, by the form's own reach. (Made by tools/mkreadsr.py out of XStepsO.) -/
import Derived.Test.YtfegbfhkmdmheaaDoorReadsPr
import Derived.Test.YtfegbfhkmdmheaaDoorPieces
import Derived.Test.YtfegbfhkmdmheaaDoorOpen
import Derived.Deep.SlicePairs
set_option linter.unusedSimpArgs false
set_option linter.unusedVariables false
namespace Go.Proofs.YtfegbfhkmdmheaaDoor
open Go.ChangeShapes Go.WideShapes Go.ChangeAt Go.RowKit Go.Lib Go.Deep

theorem weights_mem {H : Type} {P : Program} {e : TypeId} {d : DataW H} : ∀ {l : List (DataW H)}, d ∈ l → ∀ x ∈ d.weights P e, x ∈ DataW.weightsAll P e l
  | y :: r, h, x, hx => by
    rw [DataW.weightsAll]
    rcases List.mem_cons.1 h with rfl | h
    · exact List.mem_append.2 (.inl hx)
    · exact List.mem_append.2 (.inr (weights_mem h x hx))

section
variable {H : Type} {enc : TypeId × Value → H} {P : Program} {W : World} {base : Nat}
theorem open_piece {t e : TypeId} {fuel : Nat} {v : Value} {d : DataW H} {p : List MemPlace} (ht : P.underlying t = some (.slice e)) (he : P.underlying e = some (.int .u8)) (hc : P.cellsOf e = 1) (hby : P.bytesOf e = 1)
    (h : DataW.trod enc P W 0 (fun _ => true) true fuel t [v] = some (d, p)) (hk : ∀ x ∈ d.weights P t, x ≤ 140737488351232) :
    ∃ (A : Option Addr) (n c : Nat) (bs : List UInt8), v = .slice A n c ∧ Rd W W.heap.size 1 A n (byteCells' bs) ∧ (A = none → n = 0 ∧ c = 0) ∧ n ≤ 140737488355328 := by
  rcases open_ints ht he hc h with ⟨hcs, _⟩ | ⟨a, len, cap, zs, hcs, _, hl, hm, hz, hx, hcell, hwz⟩
  · simp only [List.cons.injEq, and_true] at hcs
    exact ⟨none, 0, 0, [], hcs, Rd.nil _ _ _ _, fun _ => ⟨rfl, rfl⟩, by omega⟩
  · simp only [List.cons.injEq, and_true] at hcs
    simp only [Prod.mk.injEq] at hx
    simp only [if_true] at hz
    rw [hx.1] at hk
    have h1 : len ≤ 140737488351232 := by
      simp only [DataW.weights, ht, hby, List.mem_cons] at hk
      have := hk _ (.inl rfl)
      rw [lits_len] at this
      simp at this
      omega
    have htl : (zs.take len).length = len := by simp; omega
    obtain ⟨bs, hbs⟩ := bytes_of (zs.take len) (fun z hz => hwz z (List.mem_of_mem_take hz))
    refine ⟨some a, len, cap, bs, hcs, ?_, by simp, by omega⟩
    rw [← hbs]
    refine ⟨by simp; omega, ?_⟩
    rcases Nat.eq_zero_or_pos len with h0 | h0
    · exact .inl h0
    · refine .inr ⟨a, rfl, ?_, fun j u hu => ?_⟩
      · have := World.block_lt_of_cell? W _ (hcell 0 (by omega))
        rwa [add_block] at this
      · have hj : j < (zs.take len).length := by
          have := (List.getElem?_eq_some_iff.1 hu).1
          simpa using this
        have h1 := hcell j (by omega)
        rw [h1, ← hu]
        rw [htl] at hj
        simp [List.getElem?_take, hj, List.getD, List.getElem?_eq_getElem (show j < zs.length by omega)]

instance : Inhabited Stp := ⟨⟨0, none, 0, 0, []⟩⟩
theorem open_steps {t e b : TypeId} {f0 f1 : Field} {v : Value} {d : DataW H} {p : List MemPlace} (ht : P.underlying t = some (.slice e)) (he : P.underlying e = some (.struct #[f0, f1])) (ce : P.cellsOf e = 2) (o0 : f0.offset = 0) (o1 : f1.offset = 1)
    (c0 : P.cellsOf f0.type = 1) (c1 : P.cellsOf f1.type = 1) (h0 : P.underlying f0.type = some (.int .i64)) (h1 : P.underlying f1.type = some (.slice b)) (hb : P.underlying b = some (.int .u8)) (cb : P.cellsOf b = 1) (bb : P.bytesOf b = 1) (be : 1 ≤ P.bytesOf e)
    (hval : Value.okWide P W .any base t v) (h : DataW.Trod enc P W 0 (fun _ => true) true t v d p) (hk : ∀ x ∈ d.weights P t, x ≤ 140737488351232) :
    ∃ (A : Option Addr) (n c : Nat) (l : List Stp), v = .slice A n c ∧ Steps W W.heap.size A n l ∧ n ≤ 140737488355328 := by
  obtain ⟨a1, len, cap, rfl⟩ := okWide_slice ht hval
  obtain ⟨fuel, hf⟩ := h
  rcases open_slice_pairs ht he ce o0 o1 c0 c1 hf with ⟨hcs, _⟩ | ⟨a, len', cap', m, n, V0, V1, D0, D1, P0, P1, hcs, _, hl, hm, hmm, hx, hi⟩
  · simp [Value.cells] at hcs
    obtain ⟨rfl, rfl, rfl⟩ := hcs
    exact ⟨none, 0, 0, [], rfl, ⟨Rd.nil _ _ _ _, rfl, fun s hs => absurd hs (by simp)⟩, by omega⟩
  · simp [Value.cells] at hcs
    obtain ⟨rfl, rfl, rfl⟩ := hcs
    simp only [Prod.mk.injEq] at hx
    simp only [if_true] at hmm
    obtain ⟨rfl, _⟩ := hx
    simp only [DataW.weights, ht, List.mem_cons, List.mem_append] at hk
    have hn : len ≤ 140737488355328 := by
      have h := hk _ (.inl rfl)
      simp only [List.length_map, List.length_range] at h
      have h2 := Nat.le_mul_of_pos_right (len + (m - len)) (show 0 < P.bytesOf e by omega)
      omega
    have each : ∀ i, i < len → ∃ s : Stp, V0 i = .int .i64 s.z ∧ V1 i = .slice s.A s.n s.c ∧ Rd W W.heap.size 1 s.A s.n (byteCells' s.bs) ∧ (s.A = none → s.n = 0 ∧ s.c = 0) ∧ s.n ≤ 140737488355328 := by
      intro i hlt
      obtain ⟨_, _, t0, t1⟩ := hi i (by omega)
      obtain ⟨z, e0, _, _⟩ := DataW.trod_int h0 t0
      have hb1 : ∀ x ∈ (D1 i).weights P f1.type, x ≤ 140737488351232 := fun x hx => by
        refine hk x (.inr (.inl (weights_mem (d := DataW.agg [D0 i, D1 i]) (List.mem_map.2 ⟨i, List.mem_range.2 hlt, rfl⟩) x ?_)))
        simp only [DataW.weights, he, DataW.weightsEach, List.map_cons, List.map_nil, List.mem_append]
        exact .inr (.inl hx)
      obtain ⟨A, n, c, bs, e1, g⟩ := open_piece h1 hb cb bb t1 hb1
      exact ⟨⟨z, A, n, c, bs⟩, by simpa using e0, e1, g⟩
    obtain ⟨q, hq⟩ := choose_lt each
    have hlen : ((List.range len).map q).length = len := by simp
    refine ⟨some a, len, cap, (List.range len).map q, rfl, ⟨⟨by rw [stepCells_len, hlen], ?_⟩, hlen, fun s hs => ?_⟩, hn⟩
    · rcases Nat.eq_zero_or_pos len with h0' | h0'
      · exact .inl h0'
      · refine .inr ⟨a, rfl, ?_, fun j u hu => ?_⟩
        · have := World.block_lt_of_cell? W _ (hi 0 (by omega)).1
          rwa [add_block] at this
        · have hj : j < len * 2 := by
            have := (List.getElem?_eq_some_iff.1 hu).1
            rw [stepCells_len, hlen] at this
            exact this
          have hj2 : j / 2 < ((List.range len).map q).length := by rw [hlen]; omega
          obtain ⟨k1, k2⟩ := stepCells_at ((List.range len).map q) (j / 2) hj2
          have hqi := hq (j / 2) (by omega)
          have hci := hi (j / 2) (by omega)
          simp only [List.getElem_map, List.getElem_range] at k1 k2
          rcases Nat.mod_two_eq_zero_or_one j with hm2 | hm2
          · rw [show 2 * (j / 2) = j by omega] at k1
            rw [k1] at hu
            rw [show j = j / 2 * 2 by omega, hci.1, hqi.1]
            exact hu
          · rw [show 2 * (j / 2) + 1 = j by omega] at k2
            rw [k2] at hu
            rw [show j = j / 2 * 2 + 1 by omega, hci.2.1, hqi.2.1]
            exact hu
    · obtain ⟨i, hi', rfl⟩ := List.mem_map.1 hs
      exact (hq i (List.mem_range.1 hi')).2.2
end
end Go.Proofs.YtfegbfhkmdmheaaDoor
