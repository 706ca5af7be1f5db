/- A function that lays a table of stretches as a literal array and has it sought: its code as a function of the table, walked by induction, whatever the table's length. -/
import Derived.Great.Walk
import Derived.Below
import Derived.Laws.Slices
import Derived.Test.YthkapcnhfdpdbaaDoorSw
set_option linter.unusedSimpArgs false
set_option linter.unusedVariables false
namespace Go.Proofs.YthkapcnhfdpdbaaDoor
open Go.Great Go.RowKit

section
variable {P : Program}

/-- a stretch's two cells; a table's -/
def stCells (e : Nat × Nat) : List Value := [.int .i32 (e.1 : Int), .int .u8 (e.2 : Int)]
def tabCells (L : Tab) : List Value := L.flatMap stCells
def stOp (tE : TypeId) (pos : String) (d : Nat) (e : Nat × Nat) : Oper :=
  { dst := some d, op := .build tE #[(0, .const (.int .i32 (e.1 : Int))), (1, .const (.int .u8 (e.2 : Int)))], type := tE, pos := pos, after := #[], guard := none }
def stOps (tE : TypeId) (pos : String) : Nat → Tab → List Oper
  | _, [] => []
  | d, e :: t => stOp tE pos d e :: stOps tE pos (d + 1) t

structure TabTypes (P : Program) (tE tA tS : TypeId) (n : Nat) : Prop where
  built : ∀ x y : Int, P.built tE [(0, .int .i32 x), (1, .int .u8 y)] = some #[.int .i32 x, .int .u8 y]
  uA : P.underlying tA = some (.array n tE)
  sE : (P.info? tE).map (·.size) = some 2
  iA : (P.info? tA).map (·.size) = some (n * 2)
  zA : ((P.info? tA).bind (·.zero)).map (·.cells.size) = some (n * 2)

theorem wpList_sts {ops : Array Oper} {rest : List Oper} {w : World} {Q : Exit → Act → World → Prop} {tE tA tS : TypeId} {m : Nat} (hP : TabTypes P tE tA tS m) (pos : String) :
    ∀ (L : Tab) (d : Nat) (a : Act), d + L.length ≤ a.tmps.size →
      (∀ a' : Act, a'.tmps.size = a.tmps.size → a'.defers = a.defers → (∀ i (h : i < L.length), a'.eval (.tmp (d + i)) = .agg (stCells L[i]).toArray) → (∀ j, j < d → a'.eval (.tmp j) = a.eval (.tmp j)) → wpList P ops Q rest a' w) →
      wpList P ops Q (stOps tE pos d L ++ rest) a w
  | [], d, a, _, h => h a rfl rfl (fun i hi => absurd hi (by simp)) (fun _ _ => rfl)
  | e :: t, d, a, hd, h => by
    have hlt : d < a.tmps.size := by simp at hd; omega
    show wpList P ops Q (stOp tE pos d e :: (stOps tE pos (d + 1) t ++ rest)) a w
    refine wpList_buildTo rfl tE _ rfl (some d) rfl (stCells e).toArray (by simpa [Act.eval, stCells] using hP.built e.1 e.2) ?_
    refine wpList_sts hP pos t (d + 1) _ (by rw [Act.size_put]; simp at hd; omega) fun a' hs hdf hev hlow => ?_
    refine h a' (hs.trans (Act.size_put _ _ _)) (hdf.trans (Act.defers_put' _ _ _)) (fun i hi => ?_) (fun j hj => ?_)
    · cases i with
      | zero => rw [Nat.add_zero, hlow d (by omega), Act.eval_put_same _ _ _ hlt]; rfl
      | succ i =>
        have := hev i (by simpa using hi)
        rw [show d + (i + 1) = d + 1 + i by omega, this]
        rfl
    · rw [hlow j (by omega), Act.eval_put_ne _ _ _ _ (by omega)]

/-- the array over them -/
theorem built_tab {tE tA tS : TypeId} (L : Tab) (hP : TabTypes P tE tA tS L.length) (a : Act) (d : Nat) (parts : Array (Nat × Operand)) (hparts : parts.toList = (List.range L.length).map fun i => (i, Operand.tmp (d + i)))
    (hev : ∀ i (h : i < L.length), a.eval (.tmp (d + i)) = .agg (stCells L[i]).toArray) :
    P.built tA (parts.map fun (i, x) => (i, a.eval x)).toList = some (tabCells L).toArray := by
  have e1 : (parts.map fun (i, x) => (i, a.eval x)).toList = ((L.map fun x => Value.agg (stCells x).toArray).zipIdx 0).map fun x => (x.2, x.1) := by
    rw [Array.toList_map, hparts, List.map_map]
    apply List.ext_getElem
    · simp
    · intro i h1 h2
      have hi : i < L.length := by simpa using h1
      simp only [List.getElem_map, List.getElem_range, Function.comp, List.getElem_zipIdx, Nat.zero_add]
      rw [hev i hi]
  rw [e1]
  cases hie : P.info? tE with
  | none => have := hP.sE; simp [hie] at this
  | some ie =>
    cases hit : P.info? tA with
    | none => have := hP.zA; simp [hit] at this
    | some it =>
      cases hzz : it.zero with
      | none => have := hP.zA; simp [hit, hzz] at this
      | some z =>
        have hsz := hP.sE
        have hz := hP.zA
        simp only [hie, hit, hzz, Option.map_some, Option.some.injEq, Option.bind_some] at hsz hz
        unfold Program.built
        simp only [hit, hP.uA, hzz, hie]
        rw [hsz, fill_whole (s := 2) (by omega) (L.map fun x => Value.agg (stCells x).toArray) z.cells (fun v hv => by obtain ⟨x, _, rfl⟩ := List.mem_map.1 hv; rfl) (by simp [hz])]
        simp [tabCells, List.flatMap_map, Value.cells]

/-- a call by its contract, whatever world it leaves -/
theorem wpList_callBy {ops : Array Oper} {rest : List Oper} {o : Oper} {a : Act} {w : World} {Q : Exit → Act → World → Prop} (hg : o.guard = none) (d : Option Tmp) (hd : o.dst = d)
    (f : FuncId) (args : Array Value) (hrun : (execOp a.eval o).run P w = .ok (.enter f args) w) (R : Value → World → Prop)
    (hc : Calls P f args w fun e w'' => ∃ v, e = .returned v ∧ R v w'')
    (h : ∀ v w', R v w' → wpList P ops Q rest (a.put d v) w') : wpList P ops Q (o :: rest) a w := by
  subst hd
  refine wpList_plain hg fun K hK => ?_
  unfold Oper.wp
  rw [hrun, Oper.upon_enter]
  refine hc.mono fun e w'' hh => ?_
  obtain ⟨v, rfl, hR⟩ := hh
  exact hK _ _ (h v w'' hR)
theorem run_call {ρ : Operand → Value} {o : Oper} {w : World} {c : Call} {g : FuncId} {args : Array Value} (ho : o.op = .call c) (hc : c.callee = .value (.func g)) (ha : c.args.map ρ = args) (hf : ρ (.func g) = .func (.func g) #[] #[])
    (hen : (callFunc g args).run P w = .ok (.enter g args) w) : (execOp ρ o).run P w = .ok (.enter g args) w := by
  subst ha
  simp [execOp, ho, resolve, hc, hf, Deferred.ofValue, invoke, hen]
theorem run_extract {ρ : Operand → Value} {o : Oper} {w : World} {t : Operand} {i : Nat} {vs : Array Value} {v : Value} (ho : o.op = .extract t i) (ht : ρ t = .tuple vs) (hv : vs[i]? = some v) :
    (execOp ρ o).run P w = .ok (.value v) w := by
  simp [execOp, ho, ht, Instr.extract, hv]
theorem run_slice_all {ρ : Operand → Value} {o : Oper} {w : World} {tA tE : TypeId} {x : Operand} {b n : Nat} (ho : o.op = .slice tA x none none none) (hx : ρ x = .pointer (some ⟨b, 0, none⟩)) (hu : P.underlying tA = some (.array n tE)) (hs : (P.info? tE).map (·.size) = some 2) :
    (execOp ρ o).run P w = .ok (.value (.slice (some ⟨b, 0, none⟩) n n)) w := by
  have hn : P.arrayLen tA = n := by simp [Program.arrayLen, hu]
  have he : P.elem tA = tE := by simp [Program.elem, hu]
  have hz : (sizeOf tE).run P w = .ok 2 w := by
    cases hi : P.info? tE with
    | none => simp [hi] at hs
    | some i => simp [hi] at hs; simp [sizeOf, typeInfo, hi, hs]
  have h0 : (⟨b, 0, none⟩ : Addr).add 0 = ⟨b, 0, none⟩ := rfl
  have := run_sliceAt_array_all (P := P) w tA ⟨b, 0, none⟩ (by rw [hn, he]; exact hu)
  simp only [execOp, ho, hx, Option.map_none, Sem.run_bind, this, he, hz, hn, Result.andThen_ok, slicedAt, Nat.zero_mul, h0, ite_self, Nat.sub_zero]
  rfl
theorem run_alloc {ρ : Operand → Value} {o : Oper} {w : World} {t : TypeId} {i : TypeInfo} {z : Value} (ho : o.op = .alloc t) (hi : P.info? t = some i) (hz : i.zero = some z) :
    (execOp ρ o).run P w = .ok (.value (.pointer (some ⟨w.heap.size, 0, none⟩))) (w.alloc (.cells z.cells t)) := by
  simp [execOp, ho, Instr.alloc, newVar, newRow, zeroValue, typeInfo, hi, hz]

/-- the whole function: 'list := [...]stretch{..}; return seek(list[:], r)' -/
def tableCode (tR tU tT tE tA tS : TypeId) (seek : FuncId) (p0 p1 p2 : String) (L : Tab) : Code :=
  (Code.region 0 #[{ dst := some 2, op := .assign (.const (.int .u8 0)), type := tU, pos := p0, after := #[], guard := none },
      { dst := some 3, op := .assign (.const (.int .i32 0)), type := tR, pos := p0, after := #[⟨0, .chain⟩], guard := none }] false).seq
    ((Code.region 1 (stOps tE p1 5 L ++ ([
        { dst := some (5 + L.length), op := .build tA ((List.range L.length).map fun i => (i, Operand.tmp (5 + i))).toArray, type := tA, pos := p1, after := ((List.range L.length).map fun i => ⟨i, .data⟩).toArray, guard := none },
        { dst := some 4, op := .alloc tA, type := 0, pos := p1, after := #[], guard := none },
        { dst := none, op := .store tA (.tmp 4) (.tmp (5 + L.length)), type := 0, pos := p1, after := (⟨L.length + 1, .data⟩ :: ⟨L.length, .data⟩ :: (List.range (L.length + 2)).map fun i => ⟨i, .phase⟩).toArray, guard := none }] : List Oper)).toArray false).seq
      ((Code.region 2 #[{ dst := some (6 + L.length), op := .slice tA (.tmp 4) none none none, type := tS, pos := p2, after := #[], guard := none },
          { dst := some (7 + L.length), op := .move (.tmp 0), type := tR, pos := p2, after := #[], guard := none },
          { dst := some (8 + L.length), op := .call { callee := .value (.func seek), args := #[.tmp (6 + L.length), .tmp (7 + L.length)], argTypes := #[tS, tR] }, type := tT, pos := p2, after := #[⟨0, .data⟩, ⟨1, .data⟩], guard := none },
          { dst := some (9 + L.length), op := .extract (.tmp (8 + L.length)) 0, type := tU, pos := p2, after := #[⟨2, .data⟩], guard := none },
          { dst := some (10 + L.length), op := .extract (.tmp (8 + L.length)) 1, type := tR, pos := p2, after := #[⟨2, .data⟩], guard := none },
          { dst := some 2, op := .assign (.tmp (9 + L.length)), type := tU, pos := p2, after := #[⟨3, .data⟩, ⟨2, .chain⟩, ⟨0, .phase⟩, ⟨1, .phase⟩, ⟨2, .phase⟩, ⟨3, .phase⟩, ⟨4, .phase⟩], guard := none },
          { dst := some 3, op := .assign (.tmp (10 + L.length)), type := tR, pos := p2, after := #[⟨4, .data⟩, ⟨5, .chain⟩, ⟨0, .phase⟩, ⟨1, .phase⟩, ⟨2, .phase⟩, ⟨3, .phase⟩, ⟨4, .phase⟩, ⟨5, .phase⟩], guard := none }] false).seq .ret))

/-- THE CONTRACT: what 'seek' says of the table's cells -/
theorem table_calls {tR tU tT tE tA tS : TypeId} {seek f : FuncId} {fn : Func} {p0 p1 p2 : String} {L : Tab} (hf : P.funcs[f]? = some fn)
    (hb : fn.body = some (tableCode tR tU tT tE tA tS seek p0 p1 p2 L)) (hres : fn.results = #[.tmp 2, .tmp 3]) (hn : fn.ntmps = 11 + L.length) (hP : TabTypes P tE tA tS L.length)
    (x : Int) (w : World) (c t : Int) (hen : ∀ args w, (callFunc seek args).run P w = .ok (.enter seek args) w)
    (hk : ∀ W b, Below w.heap.size w W → b < W.heap.size → w.heap.size ≤ b → (∀ i v, (tabCells L)[i]? = some v → W.cell? ⟨b, i, none⟩ = some v) →
      Calls P seek #[.slice (some ⟨b, 0, none⟩) L.length L.length, .int .i32 x] W fun e w' => e = .returned (.tuple #[.int .u8 c, .int .i32 t]) ∧ Below W.heap.size W w') :
    Calls P f #[.int .i32 x] w fun e w' => e = .returned (.tuple #[.int .u8 c, .int .i32 t]) ∧ Below w.heap.size w w' := by
  refine calls_of_wp hf hb ?_
  have he0 : ({ tmps := #[Value.int .i32 x] ++ Array.replicate (fn.ntmps - (#[Value.int .i32 x] : Array Value).size) undef, defers := [] } : Act).eval (.tmp 0) = .int .i32 x := by simp [Act.eval, Array.getD]
  obtain ⟨a, ha⟩ : ∃ a : Act, a = { tmps := #[Value.int .i32 x] ++ Array.replicate (fn.ntmps - (#[Value.int .i32 x] : Array Value).size) undef, defers := [] } := ⟨_, rfl⟩
  have hsa : a.tmps.size = 11 + L.length := by rw [ha]; simp; omega
  have hda : a.defers = [] := by rw [ha]
  rw [← ha] at he0 ⊢
  clear ha
  obtain ⟨z, hzz⟩ : ∃ z, (P.info? tA).bind (·.zero) = some z := by
    have := hP.zA
    cases hz : (P.info? tA).bind (·.zero) with
    | none => simp [hz] at this
    | some z => exact ⟨z, rfl⟩
  have hzs : z.cells.size = L.length * 2 := by have := hP.zA; rw [hzz] at this; simpa using this
  obtain ⟨it, hit, hitz⟩ : ∃ it, P.info? tA = some it ∧ it.zero = some z := by
    cases hi : P.info? tA with
    | none => simp [hi] at hzz
    | some it => exact ⟨it, rfl, by simpa [hi] using hzz⟩
  unfold tableCode
  refine wp_seq (wp_region_list ?_)
  refine wpList_readTo rfl (some 2) rfl _ (run_assign rfl rfl) ?_
  refine wpList_readTo rfl (some 3) rfl _ (run_assign rfl rfl) ?_
  refine wp_seq (wp_region_lit ?_)
  refine wpList_sts hP p1 L 5 _ (by simp only [Act.size_put, hsa]; omega) fun a1 hs1 hd1 hev1 hlow1 => ?_
  simp only [Act.size_put, hsa] at hs1
  simp only [Act.defers_put', hda] at hd1
  have h10 : a1.eval (.tmp 0) = .int .i32 x := by rw [hlow1 0 (by omega), Act.eval_put_ne _ _ _ _ (by omega), Act.eval_put_ne _ _ _ _ (by omega)]; exact he0
  refine wpList_buildTo rfl tA _ rfl (some (5 + L.length)) rfl (tabCells L).toArray (built_tab L hP a1 5 _ (by simp) hev1) ?_
  refine wpList_runTo rfl (some 4) rfl (.pointer (some ⟨w.heap.size, 0, none⟩)) (w.alloc (.cells z.cells tA)) (run_alloc rfl hit hitz) ?_
  have hcs : (tabCells L).length = L.length * 2 := by
    clear hk hb hev1 hP hn hzs hsa hs1
    induction L with
    | nil => rfl
    | cons e t ih => simp only [tabCells, List.flatMap_cons, List.length_append, List.length_cons] at ih ⊢; rw [ih]; simp [stCells]; omega
  have hg : (w.alloc (.cells z.cells tA)).heap[w.heap.size]? = some (.cells z.cells tA (0, 0)) := (MapKept.heap_alloc w _).1
  refine wpList_store_rowTo rfl tA _ _ rfl rfl w.heap.size (tabCells L).toArray (Act.eval_put_same _ _ _ (by simp only [Act.size_put, hs1]; omega)) (by rw [Act.eval_put_ne _ _ _ _ (by omega)]; exact Act.eval_put_same _ _ _ (by rw [hs1]; omega))
    tA z.cells hg (by rw [hP.iA]; simp [hcs]) (by rw [hzs]; simp [hcs]) ?_ ?_
  · rw [Array.all_eq_true_iff_forall_mem]
    intro v hv
    simp only [List.mem_toArray, tabCells, List.mem_flatMap, stCells, List.mem_cons, List.not_mem_nil, or_false] at hv
    obtain ⟨e, _, rfl | rfl⟩ := hv <;> rfl
  obtain ⟨a2, ha2⟩ : ∃ a2, a2 = (a1.put (some (5 + L.length)) (.agg (tabCells L).toArray)).put (some 4) (.pointer (some ⟨w.heap.size, 0, none⟩)) := ⟨_, rfl⟩
  have hs2 : a2.tmps.size = 11 + L.length := by rw [ha2]; simp only [Act.size_put, hs1]
  have hd2 : a2.defers = [] := by rw [ha2]; simp only [Act.defers_put', hd1]
  have h20 : a2.eval (.tmp 0) = .int .i32 x := by rw [ha2, Act.eval_put_ne _ _ _ _ (by omega), Act.eval_put_ne _ _ _ _ (by omega)]; exact h10
  have h24 : a2.eval (.tmp 4) = .pointer (some ⟨w.heap.size, 0, none⟩) := by rw [ha2]; exact Act.eval_put_same _ _ _ (by simp only [Act.size_put, hs1]; omega)
  rw [← ha2]
  clear ha2
  have hW1 : Below w.heap.size w ((w.alloc (.cells z.cells tA)).setRow w.heap.size (tabCells L).toArray) :=
    ⟨rfl, rfl, rfl, by simp, fun k hk => (setRow_other _ _ _ _ (by omega)).trans (((Below.refl w.heap.size w).alloc (Nat.le_refl _) _).block k hk)⟩
  have hWs : w.heap.size < ((w.alloc (.cells z.cells tA)).setRow w.heap.size (tabCells L).toArray).heap.size := by simp
  have hWc : ∀ i v, (tabCells L)[i]? = some v → ((w.alloc (.cells z.cells tA)).setRow w.heap.size (tabCells L).toArray).cell? ⟨w.heap.size, i, none⟩ = some v := fun i v hv => by
    rw [cell_setRow_same _ _ _ _ _ _ _ hg]
    simpa using hv
  revert hW1 hWs hWc
  generalize (w.alloc (.cells z.cells tA)).setRow w.heap.size (tabCells L).toArray = W1
  intro hW1 hWs hWc
  refine wp_seq (wp_region_list ?_)
  refine wpList_readTo rfl (some (6 + L.length)) rfl _ (run_slice_all rfl h24 hP.uA hP.sE) ?_
  refine wpList_readTo rfl (some (7 + L.length)) rfl (.int .i32 x) (run_move rfl (by rw [Act.eval_put_ne _ _ _ _ (by omega)]; exact h20)) ?_
  refine wpList_callBy rfl (some (8 + L.length)) rfl seek #[.slice (some ⟨w.heap.size, 0, none⟩) L.length L.length, .int .i32 x] (run_call rfl rfl ?_ rfl (hen _ _)) (fun v w' => v = .tuple #[.int .u8 c, .int .i32 t] ∧ Below W1.heap.size W1 w')
    ((hk W1 w.heap.size hW1 hWs (Nat.le_refl _) hWc).mono fun e w' hh => ⟨_, hh.1, rfl, hh.2⟩) ?_
  · simp only [List.map_toArray, List.map_cons, List.map_nil]
    rw [Act.eval_put_ne _ _ _ _ (by omega), Act.eval_put_same _ _ _ (by rw [hs2]; omega), Act.eval_put_same _ _ _ (by simp only [Act.size_put, hs2]; omega)]
  rintro _ w' ⟨rfl, hB⟩
  refine wpList_readTo rfl (some (9 + L.length)) rfl (.int .u8 c) (run_extract rfl (Act.eval_put_same _ _ _ (by simp only [Act.size_put, hs2]; omega)) rfl) ?_
  refine wpList_readTo rfl (some (10 + L.length)) rfl (.int .i32 t) (run_extract rfl (by rw [Act.eval_put_ne _ _ _ _ (by omega)]; exact Act.eval_put_same _ _ _ (by simp only [Act.size_put, hs2]; omega)) rfl) ?_
  refine wpList_readTo rfl (some 2) rfl (.int .u8 c) (run_assign rfl (by rw [Act.eval_put_ne _ _ _ _ (by omega)]; exact Act.eval_put_same _ _ _ (by simp only [Act.size_put, hs2]; omega))) ?_
  refine wpList_readTo rfl (some 3) rfl (.int .i32 t) (run_assign rfl (by rw [Act.eval_put_ne _ _ _ _ (by omega)]; exact Act.eval_put_same _ _ _ (by simp only [Act.size_put, hs2]; omega))) ?_
  refine wp_ret (bodyPost_ret (results_tmp2 hres _ _ _) (by simp only [Act.defers_put', hd2]) ⟨?_, ?_⟩)
  · have e2 : (((((((a2.put (some (6 + L.length)) (.slice (some ⟨w.heap.size, 0, none⟩) L.length L.length)).put (some (7 + L.length)) (.int .i32 x)).put (some (8 + L.length)) (.tuple #[.int .u8 c, .int .i32 t])).put (some (9 + L.length)) (.int .u8 c)).put (some (10 + L.length)) (.int .i32 t)).put (some 2) (.int .u8 c)).put (some 3) (.int .i32 t)).eval (.tmp 2) = .int .u8 c := by
      rw [Act.eval_put_ne _ _ _ _ (by omega)]
      exact Act.eval_put_same _ _ _ (by simp only [Act.size_put, hs2]; omega)
    have e3 : (((((((a2.put (some (6 + L.length)) (.slice (some ⟨w.heap.size, 0, none⟩) L.length L.length)).put (some (7 + L.length)) (.int .i32 x)).put (some (8 + L.length)) (.tuple #[.int .u8 c, .int .i32 t])).put (some (9 + L.length)) (.int .u8 c)).put (some (10 + L.length)) (.int .i32 t)).put (some 2) (.int .u8 c)).put (some 3) (.int .i32 t)).eval (.tmp 3) = .int .i32 t :=
      Act.eval_put_same _ _ _ (by simp only [Act.size_put, hs2]; omega)
    simp only [Act.eval] at e2 e3
    rw [e2, e3]
  · exact hW1.trans ⟨hB.os, hB.tape, hB.output, hB.size, fun k hk => hB.block k (by omega)⟩
end
end Go.Proofs.YthkapcnhfdpdbaaDoor
