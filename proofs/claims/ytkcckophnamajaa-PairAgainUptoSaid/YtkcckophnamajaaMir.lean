/- Mirrors and brackets: the couple in which a number is. -/
import Derived.Test.YtkcckophnamajaaClass
set_option linter.unusedSimpArgs false
set_option linter.unusedVariables false
namespace Go.Proofs.Ytkcckophnamajaa
open Go.RowKit Go.Lib Go.Shelf Go.Sort

def coCells (e : Nat × Nat × Bool) : List Value := [.int .i32 (e.1 : Int), .int .i32 (e.2.1 : Int), .bool e.2.2]
theorem coCells_at : ∀ (L : List (Nat × Nat × Bool)) (i : Nat) (h : i < L.length), (L.flatMap coCells)[i * 3]? = some (.int .i32 (L[i].1 : Int)) ∧ (L.flatMap coCells)[i * 3 + 1]? = some (.int .i32 (L[i].2.1 : Int)) ∧ (L.flatMap coCells)[i * 3 + 2]? = some (.bool L[i].2.2)
  | [], i, h => by simp at h
  | a :: t, 0, _ => ⟨rfl, rfl, rfl⟩
  | a :: t, i + 1, h => by
    have := coCells_at t i (by simpa using h)
    rw [show (i + 1) * 3 = i * 3 + 3 by omega]
    exact this

set_option maxHeartbeats 1000000 in
theorem couple_asks (ba bx : Nat) (x y : Int) (i : Nat) (W : World) (hi : i < 20)
    (hx : W.cell? ⟨bx, 0, none⟩ = some (.int .i32 x)) (hc : W.cell? ⟨ba, i * 3, none⟩ = some (.int .i32 y)) :
    Calls Try.prog 52 (#[.int .i64 i] ++ #[.pointer (some ⟨ba, 0, none⟩), .pointer (some ⟨bx, 0, none⟩)]) W fun e w' => e = .returned (.bool (decide (x < y))) ∧ ∃ q, w' = W.drewN q := by
  have hiz : (i : Int) < 20 := by omega
  go_enter Try.func52, Try.ntmps52
  go_wp2
  go_region
  all_goals go_wp2
  all_goals go_ret
  all_goals exact ⟨by first | rfl | simp, 1, rfl⟩

/-- how many couples begin at or ahead of x -/
def cntM (x : Int) : Nat := mirrorsL.countP fun e => decide ((e.1 : Int) ≤ x)
/-- the couple that is looked at -/
def coupleOf (x : Int) : Nat × Nat × Bool := if cntM x = 0 then (0, 0, false) else mirrorsL.getD (cntM x - 1) (0, 0, false)

section
variable {P : Program}
def coOp (tE : TypeId) (pos : String) (d : Nat) (e : Nat × Nat × Bool) : Oper :=
  { dst := some d, op := .build tE #[(0, .const (.int .i32 (e.1 : Int))), (1, .const (.int .i32 (e.2.1 : Int))), (2, .const (.bool e.2.2))], type := tE, pos := pos, after := #[], guard := none }
def coOps (tE : TypeId) (pos : String) : Nat → List (Nat × Nat × Bool) → List Oper
  | _, [] => []
  | d, e :: t => coOp tE pos d e :: coOps tE pos (d + 1) t
structure CoTypes (P : Program) (tE tA : TypeId) (n : Nat) : Prop where
  built : ∀ (x y : Int) (b : Bool), P.built tE [(0, .int .i32 x), (1, .int .i32 y), (2, .bool b)] = some #[.int .i32 x, .int .i32 y, .bool b]
  uA : P.underlying tA = some (.array n tE)
  sE : (P.info? tE).map (·.size) = some 3
  iA : (P.info? tA).map (·.size) = some (n * 3)
  zA : ((P.info? tA).bind (·.zero)).map (·.cells.size) = some (n * 3)
theorem wpList_cos {ops : Array Oper} {rest : List Oper} {w : World} {Q : Exit → Act → World → Prop} {tE tA : TypeId} {m : Nat} (hP : CoTypes P tE tA m) (pos : String) :
    ∀ (L : List (Nat × Nat × Bool)) (d : Nat) (a : Act), d + L.length ≤ a.tmps.size →
      (∀ a' : Act, a'.tmps.size = a.tmps.size → a'.defers = a.defers → (∀ i (h : i < L.length), a'.eval (.tmp (d + i)) = .agg (coCells L[i]).toArray) → (∀ j, j < d → a'.eval (.tmp j) = a.eval (.tmp j)) → wpList P ops Q rest a' w) →
      wpList P ops Q (coOps tE pos d L ++ rest) a w
  | [], d, a, _, h => h a rfl rfl (fun i hi => absurd hi (by simp)) (fun _ _ => rfl)
  | e :: t, d, a, hd, h => by
    have hlt : d < a.tmps.size := by simp at hd; omega
    show wpList P ops Q (coOp tE pos d e :: (coOps tE pos (d + 1) t ++ rest)) a w
    refine wpList_buildTo rfl tE _ rfl (some d) rfl (coCells e).toArray (by simpa [Act.eval, coCells] using hP.built e.1 e.2.1 e.2.2) ?_
    refine wpList_cos hP pos t (d + 1) _ (by rw [Act.size_put]; simp at hd; omega) fun a' hs hdf hev hlow => ?_
    refine h a' (hs.trans (Act.size_put _ _ _)) (hdf.trans (Act.defers_put' _ _ _)) (fun i hi => ?_) (fun j hj => ?_)
    · cases i with
      | zero => rw [Nat.add_zero, hlow d (by omega), Act.eval_put_same _ _ _ hlt]; rfl
      | succ i =>
        have := hev i (by simpa using hi)
        rw [show d + (i + 1) = d + 1 + i by omega, this]
        rfl
    · rw [hlow j (by omega), Act.eval_put_ne _ _ _ _ (by omega)]
theorem built_co {tE tA : TypeId} (L : List (Nat × Nat × Bool)) (hP : CoTypes P tE tA L.length) (a : Act) (d : Nat) (parts : Array (Nat × Operand)) (hparts : parts.toList = (List.range L.length).map fun i => (i, Operand.tmp (d + i)))
    (hev : ∀ i (h : i < L.length), a.eval (.tmp (d + i)) = .agg (coCells L[i]).toArray) :
    P.built tA (parts.map fun (i, x) => (i, a.eval x)).toList = some (L.flatMap coCells).toArray := by
  have e1 : (parts.map fun (i, x) => (i, a.eval x)).toList = ((L.map fun x => Value.agg (coCells x).toArray).zipIdx 0).map fun x => (x.2, x.1) := by
    rw [Array.toList_map, hparts, List.map_map]
    apply List.ext_getElem
    · simp
    · intro i h1 h2
      have hi : i < L.length := by simpa using h1
      simp only [List.getElem_map, List.getElem_range, Function.comp, List.getElem_zipIdx, Nat.zero_add]
      rw [hev i hi]
  rw [e1]
  cases hie : P.info? tE with
  | none => have := hP.sE; simp [hie] at this
  | some ie =>
    cases hit : P.info? tA with
    | none => have := hP.zA; simp [hit] at this
    | some it =>
      cases hzz : it.zero with
      | none => have := hP.zA; simp [hit, hzz] at this
      | some z =>
        have hsz := hP.sE
        have hz := hP.zA
        simp only [hie, hit, hzz, Option.map_some, Option.some.injEq, Option.bind_some] at hsz hz
        unfold Program.built
        simp only [hit, hP.uA, hzz, hie]
        rw [hsz, Great.fill_whole (s := 3) (by omega) (L.map fun x => Value.agg (coCells x).toArray) z.cells (fun v hv => by obtain ⟨x, _, rfl⟩ := List.mem_map.1 hv; rfl) (by simp [hz])]
        simp [List.flatMap_map, Value.cells]
end
theorem coTypes : CoTypes Try.prog 67 82 mirrorsL.length := ⟨fun _ _ _ => by kernel_rfl, by kernel_rfl, by kernel_rfl, by kernel_rfl, by kernel_rfl⟩

/-- a frame of 35 with the first four known -/
theorem frame35 (a : Act) (hs : a.tmps.size = 35) (hd : a.defers = []) : ∃ u4 u5 u6 u7 u8 u9 u10 u11 u12 u13 u14 u15 u16 u17 u18 u19 u20 u21 u22 u23 u24 u25 u26 u27 u28 u29 u30 u31 u32 u33 u34 : Value,
    a = { tmps := #[a.eval (.tmp 0), a.eval (.tmp 1), a.eval (.tmp 2), a.eval (.tmp 3), u4, u5, u6, u7, u8, u9, u10, u11, u12, u13, u14, u15, u16, u17, u18, u19, u20, u21, u22, u23, u24, u25, u26, u27, u28, u29, u30, u31, u32, u33, u34], defers := [] } := by
  obtain ⟨⟨l⟩, d⟩ := a
  simp only at hd
  subst hd
  match l, hs with
  | u0 :: u1 :: u2 :: u3 :: u4 :: u5 :: u6 :: u7 :: u8 :: u9 :: u10 :: u11 :: u12 :: u13 :: u14 :: u15 :: u16 :: u17 :: u18 :: u19 :: u20 :: u21 :: u22 :: u23 :: u24 :: u25 :: u26 :: u27 :: u28 :: u29 :: u30 :: u31 :: u32 :: u33 :: u34 :: [], _ => exact ⟨u4, u5, u6, u7, u8, u9, u10, u11, u12, u13, u14, u15, u16, u17, u18, u19, u20, u21, u22, u23, u24, u25, u26, u27, u28, u29, u30, u31, u32, u33, u34, rfl⟩

def mirLit : Code := Code.region 1 (coOps 67 "tables.go:268" 5 mirrorsL ++ ([
    { dst := some 25, op := .build 82 ((List.range 20).map fun i => (i, Operand.tmp (5 + i))).toArray, type := 82, pos := "tables.go:268", after := ((List.range 20).map fun i => ⟨i, .data⟩).toArray, guard := none },
    { dst := some 3, op := .alloc 82, type := 0, pos := "tables.go:268", after := #[], guard := none },
    { dst := none, op := .store 82 (.tmp 3) (.tmp 25), type := 0, pos := "tables.go:268", after := (⟨21, .data⟩ :: ⟨20, .data⟩ :: (List.range 22).map fun i => ⟨i, .phase⟩).toArray, guard := none }] : List Oper)).toArray false
def mirHead : Code := Code.region 0 #[{ dst := some 1, op := .box 21 (.tmp 0), type := 0, pos := "tables.go:267", after := #[], guard := none }, { dst := some 2, op := .alloc 67, type := 0, pos := "tables.go:267", after := #[], guard := none }] false
def mirRest : Code :=
  (Code.region 2 #[{ dst := some 26, op := .makeFunc (.func 52) #[] #[.tmp 3, .tmp 1], type := 72, pos := "tables.go:275", after := #[], guard := none },
      { dst := some 27, op := .call { callee := .value (.func 51), args := #[.const (.int .i64 20), .tmp 26], argTypes := #[3, 72] }, type := 3, pos := "tables.go:275", after := #[⟨0, .data⟩], guard := none },
      { dst := some 4, op := .assign (.tmp 27), type := 3, pos := "tables.go:275", after := #[⟨1, .data⟩, ⟨1, .chain⟩, ⟨0, .phase⟩, ⟨1, .phase⟩], guard := none }] false).seq
    (((Code.region 3 #[{ dst := some 28, op := .move (.tmp 4), type := 3, pos := "tables.go:276", after := #[], guard := none },
          { dst := some 29, op := .binOp .eql 3 (.tmp 28) (.const (.int .i64 0)) 3, type := 4, pos := "tables.go:276", after := #[⟨0, .data⟩], guard := none }] false).seq
        (Code.cond (.tmp 29) ((Code.region 4 #[{ dst := some 30, op := .build 67 #[], type := 67, pos := "tables.go:277", after := #[], guard := none },
            { dst := none, op := .store 67 (.tmp 2) (.tmp 30), type := 0, pos := "tables.go:277", after := #[⟨0, .data⟩, ⟨0, .phase⟩], guard := none }] false).seq .ret) .skip)).seq
      ((Code.region 5 #[{ dst := some 31, op := .move (.tmp 4), type := 3, pos := "tables.go:279", after := #[], guard := none },
          { dst := some 32, op := .binOp .sub 3 (.tmp 31) (.const (.int .i64 1)) 3, type := 3, pos := "tables.go:279", after := #[⟨0, .data⟩], guard := none },
          { dst := some 33, op := .indexAddr 82 (.tmp 3) (.tmp 32), type := 0, pos := "tables.go:279", after := #[⟨1, .data⟩], guard := none },
          { dst := some 34, op := .load 67 (.tmp 33), type := 67, pos := "tables.go:279", after := #[⟨2, .data⟩], guard := none },
          { dst := none, op := .store 67 (.tmp 2) (.tmp 34), type := 0, pos := "tables.go:279", after := #[⟨3, .data⟩, ⟨0, .phase⟩, ⟨1, .phase⟩, ⟨2, .phase⟩, ⟨3, .phase⟩], guard := none }] false).seq .ret))
set_option maxRecDepth 100000 in
theorem mirrors_body : Try.f37.body = some (mirHead.seq (mirLit.seq mirRest)) := by kernel_rfl

theorem couple_zero : ((Try.prog.info? 67).bind (·.zero)) = some (.agg #[.int .i32 0, .int .i32 0, .bool false]) := by kernel_rfl

/-- what the rest of the function finds: the number's box, the result's cells, the couples' -/
structure MirAt (w : World) (x : Int) (W : World) : Prop where
  below : Below w.heap.size w W
  size : w.heap.size + 2 < W.heap.size
  num : W.cell? ⟨w.heap.size, 0, none⟩ = some (.int .i32 x)
  res : W.heap[w.heap.size + 1]? = some (.cells #[.int .i32 0, .int .i32 0, .bool false] 67 (0, 0))
  tab : ∀ i v, (mirrorsL.flatMap coCells)[i]? = some v → W.cell? ⟨w.heap.size + 2, i, none⟩ = some v

section
variable {P : Program}
theorem run_makeFunc {ρ : Operand → Value} {o : Oper} {w : World} {fn : Fn} {cap : Array Operand} {vs : Array Value} (ho : o.op = .makeFunc fn #[] cap) (hc : cap.map ρ = vs) : (execOp ρ o).run P w = .ok (.value (.func fn #[] vs)) w := by
  subst hc
  simp [execOp, ho, Instr.makeFunc]
theorem run_sub64 {ρ : Operand → Value} {o : Oper} {w : World} {t u : TypeId} {x y : Operand} {p q r : Int} (ho : o.op = .binOp .sub t x y u) (hx : ρ x = .int .i64 p) (hy : ρ y = .int .i64 q) (hw : IntKind.i64.wrap (p - q) = r) :
    (execOp ρ o).run P w = .ok (.value (.int .i64 r)) w := by
  subst hw
  simp [execOp, ho, hx, hy, eqGuard, binOp_sub, Op.intArith]
theorem run_index_array {ρ : Operand → Value} {o : Oper} {w : World} {tA tE : TypeId} {x y : Operand} {b n k : Nat} (ho : o.op = .indexAddr tA x y) (hx : ρ x = .pointer (some ⟨b, 0, none⟩)) (hy : ρ y = .int .i64 (k : Int)) (hu : P.underlying tA = some (.array n tE))
    (hs : (P.info? tE).map (·.size) = some 3) (hk : k < n) : (execOp ρ o).run P w = .ok (.value (.pointer (some ⟨b, k * 3, none⟩))) w := by
  have hz : (sizeOf tE).run P w = .ok 3 w := by
    cases hi : P.info? tE with
    | none => simp [hi] at hs
    | some i => simp [hi] at hs; simp [sizeOf, typeInfo, hi, hs]
  have ha : (⟨b, 0, none⟩ : Addr).add (k * 3) = ⟨b, k * 3, none⟩ := by unfold Addr.add; split <;> simp_all
  have hk' : (k : Int) < (n : Int) := by omega
  simp [execOp, ho, hx, hy, Instr.indexAt, asIntOf, run_underlying hu, Instr.sureAddr, hk', hz, ha]
  intro hh
  omega
theorem run_load3 {ρ : Operand → Value} {o : Oper} {w : World} {tE : TypeId} {x : Operand} {b i : Nat} {d : TypeDesc} {v0 v1 v2 : Value} (ho : o.op = .load tE x) (hx : ρ x = .pointer (some ⟨b, i, none⟩)) (hu : P.underlying tE = some d)
    (hd : (match d with | .struct _ | .array _ _ => true | _ => false) = true) (hi : (P.info? tE).map (·.size) = some 3) (c0 : w.cell? ⟨b, i, none⟩ = some v0) (c1 : w.cell? ⟨b, i + 1, none⟩ = some v1) (c2 : w.cell? ⟨b, i + 2, none⟩ = some v2) :
    (execOp ρ o).run P w = .ok (.value (.agg #[v0, v1, v2])) w := by
  have hl : (loadCells ⟨b, i, none⟩ ([v0, v1, v2] : List Value).length).run P w = .ok [v0, v1, v2].toArray w :=
    run_loadCells_list (P := P) w ⟨b, i, none⟩ [v0, v1, v2] (fun j v hv => by
      match j, hv with
      | 0, hv => simp at hv; subst hv; exact c0
      | 1, hv => simp at hv; subst hv; exact c1
      | 2, hv => simp at hv; subst hv; exact c2)
  cases hq : P.info? tE with
  | none => simp [hq] at hi
  | some it =>
    have hs : it.size = 3 := by simpa [hq] using hi
    have hagg : (isAgg tE).run P w = .ok true w := by
      unfold isAgg
      rw [Sem.run_bind, run_underlying hu w]
      cases d <;> simp_all
    simp only [List.length_cons, List.length_nil] at hl
    simp [execOp, ho, hx, Instr.loadAt, Instr.sureAddr, loadVar, Sem.run_bind, hagg, sizeOf, typeInfo, hq, hs, hl]
end

theorem cntM_range (x : Int) : (List.range 20).countP (fun i => !decide (x < ((mirrorsL.toArray[i]!).1 : Int))) = cntM x := by
  have h := Lib.countP_range mirrorsL.toArray (fun e : Nat × Nat × Bool => !decide (x < (e.1 : Int)))
  rw [show mirrorsL.toArray.size = 20 from rfl] at h
  rw [h]
  unfold cntM
  apply List.countP_congr
  intro e _
  simp
theorem mirrors_rise : ∀ b, b < 20 → ∀ a, a < b + 1 → (mirrorsL.toArray[a]!).1 ≤ (mirrorsL.toArray[b]!).1 := by decide +kernel

set_option maxRecDepth 100000 in
set_option maxHeartbeats 4000000 in
theorem rest_any (x : Int) (w W : World) (a : Act) (h : MirAt w x W) (hs : a.tmps.size = 35) (hd : a.defers = []) (h1 : a.eval (.tmp 1) = .pointer (some ⟨w.heap.size, 0, none⟩))
    (h2 : a.eval (.tmp 2) = .pointer (some ⟨w.heap.size + 1, 0, none⟩)) (h3 : a.eval (.tmp 3) = .pointer (some ⟨w.heap.size + 2, 0, none⟩)) :
    mirRest.wp Try.prog (bodyPost Try.prog Try.f37 fun e w' => e = .returned (.agg (coCells (coupleOf x)).toArray) ∧ Below w.heap.size w w') a W := by
  have hsz := h.size
  have eg : ∀ args w, (callFunc 52 args).run Try.prog w = .ok (.enter 52 args) w := enters_of Try.func52 (by kernel_rfl) rfl
  have hfst : ∀ i (h : i < 20), (mirrorsL.toArray[i]!).1 = (mirrorsL[i]'h).1 := fun i h => by
    rw [getElem!_pos mirrorsL.toArray i (show i < mirrorsL.toArray.size from h)]
    rfl
  have hS := Any.sort_Search search_lays 52 #[.pointer (some ⟨w.heap.size + 2, 0, none⟩), .pointer (some ⟨w.heap.size, 0, none⟩)] 20 (fun i => decide (x < ((mirrorsL.toArray[i]!).1 : Int))) W eg (by omega)
    (fun m os i hi => (couple_asks (w.heap.size + 2) w.heap.size x (mirrorsL.toArray[i]!).1 i _ hi (cell_grown (by simp; omega) h.num m os) (cell_grown (by simp; omega) (h.tab _ _ (by rw [hfst i hi]; exact (coCells_at mirrorsL i hi).1)) m os)).mono
      fun _ _ ⟨he, q, hq⟩ => ⟨he, q, #[], by rw [hq, grow_empty]⟩) (fun p q hpq hq hh => by have := mirrors_rise q hq p (by omega); simp only [decide_eq_true_eq] at hh ⊢; omega)
  rw [cntM_range] at hS
  change Calls Try.prog 51 _ _ _ at hS
  have hle : cntM x ≤ 20 := List.countP_le_length
  obtain ⟨n, hn⟩ : ∃ n, cntM x = n := ⟨_, rfl⟩
  unfold coupleOf
  rw [hn] at hS hle ⊢
  unfold mirRest
  refine wp_seq (wp_region_list ?_)
  refine Great.wpList_readTo rfl (some 26) rfl (.func (.func 52) #[] #[.pointer (some ⟨w.heap.size + 2, 0, none⟩), .pointer (some ⟨w.heap.size, 0, none⟩)]) (run_makeFunc rfl (by simp [h3, h1])) ?_
  refine wpList_callBy rfl (some 27) rfl 51 #[.int .i64 (20 : Nat), .func (.func 52) #[] #[.pointer (some ⟨w.heap.size + 2, 0, none⟩), .pointer (some ⟨w.heap.size, 0, none⟩)]] (run_call rfl rfl ?_ rfl (enters_of Try.func51 (by kernel_rfl) rfl _ _))
    (fun v w' => v = .int .i64 (n : Int) ∧ ∃ q os, w' = grow (W.drewN q) os) (hS.mono fun e w' hh => ⟨_, hh.1, rfl, hh.2⟩) ?_
  · simp only [List.map_toArray, List.map_cons, List.map_nil]
    rw [Act.eval_put_same _ _ _ (by rw [hs]; omega)]
    rfl
  rintro _ _ ⟨rfl, q, os, rfl⟩
  refine Great.wpList_readTo rfl (some 4) rfl (.int .i64 (n : Int)) (run_assign rfl (Act.eval_put_same _ _ _ (by simp only [Act.size_put, hs]; omega))) ?_
  have hBg : Below W.heap.size W (grow (W.drewN q) os) := below_grown_sl W.heap.size W q os (Nat.le_refl _)
  have hres := (hBg.block (w.heap.size + 1) (by omega)).trans h.res
  have hBw : Below w.heap.size w (grow (W.drewN q) os) := h.below.trans ⟨hBg.os, hBg.tape, hBg.output, hBg.size, fun k hk => hBg.block k (by omega)⟩
  have htab : ∀ i v, (mirrorsL.flatMap coCells)[i]? = some v → (grow (W.drewN q) os).cell? ⟨w.heap.size + 2, i, none⟩ = some v := fun i v hv => cell_grown (by simp; omega) (h.tab i v hv) q os
  revert hres hBw htab
  generalize grow (W.drewN q) os = W3
  intro hres hBw htab
  obtain ⟨a4, ha4⟩ : ∃ a4, a4 = ((a.put (some 26) (.func (.func 52) #[] #[.pointer (some ⟨w.heap.size + 2, 0, none⟩), .pointer (some ⟨w.heap.size, 0, none⟩)])).put (some 27) (.int .i64 (n : Int))).put (some 4) (.int .i64 (n : Int)) := ⟨_, rfl⟩
  have hs4 : a4.tmps.size = 35 := by rw [ha4]; simp only [Act.size_put, hs]
  have hd4 : a4.defers = [] := by rw [ha4]; simp only [Act.defers_put', hd]
  have h42 : a4.eval (.tmp 2) = .pointer (some ⟨w.heap.size + 1, 0, none⟩) := by rw [ha4, Act.eval_put_ne _ _ _ _ (by omega), Act.eval_put_ne _ _ _ _ (by omega), Act.eval_put_ne _ _ _ _ (by omega)]; exact h2
  have h43 : a4.eval (.tmp 3) = .pointer (some ⟨w.heap.size + 2, 0, none⟩) := by rw [ha4, Act.eval_put_ne _ _ _ _ (by omega), Act.eval_put_ne _ _ _ _ (by omega), Act.eval_put_ne _ _ _ _ (by omega)]; exact h3
  have h44 : a4.eval (.tmp 4) = .int .i64 (n : Int) := by rw [ha4]; exact Act.eval_put_same _ _ _ (by simp only [Act.size_put, hs]; omega)
  rw [← ha4]
  clear ha4 hS eg hBg h1 h2 h3 hs hd
  have hu : Try.prog.underlying 67 = some (.struct #[{ name := "left", type := 21, offset := 0, embedded := false, tag := "", pkgPath := "shuttle/class", byteOffset := 0 }, { name := "right", type := 21, offset := 1, embedded := false, tag := "", pkgPath := "shuttle/class", byteOffset := 4 }, { name := "bracket", type := 4, offset := 2, embedded := false, tag := "", pkgPath := "shuttle/class", byteOffset := 8 }]) := by kernel_rfl
  have hend : ∀ (b : Act) (v0 v1 v2 : Value), b.tmps.size = 35 → b.defers = [] → b.eval (.tmp 2) = .pointer (some ⟨w.heap.size + 1, 0, none⟩) → (.agg #[v0, v1, v2] : Value) = .agg (coCells (if n = 0 then (0, 0, false) else mirrorsL.getD (n - 1) (0, 0, false))).toArray →
      bodyPost Try.prog Try.f37 (fun e w' => e = .returned (.agg (coCells (if n = 0 then (0, 0, false) else mirrorsL.getD (n - 1) (0, 0, false))).toArray) ∧ Below w.heap.size w w') .ret b (W3.setRow (w.heap.size + 1) #[v0, v1, v2]) := fun b v0 v1 v2 hbs hbd hb2 hv =>
    bodyPost_ret (results_cell_row (P := Try.prog) (p := 2) (ty := 67) rfl b.tmps _ (w.heap.size + 1) 67 #[v0, v1, v2] (0, 0) _ hb2 (setRow_heap _ _ _ _ _ _ hres) hu rfl (by kernel_rfl)) hbd
      ⟨by rw [hv], ⟨hBw.os, hBw.tape, hBw.output, by simp; exact hBw.size, fun k hk => (setRow_other _ _ _ _ (by omega)).trans (hBw.block k hk)⟩⟩
  refine wp_seq (wp_seq (wp_region_list ?_))
  refine Great.wpList_readTo rfl (some 28) rfl (.int .i64 (n : Int)) (run_move rfl h44) ?_
  refine Great.wpList_readTo rfl (some 29) rfl (.bool ((n : Int) == 0)) (run_eql (k := .i64) (q := 0) rfl (Act.eval_put_same _ _ _ (by rw [hs4]; omega)) rfl) ?_
  apply wpList_nil
  by_cases h0 : n = 0
  · refine wp_cond_true ((Act.eval_put_same _ _ _ (by simp only [Act.size_put, hs4]; omega)).trans (by simp [h0])) ?_
    refine wp_seq (wp_region_list ?_)
    refine wpList_buildTo rfl 67 _ rfl (some 30) rfl #[.int .i32 0, .int .i32 0, .bool false] (by kernel_rfl) ?_
    refine wpList_store_rowTo rfl 67 _ _ rfl rfl (w.heap.size + 1) #[.int .i32 0, .int .i32 0, .bool false] ?_ (Act.eval_put_same _ _ _ (by simp only [Act.size_put, hs4]; omega)) 67 _ hres (by kernel_rfl) rfl (by simp [Value.oneCell']) ?_
    · rw [Act.eval_put_ne _ _ _ _ (by omega), Act.eval_put_ne _ _ _ _ (by omega), Act.eval_put_ne _ _ _ _ (by omega)]; exact h42
    apply wpList_nil
    refine wp_ret ?_
    exact hend _ _ _ _ (by simp only [Act.size_put, hs4]) (by simp only [Act.defers_put', hd4]) (by rw [Act.eval_put_ne _ _ _ _ (by omega), Act.eval_put_ne _ _ _ _ (by omega), Act.eval_put_ne _ _ _ _ (by omega)]; exact h42) (by rw [if_pos h0]; rfl)
  · obtain ⟨k, rfl⟩ : ∃ k, n = k + 1 := ⟨n - 1, by omega⟩
    have hk : k < mirrorsL.length := by show k < 20; omega
    obtain ⟨k0, k1, k2⟩ := coCells_at mirrorsL k hk
    refine wp_cond_false ((Act.eval_put_same _ _ _ (by simp only [Act.size_put, hs4]; omega)).trans (by simp; omega)) ?_
    refine wp_skip ?_
    refine wp_seq (wp_region_list ?_)
    refine Great.wpList_readTo rfl (some 31) rfl (.int .i64 ((k + 1 : Nat) : Int)) (run_move rfl (by rw [Act.eval_put_ne _ _ _ _ (by omega), Act.eval_put_ne _ _ _ _ (by omega)]; exact h44)) ?_
    refine Great.wpList_readTo rfl (some 32) rfl (.int .i64 (k : Int)) (run_sub64 (q := 1) rfl (Act.eval_put_same _ _ _ (by simp only [Act.size_put, hs4]; omega)) rfl (by rw [show ((k + 1 : Nat) : Int) - 1 = (k : Int) by omega]; exact IntWalk.i64_in _ (by omega))) ?_
    refine Great.wpList_readTo rfl (some 33) rfl (.pointer (some ⟨w.heap.size + 2, k * 3, none⟩)) (run_index_array rfl ?_ (Act.eval_put_same _ _ _ (by simp only [Act.size_put, hs4]; omega)) coTypes.uA coTypes.sE hk) ?_
    · rw [Act.eval_put_ne _ _ _ _ (by omega), Act.eval_put_ne _ _ _ _ (by omega), Act.eval_put_ne _ _ _ _ (by omega), Act.eval_put_ne _ _ _ _ (by omega)]; exact h43
    refine Great.wpList_readTo rfl (some 34) rfl _ (run_load3 rfl (Act.eval_put_same _ _ _ (by simp only [Act.size_put, hs4]; omega)) hu rfl coTypes.sE (htab _ _ k0) (htab _ _ k1) (htab _ _ k2)) ?_
    refine wpList_store_rowTo rfl 67 _ _ rfl rfl (w.heap.size + 1) _ ?_ (Act.eval_put_same _ _ _ (by simp only [Act.size_put, hs4]; omega)) 67 _ hres (by kernel_rfl) rfl (by simp [Value.oneCell']) ?_
    · rw [Act.eval_put_ne _ _ _ _ (by omega), Act.eval_put_ne _ _ _ _ (by omega), Act.eval_put_ne _ _ _ _ (by omega), Act.eval_put_ne _ _ _ _ (by omega), Act.eval_put_ne _ _ _ _ (by omega), Act.eval_put_ne _ _ _ _ (by omega)]; exact h42
    apply wpList_nil
    refine wp_ret ?_
    refine hend _ _ _ _ (by simp only [Act.size_put, hs4]) (by simp only [Act.defers_put', hd4]) ?_ ?_
    · rw [Act.eval_put_ne _ _ _ _ (by omega), Act.eval_put_ne _ _ _ _ (by omega), Act.eval_put_ne _ _ _ _ (by omega), Act.eval_put_ne _ _ _ _ (by omega), Act.eval_put_ne _ _ _ _ (by omega), Act.eval_put_ne _ _ _ _ (by omega)]; exact h42
    · rw [if_neg h0, Nat.add_sub_cancel, show mirrorsL.getD k (0, 0, false) = mirrorsL[k] by simp [hk]]
      rfl

set_option maxRecDepth 100000 in
set_option maxHeartbeats 4000000 in
theorem mirrors_any (x : Int) (w : World) : Calls Try.prog 37 #[.int .i32 x] w fun e w' => e = .returned (.agg (coCells (coupleOf x)).toArray) ∧ Below w.heap.size w w' := by
  refine calls_of_wp Try.func37 mirrors_body ?_
  rw [Try.ntmps37]
  have he0 : ({ tmps := #[Value.int .i32 x] ++ Array.replicate (35 - (#[Value.int .i32 x] : Array Value).size) undef, defers := [] } : Act).eval (.tmp 0) = .int .i32 x := by simp [Act.eval, Array.getD]
  obtain ⟨a, ha⟩ : ∃ a : Act, a = { tmps := #[Value.int .i32 x] ++ Array.replicate (35 - (#[Value.int .i32 x] : Array Value).size) undef, defers := [] } := ⟨_, rfl⟩
  have hsa : a.tmps.size = 35 := by rw [ha]; simp
  have hda : a.defers = [] := by rw [ha]
  rw [← ha] at he0 ⊢
  clear ha
  obtain ⟨ic, hic, hzc⟩ : ∃ it, Try.prog.info? 67 = some it ∧ it.zero = some (.agg #[.int .i32 0, .int .i32 0, .bool false]) := by
    have := couple_zero
    cases hi : Try.prog.info? 67 with
    | none => simp [hi] at this
    | some it => exact ⟨it, rfl, by simpa [hi] using this⟩
  obtain ⟨z, hzz⟩ : ∃ z, (Try.prog.info? 82).bind (·.zero) = some z := by
    have := coTypes.zA
    cases hz : (Try.prog.info? 82).bind (·.zero) with
    | none => simp [hz] at this
    | some z => exact ⟨z, rfl⟩
  have hzs : z.cells.size = 60 := by have := coTypes.zA; rw [hzz] at this; simpa [mirrorsL] using this
  obtain ⟨it, hit, hitz⟩ : ∃ it, Try.prog.info? 82 = some it ∧ it.zero = some z := by
    cases hi : Try.prog.info? 82 with
    | none => simp [hi] at hzz
    | some it => exact ⟨it, rfl, by simpa [hi] using hzz⟩
  refine wp_seq (wp_region_list ?_)
  refine Great.wpList_boxTo rfl 21 _ rfl (some 1) rfl w.heap.size rfl #[.int .i32 x] (by rw [he0]; rfl) ?_
  refine Great.wpList_runTo rfl (some 2) rfl (.pointer (some ⟨w.heap.size + 1, 0, none⟩)) ((w.alloc (.cells #[.int .i32 x] 21)).alloc (.cells #[.int .i32 0, .int .i32 0, .bool false] 67)) ?_ ?_
  · have := run_alloc (P := Try.prog) (ρ := (a.put (some 1) (.pointer (some ⟨w.heap.size, 0, none⟩))).eval) (o := { dst := some 2, op := .alloc 67, type := 0, pos := "tables.go:267", after := #[], guard := none }) (w := w.alloc (.cells #[.int .i32 x] 21)) rfl hic hzc
    rwa [World.size_alloc] at this
  apply wpList_nil
  have hsz2 : ((w.alloc (.cells #[.int .i32 x] 21)).alloc (.cells #[.int .i32 0, .int .i32 0, .bool false] 67)).heap.size = w.heap.size + 2 := by simp
  have hB2 : Below w.heap.size w ((w.alloc (.cells #[.int .i32 x] 21)).alloc (.cells #[.int .i32 0, .int .i32 0, .bool false] 67)) := ((Below.refl _ w).alloc (Nat.le_refl _) _).alloc (by simp) _
  have hn2 : ((w.alloc (.cells #[.int .i32 x] 21)).alloc (.cells #[.int .i32 0, .int .i32 0, .bool false] 67)).heap[w.heap.size]? = some (.cells #[.int .i32 x] 21 (0, 0)) := by
    have h := (MapKept.heap_alloc w (.cells #[.int .i32 x] 21)).1
    rw [← h]
    exact ((Below.refl (w.heap.size + 1) (w.alloc (.cells #[.int .i32 x] 21))).alloc (by simp) _).block _ (by omega)
  have hr2 : ((w.alloc (.cells #[.int .i32 x] 21)).alloc (.cells #[.int .i32 0, .int .i32 0, .bool false] 67)).heap[w.heap.size + 1]? = some (.cells #[.int .i32 0, .int .i32 0, .bool false] 67 (0, 0)) := by
    have h := (MapKept.heap_alloc (w.alloc (.cells #[.int .i32 x] 21)) (.cells #[.int .i32 0, .int .i32 0, .bool false] 67)).1
    rwa [World.size_alloc] at h
  revert hsz2 hB2 hn2 hr2
  generalize (w.alloc (.cells #[.int .i32 x] 21)).alloc (.cells #[.int .i32 0, .int .i32 0, .bool false] 67) = W2
  intro hsz2 hB2 hn2 hr2
  refine wp_seq (wp_region_lit ?_)
  refine wpList_cos coTypes "tables.go:268" mirrorsL 5 _ (by simp only [Act.size_put, hsa]; decide +kernel) fun a1 hs1 hd1 hev1 hlow1 => ?_
  simp only [Act.size_put, hsa] at hs1
  simp only [Act.defers_put', hda] at hd1
  have h10 : a1.eval (.tmp 0) = .int .i32 x := by rw [hlow1 0 (by omega), Act.eval_put_ne _ _ _ _ (by omega), Act.eval_put_ne _ _ _ _ (by omega)]; exact he0
  have h11 : a1.eval (.tmp 1) = .pointer (some ⟨w.heap.size, 0, none⟩) := by rw [hlow1 1 (by omega), Act.eval_put_ne _ _ _ _ (by omega)]; exact Act.eval_put_same _ _ _ (by rw [hsa]; omega)
  have h12 : a1.eval (.tmp 2) = .pointer (some ⟨w.heap.size + 1, 0, none⟩) := by rw [hlow1 2 (by omega)]; exact Act.eval_put_same _ _ _ (by rw [Act.size_put, hsa]; omega)
  refine wpList_buildTo rfl 82 _ rfl (some 25) rfl (mirrorsL.flatMap coCells).toArray (built_co mirrorsL coTypes a1 5 _ (by simp [mirrorsL]) hev1) ?_
  refine Great.wpList_runTo rfl (some 3) rfl (.pointer (some ⟨w.heap.size + 2, 0, none⟩)) (W2.alloc (.cells z.cells 82)) (by rw [← hsz2]; exact run_alloc rfl hit hitz) ?_
  have hcs : (mirrorsL.flatMap coCells).length = 60 := by decide +kernel
  have hg : (W2.alloc (.cells z.cells 82)).heap[w.heap.size + 2]? = some (.cells z.cells 82 (0, 0)) := by rw [← hsz2]; exact (MapKept.heap_alloc W2 _).1
  refine wpList_store_rowTo rfl 82 _ _ rfl rfl (w.heap.size + 2) (mirrorsL.flatMap coCells).toArray (Act.eval_put_same _ _ _ (by simp only [Act.size_put, hs1]; omega)) (by rw [Act.eval_put_ne _ _ _ _ (by omega)]; exact Act.eval_put_same _ _ _ (by rw [hs1]; omega))
    82 z.cells hg (by rw [coTypes.iA, List.size_toArray, hcs]; rfl) (by rw [hzs, List.size_toArray, hcs]) ?_ ?_
  · rw [Array.all_eq_true_iff_forall_mem]
    intro v hv
    simp only [List.mem_toArray, List.mem_flatMap, coCells, List.mem_cons, List.not_mem_nil, or_false] at hv
    obtain ⟨e, _, rfl | rfl | rfl⟩ := hv <;> rfl
  apply wpList_nil
  have hA : ∀ k, k < w.heap.size + 2 → ((W2.alloc (.cells z.cells 82)).setRow (w.heap.size + 2) (mirrorsL.flatMap coCells).toArray).heap[k]? = W2.heap[k]? := fun k hk =>
    (setRow_other _ _ _ _ (by omega)).trans (((Below.refl (w.heap.size + 2) W2).alloc (by omega) _).block k hk)
  have hn3 := (hA w.heap.size (by omega)).trans hn2
  have hr3 := (hA (w.heap.size + 1) (by omega)).trans hr2
  refine rest_any x w _ _ ⟨⟨?_, ?_, ?_, ?_, fun k hk => (hA k (by omega)).trans (hB2.block k hk)⟩, ?_, ?_, hr3, fun i v hv => ?_⟩ ?_ ?_ ?_ ?_ ?_
  · exact hB2.os
  · exact hB2.tape
  · exact hB2.output
  · simp [hsz2]; omega
  · simp [hsz2]
  · simp [World.cell?, hn3]
  · rw [cell_setRow_same _ _ _ _ _ _ _ hg]
    simpa using hv
  · simp only [Act.size_put, hs1]
  · simp only [Act.defers_put', hd1]
  · rw [Act.eval_put_ne _ _ _ _ (by omega), Act.eval_put_ne _ _ _ _ (by omega)]; exact h11
  · rw [Act.eval_put_ne _ _ _ _ (by omega), Act.eval_put_ne _ _ _ _ (by omega)]; exact h12
  · exact Act.eval_put_same _ _ _ (by simp only [Act.size_put, hs1]; omega)
end Go.Proofs.Ytkcckophnamajaa
