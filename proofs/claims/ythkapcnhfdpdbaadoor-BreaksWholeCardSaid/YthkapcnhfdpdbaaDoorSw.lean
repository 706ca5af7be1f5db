/- A switch over stretches of numbers, whatever the number of its cases: its code as a function of its rows, walked by induction; a frame is known by its size and by what it holds. -/
import Derived.Great.Walk
import Derived.Test.YthkapcnhfdpdbaaDoorTab
set_option linter.unusedSimpArgs false
set_option linter.unusedVariables false
namespace Go.Proofs.YthkapcnhfdpdbaaDoor
open Go.Great

section
variable {P : Program}

/-- what is known of a frame between two tests: its size, its deferred calls, the number that is asked -/
structure Asked (n r : Nat) (a : Act) : Prop where
  size : a.tmps.size = n
  defers : a.defers = []
  num : a.eval (.tmp 0) = .int .i32 (r : Int)
theorem Asked.put {n r : Nat} {a : Act} (h : Asked n r a) {d : Nat} (v : Value) (hd : d ≠ 0) : Asked n r (a.put (some d) v) :=
  ⟨(Act.size_put ..).trans h.size, (Act.defers_put' ..).trans h.defers, by rw [Act.eval_put_ne _ _ _ _ hd]; exact h.num⟩

theorem run_move {ρ : Operand → Value} {o : Oper} {w : World} {x : Operand} {v : Value} (ho : o.op = .move x) (hx : ρ x = v) : (execOp ρ o).run P w = .ok (.value v) w := by
  simp [execOp, ho, hx]
theorem run_assign {ρ : Operand → Value} {o : Oper} {w : World} {x : Operand} {v : Value} (ho : o.op = .assign x) (hx : ρ x = v) : (execOp ρ o).run P w = .ok (.value v) w := by
  simp [execOp, ho, hx]
theorem run_geq {ρ : Operand → Value} {o : Oper} {w : World} {t u : TypeId} {x y : Operand} {k : IntKind} {p q : Int} (ho : o.op = .binOp .geq t x y u) (hx : ρ x = .int k p) (hy : ρ y = .int k q) :
    (execOp ρ o).run P w = .ok (.value (.bool (decide (q ≤ p)))) w := by
  simp [execOp, ho, hx, hy, eqGuard, binOp_geq]
theorem run_leq {ρ : Operand → Value} {o : Oper} {w : World} {t u : TypeId} {x y : Operand} {k : IntKind} {p q : Int} (ho : o.op = .binOp .leq t x y u) (hx : ρ x = .int k p) (hy : ρ y = .int k q) :
    (execOp ρ o).run P w = .ok (.value (.bool (decide (p ≤ q)))) w := by
  simp [execOp, ho, hx, hy, eqGuard, binOp_leq]
theorem run_eql {ρ : Operand → Value} {o : Oper} {w : World} {t u : TypeId} {x y : Operand} {k : IntKind} {p q : Int} (ho : o.op = .binOp .eql t x y u) (hx : ρ x = .int k p) (hy : ρ y = .int k q) :
    (execOp ρ o).run P w = .ok (.value (.bool (p == q))) w := by
  simp [execOp, ho, hx, hy, eqGuard, binOp_eql]
theorem run_pick {ρ : Operand → Value} {o : Oper} {w : World} {c x y : Operand} {b : Bool} {v : Value} (ho : o.op = .pick c x y) (hc : ρ c = .bool b) (hx : (if b then ρ x else ρ y) = v) :
    (execOp ρ o).run P w = .ok (.value v) w := by
  subst hx
  cases b <;> simp [execOp, ho, hc, asBool]

/-- one case's operations -/
def opsOf (tR tB : TypeId) (pos : String) (d T : Nat) (e : Nat × Nat) : List Oper :=
  bif Nat.beq e.1 0 then
    [{ dst := some d, op := .move (.tmp 0), type := tR, pos := pos, after := #[], guard := none },
     { dst := some (d + 1), op := .binOp .leq tR (.tmp d) (.const (.int .i32 e.2)) tR, type := tB, pos := pos, after := #[⟨0, .data⟩], guard := none },
     { dst := some T, op := .assign (.tmp (d + 1)), type := tB, pos := pos, after := #[⟨1, .data⟩], guard := none }]
  else bif Nat.beq e.1 e.2 then
    [{ dst := some d, op := .move (.tmp 0), type := tR, pos := pos, after := #[], guard := none },
     { dst := some (d + 1), op := .binOp .eql tR (.tmp d) (.const (.int .i32 e.2)) tR, type := tB, pos := pos, after := #[⟨0, .data⟩], guard := none },
     { dst := some T, op := .assign (.tmp (d + 1)), type := tB, pos := pos, after := #[⟨1, .data⟩], guard := none }]
  else
    [{ dst := some d, op := .move (.tmp 0), type := tR, pos := pos, after := #[], guard := none },
     { dst := some (d + 1), op := .binOp .geq tR (.tmp d) (.const (.int .i32 e.1)) tR, type := tB, pos := pos, after := #[⟨0, .data⟩], guard := none },
     { dst := some (d + 2), op := .move (.tmp (d + 1)), type := tB, pos := pos, after := #[⟨1, .data⟩], guard := none },
     { dst := some (d + 3), op := .move (.tmp 0), type := tR, pos := pos, after := #[⟨2, .guard⟩], guard := some (2, true) },
     { dst := some (d + 4), op := .binOp .leq tR (.tmp (d + 3)) (.const (.int .i32 e.2)) tR, type := tB, pos := pos, after := #[⟨3, .data⟩, ⟨2, .guard⟩], guard := some (2, true) },
     { dst := some (d + 5), op := .pick (.tmp (d + 2)) (.tmp (d + 4)) (.const (.bool false)), type := tB, pos := pos, after := #[⟨2, .data⟩, ⟨4, .data⟩], guard := none },
     { dst := some T, op := .assign (.tmp (d + 5)), type := tB, pos := pos, after := #[⟨5, .data⟩, ⟨2, .chain⟩], guard := none }]
def wid (e : Nat × Nat) : Nat := bif Nat.beq e.1 0 || Nat.beq e.1 e.2 then 2 else 6

/-- a guarded operation that is wanted, and one that is not -/
theorem wpList_wanted {ops : Array Oper} {rest : List Oper} {o : Oper} {a : Act} {w : World} {Q : Exit → Act → World → Prop} (hg : Region.wanted o (yielded ops a.tmps) = true) (dst : Option Tmp) (hdst : o.dst = dst)
    (v : Value) (hrun : (execOp a.eval o).run P w = .ok (.value v) w) (h : wpList P ops Q rest (a.put dst v) w) : wpList P ops Q (o :: rest) a w := by
  subst hdst
  refine wpList_step fun K hK => ?_
  rw [if_pos hg]
  unfold Oper.wp
  rw [hrun, Oper.upon_value]
  exact hK _ _ h
theorem wpList_unwanted {ops : Array Oper} {rest : List Oper} {o : Oper} {a : Act} {w : World} {Q : Exit → Act → World → Prop} (hg : Region.wanted o (yielded ops a.tmps) = false) (dst : Option Tmp) (hdst : o.dst = dst)
    (h : wpList P ops Q rest (a.put dst undef) w) : wpList P ops Q (o :: rest) a w := by
  subst hdst
  refine wpList_step fun K hK => ?_
  rw [if_neg (by rw [hg]; simp)]
  exact hK _ _ h
theorem eval_some {a : Act} {d : Nat} {v : Value} (h : d < a.tmps.size) (he : a.eval (.tmp d) = v) : a.tmps[d]? = some v := by
  rw [Array.getElem?_eq_getElem h]
  simp [Act.eval, Array.getD, h] at he
  rw [he]

theorem wp_case {tR tB : TypeId} {pos : String} {id d T n r : Nat} {e : Nat × Nat} {a : Act} {w : World} {Q : Exit → Act → World → Prop} (h : Asked n r a) (hd : T < d) (hT : 2 < T) (hn : d + wid e ≤ n)
    (k : ∀ a', Asked n r a' → a'.eval (.tmp T) = .bool (Nat.ble e.1 r && Nat.ble r e.2) → Q .normal a' w) : (Code.region id (opsOf tR tB pos d T e).toArray false).wp P Q a w := by
  apply wp_region_lit
  unfold opsOf
  unfold wid at hn
  cases h0 : Nat.beq e.1 0 with
  | true =>
    have e0 : e.1 = 0 := Nat.eq_of_beq_eq_true h0
    simp only [h0, cond_true, Bool.true_or] at hn ⊢
    refine wpList_readTo rfl (some d) rfl _ (run_move rfl h.num) ?_
    have h1 := h.put (d := d) (.int .i32 (r : Int)) (by omega)
    refine wpList_readTo rfl (some (d + 1)) rfl _ (run_leq rfl (Act.eval_put_same _ _ _ (by rw [h.size]; omega)) rfl) ?_
    have h2 := h1.put (d := d + 1) (.bool (decide ((r : Int) ≤ (e.2 : Int)))) (by omega)
    refine wpList_readTo rfl (some T) rfl _ (run_assign rfl (Act.eval_put_same _ _ _ (by rw [h1.size]; omega))) ?_
    refine k _ (h2.put _ (by omega)) ?_
    rw [Act.eval_put_same _ _ _ (by rw [h2.size]; omega), e0]
    congr 1
    rw [Bool.eq_iff_iff]
    simp
  | false =>
    simp only [h0, cond_false, Bool.false_or] at hn ⊢
    cases h1 : Nat.beq e.1 e.2 with
    | true =>
      have e1 : e.1 = e.2 := Nat.eq_of_beq_eq_true h1
      simp only [h1, cond_true] at hn ⊢
      refine wpList_readTo rfl (some d) rfl _ (run_move rfl h.num) ?_
      have h1 := h.put (d := d) (.int .i32 (r : Int)) (by omega)
      refine wpList_readTo rfl (some (d + 1)) rfl _ (run_eql rfl (Act.eval_put_same _ _ _ (by rw [h.size]; omega)) rfl) ?_
      have h2 := h1.put (d := d + 1) (.bool ((r : Int) == (e.2 : Int))) (by omega)
      refine wpList_readTo rfl (some T) rfl _ (run_assign rfl (Act.eval_put_same _ _ _ (by rw [h1.size]; omega))) ?_
      refine k _ (h2.put _ (by omega)) ?_
      rw [Act.eval_put_same _ _ _ (by rw [h2.size]; omega), e1]
      congr 1
      rw [Bool.eq_iff_iff]
      simp
      omega
    | false =>
      simp only [h1, cond_false] at hn ⊢
      refine wpList_readTo rfl (some d) rfl _ (run_move rfl h.num) ?_
      have h1 := h.put (d := d) (.int .i32 (r : Int)) (by omega)
      refine wpList_readTo rfl (some (d + 1)) rfl _ (run_geq rfl (Act.eval_put_same _ _ _ (by rw [h.size]; omega)) rfl) ?_
      have h2 := h1.put (d := d + 1) (.bool (decide ((e.1 : Int) ≤ (r : Int)))) (by omega)
      refine wpList_readTo rfl (some (d + 2)) rfl _ (run_move rfl (Act.eval_put_same _ _ _ (by rw [h1.size]; omega))) ?_
      have h3 := h2.put (d := d + 2) (.bool (decide ((e.1 : Int) ≤ (r : Int)))) (by omega)
      have g2 := Act.eval_put_same ((a.put (some d) (.int .i32 (r : Int))).put (some (d + 1)) (.bool (decide ((e.1 : Int) ≤ (r : Int))))) (d + 2) (.bool (decide ((e.1 : Int) ≤ (r : Int)))) (by rw [h2.size]; omega)
      revert h3 g2
      generalize ((a.put (some d) (.int .i32 (r : Int))).put (some (d + 1)) (.bool (decide ((e.1 : Int) ≤ (r : Int))))).put (some (d + 2)) (.bool (decide ((e.1 : Int) ≤ (r : Int)))) = b
      intro h3 g2
      have gs := eval_some (by rw [h3.size]; omega) g2
      by_cases hlo : e.1 ≤ r
      · have hlo' : decide ((e.1 : Int) ≤ (r : Int)) = true := by simpa using hlo
        rw [hlo'] at g2 gs
        refine wpList_wanted (by simp [Region.wanted, yielded, gs]) (some (d + 3)) rfl _ (run_move rfl h3.num) ?_
        have h4 := h3.put (d := d + 3) (.int .i32 (r : Int)) (by omega)
        have gs' := eval_some (d := d + 2) (v := .bool true) (by rw [h4.size]; omega) (by rw [Act.eval_put_ne _ _ _ _ (by omega)]; exact g2)
        refine wpList_wanted (by simp [Region.wanted, yielded, gs']) (some (d + 4)) rfl _ (run_leq rfl (Act.eval_put_same _ _ _ (by rw [h3.size]; omega)) rfl) ?_
        have h5 := h4.put (d := d + 4) (.bool (decide ((r : Int) ≤ (e.2 : Int)))) (by omega)
        refine wpList_readTo rfl (some (d + 5)) rfl (.bool (decide ((r : Int) ≤ (e.2 : Int)))) (run_pick rfl (b := true) (by rw [Act.eval_put_ne _ _ _ _ (by omega), Act.eval_put_ne _ _ _ _ (by omega)]; exact g2) (by simp only [if_true]; exact Act.eval_put_same _ _ _ (by rw [h4.size]; omega))) ?_
        have h6 := h5.put (d := d + 5) (.bool (decide ((r : Int) ≤ (e.2 : Int)))) (by omega)
        refine wpList_readTo rfl (some T) rfl _ (run_assign rfl (Act.eval_put_same _ _ _ (by rw [h5.size]; omega))) ?_
        refine k _ (h6.put _ (by omega)) ?_
        rw [Act.eval_put_same _ _ _ (by rw [h6.size]; omega)]
        congr 1
        rw [Bool.eq_iff_iff]
        simp
        omega
      · have hlo' : decide ((e.1 : Int) ≤ (r : Int)) = false := by simpa using hlo
        rw [hlo'] at g2 gs
        refine wpList_unwanted (by simp [Region.wanted, yielded, gs]) (some (d + 3)) rfl ?_
        have h4 := h3.put (d := d + 3) undef (by omega)
        have gs' := eval_some (d := d + 2) (v := .bool false) (by rw [h4.size]; omega) (by rw [Act.eval_put_ne _ _ _ _ (by omega)]; exact g2)
        refine wpList_unwanted (by simp [Region.wanted, yielded, gs']) (some (d + 4)) rfl ?_
        have h5 := h4.put (d := d + 4) undef (by omega)
        refine wpList_readTo rfl (some (d + 5)) rfl (.bool false) (run_pick rfl (b := false) (by rw [Act.eval_put_ne _ _ _ _ (by omega), Act.eval_put_ne _ _ _ _ (by omega)]; exact g2) rfl) ?_
        have h6 := h5.put (d := d + 5) (.bool false) (by omega)
        refine wpList_readTo rfl (some T) rfl _ (run_assign rfl (Act.eval_put_same _ _ _ (by rw [h5.size]; omega))) ?_
        refine k _ (h6.put _ (by omega)) ?_
        rw [Act.eval_put_same _ _ _ (by rw [h6.size]; omega)]
        congr 1
        rw [Bool.eq_iff_iff]
        simp
        omega

/-- the cases of one row -/
def casesCode (tR tB : TypeId) (pos : String) (T : Nat) : Nat → Nat → List (Nat × Nat) → Code
  | _, _, [] => .skip
  | d, id, [e] => .region id (opsOf tR tB pos d T e).toArray false
  | d, id, e :: e' :: t => (Code.region id (opsOf tR tB pos d T e).toArray false).seq (.cond (.tmp T) .skip (casesCode tR tB pos T (d + wid e) (id + 1) (e' :: t)))
def wids : List (Nat × Nat) → Nat
  | [] => 0
  | e :: t => wid e + wids t
theorem wp_cases {tR tB : TypeId} {pos : String} {T n r : Nat} {w : World} {Q : Exit → Act → World → Prop} (hT : 2 < T) :
    ∀ (l : List (Nat × Nat)) (d id : Nat) (a : Act), l ≠ [] → Asked n r a → T < d → d + wids l ≤ n → (∀ a', Asked n r a' → a'.eval (.tmp T) = .bool (hasRow l r) → Q .normal a' w) → (casesCode tR tB pos T d id l).wp P Q a w
  | [], _, _, _, h0, _, _, _, _ => absurd rfl h0
  | [e], d, id, a, _, h, hd, hn, k => by
    refine wp_case h hd hT (by simpa [wids] using hn) fun a' h' hv => k a' h' ?_
    rw [hv]
    simp [hasRow]
  | e :: e' :: t, d, id, a, _, h, hd, hn, k => by
    have hn' : d + (wid e + wids (e' :: t)) ≤ n := hn
    refine wp_seq (wp_case h hd hT (by omega) fun a' h' hv => ?_)
    refine wp_cond_split hv (fun ht => wp_skip (k a' h' ?_)) (fun hf => wp_cases hT (e' :: t) _ _ a' (by simp) h' (by omega) (by omega) fun b hb hbv => k b hb ?_)
    · rw [hv, ht]
      simp [hasRow, ht]
    · rw [hbv]
      have : hasRow (e :: e' :: t) r = (Nat.ble e.1 r && Nat.ble r e.2 || hasRow (e' :: t) r) := rfl
      rw [this, hf, Bool.false_or]

/-- the rows, one behind the other: where the test stands, where the answer stands, the cases, the answer -/
abbrev SRows := List (String × String × List (Nat × Nat) × Nat)
def rowsCode (tR tB tV : TypeId) (kV : IntKind) : Nat → Nat → SRows → Code
  | _, _, [] => .skip
  | T, id, (p, q, l, v) :: t =>
    (casesCode tR tB p T (T + 1) id l).seq
      (.cond (.tmp T) ((Code.region (id + l.length) #[{ dst := some 2, op := .assign (.const (.int kV v)), type := tV, pos := q, after := #[], guard := none }] false).seq .ret)
        (rowsCode tR tB tV kV (T + 1 + wids l) (id + l.length + 1) t))
def rowsWid : SRows → Nat
  | [] => 0
  | x :: t => 1 + wids x.2.2.1 + rowsWid t
def plainRows (s : SRows) : Rows := s.map fun x => (x.2.2.1, x.2.2.2)
def hitRow : Rows → Nat → Option Nat
  | [], _ => none
  | e :: t, r => bif hasRow e.1 r then some e.2 else hitRow t r
theorem firstRow_hit : ∀ (l : Rows) (c r : Nat), firstRow l c r = (hitRow l r).getD c
  | [], _, _ => rfl
  | e :: t, c, r => by
    unfold firstRow hitRow
    cases hasRow e.1 r with
    | true => rfl
    | false => exact firstRow_hit t c r
theorem wp_rows {tR tB tV : TypeId} {kV : IntKind} {n r : Nat} {w : World} {Q : Exit → Act → World → Prop} :
    ∀ (l : SRows) (T id : Nat) (a : Act), (l.all fun x => !x.2.2.1.isEmpty) = true → 2 < T → Asked n r a → T + rowsWid l ≤ n →
      (∀ a' v, Asked n r a' → hitRow (plainRows l) r = some v → a'.eval (.tmp 2) = .int kV (v : Int) → Q .ret a' w) → (∀ a', Asked n r a' → hitRow (plainRows l) r = none → Q .normal a' w) →
      (rowsCode tR tB tV kV T id l).wp P Q a w
  | [], _, _, a, _, _, h, _, _, k => wp_skip (k a h rfl)
  | (p, q, l, v) :: t, T, id, a, h0, hT, h, hn, hr, k => by
    simp only [List.all_cons, Bool.and_eq_true] at h0
    have hn' : T + (1 + wids l + rowsWid t) ≤ n := hn
    refine wp_seq (wp_cases hT l (T + 1) id a (by intro e; simp [e] at h0) h (by omega) (by omega) fun a' h' hv => ?_)
    refine wp_cond_split hv (fun ht => ?_) (fun hf => ?_)
    · refine wp_seq (wp_region_list ?_)
      refine wpList_readTo rfl (some 2) rfl _ (run_assign rfl rfl) ?_
      refine wp_ret (hr _ v (h'.put _ (by omega)) ?_ (Act.eval_put_same _ _ _ (by rw [h'.size]; omega)))
      show (bif hasRow l r then some v else hitRow (plainRows t) r) = some v
      rw [ht]; rfl
    · have hh : hitRow (plainRows ((p, q, l, v) :: t)) r = hitRow (plainRows t) r := by
        show (bif hasRow l r then some v else hitRow (plainRows t) r) = hitRow (plainRows t) r
        rw [hf]; rfl
      exact wp_rows t _ _ a' h0.2 (by omega) h' (by omega) (fun b u hb hu => hr b u hb (hh.trans hu)) (fun b hb hu => k b hb (hh.trans hu))

/-- the whole function: 'r = known(r); switch { .. }; return d' -/
def switchCode (tR tB tV : TypeId) (kV : IntKind) (known : FuncId) (p0 p1 pd : String) (z : Int) (rid : Nat) (l : SRows) (d : Nat) : Code :=
  (Code.region 0 #[{ dst := some 2, op := .assign (.const (.int kV z)), type := tV, pos := p0, after := #[], guard := none }] false).seq
    ((Code.region 1 #[{ dst := some 3, op := .move (.tmp 0), type := tR, pos := p1, after := #[], guard := none },
        { dst := some 4, op := .call { callee := .value (.func known), args := #[.tmp 3], argTypes := #[tR] }, type := tR, pos := p1, after := #[⟨0, .data⟩], guard := none },
        { dst := some 0, op := .assign (.tmp 4), type := tR, pos := p1, after := #[⟨1, .data⟩, ⟨1, .chain⟩, ⟨0, .phase⟩, ⟨1, .phase⟩], guard := none }] false).seq
      ((Code.block 0 (rowsCode tR tB tV kV 5 2 l)).seq
        ((Code.region rid #[{ dst := some 2, op := .assign (.const (.int kV d)), type := tV, pos := pd, after := #[], guard := none }] false).seq .ret)))

/-- THE CONTRACT: at what 'known' makes of the number, the first row's answer -/
theorem switch_calls {tR tB tV : TypeId} {kV : IntKind} {known f : FuncId} {fn : Func} {p0 p1 pd : String} {z : Int} {rid : Nat} {l : SRows} {d : Nat} (hf : P.funcs[f]? = some fn)
    (hb : fn.body = some (switchCode tR tB tV kV known p0 p1 pd z rid l d)) (hres : fn.results = #[.tmp 2]) (hl : (l.all fun x => !x.2.2.1.isEmpty) = true) (hn : 5 + rowsWid l ≤ fn.ntmps)
    (x : Int) (r : Nat) (w : World) (hk : Calls P known #[.int .i32 x] w fun e w' => e = .returned (.int .i32 (r : Int)) ∧ w' = w)
    (hen : ∀ ρ : Operand → Value, ρ (.tmp 3) = .int .i32 x → ρ (.func known) = .func (.func known) #[] #[] → (execOp ρ { dst := some 4, op := .call { callee := .value (.func known), args := #[.tmp 3], argTypes := #[tR] }, type := tR, pos := p1, after := #[⟨0, .data⟩], guard := none }).run P w = .ok (.enter known #[.int .i32 x]) w) :
    Calls P f #[.int .i32 x] w fun e w' => e = .returned (.int kV (firstRow (plainRows l) d r : Nat)) ∧ w' = w := by
  refine calls_of_wp hf hb ?_
  have hs0 : (#[Value.int .i32 x] ++ Array.replicate (fn.ntmps - (#[Value.int .i32 x] : Array Value).size) undef).size = fn.ntmps := by simp; omega
  have he0 : ({ tmps := #[Value.int .i32 x] ++ Array.replicate (fn.ntmps - (#[Value.int .i32 x] : Array Value).size) undef, defers := [] } : Act).eval (.tmp 0) = .int .i32 x := by simp [Act.eval, Array.getD]
  obtain ⟨a, ha⟩ : ∃ a : Act, a = { tmps := #[Value.int .i32 x] ++ Array.replicate (fn.ntmps - (#[Value.int .i32 x] : Array Value).size) undef, defers := [] } := ⟨_, rfl⟩
  have hsa : a.tmps.size = fn.ntmps := by rw [ha]; exact hs0
  have hda : a.defers = [] := by rw [ha]
  rw [← ha] at he0 ⊢
  clear ha hs0
  unfold switchCode
  refine wp_seq (wp_region_list ?_)
  refine wpList_readTo rfl (some 2) rfl _ (run_assign rfl rfl) ?_
  refine wp_seq (wp_region_list ?_)
  refine wpList_readTo rfl (some 3) rfl (.int .i32 x) (run_move rfl (by rw [Act.eval_put_ne _ _ _ _ (by omega)]; exact he0)) ?_
  refine wpList_callTo rfl (some 4) rfl known #[.int .i32 x] (hen _ (Act.eval_put_same _ _ _ (by rw [Act.size_put, hsa]; omega)) rfl) (.int .i32 (r : Int)) w hk ?_
  refine wpList_readTo rfl (some 0) rfl (.int .i32 (r : Int)) (run_assign rfl (Act.eval_put_same _ _ _ (by rw [Act.size_put, Act.size_put, hsa]; omega))) ?_
  have hA : Asked fn.ntmps r ((((a.put (some 2) (.int kV z)).put (some 3) (.int .i32 x)).put (some 4) (.int .i32 (r : Int))).put (some 0) (.int .i32 (r : Int))) :=
    ⟨by simp only [Act.size_put, hsa], by simp only [Act.defers_put', hda], Act.eval_put_same _ _ _ (by simp only [Act.size_put, hsa]; omega)⟩
  have hrun : ∀ a' : Act, (results fn a'.tmps).run P w = .ok (a'.eval (.tmp 2)) w := fun a' => by
    rw [results_tmp hres]; rfl
  refine wp_seq (wp_block (wp_rows l 5 2 _ hl (by omega) hA (by omega) (fun a' v h' hv he => ?_) (fun a' h' hv => ?_)))
  · show bodyPost P fn (fun e w' => e = .returned (.int kV (firstRow (plainRows l) d r : Nat)) ∧ w' = w) .ret a' w
    refine bodyPost_ret (hrun a') h'.defers ?_
    rw [he, firstRow_hit, hv]
    exact ⟨rfl, rfl⟩
  · refine wp_seq (wp_region_list ?_)
    refine wpList_readTo rfl (some 2) rfl _ (run_assign rfl rfl) ?_
    refine wp_ret (bodyPost_ret (hrun _) (by rw [Act.defers_put']; exact h'.defers) ?_)
    rw [Act.eval_put_same _ _ _ (by rw [h'.size]; omega), firstRow_hit, hv]
    exact ⟨rfl, rfl⟩
end
end Go.Proofs.YthkapcnhfdpdbaaDoor
