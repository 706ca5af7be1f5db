/- Tables of stretches, without the program: what a table says of a number, and how a property of all numbers is settled at the borders alone. -/
import Derived.Below
import Derived.Great.Walk
import Derived.Laws.Slices
set_option linter.unusedSimpArgs false
set_option linter.unusedVariables false
namespace Go.Proofs.YtiafofekobcifaaDoor

/-- where a stretch begins, and its class -/
abbrev Tab := List (Nat × Nat)

def cnt (l : Tab) (r : Nat) : Nat := l.countP fun e => Nat.ble e.1 r
/-- the class of the last stretch that begins at or ahead of r -/
def clsFrom : Tab → Nat → Nat → Nat
  | [], c, _ => c
  | e :: t, c, r => bif Nat.ble e.1 r then clsFrom t e.2 r else c
def cls (l : Tab) (r : Nat) : Nat := clsFrom l 0 r
/-- the last number of the stretch that r is in -/
def endFrom : Tab → Nat → Nat
  | [], _ => 1114111
  | e :: t, r => bif Nat.ble e.1 r then endFrom t r else e.1 - 1
/-- the beginnings rise -/
def rises : Tab → Bool
  | [] => true
  | [_] => true
  | a :: b :: t => Nat.blt a.1 b.1 && rises (b :: t)

theorem rises_tail {a : Nat × Nat} {t : Tab} (h : rises (a :: t) = true) : rises t = true := by
  cases t with
  | nil => rfl
  | cons b t => simp [rises] at h; exact h.2
theorem rises_head {a : Nat × Nat} : ∀ {t : Tab}, rises (a :: t) = true → ∀ e ∈ t, a.1 < e.1
  | [], _, e, he => by cases he
  | b :: t, h, e, he => by
    simp only [rises, Bool.and_eq_true] at h
    have hb : a.1 < b.1 := by have := h.1; simp [Nat.blt] at this; omega
    rcases List.mem_cons.1 he with rfl | he
    · exact hb
    · exact Nat.lt_trans hb (rises_head h.2 e he)

theorem cnt_zero {a : Nat × Nat} {t : Tab} {r : Nat} (h : rises (a :: t) = true) (hr : r < a.1) : cnt (a :: t) r = 0 := by
  unfold cnt
  rw [List.countP_eq_zero]
  intro e he
  rcases List.mem_cons.1 he with rfl | he
  · simp; omega
  · have := rises_head h e he
    simp; omega
theorem cnt_cons {a : Nat × Nat} {t : Tab} {r : Nat} (hr : a.1 ≤ r) : cnt (a :: t) r = cnt t r + 1 := by
  unfold cnt
  rw [List.countP_cons_of_pos]
  simpa using hr

theorem clsFrom_at : ∀ (l : Tab) (c r : Nat), rises l = true → clsFrom l c r = if cnt l r = 0 then c else (l.getD (cnt l r - 1) (0, 0)).2
  | [], c, r, _ => by simp [clsFrom, cnt]
  | e :: t, c, r, h => by
    unfold clsFrom
    by_cases hr : e.1 ≤ r
    · rw [cnt_cons hr, show Nat.ble e.1 r = true by simpa using hr, clsFrom_at t e.2 r (rises_tail h)]
      simp only [cond_true, Nat.add_one_ne_zero, if_false, Nat.add_sub_cancel]
      by_cases h0 : cnt t r = 0
      · rw [h0]; rfl
      · obtain ⟨k, hk⟩ := Nat.exists_eq_succ_of_ne_zero h0
        rw [hk]
        simp
    · rw [cnt_zero h (by omega), show Nat.ble e.1 r = false by rw [← Bool.not_eq_true]; simpa using hr]
      simp
theorem endFrom_at : ∀ (l : Tab) (r : Nat), rises l = true → endFrom l r = if cnt l r < l.length then (l.getD (cnt l r) (0, 0)).1 - 1 else 1114111
  | [], r, _ => by simp [endFrom, cnt]
  | e :: t, r, h => by
    unfold endFrom
    by_cases hr : e.1 ≤ r
    · rw [cnt_cons hr, show Nat.ble e.1 r = true by simpa using hr, endFrom_at t r (rises_tail h)]
      simp
    · rw [cnt_zero h (by omega), show Nat.ble e.1 r = false by rw [← Bool.not_eq_true]; simpa using hr]
      simp
theorem cnt_le (l : Tab) (r : Nat) : cnt l r ≤ l.length := List.countP_le_length

/-- of some numbers, one being 0, the greatest that is not beyond r -/
theorem greatest (B : List Nat) (h0 : 0 ∈ B) (r : Nat) : ∃ a ∈ B, a ≤ r ∧ ∀ b ∈ B, b ≤ r → b ≤ a := by
  have key : ∀ n, n ≤ r → (∃ a ∈ B, a ≤ n) → ∃ a ∈ B, a ≤ n ∧ ∀ b ∈ B, b ≤ n → b ≤ a := by
    intro n
    induction n with
    | zero =>
      rintro _ ⟨a, ha, hz⟩
      exact ⟨a, ha, hz, fun b _ hb => by omega⟩
    | succ n ih =>
      rintro hn ⟨a, ha, hz⟩
      by_cases hs : n + 1 ∈ B
      · exact ⟨n + 1, hs, Nat.le_refl _, fun b _ hb => hb⟩
      · obtain ⟨a', h1, h2, h3⟩ := ih (by omega) ⟨0, h0, Nat.zero_le _⟩
        refine ⟨a', h1, by omega, fun b hb hb' => ?_⟩
        rcases Nat.lt_or_ge n b with h | h
        · obtain rfl : b = n + 1 := by omega
          exact absurd hb hs
        · exact h3 b hb h
  exact key r (Nat.le_refl _) ⟨0, h0, Nat.zero_le _⟩

/-- all borders of the table are among B -/
def among (l : Tab) (B : List Nat) : Bool := l.all fun e => B.any fun b => Nat.beq b e.1
theorem among_mem {l : Tab} {B : List Nat} (h : among l B = true) {e : Nat × Nat} (he : e ∈ l) : e.1 ∈ B := by
  have := List.all_eq_true.1 h e he
  obtain ⟨b, hb, hq⟩ := List.any_eq_true.1 this
  rwa [show b = e.1 from Nat.eq_of_beq_eq_true hq] at hb
theorem clsFrom_same : ∀ (l : Tab) (c a r : Nat), (∀ e ∈ l, e.1 ≤ a ↔ e.1 ≤ r) → clsFrom l c r = clsFrom l c a
  | [], _, _, _, _ => rfl
  | e :: t, c, a, r, h => by
    unfold clsFrom
    have h1 : Nat.ble e.1 r = Nat.ble e.1 a := by
      rw [Bool.eq_iff_iff]
      simpa using (h e (by simp)).symm
    rw [h1, clsFrom_same t e.2 a r (fun x hx => h x (by simp [hx]))]
theorem cls_same {l : Tab} {B : List Nat} (hl : among l B = true) {a r : Nat} (ha : a ≤ r) (hg : ∀ b ∈ B, b ≤ r → b ≤ a) : cls l r = cls l a :=
  clsFrom_same l 0 a r fun _ he => ⟨fun h => Nat.le_trans h ha, fun h => hg _ (among_mem hl he) h⟩

/-- a switch over stretches: the first row that has the number counts -/
abbrev Rows := List (List (Nat × Nat) × Nat)
def hasRow (l : List (Nat × Nat)) (r : Nat) : Bool := l.any fun e => Nat.ble e.1 r && Nat.ble r e.2
def firstRow : Rows → Nat → Nat → Nat
  | [], c, _ => c
  | e :: t, c, r => bif hasRow e.1 r then e.2 else firstRow t c r
def amongRow (l : List (Nat × Nat)) (B : List Nat) : Bool := l.all fun e => (B.any fun b => Nat.beq b e.1) && B.any fun b => Nat.beq b (e.2 + 1)
theorem mem_beq {B : List Nat} {n : Nat} (h : (B.any fun b => Nat.beq b n) = true) : n ∈ B := by
  obtain ⟨b, hb, hq⟩ := List.any_eq_true.1 h
  rwa [show b = n from Nat.eq_of_beq_eq_true hq] at hb
theorem hasRow_same {l : List (Nat × Nat)} {B : List Nat} (hl : amongRow l B = true) {a r : Nat} (ha : a ≤ r) (hg : ∀ b ∈ B, b ≤ r → b ≤ a) : hasRow l r = hasRow l a := by
  unfold hasRow
  rw [Bool.eq_iff_iff]
  simp only [List.any_eq_true]
  refine exists_congr fun e => and_congr_right fun he => ?_
  have hm := List.all_eq_true.1 hl _ he
  rw [Bool.and_eq_true] at hm
  have h1 := hg _ (mem_beq hm.1)
  have h2 := hg _ (mem_beq hm.2)
  simp only [Bool.and_eq_true, Nat.ble_eq]
  constructor <;> rintro ⟨x, y⟩ <;> refine ⟨by omega, ?_⟩
  · omega
  · rcases Nat.lt_or_ge e.2 r with h | h
    · have := h2 h; omega
    · exact h
theorem firstRow_same {B : List Nat} {a r : Nat} (ha : a ≤ r) (hg : ∀ b ∈ B, b ≤ r → b ≤ a) : ∀ (l : Rows) (c : Nat), (l.all fun e => amongRow e.1 B) = true → firstRow l c r = firstRow l c a
  | [], _, _ => rfl
  | e :: t, c, h => by
    simp only [List.all_cons, Bool.and_eq_true] at h
    unfold firstRow
    rw [hasRow_same h.1 ha hg, firstRow_same ha hg t c h.2]
end Go.Proofs.YtiafofekobcifaaDoor

/- A switch over stretches of numbers, whatever the number of its cases: its code as a function of its rows, walked by induction; a frame is known by its size and by what it holds. -/
namespace Go.Proofs.YtiafofekobcifaaDoor
open Go.Great

section
variable {P : Program}

/-- what is known of a frame between two tests: its size, its deferred calls, the number that is asked -/
structure Asked (n r : Nat) (a : Act) : Prop where
  size : a.tmps.size = n
  defers : a.defers = []
  num : a.eval (.tmp 0) = .int .i32 (r : Int)
theorem Asked.put {n r : Nat} {a : Act} (h : Asked n r a) {d : Nat} (v : Value) (hd : d ≠ 0) : Asked n r (a.put (some d) v) :=
  ⟨(Act.size_put ..).trans h.size, (Act.defers_put' ..).trans h.defers, by rw [Act.eval_put_ne _ _ _ _ hd]; exact h.num⟩

theorem run_move {ρ : Operand → Value} {o : Oper} {w : World} {x : Operand} {v : Value} (ho : o.op = .move x) (hx : ρ x = v) : (execOp ρ o).run P w = .ok (.value v) w := by
  simp [execOp, ho, hx]
theorem run_assign {ρ : Operand → Value} {o : Oper} {w : World} {x : Operand} {v : Value} (ho : o.op = .assign x) (hx : ρ x = v) : (execOp ρ o).run P w = .ok (.value v) w := by
  simp [execOp, ho, hx]
theorem run_geq {ρ : Operand → Value} {o : Oper} {w : World} {t u : TypeId} {x y : Operand} {k : IntKind} {p q : Int} (ho : o.op = .binOp .geq t x y u) (hx : ρ x = .int k p) (hy : ρ y = .int k q) :
    (execOp ρ o).run P w = .ok (.value (.bool (decide (q ≤ p)))) w := by
  simp [execOp, ho, hx, hy, eqGuard, binOp_geq]
theorem run_leq {ρ : Operand → Value} {o : Oper} {w : World} {t u : TypeId} {x y : Operand} {k : IntKind} {p q : Int} (ho : o.op = .binOp .leq t x y u) (hx : ρ x = .int k p) (hy : ρ y = .int k q) :
    (execOp ρ o).run P w = .ok (.value (.bool (decide (p ≤ q)))) w := by
  simp [execOp, ho, hx, hy, eqGuard, binOp_leq]
theorem run_eql {ρ : Operand → Value} {o : Oper} {w : World} {t u : TypeId} {x y : Operand} {k : IntKind} {p q : Int} (ho : o.op = .binOp .eql t x y u) (hx : ρ x = .int k p) (hy : ρ y = .int k q) :
    (execOp ρ o).run P w = .ok (.value (.bool (p == q))) w := by
  simp [execOp, ho, hx, hy, eqGuard, binOp_eql]
theorem run_pick {ρ : Operand → Value} {o : Oper} {w : World} {c x y : Operand} {b : Bool} {v : Value} (ho : o.op = .pick c x y) (hc : ρ c = .bool b) (hx : (if b then ρ x else ρ y) = v) :
    (execOp ρ o).run P w = .ok (.value v) w := by
  subst hx
  cases b <;> simp [execOp, ho, hc, asBool]

/-- one case's operations -/
def opsOf (tR tB : TypeId) (pos : String) (d T : Nat) (e : Nat × Nat) : List Oper :=
  bif Nat.beq e.1 0 then
    [{ dst := some d, op := .move (.tmp 0), type := tR, pos := pos, after := #[], guard := none },
     { dst := some (d + 1), op := .binOp .leq tR (.tmp d) (.const (.int .i32 e.2)) tR, type := tB, pos := pos, after := #[⟨0, .data⟩], guard := none },
     { dst := some T, op := .assign (.tmp (d + 1)), type := tB, pos := pos, after := #[⟨1, .data⟩], guard := none }]
  else bif Nat.beq e.1 e.2 then
    [{ dst := some d, op := .move (.tmp 0), type := tR, pos := pos, after := #[], guard := none },
     { dst := some (d + 1), op := .binOp .eql tR (.tmp d) (.const (.int .i32 e.2)) tR, type := tB, pos := pos, after := #[⟨0, .data⟩], guard := none },
     { dst := some T, op := .assign (.tmp (d + 1)), type := tB, pos := pos, after := #[⟨1, .data⟩], guard := none }]
  else
    [{ dst := some d, op := .move (.tmp 0), type := tR, pos := pos, after := #[], guard := none },
     { dst := some (d + 1), op := .binOp .geq tR (.tmp d) (.const (.int .i32 e.1)) tR, type := tB, pos := pos, after := #[⟨0, .data⟩], guard := none },
     { dst := some (d + 2), op := .move (.tmp (d + 1)), type := tB, pos := pos, after := #[⟨1, .data⟩], guard := none },
     { dst := some (d + 3), op := .move (.tmp 0), type := tR, pos := pos, after := #[⟨2, .guard⟩], guard := some (2, true) },
     { dst := some (d + 4), op := .binOp .leq tR (.tmp (d + 3)) (.const (.int .i32 e.2)) tR, type := tB, pos := pos, after := #[⟨3, .data⟩, ⟨2, .guard⟩], guard := some (2, true) },
     { dst := some (d + 5), op := .pick (.tmp (d + 2)) (.tmp (d + 4)) (.const (.bool false)), type := tB, pos := pos, after := #[⟨2, .data⟩, ⟨4, .data⟩], guard := none },
     { dst := some T, op := .assign (.tmp (d + 5)), type := tB, pos := pos, after := #[⟨5, .data⟩, ⟨2, .chain⟩], guard := none }]
def wid (e : Nat × Nat) : Nat := bif Nat.beq e.1 0 || Nat.beq e.1 e.2 then 2 else 6

/-- a guarded operation that is wanted, and one that is not -/
theorem wpList_wanted {ops : Array Oper} {rest : List Oper} {o : Oper} {a : Act} {w : World} {Q : Exit → Act → World → Prop} (hg : Region.wanted o (yielded ops a.tmps) = true) (dst : Option Tmp) (hdst : o.dst = dst)
    (v : Value) (hrun : (execOp a.eval o).run P w = .ok (.value v) w) (h : wpList P ops Q rest (a.put dst v) w) : wpList P ops Q (o :: rest) a w := by
  subst hdst
  refine wpList_step fun K hK => ?_
  rw [if_pos hg]
  unfold Oper.wp
  rw [hrun, Oper.upon_value]
  exact hK _ _ h
theorem wpList_unwanted {ops : Array Oper} {rest : List Oper} {o : Oper} {a : Act} {w : World} {Q : Exit → Act → World → Prop} (hg : Region.wanted o (yielded ops a.tmps) = false) (dst : Option Tmp) (hdst : o.dst = dst)
    (h : wpList P ops Q rest (a.put dst undef) w) : wpList P ops Q (o :: rest) a w := by
  subst hdst
  refine wpList_step fun K hK => ?_
  rw [if_neg (by rw [hg]; simp)]
  exact hK _ _ h
theorem eval_some {a : Act} {d : Nat} {v : Value} (h : d < a.tmps.size) (he : a.eval (.tmp d) = v) : a.tmps[d]? = some v := by
  rw [Array.getElem?_eq_getElem h]
  simp [Act.eval, Array.getD, h] at he
  rw [he]

theorem wp_case {tR tB : TypeId} {pos : String} {id d T n r : Nat} {e : Nat × Nat} {a : Act} {w : World} {Q : Exit → Act → World → Prop} (h : Asked n r a) (hd : T < d) (hT : 2 < T) (hn : d + wid e ≤ n)
    (k : ∀ a', Asked n r a' → a'.eval (.tmp T) = .bool (Nat.ble e.1 r && Nat.ble r e.2) → Q .normal a' w) : (Code.region id (opsOf tR tB pos d T e).toArray false).wp P Q a w := by
  apply wp_region_lit
  unfold opsOf
  unfold wid at hn
  cases h0 : Nat.beq e.1 0 with
  | true =>
    have e0 : e.1 = 0 := Nat.eq_of_beq_eq_true h0
    simp only [h0, cond_true, Bool.true_or] at hn ⊢
    refine wpList_readTo rfl (some d) rfl _ (run_move rfl h.num) ?_
    have h1 := h.put (d := d) (.int .i32 (r : Int)) (by omega)
    refine wpList_readTo rfl (some (d + 1)) rfl _ (run_leq rfl (Act.eval_put_same _ _ _ (by rw [h.size]; omega)) rfl) ?_
    have h2 := h1.put (d := d + 1) (.bool (decide ((r : Int) ≤ (e.2 : Int)))) (by omega)
    refine wpList_readTo rfl (some T) rfl _ (run_assign rfl (Act.eval_put_same _ _ _ (by rw [h1.size]; omega))) ?_
    refine k _ (h2.put _ (by omega)) ?_
    rw [Act.eval_put_same _ _ _ (by rw [h2.size]; omega), e0]
    congr 1
    rw [Bool.eq_iff_iff]
    simp
  | false =>
    simp only [h0, cond_false, Bool.false_or] at hn ⊢
    cases h1 : Nat.beq e.1 e.2 with
    | true =>
      have e1 : e.1 = e.2 := Nat.eq_of_beq_eq_true h1
      simp only [h1, cond_true] at hn ⊢
      refine wpList_readTo rfl (some d) rfl _ (run_move rfl h.num) ?_
      have h1 := h.put (d := d) (.int .i32 (r : Int)) (by omega)
      refine wpList_readTo rfl (some (d + 1)) rfl _ (run_eql rfl (Act.eval_put_same _ _ _ (by rw [h.size]; omega)) rfl) ?_
      have h2 := h1.put (d := d + 1) (.bool ((r : Int) == (e.2 : Int))) (by omega)
      refine wpList_readTo rfl (some T) rfl _ (run_assign rfl (Act.eval_put_same _ _ _ (by rw [h1.size]; omega))) ?_
      refine k _ (h2.put _ (by omega)) ?_
      rw [Act.eval_put_same _ _ _ (by rw [h2.size]; omega), e1]
      congr 1
      rw [Bool.eq_iff_iff]
      simp
      omega
    | false =>
      simp only [h1, cond_false] at hn ⊢
      refine wpList_readTo rfl (some d) rfl _ (run_move rfl h.num) ?_
      have h1 := h.put (d := d) (.int .i32 (r : Int)) (by omega)
      refine wpList_readTo rfl (some (d + 1)) rfl _ (run_geq rfl (Act.eval_put_same _ _ _ (by rw [h.size]; omega)) rfl) ?_
      have h2 := h1.put (d := d + 1) (.bool (decide ((e.1 : Int) ≤ (r : Int)))) (by omega)
      refine wpList_readTo rfl (some (d + 2)) rfl _ (run_move rfl (Act.eval_put_same _ _ _ (by rw [h1.size]; omega))) ?_
      have h3 := h2.put (d := d + 2) (.bool (decide ((e.1 : Int) ≤ (r : Int)))) (by omega)
      have g2 := Act.eval_put_same ((a.put (some d) (.int .i32 (r : Int))).put (some (d + 1)) (.bool (decide ((e.1 : Int) ≤ (r : Int))))) (d + 2) (.bool (decide ((e.1 : Int) ≤ (r : Int)))) (by rw [h2.size]; omega)
      revert h3 g2
      generalize ((a.put (some d) (.int .i32 (r : Int))).put (some (d + 1)) (.bool (decide ((e.1 : Int) ≤ (r : Int))))).put (some (d + 2)) (.bool (decide ((e.1 : Int) ≤ (r : Int)))) = b
      intro h3 g2
      have gs := eval_some (by rw [h3.size]; omega) g2
      by_cases hlo : e.1 ≤ r
      · have hlo' : decide ((e.1 : Int) ≤ (r : Int)) = true := by simpa using hlo
        rw [hlo'] at g2 gs
        refine wpList_wanted (by simp [Region.wanted, yielded, gs]) (some (d + 3)) rfl _ (run_move rfl h3.num) ?_
        have h4 := h3.put (d := d + 3) (.int .i32 (r : Int)) (by omega)
        have gs' := eval_some (d := d + 2) (v := .bool true) (by rw [h4.size]; omega) (by rw [Act.eval_put_ne _ _ _ _ (by omega)]; exact g2)
        refine wpList_wanted (by simp [Region.wanted, yielded, gs']) (some (d + 4)) rfl _ (run_leq rfl (Act.eval_put_same _ _ _ (by rw [h3.size]; omega)) rfl) ?_
        have h5 := h4.put (d := d + 4) (.bool (decide ((r : Int) ≤ (e.2 : Int)))) (by omega)
        refine wpList_readTo rfl (some (d + 5)) rfl (.bool (decide ((r : Int) ≤ (e.2 : Int)))) (run_pick rfl (b := true) (by rw [Act.eval_put_ne _ _ _ _ (by omega), Act.eval_put_ne _ _ _ _ (by omega)]; exact g2) (by simp only [if_true]; exact Act.eval_put_same _ _ _ (by rw [h4.size]; omega))) ?_
        have h6 := h5.put (d := d + 5) (.bool (decide ((r : Int) ≤ (e.2 : Int)))) (by omega)
        refine wpList_readTo rfl (some T) rfl _ (run_assign rfl (Act.eval_put_same _ _ _ (by rw [h5.size]; omega))) ?_
        refine k _ (h6.put _ (by omega)) ?_
        rw [Act.eval_put_same _ _ _ (by rw [h6.size]; omega)]
        congr 1
        rw [Bool.eq_iff_iff]
        simp
        omega
      · have hlo' : decide ((e.1 : Int) ≤ (r : Int)) = false := by simpa using hlo
        rw [hlo'] at g2 gs
        refine wpList_unwanted (by simp [Region.wanted, yielded, gs]) (some (d + 3)) rfl ?_
        have h4 := h3.put (d := d + 3) undef (by omega)
        have gs' := eval_some (d := d + 2) (v := .bool false) (by rw [h4.size]; omega) (by rw [Act.eval_put_ne _ _ _ _ (by omega)]; exact g2)
        refine wpList_unwanted (by simp [Region.wanted, yielded, gs']) (some (d + 4)) rfl ?_
        have h5 := h4.put (d := d + 4) undef (by omega)
        refine wpList_readTo rfl (some (d + 5)) rfl (.bool false) (run_pick rfl (b := false) (by rw [Act.eval_put_ne _ _ _ _ (by omega), Act.eval_put_ne _ _ _ _ (by omega)]; exact g2) rfl) ?_
        have h6 := h5.put (d := d + 5) (.bool false) (by omega)
        refine wpList_readTo rfl (some T) rfl _ (run_assign rfl (Act.eval_put_same _ _ _ (by rw [h5.size]; omega))) ?_
        refine k _ (h6.put _ (by omega)) ?_
        rw [Act.eval_put_same _ _ _ (by rw [h6.size]; omega)]
        congr 1
        rw [Bool.eq_iff_iff]
        simp
        omega

/-- the cases of one row -/
def casesCode (tR tB : TypeId) (pos : String) (T : Nat) : Nat → Nat → List (Nat × Nat) → Code
  | _, _, [] => .skip
  | d, id, [e] => .region id (opsOf tR tB pos d T e).toArray false
  | d, id, e :: e' :: t => (Code.region id (opsOf tR tB pos d T e).toArray false).seq (.cond (.tmp T) .skip (casesCode tR tB pos T (d + wid e) (id + 1) (e' :: t)))
def wids : List (Nat × Nat) → Nat
  | [] => 0
  | e :: t => wid e + wids t
theorem wp_cases {tR tB : TypeId} {pos : String} {T n r : Nat} {w : World} {Q : Exit → Act → World → Prop} (hT : 2 < T) :
    ∀ (l : List (Nat × Nat)) (d id : Nat) (a : Act), l ≠ [] → Asked n r a → T < d → d + wids l ≤ n → (∀ a', Asked n r a' → a'.eval (.tmp T) = .bool (hasRow l r) → Q .normal a' w) → (casesCode tR tB pos T d id l).wp P Q a w
  | [], _, _, _, h0, _, _, _, _ => absurd rfl h0
  | [e], d, id, a, _, h, hd, hn, k => by
    refine wp_case h hd hT (by simpa [wids] using hn) fun a' h' hv => k a' h' ?_
    rw [hv]
    simp [hasRow]
  | e :: e' :: t, d, id, a, _, h, hd, hn, k => by
    have hn' : d + (wid e + wids (e' :: t)) ≤ n := hn
    refine wp_seq (wp_case h hd hT (by omega) fun a' h' hv => ?_)
    refine wp_cond_split hv (fun ht => wp_skip (k a' h' ?_)) (fun hf => wp_cases hT (e' :: t) _ _ a' (by simp) h' (by omega) (by omega) fun b hb hbv => k b hb ?_)
    · rw [hv, ht]
      simp [hasRow, ht]
    · rw [hbv]
      have : hasRow (e :: e' :: t) r = (Nat.ble e.1 r && Nat.ble r e.2 || hasRow (e' :: t) r) := rfl
      rw [this, hf, Bool.false_or]

/-- the rows, one behind the other: where the test stands, where the answer stands, the cases, the answer -/
abbrev SRows := List (String × String × List (Nat × Nat) × Nat)
def rowsCode (tR tB tV : TypeId) (kV : IntKind) : Nat → Nat → SRows → Code
  | _, _, [] => .skip
  | T, id, (p, q, l, v) :: t =>
    (casesCode tR tB p T (T + 1) id l).seq
      (.cond (.tmp T) ((Code.region (id + l.length) #[{ dst := some 2, op := .assign (.const (.int kV v)), type := tV, pos := q, after := #[], guard := none }] false).seq .ret)
        (rowsCode tR tB tV kV (T + 1 + wids l) (id + l.length + 1) t))
def rowsWid : SRows → Nat
  | [] => 0
  | x :: t => 1 + wids x.2.2.1 + rowsWid t
def plainRows (s : SRows) : Rows := s.map fun x => (x.2.2.1, x.2.2.2)
def hitRow : Rows → Nat → Option Nat
  | [], _ => none
  | e :: t, r => bif hasRow e.1 r then some e.2 else hitRow t r
theorem firstRow_hit : ∀ (l : Rows) (c r : Nat), firstRow l c r = (hitRow l r).getD c
  | [], _, _ => rfl
  | e :: t, c, r => by
    unfold firstRow hitRow
    cases hasRow e.1 r with
    | true => rfl
    | false => exact firstRow_hit t c r
theorem wp_rows {tR tB tV : TypeId} {kV : IntKind} {n r : Nat} {w : World} {Q : Exit → Act → World → Prop} :
    ∀ (l : SRows) (T id : Nat) (a : Act), (l.all fun x => !x.2.2.1.isEmpty) = true → 2 < T → Asked n r a → T + rowsWid l ≤ n →
      (∀ a' v, Asked n r a' → hitRow (plainRows l) r = some v → a'.eval (.tmp 2) = .int kV (v : Int) → Q .ret a' w) → (∀ a', Asked n r a' → hitRow (plainRows l) r = none → Q .normal a' w) →
      (rowsCode tR tB tV kV T id l).wp P Q a w
  | [], _, _, a, _, _, h, _, _, k => wp_skip (k a h rfl)
  | (p, q, l, v) :: t, T, id, a, h0, hT, h, hn, hr, k => by
    simp only [List.all_cons, Bool.and_eq_true] at h0
    have hn' : T + (1 + wids l + rowsWid t) ≤ n := hn
    refine wp_seq (wp_cases hT l (T + 1) id a (by intro e; simp [e] at h0) h (by omega) (by omega) fun a' h' hv => ?_)
    refine wp_cond_split hv (fun ht => ?_) (fun hf => ?_)
    · refine wp_seq (wp_region_list ?_)
      refine wpList_readTo rfl (some 2) rfl _ (run_assign rfl rfl) ?_
      refine wp_ret (hr _ v (h'.put _ (by omega)) ?_ (Act.eval_put_same _ _ _ (by rw [h'.size]; omega)))
      show (bif hasRow l r then some v else hitRow (plainRows t) r) = some v
      rw [ht]; rfl
    · have hh : hitRow (plainRows ((p, q, l, v) :: t)) r = hitRow (plainRows t) r := by
        show (bif hasRow l r then some v else hitRow (plainRows t) r) = hitRow (plainRows t) r
        rw [hf]; rfl
      exact wp_rows t _ _ a' h0.2 (by omega) h' (by omega) (fun b u hb hu => hr b u hb (hh.trans hu)) (fun b hb hu => k b hb (hh.trans hu))

/-- the whole function: 'r = known(r); switch { .. }; return d' -/
def switchCode (tR tB tV : TypeId) (kV : IntKind) (known : FuncId) (p0 p1 pd : String) (z : Int) (rid : Nat) (l : SRows) (d : Nat) : Code :=
  (Code.region 0 #[{ dst := some 2, op := .assign (.const (.int kV z)), type := tV, pos := p0, after := #[], guard := none }] false).seq
    ((Code.region 1 #[{ dst := some 3, op := .move (.tmp 0), type := tR, pos := p1, after := #[], guard := none },
        { dst := some 4, op := .call { callee := .value (.func known), args := #[.tmp 3], argTypes := #[tR] }, type := tR, pos := p1, after := #[⟨0, .data⟩], guard := none },
        { dst := some 0, op := .assign (.tmp 4), type := tR, pos := p1, after := #[⟨1, .data⟩, ⟨1, .chain⟩, ⟨0, .phase⟩, ⟨1, .phase⟩], guard := none }] false).seq
      ((Code.block 0 (rowsCode tR tB tV kV 5 2 l)).seq
        ((Code.region rid #[{ dst := some 2, op := .assign (.const (.int kV d)), type := tV, pos := pd, after := #[], guard := none }] false).seq .ret)))

/-- THE CONTRACT: at what 'known' makes of the number, the first row's answer -/
theorem switch_calls {tR tB tV : TypeId} {kV : IntKind} {known f : FuncId} {fn : Func} {p0 p1 pd : String} {z : Int} {rid : Nat} {l : SRows} {d : Nat} (hf : P.funcs[f]? = some fn)
    (hb : fn.body = some (switchCode tR tB tV kV known p0 p1 pd z rid l d)) (hres : fn.results = #[.tmp 2]) (hl : (l.all fun x => !x.2.2.1.isEmpty) = true) (hn : 5 + rowsWid l ≤ fn.ntmps)
    (x : Int) (r : Nat) (w : World) (hk : Calls P known #[.int .i32 x] w fun e w' => e = .returned (.int .i32 (r : Int)) ∧ w' = w)
    (hen : ∀ ρ : Operand → Value, ρ (.tmp 3) = .int .i32 x → ρ (.func known) = .func (.func known) #[] #[] → (execOp ρ { dst := some 4, op := .call { callee := .value (.func known), args := #[.tmp 3], argTypes := #[tR] }, type := tR, pos := p1, after := #[⟨0, .data⟩], guard := none }).run P w = .ok (.enter known #[.int .i32 x]) w) :
    Calls P f #[.int .i32 x] w fun e w' => e = .returned (.int kV (firstRow (plainRows l) d r : Nat)) ∧ w' = w := by
  refine calls_of_wp hf hb ?_
  have hs0 : (#[Value.int .i32 x] ++ Array.replicate (fn.ntmps - (#[Value.int .i32 x] : Array Value).size) undef).size = fn.ntmps := by simp; omega
  have he0 : ({ tmps := #[Value.int .i32 x] ++ Array.replicate (fn.ntmps - (#[Value.int .i32 x] : Array Value).size) undef, defers := [] } : Act).eval (.tmp 0) = .int .i32 x := by simp [Act.eval, Array.getD]
  obtain ⟨a, ha⟩ : ∃ a : Act, a = { tmps := #[Value.int .i32 x] ++ Array.replicate (fn.ntmps - (#[Value.int .i32 x] : Array Value).size) undef, defers := [] } := ⟨_, rfl⟩
  have hsa : a.tmps.size = fn.ntmps := by rw [ha]; exact hs0
  have hda : a.defers = [] := by rw [ha]
  rw [← ha] at he0 ⊢
  clear ha hs0
  unfold switchCode
  refine wp_seq (wp_region_list ?_)
  refine wpList_readTo rfl (some 2) rfl _ (run_assign rfl rfl) ?_
  refine wp_seq (wp_region_list ?_)
  refine wpList_readTo rfl (some 3) rfl (.int .i32 x) (run_move rfl (by rw [Act.eval_put_ne _ _ _ _ (by omega)]; exact he0)) ?_
  refine wpList_callTo rfl (some 4) rfl known #[.int .i32 x] (hen _ (Act.eval_put_same _ _ _ (by rw [Act.size_put, hsa]; omega)) rfl) (.int .i32 (r : Int)) w hk ?_
  refine wpList_readTo rfl (some 0) rfl (.int .i32 (r : Int)) (run_assign rfl (Act.eval_put_same _ _ _ (by rw [Act.size_put, Act.size_put, hsa]; omega))) ?_
  have hA : Asked fn.ntmps r ((((a.put (some 2) (.int kV z)).put (some 3) (.int .i32 x)).put (some 4) (.int .i32 (r : Int))).put (some 0) (.int .i32 (r : Int))) :=
    ⟨by simp only [Act.size_put, hsa], by simp only [Act.defers_put', hda], Act.eval_put_same _ _ _ (by simp only [Act.size_put, hsa]; omega)⟩
  have hrun : ∀ a' : Act, (results fn a'.tmps).run P w = .ok (a'.eval (.tmp 2)) w := fun a' => by
    rw [results_tmp hres]; rfl
  refine wp_seq (wp_block (wp_rows l 5 2 _ hl (by omega) hA (by omega) (fun a' v h' hv he => ?_) (fun a' h' hv => ?_)))
  · show bodyPost P fn (fun e w' => e = .returned (.int kV (firstRow (plainRows l) d r : Nat)) ∧ w' = w) .ret a' w
    refine bodyPost_ret (hrun a') h'.defers ?_
    rw [he, firstRow_hit, hv]
    exact ⟨rfl, rfl⟩
  · refine wp_seq (wp_region_list ?_)
    refine wpList_readTo rfl (some 2) rfl _ (run_assign rfl rfl) ?_
    refine wp_ret (bodyPost_ret (hrun _) (by rw [Act.defers_put']; exact h'.defers) ?_)
    rw [Act.eval_put_same _ _ _ (by rw [h'.size]; omega), firstRow_hit, hv]
    exact ⟨rfl, rfl⟩
end
end Go.Proofs.YtiafofekobcifaaDoor

/- A function that lays a table of stretches as a literal array and has it sought: its code as a function of the table, walked by induction, whatever the table's length. -/
namespace Go.Proofs.YtiafofekobcifaaDoor
open Go.Great Go.RowKit

section
variable {P : Program}

/-- a stretch's two cells; a table's -/
def stCells (e : Nat × Nat) : List Value := [.int .i32 (e.1 : Int), .int .u8 (e.2 : Int)]
def tabCells (L : Tab) : List Value := L.flatMap stCells
def stOp (tE : TypeId) (pos : String) (d : Nat) (e : Nat × Nat) : Oper :=
  { dst := some d, op := .build tE #[(0, .const (.int .i32 (e.1 : Int))), (1, .const (.int .u8 (e.2 : Int)))], type := tE, pos := pos, after := #[], guard := none }
def stOps (tE : TypeId) (pos : String) : Nat → Tab → List Oper
  | _, [] => []
  | d, e :: t => stOp tE pos d e :: stOps tE pos (d + 1) t

structure TabTypes (P : Program) (tE tA tS : TypeId) (n : Nat) : Prop where
  built : ∀ x y : Int, P.built tE [(0, .int .i32 x), (1, .int .u8 y)] = some #[.int .i32 x, .int .u8 y]
  uA : P.underlying tA = some (.array n tE)
  sE : (P.info? tE).map (·.size) = some 2
  iA : (P.info? tA).map (·.size) = some (n * 2)
  zA : ((P.info? tA).bind (·.zero)).map (·.cells.size) = some (n * 2)

theorem wpList_sts {ops : Array Oper} {rest : List Oper} {w : World} {Q : Exit → Act → World → Prop} {tE tA tS : TypeId} {m : Nat} (hP : TabTypes P tE tA tS m) (pos : String) :
    ∀ (L : Tab) (d : Nat) (a : Act), d + L.length ≤ a.tmps.size →
      (∀ a' : Act, a'.tmps.size = a.tmps.size → a'.defers = a.defers → (∀ i (h : i < L.length), a'.eval (.tmp (d + i)) = .agg (stCells L[i]).toArray) → (∀ j, j < d → a'.eval (.tmp j) = a.eval (.tmp j)) → wpList P ops Q rest a' w) →
      wpList P ops Q (stOps tE pos d L ++ rest) a w
  | [], d, a, _, h => h a rfl rfl (fun i hi => absurd hi (by simp)) (fun _ _ => rfl)
  | e :: t, d, a, hd, h => by
    have hlt : d < a.tmps.size := by simp at hd; omega
    show wpList P ops Q (stOp tE pos d e :: (stOps tE pos (d + 1) t ++ rest)) a w
    refine wpList_buildTo rfl tE _ rfl (some d) rfl (stCells e).toArray (by simpa [Act.eval, stCells] using hP.built e.1 e.2) ?_
    refine wpList_sts hP pos t (d + 1) _ (by rw [Act.size_put]; simp at hd; omega) fun a' hs hdf hev hlow => ?_
    refine h a' (hs.trans (Act.size_put _ _ _)) (hdf.trans (Act.defers_put' _ _ _)) (fun i hi => ?_) (fun j hj => ?_)
    · cases i with
      | zero => rw [Nat.add_zero, hlow d (by omega), Act.eval_put_same _ _ _ hlt]; rfl
      | succ i =>
        have := hev i (by simpa using hi)
        rw [show d + (i + 1) = d + 1 + i by omega, this]
        rfl
    · rw [hlow j (by omega), Act.eval_put_ne _ _ _ _ (by omega)]

/-- the array over them -/
theorem built_tab {tE tA tS : TypeId} (L : Tab) (hP : TabTypes P tE tA tS L.length) (a : Act) (d : Nat) (parts : Array (Nat × Operand)) (hparts : parts.toList = (List.range L.length).map fun i => (i, Operand.tmp (d + i)))
    (hev : ∀ i (h : i < L.length), a.eval (.tmp (d + i)) = .agg (stCells L[i]).toArray) :
    P.built tA (parts.map fun (i, x) => (i, a.eval x)).toList = some (tabCells L).toArray := by
  have e1 : (parts.map fun (i, x) => (i, a.eval x)).toList = ((L.map fun x => Value.agg (stCells x).toArray).zipIdx 0).map fun x => (x.2, x.1) := by
    rw [Array.toList_map, hparts, List.map_map]
    apply List.ext_getElem
    · simp
    · intro i h1 h2
      have hi : i < L.length := by simpa using h1
      simp only [List.getElem_map, List.getElem_range, Function.comp, List.getElem_zipIdx, Nat.zero_add]
      rw [hev i hi]
  rw [e1]
  cases hie : P.info? tE with
  | none => have := hP.sE; simp [hie] at this
  | some ie =>
    cases hit : P.info? tA with
    | none => have := hP.zA; simp [hit] at this
    | some it =>
      cases hzz : it.zero with
      | none => have := hP.zA; simp [hit, hzz] at this
      | some z =>
        have hsz := hP.sE
        have hz := hP.zA
        simp only [hie, hit, hzz, Option.map_some, Option.some.injEq, Option.bind_some] at hsz hz
        unfold Program.built
        simp only [hit, hP.uA, hzz, hie]
        rw [hsz, fill_whole (s := 2) (by omega) (L.map fun x => Value.agg (stCells x).toArray) z.cells (fun v hv => by obtain ⟨x, _, rfl⟩ := List.mem_map.1 hv; rfl) (by simp [hz])]
        simp [tabCells, List.flatMap_map, Value.cells]

/-- a call by its contract, whatever world it leaves -/
theorem wpList_callBy {ops : Array Oper} {rest : List Oper} {o : Oper} {a : Act} {w : World} {Q : Exit → Act → World → Prop} (hg : o.guard = none) (d : Option Tmp) (hd : o.dst = d)
    (f : FuncId) (args : Array Value) (hrun : (execOp a.eval o).run P w = .ok (.enter f args) w) (R : Value → World → Prop)
    (hc : Calls P f args w fun e w'' => ∃ v, e = .returned v ∧ R v w'')
    (h : ∀ v w', R v w' → wpList P ops Q rest (a.put d v) w') : wpList P ops Q (o :: rest) a w := by
  subst hd
  refine wpList_plain hg fun K hK => ?_
  unfold Oper.wp
  rw [hrun, Oper.upon_enter]
  refine hc.mono fun e w'' hh => ?_
  obtain ⟨v, rfl, hR⟩ := hh
  exact hK _ _ (h v w'' hR)
theorem run_call {ρ : Operand → Value} {o : Oper} {w : World} {c : Call} {g : FuncId} {args : Array Value} (ho : o.op = .call c) (hc : c.callee = .value (.func g)) (ha : c.args.map ρ = args) (hf : ρ (.func g) = .func (.func g) #[] #[])
    (hen : (callFunc g args).run P w = .ok (.enter g args) w) : (execOp ρ o).run P w = .ok (.enter g args) w := by
  subst ha
  simp [execOp, ho, resolve, hc, hf, Deferred.ofValue, invoke, hen]
theorem run_extract {ρ : Operand → Value} {o : Oper} {w : World} {t : Operand} {i : Nat} {vs : Array Value} {v : Value} (ho : o.op = .extract t i) (ht : ρ t = .tuple vs) (hv : vs[i]? = some v) :
    (execOp ρ o).run P w = .ok (.value v) w := by
  simp [execOp, ho, ht, Instr.extract, hv]
theorem run_slice_all {ρ : Operand → Value} {o : Oper} {w : World} {tA tE : TypeId} {x : Operand} {b n : Nat} (ho : o.op = .slice tA x none none none) (hx : ρ x = .pointer (some ⟨b, 0, none⟩)) (hu : P.underlying tA = some (.array n tE)) (hs : (P.info? tE).map (·.size) = some 2) :
    (execOp ρ o).run P w = .ok (.value (.slice (some ⟨b, 0, none⟩) n n)) w := by
  have hn : P.arrayLen tA = n := by simp [Program.arrayLen, hu]
  have he : P.elem tA = tE := by simp [Program.elem, hu]
  have hz : (sizeOf tE).run P w = .ok 2 w := by
    cases hi : P.info? tE with
    | none => simp [hi] at hs
    | some i => simp [hi] at hs; simp [sizeOf, typeInfo, hi, hs]
  have h0 : (⟨b, 0, none⟩ : Addr).add 0 = ⟨b, 0, none⟩ := rfl
  have := run_sliceAt_array_all (P := P) w tA ⟨b, 0, none⟩ (by rw [hn, he]; exact hu)
  simp only [execOp, ho, hx, Option.map_none, Sem.run_bind, this, he, hz, hn, Result.andThen_ok, slicedAt, Nat.zero_mul, h0, ite_self, Nat.sub_zero]
  rfl
theorem run_alloc {ρ : Operand → Value} {o : Oper} {w : World} {t : TypeId} {i : TypeInfo} {z : Value} (ho : o.op = .alloc t) (hi : P.info? t = some i) (hz : i.zero = some z) :
    (execOp ρ o).run P w = .ok (.value (.pointer (some ⟨w.heap.size, 0, none⟩))) (w.alloc (.cells z.cells t)) := by
  simp [execOp, ho, Instr.alloc, newVar, newRow, zeroValue, typeInfo, hi, hz]

/-- the whole function: 'list := [...]stretch{..}; return seek(list[:], r)' -/
def tableCode (tR tU tT tE tA tS : TypeId) (seek : FuncId) (p0 p1 p2 : String) (L : Tab) : Code :=
  (Code.region 0 #[{ dst := some 2, op := .assign (.const (.int .u8 0)), type := tU, pos := p0, after := #[], guard := none },
      { dst := some 3, op := .assign (.const (.int .i32 0)), type := tR, pos := p0, after := #[⟨0, .chain⟩], guard := none }] false).seq
    ((Code.region 1 (stOps tE p1 5 L ++ ([
        { dst := some (5 + L.length), op := .build tA ((List.range L.length).map fun i => (i, Operand.tmp (5 + i))).toArray, type := tA, pos := p1, after := ((List.range L.length).map fun i => ⟨i, .data⟩).toArray, guard := none },
        { dst := some 4, op := .alloc tA, type := 0, pos := p1, after := #[], guard := none },
        { dst := none, op := .store tA (.tmp 4) (.tmp (5 + L.length)), type := 0, pos := p1, after := (⟨L.length + 1, .data⟩ :: ⟨L.length, .data⟩ :: (List.range (L.length + 2)).map fun i => ⟨i, .phase⟩).toArray, guard := none }] : List Oper)).toArray false).seq
      ((Code.region 2 #[{ dst := some (6 + L.length), op := .slice tA (.tmp 4) none none none, type := tS, pos := p2, after := #[], guard := none },
          { dst := some (7 + L.length), op := .move (.tmp 0), type := tR, pos := p2, after := #[], guard := none },
          { dst := some (8 + L.length), op := .call { callee := .value (.func seek), args := #[.tmp (6 + L.length), .tmp (7 + L.length)], argTypes := #[tS, tR] }, type := tT, pos := p2, after := #[⟨0, .data⟩, ⟨1, .data⟩], guard := none },
          { dst := some (9 + L.length), op := .extract (.tmp (8 + L.length)) 0, type := tU, pos := p2, after := #[⟨2, .data⟩], guard := none },
          { dst := some (10 + L.length), op := .extract (.tmp (8 + L.length)) 1, type := tR, pos := p2, after := #[⟨2, .data⟩], guard := none },
          { dst := some 2, op := .assign (.tmp (9 + L.length)), type := tU, pos := p2, after := #[⟨3, .data⟩, ⟨2, .chain⟩, ⟨0, .phase⟩, ⟨1, .phase⟩, ⟨2, .phase⟩, ⟨3, .phase⟩, ⟨4, .phase⟩], guard := none },
          { dst := some 3, op := .assign (.tmp (10 + L.length)), type := tR, pos := p2, after := #[⟨4, .data⟩, ⟨5, .chain⟩, ⟨0, .phase⟩, ⟨1, .phase⟩, ⟨2, .phase⟩, ⟨3, .phase⟩, ⟨4, .phase⟩, ⟨5, .phase⟩], guard := none }] false).seq .ret))

/-- THE CONTRACT: what 'seek' says of the table's cells -/
theorem table_calls {tR tU tT tE tA tS : TypeId} {seek f : FuncId} {fn : Func} {p0 p1 p2 : String} {L : Tab} (hf : P.funcs[f]? = some fn)
    (hb : fn.body = some (tableCode tR tU tT tE tA tS seek p0 p1 p2 L)) (hres : fn.results = #[.tmp 2, .tmp 3]) (hn : fn.ntmps = 11 + L.length) (hP : TabTypes P tE tA tS L.length)
    (x : Int) (w : World) (c t : Int) (hen : ∀ args w, (callFunc seek args).run P w = .ok (.enter seek args) w)
    (hk : ∀ W b, Below w.heap.size w W → b < W.heap.size → w.heap.size ≤ b → (∀ i v, (tabCells L)[i]? = some v → W.cell? ⟨b, i, none⟩ = some v) →
      Calls P seek #[.slice (some ⟨b, 0, none⟩) L.length L.length, .int .i32 x] W fun e w' => e = .returned (.tuple #[.int .u8 c, .int .i32 t]) ∧ Below W.heap.size W w') :
    Calls P f #[.int .i32 x] w fun e w' => e = .returned (.tuple #[.int .u8 c, .int .i32 t]) ∧ Below w.heap.size w w' := by
  refine calls_of_wp hf hb ?_
  have he0 : ({ tmps := #[Value.int .i32 x] ++ Array.replicate (fn.ntmps - (#[Value.int .i32 x] : Array Value).size) undef, defers := [] } : Act).eval (.tmp 0) = .int .i32 x := by simp [Act.eval, Array.getD]
  obtain ⟨a, ha⟩ : ∃ a : Act, a = { tmps := #[Value.int .i32 x] ++ Array.replicate (fn.ntmps - (#[Value.int .i32 x] : Array Value).size) undef, defers := [] } := ⟨_, rfl⟩
  have hsa : a.tmps.size = 11 + L.length := by rw [ha]; simp; omega
  have hda : a.defers = [] := by rw [ha]
  rw [← ha] at he0 ⊢
  clear ha
  obtain ⟨z, hzz⟩ : ∃ z, (P.info? tA).bind (·.zero) = some z := by
    have := hP.zA
    cases hz : (P.info? tA).bind (·.zero) with
    | none => simp [hz] at this
    | some z => exact ⟨z, rfl⟩
  have hzs : z.cells.size = L.length * 2 := by have := hP.zA; rw [hzz] at this; simpa using this
  obtain ⟨it, hit, hitz⟩ : ∃ it, P.info? tA = some it ∧ it.zero = some z := by
    cases hi : P.info? tA with
    | none => simp [hi] at hzz
    | some it => exact ⟨it, rfl, by simpa [hi] using hzz⟩
  unfold tableCode
  refine wp_seq (wp_region_list ?_)
  refine wpList_readTo rfl (some 2) rfl _ (run_assign rfl rfl) ?_
  refine wpList_readTo rfl (some 3) rfl _ (run_assign rfl rfl) ?_
  refine wp_seq (wp_region_lit ?_)
  refine wpList_sts hP p1 L 5 _ (by simp only [Act.size_put, hsa]; omega) fun a1 hs1 hd1 hev1 hlow1 => ?_
  simp only [Act.size_put, hsa] at hs1
  simp only [Act.defers_put', hda] at hd1
  have h10 : a1.eval (.tmp 0) = .int .i32 x := by rw [hlow1 0 (by omega), Act.eval_put_ne _ _ _ _ (by omega), Act.eval_put_ne _ _ _ _ (by omega)]; exact he0
  refine wpList_buildTo rfl tA _ rfl (some (5 + L.length)) rfl (tabCells L).toArray (built_tab L hP a1 5 _ (by simp) hev1) ?_
  refine wpList_runTo rfl (some 4) rfl (.pointer (some ⟨w.heap.size, 0, none⟩)) (w.alloc (.cells z.cells tA)) (run_alloc rfl hit hitz) ?_
  have hcs : (tabCells L).length = L.length * 2 := by
    clear hk hb hev1 hP hn hzs hsa hs1
    induction L with
    | nil => rfl
    | cons e t ih => simp only [tabCells, List.flatMap_cons, List.length_append, List.length_cons] at ih ⊢; rw [ih]; simp [stCells]; omega
  have hg : (w.alloc (.cells z.cells tA)).heap[w.heap.size]? = some (.cells z.cells tA (0, 0)) := (MapKept.heap_alloc w _).1
  refine wpList_store_rowTo rfl tA _ _ rfl rfl w.heap.size (tabCells L).toArray (Act.eval_put_same _ _ _ (by simp only [Act.size_put, hs1]; omega)) (by rw [Act.eval_put_ne _ _ _ _ (by omega)]; exact Act.eval_put_same _ _ _ (by rw [hs1]; omega))
    tA z.cells hg (by rw [hP.iA]; simp [hcs]) (by rw [hzs]; simp [hcs]) ?_ ?_
  · rw [Array.all_eq_true_iff_forall_mem]
    intro v hv
    simp only [List.mem_toArray, tabCells, List.mem_flatMap, stCells, List.mem_cons, List.not_mem_nil, or_false] at hv
    obtain ⟨e, _, rfl | rfl⟩ := hv <;> rfl
  obtain ⟨a2, ha2⟩ : ∃ a2, a2 = (a1.put (some (5 + L.length)) (.agg (tabCells L).toArray)).put (some 4) (.pointer (some ⟨w.heap.size, 0, none⟩)) := ⟨_, rfl⟩
  have hs2 : a2.tmps.size = 11 + L.length := by rw [ha2]; simp only [Act.size_put, hs1]
  have hd2 : a2.defers = [] := by rw [ha2]; simp only [Act.defers_put', hd1]
  have h20 : a2.eval (.tmp 0) = .int .i32 x := by rw [ha2, Act.eval_put_ne _ _ _ _ (by omega), Act.eval_put_ne _ _ _ _ (by omega)]; exact h10
  have h24 : a2.eval (.tmp 4) = .pointer (some ⟨w.heap.size, 0, none⟩) := by rw [ha2]; exact Act.eval_put_same _ _ _ (by simp only [Act.size_put, hs1]; omega)
  rw [← ha2]
  clear ha2
  have hW1 : Below w.heap.size w ((w.alloc (.cells z.cells tA)).setRow w.heap.size (tabCells L).toArray) :=
    ⟨rfl, rfl, rfl, by simp, fun k hk => (setRow_other _ _ _ _ (by omega)).trans (((Below.refl w.heap.size w).alloc (Nat.le_refl _) _).block k hk)⟩
  have hWs : w.heap.size < ((w.alloc (.cells z.cells tA)).setRow w.heap.size (tabCells L).toArray).heap.size := by simp
  have hWc : ∀ i v, (tabCells L)[i]? = some v → ((w.alloc (.cells z.cells tA)).setRow w.heap.size (tabCells L).toArray).cell? ⟨w.heap.size, i, none⟩ = some v := fun i v hv => by
    rw [cell_setRow_same _ _ _ _ _ _ _ hg]
    simpa using hv
  revert hW1 hWs hWc
  generalize (w.alloc (.cells z.cells tA)).setRow w.heap.size (tabCells L).toArray = W1
  intro hW1 hWs hWc
  refine wp_seq (wp_region_list ?_)
  refine wpList_readTo rfl (some (6 + L.length)) rfl _ (run_slice_all rfl h24 hP.uA hP.sE) ?_
  refine wpList_readTo rfl (some (7 + L.length)) rfl (.int .i32 x) (run_move rfl (by rw [Act.eval_put_ne _ _ _ _ (by omega)]; exact h20)) ?_
  refine wpList_callBy rfl (some (8 + L.length)) rfl seek #[.slice (some ⟨w.heap.size, 0, none⟩) L.length L.length, .int .i32 x] (run_call rfl rfl ?_ rfl (hen _ _)) (fun v w' => v = .tuple #[.int .u8 c, .int .i32 t] ∧ Below W1.heap.size W1 w')
    ((hk W1 w.heap.size hW1 hWs (Nat.le_refl _) hWc).mono fun e w' hh => ⟨_, hh.1, rfl, hh.2⟩) ?_
  · simp only [List.map_toArray, List.map_cons, List.map_nil]
    rw [Act.eval_put_ne _ _ _ _ (by omega), Act.eval_put_same _ _ _ (by rw [hs2]; omega), Act.eval_put_same _ _ _ (by simp only [Act.size_put, hs2]; omega)]
  rintro _ w' ⟨rfl, hB⟩
  refine wpList_readTo rfl (some (9 + L.length)) rfl (.int .u8 c) (run_extract rfl (Act.eval_put_same _ _ _ (by simp only [Act.size_put, hs2]; omega)) rfl) ?_
  refine wpList_readTo rfl (some (10 + L.length)) rfl (.int .i32 t) (run_extract rfl (by rw [Act.eval_put_ne _ _ _ _ (by omega)]; exact Act.eval_put_same _ _ _ (by simp only [Act.size_put, hs2]; omega)) rfl) ?_
  refine wpList_readTo rfl (some 2) rfl (.int .u8 c) (run_assign rfl (by rw [Act.eval_put_ne _ _ _ _ (by omega)]; exact Act.eval_put_same _ _ _ (by simp only [Act.size_put, hs2]; omega))) ?_
  refine wpList_readTo rfl (some 3) rfl (.int .i32 t) (run_assign rfl (by rw [Act.eval_put_ne _ _ _ _ (by omega)]; exact Act.eval_put_same _ _ _ (by simp only [Act.size_put, hs2]; omega))) ?_
  refine wp_ret (bodyPost_ret (results_tmp2 hres _ _ _) (by simp only [Act.defers_put', hd2]) ⟨?_, ?_⟩)
  · have e2 : (((((((a2.put (some (6 + L.length)) (.slice (some ⟨w.heap.size, 0, none⟩) L.length L.length)).put (some (7 + L.length)) (.int .i32 x)).put (some (8 + L.length)) (.tuple #[.int .u8 c, .int .i32 t])).put (some (9 + L.length)) (.int .u8 c)).put (some (10 + L.length)) (.int .i32 t)).put (some 2) (.int .u8 c)).put (some 3) (.int .i32 t)).eval (.tmp 2) = .int .u8 c := by
      rw [Act.eval_put_ne _ _ _ _ (by omega)]
      exact Act.eval_put_same _ _ _ (by simp only [Act.size_put, hs2]; omega)
    have e3 : (((((((a2.put (some (6 + L.length)) (.slice (some ⟨w.heap.size, 0, none⟩) L.length L.length)).put (some (7 + L.length)) (.int .i32 x)).put (some (8 + L.length)) (.tuple #[.int .u8 c, .int .i32 t])).put (some (9 + L.length)) (.int .u8 c)).put (some (10 + L.length)) (.int .i32 t)).put (some 2) (.int .u8 c)).put (some 3) (.int .i32 t)).eval (.tmp 3) = .int .i32 t :=
      Act.eval_put_same _ _ _ (by simp only [Act.size_put, hs2]; omega)
    simp only [Act.eval] at e2 e3
    rw [e2, e3]
  · exact hW1.trans ⟨hB.os, hB.tape, hB.output, hB.size, fun k hk => hB.block k (by omega)⟩
end
end Go.Proofs.YtiafofekobcifaaDoor
