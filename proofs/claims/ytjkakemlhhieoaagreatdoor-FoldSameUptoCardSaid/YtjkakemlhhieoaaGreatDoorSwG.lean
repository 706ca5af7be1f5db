/- Tables of stretches, without the program: what a table says of a number, and how a property of all numbers is settled at the borders alone. -/
import Derived.Below
import Derived.Great.Walk
set_option linter.unusedSimpArgs false
set_option linter.unusedVariables false
namespace Go.Proofs.YtjkakemlhhieoaaGreatDoor

/-- where a stretch begins, and its class -/
abbrev Tab := List (Nat × Nat)

def cnt (l : Tab) (r : Nat) : Nat := l.countP fun e => Nat.ble e.1 r
/-- the class of the last stretch that begins at or ahead of r -/
def clsFrom : Tab → Nat → Nat → Nat
  | [], c, _ => c
  | e :: t, c, r => bif Nat.ble e.1 r then clsFrom t e.2 r else c
def cls (l : Tab) (r : Nat) : Nat := clsFrom l 0 r
/-- the last number of the stretch that r is in -/
def endFrom : Tab → Nat → Nat
  | [], _ => 1114111
  | e :: t, r => bif Nat.ble e.1 r then endFrom t r else e.1 - 1
/-- the beginnings rise -/
def rises : Tab → Bool
  | [] => true
  | [_] => true
  | a :: b :: t => Nat.blt a.1 b.1 && rises (b :: t)

theorem rises_tail {a : Nat × Nat} {t : Tab} (h : rises (a :: t) = true) : rises t = true := by
  cases t with
  | nil => rfl
  | cons b t => simp [rises] at h; exact h.2
theorem rises_head {a : Nat × Nat} : ∀ {t : Tab}, rises (a :: t) = true → ∀ e ∈ t, a.1 < e.1
  | [], _, e, he => by cases he
  | b :: t, h, e, he => by
    simp only [rises, Bool.and_eq_true] at h
    have hb : a.1 < b.1 := by have := h.1; simp [Nat.blt] at this; omega
    rcases List.mem_cons.1 he with rfl | he
    · exact hb
    · exact Nat.lt_trans hb (rises_head h.2 e he)

theorem cnt_zero {a : Nat × Nat} {t : Tab} {r : Nat} (h : rises (a :: t) = true) (hr : r < a.1) : cnt (a :: t) r = 0 := by
  unfold cnt
  rw [List.countP_eq_zero]
  intro e he
  rcases List.mem_cons.1 he with rfl | he
  · simp; omega
  · have := rises_head h e he
    simp; omega
theorem cnt_cons {a : Nat × Nat} {t : Tab} {r : Nat} (hr : a.1 ≤ r) : cnt (a :: t) r = cnt t r + 1 := by
  unfold cnt
  rw [List.countP_cons_of_pos]
  simpa using hr

theorem clsFrom_at : ∀ (l : Tab) (c r : Nat), rises l = true → clsFrom l c r = if cnt l r = 0 then c else (l.getD (cnt l r - 1) (0, 0)).2
  | [], c, r, _ => by simp [clsFrom, cnt]
  | e :: t, c, r, h => by
    unfold clsFrom
    by_cases hr : e.1 ≤ r
    · rw [cnt_cons hr, show Nat.ble e.1 r = true by simpa using hr, clsFrom_at t e.2 r (rises_tail h)]
      simp only [cond_true, Nat.add_one_ne_zero, if_false, Nat.add_sub_cancel]
      by_cases h0 : cnt t r = 0
      · rw [h0]; rfl
      · obtain ⟨k, hk⟩ := Nat.exists_eq_succ_of_ne_zero h0
        rw [hk]
        simp
    · rw [cnt_zero h (by omega), show Nat.ble e.1 r = false by rw [← Bool.not_eq_true]; simpa using hr]
      simp
theorem endFrom_at : ∀ (l : Tab) (r : Nat), rises l = true → endFrom l r = if cnt l r < l.length then (l.getD (cnt l r) (0, 0)).1 - 1 else 1114111
  | [], r, _ => by simp [endFrom, cnt]
  | e :: t, r, h => by
    unfold endFrom
    by_cases hr : e.1 ≤ r
    · rw [cnt_cons hr, show Nat.ble e.1 r = true by simpa using hr, endFrom_at t r (rises_tail h)]
      simp
    · rw [cnt_zero h (by omega), show Nat.ble e.1 r = false by rw [← Bool.not_eq_true]; simpa using hr]
      simp
theorem cnt_le (l : Tab) (r : Nat) : cnt l r ≤ l.length := List.countP_le_length

/-- of some numbers, one being 0, the greatest that is not beyond r -/
theorem greatest (B : List Nat) (h0 : 0 ∈ B) (r : Nat) : ∃ a ∈ B, a ≤ r ∧ ∀ b ∈ B, b ≤ r → b ≤ a := by
  have key : ∀ n, n ≤ r → (∃ a ∈ B, a ≤ n) → ∃ a ∈ B, a ≤ n ∧ ∀ b ∈ B, b ≤ n → b ≤ a := by
    intro n
    induction n with
    | zero =>
      rintro _ ⟨a, ha, hz⟩
      exact ⟨a, ha, hz, fun b _ hb => by omega⟩
    | succ n ih =>
      rintro hn ⟨a, ha, hz⟩
      by_cases hs : n + 1 ∈ B
      · exact ⟨n + 1, hs, Nat.le_refl _, fun b _ hb => hb⟩
      · obtain ⟨a', h1, h2, h3⟩ := ih (by omega) ⟨0, h0, Nat.zero_le _⟩
        refine ⟨a', h1, by omega, fun b hb hb' => ?_⟩
        rcases Nat.lt_or_ge n b with h | h
        · obtain rfl : b = n + 1 := by omega
          exact absurd hb hs
        · exact h3 b hb h
  exact key r (Nat.le_refl _) ⟨0, h0, Nat.zero_le _⟩

/-- all borders of the table are among B -/
def among (l : Tab) (B : List Nat) : Bool := l.all fun e => B.any fun b => Nat.beq b e.1
theorem among_mem {l : Tab} {B : List Nat} (h : among l B = true) {e : Nat × Nat} (he : e ∈ l) : e.1 ∈ B := by
  have := List.all_eq_true.1 h e he
  obtain ⟨b, hb, hq⟩ := List.any_eq_true.1 this
  rwa [show b = e.1 from Nat.eq_of_beq_eq_true hq] at hb
theorem clsFrom_same : ∀ (l : Tab) (c a r : Nat), (∀ e ∈ l, e.1 ≤ a ↔ e.1 ≤ r) → clsFrom l c r = clsFrom l c a
  | [], _, _, _, _ => rfl
  | e :: t, c, a, r, h => by
    unfold clsFrom
    have h1 : Nat.ble e.1 r = Nat.ble e.1 a := by
      rw [Bool.eq_iff_iff]
      simpa using (h e (by simp)).symm
    rw [h1, clsFrom_same t e.2 a r (fun x hx => h x (by simp [hx]))]
theorem cls_same {l : Tab} {B : List Nat} (hl : among l B = true) {a r : Nat} (ha : a ≤ r) (hg : ∀ b ∈ B, b ≤ r → b ≤ a) : cls l r = cls l a :=
  clsFrom_same l 0 a r fun _ he => ⟨fun h => Nat.le_trans h ha, fun h => hg _ (among_mem hl he) h⟩

/-- a switch over stretches: the first row that has the number counts -/
abbrev Rows := List (List (Nat × Nat) × Nat)
def hasRow (l : List (Nat × Nat)) (r : Nat) : Bool := l.any fun e => Nat.ble e.1 r && Nat.ble r e.2
def firstRow : Rows → Nat → Nat → Nat
  | [], c, _ => c
  | e :: t, c, r => bif hasRow e.1 r then e.2 else firstRow t c r
def amongRow (l : List (Nat × Nat)) (B : List Nat) : Bool := l.all fun e => (B.any fun b => Nat.beq b e.1) && B.any fun b => Nat.beq b (e.2 + 1)
theorem mem_beq {B : List Nat} {n : Nat} (h : (B.any fun b => Nat.beq b n) = true) : n ∈ B := by
  obtain ⟨b, hb, hq⟩ := List.any_eq_true.1 h
  rwa [show b = n from Nat.eq_of_beq_eq_true hq] at hb
theorem hasRow_same {l : List (Nat × Nat)} {B : List Nat} (hl : amongRow l B = true) {a r : Nat} (ha : a ≤ r) (hg : ∀ b ∈ B, b ≤ r → b ≤ a) : hasRow l r = hasRow l a := by
  unfold hasRow
  rw [Bool.eq_iff_iff]
  simp only [List.any_eq_true]
  refine exists_congr fun e => and_congr_right fun he => ?_
  have hm := List.all_eq_true.1 hl _ he
  rw [Bool.and_eq_true] at hm
  have h1 := hg _ (mem_beq hm.1)
  have h2 := hg _ (mem_beq hm.2)
  simp only [Bool.and_eq_true, Nat.ble_eq]
  constructor <;> rintro ⟨x, y⟩ <;> refine ⟨by omega, ?_⟩
  · omega
  · rcases Nat.lt_or_ge e.2 r with h | h
    · have := h2 h; omega
    · exact h
theorem firstRow_same {B : List Nat} {a r : Nat} (ha : a ≤ r) (hg : ∀ b ∈ B, b ≤ r → b ≤ a) : ∀ (l : Rows) (c : Nat), (l.all fun e => amongRow e.1 B) = true → firstRow l c r = firstRow l c a
  | [], _, _ => rfl
  | e :: t, c, h => by
    simp only [List.all_cons, Bool.and_eq_true] at h
    unfold firstRow
    rw [hasRow_same h.1 ha hg, firstRow_same ha hg t c h.2]
end Go.Proofs.YtjkakemlhhieoaaGreatDoor

/- A switch over stretches of numbers, whatever the number of its cases: its code as a function of its rows, walked by induction; a frame is known by its size and by what it holds. -/
namespace Go.Proofs.YtjkakemlhhieoaaGreatDoor
open Go.Great

section
variable {P : Program}

/-- what is known of a frame between two tests: its size, its deferred calls, the number that is asked -/
structure Asked (n r : Nat) (a : Act) : Prop where
  size : a.tmps.size = n
  defers : a.defers = []
  num : a.eval (.tmp 0) = .int .i32 (r : Int)
theorem Asked.put {n r : Nat} {a : Act} (h : Asked n r a) {d : Nat} (v : Value) (hd : d ≠ 0) : Asked n r (a.put (some d) v) :=
  ⟨(Act.size_put ..).trans h.size, (Act.defers_put' ..).trans h.defers, by rw [Act.eval_put_ne _ _ _ _ hd]; exact h.num⟩

theorem run_move {ρ : Operand → Value} {o : Oper} {w : World} {x : Operand} {v : Value} (ho : o.op = .move x) (hx : ρ x = v) : (execOp ρ o).run P w = .ok (.value v) w := by
  simp [execOp, ho, hx]
theorem run_assign {ρ : Operand → Value} {o : Oper} {w : World} {x : Operand} {v : Value} (ho : o.op = .assign x) (hx : ρ x = v) : (execOp ρ o).run P w = .ok (.value v) w := by
  simp [execOp, ho, hx]
theorem run_geq {ρ : Operand → Value} {o : Oper} {w : World} {t u : TypeId} {x y : Operand} {k : IntKind} {p q : Int} (ho : o.op = .binOp .geq t x y u) (hx : ρ x = .int k p) (hy : ρ y = .int k q) :
    (execOp ρ o).run P w = .ok (.value (.bool (decide (q ≤ p)))) w := by
  simp [execOp, ho, hx, hy, eqGuard, binOp_geq]
theorem run_leq {ρ : Operand → Value} {o : Oper} {w : World} {t u : TypeId} {x y : Operand} {k : IntKind} {p q : Int} (ho : o.op = .binOp .leq t x y u) (hx : ρ x = .int k p) (hy : ρ y = .int k q) :
    (execOp ρ o).run P w = .ok (.value (.bool (decide (p ≤ q)))) w := by
  simp [execOp, ho, hx, hy, eqGuard, binOp_leq]
theorem run_eql {ρ : Operand → Value} {o : Oper} {w : World} {t u : TypeId} {x y : Operand} {k : IntKind} {p q : Int} (ho : o.op = .binOp .eql t x y u) (hx : ρ x = .int k p) (hy : ρ y = .int k q) :
    (execOp ρ o).run P w = .ok (.value (.bool (p == q))) w := by
  simp [execOp, ho, hx, hy, eqGuard, binOp_eql]
theorem run_pick {ρ : Operand → Value} {o : Oper} {w : World} {c x y : Operand} {b : Bool} {v : Value} (ho : o.op = .pick c x y) (hc : ρ c = .bool b) (hx : (if b then ρ x else ρ y) = v) :
    (execOp ρ o).run P w = .ok (.value v) w := by
  subst hx
  cases b <;> simp [execOp, ho, hc, asBool]

/-- one case's operations -/
def opsOf (tR tB : TypeId) (pos : String) (d T : Nat) (e : Nat × Nat) : List Oper :=
  bif Nat.beq e.1 0 then
    [{ dst := some d, op := .move (.tmp 0), type := tR, pos := pos, after := #[], guard := none },
     { dst := some (d + 1), op := .binOp .leq tR (.tmp d) (.const (.int .i32 e.2)) tR, type := tB, pos := pos, after := #[⟨0, .data⟩], guard := none },
     { dst := some T, op := .assign (.tmp (d + 1)), type := tB, pos := pos, after := #[⟨1, .data⟩], guard := none }]
  else bif Nat.beq e.1 e.2 then
    [{ dst := some d, op := .move (.tmp 0), type := tR, pos := pos, after := #[], guard := none },
     { dst := some (d + 1), op := .binOp .eql tR (.tmp d) (.const (.int .i32 e.2)) tR, type := tB, pos := pos, after := #[⟨0, .data⟩], guard := none },
     { dst := some T, op := .assign (.tmp (d + 1)), type := tB, pos := pos, after := #[⟨1, .data⟩], guard := none }]
  else
    [{ dst := some d, op := .move (.tmp 0), type := tR, pos := pos, after := #[], guard := none },
     { dst := some (d + 1), op := .binOp .geq tR (.tmp d) (.const (.int .i32 e.1)) tR, type := tB, pos := pos, after := #[⟨0, .data⟩], guard := none },
     { dst := some (d + 2), op := .move (.tmp (d + 1)), type := tB, pos := pos, after := #[⟨1, .data⟩], guard := none },
     { dst := some (d + 3), op := .move (.tmp 0), type := tR, pos := pos, after := #[⟨2, .guard⟩], guard := some (2, true) },
     { dst := some (d + 4), op := .binOp .leq tR (.tmp (d + 3)) (.const (.int .i32 e.2)) tR, type := tB, pos := pos, after := #[⟨3, .data⟩, ⟨2, .guard⟩], guard := some (2, true) },
     { dst := some (d + 5), op := .pick (.tmp (d + 2)) (.tmp (d + 4)) (.const (.bool false)), type := tB, pos := pos, after := #[⟨2, .data⟩, ⟨4, .data⟩], guard := none },
     { dst := some T, op := .assign (.tmp (d + 5)), type := tB, pos := pos, after := #[⟨5, .data⟩, ⟨2, .chain⟩], guard := none }]
def wid (e : Nat × Nat) : Nat := bif Nat.beq e.1 0 || Nat.beq e.1 e.2 then 2 else 6

/-- a guarded operation that is wanted, and one that is not -/
theorem wpList_wanted {ops : Array Oper} {rest : List Oper} {o : Oper} {a : Act} {w : World} {Q : Exit → Act → World → Prop} (hg : Region.wanted o (yielded ops a.tmps) = true) (dst : Option Tmp) (hdst : o.dst = dst)
    (v : Value) (hrun : (execOp a.eval o).run P w = .ok (.value v) w) (h : wpList P ops Q rest (a.put dst v) w) : wpList P ops Q (o :: rest) a w := by
  subst hdst
  refine wpList_step fun K hK => ?_
  rw [if_pos hg]
  unfold Oper.wp
  rw [hrun, Oper.upon_value]
  exact hK _ _ h
theorem wpList_unwanted {ops : Array Oper} {rest : List Oper} {o : Oper} {a : Act} {w : World} {Q : Exit → Act → World → Prop} (hg : Region.wanted o (yielded ops a.tmps) = false) (dst : Option Tmp) (hdst : o.dst = dst)
    (h : wpList P ops Q rest (a.put dst undef) w) : wpList P ops Q (o :: rest) a w := by
  subst hdst
  refine wpList_step fun K hK => ?_
  rw [if_neg (by rw [hg]; simp)]
  exact hK _ _ h
theorem eval_some {a : Act} {d : Nat} {v : Value} (h : d < a.tmps.size) (he : a.eval (.tmp d) = v) : a.tmps[d]? = some v := by
  rw [Array.getElem?_eq_getElem h]
  simp [Act.eval, Array.getD, h] at he
  rw [he]

theorem wp_case {tR tB : TypeId} {pos : String} {id d T n r : Nat} {e : Nat × Nat} {a : Act} {w : World} {Q : Exit → Act → World → Prop} (h : Asked n r a) (hd : T < d) (hT : 2 < T) (hn : d + wid e ≤ n)
    (k : ∀ a', Asked n r a' → a'.eval (.tmp T) = .bool (Nat.ble e.1 r && Nat.ble r e.2) → Q .normal a' w) : (Code.region id (opsOf tR tB pos d T e).toArray false).wp P Q a w := by
  apply wp_region_lit
  unfold opsOf
  unfold wid at hn
  cases h0 : Nat.beq e.1 0 with
  | true =>
    have e0 : e.1 = 0 := Nat.eq_of_beq_eq_true h0
    simp only [h0, cond_true, Bool.true_or] at hn ⊢
    refine wpList_readTo rfl (some d) rfl _ (run_move rfl h.num) ?_
    have h1 := h.put (d := d) (.int .i32 (r : Int)) (by omega)
    refine wpList_readTo rfl (some (d + 1)) rfl _ (run_leq rfl (Act.eval_put_same _ _ _ (by rw [h.size]; omega)) rfl) ?_
    have h2 := h1.put (d := d + 1) (.bool (decide ((r : Int) ≤ (e.2 : Int)))) (by omega)
    refine wpList_readTo rfl (some T) rfl _ (run_assign rfl (Act.eval_put_same _ _ _ (by rw [h1.size]; omega))) ?_
    refine k _ (h2.put _ (by omega)) ?_
    rw [Act.eval_put_same _ _ _ (by rw [h2.size]; omega), e0]
    congr 1
    rw [Bool.eq_iff_iff]
    simp
  | false =>
    simp only [h0, cond_false, Bool.false_or] at hn ⊢
    cases h1 : Nat.beq e.1 e.2 with
    | true =>
      have e1 : e.1 = e.2 := Nat.eq_of_beq_eq_true h1
      simp only [h1, cond_true] at hn ⊢
      refine wpList_readTo rfl (some d) rfl _ (run_move rfl h.num) ?_
      have h1 := h.put (d := d) (.int .i32 (r : Int)) (by omega)
      refine wpList_readTo rfl (some (d + 1)) rfl _ (run_eql rfl (Act.eval_put_same _ _ _ (by rw [h.size]; omega)) rfl) ?_
      have h2 := h1.put (d := d + 1) (.bool ((r : Int) == (e.2 : Int))) (by omega)
      refine wpList_readTo rfl (some T) rfl _ (run_assign rfl (Act.eval_put_same _ _ _ (by rw [h1.size]; omega))) ?_
      refine k _ (h2.put _ (by omega)) ?_
      rw [Act.eval_put_same _ _ _ (by rw [h2.size]; omega), e1]
      congr 1
      rw [Bool.eq_iff_iff]
      simp
      omega
    | false =>
      simp only [h1, cond_false] at hn ⊢
      refine wpList_readTo rfl (some d) rfl _ (run_move rfl h.num) ?_
      have h1 := h.put (d := d) (.int .i32 (r : Int)) (by omega)
      refine wpList_readTo rfl (some (d + 1)) rfl _ (run_geq rfl (Act.eval_put_same _ _ _ (by rw [h.size]; omega)) rfl) ?_
      have h2 := h1.put (d := d + 1) (.bool (decide ((e.1 : Int) ≤ (r : Int)))) (by omega)
      refine wpList_readTo rfl (some (d + 2)) rfl _ (run_move rfl (Act.eval_put_same _ _ _ (by rw [h1.size]; omega))) ?_
      have h3 := h2.put (d := d + 2) (.bool (decide ((e.1 : Int) ≤ (r : Int)))) (by omega)
      have g2 := Act.eval_put_same ((a.put (some d) (.int .i32 (r : Int))).put (some (d + 1)) (.bool (decide ((e.1 : Int) ≤ (r : Int))))) (d + 2) (.bool (decide ((e.1 : Int) ≤ (r : Int)))) (by rw [h2.size]; omega)
      revert h3 g2
      generalize ((a.put (some d) (.int .i32 (r : Int))).put (some (d + 1)) (.bool (decide ((e.1 : Int) ≤ (r : Int))))).put (some (d + 2)) (.bool (decide ((e.1 : Int) ≤ (r : Int)))) = b
      intro h3 g2
      have gs := eval_some (by rw [h3.size]; omega) g2
      by_cases hlo : e.1 ≤ r
      · have hlo' : decide ((e.1 : Int) ≤ (r : Int)) = true := by simpa using hlo
        rw [hlo'] at g2 gs
        refine wpList_wanted (by simp [Region.wanted, yielded, gs]) (some (d + 3)) rfl _ (run_move rfl h3.num) ?_
        have h4 := h3.put (d := d + 3) (.int .i32 (r : Int)) (by omega)
        have gs' := eval_some (d := d + 2) (v := .bool true) (by rw [h4.size]; omega) (by rw [Act.eval_put_ne _ _ _ _ (by omega)]; exact g2)
        refine wpList_wanted (by simp [Region.wanted, yielded, gs']) (some (d + 4)) rfl _ (run_leq rfl (Act.eval_put_same _ _ _ (by rw [h3.size]; omega)) rfl) ?_
        have h5 := h4.put (d := d + 4) (.bool (decide ((r : Int) ≤ (e.2 : Int)))) (by omega)
        refine wpList_readTo rfl (some (d + 5)) rfl (.bool (decide ((r : Int) ≤ (e.2 : Int)))) (run_pick rfl (b := true) (by rw [Act.eval_put_ne _ _ _ _ (by omega), Act.eval_put_ne _ _ _ _ (by omega)]; exact g2) (by simp only [if_true]; exact Act.eval_put_same _ _ _ (by rw [h4.size]; omega))) ?_
        have h6 := h5.put (d := d + 5) (.bool (decide ((r : Int) ≤ (e.2 : Int)))) (by omega)
        refine wpList_readTo rfl (some T) rfl _ (run_assign rfl (Act.eval_put_same _ _ _ (by rw [h5.size]; omega))) ?_
        refine k _ (h6.put _ (by omega)) ?_
        rw [Act.eval_put_same _ _ _ (by rw [h6.size]; omega)]
        congr 1
        rw [Bool.eq_iff_iff]
        simp
        omega
      · have hlo' : decide ((e.1 : Int) ≤ (r : Int)) = false := by simpa using hlo
        rw [hlo'] at g2 gs
        refine wpList_unwanted (by simp [Region.wanted, yielded, gs]) (some (d + 3)) rfl ?_
        have h4 := h3.put (d := d + 3) undef (by omega)
        have gs' := eval_some (d := d + 2) (v := .bool false) (by rw [h4.size]; omega) (by rw [Act.eval_put_ne _ _ _ _ (by omega)]; exact g2)
        refine wpList_unwanted (by simp [Region.wanted, yielded, gs']) (some (d + 4)) rfl ?_
        have h5 := h4.put (d := d + 4) undef (by omega)
        refine wpList_readTo rfl (some (d + 5)) rfl (.bool false) (run_pick rfl (b := false) (by rw [Act.eval_put_ne _ _ _ _ (by omega), Act.eval_put_ne _ _ _ _ (by omega)]; exact g2) rfl) ?_
        have h6 := h5.put (d := d + 5) (.bool false) (by omega)
        refine wpList_readTo rfl (some T) rfl _ (run_assign rfl (Act.eval_put_same _ _ _ (by rw [h5.size]; omega))) ?_
        refine k _ (h6.put _ (by omega)) ?_
        rw [Act.eval_put_same _ _ _ (by rw [h6.size]; omega)]
        congr 1
        rw [Bool.eq_iff_iff]
        simp
        omega

/-- the cases of one row -/
def casesCode (tR tB : TypeId) (pos : String) (T : Nat) : Nat → Nat → List (Nat × Nat) → Code
  | _, _, [] => .skip
  | d, id, [e] => .region id (opsOf tR tB pos d T e).toArray false
  | d, id, e :: e' :: t => (Code.region id (opsOf tR tB pos d T e).toArray false).seq (.cond (.tmp T) .skip (casesCode tR tB pos T (d + wid e) (id + 1) (e' :: t)))
def wids : List (Nat × Nat) → Nat
  | [] => 0
  | e :: t => wid e + wids t
theorem wp_cases {tR tB : TypeId} {pos : String} {T n r : Nat} {w : World} {Q : Exit → Act → World → Prop} (hT : 2 < T) :
    ∀ (l : List (Nat × Nat)) (d id : Nat) (a : Act), l ≠ [] → Asked n r a → T < d → d + wids l ≤ n → (∀ a', Asked n r a' → a'.eval (.tmp T) = .bool (hasRow l r) → Q .normal a' w) → (casesCode tR tB pos T d id l).wp P Q a w
  | [], _, _, _, h0, _, _, _, _ => absurd rfl h0
  | [e], d, id, a, _, h, hd, hn, k => by
    refine wp_case h hd hT (by simpa [wids] using hn) fun a' h' hv => k a' h' ?_
    rw [hv]
    simp [hasRow]
  | e :: e' :: t, d, id, a, _, h, hd, hn, k => by
    have hn' : d + (wid e + wids (e' :: t)) ≤ n := hn
    refine wp_seq (wp_case h hd hT (by omega) fun a' h' hv => ?_)
    refine wp_cond_split hv (fun ht => wp_skip (k a' h' ?_)) (fun hf => wp_cases hT (e' :: t) _ _ a' (by simp) h' (by omega) (by omega) fun b hb hbv => k b hb ?_)
    · rw [hv, ht]
      simp [hasRow, ht]
    · rw [hbv]
      have : hasRow (e :: e' :: t) r = (Nat.ble e.1 r && Nat.ble r e.2 || hasRow (e' :: t) r) := rfl
      rw [this, hf, Bool.false_or]

/-- the rows, one behind the other: where the test stands, where the answer stands, the cases, the answer -/
abbrev SRows := List (String × String × List (Nat × Nat) × Nat)
def rowsCode (tR tB tV : TypeId) (kV : IntKind) : Nat → Nat → SRows → Code
  | _, _, [] => .skip
  | T, id, (p, q, l, v) :: t =>
    (casesCode tR tB p T (T + 1) id l).seq
      (.cond (.tmp T) ((Code.region (id + l.length) #[{ dst := some 2, op := .assign (.const (.int kV v)), type := tV, pos := q, after := #[], guard := none }] false).seq .ret)
        (rowsCode tR tB tV kV (T + 1 + wids l) (id + l.length + 1) t))
def rowsWid : SRows → Nat
  | [] => 0
  | x :: t => 1 + wids x.2.2.1 + rowsWid t
def plainRows (s : SRows) : Rows := s.map fun x => (x.2.2.1, x.2.2.2)
def hitRow : Rows → Nat → Option Nat
  | [], _ => none
  | e :: t, r => bif hasRow e.1 r then some e.2 else hitRow t r
theorem firstRow_hit : ∀ (l : Rows) (c r : Nat), firstRow l c r = (hitRow l r).getD c
  | [], _, _ => rfl
  | e :: t, c, r => by
    unfold firstRow hitRow
    cases hasRow e.1 r with
    | true => rfl
    | false => exact firstRow_hit t c r
theorem wp_rows {tR tB tV : TypeId} {kV : IntKind} {n r : Nat} {w : World} {Q : Exit → Act → World → Prop} :
    ∀ (l : SRows) (T id : Nat) (a : Act), (l.all fun x => !x.2.2.1.isEmpty) = true → 2 < T → Asked n r a → T + rowsWid l ≤ n →
      (∀ a' v, Asked n r a' → hitRow (plainRows l) r = some v → a'.eval (.tmp 2) = .int kV (v : Int) → Q .ret a' w) → (∀ a', Asked n r a' → hitRow (plainRows l) r = none → Q .normal a' w) →
      (rowsCode tR tB tV kV T id l).wp P Q a w
  | [], _, _, a, _, _, h, _, _, k => wp_skip (k a h rfl)
  | (p, q, l, v) :: t, T, id, a, h0, hT, h, hn, hr, k => by
    simp only [List.all_cons, Bool.and_eq_true] at h0
    have hn' : T + (1 + wids l + rowsWid t) ≤ n := hn
    refine wp_seq (wp_cases hT l (T + 1) id a (by intro e; simp [e] at h0) h (by omega) (by omega) fun a' h' hv => ?_)
    refine wp_cond_split hv (fun ht => ?_) (fun hf => ?_)
    · refine wp_seq (wp_region_list ?_)
      refine wpList_readTo rfl (some 2) rfl _ (run_assign rfl rfl) ?_
      refine wp_ret (hr _ v (h'.put _ (by omega)) ?_ (Act.eval_put_same _ _ _ (by rw [h'.size]; omega)))
      show (bif hasRow l r then some v else hitRow (plainRows t) r) = some v
      rw [ht]; rfl
    · have hh : hitRow (plainRows ((p, q, l, v) :: t)) r = hitRow (plainRows t) r := by
        show (bif hasRow l r then some v else hitRow (plainRows t) r) = hitRow (plainRows t) r
        rw [hf]; rfl
      exact wp_rows t _ _ a' h0.2 (by omega) h' (by omega) (fun b u hb hu => hr b u hb (hh.trans hu)) (fun b hb hu => k b hb (hh.trans hu))

/-- the whole function: 'r = known(r); switch { .. }; return d' -/
def switchCode (tR tB tV : TypeId) (kV : IntKind) (known : FuncId) (p0 p1 pd : String) (z : Int) (rid : Nat) (l : SRows) (d : Nat) : Code :=
  (Code.region 0 #[{ dst := some 2, op := .assign (.const (.int kV z)), type := tV, pos := p0, after := #[], guard := none }] false).seq
    ((Code.region 1 #[{ dst := some 3, op := .move (.tmp 0), type := tR, pos := p1, after := #[], guard := none },
        { dst := some 4, op := .call { callee := .value (.func known), args := #[.tmp 3], argTypes := #[tR] }, type := tR, pos := p1, after := #[⟨0, .data⟩], guard := none },
        { dst := some 0, op := .assign (.tmp 4), type := tR, pos := p1, after := #[⟨1, .data⟩, ⟨1, .chain⟩, ⟨0, .phase⟩, ⟨1, .phase⟩], guard := none }] false).seq
      ((Code.block 0 (rowsCode tR tB tV kV 5 2 l)).seq
        ((Code.region rid #[{ dst := some 2, op := .assign (.const (.int kV d)), type := tV, pos := pd, after := #[], guard := none }] false).seq .ret)))

/-- THE CONTRACT: at what 'known' makes of the number, the first row's answer -/
theorem switch_calls {tR tB tV : TypeId} {kV : IntKind} {known f : FuncId} {fn : Func} {p0 p1 pd : String} {z : Int} {rid : Nat} {l : SRows} {d : Nat} (hf : P.funcs[f]? = some fn)
    (hb : fn.body = some (switchCode tR tB tV kV known p0 p1 pd z rid l d)) (hres : fn.results = #[.tmp 2]) (hl : (l.all fun x => !x.2.2.1.isEmpty) = true) (hn : 5 + rowsWid l ≤ fn.ntmps)
    (x : Int) (r : Nat) (w : World) (hk : Calls P known #[.int .i32 x] w fun e w' => e = .returned (.int .i32 (r : Int)) ∧ w' = w)
    (hen : ∀ ρ : Operand → Value, ρ (.tmp 3) = .int .i32 x → ρ (.func known) = .func (.func known) #[] #[] → (execOp ρ { dst := some 4, op := .call { callee := .value (.func known), args := #[.tmp 3], argTypes := #[tR] }, type := tR, pos := p1, after := #[⟨0, .data⟩], guard := none }).run P w = .ok (.enter known #[.int .i32 x]) w) :
    Calls P f #[.int .i32 x] w fun e w' => e = .returned (.int kV (firstRow (plainRows l) d r : Nat)) ∧ w' = w := by
  refine calls_of_wp hf hb ?_
  have hs0 : (#[Value.int .i32 x] ++ Array.replicate (fn.ntmps - (#[Value.int .i32 x] : Array Value).size) undef).size = fn.ntmps := by simp; omega
  have he0 : ({ tmps := #[Value.int .i32 x] ++ Array.replicate (fn.ntmps - (#[Value.int .i32 x] : Array Value).size) undef, defers := [] } : Act).eval (.tmp 0) = .int .i32 x := by simp [Act.eval, Array.getD]
  obtain ⟨a, ha⟩ : ∃ a : Act, a = { tmps := #[Value.int .i32 x] ++ Array.replicate (fn.ntmps - (#[Value.int .i32 x] : Array Value).size) undef, defers := [] } := ⟨_, rfl⟩
  have hsa : a.tmps.size = fn.ntmps := by rw [ha]; exact hs0
  have hda : a.defers = [] := by rw [ha]
  rw [← ha] at he0 ⊢
  clear ha hs0
  unfold switchCode
  refine wp_seq (wp_region_list ?_)
  refine wpList_readTo rfl (some 2) rfl _ (run_assign rfl rfl) ?_
  refine wp_seq (wp_region_list ?_)
  refine wpList_readTo rfl (some 3) rfl (.int .i32 x) (run_move rfl (by rw [Act.eval_put_ne _ _ _ _ (by omega)]; exact he0)) ?_
  refine wpList_callTo rfl (some 4) rfl known #[.int .i32 x] (hen _ (Act.eval_put_same _ _ _ (by rw [Act.size_put, hsa]; omega)) rfl) (.int .i32 (r : Int)) w hk ?_
  refine wpList_readTo rfl (some 0) rfl (.int .i32 (r : Int)) (run_assign rfl (Act.eval_put_same _ _ _ (by rw [Act.size_put, Act.size_put, hsa]; omega))) ?_
  have hA : Asked fn.ntmps r ((((a.put (some 2) (.int kV z)).put (some 3) (.int .i32 x)).put (some 4) (.int .i32 (r : Int))).put (some 0) (.int .i32 (r : Int))) :=
    ⟨by simp only [Act.size_put, hsa], by simp only [Act.defers_put', hda], Act.eval_put_same _ _ _ (by simp only [Act.size_put, hsa]; omega)⟩
  have hrun : ∀ a' : Act, (results fn a'.tmps).run P w = .ok (a'.eval (.tmp 2)) w := fun a' => by
    rw [results_tmp hres]; rfl
  refine wp_seq (wp_block (wp_rows l 5 2 _ hl (by omega) hA (by omega) (fun a' v h' hv he => ?_) (fun a' h' hv => ?_)))
  · show bodyPost P fn (fun e w' => e = .returned (.int kV (firstRow (plainRows l) d r : Nat)) ∧ w' = w) .ret a' w
    refine bodyPost_ret (hrun a') h'.defers ?_
    rw [he, firstRow_hit, hv]
    exact ⟨rfl, rfl⟩
  · refine wp_seq (wp_region_list ?_)
    refine wpList_readTo rfl (some 2) rfl _ (run_assign rfl rfl) ?_
    refine wp_ret (bodyPost_ret (hrun _) (by rw [Act.defers_put']; exact h'.defers) ?_)
    rw [Act.eval_put_same _ _ _ (by rw [h'.size]; omega), firstRow_hit, hv]
    exact ⟨rfl, rfl⟩
end
end Go.Proofs.YtjkakemlhhieoaaGreatDoor

/- A switch over numbers, as the translator writes it: its rows read off the code by a function, its walk by induction. -/
namespace Go.Proofs.YtjkakemlhhieoaaGreatDoor
open Go.Great

section
variable {P : Program}

/-- what stays of a frame between two tests: its size, its deferred calls, what the first m slots hold -/
structure Kept (m : Nat) (a b : Act) : Prop where
  size : b.tmps.size = a.tmps.size
  defers : b.defers = a.defers
  low : ∀ i, i < m → b.eval (.tmp i) = a.eval (.tmp i)
theorem Kept.refl (m : Nat) (a : Act) : Kept m a a := ⟨rfl, rfl, fun _ _ => rfl⟩
theorem Kept.trans {m : Nat} {a b c : Act} (h : Kept m a b) (k : Kept m b c) : Kept m a c := ⟨k.size.trans h.size, k.defers.trans h.defers, fun i hi => (k.low i hi).trans (h.low i hi)⟩
theorem Kept.put {m : Nat} {a b : Act} (h : Kept m a b) {d : Nat} (hd : m ≤ d) (v : Value) : Kept m a (b.put (some d) v) :=
  ⟨(Act.size_put ..).trans h.size, (Act.defers_put' ..).trans h.defers, fun i hi => by rw [Act.eval_put_ne _ _ _ _ (by omega)]; exact h.low i hi⟩

/-- 'slot i := (slot q == c)'; 'slot d := slot i' -/
def rdOp (q m n d : Nat) : Code → Option Int
  | .region _ ops false =>
    match ops.toList with
    | [o1, o2] =>
      match o1.dst, o1.op, o1.guard, o2.dst, o2.op, o2.guard with
      | some i, .binOp .eql _ (.tmp q') (.const (.int .i32 c)) _, none, some d', .assign (.tmp i'), none =>
        bif Nat.beq q' q && Nat.beq d' d && Nat.beq i' i && Nat.ble m i && Nat.ble m d && Nat.blt i n && Nat.blt d n then some c else none
      | _, _, _, _, _, _ => none
    | _ => none
  | _ => none
def isSkip : Code → Bool
  | .skip => true
  | _ => false
def rdTest (q m n d : Nat) : Nat → Code → Option (List Int)
  | f + 1, .seq a (.cond (.tmp d') s c) => bif Nat.beq d' d && isSkip s then (rdOp q m n d a).bind fun x => (rdTest q m n d f c).map fun xs => x :: xs else none
  | _, c => (rdOp q m n d c).map fun x => [x]
def rdRows (q m n : Nat) : Nat → Code → List (List Int × Code) × Code
  | f + 1, .seq t (.cond (.tmp d) act rest) =>
    match rdTest q m n d f t with
    | some xs => (((xs, act) :: (rdRows q m n f rest).1), (rdRows q m n f rest).2)
    | none => ([], .seq t (.cond (.tmp d) act rest))
  | _, c => ([], c)
def hasI : List Int → Int → Bool
  | [], _ => false
  | c :: t, r => (r == c) || hasI t r
def pickC (r : Int) : List (List Int × Code) → Code → Code
  | [], e => e
  | x :: t, e => bif hasI x.1 r then x.2 else pickC r t e

theorem wp_op {q m n d : Nat} {c : Code} {x r : Int} {a : Act} {w : World} {Q : Exit → Act → World → Prop} (h : rdOp q m n d c = some x) (hn : a.tmps.size = n) (hq : a.eval (.tmp q) = .int .i32 r)
    (k : ∀ b, Kept m a b → b.eval (.tmp d) = .bool (r == x) → Q .normal b w) : c.wp P Q a w := by
  unfold rdOp at h
  split at h
  · rename_i id ops
    split at h
    · rename_i o1 o2 hl
      split at h
      · rename_i i t1 q' c t2 d' i' e1 e2 e3 e4 e5 e6
        obtain ⟨ops⟩ := ops
        obtain rfl : ops = [o1, o2] := hl
        cases hb : (Nat.beq q' q && Nat.beq d' d && Nat.beq i' i && Nat.ble m i && Nat.ble m d && Nat.blt i n && Nat.blt d n) with
        | false => rw [hb] at h; cases h
        | true =>
          rw [hb] at h
          obtain rfl := Option.some.inj h
          simp only [Bool.and_eq_true, Nat.blt_eq, Nat.ble_eq, Nat.beq_eq] at hb
          obtain ⟨⟨⟨⟨⟨⟨rfl, rfl⟩, rfl⟩, h4⟩, h5⟩, h6⟩, h7⟩ := hb
          refine wp_region_lit ?_
          refine wpList_readTo e3 (some i') e1 _ (run_eql e2 hq rfl) ?_
          refine wpList_readTo e6 (some d') e4 _ (run_assign e5 (Act.eval_put_same _ _ _ (by omega))) ?_
          refine k _ (((Kept.refl m a).put h4 _).put h5 _) ?_
          rw [Act.eval_put_same _ _ _ (by rw [Act.size_put]; omega)]
      · cases h
    · cases h
  · cases h
theorem isSkip_eq {s : Code} (h : isSkip s = true) : s = .skip := by
  cases s <;> first | rfl | cases h
theorem wp_test {q m n d : Nat} {r : Int} {w : World} {Q : Exit → Act → World → Prop} (hqm : q < m) : ∀ (f : Nat) (c : Code) (xs : List Int) (a : Act), rdTest q m n d f c = some xs → a.tmps.size = n → a.eval (.tmp q) = .int .i32 r →
    (∀ b, Kept m a b → b.eval (.tmp d) = .bool (hasI xs r) → Q .normal b w) → c.wp P Q a w := by
  intro f
  induction f with
  | zero =>
    intro c xs a h hn hq k
    unfold rdTest at h
    obtain ⟨x, hx, rfl⟩ := Option.map_eq_some_iff.1 h
    exact wp_op hx hn hq fun b hb hv => k b hb (by rw [hv]; simp [hasI])
  | succ f ih =>
    intro c xs a h hn hq k
    unfold rdTest at h
    split at h
    · rename_i f' a' d' s c' hf
      obtain rfl : f' = f := by omega
      cases hb : (Nat.beq d' d && isSkip s) with
      | false => rw [hb] at h; cases h
      | true =>
        rw [hb] at h
        simp only [Bool.and_eq_true, Nat.beq_eq] at hb
        obtain ⟨rfl, hs⟩ := hb
        obtain rfl := isSkip_eq hs
        obtain ⟨x, hx, hy⟩ := Option.bind_eq_some_iff.1 h
        obtain ⟨ys, hys, rfl⟩ := Option.map_eq_some_iff.1 hy
        refine wp_seq (wp_op hx hn hq fun b hb hv => ?_)
        refine wp_cond_split hv (fun ht => wp_skip (k b hb ?_)) (fun hf => ih c' ys b hys (hb.size.trans hn) ((hb.low q hqm).trans hq) fun b' hb' hv' => k b' (hb.trans hb') ?_)
        · rw [hv, ht]; simp [hasI, ht]
        · rw [hv']; simp [hasI, hf]
    · obtain ⟨x, hx, rfl⟩ := Option.map_eq_some_iff.1 h
      exact wp_op hx hn hq fun b hb hv => k b hb (by rw [hv]; simp [hasI])
theorem wp_rowsC {q m n : Nat} {r : Int} {w : World} {Q : Exit → Act → World → Prop} (hqm : q < m) : ∀ (f : Nat) (c : Code) (a : Act), a.tmps.size = n → a.eval (.tmp q) = .int .i32 r →
    (∀ b, Kept m a b → (pickC r (rdRows q m n f c).1 (rdRows q m n f c).2).wp P Q b w) → c.wp P Q a w := by
  intro f
  induction f with
  | zero =>
    intro c a hn hq k
    have := k a (Kept.refl _ _)
    unfold rdRows at this
    exact this
  | succ f ih =>
    intro c a hn hq k
    unfold rdRows at k
    split at k
    · rename_i f' t d act rest hf
      obtain rfl : f' = f := by omega
      split at k
      · rename_i xs hx
        refine wp_seq (wp_test hqm _ _ _ _ hx hn hq fun b hb hv => ?_)
        have k' := fun b' (hb' : Kept m b b') => k b' (hb.trans hb')
        simp only [pickC] at k'
        refine wp_cond_split hv (fun ht => ?_) (fun hf => ?_)
        · have := k' b (Kept.refl _ _)
          rw [ht] at this
          exact this
        · rw [hf] at k'
          exact ih rest b (hb.size.trans hn) ((hb.low q hqm).trans hq) k'
      · exact k a (Kept.refl _ _)
    · exact k a (Kept.refl _ _)

/-- 'slot 2 := v; return' -/
def rdRet : Code → Option Int
  | .seq (.region _ ops false) .ret =>
    match ops.toList with
    | [o] =>
      match o.dst, o.op, o.guard with
      | some 2, .assign (.const (.int .i32 v)), none => some v
      | _, _, _ => none
    | _ => none
  | _ => none
theorem wp_rdRet {c : Code} {v : Int} {a : Act} {w : World} {Q : Exit → Act → World → Prop} (h : rdRet c = some v) (hn : 2 < a.tmps.size)
    (k : ∀ b, b.tmps.size = a.tmps.size → b.defers = a.defers → b.eval (.tmp 2) = .int .i32 v → Q .ret b w) : c.wp P Q a w := by
  unfold rdRet at h
  split at h
  · rename_i id ops
    split at h
    · rename_i o hl
      split at h
      · rename_i v' e1 e2 e3
        obtain rfl := Option.some.inj h
        obtain ⟨ops⟩ := ops
        obtain rfl : ops = [o] := hl
        refine wp_seq (wp_region_lit ?_)
        refine wpList_readTo e3 (some 2) e1 _ (run_assign e2 rfl) ?_
        exact wp_ret (k _ (Act.size_put ..) (Act.defers_put' ..) (Act.eval_put_same _ _ _ hn))
      · cases h
    · cases h
  · cases h
/-- a table out of a switch: what each row's action hands back -/
def rdRets : List (List Int × Code) → Option (List (List Int × Int))
  | [] => some []
  | x :: t => (rdRet x.2).bind fun v => (rdRets t).map fun l => (x.1, v) :: l
def lookI : List (List Int × Int) → Int → Int → Int
  | [], z, _ => z
  | x :: t, z, r => bif hasI x.1 r then x.2 else lookI t z r
theorem pick_rets {z r : Int} {e : Code} : ∀ (l : List (List Int × Code)) (tb : List (List Int × Int)), rdRets l = some tb →
    (∃ v, rdRet (pickC r l e) = some v ∧ lookI tb z r = v) ∨ (pickC r l e = e ∧ lookI tb z r = z)
  | [], tb, h => by
    obtain rfl := Option.some.inj h
    exact .inr ⟨rfl, rfl⟩
  | x :: t, tb, h => by
    obtain ⟨v, hv, hy⟩ := Option.bind_eq_some_iff.1 h
    obtain ⟨l, hl, rfl⟩ := Option.map_eq_some_iff.1 hy
    unfold pickC lookI
    cases hx : hasI x.1 r with
    | true => exact .inl ⟨v, hv, rfl⟩
    | false => exact pick_rets t l hl

/-- THE CONTRACT of 'switch r { case ..: return v .. }; return z' -/
theorem tableI_calls {f : FuncId} {fn : Func} {i0 i1 bl : Nat} {o0 o1 : Oper} {sw tail : Code} (hf : P.funcs[f]? = some fn)
    (hb : fn.body = some (.seq (.region i0 #[o0] false) (.seq (.seq (.region i1 #[o1] false) (.block bl sw)) tail)))
    (g0 : o0.guard = none) (d0 : o0.dst = some 2) (z0 : Int) (p0 : o0.op = .assign (.const (.int .i32 z0))) (g1 : o1.guard = none) (d1 : o1.dst = some 3) (p1 : o1.op = .move (.tmp 0)) (hres : fn.results = #[.tmp 2]) (hn4 : 4 ≤ fn.ntmps) (fu : Nat) (tb : List (List Int × Int)) (z : Int)
    (hr : rdRets (rdRows 3 4 fn.ntmps fu sw).1 = some tb) (he : isSkip (rdRows 3 4 fn.ntmps fu sw).2 = true) (ht : rdRet tail = some z) (x : Int) (w : World) :
    Calls P f #[.int .i32 x] w fun e w' => e = .returned (.int .i32 (lookI tb z x)) ∧ w' = w := by
  refine calls_of_wp hf hb ?_
  have hs0 : (#[Value.int .i32 x] ++ Array.replicate (fn.ntmps - (#[Value.int .i32 x] : Array Value).size) undef).size = fn.ntmps := by simp; omega
  have he0 : ({ tmps := #[Value.int .i32 x] ++ Array.replicate (fn.ntmps - (#[Value.int .i32 x] : Array Value).size) undef, defers := [] } : Act).eval (.tmp 0) = .int .i32 x := by simp [Act.eval, Array.getD]
  obtain ⟨a, ha⟩ : ∃ a : Act, a = { tmps := #[Value.int .i32 x] ++ Array.replicate (fn.ntmps - (#[Value.int .i32 x] : Array Value).size) undef, defers := [] } := ⟨_, rfl⟩
  have hsa : a.tmps.size = fn.ntmps := by rw [ha]; exact hs0
  have hda : a.defers = [] := by rw [ha]
  rw [← ha] at he0 ⊢
  clear ha hs0
  have hrun : ∀ a' : Act, (results fn a'.tmps).run P w = .ok (a'.eval (.tmp 2)) w := fun a' => by
    rw [results_tmp hres]; rfl
  refine wp_seq (wp_region_lit ?_)
  refine wpList_readTo g0 (some 2) d0 (.int .i32 z0) (run_assign p0 rfl) ?_
  refine wp_seq (wp_seq (wp_region_lit ?_))
  refine wpList_readTo g1 (some 3) d1 (.int .i32 x) (run_move p1 (by rw [Act.eval_put_ne _ _ _ _ (by omega)]; exact he0)) ?_
  obtain ⟨b, hbb⟩ : ∃ b : Act, b = (a.put (some 2) (.int .i32 z0)).put (some 3) (.int .i32 x) := ⟨_, rfl⟩
  have hsb : b.tmps.size = fn.ntmps := by rw [hbb]; simp only [Act.size_put, hsa]
  have hdb : b.defers = [] := by rw [hbb]; simp only [Act.defers_put', hda]
  have heb : b.eval (.tmp 3) = .int .i32 x := by rw [hbb]; exact Act.eval_put_same _ _ _ (by rw [Act.size_put, hsa]; omega)
  rw [← hbb]
  · refine wp_block (wp_rowsC (q := 3) (m := 4) (n := fn.ntmps) (by decide) fu sw b hsb heb fun b' hk => ?_)
    rcases pick_rets (z := z) (r := x) (e := (rdRows 3 4 fn.ntmps fu sw).2) _ _ hr with ⟨v, hv, hl⟩ | ⟨hp, hl⟩
    · refine wp_rdRet hv (by rw [hk.size, hsb]; omega) fun c hc hd hv => ?_
      show bodyPost P fn (fun e w' => e = .returned (.int .i32 (lookI tb z x)) ∧ w' = w) .ret c w
      refine bodyPost_ret (hrun c) (hd.trans (hk.defers.trans hdb)) ?_
      rw [hv, hl]
      exact ⟨rfl, rfl⟩
    · rw [hp, isSkip_eq he]
      refine wp_skip ?_
      refine wp_rdRet ht (by rw [hk.size, hsb]; omega) fun c hc hd hv => ?_
      show bodyPost P fn (fun e w' => e = .returned (.int .i32 (lookI tb z x)) ∧ w' = w) .ret c w
      refine bodyPost_ret (hrun c) (hd.trans (hk.defers.trans hdb)) ?_
      rw [hv, hl]
      exact ⟨rfl, rfl⟩
end
end Go.Proofs.YtjkakemlhhieoaaGreatDoor
