/- Tables of stretches, without the program: what a table says of a number, and how a property of all numbers is settled at the borders alone. -/
import Derived.Below
set_option linter.unusedSimpArgs false
set_option linter.unusedVariables false
namespace Go.Proofs.YthkapcnhfdpdbaaDoor

/-- where a stretch begins, and its class -/
abbrev Tab := List (Nat × Nat)

def cnt (l : Tab) (r : Nat) : Nat := l.countP fun e => Nat.ble e.1 r
/-- the class of the last stretch that begins at or ahead of r -/
def clsFrom : Tab → Nat → Nat → Nat
  | [], c, _ => c
  | e :: t, c, r => bif Nat.ble e.1 r then clsFrom t e.2 r else c
def cls (l : Tab) (r : Nat) : Nat := clsFrom l 0 r
/-- the last number of the stretch that r is in -/
def endFrom : Tab → Nat → Nat
  | [], _ => 1114111
  | e :: t, r => bif Nat.ble e.1 r then endFrom t r else e.1 - 1
/-- the beginnings rise -/
def rises : Tab → Bool
  | [] => true
  | [_] => true
  | a :: b :: t => Nat.blt a.1 b.1 && rises (b :: t)

theorem rises_tail {a : Nat × Nat} {t : Tab} (h : rises (a :: t) = true) : rises t = true := by
  cases t with
  | nil => rfl
  | cons b t => simp [rises] at h; exact h.2
theorem rises_head {a : Nat × Nat} : ∀ {t : Tab}, rises (a :: t) = true → ∀ e ∈ t, a.1 < e.1
  | [], _, e, he => by cases he
  | b :: t, h, e, he => by
    simp only [rises, Bool.and_eq_true] at h
    have hb : a.1 < b.1 := by have := h.1; simp [Nat.blt] at this; omega
    rcases List.mem_cons.1 he with rfl | he
    · exact hb
    · exact Nat.lt_trans hb (rises_head h.2 e he)

theorem cnt_zero {a : Nat × Nat} {t : Tab} {r : Nat} (h : rises (a :: t) = true) (hr : r < a.1) : cnt (a :: t) r = 0 := by
  unfold cnt
  rw [List.countP_eq_zero]
  intro e he
  rcases List.mem_cons.1 he with rfl | he
  · simp; omega
  · have := rises_head h e he
    simp; omega
theorem cnt_cons {a : Nat × Nat} {t : Tab} {r : Nat} (hr : a.1 ≤ r) : cnt (a :: t) r = cnt t r + 1 := by
  unfold cnt
  rw [List.countP_cons_of_pos]
  simpa using hr

theorem clsFrom_at : ∀ (l : Tab) (c r : Nat), rises l = true → clsFrom l c r = if cnt l r = 0 then c else (l.getD (cnt l r - 1) (0, 0)).2
  | [], c, r, _ => by simp [clsFrom, cnt]
  | e :: t, c, r, h => by
    unfold clsFrom
    by_cases hr : e.1 ≤ r
    · rw [cnt_cons hr, show Nat.ble e.1 r = true by simpa using hr, clsFrom_at t e.2 r (rises_tail h)]
      simp only [cond_true, Nat.add_one_ne_zero, if_false, Nat.add_sub_cancel]
      by_cases h0 : cnt t r = 0
      · rw [h0]; rfl
      · obtain ⟨k, hk⟩ := Nat.exists_eq_succ_of_ne_zero h0
        rw [hk]
        simp
    · rw [cnt_zero h (by omega), show Nat.ble e.1 r = false by rw [← Bool.not_eq_true]; simpa using hr]
      simp
theorem endFrom_at : ∀ (l : Tab) (r : Nat), rises l = true → endFrom l r = if cnt l r < l.length then (l.getD (cnt l r) (0, 0)).1 - 1 else 1114111
  | [], r, _ => by simp [endFrom, cnt]
  | e :: t, r, h => by
    unfold endFrom
    by_cases hr : e.1 ≤ r
    · rw [cnt_cons hr, show Nat.ble e.1 r = true by simpa using hr, endFrom_at t r (rises_tail h)]
      simp
    · rw [cnt_zero h (by omega), show Nat.ble e.1 r = false by rw [← Bool.not_eq_true]; simpa using hr]
      simp
theorem cnt_le (l : Tab) (r : Nat) : cnt l r ≤ l.length := List.countP_le_length

/-- of some numbers, one being 0, the greatest that is not beyond r -/
theorem greatest (B : List Nat) (h0 : 0 ∈ B) (r : Nat) : ∃ a ∈ B, a ≤ r ∧ ∀ b ∈ B, b ≤ r → b ≤ a := by
  have key : ∀ n, n ≤ r → (∃ a ∈ B, a ≤ n) → ∃ a ∈ B, a ≤ n ∧ ∀ b ∈ B, b ≤ n → b ≤ a := by
    intro n
    induction n with
    | zero =>
      rintro _ ⟨a, ha, hz⟩
      exact ⟨a, ha, hz, fun b _ hb => by omega⟩
    | succ n ih =>
      rintro hn ⟨a, ha, hz⟩
      by_cases hs : n + 1 ∈ B
      · exact ⟨n + 1, hs, Nat.le_refl _, fun b _ hb => hb⟩
      · obtain ⟨a', h1, h2, h3⟩ := ih (by omega) ⟨0, h0, Nat.zero_le _⟩
        refine ⟨a', h1, by omega, fun b hb hb' => ?_⟩
        rcases Nat.lt_or_ge n b with h | h
        · obtain rfl : b = n + 1 := by omega
          exact absurd hb hs
        · exact h3 b hb h
  exact key r (Nat.le_refl _) ⟨0, h0, Nat.zero_le _⟩

/-- all borders of the table are among B -/
def among (l : Tab) (B : List Nat) : Bool := l.all fun e => B.any fun b => Nat.beq b e.1
theorem among_mem {l : Tab} {B : List Nat} (h : among l B = true) {e : Nat × Nat} (he : e ∈ l) : e.1 ∈ B := by
  have := List.all_eq_true.1 h e he
  obtain ⟨b, hb, hq⟩ := List.any_eq_true.1 this
  rwa [show b = e.1 from Nat.eq_of_beq_eq_true hq] at hb
theorem clsFrom_same : ∀ (l : Tab) (c a r : Nat), (∀ e ∈ l, e.1 ≤ a ↔ e.1 ≤ r) → clsFrom l c r = clsFrom l c a
  | [], _, _, _, _ => rfl
  | e :: t, c, a, r, h => by
    unfold clsFrom
    have h1 : Nat.ble e.1 r = Nat.ble e.1 a := by
      rw [Bool.eq_iff_iff]
      simpa using (h e (by simp)).symm
    rw [h1, clsFrom_same t e.2 a r (fun x hx => h x (by simp [hx]))]
theorem cls_same {l : Tab} {B : List Nat} (hl : among l B = true) {a r : Nat} (ha : a ≤ r) (hg : ∀ b ∈ B, b ≤ r → b ≤ a) : cls l r = cls l a :=
  clsFrom_same l 0 a r fun _ he => ⟨fun h => Nat.le_trans h ha, fun h => hg _ (among_mem hl he) h⟩

/-- a switch over stretches: the first row that has the number counts -/
abbrev Rows := List (List (Nat × Nat) × Nat)
def hasRow (l : List (Nat × Nat)) (r : Nat) : Bool := l.any fun e => Nat.ble e.1 r && Nat.ble r e.2
def firstRow : Rows → Nat → Nat → Nat
  | [], c, _ => c
  | e :: t, c, r => bif hasRow e.1 r then e.2 else firstRow t c r
def amongRow (l : List (Nat × Nat)) (B : List Nat) : Bool := l.all fun e => (B.any fun b => Nat.beq b e.1) && B.any fun b => Nat.beq b (e.2 + 1)
theorem mem_beq {B : List Nat} {n : Nat} (h : (B.any fun b => Nat.beq b n) = true) : n ∈ B := by
  obtain ⟨b, hb, hq⟩ := List.any_eq_true.1 h
  rwa [show b = n from Nat.eq_of_beq_eq_true hq] at hb
theorem hasRow_same {l : List (Nat × Nat)} {B : List Nat} (hl : amongRow l B = true) {a r : Nat} (ha : a ≤ r) (hg : ∀ b ∈ B, b ≤ r → b ≤ a) : hasRow l r = hasRow l a := by
  unfold hasRow
  rw [Bool.eq_iff_iff]
  simp only [List.any_eq_true]
  refine exists_congr fun e => and_congr_right fun he => ?_
  have hm := List.all_eq_true.1 hl _ he
  rw [Bool.and_eq_true] at hm
  have h1 := hg _ (mem_beq hm.1)
  have h2 := hg _ (mem_beq hm.2)
  simp only [Bool.and_eq_true, Nat.ble_eq]
  constructor <;> rintro ⟨x, y⟩ <;> refine ⟨by omega, ?_⟩
  · omega
  · rcases Nat.lt_or_ge e.2 r with h | h
    · have := h2 h; omega
    · exact h
theorem firstRow_same {B : List Nat} {a r : Nat} (ha : a ≤ r) (hg : ∀ b ∈ B, b ≤ r → b ≤ a) : ∀ (l : Rows) (c : Nat), (l.all fun e => amongRow e.1 B) = true → firstRow l c r = firstRow l c a
  | [], _, _ => rfl
  | e :: t, c, h => by
    simp only [List.all_cons, Bool.and_eq_true] at h
    unfold firstRow
    rw [hasRow_same h.1 ha hg, firstRow_same ha hg t c h.2]
end Go.Proofs.YthkapcnhfdpdbaaDoor
