/- Layer 13, the program: the neighbourhood's methods, and what each rule asks. -/
import Derived.Test.YthkapcnhfdpdbaaDoorBrkG
import Derived.Test.YthkapcnhfdpdbaaDoorBackP
import Derived.Test.YthkapcnhfdpdbaaDoorScanA
import Derived.Test.YthkapcnhfdpdbaaDoorClassG
import Derived.Laws.Rows
import Derived.Test.YthkapcnhfdpdbaaDoorClAll
set_option linter.unusedSimpArgs false
set_option linter.unusedVariables false
namespace Go.Proofs.YthkapcnhfdpdbaaDoor
open Go.RowKit Go.Shelf Go.Lib
attribute [local go_sem] Oper.semAt_some

abbrev nbV (a b p : Int) : Value := .agg #[.int .i8 a, .int .i8 b, .int .i8 p]
/-- a neighbourhood in its box -/
def NbB (W : World) (B : Nat) (a b p : Int) : Prop := W.heap[B]? = some (.cells #[.int .i8 a, .int .i8 b, .int .i8 p] 67 (0, 0))
section box
variable {W W' : World} {B : Nat} {a b p : Int}
theorem NbB.lt (h : NbB W B a b p) : B < W.heap.size := (Array.getElem?_eq_some_iff.1 h).1
theorem NbB.c0 (h : NbB W B a b p) : W.cell? ⟨B, 0, none⟩ = some (.int .i8 a) := cell_of_row _ _ 0 _ _ _ h
theorem NbB.c1 (h : NbB W B a b p) : W.cell? ⟨B, 1, none⟩ = some (.int .i8 b) := cell_of_row _ _ 1 _ _ _ h
theorem NbB.c2 (h : NbB W B a b p) : W.cell? ⟨B, 2, none⟩ = some (.int .i8 p) := cell_of_row _ _ 2 _ _ _ h
theorem NbB.f (h : NbB W B a b p) (j : Nat) : W.frozen? ⟨B, j, none⟩ = false := frozen_of_row _ _ j _ _ h
theorem NbB.below (h : NbB W B a b p) (hb : Below W.heap.size W W') : NbB W' B a b p := (hb.block B h.lt).trans h
theorem NbB.alloc (h : NbB W B a b p) (o : Obj) : NbB (W.alloc o) B a b p := h.below ((Below.refl _ W).alloc (Nat.le_refl _) o)
theorem NbB.other (h : NbB W B a b p) {B' : Nat} (hne : B ≠ B') (i : Nat) (u : Value) : NbB (W.setCell ⟨B', i, none⟩ u) B a b p := (heap_setCell_other W ⟨B', i, none⟩ B u hne).trans h
theorem NbB.set (h : NbB W B a b p) (x y z : Int) : NbB (((W.setCell ⟨B, 0, none⟩ (.int .i8 x)).setCell ⟨B, 1, none⟩ (.int .i8 y)).setCell ⟨B, 2, none⟩ (.int .i8 z)) B x y z := by
  have h1 := heap_setCell_same W B 0 _ _ (.int .i8 x) h
  have h2 := heap_setCell_same _ B 1 _ _ (.int .i8 y) h1
  exact heap_setCell_same _ B 2 _ _ (.int .i8 z) h2
theorem NbB.new (W : World) (a b p : Int) : NbB (W.alloc (.cells #[.int .i8 a, .int .i8 b, .int .i8 p] 67)) W.heap.size a b p := World.alloc_heap_new W _
end box
theorem spaced_any (a b p : Int) (w : World) : Calls Tryd.prog 52 #[nbV a b p] w fun e w' => e = .returned (.bool (a == 1)) ∧ Below w.heap.size w w' := by
  have hb : ∀ o, Below w.heap.size w (w.alloc o) := fun o => (Below.refl _ w).alloc (Nat.le_refl _) o
  go_enter Tryd.func52, Tryd.ntmps52
  go_wp2
  go_ret
  exact ⟨rfl, hb _⟩
theorem rule1_any (a b p : Int) (w : World) : Calls Tryd.prog 46 #[nbV a b p] w fun e w' => e = .returned (.bool (a == 2)) ∧ Below w.heap.size w w' := by
  have hb : ∀ o, Below w.heap.size w (w.alloc o) := fun o => (Below.refl _ w).alloc (Nat.le_refl _) o
  go_enter Tryd.func46, Tryd.ntmps46
  go_wp2
  go_ret
  exact ⟨rfl, hb _⟩
theorem rule2_any (a b p : Int) (w : World) : Calls Tryd.prog 48 #[nbV a b p] w fun e w' => e = .returned (.bool (p == 9)) ∧ Below w.heap.size w w' := by
  have hb : ∀ o, Below w.heap.size w (w.alloc o) := fun o => (Below.refl _ w).alloc (Nat.le_refl _) o
  go_enter Tryd.func48, Tryd.ntmps48
  go_wp2
  go_ret
  exact ⟨rfl, hb _⟩
theorem rule3_any (a b p : Int) (w : World) : Calls Tryd.prog 53 #[nbV a b p] w fun e w' => e = .returned (.bool (b == 6)) ∧ Below w.heap.size w w' := by
  have hb : ∀ o, Below w.heap.size w (w.alloc o) := fun o => (Below.refl _ w).alloc (Nat.le_refl _) o
  go_enter Tryd.func53, Tryd.ntmps53
  go_wp2
  go_ret
  exact ⟨rfl, hb _⟩
theorem rule5_any (a b p : Int) (w : World) : Calls Tryd.prog 55 #[nbV a b p] w fun e w' => e = .returned (.bool (a == 6)) ∧ Below w.heap.size w w' := by
  have hb : ∀ o, Below w.heap.size w (w.alloc o) := fun o => (Below.refl _ w).alloc (Nat.le_refl _) o
  go_enter Tryd.func55, Tryd.ntmps55
  go_wp2
  go_ret
  exact ⟨rfl, hb _⟩
theorem rule7_any (a b p : Int) (w : World) : Calls Tryd.prog 57 #[nbV a b p] w fun e w' => e = .returned (.bool true) ∧ Below w.heap.size w w' := by
  have hb : ∀ o, Below w.heap.size w (w.alloc o) := fun o => (Below.refl _ w).alloc (Nat.le_refl _) o
  go_enter Tryd.func57, Tryd.ntmps57
  go_wp2
  go_ret
  exact ⟨rfl, hb _⟩
set_option maxHeartbeats 1000000 in
theorem rule4_any (a b p : Int) (w : World) : Calls Tryd.prog 54 #[nbV a b p] w fun e w' => e = .returned (.bool (decide (a = 6 ∧ b = 10))) ∧ Below w.heap.size w w' := by
  have hb : ∀ o, Below w.heap.size w (w.alloc o) := fun o => (Below.refl _ w).alloc (Nat.le_refl _) o
  obtain ⟨v, hv⟩ : ∃ v, decide (a = 6 ∧ b = 10) = v := ⟨_, rfl⟩
  rw [hv]
  by_cases h1 : a = 6
  · by_cases h2 : b = 10
    · obtain rfl : true = v := by rw [← hv]; simp [h1, h2]
      have e1 : (a == 6) = true := by simp [h1]
      have e2 : (b == 10) = true := by simp [h2]
      clear h1 h2 hv
      go_enter Tryd.func54, Tryd.ntmps54
      go_wp2
      go_ret
      exact ⟨rfl, hb _⟩
    · obtain rfl : false = v := by rw [← hv]; simp [h2]
      have e1 : (a == 6) = true := by simp [h1]
      have e2 : (b == 10) = false := by simp [h2]
      clear h1 h2 hv
      go_enter Tryd.func54, Tryd.ntmps54
      go_wp2
      go_ret
      exact ⟨rfl, hb _⟩
  · obtain rfl : false = v := by rw [← hv]; simp [h1]
    have e1 : (a == 6) = false := by simp [h1]
    clear h1 hv
    go_enter Tryd.func54, Tryd.ntmps54
    go_wp2
    go_ret
    exact ⟨rfl, hb _⟩
set_option maxHeartbeats 1000000 in
theorem rule6_any (a b p : Int) (w : World) : Calls Tryd.prog 56 #[nbV a b p] w fun e w' => e = .returned (.bool (decide (a = 7 ∨ b = 7))) ∧ Below w.heap.size w w' := by
  have hb : ∀ o, Below w.heap.size w (w.alloc o) := fun o => (Below.refl _ w).alloc (Nat.le_refl _) o
  obtain ⟨v, hv⟩ : ∃ v, decide (a = 7 ∨ b = 7) = v := ⟨_, rfl⟩
  rw [hv]
  by_cases h1 : a = 7
  · obtain rfl : true = v := by rw [← hv]; simp [h1]
    have e1 : (a == 7) = true := by simp [h1]
    clear h1 hv
    go_enter Tryd.func56, Tryd.ntmps56
    go_wp2
    go_ret
    exact ⟨rfl, hb _⟩
  · have e1 : (a == 7) = false := by simp [h1]
    have e2 : (b == 7) = v := by rw [← hv]; simp [h1]; rfl
    clear h1 hv
    go_enter Tryd.func56, Tryd.ntmps56
    go_wp2
    go_ret
    exact ⟨rfl, hb _⟩
set_option maxHeartbeats 1000000 in
theorem joined13_any (a b p : Int) (w : World) : Calls Tryd.prog 49 #[nbV a b p] w fun e w' => e = .returned (.bool (decide (a = 12 ∨ b = 12))) ∧ Below w.heap.size w w' := by
  have hb : ∀ o, Below w.heap.size w (w.alloc o) := fun o => (Below.refl _ w).alloc (Nat.le_refl _) o
  obtain ⟨v, hv⟩ : ∃ v, decide (a = 12 ∨ b = 12) = v := ⟨_, rfl⟩
  rw [hv]
  by_cases h1 : a = 12
  · obtain rfl : true = v := by rw [← hv]; simp [h1]
    have e1 : (a == 12) = true := by simp [h1]
    clear h1 hv
    go_enter Tryd.func49, Tryd.ntmps49
    go_wp2
    go_ret
    exact ⟨rfl, hb _⟩
  · have e1 : (a == 12) = false := by simp [h1]
    have e2 : (b == 12) = v := by rw [← hv]; simp [h1]; rfl
    clear h1 hv
    go_enter Tryd.func49, Tryd.ntmps49
    go_wp2
    go_ret
    exact ⟨rfl, hb _⟩
set_option maxHeartbeats 1000000 in
theorem trailed_any (a b p : Int) (w : World) : Calls Tryd.prog 47 #[nbV a b p] w fun e w' => e = .returned (.bool (decide (b = -1 ∨ b = 2 ∨ b = 1 ∨ b = 9))) ∧ Below w.heap.size w w' := by
  have hb : ∀ o, Below w.heap.size w (w.alloc o) := fun o => (Below.refl _ w).alloc (Nat.le_refl _) o
  obtain ⟨v, hv⟩ : ∃ v, decide (b = -1 ∨ b = 2 ∨ b = 1 ∨ b = 9) = v := ⟨_, rfl⟩
  rw [hv]
  by_cases h1 : b = -1
  · obtain rfl : true = v := by rw [← hv]; simp [h1]
    have e1 : (b == -1) = true := by simp [h1]
    clear h1 hv
    go_enter Tryd.func47, Tryd.ntmps47
    go_wp2
    go_ret
    exact ⟨rfl, hb _⟩
  have e1 : (b == -1) = false := by simp [h1]
  by_cases h2 : b = 2
  · obtain rfl : true = v := by rw [← hv]; simp [h2]
    have e2 : (b == 2) = true := by simp [h2]
    clear h1 h2 hv
    go_enter Tryd.func47, Tryd.ntmps47
    go_wp2
    go_ret
    exact ⟨rfl, hb _⟩
  have e2 : (b == 2) = false := by simp [h2]
  by_cases h3 : b = 1
  · obtain rfl : true = v := by rw [← hv]; simp [h3]
    have e3 : (b == 1) = true := by simp [h3]
    clear h1 h2 h3 hv
    go_enter Tryd.func47, Tryd.ntmps47
    go_wp2
    go_ret
    exact ⟨rfl, hb _⟩
  have e3 : (b == 1) = false := by simp [h3]
  by_cases h4 : b = 9
  · obtain rfl : true = v := by rw [← hv]; simp [h4]
    have e4 : (b == 9) = true := by simp [h4]
    clear h1 h2 h3 h4 hv
    go_enter Tryd.func47, Tryd.ntmps47
    go_wp2
    go_ret
    exact ⟨rfl, hb _⟩
  · obtain rfl : false = v := by rw [← hv]; simp [h1, h2, h3, h4]
    have e4 : (b == 9) = false := by simp [h4]
    clear h1 h2 h3 h4 hv
    go_enter Tryd.func47, Tryd.ntmps47
    go_wp2
    go_ret
    exact ⟨rfl, hb _⟩
set_option maxHeartbeats 1000000 in
theorem glued_any (a b p : Int) (w : World) : Calls Tryd.prog 50 #[nbV a b p] w fun e w' => e = .returned (.bool (decide (a = 5 ∨ (b = 5 ∧ a ≠ 1 ∧ a ≠ 6)))) ∧ Below w.heap.size w w' := by
  obtain ⟨W0, hW0⟩ : ∃ W0, w.alloc (.cells #[.int .i8 a, .int .i8 b, .int .i8 p] 67) = W0 := ⟨_, rfl⟩
  have hb : Below w.heap.size w W0 := by rw [← hW0]; exact (Below.refl _ w).alloc (Nat.le_refl _) _
  have hn : NbB W0 w.heap.size a b p := by rw [← hW0]; exact NbB.new w a b p
  have c0 := hn.c0
  have c1 := hn.c1
  have c2 := hn.c2
  have HS := Lib.hid (fun W => spaced_any a b p W)
  have Hb := Lib.hid hb
  obtain ⟨v, hv⟩ : ∃ v, decide (a = 5 ∨ (b = 5 ∧ a ≠ 1 ∧ a ≠ 6)) = v := ⟨_, rfl⟩
  rw [hv]
  clear hb
  by_cases h1 : a = 5
  · obtain rfl : true = v := by rw [← hv]; simp [h1]
    have e1 : (a == 5) = true := by simp [h1]
    clear h1 hv hn
    go_enter Tryd.func50, Tryd.ntmps50
    go_wp2_with fail
    go_ret
    exact ⟨rfl, Hb.out⟩
  have e1 : (a == 5) = false := by simp [h1]
  by_cases h2 : b = 5
  · have e2 : (b == 5) = true := by simp [h2]
    by_cases h3 : a = 1
    · obtain rfl : false = v := by rw [← hv]; simp [h3]
      have e3 : (a == 1) = true := by simp [h3]
      rw [e3] at HS
      clear h1 h2 h3 hv hn
      go_enter Tryd.func50, Tryd.ntmps50
      go_wp2_with fail
      refine (HS.out _).mono ?_
      rintro _ w1 ⟨rfl, b1⟩
      have Hb1 := Lib.hid (Hb.out.trans (b1.mono Hb.out.size))
      clear b1
      go_wp2_with fail
      go_ret
      exact ⟨rfl, Hb1.out⟩
    · have e3 : (a == 1) = false := by simp [h3]
      have e6 : (a != 6) = v := by rw [← hv]; by_cases h6 : a = 6 <;> simp [h6, h1, h2, h3]
      rw [e3] at HS
      clear h1 h2 h3 hv
      go_enter Tryd.func50, Tryd.ntmps50
      go_wp2_with fail
      refine (HS.out _).mono ?_
      rintro _ w1 ⟨rfl, b1⟩
      have Hb1 := Lib.hid (Hb.out.trans (b1.mono Hb.out.size))
      have d0 := (hn.below b1).c0
      clear b1 hn
      go_wp2_with fail
      go_ret
      exact ⟨rfl, Hb1.out⟩
  · obtain rfl : false = v := by rw [← hv]; simp [h1, h2]
    have e2 : (b == 5) = false := by simp [h2]
    clear h1 h2 hv hn
    go_enter Tryd.func50, Tryd.ntmps50
    go_wp2_with fail
    go_ret
    exact ⟨rfl, Hb.out⟩
set_option maxHeartbeats 1000000 in
theorem enclosed_any (a b p : Int) (w : World) : Calls Tryd.prog 51 #[nbV a b p] w fun e w' => e = .returned (.bool (decide (b = 4 ∨ (b = 11 ∧ a ≠ 1) ∨ p = 3))) ∧ Below w.heap.size w w' := by
  obtain ⟨W0, hW0⟩ : ∃ W0, w.alloc (.cells #[.int .i8 a, .int .i8 b, .int .i8 p] 67) = W0 := ⟨_, rfl⟩
  have hb : Below w.heap.size w W0 := by rw [← hW0]; exact (Below.refl _ w).alloc (Nat.le_refl _) _
  have hn : NbB W0 w.heap.size a b p := by rw [← hW0]; exact NbB.new w a b p
  have c0 := hn.c0
  have c1 := hn.c1
  have c2 := hn.c2
  have HS := Lib.hid (fun W => spaced_any a b p W)
  have Hb := Lib.hid hb
  obtain ⟨v, hv⟩ : ∃ v, decide (b = 4 ∨ (b = 11 ∧ a ≠ 1) ∨ p = 3) = v := ⟨_, rfl⟩
  rw [hv]
  clear hb
  by_cases h1 : b = 4
  · obtain rfl : true = v := by rw [← hv]; simp [h1]
    have e1 : (b == 4) = true := by simp [h1]
    clear h1 hv hn
    go_enter Tryd.func51, Tryd.ntmps51
    go_wp2_with fail
    go_ret
    exact ⟨rfl, Hb.out⟩
  have e1 : (b == 4) = false := by simp [h1]
  by_cases h2 : b = 11
  · have e2 : (b == 11) = true := by simp [h2]
    by_cases h3 : a = 1
    · have e4 : (p == 3) = v := by rw [← hv]; simp [h1, h3]; rfl
      have e3 : (a == 1) = true := by simp [h3]
      rw [e3] at HS
      clear h1 h2 h3 hv
      go_enter Tryd.func51, Tryd.ntmps51
      go_wp2_with fail
      refine (HS.out _).mono ?_
      rintro _ w1 ⟨rfl, b1⟩
      have Hb1 := Lib.hid (Hb.out.trans (b1.mono Hb.out.size))
      have d2 := (hn.below b1).c2
      clear b1 hn
      go_wp2_with fail
      go_ret
      exact ⟨rfl, Hb1.out⟩
    · obtain rfl : true = v := by rw [← hv]; simp [h2, h3]
      have e3 : (a == 1) = false := by simp [h3]
      rw [e3] at HS
      clear h1 h2 h3 hv hn
      go_enter Tryd.func51, Tryd.ntmps51
      go_wp2_with fail
      refine (HS.out _).mono ?_
      rintro _ w1 ⟨rfl, b1⟩
      have Hb1 := Lib.hid (Hb.out.trans (b1.mono Hb.out.size))
      clear b1
      go_wp2_with fail
      go_ret
      exact ⟨rfl, Hb1.out⟩
  · have e2 : (b == 11) = false := by simp [h2]
    have e4 : (p == 3) = v := by rw [← hv]; simp [h1, h2]; rfl
    clear h1 h2 hv hn
    go_enter Tryd.func51, Tryd.ntmps51
    go_wp2_with fail
    go_ret
    exact ⟨rfl, Hb.out⟩
end Go.Proofs.YthkapcnhfdpdbaaDoor

/- Layer 13, the program: the class of a cluster, and the neighbourhood onward. -/
namespace Go.Proofs.YthkapcnhfdpdbaaDoor
open Go.RowKit Go.Shelf Go.Lib
attribute [local go_sem] Oper.semAt_some

set_option maxHeartbeats 1000000 in
theorem pclass13_any (c : ByteArray) (w : World) (hT : Utf8Tabs 0 1 w) : Calls Tryd.prog 60 #[.string c] w fun e w' => e = .returned (.int .i8 (rawN c : Nat)) ∧ Below w.heap.size w w' := by
  have HN := Lib.hid (next_any c w hT)
  unfold rawN
  obtain ⟨x, hx⟩ : ∃ x, (nxt c.data.toList).1 = x := ⟨_, rfl⟩
  rw [hx] at HN ⊢
  have HB := Lib.hid (fun W => Break_any (x : Int) W)
  obtain ⟨b, hb⟩ : ∃ b, cls breaksL (char (x : Int)) = b := ⟨_, rfl⟩
  rw [hb] at HB ⊢
  clear hb hT hx
  go_enter Tryd.func60, Tryd.ntmps60
  go_wp2_with fail
  refine HN.out.mono ?_
  rintro _ w1 ⟨rfl, b1⟩
  have B1 := Lib.hid b1
  clear b1 HN
  go_wp2_with fail
  refine (HB.out _).mono ?_
  rintro _ w2 ⟨rfl, b2⟩
  have B2 := Lib.hid (B1.out.trans (b2.mono B1.out.size))
  clear b2 B1 HB
  go_wp2_with fail
  go_ret
  exact ⟨rfl, B2.out⟩
theorem NbB.set01 {W : World} {B : Nat} {a b p : Int} (h : NbB W B a b p) (x y : Int) : NbB ((W.setCell ⟨B, 0, none⟩ (.int .i8 x)).setCell ⟨B, 1, none⟩ (.int .i8 y)) B x y p := by
  have h1 := heap_setCell_same W B 0 _ _ (.int .i8 x) h
  exact heap_setCell_same _ B 1 _ _ (.int .i8 y) h1
theorem NbB.set2 {W : World} {B : Nat} {a b p : Int} (h : NbB W B a b p) (z : Int) : NbB (W.setCell ⟨B, 2, none⟩ (.int .i8 z)) B a b z := heap_setCell_same W B 2 _ _ (.int .i8 z) h
theorem below_set (w W : World) (B g i : Nat) (v : Value) (h : Below B w W) (hg : B ≤ g) : Below B w (W.setCell ⟨g, i, none⟩ v) := h.setCell (p := ⟨g, i, none⟩) hg v
set_option maxHeartbeats 2000000 in
theorem onward13_any (a b p v : Int) (w : World) : Calls Tryd.prog 59 #[nbV a b p, .int .i8 v] w fun e w' => e = .returned (nbV b v (if b = 1 then p else b)) ∧ Below w.heap.size w w' := by
  obtain ⟨q, hq⟩ : ∃ q, (if b = 1 then p else b) = q := ⟨_, rfl⟩
  rw [hq]
  obtain ⟨B, hB⟩ : ∃ B, w.heap.size = B := ⟨_, rfl⟩
  obtain ⟨W0, hW0⟩ : ∃ W0, (w.alloc (.cells #[.int .i8 a, .int .i8 b, .int .i8 p] 67)).alloc (.cells #[.int .i8 0, .int .i8 0, .int .i8 0] 67) = W0 := ⟨_, rfl⟩
  have hb : Below B w W0 := by rw [← hW0]; exact ((Below.refl _ w).alloc (by omega) _).alloc (by simp; omega) _
  have hn : NbB W0 B a b p := by rw [← hW0, ← hB]; exact (NbB.new w a b p).alloc _
  have hr : NbB W0 (B + 1) 0 0 0 := by rw [← hW0, ← hB]; have h := NbB.new (w.alloc (.cells #[.int .i8 a, .int .i8 b, .int .i8 p] 67)) 0 0 0; rw [World.size_alloc] at h; exact h
  have c0 := hn.c0
  have c1 := hn.c1
  have c2 := hn.c2
  have f0 := hn.f 0
  have f1 := hn.f 1
  have f2 := hn.f 2
  have HS := Lib.hid (fun W => spaced_any b v p W)
  have HX := Lib.hid (show Below B w W0 ∧ NbB W0 B a b p ∧ NbB W0 (B + 1) 0 0 0 from ⟨hb, hn, hr⟩)
  clear hb hn hr
  go_enter Tryd.func59, Tryd.ntmps59
  rw [hB]
  go_wp2_with fail
  refine (HS.out _).mono ?_
  rintro _ w1 ⟨rfl, b1⟩
  obtain ⟨hb, hn, hr⟩ := HX.out
  have n1 : NbB w1 B b v p := (hn.set01 b v).below b1
  have r1 : NbB w1 (B + 1) 0 0 0 := ((hr.other (show B + 1 ≠ B by omega) 0 _).other (show B + 1 ≠ B by omega) 1 _).below b1
  have hb1 : Below B w w1 := ((hb.setCell (p := ⟨B, 0, none⟩) (Nat.le_refl _) (.int .i8 b)).setCell (p := ⟨B, 1, none⟩) (Nat.le_refl _) (.int .i8 v)).trans (b1.mono (by have := n1.lt; have := hn.lt; simp only [World.size_setCell]; omega))
  clear hb hn hr HX HS c0 c1 c2 f0 f1 f2 hW0 b1
  have d0 := n1.c0
  have d1 := n1.c1
  have d2 := n1.c2
  have e0 := r1.c0
  have e1 := r1.c1
  have e2 := r1.c2
  have g0 := r1.f 0
  have g1 := r1.f 1
  have g2 := r1.f 2
  by_cases hb1' : b = 1
  · obtain rfl : p = q := by rw [← hq, if_pos hb1']
    have t1 : (b == 1) = true := by simp [hb1']
    have HX := Lib.hid (show Below B w w1 ∧ NbB w1 (B + 1) 0 0 0 from ⟨hb1, r1⟩)
    clear hq hb1' hb1 r1 n1
    go_wp2_with fail
    have hz := (HX.out.2.set b v p)
    refine bodyPost_ret (results_cell_row rfl _ _ _ _ _ _ _ rfl hz Tryd.underlying67 rfl (by kernel_rfl)) rfl ?_
    exact ⟨rfl, below_set _ _ _ _ _ _ (below_set _ _ _ _ _ _ (below_set _ _ _ _ _ _ HX.out.1 (by omega)) (by omega)) (by omega)⟩
  · obtain rfl : b = q := by rw [← hq, if_neg hb1']
    have t1 : (b == 1) = false := by simp [hb1']
    have h2 := n1.f 2
    have HX := Lib.hid (show Below B w w1 ∧ NbB w1 (B + 1) 0 0 0 from ⟨hb1, r1⟩)
    clear hq hb1' hb1 r1 n1
    go_wp2_with fail
    have hz := ((HX.out.2.other (show B + 1 ≠ B by omega) 2 (.int .i8 b)).set b v b)
    refine bodyPost_ret (results_cell_row rfl _ _ _ _ _ _ _ rfl hz Tryd.underlying67 rfl (by kernel_rfl)) rfl ?_
    exact ⟨rfl, below_set _ _ _ _ _ _ (below_set _ _ _ _ _ _ (below_set _ _ _ _ _ _ (below_set _ _ _ _ _ _ HX.out.1 (by omega)) (by omega)) (by omega)) (by omega)⟩
end Go.Proofs.YthkapcnhfdpdbaaDoor

/- Layer 13, the program: the list of the rules, each with what it asks. -/
namespace Go.Proofs.YthkapcnhfdpdbaaDoor
open Go.RowKit Go.Shelf Go.Lib
attribute [local go_sem] Oper.semAt_some

/-- the list of the rules as it lies: the functions, and what they say -/
def ruleCells : Array Value := #[.func (.func 46) #[] #[], .int .i8 2, .func (.func 47) #[] #[], .int .i8 0, .func (.func 48) #[] #[], .int .i8 1,
  .func (.func 49) #[] #[], .int .i8 0, .func (.func 50) #[] #[], .int .i8 0, .func (.func 51) #[] #[], .int .i8 0,
  .func (.func 52) #[] #[], .int .i8 1, .func (.func 53) #[] #[], .int .i8 0, .func (.func 54) #[] #[], .int .i8 0,
  .func (.func 55) #[] #[], .int .i8 1, .func (.func 56) #[] #[], .int .i8 1, .func (.func 57) #[] #[], .int .i8 0]
set_option maxRecDepth 100000 in
set_option maxHeartbeats 1000000 in
theorem rules13_any (w : World) : Calls Tryd.prog 32 #[] w fun e w' => e = .returned (.slice (some ⟨w.heap.size, 0, none⟩) 12 12) ∧ w' = w.alloc (.cells ruleCells 70) := by
  go_enter Tryd.func32, Tryd.ntmps32
  go_wp2
  go_ret
  exact ⟨rfl, rfl⟩
/-- a rule of the list -/
structure RuleK (a b p : Int) (m fn sv : Nat) (bo : Bool) : Prop where
  c0 : ruleCells[2 * m]? = some (.func (.func fn) #[] #[])
  c1 : ruleCells[2 * m + 1]? = some (.int .i8 (sv : Int))
  row : (rowN (a, b, p))[m]? = some (bo, sv)
  calls : ∀ W, Calls Tryd.prog fn #[nbV a b p] W fun e w' => e = .returned (.bool bo) ∧ Below W.heap.size W w'
  enters : ∀ args w, (callFunc fn args).run Tryd.prog w = .ok (.enter fn args) w
theorem rule_is (a b p : Int) (m : Nat) (hm : m < 12) : ∃ fn sv bo, RuleK a b p m fn sv bo := by
  match m, hm with
  | 0, _ => exact ⟨_, 2, _, rfl, rfl, rfl, fun W => rule1_any a b p W, enters_of Tryd.func46 (by kernel_rfl) rfl⟩
  | 1, _ => exact ⟨_, 0, _, rfl, rfl, rfl, fun W => trailed_any a b p W, enters_of Tryd.func47 (by kernel_rfl) rfl⟩
  | 2, _ => exact ⟨_, 1, _, rfl, rfl, rfl, fun W => rule2_any a b p W, enters_of Tryd.func48 (by kernel_rfl) rfl⟩
  | 3, _ => exact ⟨_, 0, _, rfl, rfl, rfl, fun W => joined13_any a b p W, enters_of Tryd.func49 (by kernel_rfl) rfl⟩
  | 4, _ => exact ⟨_, 0, _, rfl, rfl, rfl, fun W => glued_any a b p W, enters_of Tryd.func50 (by kernel_rfl) rfl⟩
  | 5, _ => exact ⟨_, 0, _, rfl, rfl, rfl, fun W => enclosed_any a b p W, enters_of Tryd.func51 (by kernel_rfl) rfl⟩
  | 6, _ => exact ⟨_, 1, _, rfl, rfl, rfl, fun W => spaced_any a b p W, enters_of Tryd.func52 (by kernel_rfl) rfl⟩
  | 7, _ => exact ⟨_, 0, _, rfl, rfl, rfl, fun W => rule3_any a b p W, enters_of Tryd.func53 (by kernel_rfl) rfl⟩
  | 8, _ => exact ⟨_, 0, _, rfl, rfl, rfl, fun W => rule4_any a b p W, enters_of Tryd.func54 (by kernel_rfl) rfl⟩
  | 9, _ => exact ⟨_, 1, _, rfl, rfl, rfl, fun W => rule5_any a b p W, enters_of Tryd.func55 (by kernel_rfl) rfl⟩
  | 10, _ => exact ⟨_, 1, _, rfl, rfl, rfl, fun W => rule6_any a b p W, enters_of Tryd.func56 (by kernel_rfl) rfl⟩
  | 11, _ => exact ⟨_, 0, _, rfl, rfl, rfl, fun W => rule7_any a b p W, enters_of Tryd.func57 (by kernel_rfl) rfl⟩
theorem row_len (n : Nb) : (rowN n).length = 12 := rfl
/-- the last rule always applies -/
theorem row_last (n : Nb) : (rowN n)[11]? = some (true, 0) := rfl
theorem say_hit {n : Nb} {m sv : Nat} (h : (rowN n)[m]? = some (true, sv)) : sayL ((rowN n).drop m) = sv := by
  rw [List.drop_eq_getElem_cons (List.getElem?_eq_some_iff.1 h).1, (List.getElem?_eq_some_iff.1 h).2]
  rfl
theorem say_on {n : Nb} {m sv : Nat} (h : (rowN n)[m]? = some (false, sv)) : sayL ((rowN n).drop m) = sayL ((rowN n).drop (m + 1)) := by
  rw [List.drop_eq_getElem_cons (List.getElem?_eq_some_iff.1 h).1, (List.getElem?_eq_some_iff.1 h).2]
  rfl
end Go.Proofs.YthkapcnhfdpdbaaDoor
