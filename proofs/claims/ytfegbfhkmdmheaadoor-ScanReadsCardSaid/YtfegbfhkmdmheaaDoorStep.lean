/- step: one call on both readers; here: End, Held and whatever else is no Feed. -/
import Derived.Test.YtfegbfhkmdmheaaDoorRefR
import Derived.Test.YtfegbfhkmdmheaaDoorFedQ
import Derived.Test.YtfegbfhkmdmheaaDoorPartsA
import Derived.Test.YtfegbfhkmdmheaaDoorSame
set_option linter.unusedSimpArgs false
set_option linter.unusedVariables false
namespace Go.Proofs.YtfegbfhkmdmheaaDoor
open Go.RowKit Go.Lib

/-- Of what lies below N nothing has turned but the blocks g and h. -/
structure Two (N g h : Nat) (a b : World) : Prop where
  os : b.os = a.os
  tape : b.tape = a.tape
  output : b.output = a.output
  size : a.heap.size ≤ b.heap.size
  block : ∀ k, k < N → k ≠ g → k ≠ h → b.heap[k]? = a.heap[k]?
theorem Two.refl (N g h : Nat) (a : World) : Two N g h a a := ⟨rfl, rfl, rfl, Nat.le_refl _, fun _ _ _ _ => rfl⟩
theorem Two.trans {N g h : Nat} {a b c : World} (x : Two N g h a b) (y : Two N g h b c) : Two N g h a c :=
  ⟨y.os.trans x.os, y.tape.trans x.tape, y.output.trans x.output, Nat.le_trans x.size y.size, fun k hk h1 h2 => (y.block k hk h1 h2).trans (x.block k hk h1 h2)⟩
theorem Two.grow {N g h : Nat} {a b : World} {row : Option Nat} (x : a.grownBy b row) (hN : N ≤ a.heap.size) (hr : ∀ k, row = some k → k = g ∨ k = h ∨ N ≤ k) : Two N g h a b :=
  ⟨x.os, x.tape, x.output, x.size, fun k hk h1 h2 => x.block k (by omega) (fun e => by rcases hr k e.symm with c | c | c <;> omega)⟩
theorem Two.below {N g h : Nat} {a b : World} (x : Below N a b) : Two N g h a b := ⟨x.os, x.tape, x.output, x.size, fun k hk _ _ => x.block k hk⟩

/-- Two readers that hold the same. -/
structure Pair (g h : Nat) (R : ByteArray) (w : World) : Prop where
  cg : w.cell? ⟨g, 0, none⟩ = some (.string R)
  fg : w.frozen? ⟨g, 0, none⟩ = false
  ch : w.cell? ⟨h, 0, none⟩ = some (.string R)
  fh : w.frozen? ⟨h, 0, none⟩ = false
  lg : g < w.heap.size
  lh : h < w.heap.size
  ne : g ≠ h
def HeldR (R : ByteArray) : Prop := R.data.toList = [] ∨ full R.data.toList = false
theorem HeldR.small {R : ByteArray} (h : HeldR R) : R.size ≤ 3 ∧ (segs R.data.toList).length = R.size := by
  have := fed_held h
  rw [size_list] at this
  exact this
theorem grown_cell {w w' : World} {g k : Nat} (h : w.grownBy w' (some g)) (hk : k < w.heap.size) (hne : k ≠ g) : w'.cell? ⟨k, 0, none⟩ = w.cell? ⟨k, 0, none⟩ ∧ w'.frozen? ⟨k, 0, none⟩ = w.frozen? ⟨k, 0, none⟩ := by
  have := h.block k hk (fun e => hne (Option.some.inj e))
  exact ⟨World.cell?_of_block (a := ⟨k, 0, none⟩) this, World.frozen?_of_block (a := ⟨k, 0, none⟩) this⟩

theorem Pair.other {g h : Nat} {R : ByteArray} {w w' : World} (p : Pair g h R w) {row : Option Nat} (x : w.grownBy w' row) (h1 : row ≠ some g) (h2 : row ≠ some h) : Pair g h R w' := by
  have a := x.block g p.lg (Ne.symm h1)
  have b := x.block h p.lh (Ne.symm h2)
  exact ⟨(World.cell?_of_block (a := ⟨g, 0, none⟩) a).trans p.cg, (World.frozen?_of_block (a := ⟨g, 0, none⟩) a).trans p.fg, (World.cell?_of_block (a := ⟨h, 0, none⟩) b).trans p.ch, (World.frozen?_of_block (a := ⟨h, 0, none⟩) b).trans p.fh,
    Nat.lt_of_lt_of_le p.lg x.size, Nat.lt_of_lt_of_le p.lh x.size, p.ne⟩
/-- behind one call: the readers hold the same again -/
def StepAt (w : World) (g h : Nat) (e : Ending) (w' : World) : Prop := ∃ R : ByteArray, e = .returned (.bool true) ∧ Pair g h R w' ∧ HeldR R ∧ Two w.heap.size g h w w'

theorem nums_same (w : World) (X Y : Nat) (A B : Option Addr) (n c d : Nat) (t : List Nat) (hx : Rd w X 1 A n (runeCells' t)) (hy : Rd w Y 1 B n (runeCells' t)) (hn : n ≤ maxLen) :
    Calls Tryd.prog 26 #[.slice A n c, .slice B n d] w fun e w' => e = .returned (.bool true) ∧ Below w.heap.size w w' := by
  have e : runeCells' t = (t.map fun (r : Nat) => (r : Int)).map (Value.int .i32) := by simp [runeCells']
  rw [e] at hx hy
  have := sameRunes_any w X Y A B n n c d _ _ hx hy hn
  simpa using this

set_option maxRecDepth 100000 in
set_option maxHeartbeats 2000000 in
theorem step_end (w : World) (g h n c : Nat) (A : Option Addr) (R : ByteArray) (P : Pair g h R w) (hR : HeldR R) :
    Calls Tryd.prog 8 #[.pointer (some ⟨g, 0, none⟩), .pointer (some ⟨h, 0, none⟩), .agg #[.int .i64 1, .slice A n c]] w (StepAt w g h) := by
  have hs := hR.small
  obtain ⟨N, hN⟩ : ∃ N, w.heap.size = N := ⟨_, rfl⟩
  have HN := Lib.hid hN
  have HP := Lib.hid P
  have HR := Lib.hid hR
  have HS := Lib.hid hs
  unfold StepAt
  rw [hN]
  clear hN P hR hs
  go_enter Tryd.func8, Tryd.ntmps8
  have hNa : N ≤ (w.alloc (.cells #[.int .i64 1, .slice A n c] 32)).heap.size := by have := HN.out; simp; omega
  have P1 := Lib.hid (HP.out.other (World.grownBy_alloc w (.cells #[.int .i64 1, .slice A n c] 32) none) (by simp) (by simp))
  have T1 := Lib.hid (Two.grow (N := N) (g := g) (h := h) (World.grownBy_alloc w (.cells #[.int .i64 1, .slice A n c] 32) none) (by have := HN.out; omega) (fun k e => by cases e))
  go_wp2_with fail
  obtain ⟨w1, hw1⟩ : ∃ w1, w.alloc (.cells #[.int .i64 1, .slice A n c] 32) = w1 := ⟨_, rfl⟩
  rw [hw1] at P1 T1 hNa ⊢
  clear hw1
  refine (refEnd_any w1 h R P1.out.ch P1.out.fh P1.out.lh HS.out.1).mono ?_
  rintro e w2 ⟨v, rfl, own2, hc2, hf2, gr2⟩
  obtain ⟨A2, c2, rfl, _, _⟩ := own_shape own2
  have Own2 := Lib.hid own2
  have G2 := Lib.hid gr2
  have T2 := Lib.hid (T1.out.trans (Two.grow (N := N) (g := g) (h := h) gr2 hNa (fun k e => by cases e; exact .inr (.inl rfl))))
  have hg2 := grown_cell gr2 P1.out.lg P1.out.ne
  have E := end_any w2 g R (hg2.1.trans P1.out.cg) (hg2.2.trans P1.out.fg) (Nat.lt_of_lt_of_le P1.out.lg gr2.size) HS.out.1
  rw [show runesOf R.data.toList = List.replicate R.size 65533 by rw [held_runes HR.out, size_list], List.length_replicate] at E
  have HE := Lib.hid E
  have HC2 := Lib.hid hc2
  have HF2 := Lib.hid hf2
  clear own2 hc2 hf2 gr2 hg2 E
  go_wp2_with fail
  refine HE.out.mono ?_
  rintro e w3 ⟨g3, c3, rfl, own3, hc3, hf3, gr3⟩
  have hl2 : h < w2.heap.size := Nat.lt_of_lt_of_le P1.out.lh G2.out.size
  have hh3 := grown_cell gr3 hl2 (Ne.symm P1.out.ne)
  have P3 : Pair g h ByteArray.empty w3 := ⟨hc3, hf3, hh3.1.trans HC2.out, hh3.2.trans HF2.out, Nat.lt_of_lt_of_le P1.out.lg (Nat.le_trans G2.out.size gr3.size), Nat.lt_of_lt_of_le hl2 gr3.size, P1.out.ne⟩
  have R3 := Lib.hid (Rd.own own3)
  have R2 := Lib.hid (Rd.own (Own2.out.kept gr3 (.inr fun e => by have := (Own2.out.lt g e).1; have := P1.out.lg; omega)))
  have T3 := Lib.hid (T2.out.trans (Two.grow (N := N) (g := g) (h := h) gr3 (Nat.le_trans hNa G2.out.size) (fun k e => by cases e; exact .inl rfl)))
  have HP3 := Lib.hid P3
  have hN3 : N ≤ w3.heap.size := Nat.le_trans hNa (Nat.le_trans G2.out.size gr3.size)
  clear own3 hc3 hf3 gr3 hh3 P3 HE
  go_wp2_with fail
  refine (nums_same w3 _ _ _ _ R.size _ _ _ R3.out R2.out (by unfold maxLen; have := HS.out.1; omega)).mono ?_
  rintro e w4 ⟨rfl, b4⟩
  go_wp2_with fail
  go_ret
  exact ⟨ByteArray.empty, rfl, HP3.out.other (grown_of_below b4) (by simp) (by simp), .inl rfl, T3.out.trans (Two.below (b4.mono hN3))⟩

set_option maxRecDepth 100000 in
set_option maxHeartbeats 2000000 in
theorem step_held (w : World) (g h n c : Nat) (A : Option Addr) (R : ByteArray) (P : Pair g h R w) (hR : HeldR R) :
    Calls Tryd.prog 8 #[.pointer (some ⟨g, 0, none⟩), .pointer (some ⟨h, 0, none⟩), .agg #[.int .i64 2, .slice A n c]] w (StepAt w g h) := by
  obtain ⟨N, hN⟩ : ∃ N, w.heap.size = N := ⟨_, rfl⟩
  have HN := Lib.hid hN
  have HP := Lib.hid P
  have HR := Lib.hid hR
  unfold StepAt
  rw [hN]
  clear hN P hR
  have P1 := Lib.hid (HP.out.other (World.grownBy_alloc w (.cells #[.int .i64 2, .slice A n c] 32) none) (by simp) (by simp))
  have T1 := Lib.hid (Two.grow (N := N) (g := g) (h := h) (World.grownBy_alloc w (.cells #[.int .i64 2, .slice A n c] 32) none) (by have := HN.out; omega) (fun k e => by cases e))
  go_enter Tryd.func8, Tryd.ntmps8
  go_wp2_with fail
  refine (held_any _ g R P1.out.cg).mono ?_
  rintro e w2 ⟨rfl, rfl⟩
  go_wp2_with fail
  refine (refHeld_any _ h R P1.out.ch).mono ?_
  rintro e w3 ⟨rfl, rfl⟩
  go_wp2_with fail
  go_ret
  exact ⟨R, rfl, P1.out, HR.out, T1.out⟩

set_option maxRecDepth 100000 in
set_option maxHeartbeats 2000000 in
theorem step_none (w : World) (g h n c : Nat) (A : Option Addr) (z : Int) (R : ByteArray) (P : Pair g h R w) (hR : HeldR R) (h0 : z ≠ 0) (h1 : z ≠ 1) (h2 : z ≠ 2) :
    Calls Tryd.prog 8 #[.pointer (some ⟨g, 0, none⟩), .pointer (some ⟨h, 0, none⟩), .agg #[.int .i64 z, .slice A n c]] w (StepAt w g h) := by
  obtain ⟨N, hN⟩ : ∃ N, w.heap.size = N := ⟨_, rfl⟩
  have HN := Lib.hid hN
  have HP := Lib.hid P
  have HR := Lib.hid hR
  unfold StepAt
  rw [hN]
  have z0 : (z == 0) = false := by simpa using h0
  have z1 : (z == 1) = false := by simpa using h1
  have z2 : (z == 2) = false := by simpa using h2
  clear hN P hR h0 h1 h2
  have P1 := Lib.hid (HP.out.other (World.grownBy_alloc w (.cells #[.int .i64 z, .slice A n c] 32) none) (by simp) (by simp))
  have T1 := Lib.hid (Two.grow (N := N) (g := g) (h := h) (World.grownBy_alloc w (.cells #[.int .i64 z, .slice A n c] 32) none) (by have := HN.out; omega) (fun k e => by cases e))
  go_enter Tryd.func8, Tryd.ntmps8
  go_wp2_with fail
  go_ret
  exact ⟨R, rfl, P1.out, HR.out, T1.out⟩
end Go.Proofs.YtfegbfhkmdmheaaDoor
