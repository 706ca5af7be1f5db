/- Layer 11, the laws' helpers that ask the program: its functions' contracts, for lists up to N, as a premise (to be taken off where they are walked). -/
import Derived.Test.YtjecbchnckknkaaFreshG
set_option linter.unusedSimpArgs false
set_option linter.unusedVariables false
namespace Go.Proofs.Ytjecbchnckknkaa
open Go.RowKit Go.Lib

def FmR (w : World) (xs : List Int) (e : Ending) (w' : World) : Prop :=
  ∃ Q A' c', w.heap.size ≤ Q ∧ e = .returned (.slice A' xs.length c') ∧ w'.ownsRow Q 27 1 (.slice A' xs.length c') xs.length (i8s xs) ∧ Below w.heap.size w w'
/-- what the program's functions answer -/
structure JoinP (N : Nat) : Prop where
  big : 4194304 ≤ N
  small : N ≤ 35184372087808
  forms : ∀ (A : Option Addr) (n c : Nat) (xs : List Int) (w : World), RdJ w A n xs → n ≤ N → Calls Try.prog 12 #[.slice A n c] w (FmR w (formsJ 0 (xs.map kJ)))
  shape : ∀ (r form : Int) (w : World), Calls Try.prog 23 #[.int .i32 r, .int .i8 form] w fun e w' => e = .returned (.int .i32 (shapeJ r form)) ∧ Below w.heap.size w w'
  shaped : ∀ (A : Option Addr) (n c : Nat) (xs : List Int) (w : World), RdJ w A n xs → n ≤ N → Calls Try.prog 18 #[.slice A n c] w (PlR w (shapedJ xs))
  plain : ∀ (r : Int) (w : World), Calls Try.prog 22 #[.int .i32 r] w (PlR w (plainJ r))
theorem own_newF (w : World) (xs : List Int) (hn : xs.length ≤ maxLen) : (w.alloc (.cells (i8s xs).toArray 27)).ownsRow w.heap.size 27 1 (.slice (some ⟨w.heap.size, 0, none⟩) xs.length xs.length) xs.length (i8s xs) :=
  ⟨by simp, .inr ⟨w.heap.size, xs.length, (i8s xs).toArray, rfl, Nat.le_refl _, heap_alloc_new w _, Nat.le_refl _, hn, by simp, by rw [Nat.mul_one]; exact List.take_of_length_le (by simp)⟩⟩
theorem litJ (w : World) (xs : List Int) (hn : xs.length ≤ maxLen) : RdJ (w.alloc (.cells (i32j xs).toArray 21)) (some ⟨w.heap.size, 0, none⟩) xs.length xs := RdJ.own (own_newJ w xs hn)
theorem litF (w : World) (xs : List Int) (hn : xs.length ≤ maxLen) : RdF (w.alloc (.cells (i8s xs).toArray 27)) (some ⟨w.heap.size, 0, none⟩) xs.length xs := RdF.own (own_newF w xs hn)
theorem below_newJ (w : World) (o : Obj) : Below w.heap.size w (w.alloc o) := (Below.refl _ w).alloc (Nat.le_refl _) o
/-- what is on hand: all below B as it was -/
def OnJ (B : Nat) (w W : World) : Prop := Below B w W ∧ B ≤ W.heap.size
theorem OnJ.on {B : Nat} {w W W' : World} (h : OnJ B w W) (hb : Below W.heap.size W W') : OnJ B w W' := ⟨h.1.trans (hb.mono h.2), Nat.le_trans h.2 hb.size⟩
set_option maxRecDepth 100000 in
set_option maxHeartbeats 4000000 in
theorem works_anyJ {N : Nat} (H : JoinP N) (w : World) : Calls Try.prog 16 #[] w fun e w' => e = .returned (.bool true) ∧ Below w.heap.size w w' := by
  have q1 : formsJ 0 ([0x628, 0x64b, 0x627, 0x628].map kJ) = [1, 0, 3, 0] := by decide +kernel
  have q2 : shapeJ 0x628 2 = 0xfe92 := by decide +kernel
  have q3 : shapedJ [0x644, 0x627] = [0xfedf, 0xfe8e] := by decide +kernel
  have q4 : plainJ 0xfefb = [0x644, 0x627] := by decide +kernel
  have q5 : plainJ 97 = [97] := by decide +kernel
  have H1 := Lib.hid (fun W => H.forms (some ⟨W.heap.size, 0, none⟩) 4 4 [0x628, 0x64b, 0x627, 0x628] (W.alloc (.cells (i32j [0x628, 0x64b, 0x627, 0x628]).toArray 21)) (litJ W _ (by unfold maxLen; simp only [List.length_cons, List.length_nil]; decide)) (by have := H.big; omega))
  have H2 := Lib.hid (fun W => H.shape 0x628 2 W)
  have H3 := Lib.hid (fun W => H.shaped (some ⟨W.heap.size, 0, none⟩) 2 2 [0x644, 0x627] (W.alloc (.cells (i32j [0x644, 0x627]).toArray 21)) (litJ W _ (by unfold maxLen; simp only [List.length_cons, List.length_nil]; decide)) (by have := H.big; omega))
  have H4 := Lib.hid (fun W => H.plain 0xfefb W)
  have H5 := Lib.hid (fun W => H.plain 97 W)
  rw [q1] at H1
  rw [q2] at H2
  rw [q3] at H3
  rw [q4] at H4
  rw [q5] at H5
  obtain ⟨B, hB⟩ : ∃ B, w.heap.size = B := ⟨_, rfl⟩
  have H0 := Lib.hid (show OnJ B w w from ⟨Below.refl _ _, by omega⟩)
  rw [hB]
  clear q1 q2 q3 q4 q5 hB
  go_enter Try.func16, Try.ntmps16
  go_wp2_with fail
  refine (H1.out _).mono ?_
  rintro _ W1 ⟨Q1, A1, c1, hQ1, rfl, o1, b1⟩
  have HB1 := Lib.hid ((H0.out.on (below_newJ _ _)).on b1)
  have HS1 := Lib.hid (fun c => same_anyi8 A1 (some ⟨W1.heap.size, 0, none⟩) 4 4 c1 c [1, 0, 3, 0] [1, 0, 3, 0] (W1.alloc (.cells (i8s [1, 0, 3, 0]).toArray 27)) ((RdF.own o1).below (below_newJ _ _)) (litF W1 _ (by unfold maxLen; simp only [List.length_cons, List.length_nil]; decide)) (by decide))
  clear o1 b1 hQ1 H0 H1
  go_wp2_with fail
  refine (HS1.out _).mono ?_
  rintro _ W2 ⟨rfl, b2⟩
  have HB2 := Lib.hid ((HB1.out.on (below_newJ _ _)).on b2)
  clear b2 HS1 HB1
  go_wp2_with fail
  refine (H2.out _).mono ?_
  rintro _ W3 ⟨rfl, b3⟩
  have HB3 := Lib.hid (HB2.out.on b3)
  clear b3 H2 HB2
  go_wp2_with fail
  refine (H3.out _).mono ?_
  rintro _ W4 ⟨Q4, A4, c4, hQ4, rfl, o4, b4⟩
  have HB4 := Lib.hid ((HB3.out.on (below_newJ _ _)).on b4)
  have HS4 := Lib.hid (fun c => same_anyi32 A4 (some ⟨W4.heap.size, 0, none⟩) 2 2 c4 c [0xfedf, 0xfe8e] [0xfedf, 0xfe8e] (W4.alloc (.cells (i32j [0xfedf, 0xfe8e]).toArray 21)) ((RdJ.own o4).below (below_newJ _ _)) (litJ W4 _ (by unfold maxLen; simp only [List.length_cons, List.length_nil]; decide)) (by decide))
  clear o4 b4 hQ4 H3 HB3
  go_wp2_with fail
  refine (HS4.out _).mono ?_
  rintro _ W5 ⟨rfl, b5⟩
  have HB5 := Lib.hid ((HB4.out.on (below_newJ _ _)).on b5)
  clear b5 HS4 HB4
  go_wp2_with fail
  refine (H4.out _).mono ?_
  rintro _ W6 ⟨Q6, A6, c6, hQ6, rfl, o6, b6⟩
  have HB6 := Lib.hid (HB5.out.on b6)
  have HS6 := Lib.hid (fun c => same_anyi32 A6 (some ⟨W6.heap.size, 0, none⟩) 2 2 c6 c [0x644, 0x627] [0x644, 0x627] (W6.alloc (.cells (i32j [0x644, 0x627]).toArray 21)) ((RdJ.own o6).below (below_newJ _ _)) (litJ W6 _ (by unfold maxLen; simp only [List.length_cons, List.length_nil]; decide)) (by decide))
  clear o6 b6 hQ6 H4 HB5
  go_wp2_with fail
  refine (HS6.out _).mono ?_
  rintro _ W7 ⟨rfl, b7⟩
  have HB7 := Lib.hid ((HB6.out.on (below_newJ _ _)).on b7)
  clear b7 HS6 HB6
  go_wp2_with fail
  refine (H5.out _).mono ?_
  rintro _ W8 ⟨Q8, A8, c8, hQ8, rfl, o8, b8⟩
  have HB8 := Lib.hid (HB7.out.on b8)
  have HS8 := Lib.hid (fun c => same_anyi32 A8 (some ⟨W8.heap.size, 0, none⟩) 1 1 c8 c [97] [97] (W8.alloc (.cells (i32j [97]).toArray 21)) ((RdJ.own o8).below (below_newJ _ _)) (litJ W8 _ (by unfold maxLen; simp only [List.length_cons, List.length_nil]; decide)) (by decide))
  clear o8 b8 hQ8 H5 HB7
  go_wp2_with fail
  refine (HS8.out _).mono ?_
  rintro _ W9 ⟨rfl, b9⟩
  have HB9 := Lib.hid ((HB8.out.on (below_newJ _ _)).on b9)
  clear b9 HS8 HB8
  go_wp2_with fail
  go_ret
  exact ⟨rfl, HB9.out.1⟩
end Go.Proofs.Ytjecbchnckknkaa
