/- Layer 11, the law JoinShapes, over the program's contracts. -/
import Derived.Test.YtjecbchnckknkaaHyJ
set_option linter.unusedSimpArgs false
set_option linter.unusedVariables false
namespace Go.Proofs.Ytjecbchnckknkaa
open Go.RowKit Go.Lib

theorem same_yes32 (A A' : Option Addr) (n c c' : Nat) (xs : List Int) (w : World) (hx : RdJ w A n xs) (hy : RdJ w A' n xs) (hn : n ≤ 140737488355328) :
    Calls Try.prog 19 #[.slice A n c, .slice A' n c'] w fun e w' => e = .returned (.bool true) ∧ Below w.heap.size w w' := by
  have h := same_anyi32 A A' n n c c' xs xs w hx hy hn
  rwa [decide_eq_true (show xs = xs from rfl)] at h
theorem same_yes8 (A A' : Option Addr) (n c c' : Nat) (xs : List Int) (w : World) (hx : RdF w A n xs) (hy : RdF w A' n xs) (hn : n ≤ 140737488355328) :
    Calls Try.prog 13 #[.slice A n c, .slice A' n c'] w fun e w' => e = .returned (.bool true) ∧ Below w.heap.size w w' := by
  have h := same_anyi8 A A' n n c c' xs xs w hx hy hn
  rwa [decide_eq_true (show xs = xs from rfl)] at h
set_option maxRecDepth 100000 in
set_option maxHeartbeats 4000000 in
theorem joinShapes_anyJ {N : Nat} (H : JoinP N) (r form : Int) (w : World) : Calls Try.prog 5 #[.int .i32 r, .int .i8 form] w fun e w' => e = .returned (.bool true) ∧ Below w.heap.size w w' := by
  obtain ⟨B, hB⟩ : ∃ B, w.heap.size = B := ⟨_, rfl⟩
  have H0 := Lib.hid (show OnJ B w w from ⟨Below.refl _ _, by omega⟩)
  rw [hB]
  clear hB
  have hpl := plainJ_len r
  obtain ⟨p, hp⟩ : ∃ p, plainJ r = p := ⟨_, rfl⟩
  obtain ⟨s, hs⟩ : ∃ s, shapeJ r form = s := ⟨_, rfl⟩
  have HP := Lib.hid (fun W => H.plain r W)
  have HRP := Lib.hid (fun W => rplain_any r W)
  have HS := Lib.hid (fun W => H.shape r form W)
  have HRS := Lib.hid (fun W => rshape_any r form W)
  have HW := Lib.hid (fun W => works_anyJ H W)
  rw [hp] at HP HRP hpl
  rw [hs] at HS HRS
  obtain ⟨n, hn⟩ : ∃ n, p.length = n := ⟨_, rfl⟩
  have hn2 : n ≤ 2 := by omega
  have hss : (s == s) = true := by simp
  clear hp hs hpl
  go_enter Try.func5, Try.ntmps5
  go_wp2_with fail
  refine (HRP.out _).mono ?_
  rintro _ W1 ⟨Q1, A1, c1, hQ1, rfl, o1, b1⟩
  rw [hn] at o1 ⊢
  have HB1 := Lib.hid (H0.out.on b1)
  have HR1 := Lib.hid (show ∀ W, Below W1.heap.size W1 W → RdJ W A1 n p from fun W h => (RdJ.own o1).below h)
  clear o1 b1 hQ1 HRP H0
  obtain ⟨M, hM⟩ : ∃ M, W1.heap.size = M := ⟨_, rfl⟩
  have HM := Lib.hid hM
  rw [hM] at HR1
  go_wp2_with fail
  refine (HP.out _).mono ?_
  rintro _ W2 ⟨Q2, A2, c2, hQ2, rfl, o2, b2⟩
  rw [hn] at o2 ⊢
  have HO2 := Lib.hid (show W2.ownsRow M 21 1 (.slice A2 n c2) n (i32j p) ∧ Below M W1 W2 ∧ M ≤ W2.heap.size from ⟨own_base o2 (by omega), by rw [← hM]; exact b2, by have := b2.size; omega⟩)
  clear o2 b2 hQ2 hM
  go_wp2_with fail
  refine (HP.out _).mono ?_
  rintro _ W3 ⟨Q3, A3, c3, hQ3, rfl, o3, b3⟩
  rw [hn] at o3 ⊢
  have HO3 := Lib.hid (show W3.ownsRow M 21 1 (.slice A2 n c2) n (i32j p) ∧ W3.ownsRow M 21 1 (.slice A3 n c3) n (i32j p) ∧ Below M W1 W3 ∧ M ≤ W3.heap.size ∧ (∀ g, (Value.slice A2 n c2).ownBlock = some g → (Value.slice A3 n c3).ownBlock ≠ some g) from
    ⟨own_below HO2.out.1 b3, own_base o3 (by have := HO2.out.2.2; omega), HO2.out.2.1.trans (b3.mono HO2.out.2.2), by have := b3.size; have := HO2.out.2.2; omega, fun g e e' => by
      have h1 := (HO2.out.1.lt g e).2
      have h2 := (o3.lt g e').1
      omega⟩)
  clear o3 b3 hQ3 HO2
  go_wp2_with fail
  refine (HS.out _).mono ?_
  rintro _ W4 ⟨rfl, b4⟩
  have HO4 := Lib.hid (show W4.ownsRow M 21 1 (.slice A2 n c2) n (i32j p) ∧ W4.ownsRow M 21 1 (.slice A3 n c3) n (i32j p) ∧ Below M W1 W4 ∧ M ≤ W4.heap.size from ⟨own_below HO3.out.1 b4, own_below HO3.out.2.1 b4, HO3.out.2.2.1.trans (b4.mono HO3.out.2.2.2.1), by have := b4.size; have := HO3.out.2.2.2.1; omega⟩)
  have HD := Lib.hid HO3.out.2.2.2.2
  clear b4 HO3 HS
  go_wp2_with fail
  refine (HRS.out _).mono ?_
  rintro _ W5 ⟨rfl, b5⟩
  have HO5 := Lib.hid (show W5.ownsRow M 21 1 (.slice A2 n c2) n (i32j p) ∧ W5.ownsRow M 21 1 (.slice A3 n c3) n (i32j p) ∧ Below M W1 W5 ∧ M ≤ W5.heap.size from ⟨own_below HO4.out.1 b5, own_below HO4.out.2.1 b5, HO4.out.2.2.1.trans (b5.mono HO4.out.2.2.2), by have := b5.size; have := HO4.out.2.2.2; omega⟩)
  clear b5 HO4 HRS
  go_wp2_with fail
  refine (same_yes32 A2 A1 n c2 c1 p W5 (RdJ.own HO5.out.1) (HR1.out _ HO5.out.2.2.1) (by omega)).mono ?_
  rintro _ W6 ⟨rfl, b6⟩
  have HO6 := Lib.hid (show W6.ownsRow M 21 1 (.slice A2 n c2) n (i32j p) ∧ W6.ownsRow M 21 1 (.slice A3 n c3) n (i32j p) ∧ Below M W1 W6 ∧ M ≤ W6.heap.size from ⟨own_below HO5.out.1 b6, own_below HO5.out.2.1 b6, HO5.out.2.2.1.trans (b6.mono HO5.out.2.2.2), by have := b6.size; have := HO5.out.2.2.2; omega⟩)
  clear b6 HO5
  go_wp2_with fail
  refine (same_yes32 A3 A1 n c3 c1 p W6 (RdJ.own HO6.out.2.1) (HR1.out _ HO6.out.2.2.1) (by omega)).mono ?_
  rintro _ W7 ⟨rfl, b7⟩
  have HO7 := Lib.hid (show W7.ownsRow M 21 1 (.slice A2 n c2) n (i32j p) ∧ W7.ownsRow M 21 1 (.slice A3 n c3) n (i32j p) ∧ Below M W1 W7 ∧ M ≤ W7.heap.size from ⟨own_below HO6.out.1 b7, own_below HO6.out.2.1 b7, HO6.out.2.2.1.trans (b7.mono HO6.out.2.2.2), by have := b7.size; have := HO6.out.2.2.2; omega⟩)
  clear b7 HO6
  go_wp2_with fail
  refine (fresh_anyU M A2 A3 n c2 c3 p p W7 HO7.out.1 HO7.out.2.1 HD.out (by omega) HO7.out.2.2.2).mono ?_
  rintro _ W8 ⟨rfl, b8⟩
  have HO8 := Lib.hid (show Below M W1 W8 ∧ M ≤ W8.heap.size from ⟨HO7.out.2.2.1.trans b8, by have := b8.size; have := HO7.out.2.2.2; omega⟩)
  clear b8 HO7 HD
  go_wp2_with fail
  refine (HP.out _).mono ?_
  rintro _ W9 ⟨Q9, A9, c9, hQ9, rfl, o9, b9⟩
  rw [hn] at o9 ⊢
  have HO9 := Lib.hid (show RdJ W9 A9 n p ∧ Below M W1 W9 ∧ M ≤ W9.heap.size from ⟨RdJ.own o9, HO8.out.1.trans (b9.mono HO8.out.2), by have := b9.size; have := HO8.out.2; omega⟩)
  clear o9 b9 hQ9 HO8
  go_wp2_with fail
  refine (same_yes32 A9 A1 n c9 c1 p W9 HO9.out.1 (HR1.out _ HO9.out.2.1) (by omega)).mono ?_
  rintro _ W10 ⟨rfl, b10⟩
  have HO10 := Lib.hid (show Below M W1 W10 ∧ M ≤ W10.heap.size from ⟨HO9.out.2.1.trans (b10.mono HO9.out.2.2), by have := b10.size; have := HO9.out.2.2; omega⟩)
  clear b10 HO9
  go_wp2_with fail
  refine (HW.out _).mono ?_
  rintro _ W11 ⟨rfl, b11⟩
  have HE := Lib.hid (show Below B w W11 from HB1.out.1.trans ((HO10.out.1.trans (b11.mono HO10.out.2)).mono (by rw [← HM.out]; exact HB1.out.2)))
  clear b11 HO10
  go_wp2_with fail
  go_ret
  exact ⟨rfl, HE.out⟩
end Go.Proofs.Ytjecbchnckknkaa
