/- Layer 11, the law JoinForms, over the program's contracts. -/
import Derived.Test.YtjecbchnckknkaaLwSJ
set_option linter.unusedSimpArgs false
set_option linter.unusedVariables false
namespace Go.Proofs.Ytjecbchnckknkaa
open Go.RowKit Go.Lib

theorem LentJ.below {n : Nat} {xs : List Int} {g cp Q : Nat} {w w' : World} (h : LentJ n xs g cp Q w) (hb : Below w.heap.size w w') : LentJ n xs g cp Q w' := own_below h hb
set_option maxRecDepth 100000 in
set_option maxHeartbeats 4000000 in
theorem joinForms_anyJ {N : Nat} (H : JoinP N) (A : Option Addr) (n c : Nat) (xs : List Int) (w : World) (hr : RdJ w A n xs) (hnN : n ≤ N) (hnil : A = none → c = 0) : Calls Try.prog 3 #[.slice A n c] w fun e w' => e = .returned (.bool true) ∧ Below w.heap.size w w' := by
  have hn : n ≤ 35184372087808 := Nat.le_trans hnN H.small
  obtain ⟨B, hB⟩ : ∃ B, w.heap.size = B := ⟨_, rfl⟩
  have hl := hr.len
  have H0 := Lib.hid (show OnJ B w w from ⟨Below.refl _ _, by omega⟩)
  have HR := Lib.hid (show ∀ W, OnJ B w W → RdJ W A n xs from fun W h => hr.below (by rw [hB]; exact h.1))
  rw [hB]
  clear hB
  obtain ⟨p, hp⟩ : ∃ p, formsJ 0 (xs.map kJ) = p := ⟨_, rfl⟩
  have hpl : p.length = n := by rw [← hp, formsJ_len, List.length_map, hl]
  have HRF := Lib.hid (rforms_any A n c xs w hr hn)
  have HLt := Lib.hid (fun W h => lent_anyJ A n c xs W h hn hnil)
  have HF := Lib.hid (fun A c W h => H.forms A n c xs W h hnN)
  have HKp := Lib.hid (fun g cp Q W h h2 => kept_anyJ A n c g cp Q xs W h h2 hn)
  have HW := Lib.hid (fun W => works_anyJ H W)
  rw [hp] at HRF HF
  clear hp hr hl
  go_enter Try.func3, Try.ntmps3
  go_wp2_with fail
  refine HRF.out.mono ?_
  rintro _ W1 ⟨A1, c1, rfl, o1, b1⟩
  have HB1 := Lib.hid (H0.out.on b1)
  have HR1 := Lib.hid (show ∀ W, Below W1.heap.size W1 W → RdF W A1 n p from fun W h => (RdF.own o1).below h)
  clear o1 b1 HRF H0
  go_wp2_with fail
  refine (HLt.out _ (HR.out _ HB1.out)).mono ?_
  rintro _ W2 ⟨g, cp, rfl, k2, b2⟩
  have HK2 := Lib.hid k2
  have HO2 := Lib.hid b2
  clear k2 b2 HLt
  obtain ⟨M, hM⟩ : ∃ M, W2.heap.size = M := ⟨_, rfl⟩
  go_wp2_with fail
  refine (HF.out _ _ _ HK2.out.read).mono ?_
  rintro _ W3 ⟨Q3, A3, c3, hQ3, rfl, o3, b3⟩
  rw [hpl] at o3 ⊢
  have HO3 := Lib.hid (show W3.ownsRow M 27 1 (.slice A3 n c3) n (i8s p) ∧ Below M W2 W3 ∧ M ≤ W3.heap.size from ⟨own_base o3 (by omega), by rw [← hM]; exact b3, by have := b3.size; omega⟩)
  have HK3 := Lib.hid (HK2.out.below b3)
  clear o3 b3 hQ3
  go_wp2_with fail
  refine (HF.out _ _ _ HK3.out.read).mono ?_
  rintro _ W4 ⟨Q4, A4, c4, hQ4, rfl, o4, b4⟩
  rw [hpl] at o4 ⊢
  have HO4 := Lib.hid (show W4.ownsRow M 27 1 (.slice A3 n c3) n (i8s p) ∧ W4.ownsRow M 27 1 (.slice A4 n c4) n (i8s p) ∧ Below M W2 W4 ∧ M ≤ W4.heap.size from
    ⟨own_below HO3.out.1 b4, own_base o4 (by have := HO3.out.2.2; omega), HO3.out.2.1.trans (b4.mono HO3.out.2.2), by have := b4.size; have := HO3.out.2.2; omega⟩)
  have HD := Lib.hid (show ∀ g, (Value.slice A3 n c3).ownBlock = some g → (Value.slice A4 n c4).ownBlock ≠ some g from fun g e e' => by
    have h1 := (HO3.out.1.lt g e).2
    have h2 := (o4.lt g e').1
    omega)
  have HK4 := Lib.hid (HK3.out.below b4)
  clear o4 b4 hQ4 HO3 HK2 HK3 HF
  have HR2 := Lib.hid (show ∀ W, Below M W2 W → RdF W A1 n p ∧ OnJ B w W from fun W h => by
    have h12 : Below W1.heap.size W1 W := HO2.out.trans (h.mono (by rw [← hM]; exact HO2.out.size))
    exact ⟨HR1.out W h12, HB1.out.on h12⟩)
  clear HR1 HB1 HO2 hM
  go_wp2_with fail
  refine (same_yes8 A3 A1 n c3 c1 p W4 (RdF.own HO4.out.1) (HR2.out _ HO4.out.2.2.1).1 (by omega)).mono ?_
  rintro _ W5 ⟨rfl, b5⟩
  have HO5 := Lib.hid (show W5.ownsRow M 27 1 (.slice A3 n c3) n (i8s p) ∧ W5.ownsRow M 27 1 (.slice A4 n c4) n (i8s p) ∧ Below M W2 W5 ∧ M ≤ W5.heap.size from ⟨own_below HO4.out.1 b5, own_below HO4.out.2.1 b5, HO4.out.2.2.1.trans (b5.mono HO4.out.2.2.2), by have := b5.size; have := HO4.out.2.2.2; omega⟩)
  have HK5 := Lib.hid (HK4.out.below b5)
  clear b5 HO4 HK4
  go_wp2_with fail
  refine (same_yes8 A4 A1 n c4 c1 p W5 (RdF.own HO5.out.2.1) (HR2.out _ HO5.out.2.2.1).1 (by omega)).mono ?_
  rintro _ W6 ⟨rfl, b6⟩
  have HO6 := Lib.hid (show W6.ownsRow M 27 1 (.slice A3 n c3) n (i8s p) ∧ W6.ownsRow M 27 1 (.slice A4 n c4) n (i8s p) ∧ Below M W2 W6 ∧ M ≤ W6.heap.size from ⟨own_below HO5.out.1 b6, own_below HO5.out.2.1 b6, HO5.out.2.2.1.trans (b6.mono HO5.out.2.2.2), by have := b6.size; have := HO5.out.2.2.2; omega⟩)
  have HK6 := Lib.hid (HK5.out.below b6)
  clear b6 HO5 HK5
  go_wp2_with fail
  refine (HKp.out _ _ _ _ (HR.out _ (HR2.out _ HO6.out.2.2.1).2) HK6.out).mono ?_
  rintro _ W7 ⟨rfl, b7⟩
  have HO7 := Lib.hid (show W7.ownsRow M 27 1 (.slice A3 n c3) n (i8s p) ∧ W7.ownsRow M 27 1 (.slice A4 n c4) n (i8s p) ∧ Below M W2 W7 ∧ M ≤ W7.heap.size from ⟨own_below HO6.out.1 b7, own_below HO6.out.2.1 b7, HO6.out.2.2.1.trans (b7.mono HO6.out.2.2.2), by have := b7.size; have := HO6.out.2.2.2; omega⟩)
  clear b7 HO6 HK6 HKp
  go_wp2_with fail
  refine (fresh_anyF M A3 A4 n c3 c4 p p W7 HO7.out.1 HO7.out.2.1 HD.out hn HO7.out.2.2.2).mono ?_
  rintro _ W8 ⟨rfl, b8⟩
  have HO8 := Lib.hid (show OnJ B w W8 from (HR2.out _ (HO7.out.2.2.1.trans b8)).2)
  clear b8 HO7 HD HR2
  go_wp2_with fail
  refine (HW.out _).mono ?_
  rintro _ W9 ⟨rfl, b9⟩
  have HE := Lib.hid (HO8.out.on b9)
  clear b9 HO8
  go_wp2_with fail
  go_ret
  exact ⟨rfl, HE.out.1⟩
end Go.Proofs.Ytjecbchnckknkaa
