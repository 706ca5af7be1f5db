/- Layer 11, the document: Shape. -/
import Derived.Test.YtjecbchnckknkaaLtJ
set_option linter.unusedSimpArgs false
set_option linter.unusedVariables false
namespace Go.Proofs.Ytjecbchnckknkaa
open Go.RowKit Go.Lib

theorem LetAt.keep {B : Nat} {W W' : World} (h : LetAt B W) (hb : B < W.heap.size) (hw : Below W.heap.size W W') : LetAt B W' := fun i x y hi => by
  obtain ⟨h1, h2⟩ := h i x y hi
  exact ⟨by rw [← h1]; exact hw.cell (by exact hb), by rw [← h2]; exact hw.cell (by exact hb)⟩
/-- what is left to be sought -/
def shFrom (r form : Int) (l : List (Int × Int)) : Int :=
  match l.find? (fun e => e.1 == r) with
  | some e => ofJ (kJ r) e.2 form
  | none => r
theorem shFrom_cons (r form x y : Int) (l : List (Int × Int)) : shFrom r form ((x, y) :: l) = if x = r then ofJ (kJ r) y form else shFrom r form l := by
  unfold shFrom
  by_cases h : x = r
  · rw [if_pos h, List.find?_cons_of_pos (by simpa using h)]
  · rw [if_neg h, List.find?_cons_of_neg (by simpa using h)]
theorem tab_small : (tabJ.all fun e => decide (0 ≤ e.2) && decide (e.2 ≤ 70000)) = true := by decide +kernel
set_option maxRecDepth 100000 in
set_option maxHeartbeats 4000000 in
theorem rshape_any (r form : Int) (w : World) : Calls Try.prog 24 #[.int .i32 r, .int .i8 form] w fun e w' => e = .returned (.int .i32 (shapeJ r form)) ∧ Below w.heap.size w w' := by
  obtain ⟨B, hB⟩ : ∃ B, w.heap.size = B := ⟨_, rfl⟩
  have HL := Lib.hid (letters_anyJ w)
  have HJ := Lib.hid (show ∀ w, Calls Try.prog 28 #[.int .i32 r] w fun e w' => e = .returned (.int .i8 (kJ r)) ∧ w' = w from refJoin_is r)
  obtain ⟨R, hR⟩ : ∃ R, shapeJ r form = R := ⟨_, rfl⟩
  have H0 := Lib.hid (show shFrom r form (tabJ.drop 0) = R from hR)
  rw [hB] at HL ⊢
  rw [hR]
  obtain ⟨k, hk⟩ : ∃ k, kJ r = k := ⟨_, rfl⟩
  have HK := Lib.hid hk
  rw [hk] at HJ
  clear hR hB hk
  go_enter Try.func24, Try.ntmps24
  go_wp2_with fail
  refine HL.out.mono ?_
  rintro _ W ⟨rfl, hbe, hsz, hla⟩
  have HA := Lib.hid hla
  have HBe := Lib.hid hbe
  clear hbe hsz hla HL
  go_wp2_with fail
  go_loopw [6] (fun x wr => wr = W ∧ ∃ (m : Nat), m ≤ 36 ∧ x = .int .i64 (m : Int) ∧ Hid (shFrom r form (tabJ.drop m) = R)) (fun x _ => 36 - (RowKit.intOf x).toNat)
  case atStart => exact ⟨rfl, 0, by omega, rfl, H0⟩
  case round =>
    obtain ⟨hw, m, hm, rfl, HQ⟩ := hrel
    subst hw
    clear H0
    rcases Nat.lt_or_ge m 36 with hlt | hge
    · have hlt' : m < tabJ.length := hlt
      obtain ⟨⟨x, y⟩, hxy⟩ : ∃ e, tabJ[m]? = some e := ⟨_, List.getElem?_eq_getElem hlt'⟩
      obtain ⟨hcx, hcy⟩ := HA.out m x y hxy
      rw [Nat.mul_comm 2 m] at hcx hcy
      have hd : tabJ.drop m = (x, y) :: tabJ.drop (m + 1) := by
        have h1 := List.drop_eq_getElem_cons (l := tabJ) (i := m) hlt'
        rw [h1, (List.getElem?_eq_some_iff.1 hxy).2]
      have hq := HQ.out
      rw [hd, shFrom_cons, HK.out] at hq
      have hys := List.all_eq_true.1 tab_small (x, y) (List.mem_of_getElem? hxy)
      simp only [Bool.and_eq_true, decide_eq_true_eq] at hys
      have hy1 : IntKind.i32.wrap (y + 1) = y + 1 := IntWalk.i32_in _ (by omega)
      have hy2 : IntKind.i32.wrap (y + 2) = y + 2 := IntWalk.i32_in _ (by omega)
      have hy3 : IntKind.i32.wrap (y + 3) = y + 3 := IntWalk.i32_in _ (by omega)
      have hmi : (m : Int) < 36 := by omega
      have hnext : IntKind.i64.wrap ((m : Int) + 1) = (m : Int) + 1 := IntWalk.i64_in _ (by omega)
      by_cases hx : x = r
      · subst hx
        rw [if_pos rfl] at hq
        have HR := Lib.hid hq
        clear hd hq hxy HQ hys hlt'
        by_cases k2 : k = 2
        · subst k2
          by_cases f1 : form = 1
          · subst f1
            have e : R = y + 2 := by rw [← HR.out]; simp [ofJ]
            subst e
            go_wp2_with fail
            refine (HJ.out _).mono ?_
            rintro _ w9 ⟨rfl, h9⟩
            obtain rfl := h9.symm
            go_wp2_with fail
            refine (HJ.out _).mono ?_
            rintro _ w9 ⟨rfl, h9⟩
            obtain rfl := h9.symm
            go_wp2_with fail
            go_ret
            exact ⟨rfl, HBe.out⟩
          have bf1 : (form == 1) = false := by simpa using f1
          by_cases f2 : form = 2
          · subst f2
            have e : R = y + 3 := by rw [← HR.out]; simp [ofJ, f1]
            subst e
            go_wp2_with fail
            refine (HJ.out _).mono ?_
            rintro _ w9 ⟨rfl, h9⟩
            obtain rfl := h9.symm
            go_wp2_with fail
            refine (HJ.out _).mono ?_
            rintro _ w9 ⟨rfl, h9⟩
            obtain rfl := h9.symm
            go_wp2_with fail
            go_ret
            exact ⟨rfl, HBe.out⟩
          have bf2 : (form == 2) = false := by simpa using f2
          by_cases f3 : form = 3
          · subst f3
            have e : R = y + 1 := by rw [← HR.out]; simp [ofJ, f1, f2]
            subst e
            go_wp2_with fail
            refine (HJ.out _).mono ?_
            rintro _ w9 ⟨rfl, h9⟩
            obtain rfl := h9.symm
            go_wp2_with fail
            refine (HJ.out _).mono ?_
            rintro _ w9 ⟨rfl, h9⟩
            obtain rfl := h9.symm
            go_wp2_with fail
            go_ret
            exact ⟨rfl, HBe.out⟩
          have bf3 : (form == 3) = false := by simpa using f3
          have e : R = y := by rw [← HR.out]; simp [ofJ, f1, f2, f3]
          subst e
          go_wp2_with fail
          refine (HJ.out _).mono ?_
          rintro _ w9 ⟨rfl, h9⟩
          obtain rfl := h9.symm
          go_wp2_with fail
          refine (HJ.out _).mono ?_
          rintro _ w9 ⟨rfl, h9⟩
          obtain rfl := h9.symm
          go_wp2_with fail
          go_ret
          exact ⟨rfl, HBe.out⟩
        have bk2 : (k == 2) = false := by simpa using k2
        by_cases k1 : k = 1
        · subst k1
          by_cases f2 : form = 2
          · subst f2
            have e : R = y + 1 := by rw [← HR.out]; simp [ofJ, k2]
            subst e
            go_wp2_with fail
            refine (HJ.out _).mono ?_
            rintro _ w9 ⟨rfl, h9⟩
            obtain rfl := h9.symm
            go_wp2_with fail
            refine (HJ.out _).mono ?_
            rintro _ w9 ⟨rfl, h9⟩
            obtain rfl := h9.symm
            go_wp2_with fail
            go_ret
            exact ⟨rfl, HBe.out⟩
          have bf2 : (form == 2) = false := by simpa using f2
          by_cases f3 : form = 3
          · subst f3
            have e : R = y + 1 := by rw [← HR.out]; simp [ofJ, k2, f2]
            subst e
            go_wp2_with fail
            refine (HJ.out _).mono ?_
            rintro _ w9 ⟨rfl, h9⟩
            obtain rfl := h9.symm
            go_wp2_with fail
            refine (HJ.out _).mono ?_
            rintro _ w9 ⟨rfl, h9⟩
            obtain rfl := h9.symm
            go_wp2_with fail
            go_ret
            exact ⟨rfl, HBe.out⟩
          have bf3 : (form == 3) = false := by simpa using f3
          have e : R = y := by rw [← HR.out]; simp [ofJ, k2, f2, f3]
          subst e
          go_wp2_with fail
          refine (HJ.out _).mono ?_
          rintro _ w9 ⟨rfl, h9⟩
          obtain rfl := h9.symm
          go_wp2_with fail
          refine (HJ.out _).mono ?_
          rintro _ w9 ⟨rfl, h9⟩
          obtain rfl := h9.symm
          go_wp2_with fail
          go_ret
          exact ⟨rfl, HBe.out⟩
        have bk1 : (k == 1) = false := by simpa using k1
        have e : R = y := by rw [← HR.out]; simp [ofJ, k2, k1]
        subst e
        go_wp2_with fail
        refine (HJ.out _).mono ?_
        rintro _ w9 ⟨rfl, h9⟩
        obtain rfl := h9.symm
        go_wp2_with fail
        refine (HJ.out _).mono ?_
        rintro _ w9 ⟨rfl, h9⟩
        obtain rfl := h9.symm
        go_wp2_with fail
        go_ret
        exact ⟨rfl, HBe.out⟩
      · have hxb : (x != r) = true := by simpa using hx
        rw [if_neg hx] at hq
        have HN := Lib.hid hq
        clear hd hq hxy HQ hys hy1 hy2 hy3 hlt'
        go_wp2_with fail
        go_roundw
        case rel => exact ⟨trivial, m + 1, by omega, by first | rfl | go_num, HN⟩
        case measure => simp [RowKit.intOf] <;> omega
    · obtain rfl : m = 36 := by omega
      obtain rfl : r = R := HQ.out
      go_wp2_with fail
      go_ret
      exact ⟨rfl, HBe.out⟩
end Go.Proofs.Ytjecbchnckknkaa
