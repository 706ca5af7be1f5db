/- Layer 11, the laws' helper: same, of forms and of runes. (Made by tools/mksmj.py.) -/
import Derived.Test.YtjecbchnckknkaaSdJ
import Derived.Deep.QuietTactic
import Derived.BigQuiet
set_option linter.unusedSimpArgs false
set_option linter.unusedVariables false
namespace Go.Proofs.Ytjecbchnckknkaa
open Go.RowKit Go.Lib

set_option maxRecDepth 100000 in
set_option maxHeartbeats 2000000 in
theorem same_anyi8 (A A' : Option Addr) (n n' c c' : Nat) (xs ys : List Int) (w : World) (hx : RdF w A n xs) (hy : RdF w A' n' ys) (hn : n ≤ 140737488355328) :
    Calls Try.prog 13 #[.slice A n c, .slice A' n' c'] w fun e w' => e = .returned (.bool (decide (xs = ys))) ∧ Below w.heap.size w w' := by
  have hxl : xs.length = n := by have := hx.1; simpa using this
  have hyl : ys.length = n' := by have := hy.1; simpa using this
  by_cases hnn : n = n'
  · subst hnn
    obtain ⟨R, hR⟩ : ∃ R, decide (xs = ys) = R := ⟨_, rfl⟩
    rw [hR]
    have HR := Lib.hid hR
    have Hx := Lib.hid hx
    have Hy := Lib.hid hy
    obtain ⟨B, hB⟩ : ∃ B, w.heap.size = B := ⟨_, rfl⟩
    rw [hB]
    have HB := Lib.hid hB
    have H0 := Lib.hid (Below.refl B w)
    have hee : ((n : Int) != (n : Int)) = false := by simp
    clear hR hx hy hB
    go_enter Try.func13, Try.ntmps13
    go_wp2_with fail
    go_loopw [13] (fun x wr => ∃ (i : Nat) (W : World), W = wr ∧ x = .int .i64 (i : Int) ∧ i ≤ n ∧ Hid (∀ j, j < i → xs[j]? = ys[j]?) ∧ Hid (Below B w W)) (fun x _ => n - (RowKit.intOf x).toNat)
    case atStart => exact ⟨0, _, rfl, rfl, Nat.zero_le _, Lib.hid (fun j h => absurd h (Nat.not_lt_zero _)), H0⟩
    case round =>
      obtain ⟨i, W, hW, rfl, hin, HE, HW⟩ := hrel
      subst hW
      rcases Nat.lt_or_ge i n with hlt | hge
      · obtain ⟨x, hxi⟩ : ∃ x, xs[i]? = some x := ⟨_, List.getElem?_eq_getElem (by omega)⟩
        obtain ⟨y, hyi⟩ : ∃ y, ys[i]? = some y := ⟨_, List.getElem?_eq_getElem (by omega)⟩
        obtain ⟨a, hA, _, _, hca⟩ := (Hx.out.below (by rw [HB.out]; exact HW.out)).at hxi
        obtain ⟨b, hA', _, _, hcb⟩ := (Hy.out.below (by rw [HB.out]; exact HW.out)).at hyi
        subst hA
        subst hA'
        have hini : (i : Int) < (n : Int) := by omega
        have hnext : IntKind.i64.wrap ((i : Int) + 1) = (i : Int) + 1 := IntWalk.i64_in _ (by omega)
        have hcaD : W.drew.cell? (a.add i) = some (.int .i8 x) := hca
        have hcbD : W.drew.cell? (b.add i) = some (.int .i8 y) := hcb
        by_cases hxy : x = y
        · have hne : (x != y) = false := by simp [hxy]
          have HE2 := Lib.hid (show ∀ j, j < i + 1 → xs[j]? = ys[j]? from fun j h => by
            rcases Nat.lt_or_ge j i with h1 | h1
            · exact HE.out j h1
            · obtain rfl : j = i := by omega
              rw [hxi, hyi, hxy])
          clear hxi hyi hxy HE
          go_wp2_with fail
          go_quiet (fail)
          go_wp2_with fail
          go_roundw
          case rel => exact ⟨i + 1, _, rfl, by first | rfl | go_num, by omega, HE2, Lib.hid (below_N HW.out _)⟩
          case measure => simp [RowKit.intOf]; omega
        · have hne : (x != y) = true := by simp [hxy]
          have hRf : R = false := by
            rw [← HR.out]
            refine decide_eq_false fun e => hxy ?_
            rw [e, hyi] at hxi
            exact (Option.some.inj hxi).symm
          subst hRf
          clear hxi hyi hxy HE
          go_wp2_with fail
          go_quiet (fail)
          go_wp2_with fail
          go_ret
          exact ⟨rfl, below_N HW.out _⟩
      · obtain rfl : i = n := by omega
        have hnn : ¬ (i : Int) < (i : Int) := by omega
        have hRt : R = true := by
          rw [← HR.out]
          refine decide_eq_true (List.ext_getElem? fun j => ?_)
          rcases Nat.lt_or_ge j i with h1 | h1
          · exact HE.out j h1
          · rw [List.getElem?_eq_none (by omega), List.getElem?_eq_none (by omega)]
        subst hRt
        clear hin hge HE
        go_wp2_with fail
        go_ret
        exact ⟨rfl, HW.out⟩
  · have hne : ((n : Int) != (n' : Int)) = true := by simp; omega
    have e : decide (xs = ys) = false := decide_eq_false fun e => hnn (by rw [← hxl, ← hyl, e])
    rw [e]
    clear hx hy
    go_enter Try.func13, Try.ntmps13
    go_wp2_with fail
    go_ret
    exact ⟨rfl, Below.refl _ _⟩
set_option maxRecDepth 100000 in
set_option maxHeartbeats 2000000 in
theorem same_anyi32 (A A' : Option Addr) (n n' c c' : Nat) (xs ys : List Int) (w : World) (hx : RdJ w A n xs) (hy : RdJ w A' n' ys) (hn : n ≤ 140737488355328) :
    Calls Try.prog 19 #[.slice A n c, .slice A' n' c'] w fun e w' => e = .returned (.bool (decide (xs = ys))) ∧ Below w.heap.size w w' := by
  have hxl : xs.length = n := by have := hx.1; simpa using this
  have hyl : ys.length = n' := by have := hy.1; simpa using this
  by_cases hnn : n = n'
  · subst hnn
    obtain ⟨R, hR⟩ : ∃ R, decide (xs = ys) = R := ⟨_, rfl⟩
    rw [hR]
    have HR := Lib.hid hR
    have Hx := Lib.hid hx
    have Hy := Lib.hid hy
    obtain ⟨B, hB⟩ : ∃ B, w.heap.size = B := ⟨_, rfl⟩
    rw [hB]
    have HB := Lib.hid hB
    have H0 := Lib.hid (Below.refl B w)
    have hee : ((n : Int) != (n : Int)) = false := by simp
    clear hR hx hy hB
    go_enter Try.func19, Try.ntmps19
    go_wp2_with fail
    go_loopw [13] (fun x wr => ∃ (i : Nat) (W : World), W = wr ∧ x = .int .i64 (i : Int) ∧ i ≤ n ∧ Hid (∀ j, j < i → xs[j]? = ys[j]?) ∧ Hid (Below B w W)) (fun x _ => n - (RowKit.intOf x).toNat)
    case atStart => exact ⟨0, _, rfl, rfl, Nat.zero_le _, Lib.hid (fun j h => absurd h (Nat.not_lt_zero _)), H0⟩
    case round =>
      obtain ⟨i, W, hW, rfl, hin, HE, HW⟩ := hrel
      subst hW
      rcases Nat.lt_or_ge i n with hlt | hge
      · obtain ⟨x, hxi⟩ : ∃ x, xs[i]? = some x := ⟨_, List.getElem?_eq_getElem (by omega)⟩
        obtain ⟨y, hyi⟩ : ∃ y, ys[i]? = some y := ⟨_, List.getElem?_eq_getElem (by omega)⟩
        obtain ⟨a, hA, _, _, hca⟩ := (Hx.out.below (by rw [HB.out]; exact HW.out)).at hxi
        obtain ⟨b, hA', _, _, hcb⟩ := (Hy.out.below (by rw [HB.out]; exact HW.out)).at hyi
        subst hA
        subst hA'
        have hini : (i : Int) < (n : Int) := by omega
        have hnext : IntKind.i64.wrap ((i : Int) + 1) = (i : Int) + 1 := IntWalk.i64_in _ (by omega)
        have hcaD : W.drew.cell? (a.add i) = some (.int .i32 x) := hca
        have hcbD : W.drew.cell? (b.add i) = some (.int .i32 y) := hcb
        by_cases hxy : x = y
        · have hne : (x != y) = false := by simp [hxy]
          have HE2 := Lib.hid (show ∀ j, j < i + 1 → xs[j]? = ys[j]? from fun j h => by
            rcases Nat.lt_or_ge j i with h1 | h1
            · exact HE.out j h1
            · obtain rfl : j = i := by omega
              rw [hxi, hyi, hxy])
          clear hxi hyi hxy HE
          go_wp2_with fail
          go_quiet (fail)
          go_wp2_with fail
          go_roundw
          case rel => exact ⟨i + 1, _, rfl, by first | rfl | go_num, by omega, HE2, Lib.hid (below_N HW.out _)⟩
          case measure => simp [RowKit.intOf]; omega
        · have hne : (x != y) = true := by simp [hxy]
          have hRf : R = false := by
            rw [← HR.out]
            refine decide_eq_false fun e => hxy ?_
            rw [e, hyi] at hxi
            exact (Option.some.inj hxi).symm
          subst hRf
          clear hxi hyi hxy HE
          go_wp2_with fail
          go_quiet (fail)
          go_wp2_with fail
          go_ret
          exact ⟨rfl, below_N HW.out _⟩
      · obtain rfl : i = n := by omega
        have hnn : ¬ (i : Int) < (i : Int) := by omega
        have hRt : R = true := by
          rw [← HR.out]
          refine decide_eq_true (List.ext_getElem? fun j => ?_)
          rcases Nat.lt_or_ge j i with h1 | h1
          · exact HE.out j h1
          · rw [List.getElem?_eq_none (by omega), List.getElem?_eq_none (by omega)]
        subst hRt
        clear hin hge HE
        go_wp2_with fail
        go_ret
        exact ⟨rfl, HW.out⟩
  · have hne : ((n : Int) != (n' : Int)) = true := by simp; omega
    have e : decide (xs = ys) = false := decide_eq_false fun e => hnn (by rw [← hxl, ← hyl, e])
    rw [e]
    clear hx hy
    go_enter Try.func19, Try.ntmps19
    go_wp2_with fail
    go_ret
    exact ⟨rfl, Below.refl _ _⟩
end Go.Proofs.Ytjecbchnckknkaa
