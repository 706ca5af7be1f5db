/- Two lists of numbers held against each other; how often a number stands in a list. -/
import Derived.Test.YtfegbfhkmdmheaaDoorMem
import Derived.Test.YtfegbfhkmdmheaaDoorSplit
import Derived.WalkKit
import Derived.BigQuiet
import Derived.Deep.QuietTactic
import Derived.Lib.Hide
set_option linter.unusedSimpArgs false
set_option linter.unusedVariables false
namespace Go.Proofs.YtfegbfhkmdmheaaDoor
open Go.RowKit Go.Lib

theorem take_next (xs : List Int) (k : Nat) (h : k < xs.length) : xs.take (k + 1) = xs.take k ++ [xs[k]] := List.take_succ_eq_append_getElem h
theorem ret_bool {a b : Bool} (h : a = b) : Ending.returned (.bool a) = .returned (.bool b) := by rw [h]

set_option maxHeartbeats 1000000 in
theorem sameRunes_any (w : World) (X Y : Nat) (A B : Option Addr) (n m c d : Nat) (xs ys : List Int) (hx : Rd w X 1 A n (xs.map (Value.int .i32))) (hy : Rd w Y 1 B m (ys.map (Value.int .i32))) (hn : n ≤ maxLen) :
    Calls Tryd.prog 26 #[.slice A n c, .slice B m d] w fun e w' => e = .returned (.bool (decide (xs = ys))) ∧ Below w.heap.size w w' := by
  unfold maxLen at hn
  have hxl : xs.length = n := by have := hx.1; simpa using this
  have hyl : ys.length = m := by have := hy.1; simpa using this
  have Hx := Lib.hid hx
  have Hy := Lib.hid hy
  have Hxl := Lib.hid hxl
  have Hyl := Lib.hid hyl
  clear hx hy
  by_cases hnm : n = m
  · subst hnm
    have hne : ((n : Int) != n) = false := by simp
    clear hxl hyl
    go_enter Tryd.func26, Tryd.ntmps26
    go_wp2
    go_loopw [5] (fun i wr => ∃ k q : Nat, k ≤ n ∧ i = .int .i64 k ∧ wr = w.drewN q ∧ Hid (xs.take k = ys.take k)) (fun i _ => n - (RowKit.intOf i).toNat)
    case atStart => exact ⟨0, 0, Nat.zero_le _, rfl, rfl, rfl⟩
    case round =>
      obtain ⟨k, q, hk, rfl, rfl, hrun⟩ := hrel
      by_cases hkn : k < n
      · have hkx : k < xs.length := by rw [Hxl.out]; exact hkn
        have hky : k < ys.length := by rw [Hyl.out]; exact hkn
        obtain ⟨a, rfl, _, ha⟩ := Hx.out.at_ (k := k) (by simpa using hkx)
        obtain ⟨b, rfl, _, hb⟩ := Hy.out.at_ (k := k) (by simpa using hky)
        simp only [List.getElem_map] at ha hb
        have Hkx := Lib.hid (take_next xs k hkx)
        have Hky := Lib.hid (take_next ys k hky)
        obtain ⟨x, hxe⟩ : ∃ x, xs[k] = x := ⟨_, rfl⟩
        obtain ⟨y, hye⟩ : ∃ y, ys[k] = y := ⟨_, rfl⟩
        rw [hxe] at ha Hkx
        rw [hye] at hb Hky
        clear hxe hye hkx hky
        by_cases hxy : x = y
        · have hb1 : (x != y) = false := by simp [hxy]
          have Hxy := Lib.hid hxy
          clear hxy
          go_wp2
          go_quiet (fail)
          go_wp2
          go_roundw
          case rel =>
            refine ⟨k + 1, _, by omega, by go_num, rfl, ?_⟩
            unfold Hid
            rw [Hkx.out, Hky.out, hrun.out, Hxy.out]
          case measure => simp [RowKit.intOf]; omega
        · have hb1 : (x != y) = true := by simp [hxy]
          have Hxy := Lib.hid hxy
          clear hxy
          go_wp2
          go_quiet (fail)
          go_wp2
          go_ret
          refine ⟨ret_bool ?_, below_N (below_N (Below.refl _ _) _) _⟩
          symm
          rw [decide_eq_false_iff_not]
          intro e
          apply Hxy.out
          have e1 := Hkx.out
          rw [e, Hky.out, ← hrun.out, e] at e1
          have := List.append_cancel_left e1
          simpa using this.symm
      · go_wp2
        go_ret
        refine ⟨ret_bool ?_, below_N (Below.refl _ _) _⟩
        symm
        rw [decide_eq_true_iff]
        have e := hrun.out
        rw [List.take_of_length_le (by rw [Hxl.out]; omega), List.take_of_length_le (by rw [Hyl.out]; omega)] at e
        exact e
  · have hne : ((n : Int) != m) = true := by simp; omega
    have hfin : decide (xs = ys) = false := by
      rw [decide_eq_false_iff_not]
      intro e
      rw [e, hyl] at hxl
      omega
    rw [hfin]
    clear hxl hyl hnm hfin
    go_enter Tryd.func26, Tryd.ntmps26
    go_wp2
    go_ret
    exact ⟨rfl, Below.refl _ _⟩

set_option maxHeartbeats 1000000 in
theorem same04_any (w : World) (X Y : Nat) (A B : Option Addr) (n m c d : Nat) (xs ys : List Int) (hx : Rd w X 1 A n (xs.map (Value.int .i32))) (hy : Rd w Y 1 B m (ys.map (Value.int .i32))) (hn : n ≤ maxLen) :
    Calls Tryd.prog 14 #[.slice A n c, .slice B m d] w fun e w' => e = .returned (.bool (decide (xs = ys))) ∧ Below w.heap.size w w' := by
  unfold maxLen at hn
  have hxl : xs.length = n := by have := hx.1; simpa using this
  have hyl : ys.length = m := by have := hy.1; simpa using this
  have Hx := Lib.hid hx
  have Hy := Lib.hid hy
  have Hxl := Lib.hid hxl
  have Hyl := Lib.hid hyl
  clear hx hy
  by_cases hnm : n = m
  · subst hnm
    have hne : ((n : Int) != n) = false := by simp
    clear hxl hyl
    go_enter Tryd.func14, Tryd.ntmps14
    go_wp2
    go_loopw [5] (fun i wr => ∃ k q : Nat, k ≤ n ∧ i = .int .i64 k ∧ wr = w.drewN q ∧ Hid (xs.take k = ys.take k)) (fun i _ => n - (RowKit.intOf i).toNat)
    case atStart => exact ⟨0, 0, Nat.zero_le _, rfl, rfl, rfl⟩
    case round =>
      obtain ⟨k, q, hk, rfl, rfl, hrun⟩ := hrel
      by_cases hkn : k < n
      · have hkx : k < xs.length := by rw [Hxl.out]; exact hkn
        have hky : k < ys.length := by rw [Hyl.out]; exact hkn
        obtain ⟨a, rfl, _, ha⟩ := Hx.out.at_ (k := k) (by simpa using hkx)
        obtain ⟨b, rfl, _, hb⟩ := Hy.out.at_ (k := k) (by simpa using hky)
        simp only [List.getElem_map] at ha hb
        have Hkx := Lib.hid (take_next xs k hkx)
        have Hky := Lib.hid (take_next ys k hky)
        obtain ⟨x, hxe⟩ : ∃ x, xs[k] = x := ⟨_, rfl⟩
        obtain ⟨y, hye⟩ : ∃ y, ys[k] = y := ⟨_, rfl⟩
        rw [hxe] at ha Hkx
        rw [hye] at hb Hky
        clear hxe hye hkx hky
        by_cases hxy : x = y
        · have hb1 : (x != y) = false := by simp [hxy]
          have Hxy := Lib.hid hxy
          clear hxy
          go_wp2
          go_quiet (fail)
          go_wp2
          go_roundw
          case rel =>
            refine ⟨k + 1, _, by omega, by go_num, rfl, ?_⟩
            unfold Hid
            rw [Hkx.out, Hky.out, hrun.out, Hxy.out]
          case measure => simp [RowKit.intOf]; omega
        · have hb1 : (x != y) = true := by simp [hxy]
          have Hxy := Lib.hid hxy
          clear hxy
          go_wp2
          go_quiet (fail)
          go_wp2
          go_ret
          refine ⟨ret_bool ?_, below_N (below_N (Below.refl _ _) _) _⟩
          symm
          rw [decide_eq_false_iff_not]
          intro e
          apply Hxy.out
          have e1 := Hkx.out
          rw [e, Hky.out, ← hrun.out, e] at e1
          have := List.append_cancel_left e1
          simpa using this.symm
      · go_wp2
        go_ret
        refine ⟨ret_bool ?_, below_N (Below.refl _ _) _⟩
        symm
        rw [decide_eq_true_iff]
        have e := hrun.out
        rw [List.take_of_length_le (by rw [Hxl.out]; omega), List.take_of_length_le (by rw [Hyl.out]; omega)] at e
        exact e
  · have hne : ((n : Int) != m) = true := by simp; omega
    have hfin : decide (xs = ys) = false := by
      rw [decide_eq_false_iff_not]
      intro e
      rw [e, hyl] at hxl
      omega
    rw [hfin]
    clear hxl hyl hnm hfin
    go_enter Tryd.func14, Tryd.ntmps14
    go_wp2
    go_ret
    exact ⟨rfl, Below.refl _ _⟩

set_option maxHeartbeats 1000000 in
theorem times_any (w : World) (X : Nat) (A : Option Addr) (n c : Nat) (r : Int) (xs : List Int) (hx : Rd w X 1 A n (xs.map (Value.int .i32))) (hn : n ≤ maxLen) :
    Calls Tryd.prog 17 #[.slice A n c, .int .i32 r] w fun e w' => e = .returned (.int .i64 (xs.count r : Nat)) ∧ Below w.heap.size w w' := by
  unfold maxLen at hn
  have hxl : xs.length = n := by have := hx.1; simpa using this
  have Hx := Lib.hid hx
  have Hxl := Lib.hid hxl
  obtain ⟨F, hF⟩ : ∃ F, xs.count r = F := ⟨_, rfl⟩
  rw [hF]
  have HF := Lib.hid hF
  clear hx hxl hF
  go_enter Tryd.func17, Tryd.ntmps17
  go_wp2_with fail
  go_loopw [5, 6] (fun m i wr => ∃ k q u : Nat, k ≤ n ∧ u ≤ k ∧ m = .int .i64 u ∧ i = .int .i64 k ∧ wr = w.drewN q ∧ Hid ((xs.take k).count r = u)) (fun _ i _ => n - (RowKit.intOf i).toNat)
  case atStart => exact ⟨0, 0, 0, Nat.zero_le _, Nat.le_refl _, rfl, rfl, rfl, rfl⟩
  case round =>
    obtain ⟨k, q, u, hk, hu, rfl, rfl, rfl, hrun⟩ := hrel
    by_cases hkn : k < n
    · have hkx : k < xs.length := by rw [Hxl.out]; exact hkn
      obtain ⟨a, rfl, _, ha⟩ := Hx.out.at_ (k := k) (by simpa using hkx)
      simp only [List.getElem_map] at ha
      have Hkx := Lib.hid (take_next xs k hkx)
      obtain ⟨x, hxe⟩ : ∃ x, xs[k] = x := ⟨_, rfl⟩
      rw [hxe] at ha Hkx
      clear hxe hkx
      by_cases hxy : x = r
      · have hb1 : (x == r) = true := by simp [hxy]
        have Hxy := Lib.hid hxy
        clear hxy
        go_wp2_with fail
        go_roundw
        case rel =>
          refine ⟨k + 1, _, u + 1, by omega, by omega, by go_num, by go_num, rfl, ?_⟩
          unfold Hid
          rw [Hkx.out, List.count_append, hrun.out, Hxy.out]
          simp
        case measure => simp [RowKit.intOf]; omega
      · have hb1 : (x == r) = false := by simp [hxy]
        have Hxy := Lib.hid hxy
        clear hxy
        go_wp2_with fail
        go_roundw
        case rel =>
          refine ⟨k + 1, _, u, by omega, by omega, rfl, by go_num, rfl, ?_⟩
          unfold Hid
          rw [Hkx.out, List.count_append, hrun.out]
          simp [Hxy.out]
        case measure => simp [RowKit.intOf]; omega
    · go_wp2_with fail
      go_ret
      have e := hrun.out
      rw [List.take_of_length_le (by rw [Hxl.out]; omega), HF.out] at e
      subst e
      exact ⟨rfl, below_N (Below.refl _ _) _⟩

theorem SplitN_any (r : Int) (w : World) : Calls Tryd.prog 13 #[.int .i32 r] w fun e w' => ∃ v', e = .returned v' ∧ w'.ownsRow w.heap.size 21 1 v' (splitZ r).length (runes (splitZ r)) ∧ Below w.heap.size w w' := by
  have H := Lib.hid (split_any r w w.heap.size (.slice none 0 0) 0 [] (World.ownsRow_nil _ _ _ _) (Nat.le_refl _) (by decide))
  go_enter Tryd.func13, Tryd.ntmps13
  go_wp2_with fail
  refine H.out.mono ?_
  rintro _ w1 ⟨v, rfl, hown, hg⟩
  rw [Nat.zero_add, List.nil_append] at hown
  have Ho := Lib.hid hown
  have Hg := Lib.hid hg
  clear hown hg
  go_wp2_with fail
  go_ret
  exact ⟨v, rfl, Ho.out, ⟨Hg.out.os, Hg.out.tape, Hg.out.output, Hg.out.size, fun k hk => Hg.out.block k hk (fun e => by cases e)⟩⟩
end Go.Proofs.YtfegbfhkmdmheaaDoor
