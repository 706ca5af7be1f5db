/- Layer 11, the laws' helper: kept. -/
import Derived.Test.YtjecbchnckknkaaLnJ
set_option linter.unusedSimpArgs false
set_option linter.unusedVariables false
namespace Go.Proofs.Ytjecbchnckknkaa
open Go.RowKit Go.Lib

set_option maxRecDepth 100000 in
set_option maxHeartbeats 4000000 in
theorem kept_anyJ (A : Option Addr) (n c g cp Q : Nat) (xs : List Int) (w : World) (hr : RdJ w A n xs) (hk : LentJ n xs g cp Q w) (hn : n ≤ 35184372087808) :
    Calls Try.prog 14 #[.slice (some ⟨g, 0, none⟩) n cp, .slice A n c] w fun e w' => e = .returned (.bool true) ∧ Below w.heap.size w w' := by
  have hl := hr.len
  have hcp := (own_caps hk).1
  obtain ⟨B, hB⟩ : ∃ B, w.heap.size = B := ⟨_, rfl⟩
  have hg : g < B := by rw [← hB]; exact (hk.lt g rfl).2
  have HX := Lib.hid (show ∀ i v, (xs ++ [-9, -9])[i]? = some v → ∀ W, Below B w W → W.cell? ⟨g, i, none⟩ = some (.int .i32 v) from fun i v hv W hb => by
    have hi := (List.getElem?_eq_some_iff.1 hv).1
    simp at hi
    rw [hb.cell (p := ⟨g, i, none⟩) hg, hk.cellAt i (by omega), List.getElem?_map, hv]
    rfl)
  have HR := Lib.hid (show ∀ W, Below B w W → RdJ W A n xs from fun W hb => hr.below (by rw [hB]; exact hb))
  have hw2 : IntKind.i64.wrap ((n : Int) + 2) = ((n + 2 : Nat) : Int) := by rw [IntWalk.i64_in _ (by omega)]; omega
  have hw2' : IntKind.i64.wrap ((n : Int) + 2) = (n : Int) + 2 := IntWalk.i64_in _ (by omega)
  have s1 := fun W => slice_rJ W (some ⟨g, 0, none⟩) n cp (n + 2) (by omega)
  have e2 : ((n + 2 : Nat) : Int) = (n : Int) + 2 := by omega
  rw [e2] at s1
  have H0 := Lib.hid (Below.refl B w)
  have hee : ((n : Int) == (n : Int)) = true := by simp
  rw [hB]
  clear hr hk hB hw2
  go_enter Try.func14, Try.ntmps14
  go_wp2_with fail
  go_loopw [14] (fun x wr => ∃ (i : Nat) (W : World), W = wr ∧ x = .int .i64 (i : Int) ∧ i ≤ n + 2 ∧ Hid (Below B w W)) (fun x _ => n + 2 - (RowKit.intOf x).toNat)
  case atStart => exact ⟨0, _, rfl, rfl, Nat.zero_le _, H0⟩
  case round =>
    obtain ⟨i, W, hW, rfl, hin, HW⟩ := hrel
    subst hW
    clear H0
    rcases Nat.lt_or_ge i n with hlt | hge
    · obtain ⟨v, hvi⟩ : ∃ v, xs[i]? = some v := ⟨_, List.getElem?_eq_getElem (by omega)⟩
      obtain ⟨a, hA, _, _, hca⟩ := (HR.out W HW.out).at hvi
      subst hA
      have hcb := HX.out i v (by rw [List.getElem?_append_left (by omega)]; exact hvi) W HW.out
      have hcaD : W.drew.cell? (a.add i) = some (.int .i32 v) := hca
      have hcbD : W.drew.cell? ⟨g, i, none⟩ = some (.int .i32 v) := hcb
      have h2 : (i : Int) < (n : Int) + 2 := by omega
      have h3 : (i : Int) < (n : Int) := by omega
      have h4 : ¬ (n : Int) ≤ (i : Int) := by omega
      have h3d : decide ((i : Int) < (n : Int)) = true := decide_eq_true h3
      have h4d : decide ((n : Int) ≤ (i : Int)) = false := decide_eq_false h4
      have h5 : i < n + 2 := by omega
      have h6d : decide (i < n) = true := decide_eq_true hlt
      have h7d : decide (n ≤ i) = false := decide_eq_false (by omega)
      have hvv : (v != v) = false := by simp
      have hnext : IntKind.i64.wrap ((i : Int) + 1) = (i : Int) + 1 := IntWalk.i64_in _ (by omega)
      clear hvi
      go_wp2_with fail
      go_quiet (fail)
      go_wp2_with fail
      go_roundw
      case rel => exact ⟨i + 1, _, rfl, by first | rfl | go_num, by omega, Lib.hid (below_N HW.out _)⟩
      case measure => simp [RowKit.intOf]; omega
    · rcases Nat.lt_or_ge i (n + 2) with hlt2 | hge2
      · have hcb := HX.out i (-9) (by
          rw [List.getElem?_append_right (by omega)]
          have : i - xs.length = 0 ∨ i - xs.length = 1 := by omega
          rcases this with e | e <;> rw [e] <;> rfl) W HW.out
        have hcbD : W.drew.cell? ⟨g, i, none⟩ = some (.int .i32 (-9)) := hcb
        have h2 : (i : Int) < (n : Int) + 2 := by omega
        have h3 : ¬ (i : Int) < (n : Int) := by omega
        have h4 : (n : Int) ≤ (i : Int) := by omega
        have h3d : decide ((i : Int) < (n : Int)) = false := decide_eq_false h3
        have h4d : decide ((n : Int) ≤ (i : Int)) = true := decide_eq_true h4
        have h6d : decide (i < n) = false := decide_eq_false (by omega)
        have h7d : decide (n ≤ i) = true := decide_eq_true (by omega)
        have hnext : IntKind.i64.wrap ((i : Int) + 1) = (i : Int) + 1 := IntWalk.i64_in _ (by omega)
        go_wp2_with fail
        go_quiet (fail)
        go_wp2_with fail
        go_roundw
        case rel => exact ⟨i + 1, _, rfl, by first | rfl | go_num, by omega, Lib.hid (below_N HW.out _)⟩
        case measure => simp [RowKit.intOf]; omega
      · obtain rfl : i = n + 2 := by omega
        have h2 : ¬ ((n + 2 : Nat) : Int) < (n : Int) + 2 := by omega
        have h2' : ¬ (n : Int) + 2 < (n : Int) + 2 := by omega
        clear hin hge hge2
        go_wp2_with fail
        go_ret
        exact ⟨rfl, HW.out⟩
end Go.Proofs.Ytjecbchnckknkaa
