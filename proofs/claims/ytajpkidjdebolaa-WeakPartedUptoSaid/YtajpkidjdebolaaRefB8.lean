/- Layer 8, the document: strong, ahead, marks. (Made by tools/mkrefb8.py.) -/
import Derived.Test.YtajpkidjdebolaaRefA8
import Derived.Test.YtajpkidjdebolaaRefP8
set_option linter.unusedSimpArgs false
set_option linter.unusedVariables false
namespace Go.Proofs.Ytajpkidjdebolaa
open Go.RowKit Go.Lib

/-- the cell at a place of a list that is read -/
theorem rd_at {w : World} {B n : Nat} {A : Option Addr} {p t : List Int} {k : Int} (h : Rd w B 1 A n (i8s (p ++ k :: t))) :
    ∃ a, A = some a ∧ p.length < n ∧ w.cell? (a.add p.length) = some (.int .i8 k) := by
  have hl := h.1
  simp only [List.length_map, List.length_append, List.length_cons, Nat.mul_one] at hl
  obtain ⟨a, e, _, hc⟩ := h.addr (by omega)
  exact ⟨a, e, by omega, hc p.length _ (by simp)⟩

set_option maxRecDepth 100000 in
set_option maxHeartbeats 1000000 in
theorem strong_any (A : Option Addr) (n c : Nat) (s : Int) (p t : List Int) (w : World) (hrd : Rd w w.heap.size 1 A n (i8s (p ++ t))) (hn : n ≤ 140737488355328) (i : Nat) (hi : p.length = i) :
    Calls Try.prog 26 #[.slice A n c, .int .i64 (i : Int), .int .i8 s] w fun e w' => e = .returned (.int .i8 (lastZ sP (sideZ s) p)) ∧ w' = w := by
  have hl : (p ++ t).length = n := by have := hrd.1; simpa using this
  rw [List.length_append] at hl
  have HB := Lib.hid (fun w => begins_any s w)
  obtain ⟨s', hs'⟩ : ∃ s', sideZ s = s' := ⟨_, rfl⟩
  rw [hs'] at HB ⊢
  obtain ⟨R, hR⟩ : ∃ R, lastZ sP s' p = R := ⟨_, rfl⟩
  rw [hR]
  have H0 := Lib.hid (show ∃ q r, p ++ t = q ++ r ∧ q.length = i ∧ lastZ sP s' q = R from ⟨p, t, rfl, hi, hR⟩)
  have HRd := Lib.hid hrd
  have hw0 : IntKind.i64.wrap ((i : Int) - 1) = (i : Int) - 1 := IntWalk.i64_in _ (by omega)
  have hin : i ≤ n := by omega
  clear hrd hl hi hR hs'
  go_enter Try.func26, Try.ntmps26
  go_wp2_with fail
  go_loopw [7] (fun x wr => wr = w ∧ ∃ (m : Nat), m ≤ n ∧ x = .int .i64 ((m : Int) - 1) ∧ Hid (∃ q r, p ++ t = q ++ r ∧ q.length = m ∧ lastZ sP s' q = R)) (fun x _ => (RowKit.intOf x + 1).toNat)
  case atStart => exact ⟨rfl, i, hin, rfl, H0⟩
  case round =>
    obtain ⟨hw, m, hm, rfl, HQ⟩ := hrel
    subst hw
    obtain ⟨q, r, hqr, hql, hqR⟩ := HQ.out
    rcases List.eq_nil_or_concat q with rfl | ⟨q, k, rfl⟩
    · obtain rfl : m = 0 := by simpa using hql.symm
      have hneg : ¬ (0 : Int) ≤ ((0 : Nat) : Int) - 1 := by omega
      obtain rfl : s' = R := hqR
      go_wp2_with fail
      refine (HB.out _).mono ?_
      rintro _ w9 ⟨rfl, h9⟩
      obtain rfl := h9.symm
      go_wp2_with fail
      go_ret
      exact ⟨rfl, rfl⟩
    · rw [List.concat_eq_append] at hqr hql hqR
      rw [List.length_append] at hql
      simp only [List.length_cons, List.length_nil] at hql
      rw [List.append_assoc, List.singleton_append] at hqr
      rw [lastZ_snoc] at hqR
      have hrd := HRd.out
      rw [hqr] at hrd
      obtain ⟨a, hA, hqn, hcell⟩ := rd_at hrd
      subst hA
      obtain ⟨j, hj⟩ : ∃ j, q.length = j := ⟨_, rfl⟩
      rw [hj] at hqn hcell
      obtain rfl : m = j + 1 := by omega
      have hmj : (((j + 1 : Nat) : Int) - 1) = (j : Int) := by omega
      rw [hmj]
      have hpos : (0 : Int) ≤ (j : Int) := by omega
      have hjn : (j : Int) < (n : Int) := by omega
      have hwj : IntKind.i64.wrap ((j : Int) - 1) = (j : Int) - 1 := IntWalk.i64_in _ (by omega)
      have HN := Lib.hid (fun (e : sP k = false) => show ∃ q r, p ++ t = q ++ r ∧ q.length = j ∧ lastZ sP s' q = R from ⟨q, k :: r, hqr, hj, by rw [e] at hqR; exact hqR⟩)
      have HY := Lib.hid (fun (e : sP k = true) => show R = k from by rw [e] at hqR; exact hqR.symm)
      clear hqr hql hqR hj hmj HQ H0 hrd
      by_cases k0 : k = 0
      · subst k0
        obtain rfl := HY.out (by rfl)
        go_wp2_with fail
        go_ret
        exact ⟨rfl, rfl⟩
      · have b0 : (k == 0) = false := by simpa using k0
        by_cases k1 : k = 1
        · subst k1
          obtain rfl := HY.out (by rfl)
          go_wp2_with fail
          go_ret
          exact ⟨rfl, rfl⟩
        · have b1 : (k == 1) = false := by simpa using k1
          by_cases k2 : k = 2
          · subst k2
            obtain rfl := HY.out (by rfl)
            go_wp2_with fail
            go_ret
            exact ⟨rfl, rfl⟩
          · have b2 : (k == 2) = false := by simpa using k2
            have HN' := Lib.hid (HN.out (by simp [sP, b0, b1, b2]))
            go_wp2_with fail
            go_roundw
            case rel => exact ⟨trivial, j, by omega, by first | rfl | go_num, HN'⟩
            case measure => simp [RowKit.intOf] <;> omega

set_option maxRecDepth 100000 in
set_option maxHeartbeats 1000000 in
theorem ahead_any (A : Option Addr) (n c : Nat) (s : Int) (p t : List Int) (w : World) (hrd : Rd w w.heap.size 1 A n (i8s (p ++ t))) (hn : n ≤ 140737488355328) (i : Nat) (hi : p.length = i) :
    Calls Try.prog 28 #[.slice A n c, .int .i64 (i : Int), .int .i8 s] w fun e w' => e = .returned (.int .i8 (lastZ aP (sideZ s) p)) ∧ w' = w := by
  have hl : (p ++ t).length = n := by have := hrd.1; simpa using this
  rw [List.length_append] at hl
  have HB := Lib.hid (fun w => begins_any s w)
  obtain ⟨s', hs'⟩ : ∃ s', sideZ s = s' := ⟨_, rfl⟩
  rw [hs'] at HB ⊢
  obtain ⟨R, hR⟩ : ∃ R, lastZ aP s' p = R := ⟨_, rfl⟩
  rw [hR]
  have H0 := Lib.hid (show ∃ q r, p ++ t = q ++ r ∧ q.length = i ∧ lastZ aP s' q = R from ⟨p, t, rfl, hi, hR⟩)
  have HRd := Lib.hid hrd
  have hw0 : IntKind.i64.wrap ((i : Int) - 1) = (i : Int) - 1 := IntWalk.i64_in _ (by omega)
  have hin : i ≤ n := by omega
  clear hrd hl hi hR hs'
  go_enter Try.func28, Try.ntmps28
  go_wp2_with fail
  go_loopw [7] (fun x wr => wr = w ∧ ∃ (m : Nat), m ≤ n ∧ x = .int .i64 ((m : Int) - 1) ∧ Hid (∃ q r, p ++ t = q ++ r ∧ q.length = m ∧ lastZ aP s' q = R)) (fun x _ => (RowKit.intOf x + 1).toNat)
  case atStart => exact ⟨rfl, i, hin, rfl, H0⟩
  case round =>
    obtain ⟨hw, m, hm, rfl, HQ⟩ := hrel
    subst hw
    obtain ⟨q, r, hqr, hql, hqR⟩ := HQ.out
    rcases List.eq_nil_or_concat q with rfl | ⟨q, k, rfl⟩
    · obtain rfl : m = 0 := by simpa using hql.symm
      have hneg : ¬ (0 : Int) ≤ ((0 : Nat) : Int) - 1 := by omega
      obtain rfl : s' = R := hqR
      go_wp2_with fail
      refine (HB.out _).mono ?_
      rintro _ w9 ⟨rfl, h9⟩
      obtain rfl := h9.symm
      go_wp2_with fail
      go_ret
      exact ⟨rfl, rfl⟩
    · rw [List.concat_eq_append] at hqr hql hqR
      rw [List.length_append] at hql
      simp only [List.length_cons, List.length_nil] at hql
      rw [List.append_assoc, List.singleton_append] at hqr
      rw [lastZ_snoc] at hqR
      have hrd := HRd.out
      rw [hqr] at hrd
      obtain ⟨a, hA, hqn, hcell⟩ := rd_at hrd
      subst hA
      obtain ⟨j, hj⟩ : ∃ j, q.length = j := ⟨_, rfl⟩
      rw [hj] at hqn hcell
      obtain rfl : m = j + 1 := by omega
      have hmj : (((j + 1 : Nat) : Int) - 1) = (j : Int) := by omega
      rw [hmj]
      have hpos : (0 : Int) ≤ (j : Int) := by omega
      have hjn : (j : Int) < (n : Int) := by omega
      have hwj : IntKind.i64.wrap ((j : Int) - 1) = (j : Int) - 1 := IntWalk.i64_in _ (by omega)
      have HN := Lib.hid (fun (e : aP k = false) => show ∃ q r, p ++ t = q ++ r ∧ q.length = j ∧ lastZ aP s' q = R from ⟨q, k :: r, hqr, hj, by rw [e] at hqR; exact hqR⟩)
      have HY := Lib.hid (fun (e : aP k = true) => show R = k from by rw [e] at hqR; exact hqR.symm)
      clear hqr hql hqR hj hmj HQ H0 hrd
      by_cases k0 : k = 0
      · subst k0
        obtain rfl := HY.out (by rfl)
        go_wp2_with fail
        go_ret
        exact ⟨rfl, rfl⟩
      · have b0 : (k == 0) = false := by simpa using k0
        by_cases k1 : k = 1
        · subst k1
          obtain rfl := HY.out (by rfl)
          go_wp2_with fail
          go_ret
          exact ⟨rfl, rfl⟩
        · have b1 : (k == 1) = false := by simpa using k1
          have HN' := Lib.hid (HN.out (by simp [aP, b0, b1]))
          go_wp2_with fail
          go_roundw
          case rel => exact ⟨trivial, j, by omega, by first | rfl | go_num, HN'⟩
          case measure => simp [RowKit.intOf] <;> omega
end Go.Proofs.Ytajpkidjdebolaa
