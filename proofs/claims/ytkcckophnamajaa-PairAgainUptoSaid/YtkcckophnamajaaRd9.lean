/- Layer 9: lists of classes that are read; small words. -/
import Derived.Test.YtkcckophnamajaaRowW
import Derived.Test.YtkcckophnamajaaPureG
set_option linter.unusedSimpArgs false
set_option linter.unusedVariables false
namespace Go.Proofs.Ytkcckophnamajaa
open Go.RowKit Go.Lib

/-- a list that is read, whatever lies there -/
def RdK (w : World) (A : Option Addr) (n : Nat) (xs : List Int) : Prop := Rd w w.heap.size 1 A n (i8s xs)
theorem RdK.below {w w' : World} {A : Option Addr} {n : Nat} {xs : List Int} (h : RdK w A n xs) (hb : Below w.heap.size w w') : RdK w' A n xs := (Rd.below h hb).more hb.size
theorem RdK.own {w : World} {B n c : Nat} {A : Option Addr} {xs : List Int} (h : w.ownsRow B 33 1 (.slice A n c) n (i8s xs)) : RdK w A n xs := Rd.own h
theorem RdK.len {w : World} {A : Option Addr} {n : Nat} {xs : List Int} (h : RdK w A n xs) : xs.length = n := by have := h.1; simpa using this
theorem RdK.at {w : World} {n : Nat} {A : Option Addr} {p t : List Int} {k : Int} (h : RdK w A n (p ++ k :: t)) : ∃ a, A = some a ∧ p.length < n ∧ w.cell? (a.add p.length) = some (.int .i8 k) := by
  have hl := h.len
  rw [List.length_append, List.length_cons] at hl
  obtain ⟨a, e, _, hc⟩ := Rd.addr h (by omega)
  exact ⟨a, e, by omega, hc p.length _ (by simp)⟩
theorem i8_info : (Try.prog.info? 33).map (fun i => (i.zero, i.size, i.bytes)) = some (some (.int .i8 0), 1, 1) := by kernel_rfl
/-- a new list, all else as it was -/
def NewAt (n : Nat) (ys : List Int) (w : World) (e : Ending) (w' : World) : Prop :=
  ∃ A' c', e = .returned (.slice A' n c') ∧ w'.ownsRow w.heap.size 33 1 (.slice A' n c') n (i8s ys) ∧ Below w.heap.size w w'

theorem Neutral_any (k : Int) (w : World) : Calls Try.prog 48 #[.int .i8 k] w fun e w' => e = .returned (.bool (neuZ k)) ∧ w' = w := by
  by_cases k0 : k = 0
  · subst k0
    go_enter Try.func48, Try.ntmps48
    go_wp2
    go_ret
    exact ⟨rfl, rfl⟩
  · have b0 : (k != 0) = true := by simpa using k0
    by_cases k1 : k = 1
    · subst k1
      go_enter Try.func48, Try.ntmps48
      go_wp2
      go_ret
      exact ⟨rfl, rfl⟩
    · have b1 : (k != 1) = true := by simpa using k1
      by_cases k2 : k = 2
      · subst k2
        go_enter Try.func48, Try.ntmps48
        go_wp2
        go_ret
        exact ⟨rfl, rfl⟩
      · have b2 : (k != 2) = true := by simpa using k2
        by_cases k3 : k = 3
        · subst k3
          go_enter Try.func48, Try.ntmps48
          go_wp2
          go_ret
          exact ⟨rfl, rfl⟩
        · have b3 : (k != 3) = true := by simpa using k3
          by_cases k6 : k = 6
          · subst k6
            go_enter Try.func48, Try.ntmps48
            go_wp2
            go_ret
            exact ⟨rfl, rfl⟩
          · have b6 : (k != 6) = true := by simpa using k6
            have e : neuZ k = true := by simp [neuZ, k0, k1, k2, k3, k6]
            rw [e]
            go_enter Try.func48, Try.ntmps48
            go_wp2
            go_ret
            exact ⟨rfl, rfl⟩
theorem Way_any (k : Int) (w : World) : Calls Try.prog 49 #[.int .i8 k] w fun e w' => e = .returned (.int .i8 (wayZ k)) ∧ w' = w := by
  by_cases h : k = 0
  · subst h
    go_enter Try.func49, Try.ntmps49
    go_wp2
    go_ret
    exact ⟨rfl, rfl⟩
  · have hb : (k == 0) = false := by simpa using h
    have hs : wayZ k = 1 := by unfold wayZ; rw [if_neg h]
    rw [hs]
    go_enter Try.func49, Try.ntmps49
    go_wp2
    go_ret
    exact ⟨rfl, rfl⟩
theorem side9_any (k : Int) (w : World) : Calls Try.prog 34 #[.int .i8 k] w fun e w' => e = .returned (.int .i8 (sidZ k)) ∧ w' = w := by
  by_cases h : k = 1
  · subst h
    go_enter Try.func34, Try.ntmps34
    go_wp2
    go_ret
    exact ⟨rfl, rfl⟩
  · have hb : (k == 1) = false := by simpa using h
    have hs : sidZ k = 0 := by unfold sidZ; rw [if_neg h]
    rw [hs]
    go_enter Try.func34, Try.ntmps34
    go_wp2
    go_ret
    exact ⟨rfl, rfl⟩
theorem count_any9 (A A' : Option Addr) (n n' c c' : Nat) (w : World) : Calls Try.prog 23 #[.slice A n c, .slice A' n' c'] w fun e w' => e = .returned (.int .i64 ((min n n' : Nat) : Int)) ∧ w' = w := by
  by_cases h : n' < n
  · have hi : (n' : Int) < (n : Int) := by omega
    rw [Nat.min_eq_right (by omega)]
    go_enter Try.func23, Try.ntmps23
    go_wp2
    go_ret
    exact ⟨rfl, rfl⟩
  · have hi : ¬ (n' : Int) < (n : Int) := by omega
    rw [Nat.min_eq_left (by omega)]
    go_enter Try.func23, Try.ntmps23
    go_wp2
    go_ret
    exact ⟨rfl, rfl⟩
end Go.Proofs.Ytkcckophnamajaa
