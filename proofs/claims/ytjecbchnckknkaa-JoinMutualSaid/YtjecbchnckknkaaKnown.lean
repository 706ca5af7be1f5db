/- A number as it is asked: itself, if it is a character, else FFFD: the program's word and the document's. -/
import Derived.WalkKit
import Derived.Test.YtjecbchnckknkaaSeek
set_option linter.unusedSimpArgs false
set_option linter.unusedVariables false
namespace Go.Proofs.Ytjecbchnckknkaa
open Go.RowKit Go.Lib

/-- a number as it is asked -/
def char (x : Int) : Nat := if x < 0 ∨ 1114111 < x ∨ (55296 ≤ x ∧ x ≤ 57343) then 65533 else x.toNat
theorem char_le (x : Int) : char x ≤ 1114111 := by
  unfold char
  split <;> omega

theorem known_any (x : Int) (w : World) : Calls Try.prog 40 #[.int .i32 x] w fun e w' => e = .returned (.int .i32 (char x : Nat)) ∧ w' = w := by
  by_cases h0 : x < 0
  · have e : char x = 65533 := by unfold char; rw [if_pos (by omega)]
    rw [e]
    go_enter Try.func40, Try.ntmps40
    go_wp2
    go_ret
    exact ⟨rfl, rfl⟩
  by_cases h1 : 1114111 < x
  · have e : char x = 65533 := by unfold char; rw [if_pos (by omega)]
    rw [e]
    go_enter Try.func40, Try.ntmps40
    go_wp2
    go_ret
    exact ⟨rfl, rfl⟩
  by_cases h2 : 55296 ≤ x
  · by_cases h3 : x ≤ 57343
    · have e : char x = 65533 := by unfold char; rw [if_pos (by omega)]
      rw [e]
      go_enter Try.func40, Try.ntmps40
      go_wp2
      go_ret
      exact ⟨rfl, rfl⟩
    · have e : (char x : Int) = x := by unfold char; rw [if_neg (by omega)]; omega
      rw [e]
      go_enter Try.func40, Try.ntmps40
      go_wp2
      go_ret
      exact ⟨rfl, rfl⟩
  · have e : (char x : Int) = x := by unfold char; rw [if_neg (by omega)]; omega
    rw [e]
    go_enter Try.func40, Try.ntmps40
    go_wp2
    go_ret
    exact ⟨rfl, rfl⟩

theorem valid_char (x : Int) : Lib.validRune x = true → (char x : Int) = x := by
  intro h
  simp [Lib.validRune] at h
  unfold char
  rw [if_neg (by omega)]
  omega
theorem invalid_char (x : Int) : Lib.validRune x = false → char x = 65533 := by
  intro h
  simp [Lib.validRune] at h
  unfold char
  rw [if_pos (by omega)]

theorem character_any (x : Int) (w : World) : Calls Try.prog 39 #[.int .i32 x] w fun e w' => e = .returned (.int .i32 (char x : Nat)) ∧ w' = w := by
  have hc := Try.utf8_ValidRune x w
  have h1 := valid_char x
  have h2 := invalid_char x
  cases hv : Lib.validRune x with
  | true =>
    rw [hv] at hc
    rw [h1 hv]
    clear h1 h2 hv
    go_enter Try.func39, Try.ntmps39
    go_wp2_with (go_at_call 42; refine hc.mono ?_; rintro e w' ⟨rfl, rfl⟩)
    go_ret
    exact ⟨rfl, rfl⟩
  | false =>
    rw [hv] at hc
    rw [h2 hv]
    clear h1 h2 hv
    go_enter Try.func39, Try.ntmps39
    go_wp2_with (go_at_call 42; refine hc.mono ?_; rintro e w' ⟨rfl, rfl⟩)
    go_ret
    exact ⟨rfl, rfl⟩
end Go.Proofs.Ytjecbchnckknkaa
