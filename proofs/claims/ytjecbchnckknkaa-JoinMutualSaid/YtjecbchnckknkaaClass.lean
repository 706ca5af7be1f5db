/- The program's words on a number: Kind, Dir, Join, Break, Mark, Wide: each what its table says of the character. -/
import Derived.Test.YtjecbchnckknkaaKnown
import Derived.Test.YtjecbchnckknkaaTabs
set_option linter.unusedSimpArgs false
set_option linter.unusedVariables false
namespace Go.Proofs.Ytjecbchnckknkaa
open Go.RowKit Go.Lib

theorem clsFrom_lt {m : Nat} : ∀ (l : Tab) (c r : Nat), c < m → (∀ e ∈ l, e.2 < m) → clsFrom l c r < m
  | [], _, _, h, _ => h
  | e :: t, c, r, h, ha => by
    unfold clsFrom
    cases Nat.ble e.1 r with
    | true => exact clsFrom_lt t e.2 r (ha e (by simp)) fun x hx => ha x (by simp [hx])
    | false => exact h
theorem cls_lt {m : Nat} (l : Tab) (r : Nat) (hm : 0 < m) (h : (l.all fun e => Nat.blt e.2 m) = true) : cls l r < m :=
  clsFrom_lt l 0 r hm fun e he => by have := List.all_eq_true.1 h e he; simpa [Nat.blt, Nat.lt_iff_add_one_le] using this

theorem Join_any (x : Int) (w : World) : Calls Try.prog 26 #[.int .i32 x] w fun e w' => e = .returned (.int .i8 (cls joinsL (char x) : Nat)) ∧ Below w.heap.size w w' := by
  have hk := joins_any (char x) w
  have hc := character_any x w
  have hl := cls_lt (m := 100) joinsL (char x) (by decide) (by decide +kernel)
  revert hk hc hl
  generalize cls joinsL (char x) = c
  generalize endFrom joinsL (char x) = t
  generalize char x = r
  intro hk hc hl
  have hw : IntKind.i8.wrap (c : Int) = (c : Int) := IntWalk.i8_in _ (by omega)
  go_enter Try.func26, Try.ntmps26
  go_wp2_with fail
  refine hc.mono ?_
  rintro _ _ ⟨rfl, rfl⟩
  go_wp2_with fail
  refine hk.mono ?_
  rintro _ w' ⟨rfl, hB⟩
  go_wp2_with fail
  go_ret
  exact ⟨rfl, hB⟩
/-- columns, as the table says them, asked with 'wide' or without -/
def wideOf (c : Nat) (b : Bool) : Nat := bif Nat.beq c 3 then bif b then 2 else 1 else c
end Go.Proofs.Ytjecbchnckknkaa
