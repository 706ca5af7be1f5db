/- The program's words on a number: Kind, Dir, Join, Break, Mark, Wide: each what its table says of the character. -/
import Derived.Test.YthakdkpgobloiabKnown
import Derived.Test.YthakdkpgobloiabTabs
namespace Go.Proofs.Ythakdkpgobloiab
open Go.RowKit Go.Lib

theorem clsFrom_lt {m : Nat} : ∀ (l : Tab) (c r : Nat), c < m → (∀ e ∈ l, e.2 < m) → clsFrom l c r < m
  | [], _, _, h, _ => h
  | e :: t, c, r, h, ha => by
    unfold clsFrom
    cases Nat.ble e.1 r with
    | true => exact clsFrom_lt t e.2 r (ha e (by simp)) fun x hx => ha x (by simp [hx])
    | false => exact h
theorem cls_lt {m : Nat} (l : Tab) (r : Nat) (hm : 0 < m) (h : (l.all fun e => Nat.blt e.2 m) = true) : cls l r < m :=
  clsFrom_lt l 0 r hm fun e he => by have := List.all_eq_true.1 h e he; simpa [Nat.blt, Nat.lt_iff_add_one_le] using this

theorem Kind_any (x : Int) (w : World) : Calls Try.prog 20 #[.int .i32 x] w fun e w' => e = .returned (.int .i8 (cls kindsL (char x) : Nat)) ∧ Below w.heap.size w w' := by
  have hk := kinds_any (char x) w
  have hc := character_any x w
  have hl := cls_lt (m := 100) kindsL (char x) (by decide) (by decide +kernel)
  revert hk hc hl
  generalize cls kindsL (char x) = c
  generalize endFrom kindsL (char x) = t
  generalize char x = r
  intro hk hc hl
  have hw : IntKind.i8.wrap (c : Int) = (c : Int) := IntWalk.i8_in _ (by omega)
  go_enter Try.func20, Try.ntmps20
  go_wp2_with fail
  refine hc.mono ?_
  rintro _ _ ⟨rfl, rfl⟩
  go_wp2_with fail
  refine hk.mono ?_
  rintro _ w' ⟨rfl, hB⟩
  go_wp2_with fail
  go_ret
  exact ⟨rfl, hB⟩
theorem Dir_any (x : Int) (w : World) : Calls Try.prog 21 #[.int .i32 x] w fun e w' => e = .returned (.int .i8 (cls dirsL (char x) : Nat)) ∧ Below w.heap.size w w' := by
  have hk := dirs_any (char x) w
  have hc := character_any x w
  have hl := cls_lt (m := 100) dirsL (char x) (by decide) (by decide +kernel)
  revert hk hc hl
  generalize cls dirsL (char x) = c
  generalize endFrom dirsL (char x) = t
  generalize char x = r
  intro hk hc hl
  have hw : IntKind.i8.wrap (c : Int) = (c : Int) := IntWalk.i8_in _ (by omega)
  go_enter Try.func21, Try.ntmps21
  go_wp2_with fail
  refine hc.mono ?_
  rintro _ _ ⟨rfl, rfl⟩
  go_wp2_with fail
  refine hk.mono ?_
  rintro _ w' ⟨rfl, hB⟩
  go_wp2_with fail
  go_ret
  exact ⟨rfl, hB⟩
theorem Join_any (x : Int) (w : World) : Calls Try.prog 22 #[.int .i32 x] w fun e w' => e = .returned (.int .i8 (cls joinsL (char x) : Nat)) ∧ Below w.heap.size w w' := by
  have hk := joins_any (char x) w
  have hc := character_any x w
  have hl := cls_lt (m := 100) joinsL (char x) (by decide) (by decide +kernel)
  revert hk hc hl
  generalize cls joinsL (char x) = c
  generalize endFrom joinsL (char x) = t
  generalize char x = r
  intro hk hc hl
  have hw : IntKind.i8.wrap (c : Int) = (c : Int) := IntWalk.i8_in _ (by omega)
  go_enter Try.func22, Try.ntmps22
  go_wp2_with fail
  refine hc.mono ?_
  rintro _ _ ⟨rfl, rfl⟩
  go_wp2_with fail
  refine hk.mono ?_
  rintro _ w' ⟨rfl, hB⟩
  go_wp2_with fail
  go_ret
  exact ⟨rfl, hB⟩
theorem Break_any (x : Int) (w : World) : Calls Try.prog 25 #[.int .i32 x] w fun e w' => e = .returned (.int .i8 (cls breaksL (char x) : Nat)) ∧ Below w.heap.size w w' := by
  have hk := breaks_any (char x) w
  have hc := character_any x w
  have hl := cls_lt (m := 100) breaksL (char x) (by decide) (by decide +kernel)
  revert hk hc hl
  generalize cls breaksL (char x) = c
  generalize endFrom breaksL (char x) = t
  generalize char x = r
  intro hk hc hl
  have hw : IntKind.i8.wrap (c : Int) = (c : Int) := IntWalk.i8_in _ (by omega)
  go_enter Try.func25, Try.ntmps25
  go_wp2_with fail
  refine hc.mono ?_
  rintro _ _ ⟨rfl, rfl⟩
  go_wp2_with fail
  refine hk.mono ?_
  rintro _ w' ⟨rfl, hB⟩
  go_wp2_with fail
  go_ret
  exact ⟨rfl, hB⟩
theorem Mark_any (x : Int) (w : World) : Calls Try.prog 24 #[.int .i32 x] w fun e w' => e = .returned (.int .u8 (cls marksL (char x) : Nat)) ∧ Below w.heap.size w w' := by
  have hk := marks_any (char x) w
  have hc := character_any x w
  revert hk hc
  generalize cls marksL (char x) = c
  generalize endFrom marksL (char x) = t
  generalize char x = r
  intro hk hc
  go_enter Try.func24, Try.ntmps24
  go_wp2_with fail
  refine hc.mono ?_
  rintro _ _ ⟨rfl, rfl⟩
  go_wp2_with fail
  refine hk.mono ?_
  rintro _ w' ⟨rfl, hB⟩
  go_wp2_with fail
  go_ret
  exact ⟨rfl, hB⟩

/-- columns, as the table says them, asked with 'wide' or without -/
def wideOf (c : Nat) (b : Bool) : Nat := bif Nat.beq c 3 then bif b then 2 else 1 else c
theorem Wide_any (x : Int) (b : Bool) (w : World) : Calls Try.prog 23 #[.int .i32 x, .bool b] w fun e w' => e = .returned (.int .i64 (wideOf (cls widthsL (char x)) b : Nat)) ∧ Below w.heap.size w w' := by
  have hk := widths_any (char x) w
  have hc := character_any x w
  have hl := cls_lt (m := 100) widthsL (char x) (by decide) (by decide +kernel)
  revert hk hc hl
  generalize cls widthsL (char x) = c
  generalize endFrom widthsL (char x) = t
  generalize char x = r
  intro hk hc hl
  have hw : IntKind.i64.wrap (c : Int) = (c : Int) := IntWalk.i64_in _ (by omega)
  by_cases h3 : c = 3
  · subst h3
    cases b with
    | true =>
      go_enter Try.func23, Try.ntmps23
      go_wp2_with fail
      refine hc.mono ?_
      rintro _ _ ⟨rfl, rfl⟩
      go_wp2_with fail
      refine hk.mono ?_
      rintro _ w' ⟨rfl, hB⟩
      go_wp2_with fail
      go_ret
      exact ⟨rfl, hB⟩
    | false =>
      go_enter Try.func23, Try.ntmps23
      go_wp2_with fail
      refine hc.mono ?_
      rintro _ _ ⟨rfl, rfl⟩
      go_wp2_with fail
      refine hk.mono ?_
      rintro _ w' ⟨rfl, hB⟩
      go_wp2_with fail
      go_ret
      exact ⟨rfl, hB⟩
  · have e : wideOf c b = c := by
      unfold wideOf
      rw [show Nat.beq c 3 = false by rw [← Bool.not_eq_true]; exact fun h => h3 (Nat.eq_of_beq_eq_true h)]
      rfl
    rw [e]
    have hz : (((c : Nat) : Int) == 3) = false := by simp; omega
    have hz' : (((c : Nat) : Int) != 3) = true := by simp; omega
    have h3z : ¬ ((c : Int) = 3) := by omega
    go_enter Try.func23, Try.ntmps23
    go_wp2_with fail
    refine hc.mono ?_
    rintro _ _ ⟨rfl, rfl⟩
    go_wp2_with fail
    refine hk.mono ?_
    rintro _ w' ⟨rfl, hB⟩
    go_wp2_with fail
    go_ret
    exact ⟨rfl, hB⟩
end Go.Proofs.Ythakdkpgobloiab
