/- A number as it is asked: itself, if it is a character, else FFFD: the program's word and the document's. -/
import Derived.WalkKit
import Derived.Test.YtfegbfhkmdmheaaDoorSeek
import Derived.Test.YtfegbfhkmdmheaaDoorData
set_option linter.unusedSimpArgs false
set_option linter.unusedVariables false
namespace Go.Proofs.YtfegbfhkmdmheaaDoor
open Go.RowKit Go.Lib

/-- a number as it is asked -/
def char (x : Int) : Nat := if x < 0 ∨ 1114111 < x ∨ (55296 ≤ x ∧ x ≤ 57343) then 65533 else x.toNat
theorem char_le (x : Int) : char x ≤ 1114111 := by
  unfold char
  split <;> omega

theorem valid_char (x : Int) : Lib.validRune x = true → (char x : Int) = x := by
  intro h
  simp [Lib.validRune] at h
  unfold char
  rw [if_neg (by omega)]
  omega
theorem invalid_char (x : Int) : Lib.validRune x = false → char x = 65533 := by
  intro h
  simp [Lib.validRune] at h
  unfold char
  rw [if_pos (by omega)]

theorem character_any (x : Int) (w : World) : Calls Tryd.prog 40 #[.int .i32 x] w fun e w' => e = .returned (.int .i32 (char x : Nat)) ∧ w' = w := by
  have hc := Tryd.utf8_ValidRune x w
  have h1 := valid_char x
  have h2 := invalid_char x
  cases hv : Lib.validRune x with
  | true =>
    rw [hv] at hc
    rw [h1 hv]
    clear h1 h2 hv
    go_enter Tryd.func40, Tryd.ntmps40
    go_wp2_with (go_at_call 65; refine hc.mono ?_; rintro e w' ⟨rfl, rfl⟩)
    go_ret
    exact ⟨rfl, rfl⟩
  | false =>
    rw [hv] at hc
    rw [h2 hv]
    clear h1 h2 hv
    go_enter Tryd.func40, Tryd.ntmps40
    go_wp2_with (go_at_call 65; refine hc.mono ?_; rintro e w' ⟨rfl, rfl⟩)
    go_ret
    exact ⟨rfl, rfl⟩
end Go.Proofs.YtfegbfhkmdmheaaDoor

/- The six tables of package class: what each says of a number. Written by a program of mine (tools/mkdata.py). -/
namespace Go.Proofs.YtfegbfhkmdmheaaDoor
open Go.RowKit

set_option maxRecDepth 100000 in
theorem kinds_any (r : Nat) (w : World) : Calls Tryd.prog 104 #[.int .i32 (r : Int)] w fun e w' => e = .returned (.tuple #[.int .u8 (cls kindsL r : Nat), .int .i32 (endFrom kindsL r : Nat)]) ∧ Below w.heap.size w w' :=
  table_calls (tR := 21) (tU := 5) (tT := 69) (tE := 92) (tA := 154) (tS := 95) (seek := 64) (p0 := "tables.go:48") (p1 := "tables.go:49") (p2 := "tables.go:88") (L := kindsL)
    Tryd.func104 (by kernel_rfl) rfl (by kernel_rfl) ⟨fun _ _ => by kernel_rfl, by kernel_rfl, by kernel_rfl, by kernel_rfl, by kernel_rfl⟩ r w _ _ (enters_of Tryd.func64 (by kernel_rfl) rfl)
    fun W b _ hb _ hc => seek_any kindsL (by decide +kernel) (by decide +kernel) (by decide +kernel) (by decide +kernel) r W b hb hc

set_option maxRecDepth 100000 in
theorem widths_any (r : Nat) (w : World) : Calls Tryd.prog 107 #[.int .i32 (r : Int)] w fun e w' => e = .returned (.tuple #[.int .u8 (cls widthsL r : Nat), .int .i32 (endFrom widthsL r : Nat)]) ∧ Below w.heap.size w w' :=
  table_calls (tR := 21) (tU := 5) (tT := 69) (tE := 92) (tA := 158) (tS := 95) (seek := 64) (p0 := "tables.go:134") (p1 := "tables.go:135") (p2 := "tables.go:155") (L := widthsL)
    Tryd.func107 (by kernel_rfl) rfl (by kernel_rfl) ⟨fun _ _ => by kernel_rfl, by kernel_rfl, by kernel_rfl, by kernel_rfl, by kernel_rfl⟩ r w _ _ (enters_of Tryd.func64 (by kernel_rfl) rfl)
    fun W b _ hb _ hc => seek_any widthsL (by decide +kernel) (by decide +kernel) (by decide +kernel) (by decide +kernel) r W b hb hc

set_option maxRecDepth 100000 in
theorem marks_any (r : Nat) (w : World) : Calls Tryd.prog 39 #[.int .i32 (r : Int)] w fun e w' => e = .returned (.tuple #[.int .u8 (cls marksL r : Nat), .int .i32 (endFrom marksL r : Nat)]) ∧ Below w.heap.size w w' :=
  table_calls (tR := 21) (tU := 5) (tT := 69) (tE := 92) (tA := 93) (tS := 95) (seek := 64) (p0 := "tables.go:159") (p1 := "tables.go:160") (p2 := "tables.go:177") (L := marksL)
    Tryd.func39 (by kernel_rfl) rfl (by kernel_rfl) ⟨fun _ _ => by kernel_rfl, by kernel_rfl, by kernel_rfl, by kernel_rfl, by kernel_rfl⟩ r w _ _ (enters_of Tryd.func64 (by kernel_rfl) rfl)
    fun W b _ hb _ hc => seek_any marksL (by decide +kernel) (by decide +kernel) (by decide +kernel) (by decide +kernel) r W b hb hc

end Go.Proofs.YtfegbfhkmdmheaaDoor

/- The program's words on a number: Kind, Dir, Join, Break, Mark, Wide: each what its table says of the character. -/
namespace Go.Proofs.YtfegbfhkmdmheaaDoor
open Go.RowKit Go.Lib

theorem clsFrom_lt {m : Nat} : ∀ (l : Tab) (c r : Nat), c < m → (∀ e ∈ l, e.2 < m) → clsFrom l c r < m
  | [], _, _, h, _ => h
  | e :: t, c, r, h, ha => by
    unfold clsFrom
    cases Nat.ble e.1 r with
    | true => exact clsFrom_lt t e.2 r (ha e (by simp)) fun x hx => ha x (by simp [hx])
    | false => exact h
theorem cls_lt {m : Nat} (l : Tab) (r : Nat) (hm : 0 < m) (h : (l.all fun e => Nat.blt e.2 m) = true) : cls l r < m :=
  clsFrom_lt l 0 r hm fun e he => by have := List.all_eq_true.1 h e he; simpa [Nat.blt, Nat.lt_iff_add_one_le] using this

theorem Kind_any (x : Int) (w : World) : Calls Tryd.prog 70 #[.int .i32 x] w fun e w' => e = .returned (.int .i8 (cls kindsL (char x) : Nat)) ∧ Below w.heap.size w w' := by
  have hk := kinds_any (char x) w
  have hc := character_any x w
  have hl := cls_lt (m := 100) kindsL (char x) (by decide) (by decide +kernel)
  revert hk hc hl
  generalize cls kindsL (char x) = c
  generalize endFrom kindsL (char x) = t
  generalize char x = r
  intro hk hc hl
  have hw : IntKind.i8.wrap (c : Int) = (c : Int) := IntWalk.i8_in _ (by omega)
  go_enter Tryd.func70, Tryd.ntmps70
  go_wp2_with fail
  refine hc.mono ?_
  rintro _ _ ⟨rfl, rfl⟩
  go_wp2_with fail
  refine hk.mono ?_
  rintro _ w' ⟨rfl, hB⟩
  go_wp2_with fail
  go_ret
  exact ⟨rfl, hB⟩
theorem Mark_any (x : Int) (w : World) : Calls Tryd.prog 16 #[.int .i32 x] w fun e w' => e = .returned (.int .u8 (cls marksL (char x) : Nat)) ∧ Below w.heap.size w w' := by
  have hk := marks_any (char x) w
  have hc := character_any x w
  revert hk hc
  generalize cls marksL (char x) = c
  generalize endFrom marksL (char x) = t
  generalize char x = r
  intro hk hc
  go_enter Tryd.func16, Tryd.ntmps16
  go_wp2_with fail
  refine hc.mono ?_
  rintro _ _ ⟨rfl, rfl⟩
  go_wp2_with fail
  refine hk.mono ?_
  rintro _ w' ⟨rfl, hB⟩
  go_wp2_with fail
  go_ret
  exact ⟨rfl, hB⟩

/-- columns, as the table says them, asked with 'wide' or without -/
def wideOf (c : Nat) (b : Bool) : Nat := bif Nat.beq c 3 then bif b then 2 else 1 else c
theorem Wide_any (x : Int) (b : Bool) (w : World) : Calls Tryd.prog 75 #[.int .i32 x, .bool b] w fun e w' => e = .returned (.int .i64 (wideOf (cls widthsL (char x)) b : Nat)) ∧ Below w.heap.size w w' := by
  have hk := widths_any (char x) w
  have hc := character_any x w
  have hl := cls_lt (m := 100) widthsL (char x) (by decide) (by decide +kernel)
  revert hk hc hl
  generalize cls widthsL (char x) = c
  generalize endFrom widthsL (char x) = t
  generalize char x = r
  intro hk hc hl
  have hw : IntKind.i64.wrap (c : Int) = (c : Int) := IntWalk.i64_in _ (by omega)
  by_cases h3 : c = 3
  · subst h3
    cases b with
    | true =>
      go_enter Tryd.func75, Tryd.ntmps75
      go_wp2_with fail
      refine hc.mono ?_
      rintro _ _ ⟨rfl, rfl⟩
      go_wp2_with fail
      refine hk.mono ?_
      rintro _ w' ⟨rfl, hB⟩
      go_wp2_with fail
      go_ret
      exact ⟨rfl, hB⟩
    | false =>
      go_enter Tryd.func75, Tryd.ntmps75
      go_wp2_with fail
      refine hc.mono ?_
      rintro _ _ ⟨rfl, rfl⟩
      go_wp2_with fail
      refine hk.mono ?_
      rintro _ w' ⟨rfl, hB⟩
      go_wp2_with fail
      go_ret
      exact ⟨rfl, hB⟩
  · have e : wideOf c b = c := by
      unfold wideOf
      rw [show Nat.beq c 3 = false by rw [← Bool.not_eq_true]; exact fun h => h3 (Nat.eq_of_beq_eq_true h)]
      rfl
    rw [e]
    have hz : (((c : Nat) : Int) == 3) = false := by simp; omega
    have hz' : (((c : Nat) : Int) != 3) = true := by simp; omega
    have h3z : ¬ ((c : Int) = 3) := by omega
    go_enter Tryd.func75, Tryd.ntmps75
    go_wp2_with fail
    refine hc.mono ?_
    rintro _ _ ⟨rfl, rfl⟩
    go_wp2_with fail
    refine hk.mono ?_
    rintro _ w' ⟨rfl, hB⟩
    go_wp2_with fail
    go_ret
    exact ⟨rfl, hB⟩
end Go.Proofs.YtfegbfhkmdmheaaDoor
