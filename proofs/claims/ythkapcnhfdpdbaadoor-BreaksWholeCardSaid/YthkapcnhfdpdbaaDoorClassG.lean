/- A number as it is asked: itself, if it is a character, else FFFD: the program's word and the document's. -/
import Derived.WalkKit
import Derived.Test.YthkapcnhfdpdbaaDoorSeek
import Derived.Test.YthkapcnhfdpdbaaDoorData
set_option linter.unusedSimpArgs false
set_option linter.unusedVariables false
namespace Go.Proofs.YthkapcnhfdpdbaaDoor
open Go.RowKit Go.Lib

/-- a number as it is asked -/
def char (x : Int) : Nat := if x < 0 ∨ 1114111 < x ∨ (55296 ≤ x ∧ x ≤ 57343) then 65533 else x.toNat
theorem char_le (x : Int) : char x ≤ 1114111 := by
  unfold char
  split <;> omega

theorem known_any (x : Int) (w : World) : Calls Tryd.prog 45 #[.int .i32 x] w fun e w' => e = .returned (.int .i32 (char x : Nat)) ∧ w' = w := by
  by_cases h0 : x < 0
  · have e : char x = 65533 := by unfold char; rw [if_pos (by omega)]
    rw [e]
    go_enter Tryd.func45, Tryd.ntmps45
    go_wp2
    go_ret
    exact ⟨rfl, rfl⟩
  by_cases h1 : 1114111 < x
  · have e : char x = 65533 := by unfold char; rw [if_pos (by omega)]
    rw [e]
    go_enter Tryd.func45, Tryd.ntmps45
    go_wp2
    go_ret
    exact ⟨rfl, rfl⟩
  by_cases h2 : 55296 ≤ x
  · by_cases h3 : x ≤ 57343
    · have e : char x = 65533 := by unfold char; rw [if_pos (by omega)]
      rw [e]
      go_enter Tryd.func45, Tryd.ntmps45
      go_wp2
      go_ret
      exact ⟨rfl, rfl⟩
    · have e : (char x : Int) = x := by unfold char; rw [if_neg (by omega)]; omega
      rw [e]
      go_enter Tryd.func45, Tryd.ntmps45
      go_wp2
      go_ret
      exact ⟨rfl, rfl⟩
  · have e : (char x : Int) = x := by unfold char; rw [if_neg (by omega)]; omega
    rw [e]
    go_enter Tryd.func45, Tryd.ntmps45
    go_wp2
    go_ret
    exact ⟨rfl, rfl⟩

theorem valid_char (x : Int) : Lib.validRune x = true → (char x : Int) = x := by
  intro h
  simp [Lib.validRune] at h
  unfold char
  rw [if_neg (by omega)]
  omega
theorem invalid_char (x : Int) : Lib.validRune x = false → char x = 65533 := by
  intro h
  simp [Lib.validRune] at h
  unfold char
  rw [if_pos (by omega)]

theorem character_any (x : Int) (w : World) : Calls Tryd.prog 39 #[.int .i32 x] w fun e w' => e = .returned (.int .i32 (char x : Nat)) ∧ w' = w := by
  have hc := Tryd.utf8_ValidRune x w
  have h1 := valid_char x
  have h2 := invalid_char x
  cases hv : Lib.validRune x with
  | true =>
    rw [hv] at hc
    rw [h1 hv]
    clear h1 h2 hv
    go_enter Tryd.func39, Tryd.ntmps39
    go_wp2_with (go_at_call 66; refine hc.mono ?_; rintro e w' ⟨rfl, rfl⟩)
    go_ret
    exact ⟨rfl, rfl⟩
  | false =>
    rw [hv] at hc
    rw [h2 hv]
    clear h1 h2 hv
    go_enter Tryd.func39, Tryd.ntmps39
    go_wp2_with (go_at_call 66; refine hc.mono ?_; rintro e w' ⟨rfl, rfl⟩)
    go_ret
    exact ⟨rfl, rfl⟩
end Go.Proofs.YthkapcnhfdpdbaaDoor

/- The six tables of package class: what each says of a number. Written by a program of mine (tools/mkdata.py). -/
namespace Go.Proofs.YthkapcnhfdpdbaaDoor
open Go.RowKit

set_option maxRecDepth 100000 in
theorem kinds_any (r : Nat) (w : World) : Calls Tryd.prog 92 #[.int .i32 (r : Int)] w fun e w' => e = .returned (.tuple #[.int .u8 (cls kindsL r : Nat), .int .i32 (endFrom kindsL r : Nat)]) ∧ Below w.heap.size w w' :=
  table_calls (tR := 21) (tU := 5) (tT := 75) (tE := 93) (tA := 115) (tS := 96) (seek := 65) (p0 := "tables.go:48") (p1 := "tables.go:49") (p2 := "tables.go:88") (L := kindsL)
    Tryd.func92 (by kernel_rfl) rfl (by kernel_rfl) ⟨fun _ _ => by kernel_rfl, by kernel_rfl, by kernel_rfl, by kernel_rfl, by kernel_rfl⟩ r w _ _ (enters_of Tryd.func65 (by kernel_rfl) rfl)
    fun W b _ hb _ hc => seek_any kindsL (by decide +kernel) (by decide +kernel) (by decide +kernel) (by decide +kernel) r W b hb hc

set_option maxRecDepth 100000 in
theorem widths_any (r : Nat) (w : World) : Calls Tryd.prog 93 #[.int .i32 (r : Int)] w fun e w' => e = .returned (.tuple #[.int .u8 (cls widthsL r : Nat), .int .i32 (endFrom widthsL r : Nat)]) ∧ Below w.heap.size w w' :=
  table_calls (tR := 21) (tU := 5) (tT := 75) (tE := 93) (tA := 116) (tS := 96) (seek := 65) (p0 := "tables.go:134") (p1 := "tables.go:135") (p2 := "tables.go:155") (L := widthsL)
    Tryd.func93 (by kernel_rfl) rfl (by kernel_rfl) ⟨fun _ _ => by kernel_rfl, by kernel_rfl, by kernel_rfl, by kernel_rfl, by kernel_rfl⟩ r w _ _ (enters_of Tryd.func65 (by kernel_rfl) rfl)
    fun W b _ hb _ hc => seek_any widthsL (by decide +kernel) (by decide +kernel) (by decide +kernel) (by decide +kernel) r W b hb hc

set_option maxRecDepth 100000 in
theorem breaks_any (r : Nat) (w : World) : Calls Tryd.prog 38 #[.int .i32 (r : Int)] w fun e w' => e = .returned (.tuple #[.int .u8 (cls breaksL r : Nat), .int .i32 (endFrom breaksL r : Nat)]) ∧ Below w.heap.size w w' :=
  table_calls (tR := 21) (tU := 5) (tT := 75) (tE := 93) (tA := 94) (tS := 96) (seek := 65) (p0 := "tables.go:204") (p1 := "tables.go:205") (p2 := "tables.go:257") (L := breaksL)
    Tryd.func38 (by kernel_rfl) rfl (by kernel_rfl) ⟨fun _ _ => by kernel_rfl, by kernel_rfl, by kernel_rfl, by kernel_rfl, by kernel_rfl⟩ r w _ _ (enters_of Tryd.func65 (by kernel_rfl) rfl)
    fun W b _ hb _ hc => seek_any breaksL (by decide +kernel) (by decide +kernel) (by decide +kernel) (by decide +kernel) r W b hb hc

end Go.Proofs.YthkapcnhfdpdbaaDoor

/- The program's words on a number: Kind, Dir, Join, Break, Mark, Wide: each what its table says of the character. -/
namespace Go.Proofs.YthkapcnhfdpdbaaDoor
open Go.RowKit Go.Lib

theorem clsFrom_lt {m : Nat} : ∀ (l : Tab) (c r : Nat), c < m → (∀ e ∈ l, e.2 < m) → clsFrom l c r < m
  | [], _, _, h, _ => h
  | e :: t, c, r, h, ha => by
    unfold clsFrom
    cases Nat.ble e.1 r with
    | true => exact clsFrom_lt t e.2 r (ha e (by simp)) fun x hx => ha x (by simp [hx])
    | false => exact h
theorem cls_lt {m : Nat} (l : Tab) (r : Nat) (hm : 0 < m) (h : (l.all fun e => Nat.blt e.2 m) = true) : cls l r < m :=
  clsFrom_lt l 0 r hm fun e he => by have := List.all_eq_true.1 h e he; simpa [Nat.blt, Nat.lt_iff_add_one_le] using this

theorem Kind_any (x : Int) (w : World) : Calls Tryd.prog 89 #[.int .i32 x] w fun e w' => e = .returned (.int .i8 (cls kindsL (char x) : Nat)) ∧ Below w.heap.size w w' := by
  have hk := kinds_any (char x) w
  have hc := character_any x w
  have hl := cls_lt (m := 100) kindsL (char x) (by decide) (by decide +kernel)
  revert hk hc hl
  generalize cls kindsL (char x) = c
  generalize endFrom kindsL (char x) = t
  generalize char x = r
  intro hk hc hl
  have hw : IntKind.i8.wrap (c : Int) = (c : Int) := IntWalk.i8_in _ (by omega)
  go_enter Tryd.func89, Tryd.ntmps89
  go_wp2_with fail
  refine hc.mono ?_
  rintro _ _ ⟨rfl, rfl⟩
  go_wp2_with fail
  refine hk.mono ?_
  rintro _ w' ⟨rfl, hB⟩
  go_wp2_with fail
  go_ret
  exact ⟨rfl, hB⟩
theorem Break_any (x : Int) (w : World) : Calls Tryd.prog 25 #[.int .i32 x] w fun e w' => e = .returned (.int .i8 (cls breaksL (char x) : Nat)) ∧ Below w.heap.size w w' := by
  have hk := breaks_any (char x) w
  have hc := character_any x w
  have hl := cls_lt (m := 100) breaksL (char x) (by decide) (by decide +kernel)
  revert hk hc hl
  generalize cls breaksL (char x) = c
  generalize endFrom breaksL (char x) = t
  generalize char x = r
  intro hk hc hl
  have hw : IntKind.i8.wrap (c : Int) = (c : Int) := IntWalk.i8_in _ (by omega)
  go_enter Tryd.func25, Tryd.ntmps25
  go_wp2_with fail
  refine hc.mono ?_
  rintro _ _ ⟨rfl, rfl⟩
  go_wp2_with fail
  refine hk.mono ?_
  rintro _ w' ⟨rfl, hB⟩
  go_wp2_with fail
  go_ret
  exact ⟨rfl, hB⟩
/-- columns, as the table says them, asked with 'wide' or without -/
def wideOf (c : Nat) (b : Bool) : Nat := bif Nat.beq c 3 then bif b then 2 else 1 else c
theorem Wide_any (x : Int) (b : Bool) (w : World) : Calls Tryd.prog 90 #[.int .i32 x, .bool b] w fun e w' => e = .returned (.int .i64 (wideOf (cls widthsL (char x)) b : Nat)) ∧ Below w.heap.size w w' := by
  have hk := widths_any (char x) w
  have hc := character_any x w
  have hl := cls_lt (m := 100) widthsL (char x) (by decide) (by decide +kernel)
  revert hk hc hl
  generalize cls widthsL (char x) = c
  generalize endFrom widthsL (char x) = t
  generalize char x = r
  intro hk hc hl
  have hw : IntKind.i64.wrap (c : Int) = (c : Int) := IntWalk.i64_in _ (by omega)
  by_cases h3 : c = 3
  · subst h3
    cases b with
    | true =>
      go_enter Tryd.func90, Tryd.ntmps90
      go_wp2_with fail
      refine hc.mono ?_
      rintro _ _ ⟨rfl, rfl⟩
      go_wp2_with fail
      refine hk.mono ?_
      rintro _ w' ⟨rfl, hB⟩
      go_wp2_with fail
      go_ret
      exact ⟨rfl, hB⟩
    | false =>
      go_enter Tryd.func90, Tryd.ntmps90
      go_wp2_with fail
      refine hc.mono ?_
      rintro _ _ ⟨rfl, rfl⟩
      go_wp2_with fail
      refine hk.mono ?_
      rintro _ w' ⟨rfl, hB⟩
      go_wp2_with fail
      go_ret
      exact ⟨rfl, hB⟩
  · have e : wideOf c b = c := by
      unfold wideOf
      rw [show Nat.beq c 3 = false by rw [← Bool.not_eq_true]; exact fun h => h3 (Nat.eq_of_beq_eq_true h)]
      rfl
    rw [e]
    have hz : (((c : Nat) : Int) == 3) = false := by simp; omega
    have hz' : (((c : Nat) : Int) != 3) = true := by simp; omega
    have h3z : ¬ ((c : Int) = 3) := by omega
    go_enter Tryd.func90, Tryd.ntmps90
    go_wp2_with fail
    refine hc.mono ?_
    rintro _ _ ⟨rfl, rfl⟩
    go_wp2_with fail
    refine hk.mono ?_
    rintro _ w' ⟨rfl, hB⟩
    go_wp2_with fail
    go_ret
    exact ⟨rfl, hB⟩
end Go.Proofs.YthkapcnhfdpdbaaDoor

/- The role of a number in clusters. -/
namespace Go.Proofs.YthkapcnhfdpdbaaDoor
open Go.RowKit Go.Lib

def kindRole (r : Nat) : Nat :=
  if cls kindsL (char r) = 0 ∨ cls kindsL (char r) = 1 then 1 else if cls kindsL (char r) = 2 then 8 else if cls kindsL (char r) = 7 ∧ wideOf (cls widthsL (char r)) false = 2 then 64 else 4096
def roleN (r size : Nat) : Nat :=
  if r = 65533 ∧ size = 1 then 1 else if r = 13 then 2 else if r = 10 then 4 else if r = 8204 then 8 else if r = 8205 then 16 else if r = 8232 ∨ r = 8233 then 1
  else if 127462 ≤ r ∧ r ≤ 127487 then 32 else if 4352 ≤ r ∧ r ≤ 4607 then (if r < 4448 then 128 else if r < 4520 then 256 else 512)
  else if 44032 ≤ r ∧ r ≤ 55203 then (if (r - 44032) % 28 = 0 then 1024 else 2048) else kindRole r

set_option maxRecDepth 100000 in
theorem kindRole_any (r : Nat) (w : World) : Calls Tryd.prog 86 #[.int .i32 (r : Int)] w fun e w' => e = .returned (.int .u16 (kindRole r : Nat)) ∧ Below w.heap.size w w' := by
  have hk := Kind_any (r : Int) w
  have hwd := Wide_any (r : Int) false
  unfold kindRole
  revert hk hwd
  generalize cls kindsL (char r) = k
  generalize wideOf (cls widthsL (char r)) false = v
  intro hk hwd
  have Hk := Lib.hid hk
  have Hwd := Lib.hid hwd
  clear hk hwd
  have hall : k = 0 ∨ k = 1 ∨ k = 2 ∨ (k = 7 ∧ v = 2) ∨ (k = 7 ∧ v ≠ 2) ∨ (k ≠ 0 ∧ k ≠ 1 ∧ k ≠ 2 ∧ k ≠ 7) := by omega
  rcases hall with rfl | rfl | rfl | ⟨rfl, rfl⟩ | ⟨rfl, hv⟩ | ⟨h0, h1, h2, h7⟩
  · go_enter Tryd.func86, Tryd.ntmps86
    go_wp2_with fail
    refine Hk.out.mono ?_
    rintro _ w1 ⟨rfl, b1⟩
    go_wp2_with fail
    go_ret
    exact ⟨rfl, b1⟩
  · go_enter Tryd.func86, Tryd.ntmps86
    go_wp2_with fail
    refine Hk.out.mono ?_
    rintro _ w1 ⟨rfl, b1⟩
    go_wp2_with fail
    go_ret
    exact ⟨rfl, b1⟩
  · go_enter Tryd.func86, Tryd.ntmps86
    go_wp2_with fail
    refine Hk.out.mono ?_
    rintro _ w1 ⟨rfl, b1⟩
    go_wp2_with fail
    go_ret
    exact ⟨rfl, b1⟩
  · go_enter Tryd.func86, Tryd.ntmps86
    go_wp2_with fail
    refine Hk.out.mono ?_
    rintro _ w1 ⟨rfl, b1⟩
    go_wp2_with fail
    refine (Hwd.out w1).mono ?_
    rintro _ w2 ⟨rfl, b2⟩
    go_wp2_with fail
    go_ret
    exact ⟨rfl, b1.trans (b2.mono b1.size)⟩
  · have hvb : ((v : Int) == 2) = false := by simp; omega
    go_enter Tryd.func86, Tryd.ntmps86
    go_wp2_with fail
    refine Hk.out.mono ?_
    rintro _ w1 ⟨rfl, b1⟩
    go_wp2_with fail
    refine (Hwd.out w1).mono ?_
    rintro _ w2 ⟨rfl, b2⟩
    go_wp2_with fail
    go_ret
    exact ⟨rfl, b1.trans (b2.mono b1.size)⟩
  · have e0 : ((k : Int) == 0) = false := by simp; omega
    have e1 : ((k : Int) == 1) = false := by simp; omega
    have e2 : ((k : Int) == 2) = false := by simp; omega
    have e7 : ((k : Int) == 7) = false := by simp; omega
    rw [if_neg (by omega), if_neg (by omega), if_neg (by omega)]
    go_enter Tryd.func86, Tryd.ntmps86
    go_wp2_with fail
    refine Hk.out.mono ?_
    rintro _ w1 ⟨rfl, b1⟩
    go_wp2_with fail
    go_ret
    exact ⟨rfl, b1⟩

set_option maxRecDepth 100000 in
theorem rolePart_any (r : Nat) (w : World) : Calls Tryd.prog 84 #[.int .i32 (r : Int)] w fun e w' => e = .returned (.int .u16 ((if r < 4448 then 128 else if r < 4520 then 256 else 512 : Nat) : Int)) ∧ w' = w := by
  by_cases h1 : r < 4448
  · have e1 : (r : Int) < 4448 := by omega
    rw [if_pos h1]
    go_enter Tryd.func84, Tryd.ntmps84
    go_wp2
    go_ret
    exact ⟨rfl, rfl⟩
  · have e1 : ¬ (r : Int) < 4448 := by omega
    rw [if_neg h1]
    by_cases h2 : r < 4520
    · have e2 : (r : Int) < 4520 := by omega
      rw [if_pos h2]
      go_enter Tryd.func84, Tryd.ntmps84
      go_wp2
      go_ret
      exact ⟨rfl, rfl⟩
    · have e2 : ¬ (r : Int) < 4520 := by omega
      rw [if_neg h2]
      go_enter Tryd.func84, Tryd.ntmps84
      go_wp2
      go_ret
      exact ⟨rfl, rfl⟩
set_option maxRecDepth 100000 in
theorem roleSyllable_any (r : Nat) (w : World) (hr : 44032 ≤ r ∧ r ≤ 55203) : Calls Tryd.prog 85 #[.int .i32 (r : Int)] w fun e w' => e = .returned (.int .u16 ((if (r - 44032) % 28 = 0 then 1024 else 2048 : Nat) : Int)) ∧ w' = w := by
  have hw1 : IntKind.i32.wrap ((r : Int) - 44032) = ((r - 44032 : Nat) : Int) := by rw [IntWalk.i32_in _ (by omega)]; omega
  obtain ⟨q, hq⟩ : ∃ q, r - 44032 = q := ⟨_, rfl⟩
  rw [hq] at hw1 ⊢
  have hw2 : IntKind.i32.wrap ((q : Int).tmod 28) = ((q % 28 : Nat) : Int) := by
    rw [show (q : Int).tmod 28 = ((q % 28 : Nat) : Int) by exact Int.ofNat_tmod q 28]
    exact IntWalk.i32_in _ (by omega)
  have hw3 : (q : Int).tmod 28 = ((q % 28 : Nat) : Int) := by exact Int.ofNat_tmod q 28
  obtain ⟨u, hu⟩ : ∃ u, q % 28 = u := ⟨_, rfl⟩
  rw [hu] at hw2 hw3 ⊢
  rw [hw3] at hw2
  clear hu hr
  by_cases h : u = 0
  · rw [if_pos h]
    have hb : ((u : Int) == 0) = true := by rw [h]; rfl
    go_enter Tryd.func85, Tryd.ntmps85
    go_wp2
    go_ret
    exact ⟨rfl, rfl⟩
  · rw [if_neg h]
    have hb : ((u : Int) == 0) = false := by simp; omega
    go_enter Tryd.func85, Tryd.ntmps85
    go_wp2
    go_ret
    exact ⟨rfl, rfl⟩

set_option maxRecDepth 100000 in
theorem role_any (r size : Nat) (w : World) : Calls Tryd.prog 77 #[.int .i32 (r : Int), .int .i64 (size : Int)] w fun e w' => e = .returned (.int .u16 (roleN r size : Nat)) ∧ Below w.heap.size w w' := by
  have hall : (r = 65533 ∧ size = 1) ∨ r = 13 ∨ r = 10 ∨ r = 8204 ∨ r = 8205 ∨ r = 8232 ∨ r = 8233 ∨ (127462 ≤ r ∧ r ≤ 127487) ∨ (4352 ≤ r ∧ r ≤ 4607) ∨ (44032 ≤ r ∧ r ≤ 55203) ∨
      (¬ (r = 65533 ∧ size = 1) ∧ r ≠ 13 ∧ r ≠ 10 ∧ r ≠ 8204 ∧ r ≠ 8205 ∧ r ≠ 8232 ∧ r ≠ 8233 ∧ ¬ (127462 ≤ r ∧ r ≤ 127487) ∧ ¬ (4352 ≤ r ∧ r ≤ 4607) ∧ ¬ (44032 ≤ r ∧ r ≤ 55203)) := by omega
  rcases hall with ⟨hr, hz⟩ | hr | hr | hr | hr | hr | hr | hr | hr | hr | ⟨hb, n1, n2, n3, n4, n5, n6, h7, h8, h9⟩
  · rw [show roleN r size = 1 by unfold roleN; rw [if_pos ⟨hr, hz⟩]]
    have e65533 : ((r : Int) == 65533) = true := by simp; omega
    have ez : ((size : Int) == 1) = true := by simp; omega
    clear hz
    clear hr
    go_enter Tryd.func77, Tryd.ntmps77
    go_wp2
    go_ret
    exact ⟨rfl, Below.refl _ _⟩
  · rw [show roleN r size = 2 by simp [roleN, hr]]
    have e65533 : ((r : Int) == 65533) = false := by simp; omega
    have e13 : ((r : Int) == 13) = true := by simp; omega
    clear hr
    go_enter Tryd.func77, Tryd.ntmps77
    go_wp2
    go_ret
    exact ⟨rfl, Below.refl _ _⟩
  · rw [show roleN r size = 4 by simp [roleN, hr]]
    have e65533 : ((r : Int) == 65533) = false := by simp; omega
    have e13 : ((r : Int) == 13) = false := by simp; omega
    have e10 : ((r : Int) == 10) = true := by simp; omega
    clear hr
    go_enter Tryd.func77, Tryd.ntmps77
    go_wp2
    go_ret
    exact ⟨rfl, Below.refl _ _⟩
  · rw [show roleN r size = 8 by simp [roleN, hr]]
    have e65533 : ((r : Int) == 65533) = false := by simp; omega
    have e13 : ((r : Int) == 13) = false := by simp; omega
    have e10 : ((r : Int) == 10) = false := by simp; omega
    have e8204 : ((r : Int) == 8204) = true := by simp; omega
    clear hr
    go_enter Tryd.func77, Tryd.ntmps77
    go_wp2
    go_ret
    exact ⟨rfl, Below.refl _ _⟩
  · rw [show roleN r size = 16 by simp [roleN, hr]]
    have e65533 : ((r : Int) == 65533) = false := by simp; omega
    have e13 : ((r : Int) == 13) = false := by simp; omega
    have e10 : ((r : Int) == 10) = false := by simp; omega
    have e8204 : ((r : Int) == 8204) = false := by simp; omega
    have e8205 : ((r : Int) == 8205) = true := by simp; omega
    clear hr
    go_enter Tryd.func77, Tryd.ntmps77
    go_wp2
    go_ret
    exact ⟨rfl, Below.refl _ _⟩
  · rw [show roleN r size = 1 by simp [roleN, hr]]
    have e65533 : ((r : Int) == 65533) = false := by simp; omega
    have e13 : ((r : Int) == 13) = false := by simp; omega
    have e10 : ((r : Int) == 10) = false := by simp; omega
    have e8204 : ((r : Int) == 8204) = false := by simp; omega
    have e8205 : ((r : Int) == 8205) = false := by simp; omega
    have e8232 : ((r : Int) == 8232) = true := by simp; omega
    clear hr
    go_enter Tryd.func77, Tryd.ntmps77
    go_wp2
    go_ret
    exact ⟨rfl, Below.refl _ _⟩
  · rw [show roleN r size = 1 by simp [roleN, hr]]
    have e65533 : ((r : Int) == 65533) = false := by simp; omega
    have e13 : ((r : Int) == 13) = false := by simp; omega
    have e10 : ((r : Int) == 10) = false := by simp; omega
    have e8204 : ((r : Int) == 8204) = false := by simp; omega
    have e8205 : ((r : Int) == 8205) = false := by simp; omega
    have e8232 : ((r : Int) == 8232) = false := by simp; omega
    have e8233 : ((r : Int) == 8233) = true := by simp; omega
    clear hr
    go_enter Tryd.func77, Tryd.ntmps77
    go_wp2
    go_ret
    exact ⟨rfl, Below.refl _ _⟩
  · rw [show roleN r size = 32 by unfold roleN; rw [if_neg (by omega), if_neg (by omega), if_neg (by omega), if_neg (by omega), if_neg (by omega), if_neg (by omega), if_pos hr]]
    have e65533 : ((r : Int) == 65533) = false := by simp; omega
    have e13 : ((r : Int) == 13) = false := by simp; omega
    have e10 : ((r : Int) == 10) = false := by simp; omega
    have e8204 : ((r : Int) == 8204) = false := by simp; omega
    have e8205 : ((r : Int) == 8205) = false := by simp; omega
    have e8232 : ((r : Int) == 8232) = false := by simp; omega
    have e8233 : ((r : Int) == 8233) = false := by simp; omega
    have l1 : (127462 : Int) ≤ (r : Int) := by omega
    have l2 : (r : Int) ≤ 127487 := by omega
    go_enter Tryd.func77, Tryd.ntmps77
    go_wp2
    go_ret
    exact ⟨rfl, Below.refl _ _⟩
  · rw [show roleN r size = (if r < 4448 then 128 else if r < 4520 then 256 else 512) by unfold roleN; rw [if_neg (by omega), if_neg (by omega), if_neg (by omega), if_neg (by omega), if_neg (by omega), if_neg (by omega), if_neg (by omega), if_pos hr]]
    have e65533 : ((r : Int) == 65533) = false := by simp; omega
    have e13 : ((r : Int) == 13) = false := by simp; omega
    have e10 : ((r : Int) == 10) = false := by simp; omega
    have e8204 : ((r : Int) == 8204) = false := by simp; omega
    have e8205 : ((r : Int) == 8205) = false := by simp; omega
    have e8232 : ((r : Int) == 8232) = false := by simp; omega
    have e8233 : ((r : Int) == 8233) = false := by simp; omega
    have l1 : ¬ (127462 : Int) ≤ (r : Int) := by omega
    have l3 : (4352 : Int) ≤ (r : Int) := by omega
    have l4 : (r : Int) ≤ 4607 := by omega
    have H := Lib.hid (fun W => rolePart_any r W)
    revert H
    generalize (if r < 4448 then 128 else if r < 4520 then 256 else 512 : Nat) = v
    intro H
    go_enter Tryd.func77, Tryd.ntmps77
    go_wp2_with fail
    refine (H.out _).mono ?_
    rintro _ _ ⟨rfl, rfl⟩
    go_wp2_with fail
    go_ret
    exact ⟨rfl, Below.refl _ _⟩
  · rw [show roleN r size = (if (r - 44032) % 28 = 0 then 1024 else 2048) by unfold roleN; rw [if_neg (by omega), if_neg (by omega), if_neg (by omega), if_neg (by omega), if_neg (by omega), if_neg (by omega), if_neg (by omega), if_neg (by omega), if_pos hr]]
    have e65533 : ((r : Int) == 65533) = false := by simp; omega
    have e13 : ((r : Int) == 13) = false := by simp; omega
    have e10 : ((r : Int) == 10) = false := by simp; omega
    have e8204 : ((r : Int) == 8204) = false := by simp; omega
    have e8205 : ((r : Int) == 8205) = false := by simp; omega
    have e8232 : ((r : Int) == 8232) = false := by simp; omega
    have e8233 : ((r : Int) == 8233) = false := by simp; omega
    have l1 : ¬ (127462 : Int) ≤ (r : Int) := by omega
    have l3 : (4352 : Int) ≤ (r : Int) := by omega
    have l4 : ¬ (r : Int) ≤ 4607 := by omega
    have l5 : (44032 : Int) ≤ (r : Int) := by omega
    have l6 : (r : Int) ≤ 55203 := by omega
    have H := Lib.hid (fun W => roleSyllable_any r W hr)
    revert H
    generalize (if (r - 44032) % 28 = 0 then 1024 else 2048 : Nat) = v
    intro H
    go_enter Tryd.func77, Tryd.ntmps77
    go_wp2_with fail
    refine (H.out _).mono ?_
    rintro _ _ ⟨rfl, rfl⟩
    go_wp2_with fail
    go_ret
    exact ⟨rfl, Below.refl _ _⟩
  · rw [show roleN r size = kindRole r by unfold roleN; rw [if_neg hb, if_neg n1, if_neg n2, if_neg n3, if_neg n4, if_neg (by omega), if_neg h7, if_neg h8, if_neg h9]]
    have H := Lib.hid (fun W => kindRole_any r W)
    revert H
    generalize kindRole r = v
    intro H
    have e13 : ((r : Int) == 13) = false := by simp; omega
    have e10 : ((r : Int) == 10) = false := by simp; omega
    have e8204 : ((r : Int) == 8204) = false := by simp; omega
    have e8205 : ((r : Int) == 8205) = false := by simp; omega
    have e8232 : ((r : Int) == 8232) = false := by simp; omega
    have e8233 : ((r : Int) == 8233) = false := by simp; omega
    have c1 : (((r : Int) == 65533) = true ∧ ((size : Int) == 1) = false) ∨ ((r : Int) == 65533) = false := by simp; omega
    have c2 : ¬ (127462 : Int) ≤ (r : Int) ∨ ((127462 : Int) ≤ (r : Int) ∧ ¬ (r : Int) ≤ 127487) := by omega
    have c3 : ¬ (4352 : Int) ≤ (r : Int) ∨ ((4352 : Int) ≤ (r : Int) ∧ ¬ (r : Int) ≤ 4607) := by omega
    have c4 : ¬ (44032 : Int) ≤ (r : Int) ∨ ((44032 : Int) ≤ (r : Int) ∧ ¬ (r : Int) ≤ 55203) := by omega
    clear n1 n2 n3 n4 n5 n6 h7 h8 h9 hb
    rcases c1 with ⟨c1, c1'⟩ | c1 <;> rcases c2 with c2 | ⟨c2, c2'⟩ <;> rcases c3 with c3 | ⟨c3, c3'⟩ <;> rcases c4 with c4 | ⟨c4, c4'⟩
    all_goals try (exfalso; simp at c1; omega)
    all_goals
      go_enter Tryd.func77, Tryd.ntmps77
      go_wp2_with fail
      refine (H.out _).mono ?_
      rintro _ w1 ⟨rfl, b1⟩
      go_wp2_with fail
      go_ret
      exact ⟨rfl, b1⟩
end Go.Proofs.YthkapcnhfdpdbaaDoor
