/- The document's answer: a character's number, and the first of a text. -/
import Derived.Test.YthkapcnhfdpdbaaDoorRefA
import Derived.BigQuiet
import Derived.Deep.QuietTactic
set_option linter.unusedSimpArgs false
set_option linter.unusedVariables false
namespace Go.Proofs.YthkapcnhfdpdbaaDoor
open Go.RowKit Go.Lib

set_option maxRecDepth 100000 in
theorem and63 : ∀ X : Fin 256, bits .and .u8 ((X.val : Nat) : Int) 63 = ((X.val % 64 : Nat) : Int) := by decide
set_option maxRecDepth 100000 in
theorem and127 : ∀ X : Fin 256, bits .and .u8 ((X.val : Nat) : Int) 127 = ((X.val % 128 : Nat) : Int) := by decide
set_option maxRecDepth 100000 in
theorem and31 : ∀ X : Fin 256, bits .and .u8 ((X.val : Nat) : Int) 31 = ((X.val % 32 : Nat) : Int) := by decide
set_option maxRecDepth 100000 in
theorem and15 : ∀ X : Fin 256, bits .and .u8 ((X.val : Nat) : Int) 15 = ((X.val % 16 : Nat) : Int) := by decide
set_option maxRecDepth 100000 in
theorem and7' : ∀ X : Fin 256, bits .and .u8 ((X.val : Nat) : Int) 7 = ((X.val % 8 : Nat) : Int) := by decide

def numFrom (l : List UInt8) : Nat → Nat → Nat → Nat
  | 0, _, r => r
  | f + 1, k, r => numFrom l f (k + 1) (64 * r + gb l k % 64)
def maskOf (m : Nat) : Nat := if m = 1 then 128 else if m = 2 then 32 else if m = 3 then 16 else 8
def num (l : List UInt8) : Nat := numFrom l (l.length - 1) 1 (gb l 0 % maskOf l.length)

def NumBd (k r : Nat) : Prop := (k = 1 ∧ r < 128) ∨ (k = 2 ∧ r < 8192) ∨ (k = 3 ∧ r < 524288) ∨ (k = 4 ∧ r < 33554432)

set_option maxHeartbeats 1000000 in
theorem number_1 (s : ByteArray) (w : World) (hs : s.size = 1) : Calls Tryd.prog 44 #[.string s] w fun e w' => e = .returned (.int .i32 (num s.data.toList)) ∧ Below w.heap.size w w' := by
  obtain ⟨y, hy⟩ : ∃ y, s[0]'(by omega) = y := ⟨_, rfl⟩
  have hb0 := gb_at s 0 (by omega)
  rw [hy] at hb0
  have ha : bits .and .u8 (y.toNat : Int) 127 = ((y.toNat % 128 : Nat) : Int) := and127 ⟨y.toNat, UInt8.toNat_lt y⟩
  have hnum : num s.data.toList = numFrom s.data.toList 0 1 (y.toNat % 128) := by
    unfold num maskOf
    rw [size_list, hs, ← hb0]
    rfl
  have Hn := Lib.hid hnum
  clear hnum hb0
  go_enter Tryd.func44, Tryd.ntmps44
  go_wp2
  go_quiet (fail)
  go_wp2
  clear ha
  go_loop [4, 5] (fun p q => ∃ k r : Nat, 1 ≤ k ∧ k ≤ 1 ∧ p = .int .i32 r ∧ q = .int .i64 k ∧ Hid (NumBd k r) ∧ Hid (numFrom s.data.toList (1 - k) k r = num s.data.toList)) (fun _ q => 1 - (intOf q).toNat)
  case atStart => exact ⟨1, y.toNat % 128, by omega, by omega, rfl, rfl, .inl ⟨rfl, by omega⟩, Hn.out.symm⟩
  case round =>
    obtain ⟨k, r, k1, k2, rfl, rfl, hbd, hrun⟩ := hrel
    by_cases hk : k < 1
    · exact absurd hk (by omega)
    · obtain rfl : k = 1 := by omega
      go_wp2
      go_ret
      refine ⟨?_, ((Below.refl _ _).alloc (Nat.le_refl _) _).trans ⟨rfl, rfl, rfl, Nat.le_refl _, fun _ _ => rfl⟩⟩
      have e := hrun.out
      rw [← e]
      rfl

set_option maxHeartbeats 1000000 in
theorem number_2 (s : ByteArray) (w : World) (hs : s.size = 2) : Calls Tryd.prog 44 #[.string s] w fun e w' => e = .returned (.int .i32 (num s.data.toList)) ∧ Below w.heap.size w w' := by
  obtain ⟨y, hy⟩ : ∃ y, s[0]'(by omega) = y := ⟨_, rfl⟩
  have hb0 := gb_at s 0 (by omega)
  rw [hy] at hb0
  have ha : bits .and .u8 (y.toNat : Int) 31 = ((y.toNat % 32 : Nat) : Int) := and31 ⟨y.toNat, UInt8.toNat_lt y⟩
  have hnum : num s.data.toList = numFrom s.data.toList 1 1 (y.toNat % 32) := by
    unfold num maskOf
    rw [size_list, hs, ← hb0]
    rfl
  have Hn := Lib.hid hnum
  clear hnum hb0
  go_enter Tryd.func44, Tryd.ntmps44
  go_wp2
  go_quiet (fail)
  go_wp2
  clear ha
  go_loop [4, 5] (fun p q => ∃ k r : Nat, 1 ≤ k ∧ k ≤ 2 ∧ p = .int .i32 r ∧ q = .int .i64 k ∧ Hid (NumBd k r) ∧ Hid (numFrom s.data.toList (2 - k) k r = num s.data.toList)) (fun _ q => 2 - (intOf q).toNat)
  case atStart => exact ⟨1, y.toNat % 32, by omega, by omega, rfl, rfl, .inl ⟨rfl, by omega⟩, Hn.out.symm⟩
  case round =>
    obtain ⟨k, r, k1, k2, rfl, rfl, hbd, hrun⟩ := hrel
    by_cases hk : k < 2
    · obtain ⟨z, hz⟩ : ∃ z, s[k]'(by omega) = z := ⟨_, rfl⟩
      have hgk := gb_at s k (by omega)
      rw [hz] at hgk
      have Hgk := Lib.hid hgk
      clear hgk
      have ha : bits .and .u8 (z.toNat : Int) 63 = ((z.toNat % 64 : Nat) : Int) := and63 ⟨z.toNat, UInt8.toNat_lt z⟩
      have hr : r ≤ 524287 := by
        have := hbd.out
        unfold NumBd at this
        omega
      go_wp2
      go_round
      case rel =>
        refine ⟨k + 1, 64 * r + z.toNat % 64, by omega, by omega, by go_num, by go_num, ?_, ?_⟩
        · have := hbd.out
          unfold NumBd Hid at *
          omega
        · have e := hrun.out
          rw [show 2 - k = (2 - (k + 1)) + 1 by omega, numFrom, ← Hgk.out] at e
          exact e
      case measure => simp [intOf]; omega
    · obtain rfl : k = 2 := by omega
      go_wp2
      go_ret
      refine ⟨?_, ((Below.refl _ _).alloc (Nat.le_refl _) _).trans ⟨rfl, rfl, rfl, Nat.le_refl _, fun _ _ => rfl⟩⟩
      have e := hrun.out
      rw [← e]
      rfl

set_option maxHeartbeats 1000000 in
theorem number_3 (s : ByteArray) (w : World) (hs : s.size = 3) : Calls Tryd.prog 44 #[.string s] w fun e w' => e = .returned (.int .i32 (num s.data.toList)) ∧ Below w.heap.size w w' := by
  obtain ⟨y, hy⟩ : ∃ y, s[0]'(by omega) = y := ⟨_, rfl⟩
  have hb0 := gb_at s 0 (by omega)
  rw [hy] at hb0
  have ha : bits .and .u8 (y.toNat : Int) 15 = ((y.toNat % 16 : Nat) : Int) := and15 ⟨y.toNat, UInt8.toNat_lt y⟩
  have hnum : num s.data.toList = numFrom s.data.toList 2 1 (y.toNat % 16) := by
    unfold num maskOf
    rw [size_list, hs, ← hb0]
    rfl
  have Hn := Lib.hid hnum
  clear hnum hb0
  go_enter Tryd.func44, Tryd.ntmps44
  go_wp2
  go_quiet (fail)
  go_wp2
  clear ha
  go_loop [4, 5] (fun p q => ∃ k r : Nat, 1 ≤ k ∧ k ≤ 3 ∧ p = .int .i32 r ∧ q = .int .i64 k ∧ Hid (NumBd k r) ∧ Hid (numFrom s.data.toList (3 - k) k r = num s.data.toList)) (fun _ q => 3 - (intOf q).toNat)
  case atStart => exact ⟨1, y.toNat % 16, by omega, by omega, rfl, rfl, .inl ⟨rfl, by omega⟩, Hn.out.symm⟩
  case round =>
    obtain ⟨k, r, k1, k2, rfl, rfl, hbd, hrun⟩ := hrel
    by_cases hk : k < 3
    · obtain ⟨z, hz⟩ : ∃ z, s[k]'(by omega) = z := ⟨_, rfl⟩
      have hgk := gb_at s k (by omega)
      rw [hz] at hgk
      have Hgk := Lib.hid hgk
      clear hgk
      have ha : bits .and .u8 (z.toNat : Int) 63 = ((z.toNat % 64 : Nat) : Int) := and63 ⟨z.toNat, UInt8.toNat_lt z⟩
      have hr : r ≤ 524287 := by
        have := hbd.out
        unfold NumBd at this
        omega
      go_wp2
      go_round
      case rel =>
        refine ⟨k + 1, 64 * r + z.toNat % 64, by omega, by omega, by go_num, by go_num, ?_, ?_⟩
        · have := hbd.out
          unfold NumBd Hid at *
          omega
        · have e := hrun.out
          rw [show 3 - k = (3 - (k + 1)) + 1 by omega, numFrom, ← Hgk.out] at e
          exact e
      case measure => simp [intOf]; omega
    · obtain rfl : k = 3 := by omega
      go_wp2
      go_ret
      refine ⟨?_, ((Below.refl _ _).alloc (Nat.le_refl _) _).trans ⟨rfl, rfl, rfl, Nat.le_refl _, fun _ _ => rfl⟩⟩
      have e := hrun.out
      rw [← e]
      rfl

set_option maxHeartbeats 1000000 in
theorem number_4 (s : ByteArray) (w : World) (hs : s.size = 4) : Calls Tryd.prog 44 #[.string s] w fun e w' => e = .returned (.int .i32 (num s.data.toList)) ∧ Below w.heap.size w w' := by
  obtain ⟨y, hy⟩ : ∃ y, s[0]'(by omega) = y := ⟨_, rfl⟩
  have hb0 := gb_at s 0 (by omega)
  rw [hy] at hb0
  have ha : bits .and .u8 (y.toNat : Int) 7 = ((y.toNat % 8 : Nat) : Int) := and7' ⟨y.toNat, UInt8.toNat_lt y⟩
  have hnum : num s.data.toList = numFrom s.data.toList 3 1 (y.toNat % 8) := by
    unfold num maskOf
    rw [size_list, hs, ← hb0]
    rfl
  have Hn := Lib.hid hnum
  clear hnum hb0
  go_enter Tryd.func44, Tryd.ntmps44
  go_wp2
  go_quiet (fail)
  go_wp2
  clear ha
  go_loop [4, 5] (fun p q => ∃ k r : Nat, 1 ≤ k ∧ k ≤ 4 ∧ p = .int .i32 r ∧ q = .int .i64 k ∧ Hid (NumBd k r) ∧ Hid (numFrom s.data.toList (4 - k) k r = num s.data.toList)) (fun _ q => 4 - (intOf q).toNat)
  case atStart => exact ⟨1, y.toNat % 8, by omega, by omega, rfl, rfl, .inl ⟨rfl, by omega⟩, Hn.out.symm⟩
  case round =>
    obtain ⟨k, r, k1, k2, rfl, rfl, hbd, hrun⟩ := hrel
    by_cases hk : k < 4
    · obtain ⟨z, hz⟩ : ∃ z, s[k]'(by omega) = z := ⟨_, rfl⟩
      have hgk := gb_at s k (by omega)
      rw [hz] at hgk
      have Hgk := Lib.hid hgk
      clear hgk
      have ha : bits .and .u8 (z.toNat : Int) 63 = ((z.toNat % 64 : Nat) : Int) := and63 ⟨z.toNat, UInt8.toNat_lt z⟩
      have hr : r ≤ 524287 := by
        have := hbd.out
        unfold NumBd at this
        omega
      go_wp2
      go_round
      case rel =>
        refine ⟨k + 1, 64 * r + z.toNat % 64, by omega, by omega, by go_num, by go_num, ?_, ?_⟩
        · have := hbd.out
          unfold NumBd Hid at *
          omega
        · have e := hrun.out
          rw [show 4 - k = (4 - (k + 1)) + 1 by omega, numFrom, ← Hgk.out] at e
          exact e
      case measure => simp [intOf]; omega
    · obtain rfl : k = 4 := by omega
      go_wp2
      go_ret
      refine ⟨?_, ((Below.refl _ _).alloc (Nat.le_refl _) _).trans ⟨rfl, rfl, rfl, Nat.le_refl _, fun _ _ => rfl⟩⟩
      have e := hrun.out
      rw [← e]
      rfl

theorem number_any (s : ByteArray) (w : World) (h1 : 1 ≤ s.size) (h4 : s.size ≤ 4) : Calls Tryd.prog 44 #[.string s] w fun e w' => e = .returned (.int .i32 (num s.data.toList)) ∧ Below w.heap.size w w' := by
  have : s.size = 1 ∨ s.size = 2 ∨ s.size = 3 ∨ s.size = 4 := by omega
  rcases this with h | h | h | h
  · exact number_1 s w h
  · exact number_2 s w h
  · exact number_3 s w h
  · exact number_4 s w h

end Go.Proofs.YthkapcnhfdpdbaaDoor
