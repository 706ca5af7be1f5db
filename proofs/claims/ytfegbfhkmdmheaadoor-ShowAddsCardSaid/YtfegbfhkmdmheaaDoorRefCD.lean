/- The document's answer, its small parts: within, second, begins, number, Next. -/
import Derived.Test.YtfegbfhkmdmheaaDoorRows
import Derived.Test.YtfegbfhkmdmheaaDoorPure
import Derived.WalkKit
import Derived.Below
import Derived.Lib.Hide
import Derived.Lib.Strings
import Derived.BigQuiet
import Derived.Deep.QuietTactic
set_option linter.unusedSimpArgs false
set_option linter.unusedVariables false
namespace Go.Proofs.YtfegbfhkmdmheaaDoor
open Go.RowKit Go.Lib

theorem gb_at (s : ByteArray) (k : Nat) (h : k < s.size) : (s[k]'h).toNat = gb s.data.toList k := by
  rw [← gets_gb]
  show _ = (s.get! k).toNat
  simp [ByteArray.get!, getElem!_pos, h]
  rfl

theorem within_any (c a b : Nat) (w : World) : Calls Tryd.prog 114 #[.int .u8 (c : Int), .int .u8 (a : Int), .int .u8 (b : Int)] w fun e w' => e = .returned (.bool (decide (a ≤ c ∧ c ≤ b))) ∧ w = w' := by
  by_cases h1 : (a : Int) ≤ c
  · by_cases h2 : (c : Int) ≤ b
    · go_enter Tryd.func114, Tryd.ntmps114
      go_wp2
      go_ret
      exact ⟨by simp; omega, rfl⟩
    · go_enter Tryd.func114, Tryd.ntmps114
      go_wp2
      go_ret
      exact ⟨by simp; omega, rfl⟩
  · go_enter Tryd.func114, Tryd.ntmps114
    go_wp2
    go_ret
    exact ⟨by simp; omega, rfl⟩

/-- the least and the greatest second byte, and how many bytes there are -/
def sec (c : Nat) : Nat × Nat × Nat :=
  if 194 ≤ c ∧ c ≤ 223 then (128, 191, 2) else if c = 224 then (160, 191, 3) else if c = 237 then (128, 159, 3) else if 225 ≤ c ∧ c ≤ 239 then (128, 191, 3)
  else if c = 240 then (144, 191, 4) else if 241 ≤ c ∧ c ≤ 243 then (128, 191, 4) else if c = 244 then (128, 143, 4) else (0, 0, 0)

set_option maxHeartbeats 1000000 in
theorem second_any (c : Nat) (hc : c < 256) (w : World) : Calls Tryd.prog 113 #[.int .u8 (c : Int)] w fun e w' => e = .returned (.tuple #[.int .u8 (sec c).1, .int .u8 (sec c).2.1, .int .i64 (sec c).2.2]) ∧ w = w' := by
  have T : ∀ a b d : Nat, sec c = (a, b, d) → Ending.returned (.tuple #[.int .u8 (a : Int), .int .u8 (b : Int), .int .i64 (d : Int)]) = .returned (.tuple #[.int .u8 (sec c).1, .int .u8 (sec c).2.1, .int .i64 (sec c).2.2]) := by
    intro a b d h; rw [h]
  go_enter Tryd.func113, Tryd.ntmps113
  go_wp2_with (go_at_call 114; refine (within_any c _ _ _).mono ?_; rintro e w' ⟨rfl, rfl⟩)
  all_goals
    go_ret3
    refine ⟨T _ _ _ ?_, rfl⟩
    clear T
    simp only [beq_iff_eq, beq_eq_false_iff_ne, ne_eq] at *
    unfold sec
    repeat' split
    all_goals first | rfl | (exfalso; omega)

/-- how many bytes go on from the k-th one -/
def runOn (l : List UInt8) (size : Nat) : Nat → Nat → Nat → Nat → Nat
  | 0, k, _, _ => k
  | f + 1, k, lo, hi => if k < size ∧ k < l.length ∧ lo ≤ gb l k ∧ gb l k ≤ hi then runOn l size f (k + 1) 128 191 else k
def beg (l : List UInt8) : Nat × Nat :=
  if l = [] then (0, 0) else if gb l 0 < 128 then (1, 1) else if (sec (gb l 0)).2.2 = 0 then (0, 0) else
    (runOn l (sec (gb l 0)).2.2 3 1 (sec (gb l 0)).1 (sec (gb l 0)).2.1, (sec (gb l 0)).2.2)
theorem sec_size (c : Nat) : (sec c).2.2 ≤ 4 ∧ (sec c).1 < 256 ∧ (sec c).2.1 < 256 := by
  unfold sec
  repeat' split
  all_goals simp
theorem list_ne (s : ByteArray) (h : 0 < s.size) : s.data.toList ≠ [] := by
  intro e
  have := size_list s
  rw [e] at this
  simp at this
  omega
theorem list_nil (s : ByteArray) (h : s.size = 0) : s.data.toList = [] := List.eq_nil_of_length_eq_zero (by rw [size_list]; exact h)

theorem empty_yes (s : ByteArray) (h : s.size = 0) : s.toList.isEmpty = true := by rw [toList_data, list_nil s h]; rfl
theorem empty_no (s : ByteArray) (h : 0 < s.size) : s.toList.isEmpty = false := by
  rw [toList_data]
  cases hl : s.data.toList with
  | nil => exact absurd hl (list_ne s h)
  | cons a b => rfl

set_option maxHeartbeats 1000000 in
theorem begins_any (s : ByteArray) (w : World) (hs : s.size ≤ maxLen) : Calls Tryd.prog 84 #[.string s] w fun e w' => e = .returned (.tuple #[.int .i64 (beg s.data.toList).1, .int .i64 (beg s.data.toList).2]) ∧ w = w' := by
  unfold maxLen at hs
  have HT : Hid (∀ a b : Nat, beg s.data.toList = (a, b) → Ending.returned (.tuple #[.int .i64 (a : Int), .int .i64 (b : Int)]) = .returned (.tuple #[.int .i64 (beg s.data.toList).1, .int .i64 (beg s.data.toList).2])) := by
    intro a b h; rw [h]
  by_cases h0 : s.size = 0
  · have hz : s.data.toList = [] := list_nil s h0
    have he := empty_yes s h0
    have Hz := Lib.hid hz
    clear hz h0
    go_enter Tryd.func84, Tryd.ntmps84
    go_wp2
    go_ret2
    exact ⟨HT.out 0 0 (by rw [Hz.out]; rfl), rfl⟩
  · have hp : 0 < s.size := by omega
    have hb0 := gb_at s 0 hp
    have hlt := gb_lt s.data.toList 0
    have hne := list_ne s hp
    have he := empty_no s hp
    obtain ⟨y, hy⟩ : ∃ y, s[0] = y := ⟨_, rfl⟩
    rw [hy] at hb0
    by_cases ha : (y.toNat : Int) < 128
    · have Hb := Lib.hid hb0
      clear hb0
      go_enter Tryd.func84, Tryd.ntmps84
      go_wp2
      go_ret2
      exact ⟨HT.out 1 1 (by have := Hb.out; unfold beg; rw [if_neg hne, if_pos (by omega)]), rfl⟩
    · have Hb := Lib.hid hb0
      have hyl : y.toNat < 256 := UInt8.toNat_lt y
      clear hb0
      by_cases hz : (sec y.toNat).2.2 = 0
      · have Hz := Lib.hid hz
        have hzb : (((sec y.toNat).2.2 : Int) == 0) = true := by rw [hz]; rfl
        clear hz
        go_enter Tryd.func84, Tryd.ntmps84
        go_wp2_with (go_at_call 113; refine (second_any _ hyl _).mono ?_; rintro e w' ⟨rfl, rfl⟩)
        go_ret2
        exact ⟨HT.out 0 0 (by have := Hb.out; unfold beg; rw [if_neg hne, if_neg (by omega), ← this, Hz.out, if_pos rfl]), rfl⟩
      · have hzb : (((sec y.toNat).2.2 : Int) == 0) = false := by rw [beq_eq_false_iff_ne]; omega
        have hbeg : beg s.data.toList = (runOn s.data.toList (sec y.toNat).2.2 3 1 (sec y.toNat).1 (sec y.toNat).2.1, (sec y.toNat).2.2) := by
          have := Hb.out
          unfold beg
          rw [if_neg hne, if_neg (by omega), ← this, if_neg hz]
        obtain ⟨sa, sb, sc⟩ := sec_size y.toNat
        obtain ⟨lo, hlo⟩ : ∃ lo, (sec y.toNat).1 = lo := ⟨_, rfl⟩
        obtain ⟨hi, hhi⟩ : ∃ hi, (sec y.toNat).2.1 = hi := ⟨_, rfl⟩
        obtain ⟨size, hsize⟩ : ∃ size, (sec y.toNat).2.2 = size := ⟨_, rfl⟩
        have hsec : ∀ w : World, Calls Tryd.prog 113 #[.int .u8 (y.toNat : Int)] w fun e w' => e = .returned (.tuple #[.int .u8 lo, .int .u8 hi, .int .i64 size]) ∧ w = w' := by
          intro w
          have := second_any y.toNat hyl w
          rw [hlo, hhi, hsize] at this
          exact this
        rw [hlo, hhi, hsize] at hbeg
        rw [hsize] at hzb hz sa
        have Hsec := Lib.hid hsec
        have Hbeg := Lib.hid hbeg
        clear hsec hbeg hlo hhi hsize
        have hsp : 1 ≤ size := by omega
        clear hz
        go_enter Tryd.func84, Tryd.ntmps84
        go_wp2_with (go_at_call 113; refine (Hsec.out _).mono ?_; rintro e w' ⟨rfl, rfl⟩)
        go_loop [4, 5, 7] (fun p q r => ∃ k a b : Nat, 1 ≤ k ∧ k ≤ size ∧ k ≤ s.size ∧ p = .int .u8 a ∧ q = .int .u8 b ∧ r = .int .i64 k ∧ Hid (runOn s.data.toList size (4 - k) k a b = runOn s.data.toList size 3 1 lo hi)) (fun _ _ r => size - (intOf r).toNat)
        case atStart => exact ⟨1, lo, hi, by omega, hsp, by omega, rfl, rfl, rfl, rfl⟩
        case round =>
          obtain ⟨k, a, b, k1, k2, k3, rfl, rfl, rfl, hrun⟩ := hrel
          have hll := size_list s
          have Hll := Lib.hid hll
          clear hll
          by_cases hks : k < size
          · by_cases hkl : k < s.size
            · have hgk := gb_at s k hkl
              obtain ⟨z, hz⟩ : ∃ z, s[k] = z := ⟨_, rfl⟩
              rw [hz] at hgk
              have Hgk := Lib.hid hgk
              clear hgk
              go_wp2_with (go_at_call 114; refine (within_any _ _ _ _).mono ?_; rintro e w' ⟨rfl, rfl⟩)
              · have hw : a ≤ z.toNat ∧ z.toNat ≤ b := by assumption
                go_round
                case rel =>
                  refine ⟨k + 1, 128, 191, by omega, by omega, by omega, rfl, rfl, by go_num, ?_⟩
                  have e := hrun.out
                  rw [show 4 - k = (4 - (k + 1)) + 1 by omega, runOn, if_pos ⟨hks, by rw [Hll.out]; exact hkl, by rw [← Hgk.out]; exact hw.1, by rw [← Hgk.out]; exact hw.2⟩] at e
                  exact e
                case measure => simp [intOf]; omega
              · have hw : ¬ a ≤ z.toNat ∨ ¬ z.toNat ≤ b := by assumption
                go_ret2
                refine ⟨HT.out k size ?_, rfl⟩
                have e := hrun.out
                rw [show 4 - k = (4 - (k + 1)) + 1 by omega, runOn, if_neg (by rw [← Hgk.out]; omega)] at e
                rw [Hbeg.out, e]
            · have hkl2 : decide ((k : Int) < s.size) = false := by simp; omega
              go_wp2
              go_ret2
              refine ⟨HT.out k size ?_, rfl⟩
              have e := hrun.out
              rw [show 4 - k = (4 - (k + 1)) + 1 by omega, runOn, if_neg (by rw [Hll.out]; omega)] at e
              rw [Hbeg.out, e]
          · go_wp2
            go_ret2
            refine ⟨HT.out k size ?_, rfl⟩
            have e := hrun.out
            rw [Hbeg.out, ← e]
            obtain ⟨f, hf⟩ : ∃ f, 4 - k = f := ⟨_, rfl⟩
            rw [hf]
            cases f with
            | zero => rfl
            | succ f => rw [runOn, if_neg (by omega)]

end Go.Proofs.YtfegbfhkmdmheaaDoor

/- The document's answer: a character's number, and the first of a text. -/
namespace Go.Proofs.YtfegbfhkmdmheaaDoor
open Go.RowKit Go.Lib

set_option maxRecDepth 100000 in
theorem and63 : ∀ X : Fin 256, bits .and .u8 ((X.val : Nat) : Int) 63 = ((X.val % 64 : Nat) : Int) := by decide
set_option maxRecDepth 100000 in
theorem and127 : ∀ X : Fin 256, bits .and .u8 ((X.val : Nat) : Int) 127 = ((X.val % 128 : Nat) : Int) := by decide
set_option maxRecDepth 100000 in
theorem and31 : ∀ X : Fin 256, bits .and .u8 ((X.val : Nat) : Int) 31 = ((X.val % 32 : Nat) : Int) := by decide
set_option maxRecDepth 100000 in
theorem and15 : ∀ X : Fin 256, bits .and .u8 ((X.val : Nat) : Int) 15 = ((X.val % 16 : Nat) : Int) := by decide
set_option maxRecDepth 100000 in
theorem and7' : ∀ X : Fin 256, bits .and .u8 ((X.val : Nat) : Int) 7 = ((X.val % 8 : Nat) : Int) := by decide

def numFrom (l : List UInt8) : Nat → Nat → Nat → Nat
  | 0, _, r => r
  | f + 1, k, r => numFrom l f (k + 1) (64 * r + gb l k % 64)
def maskOf (m : Nat) : Nat := if m = 1 then 128 else if m = 2 then 32 else if m = 3 then 16 else 8
def num (l : List UInt8) : Nat := numFrom l (l.length - 1) 1 (gb l 0 % maskOf l.length)

def NumBd (k r : Nat) : Prop := (k = 1 ∧ r < 128) ∨ (k = 2 ∧ r < 8192) ∨ (k = 3 ∧ r < 524288) ∨ (k = 4 ∧ r < 33554432)

set_option maxHeartbeats 1000000 in
theorem number_1 (s : ByteArray) (w : World) (hs : s.size = 1) : Calls Tryd.prog 85 #[.string s] w fun e w' => e = .returned (.int .i32 (num s.data.toList)) ∧ Below w.heap.size w w' := by
  obtain ⟨y, hy⟩ : ∃ y, s[0]'(by omega) = y := ⟨_, rfl⟩
  have hb0 := gb_at s 0 (by omega)
  rw [hy] at hb0
  have ha : bits .and .u8 (y.toNat : Int) 127 = ((y.toNat % 128 : Nat) : Int) := and127 ⟨y.toNat, UInt8.toNat_lt y⟩
  have hnum : num s.data.toList = numFrom s.data.toList 0 1 (y.toNat % 128) := by
    unfold num maskOf
    rw [size_list, hs, ← hb0]
    rfl
  have Hn := Lib.hid hnum
  clear hnum hb0
  go_enter Tryd.func85, Tryd.ntmps85
  go_wp2
  go_quiet (fail)
  go_wp2
  clear ha
  go_loop [4, 5] (fun p q => ∃ k r : Nat, 1 ≤ k ∧ k ≤ 1 ∧ p = .int .i32 r ∧ q = .int .i64 k ∧ Hid (NumBd k r) ∧ Hid (numFrom s.data.toList (1 - k) k r = num s.data.toList)) (fun _ q => 1 - (intOf q).toNat)
  case atStart => exact ⟨1, y.toNat % 128, by omega, by omega, rfl, rfl, .inl ⟨rfl, by omega⟩, Hn.out.symm⟩
  case round =>
    obtain ⟨k, r, k1, k2, rfl, rfl, hbd, hrun⟩ := hrel
    by_cases hk : k < 1
    · exact absurd hk (by omega)
    · obtain rfl : k = 1 := by omega
      go_wp2
      go_ret
      refine ⟨?_, ((Below.refl _ _).alloc (Nat.le_refl _) _).trans ⟨rfl, rfl, rfl, Nat.le_refl _, fun _ _ => rfl⟩⟩
      have e := hrun.out
      rw [← e]
      rfl

set_option maxHeartbeats 1000000 in
theorem number_2 (s : ByteArray) (w : World) (hs : s.size = 2) : Calls Tryd.prog 85 #[.string s] w fun e w' => e = .returned (.int .i32 (num s.data.toList)) ∧ Below w.heap.size w w' := by
  obtain ⟨y, hy⟩ : ∃ y, s[0]'(by omega) = y := ⟨_, rfl⟩
  have hb0 := gb_at s 0 (by omega)
  rw [hy] at hb0
  have ha : bits .and .u8 (y.toNat : Int) 31 = ((y.toNat % 32 : Nat) : Int) := and31 ⟨y.toNat, UInt8.toNat_lt y⟩
  have hnum : num s.data.toList = numFrom s.data.toList 1 1 (y.toNat % 32) := by
    unfold num maskOf
    rw [size_list, hs, ← hb0]
    rfl
  have Hn := Lib.hid hnum
  clear hnum hb0
  go_enter Tryd.func85, Tryd.ntmps85
  go_wp2
  go_quiet (fail)
  go_wp2
  clear ha
  go_loop [4, 5] (fun p q => ∃ k r : Nat, 1 ≤ k ∧ k ≤ 2 ∧ p = .int .i32 r ∧ q = .int .i64 k ∧ Hid (NumBd k r) ∧ Hid (numFrom s.data.toList (2 - k) k r = num s.data.toList)) (fun _ q => 2 - (intOf q).toNat)
  case atStart => exact ⟨1, y.toNat % 32, by omega, by omega, rfl, rfl, .inl ⟨rfl, by omega⟩, Hn.out.symm⟩
  case round =>
    obtain ⟨k, r, k1, k2, rfl, rfl, hbd, hrun⟩ := hrel
    by_cases hk : k < 2
    · obtain ⟨z, hz⟩ : ∃ z, s[k]'(by omega) = z := ⟨_, rfl⟩
      have hgk := gb_at s k (by omega)
      rw [hz] at hgk
      have Hgk := Lib.hid hgk
      clear hgk
      have ha : bits .and .u8 (z.toNat : Int) 63 = ((z.toNat % 64 : Nat) : Int) := and63 ⟨z.toNat, UInt8.toNat_lt z⟩
      have hr : r ≤ 524287 := by
        have := hbd.out
        unfold NumBd at this
        omega
      go_wp2
      go_round
      case rel =>
        refine ⟨k + 1, 64 * r + z.toNat % 64, by omega, by omega, by go_num, by go_num, ?_, ?_⟩
        · have := hbd.out
          unfold NumBd Hid at *
          omega
        · have e := hrun.out
          rw [show 2 - k = (2 - (k + 1)) + 1 by omega, numFrom, ← Hgk.out] at e
          exact e
      case measure => simp [intOf]; omega
    · obtain rfl : k = 2 := by omega
      go_wp2
      go_ret
      refine ⟨?_, ((Below.refl _ _).alloc (Nat.le_refl _) _).trans ⟨rfl, rfl, rfl, Nat.le_refl _, fun _ _ => rfl⟩⟩
      have e := hrun.out
      rw [← e]
      rfl

set_option maxHeartbeats 1000000 in
theorem number_3 (s : ByteArray) (w : World) (hs : s.size = 3) : Calls Tryd.prog 85 #[.string s] w fun e w' => e = .returned (.int .i32 (num s.data.toList)) ∧ Below w.heap.size w w' := by
  obtain ⟨y, hy⟩ : ∃ y, s[0]'(by omega) = y := ⟨_, rfl⟩
  have hb0 := gb_at s 0 (by omega)
  rw [hy] at hb0
  have ha : bits .and .u8 (y.toNat : Int) 15 = ((y.toNat % 16 : Nat) : Int) := and15 ⟨y.toNat, UInt8.toNat_lt y⟩
  have hnum : num s.data.toList = numFrom s.data.toList 2 1 (y.toNat % 16) := by
    unfold num maskOf
    rw [size_list, hs, ← hb0]
    rfl
  have Hn := Lib.hid hnum
  clear hnum hb0
  go_enter Tryd.func85, Tryd.ntmps85
  go_wp2
  go_quiet (fail)
  go_wp2
  clear ha
  go_loop [4, 5] (fun p q => ∃ k r : Nat, 1 ≤ k ∧ k ≤ 3 ∧ p = .int .i32 r ∧ q = .int .i64 k ∧ Hid (NumBd k r) ∧ Hid (numFrom s.data.toList (3 - k) k r = num s.data.toList)) (fun _ q => 3 - (intOf q).toNat)
  case atStart => exact ⟨1, y.toNat % 16, by omega, by omega, rfl, rfl, .inl ⟨rfl, by omega⟩, Hn.out.symm⟩
  case round =>
    obtain ⟨k, r, k1, k2, rfl, rfl, hbd, hrun⟩ := hrel
    by_cases hk : k < 3
    · obtain ⟨z, hz⟩ : ∃ z, s[k]'(by omega) = z := ⟨_, rfl⟩
      have hgk := gb_at s k (by omega)
      rw [hz] at hgk
      have Hgk := Lib.hid hgk
      clear hgk
      have ha : bits .and .u8 (z.toNat : Int) 63 = ((z.toNat % 64 : Nat) : Int) := and63 ⟨z.toNat, UInt8.toNat_lt z⟩
      have hr : r ≤ 524287 := by
        have := hbd.out
        unfold NumBd at this
        omega
      go_wp2
      go_round
      case rel =>
        refine ⟨k + 1, 64 * r + z.toNat % 64, by omega, by omega, by go_num, by go_num, ?_, ?_⟩
        · have := hbd.out
          unfold NumBd Hid at *
          omega
        · have e := hrun.out
          rw [show 3 - k = (3 - (k + 1)) + 1 by omega, numFrom, ← Hgk.out] at e
          exact e
      case measure => simp [intOf]; omega
    · obtain rfl : k = 3 := by omega
      go_wp2
      go_ret
      refine ⟨?_, ((Below.refl _ _).alloc (Nat.le_refl _) _).trans ⟨rfl, rfl, rfl, Nat.le_refl _, fun _ _ => rfl⟩⟩
      have e := hrun.out
      rw [← e]
      rfl

set_option maxHeartbeats 1000000 in
theorem number_4 (s : ByteArray) (w : World) (hs : s.size = 4) : Calls Tryd.prog 85 #[.string s] w fun e w' => e = .returned (.int .i32 (num s.data.toList)) ∧ Below w.heap.size w w' := by
  obtain ⟨y, hy⟩ : ∃ y, s[0]'(by omega) = y := ⟨_, rfl⟩
  have hb0 := gb_at s 0 (by omega)
  rw [hy] at hb0
  have ha : bits .and .u8 (y.toNat : Int) 7 = ((y.toNat % 8 : Nat) : Int) := and7' ⟨y.toNat, UInt8.toNat_lt y⟩
  have hnum : num s.data.toList = numFrom s.data.toList 3 1 (y.toNat % 8) := by
    unfold num maskOf
    rw [size_list, hs, ← hb0]
    rfl
  have Hn := Lib.hid hnum
  clear hnum hb0
  go_enter Tryd.func85, Tryd.ntmps85
  go_wp2
  go_quiet (fail)
  go_wp2
  clear ha
  go_loop [4, 5] (fun p q => ∃ k r : Nat, 1 ≤ k ∧ k ≤ 4 ∧ p = .int .i32 r ∧ q = .int .i64 k ∧ Hid (NumBd k r) ∧ Hid (numFrom s.data.toList (4 - k) k r = num s.data.toList)) (fun _ q => 4 - (intOf q).toNat)
  case atStart => exact ⟨1, y.toNat % 8, by omega, by omega, rfl, rfl, .inl ⟨rfl, by omega⟩, Hn.out.symm⟩
  case round =>
    obtain ⟨k, r, k1, k2, rfl, rfl, hbd, hrun⟩ := hrel
    by_cases hk : k < 4
    · obtain ⟨z, hz⟩ : ∃ z, s[k]'(by omega) = z := ⟨_, rfl⟩
      have hgk := gb_at s k (by omega)
      rw [hz] at hgk
      have Hgk := Lib.hid hgk
      clear hgk
      have ha : bits .and .u8 (z.toNat : Int) 63 = ((z.toNat % 64 : Nat) : Int) := and63 ⟨z.toNat, UInt8.toNat_lt z⟩
      have hr : r ≤ 524287 := by
        have := hbd.out
        unfold NumBd at this
        omega
      go_wp2
      go_round
      case rel =>
        refine ⟨k + 1, 64 * r + z.toNat % 64, by omega, by omega, by go_num, by go_num, ?_, ?_⟩
        · have := hbd.out
          unfold NumBd Hid at *
          omega
        · have e := hrun.out
          rw [show 4 - k = (4 - (k + 1)) + 1 by omega, numFrom, ← Hgk.out] at e
          exact e
      case measure => simp [intOf]; omega
    · obtain rfl : k = 4 := by omega
      go_wp2
      go_ret
      refine ⟨?_, ((Below.refl _ _).alloc (Nat.le_refl _) _).trans ⟨rfl, rfl, rfl, Nat.le_refl _, fun _ _ => rfl⟩⟩
      have e := hrun.out
      rw [← e]
      rfl

theorem number_any (s : ByteArray) (w : World) (h1 : 1 ≤ s.size) (h4 : s.size ≤ 4) : Calls Tryd.prog 85 #[.string s] w fun e w' => e = .returned (.int .i32 (num s.data.toList)) ∧ Below w.heap.size w w' := by
  have : s.size = 1 ∨ s.size = 2 ∨ s.size = 3 ∨ s.size = 4 := by omega
  rcases this with h | h | h | h
  · exact number_1 s w h
  · exact number_2 s w h
  · exact number_3 s w h
  · exact number_4 s w h

end Go.Proofs.YtfegbfhkmdmheaaDoor

/- The document's answer is the model's own decoding: plain Lean. -/
set_option linter.unusedVariables false
set_option linter.unusedSimpArgs false
namespace Go.Proofs.YtfegbfhkmdmheaaDoor
open Go.RowKit Go.Lib

def nxt (l : List UInt8) : Nat × Nat := if l = [] then (65533, 0) else dec l

theorem runOn3 (l : List UInt8) (size lo hi : Nat) : runOn l size 3 1 lo hi =
    if 1 < size ∧ 1 < l.length ∧ lo ≤ gb l 1 ∧ gb l 1 ≤ hi then (if 2 < size ∧ 2 < l.length ∧ 128 ≤ gb l 2 ∧ gb l 2 ≤ 191 then (if 3 < size ∧ 3 < l.length ∧ 128 ≤ gb l 3 ∧ gb l 3 ≤ 191 then 4 else 3) else 2) else 1 := by
  simp only [runOn]

theorem num1 (l : List UInt8) (h : 1 ≤ l.length) : num (l.take 1) = gb l 0 % 128 := by
  unfold num
  rw [List.length_take, Nat.min_eq_left h]
  simp [numFrom, maskOf, gb_take]
theorem num2 (l : List UInt8) (h : 2 ≤ l.length) : num (l.take 2) = 64 * (gb l 0 % 32) + gb l 1 % 64 := by
  unfold num
  rw [List.length_take, Nat.min_eq_left h]
  simp [numFrom, maskOf, gb_take]
theorem num3 (l : List UInt8) (h : 3 ≤ l.length) : num (l.take 3) = 64 * (64 * (gb l 0 % 16) + gb l 1 % 64) + gb l 2 % 64 := by
  unfold num
  rw [List.length_take, Nat.min_eq_left h]
  simp [numFrom, maskOf, gb_take]
theorem num4 (l : List UInt8) (h : 4 ≤ l.length) : num (l.take 4) = 64 * (64 * (64 * (gb l 0 % 8) + gb l 1 % 64) + gb l 2 % 64) + gb l 3 % 64 := by
  unfold num
  rw [List.length_take, Nat.min_eq_left h]
  simp [numFrom, maskOf, gb_take]

def BegFits (l : List UInt8) (n size : Nat) : Prop :=
  ((n = 0 ∨ n < size) → dec l = (65533, 1)) ∧ (¬ (n = 0 ∨ n < size) → dec l = (num (l.take size), size) ∧ 1 ≤ size ∧ size ≤ l.length ∧ size ≤ 4)

set_option maxHeartbeats 4000000 in
theorem fits2 (l : List UInt8) (h : 1 ≤ l.length) (h0 : 194 ≤ gb l 0 ∧ gb l 0 < 224) : BegFits l (runOn l 2 3 1 128 191) 2 := by
  have h1 := gb_lt l 1
  have h2 := gb_lt l 2
  have h3 := gb_lt l 3
  have hd : dec l = slowN l.length (gb l 0) (gb l 1) (gb l 2) (gb l 3) 2 128 191 := (slow_C2 _ _ _ _ _ h h1 h2 h3 h0).symm
  rw [runOn3]
  unfold BegFits
  rw [hd]
  unfold slowN
  refine ⟨fun a => ?_, fun a => ?_⟩
  · repeat' split
    all_goals first | rfl | (exfalso; revert a; (repeat' split) <;> omega)
  · have hc : 1 < l.length ∧ 128 ≤ gb l 1 ∧ gb l 1 ≤ 191 := by
      revert a
      repeat' split
      all_goals omega
    rw [if_neg (by omega), if_neg (by omega), if_pos (by omega), num2 l (by omega)]
    exact ⟨by apply Prod.ext <;> simp only; omega, by omega, by omega, by omega⟩
set_option maxHeartbeats 4000000 in
theorem fits3 (l : List UInt8) (lo hi : Nat) (h : 1 ≤ l.length) (hd : dec l = slowN l.length (gb l 0) (gb l 1) (gb l 2) (gb l 3) 3 lo hi) : BegFits l (runOn l 3 3 1 lo hi) 3 := by
  rw [runOn3]
  unfold BegFits
  rw [hd]
  unfold slowN
  refine ⟨fun a => ?_, fun a => ?_⟩
  · repeat' split
    all_goals first | rfl | (exfalso; revert a; (repeat' split) <;> omega)
  · have hc : 2 < l.length ∧ lo ≤ gb l 1 ∧ gb l 1 ≤ hi ∧ 128 ≤ gb l 2 ∧ gb l 2 ≤ 191 := by
      revert a
      repeat' split
      all_goals omega
    rw [if_neg (by omega), if_neg (by omega), if_neg (by omega), if_neg (by omega), if_pos (by omega), num3 l (by omega)]
    exact ⟨by apply Prod.ext <;> simp only; omega, by omega, by omega, by omega⟩
set_option maxHeartbeats 4000000 in
theorem fits4 (l : List UInt8) (lo hi : Nat) (h : 1 ≤ l.length) (hd : dec l = slowN l.length (gb l 0) (gb l 1) (gb l 2) (gb l 3) 4 lo hi) : BegFits l (runOn l 4 3 1 lo hi) 4 := by
  rw [runOn3]
  unfold BegFits
  rw [hd]
  unfold slowN
  refine ⟨fun a => ?_, fun a => ?_⟩
  · repeat' split
    all_goals first | rfl | (exfalso; revert a; (repeat' split) <;> omega)
  · have hc : 3 < l.length ∧ lo ≤ gb l 1 ∧ gb l 1 ≤ hi ∧ 128 ≤ gb l 2 ∧ gb l 2 ≤ 191 ∧ 128 ≤ gb l 3 ∧ gb l 3 ≤ 191 := by
      revert a
      repeat' split
      all_goals omega
    rw [if_neg (by omega), if_neg (by omega), if_neg (by omega), if_neg (by omega), if_neg (by omega), if_neg (by omega), num4 l (by omega)]
    exact ⟨by apply Prod.ext <;> simp only; omega, by omega, by omega, by omega⟩

theorem sec_of (c : Nat) : (194 ≤ c ∧ c < 224 ∧ sec c = (128, 191, 2)) ∨ (c = 224 ∧ sec c = (160, 191, 3)) ∨ (c = 237 ∧ sec c = (128, 159, 3)) ∨
    (((225 ≤ c ∧ c < 237) ∨ (238 ≤ c ∧ c < 240)) ∧ sec c = (128, 191, 3)) ∨ (c = 240 ∧ sec c = (144, 191, 4)) ∨ (241 ≤ c ∧ c < 244 ∧ sec c = (128, 191, 4)) ∨ (c = 244 ∧ sec c = (128, 143, 4)) ∨
    ((c < 194 ∨ 244 < c) ∧ sec c = (0, 0, 0)) := by
  unfold sec
  repeat' split
  all_goals (simp; omega)

theorem beg_fits (l : List UInt8) (h : l ≠ []) : BegFits l (beg l).1 (beg l).2 := by
  have hl := List.length_pos_iff.2 h
  have h0 := gb_lt l 0
  have h1 := gb_lt l 1
  have h2 := gb_lt l 2
  have h3 := gb_lt l 3
  unfold beg
  rw [if_neg h]
  by_cases ha : gb l 0 < 128
  · rw [if_pos ha]
    refine ⟨fun a => by simp at a, fun _ => ⟨?_, by simp, hl, by simp⟩⟩
    simp only
    rw [num1 l hl]
    unfold dec decodeN
    rw [if_pos ha]
    apply Prod.ext <;> simp only
    omega
  · rw [if_neg ha]
    rcases sec_of (gb l 0) with ⟨a, b, c⟩ | ⟨a, c⟩ | ⟨a, c⟩ | ⟨a, c⟩ | ⟨a, c⟩ | ⟨a, b, c⟩ | ⟨a, c⟩ | ⟨a, c⟩
    · rw [c, if_neg (by simp)]; exact fits2 l hl ⟨a, b⟩
    · rw [c, if_neg (by simp)]; exact fits3 l _ _ hl (slow_E0 _ _ _ _ _ hl h1 h2 h3 a).symm
    · rw [c, if_neg (by simp)]; exact fits3 l _ _ hl (slow_ED _ _ _ _ _ hl h1 h2 h3 a).symm
    · rw [c, if_neg (by simp)]; exact fits3 l _ _ hl (slow_E1 _ _ _ _ _ hl h1 h2 h3 a).symm
    · rw [c, if_neg (by simp)]; exact fits4 l _ _ hl (slow_F0 _ _ _ _ _ hl h1 h2 h3 a).symm
    · rw [c, if_neg (by simp)]; exact fits4 l _ _ hl (slow_F1 _ _ _ _ _ hl h1 h2 h3 ⟨a, b⟩).symm
    · rw [c, if_neg (by simp)]; exact fits4 l _ _ hl (slow_F4 _ _ _ _ _ hl h1 h2 h3 a).symm
    · rw [c, if_pos (by simp)]
      refine ⟨fun _ => ?_, fun a => absurd (.inl rfl) a⟩
      unfold dec decodeN
      repeat' split
      all_goals first | rfl | (exfalso; omega)

end Go.Proofs.YtfegbfhkmdmheaaDoor

/- The document's answer: the first of a text, walked. -/
namespace Go.Proofs.YtfegbfhkmdmheaaDoor
open Go.RowKit Go.Lib

theorem take_list (s : ByteArray) (k : Nat) : (s.extract 0 k).data.toList = s.data.toList.take k := by simp
theorem drop_list (s : ByteArray) (k : Nat) : (s.extract k s.size).data.toList = s.data.toList.drop k := by
  simp only [ByteArray.data_extract, Array.toList_extract]
  exact List.take_of_length_le (by simp)

set_option maxHeartbeats 1000000 in
theorem refNext_any (s : ByteArray) (w : World) (hs : s.size ≤ maxLen) : Calls Tryd.prog 53 #[.string s] w fun e w' => e = .returned (.tuple #[.int .i32 (nxt s.data.toList).1, .int .i64 (nxt s.data.toList).2]) ∧ Below w.heap.size w w' := by
  have HT : Hid (∀ a b : Nat, nxt s.data.toList = (a, b) → Ending.returned (.tuple #[.int .i32 (a : Int), .int .i64 (b : Int)]) = .returned (.tuple #[.int .i32 (nxt s.data.toList).1, .int .i64 (nxt s.data.toList).2])) := by
    intro a b h; rw [h]
  have hbg := begins_any s
  by_cases h0 : s.size = 0
  · have hz : nxt s.data.toList = (65533, 0) := by unfold nxt; rw [if_pos (list_nil s h0)]
    have he := empty_yes s h0
    have Hz := Lib.hid hz
    have Hbg := Lib.hid hbg
    clear hz h0 hbg
    go_enter Tryd.func53, Tryd.ntmps53
    go_wp2_with (go_at_call 84; refine (Hbg.out _ hs).mono ?_; rintro e w' ⟨rfl, rfl⟩)
    go_ret2
    exact ⟨HT.out 65533 0 Hz.out, Below.refl _ _⟩
  · have hp : 0 < s.size := by omega
    have hne := list_ne s hp
    have he := empty_no s hp
    have hfit := beg_fits s.data.toList hne
    obtain ⟨n, hn⟩ : ∃ n, (beg s.data.toList).1 = n := ⟨_, rfl⟩
    obtain ⟨size, hsize⟩ : ∃ size, (beg s.data.toList).2 = size := ⟨_, rfl⟩
    rw [hn, hsize] at hfit
    have hn' : nxt s.data.toList = dec s.data.toList := by unfold nxt; rw [if_neg hne]
    have Hbg : Hid (∀ w : World, Calls Tryd.prog 84 #[.string s] w fun e w' => e = .returned (.tuple #[.int .i64 n, .int .i64 size]) ∧ w = w') := by
      intro w
      have := hbg w hs
      rw [hn, hsize] at this
      exact this
    clear hbg hn hsize h0
    have Hn := Lib.hid hn'
    clear hn'
    by_cases hc : n = 0 ∨ n < size
    · have Hd := Lib.hid (hfit.1 hc)
      clear hfit hne
      by_cases hc0 : n = 0
      · have hcb : ((n : Int) == 0) = true := by subst hc0; rfl
        clear hc hc0
        go_enter Tryd.func53, Tryd.ntmps53
        go_wp2_with (go_at_call 84; refine (Hbg.out _).mono ?_; rintro e w' ⟨rfl, rfl⟩)
        go_ret2
        exact ⟨HT.out 65533 1 (by rw [Hn.out, Hd.out]), Below.refl _ _⟩
      · have hcb : ((n : Int) == 0) = false := by rw [beq_eq_false_iff_ne]; omega
        have hlt : n < size := by omega
        clear hc hc0
        go_enter Tryd.func53, Tryd.ntmps53
        go_wp2_with (go_at_call 84; refine (Hbg.out _).mono ?_; rintro e w' ⟨rfl, rfl⟩)
        go_ret2
        exact ⟨HT.out 65533 1 (by rw [Hn.out, Hd.out]), Below.refl _ _⟩
    · obtain ⟨hd, z1, z2, z4⟩ := hfit.2 hc
      have Hd := Lib.hid hd
      rw [size_list] at z2
      have hcb : ((n : Int) == 0) = false := by rw [beq_eq_false_iff_ne]; omega
      have hge : ¬ n < size := by omega
      clear hfit hne hc hd
      go_enter Tryd.func53, Tryd.ntmps53
      go_wp2_with (first
        | (go_at_call 84; refine (Hbg.out _).mono ?_; rintro e w' ⟨rfl, rfl⟩)
        | (go_at_call 85; refine (number_any (s.extract 0 size) _ (by simp; omega) (by simp; omega)).mono ?_; rintro e w' ⟨rfl, hb⟩))
      go_ret2
      exact ⟨HT.out _ size (by rw [Hn.out, Hd.out]), hb⟩

end Go.Proofs.YtfegbfhkmdmheaaDoor
