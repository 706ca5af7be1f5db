/- The document's answer, its small parts: within, second, begins, number, Next. -/
import Derived.Test.YthkapcnhfdpdbaaDoorRows
import Derived.Test.YthkapcnhfdpdbaaDoorPure
import Derived.WalkKit
import Derived.Below
import Derived.Lib.Hide
import Derived.Lib.Strings
set_option linter.unusedSimpArgs false
set_option linter.unusedVariables false
namespace Go.Proofs.YthkapcnhfdpdbaaDoor
open Go.RowKit Go.Lib

theorem gb_at (s : ByteArray) (k : Nat) (h : k < s.size) : (s[k]'h).toNat = gb s.data.toList k := by
  rw [← gets_gb]
  show _ = (s.get! k).toNat
  simp [ByteArray.get!, getElem!_pos, h]
  rfl

theorem within_any (c a b : Nat) (w : World) : Calls Tryd.prog 76 #[.int .u8 (c : Int), .int .u8 (a : Int), .int .u8 (b : Int)] w fun e w' => e = .returned (.bool (decide (a ≤ c ∧ c ≤ b))) ∧ w = w' := by
  by_cases h1 : (a : Int) ≤ c
  · by_cases h2 : (c : Int) ≤ b
    · go_enter Tryd.func76, Tryd.ntmps76
      go_wp2
      go_ret
      exact ⟨by simp; omega, rfl⟩
    · go_enter Tryd.func76, Tryd.ntmps76
      go_wp2
      go_ret
      exact ⟨by simp; omega, rfl⟩
  · go_enter Tryd.func76, Tryd.ntmps76
    go_wp2
    go_ret
    exact ⟨by simp; omega, rfl⟩

/-- the least and the greatest second byte, and how many bytes there are -/
def sec (c : Nat) : Nat × Nat × Nat :=
  if 194 ≤ c ∧ c ≤ 223 then (128, 191, 2) else if c = 224 then (160, 191, 3) else if c = 237 then (128, 159, 3) else if 225 ≤ c ∧ c ≤ 239 then (128, 191, 3)
  else if c = 240 then (144, 191, 4) else if 241 ≤ c ∧ c ≤ 243 then (128, 191, 4) else if c = 244 then (128, 143, 4) else (0, 0, 0)

set_option maxHeartbeats 1000000 in
theorem second_any (c : Nat) (hc : c < 256) (w : World) : Calls Tryd.prog 75 #[.int .u8 (c : Int)] w fun e w' => e = .returned (.tuple #[.int .u8 (sec c).1, .int .u8 (sec c).2.1, .int .i64 (sec c).2.2]) ∧ w = w' := by
  have T : ∀ a b d : Nat, sec c = (a, b, d) → Ending.returned (.tuple #[.int .u8 (a : Int), .int .u8 (b : Int), .int .i64 (d : Int)]) = .returned (.tuple #[.int .u8 (sec c).1, .int .u8 (sec c).2.1, .int .i64 (sec c).2.2]) := by
    intro a b d h; rw [h]
  go_enter Tryd.func75, Tryd.ntmps75
  go_wp2_with (go_at_call 76; refine (within_any c _ _ _).mono ?_; rintro e w' ⟨rfl, rfl⟩)
  all_goals
    go_ret3
    refine ⟨T _ _ _ ?_, rfl⟩
    clear T
    simp only [beq_iff_eq, beq_eq_false_iff_ne, ne_eq] at *
    unfold sec
    repeat' split
    all_goals first | rfl | (exfalso; omega)

/-- how many bytes go on from the k-th one -/
def runOn (l : List UInt8) (size : Nat) : Nat → Nat → Nat → Nat → Nat
  | 0, k, _, _ => k
  | f + 1, k, lo, hi => if k < size ∧ k < l.length ∧ lo ≤ gb l k ∧ gb l k ≤ hi then runOn l size f (k + 1) 128 191 else k
def beg (l : List UInt8) : Nat × Nat :=
  if l = [] then (0, 0) else if gb l 0 < 128 then (1, 1) else if (sec (gb l 0)).2.2 = 0 then (0, 0) else
    (runOn l (sec (gb l 0)).2.2 3 1 (sec (gb l 0)).1 (sec (gb l 0)).2.1, (sec (gb l 0)).2.2)
theorem sec_size (c : Nat) : (sec c).2.2 ≤ 4 ∧ (sec c).1 < 256 ∧ (sec c).2.1 < 256 := by
  unfold sec
  repeat' split
  all_goals simp
theorem list_ne (s : ByteArray) (h : 0 < s.size) : s.data.toList ≠ [] := by
  intro e
  have := size_list s
  rw [e] at this
  simp at this
  omega
theorem list_nil (s : ByteArray) (h : s.size = 0) : s.data.toList = [] := List.eq_nil_of_length_eq_zero (by rw [size_list]; exact h)

theorem empty_yes (s : ByteArray) (h : s.size = 0) : s.toList.isEmpty = true := by rw [toList_data, list_nil s h]; rfl
theorem empty_no (s : ByteArray) (h : 0 < s.size) : s.toList.isEmpty = false := by
  rw [toList_data]
  cases hl : s.data.toList with
  | nil => exact absurd hl (list_ne s h)
  | cons a b => rfl

set_option maxHeartbeats 1000000 in
theorem begins_any (s : ByteArray) (w : World) (hs : s.size ≤ maxLen) : Calls Tryd.prog 43 #[.string s] w fun e w' => e = .returned (.tuple #[.int .i64 (beg s.data.toList).1, .int .i64 (beg s.data.toList).2]) ∧ w = w' := by
  unfold maxLen at hs
  have HT : Hid (∀ a b : Nat, beg s.data.toList = (a, b) → Ending.returned (.tuple #[.int .i64 (a : Int), .int .i64 (b : Int)]) = .returned (.tuple #[.int .i64 (beg s.data.toList).1, .int .i64 (beg s.data.toList).2])) := by
    intro a b h; rw [h]
  by_cases h0 : s.size = 0
  · have hz : s.data.toList = [] := list_nil s h0
    have he := empty_yes s h0
    have Hz := Lib.hid hz
    clear hz h0
    go_enter Tryd.func43, Tryd.ntmps43
    go_wp2
    go_ret2
    exact ⟨HT.out 0 0 (by rw [Hz.out]; rfl), rfl⟩
  · have hp : 0 < s.size := by omega
    have hb0 := gb_at s 0 hp
    have hlt := gb_lt s.data.toList 0
    have hne := list_ne s hp
    have he := empty_no s hp
    obtain ⟨y, hy⟩ : ∃ y, s[0] = y := ⟨_, rfl⟩
    rw [hy] at hb0
    by_cases ha : (y.toNat : Int) < 128
    · have Hb := Lib.hid hb0
      clear hb0
      go_enter Tryd.func43, Tryd.ntmps43
      go_wp2
      go_ret2
      exact ⟨HT.out 1 1 (by have := Hb.out; unfold beg; rw [if_neg hne, if_pos (by omega)]), rfl⟩
    · have Hb := Lib.hid hb0
      have hyl : y.toNat < 256 := UInt8.toNat_lt y
      clear hb0
      by_cases hz : (sec y.toNat).2.2 = 0
      · have Hz := Lib.hid hz
        have hzb : (((sec y.toNat).2.2 : Int) == 0) = true := by rw [hz]; rfl
        clear hz
        go_enter Tryd.func43, Tryd.ntmps43
        go_wp2_with (go_at_call 75; refine (second_any _ hyl _).mono ?_; rintro e w' ⟨rfl, rfl⟩)
        go_ret2
        exact ⟨HT.out 0 0 (by have := Hb.out; unfold beg; rw [if_neg hne, if_neg (by omega), ← this, Hz.out, if_pos rfl]), rfl⟩
      · have hzb : (((sec y.toNat).2.2 : Int) == 0) = false := by rw [beq_eq_false_iff_ne]; omega
        have hbeg : beg s.data.toList = (runOn s.data.toList (sec y.toNat).2.2 3 1 (sec y.toNat).1 (sec y.toNat).2.1, (sec y.toNat).2.2) := by
          have := Hb.out
          unfold beg
          rw [if_neg hne, if_neg (by omega), ← this, if_neg hz]
        obtain ⟨sa, sb, sc⟩ := sec_size y.toNat
        obtain ⟨lo, hlo⟩ : ∃ lo, (sec y.toNat).1 = lo := ⟨_, rfl⟩
        obtain ⟨hi, hhi⟩ : ∃ hi, (sec y.toNat).2.1 = hi := ⟨_, rfl⟩
        obtain ⟨size, hsize⟩ : ∃ size, (sec y.toNat).2.2 = size := ⟨_, rfl⟩
        have hsec : ∀ w : World, Calls Tryd.prog 75 #[.int .u8 (y.toNat : Int)] w fun e w' => e = .returned (.tuple #[.int .u8 lo, .int .u8 hi, .int .i64 size]) ∧ w = w' := by
          intro w
          have := second_any y.toNat hyl w
          rw [hlo, hhi, hsize] at this
          exact this
        rw [hlo, hhi, hsize] at hbeg
        rw [hsize] at hzb hz sa
        have Hsec := Lib.hid hsec
        have Hbeg := Lib.hid hbeg
        clear hsec hbeg hlo hhi hsize
        have hsp : 1 ≤ size := by omega
        clear hz
        go_enter Tryd.func43, Tryd.ntmps43
        go_wp2_with (go_at_call 75; refine (Hsec.out _).mono ?_; rintro e w' ⟨rfl, rfl⟩)
        go_loop [4, 5, 7] (fun p q r => ∃ k a b : Nat, 1 ≤ k ∧ k ≤ size ∧ k ≤ s.size ∧ p = .int .u8 a ∧ q = .int .u8 b ∧ r = .int .i64 k ∧ Hid (runOn s.data.toList size (4 - k) k a b = runOn s.data.toList size 3 1 lo hi)) (fun _ _ r => size - (intOf r).toNat)
        case atStart => exact ⟨1, lo, hi, by omega, hsp, by omega, rfl, rfl, rfl, rfl⟩
        case round =>
          obtain ⟨k, a, b, k1, k2, k3, rfl, rfl, rfl, hrun⟩ := hrel
          have hll := size_list s
          have Hll := Lib.hid hll
          clear hll
          by_cases hks : k < size
          · by_cases hkl : k < s.size
            · have hgk := gb_at s k hkl
              obtain ⟨z, hz⟩ : ∃ z, s[k] = z := ⟨_, rfl⟩
              rw [hz] at hgk
              have Hgk := Lib.hid hgk
              clear hgk
              go_wp2_with (go_at_call 76; refine (within_any _ _ _ _).mono ?_; rintro e w' ⟨rfl, rfl⟩)
              · have hw : a ≤ z.toNat ∧ z.toNat ≤ b := by assumption
                go_round
                case rel =>
                  refine ⟨k + 1, 128, 191, by omega, by omega, by omega, rfl, rfl, by go_num, ?_⟩
                  have e := hrun.out
                  rw [show 4 - k = (4 - (k + 1)) + 1 by omega, runOn, if_pos ⟨hks, by rw [Hll.out]; exact hkl, by rw [← Hgk.out]; exact hw.1, by rw [← Hgk.out]; exact hw.2⟩] at e
                  exact e
                case measure => simp [intOf]; omega
              · have hw : ¬ a ≤ z.toNat ∨ ¬ z.toNat ≤ b := by assumption
                go_ret2
                refine ⟨HT.out k size ?_, rfl⟩
                have e := hrun.out
                rw [show 4 - k = (4 - (k + 1)) + 1 by omega, runOn, if_neg (by rw [← Hgk.out]; omega)] at e
                rw [Hbeg.out, e]
            · have hkl2 : decide ((k : Int) < s.size) = false := by simp; omega
              go_wp2
              go_ret2
              refine ⟨HT.out k size ?_, rfl⟩
              have e := hrun.out
              rw [show 4 - k = (4 - (k + 1)) + 1 by omega, runOn, if_neg (by rw [Hll.out]; omega)] at e
              rw [Hbeg.out, e]
          · go_wp2
            go_ret2
            refine ⟨HT.out k size ?_, rfl⟩
            have e := hrun.out
            rw [Hbeg.out, ← e]
            obtain ⟨f, hf⟩ : ∃ f, 4 - k = f := ⟨_, rfl⟩
            rw [hf]
            cases f with
            | zero => rfl
            | succ f => rw [runOn, if_neg (by omega)]

end Go.Proofs.YthkapcnhfdpdbaaDoor
