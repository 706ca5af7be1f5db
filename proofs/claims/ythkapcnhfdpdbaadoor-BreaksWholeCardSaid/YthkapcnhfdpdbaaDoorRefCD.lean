/- The document's answer is the model's own decoding: plain Lean. -/
import Derived.Test.YthkapcnhfdpdbaaDoorRefB
set_option linter.unusedSimpArgs false
set_option linter.unusedVariables false
set_option linter.unusedVariables false
set_option linter.unusedSimpArgs false
namespace Go.Proofs.YthkapcnhfdpdbaaDoor
open Go.RowKit Go.Lib

def nxt (l : List UInt8) : Nat × Nat := if l = [] then (65533, 0) else dec l

theorem runOn3 (l : List UInt8) (size lo hi : Nat) : runOn l size 3 1 lo hi =
    if 1 < size ∧ 1 < l.length ∧ lo ≤ gb l 1 ∧ gb l 1 ≤ hi then (if 2 < size ∧ 2 < l.length ∧ 128 ≤ gb l 2 ∧ gb l 2 ≤ 191 then (if 3 < size ∧ 3 < l.length ∧ 128 ≤ gb l 3 ∧ gb l 3 ≤ 191 then 4 else 3) else 2) else 1 := by
  simp only [runOn]

theorem num1 (l : List UInt8) (h : 1 ≤ l.length) : num (l.take 1) = gb l 0 % 128 := by
  unfold num
  rw [List.length_take, Nat.min_eq_left h]
  simp [numFrom, maskOf, gb_take]
theorem num2 (l : List UInt8) (h : 2 ≤ l.length) : num (l.take 2) = 64 * (gb l 0 % 32) + gb l 1 % 64 := by
  unfold num
  rw [List.length_take, Nat.min_eq_left h]
  simp [numFrom, maskOf, gb_take]
theorem num3 (l : List UInt8) (h : 3 ≤ l.length) : num (l.take 3) = 64 * (64 * (gb l 0 % 16) + gb l 1 % 64) + gb l 2 % 64 := by
  unfold num
  rw [List.length_take, Nat.min_eq_left h]
  simp [numFrom, maskOf, gb_take]
theorem num4 (l : List UInt8) (h : 4 ≤ l.length) : num (l.take 4) = 64 * (64 * (64 * (gb l 0 % 8) + gb l 1 % 64) + gb l 2 % 64) + gb l 3 % 64 := by
  unfold num
  rw [List.length_take, Nat.min_eq_left h]
  simp [numFrom, maskOf, gb_take]

def BegFits (l : List UInt8) (n size : Nat) : Prop :=
  ((n = 0 ∨ n < size) → dec l = (65533, 1)) ∧ (¬ (n = 0 ∨ n < size) → dec l = (num (l.take size), size) ∧ 1 ≤ size ∧ size ≤ l.length ∧ size ≤ 4)

set_option maxHeartbeats 4000000 in
theorem fits2 (l : List UInt8) (h : 1 ≤ l.length) (h0 : 194 ≤ gb l 0 ∧ gb l 0 < 224) : BegFits l (runOn l 2 3 1 128 191) 2 := by
  have h1 := gb_lt l 1
  have h2 := gb_lt l 2
  have h3 := gb_lt l 3
  have hd : dec l = slowN l.length (gb l 0) (gb l 1) (gb l 2) (gb l 3) 2 128 191 := (slow_C2 _ _ _ _ _ h h1 h2 h3 h0).symm
  rw [runOn3]
  unfold BegFits
  rw [hd]
  unfold slowN
  refine ⟨fun a => ?_, fun a => ?_⟩
  · repeat' split
    all_goals first | rfl | (exfalso; revert a; (repeat' split) <;> omega)
  · have hc : 1 < l.length ∧ 128 ≤ gb l 1 ∧ gb l 1 ≤ 191 := by
      revert a
      repeat' split
      all_goals omega
    rw [if_neg (by omega), if_neg (by omega), if_pos (by omega), num2 l (by omega)]
    exact ⟨by apply Prod.ext <;> simp only; omega, by omega, by omega, by omega⟩
set_option maxHeartbeats 4000000 in
theorem fits3 (l : List UInt8) (lo hi : Nat) (h : 1 ≤ l.length) (hd : dec l = slowN l.length (gb l 0) (gb l 1) (gb l 2) (gb l 3) 3 lo hi) : BegFits l (runOn l 3 3 1 lo hi) 3 := by
  rw [runOn3]
  unfold BegFits
  rw [hd]
  unfold slowN
  refine ⟨fun a => ?_, fun a => ?_⟩
  · repeat' split
    all_goals first | rfl | (exfalso; revert a; (repeat' split) <;> omega)
  · have hc : 2 < l.length ∧ lo ≤ gb l 1 ∧ gb l 1 ≤ hi ∧ 128 ≤ gb l 2 ∧ gb l 2 ≤ 191 := by
      revert a
      repeat' split
      all_goals omega
    rw [if_neg (by omega), if_neg (by omega), if_neg (by omega), if_neg (by omega), if_pos (by omega), num3 l (by omega)]
    exact ⟨by apply Prod.ext <;> simp only; omega, by omega, by omega, by omega⟩
set_option maxHeartbeats 4000000 in
theorem fits4 (l : List UInt8) (lo hi : Nat) (h : 1 ≤ l.length) (hd : dec l = slowN l.length (gb l 0) (gb l 1) (gb l 2) (gb l 3) 4 lo hi) : BegFits l (runOn l 4 3 1 lo hi) 4 := by
  rw [runOn3]
  unfold BegFits
  rw [hd]
  unfold slowN
  refine ⟨fun a => ?_, fun a => ?_⟩
  · repeat' split
    all_goals first | rfl | (exfalso; revert a; (repeat' split) <;> omega)
  · have hc : 3 < l.length ∧ lo ≤ gb l 1 ∧ gb l 1 ≤ hi ∧ 128 ≤ gb l 2 ∧ gb l 2 ≤ 191 ∧ 128 ≤ gb l 3 ∧ gb l 3 ≤ 191 := by
      revert a
      repeat' split
      all_goals omega
    rw [if_neg (by omega), if_neg (by omega), if_neg (by omega), if_neg (by omega), if_neg (by omega), if_neg (by omega), num4 l (by omega)]
    exact ⟨by apply Prod.ext <;> simp only; omega, by omega, by omega, by omega⟩

theorem sec_of (c : Nat) : (194 ≤ c ∧ c < 224 ∧ sec c = (128, 191, 2)) ∨ (c = 224 ∧ sec c = (160, 191, 3)) ∨ (c = 237 ∧ sec c = (128, 159, 3)) ∨
    (((225 ≤ c ∧ c < 237) ∨ (238 ≤ c ∧ c < 240)) ∧ sec c = (128, 191, 3)) ∨ (c = 240 ∧ sec c = (144, 191, 4)) ∨ (241 ≤ c ∧ c < 244 ∧ sec c = (128, 191, 4)) ∨ (c = 244 ∧ sec c = (128, 143, 4)) ∨
    ((c < 194 ∨ 244 < c) ∧ sec c = (0, 0, 0)) := by
  unfold sec
  repeat' split
  all_goals (simp; omega)

theorem beg_fits (l : List UInt8) (h : l ≠ []) : BegFits l (beg l).1 (beg l).2 := by
  have hl := List.length_pos_iff.2 h
  have h0 := gb_lt l 0
  have h1 := gb_lt l 1
  have h2 := gb_lt l 2
  have h3 := gb_lt l 3
  unfold beg
  rw [if_neg h]
  by_cases ha : gb l 0 < 128
  · rw [if_pos ha]
    refine ⟨fun a => by simp at a, fun _ => ⟨?_, by simp, hl, by simp⟩⟩
    simp only
    rw [num1 l hl]
    unfold dec decodeN
    rw [if_pos ha]
    apply Prod.ext <;> simp only
    omega
  · rw [if_neg ha]
    rcases sec_of (gb l 0) with ⟨a, b, c⟩ | ⟨a, c⟩ | ⟨a, c⟩ | ⟨a, c⟩ | ⟨a, c⟩ | ⟨a, b, c⟩ | ⟨a, c⟩ | ⟨a, c⟩
    · rw [c, if_neg (by simp)]; exact fits2 l hl ⟨a, b⟩
    · rw [c, if_neg (by simp)]; exact fits3 l _ _ hl (slow_E0 _ _ _ _ _ hl h1 h2 h3 a).symm
    · rw [c, if_neg (by simp)]; exact fits3 l _ _ hl (slow_ED _ _ _ _ _ hl h1 h2 h3 a).symm
    · rw [c, if_neg (by simp)]; exact fits3 l _ _ hl (slow_E1 _ _ _ _ _ hl h1 h2 h3 a).symm
    · rw [c, if_neg (by simp)]; exact fits4 l _ _ hl (slow_F0 _ _ _ _ _ hl h1 h2 h3 a).symm
    · rw [c, if_neg (by simp)]; exact fits4 l _ _ hl (slow_F1 _ _ _ _ _ hl h1 h2 h3 ⟨a, b⟩).symm
    · rw [c, if_neg (by simp)]; exact fits4 l _ _ hl (slow_F4 _ _ _ _ _ hl h1 h2 h3 a).symm
    · rw [c, if_pos (by simp)]
      refine ⟨fun _ => ?_, fun a => absurd (.inl rfl) a⟩
      unfold dec decodeN
      repeat' split
      all_goals first | rfl | (exfalso; omega)

end Go.Proofs.YthkapcnhfdpdbaaDoor

/- The document's answer: the first of a text, walked. -/
namespace Go.Proofs.YthkapcnhfdpdbaaDoor
open Go.RowKit Go.Lib

theorem take_list (s : ByteArray) (k : Nat) : (s.extract 0 k).data.toList = s.data.toList.take k := by simp
theorem drop_list (s : ByteArray) (k : Nat) : (s.extract k s.size).data.toList = s.data.toList.drop k := by
  simp only [ByteArray.data_extract, Array.toList_extract]
  exact List.take_of_length_le (by simp)

set_option maxHeartbeats 1000000 in
theorem refNext_any (s : ByteArray) (w : World) (hs : s.size ≤ maxLen) : Calls Tryd.prog 29 #[.string s] w fun e w' => e = .returned (.tuple #[.int .i32 (nxt s.data.toList).1, .int .i64 (nxt s.data.toList).2]) ∧ Below w.heap.size w w' := by
  have HT : Hid (∀ a b : Nat, nxt s.data.toList = (a, b) → Ending.returned (.tuple #[.int .i32 (a : Int), .int .i64 (b : Int)]) = .returned (.tuple #[.int .i32 (nxt s.data.toList).1, .int .i64 (nxt s.data.toList).2])) := by
    intro a b h; rw [h]
  have hbg := begins_any s
  by_cases h0 : s.size = 0
  · have hz : nxt s.data.toList = (65533, 0) := by unfold nxt; rw [if_pos (list_nil s h0)]
    have he := empty_yes s h0
    have Hz := Lib.hid hz
    have Hbg := Lib.hid hbg
    clear hz h0 hbg
    go_enter Tryd.func29, Tryd.ntmps29
    go_wp2_with (go_at_call 43; refine (Hbg.out _ hs).mono ?_; rintro e w' ⟨rfl, rfl⟩)
    go_ret2
    exact ⟨HT.out 65533 0 Hz.out, Below.refl _ _⟩
  · have hp : 0 < s.size := by omega
    have hne := list_ne s hp
    have he := empty_no s hp
    have hfit := beg_fits s.data.toList hne
    obtain ⟨n, hn⟩ : ∃ n, (beg s.data.toList).1 = n := ⟨_, rfl⟩
    obtain ⟨size, hsize⟩ : ∃ size, (beg s.data.toList).2 = size := ⟨_, rfl⟩
    rw [hn, hsize] at hfit
    have hn' : nxt s.data.toList = dec s.data.toList := by unfold nxt; rw [if_neg hne]
    have Hbg : Hid (∀ w : World, Calls Tryd.prog 43 #[.string s] w fun e w' => e = .returned (.tuple #[.int .i64 n, .int .i64 size]) ∧ w = w') := by
      intro w
      have := hbg w hs
      rw [hn, hsize] at this
      exact this
    clear hbg hn hsize h0
    have Hn := Lib.hid hn'
    clear hn'
    by_cases hc : n = 0 ∨ n < size
    · have Hd := Lib.hid (hfit.1 hc)
      clear hfit hne
      by_cases hc0 : n = 0
      · have hcb : ((n : Int) == 0) = true := by subst hc0; rfl
        clear hc hc0
        go_enter Tryd.func29, Tryd.ntmps29
        go_wp2_with (go_at_call 43; refine (Hbg.out _).mono ?_; rintro e w' ⟨rfl, rfl⟩)
        go_ret2
        exact ⟨HT.out 65533 1 (by rw [Hn.out, Hd.out]), Below.refl _ _⟩
      · have hcb : ((n : Int) == 0) = false := by rw [beq_eq_false_iff_ne]; omega
        have hlt : n < size := by omega
        clear hc hc0
        go_enter Tryd.func29, Tryd.ntmps29
        go_wp2_with (go_at_call 43; refine (Hbg.out _).mono ?_; rintro e w' ⟨rfl, rfl⟩)
        go_ret2
        exact ⟨HT.out 65533 1 (by rw [Hn.out, Hd.out]), Below.refl _ _⟩
    · obtain ⟨hd, z1, z2, z4⟩ := hfit.2 hc
      have Hd := Lib.hid hd
      rw [size_list] at z2
      have hcb : ((n : Int) == 0) = false := by rw [beq_eq_false_iff_ne]; omega
      have hge : ¬ n < size := by omega
      clear hfit hne hc hd
      go_enter Tryd.func29, Tryd.ntmps29
      go_wp2_with (first
        | (go_at_call 43; refine (Hbg.out _).mono ?_; rintro e w' ⟨rfl, rfl⟩)
        | (go_at_call 44; refine (number_any (s.extract 0 size) _ (by simp; omega) (by simp; omega)).mono ?_; rintro e w' ⟨rfl, hb⟩))
      go_ret2
      exact ⟨HT.out _ size (by rw [Hn.out, Hd.out]), hb⟩

end Go.Proofs.YthkapcnhfdpdbaaDoor
