/- The document's answer: the first of a text, walked. -/
import Derived.Test.YtkbhgkbhajmjiaaDoorRefC
namespace Go.Proofs.YtkbhgkbhajmjiaaDoor
open Go.RowKit Go.Lib

theorem take_list (s : ByteArray) (k : Nat) : (s.extract 0 k).data.toList = s.data.toList.take k := by simp
theorem drop_list (s : ByteArray) (k : Nat) : (s.extract k s.size).data.toList = s.data.toList.drop k := by
  simp only [ByteArray.data_extract, Array.toList_extract]
  exact List.take_of_length_le (by simp)

set_option maxHeartbeats 1000000 in
theorem refNext_any (s : ByteArray) (w : World) (hs : s.size ≤ maxLen) : Calls Tryd.prog 16 #[.string s] w fun e w' => e = .returned (.tuple #[.int .i32 (nxt s.data.toList).1, .int .i64 (nxt s.data.toList).2]) ∧ Below w.heap.size w w' := by
  have HT : Hid (∀ a b : Nat, nxt s.data.toList = (a, b) → Ending.returned (.tuple #[.int .i32 (a : Int), .int .i64 (b : Int)]) = .returned (.tuple #[.int .i32 (nxt s.data.toList).1, .int .i64 (nxt s.data.toList).2])) := by
    intro a b h; rw [h]
  have hbg := begins_any s
  by_cases h0 : s.size = 0
  · have hz : nxt s.data.toList = (65533, 0) := by unfold nxt; rw [if_pos (list_nil s h0)]
    have he := empty_yes s h0
    have Hz := Lib.hid hz
    have Hbg := Lib.hid hbg
    clear hz h0 hbg
    go_enter Tryd.func16, Tryd.ntmps16
    go_wp2_with (go_at_call 50; refine (Hbg.out _ hs).mono ?_; rintro e w' ⟨rfl, rfl⟩)
    go_ret2
    exact ⟨HT.out 65533 0 Hz.out, Below.refl _ _⟩
  · have hp : 0 < s.size := by omega
    have hne := list_ne s hp
    have he := empty_no s hp
    have hfit := beg_fits s.data.toList hne
    obtain ⟨n, hn⟩ : ∃ n, (beg s.data.toList).1 = n := ⟨_, rfl⟩
    obtain ⟨size, hsize⟩ : ∃ size, (beg s.data.toList).2 = size := ⟨_, rfl⟩
    rw [hn, hsize] at hfit
    have hn' : nxt s.data.toList = dec s.data.toList := by unfold nxt; rw [if_neg hne]
    have Hbg : Hid (∀ w : World, Calls Tryd.prog 50 #[.string s] w fun e w' => e = .returned (.tuple #[.int .i64 n, .int .i64 size]) ∧ w = w') := by
      intro w
      have := hbg w hs
      rw [hn, hsize] at this
      exact this
    clear hbg hn hsize h0
    have Hn := Lib.hid hn'
    clear hn'
    by_cases hc : n = 0 ∨ n < size
    · have Hd := Lib.hid (hfit.1 hc)
      clear hfit hne
      by_cases hc0 : n = 0
      · have hcb : ((n : Int) == 0) = true := by subst hc0; rfl
        clear hc hc0
        go_enter Tryd.func16, Tryd.ntmps16
        go_wp2_with (go_at_call 50; refine (Hbg.out _).mono ?_; rintro e w' ⟨rfl, rfl⟩)
        go_ret2
        exact ⟨HT.out 65533 1 (by rw [Hn.out, Hd.out]), Below.refl _ _⟩
      · have hcb : ((n : Int) == 0) = false := by rw [beq_eq_false_iff_ne]; omega
        have hlt : n < size := by omega
        clear hc hc0
        go_enter Tryd.func16, Tryd.ntmps16
        go_wp2_with (go_at_call 50; refine (Hbg.out _).mono ?_; rintro e w' ⟨rfl, rfl⟩)
        go_ret2
        exact ⟨HT.out 65533 1 (by rw [Hn.out, Hd.out]), Below.refl _ _⟩
    · obtain ⟨hd, z1, z2, z4⟩ := hfit.2 hc
      have Hd := Lib.hid hd
      rw [size_list] at z2
      have hcb : ((n : Int) == 0) = false := by rw [beq_eq_false_iff_ne]; omega
      have hge : ¬ n < size := by omega
      clear hfit hne hc hd
      go_enter Tryd.func16, Tryd.ntmps16
      go_wp2_with (first
        | (go_at_call 50; refine (Hbg.out _).mono ?_; rintro e w' ⟨rfl, rfl⟩)
        | (go_at_call 51; refine (number_any (s.extract 0 size) _ (by simp; omega) (by simp; omega)).mono ?_; rintro e w' ⟨rfl, hb⟩))
      go_ret2
      exact ⟨HT.out _ size (by rw [Hn.out, Hd.out]), hb⟩

end Go.Proofs.YtkbhgkbhajmjiaaDoor
