/- The program's package scan: the first, the last, whether whole, how many, whether valid. -/
import Derived.Test.YtlkflbfemlnleaaDoorRefCD
import Derived.Test.YtlkflbfemlnleaaDoorShelf
import Derived.Lib.OthersKept
namespace Go.Proofs.YtlkflbfemlnleaaDoor
open Go.RowKit Go.Lib

theorem ret_int' {k : IntKind} {a b : Int} (h : a = b) : Ending.returned (.int k a) = .returned (.int k b) := by rw [h]
theorem decodeGo_nxt (s : ByteArray) : decodeGo s = nxt s.data.toList := by
  unfold decodeGo nxt
  by_cases h : s.size = 0
  · rw [if_pos h, if_pos (list_nil s h)]
  · rw [if_neg h, if_neg (list_ne s (by omega)), decode_dec _ _ (Nat.zero_le _), List.drop_zero]

theorem next_any (s : ByteArray) (w : World) (hT : Utf8Tabs 0 1 w) : Calls Tryd.prog 49 #[.string s] w fun e w' => e = .returned (.tuple #[.int .i32 (nxt s.data.toList).1, .int .i64 (nxt s.data.toList).2]) ∧ Below w.heap.size w w' := by
  have hc := Tryd.utf8_DecodeRuneInString s w hT
  rw [decodeGo_nxt] at hc
  have H := Lib.hid hc
  clear hc hT
  go_enter Tryd.func49, Tryd.ntmps49
  go_wp2_with (go_at_call 62; refine H.out.mono ?_; rintro e w' ⟨rfl, hb⟩)
  go_ret2
  exact ⟨rfl, hb⟩
theorem last_any (s : ByteArray) (w : World) (hs : s.size ≤ maxLen) (hT : Utf8Tabs 0 1 w) : Calls Tryd.prog 48 #[.string s] w fun e w' => e = .returned (.tuple #[.int .i32 (decodeLastL s.data.toList).1, .int .i64 (decodeLastL s.data.toList).2]) ∧ Below w.heap.size w w' := by
  unfold maxLen at hs
  have H := Lib.hid (Tryd.utf8_DecodeLastRuneInString s w (by omega) hT)
  clear hT
  go_enter Tryd.func48, Tryd.ntmps48
  go_wp2_with (go_at_call 61; refine H.out.mono ?_; rintro e w' ⟨rfl, hb⟩)
  go_ret2
  exact ⟨rfl, hb⟩
/-- does a bad byte stand at the head, given the number told? -/
def badB (l : List UInt8) (r : Nat) : Bool := decide (r = 65533) && !hasPrefix l [239, 191, 189]
theorem isBad_any (s : ByteArray) (r : Nat) (w : World) : Calls Tryd.prog 42 #[.string s, .int .i32 (r : Int)] w fun e w' => e = .returned (.bool (badB s.data.toList r)) ∧ w = w' := by
  have hp := Tryd.strings_HasPrefix s ⟨#[239, 191, 189]⟩
  have H := Lib.hid hp
  clear hp
  by_cases h : r = 65533
  · have hb : ((r : Int) == 65533) = true := by subst h; rfl
    have hf : badB s.data.toList r = !hasPrefix s.data.toList [239, 191, 189] := by unfold badB; simp [h]
    rw [hf]
    clear h hf
    go_enter Tryd.func42, Tryd.ntmps42
    go_wp2_with (go_at_call 53; refine (H.out _).mono ?_; rintro e w' ⟨rfl, rfl⟩)
    go_ret
    exact ⟨rfl, rfl⟩
  · have hb : ((r : Int) == 65533) = false := by rw [beq_eq_false_iff_ne]; omega
    have hf : badB s.data.toList r = false := by unfold badB; simp [h]
    rw [hf]
    clear h hf
    go_enter Tryd.func42, Tryd.ntmps42
    go_wp2
    go_ret
    exact ⟨rfl, rfl⟩

theorem drop_ne (l : List UInt8) (k : Nat) (h : k < l.length) : l.drop k ≠ [] := by
  intro e
  have := congrArg List.length e
  simp at this
  omega
theorem segs_drop (l : List UInt8) (k : Nat) (h : k < l.length) : segs (l.drop k) = dec (l.drop k) :: segs (l.drop (k + (dec (l.drop k)).2)) := by
  rw [segs_cons _ (drop_ne l k h), List.drop_drop]
theorem next_le (l : List UInt8) (k : Nat) (h : k < l.length) : k + (dec (l.drop k)).2 ≤ l.length := by
  have := dec_le _ (drop_ne l k h)
  simp only [List.length_drop] at this
  omega

set_option maxHeartbeats 1000000 in
theorem count_any (s : ByteArray) (w : World) (hs : s.size ≤ 281474976710656) : Calls Tryd.prog 26 #[.string s] w fun e w' => e = .returned (.int .i64 (segs s.data.toList).length) ∧ Below w.heap.size w w' := by
  have hl := size_list s
  have Hl := Lib.hid hl
  clear hl
  go_enter Tryd.func26, Tryd.ntmps26
  go_wp2
  go_loopw [3] (fun n w' => ∃ (pos acc : Nat), w' = w.iter s pos ∧ n = .int .i64 acc ∧ Hid (acc + (segs (s.data.toList.drop pos)).length = (segs s.data.toList).length) ∧ acc ≤ pos ∧ pos ≤ s.size) (fun _ w' => s.size - w'.iterPos w.heap.size)
  case atStart => exact ⟨0, 0, rfl, rfl, by simp [Hid], Nat.le_refl _, Nat.zero_le _⟩
  case round =>
    obtain ⟨pos, acc, rfl, rfl, hc, ha, hp0⟩ := hrel
    by_cases hp : pos < s.size
    · have hd := decode_dec s pos hp0
      have hd1 := segs_drop s.data.toList pos (by rw [Hl.out]; exact hp)
      have hd2 := next_le s.data.toList pos (by rw [Hl.out]; exact hp)
      have hd3 := dec_pos (s.data.toList.drop pos)
      rw [Hl.out] at hd2
      obtain ⟨d, hdd⟩ : ∃ d, dec (s.data.toList.drop pos) = d := ⟨_, rfl⟩
      rw [hdd] at hd hd1 hd2 hd3
      have hnx : ∀ ty, (Instr.next (.pointer (some ⟨w.heap.size, 0, none⟩)) true ty).run Tryd.prog (w.iter s pos) = .ok (.tuple #[.bool true, .int .i64 pos, .int .i32 d.1]) (w.iter s (pos + d.2)) := fun ty => by
        rw [run_next_any w s pos ty hp, hd]
      have Hd1 := Lib.hid hd1
      clear hd1 hd hdd
      go_wp2
      go_roundw
      case rel =>
        refine ⟨pos + d.2, acc + 1, rfl, by go_num, ?_, by omega, by omega⟩
        have e := hc.out
        rw [Hd1.out] at e
        unfold Hid
        simp only [List.length_cons] at e
        omega
      case measure =>
        simp
        omega
    · have hnx : ∀ ty, (Instr.next (.pointer (some ⟨w.heap.size, 0, none⟩)) true ty).run Tryd.prog (w.iter s pos) = _ := fun ty => run_next_end w s pos ty hp
      go_wp2
      go_ret
      have e := hc.out
      rw [List.drop_of_length_le (by rw [Hl.out]; omega), segs_nil] at e
      simp only [List.length_nil, Nat.add_zero] at e
      exact ⟨ret_int' (by rw [← e]), (Below.refl _ w).alloc (Nat.le_refl _) _⟩

end Go.Proofs.YtlkflbfemlnleaaDoor
