/- The program's package scan: the first, the last, whether whole, how many, whether valid. -/
import Derived.Test.YtakfgeonjamjeaaDoorRefCD
import Derived.Test.YtakfgeonjamjeaaDoorShelf
import Derived.Lib.OthersKept
namespace Go.Proofs.YtakfgeonjamjeaaDoor
open Go.RowKit Go.Lib

theorem ret_int' {k : IntKind} {a b : Int} (h : a = b) : Ending.returned (.int k a) = .returned (.int k b) := by rw [h]
theorem decodeGo_nxt (s : ByteArray) : decodeGo s = nxt s.data.toList := by
  unfold decodeGo nxt
  by_cases h : s.size = 0
  · rw [if_pos h, if_pos (list_nil s h)]
  · rw [if_neg h, if_neg (list_ne s (by omega)), decode_dec _ _ (Nat.zero_le _), List.drop_zero]

theorem next_any (s : ByteArray) (w : World) (hT : Utf8Tabs 0 1 w) : Calls Tryd.prog 32 #[.string s] w fun e w' => e = .returned (.tuple #[.int .i32 (nxt s.data.toList).1, .int .i64 (nxt s.data.toList).2]) ∧ Below w.heap.size w w' := by
  have hc := Tryd.utf8_DecodeRuneInString s w hT
  rw [decodeGo_nxt] at hc
  have H := Lib.hid hc
  clear hc hT
  go_enter Tryd.func32, Tryd.ntmps32
  go_wp2_with (go_at_call 56; refine H.out.mono ?_; rintro e w' ⟨rfl, hb⟩)
  go_ret2
  exact ⟨rfl, hb⟩
/-- does a bad byte stand at the head, given the number told? -/
def badB (l : List UInt8) (r : Nat) : Bool := decide (r = 65533) && !hasPrefix l [239, 191, 189]
theorem isBad_any (s : ByteArray) (r : Nat) (w : World) : Calls Tryd.prog 73 #[.string s, .int .i32 (r : Int)] w fun e w' => e = .returned (.bool (badB s.data.toList r)) ∧ w = w' := by
  have hp := Tryd.strings_HasPrefix s ⟨#[239, 191, 189]⟩
  have H := Lib.hid hp
  clear hp
  by_cases h : r = 65533
  · have hb : ((r : Int) == 65533) = true := by subst h; rfl
    have hf : badB s.data.toList r = !hasPrefix s.data.toList [239, 191, 189] := by unfold badB; simp [h]
    rw [hf]
    clear h hf
    go_enter Tryd.func73, Tryd.ntmps73
    go_wp2_with (go_at_call 89; refine (H.out _).mono ?_; rintro e w' ⟨rfl, rfl⟩)
    go_ret
    exact ⟨rfl, rfl⟩
  · have hb : ((r : Int) == 65533) = false := by rw [beq_eq_false_iff_ne]; omega
    have hf : badB s.data.toList r = false := by unfold badB; simp [h]
    rw [hf]
    clear h hf
    go_enter Tryd.func73, Tryd.ntmps73
    go_wp2
    go_ret
    exact ⟨rfl, rfl⟩

theorem drop_ne (l : List UInt8) (k : Nat) (h : k < l.length) : l.drop k ≠ [] := by
  intro e
  have := congrArg List.length e
  simp at this
  omega
theorem segs_drop (l : List UInt8) (k : Nat) (h : k < l.length) : segs (l.drop k) = dec (l.drop k) :: segs (l.drop (k + (dec (l.drop k)).2)) := by
  rw [segs_cons _ (drop_ne l k h), List.drop_drop]
theorem next_le (l : List UInt8) (k : Nat) (h : k < l.length) : k + (dec (l.drop k)).2 ≤ l.length := by
  have := dec_le _ (drop_ne l k h)
  simp only [List.length_drop] at this
  omega

end Go.Proofs.YtakfgeonjamjeaaDoor
