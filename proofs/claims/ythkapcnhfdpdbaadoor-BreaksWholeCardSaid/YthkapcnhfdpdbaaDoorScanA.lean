/- The program's package scan: the first, the last, whether whole, how many, whether valid. -/
import Derived.Test.YthkapcnhfdpdbaaDoorRefCD
import Derived.Test.YthkapcnhfdpdbaaDoorShelf
import Derived.Lib.OthersKept
set_option linter.unusedSimpArgs false
set_option linter.unusedVariables false
namespace Go.Proofs.YthkapcnhfdpdbaaDoor
open Go.RowKit Go.Lib

theorem ret_int' {k : IntKind} {a b : Int} (h : a = b) : Ending.returned (.int k a) = .returned (.int k b) := by rw [h]
theorem decodeGo_nxt (s : ByteArray) : decodeGo s = nxt s.data.toList := by
  unfold decodeGo nxt
  by_cases h : s.size = 0
  · rw [if_pos h, if_pos (list_nil s h)]
  · rw [if_neg h, if_neg (list_ne s (by omega)), decode_dec _ _ (Nat.zero_le _), List.drop_zero]

theorem next_any (s : ByteArray) (w : World) (hT : Utf8Tabs 0 1 w) : Calls Tryd.prog 24 #[.string s] w fun e w' => e = .returned (.tuple #[.int .i32 (nxt s.data.toList).1, .int .i64 (nxt s.data.toList).2]) ∧ Below w.heap.size w w' := by
  have hc := Tryd.utf8_DecodeRuneInString s w hT
  rw [decodeGo_nxt] at hc
  have H := Lib.hid hc
  clear hc hT
  go_enter Tryd.func24, Tryd.ntmps24
  go_wp2_with (go_at_call 37; refine H.out.mono ?_; rintro e w' ⟨rfl, hb⟩)
  go_ret2
  exact ⟨rfl, hb⟩
theorem last_any (s : ByteArray) (w : World) (hs : s.size ≤ maxLen) (hT : Utf8Tabs 0 1 w) : Calls Tryd.prog 81 #[.string s] w fun e w' => e = .returned (.tuple #[.int .i32 (decodeLastL s.data.toList).1, .int .i64 (decodeLastL s.data.toList).2]) ∧ Below w.heap.size w w' := by
  unfold maxLen at hs
  have H := Lib.hid (Tryd.utf8_DecodeLastRuneInString s w (by omega) hT)
  clear hT
  go_enter Tryd.func81, Tryd.ntmps81
  go_wp2_with (go_at_call 87; refine H.out.mono ?_; rintro e w' ⟨rfl, hb⟩)
  go_ret2
  exact ⟨rfl, hb⟩
/-- does a bad byte stand at the head, given the number told? -/
def badB (l : List UInt8) (r : Nat) : Bool := decide (r = 65533) && !hasPrefix l [239, 191, 189]
theorem drop_ne (l : List UInt8) (k : Nat) (h : k < l.length) : l.drop k ≠ [] := by
  intro e
  have := congrArg List.length e
  simp at this
  omega
theorem segs_drop (l : List UInt8) (k : Nat) (h : k < l.length) : segs (l.drop k) = dec (l.drop k) :: segs (l.drop (k + (dec (l.drop k)).2)) := by
  rw [segs_cons _ (drop_ne l k h), List.drop_drop]
theorem next_le (l : List UInt8) (k : Nat) (h : k < l.length) : k + (dec (l.drop k)).2 ≤ l.length := by
  have := dec_le _ (drop_ne l k h)
  simp only [List.length_drop] at this
  omega

end Go.Proofs.YthkapcnhfdpdbaaDoor
