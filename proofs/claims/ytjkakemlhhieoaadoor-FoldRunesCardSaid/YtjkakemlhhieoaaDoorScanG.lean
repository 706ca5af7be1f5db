/- The program's package scan: the first, the last, whether whole, how many, whether valid. -/
import Derived.Test.YtjkakemlhhieoaaDoorRefCD
import Derived.Test.YtjkakemlhhieoaaDoorShelf
import Derived.Lib.OthersKept
import Derived.Laws.Cover4
import Derived.Laws.IdiomStrings
import Derived.Deep.Draws
import Derived.Laws.OwnMore
import Derived.Test.YtjkakemlhhieoaaDoorMem
set_option linter.unusedSimpArgs false
set_option linter.unusedVariables false
namespace Go.Proofs.YtjkakemlhhieoaaDoor
open Go.RowKit Go.Lib

theorem ret_int' {k : IntKind} {a b : Int} (h : a = b) : Ending.returned (.int k a) = .returned (.int k b) := by rw [h]
theorem decodeGo_nxt (s : ByteArray) : decodeGo s = nxt s.data.toList := by
  unfold decodeGo nxt
  by_cases h : s.size = 0
  · rw [if_pos h, if_pos (list_nil s h)]
  · rw [if_neg h, if_neg (list_ne s (by omega)), decode_dec _ _ (Nat.zero_le _), List.drop_zero]

theorem next_any (s : ByteArray) (w : World) (hT : Utf8Tabs 2 3 w) : Calls Tryd.prog 55 #[.string s] w fun e w' => e = .returned (.tuple #[.int .i32 (nxt s.data.toList).1, .int .i64 (nxt s.data.toList).2]) ∧ Below w.heap.size w w' := by
  have hc := Tryd.utf8_DecodeRuneInString s w hT
  rw [decodeGo_nxt] at hc
  have H := Lib.hid hc
  clear hc hT
  go_enter Tryd.func55, Tryd.ntmps55
  go_wp2_with (go_at_call 72; refine H.out.mono ?_; rintro e w' ⟨rfl, hb⟩)
  go_ret2
  exact ⟨rfl, hb⟩
theorem last_any (s : ByteArray) (w : World) (hs : s.size ≤ maxLen) (hT : Utf8Tabs 2 3 w) : Calls Tryd.prog 54 #[.string s] w fun e w' => e = .returned (.tuple #[.int .i32 (decodeLastL s.data.toList).1, .int .i64 (decodeLastL s.data.toList).2]) ∧ Below w.heap.size w w' := by
  unfold maxLen at hs
  have H := Lib.hid (Tryd.utf8_DecodeLastRuneInString s w (by omega) hT)
  clear hT
  go_enter Tryd.func54, Tryd.ntmps54
  go_wp2_with (go_at_call 71; refine H.out.mono ?_; rintro e w' ⟨rfl, hb⟩)
  go_ret2
  exact ⟨rfl, hb⟩
/-- does a bad byte stand at the head, given the number told? -/
def badB (l : List UInt8) (r : Nat) : Bool := decide (r = 65533) && !hasPrefix l [239, 191, 189]
theorem isBad_any (s : ByteArray) (r : Nat) (w : World) : Calls Tryd.prog 62 #[.string s, .int .i32 (r : Int)] w fun e w' => e = .returned (.bool (badB s.data.toList r)) ∧ w = w' := by
  have hp := Tryd.strings_HasPrefix s ⟨#[239, 191, 189]⟩
  have H := Lib.hid hp
  clear hp
  by_cases h : r = 65533
  · have hb : ((r : Int) == 65533) = true := by subst h; rfl
    have hf : badB s.data.toList r = !hasPrefix s.data.toList [239, 191, 189] := by unfold badB; simp [h]
    rw [hf]
    clear h hf
    go_enter Tryd.func62, Tryd.ntmps62
    go_wp2_with (go_at_call 43; refine (H.out _).mono ?_; rintro e w' ⟨rfl, rfl⟩)
    go_ret
    exact ⟨rfl, rfl⟩
  · have hb : ((r : Int) == 65533) = false := by rw [beq_eq_false_iff_ne]; omega
    have hf : badB s.data.toList r = false := by unfold badB; simp [h]
    rw [hf]
    clear h hf
    go_enter Tryd.func62, Tryd.ntmps62
    go_wp2
    go_ret
    exact ⟨rfl, rfl⟩

theorem drop_ne (l : List UInt8) (k : Nat) (h : k < l.length) : l.drop k ≠ [] := by
  intro e
  have := congrArg List.length e
  simp at this
  omega
theorem segs_drop (l : List UInt8) (k : Nat) (h : k < l.length) : segs (l.drop k) = dec (l.drop k) :: segs (l.drop (k + (dec (l.drop k)).2)) := by
  rw [segs_cons _ (drop_ne l k h), List.drop_drop]
theorem next_le (l : List UInt8) (k : Nat) (h : k < l.length) : k + (dec (l.drop k)).2 ≤ l.length := by
  have := dec_le _ (drop_ne l k h)
  simp only [List.length_drop] at this
  omega

end Go.Proofs.YtjkakemlhhieoaaDoor

/- The program's package scan: whether valid; the numbers of a text; numbers as a text. -/
namespace Go.Proofs.YtjkakemlhhieoaaDoor
open Go.RowKit Go.Lib

def badSeg (d : Nat × Nat) : Bool := decide (d.2 = 1) && decide (d.1 = 65533)
def okSegs (l : List UInt8) : Bool := (segs l).all fun d => !badSeg d

theorem prefix3 (l : List UInt8) : hasPrefix l [239, 191, 189] = decide (3 ≤ l.length ∧ gb l 0 = 239 ∧ gb l 1 = 191 ∧ gb l 2 = 189) := by
  unfold hasPrefix gb
  match l with
  | [] => rfl
  | [a] => simp [List.isPrefixOf]
  | [a, b] => simp [List.isPrefixOf]
  | a :: b :: c :: t =>
    have e : ∀ (x : UInt8) (n : Nat) (hn : n < 256), (UInt8.ofNat n == x) = decide (x.toNat = n) := by
      intro x n hn
      apply Bool.eq_iff_iff.2
      simp only [beq_iff_eq, decide_eq_true_eq]
      constructor
      · intro h; subst h; simp; omega
      · intro h; subst h; simp
    have h1 := e a 239 (by omega)
    have h2 := e b 191 (by omega)
    have h3 := e c 189 (by omega)
    simp only [List.isPrefixOf, Bool.and_true]
    show ((UInt8.ofNat 239 == a) && ((UInt8.ofNat 191 == b) && (UInt8.ofNat 189 == c))) = _
    rw [h1, h2, h3]
    simp
theorem dec_fffd (l : List UInt8) (h : l ≠ []) (hr : (dec l).1 = 65533) : ((dec l).2 = 1 ∧ ¬ (3 ≤ l.length ∧ gb l 0 = 239 ∧ gb l 1 = 191 ∧ gb l 2 = 189)) ∨ ((dec l).2 = 3 ∧ (3 ≤ l.length ∧ gb l 0 = 239 ∧ gb l 1 = 191 ∧ gb l 2 = 189)) := by
  have h0 := gb_lt l 0
  have h1 := gb_lt l 1
  have h2 := gb_lt l 2
  have h3 := gb_lt l 3
  by_cases hp : 3 ≤ l.length ∧ gb l 0 = 239 ∧ gb l 1 = 191 ∧ gb l 2 = 189
  · refine .inr ⟨?_, hp⟩
    obtain ⟨a, b, c, d⟩ := hp
    have e1 : 1 < l.length := by omega
    have e2 : 2 < l.length := by omega
    simp [dec, decodeN, b, c, d, e1, e2]
  · refine .inl ⟨?_, hp⟩
    have key : ∀ x : Nat × Nat, dec l = x → x.1 = 65533 → x.2 = 1 := by
      intro x hx
      rw [← hx]
      clear hx hr
      unfold dec decodeN
      repeat' split
      all_goals (intro hr; first | rfl | (exfalso; revert hr; simp only; omega))
    exact key _ rfl hr
theorem badB_dec (l : List UInt8) (h : l ≠ []) : badB l (dec l).1 = badSeg (dec l) := by
  unfold badB badSeg
  rw [prefix3]
  by_cases hr : (dec l).1 = 65533
  · rcases dec_fffd l h hr with ⟨a, b⟩ | ⟨a, b⟩
    · simp [hr, a]; omega
    · simp [hr, a]; omega
  · simp [hr]

/-! ### numbers -/
def runeCells' (rs : List Nat) : List Value := rs.map fun (r : Nat) => Value.int .i32 (r : Int)
def runesOf (l : List UInt8) : List Nat := (segs l).map (·.1)

theorem runesFrom_segs (s : ByteArray) : ∀ (f pos : Nat) (acc : Array Value), pos ≤ s.size → s.size ≤ pos + f → Conv.runesFrom s f pos acc = acc ++ (runeCells' (runesOf (s.data.toList.drop pos))).toArray
  | 0, pos, acc, h1, h2 => by
    rw [List.drop_of_length_le (by rw [size_list]; omega)]
    simp [Conv.runesFrom, runesOf, runeCells', segs_nil]
  | f + 1, pos, acc, h1, h2 => by
    unfold Conv.runesFrom
    by_cases hp : pos < s.size
    · rw [if_pos hp, decode_dec s pos h1]
      have hd1 := segs_drop s.data.toList pos (by rw [size_list]; exact hp)
      have hd2 := next_le s.data.toList pos (by rw [size_list]; exact hp)
      have hd3 := dec_pos (s.data.toList.drop pos)
      rw [size_list] at hd2
      simp only
      rw [runesFrom_segs s f _ _ hd2 (by omega)]
      unfold runesOf runeCells'
      rw [hd1]
      simp
    · rw [if_neg hp, List.drop_of_length_le (by rw [size_list]; omega)]
      simp [runesOf, runeCells', segs_nil]
theorem runesFrom_all (s : ByteArray) : Conv.runesFrom s s.size 0 #[] = (runeCells' (runesOf s.data.toList)).toArray := by
  rw [runesFrom_segs s s.size 0 #[] (Nat.zero_le _) (by omega)]
  simp

end Go.Proofs.YtjkakemlhhieoaaDoor

/- The program's package scan: numbers as a text; what the document says of a few texts (wakes). -/
namespace Go.Proofs.YtjkakemlhhieoaaDoor
open Go.RowKit Go.Lib

abbrev U8 (w : World) : Prop := Utf8Tabs 2 3 w

/-! ### the few texts -/
theorem c_next1 (w : World) (hT : U8 w) : Calls Tryd.prog 55 #[.string ⟨#[228, 184]⟩] w fun e w' => e = .returned (.tuple #[.int .i32 65533, .int .i64 1]) ∧ Below w.heap.size w w' := next_any ⟨#[228, 184]⟩ w hT
theorem c_next2 (w : World) (hT : U8 w) : Calls Tryd.prog 55 #[.string ⟨#[239, 191, 189]⟩] w fun e w' => e = .returned (.tuple #[.int .i32 65533, .int .i64 3]) ∧ Below w.heap.size w w' := next_any ⟨#[239, 191, 189]⟩ w hT
theorem c_last (w : World) (hT : U8 w) : Calls Tryd.prog 54 #[.string ⟨#[97, 195, 169]⟩] w fun e w' => e = .returned (.tuple #[.int .i32 233, .int .i64 2]) ∧ Below w.heap.size w w' := by
  have h := last_any ⟨#[97, 195, 169]⟩ w (by decide) hT
  have e : decodeLastL (⟨#[97, 195, 169]⟩ : ByteArray).data.toList = (233, 2) := by decide
  rw [e] at h
  exact h
end Go.Proofs.YtjkakemlhhieoaaDoor
