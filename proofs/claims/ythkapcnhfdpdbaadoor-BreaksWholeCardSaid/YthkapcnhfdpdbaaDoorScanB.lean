/- The program's package scan: whether valid; the numbers of a text; numbers as a text. -/
import Derived.Test.YthkapcnhfdpdbaaDoorScanA
import Derived.Laws.Cover4
import Derived.Laws.IdiomStrings
import Derived.Deep.Draws
import Derived.Laws.OwnMore
set_option linter.unusedSimpArgs false
set_option linter.unusedVariables false
namespace Go.Proofs.YthkapcnhfdpdbaaDoor
open Go.RowKit Go.Lib

def badSeg (d : Nat × Nat) : Bool := decide (d.2 = 1) && decide (d.1 = 65533)
def okSegs (l : List UInt8) : Bool := (segs l).all fun d => !badSeg d

theorem prefix3 (l : List UInt8) : hasPrefix l [239, 191, 189] = decide (3 ≤ l.length ∧ gb l 0 = 239 ∧ gb l 1 = 191 ∧ gb l 2 = 189) := by
  unfold hasPrefix gb
  match l with
  | [] => rfl
  | [a] => simp [List.isPrefixOf]
  | [a, b] => simp [List.isPrefixOf]
  | a :: b :: c :: t =>
    have e : ∀ (x : UInt8) (n : Nat) (hn : n < 256), (UInt8.ofNat n == x) = decide (x.toNat = n) := by
      intro x n hn
      apply Bool.eq_iff_iff.2
      simp only [beq_iff_eq, decide_eq_true_eq]
      constructor
      · intro h; subst h; simp; omega
      · intro h; subst h; simp
    have h1 := e a 239 (by omega)
    have h2 := e b 191 (by omega)
    have h3 := e c 189 (by omega)
    simp only [List.isPrefixOf, Bool.and_true]
    show ((UInt8.ofNat 239 == a) && ((UInt8.ofNat 191 == b) && (UInt8.ofNat 189 == c))) = _
    rw [h1, h2, h3]
    simp
theorem dec_fffd (l : List UInt8) (h : l ≠ []) (hr : (dec l).1 = 65533) : ((dec l).2 = 1 ∧ ¬ (3 ≤ l.length ∧ gb l 0 = 239 ∧ gb l 1 = 191 ∧ gb l 2 = 189)) ∨ ((dec l).2 = 3 ∧ (3 ≤ l.length ∧ gb l 0 = 239 ∧ gb l 1 = 191 ∧ gb l 2 = 189)) := by
  have h0 := gb_lt l 0
  have h1 := gb_lt l 1
  have h2 := gb_lt l 2
  have h3 := gb_lt l 3
  by_cases hp : 3 ≤ l.length ∧ gb l 0 = 239 ∧ gb l 1 = 191 ∧ gb l 2 = 189
  · refine .inr ⟨?_, hp⟩
    obtain ⟨a, b, c, d⟩ := hp
    have e1 : 1 < l.length := by omega
    have e2 : 2 < l.length := by omega
    simp [dec, decodeN, b, c, d, e1, e2]
  · refine .inl ⟨?_, hp⟩
    have key : ∀ x : Nat × Nat, dec l = x → x.1 = 65533 → x.2 = 1 := by
      intro x hx
      rw [← hx]
      clear hx hr
      unfold dec decodeN
      repeat' split
      all_goals (intro hr; first | rfl | (exfalso; revert hr; simp only; omega))
    exact key _ rfl hr
theorem badB_dec (l : List UInt8) (h : l ≠ []) : badB l (dec l).1 = badSeg (dec l) := by
  unfold badB badSeg
  rw [prefix3]
  by_cases hr : (dec l).1 = 65533
  · rcases dec_fffd l h hr with ⟨a, b⟩ | ⟨a, b⟩
    · simp [hr, a]; omega
    · simp [hr, a]; omega
  · simp [hr]

/-! ### numbers -/
def runeCells' (rs : List Nat) : List Value := rs.map fun (r : Nat) => Value.int .i32 (r : Int)
def runesOf (l : List UInt8) : List Nat := (segs l).map (·.1)

theorem runesFrom_segs (s : ByteArray) : ∀ (f pos : Nat) (acc : Array Value), pos ≤ s.size → s.size ≤ pos + f → Conv.runesFrom s f pos acc = acc ++ (runeCells' (runesOf (s.data.toList.drop pos))).toArray
  | 0, pos, acc, h1, h2 => by
    rw [List.drop_of_length_le (by rw [size_list]; omega)]
    simp [Conv.runesFrom, runesOf, runeCells', segs_nil]
  | f + 1, pos, acc, h1, h2 => by
    unfold Conv.runesFrom
    by_cases hp : pos < s.size
    · rw [if_pos hp, decode_dec s pos h1]
      have hd1 := segs_drop s.data.toList pos (by rw [size_list]; exact hp)
      have hd2 := next_le s.data.toList pos (by rw [size_list]; exact hp)
      have hd3 := dec_pos (s.data.toList.drop pos)
      rw [size_list] at hd2
      simp only
      rw [runesFrom_segs s f _ _ hd2 (by omega)]
      unfold runesOf runeCells'
      rw [hd1]
      simp
    · rw [if_neg hp, List.drop_of_length_le (by rw [size_list]; omega)]
      simp [runesOf, runeCells', segs_nil]
theorem runesFrom_all (s : ByteArray) : Conv.runesFrom s s.size 0 #[] = (runeCells' (runesOf s.data.toList)).toArray := by
  rw [runesFrom_segs s s.size 0 #[] (Nat.zero_le _) (by omega)]
  simp

end Go.Proofs.YthkapcnhfdpdbaaDoor
