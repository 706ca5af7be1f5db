/- The document's answer, its small parts: within, second, begins, number, Next. -/
import Derived.Test.YtjkakemlhhieoaaDoorRows
import Derived.Test.YtjkakemlhhieoaaDoorPure
import Derived.WalkKit
import Derived.Below
import Derived.Lib.Hide
import Derived.Lib.Strings
set_option linter.unusedSimpArgs false
set_option linter.unusedVariables false
namespace Go.Proofs.YtjkakemlhhieoaaDoor
open Go.RowKit Go.Lib

theorem gb_at (s : ByteArray) (k : Nat) (h : k < s.size) : (s[k]'h).toNat = gb s.data.toList k := by
  rw [← gets_gb]
  show _ = (s.get! k).toNat
  simp [ByteArray.get!, getElem!_pos, h]
  rfl

/-- the least and the greatest second byte, and how many bytes there are -/
def sec (c : Nat) : Nat × Nat × Nat :=
  if 194 ≤ c ∧ c ≤ 223 then (128, 191, 2) else if c = 224 then (160, 191, 3) else if c = 237 then (128, 159, 3) else if 225 ≤ c ∧ c ≤ 239 then (128, 191, 3)
  else if c = 240 then (144, 191, 4) else if 241 ≤ c ∧ c ≤ 243 then (128, 191, 4) else if c = 244 then (128, 143, 4) else (0, 0, 0)

/-- how many bytes go on from the k-th one -/
def runOn (l : List UInt8) (size : Nat) : Nat → Nat → Nat → Nat → Nat
  | 0, k, _, _ => k
  | f + 1, k, lo, hi => if k < size ∧ k < l.length ∧ lo ≤ gb l k ∧ gb l k ≤ hi then runOn l size f (k + 1) 128 191 else k
def beg (l : List UInt8) : Nat × Nat :=
  if l = [] then (0, 0) else if gb l 0 < 128 then (1, 1) else if (sec (gb l 0)).2.2 = 0 then (0, 0) else
    (runOn l (sec (gb l 0)).2.2 3 1 (sec (gb l 0)).1 (sec (gb l 0)).2.1, (sec (gb l 0)).2.2)
theorem sec_size (c : Nat) : (sec c).2.2 ≤ 4 ∧ (sec c).1 < 256 ∧ (sec c).2.1 < 256 := by
  unfold sec
  repeat' split
  all_goals simp
theorem list_ne (s : ByteArray) (h : 0 < s.size) : s.data.toList ≠ [] := by
  intro e
  have := size_list s
  rw [e] at this
  simp at this
  omega
theorem list_nil (s : ByteArray) (h : s.size = 0) : s.data.toList = [] := List.eq_nil_of_length_eq_zero (by rw [size_list]; exact h)

theorem empty_yes (s : ByteArray) (h : s.size = 0) : s.toList.isEmpty = true := by rw [toList_data, list_nil s h]; rfl
theorem empty_no (s : ByteArray) (h : 0 < s.size) : s.toList.isEmpty = false := by
  rw [toList_data]
  cases hl : s.data.toList with
  | nil => exact absurd hl (list_ne s h)
  | cons a b => rfl

end Go.Proofs.YtjkakemlhhieoaaDoor
