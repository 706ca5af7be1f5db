/- The first cluster by roles; the step take, by the number of what is taken. -/
import Derived.Test.YthkapcnhfdpdbaaDoorTake
import Derived.Test.YthkapcnhfdpdbaaDoorBackP
set_option linter.unusedSimpArgs false
set_option linter.unusedVariables false
namespace Go.Proofs.YthkapcnhfdpdbaaDoor
open Go.RowKit Go.Lib

/-- how many characters and bad bytes -/
def chars (s : ByteArray) : Nat := (segs s.data.toList).length
/-- the role of the k-th one; 0: there is none -/
def roleAt (s : ByteArray) (k : Nat) : Nat := match (segs s.data.toList)[k]? with
  | some d => roleN d.1 d.2
  | none => 0
def syl (a b : Nat) : Bool := (a == 128 && (b == 128 || b == 256 || b == 1024 || b == 2048)) || ((a == 256 || a == 1024) && (b == 256 || b == 512)) || ((a == 512 || a == 2048) && b == 512)
/-- does the k-th one go on with the cluster that the 0th one begins? -/
def goesOn (s : ByteArray) (k : Nat) : Bool := roleAt s k == 8 || roleAt s k == 16 || (k == 1 && roleAt s 0 == 32 && roleAt s k == 32) || (roleAt s (k - 1) == 16 && roleAt s k == 64 && roleAt s 0 == 64) || syl (roleAt s (k - 1)) (roleAt s k)
structure Runs (s : ByteArray) (n : Nat) : Prop where
  pos : 1 ≤ n
  le : n ≤ chars s
  most : n ≤ 32
  on : ∀ i, 1 ≤ i → i < n → goesOn s i = true
def Stops (s : ByteArray) (n : Nat) : Prop := n = chars s ∨ n = 32 ∨ goesOn s n = false
/-- the first cluster's number of characters -/
inductive First (s : ByteArray) : Nat → Prop
  | none : chars s = 0 → First s 0
  | alone : roleAt s 0 = 1 ∨ roleAt s 0 = 4 → First s 1
  | line : roleAt s 0 = 2 → roleAt s 1 = 4 → First s 2
  | cr : roleAt s 0 = 2 → roleAt s 1 ≠ 4 → First s 1
  | run (n : Nat) : roleAt s 0 ≠ 1 → roleAt s 0 ≠ 2 → roleAt s 0 ≠ 4 → Runs s n → Stops s n → First s n
theorem runs_unique {s : ByteArray} {a b : Nat} (ha : Runs s a) (sa : Stops s a) (hb : Runs s b) (sb : Stops s b) : a = b := by
  rcases Nat.lt_trichotomy a b with h | h | h
  · have hx := hb.on a ha.pos h
    have := hb.le
    have := hb.most
    rcases sa with h1 | h1 | h1
    · omega
    · omega
    · rw [h1] at hx; cases hx
  · exact h
  · have hx := ha.on b hb.pos h
    have := ha.le
    have := ha.most
    rcases sb with h1 | h1 | h1
    · omega
    · omega
    · rw [h1] at hx; cases hx
theorem roleAt_none {s : ByteArray} {k : Nat} (h : chars s ≤ k) : roleAt s k = 0 := by
  unfold roleAt
  rw [List.getElem?_eq_none h]
theorem role_one (r z : Nat) : roleN r z = 1 ∨ roleN r z = 2 ∨ roleN r z = 4 ∨ roleN r z = 8 ∨ roleN r z = 16 ∨ roleN r z = 32 ∨ roleN r z = 64 ∨ roleN r z = 128 ∨ roleN r z = 256 ∨ roleN r z = 512 ∨ roleN r z = 1024 ∨ roleN r z = 2048 ∨ roleN r z = 4096 := by
  unfold roleN
  by_cases h1 : r = 65533 ∧ z = 1
  · rw [if_pos h1]; simp
  rw [if_neg h1]
  by_cases h2 : r = 13
  · rw [if_pos h2]; simp
  rw [if_neg h2]
  by_cases h3 : r = 10
  · rw [if_pos h3]; simp
  rw [if_neg h3]
  by_cases h4 : r = 8204
  · rw [if_pos h4]; simp
  rw [if_neg h4]
  by_cases h5 : r = 8205
  · rw [if_pos h5]; simp
  rw [if_neg h5]
  by_cases h6 : r = 8232 ∨ r = 8233
  · rw [if_pos h6]; simp
  rw [if_neg h6]
  by_cases h7 : 127462 ≤ r ∧ r ≤ 127487
  · rw [if_pos h7]; simp
  rw [if_neg h7]
  by_cases h8 : 4352 ≤ r ∧ r ≤ 4607
  · rw [if_pos h8]
    repeat' split
    all_goals simp
  rw [if_neg h8]
  by_cases h9 : 44032 ≤ r ∧ r ≤ 55203
  · rw [if_pos h9]
    repeat' split
    all_goals simp
  rw [if_neg h9]
  unfold kindRole
  repeat' split
  all_goals simp
theorem roleAt_one {s : ByteArray} {k : Nat} (h : k < chars s) : roleAt s k = 1 ∨ roleAt s k = 2 ∨ roleAt s k = 4 ∨ roleAt s k = 8 ∨ roleAt s k = 16 ∨ roleAt s k = 32 ∨ roleAt s k = 64 ∨ roleAt s k = 128 ∨ roleAt s k = 256 ∨ roleAt s k = 512 ∨ roleAt s k = 1024 ∨ roleAt s k = 2048 ∨ roleAt s k = 4096 := by
  unfold roleAt
  rw [List.getElem?_eq_getElem h]
  exact role_one _ _
/-- what take tells -/
def tk (s : ByteArray) (k wanted : Nat) : Nat := if k < chars s ∧ k < 32 then roleAt s k &&& wanted else 0
theorem placeAt_le (s : ByteArray) (k : Nat) : placeAt s k ≤ s.size := by
  have h1 := total_append ((segs s.data.toList).take k) ((segs s.data.toList).drop k)
  rw [List.take_append_drop, total_segs, size_list] at h1
  unfold placeAt
  omega
theorem nxt_at {s : ByteArray} {k : Nat} (h : k < chars s) : (segs s.data.toList)[k]? = some (nxt (s.data.toList.drop (placeAt s k))) ∧ placeAt s k + (nxt (s.data.toList.drop (placeAt s k))).2 = placeAt s (k + 1) ∧ (nxt (s.data.toList.drop (placeAt s k))).2 ≠ 0 ∧ (nxt (s.data.toList.drop (placeAt s k))).2 ≤ 4 := by
  obtain ⟨_, h2, h3⟩ := segs_at s.data.toList k h
  have hne : s.data.toList.drop (placeAt s k) ≠ [] := drop_ne _ _ h3
  have hn : nxt (s.data.toList.drop (placeAt s k)) = dec (s.data.toList.drop (placeAt s k)) := by unfold nxt; rw [if_neg hne]
  rw [hn]
  refine ⟨h2, ?_, by have := dec_pos (s.data.toList.drop (placeAt s k)); omega, dec_le4 _ hne⟩
  unfold placeAt at *
  rw [List.take_add_one, h2, total_append]
  simp [total]
theorem nxt_end {s : ByteArray} {k : Nat} (h : chars s ≤ k) : (nxt (s.data.toList.drop (placeAt s k))).2 = 0 := by
  have : placeAt s k = s.data.toList.length := by
    unfold placeAt
    rw [List.take_of_length_le h, total_segs]
  rw [this, List.drop_length]
  rfl
theorem and_roles (wanted : Nat) (hw : wanted = 8191 ∨ wanted = 4 ∨ wanted = 24 ∨ wanted = 88 ∨ wanted = 32 ∨ wanted = 3456 ∨ wanted = 768 ∨ wanted = 512) (r z : Nat) : bits .and .u16 (roleN r z : Nat) (wanted : Nat) = ((roleN r z &&& wanted : Nat) : Int) := by
  rcases role_one r z with h | h | h | h | h | h | h | h | h | h | h | h | h <;> rw [h] <;> rcases hw with h | h | h | h | h | h | h | h <;> rw [h] <;> decide
theorem takeK (s : ByteArray) (g k wanted : Nat) (W : World) (hR : Rdr W g s (placeAt s k) k) (hT : Utf8Tabs 0 1 W) (hm : s.size ≤ 140737488351232) (hk : k ≤ chars s) (hk2 : k ≤ 32)
    (hw : wanted = 8191 ∨ wanted = 4 ∨ wanted = 24 ∨ wanted = 88 ∨ wanted = 32 ∨ wanted = 3456 ∨ wanted = 768 ∨ wanted = 512) :
    Calls Tryd.prog 62 #[.pointer (some ⟨g, 0, none⟩), .int .u16 (wanted : Int)] W fun e w' => e = .returned (.int .u16 (tk s k wanted : Nat)) ∧
      (tk s k wanted = 0 → Below W.heap.size W w') ∧ (tk s k wanted ≠ 0 → Rdr w' g s (placeAt s (k + 1)) (k + 1) ∧ Moves (fun k => k = g) W w') := by
  by_cases h : k < chars s
  · obtain ⟨h1, h2, h3, h4⟩ := nxt_at h
    have hra : roleAt s k = roleN (nxt (s.data.toList.drop (placeAt s k))).1 (nxt (s.data.toList.drop (placeAt s k))).2 := by
      unfold roleAt
      rw [h1]
    rw [← h2]
    refine take_any s g (placeAt s k) k wanted (tk s k wanted) W hR hT (placeAt_le s k) hm hk2 ?_ h4
    unfold tk
    by_cases h32 : k < 32
    · right
      refine ⟨h3, by omega, ?_⟩
      rw [if_pos ⟨h, h32⟩, hra]
      exact and_roles wanted hw _ _
    · left
      exact ⟨.inr (by omega), by rw [if_neg (by omega)]⟩
  · have he := nxt_end (s := s) (k := k) (by omega)
    have h0 : tk s k wanted = 0 := by unfold tk; rw [if_neg (by omega)]
    refine (take_any s g (placeAt s k) k wanted (tk s k wanted) W hR hT (placeAt_le s k) hm hk2 (.inl ⟨.inl he, h0⟩) (by omega)).mono ?_
    rintro e w' ⟨e1, e2, _⟩
    exact ⟨e1, e2, fun h => absurd h0 h⟩
end Go.Proofs.YthkapcnhfdpdbaaDoor
