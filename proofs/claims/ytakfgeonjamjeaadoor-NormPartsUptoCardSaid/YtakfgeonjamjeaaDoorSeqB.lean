/- Ranging over scan.Back: the iterator's contract. -/
import Derived.Test.YtakfgeonjamjeaaDoorSeqA
import Derived.Test.YtakfgeonjamjeaaDoorScanG
namespace Go.Proofs.YtakfgeonjamjeaaDoor
open Go.RowKit Go.Shelf Go.Lib
attribute [local go_sem] Oper.semAt_some

/-- places out of sizes -/
def offs : Nat → List (Nat × Nat) → List (Nat × Nat)
  | _, [] => []
  | p, x :: t => (p, x.1) :: offs (p + x.2) t
def total (l : List (Nat × Nat)) : Nat := (l.map (·.2)).sum
theorem offs_append : ∀ (a b : List (Nat × Nat)) (p : Nat), offs p (a ++ b) = offs p a ++ offs (p + total a) b
  | [], b, p => by simp [offs, total]
  | x :: a, b, p => by
    rw [List.cons_append, offs, offs, offs_append a b, List.cons_append]
    simp [total, Nat.add_assoc]
theorem total_append (a b : List (Nat × Nat)) : total (a ++ b) = total a + total b := by simp [total]
theorem total_segs : ∀ l : List UInt8, total (segs l) = l.length := walk_ind (by simp [segs_nil, total]) fun l h ih => by
  rw [segs_cons l h]
  have := dec_le l h
  simp only [total, List.map_cons, List.sum_cons] at ih ⊢
  rw [ih, List.length_drop]
  omega
theorem placesF_offs (s : ByteArray) : ∀ (f p : Nat), s.size - p ≤ f → p ≤ s.size → placesF s f p = offs p (segs (s.data.toList.drop p))
  | 0, p, h, hp => by
    rw [placesF_end s 0 p (by omega), List.drop_of_length_le (by rw [size_list]; omega)]
    rfl
  | f + 1, p, h, hp => by
    by_cases hlt : p < s.size
    · have hd := decode_dec s p hp
      have hne : s.data.toList.drop p ≠ [] := by
        intro e
        have := congrArg List.length e
        rw [List.length_drop, size_list] at this
        simp at this
        omega
      have hpos := decode_pos s p
      have hle := dec_le _ hne
      rw [← hd, List.length_drop, size_list] at hle
      unfold placesF
      rw [if_pos hlt, placesF_offs s f _ (by omega) (by omega), segs_cons _ hne, ← hd, List.drop_drop]
      rfl
    · rw [placesF_end s _ p hlt, List.drop_of_length_le (by rw [size_list]; omega)]
      rfl
theorem places_offs (s : ByteArray) : places s = offs 0 (segs s.data.toList) := placesF_offs s s.size 0 (by omega) (Nat.zero_le _)
theorem last_size (l : List UInt8) (h : l ≠ []) : 0 < (decodeLastL l).2 ∧ (decodeLastL l).2 ≤ l.length := by
  have hs := decodeLast_segs l h
  have ht := congrArg total hs
  rw [total_append, total_segs, total_segs, List.length_take] at ht
  simp only [total, List.map_cons, List.map_nil, List.sum_cons, List.sum_nil, Nat.add_zero] at ht
  have hne : 0 < l.length := by cases l with | nil => exact absurd rfl h | cons => simp
  constructor
  · rcases Nat.eq_zero_or_pos (decodeLastL l).2 with h0 | h0
    · rw [h0] at hs
      have := congrArg List.length hs
      rw [Nat.sub_zero, List.take_length] at this
      simp at this
    · exact h0
  · omega
theorem back_step (l : List UInt8) (at' : Nat) (h0 : 0 < at') (hl : at' ≤ l.length) : 0 < (decodeLastL (l.take at')).2 ∧ (decodeLastL (l.take at')).2 ≤ at' ∧
    offs 0 (segs (l.take at')) = offs 0 (segs (l.take (at' - (decodeLastL (l.take at')).2))) ++ [(at' - (decodeLastL (l.take at')).2, (decodeLastL (l.take at')).1)] := by
  have hlen : (l.take at').length = at' := by rw [List.length_take]; omega
  have hne : l.take at' ≠ [] := by intro e; rw [e] at hlen; simp at hlen; omega
  obtain ⟨h1, h2⟩ := last_size _ hne
  rw [hlen] at h2
  refine ⟨h1, h2, ?_⟩
  have hs := decodeLast_segs _ hne
  rw [hlen, List.take_take, Nat.min_eq_left (by omega)] at hs
  conv => lhs; rw [hs]
  rw [offs_append, total_segs, List.length_take, Nat.min_eq_left (by omega), Nat.zero_add]
  rfl

end Go.Proofs.YtakfgeonjamjeaaDoor
