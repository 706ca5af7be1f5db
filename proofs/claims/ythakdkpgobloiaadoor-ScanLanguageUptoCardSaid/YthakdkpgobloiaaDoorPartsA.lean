/- A few contracts, said of what the calls answer. -/
import Derived.Test.YthakdkpgobloiaaDoorParts
import Derived.Test.YthakdkpgobloiaaDoorScanE
namespace Go.Proofs.YthakdkpgobloiaaDoor
open Go.RowKit Go.Lib

/-- the numbers of a text, as a contract over lists of integers -/
theorem runes_zs (s : ByteArray) (zs : List Int) (h : zsOf s.data.toList = zs) (hs : zs.length ≤ 70368744177664) (w : World) : Calls Tryd.prog 24 #[.string s] w fun e w' =>
    ∃ g c : Nat, e = .returned (.slice (some ⟨g, 0, none⟩) zs.length c) ∧ w'.ownsRow w.heap.size 21 1 (.slice (some ⟨g, 0, none⟩) zs.length c) zs.length (zs.map (Value.int .i32)) ∧ Below w.heap.size w w' := by
  subst h
  have hl : (runesOf s.data.toList).length = (zsOf s.data.toList).length := by simp [zsOf]
  have := runes_some s w (by rw [hl]; exact hs)
  rw [hl, zsOf_cells] at this
  exact this
theorem valid_eq (s : ByteArray) (b : Bool) (h : okSegs s.data.toList = b) (hs : s.size ≤ 281474976710656) (w : World) : Calls Tryd.prog 27 #[.string s] w fun e w' => e = .returned (.bool b) ∧ Below w.heap.size w w' := by
  subst h
  exact valid_any s w hs
theorem clean_eq (s T : ByteArray) (h : cleanL s.data.toList = T) (hs : (segs s.data.toList).length ≤ 70368744177664) (w : World) : Calls Tryd.prog 29 #[.string s] w fun e w' => e = .returned (.string T) ∧ Below w.heap.size w w' := by
  subst h
  exact clean_any s w (by rw [runesOf_len]; exact hs)
theorem count_eq (s : ByteArray) (n : Nat) (h : (segs s.data.toList).length = n) (hs : s.size ≤ 281474976710656) (w : World) : Calls Tryd.prog 28 #[.string s] w fun e w' => e = .returned (.int .i64 n) ∧ Below w.heap.size w w' := by
  subst h
  exact count_any s w hs
theorem bad_eq' (s : ByteArray) (m : Nat) (h : (badsOf s.data.toList).length = m) (hs : s.size ≤ 1073741824) (w : World) : Calls Tryd.prog 23 #[.string s] w fun e w' =>
    ∃ A c, e = .returned (.slice A m c) ∧ Below w.heap.size w w' := by
  subst h
  refine (bad_any s w hs).mono ?_
  rintro e w' ⟨v, rfl, hown, hb⟩
  obtain ⟨A, c, rfl, _, _⟩ := own_shape hown
  exact ⟨A, c, rfl, hb⟩
end Go.Proofs.YthakdkpgobloiaaDoor
