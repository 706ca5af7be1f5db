/- A few contracts, said of what the calls answer. -/
import Derived.Test.YtfegbfhkmdmheaaDoorParts
import Derived.Test.YtfegbfhkmdmheaaDoorScanE
set_option linter.unusedSimpArgs false
set_option linter.unusedVariables false
namespace Go.Proofs.YtfegbfhkmdmheaaDoor
open Go.RowKit Go.Lib

/-- the numbers of a text, as a contract over lists of integers -/
theorem runes_zs (s : ByteArray) (zs : List Int) (h : zsOf s.data.toList = zs) (hs : zs.length ≤ 70368744177664) (w : World) : Calls Tryd.prog 31 #[.string s] w fun e w' =>
    ∃ g c : Nat, e = .returned (.slice (some ⟨g, 0, none⟩) zs.length c) ∧ w'.ownsRow w.heap.size 21 1 (.slice (some ⟨g, 0, none⟩) zs.length c) zs.length (zs.map (Value.int .i32)) ∧ Below w.heap.size w w' := by
  subst h
  have hl : (runesOf s.data.toList).length = (zsOf s.data.toList).length := by simp [zsOf]
  have := runes_some s w (by rw [hl]; exact hs)
  rw [hl, zsOf_cells] at this
  exact this
theorem valid_eq (s : ByteArray) (b : Bool) (h : okSegs s.data.toList = b) (hs : s.size ≤ 281474976710656) (w : World) : Calls Tryd.prog 33 #[.string s] w fun e w' => e = .returned (.bool b) ∧ Below w.heap.size w w' := by
  subst h
  exact valid_any s w hs
theorem count_eq (s : ByteArray) (n : Nat) (h : (segs s.data.toList).length = n) (hs : s.size ≤ 281474976710656) (w : World) : Calls Tryd.prog 34 #[.string s] w fun e w' => e = .returned (.int .i64 n) ∧ Below w.heap.size w w' := by
  subst h
  exact count_any s w hs
end Go.Proofs.YtfegbfhkmdmheaaDoor
