/- The program's package scan: the places of the bad bytes; a text made clean. -/
import Derived.Test.YtfegbfhkmdmheaaDoorScanG
import Derived.Test.YtfegbfhkmdmheaaDoorRefEG
import Derived.Test.YtfegbfhkmdmheaaDoorNumP
import Derived.Test.YtfegbfhkmdmheaaDoorMem
set_option linter.unusedSimpArgs false
set_option linter.unusedVariables false
namespace Go.Proofs.YtfegbfhkmdmheaaDoor
open Go.RowKit Go.Lib

def badPos : Nat → List (Nat × Nat) → List Nat
  | _, [] => []
  | p, d :: xs => (if badSeg d = true then [p] else []) ++ badPos (p + d.2) xs
def badsOf (l : List UInt8) : List Nat := badPos 0 (segs l)
def posCells (ps : List Nat) : List Value := ps.map fun (p : Nat) => Value.int .i64 (p : Int)

theorem own_iterAt {w : World} {base : Nat} {e : TypeId} {size : Nat} {v : Value} {n : Nat} {xs : List Value} (h : w.ownsRow base e size v n xs) {k : Nat} (hk : k < base) (s : ByteArray) (pos : Nat) : (w.iterAt k s pos).ownsRow base e size v n xs := by
  refine ⟨h.1, ?_⟩
  rcases h.2 with h0 | ⟨g, cap, cur, hv, hg, hh, r⟩
  · exact .inl h0
  · exact .inr ⟨g, cap, cur, hv, hg, (iterAt_other w k g s pos (by omega)).trans hh, r⟩
theorem iterPos_at {w : World} {k : Nat} {s : ByteArray} {p : Nat} (h : w.heap[k]? = some (.stringIter s p)) : w.iterPos k = p := by simp [World.iterPos, h]

def cleanL (l : List UInt8) : ByteArray := runesBytes ((runesOf l).map fun (r : Nat) => (r : Int))
end Go.Proofs.YtfegbfhkmdmheaaDoor
