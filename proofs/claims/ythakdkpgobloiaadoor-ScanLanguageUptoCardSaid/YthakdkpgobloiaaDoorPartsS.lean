/- Lists that are the same, in one word. -/
import Derived.Test.YthakdkpgobloiaaDoorSame
namespace Go.Proofs.YthakdkpgobloiaaDoor
open Go.RowKit Go.Lib
theorem same_yes (w : World) (X Y : Nat) (A B : Option Addr) (n c d : Nat) (xs : List Int) (hx : Rd w X 1 A n (xs.map (Value.int .i32))) (hy : Rd w Y 1 B n (xs.map (Value.int .i32))) (hn : n ≤ maxLen) :
    Calls Tryd.prog 45 #[.slice A n c, .slice B n d] w fun e w' => e = .returned (.bool true) ∧ Below w.heap.size w w' := by
  have := lawSame_any w X Y A B n n c d xs xs hx hy hn
  rw [show decide (xs = xs) = true by simp] at this
  exact this
end Go.Proofs.YthakdkpgobloiaaDoor
