/- A row that is written over and grown beside others: what stays. -/
import Derived.Test.YtjkakemlhhieoaaGreatDoorSame4
import Derived.Laws.OwnMore
import Derived.Maps.AppendAt
set_option linter.unusedSimpArgs false
set_option linter.unusedVariables false
namespace Go.Proofs.YtjkakemlhhieoaaGreatDoor
open Go.RowKit Go.Lib

/-- an own row whose block lies from lo on and below hi -/
def Lies4 (W : World) (lo hi : Nat) (v : Value) (n : Nat) (xs : List Value) : Prop := W.ownsRow lo 21 1 v n xs ∧ ∀ k, v.ownBlock = some k → lo ≤ k ∧ k < hi
theorem Lies4.mk' {W : World} {lo : Nat} {v : Value} {n : Nat} {xs : List Value} (h : W.ownsRow lo 21 1 v n xs) : Lies4 W lo W.heap.size v n xs := ⟨h, fun k hk => h.lt k hk⟩
theorem Lies4.below {W W' : World} {lo hi : Nat} {v : Value} {n : Nat} {xs : List Value} (h : Lies4 W lo hi v n xs) (hb : Below W.heap.size W W') : Lies4 W' lo hi v n xs := ⟨own_below h.1 hb, h.2⟩
theorem Lies4.kept {W W' : World} {lo hi : Nat} {v : Value} {n : Nat} {xs : List Value} {row : Option Nat} (h : Lies4 W lo hi v n xs) (hg : W.grownBy W' row) (hr : ∀ k, row = some k → k < lo ∨ hi ≤ k) : Lies4 W' lo hi v n xs := by
  refine ⟨h.1.kept hg ?_, h.2⟩
  cases e : v.ownBlock with
  | none => exact .inl rfl
  | some k =>
    refine .inr fun e' => ?_
    have h1 := h.2 k e
    have h2 := hr k e'.symm
    omega
theorem Lies4.alloc {W : World} {lo hi : Nat} {v : Value} {n : Nat} {xs : List Value} (h : Lies4 W lo hi v n xs) (o : Obj) : Lies4 (W.alloc o) lo hi v n xs := ⟨h.1.alloc o, h.2⟩
theorem Lies4.rd {W : World} {lo hi n c : Nat} {A : Option Addr} {xs : List Value} (h : Lies4 W lo hi (.slice A n c) n xs) : Rd W W.heap.size 1 A n xs := Rd.own h.1
theorem alloc_grown (W : World) (o : Obj) : W.grownBy (W.alloc o) none := ⟨rfl, rfl, rfl, by simp, fun k hk _ => Below.heap_alloc W o k hk⟩
end Go.Proofs.YtjkakemlhhieoaaGreatDoor
