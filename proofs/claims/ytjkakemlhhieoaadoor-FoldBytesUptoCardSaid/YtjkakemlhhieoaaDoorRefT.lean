/- The document's answer: numbers as a text. -/
import Derived.Test.YtjkakemlhhieoaaDoorRefE
import Derived.Test.YtjkakemlhhieoaaDoorNumP
namespace Go.Proofs.YtjkakemlhhieoaaDoor
open Go.RowKit Go.Lib

theorem byte_info : (Tryd.prog.info? 5).map (fun i => (i.zero, i.size, i.bytes)) = some (some (.int .u8 0), 1, 1) := by kernel_rfl
def byteCells' (l : List UInt8) : List Value := l.map fun (b : UInt8) => Value.int .u8 (b.toNat : Int)

def PutAt (base n : Nat) (xs : List Value) (c : Nat) (w : World) (e : Ending) (w' : World) : Prop :=
  ∃ v', e = .returned v' ∧ w'.ownsRow base 5 1 v' (n + (encN c).length) (xs ++ byteCells' (encN c)) ∧ Below base w w'

theorem byteCells_app (a b : List UInt8) : byteCells' (a ++ b) = byteCells' a ++ byteCells' b := by simp [byteCells']
theorem encAll_app (xs ys : List Int) : encAll (xs ++ ys) = encAll xs ++ encAll ys := by
  induction xs with
  | nil => rfl
  | cons x xs ih => rw [List.cons_append, encAll_cons, encAll_cons, ih, List.append_assoc]
theorem encAll_snoc (xs : List Int) (z : Int) : encAll (xs ++ [z]) = encAll xs ++ encN (clean z) := by
  rw [encAll_app, encAll_cons, encAll_nil, List.append_nil, enc_encN]
theorem encAll_len (xs : List Int) : (encAll xs).length ≤ 4 * xs.length := by
  have := runesBytes_size_le xs
  rw [← size_list] at this
  exact this

end Go.Proofs.YtjkakemlhhieoaaDoor
