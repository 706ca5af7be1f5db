/- The document's answer: a text gone through, as a list; its last; its numbers; its bad bytes. -/
import Derived.Test.YtfegbfhkmdmheaaDoorRefCD
import Derived.Test.YtfegbfhkmdmheaaDoorScanG
import Derived.Test.YtfegbfhkmdmheaaDoorMem
import Derived.BigQuiet
import Derived.Deep.QuietTactic
import Derived.Test.YtfegbfhkmdmheaaDoorNumP
import Derived.IntWalk
set_option linter.unusedSimpArgs false
set_option linter.unusedVariables false
namespace Go.Proofs.YtfegbfhkmdmheaaDoor
open Go.RowKit Go.Lib

def one (at_ : Nat) (d : Nat × Nat) : List Value := [.int .i64 at_, .int .i32 d.1, .int .i64 d.2, .bool (badSeg d)]
def wsum : List (Nat × Nat) → Nat
  | [] => 0
  | d :: xs => d.2 + wsum xs
def ones : Nat → List (Nat × Nat) → List Value
  | _, [] => []
  | p, d :: xs => one p d ++ ones (p + d.2) xs
theorem wsum_snoc (xs : List (Nat × Nat)) (d : Nat × Nat) : wsum (xs ++ [d]) = wsum xs + d.2 := by
  induction xs with
  | nil => simp [wsum]
  | cons a t ih => simp [wsum, ih, Nat.add_assoc]
theorem ones_snoc (xs : List (Nat × Nat)) (d : Nat × Nat) : ∀ p, ones p (xs ++ [d]) = ones p xs ++ one (p + wsum xs) d := by
  induction xs with
  | nil => intro p; simp [ones, wsum]
  | cons a t ih => intro p; simp [ones, wsum, ih, Nat.add_assoc]
theorem ones_len (xs : List (Nat × Nat)) : ∀ p, (ones p xs).length = xs.length * 4 := by
  induction xs with
  | nil => intro p; rfl
  | cons a t ih => intro p; simp [ones, one, ih]; omega
theorem ones_at (xs : List (Nat × Nat)) : ∀ (p k : Nat) (h : k < xs.length), (ones p xs)[4 * k]? = some (.int .i64 ((p + wsum (xs.take k) : Nat) : Int)) ∧ (ones p xs)[4 * k + 1]? = some (.int .i32 (xs[k].1 : Int)) ∧
    (ones p xs)[4 * k + 2]? = some (.int .i64 (xs[k].2 : Int)) ∧ (ones p xs)[4 * k + 3]? = some (.bool (badSeg xs[k])) := by
  induction xs with
  | nil => intro p k h; simp at h
  | cons a t ih =>
    intro p k h
    cases k with
    | zero => simp [ones, one, wsum]
    | succ k =>
      obtain ⟨h1, h2, h3, h4⟩ := ih (p + a.2) k (by simpa using h)
      have e : ∀ j, (ones p (a :: t))[4 * (k + 1) + j]? = (ones (p + a.2) t)[4 * k + j]? := by
        intro j
        have hl : (one p a).length = 4 := rfl
        show (one p a ++ ones (p + a.2) t)[4 * (k + 1) + j]? = _
        rw [List.getElem?_append_right (by rw [hl]; omega), hl]
        congr 1
        omega
      have e0 := e 0
      simp only [Nat.add_zero] at e0
      refine ⟨?_, ?_, ?_, ?_⟩
      · rw [e0, h1]; simp [wsum, Nat.add_assoc]
      · rw [e 1, h2]; simp
      · rw [e 2, h3]; simp
      · rw [e 3, h4]; simp
theorem wsum_segs (l : List UInt8) : wsum (segs l) = l.length := by
  induction l using walk_ind with
  | h0 => rfl
  | h1 l h ih =>
    have := dec_le l h
    rw [segs_cons l h]
    simp only [wsum, ih, List.length_drop]
    omega

theorem rune_info : (Tryd.prog.info? 21).map (fun i => (i.zero, i.size, i.bytes)) = some (some (.int .i32 0), 1, 4) := by kernel_rfl
theorem int_info : (Tryd.prog.info? 3).map (fun i => (i.zero, i.size, i.bytes)) = some (some (.int .i64 0), 1, 8) := by kernel_rfl

def small (s : ByteArray) : Prop := s.size ≤ 1073741824

end Go.Proofs.YtfegbfhkmdmheaaDoor

/- The document's answer: numbers as a text. -/
namespace Go.Proofs.YtfegbfhkmdmheaaDoor
open Go.RowKit Go.Lib

theorem byte_info : (Tryd.prog.info? 5).map (fun i => (i.zero, i.size, i.bytes)) = some (some (.int .u8 0), 1, 1) := by kernel_rfl
def byteCells' (l : List UInt8) : List Value := l.map fun (b : UInt8) => Value.int .u8 (b.toNat : Int)

def PutAt (base n : Nat) (xs : List Value) (c : Nat) (w : World) (e : Ending) (w' : World) : Prop :=
  ∃ v', e = .returned v' ∧ w'.ownsRow base 5 1 v' (n + (encN c).length) (xs ++ byteCells' (encN c)) ∧ Below base w w'

theorem byteCells_app (a b : List UInt8) : byteCells' (a ++ b) = byteCells' a ++ byteCells' b := by simp [byteCells']
theorem encAll_app (xs ys : List Int) : encAll (xs ++ ys) = encAll xs ++ encAll ys := by
  induction xs with
  | nil => rfl
  | cons x xs ih => rw [List.cons_append, encAll_cons, encAll_cons, ih, List.append_assoc]
theorem encAll_snoc (xs : List Int) (z : Int) : encAll (xs ++ [z]) = encAll xs ++ encN (clean z) := by
  rw [encAll_app, encAll_cons, encAll_nil, List.append_nil, enc_encN]
theorem encAll_len (xs : List Int) : (encAll xs).length ≤ 4 * xs.length := by
  have := runesBytes_size_le xs
  rw [← size_list] at this
  exact this

end Go.Proofs.YtfegbfhkmdmheaaDoor

/- The document's answer: the last of a text. -/
namespace Go.Proofs.YtfegbfhkmdmheaaDoor
open Go.RowKit Go.Lib

theorem last_getLast (l : List UInt8) (h : l ≠ []) : ∃ P d, segs l = P ++ [d] ∧ decodeLastL l = d := ⟨_, _, decodeLast_segs l h, rfl⟩

end Go.Proofs.YtfegbfhkmdmheaaDoor
