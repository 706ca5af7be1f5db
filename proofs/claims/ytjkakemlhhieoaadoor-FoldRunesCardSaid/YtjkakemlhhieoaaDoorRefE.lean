/- The document's answer: a text gone through, as a list; its last; its numbers; its bad bytes. -/
import Derived.Test.YtjkakemlhhieoaaDoorRefCD
import Derived.Test.YtjkakemlhhieoaaDoorScanG
import Derived.Test.YtjkakemlhhieoaaDoorMem
import Derived.BigQuiet
import Derived.Deep.QuietTactic
set_option linter.unusedSimpArgs false
set_option linter.unusedVariables false
namespace Go.Proofs.YtjkakemlhhieoaaDoor
open Go.RowKit Go.Lib

def one (at_ : Nat) (d : Nat × Nat) : List Value := [.int .i64 at_, .int .i32 d.1, .int .i64 d.2, .bool (badSeg d)]
def wsum : List (Nat × Nat) → Nat
  | [] => 0
  | d :: xs => d.2 + wsum xs
def ones : Nat → List (Nat × Nat) → List Value
  | _, [] => []
  | p, d :: xs => one p d ++ ones (p + d.2) xs
theorem wsum_snoc (xs : List (Nat × Nat)) (d : Nat × Nat) : wsum (xs ++ [d]) = wsum xs + d.2 := by
  induction xs with
  | nil => simp [wsum]
  | cons a t ih => simp [wsum, ih, Nat.add_assoc]
theorem ones_snoc (xs : List (Nat × Nat)) (d : Nat × Nat) : ∀ p, ones p (xs ++ [d]) = ones p xs ++ one (p + wsum xs) d := by
  induction xs with
  | nil => intro p; simp [ones, wsum]
  | cons a t ih => intro p; simp [ones, wsum, ih, Nat.add_assoc]
theorem ones_len (xs : List (Nat × Nat)) : ∀ p, (ones p xs).length = xs.length * 4 := by
  induction xs with
  | nil => intro p; rfl
  | cons a t ih => intro p; simp [ones, one, ih]; omega
theorem ones_at (xs : List (Nat × Nat)) : ∀ (p k : Nat) (h : k < xs.length), (ones p xs)[4 * k]? = some (.int .i64 ((p + wsum (xs.take k) : Nat) : Int)) ∧ (ones p xs)[4 * k + 1]? = some (.int .i32 (xs[k].1 : Int)) ∧
    (ones p xs)[4 * k + 2]? = some (.int .i64 (xs[k].2 : Int)) ∧ (ones p xs)[4 * k + 3]? = some (.bool (badSeg xs[k])) := by
  induction xs with
  | nil => intro p k h; simp at h
  | cons a t ih =>
    intro p k h
    cases k with
    | zero => simp [ones, one, wsum]
    | succ k =>
      obtain ⟨h1, h2, h3, h4⟩ := ih (p + a.2) k (by simpa using h)
      have e : ∀ j, (ones p (a :: t))[4 * (k + 1) + j]? = (ones (p + a.2) t)[4 * k + j]? := by
        intro j
        have hl : (one p a).length = 4 := rfl
        show (one p a ++ ones (p + a.2) t)[4 * (k + 1) + j]? = _
        rw [List.getElem?_append_right (by rw [hl]; omega), hl]
        congr 1
        omega
      have e0 := e 0
      simp only [Nat.add_zero] at e0
      refine ⟨?_, ?_, ?_, ?_⟩
      · rw [e0, h1]; simp [wsum, Nat.add_assoc]
      · rw [e 1, h2]; simp
      · rw [e 2, h3]; simp
      · rw [e 3, h4]; simp
theorem wsum_segs (l : List UInt8) : wsum (segs l) = l.length := by
  induction l using walk_ind with
  | h0 => rfl
  | h1 l h ih =>
    have := dec_le l h
    rw [segs_cons l h]
    simp only [wsum, ih, List.length_drop]
    omega

theorem rune_info : (Tryd.prog.info? 21).map (fun i => (i.zero, i.size, i.bytes)) = some (some (.int .i32 0), 1, 4) := by kernel_rfl
theorem int_info : (Tryd.prog.info? 3).map (fun i => (i.zero, i.size, i.bytes)) = some (some (.int .i64 0), 1, 8) := by kernel_rfl

def small (s : ByteArray) : Prop := s.size ≤ 1073741824

end Go.Proofs.YtjkakemlhhieoaaDoor
