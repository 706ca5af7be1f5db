/- Plain Lean: numbers as a text, and back. -/
import Derived.Test.YtfegbfhkmdmheaaDoorPure
import Derived.Laws.Cover4
import Derived.Test.YtfegbfhkmdmheaaDoorRefCD
import Derived.Test.YtfegbfhkmdmheaaDoorScanG
import Derived.Test.YtfegbfhkmdmheaaDoorMem
import Derived.BigQuiet
import Derived.Deep.QuietTactic
set_option linter.unusedSimpArgs false
set_option linter.unusedVariables false
namespace Go.Proofs.YtfegbfhkmdmheaaDoor
open Go.Lib

def enc (n : Int) : List UInt8 := (Utf8.encode n).data.toList
def clean (n : Int) : Nat := if Utf8.valid n then n.toNat else 65533
def encAll (zs : List Int) : List UInt8 := (runesBytes zs).data.toList

theorem encAll_nil : encAll [] = [] := rfl
theorem foldl_enc (zs : List Int) : ∀ b : ByteArray, (zs.foldl (fun r n => r ++ Utf8.encode n) b).data.toList = b.data.toList ++ encAll zs := by
  induction zs with
  | nil => intro b; simp [encAll, runesBytes]
  | cons z zs ih =>
    intro b
    unfold encAll runesBytes
    simp only [List.foldl_cons]
    rw [ih, ih]
    simp [ByteArray.data_append]
theorem encAll_cons (z : Int) (zs : List Int) : encAll (z :: zs) = enc z ++ encAll zs := by
  unfold encAll runesBytes
  simp only [List.foldl_cons]
  rw [foldl_enc]
  simp [enc, encAll, runesBytes]

theorem clean_range (n : Int) : clean n < 55296 ∨ 57344 ≤ clean n ∧ clean n ≤ 1114111 := by
  unfold clean
  split
  · rename_i h
    unfold Utf8.valid at h
    simp at h
    omega
  · omega

def encN (c : Nat) : List UInt8 :=
  if c < 128 then [UInt8.ofNat c] else if c < 2048 then [UInt8.ofNat (192 + c / 64), UInt8.ofNat (128 + c % 64)]
  else if c < 65536 then [UInt8.ofNat (224 + c / 4096), UInt8.ofNat (128 + c / 64 % 64), UInt8.ofNat (128 + c % 64)]
  else [UInt8.ofNat (240 + c / 262144), UInt8.ofNat (128 + c / 4096 % 64), UInt8.ofNat (128 + c / 64 % 64), UInt8.ofNat (128 + c % 64)]
theorem enc_encN (n : Int) : enc n = encN (clean n) := by
  unfold enc Utf8.encode encN clean Utf8.runeError
  simp only
  repeat' split
  all_goals rfl
theorem encN_len (c : Nat) : (encN c).length = if c < 128 then 1 else if c < 2048 then 2 else if c < 65536 then 3 else 4 := by
  unfold encN
  repeat' split
  all_goals rfl
theorem nat8 (c : Nat) (h : c < 256) : (UInt8.ofNat c).toNat = c := by simp; omega

theorem gb_zero (a : UInt8) (t : List UInt8) : gb (a :: t) 0 = a.toNat := rfl
theorem gb_one (a b : UInt8) (t : List UInt8) : gb (a :: b :: t) 1 = b.toNat := rfl
theorem gb_two (a b c : UInt8) (t : List UInt8) : gb (a :: b :: c :: t) 2 = c.toNat := rfl
theorem gb_three (a b c d : UInt8) (t : List UInt8) : gb (a :: b :: c :: d :: t) 3 = d.toNat := rfl

theorem dec_encN (c : Nat) (hc : c < 55296 ∨ 57344 ≤ c ∧ c ≤ 1114111) (t : List UInt8) : dec (encN c ++ t) = (c, (encN c).length) := by
  rw [encN_len]
  unfold encN dec
  by_cases h1 : c < 128
  · rw [if_pos h1, if_pos h1]
    simp only [List.cons_append, List.nil_append, gb_zero]
    rw [nat8 c (by omega)]
    unfold decodeN
    rw [if_pos h1]
  · rw [if_neg h1, if_neg h1]
    by_cases h2 : c < 2048
    · rw [if_pos h2, if_pos h2]
      simp only [List.cons_append, List.nil_append, gb_zero, gb_one, gb_two, gb_three, List.length_cons]
      rw [nat8 _ (by omega), nat8 _ (by omega)]
      unfold decodeN
      rw [if_neg (by omega), if_pos (by omega), if_pos (by omega)]
      apply Prod.ext <;> simp only <;> omega
    · rw [if_neg h2, if_neg h2]
      by_cases h3 : c < 65536
      · rw [if_pos h3, if_pos h3]
        simp only [List.cons_append, List.nil_append, gb_zero, gb_one, gb_two, gb_three, List.length_cons]
        rw [nat8 _ (by omega), nat8 _ (by omega), nat8 _ (by omega)]
        unfold decodeN
        rw [if_neg (by omega), if_neg (by omega), if_pos (by omega), if_pos (by omega)]
        apply Prod.ext <;> simp only <;> omega
      · rw [if_neg h3, if_neg h3]
        simp only [List.cons_append, List.nil_append, gb_zero, gb_one, gb_two, gb_three, List.length_cons]
        rw [nat8 _ (by omega), nat8 _ (by omega), nat8 _ (by omega), nat8 _ (by omega)]
        unfold decodeN
        rw [if_neg (by omega), if_neg (by omega), if_neg (by omega), if_pos (by omega), if_pos (by omega)]
        apply Prod.ext <;> simp only <;> omega
theorem encN_ne (c : Nat) : encN c ≠ [] := by
  intro e
  have := congrArg List.length e
  rw [encN_len] at this
  simp at this
  repeat' split at this
  all_goals omega

/-- NUMBERS AS A TEXT, GONE THROUGH. -/
theorem segs_encAll (zs : List Int) : segs (encAll zs) = zs.map fun z => (clean z, (encN (clean z)).length) := by
  induction zs with
  | nil => rfl
  | cons z zs ih =>
    have hne : encN (clean z) ++ encAll zs ≠ [] := by simp [encN_ne]
    rw [encAll_cons, enc_encN, segs_cons _ hne, dec_encN _ (clean_range z)]
    simp [ih]

theorem encAll_ok (zs : List Int) : ∀ d ∈ segs (encAll zs), ¬ (d.2 = 1 ∧ d.1 = 65533) := by
  intro d hd
  rw [segs_encAll] at hd
  obtain ⟨z, _, rfl⟩ := List.mem_map.1 hd
  rintro ⟨h1, h2⟩
  simp only at h1 h2
  rw [encN_len, h2] at h1
  simp at h1

end Go.Proofs.YtfegbfhkmdmheaaDoor

/- The document's answer: a text gone through, as a list; its last; its numbers; its bad bytes. -/
namespace Go.Proofs.YtfegbfhkmdmheaaDoor
open Go.RowKit Go.Lib

def one (at_ : Nat) (d : Nat × Nat) : List Value := [.int .i64 at_, .int .i32 d.1, .int .i64 d.2, .bool (badSeg d)]
def wsum : List (Nat × Nat) → Nat
  | [] => 0
  | d :: xs => d.2 + wsum xs
def ones : Nat → List (Nat × Nat) → List Value
  | _, [] => []
  | p, d :: xs => one p d ++ ones (p + d.2) xs
theorem wsum_snoc (xs : List (Nat × Nat)) (d : Nat × Nat) : wsum (xs ++ [d]) = wsum xs + d.2 := by
  induction xs with
  | nil => simp [wsum]
  | cons a t ih => simp [wsum, ih, Nat.add_assoc]
theorem ones_snoc (xs : List (Nat × Nat)) (d : Nat × Nat) : ∀ p, ones p (xs ++ [d]) = ones p xs ++ one (p + wsum xs) d := by
  induction xs with
  | nil => intro p; simp [ones, wsum]
  | cons a t ih => intro p; simp [ones, wsum, ih, Nat.add_assoc]
theorem ones_len (xs : List (Nat × Nat)) : ∀ p, (ones p xs).length = xs.length * 4 := by
  induction xs with
  | nil => intro p; rfl
  | cons a t ih => intro p; simp [ones, one, ih]; omega
theorem ones_at (xs : List (Nat × Nat)) : ∀ (p k : Nat) (h : k < xs.length), (ones p xs)[4 * k]? = some (.int .i64 ((p + wsum (xs.take k) : Nat) : Int)) ∧ (ones p xs)[4 * k + 1]? = some (.int .i32 (xs[k].1 : Int)) ∧
    (ones p xs)[4 * k + 2]? = some (.int .i64 (xs[k].2 : Int)) ∧ (ones p xs)[4 * k + 3]? = some (.bool (badSeg xs[k])) := by
  induction xs with
  | nil => intro p k h; simp at h
  | cons a t ih =>
    intro p k h
    cases k with
    | zero => simp [ones, one, wsum]
    | succ k =>
      obtain ⟨h1, h2, h3, h4⟩ := ih (p + a.2) k (by simpa using h)
      have e : ∀ j, (ones p (a :: t))[4 * (k + 1) + j]? = (ones (p + a.2) t)[4 * k + j]? := by
        intro j
        have hl : (one p a).length = 4 := rfl
        show (one p a ++ ones (p + a.2) t)[4 * (k + 1) + j]? = _
        rw [List.getElem?_append_right (by rw [hl]; omega), hl]
        congr 1
        omega
      have e0 := e 0
      simp only [Nat.add_zero] at e0
      refine ⟨?_, ?_, ?_, ?_⟩
      · rw [e0, h1]; simp [wsum, Nat.add_assoc]
      · rw [e 1, h2]; simp
      · rw [e 2, h3]; simp
      · rw [e 3, h4]; simp
theorem wsum_segs (l : List UInt8) : wsum (segs l) = l.length := by
  induction l using walk_ind with
  | h0 => rfl
  | h1 l h ih =>
    have := dec_le l h
    rw [segs_cons l h]
    simp only [wsum, ih, List.length_drop]
    omega

theorem rune_info : (Tryd.prog.info? 21).map (fun i => (i.zero, i.size, i.bytes)) = some (some (.int .i32 0), 1, 4) := by kernel_rfl
theorem int_info : (Tryd.prog.info? 3).map (fun i => (i.zero, i.size, i.bytes)) = some (some (.int .i64 0), 1, 8) := by kernel_rfl

def small (s : ByteArray) : Prop := s.size ≤ 1073741824

end Go.Proofs.YtfegbfhkmdmheaaDoor

/- The document's answer: numbers as a text. -/
namespace Go.Proofs.YtfegbfhkmdmheaaDoor
open Go.RowKit Go.Lib

theorem byte_info : (Tryd.prog.info? 5).map (fun i => (i.zero, i.size, i.bytes)) = some (some (.int .u8 0), 1, 1) := by kernel_rfl
def byteCells' (l : List UInt8) : List Value := l.map fun (b : UInt8) => Value.int .u8 (b.toNat : Int)

def PutAt (base n : Nat) (xs : List Value) (c : Nat) (w : World) (e : Ending) (w' : World) : Prop :=
  ∃ v', e = .returned v' ∧ w'.ownsRow base 5 1 v' (n + (encN c).length) (xs ++ byteCells' (encN c)) ∧ Below base w w'

theorem byteCells_app (a b : List UInt8) : byteCells' (a ++ b) = byteCells' a ++ byteCells' b := by simp [byteCells']
theorem encAll_app (xs ys : List Int) : encAll (xs ++ ys) = encAll xs ++ encAll ys := by
  induction xs with
  | nil => rfl
  | cons x xs ih => rw [List.cons_append, encAll_cons, encAll_cons, ih, List.append_assoc]
theorem encAll_snoc (xs : List Int) (z : Int) : encAll (xs ++ [z]) = encAll xs ++ encN (clean z) := by
  rw [encAll_app, encAll_cons, encAll_nil, List.append_nil, enc_encN]
theorem encAll_len (xs : List Int) : (encAll xs).length ≤ 4 * xs.length := by
  have := runesBytes_size_le xs
  rw [← size_list] at this
  exact this

end Go.Proofs.YtfegbfhkmdmheaaDoor
