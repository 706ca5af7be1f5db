/- Plain Lean: numbers as a text, and back. -/
import Derived.Test.YthejfbanehnmjaaDoorPure
import Derived.Laws.Cover4
import Derived.Test.YthejfbanehnmjaaDoorRefCD
import Derived.Test.YthejfbanehnmjaaDoorScanG
import Derived.Test.YthejfbanehnmjaaDoorMem
import Derived.BigQuiet
import Derived.Deep.QuietTactic
set_option linter.unusedSimpArgs false
set_option linter.unusedVariables false
namespace Go.Proofs.YthejfbanehnmjaaDoor
open Go.Lib

def enc (n : Int) : List UInt8 := (Utf8.encode n).data.toList
def clean (n : Int) : Nat := if Utf8.valid n then n.toNat else 65533
def encAll (zs : List Int) : List UInt8 := (runesBytes zs).data.toList

theorem encAll_nil : encAll [] = [] := rfl
theorem foldl_enc (zs : List Int) : ∀ b : ByteArray, (zs.foldl (fun r n => r ++ Utf8.encode n) b).data.toList = b.data.toList ++ encAll zs := by
  induction zs with
  | nil => intro b; simp [encAll, runesBytes]
  | cons z zs ih =>
    intro b
    unfold encAll runesBytes
    simp only [List.foldl_cons]
    rw [ih, ih]
    simp [ByteArray.data_append]
theorem encAll_cons (z : Int) (zs : List Int) : encAll (z :: zs) = enc z ++ encAll zs := by
  unfold encAll runesBytes
  simp only [List.foldl_cons]
  rw [foldl_enc]
  simp [enc, encAll, runesBytes]

theorem clean_range (n : Int) : clean n < 55296 ∨ 57344 ≤ clean n ∧ clean n ≤ 1114111 := by
  unfold clean
  split
  · rename_i h
    unfold Utf8.valid at h
    simp at h
    omega
  · omega

def encN (c : Nat) : List UInt8 :=
  if c < 128 then [UInt8.ofNat c] else if c < 2048 then [UInt8.ofNat (192 + c / 64), UInt8.ofNat (128 + c % 64)]
  else if c < 65536 then [UInt8.ofNat (224 + c / 4096), UInt8.ofNat (128 + c / 64 % 64), UInt8.ofNat (128 + c % 64)]
  else [UInt8.ofNat (240 + c / 262144), UInt8.ofNat (128 + c / 4096 % 64), UInt8.ofNat (128 + c / 64 % 64), UInt8.ofNat (128 + c % 64)]
theorem enc_encN (n : Int) : enc n = encN (clean n) := by
  unfold enc Utf8.encode encN clean Utf8.runeError
  simp only
  repeat' split
  all_goals rfl
theorem encN_len (c : Nat) : (encN c).length = if c < 128 then 1 else if c < 2048 then 2 else if c < 65536 then 3 else 4 := by
  unfold encN
  repeat' split
  all_goals rfl
theorem nat8 (c : Nat) (h : c < 256) : (UInt8.ofNat c).toNat = c := by simp; omega

theorem gb_zero (a : UInt8) (t : List UInt8) : gb (a :: t) 0 = a.toNat := rfl
theorem gb_one (a b : UInt8) (t : List UInt8) : gb (a :: b :: t) 1 = b.toNat := rfl
theorem gb_two (a b c : UInt8) (t : List UInt8) : gb (a :: b :: c :: t) 2 = c.toNat := rfl
theorem gb_three (a b c d : UInt8) (t : List UInt8) : gb (a :: b :: c :: d :: t) 3 = d.toNat := rfl

theorem dec_encN (c : Nat) (hc : c < 55296 ∨ 57344 ≤ c ∧ c ≤ 1114111) (t : List UInt8) : dec (encN c ++ t) = (c, (encN c).length) := by
  rw [encN_len]
  unfold encN dec
  by_cases h1 : c < 128
  · rw [if_pos h1, if_pos h1]
    simp only [List.cons_append, List.nil_append, gb_zero]
    rw [nat8 c (by omega)]
    unfold decodeN
    rw [if_pos h1]
  · rw [if_neg h1, if_neg h1]
    by_cases h2 : c < 2048
    · rw [if_pos h2, if_pos h2]
      simp only [List.cons_append, List.nil_append, gb_zero, gb_one, gb_two, gb_three, List.length_cons]
      rw [nat8 _ (by omega), nat8 _ (by omega)]
      unfold decodeN
      rw [if_neg (by omega), if_pos (by omega), if_pos (by omega)]
      apply Prod.ext <;> simp only <;> omega
    · rw [if_neg h2, if_neg h2]
      by_cases h3 : c < 65536
      · rw [if_pos h3, if_pos h3]
        simp only [List.cons_append, List.nil_append, gb_zero, gb_one, gb_two, gb_three, List.length_cons]
        rw [nat8 _ (by omega), nat8 _ (by omega), nat8 _ (by omega)]
        unfold decodeN
        rw [if_neg (by omega), if_neg (by omega), if_pos (by omega), if_pos (by omega)]
        apply Prod.ext <;> simp only <;> omega
      · rw [if_neg h3, if_neg h3]
        simp only [List.cons_append, List.nil_append, gb_zero, gb_one, gb_two, gb_three, List.length_cons]
        rw [nat8 _ (by omega), nat8 _ (by omega), nat8 _ (by omega), nat8 _ (by omega)]
        unfold decodeN
        rw [if_neg (by omega), if_neg (by omega), if_neg (by omega), if_pos (by omega), if_pos (by omega)]
        apply Prod.ext <;> simp only <;> omega
theorem encN_ne (c : Nat) : encN c ≠ [] := by
  intro e
  have := congrArg List.length e
  rw [encN_len] at this
  simp at this
  repeat' split at this
  all_goals omega

/-- NUMBERS AS A TEXT, GONE THROUGH. -/
theorem segs_encAll (zs : List Int) : segs (encAll zs) = zs.map fun z => (clean z, (encN (clean z)).length) := by
  induction zs with
  | nil => rfl
  | cons z zs ih =>
    have hne : encN (clean z) ++ encAll zs ≠ [] := by simp [encN_ne]
    rw [encAll_cons, enc_encN, segs_cons _ hne, dec_encN _ (clean_range z)]
    simp [ih]

theorem encAll_ok (zs : List Int) : ∀ d ∈ segs (encAll zs), ¬ (d.2 = 1 ∧ d.1 = 65533) := by
  intro d hd
  rw [segs_encAll] at hd
  obtain ⟨z, _, rfl⟩ := List.mem_map.1 hd
  rintro ⟨h1, h2⟩
  simp only at h1 h2
  rw [encN_len, h2] at h1
  simp at h1

end Go.Proofs.YthejfbanehnmjaaDoor

/- The document's answer: a text gone through, as a list; its last; its numbers; its bad bytes. -/
namespace Go.Proofs.YthejfbanehnmjaaDoor
open Go.RowKit Go.Lib

def one (at_ : Nat) (d : Nat × Nat) : List Value := [.int .i64 at_, .int .i32 d.1, .int .i64 d.2, .bool (badSeg d)]
def wsum : List (Nat × Nat) → Nat
  | [] => 0
  | d :: xs => d.2 + wsum xs
def ones : Nat → List (Nat × Nat) → List Value
  | _, [] => []
  | p, d :: xs => one p d ++ ones (p + d.2) xs
theorem wsum_snoc (xs : List (Nat × Nat)) (d : Nat × Nat) : wsum (xs ++ [d]) = wsum xs + d.2 := by
  induction xs with
  | nil => simp [wsum]
  | cons a t ih => simp [wsum, ih, Nat.add_assoc]
theorem ones_snoc (xs : List (Nat × Nat)) (d : Nat × Nat) : ∀ p, ones p (xs ++ [d]) = ones p xs ++ one (p + wsum xs) d := by
  induction xs with
  | nil => intro p; simp [ones, wsum]
  | cons a t ih => intro p; simp [ones, wsum, ih, Nat.add_assoc]
theorem ones_len (xs : List (Nat × Nat)) : ∀ p, (ones p xs).length = xs.length * 4 := by
  induction xs with
  | nil => intro p; rfl
  | cons a t ih => intro p; simp [ones, one, ih]; omega
theorem ones_at (xs : List (Nat × Nat)) : ∀ (p k : Nat) (h : k < xs.length), (ones p xs)[4 * k]? = some (.int .i64 ((p + wsum (xs.take k) : Nat) : Int)) ∧ (ones p xs)[4 * k + 1]? = some (.int .i32 (xs[k].1 : Int)) ∧
    (ones p xs)[4 * k + 2]? = some (.int .i64 (xs[k].2 : Int)) ∧ (ones p xs)[4 * k + 3]? = some (.bool (badSeg xs[k])) := by
  induction xs with
  | nil => intro p k h; simp at h
  | cons a t ih =>
    intro p k h
    cases k with
    | zero => simp [ones, one, wsum]
    | succ k =>
      obtain ⟨h1, h2, h3, h4⟩ := ih (p + a.2) k (by simpa using h)
      have e : ∀ j, (ones p (a :: t))[4 * (k + 1) + j]? = (ones (p + a.2) t)[4 * k + j]? := by
        intro j
        have hl : (one p a).length = 4 := rfl
        show (one p a ++ ones (p + a.2) t)[4 * (k + 1) + j]? = _
        rw [List.getElem?_append_right (by rw [hl]; omega), hl]
        congr 1
        omega
      have e0 := e 0
      simp only [Nat.add_zero] at e0
      refine ⟨?_, ?_, ?_, ?_⟩
      · rw [e0, h1]; simp [wsum, Nat.add_assoc]
      · rw [e 1, h2]; simp
      · rw [e 2, h3]; simp
      · rw [e 3, h4]; simp
theorem wsum_segs (l : List UInt8) : wsum (segs l) = l.length := by
  induction l using walk_ind with
  | h0 => rfl
  | h1 l h ih =>
    have := dec_le l h
    rw [segs_cons l h]
    simp only [wsum, ih, List.length_drop]
    omega

theorem rune_info : (Tryd.prog.info? 21).map (fun i => (i.zero, i.size, i.bytes)) = some (some (.int .i32 0), 1, 4) := by kernel_rfl
theorem int_info : (Tryd.prog.info? 3).map (fun i => (i.zero, i.size, i.bytes)) = some (some (.int .i64 0), 1, 8) := by kernel_rfl

def small (s : ByteArray) : Prop := s.size ≤ 1073741824

end Go.Proofs.YthejfbanehnmjaaDoor

/- The document's answer: numbers as a text. -/
namespace Go.Proofs.YthejfbanehnmjaaDoor
open Go.RowKit Go.Lib

theorem byte_info : (Tryd.prog.info? 5).map (fun i => (i.zero, i.size, i.bytes)) = some (some (.int .u8 0), 1, 1) := by kernel_rfl
def byteCells' (l : List UInt8) : List Value := l.map fun (b : UInt8) => Value.int .u8 (b.toNat : Int)

def PutAt (base n : Nat) (xs : List Value) (c : Nat) (w : World) (e : Ending) (w' : World) : Prop :=
  ∃ v', e = .returned v' ∧ w'.ownsRow base 5 1 v' (n + (encN c).length) (xs ++ byteCells' (encN c)) ∧ Below base w w'

set_option maxRecDepth 100000 in
set_option maxHeartbeats 2000000 in
theorem put_1 (base n : Nat) (v : Value) (xs : List Value) (z : Int) (c : Nat) (w : World) (hown : w.ownsRow base 5 1 v n xs) (hbase : base ≤ w.heap.size) (hn : n + 4 ≤ 140737488355328) (hz : z = (c : Int)) (hc : c < 128) :
    Calls Tryd.prog 71 #[v, .int .i32 z] w (PutAt base n xs c w) := by
  obtain ⟨i0, hi, hz0, hz1, hz2⟩ := info_parts byte_info
  have hf : ∀ w' : World, ∀ v', w'.ownsRow base 5 1 v' (n + (encN c).length) (xs ++ byteCells' (encN c)) = w'.ownsRow base 5 1 v' (n + 1) (xs ++ [Value.int .u8 (z)]) := by
    intro w' v'
    have e : byteCells' (encN c) = [Value.int .u8 (z)] := by
      unfold byteCells' encN
      rw [if_pos (by omega)]
      simp only [List.map_cons, List.map_nil, List.cons.injEq, Value.int.injEq, true_and, and_true]
      rw [nat8 _ (by omega)]; omega
    have e2 : (encN c).length = 1 := by rw [encN_len, if_pos (by omega)]
    rw [e, e2]
  have Hf := Lib.hid hf
  clear hf
  have Hown := Lib.hid hown
  have Hn := Lib.hid hn
  have Hbase := Lib.hid hbase
  have e0 : 0 ≤ z := by omega
  have e1 : z ≤ 1114111 := by omega
  have e2 : z < 55296 := by omega
  have e3 : z < 128 := by omega
  clear hown hn hbase hz hc
  go_enter Tryd.func71, Tryd.ntmps71
  go_wp2_with (at_builtin; refine wpList_append_own _ rfl _ _ 38 rfl base 5 i0 _ 1 1 Tryd.underlying38 hi hz0 hz1 hz2 rfl (by decide) _ _ _ rfl (Hown.out.alloc _) ⟨w.heap.size, 0, none⟩ 1 1 [.int .u8 (z)] rfl rfl ?c1 ?c2 ?c3 ?c4 ?c5 ?_)
  try (case c1 => exact new_cells w [.int .u8 (z)] 5)
  case c2 => simp [Value.oneCell']
  case c3 => have := Hn.out; unfold maxLen; omega
  case c4 => have := Hn.out; omega
  case c5 => have := Hbase.out; simp; omega
  intro v' w2 hown2 hg2 _
  go_wp2
  go_ret
  refine ⟨v', rfl, ?_, ((Below.refl base w).alloc Hbase.out _).grown hg2 (by have := Hbase.out; simp; omega) (fun k hk => (Hown.out.lt k hk).1)⟩
  rw [Hf.out]
  exact hown2

set_option maxRecDepth 100000 in
set_option maxHeartbeats 2000000 in
theorem put_2 (base n : Nat) (v : Value) (xs : List Value) (z : Int) (c : Nat) (w : World) (hown : w.ownsRow base 5 1 v n xs) (hbase : base ≤ w.heap.size) (hn : n + 4 ≤ 140737488355328) (hz : z = (c : Int)) (hc : 128 ≤ c ∧ c < 2048) :
    Calls Tryd.prog 71 #[v, .int .i32 z] w (PutAt base n xs c w) := by
  obtain ⟨i0, hi, hz0, hz1, hz2⟩ := info_parts byte_info
  have hf : ∀ w' : World, ∀ v', w'.ownsRow base 5 1 v' (n + (encN c).length) (xs ++ byteCells' (encN c)) = w'.ownsRow base 5 1 v' (n + 2) (xs ++ [Value.int .u8 (192 + z / 64), Value.int .u8 (128 + z % 64)]) := by
    intro w' v'
    have e : byteCells' (encN c) = [Value.int .u8 (192 + z / 64), Value.int .u8 (128 + z % 64)] := by
      unfold byteCells' encN
      rw [if_neg (by omega), if_pos (by omega)]
      simp only [List.map_cons, List.map_nil, List.cons.injEq, Value.int.injEq, true_and, and_true]
      refine ⟨?_, ?_⟩
      · rw [nat8 _ (by omega)]; omega
      · rw [nat8 _ (by omega)]; omega
    have e2 : (encN c).length = 2 := by rw [encN_len, if_neg (by omega), if_pos (by omega)]
    rw [e, e2]
  have Hf := Lib.hid hf
  clear hf
  have Hown := Lib.hid hown
  have Hn := Lib.hid hn
  have Hbase := Lib.hid hbase
  have e0 : 0 ≤ z := by omega
  have e1 : z ≤ 1114111 := by omega
  have e2 : z < 55296 := by omega
  have e3 : 128 ≤ z := by omega
  have e4 : z < 2048 := by omega
  clear hown hn hbase hz hc
  go_enter Tryd.func71, Tryd.ntmps71
  go_wp2_with (at_builtin; refine wpList_append_own _ rfl _ _ 38 rfl base 5 i0 _ 1 1 Tryd.underlying38 hi hz0 hz1 hz2 rfl (by decide) _ _ _ rfl (Hown.out.alloc _) ⟨w.heap.size, 0, none⟩ 2 2 [.int .u8 (192 + z / 64), .int .u8 (128 + z % 64)] rfl rfl ?c1 ?c2 ?c3 ?c4 ?c5 ?_)
  try (case c1 => exact new_cells w [.int .u8 (192 + z / 64), .int .u8 (128 + z % 64)] 5)
  case c2 => simp [Value.oneCell']
  case c3 => have := Hn.out; unfold maxLen; omega
  case c4 => have := Hn.out; omega
  case c5 => have := Hbase.out; simp; omega
  intro v' w2 hown2 hg2 _
  go_wp2
  go_ret
  refine ⟨v', rfl, ?_, ((Below.refl base w).alloc Hbase.out _).grown hg2 (by have := Hbase.out; simp; omega) (fun k hk => (Hown.out.lt k hk).1)⟩
  rw [Hf.out]
  exact hown2

set_option maxRecDepth 100000 in
set_option maxHeartbeats 2000000 in
theorem put_3a (base n : Nat) (v : Value) (xs : List Value) (z : Int) (c : Nat) (w : World) (hown : w.ownsRow base 5 1 v n xs) (hbase : base ≤ w.heap.size) (hn : n + 4 ≤ 140737488355328) (hz : z = (c : Int)) (hc : 2048 ≤ c ∧ c < 55296) :
    Calls Tryd.prog 71 #[v, .int .i32 z] w (PutAt base n xs c w) := by
  obtain ⟨i0, hi, hz0, hz1, hz2⟩ := info_parts byte_info
  have hf : ∀ w' : World, ∀ v', w'.ownsRow base 5 1 v' (n + (encN c).length) (xs ++ byteCells' (encN c)) = w'.ownsRow base 5 1 v' (n + 3) (xs ++ [Value.int .u8 (224 + z / 4096), Value.int .u8 (128 + z / 64 % 64), Value.int .u8 (128 + z % 64)]) := by
    intro w' v'
    have e : byteCells' (encN c) = [Value.int .u8 (224 + z / 4096), Value.int .u8 (128 + z / 64 % 64), Value.int .u8 (128 + z % 64)] := by
      unfold byteCells' encN
      rw [if_neg (by omega), if_neg (by omega), if_pos (by omega)]
      simp only [List.map_cons, List.map_nil, List.cons.injEq, Value.int.injEq, true_and, and_true]
      refine ⟨?_, ?_, ?_⟩
      · rw [nat8 _ (by omega)]; omega
      · rw [nat8 _ (by omega)]; omega
      · rw [nat8 _ (by omega)]; omega
    have e2 : (encN c).length = 3 := by rw [encN_len, if_neg (by omega), if_neg (by omega), if_pos (by omega)]
    rw [e, e2]
  have Hf := Lib.hid hf
  clear hf
  have Hown := Lib.hid hown
  have Hn := Lib.hid hn
  have Hbase := Lib.hid hbase
  have e0 : 0 ≤ z := by omega
  have e1 : z ≤ 1114111 := by omega
  have e2 : z < 55296 := by omega
  have e3 : 2048 ≤ z := by omega
  have e4 : z < 65536 := by omega
  clear hown hn hbase hz hc
  go_enter Tryd.func71, Tryd.ntmps71
  go_wp2_with (at_builtin; refine wpList_append_own _ rfl _ _ 38 rfl base 5 i0 _ 1 1 Tryd.underlying38 hi hz0 hz1 hz2 rfl (by decide) _ _ _ rfl (Hown.out.alloc _) ⟨w.heap.size, 0, none⟩ 3 3 [.int .u8 (224 + z / 4096), .int .u8 (128 + z / 64 % 64), .int .u8 (128 + z % 64)] rfl rfl ?c1 ?c2 ?c3 ?c4 ?c5 ?_)
  try (case c1 => exact new_cells w [.int .u8 (224 + z / 4096), .int .u8 (128 + z / 64 % 64), .int .u8 (128 + z % 64)] 5)
  case c2 => simp [Value.oneCell']
  case c3 => have := Hn.out; unfold maxLen; omega
  case c4 => have := Hn.out; omega
  case c5 => have := Hbase.out; simp; omega
  intro v' w2 hown2 hg2 _
  go_wp2
  go_ret
  refine ⟨v', rfl, ?_, ((Below.refl base w).alloc Hbase.out _).grown hg2 (by have := Hbase.out; simp; omega) (fun k hk => (Hown.out.lt k hk).1)⟩
  rw [Hf.out]
  exact hown2

set_option maxRecDepth 100000 in
set_option maxHeartbeats 2000000 in
theorem put_3b (base n : Nat) (v : Value) (xs : List Value) (z : Int) (c : Nat) (w : World) (hown : w.ownsRow base 5 1 v n xs) (hbase : base ≤ w.heap.size) (hn : n + 4 ≤ 140737488355328) (hz : z = (c : Int)) (hc : 57344 ≤ c ∧ c < 65536) :
    Calls Tryd.prog 71 #[v, .int .i32 z] w (PutAt base n xs c w) := by
  obtain ⟨i0, hi, hz0, hz1, hz2⟩ := info_parts byte_info
  have hf : ∀ w' : World, ∀ v', w'.ownsRow base 5 1 v' (n + (encN c).length) (xs ++ byteCells' (encN c)) = w'.ownsRow base 5 1 v' (n + 3) (xs ++ [Value.int .u8 (224 + z / 4096), Value.int .u8 (128 + z / 64 % 64), Value.int .u8 (128 + z % 64)]) := by
    intro w' v'
    have e : byteCells' (encN c) = [Value.int .u8 (224 + z / 4096), Value.int .u8 (128 + z / 64 % 64), Value.int .u8 (128 + z % 64)] := by
      unfold byteCells' encN
      rw [if_neg (by omega), if_neg (by omega), if_pos (by omega)]
      simp only [List.map_cons, List.map_nil, List.cons.injEq, Value.int.injEq, true_and, and_true]
      refine ⟨?_, ?_, ?_⟩
      · rw [nat8 _ (by omega)]; omega
      · rw [nat8 _ (by omega)]; omega
      · rw [nat8 _ (by omega)]; omega
    have e2 : (encN c).length = 3 := by rw [encN_len, if_neg (by omega), if_neg (by omega), if_pos (by omega)]
    rw [e, e2]
  have Hf := Lib.hid hf
  clear hf
  have Hown := Lib.hid hown
  have Hn := Lib.hid hn
  have Hbase := Lib.hid hbase
  have e0 : 0 ≤ z := by omega
  have e1 : z ≤ 1114111 := by omega
  have e2 : 55296 ≤ z := by omega
  have e3 : 57343 < z := by omega
  have e4 : 2048 ≤ z := by omega
  have e5 : z < 65536 := by omega
  clear hown hn hbase hz hc
  go_enter Tryd.func71, Tryd.ntmps71
  go_wp2_with (at_builtin; refine wpList_append_own _ rfl _ _ 38 rfl base 5 i0 _ 1 1 Tryd.underlying38 hi hz0 hz1 hz2 rfl (by decide) _ _ _ rfl (Hown.out.alloc _) ⟨w.heap.size, 0, none⟩ 3 3 [.int .u8 (224 + z / 4096), .int .u8 (128 + z / 64 % 64), .int .u8 (128 + z % 64)] rfl rfl ?c1 ?c2 ?c3 ?c4 ?c5 ?_)
  try (case c1 => exact new_cells w [.int .u8 (224 + z / 4096), .int .u8 (128 + z / 64 % 64), .int .u8 (128 + z % 64)] 5)
  case c2 => simp [Value.oneCell']
  case c3 => have := Hn.out; unfold maxLen; omega
  case c4 => have := Hn.out; omega
  case c5 => have := Hbase.out; simp; omega
  intro v' w2 hown2 hg2 _
  go_wp2
  go_ret
  refine ⟨v', rfl, ?_, ((Below.refl base w).alloc Hbase.out _).grown hg2 (by have := Hbase.out; simp; omega) (fun k hk => (Hown.out.lt k hk).1)⟩
  rw [Hf.out]
  exact hown2

set_option maxRecDepth 100000 in
set_option maxHeartbeats 2000000 in
theorem put_4 (base n : Nat) (v : Value) (xs : List Value) (z : Int) (c : Nat) (w : World) (hown : w.ownsRow base 5 1 v n xs) (hbase : base ≤ w.heap.size) (hn : n + 4 ≤ 140737488355328) (hz : z = (c : Int)) (hc : 65536 ≤ c ∧ c ≤ 1114111) :
    Calls Tryd.prog 71 #[v, .int .i32 z] w (PutAt base n xs c w) := by
  obtain ⟨i0, hi, hz0, hz1, hz2⟩ := info_parts byte_info
  have hf : ∀ w' : World, ∀ v', w'.ownsRow base 5 1 v' (n + (encN c).length) (xs ++ byteCells' (encN c)) = w'.ownsRow base 5 1 v' (n + 4) (xs ++ [Value.int .u8 (240 + z / 262144), Value.int .u8 (128 + z / 4096 % 64), Value.int .u8 (128 + z / 64 % 64), Value.int .u8 (128 + z % 64)]) := by
    intro w' v'
    have e : byteCells' (encN c) = [Value.int .u8 (240 + z / 262144), Value.int .u8 (128 + z / 4096 % 64), Value.int .u8 (128 + z / 64 % 64), Value.int .u8 (128 + z % 64)] := by
      unfold byteCells' encN
      rw [if_neg (by omega), if_neg (by omega), if_neg (by omega)]
      simp only [List.map_cons, List.map_nil, List.cons.injEq, Value.int.injEq, true_and, and_true]
      refine ⟨?_, ?_, ?_, ?_⟩
      · rw [nat8 _ (by omega)]; omega
      · rw [nat8 _ (by omega)]; omega
      · rw [nat8 _ (by omega)]; omega
      · rw [nat8 _ (by omega)]; omega
    have e2 : (encN c).length = 4 := by rw [encN_len, if_neg (by omega), if_neg (by omega), if_neg (by omega)]
    rw [e, e2]
  have Hf := Lib.hid hf
  clear hf
  have Hown := Lib.hid hown
  have Hn := Lib.hid hn
  have Hbase := Lib.hid hbase
  have e0 : 0 ≤ z := by omega
  have e1 : z ≤ 1114111 := by omega
  have e2 : 55296 ≤ z := by omega
  have e3 : 57343 < z := by omega
  have e4 : 2048 ≤ z := by omega
  have e5 : 65536 ≤ z := by omega
  clear hown hn hbase hz hc
  go_enter Tryd.func71, Tryd.ntmps71
  go_wp2_with (at_builtin; refine wpList_append_own _ rfl _ _ 38 rfl base 5 i0 _ 1 1 Tryd.underlying38 hi hz0 hz1 hz2 rfl (by decide) _ _ _ rfl (Hown.out.alloc _) ⟨w.heap.size, 0, none⟩ 4 4 [.int .u8 (240 + z / 262144), .int .u8 (128 + z / 4096 % 64), .int .u8 (128 + z / 64 % 64), .int .u8 (128 + z % 64)] rfl rfl ?c1 ?c2 ?c3 ?c4 ?c5 ?_)
  try (case c1 => exact new_cells w [.int .u8 (240 + z / 262144), .int .u8 (128 + z / 4096 % 64), .int .u8 (128 + z / 64 % 64), .int .u8 (128 + z % 64)] 5)
  case c2 => simp [Value.oneCell']
  case c3 => have := Hn.out; unfold maxLen; omega
  case c4 => have := Hn.out; omega
  case c5 => have := Hbase.out; simp; omega
  intro v' w2 hown2 hg2 _
  go_wp2
  go_ret
  refine ⟨v', rfl, ?_, ((Below.refl base w).alloc Hbase.out _).grown hg2 (by have := Hbase.out; simp; omega) (fun k hk => (Hown.out.lt k hk).1)⟩
  rw [Hf.out]
  exact hown2

set_option maxRecDepth 100000 in
set_option maxHeartbeats 2000000 in
theorem put_n (base n : Nat) (v : Value) (xs : List Value) (z : Int) (w : World) (hown : w.ownsRow base 5 1 v n xs) (hbase : base ≤ w.heap.size) (hn : n + 4 ≤ 140737488355328) (hc : z < 0) :
    Calls Tryd.prog 71 #[v, .int .i32 z] w (PutAt base n xs 65533 w) := by
  obtain ⟨i0, hi, hz0, hz1, hz2⟩ := info_parts byte_info
  have hf : ∀ w' : World, ∀ v', w'.ownsRow base 5 1 v' (n + (encN 65533).length) (xs ++ byteCells' (encN 65533)) = w'.ownsRow base 5 1 v' (n + 3) (xs ++ [Value.int .u8 239, Value.int .u8 191, Value.int .u8 189]) := fun _ _ => rfl
  have Hf := Lib.hid hf
  clear hf
  have Hown := Lib.hid hown
  have Hn := Lib.hid hn
  have Hbase := Lib.hid hbase
  have e0 : z < 0 := by omega
  have e1 : z ≤ 1114111 := by omega
  clear hown hn hbase hc
  go_enter Tryd.func71, Tryd.ntmps71
  go_wp2_with (at_builtin; refine wpList_append_own _ rfl _ _ 38 rfl base 5 i0 _ 1 1 Tryd.underlying38 hi hz0 hz1 hz2 rfl (by decide) _ _ _ rfl (Hown.out.alloc _) ⟨w.heap.size, 0, none⟩ 3 3 [.int .u8 239, .int .u8 191, .int .u8 189] rfl rfl ?c1 ?c2 ?c3 ?c4 ?c5 ?_)
  try (case c1 => exact new_cells w [.int .u8 239, .int .u8 191, .int .u8 189] 5)
  case c2 => simp [Value.oneCell']
  case c3 => have := Hn.out; unfold maxLen; omega
  case c4 => have := Hn.out; omega
  case c5 => have := Hbase.out; simp; omega
  intro v' w2 hown2 hg2 _
  go_wp2
  go_ret
  refine ⟨v', rfl, ?_, ((Below.refl base w).alloc Hbase.out _).grown hg2 (by have := Hbase.out; simp; omega) (fun k hk => (Hown.out.lt k hk).1)⟩
  rw [Hf.out]
  exact hown2

set_option maxRecDepth 100000 in
set_option maxHeartbeats 2000000 in
theorem put_b (base n : Nat) (v : Value) (xs : List Value) (z : Int) (w : World) (hown : w.ownsRow base 5 1 v n xs) (hbase : base ≤ w.heap.size) (hn : n + 4 ≤ 140737488355328) (hc : 1114111 < z) :
    Calls Tryd.prog 71 #[v, .int .i32 z] w (PutAt base n xs 65533 w) := by
  obtain ⟨i0, hi, hz0, hz1, hz2⟩ := info_parts byte_info
  have hf : ∀ w' : World, ∀ v', w'.ownsRow base 5 1 v' (n + (encN 65533).length) (xs ++ byteCells' (encN 65533)) = w'.ownsRow base 5 1 v' (n + 3) (xs ++ [Value.int .u8 239, Value.int .u8 191, Value.int .u8 189]) := fun _ _ => rfl
  have Hf := Lib.hid hf
  clear hf
  have Hown := Lib.hid hown
  have Hn := Lib.hid hn
  have Hbase := Lib.hid hbase
  have e0 : 0 ≤ z := by omega
  have e1 : 1114111 < z := by omega
  clear hown hn hbase hc
  go_enter Tryd.func71, Tryd.ntmps71
  go_wp2_with (at_builtin; refine wpList_append_own _ rfl _ _ 38 rfl base 5 i0 _ 1 1 Tryd.underlying38 hi hz0 hz1 hz2 rfl (by decide) _ _ _ rfl (Hown.out.alloc _) ⟨w.heap.size, 0, none⟩ 3 3 [.int .u8 239, .int .u8 191, .int .u8 189] rfl rfl ?c1 ?c2 ?c3 ?c4 ?c5 ?_)
  try (case c1 => exact new_cells w [.int .u8 239, .int .u8 191, .int .u8 189] 5)
  case c2 => simp [Value.oneCell']
  case c3 => have := Hn.out; unfold maxLen; omega
  case c4 => have := Hn.out; omega
  case c5 => have := Hbase.out; simp; omega
  intro v' w2 hown2 hg2 _
  go_wp2
  go_ret
  refine ⟨v', rfl, ?_, ((Below.refl base w).alloc Hbase.out _).grown hg2 (by have := Hbase.out; simp; omega) (fun k hk => (Hown.out.lt k hk).1)⟩
  rw [Hf.out]
  exact hown2

set_option maxRecDepth 100000 in
set_option maxHeartbeats 2000000 in
theorem put_s (base n : Nat) (v : Value) (xs : List Value) (z : Int) (w : World) (hown : w.ownsRow base 5 1 v n xs) (hbase : base ≤ w.heap.size) (hn : n + 4 ≤ 140737488355328) (hc : 55296 ≤ z ∧ z ≤ 57343) :
    Calls Tryd.prog 71 #[v, .int .i32 z] w (PutAt base n xs 65533 w) := by
  obtain ⟨i0, hi, hz0, hz1, hz2⟩ := info_parts byte_info
  have hf : ∀ w' : World, ∀ v', w'.ownsRow base 5 1 v' (n + (encN 65533).length) (xs ++ byteCells' (encN 65533)) = w'.ownsRow base 5 1 v' (n + 3) (xs ++ [Value.int .u8 239, Value.int .u8 191, Value.int .u8 189]) := fun _ _ => rfl
  have Hf := Lib.hid hf
  clear hf
  have Hown := Lib.hid hown
  have Hn := Lib.hid hn
  have Hbase := Lib.hid hbase
  have e0 : 0 ≤ z := by omega
  have e1 : z ≤ 1114111 := by omega
  have e2 : 55296 ≤ z := by omega
  have e3 : z ≤ 57343 := by omega
  clear hown hn hbase hc
  go_enter Tryd.func71, Tryd.ntmps71
  go_wp2_with (at_builtin; refine wpList_append_own _ rfl _ _ 38 rfl base 5 i0 _ 1 1 Tryd.underlying38 hi hz0 hz1 hz2 rfl (by decide) _ _ _ rfl (Hown.out.alloc _) ⟨w.heap.size, 0, none⟩ 3 3 [.int .u8 239, .int .u8 191, .int .u8 189] rfl rfl ?c1 ?c2 ?c3 ?c4 ?c5 ?_)
  try (case c1 => exact new_cells w [.int .u8 239, .int .u8 191, .int .u8 189] 5)
  case c2 => simp [Value.oneCell']
  case c3 => have := Hn.out; unfold maxLen; omega
  case c4 => have := Hn.out; omega
  case c5 => have := Hbase.out; simp; omega
  intro v' w2 hown2 hg2 _
  go_wp2
  go_ret
  refine ⟨v', rfl, ?_, ((Below.refl base w).alloc Hbase.out _).grown hg2 (by have := Hbase.out; simp; omega) (fun k hk => (Hown.out.lt k hk).1)⟩
  rw [Hf.out]
  exact hown2

theorem put_any (base n : Nat) (v : Value) (xs : List Value) (z : Int) (w : World) (hown : w.ownsRow base 5 1 v n xs) (hbase : base ≤ w.heap.size) (hn : n + 4 ≤ 140737488355328) :
    Calls Tryd.prog 71 #[v, .int .i32 z] w (PutAt base n xs (clean z) w) := by
  by_cases h1 : z < 0
  · have hc : clean z = 65533 := by unfold clean Utf8.valid; rw [if_neg (by simp; omega)]
    rw [hc]
    exact put_n base n v xs z w hown hbase hn h1
  · by_cases h2 : 1114111 < z
    · have hc : clean z = 65533 := by unfold clean Utf8.valid; rw [if_neg (by simp; omega)]
      rw [hc]
      exact put_b base n v xs z w hown hbase hn h2
    · by_cases h3 : 55296 ≤ z ∧ z ≤ 57343
      · have hc : clean z = 65533 := by unfold clean Utf8.valid; rw [if_neg (by simp; omega)]
        rw [hc]
        exact put_s base n v xs z w hown hbase hn h3
      · have hc : clean z = z.toNat := by unfold clean Utf8.valid; rw [if_pos (by simp; omega)]
        have hz : z = (clean z : Int) := by rw [hc]; omega
        obtain ⟨c, hcc⟩ : ∃ c, clean z = c := ⟨_, rfl⟩
        rw [hcc] at hz ⊢
        by_cases k1 : c < 128
        · exact put_1 base n v xs z c w hown hbase hn hz k1
        · by_cases k2 : c < 2048
          · exact put_2 base n v xs z c w hown hbase hn hz ⟨by omega, k2⟩
          · by_cases k3 : c < 55296
            · exact put_3a base n v xs z c w hown hbase hn hz ⟨by omega, k3⟩
            · by_cases k4 : c < 65536
              · exact put_3b base n v xs z c w hown hbase hn hz ⟨by omega, k4⟩
              · exact put_4 base n v xs z c w hown hbase hn hz ⟨by omega, by omega⟩

theorem byteCells_app (a b : List UInt8) : byteCells' (a ++ b) = byteCells' a ++ byteCells' b := by simp [byteCells']
theorem encAll_app (xs ys : List Int) : encAll (xs ++ ys) = encAll xs ++ encAll ys := by
  induction xs with
  | nil => rfl
  | cons x xs ih => rw [List.cons_append, encAll_cons, encAll_cons, ih, List.append_assoc]
theorem encAll_snoc (xs : List Int) (z : Int) : encAll (xs ++ [z]) = encAll xs ++ encN (clean z) := by
  rw [encAll_app, encAll_cons, encAll_nil, List.append_nil, enc_encN]
theorem encAll_len (xs : List Int) : (encAll xs).length ≤ 4 * xs.length := by
  have := runesBytes_size_le xs
  rw [← size_list] at this
  exact this

set_option maxRecDepth 100000 in
set_option maxHeartbeats 2000000 in
theorem refText_any (w : World) (A : Option Addr) (n c : Nat) (zs : List Int) (h : Rd w w.heap.size 1 A n (zs.map (Value.int .i32))) (hn : n ≤ 35184372087808) :
    Calls Tryd.prog 52 #[.slice A n c] w fun e w' => e = .returned (.string (runesBytes zs)) ∧ Below w.heap.size w w' := by
  have hl : zs.length = n := by have := h.1; simpa using this
  have H := Lib.hid h
  have Hl := Lib.hid hl
  have Hn := Lib.hid hn
  have hnb : (n : Int) ≤ 9223372036854775807 := by omega
  obtain ⟨B, hB⟩ : ∃ B, w.heap.size = B := ⟨_, rfl⟩
  have HB := Lib.hid hB
  rw [hB] at H ⊢
  clear h hl hn hB
  go_enter Tryd.func52, Tryd.ntmps52
  go_wp2
  go_loopw [3, 4] (fun v i wr => ∃ k : Nat, k ≤ n ∧ i = .int .i64 k ∧ wr.ownsRow B 5 1 v (encAll (zs.take k)).length (byteCells' (encAll (zs.take k))) ∧ Below B w wr) (fun _ i _ => n - (RowKit.intOf i).toNat)
  case atStart => exact ⟨0, Nat.zero_le _, rfl, World.ownsRow_nil _ _ _ _, Below.refl _ _⟩
  case round =>
    obtain ⟨k, hk, rfl, hown, hbw⟩ := hrel
    by_cases hkn : k < n
    · have hkz : k < zs.length := by rw [Hl.out]; exact hkn
      obtain ⟨a, rfl, _, ha⟩ := (H.out.below hbw).at_ (k := k) (by simpa using hkz)
      simp only [List.getElem_map] at ha
      have Hsn := Lib.hid (encAll_snoc (zs.take k) zs[k])
      have Htk := Lib.hid (List.take_succ_eq_append_getElem hkz)
      have Hle := Lib.hid (encAll_len (zs.take k))
      obtain ⟨z, hze⟩ : ∃ z, zs[k] = z := ⟨_, rfl⟩
      rw [hze] at ha Hsn Htk
      have Hput := Lib.hid (put_any B _ _ _ z wr hown (by have := hbw.size; have := HB.out; omega) (by have h1 := Hle.out; have h2 := Hn.out; have h3 : (zs.take k).length ≤ k := List.length_take_le _ _; omega))
      have Hown := Lib.hid hown
      clear hze hkz hown
      go_wp2_with fail
      refine Hput.out.mono ?_
      rintro e w1 ⟨v1, rfl, hown1, hb1⟩
      have Hown1 := Lib.hid hown1
      clear hown1
      go_wp2_with fail
      go_roundw
      case rel =>
        refine ⟨k + 1, by omega, by go_num, ?_, hbw.trans hb1⟩
        rw [Htk.out, Hsn.out, byteCells_app, List.length_append]
        exact Hown1.out
      case measure => simp [RowKit.intOf]; omega
    · obtain rfl : k = n := by omega
      obtain ⟨A2, c2, rfl, _, _⟩ := own_shape hown
      have htk : zs.take k = zs := List.take_of_length_le (by rw [Hl.out]; omega)
      rw [htk] at hown
      have R := Rd.own hown
      have hcv : (convert 38 9 (.slice A2 (encAll zs).length c2)).run Tryd.prog wr = .ok (.string ⟨(encAll zs).toArray⟩) wr := by
        rcases A2 with _ | a
        · have h0 : (encAll zs).length = 0 := by
            rcases Nat.eq_zero_or_pos (encAll zs).length with h0 | h0
            · exact h0
            · obtain ⟨a, e, _⟩ := R.addr h0
              cases e
          have : encAll zs = [] := List.eq_nil_of_length_eq_zero h0
          rw [this, run_convert_bytes_string wr _ _ 5 _ _ _ Tryd.underlying38 Tryd.underlying5 Tryd.underlying9]
          rfl
        · exact run_convert_bytes_back wr _ _ 5 a c2 (encAll zs) Tryd.underlying38 Tryd.underlying5 Tryd.underlying9 (fun j hj => by
            obtain ⟨a', e, _, hc⟩ := R.addr (by omega)
            injection e with e
            subst e
            exact hc j _ (by simp [byteCells', hj]))
      have hfin : (⟨(encAll zs).toArray⟩ : ByteArray) = runesBytes zs := by
        unfold encAll
        cases runesBytes zs
        simp
      rw [hfin] at hcv
      rw [htk]
      obtain ⟨N, hN⟩ : ∃ N, (encAll zs).length = N := ⟨_, rfl⟩
      rw [hN] at hcv ⊢
      clear hfin R hown htk hN
      go_wp2
      go_ret
      exact ⟨rfl, hbw⟩

end Go.Proofs.YthejfbanehnmjaaDoor
