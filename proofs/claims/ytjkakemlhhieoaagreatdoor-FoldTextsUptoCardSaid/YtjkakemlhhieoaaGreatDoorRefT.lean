/- The document's answer: numbers as a text. -/
import Derived.Test.YtjkakemlhhieoaaGreatDoorRefE
import Derived.Test.YtjkakemlhhieoaaGreatDoorNumP
set_option linter.unusedSimpArgs false
set_option linter.unusedVariables false
namespace Go.Proofs.YtjkakemlhhieoaaGreatDoor
open Go.RowKit Go.Lib

theorem byte_info : (Tryz.prog.info? 5).map (fun i => (i.zero, i.size, i.bytes)) = some (some (.int .u8 0), 1, 1) := by kernel_rfl
def byteCells' (l : List UInt8) : List Value := l.map fun (b : UInt8) => Value.int .u8 (b.toNat : Int)

def PutAt (base n : Nat) (xs : List Value) (c : Nat) (w : World) (e : Ending) (w' : World) : Prop :=
  ∃ v', e = .returned v' ∧ w'.ownsRow base 5 1 v' (n + (encN c).length) (xs ++ byteCells' (encN c)) ∧ Below base w w'

set_option maxRecDepth 100000 in
set_option maxHeartbeats 2000000 in
theorem put_1 (base n : Nat) (v : Value) (xs : List Value) (z : Int) (c : Nat) (w : World) (hown : w.ownsRow base 5 1 v n xs) (hbase : base ≤ w.heap.size) (hn : n + 4 ≤ 140737488355328) (hz : z = (c : Int)) (hc : c < 128) :
    Calls Tryz.prog 96 #[v, .int .i32 z] w (PutAt base n xs c w) := by
  obtain ⟨i0, hi, hz0, hz1, hz2⟩ := info_parts byte_info
  have hf : ∀ w' : World, ∀ v', w'.ownsRow base 5 1 v' (n + (encN c).length) (xs ++ byteCells' (encN c)) = w'.ownsRow base 5 1 v' (n + 1) (xs ++ [Value.int .u8 (z)]) := by
    intro w' v'
    have e : byteCells' (encN c) = [Value.int .u8 (z)] := by
      unfold byteCells' encN
      rw [if_pos (by omega)]
      simp only [List.map_cons, List.map_nil, List.cons.injEq, Value.int.injEq, true_and, and_true]
      rw [nat8 _ (by omega)]; omega
    have e2 : (encN c).length = 1 := by rw [encN_len, if_pos (by omega)]
    rw [e, e2]
  have Hf := Lib.hid hf
  clear hf
  have Hown := Lib.hid hown
  have Hn := Lib.hid hn
  have Hbase := Lib.hid hbase
  have e0 : 0 ≤ z := by omega
  have e1 : z ≤ 1114111 := by omega
  have e2 : z < 55296 := by omega
  have e3 : z < 128 := by omega
  clear hown hn hbase hz hc
  go_enter Tryz.func96, Tryz.ntmps96
  go_wp2_with (at_builtin; refine wpList_append_own _ rfl _ _ 37 rfl base 5 i0 _ 1 1 Tryz.underlying37 hi hz0 hz1 hz2 rfl (by decide) _ _ _ rfl (Hown.out.alloc _) ⟨w.heap.size, 0, none⟩ 1 1 [.int .u8 (z)] rfl rfl ?c1 ?c2 ?c3 ?c4 ?c5 ?_)
  try (case c1 => exact new_cells w [.int .u8 (z)] 5)
  case c2 => simp [Value.oneCell']
  case c3 => have := Hn.out; unfold maxLen; omega
  case c4 => have := Hn.out; omega
  case c5 => have := Hbase.out; simp; omega
  intro v' w2 hown2 hg2 _
  go_wp2
  go_ret
  refine ⟨v', rfl, ?_, ((Below.refl base w).alloc Hbase.out _).grown hg2 (by have := Hbase.out; simp; omega) (fun k hk => (Hown.out.lt k hk).1)⟩
  rw [Hf.out]
  exact hown2

set_option maxRecDepth 100000 in
set_option maxHeartbeats 2000000 in
theorem put_2 (base n : Nat) (v : Value) (xs : List Value) (z : Int) (c : Nat) (w : World) (hown : w.ownsRow base 5 1 v n xs) (hbase : base ≤ w.heap.size) (hn : n + 4 ≤ 140737488355328) (hz : z = (c : Int)) (hc : 128 ≤ c ∧ c < 2048) :
    Calls Tryz.prog 96 #[v, .int .i32 z] w (PutAt base n xs c w) := by
  obtain ⟨i0, hi, hz0, hz1, hz2⟩ := info_parts byte_info
  have hf : ∀ w' : World, ∀ v', w'.ownsRow base 5 1 v' (n + (encN c).length) (xs ++ byteCells' (encN c)) = w'.ownsRow base 5 1 v' (n + 2) (xs ++ [Value.int .u8 (192 + z / 64), Value.int .u8 (128 + z % 64)]) := by
    intro w' v'
    have e : byteCells' (encN c) = [Value.int .u8 (192 + z / 64), Value.int .u8 (128 + z % 64)] := by
      unfold byteCells' encN
      rw [if_neg (by omega), if_pos (by omega)]
      simp only [List.map_cons, List.map_nil, List.cons.injEq, Value.int.injEq, true_and, and_true]
      refine ⟨?_, ?_⟩
      · rw [nat8 _ (by omega)]; omega
      · rw [nat8 _ (by omega)]; omega
    have e2 : (encN c).length = 2 := by rw [encN_len, if_neg (by omega), if_pos (by omega)]
    rw [e, e2]
  have Hf := Lib.hid hf
  clear hf
  have Hown := Lib.hid hown
  have Hn := Lib.hid hn
  have Hbase := Lib.hid hbase
  have e0 : 0 ≤ z := by omega
  have e1 : z ≤ 1114111 := by omega
  have e2 : z < 55296 := by omega
  have e3 : 128 ≤ z := by omega
  have e4 : z < 2048 := by omega
  clear hown hn hbase hz hc
  go_enter Tryz.func96, Tryz.ntmps96
  go_wp2_with (at_builtin; refine wpList_append_own _ rfl _ _ 37 rfl base 5 i0 _ 1 1 Tryz.underlying37 hi hz0 hz1 hz2 rfl (by decide) _ _ _ rfl (Hown.out.alloc _) ⟨w.heap.size, 0, none⟩ 2 2 [.int .u8 (192 + z / 64), .int .u8 (128 + z % 64)] rfl rfl ?c1 ?c2 ?c3 ?c4 ?c5 ?_)
  try (case c1 => exact new_cells w [.int .u8 (192 + z / 64), .int .u8 (128 + z % 64)] 5)
  case c2 => simp [Value.oneCell']
  case c3 => have := Hn.out; unfold maxLen; omega
  case c4 => have := Hn.out; omega
  case c5 => have := Hbase.out; simp; omega
  intro v' w2 hown2 hg2 _
  go_wp2
  go_ret
  refine ⟨v', rfl, ?_, ((Below.refl base w).alloc Hbase.out _).grown hg2 (by have := Hbase.out; simp; omega) (fun k hk => (Hown.out.lt k hk).1)⟩
  rw [Hf.out]
  exact hown2

set_option maxRecDepth 100000 in
set_option maxHeartbeats 2000000 in
theorem put_3a (base n : Nat) (v : Value) (xs : List Value) (z : Int) (c : Nat) (w : World) (hown : w.ownsRow base 5 1 v n xs) (hbase : base ≤ w.heap.size) (hn : n + 4 ≤ 140737488355328) (hz : z = (c : Int)) (hc : 2048 ≤ c ∧ c < 55296) :
    Calls Tryz.prog 96 #[v, .int .i32 z] w (PutAt base n xs c w) := by
  obtain ⟨i0, hi, hz0, hz1, hz2⟩ := info_parts byte_info
  have hf : ∀ w' : World, ∀ v', w'.ownsRow base 5 1 v' (n + (encN c).length) (xs ++ byteCells' (encN c)) = w'.ownsRow base 5 1 v' (n + 3) (xs ++ [Value.int .u8 (224 + z / 4096), Value.int .u8 (128 + z / 64 % 64), Value.int .u8 (128 + z % 64)]) := by
    intro w' v'
    have e : byteCells' (encN c) = [Value.int .u8 (224 + z / 4096), Value.int .u8 (128 + z / 64 % 64), Value.int .u8 (128 + z % 64)] := by
      unfold byteCells' encN
      rw [if_neg (by omega), if_neg (by omega), if_pos (by omega)]
      simp only [List.map_cons, List.map_nil, List.cons.injEq, Value.int.injEq, true_and, and_true]
      refine ⟨?_, ?_, ?_⟩
      · rw [nat8 _ (by omega)]; omega
      · rw [nat8 _ (by omega)]; omega
      · rw [nat8 _ (by omega)]; omega
    have e2 : (encN c).length = 3 := by rw [encN_len, if_neg (by omega), if_neg (by omega), if_pos (by omega)]
    rw [e, e2]
  have Hf := Lib.hid hf
  clear hf
  have Hown := Lib.hid hown
  have Hn := Lib.hid hn
  have Hbase := Lib.hid hbase
  have e0 : 0 ≤ z := by omega
  have e1 : z ≤ 1114111 := by omega
  have e2 : z < 55296 := by omega
  have e3 : 2048 ≤ z := by omega
  have e4 : z < 65536 := by omega
  clear hown hn hbase hz hc
  go_enter Tryz.func96, Tryz.ntmps96
  go_wp2_with (at_builtin; refine wpList_append_own _ rfl _ _ 37 rfl base 5 i0 _ 1 1 Tryz.underlying37 hi hz0 hz1 hz2 rfl (by decide) _ _ _ rfl (Hown.out.alloc _) ⟨w.heap.size, 0, none⟩ 3 3 [.int .u8 (224 + z / 4096), .int .u8 (128 + z / 64 % 64), .int .u8 (128 + z % 64)] rfl rfl ?c1 ?c2 ?c3 ?c4 ?c5 ?_)
  try (case c1 => exact new_cells w [.int .u8 (224 + z / 4096), .int .u8 (128 + z / 64 % 64), .int .u8 (128 + z % 64)] 5)
  case c2 => simp [Value.oneCell']
  case c3 => have := Hn.out; unfold maxLen; omega
  case c4 => have := Hn.out; omega
  case c5 => have := Hbase.out; simp; omega
  intro v' w2 hown2 hg2 _
  go_wp2
  go_ret
  refine ⟨v', rfl, ?_, ((Below.refl base w).alloc Hbase.out _).grown hg2 (by have := Hbase.out; simp; omega) (fun k hk => (Hown.out.lt k hk).1)⟩
  rw [Hf.out]
  exact hown2

set_option maxRecDepth 100000 in
set_option maxHeartbeats 2000000 in
theorem put_3b (base n : Nat) (v : Value) (xs : List Value) (z : Int) (c : Nat) (w : World) (hown : w.ownsRow base 5 1 v n xs) (hbase : base ≤ w.heap.size) (hn : n + 4 ≤ 140737488355328) (hz : z = (c : Int)) (hc : 57344 ≤ c ∧ c < 65536) :
    Calls Tryz.prog 96 #[v, .int .i32 z] w (PutAt base n xs c w) := by
  obtain ⟨i0, hi, hz0, hz1, hz2⟩ := info_parts byte_info
  have hf : ∀ w' : World, ∀ v', w'.ownsRow base 5 1 v' (n + (encN c).length) (xs ++ byteCells' (encN c)) = w'.ownsRow base 5 1 v' (n + 3) (xs ++ [Value.int .u8 (224 + z / 4096), Value.int .u8 (128 + z / 64 % 64), Value.int .u8 (128 + z % 64)]) := by
    intro w' v'
    have e : byteCells' (encN c) = [Value.int .u8 (224 + z / 4096), Value.int .u8 (128 + z / 64 % 64), Value.int .u8 (128 + z % 64)] := by
      unfold byteCells' encN
      rw [if_neg (by omega), if_neg (by omega), if_pos (by omega)]
      simp only [List.map_cons, List.map_nil, List.cons.injEq, Value.int.injEq, true_and, and_true]
      refine ⟨?_, ?_, ?_⟩
      · rw [nat8 _ (by omega)]; omega
      · rw [nat8 _ (by omega)]; omega
      · rw [nat8 _ (by omega)]; omega
    have e2 : (encN c).length = 3 := by rw [encN_len, if_neg (by omega), if_neg (by omega), if_pos (by omega)]
    rw [e, e2]
  have Hf := Lib.hid hf
  clear hf
  have Hown := Lib.hid hown
  have Hn := Lib.hid hn
  have Hbase := Lib.hid hbase
  have e0 : 0 ≤ z := by omega
  have e1 : z ≤ 1114111 := by omega
  have e2 : 55296 ≤ z := by omega
  have e3 : 57343 < z := by omega
  have e4 : 2048 ≤ z := by omega
  have e5 : z < 65536 := by omega
  clear hown hn hbase hz hc
  go_enter Tryz.func96, Tryz.ntmps96
  go_wp2_with (at_builtin; refine wpList_append_own _ rfl _ _ 37 rfl base 5 i0 _ 1 1 Tryz.underlying37 hi hz0 hz1 hz2 rfl (by decide) _ _ _ rfl (Hown.out.alloc _) ⟨w.heap.size, 0, none⟩ 3 3 [.int .u8 (224 + z / 4096), .int .u8 (128 + z / 64 % 64), .int .u8 (128 + z % 64)] rfl rfl ?c1 ?c2 ?c3 ?c4 ?c5 ?_)
  try (case c1 => exact new_cells w [.int .u8 (224 + z / 4096), .int .u8 (128 + z / 64 % 64), .int .u8 (128 + z % 64)] 5)
  case c2 => simp [Value.oneCell']
  case c3 => have := Hn.out; unfold maxLen; omega
  case c4 => have := Hn.out; omega
  case c5 => have := Hbase.out; simp; omega
  intro v' w2 hown2 hg2 _
  go_wp2
  go_ret
  refine ⟨v', rfl, ?_, ((Below.refl base w).alloc Hbase.out _).grown hg2 (by have := Hbase.out; simp; omega) (fun k hk => (Hown.out.lt k hk).1)⟩
  rw [Hf.out]
  exact hown2

set_option maxRecDepth 100000 in
set_option maxHeartbeats 2000000 in
theorem put_4 (base n : Nat) (v : Value) (xs : List Value) (z : Int) (c : Nat) (w : World) (hown : w.ownsRow base 5 1 v n xs) (hbase : base ≤ w.heap.size) (hn : n + 4 ≤ 140737488355328) (hz : z = (c : Int)) (hc : 65536 ≤ c ∧ c ≤ 1114111) :
    Calls Tryz.prog 96 #[v, .int .i32 z] w (PutAt base n xs c w) := by
  obtain ⟨i0, hi, hz0, hz1, hz2⟩ := info_parts byte_info
  have hf : ∀ w' : World, ∀ v', w'.ownsRow base 5 1 v' (n + (encN c).length) (xs ++ byteCells' (encN c)) = w'.ownsRow base 5 1 v' (n + 4) (xs ++ [Value.int .u8 (240 + z / 262144), Value.int .u8 (128 + z / 4096 % 64), Value.int .u8 (128 + z / 64 % 64), Value.int .u8 (128 + z % 64)]) := by
    intro w' v'
    have e : byteCells' (encN c) = [Value.int .u8 (240 + z / 262144), Value.int .u8 (128 + z / 4096 % 64), Value.int .u8 (128 + z / 64 % 64), Value.int .u8 (128 + z % 64)] := by
      unfold byteCells' encN
      rw [if_neg (by omega), if_neg (by omega), if_neg (by omega)]
      simp only [List.map_cons, List.map_nil, List.cons.injEq, Value.int.injEq, true_and, and_true]
      refine ⟨?_, ?_, ?_, ?_⟩
      · rw [nat8 _ (by omega)]; omega
      · rw [nat8 _ (by omega)]; omega
      · rw [nat8 _ (by omega)]; omega
      · rw [nat8 _ (by omega)]; omega
    have e2 : (encN c).length = 4 := by rw [encN_len, if_neg (by omega), if_neg (by omega), if_neg (by omega)]
    rw [e, e2]
  have Hf := Lib.hid hf
  clear hf
  have Hown := Lib.hid hown
  have Hn := Lib.hid hn
  have Hbase := Lib.hid hbase
  have e0 : 0 ≤ z := by omega
  have e1 : z ≤ 1114111 := by omega
  have e2 : 55296 ≤ z := by omega
  have e3 : 57343 < z := by omega
  have e4 : 2048 ≤ z := by omega
  have e5 : 65536 ≤ z := by omega
  clear hown hn hbase hz hc
  go_enter Tryz.func96, Tryz.ntmps96
  go_wp2_with (at_builtin; refine wpList_append_own _ rfl _ _ 37 rfl base 5 i0 _ 1 1 Tryz.underlying37 hi hz0 hz1 hz2 rfl (by decide) _ _ _ rfl (Hown.out.alloc _) ⟨w.heap.size, 0, none⟩ 4 4 [.int .u8 (240 + z / 262144), .int .u8 (128 + z / 4096 % 64), .int .u8 (128 + z / 64 % 64), .int .u8 (128 + z % 64)] rfl rfl ?c1 ?c2 ?c3 ?c4 ?c5 ?_)
  try (case c1 => exact new_cells w [.int .u8 (240 + z / 262144), .int .u8 (128 + z / 4096 % 64), .int .u8 (128 + z / 64 % 64), .int .u8 (128 + z % 64)] 5)
  case c2 => simp [Value.oneCell']
  case c3 => have := Hn.out; unfold maxLen; omega
  case c4 => have := Hn.out; omega
  case c5 => have := Hbase.out; simp; omega
  intro v' w2 hown2 hg2 _
  go_wp2
  go_ret
  refine ⟨v', rfl, ?_, ((Below.refl base w).alloc Hbase.out _).grown hg2 (by have := Hbase.out; simp; omega) (fun k hk => (Hown.out.lt k hk).1)⟩
  rw [Hf.out]
  exact hown2

set_option maxRecDepth 100000 in
set_option maxHeartbeats 2000000 in
theorem put_n (base n : Nat) (v : Value) (xs : List Value) (z : Int) (w : World) (hown : w.ownsRow base 5 1 v n xs) (hbase : base ≤ w.heap.size) (hn : n + 4 ≤ 140737488355328) (hc : z < 0) :
    Calls Tryz.prog 96 #[v, .int .i32 z] w (PutAt base n xs 65533 w) := by
  obtain ⟨i0, hi, hz0, hz1, hz2⟩ := info_parts byte_info
  have hf : ∀ w' : World, ∀ v', w'.ownsRow base 5 1 v' (n + (encN 65533).length) (xs ++ byteCells' (encN 65533)) = w'.ownsRow base 5 1 v' (n + 3) (xs ++ [Value.int .u8 239, Value.int .u8 191, Value.int .u8 189]) := fun _ _ => rfl
  have Hf := Lib.hid hf
  clear hf
  have Hown := Lib.hid hown
  have Hn := Lib.hid hn
  have Hbase := Lib.hid hbase
  have e0 : z < 0 := by omega
  have e1 : z ≤ 1114111 := by omega
  clear hown hn hbase hc
  go_enter Tryz.func96, Tryz.ntmps96
  go_wp2_with (at_builtin; refine wpList_append_own _ rfl _ _ 37 rfl base 5 i0 _ 1 1 Tryz.underlying37 hi hz0 hz1 hz2 rfl (by decide) _ _ _ rfl (Hown.out.alloc _) ⟨w.heap.size, 0, none⟩ 3 3 [.int .u8 239, .int .u8 191, .int .u8 189] rfl rfl ?c1 ?c2 ?c3 ?c4 ?c5 ?_)
  try (case c1 => exact new_cells w [.int .u8 239, .int .u8 191, .int .u8 189] 5)
  case c2 => simp [Value.oneCell']
  case c3 => have := Hn.out; unfold maxLen; omega
  case c4 => have := Hn.out; omega
  case c5 => have := Hbase.out; simp; omega
  intro v' w2 hown2 hg2 _
  go_wp2
  go_ret
  refine ⟨v', rfl, ?_, ((Below.refl base w).alloc Hbase.out _).grown hg2 (by have := Hbase.out; simp; omega) (fun k hk => (Hown.out.lt k hk).1)⟩
  rw [Hf.out]
  exact hown2

set_option maxRecDepth 100000 in
set_option maxHeartbeats 2000000 in
theorem put_b (base n : Nat) (v : Value) (xs : List Value) (z : Int) (w : World) (hown : w.ownsRow base 5 1 v n xs) (hbase : base ≤ w.heap.size) (hn : n + 4 ≤ 140737488355328) (hc : 1114111 < z) :
    Calls Tryz.prog 96 #[v, .int .i32 z] w (PutAt base n xs 65533 w) := by
  obtain ⟨i0, hi, hz0, hz1, hz2⟩ := info_parts byte_info
  have hf : ∀ w' : World, ∀ v', w'.ownsRow base 5 1 v' (n + (encN 65533).length) (xs ++ byteCells' (encN 65533)) = w'.ownsRow base 5 1 v' (n + 3) (xs ++ [Value.int .u8 239, Value.int .u8 191, Value.int .u8 189]) := fun _ _ => rfl
  have Hf := Lib.hid hf
  clear hf
  have Hown := Lib.hid hown
  have Hn := Lib.hid hn
  have Hbase := Lib.hid hbase
  have e0 : 0 ≤ z := by omega
  have e1 : 1114111 < z := by omega
  clear hown hn hbase hc
  go_enter Tryz.func96, Tryz.ntmps96
  go_wp2_with (at_builtin; refine wpList_append_own _ rfl _ _ 37 rfl base 5 i0 _ 1 1 Tryz.underlying37 hi hz0 hz1 hz2 rfl (by decide) _ _ _ rfl (Hown.out.alloc _) ⟨w.heap.size, 0, none⟩ 3 3 [.int .u8 239, .int .u8 191, .int .u8 189] rfl rfl ?c1 ?c2 ?c3 ?c4 ?c5 ?_)
  try (case c1 => exact new_cells w [.int .u8 239, .int .u8 191, .int .u8 189] 5)
  case c2 => simp [Value.oneCell']
  case c3 => have := Hn.out; unfold maxLen; omega
  case c4 => have := Hn.out; omega
  case c5 => have := Hbase.out; simp; omega
  intro v' w2 hown2 hg2 _
  go_wp2
  go_ret
  refine ⟨v', rfl, ?_, ((Below.refl base w).alloc Hbase.out _).grown hg2 (by have := Hbase.out; simp; omega) (fun k hk => (Hown.out.lt k hk).1)⟩
  rw [Hf.out]
  exact hown2

set_option maxRecDepth 100000 in
set_option maxHeartbeats 2000000 in
theorem put_s (base n : Nat) (v : Value) (xs : List Value) (z : Int) (w : World) (hown : w.ownsRow base 5 1 v n xs) (hbase : base ≤ w.heap.size) (hn : n + 4 ≤ 140737488355328) (hc : 55296 ≤ z ∧ z ≤ 57343) :
    Calls Tryz.prog 96 #[v, .int .i32 z] w (PutAt base n xs 65533 w) := by
  obtain ⟨i0, hi, hz0, hz1, hz2⟩ := info_parts byte_info
  have hf : ∀ w' : World, ∀ v', w'.ownsRow base 5 1 v' (n + (encN 65533).length) (xs ++ byteCells' (encN 65533)) = w'.ownsRow base 5 1 v' (n + 3) (xs ++ [Value.int .u8 239, Value.int .u8 191, Value.int .u8 189]) := fun _ _ => rfl
  have Hf := Lib.hid hf
  clear hf
  have Hown := Lib.hid hown
  have Hn := Lib.hid hn
  have Hbase := Lib.hid hbase
  have e0 : 0 ≤ z := by omega
  have e1 : z ≤ 1114111 := by omega
  have e2 : 55296 ≤ z := by omega
  have e3 : z ≤ 57343 := by omega
  clear hown hn hbase hc
  go_enter Tryz.func96, Tryz.ntmps96
  go_wp2_with (at_builtin; refine wpList_append_own _ rfl _ _ 37 rfl base 5 i0 _ 1 1 Tryz.underlying37 hi hz0 hz1 hz2 rfl (by decide) _ _ _ rfl (Hown.out.alloc _) ⟨w.heap.size, 0, none⟩ 3 3 [.int .u8 239, .int .u8 191, .int .u8 189] rfl rfl ?c1 ?c2 ?c3 ?c4 ?c5 ?_)
  try (case c1 => exact new_cells w [.int .u8 239, .int .u8 191, .int .u8 189] 5)
  case c2 => simp [Value.oneCell']
  case c3 => have := Hn.out; unfold maxLen; omega
  case c4 => have := Hn.out; omega
  case c5 => have := Hbase.out; simp; omega
  intro v' w2 hown2 hg2 _
  go_wp2
  go_ret
  refine ⟨v', rfl, ?_, ((Below.refl base w).alloc Hbase.out _).grown hg2 (by have := Hbase.out; simp; omega) (fun k hk => (Hown.out.lt k hk).1)⟩
  rw [Hf.out]
  exact hown2

theorem put_any (base n : Nat) (v : Value) (xs : List Value) (z : Int) (w : World) (hown : w.ownsRow base 5 1 v n xs) (hbase : base ≤ w.heap.size) (hn : n + 4 ≤ 140737488355328) :
    Calls Tryz.prog 96 #[v, .int .i32 z] w (PutAt base n xs (clean z) w) := by
  by_cases h1 : z < 0
  · have hc : clean z = 65533 := by unfold clean Utf8.valid; rw [if_neg (by simp; omega)]
    rw [hc]
    exact put_n base n v xs z w hown hbase hn h1
  · by_cases h2 : 1114111 < z
    · have hc : clean z = 65533 := by unfold clean Utf8.valid; rw [if_neg (by simp; omega)]
      rw [hc]
      exact put_b base n v xs z w hown hbase hn h2
    · by_cases h3 : 55296 ≤ z ∧ z ≤ 57343
      · have hc : clean z = 65533 := by unfold clean Utf8.valid; rw [if_neg (by simp; omega)]
        rw [hc]
        exact put_s base n v xs z w hown hbase hn h3
      · have hc : clean z = z.toNat := by unfold clean Utf8.valid; rw [if_pos (by simp; omega)]
        have hz : z = (clean z : Int) := by rw [hc]; omega
        obtain ⟨c, hcc⟩ : ∃ c, clean z = c := ⟨_, rfl⟩
        rw [hcc] at hz ⊢
        by_cases k1 : c < 128
        · exact put_1 base n v xs z c w hown hbase hn hz k1
        · by_cases k2 : c < 2048
          · exact put_2 base n v xs z c w hown hbase hn hz ⟨by omega, k2⟩
          · by_cases k3 : c < 55296
            · exact put_3a base n v xs z c w hown hbase hn hz ⟨by omega, k3⟩
            · by_cases k4 : c < 65536
              · exact put_3b base n v xs z c w hown hbase hn hz ⟨by omega, k4⟩
              · exact put_4 base n v xs z c w hown hbase hn hz ⟨by omega, by omega⟩

theorem byteCells_app (a b : List UInt8) : byteCells' (a ++ b) = byteCells' a ++ byteCells' b := by simp [byteCells']
theorem encAll_app (xs ys : List Int) : encAll (xs ++ ys) = encAll xs ++ encAll ys := by
  induction xs with
  | nil => rfl
  | cons x xs ih => rw [List.cons_append, encAll_cons, encAll_cons, ih, List.append_assoc]
theorem encAll_snoc (xs : List Int) (z : Int) : encAll (xs ++ [z]) = encAll xs ++ encN (clean z) := by
  rw [encAll_app, encAll_cons, encAll_nil, List.append_nil, enc_encN]
theorem encAll_len (xs : List Int) : (encAll xs).length ≤ 4 * xs.length := by
  have := runesBytes_size_le xs
  rw [← size_list] at this
  exact this

set_option maxRecDepth 100000 in
set_option maxHeartbeats 2000000 in
theorem refText_any (w : World) (A : Option Addr) (n c : Nat) (zs : List Int) (h : Rd w w.heap.size 1 A n (zs.map (Value.int .i32))) (hn : n ≤ 35184372087808) :
    Calls Tryz.prog 81 #[.slice A n c] w fun e w' => e = .returned (.string (runesBytes zs)) ∧ Below w.heap.size w w' := by
  have hl : zs.length = n := by have := h.1; simpa using this
  have H := Lib.hid h
  have Hl := Lib.hid hl
  have Hn := Lib.hid hn
  have hnb : (n : Int) ≤ 9223372036854775807 := by omega
  obtain ⟨B, hB⟩ : ∃ B, w.heap.size = B := ⟨_, rfl⟩
  have HB := Lib.hid hB
  rw [hB] at H ⊢
  clear h hl hn hB
  go_enter Tryz.func81, Tryz.ntmps81
  go_wp2
  go_loopw [3, 4] (fun v i wr => ∃ k : Nat, k ≤ n ∧ i = .int .i64 k ∧ wr.ownsRow B 5 1 v (encAll (zs.take k)).length (byteCells' (encAll (zs.take k))) ∧ Below B w wr) (fun _ i _ => n - (RowKit.intOf i).toNat)
  case atStart => exact ⟨0, Nat.zero_le _, rfl, World.ownsRow_nil _ _ _ _, Below.refl _ _⟩
  case round =>
    obtain ⟨k, hk, rfl, hown, hbw⟩ := hrel
    by_cases hkn : k < n
    · have hkz : k < zs.length := by rw [Hl.out]; exact hkn
      obtain ⟨a, rfl, _, ha⟩ := (H.out.below hbw).at_ (k := k) (by simpa using hkz)
      simp only [List.getElem_map] at ha
      have Hsn := Lib.hid (encAll_snoc (zs.take k) zs[k])
      have Htk := Lib.hid (List.take_succ_eq_append_getElem hkz)
      have Hle := Lib.hid (encAll_len (zs.take k))
      obtain ⟨z, hze⟩ : ∃ z, zs[k] = z := ⟨_, rfl⟩
      rw [hze] at ha Hsn Htk
      have Hput := Lib.hid (put_any B _ _ _ z wr hown (by have := hbw.size; have := HB.out; omega) (by have h1 := Hle.out; have h2 := Hn.out; have h3 : (zs.take k).length ≤ k := List.length_take_le _ _; omega))
      have Hown := Lib.hid hown
      clear hze hkz hown
      go_wp2_with fail
      refine Hput.out.mono ?_
      rintro e w1 ⟨v1, rfl, hown1, hb1⟩
      have Hown1 := Lib.hid hown1
      clear hown1
      go_wp2_with fail
      go_roundw
      case rel =>
        refine ⟨k + 1, by omega, by go_num, ?_, hbw.trans hb1⟩
        rw [Htk.out, Hsn.out, byteCells_app, List.length_append]
        exact Hown1.out
      case measure => simp [RowKit.intOf]; omega
    · obtain rfl : k = n := by omega
      obtain ⟨A2, c2, rfl, _, _⟩ := own_shape hown
      have htk : zs.take k = zs := List.take_of_length_le (by rw [Hl.out]; omega)
      rw [htk] at hown
      have R := Rd.own hown
      have hcv : (convert 37 9 (.slice A2 (encAll zs).length c2)).run Tryz.prog wr = .ok (.string ⟨(encAll zs).toArray⟩) wr := by
        rcases A2 with _ | a
        · have h0 : (encAll zs).length = 0 := by
            rcases Nat.eq_zero_or_pos (encAll zs).length with h0 | h0
            · exact h0
            · obtain ⟨a, e, _⟩ := R.addr h0
              cases e
          have : encAll zs = [] := List.eq_nil_of_length_eq_zero h0
          rw [this, run_convert_bytes_string wr _ _ 5 _ _ _ Tryz.underlying37 Tryz.underlying5 Tryz.underlying9]
          rfl
        · exact run_convert_bytes_back wr _ _ 5 a c2 (encAll zs) Tryz.underlying37 Tryz.underlying5 Tryz.underlying9 (fun j hj => by
            obtain ⟨a', e, _, hc⟩ := R.addr (by omega)
            injection e with e
            subst e
            exact hc j _ (by simp [byteCells', hj]))
      have hfin : (⟨(encAll zs).toArray⟩ : ByteArray) = runesBytes zs := by
        unfold encAll
        cases runesBytes zs
        simp
      rw [hfin] at hcv
      rw [htk]
      obtain ⟨N, hN⟩ : ∃ N, (encAll zs).length = N := ⟨_, rfl⟩
      rw [hN] at hcv ⊢
      clear hfin R hown htk hN
      go_wp2
      go_ret
      exact ⟨rfl, hbw⟩

end Go.Proofs.YtjkakemlhhieoaaGreatDoor
