/- Spans: what of a stretch are characters, as a row of one's own. -/
import Derived.Test.YthakdkpgobloiabPair
import Derived.Test.YthakdkpgobloiabMem
import Derived.OwnWalk
import Derived.Laws.AppendOwn
namespace Go.Proofs.Ythakdkpgobloiab
open Go.RowKit Go.Lib

def spCell (e : Nat × Nat) : List Value := [.int .i32 (e.1 : Int), .int .i32 (e.2 : Int)]
def spCells (l : List (Nat × Nat)) : List Value := l.flatMap spCell
theorem spCells_len (l : List (Nat × Nat)) : (spCells l).length = l.length * 2 := by
  induction l with
  | nil => rfl
  | cons e t ih => simp only [spCells, List.flatMap_cons, List.length_append, List.length_cons] at ih ⊢; rw [ih]; simp [spCell]; omega
theorem spCells_append (a b : List (Nat × Nat)) : spCells (a ++ b) = spCells a ++ spCells b := by simp [spCells]
theorem spCells_one (l : List (Nat × Nat)) : ∀ u ∈ spCells l, u.oneCell' = true := by
  intro u hu
  simp only [spCells, List.mem_flatMap, spCell, List.mem_cons, List.not_mem_nil, or_false] at hu
  obtain ⟨e, _, rfl | rfl⟩ := hu <;> rfl
/-- of the numbers from a up to b the characters, as stretches -/
def charsOf (a b : Nat) : List (Nat × Nat) := (if a ≤ min b 55295 then [(a, min b 55295)] else []) ++ (if max a 57344 ≤ b then [(max a 57344, b)] else [])
theorem span_info : (Try.prog.info? 35).map (fun i => (i.zero, i.size, i.bytes)) = some (some (.agg #[.int .i32 0, .int .i32 0]), 2, 8) := by kernel_rfl
set_option maxRecDepth 100000 in
set_option maxHeartbeats 2000000 in
theorem characters_any (a b : Nat) (ha : a ≤ 1114111) (hb : b ≤ 1114111) (w : World) : Calls Try.prog 39 #[.int .i32 (a : Int), .int .i32 (b : Int)] w fun e w' =>
    ∃ v, e = .returned v ∧ w'.ownsRow w.heap.size 35 2 v (charsOf a b).length (spCells (charsOf a b)) ∧ Below w.heap.size w w' := by
  obtain ⟨i0, hi, hz0, hz1, hz2⟩ := info_parts span_info
  obtain ⟨m, hm⟩ : ∃ m : Nat, m = min b 55295 := ⟨_, rfl⟩
  obtain ⟨x, hx⟩ : ∃ x : Nat, x = max a 57344 := ⟨_, rfl⟩
  have hmi : min (b : Int) 55295 = (m : Int) := by omega
  have hxi : max (a : Int) 57344 = (x : Int) := by omega
  unfold charsOf
  rw [← hm, ← hx]
  clear hm hx
  by_cases h1 : a ≤ m
  · have z1 : (a : Int) ≤ (m : Int) := by omega
    rw [if_pos h1]
    by_cases h2 : x ≤ b
    · have z2 : (x : Int) ≤ (b : Int) := by omega
      rw [if_pos h2]
      clear h1 h2
      go_enter Try.func39, Try.ntmps39
      go_wp2_with (at_builtin; first | (refine wpList_append_own _ rfl _ _ 31 rfl w.heap.size 35 i0 _ 2 8 Try.underlying31 hi hz0 hz1 hz2 rfl (by decide) (.slice none 0 0) 0 [] rfl (World.ownsRow_nil _ _ _ _) ⟨w.heap.size, 0, none⟩ 1 1 [.int .i32 (a : Int), .int .i32 (m : Int)] rfl rfl (new_cells w [.int .i32 (a : Int), .int .i32 (m : Int)] 35) (by simp [Value.oneCell']) (by unfold maxLen; omega) (by omega) (by simp) ?_; intro v1 w1 own1 g1 _; have B1 := Lib.hid (((Below.refl w.heap.size w).alloc (Nat.le_refl _) (.cells #[.int .i32 (a : Int), .int .i32 (m : Int)] 35)).grown g1 (by simp) (fun k hk => by simp [Value.ownBlock] at hk)); have Own1 := Lib.hid own1; clear own1 g1) | (refine wpList_append_own _ rfl _ _ 31 rfl w.heap.size 35 i0 _ 2 8 Try.underlying31 hi hz0 hz1 hz2 rfl (by decide) _ _ _ rfl (Own1.out.alloc _) ⟨w1.heap.size, 0, none⟩ 1 1 [.int .i32 (x : Int), .int .i32 (b : Int)] rfl rfl (new_cells w1 [.int .i32 (x : Int), .int .i32 (b : Int)] 35) (by simp [Value.oneCell']) (by unfold maxLen; omega) (by omega) (by have := B1.out.size; simp; omega) ?_; intro v2 w2 own2 g2 _; have B2 := Lib.hid ((B1.out.alloc B1.out.size (.cells #[.int .i32 (x : Int), .int .i32 (b : Int)] 35)).grown g2 (by have := B1.out.size; simp; omega) (fun k hk => (Own1.out.lt k hk).1)); have Own2 := Lib.hid own2; clear own2 g2))
      go_ret
      exact ⟨_, rfl, Own2.out, B2.out⟩
    · have z2 : ¬ (x : Int) ≤ (b : Int) := by omega
      rw [if_neg h2]
      clear h1 h2
      go_enter Try.func39, Try.ntmps39
      go_wp2_with (at_builtin; (refine wpList_append_own _ rfl _ _ 31 rfl w.heap.size 35 i0 _ 2 8 Try.underlying31 hi hz0 hz1 hz2 rfl (by decide) (.slice none 0 0) 0 [] rfl (World.ownsRow_nil _ _ _ _) ⟨w.heap.size, 0, none⟩ 1 1 [.int .i32 (a : Int), .int .i32 (m : Int)] rfl rfl (new_cells w [.int .i32 (a : Int), .int .i32 (m : Int)] 35) (by simp [Value.oneCell']) (by unfold maxLen; omega) (by omega) (by simp) ?_; intro v1 w1 own1 g1 _; have B1 := Lib.hid (((Below.refl w.heap.size w).alloc (Nat.le_refl _) (.cells #[.int .i32 (a : Int), .int .i32 (m : Int)] 35)).grown g1 (by simp) (fun k hk => by simp [Value.ownBlock] at hk)); have Own1 := Lib.hid own1; clear own1 g1))
      go_ret
      exact ⟨_, rfl, Own1.out, B1.out⟩
  · have z1 : ¬ (a : Int) ≤ (m : Int) := by omega
    rw [if_neg h1]
    by_cases h2 : x ≤ b
    · have z2 : (x : Int) ≤ (b : Int) := by omega
      rw [if_pos h2]
      clear h1 h2
      go_enter Try.func39, Try.ntmps39
      go_wp2_with (at_builtin; (refine wpList_append_own _ rfl _ _ 31 rfl w.heap.size 35 i0 _ 2 8 Try.underlying31 hi hz0 hz1 hz2 rfl (by decide) (.slice none 0 0) 0 [] rfl (World.ownsRow_nil _ _ _ _) ⟨w.heap.size, 0, none⟩ 1 1 [.int .i32 (x : Int), .int .i32 (b : Int)] rfl rfl (new_cells w [.int .i32 (x : Int), .int .i32 (b : Int)] 35) (by simp [Value.oneCell']) (by unfold maxLen; omega) (by omega) (by simp) ?_; intro v1 w1 own1 g1 _; have B1 := Lib.hid (((Below.refl w.heap.size w).alloc (Nat.le_refl _) (.cells #[.int .i32 (x : Int), .int .i32 (b : Int)] 35)).grown g1 (by simp) (fun k hk => by simp [Value.ownBlock] at hk)); have Own1 := Lib.hid own1; clear own1 g1))
      go_ret
      exact ⟨_, rfl, Own1.out, B1.out⟩
    · have z2 : ¬ (x : Int) ≤ (b : Int) := by omega
      rw [if_neg h2]
      clear h1 h2
      go_enter Try.func39, Try.ntmps39
      go_wp2_with fail
      go_ret
      exact ⟨_, rfl, World.ownsRow_nil _ _ _ _, Below.refl _ _⟩
end Go.Proofs.Ythakdkpgobloiab
