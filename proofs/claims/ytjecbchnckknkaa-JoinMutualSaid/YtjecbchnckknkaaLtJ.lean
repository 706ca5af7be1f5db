/- Layer 11, the document: Letters. -/
import Derived.Test.YtjecbchnckknkaaRdJ
set_option linter.unusedSimpArgs false
set_option linter.unusedVariables false
namespace Go.Proofs.Ytjecbchnckknkaa
open Go.RowKit Go.Lib

/-- the table's cells -/
def flatJ (l : List (Int × Int)) : List Value := l.flatMap fun e => [Value.int .i32 e.1, Value.int .i32 e.2]
theorem flatJ_get : ∀ (l : List (Int × Int)) (i : Nat) (x y : Int), l[i]? = some (x, y) → (flatJ l)[2 * i]? = some (.int .i32 x) ∧ (flatJ l)[2 * i + 1]? = some (.int .i32 y)
  | [], i, x, y, h => by simp at h
  | e :: l, 0, x, y, h => by
    obtain rfl : e = (x, y) := by simpa using h
    exact ⟨rfl, rfl⟩
  | e :: l, i + 1, x, y, h => flatJ_get l i x y (by simpa using h)
/-- where the table lies -/
def LetAt (B : Nat) (W : World) : Prop := ∀ i x y, tabJ[i]? = some (x, y) → W.cell? ⟨B, 2 * i, none⟩ = some (.int .i32 x) ∧ W.cell? ⟨B, 2 * i + 1, none⟩ = some (.int .i32 y)
set_option maxRecDepth 100000 in
set_option maxHeartbeats 4000000 in
theorem letters_anyJ (w : World) : Calls Try.prog 34 #[] w fun e w' => e = .returned (.slice (some ⟨w.heap.size, 0, none⟩) 36 36) ∧ Below w.heap.size w w' ∧ w'.heap.size = w.heap.size + 1 ∧ LetAt w.heap.size w' := by
  have HE : Hid (∀ X, X = (flatJ tabJ).toArray → Below w.heap.size w (w.alloc (.cells X 45)) ∧ (w.alloc (.cells X 45)).heap.size = w.heap.size + 1 ∧ LetAt w.heap.size (w.alloc (.cells X 45))) := Lib.hid (by
    rintro _ rfl
    refine ⟨(Below.refl _ w).alloc (Nat.le_refl _) _, World.size_alloc _ _, fun i x y h => ?_⟩
    obtain ⟨h1, h2⟩ := flatJ_get tabJ i x y h
    have e : ∀ j, (⟨w.heap.size, 0, none⟩ : Addr).add j = ⟨w.heap.size, j, none⟩ := fun j => by simp [Addr.add]; exact fun h => h.symm
    have g1 := new_cells w (flatJ tabJ) 45 _ _ h1
    have g2 := new_cells w (flatJ tabJ) 45 _ _ h2
    rw [e] at g1 g2
    exact ⟨g1, g2⟩)
  go_enter Try.func34, Try.ntmps34
  go_wp2_with fail
  go_ret
  exact ⟨rfl, HE.out _ rfl⟩
end Go.Proofs.Ytjecbchnckknkaa
