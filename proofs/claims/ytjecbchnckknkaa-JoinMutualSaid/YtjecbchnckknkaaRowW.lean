/- Layer 8: a row of classes of one's own at a place; what a rule leaves behind. -/
import Derived.Test.YtjecbchnckknkaaWkP
import Derived.Test.YtjecbchnckknkaaRows
import Derived.WalkKit
set_option linter.unusedSimpArgs false
set_option linter.unusedVariables false
namespace Go.Proofs.Ytjecbchnckknkaa
open Go.RowKit Go.Lib

abbrev i8s (l : List Int) : List Value := l.map (Value.int .i8)
theorem row_at {w : World} {B n c : Nat} {A : Option Addr} {p t : List Int} {k : Int} (h : w.ownsRow B 27 1 (.slice A n c) n (i8s (p ++ k :: t))) :
    ∃ g, A = some ⟨g, 0, none⟩ ∧ p.length < n ∧ n ≤ c ∧ c ≤ maxLen ∧ w.cell? ⟨g, p.length, none⟩ = some (.int .i8 k) ∧ w.frozen? ⟨g, p.length, none⟩ = false ∧
      ∀ v, (w.setCell ⟨g, p.length, none⟩ (.int .i8 v)).ownsRow B 27 1 (.slice A n c) n (i8s (p ++ v :: t)) ∧ w.grownBy (w.setCell ⟨g, p.length, none⟩ (.int .i8 v)) (Value.ownBlock (.slice A n c)) := by
  have hl : (p ++ k :: t).length = n := by have := h.1; simpa using this
  simp only [List.length_append, List.length_cons] at hl
  obtain ⟨g, cap, hv, _, _⟩ := h.form (by omega)
  injection hv with hA _ hc
  subst hA hc
  obtain ⟨_, _, he, h1, h2⟩ := own_shape h
  injection he with _ _ he
  subst he
  refine ⟨g, rfl, by omega, h1, h2, ?_, h.frozenAt _, fun v => ?_⟩
  · rw [h.cellAt _ (by omega), List.getElem?_map, List.getElem?_append_right (Nat.le_refl _), Nat.sub_self]
    rfl
  · obtain ⟨s1, t1⟩ := h.stored p.length (.int .i8 v)
    rw [← List.map_set, List.set_append_right _ _ (Nat.le_refl _), Nat.sub_self] at s1
    exact ⟨s1, t1⟩

theorem own_caps {w : World} {B n c : Nat} {e : TypeId} {z m : Nat} {A : Option Addr} {xs : List Value} (h : w.ownsRow B e z (.slice A n c) m xs) : n ≤ c ∧ c ≤ maxLen := by
  rcases h.2 with ⟨h1, _⟩ | ⟨g, cap, cur, h1, _, _, h3, h4, _⟩
  · cases h1
    exact ⟨Nat.le_refl _, Nat.zero_le _⟩
  · cases h1
    exact ⟨h3, h4⟩
/-- what a rule leaves: the list turned, all else as it was -/
def RuleAt (B : Nat) (A : Option Addr) (n c : Nat) (ys : List Int) (w : World) (e : Ending) (w' : World) : Prop :=
  e = .returned (.tuple #[]) ∧ w'.ownsRow B 27 1 (.slice A n c) n (i8s ys) ∧ w.grownBy w' (Value.ownBlock (.slice A n c))

theorem tr_next {σ : Type} {f : σ → Int → Int × σ} {s : σ} {p t : List Int} {k v : Int} {st : σ} (h : f (fin f s p) k = (v, st)) :
    fin f s (p ++ [k]) = st ∧ tr f s (p ++ [k]) ++ t = tr f s p ++ v :: t := by
  rw [fin_snoc, tr_snoc, h]
  exact ⟨rfl, by simp⟩
theorem below_DD {B : Nat} {w w' : World} (h : Below B w w') : Below B w w'.drew := ⟨h.os, h.tape, h.output, h.size, h.block⟩
theorem snoc_len (p : List Int) (k : Int) : (((p ++ [k]).length : Nat) : Int) = (p.length : Int) + 1 := by simp
theorem i64_next {i n c : Nat} (h : i < n) (h1 : n ≤ c) (h2 : c ≤ maxLen) : IntKind.i64.wrap ((i : Int) + 1) = (i : Int) + 1 := by
  unfold maxLen at h2
  exact IntWalk.i64_in _ (by omega)
end Go.Proofs.Ytjecbchnckknkaa
