/- The map of letters with marks: its keys, and how it is asked. -/
import Derived.Test.YtfegbfhkmdmheaaDoorSplit
import Derived.Maps.OwnOps
import Derived.Maps.Views
import Derived.DeepKeys4
set_option linter.unusedSimpArgs false
set_option linter.unusedVariables false
namespace Go.Proofs.YtfegbfhkmdmheaaDoor
open Go.RowKit Go.Lib Go.Maps

theorem laidOut4 : laidOutB Tryd.prog = true := by kernel_rfl
theorem keyRow : (88 : TypeId) < Tryd.prog.types.size := of_decide_eq_true (by kernel_rfl)
theorem keyWide : (match Tryd.prog.underlying 88 with | some (.array _ _) | some (.struct _) => true | _ => false) = true := by kernel_rfl
set_option maxRecDepth 100000 in
theorem keyLaw : Keyed Tryd.prog 88 := Keyed.of_law (deep_law_laid laidOut4 (m := 2) (by omega) keyRow (by kernel_rfl) keyWide)
theorem keyIs (a b : Int) (ha : (Lit.int .i32 a).wf = true) (hb : (Lit.int .i32 b).wf = true) : keyOf Tryd.prog 88 (.agg #[.int .i32 a, .int .i32 b]) = some (.string (keyBytes [.int .i32 a, .int .i32 b])) := by
  have hu := Tryd.underlying88
  unfold keyOf
  rw [hu]
  have hk : Tryd.prog.keyType 88 = true := by kernel_rfl
  have hf : (Value.agg #[.int .i32 a, .int .i32 b]).formed Tryd.prog 88 = true := by
    have hc : Tryd.prog.cellsOf 88 = 2 := by kernel_rfl
    simp [Value.formed, hu, hc]
  simp only [hk, hf, Bool.and_self, if_true]
  obtain ⟨m, hm⟩ : ∃ m, Tryd.prog.types.size = m + 1 := Nat.exists_eq_succ_of_ne_zero (by intro e; have h := keyRow; rw [e] at h; exact absurd h (Nat.not_lt_zero _))
  have hc : Tryd.prog.cellsOf 88 = 2 := by kernel_rfl
  have h1 : Tryd.prog.cellsOf 21 = 1 := by kernel_rfl
  have he := Tryd.underlying21
  rw [hm]
  unfold Program.keyLits
  simp only [hu, Value.cells]
  rw [if_pos ⟨by rw [hc]; rfl, by decide +kernel⟩]
  simp only [List.mapM_cons, List.mapM_nil, h1]
  simp [Program.keyLits, he, ha, hb]

/-- a list of pairs and what each is together, the last one first -/
abbrev PL := List ((Int × Int) × Int)
def lookP : PL → Int → Int → Int
  | [], _, _ => 0
  | x :: t, a, b => if x.1 = (a, b) then x.2 else lookP t a b
/-- block B is a map that has what the list has -/
def MapIs (w : World) (B n : Nat) (L : PL) : Prop := ∃ D : DataW Unit, IsMap D ∧ w.ownsMap Tryd.prog 88 (plainElem Tryd.prog 21) B n D ∧
  ∀ a b kl, keyOf Tryd.prog 88 (.agg #[.int .i32 a, .int .i32 b]) = some kl → D.atKey kl (.lit (.int .i32 0)) = .lit (.int .i32 (lookP L a b))
theorem zero32 (w : World) : (zeroValue 21).run Tryd.prog w = .ok (.int .i32 0) w := by kernel_rfl
theorem MapIs.made (w : World) : MapIs (w.alloc (.map #[] 0)) w.heap.size 0 [] :=
  ⟨.map [], ⟨_, rfl⟩, World.ownsMap_made _ _ _ _, fun _ _ _ _ => rfl⟩
theorem MapIs.kept {w w' : World} {B n : Nat} {L : PL} {row : Option Nat} (h : MapIs w B n L) (hg : w.grownBy w' row) (hne : some B ≠ row) : MapIs w' B n L := by
  obtain ⟨D, h1, h2, h3⟩ := h
  exact ⟨D, h1, h2.kept hg hne, h3⟩
theorem MapIs.below {w w' : World} {B n b : Nat} {L : PL} (h : MapIs w B n L) (hb : Below b w w') (hB : B < b) : MapIs w' B n L := by
  obtain ⟨D, h1, ⟨es, clock, e1, e2⟩, h3⟩ := h
  exact ⟨D, h1, ⟨es, clock, (hb.block B hB).trans e1, e2⟩, h3⟩
theorem MapIs.lt {w : World} {B n : Nat} {L : PL} (h : MapIs w B n L) : B < w.heap.size := by
  obtain ⟨D, _, h2, _⟩ := h
  exact h2.lt
theorem MapIs.put {w' : World} {B n : Nat} {L : PL} {D : DataW Unit} (hm : IsMap D) (h3 : ∀ a b kl, keyOf Tryd.prog 88 (.agg #[.int .i32 a, .int .i32 b]) = some kl → D.atKey kl (.lit (.int .i32 0)) = .lit (.int .i32 (lookP L a b)))
    {a b v : Int} {kl : Lit} (hk : keyOf Tryd.prog 88 (.agg #[.int .i32 a, .int .i32 b]) = some kl)
    (hown : w'.ownsMap Tryd.prog 88 (plainElem Tryd.prog 21) B n (D.put kl (.lit (.int .i32 v)))) : MapIs w' B n (((a, b), v) :: L) := by
  refine ⟨_, ?_, hown, fun a' b' kl' hk' => ?_⟩
  · obtain ⟨es, rfl⟩ := hm
    exact ⟨_, rfl⟩
  · unfold lookP
    by_cases e : (a, b) = (a', b')
    · rw [if_pos e]
      cases e
      rw [hk] at hk'
      cases hk'
      exact atKey_put_same hm (keyLaw.key hk) _ _
    · rw [if_neg e]
      rw [atKey_put_other (fun ek => e ?_)]
      · exact h3 a' b' kl' hk'
      · subst ek
        have := keyLaw.inj hk hk'
        simp at this
        rw [this.1, this.2]
end Go.Proofs.YtfegbfhkmdmheaaDoor
