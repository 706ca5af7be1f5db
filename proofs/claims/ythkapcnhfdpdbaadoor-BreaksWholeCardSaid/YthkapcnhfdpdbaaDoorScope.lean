/- A scope with several labels: what holds at a jump to each of them, and a measure that every pass lowers. -/
import Derived.Scope
import Derived.ScopeJumps
import Derived.WalkMore
set_option linter.unusedSimpArgs false
set_option linter.unusedVariables false
namespace Go.Proofs.YthkapcnhfdpdbaaDoor

/-- as Q; by a goto to label l: J l -/
def toLabel (J : Nat → Act → World → Prop) (Q : Exit → Act → World → Prop) : Exit → Act → World → Prop
  | .goto l, a, w => J l a w
  | e, a, w => Q e a w

variable {P : Program} {a : Act} {w : World} {Q : Exit → Act → World → Prop}
@[go_sem] theorem toLabel_normal (J : Nat → Act → World → Prop) : toLabel J Q .normal a w = Q .normal a w := rfl
@[go_sem] theorem toLabel_ret (J : Nat → Act → World → Prop) : toLabel J Q .ret a w = Q .ret a w := rfl
@[go_sem] theorem toLabel_exit (J : Nat → Act → World → Prop) (id : Nat) : toLabel J Q (.exit id) a w = Q (.exit id) a w := rfl
@[go_sem] theorem toLabel_panic (J : Nat → Act → World → Prop) (ch : List PanicEntry) : toLabel J Q (.panic ch) a w = Q (.panic ch) a w := rfl
@[go_sem] theorem toLabel_goto (J : Nat → Act → World → Prop) (l : Nat) : toLabel J Q (.goto l) a w = J l a w := rfl

theorem scope_labels {c : Code} (J : Nat → Act → World → Prop) (μ : Nat → Act → World → Nat) (rest : Nat → Code) (hf : ∀ l a w, J l a w → findLabel c l = some (rest l))
    (first : c.wp P (toLabel J Q) a w)
    (pass : ∀ l a w, J l a w → (rest l).wp P (toLabel (fun l' a' w' => J l' a' w' ∧ μ l' a' w' < μ l a w) Q) a w) : (Code.scope c).wp P Q a w := by
  intro b k cs
  have key : ∀ n l a w, μ l a w = n → J l a w → ∃ e a' w', Q e a' w' ∧ Arrives P (lone (b.at a (.code (rest l) :: .inScope c :: k)) cs w) b k cs e a' w' := by
    intro n
    induction n using Nat.strongRecOn with
    | _ n ih =>
      intro l a w hn hJ
      obtain ⟨e, a₁, w₁, hq, harr⟩ := pass l a w hJ b (.inScope c :: k) cs
      cases e with
      | goto l' =>
        have hj : J l' a₁ w₁ ∧ μ l' a₁ w₁ < μ l a w := hq
        obtain ⟨e₂, a₂, w₂, hq₂, harr₂⟩ := ih _ (hn ▸ hj.2) l' a₁ w₁ rfl hj.1
        have hg : gotoIn l' (.inScope c :: k) = some (.code (rest l') :: .inScope c :: k) := by simp [gotoIn, hf l' a₁ w₁ hj.1]
        exact ⟨e₂, a₂, w₂, hq₂, .of_steps (harr _ hg) harr₂⟩
      | normal => exact ⟨.normal, a₁, w₁, hq, Steps.trans harr (.one step_inScope)⟩
      | exit id => exact ⟨.exit id, a₁, w₁, hq, fun k' hk => harr k' (by simp [exitTo, hk])⟩
      | ret => exact ⟨_, a₁, w₁, hq, harr⟩
      | panic ch => exact ⟨_, a₁, w₁, hq, harr⟩
      | outgrown => exact ⟨_, a₁, w₁, hq, harr⟩
  obtain ⟨e, a₁, w₁, hq, harr⟩ := first b (.inScope c :: k) cs
  cases e with
  | goto l' =>
    have hj : J l' a₁ w₁ := hq
    obtain ⟨e₂, a₂, w₂, hq₂, harr₂⟩ := key _ l' a₁ w₁ rfl hj
    have hg : gotoIn l' (.inScope c :: k) = some (.code (rest l') :: .inScope c :: k) := by simp [gotoIn, hf l' a₁ w₁ hj]
    exact ⟨e₂, a₂, w₂, hq₂, .of_steps (.head step_scope (harr _ hg)) harr₂⟩
  | normal => exact ⟨.normal, a₁, w₁, hq, .head step_scope (Steps.trans harr (.one step_inScope))⟩
  | exit id => exact ⟨.exit id, a₁, w₁, hq, fun k' hk => .head step_scope (harr k' (by simp [exitTo, hk]))⟩
  | ret => exact ⟨_, a₁, w₁, hq, .of_steps (.one step_scope) harr⟩
  | panic ch => exact ⟨_, a₁, w₁, hq, .of_steps (.one step_scope) harr⟩
  | outgrown => exact ⟨_, a₁, w₁, hq, .of_steps (.one step_scope) harr⟩
/-- the same, each label's rest as it is found -/
theorem scope_found {c : Code} (J : Nat → Act → World → Prop) (μ : Nat → Act → World → Nat) (hf : ∀ l a w, J l a w → (findLabel c l).isSome = true)
    (first : c.wp P (toLabel J Q) a w)
    (pass : ∀ l a w rest, J l a w → findLabel c l = some rest → rest.wp P (toLabel (fun l' a' w' => J l' a' w' ∧ μ l' a' w' < μ l a w) Q) a w) : (Code.scope c).wp P Q a w :=
  scope_labels J μ (fun l => (findLabel c l).getD .skip) (fun l a w h => by
    have := hf l a w h
    cases e : findLabel c l with
    | none => rw [e] at this; cases this
    | some r => rfl) first (fun l a w h => by
    have := hf l a w h
    refine pass l a w _ h ?_
    cases e : findLabel c l with
    | none => rw [e] at this; cases this
    | some r => rfl)
end Go.Proofs.YthkapcnhfdpdbaaDoor
