/- JoinMutual: of every list of runes: of two letters with nothing but marks between the first is joined behind just if the second is joined ahead: true. No condition. -/
import Derived.Test.YtjecbchnckknkaaCloseP
import Derived.Test.YtjecbchnckknkaaPgJ
import Derived.Test.YtjecbchnckknkaaLwUJ
import Derived.Test.YtjecbchnckknkaaReach11
set_option linter.unusedSimpArgs false
set_option linter.unusedVariables false
namespace Go.Proofs.Ytjecbchnckknkaa
open Go.ChangeShapes Go.WideShapes Go.ChangeAt Go.RowKit Go.Lib
namespace lawJoinMutual

set_option maxRecDepth 100000 in
theorem contract (H : Type) (enc : TypeId × Value → H) (W : World) (base : Nat) (args : Array Value) (ds gs : List (DataW H)) (before : List MemPlace)
    (hval0 : ∀ (j : Nat) t v, Try.f8.params[j]? = some t → args[j]? = some v → Value.okWide Try.prog W .any base t v)
    (hW : DataW.Whole enc Try.prog Try.f8.params.toList Rows.joinMutualSpec.vars false W args.toList ds gs before)
    (hr : (DataW.weightsEach Try.prog (Try.f8.params.toList ++ (OpenSpec.ofChange Rows.joinMutualSpec).bare.plain.varTypes Try.prog) (ds ++ gs)).all (· ≤ reachBytes) = true) :
    Calls Try.prog 8 args W fun e W' => ∃ v, e = .returned v ∧ Rows.joinMutualSpec.post enc Try.prog Try.f8 false true false false W args v W' := by
  have hval : ∀ (j : Nat) t v, Try.f8.params[j]? = some t → args[j]? = some v → Value.okWide Try.prog W .any base t v := hval0
  have hW' := hW
  obtain ⟨p, q, hA0, hV, rfl, hfz, hnd⟩ := hW
  have hA : DataW.TrodAll enc Try.prog W 0 (fun _ => true) true Try.f8.params.toList args.toList ds p := hA0
  rw [Try.params8] at hA hval
  clear hA0 hval0
  obtain ⟨v0, vs0, d0, ds0, p0, q0, hargs0, rfl, rfl, h0, r0⟩ := trodAll_cons hA
  obtain ⟨rfl, rfl, rfl⟩ := trodAll_nil r0
  obtain rfl : args = #[v0] := by cases args; simp_all
  obtain ⟨A0, n0, c0, zs0, rfl, hrd0, hnc0, hc0, hwf0, hd0⟩ := open_list Try.underlying22 Try.underlying21 (show Try.prog.cellsOf 21 = 1 by kernel_rfl) (hval 0 22 _ rfl rfl) h0
  obtain ⟨rfl, rfl⟩ := trodVars_none hV
  have hr' : (DataW.weightsEach Try.prog [22] [d0]).all (· ≤ reachBytes) = true := hr
  have hn0 : n0 ≤ 35184372087808 := by
    have h0 := hr'
    rcases hd0 with ⟨_, h, _⟩ | ⟨_, rest, hdd, hl⟩
    · omega
    · rw [hdd] at h0
      have h1 := reach_slice11 Try.underlying22 (show Try.prog.bytesOf 21 = 4 by kernel_rfl) h0
      rw [lits_len] at h1
      have := hrd0.1
      simp at this
      omega
  have hnil0 : A0 = none → c0 = 0 := fun e => by rcases hd0 with ⟨_, _, h⟩ | ⟨h, _⟩; exact h; exact absurd e h
  refine (joinMutual_anyJ joinP_is A0 n0 c0 zs0 W hrd0 hn0).mono fun e W' ⟨he, hb⟩ => ?_
  subst he
  exact ⟨_, rfl, law_post (by kernel_rfl) rfl (by kernel_rfl) hW' (fun h => by first | (subst h; rfl) | rfl) hb⟩

set_option maxRecDepth 100000 in
theorem lifted (os : Os) (started : os.Started) (H : Type) (enc : TypeId × Value → H) :
    ReturnsInHanded {} Try.checked os 8 .any (Rows.joinMutualSpec.pre6 enc Try.prog Try.f8 Rows.joinMutualRow.domain false) (Rows.joinMutualSpec.post enc Try.prog Try.f8 false true false false) := by
  refine returnsInHanded_of_calls (C := Try.checked) own started (by kernel_rfl)
    (ChangeSpec.witness6 (enc := enc) (C := Try.checked) false ⟨#[], #[.slice none 0 0], []⟩ 8 (by kernel_rfl) (by kernel_rfl) (by kernel_rfl) (by kernel_rfl)) ?_
  intro w tape i _ _ _ hok hpre _
  obtain ⟨_, _, _, fn', hfn', _, _, _, _, hval⟩ := hok
  obtain rfl : Try.f8 = fn' := Option.some.inj (Try.func8.symm.trans hfn')
  obtain ⟨_, _, ds, gs, before, hw, hr⟩ := hpre
  have hw' := DataW.Whole.of_heap (w' := w.forCall tape i) (by rfl) hw
  refine (contract H enc (w.forCall tape i) w.heap.size i.args ds gs before hval hw' hr).mono fun e W' ⟨v, he, hp⟩ => ?_
  subst he
  exact ChangeSpec.post_blind hp

/-- The statement. -/
theorem proved : Rows.JoinMutualSaid :=
  OpenClaim.holds_of_wide 8 Try.f8 rfl rfl rfl rfl rfl rfl rfl ⟨rfl, rfl, rfl, rfl, rfl⟩ rfl rfl rfl rfl rfl (by kernel_rfl) Try.func8 (by kernel_rfl)
    (of_decide_eq_true (by kernel_rfl)) (by unfold Func.isWrapper; first | (rw [if_pos (by decide +kernel)]; kernel_rfl) | (rw [if_neg (by decide +kernel)]; exact ⟨rfl, rfl⟩))
    (fun os started H enc _ => lifted os started H enc)
end lawJoinMutual
end Go.Proofs.Ytjecbchnckknkaa
