/- PairNests: of every two lists (characters, kinds) that come in within the bound of the second form: pairs lie one within the other or apart; no place is in two; their characters are one another's: true. -/
import Derived.Test.YtkcckophnamajaaCloseP
import Derived.Test.YtkcckophnamajaaLwN9
import Derived.Test.YtkcckophnamajaaBulkG
import Derived.JoinedCond
set_option linter.unusedSimpArgs false
set_option linter.unusedVariables false
namespace Go.Proofs.Ytkcckophnamajaa
open Go.ChangeShapes Go.WideShapes Go.ChangeAt Go.RowKit Go.Lib
namespace lawPairNests

set_option maxRecDepth 100000 in
theorem contract (H : Type) (enc : TypeId × Value → H) (W : World) (base : Nat) (args : Array Value) (ds gs : List (DataW H)) (before : List MemPlace)
    (hval0 : ∀ (j : Nat) t v, Try.f5.params[j]? = some t → args[j]? = some v → Value.okWide Try.prog W .any base t v)
    (hW : DataW.Whole enc Try.prog Try.f5.params.toList Rows.pairNestsSpec.vars false W args.toList ds gs before) (hk : Rows.uptoSmall H (ds ++ gs) = true) :
    Calls Try.prog 5 args W fun e W' => ∃ v, e = .returned v ∧ Rows.pairNestsSpec.post enc Try.prog Try.f5 false true false false W args v W' := by
  have hval : ∀ (j : Nat) t v, Try.f5.params[j]? = some t → args[j]? = some v → Value.okWide Try.prog W .any base t v := hval0
  have hW' := hW
  obtain ⟨p, q, hA0, hV, rfl, hfz, hnd⟩ := hW
  have hA : DataW.TrodAll enc Try.prog W 0 (fun _ => true) true Try.f5.params.toList args.toList ds p := hA0
  rw [Try.params5] at hA hval
  clear hA0 hval0
  obtain ⟨v0, vs0, d0, ds0, p0, q0, hargs0, rfl, rfl, h0, r0⟩ := trodAll_cons hA
  obtain ⟨v1, vs1, d1, ds1, p1, q1, hargs1, rfl, rfl, h1, r1⟩ := trodAll_cons r0
  obtain ⟨rfl, rfl, rfl⟩ := trodAll_nil r1
  obtain rfl : args = #[v0, v1] := by cases args; simp_all
  obtain ⟨A0, n0, c0, zs0, rfl, hrd0, hnc0, hc0, hwf0, hd0⟩ := open_list Try.underlying22 Try.underlying21 (show Try.prog.cellsOf 21 = 1 by kernel_rfl) (hval 0 22 _ rfl rfl) h0
  obtain ⟨A1, n1, c1, zs1, rfl, hrd1, hnc1, hc1, hwf1, hd1⟩ := open_list Try.underlying23 Try.underlying33 (show Try.prog.cellsOf 33 = 1 by kernel_rfl) (hval 1 23 _ rfl rfl) h1
  obtain ⟨rfl, rfl⟩ := trodVars_none hV
  have hk' : Rows.uptoSmall H [d0, d1] = true := hk
  have hb := bulk_two9 hk'
  have hn0 : n0 ≤ 1048576 := by
    have h0 := hb.1
    rcases hd0 with ⟨_, h, _⟩ | ⟨_, rest, hdd, hl⟩
    · omega
    · rw [hdd] at h0
      have h1 := bulk_slice9 h0
      rw [lits_len] at h1
      have := hrd0.1
      simp at this
      omega
  have hnil0 : A0 = none → c0 = 0 := fun e => by rcases hd0 with ⟨_, _, h⟩ | ⟨h, _⟩; exact h; exact absurd e h
  have hn1 : n1 ≤ 1048576 := by
    have h0 := hb.2
    rcases hd1 with ⟨_, h, _⟩ | ⟨_, rest, hdd, hl⟩
    · omega
    · rw [hdd] at h0
      have h1 := bulk_slice9 h0
      rw [lits_len] at h1
      have := hrd1.1
      simp at this
      omega
  have hnil1 : A1 = none → c1 = 0 := fun e => by rcases hd1 with ⟨_, _, h⟩ | ⟨h, _⟩; exact h; exact absurd e h
  refine (pairNests_walk A0 A1 n0 c0 n1 c1 zs0 zs1 W hrd0 hrd1 hn0 hn1 hnc0 hnc1).mono fun e W' ⟨he, hb⟩ => ?_
  subst he
  exact ⟨_, rfl, law_post (by kernel_rfl) rfl (by kernel_rfl) hW' (fun h => by first | (subst h; rfl) | rfl) hb⟩

set_option maxRecDepth 100000 in
theorem lifted (os : Os) (started : os.Started) (H : Type) (enc : TypeId × Value → H) (F : Stop.Interp) :
    ReturnsInHanded {} Try.checked os 5 .any ((Rows.OpenSpec.upto Rows.pairNestsSpec).pre6 enc Try.prog Try.f5 Rows.pairNestsUptoRow.domain false) (((Rows.OpenSpec.upto Rows.pairNestsSpec).at F).post enc Try.prog Try.f5 false true false false) := by
  refine returnsInHanded_of_cond (C := Try.checked) (s := Rows.OpenSpec.upto Rows.pairNestsSpec) (k := Rows.uptoSmall) rfl own started (by kernel_rfl) Try.func5
    (OpenSpec.witness (enc := enc) (C := Try.checked) (s := Rows.OpenSpec.upto Rows.pairNestsSpec) (k := Rows.uptoSmall) rfl false ⟨#[], #[.slice none 0 0, .slice none 0 0], []⟩ 8 (by kernel_rfl) (by kernel_rfl) (by kernel_rfl)
      (x := ([.nil, .nil], [], [])) (by kernel_rfl) rfl (by kernel_rfl)) ?_
  intro W base args ds gs before hval hW _ hk _
  exact contract H enc W base args ds gs before hval hW hk

/-- The statement. -/
theorem proved : Rows.PairNestsUptoSaid :=
  OpenClaim.holds_of_cond 5 Try.f5 rfl rfl rfl rfl rfl rfl rfl ⟨rfl, rfl, rfl, rfl, rfl⟩ rfl rfl rfl rfl rfl (by kernel_rfl) Try.func5 (by kernel_rfl)
    (of_decide_eq_true (by kernel_rfl)) (by unfold Func.isWrapper; first | (rw [if_pos (by decide +kernel)]; kernel_rfl) | (rw [if_neg (by decide +kernel)]; exact ⟨rfl, rfl⟩))
    (fun os started H enc _ F => lifted os started H enc F)
end lawPairNests
end Go.Proofs.Ytkcckophnamajaa
