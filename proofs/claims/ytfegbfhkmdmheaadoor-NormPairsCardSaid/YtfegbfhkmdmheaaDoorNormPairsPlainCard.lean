/- NormPairs: of any two numbers and every list of numbers: what two are together is taken apart as the one and the other, Order keeps what it puts in order, and does it at once; under the card's own condition (the tables of unicode/utf8 as the program's text lays them). -/
import Derived.Test.YtfegbfhkmdmheaaDoorOpen
import Derived.Test.YtfegbfhkmdmheaaDoorPairsW
import Derived.Test.YtfegbfhkmdmheaaDoorOpenC
set_option linter.unusedSimpArgs false
set_option linter.unusedVariables false
namespace Go.Proofs.YtfegbfhkmdmheaaDoor
open Go.ChangeShapes Go.WideShapes Go.ChangeAt Go.RowKit Go.Lib
open Go.ChangeMaps (open_string)
namespace lawNormPairsPlain

set_option maxRecDepth 100000 in
theorem contract (H : Type) (enc : TypeId × Value → H) (W : World) (base : Nat) (args : Array Value) (ds gs : List (DataW H)) (before : List MemPlace)
    (hval0 : ∀ (j : Nat) t v, Tryd.f4.params[j]? = some t → args[j]? = some v → Value.okWide Tryd.prog W .any base t v)
    (hW : DataW.Whole enc Tryd.prog Tryd.f4.params.toList Rows.normPairsSpec.vars false W args.toList ds gs before) (hL : laidMetH Tryd.prog laidL W) (hr : (DataW.weightsEach Tryd.prog (Tryd.f4.params.toList ++ (OpenSpec.ofChange Rows.normPairsSpec).bare.plain.varTypes Tryd.prog) (ds ++ gs)).all (· ≤ reachBytes) = true) :
    Calls Tryd.prog 4 args W fun e W' => ∃ v, e = .returned v ∧ Rows.normPairsSpec.post enc Tryd.prog Tryd.f4 false true false false W args v W' := by
  have hT := tabs hL
  have hW' := hW
  obtain ⟨p, q, hA0, hV, rfl, hfz, hnd⟩ := hW
  have hA : DataW.TrodAll enc Tryd.prog W 0 (fun _ => true) true Tryd.f4.params.toList args.toList ds p := hA0
  have hval : ∀ (j : Nat) t v, Tryd.f4.params[j]? = some t → args[j]? = some v → Value.okWide Tryd.prog W .any base t v := hval0
  rw [Tryd.params4] at hA hval
  clear hA0 hval0
  obtain ⟨v0, vs0, d0, ds0, p0, q0, hargs0, rfl, rfl, h0, r0⟩ := trodAll_cons hA
  obtain ⟨v1, vs1, d1, ds1, p1, q1, hargs1, rfl, rfl, h1, r1⟩ := trodAll_cons r0
  obtain ⟨v2, vs2, d2, ds2, p2, q2, hargs2, rfl, rfl, h2, r2⟩ := trodAll_cons r1
  obtain ⟨rfl, rfl, rfl⟩ := trodAll_nil r2
  obtain rfl : args = #[v0, v1, v2] := by cases args; simp_all
  obtain ⟨x0, rfl, rfl, rfl, wx0⟩ := open_int Tryd.underlying21 (hval 0 21 _ rfl rfl) h0
  obtain ⟨x1, rfl, rfl, rfl, wx1⟩ := open_int Tryd.underlying21 (hval 1 21 _ rfl rfl) h1
  obtain ⟨A2, n2, c2, zs2, rfl, hrd2, hnc2, hc2, hwf2, hd2⟩ := open_list Tryd.underlying36 Tryd.underlying21 (show Tryd.prog.cellsOf 21 = 1 by kernel_rfl) (hval 2 36 _ rfl rfl) h2
  obtain ⟨rfl, rfl⟩ := trodVars_none hV
  have hx0 : -2147483648 ≤ x0 ∧ x0 ≤ 2147483647 := by
    have h := wx0
    simp [Lit.wf, IntKind.min, IntKind.max, IntKind.signed, IntKind.bits] at h
    omega
  have hx1 : -2147483648 ≤ x1 ∧ x1 ≤ 2147483647 := by
    have h := wx1
    simp [Lit.wf, IntKind.min, IntKind.max, IntKind.signed, IntKind.bits] at h
    omega
  have hr' : (DataW.weightsEach Tryd.prog [21, 21, 36] [.lit (.int .i32 x0), .lit (.int .i32 x1), d2]).all (· ≤ reachBytes) = true := hr
  have hm : ∀ x ∈ d2.weights Tryd.prog 36, x ≤ 140737488351232 := fun x hx => of_decide_eq_true (List.all_eq_true.1 hr' x (by simp only [DataW.weightsEach, List.mem_append]; exact .inr (.inr (.inl hx))))
  have hn2 : n2 ≤ 35184372087808 := by
    rcases hd2 with ⟨_, h, _⟩ | ⟨_, rest, rfl, hl⟩
    · omega
    · simp only [DataW.weights, show Tryd.prog.underlying 36 = some (.slice 21) from Tryd.underlying36, show Tryd.prog.bytesOf 21 = 4 by kernel_rfl, List.mem_cons] at hm
      have h1 := hm _ (.inl rfl)
      rw [lits_len] at h1
      have := hrd2.1
      simp at this
      omega
  have hnil2 : A2 = none → c2 = 0 := by
    intro e
    rcases hd2 with ⟨_, _, h'⟩ | ⟨h, _⟩
    · exact h'
    · exact absurd e h
  refine (normPairs_any x0 x1 zs2 A2 n2 c2 W hx0 hx1 hrd2 hnil2 (by omega) hT).mono fun e W' ⟨he, hb⟩ => ?_
  subst he
  exact ⟨_, rfl, law_post (by kernel_rfl) rfl (by kernel_rfl) hW' (fun h => by first | (subst h; rfl) | rfl) hb⟩

theorem reads (os : Os) {H : Type} (enc : TypeId × Value → H) : ∃ places, DataW.whole enc Tryd.prog ((wit os).forCall (fun _ _ => 0) ⟨#[], #[.int .i32 0, .int .i32 0, .slice none 0 0], []⟩).memory Tryd.f4.params.toList Rows.normPairsSpec.vars false #[Value.int .i32 0, .int .i32 0, .slice none 0 0].toList 8 = some ([.lit (.int .i32 0), .lit (.int .i32 0), .nil], [], places) :=
  ⟨[], by kernel_rfl⟩

set_option maxRecDepth 100000 in
theorem lifted (os : Os) (started : os.Started) (H : Type) (enc : TypeId × Value → H) (F : Stop.Interp) :
    ReturnsInHanded {} Tryd.checked os 4 .any ((OpenSpec.ofChange Rows.normPairsSpec).preRow enc Tryd.prog Tryd.f4 Rows.normPairsRow.domain false Rows.normPairsRow.laid) (((OpenSpec.ofChange Rows.normPairsSpec).at F).post enc Tryd.prog Tryd.f4 false true false false) := by
  obtain ⟨places, hx⟩ := reads os enc
  refine returnsInHanded_of_row (C := Tryd.checked) (s := OpenSpec.ofChange Rows.normPairsSpec) own started (by kernel_rfl) Tryd.func4
    (witness_row_at (enc := enc) (C := Tryd.checked) false (wit os) #[.int .i32 0, .int .i32 0, .slice none 0 0] (wit_os os) (wit_vars os _) (wit_rest os _) (by kernel_rfl)
      (OpenSpec.preRow_of_cond 8 hx (by kernel_rfl) (fun k hk => by cases hk) (by kernel_rfl) (wit_met os _))) ?_
  intro W base args ds gs before hval hW _ hcond hr hL _ _
  exact contract H enc W base args ds gs before hval hW hL hr

theorem said : Rows.NormPairsSaid :=
  OpenClaim.holds_of_cond 4 Tryd.f4 rfl rfl rfl rfl rfl rfl rfl ⟨rfl, rfl, rfl, rfl, rfl⟩ rfl rfl rfl rfl rfl (by kernel_rfl) Tryd.func4 (by kernel_rfl)
    (of_decide_eq_true (by kernel_rfl)) (by unfold Func.isWrapper; first | (rw [if_pos (by decide +kernel)]; kernel_rfl) | (rw [if_neg (by decide +kernel)]; exact ⟨rfl, rfl⟩))
    (fun os started H enc _ F => by rw [OpenClaim.pre_eq_preRow]; exact lifted os started H enc F)

theorem plain (f : FuncId) (fn : Func) (hf : Tryd.pinned.checked.prog.funcNamed "shuttle/shuttlelaw04.NormPairs" = some f) (hfn : Tryd.pinned.checked.prog.funcs[f]? = some fn) :
    false = Tryd.pinned.checked.prog.looks [] ∧ ∀ (j : Nat) t, fn.params[j]? = some t → Tryd.pinned.checked.prog.wantsStandIn t = false := by
  obtain rfl : f = 4 := Option.some.inj ((show Tryd.prog.funcNamed "shuttle/shuttlelaw04.NormPairs" = some 4 by kernel_rfl).symm.trans hf) |>.symm
  obtain rfl : fn = Tryd.f4 := (Option.some.inj (Tryd.func4.symm.trans hfn)).symm
  refine ⟨by kernel_rfl, fun j t ht => ?_⟩
  have hm := Array.mem_of_getElem? ht
  have hall : (Tryd.f4.params.toList.all fun u => !Tryd.prog.wantsStandIn u) = true := by kernel_rfl
  exact (show Tryd.prog.wantsStandIn t = false by simpa using List.all_eq_true.1 hall t (by simpa using hm))

/-- The card. -/
theorem card : Rows.NormPairsCardSaid :=
  Claim7.holds_tied_plain_at .later [] _ _ _ _ said (fun _ h => by cases h) (by kernel_rfl) (fun _ h => by cases h) normPairs_row_tie rfl ⟨rfl, rfl⟩ (by kernel_rfl) rfl plain (by kernel_rfl)
end lawNormPairsPlain
end Go.Proofs.YtfegbfhkmdmheaaDoor
