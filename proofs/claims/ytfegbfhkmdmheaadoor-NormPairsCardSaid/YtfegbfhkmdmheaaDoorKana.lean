/- The kana: kanaParts, walked by its switches' law. -/
import Derived.Test.YtfegbfhkmdmheaaDoorNParts
set_option linter.unusedSimpArgs false
set_option linter.unusedVariables false
namespace Go.Proofs.YtfegbfhkmdmheaaDoor
open Go.RowKit Go.Lib Go.Great

section
variable {P : Program}
theorem run_sub {ρ : Operand → Value} {o : Oper} {w : World} {t u : TypeId} {x y : Operand} {k : IntKind} {p q : Int} (ho : o.op = .binOp .sub t x y u) (hx : ρ x = .int k p) (hy : ρ y = .int k q) :
    (execOp ρ o).run P w = .ok (.value (.int k (k.wrap (p - q)))) w := by
  simp [execOp, ho, hx, hy, eqGuard, binOp_sub, Op.intArith]
theorem run_sub' {ρ : Operand → Value} {o : Oper} {w : World} {t u : TypeId} {x y : Operand} {k : IntKind} {p q r : Int} (hw : k.wrap (p - q) = r) (ho : o.op = .binOp .sub t x y u) (hx : ρ x = .int k p) (hy : ρ y = .int k q) :
    (execOp ρ o).run P w = .ok (.value (.int k r)) w := by
  rw [← hw]
  exact run_sub ho hx hy
end

set_option maxRecDepth 100000 in
theorem kana_any (x : Int) (h1 : 12352 ≤ x) (h2 : x < 12544) (w : World) :
    Calls Tryd.prog 93 #[.int .i32 x] w fun e w' => e = .returned (.tuple #[.int .i32 (kanaZ x).1, .int .i32 (kanaZ x).2]) ∧ w' = w := by
  obtain ⟨L, hL⟩ : ∃ L, kanaL x = L := ⟨_, rfl⟩
  have hLd : (12448 ≤ x ∧ L = x - 96) ∨ (¬ 12448 ≤ x ∧ L = x) := by
    rw [← hL]
    unfold kanaL
    by_cases h : 12448 ≤ x
    · exact .inl ⟨h, if_pos h⟩
    · exact .inr ⟨h, if_neg h⟩
  have w1 : IntKind.i32.wrap (x - 1) = x - 1 := IntWalk.i32_in _ (by omega)
  have w2 : IntKind.i32.wrap (x - 2) = x - 2 := IntWalk.i32_in _ (by omega)
  have w3 : IntKind.i32.wrap (L - 1) = L - 1 := IntWalk.i32_in _ (by omega)
  have w4 : IntKind.i32.wrap (L - 2) = L - 2 := IntWalk.i32_in _ (by omega)
  have w5 : IntKind.i32.wrap (x - 96) = x - 96 := IntWalk.i32_in _ (by omega)
  unfold kanaZ
  rw [hL]
  obtain ⟨R, hR⟩ : ∃ R, (bif hasI kanaV (L - 1) then (x - 1, 12441) else bif hasI kanaH (L - 2) then (x - 2, 12442) else ((0 : Int), (0 : Int))) = R := ⟨_, rfl⟩
  rw [hR]
  refine calls_of_wp Tryd.func93 rfl ?_
  have hres : Tryd.f93.results = #[.tmp 2, .tmp 3] := rfl
  have hrun : ∀ a' : Act, (results Tryd.f93 a'.tmps).run Tryd.prog w = .ok (.tuple #[a'.eval (.tmp 2), a'.eval (.tmp 3)]) w := fun a' => by
    simp [results, hres, go_sem, Act.eval]
  have hret : ∀ (a' : Act) (u v : Int), a'.defers = [] → a'.eval (.tmp 2) = .int .i32 u → a'.eval (.tmp 3) = .int .i32 v → R = (u, v) →
      bodyPost Tryd.prog Tryd.f93 (fun e w' => e = .returned (.tuple #[.int .i32 R.1, .int .i32 R.2]) ∧ w' = w) .ret a' w := by
    intro a' u v hd e1 e2 hh
    refine bodyPost_ret (hrun a') hd ?_
    rw [e1, e2, hh]
    exact ⟨rfl, rfl⟩
  obtain ⟨a, ha⟩ : ∃ a : Act, a = { tmps := #[Value.int .i32 x] ++ Array.replicate (Tryd.f93.ntmps - (#[Value.int .i32 x] : Array Value).size) undef, defers := [] } := ⟨_, rfl⟩
  have hnt : Tryd.f93.ntmps = 45 := rfl
  have hsa : a.tmps.size = 45 := by rw [ha, hnt]; simp
  have hda : a.defers = [] := by rw [ha]
  have he0 : a.eval (.tmp 0) = .int .i32 x := by rw [ha]; simp [Act.eval, Array.getD]
  rw [← ha]
  clear ha
  refine wp_seq (wp_region_lit ?_)
  refine wpList_readTo rfl (some 2) rfl (.int .i32 0) (run_assign rfl rfl) ?_
  refine wpList_readTo rfl (some 3) rfl (.int .i32 0) (run_assign rfl rfl) ?_
  refine wp_seq (wp_region_lit ?_)
  refine wpList_readTo rfl (some 5) rfl (.int .i32 x) (run_move rfl (by rw [Act.eval_put_ne _ _ _ _ (by omega), Act.eval_put_ne _ _ _ _ (by omega)]; exact he0)) ?_
  refine wpList_readTo rfl (some 4) rfl (.int .i32 x) (run_assign rfl (Act.eval_put_same _ _ _ (by simp only [Act.size_put, hsa]; omega))) ?_
  obtain ⟨b, hb⟩ : ∃ b : Act, b = (((a.put (some 2) (.int .i32 0)).put (some 3) (.int .i32 0)).put (some 5) (.int .i32 x)).put (some 4) (.int .i32 x) := ⟨_, rfl⟩
  have hsb : b.tmps.size = 45 := by rw [hb]; simp only [Act.size_put, hsa]
  have hdb : b.defers = [] := by rw [hb]; simp only [Act.defers_put', hda]
  have hb0 : b.eval (.tmp 0) = .int .i32 x := by rw [hb]; rw [Act.eval_put_ne _ _ _ _ (by omega), Act.eval_put_ne _ _ _ _ (by omega), Act.eval_put_ne _ _ _ _ (by omega), Act.eval_put_ne _ _ _ _ (by omega)]; exact he0
  have hb4 : b.eval (.tmp 4) = .int .i32 x := by rw [hb]; exact Act.eval_put_same _ _ _ (by simp only [Act.size_put, hsa]; omega)
  rw [← hb]
  clear hb hsa hda he0
  refine wp_seq (wp_seq (wp_region_lit ?_))
  refine wpList_readTo rfl (some 6) rfl (.int .i32 x) (run_move rfl hb4) ?_
  refine wpList_readTo rfl (some 7) rfl (.bool (decide ((12448 : Int) ≤ x))) (run_geq rfl (Act.eval_put_same _ _ _ (by rw [hsb]; omega)) rfl) ?_
  have kb := ((Kept.refl 5 b).put (d := 6) (by omega) (.int .i32 x)).put (d := 7) (by omega) (.bool (decide ((12448 : Int) ≤ x)))
  have hc7 : ((b.put (some 6) (.int .i32 x)).put (some 7) (.bool (decide ((12448 : Int) ≤ x)))).eval (.tmp 7) = .bool (decide ((12448 : Int) ≤ x)) := Act.eval_put_same _ _ _ (by rw [Act.size_put, hsb]; omega)
  revert kb hc7
  generalize (b.put (some 6) (.int .i32 x)).put (some 7) (.bool (decide ((12448 : Int) ≤ x))) = c
  intro kb hc7
  have hsc : c.tmps.size = 45 := kb.size.trans hsb
  have hdc := kb.defers.trans hdb
  have hc0 := (kb.low 0 (by omega)).trans hb0
  have hc4 := (kb.low 4 (by omega)).trans hb4
  clear kb hsb hdb hb0 hb4
  refine wp_cond_split hc7 (fun ht => ?_) (fun hf => ?_)
  · have hx : 12448 ≤ x := by simpa using ht
    obtain rfl : L = x - 96 := by omega
    refine wp_region_lit ?_
    refine wpList_readTo rfl (some 8) rfl (.int .i32 x) (run_move rfl hc4) ?_
    refine wpList_readTo rfl (some 9) rfl (.int .i32 (x - 96)) (run_sub' w5 rfl (Act.eval_put_same _ _ _ (by rw [hsc]; omega)) rfl) ?_
    refine wpList_readTo rfl (some 4) rfl (.int .i32 (x - 96)) (run_assign rfl (Act.eval_put_same _ _ _ (by rw [Act.size_put, hsc]; omega))) ?_
    have kg := (((Kept.refl 4 c).put (d := 8) (by omega) (.int .i32 x)).put (d := 9) (by omega) (.int .i32 (x - 96))).put (d := 4) (by omega) (.int .i32 (x - 96))
    have hg4 : (((c.put (some 8) (.int .i32 x)).put (some 9) (.int .i32 (x - 96))).put (some 4) (.int .i32 (x - 96))).eval (.tmp 4) = .int .i32 (x - 96) := Act.eval_put_same _ _ _ (by simp only [Act.size_put, hsc]; omega)
    revert kg hg4
    generalize ((c.put (some 8) (.int .i32 x)).put (some 9) (.int .i32 (x - 96))).put (some 4) (.int .i32 (x - 96)) = g
    intro kg hg4
    have hsg : g.tmps.size = 45 := kg.size.trans hsc
    have hdg := kg.defers.trans hdc
    have hg0 := (kg.low 0 (by omega)).trans hc0
    clear kg hsc hdc hc0 hc4 hc7
    refine wp_seq (wp_seq (wp_region_lit ?_))
    refine wpList_readTo rfl (some 10) rfl (.int .i32 (x - 96)) (run_move rfl hg4) ?_
    refine wpList_readTo rfl (some 11) rfl (.int .i32 ((x - 96) - 1)) (run_sub' w3 rfl (Act.eval_put_same _ _ _ (by rw [hsg]; omega)) rfl) ?_
    have ke := ((Kept.refl 5 g).put (d := 10) (by omega) (.int .i32 (x - 96))).put (d := 11) (by omega) (.int .i32 ((x - 96) - 1))
    have he11 : ((g.put (some 10) (.int .i32 (x - 96))).put (some 11) (.int .i32 ((x - 96) - 1))).eval (.tmp 11) = .int .i32 ((x - 96) - 1) := Act.eval_put_same _ _ _ (by rw [Act.size_put, hsg]; omega)
    revert ke he11
    generalize (g.put (some 10) (.int .i32 (x - 96))).put (some 11) (.int .i32 ((x - 96) - 1)) = e
    intro ke he11
    have hse : e.tmps.size = 45 := ke.size.trans hsg
    refine wp_block (wp_rowsC (q := 11) (m := 12) (n := 45) (by decide) 50 _ e hse he11 fun f hk => ?_)
    have hsf := hk.size.trans hse
    have hdf := hk.defers.trans (ke.defers.trans hdg)
    have hf0 := (hk.low 0 (by omega)).trans ((ke.low 0 (by omega)).trans hg0)
    have hf4 := (hk.low 4 (by omega)).trans ((ke.low 4 (by omega)).trans hg4)
    clear ke hk he11 hse hsg hdg hg0 hg4
    show Code.wp _ (bif hasI kanaV ((x - 96) - 1) then _ else _) _ f w
    cases hV : hasI kanaV ((x - 96) - 1) with
    | true =>
      refine wp_seq (wp_region_lit ?_)
      refine wpList_readTo rfl (some 33) rfl (.int .i32 x) (run_move rfl hf0) ?_
      refine wpList_readTo rfl (some 34) rfl (.int .i32 (x - 1)) (run_sub' w1 rfl (Act.eval_put_same _ _ _ (by rw [hsf]; omega)) rfl) ?_
      refine wpList_readTo rfl (some 2) rfl (.int .i32 (x - 1)) (run_assign rfl (Act.eval_put_same _ _ _ (by rw [Act.size_put, hsf]; omega))) ?_
      refine wpList_readTo rfl (some 3) rfl (.int .i32 12441) (run_assign rfl rfl) ?_
      refine wp_ret ?_
      show bodyPost Tryd.prog Tryd.f93 (fun e w' => e = .returned (.tuple #[.int .i32 R.1, .int .i32 R.2]) ∧ w' = w) .ret _ w
      refine hret _ (x - 1) 12441 ?_ ?_ ?_ (by rw [← hR, hV]; rfl)
      · simp only [Act.defers_put', hdf]
      · rw [Act.eval_put_ne _ _ _ _ (by omega)]
        exact Act.eval_put_same _ _ _ (by simp only [Act.size_put, hsf]; omega)
      · exact Act.eval_put_same _ _ _ (by simp only [Act.size_put, hsf]; omega)
    | false =>
      refine wp_skip ?_
      refine wp_seq (wp_seq (wp_region_lit ?_))
      refine wpList_readTo rfl (some 35) rfl (.int .i32 (x - 96)) (run_move rfl hf4) ?_
      refine wpList_readTo rfl (some 36) rfl (.int .i32 ((x - 96) - 2)) (run_sub' w4 rfl (Act.eval_put_same _ _ _ (by rw [hsf]; omega)) rfl) ?_
      have ke := ((Kept.refl 5 f).put (d := 35) (by omega) (.int .i32 (x - 96))).put (d := 36) (by omega) (.int .i32 ((x - 96) - 2))
      have he11 : ((f.put (some 35) (.int .i32 (x - 96))).put (some 36) (.int .i32 ((x - 96) - 2))).eval (.tmp 36) = .int .i32 ((x - 96) - 2) := Act.eval_put_same _ _ _ (by rw [Act.size_put, hsf]; omega)
      revert ke he11
      generalize (f.put (some 35) (.int .i32 (x - 96))).put (some 36) (.int .i32 ((x - 96) - 2)) = e2
      intro ke he11
      have hse : e2.tmps.size = 45 := ke.size.trans hsf
      refine wp_block (wp_rowsC (q := 36) (m := 37) (n := 45) (by decide) 50 _ e2 hse he11 fun f2 hk => ?_)
      have hsf2 := hk.size.trans hse
      have hdf2 := hk.defers.trans (ke.defers.trans hdf)
      have hf20 := (hk.low 0 (by omega)).trans ((ke.low 0 (by omega)).trans hf0)
      clear ke hk he11 hse hsf hdf hf0 hf4
      show Code.wp _ (bif hasI kanaH ((x - 96) - 2) then _ else _) _ f2 w
      cases hH : hasI kanaH ((x - 96) - 2) with
      | true =>
        refine wp_seq (wp_region_lit ?_)
        refine wpList_readTo rfl (some 43) rfl (.int .i32 x) (run_move rfl hf20) ?_
        refine wpList_readTo rfl (some 44) rfl (.int .i32 (x - 2)) (run_sub' w2 rfl (Act.eval_put_same _ _ _ (by rw [hsf2]; omega)) rfl) ?_
        refine wpList_readTo rfl (some 2) rfl (.int .i32 (x - 2)) (run_assign rfl (Act.eval_put_same _ _ _ (by rw [Act.size_put, hsf2]; omega))) ?_
        refine wpList_readTo rfl (some 3) rfl (.int .i32 12442) (run_assign rfl rfl) ?_
        refine wp_ret ?_
        show bodyPost Tryd.prog Tryd.f93 (fun e w' => e = .returned (.tuple #[.int .i32 R.1, .int .i32 R.2]) ∧ w' = w) .ret _ w
        refine hret _ (x - 2) 12442 ?_ ?_ ?_ (by rw [← hR, hV, hH]; rfl)
        · simp only [Act.defers_put', hdf2]
        · rw [Act.eval_put_ne _ _ _ _ (by omega)]
          exact Act.eval_put_same _ _ _ (by simp only [Act.size_put, hsf2]; omega)
        · exact Act.eval_put_same _ _ _ (by simp only [Act.size_put, hsf2]; omega)
      | false =>
        refine wp_skip ?_
        refine wp_seq (wp_region_lit ?_)
        refine wpList_readTo rfl (some 2) rfl (.int .i32 0) (run_assign rfl rfl) ?_
        refine wpList_readTo rfl (some 3) rfl (.int .i32 0) (run_assign rfl rfl) ?_
        refine wp_ret ?_
        show bodyPost Tryd.prog Tryd.f93 (fun e w' => e = .returned (.tuple #[.int .i32 R.1, .int .i32 R.2]) ∧ w' = w) .ret _ w
        refine hret _ 0 0 ?_ ?_ ?_ (by rw [← hR, hV, hH]; rfl)
        · simp only [Act.defers_put', hdf2]
        · rw [Act.eval_put_ne _ _ _ _ (by omega)]
          exact Act.eval_put_same _ _ _ (by simp only [Act.size_put, hsf2]; omega)
        · exact Act.eval_put_same _ _ _ (by simp only [Act.size_put, hsf2]; omega)
  · have hx : ¬ 12448 ≤ x := by simpa using hf
    obtain rfl : L = x := by omega
    refine wp_skip ?_
    obtain ⟨g, hg⟩ : ∃ g, g = c := ⟨_, rfl⟩
    subst hg
    have hsg := hsc
    have hdg := hdc
    have hg0 := hc0
    have hg4 := hc4
    clear hsc hdc hc0 hc4 hc7
    refine wp_seq (wp_seq (wp_region_lit ?_))
    refine wpList_readTo rfl (some 10) rfl (.int .i32 L) (run_move rfl hg4) ?_
    refine wpList_readTo rfl (some 11) rfl (.int .i32 (L - 1)) (run_sub' w3 rfl (Act.eval_put_same _ _ _ (by rw [hsg]; omega)) rfl) ?_
    have ke := ((Kept.refl 5 g).put (d := 10) (by omega) (.int .i32 L)).put (d := 11) (by omega) (.int .i32 (L - 1))
    have he11 : ((g.put (some 10) (.int .i32 L)).put (some 11) (.int .i32 (L - 1))).eval (.tmp 11) = .int .i32 (L - 1) := Act.eval_put_same _ _ _ (by rw [Act.size_put, hsg]; omega)
    revert ke he11
    generalize (g.put (some 10) (.int .i32 L)).put (some 11) (.int .i32 (L - 1)) = e
    intro ke he11
    have hse : e.tmps.size = 45 := ke.size.trans hsg
    refine wp_block (wp_rowsC (q := 11) (m := 12) (n := 45) (by decide) 50 _ e hse he11 fun f hk => ?_)
    have hsf := hk.size.trans hse
    have hdf := hk.defers.trans (ke.defers.trans hdg)
    have hf0 := (hk.low 0 (by omega)).trans ((ke.low 0 (by omega)).trans hg0)
    have hf4 := (hk.low 4 (by omega)).trans ((ke.low 4 (by omega)).trans hg4)
    clear ke hk he11 hse hsg hdg hg0 hg4
    show Code.wp _ (bif hasI kanaV (L - 1) then _ else _) _ f w
    cases hV : hasI kanaV (L - 1) with
    | true =>
      refine wp_seq (wp_region_lit ?_)
      refine wpList_readTo rfl (some 33) rfl (.int .i32 L) (run_move rfl hf0) ?_
      refine wpList_readTo rfl (some 34) rfl (.int .i32 (L - 1)) (run_sub' w1 rfl (Act.eval_put_same _ _ _ (by rw [hsf]; omega)) rfl) ?_
      refine wpList_readTo rfl (some 2) rfl (.int .i32 (L - 1)) (run_assign rfl (Act.eval_put_same _ _ _ (by rw [Act.size_put, hsf]; omega))) ?_
      refine wpList_readTo rfl (some 3) rfl (.int .i32 12441) (run_assign rfl rfl) ?_
      refine wp_ret ?_
      show bodyPost Tryd.prog Tryd.f93 (fun e w' => e = .returned (.tuple #[.int .i32 R.1, .int .i32 R.2]) ∧ w' = w) .ret _ w
      refine hret _ (L - 1) 12441 ?_ ?_ ?_ (by rw [← hR, hV]; rfl)
      · simp only [Act.defers_put', hdf]
      · rw [Act.eval_put_ne _ _ _ _ (by omega)]
        exact Act.eval_put_same _ _ _ (by simp only [Act.size_put, hsf]; omega)
      · exact Act.eval_put_same _ _ _ (by simp only [Act.size_put, hsf]; omega)
    | false =>
      refine wp_skip ?_
      refine wp_seq (wp_seq (wp_region_lit ?_))
      refine wpList_readTo rfl (some 35) rfl (.int .i32 L) (run_move rfl hf4) ?_
      refine wpList_readTo rfl (some 36) rfl (.int .i32 (L - 2)) (run_sub' w4 rfl (Act.eval_put_same _ _ _ (by rw [hsf]; omega)) rfl) ?_
      have ke := ((Kept.refl 5 f).put (d := 35) (by omega) (.int .i32 L)).put (d := 36) (by omega) (.int .i32 (L - 2))
      have he11 : ((f.put (some 35) (.int .i32 L)).put (some 36) (.int .i32 (L - 2))).eval (.tmp 36) = .int .i32 (L - 2) := Act.eval_put_same _ _ _ (by rw [Act.size_put, hsf]; omega)
      revert ke he11
      generalize (f.put (some 35) (.int .i32 L)).put (some 36) (.int .i32 (L - 2)) = e2
      intro ke he11
      have hse : e2.tmps.size = 45 := ke.size.trans hsf
      refine wp_block (wp_rowsC (q := 36) (m := 37) (n := 45) (by decide) 50 _ e2 hse he11 fun f2 hk => ?_)
      have hsf2 := hk.size.trans hse
      have hdf2 := hk.defers.trans (ke.defers.trans hdf)
      have hf20 := (hk.low 0 (by omega)).trans ((ke.low 0 (by omega)).trans hf0)
      clear ke hk he11 hse hsf hdf hf0 hf4
      show Code.wp _ (bif hasI kanaH (L - 2) then _ else _) _ f2 w
      cases hH : hasI kanaH (L - 2) with
      | true =>
        refine wp_seq (wp_region_lit ?_)
        refine wpList_readTo rfl (some 43) rfl (.int .i32 L) (run_move rfl hf20) ?_
        refine wpList_readTo rfl (some 44) rfl (.int .i32 (L - 2)) (run_sub' w2 rfl (Act.eval_put_same _ _ _ (by rw [hsf2]; omega)) rfl) ?_
        refine wpList_readTo rfl (some 2) rfl (.int .i32 (L - 2)) (run_assign rfl (Act.eval_put_same _ _ _ (by rw [Act.size_put, hsf2]; omega))) ?_
        refine wpList_readTo rfl (some 3) rfl (.int .i32 12442) (run_assign rfl rfl) ?_
        refine wp_ret ?_
        show bodyPost Tryd.prog Tryd.f93 (fun e w' => e = .returned (.tuple #[.int .i32 R.1, .int .i32 R.2]) ∧ w' = w) .ret _ w
        refine hret _ (L - 2) 12442 ?_ ?_ ?_ (by rw [← hR, hV, hH]; rfl)
        · simp only [Act.defers_put', hdf2]
        · rw [Act.eval_put_ne _ _ _ _ (by omega)]
          exact Act.eval_put_same _ _ _ (by simp only [Act.size_put, hsf2]; omega)
        · exact Act.eval_put_same _ _ _ (by simp only [Act.size_put, hsf2]; omega)
      | false =>
        refine wp_skip ?_
        refine wp_seq (wp_region_lit ?_)
        refine wpList_readTo rfl (some 2) rfl (.int .i32 0) (run_assign rfl rfl) ?_
        refine wpList_readTo rfl (some 3) rfl (.int .i32 0) (run_assign rfl rfl) ?_
        refine wp_ret ?_
        show bodyPost Tryd.prog Tryd.f93 (fun e w' => e = .returned (.tuple #[.int .i32 R.1, .int .i32 R.2]) ∧ w' = w) .ret _ w
        refine hret _ 0 0 ?_ ?_ ?_ (by rw [← hR, hV, hH]; rfl)
        · simp only [Act.defers_put', hdf2]
        · rw [Act.eval_put_ne _ _ _ _ (by omega)]
          exact Act.eval_put_same _ _ _ (by simp only [Act.size_put, hsf2]; omega)
        · exact Act.eval_put_same _ _ _ (by simp only [Act.size_put, hsf2]; omega)
end Go.Proofs.YtfegbfhkmdmheaaDoor
