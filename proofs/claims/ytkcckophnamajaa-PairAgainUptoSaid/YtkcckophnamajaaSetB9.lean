/- Layer 9, the program: settleBrackets. -/
import Derived.Test.YtkcckophnamajaaSetP9
import Derived.Test.YtkcckophnamajaaPgB9
import Derived.BigQuiet
import Derived.Deep.RegionHeld3
set_option linter.unusedSimpArgs false
set_option linter.unusedVariables false
namespace Go.Proofs.Ytkcckophnamajaa
open Go.RowKit Go.Lib

theorem nrm_pair {nsm : Int → Bool} {rs l : List Int} {e sos : Int} {p : Nat × Nat} (he : e = 0 ∨ e = 1) (hs : sos = 0 ∨ sos = 1) (h : Nrm l) : Nrm (pairZ9 nsm rs e sos l p) := by
  have ha := ahead_two (l.take p.1) sos hs
  unfold pairZ9
  simp only
  split
  · exact h
  · split
    · exact nrm_bec ha (nrm_bec ha h)
    · exact nrm_bec he (nrm_bec he h)
theorem nrm_fold {nsm : Int → Bool} {rs : List Int} {e sos : Int} (he : e = 0 ∨ e = 1) (hs : sos = 0 ∨ sos = 1) : ∀ (ps : Prs) (l : List Int), Nrm l → Nrm (ps.foldl (pairZ9 nsm rs e sos) l)
  | [], _, h => h
  | p :: ps, l, h => by rw [List.foldl_cons]; exact nrm_fold he hs ps _ (nrm_pair he hs h)
theorem fold_step (nsm : Int → Bool) (rs : List Int) (e sos : Int) (ps : Prs) (l : List Int) {q : Nat} {p : Nat × Nat} (hq : ps[q]? = some p) : (ps.take (q + 1)).foldl (pairZ9 nsm rs e sos) l = pairZ9 nsm rs e sos ((ps.take q).foldl (pairZ9 nsm rs e sos) l) p := by
  rw [List.take_add_one, hq, List.foldl_append]
  rfl
/-- what a walk over the pairs leans on -/
structure SetF (ps : Prs) (n m : Nat) (rs : List Int) (e sos : Int) (N0 : List Int) : Prop where
  he : e = 0 ∨ e = 1
  hs : sos = 0 ∨ sos = 1
  nl : N0.length = n
  nm : Nrm N0
  ml : ps.length = m
  or_ : ∀ (q : Nat) (p : Nat × Nat), ps[q]? = some p → p.1 < p.2 ∧ p.2 < n
  up : Up ps
  mid : ∀ (q : Nat) (p : Nat × Nat), ps[q]? = some p → (((ps.take q).foldl (pairZ9 nsm9 rs e sos) N0).drop (p.1 + 1)).take (p.2 - (p.1 + 1)) = (N0.drop (p.1 + 1)).take (p.2 - (p.1 + 1))
/-- what holds between two pairs -/
structure SetS (w w1 : World) (B g n c : Nat) (rs : List Int) (e sos : Int) (N0 : List Int) (ps : Prs) (q i : Nat) (W : World) : Prop where
  ow : W.ownsRow B 33 1 (.slice (some ⟨g, 0, none⟩) n c) n (i8s ((ps.take q).foldl (pairZ9 nsm9 rs e sos) N0))
  gr : w.grownBy W (some g)
  gr1 : w1.grownBy W (some g)
  ix : ∀ (q' : Nat) (p : Nat × Nat), q ≤ q' → ps[q']? = some p → i ≤ p.1
theorem below_alloc9 {B : Nat} {w W : World} (hB : B ≤ w.heap.size) (h : Below B w W) (o : Obj) : Below B w (W.alloc o) := h.alloc (Nat.le_trans hB h.size) o
theorem below_set9 {B : Nat} {w W : World} {b o : Nat} {v : Value} (h : Below B w W) (hb : B ≤ b) : Below B w (W.setCell ⟨b, o, none⟩ v) := h.setCell (p := ⟨b, o, none⟩) hb v
theorem eq_arr2 {P : Program} {t te : TypeId} (hu : P.underlying t = some (.array 2 te)) (hs : ∀ w, (Go.sizeOf te).run P w = .ok 1 w) (ha : ∀ w, (Go.isAgg te).run P w = .ok false w) (d : Nat) (hq : ∀ (a b : Int) w, (Op.equalIn d te (.int .i64 a) (.int .i64 b)).run P w = .ok (a == b) w) (a b c e : Int) (w : World) : (Op.equalIn (d + 1) t (.agg #[.int .i64 a, .int .i64 b]) (.agg #[.int .i64 c, .int .i64 e])).run P w = .ok (a == c && b == e) w := by
  simp only [Op.equalIn, Sem.run_bind, run_underlying hu, Result.andThen_ok, hs]
  simp only [Std.Legacy.Range.forIn_eq_forIn_range', Std.Legacy.Range.size]
  simp [List.range', part, hs, ha, hq]
  by_cases h1 : a = c <;> by_cases h2 : b = e <;> simp [h1, h2]
theorem eq_two (a b c e : Int) (w : World) : (Op.equalIn 10000 29 (.agg #[.int .i64 a, .int .i64 b]) (.agg #[.int .i64 c, .int .i64 e])).run Try.prog w = .ok (a == c && b == e) w :=
  eq_arr2 (te := 3) Try.underlying29 Try.sizeOf3 Try.isAgg3 9999 (fun a b w => run_equalIn_int w 9998 3 .i64 .i64 a b Try.underlying3) a b c e w
theorem grown_of9 {W W' : World} {X : Nat} {row : Option Nat} (hX : W.heap.size = X + 1) (hb : Below (X + 1) W W') : W.grownBy W' row :=
  ⟨hb.os, hb.tape, hb.output, hb.size, fun q hq _ => hb.block q (by omega)⟩
theorem setS_next {w w1 W' : World} {B g n m c : Nat} {rs : List Int} {e sos : Int} {N0 K K' : List Int} {ps : Prs} {q i b i0 : Nat} (hF : SetF ps n m rs e sos N0) (hpq : ps[q]? = some (i, b)) (hK : (ps.take q).foldl (pairZ9 nsm9 rs e sos) N0 = K) (hK' : pairZ9 nsm9 rs e sos K (i, b) = K')
    (ow : W'.ownsRow B 33 1 (.slice (some ⟨g, 0, none⟩) n c) n (i8s K')) (gr : w.grownBy W' (some g)) (gr1 : w1.grownBy W' (some g)) (_hix : ∀ (q' : Nat) (p : Nat × Nat), q ≤ q' → ps[q']? = some p → i0 ≤ p.1) :
    SetS w w1 B g n c rs e sos N0 ps (q + 1) i W' ∧ aheadZ sos (((ps.take (q + 1)).foldl (pairZ9 nsm9 rs e sos) N0).take i) = aheadZ sos (K.take i) := by
  have hs := fold_step nsm9 rs e sos ps N0 hpq
  rw [hK, hK'] at hs
  refine ⟨⟨by rw [hs]; exact ow, gr, gr1, fun q' p hq hp => ?_⟩, ?_⟩
  · have h1 := List.getElem?_eq_some_iff.1 hpq
    have h2 := List.getElem?_eq_some_iff.1 hp
    have h3 := List.pairwise_iff_getElem.1 hF.up q q' h1.1 h2.1 (by omega)
    rw [h1.2, h2.2] at h3
    exact Nat.le_of_lt h3
  · rw [hs, ← hK', pair_head nsm9 rs e sos K (i, b) (hF.or_ q _ hpq).1]
theorem pair_arms {n m : Nat} {rs : List Int} {e sos : Int} {N1 : List Int} {ps : Prs} (hF : SetF ps n m rs e sos N1) (K N0 : List Int) (i b : Nat) (hp : i < b) {x0 x1 y0 y1 : Nat} {A : Int}
    (hm : (K.drop (i + 1)).take (b - (i + 1)) = (N0.drop (i + 1)).take (b - (i + 1))) (hc : cntD 0 (N0.take (i + 1)) = x0 ∧ cntD 1 (N0.take (i + 1)) = x1 ∧ cntD 0 (N0.take b) = y0 ∧ cntD 1 (N0.take b) = y1) (hA : aheadZ sos (K.take i) = A) :
    (x0 = y0 → x1 = y1 → pairZ9 nsm9 rs e sos K (i, b) = K) ∧
    ((e = 0 ∧ ¬ x0 = y0) ∨ (e = 1 ∧ ¬ x1 = y1) → pairZ9 nsm9 rs e sos K (i, b) = becZ nsm9 rs (becZ nsm9 rs K i e) b e) ∧
    ((¬ x0 = y0 ∨ ¬ x1 = y1) → (e = 0 ∧ x0 = y0) ∨ (e = 1 ∧ x1 = y1) → pairZ9 nsm9 rs e sos K (i, b) = becZ nsm9 rs (becZ nsm9 rs K i A) b A) := by
  have h := pair_cases nsm9 rs hF.he hF.hs K N0 (i, b) hp hm
  obtain ⟨c1, c2, c3, c4⟩ := hc
  simp only [c1, c2, c3, c4, hA] at h
  refine ⟨fun h1 h2 => by rw [h, if_pos ⟨h1, h2⟩], fun h1 => ?_, fun h0 h1 => ?_⟩
  · rw [h, if_neg (by rintro ⟨h2, h3⟩; rcases h1 with ⟨_, h4⟩ | ⟨_, h4⟩ <;> exact h4 (by assumption)), if_pos]
    rcases h1 with ⟨rfl, h4⟩ | ⟨rfl, h4⟩
    · rw [c1, c3]; exact h4
    · rw [c2, c4]; exact h4
  · rw [h, if_neg (by rintro ⟨h2, h3⟩; rcases h0 with h4 | h4 <;> exact h4 (by assumption)), if_neg]
    rcases h1 with ⟨rfl, h4⟩ | ⟨rfl, h4⟩
    · rw [c1, c3]; exact fun x => x h4
    · rw [c2, c4]; exact fun x => x h4
set_option maxRecDepth 100000 in
set_option maxHeartbeats 8000000 in
theorem settleBrackets_any9 (B g : Nat) (Ar Ap : Option Addr) (nr cr n c m cp : Nat) (rs N0 : List Int) (ps : Prs) (e sos eos : Int) (w : World) (hr : Rd w B 1 Ar nr (i32s rs)) (hp : w.ownsRow B 29 2 (.slice Ap m cp) m (prC ps)) (h : w.ownsRow B 33 1 (.slice (some ⟨g, 0, none⟩) n c) n (i8s N0)) (hn : n ≤ nr) (hn20 : n ≤ 1048576) (hmn : m ≤ 1048576) (HF : Hid (SetF ps n m rs e sos N0)) :
    Calls Try.prog 31 #[.slice (some ⟨g, 0, none⟩) n c, .slice Ar nr cr, .slice Ap m cp, .agg #[.int .i8 e, .int .i8 sos, .int .i8 eos]] w
      (RuleAt B (some ⟨g, 0, none⟩) n c (ps.foldl (pairZ9 nsm9 rs e sos) N0) w) := by
  have HD := Lib.hid direction_any9
  obtain ⟨Q, hQ⟩ : ∃ Q, w.heap.size = Q := ⟨_, rfl⟩
  obtain ⟨W0, hW0⟩ : ∃ W0, w.alloc (.cells #[.int .i8 e, .int .i8 sos, .int .i8 eos] 59) = W0 := ⟨_, rfl⟩
  have hcs : W0.heap[Q]? = some (.cells #[.int .i8 e, .int .i8 sos, .int .i8 eos] 59 (0, 0)) := by rw [← hW0, ← hQ]; exact heap_alloc_new w _
  have hQ0 : W0.heap.size = Q + 1 := by rw [← hW0, World.size_alloc, hQ]
  have hgB := h.lt g rfl
  have hgr0 : w.grownBy W0 (some g) := by rw [← hW0]; exact World.grownBy_alloc w _ _
  have how0 : W0.ownsRow B 33 1 (.slice (some ⟨g, 0, none⟩) n c) n (i8s N0) := by rw [← hW0]; exact h.alloc _
  have hca := countsAhead_any9 (some ⟨g, 0, none⟩) n c N0 W0 (RdK.own how0) HF.out.nm hn20
  unfold NewPr at hca
  rw [cnP_len, HF.out.nl, hQ0] at hca
  have HCA := Lib.hid hca
  have Hcs := Lib.hid hcs
  have H0 := Lib.hid (show _ ∧ _ from ⟨how0, hgr0⟩)
  have Hrd := Lib.hid (show ∀ W', w.grownBy W' (some g) → Rd W' B 1 Ar nr (i32s rs) from fun W' hg => hr.keep fun q hq => World.cell?_of_block (hg.block q.block (by omega) (fun e => by injection e with e; omega)))
  have Hpd := Lib.hid (show ∀ W', w.grownBy W' (some g) → W'.ownsRow B 29 2 (.slice Ap m cp) m (prC ps) from fun W' hg => own_other2 hp h (by decide) hg)
  have HgQ := Lib.hid (show B ≤ g ∧ g < Q by omega)
  have HWw := Lib.hid hW0
  have HQ0 := Lib.hid hQ0
  have HQ := Lib.hid hQ
  obtain ⟨n1, hn1⟩ : ∃ n1, n + 1 = n1 := ⟨_, rfl⟩
  rw [hn1] at HCA
  have HN1 := Lib.hid hn1
  obtain ⟨R, hR⟩ : ∃ R, ps.foldl (pairZ9 nsm9 rs e sos) N0 = R := ⟨_, rfl⟩
  rw [hR]
  have HR := Lib.hid hR
  have hca0 : W0.cell? ⟨Q, 0, none⟩ = some (.int .i8 e) := cell_of_row W0 Q 0 _ _ (0, 0) hcs
  have hca1 : W0.cell? ⟨Q, 1, none⟩ = some (.int .i8 sos) := cell_of_row W0 Q 1 _ _ (0, 0) hcs
  clear h hr hp hcs hgr0 how0 hgB hW0 hQ hn1 hR hca hQ0
  go_enter Try.func31, Try.ntmps31
  go_wp2_with fail
  rw [HWw.out, HQ.out]
  go_wp2_with fail
  refine (HCA.out).mono ?_
  rintro _ w1 ⟨Ac, cc, rfl, hoc, hbc⟩
  have hQ1 : w1.heap.size ≥ Q + 1 := by have := hbc.size; have := HQ0.out; omega
  have hk0 : w1.heap[Q]? = some (.cells #[.int .i8 e, .int .i8 sos, .int .i8 eos] 59 (0, 0)) := (hbc.block Q (by omega)).trans Hcs.out
  have hs1 : w1.cell? ⟨Q, 1, none⟩ = some (.int .i8 sos) := cell_of_row w1 Q 1 _ _ (0, 0) hk0
  have HI0 := Lib.hid (show SetS w w1 B g n c rs e sos N0 ps 0 0 w1 from ⟨own_below H0.out.1 (by
      have : W0.heap.size = Q + 1 := by rw [← HWw.out, World.size_alloc, HQ.out]
      rw [this]; exact hbc), H0.out.2.trans ⟨hbc.os, hbc.tape, hbc.output, hbc.size, fun q hq _ => hbc.block q (by
      have : W0.heap.size = Q + 1 := by rw [← HWw.out, World.size_alloc, HQ.out]
      omega)⟩, World.grownBy.refl _ _, fun _ _ _ _ => Nat.zero_le _⟩)
  obtain ⟨gc, hAc, hgcQ, _⟩ : ∃ gc, Ac = some ⟨gc, 0, none⟩ ∧ Q + 1 ≤ gc ∧ gc < w1.heap.size := by
    obtain ⟨g9, cap9, hv9, h99, h98⟩ := hoc.form (by have := HN1.out; omega)
    injection hv9 with hA9 _ _
    exact ⟨g9, hA9, h99, h98⟩
  subst hAc
  have H1 := Lib.hid (show w1.ownsRow (Q + 1) 29 2 (.slice (some ⟨gc, 0, none⟩) n1 cc) n1 (prC (cnP N0)) ∧ w1.heap[Q]? = some (.cells #[.int .i8 e, .int .i8 sos, .int .i8 eos] 59 (0, 0)) ∧ Q + 1 ≤ w1.heap.size ∧ Q + 1 ≤ gc ∧ gc < w1.heap.size from ⟨hoc, hk0, hQ1, hgcQ, by assumption⟩)
  clear hoc hk0 hQ1 hgcQ hbc HCA H0
  go_wp2_with fail
  go_loopw [9, 10, 21] (fun y x z wr => ∃ (q i : Nat) (W : World), W = wr ∧ y = .int .i8 (aheadZ sos (((ps.take q).foldl (pairZ9 nsm9 rs e sos) N0).take i)) ∧ x = .int .i64 (i : Int) ∧ z = .int .i64 (q : Int) ∧ q ≤ m ∧ Hid (SetS w w1 B g n c rs e sos N0 ps q i W)) (fun _ _ z _ => m - (RowKit.intOf z).toNat)
  case atStart => exact ⟨0, 0, _, rfl, by rw [List.take_zero]; rfl, rfl, rfl, Nat.zero_le _, HI0⟩
  case round =>
    obtain ⟨q, i, W, hW, rfl, rfl, rfl, hqm, HI⟩ := hrel
    subst hW
    rcases Nat.lt_or_ge q m with hlt | hge
    · obtain ⟨⟨a, b⟩, hpq⟩ : ∃ p, ps[q]? = some p := ⟨_, List.getElem?_eq_getElem (by have := HF.out.ml; omega)⟩
      obtain ⟨hab, hbn⟩ := HF.out.or_ q _ hpq
      have hia := HI.out.ix q _ (Nat.le_refl _) hpq
      simp only at hab hbn hia
      have hII := HI.out
      have hown := Hpd.out W hII.gr
      obtain ⟨gp, cap9, hv9, _, _⟩ := hown.form (by omega)
      injection hv9 with hAp _ hcc
      subst hAp hcc
      have hpg := prC_get hpq
      have hc0 := (hown.cellAt (g := gp) (q * 2) (by omega)).trans hpg.1
      have hc1 := (hown.cellAt (g := gp) (q * 2 + 1) (by omega)).trans hpg.2
      have hqmi : (q : Int) < (m : Int) := by omega
      have hnext : IntKind.i64.wrap ((q : Int) + 1) = (q : Int) + 1 := IntWalk.i64_in _ (by omega)
      obtain ⟨K, hK⟩ : ∃ K, (ps.take q).foldl (pairZ9 nsm9 rs e sos) N0 = K := ⟨_, rfl⟩
      rw [hK]
      have HK := Lib.hid hK
      have Hpq := Lib.hid hpq
      have hKl : K.length = n := by rw [← hK, fold_len, HF.out.nl]
      have Hab := Lib.hid (show a < b ∧ b < n ∧ i ≤ a from ⟨hab, hbn, hia⟩)
      have hbW : gc < W.heap.size ∧ Q < W.heap.size ∧ g < W.heap.size := by
        have := hII.gr1.size; have := H1.out.2.2; have := HgQ.out; omega
      obtain ⟨X, hX⟩ : ∃ X, W.heap.size = X := ⟨_, rfl⟩
      rw [hX] at hbW
      obtain ⟨W1, hW1⟩ : ∃ W1, W.alloc (.cells #[.int .i64 (a : Int), .int .i64 (b : Int)] 29) = W1 := ⟨_, rfl⟩
      have hX1 : W1.heap.size = X + 1 := by rw [← hW1, World.size_alloc, hX]
      have hxs : W1.heap[X]? = some (.cells #[.int .i64 (a : Int), .int .i64 (b : Int)] 29 (0, 0)) := by rw [← hW1, ← hX]; exact heap_alloc_new W _
      have ho1 : W1.ownsRow B 33 1 (.slice (some ⟨g, 0, none⟩) n c) n (i8s K) := by rw [← hW1, ← hK]; exact hII.ow.alloc _
      have hg1 : w.grownBy W1 (some g) ∧ w1.grownBy W1 (some g) := by rw [← hW1]; exact ⟨hII.gr.trans (World.grownBy_alloc _ _ _), hII.gr1.trans (World.grownBy_alloc _ _ _)⟩
      have hxa : W1.cell? ⟨X, 0, none⟩ = some (.int .i64 (a : Int)) := cell_of_row W1 X 0 _ _ (0, 0) hxs
      have hxb : W1.cell? ⟨X, 1, none⟩ = some (.int .i64 (b : Int)) := cell_of_row W1 X 1 _ _ (0, 0) hxs
      have HW1 := Lib.hid (show _ ∧ _ ∧ _ ∧ _ ∧ _ from ⟨hX1, hxs, ho1, hg1.1, hg1.2⟩)
      have HWq := Lib.hid hW1
      have HX := Lib.hid hX
      have HbW := Lib.hid hbW
      have HKl := Lib.hid hKl
      have Hix := Lib.hid hII.ix
      clear hpq hab hbn hia hII hown hpg hK hKl hbW hX hW1 hX1 hxs ho1 hg1 HI
      go_wp2_with fail
      rw [HWq.out, HX.out]
      go_loopw [9, 10] (fun y x wr => ∃ (i : Nat), wr = W1 ∧ y = .int .i8 (aheadZ sos (K.take i)) ∧ x = .int .i64 (i : Int) ∧ i ≤ a) (fun _ x _ => a - (RowKit.intOf x).toNat)
      case atStart => exact ⟨i, rfl, rfl, rfl, Hab.out.2.2⟩
      case round =>
        obtain ⟨i, hWW, rfl, rfl, hia⟩ := hrel
        subst hWW
        rcases Nat.lt_or_ge i a with hlti | hgei
        · have hin : i < n := by have := Hab.out; omega
          obtain ⟨k, hk⟩ : ∃ k, K[i]? = some k := ⟨_, List.getElem?_eq_getElem (by rw [HKl.out]; exact hin)⟩
          have hck : wr.cell? ⟨g, i, none⟩ = some (.int .i8 k) := by
            rw [HW1.out.2.2.1.cellAt _ (by omega), List.getElem?_map, hk]; rfl
          have hini : (i : Int) < (n : Int) := by omega
          have hiai : (i : Int) < (a : Int) := by omega
          have hni : IntKind.i64.wrap ((i : Int) + 1) = (i : Int) + 1 := IntWalk.i64_in _ (by omega)
          have hah : aheadZ sos (K.take (i + 1)) = if neuZ k = true then aheadZ sos (K.take i) else wayZ k := by
            rw [List.take_add_one, hk]
            exact ahead_snoc _ _ _
          have hkk : k = 13 ↔ neuZ k = true := by
            have := nrm_fold (nsm := nsm9) (rs := rs) HF.out.he HF.out.hs (ps.take q) N0 HF.out.nm
            rw [HK.out] at this
            exact this k (List.mem_of_getElem? hk)
          obtain ⟨z, hz⟩ : ∃ z, aheadZ sos (K.take i) = z := ⟨_, rfl⟩
          rw [hz] at hah ⊢
          have Hah := Lib.hid hah
          clear hk hah hz
          by_cases hk13 : k = 13
          · have HA := Lib.hid (show aheadZ sos (K.take (i + 1)) = z by rw [Hah.out, if_pos (hkk.1 hk13)])
            subst hk13
            clear hkk Hah
            go_wp2_with fail
            go_roundw
            case rel => exact ⟨i + 1, trivial, by rw [HA.out], by first | rfl | go_num, by omega⟩
            case measure => simp [RowKit.intOf]; omega
          · have b13 : (k != 13) = true := by simpa using hk13
            have HA := Lib.hid (show aheadZ sos (K.take (i + 1)) = wayZ k by rw [Hah.out, if_neg (fun e => hk13 (hkk.2 e))])
            clear hkk Hah hk13
            go_wp2_with fail
            refine (HD.out _ _).mono ?_
            rintro _ w9 ⟨rfl, h9⟩
            obtain rfl := h9.symm
            go_wp2_with fail
            go_roundw
            case rel => exact ⟨i + 1, trivial, by rw [HA.out], by first | rfl | go_num, by omega⟩
            case measure => simp [RowKit.intOf]; omega
        · obtain rfl : i = a := by omega
          have haa : ¬ (i : Int) < (i : Int) := by omega
          obtain ⟨A, hA⟩ : ∃ A, aheadZ sos (K.take i) = A := ⟨_, rfl⟩
          rw [hA]
          have HA := Lib.hid hA
          have hlb : i < b ∧ b < n := ⟨Hab.out.1, Hab.out.2.1⟩
          have hoc := H1.out.1.kept HW1.out.2.2.2.2 (.inr (by
            show some gc ≠ some g
            have := HgQ.out; have := H1.out.2.2.2.1
            intro e; injection e with e; omega))
          obtain ⟨i1, hi1⟩ : ∃ i1, i + 1 = i1 := ⟨_, rfl⟩
          have hn1 := HN1.out
          have g1 := prC_get (cnP_get N0 (j := i1) (by rw [HF.out.nl]; omega))
          have g2 := prC_get (cnP_get N0 (j := b) (by rw [HF.out.nl]; omega))
          obtain ⟨x0, hx0⟩ : ∃ x0, cntD 0 (N0.take i1) = x0 := ⟨_, rfl⟩
          obtain ⟨x1, hx1⟩ : ∃ x1, cntD 1 (N0.take i1) = x1 := ⟨_, rfl⟩
          obtain ⟨y0, hy0⟩ : ∃ y0, cntD 0 (N0.take b) = y0 := ⟨_, rfl⟩
          obtain ⟨y1, hy1⟩ : ∃ y1, cntD 1 (N0.take b) = y1 := ⟨_, rfl⟩
          rw [hx0, hx1] at g1
          rw [hy0, hy1] at g2
          have c1a := (hoc.cellAt (g := gc) (i1 * 2) (by omega)).trans g1.1
          have c1b := (hoc.cellAt (g := gc) (i1 * 2 + 1) (by omega)).trans g1.2
          have c2a := (hoc.cellAt (g := gc) (b * 2) (by omega)).trans g2.1
          have c2b := (hoc.cellAt (g := gc) (b * 2 + 1) (by omega)).trans g2.2
          have hwi : IntKind.i64.wrap ((i : Int) + 1) = (i1 : Int) := by rw [IntWalk.i64_in _ (by omega)]; omega
          have hi1n : (i1 : Int) < (n1 : Int) := by omega
          have hbn1 : (b : Int) < (n1 : Int) := by omega
          have HC := Lib.hid (show _ ∧ _ ∧ _ ∧ _ from ⟨hx0, hx1, hy0, hy1⟩)
          have HI1 := Lib.hid hi1
          clear hA hlb hoc hi1 hn1 g1 g2 hx0 hx1 hy0 hy1 hgei hia
          have hmk : ∀ W', Below (X + 1) wr W' → W'.cell? ⟨X, 0, none⟩ = some (.int .i64 (i : Int)) ∧ W'.cell? ⟨X, 1, none⟩ = some (.int .i64 (b : Int)) ∧ W'.cell? ⟨gc, i1 * 2, none⟩ = some (.int .i64 (x0 : Int)) ∧ W'.cell? ⟨gc, i1 * 2 + 1, none⟩ = some (.int .i64 (x1 : Int)) ∧ W'.cell? ⟨gc, b * 2, none⟩ = some (.int .i64 (y0 : Int)) ∧ W'.cell? ⟨gc, b * 2 + 1, none⟩ = some (.int .i64 (y1 : Int)) := fun W' hb => by
            have := HbW.out.1
            exact ⟨(hb.cell (p := ⟨X, 0, none⟩) (by show X < X + 1; omega)).trans hxa, (hb.cell (p := ⟨X, 1, none⟩) (by show X < X + 1; omega)).trans hxb, (hb.cell (p := ⟨gc, i1 * 2, none⟩) (by show gc < X + 1; omega)).trans c1a, (hb.cell (p := ⟨gc, i1 * 2 + 1, none⟩) (by show gc < X + 1; omega)).trans c1b, (hb.cell (p := ⟨gc, b * 2, none⟩) (by show gc < X + 1; omega)).trans c2a, (hb.cell (p := ⟨gc, b * 2 + 1, none⟩) (by show gc < X + 1; omega)).trans c2b⟩
          have PC := Lib.hid (pair_arms HF.out K N0 i b (by have := Hab.out; omega) (by have := HF.out.mid q (i, b) Hpq.out; rw [HK.out] at this; exact this) (by have := HC.out; rw [HI1.out]; exact this) HA.out)
          have HAt := Lib.hid (show A = 0 ∨ A = 1 by rw [← HA.out]; exact ahead_two _ _ HF.out.hs)
          have HSet := Lib.hid (fun v hv W' hr ho => settlePair_any9 B g Ar nr cr n c rs K i b v hv W' hr ho (by have := nrm_fold (nsm := nsm9) (rs := rs) HF.out.he HF.out.hs (ps.take q) N0 HF.out.nm; rw [HK.out] at this; exact this) hn (by have := Hab.out; omega) (by have := Hab.out; omega))
          have hszX : X + 1 ≤ wr.heap.size := by rw [HW1.out.1]; exact Nat.le_refl _
          have hwrX : wr.heap.size = X + 1 := HW1.out.1
          have hb0 : Below (X + 1) wr wr := Below.refl _ _
          go_wp2_with fail
          go_region_held3 (fun W' => W'.cell? ⟨X, 0, none⟩ = some (.int .i64 (i : Int)) ∧ W'.cell? ⟨X, 1, none⟩ = some (.int .i64 (b : Int)) ∧ W'.cell? ⟨gc, i1 * 2, none⟩ = some (.int .i64 (x0 : Int)) ∧ W'.cell? ⟨gc, i1 * 2 + 1, none⟩ = some (.int .i64 (x1 : Int)) ∧ W'.cell? ⟨gc, b * 2, none⟩ = some (.int .i64 (y0 : Int)) ∧ W'.cell? ⟨gc, b * 2 + 1, none⟩ = some (.int .i64 (y1 : Int)))
            (first | (refine hmk _ ?_; repeat' (first | exact hb0 | refine below_DD ?_ | refine below_alloc9 hszX ?_ _ | refine below_set9 ?_ ?_ | (simp; omega) | omega))) (fail)
          · obtain ⟨V, hV⟩ : ∃ V, ((wr.alloc (.cells #[.int .i64 (x0 : Int), .int .i64 (x1 : Int)] 29)).alloc (.cells #[.int .i64 (y0 : Int), .int .i64 (y1 : Int)] 29)).drew = V := ⟨_, rfl⟩
            have hbV : Below (X + 1) wr V := by
              rw [← hV]
              exact below_DD (below_alloc9 hszX (below_alloc9 hszX hb0 _) _)
            have hu : V.heap[X + 1]? = some (.cells #[.int .i64 (x0 : Int), .int .i64 (x1 : Int)] 29 (0, 0)) := by
              rw [← hV]
              show ((wr.alloc _).alloc _).heap[X + 1]? = _
              rw [heap_alloc_old _ _ (by rw [World.size_alloc]; omega), ← hwrX]
              exact heap_alloc_new wr _
            have hz : V.heap[X + 1 + 1]? = some (.cells #[.int .i64 (y0 : Int), .int .i64 (y1 : Int)] 29 (0, 0)) := by
              rw [← hV]
              show ((wr.alloc _).alloc _).heap[X + 1 + 1]? = _
              have := heap_alloc_new (wr.alloc (.cells #[.int .i64 (x0 : Int), .int .i64 (x1 : Int)] 29)) (.cells #[.int .i64 (y0 : Int), .int .i64 (y1 : Int)] 29)
              rwa [World.size_alloc, hwrX] at this
            have ku0 : V.cell? ⟨X + 1, 0, none⟩ = some (.int .i64 (x0 : Int)) := cell_of_row V (X + 1) 0 _ _ (0, 0) hu
            have ku1 : V.cell? ⟨X + 1, 1, none⟩ = some (.int .i64 (x1 : Int)) := cell_of_row V (X + 1) 1 _ _ (0, 0) hu
            have kz0 : V.cell? ⟨X + 1 + 1, 0, none⟩ = some (.int .i64 (y0 : Int)) := cell_of_row V (X + 1 + 1) 0 _ _ (0, 0) hz
            have kz1 : V.cell? ⟨X + 1 + 1, 1, none⟩ = some (.int .i64 (y1 : Int)) := cell_of_row V (X + 1 + 1) 1 _ _ (0, 0) hz
            have kxa : V.cell? ⟨X, 0, none⟩ = some (.int .i64 (i : Int)) := (hmk V hbV).1
            have kxb : V.cell? ⟨X, 1, none⟩ = some (.int .i64 (b : Int)) := (hmk V hbV).2.1
            have kee : V.cell? ⟨Q, 0, none⟩ = some (.int .i8 e) := by
              have h1 := H1.out.2.1
              have h2 : V.heap[Q]? = _ := (hbV.block Q (by have := HbW.out; omega)).trans ((HW1.out.2.2.2.2.block Q (by have := H1.out.2.2.1; omega) (fun e => by have := HgQ.out; injection e with e; omega)).trans h1)
              exact cell_of_row V Q 0 _ _ (0, 0) h2
            have keeD : V.drew.cell? ⟨Q, 0, none⟩ = some (.int .i8 e) := kee
            have ku0D : V.drew.cell? ⟨X + 1, 0, none⟩ = some (.int .i64 (x0 : Int)) := ku0
            have ku1D : V.drew.cell? ⟨X + 1, 1, none⟩ = some (.int .i64 (x1 : Int)) := ku1
            have kz0D : V.drew.cell? ⟨X + 1 + 1, 0, none⟩ = some (.int .i64 (y0 : Int)) := kz0
            have kz1D : V.drew.cell? ⟨X + 1 + 1, 1, none⟩ = some (.int .i64 (y1 : Int)) := kz1
            have HV := Lib.hid (show V.ownsRow B 33 1 (.slice (some ⟨g, 0, none⟩) n c) n (i8s K) ∧ w.grownBy V (some g) ∧ w1.grownBy V (some g) from ⟨own_below HW1.out.2.2.1 (by rw [hwrX]; exact hbV), HW1.out.2.2.2.1.trans (grown_of9 hwrX hbV), HW1.out.2.2.2.2.trans (grown_of9 hwrX hbV)⟩)
            rw [hV]
            clear hu hz hV hbV hmk hb0 hszX
            by_cases h00 : x0 = y0
            · by_cases h11 : x1 = y1
              · subst h00
                subst h11
                have q0 : ((x0 : Int) == (x0 : Int)) = true := by simp
                have q1 : ((x1 : Int) == (x1 : Int)) = true := by simp
                have heq : ∀ W, (Op.equalIn 10000 29 (.agg #[.int .i64 (x0 : Int), .int .i64 (x1 : Int)]) (.agg #[.int .i64 (x0 : Int), .int .i64 (x1 : Int)])).run Try.prog W = .ok true W := fun W => by rw [eq_two]; simp
                have HN := Lib.hid (setS_next HF.out Hpq.out HK.out (PC.out.1 rfl rfl) HV.out.1 HV.out.2.1 HV.out.2.2 Hix.out)
                clear HV
                go_wp2_with fail
                go_roundw
                case rel => exact ⟨q + 1, i, _, rfl, by rw [HN.out.2, HA.out], rfl, by first | rfl | go_num, hlt, Lib.hid HN.out.1⟩
                case measure => simp [RowKit.intOf]; omega
              · subst h00
                have q0 : ((x0 : Int) == (x0 : Int)) = true := by simp
                have q0n : ((x0 : Int) != (x0 : Int)) = false := by simp
                have q1 : ((x1 : Int) == (y1 : Int)) = false := by simp; omega
                have q1n : ((x1 : Int) != (y1 : Int)) = true := by simp; omega
                have heq : ∀ W, (Op.equalIn 10000 29 (.agg #[.int .i64 (x0 : Int), .int .i64 (x1 : Int)]) (.agg #[.int .i64 (x0 : Int), .int .i64 (y1 : Int)])).run Try.prog W = .ok false W := fun W => by rw [eq_two, q1, Bool.and_false]
                rcases HF.out.he with he | he
                · subst he
                  have HN := Lib.hid (fun (w9 : World) (o9 : w9.ownsRow B 33 1 (.slice (some ⟨g, 0, none⟩) n c) n (i8s (becZ nsm9 rs (becZ nsm9 rs K i A) b A))) (g9 : V.grownBy w9 (some g)) => setS_next HF.out Hpq.out HK.out (PC.out.2.2 (.inr h11) (.inl ⟨rfl, rfl⟩)) o9 (HV.out.2.1.trans g9) (HV.out.2.2.trans g9) Hix.out)
                  go_wp2_with fail
                  go_quiet (fail)
                  generalize hX9 : World.drewN V _ = V9
                  have HV9 := Lib.hid (show V9.ownsRow B 33 1 (.slice (some ⟨g, 0, none⟩) n c) n (i8s K) ∧ w.grownBy V9 (some g) ∧ V.grownBy V9 (some g) from by
                    rw [← hX9]
                    exact ⟨HV.out.1, grown_N HV.out.2.1 _, grown_N (World.grownBy.refl _ _) _⟩)
                  have kxa9 : V9.cell? ⟨X, 0, none⟩ = some (.int .i64 (i : Int)) := by rw [← hX9]; exact kxa
                  have kxb9 : V9.cell? ⟨X, 1, none⟩ = some (.int .i64 (b : Int)) := by rw [← hX9]; exact kxb
                  have kee9 : V9.cell? ⟨Q, 0, none⟩ = some (.int .i8 0) := by rw [← hX9]; exact kee
                  clear hX9
                  go_wp2_with fail
                  refine (HSet.out A HAt.out V9 (Hrd.out _ HV9.out.2.1) HV9.out.1).mono ?_
                  rintro _ w9 ⟨rfl, o9, g9⟩
                  have HNN := Lib.hid (HN.out w9 o9 (HV9.out.2.2.trans g9))
                  clear o9 g9 HN HV9 HV
                  go_wp2_with fail
                  go_roundw
                  case rel => exact ⟨q + 1, i, _, rfl, by rw [HNN.out.2, HA.out], rfl, by first | rfl | go_num, hlt, Lib.hid HNN.out.1⟩
                  case measure => simp [RowKit.intOf]; omega
                · subst he
                  have HN := Lib.hid (fun (w9 : World) (o9 : w9.ownsRow B 33 1 (.slice (some ⟨g, 0, none⟩) n c) n (i8s (becZ nsm9 rs (becZ nsm9 rs K i 1) b 1))) (g9 : V.grownBy w9 (some g)) => setS_next HF.out Hpq.out HK.out (PC.out.2.1 (.inr ⟨rfl, h11⟩)) o9 (HV.out.2.1.trans g9) (HV.out.2.2.trans g9) Hix.out)
                  go_wp2_with fail
                  go_quiet (fail)
                  generalize hX9 : World.drewN V _ = V9
                  have HV9 := Lib.hid (show V9.ownsRow B 33 1 (.slice (some ⟨g, 0, none⟩) n c) n (i8s K) ∧ w.grownBy V9 (some g) ∧ V.grownBy V9 (some g) from by
                    rw [← hX9]
                    exact ⟨HV.out.1, grown_N HV.out.2.1 _, grown_N (World.grownBy.refl _ _) _⟩)
                  have kxa9 : V9.cell? ⟨X, 0, none⟩ = some (.int .i64 (i : Int)) := by rw [← hX9]; exact kxa
                  have kxb9 : V9.cell? ⟨X, 1, none⟩ = some (.int .i64 (b : Int)) := by rw [← hX9]; exact kxb
                  have kee9 : V9.cell? ⟨Q, 0, none⟩ = some (.int .i8 1) := by rw [← hX9]; exact kee
                  clear hX9
                  go_wp2_with fail
                  refine (HSet.out 1 (.inr rfl) V9 (Hrd.out _ HV9.out.2.1) HV9.out.1).mono ?_
                  rintro _ w9 ⟨rfl, o9, g9⟩
                  have HNN := Lib.hid (HN.out w9 o9 (HV9.out.2.2.trans g9))
                  clear o9 g9 HN HV9 HV
                  go_wp2_with fail
                  go_roundw
                  case rel => exact ⟨q + 1, i, _, rfl, by rw [HNN.out.2, HA.out], rfl, by first | rfl | go_num, hlt, Lib.hid HNN.out.1⟩
                  case measure => simp [RowKit.intOf]; omega
            · have q0 : ((x0 : Int) == (y0 : Int)) = false := by simp; omega
              have q0n : ((x0 : Int) != (y0 : Int)) = true := by simp; omega
              have heq : ∀ W, (Op.equalIn 10000 29 (.agg #[.int .i64 (x0 : Int), .int .i64 (x1 : Int)]) (.agg #[.int .i64 (y0 : Int), .int .i64 (y1 : Int)])).run Try.prog W = .ok false W := fun W => by rw [eq_two, q0, Bool.false_and]
              rcases HF.out.he with he | he
              · subst he
                have HN := Lib.hid (fun (w9 : World) (o9 : w9.ownsRow B 33 1 (.slice (some ⟨g, 0, none⟩) n c) n (i8s (becZ nsm9 rs (becZ nsm9 rs K i 0) b 0))) (g9 : V.grownBy w9 (some g)) => setS_next HF.out Hpq.out HK.out (PC.out.2.1 (.inl ⟨rfl, h00⟩)) o9 (HV.out.2.1.trans g9) (HV.out.2.2.trans g9) Hix.out)
                go_wp2_with fail
                go_quiet (fail)
                generalize hX9 : World.drewN V _ = V9
                have HV9 := Lib.hid (show V9.ownsRow B 33 1 (.slice (some ⟨g, 0, none⟩) n c) n (i8s K) ∧ w.grownBy V9 (some g) ∧ V.grownBy V9 (some g) from by
                  rw [← hX9]
                  exact ⟨HV.out.1, grown_N HV.out.2.1 _, grown_N (World.grownBy.refl _ _) _⟩)
                have kxa9 : V9.cell? ⟨X, 0, none⟩ = some (.int .i64 (i : Int)) := by rw [← hX9]; exact kxa
                have kxb9 : V9.cell? ⟨X, 1, none⟩ = some (.int .i64 (b : Int)) := by rw [← hX9]; exact kxb
                have kee9 : V9.cell? ⟨Q, 0, none⟩ = some (.int .i8 0) := by rw [← hX9]; exact kee
                clear hX9
                go_wp2_with fail
                refine (HSet.out 0 (.inl rfl) V9 (Hrd.out _ HV9.out.2.1) HV9.out.1).mono ?_
                rintro _ w9 ⟨rfl, o9, g9⟩
                have HNN := Lib.hid (HN.out w9 o9 (HV9.out.2.2.trans g9))
                clear o9 g9 HN HV9 HV
                go_wp2_with fail
                go_roundw
                case rel => exact ⟨q + 1, i, _, rfl, by rw [HNN.out.2, HA.out], rfl, by first | rfl | go_num, hlt, Lib.hid HNN.out.1⟩
                case measure => simp [RowKit.intOf]; omega
              · by_cases h11 : x1 = y1
                · subst h11
                  have q1n : ((x1 : Int) != (x1 : Int)) = false := by simp
                  subst he
                  have HN := Lib.hid (fun (w9 : World) (o9 : w9.ownsRow B 33 1 (.slice (some ⟨g, 0, none⟩) n c) n (i8s (becZ nsm9 rs (becZ nsm9 rs K i A) b A))) (g9 : V.grownBy w9 (some g)) => setS_next HF.out Hpq.out HK.out (PC.out.2.2 (.inl h00) (.inr ⟨rfl, rfl⟩)) o9 (HV.out.2.1.trans g9) (HV.out.2.2.trans g9) Hix.out)
                  go_wp2_with fail
                  go_quiet (fail)
                  generalize hX9 : World.drewN V _ = V9
                  have HV9 := Lib.hid (show V9.ownsRow B 33 1 (.slice (some ⟨g, 0, none⟩) n c) n (i8s K) ∧ w.grownBy V9 (some g) ∧ V.grownBy V9 (some g) from by
                    rw [← hX9]
                    exact ⟨HV.out.1, grown_N HV.out.2.1 _, grown_N (World.grownBy.refl _ _) _⟩)
                  have kxa9 : V9.cell? ⟨X, 0, none⟩ = some (.int .i64 (i : Int)) := by rw [← hX9]; exact kxa
                  have kxb9 : V9.cell? ⟨X, 1, none⟩ = some (.int .i64 (b : Int)) := by rw [← hX9]; exact kxb
                  have kee9 : V9.cell? ⟨Q, 0, none⟩ = some (.int .i8 1) := by rw [← hX9]; exact kee
                  clear hX9
                  go_wp2_with fail
                  refine (HSet.out A HAt.out V9 (Hrd.out _ HV9.out.2.1) HV9.out.1).mono ?_
                  rintro _ w9 ⟨rfl, o9, g9⟩
                  have HNN := Lib.hid (HN.out w9 o9 (HV9.out.2.2.trans g9))
                  clear o9 g9 HN HV9 HV
                  go_wp2_with fail
                  go_roundw
                  case rel => exact ⟨q + 1, i, _, rfl, by rw [HNN.out.2, HA.out], rfl, by first | rfl | go_num, hlt, Lib.hid HNN.out.1⟩
                  case measure => simp [RowKit.intOf]; omega
                · have q1n : ((x1 : Int) != (y1 : Int)) = true := by simp; omega
                  subst he
                  have HN := Lib.hid (fun (w9 : World) (o9 : w9.ownsRow B 33 1 (.slice (some ⟨g, 0, none⟩) n c) n (i8s (becZ nsm9 rs (becZ nsm9 rs K i 1) b 1))) (g9 : V.grownBy w9 (some g)) => setS_next HF.out Hpq.out HK.out (PC.out.2.1 (.inr ⟨rfl, fun x => absurd x (by omega)⟩)) o9 (HV.out.2.1.trans g9) (HV.out.2.2.trans g9) Hix.out)
                  go_wp2_with fail
                  go_quiet (fail)
                  generalize hX9 : World.drewN V _ = V9
                  have HV9 := Lib.hid (show V9.ownsRow B 33 1 (.slice (some ⟨g, 0, none⟩) n c) n (i8s K) ∧ w.grownBy V9 (some g) ∧ V.grownBy V9 (some g) from by
                    rw [← hX9]
                    exact ⟨HV.out.1, grown_N HV.out.2.1 _, grown_N (World.grownBy.refl _ _) _⟩)
                  have kxa9 : V9.cell? ⟨X, 0, none⟩ = some (.int .i64 (i : Int)) := by rw [← hX9]; exact kxa
                  have kxb9 : V9.cell? ⟨X, 1, none⟩ = some (.int .i64 (b : Int)) := by rw [← hX9]; exact kxb
                  have kee9 : V9.cell? ⟨Q, 0, none⟩ = some (.int .i8 1) := by rw [← hX9]; exact kee
                  clear hX9
                  go_wp2_with fail
                  refine (HSet.out 1 (.inr rfl) V9 (Hrd.out _ HV9.out.2.1) HV9.out.1).mono ?_
                  rintro _ w9 ⟨rfl, o9, g9⟩
                  have HNN := Lib.hid (HN.out w9 o9 (HV9.out.2.2.trans g9))
                  clear o9 g9 HN HV9 HV
                  go_wp2_with fail
                  go_roundw
                  case rel => exact ⟨q + 1, i, _, rfl, by rw [HNN.out.2, HA.out], rfl, by first | rfl | go_num, hlt, Lib.hid HNN.out.1⟩
                  case measure => simp [RowKit.intOf]; omega
          · obtain ⟨V, hV⟩ : ∃ V, ((wr.alloc (.cells #[.int .i64 (y0 : Int), .int .i64 (y1 : Int)] 29)).alloc (.cells #[.int .i64 (x0 : Int), .int .i64 (x1 : Int)] 29)).drew = V := ⟨_, rfl⟩
            have hbV : Below (X + 1) wr V := by
              rw [← hV]
              exact below_DD (below_alloc9 hszX (below_alloc9 hszX hb0 _) _)
            have hu : V.heap[X + 1]? = some (.cells #[.int .i64 (y0 : Int), .int .i64 (y1 : Int)] 29 (0, 0)) := by
              rw [← hV]
              show ((wr.alloc _).alloc _).heap[X + 1]? = _
              rw [heap_alloc_old _ _ (by rw [World.size_alloc]; omega), ← hwrX]
              exact heap_alloc_new wr _
            have hz : V.heap[X + 1 + 1]? = some (.cells #[.int .i64 (x0 : Int), .int .i64 (x1 : Int)] 29 (0, 0)) := by
              rw [← hV]
              show ((wr.alloc _).alloc _).heap[X + 1 + 1]? = _
              have := heap_alloc_new (wr.alloc (.cells #[.int .i64 (y0 : Int), .int .i64 (y1 : Int)] 29)) (.cells #[.int .i64 (x0 : Int), .int .i64 (x1 : Int)] 29)
              rwa [World.size_alloc, hwrX] at this
            have ku0 : V.cell? ⟨X + 1, 0, none⟩ = some (.int .i64 (y0 : Int)) := cell_of_row V (X + 1) 0 _ _ (0, 0) hu
            have ku1 : V.cell? ⟨X + 1, 1, none⟩ = some (.int .i64 (y1 : Int)) := cell_of_row V (X + 1) 1 _ _ (0, 0) hu
            have kz0 : V.cell? ⟨X + 1 + 1, 0, none⟩ = some (.int .i64 (x0 : Int)) := cell_of_row V (X + 1 + 1) 0 _ _ (0, 0) hz
            have kz1 : V.cell? ⟨X + 1 + 1, 1, none⟩ = some (.int .i64 (x1 : Int)) := cell_of_row V (X + 1 + 1) 1 _ _ (0, 0) hz
            have kxa : V.cell? ⟨X, 0, none⟩ = some (.int .i64 (i : Int)) := (hmk V hbV).1
            have kxb : V.cell? ⟨X, 1, none⟩ = some (.int .i64 (b : Int)) := (hmk V hbV).2.1
            have kee : V.cell? ⟨Q, 0, none⟩ = some (.int .i8 e) := by
              have h1 := H1.out.2.1
              have h2 : V.heap[Q]? = _ := (hbV.block Q (by have := HbW.out; omega)).trans ((HW1.out.2.2.2.2.block Q (by have := H1.out.2.2.1; omega) (fun e => by have := HgQ.out; injection e with e; omega)).trans h1)
              exact cell_of_row V Q 0 _ _ (0, 0) h2
            have keeD : V.drew.cell? ⟨Q, 0, none⟩ = some (.int .i8 e) := kee
            have ku0D : V.drew.cell? ⟨X + 1, 0, none⟩ = some (.int .i64 (y0 : Int)) := ku0
            have ku1D : V.drew.cell? ⟨X + 1, 1, none⟩ = some (.int .i64 (y1 : Int)) := ku1
            have kz0D : V.drew.cell? ⟨X + 1 + 1, 0, none⟩ = some (.int .i64 (x0 : Int)) := kz0
            have kz1D : V.drew.cell? ⟨X + 1 + 1, 1, none⟩ = some (.int .i64 (x1 : Int)) := kz1
            have HV := Lib.hid (show V.ownsRow B 33 1 (.slice (some ⟨g, 0, none⟩) n c) n (i8s K) ∧ w.grownBy V (some g) ∧ w1.grownBy V (some g) from ⟨own_below HW1.out.2.2.1 (by rw [hwrX]; exact hbV), HW1.out.2.2.2.1.trans (grown_of9 hwrX hbV), HW1.out.2.2.2.2.trans (grown_of9 hwrX hbV)⟩)
            rw [hV]
            clear hu hz hV hbV hmk hb0 hszX
            by_cases h00 : x0 = y0
            · by_cases h11 : x1 = y1
              · subst h00
                subst h11
                have q0 : ((x0 : Int) == (x0 : Int)) = true := by simp
                have q1 : ((x1 : Int) == (x1 : Int)) = true := by simp
                have heq : ∀ W, (Op.equalIn 10000 29 (.agg #[.int .i64 (x0 : Int), .int .i64 (x1 : Int)]) (.agg #[.int .i64 (x0 : Int), .int .i64 (x1 : Int)])).run Try.prog W = .ok true W := fun W => by rw [eq_two]; simp
                have HN := Lib.hid (setS_next HF.out Hpq.out HK.out (PC.out.1 rfl rfl) HV.out.1 HV.out.2.1 HV.out.2.2 Hix.out)
                clear HV
                go_wp2_with fail
                go_roundw
                case rel => exact ⟨q + 1, i, _, rfl, by rw [HN.out.2, HA.out], rfl, by first | rfl | go_num, hlt, Lib.hid HN.out.1⟩
                case measure => simp [RowKit.intOf]; omega
              · subst h00
                have q0 : ((x0 : Int) == (x0 : Int)) = true := by simp
                have q0n : ((x0 : Int) != (x0 : Int)) = false := by simp
                have q1 : ((x1 : Int) == (y1 : Int)) = false := by simp; omega
                have q1n : ((x1 : Int) != (y1 : Int)) = true := by simp; omega
                have heq : ∀ W, (Op.equalIn 10000 29 (.agg #[.int .i64 (x0 : Int), .int .i64 (x1 : Int)]) (.agg #[.int .i64 (x0 : Int), .int .i64 (y1 : Int)])).run Try.prog W = .ok false W := fun W => by rw [eq_two, q1, Bool.and_false]
                rcases HF.out.he with he | he
                · subst he
                  have HN := Lib.hid (fun (w9 : World) (o9 : w9.ownsRow B 33 1 (.slice (some ⟨g, 0, none⟩) n c) n (i8s (becZ nsm9 rs (becZ nsm9 rs K i A) b A))) (g9 : V.grownBy w9 (some g)) => setS_next HF.out Hpq.out HK.out (PC.out.2.2 (.inr h11) (.inl ⟨rfl, rfl⟩)) o9 (HV.out.2.1.trans g9) (HV.out.2.2.trans g9) Hix.out)
                  go_wp2_with fail
                  go_quiet (fail)
                  generalize hX9 : World.drewN V _ = V9
                  have HV9 := Lib.hid (show V9.ownsRow B 33 1 (.slice (some ⟨g, 0, none⟩) n c) n (i8s K) ∧ w.grownBy V9 (some g) ∧ V.grownBy V9 (some g) from by
                    rw [← hX9]
                    exact ⟨HV.out.1, grown_N HV.out.2.1 _, grown_N (World.grownBy.refl _ _) _⟩)
                  have kxa9 : V9.cell? ⟨X, 0, none⟩ = some (.int .i64 (i : Int)) := by rw [← hX9]; exact kxa
                  have kxb9 : V9.cell? ⟨X, 1, none⟩ = some (.int .i64 (b : Int)) := by rw [← hX9]; exact kxb
                  have kee9 : V9.cell? ⟨Q, 0, none⟩ = some (.int .i8 0) := by rw [← hX9]; exact kee
                  clear hX9
                  go_wp2_with fail
                  refine (HSet.out A HAt.out V9 (Hrd.out _ HV9.out.2.1) HV9.out.1).mono ?_
                  rintro _ w9 ⟨rfl, o9, g9⟩
                  have HNN := Lib.hid (HN.out w9 o9 (HV9.out.2.2.trans g9))
                  clear o9 g9 HN HV9 HV
                  go_wp2_with fail
                  go_roundw
                  case rel => exact ⟨q + 1, i, _, rfl, by rw [HNN.out.2, HA.out], rfl, by first | rfl | go_num, hlt, Lib.hid HNN.out.1⟩
                  case measure => simp [RowKit.intOf]; omega
                · subst he
                  have HN := Lib.hid (fun (w9 : World) (o9 : w9.ownsRow B 33 1 (.slice (some ⟨g, 0, none⟩) n c) n (i8s (becZ nsm9 rs (becZ nsm9 rs K i 1) b 1))) (g9 : V.grownBy w9 (some g)) => setS_next HF.out Hpq.out HK.out (PC.out.2.1 (.inr ⟨rfl, h11⟩)) o9 (HV.out.2.1.trans g9) (HV.out.2.2.trans g9) Hix.out)
                  go_wp2_with fail
                  go_quiet (fail)
                  generalize hX9 : World.drewN V _ = V9
                  have HV9 := Lib.hid (show V9.ownsRow B 33 1 (.slice (some ⟨g, 0, none⟩) n c) n (i8s K) ∧ w.grownBy V9 (some g) ∧ V.grownBy V9 (some g) from by
                    rw [← hX9]
                    exact ⟨HV.out.1, grown_N HV.out.2.1 _, grown_N (World.grownBy.refl _ _) _⟩)
                  have kxa9 : V9.cell? ⟨X, 0, none⟩ = some (.int .i64 (i : Int)) := by rw [← hX9]; exact kxa
                  have kxb9 : V9.cell? ⟨X, 1, none⟩ = some (.int .i64 (b : Int)) := by rw [← hX9]; exact kxb
                  have kee9 : V9.cell? ⟨Q, 0, none⟩ = some (.int .i8 1) := by rw [← hX9]; exact kee
                  clear hX9
                  go_wp2_with fail
                  refine (HSet.out 1 (.inr rfl) V9 (Hrd.out _ HV9.out.2.1) HV9.out.1).mono ?_
                  rintro _ w9 ⟨rfl, o9, g9⟩
                  have HNN := Lib.hid (HN.out w9 o9 (HV9.out.2.2.trans g9))
                  clear o9 g9 HN HV9 HV
                  go_wp2_with fail
                  go_roundw
                  case rel => exact ⟨q + 1, i, _, rfl, by rw [HNN.out.2, HA.out], rfl, by first | rfl | go_num, hlt, Lib.hid HNN.out.1⟩
                  case measure => simp [RowKit.intOf]; omega
            · have q0 : ((x0 : Int) == (y0 : Int)) = false := by simp; omega
              have q0n : ((x0 : Int) != (y0 : Int)) = true := by simp; omega
              have heq : ∀ W, (Op.equalIn 10000 29 (.agg #[.int .i64 (x0 : Int), .int .i64 (x1 : Int)]) (.agg #[.int .i64 (y0 : Int), .int .i64 (y1 : Int)])).run Try.prog W = .ok false W := fun W => by rw [eq_two, q0, Bool.false_and]
              rcases HF.out.he with he | he
              · subst he
                have HN := Lib.hid (fun (w9 : World) (o9 : w9.ownsRow B 33 1 (.slice (some ⟨g, 0, none⟩) n c) n (i8s (becZ nsm9 rs (becZ nsm9 rs K i 0) b 0))) (g9 : V.grownBy w9 (some g)) => setS_next HF.out Hpq.out HK.out (PC.out.2.1 (.inl ⟨rfl, h00⟩)) o9 (HV.out.2.1.trans g9) (HV.out.2.2.trans g9) Hix.out)
                go_wp2_with fail
                go_quiet (fail)
                generalize hX9 : World.drewN V _ = V9
                have HV9 := Lib.hid (show V9.ownsRow B 33 1 (.slice (some ⟨g, 0, none⟩) n c) n (i8s K) ∧ w.grownBy V9 (some g) ∧ V.grownBy V9 (some g) from by
                  rw [← hX9]
                  exact ⟨HV.out.1, grown_N HV.out.2.1 _, grown_N (World.grownBy.refl _ _) _⟩)
                have kxa9 : V9.cell? ⟨X, 0, none⟩ = some (.int .i64 (i : Int)) := by rw [← hX9]; exact kxa
                have kxb9 : V9.cell? ⟨X, 1, none⟩ = some (.int .i64 (b : Int)) := by rw [← hX9]; exact kxb
                have kee9 : V9.cell? ⟨Q, 0, none⟩ = some (.int .i8 0) := by rw [← hX9]; exact kee
                clear hX9
                go_wp2_with fail
                refine (HSet.out 0 (.inl rfl) V9 (Hrd.out _ HV9.out.2.1) HV9.out.1).mono ?_
                rintro _ w9 ⟨rfl, o9, g9⟩
                have HNN := Lib.hid (HN.out w9 o9 (HV9.out.2.2.trans g9))
                clear o9 g9 HN HV9 HV
                go_wp2_with fail
                go_roundw
                case rel => exact ⟨q + 1, i, _, rfl, by rw [HNN.out.2, HA.out], rfl, by first | rfl | go_num, hlt, Lib.hid HNN.out.1⟩
                case measure => simp [RowKit.intOf]; omega
              · by_cases h11 : x1 = y1
                · subst h11
                  have q1n : ((x1 : Int) != (x1 : Int)) = false := by simp
                  subst he
                  have HN := Lib.hid (fun (w9 : World) (o9 : w9.ownsRow B 33 1 (.slice (some ⟨g, 0, none⟩) n c) n (i8s (becZ nsm9 rs (becZ nsm9 rs K i A) b A))) (g9 : V.grownBy w9 (some g)) => setS_next HF.out Hpq.out HK.out (PC.out.2.2 (.inl h00) (.inr ⟨rfl, rfl⟩)) o9 (HV.out.2.1.trans g9) (HV.out.2.2.trans g9) Hix.out)
                  go_wp2_with fail
                  go_quiet (fail)
                  generalize hX9 : World.drewN V _ = V9
                  have HV9 := Lib.hid (show V9.ownsRow B 33 1 (.slice (some ⟨g, 0, none⟩) n c) n (i8s K) ∧ w.grownBy V9 (some g) ∧ V.grownBy V9 (some g) from by
                    rw [← hX9]
                    exact ⟨HV.out.1, grown_N HV.out.2.1 _, grown_N (World.grownBy.refl _ _) _⟩)
                  have kxa9 : V9.cell? ⟨X, 0, none⟩ = some (.int .i64 (i : Int)) := by rw [← hX9]; exact kxa
                  have kxb9 : V9.cell? ⟨X, 1, none⟩ = some (.int .i64 (b : Int)) := by rw [← hX9]; exact kxb
                  have kee9 : V9.cell? ⟨Q, 0, none⟩ = some (.int .i8 1) := by rw [← hX9]; exact kee
                  clear hX9
                  go_wp2_with fail
                  refine (HSet.out A HAt.out V9 (Hrd.out _ HV9.out.2.1) HV9.out.1).mono ?_
                  rintro _ w9 ⟨rfl, o9, g9⟩
                  have HNN := Lib.hid (HN.out w9 o9 (HV9.out.2.2.trans g9))
                  clear o9 g9 HN HV9 HV
                  go_wp2_with fail
                  go_roundw
                  case rel => exact ⟨q + 1, i, _, rfl, by rw [HNN.out.2, HA.out], rfl, by first | rfl | go_num, hlt, Lib.hid HNN.out.1⟩
                  case measure => simp [RowKit.intOf]; omega
                · have q1n : ((x1 : Int) != (y1 : Int)) = true := by simp; omega
                  subst he
                  have HN := Lib.hid (fun (w9 : World) (o9 : w9.ownsRow B 33 1 (.slice (some ⟨g, 0, none⟩) n c) n (i8s (becZ nsm9 rs (becZ nsm9 rs K i 1) b 1))) (g9 : V.grownBy w9 (some g)) => setS_next HF.out Hpq.out HK.out (PC.out.2.1 (.inr ⟨rfl, fun x => absurd x (by omega)⟩)) o9 (HV.out.2.1.trans g9) (HV.out.2.2.trans g9) Hix.out)
                  go_wp2_with fail
                  go_quiet (fail)
                  generalize hX9 : World.drewN V _ = V9
                  have HV9 := Lib.hid (show V9.ownsRow B 33 1 (.slice (some ⟨g, 0, none⟩) n c) n (i8s K) ∧ w.grownBy V9 (some g) ∧ V.grownBy V9 (some g) from by
                    rw [← hX9]
                    exact ⟨HV.out.1, grown_N HV.out.2.1 _, grown_N (World.grownBy.refl _ _) _⟩)
                  have kxa9 : V9.cell? ⟨X, 0, none⟩ = some (.int .i64 (i : Int)) := by rw [← hX9]; exact kxa
                  have kxb9 : V9.cell? ⟨X, 1, none⟩ = some (.int .i64 (b : Int)) := by rw [← hX9]; exact kxb
                  have kee9 : V9.cell? ⟨Q, 0, none⟩ = some (.int .i8 1) := by rw [← hX9]; exact kee
                  clear hX9
                  go_wp2_with fail
                  refine (HSet.out 1 (.inr rfl) V9 (Hrd.out _ HV9.out.2.1) HV9.out.1).mono ?_
                  rintro _ w9 ⟨rfl, o9, g9⟩
                  have HNN := Lib.hid (HN.out w9 o9 (HV9.out.2.2.trans g9))
                  clear o9 g9 HN HV9 HV
                  go_wp2_with fail
                  go_roundw
                  case rel => exact ⟨q + 1, i, _, rfl, by rw [HNN.out.2, HA.out], rfl, by first | rfl | go_num, hlt, Lib.hid HNN.out.1⟩
                  case measure => simp [RowKit.intOf]; omega
    · obtain rfl : q = m := by omega
      have hqq : ¬ (q : Int) < (q : Int) := by omega
      have HE := Lib.hid (show W.ownsRow B 33 1 (.slice (some ⟨g, 0, none⟩) n c) n (i8s R) ∧ w.grownBy W (some g) from by
        have h := HI.out.ow
        rw [← HF.out.ml, List.take_length, HR.out] at h
        exact ⟨h, HI.out.gr⟩)
      clear HI hqm hge
      go_wp2_with fail
      go_end0
      exact ⟨rfl, HE.out⟩
end Go.Proofs.Ytkcckophnamajaa
