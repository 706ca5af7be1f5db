/- Layer 9, the program: settleStretches. -/
import Derived.Test.YtkcckophnamajaaSetP9
import Derived.Test.YtkcckophnamajaaRest9
import Derived.Test.YtkcckophnamajaaScope
import Derived.Deep.RegionWith
import Derived.Laws.Slices
set_option linter.unusedSimpArgs false
set_option linter.unusedVariables false
namespace Go.Proofs.Ytkcckophnamajaa
open Go.RowKit Go.Lib

set_option maxRecDepth 100000 in
theorem slice_i8_3 (W : World) (g n c f m : Nat) (hm : 0 < m) (h2 : f + m ≤ c) : (Instr.slice 23 (.slice (some ⟨g, 0, none⟩) n c) (some (.int .i64 (f : Int))) (some (.int .i64 ((f + m : Nat) : Int))) (some (.int .i64 ((f + m : Nat) : Int)))).run Try.prog W = .ok (.slice (some ⟨g, f, none⟩) m m) W := by
  have h := run_slice_lhm (P := Try.prog) W 23 (some ⟨g, 0, none⟩) n c (show Try.prog.underlying 23 = some (.slice (Try.prog.elem 23)) from Try.underlying23) .i64 .i64 .i64 (f : Int) ((f + m : Nat) : Int) ((f + m : Nat) : Int) (by omega) (by omega) (by omega) (by omega)
  rw [h]
  have hs : (sizeOf (Try.prog.elem 23)).run Try.prog W = .ok 1 W := by rfl
  rw [hs]
  simp only [Result.andThen, sliced, Int.toNat_natCast]
  rw [if_neg (by omega), show f + m - f = m by omega]
  simp [Addr.add]
  omega
set_option maxRecDepth 100000 in
theorem slice_i8_1 (W : World) (g n c f m : Nat) (hm : 0 < m) (h1 : f + m = n) (h2 : n ≤ c) : (Instr.slice 23 (.slice (some ⟨g, 0, none⟩) n c) (some (.int .i64 (f : Int))) none none).run Try.prog W = .ok (.slice (some ⟨g, f, none⟩) m (c - f)) W := by
  have h := run_slice_l (P := Try.prog) W 23 (some ⟨g, 0, none⟩) n c (show Try.prog.underlying 23 = some (.slice (Try.prog.elem 23)) from Try.underlying23) .i64 (f : Int) (by omega) (by omega)
  rw [h]
  have hs : (sizeOf (Try.prog.elem 23)).run Try.prog W = .ok 1 W := by rfl
  rw [hs]
  simp only [Result.andThen, sliced, Int.toNat_natCast]
  rw [if_neg (by omega), show n - f = m by omega]
  simp [Addr.add]
  omega
/-- what holds between two stretches -/
structure StrS (w : World) (B g n c : Nat) (lev eos : Int) (R D T : List Int) (a : Int) (W : World) : Prop where
  ow : W.ownsRow B 33 1 (.slice (some ⟨g, 0, none⟩) n c) n (i8s (D ++ T))
  gr : w.grownBy W (some g)
  rt : D ++ rstZ lev eos a 0 T = R
  nr : Nrm T
theorem strS_drew {w : World} {B g n c : Nat} {lev eos : Int} {R D T : List Int} {a : Int} {W : World} (h : StrS w B g n c lev eos R D T a W) (k : Nat) : StrS w B g n c lev eos R D T a (W.drewN k) := ⟨h.ow, grown_N h.gr k, h.rt, h.nr⟩
theorem strS_D {w : World} {B g n c : Nat} {lev eos : Int} {R D T : List Int} {a : Int} {W : World} (h : StrS w B g n c lev eos R D T a W) : StrS w B g n c lev eos R D T a W.drew := ⟨h.ow, grown_D h.gr, h.rt, h.nr⟩
theorem strS_next {w W W' : World} {B g n c : Nat} {lev eos : Int} {R D M T : List Int} {a : Int} (h : StrS w B g n c lev eos R D (M ++ T) a W) (hM : ∀ k ∈ M, neuZ k = true) (hT : T = [] ∨ ∃ k t', T = k :: t' ∧ neuZ k = false)
    (o : W'.ownsRow B 33 1 (.slice (some ⟨g, 0, none⟩) n c) n (i8s (D ++ (List.replicate M.length (if a = behZ eos T then a else lev) ++ T)))) (g9 : W.grownBy W' (some g)) : StrS w B g n c lev eos R (D ++ List.replicate M.length (if a = behZ eos T then a else lev)) T a W' := by
  refine ⟨by rw [List.append_assoc]; exact o, h.gr.trans g9, ?_, fun k hk => h.nr k (by simp [hk])⟩
  have h1 := h.rt
  rw [rst_row lev eos T M a 0 hM, Nat.zero_add, rst_off lev eos hT a a] at h1
  rw [← h1]
  simp
set_option maxRecDepth 100000 in
set_option maxHeartbeats 8000000 in
theorem settleStretches_any9 (B g n c : Nat) (N : List Int) (lev sos eos : Int) (w : World) (h : w.ownsRow B 33 1 (.slice (some ⟨g, 0, none⟩) n c) n (i8s N)) (hN : Nrm N) (hn : n ≤ 1048576) :
    Calls Try.prog 32 #[.slice (some ⟨g, 0, none⟩) n c, .agg #[.int .i8 lev, .int .i8 sos, .int .i8 eos]] w (RuleAt B (some ⟨g, 0, none⟩) n c (rstZ lev eos sos 0 N) w) := by
  have HD := Lib.hid direction_any9
  have hnc := (own_caps h).1
  obtain ⟨Q, hQ⟩ : ∃ Q, w.heap.size = Q := ⟨_, rfl⟩
  obtain ⟨W0, hW0⟩ : ∃ W0, w.alloc (.cells #[.int .i8 lev, .int .i8 sos, .int .i8 eos] 59) = W0 := ⟨_, rfl⟩
  have hcs : W0.heap[Q]? = some (.cells #[.int .i8 lev, .int .i8 sos, .int .i8 eos] 59 (0, 0)) := by rw [← hW0, ← hQ]; exact heap_alloc_new w _
  have hgB := h.lt g rfl
  obtain ⟨R, hR⟩ : ∃ R, rstZ lev eos sos 0 N = R := ⟨_, rfl⟩
  rw [hR]
  have H0 := Lib.hid (show StrS W0 B g n c lev eos R [] N sos W0 from ⟨by rw [← hW0]; exact h.alloc _, World.grownBy.refl _ _, hR, hN⟩)
  have HG := Lib.hid (show w.grownBy W0 (some g) by rw [← hW0]; exact World.grownBy_alloc w _ _)
  have Hbox := Lib.hid (show ∀ W, W0.grownBy W (some g) → W.cell? ⟨Q, 0, none⟩ = some (.int .i8 lev) ∧ W.cell? ⟨Q, 2, none⟩ = some (.int .i8 eos) from fun W hg => by
    have h2 := (hg.block Q (Array.getElem?_eq_some_iff.1 hcs).1 (fun e => by injection e with e; omega)).trans hcs
    exact ⟨cell_of_row W Q 0 _ _ (0, 0) h2, cell_of_row W Q 2 _ _ (0, 0) h2⟩)
  have hc1 : W0.cell? ⟨Q, 1, none⟩ = some (.int .i8 sos) := cell_of_row W0 Q 1 _ _ (0, 0) hcs
  have HStr := Lib.hid (fun f m c' p M t a b W' hh hf hm hmc => stretch_any9 B g c n f m c' p M t a b lev W' hh hf hm hmc)
  have HWw := Lib.hid hW0
  have HQ := Lib.hid hQ
  clear h hN hcs hgB hW0 hQ hR
  go_enter Try.func32, Try.ntmps32
  go_wp2_with fail
  rw [HWw.out, HQ.out]
  go_wp2_with fail
  refine scope_found (fun _ _ _ => False) (fun _ _ _ => 0) (fun _ _ _ h => h.elim) ?first (fun _ _ _ _ h _ => h.elim)
  case first =>
  go_wp2_with fail
  go_step3
  go_wp2_with fail
  go_loopw [4, 5] (fun y x wr => ∃ (D T : List Int) (a : Int) (W : World), W = wr ∧ y = .int .i8 a ∧ x = .int .i64 (D.length : Int) ∧ Hid (StrS W0 B g n c lev eos R D T a W)) (fun _ x _ => n - (RowKit.intOf x).toNat)
  case atStart => exact ⟨[], N, sos, _, rfl, rfl, rfl, H0⟩
  case round =>
    obtain ⟨D, T, a, W, hW, rfl, rfl, HI⟩ := hrel
    subst hW
    have hl : (D ++ T).length = n := by have := HI.out.ow.1; simpa using this
    rw [List.length_append] at hl
    rcases T with _ | ⟨k, T⟩
    · have hq : D.length = n := by simpa using hl
      rw [hq]
      have hnn : ¬ (n : Int) < (n : Int) := by omega
      have HE := Lib.hid (show W.ownsRow B 33 1 (.slice (some ⟨g, 0, none⟩) n c) n (i8s R) ∧ w.grownBy W (some g) from by
        have h := HI.out
        refine ⟨?_, HG.out.trans h.gr⟩
        have h1 := h.ow
        have h2 := h.rt
        rw [rstZ, List.replicate_zero, List.append_nil] at h2
        rw [← h2]
        simpa using h1)
      clear hl hq HI H0
      go_wp2_with fail
      go_end0
      exact ⟨rfl, HE.out⟩
    · rw [List.length_cons] at hl
      obtain ⟨g', hA, hin, _, _, hcell, _, _⟩ := row_at HI.out.ow
      injection hA with hA
      injection hA with hA
      subst hA
      have hkk := HI.out.nr k (by simp)
      have hfi : (D.length : Int) < (n : Int) := by omega
      have hnext : IntKind.i64.wrap ((D.length : Int) + 1) = (D.length : Int) + 1 := IntWalk.i64_in _ (by omega)
      by_cases hk13 : k = 13
      · obtain ⟨M, T2, hMT, hM, hT2⟩ := stretch (k :: T)
        have hM1 : 0 < M.length := by
          rcases M with _ | ⟨m0, M⟩
          · rw [List.nil_append] at hMT
            rcases hT2 with rfl | ⟨k2, t2, rfl, hk2⟩
            · cases hMT
            · injection hMT with h1 _
              rw [← h1, hkk.1 hk13] at hk2
              cases hk2
          · simp
        have HI2 := Lib.hid (show StrS W0 B g n c lev eos R D (M ++ T2) a W by rw [← hMT]; exact HI.out)
        have hlen : D.length + M.length + T2.length = n := by
          have := congrArg List.length hMT
          rw [List.length_cons, List.length_append] at this
          omega
        have HM := Lib.hid (show (∀ k ∈ M, neuZ k = true) ∧ (T2 = [] ∨ ∃ k t', T2 = k :: t' ∧ neuZ k = false) from ⟨hM, hT2⟩)
        obtain ⟨m, hm⟩ : ∃ m, M.length = m := ⟨_, rfl⟩
        have Hm := Lib.hid hm
        obtain ⟨f, hf⟩ : ∃ f, D.length = f := ⟨_, rfl⟩
        have Hf := Lib.hid hf
        rw [hf] at hcell hfi hnext hlen ⊢
        rw [hm] at hlen hM1
        subst hk13
        have Hbx := Lib.hid (Hbox.out W HI.out.gr)
        clear hl hin hkk HI hMT hM hT2 hm hf H0 hc1
        go_wp2_with fail
        go_loopw [5, 6] (fun y x wr => wr = W ∧ ∃ j : Nat, y = .int .i64 (f : Int) ∧ x = .int .i64 ((f + j : Nat) : Int) ∧ j ≤ m) (fun _ x _ => n - (RowKit.intOf x).toNat)
        case atStart => exact ⟨rfl, 0, rfl, rfl, Nat.zero_le _⟩
        case round =>
          obtain ⟨hWW, j, rfl, rfl, hjm⟩ := hrel
          subst hWW
          rcases Nat.lt_or_ge j m with hjl | hjg
          · have hkj : wr.cell? ⟨g, f + j, none⟩ = some (.int .i8 13) := by
              have h := HI2.out
              obtain ⟨z, hz⟩ : ∃ z, M[j]? = some z := ⟨_, List.getElem?_eq_getElem (by rw [Hm.out]; exact hjl)⟩
              have hz13 : z = 13 := (h.nr z (by simp [List.mem_of_getElem? hz])).2 (HM.out.1 z (List.mem_of_getElem? hz))
              rw [h.ow.cellAt _ (by omega), List.getElem?_map, List.getElem?_append_right (by rw [Hf.out]; omega), Hf.out, Nat.add_sub_cancel_left, List.getElem?_append_left (by rw [Hm.out]; exact hjl), hz, hz13]
              rfl
            obtain ⟨q, hq⟩ : ∃ q, f + j = q := ⟨_, rfl⟩
            have Hq := Lib.hid hq
            have hqn : q < n := by omega
            rw [hq] at hkj ⊢
            have hqi : (q : Int) < (n : Int) := by omega
            have hnq : IntKind.i64.wrap ((q : Int) + 1) = (q : Int) + 1 := IntWalk.i64_in _ (by omega)
            clear hq
            go_wp2_with fail
            go_roundw
            case rel => exact ⟨trivial, j + 1, rfl, by rw [← Nat.add_assoc, Hq.out]; first | rfl | go_num, by omega⟩
            case measure => simp [RowKit.intOf]; omega
          · obtain rfl : j = m := by omega
            rcases T2 with _ | ⟨k2, t2⟩
            · have hfn : f + j = n := by simpa using hlen
              have HS1 := Lib.hid (fun W' => slice_i8_1 W' g n c f j hM1 hfn hnc)
              rw [hfn]
              have hnn : ¬ (n : Int) < (n : Int) := by omega
              have HC := Lib.hid (show ∀ W', StrS W0 B g n c lev eos R D (M ++ []) a W' → ∀ W'', W''.ownsRow B 33 1 (.slice (some ⟨g, 0, none⟩) n c) n (i8s (D ++ (List.replicate j (if a = eos then a else lev) ++ []))) → W'.grownBy W'' (some g) → W''.ownsRow B 33 1 (.slice (some ⟨g, 0, none⟩) n c) n (i8s R) ∧ w.grownBy W'' (some g) from fun W' hI W'' o9 g9 => by
                have h := strS_next hI HM.out.1 (.inl rfl) (by rw [Hm.out]; exact o9) g9
                refine ⟨?_, HG.out.trans h.gr⟩
                have h1 := h.ow
                have h2 := h.rt
                rw [rstZ, List.replicate_zero, List.append_nil] at h2
                rw [← h2]
                simpa using h1)
              have hb0 := Hbx.out.1
              have hb2 := Hbx.out.2
              have hb0D : wr.drew.cell? ⟨Q, 0, none⟩ = some (.int .i8 lev) := hb0
              have hb2D : wr.drew.cell? ⟨Q, 2, none⟩ = some (.int .i8 eos) := hb2
              have hsl := fun W' => HS1.out W'
              have HF := Lib.hid (show _ ∧ _ ∧ j ≤ 140737488355328 from ⟨Hf.out, Hm.out, by omega⟩)
              clear hlen hfn hjm hjg HS1
              go_wp2_with fail
              have HSC := Lib.hid (HStr.out f j (c - f) D M [] a eos wr.drew (strS_D HI2.out).ow HF.out.1 HF.out.2.1 HF.out.2.2)
              have HC2 := Lib.hid (HC.out wr.drew (strS_D HI2.out))
              clear HC
              go_region_with (go_at_call 47; refine (HSC.out).mono ?_; rintro e9 w9 ⟨rfl, o9, g9⟩)
              all_goals (
                have HE := Lib.hid (HC2.out w9 o9 g9)
                clear o9 g9
                go_wp2_with fail
                refine bodyPost_ret (results_none rfl _ _ _) rfl ?_
                exact ⟨rfl, HE.out⟩)
            · have HS1 := Lib.hid (fun W' => slice_i8_3 W' g n c f j hM1 (by omega))
              have hk2 : neuZ k2 = false := by
                rcases HM.out.2 with h | ⟨k3, t3, h, h3⟩
                · cases h
                · injection h with h4 _; rw [h4]; exact h3
              have hk2n : k2 ≠ 13 := fun e => by rw [e] at hk2; cases hk2
              have b13 : (k2 != 13) = true := by simpa using hk2n
              have hkj : wr.cell? ⟨g, f + j, none⟩ = some (.int .i8 k2) := by
                have h := HI2.out
                rw [h.ow.cellAt _ (by simp at hlen; omega), List.getElem?_map, List.getElem?_append_right (by rw [Hf.out]; omega), Hf.out, Nat.add_sub_cancel_left, List.getElem?_append_right (by rw [Hm.out]; exact Nat.le_refl _), Hm.out, Nat.sub_self]
                rfl
              have HC := Lib.hid (show ∀ W', StrS W0 B g n c lev eos R D (M ++ (k2 :: t2)) a W' → ∀ W'', W''.ownsRow B 33 1 (.slice (some ⟨g, 0, none⟩) n c) n (i8s (D ++ (List.replicate j (if a = wayZ k2 then a else lev) ++ (k2 :: t2)))) → W'.grownBy W'' (some g) → StrS W0 B g n c lev eos R (D ++ List.replicate j (if a = wayZ k2 then a else lev)) (k2 :: t2) a W'' from fun W' hI W'' o9 g9 => by
                have h := strS_next hI HM.out.1 (.inr ⟨k2, t2, rfl, hk2⟩) (by rw [Hm.out]; exact o9) g9
                rw [Hm.out] at h
                exact h)
              have Hlen := Lib.hid (show (D ++ List.replicate j (if a = wayZ k2 then a else lev)).length = f + j by rw [List.length_append, List.length_replicate, Hf.out])
              have hlq : f + j < n := by simp at hlen; omega
              have HF := Lib.hid (show _ ∧ _ ∧ j ≤ 140737488355328 from ⟨Hf.out, Hm.out, by omega⟩)
              have hsl := fun W' => HS1.out W'
              obtain ⟨f2, hf2⟩ : ∃ f2, f + j = f2 := ⟨_, rfl⟩
              rw [hf2] at hsl hkj hlq Hlen ⊢
              obtain ⟨f3, hf3⟩ : ∃ f3, f3 + 1 = f2 := ⟨f2 - 1, by omega⟩
              have hw1 : IntKind.i64.wrap ((f2 : Int) - 1) = (f3 : Int) := by rw [IntWalk.i64_in _ (by omega)]; omega
              have hw2 : IntKind.i64.wrap ((f3 : Int) + 1) = (f2 : Int) := by rw [IntWalk.i64_in _ (by omega)]; omega
              have hlqi : (f2 : Int) < (n : Int) := by omega
              have HFF := Lib.hid (show f < f2 by omega)
              have hkjD : wr.drew.cell? ⟨g, f2, none⟩ = some (.int .i8 k2) := hkj
              have hb0 := Hbx.out.1
              have hb0D : wr.drew.cell? ⟨Q, 0, none⟩ = some (.int .i8 lev) := hb0
              clear hlen hjm hjg HS1 hf2 hf3 hk2 hk2n
              go_wp2_with fail
              have HSC := Lib.hid (HStr.out f j j D M (k2 :: t2) a (wayZ k2) wr.drew (strS_D HI2.out).ow HF.out.1 HF.out.2.1 HF.out.2.2)
              have HC2 := Lib.hid (HC.out wr.drew (strS_D HI2.out))
              clear HC
              go_region_with (first | (go_at_call 45; refine (HD.out _ _).mono ?_; rintro e8 w8 ⟨rfl, h8⟩; obtain rfl := h8.symm) | (go_at_call 47; refine (HSC.out).mono ?_; rintro e9 w9 ⟨rfl, o9, g9⟩))
              all_goals (
                have HE := Lib.hid (HC2.out w9 o9 g9)
                clear o9 g9
                go_wp2_with fail
                go_roundw
                case rel => exact ⟨_, k2 :: t2, a, _, rfl, rfl, by rw [Hlen.out], HE⟩
                case measure => have := HFF.out; simp [RowKit.intOf]; omega)
      · have hkn : neuZ k = false := by
          cases e : neuZ k with
          | false => rfl
          | true => exact absurd (hkk.2 e) hk13
        have b13 : (k != 13) = true := by simpa using hk13
        have HN := Lib.hid (show StrS W0 B g n c lev eos R (D ++ [k]) T (wayZ k) W from by
          have h := HI.out
          refine ⟨by rw [List.append_assoc]; exact h.ow, h.gr, ?_, fun z hz => h.nr z (by simp [hz])⟩
          rw [← h.rt, rstZ, if_neg (by rw [hkn]; decide)]
          simp)
        have Hlen := Lib.hid (snoc_len D k)
        obtain ⟨f, hf⟩ : ∃ f, D.length = f := ⟨_, rfl⟩
        rw [hf] at hcell hfi hnext Hlen ⊢
        have hfn : f < n := by omega
        clear hl hin hkk HI hf H0 hc1 hk13 hkn
        go_wp2_with fail
        refine (HD.out _ _).mono ?_
        rintro _ w9 ⟨rfl, h9⟩
        obtain rfl := h9.symm
        go_wp2_with fail
        go_roundw
        case rel => exact ⟨D ++ [k], T, _, _, rfl, rfl, by rw [Hlen.out], HN⟩
        case measure => simp [RowKit.intOf]; omega
end Go.Proofs.Ytkcckophnamajaa
