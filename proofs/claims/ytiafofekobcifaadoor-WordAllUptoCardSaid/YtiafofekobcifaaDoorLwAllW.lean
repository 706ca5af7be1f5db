/- Layer 12, the law WordAll, over the program's contracts. (Made by tools/mkall12.py.) -/
import Derived.Test.YtiafofekobcifaaDoorHyW
import Derived.Test.YtiafofekobcifaaDoorToldC
import Derived.LoopN
set_option linter.unusedSimpArgs false
set_option linter.unusedVariables false
namespace Go.Proofs.YtiafofekobcifaaDoor
open Go.RowKit Go.Shelf Go.Lib
attribute [local go_sem] Oper.semAt_some

/-- what lies in the law's box of the number, and the calls it has put off; all below the box is as it was -/
structure TW (Wk : World) (E : Nat) (m : Int) (Ds : List Nat) (W : World) : Prop where
  bn : Boxed W E 3 (.int .i64 m)
  bel : Below E Wk W
  ds : ∀ D ∈ Ds, E < D ∧ W.heap[D]? = some (.deferred (some []))
section
variable {Wk : World} {E : Nat} {m : Int} {Ds : List Nat} {W : World}
theorem TW.lt (h : TW Wk E m Ds W) : E < W.heap.size := h.bn.lt
theorem TW.dlt (h : TW Wk E m Ds W) : ∀ D ∈ Ds, D < W.heap.size := fun D hD => heap_lt (h.ds D hD).2
theorem TW.moves (h : TW Wk E m Ds W) {b : Nat} {T : Bl} {W' : World} (hT : ∀ k, T k → b ≤ k) (hb : E < b) (hd : ∀ D ∈ Ds, D < b) (hm : Moves T W W') : TW Wk E m Ds W' := by
  have hn : ∀ k, k < b → ¬ T k := fun k hk e => by have := hT _ e; omega
  exact ⟨(hm.block _ h.bn.lt (hn _ hb)).trans h.bn, h.bel.trans ⟨hm.os, hm.tape, hm.output, hm.size, fun k hk => hm.block k (by have := h.lt; omega) (hn _ (by omega))⟩,
    fun D hD => ⟨(h.ds D hD).1, (hm.block _ (heap_lt (h.ds D hD).2) (hn _ (hd D hD))).trans (h.ds D hD).2⟩⟩
theorem TW.set (h : TW Wk E m Ds W) (m' : Int) : TW Wk E m' Ds (W.setCell ⟨E, 0, none⟩ (.int .i64 m')) :=
  ⟨h.bn.set _, h.bel.setCell (p := ⟨E, 0, none⟩) (Nat.le_refl _) _,
    fun D hD => ⟨(h.ds D hD).1, (Below.heap_setCell _ _ _ D (fun e => by have e : D = E := e; have := (h.ds D hD).1; omega)).trans (h.ds D hD).2⟩⟩
theorem TW.more (h : TW Wk E m Ds W) {D : Nat} (h1 : E < D) (hD : W.heap[D]? = some (.deferred (some []))) : TW Wk E m (D :: Ds) W :=
  ⟨h.bn, h.bel, fun X hX => by
    rcases List.mem_cons.1 hX with rfl | hX
    · exact ⟨h1, hD⟩
    · exact h.ds X hX⟩
theorem TW.keep (h : TW Wk E m Ds W) (hE : Wk.heap.size = E) : KeepN (fun k => k < E) (fun _ => False) Wk W := ⟨h.bel.size, fun k hk _ => h.bel.block k (by omega)⟩
end
set_option maxRecDepth 100000 in
set_option maxHeartbeats 8000000 in
theorem wordAll_any (H : WordP) (s : ByteArray) (lv : Int) (w : World) (hs : s.size ≤ 1073741824) (hT : Utf8Tabs 0 1 w) :
    Calls Tryd.prog 3 #[.string s, .int .i64 lv] w fun e w' => e = .returned (.bool true) ∧ Below w.heap.size w w' := by
  have hN := wds_len1 s hs
  have HAl := Lib.hid (fun W hT => H.all s W hs hT)
  have HRa := Lib.hid (fun W => rwall_any s W hs)
  have HLv := Lib.hid (fun W hT => alive12_any H W hT)
  obtain ⟨L, hLe⟩ : ∃ L, wds s = L := ⟨_, rfl⟩
  unfold AllW at HAl
  rw [hLe] at hN HAl HRa
  obtain ⟨n, hne⟩ : ∃ n, L.length = n := ⟨_, rfl⟩
  rw [hne] at hN HRa
  have Hn := Lib.hid hne
  obtain ⟨B, hB⟩ : ∃ B, w.heap.size = B := ⟨_, rfl⟩
  have h2 := tabs_size hT
  have HT := Lib.hid hT
  rw [hB] at h2 ⊢
  clear hLe hne hT
  refine (callsIn_wide (n := 9)).1 ?_
  refine callsIn_of_wp_marks Tryd.func3 rfl trivial ?_ rfl
  refine wpIn_wide.2 ?_
  simp only [Tryd.ntmps3, List.size_toArray, List.length_cons, List.length_nil, Nat.reduceAdd, Nat.reduceSub, Array.replicate_succ, Array.replicate_zero, List.push_toArray, List.append_toArray, List.nil_append, List.cons_append]
  go_wp2_with fail
  obtain ⟨W0, hW0⟩ : ∃ W0, (w.alloc (.cells #[.int .i64 lv] 3)).alloc (.cells #[.bool false] 4) = W0 := ⟨_, rfl⟩
  have hz0 : W0.heap.size = B + 2 := by rw [← hW0]; simp [hB]
  have l0 : Boxed W0 B 3 (.int .i64 lv) := by rw [← hW0]; simp only [Boxed, alloc_get, World.size_alloc, hB]; rw [if_neg (by omega)]; simp
  have r0 : Boxed W0 (B + 1) 4 (.bool false) := by rw [← hW0]; simp only [Boxed, alloc_get, World.size_alloc, hB]; simp
  have b0 : Below B w W0 := by rw [← hW0]; exact ((Below.refl B w).alloc (by omega) _).alloc (by simp; omega) _
  rw [hW0]
  clear hW0
  have HT0 := Lib.hid (Utf8Tabs_below HT.out (by rw [hB]; exact b0))
  refine (HRa.out W0).mono ?_
  rintro _ W1 ⟨A, c, rfl, o1, b1⟩
  rw [hz0] at b1 o1
  have hz1 : B + 2 ≤ W1.heap.size := by have := b1.size; omega
  have HR1 := Lib.hid (show RdP W1 W1.heap.size A L from by have := Rd.own o1; rw [← Hn.out] at this; exact this)
  have l1 : Boxed W1 B 3 (.int .i64 lv) := (b1.block B (by omega)).trans l0
  have r1 : Boxed W1 (B + 1) 4 (.bool false) := (b1.block (B + 1) (by omega)).trans r0
  have HT1 := Lib.hid (Utf8Tabs_below HT0.out (by rw [hz0]; exact b1))
  have B1 := Lib.hid (b0.trans (b1.mono (by omega)))
  obtain ⟨C, hC⟩ : ∃ C, W1.heap.size = C := ⟨_, rfl⟩
  rw [hC] at hz1 HR1
  clear o1 b1 b0 l0 r0 HRa HT0
  go_wp2_with fail
  obtain ⟨W2, hW2⟩ : ∃ W2, W1.alloc (.cells #[.slice A n c] 22) = W2 := ⟨_, rfl⟩
  have hz2 : W2.heap.size = C + 1 := by rw [← hW2]; simp [hC]
  have b2 : Below C W1 W2 := by rw [← hW2]; exact (Below.refl C W1).alloc (by omega) _
  have w2 : Boxed W2 C 22 (.slice A n c) := by rw [← hW2, ← hC]; exact Boxed.new W1 _ _
  first
    | rw [hW2]
    | (have hst : (W1.alloc (.cells #[.slice none 0 0] 22)).setCell ⟨C, 0, none⟩ (.slice A n c) = W2 := by rw [← hW2, ← hC]; exact setCell_alloc_new W1 _ _ _
       rw [hst])
  clear hW2
  have HT2 := Lib.hid (Utf8Tabs_below HT1.out (by rw [hC]; exact b2))
  have l2 : Boxed W2 B 3 (.int .i64 lv) := (b2.block B (by omega)).trans l1
  have r2 : Boxed W2 (B + 1) 4 (.bool false) := (b2.block (B + 1) (by omega)).trans r1
  have B2 := Lib.hid (B1.out.trans (b2.mono (by omega)))
  have HR2 := Lib.hid (HR1.out.below b2)
  clear b2 l1 r1 HT1 HR1 hC
  refine (HAl.out W2 HT2.out).mono ?_
  rintro _ Wk ⟨gf, lb, rfl, b3, hgf, hnil, hseq⟩
  rw [hz2] at b3 hseq
  have hz3 : C + 1 ≤ Wk.heap.size := by have := b3.size; omega
  have l3 : Boxed Wk B 3 (.int .i64 lv) := (b3.block B (by omega)).trans l2
  have r3 : Boxed Wk (B + 1) 4 (.bool false) := (b3.block (B + 1) (by omega)).trans r2
  have w3 : Boxed Wk C 22 (.slice A n c) := (b3.block C (by omega)).trans w2
  have HT3 := Lib.hid (Utf8Tabs_below HT2.out (by rw [hz2]; exact b3))
  have B3 := Lib.hid (B2.out.trans (b3.mono (by omega)))
  have HR3 := Lib.hid (HR2.out.below (b3.mono (by omega)))
  obtain ⟨E, hE⟩ : ∃ E, Wk.heap.size = E := ⟨_, rfl⟩
  rw [hE] at hz3 hseq
  have Hseq := Lib.hid (fun (W : World) (h : KeepN (fun k => k < E) (fun _ => False) Wk W) => hseq (fun k => k < E) W (by omega) (by omega) (fun k _ h3 => h3) h)
  clear hseq b3 l2 r2 w2 HT2 HR2 HAl
  have HL := Lib.hid (show ∀ W, Below E Wk W → Boxed W B 3 (.int .i64 lv) ∧ Boxed W (B + 1) 4 (.bool false) ∧ Boxed W C 22 (.slice A n c) ∧ RdP W C A L ∧ Utf8Tabs 0 1 W ∧ Below B w W from fun W h =>
    ⟨(h.block B (by omega)).trans l3, (h.block (B + 1) (by omega)).trans r3, (h.block C (by omega)).trans w3, HR3.out.below (h.mono (by omega)), Utf8Tabs_below HT3.out (by rw [hE]; exact h), B3.out.trans (h.mono (by omega))⟩)
  clear l3 r3 w3 HR3 HT3 B3 B1 B2 HT hz0 hz2 hB
  have hEB : B + 1 < E := by omega
  have hEC : C < E := by omega
  have hE2 : 0 < E ∧ 1 < E := ⟨by omega, by omega⟩
  clear h2
  go_wp2_with fail
  obtain ⟨Wa, hWa⟩ : ∃ Wa, Wk.alloc (.cells #[.int .i64 0] 3) = Wa := ⟨_, rfl⟩
  have hTW : TW Wk E 0 [] Wa := by
    refine ⟨?_, ?_, fun _ h => by cases h⟩
    · rw [← hWa, ← hE]; exact Boxed.new Wk _ _
    · rw [← hWa]; exact (Below.refl E Wk).alloc (by omega) _
  first
    | rw [hWa]
    | (have hst : (Wk.alloc (.cells #[.int .i64 0] 3)).setCell ⟨E, 0, none⟩ (.int .i64 0) = Wa := by rw [← hWa, ← hE]; exact setCell_alloc_new Wk _ _ _
       rw [hst])
  clear hWa
  have hNB : ∀ T : Bl, ∀ b, E < b → (∀ k, T k → b ≤ k) → ∀ W v, KeepN (fun k => k < E) T W (W.setCell ⟨E, 0, none⟩ v) := fun T b hb hT W v => KeepN.setCell _ _ _ _ _ _ (by omega) (fun e => by have := hT _ e; omega)
  refine (wpIn_wide (n := 9)).1 ?_
  refine range_N1 rfl (by omega) (gf := gf) (lb := lb) rfl trivial hgf (Hseq.out Wa (hTW.keep hE)) (fun k hk => by have := hTW.lt; omega) (fun _ => rfl)
    (fun pre T W => TW Wk E (pre.length : Int) [] W)
    (fun cd _ T W => cd = .exit 0 ∧ ∃ m, TW Wk E m [] W)
    ?hI ?hIx
    hTW
    ?a1 ?assign ?body ?done ?stop
  case assign =>
    intro l x W K hK
    gi_wp2
    exact hK
  case hI =>
    rintro pre T T' W1 W2 h hT hmv _
    exact h.moves (fun k hk => (hT k hk).1) (by have := hTW.lt; omega) (fun _ h => by cases h) hmv
  case hIx =>
    rintro cd pre T T' W1 W2 ⟨rfl, m, h⟩ hT hmv _
    exact ⟨rfl, m, h.moves (fun k hk => (hT k hk).1) (by have := hTW.lt; omega) (fun _ h => by cases h) hmv⟩
  case body =>
    rintro l pre x T W hl hT hr h hlen hsp
    obtain ⟨j, hj⟩ : ∃ j, pre.length = j := ⟨_, rfl⟩
    rw [hj] at h hlen
    have hjm' : j < n := by rw [← Hn.out]; exact hlen
    have c2 := (HL.out W h.bel).1.cell
    have c4 := h.bn.cell
    have c4f := h.bn.frozen
    have hTl := hTW.lt
    have H := Lib.hid h
    clear h
    by_cases hjm : (j : Int) = lv
    · have hjb : ((j : Int) == lv) = true := by simp [hjm]
      gi_wp2
      exact ⟨KeepN.refl _ _ _, rfl, _, H.out⟩
    · have hjb : ((j : Int) == lv) = false := by simp [hjm]
      have hw : IntKind.i64.wrap ((j : Int) + 1) = ((j + 1 : Nat) : Int) := by rw [IntWalk.i64_in _ (by omega)]; omega
      gi_wp2
      refine ⟨hNB T _ hTl (fun k hk => (hT k hk).1) _ _, ?_⟩
      show TW Wk E (((pre ++ [x]).length : Nat) : Int) [] _
      rw [show (((pre ++ [x]).length : Nat) : Int) = (j : Int) + 1 by simp [hj]]
      first
        | exact H.out.set _
        | (rw [show ((j : Int) + 1) = ((j + 1 : Nat) : Int) by omega]; exact H.out.set _)
  case done =>
    rintro D1 ys T1 X1 hD1 hT1 rfl h hK
    have hd1 := (hT1 D1 hD1).1
    have H1 := Lib.hid (h.more (by have := hTW.lt; omega) hK)
    clear h hK hTW
    go_wp2_with fail
    refine wp_loop_rounds 3 ?_
    rw [rounds_succ]
    have c4_1 := H1.out.bn.cell
    have f4_1 := H1.out.bn.frozen
    go_wp2_with fail
    obtain ⟨V1, hV1⟩ : ∃ V1, X1.setCell ⟨E, 0, none⟩ (.int .i64 0) = V1 := ⟨_, rfl⟩
    have hS1 : TW Wk E 0 [D1] V1 := by rw [← hV1]; exact H1.out.set 0
    rw [hV1]
    clear hV1 c4_1 f4_1 H1
    refine (wpIn_wide (n := 9)).1 ?_
    refine range_N1 rfl (by omega) (gf := gf) (lb := lb) rfl trivial hgf (Hseq.out V1 (hS1.keep hE)) (fun k hk => by have := hS1.lt; omega) (fun _ => rfl)
      (fun pre T W => TW Wk E (pre.length : Int) [D1] W)
      (fun _ _ _ _ => False)
      ?hI_d1 (fun _ _ _ _ _ _ h _ _ _ => h)
      hS1
      ?a1_d1 ?assign_d1 ?body_d1 ?done_d1 ?stop_d1
    case assign_d1 =>
      intro l x W K hK
      gi_wp2
      exact hK
    case stop_d1 =>
      rintro D c pre T W _ _ _ h _
      exact h.elim
    case hI_d1 =>
      rintro pre T T' Wx Wy h hT hmv _
      exact h.moves (fun k hk => (hT k hk).1) hS1.lt hS1.dlt hmv
    case body_d1 =>
      rintro l pre x T W hl hT hr h hlen hsp
      have hx := prefix_get hsp
      obtain ⟨j, hj⟩ : ∃ j, pre.length = j := ⟨_, rfl⟩
      rw [hj] at h hlen hx
      have hjn : j < n := by rw [← Hn.out]; exact hlen
      have hK0 := hNB T _ hS1.lt (fun k hk => (hT k hk).1)
      obtain ⟨a, rfl, _, g1, g2⟩ := (HL.out W h.bel).2.2.2.1.at_ hx
      rw [add_next] at g2
      have c0 := (HL.out W h.bel).2.2.1.cell
      have c4 := h.bn.cell
      have c4f := h.bn.frozen
      have H := Lib.hid h
      have HK0 := Lib.hid hK0
      clear h hK0 hx hS1 hsp
      have hge : ¬ ((n : Int) ≤ (j : Int)) := by omega
      have hjn2 : (j : Int) < (n : Int) := by omega
      have hw : IntKind.i64.wrap ((j : Int) + 1) = ((j + 1 : Nat) : Int) := by rw [IntWalk.i64_in _ (by omega)]; omega
      have hb2' : ((x.1 : Int) != (x.1 : Int)) = false := by simp
      have hb3' : (x.1 != x.1) = false := by simp
      have hend : (((pre ++ [x]).length : Nat) : Int) = (j : Int) + 1 := by simp [hj]
      gi_wp2
      refine ⟨HK0.out _ _, ?_⟩
      show TW Wk E (((pre ++ [x]).length : Nat) : Int) [D1] _
      rw [hend]
      first
        | exact H.out.set _
        | (rw [show ((j : Int) + 1) = ((j + 1 : Nat) : Int) by omega]; exact H.out.set _)
    case done_d1 =>
      rintro D2 ys2 T2 X2 hD2 hT2 rfl h hK
      have hd2 := (hT2 D2 hD2).1
      have hdd21 : D1 < D2 := by have := hS1.dlt D1 (by simp); omega
      have hgg2 : E < D2 := by have := hS1.lt; omega
      have H2 := Lib.hid (h.more hgg2 hK)
      clear h hK hS1
      have hne2 : (((ys2.length : Nat) : Int) != (n : Int)) = false := by rw [Hn.out]; simp
      have e0_2 := (HL.out X2 H2.out.bel).2.2.1.cell
      have e4_2 := H2.out.bn.cell
      go_wp2_with fail
      rw [rounds_succ]
      have c4_2 := H2.out.bn.cell
      have f4_2 := H2.out.bn.frozen
      go_wp2_with fail
      obtain ⟨V2, hV2⟩ : ∃ V2, X2.setCell ⟨E, 0, none⟩ (.int .i64 0) = V2 := ⟨_, rfl⟩
      have hS2 : TW Wk E 0 [D2, D1] V2 := by rw [← hV2]; exact H2.out.set 0
      rw [hV2]
      clear hV2 c4_2 f4_2 H2
      refine (wpIn_wide (n := 9)).1 ?_
      refine range_N1 rfl (by omega) (gf := gf) (lb := lb) rfl trivial hgf (Hseq.out V2 (hS2.keep hE)) (fun k hk => by have := hS2.lt; omega) (fun _ => rfl)
        (fun pre T W => TW Wk E (pre.length : Int) [D2, D1] W)
        (fun _ _ _ _ => False)
        ?hI_d2 (fun _ _ _ _ _ _ h _ _ _ => h)
        hS2
        ?a1_d2 ?assign_d2 ?body_d2 ?done_d2 ?stop_d2
      case assign_d2 =>
        intro l x W K hK
        gi_wp2
        exact hK
      case stop_d2 =>
        rintro D c pre T W _ _ _ h _
        exact h.elim
      case hI_d2 =>
        rintro pre T T' Wx Wy h hT hmv _
        exact h.moves (fun k hk => (hT k hk).1) hS2.lt hS2.dlt hmv
      case body_d2 =>
        rintro l pre x T W hl hT hr h hlen hsp
        have hx := prefix_get hsp
        obtain ⟨j, hj⟩ : ∃ j, pre.length = j := ⟨_, rfl⟩
        rw [hj] at h hlen hx
        have hjn : j < n := by rw [← Hn.out]; exact hlen
        have hK0 := hNB T _ hS2.lt (fun k hk => (hT k hk).1)
        obtain ⟨a, rfl, _, g1, g2⟩ := (HL.out W h.bel).2.2.2.1.at_ hx
        rw [add_next] at g2
        have c0 := (HL.out W h.bel).2.2.1.cell
        have c4 := h.bn.cell
        have c4f := h.bn.frozen
        have H := Lib.hid h
        have HK0 := Lib.hid hK0
        clear h hK0 hx hS2 hsp
        have hge : ¬ ((n : Int) ≤ (j : Int)) := by omega
        have hjn2 : (j : Int) < (n : Int) := by omega
        have hw : IntKind.i64.wrap ((j : Int) + 1) = ((j + 1 : Nat) : Int) := by rw [IntWalk.i64_in _ (by omega)]; omega
        have hb2' : ((x.1 : Int) != (x.1 : Int)) = false := by simp
        have hb3' : (x.1 != x.1) = false := by simp
        have hend : (((pre ++ [x]).length : Nat) : Int) = (j : Int) + 1 := by simp [hj]
        gi_wp2
        refine ⟨HK0.out _ _, ?_⟩
        show TW Wk E (((pre ++ [x]).length : Nat) : Int) [D2, D1] _
        rw [hend]
        first
          | exact H.out.set _
          | (rw [show ((j : Int) + 1) = ((j + 1 : Nat) : Int) by omega]; exact H.out.set _)
      case done_d2 =>
        rintro D3 ys3 T3 X3 hD3 hT3 rfl h hK
        have hd3 := (hT3 D3 hD3).1
        have hdd32 : D2 < D3 := by have := hS2.dlt D2 (by simp); omega
        have hdd31 : D1 < D3 := by have := hS2.dlt D1 (by simp); omega
        have hgg3 : E < D3 := by have := hS2.lt; omega
        have H3 := Lib.hid (h.more hgg3 hK)
        clear h hK hS2
        have hne3 : (((ys3.length : Nat) : Int) != (n : Int)) = false := by rw [Hn.out]; simp
        have e0_3 := (HL.out X3 H3.out.bel).2.2.1.cell
        have e4_3 := H3.out.bn.cell
        go_wp2_with fail
        rw [rounds_succ]
        go_wp2_with fail
        refine (HLv.out X3 (HL.out X3 H3.out.bel).2.2.2.2.1).mono ?_
        rintro _ X4 ⟨rfl, b4⟩
        have hx4 := b4.size
        have hbb := HL.out X4 (H3.out.bel.trans (b4.mono (by have := H3.out.lt; omega)))
        have e3 := hbb.2.1.cell
        have f3 := hbb.2.1.frozen
        have H4 := Lib.hid (show (∀ D ∈ [D3, D2, D1], E < D ∧ X4.heap[D]? = some (.deferred (some []))) ∧ Boxed X4 (B + 1) 4 (.bool false) ∧ Below B w X4 from ⟨fun D hD => ⟨(H3.out.ds D hD).1, (b4.block D (H3.out.dlt D hD)).trans (H3.out.ds D hD).2⟩, hbb.2.1, hbb.2.2.2.2.2⟩)
        clear hbb b4
        go_wp2_with fail
        obtain ⟨V, hV⟩ : ∃ V, X4.setCell ⟨B + 1, 0, none⟩ (.bool true) = V := ⟨_, rfl⟩
        have hb : Below B w V := by rw [← hV]; exact H4.out.2.2.setCell (p := ⟨B + 1, 0, none⟩) (show B ≤ B + 1 by omega) _
        have hc : V.cell? ⟨B + 1, 0, none⟩ = some (.bool true) := by rw [← hV]; exact (H4.out.2.1.set _).cell
        have hkk : ∀ D ∈ [D3, D2, D1], V.heap[D]? = some (.deferred (some [])) := fun D hD => by rw [← hV]; exact (Below.heap_setCell _ _ _ D (fun e => by have e : D = B + 1 := e; have := (H4.out.1 D hD).1; omega)).trans (H4.out.1 D hD).2
        have hg1 := (H4.out.1 D1 (by simp)).1
        have hg2 := (H4.out.1 D2 (by simp)).1
        have hg3 := (H4.out.1 D3 (by simp)).1
        have k3 := hkk D3 (by simp)
        have k2 : (V.putObj D3 (.deferred none)).heap[D2]? = some (.deferred (some [])) := (World.putObj_heap_other (by omega)).trans (hkk D2 (by simp))
        have k1 : ((V.putObj D3 (.deferred none)).putObj D2 (.deferred none)).heap[D1]? = some (.deferred (some [])) := (World.putObj_heap_other (by omega)).trans ((World.putObj_heap_other (by omega)).trans (hkk D1 (by simp)))
        have hc3 := cell_kept hc (grownBy_putObj' _ D3 (.deferred none)) (fun r e => by cases e; exact ⟨_, k3, rfl⟩)
        have hc2 := cell_kept hc3 (grownBy_putObj' _ D2 (.deferred none)) (fun r e => by cases e; exact ⟨_, k2, rfl⟩)
        have hc1 := cell_kept hc2 (grownBy_putObj' _ D1 (.deferred none)) (fun r e => by cases e; exact ⟨_, k1, rfl⟩)
        rw [hV]
        clear hV
        refine ⟨by simp, .inl ⟨_, _, rfl, run_takeDeferred k3, by simp, .inl ⟨_, _, rfl, run_takeDeferred k2, by simp, .inl ⟨_, _, rfl, run_takeDeferred k1, ?_⟩⟩⟩⟩
        have gb : ∀ (W : World) (D : Nat), B ≤ D → D < W.heap.size → Below B W (W.putObj D (.deferred none)) := fun W D h1 h2 => ⟨rfl, rfl, rfl, by simp, fun k hk => World.putObj_heap_other (by omega)⟩
        have hb3 := hb.trans (gb _ D3 (by omega) (heap_lt k3))
        have hb2 := hb3.trans (gb _ D2 (by omega) (heap_lt k2))
        refine ⟨.bool true, ?_, rfl, hb2.trans (gb _ D1 (by omega) (heap_lt k1))⟩
        simp [results, Tryd.f3, go_sem, hc1]
  case stop =>
    rintro D1 cd pre T1 X1 hD1 hT1 _ ⟨rfl, m, h⟩ hK
    have hd1 := (hT1 D1 hD1).1
    have H1 := Lib.hid (h.more (by have := hTW.lt; omega) hK)
    clear h hK hTW
    gi_wp2_with fail
    go_wp2_with fail
    refine wp_loop_rounds 3 ?_
    rw [rounds_succ]
    have c4_1 := H1.out.bn.cell
    have f4_1 := H1.out.bn.frozen
    go_wp2_with fail
    obtain ⟨V1, hV1⟩ : ∃ V1, X1.setCell ⟨E, 0, none⟩ (.int .i64 0) = V1 := ⟨_, rfl⟩
    have hS1 : TW Wk E 0 [D1] V1 := by rw [← hV1]; exact H1.out.set 0
    rw [hV1]
    clear hV1 c4_1 f4_1 H1
    refine (wpIn_wide (n := 9)).1 ?_
    refine range_N1 rfl (by omega) (gf := gf) (lb := lb) rfl trivial hgf (Hseq.out V1 (hS1.keep hE)) (fun k hk => by have := hS1.lt; omega) (fun _ => rfl)
      (fun pre T W => TW Wk E (pre.length : Int) [D1] W)
      (fun _ _ _ _ => False)
      ?hI_s1 (fun _ _ _ _ _ _ h _ _ _ => h)
      hS1
      ?a1_s1 ?assign_s1 ?body_s1 ?done_s1 ?stop_s1
    case assign_s1 =>
      intro l x W K hK
      gi_wp2
      exact hK
    case stop_s1 =>
      rintro D c pre T W _ _ _ h _
      exact h.elim
    case hI_s1 =>
      rintro pre T T' Wx Wy h hT hmv _
      exact h.moves (fun k hk => (hT k hk).1) hS1.lt hS1.dlt hmv
    case body_s1 =>
      rintro l pre x T W hl hT hr h hlen hsp
      have hx := prefix_get hsp
      obtain ⟨j, hj⟩ : ∃ j, pre.length = j := ⟨_, rfl⟩
      rw [hj] at h hlen hx
      have hjn : j < n := by rw [← Hn.out]; exact hlen
      have hK0 := hNB T _ hS1.lt (fun k hk => (hT k hk).1)
      obtain ⟨a, rfl, _, g1, g2⟩ := (HL.out W h.bel).2.2.2.1.at_ hx
      rw [add_next] at g2
      have c0 := (HL.out W h.bel).2.2.1.cell
      have c4 := h.bn.cell
      have c4f := h.bn.frozen
      have H := Lib.hid h
      have HK0 := Lib.hid hK0
      clear h hK0 hx hS1 hsp
      have hge : ¬ ((n : Int) ≤ (j : Int)) := by omega
      have hjn2 : (j : Int) < (n : Int) := by omega
      have hw : IntKind.i64.wrap ((j : Int) + 1) = ((j + 1 : Nat) : Int) := by rw [IntWalk.i64_in _ (by omega)]; omega
      have hb2' : ((x.1 : Int) != (x.1 : Int)) = false := by simp
      have hb3' : (x.1 != x.1) = false := by simp
      have hend : (((pre ++ [x]).length : Nat) : Int) = (j : Int) + 1 := by simp [hj]
      gi_wp2
      refine ⟨HK0.out _ _, ?_⟩
      show TW Wk E (((pre ++ [x]).length : Nat) : Int) [D1] _
      rw [hend]
      first
        | exact H.out.set _
        | (rw [show ((j : Int) + 1) = ((j + 1 : Nat) : Int) by omega]; exact H.out.set _)
    case done_s1 =>
      rintro D2 ys2 T2 X2 hD2 hT2 rfl h hK
      have hd2 := (hT2 D2 hD2).1
      have hdd21 : D1 < D2 := by have := hS1.dlt D1 (by simp); omega
      have hgg2 : E < D2 := by have := hS1.lt; omega
      have H2 := Lib.hid (h.more hgg2 hK)
      clear h hK hS1
      have hne2 : (((ys2.length : Nat) : Int) != (n : Int)) = false := by rw [Hn.out]; simp
      have e0_2 := (HL.out X2 H2.out.bel).2.2.1.cell
      have e4_2 := H2.out.bn.cell
      go_wp2_with fail
      rw [rounds_succ]
      have c4_2 := H2.out.bn.cell
      have f4_2 := H2.out.bn.frozen
      go_wp2_with fail
      obtain ⟨V2, hV2⟩ : ∃ V2, X2.setCell ⟨E, 0, none⟩ (.int .i64 0) = V2 := ⟨_, rfl⟩
      have hS2 : TW Wk E 0 [D2, D1] V2 := by rw [← hV2]; exact H2.out.set 0
      rw [hV2]
      clear hV2 c4_2 f4_2 H2
      refine (wpIn_wide (n := 9)).1 ?_
      refine range_N1 rfl (by omega) (gf := gf) (lb := lb) rfl trivial hgf (Hseq.out V2 (hS2.keep hE)) (fun k hk => by have := hS2.lt; omega) (fun _ => rfl)
        (fun pre T W => TW Wk E (pre.length : Int) [D2, D1] W)
        (fun _ _ _ _ => False)
        ?hI_s2 (fun _ _ _ _ _ _ h _ _ _ => h)
        hS2
        ?a1_s2 ?assign_s2 ?body_s2 ?done_s2 ?stop_s2
      case assign_s2 =>
        intro l x W K hK
        gi_wp2
        exact hK
      case stop_s2 =>
        rintro D c pre T W _ _ _ h _
        exact h.elim
      case hI_s2 =>
        rintro pre T T' Wx Wy h hT hmv _
        exact h.moves (fun k hk => (hT k hk).1) hS2.lt hS2.dlt hmv
      case body_s2 =>
        rintro l pre x T W hl hT hr h hlen hsp
        have hx := prefix_get hsp
        obtain ⟨j, hj⟩ : ∃ j, pre.length = j := ⟨_, rfl⟩
        rw [hj] at h hlen hx
        have hjn : j < n := by rw [← Hn.out]; exact hlen
        have hK0 := hNB T _ hS2.lt (fun k hk => (hT k hk).1)
        obtain ⟨a, rfl, _, g1, g2⟩ := (HL.out W h.bel).2.2.2.1.at_ hx
        rw [add_next] at g2
        have c0 := (HL.out W h.bel).2.2.1.cell
        have c4 := h.bn.cell
        have c4f := h.bn.frozen
        have H := Lib.hid h
        have HK0 := Lib.hid hK0
        clear h hK0 hx hS2 hsp
        have hge : ¬ ((n : Int) ≤ (j : Int)) := by omega
        have hjn2 : (j : Int) < (n : Int) := by omega
        have hw : IntKind.i64.wrap ((j : Int) + 1) = ((j + 1 : Nat) : Int) := by rw [IntWalk.i64_in _ (by omega)]; omega
        have hb2' : ((x.1 : Int) != (x.1 : Int)) = false := by simp
        have hb3' : (x.1 != x.1) = false := by simp
        have hend : (((pre ++ [x]).length : Nat) : Int) = (j : Int) + 1 := by simp [hj]
        gi_wp2
        refine ⟨HK0.out _ _, ?_⟩
        show TW Wk E (((pre ++ [x]).length : Nat) : Int) [D2, D1] _
        rw [hend]
        first
          | exact H.out.set _
          | (rw [show ((j : Int) + 1) = ((j + 1 : Nat) : Int) by omega]; exact H.out.set _)
      case done_s2 =>
        rintro D3 ys3 T3 X3 hD3 hT3 rfl h hK
        have hd3 := (hT3 D3 hD3).1
        have hdd32 : D2 < D3 := by have := hS2.dlt D2 (by simp); omega
        have hdd31 : D1 < D3 := by have := hS2.dlt D1 (by simp); omega
        have hgg3 : E < D3 := by have := hS2.lt; omega
        have H3 := Lib.hid (h.more hgg3 hK)
        clear h hK hS2
        have hne3 : (((ys3.length : Nat) : Int) != (n : Int)) = false := by rw [Hn.out]; simp
        have e0_3 := (HL.out X3 H3.out.bel).2.2.1.cell
        have e4_3 := H3.out.bn.cell
        go_wp2_with fail
        rw [rounds_succ]
        go_wp2_with fail
        refine (HLv.out X3 (HL.out X3 H3.out.bel).2.2.2.2.1).mono ?_
        rintro _ X4 ⟨rfl, b4⟩
        have hx4 := b4.size
        have hbb := HL.out X4 (H3.out.bel.trans (b4.mono (by have := H3.out.lt; omega)))
        have e3 := hbb.2.1.cell
        have f3 := hbb.2.1.frozen
        have H4 := Lib.hid (show (∀ D ∈ [D3, D2, D1], E < D ∧ X4.heap[D]? = some (.deferred (some []))) ∧ Boxed X4 (B + 1) 4 (.bool false) ∧ Below B w X4 from ⟨fun D hD => ⟨(H3.out.ds D hD).1, (b4.block D (H3.out.dlt D hD)).trans (H3.out.ds D hD).2⟩, hbb.2.1, hbb.2.2.2.2.2⟩)
        clear hbb b4
        go_wp2_with fail
        obtain ⟨V, hV⟩ : ∃ V, X4.setCell ⟨B + 1, 0, none⟩ (.bool true) = V := ⟨_, rfl⟩
        have hb : Below B w V := by rw [← hV]; exact H4.out.2.2.setCell (p := ⟨B + 1, 0, none⟩) (show B ≤ B + 1 by omega) _
        have hc : V.cell? ⟨B + 1, 0, none⟩ = some (.bool true) := by rw [← hV]; exact (H4.out.2.1.set _).cell
        have hkk : ∀ D ∈ [D3, D2, D1], V.heap[D]? = some (.deferred (some [])) := fun D hD => by rw [← hV]; exact (Below.heap_setCell _ _ _ D (fun e => by have e : D = B + 1 := e; have := (H4.out.1 D hD).1; omega)).trans (H4.out.1 D hD).2
        have hg1 := (H4.out.1 D1 (by simp)).1
        have hg2 := (H4.out.1 D2 (by simp)).1
        have hg3 := (H4.out.1 D3 (by simp)).1
        have k3 := hkk D3 (by simp)
        have k2 : (V.putObj D3 (.deferred none)).heap[D2]? = some (.deferred (some [])) := (World.putObj_heap_other (by omega)).trans (hkk D2 (by simp))
        have k1 : ((V.putObj D3 (.deferred none)).putObj D2 (.deferred none)).heap[D1]? = some (.deferred (some [])) := (World.putObj_heap_other (by omega)).trans ((World.putObj_heap_other (by omega)).trans (hkk D1 (by simp)))
        have hc3 := cell_kept hc (grownBy_putObj' _ D3 (.deferred none)) (fun r e => by cases e; exact ⟨_, k3, rfl⟩)
        have hc2 := cell_kept hc3 (grownBy_putObj' _ D2 (.deferred none)) (fun r e => by cases e; exact ⟨_, k2, rfl⟩)
        have hc1 := cell_kept hc2 (grownBy_putObj' _ D1 (.deferred none)) (fun r e => by cases e; exact ⟨_, k1, rfl⟩)
        rw [hV]
        clear hV
        refine ⟨by simp, .inl ⟨_, _, rfl, run_takeDeferred k3, by simp, .inl ⟨_, _, rfl, run_takeDeferred k2, by simp, .inl ⟨_, _, rfl, run_takeDeferred k1, ?_⟩⟩⟩⟩
        have gb : ∀ (W : World) (D : Nat), B ≤ D → D < W.heap.size → Below B W (W.putObj D (.deferred none)) := fun W D h1 h2 => ⟨rfl, rfl, rfl, by simp, fun k hk => World.putObj_heap_other (by omega)⟩
        have hb3 := hb.trans (gb _ D3 (by omega) (heap_lt k3))
        have hb2 := hb3.trans (gb _ D2 (by omega) (heap_lt k2))
        refine ⟨.bool true, ?_, rfl, hb2.trans (gb _ D1 (by omega) (heap_lt k1))⟩
        simp [results, Tryd.f3, go_sem, hc1]
end Go.Proofs.YtiafofekobcifaaDoor
