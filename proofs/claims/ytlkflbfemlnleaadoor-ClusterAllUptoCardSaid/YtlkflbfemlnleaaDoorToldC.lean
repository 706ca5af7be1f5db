/- told: ranging over an iterator of clusters, held against a list; left early, then gone over twice. -/
import Derived.Test.YtlkflbfemlnleaaDoorRowG
import Derived.LoopN
namespace Go.Proofs.YtlkflbfemlnleaaDoor
open Go.RowKit Go.Shelf Go.Lib
attribute [local go_sem] Oper.semAt_some

/-- what lies in told's boxes, and the calls it has put off -/
structure TS (w : World) (B : Nat) (A : Option Addr) (n c : Nat) (bk : Bool) (lv m : Int) (Ds : List Nat) (W : World) : Prop where
  b0 : Boxed W B 23 (.slice A n c)
  b1 : Boxed W (B + 1) 4 (.bool bk)
  b2 : Boxed W (B + 1 + 1) 3 (.int .i64 lv)
  b3 : Boxed W (B + 1 + 1 + 1) 4 (.bool false)
  b4 : Boxed W (B + 1 + 1 + 1 + 1) 3 (.int .i64 m)
  bel : Below B w W
  ds : ∀ D ∈ Ds, B + 4 < D ∧ W.heap[D]? = some (.deferred (some []))
section
variable {w : World} {B : Nat} {A : Option Addr} {n c : Nat} {bk : Bool} {lv m : Int} {Ds : List Nat} {W : World}
theorem heap_lt {W : World} {D : Nat} {o : Obj} (h : W.heap[D]? = some o) : D < W.heap.size := (Array.getElem?_eq_some_iff.1 h).1
theorem TS.moves (h : TS w B A n c bk lv m Ds W) {b : Nat} {T : Bl} {W' : World} (hT : ∀ k, T k → b ≤ k) (hb : B + 4 < b) (hd : ∀ D ∈ Ds, D < b) (hm : Moves T W W') : TS w B A n c bk lv m Ds W' := by
  have hn : ∀ k, k < b → ¬ T k := fun k hk e => by have := hT _ e; omega
  exact ⟨(hm.block _ h.b0.lt (hn _ (by omega))).trans h.b0, (hm.block _ h.b1.lt (hn _ (by omega))).trans h.b1, (hm.block _ h.b2.lt (hn _ (by omega))).trans h.b2, (hm.block _ h.b3.lt (hn _ (by omega))).trans h.b3, (hm.block _ h.b4.lt (hn _ (by omega))).trans h.b4,
    h.bel.trans ⟨hm.os, hm.tape, hm.output, hm.size, fun k hk => hm.block k (by have := h.bel.size; have := h.b0.lt; omega) (hn _ (by omega))⟩,
    fun D hD => ⟨(h.ds D hD).1, (hm.block _ (heap_lt (h.ds D hD).2) (hn _ (hd D hD))).trans (h.ds D hD).2⟩⟩
theorem TS.set (h : TS w B A n c bk lv m Ds W) (m' : Int) : TS w B A n c bk lv m' Ds (W.setCell ⟨B + 1 + 1 + 1 + 1, 0, none⟩ (.int .i64 m')) :=
  ⟨h.b0.other (by omega) _, h.b1.other (by omega) _, h.b2.other (by omega) _, h.b3.other (by omega) _, h.b4.set _, h.bel.setCell (p := ⟨B + 1 + 1 + 1 + 1, 0, none⟩) (show B ≤ B + 1 + 1 + 1 + 1 by omega) _,
    fun D hD => ⟨(h.ds D hD).1, (Below.heap_setCell _ _ _ D (fun e => by have e : D = B + 1 + 1 + 1 + 1 := e; have := (h.ds D hD).1; omega)).trans (h.ds D hD).2⟩⟩
theorem TS.more (h : TS w B A n c bk lv m Ds W) {D : Nat} (h1 : B + 4 < D) (hD : W.heap[D]? = some (.deferred (some []))) : TS w B A n c bk lv m (D :: Ds) W :=
  ⟨h.b0, h.b1, h.b2, h.b3, h.b4, h.bel, fun E hE => by
    rcases List.mem_cons.1 hE with rfl | hE
    · exact ⟨h1, hD⟩
    · exact h.ds E hE⟩
theorem TS.lt (h : TS w B A n c bk lv m Ds W) : B + 4 < W.heap.size := by have := h.b4.lt; omega
theorem TS.dlt (h : TS w B A n c bk lv m Ds W) : ∀ D ∈ Ds, D < W.heap.size := fun D hD => heap_lt (h.ds D hD).2
end

set_option maxRecDepth 100000 in
set_option maxHeartbeats 8000000 in
theorem told_any (gf Bn : Nat) (L Wn : List (Nat × ByteArray)) (bk : Bool) (A : Option Addr) (n c : Nat) (lv : Int) (w : World)
    (hgf : ∀ args w, (callFunc gf args).run Tryd.prog w = .ok (.enter gf args) w)
    (hnil : ∀ W, (binOp .eql 27 (.func (.func gf) #[] #[.pointer (some ⟨Bn, 0, none⟩)]) .nilFunc).run Tryd.prog W = .ok (.bool false) W)
    (hseq : ∀ W, Below w.heap.size w W → SeqN Fence.wide 8 Tryd.prog gf #[.pointer (some ⟨Bn, 0, none⟩)] encCl (fun ys => ys = L) (fun pre => pre <+: L) L.length (fun k => k < w.heap.size) W)
    (hrow : RdP w w.heap.size A Wn) (hn : n = Wn.length) (hLn : L.length = n) (hget : ∀ j x, L[j]? = some x → Wn[bif bk then n - 1 - j else j]? = some x)
    (hm : n ≤ 1073741824) :
    Calls Tryd.prog 11 #[.func (.func gf) #[] #[.pointer (some ⟨Bn, 0, none⟩)], .slice A n c, .bool bk, .int .i64 lv] w fun e w' => e = .returned (.bool true) ∧ Below w.heap.size w w' := by
  obtain ⟨B, hB⟩ : ∃ B, w.heap.size = B := ⟨_, rfl⟩
  rw [hB] at hseq hrow ⊢
  have Hseq := Lib.hid hseq
  have Hrow := Lib.hid hrow
  have Hn := Lib.hid hn
  have HLn := Lib.hid hLn
  have Hget := Lib.hid hget
  clear hseq hrow hn hLn hget
  refine (callsIn_wide (n := 9)).1 ?_
  refine callsIn_of_wp_marks Tryd.func11 rfl trivial ?_ rfl
  refine wpIn_wide.2 ?_
  simp only [Tryd.ntmps11, List.size_toArray, List.length_cons, List.length_nil, Nat.reduceAdd, Nat.reduceSub, Array.replicate_succ, Array.replicate_zero, List.push_toArray, List.append_toArray, List.nil_append, List.cons_append]
  go_wp2_with fail
  obtain ⟨Wa, hWa⟩ : ∃ Wa, (((((w.alloc (.cells #[.slice A n c] 23)).alloc (.cells #[.bool bk] 4)).alloc (.cells #[.int .i64 lv] 3)).alloc (.cells #[.bool false] 4)).alloc (.cells #[.int .i64 0] 3)) = Wa := ⟨_, rfl⟩
  have hsz : Wa.heap.size = B + 5 := by rw [← hWa]; simp [hB]
  have hTS : TS w B A n c bk lv 0 [] Wa := by
    refine ⟨?_, ?_, ?_, ?_, ?_, ?_, fun _ h => by cases h⟩
    · rw [← hWa]; simp only [Boxed, alloc_get, World.size_alloc, hB]; rw [if_neg (by omega), if_neg (by omega), if_neg (by omega), if_neg (by omega)]; simp
    · rw [← hWa]; simp only [Boxed, alloc_get, World.size_alloc, hB]; simp; try omega
    · rw [← hWa]; simp only [Boxed, alloc_get, World.size_alloc, hB]; simp; try omega
    · rw [← hWa]; simp only [Boxed, alloc_get, World.size_alloc, hB]; simp; try omega
    · rw [← hWa]; simp only [Boxed, alloc_get, World.size_alloc, hB]; simp
    · rw [← hWa]; exact (((((Below.refl B w).alloc (by omega) _).alloc (by simp; omega) _).alloc (by simp; omega) _).alloc (by simp; omega) _).alloc (by simp; omega) _
  rw [hWa]
  clear hWa
  have hNB : ∀ T : Bl, ∀ b, B + 4 < b → (∀ k, T k → b ≤ k) → ∀ W v, KeepN (fun k => k < B) T W (W.setCell ⟨B + 1 + 1 + 1 + 1, 0, none⟩ v) := fun T b hb hT W v => KeepN.setCell _ _ _ _ _ _ (by omega) (fun e => by have := hT _ e; omega)
  refine (wpIn_wide (n := 9)).1 ?_
  refine range_N1 rfl (by omega) (gf := gf) (lb := #[.pointer (some ⟨Bn, 0, none⟩)]) rfl trivial hgf (Hseq.out Wa hTS.bel) (fun k hk => by have := hTS.lt; omega) (fun _ => rfl)
    (fun pre T W => TS w B A n c bk lv (pre.length : Int) [] W)
    (fun cd _ T W => cd = .exit 0 ∧ ∃ m, TS w B A n c bk lv m [] W)
    ?hI ?hIx
    hTS
    ?a1 ?assign ?body ?done ?stop
  case assign =>
    intro l x W K hK
    gi_wp2
    exact hK
  case hI =>
    rintro pre T T' W1 W2 h hT hmv _
    exact h.moves (fun k hk => (hT k hk).1) (by omega) (fun _ h => by cases h) hmv
  case hIx =>
    rintro cd pre T T' W1 W2 ⟨rfl, m, h⟩ hT hmv _
    exact ⟨rfl, m, h.moves (fun k hk => (hT k hk).1) (by omega) (fun _ h => by cases h) hmv⟩
  case body =>
    rintro l pre x T W hl hT hr h hlen hsp
    obtain ⟨j, hj⟩ : ∃ j, pre.length = j := ⟨_, rfl⟩
    rw [hj] at h hlen
    have hjm' : j < n := by rw [← HLn.out]; exact hlen
    have c2 := h.b2.cell
    have c4 := h.b4.cell
    have c4f := h.b4.frozen
    have H := Lib.hid h
    clear h
    by_cases hjm : (j : Int) = lv
    · have hjb : ((j : Int) == lv) = true := by simp [hjm]
      gi_wp2
      exact ⟨KeepN.refl _ _ _, rfl, _, H.out⟩
    · have hjb : ((j : Int) == lv) = false := by simp [hjm]
      have hw : IntKind.i64.wrap ((j : Int) + 1) = ((j + 1 : Nat) : Int) := by rw [IntWalk.i64_in _ (by omega)]; omega
      gi_wp2
      refine ⟨hNB T _ (by omega) (fun k hk => (hT k hk).1) _ _, ?_⟩
      show TS w B A n c bk lv (((pre ++ [x]).length : Nat) : Int) [] _
      rw [show (((pre ++ [x]).length : Nat) : Int) = (j : Int) + 1 by simp [hj]]
      first
        | exact H.out.set _
        | (rw [show ((j : Int) + 1) = ((j + 1 : Nat) : Int) by omega]; exact H.out.set _)
  case done =>
    rintro D1 ys T1 W1 hD1 hT1 rfl h hK
    have hd1 := (hT1 D1 hD1).1
    have H1 := Lib.hid (h.more (by omega) hK)
    clear h hK hTS
    go_wp2_with fail
    refine wp_loop_rounds 3 ?_
    rw [rounds_succ]
    have c4_1 := H1.out.b4.cell
    have f4_1 := H1.out.b4.frozen
    go_wp2_with fail
    obtain ⟨V1, hV1⟩ : ∃ V1, W1.setCell ⟨B + 1 + 1 + 1 + 1, 0, none⟩ (.int .i64 0) = V1 := ⟨_, rfl⟩
    have hS1 : TS w B A n c bk lv 0 [D1] V1 := by rw [← hV1]; exact H1.out.set 0
    rw [hV1]
    clear hV1 c4_1 f4_1 H1
    refine (wpIn_wide (n := 9)).1 ?_
    refine range_N1 rfl (by omega) (gf := gf) (lb := #[.pointer (some ⟨Bn, 0, none⟩)]) rfl trivial hgf (Hseq.out V1 hS1.bel) (fun k hk => by have := hS1.lt; omega) (fun _ => rfl)
      (fun pre T W => TS w B A n c bk lv (pre.length : Int) [D1] W)
      (fun _ _ _ _ => False)
      ?hI_d1 (fun _ _ _ _ _ _ h _ _ _ => h)
      hS1
      ?a1_d1 ?assign_d1 ?body_d1 ?done_d1 ?stop_d1
    case assign_d1 =>
      intro l x W K hK
      gi_wp2
      exact hK
    case stop_d1 =>
      rintro D c pre T W _ _ _ h _
      exact h.elim
    case hI_d1 =>
      rintro pre T T' Wx Wy h hT hmv _
      exact h.moves (fun k hk => (hT k hk).1) hS1.lt hS1.dlt hmv
    case body_d1 =>
      rintro l pre x T W hl hT hr h hlen hsp
      have hx := Hget.out _ _ (prefix_get hsp)
      obtain ⟨j, hj⟩ : ∃ j, pre.length = j := ⟨_, rfl⟩
      rw [hj] at h hlen hx
      have hjn : j < n := by rw [← HLn.out]; exact hlen
      have hK0 := hNB T _ hS1.lt (fun k hk => (hT k hk).1)
      obtain ⟨a, rfl, _, g1, g2⟩ := (RdP.below Hrow.out h.bel).at_ hx
      rw [add_next] at g2
      have c0 := h.b0.cell
      have c1 := h.b1.cell
      have c4 := h.b4.cell
      have c4f := h.b4.frozen
      have H := Lib.hid h
      have HK0 := Lib.hid hK0
      clear h hK0 hx hS1 hsp
      have hge : ¬ ((n : Int) ≤ (j : Int)) := by omega
      have hjn2 : (j : Int) < (n : Int) := by omega
      have hw : IntKind.i64.wrap ((j : Int) + 1) = ((j + 1 : Nat) : Int) := by rw [IntWalk.i64_in _ (by omega)]; omega
      have hw1 : IntKind.i64.wrap ((n : Int) - 1) = ((n - 1 : Nat) : Int) := by rw [IntWalk.i64_in _ (by omega)]; omega
      have hw2 : IntKind.i64.wrap (((n - 1 : Nat) : Int) - (j : Int)) = ((n - 1 - j : Nat) : Int) := by rw [IntWalk.i64_in _ (by omega)]; omega
      have hk0 : n - 1 - j < n := by omega
      have hk1 : ((n - 1 - j : Nat) : Int) < (n : Int) := by omega
      have hb2' : ((x.1 : Int) != (x.1 : Int)) = false := by simp
      have hb3' : (x.1 != x.1) = false := by simp
      have hend : (((pre ++ [x]).length : Nat) : Int) = (j : Int) + 1 := by simp [hj]
      cases bk
      all_goals
        try simp only [cond_true, cond_false] at g1 g2
        gi_wp2
        refine ⟨HK0.out _ _, ?_⟩
        show TS w B _ n c _ lv (((pre ++ [x]).length : Nat) : Int) [D1] _
        rw [hend]
        first
          | exact H.out.set _
          | (rw [show ((j : Int) + 1) = ((j + 1 : Nat) : Int) by omega]; exact H.out.set _)
    case done_d1 =>
      rintro D2 ys2 T2 W2 hD2 hT2 rfl h hK
      have hd2 := (hT2 D2 hD2).1
      have hdd21 : D1 < D2 := by have := hS1.dlt D1 (by simp); omega
      have hgg2 : B + 4 < D2 := by have := hS1.lt; omega
      have H2 := Lib.hid (h.more hgg2 hK)
      clear h hK hS1
      have hne2 : (((ys2.length : Nat) : Int) != (n : Int)) = false := by rw [HLn.out]; simp
      have e0_2 := H2.out.b0.cell
      have e4_2 := H2.out.b4.cell
      go_wp2_with fail
      rw [rounds_succ]
      have c4_2 := H2.out.b4.cell
      have f4_2 := H2.out.b4.frozen
      go_wp2_with fail
      obtain ⟨V2, hV2⟩ : ∃ V2, W2.setCell ⟨B + 1 + 1 + 1 + 1, 0, none⟩ (.int .i64 0) = V2 := ⟨_, rfl⟩
      have hS2 : TS w B A n c bk lv 0 [D2, D1] V2 := by rw [← hV2]; exact H2.out.set 0
      rw [hV2]
      clear hV2 c4_2 f4_2 H2
      refine (wpIn_wide (n := 9)).1 ?_
      refine range_N1 rfl (by omega) (gf := gf) (lb := #[.pointer (some ⟨Bn, 0, none⟩)]) rfl trivial hgf (Hseq.out V2 hS2.bel) (fun k hk => by have := hS2.lt; omega) (fun _ => rfl)
        (fun pre T W => TS w B A n c bk lv (pre.length : Int) [D2, D1] W)
        (fun _ _ _ _ => False)
        ?hI_d2 (fun _ _ _ _ _ _ h _ _ _ => h)
        hS2
        ?a1_d2 ?assign_d2 ?body_d2 ?done_d2 ?stop_d2
      case assign_d2 =>
        intro l x W K hK
        gi_wp2
        exact hK
      case stop_d2 =>
        rintro D c pre T W _ _ _ h _
        exact h.elim
      case hI_d2 =>
        rintro pre T T' Wx Wy h hT hmv _
        exact h.moves (fun k hk => (hT k hk).1) hS2.lt hS2.dlt hmv
      case body_d2 =>
        rintro l pre x T W hl hT hr h hlen hsp
        have hx := Hget.out _ _ (prefix_get hsp)
        obtain ⟨j, hj⟩ : ∃ j, pre.length = j := ⟨_, rfl⟩
        rw [hj] at h hlen hx
        have hjn : j < n := by rw [← HLn.out]; exact hlen
        have hK0 := hNB T _ hS2.lt (fun k hk => (hT k hk).1)
        obtain ⟨a, rfl, _, g1, g2⟩ := (RdP.below Hrow.out h.bel).at_ hx
        rw [add_next] at g2
        have c0 := h.b0.cell
        have c1 := h.b1.cell
        have c4 := h.b4.cell
        have c4f := h.b4.frozen
        have H := Lib.hid h
        have HK0 := Lib.hid hK0
        clear h hK0 hx hS2 hsp
        have hge : ¬ ((n : Int) ≤ (j : Int)) := by omega
        have hjn2 : (j : Int) < (n : Int) := by omega
        have hw : IntKind.i64.wrap ((j : Int) + 1) = ((j + 1 : Nat) : Int) := by rw [IntWalk.i64_in _ (by omega)]; omega
        have hw1 : IntKind.i64.wrap ((n : Int) - 1) = ((n - 1 : Nat) : Int) := by rw [IntWalk.i64_in _ (by omega)]; omega
        have hw2 : IntKind.i64.wrap (((n - 1 : Nat) : Int) - (j : Int)) = ((n - 1 - j : Nat) : Int) := by rw [IntWalk.i64_in _ (by omega)]; omega
        have hk0 : n - 1 - j < n := by omega
        have hk1 : ((n - 1 - j : Nat) : Int) < (n : Int) := by omega
        have hb2' : ((x.1 : Int) != (x.1 : Int)) = false := by simp
        have hb3' : (x.1 != x.1) = false := by simp
        have hend : (((pre ++ [x]).length : Nat) : Int) = (j : Int) + 1 := by simp [hj]
        cases bk
        all_goals
          try simp only [cond_true, cond_false] at g1 g2
          gi_wp2
          refine ⟨HK0.out _ _, ?_⟩
          show TS w B _ n c _ lv (((pre ++ [x]).length : Nat) : Int) [D2, D1] _
          rw [hend]
          first
            | exact H.out.set _
            | (rw [show ((j : Int) + 1) = ((j + 1 : Nat) : Int) by omega]; exact H.out.set _)
      case done_d2 =>
        rintro D3 ys3 T3 W3 hD3 hT3 rfl h hK
        have hd3 := (hT3 D3 hD3).1
        have hdd32 : D2 < D3 := by have := hS2.dlt D2 (by simp); omega
        have hdd31 : D1 < D3 := by have := hS2.dlt D1 (by simp); omega
        have hgg3 : B + 4 < D3 := by have := hS2.lt; omega
        have H3 := Lib.hid (h.more hgg3 hK)
        clear h hK hS2
        have hne3 : (((ys3.length : Nat) : Int) != (n : Int)) = false := by rw [HLn.out]; simp
        have e0_3 := H3.out.b0.cell
        have e4_3 := H3.out.b4.cell
        go_wp2_with fail
        rw [rounds_succ]
        have e3 := H3.out.b3.cell
        have f3 := H3.out.b3.frozen
        go_wp2_with fail
        obtain ⟨V, hV⟩ : ∃ V, W3.setCell ⟨B + 1 + 1 + 1, 0, none⟩ (.bool true) = V := ⟨_, rfl⟩
        have hb : Below B w V := by rw [← hV]; exact H3.out.bel.setCell (p := ⟨B + 1 + 1 + 1, 0, none⟩) (show B ≤ B + 1 + 1 + 1 by omega) _
        have hc : V.cell? ⟨B + 1 + 1 + 1, 0, none⟩ = some (.bool true) := by rw [← hV]; exact (H3.out.b3.set _).cell
        have hkk : ∀ D ∈ [D3, D2, D1], V.heap[D]? = some (.deferred (some [])) := fun D hD => by rw [← hV]; exact (Below.heap_setCell _ _ _ D (fun e => by have e : D = B + 1 + 1 + 1 := e; have := (H3.out.ds D hD).1; omega)).trans (H3.out.ds D hD).2
        have hg1 := (H3.out.ds D1 (by simp)).1
        have hg2 := (H3.out.ds D2 (by simp)).1
        have hg3 := (H3.out.ds D3 (by simp)).1
        have k3 := hkk D3 (by simp)
        have k2 : (V.putObj D3 (.deferred none)).heap[D2]? = some (.deferred (some [])) := (World.putObj_heap_other (by omega)).trans (hkk D2 (by simp))
        have k1 : ((V.putObj D3 (.deferred none)).putObj D2 (.deferred none)).heap[D1]? = some (.deferred (some [])) := (World.putObj_heap_other (by omega)).trans ((World.putObj_heap_other (by omega)).trans (hkk D1 (by simp)))
        have hc3 := cell_kept hc (grownBy_putObj' _ D3 (.deferred none)) (fun r e => by cases e; exact ⟨_, k3, rfl⟩)
        have hc2 := cell_kept hc3 (grownBy_putObj' _ D2 (.deferred none)) (fun r e => by cases e; exact ⟨_, k2, rfl⟩)
        have hc1 := cell_kept hc2 (grownBy_putObj' _ D1 (.deferred none)) (fun r e => by cases e; exact ⟨_, k1, rfl⟩)
        rw [hV]
        clear hV
        refine ⟨by simp, .inl ⟨_, _, rfl, run_takeDeferred k3, by simp, .inl ⟨_, _, rfl, run_takeDeferred k2, by simp, .inl ⟨_, _, rfl, run_takeDeferred k1, ?_⟩⟩⟩⟩
        have hb3 := hb.trans (belowK_b (w := w) (by omega) _ D3 _ (.deferred none) (by omega) k3 rfl rfl)
        have hb2 := hb3.trans (belowK_b (w := w) (by omega) _ D2 _ (.deferred none) (by omega) k2 rfl rfl)
        refine ⟨.bool true, ?_, rfl, hb2.trans (belowK_b (w := w) (by omega) _ D1 _ (.deferred none) (by omega) k1 rfl rfl)⟩
        simp [results, Tryd.f11, go_sem, hc1]
  case stop =>
    rintro D1 cd pre T1 W1 hD1 hT1 _ ⟨rfl, m, h⟩ hK
    have hd1 := (hT1 D1 hD1).1
    have H1 := Lib.hid (h.more (by omega) hK)
    clear h hK hTS
    gi_wp2_with fail
    go_wp2_with fail
    refine wp_loop_rounds 3 ?_
    rw [rounds_succ]
    have c4_1 := H1.out.b4.cell
    have f4_1 := H1.out.b4.frozen
    go_wp2_with fail
    obtain ⟨V1, hV1⟩ : ∃ V1, W1.setCell ⟨B + 1 + 1 + 1 + 1, 0, none⟩ (.int .i64 0) = V1 := ⟨_, rfl⟩
    have hS1 : TS w B A n c bk lv 0 [D1] V1 := by rw [← hV1]; exact H1.out.set 0
    rw [hV1]
    clear hV1 c4_1 f4_1 H1
    refine (wpIn_wide (n := 9)).1 ?_
    refine range_N1 rfl (by omega) (gf := gf) (lb := #[.pointer (some ⟨Bn, 0, none⟩)]) rfl trivial hgf (Hseq.out V1 hS1.bel) (fun k hk => by have := hS1.lt; omega) (fun _ => rfl)
      (fun pre T W => TS w B A n c bk lv (pre.length : Int) [D1] W)
      (fun _ _ _ _ => False)
      ?hI_s1 (fun _ _ _ _ _ _ h _ _ _ => h)
      hS1
      ?a1_s1 ?assign_s1 ?body_s1 ?done_s1 ?stop_s1
    case assign_s1 =>
      intro l x W K hK
      gi_wp2
      exact hK
    case stop_s1 =>
      rintro D c pre T W _ _ _ h _
      exact h.elim
    case hI_s1 =>
      rintro pre T T' Wx Wy h hT hmv _
      exact h.moves (fun k hk => (hT k hk).1) hS1.lt hS1.dlt hmv
    case body_s1 =>
      rintro l pre x T W hl hT hr h hlen hsp
      have hx := Hget.out _ _ (prefix_get hsp)
      obtain ⟨j, hj⟩ : ∃ j, pre.length = j := ⟨_, rfl⟩
      rw [hj] at h hlen hx
      have hjn : j < n := by rw [← HLn.out]; exact hlen
      have hK0 := hNB T _ hS1.lt (fun k hk => (hT k hk).1)
      obtain ⟨a, rfl, _, g1, g2⟩ := (RdP.below Hrow.out h.bel).at_ hx
      rw [add_next] at g2
      have c0 := h.b0.cell
      have c1 := h.b1.cell
      have c4 := h.b4.cell
      have c4f := h.b4.frozen
      have H := Lib.hid h
      have HK0 := Lib.hid hK0
      clear h hK0 hx hS1 hsp
      have hge : ¬ ((n : Int) ≤ (j : Int)) := by omega
      have hjn2 : (j : Int) < (n : Int) := by omega
      have hw : IntKind.i64.wrap ((j : Int) + 1) = ((j + 1 : Nat) : Int) := by rw [IntWalk.i64_in _ (by omega)]; omega
      have hw1 : IntKind.i64.wrap ((n : Int) - 1) = ((n - 1 : Nat) : Int) := by rw [IntWalk.i64_in _ (by omega)]; omega
      have hw2 : IntKind.i64.wrap (((n - 1 : Nat) : Int) - (j : Int)) = ((n - 1 - j : Nat) : Int) := by rw [IntWalk.i64_in _ (by omega)]; omega
      have hk0 : n - 1 - j < n := by omega
      have hk1 : ((n - 1 - j : Nat) : Int) < (n : Int) := by omega
      have hb2' : ((x.1 : Int) != (x.1 : Int)) = false := by simp
      have hb3' : (x.1 != x.1) = false := by simp
      have hend : (((pre ++ [x]).length : Nat) : Int) = (j : Int) + 1 := by simp [hj]
      cases bk
      all_goals
        try simp only [cond_true, cond_false] at g1 g2
        gi_wp2
        refine ⟨HK0.out _ _, ?_⟩
        show TS w B _ n c _ lv (((pre ++ [x]).length : Nat) : Int) [D1] _
        rw [hend]
        first
          | exact H.out.set _
          | (rw [show ((j : Int) + 1) = ((j + 1 : Nat) : Int) by omega]; exact H.out.set _)
    case done_s1 =>
      rintro D2 ys2 T2 W2 hD2 hT2 rfl h hK
      have hd2 := (hT2 D2 hD2).1
      have hdd21 : D1 < D2 := by have := hS1.dlt D1 (by simp); omega
      have hgg2 : B + 4 < D2 := by have := hS1.lt; omega
      have H2 := Lib.hid (h.more hgg2 hK)
      clear h hK hS1
      have hne2 : (((ys2.length : Nat) : Int) != (n : Int)) = false := by rw [HLn.out]; simp
      have e0_2 := H2.out.b0.cell
      have e4_2 := H2.out.b4.cell
      go_wp2_with fail
      rw [rounds_succ]
      have c4_2 := H2.out.b4.cell
      have f4_2 := H2.out.b4.frozen
      go_wp2_with fail
      obtain ⟨V2, hV2⟩ : ∃ V2, W2.setCell ⟨B + 1 + 1 + 1 + 1, 0, none⟩ (.int .i64 0) = V2 := ⟨_, rfl⟩
      have hS2 : TS w B A n c bk lv 0 [D2, D1] V2 := by rw [← hV2]; exact H2.out.set 0
      rw [hV2]
      clear hV2 c4_2 f4_2 H2
      refine (wpIn_wide (n := 9)).1 ?_
      refine range_N1 rfl (by omega) (gf := gf) (lb := #[.pointer (some ⟨Bn, 0, none⟩)]) rfl trivial hgf (Hseq.out V2 hS2.bel) (fun k hk => by have := hS2.lt; omega) (fun _ => rfl)
        (fun pre T W => TS w B A n c bk lv (pre.length : Int) [D2, D1] W)
        (fun _ _ _ _ => False)
        ?hI_s2 (fun _ _ _ _ _ _ h _ _ _ => h)
        hS2
        ?a1_s2 ?assign_s2 ?body_s2 ?done_s2 ?stop_s2
      case assign_s2 =>
        intro l x W K hK
        gi_wp2
        exact hK
      case stop_s2 =>
        rintro D c pre T W _ _ _ h _
        exact h.elim
      case hI_s2 =>
        rintro pre T T' Wx Wy h hT hmv _
        exact h.moves (fun k hk => (hT k hk).1) hS2.lt hS2.dlt hmv
      case body_s2 =>
        rintro l pre x T W hl hT hr h hlen hsp
        have hx := Hget.out _ _ (prefix_get hsp)
        obtain ⟨j, hj⟩ : ∃ j, pre.length = j := ⟨_, rfl⟩
        rw [hj] at h hlen hx
        have hjn : j < n := by rw [← HLn.out]; exact hlen
        have hK0 := hNB T _ hS2.lt (fun k hk => (hT k hk).1)
        obtain ⟨a, rfl, _, g1, g2⟩ := (RdP.below Hrow.out h.bel).at_ hx
        rw [add_next] at g2
        have c0 := h.b0.cell
        have c1 := h.b1.cell
        have c4 := h.b4.cell
        have c4f := h.b4.frozen
        have H := Lib.hid h
        have HK0 := Lib.hid hK0
        clear h hK0 hx hS2 hsp
        have hge : ¬ ((n : Int) ≤ (j : Int)) := by omega
        have hjn2 : (j : Int) < (n : Int) := by omega
        have hw : IntKind.i64.wrap ((j : Int) + 1) = ((j + 1 : Nat) : Int) := by rw [IntWalk.i64_in _ (by omega)]; omega
        have hw1 : IntKind.i64.wrap ((n : Int) - 1) = ((n - 1 : Nat) : Int) := by rw [IntWalk.i64_in _ (by omega)]; omega
        have hw2 : IntKind.i64.wrap (((n - 1 : Nat) : Int) - (j : Int)) = ((n - 1 - j : Nat) : Int) := by rw [IntWalk.i64_in _ (by omega)]; omega
        have hk0 : n - 1 - j < n := by omega
        have hk1 : ((n - 1 - j : Nat) : Int) < (n : Int) := by omega
        have hb2' : ((x.1 : Int) != (x.1 : Int)) = false := by simp
        have hb3' : (x.1 != x.1) = false := by simp
        have hend : (((pre ++ [x]).length : Nat) : Int) = (j : Int) + 1 := by simp [hj]
        cases bk
        all_goals
          try simp only [cond_true, cond_false] at g1 g2
          gi_wp2
          refine ⟨HK0.out _ _, ?_⟩
          show TS w B _ n c _ lv (((pre ++ [x]).length : Nat) : Int) [D2, D1] _
          rw [hend]
          first
            | exact H.out.set _
            | (rw [show ((j : Int) + 1) = ((j + 1 : Nat) : Int) by omega]; exact H.out.set _)
      case done_s2 =>
        rintro D3 ys3 T3 W3 hD3 hT3 rfl h hK
        have hd3 := (hT3 D3 hD3).1
        have hdd32 : D2 < D3 := by have := hS2.dlt D2 (by simp); omega
        have hdd31 : D1 < D3 := by have := hS2.dlt D1 (by simp); omega
        have hgg3 : B + 4 < D3 := by have := hS2.lt; omega
        have H3 := Lib.hid (h.more hgg3 hK)
        clear h hK hS2
        have hne3 : (((ys3.length : Nat) : Int) != (n : Int)) = false := by rw [HLn.out]; simp
        have e0_3 := H3.out.b0.cell
        have e4_3 := H3.out.b4.cell
        go_wp2_with fail
        rw [rounds_succ]
        have e3 := H3.out.b3.cell
        have f3 := H3.out.b3.frozen
        go_wp2_with fail
        obtain ⟨V, hV⟩ : ∃ V, W3.setCell ⟨B + 1 + 1 + 1, 0, none⟩ (.bool true) = V := ⟨_, rfl⟩
        have hb : Below B w V := by rw [← hV]; exact H3.out.bel.setCell (p := ⟨B + 1 + 1 + 1, 0, none⟩) (show B ≤ B + 1 + 1 + 1 by omega) _
        have hc : V.cell? ⟨B + 1 + 1 + 1, 0, none⟩ = some (.bool true) := by rw [← hV]; exact (H3.out.b3.set _).cell
        have hkk : ∀ D ∈ [D3, D2, D1], V.heap[D]? = some (.deferred (some [])) := fun D hD => by rw [← hV]; exact (Below.heap_setCell _ _ _ D (fun e => by have e : D = B + 1 + 1 + 1 := e; have := (H3.out.ds D hD).1; omega)).trans (H3.out.ds D hD).2
        have hg1 := (H3.out.ds D1 (by simp)).1
        have hg2 := (H3.out.ds D2 (by simp)).1
        have hg3 := (H3.out.ds D3 (by simp)).1
        have k3 := hkk D3 (by simp)
        have k2 : (V.putObj D3 (.deferred none)).heap[D2]? = some (.deferred (some [])) := (World.putObj_heap_other (by omega)).trans (hkk D2 (by simp))
        have k1 : ((V.putObj D3 (.deferred none)).putObj D2 (.deferred none)).heap[D1]? = some (.deferred (some [])) := (World.putObj_heap_other (by omega)).trans ((World.putObj_heap_other (by omega)).trans (hkk D1 (by simp)))
        have hc3 := cell_kept hc (grownBy_putObj' _ D3 (.deferred none)) (fun r e => by cases e; exact ⟨_, k3, rfl⟩)
        have hc2 := cell_kept hc3 (grownBy_putObj' _ D2 (.deferred none)) (fun r e => by cases e; exact ⟨_, k2, rfl⟩)
        have hc1 := cell_kept hc2 (grownBy_putObj' _ D1 (.deferred none)) (fun r e => by cases e; exact ⟨_, k1, rfl⟩)
        rw [hV]
        clear hV
        refine ⟨by simp, .inl ⟨_, _, rfl, run_takeDeferred k3, by simp, .inl ⟨_, _, rfl, run_takeDeferred k2, by simp, .inl ⟨_, _, rfl, run_takeDeferred k1, ?_⟩⟩⟩⟩
        have hb3 := hb.trans (belowK_b (w := w) (by omega) _ D3 _ (.deferred none) (by omega) k3 rfl rfl)
        have hb2 := hb3.trans (belowK_b (w := w) (by omega) _ D2 _ (.deferred none) (by omega) k2 rfl rfl)
        refine ⟨.bool true, ?_, rfl, hb2.trans (belowK_b (w := w) (by omega) _ D1 _ (.deferred none) (by omega) k1 rfl rfl)⟩
        simp [results, Tryd.f11, go_sem, hc1]
end Go.Proofs.YtlkflbfemlnleaaDoor
