/- cluster.Last walked. -/
import Derived.Test.YtiafofekobcifaaDoorClBack
set_option linter.unusedSimpArgs false
set_option linter.unusedVariables false
namespace Go.Proofs.YtiafofekobcifaaDoor
open Go.RowKit Go.Shelf Go.Lib
attribute [local go_sem] Oper.semAt_some

/-- how many bytes the last cluster has -/
def lastOf (L : List (Nat × ByteArray)) : Nat := match L with
  | [] => 0
  | x :: _ => x.2.size
def clLast (s : ByteArray) : Nat := lastOf (pcs s).reverse
set_option maxRecDepth 100000 in
set_option maxHeartbeats 1000000 in
theorem clast_any (s : ByteArray) (w : World) (hs : s.size ≤ 1073741824) (hT : Utf8Tabs 0 1 w) : Calls Tryd.prog 64 #[.string s] w fun e w' => e = .returned (.int .i64 (clLast s : Nat)) ∧ Below w.heap.size w w' := by
  obtain ⟨B, hB⟩ : ∃ B, w.heap.size = B := ⟨_, rfl⟩
  have h2 : 2 ≤ w.heap.size := tabs_size hT
  rw [hB] at h2 ⊢
  have Hmk := Lib.hid (fun W => clb_mk s W)
  have HT := Lib.hid hT
  clear hT
  refine (callsIn_wide (n := 9)).1 ?_
  refine callsIn_of_wp_marks Tryd.func64 rfl trivial ?_ rfl
  refine wpIn_wide.2 ?_
  simp only [Tryd.ntmps64, List.size_toArray, List.length_cons, List.length_nil, Nat.reduceAdd, Nat.reduceSub, Array.replicate_succ, Array.replicate_zero, List.push_toArray, List.append_toArray, List.nil_append, List.cons_append]
  go_wp2_with fail
  refine (Hmk.out _).mono ?_
  rintro _ w1 ⟨rfl, rfl⟩
  obtain ⟨Wa, hWa⟩ : ∃ Wa, (w.alloc (.cells #[.int .i64 0] 3)).alloc (.cells #[.string s] 9) = Wa := ⟨_, rfl⟩
  have hsz : Wa.heap.size = B + 2 := by rw [← hWa]; simp [hB]
  have b0 : Boxed Wa B 3 (.int .i64 0) := by rw [← hWa]; simp only [Boxed, alloc_get, World.size_alloc, hB]; rw [if_neg (by omega)]; simp
  have b1 : Boxed Wa (B + 1) 9 (.string s) := by rw [← hWa]; simp only [Boxed, alloc_get, World.size_alloc, hB]; simp
  have hBa : Below B w Wa := by rw [← hWa]; exact ((Below.refl B w).alloc (by omega) _).alloc (by simp; omega) _
  have hTa : Utf8Tabs 0 1 Wa := Utf8Tabs_below HT.out (by rw [hB]; exact hBa)
  go_wp2_with fail
  clear hWa
  refine (wpIn_wide (n := 9)).1 ?_
  refine range_N1 rfl (by omega) (gf := 70) (lb := #[.pointer (some ⟨B + 1, 0, none⟩)]) rfl trivial (enters_of Tryd.func70 (by kernel_rfl) rfl)
    (seqClBack 8 (by omega) (B + 1) (fun k => k < B + 2 ∧ k ≠ B) s Wa (by omega) (by omega) (by omega) b1.cell hs hTa) (fun k hk => by omega) (fun _ => rfl)
    (fun pre T W => (Boxed W B 3 (.int .i64 0) ∧ pre = []) ∧ Below B Wa W)
    (fun c pre T W => (c = .ret ∧ Boxed W B 3 (.int .i64 (clLast s : Nat))) ∧ Below B Wa W)
    ?hI ?hIx
    ⟨⟨b0, rfl⟩, Below.refl _ _⟩
    ?a1 ?assign ?body ?done ?stop
  case assign =>
    intro l x W K hK
    gi_wp2
    exact hK
  case hI =>
    rintro pre T T' W1 W2 ⟨⟨h1, h0⟩, hb⟩ hT hm hg
    exact ⟨⟨(hm.block _ h1.lt (fun e => by have := (hT _ e).1; omega)).trans h1, h0⟩, hb.trans ⟨hm.os, hm.tape, hm.output, hm.size, fun k hk => hm.block k (by have := hb.size; omega) (fun e => by have := (hT _ e).1; omega)⟩⟩
  case hIx =>
    rintro c pre T T' W1 W2 ⟨⟨h0, h1⟩, hb⟩ hT hm hg
    exact ⟨⟨h0, (hm.block _ h1.lt (fun e => by have := (hT _ e).1; omega)).trans h1⟩, hb.trans ⟨hm.os, hm.tape, hm.output, hm.size, fun k hk => hm.block k (by have := hb.size; omega) (fun e => by have := (hT _ e).1; omega)⟩⟩
  case body =>
    rintro l pre x T W hl hT hr ⟨⟨h1, rfl⟩, hb⟩ hlen hsp
    have hv : (clLast s : Nat) = x.2.size := by
      obtain ⟨t, ht⟩ := hsp
      unfold clLast
      rw [← ht]
      rfl
    have c1 := h1.cell
    have c1f := h1.frozen
    rw [hv]
    gi_wp2
    exact ⟨KeepN.setCell _ _ _ _ _ _ (by omega) (fun e => by have := (hT _ e).1; omega), ⟨rfl, h1.set _⟩, hb.setCell (p := ⟨B, 0, none⟩) (Nat.le_refl _) _⟩
  case done =>
    rintro D ys T W hD hT rfl ⟨⟨h1, h0⟩, hb⟩ hK
    have hv : clLast s = 0 := by
      unfold clLast
      rw [h0]
      rfl
    have c1 := h1.cell
    have c1f := h1.frozen
    have H1 := Lib.hid h1
    have HK := Lib.hid hK
    have Hb := Lib.hid hb
    clear h1 hK hb
    go_wp2
    have hD1 := hT D hD
    have hk' : (W.setCell ⟨B, 0, none⟩ (.int .i64 0)).heap[D]? = some (.deferred (some [])) := (KeepsOthers.setCell _ _ _).same D _ HK.out rfl
    have hc7 := cell_kept (H1.out.set (.int .i64 0)).cell (grownBy_putObj' _ D (.deferred none)) (fun r e => by cases e; exact ⟨_, hk', rfl⟩)
    refine ⟨by simp, .inl ⟨_, _, rfl, run_takeDeferred hk', ?_⟩⟩
    have hfb : Below B w (W.setCell ⟨B, 0, none⟩ (.int .i64 0)) := (hBa.trans Hb.out).setCell (p := ⟨B, 0, none⟩) (Nat.le_refl _) _
    refine ⟨.int .i64 0, ?_, by rw [hv]; rfl, hfb.trans (belowK_b (w := w) (by omega) _ D _ (.deferred none) (by omega) hk' rfl rfl)⟩
    simp [results, Tryd.f64, go_sem, hc7]
  case stop =>
    rintro D cd pre T W hD hT _ ⟨⟨rfl, h4⟩, hb⟩ hK
    have H4 := Lib.hid h4
    have HK := Lib.hid hK
    have Hb := Lib.hid hb
    clear h4 hK hb
    gi_wp2
    have hD1 := hT D hD
    have hc7 := cell_kept H4.out.cell (grownBy_putObj' _ D (.deferred none)) (fun r e => by cases e; exact ⟨_, HK.out, rfl⟩)
    refine ⟨by simp, .inl ⟨_, _, rfl, run_takeDeferred HK.out, ?_⟩⟩
    refine ⟨_, ?_, rfl, (hBa.trans Hb.out).trans (belowK_b (w := w) (by omega) _ D _ (.deferred none) (by omega) HK.out rfl rfl)⟩
    simp [results, Tryd.f64, go_sem, hc7]
end Go.Proofs.YtiafofekobcifaaDoor
