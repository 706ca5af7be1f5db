/- goes: ranging over an iterator, held against a list; left early. -/
import Derived.Test.YtkbhgkbhajmjiaaDoorBackP
import Derived.Test.YtkbhgkbhajmjiaaDoorRefE
namespace Go.Proofs.YtkbhgkbhajmjiaaDoor
open Go.RowKit Go.Shelf Go.Lib
attribute [local go_sem] Oper.semAt_some

set_option maxRecDepth 100000 in
set_option maxHeartbeats 4000000 in
theorem goes_any (gf Bn : Nat) (L : List (Nat × Nat)) (A : Option Addr) (n c base : Nat) (xs : List Value) (most : Int) (w : World)
    (hgf : ∀ args w, (callFunc gf args).run Tryd.prog w = .ok (.enter gf args) w)
    (hnil : ∀ W, (binOp .eql 39 (.func (.func gf) #[] #[.pointer (some ⟨Bn, 0, none⟩)]) .nilFunc).run Tryd.prog W = .ok (.bool false) W)
    (hseq : ∀ W, Below w.heap.size w W → SeqT Fence.wide 8 Tryd.prog gf #[.pointer (some ⟨Bn, 0, none⟩)] encPlace (fun ys => ys = L) (fun pre => pre <+: L) L.length w.heap.size W)
    (hrow : w.ownsRow base 43 4 (.slice A n c) n xs) (hn : n = L.length) (hxs : ∀ j x, L[j]? = some x → xs[4 * j]? = some (.int .i64 (x.1 : Int)) ∧ xs[4 * j + 1]? = some (.int .i32 (x.2 : Int)))
    (hL : L.length ≤ 1073741824) :
    Calls Tryd.prog 37 #[.func (.func gf) #[] #[.pointer (some ⟨Bn, 0, none⟩)], .slice A n c, .int .i64 most] w fun e w' => e = .returned (.bool true) ∧ Below w.heap.size w w' := by
  obtain ⟨B, hB⟩ : ∃ B, w.heap.size = B := ⟨_, rfl⟩
  rw [hB] at hseq ⊢
  have Hseq := Lib.hid hseq
  have Hrow := Lib.hid hrow
  have Hn := Lib.hid hn
  clear hseq hrow hn
  refine (callsIn_wide (n := 9)).1 ?_
  refine callsIn_of_wp_marks Tryd.func37 rfl trivial ?_ rfl
  refine wpIn_wide.2 ?_
  simp only [Tryd.ntmps37, List.size_toArray, List.length_cons, List.length_nil, Nat.reduceAdd, Nat.reduceSub, Array.replicate_succ, Array.replicate_zero, List.push_toArray, List.append_toArray, List.nil_append, List.cons_append]
  go_wp2_with fail
  obtain ⟨Wa, hWa⟩ : ∃ Wa, ((((w.alloc (.cells #[.slice A n c] 36)).alloc (.cells #[.int .i64 most] 3)).alloc (.cells #[.bool false] 4)).alloc (.cells #[.int .i64 0] 3)) = Wa := ⟨_, rfl⟩
  have hsz : Wa.heap.size = B + 4 := by rw [← hWa]; simp [hB]
  have b0 : Boxed Wa B 36 (.slice A n c) := by rw [← hWa]; simp only [Boxed, alloc_get, World.size_alloc, hB]; rw [if_neg (by omega), if_neg (by omega), if_neg (by omega)]; simp
  have b1 : Boxed Wa (B + 1) 3 (.int .i64 most) := by rw [← hWa]; simp only [Boxed, alloc_get, World.size_alloc, hB]; rw [if_neg (by omega), if_neg (by omega)]; simp
  have b2 : Boxed Wa (B + 1 + 1) 4 (.bool false) := by rw [← hWa]; simp only [Boxed, alloc_get, World.size_alloc, hB]; rw [if_neg (by omega)]; simp
  have b3 : Boxed Wa (B + 1 + 1 + 1) 3 (.int .i64 0) := by rw [← hWa]; simp only [Boxed, alloc_get, World.size_alloc, hB]; simp
  have hBa : Below B w Wa := by rw [← hWa]; exact ((((Below.refl B w).alloc (by omega) _).alloc (by simp; omega) _).alloc (by simp; omega) _).alloc (by simp; omega) _
  rw [hWa]
  clear hWa
  refine (wpIn_wide (n := 9)).1 ?_
  refine range_T1 rfl (by omega) (gf := gf) (lb := #[.pointer (some ⟨Bn, 0, none⟩)]) rfl trivial hgf (Hseq.out Wa hBa) (Below.refl _ _) (by omega) (fun _ => rfl)
    (fun pre T W => (Boxed W (B + 1 + 1 + 1) 3 (.int .i64 (pre.length : Int)) ∧ Boxed W B 36 (.slice A n c) ∧ Boxed W (B + 1) 3 (.int .i64 most) ∧ Boxed W (B + 1 + 1) 4 (.bool false)) ∧ Below B Wa W)
    (fun c _ T W => (c = .ret ∧ Boxed W (B + 1 + 1) 4 (.bool true)) ∧ Below B Wa W)
    ?hI ?hIx
    ⟨⟨b3, b0, b1, b2⟩, Below.refl _ _⟩
    ?a1 ?assign ?body ?done ?stop
  case assign =>
    intro l x W K hK
    gi_wp2
    exact hK
  case hI =>
    rintro pre T T' W1 W2 ⟨⟨h1, h2, h3, h4⟩, hb⟩ hT hm hg
    have hn : ∀ k, k < B + 4 → ¬ T k := fun k hk e => by have := (hT _ e).1; omega
    exact ⟨⟨(hm.block _ h1.lt (hn _ (by omega))).trans h1, (hm.block _ h2.lt (hn _ (by omega))).trans h2, (hm.block _ h3.lt (hn _ (by omega))).trans h3, (hm.block _ h4.lt (hn _ (by omega))).trans h4⟩, hb.trans ⟨hm.os, hm.tape, hm.output, hm.size, fun k hk => hm.block k (by have := hb.size; omega) (hn _ (by omega))⟩⟩
  case hIx =>
    rintro cd pre T T' W1 W2 ⟨⟨rfl, h4⟩, hb⟩ hT hm hg
    have hn : ∀ k, k < B + 4 → ¬ T k := fun k hk e => by have := (hT _ e).1; omega
    exact ⟨⟨rfl, (hm.block _ h4.lt (hn _ (by omega))).trans h4⟩, hb.trans ⟨hm.os, hm.tape, hm.output, hm.size, fun k hk => hm.block k (by have := hb.size; omega) (hn _ (by omega))⟩⟩
  case body =>
    rintro l pre x T W hl hT hr ⟨⟨h1, h2, h3, h4⟩, hb⟩ hlen hsp
    have hget := prefix_get hsp
    obtain ⟨j, hj⟩ : ∃ j, pre.length = j := ⟨_, rfl⟩
    rw [hj] at hget h1 hlen
    have hjn' : j < n := by rw [Hn.out]; exact hlen
    have hnT : ∀ k, k < B + 4 → ¬ T k := fun k hk e => by have := (hT _ e).1; omega
    have c1 := h1.cell
    have c2 := h2.cell
    have c3 := h3.cell
    have c4 := h4.cell
    have c4f := h4.frozen
    have c1f := h1.frozen
    by_cases hjm : (j : Int) = most
    · have hjb : ((j : Int) == most) = true := by simp [hjm]
      gi_wp2
      exact ⟨KeepT.setCell B T W (B + 1 + 1) _ (by omega) (hnT _ (by omega)), ⟨rfl, h4.set _⟩, hb.setCell (p := ⟨B + 1 + 1, 0, none⟩) (show B ≤ B + 1 + 1 by omega) _⟩
    · have hjb : ((j : Int) == most) = false := by simp [hjm]
      obtain ⟨g, cap, hv, _, hlt⟩ := Hrow.out.form (by omega)
      injection hv with hA _ hcc
      subst hA hcc
      obtain ⟨q1, q2⟩ := hxs j x hget
      have hbW : Below B w W := hBa.trans hb
      have d1 := (hbW.cell (p := (⟨g, 0, none⟩ : Addr).add (4 * j)) (by rw [add_block]; show g < B; omega)).trans (Hrow.out.cells (g := g) rfl _ _ q1)
      have d2 := (hbW.cell (p := (⟨g, 0, none⟩ : Addr).add (4 * j + 1)) (by rw [add_block]; show g < B; omega)).trans (Hrow.out.cells (g := g) rfl _ _ q2)
      rw [Addr.add_lit, Nat.zero_add, Nat.mul_comm 4 j] at d1 d2
      have hjn : (j : Int) < (n : Int) := by omega
      have hjn2 : ¬ ((n : Int) ≤ (j : Int)) := by omega
      have hw : IntKind.i64.wrap ((j : Int) + 1) = ((j + 1 : Nat) : Int) := by rw [IntWalk.i64_in _ (by omega)]; omega
      gi_wp2
      rw [show ((j : Int) + 1) = (((pre ++ [x]).length : Nat) : Int) by simp; omega]
      exact ⟨KeepT.setCell B T W (B + 1 + 1 + 1) _ (by omega) (hnT _ (by omega)), ⟨h1.set _, h2.other (by omega) _, h3.other (by omega) _, h4.other (by omega) _⟩, hb.setCell (p := ⟨B + 1 + 1 + 1, 0, none⟩) (show B ≤ B + 1 + 1 + 1 by omega) _⟩
  case done =>
    rintro D ys T W hD hT rfl ⟨⟨h1, h2, h3, h4⟩, hb⟩ hK
    have c1 := h1.cell
    have c2 := h2.cell
    have c4 := h4.cell
    have c4f := h4.frozen
    have hlenb : (((ys.length : Nat) : Int) == (n : Int)) = true := by rw [Hn.out]; simp
    have H4 := Lib.hid h4
    have HK := Lib.hid hK
    have Hb := Lib.hid hb
    clear h1 h2 h3 h4 hK hb
    go_wp2
    have hD1 := hT D hD
    have hk' : (W.setCell ⟨B + 1 + 1, 0, none⟩ (.bool true)).heap[D]? = some (.deferred (some [])) := (KeepsOthers.setCell _ _ _).same D _ HK.out rfl
    have hc7 := cell_kept (H4.out.set (.bool true)).cell (grownBy_putObj' _ D (.deferred none)) (fun r e => by cases e; exact ⟨_, hk', rfl⟩)
    refine ⟨by simp, .inl ⟨_, _, rfl, run_takeDeferred hk', ?_⟩⟩
    have hfb : Below B w (W.setCell ⟨B + 1 + 1, 0, none⟩ (.bool true)) := (hBa.trans Hb.out).setCell (p := ⟨B + 1 + 1, 0, none⟩) (show B ≤ B + 1 + 1 by omega) _
    refine ⟨.bool true, ?_, rfl, hfb.trans (belowK_b (w := w) (by omega) _ D _ (.deferred none) (by omega) hk' rfl rfl)⟩
    simp [results, Tryd.f37, go_sem, hc7]
  case stop =>
    rintro D cd pre T W hD hT _ ⟨⟨rfl, h4⟩, hb⟩ hK
    have H4 := Lib.hid h4
    have HK := Lib.hid hK
    have Hb := Lib.hid hb
    clear h4 hK hb
    gi_wp2
    have hD1 := hT D hD
    have hc7 := cell_kept H4.out.cell (grownBy_putObj' _ D (.deferred none)) (fun r e => by cases e; exact ⟨_, HK.out, rfl⟩)
    refine ⟨by simp, .inl ⟨_, _, rfl, run_takeDeferred HK.out, ?_⟩⟩
    refine ⟨.bool true, ?_, rfl, (hBa.trans Hb.out).trans (belowK_b (w := w) (by omega) _ D _ (.deferred none) (by omega) HK.out rfl rfl)⟩
    simp [results, Tryd.f37, go_sem, hc7]
end Go.Proofs.YtkbhgkbhajmjiaaDoor
