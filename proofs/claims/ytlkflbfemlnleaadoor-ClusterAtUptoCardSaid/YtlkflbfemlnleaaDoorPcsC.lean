/- The law's own helper that collects what an iterator tells. -/
import Derived.Test.YtlkflbfemlnleaaDoorClBack
namespace Go.Proofs.YtlkflbfemlnleaaDoor
open Go.RowKit Go.Shelf Go.Lib
attribute [local go_sem] Oper.semAt_some

abbrev pcCells (L : List (Nat × ByteArray)) : List Value := L.flatMap fun x => [Value.int .i64 (x.1 : Int), Value.string x.2]
theorem pcCells_snoc (L : List (Nat × ByteArray)) (x : Nat × ByteArray) : pcCells (L ++ [x]) = pcCells L ++ [Value.int .i64 (x.1 : Int), Value.string x.2] := by simp [pcCells]
theorem piece_info : (Tryd.prog.info? 38).map (fun i => (i.zero, i.size, i.bytes)) = some (some (.agg #[.int .i64 0, .string ByteArray.empty]), 2, 24) := by kernel_rfl

set_option maxRecDepth 100000 in
set_option maxHeartbeats 1000000 in
theorem pieces_any (gf : Nat) (lb : Array Value) (L : List (Nat × ByteArray)) (w : World)
    (hgf : ∀ args w, (callFunc gf args).run Tryd.prog w = .ok (.enter gf args) w)
    (hnil : ∀ W, (binOp .eql 27 (.func (.func gf) #[] lb) .nilFunc).run Tryd.prog W = .ok (.bool false) W)
    (hseq : ∀ W, Below w.heap.size w W → SeqN Fence.wide 8 Tryd.prog gf lb encCl (fun ys => ys = L) (fun pre => pre <+: L) L.length (fun k => k < w.heap.size) W)
    (hL : L.length ≤ 1073741824) :
    Calls Tryd.prog 24 #[.func (.func gf) #[] lb] w fun e w' => ∃ A c, e = .returned (.slice A L.length c) ∧ w'.ownsRow w.heap.size 38 2 (.slice A L.length c) L.length (pcCells L) ∧ Below w.heap.size w w' := by
  obtain ⟨ii, hii, hiz0, hiz1, hiz2⟩ := info_parts piece_info
  obtain ⟨B, hB⟩ : ∃ B, w.heap.size = B := ⟨_, rfl⟩
  rw [hB] at hseq ⊢
  have Hseq := Lib.hid hseq
  clear hseq
  refine (callsIn_wide (n := 9)).1 ?_
  refine callsIn_of_wp_marks Tryd.func24 rfl trivial ?_ rfl
  refine wpIn_wide.2 ?_
  simp only [Tryd.ntmps24, List.size_toArray, List.length_cons, List.length_nil, Nat.reduceAdd, Nat.reduceSub, Array.replicate_succ, Array.replicate_zero, List.push_toArray, List.append_toArray, List.nil_append, List.cons_append]
  go_wp2_with fail
  obtain ⟨Wa, hWa⟩ : ∃ Wa, w.alloc (.cells #[.slice none 0 0] 35) = Wa := ⟨_, rfl⟩
  have hsz : Wa.heap.size = B + 1 := by rw [← hWa]; simp [hB]
  have b0 : Boxed Wa B 35 (.slice none 0 0) := by rw [← hWa, ← hB]; exact Boxed.new w _ _
  have hBa : Below B w Wa := by rw [← hWa]; exact (Below.refl B w).alloc (by omega) _
  rw [hWa]
  clear hWa
  refine (wpIn_wide (n := 9)).1 ?_
  refine range_N1 rfl (by omega) (gf := gf) (lb := lb) rfl trivial hgf (Hseq.out Wa hBa) (fun k hk => by omega) (fun _ => rfl)
    (fun pre T W => (∃ A c, Col T W B 35 38 2 (B + 1) (.slice A pre.length c) pre.length (pcCells pre)) ∧ Below B Wa W)
    (fun _ _ _ _ => False)
    ?hI (fun _ _ _ _ _ _ h _ _ _ => h)
    ⟨⟨none, 0, ⟨b0, World.ownsRow_nil _ _ _ _, fun _ h => by cases h⟩⟩, Below.refl _ _⟩
    ?a1 ?assign ?body ?done ?stop
  case assign =>
    intro l x W K hK
    gi_wp2
    exact hK
  case stop =>
    rintro D c pre T W _ _ _ h _
    exact h.elim
  case hI =>
    rintro pre T T' W1 W2 ⟨⟨A, c, h1⟩, hb⟩ hT hm hg
    exact ⟨⟨A, c, h1.tc (fun e => by have := (hT _ e).1; omega) hm hg⟩, hb.trans ⟨hm.os, hm.tape, hm.output, hm.size, fun k hk => hm.block k (by have := hb.size; omega) (fun e => by have := (hT _ e).1; omega)⟩⟩
  case body =>
    rintro l pre x T W hl hT hr ⟨⟨A, c, h1⟩, hb⟩ hlen _
    rw [hsz] at hT
    have hc1 := h1.box.cell
    have hm1 : pre.length + 1 ≤ maxLen := by unfold maxLen; omega
    have hm2 : (pre.length + 1) * 24 ≤ 140737488355328 := by omega
    have hT1 : ∀ k, T k → k < W.heap.size := fun k hk => (hT k hk).2
    have hTa : ¬ T B := fun e => by have := (hT _ e).1; omega
    have hbs : B + 1 ≤ W.heap.size := by have := hb.size; omega
    have hplen : (pre ++ [x]).length = pre.length + 1 := by simp
    have H1 := Lib.hid h1
    have Hb := Lib.hid hb
    clear h1 hb
    gi_wp2_with (gi_at_builtin; refine Hid.out ?_)
    refine Lib.hid ?_
    refine wpListIn_append_own_at _ rfl _ _ 35 rfl (B + 1) 38 ii (.agg #[.int .i64 0, .string ByteArray.empty]) 2 24 Tryd.underlying35 hii hiz0 hiz1 hiz2 rfl (by decide) _ _ _ rfl (H1.out.row.alloc _) ⟨W.heap.size, 0, none⟩ 1 1 [.int .i64 (x.1 : Int), .string x.2] rfl rfl (new_cells W [.int .i64 (x.1 : Int), .string x.2] 38) (by simp [Value.oneCell']) hm1 hm2 (by simp; omega) ?_
    intro v1' w1 hown1 hgrow1 _ hblk1
    obtain ⟨g1, cap1, rfl⟩ := ownsRow_succ hown1
    obtain ⟨hv1, hcol1, hk1, hs1, ho1, ht1, hu1⟩ := H1.out.appended (by decide) hT1 hTa hown1 hgrow1 hblk1
    have hc1' := hv1.cell
    have hf1' := hv1.frozen
    have hfin : ∀ W8, W8 = w1.setCell ⟨B, 0, none⟩ (.slice (some ⟨g1, 0, none⟩) (pre.length + 1) cap1) → KeepN (fun k => k < B) T W W8 ∧ (∃ A c, Col T W8 B 35 38 2 (B + 1) (.slice A (pre ++ [x]).length c) (pre ++ [x]).length (pcCells (pre ++ [x]))) ∧ Below B Wa W8 := by
      rintro W8 rfl
      have hne : ∀ k, k < B ∨ T k → (Value.slice A pre.length c).ownBlock ≠ some k ∧ k ≠ B := fun k hk => by
        refine ⟨fun e => ?_, fun e => ?_⟩
        · rcases hk with hk | hk
          · have := (H1.out.row.lt k e).1; omega
          · exact H1.out.apart k e hk
        · rcases hk with hk | hk
          · omega
          · exact hTa (e ▸ hk)
      refine ⟨⟨hs1, fun k hk ho => hk1 k hk (hne k ho).1 (hne k ho).2⟩, ⟨some ⟨g1, 0, none⟩, cap1, ?_⟩, Hb.out.trans ⟨ho1, ht1, hu1, hs1, fun k hk => hk1 k (by omega) (hne k (.inl hk)).1 (hne k (.inl hk)).2⟩⟩
      rw [hplen, pcCells_snoc]
      exact hcol1
    have Hfin := Lib.hid hfin
    clear hcol1 hk1 hs1 ho1 ht1 hu1 hown1 hgrow1 hblk1 hfin hv1
    gi_wp2
    exact Hfin.out _ rfl
  case done =>
    rintro D ys T W hD hT rfl ⟨⟨A, c, h1⟩, hb⟩ hK
    have c1 := h1.box.cell
    have HK := Lib.hid hK
    have H1 := Lib.hid h1
    have Hb := Lib.hid hb
    clear h1 hK hb
    go_wp2
    have hD1 := hT D hD
    refine ⟨by simp, .inl ⟨_, _, rfl, run_takeDeferred HK.out, ?_⟩⟩
    refine ⟨_, results_tmp rfl _ _ _, A, c, rfl, ?_, (hBa.trans Hb.out).trans (belowK_b (w := w) (by omega) _ D _ (.deferred none) (by omega) HK.out rfl rfl)⟩
    exact own_base (row_same H1.out.row (fun k hk => World.putObj_heap_other (fun e => H1.out.apart k hk (e ▸ hD)))) (by omega)

set_option maxRecDepth 100000 in
theorem pieces_all (s : ByteArray) (Bn : Nat) (w : World) (hc : w.cell? ⟨Bn, 0, none⟩ = some (.string s)) (hs : s.size ≤ 1073741824) (hT : Utf8Tabs 0 1 w) :
    Calls Tryd.prog 24 #[.func (.func 31) #[] #[.pointer (some ⟨Bn, 0, none⟩)]] w fun e w' => ∃ A c, e = .returned (.slice A (pcs s).length c) ∧ w'.ownsRow w.heap.size 38 2 (.slice A (pcs s).length c) (pcs s).length (pcCells (pcs s)) ∧ Below w.heap.size w w' :=
  pieces_any 31 _ (pcs s) w (enters_of Tryd.func31 (by kernel_rfl) rfl) (fun W => by rfl)
    (fun W hb => seqCl 8 (by omega) Bn _ s W (cell_ltN hc) (show 0 < w.heap.size by have := tabs_size hT; omega) (show 1 < w.heap.size by have := tabs_size hT; omega) ((hb.cell (p := ⟨Bn, 0, none⟩) (cell_ltN hc)).trans hc) hs (Utf8Tabs_below hT hb))
    (by have := pcs_len s; omega)
set_option maxRecDepth 100000 in
theorem pieces_back (s : ByteArray) (Bn : Nat) (w : World) (hc : w.cell? ⟨Bn, 0, none⟩ = some (.string s)) (hs : s.size ≤ 1073741824) (hT : Utf8Tabs 0 1 w) :
    Calls Tryd.prog 24 #[.func (.func 33) #[] #[.pointer (some ⟨Bn, 0, none⟩)]] w fun e w' => ∃ A c, e = .returned (.slice A (pcs s).length c) ∧ w'.ownsRow w.heap.size 38 2 (.slice A (pcs s).length c) (pcs s).length (pcCells (pcs s).reverse) ∧ Below w.heap.size w w' := by
  have h := pieces_any 33 #[.pointer (some ⟨Bn, 0, none⟩)] (pcs s).reverse w (enters_of Tryd.func33 (by kernel_rfl) rfl) (fun W => by rfl)
    (fun W hb => by
      have := seqClBack 8 (by omega) Bn (fun k => k < w.heap.size) s W (cell_ltN hc) (show 0 < w.heap.size by have := tabs_size hT; omega) (show 1 < w.heap.size by have := tabs_size hT; omega) ((hb.cell (p := ⟨Bn, 0, none⟩) (cell_ltN hc)).trans hc) hs (Utf8Tabs_below hT hb)
      rw [← List.length_reverse] at this
      exact this)
    (by rw [List.length_reverse]; have := pcs_len s; omega)
  rw [List.length_reverse] at h
  exact h
end Go.Proofs.YtlkflbfemlnleaaDoor
