/- cluster.Count. -/
import Derived.Test.YtlkflbfemlnleaaDoorClAll
import Derived.Test.YtlkflbfemlnleaaDoorScanC
namespace Go.Proofs.YtlkflbfemlnleaaDoor
open Go.RowKit Go.Shelf Go.Lib
attribute [local go_sem] Oper.semAt_some

theorem pcsF_len (s : ByteArray) : ∀ (f i : Nat), (pcsF s f i).length ≤ f
  | 0, _ => Nat.le_refl _
  | f + 1, i => by
    unfold pcsF
    split
    · have := pcsF_len s f (clEnd s i)
      simp
      omega
    · simp
theorem pcs_len (s : ByteArray) : (pcs s).length ≤ s.size := by
  have h1 := pcsF_len s (chars s) 0
  have h2 := segs_len s.data.toList
  rw [size_list] at h2
  unfold pcs
  unfold chars at h1 ⊢
  omega
set_option maxRecDepth 100000 in
set_option maxHeartbeats 1000000 in
theorem ccount_any (s : ByteArray) (w : World) (hs : s.size ≤ 1073741824) (hT : Utf8Tabs 0 1 w) : Calls Tryd.prog 18 #[.string s] w fun e w' => e = .returned (.int .i64 ((pcs s).length : Nat)) ∧ Below w.heap.size w w' := by
  obtain ⟨B, hB⟩ : ∃ B, w.heap.size = B := ⟨_, rfl⟩
  have h2 : 2 ≤ w.heap.size := tabs_size hT
  have hpl := pcs_len s
  rw [hB] at h2 ⊢
  have Hmk := Lib.hid (fun W => cl_mk s W)
  have HT := Lib.hid hT
  clear hT
  refine (callsIn_wide (n := 9)).1 ?_
  refine callsIn_of_wp_marks Tryd.func18 rfl trivial ?_ rfl
  refine wpIn_wide.2 ?_
  simp only [Tryd.ntmps18, List.size_toArray, List.length_cons, List.length_nil, Nat.reduceAdd, Nat.reduceSub, Array.replicate_succ, Array.replicate_zero, List.push_toArray, List.append_toArray, List.nil_append, List.cons_append]
  go_wp2_with fail
  refine (Hmk.out _).mono ?_
  rintro _ w1 ⟨rfl, rfl⟩
  obtain ⟨Wa, hWa⟩ : ∃ Wa, (w.alloc (.cells #[.int .i64 0] 3)).alloc (.cells #[.string s] 9) = Wa := ⟨_, rfl⟩
  have hsz : Wa.heap.size = B + 2 := by rw [← hWa]; simp [hB]
  have b0 : Boxed Wa B 3 (.int .i64 0) := by rw [← hWa]; simp only [Boxed, alloc_get, World.size_alloc, hB]; rw [if_neg (by omega)]; simp
  have b1 : Boxed Wa (B + 1) 9 (.string s) := by rw [← hWa]; simp only [Boxed, alloc_get, World.size_alloc, hB]; simp
  have hBa : Below B w Wa := by rw [← hWa]; exact ((Below.refl B w).alloc (by omega) _).alloc (by simp; omega) _
  have hTa : Utf8Tabs 0 1 Wa := Utf8Tabs_below HT.out (by rw [hB]; exact hBa)
  go_wp2_with fail
  clear hWa
  refine (wpIn_wide (n := 9)).1 ?_
  refine range_N1 rfl (by omega) (gf := 31) (lb := #[.pointer (some ⟨B + 1, 0, none⟩)]) rfl trivial (enters_of Tryd.func31 (by kernel_rfl) rfl)
    (seqCl 8 (by omega) (B + 1) (fun k => k < B + 2 ∧ k ≠ B) s Wa (by omega) (by omega) (by omega) b1.cell hs hTa) (fun k hk => by omega) (fun _ => rfl)
    (fun pre T W => Boxed W B 3 (.int .i64 (pre.length : Int)) ∧ Below B Wa W)
    (fun _ _ _ _ => False)
    ?hI (fun _ _ _ _ _ _ h _ _ _ => h)
    ⟨b0, Below.refl _ _⟩
    ?a1 ?assign ?body ?done ?stop
  case assign =>
    intro l x W K hK
    gi_wp2
    exact hK
  case stop =>
    rintro D c pre T W _ _ _ h _
    exact h.elim
  case hI =>
    rintro pre T T' W1 W2 ⟨h1, hb⟩ hT hm hg
    exact ⟨(hm.block _ h1.lt (fun e => by have := (hT _ e).1; omega)).trans h1, hb.trans ⟨hm.os, hm.tape, hm.output, hm.size, fun k hk => hm.block k (by have := hb.size; omega) (fun e => by have := (hT _ e).1; omega)⟩⟩
  case body =>
    rintro l pre x T W hl hT hr ⟨h1, hb⟩ hlen _
    have c1 := h1.cell
    have c1f := h1.frozen
    have hw : IntKind.i64.wrap ((pre.length : Int) + 1) = ((pre.length + 1 : Nat) : Int) := by rw [IntWalk.i64_in _ (by omega)]; omega
    gi_wp2
    rw [show ((pre.length : Int) + 1) = (((pre ++ [x]).length : Nat) : Int) by simp]
    exact ⟨KeepN.setCell _ _ _ _ _ _ (by omega) (fun e => by have := (hT _ e).1; omega), h1.set _, hb.setCell (p := ⟨B, 0, none⟩) (Nat.le_refl _) _⟩
  case done =>
    rintro D ys T W hD hT rfl ⟨h1, hb⟩ hK
    have c1 := h1.cell
    have HK := Lib.hid hK
    have Hb := Lib.hid hb
    clear h1 hK hb
    go_wp2
    have hD1 := hT D hD
    refine ⟨by simp, .inl ⟨_, _, rfl, run_takeDeferred HK.out, ?_⟩⟩
    exact ⟨_, results_tmp rfl _ _ _, rfl, (hBa.trans Hb.out).trans (belowK_b (w := w) (by omega) _ D _ (.deferred none) (by omega) HK.out rfl rfl)⟩
end Go.Proofs.YtlkflbfemlnleaaDoor
