/- Layer 9, the laws' helpers: brackets, alive. -/
import Derived.Test.YtkcckophnamajaaHlA9
set_option linter.unusedSimpArgs false
set_option linter.unusedVariables false
namespace Go.Proofs.Ytkcckophnamajaa
open Go.RowKit Go.Lib

theorem alive_brk : brZ pairOf [97, 40, 98, 41, 99] ([97, 40, 98, 41, 99].map dz9) = [(1, 3)] := by decide +kernel
set_option maxRecDepth 100000 in
set_option maxHeartbeats 4000000 in
theorem brackets_lit9 (b : Nat) (w : World) (hb : b < w.heap.size) (hc0 : w.cell? ⟨b, 0, none⟩ = some (.int .i64 1)) (hc1 : w.cell? ⟨b, 1, none⟩ = some (.int .i64 3)) :
    Calls Try.prog 26 #[.string ⟨#[97, 40, 98, 41, 99]⟩, .slice (some ⟨b, 0, none⟩) 2 2] w fun e w' => e = .returned (.bool true) ∧ Below w.heap.size w w' := by
  obtain ⟨hcv, hrd, hbe, hrc⟩ := conv_lit9 ⟨#[97, 40, 98, 41, 99]⟩ [97, 40, 98, 41, 99] (by kernel_rfl) (by decide) w
  have hcvN : (convert 9 22 (.string ⟨#[97, 40, 98, 41, 99]⟩)).run Try.prog w = .ok (.slice (some ⟨w.heap.size, 0, none⟩) 5 (rcap9 [97, 40, 98, 41, 99] w)) (rworld9 [97, 40, 98, 41, 99] w) := hcv
  have hrd5 : RdR (rworld9 [97, 40, 98, 41, 99] w) (some ⟨w.heap.size, 0, none⟩) 5 [97, 40, 98, 41, 99] := hrd
  have hrc5 : 5 ≤ rcap9 [97, 40, 98, 41, 99] w := hrc
  obtain ⟨cr, hcr⟩ : ∃ cr, rcap9 [97, 40, 98, 41, 99] w = cr := ⟨_, rfl⟩
  rw [hcr] at hcvN hrc5
  obtain ⟨V, hV⟩ : ∃ V, rworld9 [97, 40, 98, 41, 99] w = V := ⟨_, rfl⟩
  rw [hV] at hcvN hrd5 hbe
  obtain ⟨Q, hQ⟩ : ∃ Q, w.heap.size = Q := ⟨_, rfl⟩
  rw [hQ] at hcvN hrd5 hbe hb ⊢
  have HK := Lib.hid (kinds_any9 (some ⟨Q, 0, none⟩) 5 cr [97, 40, 98, 41, 99] V hrd5 (by omega))
  have HBk := Lib.hid (fun (W : World) (A : Option Addr) (c : Nat) (hr : RdR W (some ⟨Q, 0, none⟩) 5 [97, 40, 98, 41, 99]) (hk : RdK W A 5 ([97, 40, 98, 41, 99].map dz9)) => pbrackets_any9 (some ⟨Q, 0, none⟩) A 5 cr 5 c [97, 40, 98, 41, 99] ([97, 40, 98, 41, 99].map dz9) W hr hk (by decide) hrc5)
  rw [alive_brk] at HBk
  have HV := Lib.hid (show Below Q w V ∧ RdR V (some ⟨Q, 0, none⟩) 5 [97, 40, 98, 41, 99] ∧ Q ≤ V.heap.size from ⟨hbe, hrd5, by have := hbe.size; omega⟩)
  have HC := Lib.hid (show ∀ W, Below Q w W → W.cell? ⟨b, 0, none⟩ = some (.int .i64 1) ∧ W.cell? ⟨b, 1, none⟩ = some (.int .i64 3) from fun W hw => ⟨(hw.cell (p := ⟨b, 0, none⟩) hb).trans hc0, (hw.cell (p := ⟨b, 1, none⟩) hb).trans hc1⟩)
  clear hcv hrd hrd5 hbe hrc hrc5 hcr hV hQ hb hc0 hc1
  go_enter Try.func26, Try.ntmps26
  go_wp2_with fail
  refine (HK.out).mono ?_
  rintro _ w1 ⟨A1, c1, rfl, hnc1, o1, b1⟩
  have H1 := Lib.hid (show Below Q w w1 ∧ RdR w1 (some ⟨Q, 0, none⟩) 5 [97, 40, 98, 41, 99] ∧ RdK w1 A1 5 ([97, 40, 98, 41, 99].map dz9) ∧ Q ≤ w1.heap.size from ⟨HV.out.1.trans (b1.mono HV.out.2.2), HV.out.2.1.below b1, RdK.own o1, by have := b1.size; have := HV.out.2.2; omega⟩)
  have HBv := Lib.hid (HBk.out w1 A1 c1 H1.out.2.1 H1.out.2.2.1)
  clear o1 b1 HBk
  go_wp2_with fail
  refine (HBv.out).mono ?_
  rintro _ w2 ⟨A2, c2, rfl, o2, b2⟩
  obtain ⟨g2, cap2, hv2, _, _⟩ := o2.form (by decide)
  injection hv2 with hA2 _ _
  subst hA2
  have hp := prC_get (l := [(1, 3)]) (i := 0) (p := (1, 3)) rfl
  have H2 := Lib.hid (show Below Q w w2 ∧ w2.cell? ⟨g2, 0, none⟩ = some (.int .i64 1) ∧ w2.cell? ⟨g2, 1, none⟩ = some (.int .i64 3) from ⟨H1.out.1.trans (b2.mono H1.out.2.2.2), (o2.cellAt 0 (by decide)).trans hp.1, (o2.cellAt 1 (by decide)).trans hp.2⟩)
  clear o2 b2 H1 HBv hp
  go_wp2_with fail
  go_loopw [7] (fun x wr => ∃ (i : Nat) (W : World), W = wr ∧ x = .int .i64 (i : Int) ∧ i ≤ 1 ∧ Hid (Below Q w W ∧ W.cell? ⟨g2, 0, none⟩ = some (.int .i64 1) ∧ W.cell? ⟨g2, 1, none⟩ = some (.int .i64 3))) (fun x _ => 1 - (RowKit.intOf x).toNat)
  case atStart => exact ⟨0, _, rfl, rfl, Nat.zero_le _, H2⟩
  case round =>
    obtain ⟨i, W, hW, rfl, hin, HI⟩ := hrel
    subst hW
    rcases i with _ | _ | i
    · have k0 := (HC.out W HI.out.1).1
      have k1 := (HC.out W HI.out.1).2
      have g0 := HI.out.2.1
      have g1 := HI.out.2.2
      have k0D : W.drew.cell? ⟨b, 0, none⟩ = some (.int .i64 1) := k0
      have k1D : W.drew.cell? ⟨b, 1, none⟩ = some (.int .i64 3) := k1
      have g0D : W.drew.cell? ⟨g2, 0, none⟩ = some (.int .i64 1) := g0
      have g1D : W.drew.cell? ⟨g2, 1, none⟩ = some (.int .i64 3) := g1
      go_wp2_with fail
      go_quiet (fail)
      go_wp2_with fail
      go_roundw
      case rel => exact ⟨1, _, rfl, by first | rfl | go_num, Nat.le_refl _, Lib.hid ⟨below_N HI.out.1 _, HI.out.2⟩⟩
      case measure => simp [RowKit.intOf]
    · go_wp2_with fail
      go_ret
      exact ⟨rfl, HI.out.1⟩
    · omega
set_option maxRecDepth 100000 in
set_option maxHeartbeats 4000000 in
theorem alive_any9 (w : World) : Calls Try.prog 13 #[] w fun e w' => e = .returned (.bool true) ∧ Below w.heap.size w w' := by
  have HB := Lib.hid brackets_lit9
  have HR1 := Lib.hid (resolves_any9 ⟨#[97, 40, 215, 144, 41, 98]⟩ ⟨#[76, 76, 82, 76, 76]⟩ [97, 40, 1488, 41, 98] [0, 0, 1, 0, 0] 0 0 0 (by omega) (by kernel_rfl) (by decide) (by decide +kernel) (by kernel_rfl) (by
    intro i k hk W
    have hi9 : i < 5 := by have := (List.getElem?_eq_some_iff.1 hk).1; simpa using this
    rcases (show i = 0 ∨ i = 1 ∨ i = 2 ∨ i = 3 ∨ i = 4 by omega) with rfl | rfl | rfl | rfl | rfl
    · obtain rfl : (0 : Int) = k := Option.some.inj hk
      first | exact (by kernel_rfl) | (show _ = _; kernel_rfl)
    · obtain rfl : (0 : Int) = k := Option.some.inj hk
      first | exact (by kernel_rfl) | (show _ = _; kernel_rfl)
    · obtain rfl : (1 : Int) = k := Option.some.inj hk
      first | exact (by kernel_rfl) | (show _ = _; kernel_rfl)
    · obtain rfl : (0 : Int) = k := Option.some.inj hk
      first | exact (by kernel_rfl) | (show _ = _; kernel_rfl)
    · obtain rfl : (0 : Int) = k := Option.some.inj hk
      first | exact (by kernel_rfl) | (show _ = _; kernel_rfl)))
  have HR2 := Lib.hid (resolves_any9 ⟨#[215, 144, 32, 98]⟩ ⟨#[82, 82, 76]⟩ [1488, 32, 98] [1, 1, 0] 1 1 1 (by omega) (by kernel_rfl) (by decide) (by decide +kernel) (by kernel_rfl) (by
    intro i k hk W
    have hi9 : i < 3 := by have := (List.getElem?_eq_some_iff.1 hk).1; simpa using this
    rcases (show i = 0 ∨ i = 1 ∨ i = 2 by omega) with rfl | rfl | rfl
    · obtain rfl : (1 : Int) = k := Option.some.inj hk
      first | exact (by kernel_rfl) | (show _ = _; kernel_rfl)
    · obtain rfl : (1 : Int) = k := Option.some.inj hk
      first | exact (by kernel_rfl) | (show _ = _; kernel_rfl)
    · obtain rfl : (0 : Int) = k := Option.some.inj hk
      first | exact (by kernel_rfl) | (show _ = _; kernel_rfl)))
  have HR3 := Lib.hid (resolves_any9 ⟨#[32]⟩ ⟨#[82]⟩ [32] [1] 0 1 1 (by omega) (by kernel_rfl) (by decide) (by decide +kernel) (by kernel_rfl) (by
    intro i k hk W
    have hi9 : i < 1 := by have := (List.getElem?_eq_some_iff.1 hk).1; simpa using this
    rcases (show i = 0 by omega) with rfl
    · obtain rfl : (1 : Int) = k := Option.some.inj hk
      first | exact (by kernel_rfl) | (show _ = _; kernel_rfl)))
  obtain ⟨Q, hQ⟩ : ∃ Q, w.heap.size = Q := ⟨_, rfl⟩
  obtain ⟨V, hV⟩ : ∃ V, w.alloc (.cells #[.int .i64 1, .int .i64 3] 3) = V := ⟨_, rfl⟩
  have hVs : V.heap[Q]? = some (.cells #[.int .i64 1, .int .i64 3] 3 (0, 0)) := by rw [← hV, ← hQ]; exact heap_alloc_new w _
  have HBv := Lib.hid (HB.out Q V (Array.getElem?_eq_some_iff.1 hVs).1 (cell_of_row V Q 0 _ _ (0, 0) hVs) (cell_of_row V Q 1 _ _ (0, 0) hVs))
  have HbV := Lib.hid (show Below Q w V ∧ Q ≤ V.heap.size by rw [← hV, ← hQ]; exact ⟨(Below.refl _ w).alloc (Nat.le_refl _) _, by rw [World.size_alloc]; omega⟩)
  have HVw := Lib.hid hV
  have HQ := Lib.hid hQ
  rw [hQ]
  clear hV hVs hQ HB
  go_enter Try.func13, Try.ntmps13
  go_wp2_with fail
  rw [HVw.out, HQ.out]
  refine (HBv.out).mono ?_
  rintro _ w1 ⟨rfl, b1⟩
  have H1 := Lib.hid (show Below Q w w1 ∧ Q ≤ w1.heap.size from ⟨HbV.out.1.trans (b1.mono HbV.out.2), by have := b1.size; have := HbV.out.2; omega⟩)
  clear b1
  go_wp2_with fail
  refine (HR1.out _).mono ?_
  rintro _ w2 ⟨rfl, b2⟩
  have H2 := Lib.hid (show Below Q w w2 ∧ Q ≤ w2.heap.size from ⟨H1.out.1.trans (b2.mono H1.out.2), by have := b2.size; have := H1.out.2; omega⟩)
  clear b2
  go_wp2_with fail
  refine (HR2.out _).mono ?_
  rintro _ w3 ⟨rfl, b3⟩
  have H3 := Lib.hid (show Below Q w w3 ∧ Q ≤ w3.heap.size from ⟨H2.out.1.trans (b3.mono H2.out.2), by have := b3.size; have := H2.out.2; omega⟩)
  clear b3
  go_wp2_with fail
  refine (HR3.out _).mono ?_
  rintro _ w4 ⟨rfl, b4⟩
  have H4 := Lib.hid (show Below Q w w4 from H3.out.1.trans (b4.mono H3.out.2))
  clear b4
  go_wp2_with fail
  go_ret
  exact ⟨rfl, H4.out⟩
end Go.Proofs.Ytkcckophnamajaa
