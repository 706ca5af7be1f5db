/- ClassTiles, walked. -/
import Derived.Test.YthakdkpgobloiabTilesP
namespace Go.Proofs.Ythakdkpgobloiab
open Go.RowKit Go.Lib

theorem spCells_at : ∀ (l : List (Nat × Nat)) (i : Nat) (h : i < l.length), (spCells l)[i * 2]? = some (.int .i32 (l[i].1 : Int)) ∧ (spCells l)[i * 2 + 1]? = some (.int .i32 (l[i].2 : Int))
  | [], i, h => by simp at h
  | a :: t, 0, _ => ⟨rfl, rfl⟩
  | a :: t, i + 1, h => by
    have := spCells_at t i (by simpa using h)
    rw [show (i + 1) * 2 = i * 2 + 2 by omega]
    exact this

set_option maxRecDepth 100000 in
set_option maxHeartbeats 4000000 in
theorem tiles_walk (t : Int) (w : World) (_ : (Lit.int .i8 t).wf = true) : Calls Try.prog 7 #[.int .i8 t] w fun e w' => e = .returned (.bool true) ∧ Below w.heap.size w w' := by
  obtain ⟨B, hB⟩ : ∃ B, w.heap.size = B := ⟨_, rfl⟩
  have HB := Lib.hid hB
  rw [hB]
  clear hB
  go_enter Try.func7, Try.ntmps7
  go_wp2_with fail
  refine (works_any _).mono ?_
  rintro _ w1 ⟨rfl, b1⟩
  rw [HB.out] at b1
  have B1 := Lib.hid b1
  have hB1 : B ≤ w1.heap.size := by have := b1.size; have := HB.out; omega
  clear b1
  go_wp2_with fail
  go_loopw [3, 4] (fun n v wr => ∃ (k N : Nat) (vv : Int), n = .int .i64 (N : Int) ∧ v = .int .i64 vv ∧ k ≤ 262 ∧ Below B w wr ∧ B ≤ wr.heap.size ∧ Hid (vv = (k : Int) - 1) ∧ Hid (sumK (tabAt t) k = N)) (fun _ v _ => 262 - ((RowKit.intOf v) + 1).toNat)
  case atStart => exact ⟨0, 0, -1, rfl, rfl, by omega, B1.out, hB1, by unfold Hid; omega, by unfold Hid; rfl⟩
  case round =>
    obtain ⟨k, N, vv, rfl, rfl, hk, hbw, hBr, hvv, hN⟩ := hrel
    have hNle : N ≤ 262 * 445644800 := by
      have h1 := sumK_le t k
      have h2 := hN.out
      have h3 : k * 445644800 ≤ 262 * 445644800 := Nat.mul_le_mul_right _ hk
      omega
    by_cases hkn : k < 262
    · have hz : vv < 261 := by have := hvv.out; omega
      have hp := Spans_any t vv
      obtain ⟨hs1, hs2, hs3⟩ := spans_small t vv
      have hsum : sumK (tabAt t) (k + 1) = N + tot (spansFrom (tabAt t) vv) := by
        simp only [sumK]
        rw [hN.out, hvv.out]
      revert hp hs1 hs2 hs3 hsum
      generalize spansFrom (tabAt t) vv = l
      intro hp hs1 hs2 hs3 hsum
      have Hp := Lib.hid hp
      have Hs2 := Lib.hid hs2
      have Hsum := Lib.hid hsum
      have Hbw := Lib.hid hbw
      have hw1 : IntKind.i64.wrap (vv + 1) = vv + 1 := IntWalk.i64_in _ (by have := hvv.out; omega)
      clear hp hs2 hsum hbw
      go_wp2_with fail
      refine (Hp.out _).mono ?_
      rintro _ w2 ⟨u, rfl, own2, b2⟩
      obtain ⟨A, c, rfl, hnc, hcm⟩ := own_shape own2
      have Own2 := Lib.hid own2
      have Hb2 := Lib.hid (Hbw.out.trans (b2.mono hBr))
      have hB2 : B ≤ w2.heap.size := Nat.le_trans hBr b2.size
      clear own2 b2
      go_wp2_with fail
      go_loopw [3, 18] (fun n i wq => ∃ (j M : Nat) (W : World), W = wq ∧ n = .int .i64 (M : Int) ∧ i = .int .i64 (j : Int) ∧ j ≤ l.length ∧ W.heap = w2.heap ∧ Below B w W ∧ Hid (N + tot (l.take j) = M)) (fun _ i _ => l.length - (RowKit.intOf i).toNat)
      case atStart => exact ⟨0, N, _, rfl, rfl, rfl, Nat.zero_le _, rfl, Hb2.out, by unfold Hid; simp [tot]⟩
      case round =>
        obtain ⟨j, M, wq, hq, rfl, rfl, hj, hwq, hbq, hM⟩ := hrel
        subst hq
        by_cases hjn : j < l.length
        · have hjz : (j : Int) < (l.length : Int) := by omega
          obtain ⟨gb, cap, hv, _, hlt⟩ := Own2.out.form (by omega)
          injection hv with hA _ hcc
          subst hA hcc
          obtain ⟨k1, k2⟩ := spCells_at l j hjn
          have c1 : wq.cell? ⟨gb, j * 2, none⟩ = some (.int .i32 (l[j].1 : Int)) := (World.cell?_of_block (w := w2) (by rw [hwq])).trans (by have := Own2.out.cells (g := gb) rfl _ _ k1; rwa [Addr.add_lit, Nat.zero_add] at this)
          have c2 : wq.cell? ⟨gb, j * 2 + 1, none⟩ = some (.int .i32 (l[j].2 : Int)) := (World.cell?_of_block (w := w2) (by rw [hwq])).trans (by have := Own2.out.cells (g := gb) rfl _ _ k2; rwa [Addr.add_lit, Nat.zero_add] at this)
          obtain ⟨hle, hmx⟩ := Hs2.out _ (List.getElem_mem hjn)
          have htk := tot_take_succ l j hjn
          have htl := tot_take l j
          have htl2 := tot_take l (j + 1)
          obtain ⟨p, hp⟩ : ∃ p, l[j] = p := ⟨_, rfl⟩
          rw [hp] at c1 c2 hle hmx htk
          obtain ⟨f, g⟩ := p
          dsimp only at c1 c2 hle hmx htk
          have hMo := hM.out
          have hw2 : IntKind.i32.wrap ((g : Int) - (f : Int)) = (g : Int) - (f : Int) := IntWalk.i32_in _ (by omega)
          have hw3 : IntKind.i64.wrap ((g : Int) - (f : Int)) = (g : Int) - (f : Int) := IntWalk.i64_in _ (by omega)
          have hw4 : IntKind.i64.wrap ((g : Int) - (f : Int) + 1) = (g : Int) - (f : Int) + 1 := IntWalk.i64_in _ (by omega)
          have hw5 : IntKind.i64.wrap ((M : Int) + ((g : Int) - (f : Int) + 1)) = ((M + (g - f + 1) : Nat) : Int) := by rw [show (M : Int) + ((g : Int) - (f : Int) + 1) = ((M + (g - f + 1) : Nat) : Int) by omega]; exact IntWalk.i64_in _ (by omega)
          have HM := Lib.hid (show N + tot (l.take (j + 1)) = M + (g - f + 1) by omega)
          have Hwq := Lib.hid hwq
          have Hbq := Lib.hid hbq
          clear k1 k2 hle hmx htk htl htl2 hp hMo hM hwq hbq
          go_wp2_with fail
          go_region
          go_wp2_with fail
          go_roundw
          case rel => exact ⟨j + 1, M + (g - f + 1), _, rfl, by go_num, by go_num, by omega, Hwq.out, Hbq.out.drew, HM⟩
          case measure => simp [RowKit.intOf]; omega
        · obtain rfl : j = l.length := by omega
          have hMt := hM.out
          rw [List.take_length] at hMt
          have Hv := Lib.hid (show vv + 1 = ((k + 1 : Nat) : Int) - 1 by have := hvv.out; omega)
          have Hs := Lib.hid (show sumK (tabAt t) (k + 1) = M by rw [Hsum.out]; exact hMt)
          have Hbq := Lib.hid hbq
          have hBq : B ≤ wq.heap.size := by rw [hwq]; exact hB2
          have hm0 : 0 ≤ vv + 1 := by have := hvv.out; omega
          have hme : 262 - (vv + 1 + 1).toNat < 262 - (vv + 1).toNat := by have := hvv.out; omega
          clear hM hMt hbq hwq hN hvv
          go_wp2_with fail
          go_roundw
          case rel => exact ⟨k + 1, M, vv + 1, rfl, rfl, by omega, Hbq.out, hBq, Hv, Hs⟩
          case measure => simpa [RowKit.intOf] using hme
    · obtain rfl : k = 262 := by omega
      have hv : vv = 261 := by have := hvv.out; omega
      subst hv
      have hN' := hN.out
      by_cases ht : t < 0
      · rw [tabAt_no t (.inl ht), sum_nil] at hN'
        subst hN'
        clear hvv hN
        go_wp2_with fail
        go_ret
        exact ⟨rfl, hbw⟩
      · by_cases ht2 : 5 < t
        · rw [tabAt_no t (.inr ht2), sum_nil] at hN'
          subst hN'
          clear hvv hN
          go_wp2_with fail
          go_ret
          exact ⟨rfl, hbw⟩
        · rw [sum_yes t (by omega)] at hN'
          subst hN'
          clear hvv hN
          go_wp2_with fail
          go_ret
          exact ⟨rfl, hbw⟩
end Go.Proofs.Ythakdkpgobloiab
