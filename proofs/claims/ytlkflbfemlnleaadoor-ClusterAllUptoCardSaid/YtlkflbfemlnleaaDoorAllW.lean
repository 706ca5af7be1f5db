/- ClusterAll, walked. -/
import Derived.Test.YtlkflbfemlnleaaDoorToldC
import Derived.Test.YtlkflbfemlnleaaDoorAliveC
import Derived.Test.YtlkflbfemlnleaaDoorDocG
namespace Go.Proofs.YtlkflbfemlnleaaDoor
open Go.RowKit Go.Shelf Go.Lib

theorem rev_get (L : List (Nat × ByteArray)) (j : Nat) (x : Nat × ByteArray) (h : L.reverse[j]? = some x) : L[L.length - 1 - j]? = some x := by
  have hj := (List.getElem?_eq_some_iff.1 h).1
  rw [List.length_reverse] at hj
  rw [List.getElem?_reverse hj] at h
  exact h

set_option maxRecDepth 100000 in
set_option maxHeartbeats 4000000 in
theorem clall_walk (s : ByteArray) (lv : Int) (w : World) (hs : s.size ≤ 1073741824) (hT : Utf8Tabs 0 1 w) :
    Calls Tryd.prog 3 #[.string s, .int .i64 lv] w fun e w' => e = .returned (.bool true) ∧ Below w.heap.size w w' := by
  have hpl := pcs_len s
  have Hst := Lib.hid steps_any
  have Hal := Lib.hid alive_any
  have Hall := Lib.hid (fun w => rall_any s w hs)
  have Hnx := Lib.hid (fun w hT => cnext_s s w hT hs)
  have Hrn := Lib.hid (fun w => rnext_any s w hs)
  have Hla := Lib.hid (fun w hT => clast_any s w hs hT)
  have Hrl := Lib.hid (fun w => rlast_any s w hs)
  have Hco := Lib.hid (fun w hT => ccount_any s w hs hT)
  have Hmk := Lib.hid (fun w => cl_mk s w)
  have Hmb := Lib.hid (fun w => clb_mk s w)
  obtain ⟨N, hN⟩ : ∃ N, (pcs s).length = N := ⟨_, rfl⟩
  have HN := Lib.hid hN
  have Htold : Hid (∀ (W : World) (b Bn : Nat) (A : Option Addr) (c : Nat), RdP W b A (pcs s) → b ≤ W.heap.size → Utf8Tabs 0 1 W → W.cell? ⟨Bn, 0, none⟩ = some (.string s) →
      Calls Tryd.prog 11 #[.func (.func 31) #[] #[.pointer (some ⟨Bn, 0, none⟩)], .slice A N c, .bool false, .int .i64 lv] W fun e w' => e = .returned (.bool true) ∧ Below W.heap.size W w') :=
    Lib.hid (fun W b Bn A c hR hb hT hc => told_any 31 Bn (pcs s) (pcs s) false A N c lv W (enters_of Tryd.func31 (by kernel_rfl) rfl) (fun W => by rfl)
      (fun W' hb => seqCl 8 (by omega) Bn _ s W' (cell_ltN hc) (show 0 < W.heap.size by have := tabs_size hT; omega) (show 1 < W.heap.size by have := tabs_size hT; omega) ((hb.cell (p := ⟨Bn, 0, none⟩) (cell_ltN hc)).trans hc) hs (Utf8Tabs_below hT hb))
      (Rd.more hR hb) hN.symm hN (fun j x h => h) (by omega))
  have Htoldb : Hid (∀ (W : World) (b Bn : Nat) (A : Option Addr) (c : Nat), RdP W b A (pcs s) → b ≤ W.heap.size → Utf8Tabs 0 1 W → W.cell? ⟨Bn, 0, none⟩ = some (.string s) →
      Calls Tryd.prog 11 #[.func (.func 33) #[] #[.pointer (some ⟨Bn, 0, none⟩)], .slice A N c, .bool true, .int .i64 lv] W fun e w' => e = .returned (.bool true) ∧ Below W.heap.size W w') :=
    Lib.hid (fun W b Bn A c hR hb hT hc => told_any 33 Bn (pcs s).reverse (pcs s) true A N c lv W (enters_of Tryd.func33 (by kernel_rfl) rfl) (fun W => by rfl)
      (fun W' hb => by
        have := seqClBack 8 (by omega) Bn (fun k => k < W.heap.size) s W' (cell_ltN hc) (show 0 < W.heap.size by have := tabs_size hT; omega) (show 1 < W.heap.size by have := tabs_size hT; omega) ((hb.cell (p := ⟨Bn, 0, none⟩) (cell_ltN hc)).trans hc) hs (Utf8Tabs_below hT hb)
        rw [← List.length_reverse] at this
        exact this)
      (Rd.more hR hb) hN.symm (by rw [List.length_reverse]; exact hN) (fun j x h => by rw [cond_true, ← hN]; exact rev_get _ j x h) (by omega))
  rw [hN] at hpl Hall Hco
  have HT := Lib.hid hT
  clear hT hN
  go_enter Tryd.func3, Tryd.ntmps3
  go_wp2_with fail
  refine (Hst.out _ HT.out).mono ?_
  rintro _ w1 ⟨rfl, b1⟩
  have HT1 := Lib.hid (Utf8Tabs_below HT.out b1)
  have B1 := Lib.hid b1
  clear b1
  go_wp2_with fail
  refine (Hall.out w1).mono ?_
  rintro _ w2 ⟨A, c, rfl, hown, b2⟩
  have HT2 := Lib.hid (Utf8Tabs_below HT1.out b2)
  have B2 := Lib.hid (B1.out.trans (b2.mono B1.out.size))
  have HR2 : Hid (RdP w2 w2.heap.size A (pcs s)) := Lib.hid (by have h := Rd.own hown; rw [← HN.out] at h; exact h)
  clear b2 hown
  go_wp2_with fail
  refine (Hmk.out w2).mono ?_
  rintro _ w3 ⟨rfl, hw⟩
  have b3 : Below w2.heap.size w2 w3 := by rw [hw]; exact (Below.refl _ w2).alloc (Nat.le_refl _) _
  have hc3 : w3.cell? ⟨w2.heap.size, 0, none⟩ = some (.string s) := by rw [hw]; exact (Boxed.new w2 9 (.string s)).cell
  have HT3 := Lib.hid (Utf8Tabs_below HT2.out b3)
  have B3 := Lib.hid (B2.out.trans (b3.mono B2.out.size))
  have HR3 := Lib.hid (HR2.out.below b3)
  have Ht3 := Lib.hid (Htold.out w3 w2.heap.size w2.heap.size A c HR3.out b3.size HT3.out hc3)
  have hs23 := b3.size
  clear b3 hw hc3 Htold
  go_wp2_with fail
  refine Ht3.out.mono ?_
  rintro _ w4 ⟨rfl, b4⟩
  have HT4 := Lib.hid (Utf8Tabs_below HT3.out b4)
  have B4 := Lib.hid (B3.out.trans (b4.mono B3.out.size))
  have HR4 := Lib.hid (HR3.out.below (b4.mono hs23))
  have hs24 : w2.heap.size ≤ w4.heap.size := by have := b4.size; omega
  clear b4 Ht3
  go_wp2_with fail
  refine (Hmb.out w4).mono ?_
  rintro _ w5 ⟨rfl, hw⟩
  have b5 : Below w4.heap.size w4 w5 := by rw [hw]; exact (Below.refl _ w4).alloc (Nat.le_refl _) _
  have hc5 : w5.cell? ⟨w4.heap.size, 0, none⟩ = some (.string s) := by rw [hw]; exact (Boxed.new w4 9 (.string s)).cell
  have HT5 := Lib.hid (Utf8Tabs_below HT4.out b5)
  have B5 := Lib.hid (B4.out.trans (b5.mono B4.out.size))
  have HR5 := Lib.hid (HR4.out.below (b5.mono hs24))
  have Ht5 := Lib.hid (Htoldb.out w5 w2.heap.size w4.heap.size A c HR5.out (by have := b5.size; omega) HT5.out hc5)
  clear b5 hw hc5 Htoldb
  go_wp2_with fail
  refine Ht5.out.mono ?_
  rintro _ w6 ⟨rfl, b6⟩
  have HT6 := Lib.hid (Utf8Tabs_below HT5.out b6)
  have B6 := Lib.hid (B5.out.trans (b6.mono B5.out.size))
  clear b6 Ht5 HR2 HR3 HR4 HR5
  go_wp2_with fail
  refine (Hnx.out _ HT6.out).mono ?_
  rintro _ w7 ⟨rfl, b7⟩
  have HT7 := Lib.hid (Utf8Tabs_below HT6.out b7)
  have B7 := Lib.hid (B6.out.trans (b7.mono B6.out.size))
  clear b7
  go_wp2_with fail
  refine (Hrn.out _).mono ?_
  rintro _ w8 ⟨rfl, b8⟩
  have HT8 := Lib.hid (Utf8Tabs_below HT7.out b8)
  have B8 := Lib.hid (B7.out.trans (b8.mono B7.out.size))
  clear b8
  go_wp2_with fail
  refine (Hla.out _ HT8.out).mono ?_
  rintro _ w9 ⟨rfl, b9⟩
  have HT9 := Lib.hid (Utf8Tabs_below HT8.out b9)
  have B9 := Lib.hid (B8.out.trans (b9.mono B8.out.size))
  clear b9
  go_wp2_with fail
  refine (Hrl.out _).mono ?_
  rintro _ w10 ⟨rfl, b10⟩
  have HT10 := Lib.hid (Utf8Tabs_below HT9.out b10)
  have B10 := Lib.hid (B9.out.trans (b10.mono B9.out.size))
  clear b10
  go_wp2_with fail
  refine (Hco.out _ HT10.out).mono ?_
  rintro _ w11 ⟨rfl, b11⟩
  have HT11 := Lib.hid (Utf8Tabs_below HT10.out b11)
  have B11 := Lib.hid (B10.out.trans (b11.mono B10.out.size))
  clear b11
  go_wp2_with fail
  refine (Hal.out _ HT11.out).mono ?_
  rintro _ w12 ⟨rfl, b12⟩
  have B12 := Lib.hid (B11.out.trans (b12.mono B11.out.size))
  clear b12
  go_wp2_with fail
  go_ret
  exact ⟨rfl, B12.out⟩
end Go.Proofs.YtlkflbfemlnleaaDoor
