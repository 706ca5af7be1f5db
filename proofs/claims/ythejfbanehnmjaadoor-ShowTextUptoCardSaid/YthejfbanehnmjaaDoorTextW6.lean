/- ShowText, walked. -/
import Derived.Test.YthejfbanehnmjaaDoorAlive6
import Derived.Test.YthejfbanehnmjaaDoorRfCDG
set_option linter.unusedSimpArgs false
set_option linter.unusedVariables false
namespace Go.Proofs.YthejfbanehnmjaaDoor
open Go.RowKit Go.Lib

/-- the look's box between rounds -/
def Box6 (w : World) (B : Nat) (tb : Int) (wd : Bool) (wt : Int) (jn rz : Bool) : Prop := w.heap[B]? = some (.cells #[.int .i64 tb, .bool wd, .int .i8 wt, .bool jn, .bool rz] 24 (0, 0))
theorem Box6.look {w : World} {B : Nat} {tb : Int} {wd : Bool} {wt : Int} {jn rz : Bool} (h : Box6 w B tb wd wt jn rz) : LookAt w B tb wd wt jn rz :=
  ⟨by rw [Lib.cell_of_heap h]; rfl, by rw [Lib.cell_of_heap h]; rfl, by rw [Lib.cell_of_heap h]; rfl, by rw [Lib.cell_of_heap h]; rfl, by rw [Lib.cell_of_heap h]; rfl⟩
theorem Box6.below {w w' : World} {B C : Nat} {tb : Int} {wd : Bool} {wt : Int} {jn rz : Bool} (h : Box6 w B tb wd wt jn rz) (hb : Below C w w') (hC : B < C) : Box6 w' B tb wd wt jn rz := (hb.block B hC).trans h
theorem Box6.turn {w : World} {B : Nat} {tb : Int} {wd : Bool} {wt : Int} {jn rz : Bool} (h : Box6 w B tb wd wt jn rz) (wd' rz' : Bool) : Box6 ((w.setCell ⟨B, 1, none⟩ (.bool wd')).setCell ⟨B, 4, none⟩ (.bool rz')) B tb wd' wt jn rz' := by
  have h1 := heap_setCell_same w B 1 _ _ (.bool wd') h
  have h2 := heap_setCell_same _ B 4 _ _ (.bool rz') h1
  unfold Box6
  rw [h2]
  rfl
set_option maxRecDepth 100000 in
set_option maxHeartbeats 2000000 in
theorem text6_walk (s : ByteArray) (x1 tb : Int) (wd : Bool) (wt : Int) (jn rz : Bool) (w : World) (hs : s.size ≤ 1073741824) (h0 : -9223372036854775808 ≤ x1 ∧ x1 ≤ 9223372036854775807) (hT : Utf8Tabs 0 1 w) :
    Calls Tryd.prog 3 #[.string s, .int .i64 x1, lookV tb wd wt jn rz] w fun e w' => e = .returned (.bool true) ∧ Below w.heap.size w w' := by
  obtain ⟨B, hB⟩ : ∃ B, w.heap.size = B := ⟨_, rfl⟩
  have hP := fun wd rz W hT => ptext_any s x1 tb wd wt jn rz W hs h0.1 h0.2 hT
  have hD := fun wd rz W => rtext6_any s x1 tb wd wt jn rz W hs h0.1 h0.2
  obtain ⟨g1, hg1⟩ : ∃ g : Bool → Bool → ByteArray, ∀ wd rz, (⟨(textZ rz wd tb x1.toNat s.data.toList).1.toArray⟩ : ByteArray) = g wd rz := ⟨fun wd rz => ⟨(textZ rz wd tb x1.toNat s.data.toList).1.toArray⟩, fun _ _ => rfl⟩
  obtain ⟨g2, hg2⟩ : ∃ g : Bool → Bool → Nat, ∀ wd rz, (textZ rz wd tb x1.toNat s.data.toList).2 = g wd rz := ⟨fun wd rz => (textZ rz wd tb x1.toNat s.data.toList).2, fun _ _ => rfl⟩
  simp only [hg1, hg2] at hP hD
  have HP := Lib.hid hP
  have HD := Lib.hid hD
  have HA := Lib.hid (fun W hT => alive6_any W hT)
  clear hP hD hg1 hg2
  have hbx : Box6 (w.alloc (.cells #[.int .i64 tb, .bool wd, .int .i8 wt, .bool jn, .bool rz] 24)) B tb wd wt jn rz := by unfold Box6; rw [← hB]; exact heap_alloc_new w _
  have hb : Below B w (w.alloc (.cells #[.int .i64 tb, .bool wd, .int .i8 wt, .bool jn, .bool rz] 24)) := (Below.refl _ w).alloc (by omega) _
  have HT : Hid (∀ W, Below B w W → Utf8Tabs 0 1 W) := Lib.hid (fun W hb => Utf8Tabs_below hT (by rw [hB]; exact hb))
  clear hT
  subst hB
  go_enter Tryd.func3, Tryd.ntmps3
  go_wp2_with fail
  go_loopw [7] (fun i wr => ∃ (k : Nat) (d r : Bool) (W : World), W = wr ∧ i = .int .i64 (k : Int) ∧ k ≤ 4 ∧ Box6 W w.heap.size tb d wt jn r ∧ Below w.heap.size w W) (fun i _ => 4 - (RowKit.intOf i).toNat)
  case atStart => exact ⟨0, wd, rz, _, rfl, rfl, by omega, hbx, hb⟩
  case round =>
    obtain ⟨k, d, r, W, hWr, rfl, hk, hbox, hbw⟩ := hrel
    subst hWr
    by_cases hk4 : k < 4
    · have key : ∀ (d1 r1 : Bool), Box6 ((W.setCell ⟨w.heap.size, 1, none⟩ (.bool d1)).setCell ⟨w.heap.size, 4, none⟩ (.bool r1)) w.heap.size tb d1 wt jn r1 ∧ Below w.heap.size w ((W.setCell ⟨w.heap.size, 1, none⟩ (.bool d1)).setCell ⟨w.heap.size, 4, none⟩ (.bool r1)) := fun d1 r1 =>
        ⟨hbox.turn d1 r1, (hbw.setCell (p := ⟨w.heap.size, 1, none⟩) (Nat.le_refl _) _).setCell (p := ⟨w.heap.size, 4, none⟩) (Nat.le_refl _) _⟩
      have q := hbox.look
      obtain ⟨c0, c1, c2, c3, c4⟩ := q
      have f1 : W.frozen? ⟨w.heap.size, 1, none⟩ = false := Lib.frozen_of_heap hbox 1
      have f4 : (W.frozen? ⟨w.heap.size, 4, none⟩) = false := Lib.frozen_of_heap hbox 4
      have hcase : ∃ d1 r1 : Bool, (k = 0 ∧ d1 = false ∧ r1 = false) ∨ (k = 1 ∧ d1 = true ∧ r1 = false) ∨ (k = 2 ∧ d1 = false ∧ r1 = true) ∨ (k = 3 ∧ d1 = true ∧ r1 = true) := by
        have : k = 0 ∨ k = 1 ∨ k = 2 ∨ k = 3 := by omega
        rcases this with h | h | h | h
        · exact ⟨false, false, .inl ⟨h, rfl, rfl⟩⟩
        · exact ⟨true, false, .inr (.inl ⟨h, rfl, rfl⟩)⟩
        · exact ⟨false, true, .inr (.inr (.inl ⟨h, rfl, rfl⟩))⟩
        · exact ⟨true, true, .inr (.inr (.inr ⟨h, rfl, rfl⟩))⟩
      obtain ⟨d1, r1, hcase⟩ := hcase
      obtain ⟨kb, kw⟩ := key d1 r1
      obtain ⟨V, hV⟩ : ∃ V, (W.setCell ⟨w.heap.size, 1, none⟩ (.bool d1)).setCell ⟨w.heap.size, 4, none⟩ (.bool r1) = V := ⟨_, rfl⟩
      rw [hV] at kb kw
      rcases hcase with ⟨rfl, rfl, rfl⟩ | ⟨rfl, rfl, rfl⟩ | ⟨rfl, rfl, rfl⟩ | ⟨rfl, rfl, rfl⟩
      all_goals
        obtain ⟨e0, e1, e2, e3, e4⟩ := kb.look
        have hlt : w.heap.size < V.heap.size := (Array.getElem?_eq_some_iff.1 kb).1
        have Hbox := Lib.hid kb
        have Hbw := Lib.hid kw
        clear kb kw key hbox hbw hk hk4
        go_wp2_with fail
        refine (HP.out _ _ _ (HT.out _ Hbw.out)).mono ?_
        rintro _ w2 ⟨rfl, b2⟩
        have Hbox2 := Lib.hid (Hbox.out.below b2 hlt)
        have Hbw2 := Lib.hid (Hbw.out.trans (b2.mono (by omega)))
        have hlt2 : w.heap.size < w2.heap.size := by have := b2.size; omega
        clear b2 e0 e1 e2 e3 e4
        obtain ⟨e0, e1, e2, e3, e4⟩ := Hbox2.out.look
        go_wp2_with fail
        refine (HD.out _ _ _).mono ?_
        rintro _ w3 ⟨rfl, b3⟩
        have Hbox3 := Lib.hid (Hbox2.out.below b3 hlt2)
        have Hbw3 := Lib.hid (Hbw2.out.trans (b3.mono (by omega)))
        clear b3 e0 e1 e2 e3 e4
        go_wp2
        go_roundw
        case rel => exact ⟨_, _, _, _, rfl, by first | rfl | go_num, by first | decide | omega, Hbox3.out, Hbw3.out⟩
        case measure => simp [RowKit.intOf]
    · obtain rfl : k = 4 := by omega
      have Hbw := Lib.hid hbw
      have HTW := Lib.hid (HT.out _ hbw)
      clear hbw hbox
      go_wp2_with fail
      refine (HA.out _ HTW.out).mono ?_
      rintro _ w4 ⟨rfl, b4⟩
      have hfin := Lib.hid (Hbw.out.trans (b4.mono (by have := Hbw.out.size; omega)))
      clear b4
      go_wp2
      go_ret
      exact ⟨rfl, hfin.out⟩
end Go.Proofs.YthejfbanehnmjaaDoor
