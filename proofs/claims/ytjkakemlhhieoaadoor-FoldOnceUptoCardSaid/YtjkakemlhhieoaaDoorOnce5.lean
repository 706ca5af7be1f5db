/- FoldOnce, walked. -/
import Derived.Test.YtjkakemlhhieoaaDoorWalkGF
import Derived.Test.YtjkakemlhhieoaaDoorLenF
import Derived.BigQuiet
import Derived.Deep.QuietTactic
namespace Go.Proofs.YtjkakemlhhieoaaDoor
open Go.RowKit Go.Lib

theorem togS_lenF (l : List UInt8) : (togS l).length ≤ 16 * l.length := by
  unfold togS
  have h1 := textP_le (togF (apartP l)).1
  have h2 := (togF_ok (apartP l) (apartP_ok l)).2
  have h3 := apartP_len l
  omega
theorem madeS_len5 {f : Become} (hf : ∀ pre p t, (f pre p t).length ≤ 2) {l : List UInt8} (hl : l.length ≤ 1048576) : (madeS f l).length ≤ 8388608 := by
  have := madeS_len hf l
  omega
/-- a text that folds as s does -/
def As5 (F : List UInt8) (x : ByteArray) : Prop := Fine5 x.data.toList ∧ foldS x.data.toList = F
theorem ba_size (l : List UInt8) : (ByteArray.mk l.toArray).size = l.length := by simp [ByteArray.size]

set_option maxRecDepth 100000 in
set_option maxHeartbeats 4000000 in
theorem once5_walk (s : ByteArray) (w : World) (hs : s.size ≤ 1048576) (hE : Env5 w) :
    Calls Tryd.prog 5 #[.string s] w fun e w' => e = .returned (.bool true) ∧ Below w.heap.size w w' := by
  have hl : s.data.toList.length ≤ 1048576 := by rw [size_list]; exact hs
  have hfs := fine_of (show s.data.toList.length ≤ 8388608 by omega)
  -- what is made
  have hF := fun W h => Fold_any s W hfs h
  have hLo := fun W h => Lower_any s W (by omega) h
  have hUp := fun W h => Upper_any s W (by omega) h
  have hTi := fun W h => Title_any s W (by omega) h
  have hSw := fun W h => Swap_any s W (by omega) h
  have hAp := fun W h => Apart_any s W (by omega) h
  have hTg := fun W h => Together_any s W (by omega) h
  have a1 : As5 (foldS s.data.toList) ⟨(foldS s.data.toList).toArray⟩ := ⟨fine_fold hl, foldS_twice _⟩
  have a2 : As5 (foldS s.data.toList) ⟨(madeS (lowF kind5) s.data.toList).toArray⟩ := ⟨fine_of (madeS_len5 (low_two kind5) hl), fold_madeS (low_fit kind5) (low_alike kind5) _⟩
  have a3 : As5 (foldS s.data.toList) ⟨(madeS upF s.data.toList).toArray⟩ := ⟨fine_of (madeS_len5 up_two hl), fold_madeS up_fit up_alike _⟩
  have a4 : As5 (foldS s.data.toList) ⟨(madeS (titleF kind5) s.data.toList).toArray⟩ := ⟨fine_of (madeS_len5 (title_two kind5) hl), fold_madeS (title_fit kind5) (title_alike kind5) _⟩
  have a5 : As5 (foldS s.data.toList) ⟨(madeS swapF s.data.toList).toArray⟩ := ⟨fine_of (madeS_len5 swap_two hl), fold_madeS swap_fit swap_alike _⟩
  have a6 : As5 (foldS s.data.toList) ⟨(apartS s.data.toList).toArray⟩ := ⟨fine_like hl (by have := apartS_lenF s.data.toList; show (apartS s.data.toList).length ≤ _; omega) (apartP_twice _), foldS_apart _⟩
  have a7 : As5 (foldS s.data.toList) ⟨(togS s.data.toList).toArray⟩ := ⟨fine_like hl (by have := togS_lenF s.data.toList; show (togS s.data.toList).length ≤ _; omega) (apartP_tog _), foldS_tog _⟩
  have hLL := fun W h => Lower_any ⟨(madeS (lowF kind5) s.data.toList).toArray⟩ W (by rw [ba_size]; have := madeS_len5 (low_two kind5) hl; omega) h
  have hUU := fun W h => Upper_any ⟨(madeS upF s.data.toList).toArray⟩ W (by rw [ba_size]; have := madeS_len5 up_two hl; omega) h
  rw [show (ByteArray.mk (madeS (lowF kind5) s.data.toList).toArray).data.toList = madeS (lowF kind5) s.data.toList from rfl, low_twice] at hLL
  rw [show (ByteArray.mk (madeS upF s.data.toList).toArray).data.toList = madeS upF s.data.toList from rfl, up_twice] at hUU
  obtain ⟨F, hFe⟩ : ∃ F, foldS s.data.toList = F := ⟨_, rfl⟩
  have hsame : ∀ x : ByteArray, As5 F x → ∀ W, Env5 W → (Calls Tryd.prog 22 #[.string s, .string x] W fun e w' => e = .returned (.bool true) ∧ Below W.heap.size W w') ∧ (Calls Tryd.prog 22 #[.string x, .string s] W fun e w' => e = .returned (.bool true) ∧ Below W.heap.size W w') ∧
      (Calls Tryd.prog 15 #[.string x] W fun e w' => e = .returned (.string ⟨F.toArray⟩) ∧ Below W.heap.size W w') := by
    intro x hx W hW
    have h1 := FSame_any s x W hfs hx.1 hW
    have h2 := FSame_any x s W hx.1 hfs hW
    have h3 := Fold_any x W hx.1 hW
    have e1 : same5 s.data.toList x.data.toList = true := decide_eq_true (hFe.trans hx.2.symm)
    have e2 : same5 x.data.toList s.data.toList = true := decide_eq_true (hx.2.trans hFe.symm)
    rw [e1] at h1
    rw [e2] at h2
    rw [hx.2] at h3
    exact ⟨h1, h2, h3⟩
  rw [hFe] at hF a1 a2 a3 a4 a5 a6 a7
  obtain ⟨xF, hxF⟩ : ∃ x, (ByteArray.mk F.toArray) = x := ⟨_, rfl⟩
  obtain ⟨x2, hx2⟩ : ∃ x, (ByteArray.mk (madeS (lowF kind5) s.data.toList).toArray) = x := ⟨_, rfl⟩
  obtain ⟨x3, hx3⟩ : ∃ x, (ByteArray.mk (madeS upF s.data.toList).toArray) = x := ⟨_, rfl⟩
  obtain ⟨x4, hx4⟩ : ∃ x, (ByteArray.mk (madeS (titleF kind5) s.data.toList).toArray) = x := ⟨_, rfl⟩
  obtain ⟨x5, hx5⟩ : ∃ x, (ByteArray.mk (madeS swapF s.data.toList).toArray) = x := ⟨_, rfl⟩
  obtain ⟨x6, hx6⟩ : ∃ x, (ByteArray.mk (apartS s.data.toList).toArray) = x := ⟨_, rfl⟩
  obtain ⟨x7, hx7⟩ : ∃ x, (ByteArray.mk (togS s.data.toList).toArray) = x := ⟨_, rfl⟩
  rw [hxF] at hF a1 hsame
  rw [hx2] at hLo a2 hLL
  rw [hx3] at hUp a3 hUU
  rw [hx4] at hTi a4
  rw [hx5] at hSw a5
  rw [hx6] at hAp a6
  rw [hx7] at hTg a7
  have aS : As5 F s := ⟨hfs, hFe⟩
  have HL : ∀ (k : Nat) (x : ByteArray), [xF, x2, x3, x4, x5, x6, x7][k]? = some x → As5 F x := by
    intro k x hx
    have hm := List.mem_of_getElem? hx
    simp only [List.mem_cons, List.not_mem_nil, or_false] at hm
    rcases hm with rfl | rfl | rfl | rfl | rfl | rfl | rfl
    · exact a1
    · exact a2
    · exact a3
    · exact a4
    · exact a5
    · exact a6
    · exact a7
  have HF := Lib.hid hF
  have HLo := Lib.hid hLo
  have HUp := Lib.hid hUp
  have HTi := Lib.hid hTi
  have HSw := Lib.hid hSw
  have HAp := Lib.hid hAp
  have HTg := Lib.hid hTg
  have HLL := Lib.hid hLL
  have HUU := Lib.hid hUU
  have HSame := Lib.hid hsame
  have HAS := Lib.hid aS
  have HA1 := Lib.hid a1
  have HLs := Lib.hid HL
  have HE := Lib.hid hE
  clear hF hLo hUp hTi hSw hAp hTg hLL hUU hsame HL a1 a2 a3 a4 a5 a6 a7 aS hfs hl hFe hxF hx2 hx3 hx4 hx5 hx6 hx7 hE
  go_enter Tryd.func5, Tryd.ntmps5
  go_wp2_with fail
  refine (works5_any w HE.out).mono ?_
  rintro _ w1 ⟨rfl, b0⟩
  have HE1 := Lib.hid (HE.out.below b0)
  have Hb1 := Lib.hid (b0)
  clear b0
  go_wp2_with fail
  refine (HF.out w1 HE1.out).mono ?_
  rintro _ w2 ⟨rfl, b1⟩
  have HE2 := Lib.hid (HE1.out.below b1)
  have Hb2 := Lib.hid (Hb1.out.trans (b1.mono Hb1.out.size))
  clear b1
  go_wp2_with fail
  refine (HLo.out w2 HE2.out).mono ?_
  rintro _ w3 ⟨rfl, b2⟩
  have HE3 := Lib.hid (HE2.out.below b2)
  have Hb3 := Lib.hid (Hb2.out.trans (b2.mono Hb2.out.size))
  clear b2
  go_wp2_with fail
  refine (HUp.out w3 HE3.out).mono ?_
  rintro _ w4 ⟨rfl, b3⟩
  have HE4 := Lib.hid (HE3.out.below b3)
  have Hb4 := Lib.hid (Hb3.out.trans (b3.mono Hb3.out.size))
  clear b3
  go_wp2_with fail
  refine ((HSame.out xF HA1.out w4 HE4.out).2.2).mono ?_
  rintro _ w5 ⟨rfl, b4⟩
  have HE5 := Lib.hid (HE4.out.below b4)
  have Hb5 := Lib.hid (Hb4.out.trans (b4.mono Hb4.out.size))
  clear b4
  go_wp2_with fail
  refine (HLL.out w5 HE5.out).mono ?_
  rintro _ w6 ⟨rfl, b5⟩
  have HE6 := Lib.hid (HE5.out.below b5)
  have Hb6 := Lib.hid (Hb5.out.trans (b5.mono Hb5.out.size))
  clear b5
  go_wp2_with fail
  refine (HUU.out w6 HE6.out).mono ?_
  rintro _ w7 ⟨rfl, b6⟩
  have HE7 := Lib.hid (HE6.out.below b6)
  have Hb7 := Lib.hid (Hb6.out.trans (b6.mono Hb6.out.size))
  clear b6
  go_wp2_with fail
  refine (HTi.out w7 HE7.out).mono ?_
  rintro _ w8 ⟨rfl, b7⟩
  have HE8 := Lib.hid (HE7.out.below b7)
  have Hb8 := Lib.hid (Hb7.out.trans (b7.mono Hb7.out.size))
  clear b7
  go_wp2_with fail
  refine (HSw.out w8 HE8.out).mono ?_
  rintro _ w9 ⟨rfl, b8⟩
  have HE9 := Lib.hid (HE8.out.below b8)
  have Hb9 := Lib.hid (Hb8.out.trans (b8.mono Hb8.out.size))
  clear b8
  go_wp2_with fail
  refine (HAp.out w9 HE9.out.1).mono ?_
  rintro _ w10 ⟨rfl, b9⟩
  have HE10 := Lib.hid (HE9.out.below b9)
  have Hb10 := Lib.hid (Hb9.out.trans (b9.mono Hb9.out.size))
  clear b9
  go_wp2_with fail
  refine (HTg.out w10 HE10.out.1).mono ?_
  rintro _ w11 ⟨rfl, b10⟩
  have HE11 := Lib.hid (HE10.out.below b10)
  have Hb11 := Lib.hid (Hb10.out.trans (b10.mono Hb10.out.size))
  clear b10
  obtain ⟨W, hW⟩ : ∃ W, w11.alloc (.cells #[.string xF, .string x2, .string x3, .string x4, .string x5, .string x6, .string x7] 9) = W := ⟨_, rfl⟩
  obtain ⟨G, hG⟩ : ∃ G, w11.heap.size = G := ⟨_, rfl⟩
  have hWX : W.heap[G]? = some (.cells #[.string xF, .string x2, .string x3, .string x4, .string x5, .string x6, .string x7] 9 (0, 0)) := by rw [← hW, ← hG]; exact (MapKept.heap_alloc _ _).1
  have hWb : Below w11.heap.size w11 W := by rw [← hW]; exact (Below.refl _ w11).alloc (Nat.le_refl _) _
  have HEW := Lib.hid (HE11.out.below hWb)
  have HbW := Lib.hid (Hb11.out.trans (hWb.mono Hb11.out.size))
  have hGW : G < W.heap.size := (Array.getElem?_eq_some_iff.1 hWX).1
  have hcell : ∀ (k : Nat) (x : ByteArray), [xF, x2, x3, x4, x5, x6, x7][k]? = some x → W.cell? ⟨G, k, none⟩ = some (.string x) := by
    intro k x hx
    rw [Lib.cell_of_heap hWX]
    have hk : k < 7 := (List.getElem?_eq_some_iff.1 hx).1
    match k, hk, hx with
    | 0, _, hx => simp at hx; subst hx; rfl
    | 1, _, hx => simp at hx; subst hx; rfl
    | 2, _, hx => simp at hx; subst hx; rfl
    | 3, _, hx => simp at hx; subst hx; rfl
    | 4, _, hx => simp at hx; subst hx; rfl
    | 5, _, hx => simp at hx; subst hx; rfl
    | 6, _, hx => simp at hx; subst hx; rfl
  have HW := Lib.hid hW
  have HG := Lib.hid hG
  have Hcell := Lib.hid hcell
  clear hW hG hcell hWX hWb
  go_wp2_with fail
  rw [HW.out, HG.out]
  go_loopw [46] (fun i wr => ∃ k : Nat, k ≤ 7 ∧ i = .int .i64 (k : Int) ∧ Below W.heap.size W wr) (fun i _ => 7 - (RowKit.intOf i).toNat)
  case atStart => exact ⟨0, Nat.zero_le _, rfl, Below.refl _ _⟩
  case round =>
    obtain ⟨k, hk, rfl, hbw⟩ := hrel
    by_cases hk7 : k < 7
    · have hki : (k : Int) < 7 := by omega
      obtain ⟨x, hx⟩ : ∃ x, [xF, x2, x3, x4, x5, x6, x7][k]? = some x := ⟨_, List.getElem?_eq_getElem (show k < 7 from hk7)⟩
      have c0 := (hbw.cell (p := ⟨G, k, none⟩) hGW).trans (Hcell.out k x hx)
      have HC := Lib.hid (HSame.out x (HLs.out k x hx))
      have HEr := Lib.hid (HEW.out.below hbw)
      have Hbr := Lib.hid hbw
      clear hx hbw
      go_wp2_with fail
      refine (HC.out wr HEr.out).1.mono ?_
      rintro _ v1 ⟨rfl, b1⟩
      have HE1 := Lib.hid (HEr.out.below b1)
      have Hb1 := Lib.hid (Hbr.out.trans (b1.mono Hbr.out.size))
      have c1 := (Hb1.out.cell (p := ⟨G, k, none⟩) hGW).trans ((Hbr.out.cell (p := ⟨G, k, none⟩) hGW).symm.trans c0)
      clear b1
      go_wp2_with fail
      refine (HC.out v1 HE1.out).2.1.mono ?_
      rintro _ v2 ⟨rfl, b2⟩
      have HE2 := Lib.hid (HE1.out.below b2)
      have Hb2 := Lib.hid (Hb1.out.trans (b2.mono Hb1.out.size))
      have c2 := (Hb2.out.cell (p := ⟨G, k, none⟩) hGW).trans ((Hb1.out.cell (p := ⟨G, k, none⟩) hGW).symm.trans c1)
      clear b2
      go_wp2_with fail
      refine (HC.out v2 HE2.out).2.2.mono ?_
      rintro _ v3 ⟨rfl, b3⟩
      have Hb3 := Lib.hid (Hb2.out.trans (b3.mono Hb2.out.size))
      clear b3
      go_wp2_with fail
      go_roundw
      case rel => exact ⟨k + 1, by omega, by go_num, Hb3.out⟩
      case measure => simp [RowKit.intOf]; omega
    · obtain rfl : k = 7 := by omega
      have HEr := Lib.hid (HEW.out.below hbw)
      have Hbr := Lib.hid (HbW.out.trans (hbw.mono HbW.out.size))
      clear hbw
      go_wp2_with fail
      refine (HSame.out s HAS.out wr HEr.out).1.mono ?_
      rintro _ v1 ⟨rfl, b1⟩
      have Hb1 := Lib.hid (Hbr.out.trans (b1.mono Hbr.out.size))
      clear b1
      go_wp2_with fail
      go_ret
      exact ⟨rfl, Hb1.out⟩
end Go.Proofs.YtjkakemlhhieoaaDoor
