/- FoldBytes, walked. (Made by tools/mkbytes5.py.) -/
import Derived.Test.YtjkakemlhhieoaaDoorWalkGF
import Derived.Test.YtjkakemlhhieoaaDoorLenF
import Derived.Test.YtjkakemlhhieoaaDoorBadL5
import Derived.BigQuiet
import Derived.Deep.QuietTactic
namespace Go.Proofs.YtjkakemlhhieoaaDoor
open Go.RowKit Go.Lib

theorem ba_ext {x y : ByteArray} (h : x.data.toList = y.data.toList) : x = y := by
  cases x; cases y
  congr 1
  exact Array.toList_inj.1 h
theorem ba_join (A B : List UInt8) : (ByteArray.mk (A ++ 255 :: B).toArray) = (⟨A.toArray⟩ : ByteArray) ++ ⟨#[255]⟩ ++ ⟨B.toArray⟩ := ba_ext (by simp)
theorem ff_list (a b : ByteArray) : (a ++ ⟨#[255]⟩ ++ b).data.toList = a.data.toList ++ 255 :: b.data.toList := by simp
theorem ba_len (l : List UInt8) : (ByteArray.mk l.toArray).size = l.length := by simp [ByteArray.size]
theorem madeS_lenB {f : Become} (hf : ∀ pre p t, (f pre p t).length ≤ 2) {l : List UInt8} (hl : l.length ≤ 1048576) : (madeS f l).length ≤ 8388608 := by
  have := madeS_len hf l
  omega

set_option maxRecDepth 100000 in
set_option maxHeartbeats 4000000 in
theorem bytes5_walk (s t : ByteArray) (w : World) (hs : s.size ≤ 1048576) (ht : t.size ≤ 1048576) (hE : Env5 w) :
    Calls Tryd.prog 7 #[.string s, .string t] w fun e w' => e = .returned (.bool true) ∧ Below w.heap.size w w' := by
  have hl : s.data.toList.length ≤ 1048576 := by rw [size_list]; exact hs
  have hm : t.data.toList.length ≤ 1048576 := by rw [size_list]; exact ht
  have hfs := fine_of (show s.data.toList.length ≤ 8388608 by omega)
  have hft := fine_of (show t.data.toList.length ≤ 8388608 by omega)
  obtain ⟨S, hS⟩ : ∃ S, s ++ ⟨#[255]⟩ ++ t = S := ⟨_, rfl⟩
  have hSl : S.data.toList = s.data.toList ++ 255 :: t.data.toList := by rw [← hS]; exact ff_list s t
  have hSs : S.size ≤ 2097153 := by rw [← size_list, hSl]; simp; omega
  have hfS := fine_of (show S.data.toList.length ≤ 8388608 by rw [size_list]; omega)
  have hBs := fun W => lawBad5_any s W (by omega)
  have h2s := fun W h => Lower_any s W (by omega) h
  have h2t := fun W h => Lower_any t W (by omega) h
  have h2S := fun W h => Lower_any S W (by omega) h
  rw [hSl, madeS_ff (low_parts kind5), ba_join] at h2S
  have g2 := fun W => lawBad5_any ⟨(madeS (lowF kind5) s.data.toList).toArray⟩ W (by rw [ba_len]; have := madeS_lenB (low_two kind5) hl; omega)
  rw [show (ByteArray.mk (madeS (lowF kind5) s.data.toList).toArray).data.toList = madeS (lowF kind5) s.data.toList from rfl, bad_madeS (low_fit kind5)] at g2
  have h3s := fun W h => Upper_any s W (by omega) h
  have h3t := fun W h => Upper_any t W (by omega) h
  have h3S := fun W h => Upper_any S W (by omega) h
  rw [hSl, madeS_ff up_parts, ba_join] at h3S
  have g3 := fun W => lawBad5_any ⟨(madeS upF s.data.toList).toArray⟩ W (by rw [ba_len]; have := madeS_lenB up_two hl; omega)
  rw [show (ByteArray.mk (madeS upF s.data.toList).toArray).data.toList = madeS upF s.data.toList from rfl, bad_madeS up_fit] at g3
  have h4s := fun W h => Title_any s W (by omega) h
  have h4t := fun W h => Title_any t W (by omega) h
  have h4S := fun W h => Title_any S W (by omega) h
  rw [hSl, madeS_ff (title_parts kind5), ba_join] at h4S
  have g4 := fun W => lawBad5_any ⟨(madeS (titleF kind5) s.data.toList).toArray⟩ W (by rw [ba_len]; have := madeS_lenB (title_two kind5) hl; omega)
  rw [show (ByteArray.mk (madeS (titleF kind5) s.data.toList).toArray).data.toList = madeS (titleF kind5) s.data.toList from rfl, bad_madeS (title_fit kind5)] at g4
  have h5s := fun W h => Swap_any s W (by omega) h
  have g5 := fun W => lawBad5_any ⟨(madeS swapF s.data.toList).toArray⟩ W (by rw [ba_len]; have := madeS_lenB swap_two hl; omega)
  rw [show (ByteArray.mk (madeS swapF s.data.toList).toArray).data.toList = madeS swapF s.data.toList from rfl, bad_madeS swap_fit] at g5
  have hFs := fun W h => Fold_any s W hfs h
  have hFt := fun W h => Fold_any t W hft h
  have hFS := fun W h => Fold_any S W hfS h
  rw [hSl, foldS_ff, ba_join] at hFS
  have gF := fun W => lawBad5_any ⟨(foldS s.data.toList).toArray⟩ W (by rw [ba_len]; have := foldS_len s.data.toList; omega)
  rw [show (ByteArray.mk (foldS s.data.toList).toArray).data.toList = foldS s.data.toList from rfl, bad_fold] at gF
  obtain ⟨xb, hxb⟩ : ∃ x, (ByteArray.mk (badB2 s.data.toList).toArray) = x := ⟨_, rfl⟩
  rw [hxb] at hBs g2 g3 g4 g5 gF
  obtain ⟨x2, hx2⟩ : ∃ x, (ByteArray.mk (madeS (lowF kind5) s.data.toList).toArray) = x := ⟨_, rfl⟩
  obtain ⟨y2, hy2⟩ : ∃ x, (ByteArray.mk (madeS (lowF kind5) t.data.toList).toArray) = x := ⟨_, rfl⟩
  have zx2 : x2.size ≤ 33554432 := by rw [← hx2, ba_len]; have := madeS_lenB (low_two kind5) hl; omega
  have zy2 : y2.size ≤ 33554432 := by rw [← hy2, ba_len]; have := madeS_lenB (low_two kind5) hm; omega
  rw [hx2] at h2s h2S g2
  rw [hy2] at h2t h2S
  obtain ⟨x3, hx3⟩ : ∃ x, (ByteArray.mk (madeS upF s.data.toList).toArray) = x := ⟨_, rfl⟩
  obtain ⟨y3, hy3⟩ : ∃ x, (ByteArray.mk (madeS upF t.data.toList).toArray) = x := ⟨_, rfl⟩
  have zx3 : x3.size ≤ 33554432 := by rw [← hx3, ba_len]; have := madeS_lenB up_two hl; omega
  have zy3 : y3.size ≤ 33554432 := by rw [← hy3, ba_len]; have := madeS_lenB up_two hm; omega
  rw [hx3] at h3s h3S g3
  rw [hy3] at h3t h3S
  obtain ⟨x4, hx4⟩ : ∃ x, (ByteArray.mk (madeS (titleF kind5) s.data.toList).toArray) = x := ⟨_, rfl⟩
  obtain ⟨y4, hy4⟩ : ∃ x, (ByteArray.mk (madeS (titleF kind5) t.data.toList).toArray) = x := ⟨_, rfl⟩
  have zx4 : x4.size ≤ 33554432 := by rw [← hx4, ba_len]; have := madeS_lenB (title_two kind5) hl; omega
  have zy4 : y4.size ≤ 33554432 := by rw [← hy4, ba_len]; have := madeS_lenB (title_two kind5) hm; omega
  rw [hx4] at h4s h4S g4
  rw [hy4] at h4t h4S
  obtain ⟨x5, hx5⟩ : ∃ x, (ByteArray.mk (madeS swapF s.data.toList).toArray) = x := ⟨_, rfl⟩
  rw [hx5] at h5s g5
  obtain ⟨xF, hxF⟩ : ∃ x, (ByteArray.mk (foldS s.data.toList).toArray) = x := ⟨_, rfl⟩
  obtain ⟨yF, hyF⟩ : ∃ x, (ByteArray.mk (foldS t.data.toList).toArray) = x := ⟨_, rfl⟩
  have zxF : xF.size ≤ 33554432 := by rw [← hxF, ba_len]; have := foldS_len s.data.toList; omega
  have zyF : yF.size ≤ 33554432 := by rw [← hyF, ba_len]; have := foldS_len t.data.toList; omega
  rw [hxF] at hFs hFS gF
  rw [hyF] at hFt hFS
  have HL : ∀ (k : Nat) (x : ByteArray), [x2, x3, x4, x5, xF][k]? = some x → ∀ W, Calls Tryd.prog 23 #[.string x] W fun e w' => e = .returned (.string xb) ∧ Below W.heap.size W w' := by
    intro k x hx
    have hm := List.mem_of_getElem? hx
    simp only [List.mem_cons, List.not_mem_nil, or_false] at hm
    rcases hm with rfl | rfl | rfl | rfl | rfl
    · exact g2
    · exact g3
    · exact g4
    · exact g5
    · exact gF
  have HLs := Lib.hid HL
  have HBs := Lib.hid hBs
  have H2s := Lib.hid h2s
  have H3s := Lib.hid h3s
  have H4s := Lib.hid h4s
  have H5s := Lib.hid h5s
  have HFs := Lib.hid hFs
  have H2t := Lib.hid h2t
  have H3t := Lib.hid h3t
  have H4t := Lib.hid h4t
  have HFt := Lib.hid hFt
  have H2S := Lib.hid h2S
  have H3S := Lib.hid h3S
  have H4S := Lib.hid h4S
  have HFS := Lib.hid hFS
  have HS := Lib.hid hS
  have HE := Lib.hid hE
  clear HL hBs h2s h3s h4s h5s hFs h2t h3t h4t hFt h2S h3S h4S hFS hS hE g2 g3 g4 g5 gF hxb hx2 hx3 hx4 hx5 hxF hy2 hy3 hy4 hyF hSl hSs hfS hfs hft hl hm
  go_enter Tryd.func7, Tryd.ntmps7
  go_wp2_with fail
  refine (works5_any w HE.out).mono ?_
  rintro _ w1 ⟨rfl, b0⟩
  have HE1 := Lib.hid (HE.out.below b0)
  have Hb1 := Lib.hid (b0)
  clear b0
  go_wp2_with fail
  refine (HBs.out w1).mono ?_
  rintro _ w2 ⟨rfl, b1⟩
  have HE2 := Lib.hid (HE1.out.below b1)
  have Hb2 := Lib.hid (Hb1.out.trans (b1.mono Hb1.out.size))
  clear b1
  go_wp2_with fail
  refine (H2s.out w2 HE2.out).mono ?_
  rintro _ w3 ⟨rfl, b2⟩
  have HE3 := Lib.hid (HE2.out.below b2)
  have Hb3 := Lib.hid (Hb2.out.trans (b2.mono Hb2.out.size))
  clear b2
  go_wp2_with fail
  refine (H3s.out w3 HE3.out).mono ?_
  rintro _ w4 ⟨rfl, b3⟩
  have HE4 := Lib.hid (HE3.out.below b3)
  have Hb4 := Lib.hid (Hb3.out.trans (b3.mono Hb3.out.size))
  clear b3
  go_wp2_with fail
  refine (H4s.out w4 HE4.out).mono ?_
  rintro _ w5 ⟨rfl, b4⟩
  have HE5 := Lib.hid (HE4.out.below b4)
  have Hb5 := Lib.hid (Hb4.out.trans (b4.mono Hb4.out.size))
  clear b4
  go_wp2_with fail
  refine (H5s.out w5 HE5.out).mono ?_
  rintro _ w6 ⟨rfl, b5⟩
  have HE6 := Lib.hid (HE5.out.below b5)
  have Hb6 := Lib.hid (Hb5.out.trans (b5.mono Hb5.out.size))
  clear b5
  go_wp2_with fail
  refine (HFs.out w6 HE6.out).mono ?_
  rintro _ w7 ⟨rfl, b6⟩
  have HE7 := Lib.hid (HE6.out.below b6)
  have Hb7 := Lib.hid (Hb6.out.trans (b6.mono Hb6.out.size))
  clear b6
  obtain ⟨W, hW⟩ : ∃ W, w7.alloc (.cells #[.string x2, .string x3, .string x4, .string x5, .string xF] 9) = W := ⟨_, rfl⟩
  obtain ⟨G, hG⟩ : ∃ G, w7.heap.size = G := ⟨_, rfl⟩
  have hWX : W.heap[G]? = some (.cells #[.string x2, .string x3, .string x4, .string x5, .string xF] 9 (0, 0)) := by rw [← hW, ← hG]; exact (MapKept.heap_alloc _ _).1
  have hWb : Below w7.heap.size w7 W := by rw [← hW]; exact (Below.refl _ w7).alloc (Nat.le_refl _) _
  have HEW := Lib.hid (HE7.out.below hWb)
  have HbW := Lib.hid (Hb7.out.trans (hWb.mono Hb7.out.size))
  have hGW : G < W.heap.size := (Array.getElem?_eq_some_iff.1 hWX).1
  have hcell : ∀ (k : Nat) (x : ByteArray), [x2, x3, x4, x5, xF][k]? = some x → W.cell? ⟨G, k, none⟩ = some (.string x) := by
    intro k x hx
    rw [Lib.cell_of_heap hWX]
    have hk : k < 5 := (List.getElem?_eq_some_iff.1 hx).1
    match k, hk, hx with
    | 0, _, hx => simp at hx; subst hx; rfl
    | 1, _, hx => simp at hx; subst hx; rfl
    | 2, _, hx => simp at hx; subst hx; rfl
    | 3, _, hx => simp at hx; subst hx; rfl
    | 4, _, hx => simp at hx; subst hx; rfl
  have HW := Lib.hid hW
  have HG := Lib.hid hG
  have Hcell := Lib.hid hcell
  clear hW hG hcell hWX hWb
  go_wp2_with fail
  rw [HW.out, HG.out]
  go_loopw [26] (fun i wr => ∃ k : Nat, k ≤ 5 ∧ i = .int .i64 (k : Int) ∧ Below W.heap.size W wr) (fun i _ => 5 - (RowKit.intOf i).toNat)
  case atStart => exact ⟨0, Nat.zero_le _, rfl, Below.refl _ _⟩
  case round =>
    obtain ⟨k, hk, rfl, hbw⟩ := hrel
    by_cases hk7 : k < 5
    · have hki : (k : Int) < 5 := by omega
      obtain ⟨x, hx⟩ : ∃ x, [x2, x3, x4, x5, xF][k]? = some x := ⟨_, List.getElem?_eq_getElem (show k < 5 from hk7)⟩
      have c0 := (hbw.cell (p := ⟨G, k, none⟩) hGW).trans (Hcell.out k x hx)
      have HC := Lib.hid (HLs.out k x hx)
      have Hbr := Lib.hid hbw
      clear hx hbw
      go_wp2_with fail
      refine (HC.out wr).mono ?_
      rintro _ v1 ⟨rfl, b1⟩
      have Hb1 := Lib.hid (Hbr.out.trans (b1.mono Hbr.out.size))
      clear b1
      go_wp2_with fail
      go_roundw
      case rel => exact ⟨k + 1, by omega, by go_num, Hb1.out⟩
      case measure => simp [RowKit.intOf]; omega
    · obtain rfl : k = 5 := by omega
      have HEv0 := Lib.hid (HEW.out.below hbw)
      have Hbv0 := Lib.hid (HbW.out.trans (hbw.mono HbW.out.size))
      clear hbw
      go_wp2_with fail
      rw [HS.out]
      refine (H2S.out wr HEv0.out).mono ?_
      rintro _ v1 ⟨rfl, b0⟩
      have HEv1 := Lib.hid (HEv0.out.below b0)
      have Hbv1 := Lib.hid (Hbv0.out.trans (b0.mono Hbv0.out.size))
      clear b0
      go_wp2_with fail
      refine (H2s.out v1 HEv1.out).mono ?_
      rintro _ v2 ⟨rfl, b1⟩
      have HEv2 := Lib.hid (HEv1.out.below b1)
      have Hbv2 := Lib.hid (Hbv1.out.trans (b1.mono Hbv1.out.size))
      clear b1
      go_wp2_with fail
      refine (H2t.out v2 HEv2.out).mono ?_
      rintro _ v3 ⟨rfl, b2⟩
      have HEv3 := Lib.hid (HEv2.out.below b2)
      have Hbv3 := Lib.hid (Hbv2.out.trans (b2.mono Hbv2.out.size))
      clear b2
      go_wp2_with fail
      refine (H3S.out v3 HEv3.out).mono ?_
      rintro _ v4 ⟨rfl, b3⟩
      have HEv4 := Lib.hid (HEv3.out.below b3)
      have Hbv4 := Lib.hid (Hbv3.out.trans (b3.mono Hbv3.out.size))
      clear b3
      go_wp2_with fail
      refine (H3s.out v4 HEv4.out).mono ?_
      rintro _ v5 ⟨rfl, b4⟩
      have HEv5 := Lib.hid (HEv4.out.below b4)
      have Hbv5 := Lib.hid (Hbv4.out.trans (b4.mono Hbv4.out.size))
      clear b4
      go_wp2_with fail
      refine (H3t.out v5 HEv5.out).mono ?_
      rintro _ v6 ⟨rfl, b5⟩
      have HEv6 := Lib.hid (HEv5.out.below b5)
      have Hbv6 := Lib.hid (Hbv5.out.trans (b5.mono Hbv5.out.size))
      clear b5
      go_wp2_with fail
      refine (H4S.out v6 HEv6.out).mono ?_
      rintro _ v7 ⟨rfl, b6⟩
      have HEv7 := Lib.hid (HEv6.out.below b6)
      have Hbv7 := Lib.hid (Hbv6.out.trans (b6.mono Hbv6.out.size))
      clear b6
      go_wp2_with fail
      refine (H4s.out v7 HEv7.out).mono ?_
      rintro _ v8 ⟨rfl, b7⟩
      have HEv8 := Lib.hid (HEv7.out.below b7)
      have Hbv8 := Lib.hid (Hbv7.out.trans (b7.mono Hbv7.out.size))
      clear b7
      go_wp2_with fail
      refine (H4t.out v8 HEv8.out).mono ?_
      rintro _ v9 ⟨rfl, b8⟩
      have HEv9 := Lib.hid (HEv8.out.below b8)
      have Hbv9 := Lib.hid (Hbv8.out.trans (b8.mono Hbv8.out.size))
      clear b8
      go_wp2_with fail
      refine (HFS.out v9 HEv9.out).mono ?_
      rintro _ v10 ⟨rfl, b9⟩
      have HEv10 := Lib.hid (HEv9.out.below b9)
      have Hbv10 := Lib.hid (Hbv9.out.trans (b9.mono Hbv9.out.size))
      clear b9
      go_wp2_with fail
      refine (HFs.out v10 HEv10.out).mono ?_
      rintro _ v11 ⟨rfl, b10⟩
      have HEv11 := Lib.hid (HEv10.out.below b10)
      have Hbv11 := Lib.hid (Hbv10.out.trans (b10.mono Hbv10.out.size))
      clear b10
      go_wp2_with fail
      refine (HFt.out v11 HEv11.out).mono ?_
      rintro _ v12 ⟨rfl, b11⟩
      have HEv12 := Lib.hid (HEv11.out.below b11)
      have Hbv12 := Lib.hid (Hbv11.out.trans (b11.mono Hbv11.out.size))
      clear b11
      go_wp2_with fail
      go_ret
      exact ⟨rfl, Hbv12.out⟩
end Go.Proofs.YtjkakemlhhieoaaDoor
