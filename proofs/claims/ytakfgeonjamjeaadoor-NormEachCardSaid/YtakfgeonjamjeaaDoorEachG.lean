/- NormEach (pure): a character by itself, taken apart; syllables there and back. -/
import Derived.Test.YtakfgeonjamjeaaDoorROrdW
import Derived.Test.YtakfgeonjamjeaaDoorNormG
import Derived.Test.YtakfgeonjamjeaaDoorRefPG
import Derived.Test.YtakfgeonjamjeaaDoorWakes4
namespace Go.Proofs.YtakfgeonjamjeaaDoor
open Go.RowKit Go.Lib

theorem items_one {c : Int} (h : Scal c) : items (Lib.encodeRune c) = [(c, markZ c, 0)] := by
  have e : Lib.encodeRune c = textP [(c, markZ c, 0)] := by simp [textP, pieceB]
  rw [e]
  exact items_textP _ (.cons (.inl ⟨rfl, h, rfl⟩) .nil)
theorem apartP_one {c : Int} (h : Scal c) : apartP (Lib.encodeRune c) = numPs (ordZ markZ (splitZ c)) := by
  unfold apartP
  rw [rawP_items, items_one h]
  have e : [((c, markZ c, 0) : Pc)].flatMap splitP = numPs (splitZ c) := by
    simp [splitP, numPs]
  rw [e]
  exact ord_numPs _
theorem textP_nums : ∀ ys : List Int, (∀ y ∈ ys, Scal y) → textP (numPs ys) = (runesBytes ys).data.toList
  | [], _ => rfl
  | y :: t, h => by
    have ih := textP_nums t (fun z hz => h z (List.mem_cons_of_mem _ hz))
    have e1 : (runesBytes (y :: t)).data.toList = encAll (y :: t) := rfl
    have e2 : (runesBytes t).data.toList = encAll t := rfl
    have e3 : enc y = Lib.encodeRune y := by
      have h1 := enc_scal (h y (List.mem_cons_self ..))
      have h2 : (runesBytes [y]).data.toList = encAll [y] := rfl
      rw [h2, encAll_cons, encAll_nil, List.append_nil] at h1
      exact h1
    rw [e1, encAll_cons, ← e2, ← ih, e3]
    simp [textP, numPs, pieceB]
theorem ordZ_memI {xs : List Int} {y : Int} (h : y ∈ ordZ markZ xs) : y ∈ xs := by
  rcases ordR_mem markZ xs [] y h with h | h
  · cases h
  · exact h
theorem apartS_one {c : Int} (h : Scal c) : apartS (Lib.encodeRune c) = (runesBytes (ordZ markZ (splitZ c))).data.toList := by
  unfold apartS
  rw [apartP_one h]
  exact textP_nums _ (fun y hy => splitF_scal 3 c h y (ordZ_memI hy))
theorem apartS_len4 (l : List UInt8) : (apartS l).length ≤ 16 * l.length := by
  unfold apartS
  have h1 := textP_le (apartP l)
  have h2 := apartP_len l
  omega
theorem bytes_back (b : ByteArray) : (⟨b.data.toList.toArray⟩ : ByteArray) = b := by simp
/-- what a syllable is taken apart into, put together again -/
def syllOk (c : Int) : Bool := match splitZ c with
  | [a, b] => pairZ a b == c && markZ a == 0 && markZ b == 0
  | [a, b, d] => pairZ (pairZ a b) d == c && pairZ a b != 0 && markZ a == 0 && markZ b == 0 && markZ d == 0
  | _ => false
theorem ord_zeros : ∀ xs : List Int, (∀ x ∈ xs, markZ x = 0) → ordZ markZ xs = xs
  | [], _ => by unfold ordZ; rw [ordR_nil, bucket_none]
  | x :: t, h => by
    have ih := ord_zeros t (fun y hy => h y (List.mem_cons_of_mem _ hy))
    unfold ordZ at ih ⊢
    rw [ordR_zero markZ t [] (h x (List.mem_cons_self ..)), bucket_none, List.nil_append, ih]
theorem add_first (p : Pc) (h : p.2.1 = 0) : addZ [] none p = ([p], some 0) := by
  unfold addZ
  rw [if_neg (fun e => by cases e.1), if_pos h]
  rfl
theorem add_both (p q : Pc) (h : pairZ p.1 q.1 ≠ 0) : addZ [p] (some 0) q = ([(pairZ p.1 q.1, p.2)], some 0) := by
  unfold addZ
  have h1 : reachZ [p] (some 0) q = true := by simp [reachZ]
  have h2 : bothZ [p] (some 0) q = pairZ p.1 q.1 := rfl
  rw [if_pos ⟨h1, by rw [h2]; exact h⟩, h2]
  rfl
theorem tog_syll (c : Int) (hs : Scal c) (hc : c ≠ 0) (ho : syllOk c = true) : togS (Lib.encodeRune c) = Lib.encodeRune c ∧ 2 ≤ (segs (apartS (Lib.encodeRune c))).length := by
  have hap := apartP_one hs
  have ha := apartS_one hs
  unfold syllOk at ho
  unfold togS
  rw [hap, ha]
  split at ho
  · rename_i a b e
    simp only [Bool.and_eq_true, beq_iff_eq] at ho
    obtain ⟨⟨h1, h2⟩, h3⟩ := ho
    rw [e, ord_zeros [a, b] (fun x hx => by simp at hx; rcases hx with rfl | rfl <;> assumption)]
    refine ⟨?_, ?_⟩
    · have e1 : togF (numPs [a, b]) = ([(c, (a, markZ a, 0).2)], some 0) := by
        show addZ (addZ [] none (a, markZ a, 0)).1 (addZ [] none (a, markZ a, 0)).2 (b, markZ b, 0) = _
        rw [add_first _ h2]
        show addZ [(a, markZ a, 0)] (some 0) (b, markZ b, 0) = _
        rw [add_both _ _ (by show pairZ a b ≠ 0; rw [h1]; exact hc)]
        show ([(pairZ a b, _)], some 0) = _
        rw [h1]
      rw [e1]
      simp [textP, pieceB]
    · show 2 ≤ (segs (encAll [a, b])).length
      rw [segs_encAll]
      simp
  · rename_i a b d e
    simp only [Bool.and_eq_true, beq_iff_eq, bne_iff_ne, ne_eq] at ho
    obtain ⟨⟨⟨⟨h1, h0⟩, h2⟩, h3⟩, h4⟩ := ho
    rw [e, ord_zeros [a, b, d] (fun x hx => by simp at hx; rcases hx with rfl | rfl | rfl <;> assumption)]
    refine ⟨?_, ?_⟩
    · have e1 : togF (numPs [a, b, d]) = ([(c, (a, markZ a, 0).2)], some 0) := by
        show addZ (addZ (addZ [] none (a, markZ a, 0)).1 (addZ [] none (a, markZ a, 0)).2 (b, markZ b, 0)).1 (addZ (addZ [] none (a, markZ a, 0)).1 (addZ [] none (a, markZ a, 0)).2 (b, markZ b, 0)).2 (d, markZ d, 0) = _
        rw [add_first _ h2]
        show addZ (addZ [(a, markZ a, 0)] (some 0) (b, markZ b, 0)).1 (addZ [(a, markZ a, 0)] (some 0) (b, markZ b, 0)).2 (d, markZ d, 0) = _
        rw [add_both _ _ h0]
        show addZ [(pairZ a b, _)] (some 0) (d, markZ d, 0) = _
        rw [add_both _ _ (by show pairZ (pairZ a b) d ≠ 0; rw [h1]; exact hc)]
        show ([(pairZ (pairZ a b) d, _)], some 0) = _
        rw [h1]
      rw [e1]
      simp [textP, pieceB]
    · show 2 ≤ (segs (encAll [a, b, d])).length
      rw [segs_encAll]
      simp
  · cases ho
/-- every 27th syllable -/
theorem each_syll : ((List.range 414).all fun i => syllOk (44032 + 27 * (i : Int))) = true := by decide +kernel
end Go.Proofs.YtakfgeonjamjeaaDoor

/- NormEach, walked. -/
namespace Go.Proofs.YtakfgeonjamjeaaDoor
open Go.RowKit Go.Lib

theorem refCount_any (s : ByteArray) (w : World) (hs : s.size ≤ 1073741824) : Calls Tryd.prog 27 #[.string s] w fun e w' => e = .returned (.int .i64 (segs s.data.toList).length) ∧ Below w.heap.size w w' := by
  have HA := Lib.hid (all_any s w hs)
  unfold AllAt at HA
  obtain ⟨n, hn⟩ : ∃ n, (segs s.data.toList).length = n := ⟨_, rfl⟩
  rw [hn] at HA ⊢
  clear hn
  go_enter Tryd.func27, Tryd.ntmps27
  go_wp2_with fail
  refine HA.out.mono ?_
  rintro _ w1 ⟨v, rfl, own, b⟩
  obtain ⟨A, c, rfl, _, _⟩ := own_shape own
  have Hb := Lib.hid b
  clear own b
  go_wp2_with fail
  go_ret
  exact ⟨rfl, Hb.out⟩
theorem textOf_any (c : Int) (w : World) : Calls Tryd.prog 26 #[.slice (some ⟨w.heap.size, 0, none⟩) 1 1] (w.alloc (.cells (runes [c]).toArray 21)) fun e w' => e = .returned (.string (runesBytes [c])) ∧ Below w.heap.size w w' := by
  refine (refText_any (w.alloc (.cells (runes [c]).toArray 21)) (some ⟨w.heap.size, 0, none⟩) 1 1 [c] (Rd.own (new_own5 w [c] (by simp))) (by decide)).mono ?_
  rintro e w' ⟨rfl, b⟩
  exact ⟨rfl, ((Below.refl _ w).alloc (Nat.le_refl _) _).trans (b.mono (by simp))⟩
theorem one_size (c : Int) (h : Scal c) : (runesBytes [c]).size ≤ 4 := by
  rw [← size_list, enc_scal h]
  have h1 := Lib.runeCells_le c
  rw [← Lib.byteCells_encodeRune] at h1
  have h2 : (Lib.encodeRune c).length ≤ 4 := by rw [← Lib.byteCells_length]; exact h1.2
  exact h2

set_option maxRecDepth 100000 in
set_option maxHeartbeats 4000000 in
theorem each_walk (w : World) (hT : Utf8Tabs 0 1 w) : Calls Tryd.prog 7 #[] w fun e w' => e = .returned (.bool true) ∧ Below w.heap.size w w' := by
  obtain ⟨B, hB⟩ : ∃ B, w.heap.size = B := ⟨_, rfl⟩
  have HT := Lib.hid (fun (W : World) (h : Below B w W) => (Utf8Tabs_below hT (by rw [hB]; exact h) : Utf8Tabs 0 1 W))
  have HB := Lib.hid hB
  have Hb0 := Lib.hid (Below.refl B w)
  rw [hB]
  clear hT hB
  go_enter Tryd.func7, Tryd.ntmps7
  go_wp2_with fail
  go_loopw [1, 2, 3, 4] (fun c _ _ _ wr => ∃ (k : Nat) (W : World), W = wr ∧ c = .int .i32 (160 + (k : Int)) ∧ k ≤ 12384 ∧ Hid (Below B w W)) (fun c _ _ _ _ => 12544 - (RowKit.intOf c).toNat)
  case atStart => exact ⟨0, _, rfl, rfl, by omega, Hb0⟩
  case round =>
    obtain ⟨k, W, hW, rfl, hk, HbW⟩ := hrel
    subst hW
    have SW : B ≤ W.heap.size := by have := HbW.out.size; have := HB.out; omega
    obtain ⟨c, hc⟩ : ∃ c : Int, 160 + (k : Int) = c := ⟨_, rfl⟩
    rw [hc]
    by_cases hkn : k < 12384
    · have hci : c < 12544 := by omega
      have hsc : Scal c := .inl ⟨by omega, by omega⟩
      have wc : IntKind.i32.wrap (c + 1) = c + 1 := IntWalk.i32_in _ (by omega)
      have hone := apartS_one hsc
      have hsz := one_size c hsc
      have hes := enc_scal hsc
      have HS1 := Lib.hid (fun w => rsplit_any c (by omega) w)
      have HS2 := Lib.hid (fun w => SplitN_any c w)
      have HTx := Lib.hid (fun w => textOf_any c w)
      have hzl := splitF_len 3 c
      change (splitZ c).length ≤ 4 at hzl
      have hyl : (ordZ markZ (splitZ c)).length = (splitZ c).length := by
        unfold ordZ
        rw [ordR_len markZ _ [] (fun _ h => by cases h) (fun x _ => markZ_lt x)]
        simp
      unfold SplitAt at HS1
      obtain ⟨sb, hsb⟩ : ∃ sb, runesBytes [c] = sb := ⟨_, rfl⟩
      rw [hsb] at hsz hes
      simp only [hsb] at HTx
      rw [← hes] at hone
      have HAp := Lib.hid (fun w hT => by have h := Apart_any sb w (by omega) hT; rw [hone, bytes_back] at h; exact h)
      obtain ⟨zs, hzs⟩ : ∃ zs, splitZ c = zs := ⟨_, rfl⟩
      simp only [hzs] at HS1 HS2 HAp
      rw [hzs] at hzl hyl
      obtain ⟨n, hn⟩ : ∃ n, zs.length = n := ⟨_, rfl⟩
      rw [hn] at hzl hyl
      simp only [hn] at HS1 HS2
      have HOr := Lib.hid (fun A c w h => rOrder_any zs A n c w h (by omega))
      obtain ⟨ys, hys⟩ : ∃ ys, ordZ markZ zs = ys := ⟨_, rfl⟩
      simp only [hys] at HOr HAp
      rw [hys] at hyl
      have HTy := Lib.hid (fun w A n' c' h h2 => refText_any w A n' c' ys h h2)
      obtain ⟨yb, hyb⟩ : ∃ yb, runesBytes ys = yb := ⟨_, rfl⟩
      simp only [hyb] at HTy HAp
      have hnm : n ≤ maxLen := by unfold maxLen; omega
      clear hone hsz hes hsb hzs hn hys hyb hyl hsc
      go_wp2_with fail
      refine (HS1.out _).mono ?_
      rintro _ w1 ⟨v1, rfl, own1, b1⟩
      obtain ⟨A1, c1, rfl, _, _⟩ := own_shape own1
      have H1 := Lib.hid (HbW.out.trans (b1.mono SW))
      have R1 := Lib.hid (Rd.own own1)
      have S1 := b1.size
      clear own1 b1
      go_wp2_with fail
      refine (HS2.out _).mono ?_
      rintro _ w2 ⟨v2, rfl, own2, b2⟩
      obtain ⟨A2, c2, rfl, _, _⟩ := own_shape own2
      have H2 := Lib.hid (H1.out.trans (b2.mono (by omega)))
      have R1 := Lib.hid ((R1.out.below b2).more b2.size)
      have R2 := Lib.hid (Rd.own own2)
      have S2 := b2.size
      clear own2 b2
      have HQ := Lib.hid (by have h := sameRunes_any w2 _ _ A2 A1 n n c2 c1 zs zs R2.out R1.out hnm; rw [decide_eq_true (rfl : zs = zs)] at h; exact h)
      go_wp2_with fail
      refine HQ.out.mono ?_
      rintro _ w3 ⟨rfl, b3⟩
      have H3 := Lib.hid (H2.out.trans (b3.mono (by omega)))
      have R1 := Lib.hid ((R1.out.below b3).more b3.size)
      have S3 := b3.size
      clear b3 HQ R2
      go_wp2_with fail
      refine (HTx.out w3).mono ?_
      rintro _ w4 ⟨rfl, b4⟩
      have H4 := Lib.hid (H3.out.trans (b4.mono (by omega)))
      have R1 := Lib.hid ((R1.out.below b4).more b4.size)
      have S4 := b4.size
      clear b4
      go_wp2_with fail
      refine (HAp.out w4 (HT.out _ H4.out)).mono ?_
      rintro _ w5 ⟨rfl, b5⟩
      have H5 := Lib.hid (H4.out.trans (b5.mono (by omega)))
      have R1 := Lib.hid ((R1.out.below b5).more b5.size)
      have S5 := b5.size
      clear b5
      go_wp2_with fail
      refine (HOr.out A1 c1 w5 R1.out).mono ?_
      rintro _ w6 ⟨v6, rfl, own6, b6⟩
      obtain ⟨A6, c6, rfl, _, _⟩ := own_shape own6
      have H6 := Lib.hid (H5.out.trans (b6.mono (by omega)))
      have HY := Lib.hid (HTy.out w6 A6 n c6 (Rd.own own6) (by omega))
      have S6 := b6.size
      clear own6 b6
      go_wp2_with fail
      refine HY.out.mono ?_
      rintro _ w7 ⟨rfl, b7⟩
      have H7 := Lib.hid (H6.out.trans (b7.mono (by omega)))
      clear b7 HY
      go_wp2_with fail
      go_roundw
      case rel =>
        have e : c + 1 = 160 + ((k + 1 : Nat) : Int) := by omega
        exact ⟨k + 1, _, rfl, by rw [e], by omega, H7⟩
      case measure => simp [RowKit.intOf]; omega
    · obtain rfl : k = 12384 := by omega
      obtain rfl : c = 12544 := by omega
      clear hc hk
      go_wp2_with fail
      go_loopw [5, 6] (fun c _ wr => ∃ (k : Nat) (W : World), W = wr ∧ c = .int .i32 (44032 + 27 * (k : Int)) ∧ k ≤ 414 ∧ Hid (Below B w W)) (fun c _ _ => 55300 - (RowKit.intOf c).toNat)
      case atStart => exact ⟨0, _, rfl, rfl, by omega, HbW⟩
      case round =>
        obtain ⟨k, V, hV, rfl, hk, HbV⟩ := hrel
        subst hV
        have SV : B ≤ V.heap.size := by have := HbV.out.size; have := HB.out; omega
        by_cases hkn : k < 414
        · have hck := List.all_eq_true.1 each_syll k (List.mem_range.2 hkn)
          obtain ⟨c, hc⟩ : ∃ c : Int, 44032 + 27 * (k : Int) = c := ⟨_, rfl⟩
          rw [hc] at hck ⊢
          have hci : c ≤ 55203 := by omega
          have hsc : Scal c := .inl ⟨by omega, by omega⟩
          obtain ⟨q1, q2⟩ := tog_syll c hsc (by omega) hck
          rw [← togS_apart] at q1
          have wc : IntKind.i32.wrap (c + 27) = c + 27 := IntWalk.i32_in _ (by omega)
          have hsz := one_size c hsc
          have hes := enc_scal hsc
          have hlen := apartS_len4 (Lib.encodeRune c)
          have HTx := Lib.hid (fun w => textOf_any c w)
          obtain ⟨sb, hsb⟩ : ∃ sb, runesBytes [c] = sb := ⟨_, rfl⟩
          rw [hsb] at hsz hes
          simp only [hsb] at HTx
          rw [← hes] at q1 q2 hlen
          rw [size_list] at hlen
          have HAp := Lib.hid (fun w hT => Apart_any sb w (by omega) hT)
          obtain ⟨al, hal⟩ : ∃ al, apartS sb.data.toList = al := ⟨_, rfl⟩
          rw [hal] at q1 q2 hlen
          try simp only [hal] at HAp
          have sA : (ByteArray.mk al.toArray).size ≤ 64 := by rw [← size_list]; simp; omega
          have HTo := Lib.hid (fun w hT => by have h := Together_any ⟨al.toArray⟩ w (by omega) hT; rw [show (ByteArray.mk al.toArray).data.toList = al from rfl, q1, bytes_back] at h; exact h)
          have HCo := Lib.hid (fun w => by have h := refCount_any ⟨al.toArray⟩ w (by omega); rw [show (ByteArray.mk al.toArray).data.toList = al from rfl] at h; exact h)
          obtain ⟨m, hm⟩ : ∃ m, (segs al).length = m := ⟨_, rfl⟩
          rw [hm] at q2
          simp only [hm] at HCo
          obtain ⟨ab, hab⟩ : ∃ ab : ByteArray, ⟨al.toArray⟩ = ab := ⟨_, rfl⟩
          simp only [hab] at HAp HTo HCo
          have hm2 : ¬ (m : Int) < 2 := by omega
          clear hck q1 q2 hes hsz hsb hal hm hab sA hlen hsc
          go_wp2_with fail
          refine (HTx.out V).mono ?_
          rintro _ w4 ⟨rfl, b4⟩
          have H4 := Lib.hid (HbV.out.trans (b4.mono SV))
          have S4 := b4.size
          clear b4
          go_wp2_with fail
          refine (HAp.out w4 (HT.out _ H4.out)).mono ?_
          rintro _ w5 ⟨rfl, b5⟩
          have H5 := Lib.hid (H4.out.trans (b5.mono (by omega)))
          have S5 := b5.size
          clear b5
          go_wp2_with fail
          refine (HTo.out w5 (HT.out _ H5.out)).mono ?_
          rintro _ w6 ⟨rfl, b6⟩
          have H6 := Lib.hid (H5.out.trans (b6.mono (by omega)))
          have S6 := b6.size
          clear b6
          go_wp2_with fail
          refine (HAp.out w6 (HT.out _ H6.out)).mono ?_
          rintro _ w7 ⟨rfl, b7⟩
          have H7 := Lib.hid (H6.out.trans (b7.mono (by omega)))
          have S7 := b7.size
          clear b7
          go_wp2_with fail
          refine (HCo.out w7).mono ?_
          rintro _ w8 ⟨rfl, b8⟩
          have H8 := Lib.hid (H7.out.trans (b8.mono (by omega)))
          clear b8
          go_wp2_with fail
          go_roundw
          case rel =>
            have e : c + 27 = 44032 + 27 * ((k + 1 : Nat) : Int) := by omega
            exact ⟨k + 1, _, rfl, by rw [e], by omega, H8⟩
          case measure => simp [RowKit.intOf]; omega
        · obtain rfl : k = 414 := by omega
          go_wp2_with fail
          refine (wakes4_any _ (HT.out _ HbV.out)).mono ?_
          rintro _ wz ⟨rfl, bz⟩
          have Hbz := Lib.hid (HbV.out.trans (bz.mono SV))
          clear bz
          go_wp2_with fail
          go_ret
          exact ⟨rfl, Hbz.out⟩
end Go.Proofs.YtakfgeonjamjeaaDoor
