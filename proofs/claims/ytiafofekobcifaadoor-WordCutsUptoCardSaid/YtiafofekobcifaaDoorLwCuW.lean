/- Layer 12, the law WordCuts, over the program's contracts. (Made by tools/mkcuts12.py.) -/
import Derived.Test.YtiafofekobcifaaDoorHyW
import Derived.Test.YtiafofekobcifaaDoorRowG
import Derived.Test.YtiafofekobcifaaDoorAtW
import Derived.Deep.RegionHeld3
set_option linter.unusedSimpArgs false
set_option linter.unusedVariables false
namespace Go.Proofs.YtiafofekobcifaaDoor
open Go.RowKit Go.Lib

def OnC (Z : Nat) (w W : World) : Prop := Below Z w W ∧ Z ≤ W.heap.size
theorem OnC.on {Z : Nat} {w W W' : World} (h : OnC Z w W) (hb : Below W.heap.size W W') : OnC Z w W' := ⟨h.1.trans (hb.mono h.2), Nat.le_trans h.2 hb.size⟩
theorem OnC.drew {Z : Nat} {w W : World} (h : OnC Z w W) : OnC Z w W.drew := ⟨below_DW h.1, h.2⟩
theorem isF_at {q : Int} {e : Nat} : ∀ (L : List (Nat × ByteArray)) (n : Nat) (x : Nat × ByteArray), L[n]? = some x → (x.1 : Int) = q → isF q e L = true
  | [], n, x, h, _ => by cases h
  | y :: t, 0, x, h, hq => by
    obtain rfl := Option.some.inj h
    rw [isF, if_pos hq]
  | y :: t, n + 1, x, h, hq => by
    rw [isF]
    split
    · rfl
    · exact isF_at t n x h hq
theorem isF_end {q : Int} {e : Nat} (hq : q = (e : Int)) : ∀ (L : List (Nat × ByteArray)), isF q e L = true
  | [] => by rw [isF]; simp [hq]
  | y :: t => by
    rw [isF]
    split
    · rfl
    · exact isF_end hq t
theorem isB_word (s : ByteArray) (n : Nat) (x : Nat × ByteArray) (h : (wds s)[n]? = some x) : isB s (x.1 : Int) := by
  have hn := (List.getElem?_eq_some_iff.1 h).1
  obtain ⟨i, p, hw⟩ := wsplit s n (by omega)
  obtain ⟨k, hk, _, hp⟩ := hw.hb
  have h1 := hw.sm
  have h2 := (wds_chain s n x h).1
  exact ⟨k, hk, by rw [hp]; omega⟩
theorem wds_empty : wds ByteArray.empty = [] := by
  have h1 := wds_len ByteArray.empty
  have h2 : (pcs ByteArray.empty).length ≤ 0 := pcs_len ByteArray.empty
  exact List.eq_nil_of_length_eq_zero (by omega)
set_option maxRecDepth 100000 in
set_option maxHeartbeats 16000000 in
theorem wordCuts_any (H : WordP) (s : ByteArray) (which : Int) (w : World) (hw1 : -9223372036854775808 ≤ which) (hw2 : which ≤ 9223372036854775807) (hs : s.size ≤ 1073741824) (hT : Utf8Tabs 0 1 w) :
    Calls Tryd.prog 5 #[.string s, .int .i64 which] w fun e w' => e = .returned (.bool true) ∧ Below w.heap.size w w' := by
  have hpl := wds_len1 s hs
  have Hal := Lib.hid (fun w hT => alive12_any H w hT)
  have Hpa := Lib.hid (fun s' (h : s'.size ≤ 1073741824) w hT => pieces12_any H s' w h hT)
  have His := Lib.hid (fun q w hT => H.is_ s q w hs hT)
  have Hci := Lib.hid (fun q (h : isB s q) w hT => is_same s q true (by simp [h]) w hs hT)
  have Hch := Lib.hid (show ∀ (i : Nat) (x : Nat × ByteArray), (wds s)[i]? = some x → x.1 = sumB ((wds s).take i) ∧ 0 < x.2.size ∧ x.1 + x.2.size ≤ s.size from fun i x h => ⟨(wds_chain s i x h).1, (wds_chain s i x h).2.1, (wds_chain s i x h).2.2.1⟩)
  have Hib := Lib.hid (fun i x h => isB_word s i x h)
  have Hiw := Lib.hid (show ∀ (i : Nat) (x : Nat × ByteArray), (wds s)[i]? = some x → isW s (x.1 : Int) = true from fun i x h => isF_at _ i x h rfl)
  have Hie := Lib.hid (show isW s (s.size : Int) = true from isF_end rfl _)
  have Hsum := Lib.hid (wds_sum s)
  have Hcut := Lib.hid (show ∀ (n : Nat) (x : Nat × ByteArray), (wds s)[n]? = some x → wds (s.extract 0 x.1) = (wds s).take n ∧ (wds (s.extract x.1 s.size)).map (fun y => (y.1 + x.1, y.2)) = (wds s).drop n from fun n x h => by
    have hn := (List.getElem?_eq_some_iff.1 h).1
    obtain ⟨i, p, hw⟩ := wsplit s n (by omega)
    have : p = x.1 := by rw [hw.sm]; exact (wds_chain s n x h).1.symm
    subst this
    exact ⟨wcut_ahead s n i _ hw, wcut_behind s n i _ hw⟩)
  obtain ⟨N, hN⟩ : ∃ N, (wds s).length = N := ⟨_, rfl⟩
  obtain ⟨L, hL⟩ : ∃ L, wds s = L := ⟨_, rfl⟩
  have hLN : L.length = N := by rw [← hL, hN]
  rw [hN] at hpl
  have HL := Lib.hid hL
  rw [hL] at Hch Hib Hiw Hsum Hcut
  have HLN := Lib.hid hLN
  have P0 := Lib.hid (Hpa.out s hs w hT)
  rw [HL.out, HLN.out] at P0
  obtain ⟨B, hB⟩ : ∃ B, w.heap.size = B := ⟨_, rfl⟩
  have HB := Lib.hid hB
  have HT := Lib.hid hT
  rw [hB]
  clear hT hL hLN hN hB
  go_enter Tryd.func5, Tryd.ntmps5
  go_wp2_with fail
  refine P0.out.mono ?_
  rintro _ wz ⟨A, c, rfl, hown, b3⟩
  have hsh := own_shape hown
  have hnc : N ≤ c := by obtain ⟨_, _, h1, h2, _⟩ := hsh; cases h1; exact h2
  have hAn : A = none → N = 0 ∧ c = 0 := fun e => by
    subst e
    rcases hown.2 with ⟨h1, h2⟩ | ⟨g, cap, cur, h1, _⟩
    · cases h1
      exact ⟨rfl, rfl⟩
    · cases h1
  obtain ⟨Z, hZ⟩ : ∃ Z, wz.heap.size = Z := ⟨_, rfl⟩
  have HW := Lib.hid (show ∀ W, OnC Z wz W → RdP W Z A L ∧ Utf8Tabs 0 1 W ∧ Below B w W from fun W h => by
    have h0 : RdP wz Z A L := by have := Rd.own hown; rw [← HLN.out, hZ] at this; exact this
    have hbz : Below B w wz := by rw [← HB.out]; exact b3
    have hb := hbz.trans (h.1.mono (by have := b3.size; have := HB.out; omega))
    exact ⟨h0.below h.1, Utf8Tabs_below HT.out (by rw [HB.out]; exact hb), hb⟩)
  have HO0 := Lib.hid (show OnC Z wz wz from ⟨Below.refl _ _, by omega⟩)
  clear hown hsh b3 P0 hZ
  go_wp2_with fail
  go_loopw [6, 7] (fun x i wr => ∃ (k : Nat) (W : World), W = wr ∧ k ≤ N ∧ i = .int .i64 k ∧ x = .int .i64 (sumB (L.take k) : Nat) ∧ Hid (OnC Z wz W)) (fun _ i _ => N - (RowKit.intOf i).toNat)
  case atStart => exact ⟨0, _, rfl, Nat.zero_le _, rfl, rfl, HO0⟩
  case round =>
    clear HO0
    obtain ⟨k, W, hW, hk, rfl, rfl, HO⟩ := hrel
    subst hW
    by_cases hkn : k < N
    · obtain ⟨x, hxe⟩ : ∃ x, L[k]? = some x := ⟨_, List.getElem?_eq_getElem (by rw [HLN.out]; exact hkn)⟩
      obtain ⟨a, rfl, hab, ha1, ha2⟩ := (HW.out W HO.out).1.at_ hxe
      obtain ⟨e1, e2, e3⟩ := Hch.out k x hxe
      have hsn : sumB (L.take (k + 1)) = sumB (L.take k) + x.2.size := by rw [take_snoc L k x hxe, sumB_snoc]
      rw [← e1] at hsn ⊢
      rw [add_next] at ha2
      have Hsn := Lib.hid hsn
      have hw : IntKind.i64.wrap ((x.1 : Int) + (x.2.size : Int)) = ((x.1 + x.2.size : Nat) : Int) := by rw [IntWalk.i64_in _ (by omega)]; omega
      have hnext : IntKind.i64.wrap ((k : Int) + 1) = (k : Int) + 1 := IntWalk.i64_in _ (by omega)
      have hkk : (k : Int) < (N : Int) := by omega
      have hb2' : ((x.1 : Int) != (x.1 : Int)) = false := by simp
      have hb3' : (x.1 != x.1) = false := by simp
      have hem : x.2.toList.isEmpty = false := empty_no x.2 e2
      have hem2 : (x.2.toList == []) = false := by
        cases h : x.2.toList with
        | nil => rw [h] at hem; cases hem
        | cons b t => rfl
      have Fci := Lib.hid (Hci.out (x.1 : Int) (Hib.out k x hxe))
      have Fis := His.out (x.1 : Int)
      rw [Hiw.out k x hxe] at Fis
      have Fis := Lib.hid Fis
      have Hg2 := Lib.hid (show ∀ W', OnC Z wz W' → W'.cell? ⟨(a.add (k * 2)).block, (a.add (k * 2)).off + 1, none⟩ = some (.string x.2) from fun W' h => by
        obtain ⟨a', e, _, _, h2⟩ := (HW.out W' h).1.at_ hxe
        obtain rfl := Option.some.inj e
        rwa [add_next] at h2)
      clear hxe e1 e2 hsn
      by_cases h4 : s.size < 400
      · have h4i : (s.size : Int) < 400 := by omega
        go_wp2_with fail
        refine (Fci.out _ (HW.out _ HO.out).2.1).mono ?_
        rintro _ w4 ⟨rfl, b4⟩
        have O4 := Lib.hid (HO.out.on b4)
        clear b4
        go_wp2_with fail
        refine (Fis.out _ (HW.out _ O4.out).2.1).mono ?_
        rintro _ w5 ⟨rfl, b5⟩
        have O5 := Lib.hid (O4.out.on b5)
        have ha3 := Hg2.out _ O5.out
        clear b5 O4 ha1 ha2
        go_wp2_with fail
        go_roundw
        case rel => exact ⟨k + 1, _, rfl, by omega, by first | rfl | go_num, by first | (rw [Hsn.out]; rfl) | (rw [Hsn.out]; congr 1; omega), O5⟩
        case measure => simp [RowKit.intOf]; omega
      · have h4i : ¬ (s.size : Int) < 400 := by omega
        go_wp2_with fail
        go_roundw
        case rel => exact ⟨k + 1, _, rfl, by omega, by first | rfl | go_num, by first | (rw [Hsn.out]; rfl) | (rw [Hsn.out]; congr 1; omega), HO⟩
        case measure => simp [RowKit.intOf]; omega
    · have hkN : k = N := by omega
      have hkL : L.take k = L := List.take_of_length_le (by rw [HLN.out]; omega)
      subst hkN
      rw [hkL, Hsum.out]
      clear hkL
      have hkk : ¬ (k : Int) < (k : Int) := by omega
      have hss : ((s.size : Int) != (s.size : Int)) = false := by simp
      have hss2 : (s.size != s.size) = false := by simp
      have Fal := Lib.hid (Hal.out _ (HW.out _ HO.out).2.1)
      go_wp2_with fail
      refine Fal.out.mono ?_
      rintro _ w6 ⟨rfl, b6⟩
      have O := Lib.hid (HO.out.on b6)
      clear b6 HO Fal
      -- the number of the border
      have h1 := Int.tmod_lt_of_pos which (show (0 : Int) < (k : Int) + 1 by omega)
      have h2 : -((k : Int) + 1) < which.tmod ((k : Int) + 1) := Int.lt_tmod_of_pos which (show (0 : Int) < (k : Int) + 1 by omega)
      have hwk : IntKind.i64.wrap ((k : Int) + 1) = (k : Int) + 1 := IntWalk.i64_in _ (by omega)
      have hk0 : ((k : Int) + 1) ≠ 0 := by omega
      obtain ⟨r, hr⟩ : ∃ r, which.tmod ((k : Int) + 1) = r := ⟨_, rfl⟩
      rw [hr] at h1 h2
      obtain ⟨n, hn⟩ : ∃ n : Nat, (if r < 0 then r + k + 1 else r) = (n : Int) := by
        by_cases hr : r < 0
        · rw [if_pos hr]
          exact ⟨(r + k + 1).toNat, by omega⟩
        · rw [if_neg hr]
          exact ⟨r.toNat, by omega⟩
      have hnk : n ≤ k := by
        by_cases hr : r < 0
        · rw [if_pos hr] at hn
          omega
        · rw [if_neg hr] at hn
          omega
      by_cases hnk' : n < k
      · obtain ⟨x, hx⟩ : ∃ x, L[n]? = some x := ⟨_, List.getElem?_eq_getElem (by rw [HLN.out]; exact hnk')⟩
        have Hat := Lib.hid (show ∃ a, A = some a ∧ ∀ W', OnC Z wz W' → W'.cell? (a.add (n * 2)) = some (.int .i64 (x.1 : Int)) from by
          obtain ⟨a, e, _, _, _⟩ := (HW.out _ O.out).1.at_ hx
          refine ⟨a, e, fun W' h => ?_⟩
          obtain ⟨a', e', _, h1, _⟩ := (HW.out W' h).1.at_ hx
          rw [e] at e'
          obtain rfl := Option.some.inj e'
          exact h1)
        obtain ⟨a, rfl, hcell⟩ := Hat.out
        have ha1 := hcell _ O.out
        have hcx := Hch.out n x hx
        obtain ⟨c1, c2⟩ := Hcut.out n x hx
        obtain ⟨P, hP⟩ : ∃ P, x.1 = P := ⟨_, rfl⟩
        have Fis := His.out (x.1 : Int)
        rw [Hiw.out n x hx] at Fis
        rw [hP] at ha1 hcx c1 c2 Fis
        have Fis := Lib.hid Fis
        have hPs : P ≤ s.size := by omega
        have hPsi : (P : Int) ≤ (s.size : Int) := by omega
        have hP0 : (0 : Int) ≤ (P : Int) := by omega
        have hlt : (L.take n).length = n := by rw [List.length_take, HLN.out]; omega
        have hld : (L.drop n).length = k - n := by rw [List.length_drop, HLN.out]
        have hnki : (n : Int) < (k : Int) := by omega
        have hnc2 : n ≤ c := by omega
        have hnci : (n : Int) ≤ (c : Int) := by omega
        have F1 := Lib.hid (fun W hT => Hpa.out (s.extract 0 P) (by simp; omega) W hT)
        rw [c1, hlt] at F1
        have hml : (wds (s.extract P s.size)).length = k - n := by
          have := congrArg List.length c2
          rw [List.length_map, hld] at this
          exact this
        have hds : ∀ (i : Nat) (u v : Nat × ByteArray), (L.drop n)[i]? = some u → (wds (s.extract P s.size))[i]? = some v → u.2 = v.2 ∧ u.1 = v.1 + P := fun i u v hu hv => by
          rw [← c2, List.getElem?_map, hv] at hu
          obtain rfl := Option.some.inj hu
          exact ⟨rfl, rfl⟩
        have F2 := Lib.hid (fun W hT => Hpa.out (s.extract P s.size) (by simp; omega) W hT)
        rw [hml] at F2
        obtain ⟨M, hM⟩ : ∃ M, wds (s.extract P s.size) = M := ⟨_, rfl⟩
        rw [hM] at F2 hds hml
        have G1 := Lib.hid (fun (W : World) (X : Nat) (A8 : Option Addr) (c8 : Nat) (h : OnC Z wz W) (h8 : RdP W X A8 (L.take n)) => by
          have := same12_true W Z X (some a) A8 c c8 (L.take n) (L.take n) 0 ((HW.out W h).1.take n) h8 rfl (by rw [hlt]; omega) (fun i u v hu hv => by
            rw [hu] at hv
            obtain rfl := Option.some.inj hv
            have := Hch.out i u (take_get hu)
            exact ⟨rfl, rfl, by omega⟩)
          rw [hlt] at this
          exact this)
        have G2 := Lib.hid (fun (W : World) (X : Nat) (A8 : Option Addr) (c8 : Nat) (h : OnC Z wz W) (h8 : RdP W X A8 M) => by
          have := same12_true W Z X (some (a.add (n * 2))) A8 (c - n) c8 (L.drop n) M P ((HW.out W h).1.drop n (by rw [HLN.out]; exact hnk)) h8 (by rw [hld, hml]) (by rw [hld]; omega) (fun i u v hu hv => by
            obtain ⟨g1, g2⟩ := hds i u v hu hv
            rw [List.getElem?_drop] at hu
            have := Hch.out _ u hu
            exact ⟨g1, g2, by omega⟩)
          rw [hld, hml] at this
          exact this)
        have Hlen := Lib.hid (show (L.take n).length = n ∧ M.length = k - n from ⟨hlt, hml⟩)
        have hcn : ¬ c = n := by omega
        clear hx hP hcx c1 c2 hlt hld hml hds hM Hat hcell hPs
        rcases Int.lt_or_le r 0 with hr0 | hr0
        · rw [if_pos hr0] at hn
          have hwr1 : IntKind.i64.wrap (r + (k : Int)) = r + k := IntWalk.i64_in _ (by omega)
          have hwr2 : IntKind.i64.wrap (r + (k : Int) + 1) = (n : Int) := by rw [hn]; exact IntWalk.i64_in _ (by omega)
          clear hn h1 h2
          go_wp2_with fail
          have O := Lib.hid O.out.drew
          go_region_held3 (fun _ => True) (trivial)
            (first
              | (go_simp; go_at_call 13; with_reducible_and_instances refine (Fis.out _ (HW.out _ O.out).2.1).mono ?_; rintro e7 w7 ⟨rfl, b7⟩; have O := Lib.hid (O.out.on b7); clear b7)
              | (go_simp; go_at_call 19; with_reducible_and_instances refine (F1.out _ (HW.out _ O.out).2.1).mono ?_; rintro e8 w8 ⟨A8, c8, rfl, o8, b8⟩; have O := Lib.hid (O.out.on b8); have R8 := Lib.hid (show RdP w8 w8.heap.size A8 (L.take n) from by unfold RdP; rw [Hlen.out.1]; exact Rd.own o8); clear o8 b8)
              | (go_simp; go_at_call 21; with_reducible_and_instances refine (G1.out _ _ A8 c8 O.out R8.out).mono ?_; rintro e9 w9 ⟨rfl, b9⟩; have O := Lib.hid (O.out.on b9); clear b9)
              | (go_simp; go_at_call 19; with_reducible_and_instances refine (F2.out _ (HW.out _ O.out).2.1).mono ?_; rintro e10 w10 ⟨A10, c10, rfl, o10, b10⟩; have O := Lib.hid (O.out.on b10); have R10 := Lib.hid (show RdP w10 w10.heap.size A10 M from by unfold RdP; rw [Hlen.out.2]; exact Rd.own o10); clear o10 b10)
              | (go_simp; go_at_call 21; with_reducible_and_instances refine (G2.out _ _ A10 c10 O.out R10.out).mono ?_; rintro e11 w11 ⟨rfl, b11⟩; have O := Lib.hid (O.out.on b11); clear b11)
              | fail "no call of these")
          go_wp2_with fail
          go_ret
          exact ⟨rfl, (HW.out _ O.out).2.2⟩
        · rw [if_neg (by omega)] at hn
          subst hn
          clear h1 h2
          go_wp2_with fail
          have O := Lib.hid O.out.drew
          go_region_held3 (fun _ => True) (trivial)
            (first
              | (go_simp; go_at_call 13; with_reducible_and_instances refine (Fis.out _ (HW.out _ O.out).2.1).mono ?_; rintro e7 w7 ⟨rfl, b7⟩; have O := Lib.hid (O.out.on b7); clear b7)
              | (go_simp; go_at_call 19; with_reducible_and_instances refine (F1.out _ (HW.out _ O.out).2.1).mono ?_; rintro e8 w8 ⟨A8, c8, rfl, o8, b8⟩; have O := Lib.hid (O.out.on b8); have R8 := Lib.hid (show RdP w8 w8.heap.size A8 (L.take n) from by unfold RdP; rw [Hlen.out.1]; exact Rd.own o8); clear o8 b8)
              | (go_simp; go_at_call 21; with_reducible_and_instances refine (G1.out _ _ A8 c8 O.out R8.out).mono ?_; rintro e9 w9 ⟨rfl, b9⟩; have O := Lib.hid (O.out.on b9); clear b9)
              | (go_simp; go_at_call 19; with_reducible_and_instances refine (F2.out _ (HW.out _ O.out).2.1).mono ?_; rintro e10 w10 ⟨A10, c10, rfl, o10, b10⟩; have O := Lib.hid (O.out.on b10); have R10 := Lib.hid (show RdP w10 w10.heap.size A10 M from by unfold RdP; rw [Hlen.out.2]; exact Rd.own o10); clear o10 b10)
              | (go_simp; go_at_call 21; with_reducible_and_instances refine (G2.out _ _ A10 c10 O.out R10.out).mono ?_; rintro e11 w11 ⟨rfl, b11⟩; have O := Lib.hid (O.out.on b11); clear b11)
              | fail "no call of these")
          go_wp2_with fail
          go_ret
          exact ⟨rfl, (HW.out _ O.out).2.2⟩
      · have hnkN : n = k := by omega
        subst hnkN
        have hnki : ¬ (n : Int) < (n : Int) := by omega
        have Fis := His.out (s.size : Int)
        rw [Hie.out] at Fis
        have Fis := Lib.hid Fis
        have F1 := Lib.hid (fun W hT => Hpa.out s hs W hT)
        rw [HL.out, HLN.out] at F1
        have F2 := Lib.hid (fun W hT => Hpa.out ByteArray.empty (by simp) W hT)
        rw [wds_empty, List.length_nil] at F2
        have G1 := Lib.hid (fun (W : World) (X : Nat) (A8 : Option Addr) (c8 : Nat) (h : OnC Z wz W) (h8 : RdP W X A8 L) => by
          have := same12_true W Z X A A8 c c8 L L 0 (HW.out W h).1 h8 rfl (by rw [HLN.out]; omega) (fun i u v hu hv => by
            rw [hu] at hv
            obtain rfl := Option.some.inj hv
            have := Hch.out i u hu
            exact ⟨rfl, rfl, by omega⟩)
          rw [HLN.out] at this
          exact this)
        have G2 := Lib.hid (fun (B' : Option Addr) (d : Nat) (A10 : Option Addr) (c10 : Nat) (w : World) => same12_true w 0 0 B' A10 d c10 [] [] s.size (RdP.nil _ _ _) (RdP.nil _ _ _) rfl (by simp) (fun i x y hx _ => by simp at hx))
        have hnci : (n : Int) ≤ (c : Int) := by omega
        rcases Int.lt_or_le r 0 with hr0 | hr0
        · rw [if_pos hr0] at hn
          have hwr1 : IntKind.i64.wrap (r + (n : Int)) = r + n := IntWalk.i64_in _ (by omega)
          have hwr2 : IntKind.i64.wrap (r + (n : Int) + 1) = (n : Int) := by rw [hn]; exact IntWalk.i64_in _ (by omega)
          clear hn h1 h2
          rcases A with _ | a
          · obtain ⟨rfl, rfl⟩ := hAn rfl
            go_wp2_with fail
            have O := Lib.hid O.out.drew
            go_region_held3 (fun _ => True) (trivial)
              (first
                | (go_simp; go_at_call 13; with_reducible_and_instances refine (Fis.out _ (HW.out _ O.out).2.1).mono ?_; rintro e7 w7 ⟨rfl, b7⟩; have O := Lib.hid (O.out.on b7); clear b7)
                | (go_simp; go_at_call 19; with_reducible_and_instances refine (F1.out _ (HW.out _ O.out).2.1).mono ?_; rintro e8 w8 ⟨A8, c8, rfl, o8, b8⟩; have O := Lib.hid (O.out.on b8); have R8 := Lib.hid (show RdP w8 w8.heap.size A8 L from by unfold RdP; rw [HLN.out]; exact Rd.own o8); clear o8 b8)
                | (go_simp; go_at_call 21; with_reducible_and_instances refine (G1.out _ _ A8 c8 O.out R8.out).mono ?_; rintro e9 w9 ⟨rfl, b9⟩; have O := Lib.hid (O.out.on b9); clear b9)
                | (go_simp; go_at_call 19; with_reducible_and_instances refine (F2.out _ (HW.out _ O.out).2.1).mono ?_; rintro e10 w10 ⟨A10, c10, rfl, o10, b10⟩; have O := Lib.hid (O.out.on b10); clear o10 b10)
                | (go_simp; go_at_call 21; with_reducible_and_instances refine (G2.out _ _ A10 c10 _).mono ?_; rintro e11 w11 ⟨rfl, b11⟩; have O := Lib.hid (O.out.on b11); clear b11)
                | fail "no call of these")
            go_wp2_with fail
            go_ret
            exact ⟨rfl, (HW.out _ O.out).2.2⟩
          · rcases Classical.em (c = n) with hcn | hcn
            · subst hcn
              go_wp2_with fail
              have O := Lib.hid O.out.drew
              go_region_held3 (fun _ => True) (trivial)
                (first
                  | (go_simp; go_at_call 13; with_reducible_and_instances refine (Fis.out _ (HW.out _ O.out).2.1).mono ?_; rintro e7 w7 ⟨rfl, b7⟩; have O := Lib.hid (O.out.on b7); clear b7)
                  | (go_simp; go_at_call 19; with_reducible_and_instances refine (F1.out _ (HW.out _ O.out).2.1).mono ?_; rintro e8 w8 ⟨A8, c8, rfl, o8, b8⟩; have O := Lib.hid (O.out.on b8); have R8 := Lib.hid (show RdP w8 w8.heap.size A8 L from by unfold RdP; rw [HLN.out]; exact Rd.own o8); clear o8 b8)
                  | (go_simp; go_at_call 21; with_reducible_and_instances refine (G1.out _ _ A8 c8 O.out R8.out).mono ?_; rintro e9 w9 ⟨rfl, b9⟩; have O := Lib.hid (O.out.on b9); clear b9)
                  | (go_simp; go_at_call 19; with_reducible_and_instances refine (F2.out _ (HW.out _ O.out).2.1).mono ?_; rintro e10 w10 ⟨A10, c10, rfl, o10, b10⟩; have O := Lib.hid (O.out.on b10); clear o10 b10)
                  | (go_simp; go_at_call 21; with_reducible_and_instances refine (G2.out _ _ A10 c10 _).mono ?_; rintro e11 w11 ⟨rfl, b11⟩; have O := Lib.hid (O.out.on b11); clear b11)
                  | fail "no call of these")
              go_wp2_with fail
              go_ret
              exact ⟨rfl, (HW.out _ O.out).2.2⟩
            · go_wp2_with fail
              have O := Lib.hid O.out.drew
              go_region_held3 (fun _ => True) (trivial)
                (first
                  | (go_simp; go_at_call 13; with_reducible_and_instances refine (Fis.out _ (HW.out _ O.out).2.1).mono ?_; rintro e7 w7 ⟨rfl, b7⟩; have O := Lib.hid (O.out.on b7); clear b7)
                  | (go_simp; go_at_call 19; with_reducible_and_instances refine (F1.out _ (HW.out _ O.out).2.1).mono ?_; rintro e8 w8 ⟨A8, c8, rfl, o8, b8⟩; have O := Lib.hid (O.out.on b8); have R8 := Lib.hid (show RdP w8 w8.heap.size A8 L from by unfold RdP; rw [HLN.out]; exact Rd.own o8); clear o8 b8)
                  | (go_simp; go_at_call 21; with_reducible_and_instances refine (G1.out _ _ A8 c8 O.out R8.out).mono ?_; rintro e9 w9 ⟨rfl, b9⟩; have O := Lib.hid (O.out.on b9); clear b9)
                  | (go_simp; go_at_call 19; with_reducible_and_instances refine (F2.out _ (HW.out _ O.out).2.1).mono ?_; rintro e10 w10 ⟨A10, c10, rfl, o10, b10⟩; have O := Lib.hid (O.out.on b10); clear o10 b10)
                  | (go_simp; go_at_call 21; with_reducible_and_instances refine (G2.out _ _ A10 c10 _).mono ?_; rintro e11 w11 ⟨rfl, b11⟩; have O := Lib.hid (O.out.on b11); clear b11)
                  | fail "no call of these")
              go_wp2_with fail
              go_ret
              exact ⟨rfl, (HW.out _ O.out).2.2⟩
        · rw [if_neg (by omega)] at hn
          subst hn
          clear h1 h2
          rcases A with _ | a
          · obtain ⟨rfl, rfl⟩ := hAn rfl
            go_wp2_with fail
            have O := Lib.hid O.out.drew
            go_region_held3 (fun _ => True) (trivial)
              (first
                | (go_simp; go_at_call 13; with_reducible_and_instances refine (Fis.out _ (HW.out _ O.out).2.1).mono ?_; rintro e7 w7 ⟨rfl, b7⟩; have O := Lib.hid (O.out.on b7); clear b7)
                | (go_simp; go_at_call 19; with_reducible_and_instances refine (F1.out _ (HW.out _ O.out).2.1).mono ?_; rintro e8 w8 ⟨A8, c8, rfl, o8, b8⟩; have O := Lib.hid (O.out.on b8); have R8 := Lib.hid (show RdP w8 w8.heap.size A8 L from by unfold RdP; rw [HLN.out]; exact Rd.own o8); clear o8 b8)
                | (go_simp; go_at_call 21; with_reducible_and_instances refine (G1.out _ _ A8 c8 O.out R8.out).mono ?_; rintro e9 w9 ⟨rfl, b9⟩; have O := Lib.hid (O.out.on b9); clear b9)
                | (go_simp; go_at_call 19; with_reducible_and_instances refine (F2.out _ (HW.out _ O.out).2.1).mono ?_; rintro e10 w10 ⟨A10, c10, rfl, o10, b10⟩; have O := Lib.hid (O.out.on b10); clear o10 b10)
                | (go_simp; go_at_call 21; with_reducible_and_instances refine (G2.out _ _ A10 c10 _).mono ?_; rintro e11 w11 ⟨rfl, b11⟩; have O := Lib.hid (O.out.on b11); clear b11)
                | fail "no call of these")
            go_wp2_with fail
            go_ret
            exact ⟨rfl, (HW.out _ O.out).2.2⟩
          · rcases Classical.em (c = n) with hcn | hcn
            · subst hcn
              go_wp2_with fail
              have O := Lib.hid O.out.drew
              go_region_held3 (fun _ => True) (trivial)
                (first
                  | (go_simp; go_at_call 13; with_reducible_and_instances refine (Fis.out _ (HW.out _ O.out).2.1).mono ?_; rintro e7 w7 ⟨rfl, b7⟩; have O := Lib.hid (O.out.on b7); clear b7)
                  | (go_simp; go_at_call 19; with_reducible_and_instances refine (F1.out _ (HW.out _ O.out).2.1).mono ?_; rintro e8 w8 ⟨A8, c8, rfl, o8, b8⟩; have O := Lib.hid (O.out.on b8); have R8 := Lib.hid (show RdP w8 w8.heap.size A8 L from by unfold RdP; rw [HLN.out]; exact Rd.own o8); clear o8 b8)
                  | (go_simp; go_at_call 21; with_reducible_and_instances refine (G1.out _ _ A8 c8 O.out R8.out).mono ?_; rintro e9 w9 ⟨rfl, b9⟩; have O := Lib.hid (O.out.on b9); clear b9)
                  | (go_simp; go_at_call 19; with_reducible_and_instances refine (F2.out _ (HW.out _ O.out).2.1).mono ?_; rintro e10 w10 ⟨A10, c10, rfl, o10, b10⟩; have O := Lib.hid (O.out.on b10); clear o10 b10)
                  | (go_simp; go_at_call 21; with_reducible_and_instances refine (G2.out _ _ A10 c10 _).mono ?_; rintro e11 w11 ⟨rfl, b11⟩; have O := Lib.hid (O.out.on b11); clear b11)
                  | fail "no call of these")
              go_wp2_with fail
              go_ret
              exact ⟨rfl, (HW.out _ O.out).2.2⟩
            · go_wp2_with fail
              have O := Lib.hid O.out.drew
              go_region_held3 (fun _ => True) (trivial)
                (first
                  | (go_simp; go_at_call 13; with_reducible_and_instances refine (Fis.out _ (HW.out _ O.out).2.1).mono ?_; rintro e7 w7 ⟨rfl, b7⟩; have O := Lib.hid (O.out.on b7); clear b7)
                  | (go_simp; go_at_call 19; with_reducible_and_instances refine (F1.out _ (HW.out _ O.out).2.1).mono ?_; rintro e8 w8 ⟨A8, c8, rfl, o8, b8⟩; have O := Lib.hid (O.out.on b8); have R8 := Lib.hid (show RdP w8 w8.heap.size A8 L from by unfold RdP; rw [HLN.out]; exact Rd.own o8); clear o8 b8)
                  | (go_simp; go_at_call 21; with_reducible_and_instances refine (G1.out _ _ A8 c8 O.out R8.out).mono ?_; rintro e9 w9 ⟨rfl, b9⟩; have O := Lib.hid (O.out.on b9); clear b9)
                  | (go_simp; go_at_call 19; with_reducible_and_instances refine (F2.out _ (HW.out _ O.out).2.1).mono ?_; rintro e10 w10 ⟨A10, c10, rfl, o10, b10⟩; have O := Lib.hid (O.out.on b10); clear o10 b10)
                  | (go_simp; go_at_call 21; with_reducible_and_instances refine (G2.out _ _ A10 c10 _).mono ?_; rintro e11 w11 ⟨rfl, b11⟩; have O := Lib.hid (O.out.on b11); clear b11)
                  | fail "no call of these")
              go_wp2_with fail
              go_ret
              exact ⟨rfl, (HW.out _ O.out).2.2⟩
end Go.Proofs.YtiafofekobcifaaDoor
