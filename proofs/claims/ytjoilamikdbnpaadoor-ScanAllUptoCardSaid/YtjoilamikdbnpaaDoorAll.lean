/- ScanAll, walked: counted, its bad bytes, its numbers; asked twice, written over. -/
import Derived.Test.YtjoilamikdbnpaaDoorAllP
import Derived.Test.YtjoilamikdbnpaaDoorPartsA
import Derived.Test.YtjoilamikdbnpaaDoorRefG
import Derived.Test.YtjoilamikdbnpaaDoorSame
import Derived.Test.YtjoilamikdbnpaaDoorScanC
namespace Go.Proofs.YtjoilamikdbnpaaDoor
open Go.RowKit Go.Lib

theorem ints_yes (w : World) (X Y : Nat) (A B : Option Addr) (n c d : Nat) (xs : List Int) (hx : Rd w X 1 A n (xs.map (Value.int .i64))) (hy : Rd w Y 1 B n (xs.map (Value.int .i64))) (hn : n ≤ maxLen) :
    Calls Tryd.prog 25 #[.slice A n c, .slice B n d] w fun e w' => e = .returned (.bool true) ∧ Below w.heap.size w w' := by
  have := sameInts_any w X Y A B n n c d xs xs hx hy hn
  rw [show decide (xs = xs) = true by simp] at this
  exact this
theorem nums_yes (w : World) (X Y : Nat) (A B : Option Addr) (n c d : Nat) (xs : List Int) (hx : Rd w X 1 A n (xs.map (Value.int .i32))) (hy : Rd w Y 1 B n (xs.map (Value.int .i32))) (hn : n ≤ maxLen) :
    Calls Tryd.prog 26 #[.slice A n c, .slice B n d] w fun e w' => e = .returned (.bool true) ∧ Below w.heap.size w w' := by
  have := sameRunes_any w X Y A B n n c d xs xs hx hy hn
  rw [show decide (xs = xs) = true by simp] at this
  exact this
theorem ints_of (s : ByteArray) (f : FuncId) (m : Nat) (xb : List Int) (hx : ((badsOf s.data.toList).map fun (p : Nat) => (p : Int)) = xb) (hm : xb.length = m) (w : World)
    (h : Calls Tryd.prog f #[.string s] w fun e w' => ∃ v, e = .returned v ∧ w'.ownsRow w.heap.size 3 1 v (badsOf s.data.toList).length (posCells (badsOf s.data.toList)) ∧ Below w.heap.size w w') :
    Calls Tryd.prog f #[.string s] w fun e w' => ∃ A c, e = .returned (.slice A m c) ∧ w'.ownsRow w.heap.size 3 1 (.slice A m c) m (xb.map (Value.int .i64)) ∧ Below w.heap.size w w' := by
  have e1 : posCells (badsOf s.data.toList) = xb.map (Value.int .i64) := by rw [← hx]; simp [posCells]
  have e2 : (badsOf s.data.toList).length = m := by rw [← hm, ← hx]; simp
  rw [e1, e2] at h
  refine h.mono ?_
  rintro e w' ⟨v, rfl, ho, hb⟩
  obtain ⟨A, c, rfl, _, _⟩ := own_shape ho
  exact ⟨A, c, rfl, ho, hb⟩
theorem nums_of (s : ByteArray) (f : FuncId) (m : Nat) (xr : List Int) (hx : zsOf s.data.toList = xr) (hm : xr.length = m) (w : World)
    (h : Calls Tryd.prog f #[.string s] w fun e w' => ∃ v, e = .returned v ∧ w'.ownsRow w.heap.size 21 1 v (runesOf s.data.toList).length (runeCells' (runesOf s.data.toList)) ∧ Below w.heap.size w w') :
    Calls Tryd.prog f #[.string s] w fun e w' => ∃ A c, e = .returned (.slice A m c) ∧ w'.ownsRow w.heap.size 21 1 (.slice A m c) m (xr.map (Value.int .i32)) ∧ Below w.heap.size w w' := by
  have e1 : runeCells' (runesOf s.data.toList) = xr.map (Value.int .i32) := by rw [← hx, zsOf_cells]
  have e2 : (runesOf s.data.toList).length = m := by rw [← hm, ← hx]; simp [zsOf]
  rw [e1, e2] at h
  refine h.mono ?_
  rintro e w' ⟨v, rfl, ho, hb⟩
  obtain ⟨A, c, rfl, _, _⟩ := own_shape ho
  exact ⟨A, c, rfl, ho, hb⟩

set_option maxRecDepth 100000 in
set_option maxHeartbeats 4000000 in
theorem all_walk (s : ByteArray) (w : World) (hs : s.size ≤ 1073741824) (hT : U8 w) :
    Calls Tryd.prog 4 #[.string s] w fun e w' => e = .returned (.bool true) ∧ Below w.heap.size w w' := by
  obtain ⟨i0, hi, hz0, hz1, hz2⟩ := info_parts rune_info
  obtain ⟨i1, gi, gz0, gz1, gz2⟩ := info_parts int_info
  obtain ⟨T, hTe⟩ : ∃ T, cleanL s.data.toList = T := ⟨_, rfl⟩
  obtain ⟨xr, hxr⟩ : ∃ zs, zsOf s.data.toList = zs := ⟨_, rfl⟩
  obtain ⟨xb, hxb⟩ : ∃ zs, ((badsOf s.data.toList).map fun (p : Nat) => (p : Int)) = zs := ⟨_, rfl⟩
  obtain ⟨n, hn⟩ : ∃ n, xr.length = n := ⟨_, rfl⟩
  obtain ⟨m, hm⟩ : ∃ m, xb.length = m := ⟨_, rfl⟩
  obtain ⟨ok, hok⟩ : ∃ b, okSegs s.data.toList = b := ⟨_, rfl⟩
  have hsn : (segs s.data.toList).length = n := by rw [← hn, ← hxr, zsOf_len]
  have hns : n ≤ 1073741824 := by have := segs_len s.data.toList; rw [size_list] at this; omega
  have hbm : (badsOf s.data.toList).length = m := by rw [← hm, ← hxb]; simp
  have hmn : m ≤ 1073741824 := by have := badPos_len (segs s.data.toList) 0; unfold badsOf at hbm; omega
  have hm0 : ((m : Int) == 0) = ok := by
    rw [← hok, ← bads_ok, hbm]
    by_cases h : m = 0 <;> simp [h]
  have hoo : (ok == ok) = true := by simp
  have Kb := Lib.hid fun W => ints_of s _ m xb hxb hm W (refBad_any s W hs)
  have Kr := Lib.hid fun W => nums_of s _ n xr hxr hn W (refRunes_any s W hs)
  have Kb2 := Lib.hid fun W => ints_of s _ m xb hxb hm W (bad_any s W hs)
  have Kr2 := Lib.hid fun W => nums_of s _ n xr hxr hn W (runes_any s W (by rw [runesOf_len]; omega))
  have Kv := Lib.hid fun W => valid_eq s ok hok (by omega) W
  have Kn := Lib.hid fun W => count_eq s n hsn (by omega) W
  have Kc := Lib.hid fun W => clean_eq s T hTe (by omega) W
  have Kc2 : Hid (∀ W : World, Calls Tryd.prog 30 #[.string s] W fun e w' => e = .returned (.string T) ∧ Below W.heap.size W w') := by rw [← hTe]; exact fun W => refClean_any s W hs
  have Hmx : Hid (n ≤ maxLen) := by unfold Hid maxLen; omega
  have Hmy : Hid (m ≤ maxLen) := by unfold Hid maxLen; omega
  have hnn : ((n : Int) == n) = true := by simp
  have HT := Lib.hid hT
  clear hT hTe hxr hxb hn hm hok hsn hbm hs
  go_enter Tryd.func4, Tryd.ntmps4
  go_wp2_with fail
  refine (Kb.out _).mono ?_
  rintro e w1 ⟨A1, c1, rfl, o1, b1⟩
  have O1 := Lib.hid o1
  have B1 := Lib.hid b1
  clear o1 b1
  go_wp2_with fail
  refine (Kr.out _).mono ?_
  rintro e w2 ⟨A2, c2, rfl, o2, b2⟩
  have O2 := Lib.hid o2
  have B2 := Lib.hid b2
  clear o2 b2
  go_wp2_with fail
  refine (Kb2.out _).mono ?_
  rintro e w3 ⟨A3, c3, rfl, o3, b3⟩
  have O3 := Lib.hid o3
  have B3 := Lib.hid b3
  clear o3 b3
  go_wp2_with fail
  refine (Kb2.out _).mono ?_
  rintro e w4 ⟨A4, c4, rfl, o4, b4⟩
  have O4 := Lib.hid o4
  have B4 := Lib.hid b4
  clear o4 b4
  go_wp2_with fail
  refine (Kr2.out _).mono ?_
  rintro e w5 ⟨A5, c5, rfl, o5, b5⟩
  have O5 := Lib.hid o5
  have B5 := Lib.hid b5
  clear o5 b5
  go_wp2_with fail
  refine (Kr2.out _).mono ?_
  rintro e w6 ⟨A6, c6, rfl, o6, b6⟩
  have S := Lib.hid (six_start O1.out B1.out O2.out B2.out O3.out B3.out O4.out B4.out O5.out B5.out o6 b6)
  have B46 := B5.out.trans (b6.mono B5.out.size)
  have B36 := B4.out.trans (B46.mono B4.out.size)
  have HA := Lib.hid (Rd.own (own_below O3.out B36))
  have HC := Lib.hid (Rd.own (own_below O5.out b6))
  clear O1 B1 O2 B2 O3 B3 O4 B4 O5 B5 o6 b6 Kb Kr Kb2 Kr2 B46 B36
  go_wp2_with fail
  refine (ints_yes w6 _ _ _ _ m _ _ xb HA.out (Rd.own S.out.four.b1) Hmy.out).mono ?_
  rintro e w7 ⟨rfl, b7⟩
  have S7 := Lib.hid (S.out.quiet (grown_of_below b7))
  have HC7 := Lib.hid ((HC.out.below b7).more b7.size)
  clear S HA HC b7
  go_wp2_with fail
  refine (ints_yes w7 _ _ _ _ m _ _ xb (Rd.own S7.out.four.b2) (Rd.own S7.out.four.b1) Hmy.out).mono ?_
  rintro e w8 ⟨rfl, b8⟩
  have S8 := Lib.hid (S7.out.quiet (grown_of_below b8))
  have HC8 := Lib.hid ((HC7.out.below b8).more b8.size)
  clear S7 HC7 b8
  go_wp2_with fail
  refine (nums_yes w8 _ _ _ _ n _ _ xr HC8.out (Rd.own S8.out.four.r1) Hmx.out).mono ?_
  rintro e w9 ⟨rfl, b9⟩
  have S9 := Lib.hid (S8.out.quiet (grown_of_below b9))
  clear S8 HC8 b9
  go_wp2_with fail
  refine (nums_yes w9 _ _ _ _ n _ _ xr (Rd.own S9.out.four.r2) (Rd.own S9.out.four.r1) Hmx.out).mono ?_
  rintro e w10 ⟨rfl, b10⟩
  have S10 := Lib.hid (S9.out.quiet (grown_of_below b10))
  clear S9 b10
  go_wp2_with fail
  go_loopw [9] (fun i wr => ∃ k : Nat, k ≤ m ∧ i = .int .i64 k ∧ Six w 3 21 (.slice A1 m c1) (.slice A4 m c4) (.slice A2 n c2) (.slice A6 n c6) m n (xb.map (Value.int .i64)) (xr.map (Value.int .i32)) (.slice A3 m c3) m (.slice A5 n c5) n wr) (fun i _ => m - (RowKit.intOf i).toNat)
  case atStart => exact ⟨0, Nat.zero_le _, rfl, S10.out⟩
  case round =>
    rename_i i wr
    obtain ⟨k, hk, rfl, hS⟩ := hrel
    by_cases hkm : k < m
    · obtain ⟨g, rfl, hfz, hce, hst⟩ := hS.putA (by omega)
      obtain ⟨x, hx⟩ := hce k hkm
      have hf := hfz k
      have hs1 := hst k (.int .i64 (-1))
      have Hs1 := Lib.hid hs1
      clear hfz hce hst hs1 hS
      go_wp2_with fail
      exact ⟨⟨k + 1, by omega, by go_num, Hs1.out⟩, by simp [RowKit.intOf]; omega⟩
    · have HS := Lib.hid hS
      clear hS S10
      go_wp2_with fail
      go_loopw [10] (fun i wq => ∃ k : Nat, k ≤ n ∧ i = .int .i64 k ∧ Six w 3 21 (.slice A1 m c1) (.slice A4 m c4) (.slice A2 n c2) (.slice A6 n c6) m n (xb.map (Value.int .i64)) (xr.map (Value.int .i32)) (.slice A3 m c3) m (.slice A5 n c5) n wq) (fun i _ => n - (RowKit.intOf i).toNat)
      case atStart => exact ⟨0, Nat.zero_le _, rfl, HS.out⟩
      case round =>
        rename_i i wq
        obtain ⟨k, hk, rfl, hS⟩ := hrel
        by_cases hkm : k < n
        · obtain ⟨g, rfl, hfz, hce, hst⟩ := hS.putC (by omega)
          obtain ⟨x, hx⟩ := hce k hkm
          have hf := hfz k
          have hs1 := hst k (.int .i32 7)
          have Hs1 := Lib.hid hs1
          clear hfz hce hst hs1 hS
          go_wp2_with fail
          exact ⟨⟨k + 1, by omega, by go_num, Hs1.out⟩, by simp [RowKit.intOf]; omega⟩
        · clear HS
          have HS := Lib.hid hS
          clear hS
          go_wp2_with fail
          go_loopw [5, 7, 11] (fun x y i wp => ∃ k : Nat, k ≤ 40 ∧ i = .int .i64 k ∧ Six w 3 21 (.slice A1 m c1) (.slice A4 m c4) (.slice A2 n c2) (.slice A6 n c6) m n (xb.map (Value.int .i64)) (xr.map (Value.int .i32)) x (m + k) y (n + k) wp) (fun _ _ i _ => 40 - (RowKit.intOf i).toNat)
          case atStart => exact ⟨0, Nat.zero_le _, rfl, HS.out⟩
          case round =>
            obtain ⟨k, hk, rfl, hS⟩ := hrel
            by_cases hkm : k < 40
            · have HS := Lib.hid hS
              obtain ⟨xs, hx⟩ := hS.a
              have Hx := Lib.hid hx
              have hsz := hS.four.below.size
              have Hsz : Hid (w.heap.size ≤ (wr.alloc (.cells #[.int .i64 (-2)] 3)).heap.size) := by unfold Hid; simp; omega
              have Ha1 : Hid (m + k + 1 ≤ maxLen) := by unfold Hid maxLen; omega
              have Ha2 : Hid ((m + k + 1) * 8 ≤ 140737488355328) := by unfold Hid; omega
              have Hc1 : Hid (n + k + 1 ≤ maxLen) := by unfold Hid maxLen; omega
              have Hc2 : Hid ((n + k + 1) * 4 ≤ 140737488355328) := by unfold Hid; omega
              have tokA : True := trivial
              clear hS hx hsz
              go_wp2_with (at_builtin; first
                | (have _t := tokA; clear tokA; refine wpList_append_own_at _ rfl (.tmp 69) (.tmp 70) 26 rfl w.heap.size 3 i1 _ 1 8 Tryd.underlying26 gi gz0 gz1 gz2 rfl (by decide) _ _ _ rfl (Hx.out.alloc _) ⟨wr.heap.size, 0, none⟩ 1 1 [.int .i64 (-2)] rfl rfl (new_cells wr [.int .i64 (-2)] 3) (by simp [Value.oneCell']) Ha1.out Ha2.out Hsz.out ?_; intro va wa ho1 hg1 _ hb1; have HSa := Lib.hid ((HS.out.alloc _).growA hg1 ⟨_, ho1⟩ hb1); obtain ⟨ys, hy⟩ := HSa.out.c; have Hy := Lib.hid hy; have Hsy : Hid (w.heap.size ≤ (wa.alloc (.cells #[.int .i32 8] 21)).heap.size) := (by have := HSa.out.four.below.size; unfold Hid; simp; omega); clear hy ho1 hg1 hb1)
                | (refine wpList_append_own_at _ rfl (.tmp 72) (.tmp 73) 28 rfl w.heap.size 21 i0 _ 1 4 Tryd.underlying28 hi hz0 hz1 hz2 rfl (by decide) _ _ _ rfl (Hy.out.alloc _) ⟨wa.heap.size, 0, none⟩ 1 1 [.int .i32 8] rfl rfl (new_cells wa [.int .i32 8] 21) (by simp [Value.oneCell']) Hc1.out Hc2.out Hsy.out ?_; intro vc wb ho2 hg2 _ hb2; have HSc := Lib.hid ((HSa.out.alloc _).growC hg2 ⟨_, ho2⟩ hb2); clear ho2 hg2 hb2))
              exact ⟨⟨k + 1, by omega, by go_num, HSc.out⟩, by simp [RowKit.intOf]; omega⟩
            · obtain rfl : k = 40 := by omega
              have HS := Lib.hid hS
              obtain ⟨xs, hx⟩ := hS.a
              obtain ⟨ys, hy⟩ := hS.c
              obtain ⟨Ax, cx, rfl, _, _⟩ := own_shape hx
              obtain ⟨Ay, cy, rfl, _, _⟩ := own_shape hy
              have h40m : (((m + 40 : Nat) : Int) == (m : Int) + 40) = true := by simp
              have h40n : (((n + 40 : Nat) : Int) == (n : Int) + 40) = true := by simp
              clear hS hx hy
              go_wp2_with fail
              refine (ints_yes wr _ _ _ _ m _ _ xb (Rd.own HS.out.four.b2) (Rd.own HS.out.four.b1) Hmy.out).mono ?_
              rintro e w11 ⟨rfl, b11⟩
              have HS11 := Lib.hid (HS.out.quiet (grown_of_below b11))
              clear HS b11
              go_wp2_with fail
              refine (nums_yes w11 _ _ _ _ n _ _ xr (Rd.own HS11.out.four.r2) (Rd.own HS11.out.four.r1) Hmx.out).mono ?_
              rintro e w12 ⟨rfl, b12⟩
              have HB12 := Lib.hid (HS11.out.quiet (grown_of_below b12)).four.below
              clear HS11 b12
              go_wp2_with fail
              refine (Kv.out _).mono ?_
              rintro e w13 ⟨rfl, b13⟩
              have HB13 := Lib.hid (HB12.out.trans (b13.mono HB12.out.size))
              clear HB12 b13
              go_wp2_with fail
              refine (Kn.out _).mono ?_
              rintro e w14 ⟨rfl, b14⟩
              have HB14 := Lib.hid (HB13.out.trans (b14.mono HB13.out.size))
              clear HB13 b14
              go_wp2_with fail
              refine (Kc.out _).mono ?_
              rintro e w15 ⟨rfl, b15⟩
              have HB15 := Lib.hid (HB14.out.trans (b15.mono HB14.out.size))
              clear HB14 b15
              go_wp2_with fail
              refine (Kc2.out _).mono ?_
              rintro e w16 ⟨rfl, b16⟩
              have HB16 := Lib.hid (HB15.out.trans (b16.mono HB15.out.size))
              clear HB15 b16
              go_wp2_with fail
              refine (wakes_any _ (Utf8Tabs_below HT.out HB16.out)).mono ?_
              rintro e w17 ⟨rfl, b17⟩
              go_wp2_with fail
              go_ret
              exact ⟨rfl, HB16.out.trans (b17.mono HB16.out.size)⟩
end Go.Proofs.YtjoilamikdbnpaaDoor
