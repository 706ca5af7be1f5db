/- ScanParts, walked. -/
import Derived.Test.YtjoilamikdbnpaaDoorPartsA
import Derived.Test.YtjoilamikdbnpaaDoorPartsS
import Derived.Deep.RegionHeld3
namespace Go.Proofs.YtjoilamikdbnpaaDoor
open Go.RowKit Go.Lib

theorem okSegs_encAll (zs : List Int) : okSegs (encAll zs) = true := by
  unfold okSegs badSeg
  rw [List.all_eq_true]
  intro d hd
  have := encAll_ok zs d hd
  simp
  omega


set_option maxRecDepth 100000 in
set_option maxHeartbeats 4000000 in
theorem parts_true (s : ByteArray) (x : Int) (w : World) (hs : s.size ≤ 1073741824) (hT : U8 w) (hok : okSegs s.data.toList = true) :
    Calls Tryd.prog 11 #[.string s, .int .i64 x] w fun e w' => e = .returned (.bool true) ∧ Below w.heap.size w w' := by
  obtain ⟨T, hTe⟩ : ∃ T, cleanL s.data.toList = T := ⟨_, rfl⟩
  obtain ⟨zs, hzs⟩ : ∃ zs, zsOf s.data.toList = zs := ⟨_, rfl⟩
  obtain ⟨n, hn⟩ : ∃ n, (segs s.data.toList).length = n := ⟨_, rfl⟩
  obtain ⟨m, hm⟩ : ∃ m, (badsOf s.data.toList).length = m := ⟨_, rfl⟩
  have hTL : T.data.toList = encAll zs := by rw [← hTe, ← hzs]; rfl
  have hTr : T = runesBytes zs := by rw [← hTe, ← hzs]; rfl
  have hzn : zs.length = n := by rw [← hzs, zsOf_len, hn]
  have hns : n ≤ s.size := by rw [← hn, ← size_list]; exact segs_len _
  have hTn : (segs T.data.toList).length = n := by rw [hTL, segs_encAll]; simp [hzn]
  have hTz : zsOf T.data.toList = zs := by
    rw [hTL, ← hzs]
    show (runesOf (encAll (zsOf s.data.toList))).map (fun (r : Nat) => (r : Int)) = _
    rw [clean_runes]
    rfl
  have hTs : T.size ≤ 4294967296 := by
    have := runesBytes_size_le zs
    rw [← hTr] at this
    omega
  have hmb : decide (m = 0) = true := by rw [← hm, bads_ok, hok]
  have Kr := fun W => runes_zs s zs hzs (by omega) W
  have KrT := fun W => runes_zs T zs hTz (by omega) W
  have KvT := fun W => valid_eq T true (by rw [hTL]; exact okSegs_encAll zs) (by omega) W
  have Kc := fun W => clean_eq s T hTe (by omega) W
  have KcT := fun W => clean_eq T T (by rw [hTL, ← hzs, cleanL_clean, hTe]) (by omega) W
  have KnT := fun W => count_eq T n hTn (by omega) W
  have Kn := fun W => count_eq s n hn (by omega) W
  have Kb := fun W => bad_eq' s m hm hs W
  have Kv := fun W => valid_eq s true hok (by omega) W
  have hTs2 : T = s := by
    have h1 := clean_valid _ hok
    rw [hzs, ← hTL] at h1
    cases T; cases s
    simp only [ByteArray.mk.injEq]
    exact Array.toList_inj.1 h1
  have hm0 : ((m : Int) == 0) = true := by
    have : m = 0 := by simpa using hmb
    subst this; rfl
  have KtW := fun W (A : Option Addr) c B (h : Rd W B 1 A n (zs.map (Value.int .i32))) => text_any W B A n c zs h
  rw [← hTr] at KtW
  subst hTs2
  have Hp := Lib.hid (fun k (hb : Border T.data.toList k) => runes_parts hb)
  have Hzs := Lib.hid hzs
  have Hn := Lib.hid hn
  have HT := Lib.hid hT
  have Hzn := Lib.hid hzn
  rw [hzn] at Kr KrT
  have Krh := Lib.hid Kr
  clear Kr
  have KrTh := Lib.hid KrT
  clear KrT
  have KvTh := Lib.hid KvT
  clear KvT
  have Kch := Lib.hid Kc
  clear Kc
  have KcTh := Lib.hid KcT
  clear KcT
  have KnTh := Lib.hid KnT
  clear KnT
  have Knh := Lib.hid Kn
  clear Kn
  have Kbh := Lib.hid Kb
  clear Kb
  have Kvh := Lib.hid Kv
  clear Kv
  have KtWh := Lib.hid KtW
  clear KtW
  clear hT hok hTe hzs hn hm hTL hTr hzn hTn hTz hmb hTs
  go_enter Tryd.func11, Tryd.ntmps11
  go_wp2_with fail
  refine (Krh.out _).mono ?_
  rintro e w1 ⟨g1, c1, rfl, own1, b1⟩
  have R1 := Lib.hid (Rd.own own1)
  clear own1
  go_wp2_with fail
  refine (KtWh.out _ _ _ _ R1.out).mono ?_
  rintro e w' ⟨rfl, rfl⟩
  go_wp2_with fail
  refine (KvTh.out _).mono ?_
  rintro e w2 ⟨rfl, b2⟩
  go_wp2_with fail
  refine (Kch.out _).mono ?_
  rintro e w3 ⟨rfl, b3⟩
  go_wp2_with fail
  refine (KcTh.out _).mono ?_
  rintro e w4 ⟨rfl, b4⟩
  go_wp2_with fail
  refine (KnTh.out _).mono ?_
  rintro e w5 ⟨rfl, b5⟩
  go_wp2_with fail
  refine (KrTh.out _).mono ?_
  rintro e w6 ⟨g6, c6, rfl, own6, b6⟩
  have m12 := b1.trans (b2.mono b1.size)
  have q3 := b2.trans (b3.mono b2.size)
  have q4 := q3.trans (b4.mono q3.size)
  have q5 := q4.trans (b5.mono q4.size)
  have q6 := q5.trans (b6.mono q5.size)
  have R6 := Lib.hid (Rd.own own6)
  clear own6
  have R1' := Lib.hid ((R1.out.below q6).more q6.size)
  go_wp2_with fail
  refine (same_yes _ _ _ _ _ _ _ _ zs R6.out R1'.out (by unfold maxLen; omega)).mono ?_
  rintro e w7 ⟨rfl, b7⟩
  go_wp2_with fail
  refine (Kvh.out _).mono ?_
  rintro e w8 ⟨rfl, b8⟩
  go_wp2_with fail
  refine (Kbh.out _).mono ?_
  rintro e w9 ⟨A9, c9, rfl, b9⟩
  go_wp2_with fail
  refine (Kvh.out _).mono ?_
  rintro e w10 ⟨rfl, b10⟩
  go_wp2_with fail
  refine (Knh.out _).mono ?_
  rintro e w11 ⟨rfl, b11⟩
  have q7 := q6.trans (b7.mono q6.size)
  have q8 := q7.trans (b8.mono q7.size)
  have q9 := q8.trans (b9.mono q8.size)
  have q10 := q9.trans (b10.mono q9.size)
  have q11 := q10.trans (b11.mono q10.size)
  have R11 := Lib.hid ((R1.out.below q11).more q11.size)
  have m11 := b1.trans (q11.mono b1.size)
  have HT11 := Lib.hid (Utf8Tabs_below HT.out m11)
  clear q3 q4 q5 q6 q7 q8 q9 q10 b2 b3 b4 b5 b6 b7 b8 b9 b10 b11 R1 R6 R1' m12
  go_wp2_with fail
  obtain ⟨i0, hi, hz0, hz1, hz2⟩ := info_parts rune_info
  go_loopw [8, 9] (fun p q wr => ∃ j at_ : Nat, p = .int .i64 j ∧ q = .int .i64 at_ ∧ Below w11.heap.size w11 wr ∧ Hid (Border T.data.toList at_) ∧ Hid (j + (segs (T.data.toList.drop at_)).length = n) ∧ j ≤ n ∧ at_ ≤ T.size) (fun p _ _ => n - (RowKit.intOf p).toNat)
  case atStart => exact ⟨0, 0, rfl, rfl, Below.refl _ _, .zero _, by simp [Hid, Hn.out], Nat.zero_le _, Nat.zero_le _⟩
  case round =>
    obtain ⟨j, at_, rfl, rfl, hbw, hbd, hcnt, hjn, hat⟩ := hrel
    by_cases hin : j < n ∧ (j : Int) < x
    · obtain ⟨hj, hx⟩ := hin
      have hlt : at_ < T.size := by
        rcases Nat.lt_or_ge at_ T.size with h | h
        · exact h
        · exfalso
          have e := hcnt.out
          rw [List.drop_of_length_le (by rw [size_list]; exact h), segs_nil] at e
          simp at e
          omega
      have hll := size_list T
      have hnx : nxt (T.data.toList.drop at_) = dec (T.data.toList.drop at_) := by unfold nxt; rw [if_neg (drop_ne _ _ (by omega))]
      have hd1 := segs_drop T.data.toList at_ (by omega)
      have hd2 := next_le T.data.toList at_ (by omega)
      have hd3 := dec_pos (T.data.toList.drop at_)
      have hd4 := border_next hbd.out (by omega)
      have hc := next_any (T.extract at_ T.size) wr (Utf8Tabs_below HT11.out hbw)
      rw [drop_list, hnx] at hc
      obtain ⟨d, hdd⟩ : ∃ d, dec (T.data.toList.drop at_) = d := ⟨_, rfl⟩
      rw [hdd] at hd1 hd2 hd3 hd4 hc
      rw [hll] at hd2
      have Hd1 := Lib.hid hd1
      have Hd4 := Lib.hid hd4
      have Hc := Lib.hid hc
      clear hd1 hd4 hc hdd hnx hll
      go_wp2_with fail
      refine Hc.out.mono ?_
      rintro e w12 ⟨rfl, b12⟩
      go_wp2_with fail
      go_roundw
      case rel =>
        refine ⟨j + 1, at_ + d.2, by go_num, by go_num, hbw.trans (b12.mono hbw.size), Hd4.out, ?_, by omega, hd2⟩
        have e := hcnt.out
        rw [Hd1.out] at e
        unfold Hid
        simp only [List.length_cons] at e
        omega
      case measure => simp [RowKit.intOf]; omega
    · have hex : decide (j < n) = false ∨ (decide (j < n) = true ∧ decide ((j : Int) < x) = false) := by
        by_cases h : j < n
        · right; simp; omega
        · left; simp; omega
      obtain ⟨za, hza⟩ : ∃ za, zsOf (T.data.toList.take at_) = za := ⟨_, rfl⟩
      obtain ⟨zb, hzb⟩ : ∃ zb, zsOf (T.data.toList.drop at_) = zb := ⟨_, rfl⟩
      have hab : za ++ zb = zs := by rw [← hza, ← hzb, Hp.out _ hbd.out, Hzs.out]
      have hla : za.length + zb.length = n := by rw [← List.length_append, hab, Hzn.out]
      have K1 := fun W => runes_zs (T.extract 0 at_) za (by rw [take_list]; exact hza) (by omega) W
      have K2 := fun W => runes_zs (T.extract at_ T.size) zb (by rw [drop_list]; exact hzb) (by omega) W
      have K3 := fun W => count_eq (T.extract 0 at_) za.length (by rw [take_list, ← hza, zsOf_len]) (by simp; omega) W
      have K4 := fun W => count_eq (T.extract at_ T.size) zb.length (by rw [drop_list, ← hzb, zsOf_len]) (by simp; omega) W
      obtain ⟨na, hna⟩ : ∃ na, za.length = na := ⟨_, rfl⟩
      obtain ⟨nb, hnb⟩ : ∃ nb, zb.length = nb := ⟨_, rfl⟩
      rw [hna] at K1 K3 hla
      rw [hnb] at K2 K4 hla
      have K1h := Lib.hid K1
      clear K1
      have K2h := Lib.hid K2
      clear K2
      have K3h := Lib.hid K3
      clear K3
      have K4h := Lib.hid K4
      clear K4
      have Hab := Lib.hid hab
      have Hnb := Lib.hid hnb
      have Hla := Lib.hid hla
      clear hza hzb hab hna hnb
      have hle : na + nb ≤ n := by omega
      have heq : ((na : Int) + (nb : Int) == (n : Int)) = true := by rw [beq_iff_eq]; omega
      clear hla hin
      rcases hex with hf | ⟨ht, hf⟩
      all_goals
        go_wp2_with fail
        refine (K1h.out _).mono ?_
        rintro e w12 ⟨g12, c12, rfl, own12, b12⟩
        go_wp2_with fail
        refine (K2h.out _).mono ?_
        rintro e w13 ⟨g13, c13, rfl, own13, b13⟩
        have own12' := own_below own12 b13
        have R13 := Lib.hid (Rd.own own13)
        have b123 := b12.trans (b13.mono b12.size)
        have bw13 := hbw.trans (b123.mono hbw.size)
        have Rl := Lib.hid ((R11.out.below bw13).more bw13.size)
        have HT13 := Lib.hid (Utf8Tabs_below HT11.out bw13)
        clear own12 own13
        have Own12 := Lib.hid own12'
        have Hl13 : Hid ((zb.map (Value.int .i32)).length = nb * 1) := by simp [Hid, Hnb.out]
        have Hone : Hid (∀ u ∈ zb.map (Value.int .i32), u.oneCell' = true) := by
          intro u hu
          obtain ⟨z, _, rfl⟩ := List.mem_map.1 hu
          rfl
        have Hmax : Hid (na + nb ≤ maxLen) := by unfold Hid maxLen; omega
        clear own12'
        go_wp2_with fail
        have Hnews : Hid (∀ j u, (zb.map (Value.int .i32))[j]? = some u → w13.drew.cell? ((⟨g13, 0, none⟩ : Addr).add j) = some u) := R13.out.cells_of
        have Hbase : Hid (wr.heap.size ≤ w13.drew.heap.size) := b123.size
        have Hbytes : Hid ((na + nb) * 4 ≤ 140737488355328) := by unfold Hid; omega
        have Hnm : Hid (n ≤ maxLen) := by unfold Hid maxLen; omega
        have hx1 : (0 : Int) ≤ (at_ : Int) := by omega
        have hx2 : (at_ : Int) ≤ (T.size : Int) := by omega
        have hx3 : (0 : Int) ≤ (T.size : Int) := by omega
        have hx4 : IntKind.i64.wrap ((na : Int) + (nb : Int)) = (na : Int) + (nb : Int) := IntWalk.i64_in _ (by omega)
        clear Krh KrTh KvTh Kch KcTh KnTh Knh Kbh Kvh KtWh Hp Hzs Hn HT Hzn hm0 K1h K2h Rl HT13 bw13 hf hbd hcnt b12 b13 b1 q11 hs hns hjn hat Hnb
        have tok1 : True := trivial
        go_region_held3 (fun _ => True) (trivial) (first
          | (have _t := tok1; clear tok1; refine step_append_own rfl (.tmp 104) (.tmp 105) 28 rfl wr.heap.size 21 i0 _ 1 4 Tryd.underlying28 hi hz0 hz1 hz2 rfl (by decide) _ na (za.map (Value.int .i32)) rfl Own12.out ⟨g13, 0, none⟩ nb c13 (zb.map (Value.int .i32)) rfl Hl13.out Hnews.out Hone.out Hmax.out Hbytes.out Hbase.out ?_; intro v14 w14 own14 grow14; rw [Hla.out, ← List.map_append, Hab.out] at own14; obtain ⟨A14, c14, rfl, _, _⟩ := own_shape own14; have R14 := Lib.hid (Rd.own own14); have b14 := b123.trans (((Below.refl wr.heap.size w13).drew).grown grow14 Hbase.out (fun k hk => (Own12.out.lt k hk).1)); have bw14 := hbw.trans (b14.mono hbw.size); have Rl14 := Lib.hid ((R11.out.below bw14).more bw14.size); have HT14 := Lib.hid (Utf8Tabs_below HT11.out bw14); clear own14 grow14)
          | (go_simp; first
            | (go_at_call 45; refine (same_yes _ _ _ _ _ _ _ _ zs R14.out Rl14.out Hnm.out).mono ?_; rintro e w15 ⟨rfl, b15⟩)
            | (go_at_call 28; with_reducible refine (K3h.out _).mono ?_; rintro e w16 ⟨rfl, b16⟩)
            | (go_at_call 28; with_reducible refine (K4h.out _).mono ?_; rintro e w17 ⟨rfl, b17⟩)
            | (go_at_call 20; refine (wakes_any _ (Utf8Tabs_below HT14.out ((b15.trans (b16.mono b15.size)).trans (b17.mono (b15.trans (b16.mono b15.size)).size)))).mono ?_; rintro e w18 ⟨rfl, b18⟩)))
        go_wp2_with fail
        go_ret
        have f15 := b15.trans (b16.mono b15.size)
        have f17 := f15.trans (b17.mono f15.size)
        have f18 := f17.trans (b18.mono f17.size)
        have f := bw14.trans (f18.mono bw14.size)
        exact ⟨rfl, m11.trans (f.mono m11.size)⟩

set_option maxRecDepth 100000 in
set_option maxHeartbeats 4000000 in
theorem parts_false (s : ByteArray) (x : Int) (w : World) (hs : s.size ≤ 1073741824) (hT : U8 w) (hok : okSegs s.data.toList = false) :
    Calls Tryd.prog 11 #[.string s, .int .i64 x] w fun e w' => e = .returned (.bool true) ∧ Below w.heap.size w w' := by
  obtain ⟨T, hTe⟩ : ∃ T, cleanL s.data.toList = T := ⟨_, rfl⟩
  obtain ⟨zs, hzs⟩ : ∃ zs, zsOf s.data.toList = zs := ⟨_, rfl⟩
  obtain ⟨n, hn⟩ : ∃ n, (segs s.data.toList).length = n := ⟨_, rfl⟩
  obtain ⟨m, hm⟩ : ∃ m, (badsOf s.data.toList).length = m := ⟨_, rfl⟩
  have hTL : T.data.toList = encAll zs := by rw [← hTe, ← hzs]; rfl
  have hTr : T = runesBytes zs := by rw [← hTe, ← hzs]; rfl
  have hzn : zs.length = n := by rw [← hzs, zsOf_len, hn]
  have hns : n ≤ s.size := by rw [← hn, ← size_list]; exact segs_len _
  have hTn : (segs T.data.toList).length = n := by rw [hTL, segs_encAll]; simp [hzn]
  have hTz : zsOf T.data.toList = zs := by
    rw [hTL, ← hzs]
    show (runesOf (encAll (zsOf s.data.toList))).map (fun (r : Nat) => (r : Int)) = _
    rw [clean_runes]
    rfl
  have hTs : T.size ≤ 4294967296 := by
    have := runesBytes_size_le zs
    rw [← hTr] at this
    omega
  have hmb : decide (m = 0) = false := by rw [← hm, bads_ok, hok]
  have Kr := fun W => runes_zs s zs hzs (by omega) W
  have KrT := fun W => runes_zs T zs hTz (by omega) W
  have KvT := fun W => valid_eq T true (by rw [hTL]; exact okSegs_encAll zs) (by omega) W
  have Kc := fun W => clean_eq s T hTe (by omega) W
  have KcT := fun W => clean_eq T T (by rw [hTL, ← hzs, cleanL_clean, hTe]) (by omega) W
  have KnT := fun W => count_eq T n hTn (by omega) W
  have Kn := fun W => count_eq s n hn (by omega) W
  have Kb := fun W => bad_eq' s m hm hs W
  have Kv := fun W => valid_eq s false hok (by omega) W
  have hm0 : ((m : Int) == 0) = false := by
    have : m ≠ 0 := by simpa using hmb
    rw [beq_eq_false_iff_ne]; omega
  have KtW := fun W (A : Option Addr) c B (h : Rd W B 1 A n (zs.map (Value.int .i32))) => text_any W B A n c zs h
  rw [← hTr] at KtW
  have Hp := Lib.hid (fun k (hb : Border s.data.toList k) => runes_parts hb)
  have Hzs := Lib.hid hzs
  have Hn := Lib.hid hn
  have HT := Lib.hid hT
  have Hzn := Lib.hid hzn
  rw [hzn] at Kr KrT
  have Krh := Lib.hid Kr
  clear Kr
  have KrTh := Lib.hid KrT
  clear KrT
  have KvTh := Lib.hid KvT
  clear KvT
  have Kch := Lib.hid Kc
  clear Kc
  have KcTh := Lib.hid KcT
  clear KcT
  have KnTh := Lib.hid KnT
  clear KnT
  have Knh := Lib.hid Kn
  clear Kn
  have Kbh := Lib.hid Kb
  clear Kb
  have Kvh := Lib.hid Kv
  clear Kv
  have KtWh := Lib.hid KtW
  clear KtW
  clear hT hok hTe hzs hn hm hTL hTr hzn hTn hTz hmb hTs
  go_enter Tryd.func11, Tryd.ntmps11
  go_wp2_with fail
  refine (Krh.out _).mono ?_
  rintro e w1 ⟨g1, c1, rfl, own1, b1⟩
  have R1 := Lib.hid (Rd.own own1)
  clear own1
  go_wp2_with fail
  refine (KtWh.out _ _ _ _ R1.out).mono ?_
  rintro e w' ⟨rfl, rfl⟩
  go_wp2_with fail
  refine (KvTh.out _).mono ?_
  rintro e w2 ⟨rfl, b2⟩
  go_wp2_with fail
  refine (Kch.out _).mono ?_
  rintro e w3 ⟨rfl, b3⟩
  go_wp2_with fail
  refine (KcTh.out _).mono ?_
  rintro e w4 ⟨rfl, b4⟩
  go_wp2_with fail
  refine (KnTh.out _).mono ?_
  rintro e w5 ⟨rfl, b5⟩
  go_wp2_with fail
  refine (KrTh.out _).mono ?_
  rintro e w6 ⟨g6, c6, rfl, own6, b6⟩
  have m12 := b1.trans (b2.mono b1.size)
  have q3 := b2.trans (b3.mono b2.size)
  have q4 := q3.trans (b4.mono q3.size)
  have q5 := q4.trans (b5.mono q4.size)
  have q6 := q5.trans (b6.mono q5.size)
  have R6 := Lib.hid (Rd.own own6)
  clear own6
  have R1' := Lib.hid ((R1.out.below q6).more q6.size)
  go_wp2_with fail
  refine (same_yes _ _ _ _ _ _ _ _ zs R6.out R1'.out (by unfold maxLen; omega)).mono ?_
  rintro e w7 ⟨rfl, b7⟩
  go_wp2_with fail
  refine (Kvh.out _).mono ?_
  rintro e w8 ⟨rfl, b8⟩
  go_wp2_with fail
  refine (Kbh.out _).mono ?_
  rintro e w9 ⟨A9, c9, rfl, b9⟩
  go_wp2_with fail
  refine (Kvh.out _).mono ?_
  rintro e w10 ⟨rfl, b10⟩
  go_wp2_with fail
  refine (Knh.out _).mono ?_
  rintro e w11 ⟨rfl, b11⟩
  have q7 := q6.trans (b7.mono q6.size)
  have q8 := q7.trans (b8.mono q7.size)
  have q9 := q8.trans (b9.mono q8.size)
  have q10 := q9.trans (b10.mono q9.size)
  have q11 := q10.trans (b11.mono q10.size)
  have R11 := Lib.hid ((R1.out.below q11).more q11.size)
  have m11 := b1.trans (q11.mono b1.size)
  have HT11 := Lib.hid (Utf8Tabs_below HT.out m11)
  clear q3 q4 q5 q6 q7 q8 q9 q10 b2 b3 b4 b5 b6 b7 b8 b9 b10 b11 R1 R6 R1' m12
  go_wp2_with fail
  obtain ⟨i0, hi, hz0, hz1, hz2⟩ := info_parts rune_info
  go_loopw [8, 9] (fun p q wr => ∃ j at_ : Nat, p = .int .i64 j ∧ q = .int .i64 at_ ∧ Below w11.heap.size w11 wr ∧ Hid (Border s.data.toList at_) ∧ Hid (j + (segs (s.data.toList.drop at_)).length = n) ∧ j ≤ n ∧ at_ ≤ s.size) (fun p _ _ => n - (RowKit.intOf p).toNat)
  case atStart => exact ⟨0, 0, rfl, rfl, Below.refl _ _, .zero _, by simp [Hid, Hn.out], Nat.zero_le _, Nat.zero_le _⟩
  case round =>
    obtain ⟨j, at_, rfl, rfl, hbw, hbd, hcnt, hjn, hat⟩ := hrel
    by_cases hin : j < n ∧ (j : Int) < x
    · obtain ⟨hj, hx⟩ := hin
      have hlt : at_ < s.size := by
        rcases Nat.lt_or_ge at_ s.size with h | h
        · exact h
        · exfalso
          have e := hcnt.out
          rw [List.drop_of_length_le (by rw [size_list]; exact h), segs_nil] at e
          simp at e
          omega
      have hll := size_list s
      have hnx : nxt (s.data.toList.drop at_) = dec (s.data.toList.drop at_) := by unfold nxt; rw [if_neg (drop_ne _ _ (by omega))]
      have hd1 := segs_drop s.data.toList at_ (by omega)
      have hd2 := next_le s.data.toList at_ (by omega)
      have hd3 := dec_pos (s.data.toList.drop at_)
      have hd4 := border_next hbd.out (by omega)
      have hc := next_any (s.extract at_ s.size) wr (Utf8Tabs_below HT11.out hbw)
      rw [drop_list, hnx] at hc
      obtain ⟨d, hdd⟩ : ∃ d, dec (s.data.toList.drop at_) = d := ⟨_, rfl⟩
      rw [hdd] at hd1 hd2 hd3 hd4 hc
      rw [hll] at hd2
      have Hd1 := Lib.hid hd1
      have Hd4 := Lib.hid hd4
      have Hc := Lib.hid hc
      clear hd1 hd4 hc hdd hnx hll
      go_wp2_with fail
      refine Hc.out.mono ?_
      rintro e w12 ⟨rfl, b12⟩
      go_wp2_with fail
      go_roundw
      case rel =>
        refine ⟨j + 1, at_ + d.2, by go_num, by go_num, hbw.trans (b12.mono hbw.size), Hd4.out, ?_, by omega, hd2⟩
        have e := hcnt.out
        rw [Hd1.out] at e
        unfold Hid
        simp only [List.length_cons] at e
        omega
      case measure => simp [RowKit.intOf]; omega
    · have hex : decide (j < n) = false ∨ (decide (j < n) = true ∧ decide ((j : Int) < x) = false) := by
        by_cases h : j < n
        · right; simp; omega
        · left; simp; omega
      obtain ⟨za, hza⟩ : ∃ za, zsOf (s.data.toList.take at_) = za := ⟨_, rfl⟩
      obtain ⟨zb, hzb⟩ : ∃ zb, zsOf (s.data.toList.drop at_) = zb := ⟨_, rfl⟩
      have hab : za ++ zb = zs := by rw [← hza, ← hzb, Hp.out _ hbd.out, Hzs.out]
      have hla : za.length + zb.length = n := by rw [← List.length_append, hab, Hzn.out]
      have K1 := fun W => runes_zs (s.extract 0 at_) za (by rw [take_list]; exact hza) (by omega) W
      have K2 := fun W => runes_zs (s.extract at_ s.size) zb (by rw [drop_list]; exact hzb) (by omega) W
      have K3 := fun W => count_eq (s.extract 0 at_) za.length (by rw [take_list, ← hza, zsOf_len]) (by simp; omega) W
      have K4 := fun W => count_eq (s.extract at_ s.size) zb.length (by rw [drop_list, ← hzb, zsOf_len]) (by simp; omega) W
      obtain ⟨na, hna⟩ : ∃ na, za.length = na := ⟨_, rfl⟩
      obtain ⟨nb, hnb⟩ : ∃ nb, zb.length = nb := ⟨_, rfl⟩
      rw [hna] at K1 K3 hla
      rw [hnb] at K2 K4 hla
      have K1h := Lib.hid K1
      clear K1
      have K2h := Lib.hid K2
      clear K2
      have K3h := Lib.hid K3
      clear K3
      have K4h := Lib.hid K4
      clear K4
      have Hab := Lib.hid hab
      have Hnb := Lib.hid hnb
      have Hla := Lib.hid hla
      clear hza hzb hab hna hnb
      have hle : na + nb ≤ n := by omega
      have heq : ((na : Int) + (nb : Int) == (n : Int)) = true := by rw [beq_iff_eq]; omega
      clear hla hin
      rcases hex with hf | ⟨ht, hf⟩
      all_goals
        go_wp2_with fail
        refine (K1h.out _).mono ?_
        rintro e w12 ⟨g12, c12, rfl, own12, b12⟩
        go_wp2_with fail
        refine (K2h.out _).mono ?_
        rintro e w13 ⟨g13, c13, rfl, own13, b13⟩
        have own12' := own_below own12 b13
        have R13 := Lib.hid (Rd.own own13)
        have b123 := b12.trans (b13.mono b12.size)
        have bw13 := hbw.trans (b123.mono hbw.size)
        have Rl := Lib.hid ((R11.out.below bw13).more bw13.size)
        have HT13 := Lib.hid (Utf8Tabs_below HT11.out bw13)
        clear own12 own13
        have Own12 := Lib.hid own12'
        have Hl13 : Hid ((zb.map (Value.int .i32)).length = nb * 1) := by simp [Hid, Hnb.out]
        have Hone : Hid (∀ u ∈ zb.map (Value.int .i32), u.oneCell' = true) := by
          intro u hu
          obtain ⟨z, _, rfl⟩ := List.mem_map.1 hu
          rfl
        have Hmax : Hid (na + nb ≤ maxLen) := by unfold Hid maxLen; omega
        clear own12'
        go_wp2_with fail
        have Hnews : Hid (∀ j u, (zb.map (Value.int .i32))[j]? = some u → w13.drew.cell? ((⟨g13, 0, none⟩ : Addr).add j) = some u) := R13.out.cells_of
        have Hbase : Hid (wr.heap.size ≤ w13.drew.heap.size) := b123.size
        have Hbytes : Hid ((na + nb) * 4 ≤ 140737488355328) := by unfold Hid; omega
        have Hnm : Hid (n ≤ maxLen) := by unfold Hid maxLen; omega
        have hx1 : (0 : Int) ≤ (at_ : Int) := by omega
        have hx2 : (at_ : Int) ≤ (s.size : Int) := by omega
        have hx3 : (0 : Int) ≤ (s.size : Int) := by omega
        have hx4 : IntKind.i64.wrap ((na : Int) + (nb : Int)) = (na : Int) + (nb : Int) := IntWalk.i64_in _ (by omega)
        clear Krh KrTh KvTh Kch KcTh KnTh Knh Kbh Kvh KtWh Hp Hzs Hn HT Hzn hm0 K1h K2h Rl HT13 bw13 hf hbd hcnt b12 b13 b1 q11 hs hns hjn hat Hnb
        have tok1 : True := trivial
        go_region_held3 (fun _ => True) (trivial) (first
          | (have _t := tok1; clear tok1; refine step_append_own rfl (.tmp 104) (.tmp 105) 28 rfl wr.heap.size 21 i0 _ 1 4 Tryd.underlying28 hi hz0 hz1 hz2 rfl (by decide) _ na (za.map (Value.int .i32)) rfl Own12.out ⟨g13, 0, none⟩ nb c13 (zb.map (Value.int .i32)) rfl Hl13.out Hnews.out Hone.out Hmax.out Hbytes.out Hbase.out ?_; intro v14 w14 own14 grow14; rw [Hla.out, ← List.map_append, Hab.out] at own14; obtain ⟨A14, c14, rfl, _, _⟩ := own_shape own14; have R14 := Lib.hid (Rd.own own14); have b14 := b123.trans (((Below.refl wr.heap.size w13).drew).grown grow14 Hbase.out (fun k hk => (Own12.out.lt k hk).1)); have bw14 := hbw.trans (b14.mono hbw.size); have Rl14 := Lib.hid ((R11.out.below bw14).more bw14.size); have HT14 := Lib.hid (Utf8Tabs_below HT11.out bw14); clear own14 grow14)
          | (go_simp; first
            | (go_at_call 45; refine (same_yes _ _ _ _ _ _ _ _ zs R14.out Rl14.out Hnm.out).mono ?_; rintro e w15 ⟨rfl, b15⟩)
            | (go_at_call 28; with_reducible refine (K3h.out _).mono ?_; rintro e w16 ⟨rfl, b16⟩)
            | (go_at_call 28; with_reducible refine (K4h.out _).mono ?_; rintro e w17 ⟨rfl, b17⟩)
            | (go_at_call 20; refine (wakes_any _ (Utf8Tabs_below HT14.out ((b15.trans (b16.mono b15.size)).trans (b17.mono (b15.trans (b16.mono b15.size)).size)))).mono ?_; rintro e w18 ⟨rfl, b18⟩)))
        go_wp2_with fail
        go_ret
        have f15 := b15.trans (b16.mono b15.size)
        have f17 := f15.trans (b17.mono f15.size)
        have f18 := f17.trans (b18.mono f17.size)
        have f := bw14.trans (f18.mono bw14.size)
        exact ⟨rfl, m11.trans (f.mono m11.size)⟩

theorem parts_walk (s : ByteArray) (x : Int) (w : World) (hs : s.size ≤ 1073741824) (hT : U8 w) :
    Calls Tryd.prog 11 #[.string s, .int .i64 x] w fun e w' => e = .returned (.bool true) ∧ Below w.heap.size w w' := by
  cases h : okSegs s.data.toList with
  | true => exact parts_true s x w hs hT h
  | false => exact parts_false s x w hs hT h

end Go.Proofs.YtjoilamikdbnpaaDoor
