/- ScanPieces, walked: whatever the pieces: what the reader tells of them, and at the end, is what the whole is. -/
import Derived.Test.YthakdkpgobloiaaDoorReader
import Derived.Test.YthakdkpgobloiaaDoorPartsA
import Derived.Test.YthakdkpgobloiaaDoorPartsS
namespace Go.Proofs.YthakdkpgobloiaaDoor
open Go.RowKit Go.Lib

theorem bytes_of (zs : List Int) (h : ∀ z ∈ zs, (Lit.int .u8 z).wf = true) : ∃ bs : List UInt8, zs.map (Value.int .u8) = byteCells' bs := by
  refine ⟨zs.map fun z => UInt8.ofNat z.toNat, ?_⟩
  unfold byteCells'
  rw [List.map_map]
  refine List.map_congr_left fun z hz => ?_
  have := h z hz
  simp [Lit.wf, IntKind.min, IntKind.max, IntKind.signed, IntKind.bits] at this
  simp
  omega
theorem i64_wf (z : Int) (h : (Lit.int .i64 z).wf = true) : -9223372036854775808 ≤ z ∧ z ≤ 9223372036854775807 := by
  simp [Lit.wf, IntKind.min, IntKind.max, IntKind.signed, IntKind.bits] at h
  omega
theorem rd_piece {w : World} {B n : Nat} {A : Option Addr} {bs : List UInt8} (h : Rd w B 1 A n (byteCells' bs)) {k q : Nat} (hk : k + q ≤ n) : Rd w B 1 (A.map fun x => x.add k) q (byteCells' ((bs.drop k).take q)) := by
  have hl : bs.length = n := by have := h.1; simpa [byteCells'] using this
  refine ⟨by simp [byteCells']; omega, ?_⟩
  rcases Nat.eq_zero_or_pos q with h0 | h0
  · exact .inl h0
  · obtain ⟨a, rfl, hb, hc⟩ := h.addr (by omega)
    refine .inr ⟨_, rfl, by rw [add_block]; exact hb, fun j u hu => ?_⟩
    rw [add_sum]
    refine hc _ _ ?_
    unfold byteCells' at hu ⊢
    rw [List.getElem?_map, List.getElem?_take] at hu
    rw [List.getElem?_map]
    split at hu
    · rw [List.getElem?_drop] at hu
      exact hu
    · cases hu
theorem rd_none {w : World} {B : Nat} {A : Option Addr} {bs : List UInt8} {k q : Nat} (hq : q = 0) : Rd w B 1 A q (byteCells' ((bs.drop k).take q)) := by
  subst hq
  exact ⟨by simp [byteCells'], .inl rfl⟩
theorem ones_cells (t : List Nat) : ∀ u ∈ runeCells' t, u.oneCell' = true := by
  intro u hu
  obtain ⟨z, _, rfl⟩ := List.mem_map.1 hu
  rfl
theorem cells_snoc (t t2 : List Nat) : runeCells' t ++ runeCells' t2 = runeCells' (t ++ t2) := by simp [runeCells']
/-- behind a piece and its append: the reader's cell, and what lies below -/
theorem piece_end {w wr w2 w3 : World} {G : Nat} {e : TypeId} {v : Value} {n : Nat} {xs : List Value} {R : ByteArray} (hbw : Below G w wr) (hGw : G < wr.heap.size) (hgr : wr.grownBy w2 (some G)) (hown : wr.ownsRow (G + 1) e 1 v n xs)
    (hc : w2.cell? ⟨G, 0, none⟩ = some (.string R)) (hf : w2.frozen? ⟨G, 0, none⟩ = false) (hg3 : w2.grownBy w3 v.ownBlock) :
    w3.cell? ⟨G, 0, none⟩ = some (.string R) ∧ w3.frozen? ⟨G, 0, none⟩ = false ∧ Below G w w3 ∧ G < w3.heap.size := by
  have hne : some G ≠ v.ownBlock := fun e => by have := (hown.lt G e.symm).1; omega
  have hG2 : G < w2.heap.size := Nat.lt_of_lt_of_le hGw hgr.size
  have hk := hg3.block G hG2 hne
  refine ⟨(World.cell?_of_block (a := ⟨G, 0, none⟩) hk).trans hc, (World.frozen?_of_block (a := ⟨G, 0, none⟩) hk).trans hf, ?_, Nat.lt_of_lt_of_le hG2 hg3.size⟩
  exact (hbw.grown hgr (by omega) (fun k e => by cases e; exact Nat.le_refl _)).grown hg3 (by omega) (fun k e => by have := (hown.lt k e).1; omega)

theorem end_held (w : World) (g : Nat) (R : ByteArray) (hc : w.cell? ⟨g, 0, none⟩ = some (.string R)) (hf : w.frozen? ⟨g, 0, none⟩ = false) (hg : g < w.heap.size) (hs : R.size ≤ 3) (hl : (segs R.data.toList).length = R.size) :
    Calls Tryd.prog 44 #[.pointer (some ⟨g, 0, none⟩)] w fun e w' => ∃ g2 c : Nat, e = .returned (.slice (some ⟨g2, 0, none⟩) R.size c) ∧ w'.ownsRow w.heap.size 21 1 (.slice (some ⟨g2, 0, none⟩) R.size c) R.size (runeCells' (runesOf R.data.toList)) ∧
      w'.cell? ⟨g, 0, none⟩ = some (.string ByteArray.empty) ∧ w'.frozen? ⟨g, 0, none⟩ = false ∧ w.grownBy w' (some g) := by
  have h := end_any w g R hc hf hg hs
  rw [show (runesOf R.data.toList).length = R.size by rw [runesOf_len, hl]] at h
  exact h
theorem end_none (w : World) (g : Nat) (hc : w.cell? ⟨g, 0, none⟩ = some (.string ByteArray.empty)) (hf : w.frozen? ⟨g, 0, none⟩ = false) (hg : g < w.heap.size) :
    Calls Tryd.prog 44 #[.pointer (some ⟨g, 0, none⟩)] w fun e w' => (∃ g2 c : Nat, e = .returned (.slice (some ⟨g2, 0, none⟩) 0 c)) ∧ w.grownBy w' (some g) := by
  refine (end_held w g ByteArray.empty hc hf hg (by simp) rfl).mono ?_
  rintro e w' ⟨g2, c, rfl, _, _, _, hgr⟩
  exact ⟨⟨g2, c, rfl⟩, hgr⟩
theorem held_none (w : World) (g : Nat) (hc : w.cell? ⟨g, 0, none⟩ = some (.string ByteArray.empty)) : Calls Tryd.prog 41 #[.pointer (some ⟨g, 0, none⟩)] w fun e w' => e = .returned (.int .i64 0) ∧ w' = w := held_any w g ByteArray.empty hc
theorem rd_all {w : World} {base : Nat} {e : TypeId} {A : Option Addr} {n c : Nat} {bs : List UInt8} {t : List Nat} {r : List UInt8} (ho : w.ownsRow base e 1 (.slice A n c) n (runeCells' t ++ runeCells' (runesOf r))) (hf : Fed bs t r) :
    n = (zsOf bs).length ∧ Rd w w.heap.size 1 A (zsOf bs).length ((zsOf bs).map (Value.int .i32)) := by
  have e1 : runeCells' t ++ runeCells' (runesOf r) = (zsOf bs).map (Value.int .i32) := by rw [cells_snoc, ← fed_runes hf, zsOf_cells]
  rw [e1] at ho
  have h1 : n = (zsOf bs).length := by have := ho.1; simpa using this.symm
  subst h1
  exact ⟨rfl, Rd.own ho⟩

set_option maxRecDepth 100000 in
set_option maxHeartbeats 4000000 in
theorem pieces_walk (w : World) (A : Option Addr) (n c : Nat) (bs : List UInt8) (C : Option Addr) (m d : Nat) (zs : List Int) (hA : Rd w w.heap.size 1 A n (byteCells' bs)) (hnc : n ≤ c) (hC : Rd w w.heap.size 1 C m (zs.map (Value.int .i64)))
    (hwf : ∀ z ∈ zs, -9223372036854775808 ≤ z ∧ z ≤ 9223372036854775807) (hn : n ≤ 1048576) (hT : U8 w) :
    Calls Tryd.prog 13 #[.slice A n c, .slice C m d] w fun e w' => e = .returned (.bool true) ∧ Below w.heap.size w w' := by
  obtain ⟨i0, hi, hz0, hz1, hz2⟩ := info_parts rune_info
  have hbl : bs.length = n := by have := hA.1; simpa [byteCells'] using this
  have hzl : zs.length = m := by have := hC.1; simpa using this
  obtain ⟨G, hG⟩ : ∃ G, w.heap.size = G := ⟨_, rfl⟩
  have hnw := new_any w
  rw [hG] at hA hC hnw ⊢
  have HA := Lib.hid hA
  have HC := Lib.hid hC
  have HT := Lib.hid hT
  have Hwf := Lib.hid hwf
  have Hbl := Lib.hid hbl
  have Hzl := Lib.hid hzl
  have HG := Lib.hid hG
  have Hnw := Lib.hid hnw
  clear hA hC hT hwf hbl hzl hG hnw
  go_enter Tryd.func13, Tryd.ntmps13
  go_wp2_with fail
  refine Hnw.out.mono ?_
  rintro e w1 ⟨rfl, hc1, hf1, hG1, hb1⟩
  have Hc1 := Lib.hid hc1
  have Hf1 := Lib.hid hf1
  have Hb1 := Lib.hid hb1
  have HG1 := Lib.hid hG1
  clear hc1 hf1 hb1 hG1
  go_wp2_with fail
  go_loopw [6, 7, 8] (fun x y i wr => ∃ (k at_ : Nat) (t : List Nat) (R : ByteArray), i = .int .i64 k ∧ k ≤ m ∧ y = .int .i64 at_ ∧ at_ ≤ n ∧ wr.ownsRow (G + 1) 21 1 x t.length (runeCells' t) ∧ wr.cell? ⟨G, 0, none⟩ = some (.string R) ∧ wr.frozen? ⟨G, 0, none⟩ = false ∧ Below G w wr ∧ G < wr.heap.size ∧ Hid (Fed (bs.take at_) t R.data.toList)) (fun _ _ i _ => m - (RowKit.intOf i).toNat)
  case atStart => exact ⟨0, 0, [], ByteArray.empty, rfl, Nat.zero_le _, rfl, Nat.zero_le _, World.ownsRow_nil _ _ _ _, Hc1.out, Hf1.out, Hb1.out, HG1.out, .stop _ (.inl rfl)⟩
  case round =>
    obtain ⟨k, at_, t, R, rfl, hk, rfl, hat, hown, hc, hf, hbw, hGw, hfed⟩ := hrel
    have Hown := Lib.hid hown
    have Hc := Lib.hid hc
    have Hf := Lib.hid hf
    have Hbw := Lib.hid hbw
    clear hown hc hf hbw Hc1 Hf1 Hb1 HG1
    have Hfed := Lib.hid hfed
    have hRl := fed_len hfed.out
    rw [List.length_take, Hbl.out, size_list] at hRl
    clear hfed
    rcases (by omega : (k < m ∧ k < 1000) ∨ ¬ k < m ∨ (k < m ∧ ¬ k < 1000)) with ⟨hkm, hk1⟩ | hkm | ⟨hkm, hk1⟩
    · have hkz : k < zs.length := by rw [Hzl.out]; exact hkm
      obtain ⟨a, rfl, _, ha⟩ := (HC.out.below Hbw.out).at_ (k := k) (by simpa using hkz)
      simp only [List.getElem_map] at ha
      have hzw := Hwf.out _ (List.getElem_mem hkz)
      obtain ⟨z, hze⟩ : ∃ z, zs[k] = z := ⟨_, rfl⟩
      rw [hze] at ha hzw
      clear hze
      go_wp2_with fail
      rw [show (n : Int) - (at_ : Int) + 1 = ((n - at_ + 1 : Nat) : Int) by omega]
      refine (round_any wr z (n - at_ + 1) (by omega) (by omega) hzw.1 hzw.2).mono ?_
      rintro e w' ⟨⟨q, hq, rfl⟩, rfl⟩
      have Hd1 := Lib.hid (rd_piece (HA.out.below Hbw.out) (k := at_) (q := q) (by omega))
      have HT1 := Lib.hid (Utf8Tabs_below HT.out (HG.out ▸ Hbw.out))
      have hpl : ((bs.drop at_).take q).length ≤ q := by rw [List.length_take]; omega
      obtain ⟨pc, hpc⟩ : ∃ pc, (bs.drop at_).take q = pc := ⟨_, rfl⟩
      have hpn : q = 0 → ∀ A' : Option Addr, Rd w' G 1 A' q (byteCells' pc) := fun h A' => by rw [← hpc]; exact rd_none h
      have hta : bs.take at_ ++ pc = bs.take (at_ + q) := by rw [← hpc, List.take_add]
      rw [hpc] at hpl Hd1
      have Hta := Lib.hid hta
      have Hpn := Lib.hid hpn
      clear hpc hta hpn ha hzw hkz
      rcases Classical.em (c = at_) with rfl | hca
      all_goals go_wp2_with fail
      all_goals refine (feed_any w' G G q _ _ R pc Hc.out Hf.out hGw (by first | exact Hd1.out | exact Hpn.out (by omega) _) (by omega) HT1.out).mono ?_
      all_goals
        rintro e w2 ⟨v2, t2, R2, fed2, rfl, own2, hc2, hf2, gr⟩
        have Hfed2 := Lib.hid (Hta.out ▸ fed_app Hfed.out pc fed2)
        have hl2 := fed_len fed2
        simp only [List.length_append, size_list] at hl2
        have hR3 := (fed_held (fed_rest fed2)).1
        rw [size_list] at hR3
        have Hown1 := Lib.hid (Hown.out.kept gr (.inr fun e => by have := (Hown.out.lt G e).1; omega))
        have Hown2 := Lib.hid own2
        have K1 : Hid (t.length + t2.length ≤ maxLen) := by unfold Hid maxLen; omega
        have K2 : Hid ((t.length + t2.length) * 4 ≤ 140737488355328) := by unfold Hid; omega
        have K3 : Hid (G + 1 ≤ w2.heap.size) := by have := gr.size; unfold Hid; omega
        have Hend := Lib.hid fun w3 h => piece_end (w3 := w3) Hbw.out hGw gr Hown.out hc2 hf2 h
        clear fed2 own2
        go_wp2_with (first
          | (go_at_call 41; refine (held_any _ G R2 hc3).mono ?_; rintro e wh ⟨rfl, rfl⟩)
          | (at_builtin; refine wpList_append_rows rfl (.tmp 37) (.tmp 43) 28 rfl (G + 1) 21 i0 _ 4 Tryd.underlying28 hi hz0 hz1 hz2 rfl _ _ _ rfl Hown1.out _ _ _ _ rfl Hown2.out (ones_cells _) K1.out K2.out K3.out ?_; intro v3 w3 own3 gr3 _; obtain ⟨hc3, hf3, hb3, hG3⟩ := Hend.out w3 gr3; rw [cells_snoc] at own3))
        go_roundw
        case rel =>
          rw [← List.length_append] at own3
          exact ⟨k + 1, _, t ++ t2, R2, by go_num, by omega, by go_num, by omega, own3, hc3, hf3, hb3, hG3, Hfed2.out⟩
        case measure => simp [RowKit.intOf]; omega
    all_goals
      have Hd1 := Lib.hid (rd_piece (HA.out.below Hbw.out) (k := at_) (q := n - at_) (by omega))
      have HT1 := Lib.hid (Utf8Tabs_below HT.out (HG.out ▸ Hbw.out))
      have hpl : ((bs.drop at_).take (n - at_)).length ≤ n - at_ := by rw [List.length_take]; omega
      obtain ⟨pc, hpc⟩ : ∃ pc, (bs.drop at_).take (n - at_) = pc := ⟨_, rfl⟩
      have hpn : n - at_ = 0 → ∀ A' : Option Addr, Rd wr G 1 A' 0 (byteCells' pc) := fun h A' => by rw [← hpc, h]; exact rd_none rfl
      have hta : bs.take at_ ++ pc = bs := by rw [← hpc, ← List.take_add, List.take_of_length_le (by rw [Hbl.out]; omega)]
      rw [hpc] at hpl Hd1
      have Hta := Lib.hid hta
      have Hpn := Lib.hid hpn
      clear hpc hta hpn
      rcases Classical.em (c = at_) with rfl | hca
      all_goals
        go_wp2_with fail
        refine (feed_any wr G G _ _ _ R pc Hc.out Hf.out hGw (by first | exact Hd1.out | exact Hpn.out (by omega) _) (by omega) HT1.out).mono ?_
        rintro e w2 ⟨v2, t2, R2, fed2, rfl, own2, hc2, hf2, gr⟩
        have Hfed2 := Lib.hid (Hta.out ▸ fed_app Hfed.out pc fed2)
        have hl2 := fed_len fed2
        simp only [List.length_append, size_list] at hl2
        have hR3 := (fed_held (fed_rest fed2)).1
        have hR4 := (fed_held (fed_rest fed2)).2
        rw [size_list] at hR3 hR4
        have Hown1 := Lib.hid (Hown.out.kept gr (.inr fun e => by have := (Hown.out.lt G e).1; omega))
        have Hown2 := Lib.hid own2
        have K1 : Hid (t.length + t2.length ≤ maxLen) := by unfold Hid maxLen; omega
        have K2 : Hid ((t.length + t2.length) * 4 ≤ 140737488355328) := by unfold Hid; omega
        have K3 : Hid (G + 1 ≤ w2.heap.size) := by have := gr.size; unfold Hid; omega
        have K4 : Hid (t.length + t2.length + R2.size ≤ maxLen) := by unfold Hid maxLen; omega
        have K5 : Hid ((t.length + t2.length + R2.size) * 4 ≤ 140737488355328) := by unfold Hid; omega
        have Hend := Lib.hid fun w3 h => piece_end (w3 := w3) Hbw.out hGw gr Hown.out hc2 hf2 h
        clear fed2 own2
        go_wp2_with (first
          | (go_at_call 41; refine (held_any _ G R2 hc3).mono ?_; rintro e wh ⟨rfl, rfl⟩)
          | (at_builtin; refine wpList_append_rows rfl (.tmp 54) (.tmp 59) 28 rfl (G + 1) 21 i0 _ 4 Tryd.underlying28 hi hz0 hz1 hz2 rfl _ _ _ rfl Hown1.out _ _ _ _ rfl Hown2.out (ones_cells _) K1.out K2.out K3.out ?_; intro v3 w3 own3 gr3 _; obtain ⟨hc3, hf3, hb3, hG3⟩ := Hend.out w3 gr3; rw [cells_snoc] at own3))
        refine (end_held _ G R2 hc3 hf3 hG3 hR3 hR4).mono ?_
        rintro e w4 ⟨g4, c4, rfl, own4, hc4, hf4, gr4⟩
        have Own3 := Lib.hid (own3.kept gr4 (.inr fun e => by have := (own3.lt G e).1; omega))
        have Own4 := Lib.hid own4
        have K6 : Hid (G + 1 ≤ w4.heap.size) := by have := gr4.size; unfold Hid; omega
        have Hend4 := Lib.hid fun w5 h => piece_end (w3 := w5) hb3 hG3 gr4 own3 hc4 hf4 h
        clear own4 own3 gr4 hc4 hf4
        go_wp2_with (at_builtin; refine wpList_append_rows rfl (.tmp 65) (.tmp 66) 28 rfl (G + 1) 21 i0 _ 4 Tryd.underlying28 hi hz0 hz1 hz2 rfl _ _ _ rfl Own3.out _ _ _ _ rfl Own4.out (ones_cells _) K4.out K5.out K6.out ?_; intro v5 w5 own5 gr5 _; obtain ⟨hc5, hf5, hb5, hG5⟩ := Hend4.out w5 gr5; obtain ⟨A5, c5, rfl, _, _⟩ := own_shape own5; have hcv := bytes_string w5 G n c A bs (HA.out.below hb5); have Own5 := Lib.hid own5; clear own5 gr5)
        obtain ⟨hn5, R5⟩ := rd_all Own5.out Hfed2.out
        have hrz := fun hh => runes_zs ⟨bs.toArray⟩ (zsOf bs) (by simp) hh w5
        obtain ⟨ZS, hZS⟩ : ∃ ZS, zsOf bs = ZS := ⟨_, rfl⟩
        rw [hZS] at hn5 R5 hrz
        have HR5 := Lib.hid R5
        clear hZS R5 Own5
        rw [hn5]
        refine (hrz (by omega)).mono ?_
        rintro e w6 ⟨g6, c6, rfl, own6, b6⟩
        have HR6 := Lib.hid (Rd.own own6)
        have HR56 := Lib.hid ((HR5.out.below b6).more b6.size)
        have hc6 := (b6.cell (p := ⟨G, 0, none⟩) hG5).trans hc5
        have hf6 := (b6.frozen (p := ⟨G, 0, none⟩) hG5).trans hf5
        have hb6 := hb5.trans (b6.mono (by omega))
        have hG6 := Nat.lt_of_lt_of_le hG5 b6.size
        clear own6 b6 hc5 hf5 hb5 hG5 hrz HR5
        have Hc6 := Lib.hid hc6
        have Hf6 := Lib.hid hf6
        clear hc6 hf6
        go_wp2_with fail
        refine (same_yes w6 _ _ _ _ _ _ _ ZS HR56.out HR6.out (by unfold maxLen; omega)).mono ?_
        rintro e w7 ⟨rfl, b7⟩
        have Hc7 := Lib.hid ((b7.cell (p := ⟨G, 0, none⟩) hG6).trans Hc6.out)
        have Hf7 := Lib.hid ((b7.frozen (p := ⟨G, 0, none⟩) hG6).trans Hf6.out)
        have Hb7 := Lib.hid (hb6.trans (b7.mono (by omega)))
        have hG7 := Nat.lt_of_lt_of_le hG6 b7.size
        clear b7 hb6 hG6 Hc6 Hf6 HR6 HR56
        go_wp2_with fail
        refine (held_none w7 G Hc7.out).mono ?_
        rintro e w8 ⟨rfl, rfl⟩
        go_wp2_with fail
        refine (end_none _ G Hc7.out Hf7.out hG7).mono ?_
        rintro e w9 ⟨⟨g9, c9, rfl⟩, gr9⟩
        have Hb9 := Lib.hid (Hb7.out.grown gr9 (by omega) (fun k e => by cases e; exact Nat.le_refl _))
        clear gr9
        go_wp2_with fail
        refine (wakes_any _ (Utf8Tabs_below HT.out (HG.out ▸ Hb9.out))).mono ?_
        rintro e w10 ⟨rfl, b10⟩
        go_wp2_with fail
        go_ret
        exact ⟨rfl, Hb9.out.trans (b10.mono (by have := Hb9.out.size; have := HG.out; omega))⟩
end Go.Proofs.YthakdkpgobloiaaDoor
