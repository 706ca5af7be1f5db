/- The program's reader: Feed, walked at every text held and every piece. -/
import Derived.Test.YtfegbfhkmdmheaaDoorFedP
import Derived.Test.YtfegbfhkmdmheaaDoorRefEG
import Derived.Test.YtfegbfhkmdmheaaDoorScanG
import Derived.Test.YtfegbfhkmdmheaaDoorScanE
import Derived.RegionTactic
import Derived.Test.YtfegbfhkmdmheaaDoorAllP
set_option linter.unusedSimpArgs false
set_option linter.unusedVariables false
namespace Go.Proofs.YtfegbfhkmdmheaaDoor
open Go.RowKit Go.Lib

theorem bytes_string (w : World) (B n c : Nat) (A : Option Addr) (bs : List UInt8) (R : Rd w B 1 A n (byteCells' bs)) : (convert 30 9 (.slice A n c)).run Tryd.prog w = .ok (.string ⟨bs.toArray⟩) w := by
  have hl : bs.length = n := by have := R.1; simpa [byteCells'] using this
  subst hl
  rcases A with _ | a
  · have h0 : bs.length = 0 := by
      rcases Nat.eq_zero_or_pos bs.length with h0 | h0
      · exact h0
      · obtain ⟨a, e, _⟩ := R.addr h0
        cases e
    have : bs = [] := List.eq_nil_of_length_eq_zero h0
    rw [this, run_convert_bytes_string w _ _ 5 _ _ _ Tryd.underlying30 Tryd.underlying5 Tryd.underlying9]
    rfl
  · exact run_convert_bytes_back w _ _ 5 a c bs Tryd.underlying30 Tryd.underlying5 Tryd.underlying9 (fun j hj => by
      obtain ⟨a', e, _, hc⟩ := R.addr (by omega)
      injection e with e
      subst e
      exact hc j _ (by simp [byteCells', hj]))

theorem clone_any (s : ByteArray) (w : World) (hs : s.size ≤ 281474976710656) : Calls Tryd.prog 54 #[.string s] w fun e w' => e = .returned (.string s) ∧ Below w.heap.size w w' := by
  have H := Lib.hid (Tryd.stringslite_Clone s w hs)
  go_enter Tryd.func54, Tryd.ntmps54
  go_wp2_with fail
  refine H.out.mono ?_
  rintro e w' ⟨rfl, hb⟩
  go_wp2_with fail
  go_ret
  exact ⟨rfl, hb⟩
theorem grown_set (w : World) (p : Addr) (u : Value) : w.grownBy (w.setCell p u) (some p.block) := ⟨rfl, rfl, rfl, by simp [World.setCell], fun k _ hk => heap_setCell_other w p k u (fun e => hk (by simp [e]))⟩

theorem feed_end {w wr w3 : World} {Q g : Nat} {e : TypeId} {n : Nat} {v : Value} {xs : List Value} {held R : ByteArray} (hQ : w.heap.size = Q) (hg : g < Q) (hc : w.cell? ⟨g, 0, none⟩ = some (.string held)) (hf : w.frozen? ⟨g, 0, none⟩ = false)
    (hbw : Below Q w wr) (hown : wr.ownsRow (Q + 1) e 1 v n xs) (b3 : Below wr.heap.size wr w3) :
    w3.cell? ⟨g, 0, none⟩ = some (.string held) ∧ w3.frozen? ⟨g, 0, none⟩ = false ∧ (w3.setCell ⟨g, 0, none⟩ (.string R)).ownsRow Q e 1 v n xs ∧ (w3.setCell ⟨g, 0, none⟩ (.string R)).cell? ⟨g, 0, none⟩ = some (.string R) ∧
    (w3.setCell ⟨g, 0, none⟩ (.string R)).frozen? ⟨g, 0, none⟩ = false ∧ w.grownBy (w3.setCell ⟨g, 0, none⟩ (.string R)) (some g) := by
  have hQr : Q ≤ wr.heap.size := hQ ▸ hbw.size
  have hb := hbw.trans (b3.mono hQr)
  have hc3 : w3.cell? ⟨g, 0, none⟩ = some (.string held) := (hb.cell (p := ⟨g, 0, none⟩) hg).trans hc
  have hf3 : w3.frozen? ⟨g, 0, none⟩ = false := (World.frozen?_of_block (a := ⟨g, 0, none⟩) (hb.block g hg)).trans hf
  refine ⟨hc3, hf3, own_base ((own_below hown b3).kept (grown_set w3 ⟨g, 0, none⟩ _) (.inr fun e => ?_)) (Nat.le_succ Q), World.cell?_setCell_same' _ _ _ (by rw [hc3]; rfl), by rw [World.frozen?_setCell]; exact hf3, ?_⟩
  · have := (hown.lt g e).1
    omega
  · subst hQ
    have h2 := grown_set w3 ⟨g, 0, none⟩ (.string R)
    exact ⟨hb.os, hb.tape, hb.output, Nat.le_trans hb.size h2.size, fun k hk hne => (h2.block k (Nat.lt_of_lt_of_le hk hb.size) hne).trans (hb.block k hk)⟩

set_option maxRecDepth 100000 in
set_option maxHeartbeats 4000000 in
theorem feed_any (w : World) (g B n c : Nat) (A : Option Addr) (held : ByteArray) (bs : List UInt8) (hc : w.cell? ⟨g, 0, none⟩ = some (.string held)) (hf : w.frozen? ⟨g, 0, none⟩ = false) (hg : g < w.heap.size)
    (hR : Rd w B 1 A n (byteCells' bs)) (hsz : held.size + bs.length ≤ 1073741824) (hT : U8 w) :
    Calls Tryd.prog 25 #[.pointer (some ⟨g, 0, none⟩), .slice A n c] w fun e w' => ∃ v t, ∃ R : ByteArray, Fed (held.data.toList ++ bs) t R.data.toList ∧ e = .returned v ∧ w'.ownsRow w.heap.size 21 1 v t.length (runeCells' t) ∧
      w'.cell? ⟨g, 0, none⟩ = some (.string R) ∧ w'.frozen? ⟨g, 0, none⟩ = false ∧ w.grownBy w' (some g) := by
  obtain ⟨i0, hi, hz0, hz1, hz2⟩ := info_parts rune_info
  have hcv := bytes_string w.drew B n c A bs hR
  obtain ⟨b, hb⟩ : ∃ b : ByteArray, ⟨bs.toArray⟩ = b := ⟨_, rfl⟩
  have hbl : b.data.toList = bs := by rw [← hb]
  have hbs : b.size = bs.length := by rw [← hbl, size_list]
  rw [hb] at hcv
  rw [← hbl]
  rw [← hbs] at hsz
  clear hbl hbs hb hR
  have hl : ¬ (9223372036854775807 < held.size + b.size) := by omega
  obtain ⟨Q, hQ⟩ : ∃ Q, w.heap.size = Q := ⟨_, rfl⟩
  have hTl : (held ++ b).data.toList = held.data.toList ++ b.data.toList := by simp
  have hTs : (held ++ b).size = held.size + b.size := by simp
  rw [← hTl]
  obtain ⟨T, hT'⟩ : ∃ T, held ++ b = T := ⟨_, rfl⟩
  rw [hT'] at hTl hTs ⊢
  have hTm : T.size ≤ 1073741824 := by omega
  obtain ⟨L, hL⟩ : ∃ L, T.data.toList = L := ⟨_, rfl⟩
  have hLs : L.length = T.size := by rw [← hL, size_list]
  have HL := Lib.hid hL
  have HLs := Lib.hid hLs
  have HQ := Lib.hid hQ
  have HT := Lib.hid hT
  have HT' := Lib.hid hT'
  have hit0 : (w.drew.iter T 0).heap[Q]? = some (.stringIter T 0) := by rw [← hQ]; exact World.iter_heap w.drew T 0
  have hb0 : Below Q w (w.drew.iter T 0) := (below_N (Below.refl Q w) 1).alloc (by show Q ≤ w.heap.size; omega) _
  have Hit0 := Lib.hid hit0
  have Hb0 := Lib.hid hb0
  rw [hL, hQ]
  rw [hQ] at hg
  clear hT hTl hTs hL hLs hT' hit0 hb0 hsz hQ
  go_enter Tryd.func25, Tryd.ntmps25
  go_wp2_with fail
  go_step3
  go_wp2_with fail
  go_region
  rw [HT'.out]
  have Hc := Lib.hid hc
  have Hf := Lib.hid hf
  clear hl hcv hc hf
  have hQ := HQ.out
  go_wp2_with fail
  go_step3
  go_wp2_with fail
  clear hQ
  go_loopw [6, 7] (fun x v wr => x = .int .i64 T.size ∧ ∃ (pos : Nat) (t : List Nat), wr.heap[Q]? = some (.stringIter T pos) ∧ wr.ownsRow (Q + 1) 21 1 v t.length (runeCells' t) ∧ Below Q w wr ∧ Hid (∀ t' r, Fed (L.drop pos) t' r → Fed L (t ++ t') r) ∧ t.length ≤ pos ∧ pos ≤ T.size) (fun _ _ wr => T.size - wr.iterPos Q)
  case atStart => exact ⟨rfl, 0, [], Hit0.out, World.ownsRow_nil _ _ _ _, Hb0.out, fun t' r h => h, Nat.le_refl _, Nat.zero_le _⟩
  case round =>
    obtain ⟨rfl, pos, t, hit, hown, hbw, hseg, htl, hp0⟩ := hrel
    by_cases hp : pos < T.size
    · have hd := decode_dec T pos hp0
      have hlp : pos < L.length := by rw [HLs.out]; exact hp
      have hne := drop_ne L pos hlp
      have hd2 := next_le L pos hlp
      have hd3 := dec_pos (L.drop pos)
      have hfn := full_ne (L.drop pos) hne
      have hw := fun W (hb : Below Q w W) => whole_any (T.extract pos T.size) W (by rw [ByteArray.size_extract]; unfold maxLen; omega) (Utf8Tabs_below HT.out (HQ.out ▸ hb))
      rw [drop_list, HL.out] at hw
      rw [HL.out] at hd
      rw [HLs.out] at hd2
      have hst : full (L.drop pos) = true → ∀ t' r, Fed (L.drop (pos + (dec (L.drop pos)).2)) t' r → Fed L ((t ++ [(dec (L.drop pos)).1]) ++ t') r := by
        intro hfu t' r h
        rw [List.append_assoc]
        refine hseg.out _ _ (Fed.step _ _ _ hne hfu ?_)
        rw [List.drop_drop]
        exact h
      have hbr : full (L.drop pos) = false → Fed L t (L.drop pos) := by
        intro hfu
        have := hseg.out [] (L.drop pos) (.stop _ (.inr hfu))
        rwa [List.append_nil] at this
      obtain ⟨fu, hfu⟩ : ∃ b, full (L.drop pos) = b := ⟨_, rfl⟩
      rw [hfu] at hfn hw hst hbr
      obtain ⟨d, hdd⟩ : ∃ d, dec (L.drop pos) = d := ⟨_, rfl⟩
      rw [hdd] at hd hd2 hd3 hfn hst
      obtain ⟨d1, d2⟩ := d
      simp only at hd2 hd3 hfn hst
      have hnx : ∀ ty, (Instr.next (.pointer (some ⟨Q, 0, none⟩)) true ty).run Tryd.prog wr = .ok (.tuple #[.bool true, .int .i64 pos, .int .i32 d1]) (wr.iterAt Q T (pos + d2)) := fun ty => by
        rw [Lib.run_next_any_at wr Q T pos ty hit hp, hd]
      have hlt : Q < wr.heap.size := (Array.getElem?_eq_some_iff.1 hit).1
      have hit2 := Lib.hid (Lib.iterAt_heap wr Q T pos (pos + d2) hit)
      have hown2 := Lib.hid (own_iterAt hown (Nat.lt_succ_self Q) T (pos + d2))
      have hbw2 := Lib.hid (Lib.below_iterAt hbw (Nat.le_refl Q) T (pos + d2))
      have hlt2 : Q < (wr.iterAt Q T (pos + d2)).heap.size := by rw [Lib.iterAt_size]; exact hlt
      have Hpos := Lib.hid (iterPos_at hit)
      have Hst := Lib.hid hst
      have Hbr := Lib.hid hbr
      have Hw := Lib.hid hw
      have Hfn := Lib.hid hfn
      clear hd hdd hfu hit hown hlt hst hbr hw hfn hne hlp hseg
      obtain ⟨w1, hw1⟩ : ∃ w1, wr.iterAt Q T (pos + d2) = w1 := ⟨_, rfl⟩
      rw [hw1] at hnx hit2 hown2 hbw2 hlt2
      clear hw1
      obtain ⟨x, hx⟩ : ∃ x : Int, (d1 : Int) = x := ⟨_, rfl⟩
      by_cases h3 : x = 65533
      · rw [hx, h3] at hnx
        have Hx : Hid ((d1 : Int) = 65533) := hx.trans h3
        have hww := Hw.out w1 hbw2.out
        have Hww := Lib.hid hww
        clear hx h3 Hfn Hw hww
        go_wp2_with fail
        refine Hww.out.mono ?_
        rintro e w2 ⟨rfl, b2⟩
        have hown4 := Lib.hid (own_below hown2.out b2)
        have hbw4 := Lib.hid (hbw2.out.trans (b2.mono (by omega)))
        have hit4 : Hid (w2.heap[Q]? = some (.stringIter T (pos + d2))) := (b2.block Q hlt2).trans hit2.out
        have hlt4 : Q < w2.heap.size := Nat.lt_of_lt_of_le hlt2 b2.size
        clear b2 hown2 hbw2 hit2 hlt2 Hww
        cases fu with
        | true =>
          go_wp2_with (at_builtin; refine wpList_append_own _ rfl _ _ 36 rfl (Q + 1) 21 i0 _ 1 4 Tryd.underlying36 hi hz0 hz1 hz2 rfl (by decide) _ _ _ rfl (hown4.out.alloc _) ⟨w2.heap.size, 0, none⟩ 1 1 [.int .i32 65533] rfl rfl ?c1 ?c2 ?c3 ?c4 ?c5 ?_)
          try (case c1 => exact new_cells w2 [.int .i32 65533] 21)
          case c2 => simp [Value.oneCell']
          case c3 => unfold maxLen; omega
          case c4 => omega
          case c5 => first | omega | (simp; omega)
          intro v' wz hown3 hg2 _
          have hit3 : wz.heap[Q]? = some (.stringIter T (pos + d2)) := by
            rw [hg2.block Q (by simp; omega) (fun e => by have := (hown4.out.lt _ e.symm).1; omega)]
            exact (Below.heap_alloc w2 _ Q hlt4).trans hit4.out
          have Hit3 := Lib.hid hit3
          have Hbz := Lib.hid ((hbw4.out.alloc (by omega) (.cells #[.int .i32 65533] 21)).grown hg2 (by simp; omega) (fun k hk => by have := (hown4.out.lt k hk).1; omega))
          have Hown3 : Hid (wz.ownsRow (Q + 1) 21 1 v' (t ++ [d1]).length (runeCells' (t ++ [d1]))) := by
            unfold Hid runeCells'
            rw [List.map_append, List.length_append]
            simp only [List.map_cons, List.map_nil, Hx.out]
            exact hown3
          clear hit3 hown3 hg2
          go_wp2_with fail
          go_roundw
          case rel => exact ⟨rfl, pos + d2, t ++ [d1], Hit3.out, Hown3.out, Hbz.out, Hst.out (by trivial), by simp; omega, hd2⟩
          case measure =>
            rw [Hpos.out, iterPos_at Hit3.out]
            omega
        | false =>
          have Hfed : Hid (Fed L t (T.extract pos T.size).data.toList) := by
            unfold Hid
            rw [drop_list, HL.out]
            exact Hbr.out rfl
          clear Hbr Hst hit4
          go_wp2_with fail
          refine (clone_any _ w2 (by rw [ByteArray.size_extract]; omega)).mono ?_
          rintro e w3 ⟨rfl, b3⟩
          obtain ⟨hc3, hf3, E⟩ := feed_end (R := T.extract pos T.size) HQ.out hg Hc.out Hf.out hbw4.out hown4.out b3
          have HE := Lib.hid E
          clear E b3
          go_wp2_with fail
          rw [Exit.noGoto_ret]
          go_ret
          exact ⟨_, t, _, Hfed.out, rfl, HE.out.1, HE.out.2.1, HE.out.2.2.1, HE.out.2.2.2⟩
      · have hfu := Hfn.out (by omega)
        subst hfu
        have hxb : (x == 65533) = false := by simpa using h3
        have Hx := Lib.hid hx
        rw [hx] at hnx
        clear hx h3 Hw Hbr Hfn
        go_wp2_with (at_builtin; refine wpList_append_own _ rfl _ _ 36 rfl (Q + 1) 21 i0 _ 1 4 Tryd.underlying36 hi hz0 hz1 hz2 rfl (by decide) _ _ _ rfl (hown2.out.alloc _) ⟨w1.heap.size, 0, none⟩ 1 1 [.int .i32 x] rfl rfl ?c1 ?c2 ?c3 ?c4 ?c5 ?_)
        try (case c1 => exact new_cells w1 [.int .i32 x] 21)
        case c2 => simp [Value.oneCell']
        case c3 => unfold maxLen; omega
        case c4 => omega
        case c5 => first | omega | (simp; omega)
        intro v' wz hown3 hg2 _
        have hit3 : wz.heap[Q]? = some (.stringIter T (pos + d2)) := by
          rw [hg2.block Q (by simp; omega) (fun e => by have := (hown2.out.lt _ e.symm).1; omega)]
          exact (Below.heap_alloc w1 _ Q hlt2).trans hit2.out
        have Hit3 := Lib.hid hit3
        have Hbz := Lib.hid ((hbw2.out.alloc (by omega) (.cells #[.int .i32 x] 21)).grown hg2 (by simp; omega) (fun k hk => by have := (hown2.out.lt k hk).1; omega))
        have Hown3 : Hid (wz.ownsRow (Q + 1) 21 1 v' (t ++ [d1]).length (runeCells' (t ++ [d1]))) := by
          unfold Hid runeCells'
          rw [List.map_append, List.length_append]
          simp only [List.map_cons, List.map_nil, Hx.out]
          exact hown3
        clear hit3 hown3 hg2
        go_wp2_with fail
        go_roundw
        case rel => exact ⟨rfl, pos + d2, t ++ [d1], Hit3.out, Hown3.out, Hbz.out, Hst.out (by trivial), by simp; omega, hd2⟩
        case measure =>
          rw [Hpos.out, iterPos_at Hit3.out]
          omega
    · have hnx : ∀ ty, (Instr.next (.pointer (some ⟨Q, 0, none⟩)) true ty).run Tryd.prog wr = _ := fun ty => Lib.run_next_end_at wr Q T pos ty hit hp
      have hfed : Fed L t ByteArray.empty.data.toList := by
        have h := hseg.out [] [] (by rw [List.drop_of_length_le (by rw [HLs.out]; omega)]; exact .stop [] (.inl rfl))
        rw [List.append_nil] at h
        exact h
      have Hfed := Lib.hid hfed
      have Hbw := Lib.hid hbw
      have Hown := Lib.hid hown
      clear hfed hseg hit hbw hown
      go_wp2_with fail
      refine (clone_any _ wr (by simp)).mono ?_
      rintro e w3 ⟨rfl, b3⟩
      obtain ⟨hc3, hf3, E⟩ := feed_end (R := ByteArray.empty) HQ.out hg Hc.out Hf.out Hbw.out Hown.out b3
      have HE := Lib.hid E
      clear E b3
      go_wp2_with fail
      rw [Exit.noGoto_ret]
      go_ret
      exact ⟨_, t, _, Hfed.out, rfl, HE.out.1, HE.out.2.1, HE.out.2.2.1, HE.out.2.2.2⟩
end Go.Proofs.YtfegbfhkmdmheaaDoor
