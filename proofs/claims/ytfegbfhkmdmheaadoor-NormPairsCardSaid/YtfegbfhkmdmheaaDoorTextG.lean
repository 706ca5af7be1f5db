/- strings.Builder, as this translation has it: copyCheck, WriteByte, WriteRune; norm's text. -/
import Derived.Test.YtfegbfhkmdmheaaDoorRowPG
import Derived.Test.YtfegbfhkmdmheaaDoorShelf
import Derived.Lib.Builder
import Derived.Lib.RuneBytes
set_option linter.unusedSimpArgs false
set_option linter.unusedVariables false
namespace Go.Proofs.YtfegbfhkmdmheaaDoor
open Go.RowKit Go.Lib

theorem bsize : (Tryd.prog.info? 116).map (·.size) = some 2 := by kernel_rfl
theorem blies : liesAt Tryd.prog Tryd.prog.depth 116 (2 / Tryd.prog.cellsOf 116) 0 116 1 = true := by kernel_rfl
theorem bcell_info : (Tryd.prog.info? 5).map (fun i => (i.zero, i.size, i.bytes)) = some (some (.int .u8 0), 1, 1) := by kernel_rfl

set_option maxHeartbeats 1000000 in
set_option maxRecDepth 100000 in
theorem bcheck_used (b : Nat) (w : World) (h0 : w.cell? ⟨b, 0, none⟩ = some (.pointer (some ⟨b, 0, none⟩))) :
    Calls Tryd.prog 109 #[.pointer (some ⟨b, 0, none⟩)] w fun e w' => e = .returned (.tuple #[]) ∧ w' = w := by
  obtain ⟨j, hj, _⟩ := Option.map_eq_some_iff.1 bsize
  have hnil : ∀ W, (binOp .eql 114 (.pointer (some ⟨b, 0, none⟩)) (.pointer none)).run Tryd.prog W = .ok (.bool false) W := fun W => by first | rfl | kernel_rfl
  go_enter Tryd.func109, Tryd.ntmps109
  go_wp2
  rw [Lib.run_neq_ptr_same w _ Tryd.underlying114 hj]
  go_wp2
  exact ⟨rfl, _, results_none rfl _ _ _, rfl, rfl⟩
set_option maxHeartbeats 1000000 in
set_option maxRecDepth 100000 in
theorem bcheck_fresh (b : Nat) (w : World) (h0 : w.cell? ⟨b, 0, none⟩ = some (.pointer none)) (hsh : w.shape? b = some (116, 2)) (hfz : w.frozen? ⟨b, 0, none⟩ = false) :
    Calls Tryd.prog 109 #[.pointer (some ⟨b, 0, none⟩)] w fun e w' => e = .returned (.tuple #[]) ∧ w' = w.setCell ⟨b, 0, none⟩ (.pointer (some ⟨b, 0, none⟩)) := by
  obtain ⟨j, hj, hjs⟩ := Option.map_eq_some_iff.1 bsize
  go_enter Tryd.func109, Tryd.ntmps109
  go_wp2
  rw [Lib.run_to_unsafe w ⟨b, 0, none⟩ Tryd.underlying114 Tryd.underlying160 hj (by rw [hjs]; decide) hsh (Nat.zero_lt_succ 1)]
  simp only [Result.andThen]
  rw [Oper.upon_value]
  go_wp2
  rw [run_callFunc_extern Tryd.func128 (by kernel_rfl) (by kernel_rfl) (by kernel_rfl) (e := Extern.AbiNoEscape.same) (by kernel_rfl)]
  rw [Lib.run_noEscape]
  simp only [Result.andThen]
  rw [Oper.upon_value]
  go_wp2
  rw [Lib.run_from_unsafe w ⟨b, 0, none⟩ Tryd.underlying160 Tryd.underlying114 hj hsh blies]
  simp only [Result.andThen]
  rw [Oper.upon_value]
  go_wp2
  exact ⟨rfl, _, results_none rfl _ _ _, rfl, rfl⟩
theorem bcheck_any (B b : Nat) (bs : List Value) (w : World) (h : Lib.IsBuilder 116 5 B b bs w) :
    Calls Tryd.prog 109 #[.pointer (some ⟨b, 0, none⟩)] w fun e w' => e = .returned (.tuple #[]) ∧ Lib.BuilderAt 116 5 B b (.pointer (some ⟨b, 0, none⟩)) bs w' ∧ Below B w w' := by
  rcases h with h | h
  · refine (bcheck_fresh b w h.cell0 h.shape h.frozen0).mono ?_
    rintro e w' ⟨rfl, rfl⟩
    exact ⟨rfl, h.used _, (Below.refl B w).setCell (p := ⟨b, 0, none⟩) h.1 _⟩
  · refine (bcheck_used b w h.cell0).mono ?_
    rintro e w' ⟨rfl, rfl⟩
    exact ⟨rfl, h, Below.refl B _⟩

set_option maxHeartbeats 2000000 in
set_option maxRecDepth 100000 in
theorem bbyte_any (B b : Nat) (bs : List Value) (c : Int) (w : World) (h : Lib.IsBuilder 116 5 B b bs w) (hlen : bs.length + 1 ≤ 140737488355328) (hBw : B ≤ w.heap.size) :
    Calls Tryd.prog 98 #[.pointer (some ⟨b, 0, none⟩), .int .u8 c] w fun e w' => e = .returned .nilIface ∧ (Lib.BuilderAt 116 5 B b (.pointer (some ⟨b, 0, none⟩)) (bs ++ [.int .u8 c]) w' ∧ Below B w w') := by
  obtain ⟨i0, hi, hz0, hz1, hz2⟩ := info_parts bcell_info
  have HC := Lib.hid (bcheck_any B b bs w h)
  go_enter Tryd.func98, Tryd.ntmps98
  go_wp2_with fail
  refine HC.out.mono ?_
  rintro _ w1 ⟨rfl, h1, hb1⟩
  obtain ⟨hB, v, hbk, hown, hne⟩ := h1
  have c0 : w1.cell? ⟨b, 0, none⟩ = some (.pointer (some ⟨b, 0, none⟩)) := by rw [Lib.cell_of_heap hbk]; rfl
  have c1 : w1.cell? ⟨b, 1, none⟩ = some v := by rw [Lib.cell_of_heap hbk]; rfl
  have Hown := Lib.hid hown
  have Hb1 := Lib.hid hb1
  clear hown hb1
  go_wp2_with (at_builtin; refine wpList_append_own _ rfl _ _ 30 rfl B 5 i0 (.int .u8 0) 1 1 Tryd.underlying30 hi hz0 hz1 hz2 rfl (by decide) _ _ _ rfl (Hown.out.alloc _) ⟨w1.heap.size, 0, none⟩ 1 1 [.int .u8 c] rfl rfl ?c1 ?c2 ?c3 ?c4 ?c5 ?_)
  try (case c1 => exact new_cells w1 [.int .u8 c] 5)
  case c2 => intro u hu; simp at hu; subst hu; rfl
  case c3 => unfold maxLen; omega
  case c4 => omega
  case c5 => have := Hb1.out.size; simp; omega
  intro v' w2 hown2 hg2 _
  obtain ⟨g1, cap1, rfl⟩ := succ4 hown2
  have hlt : b < w1.heap.size := (Array.getElem?_eq_some_iff.1 hbk).1
  have hb2 : w2.heap[b]? = some (.cells #[.pointer (some ⟨b, 0, none⟩), v] 116 (0, 0)) := by
    rw [hg2.block b (by simp; omega) (fun e => hne e.symm), Lib.alloc_old w1 _ b hlt]
    exact hbk
  have d0 : w2.cell? ⟨b, 0, none⟩ = some (.pointer (some ⟨b, 0, none⟩)) := by rw [Lib.cell_of_heap hb2]; rfl
  have d1 : w2.cell? ⟨b, 1, none⟩ = some v := by rw [Lib.cell_of_heap hb2]; rfl
  have f1 : w2.frozen? ⟨b, 1, none⟩ = false := Lib.frozen_of_heap hb2 1
  have HP := Lib.hid (Lib.BuilderAt.put (T := 116) (e := 5) hB hb2 (bs' := bs ++ [.int .u8 c]) (by simpa using hown2) (by decide))
  have HB := Lib.hid (((Hb1.out.alloc (by have := Hb1.out.size; omega) _).grown hg2 (by have := Hb1.out.size; simp; omega) (fun k hk => (Hown.out.lt k hk).1)).setCell (p := ⟨b, 1, none⟩) hB (.slice (some ⟨g1, 0, none⟩) (bs.length + 1) cap1))
  clear hown2 hg2
  go_wp2
  go_ret
  exact ⟨rfl, HP.out, HB.out⟩

set_option maxHeartbeats 4000000 in
set_option maxRecDepth 100000 in
theorem brune_any (B b : Nat) (bs : List Value) (r : Int) (hr0 : -2147483648 ≤ r) (hr1 : r ≤ 2147483647) (w : World) (h : Lib.IsBuilder 116 5 B b bs w) (hlen : bs.length + 4 ≤ 140737488355328) (hBw : B ≤ w.heap.size) :
    Calls Tryd.prog 99 #[.pointer (some ⟨b, 0, none⟩), .int .i32 r] w fun e w' => (∃ v, e = .returned v) ∧ (Lib.BuilderAt 116 5 B b (.pointer (some ⟨b, 0, none⟩)) (bs ++ Lib.runeCells r) w' ∧ Below B w w') := by
  have HC := Lib.hid (bcheck_any B b bs w h)
  have hk4 := Lib.runeCells_le r
  go_enter Tryd.func99, Tryd.ntmps99
  go_wp2_with fail
  refine HC.out.mono ?_
  rintro _ w1 ⟨rfl, h1, hb1⟩
  obtain ⟨hB, v, hbk, hown, hne⟩ := h1
  obtain ⟨ao, cap, rfl⟩ : ∃ ao cap, v = .slice ao bs.length cap := by
    rcases hown.2 with ⟨hv, h0⟩ | ⟨g, cap, cur, hv, _⟩
    · exact ⟨none, 0, by rw [hv, h0]⟩
    · exact ⟨_, _, hv⟩
  have c0 : w1.cell? ⟨b, 0, none⟩ = some (.pointer (some ⟨b, 0, none⟩)) := by rw [Lib.cell_of_heap hbk]; rfl
  have c1 : w1.cell? ⟨b, 1, none⟩ = some (.slice ao bs.length cap) := by rw [Lib.cell_of_heap hbk]; rfl
  have HA := Lib.hid (Tryd.utf8_AppendRune_plain B (.slice ao bs.length cap) bs.length bs r hr0 hr1 w1 hown hlen (by have := hb1.size; omega))
  have Hown := Lib.hid hown
  have Hb1 := Lib.hid hb1
  clear hown hb1
  go_wp2_with fail
  refine HA.out.mono ?_
  rintro _ w2 ⟨v', rfl, hown', o, hgrow⟩
  have hlt : b < w1.heap.size := (Array.getElem?_eq_some_iff.1 hbk).1
  have hb2 : w2.heap[b]? = some (.cells #[.pointer (some ⟨b, 0, none⟩), .slice ao bs.length cap] 116 (0, 0)) := by
    rw [hgrow.block b (by simp; omega) (fun e => hne e.symm), Lib.alloc_old w1 _ b hlt]
    exact hbk
  have d0 : w2.cell? ⟨b, 0, none⟩ = some (.pointer (some ⟨b, 0, none⟩)) := by rw [Lib.cell_of_heap hb2]; rfl
  have d1 : w2.cell? ⟨b, 1, none⟩ = some (.slice ao bs.length cap) := by rw [Lib.cell_of_heap hb2]; rfl
  have f1 : w2.frozen? ⟨b, 1, none⟩ = false := Lib.frozen_of_heap hb2 1
  obtain ⟨A', cap', rfl, _⟩ := own_shape hown'
  have HP := Lib.hid (Lib.BuilderAt.put (T := 116) (e := 5) hB hb2 (bs' := bs ++ Lib.runeCells r) (by simpa using hown') (by decide))
  have HB := Lib.hid (((Hb1.out.alloc (by have := Hb1.out.size; omega) _).grown hgrow (by have := Hb1.out.size; simp; omega) (fun k hk => (Hown.out.lt k hk).1)).setCell (p := ⟨b, 1, none⟩) hB (.slice A' (bs.length + (Lib.runeCells r).length) cap'))
  clear hown' hgrow
  go_wp2
  go_ret2
  exact ⟨⟨_, rfl⟩, HP.out, HB.out⟩
end Go.Proofs.YtfegbfhkmdmheaaDoor

/- norm's text: the bytes of pieces. -/
namespace Go.Proofs.YtfegbfhkmdmheaaDoor
open Go.RowKit Go.Lib

def pieceB (p : Pc) : List UInt8 := if p.2.2 = 0 then Lib.encodeRune p.1 else [UInt8.ofNat p.2.2]
def textP (ps : List Pc) : List UInt8 := ps.flatMap pieceB
theorem textP_snoc (ps : List Pc) (p : Pc) : textP (ps ++ [p]) = textP ps ++ pieceB p := by simp [textP]
theorem keepB {B b : Nat} {bs : List Value} {w w' : World} (h : Lib.IsBuilder 116 5 B b bs w) (hk : ∀ k, k < w.heap.size → w'.heap[k]? = w.heap[k]?) : Lib.IsBuilder 116 5 B b bs w' := by
  have key : ∀ p, Lib.BuilderAt 116 5 B b p bs w → Lib.BuilderAt 116 5 B b p bs w' := by
    rintro p ⟨h1, v, h2, h3, h4⟩
    exact ⟨h1, v, (hk b (Array.getElem?_eq_some_iff.1 h2).1).trans h2, row_same4 h3 (fun k e => hk k (h3.lt k e).2), h4⟩
  exact h.imp (key _) (key _)
theorem pieceB_le (p : Pc) : (pieceB p).length ≤ 4 := by
  unfold pieceB
  split
  · have h1 := Lib.runeCells_le p.1
    rw [← Lib.byteCells_encodeRune] at h1
    have h2 : (Lib.encodeRune p.1).length ≤ 4 := by rw [← Lib.byteCells_length]; exact h1.2
    exact h2
  · simp
theorem textP_le (ps : List Pc) : (textP ps).length ≤ ps.length * 4 := by
  induction ps with
  | nil => simp [textP]
  | cons p t ih =>
    have := pieceB_le p
    simp only [textP, List.flatMap_cons, List.length_append, List.length_cons] at ih ⊢
    omega

set_option maxHeartbeats 4000000 in
set_option maxRecDepth 100000 in
theorem ntext_any (ps : List Pc) (A : Option Addr) (n c : Nat) (w : World) (hrd : Rd w w.heap.size 3 A n (flat encP ps)) (hn : n = ps.length) (hm : n ≤ 1073741824) (hok : ∀ p ∈ ps, -2147483648 ≤ p.1 ∧ p.1 ≤ 2147483647 ∧ p.2.2 < 256) :
    Calls Tryd.prog 66 #[.slice A n c] w fun e w' => e = .returned (.string ⟨(textP ps).toArray⟩) ∧ Below w.heap.size w w' := by
  obtain ⟨B, hB⟩ : ∃ B, w.heap.size = B := ⟨_, rfl⟩
  have Hrd := Lib.hid hrd
  have HN := Lib.hid hn
  have Hby := Lib.hid (fun B b bs c w h1 h2 h3 => bbyte_any B b bs c w h1 h2 h3)
  have Hru := Lib.hid (fun B b bs r a c w h1 h2 h3 => brune_any B b bs r a c w h1 h2 h3)
  have Hst := Lib.hid (fun B b l w h1 h2 => Tryd.Builder_String_any B b l w h1 h2)
  rw [hB] at Hrd ⊢
  obtain ⟨W, hW⟩ : ∃ W, w.alloc (.cells #[.pointer none, .slice none 0 0] 116) = W := ⟨_, rfl⟩
  have hI : Lib.IsBuilder 116 5 B B (Lib.byteCells (textP (ps.take 0))) W := by rw [← hW, ← hB]; exact Lib.fresh_isBuilder _ _ w
  have hBw : Below B w W := by rw [← hW, ← hB]; exact (Below.refl _ w).alloc (Nat.le_refl _) _
  have HI := Lib.hid hI
  have HBw := Lib.hid hBw
  have HW := Lib.hid hW
  have HB := Lib.hid hB
  clear hI hBw hW hB hrd hn
  go_enter Tryd.func66, Tryd.ntmps66
  go_wp2_with fail
  rw [HW.out, HB.out]
  go_loopw [8] (fun i wr => ∃ k : Nat, k ≤ n ∧ i = .int .i64 (k : Int) ∧ Lib.IsBuilder 116 5 B B (Lib.byteCells (textP (ps.take k))) wr ∧ Below B w wr ∧ B < wr.heap.size) (fun i _ => n - (RowKit.intOf i).toNat)
  case atStart => exact ⟨0, Nat.zero_le _, rfl, HI.out, HBw.out, by have h := HI.out; rcases h with h | h <;> exact h.lt⟩
  case round =>
    obtain ⟨k, hk, rfl, hib, hbw, hBlt⟩ := hrel
    by_cases hkn : k < n
    · have hki : (k : Int) < (n : Int) := by omega
      obtain ⟨x, hx⟩ : ∃ x, ps[k]? = some x := ⟨_, List.getElem?_eq_getElem (by have := HN.out; omega)⟩
      obtain ⟨a, rfl, hab, hc⟩ := Rd.addr (Hrd.out.below hbw) (by omega)
      have hx3 : ∀ j u, (encP x)[j]? = some u → wr.cell? ((a.add (k * 3)).add j) = some u := by
        intro j u hu
        rw [add_sum]
        exact hc _ u (flat_at encP_len ps k x hx j u hu)
      have hx0 : wr.cell? (a.add (k * 3)) = some (.int .i32 x.1) := by have := hx3 0 _ rfl; simpa [Addr.add] using this
      have hx1 : wr.cell? ⟨(a.add (k * 3)).block, (a.add (k * 3)).off + 1, none⟩ = some (.int .u8 (x.2.1 : Int)) := by have := hx3 1 _ rfl; simpa [Addr.add] using this
      have hx2 : wr.cell? ⟨(a.add (k * 3)).block, (a.add (k * 3)).off + 2, none⟩ = some (.int .u8 (x.2.2 : Int)) := by have := hx3 2 _ rfl; simpa [Addr.add] using this
      have hox := hok x (List.mem_of_getElem? hx)
      have htk : textP (ps.take (k + 1)) = textP (ps.take k) ++ pieceB x := by
        obtain ⟨h, rfl⟩ := List.getElem?_eq_some_iff.1 hx
        rw [List.take_succ_eq_append_getElem h, textP_snoc]
      have hlen := textP_le (ps.take k)
      have hlt := List.length_take_le k ps
      have hnn := HN.out
      obtain ⟨V, hV⟩ : ∃ V, wr.alloc (.cells #[.int .i32 x.1, .int .u8 (x.2.1 : Int), .int .u8 (x.2.2 : Int)] 100) = V := ⟨_, rfl⟩
      have hVX : V.heap[wr.heap.size]? = some (.cells #[.int .i32 x.1, .int .u8 (x.2.1 : Int), .int .u8 (x.2.2 : Int)] 100 (0, 0)) := by rw [← hV]; exact (MapKept.heap_alloc _ _).1
      have hVb : Below wr.heap.size wr V := by rw [← hV]; exact (Below.refl _ wr).alloc (Nat.le_refl _) _
      obtain ⟨bs, hbs⟩ : ∃ bs, textP (ps.take k) = bs := ⟨_, rfl⟩
      rw [hbs] at hib htk hlen
      have HIV := Lib.hid (keepB hib (fun k hk => hVb.block k hk))
      have hBV : B ≤ V.heap.size := by have := hVb.size; omega
      have v0 : V.cell? ⟨wr.heap.size, 0, none⟩ = some (.int .i32 x.1) := by simp [World.cell?, hVX]
      have v2 : V.cell? ⟨wr.heap.size, 2, none⟩ = some (.int .u8 (x.2.2 : Int)) := by simp [World.cell?, hVX]
      have hbl : (Lib.byteCells bs).length ≤ 4294967296 := by rw [Lib.byteCells_length]; omega
      have HBV := Lib.hid (hbw.trans (hVb.mono (by omega)))
      have HV := Lib.hid hV
      have Htk := Lib.hid htk
      clear hc hx3 hx hVX hVb hV hib hbw htk hbs hlen hlt hnn
      by_cases hb0 : x.2.2 = 0
      · have hz : ((x.2.2 : Int) != 0) = false := by simp [hb0]
        have hpb : pieceB x = Lib.encodeRune x.1 := by unfold pieceB; rw [if_pos hb0]
        rw [hpb] at Htk
        clear hb0 hpb
        go_wp2_with fail
        rw [HV.out]
        refine (Hru.out B B _ x.1 hox.1 hox.2.1 V HIV.out (by omega) hBV).mono ?_
        rintro _ w2 ⟨⟨rv, rfl⟩, hat, hb2⟩
        have HA := Lib.hid hat
        have HB2 := Lib.hid (HBV.out.trans hb2)
        clear hat hb2
        go_wp2
        go_roundw
        case rel =>
          refine ⟨k + 1, by omega, by go_num, ?_, HB2.out, HA.out.lt⟩
          rw [Htk.out, Lib.byteCells_append, Lib.byteCells_encodeRune]
          exact .inr HA.out
        case measure => simp [RowKit.intOf]; omega
      · have hz : ((x.2.2 : Int) != 0) = true := by simp [hb0]
        have hpb : pieceB x = [UInt8.ofNat x.2.2] := by unfold pieceB; rw [if_neg hb0]
        have hbc : Lib.byteCells [UInt8.ofNat x.2.2] = [.int .u8 (x.2.2 : Int)] := by
          have : (UInt8.ofNat x.2.2).toNat = x.2.2 := by simp; omega
          simp [Lib.byteCells, this]
        rw [hpb] at Htk
        clear hb0 hpb
        go_wp2_with fail
        rw [HV.out]
        refine (Hby.out B B _ (x.2.2 : Int) V HIV.out (by omega) hBV).mono ?_
        rintro _ w2 ⟨rfl, hat, hb2⟩
        have HA := Lib.hid hat
        have HB2 := Lib.hid (HBV.out.trans hb2)
        clear hat hb2
        go_wp2
        go_roundw
        case rel =>
          refine ⟨k + 1, by omega, by go_num, ?_, HB2.out, HA.out.lt⟩
          rw [Htk.out, Lib.byteCells_append, hbc]
          exact .inr HA.out
        case measure => simp [RowKit.intOf]; omega
    · obtain rfl : k = n := by omega
      have hnn := HN.out
      rw [List.take_of_length_le (by omega)] at hib
      have HS := Lib.hid (Hst.out B B (textP ps) wr hib (by omega))
      have Hbw := Lib.hid hbw
      clear hib hbw
      go_wp2_with fail
      refine HS.out.mono ?_
      rintro _ w2 ⟨rfl, hb2⟩
      have HB2 := Lib.hid (Hbw.out.trans hb2)
      clear hb2
      go_wp2_with fail
      go_ret
      exact ⟨rfl, HB2.out⟩
end Go.Proofs.YtfegbfhkmdmheaaDoor
