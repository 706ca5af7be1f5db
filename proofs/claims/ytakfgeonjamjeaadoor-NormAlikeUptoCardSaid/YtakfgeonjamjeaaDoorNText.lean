/- norm's text: the bytes of pieces. -/
import Derived.Test.YtakfgeonjamjeaaDoorBuild
namespace Go.Proofs.YtakfgeonjamjeaaDoor
open Go.RowKit Go.Lib

def pieceB (p : Pc) : List UInt8 := if p.2.2 = 0 then Lib.encodeRune p.1 else [UInt8.ofNat p.2.2]
def textP (ps : List Pc) : List UInt8 := ps.flatMap pieceB
theorem textP_snoc (ps : List Pc) (p : Pc) : textP (ps ++ [p]) = textP ps ++ pieceB p := by simp [textP]
theorem keepB {B b : Nat} {bs : List Value} {w w' : World} (h : Lib.IsBuilder 88 5 B b bs w) (hk : ∀ k, k < w.heap.size → w'.heap[k]? = w.heap[k]?) : Lib.IsBuilder 88 5 B b bs w' := by
  have key : ∀ p, Lib.BuilderAt 88 5 B b p bs w → Lib.BuilderAt 88 5 B b p bs w' := by
    rintro p ⟨h1, v, h2, h3, h4⟩
    exact ⟨h1, v, (hk b (Array.getElem?_eq_some_iff.1 h2).1).trans h2, row_same4 h3 (fun k e => hk k (h3.lt k e).2), h4⟩
  exact h.imp (key _) (key _)
theorem pieceB_le (p : Pc) : (pieceB p).length ≤ 4 := by
  unfold pieceB
  split
  · have h1 := Lib.runeCells_le p.1
    rw [← Lib.byteCells_encodeRune] at h1
    have h2 : (Lib.encodeRune p.1).length ≤ 4 := by rw [← Lib.byteCells_length]; exact h1.2
    exact h2
  · simp
theorem textP_le (ps : List Pc) : (textP ps).length ≤ ps.length * 4 := by
  induction ps with
  | nil => simp [textP]
  | cons p t ih =>
    have := pieceB_le p
    simp only [textP, List.flatMap_cons, List.length_append, List.length_cons] at ih ⊢
    omega

set_option maxHeartbeats 4000000 in
set_option maxRecDepth 100000 in
theorem ntext_any (ps : List Pc) (A : Option Addr) (n c : Nat) (w : World) (hrd : Rd w w.heap.size 3 A n (flat encP ps)) (hn : n = ps.length) (hm : n ≤ 1073741824) (hok : ∀ p ∈ ps, -2147483648 ≤ p.1 ∧ p.1 ≤ 2147483647 ∧ p.2.2 < 256) :
    Calls Tryd.prog 44 #[.slice A n c] w fun e w' => e = .returned (.string ⟨(textP ps).toArray⟩) ∧ Below w.heap.size w w' := by
  obtain ⟨B, hB⟩ : ∃ B, w.heap.size = B := ⟨_, rfl⟩
  have Hrd := Lib.hid hrd
  have HN := Lib.hid hn
  have Hby := Lib.hid (fun B b bs c w h1 h2 h3 => bbyte_any B b bs c w h1 h2 h3)
  have Hru := Lib.hid (fun B b bs r a c w h1 h2 h3 => brune_any B b bs r a c w h1 h2 h3)
  have Hst := Lib.hid (fun B b l w h1 h2 => Tryd.Builder_String_any B b l w h1 h2)
  rw [hB] at Hrd ⊢
  obtain ⟨W, hW⟩ : ∃ W, w.alloc (.cells #[.pointer none, .slice none 0 0] 88) = W := ⟨_, rfl⟩
  have hI : Lib.IsBuilder 88 5 B B (Lib.byteCells (textP (ps.take 0))) W := by rw [← hW, ← hB]; exact Lib.fresh_isBuilder _ _ w
  have hBw : Below B w W := by rw [← hW, ← hB]; exact (Below.refl _ w).alloc (Nat.le_refl _) _
  have HI := Lib.hid hI
  have HBw := Lib.hid hBw
  have HW := Lib.hid hW
  have HB := Lib.hid hB
  clear hI hBw hW hB hrd hn
  go_enter Tryd.func44, Tryd.ntmps44
  go_wp2_with fail
  rw [HW.out, HB.out]
  go_loopw [8] (fun i wr => ∃ k : Nat, k ≤ n ∧ i = .int .i64 (k : Int) ∧ Lib.IsBuilder 88 5 B B (Lib.byteCells (textP (ps.take k))) wr ∧ Below B w wr ∧ B < wr.heap.size) (fun i _ => n - (RowKit.intOf i).toNat)
  case atStart => exact ⟨0, Nat.zero_le _, rfl, HI.out, HBw.out, by have h := HI.out; rcases h with h | h <;> exact h.lt⟩
  case round =>
    obtain ⟨k, hk, rfl, hib, hbw, hBlt⟩ := hrel
    by_cases hkn : k < n
    · have hki : (k : Int) < (n : Int) := by omega
      obtain ⟨x, hx⟩ : ∃ x, ps[k]? = some x := ⟨_, List.getElem?_eq_getElem (by have := HN.out; omega)⟩
      obtain ⟨a, rfl, hab, hc⟩ := Rd.addr (Hrd.out.below hbw) (by omega)
      have hx3 : ∀ j u, (encP x)[j]? = some u → wr.cell? ((a.add (k * 3)).add j) = some u := by
        intro j u hu
        rw [add_sum]
        exact hc _ u (flat_at encP_len ps k x hx j u hu)
      have hx0 : wr.cell? (a.add (k * 3)) = some (.int .i32 x.1) := by have := hx3 0 _ rfl; simpa [Addr.add] using this
      have hx1 : wr.cell? ⟨(a.add (k * 3)).block, (a.add (k * 3)).off + 1, none⟩ = some (.int .u8 (x.2.1 : Int)) := by have := hx3 1 _ rfl; simpa [Addr.add] using this
      have hx2 : wr.cell? ⟨(a.add (k * 3)).block, (a.add (k * 3)).off + 2, none⟩ = some (.int .u8 (x.2.2 : Int)) := by have := hx3 2 _ rfl; simpa [Addr.add] using this
      have hox := hok x (List.mem_of_getElem? hx)
      have htk : textP (ps.take (k + 1)) = textP (ps.take k) ++ pieceB x := by
        obtain ⟨h, rfl⟩ := List.getElem?_eq_some_iff.1 hx
        rw [List.take_succ_eq_append_getElem h, textP_snoc]
      have hlen := textP_le (ps.take k)
      have hlt := List.length_take_le k ps
      have hnn := HN.out
      obtain ⟨V, hV⟩ : ∃ V, wr.alloc (.cells #[.int .i32 x.1, .int .u8 (x.2.1 : Int), .int .u8 (x.2.2 : Int)] 64) = V := ⟨_, rfl⟩
      have hVX : V.heap[wr.heap.size]? = some (.cells #[.int .i32 x.1, .int .u8 (x.2.1 : Int), .int .u8 (x.2.2 : Int)] 64 (0, 0)) := by rw [← hV]; exact (MapKept.heap_alloc _ _).1
      have hVb : Below wr.heap.size wr V := by rw [← hV]; exact (Below.refl _ wr).alloc (Nat.le_refl _) _
      obtain ⟨bs, hbs⟩ : ∃ bs, textP (ps.take k) = bs := ⟨_, rfl⟩
      rw [hbs] at hib htk hlen
      have HIV := Lib.hid (keepB hib (fun k hk => hVb.block k hk))
      have hBV : B ≤ V.heap.size := by have := hVb.size; omega
      have v0 : V.cell? ⟨wr.heap.size, 0, none⟩ = some (.int .i32 x.1) := by simp [World.cell?, hVX]
      have v2 : V.cell? ⟨wr.heap.size, 2, none⟩ = some (.int .u8 (x.2.2 : Int)) := by simp [World.cell?, hVX]
      have hbl : (Lib.byteCells bs).length ≤ 4294967296 := by rw [Lib.byteCells_length]; omega
      have HBV := Lib.hid (hbw.trans (hVb.mono (by omega)))
      have HV := Lib.hid hV
      have Htk := Lib.hid htk
      clear hc hx3 hx hVX hVb hV hib hbw htk hbs hlen hlt hnn
      by_cases hb0 : x.2.2 = 0
      · have hz : ((x.2.2 : Int) != 0) = false := by simp [hb0]
        have hpb : pieceB x = Lib.encodeRune x.1 := by unfold pieceB; rw [if_pos hb0]
        rw [hpb] at Htk
        clear hb0 hpb
        go_wp2_with fail
        rw [HV.out]
        refine (Hru.out B B _ x.1 hox.1 hox.2.1 V HIV.out (by omega) hBV).mono ?_
        rintro _ w2 ⟨⟨rv, rfl⟩, hat, hb2⟩
        have HA := Lib.hid hat
        have HB2 := Lib.hid (HBV.out.trans hb2)
        clear hat hb2
        go_wp2
        go_roundw
        case rel =>
          refine ⟨k + 1, by omega, by go_num, ?_, HB2.out, HA.out.lt⟩
          rw [Htk.out, Lib.byteCells_append, Lib.byteCells_encodeRune]
          exact .inr HA.out
        case measure => simp [RowKit.intOf]; omega
      · have hz : ((x.2.2 : Int) != 0) = true := by simp [hb0]
        have hpb : pieceB x = [UInt8.ofNat x.2.2] := by unfold pieceB; rw [if_neg hb0]
        have hbc : Lib.byteCells [UInt8.ofNat x.2.2] = [.int .u8 (x.2.2 : Int)] := by
          have : (UInt8.ofNat x.2.2).toNat = x.2.2 := by simp; omega
          simp [Lib.byteCells, this]
        rw [hpb] at Htk
        clear hb0 hpb
        go_wp2_with fail
        rw [HV.out]
        refine (Hby.out B B _ (x.2.2 : Int) V HIV.out (by omega) hBV).mono ?_
        rintro _ w2 ⟨rfl, hat, hb2⟩
        have HA := Lib.hid hat
        have HB2 := Lib.hid (HBV.out.trans hb2)
        clear hat hb2
        go_wp2
        go_roundw
        case rel =>
          refine ⟨k + 1, by omega, by go_num, ?_, HB2.out, HA.out.lt⟩
          rw [Htk.out, Lib.byteCells_append, hbc]
          exact .inr HA.out
        case measure => simp [RowKit.intOf]; omega
    · obtain rfl : k = n := by omega
      have hnn := HN.out
      rw [List.take_of_length_le (by omega)] at hib
      have HS := Lib.hid (Hst.out B B (textP ps) wr hib (by omega))
      have Hbw := Lib.hid hbw
      clear hib hbw
      go_wp2_with fail
      refine HS.out.mono ?_
      rintro _ w2 ⟨rfl, hb2⟩
      have HB2 := Lib.hid (Hbw.out.trans hb2)
      clear hb2
      go_wp2_with fail
      go_ret
      exact ⟨rfl, HB2.out⟩
end Go.Proofs.YtakfgeonjamjeaaDoor
