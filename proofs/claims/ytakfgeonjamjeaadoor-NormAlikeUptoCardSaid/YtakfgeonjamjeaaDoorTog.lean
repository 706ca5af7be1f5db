/- norm's Together. -/
import Derived.Test.YtakfgeonjamjeaaDoorAdd
namespace Go.Proofs.YtakfgeonjamjeaaDoor
open Go.RowKit Go.Lib

theorem lookP_le : ∀ (L : PL) (N : Int), (L.all fun x => decide (0 ≤ x.2) && decide (x.2 ≤ N)) = true → 0 ≤ N → ∀ a b, 0 ≤ lookP L a b ∧ lookP L a b ≤ N
  | [], N, _, hN, a, b => ⟨Int.le_refl _, hN⟩
  | x :: t, N, h, hN, a, b => by
    simp only [List.all_cons, Bool.and_eq_true, decide_eq_true_eq] at h
    unfold lookP
    split
    · exact h.1
    · exact lookP_le t N h.2 hN a b
theorem pairsL_le : (pairsL.all fun x => decide (0 ≤ x.2) && decide (x.2 ≤ 1114111)) = true := by decide +kernel
theorem pairZ_le (a b : Int) : 0 ≤ pairZ a b ∧ pairZ a b ≤ 1114111 := by
  unfold pairZ
  split
  · unfold syllZ
    split
    · omega
    · split
      · rename_i h1 h2
        have h3 := h2.1
        unfold openZ at h3
        have h4 := of_decide_eq_true (Bool.and_eq_true_iff.1 h3).1
        omega
      · omega
  · exact lookP_le pairsL 1114111 pairsL_le (by decide) a b
def stepT (s : List Pc × Option Nat) (p : Pc) : List Pc × Option Nat := addZ s.1 s.2 p
def togF (ps : List Pc) : List Pc × Option Nat := ps.foldl stepT ([], none)
/-- what Together says -/
def togS (l : List UInt8) : List UInt8 := textP (togF (apartP l)).1
theorem togF_snoc (ps : List Pc) (p : Pc) : togF (ps ++ [p]) = stepT (togF ps) p := by simp [togF]
theorem stepT_ok (s : List Pc × Option Nat) (p : Pc) (h : ∀ q ∈ s.1, OkP q) (hp : OkP p) : (∀ q ∈ (stepT s p).1, OkP q) ∧ (stepT s p).1.length ≤ s.1.length + 1 := by
  unfold stepT addZ
  split
  · rename_i hc
    refine ⟨fun q hq => ?_, by simp⟩
    rcases List.mem_or_eq_of_mem_set hq with hq | rfl
    · exact h q hq
    · have hb := pairZ_le (atZ s.1 s.2).1 p.1
      have hz : OkP (atZ s.1 s.2) := by
        unfold atZ
        rw [List.getD_eq_getElem?_getD]
        cases hg : s.1[s.2.getD 0]? with
        | none => exact ⟨by decide, by decide, by decide, by decide⟩
        | some y => exact h y (List.mem_of_getElem? hg)
      exact ⟨hb.1, hb.2, hz.2.2.1, hz.2.2.2⟩
  · refine ⟨fun q hq => ?_, by simp⟩
    rcases List.mem_append.1 hq with hq | hq
    · exact h q hq
    · rw [List.mem_singleton.1 hq]; exact hp
theorem togF_ok1 : ∀ (ps : List Pc) (s : List Pc × Option Nat), (∀ q ∈ s.1, OkP q) → (∀ q ∈ ps, OkP q) → (∀ q ∈ (ps.foldl stepT s).1, OkP q) ∧ (ps.foldl stepT s).1.length ≤ s.1.length + ps.length
  | [], s, hs, _ => ⟨hs, Nat.le_refl _⟩
  | p :: ps, s, hs, h => by
    have h2 := stepT_ok s p hs (h p List.mem_cons_self)
    have h3 := togF_ok1 ps (stepT s p) h2.1 (fun q hq => h q (List.mem_cons_of_mem _ hq))
    rw [List.foldl_cons, List.length_cons]
    exact ⟨h3.1, by omega⟩
theorem togF_ok (ps : List Pc) (h : ∀ q ∈ ps, OkP q) : (∀ q ∈ (togF ps).1, OkP q) ∧ (togF ps).1.length ≤ ps.length := by
  have h1 := togF_ok1 ps ([], none) (fun q hq => by simp at hq) h
  exact ⟨h1.1, by have := h1.2; simp at this; exact this⟩

set_option maxRecDepth 100000 in
set_option maxHeartbeats 4000000 in
theorem Together_any (s : ByteArray) (w : World) (hs : s.size ≤ 134217728) (hT : Utf8Tabs 0 1 w) : Calls Tryd.prog 22 #[.string s] w fun e w' => e = .returned (.string ⟨(togS s.data.toList).toArray⟩) ∧ Below w.heap.size w w' := by
  obtain ⟨i0, hi, hz0, hz1, hz2⟩ := info_parts pieceN_info
  have HA := Lib.hid (apart_any s w (by omega) hT)
  have HX := Lib.hid (fun ps A n c w a b c' d => ntext_any ps A n c w a b c' d)
  have HAdd := Lib.hid (fun B C made st p w a b c d e => add_any B C made st p w a b c d e)
  have hlen := apartP_len s.data.toList
  have hsl := size_list s
  have hok := apartP_ok s.data.toList
  unfold togS
  obtain ⟨ps, hps⟩ : ∃ ps, apartP s.data.toList = ps := ⟨_, rfl⟩
  rw [hps] at HA hlen hok ⊢
  rw [hsl] at hlen
  obtain ⟨n, hn⟩ : ∃ n, ps.length = n := ⟨_, rfl⟩
  rw [hn] at HA hlen
  have HN := Lib.hid hn
  have Hok := Lib.hid hok
  obtain ⟨R, hR⟩ : ∃ R, (⟨(textP (togF ps).1).toArray⟩ : ByteArray) = R := ⟨_, rfl⟩
  rw [hR]
  have HR := Lib.hid hR
  clear hps hsl hn hR hok hT
  go_enter Tryd.func22, Tryd.ntmps22
  go_wp2_with fail
  refine HA.out.mono ?_
  rintro _ w1 ⟨A, c, rfl, hown, b1⟩
  have HRd := Lib.hid (Rd.own hown)
  have Hb1 := Lib.hid b1
  obtain ⟨W0, hrun, hown0, hg0⟩ := run_make_own (P := Tryd.prog) w1 w1.heap.size 49 64 i0 _ 3 Tryd.underlying49 hi hz0 hz1 .i64 .i64 n (by rw [hz2]; omega) (by unfold maxLen; omega) (Nat.le_refl _)
  obtain ⟨B, hB⟩ : ∃ B, w1.heap.size = B := ⟨_, rfl⟩
  rw [hB] at hrun hown0 HRd
  have hb0 : Below B w1 W0 := (Below.refl B w1).grown hg0 (by omega) (fun k hk => by cases hk)
  obtain ⟨C, hC⟩ : ∃ C, W0.heap.size = C := ⟨_, rfl⟩
  obtain ⟨W, hW⟩ : ∃ W, W0.alloc (.cells #[.slice (some ⟨B, 0, none⟩) 0 n, .bool false, .int .i64 0, .map none] 52) = W := ⟨_, rfl⟩
  have hCW : W.heap[C]? = some (.cells #[.slice (some ⟨B, 0, none⟩) 0 n, .bool false, .int .i64 0, .map none] 52 (0, 0)) := by rw [← hW, ← hC]; exact (MapKept.heap_alloc _ _).1
  have hWb : Below C W0 W := by rw [← hW, ← hC]; exact (Below.refl _ W0).alloc (Nat.le_refl _) _
  have hBC : B ≤ C := by have := hb0.size; omega
  have hcomp : Comp W B C [] none := ⟨hBC, (fun k e => by cases e), _, _, hCW, own_below hown0 (by rw [hC]; exact hWb), .inl rfl⟩
  have Hcomp := Lib.hid hcomp
  have HW := Lib.hid hW
  have HBW : Hid (Below B w1 W) := Lib.hid (hb0.trans (hWb.mono hBC))
  have HC := Lib.hid hC
  have HB := Lib.hid hB
  clear hown b1 hown0 hg0 hb0 hC hW hCW hWb hcomp hB
  go_wp2_with fail
  rw [HW.out, HC.out]
  go_loopw [15] (fun i wr => ∃ k : Nat, k ≤ n ∧ i = .int .i64 (k : Int) ∧ Comp wr B C (togF (ps.take k)).1 (togF (ps.take k)).2 ∧ Below B w1 wr) (fun i _ => n - (RowKit.intOf i).toNat)
  case atStart => exact ⟨0, Nat.zero_le _, rfl, Hcomp.out, HBW.out⟩
  case round =>
    obtain ⟨k, hk, rfl, hcp, hbw⟩ := hrel
    have hBw : B ≤ wr.heap.size := by have := hbw.size; have := HB.out; omega
    by_cases hkn : k < n
    · have hki : (k : Int) < (n : Int) := by omega
      obtain ⟨x, hx⟩ : ∃ x, ps[k]? = some x := ⟨_, List.getElem?_eq_getElem (by rw [HN.out]; exact hkn)⟩
      obtain ⟨a, rfl, hab, hc⟩ := Rd.addr (HRd.out.below hbw) (by omega)
      have hx3 : ∀ j u, (encP x)[j]? = some u → wr.cell? ((a.add (k * 3)).add j) = some u := by
        intro j u hu
        rw [add_sum]
        exact hc _ u (flat_at encP_len ps k x hx j u hu)
      have hx0 : wr.cell? (a.add (k * 3)) = some (.int .i32 x.1) := by have := hx3 0 _ rfl; simpa [Addr.add] using this
      have hx1 : wr.cell? ⟨(a.add (k * 3)).block, (a.add (k * 3)).off + 1, none⟩ = some (.int .u8 (x.2.1 : Int)) := by have := hx3 1 _ rfl; simpa [Addr.add] using this
      have hx2 : wr.cell? ⟨(a.add (k * 3)).block, (a.add (k * 3)).off + 2, none⟩ = some (.int .u8 (x.2.2 : Int)) := by have := hx3 2 _ rfl; simpa [Addr.add] using this
      obtain ⟨V, hV⟩ : ∃ V, wr.alloc (.cells #[.int .i32 x.1, .int .u8 (x.2.1 : Int), .int .u8 (x.2.2 : Int)] 64) = V := ⟨_, rfl⟩
      have hVb : Below wr.heap.size wr V := by rw [← hV]; exact (Below.refl _ wr).alloc (Nat.le_refl _) _
      have htk : togF (ps.take (k + 1)) = stepT (togF (ps.take k)) x := by
        obtain ⟨h, rfl⟩ := List.getElem?_eq_some_iff.1 hx
        rw [List.take_succ_eq_append_getElem h, togF_snoc]
      have hto := togF_ok (ps.take k) (fun q hq => Hok.out q (List.mem_of_mem_take hq))
      have hlt := List.length_take_le k ps
      have hxo := Hok.out x (List.mem_of_getElem? hx)
      have HAd := Lib.hid (HAdd.out B C (togF (ps.take k)).1 (togF (ps.take k)).2 x V (hcp.below hVb) (by have := hVb.size; omega) (by omega) (fun q hq => ⟨by have := (hto.1 q hq).1; omega, by have := (hto.1 q hq).2.1; omega⟩) ⟨by have := hxo.1; omega, by have := hxo.2.1; omega⟩)
      have Htk := Lib.hid htk
      have HV := Lib.hid hV
      have HBV := Lib.hid (hbw.trans (hVb.mono hBw))
      clear hx hc hx3 hV hVb htk hto hlt hcp hbw
      go_wp2_with fail
      rw [HV.out]
      refine HAd.out.mono ?_
      rintro _ w2 ⟨rfl, hcp2, hb2⟩
      have Hcp2 := Lib.hid hcp2
      have Hb2 := Lib.hid (HBV.out.trans hb2)
      clear hcp2 hb2
      go_wp2
      go_roundw
      case rel =>
        refine ⟨k + 1, by omega, by go_num, ?_, Hb2.out⟩
        rw [Htk.out]
        exact Hcp2.out
      case measure => simp [RowKit.intOf]; omega
    · obtain rfl : k = n := by omega
      rw [List.take_of_length_le (by rw [HN.out]; exact Nat.le_refl _)] at hcp
      have hto := togF_ok ps Hok.out
      obtain ⟨h1, h2, v, mv, h3, h4, h5⟩ := hcp
      obtain ⟨Av, cv, rfl, _, _⟩ := own_shape h4
      have c0 : wr.cell? ⟨C, 0, none⟩ = some (.slice Av (togF ps).1.length cv) := by simp [World.cell?, h3]
      have hnn := HN.out
      have HTx := HX.out (togF ps).1 Av _ cv wr (Rd.own h4) rfl (by omega) (fun p hp => ⟨by have := (hto.1 p hp).1; omega, by have := (hto.1 p hp).2.1; omega, (hto.1 p hp).2.2.2⟩)
      rw [HR.out] at HTx
      have HT2 := Lib.hid HTx
      have Hbw := Lib.hid hbw
      clear HTx h2 h3 h4 h5 hto hbw
      go_wp2_with fail
      refine HT2.out.mono ?_
      rintro _ w2 ⟨rfl, b2⟩
      have Hb2 := Lib.hid (Hbw.out.trans (b2.mono hBw))
      clear b2
      go_wp2_with fail
      go_ret
      exact ⟨rfl, Hb1.out.trans (Hb2.out.mono (by have := Hb1.out.size; have := HB.out; omega))⟩
end Go.Proofs.YtakfgeonjamjeaaDoor
