/- The document's Together (pure): what stands in it, step by step. -/
import Derived.Test.YtakfgeonjamjeaaDoorTextRG
import Derived.Test.YtakfgeonjamjeaaDoorNormG
import Derived.Deep.RegionLaw
namespace Go.Proofs.YtakfgeonjamjeaaDoor
open Go.RowKit Go.Lib

def stv : Option Nat → Int
  | none => -1
  | some k => (k : Int)
def at0 (made : List Pc) (k : Nat) : Pc := made.getD k (0, 0, 0)
structure StM (made : List Pc) (st : Option Nat) : Prop where
  it : ∀ p ∈ made, ItP p
  raw : ∀ p ∈ made, p.2.2 ≠ 0 → p.1 = 0
  lt : ∀ k, st = some k → k < made.length ∧ (at0 made k).2.1 = 0
  aft : ∀ k j, st = some k → k < j → j < made.length → (at0 made j).2.1 ≠ 0
theorem stm_nil : StM [] none := StM.mk (fun _ h => by cases h) (fun _ h => by cases h) (fun _ e => by cases e) (fun _ _ e => by cases e)
theorem at0_mem {made : List Pc} {k : Nat} (h : k < made.length) : at0 made k ∈ made := by
  unfold at0
  rw [List.getD_eq_getElem?_getD, List.getElem?_eq_getElem h]
  exact List.getElem_mem h
theorem at0_get {made : List Pc} {k : Nat} (h : k < made.length) : made[k]? = some (at0 made k) := by
  unfold at0
  rw [List.getD_eq_getElem?_getD, List.getElem?_eq_getElem h]
  rfl
theorem at0_left {made more : List Pc} {k : Nat} (h : k < made.length) : at0 (made ++ more) k = at0 made k := by
  unfold at0
  rw [List.getD_eq_getElem?_getD, List.getD_eq_getElem?_getD, List.getElem?_append_left h]
theorem at0_last (made : List Pc) (p : Pc) : at0 (made ++ [p]) made.length = p := by
  unfold at0
  rw [List.getD_eq_getElem?_getD, List.getElem?_append_right (Nat.le_refl _), Nat.sub_self]
  rfl
theorem at0_set {made : List Pc} {q j : Nat} {p : Pc} (h : q < made.length) : at0 (made.set q p) j = if q = j then p else at0 made j := by
  unfold at0
  rw [List.getD_eq_getElem?_getD, List.getD_eq_getElem?_getD, List.getElem?_set]
  by_cases e : q = j
  · rw [if_pos e, if_pos e, if_pos (by omega)]; rfl
  · rw [if_neg e, if_neg e]
theorem add_app {made : List Pc} {st : Option Nat} {p : Pc} (h : ¬ (reachZ made st p = true ∧ bothZ made st p ≠ 0)) : addZ made st p = (made ++ [p], if p.2.1 = 0 then some made.length else st) := by
  unfold addZ
  rw [if_neg h]
theorem add_set {made : List Pc} {q : Nat} {p : Pc} (h : reachZ made (some q) p = true) (h2 : pairZ (at0 made q).1 p.1 ≠ 0) : addZ made (some q) p = (made.set q (pairZ (at0 made q).1 p.1, (at0 made q).2), some q) := by
  unfold addZ
  have h3 : bothZ made (some q) p = pairZ (at0 made q).1 p.1 := rfl
  rw [if_pos ⟨h, by rw [h3]; exact h2⟩, h3]
  rfl
theorem stm_app {made : List Pc} {st : Option Nat} {p : Pc} (h : StM made st) (hp : ItP p) (hw : p.2.2 ≠ 0 → p.1 = 0) : StM (made ++ [p]) (if p.2.1 = 0 then some made.length else st) := by
  by_cases c : p.2.1 = 0
  · rw [if_pos c]
    refine ⟨fun y hy => ?_, fun y hy hz => ?_, fun k e => ?_, fun k j e hk hj => ?_⟩
    · rcases List.mem_append.1 hy with hy | hy
      · exact h.it y hy
      · rw [List.mem_singleton.1 hy]; exact hp
    · rcases List.mem_append.1 hy with hy | hy
      · exact h.raw y hy hz
      · rw [List.mem_singleton.1 hy] at hz ⊢; exact hw hz
    · injection e with e
      subst e
      exact ⟨by simp, by rw [at0_last]; exact c⟩
    · injection e with e
      simp at hj
      omega
  · rw [if_neg c]
    refine ⟨fun y hy => ?_, fun y hy hz => ?_, fun k e => ?_, fun k j e hk hj => ?_⟩
    · rcases List.mem_append.1 hy with hy | hy
      · exact h.it y hy
      · rw [List.mem_singleton.1 hy]; exact hp
    · rcases List.mem_append.1 hy with hy | hy
      · exact h.raw y hy hz
      · rw [List.mem_singleton.1 hy] at hz ⊢; exact hw hz
    · have := h.lt k e
      exact ⟨by simp; omega, by rw [at0_left this.1]; exact this.2⟩
    · simp at hj
      rcases Nat.lt_or_ge j made.length with h2 | h2
      · rw [at0_left h2]; exact h.aft k j e hk h2
      · obtain rfl : j = made.length := by omega
        rw [at0_last]; exact c
theorem stm_set {made : List Pc} {q : Nat} {z x : Int} (h : StM made (some q)) (hz : z = pairZ (at0 made q).1 x) (hne : z ≠ 0) (hr : (at0 made q).2.2 = 0) : StM (made.set q (z, (at0 made q).2)) (some q) := by
  have h1 := h.lt q rfl
  refine ⟨fun y hy => ?_, fun y hy hz => ?_, fun k e => ?_, fun k j e hk hj => ?_⟩
  · rcases List.mem_or_eq_of_mem_set hy with hy | rfl
    · exact h.it y hy
    · refine ⟨by show (at0 made q).2.2 < 256; omega, .inl ⟨hr, ?_⟩⟩
      show (at0 made q).2.1 = markZ z
      rw [h1.2, hz, (pair_good _ _ (by rw [← hz]; exact hne)).2]
  · rcases List.mem_or_eq_of_mem_set hy with hy | rfl
    · exact h.raw y hy hz
    · exact absurd hr hz
  · injection e with e
    subst e
    exact ⟨by rw [List.length_set]; exact h1.1, by rw [at0_set h1.1, if_pos rfl]; exact h1.2⟩
  · injection e with e
    subst e
    rw [List.length_set] at hj
    rw [at0_set h1.1, if_neg (by omega)]
    exact h.aft q j rfl hk hj
theorem flat_set3 : ∀ (made : List Pc) (q : Nat) (z : Int), q < made.length → (flat encI made).set (q * 3) (.int .i32 z) = flat encI (made.set q (z, (at0 made q).2))
  | [], q, z, h => by simp at h
  | x :: t, 0, z, _ => by
    rw [flat_cons4, List.set_cons_zero, flat_cons4]
    rfl
  | x :: t, q + 1, z, h => by
    have ih := flat_set3 t q z (by simpa using h)
    rw [flat_cons4, List.set_cons_succ, flat_cons4, show at0 (x :: t) (q + 1) = at0 t q by simp [at0], ← ih, List.set_append_right _ _ (by rw [encI_len]; omega), encI_len]
    congr 2
    omega
theorem reach_none (made : List Pc) (p : Pc) : reachZ made none p = false := rfl
theorem togF_next {ps : List Pc} {k : Nat} {x : Pc} {made : List Pc} {st : Option Nat} (hx : ps[k]? = some x) (h : togF (ps.take k) = (made, st)) : togF (ps.take (k + 1)) = addZ made st x := by
  obtain ⟨hk, rfl⟩ := List.getElem?_eq_some_iff.1 hx
  rw [List.take_succ_eq_append_getElem hk, togF_snoc, h]
  rfl
theorem both_raw {made : List Pc} {q : Nat} {p : Pc} (h : p.1 = 0 ∨ (at0 made q).1 = 0) : bothZ made (some q) p = 0 := by
  show pairZ (at0 made q).1 p.1 = 0
  rcases h with h | h
  · rw [h]; exact pair_none_r _
  · rw [h]; exact pair_none_l _
end Go.Proofs.YtakfgeonjamjeaaDoor

/- The document's Together, walked. (Made by tools/mktogr.py.) -/
namespace Go.Proofs.YtakfgeonjamjeaaDoor
open Go.RowKit Go.Lib

theorem below_Dt {B : Nat} {w w' : World} (h : Below B w w') : Below B w w'.drew := ⟨h.os, h.tape, h.output, h.size, h.block⟩
set_option maxRecDepth 100000 in
set_option maxHeartbeats 8000000 in
theorem rtog_any (s : ByteArray) (w : World) (hs : s.size ≤ 134217728) :
    Calls Tryd.prog 23 #[.string s] w fun e w' => e = .returned (.string ⟨(togS s.data.toList).toArray⟩) ∧ Below w.heap.size w w' := by
  obtain ⟨i0, hi, hz0, hz1, hz2⟩ := info_parts item_info
  have hap := rapart_any s w hs
  have hit := apartP_it s.data.toList
  have hraw : ∀ p ∈ apartP s.data.toList, p.2.2 ≠ 0 → p.1 = 0 := fun p hp h => by
    rcases (apartP_fair _ p hp).2 with ⟨a, _⟩ | ⟨_, a, _⟩
    · exact absurd a h
    · exact a
  have hlen := apartP_len s.data.toList
  rw [size_list] at hlen
  have hgood := good_tog s.data.toList
  have hok2 := (togF_ok (apartP s.data.toList) (apartP_ok s.data.toList))
  unfold togS
  obtain ⟨ps, hps⟩ : ∃ ps, apartP s.data.toList = ps := ⟨_, rfl⟩
  rw [hps] at hap hit hraw hlen hgood hok2 ⊢
  have HX := Lib.hid (fun A n c w h1 h2 h3 => rtext_any (togF ps).1 A n c w h1 h2 h3 (fun p hp => ⟨(hok2.1 p hp).2.2.2, fun h => by
    rcases hgood p hp with h' | h'
    · exact h'.2.1
    · exact absurd h h'.1⟩))
  obtain ⟨R, hR⟩ : ∃ R, (textP (togF ps).1).toArray = R := ⟨_, rfl⟩
  simp only [hR] at HX
  rw [hR]
  have hTl := hok2.2
  obtain ⟨n, hn⟩ : ∃ n, ps.length = n := ⟨_, rfl⟩
  rw [hn] at hap hlen hTl
  have hfin : togF (ps.take n) = togF ps := by rw [List.take_of_length_le (by omega)]
  have Hap := Lib.hid hap
  have Hit := Lib.hid hit
  have Hraw := Lib.hid hraw
  have Hn := Lib.hid hn
  have Hfin := Lib.hid hfin
  have HMk := Lib.hid (fun (p : Pc) (hp : ItP p) w => rmark_any p hp w)
  clear hap hit hraw hgood hok2 hps hR hn hfin
  go_enter Tryd.func23, Tryd.ntmps23
  go_wp2_with fail
  refine Hap.out.mono ?_
  rintro _ w1 ⟨v1, rfl, own1, b1⟩
  obtain ⟨A1, c1, rfl, _, _⟩ := own_shape own1
  have Hb1 := Lib.hid b1
  obtain ⟨B1, hB1⟩ : ∃ B1, w1.heap.size = B1 := ⟨_, rfl⟩
  have HB1 := Lib.hid hB1
  have Hrd := Lib.hid (fun (W : World) (hb : Below B1 w1 W) => (show Rd W B1 3 A1 n (flat encI ps) from by rw [← hB1] at hb ⊢; exact (Rd.own own1).below hb))
  have Hbb := Lib.hid (show w.heap.size ≤ B1 by rw [← hB1]; exact b1.size)
  clear own1 b1 hB1
  go_wp2_with fail
  go_loopw [4, 5, 6, 7, 8, 9, 10, 11] (fun v sv i _ _ _ _ _ wr => ∃ (k : Nat) (made : List Pc) (st : Option Nat) (W : World), W = wr ∧ sv = .int .i64 (stv st) ∧ i = .int .i64 (k : Int) ∧ k ≤ n ∧ Hid (togF (ps.take k) = (made, st)) ∧ Hid (W.ownsRow B1 56 3 v made.length (flat encI made)) ∧ Hid (Below B1 w1 W) ∧ Hid (StM made st) ∧ made.length ≤ k) (fun _ _ i _ _ _ _ _ _ => n - (RowKit.intOf i).toNat)
  case atStart => exact ⟨0, [], none, _, rfl, rfl, rfl, Nat.zero_le _, Lib.hid rfl, Lib.hid (World.ownsRow_nil _ _ _ _), Lib.hid (by rw [← HB1.out]; exact Below.refl _ _), Lib.hid stm_nil, Nat.le_refl _⟩
  case round =>
    obtain ⟨k, made, st, W, hW, rfl, rfl, hk, Htg, Hown, HbW, Hst, hmk⟩ := hrel
    subst hW
    have SW : B1 ≤ W.heap.size := by have := HbW.out.size; have := HB1.out; omega
    by_cases hkn : k < n
    · have hki : (k : Int) < (n : Int) := by omega
      obtain ⟨x, hx⟩ : ∃ x, ps[k]? = some x := ⟨_, List.getElem?_eq_getElem (by rw [Hn.out]; exact hkn)⟩
      have hitx := Hit.out x (List.mem_of_getElem? hx)
      have hrawx := Hraw.out x (List.mem_of_getElem? hx)
      obtain ⟨a, rfl, hab, hc⟩ := (Hrd.out W HbW.out).addr (by omega)
      have hx3 : ∀ j u, (encI x)[j]? = some u → W.cell? ((a.add (k * 3)).add j) = some u := by
        intro j u hu
        rw [add_sum]
        exact hc _ u (flat_at encI_len ps k x hx j u hu)
      have x0 : W.cell? (a.add (k * 3)) = some (.int .i32 x.1) := by have := hx3 0 _ rfl; simpa [Addr.add] using this
      have x1 : W.cell? ⟨(a.add (k * 3)).block, (a.add (k * 3)).off + 1, none⟩ = some (.bool (x.2.2 != 0)) := by have := hx3 1 _ rfl; simpa [Addr.add] using this
      have x2 : W.cell? ⟨(a.add (k * 3)).block, (a.add (k * 3)).off + 2, none⟩ = some (.int .u8 (x.2.2 : Int)) := by have := hx3 2 _ rfl; simpa [Addr.add] using this
      have HM := Lib.hid (HMk.out x hitx)
      obtain ⟨M, hM⟩ : ∃ M : Int, (x.2.1 : Int) = M := ⟨_, rfl⟩
      obtain ⟨xb, hxb⟩ : ∃ b, (x.2.2 != 0) = b := ⟨_, rfl⟩
      obtain ⟨xq, hxq⟩ : ∃ b, x.1 = b := ⟨_, rfl⟩
      obtain ⟨xr, hxr⟩ : ∃ b : Int, (x.2.2 : Int) = b := ⟨_, rfl⟩
      have hex : encI x = [.int .i32 xq, .bool xb, .int .u8 xr] := by unfold encI; rw [hxb, hxq, hxr]
      have Hxb : Hid ((xb = true → x.2.2 ≠ 0) ∧ (xb = false → x.2.2 = 0)) := by unfold Hid; rw [← hxb]; exact ⟨fun h => by simpa using h, fun h => by simpa using h⟩
      rw [hM, hxb, hxq, hxr] at HM
      rw [hxb] at x1
      rw [hxr] at x2
      rw [hxq] at x0
      have Hex := Lib.hid hex
      have Hxq := Lib.hid hxq
      have Hnx := Lib.hid (togF_next hx Htg.out)
      obtain ⟨V, hV⟩ : ∃ V, W.alloc (.cells #[.int .i32 xq, .bool xb, .int .u8 xr] 56) = V := ⟨_, rfl⟩
      obtain ⟨C, hC⟩ : ∃ C, W.heap.size = C := ⟨_, rfl⟩
      have hVX : V.heap[C]? = some (.cells #[.int .i32 xq, .bool xb, .int .u8 xr] 56 (0, 0)) := by rw [← hV, ← hC]; exact (MapKept.heap_alloc _ _).1
      have hVb : Below B1 W V := by rw [← hV]; exact (Below.refl _ W).alloc SW _
      have hCV : C < V.heap.size := (Array.getElem?_eq_some_iff.1 hVX).1
      have HD := Lib.hid (fun (W' : World) (hb : Below V.heap.size V W') => show W'.cell? ⟨C, 0, none⟩ = some (.int .i32 xq) ∧ W'.cell? ⟨C, 1, none⟩ = some (.bool xb) ∧ W'.cell? ⟨C, 2, none⟩ = some (.int .u8 xr) from
        ⟨(hb.cell (p := ⟨C, 0, none⟩) hCV).trans (by simp [World.cell?, hVX]), (hb.cell (p := ⟨C, 1, none⟩) hCV).trans (by simp [World.cell?, hVX]), (hb.cell (p := ⟨C, 2, none⟩) hCV).trans (by simp [World.cell?, hVX])⟩)
      have HbV := Lib.hid (HbW.out.trans hVb)
      have HownV := Lib.hid (by have h := Hown.out.alloc (.cells #[.int .i32 xq, .bool xb, .int .u8 xr] 56); rw [hV] at h; exact h)
      have SV : B1 ≤ V.heap.size := by have := hVb.size; omega
      obtain ⟨e0, e1, e2⟩ := HD.out V (Below.refl _ _)
      have HV := Lib.hid hV
      have HC := Lib.hid hC
      clear hc hx3 hx hab hxb hxq hxr hex hVX hVb hV hC hCV Hown
      go_wp2_with fail
      rw [HV.out, HC.out]
      refine (HM.out _).mono ?_
      rintro _ wm ⟨rfl, bm⟩
      have Hdwm := Lib.hid bm
      clear bm e0 e1 e2 x0 x1 x2
      rcases st with _ | q
      · -- no starter yet
        have hbz : ¬ (reachZ made none x = true ∧ bothZ made none x ≠ 0) := fun h => by cases h.1
        have hst1 : stv none = -1 := rfl
        rw [hst1]
        obtain ⟨Av, cv, hvv, _, _⟩ := own_shape HownV.out
        subst hvv
        by_cases hm0 : M = 0
        · have hx0 : x.2.1 = 0 := by omega
          have hmb : (M == 0) = true := by simp [hm0]
          have Happ : addZ made (none) x = (made ++ [x], some made.length) := by rw [add_app hbz, if_pos hx0]
          have Hst9 : StM (made ++ [x]) (some made.length) := by
            have h := stm_app Hst.out hitx hrawx
            rw [if_pos hx0] at h
            exact h
          clear hx0 hm0
          obtain ⟨d0, d1, d2⟩ := HD.out _ Hdwm.out
          have SVwm : B1 ≤ wm.heap.size := Nat.le_trans SV Hdwm.out.size
          have Ownwm := Lib.hid (own_below HownV.out Hdwm.out)
          have Hwwm := Lib.hid (HbV.out.trans (Hdwm.out.mono SV))
          go_wp2_with (at_builtin; refine wpList_append_own _ rfl _ _ 54 rfl B1 56 i0 _ 3 8 Tryd.underlying54 hi hz0 hz1 hz2 rfl (by decide) _ _ _ rfl (Ownwm.out.alloc _) ⟨wm.heap.size, 0, none⟩ 1 1 [.int .i32 xq, .bool xb, .int .u8 xr] rfl rfl (new_cells wm [.int .i32 xq, .bool xb, .int .u8 xr] 56) (by simp [Value.oneCell']) (by unfold maxLen; omega) (by omega) (by simp; omega) ?_)
          intro v9 w9 own9 g9 _
          have Hb9 := Lib.hid ((Hwwm.out.alloc SVwm (.cells #[.int .i32 xq, .bool xb, .int .u8 xr] 56)).grown g9 (by simp; omega) (fun g hg => (Ownwm.out.lt g hg).1))
          have Own9 := Lib.hid own9
          clear own9 g9
          go_wp2
          go_roundw
          case rel =>
            refine ⟨k + 1, made ++ [x], some made.length, _, rfl, by first | rfl | (rw [hL]; rfl), by go_num, by omega, Lib.hid (by rw [Hnx.out]; exact Happ), Lib.hid ?_, Hb9, Lib.hid Hst9, by simp; omega⟩
            rw [List.length_append, flat_append, show flat encI [x] = encI x by simp [flat], Hex.out]
            first | (rw [hL]; exact Own9.out) | exact Own9.out
          case measure => simp [RowKit.intOf]; omega
        · have hx0 : ¬ x.2.1 = 0 := by omega
          have hmb : (M == 0) = false := by simp [hm0]
          have Happ : addZ made (none) x = (made ++ [x], none) := by rw [add_app hbz, if_neg hx0]
          have Hst9 : StM (made ++ [x]) (none) := by
            have h := stm_app Hst.out hitx hrawx
            rw [if_neg hx0] at h
            exact h
          clear hx0 hm0
          obtain ⟨d0, d1, d2⟩ := HD.out _ Hdwm.out
          have SVwm : B1 ≤ wm.heap.size := Nat.le_trans SV Hdwm.out.size
          have Ownwm := Lib.hid (own_below HownV.out Hdwm.out)
          have Hwwm := Lib.hid (HbV.out.trans (Hdwm.out.mono SV))
          go_wp2_with (at_builtin; refine wpList_append_own _ rfl _ _ 54 rfl B1 56 i0 _ 3 8 Tryd.underlying54 hi hz0 hz1 hz2 rfl (by decide) _ _ _ rfl (Ownwm.out.alloc _) ⟨wm.heap.size, 0, none⟩ 1 1 [.int .i32 xq, .bool xb, .int .u8 xr] rfl rfl (new_cells wm [.int .i32 xq, .bool xb, .int .u8 xr] 56) (by simp [Value.oneCell']) (by unfold maxLen; omega) (by omega) (by simp; omega) ?_)
          intro v9 w9 own9 g9 _
          have Hb9 := Lib.hid ((Hwwm.out.alloc SVwm (.cells #[.int .i32 xq, .bool xb, .int .u8 xr] 56)).grown g9 (by simp; omega) (fun g hg => (Ownwm.out.lt g hg).1))
          have Own9 := Lib.hid own9
          clear own9 g9
          go_wp2
          go_roundw
          case rel =>
            refine ⟨k + 1, made ++ [x], none, _, rfl, rfl, by go_num, by omega, Lib.hid (by rw [Hnx.out]; exact Happ), Lib.hid ?_, Hb9, Lib.hid Hst9, by simp; omega⟩
            rw [List.length_append, flat_append, show flat encI [x] = encI x by simp [flat], Hex.out]
            first | (rw [hL]; exact Own9.out) | exact Own9.out
          case measure => simp [RowKit.intOf]; omega
      · have hq := (Hst.out.lt q rfl)
        have hst1 : stv (some q) = (q : Int) := rfl
        rw [hst1]
        have hq0 : (0 : Int) ≤ (q : Int) := by omega
        obtain ⟨L, hL⟩ : ∃ L, made.length = L := ⟨_, rfl⟩
        have hqL : q < L := by rw [← hL]; exact hq.1
        obtain ⟨g, cap, hv, _, hlt⟩ := HownV.out.form (by omega)
        subst hv
        have HYc := Lib.hid (fun (W' : World) (hb : Below V.heap.size V W') (j : Nat) (hj : j < L) => by
          have ho := own_below HownV.out hb
          have hg := at0_get (made := made) (k := j) (by omega)
          have h0 := ho.cells (g := g) rfl (j * 3 + 0) _ (flat_at encI_len made j _ hg 0 _ rfl)
          have h1 := ho.cells (g := g) rfl (j * 3 + 1) _ (flat_at encI_len made j _ hg 1 _ rfl)
          have h2 := ho.cells (g := g) rfl (j * 3 + 2) _ (flat_at encI_len made j _ hg 2 _ rfl)
          rw [Addr.add_lit, Nat.zero_add] at h0 h1 h2
          exact (show W'.cell? ⟨g, j * 3, none⟩ = some (.int .i32 (at0 made j).1) ∧ W'.cell? ⟨g, j * 3 + 1, none⟩ = some (.bool ((at0 made j).2.2 != 0)) ∧ W'.cell? ⟨g, j * 3 + 2, none⟩ = some (.int .u8 ((at0 made j).2.2 : Int)) from ⟨h0, h1, h2⟩))
        obtain ⟨yq, hyq⟩ : ∃ b, (at0 made q).1 = b := ⟨_, rfl⟩
        obtain ⟨yb, hyb⟩ : ∃ b, ((at0 made q).2.2 != 0) = b := ⟨_, rfl⟩
        have HY := Lib.hid (fun (W' : World) (hb : Below V.heap.size V W') => show W'.cell? ⟨g, q * 3, none⟩ = some (.int .i32 yq) ∧ W'.cell? ⟨g, q * 3 + 1, none⟩ = some (.bool yb) from by
          have h := HYc.out W' hb q hqL
          rw [hyq, hyb] at h
          exact ⟨h.1, h.2.1⟩)
        have Hyb : Hid ((yb = true → (at0 made q).2.2 ≠ 0) ∧ (yb = false → (at0 made q).2.2 = 0)) := by unfold Hid; rw [← hyb]; exact ⟨fun h => by simpa using h, fun h => by simpa using h⟩
        obtain ⟨z, hz⟩ : ∃ z, pairZ yq xq = z := ⟨_, rfl⟩
        have HPr := Lib.hid (fun w => by have h := rpair_any yq xq w; rw [hz] at h; exact h)
        have Hz : Hid (pairZ (at0 made q).1 x.1 = z) := by unfold Hid; rw [hyq, Hxq.out]; exact hz
        have wL : IntKind.i64.wrap ((L : Int) - 1) = (L : Int) - 1 := IntWalk.i64_in _ (by omega)
        have wL0 : (0 : Int) ≤ (L : Int) - 1 := by omega
        have wL1 : (L : Int) - 1 < (L : Int) := by omega
        have wL2 : ((L : Int) - 1).toNat = L - 1 := by omega
        have wL3 : (1 : Int) ≤ (L : Int) := by omega
        have hq1 : (q : Int) < (L : Int) := by omega
        rw [hL] at HownV hmk ⊢
        clear hq hyq hyb hz hlt
        by_cases hqe : q + 1 = L
        · have hnb : ((q : Int) == (L : Int) - 1) = true := by simp; omega
          have hreach : reachZ made (some q) x = true := by
            unfold reachZ
            rw [show made.length - 1 = q by omega]
            simp
          obtain ⟨d0, d1, d2⟩ := HD.out _ Hdwm.out
          have y0 : wm.cell? ⟨g, q * 3, none⟩ = some (.int .i32 yq) := (HY.out _ Hdwm.out).1
          have y1 : wm.cell? ⟨g, q * 3 + 1, none⟩ = some (.bool yb) := (HY.out _ Hdwm.out).2
          cases hxb : xb with
          | true =>
            subst hxb
            have hxr : x.2.2 ≠ 0 := Hxb.out.1 rfl
            have hbz : ¬ (reachZ made (some q) x = true ∧ bothZ made (some q) x ≠ 0) := fun h => h.2 (both_raw (.inl (hrawx hxr)))
            have hM : x.2.1 = 0 := by rcases hitx.2 with h | h; exact absurd h.1 hxr; exact h.2
            have hx0 : x.2.1 = 0 := by omega
            have hmb : (M == 0) = true := by simp; omega
            have Happ : addZ made (some q) x = (made ++ [x], some made.length) := by rw [add_app hbz, if_pos hx0]
            have Hst9 : StM (made ++ [x]) (some made.length) := by
              have h := stm_app Hst.out hitx hrawx
              rw [if_pos hx0] at h
              exact h
            obtain ⟨d0, d1, d2⟩ := HD.out _ Hdwm.out
            have SVwm : B1 ≤ wm.heap.size := Nat.le_trans SV Hdwm.out.size
            have Ownwm := Lib.hid (own_below HownV.out Hdwm.out)
            have Hwwm := Lib.hid (HbV.out.trans (Hdwm.out.mono SV))
            go_wp2_with (at_builtin; refine wpList_append_own _ rfl _ _ 54 rfl B1 56 i0 _ 3 8 Tryd.underlying54 hi hz0 hz1 hz2 rfl (by decide) _ _ _ rfl (Ownwm.out.alloc _) ⟨wm.heap.size, 0, none⟩ 1 1 [.int .i32 xq, .bool true, .int .u8 xr] rfl rfl (new_cells wm [.int .i32 xq, .bool true, .int .u8 xr] 56) (by simp [Value.oneCell']) (by unfold maxLen; omega) (by omega) (by simp; omega) ?_)
            intro v9 w9 own9 g9 _
            have Hb9 := Lib.hid ((Hwwm.out.alloc SVwm (.cells #[.int .i32 xq, .bool true, .int .u8 xr] 56)).grown g9 (by simp; omega) (fun g hg => (Ownwm.out.lt g hg).1))
            have Own9 := Lib.hid own9
            clear own9 g9
            go_wp2
            go_roundw
            case rel =>
              refine ⟨k + 1, made ++ [x], some made.length, _, rfl, by first | rfl | (rw [hL]; rfl), by go_num, by omega, Lib.hid (by rw [Hnx.out]; exact Happ), Lib.hid ?_, Hb9, Lib.hid Hst9, by simp; omega⟩
              rw [List.length_append, flat_append, show flat encI [x] = encI x by simp [flat], Hex.out]
              first | (rw [hL]; exact Own9.out) | exact Own9.out
            case measure => simp [RowKit.intOf]; omega
          | false =>
            subst hxb
            cases hyb : yb with
            | true =>
              subst hyb
              have hbz : ¬ (reachZ made (some q) x = true ∧ bothZ made (some q) x ≠ 0) := fun h => h.2 (both_raw (.inr (Hst.out.raw _ (at0_mem (Hst.out.lt q rfl).1) (Hyb.out.1 rfl))))
              by_cases hm0 : M = 0
              · have hx0 : x.2.1 = 0 := by omega
                have hmb : (M == 0) = true := by simp [hm0]
                have Happ : addZ made (some q) x = (made ++ [x], some made.length) := by rw [add_app hbz, if_pos hx0]
                have Hst9 : StM (made ++ [x]) (some made.length) := by
                  have h := stm_app Hst.out hitx hrawx
                  rw [if_pos hx0] at h
                  exact h
                clear hx0 hm0
                obtain ⟨d0, d1, d2⟩ := HD.out _ Hdwm.out
                have SVwm : B1 ≤ wm.heap.size := Nat.le_trans SV Hdwm.out.size
                have Ownwm := Lib.hid (own_below HownV.out Hdwm.out)
                have Hwwm := Lib.hid (HbV.out.trans (Hdwm.out.mono SV))
                go_wp2_with (at_builtin; refine wpList_append_own _ rfl _ _ 54 rfl B1 56 i0 _ 3 8 Tryd.underlying54 hi hz0 hz1 hz2 rfl (by decide) _ _ _ rfl (Ownwm.out.alloc _) ⟨wm.heap.size, 0, none⟩ 1 1 [.int .i32 xq, .bool false, .int .u8 xr] rfl rfl (new_cells wm [.int .i32 xq, .bool false, .int .u8 xr] 56) (by simp [Value.oneCell']) (by unfold maxLen; omega) (by omega) (by simp; omega) ?_)
                intro v9 w9 own9 g9 _
                have Hb9 := Lib.hid ((Hwwm.out.alloc SVwm (.cells #[.int .i32 xq, .bool false, .int .u8 xr] 56)).grown g9 (by simp; omega) (fun g hg => (Ownwm.out.lt g hg).1))
                have Own9 := Lib.hid own9
                clear own9 g9
                go_wp2
                go_roundw
                case rel =>
                  refine ⟨k + 1, made ++ [x], some made.length, _, rfl, by first | rfl | (rw [hL]; rfl), by go_num, by omega, Lib.hid (by rw [Hnx.out]; exact Happ), Lib.hid ?_, Hb9, Lib.hid Hst9, by simp; omega⟩
                  rw [List.length_append, flat_append, show flat encI [x] = encI x by simp [flat], Hex.out]
                  first | (rw [hL]; exact Own9.out) | exact Own9.out
                case measure => simp [RowKit.intOf]; omega
              · have hx0 : ¬ x.2.1 = 0 := by omega
                have hmb : (M == 0) = false := by simp [hm0]
                have Happ : addZ made (some q) x = (made ++ [x], some q) := by rw [add_app hbz, if_neg hx0]
                have Hst9 : StM (made ++ [x]) (some q) := by
                  have h := stm_app Hst.out hitx hrawx
                  rw [if_neg hx0] at h
                  exact h
                clear hx0 hm0
                obtain ⟨d0, d1, d2⟩ := HD.out _ Hdwm.out
                have SVwm : B1 ≤ wm.heap.size := Nat.le_trans SV Hdwm.out.size
                have Ownwm := Lib.hid (own_below HownV.out Hdwm.out)
                have Hwwm := Lib.hid (HbV.out.trans (Hdwm.out.mono SV))
                go_wp2_with (at_builtin; refine wpList_append_own _ rfl _ _ 54 rfl B1 56 i0 _ 3 8 Tryd.underlying54 hi hz0 hz1 hz2 rfl (by decide) _ _ _ rfl (Ownwm.out.alloc _) ⟨wm.heap.size, 0, none⟩ 1 1 [.int .i32 xq, .bool false, .int .u8 xr] rfl rfl (new_cells wm [.int .i32 xq, .bool false, .int .u8 xr] 56) (by simp [Value.oneCell']) (by unfold maxLen; omega) (by omega) (by simp; omega) ?_)
                intro v9 w9 own9 g9 _
                have Hb9 := Lib.hid ((Hwwm.out.alloc SVwm (.cells #[.int .i32 xq, .bool false, .int .u8 xr] 56)).grown g9 (by simp; omega) (fun g hg => (Ownwm.out.lt g hg).1))
                have Own9 := Lib.hid own9
                clear own9 g9
                go_wp2
                go_roundw
                case rel =>
                  refine ⟨k + 1, made ++ [x], some q, _, rfl, rfl, by go_num, by omega, Lib.hid (by rw [Hnx.out]; exact Happ), Lib.hid ?_, Hb9, Lib.hid Hst9, by simp; omega⟩
                  rw [List.length_append, flat_append, show flat encI [x] = encI x by simp [flat], Hex.out]
                  first | (rw [hL]; exact Own9.out) | exact Own9.out
                case measure => simp [RowKit.intOf]; omega
            | false =>
              subst hyb
              have hyr : (at0 made q).2.2 = 0 := Hyb.out.2 rfl
              have BRd := Lib.hid (below_Dt Hdwm.out)
              have HPC := Lib.hid (fun (W' : World) (hb : Below V.heap.size V W') => show W'.cell? ⟨g, q * 3, none⟩ = some (.int .i32 yq) ∧ W'.cell? ⟨C, 0, none⟩ = some (.int .i32 xq) from ⟨(HY.out _ hb).1, (HD.out _ hb).1⟩)
              have PRd := Lib.hid (HPC.out _ BRd.out)
              go_wp2_with fail
              refine wp_region_noPanic ?_
              refine wp_region_held_drew (S := fun W' : World => W'.cell? ⟨g, q * 3, none⟩ = some (.int .i32 yq) ∧ W'.cell? ⟨C, 0, none⟩ = some (.int .i32 xq)) (by kernel_rfl) (PRd.out) (fun hHeld => ?_)
              refine wpAnyH_take (i := 0) (oi := ({ dst := some 69, op := Op.move (Operand.tmp 4), type := 54, pos := "ref.go:262", after := #[], guard := none } : Oper)) (v := ?_) rfl (by kernel_rfl) (by kernel_rfl) (by kernel_rfl) (fun _ _ _ h => h) (Or.inl ⟨by rfl, ?_⟩) (by assumption) ?_
              rotate_left
              · (intro w hSw; (try dsimp only at hSw); go_simp; all_goals (with_reducible rfl))
              try simp only [Act.put, List.setIfInBounds_toArray, List.set_cons_zero, List.set_cons_succ]
              refine wpAnyH_take (i := 1) (oi := ({ dst := some 70, op := Op.move (Operand.tmp 5), type := 3, pos := "ref.go:262", after := #[], guard := none } : Oper)) (v := ?_) rfl (by kernel_rfl) (by kernel_rfl) (by kernel_rfl) (fun _ _ _ h => h) (Or.inl ⟨by rfl, ?_⟩) (by assumption) ?_
              rotate_left
              · (intro w hSw; (try dsimp only at hSw); go_simp; all_goals (with_reducible rfl))
              try simp only [Act.put, List.setIfInBounds_toArray, List.set_cons_zero, List.set_cons_succ]
              refine wpAnyH_take (i := 2) (oi := ({ dst := some 71, op := Op.indexAddr 54 (Operand.tmp 69) (Operand.tmp 70), type := 0, pos := "ref.go:262", after := #[{ on := 0, ground := Ground.data }, { on := 1, ground := Ground.data }], guard := none } : Oper)) (v := ?_) rfl (by kernel_rfl) (by kernel_rfl) (by kernel_rfl) (fun _ _ _ h => h) (Or.inl ⟨by rfl, ?_⟩) (by assumption) ?_
              rotate_left
              · (intro w hSw; (try dsimp only at hSw); go_simp; all_goals (with_reducible rfl))
              try simp only [Act.put, List.setIfInBounds_toArray, List.set_cons_zero, List.set_cons_succ]
              refine wpAnyH_take (i := 3) (oi := ({ dst := some 72, op := Op.fieldAddr 56 (Operand.tmp 71) 0, type := 0, pos := "ref.go:262", after := #[{ on := 2, ground := Ground.data }], guard := none } : Oper)) (v := ?_) rfl (by kernel_rfl) (by kernel_rfl) (by kernel_rfl) (fun _ _ _ h => h) (Or.inl ⟨by rfl, ?_⟩) (by assumption) ?_
              rotate_left
              · (intro w hSw; (try dsimp only at hSw); go_simp; all_goals (with_reducible rfl))
              try simp only [Act.put, List.setIfInBounds_toArray, List.set_cons_zero, List.set_cons_succ]
              refine wpAnyH_take (i := 4) (oi := ({ dst := some 73, op := Op.load 21 (Operand.tmp 72), type := 21, pos := "ref.go:262", after := #[{ on := 3, ground := Ground.data }], guard := none } : Oper)) (v := ?_) rfl (by kernel_rfl) (by kernel_rfl) (by kernel_rfl) (fun _ _ _ h => h) (Or.inl ⟨by rfl, ?_⟩) (by assumption) ?_
              rotate_left
              · (intro w hSw; (try dsimp only at hSw); go_simp; all_goals (with_reducible rfl))
              try simp only [Act.put, List.setIfInBounds_toArray, List.set_cons_zero, List.set_cons_succ]
              refine wpAnyH_take (i := 5) (oi := ({ dst := some 74, op := Op.fieldAddr 56 (Operand.tmp 7) 0, type := 0, pos := "ref.go:262", after := #[], guard := none } : Oper)) (v := ?_) rfl (by kernel_rfl) (by kernel_rfl) (by kernel_rfl) (fun _ _ _ h => h) (Or.inl ⟨by rfl, ?_⟩) (by assumption) ?_
              rotate_left
              · (intro w hSw; (try dsimp only at hSw); go_simp; all_goals (with_reducible rfl))
              try simp only [Act.put, List.setIfInBounds_toArray, List.set_cons_zero, List.set_cons_succ]
              refine wpAnyH_take (i := 6) (oi := ({ dst := some 75, op := Op.load 21 (Operand.tmp 74), type := 21, pos := "ref.go:262", after := #[{ on := 5, ground := Ground.data }], guard := none } : Oper)) (v := ?_) rfl (by kernel_rfl) (by kernel_rfl) (by kernel_rfl) (fun _ _ _ h => h) (Or.inl ⟨by rfl, ?_⟩) (by assumption) ?_
              rotate_left
              · (intro w hSw; (try dsimp only at hSw); go_simp; all_goals (with_reducible rfl))
              try simp only [Act.put, List.setIfInBounds_toArray, List.set_cons_zero, List.set_cons_succ]
              refine wpAnyH_ready (rs := [7]) (by kernel_rfl) (by simp) ?_
              refine AllReadyH.cons (o := ({ dst := some 76, op := Op.call { callee := Callee.value (Operand.func 16), args := #[Operand.tmp 73, Operand.tmp 75], argTypes := #[21, 21] }, type := 21, pos := "ref.go:262", after := #[{ on := 4, ground := Ground.data }, { on := 6, ground := Ground.data }], guard := none } : Oper)) rfl (fun K hK => ?_) AllReadyH.nil
              (go_simp; go_at_call 16; refine (HPr.out _).mono ?_; rintro e wp ⟨rfl, bp⟩; have Hdwp := Lib.hid (BRd.out.trans (bp.mono BRd.out.size)); clear bp; (try dsimp only))
              refine hK.out _ _ (HPC.out _ Hdwp.out) (fun hHeld => ?_)
              clear hK K
              try simp only [Act.put, List.setIfInBounds_toArray, List.set_cons_zero, List.set_cons_succ]
              refine wpAnyH_take (i := 8) (oi := ({ dst := some 11, op := Op.assign (Operand.tmp 76), type := 21, pos := "ref.go:262", after := #[{ on := 7, ground := Ground.data }, { on := 7, ground := Ground.chain }, { on := 0, ground := Ground.phase }, { on := 1, ground := Ground.phase }, { on := 2, ground := Ground.phase }, { on := 3, ground := Ground.phase }, { on := 4, ground := Ground.phase }, { on := 5, ground := Ground.phase }, { on := 6, ground := Ground.phase }, { on := 7, ground := Ground.phase }], guard := none } : Oper)) (v := ?_) rfl (by kernel_rfl) (by kernel_rfl) (by kernel_rfl) (fun _ _ _ h => h) (Or.inl ⟨by rfl, ?_⟩) (by assumption) ?_
              rotate_left
              · (intro w hSw; (try dsimp only at hSw); go_simp; all_goals (with_reducible rfl))
              try simp only [Act.put, List.setIfInBounds_toArray, List.set_cons_zero, List.set_cons_succ]
              refine wpAnyH_done (by kernel_rfl) ?_ _
              refine NoPanic.normal ?_
              by_cases hz : z = 0
              · have hzb : (z != 0) = false := by simp [hz]
                have hbz : ¬ (reachZ made (some q) x = true ∧ bothZ made (some q) x ≠ 0) := fun h => h.2 (Hz.out.trans hz)
                clear hz
                by_cases hm0 : M = 0
                · have hx0 : x.2.1 = 0 := by omega
                  have hmb : (M == 0) = true := by simp [hm0]
                  have Happ : addZ made (some q) x = (made ++ [x], some made.length) := by rw [add_app hbz, if_pos hx0]
                  have Hst9 : StM (made ++ [x]) (some made.length) := by
                    have h := stm_app Hst.out hitx hrawx
                    rw [if_pos hx0] at h
                    exact h
                  clear hx0 hm0
                  obtain ⟨d0, d1, d2⟩ := HD.out _ Hdwp.out
                  have SVwp : B1 ≤ wp.heap.size := Nat.le_trans SV Hdwp.out.size
                  have Ownwp := Lib.hid (own_below HownV.out Hdwp.out)
                  have Hwwp := Lib.hid (HbV.out.trans (Hdwp.out.mono SV))
                  go_wp2_with (at_builtin; refine wpList_append_own _ rfl _ _ 54 rfl B1 56 i0 _ 3 8 Tryd.underlying54 hi hz0 hz1 hz2 rfl (by decide) _ _ _ rfl (Ownwp.out.alloc _) ⟨wp.heap.size, 0, none⟩ 1 1 [.int .i32 xq, .bool false, .int .u8 xr] rfl rfl (new_cells wp [.int .i32 xq, .bool false, .int .u8 xr] 56) (by simp [Value.oneCell']) (by unfold maxLen; omega) (by omega) (by simp; omega) ?_)
                  intro v9 w9 own9 g9 _
                  have Hb9 := Lib.hid ((Hwwp.out.alloc SVwp (.cells #[.int .i32 xq, .bool false, .int .u8 xr] 56)).grown g9 (by simp; omega) (fun g hg => (Ownwp.out.lt g hg).1))
                  have Own9 := Lib.hid own9
                  clear own9 g9
                  go_wp2
                  go_roundw
                  case rel =>
                    refine ⟨k + 1, made ++ [x], some made.length, _, rfl, by first | rfl | (rw [hL]; rfl), by go_num, by omega, Lib.hid (by rw [Hnx.out]; exact Happ), Lib.hid ?_, Hb9, Lib.hid Hst9, by simp; omega⟩
                    rw [List.length_append, flat_append, show flat encI [x] = encI x by simp [flat], Hex.out]
                    first | (rw [hL]; exact Own9.out) | exact Own9.out
                  case measure => simp [RowKit.intOf]; omega
                · have hx0 : ¬ x.2.1 = 0 := by omega
                  have hmb : (M == 0) = false := by simp [hm0]
                  have Happ : addZ made (some q) x = (made ++ [x], some q) := by rw [add_app hbz, if_neg hx0]
                  have Hst9 : StM (made ++ [x]) (some q) := by
                    have h := stm_app Hst.out hitx hrawx
                    rw [if_neg hx0] at h
                    exact h
                  clear hx0 hm0
                  obtain ⟨d0, d1, d2⟩ := HD.out _ Hdwp.out
                  have SVwp : B1 ≤ wp.heap.size := Nat.le_trans SV Hdwp.out.size
                  have Ownwp := Lib.hid (own_below HownV.out Hdwp.out)
                  have Hwwp := Lib.hid (HbV.out.trans (Hdwp.out.mono SV))
                  go_wp2_with (at_builtin; refine wpList_append_own _ rfl _ _ 54 rfl B1 56 i0 _ 3 8 Tryd.underlying54 hi hz0 hz1 hz2 rfl (by decide) _ _ _ rfl (Ownwp.out.alloc _) ⟨wp.heap.size, 0, none⟩ 1 1 [.int .i32 xq, .bool false, .int .u8 xr] rfl rfl (new_cells wp [.int .i32 xq, .bool false, .int .u8 xr] 56) (by simp [Value.oneCell']) (by unfold maxLen; omega) (by omega) (by simp; omega) ?_)
                  intro v9 w9 own9 g9 _
                  have Hb9 := Lib.hid ((Hwwp.out.alloc SVwp (.cells #[.int .i32 xq, .bool false, .int .u8 xr] 56)).grown g9 (by simp; omega) (fun g hg => (Ownwp.out.lt g hg).1))
                  have Own9 := Lib.hid own9
                  clear own9 g9
                  go_wp2
                  go_roundw
                  case rel =>
                    refine ⟨k + 1, made ++ [x], some q, _, rfl, rfl, by go_num, by omega, Lib.hid (by rw [Hnx.out]; exact Happ), Lib.hid ?_, Hb9, Lib.hid Hst9, by simp; omega⟩
                    rw [List.length_append, flat_append, show flat encI [x] = encI x by simp [flat], Hex.out]
                    first | (rw [hL]; exact Own9.out) | exact Own9.out
                  case measure => simp [RowKit.intOf]; omega
              · have hzb : (z != 0) = true := by simp [hz]
                have hset := add_set hreach (by have h := Hz.out; rw [show pairZ (at0 made q).1 x.1 = z from h]; exact hz)
                have hst2 := stm_set (z := z) (x := x.1) Hst.out Hz.out.symm hz hyr
                have hfs := flat_set3 made q z (Hst.out.lt q rfl).1
                have hset2 : addZ made (some q) x = (made.set q (z, (at0 made q).2), some q) := by rw [hset, show pairZ (at0 made q).1 x.1 = z from Hz.out]
                have SVp : B1 ≤ wp.heap.size := Nat.le_trans SV Hdwp.out.size
                have OwnP := Lib.hid (own_below HownV.out Hdwp.out)
                have Hwp := Lib.hid (HbV.out.trans (Hdwp.out.mono SV))
                have p0 := OwnP.out.cellAt (q * 3) (by omega)
                rw [List.getElem?_eq_getElem (by rw [flat_len encI_len]; omega)] at p0
                have f0 := OwnP.out.frozenAt (q * 3)
                have Hset2 := Lib.hid hset2
                have Hst2 := Lib.hid hst2
                have Hfs := Lib.hid hfs
                clear hset hset2 hst2 hfs hz
                go_wp2
                go_roundw
                case rel =>
                  obtain ⟨s1, t1⟩ := OwnP.out.stored (q * 3) (.int .i32 z)
                  rw [Hfs.out] at s1
                  refine ⟨k + 1, made.set q (z, (at0 made q).2), some q, _, rfl, rfl, by go_num, by omega, Lib.hid (by rw [Hnx.out]; exact Hset2.out), Lib.hid ?_, Lib.hid (Hwp.out.grown t1 SVp (fun g' hg' => (OwnP.out.lt g' hg').1)), Hst2, by rw [List.length_set]; omega⟩
                  rw [List.length_set, hL]
                  exact s1
                case measure => simp [RowKit.intOf]; omega
        · have hnb : ((q : Int) == (L : Int) - 1) = false := by simp; omega
          have hafL := Hst.out.aft q (L - 1) rfl (by omega) (by omega)
          have hitL := Hst.out.it _ (at0_mem (made := made) (k := L - 1) (by omega))
          have hlz : lastZ made = at0 made (L - 1) := by unfold lastZ at0; rw [hL]
          have HML := Lib.hid (HMk.out _ hitL)
          obtain ⟨m0, m1, m2⟩ := HYc.out wm Hdwm.out (L - 1) (by omega)
          obtain ⟨lb, hlb⟩ : ∃ b, ((at0 made (L - 1)).2.2 != 0) = b := ⟨_, rfl⟩
          obtain ⟨lq, hlq⟩ : ∃ b, (at0 made (L - 1)).1 = b := ⟨_, rfl⟩
          obtain ⟨lr, hlr⟩ : ∃ b : Int, ((at0 made (L - 1)).2.2 : Int) = b := ⟨_, rfl⟩
          obtain ⟨ML, hML⟩ : ∃ b : Int, ((at0 made (L - 1)).2.1 : Int) = b := ⟨_, rfl⟩
          rw [hlb, hlq, hlr, hML] at HML
          rw [hlq] at m0
          rw [hlb] at m1
          rw [hlr] at m2
          have hml0 : (ML != 0) = true := by simp; omega
          clear hlb hlq hlr hitL
          go_wp2_with fail
          refine (HML.out _).mono ?_
          rintro _ wl ⟨rfl, bl⟩
          have Hdwl := Lib.hid (Hdwm.out.trans (bl.mono Hdwm.out.size))
          clear bl m0 m1 m2
          by_cases hlm : ML < M
          · have hreach : reachZ made (some q) x = true := by
              unfold reachZ
              rw [hlz]
              have : (at0 made (L - 1)).2.1 < x.2.1 := by omega
              simp [this]
            clear hML hafL hlz
            obtain ⟨d0, d1, d2⟩ := HD.out _ Hdwl.out
            have y0 : wl.cell? ⟨g, q * 3, none⟩ = some (.int .i32 yq) := (HY.out _ Hdwl.out).1
            have y1 : wl.cell? ⟨g, q * 3 + 1, none⟩ = some (.bool yb) := (HY.out _ Hdwl.out).2
            cases hxb : xb with
            | true =>
              subst hxb
              have hxr : x.2.2 ≠ 0 := Hxb.out.1 rfl
              have hbz : ¬ (reachZ made (some q) x = true ∧ bothZ made (some q) x ≠ 0) := fun h => h.2 (both_raw (.inl (hrawx hxr)))
              have hM : x.2.1 = 0 := by rcases hitx.2 with h | h; exact absurd h.1 hxr; exact h.2
              have hx0 : x.2.1 = 0 := by omega
              have hmb : (M == 0) = true := by simp; omega
              have Happ : addZ made (some q) x = (made ++ [x], some made.length) := by rw [add_app hbz, if_pos hx0]
              have Hst9 : StM (made ++ [x]) (some made.length) := by
                have h := stm_app Hst.out hitx hrawx
                rw [if_pos hx0] at h
                exact h
              obtain ⟨d0, d1, d2⟩ := HD.out _ Hdwl.out
              have SVwl : B1 ≤ wl.heap.size := Nat.le_trans SV Hdwl.out.size
              have Ownwl := Lib.hid (own_below HownV.out Hdwl.out)
              have Hwwl := Lib.hid (HbV.out.trans (Hdwl.out.mono SV))
              go_wp2_with (at_builtin; refine wpList_append_own _ rfl _ _ 54 rfl B1 56 i0 _ 3 8 Tryd.underlying54 hi hz0 hz1 hz2 rfl (by decide) _ _ _ rfl (Ownwl.out.alloc _) ⟨wl.heap.size, 0, none⟩ 1 1 [.int .i32 xq, .bool true, .int .u8 xr] rfl rfl (new_cells wl [.int .i32 xq, .bool true, .int .u8 xr] 56) (by simp [Value.oneCell']) (by unfold maxLen; omega) (by omega) (by simp; omega) ?_)
              intro v9 w9 own9 g9 _
              have Hb9 := Lib.hid ((Hwwl.out.alloc SVwl (.cells #[.int .i32 xq, .bool true, .int .u8 xr] 56)).grown g9 (by simp; omega) (fun g hg => (Ownwl.out.lt g hg).1))
              have Own9 := Lib.hid own9
              clear own9 g9
              go_wp2
              go_roundw
              case rel =>
                refine ⟨k + 1, made ++ [x], some made.length, _, rfl, by first | rfl | (rw [hL]; rfl), by go_num, by omega, Lib.hid (by rw [Hnx.out]; exact Happ), Lib.hid ?_, Hb9, Lib.hid Hst9, by simp; omega⟩
                rw [List.length_append, flat_append, show flat encI [x] = encI x by simp [flat], Hex.out]
                first | (rw [hL]; exact Own9.out) | exact Own9.out
              case measure => simp [RowKit.intOf]; omega
            | false =>
              subst hxb
              cases hyb : yb with
              | true =>
                subst hyb
                have hbz : ¬ (reachZ made (some q) x = true ∧ bothZ made (some q) x ≠ 0) := fun h => h.2 (both_raw (.inr (Hst.out.raw _ (at0_mem (Hst.out.lt q rfl).1) (Hyb.out.1 rfl))))
                by_cases hm0 : M = 0
                · have hx0 : x.2.1 = 0 := by omega
                  have hmb : (M == 0) = true := by simp [hm0]
                  have Happ : addZ made (some q) x = (made ++ [x], some made.length) := by rw [add_app hbz, if_pos hx0]
                  have Hst9 : StM (made ++ [x]) (some made.length) := by
                    have h := stm_app Hst.out hitx hrawx
                    rw [if_pos hx0] at h
                    exact h
                  clear hx0 hm0
                  obtain ⟨d0, d1, d2⟩ := HD.out _ Hdwl.out
                  have SVwl : B1 ≤ wl.heap.size := Nat.le_trans SV Hdwl.out.size
                  have Ownwl := Lib.hid (own_below HownV.out Hdwl.out)
                  have Hwwl := Lib.hid (HbV.out.trans (Hdwl.out.mono SV))
                  go_wp2_with (at_builtin; refine wpList_append_own _ rfl _ _ 54 rfl B1 56 i0 _ 3 8 Tryd.underlying54 hi hz0 hz1 hz2 rfl (by decide) _ _ _ rfl (Ownwl.out.alloc _) ⟨wl.heap.size, 0, none⟩ 1 1 [.int .i32 xq, .bool false, .int .u8 xr] rfl rfl (new_cells wl [.int .i32 xq, .bool false, .int .u8 xr] 56) (by simp [Value.oneCell']) (by unfold maxLen; omega) (by omega) (by simp; omega) ?_)
                  intro v9 w9 own9 g9 _
                  have Hb9 := Lib.hid ((Hwwl.out.alloc SVwl (.cells #[.int .i32 xq, .bool false, .int .u8 xr] 56)).grown g9 (by simp; omega) (fun g hg => (Ownwl.out.lt g hg).1))
                  have Own9 := Lib.hid own9
                  clear own9 g9
                  go_wp2
                  go_roundw
                  case rel =>
                    refine ⟨k + 1, made ++ [x], some made.length, _, rfl, by first | rfl | (rw [hL]; rfl), by go_num, by omega, Lib.hid (by rw [Hnx.out]; exact Happ), Lib.hid ?_, Hb9, Lib.hid Hst9, by simp; omega⟩
                    rw [List.length_append, flat_append, show flat encI [x] = encI x by simp [flat], Hex.out]
                    first | (rw [hL]; exact Own9.out) | exact Own9.out
                  case measure => simp [RowKit.intOf]; omega
                · have hx0 : ¬ x.2.1 = 0 := by omega
                  have hmb : (M == 0) = false := by simp [hm0]
                  have Happ : addZ made (some q) x = (made ++ [x], some q) := by rw [add_app hbz, if_neg hx0]
                  have Hst9 : StM (made ++ [x]) (some q) := by
                    have h := stm_app Hst.out hitx hrawx
                    rw [if_neg hx0] at h
                    exact h
                  clear hx0 hm0
                  obtain ⟨d0, d1, d2⟩ := HD.out _ Hdwl.out
                  have SVwl : B1 ≤ wl.heap.size := Nat.le_trans SV Hdwl.out.size
                  have Ownwl := Lib.hid (own_below HownV.out Hdwl.out)
                  have Hwwl := Lib.hid (HbV.out.trans (Hdwl.out.mono SV))
                  go_wp2_with (at_builtin; refine wpList_append_own _ rfl _ _ 54 rfl B1 56 i0 _ 3 8 Tryd.underlying54 hi hz0 hz1 hz2 rfl (by decide) _ _ _ rfl (Ownwl.out.alloc _) ⟨wl.heap.size, 0, none⟩ 1 1 [.int .i32 xq, .bool false, .int .u8 xr] rfl rfl (new_cells wl [.int .i32 xq, .bool false, .int .u8 xr] 56) (by simp [Value.oneCell']) (by unfold maxLen; omega) (by omega) (by simp; omega) ?_)
                  intro v9 w9 own9 g9 _
                  have Hb9 := Lib.hid ((Hwwl.out.alloc SVwl (.cells #[.int .i32 xq, .bool false, .int .u8 xr] 56)).grown g9 (by simp; omega) (fun g hg => (Ownwl.out.lt g hg).1))
                  have Own9 := Lib.hid own9
                  clear own9 g9
                  go_wp2
                  go_roundw
                  case rel =>
                    refine ⟨k + 1, made ++ [x], some q, _, rfl, rfl, by go_num, by omega, Lib.hid (by rw [Hnx.out]; exact Happ), Lib.hid ?_, Hb9, Lib.hid Hst9, by simp; omega⟩
                    rw [List.length_append, flat_append, show flat encI [x] = encI x by simp [flat], Hex.out]
                    first | (rw [hL]; exact Own9.out) | exact Own9.out
                  case measure => simp [RowKit.intOf]; omega
              | false =>
                subst hyb
                have hyr : (at0 made q).2.2 = 0 := Hyb.out.2 rfl
                have BRd := Lib.hid (below_Dt Hdwl.out)
                have HPC := Lib.hid (fun (W' : World) (hb : Below V.heap.size V W') => show W'.cell? ⟨g, q * 3, none⟩ = some (.int .i32 yq) ∧ W'.cell? ⟨C, 0, none⟩ = some (.int .i32 xq) from ⟨(HY.out _ hb).1, (HD.out _ hb).1⟩)
                have PRd := Lib.hid (HPC.out _ BRd.out)
                go_wp2_with fail
                refine wp_region_noPanic ?_
                refine wp_region_held_drew (S := fun W' : World => W'.cell? ⟨g, q * 3, none⟩ = some (.int .i32 yq) ∧ W'.cell? ⟨C, 0, none⟩ = some (.int .i32 xq)) (by kernel_rfl) (PRd.out) (fun hHeld => ?_)
                refine wpAnyH_take (i := 0) (oi := ({ dst := some 69, op := Op.move (Operand.tmp 4), type := 54, pos := "ref.go:262", after := #[], guard := none } : Oper)) (v := ?_) rfl (by kernel_rfl) (by kernel_rfl) (by kernel_rfl) (fun _ _ _ h => h) (Or.inl ⟨by rfl, ?_⟩) (by assumption) ?_
                rotate_left
                · (intro w hSw; (try dsimp only at hSw); go_simp; all_goals (with_reducible rfl))
                try simp only [Act.put, List.setIfInBounds_toArray, List.set_cons_zero, List.set_cons_succ]
                refine wpAnyH_take (i := 1) (oi := ({ dst := some 70, op := Op.move (Operand.tmp 5), type := 3, pos := "ref.go:262", after := #[], guard := none } : Oper)) (v := ?_) rfl (by kernel_rfl) (by kernel_rfl) (by kernel_rfl) (fun _ _ _ h => h) (Or.inl ⟨by rfl, ?_⟩) (by assumption) ?_
                rotate_left
                · (intro w hSw; (try dsimp only at hSw); go_simp; all_goals (with_reducible rfl))
                try simp only [Act.put, List.setIfInBounds_toArray, List.set_cons_zero, List.set_cons_succ]
                refine wpAnyH_take (i := 2) (oi := ({ dst := some 71, op := Op.indexAddr 54 (Operand.tmp 69) (Operand.tmp 70), type := 0, pos := "ref.go:262", after := #[{ on := 0, ground := Ground.data }, { on := 1, ground := Ground.data }], guard := none } : Oper)) (v := ?_) rfl (by kernel_rfl) (by kernel_rfl) (by kernel_rfl) (fun _ _ _ h => h) (Or.inl ⟨by rfl, ?_⟩) (by assumption) ?_
                rotate_left
                · (intro w hSw; (try dsimp only at hSw); go_simp; all_goals (with_reducible rfl))
                try simp only [Act.put, List.setIfInBounds_toArray, List.set_cons_zero, List.set_cons_succ]
                refine wpAnyH_take (i := 3) (oi := ({ dst := some 72, op := Op.fieldAddr 56 (Operand.tmp 71) 0, type := 0, pos := "ref.go:262", after := #[{ on := 2, ground := Ground.data }], guard := none } : Oper)) (v := ?_) rfl (by kernel_rfl) (by kernel_rfl) (by kernel_rfl) (fun _ _ _ h => h) (Or.inl ⟨by rfl, ?_⟩) (by assumption) ?_
                rotate_left
                · (intro w hSw; (try dsimp only at hSw); go_simp; all_goals (with_reducible rfl))
                try simp only [Act.put, List.setIfInBounds_toArray, List.set_cons_zero, List.set_cons_succ]
                refine wpAnyH_take (i := 4) (oi := ({ dst := some 73, op := Op.load 21 (Operand.tmp 72), type := 21, pos := "ref.go:262", after := #[{ on := 3, ground := Ground.data }], guard := none } : Oper)) (v := ?_) rfl (by kernel_rfl) (by kernel_rfl) (by kernel_rfl) (fun _ _ _ h => h) (Or.inl ⟨by rfl, ?_⟩) (by assumption) ?_
                rotate_left
                · (intro w hSw; (try dsimp only at hSw); go_simp; all_goals (with_reducible rfl))
                try simp only [Act.put, List.setIfInBounds_toArray, List.set_cons_zero, List.set_cons_succ]
                refine wpAnyH_take (i := 5) (oi := ({ dst := some 74, op := Op.fieldAddr 56 (Operand.tmp 7) 0, type := 0, pos := "ref.go:262", after := #[], guard := none } : Oper)) (v := ?_) rfl (by kernel_rfl) (by kernel_rfl) (by kernel_rfl) (fun _ _ _ h => h) (Or.inl ⟨by rfl, ?_⟩) (by assumption) ?_
                rotate_left
                · (intro w hSw; (try dsimp only at hSw); go_simp; all_goals (with_reducible rfl))
                try simp only [Act.put, List.setIfInBounds_toArray, List.set_cons_zero, List.set_cons_succ]
                refine wpAnyH_take (i := 6) (oi := ({ dst := some 75, op := Op.load 21 (Operand.tmp 74), type := 21, pos := "ref.go:262", after := #[{ on := 5, ground := Ground.data }], guard := none } : Oper)) (v := ?_) rfl (by kernel_rfl) (by kernel_rfl) (by kernel_rfl) (fun _ _ _ h => h) (Or.inl ⟨by rfl, ?_⟩) (by assumption) ?_
                rotate_left
                · (intro w hSw; (try dsimp only at hSw); go_simp; all_goals (with_reducible rfl))
                try simp only [Act.put, List.setIfInBounds_toArray, List.set_cons_zero, List.set_cons_succ]
                refine wpAnyH_ready (rs := [7]) (by kernel_rfl) (by simp) ?_
                refine AllReadyH.cons (o := ({ dst := some 76, op := Op.call { callee := Callee.value (Operand.func 16), args := #[Operand.tmp 73, Operand.tmp 75], argTypes := #[21, 21] }, type := 21, pos := "ref.go:262", after := #[{ on := 4, ground := Ground.data }, { on := 6, ground := Ground.data }], guard := none } : Oper)) rfl (fun K hK => ?_) AllReadyH.nil
                (go_simp; go_at_call 16; refine (HPr.out _).mono ?_; rintro e wp ⟨rfl, bp⟩; have Hdwp := Lib.hid (BRd.out.trans (bp.mono BRd.out.size)); clear bp; (try dsimp only))
                refine hK.out _ _ (HPC.out _ Hdwp.out) (fun hHeld => ?_)
                clear hK K
                try simp only [Act.put, List.setIfInBounds_toArray, List.set_cons_zero, List.set_cons_succ]
                refine wpAnyH_take (i := 8) (oi := ({ dst := some 11, op := Op.assign (Operand.tmp 76), type := 21, pos := "ref.go:262", after := #[{ on := 7, ground := Ground.data }, { on := 7, ground := Ground.chain }, { on := 0, ground := Ground.phase }, { on := 1, ground := Ground.phase }, { on := 2, ground := Ground.phase }, { on := 3, ground := Ground.phase }, { on := 4, ground := Ground.phase }, { on := 5, ground := Ground.phase }, { on := 6, ground := Ground.phase }, { on := 7, ground := Ground.phase }], guard := none } : Oper)) (v := ?_) rfl (by kernel_rfl) (by kernel_rfl) (by kernel_rfl) (fun _ _ _ h => h) (Or.inl ⟨by rfl, ?_⟩) (by assumption) ?_
                rotate_left
                · (intro w hSw; (try dsimp only at hSw); go_simp; all_goals (with_reducible rfl))
                try simp only [Act.put, List.setIfInBounds_toArray, List.set_cons_zero, List.set_cons_succ]
                refine wpAnyH_done (by kernel_rfl) ?_ _
                refine NoPanic.normal ?_
                by_cases hz : z = 0
                · have hzb : (z != 0) = false := by simp [hz]
                  have hbz : ¬ (reachZ made (some q) x = true ∧ bothZ made (some q) x ≠ 0) := fun h => h.2 (Hz.out.trans hz)
                  clear hz
                  by_cases hm0 : M = 0
                  · have hx0 : x.2.1 = 0 := by omega
                    have hmb : (M == 0) = true := by simp [hm0]
                    have Happ : addZ made (some q) x = (made ++ [x], some made.length) := by rw [add_app hbz, if_pos hx0]
                    have Hst9 : StM (made ++ [x]) (some made.length) := by
                      have h := stm_app Hst.out hitx hrawx
                      rw [if_pos hx0] at h
                      exact h
                    clear hx0 hm0
                    obtain ⟨d0, d1, d2⟩ := HD.out _ Hdwp.out
                    have SVwp : B1 ≤ wp.heap.size := Nat.le_trans SV Hdwp.out.size
                    have Ownwp := Lib.hid (own_below HownV.out Hdwp.out)
                    have Hwwp := Lib.hid (HbV.out.trans (Hdwp.out.mono SV))
                    go_wp2_with (at_builtin; refine wpList_append_own _ rfl _ _ 54 rfl B1 56 i0 _ 3 8 Tryd.underlying54 hi hz0 hz1 hz2 rfl (by decide) _ _ _ rfl (Ownwp.out.alloc _) ⟨wp.heap.size, 0, none⟩ 1 1 [.int .i32 xq, .bool false, .int .u8 xr] rfl rfl (new_cells wp [.int .i32 xq, .bool false, .int .u8 xr] 56) (by simp [Value.oneCell']) (by unfold maxLen; omega) (by omega) (by simp; omega) ?_)
                    intro v9 w9 own9 g9 _
                    have Hb9 := Lib.hid ((Hwwp.out.alloc SVwp (.cells #[.int .i32 xq, .bool false, .int .u8 xr] 56)).grown g9 (by simp; omega) (fun g hg => (Ownwp.out.lt g hg).1))
                    have Own9 := Lib.hid own9
                    clear own9 g9
                    go_wp2
                    go_roundw
                    case rel =>
                      refine ⟨k + 1, made ++ [x], some made.length, _, rfl, by first | rfl | (rw [hL]; rfl), by go_num, by omega, Lib.hid (by rw [Hnx.out]; exact Happ), Lib.hid ?_, Hb9, Lib.hid Hst9, by simp; omega⟩
                      rw [List.length_append, flat_append, show flat encI [x] = encI x by simp [flat], Hex.out]
                      first | (rw [hL]; exact Own9.out) | exact Own9.out
                    case measure => simp [RowKit.intOf]; omega
                  · have hx0 : ¬ x.2.1 = 0 := by omega
                    have hmb : (M == 0) = false := by simp [hm0]
                    have Happ : addZ made (some q) x = (made ++ [x], some q) := by rw [add_app hbz, if_neg hx0]
                    have Hst9 : StM (made ++ [x]) (some q) := by
                      have h := stm_app Hst.out hitx hrawx
                      rw [if_neg hx0] at h
                      exact h
                    clear hx0 hm0
                    obtain ⟨d0, d1, d2⟩ := HD.out _ Hdwp.out
                    have SVwp : B1 ≤ wp.heap.size := Nat.le_trans SV Hdwp.out.size
                    have Ownwp := Lib.hid (own_below HownV.out Hdwp.out)
                    have Hwwp := Lib.hid (HbV.out.trans (Hdwp.out.mono SV))
                    go_wp2_with (at_builtin; refine wpList_append_own _ rfl _ _ 54 rfl B1 56 i0 _ 3 8 Tryd.underlying54 hi hz0 hz1 hz2 rfl (by decide) _ _ _ rfl (Ownwp.out.alloc _) ⟨wp.heap.size, 0, none⟩ 1 1 [.int .i32 xq, .bool false, .int .u8 xr] rfl rfl (new_cells wp [.int .i32 xq, .bool false, .int .u8 xr] 56) (by simp [Value.oneCell']) (by unfold maxLen; omega) (by omega) (by simp; omega) ?_)
                    intro v9 w9 own9 g9 _
                    have Hb9 := Lib.hid ((Hwwp.out.alloc SVwp (.cells #[.int .i32 xq, .bool false, .int .u8 xr] 56)).grown g9 (by simp; omega) (fun g hg => (Ownwp.out.lt g hg).1))
                    have Own9 := Lib.hid own9
                    clear own9 g9
                    go_wp2
                    go_roundw
                    case rel =>
                      refine ⟨k + 1, made ++ [x], some q, _, rfl, rfl, by go_num, by omega, Lib.hid (by rw [Hnx.out]; exact Happ), Lib.hid ?_, Hb9, Lib.hid Hst9, by simp; omega⟩
                      rw [List.length_append, flat_append, show flat encI [x] = encI x by simp [flat], Hex.out]
                      first | (rw [hL]; exact Own9.out) | exact Own9.out
                    case measure => simp [RowKit.intOf]; omega
                · have hzb : (z != 0) = true := by simp [hz]
                  have hset := add_set hreach (by have h := Hz.out; rw [show pairZ (at0 made q).1 x.1 = z from h]; exact hz)
                  have hst2 := stm_set (z := z) (x := x.1) Hst.out Hz.out.symm hz hyr
                  have hfs := flat_set3 made q z (Hst.out.lt q rfl).1
                  have hset2 : addZ made (some q) x = (made.set q (z, (at0 made q).2), some q) := by rw [hset, show pairZ (at0 made q).1 x.1 = z from Hz.out]
                  have SVp : B1 ≤ wp.heap.size := Nat.le_trans SV Hdwp.out.size
                  have OwnP := Lib.hid (own_below HownV.out Hdwp.out)
                  have Hwp := Lib.hid (HbV.out.trans (Hdwp.out.mono SV))
                  have p0 := OwnP.out.cellAt (q * 3) (by omega)
                  rw [List.getElem?_eq_getElem (by rw [flat_len encI_len]; omega)] at p0
                  have f0 := OwnP.out.frozenAt (q * 3)
                  have Hset2 := Lib.hid hset2
                  have Hst2 := Lib.hid hst2
                  have Hfs := Lib.hid hfs
                  clear hset hset2 hst2 hfs hz
                  go_wp2
                  go_roundw
                  case rel =>
                    obtain ⟨s1, t1⟩ := OwnP.out.stored (q * 3) (.int .i32 z)
                    rw [Hfs.out] at s1
                    refine ⟨k + 1, made.set q (z, (at0 made q).2), some q, _, rfl, rfl, by go_num, by omega, Lib.hid (by rw [Hnx.out]; exact Hset2.out), Lib.hid ?_, Lib.hid (Hwp.out.grown t1 SVp (fun g' hg' => (OwnP.out.lt g' hg').1)), Hst2, by rw [List.length_set]; omega⟩
                    rw [List.length_set, hL]
                    exact s1
                  case measure => simp [RowKit.intOf]; omega
          · have hreach : ¬ reachZ made (some q) x = true := by
              unfold reachZ
              rw [hlz]
              have : ¬ (at0 made (L - 1)).2.1 < x.2.1 := by omega
              have h2 : ¬ made.length - 1 = q := by omega
              simp [this, h2]
            have hbz : ¬ (reachZ made (some q) x = true ∧ bothZ made (some q) x ≠ 0) := fun h => hreach h.1
            clear hML hafL hlz
            by_cases hm0 : M = 0
            · have hx0 : x.2.1 = 0 := by omega
              have hmb : (M == 0) = true := by simp [hm0]
              have Happ : addZ made (some q) x = (made ++ [x], some made.length) := by rw [add_app hbz, if_pos hx0]
              have Hst9 : StM (made ++ [x]) (some made.length) := by
                have h := stm_app Hst.out hitx hrawx
                rw [if_pos hx0] at h
                exact h
              clear hx0 hm0
              obtain ⟨d0, d1, d2⟩ := HD.out _ Hdwl.out
              have SVwl : B1 ≤ wl.heap.size := Nat.le_trans SV Hdwl.out.size
              have Ownwl := Lib.hid (own_below HownV.out Hdwl.out)
              have Hwwl := Lib.hid (HbV.out.trans (Hdwl.out.mono SV))
              go_wp2_with (at_builtin; refine wpList_append_own _ rfl _ _ 54 rfl B1 56 i0 _ 3 8 Tryd.underlying54 hi hz0 hz1 hz2 rfl (by decide) _ _ _ rfl (Ownwl.out.alloc _) ⟨wl.heap.size, 0, none⟩ 1 1 [.int .i32 xq, .bool xb, .int .u8 xr] rfl rfl (new_cells wl [.int .i32 xq, .bool xb, .int .u8 xr] 56) (by simp [Value.oneCell']) (by unfold maxLen; omega) (by omega) (by simp; omega) ?_)
              intro v9 w9 own9 g9 _
              have Hb9 := Lib.hid ((Hwwl.out.alloc SVwl (.cells #[.int .i32 xq, .bool xb, .int .u8 xr] 56)).grown g9 (by simp; omega) (fun g hg => (Ownwl.out.lt g hg).1))
              have Own9 := Lib.hid own9
              clear own9 g9
              go_wp2
              go_roundw
              case rel =>
                refine ⟨k + 1, made ++ [x], some made.length, _, rfl, by first | rfl | (rw [hL]; rfl), by go_num, by omega, Lib.hid (by rw [Hnx.out]; exact Happ), Lib.hid ?_, Hb9, Lib.hid Hst9, by simp; omega⟩
                rw [List.length_append, flat_append, show flat encI [x] = encI x by simp [flat], Hex.out]
                first | (rw [hL]; exact Own9.out) | exact Own9.out
              case measure => simp [RowKit.intOf]; omega
            · have hx0 : ¬ x.2.1 = 0 := by omega
              have hmb : (M == 0) = false := by simp [hm0]
              have Happ : addZ made (some q) x = (made ++ [x], some q) := by rw [add_app hbz, if_neg hx0]
              have Hst9 : StM (made ++ [x]) (some q) := by
                have h := stm_app Hst.out hitx hrawx
                rw [if_neg hx0] at h
                exact h
              clear hx0 hm0
              obtain ⟨d0, d1, d2⟩ := HD.out _ Hdwl.out
              have SVwl : B1 ≤ wl.heap.size := Nat.le_trans SV Hdwl.out.size
              have Ownwl := Lib.hid (own_below HownV.out Hdwl.out)
              have Hwwl := Lib.hid (HbV.out.trans (Hdwl.out.mono SV))
              go_wp2_with (at_builtin; refine wpList_append_own _ rfl _ _ 54 rfl B1 56 i0 _ 3 8 Tryd.underlying54 hi hz0 hz1 hz2 rfl (by decide) _ _ _ rfl (Ownwl.out.alloc _) ⟨wl.heap.size, 0, none⟩ 1 1 [.int .i32 xq, .bool xb, .int .u8 xr] rfl rfl (new_cells wl [.int .i32 xq, .bool xb, .int .u8 xr] 56) (by simp [Value.oneCell']) (by unfold maxLen; omega) (by omega) (by simp; omega) ?_)
              intro v9 w9 own9 g9 _
              have Hb9 := Lib.hid ((Hwwl.out.alloc SVwl (.cells #[.int .i32 xq, .bool xb, .int .u8 xr] 56)).grown g9 (by simp; omega) (fun g hg => (Ownwl.out.lt g hg).1))
              have Own9 := Lib.hid own9
              clear own9 g9
              go_wp2
              go_roundw
              case rel =>
                refine ⟨k + 1, made ++ [x], some q, _, rfl, rfl, by go_num, by omega, Lib.hid (by rw [Hnx.out]; exact Happ), Lib.hid ?_, Hb9, Lib.hid Hst9, by simp; omega⟩
                rw [List.length_append, flat_append, show flat encI [x] = encI x by simp [flat], Hex.out]
                first | (rw [hL]; exact Own9.out) | exact Own9.out
              case measure => simp [RowKit.intOf]; omega
    · obtain rfl : k = n := by omega
      have hf := Htg.out
      rw [Hfin.out] at hf
      have hf1 : (togF ps).1 = made := by rw [hf]
      obtain ⟨A2, c2, hv2, _, _⟩ := own_shape Hown.out
      subst hv2
      have HXm := Lib.hid (HX.out A2 made.length c2 W (by rw [hf1]; exact Rd.own Hown.out) (by rw [hf1]) (by omega))
      have HbF := Lib.hid (Hb1.out.trans (HbW.out.mono Hbb.out))
      clear Hown hf hf1
      go_wp2_with fail
      refine HXm.out.mono ?_
      rintro _ w3 ⟨rfl, b3⟩
      have Hb3 := Lib.hid (HbF.out.trans (b3.mono HbF.out.size))
      clear b3
      go_wp2_with fail
      go_ret
      exact ⟨rfl, Hb3.out⟩
end Go.Proofs.YtakfgeonjamjeaaDoor
