/- Layer 9, the program: countsAhead. -/
import Derived.Test.YtkcckophnamajaaPgA9
import Derived.Test.YtkcckophnamajaaPut9
import Derived.Deep.RegionWith
set_option linter.unusedSimpArgs false
set_option linter.unusedVariables false
namespace Go.Proofs.Ytkcckophnamajaa
open Go.RowKit Go.Lib

/-- how many of each direction stand ahead of each place -/
def cnP (l : List Int) : Prs := (List.range (l.length + 1)).map fun j => (cntD 0 (l.take j), cntD 1 (l.take j))
theorem cnP_len (l : List Int) : (cnP l).length = l.length + 1 := by simp [cnP]
theorem cnP_nil : cnP [] = [(0, 0)] := rfl
theorem cnP_snoc (l : List Int) (k : Int) : cnP (l ++ [k]) = cnP l ++ [(cntD 0 (l ++ [k]), cntD 1 (l ++ [k]))] := by
  unfold cnP
  rw [List.length_append, List.length_singleton, List.range_succ (n := l.length + 1), List.map_append]
  congr 1
  · refine List.map_congr_left fun j hj => ?_
    have hj := List.mem_range.1 hj
    rw [List.take_append_of_le_length (by omega)]
  · simp [List.take_of_length_le]
theorem cnP_get (l : List Int) {j : Nat} (h : j ≤ l.length) : (cnP l)[j]? = some (cntD 0 (l.take j), cntD 1 (l.take j)) := by
  unfold cnP
  rw [List.getElem?_map, List.getElem?_range (by omega)]
  rfl
theorem cnP_last (l : List Int) : (cnP l)[l.length]? = some (cntD 0 l, cntD 1 l) := by rw [cnP_get l (Nat.le_refl _), List.take_length]
theorem prC_zero : ∀ m : Nat, prC (List.replicate m (0, 0)) = List.replicate (m * 2) (Value.int .i64 0)
  | 0 => rfl
  | m + 1 => by
    rw [List.replicate_succ, prC_cons, prC_zero m, show (m + 1) * 2 = m * 2 + 1 + 1 by omega, List.replicate_succ, List.replicate_succ]
    rfl
theorem made_two (m : Nat) : (madeCells (Value.agg #[.int .i64 0, .int .i64 0]).cells (m * 2)).toList = prC (List.replicate m (0, 0)) := by
  rw [prC_zero]
  have e : (Value.agg #[.int .i64 0, .int .i64 0]).cells = #[.int .i64 0, .int .i64 0] := rfl
  rw [e]
  refine List.eq_replicate_iff.2 ⟨by simp [size_madeCells], fun x hx => ?_⟩
  unfold madeCells at hx
  simp only [Array.toList_map, List.mem_map, List.size_toArray, List.length_cons, List.length_nil] at hx
  obtain ⟨i, _, rfl⟩ := hx
  have h := Nat.mod_lt i (show 0 < 2 by omega)
  rcases (show i % 2 = 0 ∨ i % 2 = 1 by omega) with h1 | h1 <;> simp [h1]
theorem two_info9 : (Try.prog.info? 29).map (fun i => (i.zero, i.size, i.bytes)) = some (some (.agg #[.int .i64 0, .int .i64 0]), 2, 16) := by kernel_rfl
/-- a row of pairs of one's own at a place -/
theorem prow_at {w : World} {B n c : Nat} {A : Option Addr} {p t : Prs} {a b : Nat} (h : w.ownsRow B 29 2 (.slice A n c) n (prC (p ++ (a, b) :: t))) :
    ∃ g, A = some ⟨g, 0, none⟩ ∧ p.length < n ∧ n ≤ c ∧ c ≤ maxLen ∧ w.cell? ⟨g, p.length * 2, none⟩ = some (.int .i64 (a : Int)) ∧ w.cell? ⟨g, p.length * 2 + 1, none⟩ = some (.int .i64 (b : Int)) ∧ w.frozen? ⟨g, p.length * 2, none⟩ = false ∧ w.frozen? ⟨g, p.length * 2 + 1, none⟩ = false ∧
      (∀ v : Nat, (w.setCell ⟨g, p.length * 2, none⟩ (.int .i64 (v : Int))).ownsRow B 29 2 (.slice A n c) n (prC (p ++ (v, b) :: t))) ∧
      (∀ v : Nat, (w.setCell ⟨g, p.length * 2 + 1, none⟩ (.int .i64 (v : Int))).ownsRow B 29 2 (.slice A n c) n (prC (p ++ (a, v) :: t))) ∧ B ≤ g := by
  have hl := h.1
  rw [prC_len, List.length_append, List.length_cons] at hl
  obtain ⟨g, cap, hv, hBg, _⟩ := h.form (by omega)
  injection hv with hA _ hc
  subst hA hc
  obtain ⟨_, _, he, h1, h2⟩ := own_shape h
  injection he with _ _ he
  subst he
  have hget : (p ++ (a, b) :: t)[p.length]? = some (a, b) := by simp
  have hp := prC_get hget
  refine ⟨g, rfl, by omega, h1, h2, ?_, ?_, h.frozenAt _, h.frozenAt _, fun v => ?_, fun v => ?_, hBg⟩
  · rw [h.cellAt _ (by omega)]; exact hp.1
  · rw [h.cellAt _ (by omega)]; exact hp.2
  · have s1 := (h.stored (p.length * 2) (.int .i64 (v : Int))).1
    rw [prC_append, prC_cons, ← prC_len p, List.set_append_right _ _ (Nat.le_refl _), Nat.sub_self] at s1
    rw [prC_append, prC_cons, ← prC_len p]
    exact s1
  · have s1 := (h.stored (p.length * 2 + 1) (.int .i64 (v : Int))).1
    rw [prC_append, prC_cons, ← prC_len p, List.set_append_right _ _ (by omega), show (prC p).length + 1 - (prC p).length = 1 by omega] at s1
    rw [prC_append, prC_cons, ← prC_len p]
    exact s1
set_option maxRecDepth 100000 in
set_option maxHeartbeats 2000000 in
theorem countsAhead_any9 (A : Option Addr) (n c : Nat) (zs : List Int) (w : World) (hrd : RdK w A n zs) (hz : ∀ k ∈ zs, k = 13 ↔ neuZ k = true) (hn : n ≤ 1048576) :
    Calls Try.prog 44 #[.slice A n c] w (NewPr (cnP zs) w) := by
  obtain ⟨i0, hi, hz0, hz1, hz2⟩ := info_parts two_info9
  have hzl : zs.length = n := hrd.len
  have HD := Lib.hid direction_any9
  obtain ⟨W0, hrun, hown0, hg0⟩ := run_make_full (P := Try.prog) w w.heap.size 26 29 i0 _ 2 Try.underlying26 hi hz0 hz1 .i64 .i64 (n + 1) (by rw [hz2]; omega) (by unfold maxLen; omega) (Nat.le_refl _)
  rw [made_two] at hown0
  unfold NewPr
  rw [cnP_len, hzl]
  obtain ⟨Q, hQ⟩ : ∃ Q, w.heap.size = Q := ⟨_, rfl⟩
  have hrd0 : Rd w Q 1 A n (i8s zs) := by rw [← hQ]; exact hrd
  have hnw : IntKind.i64.wrap ((n : Int) + 1) = ((n + 1 : Nat) : Int) := by rw [IntWalk.i64_in _ (by omega)]; omega
  rw [hQ] at hrun hown0 ⊢
  have hb0 : Below Q w W0 := (Below.refl Q w).grown hg0 (by omega) (fun k hk => by cases hk)
  obtain ⟨n1, hn1⟩ : ∃ n1, n + 1 = n1 := ⟨_, rfl⟩
  rw [hn1] at hrun hown0 hnw ⊢
  have HRd := Lib.hid hrd0
  have H0 := Lib.hid (show _ ∧ _ from ⟨hown0, hb0⟩)
  have HQ := Lib.hid hQ
  have HN1 := Lib.hid hn1
  have HZ := Lib.hid hz
  clear hrd hrd0 hown0 hg0 hb0 hQ hn1 hz
  go_enter Try.func44, Try.ntmps44
  go_wp2_with fail
  go_loopw [12] (fun x wr => ∃ (p t : List Int) (W : World), W = wr ∧ Hid (zs = p ++ t) ∧ x = .int .i64 (p.length : Int) ∧ Hid (W.ownsRow Q 29 2 (.slice (some ⟨Q, 0, none⟩) n1 n1) n1 (prC (cnP p ++ List.replicate t.length (0, 0))) ∧ Below Q w W)) (fun x _ => n - (RowKit.intOf x).toNat)
  case atStart => exact ⟨[], zs, _, rfl, Lib.hid rfl, rfl, Lib.hid ⟨by rw [hzl, cnP_nil]; have := H0.out.1; rw [← HN1.out, List.replicate_succ] at this; rw [← HN1.out]; exact this, H0.out.2⟩⟩
  case round =>
    obtain ⟨p, t, W, hW, hx, rfl, HW⟩ := hrel
    subst hW
    have hlen := congrArg List.length hx.out
    rw [hzl, List.length_append] at hlen
    rcases t with _ | ⟨k, t⟩
    · have hpl : p.length = n := by simpa using hlen.symm
      rw [hpl]
      have hnn : ¬ (n : Int) < (n : Int) := by omega
      clear hlen
      go_wp2_with fail
      go_ret
      refine ⟨_, _, rfl, ?_, HW.out.2⟩
      have h1 := HW.out.1
      have h2 := hx.out
      rw [List.append_nil] at h2
      rw [h2]
      simpa using h1
    · obtain ⟨h1, h2⟩ := HW.out
      rw [List.length_cons, List.replicate_succ] at h1
      rw [List.length_cons] at hlen
      have hn1 := HN1.out
      obtain ⟨g, hA, hin, _, hcm, hca, hcb, hfa, hfb, hsa, hsb, _⟩ := prow_at h1
      injection hA with hA
      injection hA with hA
      subst hA
      have hold := prC_get (show (cnP p ++ (0, 0) :: List.replicate t.length (0, 0))[p.length]? = some (cntD 0 p, cntD 1 p) by rw [List.getElem?_append_left (by rw [cnP_len]; omega), cnP_last])
      have hoa := (h1.cellAt (g := Q) (p.length * 2) (by omega)).trans hold.1
      have hob := (h1.cellAt (g := Q) (p.length * 2 + 1) (by omega)).trans hold.2
      rw [cnP_len] at hin hca hcb hfa hfb
      have hrd' := HRd.out.below h2
      rw [hx.out] at hrd'
      obtain ⟨a, hA, hab, hcell⟩ := hrd'.addr (by omega)
      subst hA
      have hcell := hcell p.length (.int .i8 k) (by simp)
      have hini : (p.length : Int) < (n : Int) := by omega
      have hnext : IntKind.i64.wrap ((p.length : Int) + 1) = ((p.length + 1 : Nat) : Int) := by rw [IntWalk.i64_in _ (by omega)]; omega
      have hin1 : ((p.length + 1 : Nat) : Int) < (n1 : Int) := by omega
      have hin0 : (p.length : Int) < (n1 : Int) := by omega
      obtain ⟨c0, hc0⟩ : ∃ c0, cntD 0 p = c0 := ⟨_, rfl⟩
      obtain ⟨c1, hc1⟩ : ∃ c1, cntD 1 p = c1 := ⟨_, rfl⟩
      rw [hc0] at hoa
      rw [hc1] at hob
      obtain ⟨i, hi'⟩ : ∃ i, p.length = i := ⟨_, rfl⟩
      rw [hi'] at hin hcell hca hcb hfa hfb hoa hob hini hnext hin1 hin0 ⊢
      obtain ⟨i1, hi1⟩ : ∃ i1, i + 1 = i1 := ⟨_, rfl⟩
      rw [hi1] at hin hca hcb hfa hfb hnext hin1
      have hcn := cnP_snoc p k
      have hs0 := cntD_snoc 0 p k
      have hs1 := cntD_snoc 1 p k
      rw [hc0] at hs0
      rw [hc1] at hs1
      have hle0 : c0 ≤ n := by rw [← hc0]; exact Nat.le_trans List.countP_le_length (by omega)
      have hle1 : c1 ≤ n := by rw [← hc1]; exact Nat.le_trans List.countP_le_length (by omega)
      have r1 := hsa c0
      obtain ⟨g2, hA2, _, _, _, _, _, _, _, _, hsb2, _⟩ := prow_at r1
      injection hA2 with hA2
      injection hA2 with hA2
      subst hA2
      have r2 := hsb2 c1
      rw [cnP_len, hi', hi1] at r2
      obtain ⟨V, hV⟩ : ∃ V, (W.setCell ⟨Q, i1 * 2, none⟩ (.int .i64 (c0 : Int))).setCell ⟨Q, i1 * 2 + 1, none⟩ (.int .i64 (c1 : Int)) = V := ⟨_, rfl⟩
      rw [hV] at r2
      have hbV : Below Q w V := by
        rw [← hV]
        exact (h2.setCell (p := ⟨Q, i1 * 2, none⟩) (Nat.le_refl _) _).setCell (p := ⟨Q, i1 * 2 + 1, none⟩) (Nat.le_refl _) _
      obtain ⟨g3, hA3, _, _, _, kca, kcb, kfa, kfb, ksa, ksb, _⟩ := prow_at (show V.drew.ownsRow Q 29 2 (.slice (some ⟨Q, 0, none⟩) n1 n1) n1 (prC (cnP p ++ (c0, c1) :: List.replicate t.length (0, 0))) from r2)
      injection hA3 with hA3
      injection hA3 with hA3
      subst hA3
      rw [cnP_len, hi', hi1] at kca kcb kfa kfb ksa ksb
      have HV := Lib.hid (show _ ∧ _ ∧ _ ∧ _ ∧ _ ∧ _ ∧ _ ∧ _ from ⟨r2, hbV, kca, kcb, kfa, kfb, ksa, ksb⟩)
      have HVw := Lib.hid hV
      have Hx := Lib.hid (show zs = (p ++ [k]) ++ t by rw [hx.out]; simp)
      have hql : (p ++ [k]).length = i1 := by simp; omega
      have Hmem := Lib.hid (show k = 13 ↔ neuZ k = true from HZ.out k (by rw [hx.out]; simp))
      obtain ⟨q, hq⟩ : ∃ q, p ++ [k] = q := ⟨_, rfl⟩
      rw [hq] at Hx hql hcn hs0 hs1
      have Hql := Lib.hid hql
      have hini9 : i < n := by omega
      have HI1 := Lib.hid hi1
      clear hlen hi' hi1 hn1
      clear h1 hsa hsb hsb2 r1 r2 hV hbV kca kcb kfa kfb ksa ksb hold hrd' hc0 hc1 hx HW hq hql h2 hab
      by_cases hk13 : k = 13
      · have hn13 := Hmem.out.1 hk13
        have e0 : cntD 0 q = c0 := by rw [hs0, if_neg (by rw [hn13]; simp)]; rfl
        have e1 : cntD 1 q = c1 := by rw [hs1, if_neg (by rw [hn13]; simp)]; rfl
        have HS := Lib.hid (show V.ownsRow Q 29 2 (.slice (some ⟨Q, 0, none⟩) n1 n1) n1 (prC (cnP q ++ List.replicate t.length (0, 0))) ∧ Below Q w V from ⟨by rw [hcn, e0, e1]; simpa using HV.out.1, HV.out.2.1⟩)
        subst hk13
        clear hcn hs0 hs1 e0 e1 hn13 HV
        go_wp2_with fail
        rw [HVw.out]
        go_roundw
        case rel => exact ⟨q, t, _, rfl, Hx, by rw [Hql.out], HS⟩
        case measure => have := HI1.out; simp [RowKit.intOf]; omega
      have hkn : neuZ k = false := by
        cases e : neuZ k with
        | false => rfl
        | true => exact absurd (Hmem.out.2 e) hk13
      have b13 : (k != 13) = true := by simpa using hk13
      rcases way_two k with hway | hway
      · have e0 : cntD 0 q = c0 + 1 := by rw [hs0, if_pos ⟨hkn, hway⟩]
        have e1 : cntD 1 q = c1 := by rw [hs1, if_neg (by rw [hway]; simp)]; rfl
        have Hcn := Lib.hid (show cnP q ++ List.replicate t.length (0, 0) = cnP p ++ (c0 + 1, c1) :: List.replicate t.length (0, 0) by rw [hcn, e0, e1]; simp)
        clear hcn hs0 hs1 e0 e1 hkn
        have hvi : ((0 : Nat) : Int) < 2 := by omega
        have hcD : (V.drew).cell? ⟨Q, i1 * 2, none⟩ = some (.int .i64 (c0 : Int)) := HV.out.2.2.1
        have hfD : (V.drew).frozen? ⟨Q, i1 * 2, none⟩ = false := HV.out.2.2.2.2.1
        have hcV : V.cell? ⟨Q, i1 * 2, none⟩ = some (.int .i64 (c0 : Int)) := hcD
        have hfV : V.frozen? ⟨Q, i1 * 2, none⟩ = false := hfD
        have hwc : IntKind.i64.wrap ((c0 : Int) + 1) = ((c0 + 1 : Nat) : Int) := by rw [IntWalk.i64_in _ (by omega)]; omega
        obtain ⟨d, hd⟩ : ∃ d, c0 + 1 = d := ⟨_, rfl⟩
        rw [hd] at hwc
        have HS := Lib.hid (show (V.drew.setCell ⟨Q, i1 * 2, none⟩ (.int .i64 (d : Int))).ownsRow Q 29 2 (.slice (some ⟨Q, 0, none⟩) n1 n1) n1 (prC (cnP q ++ List.replicate t.length (0, 0))) ∧ Below Q w (V.drew.setCell ⟨Q, i1 * 2, none⟩ (.int .i64 (d : Int))) from by
          refine ⟨?_, (below_DD HV.out.2.1).setCell (p := ⟨Q, i1 * 2, none⟩) (Nat.le_refl _) _⟩
          rw [Hcn.out, ← hd]
          exact HV.out.2.2.2.2.2.2.1 (c0 + 1))
        have HDk := Lib.hid (fun W' => show Calls Try.prog 45 #[.int .i8 k] W' fun e w' => e = .returned (.int .i8 ((0 : Nat) : Int)) ∧ w' = W' from by have := HD.out k W'; rw [hway] at this; exact this)
        have Hd := Lib.hid hd
        clear hd hway hk13
        go_wp2_with fail
        rw [HVw.out]
        go_region_with (go_at_call 45; refine (HDk.out _).mono ?_; rintro e3 w3 ⟨rfl, h3⟩; obtain rfl := h3.symm)
        go_wp2_with fail
        go_roundw
        case rel => exact ⟨q, t, _, rfl, Hx, by rw [Hql.out], HS⟩
        case measure => have := HI1.out; simp [RowKit.intOf]; omega
      · have e0 : cntD 0 q = c0 := by rw [hs0, if_neg (by rw [hway]; simp)]; rfl
        have e1 : cntD 1 q = c1 + 1 := by rw [hs1, if_pos ⟨hkn, hway⟩]
        have Hcn := Lib.hid (show cnP q ++ List.replicate t.length (0, 0) = cnP p ++ (c0, c1 + 1) :: List.replicate t.length (0, 0) by rw [hcn, e0, e1]; simp)
        clear hcn hs0 hs1 e0 e1 hkn
        have hvi : ((1 : Nat) : Int) < 2 := by omega
        have hcD : (V.drew).cell? ⟨Q, i1 * 2 + 1, none⟩ = some (.int .i64 (c1 : Int)) := HV.out.2.2.2.1
        have hfD : (V.drew).frozen? ⟨Q, i1 * 2 + 1, none⟩ = false := HV.out.2.2.2.2.2.1
        have hcV : V.cell? ⟨Q, i1 * 2 + 1, none⟩ = some (.int .i64 (c1 : Int)) := hcD
        have hfV : V.frozen? ⟨Q, i1 * 2 + 1, none⟩ = false := hfD
        have hwc : IntKind.i64.wrap ((c1 : Int) + 1) = ((c1 + 1 : Nat) : Int) := by rw [IntWalk.i64_in _ (by omega)]; omega
        obtain ⟨d, hd⟩ : ∃ d, c1 + 1 = d := ⟨_, rfl⟩
        rw [hd] at hwc
        have HS := Lib.hid (show (V.drew.setCell ⟨Q, i1 * 2 + 1, none⟩ (.int .i64 (d : Int))).ownsRow Q 29 2 (.slice (some ⟨Q, 0, none⟩) n1 n1) n1 (prC (cnP q ++ List.replicate t.length (0, 0))) ∧ Below Q w (V.drew.setCell ⟨Q, i1 * 2 + 1, none⟩ (.int .i64 (d : Int))) from by
          refine ⟨?_, (below_DD HV.out.2.1).setCell (p := ⟨Q, i1 * 2 + 1, none⟩) (Nat.le_refl _) _⟩
          rw [Hcn.out, ← hd]
          exact HV.out.2.2.2.2.2.2.2 (c1 + 1))
        have HDk := Lib.hid (fun W' => show Calls Try.prog 45 #[.int .i8 k] W' fun e w' => e = .returned (.int .i8 ((1 : Nat) : Int)) ∧ w' = W' from by have := HD.out k W'; rw [hway] at this; exact this)
        have Hd := Lib.hid hd
        clear hd hway hk13
        go_wp2_with fail
        rw [HVw.out]
        go_region_with (go_at_call 45; refine (HDk.out _).mono ?_; rintro e3 w3 ⟨rfl, h3⟩; obtain rfl := h3.symm)
        go_wp2_with fail
        go_roundw
        case rel => exact ⟨q, t, _, rfl, Hx, by rw [Hql.out], HS⟩
        case measure => have := HI1.out; simp [RowKit.intOf]; omega
end Go.Proofs.Ytkcckophnamajaa
