/- orderRow of numbers. -/
import Derived.Test.YtfegbfhkmdmheaaDoorPiles
import Derived.Test.YtfegbfhkmdmheaaDoorLettG
import Derived.Laws.AppendOwnNone
set_option linter.unusedSimpArgs false
set_option linter.unusedVariables false
namespace Go.Proofs.YtfegbfhkmdmheaaDoor
open Go.RowKit Go.Lib

def encR (x : Int) : List Value := [.int .i32 x]
theorem rowR_short (A : Option Addr) (n c : Nat) (fv : Value) (w : World) (hn : n < 2) : Calls Tryd.prog 63 #[.slice A n c, fv] w fun e w' => e = .returned (.tuple #[]) ∧ w' = w := by
  have h : (n : Int) < 2 := by omega
  go_enter Tryd.func63, Tryd.ntmps63
  go_wp2_with fail
  exact ⟨rfl, _, results_none rfl _ _ _, rfl, rfl⟩
theorem succ4 {w : World} {base : Nat} {e : TypeId} {size n : Nat} {v : Value} {xs : List Value} (h : w.ownsRow base e size v (n + 1) xs) : ∃ g cap, v = .slice (some ⟨g, 0, none⟩) (n + 1) cap := by
  rcases h.2 with ⟨_, h0⟩ | ⟨g, cap, cur, rfl, _⟩
  · omega
  · exact ⟨g, cap, rfl⟩
theorem zeros_R : Tryd.zeroCells135 = (List.replicate 256 (Value.slice none 0 0)).toArray := by kernel_rfl
theorem encR_len (x : Int) : (encR x).length = 1 := rfl
theorem encR_one (x : Int) : ∀ u ∈ encR x, u.oneCell' = true := by
  intro u hu
  rw [List.mem_singleton.1 hu]
  rfl
theorem take_pile {α : Type} (num : α → Nat) (xs : List α) (k : Nat) (x : α) (h : xs[k]? = some x) (i : Nat) : pile num (xs.take (k + 1)) i = if i = num x then pile num (xs.take k) (num x) ++ [x] else pile num (xs.take k) i := by
  obtain ⟨hk, rfl⟩ := List.getElem?_eq_some_iff.1 h
  rw [List.take_succ_eq_append_getElem hk, pile_snoc]
  by_cases e : num xs[k] = i
  · rw [if_pos e, if_pos e.symm, e]
  · rw [if_neg e, if_neg (fun h => e h.symm)]
set_option maxRecDepth 100000 in
set_option maxHeartbeats 4000000 in
theorem rowR_any (xs : List Int) (R cap : Nat) (tb : TypeId) (pre post : List Value) (w : World) (hblk : Blk w R tb (pre ++ flat encR xs ++ post)) (hn : xs.length ≤ cap) (hm : xs.length ≤ 35184372087808) :
    Calls Tryd.prog 63 #[.slice (some ⟨R, pre.length, none⟩) xs.length cap, .func (.func 16) #[] #[]] w fun e w' =>
      e = .returned (.tuple #[]) ∧ Blk w' R tb (pre ++ flat encR (bucket markZ xs) ++ post) ∧ Other w w' R := by
  obtain ⟨i0, hi, hz0, hz1, hz2⟩ := info_parts runeN_info
  rcases Nat.lt_or_ge xs.length 2 with h2 | h2
  · refine (rowR_short _ _ _ _ w h2).mono ?_
    rintro _ w' ⟨rfl, rfl⟩
    rw [bucket_short markZ xs h2 (fun x _ => markZ_lt x)]
    exact ⟨rfl, hblk, Other.refl _ _⟩
  · obtain ⟨n, hN⟩ : ∃ n, xs.length = n := ⟨_, rfl⟩
    rw [hN] at hn hm h2 ⊢
    have HN := Lib.hid hN
    have Hblk := Lib.hid hblk
    have h2i : ¬ (n : Int) < 2 := by omega
    have HM := Lib.hid (fun x w => Mark_any x w)
    clear hblk hN
    go_enter Tryd.func63, Tryd.ntmps63
    obtain ⟨Pb, hPb⟩ : ∃ Pb, w.heap.size = Pb := ⟨_, rfl⟩
    have hRP : R < Pb := by rw [← hPb]; exact Hblk.out.lt
    obtain ⟨W, hW⟩ : ∃ W, w.alloc (.cells Tryd.zeroCells135 135) = W := ⟨_, rfl⟩
    have HP0 : Hid (Piles W Pb 135 21 1 encR (fun _ => [])) := Lib.hid (Piles.made (by unfold Blk; rw [← hW, ← hPb, ← zeros_R]; exact (MapKept.heap_alloc w _).1))
    have HB0 : Hid (Below Pb w W) := Lib.hid (by rw [← hW, ← hPb]; exact (Below.refl _ w).alloc (Nat.le_refl _) _)
    have HW := Lib.hid hW
    have HPb := Lib.hid hPb
    clear hW hPb
    go_wp2_with fail
    rw [HW.out, HPb.out]
    go_loopw [15] (fun i wr => ∃ k : Nat, k ≤ n ∧ i = .int .i64 (k : Int) ∧ Piles wr Pb 135 21 1 encR (fun i => pile markZ (xs.take k) i) ∧ Below Pb w wr) (fun i _ => n - (RowKit.intOf i).toNat)
    case atStart => exact ⟨0, Nat.zero_le _, rfl, HP0.out, HB0.out⟩
    case round =>
      obtain ⟨k, hk, rfl, hpl, hbw⟩ := hrel
      by_cases hkn : k < n
      · have hki : (k : Int) < (n : Int) := by omega
        obtain ⟨x, hx⟩ : ∃ x, xs[k]? = some x := ⟨_, List.getElem?_eq_getElem (by rw [HN.out]; exact hkn)⟩
        have hcell : wr.cell? ⟨R, pre.length + k, none⟩ = some (.int .i32 x) := by
          refine (hbw.cell (p := ⟨R, pre.length + k, none⟩) hRP).trans (Hblk.out.cell ?_)
          rw [List.append_assoc, List.getElem?_append_right (by omega), Nat.add_sub_cancel_left]
          have hf := flat_at (enc := encR) encR_len xs k x hx 0 (.int .i32 x) rfl
          rw [Nat.mul_one, Nat.add_zero] at hf
          rw [List.getElem?_append_left (List.getElem?_eq_some_iff.1 hf).1]
          exact hf
        have HMx := Lib.hid (HM.out x wr)
        have hm256 := markZ_lt x
        have Htk := Lib.hid (take_pile markZ xs k x hx)
        obtain ⟨m, hmm⟩ : ∃ m, markZ x = m := ⟨_, rfl⟩
        have hmm' : cls marksL (char x) = m := hmm
        rw [hmm'] at HMx
        rw [hmm] at hm256 Htk
        have hm256i : (m : Int) < 256 := by omega
        have Hpl := Lib.hid hpl
        have Hbw := Lib.hid hbw
        clear hmm hmm' hx hpl hbw
        go_wp2_with fail
        refine HMx.out.mono ?_
        rintro _ w1 ⟨rfl, b1⟩
        obtain ⟨cs, h1, h2, h3, h4⟩ := Hpl.out.below b1
        obtain ⟨v, hv⟩ : ∃ v, cs[m]? = some v := ⟨_, List.getElem?_eq_getElem (by rw [h2]; exact hm256)⟩
        have hcv := h1.cell hv
        have hown := h3 m v hv
        have hpw : Pb < w1.heap.size := h1.lt
        have hlen : (pile markZ (xs.take k) m).length ≤ 35184372087808 := by
          have := List.length_filter_le (fun x => markZ x == m) (xs.take k)
          have h5 := List.length_take_le k xs
          unfold pile
          have h6 := HN.out
          omega
        obtain ⟨ps, hps⟩ : ∃ ps, pile markZ (xs.take k) m = ps := ⟨_, rfl⟩
        have hown' : w1.ownsRow (Pb + 1) 21 1 v ps.length (flat encR ps) := by rw [← hps]; exact hown
        rw [hps] at hlen
        have Hps := Lib.hid hps
        have Hown := Lib.hid hown'
        have H1 := Lib.hid h1
        have H3 := Lib.hid h3
        have H4 := Lib.hid h4
        have Hv := Lib.hid hv
        have B1 := Lib.hid (Hbw.out.trans (b1.mono (by have := Hbw.out.size; have := HPb.out; omega)))
        clear h1 h3 h4 hv hown hown' b1 hps
        go_wp2_with (at_builtin; refine wpList_append_own_at _ rfl _ _ 36 rfl (Pb + 1) 21 i0 _ 1 4 Tryd.underlying36 hi hz0 hz1 hz2 rfl (by decide) _ _ _ rfl (Hown.out.alloc _) ⟨w1.heap.size, 0, none⟩ 1 1 [.int .i32 x] rfl rfl ?c1 ?c2 ?c3 ?c4 ?c5 ?_)
        try (case c1 => exact new_cells w1 [.int .i32 x] 21)
        case c2 => simp [Value.oneCell']
        case c3 => unfold maxLen; omega
        case c4 => omega
        case c5 => simp; omega
        intro v' w2 hown2 hg2 _ hb2
        obtain ⟨g1, cap1, rfl⟩ := succ4 hown2
        have hgr : Grew w1 w2 v (.slice (some ⟨g1, 0, none⟩) (ps.length + 1) cap1) := .of_append ((Below.refl _ w1).alloc (Nat.le_refl _) _) hg2 (by rw [World.size_alloc]; exact hb2)
        have hne : some Pb ≠ v.ownBlock := fun e => by have := (Hown.out.lt Pb e.symm).1; omega
        have b2 : Blk w2 Pb 135 cs := (hgr.block Pb hpw hne).trans H1.out
        have c2 := b2.cell Hv.out
        have f2 := b2.frozen m
        have HPn := Lib.hid (Piles.put H1.out h2 H3.out H4.out Hv.out hgr (by have h := hown2; rw [← Hps.out] at h ⊢; exact h) (ls' := fun i => pile markZ (xs.take (k + 1)) i) (x := x) (fun i => Htk.out i))
        have HBn : Hid (Below Pb w (w2.setCell ⟨Pb, m, none⟩ (.slice (some ⟨g1, 0, none⟩) (ps.length + 1) cap1))) := Lib.hid (by
          refine (B1.out.trans ?_).setCell (p := ⟨Pb, m, none⟩) (Nat.le_refl _) _
          exact ⟨hgr.os, hgr.tape, hgr.output, by have := hgr.size; omega, fun j hj => hgr.block j (by omega) (fun e => by have := (Hown.out.lt j e.symm).1; omega)⟩)
        clear hgr hown2 hg2 hb2
        go_wp2
        go_roundw
        case rel => exact ⟨k + 1, by omega, by go_num, HPn.out, HBn.out⟩
        case measure => simp [RowKit.intOf]; omega
      · obtain rfl : k = n := by omega
        have hkk : ¬ (k : Int) < (k : Int) := by omega
        have hpl : Piles wr Pb 135 21 1 encR (fun i => pile markZ xs i) := by
          rw [List.take_of_length_le (by rw [HN.out]; exact Nat.le_refl _)] at hpl
          exact hpl
        obtain ⟨W3, hW3⟩ : ∃ W3, W3 = wr := ⟨_, rfl⟩
        subst hW3
        have Hpl := Lib.hid hpl
        have HO : Hid (Other w W3 R) := Lib.hid (Other.of_below (by rw [HPb.out]; exact hbw) R)
        have HB3 : Hid (Blk W3 R tb (pre ++ flat encR xs ++ post)) := Lib.hid ((hbw.block R hRP).trans Hblk.out)
        clear hpl hbw HP0 HB0 HW
        have hbk : ∀ j, j ≤ 256 → (conc markZ xs j).length ≤ k := by
          intro j hj
          have h1 := conc_mono markZ xs j 256 hj
          have h2 := conc_len markZ xs 256 (fun x _ => markZ_lt x)
          have h3 := HN.out
          omega
        have Hbk := Lib.hid hbk
        clear hbk
        go_wp2_with fail
        go_loopw [0, 35] (fun v i wv => ∃ j : Nat, j ≤ 256 ∧ i = .int .i64 (j : Int) ∧ v = .slice (some ⟨R, pre.length, none⟩) (conc markZ xs j).length cap ∧
          Blk wv R tb (pre ++ flat encR (conc markZ xs j) ++ (flat encR xs ++ post).drop (conc markZ xs j).length) ∧ Other W3 wv R) (fun _ i _ => 256 - (RowKit.intOf i).toNat)
        case atStart => exact ⟨0, Nat.zero_le _, rfl, rfl, by simpa [conc, flat] using HB3.out, Other.refl _ _⟩
        case round =>
          obtain ⟨j, hj, rfl, rfl, hbl, hot⟩ := hrel
          by_cases hj2 : j < 256
          · have hji : (j : Int) < 256 := by omega
            obtain ⟨cs, h1, h2, h3, h4⟩ := Hpl.out.other hot hRP
            obtain ⟨v, hv⟩ : ∃ v, cs[j]? = some v := ⟨_, List.getElem?_eq_getElem (by rw [h2]; exact hj2)⟩
            have hcv := h1.cell hv
            have hown : wr.ownsRow (Pb + 1) 21 1 v (pile markZ xs j).length (flat encR (pile markZ xs j)) := h3 j v hv
            have hnext : conc markZ xs (j + 1) = conc markZ xs j ++ pile markZ xs j := rfl
            have hcl := Hbk.out (j + 1) (by omega)
            rw [hnext, List.length_append] at hcl
            obtain ⟨c, hc⟩ : ∃ c, conc markZ xs j = c := ⟨_, rfl⟩
            obtain ⟨q, hq⟩ : ∃ q, pile markZ xs j = q := ⟨_, rfl⟩
            rw [hc, hq] at hnext hcl
            rw [hc] at hbl ⊢
            rw [hq] at hown
            have hxl : (flat encR xs ++ post).length = k + post.length := by rw [List.length_append, flat_len encR_len, HN.out, Nat.mul_one]
            have Hnx := Lib.hid hnext
            have Hot := Lib.hid hot
            have Hbl := Lib.hid hbl
            clear hc hq hnext h1 h2 h3 h4 hv hot hbl
            rcases hown.2 with ⟨rfl, hq0⟩ | ⟨g, cp, cur, rfl, _⟩
            · have hqn : q = [] := List.eq_nil_of_length_eq_zero hq0
              subst hqn
              clear hown
              go_wp2_with (at_builtin; refine wpList_append_nilblk rfl _ _ 36 rfl 21 i0 Tryd.underlying36 hi R pre.length c.length cap rfl rfl (by omega) ?_)
              go_wp2
              go_roundw
              case rel => exact ⟨j + 1, by omega, by go_num, by rw [Hnx.out, List.append_nil], by rw [Hnx.out, List.append_nil]; exact Hbl.out, Hot.out⟩
              case measure => simp [RowKit.intOf]; omega
            · have hsrc := hown.cells (g := g) rfl
              have hfl : (flat encR q).length = q.length * 1 := flat_len encR_len q
              have Hb2 : Hid (Blk wr R tb ((pre ++ flat encR c) ++ ((flat encR xs ++ post).drop c.length).take q.length ++ (flat encR xs ++ post).drop (c.length + q.length))) := Lib.hid (by
                have h := Hbl.out
                rw [← List.drop_drop]
                rw [List.append_assoc (pre ++ flat encR c), List.take_append_drop]
                exact h)
              have hpre : (pre ++ flat encR c).length = pre.length + c.length * 1 := by rw [List.length_append, flat_len encR_len]
              have hold : (((flat encR xs ++ post).drop c.length).take q.length).length = (flat encR q).length := by
                rw [List.length_take, List.length_drop, hxl, hfl]
                omega
              have Hb3 := Lib.hid (Hb2.out.setCells (flat encR q) hold)
              rw [hpre, Nat.mul_one] at Hb3
              have Ho3 := Lib.hid (Hot.out.trans (Other.setCells R (flat encR q) wr (pre.length + c.length)))
              have Hone := flat_one encR_one q
              clear hown
              go_wp2_with (at_builtin; refine wpList_append_blk rfl _ _ 36 rfl 21 i0 1 Tryd.underlying36 hi hz1 R pre.length c.length cap rfl ⟨g, 0, none⟩ q.length cp (flat encR q) rfl hfl hsrc Hone (by omega) tb _ _ _ Hb2.out hpre hold ?_)
              go_roundw
              case rel =>
                refine ⟨j + 1, by omega, by go_num, by rw [Hnx.out, List.length_append], ?_, Ho3.out⟩
                rw [Hnx.out, flat_append, List.length_append]
                have h := Hb3.out
                simpa using h
              case measure => simp [RowKit.intOf]; omega
          · obtain rfl : j = 256 := by omega
            have Hbl := Lib.hid hbl
            have Hot := Lib.hid hot
            clear hbl hot
            go_wp2_with fail
            refine ⟨rfl, _, results_none rfl _ _ _, rfl, ?_, HO.out.trans Hot.out⟩
            have h := Hbl.out
            have hbl := bucket_len markZ xs (fun x _ => markZ_lt x)
            rw [show conc markZ xs 256 = bucket markZ xs from rfl, hbl] at h
            rw [List.drop_left' (by rw [flat_len encR_len, Nat.mul_one])] at h
            exact h
end Go.Proofs.YtfegbfhkmdmheaaDoor

/- orderRows and Order of numbers. -/
namespace Go.Proofs.YtfegbfhkmdmheaaDoor
open Go.RowKit Go.Lib

theorem flat_runes (xs : List Int) : flat encR xs = runes xs := by
  induction xs with
  | nil => rfl
  | cons x t ih =>
    show encR x ++ flat encR t = _
    rw [ih]
    rfl
set_option maxRecDepth 100000 in
set_option maxHeartbeats 4000000 in
theorem rowsR_any (xs : List Int) (R cap : Nat) (tb : TypeId) (post : List Value) (w : World) (hblk : Blk w R tb (flat encR xs ++ post)) (hn : xs.length ≤ cap) (hcm : cap ≤ maxLen) (hm : xs.length ≤ 35184372087808) :
    Calls Tryd.prog 38 #[.slice (some ⟨R, 0, none⟩) xs.length cap, .func (.func 16) #[] #[]] w fun e w' =>
      e = .returned (.tuple #[]) ∧ Blk w' R tb (flat encR (ordZ markZ xs) ++ post) ∧ Other w w' R := by
  obtain ⟨n, hN⟩ : ∃ n, xs.length = n := ⟨_, rfl⟩
  rw [hN] at hn hm ⊢
  have HN := Lib.hid hN
  have Hblk := Lib.hid hblk
  have HM := Lib.hid (fun x w => Mark_any x w)
  have HRow := Lib.hid (fun xs R cap tb pre post w h1 h2 h3 => rowR_any xs R cap tb pre post w h1 h2 h3)
  have HSh := Lib.hid (fun A n c fv w h => rowR_short A n c fv w h)
  clear hblk hN
  have hcm' : cap ≤ 9223372036854775807 := by unfold maxLen at hcm; omega
  go_enter Tryd.func38, Tryd.ntmps38
  go_wp2_with fail
  go_loopw [4, 9] (fun bv i wr => ∃ (k : Nat) (dn row rest : List Int), k ≤ n ∧ bv = .int .i64 ((dn.length : Nat) : Int) ∧ i = .int .i64 (k : Int) ∧ dn.length + row.length = k ∧ rest = xs.drop k ∧ Hid (ordZ markZ xs = dn ++ ordR markZ row rest) ∧
      Blk wr R tb (flat encR dn ++ flat encR row ++ (flat encR rest ++ post)) ∧ Other w wr R) (fun _ i _ => n - (RowKit.intOf i).toNat)
  case atStart => exact ⟨0, [], [], xs, Nat.zero_le _, rfl, rfl, rfl, rfl, rfl, by simpa [flat] using Hblk.out, Other.refl _ _⟩
  case round =>
    obtain ⟨k, dn, row, rest, hk, rfl, rfl, hdk, hrest, hord, hbl, hot⟩ := hrel
    by_cases hkn : k < n
    · have hki : (k : Int) < (n : Int) := by omega
      obtain ⟨x, hx⟩ : ∃ x, xs[k]? = some x := ⟨_, List.getElem?_eq_getElem (by rw [HN.out]; exact hkn)⟩
      have hr2 : rest = x :: xs.drop (k + 1) := by
        rw [hrest]
        obtain ⟨h, rfl⟩ := List.getElem?_eq_some_iff.1 hx
        exact List.drop_eq_getElem_cons h
      have hcell : wr.cell? ⟨R, k, none⟩ = some (.int .i32 x) := by
        refine hbl.cell ?_
        rw [hr2, List.append_assoc, ← List.append_assoc, List.getElem?_append_right (by rw [List.length_append, flat_len encR_len, flat_len encR_len]; omega)]
        rw [List.length_append, flat_len encR_len, flat_len encR_len, show k - (dn.length * 1 + row.length * 1) = 0 by omega]
        rfl
      have HMx := Lib.hid (HM.out x wr)
      obtain ⟨m, hmm⟩ : ∃ m, markZ x = m := ⟨_, rfl⟩
      have hmm' : cls marksL (char x) = m := hmm
      rw [hmm'] at HMx
      have hlt := hbl.lt
      have hord' := hord.out
      rw [hr2] at hord' hbl
      unfold ordR at hord'
      rw [hmm] at hord'
      obtain ⟨b, hb⟩ : ∃ b, dn.length = b := ⟨_, rfl⟩
      have Hr2 := Lib.hid hr2
      clear hmm hmm' hx hord hrest hr2
      rw [hb] at hdk ⊢
      go_wp2_with fail
      refine HMx.out.mono ?_
      rintro _ w1 ⟨rfl, b1⟩
      have hbl1 : Blk w1 R tb _ := (b1.block R hlt).trans hbl
      have Hot1 := Lib.hid (hot.trans (Other.of_below b1 R))
      clear hbl hot b1
      by_cases hm0 : m = 0
      · subst hm0
        rw [if_pos rfl] at hord'
        have hf1 : (flat encR dn).length = b := by rw [flat_len encR_len, hb, Nat.mul_one]
        have hbc : ¬ (cap = b) := by omega
        have hbk : (b : Int) ≤ (k : Int) := by omega
        have hkc : (k : Int) ≤ (cap : Int) := by omega
        have hbci : (b : Int) < (cap : Int) := by omega
        have hR := HRow.out row R (cap - b) tb (flat encR dn) (flat encR (x :: xs.drop (k + 1)) ++ post) w1 hbl1 (by omega) (by omega)
        rw [hf1, show row.length = k - b by omega] at hR
        have HR := Lib.hid hR
        have Hord := Lib.hid hord'
        have hbu := bucket_len markZ row (fun x _ => markZ_lt x)
        have hwk : IntKind.i64.wrap ((k : Int) + 1) = ((k + 1 : Nat) : Int) := by rw [IntWalk.i64_in _ (by omega)]; omega
        clear hR hbl1 hord'
        go_wp2_with fail
        refine HR.out.mono ?_
        rintro _ w2 ⟨rfl, hb2, ho2⟩
        have Hb2 := Lib.hid hb2
        have Ho2 := Lib.hid (Hot1.out.trans ho2)
        clear hb2 ho2
        have hlen : (dn ++ bucket markZ row ++ [x]).length = k + 1 := by simp; omega
        go_wp2
        go_roundw
        case rel =>
          refine ⟨k + 1, dn ++ bucket markZ row ++ [x], [], xs.drop (k + 1), by omega, by rw [hlen]; first | rfl | (rw [← hwk]; rfl), by go_num, by rw [hlen]; rfl, rfl, ?_, ?_, Ho2.out⟩
          · have h := Hord.out
            unfold Hid
            rw [h]
            simp
          · have h := Hb2.out
            simpa [flat] using h
        case measure => simp [RowKit.intOf]; omega
      · rw [if_neg hm0] at hord'
        have hz : ((m : Int) == 0) = false := by rw [beq_eq_false_iff_ne]; omega
        have Hord := Lib.hid hord'
        have Hbl1 := Lib.hid hbl1
        clear hord' hbl1
        go_wp2
        go_roundw
        case rel =>
          refine ⟨k + 1, dn, row ++ [x], xs.drop (k + 1), by omega, by rw [hb], by go_num, by simp; omega, rfl, Lib.hid Hord.out, ?_, Hot1.out⟩
          have h := Hbl1.out
          rw [flat_append]
          simpa [flat] using h
        case measure => simp [RowKit.intOf]; omega
    · obtain rfl : k = n := by omega
      have hr2 : rest = [] := by rw [hrest]; exact List.drop_eq_nil_of_le (by rw [HN.out]; exact Nat.le_refl _)
      subst hr2
      have hord' := hord.out
      unfold ordR at hord'
      obtain ⟨b, hb⟩ : ∃ b, dn.length = b := ⟨_, rfl⟩
      rw [hb] at hdk ⊢
      have hbl' : Blk wr R tb (flat encR dn ++ flat encR row ++ post) := by simpa [flat] using hbl
      have Hord := Lib.hid hord'
      have Hot := Lib.hid hot
      clear hord hord' hot hbl hrest
      have hbk : (b : Int) ≤ (k : Int) := by omega
      have hkc : (k : Int) ≤ (cap : Int) := by omega
      rcases Classical.em (cap = b) with hcb | hcb
      · have hrow : row = [] := List.eq_nil_of_length_eq_zero (by omega)
        subst hrow
        have Hbl := Lib.hid hbl'
        have HS := Lib.hid (fun A c fv w => HSh.out A (k - b) c fv w (by omega))
        clear hbl'
        go_wp2_with fail
        refine (HS.out _ _ _ _).mono ?_
        rintro _ w2 ⟨rfl, h⟩
        obtain rfl := h.symm
        go_wp2_with fail
        refine ⟨rfl, _, results_none rfl _ _ _, rfl, ?_, Hot.out⟩
        rw [Hord.out, bucket_short markZ [] (by decide) (fun x h => by cases h), List.append_nil]
        simpa [flat] using Hbl.out
      · have hf1 : (flat encR dn).length = b := by rw [flat_len encR_len, hb, Nat.mul_one]
        have hR := HRow.out row R (cap - b) tb (flat encR dn) post wr hbl' (by omega) (by omega)
        rw [hf1, show row.length = k - b by omega] at hR
        have HR := Lib.hid hR
        clear hR hbl'
        go_wp2_with fail
        refine HR.out.mono ?_
        rintro _ w2 ⟨rfl, hb2, ho2⟩
        have Hb2 := Lib.hid hb2
        have Ho2 := Lib.hid (Hot.out.trans ho2)
        clear hb2 ho2
        go_wp2_with fail
        refine ⟨rfl, _, results_none rfl _ _ _, rfl, ?_, Ho2.out⟩
        rw [Hord.out, flat_append]
        exact Hb2.out
end Go.Proofs.YtfegbfhkmdmheaaDoor

/- Order of numbers. -/
namespace Go.Proofs.YtfegbfhkmdmheaaDoor
open Go.RowKit Go.Lib

theorem wpList_append_rd4 {P : Program} {w : World} {ops : Array Oper} {rest : List Oper} {o : Oper} {a : Act} {Q : Exit → Act → World → Prop} (hgd : o.guard = none) (s x : Operand) (t : TypeId)
    (ho : o.op = .call { callee := .builtin .append, args := #[s, x], argTypes := #[t, t] })
    (base : Nat) (e : TypeId) (i : TypeInfo) (z : Value) (bytes : Nat) (ht : P.underlying t = some (.slice e)) (hi : P.info? e = some i) (hz : i.zero = some z)
    (hsize : i.size = 1) (hby : i.bytes = bytes) (hzs : z.cells.size = 1)
    (v : Value) (n : Nat) (xs : List Value) (hs : a.eval s = v) (hown : w.ownsRow base e 1 v n xs)
    (A : Option Addr) (m c : Nat) (news : List Value) (hx : a.eval x = .slice A m c) (hnil : A = none → c = 0) (b2 : Nat) (hrd : Rd w b2 1 A m news) (h1 : ∀ u ∈ news, u.oneCell' = true)
    (h63 : n + m ≤ maxLen) (hbytes : (n + m) * bytes ≤ 140737488355328) (hbase : base ≤ w.heap.size)
    (h : ∀ v' w', w'.ownsRow base e 1 v' (n + m) (xs ++ news) → w.grownBy w' v.ownBlock → wpList P ops Q rest (a.put o.dst v') w') :
    wpList P ops Q (o :: rest) a w := by
  have hl := hrd.1
  rcases A with _ | ad
  · obtain rfl := hnil rfl
    obtain rfl : m = 0 := by
      rcases hrd.2 with h | ⟨a, e, _⟩
      · exact h
      · cases e
    obtain rfl : news = [] := List.eq_nil_of_length_eq_zero (by omega)
    refine wpList_append_own_none hgd s x t ho base e i 1 ht hi v n xs hs hown hx ?_
    exact h v w (by simpa using hown) ⟨rfl, rfl, rfl, Nat.le_refl _, fun _ _ _ => rfl⟩
  · have hc : ∀ j u, news[j]? = some u → w.cell? (ad.add j) = some u := by
      rcases hrd.2 with h | ⟨a, e, _, hc⟩
      · intro j u hu
        rw [List.eq_nil_of_length_eq_zero (show news.length = 0 by omega)] at hu
        cases hu
      · cases e
        exact hc
    exact wpList_append_own_at w hgd s x t ho base e i z 1 bytes ht hi hz hsize hby hzs (by omega) v n xs hs hown ad m c news hx hl hc h1 h63 hbytes hbase (fun v' w' a b _ c => h v' w' a b)


theorem rowsR_nil (fv : Value) (w : World) : Calls Tryd.prog 38 #[.slice none 0 0, fv] w fun e w' => e = .returned (.tuple #[]) ∧ w' = w := by
  have HS := Lib.hid (fun A c fv w => rowR_short A 0 c fv w (by omega))
  go_enter Tryd.func38, Tryd.ntmps38
  go_wp2_with fail
  refine wp_loop_rounds 1 ?_
  rw [rounds_succ]
  go_wp2_with fail
  refine (HS.out _ _ _ _).mono ?_
  rintro _ w2 ⟨rfl, h⟩
  obtain rfl := h.symm
  go_wp2_with fail
  exact ⟨rfl, _, results_none rfl _ _ _, rfl, rfl⟩
/-- a row of one's own, as a block -/
theorem own_blk {w : World} {base : Nat} {e : TypeId} {g cap sz n : Nat} {xs : List Value} (h : w.ownsRow base e sz (.slice (some ⟨g, 0, none⟩) n cap) n xs) : ∃ post, Blk w g e (xs ++ post) ∧ base ≤ g ∧ n ≤ cap ∧ cap ≤ maxLen ∧ xs.length = n * sz ∧ (xs ++ post).length = cap * sz := by
  rcases h.2 with ⟨h0, _⟩ | ⟨g', cap', cur, he, h1, h2, h3, h4, h5, h6⟩
  · cases h0
  · cases he
    refine ⟨cur.toList.drop (n * sz), ?_, h1, h3, h4, h.1, ?_⟩
    · unfold Blk
      rw [← h6, List.take_append_drop]
      exact h2
    · rw [← h6, List.take_append_drop, Array.length_toList, h5]
theorem blk_own {w : World} {base : Nat} {e : TypeId} {g cap sz n : Nat} {xs post : List Value} (h : Blk w g e (xs ++ post)) (h1 : base ≤ g) (h2 : n ≤ cap) (h3 : cap ≤ maxLen) (h4 : xs.length = n * sz) (h5 : (xs ++ post).length = cap * sz) : w.ownsRow base e sz (.slice (some ⟨g, 0, none⟩) n cap) n xs :=
  ⟨h4, .inr ⟨g, cap, _, rfl, h1, h, h2, h3, by simpa using h5, by show (xs ++ post).take (n * sz) = xs; rw [← h4, List.take_left]⟩⟩

set_option maxRecDepth 100000 in
theorem Order_any (xs : List Int) (A : Option Addr) (n c : Nat) (w : World) (hrd : Rd w w.heap.size 1 A n (runes xs)) (hnil : A = none → c = 0) (hn : n ≤ 35184372087808) :
    Calls Tryd.prog 15 #[.slice A n c] w fun e w' => ∃ A' c', e = .returned (.slice A' n c') ∧ w'.ownsRow w.heap.size 21 1 (.slice A' n c') n (runes (ordZ markZ xs)) ∧ Below w.heap.size w w' := by
  obtain ⟨i0, hi, hz0, hz1, hz2⟩ := info_parts runeN_info
  have hxl : xs.length = n := by have := hrd.1; simpa using this
  have Hrd := Lib.hid hrd
  have HR := Lib.hid (fun xs R cap tb post w a b c d => rowsR_any xs R cap tb post w a b c d)
  have HN := Lib.hid rowsR_nil
  have hol : (ordZ markZ xs).length = n := by
    have := ordR_len markZ xs [] (fun _ h => by cases h) (fun x _ => markZ_lt x)
    unfold ordZ
    rw [this, hxl]
    simp
  obtain ⟨Q, hQ⟩ : ∃ Q, w.heap.size = Q := ⟨_, rfl⟩
  rw [hQ]
  have HQ := Lib.hid hQ
  clear hrd hQ
  go_enter Tryd.func15, Tryd.ntmps15
  go_wp2_with (at_builtin; refine wpList_append_rd4 rfl _ _ 36 rfl Q 21 i0 _ 4 Tryd.underlying36 hi hz0 hz1 hz2 rfl _ 0 [] rfl (World.ownsRow_nil _ _ _ _) _ _ _ _ rfl hnil _ Hrd.out ?c1 ?c2 ?c3 ?c4 ?_)
  case c1 => simp [Value.oneCell']
  case c2 => unfold maxLen; omega
  case c3 => omega
  case c4 => rw [HQ.out]; exact Nat.le_refl _
  intro v2 w2 hown2 hg2
  have hown2 : w2.ownsRow Q 21 1 v2 n (runes xs) := by simpa using hown2
  have hb2 : Below Q w w2 := (Below.refl Q w).grown hg2 (by rw [HQ.out]; exact Nat.le_refl _) (fun k hk => by cases hk)
  have Hb2 := Lib.hid hb2
  clear hb2 hg2
  rcases hown2.2 with ⟨rfl, hn0⟩ | ⟨g, cap, cur, rfl, _⟩
  · subst hn0
    have hx0 : xs = [] := List.eq_nil_of_length_eq_zero hxl
    subst hx0
    clear hown2
    go_wp2_with fail
    refine (HN.out _ _).mono ?_
    rintro _ w3 ⟨rfl, h⟩
    obtain rfl := h.symm
    go_wp2_with fail
    go_ret
    exact ⟨none, 0, rfl, World.ownsRow_nil _ _ _ _, Hb2.out⟩
  · obtain ⟨post, hbl, hQg, hnc, hcm, hlx, hlc⟩ := own_blk hown2
    rw [← flat_runes] at hbl hlc hlx
    have hr := HR.out xs g cap 21 post w2 hbl (by omega) hcm (by omega)
    rw [hxl] at hr
    have Hr := Lib.hid hr
    have hgl := hbl.lt
    clear hr hown2 hbl
    go_wp2_with fail
    refine Hr.out.mono ?_
    rintro _ w3 ⟨rfl, hb3, ho3⟩
    have Hb3 := Lib.hid hb3
    have Ho3 := Lib.hid ho3
    clear hb3 ho3
    go_wp2_with fail
    go_ret
    refine ⟨_, cap, rfl, ?_, Hb2.out.trans (Ho3.out.below.mono (by omega))⟩
    rw [← flat_runes]
    have hl3 : (flat encR (ordZ markZ xs)).length = n * 1 := by rw [flat_len encR_len, hol]
    exact blk_own Hb3.out hQg hnc hcm hl3 (by rw [List.length_append, hl3, ← hlc, List.length_append, hlx])
end Go.Proofs.YtfegbfhkmdmheaaDoor
