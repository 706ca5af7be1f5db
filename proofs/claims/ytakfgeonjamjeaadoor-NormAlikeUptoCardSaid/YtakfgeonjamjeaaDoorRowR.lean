/- orderRow of numbers. -/
import Derived.Test.YtakfgeonjamjeaaDoorPiles
import Derived.Test.YtakfgeonjamjeaaDoorPair4
namespace Go.Proofs.YtakfgeonjamjeaaDoor
open Go.RowKit Go.Lib

def encR (x : Int) : List Value := [.int .i32 x]
theorem rowR_short (A : Option Addr) (n c : Nat) (fv : Value) (w : World) (hn : n < 2) : Calls Tryd.prog 64 #[.slice A n c, fv] w fun e w' => e = .returned (.tuple #[]) ∧ w' = w := by
  have h : (n : Int) < 2 := by omega
  go_enter Tryd.func64, Tryd.ntmps64
  go_wp2_with fail
  exact ⟨rfl, _, results_none rfl _ _ _, rfl, rfl⟩
theorem succ4 {w : World} {base : Nat} {e : TypeId} {size n : Nat} {v : Value} {xs : List Value} (h : w.ownsRow base e size v (n + 1) xs) : ∃ g cap, v = .slice (some ⟨g, 0, none⟩) (n + 1) cap := by
  rcases h.2 with ⟨_, h0⟩ | ⟨g, cap, cur, rfl, _⟩
  · omega
  · exact ⟨g, cap, rfl⟩
theorem zeros_R : Tryd.zeroCells109 = (List.replicate 256 (Value.slice none 0 0)).toArray := by kernel_rfl
theorem encR_len (x : Int) : (encR x).length = 1 := rfl
theorem encR_one (x : Int) : ∀ u ∈ encR x, u.oneCell' = true := by
  intro u hu
  rw [List.mem_singleton.1 hu]
  rfl
theorem take_pile {α : Type} (num : α → Nat) (xs : List α) (k : Nat) (x : α) (h : xs[k]? = some x) (i : Nat) : pile num (xs.take (k + 1)) i = if i = num x then pile num (xs.take k) (num x) ++ [x] else pile num (xs.take k) i := by
  obtain ⟨hk, rfl⟩ := List.getElem?_eq_some_iff.1 h
  rw [List.take_succ_eq_append_getElem hk, pile_snoc]
  by_cases e : num xs[k] = i
  · rw [if_pos e, if_pos e.symm, e]
  · rw [if_neg e, if_neg (fun h => e h.symm)]
set_option maxRecDepth 100000 in
set_option maxHeartbeats 4000000 in
theorem rowR_any (xs : List Int) (R cap : Nat) (tb : TypeId) (pre post : List Value) (w : World) (hblk : Blk w R tb (pre ++ flat encR xs ++ post)) (hn : xs.length ≤ cap) (hm : xs.length ≤ 1073741824) :
    Calls Tryd.prog 64 #[.slice (some ⟨R, pre.length, none⟩) xs.length cap, .func (.func 30) #[] #[]] w fun e w' =>
      e = .returned (.tuple #[]) ∧ Blk w' R tb (pre ++ flat encR (bucket markZ xs) ++ post) ∧ Other w w' R := by
  obtain ⟨i0, hi, hz0, hz1, hz2⟩ := info_parts runeN_info
  rcases Nat.lt_or_ge xs.length 2 with h2 | h2
  · refine (rowR_short _ _ _ _ w h2).mono ?_
    rintro _ w' ⟨rfl, rfl⟩
    rw [bucket_short markZ xs h2 (fun x _ => markZ_lt x)]
    exact ⟨rfl, hblk, Other.refl _ _⟩
  · obtain ⟨n, hN⟩ : ∃ n, xs.length = n := ⟨_, rfl⟩
    rw [hN] at hn hm h2 ⊢
    have HN := Lib.hid hN
    have Hblk := Lib.hid hblk
    have h2i : ¬ (n : Int) < 2 := by omega
    have HM := Lib.hid (fun x w => Mark_any x w)
    clear hblk hN
    go_enter Tryd.func64, Tryd.ntmps64
    obtain ⟨Pb, hPb⟩ : ∃ Pb, w.heap.size = Pb := ⟨_, rfl⟩
    have hRP : R < Pb := by rw [← hPb]; exact Hblk.out.lt
    obtain ⟨W, hW⟩ : ∃ W, w.alloc (.cells Tryd.zeroCells109 109) = W := ⟨_, rfl⟩
    have HP0 : Hid (Piles W Pb 109 21 1 encR (fun _ => [])) := Lib.hid (Piles.made (by unfold Blk; rw [← hW, ← hPb, ← zeros_R]; exact (MapKept.heap_alloc w _).1))
    have HB0 : Hid (Below Pb w W) := Lib.hid (by rw [← hW, ← hPb]; exact (Below.refl _ w).alloc (Nat.le_refl _) _)
    have HW := Lib.hid hW
    have HPb := Lib.hid hPb
    clear hW hPb
    go_wp2_with fail
    rw [HW.out, HPb.out]
    go_loopw [15] (fun i wr => ∃ k : Nat, k ≤ n ∧ i = .int .i64 (k : Int) ∧ Piles wr Pb 109 21 1 encR (fun i => pile markZ (xs.take k) i) ∧ Below Pb w wr) (fun i _ => n - (RowKit.intOf i).toNat)
    case atStart => exact ⟨0, Nat.zero_le _, rfl, HP0.out, HB0.out⟩
    case round =>
      obtain ⟨k, hk, rfl, hpl, hbw⟩ := hrel
      by_cases hkn : k < n
      · have hki : (k : Int) < (n : Int) := by omega
        obtain ⟨x, hx⟩ : ∃ x, xs[k]? = some x := ⟨_, List.getElem?_eq_getElem (by rw [HN.out]; exact hkn)⟩
        have hcell : wr.cell? ⟨R, pre.length + k, none⟩ = some (.int .i32 x) := by
          refine (hbw.cell (p := ⟨R, pre.length + k, none⟩) hRP).trans (Hblk.out.cell ?_)
          rw [List.append_assoc, List.getElem?_append_right (by omega), Nat.add_sub_cancel_left]
          have hf := flat_at (enc := encR) encR_len xs k x hx 0 (.int .i32 x) rfl
          rw [Nat.mul_one, Nat.add_zero] at hf
          rw [List.getElem?_append_left (List.getElem?_eq_some_iff.1 hf).1]
          exact hf
        have HMx := Lib.hid (HM.out x wr)
        have hm256 := markZ_lt x
        have Htk := Lib.hid (take_pile markZ xs k x hx)
        obtain ⟨m, hmm⟩ : ∃ m, markZ x = m := ⟨_, rfl⟩
        have hmm' : cls marksL (char x) = m := hmm
        rw [hmm'] at HMx
        rw [hmm] at hm256 Htk
        have hm256i : (m : Int) < 256 := by omega
        have Hpl := Lib.hid hpl
        have Hbw := Lib.hid hbw
        clear hmm hmm' hx hpl hbw
        go_wp2_with fail
        refine HMx.out.mono ?_
        rintro _ w1 ⟨rfl, b1⟩
        obtain ⟨cs, h1, h2, h3, h4⟩ := Hpl.out.below b1
        obtain ⟨v, hv⟩ : ∃ v, cs[m]? = some v := ⟨_, List.getElem?_eq_getElem (by rw [h2]; exact hm256)⟩
        have hcv := h1.cell hv
        have hown := h3 m v hv
        have hpw : Pb < w1.heap.size := h1.lt
        have hlen : (pile markZ (xs.take k) m).length ≤ 1073741824 := by
          have := List.length_filter_le (fun x => markZ x == m) (xs.take k)
          have h5 := List.length_take_le k xs
          unfold pile
          have h6 := HN.out
          omega
        obtain ⟨ps, hps⟩ : ∃ ps, pile markZ (xs.take k) m = ps := ⟨_, rfl⟩
        have hown' : w1.ownsRow (Pb + 1) 21 1 v ps.length (flat encR ps) := by rw [← hps]; exact hown
        rw [hps] at hlen
        have Hps := Lib.hid hps
        have Hown := Lib.hid hown'
        have H1 := Lib.hid h1
        have H3 := Lib.hid h3
        have H4 := Lib.hid h4
        have Hv := Lib.hid hv
        have B1 := Lib.hid (Hbw.out.trans (b1.mono (by have := Hbw.out.size; have := HPb.out; omega)))
        clear h1 h3 h4 hv hown hown' b1 hps
        go_wp2_with (at_builtin; refine wpList_append_own_at _ rfl _ _ 22 rfl (Pb + 1) 21 i0 _ 1 4 Tryd.underlying22 hi hz0 hz1 hz2 rfl (by decide) _ _ _ rfl (Hown.out.alloc _) ⟨w1.heap.size, 0, none⟩ 1 1 [.int .i32 x] rfl rfl ?c1 ?c2 ?c3 ?c4 ?c5 ?_)
        try (case c1 => exact new_cells w1 [.int .i32 x] 21)
        case c2 => simp [Value.oneCell']
        case c3 => unfold maxLen; omega
        case c4 => omega
        case c5 => simp; omega
        intro v' w2 hown2 hg2 _ hb2
        obtain ⟨g1, cap1, rfl⟩ := succ4 hown2
        have hgr : Grew w1 w2 v (.slice (some ⟨g1, 0, none⟩) (ps.length + 1) cap1) := .of_append ((Below.refl _ w1).alloc (Nat.le_refl _) _) hg2 (by rw [World.size_alloc]; exact hb2)
        have hne : some Pb ≠ v.ownBlock := fun e => by have := (Hown.out.lt Pb e.symm).1; omega
        have b2 : Blk w2 Pb 109 cs := (hgr.block Pb hpw hne).trans H1.out
        have c2 := b2.cell Hv.out
        have f2 := b2.frozen m
        have HPn := Lib.hid (Piles.put H1.out h2 H3.out H4.out Hv.out hgr (by have h := hown2; rw [← Hps.out] at h ⊢; exact h) (ls' := fun i => pile markZ (xs.take (k + 1)) i) (x := x) (fun i => Htk.out i))
        have HBn : Hid (Below Pb w (w2.setCell ⟨Pb, m, none⟩ (.slice (some ⟨g1, 0, none⟩) (ps.length + 1) cap1))) := Lib.hid (by
          refine (B1.out.trans ?_).setCell (p := ⟨Pb, m, none⟩) (Nat.le_refl _) _
          exact ⟨hgr.os, hgr.tape, hgr.output, by have := hgr.size; omega, fun j hj => hgr.block j (by omega) (fun e => by have := (Hown.out.lt j e.symm).1; omega)⟩)
        clear hgr hown2 hg2 hb2
        go_wp2
        go_roundw
        case rel => exact ⟨k + 1, by omega, by go_num, HPn.out, HBn.out⟩
        case measure => simp [RowKit.intOf]; omega
      · obtain rfl : k = n := by omega
        have hkk : ¬ (k : Int) < (k : Int) := by omega
        have hpl : Piles wr Pb 109 21 1 encR (fun i => pile markZ xs i) := by
          rw [List.take_of_length_le (by rw [HN.out]; exact Nat.le_refl _)] at hpl
          exact hpl
        obtain ⟨W3, hW3⟩ : ∃ W3, W3 = wr := ⟨_, rfl⟩
        subst hW3
        have Hpl := Lib.hid hpl
        have HO : Hid (Other w W3 R) := Lib.hid (Other.of_below (by rw [HPb.out]; exact hbw) R)
        have HB3 : Hid (Blk W3 R tb (pre ++ flat encR xs ++ post)) := Lib.hid ((hbw.block R hRP).trans Hblk.out)
        clear hpl hbw HP0 HB0 HW
        have hbk : ∀ j, j ≤ 256 → (conc markZ xs j).length ≤ k := by
          intro j hj
          have h1 := conc_mono markZ xs j 256 hj
          have h2 := conc_len markZ xs 256 (fun x _ => markZ_lt x)
          have h3 := HN.out
          omega
        have Hbk := Lib.hid hbk
        clear hbk
        go_wp2_with fail
        go_loopw [0, 35] (fun v i wv => ∃ j : Nat, j ≤ 256 ∧ i = .int .i64 (j : Int) ∧ v = .slice (some ⟨R, pre.length, none⟩) (conc markZ xs j).length cap ∧
          Blk wv R tb (pre ++ flat encR (conc markZ xs j) ++ (flat encR xs ++ post).drop (conc markZ xs j).length) ∧ Other W3 wv R) (fun _ i _ => 256 - (RowKit.intOf i).toNat)
        case atStart => exact ⟨0, Nat.zero_le _, rfl, rfl, by simpa [conc, flat] using HB3.out, Other.refl _ _⟩
        case round =>
          obtain ⟨j, hj, rfl, rfl, hbl, hot⟩ := hrel
          by_cases hj2 : j < 256
          · have hji : (j : Int) < 256 := by omega
            obtain ⟨cs, h1, h2, h3, h4⟩ := Hpl.out.other hot hRP
            obtain ⟨v, hv⟩ : ∃ v, cs[j]? = some v := ⟨_, List.getElem?_eq_getElem (by rw [h2]; exact hj2)⟩
            have hcv := h1.cell hv
            have hown : wr.ownsRow (Pb + 1) 21 1 v (pile markZ xs j).length (flat encR (pile markZ xs j)) := h3 j v hv
            have hnext : conc markZ xs (j + 1) = conc markZ xs j ++ pile markZ xs j := rfl
            have hcl := Hbk.out (j + 1) (by omega)
            rw [hnext, List.length_append] at hcl
            obtain ⟨c, hc⟩ : ∃ c, conc markZ xs j = c := ⟨_, rfl⟩
            obtain ⟨q, hq⟩ : ∃ q, pile markZ xs j = q := ⟨_, rfl⟩
            rw [hc, hq] at hnext hcl
            rw [hc] at hbl ⊢
            rw [hq] at hown
            have hxl : (flat encR xs ++ post).length = k + post.length := by rw [List.length_append, flat_len encR_len, HN.out, Nat.mul_one]
            have Hnx := Lib.hid hnext
            have Hot := Lib.hid hot
            have Hbl := Lib.hid hbl
            clear hc hq hnext h1 h2 h3 h4 hv hot hbl
            rcases hown.2 with ⟨rfl, hq0⟩ | ⟨g, cp, cur, rfl, _⟩
            · have hqn : q = [] := List.eq_nil_of_length_eq_zero hq0
              subst hqn
              clear hown
              go_wp2_with (at_builtin; refine wpList_append_nilblk rfl _ _ 22 rfl 21 i0 Tryd.underlying22 hi R pre.length c.length cap rfl rfl (by omega) ?_)
              go_wp2
              go_roundw
              case rel => exact ⟨j + 1, by omega, by go_num, by rw [Hnx.out, List.append_nil], by rw [Hnx.out, List.append_nil]; exact Hbl.out, Hot.out⟩
              case measure => simp [RowKit.intOf]; omega
            · have hsrc := hown.cells (g := g) rfl
              have hfl : (flat encR q).length = q.length * 1 := flat_len encR_len q
              have Hb2 : Hid (Blk wr R tb ((pre ++ flat encR c) ++ ((flat encR xs ++ post).drop c.length).take q.length ++ (flat encR xs ++ post).drop (c.length + q.length))) := Lib.hid (by
                have h := Hbl.out
                rw [← List.drop_drop]
                rw [List.append_assoc (pre ++ flat encR c), List.take_append_drop]
                exact h)
              have hpre : (pre ++ flat encR c).length = pre.length + c.length * 1 := by rw [List.length_append, flat_len encR_len]
              have hold : (((flat encR xs ++ post).drop c.length).take q.length).length = (flat encR q).length := by
                rw [List.length_take, List.length_drop, hxl, hfl]
                omega
              have Hb3 := Lib.hid (Hb2.out.setCells (flat encR q) hold)
              rw [hpre, Nat.mul_one] at Hb3
              have Ho3 := Lib.hid (Hot.out.trans (Other.setCells R (flat encR q) wr (pre.length + c.length)))
              have Hone := flat_one encR_one q
              clear hown
              go_wp2_with (at_builtin; refine wpList_append_blk rfl _ _ 22 rfl 21 i0 1 Tryd.underlying22 hi hz1 R pre.length c.length cap rfl ⟨g, 0, none⟩ q.length cp (flat encR q) rfl hfl hsrc Hone (by omega) tb _ _ _ Hb2.out hpre hold ?_)
              go_roundw
              case rel =>
                refine ⟨j + 1, by omega, by go_num, by rw [Hnx.out, List.length_append], ?_, Ho3.out⟩
                rw [Hnx.out, flat_append, List.length_append]
                have h := Hb3.out
                simpa using h
              case measure => simp [RowKit.intOf]; omega
          · obtain rfl : j = 256 := by omega
            have Hbl := Lib.hid hbl
            have Hot := Lib.hid hot
            clear hbl hot
            go_wp2_with fail
            refine ⟨rfl, _, results_none rfl _ _ _, rfl, ?_, HO.out.trans Hot.out⟩
            have h := Hbl.out
            have hbl := bucket_len markZ xs (fun x _ => markZ_lt x)
            rw [show conc markZ xs 256 = bucket markZ xs from rfl, hbl] at h
            rw [List.drop_left' (by rw [flat_len encR_len, Nat.mul_one])] at h
            exact h
end Go.Proofs.YtakfgeonjamjeaaDoor
