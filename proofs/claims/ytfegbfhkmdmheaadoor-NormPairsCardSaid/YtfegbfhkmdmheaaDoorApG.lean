/- norm's apart: a text's pieces, taken apart and in order. -/
import Derived.Test.YtfegbfhkmdmheaaDoorTextG
import Derived.Test.YtfegbfhkmdmheaaDoorRowRG
import Derived.Test.YtfegbfhkmdmheaaDoorScanG
import Derived.Laws.MakeOwn
set_option linter.unusedSimpArgs false
set_option linter.unusedVariables false
namespace Go.Proofs.YtfegbfhkmdmheaaDoor
open Go.RowKit Go.Lib

/-- the pieces of what a text begins with -/
def headP (l : List UInt8) : List Pc := if (dec l).2 = 1 ∧ 128 ≤ gb l 0 then [(0, 0, gb l 0)] else (splitZ (dec l).1).map fun q => (q, markZ q, 0)
def apF : Nat → List UInt8 → List Pc
  | 0, _ => []
  | f + 1, l => if l = [] then [] else headP l ++ apF f (l.drop (dec l).2)
def rawP (l : List UInt8) : List Pc := apF l.length l
def apartP (l : List UInt8) : List Pc := ordZ numP (rawP l)
theorem apF_eq : ∀ (f g : Nat) (l : List UInt8), l.length ≤ f → l.length ≤ g → apF f l = apF g l
  | 0, g, l, hf, _ => by
    obtain rfl : l = [] := List.eq_nil_of_length_eq_zero (by omega)
    cases g <;> simp [apF]
  | f + 1, 0, l, _, hg => by
    obtain rfl : l = [] := List.eq_nil_of_length_eq_zero (by omega)
    simp [apF]
  | f + 1, g + 1, l, hf, hg => by
    unfold apF
    by_cases h : l = []
    · rw [if_pos h, if_pos h]
    · have := dec_pos l
      have hl := List.length_pos_iff.2 h
      rw [if_neg h, if_neg h, apF_eq f g _ (by rw [List.length_drop]; omega) (by rw [List.length_drop]; omega)]
theorem rawP_step (l : List UInt8) (h : l ≠ []) : rawP l = headP l ++ rawP (l.drop (dec l).2) := by
  have hl := List.length_pos_iff.2 h
  have := dec_pos l
  unfold rawP
  rw [apF_eq l.length (l.length - 1 + 1) l (Nat.le_refl _) (by omega)]
  conv => lhs; unfold apF
  rw [if_neg h, apF_eq (l.length - 1) (l.drop (dec l).2).length _ (by rw [List.length_drop]; omega) (Nat.le_refl _)]
theorem splitZ_len (r : Int) : (splitZ r).length ≤ 4 := splitF_len 3 r
theorem headP_len (l : List UInt8) : (headP l).length ≤ 4 := by
  unfold headP
  split
  · simp
  · rw [List.length_map]; exact splitZ_len _
theorem headP_num (l : List UInt8) : ∀ p ∈ headP l, numP p < 256 := by
  unfold headP
  intro p hp
  split at hp
  · rw [List.mem_singleton.1 hp]; show 0 < 256; decide
  · obtain ⟨q, _, rfl⟩ := List.mem_map.1 hp
    exact markZ_lt q
theorem own_trim {w : World} {base : Nat} {e : TypeId} {A : Option Addr} {m c sz : Nat} {xs : List Value} (h : w.ownsRow base e sz (.slice A m c) m xs) : w.ownsRow base e sz (.slice A 0 c) 0 [] := by
  refine ⟨by simp, ?_⟩
  rcases h.2 with ⟨h1, h2⟩ | ⟨g, cap, cur, h1, h2, h3, h4, h5, h6, _⟩
  · cases h1
    exact .inl ⟨rfl, rfl⟩
  · cases h1
    exact .inr ⟨g, _, cur, rfl, h2, h3, Nat.zero_le _, h5, h6, by simp⟩
theorem own_apart {w : World} {b1 b2 : Nat} {e1 e2 : TypeId} {s1 s2 n1 n2 : Nat} {v1 v2 : Value} {xs ys : List Value} (h : w.ownsRow b1 e1 s1 v1 n1 xs) (k : w.ownsRow b2 e2 s2 v2 n2 ys) (hne : e1 ≠ e2) {g : Nat} (hg : v1.ownBlock = some g) : some g ≠ v2.ownBlock := by
  intro e
  rcases h.2 with ⟨rfl, _⟩ | ⟨g1, cap1, cur1, rfl, _, h1, _⟩
  · cases hg
  · rcases k.2 with ⟨rfl, _⟩ | ⟨g2, cap2, cur2, rfl, _, h2, _⟩
    · cases e
    · cases hg
      cases e
      rw [h1] at h2
      simp only [Option.some.injEq, Obj.cells.injEq] at h2
      exact hne h2.2.1
theorem own_grew {w w' : World} {b1 b2 : Nat} {e1 e2 : TypeId} {s1 s2 n1 n2 : Nat} {v1 v2 v2' : Value} {xs ys : List Value} (h : w.ownsRow b1 e1 s1 v1 n1 xs) (k : w.ownsRow b2 e2 s2 v2 n2 ys) (hne : e1 ≠ e2) (hg : Grew w w' v2 v2') : w'.ownsRow b1 e1 s1 v1 n1 xs :=
  row_same4 h fun g hgb => hg.block g (h.lt g hgb).2 (own_apart h k hne hgb)

theorem rowsP_nil (fv : Value) (w : World) : Calls Tryd.prog 100 #[.slice none 0 0, fv] w fun e w' => e = .returned (.tuple #[]) ∧ w' = w := by
  have HS := Lib.hid (fun A c fv w => rowP_short A 0 c fv w (by omega))
  go_enter Tryd.func100, Tryd.ntmps100
  go_wp2_with fail
  refine wp_loop_rounds 1 ?_
  rw [rounds_succ]
  go_wp2_with fail
  refine (HS.out _ _ _ _).mono ?_
  rintro _ w2 ⟨rfl, h⟩
  obtain rfl := h.symm
  go_wp2_with fail
  exact ⟨rfl, _, results_none rfl _ _ _, rfl, rfl⟩

set_option maxHeartbeats 8000000 in
set_option maxRecDepth 100000 in
theorem apart_any (s : ByteArray) (w : World) (hs : s.size ≤ 268435456) (hT : Utf8Tabs 0 1 w) : Calls Tryd.prog 67 #[.string s] w fun e w' =>
    ∃ A c, e = .returned (.slice A (apartP s.data.toList).length c) ∧ w'.ownsRow w.heap.size 100 3 (.slice A (apartP s.data.toList).length c) (apartP s.data.toList).length (flat encP (apartP s.data.toList)) ∧ Below w.heap.size w w' := by
  obtain ⟨i0, hi, hz0, hz1, hz2⟩ := info_parts pieceN_info
  obtain ⟨B, hB⟩ : ∃ B, w.heap.size = B := ⟨_, rfl⟩
  have HT := Lib.hid hT
  have HB := Lib.hid hB
  rw [hB]
  clear hT hB
  obtain ⟨AP, hAP⟩ : ∃ AP, apartP s.data.toList = AP := ⟨_, rfl⟩
  rw [hAP]
  obtain ⟨N, hNN⟩ : ∃ N, AP.length = N := ⟨_, rfl⟩
  rw [hNN]
  have HAP := Lib.hid hAP
  have HNN := Lib.hid hNN
  clear hAP hNN
  have hsl := size_list s
  have Hsl := Lib.hid hsl
  clear hsl
  have Hnx := Lib.hid (fun s w hT => next_any s w hT)
  have Hsp := Lib.hid (fun r w base v n xs a b c => split_any r w base v n xs a b c)
  have HM := Lib.hid (fun x w => Mark_any x w)
  have HR := Lib.hid (fun xs R cap tb post w a b c d e => rowsP_any xs R cap tb post w a b c d e)
  have HRn := Lib.hid rowsP_nil
  obtain ⟨ri, rhi, rz0, rz1, rz2⟩ := info_parts runeN_info
  obtain ⟨W0, hrun, hown0, hg0⟩ := run_make_own (P := Tryd.prog) w B 63 100 i0 _ 3 Tryd.underlying63 hi hz0 hz1 .i64 .i64 s.size (by rw [hz2]; omega) (by unfold maxLen; omega) (by rw [HB.out]; exact Nat.le_refl _)
  have HO0 := Lib.hid hown0
  have HB0 : Hid (Below B w W0) := Lib.hid ((Below.refl B w).grown hg0 (by rw [HB.out]; exact Nat.le_refl _) (fun k hk => by cases hk))
  clear hown0 hg0
  go_enter Tryd.func67, Tryd.ntmps67
  go_wp2_with fail
  go_loopw [3, 4, 5] (fun lv pv av wr => ∃ (at_ : Nat) (L : List Pc) (m : Nat) (qs : List Int), av = .int .i64 (at_ : Int) ∧ at_ ≤ s.size ∧ wr.ownsRow B 100 3 lv L.length (flat encP L) ∧ wr.ownsRow B 21 1 pv m (runes qs) ∧ m ≤ 4 ∧
    Hid (L ++ rawP (s.data.toList.drop at_) = rawP s.data.toList) ∧ L.length ≤ 4 * at_ ∧ (∀ p ∈ L, numP p < 256) ∧ Below B w wr) (fun _ _ av _ => s.size - (RowKit.intOf av).toNat)
  case atStart => exact ⟨0, [], 0, [], rfl, Nat.zero_le _, HO0.out, World.ownsRow_nil _ _ _ _, Nat.zero_le _, rfl, Nat.le_refl _, (fun _ h => by cases h), HB0.out⟩
  case round =>
    obtain ⟨at_, L, m, qs, rfl, hat, hol, hop, hm4, hL, hL4, hL256, hbw⟩ := hrel
    by_cases hlt : at_ < s.size
    · have hti : (at_ : Int) < (s.size : Int) := by omega
      have hne : s.data.toList.drop at_ ≠ [] := by intro e; have := congrArg List.length e; rw [List.length_drop, Hsl.out] at this; simp at this; omega
      have hst := rawP_step _ hne
      have hdf := dec_facts _ hne
      have hhl := headP_len (s.data.toList.drop at_)
      have hhn := headP_num (s.data.toList.drop at_)
      rw [List.length_drop, Hsl.out] at hdf
      have hdd : (s.data.toList.drop at_).drop (dec (s.data.toList.drop at_)).2 = s.data.toList.drop (at_ + (dec (s.data.toList.drop at_)).2) := by rw [List.drop_drop]
      rw [hdd] at hst
      have hN := Hnx.out (s.extract at_ s.size) wr (Utf8Tabs_below HT.out (by rw [HB.out]; exact hbw))
      rw [drop_list, show nxt (s.data.toList.drop at_) = dec (s.data.toList.drop at_) by unfold nxt; rw [if_neg hne]] at hN
      have hgb : (s.get! at_).toNat = gb (s.data.toList.drop at_) 0 := by
        rw [gets_gb]
        unfold gb
        simp [List.getD_eq_getElem?_getD, List.getElem?_drop]
      obtain ⟨rest, hrest⟩ : ∃ rest, s.data.toList.drop at_ = rest := ⟨_, rfl⟩
      rw [hrest] at hst hdf hhl hhn hN hgb hdd hL
      obtain ⟨d, hd⟩ : ∃ d, dec rest = d := ⟨_, rfl⟩
      obtain ⟨b, hb⟩ : ∃ b, gb rest 0 = b := ⟨_, rfl⟩
      have hhead : headP rest = if d.2 = 1 ∧ 128 ≤ b then [(0, 0, b)] else (splitZ d.1).map fun q => (q, markZ q, 0) := by unfold headP; rw [hd, hb]
      rw [hd] at hst hdf hN
      rw [hb] at hgb
      have hb256 : b < 256 := by rw [← hgb]; exact (s.get! at_).toNat_lt
      have hL' := hL.out
      rw [hst] at hL'
      have HN2 := Lib.hid hN
      have HL' := Lib.hid hL'
      have Hol := Lib.hid hol
      have Hop := Lib.hid hop
      have Hbw := Lib.hid hbw
      have HL256 := Lib.hid hL256
      have Hhn := Lib.hid hhn
      have hwd : IntKind.i64.wrap ((at_ : Int) + (d.2 : Int)) = ((at_ + d.2 : Nat) : Int) := by rw [IntWalk.i64_in _ (by omega)]; omega
      have hBs : B ≤ wr.heap.size := by have := hbw.size; have := HB.out; omega
      have hd4 : d.2 ≤ 4 := hdf.2.1
      have hd1 : 1 ≤ d.2 := hdf.1
      have hdl : d.2 ≤ s.size - at_ := hdf.2.2.1
      have hdr : d.1 ≤ 1114111 := by have := hdf.2.2.2.2.2.2; omega
      clear hN hL' hol hop hbw hL256 hhn hL hst hdf hdd hrest hne hb hd
      by_cases hA : d.2 = 1 ∧ 128 ≤ b
      · rw [if_pos hA] at hhead
        have hzz : ((d.2 : Int) == 1) = true := by simp [hA.1]
        have hge : (128 : Int) ≤ (b : Int) := by omega
        have Hhead := Lib.hid hhead
        have hA2 := Lib.hid hA
        clear hhead hA
        go_wp2_with fail
        refine HN2.out.mono ?_
        rintro _ w1 ⟨rfl, b1⟩
        have Hol1 := Lib.hid (own_below Hol.out b1)
        have Hop1 := Lib.hid (own_below Hop.out b1)
        have Hb1 := Lib.hid (Hbw.out.trans (b1.mono hBs))
        have hs1 := b1.size
        clear b1
        have hgb2 : (s[at_]'hlt).toNat = b := by
          rw [← hgb]
          simp [ByteArray.get!, hlt]
          rfl
        have hm1 : L.length + 1 ≤ maxLen := by unfold maxLen; omega
        have hm2 : (L.length + 1) * 8 ≤ 140737488355328 := by omega
        go_wp2_with (at_builtin; refine wpList_append_own_at _ rfl _ _ 63 rfl B 100 i0 _ 3 8 Tryd.underlying63 hi hz0 hz1 hz2 rfl (by decide) _ _ _ rfl (Hol1.out.alloc _) ⟨w1.heap.size, 0, none⟩ 1 1 [.int .i32 0, .int .u8 0, .int .u8 (b : Int)] rfl rfl ?c1 ?c2 hm1 hm2 ?c5 ?_)
        try (case c1 => exact new_cells w1 [.int .i32 0, .int .u8 0, .int .u8 (b : Int)] 100)
        case c2 => simp [Value.oneCell']
        case c5 => simp; omega
        intro v' w2 hown2 hg2 _ hb2
        have hgr : Grew w1 w2 _ v' := .of_append ((Below.refl _ w1).alloc (Nat.le_refl _) _) hg2 (by rw [World.size_alloc]; exact hb2)
        have Hop2 := Lib.hid (own_grew Hop1.out Hol1.out (by decide) hgr)
        have Hb2 : Hid (Below B w w2) := Lib.hid (Hb1.out.trans ⟨hgr.os, hgr.tape, hgr.output, by have := hgr.size; omega, fun j hj => hgr.block j (by omega) (fun e => by have := (Hol1.out.lt j e.symm).1; omega)⟩)
        have Hol2 : Hid (w2.ownsRow B 100 3 v' (L ++ headP rest).length (flat encP (L ++ headP rest))) := Lib.hid (by
          rw [Hhead.out, flat_append, List.length_append]
          exact hown2)
        clear hown2 hg2 hb2 hgr
        go_wp2
        go_roundw
        case rel =>
          refine ⟨at_ + d.2, L ++ headP rest, m, qs, by first | rfl | (rw [← hwd]), by omega, Hol2.out, Hop2.out, hm4, ?_, by rw [List.length_append]; omega, ?_, Hb2.out⟩
          · unfold Hid
            rw [← HL'.out]
            simp
          · intro p hp
            rcases List.mem_append.1 hp with hp | hp
            · exact HL256.out p hp
            · exact Hhn.out p hp
        case measure => simp only [RowKit.intOf]; omega
      · rw [if_neg hA] at hhead
        have hcs : (((d.2 : Int) == 1) = true ∧ ¬ (128 : Int) ≤ (b : Int)) ∨ (((d.2 : Int) == 1) = false) := by
          by_cases h1 : d.2 = 1
          · left
            exact ⟨by simp [h1], by omega⟩
          · right
            rw [beq_eq_false_iff_ne]
            omega
        have hgb2 : (s[at_]'hlt).toNat = b := by
          rw [← hgb]
          simp [ByteArray.get!, hlt]
          rfl
        have hql := splitZ_len (d.1 : Int)
        obtain ⟨sp, hsp⟩ : ∃ sp, splitZ (d.1 : Int) = sp := ⟨_, rfl⟩
        rw [hsp] at hql
        obtain ⟨q, hq⟩ : ∃ q, sp.length = q := ⟨_, rfl⟩
        rw [hq] at hql
        have Hsplit : Hid (∀ w base v n xs, World.ownsRow w base 21 1 v n xs → base ≤ w.heap.size → n ≤ 1073741820 → Calls Tryd.prog 37 #[v, .int .i32 (d.1 : Int)] w fun e w' => ∃ v', e = .returned v' ∧ w'.ownsRow base 21 1 v' (n + q) (xs ++ runes sp) ∧ Grew w w' v v') := Lib.hid (by
          intro w base v n xs a b c
          have h := Hsp.out (d.1 : Int) w base v n xs a b c
          rw [hsp, hq] at h
          exact h)
        obtain ⟨pq, hpq⟩ : ∃ pq : List Pc, headP rest = pq := ⟨_, rfl⟩
        have hpl : pq.length = q := by rw [← hpq, hhead, hsp, List.length_map, hq]
        have hpx : ∀ (j : Nat) (x : Int), sp[j]? = some x → pq[j]? = some (x, markZ x, 0) := by
          intro j x hx
          rw [← hpq, hhead, hsp, List.getElem?_map, hx]
          rfl
        have Hpq := Lib.hid hpq
        have Hpl := Lib.hid hpl
        have Hpx := Lib.hid hpx
        have Hq := Lib.hid hq
        clear hpq hpl hpx
        clear hhead hA hsp hq hgb
        rcases hcs with ⟨hzz, hnge⟩ | hzz
        all_goals
          go_wp2_with fail
          refine HN2.out.mono ?_
          rintro _ w1 ⟨rfl, b1⟩
          have hol1 := own_below Hol.out b1
          have hop1 := own_below Hop.out b1
          have Hol1 := Lib.hid hol1
          have Hb1 := Lib.hid (Hbw.out.trans (b1.mono hBs))
          have hs1 := b1.size
          clear b1 hol1
          obtain ⟨Ap, cp, rfl, _, _⟩ := own_shape hop1
          have hz0p : Ap = none → cp = 0 ∧ m = 0 := by
            intro e
            subst e
            rcases hop1.2 with ⟨h1, h2⟩ | ⟨g, cap, cur, h1, _⟩
            · cases h1
              exact ⟨rfl, rfl⟩
            · cases h1
          have hown0 := own_trim hop1
          have Hs := Lib.hid (Hsplit.out w1 B _ 0 [] hown0 (by omega) (by omega))
          have Hown0 := Lib.hid hown0
          clear hown0 hop1
          rcases Ap with _ | ap
          · obtain ⟨rfl, rfl⟩ := hz0p rfl
            clear hz0p
            go_wp2_with fail
            refine Hs.out.mono ?_
            rintro _ w2 ⟨v2, rfl, hown2, hgr⟩
            have hown2 : w2.ownsRow B 21 1 v2 q (runes sp) := by simpa using hown2
            have hol2 := own_grew Hol1.out Hown0.out (by decide) hgr
            have Hb2 : Hid (Below B w w2) := Lib.hid (Hb1.out.trans ⟨hgr.os, hgr.tape, hgr.output, by have := hgr.size; omega, fun j hj => hgr.block j (by omega) (fun e => by have := (Hown0.out.lt j e.symm).1; omega)⟩)
            have hs2 : B ≤ w2.heap.size := by have := hgr.size; omega
            obtain ⟨Av, cv, rfl, _, _⟩ := own_shape hown2
            have Hown2 := Lib.hid hown2
            have Hol2 := Lib.hid hol2
            clear hown2 hol2 hgr Hs Hown0 Hol1
            go_wp2_with fail
            go_loopw [3, 45] (fun lv i wv => ∃ j : Nat, j ≤ q ∧ i = .int .i64 (j : Int) ∧ wv.ownsRow B 100 3 lv (L.length + j) (flat encP (L ++ pq.take j)) ∧ wv.ownsRow B 21 1 (.slice Av q cv) q (runes sp) ∧ Below B w wv) (fun _ i _ => q - (RowKit.intOf i).toNat)
            case atStart => exact ⟨0, Nat.zero_le _, rfl, by simpa using Hol2.out, Hown2.out, Hb2.out⟩
            case round =>
              obtain ⟨j, hj, rfl, hlj, hpj, hbj⟩ := hrel
              have hBj : B ≤ wr.heap.size := by have := hbj.size; have := HB.out; omega
              by_cases hjq : j < q
              · have hji : (j : Int) < (q : Int) := by omega
                obtain ⟨x, hx⟩ : ∃ x, sp[j]? = some x := ⟨_, List.getElem?_eq_getElem (by rw [Hq.out]; exact hjq)⟩
                obtain ⟨av, rfl, _, hcv⟩ := Rd.addr (Rd.own hpj) (by omega)
                have hcx := hcv j (.int .i32 x) (by simp [runes, hx])
                have HMx := Lib.hid (HM.out x wr)
                obtain ⟨mz, hmz⟩ : ∃ mz, markZ x = mz := ⟨_, rfl⟩
                rw [show cls marksL (char x) = mz from hmz] at HMx
                have htk : pq.take (j + 1) = pq.take j ++ [(x, mz, 0)] := by
                  have h1 := Hpx.out j x hx
                  rw [hmz] at h1
                  obtain ⟨h, h2⟩ := List.getElem?_eq_some_iff.1 h1
                  rw [List.take_succ_eq_append_getElem h, h2]
                have Htk := Lib.hid htk
                have Hlj := Lib.hid hlj
                have Hpj := Lib.hid hpj
                have Hbj := Lib.hid hbj
                have hm1 : L.length + j + 1 ≤ maxLen := by unfold maxLen; omega
                have hm2 : (L.length + j + 1) * 8 ≤ 140737488355328 := by omega
                clear hmz hx hcv htk hlj hpj hbj
                go_wp2_with fail
                refine HMx.out.mono ?_
                rintro _ w3 ⟨rfl, b3⟩
                have Hl3 := Lib.hid (own_below Hlj.out b3)
                have Hp3 := Lib.hid (own_below Hpj.out b3)
                have Hb3 := Lib.hid (Hbj.out.trans (b3.mono hBj))
                have hs3 := b3.size
                clear b3
                go_wp2_with (at_builtin; refine wpList_append_own_at _ rfl _ _ 63 rfl B 100 i0 _ 3 8 Tryd.underlying63 hi hz0 hz1 hz2 rfl (by decide) _ _ _ rfl (Hl3.out.alloc _) ⟨w3.heap.size, 0, none⟩ 1 1 [.int .i32 x, .int .u8 (mz : Int), .int .u8 0] rfl rfl ?c1 ?c2 hm1 hm2 ?c5 ?_)
                try (case c1 => exact new_cells w3 [.int .i32 x, .int .u8 (mz : Int), .int .u8 0] 100)
                case c2 => simp [Value.oneCell']
                case c5 => simp; omega
                intro v' w4 hown4 hg4 _ hb4
                have hgr : Grew w3 w4 _ v' := .of_append ((Below.refl _ w3).alloc (Nat.le_refl _) _) hg4 (by rw [World.size_alloc]; exact hb4)
                have Hp4 := Lib.hid (own_grew Hp3.out Hl3.out (by decide) hgr)
                have Hb4 : Hid (Below B w w4) := Lib.hid (Hb3.out.trans ⟨hgr.os, hgr.tape, hgr.output, by have := hgr.size; omega, fun j hj => hgr.block j (by omega) (fun e => by have := (Hl3.out.lt j e.symm).1; omega)⟩)
                have Hl4 : Hid (w4.ownsRow B 100 3 v' (L.length + (j + 1)) (flat encP (L ++ pq.take (j + 1)))) := Lib.hid (by
                  rw [Htk.out, ← List.append_assoc, flat_append, ← Nat.add_assoc]
                  exact hown4)
                clear hown4 hg4 hb4 hgr
                go_wp2
                go_roundw
                case rel => exact ⟨j + 1, by omega, by go_num, Hl4.out, Hp4.out, Hb4.out⟩
                case measure => simp [RowKit.intOf]; omega
              · obtain rfl : j = q := by omega
                have hlj' := hlj
                rw [List.take_of_length_le (by rw [Hpl.out]; exact Nat.le_refl _), ← Hpq.out, show L.length + j = (L ++ headP rest).length by rw [List.length_append, Hpq.out, Hpl.out]] at hlj'
                have Hlj := Lib.hid hlj'
                have Hpj := Lib.hid hpj
                have Hbj := Lib.hid hbj
                clear hlj hlj' hpj hbj
                go_wp2
                go_roundw
                case rel =>
                  refine ⟨at_ + d.2, L ++ headP rest, j, sp, by first | rfl | (rw [← hwd]), by omega, Hlj.out, Hpj.out, hql, ?_, by rw [List.length_append]; omega, ?_, Hbj.out⟩
                  · unfold Hid
                    rw [← HL'.out]
                    simp
                  · intro p hp
                    rcases List.mem_append.1 hp with hp | hp
                    · exact HL256.out p hp
                    · exact Hhn.out p hp
                case measure => simp only [RowKit.intOf]; omega
          · clear hz0p
            go_wp2_with fail
            refine Hs.out.mono ?_
            rintro _ w2 ⟨v2, rfl, hown2, hgr⟩
            have hown2 : w2.ownsRow B 21 1 v2 q (runes sp) := by simpa using hown2
            have hol2 := own_grew Hol1.out Hown0.out (by decide) hgr
            have Hb2 : Hid (Below B w w2) := Lib.hid (Hb1.out.trans ⟨hgr.os, hgr.tape, hgr.output, by have := hgr.size; omega, fun j hj => hgr.block j (by omega) (fun e => by have := (Hown0.out.lt j e.symm).1; omega)⟩)
            have hs2 : B ≤ w2.heap.size := by have := hgr.size; omega
            obtain ⟨Av, cv, rfl, _, _⟩ := own_shape hown2
            have Hown2 := Lib.hid hown2
            have Hol2 := Lib.hid hol2
            clear hown2 hol2 hgr Hs Hown0 Hol1
            go_wp2_with fail
            go_loopw [3, 45] (fun lv i wv => ∃ j : Nat, j ≤ q ∧ i = .int .i64 (j : Int) ∧ wv.ownsRow B 100 3 lv (L.length + j) (flat encP (L ++ pq.take j)) ∧ wv.ownsRow B 21 1 (.slice Av q cv) q (runes sp) ∧ Below B w wv) (fun _ i _ => q - (RowKit.intOf i).toNat)
            case atStart => exact ⟨0, Nat.zero_le _, rfl, by simpa using Hol2.out, Hown2.out, Hb2.out⟩
            case round =>
              obtain ⟨j, hj, rfl, hlj, hpj, hbj⟩ := hrel
              have hBj : B ≤ wr.heap.size := by have := hbj.size; have := HB.out; omega
              by_cases hjq : j < q
              · have hji : (j : Int) < (q : Int) := by omega
                obtain ⟨x, hx⟩ : ∃ x, sp[j]? = some x := ⟨_, List.getElem?_eq_getElem (by rw [Hq.out]; exact hjq)⟩
                obtain ⟨av, rfl, _, hcv⟩ := Rd.addr (Rd.own hpj) (by omega)
                have hcx := hcv j (.int .i32 x) (by simp [runes, hx])
                have HMx := Lib.hid (HM.out x wr)
                obtain ⟨mz, hmz⟩ : ∃ mz, markZ x = mz := ⟨_, rfl⟩
                rw [show cls marksL (char x) = mz from hmz] at HMx
                have htk : pq.take (j + 1) = pq.take j ++ [(x, mz, 0)] := by
                  have h1 := Hpx.out j x hx
                  rw [hmz] at h1
                  obtain ⟨h, h2⟩ := List.getElem?_eq_some_iff.1 h1
                  rw [List.take_succ_eq_append_getElem h, h2]
                have Htk := Lib.hid htk
                have Hlj := Lib.hid hlj
                have Hpj := Lib.hid hpj
                have Hbj := Lib.hid hbj
                have hm1 : L.length + j + 1 ≤ maxLen := by unfold maxLen; omega
                have hm2 : (L.length + j + 1) * 8 ≤ 140737488355328 := by omega
                clear hmz hx hcv htk hlj hpj hbj
                go_wp2_with fail
                refine HMx.out.mono ?_
                rintro _ w3 ⟨rfl, b3⟩
                have Hl3 := Lib.hid (own_below Hlj.out b3)
                have Hp3 := Lib.hid (own_below Hpj.out b3)
                have Hb3 := Lib.hid (Hbj.out.trans (b3.mono hBj))
                have hs3 := b3.size
                clear b3
                go_wp2_with (at_builtin; refine wpList_append_own_at _ rfl _ _ 63 rfl B 100 i0 _ 3 8 Tryd.underlying63 hi hz0 hz1 hz2 rfl (by decide) _ _ _ rfl (Hl3.out.alloc _) ⟨w3.heap.size, 0, none⟩ 1 1 [.int .i32 x, .int .u8 (mz : Int), .int .u8 0] rfl rfl ?c1 ?c2 hm1 hm2 ?c5 ?_)
                try (case c1 => exact new_cells w3 [.int .i32 x, .int .u8 (mz : Int), .int .u8 0] 100)
                case c2 => simp [Value.oneCell']
                case c5 => simp; omega
                intro v' w4 hown4 hg4 _ hb4
                have hgr : Grew w3 w4 _ v' := .of_append ((Below.refl _ w3).alloc (Nat.le_refl _) _) hg4 (by rw [World.size_alloc]; exact hb4)
                have Hp4 := Lib.hid (own_grew Hp3.out Hl3.out (by decide) hgr)
                have Hb4 : Hid (Below B w w4) := Lib.hid (Hb3.out.trans ⟨hgr.os, hgr.tape, hgr.output, by have := hgr.size; omega, fun j hj => hgr.block j (by omega) (fun e => by have := (Hl3.out.lt j e.symm).1; omega)⟩)
                have Hl4 : Hid (w4.ownsRow B 100 3 v' (L.length + (j + 1)) (flat encP (L ++ pq.take (j + 1)))) := Lib.hid (by
                  rw [Htk.out, ← List.append_assoc, flat_append, ← Nat.add_assoc]
                  exact hown4)
                clear hown4 hg4 hb4 hgr
                go_wp2
                go_roundw
                case rel => exact ⟨j + 1, by omega, by go_num, Hl4.out, Hp4.out, Hb4.out⟩
                case measure => simp [RowKit.intOf]; omega
              · obtain rfl : j = q := by omega
                have hlj' := hlj
                rw [List.take_of_length_le (by rw [Hpl.out]; exact Nat.le_refl _), ← Hpq.out, show L.length + j = (L ++ headP rest).length by rw [List.length_append, Hpq.out, Hpl.out]] at hlj'
                have Hlj := Lib.hid hlj'
                have Hpj := Lib.hid hpj
                have Hbj := Lib.hid hbj
                clear hlj hlj' hpj hbj
                go_wp2
                go_roundw
                case rel =>
                  refine ⟨at_ + d.2, L ++ headP rest, j, sp, by first | rfl | (rw [← hwd]), by omega, Hlj.out, Hpj.out, hql, ?_, by rw [List.length_append]; omega, ?_, Hbj.out⟩
                  · unfold Hid
                    rw [← HL'.out]
                    simp
                  · intro p hp
                    rcases List.mem_append.1 hp with hp | hp
                    · exact HL256.out p hp
                    · exact Hhn.out p hp
                case measure => simp only [RowKit.intOf]; omega
    · obtain rfl : at_ = s.size := by omega
      have hL' := hL.out
      rw [List.drop_eq_nil_of_le (by rw [Hsl.out]; exact Nat.le_refl _)] at hL'
      have hLr : L = rawP s.data.toList := by rw [← hL']; simp [rawP, apF]
      have hol' := hol
      have hap : AP = ordZ numP L := by rw [← HAP.out]; unfold apartP; rw [hLr]
      have hln : L.length = N := by
        rw [← HNN.out, hap]
        unfold ordZ
        rw [ordR_len numP _ _ (fun _ h => by cases h) hL256]
        simp
      have Hap := Lib.hid hap
      have Hln := Lib.hid hln
      clear hL' hLr hap
      have Hbw := Lib.hid hbw
      rcases hol.2 with ⟨rfl, hn0⟩ | ⟨g, cap, cur, rfl, _⟩
      · have hL0 : L = [] := List.eq_nil_of_length_eq_zero hn0
        clear hol hol' hop hL hbw hrun hln
        go_wp2_with fail
        refine (HRn.out _ _).mono ?_
        rintro _ w2 ⟨rfl, h⟩
        obtain rfl := h.symm
        go_wp2_with fail
        go_ret
        subst hL0
        obtain rfl : N = 0 := Hln.out.symm
        refine ⟨none, 0, rfl, ?_, Hbw.out⟩
        rw [Hap.out]
        exact World.ownsRow_nil _ _ _ _
      · obtain ⟨post, hbl, hBg, hnc, hcm, hlx, hlc⟩ := own_blk hol'
        have hr := HR.out L g cap 100 post wr hbl hnc hcm (by omega) hL256
        rw [hln] at hr hnc hlx ⊢
        have Hr := Lib.hid hr
        have hgl := hbl.lt
        clear hr hol hol' hbl hop hL hbw hrun hln
        go_wp2_with fail
        refine Hr.out.mono ?_
        rintro _ w3 ⟨rfl, hb3, ho3⟩
        have Hb3 := Lib.hid hb3
        have Ho3 := Lib.hid ho3
        clear hb3 ho3
        go_wp2_with fail
        go_ret
        refine ⟨some ⟨g, 0, none⟩, cap, rfl, ?_, Hbw.out.trans (Ho3.out.below.mono (by omega))⟩
        have hl3 : (flat encP (ordZ numP L)).length = N * 3 := by rw [flat_len encP_len, ← Hap.out, HNN.out]
        rw [Hap.out]
        exact blk_own Hb3.out hBg hnc hcm hl3 (by rw [List.length_append, hl3, ← hlc, List.length_append, hlx])
end Go.Proofs.YtfegbfhkmdmheaaDoor

/- norm's Apart and Same. -/
namespace Go.Proofs.YtfegbfhkmdmheaaDoor
open Go.RowKit Go.Lib

/-- what a piece may be -/
def OkP (p : Pc) : Prop := 0 ≤ p.1 ∧ p.1 ≤ 1114111 ∧ p.2.1 < 256 ∧ p.2.2 < 256
theorem single_le (r : Int) (h : 0 ≤ r ∧ r ≤ 1114111) : 0 ≤ singleZ r ∧ singleZ r ≤ 1114111 := by
  unfold singleZ
  split
  · decide
  · split
    · decide
    · split
      · decide
      · exact h
theorem splitF_le : ∀ (f : Nat) (r : Int), 0 ≤ r ∧ r ≤ 1114111 → ∀ q ∈ splitF f r, 0 ≤ q ∧ q ≤ 1114111
  | 0, r, h, q, hq => by
    rw [List.mem_singleton.1 hq]
    exact single_le r h
  | f + 1, r, h, q, hq => by
    unfold splitF at hq
    split at hq
    · rw [List.mem_singleton.1 hq]
      exact single_le r h
    · have hp := parts_le (singleZ r)
      have e : stepZ r = partsZ (singleZ r) := rfl
      rcases List.mem_append.1 hq with hq | hq
      · exact splitF_le f _ (by rw [e]; omega) q hq
      · rw [List.mem_singleton.1 hq, e]
        omega
theorem headP_ok (l : List UInt8) (h : l ≠ []) : ∀ p ∈ headP l, OkP p := by
  intro p hp
  have hd := (dec_facts l h).2.2.2.2.2.2
  unfold headP at hp
  split at hp
  · rw [List.mem_singleton.1 hp]
    have : gb l 0 < 256 := by unfold gb; exact UInt8.toNat_lt _
    exact ⟨by show (0 : Int) ≤ 0; omega, by show (0 : Int) ≤ 1114111; omega, by show 0 < 256; omega, this⟩
  · obtain ⟨q, hq, rfl⟩ := List.mem_map.1 hp
    have hb := splitF_le 3 ((dec l).1 : Int) (by omega) q hq
    exact ⟨hb.1, hb.2, markZ_lt q, by show 0 < 256; omega⟩
theorem apF_ok : ∀ (f : Nat) (l : List UInt8), ∀ p ∈ apF f l, OkP p
  | 0, l, p, hp => by simp [apF] at hp
  | f + 1, l, p, hp => by
    unfold apF at hp
    by_cases h : l = []
    · rw [if_pos h] at hp
      cases hp
    · rw [if_neg h] at hp
      rcases List.mem_append.1 hp with hp | hp
      · exact headP_ok l h p hp
      · exact apF_ok f _ p hp
theorem ordR_mem {α : Type} (num : α → Nat) : ∀ (xs row : List α) (y : α), y ∈ ordR num row xs → y ∈ row ∨ y ∈ xs
  | [], row, y, h => .inl (conc_mem num row y 256 h)
  | x :: t, row, y, h => by
    unfold ordR at h
    by_cases hx : num x = 0
    · rw [if_pos hx] at h
      rcases List.mem_append.1 h with h | h
      · exact .inl (conc_mem num row y 256 h)
      · rcases List.mem_cons.1 h with rfl | h
        · exact .inr (List.mem_cons_self ..)
        · rcases ordR_mem num t [] y h with h | h
          · cases h
          · exact .inr (List.mem_cons_of_mem _ h)
    · rw [if_neg hx] at h
      rcases ordR_mem num t (row ++ [x]) y h with h | h
      · rcases List.mem_append.1 h with h | h
        · exact .inl h
        · rw [List.mem_singleton.1 h]; exact .inr (List.mem_cons_self ..)
      · exact .inr (List.mem_cons_of_mem _ h)
theorem apartP_ok (l : List UInt8) : ∀ p ∈ apartP l, OkP p := by
  intro p hp
  rcases ordR_mem numP _ _ p hp with h | h
  · cases h
  · exact apF_ok _ _ p h
theorem apF_len : ∀ (f : Nat) (l : List UInt8), (apF f l).length ≤ 4 * l.length
  | 0, l => by simp [apF]
  | f + 1, l => by
    unfold apF
    by_cases h : l = []
    · rw [if_pos h]; simp
    · rw [if_neg h, List.length_append]
      have h1 := headP_len l
      have h2 := apF_len f (l.drop (dec l).2)
      have h3 := dec_pos l
      have h4 := List.length_pos_iff.2 h
      rw [List.length_drop] at h2
      omega
theorem apartP_len (l : List UInt8) : (apartP l).length ≤ 4 * l.length := by
  unfold apartP ordZ rawP
  rw [ordR_len numP _ _ (fun _ h => by cases h) (fun p hp => (apF_ok _ _ p hp).2.2.1)]
  have := apF_len l.length l
  simp only [List.length_nil, Nat.zero_add]
  exact this
/-- what Apart says -/
def apartS (l : List UInt8) : List UInt8 := textP (apartP l)

set_option maxRecDepth 100000 in
theorem Apart_any (s : ByteArray) (w : World) (hs : s.size ≤ 268435456) (hT : Utf8Tabs 0 1 w) : Calls Tryd.prog 41 #[.string s] w fun e w' => e = .returned (.string ⟨(apartS s.data.toList).toArray⟩) ∧ Below w.heap.size w w' := by
  have HA := Lib.hid (apart_any s w hs hT)
  have HX := Lib.hid (fun ps A n c w a b c' d => ntext_any ps A n c w a b c' d)
  have hlen := apartP_len s.data.toList
  have hsl := size_list s
  have hok := apartP_ok s.data.toList
  unfold apartS
  obtain ⟨ps, hps⟩ : ∃ ps, apartP s.data.toList = ps := ⟨_, rfl⟩
  rw [hps] at HA hlen hok ⊢
  rw [hsl] at hlen
  clear hps hsl
  obtain ⟨R, hR⟩ : ∃ R, (textP ps).toArray = R := ⟨_, rfl⟩
  rw [hR]
  go_enter Tryd.func41, Tryd.ntmps41
  go_wp2_with fail
  refine HA.out.mono ?_
  rintro _ w1 ⟨A, c, rfl, hown, b1⟩
  have HT1 := Lib.hid (HX.out ps A _ c w1 (Rd.own hown) rfl (by omega) (fun p hp => ⟨by have := (hok p hp).1; omega, by have := (hok p hp).2.1; omega, (hok p hp).2.2.2⟩))
  rw [hR] at HT1
  have Hb1 := Lib.hid b1
  clear hown b1 hok
  go_wp2_with fail
  refine HT1.out.mono ?_
  rintro _ w2 ⟨rfl, b2⟩
  have Hb2 := Lib.hid (Hb1.out.trans (b2.mono Hb1.out.size))
  clear b2
  go_wp2_with fail
  go_ret
  exact ⟨rfl, Hb2.out⟩
def sameZ (a b : List UInt8) : Bool := decide (apartS a = apartS b)
set_option maxRecDepth 100000 in
theorem NSame_any (a b : ByteArray) (w : World) (ha : a.size ≤ 268435456) (hb : b.size ≤ 268435456) (hT : Utf8Tabs 0 1 w) : Calls Tryd.prog 43 #[.string a, .string b] w fun e w' => e = .returned (.bool (sameZ a.data.toList b.data.toList)) ∧ Below w.heap.size w w' := by
  have HA := Lib.hid (Apart_any a w ha hT)
  have HB := Lib.hid (fun w hT => Apart_any b w hb hT)
  have HT := Lib.hid hT
  unfold sameZ
  obtain ⟨x, hx⟩ : ∃ x, apartS a.data.toList = x := ⟨_, rfl⟩
  obtain ⟨y, hy⟩ : ∃ y, apartS b.data.toList = y := ⟨_, rfl⟩
  rw [hx] at HA ⊢
  rw [hy] at HB ⊢
  clear hx hy hT
  go_enter Tryd.func43, Tryd.ntmps43
  go_wp2_with fail
  refine HA.out.mono ?_
  rintro _ w1 ⟨rfl, b1⟩
  have HT1 := Lib.hid (Utf8Tabs_below HT.out b1)
  have Hb1 := Lib.hid b1
  clear b1
  go_wp2_with fail
  refine (HB.out w1 HT1.out).mono ?_
  rintro _ w2 ⟨rfl, b2⟩
  have Hb2 := Lib.hid (Hb1.out.trans (b2.mono Hb1.out.size))
  clear b2
  by_cases h : x = y
  · subst h
    go_wp2_with fail
    go_ret
    exact ⟨by simp, Hb2.out⟩
  · have hne : ¬ ((⟨x.toArray⟩ : ByteArray) = ⟨y.toArray⟩) := fun e => h (by have := congrArg (fun z : ByteArray => z.data.toList) e; simpa using this)
    go_wp2_with fail
    go_ret
    exact ⟨by simp [h], Hb2.out⟩
end Go.Proofs.YtfegbfhkmdmheaaDoor
