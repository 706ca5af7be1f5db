/- ScanLanguage, walked. -/
import Derived.Test.YthakdkpgobloiaaDoorIterL
import Derived.Test.YthakdkpgobloiaaDoorScanE
import Derived.RangeFuncBox
import Derived.Maps.AppendAt
import Derived.Deep.RegionHeld3
import Derived.Deep.RegionLaw
import Derived.Deep.QuietTactic
import Derived.BigQuiet
namespace Go.Proofs.YthakdkpgobloiaaDoor
open Go.RowKit Go.Shelf Go.Lib
attribute [local go_sem] Oper.semAt_some

theorem own_lift {w w' : World} {base n size B : Nat} {e : TypeId} {v : Value} {xs : List Value} (h : w.ownsRow base e size v n xs) (hb : ∀ k, v.ownBlock = some k → k < B) (hB : Below B w w') : w'.ownsRow base e size v n xs := by
  refine ⟨h.1, ?_⟩
  rcases h.2 with h0 | ⟨g, cap, cur, hv, hg, hh, r⟩
  · exact .inl h0
  · exact .inr ⟨g, cap, cur, hv, hg, (hB.block g (hb g (by rw [hv]; rfl))).trans hh, r⟩
/-- the world, and the room, behind []rune(s) -/
def rcap (zs : List Int) (W : World) : Nat := grownCap W zs.length 0 21
def rworld (zs : List Int) (W : World) : World := W.drew.alloc (.cells ((zs.map (Value.int .i32)).toArray ++ Array.replicate (rcap zs W - zs.length) (.int .i32 0)) 21)
theorem conv_runes (s : ByteArray) (zs : List Int) (h : zsOf s.data.toList = zs) (hs : zs.length ≤ 70368744177664) (W : World) : (convert 9 28 (.string s)).run Tryd.prog W = .ok (.slice (some ⟨W.heap.size, 0, none⟩) zs.length (rcap zs W)) (rworld zs W) ∧ (rworld zs W).ownsRow W.heap.size 21 1 (.slice (some ⟨W.heap.size, 0, none⟩) zs.length (rcap zs W)) zs.length (zs.map (Value.int .i32)) ∧ Below W.heap.size W (rworld zs W) := by
  subst h
  have hlen : (runeCells' (runesOf s.data.toList)).toArray.size = (zsOf s.data.toList).length := by simp [runeCells', zsOf]
  have hcv := run_runes_of_string (P := Tryd.prog) W 9 28 21 s Tryd.underlying9 Tryd.underlying28 Tryd.underlying21 (by rw [runesFrom_all, hlen]; exact hs)
  rw [runesFrom_all, hlen, zsOf_cells] at hcv
  refine ⟨hcv, ⟨by simp, .inr ⟨W.heap.size, _, _, rfl, Nat.le_refl _, heap_alloc_new W.drew _, grownCap_ge _ _ _ _, grownCap_le_maxLen _ _ _ _ (by unfold maxLen; omega), ?_, ?_⟩⟩, (Below.refl _ W).drew.alloc (Nat.le_refl _) _⟩
  · have := grownCap_ge W (zsOf s.data.toList).length 0 21
    simp [rcap]
    omega
  · simp [List.take_append]
theorem conv_list (w : World) (B : Nat) (A : Option Addr) (n c : Nat) (zs : List Int) (h : Rd w B 1 A n (zs.map (Value.int .i32))) : (convert 28 9 (.slice A n c)).run Tryd.prog w = .ok (.string (runesBytes zs)) w := by
  have hl : zs.length = n := by have := h.1; simpa using this
  rcases A with _ | a
  · have h0 : n = 0 := by
      rcases Nat.eq_zero_or_pos n with h0 | h0
      · exact h0
      · obtain ⟨a, e, _⟩ := h.addr h0
        cases e
    have : zs = [] := List.eq_nil_of_length_eq_zero (by omega)
    subst this
    exact run_convert_runes_nil w _ _ 21 _ _ Tryd.underlying28 Tryd.underlying21 Tryd.underlying9
  · have := run_convert_runes (P := Tryd.prog) w 28 9 21 a n c zs (by omega) Tryd.underlying28 Tryd.underlying21 Tryd.underlying9 (fun j hj => by
      obtain ⟨a', e, _, hc⟩ := h.addr (by omega)
      injection e with e
      subst e
      exact hc j _ (by simp [List.getD, List.getElem?_eq_getElem hj]))
    rw [List.take_of_length_le (by omega)] at this
    exact this
theorem int_info2 : (Tryd.prog.info? 3).map (fun i => (i.zero, i.size, i.bytes)) = some (some (.int .i64 0), 1, 8) := by kernel_rfl
set_option maxRecDepth 100000 in
set_option maxHeartbeats 4000000 in
theorem lang_walk (s : ByteArray) (A : Option Addr) (n c : Nat) (ls : List Int) (w : World) (hs : s.size ≤ 1073741824) (hT : U8 w) (hrd : Rd w w.heap.size 1 A n (ls.map (Value.int .i32))) (hnc : n ≤ c) (hc : c ≤ maxLen) :
    Calls Tryd.prog 9 #[.string s, .slice A n c] w fun e w' => e = .returned (.bool true) ∧ Below w.heap.size w w' := by
  obtain ⟨i0, hi, hz0, hz1, hz2⟩ := info_parts int_info2
  obtain ⟨B, hB⟩ : ∃ B, w.heap.size = B := ⟨_, rfl⟩
  obtain ⟨zs, hzs⟩ : ∃ zs, zsOf s.data.toList = zs := ⟨_, rfl⟩
  have hzl : zs.length ≤ s.size := by rw [← hzs, zsOf_len]; have := segs_len s.data.toList; rwa [size_list] at this
  have hrun := fun W => runes_zs s zs hzs (by omega) W
  have hmk := fun W => all_maker s W
  have hpl : (places s).length ≤ 1073741824 := by
    have h1 := congrArg List.length (places_runes s)
    rw [List.length_map, runesOf_len] at h1
    rw [← hzs, zsOf_len] at hzl
    omega
  have Hrun := Lib.hid hrun
  have Hmk := Lib.hid hmk
  have HB := Lib.hid hB
  have Hrd := Lib.hid hrd
  have HT := Lib.hid hT
  have Hzs := Lib.hid hzs
  clear hrun hmk hB hrd hT hzs
  have hnil : ∀ b W, (binOp .eql 39 (.func (.func 55) #[] b) .nilFunc).run Tryd.prog W = .ok (.bool false) W := fun b W => by rfl
  refine (callsIn_wide (n := 9)).1 ?_
  refine callsIn_of_wp_marks Tryd.func9 rfl trivial ?_ rfl
  refine wpIn_wide.2 ?_
  simp only [Tryd.ntmps9, List.size_toArray, List.length_cons, List.length_nil, Nat.reduceAdd, Nat.reduceSub, Array.replicate_succ, Array.replicate_zero, List.push_toArray, List.append_toArray, List.nil_append, List.cons_append]
  go_wp2_with fail
  refine (Hrun.out _).mono ?_
  rintro _ w1 ⟨g1, c1, rfl, own1, b1⟩
  rw [HB.out] at own1 b1
  have Own1 := Lib.hid own1
  have B1 := Lib.hid b1
  have S1 : B ≤ w1.heap.size := by have := b1.size; have := HB.out; omega
  clear own1 b1
  go_wp2_with fail
  refine (Hmk.out _).mono ?_
  rintro _ w2 ⟨rfl, rfl⟩
  go_wp2_with fail
  have hsa : (w1.alloc (.cells #[.string s] 9)).heap.size = w1.heap.size + 1 := by simp
  have hca : (w1.alloc (.cells #[.string s] 9)).cell? ⟨w1.heap.size, 0, none⟩ = some (.string s) := (Boxed.new w1 9 (.string s)).cell
  have B2 := Lib.hid (B1.out.alloc S1 (.cells #[.string s] 9))
  have Own2 := Lib.hid (Own1.out.alloc (.cells #[.string s] 9))
  revert hsa hca B2 Own2
  generalize w1.alloc (.cells #[.string s] 9) = wa
  intro hsa hca B2 Own2
  have bO := Boxed.new wa 26 (.slice none 0 0)
  rw [hsa] at bO
  refine (wpIn_wide (n := 9)).1 ?_
  refine wpIn_rangeFunc_ownG rfl (by omega) (gf := 55) (lb := #[.pointer (some ⟨w1.heap.size, 0, none⟩)]) rfl trivial (enters_of Tryd.func55 (by kernel_rfl) rfl)
    (iterAll_stops Fence.wide 8 trivial rfl (by omega) w1.heap.size s _ (by simp; omega) (((Below.refl (w1.heap.size + 1) wa).alloc (by omega) _).cell (p := ⟨w1.heap.size, 0, none⟩) (Nat.lt_succ_self _) |>.trans hca)) walksK_t walksK_b (Below.refl _ _) (fun _ => rfl)
    (fun pre W => (∃ v, Boxed W (w1.heap.size + 1) 26 v ∧ W.ownsRow (w1.heap.size + 1) 3 1 v pre.length (pre.map fun x : Nat × Nat => Value.int .i64 (x.1 : Int)) ∧ True) ∧ Below (w1.heap.size + 1) wa W)
    (fun _ _ _ => False)
    (OwnFrom.and (Own.from (holdsRow_own (w1.heap.size + 1) (w1.heap.size + 1) 26 3 1 (fun pre : List (Nat × Nat) => pre.length) (fun pre => pre.map fun x : Nat × Nat => Value.int .i64 (x.1 : Int)) (fun _ _ => True)) _) (ownFrom_below (by omega) (by simp; omega)))
    (fun _ _ _ _ _ hs _ _ => hs)
    ⟨⟨_, bO, World.ownsRow_nil _ _ _ _, trivial⟩, (Below.refl _ wa).alloc (by omega) _⟩
    ?a1 ?assign ?body ?done ?stop
  case assign =>
    intro l x W K hK
    gi_wp2
    exact hK
  case stop =>
    rintro D c pre W _ _ h _
    exact h.elim
  case body =>
    rintro l pre x W ⟨⟨v, hv, hrow, _⟩, hB⟩ hlt
    have hc := hv.cell
    have hbs : w1.heap.size + 1 ≤ W.heap.size := by have := hB.size; omega
    have hm1 : pre.length + 1 ≤ maxLen := by unfold maxLen; omega
    have hm2 : (pre.length + 1) * 8 ≤ 140737488355328 := by omega
    gi_wp2_with (gi_at_builtin; refine wpListIn_append_own _ rfl _ _ 26 rfl (w1.heap.size + 1) 3 i0 (.int .i64 0) 1 8 Tryd.underlying26 hi hz0 hz1 hz2 rfl (by decide) _ _ _ rfl (hrow.alloc _) ⟨W.heap.size, 0, none⟩ 1 1 [.int .i64 (x.1 : Int)] rfl rfl (cell_one_new _ _ _) (by simp [Value.oneCell']) hm1 hm2 (by simp; omega) ?_; intro v' w1' hown' hgrow _; obtain ⟨g', cap', rfl⟩ := ownsRow_succ hown'; obtain ⟨hv1, hv2, hr2, hk2, hb2⟩ := hv.appended (by decide) hrow hbs (Nat.le_refl _) hown' hgrow; have hc1 := hv1.cell; have hf1 := hv1.frozen)
    exact ⟨hk2.from _, hk2.walks, ⟨_, hv2, by simpa using hr2, trivial⟩, hB.trans hb2⟩
  case done =>
    rintro D ys W hD rfl ⟨⟨v, hv, hrow, _⟩, hB⟩ hK
    have hcv := hv.cell
    obtain ⟨m, hm⟩ : ∃ m, (places s).length = m := ⟨_, rfl⟩
    rw [hm] at hrow
    have hzm : zs.length = m := by rw [← hm, ← Hzs.out, zsOf_len, ← runesOf_len, ← places_runes, List.length_map]
    obtain ⟨Ap, cp, rfl, hmc, hmx⟩ := own_shape hrow
    have Hm := Lib.hid hm
    have Hrow := Lib.hid hrow
    have Own3 := Lib.hid (own_lift Own2.out (fun k hk => Nat.lt_succ_of_lt (by have := (Own1.out.lt k hk).2; omega)) hB)
    have BW := Lib.hid (B2.out.trans (hB.mono (by omega)))
    have HK := Lib.hid hK
    have hbs : w1.heap.size + 1 < W.heap.size := hv.lt
    clear hm hrow hB hK hnil bO
    obtain ⟨b, hb⟩ : ∃ b, W.heap.size = b := ⟨_, rfl⟩
    have hit0 : (W.iter s 0).heap[b]? = some (.stringIter s 0) := by rw [← hb]; exact World.iter_heap W s 0
    have hb0 : Below b W (W.iter s 0) := (Below.refl b W).alloc (by omega) _
    have Hb0 := Lib.hid hb0
    have Hit0 := Lib.hid hit0
    have Hbs := Lib.hid hbs
    clear hb0 hit0 hbs
    go_wp2_with fail
    go_loopw [5] (fun k wr => ∃ (j pos : Nat) (Wr : World), Wr = wr ∧ k = .int .i64 (j : Int) ∧ Wr.heap[b]? = some (.stringIter s pos) ∧ Below b W Wr ∧ Hid (placesF s s.size pos = (places s).drop j) ∧ j ≤ m)
      (fun _ wr => s.size - wr.iterPos b)
    case atStart => exact ⟨0, 0, _, rfl, rfl, Hit0.out, Hb0.out, by unfold Hid; rfl, Nat.zero_le _⟩
    case round =>
      obtain ⟨j, pos, Wr, hWr, rfl, hit, hbw, hpl2, hjm⟩ := hrel
      subst hWr
      by_cases hp : pos < s.size
      · have hd2 := decode_pos s pos
        have hnx : ∀ ty, (Instr.next (.pointer (some ⟨b, 0, none⟩)) true ty).run Tryd.prog Wr = .ok (.tuple #[.bool true, .int .i64 pos, .int .i32 (Utf8.decode s pos).1]) (Wr.iterAt b s (pos + (Utf8.decode s pos).2)) := fun ty => Lib.run_next_any_at Wr b s pos ty hit hp
        have hpl3 := hpl2.out
        rw [placesF_step s pos hp] at hpl3
        revert hd2 hnx hpl3
        generalize Utf8.decode s pos = d
        intro hd2 hnx hpl3
        have hjl : j < m := by
          have := congrArg List.length hpl3
          rw [List.length_cons, List.length_drop, Hm.out] at this
          omega
        have hget : (places s)[j]? = some (pos, d.1) := by
          have := congrArg List.head? hpl3
          rw [List.head?_cons, List.head?_drop] at this
          exact this.symm
        have hpl4 : placesF s s.size (pos + d.2) = (places s).drop (j + 1) := by
          have := congrArg List.tail hpl3
          rw [List.tail_cons, List.tail_drop] at this
          exact this
        have hzj : zs[j]? = some (d.1 : Int) := by
          rw [← Hzs.out]
          unfold zsOf
          rw [← places_runes, List.map_map, List.getElem?_map, hget]
          rfl
        obtain ⟨gp, cap, hvp, _, hltp⟩ := Hrow.out.form (by omega)
        injection hvp with hA _ hcc
        subst hA hcc
        have e1 : W.cell? ⟨gp, j, none⟩ = some (.int .i64 (pos : Int)) := by
          have := Hrow.out.cells (g := gp) rfl j _ (by rw [List.getElem?_map, hget]; rfl)
          rwa [Addr.add_lit, Nat.zero_add] at this
        have e2 : W.cell? ⟨g1, j, none⟩ = some (.int .i32 (d.1 : Int)) := by
          have := Own3.out.cells (g := g1) rfl j _ (by rw [List.getElem?_map, hzj]; rfl)
          rwa [Addr.add_lit, Nat.zero_add] at this
        have hit2 := Lib.hid (Lib.iterAt_heap Wr b s pos (pos + d.2) hit)
        have hbw2 := Lib.below_iterAt hbw (Nat.le_refl b) s (pos + d.2)
        have f1 := (hbw2.cell (p := ⟨gp, j, none⟩) (by rw [← hb]; exact hltp)).trans e1
        have f2 := (hbw2.cell (p := ⟨g1, j, none⟩) (by rw [← hb]; exact (Own3.out.lt g1 rfl).2)).trans e2
        have f3 := (hbw2.cell (p := ⟨w1.heap.size + 1, 0, none⟩) (by rw [← hb]; exact Hbs.out)).trans hcv
        have Hbw2 := Lib.hid hbw2
        have Hpos := Lib.hid (iterPos_at hit)
        have Hpl4 := Lib.hid hpl4
        clear hit hbw hbw2 e1 e2 hget hzj hpl2 hpl3 hpl4 hcv
        obtain ⟨W1, hW1⟩ : ∃ W1, Wr.iterAt b s (pos + d.2) = W1 := ⟨_, rfl⟩
        rw [hW1] at hnx hit2 Hbw2 f1 f2 f3
        clear hW1
        go_wp2_with fail
        exact ⟨⟨j + 1, by omega, pos + d.2, hit2.out, Hbw2.out, Hpl4, by omega⟩, by rw [Hpos.out, iterPos_at hit2.out]; omega⟩
      · have hnx : ∀ ty, (Instr.next (.pointer (some ⟨b, 0, none⟩)) true ty).run Tryd.prog Wr = _ := fun ty => Lib.run_next_end_at Wr b s pos ty hit hp
        have hpl3 := hpl2.out
        rw [placesF_end s _ pos hp] at hpl3
        have hjm2 : j = m := by
          have := congrArg List.length hpl3
          rw [List.length_drop, Hm.out, List.length_nil] at this
          omega
        subst hjm2
        have f3 := (hbw.cell (p := ⟨w1.heap.size + 1, 0, none⟩) (by rw [← hb]; exact Hbs.out)).trans hcv
        have Hbw := Lib.hid hbw
        clear hit hpl2 hpl3 hcv hbw
        go_wp2_with fail
        have hBb : B ≤ b := by have := Hbs.out; omega
        have hNb : w1.heap.size + 1 < b := by have := Hbs.out; omega
        have b1' : Below B w Wr.drew := (BW.out.trans (Hbw.out.mono hBb)).drew
        have hce := fun W => (conv_runes s zs Hzs.out (by omega) W).1
        obtain ⟨_, ownc, bc⟩ := conv_runes s zs Hzs.out (by omega) Wr.drew
        have hBr : B ≤ Wr.drew.heap.size := by have := b1'.size; have := HB.out; omega
        have hbr : b ≤ Wr.drew.heap.size := by have := Hbw.out.size; show b ≤ Wr.heap.size; omega
        have Bc := Lib.hid (b1'.trans (bc.mono hBr))
        have Kc := Lib.hid ((Hbw.out.drew).trans (bc.mono hbr))
        have hBc : B ≤ (rworld zs Wr.drew).heap.size := Nat.le_trans hBr bc.size
        have hbc : b ≤ (rworld zs Wr.drew).heap.size := Nat.le_trans hbr bc.size
        have Rc := Lib.hid (Rd.own ownc)
        have R1 := Lib.hid ((Rd.own Own3.out).below (((Hbw.out.mono (Nat.le_of_eq hb)).drew).trans (bc.mono (by have := Hbw.out.size; show W.heap.size ≤ Wr.heap.size; omega))))
        have HTb := Lib.hid (fun (W' : World) (h : Below B w W') => Utf8Tabs_below HT.out (by rw [HB.out]; exact h))
        have Hrd2 := Lib.hid (fun (W' : World) (h : Below B w W') => (Hrd.out.below (by rw [HB.out]; exact h)))
        have hzx : j ≤ maxLen := by unfold maxLen; omega
        have hzl2 : zs.length = j := by omega
        have R1 := R1.out
        have Rc := Rc.out
        rw [hzl2] at R1 Rc
        have R1 := Lib.hid R1
        have Rc := Lib.hid Rc
        have hzj : (zs.length : Int) = (j : Int) := by omega
        have f3c : (rworld zs Wr.drew).cell? ⟨w1.heap.size + 1, 0, none⟩ = some (.slice Ap j cp) := (bc.cell (p := ⟨w1.heap.size + 1, 0, none⟩) (Nat.lt_of_lt_of_le hNb hbr)).trans f3
        have hb1 := b1'
        clear b1' ownc bc hnx
        clear hca hpl Hit0 Hb0
        have hcl0 := conv_list Wr.drew _ A n c ls (Hrd2.out _ hb1)
        have hclc := conv_list (rworld zs Wr.drew) _ A n c ls (Hrd2.out _ Bc.out)
        refine wp_region_noPanic ?_
        go_region_law (first
          | (go_simp; first
            | (go_at_call 45; refine (same_yes (rworld zs Wr.drew) _ _ (some ⟨g1, 0, none⟩) (some ⟨Wr.heap.size, 0, none⟩) j c1 (rcap zs Wr.drew) zs R1.out Rc.out hzx).mono ?_; rintro e w15 ⟨rfl, b15⟩; have B15 := Lib.hid (Bc.out.trans (b15.mono hBc)); have K15 := Lib.hid (Kc.out.trans (b15.mono hbc)); have S15 := b15.size; have f3e := (b15.cell (p := ⟨w1.heap.size + 1, 0, none⟩) (Nat.lt_of_lt_of_le hNb hbc)).trans f3c; have hcl15 := conv_list w15 _ A n c ls (Hrd2.out _ B15.out); clear b15)
            | (go_at_call 31; refine (text_any w15 _ A n c ls (Hrd2.out _ B15.out)).mono ?_; rintro e w16 ⟨rfl, rfl⟩)
            | (go_at_call 20; refine (wakes_any _ (HTb.out _ B15.out)).mono ?_; rintro e w18 ⟨rfl, b18⟩; have f3g := (b18.cell (p := ⟨w1.heap.size + 1, 0, none⟩) (Nat.lt_of_lt_of_le hNb (Nat.le_trans hbc S15))).trans f3e; have B18 := Lib.hid (B15.out.trans (b18.mono (Nat.le_trans hBc S15))); have hcl18 := conv_list w18 _ A n c ls (Hrd2.out _ B18.out); have K18 := Lib.hid (K15.out.trans (b18.mono (Nat.le_trans hbc S15))); clear b18)))
        all_goals
          refine NoPanic.normal ?_
          go_wp2_with fail
          have hlD : D < b := by rw [← hb]; exact (Array.getElem?_eq_some_iff.1 HK.out).1
          have hK' : w18.heap[D]? = some (.deferred (some [])) := (K18.out.block D hlD).trans HK.out
          have hBD : w.heap.size ≤ D := by have := HB.out; simp at hD; omega
          refine ⟨by simp, .inl ⟨_, _, rfl, run_takeDeferred hK', ?_⟩⟩
          refine ⟨_, results_tmp rfl _ _ _, rfl, ?_⟩
          have hfin := B18.out
          rw [← HB.out] at hfin
          exact hfin.trans (belowK_b (w := w) (Nat.le_refl _) w18 D _ _ hBD hK' rfl rfl)
end Go.Proofs.YthakdkpgobloiaaDoor
