/- ScanBack, walked. -/
import Derived.Test.YtkbhgkbhajmjiaaDoorBackP
import Derived.Test.YtkbhgkbhajmjiaaDoorScanC
import Derived.Deep.RegionHeld3
import Derived.Deep.RegionLaw
import Derived.Deep.QuietTactic
import Derived.BigQuiet
namespace Go.Proofs.YtkbhgkbhajmjiaaDoor
open Go.RowKit Go.Shelf Go.Lib
attribute [local go_sem] Oper.semAt_some

theorem int_info3 : (Tryd.prog.info? 3).map (fun i => (i.zero, i.size, i.bytes)) = some (some (.int .i64 0), 1, 8) := by kernel_rfl
theorem i32_info3 : (Tryd.prog.info? 21).map (fun i => (i.zero, i.size, i.bytes)) = some (some (.int .i32 0), 1, 4) := by kernel_rfl
set_option maxRecDepth 100000 in
set_option maxHeartbeats 4000000 in
theorem back_walk (s : ByteArray) (w : World) (hs : s.size ≤ 1073741824) (hT : Utf8Tabs 0 1 w) :
    Calls Tryd.prog 10 #[.string s] w fun e w' => e = .returned (.bool true) ∧ Below w.heap.size w w' := by
  obtain ⟨ii, hii, hiz0, hiz1, hiz2⟩ := info_parts int_info3
  obtain ⟨ri, hri, hrz0, hrz1, hrz2⟩ := info_parts i32_info3
  obtain ⟨B, hB⟩ : ∃ B, w.heap.size = B := ⟨_, rfl⟩
  have h2 : 2 ≤ w.heap.size := tabs_size hT
  rw [hB] at h2 ⊢
  have hbm := fun W => back_maker s W
  have ham := fun W => all_mk s W
  have hpl : (places s).length ≤ 1073741824 := by
    have := segs_len s.data.toList
    rw [size_list] at this
    rw [places_len]
    omega
  have Hbm := Lib.hid hbm
  have Ham := Lib.hid ham
  have HT := Lib.hid hT
  clear hbm ham hT
  have hnilA : ∀ b W, (binOp .eql 39 (.func (.func 55) #[] b) .nilFunc).run Tryd.prog W = .ok (.bool false) W := fun b W => by rfl
  have hnilB : ∀ b W, (binOp .eql 39 (.func (.func 56) #[] b) .nilFunc).run Tryd.prog W = .ok (.bool false) W := fun b W => by rfl
  refine (callsIn_wide (n := 9)).1 ?_
  refine callsIn_of_wp_marks Tryd.func10 rfl trivial ?_ rfl
  refine wpIn_wide.2 ?_
  simp only [Tryd.ntmps10, List.size_toArray, List.length_cons, List.length_nil, Nat.reduceAdd, Nat.reduceSub, Array.replicate_succ, Array.replicate_zero, List.push_toArray, List.append_toArray, List.nil_append, List.cons_append]
  go_wp2_with fail
  refine (Hbm.out _).mono ?_
  rintro _ w1 ⟨rfl, rfl⟩
  go_wp2_with fail
  refine (Ham.out _).mono ?_
  rintro _ w2 ⟨rfl, rfl⟩
  go_wp2_with fail
  obtain ⟨Wa, hWa⟩ : ∃ Wa, ((((((w.alloc (.cells #[.string s] 9)).alloc (.cells #[.bool false] 4)).alloc (.cells #[.string s] 9)).alloc (.cells #[.string s] 9)).alloc (.cells #[.slice none 0 0] 26)).alloc (.cells #[.slice none 0 0] 28)) = Wa := ⟨_, rfl⟩
  have hsz : Wa.heap.size = B + 6 := by rw [← hWa]; simp [hB]
  have b0 : Boxed Wa B 9 (.string s) := by rw [← hWa]; simp only [Boxed, alloc_get, World.size_alloc, hB]; rw [if_neg (by omega), if_neg (by omega)]; simp
  have b1 : Boxed Wa (B + 1) 4 (.bool false) := by rw [← hWa]; simp only [Boxed, alloc_get, World.size_alloc, hB]; simp; try omega
  have b2 : Boxed Wa (B + 1 + 1) 9 (.string s) := by rw [← hWa]; simp only [Boxed, alloc_get, World.size_alloc, hB]; simp; try omega
  have b3 : Boxed Wa (B + 1 + 1 + 1) 9 (.string s) := by rw [← hWa]; simp only [Boxed, alloc_get, World.size_alloc, hB]; simp; try omega
  have b4 : Boxed Wa (B + 1 + 1 + 1 + 1) 26 (.slice none 0 0) := by rw [← hWa]; simp only [Boxed, alloc_get, World.size_alloc, hB]; simp; try omega
  have b5 : Boxed Wa (B + 1 + 1 + 1 + 1 + 1) 28 (.slice none 0 0) := by rw [← hWa]; simp only [Boxed, alloc_get, World.size_alloc, hB]; simp; try omega
  have hBa : Below B w Wa := by rw [← hWa]; exact ((((((Below.refl B w).alloc (by omega) _).alloc (by simp; omega) _).alloc (by simp; omega) _).alloc (by simp; omega) _).alloc (by simp; omega) _).alloc (by simp; omega) _
  have hTa := Utf8Tabs_below HT.out (by rw [hB]; exact hBa)
  rw [hWa]
  clear hWa
  refine (wpIn_wide (n := 9)).1 ?_
  refine range_T1 rfl (by omega) (gf := 56) (lb := #[.pointer (some ⟨B + 1 + 1, 0, none⟩)]) rfl trivial (enters_of Tryd.func56 (by kernel_rfl) rfl)
    (seqBack 8 (by omega) (B + 1 + 1) (B + 4) s Wa (by omega) (by omega) b2.cell (by unfold maxLen; omega) hTa) (Below.refl _ _) (by omega) (fun _ => rfl)
    (fun pre T W => (∃ v1 v2, Col T W (B + 1 + 1 + 1 + 1) 26 3 1 (B + 4) v1 pre.length (pre.map fun x : Nat × Nat => Value.int .i64 (x.1 : Int)) ∧ Col T W (B + 1 + 1 + 1 + 1 + 1) 28 21 1 (B + 4) v2 pre.length (pre.map fun x : Nat × Nat => Value.int .i32 (x.2 : Int))) ∧ Below (B + 4) Wa W)
    (fun _ _ _ _ => False)
    ?hI (fun _ _ _ _ _ _ h _ _ _ => h)
    ⟨⟨_, _, ⟨b4, World.ownsRow_nil _ _ _ _, fun _ h => by cases h⟩, ⟨b5, World.ownsRow_nil _ _ _ _, fun _ h => by cases h⟩⟩, Below.refl _ _⟩
    ?a1 ?assign ?body ?done ?stop
  case assign =>
    intro l x W K hK
    gi_wp2
    exact hK
  case stop =>
    rintro D c pre T W _ _ _ h _
    exact h.elim
  case hI =>
    rintro pre T T' W W' ⟨⟨v1, v2, h1, h2⟩, hb⟩ hT hm hg
    exact ⟨⟨v1, v2, h1.tc (fun e => by have := (hT _ e).1; omega) hm hg, h2.tc (fun e => by have := (hT _ e).1; omega) hm hg⟩, hb.trans ⟨hm.os, hm.tape, hm.output, hm.size, fun k hk => hm.block k (by have := hb.size; omega) (fun e => by have := (hT _ e).1; omega)⟩⟩
  case body =>
    rintro l pre x T W hl hT hr ⟨⟨v1, v2, h1, h2⟩, hb⟩ hlen _
    have hc1 := h1.box.cell
    have hbs : B + 6 ≤ W.heap.size := by have := hb.size; omega
    have hm1 : pre.length + 1 ≤ maxLen := by unfold maxLen; omega
    have hm2 : (pre.length + 1) * 8 ≤ 140737488355328 := by omega
    have hm3 : (pre.length + 1) * 4 ≤ 140737488355328 := by omega
    have hT1 : ∀ k, T k → k < W.heap.size := fun k hk => (hT k hk).2
    have hTa : ¬ T (B + 1 + 1 + 1 + 1) := fun e => by have := (hT _ e).1; omega
    have hTb : ¬ T (B + 1 + 1 + 1 + 1 + 1) := fun e => by have := (hT _ e).1; omega
    gi_wp2_with (gi_at_builtin; refine Hid.out ?_)
    refine Lib.hid ?_
    refine wpListIn_append_own_at _ rfl _ _ 26 rfl (B + 4) 3 ii (.int .i64 0) 1 8 Tryd.underlying26 hii hiz0 hiz1 hiz2 rfl (by decide) _ _ _ rfl (h1.row.alloc _) ⟨W.heap.size, 0, none⟩ 1 1 [.int .i64 (x.1 : Int)] rfl rfl (cell_one_new _ _ _) (by simp [Value.oneCell']) hm1 hm2 (by simp; omega) ?_
    intro v1' w1 hown1 hgrow1 _ hblk1
    obtain ⟨g1, cap1, rfl⟩ := ownsRow_succ hown1
    obtain ⟨hv1, hcol1, hk1, hs1, ho1, ht1, hu1⟩ := h1.appended (by decide) hT1 hTa hown1 hgrow1 hblk1
    have hc1' := hv1.cell
    have hf1' := hv1.frozen
    have hcol2 := h1.beside h2 (by omega) (by decide) (by decide) (by decide) hk1
    have hc2 := hcol2.box.cell
    have hT2 : ∀ k, T k → k < (w1.setCell ⟨B + 1 + 1 + 1 + 1, 0, none⟩ (.slice (some ⟨g1, 0, none⟩) (pre.length + 1) cap1)).heap.size := fun k hk => Nat.lt_of_lt_of_le (hT1 k hk) hs1
    have hkp1 : KeepT (B + 4) T W _ := h1.keep (Nat.le_refl _) (by omega) hTa hs1 hk1
    have Hcol1 := Lib.hid hcol1
    have Hkp1 := Lib.hid (And.intro hkp1 (hkp1.below (by omega) ho1 ht1 hu1))
    have Hs1 := Lib.hid hs1
    clear hcol1 hkp1 hk1 hs1 ho1 ht1 hu1 hown1 hgrow1 hblk1
    gi_wp2_with (gi_at_builtin; refine Hid.out ?_)
    refine Lib.hid ?_
    rw [show w1.heap.size = (w1.setCell ⟨B + 1 + 1 + 1 + 1, 0, none⟩ (.slice (some ⟨g1, 0, none⟩) (pre.length + 1) cap1)).heap.size by simp]
    revert hv1 hc1' hf1' hcol2 hc2 hT2 Hcol1 Hkp1 Hs1
    generalize w1.setCell ⟨B + 1 + 1 + 1 + 1, 0, none⟩ (.slice (some ⟨g1, 0, none⟩) (pre.length + 1) cap1) = W2
    intro hv1 hc1' hf1' hcol2 hc2 hT2 Hcol1 Hkp1 Hs1
    refine wpListIn_append_own_at _ rfl _ _ 28 rfl (B + 4) 21 ri (.int .i32 0) 1 4 Tryd.underlying28 hri hrz0 hrz1 hrz2 rfl (by decide) _ _ _ rfl (hcol2.row.alloc _) ⟨W2.heap.size, 0, none⟩ 1 1 [.int .i32 (x.2 : Int)] rfl rfl (cell_one_new _ _ _) (by simp [Value.oneCell']) hm1 hm3 (by have := Hs1.out; simp; omega) ?_
    intro v2' w3 hown3 hgrow3 _ hblk3
    obtain ⟨g3, cap3, rfl⟩ := ownsRow_succ hown3
    obtain ⟨hv3, hcol3, hk3, hs3, ho3, ht3, hu3⟩ := hcol2.appended (by decide) hT2 hTb hown3 hgrow3 hblk3
    have hc3' := hv3.cell
    have hf3' := hv3.frozen
    have hcol1' := hcol2.beside Hcol1.out (by omega) (by decide) (by decide) (by decide) hk3
    have hkp3 : KeepT (B + 4) T W2 _ := hcol2.keep (Nat.le_refl _) (by omega) hTb hs3 hk3
    have hb3 := hkp3.below (by have := Hs1.out; omega) ho3 ht3 hu3
    have Hfin := Lib.hid (And.intro (Hkp1.out.1.trans hkp3) (And.intro (hb.trans (Hkp1.out.2.trans hb3)) (And.intro hcol1' hcol3)))
    clear hcol1' hcol3 hkp3 hb3 hk3 hs3 ho3 ht3 hu3 hown3 hgrow3 hblk3
    gi_wp2
    obtain ⟨f1, f2, f3, f4⟩ := Hfin.out
    exact ⟨f1, ⟨_, _, by simpa using f3, by simpa using f4⟩, f2⟩
  case done =>
    rintro D ys T W hD hT rfl ⟨⟨v1, v2, h1, h2⟩, hb⟩ hK
    obtain ⟨m, hm⟩ : ∃ m, (places s).length = m := ⟨_, rfl⟩
    rw [List.length_reverse, hm] at h1 h2
    obtain ⟨b, hbb⟩ : ∃ b, W.heap.size = b := ⟨_, rfl⟩
    have hbge : B + 6 ≤ b := by have := hb.size; omega
    obtain ⟨A1, cp1, rfl, hmc1, hmx1⟩ := own_shape h1.row
    obtain ⟨A2, cp2, rfl, hmc2, hmx2⟩ := own_shape h2.row
    have hc1 := h1.box.cell
    have hTW : Utf8Tabs 0 1 W := (⟨hb.size, fun k _ hk => hb.block k (by rcases hk with hk | hk; exact hk; exact hk.elim)⟩ : KeepT (B + 4) (fun _ => False) Wa W).u8 (by omega) hTa
    have hc0 : W.cell? ⟨B, 0, none⟩ = some (.string s) := (hb.cell (p := ⟨B, 0, none⟩) (show B < B + 4 by omega)).trans b0.cell
    have hc3 : W.cell? ⟨B + 1 + 1 + 1, 0, none⟩ = some (.string s) := (hb.cell (p := ⟨B + 1 + 1 + 1, 0, none⟩) (show B + 1 + 1 + 1 < B + 4 by omega)).trans b3.cell
    have HK := Lib.hid hK
    have H1 := Lib.hid h1
    have H2 := Lib.hid h2
    have Hm := Lib.hid hm
    have Hb := Lib.hid hb
    have HTW := Lib.hid hTW
    clear hK h1 h2 hm hb hTW
    go_wp2_with fail
    obtain ⟨We, hWe⟩ : ∃ We, (W.alloc (.cells #[.int .i64 (m : Int)] 3)).alloc (.cells #[.int .i64 0] 3) = We := ⟨_, rfl⟩
    have hbW : Below b W We := by rw [← hWe]; exact ((Below.refl b W).alloc (by omega) _).alloc (by simp; omega) _
    have hsz2 : We.heap.size = b + 2 := by rw [← hWe]; simp [hbb]
    have e0 : Boxed We b 3 (.int .i64 (m : Int)) := by rw [← hWe]; simp only [Boxed, alloc_get, World.size_alloc, hbb]; rw [if_neg (by omega)]; simp
    have e1 : Boxed We (b + 1) 3 (.int .i64 0) := by rw [← hWe]; simp only [Boxed, alloc_get, World.size_alloc, hbb]; simp
    rw [hWe]
    clear hWe
    refine (wpIn_wide (n := 9)).1 ?_
    refine range_T1 rfl (by omega) (gf := 55) (lb := #[.pointer (some ⟨B + 1 + 1 + 1, 0, none⟩)]) rfl trivial (enters_of Tryd.func55 (by kernel_rfl) rfl)
      (seqAll Fence.wide 8 trivial rfl (by omega) (B + 1 + 1 + 1) b s We (by omega) ((hbW.cell (p := ⟨B + 1 + 1 + 1, 0, none⟩) (show B + 1 + 1 + 1 < b by omega)).trans hc3)) (Below.refl _ _) (by omega) (fun _ => rfl)
      (fun pre T W' => (Boxed W' b 3 (.int .i64 ((m - pre.length : Nat) : Int)) ∧ Boxed W' (b + 1) 3 (.int .i64 (placeAt s pre.length : Int))) ∧ Below b We W')
      (fun _ _ _ _ => False)
      ?hI2 (fun _ _ _ _ _ _ h _ _ _ => h)
      ⟨⟨e0, e1⟩, Below.refl _ _⟩
      ?a2 ?assign2 ?body2 ?done2 ?stop2
    case assign2 =>
      intro l x W K hK
      gi_wp2
      exact hK
    case stop2 =>
      rintro D c pre T W _ _ _ h _
      exact h.elim
    case hI2 =>
      rintro pre T T' W1 W2 ⟨⟨h1, h2⟩, hb⟩ hT hm hg
      exact ⟨⟨(hm.block b h1.lt (fun e => by have := (hT _ e).1; omega)).trans h1, (hm.block (b + 1) h2.lt (fun e => by have := (hT _ e).1; omega)).trans h2⟩, hb.trans ⟨hm.os, hm.tape, hm.output, hm.size, fun k hk => hm.block k (by have := hb.size; omega) (fun e => by have := (hT _ e).1; omega)⟩⟩
    case body2 =>
      rintro l pre x T2 W2 hl hT2 hr ⟨⟨k1, k2⟩, hb2⟩ hlen hsp
      have hget := prefix_get hsp
      rw [Hm.out] at hlen
      obtain ⟨j, hj⟩ : ∃ j, pre.length = j := ⟨_, rfl⟩
      rw [hj] at hget hlen k1 k2
      obtain ⟨hbd, hlt, hx, hnx⟩ := place_at s hget
      obtain ⟨hd1, hd4, _⟩ := dec_facts (s.data.toList.drop (placeAt s j)) (drop_ne _ _ (by rw [size_list]; exact hlt))
      have hla := last_at hbd (by rw [size_list]; exact hlt)
      have hnle := next_le s.data.toList (placeAt s j) (by rw [size_list]; exact hlt)
      rw [size_list] at hnle
      have hne : s.data.toList.drop (placeAt s j) ≠ [] := drop_ne _ _ (by rw [size_list]; exact hlt)
      have hone := dec_one (s.data.toList.drop (placeAt s j))
      rw [gb_drop, Nat.add_zero] at hone
      have hN : ∀ W, Utf8Tabs 0 1 W → Calls Tryd.prog 14 #[.string (s.extract (placeAt s j) s.size)] W fun e w' => e = .returned (.tuple #[.int .i32 ((dec (s.data.toList.drop (placeAt s j))).1 : Nat), .int .i64 ((dec (s.data.toList.drop (placeAt s j))).2 : Nat)]) ∧ Below W.heap.size W w' := fun W hT => by
        have := next_any (s.extract (placeAt s j) s.size) W hT
        rw [drop_list, nxt, if_neg hne] at this
        exact this
      have hL : ∀ W, Utf8Tabs 0 1 W → Calls Tryd.prog 15 #[.string (s.extract 0 (placeAt s j + (dec (s.data.toList.drop (placeAt s j))).2))] W fun e w' => e = .returned (.tuple #[.int .i32 ((dec (s.data.toList.drop (placeAt s j))).1 : Nat), .int .i64 ((dec (s.data.toList.drop (placeAt s j))).2 : Nat)]) ∧ Below W.heap.size W w' := fun W hT => by
        have := last_any (s.extract 0 (placeAt s j + (dec (s.data.toList.drop (placeAt s j))).2)) W (by unfold maxLen; simp; omega) hT
        rw [take_list, hla] at this
        exact this
      clear hla hbd hne
      subst hx
      clear hsp
      obtain ⟨d, hd⟩ : ∃ d, dec (s.data.toList.drop (placeAt s j)) = d := ⟨_, rfl⟩
      rw [hd] at hd1 hd4 hone hN hL hnx hnle hget
      rw [hd]
      obtain ⟨p, hp⟩ : ∃ p, placeAt s j = p := ⟨_, rfl⟩
      rw [hp] at hone hN hL hnx hnle hlt k2 hget
      simp only [hp]
      obtain ⟨y, hy⟩ : ∃ y, s[p]'hlt = y := ⟨_, rfl⟩
      have hgb := gb_at s p hlt
      rw [hy] at hgb
      rw [← hgb] at hone
      have hy256 : y.toNat < 256 := UInt8.toNat_lt y
      clear hgb
      have Hd := Lib.hid hd
      have Hp := Lib.hid hp
      clear hd hp
      have hml : m ≤ 1073741824 := by rw [← Hm.out]; exact hpl
      have hrev : (places s).reverse[m - 1 - j]? = some (p, d.1) := by
        rw [List.getElem?_reverse (by rw [Hm.out]; omega), Hm.out, show m - 1 - (m - 1 - j) = j by omega]
        exact hget
      obtain ⟨gp, cap1, hvp, _, hltp⟩ := H1.out.row.form (by omega)
      injection hvp with hA hn' hcc
      subst hA hcc
      clear hn'
      obtain ⟨gq, cap2, hvq, _, hltq⟩ := H2.out.row.form (by omega)
      injection hvq with hA hn' hcc
      subst hA hcc
      clear hn'
      have f1 : W.cell? ⟨gp, m - 1 - j, none⟩ = some (.int .i64 (p : Int)) := by
        have := H1.out.row.cells (g := gp) rfl (m - 1 - j) _ (by rw [List.getElem?_map, hrev]; rfl)
        rwa [Addr.add_lit, Nat.zero_add] at this
      have f2 : W.cell? ⟨gq, m - 1 - j, none⟩ = some (.int .i32 (d.1 : Int)) := by
        have := H2.out.row.cells (g := gq) rfl (m - 1 - j) _ (by rw [List.getElem?_map, hrev]; rfl)
        rwa [Addr.add_lit, Nat.zero_add] at this
      have hbB := hbW.trans hb2
      have hw1 : IntKind.i64.wrap (((m - j : Nat) : Int) - 1) = ((m - 1 - j : Nat) : Int) := by rw [IntWalk.i64_in _ (by omega)]; omega
      have hw2 : IntKind.i64.wrap ((p : Int) + (d.2 : Int)) = ((p + d.2 : Nat) : Int) := by rw [IntWalk.i64_in _ (by omega)]; omega
      obtain ⟨z, hz⟩ : ∃ z, m - 1 - j = z := ⟨_, rfl⟩
      obtain ⟨q, hq⟩ : ∃ q, p + d.2 = q := ⟨_, rfl⟩
      rw [hz] at f1 f2 hw1
      rw [hq] at hw2 hL hnle hnx
      have hzm : z < m := by omega
      have hk0 : ¬ ((z : Int) < 0) := by omega
      have g0 := k1.cell
      have g0f := k1.frozen
      -- the world behind 'k--'
      have g1 := (k1.set (.int .i64 (z : Int))).cell
      have hx1 : Boxed (W2.setCell ⟨b, 0, none⟩ (.int .i64 (z : Int))) (b + 1) 3 (.int .i64 (p : Int)) := k2.other (by omega) _
      have hB1 : Below b W (W2.setCell ⟨b, 0, none⟩ (.int .i64 (z : Int))) := hbB.setCell (p := ⟨b, 0, none⟩) (Nat.le_refl _) _
      have hk1 := k1.set (.int .i64 (z : Int))
      obtain ⟨W3, hW3⟩ : ∃ W3, W2.setCell ⟨b, 0, none⟩ (.int .i64 (z : Int)) = W3 := ⟨_, rfl⟩
      rw [hW3] at g1 hx1 hB1 hk1
      have g2 := hx1.cell
      have i1 := (hB1.cell (p := ⟨B + 1 + 1 + 1 + 1, 0, none⟩) (show B + 1 + 1 + 1 + 1 < b by omega)).trans H1.out.box.cell
      have i2 := (hB1.cell (p := ⟨B + 1 + 1 + 1 + 1 + 1, 0, none⟩) (show B + 1 + 1 + 1 + 1 + 1 < b by omega)).trans H2.out.box.cell
      have i3 := (hB1.cell (p := ⟨gp, z, none⟩) (show gp < b by omega)).trans f1
      have i4 := (hB1.cell (p := ⟨gq, z, none⟩) (show gq < b by omega)).trans f2
      have i5 := (hB1.cell (p := ⟨B, 0, none⟩) (show B < b by omega)).trans hc0
      have hT3 := Utf8Tabs_below HTW.out (by rw [hbb]; exact hB1)
      have hNc := hN W3 hT3
      have HL := Lib.hid hL
      have Hk1 := Lib.hid hk1
      have Hx1 := Lib.hid hx1
      have HB1 := Lib.hid hB1
      have HT3 := Lib.hid hT3
      clear f1 f2 hrev hget hN hL hk1 hx1 hB1 hbB hT3 hltp hltq
      gi_wp2_with fail
      refine ⟨trivial, (CallsIn.inRound l (callsIn_wide.2 hNc)).mono ?_⟩
      rintro _ w4 ⟨rfl, b4⟩
      have i5 := (b4.cell (p := ⟨B, 0, none⟩) (show B < W3.heap.size by have := Hk1.out.lt; omega)).trans i5
      have hLc := HL.out w4 (Utf8Tabs_below HT3.out b4)
      have Hk4 := Lib.hid (boxed_below Hk1.out b4)
      have Hx4 := Lib.hid (boxed_below Hx1.out b4)
      have B4 := Lib.hid b4
      clear b4 hNc
      gi_wp2_with fail
      refine ⟨trivial, (CallsIn.inRound l (callsIn_wide.2 hLc)).mono ?_⟩
      rintro _ w5 ⟨rfl, b5⟩
      have i5 := (b5.cell (p := ⟨B, 0, none⟩) (show B < w4.heap.size by have := Hk4.out.lt; omega)).trans i5
      have hk5 := boxed_below Hk4.out b5
      have hx5 := boxed_below Hx4.out b5
      have hx5c := hx5.cell
      have hx5f := hx5.frozen
      have hnT0 : ¬ T2 b := fun e => by have := (hT2 _ e).1; omega
      have hnT1 : ¬ T2 (b + 1) := fun e => by have := (hT2 _ e).1; omega
      have hkeep : KeepT b T2 W2 (w5.setCell ⟨b + 1, 0, none⟩ (.int .i64 (q : Int))) := by
        have h1 := KeepT.setCell b T2 W2 b (.int .i64 (z : Int)) (Nat.le_refl _) hnT0
        rw [hW3] at h1
        exact ((h1.trans (KeepT.of_below b T2 B4.out)).trans (KeepT.of_below b T2 b5)).trans (KeepT.setCell b T2 w5 (b + 1) _ (by omega) hnT1)
      have hbel : Below b We (w5.setCell ⟨b + 1, 0, none⟩ (.int .i64 (q : Int))) := by
        have h1 : Below b We W3 := by rw [← hW3]; exact hb2.setCell (p := ⟨b, 0, none⟩) (Nat.le_refl _) _
        have hb3 : b ≤ W3.heap.size := by have := Hk1.out.lt; omega
        have hb4 : b ≤ w4.heap.size := by have := Hk4.out.lt; omega
        exact ((h1.trans (B4.out.mono hb3)).trans (b5.mono hb4)).setCell (p := ⟨b + 1, 0, none⟩) (show b ≤ b + 1 by omega) _
      have hfin : KeepT b T2 W2 (w5.setCell ⟨b + 1, 0, none⟩ (.int .i64 (q : Int))) ∧ (Boxed (w5.setCell ⟨b + 1, 0, none⟩ (.int .i64 (q : Int))) b 3 (.int .i64 ((m - (pre ++ [(p, d.1)]).length : Nat) : Int)) ∧ Boxed (w5.setCell ⟨b + 1, 0, none⟩ (.int .i64 (q : Int))) (b + 1) 3 (.int .i64 (placeAt s (pre ++ [(p, d.1)]).length : Int))) ∧ Below b We (w5.setCell ⟨b + 1, 0, none⟩ (.int .i64 (q : Int))) := by
        have e1 : (pre ++ [(p, d.1)]).length = j + 1 := by simp [hj]
        refine ⟨hkeep, ⟨?_, ?_⟩, hbel⟩
        · rw [e1, show m - (j + 1) = z by omega]
          exact hk5.other (by omega) _
        · rw [e1, hnx]
          exact hx5.set _
      have Hfin := Lib.hid hfin
      have hdn : ¬ ((d.2 : Int) < 1) := by omega
      have hdg : ¬ ((4 : Int) < (d.2 : Int)) := by omega
      have hcv : IntKind.i32.wrap (y.toNat : Int) = (y.toNat : Int) := IntWalk.i32_in _ (by omega)
      clear hkeep hbel hfin hk5 hx5 b5 hLc hnT0 hnT1
      by_cases hd1' : d.2 = 1
      · have hd1i : ((d.2 : Int) == 1) = true := by rw [hd1']; rfl
        by_cases hdy : d.1 = y.toNat
        · have hdyi : ((d.1 : Int) != (y.toNat : Int)) = false := by rw [hdy]; simp
          gi_wp2
          rw [show ((p : Int) + 1) = (q : Int) by omega]
          exact Hfin.out
        · have hdyi : ((d.1 : Int) != (y.toNat : Int)) = true := by simp; omega
          have h65 := (hone hd1').resolve_left hdy
          have h65i : ((d.1 : Int) != 65533) = false := by rw [h65]; rfl
          gi_wp2
          rw [show ((p : Int) + 1) = (q : Int) by omega]
          exact Hfin.out
      · have hd1i : ((d.2 : Int) == 1) = false := by simp; omega
        gi_wp2
        exact Hfin.out
    case done2 =>
      rintro D2 ys T2 W2 hD2 hT2 rfl ⟨⟨k1, k2⟩, hb2⟩ hK2
      rw [Hm.out, Nat.sub_self] at k1
      rw [placeAt_end] at k2
      have g1 := k1.cell
      have g2 := k2.cell
      have hb02 := hbW.trans hb2
      have i0 := (hb02.cell (p := ⟨B, 0, none⟩) (show B < b by omega)).trans hc0
      have hwk := wakes_any W2 (Utf8Tabs_below HTW.out (by rw [hbb]; exact hb02))
      have K1 := Lib.hid k1
      have HK2 := Lib.hid hK2
      have HB2 := Lib.hid hb02
      have Hwk := Lib.hid hwk
      clear k1 k2 hb02 hK2 hwk
      go_wp2_with fail
      refine Hwk.out.mono ?_
      rintro _ w6 ⟨rfl, b6⟩
      have hbs6 : b ≤ W2.heap.size := by have := HB2.out.size; omega
      have hb6 : Below b W w6 := HB2.out.trans (b6.mono hbs6)
      have j1 : Boxed w6 (B + 1) 4 (.bool false) := by
        have h1 : Boxed W (B + 1) 4 (.bool false) := (Hb.out.block (B + 1) (by omega)).trans b1
        exact (hb6.block (B + 1) (by omega)).trans h1
      have j1c := j1.cell
      have j1f := j1.frozen
      have HB6 := Lib.hid hb6
      have J1 := Lib.hid j1
      have B6 := Lib.hid b6
      clear hb6 j1 b6
      go_wp2_with fail
      have hD1 : B + 6 ≤ D ∧ D < b := by have := hT D hD; omega
      have hD22 : b + 2 ≤ D2 ∧ D2 < W2.heap.size := by have := hT2 D2 hD2; omega
      have hk2 : (w6.setCell ⟨B + 1, 0, none⟩ (.bool true)).heap[D2]? = some (.deferred (some [])) := (KeepsOthers.setCell _ _ _).same D2 _ ((B6.out.block D2 hD22.2).trans HK2.out) rfl
      have hk1 : (w6.setCell ⟨B + 1, 0, none⟩ (.bool true)).heap[D]? = some (.deferred (some [])) := (KeepsOthers.setCell _ _ _).same D _ ((HB6.out.block D hD1.2).trans HK.out) rfl
      have hk1' : ((w6.setCell ⟨B + 1, 0, none⟩ (.bool true)).putObj D2 (.deferred none)).heap[D]? = some (.deferred (some [])) := (World.putObj_heap_other (by omega)).trans hk1
      have hc6 := (J1.out.set (.bool true)).cell
      have hc7 := cell_kept hc6 (grownBy_putObj' _ D2 (.deferred none)) (fun r e => by cases e; exact ⟨_, hk2, rfl⟩)
      have hc8 := cell_kept hc7 (grownBy_putObj' _ D (.deferred none)) (fun r e => by cases e; exact ⟨_, hk1', rfl⟩)
      refine ⟨by simp, .inl ⟨_, _, rfl, run_takeDeferred hk2, by simp, .inl ⟨_, _, rfl, run_takeDeferred hk1', ?_⟩⟩⟩
      have hfb : Below B w (w6.setCell ⟨B + 1, 0, none⟩ (.bool true)) := ((hBa.trans (Hb.out.mono (by omega))).trans (HB6.out.mono (by omega))).setCell (p := ⟨B + 1, 0, none⟩) (show B ≤ B + 1 by omega) _
      have hfb2 := hfb.trans (belowK_b (w := w) (by omega) _ D2 _ (.deferred none) (by omega) hk2 rfl rfl)
      refine ⟨.bool true, ?_, rfl, hfb2.trans (belowK_b (w := w) (by omega) _ D _ (.deferred none) (by omega) hk1' rfl rfl)⟩
      simp [results, Tryd.f10, go_sem, hc8]
end Go.Proofs.YtkbhgkbhajmjiaaDoor
