/- Layer 12, the law WordSteps, over the program's contracts. (Made by tools/mksteps12.py.) -/
import Derived.Test.YtiafofekobcifaaDoorHyW
import Derived.Test.YtiafofekobcifaaDoorWdS
import Derived.Test.YtiafofekobcifaaDoorAtW
set_option linter.unusedSimpArgs false
set_option linter.unusedVariables false
namespace Go.Proofs.YtiafofekobcifaaDoor
open Go.RowKit Go.Lib

def OnS (Z : Nat) (w W : World) : Prop := Below Z w W ∧ Z ≤ W.heap.size
theorem OnS.on {Z : Nat} {w W W' : World} (h : OnS Z w W) (hb : Below W.heap.size W W') : OnS Z w W' := ⟨h.1.trans (hb.mono h.2), Nat.le_trans h.2 hb.size⟩
theorem OnS.drew {Z : Nat} {w W : World} (h : OnS Z w W) : OnS Z w W.drew := ⟨below_DW h.1, h.2⟩
theorem sortD_word (d : Nat × Nat) (h : badD d = false) : (sortD d == 1 || sortD d == 2 || sortD d == 3) = (cls kindsL (char (d.1 : Int)) == 3 || cls kindsL (char (d.1 : Int)) == 4 || cls kindsL (char (d.1 : Int)) == 2 || d.1 == 95) := by
  unfold sortD
  rw [if_neg (by rw [h]; decide)]
  generalize cls kindsL (char (d.1 : Int)) = k
  generalize cls breaksL (char (d.1 : Int)) = b
  generalize d.1 = r
  by_cases h3 : k = 3
  · subst h3
    by_cases hb : b = 7 <;> simp [hb]
  by_cases h2 : k = 2
  · subst h2; simp
  by_cases h95 : r = 95
  · subst h95; simp [h3]
  by_cases h4 : k = 4
  · subst h4; simp [h95]
  have e : (k == 3 || k == 4 || k == 2 || r == 95) = false := by simp [h3, h4, h2, h95]
  rw [e, if_neg (fun h => h3 h.1), if_neg (by simp [h3, h2, h95]), if_neg h4]
  split <;> rfl
set_option maxRecDepth 100000 in
set_option maxHeartbeats 2000000 in
theorem wordy_any (c : ByteArray) (w : World) (h0 : 0 < chars c) (hT : Utf8Tabs 0 1 w) : Calls Tryd.prog 22 #[.string c] w fun e w' =>
    e = .returned (.bool (wordW c)) ∧ Below w.heap.size w w' := by
  have hne : c.data.toList ≠ [] := fun e => by unfold chars at h0; rw [e] at h0; exact absurd h0 (by decide)
  have HN := next_any c w hT
  rw [show nxt c.data.toList = dec c.data.toList from if_neg hne] at HN
  have hsg := segs_cons c.data.toList hne
  obtain ⟨d, hd⟩ : ∃ d, dec c.data.toList = d := ⟨_, rfl⟩
  have hpos := (dec_facts c.data.toList hne).1
  rw [hd] at HN hsg hpos
  have hsd : sortN c = sortD d := by unfold sortN; rw [hsg]
  have hv : wordW c = (sortD d == 1 || sortD d == 2 || sortD d == 3) := by unfold wordW; rw [hsd]
  have HN := Lib.hid HN
  have HK := Lib.hid (fun W => Kind_any (d.1 : Int) W)
  obtain ⟨k, hk⟩ : ∃ k, cls kindsL (char (d.1 : Int)) = k := ⟨_, rfl⟩
  have hsw := sortD_word d
  rw [hk] at HK hsw
  obtain ⟨r, n⟩ := d
  dsimp only at HN HK hpos hsw
  have HSW := Lib.hid (show badD (r, n) = false → wordW c = ((k : Int) == 3 || (k : Int) == 4 || (k : Int) == 2 || (r : Int) == 95) from fun h => by
    rw [hv, hsw h, show (3 : Int) = ((3 : Nat) : Int) from rfl, show (4 : Int) = ((4 : Nat) : Int) from rfl, show (2 : Int) = ((2 : Nat) : Int) from rfl, show (95 : Int) = ((95 : Nat) : Int) from rfl, intEq, intEq, intEq, intEq]
    rfl)
  have HBD := Lib.hid (show badD (r, n) = true → wordW c = false from fun h => by rw [hv]; unfold sortD; rw [if_pos h]; rfl)
  have hbd : badD (r, n) = (r == 65533 && n == 1) := rfl
  clear hv hsw hsd hsg hd hne h0 hk hT
  go_enter Tryd.func22, Tryd.ntmps22
  go_wp2_with fail
  refine HN.out.mono ?_
  rintro _ w1 ⟨rfl, b1⟩
  have B1 := Lib.hid b1
  clear b1 HN
  go_wp2_with fail
  refine (HK.out _).mono ?_
  rintro _ w2 ⟨rfl, b2⟩
  have B2 := Lib.hid (B1.out.trans (b2.mono B1.out.size))
  clear b2 B1 HK
  have hcase : ((r : Int) = 65533 ∧ ¬ (1 < (n : Int))) ∨ ((r : Int) = 65533 ∧ 1 < (n : Int)) ∨ ¬ (r : Int) = 65533 := by omega
  rcases hcase with ⟨h1, h2⟩ | hcase
  · have hr : r = 65533 := by omega
    have hn : n = 1 := by omega
    have HV := Lib.hid (HBD.out (by rw [hbd, hr, hn]; rfl))
    subst hr
    subst hn
    clear hbd HSW
    go_wp2_with fail
    go_ret
    exact ⟨by rw [HV.out]; rfl, B2.out⟩
  · have hb : badD (r, n) = false := by
      rw [hbd]
      rcases hcase with ⟨h1, h2⟩ | h1
      · have : n ≠ 1 := by omega
        simp [this]
      · have : r ≠ 65533 := by omega
        simp [this]
    have HV := Lib.hid (HSW.out hb)
    clear hb hbd HSW HBD
    rcases hcase with ⟨h1, h2⟩ | h1
    · have g1 : ((r : Int) != 65533) = false := by simp [h1]
      by_cases k3 : (k : Int) = 3
      · have e3 : ((k : Int) == 3) = true := by simp [k3]
        have HU := Lib.hid (show wordW c = true from by rw [HV.out, e3]; rfl)
        clear k3
        go_wp2_with fail
        go_ret
        exact ⟨by rw [HU.out]; rfl, B2.out⟩
      have e3 : ((k : Int) == 3) = false := by simp [k3]
      by_cases k4 : (k : Int) = 4
      · have e4 : ((k : Int) == 4) = true := by simp [k4]
        have HU := Lib.hid (show wordW c = true from by rw [HV.out, e3, e4]; rfl)
        clear k4 k3
        go_wp2_with fail
        go_ret
        exact ⟨by rw [HU.out]; rfl, B2.out⟩
      have e4 : ((k : Int) == 4) = false := by simp [k4]
      by_cases k2 : (k : Int) = 2
      · have e2 : ((k : Int) == 2) = true := by simp [k2]
        have HU := Lib.hid (show wordW c = true from by rw [HV.out, e3, e4, e2]; rfl)
        clear k2 k4 k3
        go_wp2_with fail
        go_ret
        exact ⟨by rw [HU.out]; rfl, B2.out⟩
      have e2 : ((k : Int) == 2) = false := by simp [k2]
      have HU := Lib.hid (show wordW c = false from by rw [HV.out, e3, e4, e2, h1]; rfl)
      clear k2 k4 k3
      go_wp2_with fail
      go_ret
      exact ⟨by rw [HU.out]; rfl, B2.out⟩
    · have g1 : ((r : Int) != 65533) = true := by simp [h1]
      by_cases k3 : (k : Int) = 3
      · have e3 : ((k : Int) == 3) = true := by simp [k3]
        have HU := Lib.hid (show wordW c = true from by rw [HV.out, e3]; rfl)
        clear k3
        go_wp2_with fail
        go_ret
        exact ⟨by rw [HU.out]; rfl, B2.out⟩
      have e3 : ((k : Int) == 3) = false := by simp [k3]
      by_cases k4 : (k : Int) = 4
      · have e4 : ((k : Int) == 4) = true := by simp [k4]
        have HU := Lib.hid (show wordW c = true from by rw [HV.out, e3, e4]; rfl)
        clear k4 k3
        go_wp2_with fail
        go_ret
        exact ⟨by rw [HU.out]; rfl, B2.out⟩
      have e4 : ((k : Int) == 4) = false := by simp [k4]
      by_cases k2 : (k : Int) = 2
      · have e2 : ((k : Int) == 2) = true := by simp [k2]
        have HU := Lib.hid (show wordW c = true from by rw [HV.out, e3, e4, e2]; rfl)
        clear k2 k4 k3
        go_wp2_with fail
        go_ret
        exact ⟨by rw [HU.out]; rfl, B2.out⟩
      have e2 : ((k : Int) == 2) = false := by simp [k2]
      have HU := Lib.hid (show wordW c = ((r : Int) == 95) from by rw [HV.out, e3, e4, e2]; rfl)
      clear k2 k4 k3
      go_wp2_with fail
      go_ret
      exact ⟨by rw [HU.out]; rfl, B2.out⟩
/-- the beginnings, as they lie -/
def begV (B : List Nat) : List Value := B.map fun (b : Nat) => Value.int .i64 (b : Int)
structure BgS (w1 : World) (Q : Nat) (L : List (Nat × ByteArray)) (i k c : Nat) (A : Option Addr) (W : World) : Prop where
  kl : (begs (L.take i)).length = k
  ow : W.ownsRow Q 3 1 (.slice A k c) k (begV (begs (L.take i)))
  on : OnS Q w1 W
set_option maxRecDepth 100000 in
set_option maxHeartbeats 8000000 in
theorem wordSteps_any (H : WordP) (s : ByteArray) (at_ : Int) (w : World) (hw1 : -9223372036854775808 ≤ at_) (hw2 : at_ ≤ 9223372036854775807) (hs : s.size ≤ 1073741824) (hT : Utf8Tabs 0 1 w) :
    Calls Tryd.prog 6 #[.string s, .int .i64 at_] w fun e w' => e = .returned (.bool true) ∧ Below w.heap.size w w' := by
  obtain ⟨j0, hj, hy0, hy1, hy2⟩ := info_parts rintw_info
  have hpl := wds_len1 s hs
  have Hal := Lib.hid (fun w hT => alive12_any H w hT)
  have HNx := Lib.hid (fun q w hT => H.next s q w hs hT)
  have HPv := Lib.hid (fun q w hT => H.prev s q w hs hT)
  have HAt := Lib.hid (fun w hT => H.at_ s at_ w hs hT)
  have P0 := Lib.hid (pieces12_any H s w hs hT)
  have HWy := Lib.hid (show ∀ (n : Nat) (x : Nat × ByteArray), (wds s)[n]? = some x → ∀ W, Utf8Tabs 0 1 W → Calls Tryd.prog 22 #[.string x.2] W fun e w' => e = .returned (.bool (wordW x.2)) ∧ Below W.heap.size W w' from fun n x h W hT => wordy_any x.2 W (wds_seg s n x h).1 hT)
  have HSg := Lib.hid (show ∀ (n : Nat) (x : Nat × ByteArray), (wds s)[n]? = some x → x.1 < s.size from fun n x h => by have := wds_chain s n x h; omega)
  have Hup := Lib.hid (step_up s)
  have Htop := Lib.hid (step_top s)
  have Hdn := Lib.hid (step_down s)
  have Hbt := Lib.hid (step_bottom s)
  have Hbl := Lib.hid (begs_lt s)
  have Hps := Lib.hid (show ∀ (j b : Nat), 0 < j → (begs (wds s))[j]? = some b → 0 < b from fun j b h0 hb => by
    obtain ⟨hj, rfl⟩ := List.getElem?_eq_some_iff.1 hb
    have := List.pairwise_iff_getElem.1 (begs_sorted s) 0 j (by omega) hj h0
    omega)
  have HnR := nextW_right s at_
  have HpR := prevW_right s at_
  have HaR := atW_right s at_
  obtain ⟨N, hN⟩ : ∃ N, (wds s).length = N := ⟨_, rfl⟩
  obtain ⟨L, hL⟩ : ∃ L, wds s = L := ⟨_, rfl⟩
  have hLN : L.length = N := by rw [← hL, hN]
  rw [hN] at hpl
  rw [hL] at P0 HWy HSg Hup Htop Hdn Hbt Hbl Hps
  rw [hLN] at P0
  have HLN := Lib.hid hLN
  have HT := Lib.hid hT
  obtain ⟨B0, hB⟩ : ∃ B0, w.heap.size = B0 := ⟨_, rfl⟩
  have HB := Lib.hid hB
  rw [hB]
  clear hT hL hLN hN hB
  go_enter Tryd.func6, Tryd.ntmps6
  by_cases hbig : 2000 < s.size
  · have hbi : (2000 : Int) < (s.size : Int) := by omega
    clear HnR HpR HaR
    go_wp2_with fail
    refine (Hal.out _ HT.out).mono ?_
    rintro _ w1 ⟨rfl, b1⟩
    go_wp2_with fail
    go_ret
    exact ⟨rfl, by rw [← HB.out]; exact b1⟩
  have hbi : ¬ (2000 : Int) < (s.size : Int) := by omega
  have HR3 := Lib.hid (And.intro HnR (And.intro HpR HaR))
  clear HnR HpR HaR
  go_wp2_with fail
  refine P0.out.mono ?_
  rintro _ W1 ⟨A, c, rfl, o1, b1⟩
  obtain ⟨Q, hQ⟩ : ∃ Q, W1.heap.size = Q := ⟨_, rfl⟩
  have HW := Lib.hid (show ∀ W, OnS Q W1 W → RdP W Q A L ∧ Utf8Tabs 0 1 W ∧ Below B0 w W from fun W h => by
    have h0 : RdP W1 Q A L := by have := Rd.own o1; rw [← HLN.out, hQ] at this; exact this
    have hbz : Below B0 w W1 := by rw [← HB.out]; exact b1
    have hb := hbz.trans (h.1.mono (by have := b1.size; have := HB.out; omega))
    exact ⟨h0.below h.1, Utf8Tabs_below HT.out (by rw [HB.out]; exact hb), hb⟩)
  have H0 := Lib.hid (show BgS W1 Q L 0 0 0 none W1 from ⟨rfl, World.ownsRow_nil _ _ _ _, Below.refl _ _, by omega⟩)
  clear o1 b1 hQ P0
  go_wp2_with fail
  go_loopw [6, 7] (fun y x wr => ∃ (i k c' : Nat) (A' : Option Addr) (W : World), W = wr ∧ y = .slice A' k c' ∧ x = .int .i64 (i : Int) ∧ i ≤ N ∧ k ≤ i ∧ Hid (BgS W1 Q L i k c' A' W)) (fun _ x _ => N - (RowKit.intOf x).toNat)
  case atStart => exact ⟨0, 0, 0, none, _, rfl, rfl, rfl, Nat.zero_le _, Nat.le_refl _, H0⟩
  case round =>
    clear H0
    obtain ⟨i, k, c', A', W, hW, rfl, rfl, hin, hki, HI⟩ := hrel
    subst hW
    rcases Nat.lt_or_ge i N with hlt | hge
    · obtain ⟨x, hx⟩ : ∃ x, L[i]? = some x := ⟨_, List.getElem?_eq_getElem (by rw [HLN.out]; omega)⟩
      obtain ⟨a, hA, _, g1, g2⟩ := (HW.out W HI.out.on).1.at_ hx
      subst hA
      rw [add_next] at g2
      have hini : (i : Int) < (N : Int) := by omega
      have hnext : IntKind.i64.wrap ((i : Int) + 1) = (i : Int) + 1 := IntWalk.i64_in _ (by omega)
      have HWx := Lib.hid (HWy.out i x hx)
      have hbs : begs (L.take (i + 1)) = begs (L.take i) ++ (if wordW x.2 = true then [x.1] else []) := by rw [take_snoc _ _ _ hx, begs_snoc]
      have Hg := Lib.hid (show ∀ W', OnS Q W1 W' → W'.cell? (a.add (i * 2)) = some (.int .i64 (x.1 : Int)) from fun W' h => by
        obtain ⟨a', e, _, h1, _⟩ := (HW.out W' h).1.at_ hx
        obtain rfl := Option.some.inj e
        exact h1)
      obtain ⟨v, hv⟩ : ∃ v, wordW x.2 = v := ⟨_, rfl⟩
      rw [hv] at HWx hbs
      clear hx hv
      go_wp2_with fail
      refine (HWx.out _ (HW.out _ HI.out.on).2.1).mono ?_
      rintro _ W2 ⟨rfl, b2⟩
      have O2 := Lib.hid (HI.out.on.on b2)
      have g3 := Hg.out _ O2.out
      obtain ⟨X, hX⟩ : ∃ X, begs (L.take i) = X := ⟨_, rfl⟩
      have H2 := Lib.hid (show W2.ownsRow Q 3 1 (.slice A' k c') k (begV X) ∧ X.length = k from ⟨by rw [← hX]; exact own_below HI.out.ow b2, by rw [← hX]; exact HI.out.kl⟩)
      rw [hX] at hbs
      clear b2 HI hX g1 g2
      cases v with
      | false =>
        rw [if_neg (by decide), List.append_nil] at hbs
        have H3 := Lib.hid (show BgS W1 Q L (i + 1) k c' A' W2 from ⟨by rw [hbs]; exact H2.out.2, by rw [hbs]; exact H2.out.1, O2.out⟩)
        clear hbs H2
        go_wp2_with fail
        go_roundw
        case rel => exact ⟨i + 1, k, c', A', _, rfl, rfl, by first | rfl | go_num, hlt, by omega, H3⟩
        case measure => simp [RowKit.intOf]; omega
      | true =>
        rw [if_pos rfl] at hbs
        have HT3 := Lib.hid (show begV X ++ [.int .i64 (x.1 : Int)] = begV (begs (L.take (i + 1))) ∧ (begs (L.take (i + 1))).length = k + 1 from ⟨by rw [hbs]; simp [begV], by rw [hbs, List.length_append, H2.out.2]; rfl⟩)
        clear hbs
        go_wp2_with (at_builtin; refine wpList_append_own_at _ rfl _ _ 31 rfl Q 3 j0 _ 1 8 Tryd.underlying31 hj hy0 hy1 hy2 rfl (by decide) _ _ _ rfl (H2.out.1.alloc _) ⟨W2.heap.size, 0, none⟩ 1 1 [.int .i64 (x.1 : Int)] rfl rfl ?d1 ?d2 ?d3 ?d4 ?d5 ?_)
        try (case d1 => exact new_cells W2 [.int .i64 (x.1 : Int)] 3)
        case d2 => simp [Value.oneCell']
        case d3 => unfold maxLen; omega
        case d4 => omega
        case d5 => have := O2.out.2; first | omega | (rw [World.size_alloc]; omega)
        intro v3 w3 o3 g4 _ _
        obtain ⟨A3, c3, hv3, _, _⟩ := own_shape o3
        subst hv3
        have H3 := Lib.hid (show BgS W1 Q L (i + 1) (k + 1) c3 A3 w3 from ⟨HT3.out.2, by rw [← HT3.out.1]; exact o3, (O2.out.1.alloc O2.out.2 _).grown g4 (by rw [World.size_alloc]; have := O2.out.2; omega) (fun q hq => (H2.out.1.lt q hq).1), by have h5 := g4.size; rw [World.size_alloc] at h5; have := O2.out.2; omega⟩)
        clear o3 g4 H2 g3
        go_wp2_with fail
        go_roundw
        case rel => exact ⟨i + 1, k + 1, c3, A3, _, rfl, rfl, by first | rfl | go_num, hlt, by omega, H3⟩
        case measure => simp [RowKit.intOf]; omega
    · obtain rfl : i = N := by omega
      have hnn : ¬ (i : Int) < (i : Int) := by omega
      obtain ⟨Bg, hBg⟩ : ∃ Bg, begs L = Bg := ⟨_, rfl⟩
      have hk : Bg.length = k := by rw [← hBg, ← HI.out.kl, ← HLN.out, List.take_length]
      rw [hBg] at Hup Htop Hdn Hbt Hbl Hps
      obtain ⟨Z, hZ⟩ : ∃ Z, W.heap.size = Z := ⟨_, rfl⟩
      have HV := Lib.hid (show ∀ W', OnS Z W W' → (∀ (j b : Nat), Bg[j]? = some b → ∃ a, A' = some a ∧ W'.cell? (a.add j) = some (.int .i64 (b : Int))) ∧ Utf8Tabs 0 1 W' ∧ Below B0 w W' from fun W' h => by
        have h1 := HI.out.ow
        rw [← HLN.out, List.take_length, hBg] at h1
        have hr : Rd W Z 1 A' k (begV Bg) := by rw [← hZ]; exact Rd.own h1
        have hr' := Rd.below hr h.1
        have ho : OnS Q W1 W' := ⟨HI.out.on.1.trans (h.1.mono (by rw [← hZ]; exact HI.out.on.2)), by have := HI.out.on.2; have := h.2; omega⟩
        refine ⟨fun j b hb => ?_, (HW.out W' ho).2.1, (HW.out W' ho).2.2⟩
        have hj := (List.getElem?_eq_some_iff.1 hb).1
        obtain ⟨a, e, _, hc⟩ := Rd.addr hr' (by omega)
        exact ⟨a, e, hc j _ (by unfold begV; rw [List.getElem?_map, hb]; rfl)⟩)
      have HO0 := Lib.hid (show OnS Z W W from ⟨Below.refl _ _, by omega⟩)
      have Hk := Lib.hid hk
      have hki2 : k ≤ 1073741824 := by omega
      clear HI hge hin hki hBg hk hZ HW HWy HSg
      go_wp2_with fail
      go_loopw [9, 10] (fun y x wr => ∃ (j p : Nat) (W' : World), W' = wr ∧ y = .int .i64 (p : Int) ∧ x = .int .i64 (j : Int) ∧ j ≤ k ∧ Hid (j = 0 ∧ p = 0 ∨ 0 < j ∧ Bg[j - 1]? = some p) ∧ Hid (OnS Z W W')) (fun _ x _ => k - (RowKit.intOf x).toNat)
      case atStart => exact ⟨0, 0, _, rfl, rfl, rfl, Nat.zero_le _, Lib.hid (.inl ⟨rfl, rfl⟩), HO0⟩
      case round =>
        clear HO0
        obtain ⟨j, p, W', hW', rfl, rfl, hjk, HP, HO⟩ := hrel
        subst hW'
        rcases Nat.lt_or_ge j k with hlt | hge
        · obtain ⟨b, hb⟩ : ∃ b, Bg[j]? = some b := ⟨_, List.getElem?_eq_getElem (by rw [Hk.out]; omega)⟩
          obtain ⟨a, hA, g1⟩ := (HV.out W' HO.out).1 j b hb
          subst hA
          have hjj : (j : Int) < (k : Int) := by omega
          have hnext : IntKind.i64.wrap ((j : Int) + 1) = (j : Int) + 1 := IntWalk.i64_in _ (by omega)
          have hup := Hup.out j b hb
          have Hg := Lib.hid (show ∀ W'', OnS Z W W'' → W''.cell? (a.add j) = some (.int .i64 (b : Int)) from fun W'' h => by
            obtain ⟨a', e, h1⟩ := (HV.out W'' h).1 j b hb
            obtain rfl := Option.some.inj e
            exact h1)
          have hbb : ((b : Int) != (b : Int)) = false := by simp
          have hbb2 : (b != b) = false := by simp
          have HP2 := Lib.hid (show j + 1 = 0 ∧ b = 0 ∨ 0 < j + 1 ∧ Bg[j + 1 - 1]? = some b from .inr ⟨by omega, by rw [Nat.add_sub_cancel]; exact hb⟩)
          by_cases hz : j = 0 ∧ b = 0
          · obtain ⟨hj0, hb0⟩ := hz
            have hp0 : p = 0 := by rcases HP.out with ⟨_, h⟩ | ⟨h, _⟩; exact h; omega
            subst hj0
            subst hb0
            subst hp0
            rw [show a.add 0 = a by simp [Addr.add]] at g1
            clear hb hup HP
            go_wp2_with fail
            go_roundw
            case rel => exact ⟨0 + 1, 0, _, rfl, rfl, by first | rfl | go_num, by omega, HP2, HO⟩
            case measure => simp [RowKit.intOf]; omega
          · have HF : Hid (nextW s (p : Int) = b) := Lib.hid (by
              rcases HP.out with ⟨h1, h2⟩ | ⟨h1, h2⟩
              · rw [h2]; exact hup.1 h1 (by omega)
              · exact hup.2 p h1 h2)
            have Fnx := HNx.out (p : Int)
            rw [HF.out] at Fnx
            have Fnx := Lib.hid Fnx
            have h1 : (0 : Int) < (b : Int) := by
              rcases Nat.eq_zero_or_pos j with h | h
              · have : b ≠ 0 := fun e => hz ⟨h, e⟩
                omega
              · have := Hps.out j b h hb; omega
            clear hb hup HP hz HF
            go_wp2_with fail
            refine (Fnx.out _ (HV.out _ HO.out).2.1).mono ?_
            rintro _ w4 ⟨rfl, b4⟩
            have O4 := Lib.hid (HO.out.on b4)
            have g2 := Hg.out _ O4.out
            clear b4 g1
            go_wp2_with fail
            go_roundw
            case rel => exact ⟨j + 1, b, _, rfl, rfl, by first | rfl | go_num, by omega, HP2, O4⟩
            case measure => simp [RowKit.intOf]; omega
        · obtain rfl : j = k := by omega
          have hjj : ¬ (j : Int) < (j : Int) := by omega
          have HF : Hid (nextW s (p : Int) = s.size) := Lib.hid (by
            rcases HP.out with ⟨h1, h2⟩ | ⟨h1, h2⟩
            · rw [h2]; exact Htop.out.1 (by rw [Hk.out]; exact h1)
            · exact Htop.out.2 p (by rw [Hk.out]; exact h1) (by rw [Hk.out]; exact h2))
          have Fnx := HNx.out (p : Int)
          rw [HF.out] at Fnx
          have Fnx := Lib.hid Fnx
          have hss : ((s.size : Int) != (s.size : Int)) = false := by simp
          have hss2 : (s.size != s.size) = false := by simp
          have hwk : IntKind.i64.wrap ((j : Int) - 1) = (j : Int) - 1 := IntWalk.i64_in _ (by omega)
          clear HF HP hge hjk
          go_wp2_with fail
          refine (Fnx.out _ (HV.out _ HO.out).2.1).mono ?_
          rintro _ w5 ⟨rfl, b5⟩
          have O5 := Lib.hid (HO.out.on b5)
          clear b5 HO Fnx
          go_wp2_with fail
          go_loopw [9, 12] (fun y x wr => ∃ (m q : Nat) (W'' : World), W'' = wr ∧ y = .int .i64 (q : Int) ∧ x = .int .i64 ((m : Int) - 1) ∧ m ≤ j ∧ Hid (m = j ∧ q = s.size ∨ m < j ∧ Bg[m]? = some q) ∧ Hid (OnS Z W W'')) (fun _ x _ => (RowKit.intOf x + 1).toNat)
          case atStart => exact ⟨j, s.size, _, rfl, rfl, rfl, Nat.le_refl _, Lib.hid (.inl ⟨rfl, rfl⟩), O5⟩
          case round =>
            clear O5
            obtain ⟨m, q, W'', hW'', rfl, rfl, hmj, HP, HO⟩ := hrel
            subst hW''
            cases m with
            | succ m =>
              have hm1 : (((m + 1 : Nat) : Int) - 1) = (m : Int) := by omega
              rw [hm1]
              obtain ⟨b, hb⟩ : ∃ b, Bg[m]? = some b := ⟨_, List.getElem?_eq_getElem (by rw [Hk.out]; omega)⟩
              have HF : Hid (prevW s (q : Int) = b) := Lib.hid (by
                rcases HP.out with ⟨h1, h2⟩ | ⟨h1, h2⟩
                · rw [h2]; exact (Hdn.out m b hb).1 (by rw [Hk.out]; exact h1)
                · exact (Hdn.out m b hb).2 q h2)
              have Fpv := HPv.out (q : Int)
              rw [HF.out] at Fpv
              have Fpv := Lib.hid Fpv
              obtain ⟨a, hA, _⟩ := (HV.out W'' HO.out).1 m b hb
              subst hA
              have Hg := Lib.hid (show ∀ V, OnS Z W V → V.cell? (a.add m) = some (.int .i64 (b : Int)) from fun V h => by
                obtain ⟨a', e, h1⟩ := (HV.out V h).1 m b hb
                obtain rfl := Option.some.inj e
                exact h1)
              have hm0 : (0 : Int) ≤ (m : Int) := by omega
              have hmjj : (m : Int) < (j : Int) := by omega
              have hbb : ((b : Int) != (b : Int)) = false := by simp
              have hbb2 : (b != b) = false := by simp
              have hwm : IntKind.i64.wrap ((m : Int) - 1) = (m : Int) - 1 := IntWalk.i64_in _ (by omega)
              have HP2 := Lib.hid (show m = j ∧ b = s.size ∨ m < j ∧ Bg[m]? = some b from .inr ⟨by omega, hb⟩)
              have O := Lib.hid HO.out.drew
              clear hb HF HP
              go_wp2_with fail
              go_region_held3 (fun V => V.cell? (a.add m) = some (.int .i64 (b : Int)))
                (first | exact Hg.out _ O.out)
                (first | (go_simp; go_at_call 17; with_reducible_and_instances refine (Fpv.out _ (HV.out _ O.out).2.1).mono ?_; rintro e6 w6 ⟨rfl, b6⟩; have O := Lib.hid (O.out.on b6); clear b6))
              have g7 := Hg.out _ O.out
              go_wp2_with fail
              go_roundw
              case rel => exact ⟨m, b, _, rfl, rfl, by first | rfl | go_num, by omega, HP2, O⟩
              case measure => simp [RowKit.intOf] <;> omega
            | zero =>
              have hm1 : (((0 : Nat) : Int) - 1) = -1 := by omega
              rw [hm1]
              have HF : Hid (prevW s (q : Int) = 0) := Lib.hid (by
                rcases HP.out with ⟨h1, h2⟩ | ⟨h1, h2⟩
                · rw [h2]; exact Hbt.out.1 (by rw [Hk.out, ← h1])
                · exact Hbt.out.2 q h2)
              have Fpv := HPv.out (q : Int)
              rw [HF.out] at Fpv
              have Fpv := Lib.hid Fpv
              have Fn := HNx.out at_
              have Fm := HPv.out at_
              have Fa := HAt.out
              have h3 := HR3.out
              obtain ⟨n1, hn1⟩ : ∃ n1, nextW s at_ = n1 := ⟨_, rfl⟩
              obtain ⟨m1, hm1'⟩ : ∃ m1, prevW s at_ = m1 := ⟨_, rfl⟩
              obtain ⟨xy, hxy⟩ : ∃ xy, atW s at_ = xy := ⟨_, rfl⟩
              rw [hn1] at Fn h3
              rw [hm1'] at Fm h3
              rw [hxy] at Fa h3
              obtain ⟨x, y⟩ := xy
              dsimp only at Fa h3
              have Fn := Lib.hid Fn
              have Fm := Lib.hid Fm
              have Fa := Lib.hid Fa
              obtain ⟨⟨r1, r2⟩, ⟨r3, r4⟩, r5, r6, r7⟩ := h3
              have t1 : ¬ (n1 : Int) < 0 := by omega
              have t2 : ¬ (s.size : Int) < (n1 : Int) := by omega
              have t3 : ¬ (m1 : Int) < 0 := by omega
              have t4 : ¬ (s.size : Int) < (m1 : Int) := by omega
              have t7 : (0 : Int) ≤ (x : Int) := by omega
              have t8 : (y : Int) ≤ (s.size : Int) := by omega
              have t9 : (x : Int) ≤ (y : Int) := by omega
              have t5 : ¬ ((n1 : Int) ≤ at_) ∨ ((n1 : Int) ≤ at_ ∧ ¬ (n1 : Int) < (s.size : Int)) := by omega
              have t6 : ¬ (at_ ≤ (m1 : Int)) ∨ (at_ ≤ (m1 : Int) ∧ ¬ (0 : Int) < (m1 : Int)) := by omega
              have r7 : at_ < 0 ∨ (¬ at_ < 0 ∧ (s.size : Int) ≤ at_) ∨ (¬ at_ < 0 ∧ ¬ (s.size : Int) ≤ at_ ∧ (x : Int) ≤ at_ ∧ at_ < (y : Int)) := by omega
              clear hn1 hm1' hxy HF HP r1 r2 r3 r4 r5 r6 hm1
              go_wp2_with fail
              refine (Fn.out _ (HV.out _ HO.out).2.1).mono ?_
              rintro _ w6 ⟨rfl, b6⟩
              have O := Lib.hid (HO.out.on b6)
              clear b6
              go_wp2_with fail
              refine (Fm.out _ (HV.out _ O.out).2.1).mono ?_
              rintro _ w7 ⟨rfl, b7⟩
              have O := Lib.hid (O.out.on b7)
              clear b7
              go_wp2_with fail
              refine (Fpv.out _ (HV.out _ O.out).2.1).mono ?_
              rintro _ w8 ⟨rfl, b8⟩
              have O := Lib.hid (O.out.on b8)
              clear b8
              rcases t5 with t5 | ⟨t5, t5'⟩
              all_goals
                rcases t6 with t6 | ⟨t6, t6'⟩
                all_goals
                  go_wp2_with fail
                  refine (Fa.out _ (HV.out _ O.out).2.1).mono ?_
                  rintro _ w9 ⟨rfl, b9⟩
                  have O := Lib.hid (O.out.on b9)
                  clear b9
                  rcases r7 with r7 | ⟨r7, r8⟩ | ⟨r7, r8, r9, r10⟩
                  all_goals
                    go_wp2_with fail
                    refine (Hal.out _ (HV.out _ O.out).2.1).mono ?_
                    rintro _ w10 ⟨rfl, b10⟩
                    have O := Lib.hid (O.out.on b10)
                    clear b10
                    go_wp2_with fail
                    go_ret
                    exact ⟨rfl, (HV.out _ O.out).2.2⟩
end Go.Proofs.YtiafofekobcifaaDoor

/- Layer 12, the law WordSteps, over the program's contracts: of every text (of one of more than 2000 bytes the law asks no more than what every program must do). -/
namespace Go.Proofs.YtiafofekobcifaaDoor
open Go.RowKit Go.Lib

set_option maxRecDepth 100000 in
theorem wordSteps_plain (H : WordP) (s : ByteArray) (at_ : Int) (w : World) (hw1 : -9223372036854775808 ≤ at_) (hw2 : at_ ≤ 9223372036854775807) (hs : s.size ≤ 140737488351232) (hT : Utf8Tabs 0 1 w) :
    Calls Tryd.prog 6 #[.string s, .int .i64 at_] w fun e w' => e = .returned (.bool true) ∧ Below w.heap.size w w' := by
  by_cases h : s.size ≤ 1073741824
  · exact wordSteps_any H s at_ w hw1 hw2 h hT
  · have hl : (2000 : Int) < (s.size : Int) := by omega
    have Hal := Lib.hid (alive12_any H w hT)
    clear h hT
    go_enter Tryd.func6, Tryd.ntmps6
    go_wp2_with fail
    refine Hal.out.mono ?_
    rintro _ w1 ⟨rfl, b1⟩
    have B1 := Lib.hid b1
    clear b1 Hal
    go_wp2_with fail
    go_ret
    exact ⟨rfl, B1.out⟩
end Go.Proofs.YtiafofekobcifaaDoor
