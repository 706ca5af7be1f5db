/- Layer 11, the document: Forms. (Made by a small program: a leaf a case.) -/
import Derived.Test.YtjecbchnckknkaaRdJ
import Derived.Maps.AppendAt
set_option linter.unusedSimpArgs false
set_option linter.unusedVariables false
namespace Go.Proofs.Ytjecbchnckknkaa
open Go.RowKit Go.Lib

theorem i8_infoJ : (Try.prog.info? 27).map (fun i => (i.zero, i.size, i.bytes)) = some (some (.int .i8 0), 1, 1) := by kernel_rfl
theorem i32_infoJ : (Try.prog.info? 21).map (fun i => (i.zero, i.size, i.bytes)) = some (some (.int .i32 0), 1, 4) := by kernel_rfl
/-- the forms of the first i runes -/
def fmJ (xs : List Int) (i : Nat) : List Int := (formsJ 0 (xs.map kJ)).take i
theorem fmJ_next (xs : List Int) (i : Nat) (r : Int) (h : xs[i]? = some r) : fmJ xs (i + 1) = fmJ xs i ++ [formJ (prevJ ((xs.take i).map kJ)) (kJ r) (nextJ ((xs.drop (i + 1)).map kJ))] := by
  unfold fmJ
  obtain ⟨hi, e⟩ := List.getElem?_eq_some_iff.1 h
  have hg := formsJ_get (xs.map kJ) 0 i (by rw [List.length_map]; exact hi)
  rw [List.take_add_one, hg, List.getElem_map, e]
  unfold prevJ
  rw [List.map_take, List.map_drop]; rfl
theorem fmJ_all (xs : List Int) : fmJ xs xs.length = formsJ 0 (xs.map kJ) := by
  unfold fmJ; exact List.take_of_length_le (by rw [formsJ_len, List.length_map]; exact Nat.le_refl _)
/-- what holds between two runes -/
structure FmS (w : World) (Q : Nat) (xs : List Int) (i c : Nat) (A : Option Addr) (W : World) : Prop where
  ow : W.ownsRow Q 27 1 (.slice A i c) i (i8s (fmJ xs i))
  be : Below Q w W
set_option maxRecDepth 100000 in
set_option maxHeartbeats 4000000 in
theorem rforms_any (A : Option Addr) (n c : Nat) (xs : List Int) (w : World) (hr : RdJ w A n xs) (hn : n ≤ 35184372087808) :
    Calls Try.prog 10 #[.slice A n c] w fun e w' => ∃ A' c', e = .returned (.slice A' n c') ∧ w'.ownsRow w.heap.size 27 1 (.slice A' n c') n (i8s (formsJ 0 (xs.map kJ))) ∧ Below w.heap.size w w' := by
  obtain ⟨i0, hi, hz0, hz1, hz2⟩ := info_parts i8_infoJ
  have hl := hr.len
  have HJ := Lib.hid (show ∀ x w, Calls Try.prog 28 #[.int .i32 x] w fun e w' => e = .returned (.int .i8 (kJ x)) ∧ w' = w from refJoin_is)
  obtain ⟨Q, hQ⟩ : ∃ Q, w.heap.size = Q := ⟨_, rfl⟩
  have Hr := Lib.hid (show ∀ W, Below Q w W → RdJ W A n xs from fun W hb => hr.below (by rw [hQ]; exact hb))
  have H0 := Lib.hid (show FmS w Q xs 0 0 none w from ⟨World.ownsRow_nil _ _ _ _, Below.refl _ _⟩)
  have HQ := Lib.hid hQ
  rw [hQ]
  obtain ⟨F, hF⟩ : ∃ F, i8s (formsJ 0 (xs.map kJ)) = F := ⟨_, rfl⟩
  rw [hF]
  have HF := Lib.hid (show i8s (fmJ xs n) = F from by rw [← hF, ← hl, fmJ_all])
  clear hr hQ hF
  go_enter Try.func10, Try.ntmps10
  go_wp2_with fail
  go_loopw [3, 4] (fun y x wr => ∃ (i c' : Nat) (A' : Option Addr) (W : World), W = wr ∧ y = .slice A' i c' ∧ x = .int .i64 (i : Int) ∧ i ≤ n ∧ Hid (FmS w Q xs i c' A' W)) (fun _ x _ => n - (RowKit.intOf x).toNat)
  case atStart => exact ⟨0, 0, none, _, rfl, rfl, rfl, Nat.zero_le _, H0⟩
  case round =>
    obtain ⟨i, c', A', W, hW, rfl, rfl, hin, HI⟩ := hrel
    subst hW
    rcases Nat.lt_or_ge i n with hlt | hge
    · obtain ⟨r, hri⟩ : ∃ r, xs[i]? = some r := ⟨_, List.getElem?_eq_getElem (by omega)⟩
      have hrd := Hr.out W HI.out.be
      obtain ⟨ar, hA, _, harb, hcr⟩ := hrd.at hri
      have HA := Lib.hid (ahead_anyJ A n c xs i W hrd (by omega) hlt)
      have HB := Lib.hid (behind_anyJ A n c xs i W hrd (by omega) hlt)
      subst hA
      have hini : (i : Int) < (n : Int) := by omega
      have hnext : IntKind.i64.wrap ((i : Int) + 1) = (i : Int) + 1 := IntWalk.i64_in _ (by omega)
      have hs := fmJ_next xs i r hri
      obtain ⟨k, hk⟩ : ∃ k, kJ r = k := ⟨_, rfl⟩
      obtain ⟨a, ha⟩ : ∃ a, prevJ ((xs.take i).map kJ) = a := ⟨_, rfl⟩
      obtain ⟨b, hb⟩ : ∃ b, nextJ ((xs.drop (i + 1)).map kJ) = b := ⟨_, rfl⟩
      have HJr := Lib.hid (show ∀ W', Calls Try.prog 28 #[.int .i32 r] W' fun e w' => e = .returned (.int .i8 k) ∧ w' = W' from fun W' => by have := HJ.out r W'; rw [hk] at this; exact this)
      rw [hk, ha, hb] at hs
      rw [ha] at HA
      rw [hb] at HB
      have HT := Lib.hid (show ∀ d, formJ a k b = d → i8s (fmJ xs i) ++ [.int .i8 d] = i8s (fmJ xs (i + 1)) from fun d e => by rw [hs, e]; simp [i8s])
      have HQW := Lib.hid (show Q ≤ W.heap.size from by have := HI.out.be.size; have := HQ.out; omega)
      obtain ⟨X, hX⟩ : ∃ X, i8s (fmJ xs i) = X := ⟨_, rfl⟩
      have H9 := Lib.hid (show W.ownsRow Q 27 1 (.slice A' i c') i X ∧ Below Q w W ∧ Q ≤ W.heap.size from ⟨by rw [← hX]; exact HI.out.ow, HI.out.be, HQW.out⟩)
      rw [hX] at HT
      clear hri harb hs hrd hk ha hb HI hX H0
      go_wp2_with fail
      refine (HJr.out _).mono ?_
      rintro _ w9 ⟨rfl, h9⟩
      obtain rfl := h9.symm
      go_wp2_with fail
      refine HA.out.mono ?_
      rintro _ w9 ⟨rfl, h9⟩
      obtain rfl := h9.symm
      go_wp2_with fail
      refine HB.out.mono ?_
      rintro _ w9 ⟨rfl, h9⟩
      obtain rfl := h9.symm
      clear HA HB HJr
      by_cases k1 : k = 1
      · subst k1
        by_cases a2 : a = 2
        · subst a2
          go_wp2_with (at_builtin; refine wpList_append_own_at _ rfl _ _ 23 rfl Q 27 i0 _ 1 1 Try.underlying23 hi hz0 hz1 hz2 rfl (by decide) _ _ _ rfl (H9.out.1.alloc _) ⟨W.heap.size, 0, none⟩ 1 1 [.int .i8 3] rfl rfl ?d1_1 ?d1_2 ?d1_3 ?d1_4 ?d1_5 ?_)
          try (case d1_1 => exact new_cells W [.int .i8 3] 27)
          case d1_2 => simp [Value.oneCell']
          case d1_3 => unfold maxLen; omega
          case d1_4 => omega
          case d1_5 => rw [World.size_alloc]; have := H9.out.2.2; omega
          intro v2 w2 o2 g2 _ _
          obtain ⟨A2, c2, hv2, _, _⟩ := own_shape o2
          subst hv2
          have HN := Lib.hid (show FmS w Q xs (i + 1) c2 A2 w2 from ⟨by rw [← HT.out 3 (by simp [formJ, aheadJ, behindJ])]; exact o2, (H9.out.2.1.alloc H9.out.2.2 _).grown g2 (by rw [World.size_alloc]; have := H9.out.2.2; omega) (fun q hq => (H9.out.1.lt q hq).1)⟩)
          clear o2 g2 H9
          go_wp2_with fail
          go_roundw
          case rel => exact ⟨i + 1, c2, A2, _, rfl, rfl, by first | rfl | go_num, hlt, HN⟩
          case measure => simp [RowKit.intOf]; omega
        have ab2 : (a == 2) = false := by simpa using a2
        by_cases a3 : a = 3
        · subst a3
          go_wp2_with (at_builtin; refine wpList_append_own_at _ rfl _ _ 23 rfl Q 27 i0 _ 1 1 Try.underlying23 hi hz0 hz1 hz2 rfl (by decide) _ _ _ rfl (H9.out.1.alloc _) ⟨W.heap.size, 0, none⟩ 1 1 [.int .i8 3] rfl rfl ?d2_1 ?d2_2 ?d2_3 ?d2_4 ?d2_5 ?_)
          try (case d2_1 => exact new_cells W [.int .i8 3] 27)
          case d2_2 => simp [Value.oneCell']
          case d2_3 => unfold maxLen; omega
          case d2_4 => omega
          case d2_5 => rw [World.size_alloc]; have := H9.out.2.2; omega
          intro v2 w2 o2 g2 _ _
          obtain ⟨A2, c2, hv2, _, _⟩ := own_shape o2
          subst hv2
          have HN := Lib.hid (show FmS w Q xs (i + 1) c2 A2 w2 from ⟨by rw [← HT.out 3 (by simp [formJ, aheadJ, behindJ, ab2, a2])]; exact o2, (H9.out.2.1.alloc H9.out.2.2 _).grown g2 (by rw [World.size_alloc]; have := H9.out.2.2; omega) (fun q hq => (H9.out.1.lt q hq).1)⟩)
          clear o2 g2 H9
          go_wp2_with fail
          go_roundw
          case rel => exact ⟨i + 1, c2, A2, _, rfl, rfl, by first | rfl | go_num, hlt, HN⟩
          case measure => simp [RowKit.intOf]; omega
        have ab3 : (a == 3) = false := by simpa using a3
        go_wp2_with (at_builtin; refine wpList_append_own_at _ rfl _ _ 23 rfl Q 27 i0 _ 1 1 Try.underlying23 hi hz0 hz1 hz2 rfl (by decide) _ _ _ rfl (H9.out.1.alloc _) ⟨W.heap.size, 0, none⟩ 1 1 [.int .i8 0] rfl rfl ?d3_1 ?d3_2 ?d3_3 ?d3_4 ?d3_5 ?_)
        try (case d3_1 => exact new_cells W [.int .i8 0] 27)
        case d3_2 => simp [Value.oneCell']
        case d3_3 => unfold maxLen; omega
        case d3_4 => omega
        case d3_5 => rw [World.size_alloc]; have := H9.out.2.2; omega
        intro v2 w2 o2 g2 _ _
        obtain ⟨A2, c2, hv2, _, _⟩ := own_shape o2
        subst hv2
        have HN := Lib.hid (show FmS w Q xs (i + 1) c2 A2 w2 from ⟨by rw [← HT.out 0 (by simp [formJ, aheadJ, behindJ, ab2, a2, ab3, a3])]; exact o2, (H9.out.2.1.alloc H9.out.2.2 _).grown g2 (by rw [World.size_alloc]; have := H9.out.2.2; omega) (fun q hq => (H9.out.1.lt q hq).1)⟩)
        clear o2 g2 H9
        go_wp2_with fail
        go_roundw
        case rel => exact ⟨i + 1, c2, A2, _, rfl, rfl, by first | rfl | go_num, hlt, HN⟩
        case measure => simp [RowKit.intOf]; omega
      have kb1 : (k == 1) = false := by simpa using k1
      by_cases k2 : k = 2
      · subst k2
        by_cases a2 : a = 2
        · subst a2
          by_cases b1 : b = 1
          · subst b1
            go_wp2_with (at_builtin; refine wpList_append_own_at _ rfl _ _ 23 rfl Q 27 i0 _ 1 1 Try.underlying23 hi hz0 hz1 hz2 rfl (by decide) _ _ _ rfl (H9.out.1.alloc _) ⟨W.heap.size, 0, none⟩ 1 1 [.int .i8 2] rfl rfl ?d4_1 ?d4_2 ?d4_3 ?d4_4 ?d4_5 ?_)
            try (case d4_1 => exact new_cells W [.int .i8 2] 27)
            case d4_2 => simp [Value.oneCell']
            case d4_3 => unfold maxLen; omega
            case d4_4 => omega
            case d4_5 => rw [World.size_alloc]; have := H9.out.2.2; omega
            intro v2 w2 o2 g2 _ _
            obtain ⟨A2, c2, hv2, _, _⟩ := own_shape o2
            subst hv2
            have HN := Lib.hid (show FmS w Q xs (i + 1) c2 A2 w2 from ⟨by rw [← HT.out 2 (by simp [formJ, aheadJ, behindJ, kb1, k1])]; exact o2, (H9.out.2.1.alloc H9.out.2.2 _).grown g2 (by rw [World.size_alloc]; have := H9.out.2.2; omega) (fun q hq => (H9.out.1.lt q hq).1)⟩)
            clear o2 g2 H9
            go_wp2_with fail
            go_roundw
            case rel => exact ⟨i + 1, c2, A2, _, rfl, rfl, by first | rfl | go_num, hlt, HN⟩
            case measure => simp [RowKit.intOf]; omega
          have bb1 : (b == 1) = false := by simpa using b1
          by_cases b2 : b = 2
          · subst b2
            go_wp2_with (at_builtin; refine wpList_append_own_at _ rfl _ _ 23 rfl Q 27 i0 _ 1 1 Try.underlying23 hi hz0 hz1 hz2 rfl (by decide) _ _ _ rfl (H9.out.1.alloc _) ⟨W.heap.size, 0, none⟩ 1 1 [.int .i8 2] rfl rfl ?d5_1 ?d5_2 ?d5_3 ?d5_4 ?d5_5 ?_)
            try (case d5_1 => exact new_cells W [.int .i8 2] 27)
            case d5_2 => simp [Value.oneCell']
            case d5_3 => unfold maxLen; omega
            case d5_4 => omega
            case d5_5 => rw [World.size_alloc]; have := H9.out.2.2; omega
            intro v2 w2 o2 g2 _ _
            obtain ⟨A2, c2, hv2, _, _⟩ := own_shape o2
            subst hv2
            have HN := Lib.hid (show FmS w Q xs (i + 1) c2 A2 w2 from ⟨by rw [← HT.out 2 (by simp [formJ, aheadJ, behindJ, kb1, k1, bb1, b1])]; exact o2, (H9.out.2.1.alloc H9.out.2.2 _).grown g2 (by rw [World.size_alloc]; have := H9.out.2.2; omega) (fun q hq => (H9.out.1.lt q hq).1)⟩)
            clear o2 g2 H9
            go_wp2_with fail
            go_roundw
            case rel => exact ⟨i + 1, c2, A2, _, rfl, rfl, by first | rfl | go_num, hlt, HN⟩
            case measure => simp [RowKit.intOf]; omega
          have bb2 : (b == 2) = false := by simpa using b2
          by_cases b3 : b = 3
          · subst b3
            go_wp2_with (at_builtin; refine wpList_append_own_at _ rfl _ _ 23 rfl Q 27 i0 _ 1 1 Try.underlying23 hi hz0 hz1 hz2 rfl (by decide) _ _ _ rfl (H9.out.1.alloc _) ⟨W.heap.size, 0, none⟩ 1 1 [.int .i8 2] rfl rfl ?d6_1 ?d6_2 ?d6_3 ?d6_4 ?d6_5 ?_)
            try (case d6_1 => exact new_cells W [.int .i8 2] 27)
            case d6_2 => simp [Value.oneCell']
            case d6_3 => unfold maxLen; omega
            case d6_4 => omega
            case d6_5 => rw [World.size_alloc]; have := H9.out.2.2; omega
            intro v2 w2 o2 g2 _ _
            obtain ⟨A2, c2, hv2, _, _⟩ := own_shape o2
            subst hv2
            have HN := Lib.hid (show FmS w Q xs (i + 1) c2 A2 w2 from ⟨by rw [← HT.out 2 (by simp [formJ, aheadJ, behindJ, kb1, k1, bb1, b1, bb2, b2])]; exact o2, (H9.out.2.1.alloc H9.out.2.2 _).grown g2 (by rw [World.size_alloc]; have := H9.out.2.2; omega) (fun q hq => (H9.out.1.lt q hq).1)⟩)
            clear o2 g2 H9
            go_wp2_with fail
            go_roundw
            case rel => exact ⟨i + 1, c2, A2, _, rfl, rfl, by first | rfl | go_num, hlt, HN⟩
            case measure => simp [RowKit.intOf]; omega
          have bb3 : (b == 3) = false := by simpa using b3
          go_wp2_with (at_builtin; refine wpList_append_own_at _ rfl _ _ 23 rfl Q 27 i0 _ 1 1 Try.underlying23 hi hz0 hz1 hz2 rfl (by decide) _ _ _ rfl (H9.out.1.alloc _) ⟨W.heap.size, 0, none⟩ 1 1 [.int .i8 3] rfl rfl ?d7_1 ?d7_2 ?d7_3 ?d7_4 ?d7_5 ?_)
          try (case d7_1 => exact new_cells W [.int .i8 3] 27)
          case d7_2 => simp [Value.oneCell']
          case d7_3 => unfold maxLen; omega
          case d7_4 => omega
          case d7_5 => rw [World.size_alloc]; have := H9.out.2.2; omega
          intro v2 w2 o2 g2 _ _
          obtain ⟨A2, c2, hv2, _, _⟩ := own_shape o2
          subst hv2
          have HN := Lib.hid (show FmS w Q xs (i + 1) c2 A2 w2 from ⟨by rw [← HT.out 3 (by simp [formJ, aheadJ, behindJ, kb1, k1, bb1, b1, bb2, b2, bb3, b3])]; exact o2, (H9.out.2.1.alloc H9.out.2.2 _).grown g2 (by rw [World.size_alloc]; have := H9.out.2.2; omega) (fun q hq => (H9.out.1.lt q hq).1)⟩)
          clear o2 g2 H9
          go_wp2_with fail
          go_roundw
          case rel => exact ⟨i + 1, c2, A2, _, rfl, rfl, by first | rfl | go_num, hlt, HN⟩
          case measure => simp [RowKit.intOf]; omega
        have ab2 : (a == 2) = false := by simpa using a2
        by_cases a3 : a = 3
        · subst a3
          by_cases b1 : b = 1
          · subst b1
            go_wp2_with (at_builtin; refine wpList_append_own_at _ rfl _ _ 23 rfl Q 27 i0 _ 1 1 Try.underlying23 hi hz0 hz1 hz2 rfl (by decide) _ _ _ rfl (H9.out.1.alloc _) ⟨W.heap.size, 0, none⟩ 1 1 [.int .i8 2] rfl rfl ?d8_1 ?d8_2 ?d8_3 ?d8_4 ?d8_5 ?_)
            try (case d8_1 => exact new_cells W [.int .i8 2] 27)
            case d8_2 => simp [Value.oneCell']
            case d8_3 => unfold maxLen; omega
            case d8_4 => omega
            case d8_5 => rw [World.size_alloc]; have := H9.out.2.2; omega
            intro v2 w2 o2 g2 _ _
            obtain ⟨A2, c2, hv2, _, _⟩ := own_shape o2
            subst hv2
            have HN := Lib.hid (show FmS w Q xs (i + 1) c2 A2 w2 from ⟨by rw [← HT.out 2 (by simp [formJ, aheadJ, behindJ, kb1, k1, ab2, a2])]; exact o2, (H9.out.2.1.alloc H9.out.2.2 _).grown g2 (by rw [World.size_alloc]; have := H9.out.2.2; omega) (fun q hq => (H9.out.1.lt q hq).1)⟩)
            clear o2 g2 H9
            go_wp2_with fail
            go_roundw
            case rel => exact ⟨i + 1, c2, A2, _, rfl, rfl, by first | rfl | go_num, hlt, HN⟩
            case measure => simp [RowKit.intOf]; omega
          have bb1 : (b == 1) = false := by simpa using b1
          by_cases b2 : b = 2
          · subst b2
            go_wp2_with (at_builtin; refine wpList_append_own_at _ rfl _ _ 23 rfl Q 27 i0 _ 1 1 Try.underlying23 hi hz0 hz1 hz2 rfl (by decide) _ _ _ rfl (H9.out.1.alloc _) ⟨W.heap.size, 0, none⟩ 1 1 [.int .i8 2] rfl rfl ?d9_1 ?d9_2 ?d9_3 ?d9_4 ?d9_5 ?_)
            try (case d9_1 => exact new_cells W [.int .i8 2] 27)
            case d9_2 => simp [Value.oneCell']
            case d9_3 => unfold maxLen; omega
            case d9_4 => omega
            case d9_5 => rw [World.size_alloc]; have := H9.out.2.2; omega
            intro v2 w2 o2 g2 _ _
            obtain ⟨A2, c2, hv2, _, _⟩ := own_shape o2
            subst hv2
            have HN := Lib.hid (show FmS w Q xs (i + 1) c2 A2 w2 from ⟨by rw [← HT.out 2 (by simp [formJ, aheadJ, behindJ, kb1, k1, ab2, a2, bb1, b1])]; exact o2, (H9.out.2.1.alloc H9.out.2.2 _).grown g2 (by rw [World.size_alloc]; have := H9.out.2.2; omega) (fun q hq => (H9.out.1.lt q hq).1)⟩)
            clear o2 g2 H9
            go_wp2_with fail
            go_roundw
            case rel => exact ⟨i + 1, c2, A2, _, rfl, rfl, by first | rfl | go_num, hlt, HN⟩
            case measure => simp [RowKit.intOf]; omega
          have bb2 : (b == 2) = false := by simpa using b2
          by_cases b3 : b = 3
          · subst b3
            go_wp2_with (at_builtin; refine wpList_append_own_at _ rfl _ _ 23 rfl Q 27 i0 _ 1 1 Try.underlying23 hi hz0 hz1 hz2 rfl (by decide) _ _ _ rfl (H9.out.1.alloc _) ⟨W.heap.size, 0, none⟩ 1 1 [.int .i8 2] rfl rfl ?d10_1 ?d10_2 ?d10_3 ?d10_4 ?d10_5 ?_)
            try (case d10_1 => exact new_cells W [.int .i8 2] 27)
            case d10_2 => simp [Value.oneCell']
            case d10_3 => unfold maxLen; omega
            case d10_4 => omega
            case d10_5 => rw [World.size_alloc]; have := H9.out.2.2; omega
            intro v2 w2 o2 g2 _ _
            obtain ⟨A2, c2, hv2, _, _⟩ := own_shape o2
            subst hv2
            have HN := Lib.hid (show FmS w Q xs (i + 1) c2 A2 w2 from ⟨by rw [← HT.out 2 (by simp [formJ, aheadJ, behindJ, kb1, k1, ab2, a2, bb1, b1, bb2, b2])]; exact o2, (H9.out.2.1.alloc H9.out.2.2 _).grown g2 (by rw [World.size_alloc]; have := H9.out.2.2; omega) (fun q hq => (H9.out.1.lt q hq).1)⟩)
            clear o2 g2 H9
            go_wp2_with fail
            go_roundw
            case rel => exact ⟨i + 1, c2, A2, _, rfl, rfl, by first | rfl | go_num, hlt, HN⟩
            case measure => simp [RowKit.intOf]; omega
          have bb3 : (b == 3) = false := by simpa using b3
          go_wp2_with (at_builtin; refine wpList_append_own_at _ rfl _ _ 23 rfl Q 27 i0 _ 1 1 Try.underlying23 hi hz0 hz1 hz2 rfl (by decide) _ _ _ rfl (H9.out.1.alloc _) ⟨W.heap.size, 0, none⟩ 1 1 [.int .i8 3] rfl rfl ?d11_1 ?d11_2 ?d11_3 ?d11_4 ?d11_5 ?_)
          try (case d11_1 => exact new_cells W [.int .i8 3] 27)
          case d11_2 => simp [Value.oneCell']
          case d11_3 => unfold maxLen; omega
          case d11_4 => omega
          case d11_5 => rw [World.size_alloc]; have := H9.out.2.2; omega
          intro v2 w2 o2 g2 _ _
          obtain ⟨A2, c2, hv2, _, _⟩ := own_shape o2
          subst hv2
          have HN := Lib.hid (show FmS w Q xs (i + 1) c2 A2 w2 from ⟨by rw [← HT.out 3 (by simp [formJ, aheadJ, behindJ, kb1, k1, ab2, a2, bb1, b1, bb2, b2, bb3, b3])]; exact o2, (H9.out.2.1.alloc H9.out.2.2 _).grown g2 (by rw [World.size_alloc]; have := H9.out.2.2; omega) (fun q hq => (H9.out.1.lt q hq).1)⟩)
          clear o2 g2 H9
          go_wp2_with fail
          go_roundw
          case rel => exact ⟨i + 1, c2, A2, _, rfl, rfl, by first | rfl | go_num, hlt, HN⟩
          case measure => simp [RowKit.intOf]; omega
        have ab3 : (a == 3) = false := by simpa using a3
        by_cases b1 : b = 1
        · subst b1
          go_wp2_with (at_builtin; refine wpList_append_own_at _ rfl _ _ 23 rfl Q 27 i0 _ 1 1 Try.underlying23 hi hz0 hz1 hz2 rfl (by decide) _ _ _ rfl (H9.out.1.alloc _) ⟨W.heap.size, 0, none⟩ 1 1 [.int .i8 1] rfl rfl ?d12_1 ?d12_2 ?d12_3 ?d12_4 ?d12_5 ?_)
          try (case d12_1 => exact new_cells W [.int .i8 1] 27)
          case d12_2 => simp [Value.oneCell']
          case d12_3 => unfold maxLen; omega
          case d12_4 => omega
          case d12_5 => rw [World.size_alloc]; have := H9.out.2.2; omega
          intro v2 w2 o2 g2 _ _
          obtain ⟨A2, c2, hv2, _, _⟩ := own_shape o2
          subst hv2
          have HN := Lib.hid (show FmS w Q xs (i + 1) c2 A2 w2 from ⟨by rw [← HT.out 1 (by simp [formJ, aheadJ, behindJ, kb1, k1, ab2, a2, ab3, a3])]; exact o2, (H9.out.2.1.alloc H9.out.2.2 _).grown g2 (by rw [World.size_alloc]; have := H9.out.2.2; omega) (fun q hq => (H9.out.1.lt q hq).1)⟩)
          clear o2 g2 H9
          go_wp2_with fail
          go_roundw
          case rel => exact ⟨i + 1, c2, A2, _, rfl, rfl, by first | rfl | go_num, hlt, HN⟩
          case measure => simp [RowKit.intOf]; omega
        have bb1 : (b == 1) = false := by simpa using b1
        by_cases b2 : b = 2
        · subst b2
          go_wp2_with (at_builtin; refine wpList_append_own_at _ rfl _ _ 23 rfl Q 27 i0 _ 1 1 Try.underlying23 hi hz0 hz1 hz2 rfl (by decide) _ _ _ rfl (H9.out.1.alloc _) ⟨W.heap.size, 0, none⟩ 1 1 [.int .i8 1] rfl rfl ?d13_1 ?d13_2 ?d13_3 ?d13_4 ?d13_5 ?_)
          try (case d13_1 => exact new_cells W [.int .i8 1] 27)
          case d13_2 => simp [Value.oneCell']
          case d13_3 => unfold maxLen; omega
          case d13_4 => omega
          case d13_5 => rw [World.size_alloc]; have := H9.out.2.2; omega
          intro v2 w2 o2 g2 _ _
          obtain ⟨A2, c2, hv2, _, _⟩ := own_shape o2
          subst hv2
          have HN := Lib.hid (show FmS w Q xs (i + 1) c2 A2 w2 from ⟨by rw [← HT.out 1 (by simp [formJ, aheadJ, behindJ, kb1, k1, ab2, a2, ab3, a3, bb1, b1])]; exact o2, (H9.out.2.1.alloc H9.out.2.2 _).grown g2 (by rw [World.size_alloc]; have := H9.out.2.2; omega) (fun q hq => (H9.out.1.lt q hq).1)⟩)
          clear o2 g2 H9
          go_wp2_with fail
          go_roundw
          case rel => exact ⟨i + 1, c2, A2, _, rfl, rfl, by first | rfl | go_num, hlt, HN⟩
          case measure => simp [RowKit.intOf]; omega
        have bb2 : (b == 2) = false := by simpa using b2
        by_cases b3 : b = 3
        · subst b3
          go_wp2_with (at_builtin; refine wpList_append_own_at _ rfl _ _ 23 rfl Q 27 i0 _ 1 1 Try.underlying23 hi hz0 hz1 hz2 rfl (by decide) _ _ _ rfl (H9.out.1.alloc _) ⟨W.heap.size, 0, none⟩ 1 1 [.int .i8 1] rfl rfl ?d14_1 ?d14_2 ?d14_3 ?d14_4 ?d14_5 ?_)
          try (case d14_1 => exact new_cells W [.int .i8 1] 27)
          case d14_2 => simp [Value.oneCell']
          case d14_3 => unfold maxLen; omega
          case d14_4 => omega
          case d14_5 => rw [World.size_alloc]; have := H9.out.2.2; omega
          intro v2 w2 o2 g2 _ _
          obtain ⟨A2, c2, hv2, _, _⟩ := own_shape o2
          subst hv2
          have HN := Lib.hid (show FmS w Q xs (i + 1) c2 A2 w2 from ⟨by rw [← HT.out 1 (by simp [formJ, aheadJ, behindJ, kb1, k1, ab2, a2, ab3, a3, bb1, b1, bb2, b2])]; exact o2, (H9.out.2.1.alloc H9.out.2.2 _).grown g2 (by rw [World.size_alloc]; have := H9.out.2.2; omega) (fun q hq => (H9.out.1.lt q hq).1)⟩)
          clear o2 g2 H9
          go_wp2_with fail
          go_roundw
          case rel => exact ⟨i + 1, c2, A2, _, rfl, rfl, by first | rfl | go_num, hlt, HN⟩
          case measure => simp [RowKit.intOf]; omega
        have bb3 : (b == 3) = false := by simpa using b3
        go_wp2_with (at_builtin; refine wpList_append_own_at _ rfl _ _ 23 rfl Q 27 i0 _ 1 1 Try.underlying23 hi hz0 hz1 hz2 rfl (by decide) _ _ _ rfl (H9.out.1.alloc _) ⟨W.heap.size, 0, none⟩ 1 1 [.int .i8 0] rfl rfl ?d15_1 ?d15_2 ?d15_3 ?d15_4 ?d15_5 ?_)
        try (case d15_1 => exact new_cells W [.int .i8 0] 27)
        case d15_2 => simp [Value.oneCell']
        case d15_3 => unfold maxLen; omega
        case d15_4 => omega
        case d15_5 => rw [World.size_alloc]; have := H9.out.2.2; omega
        intro v2 w2 o2 g2 _ _
        obtain ⟨A2, c2, hv2, _, _⟩ := own_shape o2
        subst hv2
        have HN := Lib.hid (show FmS w Q xs (i + 1) c2 A2 w2 from ⟨by rw [← HT.out 0 (by simp [formJ, aheadJ, behindJ, kb1, k1, ab2, a2, ab3, a3, bb1, b1, bb2, b2, bb3, b3])]; exact o2, (H9.out.2.1.alloc H9.out.2.2 _).grown g2 (by rw [World.size_alloc]; have := H9.out.2.2; omega) (fun q hq => (H9.out.1.lt q hq).1)⟩)
        clear o2 g2 H9
        go_wp2_with fail
        go_roundw
        case rel => exact ⟨i + 1, c2, A2, _, rfl, rfl, by first | rfl | go_num, hlt, HN⟩
        case measure => simp [RowKit.intOf]; omega
      have kb2 : (k == 2) = false := by simpa using k2
      go_wp2_with (at_builtin; refine wpList_append_own_at _ rfl _ _ 23 rfl Q 27 i0 _ 1 1 Try.underlying23 hi hz0 hz1 hz2 rfl (by decide) _ _ _ rfl (H9.out.1.alloc _) ⟨W.heap.size, 0, none⟩ 1 1 [.int .i8 0] rfl rfl ?d16_1 ?d16_2 ?d16_3 ?d16_4 ?d16_5 ?_)
      try (case d16_1 => exact new_cells W [.int .i8 0] 27)
      case d16_2 => simp [Value.oneCell']
      case d16_3 => unfold maxLen; omega
      case d16_4 => omega
      case d16_5 => rw [World.size_alloc]; have := H9.out.2.2; omega
      intro v2 w2 o2 g2 _ _
      obtain ⟨A2, c2, hv2, _, _⟩ := own_shape o2
      subst hv2
      have HN := Lib.hid (show FmS w Q xs (i + 1) c2 A2 w2 from ⟨by rw [← HT.out 0 (by simp [formJ, aheadJ, behindJ, kb1, k1, kb2, k2])]; exact o2, (H9.out.2.1.alloc H9.out.2.2 _).grown g2 (by rw [World.size_alloc]; have := H9.out.2.2; omega) (fun q hq => (H9.out.1.lt q hq).1)⟩)
      clear o2 g2 H9
      go_wp2_with fail
      go_roundw
      case rel => exact ⟨i + 1, c2, A2, _, rfl, rfl, by first | rfl | go_num, hlt, HN⟩
      case measure => simp [RowKit.intOf]; omega
    · obtain rfl : i = n := by omega
      have hnn : ¬ (i : Int) < (i : Int) := by omega
      have HE := Lib.hid (show W.ownsRow Q 27 1 (.slice A' i c') i F ∧ Below Q w W from by
        have h := HI.out
        exact ⟨by rw [← HF.out]; exact h.ow, h.be⟩)
      clear hin hge HI
      go_wp2_with fail
      go_ret
      exact ⟨_, _, rfl, HE.out⟩
end Go.Proofs.Ytjecbchnckknkaa
