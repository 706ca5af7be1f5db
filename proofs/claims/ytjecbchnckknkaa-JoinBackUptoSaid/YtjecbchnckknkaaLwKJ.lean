/- Layer 11, the law JoinBack, over the program's contracts. -/
import Derived.Test.YtjecbchnckknkaaPnJ
set_option linter.unusedSimpArgs false
set_option linter.unusedVariables false
namespace Go.Proofs.Ytjecbchnckknkaa
open Go.RowKit Go.Lib

theorem joinK_any (x : Int) (w : World) : Calls Try.prog 26 #[.int .i32 x] w fun e w' => e = .returned (.int .i8 (kJ x)) ∧ Below w.heap.size w w' := Join_any x w
set_option maxRecDepth 100000 in
set_option maxHeartbeats 4000000 in
theorem joinBack_anyJ {N : Nat} (H : JoinP N) (A : Option Addr) (n c : Nat) (xs : List Int) (w : World) (hr : RdJ w A n xs) (hn : n ≤ 1048576) : Calls Try.prog 6 #[.slice A n c] w fun e w' => e = .returned (.bool true) ∧ Below w.heap.size w w' := by
  obtain ⟨B, hB⟩ : ∃ B, w.heap.size = B := ⟨_, rfl⟩
  have hl := hr.len
  have H0 := Lib.hid (show OnJ B w w from ⟨Below.refl _ _, by omega⟩)
  have HR := Lib.hid (show ∀ W, OnJ B w W → RdJ W A n xs from fun W h => hr.below (by rw [hB]; exact h.1))
  rw [hB]
  clear hB
  have HW := Lib.hid (fun W => works_anyJ H W)
  have HJ := Lib.hid joinK_any
  have HS := Lib.hid (fun A n c xs W h (h2 : n ≤ 4194304) => H.shaped A n c xs W h (Nat.le_trans h2 H.big))
  have HN := Lib.hid (fun A n c xs W h h2 => plains_anyJ H A n c xs W h h2)
  obtain ⟨p, hp⟩ : ∃ p, shapedJ xs = p := ⟨_, rfl⟩
  have hpl : p.length = n := by rw [← hp, shapedJ_len, hl]
  obtain ⟨q, hq⟩ : ∃ q, plainsJ xs = q := ⟨_, rfl⟩
  have hpq : plainsJ p = q := by rw [← hp, plains_shaped, hq]
  have hql : q.length ≤ 2 * n := by rw [← hq, ← hl]; exact plains_le xs
  have HSQ := Lib.hid (show plainsJ (shapedJ q) = q ∧ (shapedJ q).length = q.length from ⟨by rw [← hq, plains_back], shapedJ_len q⟩)
  have HK := Lib.hid (show ∀ i x y, p[i]? = some x → xs[i]? = some y → x ≠ y → ((kJ y == 3) = false ∧ (kJ y == 4) = false) from fun i x y hx hy hne => by
    rw [← hp] at hx
    unfold shapedJ at hx
    rw [List.getElem?_zipWith, hy] at hx
    cases hf : (formsJ 0 (xs.map kJ))[i]? with
    | none => rw [hf] at hx; cases hx
    | some f =>
      rw [hf] at hx
      have hx : shapeJ y f = x := by injection hx
      constructor
      · simpa using fun h => hne (by rw [← hx]; exact shape_keep y f (.inl h))
      · simpa using fun h => hne (by rw [← hx]; exact shape_keep y f (.inr h)))
  have HXS := Lib.hid (show plainsJ xs = q ∧ plainsJ p = q ∧ shapedJ xs = p from ⟨hq, hpq, hp⟩)
  obtain ⟨nq, hnq⟩ : ∃ nq, q.length = nq := ⟨_, rfl⟩
  rw [hnq] at hql HSQ
  clear hp hq hpq hr
  go_enter Try.func6, Try.ntmps6
  go_wp2_with fail
  refine (HW.out _).mono ?_
  rintro _ W1 ⟨rfl, b1⟩
  have HB1 := Lib.hid (H0.out.on b1)
  clear b1 H0 HW
  go_wp2_with fail
  refine (HS.out _ _ _ _ _ (HR.out _ HB1.out) (by omega)).mono ?_
  rw [HXS.out.2.2]
  rintro _ W2 ⟨Q2, A2, c2, hQ2, rfl, o2, b2⟩
  rw [hpl] at o2 ⊢
  have HB2 := Lib.hid (HB1.out.on b2)
  obtain ⟨M, hM⟩ : ∃ M, W2.heap.size = M := ⟨_, rfl⟩
  have HP := Lib.hid (show ∀ W, Below M W2 W → RdJ W A2 n p ∧ OnJ B w W from fun W h => ⟨(RdJ.own o2).below (by rw [hM]; exact h), HB2.out.on (by rw [hM]; exact h)⟩)
  have HO2 := Lib.hid (show OnJ M W2 W2 from ⟨Below.refl _ _, by omega⟩)
  have HM := Lib.hid hM
  have hnn : ((n : Int) != (n : Int)) = false := by simp
  clear o2 b2 hQ2 hM HB1
  go_wp2_with fail
  refine (HN.out A2 n c2 p _ (HP.out _ HO2.out.1).1 (by omega)).mono ?_
  rw [HXS.out.2.1]
  rintro _ W3 ⟨Q3, A3, c3, hQ3, rfl, o3, b3⟩
  rw [hnq] at o3 ⊢
  have HO3 := Lib.hid (HO2.out.on b3)
  have HR3 := Lib.hid (show ∀ W, Below W3.heap.size W3 W → RdJ W A3 nq q from fun W h => (RdJ.own o3).below h)
  clear o3 b3 hQ3 HO2
  go_wp2_with fail
  refine (HN.out A n c xs _ (HR.out _ (HP.out _ HO3.out.1).2) (by omega)).mono ?_
  rw [HXS.out.1]
  rintro _ W4 ⟨Q4, A4, c4, hQ4, rfl, o4, b4⟩
  rw [hnq] at o4 ⊢
  have HO4 := Lib.hid (HO3.out.on b4)
  have HR4 := Lib.hid (show RdJ W4 A3 nq q ∧ RdJ W4 A4 nq q from ⟨HR3.out _ b4, RdJ.own o4⟩)
  clear o4 b4 hQ4 HO3 HR3
  go_wp2_with fail
  refine (same_yes32 A3 A4 nq c3 c4 q W4 HR4.out.1 HR4.out.2 (by omega)).mono ?_
  rintro _ W5 ⟨rfl, b5⟩
  have HO5 := Lib.hid (HO4.out.on b5)
  clear b5 HO4 HR4
  go_wp2_with fail
  go_loopw [25] (fun x wr => ∃ (i : Nat) (W : World), W = wr ∧ x = .int .i64 (i : Int) ∧ i ≤ n ∧ Hid (OnJ M W2 W)) (fun x _ => n - (RowKit.intOf x).toNat)
  case atStart => exact ⟨0, _, rfl, rfl, Nat.zero_le _, HO5⟩
  case round =>
    obtain ⟨i, W, hW, rfl, hin, HO⟩ := hrel
    subst hW
    clear HO5
    rcases Nat.lt_or_ge i n with hlt | hge
    · obtain ⟨x, hxi⟩ : ∃ x, p[i]? = some x := ⟨_, List.getElem?_eq_getElem (by omega)⟩
      obtain ⟨y, hyi⟩ : ∃ y, xs[i]? = some y := ⟨_, List.getElem?_eq_getElem (by omega)⟩
      have hQM : B ≤ M := by rw [← HM.out]; exact HB2.out.2
      obtain ⟨a, hA, _, ha, hca⟩ := (HP.out W2 (Below.refl _ _)).1.at hxi
      obtain ⟨b, hA', _, hb, hcb⟩ := (HR.out W2 HB2.out).at hyi
      subst hA
      subst hA'
      have haM : (a.add i).block < M := by rw [add_blockJ, ← HM.out]; exact ha
      have hbM : (b.add i).block < M := by rw [add_blockJ, ← HM.out]; exact hb
      have hini : (i : Int) < (n : Int) := by omega
      have hnext : IntKind.i64.wrap ((i : Int) + 1) = (i : Int) + 1 := IntWalk.i64_in _ (by omega)
      have O := Lib.hid (show OnJ M W2 W.drew from ⟨below_DJ HO.out.1, HO.out.2⟩)
      have d1 : W.drew.cell? (a.add i) = some (.int .i32 x) := (O.out.1.cell (p := a.add i) haM).trans hca
      have d2 : W.drew.cell? (b.add i) = some (.int .i32 y) := (O.out.1.cell (p := b.add i) hbM).trans hcb
      have Hca := Lib.hid (show _ ∧ _ from ⟨hca, hcb⟩)
      by_cases hxy : x = y
      · have hne : (x != y) = false := by simp [hxy]
        clear hxy
        clear hxi hyi ha hb hca hcb
        go_wp2_with fail
        go_region
        go_wp2_with fail
        go_roundw
        case rel => exact ⟨i + 1, _, rfl, by first | rfl | go_num, by omega, O⟩
        case measure => simp [RowKit.intOf]; omega
      · have hne : (x != y) = true := by simp [hxy]
        obtain ⟨h3, h4⟩ := HK.out i x y hxi hyi hxy
        have HJy := Lib.hid (HJ.out y)
        obtain ⟨k, hk⟩ : ∃ k, kJ y = k := ⟨_, rfl⟩
        rw [hk] at h3 h4 HJy
        clear hxi hyi ha hb hca hcb hk
        go_wp2_with fail
        go_region_held3 (fun W' => W'.cell? (a.add i) = some (.int .i32 x) ∧ W'.cell? (b.add i) = some (.int .i32 y))
          (first | exact ⟨d1, d2⟩ | exact ⟨(O.out.1.cell (p := a.add i) haM).trans Hca.out.1, (O.out.1.cell (p := b.add i) hbM).trans Hca.out.2⟩)
          (first | (go_simp; go_at_call 26; refine (HJy.out _).mono ?_; rintro e4 w4 ⟨rfl, b4⟩; have O := Lib.hid (O.out.on b4); clear b4))
        go_wp2_with fail
        go_roundw
        case rel => exact ⟨i + 1, _, rfl, by first | rfl | go_num, by omega, O⟩
        case measure => simp [RowKit.intOf]; omega
    · obtain rfl : i = n := by omega
      have hnn2 : ¬ (i : Int) < (i : Int) := by omega
      clear hin hge
      go_wp2_with fail
      refine (HN.out A i c xs _ (HR.out _ (HP.out _ HO.out.1).2) (by omega)).mono ?_
      rw [HXS.out.1]
      rintro _ W6 ⟨Q6, A6, c6, hQ6, rfl, o6, b6⟩
      rw [hnq] at o6 ⊢
      have HO6 := Lib.hid (HO.out.on b6)
      have HR6 := Lib.hid (show ∀ W, Below W6.heap.size W6 W → RdJ W A6 nq q from fun W h => (RdJ.own o6).below h)
      clear o6 b6 hQ6 HO
      go_wp2_with fail
      refine (HS.out A6 nq c6 q _ (HR6.out _ (Below.refl _ _)) (by omega)).mono ?_
      rintro _ W7 ⟨Q7, A7, c7, hQ7, rfl, o7, b7⟩
      rw [HSQ.out.2] at o7 ⊢
      have HO7 := Lib.hid (show OnJ M W2 W7 ∧ Below W6.heap.size W6 W7 from ⟨HO6.out.on b7, b7⟩)
      have HR7 := Lib.hid (RdJ.own o7)
      clear o7 b7 hQ7
      go_wp2_with fail
      refine (HN.out A7 nq c7 _ _ HR7.out (by omega)).mono ?_
      rw [HSQ.out.1]
      rintro _ W8 ⟨Q8, A8, c8, hQ8, rfl, o8, b8⟩
      rw [hnq] at o8 ⊢
      have HO8 := Lib.hid (show OnJ M W2 W8 ∧ RdJ W8 A8 nq q ∧ RdJ W8 A6 nq q from ⟨HO7.out.1.on b8, RdJ.own o8, HR6.out _ (HO7.out.2.trans (b8.mono HO7.out.2.size))⟩)
      clear o8 b8 hQ8 HO7 HR7 HR6 HO6
      go_wp2_with fail
      refine (same_yes32 A8 A6 nq c8 c6 q W8 HO8.out.2.1 HO8.out.2.2 (by omega)).mono ?_
      rintro _ W9 ⟨rfl, b9⟩
      have HE := Lib.hid ((HP.out _ (HO8.out.1.on b9).1).2)
      clear b9 HO8
      go_wp2_with fail
      go_ret
      exact ⟨rfl, HE.out.1⟩
end Go.Proofs.Ytjecbchnckknkaa
