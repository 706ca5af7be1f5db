/- Layer 11, the laws' helper plain, over the program's contracts. -/
import Derived.Test.YtjecbchnckknkaaLwDJ
set_option linter.unusedSimpArgs false
set_option linter.unusedVariables false
namespace Go.Proofs.Ytjecbchnckknkaa
open Go.RowKit Go.Lib

theorem plains_next (xs : List Int) (i : Nat) (r : Int) (h : xs[i]? = some r) : plainsJ (xs.take (i + 1)) = plainsJ (xs.take i) ++ plainJ r := by
  rw [List.take_add_one, h]
  simp [plainsJ]
theorem plains_le : ∀ xs : List Int, (plainsJ xs).length ≤ 2 * xs.length
  | [] => Nat.le_refl _
  | x :: xs => by
    have h := plains_le xs
    have h1 := plainJ_len x
    unfold plainsJ at h ⊢
    rw [List.flatMap_cons, List.length_append, List.length_cons]
    omega
/-- what holds between two runes -/
structure PnS (w : World) (Q : Nat) (xs : List Int) (i m c : Nat) (A : Option Addr) (W : World) : Prop where
  ml : (plainsJ (xs.take i)).length = m
  ow : W.ownsRow Q 21 1 (.slice A m c) m (i32j (plainsJ (xs.take i)))
  be : Below Q w W
set_option maxRecDepth 100000 in
set_option maxHeartbeats 4000000 in
theorem plains_anyJ {N : Nat} (H : JoinP N) (A : Option Addr) (n c : Nat) (xs : List Int) (w : World) (hr : RdJ w A n xs) (hn : n ≤ 2097152) :
    Calls Try.prog 25 #[.slice A n c] w (PlR w (plainsJ xs)) := by
  obtain ⟨i0, hi, hz0, hz1, hz2⟩ := info_parts i32_infoJ
  have hl := hr.len
  have HP := Lib.hid (fun r W => H.plain r W)
  obtain ⟨Q, hQ⟩ : ∃ Q, w.heap.size = Q := ⟨_, rfl⟩
  have Hr := Lib.hid (show ∀ W, Below Q w W → RdJ W A n xs from fun W hb => hr.below (by rw [hQ]; exact hb))
  have H0 := Lib.hid (show PnS w Q xs 0 0 0 none w from ⟨rfl, World.ownsRow_nil _ _ _ _, Below.refl _ _⟩)
  have HL := Lib.hid (show ∀ i, (plainsJ (xs.take i)).length ≤ 2 * n from fun i => by
    have h := plains_le (xs.take i)
    rw [List.length_take] at h
    omega)
  have HX := Lib.hid (show xs.take n = xs from List.take_of_length_le (by omega))
  have HQ := Lib.hid hQ
  clear hr hQ
  go_enter Try.func25, Try.ntmps25
  go_wp2_with fail
  go_loopw [3, 8] (fun y x wr => ∃ (i m c' : Nat) (A' : Option Addr) (W : World), W = wr ∧ y = .slice A' m c' ∧ x = .int .i64 (i : Int) ∧ i ≤ n ∧ Hid (PnS w Q xs i m c' A' W)) (fun _ x _ => n - (RowKit.intOf x).toNat)
  case atStart => exact ⟨0, 0, 0, none, _, rfl, rfl, rfl, Nat.zero_le _, H0⟩
  case round =>
    obtain ⟨i, m, c', A', W, hW, rfl, rfl, hin, HI⟩ := hrel
    subst hW
    rcases Nat.lt_or_ge i n with hlt | hge
    · obtain ⟨r, hri⟩ : ∃ r, xs[i]? = some r := ⟨_, List.getElem?_eq_getElem (by omega)⟩
      obtain ⟨ar, hA, _, _, hcr⟩ := (Hr.out W HI.out.be).at hri
      subst hA
      have hini : (i : Int) < (n : Int) := by omega
      have hnext : IntKind.i64.wrap ((i : Int) + 1) = (i : Int) + 1 := IntWalk.i64_in _ (by omega)
      have hs := plains_next xs i r hri
      have hln := HL.out (i + 1)
      rw [hs, List.length_append, HI.out.ml] at hln
      have hpl := plainJ_len r
      obtain ⟨p, hp⟩ : ∃ p, plainJ r = p := ⟨_, rfl⟩
      have HPr := Lib.hid (HP.out r)
      rw [hp] at HPr hs hln hpl
      obtain ⟨k, hk⟩ : ∃ k, p.length = k := ⟨_, rfl⟩
      rw [hk] at hln hpl
      have HT := Lib.hid (show i32j (plainsJ (xs.take i)) ++ i32j p = i32j (plainsJ (xs.take (i + 1))) ∧ (plainsJ (xs.take (i + 1))).length = m + k from ⟨by rw [hs]; simp [i32j], by rw [hs, List.length_append, HI.out.ml, hk]⟩)
      have hQW : Q ≤ W.heap.size := by have := HI.out.be.size; have := HQ.out; omega
      have HK := Lib.hid hk
      clear hri hs hp hk H0
      go_wp2_with fail
      refine (HPr.out _).mono ?_
      rintro _ w9 ⟨Q9, A9, c9, hQ9, rfl, o9, b9⟩
      rw [HK.out] at o9 ⊢
      obtain ⟨g9, cp9, hv9, _, _⟩ := o9.form (by omega)
      injection hv9 with hA9 _ hc9
      subst hA9 hc9
      obtain ⟨X, hX⟩ : ∃ X, i32j (plainsJ (xs.take i)) = X := ⟨_, rfl⟩
      have H9 := Lib.hid (show w9.ownsRow Q 21 1 (.slice A' m c') m X ∧ Below Q w w9 ∧ Q ≤ w9.heap.size ∧ RdJ w9 (some ⟨g9, 0, none⟩) k p from ⟨by rw [← hX]; exact own_below HI.out.ow b9, HI.out.be.trans (b9.mono hQW), by have := b9.size; omega, RdJ.own o9⟩)
      rw [hX] at HT
      clear b9 o9 HI hX hQ9
      go_wp2_with (at_builtin; refine wpList_append_rdJ rfl _ _ 22 rfl Q 21 i0 _ 1 4 Try.underlying22 hi hz0 hz1 hz2 rfl (by decide) _ _ _ rfl H9.out.1 _ _ _ _ rfl (fun e => by cases e) _ H9.out.2.2.2 (one_cellsJ p) ?c1 ?c2 ?c3 ?_)
      case c1 => unfold maxLen; omega
      case c2 => omega
      case c3 => exact H9.out.2.2.1
      intro v2 w2 o2 g2
      obtain ⟨A2, c2, hv2, _, _⟩ := own_shape o2
      subst hv2
      have HN := Lib.hid (show PnS w Q xs (i + 1) (m + k) c2 A2 w2 from ⟨HT.out.2, by rw [← HT.out.1]; exact o2, H9.out.2.1.grown g2 H9.out.2.2.1 (fun q hq => (H9.out.1.lt q hq).1)⟩)
      clear o2 g2 H9
      go_wp2_with fail
      go_roundw
      case rel => exact ⟨i + 1, m + k, c2, A2, _, rfl, rfl, by first | rfl | go_num, hlt, HN⟩
      case measure => simp [RowKit.intOf]; omega
    · obtain rfl : i = n := by omega
      have hnn : ¬ (i : Int) < (i : Int) := by omega
      have HR := Lib.hid (show PlR w (plainsJ xs) (.returned (.slice A' m c')) W from by
        have h := HI.out
        have h1 := h.ow
        have h2 := h.ml
        rw [HX.out] at h1 h2
        subst h2
        exact ⟨Q, A', c', by rw [HQ.out]; exact Nat.le_refl _, rfl, h1, by rw [HQ.out]; exact h.be⟩)
      clear hin hge HI
      go_wp2_with fail
      go_ret
      exact HR.out
end Go.Proofs.Ytjecbchnckknkaa
