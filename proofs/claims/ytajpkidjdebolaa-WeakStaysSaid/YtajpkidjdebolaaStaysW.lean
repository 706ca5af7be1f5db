/- Layer 8: stays, WeakStays walked. (Made by tools/mkstays8.py.) -/
import Derived.Test.YtajpkidjdebolaaByStepW
set_option linter.unusedSimpArgs false
set_option linter.unusedVariables false
namespace Go.Proofs.Ytajpkidjdebolaa
open Go.RowKit Go.Lib

set_option maxRecDepth 100000 in
theorem stays_any (k : Int) (w : World) : Calls Try.prog 18 #[.int .i8 k] w fun e w' => e = .returned (.bool (stayZ k)) ∧ w' = w := by
  by_cases k0 : k = 0
  · subst k0
    go_enter Try.func18, Try.ntmps18
    go_wp2
    go_ret
    exact ⟨rfl, rfl⟩
  · have b0 : (k == 0) = false := by simpa using k0
    by_cases k1 : k = 1
    · subst k1
      go_enter Try.func18, Try.ntmps18
      go_wp2
      go_ret
      exact ⟨rfl, rfl⟩
    · have b1 : (k == 1) = false := by simpa using k1
      by_cases k10 : k = 10
      · subst k10
        go_enter Try.func18, Try.ntmps18
        go_wp2
        go_ret
        exact ⟨rfl, rfl⟩
      · have b10 : (k == 10) = false := by simpa using k10
        by_cases k11 : k = 11
        · subst k11
          go_enter Try.func18, Try.ntmps18
          go_wp2
          go_ret
          exact ⟨rfl, rfl⟩
        · have b11 : (k == 11) = false := by simpa using k11
          by_cases k12 : k = 12
          · subst k12
            go_enter Try.func18, Try.ntmps18
            go_wp2
            go_ret
            exact ⟨rfl, rfl⟩
          · have b12 : (k == 12) = false := by simpa using k12
            by_cases k13 : k = 13
            · subst k13
              go_enter Try.func18, Try.ntmps18
              go_wp2
              go_ret
              exact ⟨rfl, rfl⟩
            · have b13 : (k == 13) = false := by simpa using k13
              by_cases k9 : k = 9
              · subst k9
                go_enter Try.func18, Try.ntmps18
                go_wp2
                go_ret
                exact ⟨rfl, rfl⟩
              · have b9 : (k == 9) = false := by simpa using k9
                have e : stayZ k = (decide (14 ≤ k) && decide (k ≤ 22)) := by simp [stayZ, b0, b1, b10, b11, b12, b13, b9]
                by_cases h1 : 14 ≤ k
                · by_cases h2 : k ≤ 22
                  · have e : stayZ k = true := by rw [e]; simp [h1, h2]
                    rw [e]
                    go_enter Try.func18, Try.ntmps18
                    go_wp2
                    go_ret
                    exact ⟨rfl, rfl⟩
                  · have e : stayZ k = false := by rw [e]; simp [h2]
                    rw [e]
                    go_enter Try.func18, Try.ntmps18
                    go_wp2
                    go_ret
                    exact ⟨rfl, rfl⟩
                · have e : stayZ k = false := by rw [e]; simp [h1]
                  rw [e]
                  go_enter Try.func18, Try.ntmps18
                  go_wp2
                  go_ret
                  exact ⟨rfl, rfl⟩
/-- at a place: the one, the other -/
theorem cell_at {W : World} {A : Option Addr} {n : Nat} {R p' t' : List Int} {k : Int} {i : Nat} (h : RdK W A n R) (e : R = p' ++ k :: t') (hl : p'.length = i) : ∃ a, A = some a ∧ W.cell? (a.add i) = some (.int .i8 k) := by
  have h' := h
  rw [e] at h'
  obtain ⟨a, hA, _, hc⟩ := rd_at h'
  rw [hl] at hc
  exact ⟨a, hA, hc⟩
theorem any_at {W : World} {A : Option Addr} {n : Nat} {R : List Int} {i : Nat} (h : RdK W A n R) (hi : i < n) : ∃ a y, A = some a ∧ W.cell? (a.add i) = some (.int .i8 y) ∧ R[i]? = some y := by
  have hl := h.len
  obtain ⟨a, hA, _, hc⟩ := Rd.addr h (by omega)
  have e := List.getElem?_eq_getElem (show i < R.length by omega)
  exact ⟨a, _, hA, hc i _ (by rw [List.getElem?_map, e]; rfl), e⟩
theorem mid_at {p t : List Int} {k : Int} {i : Nat} (h : p.length = i) : (p ++ k :: t)[i]? = some k := by
  rw [← h, List.getElem?_append_right (Nat.le_refl _), Nat.sub_self]
  rfl
set_option maxRecDepth 100000 in
set_option maxHeartbeats 4000000 in
theorem stays_walk (m : Int) (A : Option Addr) (n c : Nat) (zs : List Int) (s : Int) (w : World) (hrd : Rd w w.heap.size 1 A n (i8s zs)) (hn : n ≤ 140737488355328) :
    Calls Try.prog 6 #[.int .i64 m, .slice A n c, .int .i8 s] w fun e w' => e = .returned (.bool true) ∧ Below w.heap.size w w' := by
  have hrd : RdK w A n zs := hrd
  have hzl := hrd.len
  have HW := Lib.hid works_any8
  have HR := Lib.hid (fun w (h : RdK w A n zs) => wresolve_any A n c s zs w h hn)
  have HS := Lib.hid (fun w (h : RdK w A n zs) => wstep_any m A n c s zs w h hn)
  have HSt := Lib.hid stays_any
  unfold NewAt at HR HS
  obtain ⟨R, hR⟩ : ∃ R, resZ s zs = R := ⟨_, rfl⟩
  obtain ⟨O, hO⟩ : ∃ O, oneZ m s zs = O := ⟨_, rfl⟩
  have HRe := Lib.hid hR
  have HOe := Lib.hid hO
  obtain ⟨Q, hQ⟩ : ∃ Q, w.heap.size = Q := ⟨_, rfl⟩
  rw [hQ]
  have H0 := Lib.hid (show Below Q w w ∧ Q ≤ w.heap.size from ⟨Below.refl Q w, by omega⟩)
  have Hz0 := Lib.hid hrd
  have hrange : (m < 1 ∧ m < 1) ∨ (¬ m < 1 ∧ 7 < m) ∨ (¬ m < 1 ∧ ¬ 7 < m) := by omega
  have Hrange := Lib.hid hrange
  clear hrd hQ hR hO hrange
  go_enter Try.func6, Try.ntmps6
  go_wp2_with fail
  refine (HW.out _).mono ?_
  rintro _ w1 ⟨rfl, b1⟩
  have H1 := Lib.hid (after_same H0.out b1)
  have Hz1 := Lib.hid (Hz0.out.below b1)
  clear b1
  go_wp2_with fail
  refine (HR.out _ Hz1.out).mono ?_
  rintro _ w2 ⟨A1, c1, rfl, o2, b2⟩
  rw [HRe.out] at o2
  have H2 := Lib.hid (show (Below Q w w2 ∧ Q ≤ w2.heap.size) ∧ RdK w2 A1 n R ∧ RdK w2 A n zs from ⟨after_same H1.out b2, RdK.own o2, Hz1.out.below b2⟩)
  clear o2 b2 H1 Hz1 H0 Hz0
  go_wp2_with fail
  refine (HS.out _ H2.out.2.2).mono ?_
  rintro _ w3 ⟨A3, c3, rfl, o3, b3⟩
  rw [HOe.out] at o3
  have H3 := Lib.hid (show (Below Q w w3 ∧ Q ≤ w3.heap.size) ∧ RdK w3 A1 n R ∧ RdK w3 A3 n O ∧ RdK w3 A n zs from ⟨after_same H2.out.1 b3, H2.out.2.1.below b3, RdK.own o3, H2.out.2.2.below b3⟩)
  clear o3 b3 H2
  go_wp2_with fail
  go_loopw [22] (fun x wr => wr = w3 ∧ ∃ (p t : List Int), Hid (zs = p ++ t) ∧ x = .int .i64 (p.length : Int)) (fun x _ => n - (RowKit.intOf x).toNat)
  case atStart => exact ⟨rfl, [], zs, Lib.hid rfl, rfl⟩
  case round =>
    obtain ⟨hw3, p, t, hx, rfl⟩ := hrel
    subst hw3
    have hlen := congrArg List.length hx.out
    rw [hzl, List.length_append] at hlen
    rcases t with _ | ⟨x, t⟩
    · have hpl : p.length = n := by simpa using hlen.symm
      rw [hpl]
      have hnn2 : ¬ (n : Int) < (n : Int) := by omega
      clear hlen hpl
      go_wp2_with fail
      go_ret
      exact ⟨rfl, H3.out.1.1⟩
    · have r0 := H3.out.2.2.2
      rw [hx.out] at r0
      obtain ⟨a, hA, hin, hc0⟩ := rd_at r0
      subst hA
      have hstay := res_stay (x := x)
      obtain ⟨a1, y1, hA1, hc1, hy1⟩ := any_at H3.out.2.1 hin
      obtain ⟨a3, y3, hA3, hc3, hy3⟩ := any_at H3.out.2.2.1 hin
      subst hA1 hA3
      have hs : (stayZ (cntZ x) = true ∧ y1 = cntZ x ∧ y3 = cntZ x) ∨ stayZ (cntZ x) = false := by
        cases hb : stayZ (cntZ x) with
        | false => exact .inr rfl
        | true =>
          refine .inl ⟨rfl, ?_, ?_⟩
          · obtain ⟨p', t', e, hl⟩ := res_stay hb s p t
            rw [← HRe.out, hx.out, e, mid_at hl] at hy1
            exact (Option.some.inj hy1).symm
          · obtain ⟨p', t', e, hl⟩ := one_stay hb m s p t
            rw [← HOe.out, hx.out, e, mid_at hl] at hy3
            exact (Option.some.inj hy3).symm
      have hoff : (m < 1 ∨ 7 < m) → y3 = cntZ x := fun h => by
        obtain ⟨p', t', e, hl⟩ := one_off h s p t x
        rw [← HOe.out, hx.out, e, mid_at hl] at hy3
        exact (Option.some.inj hy3).symm
      have hnext : IntKind.i64.wrap ((p.length : Int) + 1) = (p.length : Int) + 1 := IntWalk.i64_in _ (by omega)
      have hini : (p.length : Int) < (n : Int) := by omega
      have hsnoc := snoc_len p x
      have Hx := Lib.hid (show zs = (p ++ [x]) ++ t by rw [hx.out]; simp)
      obtain ⟨q, hq⟩ : ∃ q, p ++ [x] = q := ⟨_, rfl⟩
      obtain ⟨i, hi⟩ : ∃ i, p.length = i := ⟨_, rfl⟩
      rw [hq, hi] at hsnoc
      rw [hq] at Hx
      rw [hi] at hin hc0 hc1 hc3 hnext hini ⊢
      have hrange := Hrange.out
      clear hx hlen hq hi r0 hy1 hy3 hstay
      obtain ⟨k, hk⟩ : ∃ k, cntZ x = k := ⟨_, rfl⟩
      rw [hk] at hs hoff
      have hk : (x < 0 ∧ k = 13) ∨ (¬ x < 0 ∧ 22 < x ∧ k = 13) ∨ (¬ x < 0 ∧ ¬ 22 < x ∧ k = x) := by
        rw [← hk]
        unfold cntZ
        by_cases h0 : x < 0
        · exact .inl ⟨h0, by rw [if_pos (.inl h0)]⟩
        · by_cases h2 : 22 < x
          · exact .inr (.inl ⟨h0, h2, by rw [if_pos (.inr h2)]⟩)
          · exact .inr (.inr ⟨h0, h2, by rw [if_neg (by omega)]⟩)
      rcases hk with ⟨h0, rfl⟩ | ⟨h0, h2, rfl⟩ | ⟨h0, h2, rfl⟩
      · have hs : stayZ 13 = true ∧ y1 = 13 ∧ y3 = 13 := by
          rcases hs with h | h
          · exact h
          · cases h
        obtain ⟨hst, e1, e3⟩ := hs
        rw [e1] at hc1
        rw [e3] at hc3
        have hkk : ((13 : Int) != 13) = false := by simp
        clear hoff e1 e3
        rcases hrange with ⟨r1, r2⟩ | ⟨r1, r2⟩ | ⟨r1, r2⟩
        · go_wp2_with fail
          refine (HSt.out _ _).mono ?_
          rintro _ w9 ⟨rfl, h9⟩
          obtain rfl := h9.symm
          rw [hst]
          go_wp2_with fail
          go_roundw
          case rel => exact ⟨trivial, q, t, Hx, by rw [hsnoc]⟩
          case measure => simp [RowKit.intOf]; omega
        · go_wp2_with fail
          refine (HSt.out _ _).mono ?_
          rintro _ w9 ⟨rfl, h9⟩
          obtain rfl := h9.symm
          rw [hst]
          go_wp2_with fail
          go_roundw
          case rel => exact ⟨trivial, q, t, Hx, by rw [hsnoc]⟩
          case measure => simp [RowKit.intOf]; omega
        · go_wp2_with fail
          refine (HSt.out _ _).mono ?_
          rintro _ w9 ⟨rfl, h9⟩
          obtain rfl := h9.symm
          rw [hst]
          go_wp2_with fail
          go_roundw
          case rel => exact ⟨trivial, q, t, Hx, by rw [hsnoc]⟩
          case measure => simp [RowKit.intOf]; omega
      · have hs : stayZ 13 = true ∧ y1 = 13 ∧ y3 = 13 := by
          rcases hs with h | h
          · exact h
          · cases h
        obtain ⟨hst, e1, e3⟩ := hs
        rw [e1] at hc1
        rw [e3] at hc3
        have hkk : ((13 : Int) != 13) = false := by simp
        clear hoff e1 e3
        rcases hrange with ⟨r1, r2⟩ | ⟨r1, r2⟩ | ⟨r1, r2⟩
        · go_wp2_with fail
          refine (HSt.out _ _).mono ?_
          rintro _ w9 ⟨rfl, h9⟩
          obtain rfl := h9.symm
          rw [hst]
          go_wp2_with fail
          go_roundw
          case rel => exact ⟨trivial, q, t, Hx, by rw [hsnoc]⟩
          case measure => simp [RowKit.intOf]; omega
        · go_wp2_with fail
          refine (HSt.out _ _).mono ?_
          rintro _ w9 ⟨rfl, h9⟩
          obtain rfl := h9.symm
          rw [hst]
          go_wp2_with fail
          go_roundw
          case rel => exact ⟨trivial, q, t, Hx, by rw [hsnoc]⟩
          case measure => simp [RowKit.intOf]; omega
        · go_wp2_with fail
          refine (HSt.out _ _).mono ?_
          rintro _ w9 ⟨rfl, h9⟩
          obtain rfl := h9.symm
          rw [hst]
          go_wp2_with fail
          go_roundw
          case rel => exact ⟨trivial, q, t, Hx, by rw [hsnoc]⟩
          case measure => simp [RowKit.intOf]; omega
      · rcases hs with hs | hst
        · obtain ⟨hst, e1, e3⟩ := hs
          rw [e1] at hc1
          rw [e3] at hc3
          have hkk : ((k : Int) != k) = false := by simp
          clear hoff e1 e3
          rcases hrange with ⟨r1, r2⟩ | ⟨r1, r2⟩ | ⟨r1, r2⟩
          · go_wp2_with fail
            refine (HSt.out _ _).mono ?_
            rintro _ w9 ⟨rfl, h9⟩
            obtain rfl := h9.symm
            rw [hst]
            go_wp2_with fail
            go_roundw
            case rel => exact ⟨trivial, q, t, Hx, by rw [hsnoc]⟩
            case measure => simp [RowKit.intOf]; omega
          · go_wp2_with fail
            refine (HSt.out _ _).mono ?_
            rintro _ w9 ⟨rfl, h9⟩
            obtain rfl := h9.symm
            rw [hst]
            go_wp2_with fail
            go_roundw
            case rel => exact ⟨trivial, q, t, Hx, by rw [hsnoc]⟩
            case measure => simp [RowKit.intOf]; omega
          · go_wp2_with fail
            refine (HSt.out _ _).mono ?_
            rintro _ w9 ⟨rfl, h9⟩
            obtain rfl := h9.symm
            rw [hst]
            go_wp2_with fail
            go_roundw
            case rel => exact ⟨trivial, q, t, Hx, by rw [hsnoc]⟩
            case measure => simp [RowKit.intOf]; omega
        · have hkk : ((k : Int) != k) = false := by simp
          rcases hrange with ⟨r1, r2⟩ | ⟨r1, r2⟩ | ⟨r1, r2⟩
          · obtain rfl := hoff (.inl r1)
            clear hoff
            go_wp2_with fail
            refine (HSt.out _ _).mono ?_
            rintro _ w9 ⟨rfl, h9⟩
            obtain rfl := h9.symm
            rw [hst]
            go_wp2_with fail
            go_roundw
            case rel => exact ⟨trivial, q, t, Hx, by rw [hsnoc]⟩
            case measure => simp [RowKit.intOf]; omega
          · obtain rfl := hoff (.inr r2)
            clear hoff
            go_wp2_with fail
            refine (HSt.out _ _).mono ?_
            rintro _ w9 ⟨rfl, h9⟩
            obtain rfl := h9.symm
            rw [hst]
            go_wp2_with fail
            go_roundw
            case rel => exact ⟨trivial, q, t, Hx, by rw [hsnoc]⟩
            case measure => simp [RowKit.intOf]; omega
          · clear hoff
            go_wp2_with fail
            refine (HSt.out _ _).mono ?_
            rintro _ w9 ⟨rfl, h9⟩
            obtain rfl := h9.symm
            rw [hst]
            go_wp2_with fail
            go_roundw
            case rel => exact ⟨trivial, q, t, Hx, by rw [hsnoc]⟩
            case measure => simp [RowKit.intOf]; omega
end Go.Proofs.Ytajpkidjdebolaa
