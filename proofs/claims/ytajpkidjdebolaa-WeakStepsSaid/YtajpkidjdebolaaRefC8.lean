/- Layer 8, the document: marks, separators. (Made by tools/mkrefc8.py.) -/
import Derived.Test.YtajpkidjdebolaaRefB8
import Derived.Deep.QuietTactic
import Derived.BigQuiet
set_option linter.unusedSimpArgs false
set_option linter.unusedVariables false
namespace Go.Proofs.Ytajpkidjdebolaa
open Go.RowKit Go.Lib

theorem fin1_iso : ∀ (p : List Int) (s : Int), isoZ s = false → isoZ (fin f1 s p) = false
  | [], _, h => h
  | k :: t, s, h => by
    show isoZ (fin f1 (f1 s k).2 t) = false
    refine fin1_iso t _ ?_
    unfold f1
    split
    · exact h
    · show isoZ (if isoZ k = true then 13 else k) = false
      split
      · rfl
      · simpa using ‹¬ isoZ k = true›
/-- what stands ahead says what a mark becomes -/
theorem marks_last {p : List Int} {s : Int} (hs : isoZ s = false) (hp : p ≠ []) : ∃ o y, tr f1 s p = o ++ [y] ∧ fin f1 s p = if isoZ y = true then 13 else y := by
  rcases List.eq_nil_or_concat p with rfl | ⟨q, x, rfl⟩
  · exact absurd rfl hp
  · rw [List.concat_eq_append]
    refine ⟨tr f1 s q, (f1 (fin f1 s q) x).1, tr_snoc f1 s q x, ?_⟩
    rw [fin_snoc]
    have hi := fin1_iso q s hs
    by_cases e : x = 8
    · simp [f1, e, hi]
    · simp [f1, e]
theorem side_iso (s : Int) : isoZ (sideZ s) = false := by rcases sideZ_two s with e | e <;> rw [e] <;> rfl
set_option maxRecDepth 100000 in
set_option maxHeartbeats 2000000 in
theorem rmarks_any (B : Nat) (A : Option Addr) (n c : Nat) (s : Int) (xs : List Int) (w : World) (h : w.ownsRow B 23 1 (.slice A n c) n (i8s xs)) :
    Calls Try.prog 24 #[.slice A n c, .int .i8 s] w (RuleAt B A n c (tr f1 (sideZ s) xs) w) := by
  have hxl : xs.length = n := by have := h.1; simpa using this
  have HB := Lib.hid (fun w => begins_any s w)
  have Hiso := Lib.hid (side_iso s)
  obtain ⟨s', hs'⟩ : ∃ s', sideZ s = s' := ⟨_, rfl⟩
  rw [hs'] at HB Hiso ⊢
  clear hs'
  go_enter Try.func24, Try.ntmps24
  go_wp2_with fail
  go_loopw [4] (fun y wr => ∃ (p t : List Int) (W : World), W = wr ∧ xs = p ++ t ∧ y = .int .i64 (p.length : Int) ∧ W.ownsRow B 23 1 (.slice A n c) n (i8s (tr f1 s' p ++ t)) ∧ w.grownBy W (Value.ownBlock (.slice A n c))) (fun y _ => n - (RowKit.intOf y).toNat)
  case atStart => exact ⟨[], xs, _, rfl, rfl, rfl, h, World.grownBy.refl _ _⟩
  case round =>
    obtain ⟨p, t, W, hW, hx, rfl, hown, hgr⟩ := hrel
    subst hW
    rcases t with _ | ⟨k, t⟩
    · have hpl : p.length = n := by rw [← hxl, hx]; simp
      rw [List.append_nil] at hx hown
      subst hx
      rw [hpl]
      have hnn : ¬ (n : Int) < (n : Int) := by omega
      go_wp2_with fail
      go_end0
      exact ⟨rfl, hown, hgr⟩
    · obtain ⟨g, hA, hin, hnc, hcm, hcell, hfz, hset⟩ := row_at hown
      rw [tr_len] at hin hcell hfz hset
      have hnext := i64_next hin hnc hcm
      have hini : (p.length : Int) < (n : Int) := by omega
      have Hout : ∀ v, (f1 (fin f1 s' p) k).1 = v → Hid (∀ W', W'.ownsRow B 23 1 (.slice A n c) n (i8s (tr f1 s' p ++ v :: t)) → w.grownBy W' (Value.ownBlock (.slice A n c)) → 
          xs = (p ++ [k]) ++ t ∧ W'.ownsRow B 23 1 (.slice A n c) n (i8s (tr f1 s' (p ++ [k]) ++ t)) ∧ w.grownBy W' (Value.ownBlock (.slice A n c))) := fun v e => Lib.hid fun W' h1 h2 => by
        rw [tr_snoc, e]
        refine ⟨by rw [hx]; simp, ?_, h2⟩
        rw [List.append_assoc]
        exact h1
      have hset := fun v => And.intro (hset v).1 (hgr.trans (hset v).2)
      have hsnoc := snoc_len p k
      by_cases k8 : k = 8
      · subst k8
        have e1 : (f1 (fin f1 s' p) 8).1 = fin f1 s' p := by simp [f1]
        rw [e1] at Hout
        clear e1
        by_cases hp : p = []
        · subst hp
          have HO := Hout s' rfl
          have Hset := Lib.hid hset
          subst hA
          clear hset hown hgr hx Hout
          simp only [List.length_nil] at hin hcell hfz hnext hini ⊢
          go_wp2_with fail
          refine (HB.out _).mono ?_
          rintro _ w9 ⟨rfl, h9⟩
          obtain rfl := h9.symm
          go_wp2_with fail
          go_roundw
          case rel =>
            obtain ⟨a1, a3, a4⟩ := HO.out _ (Hset.out s').1 (Hset.out s').2
            exact ⟨[8], t, _, rfl, a1, by first | rfl | go_num, a3, a4⟩
          case measure => simp [RowKit.intOf]; omega
        · obtain ⟨o, y, ho, hy⟩ := marks_last Hiso.out hp
          have hol : o.length + 1 = p.length := by have := congrArg List.length ho; rw [tr_len] at this; simpa using this.symm
          have hown1 := hown
          rw [ho, List.append_assoc, List.singleton_append] at hown1
          obtain ⟨g1, hA1, hin1, _, _, hcell1, _, _⟩ := row_at hown1
          subst hA
          injection hA1 with hA1
          injection hA1 with hA1
          subst hA1
          rw [hy] at Hout
          have hp0 : ¬ p.length = 0 := by omega
          obtain ⟨j, hj⟩ : ∃ j, o.length = j := ⟨_, rfl⟩
          obtain ⟨q, hq⟩ : ∃ q, p ++ [(8 : Int)] = q := ⟨_, rfl⟩
          obtain ⟨i, hi⟩ : ∃ i, p.length = i := ⟨_, rfl⟩
          rw [hq, hi] at hsnoc
          rw [hq] at Hout
          rw [hi] at hin hcell hfz hset hnext hini hp0 hol ⊢
          rw [hj] at hin1 hcell1 hol
          have hi0 : ((i : Int) == 0) = false := by simp; omega
          have hwj : IntKind.i64.wrap ((i : Int) - 1) = (j : Int) := by rw [IntWalk.i64_in _ (by unfold maxLen at hcm; omega)]; omega
          have Hset := Lib.hid hset
          clear hset hown hown1 hgr hx hq hy ho hj hi hp hol
          by_cases y19 : y = 19
          · subst y19
            have HO := Hout 13 (by simp [isoZ])
            clear Hout
            go_wp2_with fail
            go_roundw
            case rel =>
              obtain ⟨a1, a3, a4⟩ := HO.out _ (Hset.out 13).1 (Hset.out 13).2
              exact ⟨q, t, _, rfl, a1, by rw [hsnoc], a3, a4⟩
            case measure => simp [RowKit.intOf]; omega
          · have b19 : (y == 19) = false := by simpa using y19
            by_cases y20 : y = 20
            · subst y20
              have HO := Hout 13 (by simp [isoZ])
              clear Hout
              go_wp2_with fail
              go_roundw
              case rel =>
                obtain ⟨a1, a3, a4⟩ := HO.out _ (Hset.out 13).1 (Hset.out 13).2
                exact ⟨q, t, _, rfl, a1, by rw [hsnoc], a3, a4⟩
              case measure => simp [RowKit.intOf]; omega
            · have b20 : (y == 20) = false := by simpa using y20
              by_cases y21 : y = 21
              · subst y21
                have HO := Hout 13 (by simp [isoZ])
                clear Hout
                go_wp2_with fail
                go_roundw
                case rel =>
                  obtain ⟨a1, a3, a4⟩ := HO.out _ (Hset.out 13).1 (Hset.out 13).2
                  exact ⟨q, t, _, rfl, a1, by rw [hsnoc], a3, a4⟩
                case measure => simp [RowKit.intOf]; omega
              · have b21 : (y == 21) = false := by simpa using y21
                by_cases y22 : y = 22
                · subst y22
                  have HO := Hout 13 (by simp [isoZ])
                  clear Hout
                  go_wp2_with fail
                  go_roundw
                  case rel =>
                    obtain ⟨a1, a3, a4⟩ := HO.out _ (Hset.out 13).1 (Hset.out 13).2
                    exact ⟨q, t, _, rfl, a1, by rw [hsnoc], a3, a4⟩
                  case measure => simp [RowKit.intOf]; omega
                · have b22 : (y == 22) = false := by simpa using y22
                  have HO := Hout y (by simp [isoZ, y19, y20, y21, y22])
                  clear Hout
                  go_wp2_with fail
                  go_roundw
                  case rel =>
                    obtain ⟨a1, a3, a4⟩ := HO.out _ (Hset.out y).1 (Hset.out y).2
                    exact ⟨q, t, _, rfl, a1, by rw [hsnoc], a3, a4⟩
                  case measure => simp [RowKit.intOf]; omega
      · have b8 : (k != 8) = true := by simpa using k8
        have HO := Hout k (by unfold f1; rw [if_neg k8])
        have Hkeep := Lib.hid (show _ ∧ _ from ⟨hown, hgr⟩)
        obtain ⟨q, hq⟩ : ∃ q, p ++ [k] = q := ⟨_, rfl⟩
        obtain ⟨i, hi⟩ : ∃ i, p.length = i := ⟨_, rfl⟩
        rw [hq, hi] at hsnoc
        rw [hq] at HO
        rw [hi] at hin hcell hfz hnext hini ⊢
        subst hA
        clear hset hown hgr hx hq hi Hout
        go_wp2_with fail
        go_roundw
        case rel =>
          obtain ⟨a1, a3, a4⟩ := HO.out _ Hkeep.out.1 Hkeep.out.2
          exact ⟨q, t, _, rfl, a1, by rw [hsnoc], a3, a4⟩
        case measure => simp [RowKit.intOf]; omega

set_option maxRecDepth 100000 in
set_option maxHeartbeats 2000000 in
theorem rseps_any (A : Option Addr) (n c : Nat) (p t : List Int) (k : Int) (w : World) (hrd : Rd w w.heap.size 1 A n (i8s (p ++ k :: t))) (hn : n ≤ 140737488355328) (i : Nat) (hi : p.length = i) :
    Calls Try.prog 27 #[.slice A n c, .int .i64 (i : Int)] w fun e w' => e = .returned (.int .i8 (sepV (lastD p) k t)) ∧ Below w.heap.size w w' := by
  have hl : (p ++ k :: t).length = n := by have := hrd.1; simpa using this
  rw [List.length_append, List.length_cons] at hl
  obtain ⟨a, hA, hin, hcell⟩ := rd_at hrd
  have hcellD : w.drew.cell? (a.add p.length) = some (.int .i8 k) := hcell
  have HBl := Lib.hid (show Below w.heap.size w w ∧ Below w.heap.size w w.drew from ⟨Below.refl _ _, below_DD (Below.refl _ _)⟩)
  obtain ⟨R, hR⟩ : ∃ R, sepV (lastD p) k t = R := ⟨_, rfl⟩
  rw [hR]
  have hini : (i : Int) < (n : Int) := by omega
  have hwn : IntKind.i64.wrap ((n : Int) - 1) = (n : Int) - 1 := IntWalk.i64_in _ (by omega)
  rcases List.eq_nil_or_concat p with rfl | ⟨q, y, rfl⟩
  · obtain rfl : k = R := by rw [← hR]; exact (sepV_none k t).symm
    obtain rfl : i = 0 := hi.symm
    subst hA
    have e0 : a.add 0 = a := by unfold Addr.add; rw [if_pos rfl]
    simp only [List.length_nil, e0] at hin hcell hcellD
    clear hrd hR hl
    go_enter Try.func27, Try.ntmps27
    go_wp2_with fail
    go_region
    go_wp2_with fail
    go_ret
    exact ⟨rfl, by first | exact HBl.out.2 | exact HBl.out.1⟩
  · rw [List.concat_eq_append] at *
    have hi0 : ((i : Int) == 0) = false := by simp at hi; simp; omega
    rw [hi] at hl
    rcases t with _ | ⟨nx, t⟩
    · obtain rfl : k = R := hR
      subst hA
      have hin1 : ((i : Int) == (n : Int) - 1) = true := by simp at hl; simp; omega
      rw [hi] at hcell hcellD hin
      clear hrd hl hi
      go_enter Try.func27, Try.ntmps27
      go_wp2_with fail
      go_region
      go_wp2_with fail
      go_ret
      exact ⟨rfl, by first | exact HBl.out.2 | exact HBl.out.1⟩
    · have hin1 : ((i : Int) == (n : Int) - 1) = false := by simp at hl; simp; omega
      rw [lastD_snoc] at hR
      have hR : sepK y k nx = R := hR
      have hr1 := hrd
      rw [List.append_assoc, List.singleton_append] at hr1
      obtain ⟨a1, hA1, hq1, hc1⟩ := rd_at hr1
      obtain ⟨a2, hA2, hq2, hc2⟩ := rd_at (p := q ++ [y] ++ [k]) (k := nx) (t := t) (by rw [List.append_assoc (q ++ [y])]; exact hrd)
      subst hA
      injection hA1 with hA1
      injection hA2 with hA2
      subst hA1 hA2
      rw [hi] at hcell hcellD hin
      obtain ⟨j, hj⟩ : ∃ j, q.length = j := ⟨_, rfl⟩
      have hij : i = j + 1 := by rw [← hi, ← hj]; simp
      have e2 : (q ++ [y] ++ [k]).length = i + 1 := by rw [← hi]; simp
      obtain ⟨m, hm⟩ : ∃ m, i + 1 = m := ⟨_, rfl⟩
      rw [e2, hm] at hc2 hq2
      rw [hj] at hc1 hq1
      have hc1D : w.drew.cell? (a.add j) = some (.int .i8 y) := hc1
      have hc2D : w.drew.cell? (a.add m) = some (.int .i8 nx) := hc2
      have hwj : IntKind.i64.wrap ((i : Int) - 1) = (j : Int) := by rw [IntWalk.i64_in _ (by omega)]; omega
      have hwm : IntKind.i64.wrap ((i : Int) + 1) = (m : Int) := by rw [IntWalk.i64_in _ (by omega)]; omega
      have hji : (j : Int) < (n : Int) := by omega
      have hmi : (m : Int) < (n : Int) := by omega
      clear hrd hr1 hl hi hj hij e2 hm
      by_cases hyn : y = nx
      · subst hyn
        have hne : (y != y) = false := by simp
        have HV := Lib.hid (fun v (e : sepK y k y = v) => show v = R from by rw [← e]; exact hR)
        clear hR
        have hy3 : y = 3 ∨ y = 6 ∨ ((y == 3) = false ∧ (y == 6) = false) := by simp; omega
        have hk4 : k = 4 ∨ k = 7 ∨ ((k == 4) = false ∧ (k == 7) = false) := by simp; omega
        rcases hy3 with rfl | rfl | ⟨y3, y6⟩
        · rcases hk4 with rfl | rfl | ⟨k4, k7⟩
          · obtain rfl := HV.out 3 (by simp [sepK, mayZ])
            go_enter Try.func27, Try.ntmps27
            go_wp2_with fail
            go_region
            go_wp2_with fail
            go_ret
            exact ⟨rfl, by first | exact HBl.out.2 | exact HBl.out.1⟩
          · obtain rfl := HV.out 3 (by simp [sepK, mayZ])
            go_enter Try.func27, Try.ntmps27
            go_wp2_with fail
            go_region
            go_wp2_with fail
            go_ret
            exact ⟨rfl, by first | exact HBl.out.2 | exact HBl.out.1⟩
          · obtain rfl := HV.out k (by simp [sepK, mayZ, k4, k7])
            go_enter Try.func27, Try.ntmps27
            go_wp2_with fail
            go_region
            go_wp2_with fail
            go_ret
            exact ⟨rfl, by first | exact HBl.out.2 | exact HBl.out.1⟩
        · rcases hk4 with rfl | rfl | ⟨k4, k7⟩
          · obtain rfl := HV.out 4 (by simp [sepK, mayZ])
            go_enter Try.func27, Try.ntmps27
            go_wp2_with fail
            go_region
            go_wp2_with fail
            go_ret
            exact ⟨rfl, by first | exact HBl.out.2 | exact HBl.out.1⟩
          · obtain rfl := HV.out 6 (by simp [sepK, mayZ])
            go_enter Try.func27, Try.ntmps27
            go_wp2_with fail
            go_region
            go_wp2_with fail
            go_ret
            exact ⟨rfl, by first | exact HBl.out.2 | exact HBl.out.1⟩
          · obtain rfl := HV.out k (by simp [sepK, mayZ, k4, k7])
            go_enter Try.func27, Try.ntmps27
            go_wp2_with fail
            go_region
            go_wp2_with fail
            go_ret
            exact ⟨rfl, by first | exact HBl.out.2 | exact HBl.out.1⟩
        · obtain rfl := HV.out k (by simp [sepK, mayZ, y3, y6])
          go_enter Try.func27, Try.ntmps27
          go_wp2_with fail
          go_region
          go_wp2_with fail
          go_ret
          exact ⟨rfl, by first | exact HBl.out.2 | exact HBl.out.1⟩
      · have hne : (y != nx) = true := by simpa using hyn
        obtain rfl : k = R := by rw [← hR]; unfold sepK; rw [if_neg (fun e => hyn e.1)]
        clear hR
        go_enter Try.func27, Try.ntmps27
        go_wp2_with fail
        go_region
        go_wp2_with fail
        go_ret
        exact ⟨rfl, by first | exact HBl.out.2 | exact HBl.out.1⟩
end Go.Proofs.Ytajpkidjdebolaa
