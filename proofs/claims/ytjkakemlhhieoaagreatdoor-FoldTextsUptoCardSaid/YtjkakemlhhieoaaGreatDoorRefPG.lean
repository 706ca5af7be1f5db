/- The document's Pair, walked. -/
import Derived.Test.YtjkakemlhhieoaaGreatDoorRefNG
import Derived.Test.YtjkakemlhhieoaaGreatDoorRunesR
import Derived.Test.YtjkakemlhhieoaaGreatDoorSame4
set_option linter.unusedSimpArgs false
set_option linter.unusedVariables false
namespace Go.Proofs.YtjkakemlhhieoaaGreatDoor
open Go.RowKit Go.Lib

theorem rows_short : (rowsB.all fun x => decide (x.2.length ≤ 400)) = true := by decide +kernel
theorem rows_vals : (rowsL.all fun x => decide (x.2.length ≤ 200) && x.2.all fun z => decide (0 < z ∧ z ≤ 70000)) = true := by decide +kernel
theorem rowB_short (b : Int) : (rowB b).length ≤ 400 := by
  by_cases c : rowB b = []
  · rw [c]; simp
  · obtain ⟨x, hx, _, e⟩ := lookR_mem c
    unfold rowB
    rw [e]
    exact of_decide_eq_true (List.all_eq_true.1 rows_short x hx)
theorem rowL_facts (b : Int) : (rowL b).length ≤ 200 ∧ ∀ z ∈ rowL b, 0 < z ∧ z ≤ 70000 := by
  by_cases c : rowL b = []
  · rw [c]; exact ⟨by simp, fun _ h => by cases h⟩
  · obtain ⟨x, hx, _, e⟩ := lookR_mem c
    have h := Bool.and_eq_true_iff.1 (List.all_eq_true.1 rows_vals x hx)
    unfold rowL
    rw [e]
    exact ⟨of_decide_eq_true h.1, fun z hz => of_decide_eq_true (List.all_eq_true.1 h.2 z hz)⟩
theorem rowRunes_any (b : Int) (w : World) : Calls Tryz.prog 107 #[.string ⟨(rowB b).toArray⟩] w fun e w' =>
    ∃ v, e = .returned v ∧ w'.ownsRow w.heap.size 21 1 v (rowL b).length (runes (rowL b)) ∧ Below w.heap.size w w' := by
  have h1 := rowB_short b
  have h := refRunes_any ⟨(rowB b).toArray⟩ w (by rw [← size_list]; simp; omega)
  have e : runeCells' (runesOf (rowB b)) = runes (rowL b) := by rw [← row_runes]; simp [runeCells', runes, zs4]
  have e2 : (runesOf (rowB b)).length = (rowL b).length := by rw [← row_runes]; simp [zs4]
  rw [show (ByteArray.mk (rowB b).toArray).data.toList = rowB b from rfl, e, e2] at h
  exact h
theorem drop_two {l : List Int} {k : Nat} (h : k + 1 < l.length) : ∃ x y, l[k]? = some x ∧ l[k + 1]? = some y ∧ l.drop k = x :: y :: l.drop (k + 2) := by
  refine ⟨l[k], l[k + 1], List.getElem?_eq_getElem _, List.getElem?_eq_getElem _, ?_⟩
  rw [List.drop_eq_getElem_cons (by omega), List.drop_eq_getElem_cons h]
theorem drop_one {l : List Int} {k : Nat} (h : ¬ k + 1 < l.length) : l.drop k = [] ∨ ∃ x, l.drop k = [x] := by
  rcases Nat.lt_or_ge k l.length with h1 | h1
  · right
    refine ⟨l[k], ?_⟩
    rw [List.drop_eq_getElem_cons h1, List.drop_of_length_le (by omega)]
  · left
    exact List.drop_of_length_le h1
theorem orZ_zero (b : Int) : orZ 0 b = b := rfl
theorem orZ_some {a : Int} (b : Int) (h : a ≠ 0) : orZ a b = a := if_neg h

theorem Rd_cell4 {w : World} {B n : Nat} {A : Option Addr} {xs : List Int} (h : Rd w B 1 A n (runes xs)) {k : Nat} {x : Int} (hx : xs[k]? = some x) : ∃ a, A = some a ∧ a.block < B ∧ w.cell? (a.add k) = some (.int .i32 x) := by
  have hk : k < (runes xs).length := by simpa using (List.getElem?_eq_some_iff.1 hx).1
  obtain ⟨a, ha, hb, hc⟩ := h.at_ hk
  refine ⟨a, ha, hb, ?_⟩
  rw [hc]
  have := (List.getElem?_eq_some_iff.1 hx).2
  simp [this]

end Go.Proofs.YtjkakemlhhieoaaGreatDoor

/- The document's first and Split, walked. -/
namespace Go.Proofs.YtjkakemlhhieoaaGreatDoor
open Go.RowKit Go.Lib

def firstV (o : Option (Int × Int)) : Value := match o with
  | some p => .tuple #[.int .i32 p.1, .int .i32 p.2, .bool true]
  | none => .tuple #[.int .i32 0, .int .i32 0, .bool false]
theorem findOdd_two (c x y : Int) (t : List Int) : findOdd c (x :: y :: t) = if y = c then some x else findOdd c t := rfl
theorem rows_at : ((List.range 13).all fun i => decide (rowsL[i]? = some (marks13.getD i 0, rowL (marks13.getD i 0)))) = true := by decide +kernel
theorem marks_in : ((List.range 13).all fun i => decide (700 ≤ marks13.getD i 0 ∧ marks13.getD i 0 ≤ 900)) = true := by decide +kernel
theorem drop_row {i : Nat} (h : i < 13) : rowsL.drop i = (marks13.getD i 0, rowL (marks13.getD i 0)) :: rowsL.drop (i + 1) := by
  have h1 := of_decide_eq_true (List.all_eq_true.1 rows_at i (List.mem_range.2 h))
  obtain ⟨h2, h3⟩ := List.getElem?_eq_some_iff.1 h1
  rw [List.drop_eq_getElem_cons h2, h3]

set_option maxRecDepth 100000 in
set_option maxHeartbeats 4000000 in
theorem rfirst_syll (c : Int) (w : World) (h1 : 44032 ≤ c) (h2 : c ≤ 55203) : Calls Tryz.prog 93 #[.int .i32 c] w fun e w' => e = .returned (.tuple #[.int .i32 (sylZ c).1, .int .i32 (sylZ c).2, .bool true]) ∧ w' = w := by
  have w1 : IntKind.i32.wrap (c - 44032) = c - 44032 := IntWalk.i32_in _ (by omega)
  have hm := Int.tmod_lt_of_pos (c - 44032) (show (0 : Int) < 28 by decide)
  have hm0 := Int.tmod_nonneg (28 : Int) (show (0 : Int) ≤ c - 44032 by omega)
  have hd0 := Int.tdiv_nonneg (show (0 : Int) ≤ c - 44032 by omega) (show (0 : Int) ≤ 28 by decide)
  have hd1 : (c - 44032).tdiv 28 < 399 := by rw [Int.tdiv_eq_ediv_of_nonneg (by omega)]; omega
  unfold sylZ
  obtain ⟨m, hmm⟩ : ∃ m, (c - 44032).tmod 28 = m := ⟨_, rfl⟩
  obtain ⟨d, hdd⟩ : ∃ d, (c - 44032).tdiv 28 = d := ⟨_, rfl⟩
  rw [hmm] at hm hm0 ⊢
  rw [hdd] at hd0 hd1 ⊢
  have w2 : IntKind.i32.wrap (c - m) = c - m := IntWalk.i32_in _ (by omega)
  have w3 : IntKind.i32.wrap (4519 + m) = 4519 + m := IntWalk.i32_in _ (by omega)
  have hq0 := Int.tdiv_nonneg hd0 (show (0 : Int) ≤ 21 by decide)
  have hq1 : d.tdiv 21 < 20 := by rw [Int.tdiv_eq_ediv_of_nonneg hd0]; omega
  have hr0 := Int.tmod_nonneg (21 : Int) hd0
  have hr1 := Int.tmod_lt_of_pos d (show (0 : Int) < 21 by decide)
  have w4 : IntKind.i32.wrap d = d := IntWalk.i32_in _ (by omega)
  have w5 : IntKind.i32.wrap (d.tdiv 21) = d.tdiv 21 := IntWalk.i32_in _ (by omega)
  have w6 : IntKind.i32.wrap (4352 + d.tdiv 21) = 4352 + d.tdiv 21 := IntWalk.i32_in _ (by omega)
  have w7 : IntKind.i32.wrap (4449 + d.tmod 21) = 4449 + d.tmod 21 := IntWalk.i32_in _ (by omega)
  have w8 : IntKind.i32.wrap (d.tmod 21) = d.tmod 21 := IntWalk.i32_in _ (by omega)
  have w9 : IntKind.i32.wrap m = m := IntWalk.i32_in _ (by omega)
  go_enter Tryz.func93, Tryz.ntmps93
  by_cases h0 : m = 0
  · rw [if_neg (fun h => h h0)]
    have hm2 : ¬ (0 : Int) < m := by omega
    go_wp2
    go_ret3
    exact ⟨by first | rfl | (rw [Int.tmod_eq_emod_of_nonneg hd0]; rfl), rfl⟩
  · rw [if_pos h0]
    have hm2 : (0 : Int) < m := by omega
    go_wp2
    go_ret3
    exact ⟨rfl, rfl⟩

set_option maxRecDepth 100000 in
set_option maxHeartbeats 8000000 in
theorem rfirst_rest (c : Int) (w : World) (h0 : 128 ≤ c) (hm : c ≤ 2147483647) (h1 : ¬ (44032 ≤ c ∧ c ≤ 55203)) : Calls Tryz.prog 93 #[.int .i32 c] w fun e w' => e = .returned (firstV (firstR c)) ∧ Below w.heap.size w w' := by
  have HK1 := Lib.hid (fun w => rkana_any (c - 1) 12441 w)
  have HK2 := Lib.hid (fun w => rkana_any (c - 2) 12442 w)
  have HM := Lib.hid (fun w => marks_any4 w)
  have HRo := Lib.hid (fun b w => row_any b w)
  have HRu := Lib.hid (fun b w => rowRunes_any b w)
  have w1 : IntKind.i32.wrap (c - 1) = c - 1 := IntWalk.i32_in _ (by omega)
  have w2 : IntKind.i32.wrap (c - 2) = c - 2 := IntWalk.i32_in _ (by omega)
  have hR1 : kanaR (c - 1) 12441 = c → firstR c = some (c - 1, 12441) := fun h => by unfold firstR; rw [if_neg h1, if_pos h]
  have hR2 : ¬ kanaR (c - 1) 12441 = c → kanaR (c - 2) 12442 = c → firstR c = some (c - 2, 12442) := fun h h' => by unfold firstR; rw [if_neg h1, if_neg h, if_pos h']
  have hR3 : ¬ kanaR (c - 1) 12441 = c → ¬ kanaR (c - 2) 12442 = c → firstR c = rowsFirst c rowsL := fun h h' => by unfold firstR; rw [if_neg h1, if_neg h, if_neg h']
  obtain ⟨k1, hk1⟩ : ∃ k, kanaR (c - 1) 12441 = k := ⟨_, rfl⟩
  obtain ⟨k2, hk2⟩ : ∃ k, kanaR (c - 2) 12442 = k := ⟨_, rfl⟩
  obtain ⟨R, hR⟩ : ∃ R, firstR c = R := ⟨_, rfl⟩
  rw [hk1] at HK1 hR1 hR2 hR3
  rw [hk2] at HK2 hR2 hR3
  rw [hR] at hR1 hR2 hR3 ⊢
  have HR1 := Lib.hid hR1
  have HR2 := Lib.hid hR2
  have HR3 := Lib.hid hR3
  have Hb0 := Lib.hid (Below.refl w.heap.size w)
  have g1 : 44032 ≤ c → ¬ c ≤ 55203 := fun h h' => h1 ⟨h, h'⟩
  obtain ⟨V, hV⟩ : ∃ V, firstV R = V := ⟨_, rfl⟩
  rw [hV]
  have HV := Lib.hid hV
  clear hk1 hk2 hR hR1 hR2 hR3 h1 hV
  go_enter Tryz.func93, Tryz.ntmps93
  by_cases hc : 44032 ≤ c
  case' pos =>
    have hc2 := g1 hc
    clear g1
    go_wp2_with fail
  case' neg =>
    clear g1
    go_wp2_with fail
  all_goals
    go_loopw [7, 8] (fun i _ wr => ∃ j : Int, 1 ≤ j ∧ j ≤ 3 ∧ i = .int .i32 j ∧ Below w.heap.size w wr ∧ Hid ((2 ≤ j → ¬ k1 = c) ∧ (3 ≤ j → ¬ k2 = c))) (fun i _ _ => 4 - (RowKit.intOf i).toNat)
    case atStart => exact ⟨1, by omega, by omega, rfl, Hb0.out, by unfold Hid; exact ⟨fun h => by omega, fun h => by omega⟩⟩
    case round =>
      obtain ⟨j, hj1, hj3, rfl, hbw, hno⟩ := hrel
      have Hbw := Lib.hid hbw
      clear hbw
      have hjj : j = 1 ∨ j = 2 ∨ j = 3 := by omega
      rcases hjj with rfl | rfl | rfl
      · clear hj1 hj3
        go_wp2_with fail
        refine (HK1.out _).mono ?_
        rintro _ wa ⟨rfl, ba⟩
        have Hba := Lib.hid (Hbw.out.trans (ba.mono Hbw.out.size))
        clear ba
        by_cases e : k1 = c
        · have eb : (k1 == c) = true := by simpa using e
          have HE := Lib.hid (HR1.out e)
          clear e hno
          go_wp2_with fail
          go_ret3
          exact ⟨by rw [← HV.out, HE.out]; rfl, Hba.out⟩
        · have eb : (k1 == c) = false := by simpa using e
          have HE := Lib.hid e
          clear e hno
          go_wp2_with fail
          go_roundw
          case rel => exact ⟨2, by omega, by omega, by go_num, Hba.out, by unfold Hid; exact ⟨fun _ => HE.out, fun h => by omega⟩⟩
          case measure => simp [RowKit.intOf]
      · clear hj1 hj3
        go_wp2_with fail
        refine (HK2.out _).mono ?_
        rintro _ wa ⟨rfl, ba⟩
        have Hba := Lib.hid (Hbw.out.trans (ba.mono Hbw.out.size))
        have Hn1 := Lib.hid (hno.out.1 (by omega))
        clear ba hno
        by_cases e : k2 = c
        · have eb : (k2 == c) = true := by simpa using e
          have HE := Lib.hid (HR2.out Hn1.out e)
          clear e
          go_wp2_with fail
          go_ret3
          exact ⟨by rw [← HV.out, HE.out]; rfl, Hba.out⟩
        · have eb : (k2 == c) = false := by simpa using e
          have HE := Lib.hid e
          clear e
          go_wp2_with fail
          go_roundw
          case rel => exact ⟨3, by omega, by omega, by go_num, Hba.out, by unfold Hid; exact ⟨fun _ => Hn1.out, fun _ => HE.out⟩⟩
          case measure => simp [RowKit.intOf]
      · have HE := Lib.hid (HR3.out (hno.out.1 (by omega)) (hno.out.2 (by omega)))
        clear hj1 hj3 hno
        go_wp2_with fail
        refine (HM.out _).mono ?_
        rintro _ wm ⟨g, rfl, hg, hcm, bm⟩
        have Hbm := Lib.hid (Hbw.out.trans (bm.mono Hbw.out.size))
        have HC := Lib.hid hcm
        clear bm hcm
        go_wp2_with fail
        go_loopw [10, 11, 12] (fun i _ _ wr => ∃ q : Nat, q ≤ 13 ∧ i = .int .i64 q ∧ Below wm.heap.size wm wr ∧ Hid (rowsFirst c (rowsL.drop q) = R)) (fun i _ _ _ => 13 - (RowKit.intOf i).toNat)
        case atStart => exact ⟨0, by omega, rfl, Below.refl _ _, by unfold Hid; rw [HE.out]; rfl⟩
        case round =>
          obtain ⟨q, hq, rfl, hbq, hrun⟩ := hrel
          have Hbq := Lib.hid hbq
          clear hbq
          by_cases hqn : q < 13
          · have hqi : (q : Int) < 13 := by omega
            have hcell := (Hbq.out.cell (p := ⟨g, q, none⟩) hg).trans (HC.out q hqn)
            have hr := hrun.out
            rw [drop_row hqn] at hr
            have hrow := rowL_facts (marks13.getD q 0)
            obtain ⟨m, hm⟩ : ∃ m, marks13.getD q 0 = m := ⟨_, rfl⟩
            rw [hm] at hcell hr hrow
            obtain ⟨l, hl⟩ : ∃ l, rowL m = l := ⟨_, rfl⟩
            have HRom := Lib.hid (HRo.out m)
            have HRum := Lib.hid (HRu.out m)
            rw [hl] at HRum hr hrow
            obtain ⟨rb, hrb⟩ : ∃ r : ByteArray, ⟨(rowB m).toArray⟩ = r := ⟨_, rfl⟩
            simp only [hrb] at HRom HRum
            obtain ⟨n, hn⟩ : ∃ n, l.length = n := ⟨_, rfl⟩
            have hn1 := hrow.1
            rw [hn] at HRum hn1
            have Hr := Lib.hid hr
            have Hn := Lib.hid hn
            clear hr hrow hl hrb hm hn hrun
            go_wp2_with fail
            refine (HRom.out _).mono ?_
            rintro _ w3 ⟨rfl, e3⟩
            obtain rfl := e3.symm
            go_wp2_with fail
            refine (HRum.out _).mono ?_
            rintro _ w4 ⟨v4, rfl, own4, b4⟩
            obtain ⟨A4, c4, rfl, _, _⟩ := own_shape own4
            have R4 := Lib.hid (Rd.own own4)
            have Hb4 := Lib.hid (Hbq.out.trans (b4.mono Hbq.out.size))
            have hcell4 : w4.cell? ⟨g, q, none⟩ = some (.int .i32 m) := (b4.cell (p := ⟨g, q, none⟩) (Nat.lt_of_lt_of_le hg Hbq.out.size)).trans hcell
            clear own4 b4 hcell
            go_wp2_with fail
            go_loopw [12] (fun i wr => ∃ k : Nat, i = .int .i64 k ∧ wr = w4 ∧ k ≤ n + 1 ∧ Hid (findOdd c (l.drop k) = findOdd c l)) (fun i _ => n + 2 - (RowKit.intOf i).toNat)
            case atStart => exact ⟨0, rfl, rfl, by omega, by unfold Hid; rfl⟩
            case round =>
              obtain ⟨k, rfl, rfl, hk, hfo⟩ := hrel
              have wk : IntKind.i64.wrap ((k : Int) + 1) = (k : Int) + 1 := IntWalk.i64_in _ (by omega)
              by_cases hkn : k + 1 < n
              · have hki : (k : Int) + 1 < (n : Int) := by omega
                obtain ⟨x, y, hx, hy, hd⟩ := drop_two (l := l) (k := k) (by rw [Hn.out]; exact hkn)
                obtain ⟨a4, rfl, hab, hcx⟩ := Rd_cell4 R4.out hx
                obtain ⟨a5, e5, _, hcy⟩ := Rd_cell4 R4.out hy
                injection e5 with e5
                subst e5
                have hcy2 := hcy
                rw [show a4.add (k + 1) = ⟨a4.block, a4.off + (k + 1), none⟩ by simp [Addr.add]] at hcy2
                have hf := hfo.out
                rw [hd, findOdd_two] at hf
                have k1' : (k : Int) < (n : Int) := by omega
                have k2' : ((k : Int) + 1).toNat = k + 1 := by omega
                have k3' : (0 : Int) ≤ (k : Int) + 1 := by omega
                have wk2 : IntKind.i64.wrap ((k : Int) + 2) = (k : Int) + 2 := IntWalk.i64_in _ (by omega)
                clear hx hy hd hfo hab
                by_cases hyc : y = c
                · rw [if_pos hyc] at hf
                  have HRR : Hid (R = some (x, m)) := by
                    unfold Hid
                    rw [← Hr.out]
                    unfold rowsFirst
                    rw [← hf]
                  have hb : (y == c) = true := by simpa using hyc
                  clear hf hyc
                  go_wp2
                  go_quiet (fail)
                  go_wp2
                  go_ret3
                  exact ⟨by rw [← HV.out, HRR.out]; rfl, below_N (Hbm.out.trans (Hb4.out.mono Hbm.out.size)) _⟩
                · rw [if_neg hyc] at hf
                  have hb : (y == c) = false := by simpa using hyc
                  have Hf := Lib.hid hf
                  clear hf hyc
                  go_wp2
                  go_roundw
                  case rel => exact ⟨k + 2, by go_num, by first | trivial | rfl, by omega, Hf⟩
                  case measure => simp [RowKit.intOf]; omega
              · have hki : ¬ (k : Int) + 1 < (n : Int) := by omega
                have hf := hfo.out
                have e : findOdd c (l.drop k) = none := by
                  rcases drop_one (l := l) (k := k) (by rw [Hn.out]; exact hkn) with h | ⟨x, h⟩ <;> rw [h] <;> rfl
                rw [e] at hf
                have Hnx : Hid (rowsFirst c (rowsL.drop (q + 1)) = R) := by
                  unfold Hid
                  rw [← Hr.out]
                  conv => rhs; unfold rowsFirst
                  rw [← hf]
                clear hf e hfo
                go_wp2
                go_roundw
                case rel => exact ⟨q + 1, by omega, by go_num, Hb4.out, Hnx⟩
                case measure => simp [RowKit.intOf]; omega
          · obtain rfl : q = 13 := by omega
            have HRR : Hid (R = none) := by unfold Hid; rw [← hrun.out]; rfl
            clear hrun
            go_wp2_with fail
            go_ret3
            exact ⟨by rw [← HV.out, HRR.out]; rfl, Hbm.out.trans (Hbq.out.mono Hbm.out.size)⟩
theorem rfirst4_any (c : Int) (w : World) (h0 : 128 ≤ c) (hm : c ≤ 2147483647) : Calls Tryz.prog 93 #[.int .i32 c] w fun e w' => e = .returned (firstV (partsO c)) ∧ Below w.heap.size w w' := by
  rw [← firstR_eq c h0]
  by_cases h1 : 44032 ≤ c ∧ c ≤ 55203
  · have e : firstR c = some (sylZ c) := by unfold firstR; rw [if_pos h1]
    rw [e]
    refine (rfirst_syll c w h1.1 h1.2).mono ?_
    rintro e w' ⟨rfl, rfl⟩
    exact ⟨rfl, Below.refl _ _⟩
  · exact rfirst_rest c w h0 hm h1

theorem depB_step {f : Nat} {r : Int} (h : depB (f + 1) r = true) (h2 : (stepZ r).2 ≠ 0) : depB f (stepZ r).1 = true := by
  unfold depB at h
  rw [decide_eq_false h2, Bool.false_or] at h
  exact h
theorem splitF_zero {f : Nat} {r : Int} (h : (stepZ r).2 = 0) : splitF f r = [singleZ r] := by
  cases f with
  | zero => rfl
  | succ f => unfold splitF; rw [if_pos h]
theorem splitF_same : ∀ (f : Nat) (r : Int), depB f r = true → splitF (f + 1) r = splitF f r
  | 0, r, h => by
    have h0 : (stepZ r).2 = 0 := of_decide_eq_true h
    rw [splitF_zero h0, splitF_zero h0]
  | f + 1, r, h => by
    by_cases h0 : (stepZ r).2 = 0
    · rw [splitF_zero h0, splitF_zero h0]
    · have ih := splitF_same f (stepZ r).1 (depB_step h h0)
      unfold splitF
      rw [if_neg h0, if_neg h0, ih]
theorem split_sing {f : Nat} {r : Int} (h : r = 8490 ∨ r = 8486) : splitF f r = [singleZ r] := by
  apply splitF_zero
  rcases h with rfl | rfl <;> decide +kernel
theorem split_ang {f : Nat} (h : depB f 8491 = true) : splitF f 8491 = [65, 778] := by
  cases f with
  | zero => exact absurd h (by decide +kernel)
  | succ f =>
    unfold splitF
    have h1 : stepZ 8491 = (65, 778) := by decide +kernel
    rw [h1]
    rw [if_neg (by decide)]
    have h2 : (stepZ 65).2 = 0 := by decide +kernel
    rw [splitF_zero h2]
    have h3 : singleZ 65 = 65 := by decide +kernel
    rw [h3]
    rfl
theorem new_own (w : World) (cs : List Int) (hl : cs.length ≤ 8) : (w.alloc (.cells (runes cs).toArray 21)).ownsRow w.heap.size 21 1 (.slice (some ⟨w.heap.size, 0, none⟩) cs.length cs.length) cs.length (runes cs) :=
  World.ownsRow_lit w (runes cs).toArray cs.length (Nat.le_refl _) (by unfold maxLen; omega) (by simp)
theorem step_same {r : Int} (h1 : ¬ r = 8490) (h2 : ¬ r = 8486) (h3 : ¬ r = 8491) : singleZ r = r ∧ stepZ r = partsZ r := by
  have e : singleZ r = r := by unfold singleZ; rw [if_neg h1, if_neg h2, if_neg h3]
  exact ⟨e, by unfold stepZ; rw [e]⟩
/-- what Split answers -/
def SplitAt (w : World) (zs : List Int) (e : Ending) (w' : World) : Prop := ∃ v', e = .returned v' ∧ w'.ownsRow w.heap.size 21 1 v' zs.length (runes zs) ∧ Below w.heap.size w w'
set_option maxRecDepth 100000 in
set_option maxHeartbeats 4000000 in
theorem rsplit_one (r k : Int) (w : World) (hr : r = 8490 ∧ k = 75 ∨ r = 8486 ∧ k = 937 ∨ r < 128 ∧ k = r) : Calls Tryz.prog 79 #[.int .i32 r] w (SplitAt w [k]) := by
  have hown := new_own w [k] (by simp)
  have hb : Below w.heap.size w (w.alloc (.cells (runes [k]).toArray 21)) := (Below.refl _ w).alloc (Nat.le_refl _) _
  have Hown := Lib.hid hown
  have Hb := Lib.hid hb
  clear hown hb
  rcases hr with ⟨rfl, rfl⟩ | ⟨rfl, rfl⟩ | ⟨hr, rfl⟩
  · go_enter Tryz.func79, Tryz.ntmps79
    go_wp2
    go_ret
    exact ⟨_, rfl, Hown.out, Hb.out⟩
  · go_enter Tryz.func79, Tryz.ntmps79
    go_wp2
    go_ret
    exact ⟨_, rfl, Hown.out, Hb.out⟩
  · have h1 : ¬ k = 8490 := by omega
    have h2 : ¬ k = 8486 := by omega
    have h3 : ¬ k = 8491 := by omega
    go_enter Tryz.func79, Tryz.ntmps79
    go_wp2
    go_ret
    exact ⟨_, rfl, Hown.out, Hb.out⟩
set_option maxRecDepth 100000 in
set_option maxHeartbeats 4000000 in
theorem rsplit_ang (w : World) : Calls Tryz.prog 79 #[.int .i32 8491] w (SplitAt w [65, 778]) := by
  have hown := new_own w [65, 778] (by simp)
  have hb : Below w.heap.size w (w.alloc (.cells (runes [65, 778]).toArray 21)) := (Below.refl _ w).alloc (Nat.le_refl _) _
  have Hown := Lib.hid hown
  have Hb := Lib.hid hb
  clear hown hb
  go_enter Tryz.func79, Tryz.ntmps79
  go_wp2
  go_ret
  exact ⟨_, rfl, Hown.out, Hb.out⟩
set_option maxRecDepth 100000 in
set_option maxHeartbeats 4000000 in
theorem rsplit_none (r : Int) (w : World) (h1 : ¬ r = 8490) (h2 : ¬ r = 8486) (h3 : ¬ r = 8491) (h4 : ¬ r < 128) (hhi : r ≤ 2147483647) (hp : (partsZ r).2 = 0) : Calls Tryz.prog 79 #[.int .i32 r] w (SplitAt w [r]) := by
  have HF := Lib.hid (by have h := rfirst4_any r w (by omega) hhi; unfold partsO at h; rw [if_pos hp] at h; exact h)
  unfold firstV at HF
  clear hp
  go_enter Tryz.func79, Tryz.ntmps79
  go_wp2_with fail
  refine HF.out.mono ?_
  rintro _ w1 ⟨rfl, b1⟩
  have Hown := Lib.hid (new_own w1 [r] (by simp))
  have Hb := Lib.hid (b1.alloc b1.size (.cells (runes [r]).toArray 21))
  have Hs := Lib.hid b1.size
  clear b1
  go_wp2
  go_ret
  exact ⟨_, rfl, own_base Hown.out Hs.out, Hb.out⟩
set_option maxRecDepth 100000 in
set_option maxHeartbeats 4000000 in
theorem rsplit_more (r a b : Int) (zs : List Int) (w : World) (h1 : ¬ r = 8490) (h2 : ¬ r = 8486) (h3 : ¬ r = 8491) (h4 : ¬ r < 128) (hhi : r ≤ 2147483647) (hp : (partsZ r).2 ≠ 0) (hab : partsZ r = (a, b)) (hz : zs.length ≤ 8)
    (IH : ∀ w, Calls Tryz.prog 79 #[.int .i32 a] w (SplitAt w zs)) : Calls Tryz.prog 79 #[.int .i32 r] w (SplitAt w (zs ++ [b])) := by
  obtain ⟨i0, hi, hz0, hz1, hz2⟩ := info_parts runeN_info
  have HF := Lib.hid (by have h := rfirst4_any r w (by omega) hhi; unfold partsO at h; rw [if_neg hp, hab] at h; exact h)
  unfold firstV at HF
  have HI := Lib.hid IH
  clear hp hab IH
  go_enter Tryz.func79, Tryz.ntmps79
  go_wp2_with fail
  refine HF.out.mono ?_
  rintro _ w1 ⟨rfl, b1⟩
  have Hb1 := Lib.hid b1
  clear b1
  go_wp2_with fail
  refine (HI.out w1).mono ?_
  rintro _ w2 ⟨v2, rfl, own2, b2⟩
  have Hown2 := Lib.hid own2
  have Hb2 := Lib.hid b2
  have hs2 := b2.size
  clear own2 b2
  go_wp2_with (at_builtin; refine wpList_append_own_at _ rfl _ _ 92 rfl w1.heap.size 21 i0 _ 1 4 Tryz.underlying92 hi hz0 hz1 hz2 rfl (by decide) _ _ _ rfl (Hown2.out.alloc _) ⟨w2.heap.size, 0, none⟩ 1 1 [.int .i32 b] rfl rfl ?c1 ?c2 ?c3 ?c4 ?c5 ?_)
  try (case c1 => exact new_cells w2 [.int .i32 b] 21)
  case c2 => simp [Value.oneCell']
  case c3 => unfold maxLen; omega
  case c4 => omega
  case c5 => simp; omega
  intro v' w4 hown4 hg4 _ _
  have hb4 : Below w1.heap.size w1 w4 := (Hb2.out.alloc hs2 _).grown hg4 (by rw [World.size_alloc]; omega) (fun k hk => (Hown2.out.lt k hk).1)
  have Hown4 := Lib.hid hown4
  have Hb4 := Lib.hid (Hb1.out.trans (hb4.mono Hb1.out.size))
  clear hown4 hg4 hb4
  go_wp2
  go_ret
  refine ⟨_, rfl, ?_, Hb4.out⟩
  have h := own_base Hown4.out Hb1.out.size
  rw [show runes zs ++ [Value.int .i32 b] = runes (zs ++ [b]) by simp [runes]] at h
  rw [List.length_append]
  exact h
theorem rsplitF_any : ∀ (f : Nat) (r : Int), depB f r = true → f ≤ 3 → r ≤ 2147483647 → ∀ w : World, Calls Tryz.prog 79 #[.int .i32 r] w (SplitAt w (splitF f r)) := by
  intro f
  induction f with
  | zero =>
    intro r hd _ hhi w
    have h0 : (stepZ r).2 = 0 := of_decide_eq_true hd
    have e := splitF_zero (f := 0) h0
    by_cases h1 : r = 8490
    · subst h1; exact rsplit_one 8490 75 w (.inl ⟨rfl, rfl⟩)
    · by_cases h2 : r = 8486
      · subst h2; exact rsplit_one 8486 937 w (.inr (.inl ⟨rfl, rfl⟩))
      · by_cases h3 : r = 8491
        · subst h3; exact absurd hd (by decide +kernel)
        · obtain ⟨e1, e2⟩ := step_same h1 h2 h3
          rw [e, e1]
          by_cases h4 : r < 128
          · exact rsplit_one r r w (.inr (.inr ⟨h4, rfl⟩))
          · exact rsplit_none r w h1 h2 h3 h4 hhi (by rw [← e2]; exact h0)
  | succ f ih =>
    intro r hd hf hhi w
    by_cases h1 : r = 8490
    · subst h1
      rw [split_sing (.inl rfl)]
      exact rsplit_one 8490 75 w (.inl ⟨rfl, rfl⟩)
    · by_cases h2 : r = 8486
      · subst h2
        rw [split_sing (.inr rfl)]
        exact rsplit_one 8486 937 w (.inr (.inl ⟨rfl, rfl⟩))
      · by_cases h3 : r = 8491
        · subst h3
          rw [split_ang hd]
          exact rsplit_ang w
        · obtain ⟨e1, e2⟩ := step_same h1 h2 h3
          by_cases h0 : (stepZ r).2 = 0
          · rw [splitF_zero h0, e1]
            by_cases h4 : r < 128
            · exact rsplit_one r r w (.inr (.inr ⟨h4, rfl⟩))
            · exact rsplit_none r w h1 h2 h3 h4 hhi (by rw [← e2]; exact h0)
          · have h4 : ¬ r < 128 := by
              intro h
              apply h0
              rw [e2]
              unfold partsZ
              rw [if_pos (by omega)]
            have hb := parts_le r
            have e3 : splitF (f + 1) r = splitF f (stepZ r).1 ++ [(stepZ r).2] := by
              conv => lhs; unfold splitF
              rw [if_neg h0]
            rw [e3, e2]
            have hl := splitF_len f (partsZ r).1
            exact rsplit_more r (partsZ r).1 (partsZ r).2 (splitF f (partsZ r).1) w h1 h2 h3 h4 hhi (by rw [← e2]; exact h0) rfl (by omega)
              (fun w => ih (partsZ r).1 (by rw [← e2]; exact depB_step hd h0) (by omega) (by omega) w)
/-- the document's Split is the program's -/
theorem rsplit_any (r : Int) (hhi : r ≤ 2147483647) (w : World) : Calls Tryz.prog 79 #[.int .i32 r] w (SplitAt w (splitZ r)) := rsplitF_any 3 r (dep_all r) (Nat.le_refl _) hhi w
end Go.Proofs.YtjkakemlhhieoaaGreatDoor
