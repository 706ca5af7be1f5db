/- The document's Small and Great. (Made by tools/mkrefl5.py.) -/
import Derived.Test.YtjkakemlhhieoaaDoorRowsD
import Derived.Test.YtjkakemlhhieoaaDoorWalkGF
import Derived.Test.YtjkakemlhhieoaaDoorSplit
set_option linter.unusedSimpArgs false
set_option linter.unusedVariables false
namespace Go.Proofs.YtjkakemlhhieoaaDoor
open Go.RowKit Go.Lib

def RowsY (w : World) (a : Addr) : Prop := ∀ i x, rowsD[i]? = some x → ∀ j z, (rowY x)[j]? = some z → w.cell? ((a.add (i * 4)).add j) = some (.int .i32 z)
theorem rows_flat : ((List.range 24).all fun i => (List.range 4).all fun j => decide ((rowsD.flatMap rowY)[i * 4 + j]? = (rowsD[i]?).bind fun x => (rowY x)[j]?)) = true := by decide +kernel
theorem Rows_y (w : World) : Calls Tryd.prog 25 #[] w fun e w' => ∃ a, e = .returned (.slice (some a) 24 24) ∧ RowsY w' a ∧ Below w.heap.size w w' ∧ a.block < w'.heap.size := by
  refine (Rows_any5 w).mono ?_
  rintro _ w' ⟨rfl, rfl⟩
  refine ⟨_, rfl, ?_, (Below.refl _ w).alloc (Nat.le_refl _) _, by simp⟩
  intro i x hx j z hz
  have hi : i < 24 := (List.getElem?_eq_some_iff.1 hx).1
  have hj : j < 4 := by have := (List.getElem?_eq_some_iff.1 hz).1; simpa [rowY] using this
  have h := of_decide_eq_true (List.all_eq_true.1 (List.all_eq_true.1 rows_flat i (List.mem_range.2 hi)) j (List.mem_range.2 hj))
  rw [hx] at h
  rw [Addr.add_lit, Addr.add_lit, Nat.zero_add, World.cell?_alloc_mark]
  unfold rowsDV
  rw [List.getElem?_toArray, List.getElem?_map, h]
  show ((rowY x)[j]?).map _ = _
  rw [hz]
  rfl
theorem rowD_cells {w : World} {a : Addr} (h : RowsY w a) {k : Nat} {x : RowF} (hx : rowsD[k]? = some x) :
    w.cell? (a.add (k * 4)) = some (.int .i32 x.1) ∧ w.cell? ⟨(a.add (k * 4)).block, (a.add (k * 4)).off + 1, none⟩ = some (.int .i32 x.2.1) ∧ w.cell? ⟨(a.add (k * 4)).block, (a.add (k * 4)).off + 2, none⟩ = some (.int .i32 x.2.2.2) ∧ w.cell? ⟨(a.add (k * 4)).block, (a.add (k * 4)).off + 3, none⟩ = some (.int .i32 x.2.2.1) := by
  have h0 := h k x hx 0 _ rfl
  have h1 := h k x hx 1 _ rfl
  have h2 := h k x hx 2 _ rfl
  have h3 := h k x hx 3 _ rfl
  refine ⟨by simpa [Addr.add] using h0, by simpa [Addr.add] using h1, by simpa [Addr.add] using h2, by simpa [Addr.add] using h3⟩
theorem smallD_drop {k : Nat} {x : RowF} (hx : rowsD[k]? = some x) (r : Int) : smallL (rowsD.drop k) r = (bif hasF x r then r + x.2.2.2 else smallL (rowsD.drop (k + 1)) r) := by
  obtain ⟨hk, e⟩ := List.getElem?_eq_some_iff.1 hx
  rw [List.drop_eq_getElem_cons hk, e, smallL]
theorem greatD_drop {k : Nat} {x : RowF} (hx : rowsD[k]? = some x) (r : Int) : greatL (rowsD.drop k) r = (bif hasF x (r - x.2.2.2) then r - x.2.2.2 else greatL (rowsD.drop (k + 1)) r) := by
  obtain ⟨hk, e⟩ := List.getElem?_eq_some_iff.1 hx
  rw [List.drop_eq_getElem_cons hk, e, greatL]
theorem RowsY.below {w w' : World} {a : Addr} (h : RowsY w a) (hb : Below w.heap.size w w') : RowsY w' a := fun i x hx j z hz => by
  have := h i x hx j z hz
  exact (hb.cell (World.block_lt_of_cell? w _ this)).trans this
theorem has_yes {y1 y2 y3 y4 v : Int} (a : y1 ≤ v) (b : v ≤ y2) (c : (v - y1).tmod y3 = 0) : hasF (y1, y2, y3, y4) v = true := by
  unfold hasF; simp only; rw [decide_eq_true a, decide_eq_true b, decide_eq_true c]; rfl
theorem has_no1 {y1 y2 y3 y4 v : Int} (a : ¬ y1 ≤ v) : hasF (y1, y2, y3, y4) v = false := by
  unfold hasF; simp only; rw [decide_eq_false a]; rfl
theorem has_no2 {y1 y2 y3 y4 v : Int} (b : ¬ v ≤ y2) : hasF (y1, y2, y3, y4) v = false := by
  unfold hasF; simp only; rw [decide_eq_false b, Bool.false_and, Bool.and_false]
theorem has_no3 {y1 y2 y3 y4 v : Int} (c : ¬ (v - y1).tmod y3 = 0) : hasF (y1, y2, y3, y4) v = false := by
  unfold hasF; simp only; rw [decide_eq_false c, Bool.and_false, Bool.and_false]
theorem below_b {w w1 w2 : World} {B : Nat} (h : w.heap.size = B) (h1 : Below B w w1) (h2 : Below w1.heap.size w1 w2) : Below B w w2 := h1.trans (h2.mono (by rw [← h]; have := h1.size; exact this))

set_option maxHeartbeats 2000000 in
set_option maxRecDepth 100000 in
theorem rSmall_any (x : Int) (hx0 : -2147483648 ≤ x) (hx1 : x ≤ 2147483647) (w : World) : Calls Tryd.prog 11 #[.int .i32 x] w fun e w' => e = .returned (.int .i32 (smallF x)) ∧ Below w.heap.size w w' := by
  obtain ⟨R, hR⟩ : ∃ R, smallF x = R := ⟨_, rfl⟩
  have hR2 : smallL rowsD x = R := by rw [small_same, hR]
  obtain ⟨B, hB⟩ : ∃ B, w.heap.size = B := ⟨_, rfl⟩
  rw [hR, hB]
  have HR := Lib.hid hR2
  have HB := Lib.hid hB
  clear hR hR2 hB
  go_enter Tryd.func11, Tryd.ntmps11
  go_wp2_with fail
  refine (Rows_y w).mono ?_
  rintro _ w1 ⟨a, rfl, hrows, b1, hlt⟩
  rw [HB.out] at b1
  have Hb1 := Lib.hid b1
  have Hall := Lib.hid hrows
  clear b1 hrows
  go_wp2_with fail
  go_loopw [4] (fun i wr => ∃ k : Nat, k ≤ 24 ∧ i = .int .i64 (k : Int) ∧ Below w1.heap.size w1 wr ∧ Hid (smallL (rowsD.drop k) x = R)) (fun i _ => 24 - (RowKit.intOf i).toNat)
  case atStart => exact ⟨0, Nat.zero_le _, rfl, Below.refl _ _, HR.out⟩
  case round =>
    obtain ⟨k, hk, rfl, hbw, hrun⟩ := hrel
    by_cases hkn : k < 24
    · have hki : (k : Int) < 24 := by omega
      obtain ⟨y, hy⟩ : ∃ y, rowsD[k]? = some y := ⟨_, List.getElem?_eq_getElem (show k < rowsD.length from hkn)⟩
      obtain ⟨c0, c1, c2, c3⟩ := rowD_cells (Hall.out.below hbw) hy
      have hm : y ∈ rowsF := rows_same y (List.mem_of_getElem? hy)
      have hbd := row_bounds hm
      have hsd := smallD_drop hy x
      obtain ⟨y1, y2, y3, y4⟩ := y
      simp only at c0 c1 c2 c3 hbd hsd
      have hwx : hasF (y1, y2, y3, y4) x = true → IntKind.i32.wrap (x + y4) = x + y4 := fun h => by
        have := has_range hm h
        rw [IntKind.wrap_i32]; omega
      have Hsd := Lib.hid hsd
      have Hbw := Lib.hid hbw
      have hz : (y3 == 0) = false := by rw [beq_eq_false_iff_ne]; omega
      clear hsd hbw hy
      by_cases a : y1 ≤ x
      · by_cases b : x ≤ y2
        · have hw : IntKind.i32.wrap (x - y1) = x - y1 := by rw [IntKind.wrap_i32]; omega
          have hq : IntKind.i32.wrap ((x - y1).tmod y3) = (x - y1).tmod y3 := by
            rw [IntKind.wrap_i32, Int.tmod_eq_emod_of_nonneg (by omega)]
            have := Int.emod_lt_of_pos (x - y1) (show 0 < y3 by omega)
            have := Int.emod_nonneg (x - y1) (show y3 ≠ 0 by omega)
            omega
          have he : (x - y1).tmod y3 = (x - y1) % y3 := Int.tmod_eq_emod_of_nonneg (by omega)
          have a1 : decide (y1 ≤ x) = true := decide_eq_true a
          have b1 : decide (x ≤ y2) = true := decide_eq_true b
          by_cases c : (x - y1).tmod y3 = 0
          · rw [has_yes a b c] at Hsd
            have hwx2 := hwx (has_yes a b c)
            have c2' : (x - y1) % y3 = 0 := he ▸ c
            have c3' : ((x - y1) % y3 == 0) = true := by rw [c2']; rfl
            have c4' : ((x - y1).tmod y3 == 0) = true := by rw [c]; rfl
            clear hm hwx he
            go_wp2_with fail
            go_quiet (fail)
            go_wp2_with fail
            go_ret
            refine ⟨ret_i32 ?_, below_b (HB.out) (Hb1.out) (below_N Hbw.out _)⟩
            rw [← hrun.out, Hsd.out]; rfl
          · rw [has_no3 c] at Hsd
            have c2' : ¬ (x - y1) % y3 = 0 := he ▸ c
            have c3' : ((x - y1) % y3 == 0) = false := by rw [beq_eq_false_iff_ne]; exact c2'
            have c4' : ((x - y1).tmod y3 == 0) = false := by rw [beq_eq_false_iff_ne]; exact c
            clear hm hwx he c c2'
            go_wp2_with fail
            go_quiet (fail)
            go_wp2_with fail
            go_roundw
            case rel => exact ⟨k + 1, by omega, by go_num, below_N Hbw.out _, Hsd.out.symm.trans hrun.out⟩
            case measure => simp [RowKit.intOf]; omega
        · have a1 : decide (y1 ≤ x) = true := decide_eq_true a
          have b1 : decide (x ≤ y2) = false := decide_eq_false b
          rw [has_no2 b] at Hsd
          clear hm hwx
          go_wp2_with fail
          go_quiet (fail)
          go_wp2_with fail
          go_roundw
          case rel => exact ⟨k + 1, by omega, by go_num, below_N Hbw.out _, Hsd.out.symm.trans hrun.out⟩
          case measure => simp [RowKit.intOf]; omega
      · have a1 : decide (y1 ≤ x) = false := decide_eq_false a
        rw [has_no1 a] at Hsd
        clear hm hwx
        go_wp2_with fail
        go_quiet (fail)
        go_wp2_with fail
        go_roundw
        case rel => exact ⟨k + 1, by omega, by go_num, below_N Hbw.out _, Hsd.out.symm.trans hrun.out⟩
        case measure => simp [RowKit.intOf]; omega
    · obtain rfl : k = 24 := by omega
      have Hb := Lib.hid (below_b HB.out Hb1.out hbw)
      clear hbw
      go_wp2_with fail
      go_ret
      exact ⟨ret_i32 hrun.out, Hb.out⟩

set_option maxHeartbeats 2000000 in
set_option maxRecDepth 100000 in
theorem rGreat_any (x : Int) (hx0 : -2147483648 ≤ x) (hx1 : x ≤ 2147483647) (w : World) : Calls Tryd.prog 13 #[.int .i32 x] w fun e w' => e = .returned (.int .i32 (greatF x)) ∧ Below w.heap.size w w' := by
  have hgs := great_same x
  unfold greatD at hgs
  by_cases h9 : x = 962
  · have h91 : (x == 962) = true := by simp [h9]
    have e : greatF x = 931 := by rw [h9]; decide +kernel
    rw [e]
    clear hgs h9 e
    go_enter Tryd.func13, Tryd.ntmps13
    go_wp2_with fail
    go_ret
    exact ⟨rfl, Below.refl _ _⟩
  have h91 : (x == 962) = false := by simp [h9]
  rw [decide_eq_false h9, cond_false] at hgs
  by_cases h0 : x < 0
  · have h01 : decide (x < 0) = true := decide_eq_true h0
    rw [decide_eq_true (.inl h0), cond_true] at hgs
    rw [← hgs]
    clear hgs h9
    go_enter Tryd.func13, Tryd.ntmps13
    go_wp2_with fail
    go_ret
    exact ⟨rfl, Below.refl _ _⟩
  have h01 : decide (x < 0) = false := decide_eq_false h0
  by_cases hb : 1114111 < x
  · have hb1 : decide (1114111 < x) = true := decide_eq_true hb
    rw [decide_eq_true (.inr hb), cond_true] at hgs
    rw [← hgs]
    clear hgs h9
    go_enter Tryd.func13, Tryd.ntmps13
    go_wp2_with fail
    go_ret
    exact ⟨rfl, Below.refl _ _⟩
  have hb1 : decide (1114111 < x) = false := decide_eq_false hb
  rw [decide_eq_false (by omega), cond_false] at hgs
  obtain ⟨R, hR⟩ : ∃ R, greatF x = R := ⟨_, rfl⟩
  rw [hR] at hgs
  obtain ⟨B, hB⟩ : ∃ B, w.heap.size = B := ⟨_, rfl⟩
  rw [hR, hB]
  have HR := Lib.hid hgs
  have HB := Lib.hid hB
  clear hR hgs hB h9
  go_enter Tryd.func13, Tryd.ntmps13
  go_wp2_with fail
  refine (Rows_y w).mono ?_
  rintro _ w1 ⟨a, rfl, hrows, b1, hlt⟩
  rw [HB.out] at b1
  have Hb1 := Lib.hid b1
  have Hall := Lib.hid hrows
  clear b1 hrows
  go_wp2_with fail
  go_loopw [4] (fun i wr => ∃ k : Nat, k ≤ 24 ∧ i = .int .i64 (k : Int) ∧ Below w1.heap.size w1 wr ∧ Hid (greatL (rowsD.drop k) x = R)) (fun i _ => 24 - (RowKit.intOf i).toNat)
  case atStart => exact ⟨0, Nat.zero_le _, rfl, Below.refl _ _, HR.out⟩
  case round =>
    obtain ⟨k, hk, rfl, hbw, hrun⟩ := hrel
    by_cases hkn : k < 24
    · have hki : (k : Int) < 24 := by omega
      obtain ⟨y, hy⟩ : ∃ y, rowsD[k]? = some y := ⟨_, List.getElem?_eq_getElem (show k < rowsD.length from hkn)⟩
      obtain ⟨c0, c1, c2, c3⟩ := rowD_cells (Hall.out.below hbw) hy
      have hm : y ∈ rowsF := rows_same y (List.mem_of_getElem? hy)
      have hbd := row_bounds hm
      have hsd := greatD_drop hy x
      obtain ⟨y1, y2, y3, y4⟩ := y
      simp only at c0 c1 c2 c3 hbd hsd
      obtain ⟨g, hg⟩ : ∃ g, x - y4 = g := ⟨_, rfl⟩
      have hgw : IntKind.i32.wrap (x - y4) = g := by rw [← hg, IntKind.wrap_i32]; omega
      rw [hg] at hsd
      have hg2 : -200 ≤ g ∧ g ≤ 1114300 := by omega
      have Hsd := Lib.hid hsd
      have Hbw := Lib.hid hbw
      have hz : (y3 == 0) = false := by rw [beq_eq_false_iff_ne]; omega
      clear hsd hbw hy hg
      by_cases a : y1 ≤ g
      · by_cases b : g ≤ y2
        · have hw : IntKind.i32.wrap (g - y1) = g - y1 := by rw [IntKind.wrap_i32]; omega
          have hq : IntKind.i32.wrap ((g - y1).tmod y3) = (g - y1).tmod y3 := by
            rw [IntKind.wrap_i32, Int.tmod_eq_emod_of_nonneg (by omega)]
            have := Int.emod_lt_of_pos (g - y1) (show 0 < y3 by omega)
            have := Int.emod_nonneg (g - y1) (show y3 ≠ 0 by omega)
            omega
          have he : (g - y1).tmod y3 = (g - y1) % y3 := Int.tmod_eq_emod_of_nonneg (by omega)
          have a1 : decide (y1 ≤ g) = true := decide_eq_true a
          have b1 : decide (g ≤ y2) = true := decide_eq_true b
          by_cases c : (g - y1).tmod y3 = 0
          · rw [has_yes a b c] at Hsd
            have hvv : hasF (y1, y2, y3, y4) g = true := has_yes a b c
            have c2' : (g - y1) % y3 = 0 := he ▸ c
            have c3' : ((g - y1) % y3 == 0) = true := by rw [c2']; rfl
            have c4' : ((g - y1).tmod y3 == 0) = true := by rw [c]; rfl
            clear hm he
            go_wp2_with fail
            go_quiet (fail)
            go_wp2_with fail
            go_ret
            refine ⟨ret_i32 ?_, below_b (HB.out) (Hb1.out) (below_N Hbw.out _)⟩
            rw [← hrun.out, Hsd.out]; rfl
          · rw [has_no3 c] at Hsd
            have c2' : ¬ (g - y1) % y3 = 0 := he ▸ c
            have c3' : ((g - y1) % y3 == 0) = false := by rw [beq_eq_false_iff_ne]; exact c2'
            have c4' : ((g - y1).tmod y3 == 0) = false := by rw [beq_eq_false_iff_ne]; exact c
            clear hm he c c2'
            go_wp2_with fail
            go_quiet (fail)
            go_wp2_with fail
            go_roundw
            case rel => exact ⟨k + 1, by omega, by go_num, below_N Hbw.out _, Hsd.out.symm.trans hrun.out⟩
            case measure => simp [RowKit.intOf]; omega
        · have a1 : decide (y1 ≤ g) = true := decide_eq_true a
          have b1 : decide (g ≤ y2) = false := decide_eq_false b
          rw [has_no2 b] at Hsd
          clear hm
          go_wp2_with fail
          go_quiet (fail)
          go_wp2_with fail
          go_roundw
          case rel => exact ⟨k + 1, by omega, by go_num, below_N Hbw.out _, Hsd.out.symm.trans hrun.out⟩
          case measure => simp [RowKit.intOf]; omega
      · have a1 : decide (y1 ≤ g) = false := decide_eq_false a
        rw [has_no1 a] at Hsd
        clear hm
        go_wp2_with fail
        go_quiet (fail)
        go_wp2_with fail
        go_roundw
        case rel => exact ⟨k + 1, by omega, by go_num, below_N Hbw.out _, Hsd.out.symm.trans hrun.out⟩
        case measure => simp [RowKit.intOf]; omega
    · obtain rfl : k = 24 := by omega
      have Hb := Lib.hid (below_b HB.out Hb1.out hbw)
      clear hbw
      go_wp2_with fail
      go_ret
      exact ⟨ret_i32 hrun.out, Hb.out⟩
end Go.Proofs.YtjkakemlhhieoaaDoor
