/- The document's Small and Great. (Made by tools/mkrefl5.py.) -/
import Derived.Test.YtjkakemlhhieoaaGreatDoorRowsD
import Derived.Test.YtjkakemlhhieoaaGreatDoorWalkGF
import Derived.Test.YtjkakemlhhieoaaGreatDoorSplG
import Derived.Test.YtjkakemlhhieoaaGreatDoorRefE
import Derived.Test.YtjkakemlhhieoaaGreatDoorPureGF
import Derived.Test.YtjkakemlhhieoaaGreatDoorTextRG
import Derived.Deep.RegionHeld3
import Derived.Deep.QuietTactic
import Derived.BigQuiet
import Derived.Test.YtjkakemlhhieoaaGreatDoorRefsG
import Derived.Test.YtjkakemlhhieoaaGreatDoorBadG
import Derived.Lib.AppendStr
set_option linter.unusedSimpArgs false
set_option linter.unusedVariables false
namespace Go.Proofs.YtjkakemlhhieoaaGreatDoor
open Go.RowKit Go.Lib

def RowsY (w : World) (a : Addr) : Prop := ∀ i x, rowsD[i]? = some x → ∀ j z, (rowY x)[j]? = some z → w.cell? ((a.add (i * 4)).add j) = some (.int .i32 z)
theorem rows_flat : ((List.range 24).all fun i => (List.range 4).all fun j => decide ((rowsD.flatMap rowY)[i * 4 + j]? = (rowsD[i]?).bind fun x => (rowY x)[j]?)) = true := by decide +kernel
theorem Rows_y (w : World) : Calls Tryz.prog 58 #[] w fun e w' => ∃ a, e = .returned (.slice (some a) 24 24) ∧ RowsY w' a ∧ Below w.heap.size w w' ∧ a.block < w'.heap.size := by
  refine (Rows_any5 w).mono ?_
  rintro _ w' ⟨rfl, rfl⟩
  refine ⟨_, rfl, ?_, (Below.refl _ w).alloc (Nat.le_refl _) _, by simp⟩
  intro i x hx j z hz
  have hi : i < 24 := (List.getElem?_eq_some_iff.1 hx).1
  have hj : j < 4 := by have := (List.getElem?_eq_some_iff.1 hz).1; simpa [rowY] using this
  have h := of_decide_eq_true (List.all_eq_true.1 (List.all_eq_true.1 rows_flat i (List.mem_range.2 hi)) j (List.mem_range.2 hj))
  rw [hx] at h
  rw [Addr.add_lit, Addr.add_lit, Nat.zero_add, World.cell?_alloc_mark]
  unfold rowsDV
  rw [List.getElem?_toArray, List.getElem?_map, h]
  show ((rowY x)[j]?).map _ = _
  rw [hz]
  rfl
theorem rowD_cells {w : World} {a : Addr} (h : RowsY w a) {k : Nat} {x : RowF} (hx : rowsD[k]? = some x) :
    w.cell? (a.add (k * 4)) = some (.int .i32 x.1) ∧ w.cell? ⟨(a.add (k * 4)).block, (a.add (k * 4)).off + 1, none⟩ = some (.int .i32 x.2.1) ∧ w.cell? ⟨(a.add (k * 4)).block, (a.add (k * 4)).off + 2, none⟩ = some (.int .i32 x.2.2.2) ∧ w.cell? ⟨(a.add (k * 4)).block, (a.add (k * 4)).off + 3, none⟩ = some (.int .i32 x.2.2.1) := by
  have h0 := h k x hx 0 _ rfl
  have h1 := h k x hx 1 _ rfl
  have h2 := h k x hx 2 _ rfl
  have h3 := h k x hx 3 _ rfl
  refine ⟨by simpa [Addr.add] using h0, by simpa [Addr.add] using h1, by simpa [Addr.add] using h2, by simpa [Addr.add] using h3⟩
theorem smallD_drop {k : Nat} {x : RowF} (hx : rowsD[k]? = some x) (r : Int) : smallL (rowsD.drop k) r = (bif hasF x r then r + x.2.2.2 else smallL (rowsD.drop (k + 1)) r) := by
  obtain ⟨hk, e⟩ := List.getElem?_eq_some_iff.1 hx
  rw [List.drop_eq_getElem_cons hk, e, smallL]
theorem greatD_drop {k : Nat} {x : RowF} (hx : rowsD[k]? = some x) (r : Int) : greatL (rowsD.drop k) r = (bif hasF x (r - x.2.2.2) then r - x.2.2.2 else greatL (rowsD.drop (k + 1)) r) := by
  obtain ⟨hk, e⟩ := List.getElem?_eq_some_iff.1 hx
  rw [List.drop_eq_getElem_cons hk, e, greatL]
theorem RowsY.below {w w' : World} {a : Addr} (h : RowsY w a) (hb : Below w.heap.size w w') : RowsY w' a := fun i x hx j z hz => by
  have := h i x hx j z hz
  exact (hb.cell (World.block_lt_of_cell? w _ this)).trans this
theorem has_yes {y1 y2 y3 y4 v : Int} (a : y1 ≤ v) (b : v ≤ y2) (c : (v - y1).tmod y3 = 0) : hasF (y1, y2, y3, y4) v = true := by
  unfold hasF; simp only; rw [decide_eq_true a, decide_eq_true b, decide_eq_true c]; rfl
theorem has_no1 {y1 y2 y3 y4 v : Int} (a : ¬ y1 ≤ v) : hasF (y1, y2, y3, y4) v = false := by
  unfold hasF; simp only; rw [decide_eq_false a]; rfl
theorem has_no2 {y1 y2 y3 y4 v : Int} (b : ¬ v ≤ y2) : hasF (y1, y2, y3, y4) v = false := by
  unfold hasF; simp only; rw [decide_eq_false b, Bool.false_and, Bool.and_false]
theorem has_no3 {y1 y2 y3 y4 v : Int} (c : ¬ (v - y1).tmod y3 = 0) : hasF (y1, y2, y3, y4) v = false := by
  unfold hasF; simp only; rw [decide_eq_false c, Bool.and_false, Bool.and_false]
theorem below_b {w w1 w2 : World} {B : Nat} (h : w.heap.size = B) (h1 : Below B w w1) (h2 : Below w1.heap.size w1 w2) : Below B w w2 := h1.trans (h2.mono (by rw [← h]; have := h1.size; exact this))

set_option maxHeartbeats 2000000 in
set_option maxRecDepth 100000 in
theorem rSmall_any (x : Int) (hx0 : -2147483648 ≤ x) (hx1 : x ≤ 2147483647) (w : World) : Calls Tryz.prog 36 #[.int .i32 x] w fun e w' => e = .returned (.int .i32 (smallF x)) ∧ Below w.heap.size w w' := by
  obtain ⟨R, hR⟩ : ∃ R, smallF x = R := ⟨_, rfl⟩
  have hR2 : smallL rowsD x = R := by rw [small_same, hR]
  obtain ⟨B, hB⟩ : ∃ B, w.heap.size = B := ⟨_, rfl⟩
  rw [hR, hB]
  have HR := Lib.hid hR2
  have HB := Lib.hid hB
  clear hR hR2 hB
  go_enter Tryz.func36, Tryz.ntmps36
  go_wp2_with fail
  refine (Rows_y w).mono ?_
  rintro _ w1 ⟨a, rfl, hrows, b1, hlt⟩
  rw [HB.out] at b1
  have Hb1 := Lib.hid b1
  have Hall := Lib.hid hrows
  clear b1 hrows
  go_wp2_with fail
  go_loopw [4] (fun i wr => ∃ k : Nat, k ≤ 24 ∧ i = .int .i64 (k : Int) ∧ Below w1.heap.size w1 wr ∧ Hid (smallL (rowsD.drop k) x = R)) (fun i _ => 24 - (RowKit.intOf i).toNat)
  case atStart => exact ⟨0, Nat.zero_le _, rfl, Below.refl _ _, HR.out⟩
  case round =>
    obtain ⟨k, hk, rfl, hbw, hrun⟩ := hrel
    by_cases hkn : k < 24
    · have hki : (k : Int) < 24 := by omega
      obtain ⟨y, hy⟩ : ∃ y, rowsD[k]? = some y := ⟨_, List.getElem?_eq_getElem (show k < rowsD.length from hkn)⟩
      obtain ⟨c0, c1, c2, c3⟩ := rowD_cells (Hall.out.below hbw) hy
      have hm : y ∈ rowsF := rows_same y (List.mem_of_getElem? hy)
      have hbd := row_bounds hm
      have hsd := smallD_drop hy x
      obtain ⟨y1, y2, y3, y4⟩ := y
      simp only at c0 c1 c2 c3 hbd hsd
      have hwx : hasF (y1, y2, y3, y4) x = true → IntKind.i32.wrap (x + y4) = x + y4 := fun h => by
        have := has_range hm h
        rw [IntKind.wrap_i32]; omega
      have Hsd := Lib.hid hsd
      have Hbw := Lib.hid hbw
      have hz : (y3 == 0) = false := by rw [beq_eq_false_iff_ne]; omega
      clear hsd hbw hy
      by_cases a : y1 ≤ x
      · by_cases b : x ≤ y2
        · have hw : IntKind.i32.wrap (x - y1) = x - y1 := by rw [IntKind.wrap_i32]; omega
          have hq : IntKind.i32.wrap ((x - y1).tmod y3) = (x - y1).tmod y3 := by
            rw [IntKind.wrap_i32, Int.tmod_eq_emod_of_nonneg (by omega)]
            have := Int.emod_lt_of_pos (x - y1) (show 0 < y3 by omega)
            have := Int.emod_nonneg (x - y1) (show y3 ≠ 0 by omega)
            omega
          have he : (x - y1).tmod y3 = (x - y1) % y3 := Int.tmod_eq_emod_of_nonneg (by omega)
          have a1 : decide (y1 ≤ x) = true := decide_eq_true a
          have b1 : decide (x ≤ y2) = true := decide_eq_true b
          by_cases c : (x - y1).tmod y3 = 0
          · rw [has_yes a b c] at Hsd
            have hwx2 := hwx (has_yes a b c)
            have c2' : (x - y1) % y3 = 0 := he ▸ c
            have c3' : ((x - y1) % y3 == 0) = true := by rw [c2']; rfl
            have c4' : ((x - y1).tmod y3 == 0) = true := by rw [c]; rfl
            clear hm hwx he
            go_wp2_with fail
            go_quiet (fail)
            go_wp2_with fail
            go_ret
            refine ⟨ret_i32 ?_, below_b (HB.out) (Hb1.out) (below_N Hbw.out _)⟩
            rw [← hrun.out, Hsd.out]; rfl
          · rw [has_no3 c] at Hsd
            have c2' : ¬ (x - y1) % y3 = 0 := he ▸ c
            have c3' : ((x - y1) % y3 == 0) = false := by rw [beq_eq_false_iff_ne]; exact c2'
            have c4' : ((x - y1).tmod y3 == 0) = false := by rw [beq_eq_false_iff_ne]; exact c
            clear hm hwx he c c2'
            go_wp2_with fail
            go_quiet (fail)
            go_wp2_with fail
            go_roundw
            case rel => exact ⟨k + 1, by omega, by go_num, below_N Hbw.out _, Hsd.out.symm.trans hrun.out⟩
            case measure => simp [RowKit.intOf]; omega
        · have a1 : decide (y1 ≤ x) = true := decide_eq_true a
          have b1 : decide (x ≤ y2) = false := decide_eq_false b
          rw [has_no2 b] at Hsd
          clear hm hwx
          go_wp2_with fail
          go_quiet (fail)
          go_wp2_with fail
          go_roundw
          case rel => exact ⟨k + 1, by omega, by go_num, below_N Hbw.out _, Hsd.out.symm.trans hrun.out⟩
          case measure => simp [RowKit.intOf]; omega
      · have a1 : decide (y1 ≤ x) = false := decide_eq_false a
        rw [has_no1 a] at Hsd
        clear hm hwx
        go_wp2_with fail
        go_quiet (fail)
        go_wp2_with fail
        go_roundw
        case rel => exact ⟨k + 1, by omega, by go_num, below_N Hbw.out _, Hsd.out.symm.trans hrun.out⟩
        case measure => simp [RowKit.intOf]; omega
    · obtain rfl : k = 24 := by omega
      have Hb := Lib.hid (below_b HB.out Hb1.out hbw)
      clear hbw
      go_wp2_with fail
      go_ret
      exact ⟨ret_i32 hrun.out, Hb.out⟩

set_option maxHeartbeats 2000000 in
set_option maxRecDepth 100000 in
theorem rGreat_any (x : Int) (hx0 : -2147483648 ≤ x) (hx1 : x ≤ 2147483647) (w : World) : Calls Tryz.prog 35 #[.int .i32 x] w fun e w' => e = .returned (.int .i32 (greatF x)) ∧ Below w.heap.size w w' := by
  have hgs := great_same x
  unfold greatD at hgs
  by_cases h9 : x = 962
  · have h91 : (x == 962) = true := by simp [h9]
    have e : greatF x = 931 := by rw [h9]; decide +kernel
    rw [e]
    clear hgs h9 e
    go_enter Tryz.func35, Tryz.ntmps35
    go_wp2_with fail
    go_ret
    exact ⟨rfl, Below.refl _ _⟩
  have h91 : (x == 962) = false := by simp [h9]
  rw [decide_eq_false h9, cond_false] at hgs
  by_cases h0 : x < 0
  · have h01 : decide (x < 0) = true := decide_eq_true h0
    rw [decide_eq_true (.inl h0), cond_true] at hgs
    rw [← hgs]
    clear hgs h9
    go_enter Tryz.func35, Tryz.ntmps35
    go_wp2_with fail
    go_ret
    exact ⟨rfl, Below.refl _ _⟩
  have h01 : decide (x < 0) = false := decide_eq_false h0
  by_cases hb : 1114111 < x
  · have hb1 : decide (1114111 < x) = true := decide_eq_true hb
    rw [decide_eq_true (.inr hb), cond_true] at hgs
    rw [← hgs]
    clear hgs h9
    go_enter Tryz.func35, Tryz.ntmps35
    go_wp2_with fail
    go_ret
    exact ⟨rfl, Below.refl _ _⟩
  have hb1 : decide (1114111 < x) = false := decide_eq_false hb
  rw [decide_eq_false (by omega), cond_false] at hgs
  obtain ⟨R, hR⟩ : ∃ R, greatF x = R := ⟨_, rfl⟩
  rw [hR] at hgs
  obtain ⟨B, hB⟩ : ∃ B, w.heap.size = B := ⟨_, rfl⟩
  rw [hR, hB]
  have HR := Lib.hid hgs
  have HB := Lib.hid hB
  clear hR hgs hB h9
  go_enter Tryz.func35, Tryz.ntmps35
  go_wp2_with fail
  refine (Rows_y w).mono ?_
  rintro _ w1 ⟨a, rfl, hrows, b1, hlt⟩
  rw [HB.out] at b1
  have Hb1 := Lib.hid b1
  have Hall := Lib.hid hrows
  clear b1 hrows
  go_wp2_with fail
  go_loopw [4] (fun i wr => ∃ k : Nat, k ≤ 24 ∧ i = .int .i64 (k : Int) ∧ Below w1.heap.size w1 wr ∧ Hid (greatL (rowsD.drop k) x = R)) (fun i _ => 24 - (RowKit.intOf i).toNat)
  case atStart => exact ⟨0, Nat.zero_le _, rfl, Below.refl _ _, HR.out⟩
  case round =>
    obtain ⟨k, hk, rfl, hbw, hrun⟩ := hrel
    by_cases hkn : k < 24
    · have hki : (k : Int) < 24 := by omega
      obtain ⟨y, hy⟩ : ∃ y, rowsD[k]? = some y := ⟨_, List.getElem?_eq_getElem (show k < rowsD.length from hkn)⟩
      obtain ⟨c0, c1, c2, c3⟩ := rowD_cells (Hall.out.below hbw) hy
      have hm : y ∈ rowsF := rows_same y (List.mem_of_getElem? hy)
      have hbd := row_bounds hm
      have hsd := greatD_drop hy x
      obtain ⟨y1, y2, y3, y4⟩ := y
      simp only at c0 c1 c2 c3 hbd hsd
      obtain ⟨g, hg⟩ : ∃ g, x - y4 = g := ⟨_, rfl⟩
      have hgw : IntKind.i32.wrap (x - y4) = g := by rw [← hg, IntKind.wrap_i32]; omega
      rw [hg] at hsd
      have hg2 : -200 ≤ g ∧ g ≤ 1114300 := by omega
      have Hsd := Lib.hid hsd
      have Hbw := Lib.hid hbw
      have hz : (y3 == 0) = false := by rw [beq_eq_false_iff_ne]; omega
      clear hsd hbw hy hg
      by_cases a : y1 ≤ g
      · by_cases b : g ≤ y2
        · have hw : IntKind.i32.wrap (g - y1) = g - y1 := by rw [IntKind.wrap_i32]; omega
          have hq : IntKind.i32.wrap ((g - y1).tmod y3) = (g - y1).tmod y3 := by
            rw [IntKind.wrap_i32, Int.tmod_eq_emod_of_nonneg (by omega)]
            have := Int.emod_lt_of_pos (g - y1) (show 0 < y3 by omega)
            have := Int.emod_nonneg (g - y1) (show y3 ≠ 0 by omega)
            omega
          have he : (g - y1).tmod y3 = (g - y1) % y3 := Int.tmod_eq_emod_of_nonneg (by omega)
          have a1 : decide (y1 ≤ g) = true := decide_eq_true a
          have b1 : decide (g ≤ y2) = true := decide_eq_true b
          by_cases c : (g - y1).tmod y3 = 0
          · rw [has_yes a b c] at Hsd
            have hvv : hasF (y1, y2, y3, y4) g = true := has_yes a b c
            have c2' : (g - y1) % y3 = 0 := he ▸ c
            have c3' : ((g - y1) % y3 == 0) = true := by rw [c2']; rfl
            have c4' : ((g - y1).tmod y3 == 0) = true := by rw [c]; rfl
            clear hm he
            go_wp2_with fail
            go_quiet (fail)
            go_wp2_with fail
            go_ret
            refine ⟨ret_i32 ?_, below_b (HB.out) (Hb1.out) (below_N Hbw.out _)⟩
            rw [← hrun.out, Hsd.out]; rfl
          · rw [has_no3 c] at Hsd
            have c2' : ¬ (g - y1) % y3 = 0 := he ▸ c
            have c3' : ((g - y1) % y3 == 0) = false := by rw [beq_eq_false_iff_ne]; exact c2'
            have c4' : ((g - y1).tmod y3 == 0) = false := by rw [beq_eq_false_iff_ne]; exact c
            clear hm he c c2'
            go_wp2_with fail
            go_quiet (fail)
            go_wp2_with fail
            go_roundw
            case rel => exact ⟨k + 1, by omega, by go_num, below_N Hbw.out _, Hsd.out.symm.trans hrun.out⟩
            case measure => simp [RowKit.intOf]; omega
        · have a1 : decide (y1 ≤ g) = true := decide_eq_true a
          have b1 : decide (g ≤ y2) = false := decide_eq_false b
          rw [has_no2 b] at Hsd
          clear hm
          go_wp2_with fail
          go_quiet (fail)
          go_wp2_with fail
          go_roundw
          case rel => exact ⟨k + 1, by omega, by go_num, below_N Hbw.out _, Hsd.out.symm.trans hrun.out⟩
          case measure => simp [RowKit.intOf]; omega
      · have a1 : decide (y1 ≤ g) = false := decide_eq_false a
        rw [has_no1 a] at Hsd
        clear hm
        go_wp2_with fail
        go_quiet (fail)
        go_wp2_with fail
        go_roundw
        case rel => exact ⟨k + 1, by omega, by go_num, below_N Hbw.out _, Hsd.out.symm.trans hrun.out⟩
        case measure => simp [RowKit.intOf]; omega
    · obtain rfl : k = 24 := by omega
      have Hb := Lib.hid (below_b HB.out Hb1.out hbw)
      clear hbw
      go_wp2_with fail
      go_ret
      exact ⟨ret_i32 hrun.out, Hb.out⟩
end Go.Proofs.YtjkakemlhhieoaaGreatDoor

/- The document's Split: a text's characters and bad bytes, each with its bytes. -/
namespace Go.Proofs.YtjkakemlhhieoaaGreatDoor
open Go.RowKit Go.Lib

theorem baX {x y : ByteArray} (h : x.data.toList = y.data.toList) : x = y := by
  cases x; cases y
  congr 1
  exact Array.toList_inj.1 h
def encO (p : Pc) : List Value := [.int .i32 (runeP p), .string ⟨(pieceB p).toArray⟩, .bool (p.2.2 != 0)]
theorem encO_len : ∀ p : Pc, (encO p).length = 3 := fun _ => rfl
theorem one5_info : (Tryz.prog.info? 42).map (fun i => (i.zero, i.size, i.bytes)) = some (some (.agg #[.int .i32 0, .string ⟨#[]⟩, .bool false]), 3, 32) := by kernel_rfl
theorem step_append5 {P : Program} {ops : Array Oper} {o : Oper} {a : Act} {w : World} {K : Act → World → Prop} {Q : Exit → Act → World → Prop} {E : Prop} (hgd : o.guard = none) (s x : Operand) (t : TypeId)
    (ho : o.op = .call { callee := .builtin .append, args := #[s, x], argTypes := #[t, t] })
    (base : Nat) (e : TypeId) (i : TypeInfo) (z : Value) (size bytes : Nat) (ht : P.underlying t = some (.slice e)) (hi : P.info? e = some i) (hz : i.zero = some z)
    (hsize : i.size = size) (hby : i.bytes = bytes) (hzs : z.cells.size = size) (hsz : 0 < size)
    (v : Value) (n : Nat) (xs : List Value) (hs : a.eval s = v) (hown : w.ownsRow base e size v n xs)
    (ad : Addr) (m c : Nat) (news : List Value) (hx : a.eval x = .slice (some ad) m c) (hl : news.length = m * size) (hnews : ∀ j u, news[j]? = some u → w.cell? (ad.add j) = some u) (h1 : ∀ u ∈ news, u.oneCell' = true)
    (h63 : n + m ≤ maxLen) (hbytes : (n + m) * bytes ≤ 140737488355328) (hbase : base ≤ w.heap.size)
    (h : ∀ v' w', w'.ownsRow base e size v' (n + m) (xs ++ news) → w.grownBy w' v.ownBlock → K (a.put o.dst v') w') : if Region.wanted o (yielded ops a.tmps) = true then Oper.wp P o a w K Q else E := by
  have hw : Region.wanted o (yielded ops a.tmps) = true := by simp [Region.wanted, hgd]
  rw [if_pos hw]
  exact wp_append_own w s x t ho base e i z size bytes ht hi hz hsize hby hzs hsz v n xs hs hown ad m c news hx hl hnews h1 h63 hbytes hbase fun v' w' h2 h3 _ => h v' w' h2 h3
theorem below_D5 {B : Nat} {a w : World} (h : Below B a w) : Below B a w.drew := ⟨h.os, h.tape, h.output, h.size, h.block⟩

theorem cell_new5 {w : World} {p : Addr} {v : Value} {o : Obj} (h : w.cell? p = some v) : (w.alloc o).cell? p = some v := by
  have hlt := World.block_lt_of_cell? w _ h
  rw [← h]
  unfold World.cell?
  rw [Lib.alloc_old w o _ hlt]
/-- a cell of a block that is not the row's stays -/
theorem stay5 {w w' : World} {o : Obj} {v x : Value} {b j n base size : Nat} {e : TypeId} {xs : List Value} (g : (w.alloc o).drew.grownBy w' v.ownBlock) (_ : w.ownsRow base e size v n xs) (hlt : b < w.heap.size) (hc : w.cell? ⟨b, j, none⟩ = some x) (hne : v.ownBlock ≠ some b) : w'.cell? ⟨b, j, none⟩ = some x := by
  have h1 : w'.heap[b]? = w.heap[b]? := by
    rw [g.block b (by show b < (w.alloc o).heap.size; simp; omega) (fun h => hne h.symm)]
    exact Lib.alloc_old w o b hlt
  rw [← hc]
  unfold World.cell?
  rw [h1]
/-- what stands in the i-th place of the two lists -/
theorem split_at5 (s : ByteArray) (k : Nat) (h : k < (segs s.data.toList).length) : ∃ p : Pc, (items s.data.toList)[k]? = some p ∧ wsum ((segs s.data.toList).take k) + ((segs s.data.toList)[k]).2 ≤ s.size ∧
    s.extract (wsum ((segs s.data.toList).take k)) (wsum ((segs s.data.toList).take k) + ((segs s.data.toList)[k]).2) = ⟨(pieceB p).toArray⟩ ∧ runeP p = (((segs s.data.toList)[k]).1 : Int) ∧ (p.2.2 != 0) = badSeg ((segs s.data.toList)[k]) := by
  have key : ∀ (l : List UInt8) (k : Nat) (h : k < (segs l).length), ∃ p : Pc, (items l)[k]? = some p ∧ wsum ((segs l).take k) + ((segs l)[k]).2 ≤ l.length ∧ (l.drop (wsum ((segs l).take k))).take ((segs l)[k]).2 = pieceB p ∧ runeP p = (((segs l)[k]).1 : Int) ∧ (p.2.2 != 0) = badSeg ((segs l)[k]) := by
    intro l
    induction l using walk_ind with
    | h0 => intro k h; simp [segs_nil] at h
    | h1 l hl ih =>
      intro k h
      have hs := segs_cons l hl
      cases k with
      | zero =>
        have e : (segs l)[0] = dec l := by simp [hs]
        rw [e, List.take_zero]
        refine ⟨headI l, by rw [items_step l hl]; rfl, by simp [wsum]; exact dec_le l hl, by simp [wsum]; exact (piece_head l hl).symm, ?_, ?_⟩
        · cases hb : badSeg (dec l) with
          | true =>
            rw [(head_bad l hb).1]
            unfold badSeg at hb
            simp at hb
            unfold runeP
            rw [if_neg (by have := (head_bad l (by unfold badSeg; simp [hb])).2.1; show gb l 0 ≠ 0; omega)]
            omega
          | false =>
            rw [head_good l hb]
            rfl
        · cases hb : badSeg (dec l) with
          | true =>
            have := head_bad l hb
            rw [this.1]
            have : gb l 0 ≠ 0 := by omega
            simp [this]
          | false => rw [head_good l hb]; rfl
      | succ k =>
        have h' : k < (segs (l.drop (dec l).2)).length := by rw [hs, List.length_cons] at h; omega
        obtain ⟨p, h1, h2, h3, h4, h5⟩ := ih k h'
        have e : (segs l)[k + 1] = (segs (l.drop (dec l).2))[k] := by simp [hs]
        have et : wsum ((segs l).take (k + 1)) = (dec l).2 + wsum ((segs (l.drop (dec l).2)).take k) := by rw [hs, List.take_succ_cons]; simp [wsum]
        rw [e, et]
        refine ⟨p, by rw [items_step l hl, List.getElem?_cons_succ]; exact h1, ?_, ?_, h4, h5⟩
        · rw [List.length_drop] at h2
          have := dec_le l hl
          omega
        · rw [← h3, List.drop_drop]
  obtain ⟨p, h1, h2, h3, h4, h5⟩ := key s.data.toList k h
  rw [size_list] at h2
  refine ⟨p, h1, h2, baX ?_, h4, h5⟩
  show _ = pieceB p
  rw [← h3]
  simp [List.extract_eq_take_drop]

set_option maxRecDepth 100000 in
set_option maxHeartbeats 4000000 in
theorem Split5_any (s : ByteArray) (w : World) (hs : s.size ≤ 134217728) :
    Calls Tryz.prog 27 #[.string s] w fun e w' => ∃ v, e = .returned v ∧ w'.ownsRow w.heap.size 42 3 v (items s.data.toList).length (flat encO (items s.data.toList)) ∧ Below w.heap.size w w' := by
  obtain ⟨i0, hi, hz0, hz1, hz2⟩ := info_parts one5_info
  have hall := all_any s w (by omega)
  unfold AllAt at hall
  have hsp := fun k h => split_at5 s k h
  have hones := ones_at (segs s.data.toList) 0
  have hml : (segs s.data.toList).length ≤ s.size := by have := segs_len s.data.toList; rwa [size_list] at this
  have hil := items_len s.data.toList
  obtain ⟨Q, hQ⟩ : ∃ Q, segs s.data.toList = Q := ⟨_, rfl⟩
  obtain ⟨I, hI⟩ : ∃ I, items s.data.toList = I := ⟨_, rfl⟩
  simp only [hQ] at hall hsp hones hml hil
  simp only [hI] at hsp hil ⊢
  obtain ⟨m, hm⟩ : ∃ m, Q.length = m := ⟨_, rfl⟩
  simp only [hm] at hall hsp hones hml hil
  obtain ⟨B, hB⟩ : ∃ B, w.heap.size = B := ⟨_, rfl⟩
  rw [hB] at hall
  rw [hB]
  have hend : I.take m = I := List.take_of_length_le (by omega)
  have Hall := Lib.hid hall
  have Hsp := Lib.hid hsp
  have Hones := Lib.hid hones
  have Hend := Lib.hid hend
  have Hil := Lib.hid hil
  have HB := Lib.hid hB
  clear hall hsp hones hend hil hB
  go_enter Tryz.func27, Tryz.ntmps27
  go_wp2_with fail
  refine Hall.out.mono ?_
  rintro _ w1 ⟨v0, rfl, own0, b0⟩
  obtain ⟨A0, c0, rfl, _, _⟩ := own_shape own0
  have HB1 : B ≤ w1.heap.size := by have := b0.size; have := HB.out; omega
  have Hb1 := Lib.hid b0
  have R0 := Lib.hid (Rd.own own0)
  clear own0 b0
  go_wp2_with fail
  go_loopw [3, 5] (fun v i wr => ∃ (k : Nat) (W : World) (vv : Value), W = wr ∧ vv = v ∧ k ≤ m ∧ i = .int .i64 (k : Int) ∧ Hid (W.ownsRow w1.heap.size 42 3 vv k (flat encO (I.take k))) ∧ Hid (Below w1.heap.size w1 W)) (fun _ i _ => m - (RowKit.intOf i).toNat)
  case atStart => exact ⟨0, _, _, rfl, rfl, Nat.zero_le _, rfl, Lib.hid (by simp [flat]; exact World.ownsRow_nil _ _ _ _), Lib.hid (Below.refl _ _)⟩
  case round =>
    obtain ⟨k, W, vv, hW, hvv, hk, rfl, Hown, HbW⟩ := hrel
    subst hvv
    subst hW
    have SW : w1.heap.size ≤ W.heap.size := HbW.out.size
    by_cases hkm : k < m
    · have hki : (k : Int) < (m : Int) := by omega
      obtain ⟨a, rfl, hab, hc⟩ := (R0.out.below HbW.out).addr (by omega)
      obtain ⟨c0', c1', c2', c3'⟩ := Hones.out k hkm
      obtain ⟨p, hpk, hle, hex, hru, hbd⟩ := Hsp.out k hkm
      have k0 := hc _ _ c0'
      have k1 := hc _ _ c1'
      have k2 := hc _ _ c2'
      have k3 := hc _ _ c3'
      obtain ⟨off, hoff⟩ : ∃ off, wsum (Q.take k) = off := ⟨_, rfl⟩
      rw [Nat.zero_add, hoff] at k0
      rw [hoff] at hle hex
      obtain ⟨d, hd⟩ : ∃ d, Q[k] = d := ⟨_, rfl⟩
      rw [hd] at k1 k2 k3 hle hex hru hbd
      rw [Nat.mul_comm 4 k] at k0 k1 k2 k3
      have k0 : W.cell? (a.add (k * 4)) = some (.int .i64 (off : Int)) := k0
      have k1 : W.cell? ⟨(a.add (k * 4)).block, (a.add (k * 4)).off + 1, none⟩ = some (.int .i32 (d.1 : Int)) := by rw [← add_sum] at k1; simpa [Addr.add] using k1
      have k2 : W.cell? ⟨(a.add (k * 4)).block, (a.add (k * 4)).off + 2, none⟩ = some (.int .i64 (d.2 : Int)) := by rw [← add_sum] at k2; simpa [Addr.add] using k2
      have k3 : W.cell? ⟨(a.add (k * 4)).block, (a.add (k * 4)).off + 3, none⟩ = some (.bool (badSeg d)) := by rw [← add_sum] at k3; simpa [Addr.add] using k3
      obtain ⟨V, hV⟩ : ∃ V, W.alloc (.cells #[.int .i64 (off : Int), .int .i32 (d.1 : Int), .int .i64 (d.2 : Int), .bool (badSeg d)] 64) = V := ⟨_, rfl⟩
      have hVX : V.heap[W.heap.size]? = some (.cells #[.int .i64 (off : Int), .int .i32 (d.1 : Int), .int .i64 (d.2 : Int), .bool (badSeg d)] 64 (0, 0)) := by rw [← hV]; exact (MapKept.heap_alloc _ _).1
      have v0 : V.cell? ⟨W.heap.size, 0, none⟩ = some (.int .i64 (off : Int)) := by simp [World.cell?, hVX]
      have v1 : V.cell? ⟨W.heap.size, 1, none⟩ = some (.int .i32 (d.1 : Int)) := by simp [World.cell?, hVX]
      have v2 : V.cell? ⟨W.heap.size, 2, none⟩ = some (.int .i64 (d.2 : Int)) := by simp [World.cell?, hVX]
      have v3 : V.cell? ⟨W.heap.size, 3, none⟩ = some (.bool (badSeg d)) := by simp [World.cell?, hVX]
      have hVlt : W.heap.size < V.heap.size := (Array.getElem?_eq_some_iff.1 hVX).1
      have hVown : V.ownsRow w1.heap.size 42 3 vv k (flat encO (I.take k)) := by rw [← hV]; exact Hown.out.alloc _
      have hVb : Below w1.heap.size w1 V := by rw [← hV]; exact HbW.out.alloc SW _
      have hVs : w1.heap.size ≤ V.heap.size := by omega
      have Hne := Lib.hid (show vv.ownBlock ≠ some W.heap.size from fun h => by have := (Hown.out.lt _ h).2; omega)
      have hen : encO p = [.int .i32 (d.1 : Int), .string ⟨(pieceB p).toArray⟩, .bool (badSeg d)] := by unfold encO; rw [hru, hbd]
      obtain ⟨X, hX⟩ : ∃ X, (⟨(pieceB p).toArray⟩ : ByteArray) = X := ⟨_, rfl⟩
      rw [hX] at hen hex
      obtain ⟨bd, hbde⟩ : ∃ bd, badSeg d = bd := ⟨_, rfl⟩
      rw [hbde] at k3 hV v3 hen
      have htk : flat encO (I.take (k + 1)) = flat encO (I.take k) ++ [.int .i32 (d.1 : Int), .string X, .bool bd] := by
        obtain ⟨h, rfl⟩ := List.getElem?_eq_some_iff.1 hpk
        rw [List.take_succ_eq_append_getElem h, flat_append, ← hen]
        show _ = _ ++ encO (I[k])
        simp [flat]
      obtain ⟨e2, he2⟩ : ∃ e2, off + d.2 = e2 := ⟨_, rfl⟩
      rw [he2] at hex hle
      have hadd : IntKind.i64.wrap ((off : Int) + (d.2 : Int)) = (e2 : Int) := by rw [IntWalk.i64_in _ (by omega)]; omega
      have ho0 : (0 : Int) ≤ (off : Int) := by omega
      have ho1 : (off : Int) ≤ (e2 : Int) := by omega
      have ho2 : (e2 : Int) ≤ (s.size : Int) := by omega
      have ho3 : off ≤ e2 := by omega
      have ho4 : (0 : Int) ≤ (e2 : Int) := by omega
      have hmx : k + 1 ≤ maxLen := by unfold maxLen; omega
      have hby : (k + 1) * 32 ≤ 140737488355328 := by omega
      have hone : ∀ u ∈ [Value.int .i32 (d.1 : Int), .string X, .bool bd], u.oneCell' = true := by simp [Value.oneCell']
      have Hnews := Lib.hid (fun (W : World) => new_cells W [.int .i32 (d.1 : Int), .string X, .bool bd] 42)
      have HV := Lib.hid hV
      have HVown := Lib.hid hVown
      have HVb := Lib.hid hVb
      have Htk := Lib.hid htk
      clear hc c0' c1' c2' c3' hoff hd he2 hV hVX hVown hVb htk hen hpk hru hbd hX hbde hab Hown HbW
      go_wp2_with fail
      rw [HV.out]
      go_wp2_with fail
      go_region_held3 (fun w => w.cell? ⟨W.heap.size, 0, none⟩ = some (.int .i64 (off : Int)) ∧ w.cell? ⟨W.heap.size, 1, none⟩ = some (.int .i32 (d.1 : Int)) ∧ w.cell? ⟨W.heap.size, 2, none⟩ = some (.int .i64 (d.2 : Int)) ∧ w.cell? ⟨W.heap.size, 3, none⟩ = some (.bool bd))
        (first | exact ⟨v0, v1, v2, v3⟩ | exact ⟨cell_new5 v0, cell_new5 v1, cell_new5 v2, cell_new5 v3⟩ | exact ⟨e0, e1, e2, e3⟩)
        (first
          | (refine step_append5 rfl (.tmp 19) (.tmp 34) 38 rfl w1.heap.size 42 i0 _ 3 32 Tryz.underlying38 hi hz0 hz1 hz2 rfl (by decide) _ k (flat encO (I.take k)) rfl (HVown.out.alloc _) ⟨V.heap.size, 0, none⟩ 1 1 [.int .i32 (d.1 : Int), .string X, .bool bd] rfl rfl (Hnews.out V) hone hmx hby (Nat.le_trans hVs (by simp)) ?_; intro v4 w4 own4 g4; have B4 := (below_D5 (HVb.out.alloc hVs (.cells #[.int .i32 (d.1 : Int), .string X, .bool bd] 42))).grown g4 (Nat.le_trans hVs (by simp)) (fun k hk => (HVown.out.lt k hk).1); have e0 := stay5 g4 HVown.out hVlt v0 Hne.out; have e1 := stay5 g4 HVown.out hVlt v1 Hne.out; have e2 := stay5 g4 HVown.out hVlt v2 Hne.out; have e3 := stay5 g4 HVown.out hVlt v3 Hne.out; have Own4 := Lib.hid own4; have B4' := Lib.hid B4; clear own4 g4 B4))
      go_wp2_with fail
      go_roundw
      case rel =>
        refine ⟨k + 1, w4, _, rfl, rfl, by omega, by go_num, Lib.hid ?_, B4'⟩
        rw [Htk.out]
        exact Own4.out
      case measure => simp [RowKit.intOf]; omega
    · obtain rfl : k = m := by omega
      rw [Hend.out] at Hown
      have Hfin := Lib.hid (Hb1.out.trans (HbW.out.mono HB1))
      have Hown2 := Lib.hid (own_base Hown.out HB1)
      clear HbW Hown
      go_wp2_with fail
      go_ret
      exact ⟨_, rfl, by rw [Hil.out]; exact Hown2.out, Hfin.out⟩
end Go.Proofs.YtjkakemlhhieoaaGreatDoor

/- The document's letter, mark, sigma, lower, upper. -/
namespace Go.Proofs.YtjkakemlhhieoaaGreatDoor
open Go.RowKit Go.Lib

abbrev agO (p : Pc) : Value := .agg #[.int .i32 (runeP p), .string ⟨(pieceB p).toArray⟩, .bool (p.2.2 != 0)]
theorem kind_runeP (p : Pc) (h : p.2.2 = 0) : kind5 (runeP p) = kind5 p.1 := by unfold runeP; rw [if_pos h]
set_option maxRecDepth 100000 in
set_option maxHeartbeats 1000000 in
theorem letterO_any (p : Pc) (w : World) : Calls Tryz.prog 29 #[agO p] w fun e w' => e = .returned (.bool (letter5 kind5 p)) ∧ Below w.heap.size w w' := by
  have hK := fun W => refKind_is (runeP p) W
  have hkd : (cls kindsL (char (runeP p)) : Nat) = kind5 (runeP p) := rfl
  rw [hkd] at hK
  unfold letter5
  by_cases h : p.2.2 = 0
  · have hb : (p.2.2 != 0) = false := by simp [h]
    rw [kind_runeP p h] at hK
    unfold agO
    rw [hb, show decide (p.2.2 = 0 ∧ kind5 p.1 = 3) = decide (kind5 p.1 = 3) from decide_eq_decide.2 ⟨fun a => a.2, fun a => ⟨h, a⟩⟩]
    obtain ⟨q, hq⟩ : ∃ q, kind5 p.1 = q := ⟨_, rfl⟩
    rw [hq] at hK ⊢
    obtain ⟨x, hx⟩ : ∃ x, runeP p = x := ⟨_, rfl⟩
    obtain ⟨X, hX⟩ : ∃ X, (⟨(pieceB p).toArray⟩ : ByteArray) = X := ⟨_, rfl⟩
    rw [hx] at hK
    rw [hx, hX]
    have HK := Lib.hid hK
    obtain ⟨W, hW⟩ : ∃ W, w.alloc (.cells #[.int .i32 x, .string X, .bool false] 42) = W := ⟨_, rfl⟩
    have hWX : W.heap[w.heap.size]? = some (.cells #[.int .i32 x, .string X, .bool false] 42 (0, 0)) := by rw [← hW]; exact (MapKept.heap_alloc _ _).1
    have c0 : W.cell? ⟨w.heap.size, 0, none⟩ = some (.int .i32 x) := by simp [World.cell?, hWX]
    have c2 : W.cell? ⟨w.heap.size, 2, none⟩ = some (.bool false) := by simp [World.cell?, hWX]
    have hbw : Below w.heap.size w W := by rw [← hW]; exact (Below.refl _ w).alloc (Nat.le_refl _) _
    have HW := Lib.hid hW
    have Hbw := Lib.hid hbw
    have hv : ((q : Int) == 3) = decide (q = 3) := by
      by_cases e : q = 3
      · rw [e]; rfl
      · rw [decide_eq_false e, beq_eq_false_iff_ne]; omega
    have Hv := Lib.hid hv
    clear hK hq hx hX hWX hW hbw hb h hv hkd
    go_enter Tryz.func29, Tryz.ntmps29
    go_wp2_with fail
    rw [HW.out]
    go_wp2_with fail
    refine (HK.out _).mono ?_
    rintro _ w9 ⟨rfl, h9⟩
    obtain rfl := h9
    go_wp2_with fail
    go_ret
    exact ⟨ret_b Hv.out, Hbw.out⟩
  · have hb : (p.2.2 != 0) = true := by simp [h]
    unfold agO
    rw [hb, show decide (p.2.2 = 0 ∧ kind5 p.1 = 3) = false from decide_eq_false fun a => h a.1]
    obtain ⟨x, hx⟩ : ∃ x, runeP p = x := ⟨_, rfl⟩
    obtain ⟨X, hX⟩ : ∃ X, (⟨(pieceB p).toArray⟩ : ByteArray) = X := ⟨_, rfl⟩
    rw [hx, hX]
    obtain ⟨W, hW⟩ : ∃ W, w.alloc (.cells #[.int .i32 x, .string X, .bool true] 42) = W := ⟨_, rfl⟩
    have hWX : W.heap[w.heap.size]? = some (.cells #[.int .i32 x, .string X, .bool true] 42 (0, 0)) := by rw [← hW]; exact (MapKept.heap_alloc _ _).1
    have c2 : W.cell? ⟨w.heap.size, 2, none⟩ = some (.bool true) := by simp [World.cell?, hWX]
    have hbw : Below w.heap.size w W := by rw [← hW]; exact (Below.refl _ w).alloc (Nat.le_refl _) _
    have HW := Lib.hid hW
    have Hbw := Lib.hid hbw
    clear hK hx hX hWX hW hbw hb h hkd
    go_enter Tryz.func29, Tryz.ntmps29
    go_wp2_with fail
    rw [HW.out]
    go_wp2_with fail
    go_ret
    exact ⟨rfl, Hbw.out⟩
set_option maxRecDepth 100000 in
set_option maxHeartbeats 1000000 in
theorem markO_any (p : Pc) (w : World) : Calls Tryz.prog 73 #[agO p] w fun e w' => e = .returned (.bool (mark5 kind5 p)) ∧ Below w.heap.size w w' := by
  have hK := fun W => refKind_is (runeP p) W
  have hkd : (cls kindsL (char (runeP p)) : Nat) = kind5 (runeP p) := rfl
  rw [hkd] at hK
  unfold mark5
  by_cases h : p.2.2 = 0
  · have hb : (p.2.2 != 0) = false := by simp [h]
    rw [kind_runeP p h] at hK
    unfold agO
    rw [hb, show decide (p.2.2 = 0 ∧ kind5 p.1 = 2) = decide (kind5 p.1 = 2) from decide_eq_decide.2 ⟨fun a => a.2, fun a => ⟨h, a⟩⟩]
    obtain ⟨q, hq⟩ : ∃ q, kind5 p.1 = q := ⟨_, rfl⟩
    rw [hq] at hK ⊢
    obtain ⟨x, hx⟩ : ∃ x, runeP p = x := ⟨_, rfl⟩
    obtain ⟨X, hX⟩ : ∃ X, (⟨(pieceB p).toArray⟩ : ByteArray) = X := ⟨_, rfl⟩
    rw [hx] at hK
    rw [hx, hX]
    have HK := Lib.hid hK
    obtain ⟨W, hW⟩ : ∃ W, w.alloc (.cells #[.int .i32 x, .string X, .bool false] 42) = W := ⟨_, rfl⟩
    have hWX : W.heap[w.heap.size]? = some (.cells #[.int .i32 x, .string X, .bool false] 42 (0, 0)) := by rw [← hW]; exact (MapKept.heap_alloc _ _).1
    have c0 : W.cell? ⟨w.heap.size, 0, none⟩ = some (.int .i32 x) := by simp [World.cell?, hWX]
    have c2 : W.cell? ⟨w.heap.size, 2, none⟩ = some (.bool false) := by simp [World.cell?, hWX]
    have hbw : Below w.heap.size w W := by rw [← hW]; exact (Below.refl _ w).alloc (Nat.le_refl _) _
    have HW := Lib.hid hW
    have Hbw := Lib.hid hbw
    have hv : ((q : Int) == 2) = decide (q = 2) := by
      by_cases e : q = 2
      · rw [e]; rfl
      · rw [decide_eq_false e, beq_eq_false_iff_ne]; omega
    have Hv := Lib.hid hv
    clear hK hq hx hX hWX hW hbw hb h hv hkd
    go_enter Tryz.func73, Tryz.ntmps73
    go_wp2_with fail
    rw [HW.out]
    go_wp2_with fail
    refine (HK.out _).mono ?_
    rintro _ w9 ⟨rfl, h9⟩
    obtain rfl := h9
    go_wp2_with fail
    go_ret
    exact ⟨ret_b Hv.out, Hbw.out⟩
  · have hb : (p.2.2 != 0) = true := by simp [h]
    unfold agO
    rw [hb, show decide (p.2.2 = 0 ∧ kind5 p.1 = 2) = false from decide_eq_false fun a => h a.1]
    obtain ⟨x, hx⟩ : ∃ x, runeP p = x := ⟨_, rfl⟩
    obtain ⟨X, hX⟩ : ∃ X, (⟨(pieceB p).toArray⟩ : ByteArray) = X := ⟨_, rfl⟩
    rw [hx, hX]
    obtain ⟨W, hW⟩ : ∃ W, w.alloc (.cells #[.int .i32 x, .string X, .bool true] 42) = W := ⟨_, rfl⟩
    have hWX : W.heap[w.heap.size]? = some (.cells #[.int .i32 x, .string X, .bool true] 42 (0, 0)) := by rw [← hW]; exact (MapKept.heap_alloc _ _).1
    have c2 : W.cell? ⟨w.heap.size, 2, none⟩ = some (.bool true) := by simp [World.cell?, hWX]
    have hbw : Below w.heap.size w W := by rw [← hW]; exact (Below.refl _ w).alloc (Nat.le_refl _) _
    have HW := Lib.hid hW
    have Hbw := Lib.hid hbw
    clear hK hx hX hWX hW hbw hb h hkd
    go_enter Tryz.func73, Tryz.ntmps73
    go_wp2_with fail
    rw [HW.out]
    go_wp2_with fail
    go_ret
    exact ⟨rfl, Hbw.out⟩
/-- the cells of a piece in its list -/
theorem ones5_cells {w : World} {B n : Nat} {A : Option Addr} {ps : List Pc} (h : Rd w B 3 A n (flat encO ps)) {k : Nat} {p : Pc} (hp : ps[k]? = some p) (hn : n = ps.length) :
    ∃ a, A = some a ∧ a.block < B ∧ w.cell? (a.add (k * 3)) = some (.int .i32 (runeP p)) ∧ w.cell? ⟨(a.add (k * 3)).block, (a.add (k * 3)).off + 1, none⟩ = some (.string ⟨(pieceB p).toArray⟩) ∧ w.cell? ⟨(a.add (k * 3)).block, (a.add (k * 3)).off + 2, none⟩ = some (.bool (p.2.2 != 0)) := by
  have hk : k < ps.length := (List.getElem?_eq_some_iff.1 hp).1
  obtain ⟨a, rfl, hb, hc⟩ := h.addr (by omega)
  have hx3 : ∀ j u, (encO p)[j]? = some u → w.cell? ((a.add (k * 3)).add j) = some u := by
    intro j u hu
    rw [add_sum]
    exact hc _ u (flat_at encO_len ps k p hp j u hu)
  refine ⟨a, rfl, hb, ?_, ?_, ?_⟩
  · have := hx3 0 _ rfl; simpa [Addr.add] using this
  · have := hx3 1 _ rfl; simpa [Addr.add] using this
  · have := hx3 2 _ rfl; simpa [Addr.add] using this
end Go.Proofs.YtjkakemlhhieoaaGreatDoor

/- The document's sigma: what the great sigma at a place becomes. (Made by tools/mksigma5.py.) -/
namespace Go.Proofs.YtjkakemlhhieoaaGreatDoor
open Go.RowKit Go.Lib

def sigmaV (b1 b2 : Bool) : Int := if b1 = true ∧ b2 = false then 962 else 963
set_option maxRecDepth 100000 in
set_option maxHeartbeats 4000000 in
theorem sigma5_any (ps : List Pc) (A : Option Addr) (n c i : Nat) (w : World) (hrd : Rd w w.heap.size 3 A n (flat encO ps)) (hn : n = ps.length) (hi : i < n) (hmax : n ≤ 134217728) :
    Calls Tryz.prog 55 #[.slice A n c, .int .i64 (i : Int)] w fun e w' => e = .returned (.int .i32 (sigmaV (begins5 kind5 (ps.take i).reverse) (begins5 kind5 (ps.drop (i + 1))))) ∧ Below w.heap.size w w' := by
  obtain ⟨B, hB⟩ : ∃ B, w.heap.size = B := ⟨_, rfl⟩
  obtain ⟨b1, hb1⟩ : ∃ b, begins5 kind5 (ps.take i).reverse = b := ⟨_, rfl⟩
  obtain ⟨b2, hb2⟩ : ∃ b, begins5 kind5 (ps.drop (i + 1)) = b := ⟨_, rfl⟩
  obtain ⟨R, hR⟩ : ∃ R, sigmaV b1 b2 = R := ⟨_, rfl⟩
  have hcells : ∀ (W : World), Below B w W → ∀ (k : Nat) (p : Pc), ps[k]? = some p → ∃ a, A = some a ∧ W.cell? (a.add (k * 3)) = some (.int .i32 (runeP p)) ∧ W.cell? ⟨(a.add (k * 3)).block, (a.add (k * 3)).off + 1, none⟩ = some (.string ⟨(pieceB p).toArray⟩) ∧ W.cell? ⟨(a.add (k * 3)).block, (a.add (k * 3)).off + 2, none⟩ = some (.bool (p.2.2 != 0)) := by
    intro W hW k p hp
    rw [← hB] at hW
    obtain ⟨a, ha, _, h0, h1, h2⟩ := ones5_cells (hrd.below hW) hp hn
    exact ⟨a, ha, h0, h1, h2⟩
  have hget : ∀ k, k < n → ∃ p, ps[k]? = some p := fun k hk => ⟨_, List.getElem?_eq_getElem (by omega)⟩
  rw [hb1, hb2, hR, hB]
  have Hc := Lib.hid hcells
  have Hget := Lib.hid hget
  have HB := Lib.hid hB
  have Hb1 := Lib.hid hb1
  have Hb2 := Lib.hid hb2
  have HR := Lib.hid hR
  have Hn := Lib.hid hn
  have hw0 : IntKind.i64.wrap ((i : Int) + 1) = ((i + 1 : Nat) : Int) := by rw [IntWalk.i64_in _ (by omega)]; omega
  obtain ⟨z0, hz0⟩ : ∃ z, (i : Int) - 1 = z := ⟨_, rfl⟩
  have hwz : IntKind.i64.wrap ((i : Int) - 1) = z0 := by rw [IntWalk.i64_in _ (by omega)]; exact hz0
  have hst : (z0 = -1 ∧ i = 0) ∨ ∃ q : Nat, z0 = (q : Int) ∧ i = q + 1 := by
    by_cases h : i = 0
    · left; omega
    · right; exact ⟨i - 1, by omega, by omega⟩
  have Hst := Lib.hid hst
  clear hcells hget hB hb1 hb2 hR hn hrd hz0 hst
  go_enter Tryz.func55, Tryz.ntmps55
  go_wp2_with fail
  go_loopw [5] (fun v wr => ∃ (z : Int) (j : Nat), v = .int .i64 z ∧ (z = -1 ∧ j = 0 ∨ ∃ q : Nat, z = (q : Int) ∧ j = q + 1) ∧ j ≤ i ∧ Below B w wr ∧ Hid (begins5 kind5 (ps.take j).reverse = b1)) (fun v _ => (RowKit.intOf v + 1).toNat)
  case atStart => exact ⟨z0, i, rfl, Hst.out, Nat.le_refl _, Below.refl _ _, Hb1.out⟩
  case round =>
    obtain ⟨z, j, rfl, hzj, hji, hbw, hrun⟩ := hrel
    have hsz : B ≤ wr.heap.size := by have := hbw.size; have := HB.out; omega
    rcases hzj with ⟨rfl, rfl⟩ | ⟨q, rfl, rfl⟩
    · have hbf : b1 = false := by rw [← hrun.out]; rfl
      have Hbf := Lib.hid hbf
      have Hbw := Lib.hid hbw
      clear hbf hbw hrun
      go_wp2_with fail
      go_loopw [6] (fun v wr => ∃ k : Nat, v = .int .i64 (k : Int) ∧ i + 1 ≤ k ∧ k ≤ n ∧ Below B w wr ∧ Hid (begins5 kind5 (ps.drop k) = b2)) (fun v _ => n - (RowKit.intOf v).toNat)
      case atStart => exact ⟨i + 1, rfl, Nat.le_refl _, by omega, Hbw.out, Hb2.out⟩
      case round =>
        obtain ⟨k, rfl, hik, hkn0, hbq, hrun2⟩ := hrel
        have hsz2 : B ≤ wr.heap.size := by have := hbq.size; have := HB.out; omega
        by_cases hk : k < n
        · obtain ⟨p2, hp2⟩ := Hget.out k hk
          obtain ⟨a2, ha2, k0', k1', k2'⟩ := Hc.out wr hbq k p2 hp2
          subst ha2
          have hkz : (k : Int) < (n : Int) := by omega
          cases hm2 : mark5 kind5 p2 with
          | true =>
            have hfk := fore_mark kind5 hp2 hm2
            have HM2 := Lib.hid (markO_any p2 wr)
            rw [hm2] at HM2
            have Hfk := Lib.hid (hfk.symm.trans hrun2.out)
            have Hq := Lib.hid hbq
            clear hfk hm2 hp2 hbq
            go_wp2_with fail
            refine HM2.out.mono ?_
            rintro _ w3 ⟨rfl, b3⟩
            have Hq3 := Lib.hid (Hq.out.trans (b3.mono hsz2))
            clear b3
            go_wp2_with fail
            go_roundw
            case rel => exact ⟨k + 1, by go_num, by omega, by omega, Hq3.out, Hfk⟩
            case measure => simp [RowKit.intOf]; omega
          | false =>
            have hfo := fore_other kind5 hp2 hm2
            have Hb2l := Lib.hid (hrun2.out.symm.trans hfo)
            have Hp2 := Lib.hid hp2
            clear hfo hp2
            have Hq := Lib.hid hbq
            have HM2 := Lib.hid (markO_any p2 wr)
            rw [hm2] at HM2
            clear hbq hm2
            go_wp2_with fail
            refine HM2.out.mono ?_
            rintro _ w3 ⟨rfl, b3⟩
            have Hq3 := Lib.hid (Hq.out.trans (b3.mono hsz2))
            clear b3 k0' k1' k2'
            go_wp2_with fail
            go_ret
            exact ⟨ret_i32 (by rw [← HR.out]; unfold sigmaV; rw [if_neg (by rintro ⟨h, _⟩; rw [Hbf.out] at h; cases h)]), Hq3.out⟩
        · obtain rfl : k = n := by omega
          have Hq := Lib.hid hbq
          clear hbq
          go_wp2_with fail
          go_ret
          exact ⟨ret_i32 (by rw [← HR.out]; unfold sigmaV; rw [if_neg (by rintro ⟨h, _⟩; rw [Hbf.out] at h; cases h)]), Hq.out⟩
    · obtain ⟨p, hp⟩ := Hget.out q (by omega)
      obtain ⟨a, rfl, k0, k1, k2⟩ := Hc.out wr hbw q p hp
      have hqn : (q : Int) < (n : Int) := by omega
      have hq0 : (0 : Int) ≤ (q : Int) := by omega
      have HM := Lib.hid (markO_any p wr)
      cases hm : mark5 kind5 p with
      | true =>
        have hbk := back_mark kind5 hp hm
        rw [hm] at HM
        obtain ⟨z', hz'⟩ : ∃ z', (q : Int) - 1 = z' := ⟨_, rfl⟩
        have hwz' : IntKind.i64.wrap ((q : Int) - 1) = z' := by rw [IntWalk.i64_in _ (by omega)]; exact hz'
        have hst' : (z' = -1 ∧ q = 0) ∨ ∃ q' : Nat, z' = (q' : Int) ∧ q = q' + 1 := by
          by_cases h : q = 0
          · left; omega
          · right; exact ⟨q - 1, by omega, by omega⟩
        have Hst' := Lib.hid hst'
        have Hz' := Lib.hid hz'
        have Hbk := Lib.hid (hbk.symm.trans hrun.out)
        have Hbw := Lib.hid hbw
        clear hbk hst' hz' hm hp hbw
        go_wp2_with fail
        refine HM.out.mono ?_
        rintro _ w2 ⟨rfl, b2'⟩
        have HF := Lib.hid (Hbw.out.trans (b2'.mono hsz))
        clear b2'
        go_wp2_with fail
        go_roundw
        case rel => exact ⟨z', q, rfl, Hst'.out, by omega, HF.out, Hbk⟩
        case measure =>
          have := Hz'.out
          simp [RowKit.intOf]
          omega
      | false =>
        have hbk := back_other kind5 hp hm
        rw [hm] at HM
        have Hbl := Lib.hid (hrun.out.symm.trans hbk)
        have Hp := Lib.hid hp
        have Hbw := Lib.hid hbw
        clear hbk hm hp hbw hrun k0 k1 k2
        obtain ⟨k0, k1, k2⟩ := (show _ ∧ _ ∧ _ from by obtain ⟨a', ha', h0, h1, h2⟩ := Hc.out wr Hbw.out q p Hp.out; injection ha' with ha'; subst ha'; exact ⟨h0, h1, h2⟩)
        go_wp2_with fail
        refine HM.out.mono ?_
        rintro _ w2 ⟨rfl, b2'⟩
        have Hbw2 := Lib.hid (Hbw.out.trans (b2'.mono hsz))
        clear b2' k0 k1 k2
        go_wp2_with fail
        go_loopw [6] (fun v wr => ∃ k : Nat, v = .int .i64 (k : Int) ∧ i + 1 ≤ k ∧ k ≤ n ∧ Below B w wr ∧ Hid (begins5 kind5 (ps.drop k) = b2)) (fun v _ => n - (RowKit.intOf v).toNat)
        case atStart => exact ⟨i + 1, rfl, Nat.le_refl _, by omega, Hbw2.out, Hb2.out⟩
        case round =>
          obtain ⟨k, rfl, hik, hkn0, hbq, hrun2⟩ := hrel
          have hsz2 : B ≤ wr.heap.size := by have := hbq.size; have := HB.out; omega
          by_cases hk : k < n
          · obtain ⟨p2, hp2⟩ := Hget.out k hk
            obtain ⟨a2, ha2, k0', k1', k2'⟩ := Hc.out wr hbq k p2 hp2
            obtain rfl := Option.some.inj ha2
            have hkz : (k : Int) < (n : Int) := by omega
            cases hm2 : mark5 kind5 p2 with
            | true =>
              have hfk := fore_mark kind5 hp2 hm2
              have HM2 := Lib.hid (markO_any p2 wr)
              rw [hm2] at HM2
              have Hfk := Lib.hid (hfk.symm.trans hrun2.out)
              have Hq := Lib.hid hbq
              clear hfk hm2 hp2 hbq
              go_wp2_with fail
              refine HM2.out.mono ?_
              rintro _ w3 ⟨rfl, b3⟩
              have Hq3 := Lib.hid (Hq.out.trans (b3.mono hsz2))
              clear b3
              go_wp2_with fail
              go_roundw
              case rel => exact ⟨k + 1, by go_num, by omega, by omega, Hq3.out, Hfk⟩
              case measure => simp [RowKit.intOf]; omega
            | false =>
              have hfo := fore_other kind5 hp2 hm2
              have Hb2l := Lib.hid (hrun2.out.symm.trans hfo)
              have Hp2 := Lib.hid hp2
              clear hfo hp2
              have Hq := Lib.hid hbq
              have HM2 := Lib.hid (markO_any p2 wr)
              rw [hm2] at HM2
              have HL := Lib.hid (fun W => letterO_any p W)
              rw [← Hbl.out] at HL
              have HL2 := Lib.hid (fun W => letterO_any p2 W)
              rw [← Hb2l.out] at HL2
              clear hbq hm2
              go_wp2_with fail
              refine HM2.out.mono ?_
              rintro _ w3 ⟨rfl, b3⟩
              have Hq3 := Lib.hid (Hq.out.trans (b3.mono hsz2))
              have hsz3 : B ≤ w3.heap.size := by have := b3.size; omega
              clear b3 k0' k1' k2'
              obtain ⟨a', ha', k0, k1, k2⟩ := Hc.out w3 Hq3.out q p Hp.out
              obtain rfl := Option.some.inj ha'
              clear ha'
              cases hbb : b1 with
              | true =>
                rw [hbb] at HL
                have Hbb := Lib.hid hbb
                clear hbb
                go_wp2_with fail
                refine (HL.out _).mono ?_
                rintro _ w4 ⟨rfl, b4⟩
                have Hq4 := Lib.hid (Hq3.out.trans (b4.mono hsz3))
                have hsz4 : B ≤ w4.heap.size := by have := b4.size; omega
                clear b4 k0 k1 k2
                obtain ⟨a', ha', k0, k1, k2⟩ := Hc.out w4 Hq4.out k p2 Hp2.out
                obtain rfl := Option.some.inj ha'
                clear ha'
                have hkn : ((k : Int) == (n : Int)) = false := by rw [beq_eq_false_iff_ne]; omega
                cases hbc : b2 with
                | true =>
                  rw [hbc] at HL2
                  have Hbc := Lib.hid hbc
                  clear hbc
                  go_wp2_with fail
                  refine (HL2.out _).mono ?_
                  rintro _ w5 ⟨rfl, b5⟩
                  have Hq5 := Lib.hid (Hq4.out.trans (b5.mono hsz4))
                  clear b5
                  go_wp2_with fail
                  go_ret
                  exact ⟨ret_i32 (by rw [← HR.out]; unfold sigmaV; rw [if_neg (by rintro ⟨_, h⟩; rw [Hbc.out] at h; cases h)]), Hq5.out⟩
                | false =>
                  rw [hbc] at HL2
                  have Hbc := Lib.hid hbc
                  clear hbc
                  go_wp2_with fail
                  refine (HL2.out _).mono ?_
                  rintro _ w5 ⟨rfl, b5⟩
                  have Hq5 := Lib.hid (Hq4.out.trans (b5.mono hsz4))
                  clear b5
                  go_wp2_with fail
                  go_ret
                  exact ⟨ret_i32 (by rw [← HR.out]; unfold sigmaV; rw [if_pos ⟨Hbb.out, Hbc.out⟩]), Hq5.out⟩
              | false =>
                rw [hbb] at HL
                have Hbb := Lib.hid hbb
                clear hbb
                go_wp2_with fail
                refine (HL.out _).mono ?_
                rintro _ w4 ⟨rfl, b4⟩
                have Hq4 := Lib.hid (Hq3.out.trans (b4.mono hsz3))
                clear b4
                go_wp2_with fail
                go_ret
                exact ⟨ret_i32 (by rw [← HR.out]; unfold sigmaV; rw [if_neg (by rintro ⟨h, _⟩; rw [Hbb.out] at h; cases h)]), Hq4.out⟩
          · obtain rfl : k = n := by omega
            have Hq := Lib.hid hbq
            obtain ⟨a', ha', k0, k1, k2⟩ := Hc.out wr hbq q p Hp.out
            obtain rfl := Option.some.inj ha'
            have HL := Lib.hid (letterO_any p wr)
            rw [← Hbl.out] at HL
            have hb2f : b2 = false := by rw [← hrun2.out]; exact fore_end kind5 (by rw [← Hn.out]; exact Nat.le_refl _)
            have Hb2f := Lib.hid hb2f
            clear hbq hb2f ha'
            cases hbb : b1 with
            | true =>
              rw [hbb] at HL
              go_wp2_with fail
              refine HL.out.mono ?_
              rintro _ w3 ⟨rfl, b3⟩
              have Hq3 := Lib.hid (Hq.out.trans (b3.mono hsz2))
              have Hbb := Lib.hid hbb
              clear b3 hbb
              go_wp2_with fail
              go_ret
              exact ⟨ret_i32 (by rw [← HR.out]; unfold sigmaV; rw [if_pos ⟨Hbb.out, Hb2f.out⟩]), Hq3.out⟩
            | false =>
              rw [hbb] at HL
              go_wp2_with fail
              refine HL.out.mono ?_
              rintro _ w3 ⟨rfl, b3⟩
              have Hq3 := Lib.hid (Hq.out.trans (b3.mono hsz2))
              have Hbb := Lib.hid hbb
              clear b3 hbb
              go_wp2_with fail
              go_ret
              exact ⟨ret_i32 (by rw [← HR.out]; unfold sigmaV; rw [if_neg (by rintro ⟨h, _⟩; rw [Hbb.out] at h; cases h)]), Hq3.out⟩
end Go.Proofs.YtjkakemlhhieoaaGreatDoor

/- The document's lower and upper: what a character becomes, as bytes. -/
namespace Go.Proofs.YtjkakemlhhieoaaGreatDoor
open Go.RowKit Go.Lib

theorem encode_str {q : Int} (h : Scal q) : Utf8.encode q = ⟨(Lib.encodeRune q).toArray⟩ := by
  refine baX ?_
  show enc q = Lib.encodeRune q
  rw [encodeRune_encN _ h, enc_encN]
  have hc : clean q = q.toNat := by
    unfold Scal at h
    unfold clean Utf8.valid
    rw [if_pos (by simp; omega)]
  rw [hc]
theorem ret_s {a b : ByteArray} (h : a = b) : Ending.returned (.string a) = .returned (.string b) := by rw [h]
/-- what a piece becomes, as bytes -/
def outB (zs : List Int) (p : Pc) : List UInt8 := if p.2.2 = 0 then zs.flatMap Lib.encodeRune else [UInt8.ofNat p.2.2]
theorem out_bad {zs : List Int} {p : Pc} (h : p.2.2 ≠ 0) : outB zs p = pieceB p := by unfold outB pieceB; rw [if_neg h, if_neg h]
theorem out_one {z : Int} {p : Pc} (h : p.2.2 = 0) : outB [z] p = Lib.encodeRune z := by unfold outB; rw [if_pos h, List.flatMap_singleton]
theorem ss_two : Lib.encodeRune 83 = [83] ∧ Lib.encodeRune 115 = [115] := by decide +kernel

section
variable (p : Pc)
set_option maxRecDepth 100000 in
set_option maxHeartbeats 2000000 in
theorem upper5_any (hg : p.2.2 = 0 → Scal p.1) (ss : ByteArray) (z : Int) (hss : ss.data.toList = Lib.encodeRune 83 ++ Lib.encodeRune z) (w : World) :
    Calls Tryz.prog 31 #[agO p, .string ss] w fun e w' => e = .returned (.string ⟨(outB (upZ z p) p).toArray⟩) ∧ Below w.heap.size w w' := by
  unfold agO
  obtain ⟨X, hX⟩ : ∃ X, (⟨(pieceB p).toArray⟩ : ByteArray) = X := ⟨_, rfl⟩
  obtain ⟨x, hx⟩ : ∃ x, runeP p = x := ⟨_, rfl⟩
  obtain ⟨bd, hbd⟩ : ∃ bd, (p.2.2 != 0) = bd := ⟨_, rfl⟩
  rw [hX, hx, hbd]
  obtain ⟨W, hW⟩ : ∃ W, w.alloc (.cells #[.int .i32 x, .string X, .bool bd] 42) = W := ⟨_, rfl⟩
  have hWX : W.heap[w.heap.size]? = some (.cells #[.int .i32 x, .string X, .bool bd] 42 (0, 0)) := by rw [← hW]; exact (MapKept.heap_alloc _ _).1
  have c0 : W.cell? ⟨w.heap.size, 0, none⟩ = some (.int .i32 x) := by simp [World.cell?, hWX]
  have c1 : W.cell? ⟨w.heap.size, 1, none⟩ = some (.string X) := by simp [World.cell?, hWX]
  have c2 : W.cell? ⟨w.heap.size, 2, none⟩ = some (.bool bd) := by simp [World.cell?, hWX]
  have hbw : Below w.heap.size w W := by rw [← hW]; exact (Below.refl _ w).alloc (Nat.le_refl _) _
  obtain ⟨R, hR⟩ : ∃ R, (⟨(outB (upZ z p) p).toArray⟩ : ByteArray) = R := ⟨_, rfl⟩
  rw [hR]
  have HW := Lib.hid hW
  have Hbw := Lib.hid hbw
  by_cases h : p.2.2 = 0
  · have hbf : bd = false := by rw [← hbd]; simp [h]
    subst hbf
    have hs := hg h
    have hx1 : x = p.1 := by rw [← hx]; unfold runeP; rw [if_pos h]
    by_cases h2 : p.1 = 223
    · have h21 : (x == 223) = true := by rw [hx1, h2]; rfl
      have hfin : ss = R := by
        rw [← hR]
        refine baX ?_
        show _ = outB (upZ z p) p
        unfold outB upZ
        rw [if_pos h, if_pos h2, hss]
        simp
      have HF := Lib.hid hfin
      clear hX hx hbd hW hWX hbw hR h h2 hs hx1 hfin
      go_enter Tryz.func31, Tryz.ntmps31
      go_wp2_with fail
      rw [HW.out]
      go_wp2_with fail
      go_ret
      exact ⟨ret_s HF.out, Hbw.out⟩
    · have h21 : (x == 223) = false := by rw [hx1]; simp [h2]
      have hgs := great_scal hs
      have hb : -2147483648 ≤ x ∧ x ≤ 2147483647 := by rw [hx1]; unfold Scal at hs; omega
      have HG := Lib.hid (fun W => rGreat_any x hb.1 hb.2 W)
      have hfin : Utf8.encode (greatF x) = R := by
        rw [← hR, hx1, encode_str hgs]
        congr 1
        unfold upZ
        rw [if_neg h2, out_one h]
      have HF := Lib.hid hfin
      have hu1 : (Tryz.prog.underlying 21).isSome = true := by rw [Tryz.underlying21]; rfl
      have hcv : ∀ W : World, (convert 21 9 (.int .i32 (greatF x))).run Tryz.prog W = .ok (.string (Utf8.encode (greatF x))) W := fun W => run_convert_int_string W _ _ _ _ hu1 Tryz.underlying9
      clear hX hx hbd hW hWX hbw hR h h2 hs hx1 hfin hgs hu1
      go_enter Tryz.func31, Tryz.ntmps31
      go_wp2_with fail
      rw [HW.out]
      go_wp2_with fail
      refine (HG.out _).mono ?_
      rintro _ w3 ⟨rfl, b3⟩
      have Hb3 := Lib.hid (Hbw.out.trans (b3.mono Hbw.out.size))
      clear b3
      go_wp2_with fail
      go_ret
      exact ⟨ret_s HF.out, Hb3.out⟩
  · have hbf : bd = true := by rw [← hbd]; simp [h]
    subst hbf
    have hfin : X = R := by rw [← hX, ← hR, out_bad h]
    have HF := Lib.hid hfin
    clear hX hx hbd hW hWX hbw hR h hfin
    go_enter Tryz.func31, Tryz.ntmps31
    go_wp2_with fail
    rw [HW.out]
    go_wp2_with fail
    go_ret
    exact ⟨ret_s HF.out, Hbw.out⟩
end

set_option maxRecDepth 100000 in
set_option maxHeartbeats 2000000 in
theorem lower5_any (ps : List Pc) (A : Option Addr) (n c i : Nat) (p : Pc) (w : World) (hrd : Rd w w.heap.size 3 A n (flat encO ps)) (hn : n = ps.length) (hp : ps[i]? = some p) (hmax : n ≤ 134217728) (hg : p.2.2 = 0 → Scal p.1) :
    Calls Tryz.prog 28 #[.slice A n c, .int .i64 (i : Int)] w fun e w' => e = .returned (.string ⟨(outB [lowZ kind5 (ps.take i).reverse p (ps.drop (i + 1))] p).toArray⟩) ∧ Below w.heap.size w w' := by
  have hi : i < n := by have := (List.getElem?_eq_some_iff.1 hp).1; omega
  have HSg := Lib.hid (sigma5_any ps A n c i w hrd hn hi hmax)
  have hlz := lowZ_num (ps.take i).reverse (ps.drop (i + 1)) p
  obtain ⟨a, rfl, hab, k0, k1, k2⟩ := ones5_cells hrd hp hn
  obtain ⟨R, hR⟩ : ∃ R, (⟨(outB [lowZ kind5 (ps.take i).reverse p (ps.drop (i + 1))] p).toArray⟩ : ByteArray) = R := ⟨_, rfl⟩
  rw [hR]
  obtain ⟨X, hX⟩ : ∃ X, (⟨(pieceB p).toArray⟩ : ByteArray) = X := ⟨_, rfl⟩
  obtain ⟨x, hx⟩ : ∃ x, runeP p = x := ⟨_, rfl⟩
  obtain ⟨bd, hbd⟩ : ∃ bd, (p.2.2 != 0) = bd := ⟨_, rfl⟩
  rw [hx] at k0
  rw [hX] at k1
  rw [hbd] at k2
  have hiz : (i : Int) < (n : Int) := by omega
  have hi0 : (0 : Int) ≤ (i : Int) := by omega
  have hu1 : (Tryz.prog.underlying 21).isSome = true := by rw [Tryz.underlying21]; rfl
  by_cases h : p.2.2 = 0
  · have hbf : bd = false := by rw [← hbd]; simp [h]
    subst hbf
    have hs := hg h
    have hx1 : x = p.1 := by rw [← hx]; unfold runeP; rw [if_pos h]
    by_cases h2 : p.1 = 931
    · have h21 : (x == 931) = true := by rw [hx1, h2]; rfl
      obtain ⟨v, hv⟩ : ∃ v, sigmaV (begins5 kind5 (ps.take i).reverse) (begins5 kind5 (ps.drop (i + 1))) = v := ⟨_, rfl⟩
      have hvl : lowZ kind5 (ps.take i).reverse p (ps.drop (i + 1)) = v := by
        rw [hlz, ← hv]
        unfold sigmaV
        by_cases hc : begins5 kind5 (ps.take i).reverse = true ∧ begins5 kind5 (ps.drop (i + 1)) = false
        · rw [if_pos ⟨h2, hc⟩, if_pos hc]
        · rw [if_neg (fun q => hc q.2), if_neg hc, h2]; decide +kernel
      have hvs : Scal v := by rw [← hvl]; exact lowZ_scal kind5 hs
      rw [hv] at HSg
      have hfin : Utf8.encode v = R := by rw [← hR, hvl, encode_str hvs, out_one h]
      have HF := Lib.hid hfin
      have hcv : ∀ W : World, (convert 21 9 (.int .i32 v)).run Tryz.prog W = .ok (.string (Utf8.encode v)) W := fun W => run_convert_int_string W _ _ _ _ hu1 Tryz.underlying9
      clear hX hx hbd hR h h2 hs hx1 hfin hu1 hv hvl hvs hlz hp hrd hg hn
      go_enter Tryz.func28, Tryz.ntmps28
      go_wp2_with fail
      refine HSg.out.mono ?_
      rintro _ w3 ⟨rfl, b3⟩
      have Hb3 := Lib.hid b3
      clear b3
      go_wp2_with fail
      go_ret
      exact ⟨ret_s HF.out, Hb3.out⟩
    · have h21 : (x == 931) = false := by rw [hx1]; simp [h2]
      have hvl : lowZ kind5 (ps.take i).reverse p (ps.drop (i + 1)) = smallF x := by rw [hlz, if_neg (fun q => h2 q.1), hx1]
      have hvs : Scal (smallF x) := by rw [hx1]; exact small_scal hs
      have hb : -2147483648 ≤ x ∧ x ≤ 2147483647 := by rw [hx1]; unfold Scal at hs; omega
      have HG := Lib.hid (rSmall_any x hb.1 hb.2 w)
      have hfin : Utf8.encode (smallF x) = R := by rw [← hR, hvl, encode_str hvs, out_one h]
      have HF := Lib.hid hfin
      have hcv : ∀ W : World, (convert 21 9 (.int .i32 (smallF x))).run Tryz.prog W = .ok (.string (Utf8.encode (smallF x))) W := fun W => run_convert_int_string W _ _ _ _ hu1 Tryz.underlying9
      clear hX hx hbd hR h h2 hs hx1 hfin hu1 hvl hvs hlz hp hrd hg HSg hn
      go_enter Tryz.func28, Tryz.ntmps28
      go_wp2_with fail
      refine HG.out.mono ?_
      rintro _ w3 ⟨rfl, b3⟩
      have Hb3 := Lib.hid b3
      clear b3
      go_wp2_with fail
      go_ret
      exact ⟨ret_s HF.out, Hb3.out⟩
  · have hbf : bd = true := by rw [← hbd]; simp [h]
    subst hbf
    have hfin : X = R := by rw [← hX, ← hR, out_bad h]
    have HF := Lib.hid hfin
    clear hX hx hbd hR h hfin hu1 hlz hp hrd hg HSg hn
    go_enter Tryz.func28, Tryz.ntmps28
    go_wp2_with fail
    go_ret
    exact ⟨ret_s HF.out, Below.refl _ _⟩
end Go.Proofs.YtjkakemlhhieoaaGreatDoor

/- The document's Lower and Upper. (Made by tools/mkloops5.py.) -/
namespace Go.Proofs.YtjkakemlhhieoaaGreatDoor
open Go.RowKit Go.Lib

def restI (f : Become) (ps : List Pc) (k : Nat) : List UInt8 := textP (madeP f (ps.take k).reverse (ps.drop k))
theorem restI_step (f : Become) {ps : List Pc} {k : Nat} {p : Pc} (hp : ps[k]? = some p) : restI f ps k = outB (f (ps.take k).reverse p (ps.drop (k + 1))) p ++ restI f ps (k + 1) := by
  unfold restI
  rw [text_from f ps k p hp]
  rfl
theorem restI_zero (f : Become) (l : List UInt8) : restI f (items l) 0 = madeS f l := rfl
theorem restI_end (f : Become) {ps : List Pc} {k : Nat} (h : ps.length ≤ k) : restI f ps k = [] := by
  unfold restI
  rw [List.drop_eq_nil_of_le h]; rfl
theorem items_scal (l : List UInt8) : ∀ p ∈ items l, p.2.2 = 0 → Scal p.1 := fun p hp h => ((TelP_good _ (TelP_items l) p hp).resolve_right fun k => k.1 h).2.1
theorem outB_len {zs : List Int} (p : Pc) (h : zs.length ≤ 2) : (outB zs p).length ≤ 8 := by
  unfold outB
  split
  · have := nums_len zs
    omega
  · simp
theorem strC (l : List UInt8) : Lib.strCells ⟨l.toArray⟩ = byteCells' l := rfl
theorem byteC_append (a b : List UInt8) : byteCells' (a ++ b) = byteCells' a ++ byteCells' b := by simp [byteCells']
theorem ba_size5 (l : List UInt8) : (ByteArray.mk l.toArray).size = l.length := by simp [ByteArray.size]

set_option maxRecDepth 100000 in
set_option maxHeartbeats 4000000 in
theorem rLower_any (s : ByteArray) (w : World) (hs : s.size ≤ 134217728) : Calls Tryz.prog 8 #[.string s] w fun e w' => e = .returned (.string ⟨(madeS (lowF kind5) s.data.toList).toArray⟩) ∧ Below w.heap.size w w' := by
  obtain ⟨i0, hi, hz0, hz1, hz2⟩ := info_parts byte_info
  have hsp := Split5_any s w hs
  have hsc := items_scal s.data.toList
  have hlen : (items s.data.toList).length ≤ s.size := by have := items_len5 s.data.toList; rwa [size_list] at this
  have hz := restI_zero (lowF kind5) s.data.toList
  obtain ⟨ps, hps⟩ : ∃ ps, items s.data.toList = ps := ⟨_, rfl⟩
  obtain ⟨T, hT⟩ : ∃ T, madeS (lowF kind5) s.data.toList = T := ⟨_, rfl⟩
  rw [hps] at hsp hsc hlen hz
  rw [hT] at hz ⊢
  obtain ⟨n, hn⟩ : ∃ n, ps.length = n := ⟨_, rfl⟩
  rw [hn] at hsp hlen
  have hnm : n ≤ 134217728 := by omega
  obtain ⟨B, hB⟩ : ∃ B, w.heap.size = B := ⟨_, rfl⟩
  rw [hB] at hsp ⊢
  obtain ⟨R, hR⟩ : ∃ R, (⟨T.toArray⟩ : ByteArray) = R := ⟨_, rfl⟩
  rw [hR]
  have Hsp := Lib.hid hsp
  have Hsc := Lib.hid hsc
  have Hz := Lib.hid hz
  have Hn := Lib.hid hn
  have HB := Lib.hid hB
  have HR := Lib.hid hR
  have hu1 : (Tryz.prog.underlying 21).isSome = true := by rw [Tryz.underlying21]; rfl
  have Hu1 := Lib.hid hu1
  clear hsp hsc hz hn hB hR hps hT hlen hs hu1
  go_enter Tryz.func8, Tryz.ntmps8
  go_wp2_with fail
  refine Hsp.out.mono ?_
  rintro _ w1 ⟨v0, rfl, own0, b0⟩
  obtain ⟨A0, c0, rfl, _, _⟩ := own_shape own0
  have HB1 : B ≤ w1.heap.size := by have := b0.size; have := HB.out; omega
  have Hb1 := Lib.hid b0
  have R0 := Lib.hid (Rd.own own0)
  clear own0 b0
  go_wp2_with fail
  go_loopw [3, 5] (fun v i wr => ∃ (k : Nat) (W : World) (vv : Value) (acc : List UInt8), W = wr ∧ vv = v ∧ k ≤ n ∧ i = .int .i64 (k : Int) ∧ Hid (W.ownsRow w1.heap.size 5 1 vv acc.length (byteCells' acc)) ∧ Hid (Below w1.heap.size w1 W) ∧ Hid (acc ++ restI (lowF kind5) ps k = T) ∧ acc.length ≤ 8 * k) (fun _ i _ => n - (RowKit.intOf i).toNat)
  case atStart => exact ⟨0, _, _, [], rfl, rfl, Nat.zero_le _, rfl, Lib.hid (World.ownsRow_nil _ _ _ _), Lib.hid (Below.refl _ _), Hz, Nat.zero_le _⟩
  case round =>
    obtain ⟨k, W, vv, acc, hW, hvv, hk, rfl, Hown, HbW, Hacc, hal⟩ := hrel
    subst hW
    subst hvv
    have SW : w1.heap.size ≤ W.heap.size := HbW.out.size
    by_cases hkn : k < n
    · have hki : (k : Int) < (n : Int) := by omega
      have hk0 : (0 : Int) ≤ (k : Int) := by omega
      obtain ⟨p, hp⟩ : ∃ p, ps[k]? = some p := ⟨_, List.getElem?_eq_getElem (by have := Hn.out; omega)⟩
      have hpg := Hsc.out p (List.mem_of_getElem? hp)
      have hrd := R0.out.below HbW.out
      have hrdW : Rd W W.heap.size 3 A0 n (flat encO ps) := hrd.more SW
      have hst := restI_step (lowF kind5) hp
      have h8 := outB_len p (low_two kind5 (ps.take k).reverse p (ps.drop (k + 1)))
      have hnx := Hacc.out
      rw [hst, ← List.append_assoc] at hnx
      have HC := Lib.hid (lower5_any ps A0 n c0 k p W hrdW Hn.out.symm hp hnm hpg)
      obtain ⟨O, hO⟩ : ∃ O, outB [lowZ kind5 (ps.take k).reverse p (ps.drop (k + 1))] p = O := ⟨_, rfl⟩
      rw [hO] at HC
      rw [show outB (lowF kind5 (ps.take k).reverse p (ps.drop (k + 1))) p = O from hO] at h8 hnx
      have Hnx := Lib.hid hnx
      have Hrd0 := Lib.hid hrdW
      clear hst hnx hO hrd hrdW hp
      go_wp2_with fail
      refine HC.out.mono ?_
      rintro _ V ⟨rfl, bV⟩
      have HbV := Lib.hid (HbW.out.trans (bV.mono SW))
      have HoV := Lib.hid (own_below Hown.out bV)
      have SV : w1.heap.size ≤ V.heap.size := by have := bV.size; omega
      clear bV
      go_wp2_with (at_builtin; refine Lib.wpList_append_own_string _ rfl _ _ 37 9 rfl w1.heap.size 5 i0 Tryz.underlying37 Tryz.underlying9 hi hz0 hz1 hz2 _ _ _ rfl HoV.out ⟨O.toArray⟩ rfl ?c3 ?c4 ?c5 ?_)
      case c3 => (try rw [ba_size5]); unfold maxLen; omega
      case c4 => (try rw [ba_size5]); omega
      case c5 => exact SV
      intro v9 w9 own9 g9 _
      have hb9 := HbV.out.grown g9 SV (fun q hq => (HoV.out.lt q hq).1)
      rw [strC, ← byteC_append] at own9
      have own9 : w9.ownsRow w1.heap.size 5 1 v9 (acc ++ O).length (byteCells' (acc ++ O)) := by rw [List.length_append]; exact own9
      have Own9 := Lib.hid own9
      have Hb9 := Lib.hid hb9
      clear own9 g9 hb9
      go_wp2_with fail
      go_roundw
      case rel => exact ⟨k + 1, w9, v9, acc ++ O, rfl, rfl, by omega, by go_num, Own9, Hb9, Hnx, by simp; omega⟩
      case measure => simp [RowKit.intOf]; omega
    · obtain rfl : k = n := by omega
      have hfin := Hacc.out
      rw [restI_end (lowF kind5) (by rw [Hn.out]; exact Nat.le_refl _), List.append_nil] at hfin
      subst hfin
      obtain ⟨A2, c2, rfl, _, _⟩ := own_shape Hown.out
      have hcv := bytes_str4 W _ _ c2 A2 acc (Rd.own Hown.out)
      rw [HR.out] at hcv
      have Hfin := Lib.hid (Hb1.out.trans (HbW.out.mono HB1))
      clear Hown HbW Hacc hal
      go_wp2_with fail
      go_ret
      exact ⟨rfl, Hfin.out⟩
set_option maxRecDepth 100000 in
set_option maxHeartbeats 4000000 in
theorem rUpper_any (s : ByteArray) (w : World) (hs : s.size ≤ 134217728) : Calls Tryz.prog 10 #[.string s] w fun e w' => e = .returned (.string ⟨(madeS upF s.data.toList).toArray⟩) ∧ Below w.heap.size w w' := by
  obtain ⟨i0, hi, hz0, hz1, hz2⟩ := info_parts byte_info
  have hsp := Split5_any s w hs
  have hsc := items_scal s.data.toList
  have hlen : (items s.data.toList).length ≤ s.size := by have := items_len5 s.data.toList; rwa [size_list] at this
  have hz := restI_zero upF s.data.toList
  obtain ⟨ps, hps⟩ : ∃ ps, items s.data.toList = ps := ⟨_, rfl⟩
  obtain ⟨T, hT⟩ : ∃ T, madeS upF s.data.toList = T := ⟨_, rfl⟩
  rw [hps] at hsp hsc hlen hz
  rw [hT] at hz ⊢
  obtain ⟨n, hn⟩ : ∃ n, ps.length = n := ⟨_, rfl⟩
  rw [hn] at hsp hlen
  have hnm : n ≤ 134217728 := by omega
  obtain ⟨B, hB⟩ : ∃ B, w.heap.size = B := ⟨_, rfl⟩
  rw [hB] at hsp ⊢
  obtain ⟨R, hR⟩ : ∃ R, (⟨T.toArray⟩ : ByteArray) = R := ⟨_, rfl⟩
  rw [hR]
  have Hsp := Lib.hid hsp
  have Hsc := Lib.hid hsc
  have Hz := Lib.hid hz
  have Hn := Lib.hid hn
  have HB := Lib.hid hB
  have HR := Lib.hid hR
  have hu1 : (Tryz.prog.underlying 21).isSome = true := by rw [Tryz.underlying21]; rfl
  have Hu1 := Lib.hid hu1
  clear hsp hsc hz hn hB hR hps hT hlen hs hu1
  go_enter Tryz.func10, Tryz.ntmps10
  go_wp2_with fail
  refine Hsp.out.mono ?_
  rintro _ w1 ⟨v0, rfl, own0, b0⟩
  obtain ⟨A0, c0, rfl, _, _⟩ := own_shape own0
  have HB1 : B ≤ w1.heap.size := by have := b0.size; have := HB.out; omega
  have Hb1 := Lib.hid b0
  have R0 := Lib.hid (Rd.own own0)
  clear own0 b0
  go_wp2_with fail
  go_loopw [3, 5] (fun v i wr => ∃ (k : Nat) (W : World) (vv : Value) (acc : List UInt8), W = wr ∧ vv = v ∧ k ≤ n ∧ i = .int .i64 (k : Int) ∧ Hid (W.ownsRow w1.heap.size 5 1 vv acc.length (byteCells' acc)) ∧ Hid (Below w1.heap.size w1 W) ∧ Hid (acc ++ restI upF ps k = T) ∧ acc.length ≤ 8 * k) (fun _ i _ => n - (RowKit.intOf i).toNat)
  case atStart => exact ⟨0, _, _, [], rfl, rfl, Nat.zero_le _, rfl, Lib.hid (World.ownsRow_nil _ _ _ _), Lib.hid (Below.refl _ _), Hz, Nat.zero_le _⟩
  case round =>
    obtain ⟨k, W, vv, acc, hW, hvv, hk, rfl, Hown, HbW, Hacc, hal⟩ := hrel
    subst hW
    subst hvv
    have SW : w1.heap.size ≤ W.heap.size := HbW.out.size
    by_cases hkn : k < n
    · have hki : (k : Int) < (n : Int) := by omega
      have hk0 : (0 : Int) ≤ (k : Int) := by omega
      obtain ⟨p, hp⟩ : ∃ p, ps[k]? = some p := ⟨_, List.getElem?_eq_getElem (by have := Hn.out; omega)⟩
      have hpg := Hsc.out p (List.mem_of_getElem? hp)
      have hrd := R0.out.below HbW.out
      have hrdW : Rd W W.heap.size 3 A0 n (flat encO ps) := hrd.more SW
      have hst := restI_step upF hp
      have h8 := outB_len p (up_two (ps.take k).reverse p (ps.drop (k + 1)))
      have hnx := Hacc.out
      rw [hst, ← List.append_assoc] at hnx
      have HC := Lib.hid (upper5_any p hpg ⟨#[83, 83]⟩ 83 (by rw [ss_two.1]; rfl) W)
      obtain ⟨O, hO⟩ : ∃ O, outB (upZ 83 p) p = O := ⟨_, rfl⟩
      rw [hO] at HC
      rw [show outB (upF (ps.take k).reverse p (ps.drop (k + 1))) p = O from hO] at h8 hnx
      have Hnx := Lib.hid hnx
      have Hrd0 := Lib.hid hrdW
      obtain ⟨a, rfl, hab, k0, k1, k2⟩ := ones5_cells hrdW hp Hn.out.symm
      clear hst hnx hO hrd hrdW hp
      go_wp2_with fail
      refine HC.out.mono ?_
      rintro _ V ⟨rfl, bV⟩
      have HbV := Lib.hid (HbW.out.trans (bV.mono SW))
      have HoV := Lib.hid (own_below Hown.out bV)
      have SV : w1.heap.size ≤ V.heap.size := by have := bV.size; omega
      clear bV
      go_wp2_with (at_builtin; refine Lib.wpList_append_own_string _ rfl _ _ 37 9 rfl w1.heap.size 5 i0 Tryz.underlying37 Tryz.underlying9 hi hz0 hz1 hz2 _ _ _ rfl HoV.out ⟨O.toArray⟩ rfl ?c3 ?c4 ?c5 ?_)
      case c3 => (try rw [ba_size5]); unfold maxLen; omega
      case c4 => (try rw [ba_size5]); omega
      case c5 => exact SV
      intro v9 w9 own9 g9 _
      have hb9 := HbV.out.grown g9 SV (fun q hq => (HoV.out.lt q hq).1)
      rw [strC, ← byteC_append] at own9
      have own9 : w9.ownsRow w1.heap.size 5 1 v9 (acc ++ O).length (byteCells' (acc ++ O)) := by rw [List.length_append]; exact own9
      have Own9 := Lib.hid own9
      have Hb9 := Lib.hid hb9
      clear own9 g9 hb9
      go_wp2_with fail
      go_roundw
      case rel => exact ⟨k + 1, w9, v9, acc ++ O, rfl, rfl, by omega, by go_num, Own9, Hb9, Hnx, by simp; omega⟩
      case measure => simp [RowKit.intOf]; omega
    · obtain rfl : k = n := by omega
      have hfin := Hacc.out
      rw [restI_end upF (by rw [Hn.out]; exact Nat.le_refl _), List.append_nil] at hfin
      subst hfin
      obtain ⟨A2, c2, rfl, _, _⟩ := own_shape Hown.out
      have hcv := bytes_str4 W _ _ c2 A2 acc (Rd.own Hown.out)
      rw [HR.out] at hcv
      have Hfin := Lib.hid (Hb1.out.trans (HbW.out.mono HB1))
      clear Hown HbW Hacc hal
      go_wp2_with fail
      go_ret
      exact ⟨rfl, Hfin.out⟩
end Go.Proofs.YtjkakemlhhieoaaGreatDoor

/- How long what is folded becomes; which texts may be folded. -/
namespace Go.Proofs.YtjkakemlhhieoaaGreatDoor
open Go.RowKit Go.Lib

theorem apartS_lenF (l : List UInt8) : (apartS l).length ≤ 16 * l.length := by
  unfold apartS
  have h1 := textP_le (apartP l)
  have h2 := apartP_len l
  omega
theorem foldG_len (p : Pc) : (foldG p).length ≤ 2 := by
  unfold foldG
  split
  · unfold numsP
    rw [List.length_map]
    exact foldF_len [] p []
  · simp
theorem flat_lenF : ∀ ps : List Pc, (ps.flatMap foldG).length ≤ ps.length * 2
  | [] => Nat.le_refl _
  | p :: t => by
    rw [List.flatMap_cons, List.length_append, List.length_cons]
    have := foldG_len p
    have := flat_lenF t
    omega
theorem foldP_len (l : List UInt8) : (foldP l).length ≤ 8 * l.length := by
  unfold foldP
  have := flat_lenF (apartP l)
  have := apartP_len l
  omega
theorem foldT_len (l : List UInt8) : (foldT l).length ≤ 32 * l.length := by
  unfold foldT
  have := textP_le (foldP l)
  have := foldP_len l
  omega
theorem foldS_len (l : List UInt8) : (foldS l).length ≤ 32 * l.length := by rw [foldS_eq]; exact foldT_len l
/-- up to 2^23 bytes -/
theorem fine_of {l : List UInt8} (h : l.length ≤ 8388608) : Fine5 l := by
  have h1 := apartS_lenF l
  have h2 := foldT_len l
  unfold Fine5
  omega
theorem fine_small (s : ByteArray) (h : s.size ≤ 1048576) : Fine5 s.data.toList := fine_of (by rw [size_list]; omega)
/-- what takes apart as a text that may be folded does -/
theorem fine_like {l m : List UInt8} (hl : l.length ≤ 1048576) (hm : m.length ≤ 268435456) (h : apartP m = apartP l) : Fine5 m := by
  have e1 : apartS m = apartS l := by unfold apartS; rw [h]
  have e2 : foldT m = foldT l := by unfold foldT foldP; rw [h]
  have h1 := apartS_lenF l
  have h2 := foldT_len l
  unfold Fine5
  rw [e1, e2]
  omega
theorem fine_fold {l : List UInt8} (hl : l.length ≤ 1048576) : Fine5 (foldS l) := by
  have h0 := foldS_len l
  have e1 : apartS (foldS l) = foldS l := by unfold foldS; exact apartS_twice _
  have e2 : foldT (foldS l) = foldT l := by unfold foldT; rw [foldP_twice]
  have h2 := foldT_len l
  unfold Fine5
  rw [e1, e2]
  omega
end Go.Proofs.YtjkakemlhhieoaaGreatDoor

/- The document's Fold. (Made by tools/mkloops5.py.) -/
namespace Go.Proofs.YtjkakemlhhieoaaGreatDoor
open Go.RowKit Go.Lib

set_option maxRecDepth 100000 in
set_option maxHeartbeats 4000000 in
theorem rFold_any (s : ByteArray) (w : World) (hs : s.size ≤ 4194304) : Calls Tryz.prog 14 #[.string s] w fun e w' => e = .returned (.string ⟨(foldS s.data.toList).toArray⟩) ∧ Below w.heap.size w w' := by
  obtain ⟨i0, hi, hz0, hz1, hz2⟩ := info_parts byte_info
  have hl4 : s.data.toList.length ≤ 4194304 := by rw [size_list]; exact hs
  have hal := apartS_lenF s.data.toList
  have hfl := foldT_len s.data.toList
  have HAp := Lib.hid (rApart_any s w (by omega))
  have hsp := fun W => Split5_any ⟨(apartS s.data.toList).toArray⟩ W (by rw [ba_size5]; omega)
  rw [show (ByteArray.mk (apartS s.data.toList).toArray).data.toList = apartS s.data.toList from rfl] at hsp
  have hsc := items_scal (apartS s.data.toList)
  have hlen := items_len5 (apartS s.data.toList)
  have hz := restI_zero foldF (apartS s.data.toList)
  rw [madeS_fold] at hz
  have hfin2 := fun W => rApart_any ⟨(foldT s.data.toList).toArray⟩ W (by rw [ba_size5]; omega)
  rw [show apartS (ByteArray.mk (foldT s.data.toList).toArray).data.toList = foldS s.data.toList from rfl] at hfin2
  have hTl : (foldT s.data.toList).length ≤ 134217728 := by omega
  obtain ⟨xa, hxa⟩ : ∃ xa, (⟨(apartS s.data.toList).toArray⟩ : ByteArray) = xa := ⟨_, rfl⟩
  obtain ⟨ps, hps⟩ : ∃ ps, items (apartS s.data.toList) = ps := ⟨_, rfl⟩
  obtain ⟨T, hT⟩ : ∃ T, foldT s.data.toList = T := ⟨_, rfl⟩
  obtain ⟨T2, hT2⟩ : ∃ T2, foldS s.data.toList = T2 := ⟨_, rfl⟩
  rw [hps] at hsp hsc hlen hz
  rw [hxa] at HAp hsp
  rw [hT] at hz hfin2
  rw [hT2] at hfin2 ⊢
  have Hfin2 := Lib.hid hfin2
  clear hfin2 hT2 hxa hTl hfl
  obtain ⟨n, hn⟩ : ∃ n, ps.length = n := ⟨_, rfl⟩
  rw [hn] at hsp hlen
  have hnm : n ≤ 134217728 := by omega
  clear hal hl4
  obtain ⟨B, hB⟩ : ∃ B, w.heap.size = B := ⟨_, rfl⟩
  rw [hB]
  obtain ⟨R, hR⟩ : ∃ R, (⟨T.toArray⟩ : ByteArray) = R := ⟨_, rfl⟩
  rw [hR] at Hfin2
  have Hsp := Lib.hid hsp
  have Hsc := Lib.hid hsc
  have Hz := Lib.hid hz
  have Hn := Lib.hid hn
  have HB := Lib.hid hB
  have HR := Lib.hid hR
  have hu1 : (Tryz.prog.underlying 21).isSome = true := by rw [Tryz.underlying21]; rfl
  have Hu1 := Lib.hid hu1
  clear hsp hsc hz hn hB hR hps hT hlen hs hu1
  go_enter Tryz.func14, Tryz.ntmps14
  go_wp2_with fail
  refine HAp.out.mono ?_
  rintro _ wa ⟨rfl, ba⟩
  have Hba := Lib.hid ba
  clear ba
  go_wp2_with fail
  refine (Hsp.out wa).mono ?_
  rintro _ w1 ⟨v0, rfl, own0, b0⟩
  obtain ⟨A0, c0, rfl, _, _⟩ := own_shape own0
  have HB1 : B ≤ w1.heap.size := by have := b0.size; have := Hba.out.size; have := HB.out; omega
  have Hb1 : Hid (Below B w w1) := Lib.hid (by rw [← HB.out]; exact Hba.out.trans (b0.mono Hba.out.size))
  have R0 := Lib.hid (Rd.own own0)
  clear own0 b0
  go_wp2_with fail
  go_loopw [3, 5] (fun v i wr => ∃ (k : Nat) (W : World) (vv : Value) (acc : List UInt8), W = wr ∧ vv = v ∧ k ≤ n ∧ i = .int .i64 (k : Int) ∧ Hid (W.ownsRow w1.heap.size 5 1 vv acc.length (byteCells' acc)) ∧ Hid (Below w1.heap.size w1 W) ∧ Hid (acc ++ restI foldF ps k = T) ∧ acc.length ≤ 8 * k) (fun _ i _ => n - (RowKit.intOf i).toNat)
  case atStart => exact ⟨0, _, _, [], rfl, rfl, Nat.zero_le _, rfl, Lib.hid (World.ownsRow_nil _ _ _ _), Lib.hid (Below.refl _ _), Hz, Nat.zero_le _⟩
  case round =>
    obtain ⟨k, W, vv, acc, hW, hvv, hk, rfl, Hown, HbW, Hacc, hal⟩ := hrel
    subst hW
    subst hvv
    have SW : w1.heap.size ≤ W.heap.size := HbW.out.size
    by_cases hkn : k < n
    · have hki : (k : Int) < (n : Int) := by omega
      have hk0 : (0 : Int) ≤ (k : Int) := by omega
      obtain ⟨p, hp⟩ : ∃ p, ps[k]? = some p := ⟨_, List.getElem?_eq_getElem (by have := Hn.out; omega)⟩
      have hpg := Hsc.out p (List.mem_of_getElem? hp)
      have hrd := R0.out.below HbW.out
      have hrdW : Rd W W.heap.size 3 A0 n (flat encO ps) := hrd.more SW
      have hst := restI_step foldF hp
      have h8 := outB_len p (foldF_len (ps.take k).reverse p (ps.drop (k + 1)))
      have hnx := Hacc.out
      rw [hst, ← List.append_assoc] at hnx
      obtain ⟨a, rfl, hab, k0, k1, k2⟩ := ones5_cells hrdW hp Hn.out.symm
      have Hnxt := Lib.hid hnx
      have Hh8 := Lib.hid h8
      have HP := Lib.hid hp
      clear hst hrd hrdW hp hnx h8
      by_cases hb : p.2.2 = 0
      · have hbb : (p.2.2 != 0) = false := by simp [hb]
        rw [hbb] at k2
        have hs := hpg hb
        obtain ⟨x, hx⟩ : ∃ x, p.1 = x := ⟨_, rfl⟩
        have hrx : runeP p = x := by unfold runeP; rw [if_pos hb, hx]
        rw [hrx] at k0
        have hxs : Scal x := by rw [← hx]; exact hs
        have hxb : -2147483648 ≤ x ∧ x ≤ 2147483647 := by unfold Scal at hxs; omega
        have hnx := Hnxt.out
        have h8 := Hh8.out
        have hfo : outB (foldF (ps.take k).reverse p (ps.drop (k + 1))) p = (foldN x).flatMap Lib.encodeRune := by unfold outB; rw [if_pos hb, ← hx]; rfl
        rw [hfo] at hnx h8
        by_cases h1 : x = 223
        · have h11 : (x == 223) = true := by simp [h1]
          rw [show (foldN x).flatMap Lib.encodeRune = [115, 115] by rw [h1]; decide +kernel] at hnx h8
          have Hnx := Lib.hid hnx
          clear hnx hfo hs hx hrx hb h1 hxs hbb
          go_wp2_with (at_builtin; refine Lib.wpList_append_own_string _ rfl _ _ 37 9 rfl w1.heap.size 5 i0 Tryz.underlying37 Tryz.underlying9 hi hz0 hz1 hz2 _ _ _ rfl Hown.out ⟨[115, 115].toArray⟩ rfl ?c3 ?c4 ?c5 ?_)
          case c3 => (try rw [ba_size5]); unfold maxLen; omega
          case c4 => (try rw [ba_size5]); omega
          case c5 => exact SW
          intro v9 w9 own9 g9 _
          have hb9 := HbW.out.grown g9 SW (fun q hq => (Hown.out.lt q hq).1)
          rw [strC, ← byteC_append] at own9
          have own9 : w9.ownsRow w1.heap.size 5 1 v9 (acc ++ [115, 115]).length (byteCells' (acc ++ [115, 115])) := by rw [List.length_append]; exact own9
          have Own9 := Lib.hid own9
          have Hb9 := Lib.hid hb9
          clear own9 g9 hb9
          go_wp2_with fail
          go_roundw
          case rel => exact ⟨k + 1, w9, v9, acc ++ [115, 115], rfl, rfl, by omega, by go_num, Own9, Hb9, Hnx, by simp at h8 ⊢; omega⟩
          case measure => simp [RowKit.intOf]; omega
        · have h11 : (x == 223) = false := by simp [h1]
          by_cases h2 : x = 962
          · have h21 : (x == 962) = true := by simp [h2]
            rw [show (foldN x).flatMap Lib.encodeRune = [207, 131] by rw [h2]; decide +kernel] at hnx h8
            have Hnx := Lib.hid hnx
            clear hnx hfo hs hx hrx hb h1 h2 hxs hbb
            go_wp2_with (at_builtin; refine Lib.wpList_append_own_string _ rfl _ _ 37 9 rfl w1.heap.size 5 i0 Tryz.underlying37 Tryz.underlying9 hi hz0 hz1 hz2 _ _ _ rfl Hown.out ⟨[207, 131].toArray⟩ rfl ?c3 ?c4 ?c5 ?_)
            case c3 => (try rw [ba_size5]); unfold maxLen; omega
            case c4 => (try rw [ba_size5]); omega
            case c5 => exact SW
            intro v9 w9 own9 g9 _
            have hb9 := HbW.out.grown g9 SW (fun q hq => (Hown.out.lt q hq).1)
            rw [strC, ← byteC_append] at own9
            have own9 : w9.ownsRow w1.heap.size 5 1 v9 (acc ++ [207, 131]).length (byteCells' (acc ++ [207, 131])) := by rw [List.length_append]; exact own9
            have Own9 := Lib.hid own9
            have Hb9 := Lib.hid hb9
            clear own9 g9 hb9
            go_wp2_with fail
            go_roundw
            case rel => exact ⟨k + 1, w9, v9, acc ++ [207, 131], rfl, rfl, by omega, by go_num, Own9, Hb9, Hnx, by simp at h8 ⊢; omega⟩
            case measure => simp [RowKit.intOf]; omega
          · have h21 : (x == 962) = false := by simp [h2]
            rw [show (foldN x).flatMap Lib.encodeRune = Lib.encodeRune (smallF x) by unfold foldN; rw [if_neg h1, if_neg h2, List.flatMap_singleton]] at hnx h8
            clear hfo hs hx hrx hb h1 h2
            have hvs := small_scal hxs
            have HS := Lib.hid (fun V => rSmall_any x hxb.1 hxb.2 V)
            obtain ⟨O, hO⟩ : ∃ O, Lib.encodeRune (smallF x) = O := ⟨_, rfl⟩
            rw [hO] at hnx h8
            have hcv : ∀ V : World, (convert 21 9 (.int .i32 (smallF x))).run Tryz.prog V = .ok (.string ⟨O.toArray⟩) V := fun V => by rw [← hO, ← encode_str hvs]; exact run_convert_int_string V _ _ _ _ Hu1.out Tryz.underlying9
            have Hnx := Lib.hid hnx
            clear hnx hO hvs hxs hbb
            go_wp2_with fail
            refine (HS.out W).mono ?_
            rintro _ V ⟨rfl, bV⟩
            have HbV := Lib.hid (HbW.out.trans (bV.mono SW))
            have HoV := Lib.hid (own_below Hown.out bV)
            have SV : w1.heap.size ≤ V.heap.size := by have := bV.size; omega
            clear bV
            go_wp2_with (at_builtin; refine Lib.wpList_append_own_string _ rfl _ _ 37 9 rfl w1.heap.size 5 i0 Tryz.underlying37 Tryz.underlying9 hi hz0 hz1 hz2 _ _ _ rfl HoV.out ⟨O.toArray⟩ rfl ?c3 ?c4 ?c5 ?_)
            case c3 => (try rw [ba_size5]); unfold maxLen; omega
            case c4 => (try rw [ba_size5]); omega
            case c5 => exact SV
            intro v9 w9 own9 g9 _
            have hb9 := HbV.out.grown g9 SV (fun q hq => (HoV.out.lt q hq).1)
            rw [strC, ← byteC_append] at own9
            have own9 : w9.ownsRow w1.heap.size 5 1 v9 (acc ++ O).length (byteCells' (acc ++ O)) := by rw [List.length_append]; exact own9
            have Own9 := Lib.hid own9
            have Hb9 := Lib.hid hb9
            clear own9 g9 hb9
            go_wp2_with fail
            go_roundw
            case rel => exact ⟨k + 1, w9, v9, acc ++ O, rfl, rfl, by omega, by go_num, Own9, Hb9, Hnx, by simp; omega⟩
            case measure => simp [RowKit.intOf]; omega
      · have hbb : (p.2.2 != 0) = true := by simp [hb]
        rw [hbb] at k2
        have hnx := Hnxt.out
        have h8 := Hh8.out
        rw [out_bad hb] at hnx h8
        obtain ⟨O, hO⟩ : ∃ O, pieceB p = O := ⟨_, rfl⟩
        rw [hO] at hnx h8 k1
        have Hnx := Lib.hid hnx
        clear hnx hO hb hbb
        go_wp2_with (at_builtin; refine Lib.wpList_append_own_string _ rfl _ _ 37 9 rfl w1.heap.size 5 i0 Tryz.underlying37 Tryz.underlying9 hi hz0 hz1 hz2 _ _ _ rfl Hown.out ⟨O.toArray⟩ rfl ?c3 ?c4 ?c5 ?_)
        case c3 => (try rw [ba_size5]); unfold maxLen; omega
        case c4 => (try rw [ba_size5]); omega
        case c5 => exact SW
        intro v9 w9 own9 g9 _
        have hb9 := HbW.out.grown g9 SW (fun q hq => (Hown.out.lt q hq).1)
        rw [strC, ← byteC_append] at own9
        have own9 : w9.ownsRow w1.heap.size 5 1 v9 (acc ++ O).length (byteCells' (acc ++ O)) := by rw [List.length_append]; exact own9
        have Own9 := Lib.hid own9
        have Hb9 := Lib.hid hb9
        clear own9 g9 hb9
        go_wp2_with fail
        go_roundw
        case rel => exact ⟨k + 1, w9, v9, acc ++ O, rfl, rfl, by omega, by go_num, Own9, Hb9, Hnx, by simp; omega⟩
        case measure => simp [RowKit.intOf]; omega
    · obtain rfl : k = n := by omega
      have hfin := Hacc.out
      rw [restI_end foldF (by rw [Hn.out]; exact Nat.le_refl _), List.append_nil] at hfin
      subst hfin
      obtain ⟨A2, c2, rfl, _, _⟩ := own_shape Hown.out
      have hcv := bytes_str4 W _ _ c2 A2 acc (Rd.own Hown.out)
      rw [HR.out] at hcv
      have Hfin := Lib.hid (Hb1.out.trans (HbW.out.mono HB1))
      clear Hown HbW Hacc hal
      go_wp2_with fail
      refine (Hfin2.out _).mono ?_
      rintro _ wz ⟨rfl, bz⟩
      have Hfz := Lib.hid (Hfin.out.trans (bz.mono (Nat.le_trans HB1 SW)))
      clear bz
      go_wp2_with fail
      go_ret
      exact ⟨rfl, Hfz.out⟩
end Go.Proofs.YtjkakemlhhieoaaGreatDoor
