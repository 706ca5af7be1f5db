/- The document's Spans, walked: every table, every value. -/
import Derived.Test.YthakdkpgobloiabValue
import Derived.Test.YthakdkpgobloiabSpans
import Derived.Test.YthakdkpgobloiabTiles
import Derived.Deep.QuietTactic
import Derived.BigQuiet
import Derived.Deep.RegionHeld3
namespace Go.Proofs.Ythakdkpgobloiab
open Go.RowKit Go.Lib

theorem refStep_off (lo hi c : Nat) (v : Int) (out : List (Nat × Nat)) (h : ¬ ((c : Int) = v ∧ lo ≠ 55296)) : refStep lo hi c v out = out := by unfold refStep; rw [if_neg h]
theorem refStep_new (lo hi c : Nat) (v : Int) (out : List (Nat × Nat)) (h : (c : Int) = v ∧ lo ≠ 55296) (hn : ¬ (out ≠ [] ∧ (out.getLastD (0, 0)).2 + 1 = lo)) : refStep lo hi c v out = out ++ [(lo, hi - 1)] := by unfold refStep; rw [if_pos h, if_neg hn]
theorem refStep_on (lo hi c : Nat) (v : Int) (out : List (Nat × Nat)) (a : Nat × Nat) (h : (c : Int) = v ∧ lo ≠ 55296) (hn : a.2 + 1 = lo) : refStep lo hi c v (out ++ [a]) = out ++ [(a.1, hi - 1)] := by
  unfold refStep
  rw [if_pos h, if_pos ⟨by simp, by simpa using hn⟩]
  simp
theorem spCells_on (out : List (Nat × Nat)) (a : Nat × Nat) (n : Nat) : spCells (out ++ [(a.1, n)]) = (spCells (out ++ [a])).set (2 * out.length + 1) (.int .i32 (n : Int)) := by
  induction out with
  | nil => rfl
  | cons x t ih =>
    have e : ∀ l : List (Nat × Nat), spCells (x :: l) = .int .i32 (x.1 : Int) :: .int .i32 (x.2 : Int) :: spCells l := fun _ => rfl
    simp only [List.cons_append, List.length_cons]
    rw [show 2 * (t.length + 1) + 1 = (2 * t.length + 1) + 1 + 1 by omega, e, e, ih]
    rfl

theorem step_append_own2 {P : Program} {ops : Array Oper} {o : Oper} {a : Act} {w : World} {K : Act → World → Prop} {Q : Exit → Act → World → Prop} {E : Prop} (hgd : o.guard = none) (s x : Operand) (t : TypeId)
    (ho : o.op = .call { callee := .builtin .append, args := #[s, x], argTypes := #[t, t] })
    (base : Nat) (e : TypeId) (i : TypeInfo) (z : Value) (size bytes : Nat) (ht : P.underlying t = some (.slice e)) (hi : P.info? e = some i) (hz : i.zero = some z)
    (hsize : i.size = size) (hby : i.bytes = bytes) (hzs : z.cells.size = size) (hsz : 0 < size)
    (v : Value) (n : Nat) (xs : List Value) (hs : a.eval s = v) (hown : w.ownsRow base e size v n xs)
    (ad : Addr) (m c : Nat) (news : List Value) (hx : a.eval x = .slice (some ad) m c) (hl : news.length = m * size) (hnews : ∀ j u, news[j]? = some u → w.cell? (ad.add j) = some u) (h1 : ∀ u ∈ news, u.oneCell' = true)
    (h63 : n + m ≤ maxLen) (hbytes : (n + m) * bytes ≤ 140737488355328) (hbase : base ≤ w.heap.size)
    (h : ∀ v' w', w'.ownsRow base e size v' (n + m) (xs ++ news) → w.grownBy w' v.ownBlock → K (a.put o.dst v') w') : if Region.wanted o (yielded ops a.tmps) = true then Oper.wp P o a w K Q else E := by
  have hw : Region.wanted o (yielded ops a.tmps) = true := by simp [Region.wanted, hgd]
  rw [if_pos hw]
  exact wp_append_own w s x t ho base e i z size bytes ht hi hz hsize hby hzs hsz v n xs hs hown ad m c news hx hl hnews h1 h63 hbytes hbase fun v' w' h2 h3 _ => h v' w' h2 h3

set_option maxRecDepth 100000 in
theorem bordL_le : ∀ n ∈ bordL, n ≤ 1114112 := by decide +kernel
theorem own_push {base : Nat} {e : TypeId} {v : Value} {w : World} (acc : List (Nat × Nat)) (lo hi : Nat) (h : w.ownsRow base e 2 v (acc.length + 1) (spCells acc ++ [.int .i32 (lo : Int), .int .i32 (hi : Int)])) : w.ownsRow base e 2 v (acc ++ [(lo, hi)]).length (spCells (acc ++ [(lo, hi)])) := by
  rw [List.length_append, spCells_append]
  exact h
theorem own_N {base n size : Nat} {e : TypeId} {v : Value} {xs : List Value} {w : World} (h : w.ownsRow base e size v n xs) (k : Nat) : (w.drewN k).ownsRow base e size v n xs := h
theorem own_D {base n size : Nat} {e : TypeId} {v : Value} {xs : List Value} {w : World} (h : w.ownsRow base e size v n xs) : w.drew.ownsRow base e size v n xs := h
theorem below_D {B : Nat} {a w : World} (h : Below B a w) : Below B a w.drew := ⟨h.os, h.tape, h.output, h.size, h.block⟩

set_option maxRecDepth 100000 in
set_option maxHeartbeats 4000000 in
theorem want_yes (t v : Int) (ht : 0 ≤ t ∧ t ≤ 5) (w : World) : Calls Try.prog 16 #[.int .i8 t, .int .i64 v] w fun e w' => ∃ u, e = .returned u ∧ w'.ownsRow w.heap.size 35 2 u (spansFrom (tabAt t) v).length (spCells (spansFrom (tabAt t) v)) ∧ Below w.heap.size w w' := by
  obtain ⟨i0, ii, hz0, hz1, hz2⟩ := info_parts span_info
  obtain ⟨B, hB⟩ : ∃ B, w.heap.size = B := ⟨_, rfl⟩
  obtain ⟨z1, z2, z3⟩ := zipAt_ok t ht
  have z3 := z3 v
  obtain ⟨z4, z5⟩ := zip_at _ _ _ z1
  have hval := fun x W => value_any t x ht W
  have hb := borders_any w
  rw [hB] at hb ⊢
  have hcB : ∀ (k n : Nat), bordL[k]? = some n → (w.alloc (.cells ((bordL.map fun (n : Nat) => (n : Int)).map (Value.int .i32)).toArray 21)).cell? ⟨B, k, none⟩ = some (.int .i32 (n : Int)) := by
    intro k n hk
    have := new_cells w ((bordL.map fun (n : Nat) => (n : Int)).map (Value.int .i32)) 21 k (.int .i32 (n : Int)) (by simp [List.getElem?_map, hk])
    rwa [Addr.add_lit, Nat.zero_add, hB] at this
  have hbB : Below B w (w.alloc (.cells ((bordL.map fun (n : Nat) => (n : Int)).map (Value.int .i32)).toArray 21)) := by
    have := (Below.refl B w).alloc (by omega) (.cells ((bordL.map fun (n : Nat) => (n : Int)).map (Value.int .i32)).toArray 21)
    exact this
  have hsB : (w.alloc (.cells ((bordL.map fun (n : Nat) => (n : Int)).map (Value.int .i32)).toArray 21)).heap.size = B + 1 := by simp [hB]
  revert hb hcB hbB hsB
  generalize w.alloc (.cells ((bordL.map fun (n : Nat) => (n : Int)).map (Value.int .i32)).toArray 21) = w1
  intro hb hcB hbB hsB
  have Z3 := Lib.hid z3
  have Z5 := Lib.hid z5
  have Hval := Lib.hid hval
  have HB := Lib.hid hB
  have HbB := Lib.hid hbB
  have HcB := Lib.hid hcB
  have Hb := Lib.hid hb
  have HsB := Lib.hid hsB
  clear z1 z3 z4 z5 hval hb hcB hbB hB hsB
  generalize zipAt t = Z at *
  go_enter Try.func16, Try.ntmps16
  go_wp2_with fail
  refine Hb.out.mono ?_
  rintro _ w' ⟨rfl, rfl⟩
  go_wp2_with fail
  go_loopw [5, 7] (fun u i wr => ∃ (k : Nat) (acc : List (Nat × Nat)) (W : World), W = wr ∧ i = .int .i64 (k : Int) ∧ k ≤ 457 ∧ acc.length ≤ k ∧ W.ownsRow (B + 1) 35 2 u acc.length (spCells acc) ∧ Below (B + 1) w' W ∧ Hid (refFold (Z.drop k) v acc = spansFrom (tabAt t) v)) (fun _ i _ => 457 - (RowKit.intOf i).toNat)
  case atStart => exact ⟨0, [], _, rfl, rfl, by omega, Nat.zero_le _, World.ownsRow_nil _ _ _ _, Below.refl _ _, by unfold Hid; exact Z3.out⟩
  case round =>
    obtain ⟨k, acc, W, hW, rfl, hk, hal, hown, hbW, hacc⟩ := hrel
    subst hW
    by_cases hkn : k < 457
    · have hkz : (k : Int) + 1 < 458 := by omega
      obtain ⟨c1, c2, c3, c4, c5⟩ := Z5.out k (by omega)
      have D1 := Lib.hid (HcB.out _ _ c1)
      have D2 := Lib.hid (HcB.out _ _ c2)
      have d1 := (hbW.cell (p := ⟨B, k, none⟩) (Nat.lt_succ_self B)).trans (HcB.out _ _ c1)
      have d2 := (hbW.cell (p := ⟨B, k + 1, none⟩) (Nat.lt_succ_self B)).trans (HcB.out _ _ c2)
      have hh := hacc.out
      rw [List.drop_eq_getElem_cons (by omega)] at hh
      unfold refFold at hh
      have hv1 := fun W => Hval.out (Z[k].1 : Int) W
      rw [← c3] at hv1
      have lob : Z[k].1 ≤ 1114112 := bordL_le _ (List.mem_of_getElem? c1)
      obtain ⟨lo, hlo⟩ : ∃ lo, Z[k].1 = lo := ⟨_, rfl⟩
      obtain ⟨hi, hhi⟩ : ∃ hi, Z[k].2.1 = hi := ⟨_, rfl⟩
      obtain ⟨c, hc⟩ : ∃ c, Z[k].2.2 = c := ⟨_, rfl⟩
      rw [hlo] at d1 hv1 D1 lob
      rw [hhi] at d2 c4 c5 D2
      rw [hc] at hv1
      rw [hlo, hhi, hc] at hh
      have Hh := Lib.hid hh
      have Hv1 := Lib.hid hv1
      clear hh hv1 hlo hhi hc c1 c2 c3 hacc
      go_wp2_with fail
      refine (Hv1.out _).mono ?_
      rintro _ W' ⟨rfl, rfl⟩
      have HbW := Lib.hid hbW
      have Hown := Lib.hid hown
      clear hbW hown
      by_cases hcv : (c : Int) = v
      · have n1 : decide ((c : Int) = v) = true := decide_eq_true hcv
        have n2 : ((c : Int) == v) = true := by simpa using hcv
        have Hcv := Lib.hid hcv
        clear hcv
        by_cases hlo : lo = 55296
        · have n3 : ((lo : Int) == 55296) = true := by subst hlo; rfl
          have n4 := Lib.hid hlo
          clear hlo
          go_wp2_with fail
          refine ⟨⟨k + 1, acc, _, rfl, rfl, by omega, by omega, Hown.out, HbW.out, ?_⟩, by simp [RowKit.intOf]; omega⟩
          unfold Hid
          rw [← Hh.out, refStep_off _ _ _ _ _ (fun h => h.2 n4.out)]
        · have n3 : ((lo : Int) == 55296) = false := by simp; omega
          have n4 := Lib.hid hlo
          clear hlo
          rcases List.eq_nil_or_concat acc with hac | ⟨l, e, hac⟩
          · subst hac
            obtain ⟨A, cc, rfl, hnc, hcm⟩ := own_shape Hown.out
            have Hown0 : Hid (W'.ownsRow (B + 1) 35 2 (.slice A 0 cc) 0 []) := Lib.hid Hown.out
            have hh := Hh.out
            rw [refStep_new _ _ _ _ _ ⟨Hcv.out, n4.out⟩ (fun h => h.1 rfl)] at hh
            have Hh1 := Lib.hid hh
            clear hh Hh Hown
            simp only [List.length_nil] at *
            go_wp2_with fail
            go_quiet (fail)
            have d1 : (W'.drewN nq).cell? _ = _ := d1
            have d2 : (W'.drewN nq).cell? _ = _ := d2
            have Hown0 := Lib.hid (own_N Hown0.out nq)
            have HbW := Lib.hid (below_N HbW.out nq)
            revert d1 d2 Hown0 HbW
            generalize W'.drewN nq = W2
            intro d1 d2 Hown0 HbW
            go_wp2_with fail
            have hwh : IntKind.i32.wrap ((hi : Int) - 1) = ((hi - 1 : Nat) : Int) := by rw [show (hi : Int) - 1 = ((hi - 1 : Nat) : Int) by omega]; exact IntWalk.i32_in _ (by omega)
            have hBs := HbW.out.size
            have hB2 : B + 1 ≤ W2.heap.size := by have := HsB.out; omega
            have Hnews : Hid (∀ (W : World) j u, [Value.int .i32 (lo : Int), Value.int .i32 ((hi - 1 : Nat) : Int)][j]? = some u → (W.alloc (.cells #[.int .i32 (lo : Int), .int .i32 ((hi - 1 : Nat) : Int)] 35)).cell? ((⟨W.heap.size, 0, none⟩ : Addr).add j) = some u) := fun W => new_cells W [.int .i32 (lo : Int), .int .i32 ((hi - 1 : Nat) : Int)] 35
            have hone : ∀ u ∈ [Value.int .i32 (lo : Int), Value.int .i32 ((hi - 1 : Nat) : Int)], u.oneCell' = true := by simp [Value.oneCell']
            have hk0 : (0 : Int) ≤ (k : Int) := by omega
            have hk1 : (k : Int) < 458 := by omega
            have hk2 : (0 : Int) ≤ (k : Int) + 1 := by omega
            have hk3 : IntKind.i64.wrap ((k : Int) + 1) = (k : Int) + 1 := IntWalk.i64_in _ (by omega)
            have hk4 : ((k : Int) + 1).toNat = k + 1 := by omega
            have hk5 : k < 458 := by omega
            have hk6 : k + 1 < 458 := by omega
            clear hkn hk hal c4 c5 n1 n2 n3 hnc hcm
            have hmx : 0 + 1 ≤ maxLen := by unfold maxLen; omega
            go_region_held3 (fun w => w.cell? ⟨B, k, none⟩ = some (.int .i32 (lo : Int)) ∧ w.cell? ⟨B, k + 1, none⟩ = some (.int .i32 (hi : Int)))
              (first | exact ⟨d1, d2⟩ | exact ⟨cell_alloc_sl _ d1, cell_alloc_sl _ d2⟩ | exact ⟨e1, e2⟩)
              (first
                | (refine step_append_own2 rfl (.tmp 70) (.tmp 82) 31 rfl (B + 1) 35 i0 _ 2 8 Try.underlying31 ii hz0 hz1 hz2 rfl (by decide) _ 0 [] rfl (Hown0.out.alloc _) ⟨W2.heap.size, 0, none⟩ 1 1 [.int .i32 (lo : Int), .int .i32 ((hi - 1 : Nat) : Int)] rfl rfl (Hnews.out W2) hone hmx (by decide) (Nat.le_trans hB2 (by simp)) ?_; intro v3 w3 own3 g3; have B3 := (below_D (HbW.out.alloc hB2 (.cells #[.int .i32 (lo : Int), .int .i32 ((hi - 1 : Nat) : Int)] 35))).grown g3 (Nat.le_trans hB2 (by simp)) (fun k hk => (Hown0.out.lt k hk).1); have e1 := (B3.cell (p := ⟨B, k, none⟩) (Nat.lt_succ_self B)).trans D1.out; have e2 := (B3.cell (p := ⟨B, k + 1, none⟩) (Nat.lt_succ_self B)).trans D2.out; have Own3 := Lib.hid own3; have B3' := Lib.hid B3; clear own3 g3 B3))
            go_wp2_with fail
            go_roundw
            case rel =>
              refine ⟨k + 1, [] ++ [(lo, hi - 1)], w3, rfl, by go_num, by omega, by simp, own_push _ _ _ Own3.out, B3'.out, Hh1.out⟩
            case measure => simp [RowKit.intOf]; omega
          · rw [List.concat_eq_append] at hac
            subst hac
            have hol := Hown.out
            rw [List.length_append] at hol
            obtain ⟨m, hm⟩ : ∃ m, l.length = m := ⟨_, rfl⟩
            rw [hm] at hol
            have hol : W'.ownsRow (B + 1) 35 2 u5 (m + 1) (spCells (l ++ [e])) := hol
            obtain ⟨gb, cap, hv, _, hlt⟩ := hol.form (by omega)
            subst hv
            have ce : W'.cell? ⟨gb, m * 2 + 1, none⟩ = some (.int .i32 (e.2 : Int)) := by
              have := hol.cells (g := gb) rfl _ _ (spCells_at (l ++ [e]) m (by simp [hm])).2
              rw [Addr.add_lit, Nat.zero_add] at this
              simpa [← hm] using this
            have Hol := Lib.hid hol
            have Hm := Lib.hid hm
            have hmk : m + 1 ≤ k := by simp at hal; omega
            have hmb : (m : Int) < (m : Int) + 1 := by omega
            have hm0 : (0 : Int) ≤ (m : Int) := by omega
            have hm1 : decide ((0 : Int) ≤ (m : Int)) = true := decide_eq_true hm0
            have hwm : IntKind.i64.wrap (((m + 1 : Nat) : Int) - 1) = (m : Int) := by rw [show ((m + 1 : Nat) : Int) - 1 = (m : Int) by omega]; exact IntWalk.i64_in _ (by omega)
            have hwm' : IntKind.i64.wrap ((m : Int) + 1 - 1) = (m : Int) := by rw [show (m : Int) + 1 - 1 = (m : Int) by omega]; exact IntWalk.i64_in _ (by omega)
            have hwl : IntKind.i32.wrap ((lo : Int) - 1) = (lo : Int) - 1 := IntWalk.i32_in _ (by omega)
            clear Hown hm hol hal
            by_cases hjn : e.2 + 1 = lo
            · have hh := Hh.out
              rw [refStep_on _ _ _ _ _ _ ⟨Hcv.out, n4.out⟩ hjn] at hh
              have Hh1 := Lib.hid hh
              have g1 : ((e.2 : Int) == (lo : Int) - 1) = true := by simp; omega
              have g2 : decide ((e.2 : Int) = (lo : Int) - 1) = true := decide_eq_true (by omega)
              have g3 : (e.2 : Int) = (lo : Int) - 1 := by omega
              clear hh Hh hjn
              go_wp2_with fail
              go_quiet (fail)
              have d1 : (W'.drewN nq).cell? _ = _ := d1
              have d2 : (W'.drewN nq).cell? _ = _ := d2
              have ce : (W'.drewN nq).cell? _ = _ := ce
              have Hol := Lib.hid (own_N Hol.out nq)
              have HbW := Lib.hid (below_N HbW.out nq)
              revert d1 d2 ce Hol HbW
              generalize W'.drewN nq = W2
              intro d1 d2 ce Hol HbW
              have hwh : IntKind.i32.wrap ((hi : Int) - 1) = ((hi - 1 : Nat) : Int) := by rw [show (hi : Int) - 1 = ((hi - 1 : Nat) : Int) by omega]; exact IntWalk.i32_in _ (by omega)
              have hfr : W2.frozen? ⟨gb, m * 2 + 1, none⟩ = false := Hol.out.frozenAt (m * 2 + 1)
              go_wp2_with fail
              have hB2 : B + 1 ≤ W2.heap.size := by have := HsB.out; have := HbW.out.size; omega
              obtain ⟨st1, st2⟩ := Hol.out.stored (m * 2 + 1) (.int .i32 ((hi - 1 : Nat) : Int))
              refine ⟨⟨k + 1, l ++ [(e.1, hi - 1)], _, rfl, rfl, by omega, by simp [Hm.out]; omega, ?_, HbW.out.grown st2 hB2 (fun k hk => (Hol.out.lt k hk).1), Hh1.out⟩, by simp [RowKit.intOf]; omega⟩
              rw [spCells_on, List.length_append, Hm.out, Nat.mul_comm 2 m]
              exact st1
            · have hh := Hh.out
              rw [refStep_new _ _ _ _ _ ⟨Hcv.out, n4.out⟩ (fun h => hjn (by simpa using h.2))] at hh
              have Hh1 := Lib.hid hh
              have g1 : ((e.2 : Int) == (lo : Int) - 1) = false := by simp; omega
              have g2 : decide ((e.2 : Int) = (lo : Int) - 1) = false := decide_eq_false (by omega)
              have g3 : ¬ (e.2 : Int) = (lo : Int) - 1 := by omega
              have g4 : decide (e.2 + 1 = lo) = false := decide_eq_false hjn
              clear hh Hh hjn
              go_wp2_with fail
              go_quiet (fail)
              have d1 : (W'.drewN nq).cell? _ = _ := d1
              have d2 : (W'.drewN nq).cell? _ = _ := d2
              have Hol := Lib.hid (own_N Hol.out nq)
              have HbW := Lib.hid (below_N HbW.out nq)
              revert d1 d2 Hol HbW
              generalize W'.drewN nq = W2
              intro d1 d2 Hol HbW
              go_wp2_with fail
              have hwh : IntKind.i32.wrap ((hi : Int) - 1) = ((hi - 1 : Nat) : Int) := by rw [show (hi : Int) - 1 = ((hi - 1 : Nat) : Int) by omega]; exact IntWalk.i32_in _ (by omega)
              have hBs := HbW.out.size
              clear ce g1 g2 g3 g4
              have hB2 : B + 1 ≤ W2.heap.size := by have := HsB.out; omega
              have Hnews : Hid (∀ (W : World) j u, [Value.int .i32 (lo : Int), Value.int .i32 ((hi - 1 : Nat) : Int)][j]? = some u → (W.alloc (.cells #[.int .i32 (lo : Int), .int .i32 ((hi - 1 : Nat) : Int)] 35)).cell? ((⟨W.heap.size, 0, none⟩ : Addr).add j) = some u) := fun W => new_cells W [.int .i32 (lo : Int), .int .i32 ((hi - 1 : Nat) : Int)] 35
              have hone : ∀ u ∈ [Value.int .i32 (lo : Int), Value.int .i32 ((hi - 1 : Nat) : Int)], u.oneCell' = true := by simp [Value.oneCell']
              have hk0 : (0 : Int) ≤ (k : Int) := by omega
              have hk1 : (k : Int) < 458 := by omega
              have hk2 : (0 : Int) ≤ (k : Int) + 1 := by omega
              have hk3 : IntKind.i64.wrap ((k : Int) + 1) = (k : Int) + 1 := IntWalk.i64_in _ (by omega)
              have hk4 : ((k : Int) + 1).toNat = k + 1 := by omega
              have hk5 : k < 458 := by omega
              have hk6 : k + 1 < 458 := by omega
              have hmy : (m + 1 + 1) * 8 ≤ 140737488355328 := by omega
              have Hmk := Lib.hid hmk
              clear hkn hk c4 c5 n1 n2 n3 
              have hmx : (m + 1) + 1 ≤ maxLen := by unfold maxLen; omega
              go_region_held3 (fun w => w.cell? ⟨B, k, none⟩ = some (.int .i32 (lo : Int)) ∧ w.cell? ⟨B, k + 1, none⟩ = some (.int .i32 (hi : Int)))
                (first | exact ⟨d1, d2⟩ | exact ⟨cell_alloc_sl _ d1, cell_alloc_sl _ d2⟩ | exact ⟨e1, e2⟩)
                (first
                  | (refine step_append_own2 rfl (.tmp 70) (.tmp 82) 31 rfl (B + 1) 35 i0 _ 2 8 Try.underlying31 ii hz0 hz1 hz2 rfl (by decide) _ (m + 1) (spCells (l ++ [e])) rfl (Hol.out.alloc _) ⟨W2.heap.size, 0, none⟩ 1 1 [.int .i32 (lo : Int), .int .i32 ((hi - 1 : Nat) : Int)] rfl rfl (Hnews.out W2) hone hmx hmy (Nat.le_trans hB2 (by simp)) ?_; intro v3 w3 own3 g3; have B3 := (below_D (HbW.out.alloc hB2 (.cells #[.int .i32 (lo : Int), .int .i32 ((hi - 1 : Nat) : Int)] 35))).grown g3 (Nat.le_trans hB2 (by simp)) (fun k hk => (Hol.out.lt k hk).1); have e1 := (B3.cell (p := ⟨B, k, none⟩) (Nat.lt_succ_self B)).trans D1.out; have e2 := (B3.cell (p := ⟨B, k + 1, none⟩) (Nat.lt_succ_self B)).trans D2.out; have Own3 := Lib.hid own3; have B3' := Lib.hid B3; clear own3 g3 B3))
              go_wp2_with fail
              go_roundw
              case rel =>
                refine ⟨k + 1, (l ++ [e]) ++ [(lo, hi - 1)], w3, rfl, by go_num, by omega, by have := Hmk.out; simp [Hm.out]; omega, own_push _ _ _ (by rw [List.length_append, Hm.out]; exact Own3.out), B3'.out, Hh1.out⟩
              case measure => simp [RowKit.intOf]; omega
      · have n1 : decide ((c : Int) = v) = false := decide_eq_false hcv
        have n2 : ((c : Int) == v) = false := by simpa using hcv
        have n3 := hcv
        clear hcv
        go_wp2_with fail
        refine ⟨⟨k + 1, acc, _, rfl, rfl, by omega, by omega, Hown.out, HbW.out, ?_⟩, by simp [RowKit.intOf]; omega⟩
        unfold Hid
        rw [← Hh.out, refStep_off _ _ _ _ _ (fun h => n3 h.1)]
    · obtain rfl : k = 457 := by omega
      have hz : ¬ ((457 : Int) + 1 < 458) := by omega
      have hq : acc = spansFrom (tabAt t) v := by have := hacc.out; rw [List.drop_of_length_le (by omega)] at this; exact this
      have Hq := Lib.hid hq
      have HbW := Lib.hid hbW
      have Hown := Lib.hid hown
      clear hq hacc hbW hown
      go_wp2_with fail
      go_ret
      rw [← Hq.out]
      exact ⟨_, rfl, own_base Hown.out (by omega), HbB.out.trans (HbW.out.mono (by omega))⟩
end Go.Proofs.Ythakdkpgobloiab
