/- ClassSpansHold, walked. -/
import Derived.Test.YthakdkpgobloiabIs
import Derived.Test.YthakdkpgobloiabTiles
import Derived.Deep.QuietTactic
import Derived.BigQuiet
namespace Go.Proofs.Ythakdkpgobloiab
open Go.RowKit Go.Lib

theorem tabAt_good (t : Int) (h : 0 ≤ t ∧ t ≤ 5) : rises (tabAt t) = true ∧ differ (tabAt t) = true ∧ headOf (tabAt t) = 0 ∧ tabAt t ≠ [] := by
  have h' : t = 0 ∨ t = 1 ∨ t = 2 ∨ t = 3 ∨ t = 4 ∨ t = 5 := by omega
  rcases h' with rfl | rfl | rfl | rfl | rfl | rfl
  · exact ⟨by decide +kernel, by decide +kernel, rfl, by decide +kernel⟩
  · exact ⟨by decide +kernel, by decide +kernel, rfl, by decide +kernel⟩
  · exact ⟨by decide +kernel, by decide +kernel, rfl, by decide +kernel⟩
  · exact ⟨by decide +kernel, by decide +kernel, rfl, by decide +kernel⟩
  · exact ⟨by decide +kernel, by decide +kernel, rfl, by decide +kernel⟩
  · exact ⟨by decide +kernel, by decide +kernel, rfl, by decide +kernel⟩
theorem char_of (x : Nat) (h : isChar x) : char (x : Int) = x := by
  obtain ⟨h1, h2⟩ := h
  unfold char
  rw [if_neg (by omega)]
  omega
/-- what the first loop asks of each span -/
structure SpanOk (t v : Int) (l : List (Nat × Nat)) : Prop where
  le : ∀ j (h : j < l.length), l[j].1 ≤ l[j].2 ∧ l[j].2 ≤ 1114111 ∧ (l[j].2 ≤ 55295 ∨ 57344 ≤ l[j].1)
  ap : ∀ j (h : j + 1 < l.length), l[j].2 + 1 < l[j + 1].1
  is : ∀ j (h : j < l.length) (x : Nat), l[j].1 ≤ x → x ≤ l[j].2 → (cls (tabAt t) (char (x : Int)) : Int) = v
theorem span_ok (t v : Int) (h : 0 ≤ t ∧ t ≤ 5) : SpanOk t v (spansFrom (tabAt t) v) := by
  obtain ⟨g1, g2, g3, g4⟩ := tabAt_good t h
  obtain ⟨_, hm⟩ := tabAt_in t
  have k1 := spansFrom_in (tabAt t) v hm
  have k2 := spansFrom_char (tabAt t) v hm
  have k3 := span_cls (tabAt t) 0 v g1 hm
  have k4 := spans_apart (tabAt t) v g1 g2 hm
  refine ⟨fun j hj => ?_, fun j hj => ?_, fun j hj x h1 h2 => ?_⟩
  · have := k1 _ (List.getElem_mem hj)
    exact ⟨this.1, this.2, k2 _ (List.getElem_mem hj)⟩
  · exact List.pairwise_iff_getElem.1 k4 j (j + 1) (by omega) hj (by omega)
  · have ha := k1 _ (List.getElem_mem hj)
    have hb := k2 _ (List.getElem_mem hj)
    rw [char_of x ⟨by omega, by omega⟩]
    exact (k3 _ (List.getElem_mem hj)).2 x h1 h2

theorem cnt_all (t v : Int) (x : Nat) (h : 0 ≤ t ∧ t ≤ 5) (hx : isChar x) : inCnt (spansFrom (tabAt t) v) x = if (cls (tabAt t) x : Int) = v then 1 else 0 := by
  obtain ⟨g1, g2, g3, g4⟩ := tabAt_good t h
  exact cnt_spans (tabAt t) 0 v x g4 g1 (tabAt_in t).2 hx (by omega)
theorem inCnt_take (l : List (Nat × Nat)) (x i : Nat) (h : i < l.length) : inCnt (l.take (i + 1)) x = inCnt (l.take i) x + (if l[i].1 ≤ x ∧ x ≤ l[i].2 then 1 else 0) := by
  rw [List.take_succ_eq_append_getElem h, inCnt_append]
  congr 1
  unfold inCnt
  by_cases h1 : l[i].1 ≤ x ∧ x ≤ l[i].2
  · rw [if_pos h1]; simp [h1.1, h1.2]
  · rw [if_neg h1]; simp; omega

set_option maxRecDepth 100000 in
set_option maxHeartbeats 8000000 in
theorem hold_yes (t v r : Int) (ht : 0 ≤ t ∧ t ≤ 5) (w : World) : Calls Try.prog 6 #[.int .i8 t, .int .i64 v, .int .i32 r] w fun e w' => e = .returned (.bool true) ∧ Below w.heap.size w w' := by
  obtain ⟨B, hB⟩ : ∃ B, w.heap.size = B := ⟨_, rfl⟩
  have HB := Lib.hid hB
  have hp := Spans_any t v
  have pis := fun x W => is_any t x ht W
  have hok := span_ok t v ht
  have hlen := (spans_small t v).1
  have hcn := fun x hx => cnt_all t v x ht hx
  rw [hB]
  clear hB
  revert hp hok hlen hcn
  generalize spansFrom (tabAt t) v = l
  intro hp hok hlen hcn
  have t0 : ¬ t < 0 := by omega
  have t5 : ¬ 5 < t := by omega
  have Hp := Lib.hid hp
  have Hok := Lib.hid hok
  have Hcn := Lib.hid hcn
  have Pis := Lib.hid pis
  clear hp hok pis ht hcn
  go_enter Try.func6, Try.ntmps6
  go_wp2_with fail
  refine (works_any _).mono ?_
  rintro _ w1 ⟨rfl, b1⟩
  rw [HB.out] at b1
  have B1 := Lib.hid b1
  have hB1 : B ≤ w1.heap.size := by have := b1.size; have := HB.out; omega
  clear b1
  go_wp2_with fail
  refine (Hp.out _).mono ?_
  rintro _ w2 ⟨u, rfl, own2, b2⟩
  obtain ⟨A, c, rfl, hnc, hcm⟩ := own_shape own2
  have Own2 := Lib.hid own2
  have Hb2 := Lib.hid (B1.out.trans (b2.mono hB1))
  have hB2 : B ≤ w2.heap.size := Nat.le_trans hB1 b2.size
  have hB12 := b2.size
  clear own2 b2
  go_wp2_with fail
  go_loopw [28] (fun i wr => ∃ (j : Nat) (W : World), W = wr ∧ i = .int .i64 (j : Int) ∧ j ≤ l.length ∧ Below w2.heap.size w2 W) (fun i _ => l.length - (RowKit.intOf i).toNat)
  case atStart => exact ⟨0, _, rfl, rfl, Nat.zero_le _, Below.refl _ _⟩
  case round =>
    obtain ⟨j, W, hW, rfl, hj, hbW⟩ := hrel
    subst hW
    by_cases hjn : j < l.length
    · have hjz : (j : Int) < (l.length : Int) := by omega
      obtain ⟨gb, cap, hv, _, hlt⟩ := Own2.out.form (by omega)
      injection hv with hA _ hcc
      subst hA hcc
      obtain ⟨k1, k2⟩ := spCells_at l j hjn
      have cells : ∀ i u, (spCells l)[i]? = some u → W.cell? ⟨gb, i, none⟩ = some u := fun i u hu => (hbW.cell (p := ⟨gb, i, none⟩) hlt).trans (by have := Own2.out.cells (g := gb) rfl _ _ hu; rwa [Addr.add_lit, Nat.zero_add] at this)
      have c1 := cells _ _ k1
      have c2 := cells _ _ k2
      obtain ⟨hle, hmx, hsu⟩ := Hok.out.le j hjn
      have his := Hok.out.is j hjn
      have hq := fun (x : Nat) (h1 : l[j].1 ≤ x) (h2 : x ≤ l[j].2) (W : World) => (Pis.out (x : Int) W).mono (R' := fun e w' => e = .returned (.int .i64 v) ∧ Below W.heap.size W w') (fun e w' hh => ⟨by rw [hh.1, his x h1 h2], hh.2⟩)
      have hprev : ∀ i, j = i + 1 → ∃ g0 : Nat, W.cell? ⟨gb, i * 2 + 1, none⟩ = some (.int .i32 (g0 : Int)) ∧ g0 + 1 < l[j].1 := fun i hi => by
        subst hi
        exact ⟨l[i].2, cells _ _ (spCells_at l i (by omega)).2, Hok.out.ap i hjn⟩
      obtain ⟨p, hp⟩ : ∃ p, l[j] = p := ⟨_, rfl⟩
      rw [hp] at c1 c2 hle hmx hsu hq hprev
      obtain ⟨f, g⟩ := p
      dsimp only at c1 c2 hle hmx hsu hq hprev
      have q1 := Lib.hid (hq f (Nat.le_refl _) hle)
      have q2 := Lib.hid (hq g hle (Nat.le_refl _))
      have q3 := Lib.hid (hq (f + (g - f) / 2) (by omega) (by omega))
      have n1 : decide (g < f) = false := decide_eq_false (by omega)
      have n1' : decide ((g : Int) < (f : Int)) = false := decide_eq_false (by omega)
      have n2 : decide ((f : Int) < 0) = false := decide_eq_false (by omega)
      have n3' : decide (1114111 < g) = false := decide_eq_false (by omega)
      have n3 : decide ((1114111 : Int) < (g : Int)) = false := decide_eq_false (by omega)
      have HbW := Lib.hid hbW
      clear cells k1 k2 his hq hp hbW
      have hmid : ((f + (g - f) / 2 : Nat) : Int) = (f : Int) + ((g - f : Nat) : Int) / 2 := by omega
      have q3 := q3.out
      rw [hmid] at q3
      have q3 := Lib.hid q3
      clear hmid
      -- ROUND
      by_cases hfs : f < 57344
      · have n4' : decide (f < 57344) = true := decide_eq_true (by omega)
        have n4 : (f : Int) < 57344 := by omega
        have n5' : decide (55295 < g) = false := decide_eq_false (by omega)
        have n5 : decide ((55295 : Int) < (g : Int)) = false := decide_eq_false (by omega)
        by_cases hj0 : j = 0
        · subst hj0
          clear hprev
          go_wp2_with fail
          have s0 : (W.alloc (.cells #[.int .i32 (f : Int), .int .i32 (g : Int)] 35)).cell? ⟨W.heap.size, 0, none⟩ = some (.int .i32 (f : Int)) := new_cells W [.int .i32 (f : Int), .int .i32 (g : Int)] 35 0 _ rfl
          have s1 : (W.alloc (.cells #[.int .i32 (f : Int), .int .i32 (g : Int)] 35)).cell? ⟨W.heap.size, 1, none⟩ = some (.int .i32 (g : Int)) := new_cells W [.int .i32 (f : Int), .int .i32 (g : Int)] 35 1 _ rfl
          have D1 := Lib.hid (HbW.out.alloc HbW.out.size (.cells #[.int .i32 (f : Int), .int .i32 (g : Int)] 35))
          have hlt1 : W.heap.size < (W.alloc (.cells #[.int .i32 (f : Int), .int .i32 (g : Int)] 35)).heap.size := by simp
          revert s0 s1 D1 hlt1
          generalize W.alloc (.cells #[.int .i32 (f : Int), .int .i32 (g : Int)] 35) = W1
          generalize W.heap.size = bs at *
          intro s0 s1 D1 hlt1
          clear c1 c2
          go_quiet (fail)
          have s0 : (W1.drewN nq).cell? ⟨bs, 0, none⟩ = some (.int .i32 (f : Int)) := s0
          have s1 : (W1.drewN nq).cell? ⟨bs, 1, none⟩ = some (.int .i32 (g : Int)) := s1
          have D1 : Hid (Below w2.heap.size w2 (W1.drewN nq)) := ⟨D1.out.os, D1.out.tape, D1.out.output, D1.out.size, D1.out.block⟩
          have hlt1 : bs < (W1.drewN nq).heap.size := hlt1
          revert s0 s1 D1 hlt1
          generalize W1.drewN nq = W2
          intro s0 s1 D1 hlt1
          go_wp2_with fail
          refine (q1.out _).mono ?_
          rintro _ w3 ⟨rfl, b3⟩
          have s0 := (b3.cell (p := ⟨bs, 0, none⟩) hlt1).trans s0
          have s1 := (b3.cell (p := ⟨bs, 1, none⟩) hlt1).trans s1
          have hlt3 := Nat.lt_of_lt_of_le hlt1 b3.size
          have D3 := Lib.hid (D1.out.trans (b3.mono D1.out.size))
          clear b3 D1 hlt1
          go_wp2_with fail
          refine (q2.out _).mono ?_
          rintro _ w4 ⟨rfl, b4⟩
          have s0 := (b4.cell (p := ⟨bs, 0, none⟩) hlt3).trans s0
          have s1 := (b4.cell (p := ⟨bs, 1, none⟩) hlt3).trans s1
          have D4 := Lib.hid (D3.out.trans (b4.mono D3.out.size))
          clear b4 D3 hlt3
          have hw2 : IntKind.i32.wrap ((g : Int) - (f : Int)) = ((g - f : Nat) : Int) := by rw [show (g : Int) - (f : Int) = ((g - f : Nat) : Int) by omega]; exact IntWalk.i32_in _ (by omega)
          go_wp2_with fail
          refine (q3.out _).mono ?_
          rintro _ w5 ⟨rfl, b5⟩
          have D5 := Lib.hid (D4.out.trans (b5.mono D4.out.size))
          clear b5 D4
          go_wp2_with fail
          go_roundw
          case rel => exact ⟨1, _, rfl, by go_num, by omega, D5.out⟩
          case measure => simp [RowKit.intOf]; omega
        · obtain ⟨i, hi⟩ : ∃ i, j = i + 1 := ⟨j - 1, by omega⟩
          obtain ⟨g0, c3, hg0⟩ := hprev i hi
          clear hprev
          have hjp : (0 : Int) < (j : Int) := by omega
          have hjp' : decide (0 < j) = true := decide_eq_true (by omega)
          have hiz : (i : Int) < (l.length : Int) := by omega
          have hwi : IntKind.i64.wrap ((j : Int) - 1) = (i : Int) := by rw [show (j : Int) - 1 = (i : Int) by omega]; exact IntWalk.i64_in _ (by omega)
          have hwg : IntKind.i32.wrap ((g0 : Int) + 1) = ((g0 + 1 : Nat) : Int) := by rw [show (g0 : Int) + 1 = ((g0 + 1 : Nat) : Int) by omega]; exact IntWalk.i32_in _ (by omega)
          have hfg : decide (f ≤ g0 + 1) = false := decide_eq_false (by omega)
          have hfgy : decide ((f : Int) ≤ (g0 : Int) + 1) = false := decide_eq_false (by omega)
          clear hi hg0 hj0
          go_wp2_with fail
          have s0 : (W.alloc (.cells #[.int .i32 (f : Int), .int .i32 (g : Int)] 35)).cell? ⟨W.heap.size, 0, none⟩ = some (.int .i32 (f : Int)) := new_cells W [.int .i32 (f : Int), .int .i32 (g : Int)] 35 0 _ rfl
          have s1 : (W.alloc (.cells #[.int .i32 (f : Int), .int .i32 (g : Int)] 35)).cell? ⟨W.heap.size, 1, none⟩ = some (.int .i32 (g : Int)) := new_cells W [.int .i32 (f : Int), .int .i32 (g : Int)] 35 1 _ rfl
          have D1 := Lib.hid (HbW.out.alloc HbW.out.size (.cells #[.int .i32 (f : Int), .int .i32 (g : Int)] 35))
          have hlt1 : W.heap.size < (W.alloc (.cells #[.int .i32 (f : Int), .int .i32 (g : Int)] 35)).heap.size := by simp
          have c3 := cell_alloc_sl (.cells #[.int .i32 (f : Int), .int .i32 (g : Int)] 35) c3
          revert s0 s1 D1 hlt1 c3
          generalize W.alloc (.cells #[.int .i32 (f : Int), .int .i32 (g : Int)] 35) = W1
          generalize W.heap.size = bs at *
          intro s0 s1 D1 hlt1 c3
          clear c1 c2
          go_quiet (fail)
          have s0 : (W1.drewN nq).cell? ⟨bs, 0, none⟩ = some (.int .i32 (f : Int)) := s0
          have s1 : (W1.drewN nq).cell? ⟨bs, 1, none⟩ = some (.int .i32 (g : Int)) := s1
          have D1 : Hid (Below w2.heap.size w2 (W1.drewN nq)) := ⟨D1.out.os, D1.out.tape, D1.out.output, D1.out.size, D1.out.block⟩
          have hlt1 : bs < (W1.drewN nq).heap.size := hlt1
          revert s0 s1 D1 hlt1
          generalize W1.drewN nq = W2
          intro s0 s1 D1 hlt1
          go_wp2_with fail
          refine (q1.out _).mono ?_
          rintro _ w3 ⟨rfl, b3⟩
          have s0 := (b3.cell (p := ⟨bs, 0, none⟩) hlt1).trans s0
          have s1 := (b3.cell (p := ⟨bs, 1, none⟩) hlt1).trans s1
          have hlt3 := Nat.lt_of_lt_of_le hlt1 b3.size
          have D3 := Lib.hid (D1.out.trans (b3.mono D1.out.size))
          clear b3 D1 hlt1
          go_wp2_with fail
          refine (q2.out _).mono ?_
          rintro _ w4 ⟨rfl, b4⟩
          have s0 := (b4.cell (p := ⟨bs, 0, none⟩) hlt3).trans s0
          have s1 := (b4.cell (p := ⟨bs, 1, none⟩) hlt3).trans s1
          have D4 := Lib.hid (D3.out.trans (b4.mono D3.out.size))
          clear b4 D3 hlt3
          have hw2 : IntKind.i32.wrap ((g : Int) - (f : Int)) = ((g - f : Nat) : Int) := by rw [show (g : Int) - (f : Int) = ((g - f : Nat) : Int) by omega]; exact IntWalk.i32_in _ (by omega)
          go_wp2_with fail
          refine (q3.out _).mono ?_
          rintro _ w5 ⟨rfl, b5⟩
          have D5 := Lib.hid (D4.out.trans (b5.mono D4.out.size))
          clear b5 D4
          go_wp2_with fail
          go_roundw
          case rel => exact ⟨j + 1, _, rfl, by go_num, by omega, D5.out⟩
          case measure => simp [RowKit.intOf]; omega
      · have n4' : decide (f < 57344) = false := decide_eq_false (by omega)
        have n4 : decide ((f : Int) < 57344) = false := decide_eq_false (by omega)
        by_cases hj0 : j = 0
        · subst hj0
          clear hprev
          go_wp2_with fail
          have s0 : (W.alloc (.cells #[.int .i32 (f : Int), .int .i32 (g : Int)] 35)).cell? ⟨W.heap.size, 0, none⟩ = some (.int .i32 (f : Int)) := new_cells W [.int .i32 (f : Int), .int .i32 (g : Int)] 35 0 _ rfl
          have s1 : (W.alloc (.cells #[.int .i32 (f : Int), .int .i32 (g : Int)] 35)).cell? ⟨W.heap.size, 1, none⟩ = some (.int .i32 (g : Int)) := new_cells W [.int .i32 (f : Int), .int .i32 (g : Int)] 35 1 _ rfl
          have D1 := Lib.hid (HbW.out.alloc HbW.out.size (.cells #[.int .i32 (f : Int), .int .i32 (g : Int)] 35))
          have hlt1 : W.heap.size < (W.alloc (.cells #[.int .i32 (f : Int), .int .i32 (g : Int)] 35)).heap.size := by simp
          revert s0 s1 D1 hlt1
          generalize W.alloc (.cells #[.int .i32 (f : Int), .int .i32 (g : Int)] 35) = W1
          generalize W.heap.size = bs at *
          intro s0 s1 D1 hlt1
          clear c1 c2
          go_quiet (fail)
          have s0 : (W1.drewN nq).cell? ⟨bs, 0, none⟩ = some (.int .i32 (f : Int)) := s0
          have s1 : (W1.drewN nq).cell? ⟨bs, 1, none⟩ = some (.int .i32 (g : Int)) := s1
          have D1 : Hid (Below w2.heap.size w2 (W1.drewN nq)) := ⟨D1.out.os, D1.out.tape, D1.out.output, D1.out.size, D1.out.block⟩
          have hlt1 : bs < (W1.drewN nq).heap.size := hlt1
          revert s0 s1 D1 hlt1
          generalize W1.drewN nq = W2
          intro s0 s1 D1 hlt1
          go_wp2_with fail
          refine (q1.out _).mono ?_
          rintro _ w3 ⟨rfl, b3⟩
          have s0 := (b3.cell (p := ⟨bs, 0, none⟩) hlt1).trans s0
          have s1 := (b3.cell (p := ⟨bs, 1, none⟩) hlt1).trans s1
          have hlt3 := Nat.lt_of_lt_of_le hlt1 b3.size
          have D3 := Lib.hid (D1.out.trans (b3.mono D1.out.size))
          clear b3 D1 hlt1
          go_wp2_with fail
          refine (q2.out _).mono ?_
          rintro _ w4 ⟨rfl, b4⟩
          have s0 := (b4.cell (p := ⟨bs, 0, none⟩) hlt3).trans s0
          have s1 := (b4.cell (p := ⟨bs, 1, none⟩) hlt3).trans s1
          have D4 := Lib.hid (D3.out.trans (b4.mono D3.out.size))
          clear b4 D3 hlt3
          have hw2 : IntKind.i32.wrap ((g : Int) - (f : Int)) = ((g - f : Nat) : Int) := by rw [show (g : Int) - (f : Int) = ((g - f : Nat) : Int) by omega]; exact IntWalk.i32_in _ (by omega)
          go_wp2_with fail
          refine (q3.out _).mono ?_
          rintro _ w5 ⟨rfl, b5⟩
          have D5 := Lib.hid (D4.out.trans (b5.mono D4.out.size))
          clear b5 D4
          go_wp2_with fail
          go_roundw
          case rel => exact ⟨1, _, rfl, by go_num, by omega, D5.out⟩
          case measure => simp [RowKit.intOf]; omega
        · obtain ⟨i, hi⟩ : ∃ i, j = i + 1 := ⟨j - 1, by omega⟩
          obtain ⟨g0, c3, hg0⟩ := hprev i hi
          clear hprev
          have hjp : (0 : Int) < (j : Int) := by omega
          have hjp' : decide (0 < j) = true := decide_eq_true (by omega)
          have hiz : (i : Int) < (l.length : Int) := by omega
          have hwi : IntKind.i64.wrap ((j : Int) - 1) = (i : Int) := by rw [show (j : Int) - 1 = (i : Int) by omega]; exact IntWalk.i64_in _ (by omega)
          have hwg : IntKind.i32.wrap ((g0 : Int) + 1) = ((g0 + 1 : Nat) : Int) := by rw [show (g0 : Int) + 1 = ((g0 + 1 : Nat) : Int) by omega]; exact IntWalk.i32_in _ (by omega)
          have hfg : decide (f ≤ g0 + 1) = false := decide_eq_false (by omega)
          have hfgy : decide ((f : Int) ≤ (g0 : Int) + 1) = false := decide_eq_false (by omega)
          clear hi hg0 hj0
          go_wp2_with fail
          have s0 : (W.alloc (.cells #[.int .i32 (f : Int), .int .i32 (g : Int)] 35)).cell? ⟨W.heap.size, 0, none⟩ = some (.int .i32 (f : Int)) := new_cells W [.int .i32 (f : Int), .int .i32 (g : Int)] 35 0 _ rfl
          have s1 : (W.alloc (.cells #[.int .i32 (f : Int), .int .i32 (g : Int)] 35)).cell? ⟨W.heap.size, 1, none⟩ = some (.int .i32 (g : Int)) := new_cells W [.int .i32 (f : Int), .int .i32 (g : Int)] 35 1 _ rfl
          have D1 := Lib.hid (HbW.out.alloc HbW.out.size (.cells #[.int .i32 (f : Int), .int .i32 (g : Int)] 35))
          have hlt1 : W.heap.size < (W.alloc (.cells #[.int .i32 (f : Int), .int .i32 (g : Int)] 35)).heap.size := by simp
          have c3 := cell_alloc_sl (.cells #[.int .i32 (f : Int), .int .i32 (g : Int)] 35) c3
          revert s0 s1 D1 hlt1 c3
          generalize W.alloc (.cells #[.int .i32 (f : Int), .int .i32 (g : Int)] 35) = W1
          generalize W.heap.size = bs at *
          intro s0 s1 D1 hlt1 c3
          clear c1 c2
          go_quiet (fail)
          have s0 : (W1.drewN nq).cell? ⟨bs, 0, none⟩ = some (.int .i32 (f : Int)) := s0
          have s1 : (W1.drewN nq).cell? ⟨bs, 1, none⟩ = some (.int .i32 (g : Int)) := s1
          have D1 : Hid (Below w2.heap.size w2 (W1.drewN nq)) := ⟨D1.out.os, D1.out.tape, D1.out.output, D1.out.size, D1.out.block⟩
          have hlt1 : bs < (W1.drewN nq).heap.size := hlt1
          revert s0 s1 D1 hlt1
          generalize W1.drewN nq = W2
          intro s0 s1 D1 hlt1
          go_wp2_with fail
          refine (q1.out _).mono ?_
          rintro _ w3 ⟨rfl, b3⟩
          have s0 := (b3.cell (p := ⟨bs, 0, none⟩) hlt1).trans s0
          have s1 := (b3.cell (p := ⟨bs, 1, none⟩) hlt1).trans s1
          have hlt3 := Nat.lt_of_lt_of_le hlt1 b3.size
          have D3 := Lib.hid (D1.out.trans (b3.mono D1.out.size))
          clear b3 D1 hlt1
          go_wp2_with fail
          refine (q2.out _).mono ?_
          rintro _ w4 ⟨rfl, b4⟩
          have s0 := (b4.cell (p := ⟨bs, 0, none⟩) hlt3).trans s0
          have s1 := (b4.cell (p := ⟨bs, 1, none⟩) hlt3).trans s1
          have D4 := Lib.hid (D3.out.trans (b4.mono D3.out.size))
          clear b4 D3 hlt3
          have hw2 : IntKind.i32.wrap ((g : Int) - (f : Int)) = ((g - f : Nat) : Int) := by rw [show (g : Int) - (f : Int) = ((g - f : Nat) : Int) by omega]; exact IntWalk.i32_in _ (by omega)
          go_wp2_with fail
          refine (q3.out _).mono ?_
          rintro _ w5 ⟨rfl, b5⟩
          have D5 := Lib.hid (D4.out.trans (b5.mono D4.out.size))
          clear b5 D4
          go_wp2_with fail
          go_roundw
          case rel => exact ⟨j + 1, _, rfl, by go_num, by omega, D5.out⟩
          case measure => simp [RowKit.intOf]; omega
      -- END ROUND
    · obtain rfl : j = l.length := by omega
      have HbW := Lib.hid hbW
      clear hbW
      by_cases r0 : r < 0
      · have hch : char r = 65533 := by unfold char; rw [if_pos (by omega)]
        have q1 := fun W => Pis.out r W
        have q2 := fun W => Pis.out 65533 W
        rw [hch] at q1
        rw [show char 65533 = 65533 from rfl] at q2
        clear hch
        go_wp2_with fail
        refine (q1 _).mono ?_
        rintro _ w3 ⟨rfl, b3⟩
        have D3 := Lib.hid (HbW.out.trans (b3.mono HbW.out.size))
        clear b3
        go_wp2_with fail
        refine (q2 _).mono ?_
        rintro _ w4 ⟨rfl, b4⟩
        have D4 := Lib.hid (D3.out.trans (b4.mono D3.out.size))
        clear b4
        go_wp2_with fail
        go_ret
        exact ⟨rfl, Hb2.out.trans (D4.out.mono hB2)⟩
      by_cases r1 : 1114111 < r
      · have hch : char r = 65533 := by unfold char; rw [if_pos (by omega)]
        have q1 := fun W => Pis.out r W
        have q2 := fun W => Pis.out 65533 W
        rw [hch] at q1
        rw [show char 65533 = 65533 from rfl] at q2
        clear hch
        go_wp2_with fail
        refine (q1 _).mono ?_
        rintro _ w3 ⟨rfl, b3⟩
        have D3 := Lib.hid (HbW.out.trans (b3.mono HbW.out.size))
        clear b3
        go_wp2_with fail
        refine (q2 _).mono ?_
        rintro _ w4 ⟨rfl, b4⟩
        have D4 := Lib.hid (D3.out.trans (b4.mono D3.out.size))
        clear b4
        go_wp2_with fail
        go_ret
        exact ⟨rfl, Hb2.out.trans (D4.out.mono hB2)⟩
      by_cases r2 : 55296 ≤ r
      · by_cases r3 : r ≤ 57343
        · have hch : char r = 65533 := by unfold char; rw [if_pos (by omega)]
          have q1 := fun W => Pis.out r W
          have q2 := fun W => Pis.out 65533 W
          rw [hch] at q1
          rw [show char 65533 = 65533 from rfl] at q2
          clear hch
          go_wp2_with fail
          refine (q1 _).mono ?_
          rintro _ w3 ⟨rfl, b3⟩
          have D3 := Lib.hid (HbW.out.trans (b3.mono HbW.out.size))
          clear b3
          go_wp2_with fail
          refine (q2 _).mono ?_
          rintro _ w4 ⟨rfl, b4⟩
          have D4 := Lib.hid (D3.out.trans (b4.mono D3.out.size))
          clear b4
          go_wp2_with fail
          go_ret
          exact ⟨rfl, Hb2.out.trans (D4.out.mono hB2)⟩
        · obtain ⟨x, rfl⟩ : ∃ x : Nat, r = (x : Int) := ⟨r.toNat, by omega⟩
          have hx : isChar x := ⟨by omega, by omega⟩
          go_wp2_with fail
          go_loopw [10, 128] (fun n i wq => ∃ (k M : Nat), W = wq ∧ n = .int .i64 (M : Int) ∧ i = .int .i64 (k : Int) ∧ k ≤ l.length ∧ Hid (inCnt (l.take k) x = M)) (fun _ i _ => l.length - (RowKit.intOf i).toNat)
          case atStart => exact ⟨0, 0, rfl, rfl, rfl, Nat.zero_le _, by unfold Hid; simp [inCnt]⟩
          case round =>
            obtain ⟨i, M, hq, rfl, rfl, hi, hM⟩ := hrel
            subst hq
            have hMl : M ≤ l.length := by
              have h1 := hM.out
              have h2 : inCnt (l.take i) x ≤ (l.take i).length := List.countP_le_length
              simp only [List.length_take] at h2
              omega
            by_cases hin : i < l.length
            · have hiz : (i : Int) < (l.length : Int) := by omega
              obtain ⟨gb, cap, hv, _, hlt⟩ := Own2.out.form (by omega)
              injection hv with hA _ hcc
              subst hA hcc
              obtain ⟨k1, k2⟩ := spCells_at l i hin
              have cells : ∀ q u, (spCells l)[q]? = some u → W.cell? ⟨gb, q, none⟩ = some u := fun q u hu => (HbW.out.cell (p := ⟨gb, q, none⟩) hlt).trans (by have := Own2.out.cells (g := gb) rfl _ _ hu; rwa [Addr.add_lit, Nat.zero_add] at this)
              have c1 := cells _ _ k1
              have c2 := cells _ _ k2
              have htk := inCnt_take l x i hin
              obtain ⟨p, hp⟩ : ∃ p, l[i] = p := ⟨_, rfl⟩
              rw [hp] at c1 c2 htk
              obtain ⟨f, g⟩ := p
              dsimp only at c1 c2 htk
              rw [hM.out] at htk
              clear cells k1 k2 hp hM
              by_cases hf : f ≤ x
              · have hfz : (f : Int) ≤ (x : Int) := by omega
                by_cases hg : x ≤ g
                · have hgz : (x : Int) ≤ (g : Int) := by omega
                  rw [if_pos ⟨hf, hg⟩] at htk
                  have Hin := Lib.hid htk
                  clear htk
                  go_wp2_with fail
                  go_roundw
                  case rel => exact ⟨i + 1, M + 1, by simp, by go_num, by go_num, by omega, Hin⟩
                  case measure => simp [RowKit.intOf]; omega
                · have hgz : ¬ (x : Int) ≤ (g : Int) := by omega
                  rw [if_neg (by omega)] at htk
                  simp only [Nat.add_zero] at htk
                  have Hin := Lib.hid htk
                  clear htk
                  go_wp2_with fail
                  go_roundw
                  case rel => exact ⟨i + 1, M, by simp, by go_num, by go_num, by omega, Hin⟩
                  case measure => simp [RowKit.intOf]; omega
              · have hfz : ¬ (f : Int) ≤ (x : Int) := by omega
                rw [if_neg (by omega)] at htk
                simp only [Nat.add_zero] at htk
                have Hin := Lib.hid htk
                clear htk
                go_wp2_with fail
                go_roundw
                case rel => exact ⟨i + 1, M, by simp, by go_num, by go_num, by omega, Hin⟩
                case measure => simp [RowKit.intOf]; omega
            · obtain rfl : i = l.length := by omega
              have hMt := hM.out
              rw [List.take_length, Hcn.out x hx] at hMt
              have q1 := fun W => Pis.out (x : Int) W
              rw [char_of x hx] at q1
              revert hMt q1
              generalize cls (tabAt t) x = cc
              intro hMt q1
              clear hM
              by_cases hcv : (cc : Int) = v
              · rw [if_pos hcv] at hMt
                subst hMt
                have hcb : ((cc : Int) == v) = true := by simpa using hcv
                clear hcv
                go_wp2_with fail
                refine (q1 _).mono ?_
                rintro _ w4 ⟨rfl, b4⟩
                have D4 := Lib.hid (HbW.out.trans (b4.mono HbW.out.size))
                clear b4
                go_wp2_with fail
                go_ret
                exact ⟨rfl, Hb2.out.trans (D4.out.mono hB2)⟩
              · rw [if_neg hcv] at hMt
                subst hMt
                have hcb : ((cc : Int) == v) = false := by simpa using hcv
                clear hcv
                go_wp2_with fail
                refine (q1 _).mono ?_
                rintro _ w4 ⟨rfl, b4⟩
                have D4 := Lib.hid (HbW.out.trans (b4.mono HbW.out.size))
                clear b4
                go_wp2_with fail
                go_ret
                exact ⟨rfl, Hb2.out.trans (D4.out.mono hB2)⟩
      · obtain ⟨x, rfl⟩ : ∃ x : Nat, r = (x : Int) := ⟨r.toNat, by omega⟩
        have hx : isChar x := ⟨by omega, by omega⟩
        go_wp2_with fail
        go_loopw [10, 128] (fun n i wq => ∃ (k M : Nat), W = wq ∧ n = .int .i64 (M : Int) ∧ i = .int .i64 (k : Int) ∧ k ≤ l.length ∧ Hid (inCnt (l.take k) x = M)) (fun _ i _ => l.length - (RowKit.intOf i).toNat)
        case atStart => exact ⟨0, 0, rfl, rfl, rfl, Nat.zero_le _, by unfold Hid; simp [inCnt]⟩
        case round =>
          obtain ⟨i, M, hq, rfl, rfl, hi, hM⟩ := hrel
          subst hq
          have hMl : M ≤ l.length := by
            have h1 := hM.out
            have h2 : inCnt (l.take i) x ≤ (l.take i).length := List.countP_le_length
            simp only [List.length_take] at h2
            omega
          by_cases hin : i < l.length
          · have hiz : (i : Int) < (l.length : Int) := by omega
            obtain ⟨gb, cap, hv, _, hlt⟩ := Own2.out.form (by omega)
            injection hv with hA _ hcc
            subst hA hcc
            obtain ⟨k1, k2⟩ := spCells_at l i hin
            have cells : ∀ q u, (spCells l)[q]? = some u → W.cell? ⟨gb, q, none⟩ = some u := fun q u hu => (HbW.out.cell (p := ⟨gb, q, none⟩) hlt).trans (by have := Own2.out.cells (g := gb) rfl _ _ hu; rwa [Addr.add_lit, Nat.zero_add] at this)
            have c1 := cells _ _ k1
            have c2 := cells _ _ k2
            have htk := inCnt_take l x i hin
            obtain ⟨p, hp⟩ : ∃ p, l[i] = p := ⟨_, rfl⟩
            rw [hp] at c1 c2 htk
            obtain ⟨f, g⟩ := p
            dsimp only at c1 c2 htk
            rw [hM.out] at htk
            clear cells k1 k2 hp hM
            by_cases hf : f ≤ x
            · have hfz : (f : Int) ≤ (x : Int) := by omega
              by_cases hg : x ≤ g
              · have hgz : (x : Int) ≤ (g : Int) := by omega
                rw [if_pos ⟨hf, hg⟩] at htk
                have Hin := Lib.hid htk
                clear htk
                go_wp2_with fail
                go_roundw
                case rel => exact ⟨i + 1, M + 1, by simp, by go_num, by go_num, by omega, Hin⟩
                case measure => simp [RowKit.intOf]; omega
              · have hgz : ¬ (x : Int) ≤ (g : Int) := by omega
                rw [if_neg (by omega)] at htk
                simp only [Nat.add_zero] at htk
                have Hin := Lib.hid htk
                clear htk
                go_wp2_with fail
                go_roundw
                case rel => exact ⟨i + 1, M, by simp, by go_num, by go_num, by omega, Hin⟩
                case measure => simp [RowKit.intOf]; omega
            · have hfz : ¬ (f : Int) ≤ (x : Int) := by omega
              rw [if_neg (by omega)] at htk
              simp only [Nat.add_zero] at htk
              have Hin := Lib.hid htk
              clear htk
              go_wp2_with fail
              go_roundw
              case rel => exact ⟨i + 1, M, by simp, by go_num, by go_num, by omega, Hin⟩
              case measure => simp [RowKit.intOf]; omega
          · obtain rfl : i = l.length := by omega
            have hMt := hM.out
            rw [List.take_length, Hcn.out x hx] at hMt
            have q1 := fun W => Pis.out (x : Int) W
            rw [char_of x hx] at q1
            revert hMt q1
            generalize cls (tabAt t) x = cc
            intro hMt q1
            clear hM
            by_cases hcv : (cc : Int) = v
            · rw [if_pos hcv] at hMt
              subst hMt
              have hcb : ((cc : Int) == v) = true := by simpa using hcv
              clear hcv
              go_wp2_with fail
              refine (q1 _).mono ?_
              rintro _ w4 ⟨rfl, b4⟩
              have D4 := Lib.hid (HbW.out.trans (b4.mono HbW.out.size))
              clear b4
              go_wp2_with fail
              go_ret
              exact ⟨rfl, Hb2.out.trans (D4.out.mono hB2)⟩
            · rw [if_neg hcv] at hMt
              subst hMt
              have hcb : ((cc : Int) == v) = false := by simpa using hcv
              clear hcv
              go_wp2_with fail
              refine (q1 _).mono ?_
              rintro _ w4 ⟨rfl, b4⟩
              have D4 := Lib.hid (HbW.out.trans (b4.mono HbW.out.size))
              clear b4
              go_wp2_with fail
              go_ret
              exact ⟨rfl, Hb2.out.trans (D4.out.mono hB2)⟩
end Go.Proofs.Ythakdkpgobloiab
