/- The document's side of show: tab stops, blanks, a number's digits: walked. -/
import Derived.Test.YthejfbanehnmjaaDoorShAG
import Derived.Test.YthejfbanehnmjaaDoorRefTG
import Derived.Test.YthejfbanehnmjaaDoorFirstG
import Derived.Test.YthejfbanehnmjaaDoorShJG
import Derived.Test.YthejfbanehnmjaaDoorShGG
set_option linter.unusedSimpArgs false
set_option linter.unusedVariables false
namespace Go.Proofs.YthejfbanehnmjaaDoor
open Go.RowKit Go.Lib

theorem rtab_any (col tb : Int) (h0 : -9223372036854775808 ≤ col) (h1 : col ≤ 9223372036854775807) (wd : Bool) (wt : Int) (jn rz : Bool) (w : World) : Calls Tryd.prog 47 #[.int .i64 col, lookV tb wd wt jn rz] w fun e w' => e = .returned (.int .i64 ((stopZ (tabN tb) col.toNat : Nat) : Int)) ∧ Below w.heap.size w w' := by
  have hb : ∀ o, Below w.heap.size w (w.alloc o) := fun o => (Below.refl _ w).alloc (Nat.le_refl _) o
  obtain ⟨c, hc⟩ : ∃ c, col.toNat = c := ⟨_, rfl⟩
  rw [hc]
  have htb := tabN_bounds tb
  have hst := stopZ_le tb c
  have hcase : (tb < 1 ∧ tabN tb = 8) ∨ (¬ tb < 1 ∧ 16 < tb ∧ tabN tb = 8) ∨ (¬ tb < 1 ∧ ¬ 16 < tb ∧ ((tabN tb : Nat) : Int) = tb) := by
    unfold tabN
    by_cases a : 1 ≤ tb ∧ tb ≤ 16
    · rw [if_pos a]; omega
    · rw [if_neg a]; omega
  have hcol : (col < 0 ∧ c = 0) ∨ (¬ col < 0 ∧ col = (c : Int)) := by omega
  have hml : c % tabN tb < tabN tb := Nat.mod_lt _ (by omega)
  obtain ⟨S, hS⟩ : ∃ S, stopZ (tabN tb) c = S := ⟨_, rfl⟩
  have hS2 := hS
  rw [hS] at hst ⊢
  unfold stopZ at hS2
  obtain ⟨T, hT⟩ : ∃ T, tabN tb = T := ⟨_, rfl⟩
  rw [hT] at htb hml hS2 hcase
  obtain ⟨q, hq⟩ : ∃ q, c % T = q := ⟨_, rfl⟩
  have hrem : Int.tmod (c : Int) (T : Int) = (q : Int) := by rw [← hq]; exact (Int.ofNat_tmod c T).symm
  rw [hq] at hml hS2
  have hw1 : IntKind.i64.wrap ((T : Int) - (q : Int)) = (S : Int) := by rw [IntWalk.i64_in _ (by omega)]; omega
  have hT0 : ((T : Int) == 0) = false := by simp; omega
  clear hT hS hc
  rcases hcol with ⟨hc1, hc2⟩ | ⟨hc1, hc2⟩
  · subst hc2
    have hq0 : q = 0 := by rw [← hq]; simp
    subst hq0
    clear hq
    have hSe : S = T := by omega
    subst hSe
    rcases hcase with ⟨g1, g2⟩ | ⟨g1, g2, g3⟩ | ⟨g1, g2, g3⟩
    · subst g2
      go_enter Tryd.func47, Tryd.ntmps47
      go_wp2
      go_ret
      exact ⟨rfl, hb _⟩
    · subst g3
      go_enter Tryd.func47, Tryd.ntmps47
      go_wp2
      go_ret
      exact ⟨rfl, hb _⟩
    · subst g3
      go_enter Tryd.func47, Tryd.ntmps47
      go_wp2
      go_ret
      exact ⟨by simp, hb _⟩
  · subst hc2
    have Hq := Lib.hid hq
    clear hq
    rcases hcase with ⟨g1, g2⟩ | ⟨g1, g2, g3⟩ | ⟨g1, g2, g3⟩
    · subst g2
      go_enter Tryd.func47, Tryd.ntmps47
      go_wp2
      go_ret
      refine ⟨?_, hb _⟩
      have e : (8 : Int) - (c : Int) % 8 = (S : Int) := by have := Hq.out; omega
      show Ending.returned (.int .i64 ((8 : Int) - (c : Int) % 8)) = _
      rw [e]
    · subst g3
      go_enter Tryd.func47, Tryd.ntmps47
      go_wp2
      go_ret
      refine ⟨?_, hb _⟩
      have e : (8 : Int) - (c : Int) % 8 = (S : Int) := by have := Hq.out; omega
      show Ending.returned (.int .i64 ((8 : Int) - (c : Int) % 8)) = _
      rw [e]
    · subst g3
      go_enter Tryd.func47, Tryd.ntmps47
      go_wp2
      go_ret
      exact ⟨rfl, hb _⟩
theorem rrest_any (c : Nat) (hcl : c ≤ 9223372036854775807) (tb : Int) (wd : Bool) (wt : Int) (jn rz : Bool) (w : World) : Calls Tryd.prog 29 #[.int .i64 (c : Int), lookV tb wd wt jn rz] w fun e w' => e = .returned (.int .i64 ((c % tabN tb : Nat) : Int)) ∧ Below w.heap.size w w' := by
  have htb := tabN_bounds tb
  have h := fun W => rtab_any 0 tb (by omega) (by omega) wd wt jn rz W
  rw [show stopZ (tabN tb) (0 : Int).toNat = tabN tb by unfold stopZ; simp] at h
  have H := Lib.hid h
  clear h
  obtain ⟨T, hT⟩ : ∃ T, tabN tb = T := ⟨_, rfl⟩
  rw [hT] at H htb ⊢
  obtain ⟨q, hq⟩ : ∃ q, c % T = q := ⟨_, rfl⟩
  have hrem : Int.tmod (c : Int) (T : Int) = (q : Int) := by rw [← hq]; exact (Int.ofNat_tmod c T).symm
  have hT0 : ((T : Int) == 0) = false := by simp; omega
  rw [hq]
  clear hq hT
  have hb : ∀ o, Below w.heap.size w (w.alloc o) := fun o => (Below.refl _ w).alloc (Nat.le_refl _) o
  go_enter Tryd.func29, Tryd.ntmps29
  go_wp2_with fail
  refine (H.out _).mono ?_
  rintro _ w1 ⟨rfl, b1⟩
  have b2 := (hb _).trans (b1.mono (by simp))
  go_wp2
  go_ret
  exact ⟨rfl, b2⟩
theorem bytes_str6 (w : World) (B n c : Nat) (A : Option Addr) (bs : List UInt8) (R : Rd w B 1 A n (Lib.byteCells bs)) : (convert 38 9 (.slice A n c)).run Tryd.prog w = .ok (.string ⟨bs.toArray⟩) w := by
  have hl : bs.length = n := by have := R.1; simpa [Lib.byteCells] using this
  subst hl
  rcases A with _ | a
  · have h0 : bs.length = 0 := by
      rcases Nat.eq_zero_or_pos bs.length with h0 | h0
      · exact h0
      · obtain ⟨a, e, _⟩ := R.addr h0
        cases e
    have : bs = [] := List.eq_nil_of_length_eq_zero h0
    rw [this, run_convert_bytes_string w _ _ 5 _ _ _ Tryd.underlying38 Tryd.underlying5 Tryd.underlying9]
    rfl
  · exact run_convert_bytes_back w _ _ 5 a c bs Tryd.underlying38 Tryd.underlying5 Tryd.underlying9 (fun j hj => by
      obtain ⟨a', e, _, hc⟩ := R.addr (by omega)
      injection e with e
      subst e
      exact hc j _ (by simp [Lib.byteCells, hj]))
theorem byte_info6 : (Tryd.prog.info? 5).map (fun i => (i.zero, i.size, i.bytes)) = some (some (.int .u8 0), 1, 1) := by kernel_rfl
set_option maxRecDepth 100000 in
set_option maxHeartbeats 1000000 in
theorem rblanks_any (n : Nat) (hn : n ≤ 16) (w : World) : Calls Tryd.prog 48 #[.int .i64 (n : Int)] w fun e w' => e = .returned (.string ⟨(List.replicate n 32).toArray⟩) ∧ Below w.heap.size w w' := by
  obtain ⟨i0, hi, hz0, hz1, hz2⟩ := info_parts byte_info6
  obtain ⟨B, hB⟩ : ∃ B, w.heap.size = B := ⟨_, rfl⟩
  have hBle : B ≤ w.heap.size := by omega
  rw [hB]
  clear hB
  go_enter Tryd.func48, Tryd.ntmps48
  go_wp2_with fail
  go_loopw [3, 4] (fun v i wr => ∃ k : Nat, i = .int .i64 (k : Int) ∧ k ≤ n ∧ wr.ownsRow B 5 1 v k (Lib.byteCells (List.replicate k 32)) ∧ Below B w wr) (fun _ i _ => n - (RowKit.intOf i).toNat)
  case atStart => exact ⟨0, rfl, Nat.zero_le _, World.ownsRow_nil _ _ _ _, Below.refl _ _⟩
  case round =>
    obtain ⟨k, rfl, hk, hown, hbw⟩ := hrel
    by_cases hkn : k < n
    · have hki : (k : Int) < (n : Int) := by omega
      have c1 := new_cells wr [.int .u8 32] 5
      have c3 : k + 1 ≤ maxLen := by unfold maxLen; omega
      have c4 : (k + 1) * 1 ≤ 140737488355328 := by omega
      have c5 : B ≤ (wr.alloc (.cells #[.int .u8 32] 5)).heap.size := by have := hbw.size; simp; omega
      have hw1 : IntKind.i64.wrap ((k : Int) + 1) = (k : Int) + 1 := IntWalk.i64_in _ (by omega)
      go_wp2_with (at_builtin; refine Hid.out ?_)
      refine Lib.hid ?_
      refine wpList_append_own _ rfl _ _ 38 rfl B 5 i0 _ 1 1 Tryd.underlying38 hi hz0 hz1 hz2 rfl (by decide) _ _ _ rfl (hown.alloc _) ⟨wr.heap.size, 0, none⟩ 1 1 [.int .u8 32] rfl rfl c1 (by simp [Value.oneCell']) c3 c4 c5 ?_
      intro v' w2 hown2 hg2 _
      have Hbel := Lib.hid ((hbw.alloc (by have := hbw.size; omega) _).grown hg2 c5 (fun k hk => (hown.lt k hk).1))
      have Hown2 := Lib.hid hown2
      clear hg2 hown2
      go_wp2
      go_roundw
      case rel =>
        refine ⟨k + 1, by go_num, hkn, ?_, Hbel.out⟩
        have := Hown2.out
        rw [List.replicate_succ']
        unfold Lib.byteCells at this ⊢
        rw [List.map_append]
        exact this
      case measure => simp only [RowKit.intOf]; omega
    · obtain rfl : k = n := by omega
      obtain ⟨A, c, hv, _, _⟩ := own_shape hown
      subst hv
      have hcv := bytes_str6 wr _ _ c A _ (Rd.own hown)
      have hki : ¬ (k : Int) < (k : Int) := by omega
      clear hown
      go_wp2
      go_ret
      exact ⟨rfl, hbw⟩
/-- the digits of a number, four at least -/
def numZ (r : Nat) : List UInt8 := (digsF 8 r 4).reverse.map hexD
set_option maxRecDepth 100000 in
set_option maxHeartbeats 1000000 in
theorem rnumber_any (r : Nat) (hr : r < 2097152) (w : World) : Calls Tryd.prog 51 #[.int .i32 (r : Int)] w fun e w' => e = .returned (.string ⟨(numZ r).toArray⟩) ∧ Below w.heap.size w w' := by
  obtain ⟨i0, hi, hz0, hz1, hz2⟩ := info_parts byte_info6
  obtain ⟨B, hB⟩ : ∃ B, w.heap.size = B := ⟨_, rfl⟩
  have hBle : B ≤ w.heap.size := by omega
  rw [hB]
  clear hB
  have hw0 : IntKind.i64.wrap (r : Int) = (r : Int) := IntWalk.i64_in _ (by omega)
  go_enter Tryd.func51, Tryd.ntmps51
  go_wp2_with fail
  go_loopw [3, 4] (fun v p wr => ∃ (ds : List Nat) (m f : Nat), p = .int .i64 (m : Int) ∧ ds.length + f = 8 ∧ m < 2097152 ∧ Hid (m < 16 ^ f) ∧ Hid (ds ++ digsF f m (4 - ds.length) = digsF 8 r 4) ∧ wr.ownsRow B 5 1 v ds.length (Lib.byteCells (ds.reverse.map hexD)) ∧ Below B w wr) (fun v p _ => (RowKit.intOf p).toNat + (4 - (match v with | .slice _ n _ => n | _ => 0)))
  case atStart => exact ⟨[], r, 8, rfl, rfl, hr, by unfold Hid; omega, by unfold Hid; simp, World.ownsRow_nil _ _ _ _, Below.refl _ _⟩
  case round =>
    obtain ⟨ds, m, f, rfl, hf, hm, hmf, hds, hown, hbw⟩ := hrel
    obtain ⟨A, c, hv, _, _⟩ := own_shape hown
    subst hv
    by_cases hgo : 0 < m ∨ ds.length < 4
    · obtain ⟨f, rfl⟩ : ∃ f', f = f' + 1 := by
        rcases Nat.eq_zero_or_pos f with h0 | h0
        · subst h0
          have := hmf.out
          simp at this
          omega
        · exact ⟨f - 1, by omega⟩
      have hst := hds.out
      rw [digsF_step (show 0 < m ∨ 0 < 4 - ds.length by omega)] at hst
      have hm16 : m / 16 < 16 ^ f := Nat.div_lt_of_lt_mul (by have := hmf.out; rw [Nat.pow_succ'] at this; exact this)
      have hd16 : m % 16 < 16 := Nat.mod_lt _ (by decide)
      have hrem : Int.tmod (m : Int) 16 = ((m % 16 : Nat) : Int) := (Int.ofNat_tmod m 16).symm
      have hdiv : Int.tdiv (m : Int) 16 = ((m / 16 : Nat) : Int) := (Int.ofNat_tdiv m 16).symm
      have hdiv2 : (m : Int) / 16 = ((m / 16 : Nat) : Int) := by omega
      obtain ⟨d, hd⟩ : ∃ d, m % 16 = d := ⟨_, rfl⟩
      obtain ⟨m', hm'⟩ : ∃ m', m / 16 = m' := ⟨_, rfl⟩
      have hlt : m' ≤ m ∧ (0 < m → m' < m) ∧ m' < 2097152 := by omega
      rw [hd] at hrem hd16 hst
      rw [hm'] at hdiv hdiv2 hm16 hst
      have hx := hex_at d hd16
      have hz : hexN d < 128 := hexN_lt hd16
      have hd16i : (d : Int) < 16 := by omega
      have hcase : (0 < m ∧ (0 : Int) < (m : Int)) ∨ (m = 0 ∧ ds.length < 4) := by omega
      obtain ⟨n, hn⟩ : ∃ n, ds.length = n := ⟨_, rfl⟩
      have hlit : (wr.alloc (.cells #[.int .u8 (hexN d : Nat)] 5)).ownsRow B 5 1 (.slice (some ⟨wr.heap.size, 0, none⟩) 1 1) 1 [.int .u8 (hexN d : Nat)] :=
        World.ownsRow_lit wr #[.int .u8 (hexN d : Nat)] 1 (by have := hbw.size; omega) (by unfold maxLen; omega) rfl
      have hone : ∀ u ∈ Lib.byteCells (ds.reverse.map hexD), u.oneCell' = true := by
        intro u hu
        unfold Lib.byteCells at hu
        obtain ⟨b, _, rfl⟩ := List.mem_map.1 hu
        rfl
      have c3 : 1 + ds.length ≤ maxLen := by unfold maxLen; omega
      have c4 : (1 + ds.length) * 1 ≤ 140737488355328 := by omega
      have c5 : B ≤ (wr.alloc (.cells #[.int .u8 (hexN d : Nat)] 5)).heap.size := by have := hbw.size; simp; omega
      have hown1 := hown.alloc (.cells #[.int .u8 (hexN d : Nat)] 5)
      have hstep : [Value.int .u8 (hexN d : Nat)] ++ Lib.byteCells (ds.reverse.map hexD) = Lib.byteCells ((ds ++ [d]).reverse.map hexD) := by
        rw [List.reverse_append]
        unfold Lib.byteCells
        have := hexD_nat d hd16
        simp [this, hexN]
      rw [hn] at hown1 c3 c4
      have Hst := Lib.hid hst
      have Hm16 := Lib.hid hm16
      have Hstep := Lib.hid hstep
      have Hbw := Lib.hid hbw
      have Hf := Lib.hid hf
      have Hn := Lib.hid hn
      have hni : (n : Int) < 4 ∨ True := .inr trivial
      rw [hn] at hcase ⊢
      clear hst hm16 hd hm' hds hmf hown hstep hbw hf hn
      rcases hcase with ⟨hm0, hm1⟩ | ⟨hm0, hl0⟩
      · go_wp2_with (at_builtin; refine Hid.out ?_)
        refine Lib.hid ?_
        refine wpList_append_rows6 rfl _ _ 38 rfl B 5 i0 _ 1 Tryd.underlying38 hi hz0 hz1 hz2 rfl _ _ _ rfl hlit _ _ _ _ rfl hown1 hone c3 c4 c5 ?_
        intro v' w2 hown2 hg2 _
        have Hbel := Lib.hid ((Hbw.out.alloc (by have := Hbw.out.size; omega) _).grown hg2 c5 (fun k hk => (hlit.lt k hk).1))
        have Hown2 := Lib.hid hown2
        obtain ⟨A2, c2, hv2, _, _⟩ := own_shape hown2
        subst hv2
        clear hg2 hown2 hlit hown1
        go_wp2
        go_roundw
        case rel =>
          have hn9 := Hn.out
          have hf9 := Hf.out
          refine ⟨ds ++ [d], m', f, rfl, by simp; omega, hlt.2.2, Hm16, ?_, ?_, Hbel.out⟩
          · unfold Hid
            rw [← Hst.out, List.length_append, show 4 - (ds.length + [d].length) = 4 - ds.length - 1 by simp; omega, List.append_assoc]
            rfl
          · have h9 := Hown2.out
            rw [Hstep.out] at h9
            rw [List.length_append, hn9, show n + [d].length = 1 + n by simp; omega]
            exact h9
        case measure => simp only [RowKit.intOf]; omega
      · have hq1 : ¬ (0 : Int) < (m : Int) := by omega
        have hq2 : ¬ 0 < m := by omega
        have hq3 : decide (0 < m) = false := decide_eq_false hq2
        have hq4 : (n : Int) < 4 := by omega
        clear hm0
        go_wp2_with (at_builtin; refine Hid.out ?_)
        refine Lib.hid ?_
        refine wpList_append_rows6 rfl _ _ 38 rfl B 5 i0 _ 1 Tryd.underlying38 hi hz0 hz1 hz2 rfl _ _ _ rfl hlit _ _ _ _ rfl hown1 hone c3 c4 c5 ?_
        intro v' w2 hown2 hg2 _
        have Hbel := Lib.hid ((Hbw.out.alloc (by have := Hbw.out.size; omega) _).grown hg2 c5 (fun k hk => (hlit.lt k hk).1))
        have Hown2 := Lib.hid hown2
        obtain ⟨A2, c2, hv2, _, _⟩ := own_shape hown2
        subst hv2
        clear hg2 hown2 hlit hown1
        go_wp2
        go_roundw
        case rel =>
          have hn9 := Hn.out
          have hf9 := Hf.out
          refine ⟨ds ++ [d], m', f, rfl, by simp; omega, hlt.2.2, Hm16, ?_, ?_, Hbel.out⟩
          · unfold Hid
            rw [← Hst.out, List.length_append, show 4 - (ds.length + [d].length) = 4 - ds.length - 1 by simp; omega, List.append_assoc]
            rfl
          · have h9 := Hown2.out
            rw [Hstep.out] at h9
            rw [List.length_append, hn9, show n + [d].length = 1 + n by simp; omega]
            exact h9
        case measure => simp only [RowKit.intOf]; omega
    · have hm0 : m = 0 := by omega
      have hn4 : 4 ≤ ds.length := by omega
      have hds2 := hds.out
      rw [digsF_end (by omega), List.append_nil] at hds2
      have hcv := bytes_str6 wr _ _ c A _ (Rd.own hown)
      have hnz : (⟨(ds.reverse.map hexD).toArray⟩ : ByteArray) = ⟨(numZ r).toArray⟩ := by unfold numZ; rw [hds2]
      rw [hnz] at hcv
      obtain ⟨n, hn⟩ : ∃ n, ds.length = n := ⟨_, rfl⟩
      rw [hn] at hcv hn4 ⊢
      have hq1 : ¬ (0 : Int) < (m : Int) := by omega
      have hq2 : ¬ 0 < m := by omega
      have hq3 : decide (0 < m) = false := decide_eq_false hq2
      have hq4 : ¬ (n : Int) < 4 := by omega
      clear hown hds2 hds hmf hn hm0 hnz hf hgo
      go_wp2
      go_ret
      exact ⟨rfl, hbw⟩
end Go.Proofs.YthejfbanehnmjaaDoor

/- The document's side of show: One, walked case by case. MADE: tools/mkone6.py. -/
namespace Go.Proofs.YthejfbanehnmjaaDoor
open Go.RowKit Go.Lib

theorem refWide6 (x : Int) (b : Bool) (w : World) : Calls Tryd.prog 54 #[.int .i32 x, .bool b] w fun e w' => e = .returned (.int .i64 (wideOf (cls widthsL (char x)) b : Nat)) ∧ w' = w := by
  have h := refColumns_is x w
  generalize cls widthsL (char x) = c at h
  have H := Lib.hid h
  clear h
  by_cases h3 : c = 3
  · subst h3
    cases b
    all_goals
      go_enter Tryd.func54, Tryd.ntmps54
      go_wp2_with fail
      refine H.out.mono ?_
      rintro _ w1 ⟨rfl, rfl⟩
      go_wp2_with fail
      go_ret
      exact ⟨rfl, rfl⟩
  · have hne : ((c : Int) == 3) = false := by simp; omega
    have hv : wideOf c b = c := by
      unfold wideOf
      have : Nat.beq c 3 = false := by
        cases e : Nat.beq c 3 with
        | false => rfl
        | true => exact absurd (Nat.eq_of_beq_eq_true e) h3
      rw [this]
      rfl
    rw [hv]
    clear h3
    go_enter Tryd.func54, Tryd.ntmps54
    go_wp2_with fail
    refine H.out.mono ?_
    rintro _ w1 ⟨rfl, rfl⟩
    go_wp2_with fail
    go_ret
    exact ⟨rfl, rfl⟩
theorem circle_text6 (w : World) : Calls Tryd.prog 52 #[.slice (some ⟨w.heap.size, 0, none⟩) 1 1] (w.alloc (.cells #[.int .i32 9676] 21)) fun e w' => e = .returned (.string ⟨#[226, 151, 140]⟩) ∧ Below w.heap.size w w' := by
  have hrd := new_rd6 w [9676] (by simp)
  refine (refText_any (w.alloc (.cells #[.int .i32 9676] 21)) (some ⟨w.heap.size, 0, none⟩) 1 1 [9676] (by simpa using hrd) (by decide)).mono ?_
  rintro e w' ⟨rfl, b⟩
  refine ⟨?_, ((Below.refl _ w).alloc (Nat.le_refl _) _).trans (b.mono (by simp))⟩
  rw [show runesBytes [9676] = ⟨#[226, 151, 140]⟩ from by decide +kernel]
theorem ba_app6 (x y : List UInt8) : (⟨x.toArray⟩ : ByteArray) ++ ⟨y.toArray⟩ = ⟨(x ++ y).toArray⟩ := by
  apply ByteArray.ext
  simp
theorem ba_self6b (s : ByteArray) : (⟨s.data.toList.toArray⟩ : ByteArray) = s := ba6 (by simp)
theorem total_take_le : ∀ (L : List (Nat × Nat)) (n : Nat), total (L.take n) ≤ total L
  | [], n => by simp [total]
  | d :: L, 0 => by simp [total]
  | d :: L, n + 1 => by
    have := total_take_le L n
    have e1 : total (d :: L) = d.2 + total L := by simp [total]
    have e2 : total ((d :: L).take (n + 1)) = d.2 + total (L.take n) := by simp [total]
    omega
theorem one_string7 (w : World) (y : Nat) (hy : y < 256) (W : World) (hW : W = w.alloc (.cells #[.int .u8 (y : Int)] 5)) :
    (convert 38 9 (.slice (some ⟨w.heap.size, 0, none⟩) 1 1)).run Tryd.prog W = .ok (.string ⟨#[UInt8.ofNat y]⟩) W := by
  refine run_convert_bytes_back W _ _ 5 ⟨w.heap.size, 0, none⟩ 1 [UInt8.ofNat y] Tryd.underlying38 Tryd.underlying5 Tryd.underlying9 (fun j hj => ?_)
  obtain rfl : j = 0 := by simpa using hj
  rw [hW]
  have := new_cells w [.int .u8 (y : Int)] 5 0 _ rfl
  simpa [Nat.mod_eq_of_lt hy] using this
theorem two_string7 (w : World) (y z : Nat) (hy : y < 256) (hz : z < 256) :
    (convert 38 9 (.slice (some ⟨w.heap.size, 0, none⟩) 2 2)).run Tryd.prog (w.alloc (.cells #[.int .u8 (y : Int), .int .u8 (z : Int)] 5)).drew = .ok (.string ⟨#[UInt8.ofNat y, UInt8.ofNat z]⟩) (w.alloc (.cells #[.int .u8 (y : Int), .int .u8 (z : Int)] 5)).drew := by
  refine run_convert_bytes_back _ _ _ 5 ⟨w.heap.size, 0, none⟩ 2 [UInt8.ofNat y, UInt8.ofNat z] Tryd.underlying38 Tryd.underlying5 Tryd.underlying9 (fun j hj => ?_)
  have hn := new_cells w [.int .u8 (y : Int), .int .u8 (z : Int)] 5
  have hj2 : j = 0 ∨ j = 1 := by simp at hj; omega
  rcases hj2 with rfl | rfl
  · have := hn 0 _ rfl
    simpa [Nat.mod_eq_of_lt hy] using this
  · have := hn 1 _ rfl
    simpa [Nat.mod_eq_of_lt hz] using this
theorem sec_get {l : List UInt8} (h : 1 < (segs l).length) : ((segs l).getD 1 (0, 0)).1 = secZ l := by
  unfold secZ
  rw [List.getD_eq_getElem?_getD, List.getElem?_eq_getElem h]
  rfl
section
variable (k : ByteArray) (A : Option Addr) (c : Nat) (col : Int) (tb : Int) (wd : Bool) (wt : Int) (jn rz : Bool) (w : World)
/-- what it answers -/
abbrev OneSays (L : List UInt8) (n : Nat) : Prop := Calls Tryd.prog 25 #[.slice A (segs k.data.toList).length c, .string k, .int .i64 col, lookV tb wd wt jn rz] w fun e w' =>
  e = .returned (.tuple #[.string ⟨L.toArray⟩, .int .i64 ((n : Nat) : Int)]) ∧ Below w.heap.size w w'

set_option maxRecDepth 100000 in
set_option maxHeartbeats 1000000 in
theorem r1_bad (B x z : Nat) (hB : B ≤ w.heap.size) (hR : RdS w B A 0 (segs k.data.toList)) (hne : k.data.toList ≠ []) (hx : dec k.data.toList = (x, z)) (hbd : badD (x, z) = true)  : OneSays k A c col tb wd wt jn rz w [60, hexD (gb k.data.toList 0 / 16), hexD (gb k.data.toList 0 % 16), 62] 4 := by
  have hL := LookAt.new w 24 tb wd wt jn rz
  have hb : Below w.heap.size w (w.alloc (.cells #[.int .i64 tb, .bool wd, .int .i8 wt, .bool jn, .bool rz] 24)) := (Below.refl _ w).alloc (Nat.le_refl _) _
  obtain ⟨W, hW⟩ : ∃ W, w.alloc (.cells #[.int .i64 tb, .bool wd, .int .i8 wt, .bool jn, .bool rz] 24) = W := ⟨_, rfl⟩
  rw [hW] at hL hb
  have hsz : w.heap.size < W.heap.size := by rw [← hW]; simp
  have hRW := hR.below (hb.mono hB)
  have hlen : 0 < (segs k.data.toList).length := List.length_pos_iff.2 (segs_ne _ hne)
  obtain ⟨a, rfl, hab, c0, _, c2⟩ := hRW.at_ hlen
  have hg0 : (segs k.data.toList).getD 0 (0, 0) = (x, z) := by rw [segs_cons _ hne, hx]; rfl
  rw [hg0, show a.add (0 * 3) = a by simp [Addr.add]] at c0 c2
  simp only at c0 c2
  obtain ⟨m, hm⟩ : ∃ m, (segs k.data.toList).length = m := ⟨_, rfl⟩
  unfold OneSays
  rw [hm] at hlen ⊢
  have hi0 : (0 : Int) < (m : Int) := by omega
  have Hb := Lib.hid hb
  obtain ⟨l0, l1, l2, l3, l4⟩ := hL
  have hks : 0 < k.size := by rw [← size_list]; exact List.length_pos_iff.2 hne
  rw [show badD (x, z) = true from hbd] at c2
  have mixed : Tryd.prog.follows Departure.mixedOrders = true := by kernel_rfl
  have hp1 : (0 : Int) < (k.size : Int) := by omega
  have hbyte := gb_at k 0 hks
  obtain ⟨y, hy⟩ : ∃ y, k[0]'hks = y := ⟨_, rfl⟩
  rw [hy] at hbyte
  rw [← hbyte]
  have hy256 : y.toNat < 256 := y.toNat_lt
  obtain ⟨d1, hd1⟩ : ∃ d, y.toNat / 16 = d := ⟨_, rfl⟩
  obtain ⟨d2, hd2⟩ : ∃ d, y.toNat % 16 = d := ⟨_, rfl⟩
  have hl1 : d1 < 16 := by omega
  have hl2 : d2 < 16 := by omega
  have e1 : Int.tdiv (y.toNat : Int) 16 = (d1 : Int) := by rw [← hd1]; exact (Int.ofNat_tdiv y.toNat 16).symm
  have e1' : (y.toNat : Int) / 16 = (d1 : Int) := by omega
  have e2 : Int.tmod (y.toNat : Int) 16 = (d2 : Int) := by rw [← hd2]; exact (Int.ofNat_tmod y.toNat 16).symm
  have e2' : (y.toNat : Int) % 16 = (d2 : Int) := by omega
  have w1 : IntKind.u8.wrap (d1 : Int) = (d1 : Int) := IntWalk.u8_in _ (by omega)
  have w2 : IntKind.u8.wrap (d2 : Int) = (d2 : Int) := IntWalk.u8_in _ (by omega)
  have x1 := hex_at d1 hl1
  have x2 := hex_at d2 hl2
  have i1 : (d1 : Int) < 16 := by omega
  have i2 : (d2 : Int) < 16 := by omega
  have q1 := hexN_lt hl1
  have q2 := hexN_lt hl2
  rw [hd1, hd2]
  have hcv := two_string7 W (hexN d1) (hexN d2) (by omega) (by omega)
  have Hb2 := Lib.hid ((hb.alloc (show w.heap.size ≤ W.heap.size by omega) (.cells #[.int .u8 ((hexN d1 : Nat) : Int), .int .u8 ((hexN d2 : Nat) : Int)] 5)).drew)
  rw [← hexD_of, ← hexD_of] at hcv
  obtain ⟨u1, hu1⟩ : ∃ u, hexD d1 = u := ⟨_, rfl⟩
  obtain ⟨u2, hu2⟩ : ∃ u, hexD d2 = u := ⟨_, rfl⟩
  rw [hu1, hu2] at hcv ⊢
  have hcat : (⟨#[60]⟩ : ByteArray) ++ ⟨#[u1, u2]⟩ ++ ⟨#[62]⟩ = ⟨#[60, u1, u2, 62]⟩ := rfl
  clear hu1 hu2 hd1 hd2 hbyte
  clear hRW hR hb hg0 hm hne hx
  go_enter Tryd.func25, Tryd.ntmps25
  go_wp2_with fail
  go_region_o
  go_wp2
  go_ret2
  refine ⟨?_, Hb2.out⟩
  rw [← hcat]
  rfl

set_option maxRecDepth 100000 in
set_option maxHeartbeats 1000000 in
theorem r1_tab (B x z : Nat) (hB : B ≤ w.heap.size) (hR : RdS w B A 0 (segs k.data.toList)) (hne : k.data.toList ≠ []) (hx : dec k.data.toList = (x, z)) (hnb : badD (x, z) = false) (h9 : x = 9) (h0 : -9223372036854775808 ≤ col) (h1 : col ≤ 9223372036854775807) : OneSays k A c col tb wd wt jn rz w (List.replicate (stopZ (tabN tb) col.toNat) 32) (stopZ (tabN tb) col.toNat) := by
  have hL := LookAt.new w 24 tb wd wt jn rz
  have hb : Below w.heap.size w (w.alloc (.cells #[.int .i64 tb, .bool wd, .int .i8 wt, .bool jn, .bool rz] 24)) := (Below.refl _ w).alloc (Nat.le_refl _) _
  obtain ⟨W, hW⟩ : ∃ W, w.alloc (.cells #[.int .i64 tb, .bool wd, .int .i8 wt, .bool jn, .bool rz] 24) = W := ⟨_, rfl⟩
  rw [hW] at hL hb
  have hsz : w.heap.size < W.heap.size := by rw [← hW]; simp
  have hRW := hR.below (hb.mono hB)
  have hlen : 0 < (segs k.data.toList).length := List.length_pos_iff.2 (segs_ne _ hne)
  obtain ⟨a, rfl, hab, c0, _, c2⟩ := hRW.at_ hlen
  have hg0 : (segs k.data.toList).getD 0 (0, 0) = (x, z) := by rw [segs_cons _ hne, hx]; rfl
  rw [hg0, show a.add (0 * 3) = a by simp [Addr.add]] at c0 c2
  simp only at c0 c2
  obtain ⟨m, hm⟩ : ∃ m, (segs k.data.toList).length = m := ⟨_, rfl⟩
  unfold OneSays
  rw [hm] at hlen ⊢
  have hi0 : (0 : Int) < (m : Int) := by omega
  have Hb := Lib.hid hb
  obtain ⟨l0, l1, l2, l3, l4⟩ := hL
  have hks : 0 < k.size := by rw [← size_list]; exact List.length_pos_iff.2 hne
  rw [show badD (x, z) = false from hnb] at c2
  have hq9 : ((x : Int) == 9) = true := by simp; omega
  have HT := Lib.hid (fun W => rtab_any col tb h0 h1 wd wt jn rz W)
  have hst := stopZ_le tb col.toNat
  have HBl := Lib.hid (fun W => rblanks_any (stopZ (tabN tb) col.toNat) hst.2 W)
  obtain ⟨st, hst9⟩ : ∃ st, stopZ (tabN tb) col.toNat = st := ⟨_, rfl⟩
  rw [hst9] at HT HBl ⊢
  clear hst9 hst h9
  clear hRW hR hb hg0 hm hne hx
  go_enter Tryd.func25, Tryd.ntmps25
  go_wp2_with fail
  refine (HT.out _).mono ?_
  rintro _ w2 ⟨rfl, b2⟩
  have Hb2 := Lib.hid (Hb.out.trans (b2.mono (by omega)))
  have hs2 : w.heap.size ≤ w2.heap.size := Hb2.out.size
  clear b2
  go_wp2_with fail
  refine (HBl.out _).mono ?_
  rintro _ w3 ⟨rfl, b3⟩
  have Hb3 := Lib.hid (Hb2.out.trans (b3.mono hs2))
  clear b3
  go_wp2
  go_ret2
  exact ⟨rfl, Hb3.out⟩

set_option maxRecDepth 100000 in
set_option maxHeartbeats 1000000 in
theorem r1_nl (B x z : Nat) (hB : B ≤ w.heap.size) (hR : RdS w B A 0 (segs k.data.toList)) (hne : k.data.toList ≠ []) (hx : dec k.data.toList = (x, z)) (hnb : badD (x, z) = false) (hl : k.data.toList = [10]) (h9 : x ≠ 9) : OneSays k A c col tb wd wt jn rz w [] 0 := by
  have hL := LookAt.new w 24 tb wd wt jn rz
  have hb : Below w.heap.size w (w.alloc (.cells #[.int .i64 tb, .bool wd, .int .i8 wt, .bool jn, .bool rz] 24)) := (Below.refl _ w).alloc (Nat.le_refl _) _
  obtain ⟨W, hW⟩ : ∃ W, w.alloc (.cells #[.int .i64 tb, .bool wd, .int .i8 wt, .bool jn, .bool rz] 24) = W := ⟨_, rfl⟩
  rw [hW] at hL hb
  have hsz : w.heap.size < W.heap.size := by rw [← hW]; simp
  have hRW := hR.below (hb.mono hB)
  have hlen : 0 < (segs k.data.toList).length := List.length_pos_iff.2 (segs_ne _ hne)
  obtain ⟨a, rfl, hab, c0, _, c2⟩ := hRW.at_ hlen
  have hg0 : (segs k.data.toList).getD 0 (0, 0) = (x, z) := by rw [segs_cons _ hne, hx]; rfl
  rw [hg0, show a.add (0 * 3) = a by simp [Addr.add]] at c0 c2
  simp only at c0 c2
  obtain ⟨m, hm⟩ : ∃ m, (segs k.data.toList).length = m := ⟨_, rfl⟩
  unfold OneSays
  rw [hm] at hlen ⊢
  have hi0 : (0 : Int) < (m : Int) := by omega
  have Hb := Lib.hid hb
  obtain ⟨l0, l1, l2, l3, l4⟩ := hL
  have hks : 0 < k.size := by rw [← size_list]; exact List.length_pos_iff.2 hne
  rw [show badD (x, z) = false from hnb] at c2
  have hq9 : ((x : Int) == 9) = false := by simp; omega
  have hkl : (k.toList == [10]) = true := by rw [toList_data, hl]; rfl
  have hkl2 : (k.toList == [13, 10]) = false := by rw [toList_data, hl]; rfl
  clear hRW hR hb hg0 hm hne hx
  go_enter Tryd.func25, Tryd.ntmps25
  go_wp2_with fail
  go_ret2
  exact ⟨rfl, Hb.out⟩

set_option maxRecDepth 100000 in
set_option maxHeartbeats 1000000 in
theorem r1_crnl (B x z : Nat) (hB : B ≤ w.heap.size) (hR : RdS w B A 0 (segs k.data.toList)) (hne : k.data.toList ≠ []) (hx : dec k.data.toList = (x, z)) (hnb : badD (x, z) = false) (hl : k.data.toList = [13, 10]) (h9 : x ≠ 9) : OneSays k A c col tb wd wt jn rz w [] 0 := by
  have hL := LookAt.new w 24 tb wd wt jn rz
  have hb : Below w.heap.size w (w.alloc (.cells #[.int .i64 tb, .bool wd, .int .i8 wt, .bool jn, .bool rz] 24)) := (Below.refl _ w).alloc (Nat.le_refl _) _
  obtain ⟨W, hW⟩ : ∃ W, w.alloc (.cells #[.int .i64 tb, .bool wd, .int .i8 wt, .bool jn, .bool rz] 24) = W := ⟨_, rfl⟩
  rw [hW] at hL hb
  have hsz : w.heap.size < W.heap.size := by rw [← hW]; simp
  have hRW := hR.below (hb.mono hB)
  have hlen : 0 < (segs k.data.toList).length := List.length_pos_iff.2 (segs_ne _ hne)
  obtain ⟨a, rfl, hab, c0, _, c2⟩ := hRW.at_ hlen
  have hg0 : (segs k.data.toList).getD 0 (0, 0) = (x, z) := by rw [segs_cons _ hne, hx]; rfl
  rw [hg0, show a.add (0 * 3) = a by simp [Addr.add]] at c0 c2
  simp only at c0 c2
  obtain ⟨m, hm⟩ : ∃ m, (segs k.data.toList).length = m := ⟨_, rfl⟩
  unfold OneSays
  rw [hm] at hlen ⊢
  have hi0 : (0 : Int) < (m : Int) := by omega
  have Hb := Lib.hid hb
  obtain ⟨l0, l1, l2, l3, l4⟩ := hL
  have hks : 0 < k.size := by rw [← size_list]; exact List.length_pos_iff.2 hne
  rw [show badD (x, z) = false from hnb] at c2
  have hq9 : ((x : Int) == 9) = false := by simp; omega
  have hkl : (k.toList == [10]) = false := by rw [toList_data, hl]; rfl
  have hkl2 : (k.toList == [13, 10]) = true := by rw [toList_data, hl]; rfl
  clear hRW hR hb hg0 hm hne hx
  go_enter Tryd.func25, Tryd.ntmps25
  go_wp2_with fail
  go_ret2
  exact ⟨rfl, Hb.out⟩

set_option maxRecDepth 100000 in
set_option maxHeartbeats 1000000 in
theorem r1_low (B x z : Nat) (hB : B ≤ w.heap.size) (hR : RdS w B A 0 (segs k.data.toList)) (hne : k.data.toList ≠ []) (hx : dec k.data.toList = (x, z)) (hnb : badD (x, z) = false) (h10 : k.data.toList ≠ [10]) (h13 : k.data.toList ≠ [13, 10]) (h9 : x ≠ 9) (h32 : x < 32) : OneSays k A c col tb wd wt jn rz w [94, UInt8.ofNat (x + 64)] 2 := by
  have hL := LookAt.new w 24 tb wd wt jn rz
  have hb : Below w.heap.size w (w.alloc (.cells #[.int .i64 tb, .bool wd, .int .i8 wt, .bool jn, .bool rz] 24)) := (Below.refl _ w).alloc (Nat.le_refl _) _
  obtain ⟨W, hW⟩ : ∃ W, w.alloc (.cells #[.int .i64 tb, .bool wd, .int .i8 wt, .bool jn, .bool rz] 24) = W := ⟨_, rfl⟩
  rw [hW] at hL hb
  have hsz : w.heap.size < W.heap.size := by rw [← hW]; simp
  have hRW := hR.below (hb.mono hB)
  have hlen : 0 < (segs k.data.toList).length := List.length_pos_iff.2 (segs_ne _ hne)
  obtain ⟨a, rfl, hab, c0, _, c2⟩ := hRW.at_ hlen
  have hg0 : (segs k.data.toList).getD 0 (0, 0) = (x, z) := by rw [segs_cons _ hne, hx]; rfl
  rw [hg0, show a.add (0 * 3) = a by simp [Addr.add]] at c0 c2
  simp only at c0 c2
  obtain ⟨m, hm⟩ : ∃ m, (segs k.data.toList).length = m := ⟨_, rfl⟩
  unfold OneSays
  rw [hm] at hlen ⊢
  have hi0 : (0 : Int) < (m : Int) := by omega
  have Hb := Lib.hid hb
  obtain ⟨l0, l1, l2, l3, l4⟩ := hL
  have hks : 0 < k.size := by rw [← size_list]; exact List.length_pos_iff.2 hne
  rw [show badD (x, z) = false from hnb] at c2
  have hq9 : ((x : Int) == 9) = false := by simp; omega
  have k10 : (k.toList == [10]) = false := by rw [toList_data, beq_eq_false_iff_ne]; exact h10
  have k13 : (k.toList == [13, 10]) = false := by rw [toList_data, beq_eq_false_iff_ne]; exact h13
  have hx32 : (x : Int) < 32 := by omega
  have hcv := one_string7 W (x + 64) (by omega) _ rfl
  rw [show ((x + 64 : Nat) : Int) = (x : Int) + 64 by omega] at hcv
  have hw1 : IntKind.u8.wrap (x : Int) = (x : Int) := IntWalk.u8_in _ (by omega)
  have hw2 : IntKind.u8.wrap ((x : Int) + 64) = (x : Int) + 64 := IntWalk.u8_in _ (by omega)
  have Hb2 := Lib.hid (hb.alloc (by omega) (.cells #[.int .u8 ((x : Int) + 64)] 5))
  obtain ⟨u, hu⟩ : ∃ u, UInt8.ofNat (x + 64) = u := ⟨_, rfl⟩
  rw [hu] at hcv ⊢
  have hcat : (⟨#[94]⟩ : ByteArray) ++ ⟨#[u]⟩ = ⟨#[94, u]⟩ := rfl
  clear hu
  clear hRW hR hb hg0 hm hne hx
  go_enter Tryd.func25, Tryd.ntmps25
  go_wp2_with fail
  go_ret2
  refine ⟨?_, Hb2.out⟩
  rw [← hcat]
  rfl

set_option maxRecDepth 100000 in
set_option maxHeartbeats 1000000 in
theorem r1_del (B x z : Nat) (hB : B ≤ w.heap.size) (hR : RdS w B A 0 (segs k.data.toList)) (hne : k.data.toList ≠ []) (hx : dec k.data.toList = (x, z)) (hnb : badD (x, z) = false) (h10 : k.data.toList ≠ [10]) (h13 : k.data.toList ≠ [13, 10]) (h : x = 127) : OneSays k A c col tb wd wt jn rz w [94, 63] 2 := by
  have hL := LookAt.new w 24 tb wd wt jn rz
  have hb : Below w.heap.size w (w.alloc (.cells #[.int .i64 tb, .bool wd, .int .i8 wt, .bool jn, .bool rz] 24)) := (Below.refl _ w).alloc (Nat.le_refl _) _
  obtain ⟨W, hW⟩ : ∃ W, w.alloc (.cells #[.int .i64 tb, .bool wd, .int .i8 wt, .bool jn, .bool rz] 24) = W := ⟨_, rfl⟩
  rw [hW] at hL hb
  have hsz : w.heap.size < W.heap.size := by rw [← hW]; simp
  have hRW := hR.below (hb.mono hB)
  have hlen : 0 < (segs k.data.toList).length := List.length_pos_iff.2 (segs_ne _ hne)
  obtain ⟨a, rfl, hab, c0, _, c2⟩ := hRW.at_ hlen
  have hg0 : (segs k.data.toList).getD 0 (0, 0) = (x, z) := by rw [segs_cons _ hne, hx]; rfl
  rw [hg0, show a.add (0 * 3) = a by simp [Addr.add]] at c0 c2
  simp only at c0 c2
  obtain ⟨m, hm⟩ : ∃ m, (segs k.data.toList).length = m := ⟨_, rfl⟩
  unfold OneSays
  rw [hm] at hlen ⊢
  have hi0 : (0 : Int) < (m : Int) := by omega
  have Hb := Lib.hid hb
  obtain ⟨l0, l1, l2, l3, l4⟩ := hL
  have hks : 0 < k.size := by rw [← size_list]; exact List.length_pos_iff.2 hne
  rw [show badD (x, z) = false from hnb] at c2
  have hq9 : ((x : Int) == 9) = false := by simp; omega
  have k10 : (k.toList == [10]) = false := by rw [toList_data, beq_eq_false_iff_ne]; exact h10
  have k13 : (k.toList == [13, 10]) = false := by rw [toList_data, beq_eq_false_iff_ne]; exact h13
  have hx32 : ¬ (x : Int) < 32 := by omega
  have hq127 : ((x : Int) == 127) = true := by simp; omega
  clear h
  clear hRW hR hb hg0 hm hne hx
  go_enter Tryd.func25, Tryd.ntmps25
  go_wp2_with fail
  go_ret2
  exact ⟨rfl, Hb.out⟩

set_option maxRecDepth 100000 in
set_option maxHeartbeats 1000000 in
theorem r1_sgA0 (B x z : Nat) (hB : B ≤ w.heap.size) (hR : RdS w B A 0 (segs k.data.toList)) (hne : k.data.toList ≠ []) (hx : dec k.data.toList = (x, z)) (hnb : badD (x, z) = false) (h10 : k.data.toList ≠ [10]) (h13 : k.data.toList ≠ [13, 10]) (h : 128 ≤ x ∧ x ≤ 159) (hx32' : 32 ≤ x) (h127 : x ≠ 127) (hr : rz = false) : OneSays k A c col tb wd wt jn rz w [] 0 := by
  have hL := LookAt.new w 24 tb wd wt jn rz
  have hb : Below w.heap.size w (w.alloc (.cells #[.int .i64 tb, .bool wd, .int .i8 wt, .bool jn, .bool rz] 24)) := (Below.refl _ w).alloc (Nat.le_refl _) _
  obtain ⟨W, hW⟩ : ∃ W, w.alloc (.cells #[.int .i64 tb, .bool wd, .int .i8 wt, .bool jn, .bool rz] 24) = W := ⟨_, rfl⟩
  rw [hW] at hL hb
  have hsz : w.heap.size < W.heap.size := by rw [← hW]; simp
  have hRW := hR.below (hb.mono hB)
  have hlen : 0 < (segs k.data.toList).length := List.length_pos_iff.2 (segs_ne _ hne)
  obtain ⟨a, rfl, hab, c0, _, c2⟩ := hRW.at_ hlen
  have hg0 : (segs k.data.toList).getD 0 (0, 0) = (x, z) := by rw [segs_cons _ hne, hx]; rfl
  rw [hg0, show a.add (0 * 3) = a by simp [Addr.add]] at c0 c2
  simp only at c0 c2
  obtain ⟨m, hm⟩ : ∃ m, (segs k.data.toList).length = m := ⟨_, rfl⟩
  unfold OneSays
  rw [hm] at hlen ⊢
  have hi0 : (0 : Int) < (m : Int) := by omega
  have Hb := Lib.hid hb
  obtain ⟨l0, l1, l2, l3, l4⟩ := hL
  have hks : 0 < k.size := by rw [← size_list]; exact List.length_pos_iff.2 hne
  rw [show badD (x, z) = false from hnb] at c2
  have h9 : x ≠ 9 := by omega
  have hq9 : ((x : Int) == 9) = false := by simp; omega
  have k10 : (k.toList == [10]) = false := by rw [toList_data, beq_eq_false_iff_ne]; exact h10
  have k13 : (k.toList == [13, 10]) = false := by rw [toList_data, beq_eq_false_iff_ne]; exact h13
  have hx32 : ¬ (x : Int) < 32 := by omega
  have hq127 : ((x : Int) == 127) = false := by simp; omega
  have hK := fun W => refKind_is (x : Int) W
  rw [show cls kindsL (char (x : Int)) = kN x from rfl] at hK
  obtain ⟨kk, hkk⟩ : ∃ kk, kN x = kk := ⟨_, rfl⟩
  rw [hkk] at hK
  have HK := Lib.hid hK
  clear hK
  have g1 : (128 : Int) ≤ (x : Int) := by omega
  have g2 : (x : Int) ≤ 159 := by omega
  clear hRW hR hb hg0 hm hne hx
  subst hr
  go_enter Tryd.func25, Tryd.ntmps25
  go_wp2_with fail
  refine (HK.out _).mono ?_
  rintro _ _ ⟨rfl, rfl⟩
  go_wp2_with fail
  go_ret2
  exact ⟨rfl, Hb.out⟩

set_option maxRecDepth 100000 in
set_option maxHeartbeats 1000000 in
theorem r1_sgA1 (B x z : Nat) (hB : B ≤ w.heap.size) (hR : RdS w B A 0 (segs k.data.toList)) (hne : k.data.toList ≠ []) (hx : dec k.data.toList = (x, z)) (hnb : badD (x, z) = false) (h10 : k.data.toList ≠ [10]) (h13 : k.data.toList ≠ [13, 10]) (h : 128 ≤ x ∧ x ≤ 159) (hx32' : 32 ≤ x) (h127 : x ≠ 127) (hr : rz = true) (hx21 : x < 2097152) : OneSays k A c col tb wd wt jn rz w (angZ x 4) (angZ x 4).length := by
  have hL := LookAt.new w 24 tb wd wt jn rz
  have hb : Below w.heap.size w (w.alloc (.cells #[.int .i64 tb, .bool wd, .int .i8 wt, .bool jn, .bool rz] 24)) := (Below.refl _ w).alloc (Nat.le_refl _) _
  obtain ⟨W, hW⟩ : ∃ W, w.alloc (.cells #[.int .i64 tb, .bool wd, .int .i8 wt, .bool jn, .bool rz] 24) = W := ⟨_, rfl⟩
  rw [hW] at hL hb
  have hsz : w.heap.size < W.heap.size := by rw [← hW]; simp
  have hRW := hR.below (hb.mono hB)
  have hlen : 0 < (segs k.data.toList).length := List.length_pos_iff.2 (segs_ne _ hne)
  obtain ⟨a, rfl, hab, c0, _, c2⟩ := hRW.at_ hlen
  have hg0 : (segs k.data.toList).getD 0 (0, 0) = (x, z) := by rw [segs_cons _ hne, hx]; rfl
  rw [hg0, show a.add (0 * 3) = a by simp [Addr.add]] at c0 c2
  simp only at c0 c2
  obtain ⟨m, hm⟩ : ∃ m, (segs k.data.toList).length = m := ⟨_, rfl⟩
  unfold OneSays
  rw [hm] at hlen ⊢
  have hi0 : (0 : Int) < (m : Int) := by omega
  have Hb := Lib.hid hb
  obtain ⟨l0, l1, l2, l3, l4⟩ := hL
  have hks : 0 < k.size := by rw [← size_list]; exact List.length_pos_iff.2 hne
  rw [show badD (x, z) = false from hnb] at c2
  have h9 : x ≠ 9 := by omega
  have hq9 : ((x : Int) == 9) = false := by simp; omega
  have k10 : (k.toList == [10]) = false := by rw [toList_data, beq_eq_false_iff_ne]; exact h10
  have k13 : (k.toList == [13, 10]) = false := by rw [toList_data, beq_eq_false_iff_ne]; exact h13
  have hx32 : ¬ (x : Int) < 32 := by omega
  have hq127 : ((x : Int) == 127) = false := by simp; omega
  have hK := fun W => refKind_is (x : Int) W
  rw [show cls kindsL (char (x : Int)) = kN x from rfl] at hK
  obtain ⟨kk, hkk⟩ : ∃ kk, kN x = kk := ⟨_, rfl⟩
  rw [hkk] at hK
  have HK := Lib.hid hK
  clear hK
  have g1 : (128 : Int) ≤ (x : Int) := by omega
  have g2 : (x : Int) ≤ 159 := by omega
  have HN := Lib.hid (fun W => rnumber_any x hx21 W)
  have hnl : (numZ x).length + 2 = (angZ x 4).length := by unfold numZ angZ; simp
  have hnl8 : (numZ x).length ≤ 8 := by unfold numZ; rw [List.length_map, List.length_reverse]; exact digsF_len 8 x 4
  obtain ⟨N, hN⟩ : ∃ N : ByteArray, (⟨(numZ x).toArray⟩ : ByteArray) = N := ⟨_, rfl⟩
  have hNs : N.size = (numZ x).length := by rw [← hN]; simp [ByteArray.size]
  have hcat : (⟨#[60]⟩ : ByteArray) ++ N ++ ⟨#[62]⟩ = ⟨(angZ x 4).toArray⟩ := by
    rw [← hN]
    have h1 := ba_app6 [60] (numZ x)
    have h2 := ba_app6 ([60] ++ numZ x) [62]
    have h3 : (⟨#[60]⟩ : ByteArray) ++ ⟨(numZ x).toArray⟩ ++ ⟨#[62]⟩ = ⟨([60] ++ numZ x ++ [62]).toArray⟩ := by
      rw [← h2, ← h1]
    rw [h3]
    all_goals rfl
  obtain ⟨R, hR9⟩ : ∃ R : ByteArray, (⟨(angZ x 4).toArray⟩ : ByteArray) = R := ⟨_, rfl⟩
  obtain ⟨q, hq9⟩ : ∃ q, (angZ x 4).length = q := ⟨_, rfl⟩
  rw [hR9] at hcat
  rw [hq9] at hnl
  simp only [hN] at HN
  have hNq : N.size + 2 = q := by omega
  have hN8 : N.size ≤ 8 := by omega
  have hw9 : IntKind.i64.wrap ((N.size : Int) + 2) = (q : Int) := by rw [IntWalk.i64_in _ (by omega)]; omega
  have HR9 := Lib.hid hR9
  have HQ9 := Lib.hid hq9
  clear hN hR9 hq9 hnl hnl8 hNs
  clear hRW hR hb hg0 hm hne hx
  subst hr
  go_enter Tryd.func25, Tryd.ntmps25
  go_wp2_with fail
  refine (HK.out _).mono ?_
  rintro _ _ ⟨rfl, rfl⟩
  go_wp2_with fail
  refine (HN.out _).mono ?_
  rintro _ w5 ⟨rfl, b5⟩
  have Hb5 := Lib.hid (Hb.out.trans (b5.mono (by omega)))
  clear b5
  go_wp2
  go_ret2
  refine ⟨?_, Hb5.out⟩
  rw [HR9.out, HQ9.out]
  first | rfl | (rw [← hcat]; rfl)

set_option maxRecDepth 100000 in
set_option maxHeartbeats 1000000 in
theorem r1_sgB0 (B x z : Nat) (hB : B ≤ w.heap.size) (hR : RdS w B A 0 (segs k.data.toList)) (hne : k.data.toList ≠ []) (hx : dec k.data.toList = (x, z)) (hnb : badD (x, z) = false) (h10 : k.data.toList ≠ [10]) (h13 : k.data.toList ≠ [13, 10]) (h : x = 8232) (hx32' : 32 ≤ x) (h127 : x ≠ 127) (hr : rz = false) : OneSays k A c col tb wd wt jn rz w [] 0 := by
  have hL := LookAt.new w 24 tb wd wt jn rz
  have hb : Below w.heap.size w (w.alloc (.cells #[.int .i64 tb, .bool wd, .int .i8 wt, .bool jn, .bool rz] 24)) := (Below.refl _ w).alloc (Nat.le_refl _) _
  obtain ⟨W, hW⟩ : ∃ W, w.alloc (.cells #[.int .i64 tb, .bool wd, .int .i8 wt, .bool jn, .bool rz] 24) = W := ⟨_, rfl⟩
  rw [hW] at hL hb
  have hsz : w.heap.size < W.heap.size := by rw [← hW]; simp
  have hRW := hR.below (hb.mono hB)
  have hlen : 0 < (segs k.data.toList).length := List.length_pos_iff.2 (segs_ne _ hne)
  obtain ⟨a, rfl, hab, c0, _, c2⟩ := hRW.at_ hlen
  have hg0 : (segs k.data.toList).getD 0 (0, 0) = (x, z) := by rw [segs_cons _ hne, hx]; rfl
  rw [hg0, show a.add (0 * 3) = a by simp [Addr.add]] at c0 c2
  simp only at c0 c2
  obtain ⟨m, hm⟩ : ∃ m, (segs k.data.toList).length = m := ⟨_, rfl⟩
  unfold OneSays
  rw [hm] at hlen ⊢
  have hi0 : (0 : Int) < (m : Int) := by omega
  have Hb := Lib.hid hb
  obtain ⟨l0, l1, l2, l3, l4⟩ := hL
  have hks : 0 < k.size := by rw [← size_list]; exact List.length_pos_iff.2 hne
  rw [show badD (x, z) = false from hnb] at c2
  have h9 : x ≠ 9 := by omega
  have hq9 : ((x : Int) == 9) = false := by simp; omega
  have k10 : (k.toList == [10]) = false := by rw [toList_data, beq_eq_false_iff_ne]; exact h10
  have k13 : (k.toList == [13, 10]) = false := by rw [toList_data, beq_eq_false_iff_ne]; exact h13
  have hx32 : ¬ (x : Int) < 32 := by omega
  have hq127 : ((x : Int) == 127) = false := by simp; omega
  have hK := fun W => refKind_is (x : Int) W
  rw [show cls kindsL (char (x : Int)) = kN x from rfl] at hK
  obtain ⟨kk, hkk⟩ : ∃ kk, kN x = kk := ⟨_, rfl⟩
  rw [hkk] at hK
  have HK := Lib.hid hK
  clear hK
  have g1 : (128 : Int) ≤ (x : Int) := by omega
  have g2 : ¬ (x : Int) ≤ 159 := by omega
  have hq8232 : ((x : Int) == 8232) = true := by simp; omega
  clear h
  clear hRW hR hb hg0 hm hne hx
  subst hr
  go_enter Tryd.func25, Tryd.ntmps25
  go_wp2_with fail
  refine (HK.out _).mono ?_
  rintro _ _ ⟨rfl, rfl⟩
  go_wp2_with fail
  go_ret2
  exact ⟨rfl, Hb.out⟩

set_option maxRecDepth 100000 in
set_option maxHeartbeats 1000000 in
theorem r1_sgB1 (B x z : Nat) (hB : B ≤ w.heap.size) (hR : RdS w B A 0 (segs k.data.toList)) (hne : k.data.toList ≠ []) (hx : dec k.data.toList = (x, z)) (hnb : badD (x, z) = false) (h10 : k.data.toList ≠ [10]) (h13 : k.data.toList ≠ [13, 10]) (h : x = 8232) (hx32' : 32 ≤ x) (h127 : x ≠ 127) (hr : rz = true) (hx21 : x < 2097152) : OneSays k A c col tb wd wt jn rz w (angZ x 4) (angZ x 4).length := by
  have hL := LookAt.new w 24 tb wd wt jn rz
  have hb : Below w.heap.size w (w.alloc (.cells #[.int .i64 tb, .bool wd, .int .i8 wt, .bool jn, .bool rz] 24)) := (Below.refl _ w).alloc (Nat.le_refl _) _
  obtain ⟨W, hW⟩ : ∃ W, w.alloc (.cells #[.int .i64 tb, .bool wd, .int .i8 wt, .bool jn, .bool rz] 24) = W := ⟨_, rfl⟩
  rw [hW] at hL hb
  have hsz : w.heap.size < W.heap.size := by rw [← hW]; simp
  have hRW := hR.below (hb.mono hB)
  have hlen : 0 < (segs k.data.toList).length := List.length_pos_iff.2 (segs_ne _ hne)
  obtain ⟨a, rfl, hab, c0, _, c2⟩ := hRW.at_ hlen
  have hg0 : (segs k.data.toList).getD 0 (0, 0) = (x, z) := by rw [segs_cons _ hne, hx]; rfl
  rw [hg0, show a.add (0 * 3) = a by simp [Addr.add]] at c0 c2
  simp only at c0 c2
  obtain ⟨m, hm⟩ : ∃ m, (segs k.data.toList).length = m := ⟨_, rfl⟩
  unfold OneSays
  rw [hm] at hlen ⊢
  have hi0 : (0 : Int) < (m : Int) := by omega
  have Hb := Lib.hid hb
  obtain ⟨l0, l1, l2, l3, l4⟩ := hL
  have hks : 0 < k.size := by rw [← size_list]; exact List.length_pos_iff.2 hne
  rw [show badD (x, z) = false from hnb] at c2
  have h9 : x ≠ 9 := by omega
  have hq9 : ((x : Int) == 9) = false := by simp; omega
  have k10 : (k.toList == [10]) = false := by rw [toList_data, beq_eq_false_iff_ne]; exact h10
  have k13 : (k.toList == [13, 10]) = false := by rw [toList_data, beq_eq_false_iff_ne]; exact h13
  have hx32 : ¬ (x : Int) < 32 := by omega
  have hq127 : ((x : Int) == 127) = false := by simp; omega
  have hK := fun W => refKind_is (x : Int) W
  rw [show cls kindsL (char (x : Int)) = kN x from rfl] at hK
  obtain ⟨kk, hkk⟩ : ∃ kk, kN x = kk := ⟨_, rfl⟩
  rw [hkk] at hK
  have HK := Lib.hid hK
  clear hK
  have g1 : (128 : Int) ≤ (x : Int) := by omega
  have g2 : ¬ (x : Int) ≤ 159 := by omega
  have hq8232 : ((x : Int) == 8232) = true := by simp; omega
  clear h
  have HN := Lib.hid (fun W => rnumber_any x hx21 W)
  have hnl : (numZ x).length + 2 = (angZ x 4).length := by unfold numZ angZ; simp
  have hnl8 : (numZ x).length ≤ 8 := by unfold numZ; rw [List.length_map, List.length_reverse]; exact digsF_len 8 x 4
  obtain ⟨N, hN⟩ : ∃ N : ByteArray, (⟨(numZ x).toArray⟩ : ByteArray) = N := ⟨_, rfl⟩
  have hNs : N.size = (numZ x).length := by rw [← hN]; simp [ByteArray.size]
  have hcat : (⟨#[60]⟩ : ByteArray) ++ N ++ ⟨#[62]⟩ = ⟨(angZ x 4).toArray⟩ := by
    rw [← hN]
    have h1 := ba_app6 [60] (numZ x)
    have h2 := ba_app6 ([60] ++ numZ x) [62]
    have h3 : (⟨#[60]⟩ : ByteArray) ++ ⟨(numZ x).toArray⟩ ++ ⟨#[62]⟩ = ⟨([60] ++ numZ x ++ [62]).toArray⟩ := by
      rw [← h2, ← h1]
    rw [h3]
    all_goals rfl
  obtain ⟨R, hR9⟩ : ∃ R : ByteArray, (⟨(angZ x 4).toArray⟩ : ByteArray) = R := ⟨_, rfl⟩
  obtain ⟨q, hq9⟩ : ∃ q, (angZ x 4).length = q := ⟨_, rfl⟩
  rw [hR9] at hcat
  rw [hq9] at hnl
  simp only [hN] at HN
  have hNq : N.size + 2 = q := by omega
  have hN8 : N.size ≤ 8 := by omega
  have hw9 : IntKind.i64.wrap ((N.size : Int) + 2) = (q : Int) := by rw [IntWalk.i64_in _ (by omega)]; omega
  have HR9 := Lib.hid hR9
  have HQ9 := Lib.hid hq9
  clear hN hR9 hq9 hnl hnl8 hNs
  clear hRW hR hb hg0 hm hne hx
  subst hr
  go_enter Tryd.func25, Tryd.ntmps25
  go_wp2_with fail
  refine (HK.out _).mono ?_
  rintro _ _ ⟨rfl, rfl⟩
  go_wp2_with fail
  refine (HN.out _).mono ?_
  rintro _ w5 ⟨rfl, b5⟩
  have Hb5 := Lib.hid (Hb.out.trans (b5.mono (by omega)))
  clear b5
  go_wp2
  go_ret2
  refine ⟨?_, Hb5.out⟩
  rw [HR9.out, HQ9.out]
  first | rfl | (rw [← hcat]; rfl)

set_option maxRecDepth 100000 in
set_option maxHeartbeats 1000000 in
theorem r1_sgC0 (B x z : Nat) (hB : B ≤ w.heap.size) (hR : RdS w B A 0 (segs k.data.toList)) (hne : k.data.toList ≠ []) (hx : dec k.data.toList = (x, z)) (hnb : badD (x, z) = false) (h10 : k.data.toList ≠ [10]) (h13 : k.data.toList ≠ [13, 10]) (h : x = 8233) (hx32' : 32 ≤ x) (h127 : x ≠ 127) (hr : rz = false) : OneSays k A c col tb wd wt jn rz w [] 0 := by
  have hL := LookAt.new w 24 tb wd wt jn rz
  have hb : Below w.heap.size w (w.alloc (.cells #[.int .i64 tb, .bool wd, .int .i8 wt, .bool jn, .bool rz] 24)) := (Below.refl _ w).alloc (Nat.le_refl _) _
  obtain ⟨W, hW⟩ : ∃ W, w.alloc (.cells #[.int .i64 tb, .bool wd, .int .i8 wt, .bool jn, .bool rz] 24) = W := ⟨_, rfl⟩
  rw [hW] at hL hb
  have hsz : w.heap.size < W.heap.size := by rw [← hW]; simp
  have hRW := hR.below (hb.mono hB)
  have hlen : 0 < (segs k.data.toList).length := List.length_pos_iff.2 (segs_ne _ hne)
  obtain ⟨a, rfl, hab, c0, _, c2⟩ := hRW.at_ hlen
  have hg0 : (segs k.data.toList).getD 0 (0, 0) = (x, z) := by rw [segs_cons _ hne, hx]; rfl
  rw [hg0, show a.add (0 * 3) = a by simp [Addr.add]] at c0 c2
  simp only at c0 c2
  obtain ⟨m, hm⟩ : ∃ m, (segs k.data.toList).length = m := ⟨_, rfl⟩
  unfold OneSays
  rw [hm] at hlen ⊢
  have hi0 : (0 : Int) < (m : Int) := by omega
  have Hb := Lib.hid hb
  obtain ⟨l0, l1, l2, l3, l4⟩ := hL
  have hks : 0 < k.size := by rw [← size_list]; exact List.length_pos_iff.2 hne
  rw [show badD (x, z) = false from hnb] at c2
  have h9 : x ≠ 9 := by omega
  have hq9 : ((x : Int) == 9) = false := by simp; omega
  have k10 : (k.toList == [10]) = false := by rw [toList_data, beq_eq_false_iff_ne]; exact h10
  have k13 : (k.toList == [13, 10]) = false := by rw [toList_data, beq_eq_false_iff_ne]; exact h13
  have hx32 : ¬ (x : Int) < 32 := by omega
  have hq127 : ((x : Int) == 127) = false := by simp; omega
  have hK := fun W => refKind_is (x : Int) W
  rw [show cls kindsL (char (x : Int)) = kN x from rfl] at hK
  obtain ⟨kk, hkk⟩ : ∃ kk, kN x = kk := ⟨_, rfl⟩
  rw [hkk] at hK
  have HK := Lib.hid hK
  clear hK
  have g1 : (128 : Int) ≤ (x : Int) := by omega
  have g2 : ¬ (x : Int) ≤ 159 := by omega
  have hq8232 : ((x : Int) == 8232) = false := by simp; omega
  have hq8233 : ((x : Int) == 8233) = true := by simp; omega
  clear h
  clear hRW hR hb hg0 hm hne hx
  subst hr
  go_enter Tryd.func25, Tryd.ntmps25
  go_wp2_with fail
  refine (HK.out _).mono ?_
  rintro _ _ ⟨rfl, rfl⟩
  go_wp2_with fail
  go_ret2
  exact ⟨rfl, Hb.out⟩

set_option maxRecDepth 100000 in
set_option maxHeartbeats 1000000 in
theorem r1_sgC1 (B x z : Nat) (hB : B ≤ w.heap.size) (hR : RdS w B A 0 (segs k.data.toList)) (hne : k.data.toList ≠ []) (hx : dec k.data.toList = (x, z)) (hnb : badD (x, z) = false) (h10 : k.data.toList ≠ [10]) (h13 : k.data.toList ≠ [13, 10]) (h : x = 8233) (hx32' : 32 ≤ x) (h127 : x ≠ 127) (hr : rz = true) (hx21 : x < 2097152) : OneSays k A c col tb wd wt jn rz w (angZ x 4) (angZ x 4).length := by
  have hL := LookAt.new w 24 tb wd wt jn rz
  have hb : Below w.heap.size w (w.alloc (.cells #[.int .i64 tb, .bool wd, .int .i8 wt, .bool jn, .bool rz] 24)) := (Below.refl _ w).alloc (Nat.le_refl _) _
  obtain ⟨W, hW⟩ : ∃ W, w.alloc (.cells #[.int .i64 tb, .bool wd, .int .i8 wt, .bool jn, .bool rz] 24) = W := ⟨_, rfl⟩
  rw [hW] at hL hb
  have hsz : w.heap.size < W.heap.size := by rw [← hW]; simp
  have hRW := hR.below (hb.mono hB)
  have hlen : 0 < (segs k.data.toList).length := List.length_pos_iff.2 (segs_ne _ hne)
  obtain ⟨a, rfl, hab, c0, _, c2⟩ := hRW.at_ hlen
  have hg0 : (segs k.data.toList).getD 0 (0, 0) = (x, z) := by rw [segs_cons _ hne, hx]; rfl
  rw [hg0, show a.add (0 * 3) = a by simp [Addr.add]] at c0 c2
  simp only at c0 c2
  obtain ⟨m, hm⟩ : ∃ m, (segs k.data.toList).length = m := ⟨_, rfl⟩
  unfold OneSays
  rw [hm] at hlen ⊢
  have hi0 : (0 : Int) < (m : Int) := by omega
  have Hb := Lib.hid hb
  obtain ⟨l0, l1, l2, l3, l4⟩ := hL
  have hks : 0 < k.size := by rw [← size_list]; exact List.length_pos_iff.2 hne
  rw [show badD (x, z) = false from hnb] at c2
  have h9 : x ≠ 9 := by omega
  have hq9 : ((x : Int) == 9) = false := by simp; omega
  have k10 : (k.toList == [10]) = false := by rw [toList_data, beq_eq_false_iff_ne]; exact h10
  have k13 : (k.toList == [13, 10]) = false := by rw [toList_data, beq_eq_false_iff_ne]; exact h13
  have hx32 : ¬ (x : Int) < 32 := by omega
  have hq127 : ((x : Int) == 127) = false := by simp; omega
  have hK := fun W => refKind_is (x : Int) W
  rw [show cls kindsL (char (x : Int)) = kN x from rfl] at hK
  obtain ⟨kk, hkk⟩ : ∃ kk, kN x = kk := ⟨_, rfl⟩
  rw [hkk] at hK
  have HK := Lib.hid hK
  clear hK
  have g1 : (128 : Int) ≤ (x : Int) := by omega
  have g2 : ¬ (x : Int) ≤ 159 := by omega
  have hq8232 : ((x : Int) == 8232) = false := by simp; omega
  have hq8233 : ((x : Int) == 8233) = true := by simp; omega
  clear h
  have HN := Lib.hid (fun W => rnumber_any x hx21 W)
  have hnl : (numZ x).length + 2 = (angZ x 4).length := by unfold numZ angZ; simp
  have hnl8 : (numZ x).length ≤ 8 := by unfold numZ; rw [List.length_map, List.length_reverse]; exact digsF_len 8 x 4
  obtain ⟨N, hN⟩ : ∃ N : ByteArray, (⟨(numZ x).toArray⟩ : ByteArray) = N := ⟨_, rfl⟩
  have hNs : N.size = (numZ x).length := by rw [← hN]; simp [ByteArray.size]
  have hcat : (⟨#[60]⟩ : ByteArray) ++ N ++ ⟨#[62]⟩ = ⟨(angZ x 4).toArray⟩ := by
    rw [← hN]
    have h1 := ba_app6 [60] (numZ x)
    have h2 := ba_app6 ([60] ++ numZ x) [62]
    have h3 : (⟨#[60]⟩ : ByteArray) ++ ⟨(numZ x).toArray⟩ ++ ⟨#[62]⟩ = ⟨([60] ++ numZ x ++ [62]).toArray⟩ := by
      rw [← h2, ← h1]
    rw [h3]
    all_goals rfl
  obtain ⟨R, hR9⟩ : ∃ R : ByteArray, (⟨(angZ x 4).toArray⟩ : ByteArray) = R := ⟨_, rfl⟩
  obtain ⟨q, hq9⟩ : ∃ q, (angZ x 4).length = q := ⟨_, rfl⟩
  rw [hR9] at hcat
  rw [hq9] at hnl
  simp only [hN] at HN
  have hNq : N.size + 2 = q := by omega
  have hN8 : N.size ≤ 8 := by omega
  have hw9 : IntKind.i64.wrap ((N.size : Int) + 2) = (q : Int) := by rw [IntWalk.i64_in _ (by omega)]; omega
  have HR9 := Lib.hid hR9
  have HQ9 := Lib.hid hq9
  clear hN hR9 hq9 hnl hnl8 hNs
  clear hRW hR hb hg0 hm hne hx
  subst hr
  go_enter Tryd.func25, Tryd.ntmps25
  go_wp2_with fail
  refine (HK.out _).mono ?_
  rintro _ _ ⟨rfl, rfl⟩
  go_wp2_with fail
  refine (HN.out _).mono ?_
  rintro _ w5 ⟨rfl, b5⟩
  have Hb5 := Lib.hid (Hb.out.trans (b5.mono (by omega)))
  clear b5
  go_wp2
  go_ret2
  refine ⟨?_, Hb5.out⟩
  rw [HR9.out, HQ9.out]
  first | rfl | (rw [← hcat]; rfl)

set_option maxRecDepth 100000 in
set_option maxHeartbeats 1000000 in
theorem r1_sgD0 (B x z : Nat) (hB : B ≤ w.heap.size) (hR : RdS w B A 0 (segs k.data.toList)) (hne : k.data.toList ≠ []) (hx : dec k.data.toList = (x, z)) (hnb : badD (x, z) = false) (h10 : k.data.toList ≠ [10]) (h13 : k.data.toList ≠ [13, 10]) (hc : ¬ 128 ≤ x) (h8 : x ≠ 8232) (h99 : x ≠ 8233) (hk1 : kN x = 1) (hj : joinN x = false) (hx32' : 32 ≤ x) (h127 : x ≠ 127) (hr : rz = false) : OneSays k A c col tb wd wt jn rz w [] 0 := by
  have hL := LookAt.new w 24 tb wd wt jn rz
  have hb : Below w.heap.size w (w.alloc (.cells #[.int .i64 tb, .bool wd, .int .i8 wt, .bool jn, .bool rz] 24)) := (Below.refl _ w).alloc (Nat.le_refl _) _
  obtain ⟨W, hW⟩ : ∃ W, w.alloc (.cells #[.int .i64 tb, .bool wd, .int .i8 wt, .bool jn, .bool rz] 24) = W := ⟨_, rfl⟩
  rw [hW] at hL hb
  have hsz : w.heap.size < W.heap.size := by rw [← hW]; simp
  have hRW := hR.below (hb.mono hB)
  have hlen : 0 < (segs k.data.toList).length := List.length_pos_iff.2 (segs_ne _ hne)
  obtain ⟨a, rfl, hab, c0, _, c2⟩ := hRW.at_ hlen
  have hg0 : (segs k.data.toList).getD 0 (0, 0) = (x, z) := by rw [segs_cons _ hne, hx]; rfl
  rw [hg0, show a.add (0 * 3) = a by simp [Addr.add]] at c0 c2
  simp only at c0 c2
  obtain ⟨m, hm⟩ : ∃ m, (segs k.data.toList).length = m := ⟨_, rfl⟩
  unfold OneSays
  rw [hm] at hlen ⊢
  have hi0 : (0 : Int) < (m : Int) := by omega
  have Hb := Lib.hid hb
  obtain ⟨l0, l1, l2, l3, l4⟩ := hL
  have hks : 0 < k.size := by rw [← size_list]; exact List.length_pos_iff.2 hne
  rw [show badD (x, z) = false from hnb] at c2
  have h9 : x ≠ 9 := by omega
  have hq9 : ((x : Int) == 9) = false := by simp; omega
  have k10 : (k.toList == [10]) = false := by rw [toList_data, beq_eq_false_iff_ne]; exact h10
  have k13 : (k.toList == [13, 10]) = false := by rw [toList_data, beq_eq_false_iff_ne]; exact h13
  have hx32 : ¬ (x : Int) < 32 := by omega
  have hq127 : ((x : Int) == 127) = false := by simp; omega
  have hK := fun W => refKind_is (x : Int) W
  rw [show cls kindsL (char (x : Int)) = kN x from rfl] at hK
  obtain ⟨kk, hkk⟩ : ∃ kk, kN x = kk := ⟨_, rfl⟩
  rw [hkk] at hK
  have HK := Lib.hid hK
  clear hK
  have g1 : ¬ (128 : Int) ≤ (x : Int) := by omega
  have hq8232 : ((x : Int) == 8232) = false := by simp; omega
  have hq8233 : ((x : Int) == 8233) = false := by simp; omega
  have hJ := fun W => rjoin_any x W
  rw [hj] at hJ
  have HJ := Lib.hid hJ
  clear hJ
  have hkk1 : ((kk : Int) == 1) = true := by rw [← hkk, hk1]; rfl
  clear hkk
  clear hRW hR hb hg0 hm hne hx
  subst hr
  go_enter Tryd.func25, Tryd.ntmps25
  go_wp2_with fail
  refine (HK.out _).mono ?_
  rintro _ _ ⟨rfl, rfl⟩
  go_wp2_with fail
  refine (HJ.out _).mono ?_
  rintro _ _ ⟨rfl, rfl⟩
  go_wp2_with fail
  go_ret2
  exact ⟨rfl, Hb.out⟩

set_option maxRecDepth 100000 in
set_option maxHeartbeats 1000000 in
theorem r1_sgD1 (B x z : Nat) (hB : B ≤ w.heap.size) (hR : RdS w B A 0 (segs k.data.toList)) (hne : k.data.toList ≠ []) (hx : dec k.data.toList = (x, z)) (hnb : badD (x, z) = false) (h10 : k.data.toList ≠ [10]) (h13 : k.data.toList ≠ [13, 10]) (hc : ¬ 128 ≤ x) (h8 : x ≠ 8232) (h99 : x ≠ 8233) (hk1 : kN x = 1) (hj : joinN x = false) (hx32' : 32 ≤ x) (h127 : x ≠ 127) (hr : rz = true) (hx21 : x < 2097152) : OneSays k A c col tb wd wt jn rz w (angZ x 4) (angZ x 4).length := by
  have hL := LookAt.new w 24 tb wd wt jn rz
  have hb : Below w.heap.size w (w.alloc (.cells #[.int .i64 tb, .bool wd, .int .i8 wt, .bool jn, .bool rz] 24)) := (Below.refl _ w).alloc (Nat.le_refl _) _
  obtain ⟨W, hW⟩ : ∃ W, w.alloc (.cells #[.int .i64 tb, .bool wd, .int .i8 wt, .bool jn, .bool rz] 24) = W := ⟨_, rfl⟩
  rw [hW] at hL hb
  have hsz : w.heap.size < W.heap.size := by rw [← hW]; simp
  have hRW := hR.below (hb.mono hB)
  have hlen : 0 < (segs k.data.toList).length := List.length_pos_iff.2 (segs_ne _ hne)
  obtain ⟨a, rfl, hab, c0, _, c2⟩ := hRW.at_ hlen
  have hg0 : (segs k.data.toList).getD 0 (0, 0) = (x, z) := by rw [segs_cons _ hne, hx]; rfl
  rw [hg0, show a.add (0 * 3) = a by simp [Addr.add]] at c0 c2
  simp only at c0 c2
  obtain ⟨m, hm⟩ : ∃ m, (segs k.data.toList).length = m := ⟨_, rfl⟩
  unfold OneSays
  rw [hm] at hlen ⊢
  have hi0 : (0 : Int) < (m : Int) := by omega
  have Hb := Lib.hid hb
  obtain ⟨l0, l1, l2, l3, l4⟩ := hL
  have hks : 0 < k.size := by rw [← size_list]; exact List.length_pos_iff.2 hne
  rw [show badD (x, z) = false from hnb] at c2
  have h9 : x ≠ 9 := by omega
  have hq9 : ((x : Int) == 9) = false := by simp; omega
  have k10 : (k.toList == [10]) = false := by rw [toList_data, beq_eq_false_iff_ne]; exact h10
  have k13 : (k.toList == [13, 10]) = false := by rw [toList_data, beq_eq_false_iff_ne]; exact h13
  have hx32 : ¬ (x : Int) < 32 := by omega
  have hq127 : ((x : Int) == 127) = false := by simp; omega
  have hK := fun W => refKind_is (x : Int) W
  rw [show cls kindsL (char (x : Int)) = kN x from rfl] at hK
  obtain ⟨kk, hkk⟩ : ∃ kk, kN x = kk := ⟨_, rfl⟩
  rw [hkk] at hK
  have HK := Lib.hid hK
  clear hK
  have g1 : ¬ (128 : Int) ≤ (x : Int) := by omega
  have hq8232 : ((x : Int) == 8232) = false := by simp; omega
  have hq8233 : ((x : Int) == 8233) = false := by simp; omega
  have hJ := fun W => rjoin_any x W
  rw [hj] at hJ
  have HJ := Lib.hid hJ
  clear hJ
  have hkk1 : ((kk : Int) == 1) = true := by rw [← hkk, hk1]; rfl
  clear hkk
  have HN := Lib.hid (fun W => rnumber_any x hx21 W)
  have hnl : (numZ x).length + 2 = (angZ x 4).length := by unfold numZ angZ; simp
  have hnl8 : (numZ x).length ≤ 8 := by unfold numZ; rw [List.length_map, List.length_reverse]; exact digsF_len 8 x 4
  obtain ⟨N, hN⟩ : ∃ N : ByteArray, (⟨(numZ x).toArray⟩ : ByteArray) = N := ⟨_, rfl⟩
  have hNs : N.size = (numZ x).length := by rw [← hN]; simp [ByteArray.size]
  have hcat : (⟨#[60]⟩ : ByteArray) ++ N ++ ⟨#[62]⟩ = ⟨(angZ x 4).toArray⟩ := by
    rw [← hN]
    have h1 := ba_app6 [60] (numZ x)
    have h2 := ba_app6 ([60] ++ numZ x) [62]
    have h3 : (⟨#[60]⟩ : ByteArray) ++ ⟨(numZ x).toArray⟩ ++ ⟨#[62]⟩ = ⟨([60] ++ numZ x ++ [62]).toArray⟩ := by
      rw [← h2, ← h1]
    rw [h3]
    all_goals rfl
  obtain ⟨R, hR9⟩ : ∃ R : ByteArray, (⟨(angZ x 4).toArray⟩ : ByteArray) = R := ⟨_, rfl⟩
  obtain ⟨q, hq9⟩ : ∃ q, (angZ x 4).length = q := ⟨_, rfl⟩
  rw [hR9] at hcat
  rw [hq9] at hnl
  simp only [hN] at HN
  have hNq : N.size + 2 = q := by omega
  have hN8 : N.size ≤ 8 := by omega
  have hw9 : IntKind.i64.wrap ((N.size : Int) + 2) = (q : Int) := by rw [IntWalk.i64_in _ (by omega)]; omega
  have HR9 := Lib.hid hR9
  have HQ9 := Lib.hid hq9
  clear hN hR9 hq9 hnl hnl8 hNs
  clear hRW hR hb hg0 hm hne hx
  subst hr
  go_enter Tryd.func25, Tryd.ntmps25
  go_wp2_with fail
  refine (HK.out _).mono ?_
  rintro _ _ ⟨rfl, rfl⟩
  go_wp2_with fail
  refine (HJ.out _).mono ?_
  rintro _ _ ⟨rfl, rfl⟩
  go_wp2_with fail
  refine (HN.out _).mono ?_
  rintro _ w5 ⟨rfl, b5⟩
  have Hb5 := Lib.hid (Hb.out.trans (b5.mono (by omega)))
  clear b5
  go_wp2
  go_ret2
  refine ⟨?_, Hb5.out⟩
  rw [HR9.out, HQ9.out]
  first | rfl | (rw [← hcat]; rfl)

set_option maxRecDepth 100000 in
set_option maxHeartbeats 1000000 in
theorem r1_sgE0 (B x z : Nat) (hB : B ≤ w.heap.size) (hR : RdS w B A 0 (segs k.data.toList)) (hne : k.data.toList ≠ []) (hx : dec k.data.toList = (x, z)) (hnb : badD (x, z) = false) (h10 : k.data.toList ≠ [10]) (h13 : k.data.toList ≠ [13, 10]) (hc : 128 ≤ x ∧ ¬ x ≤ 159) (h8 : x ≠ 8232) (h99 : x ≠ 8233) (hk1 : kN x = 1) (hj : joinN x = false) (hx32' : 32 ≤ x) (h127 : x ≠ 127) (hr : rz = false) : OneSays k A c col tb wd wt jn rz w [] 0 := by
  have hL := LookAt.new w 24 tb wd wt jn rz
  have hb : Below w.heap.size w (w.alloc (.cells #[.int .i64 tb, .bool wd, .int .i8 wt, .bool jn, .bool rz] 24)) := (Below.refl _ w).alloc (Nat.le_refl _) _
  obtain ⟨W, hW⟩ : ∃ W, w.alloc (.cells #[.int .i64 tb, .bool wd, .int .i8 wt, .bool jn, .bool rz] 24) = W := ⟨_, rfl⟩
  rw [hW] at hL hb
  have hsz : w.heap.size < W.heap.size := by rw [← hW]; simp
  have hRW := hR.below (hb.mono hB)
  have hlen : 0 < (segs k.data.toList).length := List.length_pos_iff.2 (segs_ne _ hne)
  obtain ⟨a, rfl, hab, c0, _, c2⟩ := hRW.at_ hlen
  have hg0 : (segs k.data.toList).getD 0 (0, 0) = (x, z) := by rw [segs_cons _ hne, hx]; rfl
  rw [hg0, show a.add (0 * 3) = a by simp [Addr.add]] at c0 c2
  simp only at c0 c2
  obtain ⟨m, hm⟩ : ∃ m, (segs k.data.toList).length = m := ⟨_, rfl⟩
  unfold OneSays
  rw [hm] at hlen ⊢
  have hi0 : (0 : Int) < (m : Int) := by omega
  have Hb := Lib.hid hb
  obtain ⟨l0, l1, l2, l3, l4⟩ := hL
  have hks : 0 < k.size := by rw [← size_list]; exact List.length_pos_iff.2 hne
  rw [show badD (x, z) = false from hnb] at c2
  have h9 : x ≠ 9 := by omega
  have hq9 : ((x : Int) == 9) = false := by simp; omega
  have k10 : (k.toList == [10]) = false := by rw [toList_data, beq_eq_false_iff_ne]; exact h10
  have k13 : (k.toList == [13, 10]) = false := by rw [toList_data, beq_eq_false_iff_ne]; exact h13
  have hx32 : ¬ (x : Int) < 32 := by omega
  have hq127 : ((x : Int) == 127) = false := by simp; omega
  have hK := fun W => refKind_is (x : Int) W
  rw [show cls kindsL (char (x : Int)) = kN x from rfl] at hK
  obtain ⟨kk, hkk⟩ : ∃ kk, kN x = kk := ⟨_, rfl⟩
  rw [hkk] at hK
  have HK := Lib.hid hK
  clear hK
  have g1 : (128 : Int) ≤ (x : Int) := by omega
  have g2 : ¬ (x : Int) ≤ 159 := by omega
  have hq8232 : ((x : Int) == 8232) = false := by simp; omega
  have hq8233 : ((x : Int) == 8233) = false := by simp; omega
  have hJ := fun W => rjoin_any x W
  rw [hj] at hJ
  have HJ := Lib.hid hJ
  clear hJ
  have hkk1 : ((kk : Int) == 1) = true := by rw [← hkk, hk1]; rfl
  clear hkk
  clear hRW hR hb hg0 hm hne hx
  subst hr
  go_enter Tryd.func25, Tryd.ntmps25
  go_wp2_with fail
  refine (HK.out _).mono ?_
  rintro _ _ ⟨rfl, rfl⟩
  go_wp2_with fail
  refine (HJ.out _).mono ?_
  rintro _ _ ⟨rfl, rfl⟩
  go_wp2_with fail
  go_ret2
  exact ⟨rfl, Hb.out⟩

set_option maxRecDepth 100000 in
set_option maxHeartbeats 1000000 in
theorem r1_sgE1 (B x z : Nat) (hB : B ≤ w.heap.size) (hR : RdS w B A 0 (segs k.data.toList)) (hne : k.data.toList ≠ []) (hx : dec k.data.toList = (x, z)) (hnb : badD (x, z) = false) (h10 : k.data.toList ≠ [10]) (h13 : k.data.toList ≠ [13, 10]) (hc : 128 ≤ x ∧ ¬ x ≤ 159) (h8 : x ≠ 8232) (h99 : x ≠ 8233) (hk1 : kN x = 1) (hj : joinN x = false) (hx32' : 32 ≤ x) (h127 : x ≠ 127) (hr : rz = true) (hx21 : x < 2097152) : OneSays k A c col tb wd wt jn rz w (angZ x 4) (angZ x 4).length := by
  have hL := LookAt.new w 24 tb wd wt jn rz
  have hb : Below w.heap.size w (w.alloc (.cells #[.int .i64 tb, .bool wd, .int .i8 wt, .bool jn, .bool rz] 24)) := (Below.refl _ w).alloc (Nat.le_refl _) _
  obtain ⟨W, hW⟩ : ∃ W, w.alloc (.cells #[.int .i64 tb, .bool wd, .int .i8 wt, .bool jn, .bool rz] 24) = W := ⟨_, rfl⟩
  rw [hW] at hL hb
  have hsz : w.heap.size < W.heap.size := by rw [← hW]; simp
  have hRW := hR.below (hb.mono hB)
  have hlen : 0 < (segs k.data.toList).length := List.length_pos_iff.2 (segs_ne _ hne)
  obtain ⟨a, rfl, hab, c0, _, c2⟩ := hRW.at_ hlen
  have hg0 : (segs k.data.toList).getD 0 (0, 0) = (x, z) := by rw [segs_cons _ hne, hx]; rfl
  rw [hg0, show a.add (0 * 3) = a by simp [Addr.add]] at c0 c2
  simp only at c0 c2
  obtain ⟨m, hm⟩ : ∃ m, (segs k.data.toList).length = m := ⟨_, rfl⟩
  unfold OneSays
  rw [hm] at hlen ⊢
  have hi0 : (0 : Int) < (m : Int) := by omega
  have Hb := Lib.hid hb
  obtain ⟨l0, l1, l2, l3, l4⟩ := hL
  have hks : 0 < k.size := by rw [← size_list]; exact List.length_pos_iff.2 hne
  rw [show badD (x, z) = false from hnb] at c2
  have h9 : x ≠ 9 := by omega
  have hq9 : ((x : Int) == 9) = false := by simp; omega
  have k10 : (k.toList == [10]) = false := by rw [toList_data, beq_eq_false_iff_ne]; exact h10
  have k13 : (k.toList == [13, 10]) = false := by rw [toList_data, beq_eq_false_iff_ne]; exact h13
  have hx32 : ¬ (x : Int) < 32 := by omega
  have hq127 : ((x : Int) == 127) = false := by simp; omega
  have hK := fun W => refKind_is (x : Int) W
  rw [show cls kindsL (char (x : Int)) = kN x from rfl] at hK
  obtain ⟨kk, hkk⟩ : ∃ kk, kN x = kk := ⟨_, rfl⟩
  rw [hkk] at hK
  have HK := Lib.hid hK
  clear hK
  have g1 : (128 : Int) ≤ (x : Int) := by omega
  have g2 : ¬ (x : Int) ≤ 159 := by omega
  have hq8232 : ((x : Int) == 8232) = false := by simp; omega
  have hq8233 : ((x : Int) == 8233) = false := by simp; omega
  have hJ := fun W => rjoin_any x W
  rw [hj] at hJ
  have HJ := Lib.hid hJ
  clear hJ
  have hkk1 : ((kk : Int) == 1) = true := by rw [← hkk, hk1]; rfl
  clear hkk
  have HN := Lib.hid (fun W => rnumber_any x hx21 W)
  have hnl : (numZ x).length + 2 = (angZ x 4).length := by unfold numZ angZ; simp
  have hnl8 : (numZ x).length ≤ 8 := by unfold numZ; rw [List.length_map, List.length_reverse]; exact digsF_len 8 x 4
  obtain ⟨N, hN⟩ : ∃ N : ByteArray, (⟨(numZ x).toArray⟩ : ByteArray) = N := ⟨_, rfl⟩
  have hNs : N.size = (numZ x).length := by rw [← hN]; simp [ByteArray.size]
  have hcat : (⟨#[60]⟩ : ByteArray) ++ N ++ ⟨#[62]⟩ = ⟨(angZ x 4).toArray⟩ := by
    rw [← hN]
    have h1 := ba_app6 [60] (numZ x)
    have h2 := ba_app6 ([60] ++ numZ x) [62]
    have h3 : (⟨#[60]⟩ : ByteArray) ++ ⟨(numZ x).toArray⟩ ++ ⟨#[62]⟩ = ⟨([60] ++ numZ x ++ [62]).toArray⟩ := by
      rw [← h2, ← h1]
    rw [h3]
    all_goals rfl
  obtain ⟨R, hR9⟩ : ∃ R : ByteArray, (⟨(angZ x 4).toArray⟩ : ByteArray) = R := ⟨_, rfl⟩
  obtain ⟨q, hq9⟩ : ∃ q, (angZ x 4).length = q := ⟨_, rfl⟩
  rw [hR9] at hcat
  rw [hq9] at hnl
  simp only [hN] at HN
  have hNq : N.size + 2 = q := by omega
  have hN8 : N.size ≤ 8 := by omega
  have hw9 : IntKind.i64.wrap ((N.size : Int) + 2) = (q : Int) := by rw [IntWalk.i64_in _ (by omega)]; omega
  have HR9 := Lib.hid hR9
  have HQ9 := Lib.hid hq9
  clear hN hR9 hq9 hnl hnl8 hNs
  clear hRW hR hb hg0 hm hne hx
  subst hr
  go_enter Tryd.func25, Tryd.ntmps25
  go_wp2_with fail
  refine (HK.out _).mono ?_
  rintro _ _ ⟨rfl, rfl⟩
  go_wp2_with fail
  refine (HJ.out _).mono ?_
  rintro _ _ ⟨rfl, rfl⟩
  go_wp2_with fail
  refine (HN.out _).mono ?_
  rintro _ w5 ⟨rfl, b5⟩
  have Hb5 := Lib.hid (Hb.out.trans (b5.mono (by omega)))
  clear b5
  go_wp2
  go_ret2
  refine ⟨?_, Hb5.out⟩
  rw [HR9.out, HQ9.out]
  first | rfl | (rw [← hcat]; rfl)

set_option maxRecDepth 100000 in
set_option maxHeartbeats 1000000 in
theorem r1_mk2as (B x z : Nat) (hB : B ≤ w.heap.size) (hR : RdS w B A 0 (segs k.data.toList)) (hne : k.data.toList ≠ []) (hx : dec k.data.toList = (x, z)) (hnb : badD (x, z) = false) (h10 : k.data.toList ≠ [10]) (h13 : k.data.toList ≠ [13, 10]) (hc : ¬ 128 ≤ x) (h8 : x ≠ 8232) (h99 : x ≠ 8233) (hk2 : kN x = 2) (hx32' : 32 ≤ x) (h127 : x ≠ 127) (hsz : k.size ≤ 1073741824) (h32 : (segs k.data.toList).length ≠ 32) : OneSays k A c col tb wd wt jn rz w (circD k.data.toList) 1 := by
  have hL := LookAt.new w 24 tb wd wt jn rz
  have hb : Below w.heap.size w (w.alloc (.cells #[.int .i64 tb, .bool wd, .int .i8 wt, .bool jn, .bool rz] 24)) := (Below.refl _ w).alloc (Nat.le_refl _) _
  obtain ⟨W, hW⟩ : ∃ W, w.alloc (.cells #[.int .i64 tb, .bool wd, .int .i8 wt, .bool jn, .bool rz] 24) = W := ⟨_, rfl⟩
  rw [hW] at hL hb
  have hsz : w.heap.size < W.heap.size := by rw [← hW]; simp
  have hRW := hR.below (hb.mono hB)
  have hlen : 0 < (segs k.data.toList).length := List.length_pos_iff.2 (segs_ne _ hne)
  obtain ⟨a, rfl, hab, c0, _, c2⟩ := hRW.at_ hlen
  have hg0 : (segs k.data.toList).getD 0 (0, 0) = (x, z) := by rw [segs_cons _ hne, hx]; rfl
  rw [hg0, show a.add (0 * 3) = a by simp [Addr.add]] at c0 c2
  simp only at c0 c2
  obtain ⟨m, hm⟩ : ∃ m, (segs k.data.toList).length = m := ⟨_, rfl⟩
  unfold OneSays
  rw [hm] at hlen ⊢
  have hi0 : (0 : Int) < (m : Int) := by omega
  have Hb := Lib.hid hb
  obtain ⟨l0, l1, l2, l3, l4⟩ := hL
  have hks : 0 < k.size := by rw [← size_list]; exact List.length_pos_iff.2 hne
  rw [show badD (x, z) = false from hnb] at c2
  rw [hm] at h32
  have h9 : x ≠ 9 := by omega
  have hq9 : ((x : Int) == 9) = false := by simp; omega
  have k10 : (k.toList == [10]) = false := by rw [toList_data, beq_eq_false_iff_ne]; exact h10
  have k13 : (k.toList == [13, 10]) = false := by rw [toList_data, beq_eq_false_iff_ne]; exact h13
  have hx32 : ¬ (x : Int) < 32 := by omega
  have hq127 : ((x : Int) == 127) = false := by simp; omega
  have hK := fun W => refKind_is (x : Int) W
  rw [show cls kindsL (char (x : Int)) = kN x from rfl] at hK
  obtain ⟨kk, hkk⟩ : ∃ kk, kN x = kk := ⟨_, rfl⟩
  rw [hkk] at hK
  have HK := Lib.hid hK
  clear hK
  have g1 : ¬ (128 : Int) ≤ (x : Int) := by omega
  have hq8232 : ((x : Int) == 8232) = false := by simp; omega
  have hq8233 : ((x : Int) == 8233) = false := by simp; omega
  have hkk1 : ((kk : Int) == 1) = false := by rw [← hkk, hk2]; rfl
  have hkk2 : ((kk : Int) == 2) = true := by rw [← hkk, hk2]; rfl
  clear hkk
  have HC := Lib.hid circle_text6
  have h32i : ((m : Int) == 32) = false := by simp; omega
  have hcat : (⟨#[226, 151, 140]⟩ : ByteArray) ++ k = ⟨(circD k.data.toList).toArray⟩ := by
    unfold circD
    rw [hm, if_neg h32, ← ba_app6, ba_self6b]
  have Hcat := Lib.hid hcat
  clear hcat
  clear hRW hR hb hg0 hm hne hx
  go_enter Tryd.func25, Tryd.ntmps25
  go_wp2_with fail
  refine (HK.out _).mono ?_
  rintro _ _ ⟨rfl, rfl⟩
  go_wp2_with fail
  refine (HC.out _).mono ?_
  rintro _ w5 ⟨rfl, b5⟩
  have Hb5 := Lib.hid (Hb.out.trans (b5.mono (by omega)))
  clear b5
  go_wp2
  go_ret2
  refine ⟨?_, Hb5.out⟩
  rw [← Hcat.out]
  rfl

set_option maxRecDepth 100000 in
set_option maxHeartbeats 1000000 in
theorem r1_mk2af (B x z : Nat) (hB : B ≤ w.heap.size) (hR : RdS w B A 0 (segs k.data.toList)) (hne : k.data.toList ≠ []) (hx : dec k.data.toList = (x, z)) (hnb : badD (x, z) = false) (h10 : k.data.toList ≠ [10]) (h13 : k.data.toList ≠ [13, 10]) (hc : ¬ 128 ≤ x) (h8 : x ≠ 8232) (h99 : x ≠ 8233) (hk2 : kN x = 2) (hx32' : 32 ≤ x) (h127 : x ≠ 127) (hsz : k.size ≤ 1073741824) (h32 : (segs k.data.toList).length = 32) : OneSays k A c col tb wd wt jn rz w (circD k.data.toList) 1 := by
  have hL := LookAt.new w 24 tb wd wt jn rz
  have hb : Below w.heap.size w (w.alloc (.cells #[.int .i64 tb, .bool wd, .int .i8 wt, .bool jn, .bool rz] 24)) := (Below.refl _ w).alloc (Nat.le_refl _) _
  obtain ⟨W, hW⟩ : ∃ W, w.alloc (.cells #[.int .i64 tb, .bool wd, .int .i8 wt, .bool jn, .bool rz] 24) = W := ⟨_, rfl⟩
  rw [hW] at hL hb
  have hsz : w.heap.size < W.heap.size := by rw [← hW]; simp
  have hRW := hR.below (hb.mono hB)
  have hlen : 0 < (segs k.data.toList).length := List.length_pos_iff.2 (segs_ne _ hne)
  obtain ⟨a, rfl, hab, c0, _, c2⟩ := hRW.at_ hlen
  have hg0 : (segs k.data.toList).getD 0 (0, 0) = (x, z) := by rw [segs_cons _ hne, hx]; rfl
  rw [hg0, show a.add (0 * 3) = a by simp [Addr.add]] at c0 c2
  simp only at c0 c2
  obtain ⟨a2, ha2, _, _, e1, _⟩ := hRW.at_ (i := 31) (by omega)
  obtain rfl : a = a2 := by injection ha2
  rw [Nat.zero_add] at e1
  have e1' : W.cell? ⟨a.block, a.off + 94, none⟩ = some (.int .i64 ((total ((segs k.data.toList).take 31) : Nat) : Int)) := e1
  clear ha2
  obtain ⟨m, hm⟩ : ∃ m, (segs k.data.toList).length = m := ⟨_, rfl⟩
  unfold OneSays
  rw [hm] at hlen ⊢
  have hi0 : (0 : Int) < (m : Int) := by omega
  have Hb := Lib.hid hb
  obtain ⟨l0, l1, l2, l3, l4⟩ := hL
  have hks : 0 < k.size := by rw [← size_list]; exact List.length_pos_iff.2 hne
  rw [show badD (x, z) = false from hnb] at c2
  rw [hm] at h32
  have h9 : x ≠ 9 := by omega
  have hq9 : ((x : Int) == 9) = false := by simp; omega
  have k10 : (k.toList == [10]) = false := by rw [toList_data, beq_eq_false_iff_ne]; exact h10
  have k13 : (k.toList == [13, 10]) = false := by rw [toList_data, beq_eq_false_iff_ne]; exact h13
  have hx32 : ¬ (x : Int) < 32 := by omega
  have hq127 : ((x : Int) == 127) = false := by simp; omega
  have hK := fun W => refKind_is (x : Int) W
  rw [show cls kindsL (char (x : Int)) = kN x from rfl] at hK
  obtain ⟨kk, hkk⟩ : ∃ kk, kN x = kk := ⟨_, rfl⟩
  rw [hkk] at hK
  have HK := Lib.hid hK
  clear hK
  have g1 : ¬ (128 : Int) ≤ (x : Int) := by omega
  have hq8232 : ((x : Int) == 8232) = false := by simp; omega
  have hq8233 : ((x : Int) == 8233) = false := by simp; omega
  have hkk1 : ((kk : Int) == 1) = false := by rw [← hkk, hk2]; rfl
  have hkk2 : ((kk : Int) == 2) = true := by rw [← hkk, hk2]; rfl
  clear hkk
  have HC := Lib.hid circle_text6
  have h32i : ((m : Int) == 32) = true := by simp; omega
  have hm31 : IntKind.i64.wrap ((m : Int) - 1) = 31 := by rw [IntWalk.i64_in _ (by omega)]; omega
  have h31m : (31 : Int) < (m : Int) := by omega
  have h31n : 31 < m := by omega
  have hcat : (⟨#[226, 151, 140]⟩ : ByteArray) ++ k.extract 0 (total ((segs k.data.toList).take 31)) = ⟨(circD k.data.toList).toArray⟩ := by
    unfold circD
    rw [hm, if_pos h32, ← ba_app6, ← take_list, ba_self6b]
  have htl : total ((segs k.data.toList).take 31) ≤ k.size := by
    have h1 := total_take_le (segs k.data.toList) 31
    rw [total_segs, size_list] at h1
    exact h1
  obtain ⟨E, hE⟩ : ∃ E, total ((segs k.data.toList).take 31) = E := ⟨_, rfl⟩
  rw [hE] at hcat htl e1 e1'
  have htli : (E : Int) ≤ (k.size : Int) := by omega
  have hkx : (k.extract 0 E).size ≤ k.size := by simp; omega
  obtain ⟨K2, hK2⟩ : ∃ K2, k.extract 0 E = K2 := ⟨_, rfl⟩
  rw [hK2] at hcat hkx
  have Hcat := Lib.hid hcat
  clear hcat h32
  clear hRW hR hb hg0 hm hne hx
  go_enter Tryd.func25, Tryd.ntmps25
  go_wp2_with fail
  refine (HK.out _).mono ?_
  rintro _ _ ⟨rfl, rfl⟩
  go_wp2_with fail
  refine (HC.out _).mono ?_
  rintro _ w5 ⟨rfl, b5⟩
  have Hb5 := Lib.hid (Hb.out.trans (b5.mono (by omega)))
  clear b5
  go_wp2
  go_ret2
  refine ⟨?_, Hb5.out⟩
  rw [← Hcat.out]
  rfl

set_option maxRecDepth 100000 in
set_option maxHeartbeats 1000000 in
theorem r1_mk2bs (B x z : Nat) (hB : B ≤ w.heap.size) (hR : RdS w B A 0 (segs k.data.toList)) (hne : k.data.toList ≠ []) (hx : dec k.data.toList = (x, z)) (hnb : badD (x, z) = false) (h10 : k.data.toList ≠ [10]) (h13 : k.data.toList ≠ [13, 10]) (hc : 128 ≤ x ∧ ¬ x ≤ 159) (h8 : x ≠ 8232) (h99 : x ≠ 8233) (hk2 : kN x = 2) (hx32' : 32 ≤ x) (h127 : x ≠ 127) (hsz : k.size ≤ 1073741824) (h32 : (segs k.data.toList).length ≠ 32) : OneSays k A c col tb wd wt jn rz w (circD k.data.toList) 1 := by
  have hL := LookAt.new w 24 tb wd wt jn rz
  have hb : Below w.heap.size w (w.alloc (.cells #[.int .i64 tb, .bool wd, .int .i8 wt, .bool jn, .bool rz] 24)) := (Below.refl _ w).alloc (Nat.le_refl _) _
  obtain ⟨W, hW⟩ : ∃ W, w.alloc (.cells #[.int .i64 tb, .bool wd, .int .i8 wt, .bool jn, .bool rz] 24) = W := ⟨_, rfl⟩
  rw [hW] at hL hb
  have hsz : w.heap.size < W.heap.size := by rw [← hW]; simp
  have hRW := hR.below (hb.mono hB)
  have hlen : 0 < (segs k.data.toList).length := List.length_pos_iff.2 (segs_ne _ hne)
  obtain ⟨a, rfl, hab, c0, _, c2⟩ := hRW.at_ hlen
  have hg0 : (segs k.data.toList).getD 0 (0, 0) = (x, z) := by rw [segs_cons _ hne, hx]; rfl
  rw [hg0, show a.add (0 * 3) = a by simp [Addr.add]] at c0 c2
  simp only at c0 c2
  obtain ⟨m, hm⟩ : ∃ m, (segs k.data.toList).length = m := ⟨_, rfl⟩
  unfold OneSays
  rw [hm] at hlen ⊢
  have hi0 : (0 : Int) < (m : Int) := by omega
  have Hb := Lib.hid hb
  obtain ⟨l0, l1, l2, l3, l4⟩ := hL
  have hks : 0 < k.size := by rw [← size_list]; exact List.length_pos_iff.2 hne
  rw [show badD (x, z) = false from hnb] at c2
  rw [hm] at h32
  have h9 : x ≠ 9 := by omega
  have hq9 : ((x : Int) == 9) = false := by simp; omega
  have k10 : (k.toList == [10]) = false := by rw [toList_data, beq_eq_false_iff_ne]; exact h10
  have k13 : (k.toList == [13, 10]) = false := by rw [toList_data, beq_eq_false_iff_ne]; exact h13
  have hx32 : ¬ (x : Int) < 32 := by omega
  have hq127 : ((x : Int) == 127) = false := by simp; omega
  have hK := fun W => refKind_is (x : Int) W
  rw [show cls kindsL (char (x : Int)) = kN x from rfl] at hK
  obtain ⟨kk, hkk⟩ : ∃ kk, kN x = kk := ⟨_, rfl⟩
  rw [hkk] at hK
  have HK := Lib.hid hK
  clear hK
  have g1 : (128 : Int) ≤ (x : Int) := by omega
  have g2 : ¬ (x : Int) ≤ 159 := by omega
  have hq8232 : ((x : Int) == 8232) = false := by simp; omega
  have hq8233 : ((x : Int) == 8233) = false := by simp; omega
  have hkk1 : ((kk : Int) == 1) = false := by rw [← hkk, hk2]; rfl
  have hkk2 : ((kk : Int) == 2) = true := by rw [← hkk, hk2]; rfl
  clear hkk
  have HC := Lib.hid circle_text6
  have h32i : ((m : Int) == 32) = false := by simp; omega
  have hcat : (⟨#[226, 151, 140]⟩ : ByteArray) ++ k = ⟨(circD k.data.toList).toArray⟩ := by
    unfold circD
    rw [hm, if_neg h32, ← ba_app6, ba_self6b]
  have Hcat := Lib.hid hcat
  clear hcat
  clear hRW hR hb hg0 hm hne hx
  go_enter Tryd.func25, Tryd.ntmps25
  go_wp2_with fail
  refine (HK.out _).mono ?_
  rintro _ _ ⟨rfl, rfl⟩
  go_wp2_with fail
  refine (HC.out _).mono ?_
  rintro _ w5 ⟨rfl, b5⟩
  have Hb5 := Lib.hid (Hb.out.trans (b5.mono (by omega)))
  clear b5
  go_wp2
  go_ret2
  refine ⟨?_, Hb5.out⟩
  rw [← Hcat.out]
  rfl

set_option maxRecDepth 100000 in
set_option maxHeartbeats 1000000 in
theorem r1_mk2bf (B x z : Nat) (hB : B ≤ w.heap.size) (hR : RdS w B A 0 (segs k.data.toList)) (hne : k.data.toList ≠ []) (hx : dec k.data.toList = (x, z)) (hnb : badD (x, z) = false) (h10 : k.data.toList ≠ [10]) (h13 : k.data.toList ≠ [13, 10]) (hc : 128 ≤ x ∧ ¬ x ≤ 159) (h8 : x ≠ 8232) (h99 : x ≠ 8233) (hk2 : kN x = 2) (hx32' : 32 ≤ x) (h127 : x ≠ 127) (hsz : k.size ≤ 1073741824) (h32 : (segs k.data.toList).length = 32) : OneSays k A c col tb wd wt jn rz w (circD k.data.toList) 1 := by
  have hL := LookAt.new w 24 tb wd wt jn rz
  have hb : Below w.heap.size w (w.alloc (.cells #[.int .i64 tb, .bool wd, .int .i8 wt, .bool jn, .bool rz] 24)) := (Below.refl _ w).alloc (Nat.le_refl _) _
  obtain ⟨W, hW⟩ : ∃ W, w.alloc (.cells #[.int .i64 tb, .bool wd, .int .i8 wt, .bool jn, .bool rz] 24) = W := ⟨_, rfl⟩
  rw [hW] at hL hb
  have hsz : w.heap.size < W.heap.size := by rw [← hW]; simp
  have hRW := hR.below (hb.mono hB)
  have hlen : 0 < (segs k.data.toList).length := List.length_pos_iff.2 (segs_ne _ hne)
  obtain ⟨a, rfl, hab, c0, _, c2⟩ := hRW.at_ hlen
  have hg0 : (segs k.data.toList).getD 0 (0, 0) = (x, z) := by rw [segs_cons _ hne, hx]; rfl
  rw [hg0, show a.add (0 * 3) = a by simp [Addr.add]] at c0 c2
  simp only at c0 c2
  obtain ⟨a2, ha2, _, _, e1, _⟩ := hRW.at_ (i := 31) (by omega)
  obtain rfl : a = a2 := by injection ha2
  rw [Nat.zero_add] at e1
  have e1' : W.cell? ⟨a.block, a.off + 94, none⟩ = some (.int .i64 ((total ((segs k.data.toList).take 31) : Nat) : Int)) := e1
  clear ha2
  obtain ⟨m, hm⟩ : ∃ m, (segs k.data.toList).length = m := ⟨_, rfl⟩
  unfold OneSays
  rw [hm] at hlen ⊢
  have hi0 : (0 : Int) < (m : Int) := by omega
  have Hb := Lib.hid hb
  obtain ⟨l0, l1, l2, l3, l4⟩ := hL
  have hks : 0 < k.size := by rw [← size_list]; exact List.length_pos_iff.2 hne
  rw [show badD (x, z) = false from hnb] at c2
  rw [hm] at h32
  have h9 : x ≠ 9 := by omega
  have hq9 : ((x : Int) == 9) = false := by simp; omega
  have k10 : (k.toList == [10]) = false := by rw [toList_data, beq_eq_false_iff_ne]; exact h10
  have k13 : (k.toList == [13, 10]) = false := by rw [toList_data, beq_eq_false_iff_ne]; exact h13
  have hx32 : ¬ (x : Int) < 32 := by omega
  have hq127 : ((x : Int) == 127) = false := by simp; omega
  have hK := fun W => refKind_is (x : Int) W
  rw [show cls kindsL (char (x : Int)) = kN x from rfl] at hK
  obtain ⟨kk, hkk⟩ : ∃ kk, kN x = kk := ⟨_, rfl⟩
  rw [hkk] at hK
  have HK := Lib.hid hK
  clear hK
  have g1 : (128 : Int) ≤ (x : Int) := by omega
  have g2 : ¬ (x : Int) ≤ 159 := by omega
  have hq8232 : ((x : Int) == 8232) = false := by simp; omega
  have hq8233 : ((x : Int) == 8233) = false := by simp; omega
  have hkk1 : ((kk : Int) == 1) = false := by rw [← hkk, hk2]; rfl
  have hkk2 : ((kk : Int) == 2) = true := by rw [← hkk, hk2]; rfl
  clear hkk
  have HC := Lib.hid circle_text6
  have h32i : ((m : Int) == 32) = true := by simp; omega
  have hm31 : IntKind.i64.wrap ((m : Int) - 1) = 31 := by rw [IntWalk.i64_in _ (by omega)]; omega
  have h31m : (31 : Int) < (m : Int) := by omega
  have h31n : 31 < m := by omega
  have hcat : (⟨#[226, 151, 140]⟩ : ByteArray) ++ k.extract 0 (total ((segs k.data.toList).take 31)) = ⟨(circD k.data.toList).toArray⟩ := by
    unfold circD
    rw [hm, if_pos h32, ← ba_app6, ← take_list, ba_self6b]
  have htl : total ((segs k.data.toList).take 31) ≤ k.size := by
    have h1 := total_take_le (segs k.data.toList) 31
    rw [total_segs, size_list] at h1
    exact h1
  obtain ⟨E, hE⟩ : ∃ E, total ((segs k.data.toList).take 31) = E := ⟨_, rfl⟩
  rw [hE] at hcat htl e1 e1'
  have htli : (E : Int) ≤ (k.size : Int) := by omega
  have hkx : (k.extract 0 E).size ≤ k.size := by simp; omega
  obtain ⟨K2, hK2⟩ : ∃ K2, k.extract 0 E = K2 := ⟨_, rfl⟩
  rw [hK2] at hcat hkx
  have Hcat := Lib.hid hcat
  clear hcat h32
  clear hRW hR hb hg0 hm hne hx
  go_enter Tryd.func25, Tryd.ntmps25
  go_wp2_with fail
  refine (HK.out _).mono ?_
  rintro _ _ ⟨rfl, rfl⟩
  go_wp2_with fail
  refine (HC.out _).mono ?_
  rintro _ w5 ⟨rfl, b5⟩
  have Hb5 := Lib.hid (Hb.out.trans (b5.mono (by omega)))
  clear b5
  go_wp2
  go_ret2
  refine ⟨?_, Hb5.out⟩
  rw [← Hcat.out]
  rfl

set_option maxRecDepth 100000 in
set_option maxHeartbeats 1000000 in
theorem r1_mkjs (B x z : Nat) (hB : B ≤ w.heap.size) (hR : RdS w B A 0 (segs k.data.toList)) (hne : k.data.toList ≠ []) (hx : dec k.data.toList = (x, z)) (hnb : badD (x, z) = false) (h10 : k.data.toList ≠ [10]) (h13 : k.data.toList ≠ [13, 10]) (hc : 128 ≤ x ∧ ¬ x ≤ 159) (h8 : x ≠ 8232) (h99 : x ≠ 8233) (hk1 : kN x = 1) (hj : joinN x = true) (hx32' : 32 ≤ x) (h127 : x ≠ 127) (hsz : k.size ≤ 1073741824) (h32 : (segs k.data.toList).length ≠ 32) : OneSays k A c col tb wd wt jn rz w (circD k.data.toList) 1 := by
  have hL := LookAt.new w 24 tb wd wt jn rz
  have hb : Below w.heap.size w (w.alloc (.cells #[.int .i64 tb, .bool wd, .int .i8 wt, .bool jn, .bool rz] 24)) := (Below.refl _ w).alloc (Nat.le_refl _) _
  obtain ⟨W, hW⟩ : ∃ W, w.alloc (.cells #[.int .i64 tb, .bool wd, .int .i8 wt, .bool jn, .bool rz] 24) = W := ⟨_, rfl⟩
  rw [hW] at hL hb
  have hsz : w.heap.size < W.heap.size := by rw [← hW]; simp
  have hRW := hR.below (hb.mono hB)
  have hlen : 0 < (segs k.data.toList).length := List.length_pos_iff.2 (segs_ne _ hne)
  obtain ⟨a, rfl, hab, c0, _, c2⟩ := hRW.at_ hlen
  have hg0 : (segs k.data.toList).getD 0 (0, 0) = (x, z) := by rw [segs_cons _ hne, hx]; rfl
  rw [hg0, show a.add (0 * 3) = a by simp [Addr.add]] at c0 c2
  simp only at c0 c2
  obtain ⟨m, hm⟩ : ∃ m, (segs k.data.toList).length = m := ⟨_, rfl⟩
  unfold OneSays
  rw [hm] at hlen ⊢
  have hi0 : (0 : Int) < (m : Int) := by omega
  have Hb := Lib.hid hb
  obtain ⟨l0, l1, l2, l3, l4⟩ := hL
  have hks : 0 < k.size := by rw [← size_list]; exact List.length_pos_iff.2 hne
  rw [show badD (x, z) = false from hnb] at c2
  rw [hm] at h32
  have h9 : x ≠ 9 := by omega
  have hq9 : ((x : Int) == 9) = false := by simp; omega
  have k10 : (k.toList == [10]) = false := by rw [toList_data, beq_eq_false_iff_ne]; exact h10
  have k13 : (k.toList == [13, 10]) = false := by rw [toList_data, beq_eq_false_iff_ne]; exact h13
  have hx32 : ¬ (x : Int) < 32 := by omega
  have hq127 : ((x : Int) == 127) = false := by simp; omega
  have hK := fun W => refKind_is (x : Int) W
  rw [show cls kindsL (char (x : Int)) = kN x from rfl] at hK
  obtain ⟨kk, hkk⟩ : ∃ kk, kN x = kk := ⟨_, rfl⟩
  rw [hkk] at hK
  have HK := Lib.hid hK
  clear hK
  have g1 : (128 : Int) ≤ (x : Int) := by omega
  have g2 : ¬ (x : Int) ≤ 159 := by omega
  have hq8232 : ((x : Int) == 8232) = false := by simp; omega
  have hq8233 : ((x : Int) == 8233) = false := by simp; omega
  have hJ := fun W => rjoin_any x W
  rw [hj] at hJ
  have HJ := Lib.hid hJ
  clear hJ
  have hkk1 : ((kk : Int) == 1) = true := by rw [← hkk, hk1]; rfl
  have hkk2 : ((kk : Int) == 2) = false := by rw [← hkk, hk1]; rfl
  clear hkk
  have HC := Lib.hid circle_text6
  have h32i : ((m : Int) == 32) = false := by simp; omega
  have hcat : (⟨#[226, 151, 140]⟩ : ByteArray) ++ k = ⟨(circD k.data.toList).toArray⟩ := by
    unfold circD
    rw [hm, if_neg h32, ← ba_app6, ba_self6b]
  have Hcat := Lib.hid hcat
  clear hcat
  clear hRW hR hb hg0 hm hne hx
  go_enter Tryd.func25, Tryd.ntmps25
  go_wp2_with fail
  refine (HK.out _).mono ?_
  rintro _ _ ⟨rfl, rfl⟩
  go_wp2_with fail
  refine (HJ.out _).mono ?_
  rintro _ _ ⟨rfl, rfl⟩
  go_wp2_with fail
  refine (HJ.out _).mono ?_
  rintro _ _ ⟨rfl, rfl⟩
  go_wp2_with fail
  refine (HC.out _).mono ?_
  rintro _ w5 ⟨rfl, b5⟩
  have Hb5 := Lib.hid (Hb.out.trans (b5.mono (by omega)))
  clear b5
  go_wp2
  go_ret2
  refine ⟨?_, Hb5.out⟩
  rw [← Hcat.out]
  rfl

set_option maxRecDepth 100000 in
set_option maxHeartbeats 1000000 in
theorem r1_mkjf (B x z : Nat) (hB : B ≤ w.heap.size) (hR : RdS w B A 0 (segs k.data.toList)) (hne : k.data.toList ≠ []) (hx : dec k.data.toList = (x, z)) (hnb : badD (x, z) = false) (h10 : k.data.toList ≠ [10]) (h13 : k.data.toList ≠ [13, 10]) (hc : 128 ≤ x ∧ ¬ x ≤ 159) (h8 : x ≠ 8232) (h99 : x ≠ 8233) (hk1 : kN x = 1) (hj : joinN x = true) (hx32' : 32 ≤ x) (h127 : x ≠ 127) (hsz : k.size ≤ 1073741824) (h32 : (segs k.data.toList).length = 32) : OneSays k A c col tb wd wt jn rz w (circD k.data.toList) 1 := by
  have hL := LookAt.new w 24 tb wd wt jn rz
  have hb : Below w.heap.size w (w.alloc (.cells #[.int .i64 tb, .bool wd, .int .i8 wt, .bool jn, .bool rz] 24)) := (Below.refl _ w).alloc (Nat.le_refl _) _
  obtain ⟨W, hW⟩ : ∃ W, w.alloc (.cells #[.int .i64 tb, .bool wd, .int .i8 wt, .bool jn, .bool rz] 24) = W := ⟨_, rfl⟩
  rw [hW] at hL hb
  have hsz : w.heap.size < W.heap.size := by rw [← hW]; simp
  have hRW := hR.below (hb.mono hB)
  have hlen : 0 < (segs k.data.toList).length := List.length_pos_iff.2 (segs_ne _ hne)
  obtain ⟨a, rfl, hab, c0, _, c2⟩ := hRW.at_ hlen
  have hg0 : (segs k.data.toList).getD 0 (0, 0) = (x, z) := by rw [segs_cons _ hne, hx]; rfl
  rw [hg0, show a.add (0 * 3) = a by simp [Addr.add]] at c0 c2
  simp only at c0 c2
  obtain ⟨a2, ha2, _, _, e1, _⟩ := hRW.at_ (i := 31) (by omega)
  obtain rfl : a = a2 := by injection ha2
  rw [Nat.zero_add] at e1
  have e1' : W.cell? ⟨a.block, a.off + 94, none⟩ = some (.int .i64 ((total ((segs k.data.toList).take 31) : Nat) : Int)) := e1
  clear ha2
  obtain ⟨m, hm⟩ : ∃ m, (segs k.data.toList).length = m := ⟨_, rfl⟩
  unfold OneSays
  rw [hm] at hlen ⊢
  have hi0 : (0 : Int) < (m : Int) := by omega
  have Hb := Lib.hid hb
  obtain ⟨l0, l1, l2, l3, l4⟩ := hL
  have hks : 0 < k.size := by rw [← size_list]; exact List.length_pos_iff.2 hne
  rw [show badD (x, z) = false from hnb] at c2
  rw [hm] at h32
  have h9 : x ≠ 9 := by omega
  have hq9 : ((x : Int) == 9) = false := by simp; omega
  have k10 : (k.toList == [10]) = false := by rw [toList_data, beq_eq_false_iff_ne]; exact h10
  have k13 : (k.toList == [13, 10]) = false := by rw [toList_data, beq_eq_false_iff_ne]; exact h13
  have hx32 : ¬ (x : Int) < 32 := by omega
  have hq127 : ((x : Int) == 127) = false := by simp; omega
  have hK := fun W => refKind_is (x : Int) W
  rw [show cls kindsL (char (x : Int)) = kN x from rfl] at hK
  obtain ⟨kk, hkk⟩ : ∃ kk, kN x = kk := ⟨_, rfl⟩
  rw [hkk] at hK
  have HK := Lib.hid hK
  clear hK
  have g1 : (128 : Int) ≤ (x : Int) := by omega
  have g2 : ¬ (x : Int) ≤ 159 := by omega
  have hq8232 : ((x : Int) == 8232) = false := by simp; omega
  have hq8233 : ((x : Int) == 8233) = false := by simp; omega
  have hJ := fun W => rjoin_any x W
  rw [hj] at hJ
  have HJ := Lib.hid hJ
  clear hJ
  have hkk1 : ((kk : Int) == 1) = true := by rw [← hkk, hk1]; rfl
  have hkk2 : ((kk : Int) == 2) = false := by rw [← hkk, hk1]; rfl
  clear hkk
  have HC := Lib.hid circle_text6
  have h32i : ((m : Int) == 32) = true := by simp; omega
  have hm31 : IntKind.i64.wrap ((m : Int) - 1) = 31 := by rw [IntWalk.i64_in _ (by omega)]; omega
  have h31m : (31 : Int) < (m : Int) := by omega
  have h31n : 31 < m := by omega
  have hcat : (⟨#[226, 151, 140]⟩ : ByteArray) ++ k.extract 0 (total ((segs k.data.toList).take 31)) = ⟨(circD k.data.toList).toArray⟩ := by
    unfold circD
    rw [hm, if_pos h32, ← ba_app6, ← take_list, ba_self6b]
  have htl : total ((segs k.data.toList).take 31) ≤ k.size := by
    have h1 := total_take_le (segs k.data.toList) 31
    rw [total_segs, size_list] at h1
    exact h1
  obtain ⟨E, hE⟩ : ∃ E, total ((segs k.data.toList).take 31) = E := ⟨_, rfl⟩
  rw [hE] at hcat htl e1 e1'
  have htli : (E : Int) ≤ (k.size : Int) := by omega
  have hkx : (k.extract 0 E).size ≤ k.size := by simp; omega
  obtain ⟨K2, hK2⟩ : ∃ K2, k.extract 0 E = K2 := ⟨_, rfl⟩
  rw [hK2] at hcat hkx
  have Hcat := Lib.hid hcat
  clear hcat h32
  clear hRW hR hb hg0 hm hne hx
  go_enter Tryd.func25, Tryd.ntmps25
  go_wp2_with fail
  refine (HK.out _).mono ?_
  rintro _ _ ⟨rfl, rfl⟩
  go_wp2_with fail
  refine (HJ.out _).mono ?_
  rintro _ _ ⟨rfl, rfl⟩
  go_wp2_with fail
  refine (HJ.out _).mono ?_
  rintro _ _ ⟨rfl, rfl⟩
  go_wp2_with fail
  refine (HC.out _).mono ?_
  rintro _ w5 ⟨rfl, b5⟩
  have Hb5 := Lib.hid (Hb.out.trans (b5.mono (by omega)))
  clear b5
  go_wp2
  go_ret2
  refine ⟨?_, Hb5.out⟩
  rw [← Hcat.out]
  rfl

set_option maxRecDepth 100000 in
set_option maxHeartbeats 1000000 in
theorem r1_rega (B x z : Nat) (hB : B ≤ w.heap.size) (hR : RdS w B A 0 (segs k.data.toList)) (hne : k.data.toList ≠ []) (hx : dec k.data.toList = (x, z)) (hnb : badD (x, z) = false) (h10 : k.data.toList ≠ [10]) (h13 : k.data.toList ≠ [13, 10]) (hx32' : 32 ≤ x) (h127 : x ≠ 127) (h8 : x ≠ 8232) (h99 : x ≠ 8233) (hk1 : kN x ≠ 1) (hk2 : kN x ≠ 2) (hj : joinN x = false) (hc : ¬ 128 ≤ x) (hm1 : 1 < (segs k.data.toList).length) (hr1 : regN x = true) (hr2 : regN (secZ k.data.toList) = true) : OneSays k A c col tb wd wt jn rz w k.data.toList 2 := by
  have hL := LookAt.new w 24 tb wd wt jn rz
  have hb : Below w.heap.size w (w.alloc (.cells #[.int .i64 tb, .bool wd, .int .i8 wt, .bool jn, .bool rz] 24)) := (Below.refl _ w).alloc (Nat.le_refl _) _
  obtain ⟨W, hW⟩ : ∃ W, w.alloc (.cells #[.int .i64 tb, .bool wd, .int .i8 wt, .bool jn, .bool rz] 24) = W := ⟨_, rfl⟩
  rw [hW] at hL hb
  have hsz : w.heap.size < W.heap.size := by rw [← hW]; simp
  have hRW := hR.below (hb.mono hB)
  have hlen : 0 < (segs k.data.toList).length := List.length_pos_iff.2 (segs_ne _ hne)
  obtain ⟨a, rfl, hab, c0, _, c2⟩ := hRW.at_ hlen
  have hg0 : (segs k.data.toList).getD 0 (0, 0) = (x, z) := by rw [segs_cons _ hne, hx]; rfl
  rw [hg0, show a.add (0 * 3) = a by simp [Addr.add]] at c0 c2
  simp only at c0 c2
  obtain ⟨a2, ha2, _, e0, _, _⟩ := hRW.at_ (i := 1) hm1
  obtain rfl : a = a2 := by injection ha2
  rw [sec_get hm1] at e0
  have e0' : W.cell? ⟨a.block, a.off + 3, none⟩ = some (.int .i32 ((secZ k.data.toList : Nat) : Int)) := e0
  obtain ⟨y, hy⟩ : ∃ y, secZ k.data.toList = y := ⟨_, rfl⟩
  rw [hy] at e0 e0'
  clear ha2
  obtain ⟨m, hm⟩ : ∃ m, (segs k.data.toList).length = m := ⟨_, rfl⟩
  unfold OneSays
  rw [hm] at hlen ⊢
  have hi0 : (0 : Int) < (m : Int) := by omega
  have Hb := Lib.hid hb
  obtain ⟨l0, l1, l2, l3, l4⟩ := hL
  have hks : 0 < k.size := by rw [← size_list]; exact List.length_pos_iff.2 hne
  rw [show badD (x, z) = false from hnb] at c2
  have h9 : x ≠ 9 := by omega
  have hq9 : ((x : Int) == 9) = false := by simp; omega
  have k10 : (k.toList == [10]) = false := by rw [toList_data, beq_eq_false_iff_ne]; exact h10
  have k13 : (k.toList == [13, 10]) = false := by rw [toList_data, beq_eq_false_iff_ne]; exact h13
  have hx32 : ¬ (x : Int) < 32 := by omega
  have hq127 : ((x : Int) == 127) = false := by simp; omega
  have hK := fun W => refKind_is (x : Int) W
  rw [show cls kindsL (char (x : Int)) = kN x from rfl] at hK
  obtain ⟨kk, hkk⟩ : ∃ kk, kN x = kk := ⟨_, rfl⟩
  rw [hkk] at hK
  have HK := Lib.hid hK
  clear hK
  have g1 : ¬ (128 : Int) ≤ (x : Int) := by omega
  have hq8232 : ((x : Int) == 8232) = false := by simp; omega
  have hq8233 : ((x : Int) == 8233) = false := by simp; omega
  have hJ := fun W => rjoin_any x W
  rw [hj] at hJ
  have HJ := Lib.hid hJ
  clear hJ
  rw [hkk] at hk1 hk2
  have hkk1 : ((kk : Int) == 1) = false := by rw [beq_eq_false_iff_ne]; omega
  have hkk2 : ((kk : Int) == 2) = false := by rw [beq_eq_false_iff_ne]; omega
  have hRx := fun W => rreg_any x W
  obtain ⟨rx, hrx⟩ : ∃ rx, regN x = rx := ⟨_, rfl⟩
  rw [hrx] at hRx
  have HRx := Lib.hid hRx
  clear hRx
  rw [hm] at hm1
  have hm1i : (1 : Int) < (m : Int) := by omega
  have hRy := fun W => rreg_any y W
  obtain ⟨ry, hry⟩ : ∃ ry, regN y = ry := ⟨_, rfl⟩
  rw [hry] at hRy
  have HRy := Lib.hid hRy
  clear hRy
  obtain rfl : true = rx := by rw [← hrx, hr1]
  obtain rfl : true = ry := by rw [← hry, ← hy, hr2]
  clear hRW hR hb hg0 hm hne hx
  go_enter Tryd.func25, Tryd.ntmps25
  go_wp2_with fail
  refine (HK.out _).mono ?_
  rintro _ _ ⟨rfl, rfl⟩
  go_wp2_with fail
  refine (HJ.out _).mono ?_
  rintro _ _ ⟨rfl, rfl⟩
  go_wp2_with fail
  refine (HRx.out _).mono ?_
  rintro _ _ ⟨rfl, rfl⟩
  go_wp2_with fail
  refine (HRy.out _).mono ?_
  rintro _ _ ⟨rfl, rfl⟩
  go_wp2_with fail
  go_ret2
  exact ⟨rfl, Hb.out⟩

set_option maxRecDepth 100000 in
set_option maxHeartbeats 1000000 in
theorem r1_onea (B x z : Nat) (hB : B ≤ w.heap.size) (hR : RdS w B A 0 (segs k.data.toList)) (hne : k.data.toList ≠ []) (hx : dec k.data.toList = (x, z)) (hnb : badD (x, z) = false) (h10 : k.data.toList ≠ [10]) (h13 : k.data.toList ≠ [13, 10]) (hx32' : 32 ≤ x) (h127 : x ≠ 127) (h8 : x ≠ 8232) (h99 : x ≠ 8233) (hk1 : kN x ≠ 1) (hk2 : kN x ≠ 2) (hj : joinN x = false) (hc : ¬ 128 ≤ x) (hm1 : ¬ 1 < (segs k.data.toList).length) : OneSays k A c col tb wd wt jn rz w (if wideOf (cls widthsL (char (x : Int))) wd = 0 then [] else k.data.toList) (wideOf (cls widthsL (char (x : Int))) wd) := by
  have hL := LookAt.new w 24 tb wd wt jn rz
  have hb : Below w.heap.size w (w.alloc (.cells #[.int .i64 tb, .bool wd, .int .i8 wt, .bool jn, .bool rz] 24)) := (Below.refl _ w).alloc (Nat.le_refl _) _
  obtain ⟨W, hW⟩ : ∃ W, w.alloc (.cells #[.int .i64 tb, .bool wd, .int .i8 wt, .bool jn, .bool rz] 24) = W := ⟨_, rfl⟩
  rw [hW] at hL hb
  have hsz : w.heap.size < W.heap.size := by rw [← hW]; simp
  have hRW := hR.below (hb.mono hB)
  have hlen : 0 < (segs k.data.toList).length := List.length_pos_iff.2 (segs_ne _ hne)
  obtain ⟨a, rfl, hab, c0, _, c2⟩ := hRW.at_ hlen
  have hg0 : (segs k.data.toList).getD 0 (0, 0) = (x, z) := by rw [segs_cons _ hne, hx]; rfl
  rw [hg0, show a.add (0 * 3) = a by simp [Addr.add]] at c0 c2
  simp only at c0 c2
  obtain ⟨m, hm⟩ : ∃ m, (segs k.data.toList).length = m := ⟨_, rfl⟩
  unfold OneSays
  rw [hm] at hlen ⊢
  have hi0 : (0 : Int) < (m : Int) := by omega
  have Hb := Lib.hid hb
  obtain ⟨l0, l1, l2, l3, l4⟩ := hL
  have hks : 0 < k.size := by rw [← size_list]; exact List.length_pos_iff.2 hne
  rw [show badD (x, z) = false from hnb] at c2
  have h9 : x ≠ 9 := by omega
  have hq9 : ((x : Int) == 9) = false := by simp; omega
  have k10 : (k.toList == [10]) = false := by rw [toList_data, beq_eq_false_iff_ne]; exact h10
  have k13 : (k.toList == [13, 10]) = false := by rw [toList_data, beq_eq_false_iff_ne]; exact h13
  have hx32 : ¬ (x : Int) < 32 := by omega
  have hq127 : ((x : Int) == 127) = false := by simp; omega
  have hK := fun W => refKind_is (x : Int) W
  rw [show cls kindsL (char (x : Int)) = kN x from rfl] at hK
  obtain ⟨kk, hkk⟩ : ∃ kk, kN x = kk := ⟨_, rfl⟩
  rw [hkk] at hK
  have HK := Lib.hid hK
  clear hK
  have g1 : ¬ (128 : Int) ≤ (x : Int) := by omega
  have hq8232 : ((x : Int) == 8232) = false := by simp; omega
  have hq8233 : ((x : Int) == 8233) = false := by simp; omega
  have hJ := fun W => rjoin_any x W
  rw [hj] at hJ
  have HJ := Lib.hid hJ
  clear hJ
  rw [hkk] at hk1 hk2
  have hkk1 : ((kk : Int) == 1) = false := by rw [beq_eq_false_iff_ne]; omega
  have hkk2 : ((kk : Int) == 2) = false := by rw [beq_eq_false_iff_ne]; omega
  have hRx := fun W => rreg_any x W
  obtain ⟨rx, hrx⟩ : ∃ rx, regN x = rx := ⟨_, rfl⟩
  rw [hrx] at hRx
  have HRx := Lib.hid hRx
  clear hRx
  rw [hm] at hm1
  have hm1i : ¬ (1 : Int) < (m : Int) := by omega
  have HW := Lib.hid (fun W => refWide6 (x : Int) wd W)
  obtain ⟨v, hv⟩ : ∃ v, wideOf (cls widthsL (char (x : Int))) wd = v := ⟨_, rfl⟩
  simp only [hv] at HW
  rw [hv]
  obtain ⟨L, hL9⟩ : ∃ L, (if v = 0 then [] else k.data.toList) = L := ⟨_, rfl⟩
  rw [hL9]
  have HLL := Lib.hid hL9
  have hv1 : ((v : Int) == 1) = (v == 1) := by
    by_cases h : v = 1
    · subst h; rfl
    · rw [show (v == 1) = false by simpa using h]; simp; omega
  clear hL9
  clear hRW hR hb hg0 hm hne hx
  go_enter Tryd.func25, Tryd.ntmps25
  go_wp2_with fail
  refine (HK.out _).mono ?_
  rintro _ _ ⟨rfl, rfl⟩
  go_wp2_with fail
  refine (HJ.out _).mono ?_
  rintro _ _ ⟨rfl, rfl⟩
  go_wp2_with fail
  refine (HW.out _).mono ?_
  rintro _ _ ⟨rfl, rfl⟩
  by_cases h7 : kk = 7
  · have h7i : ((kk : Int) == 7) = true := by simp; omega
    obtain ⟨vb, hvb⟩ : ∃ vb, (v == 1) = vb := ⟨_, rfl⟩
    rw [hvb] at hv1
    clear hvb
    cases vb
    all_goals
      by_cases hv0 : v = 0
      · subst hv0
        have hL9 := HLL.out
        rw [if_pos rfl] at hL9
        subst hL9
        go_wp2_with fail
        go_ret2
        exact ⟨rfl, Hb.out⟩
      · have hvi : ((v : Int) == 0) = false := by simp; omega
        have hL9 := HLL.out
        rw [if_neg hv0] at hL9
        subst hL9
        clear hv0
        go_wp2_with fail
        go_ret2
        exact ⟨rfl, Hb.out⟩
  · have h7i : ((kk : Int) == 7) = false := by rw [beq_eq_false_iff_ne]; omega
    by_cases hv0 : v = 0
    · subst hv0
      have hL9 := HLL.out
      rw [if_pos rfl] at hL9
      subst hL9
      go_wp2_with fail
      go_ret2
      exact ⟨rfl, Hb.out⟩
    · have hvi : ((v : Int) == 0) = false := by simp; omega
      have hL9 := HLL.out
      rw [if_neg hv0] at hL9
      subst hL9
      clear hv0
      go_wp2_with fail
      go_ret2
      exact ⟨rfl, Hb.out⟩

set_option maxRecDepth 100000 in
set_option maxHeartbeats 1000000 in
theorem r1_twoxa (B x z : Nat) (hB : B ≤ w.heap.size) (hR : RdS w B A 0 (segs k.data.toList)) (hne : k.data.toList ≠ []) (hx : dec k.data.toList = (x, z)) (hnb : badD (x, z) = false) (h10 : k.data.toList ≠ [10]) (h13 : k.data.toList ≠ [13, 10]) (hx32' : 32 ≤ x) (h127 : x ≠ 127) (h8 : x ≠ 8232) (h99 : x ≠ 8233) (hk1 : kN x ≠ 1) (hk2 : kN x ≠ 2) (hj : joinN x = false) (hc : ¬ 128 ≤ x) (hm1 : 1 < (segs k.data.toList).length) (hr1 : regN x = false) (hk7 : kN x = 7) (hw1 : wideOf (cls widthsL (char (x : Int))) wd = 1) (hs : secZ k.data.toList = 65039) : OneSays k A c col tb wd wt jn rz w k.data.toList 2 := by
  have hL := LookAt.new w 24 tb wd wt jn rz
  have hb : Below w.heap.size w (w.alloc (.cells #[.int .i64 tb, .bool wd, .int .i8 wt, .bool jn, .bool rz] 24)) := (Below.refl _ w).alloc (Nat.le_refl _) _
  obtain ⟨W, hW⟩ : ∃ W, w.alloc (.cells #[.int .i64 tb, .bool wd, .int .i8 wt, .bool jn, .bool rz] 24) = W := ⟨_, rfl⟩
  rw [hW] at hL hb
  have hsz : w.heap.size < W.heap.size := by rw [← hW]; simp
  have hRW := hR.below (hb.mono hB)
  have hlen : 0 < (segs k.data.toList).length := List.length_pos_iff.2 (segs_ne _ hne)
  obtain ⟨a, rfl, hab, c0, _, c2⟩ := hRW.at_ hlen
  have hg0 : (segs k.data.toList).getD 0 (0, 0) = (x, z) := by rw [segs_cons _ hne, hx]; rfl
  rw [hg0, show a.add (0 * 3) = a by simp [Addr.add]] at c0 c2
  simp only at c0 c2
  obtain ⟨a2, ha2, _, e0, _, _⟩ := hRW.at_ (i := 1) hm1
  obtain rfl : a = a2 := by injection ha2
  rw [sec_get hm1] at e0
  have e0' : W.cell? ⟨a.block, a.off + 3, none⟩ = some (.int .i32 ((secZ k.data.toList : Nat) : Int)) := e0
  obtain ⟨y, hy⟩ : ∃ y, secZ k.data.toList = y := ⟨_, rfl⟩
  rw [hy] at e0 e0'
  clear ha2
  obtain ⟨m, hm⟩ : ∃ m, (segs k.data.toList).length = m := ⟨_, rfl⟩
  unfold OneSays
  rw [hm] at hlen ⊢
  have hi0 : (0 : Int) < (m : Int) := by omega
  have Hb := Lib.hid hb
  obtain ⟨l0, l1, l2, l3, l4⟩ := hL
  have hks : 0 < k.size := by rw [← size_list]; exact List.length_pos_iff.2 hne
  rw [show badD (x, z) = false from hnb] at c2
  have h9 : x ≠ 9 := by omega
  have hq9 : ((x : Int) == 9) = false := by simp; omega
  have k10 : (k.toList == [10]) = false := by rw [toList_data, beq_eq_false_iff_ne]; exact h10
  have k13 : (k.toList == [13, 10]) = false := by rw [toList_data, beq_eq_false_iff_ne]; exact h13
  have hx32 : ¬ (x : Int) < 32 := by omega
  have hq127 : ((x : Int) == 127) = false := by simp; omega
  have hK := fun W => refKind_is (x : Int) W
  rw [show cls kindsL (char (x : Int)) = kN x from rfl] at hK
  obtain ⟨kk, hkk⟩ : ∃ kk, kN x = kk := ⟨_, rfl⟩
  rw [hkk] at hK
  have HK := Lib.hid hK
  clear hK
  have g1 : ¬ (128 : Int) ≤ (x : Int) := by omega
  have hq8232 : ((x : Int) == 8232) = false := by simp; omega
  have hq8233 : ((x : Int) == 8233) = false := by simp; omega
  have hJ := fun W => rjoin_any x W
  rw [hj] at hJ
  have HJ := Lib.hid hJ
  clear hJ
  rw [hkk] at hk1 hk2
  have hkk1 : ((kk : Int) == 1) = false := by rw [beq_eq_false_iff_ne]; omega
  have hkk2 : ((kk : Int) == 2) = false := by rw [beq_eq_false_iff_ne]; omega
  have hRx := fun W => rreg_any x W
  obtain ⟨rx, hrx⟩ : ∃ rx, regN x = rx := ⟨_, rfl⟩
  rw [hrx] at hRx
  have HRx := Lib.hid hRx
  clear hRx
  rw [hm] at hm1
  have hm1i : (1 : Int) < (m : Int) := by omega
  have hRy := fun W => rreg_any y W
  obtain ⟨ry, hry⟩ : ∃ ry, regN y = ry := ⟨_, rfl⟩
  rw [hry] at hRy
  have HRy := Lib.hid hRy
  clear hRy
  obtain rfl : false = rx := by rw [← hrx, hr1]
  have HW := Lib.hid (fun W => refWide6 (x : Int) wd W)
  obtain ⟨v, hv⟩ : ∃ v, wideOf (cls widthsL (char (x : Int))) wd = v := ⟨_, rfl⟩
  simp only [hv] at HW
  obtain rfl : 1 = v := by rw [← hv, hw1]
  have h7i : ((kk : Int) == 7) = true := by rw [← hkk, hk7]; rfl
  have hyi : ((y : Int) == 65039) = true := by rw [← hy, hs]; rfl
  clear hRW hR hb hg0 hm hne hx
  go_enter Tryd.func25, Tryd.ntmps25
  go_wp2_with fail
  refine (HK.out _).mono ?_
  rintro _ _ ⟨rfl, rfl⟩
  go_wp2_with fail
  refine (HJ.out _).mono ?_
  rintro _ _ ⟨rfl, rfl⟩
  go_wp2_with fail
  refine (HRx.out _).mono ?_
  rintro _ _ ⟨rfl, rfl⟩
  go_wp2_with fail
  refine (HW.out _).mono ?_
  rintro _ _ ⟨rfl, rfl⟩
  go_wp2_with fail
  go_ret2
  exact ⟨rfl, Hb.out⟩

set_option maxRecDepth 100000 in
set_option maxHeartbeats 1000000 in
theorem r1_widxa (B x z : Nat) (hB : B ≤ w.heap.size) (hR : RdS w B A 0 (segs k.data.toList)) (hne : k.data.toList ≠ []) (hx : dec k.data.toList = (x, z)) (hnb : badD (x, z) = false) (h10 : k.data.toList ≠ [10]) (h13 : k.data.toList ≠ [13, 10]) (hx32' : 32 ≤ x) (h127 : x ≠ 127) (h8 : x ≠ 8232) (h99 : x ≠ 8233) (hk1 : kN x ≠ 1) (hk2 : kN x ≠ 2) (hj : joinN x = false) (hc : ¬ 128 ≤ x) (hm1 : 1 < (segs k.data.toList).length) (hr1 : regN x = false) (hnw : ¬ (kN x = 7 ∧ wideOf (cls widthsL (char (x : Int))) wd = 1 ∧ secZ k.data.toList = 65039)) : OneSays k A c col tb wd wt jn rz w (if wideOf (cls widthsL (char (x : Int))) wd = 0 then [] else k.data.toList) (wideOf (cls widthsL (char (x : Int))) wd) := by
  have hL := LookAt.new w 24 tb wd wt jn rz
  have hb : Below w.heap.size w (w.alloc (.cells #[.int .i64 tb, .bool wd, .int .i8 wt, .bool jn, .bool rz] 24)) := (Below.refl _ w).alloc (Nat.le_refl _) _
  obtain ⟨W, hW⟩ : ∃ W, w.alloc (.cells #[.int .i64 tb, .bool wd, .int .i8 wt, .bool jn, .bool rz] 24) = W := ⟨_, rfl⟩
  rw [hW] at hL hb
  have hsz : w.heap.size < W.heap.size := by rw [← hW]; simp
  have hRW := hR.below (hb.mono hB)
  have hlen : 0 < (segs k.data.toList).length := List.length_pos_iff.2 (segs_ne _ hne)
  obtain ⟨a, rfl, hab, c0, _, c2⟩ := hRW.at_ hlen
  have hg0 : (segs k.data.toList).getD 0 (0, 0) = (x, z) := by rw [segs_cons _ hne, hx]; rfl
  rw [hg0, show a.add (0 * 3) = a by simp [Addr.add]] at c0 c2
  simp only at c0 c2
  obtain ⟨a2, ha2, _, e0, _, _⟩ := hRW.at_ (i := 1) hm1
  obtain rfl : a = a2 := by injection ha2
  rw [sec_get hm1] at e0
  have e0' : W.cell? ⟨a.block, a.off + 3, none⟩ = some (.int .i32 ((secZ k.data.toList : Nat) : Int)) := e0
  obtain ⟨y, hy⟩ : ∃ y, secZ k.data.toList = y := ⟨_, rfl⟩
  rw [hy] at e0 e0'
  clear ha2
  obtain ⟨m, hm⟩ : ∃ m, (segs k.data.toList).length = m := ⟨_, rfl⟩
  unfold OneSays
  rw [hm] at hlen ⊢
  have hi0 : (0 : Int) < (m : Int) := by omega
  have Hb := Lib.hid hb
  obtain ⟨l0, l1, l2, l3, l4⟩ := hL
  have hks : 0 < k.size := by rw [← size_list]; exact List.length_pos_iff.2 hne
  rw [show badD (x, z) = false from hnb] at c2
  have h9 : x ≠ 9 := by omega
  have hq9 : ((x : Int) == 9) = false := by simp; omega
  have k10 : (k.toList == [10]) = false := by rw [toList_data, beq_eq_false_iff_ne]; exact h10
  have k13 : (k.toList == [13, 10]) = false := by rw [toList_data, beq_eq_false_iff_ne]; exact h13
  have hx32 : ¬ (x : Int) < 32 := by omega
  have hq127 : ((x : Int) == 127) = false := by simp; omega
  have hK := fun W => refKind_is (x : Int) W
  rw [show cls kindsL (char (x : Int)) = kN x from rfl] at hK
  obtain ⟨kk, hkk⟩ : ∃ kk, kN x = kk := ⟨_, rfl⟩
  rw [hkk] at hK
  have HK := Lib.hid hK
  clear hK
  have g1 : ¬ (128 : Int) ≤ (x : Int) := by omega
  have hq8232 : ((x : Int) == 8232) = false := by simp; omega
  have hq8233 : ((x : Int) == 8233) = false := by simp; omega
  have hJ := fun W => rjoin_any x W
  rw [hj] at hJ
  have HJ := Lib.hid hJ
  clear hJ
  rw [hkk] at hk1 hk2
  have hkk1 : ((kk : Int) == 1) = false := by rw [beq_eq_false_iff_ne]; omega
  have hkk2 : ((kk : Int) == 2) = false := by rw [beq_eq_false_iff_ne]; omega
  have hRx := fun W => rreg_any x W
  obtain ⟨rx, hrx⟩ : ∃ rx, regN x = rx := ⟨_, rfl⟩
  rw [hrx] at hRx
  have HRx := Lib.hid hRx
  clear hRx
  rw [hm] at hm1
  have hm1i : (1 : Int) < (m : Int) := by omega
  have hRy := fun W => rreg_any y W
  obtain ⟨ry, hry⟩ : ∃ ry, regN y = ry := ⟨_, rfl⟩
  rw [hry] at hRy
  have HRy := Lib.hid hRy
  clear hRy
  obtain rfl : false = rx := by rw [← hrx, hr1]
  have HW := Lib.hid (fun W => refWide6 (x : Int) wd W)
  obtain ⟨v, hv⟩ : ∃ v, wideOf (cls widthsL (char (x : Int))) wd = v := ⟨_, rfl⟩
  simp only [hv] at HW
  rw [hkk, hv, hy] at hnw
  have Hnw := Lib.hid hnw
  clear hnw
  rw [hv]
  obtain ⟨L, hL9⟩ : ∃ L, (if v = 0 then [] else k.data.toList) = L := ⟨_, rfl⟩
  rw [hL9]
  have HLL := Lib.hid hL9
  clear hL9
  clear hRW hR hb hg0 hm hne hx
  go_enter Tryd.func25, Tryd.ntmps25
  go_wp2_with fail
  refine (HK.out _).mono ?_
  rintro _ _ ⟨rfl, rfl⟩
  go_wp2_with fail
  refine (HJ.out _).mono ?_
  rintro _ _ ⟨rfl, rfl⟩
  go_wp2_with fail
  refine (HRx.out _).mono ?_
  rintro _ _ ⟨rfl, rfl⟩
  go_wp2_with fail
  refine (HW.out _).mono ?_
  rintro _ _ ⟨rfl, rfl⟩
  by_cases h7 : kk = 7
  · have h7i : ((kk : Int) == 7) = true := by simp; omega
    by_cases hvv : v = 1
    · subst hvv
      have hyi : ((y : Int) == 65039) = false := by
        rw [beq_eq_false_iff_ne]
        intro e
        exact Hnw.out ⟨h7, rfl, by omega⟩
      have hL9 := HLL.out
      rw [if_neg (by decide)] at hL9
      subst hL9
      go_wp2_with fail
      go_ret2
      exact ⟨rfl, Hb.out⟩
    · have hvi1 : ((v : Int) == 1) = false := by rw [beq_eq_false_iff_ne]; omega
      by_cases hv0 : v = 0
      · subst hv0
        have hL9 := HLL.out
        rw [if_pos rfl] at hL9
        subst hL9
        go_wp2_with fail
        go_ret2
        exact ⟨rfl, Hb.out⟩
      · have hvi : ((v : Int) == 0) = false := by simp; omega
        have hL9 := HLL.out
        rw [if_neg hv0] at hL9
        subst hL9
        clear hv0
        go_wp2_with fail
        go_ret2
        exact ⟨rfl, Hb.out⟩
  · have h7i : ((kk : Int) == 7) = false := by rw [beq_eq_false_iff_ne]; omega
    by_cases hv0 : v = 0
    · subst hv0
      have hL9 := HLL.out
      rw [if_pos rfl] at hL9
      subst hL9
      go_wp2_with fail
      go_ret2
      exact ⟨rfl, Hb.out⟩
    · have hvi : ((v : Int) == 0) = false := by simp; omega
      have hL9 := HLL.out
      rw [if_neg hv0] at hL9
      subst hL9
      clear hv0
      go_wp2_with fail
      go_ret2
      exact ⟨rfl, Hb.out⟩

set_option maxRecDepth 100000 in
set_option maxHeartbeats 1000000 in
theorem r1_twoya (B x z : Nat) (hB : B ≤ w.heap.size) (hR : RdS w B A 0 (segs k.data.toList)) (hne : k.data.toList ≠ []) (hx : dec k.data.toList = (x, z)) (hnb : badD (x, z) = false) (h10 : k.data.toList ≠ [10]) (h13 : k.data.toList ≠ [13, 10]) (hx32' : 32 ≤ x) (h127 : x ≠ 127) (h8 : x ≠ 8232) (h99 : x ≠ 8233) (hk1 : kN x ≠ 1) (hk2 : kN x ≠ 2) (hj : joinN x = false) (hc : ¬ 128 ≤ x) (hm1 : 1 < (segs k.data.toList).length) (hr1 : regN x = true) (hr2 : regN (secZ k.data.toList) = false) (hk7 : kN x = 7) (hw1 : wideOf (cls widthsL (char (x : Int))) wd = 1) (hs : secZ k.data.toList = 65039) : OneSays k A c col tb wd wt jn rz w k.data.toList 2 := by
  have hL := LookAt.new w 24 tb wd wt jn rz
  have hb : Below w.heap.size w (w.alloc (.cells #[.int .i64 tb, .bool wd, .int .i8 wt, .bool jn, .bool rz] 24)) := (Below.refl _ w).alloc (Nat.le_refl _) _
  obtain ⟨W, hW⟩ : ∃ W, w.alloc (.cells #[.int .i64 tb, .bool wd, .int .i8 wt, .bool jn, .bool rz] 24) = W := ⟨_, rfl⟩
  rw [hW] at hL hb
  have hsz : w.heap.size < W.heap.size := by rw [← hW]; simp
  have hRW := hR.below (hb.mono hB)
  have hlen : 0 < (segs k.data.toList).length := List.length_pos_iff.2 (segs_ne _ hne)
  obtain ⟨a, rfl, hab, c0, _, c2⟩ := hRW.at_ hlen
  have hg0 : (segs k.data.toList).getD 0 (0, 0) = (x, z) := by rw [segs_cons _ hne, hx]; rfl
  rw [hg0, show a.add (0 * 3) = a by simp [Addr.add]] at c0 c2
  simp only at c0 c2
  obtain ⟨a2, ha2, _, e0, _, _⟩ := hRW.at_ (i := 1) hm1
  obtain rfl : a = a2 := by injection ha2
  rw [sec_get hm1] at e0
  have e0' : W.cell? ⟨a.block, a.off + 3, none⟩ = some (.int .i32 ((secZ k.data.toList : Nat) : Int)) := e0
  obtain ⟨y, hy⟩ : ∃ y, secZ k.data.toList = y := ⟨_, rfl⟩
  rw [hy] at e0 e0'
  clear ha2
  obtain ⟨m, hm⟩ : ∃ m, (segs k.data.toList).length = m := ⟨_, rfl⟩
  unfold OneSays
  rw [hm] at hlen ⊢
  have hi0 : (0 : Int) < (m : Int) := by omega
  have Hb := Lib.hid hb
  obtain ⟨l0, l1, l2, l3, l4⟩ := hL
  have hks : 0 < k.size := by rw [← size_list]; exact List.length_pos_iff.2 hne
  rw [show badD (x, z) = false from hnb] at c2
  have h9 : x ≠ 9 := by omega
  have hq9 : ((x : Int) == 9) = false := by simp; omega
  have k10 : (k.toList == [10]) = false := by rw [toList_data, beq_eq_false_iff_ne]; exact h10
  have k13 : (k.toList == [13, 10]) = false := by rw [toList_data, beq_eq_false_iff_ne]; exact h13
  have hx32 : ¬ (x : Int) < 32 := by omega
  have hq127 : ((x : Int) == 127) = false := by simp; omega
  have hK := fun W => refKind_is (x : Int) W
  rw [show cls kindsL (char (x : Int)) = kN x from rfl] at hK
  obtain ⟨kk, hkk⟩ : ∃ kk, kN x = kk := ⟨_, rfl⟩
  rw [hkk] at hK
  have HK := Lib.hid hK
  clear hK
  have g1 : ¬ (128 : Int) ≤ (x : Int) := by omega
  have hq8232 : ((x : Int) == 8232) = false := by simp; omega
  have hq8233 : ((x : Int) == 8233) = false := by simp; omega
  have hJ := fun W => rjoin_any x W
  rw [hj] at hJ
  have HJ := Lib.hid hJ
  clear hJ
  rw [hkk] at hk1 hk2
  have hkk1 : ((kk : Int) == 1) = false := by rw [beq_eq_false_iff_ne]; omega
  have hkk2 : ((kk : Int) == 2) = false := by rw [beq_eq_false_iff_ne]; omega
  have hRx := fun W => rreg_any x W
  obtain ⟨rx, hrx⟩ : ∃ rx, regN x = rx := ⟨_, rfl⟩
  rw [hrx] at hRx
  have HRx := Lib.hid hRx
  clear hRx
  rw [hm] at hm1
  have hm1i : (1 : Int) < (m : Int) := by omega
  have hRy := fun W => rreg_any y W
  obtain ⟨ry, hry⟩ : ∃ ry, regN y = ry := ⟨_, rfl⟩
  rw [hry] at hRy
  have HRy := Lib.hid hRy
  clear hRy
  obtain rfl : true = rx := by rw [← hrx, hr1]
  obtain rfl : false = ry := by rw [← hry, ← hy, hr2]
  have HW := Lib.hid (fun W => refWide6 (x : Int) wd W)
  obtain ⟨v, hv⟩ : ∃ v, wideOf (cls widthsL (char (x : Int))) wd = v := ⟨_, rfl⟩
  simp only [hv] at HW
  obtain rfl : 1 = v := by rw [← hv, hw1]
  have h7i : ((kk : Int) == 7) = true := by rw [← hkk, hk7]; rfl
  have hyi : ((y : Int) == 65039) = true := by rw [← hy, hs]; rfl
  clear hRW hR hb hg0 hm hne hx
  go_enter Tryd.func25, Tryd.ntmps25
  go_wp2_with fail
  refine (HK.out _).mono ?_
  rintro _ _ ⟨rfl, rfl⟩
  go_wp2_with fail
  refine (HJ.out _).mono ?_
  rintro _ _ ⟨rfl, rfl⟩
  go_wp2_with fail
  refine (HRx.out _).mono ?_
  rintro _ _ ⟨rfl, rfl⟩
  go_wp2_with fail
  refine (HRy.out _).mono ?_
  rintro _ _ ⟨rfl, rfl⟩
  go_wp2_with fail
  refine (HW.out _).mono ?_
  rintro _ _ ⟨rfl, rfl⟩
  go_wp2_with fail
  go_ret2
  exact ⟨rfl, Hb.out⟩

set_option maxRecDepth 100000 in
set_option maxHeartbeats 1000000 in
theorem r1_widya (B x z : Nat) (hB : B ≤ w.heap.size) (hR : RdS w B A 0 (segs k.data.toList)) (hne : k.data.toList ≠ []) (hx : dec k.data.toList = (x, z)) (hnb : badD (x, z) = false) (h10 : k.data.toList ≠ [10]) (h13 : k.data.toList ≠ [13, 10]) (hx32' : 32 ≤ x) (h127 : x ≠ 127) (h8 : x ≠ 8232) (h99 : x ≠ 8233) (hk1 : kN x ≠ 1) (hk2 : kN x ≠ 2) (hj : joinN x = false) (hc : ¬ 128 ≤ x) (hm1 : 1 < (segs k.data.toList).length) (hr1 : regN x = true) (hr2 : regN (secZ k.data.toList) = false) (hnw : ¬ (kN x = 7 ∧ wideOf (cls widthsL (char (x : Int))) wd = 1 ∧ secZ k.data.toList = 65039)) : OneSays k A c col tb wd wt jn rz w (if wideOf (cls widthsL (char (x : Int))) wd = 0 then [] else k.data.toList) (wideOf (cls widthsL (char (x : Int))) wd) := by
  have hL := LookAt.new w 24 tb wd wt jn rz
  have hb : Below w.heap.size w (w.alloc (.cells #[.int .i64 tb, .bool wd, .int .i8 wt, .bool jn, .bool rz] 24)) := (Below.refl _ w).alloc (Nat.le_refl _) _
  obtain ⟨W, hW⟩ : ∃ W, w.alloc (.cells #[.int .i64 tb, .bool wd, .int .i8 wt, .bool jn, .bool rz] 24) = W := ⟨_, rfl⟩
  rw [hW] at hL hb
  have hsz : w.heap.size < W.heap.size := by rw [← hW]; simp
  have hRW := hR.below (hb.mono hB)
  have hlen : 0 < (segs k.data.toList).length := List.length_pos_iff.2 (segs_ne _ hne)
  obtain ⟨a, rfl, hab, c0, _, c2⟩ := hRW.at_ hlen
  have hg0 : (segs k.data.toList).getD 0 (0, 0) = (x, z) := by rw [segs_cons _ hne, hx]; rfl
  rw [hg0, show a.add (0 * 3) = a by simp [Addr.add]] at c0 c2
  simp only at c0 c2
  obtain ⟨a2, ha2, _, e0, _, _⟩ := hRW.at_ (i := 1) hm1
  obtain rfl : a = a2 := by injection ha2
  rw [sec_get hm1] at e0
  have e0' : W.cell? ⟨a.block, a.off + 3, none⟩ = some (.int .i32 ((secZ k.data.toList : Nat) : Int)) := e0
  obtain ⟨y, hy⟩ : ∃ y, secZ k.data.toList = y := ⟨_, rfl⟩
  rw [hy] at e0 e0'
  clear ha2
  obtain ⟨m, hm⟩ : ∃ m, (segs k.data.toList).length = m := ⟨_, rfl⟩
  unfold OneSays
  rw [hm] at hlen ⊢
  have hi0 : (0 : Int) < (m : Int) := by omega
  have Hb := Lib.hid hb
  obtain ⟨l0, l1, l2, l3, l4⟩ := hL
  have hks : 0 < k.size := by rw [← size_list]; exact List.length_pos_iff.2 hne
  rw [show badD (x, z) = false from hnb] at c2
  have h9 : x ≠ 9 := by omega
  have hq9 : ((x : Int) == 9) = false := by simp; omega
  have k10 : (k.toList == [10]) = false := by rw [toList_data, beq_eq_false_iff_ne]; exact h10
  have k13 : (k.toList == [13, 10]) = false := by rw [toList_data, beq_eq_false_iff_ne]; exact h13
  have hx32 : ¬ (x : Int) < 32 := by omega
  have hq127 : ((x : Int) == 127) = false := by simp; omega
  have hK := fun W => refKind_is (x : Int) W
  rw [show cls kindsL (char (x : Int)) = kN x from rfl] at hK
  obtain ⟨kk, hkk⟩ : ∃ kk, kN x = kk := ⟨_, rfl⟩
  rw [hkk] at hK
  have HK := Lib.hid hK
  clear hK
  have g1 : ¬ (128 : Int) ≤ (x : Int) := by omega
  have hq8232 : ((x : Int) == 8232) = false := by simp; omega
  have hq8233 : ((x : Int) == 8233) = false := by simp; omega
  have hJ := fun W => rjoin_any x W
  rw [hj] at hJ
  have HJ := Lib.hid hJ
  clear hJ
  rw [hkk] at hk1 hk2
  have hkk1 : ((kk : Int) == 1) = false := by rw [beq_eq_false_iff_ne]; omega
  have hkk2 : ((kk : Int) == 2) = false := by rw [beq_eq_false_iff_ne]; omega
  have hRx := fun W => rreg_any x W
  obtain ⟨rx, hrx⟩ : ∃ rx, regN x = rx := ⟨_, rfl⟩
  rw [hrx] at hRx
  have HRx := Lib.hid hRx
  clear hRx
  rw [hm] at hm1
  have hm1i : (1 : Int) < (m : Int) := by omega
  have hRy := fun W => rreg_any y W
  obtain ⟨ry, hry⟩ : ∃ ry, regN y = ry := ⟨_, rfl⟩
  rw [hry] at hRy
  have HRy := Lib.hid hRy
  clear hRy
  obtain rfl : true = rx := by rw [← hrx, hr1]
  obtain rfl : false = ry := by rw [← hry, ← hy, hr2]
  have HW := Lib.hid (fun W => refWide6 (x : Int) wd W)
  obtain ⟨v, hv⟩ : ∃ v, wideOf (cls widthsL (char (x : Int))) wd = v := ⟨_, rfl⟩
  simp only [hv] at HW
  rw [hkk, hv, hy] at hnw
  have Hnw := Lib.hid hnw
  clear hnw
  rw [hv]
  obtain ⟨L, hL9⟩ : ∃ L, (if v = 0 then [] else k.data.toList) = L := ⟨_, rfl⟩
  rw [hL9]
  have HLL := Lib.hid hL9
  clear hL9
  clear hRW hR hb hg0 hm hne hx
  go_enter Tryd.func25, Tryd.ntmps25
  go_wp2_with fail
  refine (HK.out _).mono ?_
  rintro _ _ ⟨rfl, rfl⟩
  go_wp2_with fail
  refine (HJ.out _).mono ?_
  rintro _ _ ⟨rfl, rfl⟩
  go_wp2_with fail
  refine (HRx.out _).mono ?_
  rintro _ _ ⟨rfl, rfl⟩
  go_wp2_with fail
  refine (HRy.out _).mono ?_
  rintro _ _ ⟨rfl, rfl⟩
  go_wp2_with fail
  refine (HW.out _).mono ?_
  rintro _ _ ⟨rfl, rfl⟩
  by_cases h7 : kk = 7
  · have h7i : ((kk : Int) == 7) = true := by simp; omega
    by_cases hvv : v = 1
    · subst hvv
      have hyi : ((y : Int) == 65039) = false := by
        rw [beq_eq_false_iff_ne]
        intro e
        exact Hnw.out ⟨h7, rfl, by omega⟩
      have hL9 := HLL.out
      rw [if_neg (by decide)] at hL9
      subst hL9
      go_wp2_with fail
      go_ret2
      exact ⟨rfl, Hb.out⟩
    · have hvi1 : ((v : Int) == 1) = false := by rw [beq_eq_false_iff_ne]; omega
      by_cases hv0 : v = 0
      · subst hv0
        have hL9 := HLL.out
        rw [if_pos rfl] at hL9
        subst hL9
        go_wp2_with fail
        go_ret2
        exact ⟨rfl, Hb.out⟩
      · have hvi : ((v : Int) == 0) = false := by simp; omega
        have hL9 := HLL.out
        rw [if_neg hv0] at hL9
        subst hL9
        clear hv0
        go_wp2_with fail
        go_ret2
        exact ⟨rfl, Hb.out⟩
  · have h7i : ((kk : Int) == 7) = false := by rw [beq_eq_false_iff_ne]; omega
    by_cases hv0 : v = 0
    · subst hv0
      have hL9 := HLL.out
      rw [if_pos rfl] at hL9
      subst hL9
      go_wp2_with fail
      go_ret2
      exact ⟨rfl, Hb.out⟩
    · have hvi : ((v : Int) == 0) = false := by simp; omega
      have hL9 := HLL.out
      rw [if_neg hv0] at hL9
      subst hL9
      clear hv0
      go_wp2_with fail
      go_ret2
      exact ⟨rfl, Hb.out⟩

set_option maxRecDepth 100000 in
set_option maxHeartbeats 1000000 in
theorem r1_regb (B x z : Nat) (hB : B ≤ w.heap.size) (hR : RdS w B A 0 (segs k.data.toList)) (hne : k.data.toList ≠ []) (hx : dec k.data.toList = (x, z)) (hnb : badD (x, z) = false) (h10 : k.data.toList ≠ [10]) (h13 : k.data.toList ≠ [13, 10]) (hx32' : 32 ≤ x) (h127 : x ≠ 127) (h8 : x ≠ 8232) (h99 : x ≠ 8233) (hk1 : kN x ≠ 1) (hk2 : kN x ≠ 2) (hj : joinN x = false) (hc : 128 ≤ x ∧ ¬ x ≤ 159) (hm1 : 1 < (segs k.data.toList).length) (hr1 : regN x = true) (hr2 : regN (secZ k.data.toList) = true) : OneSays k A c col tb wd wt jn rz w k.data.toList 2 := by
  have hL := LookAt.new w 24 tb wd wt jn rz
  have hb : Below w.heap.size w (w.alloc (.cells #[.int .i64 tb, .bool wd, .int .i8 wt, .bool jn, .bool rz] 24)) := (Below.refl _ w).alloc (Nat.le_refl _) _
  obtain ⟨W, hW⟩ : ∃ W, w.alloc (.cells #[.int .i64 tb, .bool wd, .int .i8 wt, .bool jn, .bool rz] 24) = W := ⟨_, rfl⟩
  rw [hW] at hL hb
  have hsz : w.heap.size < W.heap.size := by rw [← hW]; simp
  have hRW := hR.below (hb.mono hB)
  have hlen : 0 < (segs k.data.toList).length := List.length_pos_iff.2 (segs_ne _ hne)
  obtain ⟨a, rfl, hab, c0, _, c2⟩ := hRW.at_ hlen
  have hg0 : (segs k.data.toList).getD 0 (0, 0) = (x, z) := by rw [segs_cons _ hne, hx]; rfl
  rw [hg0, show a.add (0 * 3) = a by simp [Addr.add]] at c0 c2
  simp only at c0 c2
  obtain ⟨a2, ha2, _, e0, _, _⟩ := hRW.at_ (i := 1) hm1
  obtain rfl : a = a2 := by injection ha2
  rw [sec_get hm1] at e0
  have e0' : W.cell? ⟨a.block, a.off + 3, none⟩ = some (.int .i32 ((secZ k.data.toList : Nat) : Int)) := e0
  obtain ⟨y, hy⟩ : ∃ y, secZ k.data.toList = y := ⟨_, rfl⟩
  rw [hy] at e0 e0'
  clear ha2
  obtain ⟨m, hm⟩ : ∃ m, (segs k.data.toList).length = m := ⟨_, rfl⟩
  unfold OneSays
  rw [hm] at hlen ⊢
  have hi0 : (0 : Int) < (m : Int) := by omega
  have Hb := Lib.hid hb
  obtain ⟨l0, l1, l2, l3, l4⟩ := hL
  have hks : 0 < k.size := by rw [← size_list]; exact List.length_pos_iff.2 hne
  rw [show badD (x, z) = false from hnb] at c2
  have h9 : x ≠ 9 := by omega
  have hq9 : ((x : Int) == 9) = false := by simp; omega
  have k10 : (k.toList == [10]) = false := by rw [toList_data, beq_eq_false_iff_ne]; exact h10
  have k13 : (k.toList == [13, 10]) = false := by rw [toList_data, beq_eq_false_iff_ne]; exact h13
  have hx32 : ¬ (x : Int) < 32 := by omega
  have hq127 : ((x : Int) == 127) = false := by simp; omega
  have hK := fun W => refKind_is (x : Int) W
  rw [show cls kindsL (char (x : Int)) = kN x from rfl] at hK
  obtain ⟨kk, hkk⟩ : ∃ kk, kN x = kk := ⟨_, rfl⟩
  rw [hkk] at hK
  have HK := Lib.hid hK
  clear hK
  have g1 : (128 : Int) ≤ (x : Int) := by omega
  have g2 : ¬ (x : Int) ≤ 159 := by omega
  have hq8232 : ((x : Int) == 8232) = false := by simp; omega
  have hq8233 : ((x : Int) == 8233) = false := by simp; omega
  have hJ := fun W => rjoin_any x W
  rw [hj] at hJ
  have HJ := Lib.hid hJ
  clear hJ
  rw [hkk] at hk1 hk2
  have hkk1 : ((kk : Int) == 1) = false := by rw [beq_eq_false_iff_ne]; omega
  have hkk2 : ((kk : Int) == 2) = false := by rw [beq_eq_false_iff_ne]; omega
  have hRx := fun W => rreg_any x W
  obtain ⟨rx, hrx⟩ : ∃ rx, regN x = rx := ⟨_, rfl⟩
  rw [hrx] at hRx
  have HRx := Lib.hid hRx
  clear hRx
  rw [hm] at hm1
  have hm1i : (1 : Int) < (m : Int) := by omega
  have hRy := fun W => rreg_any y W
  obtain ⟨ry, hry⟩ : ∃ ry, regN y = ry := ⟨_, rfl⟩
  rw [hry] at hRy
  have HRy := Lib.hid hRy
  clear hRy
  obtain rfl : true = rx := by rw [← hrx, hr1]
  obtain rfl : true = ry := by rw [← hry, ← hy, hr2]
  clear hRW hR hb hg0 hm hne hx
  go_enter Tryd.func25, Tryd.ntmps25
  go_wp2_with fail
  refine (HK.out _).mono ?_
  rintro _ _ ⟨rfl, rfl⟩
  go_wp2_with fail
  refine (HJ.out _).mono ?_
  rintro _ _ ⟨rfl, rfl⟩
  go_wp2_with fail
  refine (HRx.out _).mono ?_
  rintro _ _ ⟨rfl, rfl⟩
  go_wp2_with fail
  refine (HRy.out _).mono ?_
  rintro _ _ ⟨rfl, rfl⟩
  go_wp2_with fail
  go_ret2
  exact ⟨rfl, Hb.out⟩

set_option maxRecDepth 100000 in
set_option maxHeartbeats 1000000 in
theorem r1_oneb (B x z : Nat) (hB : B ≤ w.heap.size) (hR : RdS w B A 0 (segs k.data.toList)) (hne : k.data.toList ≠ []) (hx : dec k.data.toList = (x, z)) (hnb : badD (x, z) = false) (h10 : k.data.toList ≠ [10]) (h13 : k.data.toList ≠ [13, 10]) (hx32' : 32 ≤ x) (h127 : x ≠ 127) (h8 : x ≠ 8232) (h99 : x ≠ 8233) (hk1 : kN x ≠ 1) (hk2 : kN x ≠ 2) (hj : joinN x = false) (hc : 128 ≤ x ∧ ¬ x ≤ 159) (hm1 : ¬ 1 < (segs k.data.toList).length) : OneSays k A c col tb wd wt jn rz w (if wideOf (cls widthsL (char (x : Int))) wd = 0 then [] else k.data.toList) (wideOf (cls widthsL (char (x : Int))) wd) := by
  have hL := LookAt.new w 24 tb wd wt jn rz
  have hb : Below w.heap.size w (w.alloc (.cells #[.int .i64 tb, .bool wd, .int .i8 wt, .bool jn, .bool rz] 24)) := (Below.refl _ w).alloc (Nat.le_refl _) _
  obtain ⟨W, hW⟩ : ∃ W, w.alloc (.cells #[.int .i64 tb, .bool wd, .int .i8 wt, .bool jn, .bool rz] 24) = W := ⟨_, rfl⟩
  rw [hW] at hL hb
  have hsz : w.heap.size < W.heap.size := by rw [← hW]; simp
  have hRW := hR.below (hb.mono hB)
  have hlen : 0 < (segs k.data.toList).length := List.length_pos_iff.2 (segs_ne _ hne)
  obtain ⟨a, rfl, hab, c0, _, c2⟩ := hRW.at_ hlen
  have hg0 : (segs k.data.toList).getD 0 (0, 0) = (x, z) := by rw [segs_cons _ hne, hx]; rfl
  rw [hg0, show a.add (0 * 3) = a by simp [Addr.add]] at c0 c2
  simp only at c0 c2
  obtain ⟨m, hm⟩ : ∃ m, (segs k.data.toList).length = m := ⟨_, rfl⟩
  unfold OneSays
  rw [hm] at hlen ⊢
  have hi0 : (0 : Int) < (m : Int) := by omega
  have Hb := Lib.hid hb
  obtain ⟨l0, l1, l2, l3, l4⟩ := hL
  have hks : 0 < k.size := by rw [← size_list]; exact List.length_pos_iff.2 hne
  rw [show badD (x, z) = false from hnb] at c2
  have h9 : x ≠ 9 := by omega
  have hq9 : ((x : Int) == 9) = false := by simp; omega
  have k10 : (k.toList == [10]) = false := by rw [toList_data, beq_eq_false_iff_ne]; exact h10
  have k13 : (k.toList == [13, 10]) = false := by rw [toList_data, beq_eq_false_iff_ne]; exact h13
  have hx32 : ¬ (x : Int) < 32 := by omega
  have hq127 : ((x : Int) == 127) = false := by simp; omega
  have hK := fun W => refKind_is (x : Int) W
  rw [show cls kindsL (char (x : Int)) = kN x from rfl] at hK
  obtain ⟨kk, hkk⟩ : ∃ kk, kN x = kk := ⟨_, rfl⟩
  rw [hkk] at hK
  have HK := Lib.hid hK
  clear hK
  have g1 : (128 : Int) ≤ (x : Int) := by omega
  have g2 : ¬ (x : Int) ≤ 159 := by omega
  have hq8232 : ((x : Int) == 8232) = false := by simp; omega
  have hq8233 : ((x : Int) == 8233) = false := by simp; omega
  have hJ := fun W => rjoin_any x W
  rw [hj] at hJ
  have HJ := Lib.hid hJ
  clear hJ
  rw [hkk] at hk1 hk2
  have hkk1 : ((kk : Int) == 1) = false := by rw [beq_eq_false_iff_ne]; omega
  have hkk2 : ((kk : Int) == 2) = false := by rw [beq_eq_false_iff_ne]; omega
  have hRx := fun W => rreg_any x W
  obtain ⟨rx, hrx⟩ : ∃ rx, regN x = rx := ⟨_, rfl⟩
  rw [hrx] at hRx
  have HRx := Lib.hid hRx
  clear hRx
  rw [hm] at hm1
  have hm1i : ¬ (1 : Int) < (m : Int) := by omega
  have HW := Lib.hid (fun W => refWide6 (x : Int) wd W)
  obtain ⟨v, hv⟩ : ∃ v, wideOf (cls widthsL (char (x : Int))) wd = v := ⟨_, rfl⟩
  simp only [hv] at HW
  rw [hv]
  obtain ⟨L, hL9⟩ : ∃ L, (if v = 0 then [] else k.data.toList) = L := ⟨_, rfl⟩
  rw [hL9]
  have HLL := Lib.hid hL9
  have hv1 : ((v : Int) == 1) = (v == 1) := by
    by_cases h : v = 1
    · subst h; rfl
    · rw [show (v == 1) = false by simpa using h]; simp; omega
  clear hL9
  clear hRW hR hb hg0 hm hne hx
  go_enter Tryd.func25, Tryd.ntmps25
  go_wp2_with fail
  refine (HK.out _).mono ?_
  rintro _ _ ⟨rfl, rfl⟩
  go_wp2_with fail
  refine (HJ.out _).mono ?_
  rintro _ _ ⟨rfl, rfl⟩
  go_wp2_with fail
  refine (HW.out _).mono ?_
  rintro _ _ ⟨rfl, rfl⟩
  by_cases h7 : kk = 7
  · have h7i : ((kk : Int) == 7) = true := by simp; omega
    obtain ⟨vb, hvb⟩ : ∃ vb, (v == 1) = vb := ⟨_, rfl⟩
    rw [hvb] at hv1
    clear hvb
    cases vb
    all_goals
      by_cases hv0 : v = 0
      · subst hv0
        have hL9 := HLL.out
        rw [if_pos rfl] at hL9
        subst hL9
        go_wp2_with fail
        go_ret2
        exact ⟨rfl, Hb.out⟩
      · have hvi : ((v : Int) == 0) = false := by simp; omega
        have hL9 := HLL.out
        rw [if_neg hv0] at hL9
        subst hL9
        clear hv0
        go_wp2_with fail
        go_ret2
        exact ⟨rfl, Hb.out⟩
  · have h7i : ((kk : Int) == 7) = false := by rw [beq_eq_false_iff_ne]; omega
    by_cases hv0 : v = 0
    · subst hv0
      have hL9 := HLL.out
      rw [if_pos rfl] at hL9
      subst hL9
      go_wp2_with fail
      go_ret2
      exact ⟨rfl, Hb.out⟩
    · have hvi : ((v : Int) == 0) = false := by simp; omega
      have hL9 := HLL.out
      rw [if_neg hv0] at hL9
      subst hL9
      clear hv0
      go_wp2_with fail
      go_ret2
      exact ⟨rfl, Hb.out⟩

set_option maxRecDepth 100000 in
set_option maxHeartbeats 1000000 in
theorem r1_twoxb (B x z : Nat) (hB : B ≤ w.heap.size) (hR : RdS w B A 0 (segs k.data.toList)) (hne : k.data.toList ≠ []) (hx : dec k.data.toList = (x, z)) (hnb : badD (x, z) = false) (h10 : k.data.toList ≠ [10]) (h13 : k.data.toList ≠ [13, 10]) (hx32' : 32 ≤ x) (h127 : x ≠ 127) (h8 : x ≠ 8232) (h99 : x ≠ 8233) (hk1 : kN x ≠ 1) (hk2 : kN x ≠ 2) (hj : joinN x = false) (hc : 128 ≤ x ∧ ¬ x ≤ 159) (hm1 : 1 < (segs k.data.toList).length) (hr1 : regN x = false) (hk7 : kN x = 7) (hw1 : wideOf (cls widthsL (char (x : Int))) wd = 1) (hs : secZ k.data.toList = 65039) : OneSays k A c col tb wd wt jn rz w k.data.toList 2 := by
  have hL := LookAt.new w 24 tb wd wt jn rz
  have hb : Below w.heap.size w (w.alloc (.cells #[.int .i64 tb, .bool wd, .int .i8 wt, .bool jn, .bool rz] 24)) := (Below.refl _ w).alloc (Nat.le_refl _) _
  obtain ⟨W, hW⟩ : ∃ W, w.alloc (.cells #[.int .i64 tb, .bool wd, .int .i8 wt, .bool jn, .bool rz] 24) = W := ⟨_, rfl⟩
  rw [hW] at hL hb
  have hsz : w.heap.size < W.heap.size := by rw [← hW]; simp
  have hRW := hR.below (hb.mono hB)
  have hlen : 0 < (segs k.data.toList).length := List.length_pos_iff.2 (segs_ne _ hne)
  obtain ⟨a, rfl, hab, c0, _, c2⟩ := hRW.at_ hlen
  have hg0 : (segs k.data.toList).getD 0 (0, 0) = (x, z) := by rw [segs_cons _ hne, hx]; rfl
  rw [hg0, show a.add (0 * 3) = a by simp [Addr.add]] at c0 c2
  simp only at c0 c2
  obtain ⟨a2, ha2, _, e0, _, _⟩ := hRW.at_ (i := 1) hm1
  obtain rfl : a = a2 := by injection ha2
  rw [sec_get hm1] at e0
  have e0' : W.cell? ⟨a.block, a.off + 3, none⟩ = some (.int .i32 ((secZ k.data.toList : Nat) : Int)) := e0
  obtain ⟨y, hy⟩ : ∃ y, secZ k.data.toList = y := ⟨_, rfl⟩
  rw [hy] at e0 e0'
  clear ha2
  obtain ⟨m, hm⟩ : ∃ m, (segs k.data.toList).length = m := ⟨_, rfl⟩
  unfold OneSays
  rw [hm] at hlen ⊢
  have hi0 : (0 : Int) < (m : Int) := by omega
  have Hb := Lib.hid hb
  obtain ⟨l0, l1, l2, l3, l4⟩ := hL
  have hks : 0 < k.size := by rw [← size_list]; exact List.length_pos_iff.2 hne
  rw [show badD (x, z) = false from hnb] at c2
  have h9 : x ≠ 9 := by omega
  have hq9 : ((x : Int) == 9) = false := by simp; omega
  have k10 : (k.toList == [10]) = false := by rw [toList_data, beq_eq_false_iff_ne]; exact h10
  have k13 : (k.toList == [13, 10]) = false := by rw [toList_data, beq_eq_false_iff_ne]; exact h13
  have hx32 : ¬ (x : Int) < 32 := by omega
  have hq127 : ((x : Int) == 127) = false := by simp; omega
  have hK := fun W => refKind_is (x : Int) W
  rw [show cls kindsL (char (x : Int)) = kN x from rfl] at hK
  obtain ⟨kk, hkk⟩ : ∃ kk, kN x = kk := ⟨_, rfl⟩
  rw [hkk] at hK
  have HK := Lib.hid hK
  clear hK
  have g1 : (128 : Int) ≤ (x : Int) := by omega
  have g2 : ¬ (x : Int) ≤ 159 := by omega
  have hq8232 : ((x : Int) == 8232) = false := by simp; omega
  have hq8233 : ((x : Int) == 8233) = false := by simp; omega
  have hJ := fun W => rjoin_any x W
  rw [hj] at hJ
  have HJ := Lib.hid hJ
  clear hJ
  rw [hkk] at hk1 hk2
  have hkk1 : ((kk : Int) == 1) = false := by rw [beq_eq_false_iff_ne]; omega
  have hkk2 : ((kk : Int) == 2) = false := by rw [beq_eq_false_iff_ne]; omega
  have hRx := fun W => rreg_any x W
  obtain ⟨rx, hrx⟩ : ∃ rx, regN x = rx := ⟨_, rfl⟩
  rw [hrx] at hRx
  have HRx := Lib.hid hRx
  clear hRx
  rw [hm] at hm1
  have hm1i : (1 : Int) < (m : Int) := by omega
  have hRy := fun W => rreg_any y W
  obtain ⟨ry, hry⟩ : ∃ ry, regN y = ry := ⟨_, rfl⟩
  rw [hry] at hRy
  have HRy := Lib.hid hRy
  clear hRy
  obtain rfl : false = rx := by rw [← hrx, hr1]
  have HW := Lib.hid (fun W => refWide6 (x : Int) wd W)
  obtain ⟨v, hv⟩ : ∃ v, wideOf (cls widthsL (char (x : Int))) wd = v := ⟨_, rfl⟩
  simp only [hv] at HW
  obtain rfl : 1 = v := by rw [← hv, hw1]
  have h7i : ((kk : Int) == 7) = true := by rw [← hkk, hk7]; rfl
  have hyi : ((y : Int) == 65039) = true := by rw [← hy, hs]; rfl
  clear hRW hR hb hg0 hm hne hx
  go_enter Tryd.func25, Tryd.ntmps25
  go_wp2_with fail
  refine (HK.out _).mono ?_
  rintro _ _ ⟨rfl, rfl⟩
  go_wp2_with fail
  refine (HJ.out _).mono ?_
  rintro _ _ ⟨rfl, rfl⟩
  go_wp2_with fail
  refine (HRx.out _).mono ?_
  rintro _ _ ⟨rfl, rfl⟩
  go_wp2_with fail
  refine (HW.out _).mono ?_
  rintro _ _ ⟨rfl, rfl⟩
  go_wp2_with fail
  go_ret2
  exact ⟨rfl, Hb.out⟩

set_option maxRecDepth 100000 in
set_option maxHeartbeats 1000000 in
theorem r1_widxb (B x z : Nat) (hB : B ≤ w.heap.size) (hR : RdS w B A 0 (segs k.data.toList)) (hne : k.data.toList ≠ []) (hx : dec k.data.toList = (x, z)) (hnb : badD (x, z) = false) (h10 : k.data.toList ≠ [10]) (h13 : k.data.toList ≠ [13, 10]) (hx32' : 32 ≤ x) (h127 : x ≠ 127) (h8 : x ≠ 8232) (h99 : x ≠ 8233) (hk1 : kN x ≠ 1) (hk2 : kN x ≠ 2) (hj : joinN x = false) (hc : 128 ≤ x ∧ ¬ x ≤ 159) (hm1 : 1 < (segs k.data.toList).length) (hr1 : regN x = false) (hnw : ¬ (kN x = 7 ∧ wideOf (cls widthsL (char (x : Int))) wd = 1 ∧ secZ k.data.toList = 65039)) : OneSays k A c col tb wd wt jn rz w (if wideOf (cls widthsL (char (x : Int))) wd = 0 then [] else k.data.toList) (wideOf (cls widthsL (char (x : Int))) wd) := by
  have hL := LookAt.new w 24 tb wd wt jn rz
  have hb : Below w.heap.size w (w.alloc (.cells #[.int .i64 tb, .bool wd, .int .i8 wt, .bool jn, .bool rz] 24)) := (Below.refl _ w).alloc (Nat.le_refl _) _
  obtain ⟨W, hW⟩ : ∃ W, w.alloc (.cells #[.int .i64 tb, .bool wd, .int .i8 wt, .bool jn, .bool rz] 24) = W := ⟨_, rfl⟩
  rw [hW] at hL hb
  have hsz : w.heap.size < W.heap.size := by rw [← hW]; simp
  have hRW := hR.below (hb.mono hB)
  have hlen : 0 < (segs k.data.toList).length := List.length_pos_iff.2 (segs_ne _ hne)
  obtain ⟨a, rfl, hab, c0, _, c2⟩ := hRW.at_ hlen
  have hg0 : (segs k.data.toList).getD 0 (0, 0) = (x, z) := by rw [segs_cons _ hne, hx]; rfl
  rw [hg0, show a.add (0 * 3) = a by simp [Addr.add]] at c0 c2
  simp only at c0 c2
  obtain ⟨a2, ha2, _, e0, _, _⟩ := hRW.at_ (i := 1) hm1
  obtain rfl : a = a2 := by injection ha2
  rw [sec_get hm1] at e0
  have e0' : W.cell? ⟨a.block, a.off + 3, none⟩ = some (.int .i32 ((secZ k.data.toList : Nat) : Int)) := e0
  obtain ⟨y, hy⟩ : ∃ y, secZ k.data.toList = y := ⟨_, rfl⟩
  rw [hy] at e0 e0'
  clear ha2
  obtain ⟨m, hm⟩ : ∃ m, (segs k.data.toList).length = m := ⟨_, rfl⟩
  unfold OneSays
  rw [hm] at hlen ⊢
  have hi0 : (0 : Int) < (m : Int) := by omega
  have Hb := Lib.hid hb
  obtain ⟨l0, l1, l2, l3, l4⟩ := hL
  have hks : 0 < k.size := by rw [← size_list]; exact List.length_pos_iff.2 hne
  rw [show badD (x, z) = false from hnb] at c2
  have h9 : x ≠ 9 := by omega
  have hq9 : ((x : Int) == 9) = false := by simp; omega
  have k10 : (k.toList == [10]) = false := by rw [toList_data, beq_eq_false_iff_ne]; exact h10
  have k13 : (k.toList == [13, 10]) = false := by rw [toList_data, beq_eq_false_iff_ne]; exact h13
  have hx32 : ¬ (x : Int) < 32 := by omega
  have hq127 : ((x : Int) == 127) = false := by simp; omega
  have hK := fun W => refKind_is (x : Int) W
  rw [show cls kindsL (char (x : Int)) = kN x from rfl] at hK
  obtain ⟨kk, hkk⟩ : ∃ kk, kN x = kk := ⟨_, rfl⟩
  rw [hkk] at hK
  have HK := Lib.hid hK
  clear hK
  have g1 : (128 : Int) ≤ (x : Int) := by omega
  have g2 : ¬ (x : Int) ≤ 159 := by omega
  have hq8232 : ((x : Int) == 8232) = false := by simp; omega
  have hq8233 : ((x : Int) == 8233) = false := by simp; omega
  have hJ := fun W => rjoin_any x W
  rw [hj] at hJ
  have HJ := Lib.hid hJ
  clear hJ
  rw [hkk] at hk1 hk2
  have hkk1 : ((kk : Int) == 1) = false := by rw [beq_eq_false_iff_ne]; omega
  have hkk2 : ((kk : Int) == 2) = false := by rw [beq_eq_false_iff_ne]; omega
  have hRx := fun W => rreg_any x W
  obtain ⟨rx, hrx⟩ : ∃ rx, regN x = rx := ⟨_, rfl⟩
  rw [hrx] at hRx
  have HRx := Lib.hid hRx
  clear hRx
  rw [hm] at hm1
  have hm1i : (1 : Int) < (m : Int) := by omega
  have hRy := fun W => rreg_any y W
  obtain ⟨ry, hry⟩ : ∃ ry, regN y = ry := ⟨_, rfl⟩
  rw [hry] at hRy
  have HRy := Lib.hid hRy
  clear hRy
  obtain rfl : false = rx := by rw [← hrx, hr1]
  have HW := Lib.hid (fun W => refWide6 (x : Int) wd W)
  obtain ⟨v, hv⟩ : ∃ v, wideOf (cls widthsL (char (x : Int))) wd = v := ⟨_, rfl⟩
  simp only [hv] at HW
  rw [hkk, hv, hy] at hnw
  have Hnw := Lib.hid hnw
  clear hnw
  rw [hv]
  obtain ⟨L, hL9⟩ : ∃ L, (if v = 0 then [] else k.data.toList) = L := ⟨_, rfl⟩
  rw [hL9]
  have HLL := Lib.hid hL9
  clear hL9
  clear hRW hR hb hg0 hm hne hx
  go_enter Tryd.func25, Tryd.ntmps25
  go_wp2_with fail
  refine (HK.out _).mono ?_
  rintro _ _ ⟨rfl, rfl⟩
  go_wp2_with fail
  refine (HJ.out _).mono ?_
  rintro _ _ ⟨rfl, rfl⟩
  go_wp2_with fail
  refine (HRx.out _).mono ?_
  rintro _ _ ⟨rfl, rfl⟩
  go_wp2_with fail
  refine (HW.out _).mono ?_
  rintro _ _ ⟨rfl, rfl⟩
  by_cases h7 : kk = 7
  · have h7i : ((kk : Int) == 7) = true := by simp; omega
    by_cases hvv : v = 1
    · subst hvv
      have hyi : ((y : Int) == 65039) = false := by
        rw [beq_eq_false_iff_ne]
        intro e
        exact Hnw.out ⟨h7, rfl, by omega⟩
      have hL9 := HLL.out
      rw [if_neg (by decide)] at hL9
      subst hL9
      go_wp2_with fail
      go_ret2
      exact ⟨rfl, Hb.out⟩
    · have hvi1 : ((v : Int) == 1) = false := by rw [beq_eq_false_iff_ne]; omega
      by_cases hv0 : v = 0
      · subst hv0
        have hL9 := HLL.out
        rw [if_pos rfl] at hL9
        subst hL9
        go_wp2_with fail
        go_ret2
        exact ⟨rfl, Hb.out⟩
      · have hvi : ((v : Int) == 0) = false := by simp; omega
        have hL9 := HLL.out
        rw [if_neg hv0] at hL9
        subst hL9
        clear hv0
        go_wp2_with fail
        go_ret2
        exact ⟨rfl, Hb.out⟩
  · have h7i : ((kk : Int) == 7) = false := by rw [beq_eq_false_iff_ne]; omega
    by_cases hv0 : v = 0
    · subst hv0
      have hL9 := HLL.out
      rw [if_pos rfl] at hL9
      subst hL9
      go_wp2_with fail
      go_ret2
      exact ⟨rfl, Hb.out⟩
    · have hvi : ((v : Int) == 0) = false := by simp; omega
      have hL9 := HLL.out
      rw [if_neg hv0] at hL9
      subst hL9
      clear hv0
      go_wp2_with fail
      go_ret2
      exact ⟨rfl, Hb.out⟩

set_option maxRecDepth 100000 in
set_option maxHeartbeats 1000000 in
theorem r1_twoyb (B x z : Nat) (hB : B ≤ w.heap.size) (hR : RdS w B A 0 (segs k.data.toList)) (hne : k.data.toList ≠ []) (hx : dec k.data.toList = (x, z)) (hnb : badD (x, z) = false) (h10 : k.data.toList ≠ [10]) (h13 : k.data.toList ≠ [13, 10]) (hx32' : 32 ≤ x) (h127 : x ≠ 127) (h8 : x ≠ 8232) (h99 : x ≠ 8233) (hk1 : kN x ≠ 1) (hk2 : kN x ≠ 2) (hj : joinN x = false) (hc : 128 ≤ x ∧ ¬ x ≤ 159) (hm1 : 1 < (segs k.data.toList).length) (hr1 : regN x = true) (hr2 : regN (secZ k.data.toList) = false) (hk7 : kN x = 7) (hw1 : wideOf (cls widthsL (char (x : Int))) wd = 1) (hs : secZ k.data.toList = 65039) : OneSays k A c col tb wd wt jn rz w k.data.toList 2 := by
  have hL := LookAt.new w 24 tb wd wt jn rz
  have hb : Below w.heap.size w (w.alloc (.cells #[.int .i64 tb, .bool wd, .int .i8 wt, .bool jn, .bool rz] 24)) := (Below.refl _ w).alloc (Nat.le_refl _) _
  obtain ⟨W, hW⟩ : ∃ W, w.alloc (.cells #[.int .i64 tb, .bool wd, .int .i8 wt, .bool jn, .bool rz] 24) = W := ⟨_, rfl⟩
  rw [hW] at hL hb
  have hsz : w.heap.size < W.heap.size := by rw [← hW]; simp
  have hRW := hR.below (hb.mono hB)
  have hlen : 0 < (segs k.data.toList).length := List.length_pos_iff.2 (segs_ne _ hne)
  obtain ⟨a, rfl, hab, c0, _, c2⟩ := hRW.at_ hlen
  have hg0 : (segs k.data.toList).getD 0 (0, 0) = (x, z) := by rw [segs_cons _ hne, hx]; rfl
  rw [hg0, show a.add (0 * 3) = a by simp [Addr.add]] at c0 c2
  simp only at c0 c2
  obtain ⟨a2, ha2, _, e0, _, _⟩ := hRW.at_ (i := 1) hm1
  obtain rfl : a = a2 := by injection ha2
  rw [sec_get hm1] at e0
  have e0' : W.cell? ⟨a.block, a.off + 3, none⟩ = some (.int .i32 ((secZ k.data.toList : Nat) : Int)) := e0
  obtain ⟨y, hy⟩ : ∃ y, secZ k.data.toList = y := ⟨_, rfl⟩
  rw [hy] at e0 e0'
  clear ha2
  obtain ⟨m, hm⟩ : ∃ m, (segs k.data.toList).length = m := ⟨_, rfl⟩
  unfold OneSays
  rw [hm] at hlen ⊢
  have hi0 : (0 : Int) < (m : Int) := by omega
  have Hb := Lib.hid hb
  obtain ⟨l0, l1, l2, l3, l4⟩ := hL
  have hks : 0 < k.size := by rw [← size_list]; exact List.length_pos_iff.2 hne
  rw [show badD (x, z) = false from hnb] at c2
  have h9 : x ≠ 9 := by omega
  have hq9 : ((x : Int) == 9) = false := by simp; omega
  have k10 : (k.toList == [10]) = false := by rw [toList_data, beq_eq_false_iff_ne]; exact h10
  have k13 : (k.toList == [13, 10]) = false := by rw [toList_data, beq_eq_false_iff_ne]; exact h13
  have hx32 : ¬ (x : Int) < 32 := by omega
  have hq127 : ((x : Int) == 127) = false := by simp; omega
  have hK := fun W => refKind_is (x : Int) W
  rw [show cls kindsL (char (x : Int)) = kN x from rfl] at hK
  obtain ⟨kk, hkk⟩ : ∃ kk, kN x = kk := ⟨_, rfl⟩
  rw [hkk] at hK
  have HK := Lib.hid hK
  clear hK
  have g1 : (128 : Int) ≤ (x : Int) := by omega
  have g2 : ¬ (x : Int) ≤ 159 := by omega
  have hq8232 : ((x : Int) == 8232) = false := by simp; omega
  have hq8233 : ((x : Int) == 8233) = false := by simp; omega
  have hJ := fun W => rjoin_any x W
  rw [hj] at hJ
  have HJ := Lib.hid hJ
  clear hJ
  rw [hkk] at hk1 hk2
  have hkk1 : ((kk : Int) == 1) = false := by rw [beq_eq_false_iff_ne]; omega
  have hkk2 : ((kk : Int) == 2) = false := by rw [beq_eq_false_iff_ne]; omega
  have hRx := fun W => rreg_any x W
  obtain ⟨rx, hrx⟩ : ∃ rx, regN x = rx := ⟨_, rfl⟩
  rw [hrx] at hRx
  have HRx := Lib.hid hRx
  clear hRx
  rw [hm] at hm1
  have hm1i : (1 : Int) < (m : Int) := by omega
  have hRy := fun W => rreg_any y W
  obtain ⟨ry, hry⟩ : ∃ ry, regN y = ry := ⟨_, rfl⟩
  rw [hry] at hRy
  have HRy := Lib.hid hRy
  clear hRy
  obtain rfl : true = rx := by rw [← hrx, hr1]
  obtain rfl : false = ry := by rw [← hry, ← hy, hr2]
  have HW := Lib.hid (fun W => refWide6 (x : Int) wd W)
  obtain ⟨v, hv⟩ : ∃ v, wideOf (cls widthsL (char (x : Int))) wd = v := ⟨_, rfl⟩
  simp only [hv] at HW
  obtain rfl : 1 = v := by rw [← hv, hw1]
  have h7i : ((kk : Int) == 7) = true := by rw [← hkk, hk7]; rfl
  have hyi : ((y : Int) == 65039) = true := by rw [← hy, hs]; rfl
  clear hRW hR hb hg0 hm hne hx
  go_enter Tryd.func25, Tryd.ntmps25
  go_wp2_with fail
  refine (HK.out _).mono ?_
  rintro _ _ ⟨rfl, rfl⟩
  go_wp2_with fail
  refine (HJ.out _).mono ?_
  rintro _ _ ⟨rfl, rfl⟩
  go_wp2_with fail
  refine (HRx.out _).mono ?_
  rintro _ _ ⟨rfl, rfl⟩
  go_wp2_with fail
  refine (HRy.out _).mono ?_
  rintro _ _ ⟨rfl, rfl⟩
  go_wp2_with fail
  refine (HW.out _).mono ?_
  rintro _ _ ⟨rfl, rfl⟩
  go_wp2_with fail
  go_ret2
  exact ⟨rfl, Hb.out⟩

set_option maxRecDepth 100000 in
set_option maxHeartbeats 1000000 in
theorem r1_widyb (B x z : Nat) (hB : B ≤ w.heap.size) (hR : RdS w B A 0 (segs k.data.toList)) (hne : k.data.toList ≠ []) (hx : dec k.data.toList = (x, z)) (hnb : badD (x, z) = false) (h10 : k.data.toList ≠ [10]) (h13 : k.data.toList ≠ [13, 10]) (hx32' : 32 ≤ x) (h127 : x ≠ 127) (h8 : x ≠ 8232) (h99 : x ≠ 8233) (hk1 : kN x ≠ 1) (hk2 : kN x ≠ 2) (hj : joinN x = false) (hc : 128 ≤ x ∧ ¬ x ≤ 159) (hm1 : 1 < (segs k.data.toList).length) (hr1 : regN x = true) (hr2 : regN (secZ k.data.toList) = false) (hnw : ¬ (kN x = 7 ∧ wideOf (cls widthsL (char (x : Int))) wd = 1 ∧ secZ k.data.toList = 65039)) : OneSays k A c col tb wd wt jn rz w (if wideOf (cls widthsL (char (x : Int))) wd = 0 then [] else k.data.toList) (wideOf (cls widthsL (char (x : Int))) wd) := by
  have hL := LookAt.new w 24 tb wd wt jn rz
  have hb : Below w.heap.size w (w.alloc (.cells #[.int .i64 tb, .bool wd, .int .i8 wt, .bool jn, .bool rz] 24)) := (Below.refl _ w).alloc (Nat.le_refl _) _
  obtain ⟨W, hW⟩ : ∃ W, w.alloc (.cells #[.int .i64 tb, .bool wd, .int .i8 wt, .bool jn, .bool rz] 24) = W := ⟨_, rfl⟩
  rw [hW] at hL hb
  have hsz : w.heap.size < W.heap.size := by rw [← hW]; simp
  have hRW := hR.below (hb.mono hB)
  have hlen : 0 < (segs k.data.toList).length := List.length_pos_iff.2 (segs_ne _ hne)
  obtain ⟨a, rfl, hab, c0, _, c2⟩ := hRW.at_ hlen
  have hg0 : (segs k.data.toList).getD 0 (0, 0) = (x, z) := by rw [segs_cons _ hne, hx]; rfl
  rw [hg0, show a.add (0 * 3) = a by simp [Addr.add]] at c0 c2
  simp only at c0 c2
  obtain ⟨a2, ha2, _, e0, _, _⟩ := hRW.at_ (i := 1) hm1
  obtain rfl : a = a2 := by injection ha2
  rw [sec_get hm1] at e0
  have e0' : W.cell? ⟨a.block, a.off + 3, none⟩ = some (.int .i32 ((secZ k.data.toList : Nat) : Int)) := e0
  obtain ⟨y, hy⟩ : ∃ y, secZ k.data.toList = y := ⟨_, rfl⟩
  rw [hy] at e0 e0'
  clear ha2
  obtain ⟨m, hm⟩ : ∃ m, (segs k.data.toList).length = m := ⟨_, rfl⟩
  unfold OneSays
  rw [hm] at hlen ⊢
  have hi0 : (0 : Int) < (m : Int) := by omega
  have Hb := Lib.hid hb
  obtain ⟨l0, l1, l2, l3, l4⟩ := hL
  have hks : 0 < k.size := by rw [← size_list]; exact List.length_pos_iff.2 hne
  rw [show badD (x, z) = false from hnb] at c2
  have h9 : x ≠ 9 := by omega
  have hq9 : ((x : Int) == 9) = false := by simp; omega
  have k10 : (k.toList == [10]) = false := by rw [toList_data, beq_eq_false_iff_ne]; exact h10
  have k13 : (k.toList == [13, 10]) = false := by rw [toList_data, beq_eq_false_iff_ne]; exact h13
  have hx32 : ¬ (x : Int) < 32 := by omega
  have hq127 : ((x : Int) == 127) = false := by simp; omega
  have hK := fun W => refKind_is (x : Int) W
  rw [show cls kindsL (char (x : Int)) = kN x from rfl] at hK
  obtain ⟨kk, hkk⟩ : ∃ kk, kN x = kk := ⟨_, rfl⟩
  rw [hkk] at hK
  have HK := Lib.hid hK
  clear hK
  have g1 : (128 : Int) ≤ (x : Int) := by omega
  have g2 : ¬ (x : Int) ≤ 159 := by omega
  have hq8232 : ((x : Int) == 8232) = false := by simp; omega
  have hq8233 : ((x : Int) == 8233) = false := by simp; omega
  have hJ := fun W => rjoin_any x W
  rw [hj] at hJ
  have HJ := Lib.hid hJ
  clear hJ
  rw [hkk] at hk1 hk2
  have hkk1 : ((kk : Int) == 1) = false := by rw [beq_eq_false_iff_ne]; omega
  have hkk2 : ((kk : Int) == 2) = false := by rw [beq_eq_false_iff_ne]; omega
  have hRx := fun W => rreg_any x W
  obtain ⟨rx, hrx⟩ : ∃ rx, regN x = rx := ⟨_, rfl⟩
  rw [hrx] at hRx
  have HRx := Lib.hid hRx
  clear hRx
  rw [hm] at hm1
  have hm1i : (1 : Int) < (m : Int) := by omega
  have hRy := fun W => rreg_any y W
  obtain ⟨ry, hry⟩ : ∃ ry, regN y = ry := ⟨_, rfl⟩
  rw [hry] at hRy
  have HRy := Lib.hid hRy
  clear hRy
  obtain rfl : true = rx := by rw [← hrx, hr1]
  obtain rfl : false = ry := by rw [← hry, ← hy, hr2]
  have HW := Lib.hid (fun W => refWide6 (x : Int) wd W)
  obtain ⟨v, hv⟩ : ∃ v, wideOf (cls widthsL (char (x : Int))) wd = v := ⟨_, rfl⟩
  simp only [hv] at HW
  rw [hkk, hv, hy] at hnw
  have Hnw := Lib.hid hnw
  clear hnw
  rw [hv]
  obtain ⟨L, hL9⟩ : ∃ L, (if v = 0 then [] else k.data.toList) = L := ⟨_, rfl⟩
  rw [hL9]
  have HLL := Lib.hid hL9
  clear hL9
  clear hRW hR hb hg0 hm hne hx
  go_enter Tryd.func25, Tryd.ntmps25
  go_wp2_with fail
  refine (HK.out _).mono ?_
  rintro _ _ ⟨rfl, rfl⟩
  go_wp2_with fail
  refine (HJ.out _).mono ?_
  rintro _ _ ⟨rfl, rfl⟩
  go_wp2_with fail
  refine (HRx.out _).mono ?_
  rintro _ _ ⟨rfl, rfl⟩
  go_wp2_with fail
  refine (HRy.out _).mono ?_
  rintro _ _ ⟨rfl, rfl⟩
  go_wp2_with fail
  refine (HW.out _).mono ?_
  rintro _ _ ⟨rfl, rfl⟩
  by_cases h7 : kk = 7
  · have h7i : ((kk : Int) == 7) = true := by simp; omega
    by_cases hvv : v = 1
    · subst hvv
      have hyi : ((y : Int) == 65039) = false := by
        rw [beq_eq_false_iff_ne]
        intro e
        exact Hnw.out ⟨h7, rfl, by omega⟩
      have hL9 := HLL.out
      rw [if_neg (by decide)] at hL9
      subst hL9
      go_wp2_with fail
      go_ret2
      exact ⟨rfl, Hb.out⟩
    · have hvi1 : ((v : Int) == 1) = false := by rw [beq_eq_false_iff_ne]; omega
      by_cases hv0 : v = 0
      · subst hv0
        have hL9 := HLL.out
        rw [if_pos rfl] at hL9
        subst hL9
        go_wp2_with fail
        go_ret2
        exact ⟨rfl, Hb.out⟩
      · have hvi : ((v : Int) == 0) = false := by simp; omega
        have hL9 := HLL.out
        rw [if_neg hv0] at hL9
        subst hL9
        clear hv0
        go_wp2_with fail
        go_ret2
        exact ⟨rfl, Hb.out⟩
  · have h7i : ((kk : Int) == 7) = false := by rw [beq_eq_false_iff_ne]; omega
    by_cases hv0 : v = 0
    · subst hv0
      have hL9 := HLL.out
      rw [if_pos rfl] at hL9
      subst hL9
      go_wp2_with fail
      go_ret2
      exact ⟨rfl, Hb.out⟩
    · have hvi : ((v : Int) == 0) = false := by simp; omega
      have hL9 := HLL.out
      rw [if_neg hv0] at hL9
      subst hL9
      clear hv0
      go_wp2_with fail
      go_ret2
      exact ⟨rfl, Hb.out⟩

end
end Go.Proofs.YthejfbanehnmjaaDoor
