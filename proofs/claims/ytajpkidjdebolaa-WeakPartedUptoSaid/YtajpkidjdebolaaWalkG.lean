/- Layer 8, the program: counted, rules. -/
import Derived.Test.YtajpkidjdebolaaRulesA
import Derived.Test.YtajpkidjdebolaaTermW
import Derived.Laws.MakeOwn
import Derived.Laws.EntriesVeiled
import Derived.Deep.WholeRow
import Derived.Deep.RegionWith
import Derived.Deep.RegionHeld3
set_option linter.unusedSimpArgs false
set_option linter.unusedVariables false
namespace Go.Proofs.Ytajpkidjdebolaa
open Go.RowKit Go.Lib

theorem i8_info : (Try.prog.info? 23).map (fun i => (i.zero, i.size, i.bytes)) = some (some (.int .i8 0), 1, 1) := by kernel_rfl
theorem grown_below {Q : Nat} {w W w' : World} {v : Value} (hb : Below Q w W) (hg : W.grownBy w' v.ownBlock) (hq : Q ≤ W.heap.size) (hv : ∀ k, v.ownBlock = some k → Q ≤ k) : Below Q w w' :=
  hb.grown hg hq hv
set_option maxRecDepth 100000 in
set_option maxHeartbeats 1000000 in
theorem counted_any (A : Option Addr) (n c : Nat) (zs : List Int) (w : World) (hrd : Rd w w.heap.size 1 A n (i8s zs)) (hn : n ≤ 140737488355328) :
    Calls Try.prog 21 #[.slice A n c] w fun e w' => ∃ A' c', e = .returned (.slice A' n c') ∧ w'.ownsRow w.heap.size 23 1 (.slice A' n c') n (i8s (cntL zs)) ∧ Below w.heap.size w w' := by
  obtain ⟨i0, hi, hz0, hz1, hz2⟩ := info_parts i8_info
  have hzl : zs.length = n := by have := hrd.1; simpa using this
  obtain ⟨W0, hrun, hown0, hg0⟩ := run_make_full (P := Try.prog) w w.heap.size 22 23 i0 _ 1 Try.underlying22 hi hz0 hz1 .i64 .i64 n (by rw [hz2]; omega) (by unfold maxLen; omega) (Nat.le_refl _)
  have hz : (madeCells (Value.int .i8 0).cells (n * 1)).toList = i8s (List.replicate n 0) := by
    rw [Nat.mul_one]
    show (madeCells #[Value.int .i8 0] n).toList = _
    rw [toList_madeCells_one]
    simp [i8s]
  rw [hz] at hown0
  clear hz
  obtain ⟨Q, hQ⟩ : ∃ Q, w.heap.size = Q := ⟨_, rfl⟩
  rw [hQ] at hrun hown0 hrd ⊢
  have hb0 : Below Q w W0 := (Below.refl Q w).grown hg0 (by omega) (fun k hk => by cases hk)
  have HRd := Lib.hid hrd
  have H0 := Lib.hid (show _ ∧ _ from ⟨hown0, hb0⟩)
  have HQ := Lib.hid hQ
  clear hrd hown0 hg0 hb0 hQ
  go_enter Try.func21, Try.ntmps21
  go_wp2
  go_loopw [11] (fun x wr => ∃ (p t : List Int) (W : World), W = wr ∧ Hid (zs = p ++ t) ∧ x = .int .i64 (p.length : Int) ∧ Hid (W.ownsRow Q 23 1 (.slice (some ⟨Q, 0, none⟩) n n) n (i8s (cntL p ++ List.replicate t.length 0)) ∧ Below Q w W)) (fun x _ => n - (RowKit.intOf x).toNat)
  case atStart => exact ⟨[], zs, _, rfl, Lib.hid rfl, rfl, Lib.hid ⟨by rw [hzl]; exact H0.out.1, H0.out.2⟩⟩
  case round =>
    obtain ⟨p, t, W, hW, hx, rfl, HW⟩ := hrel
    subst hW
    have hlen := congrArg List.length hx.out
    rw [hzl, List.length_append] at hlen
    rcases t with _ | ⟨k, t⟩
    · have hpl : p.length = n := by simpa using hlen.symm
      rw [hpl]
      have hnn : ¬ (n : Int) < (n : Int) := by omega
      clear hlen
      go_wp2
      go_ret
      refine ⟨_, _, rfl, ?_, HW.out.2⟩
      have h1 := HW.out.1
      have h2 := hx.out
      rw [List.append_nil] at h2
      rw [h2]
      simpa using h1
    · obtain ⟨h1, h2⟩ := HW.out
      rw [List.length_cons, List.replicate_succ] at h1
      obtain ⟨g, hA, hin, _, hcm, hcell0, hfz, hset⟩ := row_at h1
      injection hA with hA
      injection hA with hA
      subst hA
      rw [cntL_len] at hin hcell0 hfz hset
      have hrd' := HRd.out.below h2
      rw [hx.out] at hrd'
      obtain ⟨a, hA, _, hcell⟩ := hrd'.addr (by omega)
      subst hA
      have hcell := hcell p.length (.int .i8 k) (by simp)
      have hnext := i64_next hin (Nat.le_refl _) hcm
      have hini : (p.length : Int) < (n : Int) := by omega
      have hsnoc := snoc_len p k
      have Hset := Lib.hid (fun v => show _ ∧ _ from ⟨(hset v).1, h2.setCell (p := ⟨Q, p.length, none⟩) (Nat.le_refl _) (.int .i8 v)⟩)
      have Hx := Lib.hid (show zs = (p ++ [k]) ++ t by rw [hx.out]; simp)
      have Hc := Lib.hid (fun v (e : cntZ k = v) => show cntL (p ++ [k]) ++ List.replicate t.length 0 = cntL p ++ v :: List.replicate t.length 0 by simp [cntL, e])
      obtain ⟨q, hq⟩ : ∃ q, p ++ [k] = q := ⟨_, rfl⟩
      obtain ⟨i, hi'⟩ : ∃ i, p.length = i := ⟨_, rfl⟩
      rw [hq, hi'] at hsnoc
      rw [hq] at Hx Hc
      rw [hi'] at hin hcell hcell0 hfz Hset hnext hini ⊢
      clear hx hset h1 h2 HW hlen hq hi' hrd'
      by_cases k0 : k < 0
      · have HC := Hc.out 13 (by unfold cntZ; rw [if_pos (.inl k0)])
        have HS := Hset.out 13
        rw [← HC] at HS
        have HS := Lib.hid HS
        clear HC Hc Hset
        go_wp2
        go_roundw
        case rel => exact ⟨q, t, _, rfl, Hx, by rw [hsnoc], HS⟩
        case measure => simp [RowKit.intOf]; omega
      · by_cases k2 : 22 < k
        · have HC := Hc.out 13 (by unfold cntZ; rw [if_pos (.inr k2)])
          have HS := Hset.out 13
          rw [← HC] at HS
          have HS := Lib.hid HS
          clear HC Hc Hset
          go_wp2
          go_roundw
          case rel => exact ⟨q, t, _, rfl, Hx, by rw [hsnoc], HS⟩
          case measure => simp [RowKit.intOf]; omega
        · have HC := Hc.out k (by unfold cntZ; rw [if_neg (by omega)])
          have HS := Hset.out k
          rw [← HC] at HS
          have HS := Lib.hid HS
          clear HC Hc Hset
          go_wp2
          go_roundw
          case rel => exact ⟨q, t, _, rfl, Hx, by rw [hsnoc], HS⟩
          case measure => simp [RowKit.intOf]; omega

/-- the array of the rules -/
def rulesV : Value := .agg #[.func (.func 29) #[] #[], .func (.func 30) #[] #[], .func (.func 31) #[] #[], .func (.func 32) #[] #[], .func (.func 33) #[] #[], .func (.func 34) #[] #[], .func (.func 35) #[] #[]]
theorem rules_any (w : World) : Calls Try.prog 22 #[] w fun e w' => e = .returned rulesV ∧ Below w.heap.size w w' := by
  have hb : Below w.heap.size w w := Below.refl _ w
  have Hb := Lib.hid (fun o => hb.alloc (Nat.le_refl _) o)
  clear hb
  go_enter Try.func22, Try.ntmps22
  go_wp2
  try simp only [Exit.inBlock, Exit.then]
  refine bodyPost_ret (results_cell_row rfl _ _ _ _ _ _ _ rfl (heap_alloc_new w _) Try.underlying37 rfl (by kernel_rfl)) rfl ?_
  exact ⟨rfl, Hb.out _⟩
end Go.Proofs.Ytajpkidjdebolaa

/- Layer 8, the program: Resolve, Step. -/
namespace Go.Proofs.Ytajpkidjdebolaa
open Go.RowKit Go.Lib

def ruleF : Nat → FuncId
  | 0 => 29
  | 1 => 30
  | 2 => 31
  | 3 => 32
  | 4 => 33
  | 5 => 34
  | _ => 35
theorem rule_any (i : Nat) (hi : i < 7) (B : Nat) (A : Option Addr) (n c : Nat) (s : Int) (xs : List Int) (w : World) (h : w.ownsRow B 23 1 (.slice A n c) n (i8s xs)) :
    Calls Try.prog (ruleF i) #[.slice A n c, .int .i8 s] w (RuleAt B A n c (stepZ (i + 1) s xs) w) := by
  match i, hi with
  | 0, _ => exact wmarks_any B A n c s xs w h
  | 1, _ => exact wdigits2_any B A n c s xs w h
  | 2, _ => exact wletters_any B A n c s xs w h
  | 3, _ => exact wseps_any B A n c s xs w h
  | 4, _ => exact wterms_any B A n c s xs w h
  | 5, _ => exact wsigns_any B A n c s xs w h
  | 6, _ => exact wdigits7_any B A n c s xs w h
/-- a new list, all else as it was -/
def NewAt (n : Nat) (ys : List Int) (w : World) (e : Ending) (w' : World) : Prop :=
  ∃ A' c', e = .returned (.slice A' n c') ∧ w'.ownsRow w.heap.size 23 1 (.slice A' n c') n (i8s ys) ∧ Below w.heap.size w w'

set_option maxRecDepth 100000 in
set_option maxHeartbeats 2000000 in
theorem wresolve_any (A : Option Addr) (n c : Nat) (s : Int) (zs : List Int) (w : World) (hrd : Rd w w.heap.size 1 A n (i8s zs)) (hn : n ≤ 140737488355328) :
    Calls Try.prog 11 #[.slice A n c, .int .i8 s] w (NewAt n (resZ s zs) w) := by
  have HC := Lib.hid (counted_any A n c zs w hrd hn)
  have HR := Lib.hid rules_any
  have HS := Lib.hid (fun w => side_any s w)
  have HF := Lib.hid rule_any
  obtain ⟨R, hR⟩ : ∃ R, resZ s zs = R := ⟨_, rfl⟩
  have HR7 := Lib.hid (show uptoZ 7 (sideZ s) (cntL zs) = R from hR)
  rw [hR]
  unfold NewAt
  obtain ⟨Q, hQ⟩ : ∃ Q, w.heap.size = Q := ⟨_, rfl⟩
  rw [hQ] at HC ⊢
  have HQ := Lib.hid hQ
  clear hrd hR hQ
  go_enter Try.func11, Try.ntmps11
  go_wp2_with fail
  refine HC.out.mono ?_
  rintro _ w1 ⟨A1, c1, rfl, hown, hb1⟩
  have H1 := Lib.hid (show _ ∧ _ from ⟨hown, hb1⟩)
  clear hown hb1
  go_wp2_with fail
  refine (HR.out _).mono ?_
  rintro _ w2 ⟨rfl, hb2⟩
  have H2 := Lib.hid (show w2.ownsRow Q 23 1 (.slice A1 n c1) n (i8s (uptoZ 0 (sideZ s) (cntL zs))) ∧ Below Q w w2 from ⟨own_below H1.out.1 hb2, H1.out.2.trans (hb2.mono (by have := H1.out.2.size; have := HQ.out; omega))⟩)
  clear hb2 H1
  unfold rulesV
  obtain ⟨s', hs'⟩ : ∃ s', sideZ s = s' := ⟨_, rfl⟩
  rw [hs'] at HS H2 HR7
  clear hs'
  go_wp2_with fail
  go_loopw [11] (fun x wr => ∃ (i : Nat) (W : World), W = wr ∧ x = .int .i64 (i : Int) ∧ i ≤ 7 ∧ Hid (W.ownsRow Q 23 1 (.slice A1 n c1) n (i8s (uptoZ i s' (cntL zs))) ∧ Below Q w W)) (fun x _ => 7 - (RowKit.intOf x).toNat)
  case atStart => exact ⟨0, _, rfl, rfl, by omega, H2⟩
  case round =>
    obtain ⟨i, W, hW, rfl, hi, HW⟩ := hrel
    subst hW
    by_cases h7 : i = 7
    · subst h7
      go_wp2_with fail
      go_ret
      refine ⟨_, _, rfl, ?_, HW.out.2⟩
      rw [← HR7.out]
      exact HW.out.1
    · have Hr := Lib.hid (HF.out i (by omega) Q A1 n c1 s' (uptoZ i s' (cntL zs)) W HW.out.1)
      have Hk := Lib.hid (fun (W' : World) (hg : W.grownBy W' (Value.ownBlock (.slice A1 n c1))) => HW.out.2.grown hg (by have := HW.out.2.size; have := HQ.out; omega) (fun k hk => (HW.out.1.lt k hk).1))
      rcases i with _ | _ | _ | _ | _ | _ | _ | i
      · have hidx : (Instr.index 37 (.agg #[.func (.func 29) #[] #[], .func (.func 30) #[] #[], .func (.func 31) #[] #[], .func (.func 32) #[] #[], .func (.func 33) #[] #[], .func (.func 34) #[] #[], .func (.func 35) #[] #[]]) (.int .i64 0)).run Try.prog W = .ok (.func (.func 29) #[] #[]) W := by kernel_rfl
        go_wp2_with fail
        refine (HS.out _).mono ?_
        rintro _ w9 ⟨rfl, h9⟩
        obtain rfl := h9.symm
        go_wp2_with fail
        refine Hr.out.mono ?_
        rintro _ w10 ⟨rfl, h10, h11⟩
        have Hn := Lib.hid (show _ ∧ _ from ⟨h10, Hk.out w10 h11⟩)
        clear h10 h11
        go_wp2_with fail
        go_roundw
        case rel => exact ⟨1, _, rfl, by first | rfl | go_num, by omega, Hn⟩
        case measure => simp [RowKit.intOf]
      · have hidx : (Instr.index 37 (.agg #[.func (.func 29) #[] #[], .func (.func 30) #[] #[], .func (.func 31) #[] #[], .func (.func 32) #[] #[], .func (.func 33) #[] #[], .func (.func 34) #[] #[], .func (.func 35) #[] #[]]) (.int .i64 1)).run Try.prog W = .ok (.func (.func 30) #[] #[]) W := by kernel_rfl
        go_wp2_with fail
        refine (HS.out _).mono ?_
        rintro _ w9 ⟨rfl, h9⟩
        obtain rfl := h9.symm
        go_wp2_with fail
        refine Hr.out.mono ?_
        rintro _ w10 ⟨rfl, h10, h11⟩
        have Hn := Lib.hid (show _ ∧ _ from ⟨h10, Hk.out w10 h11⟩)
        clear h10 h11
        go_wp2_with fail
        go_roundw
        case rel => exact ⟨2, _, rfl, by first | rfl | go_num, by omega, Hn⟩
        case measure => simp [RowKit.intOf]
      · have hidx : (Instr.index 37 (.agg #[.func (.func 29) #[] #[], .func (.func 30) #[] #[], .func (.func 31) #[] #[], .func (.func 32) #[] #[], .func (.func 33) #[] #[], .func (.func 34) #[] #[], .func (.func 35) #[] #[]]) (.int .i64 2)).run Try.prog W = .ok (.func (.func 31) #[] #[]) W := by kernel_rfl
        go_wp2_with fail
        refine (HS.out _).mono ?_
        rintro _ w9 ⟨rfl, h9⟩
        obtain rfl := h9.symm
        go_wp2_with fail
        refine Hr.out.mono ?_
        rintro _ w10 ⟨rfl, h10, h11⟩
        have Hn := Lib.hid (show _ ∧ _ from ⟨h10, Hk.out w10 h11⟩)
        clear h10 h11
        go_wp2_with fail
        go_roundw
        case rel => exact ⟨3, _, rfl, by first | rfl | go_num, by omega, Hn⟩
        case measure => simp [RowKit.intOf]
      · have hidx : (Instr.index 37 (.agg #[.func (.func 29) #[] #[], .func (.func 30) #[] #[], .func (.func 31) #[] #[], .func (.func 32) #[] #[], .func (.func 33) #[] #[], .func (.func 34) #[] #[], .func (.func 35) #[] #[]]) (.int .i64 3)).run Try.prog W = .ok (.func (.func 32) #[] #[]) W := by kernel_rfl
        go_wp2_with fail
        refine (HS.out _).mono ?_
        rintro _ w9 ⟨rfl, h9⟩
        obtain rfl := h9.symm
        go_wp2_with fail
        refine Hr.out.mono ?_
        rintro _ w10 ⟨rfl, h10, h11⟩
        have Hn := Lib.hid (show _ ∧ _ from ⟨h10, Hk.out w10 h11⟩)
        clear h10 h11
        go_wp2_with fail
        go_roundw
        case rel => exact ⟨4, _, rfl, by first | rfl | go_num, by omega, Hn⟩
        case measure => simp [RowKit.intOf]
      · have hidx : (Instr.index 37 (.agg #[.func (.func 29) #[] #[], .func (.func 30) #[] #[], .func (.func 31) #[] #[], .func (.func 32) #[] #[], .func (.func 33) #[] #[], .func (.func 34) #[] #[], .func (.func 35) #[] #[]]) (.int .i64 4)).run Try.prog W = .ok (.func (.func 33) #[] #[]) W := by kernel_rfl
        go_wp2_with fail
        refine (HS.out _).mono ?_
        rintro _ w9 ⟨rfl, h9⟩
        obtain rfl := h9.symm
        go_wp2_with fail
        refine Hr.out.mono ?_
        rintro _ w10 ⟨rfl, h10, h11⟩
        have Hn := Lib.hid (show _ ∧ _ from ⟨h10, Hk.out w10 h11⟩)
        clear h10 h11
        go_wp2_with fail
        go_roundw
        case rel => exact ⟨5, _, rfl, by first | rfl | go_num, by omega, Hn⟩
        case measure => simp [RowKit.intOf]
      · have hidx : (Instr.index 37 (.agg #[.func (.func 29) #[] #[], .func (.func 30) #[] #[], .func (.func 31) #[] #[], .func (.func 32) #[] #[], .func (.func 33) #[] #[], .func (.func 34) #[] #[], .func (.func 35) #[] #[]]) (.int .i64 5)).run Try.prog W = .ok (.func (.func 34) #[] #[]) W := by kernel_rfl
        go_wp2_with fail
        refine (HS.out _).mono ?_
        rintro _ w9 ⟨rfl, h9⟩
        obtain rfl := h9.symm
        go_wp2_with fail
        refine Hr.out.mono ?_
        rintro _ w10 ⟨rfl, h10, h11⟩
        have Hn := Lib.hid (show _ ∧ _ from ⟨h10, Hk.out w10 h11⟩)
        clear h10 h11
        go_wp2_with fail
        go_roundw
        case rel => exact ⟨6, _, rfl, by first | rfl | go_num, by omega, Hn⟩
        case measure => simp [RowKit.intOf]
      · have hidx : (Instr.index 37 (.agg #[.func (.func 29) #[] #[], .func (.func 30) #[] #[], .func (.func 31) #[] #[], .func (.func 32) #[] #[], .func (.func 33) #[] #[], .func (.func 34) #[] #[], .func (.func 35) #[] #[]]) (.int .i64 6)).run Try.prog W = .ok (.func (.func 35) #[] #[]) W := by kernel_rfl
        go_wp2_with fail
        refine (HS.out _).mono ?_
        rintro _ w9 ⟨rfl, h9⟩
        obtain rfl := h9.symm
        go_wp2_with fail
        refine Hr.out.mono ?_
        rintro _ w10 ⟨rfl, h10, h11⟩
        have Hn := Lib.hid (show _ ∧ _ from ⟨h10, Hk.out w10 h11⟩)
        clear h10 h11
        go_wp2_with fail
        go_roundw
        case rel => exact ⟨7, _, rfl, by first | rfl | go_num, by omega, Hn⟩
        case measure => simp [RowKit.intOf]
      · omega
end Go.Proofs.Ytajpkidjdebolaa

/- Layer 8, the program: Step. (Made by tools/mkstep8.py.) -/
namespace Go.Proofs.Ytajpkidjdebolaa
open Go.RowKit Go.Lib

theorem blk_cell {w : World} {b : Nat} {t : TypeId} {cs : Array Value} {fr : Nat × Nat} (h : w.heap[b]? = some (.cells cs t fr)) (j : Nat) : w.cell? ⟨b, j, none⟩ = cs[j]? := cell_of_row w b j cs t fr h
theorem stepZ_off {k : Nat} (h : k = 0 ∨ 7 < k) (s : Int) (l : List Int) : stepZ k s l = l := by
  unfold stepZ
  split <;> first | rfl | omega
set_option maxRecDepth 100000 in
set_option maxHeartbeats 4000000 in
theorem wstep_any (k : Int) (A : Option Addr) (n c : Nat) (s : Int) (zs : List Int) (w : World) (hrd : Rd w w.heap.size 1 A n (i8s zs)) (hn : n ≤ 140737488355328) :
    Calls Try.prog 17 #[.int .i64 k, .slice A n c, .int .i8 s] w (NewAt n (oneZ k s zs) w) := by
  have HC := Lib.hid (counted_any A n c zs w hrd hn)
  have HR := Lib.hid rules_any
  have HS := Lib.hid (fun w => side_any s w)
  have HF := Lib.hid rule_any
  have Hoff := Lib.hid (show (k < 1 ∨ 7 < k) → cntL zs = oneZ k s zs from fun h => by unfold oneZ; rw [stepZ_off (by omega)])
  have Hon := Lib.hid (show ∀ i : Nat, k = ((i + 1 : Nat) : Int) → stepZ (i + 1) (sideZ s) (cntL zs) = oneZ k s zs from fun i h => by unfold oneZ; rw [h]; rfl)
  obtain ⟨R, hR⟩ : ∃ R, oneZ k s zs = R := ⟨_, rfl⟩
  rw [hR] at Hoff Hon ⊢
  clear hR
  unfold NewAt
  obtain ⟨Q, hQ⟩ : ∃ Q, w.heap.size = Q := ⟨_, rfl⟩
  rw [hQ] at HC ⊢
  have HQ := Lib.hid hQ
  clear hrd hQ
  go_enter Try.func17, Try.ntmps17
  go_wp2_with fail
  refine HC.out.mono ?_
  rintro _ w1 ⟨A1, c1, rfl, hown, hb1⟩
  have H1 := Lib.hid (show _ ∧ _ from ⟨hown, hb1⟩)
  clear hown hb1
  go_wp2_with fail
  refine (HR.out _).mono ?_
  rintro _ w2 ⟨rfl, hb2⟩
  have H2 := Lib.hid (show w2.ownsRow Q 23 1 (.slice A1 n c1) n (i8s (cntL zs)) ∧ Below Q w w2 from ⟨own_below H1.out.1 hb2, H1.out.2.trans (hb2.mono (by have := H1.out.2.size; have := HQ.out; omega))⟩)
  clear hb2 H1
  unfold rulesV
  obtain ⟨b, hb⟩ : ∃ b, w2.heap.size = b := ⟨_, rfl⟩
  obtain ⟨W, hW⟩ : ∃ W, w2.alloc (.cells #[.func (.func 29) #[] #[], .func (.func 30) #[] #[], .func (.func 31) #[] #[], .func (.func 32) #[] #[], .func (.func 33) #[] #[], .func (.func 34) #[] #[], .func (.func 35) #[] #[]] 37) = W := ⟨_, rfl⟩
  have hQb : Q ≤ b := by have := H2.out.2.size; have := HQ.out; omega
  have H3 := Lib.hid (show W.ownsRow Q 23 1 (.slice A1 n c1) n (i8s (cntL zs)) ∧ Below Q w W from by
    rw [← hW]
    exact ⟨H2.out.1.alloc _, H2.out.2.alloc (by omega) _⟩)
  have HB := Lib.hid (show W.heap[b]? = some (.cells #[.func (.func 29) #[] #[], .func (.func 30) #[] #[], .func (.func 31) #[] #[], .func (.func 32) #[] #[], .func (.func 33) #[] #[], .func (.func 34) #[] #[], .func (.func 35) #[] #[]] 37 (0, 0)) from by rw [← hW, ← hb]; exact heap_alloc_new w2 _)
  have HbW := Lib.hid (show Q ≤ W.heap.size by have := H3.out.2.size; have := HQ.out; omega)
  have HW := Lib.hid hW
  have Hb := Lib.hid hb
  have Hne := Lib.hid (show Value.ownBlock (.slice A1 n c1) ≠ some b from fun e => by have := (H2.out.1.lt b e).2; omega)
  clear hW hb H2 hQb
  by_cases k1 : k < 1
  · have k1' : ¬ (1 ≤ k) := by omega
    go_wp2_with fail
    rw [HW.out]
    go_ret
    refine ⟨_, _, rfl, ?_, H3.out.2⟩
    rw [← Hoff.out (.inl k1)]
    exact H3.out.1
  · by_cases k7 : 7 < k
    · have k1' : 1 ≤ k := by omega
      have k7' : ¬ (k ≤ 7) := by omega
      go_wp2_with fail
      rw [HW.out]
      go_ret
      refine ⟨_, _, rfl, ?_, H3.out.2⟩
      rw [← Hoff.out (.inr k7)]
      exact H3.out.1
    · obtain ⟨i, hi, hk⟩ : ∃ i : Nat, i < 7 ∧ k = ((i + 1 : Nat) : Int) := ⟨(k - 1).toNat, by omega, by omega⟩
      have HF' := Lib.hid (HF.out i hi Q A1 n c1 (sideZ s) (cntL zs))
      have Hon' := Lib.hid (Hon.out i hk)
      have Hk := Lib.hid (fun (W1 W' : World) (hW1 : Below Q w W1) (hs : Q ≤ W1.heap.size) (ho : W1.ownsRow Q 23 1 (.slice A1 n c1) n (i8s (cntL zs))) (hg : W1.grownBy W' (Value.ownBlock (.slice A1 n c1))) => hW1.grown hg hs (fun k hk => (ho.lt k hk).1))
      clear Hoff Hon HF k1 k7 HC HR HQ
      subst hk
      rcases i with _ | _ | _ | _ | _ | _ | _ | i
      · clear hi
        have hc := blk_cell HB.out 0
        have hc : W.cell? ⟨b, 0, none⟩ = some (.func (.func 29) #[] #[]) := hc
        go_wp2_with fail
        rw [HW.out, Hb.out]
        have hcD : W.drew.cell? ⟨b, 0, none⟩ = some (.func (.func 29) #[] #[]) := hc
        have HFD := Lib.hid (HF'.out W.drew H3.out.1)
        have Hcell := Lib.hid (fun (w' : World) (hg : W.drew.grownBy w' (Value.ownBlock (.slice A1 n c1))) => show w'.cell? ⟨b, 0, none⟩ = some (.func (.func 29) #[] #[]) from (hg.cell hcD (fun e => Hne.out e.symm)))
        clear hc
        have hwj : IntKind.i64.wrap (0 : Int) = (0 : Int) := by decide
        go_region_held3 (fun W' => W'.cell? ⟨b, 0, none⟩ = some (.func (.func 29) #[] #[])) (first | exact hP.out | exact hcD)
          (first | (go_at_call 23; refine (HS.out _).mono ?_; rintro _ w9 ⟨rfl, rfl⟩) | (go_at_call 29; refine HFD.out.mono ?_; rintro _ w10 ⟨rfl, h10, h11⟩; have hP := Lib.hid (Hcell.out w10 h11)))
        all_goals
          have Hn := Lib.hid (show _ ∧ _ from ⟨h10, Hk.out W.drew w10 (below_DD H3.out.2) HbW.out H3.out.1 h11⟩)
          clear h10 h11
          go_wp2_with fail
          go_ret
          refine ⟨_, _, rfl, ?_, Hn.out.2⟩
          rw [← Hon'.out]
          exact Hn.out.1
      · clear hi
        have hc := blk_cell HB.out 1
        have hc : W.cell? ⟨b, 1, none⟩ = some (.func (.func 30) #[] #[]) := hc
        go_wp2_with fail
        rw [HW.out, Hb.out]
        have hcD : W.drew.cell? ⟨b, 1, none⟩ = some (.func (.func 30) #[] #[]) := hc
        have HFD := Lib.hid (HF'.out W.drew H3.out.1)
        have Hcell := Lib.hid (fun (w' : World) (hg : W.drew.grownBy w' (Value.ownBlock (.slice A1 n c1))) => show w'.cell? ⟨b, 1, none⟩ = some (.func (.func 30) #[] #[]) from (hg.cell hcD (fun e => Hne.out e.symm)))
        clear hc
        have hwj : IntKind.i64.wrap (1 : Int) = (1 : Int) := by decide
        go_region_held3 (fun W' => W'.cell? ⟨b, 1, none⟩ = some (.func (.func 30) #[] #[])) (first | exact hP.out | exact hcD)
          (first | (go_at_call 23; refine (HS.out _).mono ?_; rintro _ w9 ⟨rfl, rfl⟩) | (go_at_call 30; refine HFD.out.mono ?_; rintro _ w10 ⟨rfl, h10, h11⟩; have hP := Lib.hid (Hcell.out w10 h11)))
        all_goals
          have Hn := Lib.hid (show _ ∧ _ from ⟨h10, Hk.out W.drew w10 (below_DD H3.out.2) HbW.out H3.out.1 h11⟩)
          clear h10 h11
          go_wp2_with fail
          go_ret
          refine ⟨_, _, rfl, ?_, Hn.out.2⟩
          rw [← Hon'.out]
          exact Hn.out.1
      · clear hi
        have hc := blk_cell HB.out 2
        have hc : W.cell? ⟨b, 2, none⟩ = some (.func (.func 31) #[] #[]) := hc
        go_wp2_with fail
        rw [HW.out, Hb.out]
        have hcD : W.drew.cell? ⟨b, 2, none⟩ = some (.func (.func 31) #[] #[]) := hc
        have HFD := Lib.hid (HF'.out W.drew H3.out.1)
        have Hcell := Lib.hid (fun (w' : World) (hg : W.drew.grownBy w' (Value.ownBlock (.slice A1 n c1))) => show w'.cell? ⟨b, 2, none⟩ = some (.func (.func 31) #[] #[]) from (hg.cell hcD (fun e => Hne.out e.symm)))
        clear hc
        have hwj : IntKind.i64.wrap (2 : Int) = (2 : Int) := by decide
        go_region_held3 (fun W' => W'.cell? ⟨b, 2, none⟩ = some (.func (.func 31) #[] #[])) (first | exact hP.out | exact hcD)
          (first | (go_at_call 23; refine (HS.out _).mono ?_; rintro _ w9 ⟨rfl, rfl⟩) | (go_at_call 31; refine HFD.out.mono ?_; rintro _ w10 ⟨rfl, h10, h11⟩; have hP := Lib.hid (Hcell.out w10 h11)))
        all_goals
          have Hn := Lib.hid (show _ ∧ _ from ⟨h10, Hk.out W.drew w10 (below_DD H3.out.2) HbW.out H3.out.1 h11⟩)
          clear h10 h11
          go_wp2_with fail
          go_ret
          refine ⟨_, _, rfl, ?_, Hn.out.2⟩
          rw [← Hon'.out]
          exact Hn.out.1
      · clear hi
        have hc := blk_cell HB.out 3
        have hc : W.cell? ⟨b, 3, none⟩ = some (.func (.func 32) #[] #[]) := hc
        go_wp2_with fail
        rw [HW.out, Hb.out]
        have hcD : W.drew.cell? ⟨b, 3, none⟩ = some (.func (.func 32) #[] #[]) := hc
        have HFD := Lib.hid (HF'.out W.drew H3.out.1)
        have Hcell := Lib.hid (fun (w' : World) (hg : W.drew.grownBy w' (Value.ownBlock (.slice A1 n c1))) => show w'.cell? ⟨b, 3, none⟩ = some (.func (.func 32) #[] #[]) from (hg.cell hcD (fun e => Hne.out e.symm)))
        clear hc
        have hwj : IntKind.i64.wrap (3 : Int) = (3 : Int) := by decide
        go_region_held3 (fun W' => W'.cell? ⟨b, 3, none⟩ = some (.func (.func 32) #[] #[])) (first | exact hP.out | exact hcD)
          (first | (go_at_call 23; refine (HS.out _).mono ?_; rintro _ w9 ⟨rfl, rfl⟩) | (go_at_call 32; refine HFD.out.mono ?_; rintro _ w10 ⟨rfl, h10, h11⟩; have hP := Lib.hid (Hcell.out w10 h11)))
        all_goals
          have Hn := Lib.hid (show _ ∧ _ from ⟨h10, Hk.out W.drew w10 (below_DD H3.out.2) HbW.out H3.out.1 h11⟩)
          clear h10 h11
          go_wp2_with fail
          go_ret
          refine ⟨_, _, rfl, ?_, Hn.out.2⟩
          rw [← Hon'.out]
          exact Hn.out.1
      · clear hi
        have hc := blk_cell HB.out 4
        have hc : W.cell? ⟨b, 4, none⟩ = some (.func (.func 33) #[] #[]) := hc
        go_wp2_with fail
        rw [HW.out, Hb.out]
        have hcD : W.drew.cell? ⟨b, 4, none⟩ = some (.func (.func 33) #[] #[]) := hc
        have HFD := Lib.hid (HF'.out W.drew H3.out.1)
        have Hcell := Lib.hid (fun (w' : World) (hg : W.drew.grownBy w' (Value.ownBlock (.slice A1 n c1))) => show w'.cell? ⟨b, 4, none⟩ = some (.func (.func 33) #[] #[]) from (hg.cell hcD (fun e => Hne.out e.symm)))
        clear hc
        have hwj : IntKind.i64.wrap (4 : Int) = (4 : Int) := by decide
        go_region_held3 (fun W' => W'.cell? ⟨b, 4, none⟩ = some (.func (.func 33) #[] #[])) (first | exact hP.out | exact hcD)
          (first | (go_at_call 23; refine (HS.out _).mono ?_; rintro _ w9 ⟨rfl, rfl⟩) | (go_at_call 33; refine HFD.out.mono ?_; rintro _ w10 ⟨rfl, h10, h11⟩; have hP := Lib.hid (Hcell.out w10 h11)))
        all_goals
          have Hn := Lib.hid (show _ ∧ _ from ⟨h10, Hk.out W.drew w10 (below_DD H3.out.2) HbW.out H3.out.1 h11⟩)
          clear h10 h11
          go_wp2_with fail
          go_ret
          refine ⟨_, _, rfl, ?_, Hn.out.2⟩
          rw [← Hon'.out]
          exact Hn.out.1
      · clear hi
        have hc := blk_cell HB.out 5
        have hc : W.cell? ⟨b, 5, none⟩ = some (.func (.func 34) #[] #[]) := hc
        go_wp2_with fail
        rw [HW.out, Hb.out]
        have hcD : W.drew.cell? ⟨b, 5, none⟩ = some (.func (.func 34) #[] #[]) := hc
        have HFD := Lib.hid (HF'.out W.drew H3.out.1)
        have Hcell := Lib.hid (fun (w' : World) (hg : W.drew.grownBy w' (Value.ownBlock (.slice A1 n c1))) => show w'.cell? ⟨b, 5, none⟩ = some (.func (.func 34) #[] #[]) from (hg.cell hcD (fun e => Hne.out e.symm)))
        clear hc
        have hwj : IntKind.i64.wrap (5 : Int) = (5 : Int) := by decide
        go_region_held3 (fun W' => W'.cell? ⟨b, 5, none⟩ = some (.func (.func 34) #[] #[])) (first | exact hP.out | exact hcD)
          (first | (go_at_call 23; refine (HS.out _).mono ?_; rintro _ w9 ⟨rfl, rfl⟩) | (go_at_call 34; refine HFD.out.mono ?_; rintro _ w10 ⟨rfl, h10, h11⟩; have hP := Lib.hid (Hcell.out w10 h11)))
        all_goals
          have Hn := Lib.hid (show _ ∧ _ from ⟨h10, Hk.out W.drew w10 (below_DD H3.out.2) HbW.out H3.out.1 h11⟩)
          clear h10 h11
          go_wp2_with fail
          go_ret
          refine ⟨_, _, rfl, ?_, Hn.out.2⟩
          rw [← Hon'.out]
          exact Hn.out.1
      · clear hi
        have hc := blk_cell HB.out 6
        have hc : W.cell? ⟨b, 6, none⟩ = some (.func (.func 35) #[] #[]) := hc
        go_wp2_with fail
        rw [HW.out, Hb.out]
        have hcD : W.drew.cell? ⟨b, 6, none⟩ = some (.func (.func 35) #[] #[]) := hc
        have HFD := Lib.hid (HF'.out W.drew H3.out.1)
        have Hcell := Lib.hid (fun (w' : World) (hg : W.drew.grownBy w' (Value.ownBlock (.slice A1 n c1))) => show w'.cell? ⟨b, 6, none⟩ = some (.func (.func 35) #[] #[]) from (hg.cell hcD (fun e => Hne.out e.symm)))
        clear hc
        have hwj : IntKind.i64.wrap (6 : Int) = (6 : Int) := by decide
        go_region_held3 (fun W' => W'.cell? ⟨b, 6, none⟩ = some (.func (.func 35) #[] #[])) (first | exact hP.out | exact hcD)
          (first | (go_at_call 23; refine (HS.out _).mono ?_; rintro _ w9 ⟨rfl, rfl⟩) | (go_at_call 35; refine HFD.out.mono ?_; rintro _ w10 ⟨rfl, h10, h11⟩; have hP := Lib.hid (Hcell.out w10 h11)))
        all_goals
          have Hn := Lib.hid (show _ ∧ _ from ⟨h10, Hk.out W.drew w10 (below_DD H3.out.2) HbW.out H3.out.1 h11⟩)
          clear h10 h11
          go_wp2_with fail
          go_ret
          refine ⟨_, _, rfl, ?_, Hn.out.2⟩
          rw [← Hon'.out]
          exact Hn.out.1
      · omega
end Go.Proofs.Ytajpkidjdebolaa
