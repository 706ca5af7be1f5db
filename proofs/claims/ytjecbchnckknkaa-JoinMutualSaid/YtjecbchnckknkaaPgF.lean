/- Layer 11, the program: Forms. (Made by tools/mkpgf.py.) -/
import Derived.Test.YtjecbchnckknkaaPgA
import Derived.Test.YtjecbchnckknkaaHyJ
import Derived.Test.YtjecbchnckknkaaScope
import Derived.Laws.MakeOwn
import Derived.Deep.RegionWith
set_option linter.unusedSimpArgs false
set_option linter.unusedVariables false
namespace Go.Proofs.Ytjecbchnckknkaa
open Go.RowKit Go.Lib

/-- what holds between two runes -/
structure FsS (w : World) (Q n : Nat) (p : List Int) (m h : Nat) (a : Int) (W : World) : Prop where
  fi : FiJ (p.map kJ) h a
  ow : W.ownsRow Q 27 1 (.slice (some ⟨Q, 0, none⟩) n n) n (i8s (formsJ 0 (p.map kJ) ++ List.replicate m 0))
  be : Below Q w W
theorem fs_mark {w W W2 : World} {Q n m h : Nat} {p : List Int} {a r : Int} (H : FsS w Q n p (m + 1) h a W) (hk : kJ r = 4) (hQ : Q ≤ W.heap.size) (hb : Below W.heap.size W W2) : FsS w Q n (p ++ [r]) m h a W2 := by
  obtain ⟨f1, f2⟩ := fi_mark H.fi
  refine ⟨by rw [List.map_append, List.map_cons, List.map_nil, hk]; exact f1, ?_, H.be.trans (hb.mono hQ)⟩
  rw [List.map_append, List.map_cons, List.map_nil, hk, f2, List.append_assoc]
  have := own_below H.ow hb
  rw [List.replicate_succ] at this
  exact this
theorem fs_next {w W2 : World} {Q n m : Nat} {p : List Int} {k r : Int} (hkr : kJ r = k) (hk : k ≠ 4) (ho : W2.ownsRow Q 27 1 (.slice (some ⟨Q, 0, none⟩) n n) n (i8s (formsJ 0 (p.map kJ ++ [k]) ++ List.replicate m 0))) (hb : Below Q w W2) : FsS w Q n (p ++ [r]) m p.length k W2 := by
  refine ⟨?_, ?_, hb⟩
  · rw [List.map_append, List.map_cons, List.map_nil, hkr]
    have := fi_next (p.map kJ) hk
    rw [List.length_map] at this
    exact this
  · rw [List.map_append, List.map_cons, List.map_nil, hkr]; exact ho
set_option maxRecDepth 100000 in
set_option maxHeartbeats 8000000 in
theorem forms_anyJ (A : Option Addr) (n c : Nat) (xs : List Int) (w : World) (hr : RdJ w A n xs) (hn : n ≤ 35184372087808) :
    Calls Try.prog 12 #[.slice A n c] w (FmR w (formsJ 0 (xs.map kJ))) := by
  obtain ⟨i0, hi, hz0, hz1, hz2⟩ := info_parts i8_infoJ
  have hxl := hr.len
  obtain ⟨W0, hrun, hown0, hg0⟩ := run_make_full (P := Try.prog) w w.heap.size 23 27 i0 _ 1 Try.underlying23 hi hz0 hz1 .i64 .i64 n (by rw [hz2]; omega) (by unfold maxLen; omega) (Nat.le_refl _)
  have hz : (madeCells (Value.int .i8 0).cells (n * 1)).toList = i8s (List.replicate n 0) := by
    rw [Nat.mul_one]
    show (madeCells #[Value.int .i8 0] n).toList = _
    rw [toList_madeCells_one]
    simp [i8s]
  rw [hz] at hown0
  clear hz
  obtain ⟨Q, hQ⟩ : ∃ Q, w.heap.size = Q := ⟨_, rfl⟩
  rw [hQ] at hrun hown0
  have hb0 : Below Q w W0 := (Below.refl Q w).grown hg0 (by omega) (fun k hk => by cases hk)
  have Hrd := Lib.hid (show ∀ W, Below Q w W → RdJ W A n xs from fun W hb => hr.below (by rw [hQ]; exact hb))
  have H0 := Lib.hid (show FsS w Q n [] n 0 0 W0 from ⟨fi_nil, hown0, hb0⟩)
  have HQ := Lib.hid (show ∀ W, Below Q w W → Q ≤ W.heap.size from fun W hb => by have := hb.size; omega)
  obtain ⟨R, hR⟩ : ∃ R, FmR w (formsJ 0 (xs.map kJ)) = R := ⟨_, rfl⟩
  have HR := Lib.hid (show ∀ W, W.ownsRow Q 27 1 (.slice (some ⟨Q, 0, none⟩) n n) n (i8s (formsJ 0 (xs.map kJ))) → Below Q w W → R (.returned (.slice (some ⟨Q, 0, none⟩) n n)) W from fun W ho hb => by
    rw [← hR]
    have hl : (formsJ 0 (xs.map kJ)).length = n := by rw [formsJ_len, List.length_map, hxl]
    exact ⟨Q, _, _, by omega, by rw [hl], by rw [hl]; exact ho, by rw [hQ]; exact hb⟩)
  rw [hR]
  have HJ := Lib.hid (show ∀ x W, Calls Try.prog 26 #[.int .i32 x] W fun e w' => e = .returned (.int .i8 (kJ x)) ∧ Below W.heap.size W w' from fun x W => Join_any x W)
  have HL := Lib.hid isLetter_anyJ
  have HB := Lib.hid reachesBehind_anyJ
  have HA := Lib.hid reachesAhead_anyJ
  have HD := Lib.hid joinedBehind_anyJ
  clear hr hown0 hg0 hb0 hQ hR
  go_enter Try.func12, Try.ntmps12
  go_wp2_with fail
  refine scope_found (fun _ _ _ => False) (fun _ _ _ => 0) (fun _ _ _ h => h.elim) ?first (fun _ _ _ _ h _ => h.elim)
  case first =>
  go_wp2_with fail
  go_step3
  go_wp2_with fail
  go_loopw [4, 5, 14] (fun yh ya x wr => ∃ (p t : List Int) (h : Nat) (a : Int) (W : World), W = wr ∧ Hid (xs = p ++ t) ∧ yh = .int .i64 (h : Int) ∧ ya = .int .i8 a ∧ x = .int .i64 (p.length : Int) ∧ Hid (FsS w Q n p t.length h a W)) (fun _ _ x _ => n - (RowKit.intOf x).toNat)
  case atStart => exact ⟨[], xs, 0, 0, _, rfl, Lib.hid rfl, rfl, rfl, rfl, by rw [hxl]; exact H0⟩
  case round =>
    obtain ⟨p, t, h, a, W, hW, hx, rfl, rfl, rfl, HI⟩ := hrel
    subst hW
    have hlen := congrArg List.length hx.out
    rw [hxl, List.length_append] at hlen
    rcases t with _ | ⟨r, t⟩
    · have hpl : p.length = n := by simpa using hlen.symm
      rw [hpl]
      have hnn : ¬ (n : Int) < (n : Int) := by omega
      have HE := Lib.hid (show R (.returned (.slice (some ⟨Q, 0, none⟩) n n)) W from HR.out W (by
        have h1 := HI.out.ow
        have h2 := hx.out
        rw [List.append_nil] at h2
        rw [h2]
        simpa using h1) HI.out.be)
      clear hlen hpl HI hx H0
      go_wp2_with fail
      exact HE.out
    · rw [List.length_cons] at hlen HI
      have hri : xs[p.length]? = some r := by rw [hx.out]; simp
      obtain ⟨ar, hA, _, harb, hcr⟩ := (Hrd.out W HI.out.be).at hri
      subst hA
      obtain ⟨i, hi'⟩ : ∃ i, p.length = i := ⟨_, rfl⟩
      have hini : (i : Int) < (n : Int) := by omega
      have hi0 : (0 : Int) ≤ (i : Int) := by omega
      have hnext : IntKind.i64.wrap ((i : Int) + 1) = (i : Int) + 1 := IntWalk.i64_in _ (by omega)
      have Hx := Lib.hid (show xs = (p ++ [r]) ++ t by rw [hx.out]; simp)
      have hsnoc : (((p ++ [r]).length : Nat) : Int) = (i : Int) + 1 := by simp; omega
      have HQW := Lib.hid (HQ.out W HI.out.be)
      obtain ⟨k, hk⟩ : ∃ k, kJ r = k := ⟨_, rfl⟩
      have HJr := Lib.hid (HJ.out r W)
      rw [hk] at HJr
      have Hk := Lib.hid hk
      have Hp := Lib.hid hi'
      obtain ⟨m, hm⟩ : ∃ m, t.length = m := ⟨_, rfl⟩
      have Hm := Lib.hid hm
      rw [hi'] at hcr ⊢
      rw [hm] at HI hlen
      have hin : i + m + 1 = n := by omega
      clear hri hk hi' hm hx hlen H0
      go_wp2_with fail
      refine HJr.out.mono ?_
      rintro _ w2 ⟨rfl, hb2⟩
      by_cases k4 : k = 4
      · subst k4
        have HN := Lib.hid (fs_mark HI.out Hk.out HQW.out hb2)
        clear HI HJr hb2
        go_wp2_with fail
        go_roundw
        case rel => exact ⟨p ++ [r], t, h, a, _, rfl, Hx, rfl, rfl, by rw [hsnoc], by rw [Hm.out]; exact HN⟩
        case measure => simp [RowKit.intOf]; omega
      have b4 : (k == 4) = false := by simpa using k4
      have hrow := own_below HI.out.ow hb2
      rw [List.replicate_succ] at hrow
      have hbw : Below Q w w2 := HI.out.be.trans (hb2.mono HQW.out)
      have Hfi := Lib.hid HI.out.fi
      obtain ⟨F, hF⟩ : ∃ F, formsJ 0 (p.map kJ) = F := ⟨_, rfl⟩
      have hFl : F.length = i := by rw [← hF, formsJ_len, List.length_map]; exact Hp.out
      rw [hF] at hrow
      have HF := Lib.hid hF
      obtain ⟨g, hg, _, _, _, hcl, hfz, hset⟩ := row_at hrow
      injection hg with hg
      injection hg with hg
      subst hg
      rw [hFl] at hcl hfz hset
      have HN := Lib.hid (show ∀ W2, W2.ownsRow Q 27 1 (.slice (some ⟨Q, 0, none⟩) n n) n (i8s (formsJ 0 (p.map kJ ++ [k]) ++ List.replicate m 0)) → Below Q w W2 → FsS w Q n (p ++ [r]) t.length i k W2 from fun W2 h1 h2 => by
        rw [Hm.out, ← Hp.out]; exact fs_next Hk.out k4 h1 h2)
      have HK := Lib.hid k4
      have HRow := Lib.hid hrow
      have Hset := Lib.hid hset
      have Hbw := Lib.hid hbw
      have HLk := Lib.hid (fun W => HL.out k W)
      have HBa := Lib.hid (fun W => HB.out a W)
      have HAk := Lib.hid (fun W => HA.out k W)
      clear hF hrow hset hbw hb2 HI HJr k4
      by_cases k1 : k = 1
      · subst k1
        by_cases a2 : a = 2
        · subst a2
          obtain ⟨P, x, S, hPF, hPl, hhi, hx03, hPT⟩ := fi_both Hfi.out HK.out (by simp [behindJ])
          rw [HF.out] at hPF
          rw [List.length_map, Hp.out] at hhi
          subst hPF
          have hrow3 := (Hset.out 3).1
          rw [List.append_assoc, List.cons_append] at hrow3
          obtain ⟨g3, hg3, _, _, _, hcell3, hfz3, hset3⟩ := row_at hrow3
          injection hg3 with hg3
          injection hg3 with hg3
          subst hg3
          rw [hPl] at hcell3 hfz3 hset3
          have hh : (h : Int) < (n : Int) := by omega
          have hh0 : (0 : Int) ≤ (h : Int) := by omega
          have HDx := Lib.hid (fun W => HD.out x W)
          obtain ⟨y, hy⟩ : ∃ y : Int, (if x = 3 then 2 else 1) = y := ⟨_, rfl⟩
          rw [hy] at HDx hPT
          have HT := Lib.hid (show formsJ 0 (p.map kJ ++ [1]) = P ++ y :: (S ++ [3]) by rw [hPT]; simp [formJ, aheadJ, behindJ])
          have HE := Lib.hid (HN.out _ (by rw [HT.out, List.append_assoc, List.cons_append, List.append_assoc]; exact (hset3 y).1) ((Hbw.out.setCell (p := ⟨Q, i, none⟩) (Nat.le_refl _) (.int .i8 3)).setCell (p := ⟨Q, h, none⟩) (Nat.le_refl _) (.int .i8 y)))
          clear HT Hset HRow HN hrow3 hset3 hPT hx03 hy hPl HF
          go_wp2_with fail
          refine (HLk.out _).mono ?_
          rintro _ w9 ⟨rfl, h9⟩
          obtain rfl := h9.symm
          go_wp2_with fail
          refine (HBa.out _).mono ?_
          rintro _ w9 ⟨rfl, h9⟩
          obtain rfl := h9.symm
          go_wp2_with fail
          refine (HAk.out _).mono ?_
          rintro _ w9 ⟨rfl, h9⟩
          obtain rfl := h9.symm
          go_wp2_with fail
          refine (HDx.out _).mono ?_
          rintro _ w9 ⟨rfl, h9⟩
          obtain rfl := h9.symm
          go_wp2_with fail
          go_roundw
          case rel => exact ⟨p ++ [r], t, i, 1, _, rfl, Hx, rfl, rfl, by rw [hsnoc], HE⟩
          case measure => simp [RowKit.intOf]; omega
        have ab2 : (a == 2) = false := by simpa using a2
        by_cases a3 : a = 3
        · subst a3
          have HT := Lib.hid (show formsJ 0 (p.map kJ ++ [1]) = F ++ [3] by rw [fi_lone Hfi.out HK.out (by simp [behindJ]), HF.out]; simp [formJ, aheadJ, behindJ])
          have HE := Lib.hid (HN.out _ (by rw [HT.out, List.append_assoc]; exact (Hset.out 3).1) (Hbw.out.setCell (p := ⟨Q, i, none⟩) (Nat.le_refl _) (.int .i8 3)))
          clear HT Hset HRow HN
          clear a2
          go_wp2_with fail
          refine (HLk.out _).mono ?_
          rintro _ w9 ⟨rfl, h9⟩
          obtain rfl := h9.symm
          go_wp2_with fail
          refine (HBa.out _).mono ?_
          rintro _ w9 ⟨rfl, h9⟩
          obtain rfl := h9.symm
          go_wp2_with fail
          go_roundw
          case rel => exact ⟨p ++ [r], t, i, 1, _, rfl, Hx, rfl, rfl, by rw [hsnoc], HE⟩
          case measure => simp [RowKit.intOf]; omega
        have ab3 : (a == 3) = false := by simpa using a3
        rw [ab2, ab3] at HBa
        have HT := Lib.hid (show formsJ 0 (p.map kJ ++ [1]) = F ++ [0] by rw [fi_lone Hfi.out HK.out (by simp [behindJ, a2, a3]), HF.out]; simp [formJ, aheadJ, behindJ, a2, a3])
        have HE := Lib.hid (HN.out _ (by rw [HT.out, List.append_assoc]; exact HRow.out) Hbw.out)
        clear HT Hset HRow HN
        clear a2 a3
        go_wp2_with fail
        refine (HLk.out _).mono ?_
        rintro _ w9 ⟨rfl, h9⟩
        obtain rfl := h9.symm
        go_wp2_with fail
        refine (HBa.out _).mono ?_
        rintro _ w9 ⟨rfl, h9⟩
        obtain rfl := h9.symm
        go_wp2_with fail
        go_roundw
        case rel => exact ⟨p ++ [r], t, i, 1, _, rfl, Hx, rfl, rfl, by rw [hsnoc], HE⟩
        case measure => simp [RowKit.intOf]; omega
      have kb1 : (k == 1) = false := by simpa using k1
      by_cases k2 : k = 2
      · subst k2
        by_cases a2 : a = 2
        · subst a2
          obtain ⟨P, x, S, hPF, hPl, hhi, hx03, hPT⟩ := fi_both Hfi.out HK.out (by simp [behindJ])
          rw [HF.out] at hPF
          rw [List.length_map, Hp.out] at hhi
          subst hPF
          have hrow3 := (Hset.out 3).1
          rw [List.append_assoc, List.cons_append] at hrow3
          obtain ⟨g3, hg3, _, _, _, hcell3, hfz3, hset3⟩ := row_at hrow3
          injection hg3 with hg3
          injection hg3 with hg3
          subst hg3
          rw [hPl] at hcell3 hfz3 hset3
          have hh : (h : Int) < (n : Int) := by omega
          have hh0 : (0 : Int) ≤ (h : Int) := by omega
          have HDx := Lib.hid (fun W => HD.out x W)
          obtain ⟨y, hy⟩ : ∃ y : Int, (if x = 3 then 2 else 1) = y := ⟨_, rfl⟩
          rw [hy] at HDx hPT
          have HT := Lib.hid (show formsJ 0 (p.map kJ ++ [2]) = P ++ y :: (S ++ [3]) by rw [hPT]; simp [formJ, aheadJ, behindJ])
          have HE := Lib.hid (HN.out _ (by rw [HT.out, List.append_assoc, List.cons_append, List.append_assoc]; exact (hset3 y).1) ((Hbw.out.setCell (p := ⟨Q, i, none⟩) (Nat.le_refl _) (.int .i8 3)).setCell (p := ⟨Q, h, none⟩) (Nat.le_refl _) (.int .i8 y)))
          clear HT Hset HRow HN hrow3 hset3 hPT hx03 hy hPl HF
          go_wp2_with fail
          refine (HLk.out _).mono ?_
          rintro _ w9 ⟨rfl, h9⟩
          obtain rfl := h9.symm
          go_wp2_with fail
          refine (HBa.out _).mono ?_
          rintro _ w9 ⟨rfl, h9⟩
          obtain rfl := h9.symm
          go_wp2_with fail
          refine (HAk.out _).mono ?_
          rintro _ w9 ⟨rfl, h9⟩
          obtain rfl := h9.symm
          go_wp2_with fail
          refine (HDx.out _).mono ?_
          rintro _ w9 ⟨rfl, h9⟩
          obtain rfl := h9.symm
          go_wp2_with fail
          go_roundw
          case rel => exact ⟨p ++ [r], t, i, 2, _, rfl, Hx, rfl, rfl, by rw [hsnoc], HE⟩
          case measure => simp [RowKit.intOf]; omega
        have ab2 : (a == 2) = false := by simpa using a2
        by_cases a3 : a = 3
        · subst a3
          have HT := Lib.hid (show formsJ 0 (p.map kJ ++ [2]) = F ++ [3] by rw [fi_lone Hfi.out HK.out (by simp [behindJ]), HF.out]; simp [formJ, aheadJ, behindJ])
          have HE := Lib.hid (HN.out _ (by rw [HT.out, List.append_assoc]; exact (Hset.out 3).1) (Hbw.out.setCell (p := ⟨Q, i, none⟩) (Nat.le_refl _) (.int .i8 3)))
          clear HT Hset HRow HN
          clear a2
          go_wp2_with fail
          refine (HLk.out _).mono ?_
          rintro _ w9 ⟨rfl, h9⟩
          obtain rfl := h9.symm
          go_wp2_with fail
          refine (HBa.out _).mono ?_
          rintro _ w9 ⟨rfl, h9⟩
          obtain rfl := h9.symm
          go_wp2_with fail
          go_roundw
          case rel => exact ⟨p ++ [r], t, i, 2, _, rfl, Hx, rfl, rfl, by rw [hsnoc], HE⟩
          case measure => simp [RowKit.intOf]; omega
        have ab3 : (a == 3) = false := by simpa using a3
        rw [ab2, ab3] at HBa
        have HT := Lib.hid (show formsJ 0 (p.map kJ ++ [2]) = F ++ [0] by rw [fi_lone Hfi.out HK.out (by simp [behindJ, a2, a3]), HF.out]; simp [formJ, aheadJ, behindJ, a2, a3])
        have HE := Lib.hid (HN.out _ (by rw [HT.out, List.append_assoc]; exact HRow.out) Hbw.out)
        clear HT Hset HRow HN
        clear a2 a3
        go_wp2_with fail
        refine (HLk.out _).mono ?_
        rintro _ w9 ⟨rfl, h9⟩
        obtain rfl := h9.symm
        go_wp2_with fail
        refine (HBa.out _).mono ?_
        rintro _ w9 ⟨rfl, h9⟩
        obtain rfl := h9.symm
        go_wp2_with fail
        go_roundw
        case rel => exact ⟨p ++ [r], t, i, 2, _, rfl, Hx, rfl, rfl, by rw [hsnoc], HE⟩
        case measure => simp [RowKit.intOf]; omega
      have kb2 : (k == 2) = false := by simpa using k2
      by_cases k3 : k = 3
      · subst k3
        by_cases a2 : a = 2
        · subst a2
          obtain ⟨P, x, S, hPF, hPl, hhi, hx03, hPT⟩ := fi_both Hfi.out HK.out (by simp [behindJ])
          rw [HF.out] at hPF
          rw [List.length_map, Hp.out] at hhi
          subst hPF
          have hrow3 := HRow.out
          rw [List.append_assoc, List.cons_append] at hrow3
          obtain ⟨g3, hg3, _, _, _, hcell3, hfz3, hset3⟩ := row_at hrow3
          injection hg3 with hg3
          injection hg3 with hg3
          subst hg3
          rw [hPl] at hcell3 hfz3 hset3
          have hh : (h : Int) < (n : Int) := by omega
          have hh0 : (0 : Int) ≤ (h : Int) := by omega
          have HDx := Lib.hid (fun W => HD.out x W)
          obtain ⟨y, hy⟩ : ∃ y : Int, (if x = 3 then 2 else 1) = y := ⟨_, rfl⟩
          rw [hy] at HDx hPT
          have HT := Lib.hid (show formsJ 0 (p.map kJ ++ [3]) = P ++ y :: (S ++ [0]) by rw [hPT]; simp [formJ, aheadJ, behindJ])
          have HE := Lib.hid (HN.out _ (by rw [HT.out, List.append_assoc, List.cons_append, List.append_assoc]; exact (hset3 y).1) (Hbw.out.setCell (p := ⟨Q, h, none⟩) (Nat.le_refl _) (.int .i8 y)))
          clear HT Hset HRow HN hrow3 hset3 hPT hx03 hy hPl HF
          clear k1 k2
          go_wp2_with fail
          refine (HLk.out _).mono ?_
          rintro _ w9 ⟨rfl, h9⟩
          obtain rfl := h9.symm
          go_wp2_with fail
          refine (HAk.out _).mono ?_
          rintro _ w9 ⟨rfl, h9⟩
          obtain rfl := h9.symm
          go_wp2_with fail
          refine (HDx.out _).mono ?_
          rintro _ w9 ⟨rfl, h9⟩
          obtain rfl := h9.symm
          go_wp2_with fail
          go_roundw
          case rel => exact ⟨p ++ [r], t, i, 3, _, rfl, Hx, rfl, rfl, by rw [hsnoc], HE⟩
          case measure => simp [RowKit.intOf]; omega
        have ab2 : (a == 2) = false := by simpa using a2
        have HT := Lib.hid (show formsJ 0 (p.map kJ ++ [3]) = F ++ [0] by rw [fi_lone Hfi.out HK.out (by simp [behindJ, a2]), HF.out]; simp [formJ, aheadJ, behindJ, a2])
        have HE := Lib.hid (HN.out _ (by rw [HT.out, List.append_assoc]; exact HRow.out) Hbw.out)
        clear HT Hset HRow HN
        clear a2 k1 k2
        go_wp2_with fail
        refine (HLk.out _).mono ?_
        rintro _ w9 ⟨rfl, h9⟩
        obtain rfl := h9.symm
        go_wp2_with fail
        go_roundw
        case rel => exact ⟨p ++ [r], t, i, 3, _, rfl, Hx, rfl, rfl, by rw [hsnoc], HE⟩
        case measure => simp [RowKit.intOf]; omega
      have kb3 : (k == 3) = false := by simpa using k3
      rw [kb1, kb2] at HLk
      rw [kb1, kb2, kb3] at HAk
      by_cases a2 : a = 2
      · subst a2
        have HT := Lib.hid (show formsJ 0 (p.map kJ ++ [k]) = F ++ [0] by rw [fi_lone Hfi.out HK.out (by simp [behindJ, k1, k2, k3]), HF.out]; simp [formJ, aheadJ, behindJ, k1, k2, k3])
        have HE := Lib.hid (HN.out _ (by rw [HT.out, List.append_assoc]; exact HRow.out) Hbw.out)
        clear HT Hset HRow HN
        clear k1 k2 k3
        go_wp2_with fail
        refine (HLk.out _).mono ?_
        rintro _ w9 ⟨rfl, h9⟩
        obtain rfl := h9.symm
        go_wp2_with fail
        refine (HAk.out _).mono ?_
        rintro _ w9 ⟨rfl, h9⟩
        obtain rfl := h9.symm
        go_wp2_with fail
        go_roundw
        case rel => exact ⟨p ++ [r], t, i, k, _, rfl, Hx, rfl, rfl, by rw [hsnoc], HE⟩
        case measure => simp [RowKit.intOf]; omega
      have ab2 : (a == 2) = false := by simpa using a2
      have HT := Lib.hid (show formsJ 0 (p.map kJ ++ [k]) = F ++ [0] by rw [fi_lone Hfi.out HK.out (by simp [behindJ, k1, k2, k3, a2]), HF.out]; simp [formJ, aheadJ, behindJ, k1, k2, k3, a2])
      have HE := Lib.hid (HN.out _ (by rw [HT.out, List.append_assoc]; exact HRow.out) Hbw.out)
      clear HT Hset HRow HN
      clear k1 k2 k3 a2
      go_wp2_with fail
      refine (HLk.out _).mono ?_
      rintro _ w9 ⟨rfl, h9⟩
      obtain rfl := h9.symm
      go_wp2_with fail
      go_roundw
      case rel => exact ⟨p ++ [r], t, i, k, _, rfl, Hx, rfl, rfl, by rw [hsnoc], HE⟩
      case measure => simp [RowKit.intOf]; omega
end Go.Proofs.Ytjecbchnckknkaa
