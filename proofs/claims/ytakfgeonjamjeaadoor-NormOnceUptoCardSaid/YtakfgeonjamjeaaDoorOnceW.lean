/- NormOnce, walked. (Made by tools/mkonce.py.) -/
import Derived.Test.YtakfgeonjamjeaaDoorBytesN
import Derived.Test.YtakfgeonjamjeaaDoorAlikeW
namespace Go.Proofs.YtakfgeonjamjeaaDoor
open Go.RowKit Go.Lib

theorem below_Do {B : Nat} {w w' : World} (h : Below B w w') : Below B w w'.drew := ⟨h.os, h.tape, h.output, h.size, h.block⟩
theorem Rd_cellO {w : World} {B n : Nat} {A : Option Addr} {xs : List Int} (h : Rd w B 1 A n (runes xs)) {k : Nat} {x : Int} (hx : xs[k]? = some x) : ∃ a, A = some a ∧ a.block < B ∧ w.cell? (a.add k) = some (.int .i32 x) := by
  have hk : k < (runes xs).length := by simpa using (List.getElem?_eq_some_iff.1 hx).1
  obtain ⟨a, ha, hb, hc⟩ := h.at_ hk
  refine ⟨a, ha, hb, ?_⟩
  rw [hc]
  have := (List.getElem?_eq_some_iff.1 hx).2
  simp [this]
theorem runesN_any (l : List UInt8) (w : World) (hs : l.length ≤ 1073741824) : Calls Tryd.prog 29 #[.string ⟨l.toArray⟩] w fun e w' =>
    ∃ v, e = .returned v ∧ w'.ownsRow w.heap.size 21 1 v (runesOf l).length (runes ((runesOf l).map fun (r : Nat) => (r : Int))) ∧ Below w.heap.size w w' := by
  have h1 : (runesOf l).length ≤ 70368744177664 := by
    have := segs_len l
    unfold runesOf
    rw [List.length_map]
    omega
  have h := runes_any ⟨l.toArray⟩ w h1
  have e : runeCells' (runesOf l) = runes ((runesOf l).map fun (r : Nat) => (r : Int)) := by simp [runeCells', runes]
  rw [show (ByteArray.mk l.toArray).data.toList = l from rfl, e] at h
  exact h
theorem apartS_len (l : List UInt8) : (apartS l).length ≤ 16 * l.length := by
  unfold apartS
  have h1 := textP_le (apartP l)
  have h2 := apartP_len l
  omega
theorem togS_len (l : List UInt8) : (togS l).length ≤ 16 * l.length := by
  unfold togS
  have h1 := textP_le (togF (apartP l)).1
  have h2 := (togF_ok (apartP l) (apartP_ok l)).2
  have h3 := apartP_len l
  omega

set_option maxRecDepth 100000 in
set_option maxHeartbeats 8000000 in
theorem once_any (s : ByteArray) (w : World) (hs : s.size ≤ 2097152) (hT : Utf8Tabs 0 1 w) :
    Calls Tryd.prog 8 #[.string s] w fun e w' => e = .returned (.bool true) ∧ Below w.heap.size w w' := by
  have HPs := Lib.hid (fun w hT => Apart_any s w (by omega) hT)
  have HTs := Lib.hid (fun w hT => Together_any s w (by omega) hT)
  have hla := apartS_len s.data.toList
  have hlt := togS_len s.data.toList
  rw [size_list] at hla hlt
  have e1 := apartS_twice s.data.toList
  have e2 := apartS_tog s.data.toList
  have e3 := togS_tog s.data.toList
  have e4 := togS_apart s.data.toList
  have e5 := bad_apart s.data.toList
  have e6 := bad_tog s.data.toList
  have hsp := apartR_split s.data.toList
  have hasc := apartR_asc s.data.toList
  have hrl : (apartR s.data.toList).length ≤ 1073741824 := by
    unfold apartR
    rw [List.length_map]
    have := segs_len (apartS s.data.toList)
    unfold runesOf
    rw [List.length_map]
    omega
  have hRn := fun w => runesN_any (apartS s.data.toList) w (by omega)
  unfold apartR at hsp hasc hrl
  have hS1 : sameZ s.data.toList (togS s.data.toList) = true := decide_eq_true e2.symm
  have hS2 : sameZ s.data.toList (apartS s.data.toList) = true := decide_eq_true e1.symm
  have hS3 : sameZ (apartS s.data.toList) (togS s.data.toList) = true := decide_eq_true (e1.trans e2.symm)
  obtain ⟨A0, hA0⟩ : ∃ A0, apartS s.data.toList = A0 := ⟨_, rfl⟩
  obtain ⟨T0, hT0⟩ : ∃ T0, togS s.data.toList = T0 := ⟨_, rfl⟩
  rw [hA0] at HPs hla e1 e2 e4 e5 hsp hasc hrl hRn hS2 hS3
  rw [hT0] at HTs hlt e2 e3 e4 e6 hS1 hS3
  have sA : (ByteArray.mk A0.toArray).size ≤ 67108864 := by rw [← size_list]; simp; omega
  have sT : (ByteArray.mk T0.toArray).size ≤ 67108864 := by rw [← size_list]; simp; omega
  have HPA := Lib.hid (fun w hT => by have h := Apart_any ⟨A0.toArray⟩ w (by omega) hT; rw [show (ByteArray.mk A0.toArray).data.toList = A0 from rfl, e1] at h; exact h)
  have HTT := Lib.hid (fun w hT => by have h := Together_any ⟨T0.toArray⟩ w (by omega) hT; rw [show (ByteArray.mk T0.toArray).data.toList = T0 from rfl, e3] at h; exact h)
  have HPT := Lib.hid (fun w hT => by have h := Apart_any ⟨T0.toArray⟩ w (by omega) hT; rw [show (ByteArray.mk T0.toArray).data.toList = T0 from rfl, e2] at h; exact h)
  have HTA := Lib.hid (fun w hT => by have h := Together_any ⟨A0.toArray⟩ w (by omega) hT; rw [show (ByteArray.mk A0.toArray).data.toList = A0 from rfl, e4] at h; exact h)
  have HBs := Lib.hid (fun w => lawBytes_any s w (by omega))
  have HBA := Lib.hid (fun w => by have h := lawBytes_any ⟨A0.toArray⟩ w (by omega); rw [show (ByteArray.mk A0.toArray).data.toList = A0 from rfl, e5] at h; exact h)
  have HBT := Lib.hid (fun w => by have h := lawBytes_any ⟨T0.toArray⟩ w (by omega); rw [show (ByteArray.mk T0.toArray).data.toList = T0 from rfl, e6] at h; exact h)
  have HS1 := Lib.hid (fun w hT => by have h := NSame_any s ⟨T0.toArray⟩ w (by omega) (by omega) hT; rw [show (ByteArray.mk T0.toArray).data.toList = T0 from rfl, hS1] at h; exact h)
  have HS2 := Lib.hid (fun w hT => by have h := NSame_any s ⟨A0.toArray⟩ w (by omega) (by omega) hT; rw [show (ByteArray.mk A0.toArray).data.toList = A0 from rfl, hS2] at h; exact h)
  have HS3 := Lib.hid (fun w hT => by have h := NSame_any ⟨A0.toArray⟩ ⟨T0.toArray⟩ w (by omega) (by omega) hT; rw [show (ByteArray.mk A0.toArray).data.toList = A0 from rfl, show (ByteArray.mk T0.toArray).data.toList = T0 from rfl, hS3] at h; exact h)
  obtain ⟨bb, hbb⟩ : ∃ bb, badB2 s.data.toList = bb := ⟨_, rfl⟩
  rw [hbb] at HBs HBA HBT
  obtain ⟨xs, hxs⟩ : ∃ xs, (runesOf A0).map (fun (r : Nat) => (r : Int)) = xs := ⟨_, rfl⟩
  have hxl : xs.length = (runesOf A0).length := by rw [← hxs, List.length_map]
  obtain ⟨n, hn⟩ : ∃ n, (runesOf A0).length = n := ⟨_, rfl⟩
  rw [hxs, hn] at hRn
  rw [hxs] at hsp hasc hrl
  rw [hn] at hxl
  have HRn := Lib.hid hRn
  have Hsp := Lib.hid hsp
  have Hasc := Lib.hid hasc
  have Hxl := Lib.hid hxl
  have hnm : n ≤ 1073741824 := by omega
  have HT := Lib.hid hT
  obtain ⟨A1, hA1⟩ : ∃ A1 : ByteArray, ⟨A0.toArray⟩ = A1 := ⟨_, rfl⟩
  obtain ⟨T1, hT1⟩ : ∃ T1 : ByteArray, ⟨T0.toArray⟩ = T1 := ⟨_, rfl⟩
  obtain ⟨B1, hB1⟩ : ∃ B1 : ByteArray, ⟨bb.toArray⟩ = B1 := ⟨_, rfl⟩
  simp only [hA1] at HPs HPA HPT HTA HBA HS2 HS3 HRn
  simp only [hT1] at HTs HTT HPT HTA HBT HS1 HS3
  simp only [hB1] at HBs HBA HBT
  clear hRn hsp hasc hxl hrl hT hA0 hT0 hbb hxs hn hA1 hT1 hB1 e1 e2 e3 e4 e5 e6 hS1 hS2 hS3 sA sT hla hlt
  have Hb0 := Lib.hid (Below.refl w.heap.size w)
  go_enter Tryd.func8, Tryd.ntmps8
  go_wp2_with fail
  refine (HPs.out w HT.out).mono ?_
  rintro _ w1 ⟨rfl, b1⟩
  have Hb1 := Lib.hid (Hb0.out.trans (b1.mono Hb0.out.size))
  have HT1 := Lib.hid (Utf8Tabs_below HT.out Hb1.out)
  clear b1
  go_wp2_with fail
  refine (HTs.out w1 HT1.out).mono ?_
  rintro _ w2 ⟨rfl, b2⟩
  have Hb2 := Lib.hid (Hb1.out.trans (b2.mono Hb1.out.size))
  have HT2 := Lib.hid (Utf8Tabs_below HT.out Hb2.out)
  clear b2
  go_wp2_with fail
  refine (HPA.out w2 HT2.out).mono ?_
  rintro _ w3 ⟨rfl, b3⟩
  have Hb3 := Lib.hid (Hb2.out.trans (b3.mono Hb2.out.size))
  have HT3 := Lib.hid (Utf8Tabs_below HT.out Hb3.out)
  clear b3
  go_wp2_with fail
  refine (HTT.out w3 HT3.out).mono ?_
  rintro _ w4 ⟨rfl, b4⟩
  have Hb4 := Lib.hid (Hb3.out.trans (b4.mono Hb3.out.size))
  have HT4 := Lib.hid (Utf8Tabs_below HT.out Hb4.out)
  clear b4
  go_wp2_with fail
  refine (HPT.out w4 HT4.out).mono ?_
  rintro _ w5 ⟨rfl, b5⟩
  have Hb5 := Lib.hid (Hb4.out.trans (b5.mono Hb4.out.size))
  have HT5 := Lib.hid (Utf8Tabs_below HT.out Hb5.out)
  clear b5
  go_wp2_with fail
  refine (HTA.out w5 HT5.out).mono ?_
  rintro _ w6 ⟨rfl, b6⟩
  have Hb6 := Lib.hid (Hb5.out.trans (b6.mono Hb5.out.size))
  have HT6 := Lib.hid (Utf8Tabs_below HT.out Hb6.out)
  clear b6
  go_wp2_with fail
  refine (HBA.out w6).mono ?_
  rintro _ w7 ⟨rfl, b7⟩
  have Hb7 := Lib.hid (Hb6.out.trans (b7.mono Hb6.out.size))
  have HT7 := Lib.hid (Utf8Tabs_below HT.out Hb7.out)
  clear b7
  go_wp2_with fail
  refine (HBs.out w7).mono ?_
  rintro _ w8 ⟨rfl, b8⟩
  have Hb8 := Lib.hid (Hb7.out.trans (b8.mono Hb7.out.size))
  have HT8 := Lib.hid (Utf8Tabs_below HT.out Hb8.out)
  clear b8
  go_wp2_with fail
  refine (HBT.out w8).mono ?_
  rintro _ w9 ⟨rfl, b9⟩
  have Hb9 := Lib.hid (Hb8.out.trans (b9.mono Hb8.out.size))
  have HT9 := Lib.hid (Utf8Tabs_below HT.out Hb9.out)
  clear b9
  go_wp2_with fail
  refine (HBs.out w9).mono ?_
  rintro _ w10 ⟨rfl, b10⟩
  have Hb10 := Lib.hid (Hb9.out.trans (b10.mono Hb9.out.size))
  have HT10 := Lib.hid (Utf8Tabs_below HT.out Hb10.out)
  clear b10
  go_wp2_with fail
  refine (HRn.out w10).mono ?_
  rintro _ wa ⟨v0, rfl, hown0, b0⟩
  obtain ⟨Ar, cr, rfl, _, _⟩ := own_shape hown0
  have Rr := Lib.hid (Rd.own hown0)
  have Hba := Lib.hid (Hb10.out.trans (b0.mono Hb10.out.size))
  clear hown0 b0
  go_wp2_with fail
  go_loopw [6, 7] (fun i _ wr => ∃ k : Nat, k ≤ n ∧ i = .int .i64 k ∧ Hid (Below wa.heap.size wa wr)) (fun i _ _ => n - (RowKit.intOf i).toNat)
  case atStart => exact ⟨0, Nat.zero_le _, rfl, Lib.hid (Below.refl _ _)⟩
  case round =>
    obtain ⟨k, hk, rfl, Hbr⟩ := hrel
    by_cases hkn : k < n
    · obtain ⟨x, hx⟩ : ∃ x, xs[k]? = some x := ⟨_, List.getElem?_eq_getElem (by rw [Hxl.out]; exact hkn)⟩
      obtain ⟨a1, rfl, hab1, hc1⟩ := Rd_cellO Rr.out hx
      have hcr : wr.cell? (a1.add k) = some (.int .i32 x) := (Hbr.out.cell (by rw [add_block]; exact hab1)).trans hc1
      have hsx := Hsp.out x (List.mem_of_getElem? hx)
      have HSx := Lib.hid (by have h := SplitN_any x wr; rw [hsx] at h; exact h)
      clear hsx
      go_wp2_with fail
      refine HSx.out.mono ?_
      rintro _ wb ⟨v1, rfl, hown1, b1⟩
      obtain ⟨Am, cm, rfl, hcm1, hcm2⟩ := own_shape hown1
      obtain ⟨g, cap, hv, _, _⟩ := hown1.form (by simp)
      have hAm : Am = some ⟨g, 0, none⟩ := by injection hv
      subst hAm
      have m0 : wb.cell? ⟨g, 0, none⟩ = some (.int .i32 x) := hown1.cells (g := g) rfl 0 _ rfl
      have Hbb := Lib.hid (Hbr.out.trans (b1.mono Hbr.out.size))
      have HC := Lib.hid (fun (W : World) (h : Below wa.heap.size wa W) (j : Nat) (z : Int) (hz : xs[j]? = some z) => show W.cell? (a1.add j) = some (.int .i32 z) from by
        obtain ⟨a2, e2, hab2, hc2⟩ := Rd_cellO Rr.out hz
        injection e2 with e2
        subst e2
        exact (h.cell (by rw [add_block]; exact hab2)).trans hc2)
      have l0 : wb.cell? (a1.add k) = some (.int .i32 x) := HC.out wb Hbb.out k x hx
      have hxx : (x != x) = false := by simp
      clear hown1 b1 hcr hc1 hv
      go_wp2_with fail
      go_quiet (fail)
      go_wp2_with fail
      obtain ⟨wq, hwq⟩ : ∃ wq, wb.drewN nq = wq := ⟨_, rfl⟩
      have hBq : Below wa.heap.size wa wq := by rw [← hwq]; exact below_N Hbb.out nq
      have BR := Lib.hid (below_Do hBq)
      rw [hwq]
      clear hwq hBq l0 m0
      by_cases hk0 : k = 0
      · subst hk0
        have PR := Lib.hid (HC.out _ BR.out 0 x hx)
        refine wp_region_noPanic ?_
        refine wp_region_held_drew (S := fun W' : World => W'.cell? (a1.add 0) = some (.int .i32 x)) (by kernel_rfl) (PR.out) (fun hHeld => ?_)
        refine wpAnyH_take (i := 0) (oi := ({ dst := some 74, op := Op.move (Operand.tmp 6), type := 3, pos := "outright.go:49", after := #[], guard := none } : Oper)) (v := ?_) rfl (by kernel_rfl) (by kernel_rfl) (by kernel_rfl) (fun _ _ _ h => h) (Or.inl ⟨by rfl, ?_⟩) (by assumption) ?_
        rotate_left
        · (intro w hSw; (try dsimp only at hSw); go_simp; all_goals (with_reducible rfl))
        try simp only [Act.put, List.setIfInBounds_toArray, List.set_cons_zero, List.set_cons_succ]
        refine wpAnyH_take (i := 1) (oi := ({ dst := some 75, op := Op.binOp BinOp.gtr 3 (Operand.tmp 74) (Operand.const (Value.int IntKind.i64 0)) 3, type := 4, pos := "outright.go:49", after := #[{ on := 0, ground := Ground.data }], guard := none } : Oper)) (v := ?_) rfl (by kernel_rfl) (by kernel_rfl) (by kernel_rfl) (fun _ _ _ h => h) (Or.inl ⟨by rfl, ?_⟩) (by assumption) ?_
        rotate_left
        · (intro w hSw; (try dsimp only at hSw); go_simp; all_goals (with_reducible rfl))
        try simp only [Act.put, List.setIfInBounds_toArray, List.set_cons_zero, List.set_cons_succ]
        refine wpAnyH_take (i := 2) (oi := ({ dst := some 76, op := Op.move (Operand.tmp 75), type := 4, pos := "outright.go:49", after := #[{ on := 1, ground := Ground.data }], guard := none } : Oper)) (v := ?_) rfl (by kernel_rfl) (by kernel_rfl) (by kernel_rfl) (fun _ _ _ h => h) (Or.inl ⟨by rfl, ?_⟩) (by assumption) ?_
        rotate_left
        · (intro w hSw; (try dsimp only at hSw); go_simp; all_goals (with_reducible rfl))
        try simp only [Act.put, List.setIfInBounds_toArray, List.set_cons_zero, List.set_cons_succ]
        refine wpAnyH_take (i := 3) (oi := ({ dst := some 77, op := Op.move (Operand.tmp 5), type := 22, pos := "outright.go:49", after := #[{ on := 2, ground := Ground.guard }], guard := some (2, true) } : Oper)) (v := undef) rfl (by kernel_rfl) (by kernel_rfl) (by kernel_rfl) (fun _ _ _ h => h) (Or.inr ⟨by rfl, rfl⟩) (by assumption) ?_
        try simp only [Act.put, List.setIfInBounds_toArray, List.set_cons_zero, List.set_cons_succ]
        refine wpAnyH_take (i := 4) (oi := ({ dst := some 78, op := Op.move (Operand.tmp 6), type := 3, pos := "outright.go:49", after := #[{ on := 2, ground := Ground.guard }], guard := some (2, true) } : Oper)) (v := undef) rfl (by kernel_rfl) (by kernel_rfl) (by kernel_rfl) (fun _ _ _ h => h) (Or.inr ⟨by rfl, rfl⟩) (by assumption) ?_
        try simp only [Act.put, List.setIfInBounds_toArray, List.set_cons_zero, List.set_cons_succ]
        refine wpAnyH_take (i := 5) (oi := ({ dst := some 79, op := Op.indexAddr 22 (Operand.tmp 77) (Operand.tmp 78), type := 0, pos := "outright.go:49", after := #[{ on := 3, ground := Ground.data }, { on := 4, ground := Ground.data }, { on := 2, ground := Ground.guard }], guard := some (2, true) } : Oper)) (v := undef) rfl (by kernel_rfl) (by kernel_rfl) (by kernel_rfl) (fun _ _ _ h => h) (Or.inr ⟨by rfl, rfl⟩) (by assumption) ?_
        try simp only [Act.put, List.setIfInBounds_toArray, List.set_cons_zero, List.set_cons_succ]
        refine wpAnyH_take (i := 6) (oi := ({ dst := some 80, op := Op.load 21 (Operand.tmp 79), type := 21, pos := "outright.go:49", after := #[{ on := 5, ground := Ground.data }, { on := 2, ground := Ground.guard }], guard := some (2, true) } : Oper)) (v := undef) rfl (by kernel_rfl) (by kernel_rfl) (by kernel_rfl) (fun _ _ _ h => h) (Or.inr ⟨by rfl, rfl⟩) (by assumption) ?_
        try simp only [Act.put, List.setIfInBounds_toArray, List.set_cons_zero, List.set_cons_succ]
        refine wpAnyH_take (i := 7) (oi := ({ dst := some 81, op := Op.call { callee := Callee.value (Operand.func 30), args := #[Operand.tmp 80], argTypes := #[21] }, type := 5, pos := "outright.go:49", after := #[{ on := 6, ground := Ground.data }, { on := 2, ground := Ground.chain }, { on := 2, ground := Ground.guard }], guard := some (2, true) } : Oper)) (v := undef) rfl (by kernel_rfl) (by kernel_rfl) (by kernel_rfl) (fun _ _ _ h => h) (Or.inr ⟨by rfl, rfl⟩) (by assumption) ?_
        try simp only [Act.put, List.setIfInBounds_toArray, List.set_cons_zero, List.set_cons_succ]
        refine wpAnyH_take (i := 8) (oi := ({ dst := some 82, op := Op.binOp BinOp.neq 5 (Operand.tmp 81) (Operand.const (Value.int IntKind.u8 0)) 5, type := 4, pos := "outright.go:49", after := #[{ on := 7, ground := Ground.data }, { on := 2, ground := Ground.guard }], guard := some (2, true) } : Oper)) (v := undef) rfl (by kernel_rfl) (by kernel_rfl) (by kernel_rfl) (fun _ _ _ h => h) (Or.inr ⟨by rfl, rfl⟩) (by assumption) ?_
        try simp only [Act.put, List.setIfInBounds_toArray, List.set_cons_zero, List.set_cons_succ]
        refine wpAnyH_take (i := 9) (oi := ({ dst := some 83, op := Op.pick (Operand.tmp 76) (Operand.tmp 82) (Operand.const (Value.bool false)), type := 4, pos := "outright.go:49", after := #[{ on := 2, ground := Ground.data }, { on := 8, ground := Ground.data }], guard := none } : Oper)) (v := ?_) rfl (by kernel_rfl) (by kernel_rfl) (by kernel_rfl) (fun _ _ _ h => h) (Or.inl ⟨by rfl, ?_⟩) (by assumption) ?_
        rotate_left
        · (intro w hSw; (try dsimp only at hSw); go_simp; all_goals (with_reducible rfl))
        try simp only [Act.put, List.setIfInBounds_toArray, List.set_cons_zero, List.set_cons_succ]
        refine wpAnyH_take (i := 10) (oi := ({ dst := some 84, op := Op.move (Operand.tmp 83), type := 4, pos := "outright.go:49", after := #[{ on := 9, ground := Ground.data }, { on := 7, ground := Ground.chain }], guard := none } : Oper)) (v := ?_) rfl (by kernel_rfl) (by kernel_rfl) (by kernel_rfl) (fun _ _ _ h => h) (Or.inl ⟨by rfl, ?_⟩) (by assumption) ?_
        rotate_left
        · (intro w hSw; (try dsimp only at hSw); go_simp; all_goals (with_reducible rfl))
        try simp only [Act.put, List.setIfInBounds_toArray, List.set_cons_zero, List.set_cons_succ]
        refine wpAnyH_take (i := 11) (oi := ({ dst := some 85, op := Op.move (Operand.tmp 5), type := 22, pos := "outright.go:49", after := #[{ on := 10, ground := Ground.guard }], guard := some (10, true) } : Oper)) (v := undef) rfl (by kernel_rfl) (by kernel_rfl) (by kernel_rfl) (fun _ _ _ h => h) (Or.inr ⟨by rfl, rfl⟩) (by assumption) ?_
        try simp only [Act.put, List.setIfInBounds_toArray, List.set_cons_zero, List.set_cons_succ]
        refine wpAnyH_take (i := 12) (oi := ({ dst := some 86, op := Op.move (Operand.tmp 6), type := 3, pos := "outright.go:49", after := #[{ on := 10, ground := Ground.guard }], guard := some (10, true) } : Oper)) (v := undef) rfl (by kernel_rfl) (by kernel_rfl) (by kernel_rfl) (fun _ _ _ h => h) (Or.inr ⟨by rfl, rfl⟩) (by assumption) ?_
        try simp only [Act.put, List.setIfInBounds_toArray, List.set_cons_zero, List.set_cons_succ]
        refine wpAnyH_take (i := 13) (oi := ({ dst := some 87, op := Op.indexAddr 22 (Operand.tmp 85) (Operand.tmp 86), type := 0, pos := "outright.go:49", after := #[{ on := 11, ground := Ground.data }, { on := 12, ground := Ground.data }, { on := 10, ground := Ground.guard }], guard := some (10, true) } : Oper)) (v := undef) rfl (by kernel_rfl) (by kernel_rfl) (by kernel_rfl) (fun _ _ _ h => h) (Or.inr ⟨by rfl, rfl⟩) (by assumption) ?_
        try simp only [Act.put, List.setIfInBounds_toArray, List.set_cons_zero, List.set_cons_succ]
        refine wpAnyH_take (i := 14) (oi := ({ dst := some 88, op := Op.load 21 (Operand.tmp 87), type := 21, pos := "outright.go:49", after := #[{ on := 13, ground := Ground.data }, { on := 10, ground := Ground.guard }], guard := some (10, true) } : Oper)) (v := undef) rfl (by kernel_rfl) (by kernel_rfl) (by kernel_rfl) (fun _ _ _ h => h) (Or.inr ⟨by rfl, rfl⟩) (by assumption) ?_
        try simp only [Act.put, List.setIfInBounds_toArray, List.set_cons_zero, List.set_cons_succ]
        refine wpAnyH_take (i := 15) (oi := ({ dst := some 89, op := Op.call { callee := Callee.value (Operand.func 30), args := #[Operand.tmp 88], argTypes := #[21] }, type := 5, pos := "outright.go:49", after := #[{ on := 14, ground := Ground.data }, { on := 10, ground := Ground.chain }, { on := 10, ground := Ground.guard }], guard := some (10, true) } : Oper)) (v := undef) rfl (by kernel_rfl) (by kernel_rfl) (by kernel_rfl) (fun _ _ _ h => h) (Or.inr ⟨by rfl, rfl⟩) (by assumption) ?_
        try simp only [Act.put, List.setIfInBounds_toArray, List.set_cons_zero, List.set_cons_succ]
        refine wpAnyH_take (i := 16) (oi := ({ dst := some 90, op := Op.move (Operand.tmp 5), type := 22, pos := "outright.go:49", after := #[{ on := 10, ground := Ground.guard }], guard := some (10, true) } : Oper)) (v := undef) rfl (by kernel_rfl) (by kernel_rfl) (by kernel_rfl) (fun _ _ _ h => h) (Or.inr ⟨by rfl, rfl⟩) (by assumption) ?_
        try simp only [Act.put, List.setIfInBounds_toArray, List.set_cons_zero, List.set_cons_succ]
        refine wpAnyH_take (i := 17) (oi := ({ dst := some 91, op := Op.move (Operand.tmp 6), type := 3, pos := "outright.go:49", after := #[{ on := 10, ground := Ground.guard }], guard := some (10, true) } : Oper)) (v := undef) rfl (by kernel_rfl) (by kernel_rfl) (by kernel_rfl) (fun _ _ _ h => h) (Or.inr ⟨by rfl, rfl⟩) (by assumption) ?_
        try simp only [Act.put, List.setIfInBounds_toArray, List.set_cons_zero, List.set_cons_succ]
        refine wpAnyH_take (i := 18) (oi := ({ dst := some 92, op := Op.binOp BinOp.sub 3 (Operand.tmp 91) (Operand.const (Value.int IntKind.i64 1)) 3, type := 3, pos := "outright.go:49", after := #[{ on := 17, ground := Ground.data }, { on := 10, ground := Ground.guard }], guard := some (10, true) } : Oper)) (v := undef) rfl (by kernel_rfl) (by kernel_rfl) (by kernel_rfl) (fun _ _ _ h => h) (Or.inr ⟨by rfl, rfl⟩) (by assumption) ?_
        try simp only [Act.put, List.setIfInBounds_toArray, List.set_cons_zero, List.set_cons_succ]
        refine wpAnyH_take (i := 19) (oi := ({ dst := some 93, op := Op.indexAddr 22 (Operand.tmp 90) (Operand.tmp 92), type := 0, pos := "outright.go:49", after := #[{ on := 16, ground := Ground.data }, { on := 18, ground := Ground.data }, { on := 10, ground := Ground.guard }], guard := some (10, true) } : Oper)) (v := undef) rfl (by kernel_rfl) (by kernel_rfl) (by kernel_rfl) (fun _ _ _ h => h) (Or.inr ⟨by rfl, rfl⟩) (by assumption) ?_
        try simp only [Act.put, List.setIfInBounds_toArray, List.set_cons_zero, List.set_cons_succ]
        refine wpAnyH_take (i := 20) (oi := ({ dst := some 94, op := Op.load 21 (Operand.tmp 93), type := 21, pos := "outright.go:49", after := #[{ on := 19, ground := Ground.data }, { on := 10, ground := Ground.guard }], guard := some (10, true) } : Oper)) (v := undef) rfl (by kernel_rfl) (by kernel_rfl) (by kernel_rfl) (fun _ _ _ h => h) (Or.inr ⟨by rfl, rfl⟩) (by assumption) ?_
        try simp only [Act.put, List.setIfInBounds_toArray, List.set_cons_zero, List.set_cons_succ]
        refine wpAnyH_take (i := 21) (oi := ({ dst := some 95, op := Op.call { callee := Callee.value (Operand.func 30), args := #[Operand.tmp 94], argTypes := #[21] }, type := 5, pos := "outright.go:49", after := #[{ on := 20, ground := Ground.data }, { on := 15, ground := Ground.chain }, { on := 10, ground := Ground.guard }], guard := some (10, true) } : Oper)) (v := undef) rfl (by kernel_rfl) (by kernel_rfl) (by kernel_rfl) (fun _ _ _ h => h) (Or.inr ⟨by rfl, rfl⟩) (by assumption) ?_
        try simp only [Act.put, List.setIfInBounds_toArray, List.set_cons_zero, List.set_cons_succ]
        refine wpAnyH_take (i := 22) (oi := ({ dst := some 96, op := Op.binOp BinOp.lss 5 (Operand.tmp 89) (Operand.tmp 95) 5, type := 4, pos := "outright.go:49", after := #[{ on := 15, ground := Ground.data }, { on := 21, ground := Ground.data }, { on := 10, ground := Ground.guard }], guard := some (10, true) } : Oper)) (v := undef) rfl (by kernel_rfl) (by kernel_rfl) (by kernel_rfl) (fun _ _ _ h => h) (Or.inr ⟨by rfl, rfl⟩) (by assumption) ?_
        try simp only [Act.put, List.setIfInBounds_toArray, List.set_cons_zero, List.set_cons_succ]
        refine wpAnyH_take (i := 23) (oi := ({ dst := some 97, op := Op.pick (Operand.tmp 84) (Operand.tmp 96) (Operand.const (Value.bool false)), type := 4, pos := "outright.go:49", after := #[{ on := 10, ground := Ground.data }, { on := 22, ground := Ground.data }], guard := none } : Oper)) (v := ?_) rfl (by kernel_rfl) (by kernel_rfl) (by kernel_rfl) (fun _ _ _ h => h) (Or.inl ⟨by rfl, ?_⟩) (by assumption) ?_
        rotate_left
        · (intro w hSw; (try dsimp only at hSw); go_simp; all_goals (with_reducible rfl))
        try simp only [Act.put, List.setIfInBounds_toArray, List.set_cons_zero, List.set_cons_succ]
        refine wpAnyH_done (by kernel_rfl) ?_ _
        refine NoPanic.normal ?_
        go_wp2_with fail
        go_roundw
        case rel => exact ⟨0 + 1, by omega, by go_num, BR⟩
        case measure => simp [RowKit.intOf]; omega
      · have hkp : (0 : Int) < (k : Int) := by omega
        have hkp1 : 0 < k := by omega
        have hkp4 : (1 : Int) ≤ (k : Int) := by omega
        have hkp2 : decide ((0 : Int) < (k : Int)) = true := decide_eq_true hkp
        have hkp3 : decide (0 < k) = true := decide_eq_true hkp1
        obtain ⟨y, hy⟩ : ∃ y, xs[k - 1]? = some y := ⟨_, List.getElem?_eq_getElem (by rw [Hxl.out]; omega)⟩
        have hmm := Hasc.out (k - 1) y x hy (by rw [show k - 1 + 1 = k by omega]; exact hx)
        have HCC := Lib.hid (fun (W : World) (h : Below wa.heap.size wa W) => show W.cell? (a1.add k) = some (.int .i32 x) ∧ W.cell? (a1.add (k - 1)) = some (.int .i32 y) from ⟨HC.out W h k x hx, HC.out W h (k - 1) y hy⟩)
        have PR := Lib.hid (HCC.out _ BR.out)
        obtain ⟨mx, hmx⟩ : ∃ m, markZ x = m := ⟨_, rfl⟩
        obtain ⟨my, hmy⟩ : ∃ m, markZ y = m := ⟨_, rfl⟩
        have HMx := Lib.hid (fun W => by have h := Mark_any x W; rw [show cls marksL (char x) = mx from hmx] at h; exact h)
        have HMy := Lib.hid (fun W => by have h := Mark_any y W; rw [show cls marksL (char y) = my from hmy] at h; exact h)
        rw [hmx, hmy] at hmm
        have w1 : IntKind.i64.wrap ((k : Int) - 1) = (k : Int) - 1 := IntWalk.i64_in _ (by omega)
        have w2 : (0 : Int) ≤ (k : Int) - 1 := by omega
        have w3 : (k : Int) - 1 < (n : Int) := by omega
        have w4 : ((k : Int) - 1).toNat = k - 1 := by omega
        clear hx hy hmx hmy HC
        by_cases h0 : mx = 0
        · subst h0
          clear hmm
          refine wp_region_noPanic ?_
          refine wp_region_held_drew (S := fun W' : World => W'.cell? (a1.add k) = some (.int .i32 x) ∧ W'.cell? (a1.add (k - 1)) = some (.int .i32 y)) (by kernel_rfl) (PR.out) (fun hHeld => ?_)
          refine wpAnyH_take (i := 0) (oi := ({ dst := some 74, op := Op.move (Operand.tmp 6), type := 3, pos := "outright.go:49", after := #[], guard := none } : Oper)) (v := ?_) rfl (by kernel_rfl) (by kernel_rfl) (by kernel_rfl) (fun _ _ _ h => h) (Or.inl ⟨by rfl, ?_⟩) (by assumption) ?_
          rotate_left
          · (intro w hSw; (try dsimp only at hSw); go_simp; all_goals (with_reducible rfl))
          try simp only [Act.put, List.setIfInBounds_toArray, List.set_cons_zero, List.set_cons_succ]
          refine wpAnyH_take (i := 1) (oi := ({ dst := some 75, op := Op.binOp BinOp.gtr 3 (Operand.tmp 74) (Operand.const (Value.int IntKind.i64 0)) 3, type := 4, pos := "outright.go:49", after := #[{ on := 0, ground := Ground.data }], guard := none } : Oper)) (v := ?_) rfl (by kernel_rfl) (by kernel_rfl) (by kernel_rfl) (fun _ _ _ h => h) (Or.inl ⟨by rfl, ?_⟩) (by assumption) ?_
          rotate_left
          · (intro w hSw; (try dsimp only at hSw); go_simp; all_goals (with_reducible rfl))
          try simp only [Act.put, List.setIfInBounds_toArray, List.set_cons_zero, List.set_cons_succ]
          refine wpAnyH_take (i := 2) (oi := ({ dst := some 76, op := Op.move (Operand.tmp 75), type := 4, pos := "outright.go:49", after := #[{ on := 1, ground := Ground.data }], guard := none } : Oper)) (v := ?_) rfl (by kernel_rfl) (by kernel_rfl) (by kernel_rfl) (fun _ _ _ h => h) (Or.inl ⟨by rfl, ?_⟩) (by assumption) ?_
          rotate_left
          · (intro w hSw; (try dsimp only at hSw); go_simp; all_goals (with_reducible rfl))
          try simp only [Act.put, List.setIfInBounds_toArray, List.set_cons_zero, List.set_cons_succ]
          refine wpAnyH_take (i := 3) (oi := ({ dst := some 77, op := Op.move (Operand.tmp 5), type := 22, pos := "outright.go:49", after := #[{ on := 2, ground := Ground.guard }], guard := some (2, true) } : Oper)) (v := ?_) rfl (by kernel_rfl) (by kernel_rfl) (by kernel_rfl) (fun _ _ _ h => h) (Or.inl ⟨by rfl, ?_⟩) (by assumption) ?_
          rotate_left
          · (intro w hSw; (try dsimp only at hSw); go_simp; all_goals (with_reducible rfl))
          try simp only [Act.put, List.setIfInBounds_toArray, List.set_cons_zero, List.set_cons_succ]
          refine wpAnyH_take (i := 4) (oi := ({ dst := some 78, op := Op.move (Operand.tmp 6), type := 3, pos := "outright.go:49", after := #[{ on := 2, ground := Ground.guard }], guard := some (2, true) } : Oper)) (v := ?_) rfl (by kernel_rfl) (by kernel_rfl) (by kernel_rfl) (fun _ _ _ h => h) (Or.inl ⟨by rfl, ?_⟩) (by assumption) ?_
          rotate_left
          · (intro w hSw; (try dsimp only at hSw); go_simp; all_goals (with_reducible rfl))
          try simp only [Act.put, List.setIfInBounds_toArray, List.set_cons_zero, List.set_cons_succ]
          refine wpAnyH_take (i := 5) (oi := ({ dst := some 79, op := Op.indexAddr 22 (Operand.tmp 77) (Operand.tmp 78), type := 0, pos := "outright.go:49", after := #[{ on := 3, ground := Ground.data }, { on := 4, ground := Ground.data }, { on := 2, ground := Ground.guard }], guard := some (2, true) } : Oper)) (v := ?_) rfl (by kernel_rfl) (by kernel_rfl) (by kernel_rfl) (fun _ _ _ h => h) (Or.inl ⟨by rfl, ?_⟩) (by assumption) ?_
          rotate_left
          · (intro w hSw; (try dsimp only at hSw); go_simp; all_goals (with_reducible rfl))
          try simp only [Act.put, List.setIfInBounds_toArray, List.set_cons_zero, List.set_cons_succ]
          refine wpAnyH_take (i := 6) (oi := ({ dst := some 80, op := Op.load 21 (Operand.tmp 79), type := 21, pos := "outright.go:49", after := #[{ on := 5, ground := Ground.data }, { on := 2, ground := Ground.guard }], guard := some (2, true) } : Oper)) (v := ?_) rfl (by kernel_rfl) (by kernel_rfl) (by kernel_rfl) (fun _ _ _ h => h) (Or.inl ⟨by rfl, ?_⟩) (by assumption) ?_
          rotate_left
          · (intro w hSw; (try dsimp only at hSw); go_simp; all_goals (with_reducible rfl))
          try simp only [Act.put, List.setIfInBounds_toArray, List.set_cons_zero, List.set_cons_succ]
          refine wpAnyH_ready (rs := [7]) (by kernel_rfl) (by simp) ?_
          refine AllReadyH.cons (o := ({ dst := some 81, op := Op.call { callee := Callee.value (Operand.func 30), args := #[Operand.tmp 80], argTypes := #[21] }, type := 5, pos := "outright.go:49", after := #[{ on := 6, ground := Ground.data }, { on := 2, ground := Ground.chain }, { on := 2, ground := Ground.guard }], guard := some (2, true) } : Oper)) rfl (fun K hK => ?_) AllReadyH.nil
          (go_simp; go_at_call 30; refine (HMx.out _).mono ?_; rintro e wx ⟨rfl, bx⟩; have Ba := Lib.hid (BR.out.trans (bx.mono BR.out.size)); clear bx; (try dsimp only))
          refine hK.out _ _ (HCC.out _ Ba.out) (fun hHeld => ?_)
          clear hK K
          try simp only [Act.put, List.setIfInBounds_toArray, List.set_cons_zero, List.set_cons_succ]
          refine wpAnyH_take (i := 8) (oi := ({ dst := some 82, op := Op.binOp BinOp.neq 5 (Operand.tmp 81) (Operand.const (Value.int IntKind.u8 0)) 5, type := 4, pos := "outright.go:49", after := #[{ on := 7, ground := Ground.data }, { on := 2, ground := Ground.guard }], guard := some (2, true) } : Oper)) (v := ?_) rfl (by kernel_rfl) (by kernel_rfl) (by kernel_rfl) (fun _ _ _ h => h) (Or.inl ⟨by rfl, ?_⟩) (by assumption) ?_
          rotate_left
          · (intro w hSw; (try dsimp only at hSw); go_simp; all_goals (with_reducible rfl))
          try simp only [Act.put, List.setIfInBounds_toArray, List.set_cons_zero, List.set_cons_succ]
          refine wpAnyH_take (i := 9) (oi := ({ dst := some 83, op := Op.pick (Operand.tmp 76) (Operand.tmp 82) (Operand.const (Value.bool false)), type := 4, pos := "outright.go:49", after := #[{ on := 2, ground := Ground.data }, { on := 8, ground := Ground.data }], guard := none } : Oper)) (v := ?_) rfl (by kernel_rfl) (by kernel_rfl) (by kernel_rfl) (fun _ _ _ h => h) (Or.inl ⟨by rfl, ?_⟩) (by assumption) ?_
          rotate_left
          · (intro w hSw; (try dsimp only at hSw); go_simp; all_goals (with_reducible rfl))
          try simp only [Act.put, List.setIfInBounds_toArray, List.set_cons_zero, List.set_cons_succ]
          refine wpAnyH_take (i := 10) (oi := ({ dst := some 84, op := Op.move (Operand.tmp 83), type := 4, pos := "outright.go:49", after := #[{ on := 9, ground := Ground.data }, { on := 7, ground := Ground.chain }], guard := none } : Oper)) (v := ?_) rfl (by kernel_rfl) (by kernel_rfl) (by kernel_rfl) (fun _ _ _ h => h) (Or.inl ⟨by rfl, ?_⟩) (by assumption) ?_
          rotate_left
          · (intro w hSw; (try dsimp only at hSw); go_simp; all_goals (with_reducible rfl))
          try simp only [Act.put, List.setIfInBounds_toArray, List.set_cons_zero, List.set_cons_succ]
          refine wpAnyH_take (i := 11) (oi := ({ dst := some 85, op := Op.move (Operand.tmp 5), type := 22, pos := "outright.go:49", after := #[{ on := 10, ground := Ground.guard }], guard := some (10, true) } : Oper)) (v := undef) rfl (by kernel_rfl) (by kernel_rfl) (by kernel_rfl) (fun _ _ _ h => h) (Or.inr ⟨by rfl, rfl⟩) (by assumption) ?_
          try simp only [Act.put, List.setIfInBounds_toArray, List.set_cons_zero, List.set_cons_succ]
          refine wpAnyH_take (i := 12) (oi := ({ dst := some 86, op := Op.move (Operand.tmp 6), type := 3, pos := "outright.go:49", after := #[{ on := 10, ground := Ground.guard }], guard := some (10, true) } : Oper)) (v := undef) rfl (by kernel_rfl) (by kernel_rfl) (by kernel_rfl) (fun _ _ _ h => h) (Or.inr ⟨by rfl, rfl⟩) (by assumption) ?_
          try simp only [Act.put, List.setIfInBounds_toArray, List.set_cons_zero, List.set_cons_succ]
          refine wpAnyH_take (i := 13) (oi := ({ dst := some 87, op := Op.indexAddr 22 (Operand.tmp 85) (Operand.tmp 86), type := 0, pos := "outright.go:49", after := #[{ on := 11, ground := Ground.data }, { on := 12, ground := Ground.data }, { on := 10, ground := Ground.guard }], guard := some (10, true) } : Oper)) (v := undef) rfl (by kernel_rfl) (by kernel_rfl) (by kernel_rfl) (fun _ _ _ h => h) (Or.inr ⟨by rfl, rfl⟩) (by assumption) ?_
          try simp only [Act.put, List.setIfInBounds_toArray, List.set_cons_zero, List.set_cons_succ]
          refine wpAnyH_take (i := 14) (oi := ({ dst := some 88, op := Op.load 21 (Operand.tmp 87), type := 21, pos := "outright.go:49", after := #[{ on := 13, ground := Ground.data }, { on := 10, ground := Ground.guard }], guard := some (10, true) } : Oper)) (v := undef) rfl (by kernel_rfl) (by kernel_rfl) (by kernel_rfl) (fun _ _ _ h => h) (Or.inr ⟨by rfl, rfl⟩) (by assumption) ?_
          try simp only [Act.put, List.setIfInBounds_toArray, List.set_cons_zero, List.set_cons_succ]
          refine wpAnyH_take (i := 15) (oi := ({ dst := some 89, op := Op.call { callee := Callee.value (Operand.func 30), args := #[Operand.tmp 88], argTypes := #[21] }, type := 5, pos := "outright.go:49", after := #[{ on := 14, ground := Ground.data }, { on := 10, ground := Ground.chain }, { on := 10, ground := Ground.guard }], guard := some (10, true) } : Oper)) (v := undef) rfl (by kernel_rfl) (by kernel_rfl) (by kernel_rfl) (fun _ _ _ h => h) (Or.inr ⟨by rfl, rfl⟩) (by assumption) ?_
          try simp only [Act.put, List.setIfInBounds_toArray, List.set_cons_zero, List.set_cons_succ]
          refine wpAnyH_take (i := 16) (oi := ({ dst := some 90, op := Op.move (Operand.tmp 5), type := 22, pos := "outright.go:49", after := #[{ on := 10, ground := Ground.guard }], guard := some (10, true) } : Oper)) (v := undef) rfl (by kernel_rfl) (by kernel_rfl) (by kernel_rfl) (fun _ _ _ h => h) (Or.inr ⟨by rfl, rfl⟩) (by assumption) ?_
          try simp only [Act.put, List.setIfInBounds_toArray, List.set_cons_zero, List.set_cons_succ]
          refine wpAnyH_take (i := 17) (oi := ({ dst := some 91, op := Op.move (Operand.tmp 6), type := 3, pos := "outright.go:49", after := #[{ on := 10, ground := Ground.guard }], guard := some (10, true) } : Oper)) (v := undef) rfl (by kernel_rfl) (by kernel_rfl) (by kernel_rfl) (fun _ _ _ h => h) (Or.inr ⟨by rfl, rfl⟩) (by assumption) ?_
          try simp only [Act.put, List.setIfInBounds_toArray, List.set_cons_zero, List.set_cons_succ]
          refine wpAnyH_take (i := 18) (oi := ({ dst := some 92, op := Op.binOp BinOp.sub 3 (Operand.tmp 91) (Operand.const (Value.int IntKind.i64 1)) 3, type := 3, pos := "outright.go:49", after := #[{ on := 17, ground := Ground.data }, { on := 10, ground := Ground.guard }], guard := some (10, true) } : Oper)) (v := undef) rfl (by kernel_rfl) (by kernel_rfl) (by kernel_rfl) (fun _ _ _ h => h) (Or.inr ⟨by rfl, rfl⟩) (by assumption) ?_
          try simp only [Act.put, List.setIfInBounds_toArray, List.set_cons_zero, List.set_cons_succ]
          refine wpAnyH_take (i := 19) (oi := ({ dst := some 93, op := Op.indexAddr 22 (Operand.tmp 90) (Operand.tmp 92), type := 0, pos := "outright.go:49", after := #[{ on := 16, ground := Ground.data }, { on := 18, ground := Ground.data }, { on := 10, ground := Ground.guard }], guard := some (10, true) } : Oper)) (v := undef) rfl (by kernel_rfl) (by kernel_rfl) (by kernel_rfl) (fun _ _ _ h => h) (Or.inr ⟨by rfl, rfl⟩) (by assumption) ?_
          try simp only [Act.put, List.setIfInBounds_toArray, List.set_cons_zero, List.set_cons_succ]
          refine wpAnyH_take (i := 20) (oi := ({ dst := some 94, op := Op.load 21 (Operand.tmp 93), type := 21, pos := "outright.go:49", after := #[{ on := 19, ground := Ground.data }, { on := 10, ground := Ground.guard }], guard := some (10, true) } : Oper)) (v := undef) rfl (by kernel_rfl) (by kernel_rfl) (by kernel_rfl) (fun _ _ _ h => h) (Or.inr ⟨by rfl, rfl⟩) (by assumption) ?_
          try simp only [Act.put, List.setIfInBounds_toArray, List.set_cons_zero, List.set_cons_succ]
          refine wpAnyH_take (i := 21) (oi := ({ dst := some 95, op := Op.call { callee := Callee.value (Operand.func 30), args := #[Operand.tmp 94], argTypes := #[21] }, type := 5, pos := "outright.go:49", after := #[{ on := 20, ground := Ground.data }, { on := 15, ground := Ground.chain }, { on := 10, ground := Ground.guard }], guard := some (10, true) } : Oper)) (v := undef) rfl (by kernel_rfl) (by kernel_rfl) (by kernel_rfl) (fun _ _ _ h => h) (Or.inr ⟨by rfl, rfl⟩) (by assumption) ?_
          try simp only [Act.put, List.setIfInBounds_toArray, List.set_cons_zero, List.set_cons_succ]
          refine wpAnyH_take (i := 22) (oi := ({ dst := some 96, op := Op.binOp BinOp.lss 5 (Operand.tmp 89) (Operand.tmp 95) 5, type := 4, pos := "outright.go:49", after := #[{ on := 15, ground := Ground.data }, { on := 21, ground := Ground.data }, { on := 10, ground := Ground.guard }], guard := some (10, true) } : Oper)) (v := undef) rfl (by kernel_rfl) (by kernel_rfl) (by kernel_rfl) (fun _ _ _ h => h) (Or.inr ⟨by rfl, rfl⟩) (by assumption) ?_
          try simp only [Act.put, List.setIfInBounds_toArray, List.set_cons_zero, List.set_cons_succ]
          refine wpAnyH_take (i := 23) (oi := ({ dst := some 97, op := Op.pick (Operand.tmp 84) (Operand.tmp 96) (Operand.const (Value.bool false)), type := 4, pos := "outright.go:49", after := #[{ on := 10, ground := Ground.data }, { on := 22, ground := Ground.data }], guard := none } : Oper)) (v := ?_) rfl (by kernel_rfl) (by kernel_rfl) (by kernel_rfl) (fun _ _ _ h => h) (Or.inl ⟨by rfl, ?_⟩) (by assumption) ?_
          rotate_left
          · (intro w hSw; (try dsimp only at hSw); go_simp; all_goals (with_reducible rfl))
          try simp only [Act.put, List.setIfInBounds_toArray, List.set_cons_zero, List.set_cons_succ]
          refine wpAnyH_done (by kernel_rfl) ?_ _
          refine NoPanic.normal ?_
          go_wp2_with fail
          go_roundw
          case rel => exact ⟨k + 1, by omega, by go_num, Ba⟩
          case measure => simp [RowKit.intOf]; omega
        · obtain ⟨M, hM⟩ : ∃ M : Int, (mx : Int) = M := ⟨_, rfl⟩
          obtain ⟨M2, hM2⟩ : ∃ M : Int, (my : Int) = M := ⟨_, rfl⟩
          rw [hM] at HMx
          rw [hM2] at HMy
          have e1 : (M != 0) = true := by simp; omega
          have e3 : ¬ M < M2 := by omega
          clear hmm h0 hM hM2
          refine wp_region_noPanic ?_
          refine wp_region_held_drew (S := fun W' : World => W'.cell? (a1.add k) = some (.int .i32 x) ∧ W'.cell? (a1.add (k - 1)) = some (.int .i32 y)) (by kernel_rfl) (PR.out) (fun hHeld => ?_)
          refine wpAnyH_take (i := 0) (oi := ({ dst := some 74, op := Op.move (Operand.tmp 6), type := 3, pos := "outright.go:49", after := #[], guard := none } : Oper)) (v := ?_) rfl (by kernel_rfl) (by kernel_rfl) (by kernel_rfl) (fun _ _ _ h => h) (Or.inl ⟨by rfl, ?_⟩) (by assumption) ?_
          rotate_left
          · (intro w hSw; (try dsimp only at hSw); go_simp; all_goals (with_reducible rfl))
          try simp only [Act.put, List.setIfInBounds_toArray, List.set_cons_zero, List.set_cons_succ]
          refine wpAnyH_take (i := 1) (oi := ({ dst := some 75, op := Op.binOp BinOp.gtr 3 (Operand.tmp 74) (Operand.const (Value.int IntKind.i64 0)) 3, type := 4, pos := "outright.go:49", after := #[{ on := 0, ground := Ground.data }], guard := none } : Oper)) (v := ?_) rfl (by kernel_rfl) (by kernel_rfl) (by kernel_rfl) (fun _ _ _ h => h) (Or.inl ⟨by rfl, ?_⟩) (by assumption) ?_
          rotate_left
          · (intro w hSw; (try dsimp only at hSw); go_simp; all_goals (with_reducible rfl))
          try simp only [Act.put, List.setIfInBounds_toArray, List.set_cons_zero, List.set_cons_succ]
          refine wpAnyH_take (i := 2) (oi := ({ dst := some 76, op := Op.move (Operand.tmp 75), type := 4, pos := "outright.go:49", after := #[{ on := 1, ground := Ground.data }], guard := none } : Oper)) (v := ?_) rfl (by kernel_rfl) (by kernel_rfl) (by kernel_rfl) (fun _ _ _ h => h) (Or.inl ⟨by rfl, ?_⟩) (by assumption) ?_
          rotate_left
          · (intro w hSw; (try dsimp only at hSw); go_simp; all_goals (with_reducible rfl))
          try simp only [Act.put, List.setIfInBounds_toArray, List.set_cons_zero, List.set_cons_succ]
          refine wpAnyH_take (i := 3) (oi := ({ dst := some 77, op := Op.move (Operand.tmp 5), type := 22, pos := "outright.go:49", after := #[{ on := 2, ground := Ground.guard }], guard := some (2, true) } : Oper)) (v := ?_) rfl (by kernel_rfl) (by kernel_rfl) (by kernel_rfl) (fun _ _ _ h => h) (Or.inl ⟨by rfl, ?_⟩) (by assumption) ?_
          rotate_left
          · (intro w hSw; (try dsimp only at hSw); go_simp; all_goals (with_reducible rfl))
          try simp only [Act.put, List.setIfInBounds_toArray, List.set_cons_zero, List.set_cons_succ]
          refine wpAnyH_take (i := 4) (oi := ({ dst := some 78, op := Op.move (Operand.tmp 6), type := 3, pos := "outright.go:49", after := #[{ on := 2, ground := Ground.guard }], guard := some (2, true) } : Oper)) (v := ?_) rfl (by kernel_rfl) (by kernel_rfl) (by kernel_rfl) (fun _ _ _ h => h) (Or.inl ⟨by rfl, ?_⟩) (by assumption) ?_
          rotate_left
          · (intro w hSw; (try dsimp only at hSw); go_simp; all_goals (with_reducible rfl))
          try simp only [Act.put, List.setIfInBounds_toArray, List.set_cons_zero, List.set_cons_succ]
          refine wpAnyH_take (i := 5) (oi := ({ dst := some 79, op := Op.indexAddr 22 (Operand.tmp 77) (Operand.tmp 78), type := 0, pos := "outright.go:49", after := #[{ on := 3, ground := Ground.data }, { on := 4, ground := Ground.data }, { on := 2, ground := Ground.guard }], guard := some (2, true) } : Oper)) (v := ?_) rfl (by kernel_rfl) (by kernel_rfl) (by kernel_rfl) (fun _ _ _ h => h) (Or.inl ⟨by rfl, ?_⟩) (by assumption) ?_
          rotate_left
          · (intro w hSw; (try dsimp only at hSw); go_simp; all_goals (with_reducible rfl))
          try simp only [Act.put, List.setIfInBounds_toArray, List.set_cons_zero, List.set_cons_succ]
          refine wpAnyH_take (i := 6) (oi := ({ dst := some 80, op := Op.load 21 (Operand.tmp 79), type := 21, pos := "outright.go:49", after := #[{ on := 5, ground := Ground.data }, { on := 2, ground := Ground.guard }], guard := some (2, true) } : Oper)) (v := ?_) rfl (by kernel_rfl) (by kernel_rfl) (by kernel_rfl) (fun _ _ _ h => h) (Or.inl ⟨by rfl, ?_⟩) (by assumption) ?_
          rotate_left
          · (intro w hSw; (try dsimp only at hSw); go_simp; all_goals (with_reducible rfl))
          try simp only [Act.put, List.setIfInBounds_toArray, List.set_cons_zero, List.set_cons_succ]
          refine wpAnyH_ready (rs := [7]) (by kernel_rfl) (by simp) ?_
          refine AllReadyH.cons (o := ({ dst := some 81, op := Op.call { callee := Callee.value (Operand.func 30), args := #[Operand.tmp 80], argTypes := #[21] }, type := 5, pos := "outright.go:49", after := #[{ on := 6, ground := Ground.data }, { on := 2, ground := Ground.chain }, { on := 2, ground := Ground.guard }], guard := some (2, true) } : Oper)) rfl (fun K hK => ?_) AllReadyH.nil
          (go_simp; go_at_call 30; refine (HMx.out _).mono ?_; rintro e wx ⟨rfl, bx⟩; have Ba := Lib.hid (BR.out.trans (bx.mono BR.out.size)); clear bx; (try dsimp only))
          refine hK.out _ _ (HCC.out _ Ba.out) (fun hHeld => ?_)
          clear hK K
          try simp only [Act.put, List.setIfInBounds_toArray, List.set_cons_zero, List.set_cons_succ]
          refine wpAnyH_take (i := 8) (oi := ({ dst := some 82, op := Op.binOp BinOp.neq 5 (Operand.tmp 81) (Operand.const (Value.int IntKind.u8 0)) 5, type := 4, pos := "outright.go:49", after := #[{ on := 7, ground := Ground.data }, { on := 2, ground := Ground.guard }], guard := some (2, true) } : Oper)) (v := ?_) rfl (by kernel_rfl) (by kernel_rfl) (by kernel_rfl) (fun _ _ _ h => h) (Or.inl ⟨by rfl, ?_⟩) (by assumption) ?_
          rotate_left
          · (intro w hSw; (try dsimp only at hSw); go_simp; all_goals (with_reducible rfl))
          try simp only [Act.put, List.setIfInBounds_toArray, List.set_cons_zero, List.set_cons_succ]
          refine wpAnyH_take (i := 9) (oi := ({ dst := some 83, op := Op.pick (Operand.tmp 76) (Operand.tmp 82) (Operand.const (Value.bool false)), type := 4, pos := "outright.go:49", after := #[{ on := 2, ground := Ground.data }, { on := 8, ground := Ground.data }], guard := none } : Oper)) (v := ?_) rfl (by kernel_rfl) (by kernel_rfl) (by kernel_rfl) (fun _ _ _ h => h) (Or.inl ⟨by rfl, ?_⟩) (by assumption) ?_
          rotate_left
          · (intro w hSw; (try dsimp only at hSw); go_simp; all_goals (with_reducible rfl))
          try simp only [Act.put, List.setIfInBounds_toArray, List.set_cons_zero, List.set_cons_succ]
          refine wpAnyH_take (i := 10) (oi := ({ dst := some 84, op := Op.move (Operand.tmp 83), type := 4, pos := "outright.go:49", after := #[{ on := 9, ground := Ground.data }, { on := 7, ground := Ground.chain }], guard := none } : Oper)) (v := ?_) rfl (by kernel_rfl) (by kernel_rfl) (by kernel_rfl) (fun _ _ _ h => h) (Or.inl ⟨by rfl, ?_⟩) (by assumption) ?_
          rotate_left
          · (intro w hSw; (try dsimp only at hSw); go_simp; all_goals (with_reducible rfl))
          try simp only [Act.put, List.setIfInBounds_toArray, List.set_cons_zero, List.set_cons_succ]
          refine wpAnyH_take (i := 11) (oi := ({ dst := some 85, op := Op.move (Operand.tmp 5), type := 22, pos := "outright.go:49", after := #[{ on := 10, ground := Ground.guard }], guard := some (10, true) } : Oper)) (v := ?_) rfl (by kernel_rfl) (by kernel_rfl) (by kernel_rfl) (fun _ _ _ h => h) (Or.inl ⟨by rfl, ?_⟩) (by assumption) ?_
          rotate_left
          · (intro w hSw; (try dsimp only at hSw); go_simp; all_goals (with_reducible rfl))
          try simp only [Act.put, List.setIfInBounds_toArray, List.set_cons_zero, List.set_cons_succ]
          refine wpAnyH_take (i := 12) (oi := ({ dst := some 86, op := Op.move (Operand.tmp 6), type := 3, pos := "outright.go:49", after := #[{ on := 10, ground := Ground.guard }], guard := some (10, true) } : Oper)) (v := ?_) rfl (by kernel_rfl) (by kernel_rfl) (by kernel_rfl) (fun _ _ _ h => h) (Or.inl ⟨by rfl, ?_⟩) (by assumption) ?_
          rotate_left
          · (intro w hSw; (try dsimp only at hSw); go_simp; all_goals (with_reducible rfl))
          try simp only [Act.put, List.setIfInBounds_toArray, List.set_cons_zero, List.set_cons_succ]
          refine wpAnyH_take (i := 13) (oi := ({ dst := some 87, op := Op.indexAddr 22 (Operand.tmp 85) (Operand.tmp 86), type := 0, pos := "outright.go:49", after := #[{ on := 11, ground := Ground.data }, { on := 12, ground := Ground.data }, { on := 10, ground := Ground.guard }], guard := some (10, true) } : Oper)) (v := ?_) rfl (by kernel_rfl) (by kernel_rfl) (by kernel_rfl) (fun _ _ _ h => h) (Or.inl ⟨by rfl, ?_⟩) (by assumption) ?_
          rotate_left
          · (intro w hSw; (try dsimp only at hSw); go_simp; all_goals (with_reducible rfl))
          try simp only [Act.put, List.setIfInBounds_toArray, List.set_cons_zero, List.set_cons_succ]
          refine wpAnyH_take (i := 14) (oi := ({ dst := some 88, op := Op.load 21 (Operand.tmp 87), type := 21, pos := "outright.go:49", after := #[{ on := 13, ground := Ground.data }, { on := 10, ground := Ground.guard }], guard := some (10, true) } : Oper)) (v := ?_) rfl (by kernel_rfl) (by kernel_rfl) (by kernel_rfl) (fun _ _ _ h => h) (Or.inl ⟨by rfl, ?_⟩) (by assumption) ?_
          rotate_left
          · (intro w hSw; (try dsimp only at hSw); go_simp; all_goals (with_reducible rfl))
          try simp only [Act.put, List.setIfInBounds_toArray, List.set_cons_zero, List.set_cons_succ]
          refine wpAnyH_take (i := 16) (oi := ({ dst := some 90, op := Op.move (Operand.tmp 5), type := 22, pos := "outright.go:49", after := #[{ on := 10, ground := Ground.guard }], guard := some (10, true) } : Oper)) (v := ?_) rfl (by kernel_rfl) (by kernel_rfl) (by kernel_rfl) (fun _ _ _ h => h) (Or.inl ⟨by rfl, ?_⟩) (by assumption) ?_
          rotate_left
          · (intro w hSw; (try dsimp only at hSw); go_simp; all_goals (with_reducible rfl))
          try simp only [Act.put, List.setIfInBounds_toArray, List.set_cons_zero, List.set_cons_succ]
          refine wpAnyH_take (i := 17) (oi := ({ dst := some 91, op := Op.move (Operand.tmp 6), type := 3, pos := "outright.go:49", after := #[{ on := 10, ground := Ground.guard }], guard := some (10, true) } : Oper)) (v := ?_) rfl (by kernel_rfl) (by kernel_rfl) (by kernel_rfl) (fun _ _ _ h => h) (Or.inl ⟨by rfl, ?_⟩) (by assumption) ?_
          rotate_left
          · (intro w hSw; (try dsimp only at hSw); go_simp; all_goals (with_reducible rfl))
          try simp only [Act.put, List.setIfInBounds_toArray, List.set_cons_zero, List.set_cons_succ]
          refine wpAnyH_take (i := 18) (oi := ({ dst := some 92, op := Op.binOp BinOp.sub 3 (Operand.tmp 91) (Operand.const (Value.int IntKind.i64 1)) 3, type := 3, pos := "outright.go:49", after := #[{ on := 17, ground := Ground.data }, { on := 10, ground := Ground.guard }], guard := some (10, true) } : Oper)) (v := ?_) rfl (by kernel_rfl) (by kernel_rfl) (by kernel_rfl) (fun _ _ _ h => h) (Or.inl ⟨by rfl, ?_⟩) (by assumption) ?_
          rotate_left
          · (intro w hSw; (try dsimp only at hSw); go_simp; all_goals (with_reducible rfl))
          try simp only [Act.put, List.setIfInBounds_toArray, List.set_cons_zero, List.set_cons_succ]
          refine wpAnyH_take (i := 19) (oi := ({ dst := some 93, op := Op.indexAddr 22 (Operand.tmp 90) (Operand.tmp 92), type := 0, pos := "outright.go:49", after := #[{ on := 16, ground := Ground.data }, { on := 18, ground := Ground.data }, { on := 10, ground := Ground.guard }], guard := some (10, true) } : Oper)) (v := ?_) rfl (by kernel_rfl) (by kernel_rfl) (by kernel_rfl) (fun _ _ _ h => h) (Or.inl ⟨by rfl, ?_⟩) (by assumption) ?_
          rotate_left
          · (intro w hSw; (try dsimp only at hSw); go_simp; all_goals (with_reducible rfl))
          try simp only [Act.put, List.setIfInBounds_toArray, List.set_cons_zero, List.set_cons_succ]
          refine wpAnyH_take (i := 20) (oi := ({ dst := some 94, op := Op.load 21 (Operand.tmp 93), type := 21, pos := "outright.go:49", after := #[{ on := 19, ground := Ground.data }, { on := 10, ground := Ground.guard }], guard := some (10, true) } : Oper)) (v := ?_) rfl (by kernel_rfl) (by kernel_rfl) (by kernel_rfl) (fun _ _ _ h => h) (Or.inl ⟨by rfl, ?_⟩) (by assumption) ?_
          rotate_left
          · (intro w hSw; (try dsimp only at hSw); go_simp; all_goals (with_reducible rfl))
          try simp only [Act.put, List.setIfInBounds_toArray, List.set_cons_zero, List.set_cons_succ]
          refine wpAnyH_ready (rs := [15]) (by kernel_rfl) (by simp) ?_
          refine AllReadyH.cons (o := ({ dst := some 89, op := Op.call { callee := Callee.value (Operand.func 30), args := #[Operand.tmp 88], argTypes := #[21] }, type := 5, pos := "outright.go:49", after := #[{ on := 14, ground := Ground.data }, { on := 10, ground := Ground.chain }, { on := 10, ground := Ground.guard }], guard := some (10, true) } : Oper)) rfl (fun K hK => ?_) AllReadyH.nil
          (go_simp; go_at_call 30; refine (HMx.out _).mono ?_; rintro e wy ⟨rfl, bq⟩; have Bb := Lib.hid (Ba.out.trans (bq.mono Ba.out.size)); clear bq; (try dsimp only))
          refine hK.out _ _ (HCC.out _ Bb.out) (fun hHeld => ?_)
          clear hK K
          try simp only [Act.put, List.setIfInBounds_toArray, List.set_cons_zero, List.set_cons_succ]
          refine wpAnyH_ready (rs := [21]) (by kernel_rfl) (by simp) ?_
          refine AllReadyH.cons (o := ({ dst := some 95, op := Op.call { callee := Callee.value (Operand.func 30), args := #[Operand.tmp 94], argTypes := #[21] }, type := 5, pos := "outright.go:49", after := #[{ on := 20, ground := Ground.data }, { on := 15, ground := Ground.chain }, { on := 10, ground := Ground.guard }], guard := some (10, true) } : Oper)) rfl (fun K hK => ?_) AllReadyH.nil
          (go_simp; go_at_call 30; refine (HMy.out _).mono ?_; rintro e wz2 ⟨rfl, bz2⟩; have Bc := Lib.hid (Bb.out.trans (bz2.mono Bb.out.size)); clear bz2; (try dsimp only))
          refine hK.out _ _ (HCC.out _ Bc.out) (fun hHeld => ?_)
          clear hK K
          try simp only [Act.put, List.setIfInBounds_toArray, List.set_cons_zero, List.set_cons_succ]
          refine wpAnyH_take (i := 22) (oi := ({ dst := some 96, op := Op.binOp BinOp.lss 5 (Operand.tmp 89) (Operand.tmp 95) 5, type := 4, pos := "outright.go:49", after := #[{ on := 15, ground := Ground.data }, { on := 21, ground := Ground.data }, { on := 10, ground := Ground.guard }], guard := some (10, true) } : Oper)) (v := ?_) rfl (by kernel_rfl) (by kernel_rfl) (by kernel_rfl) (fun _ _ _ h => h) (Or.inl ⟨by rfl, ?_⟩) (by assumption) ?_
          rotate_left
          · (intro w hSw; (try dsimp only at hSw); go_simp; all_goals (with_reducible rfl))
          try simp only [Act.put, List.setIfInBounds_toArray, List.set_cons_zero, List.set_cons_succ]
          refine wpAnyH_take (i := 23) (oi := ({ dst := some 97, op := Op.pick (Operand.tmp 84) (Operand.tmp 96) (Operand.const (Value.bool false)), type := 4, pos := "outright.go:49", after := #[{ on := 10, ground := Ground.data }, { on := 22, ground := Ground.data }], guard := none } : Oper)) (v := ?_) rfl (by kernel_rfl) (by kernel_rfl) (by kernel_rfl) (fun _ _ _ h => h) (Or.inl ⟨by rfl, ?_⟩) (by assumption) ?_
          rotate_left
          · (intro w hSw; (try dsimp only at hSw); go_simp; all_goals (with_reducible rfl))
          try simp only [Act.put, List.setIfInBounds_toArray, List.set_cons_zero, List.set_cons_succ]
          refine wpAnyH_done (by kernel_rfl) ?_ _
          refine NoPanic.normal ?_
          go_wp2_with fail
          go_roundw
          case rel => exact ⟨k + 1, by omega, by go_num, Bc⟩
          case measure => simp [RowKit.intOf]; omega
    · have HbE := Lib.hid (Hba.out.trans (Hbr.out.mono Hba.out.size))
      have HTe := Lib.hid (Utf8Tabs_below HT.out HbE.out)
      go_wp2_with fail
      refine (HS1.out wr HTe.out).mono ?_
      rintro _ wc ⟨rfl, bc⟩
      have Hbc := Lib.hid (HbE.out.trans (bc.mono HbE.out.size))
      have HTc := Lib.hid (Utf8Tabs_below HT.out Hbc.out)
      clear bc
      go_wp2_with fail
      refine (HS2.out wc HTc.out).mono ?_
      rintro _ wd ⟨rfl, bd⟩
      have Hbd := Lib.hid (Hbc.out.trans (bd.mono Hbc.out.size))
      have HTd := Lib.hid (Utf8Tabs_below HT.out Hbd.out)
      clear bd
      go_wp2_with fail
      refine (HS3.out wd HTd.out).mono ?_
      rintro _ we ⟨rfl, be⟩
      have Hbe := Lib.hid (Hbd.out.trans (be.mono Hbd.out.size))
      have HTe2 := Lib.hid (Utf8Tabs_below HT.out Hbe.out)
      clear be
      go_wp2_with fail
      refine (wakes4_any we HTe2.out).mono ?_
      rintro _ wz ⟨rfl, bz⟩
      have Hbz := Lib.hid (Hbe.out.trans (bz.mono Hbe.out.size))
      clear bz
      go_wp2_with fail
      go_ret
      exact ⟨rfl, Hbz.out⟩
end Go.Proofs.YtakfgeonjamjeaaDoor
