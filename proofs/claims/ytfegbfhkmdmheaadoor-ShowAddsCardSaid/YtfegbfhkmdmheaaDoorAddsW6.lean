/- ShowAdds, walked. MADE: tools/mkadds6.py (drawn regions out of the seat's own text). -/
import Derived.Test.YtfegbfhkmdmheaaDoorAddsP
import Derived.Test.YtfegbfhkmdmheaaDoorAlive6
import Derived.Test.YtfegbfhkmdmheaaDoorRoundR
set_option linter.unusedSimpArgs false
set_option linter.unusedVariables false
namespace Go.Proofs.YtfegbfhkmdmheaaDoor
open Go.RowKit Go.Shelf Go.Lib
attribute [local go_sem] Oper.semAt_some

theorem boxed_keep6 {w w' : World} {b B : Nat} {t : TypeId} {v : Value} (h : Boxed w b t v) (hb : Below B w w') (hB : b < B) : Boxed w' b t v := (hb.block b hB).trans h
/-- what ShowAdds keeps from its beginning on -/
structure AddsK (W : World) (B : Nat) (s : ByteArray) (z tb : Int) (wd : Bool) (wt : Int) (jn rz : Bool) (wl : Int) : Prop where
  b0 : Boxed W B 9 (.string s)
  b1 : Boxed W (B + 1) 3 (.int .i64 z)
  l2 : LookAt W (B + 1 + 1) tb wd wt jn rz
  b3 : Boxed W (B + 1 + 1 + 1) 3 (.int .i64 wl)
theorem AddsK.below {W W' : World} {B C : Nat} {s : ByteArray} {z tb : Int} {wd : Bool} {wt : Int} {jn rz : Bool} {wl : Int} (h : AddsK W B s z tb wd wt jn rz wl) (hb : Below C W W') (hC : B + 4 ≤ C) : AddsK W' B s z tb wd wt jn rz wl :=
  ⟨boxed_keep6 h.b0 hb (by omega), boxed_keep6 h.b1 hb (by omega), h.l2.below hb (by omega), boxed_keep6 h.b3 hb (by omega)⟩
theorem LookAt.other6 {W : World} {b b' : Nat} {tb : Int} {wd : Bool} {wt : Int} {jn rz : Bool} (h : LookAt W b tb wd wt jn rz) (hne : b ≠ b') (v : Value) : LookAt (W.setCell ⟨b', 0, none⟩ v) b tb wd wt jn rz := by
  have k := KeepN.setCell (fun k => k ≠ b') (fun _ => False) W b' 0 v (fun e => e rfl) (fun e => e)
  exact ⟨k.cell (.inl hne) h.c0, k.cell (.inl hne) h.c1, k.cell (.inl hne) h.c2, k.cell (.inl hne) h.c3, k.cell (.inl hne) h.c4⟩
/-- behind the first choice -/
def MidA (s : ByteArray) (x1 tb : Int) (wd : Bool) (wt : Int) (jn rz : Bool) (wl : Int) (B : Nat) (w : World) (e : Exit) (a : Act) (W : World) : Prop :=
  e = .normal ∧ ∃ (u0 u1 u2 u3 u4 u5 : Value) (z : Int), a = { tmps := #[.string s, .int .i64 x1, lookV tb wd wt jn rz, .int .i64 wl, .pointer (some ⟨B, 0, none⟩), .pointer (some ⟨B + 1, 0, none⟩), .pointer (some ⟨B + 1 + 1, 0, none⟩), .pointer (some ⟨B + 1 + 1 + 1, 0, none⟩), .pointer (some ⟨B + 1 + 1 + 1 + 1, 0, none⟩), undef, undef, undef, undef, undef, undef, undef, undef, u0, u1, u2, u3, u4, u5, undef, undef, undef, undef, undef, undef, undef, undef, undef, undef, undef, undef, undef, undef, undef, undef, undef, undef, undef, undef, undef, undef, undef, undef, undef, undef, undef, undef, undef, undef, undef, undef, undef, undef, undef, undef, undef, undef, undef, undef, undef, undef, undef, undef, undef, undef, undef, undef, undef, undef, undef, undef, undef, undef, undef, undef, undef, undef, undef, undef, undef, undef, undef, undef, undef, undef, undef, undef, undef, undef, undef, undef, undef, undef, undef, undef, undef, undef, undef, undef, undef], defers := [] } ∧ (0 ≤ z ∧ z ≤ 1073741824) ∧ AddsK W B s z tb wd wt jn rz wl ∧ Boxed W (B + 1 + 1 + 1 + 1) 4 (.bool false) ∧ Below B w W ∧ W.heap.size = B + 5
set_option maxRecDepth 100000 in
set_option maxHeartbeats 8000000 in
theorem adds6_walk (s : ByteArray) (x1 tb : Int) (wd : Bool) (wt : Int) (jn rz : Bool) (wl : Int) (w : World) (hs : s.size ≤ 140737488351232) (hx1 : -9223372036854775808 ≤ x1 ∧ x1 ≤ 9223372036854775807) (hx3 : -9223372036854775808 ≤ wl ∧ wl ≤ 9223372036854775807) (hT : Utf8Tabs 0 1 w) :
    Calls Tryd.prog 5 #[.string s, .int .i64 x1, lookV tb wd wt jn rz, .int .i64 wl] w fun e w' => e = .returned (.bool true) ∧ Below w.heap.size w w' := by
  obtain ⟨B, hB⟩ : ∃ B, w.heap.size = B := ⟨_, rfl⟩
  have h2 : 2 ≤ w.heap.size := tabs_size hT
  have hpl := pcs_len s
  have HWd := Lib.hid (fun (q : ByteArray) (c : Int) (h0 : q.size ≤ 140737488351232) (h1 : 0 ≤ c) (h2 : c ≤ 9223372036854775807) W (hT : Utf8Tabs 0 1 W) => pwide_any q c tb wd wt jn rz W h0 (by omega) h2 hT)
  have HCt := Lib.hid (fun W (hT : Utf8Tabs 0 1 W) => pcut_any s wl tb wd wt jn rz W hs hT)
  have HAl := Lib.hid (fun W (hT : Utf8Tabs 0 1 W) => alive6_any W hT)
  have HMk := Lib.hid (fun W => cl_mk s W)
  have hisb := cut_isB rz wd tb s wl
  have hcs := cut_size rz wd tb s wl
  have Hend := Lib.hid (adds_end rz wd tb s wl)
  have Hrd := Lib.hid (fun c n x hx => adds_round rz wd tb s wl c n x hx)
  have hsb := fun c => sumW_bound rz wd tb (clsB s) c
  rw [clsB_len] at hsb
  obtain ⟨C, hC⟩ : ∃ C, cutZ rz wd tb s wl = C := ⟨_, rfl⟩
  rw [hC] at HCt hisb hcs Hend
  have HIs : Hid (∀ W, Utf8Tabs 0 1 W → Calls Tryd.prog 23 #[.string s, .int .i64 (C : Int)] W fun e w' => e = .returned (.bool true) ∧ Below W.heap.size W w') := Lib.hid (fun W hT => (is_any s (C : Int) W hs hT).mono (fun e w' ⟨⟨b, he, hb⟩, h⟩ => ⟨by rw [he, hb.2 hisb], h⟩))
  obtain ⟨F, hF⟩ : ∃ F, fitN rz wd (tabN tb) wl (clsB s) 0 = F := ⟨_, rfl⟩
  rw [hF] at Hend Hrd
  have hbst0 : bstX s F 0 = 0 := by unfold bstX; rw [show min (0 - 1) F = 0 by omega]; exact plX_zero s
  have HT := Lib.hid (fun (W : World) (h : Below B w W) => (Utf8Tabs_below hT (by rw [hB]; exact h) : Utf8Tabs 0 1 W))
  have HB := Lib.hid hB
  rw [hB] at h2 ⊢
  clear hT hC hF
  have hcase : x1 < 0 ∨ (0 ≤ x1 ∧ x1 ≤ 1073741824) ∨ 1073741824 < x1 := by omega
  refine (callsIn_wide (n := 9)).1 ?_
  refine callsIn_of_wp_marks Tryd.func5 rfl trivial ?_ rfl
  refine wpIn_wide.2 ?_
  simp only [Tryd.ntmps5, List.size_toArray, List.length_cons, List.length_nil, Nat.reduceAdd, Nat.reduceSub, Array.replicate_succ, Array.replicate_zero, List.push_toArray, List.append_toArray, List.nil_append, List.cons_append]
  refine wp_seq_k (fun K hK => ?_)
  have HKK := Lib.hid hK
  clear hK
  go_wp2_with fail
  refine HKK.out _ _ ?_
  clear HKK K
  obtain ⟨W0, hW0⟩ : ∃ W0, (((((w.alloc (.cells #[.string s] 9)).alloc (.cells #[.int .i64 x1] 3)).alloc (.cells #[.int .i64 tb, .bool wd, .int .i8 wt, .bool jn, .bool rz] 46)).alloc (.cells #[.int .i64 wl] 3)).alloc (.cells #[.bool false] 4)) = W0 := ⟨_, rfl⟩
  rw [hW0]
  have hsz : W0.heap.size = B + 5 := by rw [← hW0]; simp [HB.out]
  have q0 : Boxed W0 B 9 (.string s) := by rw [← hW0]; simp only [Boxed, alloc_get, World.size_alloc, HB.out]; rw [if_neg (by omega), if_neg (by omega), if_neg (by omega), if_neg (by omega)]; simp
  have q1 : Boxed W0 (B + 1) 3 (.int .i64 x1) := by rw [← hW0]; simp only [Boxed, alloc_get, World.size_alloc, HB.out]; rw [if_neg (by omega), if_neg (by omega), if_neg (by omega)]; simp
  have q2 : LookAt W0 (B + 1 + 1) tb wd wt jn rz := by
    have hl := LookAt.new ((w.alloc (.cells #[.string s] 9)).alloc (.cells #[.int .i64 x1] 3)) 46 tb wd wt jn rz
    rw [show ((w.alloc (.cells #[.string s] 9)).alloc (.cells #[.int .i64 x1] 3)).heap.size = B + 1 + 1 by simp [HB.out]] at hl
    rw [← hW0]
    refine hl.below (B := B + 1 + 1 + 1) ?_ (by omega)
    exact ((Below.refl _ _).alloc (by simp [HB.out]) _).alloc (by simp [HB.out]) _
  have q3 : Boxed W0 (B + 1 + 1 + 1) 3 (.int .i64 wl) := by rw [← hW0]; simp only [Boxed, alloc_get, World.size_alloc, HB.out]; rw [if_neg (by omega)]; simp
  have q4 : Boxed W0 (B + 1 + 1 + 1 + 1) 4 (.bool false) := by rw [← hW0]; simp only [Boxed, alloc_get, World.size_alloc, HB.out]; simp
  have q5 : Below B w W0 := by rw [← hW0]; exact (((((Below.refl B w).alloc (by omega) _).alloc (by simp; omega) _).alloc (by simp; omega) _).alloc (by simp; omega) _).alloc (by simp; omega) _
  clear hW0
  have k1 := q1.cell
  have k1f := q1.frozen
  refine wp_seq ?_
  refine wp_mono (Q := MidA s x1 tb wd wt jn rz wl B w) ?_ ?_
  · rcases hcase with hc | ⟨hc, hc'⟩ | hc
    · go_wp2_with fail
      exact ⟨rfl, _, _, _, _, _, _, 0, rfl, by omega, ⟨q0.other (B' := B + 1) (by omega) _, q1.set _, q2.other6 (by omega) _, q3.other (B' := B + 1) (by omega) _⟩, q4.other (B' := B + 1) (by omega) _, q5.setCell (p := ⟨B + 1, 0, none⟩) (by show B ≤ B + 1; omega) _, by simpa using hsz⟩
    · have hc2 : ¬ x1 < 0 := by omega
      have hc3 : ¬ 1073741824 < x1 := by omega
      go_wp2_with fail
      exact ⟨rfl, _, _, _, _, _, _, x1, rfl, by omega, ⟨q0, q1, q2, q3⟩, q4, q5, hsz⟩
    · have hc2 : ¬ x1 < 0 := by omega
      go_wp2_with fail
      exact ⟨rfl, _, _, _, _, _, _, 0, rfl, by omega, ⟨q0.other (B' := B + 1) (by omega) _, q1.set _, q2.other6 (by omega) _, q3.other (B' := B + 1) (by omega) _⟩, q4.other (B' := B + 1) (by omega) _, q5.setCell (p := ⟨B + 1, 0, none⟩) (by show B ≤ B + 1; omega) _, by simpa using hsz⟩
  clear q0 q1 q2 q3 q4 q5 hsz k1 k1f hcase W0
  rintro _ _ Wa ⟨rfl, u0, u1, u2, u3, u4, u5, z0, rfl, hzb, hK0, hr0, hb0, hs0⟩
  have g0 := hK0.b0.cell
  have g1 := hK0.b1.cell
  obtain ⟨e0, e1, e2, e3, e4⟩ := hK0.l2
  simp only [Exit.then]
  go_wp2_with fail
  clear g0 g1 e0 e1 e2 e3 e4
  have hw0 := HWd.out s z0 hs (by omega) (by omega) Wa (HT.out Wa hb0)
  obtain ⟨M, hM⟩ : ∃ M, wideZ rz wd tb s z0.toNat = M := ⟨_, rfl⟩
  rw [hM] at hw0
  refine hw0.mono ?_
  rintro _ w1 ⟨rfl, n1⟩
  have hK1 := hK0.below n1 (by omega)
  have hr1 := boxed_keep6 hr0 n1 (by omega)
  have hb1 := hb0.trans (n1.mono (by omega))
  have hs1 : B + 5 ≤ w1.heap.size := by have := n1.size; omega
  clear hw0 n1 hK0 hr0 hb0 hs0
  obtain ⟨A, hA⟩ : ∃ A, w1.heap.size = A := ⟨_, rfl⟩
  rw [hA] at hs1
  have HK1 := Lib.hid hK1
  have HR1 := Lib.hid hr1
  have HB1 := Lib.hid hb1
  have HA := Lib.hid hA
  have HM := Lib.hid hM
  clear hK1 hr1 hb1 hM
  have hM0 : ¬ (M : Int) < 0 := by omega
  have hnil : ∀ b W, (binOp .eql 49 (.func (.func 46) #[] b) .nilFunc).run Tryd.prog W = .ok (.bool false) W := fun b W => by rfl
  obtain ⟨W2, hW2⟩ : ∃ W2, w1.alloc (.cells #[.int .i64 (M : Int)] 3) = W2 := ⟨_, rfl⟩
  have hb2 : Below A w1 W2 := by rw [← hW2]; exact (Below.refl _ _).alloc (by rw [HA.out]; omega) _
  have hs2 : W2.heap.size = A + 1 := by rw [← hW2]; simp [HA.out]
  have hM2 : Boxed W2 A 3 (.int .i64 (M : Int)) := by rw [← hW2, ← HA.out]; exact Boxed.new _ _ _
  have hK2 := HK1.out.below hb2 (by omega)
  have HR2 := Lib.hid (boxed_keep6 HR1.out hb2 (by omega))
  have HB2 := Lib.hid (HB1.out.trans (hb2.mono (by omega)))
  have HM2 := Lib.hid hM2
  have HK2 := Lib.hid hK2
  have g0 := hK2.b0.cell
  clear hb2 hM2 hK2 HK1 HR1 HB1
  go_wp2_with fail
  refine (HMk.out _).mono ?_
  rintro _ w3 ⟨rfl, hw3⟩
  rw [hs2]
  have hb3 : Below (A + 1) W2 w3 := by rw [hw3]; exact (Below.refl _ _).alloc (by omega) _
  have hs3 : w3.heap.size = A + 2 := by rw [hw3]; simp [hs2]
  have hS3 : Boxed w3 (A + 1) 9 (.string s) := by rw [hw3, ← hs2]; exact Boxed.new _ _ _
  have HK3 := Lib.hid (HK2.out.below hb3 (by omega))
  have HR3 := Lib.hid (boxed_keep6 HR2.out hb3 (by omega))
  have HB3 := Lib.hid (HB2.out.trans (hb3.mono (by omega)))
  have HM3 := Lib.hid (boxed_keep6 HM2.out hb3 (by omega))
  have HS3 := Lib.hid hS3
  clear hb3 hw3 hS3 HK2 HR2 HB2 HM2 g0 hs2 hW2 HA
  go_wp2_with fail
  refine (HAl.out _ (HT.out _ HB3.out)).mono ?_
  rintro _ w4 ⟨rfl, n4⟩
  have HK4 := Lib.hid (HK3.out.below n4 (by omega))
  have HR4 := Lib.hid (boxed_keep6 HR3.out n4 (by omega))
  have HB4 := Lib.hid (HB3.out.trans (n4.mono (by omega)))
  have HM4 := Lib.hid (boxed_keep6 HM3.out n4 (by omega))
  have HS4 := Lib.hid (boxed_keep6 HS3.out n4 (by omega))
  have hs4 : A + 2 ≤ w4.heap.size := by have := n4.size; omega
  clear n4 HK3 HR3 HB3 HM3 HS3 hs3
  have g0 := HK4.out.b0.cell
  have g3 := HK4.out.b3.cell
  have gA := HM4.out.cell
  have gL := HK4.out.l2
  obtain ⟨e0, e1, e2, e3, e4⟩ := gL
  go_wp2_with fail
  refine (HCt.out _ (HT.out _ HB4.out)).mono ?_
  rintro _ w5 ⟨rfl, n5⟩
  have HK5 := Lib.hid (HK4.out.below n5 (by omega))
  have HR5 := Lib.hid (boxed_keep6 HR4.out n5 (by omega))
  have HB5 := Lib.hid (HB4.out.trans (n5.mono (by omega)))
  have HM5 := Lib.hid (boxed_keep6 HM4.out n5 (by omega))
  have HS5 := Lib.hid (boxed_keep6 HS4.out n5 (by omega))
  have hs5 : A + 2 ≤ w5.heap.size := by have := n5.size; omega
  clear n5 HK4 HR4 HB4 HM4 HS4 hs4 g0 g3 gA e0 e1 e2 e3 e4
  obtain ⟨G, hG⟩ : ∃ G, w5.heap.size = G := ⟨_, rfl⟩
  go_wp2_with fail
  obtain ⟨Wa, hWa⟩ : ∃ Wa, ((((w5.alloc (.cells #[.int .i64 (C : Int)] 3)).alloc (.cells #[.int .i64 0] 3)).alloc (.cells #[.int .i64 0] 3)).alloc (.cells #[.int .i64 0] 3)) = Wa := ⟨_, rfl⟩
  have hsz : Wa.heap.size = G + 4 := by rw [← hWa]; simp [hG]
  have x0 : Boxed Wa G 3 (.int .i64 (C : Int)) := by rw [← hWa]; simp only [Boxed, alloc_get, World.size_alloc, hG]; rw [if_neg (by omega), if_neg (by omega), if_neg (by omega)]; simp
  have x1' : Boxed Wa (G + 1) 3 (.int .i64 0) := by rw [← hWa]; simp only [Boxed, alloc_get, World.size_alloc, hG]; rw [if_neg (by omega), if_neg (by omega)]; simp
  have x2 : Boxed Wa (G + 1 + 1) 3 (.int .i64 0) := by rw [← hWa]; simp only [Boxed, alloc_get, World.size_alloc, hG]; rw [if_neg (by omega)]; simp
  have x3 : Boxed Wa (G + 1 + 1 + 1) 3 (.int .i64 0) := by rw [← hWa]; simp only [Boxed, alloc_get, World.size_alloc, hG]; simp
  have hba : Below G w5 Wa := by rw [← hWa]; exact ((((Below.refl G w5).alloc (by omega) _).alloc (by simp; omega) _).alloc (by simp; omega) _).alloc (by simp; omega) _
  rw [hG] at hs5
  have HKa := Lib.hid (HK5.out.below hba (by omega))
  have hRa := boxed_keep6 HR5.out hba (by omega)
  have HBa := Lib.hid (HB5.out.trans (hba.mono (by omega)))
  have HMa := Lib.hid (boxed_keep6 HM5.out hba (by omega))
  have hSa := boxed_keep6 HS5.out hba (by omega)
  have hTa := HT.out Wa HBa.out
  have HX0 := Lib.hid x0
  clear hba HK5 HR5 HB5 HM5 HS5 x0
  rw [hWa]
  clear hWa
  refine (wpIn_wide (n := 9)).1 ?_
  refine range_N1 rfl (by omega) (gf := 46) (lb := #[.pointer (some ⟨A + 1, 0, none⟩)]) rfl trivial (enters_of Tryd.func46 (by kernel_rfl) rfl)
    (seqCl 8 (by omega) (A + 1) (fun k => k < G + 4 ∧ k ≠ G + 1 ∧ k ≠ G + 1 + 1 ∧ k ≠ G + 1 + 1 + 1 ∧ k ≠ B + 1 + 1 + 1 + 1) s Wa (by omega) (by omega) (by omega) hSa.cell hs hTa) (fun k hk => by omega) (fun _ => rfl)
    (fun pre T W => (Boxed W (G + 1) 3 (.int .i64 ((bstX s F pre.length : Nat) : Int)) ∧ Boxed W (G + 1 + 1) 3 (.int .i64 (pre.length : Int)) ∧ Boxed W (G + 1 + 1 + 1) 3 (.int .i64 ((sumW rz wd (tabN tb) ((clsB s).take (pre.length - 1)) z0.toNat : Nat) : Int))) ∧ Below (G + 1) Wa W)
    (fun c pre T W => c = .ret ∧ Boxed W (B + 1 + 1 + 1 + 1) 4 (.bool true) ∧ Below B w W)
    ?hI ?hIx
    ⟨⟨by show Boxed Wa (G + 1) 3 (.int .i64 ((bstX s F 0 : Nat) : Int)); rw [hbst0]; exact x1', x2, x3⟩, Below.refl _ _⟩
    ?a1 ?assign ?body ?done ?stop
  case assign =>
    intro l x W K hK
    gi_wp2
    exact hK
  case hI =>
    rintro pre T T' W1 W2 ⟨⟨h1, h2', h3⟩, hb⟩ hT hm hg
    exact ⟨⟨(hm.block _ h1.lt (fun e => by have := (hT _ e).1; omega)).trans h1, (hm.block _ h2'.lt (fun e => by have := (hT _ e).1; omega)).trans h2', (hm.block _ h3.lt (fun e => by have := (hT _ e).1; omega)).trans h3⟩, hb.trans ⟨hm.os, hm.tape, hm.output, hm.size, fun k hk => hm.block k (by have := hb.size; omega) (fun e => by have := (hT _ e).1; omega)⟩⟩
  case hIx =>
    rintro cd pre T T' W1 W2 ⟨rfl, h2', hb⟩ hT hm hg
    exact ⟨rfl, (hm.block _ h2'.lt (fun e => by have := (hT _ e).1; omega)).trans h2', hb.trans ⟨hm.os, hm.tape, hm.output, hm.size, fun k hk => hm.block k (by have := hb.size; have := HB.out; omega) (fun e => by have := (hT _ e).1; omega)⟩⟩
  case body =>
    rintro l pre x T W hl hT hr0 ⟨⟨h1, h2', h3⟩, hb⟩ hlen hsp
    have hget := prefix_get hsp
    obtain ⟨a, b, z, ha, hbq, hz, hab, haS, hla, ha16, hb16, hz16, hxs, hy1, hy2⟩ := Hrd.out z0.toNat pre.length x hget
    obtain ⟨n, hn⟩ : ∃ n, pre.length = n := ⟨_, rfl⟩
    obtain ⟨n', hn'⟩ : ∃ n', n + 1 = n' := ⟨_, rfl⟩
    have hn1 : (pre ++ [x]).length = n' := by rw [List.length_append, hn, ← hn']; rfl
    rw [hn] at h1 h2' h3 haS hla hy1 hy2 hlen
    rw [hn'] at hy1 hy2
    rw [HM.out] at hab
    have hA1 := HWd.out (s.extract 0 x.1) z0 (by simp only [ByteArray.size_extract]; omega) (by omega) (by omega)
    have hA2 := HWd.out (s.extract x.1 s.size) (z0 + (a : Int)) (by simp only [ByteArray.size_extract]; omega) (by omega) (by omega)
    have hA3 := HWd.out (s.extract 0 x.1) 0 (by simp only [ByteArray.size_extract]; omega) (by omega) (by omega)
    rw [ha] at hA1
    rw [show (z0 + (a : Int)).toNat = z0.toNat + a by omega, hbq] at hA2
    rw [show Int.toNat 0 = 0 from rfl, hz] at hA3
    have Hlast : Hid (sumW rz wd (tabN tb) ((clsB s).take (n' - 1)) z0.toNat = a) := Lib.hid (by rw [← hn']; exact haS.symm)
    obtain ⟨lo, hlo⟩ : ∃ lo, sumW rz wd (tabN tb) ((clsB s).take (n - 1)) z0.toNat = lo := ⟨_, rfl⟩
    rw [hlo] at h3 hla
    obtain ⟨bo, hbo⟩ : ∃ bo, bstX s F n = bo := ⟨_, rfl⟩
    obtain ⟨bn, hbn⟩ : ∃ bn, bstX s F n' = bn := ⟨_, rfl⟩
    rw [hbo] at h1 hy2
    rw [hbn] at hy1 hy2
    have Hbn := Lib.hid hbn
    have Hn1 := Lib.hid hn1
    obtain ⟨q, hq⟩ : ∃ q, x.1 = q := ⟨_, rfl⟩
    rw [hq] at hA1 hA2 hA3 hy1 hxs
    have HA1 := Lib.hid hA1
    have HA2 := Lib.hid hA2
    have HA3 := Lib.hid hA3
    have hq0 : (0 : Int) ≤ (q : Int) := by omega
    have hq1 : (q : Int) ≤ (s.size : Int) := by omega
    have hw1 : IntKind.i64.wrap (z0 + (a : Int)) = z0 + (a : Int) := IntWalk.i64_in _ (by omega)
    have hw2 : IntKind.i64.wrap ((a : Int) + (b : Int)) = (M : Int) := by rw [IntWalk.i64_in _ (by omega)]; omega
    have hw3 : IntKind.i64.wrap ((n : Int) + 1) = (n' : Int) := by rw [IntWalk.i64_in _ (by omega)]; omega

    have hal : ¬ (a : Int) < (lo : Int) := by omega
    have hBW : G + 4 ≤ W.heap.size := by have := hb.size; omega
    have hnT : ∀ k, k < G + 4 → ¬ T k := fun k hk e => by have := (hT _ e).1; omega
    have Hb := Lib.hid hb
    have HbW := Lib.hid (HBa.out.trans (hb.mono (by omega)))
    have HK := Lib.hid (HKa.out.below hb (by omega))
    have HMw := Lib.hid (boxed_keep6 HMa.out hb (by omega))
    have HCw := Lib.hid (boxed_keep6 HX0.out hb (by omega))
    have HTw := Lib.hid (fun W' (h : Below W.heap.size W W') => HT.out W' (HbW.out.trans (h.mono (by omega))))
    have H1 := Lib.hid h1
    have H2 := Lib.hid h2'
    have H3 := Lib.hid h3
    have HS : Hid (∀ W', Below W.heap.size W W' → (fun W' => W'.cell? ⟨B, 0, none⟩ = some (.string s) ∧ W'.cell? ⟨B + 1, 0, none⟩ = some (.int .i64 z0) ∧ W'.cell? ⟨B + 1 + 1, 0, none⟩ = some (.int .i64 tb) ∧ W'.cell? ⟨B + 1 + 1, 1, none⟩ = some (.bool wd) ∧ W'.cell? ⟨B + 1 + 1, 2, none⟩ = some (.int .i8 wt) ∧ W'.cell? ⟨B + 1 + 1, 3, none⟩ = some (.bool jn) ∧ W'.cell? ⟨B + 1 + 1, 4, none⟩ = some (.bool rz) ∧ W'.cell? ⟨A, 0, none⟩ = some (.int .i64 (M : Int)) ∧ W'.cell? ⟨G + 1 + 1, 0, none⟩ = some (.int .i64 (n : Int)) ∧ W'.cell? ⟨G + 1 + 1 + 1, 0, none⟩ = some (.int .i64 (lo : Int))) W') := Lib.hid (fun W' h => by
      have k := HK.out.below h (by omega)
      have l := k.l2
      exact ⟨k.b0.cell, k.b1.cell, l.c0, l.c1, l.c2, l.c3, l.c4, (boxed_keep6 HMw.out h (by omega)).cell, (boxed_keep6 H2.out h (by omega)).cell, (boxed_keep6 H3.out h (by omega)).cell⟩)
    have Hv0 := Lib.hid ((Below.refl W.heap.size W).drew)
    have Hy1 := Lib.hid hy1
    have Hy2 := Lib.hid hy2
    have Hv1d : True := trivial
    clear hy1 hy2 hn' hget ha hbq hz hab haS hla hA1 hA2 hA3 hlo hbo hbn hn1 hb h1 h2' h3 hT hr0 hsp hlen
    gi_wp2_with fail
    refine regionR (S := (fun W' => W'.cell? ⟨B, 0, none⟩ = some (.string s) ∧ W'.cell? ⟨B + 1, 0, none⟩ = some (.int .i64 z0) ∧ W'.cell? ⟨B + 1 + 1, 0, none⟩ = some (.int .i64 tb) ∧ W'.cell? ⟨B + 1 + 1, 1, none⟩ = some (.bool wd) ∧ W'.cell? ⟨B + 1 + 1, 2, none⟩ = some (.int .i8 wt) ∧ W'.cell? ⟨B + 1 + 1, 3, none⟩ = some (.bool jn) ∧ W'.cell? ⟨B + 1 + 1, 4, none⟩ = some (.bool rz) ∧ W'.cell? ⟨A, 0, none⟩ = some (.int .i64 (M : Int)) ∧ W'.cell? ⟨G + 1 + 1, 0, none⟩ = some (.int .i64 (n : Int)) ∧ W'.cell? ⟨G + 1 + 1 + 1, 0, none⟩ = some (.int .i64 (lo : Int)))) (by kernel_rfl) (by kernel_rfl) (HS.out _ Hv0.out) (fun hHeld => ?_)
    refine wpAnyH_take (i := 0) (oi := ({ dst := some 46, op := Op.load 9 (Operand.tmp 4), type := 9, pos := "outright.go:41", after := #[], guard := none } : Oper)) (v := ?_) rfl (by kernel_rfl) (by kernel_rfl) (by kernel_rfl) (fun _ _ _ h => h) (Or.inl ⟨by rfl, ?_⟩) (by assumption) ?_
    rotate_left
    · (intro w hSw; (try dsimp only at hSw); go_simp; all_goals (with_reducible rfl))
    try simp only [Act.put, List.setIfInBounds_toArray, List.set_cons_zero, List.set_cons_succ]
    refine wpAnyH_take (i := 1) (oi := ({ dst := some 47, op := Op.move (Operand.tmp 15), type := 3, pos := "outright.go:41", after := #[], guard := none } : Oper)) (v := ?_) rfl (by kernel_rfl) (by kernel_rfl) (by kernel_rfl) (fun _ _ _ h => h) (Or.inl ⟨by rfl, ?_⟩) (by assumption) ?_
    rotate_left
    · (intro w hSw; (try dsimp only at hSw); go_simp; all_goals (with_reducible rfl))
    try simp only [Act.put, List.setIfInBounds_toArray, List.set_cons_zero, List.set_cons_succ]
    refine wpAnyH_take (i := 2) (oi := ({ dst := some 48, op := Op.slice 9 (Operand.tmp 46) none (some (Operand.tmp 47)) none, type := 9, pos := "outright.go:41", after := #[{ on := 0, ground := Ground.data }, { on := 1, ground := Ground.data }], guard := none } : Oper)) (v := ?_) rfl (by kernel_rfl) (by kernel_rfl) (by kernel_rfl) (fun _ _ _ h => h) (Or.inl ⟨by rfl, ?_⟩) (by assumption) ?_
    rotate_left
    · (intro w hSw; (try dsimp only at hSw); go_simp; all_goals (with_reducible rfl))
    try simp only [Act.put, List.setIfInBounds_toArray, List.set_cons_zero, List.set_cons_succ]
    refine wpAnyH_take (i := 3) (oi := ({ dst := some 49, op := Op.load 3 (Operand.tmp 5), type := 3, pos := "outright.go:41", after := #[], guard := none } : Oper)) (v := ?_) rfl (by kernel_rfl) (by kernel_rfl) (by kernel_rfl) (fun _ _ _ h => h) (Or.inl ⟨by rfl, ?_⟩) (by assumption) ?_
    rotate_left
    · (intro w hSw; (try dsimp only at hSw); go_simp; all_goals (with_reducible rfl))
    try simp only [Act.put, List.setIfInBounds_toArray, List.set_cons_zero, List.set_cons_succ]
    refine wpAnyH_take (i := 4) (oi := ({ dst := some 50, op := Op.load 46 (Operand.tmp 6), type := 46, pos := "outright.go:41", after := #[], guard := none } : Oper)) (v := ?_) rfl (by kernel_rfl) (by kernel_rfl) (by kernel_rfl) (fun _ _ _ h => h) (Or.inl ⟨by rfl, ?_⟩) (by assumption) ?_
    rotate_left
    · (intro w hSw; (try dsimp only at hSw); go_simp; all_goals (with_reducible rfl))
    try simp only [Act.put, List.setIfInBounds_toArray, List.set_cons_zero, List.set_cons_succ]
    refine wpAnyH_ready (rs := [5]) (by kernel_rfl) (by simp) ?_
    refine AllReadyH.cons (o := ({ dst := some 51, op := Op.call { callee := Callee.value (Operand.func 19), args := #[Operand.tmp 48, Operand.tmp 49, Operand.tmp 50], argTypes := #[9, 3, 46] }, type := 3, pos := "outright.go:41", after := #[{ on := 2, ground := Ground.data }, { on := 3, ground := Ground.data }, { on := 4, ground := Ground.data }], guard := none } : Oper)) rfl (fun K hK => ?_) AllReadyH.nil
    (go_simp; go_at_call 19; refine (HA1.out _ (HTw.out _ Hv0.out)).mono ?_; rintro _ v1 ⟨rfl, bb1⟩; have Hv1 := Lib.hid (Hv0.out.trans (bb1.mono Hv0.out.size)); clear bb1; (try dsimp only))
    refine hK.out _ _ (HS.out _ Hv1.out) (fun hHeld => ?_)
    clear hK K
    try simp only [Act.put, List.setIfInBounds_toArray, List.set_cons_zero, List.set_cons_succ]
    refine wpAnyH_take (i := 6) (oi := ({ dst := some 16, op := Op.assign (Operand.tmp 51), type := 3, pos := "outright.go:41", after := #[{ on := 5, ground := Ground.data }, { on := 5, ground := Ground.chain }, { on := 0, ground := Ground.phase }, { on := 1, ground := Ground.phase }, { on := 2, ground := Ground.phase }, { on := 3, ground := Ground.phase }, { on := 4, ground := Ground.phase }, { on := 5, ground := Ground.phase }], guard := none } : Oper)) (v := ?_) rfl (by kernel_rfl) (by kernel_rfl) (by kernel_rfl) (fun _ _ _ h => h) (Or.inl ⟨by rfl, ?_⟩) (by assumption) ?_
    rotate_left
    · (intro w hSw; (try dsimp only at hSw); go_simp; all_goals (with_reducible rfl))
    try simp only [Act.put, List.setIfInBounds_toArray, List.set_cons_zero, List.set_cons_succ]
    refine wpAnyH_done (by kernel_rfl) ?_ _
    refine NoOut.normal ?_

    have Hv1d := Lib.hid (Hv1.out.drew)
    by_cases h60 : (n : Int) < 60
    · gi_wp2_with fail
      refine regionR (S := (fun W' => W'.cell? ⟨B, 0, none⟩ = some (.string s) ∧ W'.cell? ⟨B + 1, 0, none⟩ = some (.int .i64 z0) ∧ W'.cell? ⟨B + 1 + 1, 0, none⟩ = some (.int .i64 tb) ∧ W'.cell? ⟨B + 1 + 1, 1, none⟩ = some (.bool wd) ∧ W'.cell? ⟨B + 1 + 1, 2, none⟩ = some (.int .i8 wt) ∧ W'.cell? ⟨B + 1 + 1, 3, none⟩ = some (.bool jn) ∧ W'.cell? ⟨B + 1 + 1, 4, none⟩ = some (.bool rz) ∧ W'.cell? ⟨A, 0, none⟩ = some (.int .i64 (M : Int)) ∧ W'.cell? ⟨G + 1 + 1, 0, none⟩ = some (.int .i64 (n : Int)) ∧ W'.cell? ⟨G + 1 + 1 + 1, 0, none⟩ = some (.int .i64 (lo : Int)))) (by kernel_rfl) (by kernel_rfl) (HS.out _ Hv1d.out) (fun hHeld => ?_)
      refine wpAnyH_take (i := 0) (oi := ({ dst := some 52, op := Op.load 3 (Operand.tmp 13), type := 3, pos := "outright.go:42", after := #[], guard := none } : Oper)) (v := ?_) rfl (by kernel_rfl) (by kernel_rfl) (by kernel_rfl) (fun _ _ _ h => h) (Or.inl ⟨by rfl, ?_⟩) (by assumption) ?_
      rotate_left
      · (intro w hSw; (try dsimp only at hSw); go_simp; all_goals (with_reducible rfl))
      try simp only [Act.put, List.setIfInBounds_toArray, List.set_cons_zero, List.set_cons_succ]
      refine wpAnyH_take (i := 1) (oi := ({ dst := some 53, op := Op.binOp BinOp.lss 3 (Operand.tmp 52) (Operand.const (Value.int IntKind.i64 60)) 3, type := 4, pos := "outright.go:42", after := #[{ on := 0, ground := Ground.data }], guard := none } : Oper)) (v := ?_) rfl (by kernel_rfl) (by kernel_rfl) (by kernel_rfl) (fun _ _ _ h => h) (Or.inl ⟨by rfl, ?_⟩) (by assumption) ?_
      rotate_left
      · (intro w hSw; (try dsimp only at hSw); go_simp; all_goals (with_reducible rfl))
      try simp only [Act.put, List.setIfInBounds_toArray, List.set_cons_zero, List.set_cons_succ]
      refine wpAnyH_take (i := 2) (oi := ({ dst := some 54, op := Op.move (Operand.tmp 53), type := 4, pos := "outright.go:42", after := #[{ on := 1, ground := Ground.data }], guard := none } : Oper)) (v := ?_) rfl (by kernel_rfl) (by kernel_rfl) (by kernel_rfl) (fun _ _ _ h => h) (Or.inl ⟨by rfl, ?_⟩) (by assumption) ?_
      rotate_left
      · (intro w hSw; (try dsimp only at hSw); go_simp; all_goals (with_reducible rfl))
      try simp only [Act.put, List.setIfInBounds_toArray, List.set_cons_zero, List.set_cons_succ]
      refine wpAnyH_take (i := 3) (oi := ({ dst := some 55, op := Op.move (Operand.tmp 16), type := 3, pos := "outright.go:42", after := #[{ on := 2, ground := Ground.guard }], guard := some (2, true) } : Oper)) (v := ?_) rfl (by kernel_rfl) (by kernel_rfl) (by kernel_rfl) (fun _ _ _ h => h) (Or.inl ⟨by rfl, ?_⟩) (by assumption) ?_
      rotate_left
      · (intro w hSw; (try dsimp only at hSw); go_simp; all_goals (with_reducible rfl))
      try simp only [Act.put, List.setIfInBounds_toArray, List.set_cons_zero, List.set_cons_succ]
      refine wpAnyH_take (i := 4) (oi := ({ dst := some 56, op := Op.load 9 (Operand.tmp 4), type := 9, pos := "outright.go:42", after := #[{ on := 2, ground := Ground.guard }], guard := some (2, true) } : Oper)) (v := ?_) rfl (by kernel_rfl) (by kernel_rfl) (by kernel_rfl) (fun _ _ _ h => h) (Or.inl ⟨by rfl, ?_⟩) (by assumption) ?_
      rotate_left
      · (intro w hSw; (try dsimp only at hSw); go_simp; all_goals (with_reducible rfl))
      try simp only [Act.put, List.setIfInBounds_toArray, List.set_cons_zero, List.set_cons_succ]
      refine wpAnyH_take (i := 5) (oi := ({ dst := some 57, op := Op.move (Operand.tmp 15), type := 3, pos := "outright.go:42", after := #[{ on := 2, ground := Ground.guard }], guard := some (2, true) } : Oper)) (v := ?_) rfl (by kernel_rfl) (by kernel_rfl) (by kernel_rfl) (fun _ _ _ h => h) (Or.inl ⟨by rfl, ?_⟩) (by assumption) ?_
      rotate_left
      · (intro w hSw; (try dsimp only at hSw); go_simp; all_goals (with_reducible rfl))
      try simp only [Act.put, List.setIfInBounds_toArray, List.set_cons_zero, List.set_cons_succ]
      refine wpAnyH_take (i := 6) (oi := ({ dst := some 58, op := Op.slice 9 (Operand.tmp 56) (some (Operand.tmp 57)) none none, type := 9, pos := "outright.go:42", after := #[{ on := 4, ground := Ground.data }, { on := 5, ground := Ground.data }, { on := 2, ground := Ground.guard }], guard := some (2, true) } : Oper)) (v := ?_) rfl (by kernel_rfl) (by kernel_rfl) (by kernel_rfl) (fun _ _ _ h => h) (Or.inl ⟨by rfl, ?_⟩) (by assumption) ?_
      rotate_left
      · (intro w hSw; (try dsimp only at hSw); go_simp; all_goals (with_reducible rfl))
      try simp only [Act.put, List.setIfInBounds_toArray, List.set_cons_zero, List.set_cons_succ]
      refine wpAnyH_take (i := 7) (oi := ({ dst := some 59, op := Op.load 3 (Operand.tmp 5), type := 3, pos := "outright.go:42", after := #[{ on := 2, ground := Ground.guard }], guard := some (2, true) } : Oper)) (v := ?_) rfl (by kernel_rfl) (by kernel_rfl) (by kernel_rfl) (fun _ _ _ h => h) (Or.inl ⟨by rfl, ?_⟩) (by assumption) ?_
      rotate_left
      · (intro w hSw; (try dsimp only at hSw); go_simp; all_goals (with_reducible rfl))
      try simp only [Act.put, List.setIfInBounds_toArray, List.set_cons_zero, List.set_cons_succ]
      refine wpAnyH_take (i := 8) (oi := ({ dst := some 60, op := Op.move (Operand.tmp 16), type := 3, pos := "outright.go:42", after := #[{ on := 2, ground := Ground.guard }], guard := some (2, true) } : Oper)) (v := ?_) rfl (by kernel_rfl) (by kernel_rfl) (by kernel_rfl) (fun _ _ _ h => h) (Or.inl ⟨by rfl, ?_⟩) (by assumption) ?_
      rotate_left
      · (intro w hSw; (try dsimp only at hSw); go_simp; all_goals (with_reducible rfl))
      try simp only [Act.put, List.setIfInBounds_toArray, List.set_cons_zero, List.set_cons_succ]
      refine wpAnyH_take (i := 9) (oi := ({ dst := some 61, op := Op.binOp BinOp.add 3 (Operand.tmp 59) (Operand.tmp 60) 3, type := 3, pos := "outright.go:42", after := #[{ on := 7, ground := Ground.data }, { on := 8, ground := Ground.data }, { on := 2, ground := Ground.guard }], guard := some (2, true) } : Oper)) (v := ?_) rfl (by kernel_rfl) (by kernel_rfl) (by kernel_rfl) (fun _ _ _ h => h) (Or.inl ⟨by rfl, ?_⟩) (by assumption) ?_
      rotate_left
      · (intro w hSw; (try dsimp only at hSw); go_simp; all_goals (with_reducible rfl))
      try simp only [Act.put, List.setIfInBounds_toArray, List.set_cons_zero, List.set_cons_succ]
      refine wpAnyH_take (i := 10) (oi := ({ dst := some 62, op := Op.load 46 (Operand.tmp 6), type := 46, pos := "outright.go:42", after := #[{ on := 2, ground := Ground.guard }], guard := some (2, true) } : Oper)) (v := ?_) rfl (by kernel_rfl) (by kernel_rfl) (by kernel_rfl) (fun _ _ _ h => h) (Or.inl ⟨by rfl, ?_⟩) (by assumption) ?_
      rotate_left
      · (intro w hSw; (try dsimp only at hSw); go_simp; all_goals (with_reducible rfl))
      try simp only [Act.put, List.setIfInBounds_toArray, List.set_cons_zero, List.set_cons_succ]
      refine wpAnyH_take (i := 13) (oi := ({ dst := some 65, op := Op.load 3 (Operand.tmp 9), type := 3, pos := "outright.go:42", after := #[{ on := 2, ground := Ground.guard }], guard := some (2, true) } : Oper)) (v := ?_) rfl (by kernel_rfl) (by kernel_rfl) (by kernel_rfl) (fun _ _ _ h => h) (Or.inl ⟨by rfl, ?_⟩) (by assumption) ?_
      rotate_left
      · (intro w hSw; (try dsimp only at hSw); go_simp; all_goals (with_reducible rfl))
      try simp only [Act.put, List.setIfInBounds_toArray, List.set_cons_zero, List.set_cons_succ]
      refine wpAnyH_ready (rs := [11]) (by kernel_rfl) (by simp) ?_
      refine AllReadyH.cons (o := ({ dst := some 63, op := Op.call { callee := Callee.value (Operand.func 19), args := #[Operand.tmp 58, Operand.tmp 61, Operand.tmp 62], argTypes := #[9, 3, 46] }, type := 3, pos := "outright.go:42", after := #[{ on := 6, ground := Ground.data }, { on := 9, ground := Ground.data }, { on := 10, ground := Ground.data }, { on := 2, ground := Ground.chain }, { on := 2, ground := Ground.guard }], guard := some (2, true) } : Oper)) rfl (fun K hK => ?_) AllReadyH.nil
      (go_simp; go_at_call 19; refine (HA2.out _ (HTw.out _ Hv1d.out)).mono ?_; rintro _ v2 ⟨rfl, bb2⟩; have Hv2 := Lib.hid (Hv1d.out.trans (bb2.mono Hv1d.out.size)); clear bb2; (try dsimp only))
      refine hK.out _ _ (HS.out _ Hv2.out) (fun hHeld => ?_)
      clear hK K
      try simp only [Act.put, List.setIfInBounds_toArray, List.set_cons_zero, List.set_cons_succ]
      refine wpAnyH_take (i := 12) (oi := ({ dst := some 64, op := Op.binOp BinOp.add 3 (Operand.tmp 55) (Operand.tmp 63) 3, type := 3, pos := "outright.go:42", after := #[{ on := 3, ground := Ground.data }, { on := 11, ground := Ground.data }, { on := 2, ground := Ground.guard }], guard := some (2, true) } : Oper)) (v := ?_) rfl (by kernel_rfl) (by kernel_rfl) (by kernel_rfl) (fun _ _ _ h => h) (Or.inl ⟨by rfl, ?_⟩) (by assumption) ?_
      rotate_left
      · (intro w hSw; (try dsimp only at hSw); go_simp; all_goals (with_reducible rfl))
      try simp only [Act.put, List.setIfInBounds_toArray, List.set_cons_zero, List.set_cons_succ]
      refine wpAnyH_take (i := 14) (oi := ({ dst := some 66, op := Op.binOp BinOp.neq 3 (Operand.tmp 64) (Operand.tmp 65) 3, type := 4, pos := "outright.go:42", after := #[{ on := 12, ground := Ground.data }, { on := 13, ground := Ground.data }, { on := 2, ground := Ground.guard }], guard := some (2, true) } : Oper)) (v := ?_) rfl (by kernel_rfl) (by kernel_rfl) (by kernel_rfl) (fun _ _ _ h => h) (Or.inl ⟨by rfl, ?_⟩) (by assumption) ?_
      rotate_left
      · (intro w hSw; (try dsimp only at hSw); go_simp; all_goals (with_reducible rfl))
      try simp only [Act.put, List.setIfInBounds_toArray, List.set_cons_zero, List.set_cons_succ]
      refine wpAnyH_take (i := 15) (oi := ({ dst := some 67, op := Op.pick (Operand.tmp 54) (Operand.tmp 66) (Operand.const (Value.bool false)), type := 4, pos := "outright.go:42", after := #[{ on := 2, ground := Ground.data }, { on := 14, ground := Ground.data }], guard := none } : Oper)) (v := ?_) rfl (by kernel_rfl) (by kernel_rfl) (by kernel_rfl) (fun _ _ _ h => h) (Or.inl ⟨by rfl, ?_⟩) (by assumption) ?_
      rotate_left
      · (intro w hSw; (try dsimp only at hSw); go_simp; all_goals (with_reducible rfl))
      try simp only [Act.put, List.setIfInBounds_toArray, List.set_cons_zero, List.set_cons_succ]
      refine wpAnyH_take (i := 16) (oi := ({ dst := some 68, op := Op.move (Operand.tmp 67), type := 4, pos := "outright.go:42", after := #[{ on := 15, ground := Ground.data }, { on := 11, ground := Ground.chain }], guard := none } : Oper)) (v := ?_) rfl (by kernel_rfl) (by kernel_rfl) (by kernel_rfl) (fun _ _ _ h => h) (Or.inl ⟨by rfl, ?_⟩) (by assumption) ?_
      rotate_left
      · (intro w hSw; (try dsimp only at hSw); go_simp; all_goals (with_reducible rfl))
      try simp only [Act.put, List.setIfInBounds_toArray, List.set_cons_zero, List.set_cons_succ]
      refine wpAnyH_take (i := 17) (oi := ({ dst := some 69, op := Op.move (Operand.tmp 16), type := 3, pos := "outright.go:42", after := #[{ on := 16, ground := Ground.guard }], guard := some (16, false) } : Oper)) (v := ?_) rfl (by kernel_rfl) (by kernel_rfl) (by kernel_rfl) (fun _ _ _ h => h) (Or.inl ⟨by rfl, ?_⟩) (by assumption) ?_
      rotate_left
      · (intro w hSw; (try dsimp only at hSw); go_simp; all_goals (with_reducible rfl))
      try simp only [Act.put, List.setIfInBounds_toArray, List.set_cons_zero, List.set_cons_succ]
      refine wpAnyH_take (i := 18) (oi := ({ dst := some 70, op := Op.load 3 (Operand.tmp 14), type := 3, pos := "outright.go:42", after := #[{ on := 16, ground := Ground.guard }], guard := some (16, false) } : Oper)) (v := ?_) rfl (by kernel_rfl) (by kernel_rfl) (by kernel_rfl) (fun _ _ _ h => h) (Or.inl ⟨by rfl, ?_⟩) (by assumption) ?_
      rotate_left
      · (intro w hSw; (try dsimp only at hSw); go_simp; all_goals (with_reducible rfl))
      try simp only [Act.put, List.setIfInBounds_toArray, List.set_cons_zero, List.set_cons_succ]
      refine wpAnyH_take (i := 19) (oi := ({ dst := some 71, op := Op.binOp BinOp.lss 3 (Operand.tmp 69) (Operand.tmp 70) 3, type := 4, pos := "outright.go:42", after := #[{ on := 17, ground := Ground.data }, { on := 18, ground := Ground.data }, { on := 16, ground := Ground.guard }], guard := some (16, false) } : Oper)) (v := ?_) rfl (by kernel_rfl) (by kernel_rfl) (by kernel_rfl) (fun _ _ _ h => h) (Or.inl ⟨by rfl, ?_⟩) (by assumption) ?_
      rotate_left
      · (intro w hSw; (try dsimp only at hSw); go_simp; all_goals (with_reducible rfl))
      try simp only [Act.put, List.setIfInBounds_toArray, List.set_cons_zero, List.set_cons_succ]
      refine wpAnyH_take (i := 20) (oi := ({ dst := some 72, op := Op.pick (Operand.tmp 68) (Operand.const (Value.bool true)) (Operand.tmp 71), type := 4, pos := "outright.go:42", after := #[{ on := 16, ground := Ground.data }, { on := 19, ground := Ground.data }], guard := none } : Oper)) (v := ?_) rfl (by kernel_rfl) (by kernel_rfl) (by kernel_rfl) (fun _ _ _ h => h) (Or.inl ⟨by rfl, ?_⟩) (by assumption) ?_
      rotate_left
      · (intro w hSw; (try dsimp only at hSw); go_simp; all_goals (with_reducible rfl))
      try simp only [Act.put, List.setIfInBounds_toArray, List.set_cons_zero, List.set_cons_succ]
      refine wpAnyH_done (by kernel_rfl) ?_ _
      refine NoOut.normal ?_
      have m1 := boxed_keep6 H1.out Hv2.out H1.out.lt
      have m2 := boxed_keep6 H2.out Hv2.out H2.out.lt
      have m3 := boxed_keep6 H3.out Hv2.out H3.out.lt
      have m3c := m3.cell
      have m3f := m3.frozen
      have hk0 := (KeepN.of_below ((fun k => k < G + 4 ∧ k ≠ G + 1 ∧ k ≠ G + 1 + 1 ∧ k ≠ G + 1 + 1 + 1 ∧ k ≠ B + 1 + 1 + 1 + 1)) T Hv2.out).trans (KeepN.setCell _ T _ (G + 1 + 1 + 1) 0 (.int .i64 (a : Int)) (fun e => e.2.2.2.1 rfl) (hnT _ (by omega)))
      have hb0 := (Hb.out.trans (Hv2.out.mono (by omega))).setCell (p := ⟨G + 1 + 1 + 1, 0, none⟩) (by show G + 1 ≤ G + 1 + 1 + 1; omega) (.int .i64 (a : Int))
      have p3 := m3.set (.int .i64 (a : Int))
      have p2 := m2.other (B' := G + 1 + 1 + 1) (by omega) (.int .i64 (a : Int))
      have p1 := m1.other (B' := G + 1 + 1 + 1) (by omega) (.int .i64 (a : Int))
      obtain ⟨V1, hV1⟩ : ∃ V1, (v2).setCell ⟨G + 1 + 1 + 1, 0, none⟩ (.int .i64 (a : Int)) = V1 := ⟨_, rfl⟩
      rw [hV1] at hk0 hb0 p3 p2 p1
      have p2c := p2.cell
      have p2f := p2.frozen
      have hk1 := hk0.trans (KeepN.setCell _ T V1 (G + 1 + 1) 0 (.int .i64 (n' : Int)) (fun e => e.2.2.1 rfl) (hnT _ (by omega)))
      have hb1 := hb0.setCell (p := ⟨G + 1 + 1, 0, none⟩) (by show G + 1 ≤ G + 1 + 1; omega) (.int .i64 (n' : Int))
      have r2 := p2.set (.int .i64 (n' : Int))
      have r3 := p3.other (B' := G + 1 + 1) (by omega) (.int .i64 (n' : Int))
      have r1 := p1.other (B' := G + 1 + 1) (by omega) (.int .i64 (n' : Int))
      obtain ⟨V2, hV2⟩ : ∃ V2, V1.setCell ⟨G + 1 + 1, 0, none⟩ (.int .i64 (n' : Int)) = V2 := ⟨_, rfl⟩
      rw [hV2] at hk1 hb1 r2 r3 r1
      have HK1 := Lib.hid hk1
      have Hb1 := Lib.hid hb1
      have HR1 := Lib.hid r1
      have HR2 := Lib.hid r2
      have HR3 := Lib.hid r3
      have HKv := Lib.hid (HKa.out.below hb1 (by omega))
      have HTv := Lib.hid (fun W' (h : Below V2.heap.size V2 W') => HT.out W' ((HBa.out.trans (hb1.mono (by omega))).trans (h.mono (by have := hb1.size; omega))))
      have hGV : G + 4 ≤ V2.heap.size := by have := hb1.size; omega
      have HS2 : Hid (∀ W', Below V2.heap.size V2 W' → (fun W' => W'.cell? ⟨B, 0, none⟩ = some (.string s) ∧ W'.cell? ⟨B + 1 + 1, 0, none⟩ = some (.int .i64 tb) ∧ W'.cell? ⟨B + 1 + 1, 1, none⟩ = some (.bool wd) ∧ W'.cell? ⟨B + 1 + 1, 2, none⟩ = some (.int .i8 wt) ∧ W'.cell? ⟨B + 1 + 1, 3, none⟩ = some (.bool jn) ∧ W'.cell? ⟨B + 1 + 1, 4, none⟩ = some (.bool rz) ∧ W'.cell? ⟨B + 1 + 1 + 1, 0, none⟩ = some (.int .i64 wl)) W') := Lib.hid (fun W' h => by
        have k := HKv.out.below h (by omega)
        have l := k.l2
        exact ⟨k.b0.cell, l.c0, l.c1, l.c2, l.c3, l.c4, k.b3.cell⟩)
      have Hv5 := Lib.hid ((Below.refl V2.heap.size V2).drew)
      clear m1 m2 m3 hk0 hb0 p1 p2 p3 hk1 hb1 r1 r2 r3
      gi_wp2_with fail
      clear m3c m3f p2c p2f hV1 hV2
      refine regionR (S := (fun W' => W'.cell? ⟨B, 0, none⟩ = some (.string s) ∧ W'.cell? ⟨B + 1 + 1, 0, none⟩ = some (.int .i64 tb) ∧ W'.cell? ⟨B + 1 + 1, 1, none⟩ = some (.bool wd) ∧ W'.cell? ⟨B + 1 + 1, 2, none⟩ = some (.int .i8 wt) ∧ W'.cell? ⟨B + 1 + 1, 3, none⟩ = some (.bool jn) ∧ W'.cell? ⟨B + 1 + 1, 4, none⟩ = some (.bool rz) ∧ W'.cell? ⟨B + 1 + 1 + 1, 0, none⟩ = some (.int .i64 wl))) (by kernel_rfl) (by kernel_rfl) (HS2.out _ Hv5.out) (fun hHeld => ?_)
      refine wpAnyH_take (i := 0) (oi := ({ dst := some 76, op := Op.load 9 (Operand.tmp 4), type := 9, pos := "outright.go:47", after := #[], guard := none } : Oper)) (v := ?_) rfl (by kernel_rfl) (by kernel_rfl) (by kernel_rfl) (fun _ _ _ h => h) (Or.inl ⟨by rfl, ?_⟩) (by assumption) ?_
      rotate_left
      · (intro w hSw; (try dsimp only at hSw); go_simp; all_goals (with_reducible rfl))
      try simp only [Act.put, List.setIfInBounds_toArray, List.set_cons_zero, List.set_cons_succ]
      refine wpAnyH_take (i := 1) (oi := ({ dst := some 77, op := Op.move (Operand.tmp 15), type := 3, pos := "outright.go:47", after := #[], guard := none } : Oper)) (v := ?_) rfl (by kernel_rfl) (by kernel_rfl) (by kernel_rfl) (fun _ _ _ h => h) (Or.inl ⟨by rfl, ?_⟩) (by assumption) ?_
      rotate_left
      · (intro w hSw; (try dsimp only at hSw); go_simp; all_goals (with_reducible rfl))
      try simp only [Act.put, List.setIfInBounds_toArray, List.set_cons_zero, List.set_cons_succ]
      refine wpAnyH_take (i := 2) (oi := ({ dst := some 78, op := Op.slice 9 (Operand.tmp 76) none (some (Operand.tmp 77)) none, type := 9, pos := "outright.go:47", after := #[{ on := 0, ground := Ground.data }, { on := 1, ground := Ground.data }], guard := none } : Oper)) (v := ?_) rfl (by kernel_rfl) (by kernel_rfl) (by kernel_rfl) (fun _ _ _ h => h) (Or.inl ⟨by rfl, ?_⟩) (by assumption) ?_
      rotate_left
      · (intro w hSw; (try dsimp only at hSw); go_simp; all_goals (with_reducible rfl))
      try simp only [Act.put, List.setIfInBounds_toArray, List.set_cons_zero, List.set_cons_succ]
      refine wpAnyH_take (i := 3) (oi := ({ dst := some 79, op := Op.load 46 (Operand.tmp 6), type := 46, pos := "outright.go:47", after := #[], guard := none } : Oper)) (v := ?_) rfl (by kernel_rfl) (by kernel_rfl) (by kernel_rfl) (fun _ _ _ h => h) (Or.inl ⟨by rfl, ?_⟩) (by assumption) ?_
      rotate_left
      · (intro w hSw; (try dsimp only at hSw); go_simp; all_goals (with_reducible rfl))
      try simp only [Act.put, List.setIfInBounds_toArray, List.set_cons_zero, List.set_cons_succ]
      refine wpAnyH_take (i := 5) (oi := ({ dst := some 81, op := Op.load 3 (Operand.tmp 7), type := 3, pos := "outright.go:47", after := #[], guard := none } : Oper)) (v := ?_) rfl (by kernel_rfl) (by kernel_rfl) (by kernel_rfl) (fun _ _ _ h => h) (Or.inl ⟨by rfl, ?_⟩) (by assumption) ?_
      rotate_left
      · (intro w hSw; (try dsimp only at hSw); go_simp; all_goals (with_reducible rfl))
      try simp only [Act.put, List.setIfInBounds_toArray, List.set_cons_zero, List.set_cons_succ]
      refine wpAnyH_ready (rs := [4]) (by kernel_rfl) (by simp) ?_
      refine AllReadyH.cons (o := ({ dst := some 80, op := Op.call { callee := Callee.value (Operand.func 19), args := #[Operand.tmp 78, Operand.const (Value.int IntKind.i64 0), Operand.tmp 79], argTypes := #[9, 3, 46] }, type := 3, pos := "outright.go:47", after := #[{ on := 2, ground := Ground.data }, { on := 3, ground := Ground.data }], guard := none } : Oper)) rfl (fun K hK => ?_) AllReadyH.nil
      (go_simp; go_at_call 19; refine (HA3.out _ (HTv.out _ Hv5.out)).mono ?_; rintro _ v6 ⟨rfl, bb6⟩; have Hv6 := Lib.hid (Hv5.out.trans (bb6.mono Hv5.out.size)); clear bb6; (try dsimp only))
      refine hK.out _ _ (HS2.out _ Hv6.out) (fun hHeld => ?_)
      clear hK K
      try simp only [Act.put, List.setIfInBounds_toArray, List.set_cons_zero, List.set_cons_succ]
      refine wpAnyH_take (i := 6) (oi := ({ dst := some 82, op := Op.binOp BinOp.leq 3 (Operand.tmp 80) (Operand.tmp 81) 3, type := 4, pos := "outright.go:47", after := #[{ on := 4, ground := Ground.data }, { on := 5, ground := Ground.data }], guard := none } : Oper)) (v := ?_) rfl (by kernel_rfl) (by kernel_rfl) (by kernel_rfl) (fun _ _ _ h => h) (Or.inl ⟨by rfl, ?_⟩) (by assumption) ?_
      rotate_left
      · (intro w hSw; (try dsimp only at hSw); go_simp; all_goals (with_reducible rfl))
      try simp only [Act.put, List.setIfInBounds_toArray, List.set_cons_zero, List.set_cons_succ]
      refine wpAnyH_done (by kernel_rfl) ?_ _
      refine NoOut.normal ?_
      have hk6 := Lib.hid (HK1.out.trans (KeepN.of_below _ T Hv6.out))
      have hb6 := Lib.hid (Hb1.out.trans (Hv6.out.mono (by omega)))
      have s1 := boxed_keep6 HR1.out Hv6.out HR1.out.lt
      have s2 := boxed_keep6 HR2.out Hv6.out HR2.out.lt
      have s3 := boxed_keep6 HR3.out Hv6.out HR3.out.lt
      by_cases hzw : (z : Int) ≤ wl
      · have hqb := Hy1.out hzw
        have s1c := s1.cell
        have s1f := s1.frozen
        have hk8 := hk6.out.trans (KeepN.setCell _ T v6 (G + 1) 0 (.int .i64 (q : Int)) (fun e => e.2.1 rfl) (hnT _ (by omega)))
        have hb8 := hb6.out.setCell (p := ⟨G + 1, 0, none⟩) (by show G + 1 ≤ G + 1; omega) (.int .i64 (q : Int))
        have t1 := s1.set (.int .i64 (q : Int))
        have t2 := s2.other (B' := G + 1) (by omega) (.int .i64 (q : Int))
        have t3 := s3.other (B' := G + 1) (by omega) (.int .i64 (q : Int))
        obtain ⟨V8, hV8⟩ : ∃ V8, v6.setCell ⟨G + 1, 0, none⟩ (.int .i64 (q : Int)) = V8 := ⟨_, rfl⟩
        rw [hV8] at hk8 hb8 t1 t2 t3
        have Hk8 := Lib.hid hk8
        have Hb8 := Lib.hid hb8
        have T1 : Hid (Boxed V8 (G + 1) 3 (.int .i64 (bn : Int))) := Lib.hid (by rw [← hqb]; exact t1)
        have T2 := Lib.hid t2
        have T3 := Lib.hid t3
        clear hqb hk8 hb8 t1 t2 t3 s1 s2 s3
        have HR6 := Lib.hid (boxed_keep6 hRa Hb8.out (by omega))
        have HC6 := Lib.hid (boxed_keep6 HX0.out Hb8.out (by omega))
        have HK6 := Lib.hid (HKa.out.below Hb8.out (by omega))
        have HT6 := Lib.hid (HT.out V8 (HBa.out.trans (Hb8.out.mono (by omega))))
        have o0 := HK6.out.b0.cell
        have o1 := T2.out.cell
        have o2 := HC6.out.cell
        by_cases h300 : 300 < (n' : Int)
        · gi_wp2_with fail
          refine ⟨trivial, (CallsIn.inRound l (callsIn_wide.2 (HIs.out _ HT6.out))).mono ?_⟩
          rintro _ v7 ⟨rfl, n7⟩
          have r7 := boxed_below HR6.out n7
          have r7c := r7.cell
          have r7f := r7.frozen
          have hk7 := Lib.hid (Hk8.out.trans (KeepN.of_below _ T n7))
          have hb7 := Lib.hid ((HBa.out.trans (Hb8.out.mono (by omega))).trans (n7.mono (by have := Hb8.out.size; omega)))
          have R7 := Lib.hid r7
          clear n7 r7 o0 o1 o2
          gi_wp2_with fail
          exact ⟨hk7.out.trans (KeepN.setCell _ T v7 (B + 1 + 1 + 1 + 1) 0 _ (fun e => e.2.2.2.2 rfl) (hnT _ (by omega))), rfl, R7.out.set _, hb7.out.setCell (p := ⟨B + 1 + 1 + 1 + 1, 0, none⟩) (by show B ≤ B + 1 + 1 + 1 + 1; omega) _⟩
        · gi_wp2_with fail
          refine ⟨Hk8.out, ⟨?_, ?_, ?_⟩, Hb8.out⟩
          · rw [Hn1.out, Hbn.out]
            exact T1.out
          · rw [Hn1.out]
            exact T2.out
          · rw [Hn1.out, Hlast.out]
            exact T3.out
      · have hqb := Hy2.out (by first | exact hzw | omega)
        have T1 : Hid (Boxed v6 (G + 1) 3 (.int .i64 (bn : Int))) := Lib.hid (by rw [← hqb]; exact s1)
        have T2 := Lib.hid s2
        have T3 := Lib.hid s3
        clear hqb s1 s2 s3
        have HR6 := Lib.hid (boxed_keep6 hRa hb6.out (by omega))
        have HC6 := Lib.hid (boxed_keep6 HX0.out hb6.out (by omega))
        have HK6 := Lib.hid (HKa.out.below hb6.out (by omega))
        have HT6 := Lib.hid (HT.out v6 (HBa.out.trans (hb6.out.mono (by omega))))
        have o0 := HK6.out.b0.cell
        have o1 := T2.out.cell
        have o2 := HC6.out.cell
        by_cases h300 : 300 < (n' : Int)
        · gi_wp2_with fail
          refine ⟨trivial, (CallsIn.inRound l (callsIn_wide.2 (HIs.out _ HT6.out))).mono ?_⟩
          rintro _ v7 ⟨rfl, n7⟩
          have r7 := boxed_below HR6.out n7
          have r7c := r7.cell
          have r7f := r7.frozen
          have hk7 := Lib.hid (hk6.out.trans (KeepN.of_below _ T n7))
          have hb7 := Lib.hid ((HBa.out.trans (hb6.out.mono (by omega))).trans (n7.mono (by have := hb6.out.size; omega)))
          have R7 := Lib.hid r7
          clear n7 r7 o0 o1 o2
          gi_wp2_with fail
          exact ⟨hk7.out.trans (KeepN.setCell _ T v7 (B + 1 + 1 + 1 + 1) 0 _ (fun e => e.2.2.2.2 rfl) (hnT _ (by omega))), rfl, R7.out.set _, hb7.out.setCell (p := ⟨B + 1 + 1 + 1 + 1, 0, none⟩) (by show B ≤ B + 1 + 1 + 1 + 1; omega) _⟩
        · gi_wp2_with fail
          refine ⟨hk6.out, ⟨?_, ?_, ?_⟩, hb6.out⟩
          · rw [Hn1.out, Hbn.out]
            exact T1.out
          · rw [Hn1.out]
            exact T2.out
          · rw [Hn1.out, Hlast.out]
            exact T3.out
    · have h60d : decide ((n : Int) < 60) = false := decide_eq_false h60
      have h60e : 60 ≤ (n : Int) := by omega
      gi_wp2_with fail
      refine regionR (S := (fun W' => W'.cell? ⟨B, 0, none⟩ = some (.string s) ∧ W'.cell? ⟨B + 1, 0, none⟩ = some (.int .i64 z0) ∧ W'.cell? ⟨B + 1 + 1, 0, none⟩ = some (.int .i64 tb) ∧ W'.cell? ⟨B + 1 + 1, 1, none⟩ = some (.bool wd) ∧ W'.cell? ⟨B + 1 + 1, 2, none⟩ = some (.int .i8 wt) ∧ W'.cell? ⟨B + 1 + 1, 3, none⟩ = some (.bool jn) ∧ W'.cell? ⟨B + 1 + 1, 4, none⟩ = some (.bool rz) ∧ W'.cell? ⟨A, 0, none⟩ = some (.int .i64 (M : Int)) ∧ W'.cell? ⟨G + 1 + 1, 0, none⟩ = some (.int .i64 (n : Int)) ∧ W'.cell? ⟨G + 1 + 1 + 1, 0, none⟩ = some (.int .i64 (lo : Int)))) (by kernel_rfl) (by kernel_rfl) (HS.out _ Hv1d.out) (fun hHeld => ?_)
      refine wpAnyH_take (i := 0) (oi := ({ dst := some 52, op := Op.load 3 (Operand.tmp 13), type := 3, pos := "outright.go:42", after := #[], guard := none } : Oper)) (v := ?_) rfl (by kernel_rfl) (by kernel_rfl) (by kernel_rfl) (fun _ _ _ h => h) (Or.inl ⟨by rfl, ?_⟩) (by assumption) ?_
      rotate_left
      · (intro w hSw; (try dsimp only at hSw); go_simp; all_goals (with_reducible rfl))
      try simp only [Act.put, List.setIfInBounds_toArray, List.set_cons_zero, List.set_cons_succ]
      refine wpAnyH_take (i := 1) (oi := ({ dst := some 53, op := Op.binOp BinOp.lss 3 (Operand.tmp 52) (Operand.const (Value.int IntKind.i64 60)) 3, type := 4, pos := "outright.go:42", after := #[{ on := 0, ground := Ground.data }], guard := none } : Oper)) (v := ?_) rfl (by kernel_rfl) (by kernel_rfl) (by kernel_rfl) (fun _ _ _ h => h) (Or.inl ⟨by rfl, ?_⟩) (by assumption) ?_
      rotate_left
      · (intro w hSw; (try dsimp only at hSw); go_simp; all_goals (with_reducible rfl))
      try simp only [Act.put, List.setIfInBounds_toArray, List.set_cons_zero, List.set_cons_succ]
      refine wpAnyH_take (i := 2) (oi := ({ dst := some 54, op := Op.move (Operand.tmp 53), type := 4, pos := "outright.go:42", after := #[{ on := 1, ground := Ground.data }], guard := none } : Oper)) (v := ?_) rfl (by kernel_rfl) (by kernel_rfl) (by kernel_rfl) (fun _ _ _ h => h) (Or.inl ⟨by rfl, ?_⟩) (by assumption) ?_
      rotate_left
      · (intro w hSw; (try dsimp only at hSw); go_simp; all_goals (with_reducible rfl))
      try simp only [Act.put, List.setIfInBounds_toArray, List.set_cons_zero, List.set_cons_succ]
      refine wpAnyH_take (i := 3) (oi := ({ dst := some 55, op := Op.move (Operand.tmp 16), type := 3, pos := "outright.go:42", after := #[{ on := 2, ground := Ground.guard }], guard := some (2, true) } : Oper)) (v := undef) rfl (by kernel_rfl) (by kernel_rfl) (by kernel_rfl) (fun _ _ _ h => h) (Or.inr ⟨by rfl, rfl⟩) (by assumption) ?_
      try simp only [Act.put, List.setIfInBounds_toArray, List.set_cons_zero, List.set_cons_succ]
      refine wpAnyH_take (i := 4) (oi := ({ dst := some 56, op := Op.load 9 (Operand.tmp 4), type := 9, pos := "outright.go:42", after := #[{ on := 2, ground := Ground.guard }], guard := some (2, true) } : Oper)) (v := undef) rfl (by kernel_rfl) (by kernel_rfl) (by kernel_rfl) (fun _ _ _ h => h) (Or.inr ⟨by rfl, rfl⟩) (by assumption) ?_
      try simp only [Act.put, List.setIfInBounds_toArray, List.set_cons_zero, List.set_cons_succ]
      refine wpAnyH_take (i := 5) (oi := ({ dst := some 57, op := Op.move (Operand.tmp 15), type := 3, pos := "outright.go:42", after := #[{ on := 2, ground := Ground.guard }], guard := some (2, true) } : Oper)) (v := undef) rfl (by kernel_rfl) (by kernel_rfl) (by kernel_rfl) (fun _ _ _ h => h) (Or.inr ⟨by rfl, rfl⟩) (by assumption) ?_
      try simp only [Act.put, List.setIfInBounds_toArray, List.set_cons_zero, List.set_cons_succ]
      refine wpAnyH_take (i := 6) (oi := ({ dst := some 58, op := Op.slice 9 (Operand.tmp 56) (some (Operand.tmp 57)) none none, type := 9, pos := "outright.go:42", after := #[{ on := 4, ground := Ground.data }, { on := 5, ground := Ground.data }, { on := 2, ground := Ground.guard }], guard := some (2, true) } : Oper)) (v := undef) rfl (by kernel_rfl) (by kernel_rfl) (by kernel_rfl) (fun _ _ _ h => h) (Or.inr ⟨by rfl, rfl⟩) (by assumption) ?_
      try simp only [Act.put, List.setIfInBounds_toArray, List.set_cons_zero, List.set_cons_succ]
      refine wpAnyH_take (i := 7) (oi := ({ dst := some 59, op := Op.load 3 (Operand.tmp 5), type := 3, pos := "outright.go:42", after := #[{ on := 2, ground := Ground.guard }], guard := some (2, true) } : Oper)) (v := undef) rfl (by kernel_rfl) (by kernel_rfl) (by kernel_rfl) (fun _ _ _ h => h) (Or.inr ⟨by rfl, rfl⟩) (by assumption) ?_
      try simp only [Act.put, List.setIfInBounds_toArray, List.set_cons_zero, List.set_cons_succ]
      refine wpAnyH_take (i := 8) (oi := ({ dst := some 60, op := Op.move (Operand.tmp 16), type := 3, pos := "outright.go:42", after := #[{ on := 2, ground := Ground.guard }], guard := some (2, true) } : Oper)) (v := undef) rfl (by kernel_rfl) (by kernel_rfl) (by kernel_rfl) (fun _ _ _ h => h) (Or.inr ⟨by rfl, rfl⟩) (by assumption) ?_
      try simp only [Act.put, List.setIfInBounds_toArray, List.set_cons_zero, List.set_cons_succ]
      refine wpAnyH_take (i := 9) (oi := ({ dst := some 61, op := Op.binOp BinOp.add 3 (Operand.tmp 59) (Operand.tmp 60) 3, type := 3, pos := "outright.go:42", after := #[{ on := 7, ground := Ground.data }, { on := 8, ground := Ground.data }, { on := 2, ground := Ground.guard }], guard := some (2, true) } : Oper)) (v := undef) rfl (by kernel_rfl) (by kernel_rfl) (by kernel_rfl) (fun _ _ _ h => h) (Or.inr ⟨by rfl, rfl⟩) (by assumption) ?_
      try simp only [Act.put, List.setIfInBounds_toArray, List.set_cons_zero, List.set_cons_succ]
      refine wpAnyH_take (i := 10) (oi := ({ dst := some 62, op := Op.load 46 (Operand.tmp 6), type := 46, pos := "outright.go:42", after := #[{ on := 2, ground := Ground.guard }], guard := some (2, true) } : Oper)) (v := undef) rfl (by kernel_rfl) (by kernel_rfl) (by kernel_rfl) (fun _ _ _ h => h) (Or.inr ⟨by rfl, rfl⟩) (by assumption) ?_
      try simp only [Act.put, List.setIfInBounds_toArray, List.set_cons_zero, List.set_cons_succ]
      refine wpAnyH_take (i := 11) (oi := ({ dst := some 63, op := Op.call { callee := Callee.value (Operand.func 19), args := #[Operand.tmp 58, Operand.tmp 61, Operand.tmp 62], argTypes := #[9, 3, 46] }, type := 3, pos := "outright.go:42", after := #[{ on := 6, ground := Ground.data }, { on := 9, ground := Ground.data }, { on := 10, ground := Ground.data }, { on := 2, ground := Ground.chain }, { on := 2, ground := Ground.guard }], guard := some (2, true) } : Oper)) (v := undef) rfl (by kernel_rfl) (by kernel_rfl) (by kernel_rfl) (fun _ _ _ h => h) (Or.inr ⟨by rfl, rfl⟩) (by assumption) ?_
      try simp only [Act.put, List.setIfInBounds_toArray, List.set_cons_zero, List.set_cons_succ]
      refine wpAnyH_take (i := 12) (oi := ({ dst := some 64, op := Op.binOp BinOp.add 3 (Operand.tmp 55) (Operand.tmp 63) 3, type := 3, pos := "outright.go:42", after := #[{ on := 3, ground := Ground.data }, { on := 11, ground := Ground.data }, { on := 2, ground := Ground.guard }], guard := some (2, true) } : Oper)) (v := undef) rfl (by kernel_rfl) (by kernel_rfl) (by kernel_rfl) (fun _ _ _ h => h) (Or.inr ⟨by rfl, rfl⟩) (by assumption) ?_
      try simp only [Act.put, List.setIfInBounds_toArray, List.set_cons_zero, List.set_cons_succ]
      refine wpAnyH_take (i := 13) (oi := ({ dst := some 65, op := Op.load 3 (Operand.tmp 9), type := 3, pos := "outright.go:42", after := #[{ on := 2, ground := Ground.guard }], guard := some (2, true) } : Oper)) (v := undef) rfl (by kernel_rfl) (by kernel_rfl) (by kernel_rfl) (fun _ _ _ h => h) (Or.inr ⟨by rfl, rfl⟩) (by assumption) ?_
      try simp only [Act.put, List.setIfInBounds_toArray, List.set_cons_zero, List.set_cons_succ]
      refine wpAnyH_take (i := 14) (oi := ({ dst := some 66, op := Op.binOp BinOp.neq 3 (Operand.tmp 64) (Operand.tmp 65) 3, type := 4, pos := "outright.go:42", after := #[{ on := 12, ground := Ground.data }, { on := 13, ground := Ground.data }, { on := 2, ground := Ground.guard }], guard := some (2, true) } : Oper)) (v := undef) rfl (by kernel_rfl) (by kernel_rfl) (by kernel_rfl) (fun _ _ _ h => h) (Or.inr ⟨by rfl, rfl⟩) (by assumption) ?_
      try simp only [Act.put, List.setIfInBounds_toArray, List.set_cons_zero, List.set_cons_succ]
      refine wpAnyH_take (i := 15) (oi := ({ dst := some 67, op := Op.pick (Operand.tmp 54) (Operand.tmp 66) (Operand.const (Value.bool false)), type := 4, pos := "outright.go:42", after := #[{ on := 2, ground := Ground.data }, { on := 14, ground := Ground.data }], guard := none } : Oper)) (v := ?_) rfl (by kernel_rfl) (by kernel_rfl) (by kernel_rfl) (fun _ _ _ h => h) (Or.inl ⟨by rfl, ?_⟩) (by assumption) ?_
      rotate_left
      · (intro w hSw; (try dsimp only at hSw); go_simp; all_goals (with_reducible rfl))
      try simp only [Act.put, List.setIfInBounds_toArray, List.set_cons_zero, List.set_cons_succ]
      refine wpAnyH_take (i := 16) (oi := ({ dst := some 68, op := Op.move (Operand.tmp 67), type := 4, pos := "outright.go:42", after := #[{ on := 15, ground := Ground.data }, { on := 11, ground := Ground.chain }], guard := none } : Oper)) (v := ?_) rfl (by kernel_rfl) (by kernel_rfl) (by kernel_rfl) (fun _ _ _ h => h) (Or.inl ⟨by rfl, ?_⟩) (by assumption) ?_
      rotate_left
      · (intro w hSw; (try dsimp only at hSw); go_simp; all_goals (with_reducible rfl))
      try simp only [Act.put, List.setIfInBounds_toArray, List.set_cons_zero, List.set_cons_succ]
      refine wpAnyH_take (i := 17) (oi := ({ dst := some 69, op := Op.move (Operand.tmp 16), type := 3, pos := "outright.go:42", after := #[{ on := 16, ground := Ground.guard }], guard := some (16, false) } : Oper)) (v := ?_) rfl (by kernel_rfl) (by kernel_rfl) (by kernel_rfl) (fun _ _ _ h => h) (Or.inl ⟨by rfl, ?_⟩) (by assumption) ?_
      rotate_left
      · (intro w hSw; (try dsimp only at hSw); go_simp; all_goals (with_reducible rfl))
      try simp only [Act.put, List.setIfInBounds_toArray, List.set_cons_zero, List.set_cons_succ]
      refine wpAnyH_take (i := 18) (oi := ({ dst := some 70, op := Op.load 3 (Operand.tmp 14), type := 3, pos := "outright.go:42", after := #[{ on := 16, ground := Ground.guard }], guard := some (16, false) } : Oper)) (v := ?_) rfl (by kernel_rfl) (by kernel_rfl) (by kernel_rfl) (fun _ _ _ h => h) (Or.inl ⟨by rfl, ?_⟩) (by assumption) ?_
      rotate_left
      · (intro w hSw; (try dsimp only at hSw); go_simp; all_goals (with_reducible rfl))
      try simp only [Act.put, List.setIfInBounds_toArray, List.set_cons_zero, List.set_cons_succ]
      refine wpAnyH_take (i := 19) (oi := ({ dst := some 71, op := Op.binOp BinOp.lss 3 (Operand.tmp 69) (Operand.tmp 70) 3, type := 4, pos := "outright.go:42", after := #[{ on := 17, ground := Ground.data }, { on := 18, ground := Ground.data }, { on := 16, ground := Ground.guard }], guard := some (16, false) } : Oper)) (v := ?_) rfl (by kernel_rfl) (by kernel_rfl) (by kernel_rfl) (fun _ _ _ h => h) (Or.inl ⟨by rfl, ?_⟩) (by assumption) ?_
      rotate_left
      · (intro w hSw; (try dsimp only at hSw); go_simp; all_goals (with_reducible rfl))
      try simp only [Act.put, List.setIfInBounds_toArray, List.set_cons_zero, List.set_cons_succ]
      refine wpAnyH_take (i := 20) (oi := ({ dst := some 72, op := Op.pick (Operand.tmp 68) (Operand.const (Value.bool true)) (Operand.tmp 71), type := 4, pos := "outright.go:42", after := #[{ on := 16, ground := Ground.data }, { on := 19, ground := Ground.data }], guard := none } : Oper)) (v := ?_) rfl (by kernel_rfl) (by kernel_rfl) (by kernel_rfl) (fun _ _ _ h => h) (Or.inl ⟨by rfl, ?_⟩) (by assumption) ?_
      rotate_left
      · (intro w hSw; (try dsimp only at hSw); go_simp; all_goals (with_reducible rfl))
      try simp only [Act.put, List.setIfInBounds_toArray, List.set_cons_zero, List.set_cons_succ]
      refine wpAnyH_done (by kernel_rfl) ?_ _
      refine NoOut.normal ?_
      have m1 := boxed_keep6 H1.out Hv1d.out H1.out.lt
      have m2 := boxed_keep6 H2.out Hv1d.out H2.out.lt
      have m3 := boxed_keep6 H3.out Hv1d.out H3.out.lt
      have m3c := m3.cell
      have m3f := m3.frozen
      have hk0 := (KeepN.of_below ((fun k => k < G + 4 ∧ k ≠ G + 1 ∧ k ≠ G + 1 + 1 ∧ k ≠ G + 1 + 1 + 1 ∧ k ≠ B + 1 + 1 + 1 + 1)) T Hv1d.out).trans (KeepN.setCell _ T _ (G + 1 + 1 + 1) 0 (.int .i64 (a : Int)) (fun e => e.2.2.2.1 rfl) (hnT _ (by omega)))
      have hb0 := (Hb.out.trans (Hv1d.out.mono (by omega))).setCell (p := ⟨G + 1 + 1 + 1, 0, none⟩) (by show G + 1 ≤ G + 1 + 1 + 1; omega) (.int .i64 (a : Int))
      have p3 := m3.set (.int .i64 (a : Int))
      have p2 := m2.other (B' := G + 1 + 1 + 1) (by omega) (.int .i64 (a : Int))
      have p1 := m1.other (B' := G + 1 + 1 + 1) (by omega) (.int .i64 (a : Int))
      obtain ⟨V1, hV1⟩ : ∃ V1, (v1.drew).setCell ⟨G + 1 + 1 + 1, 0, none⟩ (.int .i64 (a : Int)) = V1 := ⟨_, rfl⟩
      rw [hV1] at hk0 hb0 p3 p2 p1
      have p2c := p2.cell
      have p2f := p2.frozen
      have hk1 := hk0.trans (KeepN.setCell _ T V1 (G + 1 + 1) 0 (.int .i64 (n' : Int)) (fun e => e.2.2.1 rfl) (hnT _ (by omega)))
      have hb1 := hb0.setCell (p := ⟨G + 1 + 1, 0, none⟩) (by show G + 1 ≤ G + 1 + 1; omega) (.int .i64 (n' : Int))
      have r2 := p2.set (.int .i64 (n' : Int))
      have r3 := p3.other (B' := G + 1 + 1) (by omega) (.int .i64 (n' : Int))
      have r1 := p1.other (B' := G + 1 + 1) (by omega) (.int .i64 (n' : Int))
      obtain ⟨V2, hV2⟩ : ∃ V2, V1.setCell ⟨G + 1 + 1, 0, none⟩ (.int .i64 (n' : Int)) = V2 := ⟨_, rfl⟩
      rw [hV2] at hk1 hb1 r2 r3 r1
      have HK1 := Lib.hid hk1
      have Hb1 := Lib.hid hb1
      have HR1 := Lib.hid r1
      have HR2 := Lib.hid r2
      have HR3 := Lib.hid r3
      have HKv := Lib.hid (HKa.out.below hb1 (by omega))
      have HTv := Lib.hid (fun W' (h : Below V2.heap.size V2 W') => HT.out W' ((HBa.out.trans (hb1.mono (by omega))).trans (h.mono (by have := hb1.size; omega))))
      have hGV : G + 4 ≤ V2.heap.size := by have := hb1.size; omega
      have HS2 : Hid (∀ W', Below V2.heap.size V2 W' → (fun W' => W'.cell? ⟨B, 0, none⟩ = some (.string s) ∧ W'.cell? ⟨B + 1 + 1, 0, none⟩ = some (.int .i64 tb) ∧ W'.cell? ⟨B + 1 + 1, 1, none⟩ = some (.bool wd) ∧ W'.cell? ⟨B + 1 + 1, 2, none⟩ = some (.int .i8 wt) ∧ W'.cell? ⟨B + 1 + 1, 3, none⟩ = some (.bool jn) ∧ W'.cell? ⟨B + 1 + 1, 4, none⟩ = some (.bool rz) ∧ W'.cell? ⟨B + 1 + 1 + 1, 0, none⟩ = some (.int .i64 wl)) W') := Lib.hid (fun W' h => by
        have k := HKv.out.below h (by omega)
        have l := k.l2
        exact ⟨k.b0.cell, l.c0, l.c1, l.c2, l.c3, l.c4, k.b3.cell⟩)
      have Hv5 := Lib.hid ((Below.refl V2.heap.size V2).drew)
      clear m1 m2 m3 hk0 hb0 p1 p2 p3 hk1 hb1 r1 r2 r3
      gi_wp2_with fail
      clear m3c m3f p2c p2f hV1 hV2
      refine regionR (S := (fun W' => W'.cell? ⟨B, 0, none⟩ = some (.string s) ∧ W'.cell? ⟨B + 1 + 1, 0, none⟩ = some (.int .i64 tb) ∧ W'.cell? ⟨B + 1 + 1, 1, none⟩ = some (.bool wd) ∧ W'.cell? ⟨B + 1 + 1, 2, none⟩ = some (.int .i8 wt) ∧ W'.cell? ⟨B + 1 + 1, 3, none⟩ = some (.bool jn) ∧ W'.cell? ⟨B + 1 + 1, 4, none⟩ = some (.bool rz) ∧ W'.cell? ⟨B + 1 + 1 + 1, 0, none⟩ = some (.int .i64 wl))) (by kernel_rfl) (by kernel_rfl) (HS2.out _ Hv5.out) (fun hHeld => ?_)
      refine wpAnyH_take (i := 0) (oi := ({ dst := some 76, op := Op.load 9 (Operand.tmp 4), type := 9, pos := "outright.go:47", after := #[], guard := none } : Oper)) (v := ?_) rfl (by kernel_rfl) (by kernel_rfl) (by kernel_rfl) (fun _ _ _ h => h) (Or.inl ⟨by rfl, ?_⟩) (by assumption) ?_
      rotate_left
      · (intro w hSw; (try dsimp only at hSw); go_simp; all_goals (with_reducible rfl))
      try simp only [Act.put, List.setIfInBounds_toArray, List.set_cons_zero, List.set_cons_succ]
      refine wpAnyH_take (i := 1) (oi := ({ dst := some 77, op := Op.move (Operand.tmp 15), type := 3, pos := "outright.go:47", after := #[], guard := none } : Oper)) (v := ?_) rfl (by kernel_rfl) (by kernel_rfl) (by kernel_rfl) (fun _ _ _ h => h) (Or.inl ⟨by rfl, ?_⟩) (by assumption) ?_
      rotate_left
      · (intro w hSw; (try dsimp only at hSw); go_simp; all_goals (with_reducible rfl))
      try simp only [Act.put, List.setIfInBounds_toArray, List.set_cons_zero, List.set_cons_succ]
      refine wpAnyH_take (i := 2) (oi := ({ dst := some 78, op := Op.slice 9 (Operand.tmp 76) none (some (Operand.tmp 77)) none, type := 9, pos := "outright.go:47", after := #[{ on := 0, ground := Ground.data }, { on := 1, ground := Ground.data }], guard := none } : Oper)) (v := ?_) rfl (by kernel_rfl) (by kernel_rfl) (by kernel_rfl) (fun _ _ _ h => h) (Or.inl ⟨by rfl, ?_⟩) (by assumption) ?_
      rotate_left
      · (intro w hSw; (try dsimp only at hSw); go_simp; all_goals (with_reducible rfl))
      try simp only [Act.put, List.setIfInBounds_toArray, List.set_cons_zero, List.set_cons_succ]
      refine wpAnyH_take (i := 3) (oi := ({ dst := some 79, op := Op.load 46 (Operand.tmp 6), type := 46, pos := "outright.go:47", after := #[], guard := none } : Oper)) (v := ?_) rfl (by kernel_rfl) (by kernel_rfl) (by kernel_rfl) (fun _ _ _ h => h) (Or.inl ⟨by rfl, ?_⟩) (by assumption) ?_
      rotate_left
      · (intro w hSw; (try dsimp only at hSw); go_simp; all_goals (with_reducible rfl))
      try simp only [Act.put, List.setIfInBounds_toArray, List.set_cons_zero, List.set_cons_succ]
      refine wpAnyH_take (i := 5) (oi := ({ dst := some 81, op := Op.load 3 (Operand.tmp 7), type := 3, pos := "outright.go:47", after := #[], guard := none } : Oper)) (v := ?_) rfl (by kernel_rfl) (by kernel_rfl) (by kernel_rfl) (fun _ _ _ h => h) (Or.inl ⟨by rfl, ?_⟩) (by assumption) ?_
      rotate_left
      · (intro w hSw; (try dsimp only at hSw); go_simp; all_goals (with_reducible rfl))
      try simp only [Act.put, List.setIfInBounds_toArray, List.set_cons_zero, List.set_cons_succ]
      refine wpAnyH_ready (rs := [4]) (by kernel_rfl) (by simp) ?_
      refine AllReadyH.cons (o := ({ dst := some 80, op := Op.call { callee := Callee.value (Operand.func 19), args := #[Operand.tmp 78, Operand.const (Value.int IntKind.i64 0), Operand.tmp 79], argTypes := #[9, 3, 46] }, type := 3, pos := "outright.go:47", after := #[{ on := 2, ground := Ground.data }, { on := 3, ground := Ground.data }], guard := none } : Oper)) rfl (fun K hK => ?_) AllReadyH.nil
      (go_simp; go_at_call 19; refine (HA3.out _ (HTv.out _ Hv5.out)).mono ?_; rintro _ v6 ⟨rfl, bb6⟩; have Hv6 := Lib.hid (Hv5.out.trans (bb6.mono Hv5.out.size)); clear bb6; (try dsimp only))
      refine hK.out _ _ (HS2.out _ Hv6.out) (fun hHeld => ?_)
      clear hK K
      try simp only [Act.put, List.setIfInBounds_toArray, List.set_cons_zero, List.set_cons_succ]
      refine wpAnyH_take (i := 6) (oi := ({ dst := some 82, op := Op.binOp BinOp.leq 3 (Operand.tmp 80) (Operand.tmp 81) 3, type := 4, pos := "outright.go:47", after := #[{ on := 4, ground := Ground.data }, { on := 5, ground := Ground.data }], guard := none } : Oper)) (v := ?_) rfl (by kernel_rfl) (by kernel_rfl) (by kernel_rfl) (fun _ _ _ h => h) (Or.inl ⟨by rfl, ?_⟩) (by assumption) ?_
      rotate_left
      · (intro w hSw; (try dsimp only at hSw); go_simp; all_goals (with_reducible rfl))
      try simp only [Act.put, List.setIfInBounds_toArray, List.set_cons_zero, List.set_cons_succ]
      refine wpAnyH_done (by kernel_rfl) ?_ _
      refine NoOut.normal ?_
      have hk6 := Lib.hid (HK1.out.trans (KeepN.of_below _ T Hv6.out))
      have hb6 := Lib.hid (Hb1.out.trans (Hv6.out.mono (by omega)))
      have s1 := boxed_keep6 HR1.out Hv6.out HR1.out.lt
      have s2 := boxed_keep6 HR2.out Hv6.out HR2.out.lt
      have s3 := boxed_keep6 HR3.out Hv6.out HR3.out.lt
      by_cases hzw : (z : Int) ≤ wl
      · have hqb := Hy1.out hzw
        have s1c := s1.cell
        have s1f := s1.frozen
        have hk8 := hk6.out.trans (KeepN.setCell _ T v6 (G + 1) 0 (.int .i64 (q : Int)) (fun e => e.2.1 rfl) (hnT _ (by omega)))
        have hb8 := hb6.out.setCell (p := ⟨G + 1, 0, none⟩) (by show G + 1 ≤ G + 1; omega) (.int .i64 (q : Int))
        have t1 := s1.set (.int .i64 (q : Int))
        have t2 := s2.other (B' := G + 1) (by omega) (.int .i64 (q : Int))
        have t3 := s3.other (B' := G + 1) (by omega) (.int .i64 (q : Int))
        obtain ⟨V8, hV8⟩ : ∃ V8, v6.setCell ⟨G + 1, 0, none⟩ (.int .i64 (q : Int)) = V8 := ⟨_, rfl⟩
        rw [hV8] at hk8 hb8 t1 t2 t3
        have Hk8 := Lib.hid hk8
        have Hb8 := Lib.hid hb8
        have T1 : Hid (Boxed V8 (G + 1) 3 (.int .i64 (bn : Int))) := Lib.hid (by rw [← hqb]; exact t1)
        have T2 := Lib.hid t2
        have T3 := Lib.hid t3
        clear hqb hk8 hb8 t1 t2 t3 s1 s2 s3
        have HR6 := Lib.hid (boxed_keep6 hRa Hb8.out (by omega))
        have HC6 := Lib.hid (boxed_keep6 HX0.out Hb8.out (by omega))
        have HK6 := Lib.hid (HKa.out.below Hb8.out (by omega))
        have HT6 := Lib.hid (HT.out V8 (HBa.out.trans (Hb8.out.mono (by omega))))
        have o0 := HK6.out.b0.cell
        have o1 := T2.out.cell
        have o2 := HC6.out.cell
        by_cases h300 : 300 < (n' : Int)
        · gi_wp2_with fail
          refine ⟨trivial, (CallsIn.inRound l (callsIn_wide.2 (HIs.out _ HT6.out))).mono ?_⟩
          rintro _ v7 ⟨rfl, n7⟩
          have r7 := boxed_below HR6.out n7
          have r7c := r7.cell
          have r7f := r7.frozen
          have hk7 := Lib.hid (Hk8.out.trans (KeepN.of_below _ T n7))
          have hb7 := Lib.hid ((HBa.out.trans (Hb8.out.mono (by omega))).trans (n7.mono (by have := Hb8.out.size; omega)))
          have R7 := Lib.hid r7
          clear n7 r7 o0 o1 o2
          gi_wp2_with fail
          exact ⟨hk7.out.trans (KeepN.setCell _ T v7 (B + 1 + 1 + 1 + 1) 0 _ (fun e => e.2.2.2.2 rfl) (hnT _ (by omega))), rfl, R7.out.set _, hb7.out.setCell (p := ⟨B + 1 + 1 + 1 + 1, 0, none⟩) (by show B ≤ B + 1 + 1 + 1 + 1; omega) _⟩
        · gi_wp2_with fail
          refine ⟨Hk8.out, ⟨?_, ?_, ?_⟩, Hb8.out⟩
          · rw [Hn1.out, Hbn.out]
            exact T1.out
          · rw [Hn1.out]
            exact T2.out
          · rw [Hn1.out, Hlast.out]
            exact T3.out
      · have hqb := Hy2.out (by first | exact hzw | omega)
        have T1 : Hid (Boxed v6 (G + 1) 3 (.int .i64 (bn : Int))) := Lib.hid (by rw [← hqb]; exact s1)
        have T2 := Lib.hid s2
        have T3 := Lib.hid s3
        clear hqb s1 s2 s3
        have HR6 := Lib.hid (boxed_keep6 hRa hb6.out (by omega))
        have HC6 := Lib.hid (boxed_keep6 HX0.out hb6.out (by omega))
        have HK6 := Lib.hid (HKa.out.below hb6.out (by omega))
        have HT6 := Lib.hid (HT.out v6 (HBa.out.trans (hb6.out.mono (by omega))))
        have o0 := HK6.out.b0.cell
        have o1 := T2.out.cell
        have o2 := HC6.out.cell
        by_cases h300 : 300 < (n' : Int)
        · gi_wp2_with fail
          refine ⟨trivial, (CallsIn.inRound l (callsIn_wide.2 (HIs.out _ HT6.out))).mono ?_⟩
          rintro _ v7 ⟨rfl, n7⟩
          have r7 := boxed_below HR6.out n7
          have r7c := r7.cell
          have r7f := r7.frozen
          have hk7 := Lib.hid (hk6.out.trans (KeepN.of_below _ T n7))
          have hb7 := Lib.hid ((HBa.out.trans (hb6.out.mono (by omega))).trans (n7.mono (by have := hb6.out.size; omega)))
          have R7 := Lib.hid r7
          clear n7 r7 o0 o1 o2
          gi_wp2_with fail
          exact ⟨hk7.out.trans (KeepN.setCell _ T v7 (B + 1 + 1 + 1 + 1) 0 _ (fun e => e.2.2.2.2 rfl) (hnT _ (by omega))), rfl, R7.out.set _, hb7.out.setCell (p := ⟨B + 1 + 1 + 1 + 1, 0, none⟩) (by show B ≤ B + 1 + 1 + 1 + 1; omega) _⟩
        · gi_wp2_with fail
          refine ⟨hk6.out, ⟨?_, ?_, ?_⟩, hb6.out⟩
          · rw [Hn1.out, Hbn.out]
            exact T1.out
          · rw [Hn1.out]
            exact T2.out
          · rw [Hn1.out, Hlast.out]
            exact T3.out

  case done =>
    rintro D ys T W hD hT rfl ⟨⟨h1, h2', h3⟩, hb⟩ hK
    have hD1 := hT D hD
    obtain ⟨Z, hZ⟩ : ∃ Z, wideZ rz wd tb s 0 = Z := ⟨_, rfl⟩
    have hA4 := HWd.out s 0 hs (by omega) (by omega)
    rw [show Int.toNat 0 = 0 from rfl, hZ] at hA4
    have hend := Hend.out
    rw [hZ] at hend
    obtain ⟨bo, hbo⟩ : ∃ bo, bstX s F (pcs s).length = bo := ⟨_, rfl⟩
    rw [hbo] at h1 hend
    have HA4 := Lib.hid hA4
    have HE := Lib.hid hend
    have HD := Lib.hid hK
    have Hb := Lib.hid hb
    have HKw := Lib.hid (HKa.out.below hb (by omega))
    have hGW : G + 4 ≤ W.heap.size := by have := hb.size; omega
    have HTw := Lib.hid (fun W' (h : Below W.heap.size W W') => HT.out W' ((HBa.out.trans (hb.mono (by omega))).trans (h.mono (by omega))))
    have H1 := Lib.hid h1
    have HS3 : Hid (∀ W', Below W.heap.size W W' → (fun W' => W'.cell? ⟨B, 0, none⟩ = some (.string s) ∧ W'.cell? ⟨B + 1 + 1, 0, none⟩ = some (.int .i64 tb) ∧ W'.cell? ⟨B + 1 + 1, 1, none⟩ = some (.bool wd) ∧ W'.cell? ⟨B + 1 + 1, 2, none⟩ = some (.int .i8 wt) ∧ W'.cell? ⟨B + 1 + 1, 3, none⟩ = some (.bool jn) ∧ W'.cell? ⟨B + 1 + 1, 4, none⟩ = some (.bool rz) ∧ W'.cell? ⟨B + 1 + 1 + 1, 0, none⟩ = some (.int .i64 wl)) W') := Lib.hid (fun W' h => by
      have k := HKw.out.below h (by omega)
      have l := k.l2
      exact ⟨k.b0.cell, l.c0, l.c1, l.c2, l.c3, l.c4, k.b3.cell⟩)
    have Hv7 := Lib.hid ((Below.refl W.heap.size W).drew)
    have hDG : G + 4 ≤ D := by have := hD1.1; omega
    have HDs := Lib.hid hD1.2
    clear hZ hbo hA4 hend h1 h2' h3 hb hK hD hT hD1
    go_wp2_with fail
    refine wp_region_noPanic ?_
    refine wp_region_held_drew (S := (fun W' => W'.cell? ⟨B, 0, none⟩ = some (.string s) ∧ W'.cell? ⟨B + 1 + 1, 0, none⟩ = some (.int .i64 tb) ∧ W'.cell? ⟨B + 1 + 1, 1, none⟩ = some (.bool wd) ∧ W'.cell? ⟨B + 1 + 1, 2, none⟩ = some (.int .i8 wt) ∧ W'.cell? ⟨B + 1 + 1, 3, none⟩ = some (.bool jn) ∧ W'.cell? ⟨B + 1 + 1, 4, none⟩ = some (.bool rz) ∧ W'.cell? ⟨B + 1 + 1 + 1, 0, none⟩ = some (.int .i64 wl))) (by kernel_rfl) (HS3.out _ Hv7.out) (fun hHeld => ?_)
    refine wpAnyH_take (i := 0) (oi := ({ dst := some 89, op := Op.load 9 (Operand.tmp 4), type := 9, pos := "outright.go:54", after := #[], guard := none } : Oper)) (v := ?_) rfl (by kernel_rfl) (by kernel_rfl) (by kernel_rfl) (fun _ _ _ h => h) (Or.inl ⟨by rfl, ?_⟩) (by assumption) ?_
    rotate_left
    · (intro w hSw; (try dsimp only at hSw); go_simp; all_goals (with_reducible rfl))
    try simp only [Act.put, List.setIfInBounds_toArray, List.set_cons_zero, List.set_cons_succ]
    refine wpAnyH_take (i := 1) (oi := ({ dst := some 90, op := Op.load 46 (Operand.tmp 6), type := 46, pos := "outright.go:54", after := #[], guard := none } : Oper)) (v := ?_) rfl (by kernel_rfl) (by kernel_rfl) (by kernel_rfl) (fun _ _ _ h => h) (Or.inl ⟨by rfl, ?_⟩) (by assumption) ?_
    rotate_left
    · (intro w hSw; (try dsimp only at hSw); go_simp; all_goals (with_reducible rfl))
    try simp only [Act.put, List.setIfInBounds_toArray, List.set_cons_zero, List.set_cons_succ]
    refine wpAnyH_take (i := 3) (oi := ({ dst := some 92, op := Op.load 3 (Operand.tmp 7), type := 3, pos := "outright.go:54", after := #[], guard := none } : Oper)) (v := ?_) rfl (by kernel_rfl) (by kernel_rfl) (by kernel_rfl) (fun _ _ _ h => h) (Or.inl ⟨by rfl, ?_⟩) (by assumption) ?_
    rotate_left
    · (intro w hSw; (try dsimp only at hSw); go_simp; all_goals (with_reducible rfl))
    try simp only [Act.put, List.setIfInBounds_toArray, List.set_cons_zero, List.set_cons_succ]
    refine wpAnyH_ready (rs := [2]) (by kernel_rfl) (by simp) ?_
    refine AllReadyH.cons (o := ({ dst := some 91, op := Op.call { callee := Callee.value (Operand.func 19), args := #[Operand.tmp 89, Operand.const (Value.int IntKind.i64 0), Operand.tmp 90], argTypes := #[9, 3, 46] }, type := 3, pos := "outright.go:54", after := #[{ on := 0, ground := Ground.data }, { on := 1, ground := Ground.data }], guard := none } : Oper)) rfl (fun K hK => ?_) AllReadyH.nil
    (go_simp; go_at_call 19; refine (HA4.out _ (HTw.out _ Hv7.out)).mono ?_; rintro _ v8 ⟨rfl, bb8⟩; have Hv8 := Lib.hid (Hv7.out.trans (bb8.mono Hv7.out.size)); clear bb8; (try dsimp only))
    refine hK.out _ _ (HS3.out _ Hv8.out) (fun hHeld => ?_)
    clear hK K
    try simp only [Act.put, List.setIfInBounds_toArray, List.set_cons_zero, List.set_cons_succ]
    refine wpAnyH_take (i := 4) (oi := ({ dst := some 93, op := Op.binOp BinOp.leq 3 (Operand.tmp 91) (Operand.tmp 92) 3, type := 4, pos := "outright.go:54", after := #[{ on := 2, ground := Ground.data }, { on := 3, ground := Ground.data }], guard := none } : Oper)) (v := ?_) rfl (by kernel_rfl) (by kernel_rfl) (by kernel_rfl) (fun _ _ _ h => h) (Or.inl ⟨by rfl, ?_⟩) (by assumption) ?_
    rotate_left
    · (intro w hSw; (try dsimp only at hSw); go_simp; all_goals (with_reducible rfl))
    try simp only [Act.put, List.setIfInBounds_toArray, List.set_cons_zero, List.set_cons_succ]
    refine wpAnyH_done (by kernel_rfl) ?_ _
    refine NoPanic.normal ?_
    have m1 := boxed_keep6 H1.out Hv8.out H1.out.lt
    have hb8 := Hb.out.trans (Hv8.out.mono (by omega))
    have hD8 := (Hv8.out.block D HDs.out).trans HD.out
    by_cases hzw : (Z : Int) ≤ wl
    · have hCs := HE.out.1 hzw
      have m1c := m1.cell
      have m1f := m1.frozen
      have t9 := m1.set (.int .i64 (s.size : Int))
      have hb9 := hb8.setCell (p := ⟨G + 1, 0, none⟩) (by show G + 1 ≤ G + 1; omega) (.int .i64 (s.size : Int))
      have hD9 := (Below.heap_setCell v8 ⟨G + 1, 0, none⟩ (.int .i64 (s.size : Int)) D (by show D ≠ G + 1; omega)).trans hD8
      obtain ⟨V9, hV9⟩ : ∃ V9, v8.setCell ⟨G + 1, 0, none⟩ (.int .i64 (s.size : Int)) = V9 := ⟨_, rfl⟩
      rw [hV9] at t9 hb9 hD9
      have T9 := Lib.hid t9
      have Hb9 := Lib.hid hb9
      have HD9 := Lib.hid hD9
      have HCs := Lib.hid hCs
      clear m1 hb8 hD8 t9 hb9 hD9 hCs
      have HK9 := Lib.hid (HKa.out.below Hb9.out (by omega))
      have HT9 := Lib.hid (HT.out V9 (HBa.out.trans (Hb9.out.mono (by omega))))
      have o0 := HK9.out.b0.cell
      have o1 := (boxed_keep6 HX0.out Hb9.out (by omega)).cell
      have o2 := T9.out.cell
      have HR9 := Lib.hid (boxed_keep6 hRa Hb9.out (by omega))
      have heq : ((C : Int) == (s.size : Int)) = true := by rw [HCs.out]; simp
      go_wp2_with fail
      refine (HIs.out _ HT9.out).mono ?_
      rintro _ v10 ⟨rfl, n10⟩
      have r10 := boxed_below HR9.out n10
      have r10c := r10.cell
      have r10f := r10.frozen
      have R10 := Lib.hid (r10.set (.bool true))
      have hb10 := Lib.hid (((HBa.out.trans (Hb9.out.mono (by omega))).trans (n10.mono (by have := Hb9.out.size; omega))).setCell (p := ⟨B + 1 + 1 + 1 + 1, 0, none⟩) (by show B ≤ B + 1 + 1 + 1 + 1; omega) (.bool true))
      have HD10 : Hid ((v10.setCell ⟨B + 1 + 1 + 1 + 1, 0, none⟩ (.bool true)).heap[D]? = some (.deferred (some []))) := Lib.hid ((Below.heap_setCell _ _ _ _ (by show D ≠ B + 1 + 1 + 1 + 1; omega)).trans ((n10.block D (Array.getElem?_eq_some_iff.1 HD9.out).1).trans HD9.out))
      clear n10 r10 o0 o1 o2
      go_wp2_with fail
      have hc7 := cell_kept R10.out.cell (grownBy_putObj' _ D (.deferred none)) (fun r e => by cases e; exact ⟨_, HD10.out, rfl⟩)
      refine ⟨by simp, .inl ⟨_, _, rfl, run_takeDeferred HD10.out, ?_⟩⟩
      refine ⟨_, ?_, rfl, hb10.out.trans (belowK_b (w := w) (by omega) _ D _ (.deferred none) (by omega) HD10.out rfl rfl)⟩
      simp [results, Tryd.f5, go_sem, hc7]
    · have hCs := HE.out.2 (by first | exact hzw | omega)
      have T9 := Lib.hid m1
      have Hb9 := Lib.hid hb8
      have HD9 := Lib.hid hD8
      have HCs := Lib.hid hCs
      clear m1 hb8 hD8 hCs
      have HK9 := Lib.hid (HKa.out.below Hb9.out (by omega))
      have HT9 := Lib.hid (HT.out v8 (HBa.out.trans (Hb9.out.mono (by omega))))
      have o0 := HK9.out.b0.cell
      have o1 := (boxed_keep6 HX0.out Hb9.out (by omega)).cell
      have o2 := T9.out.cell
      have HR9 := Lib.hid (boxed_keep6 hRa Hb9.out (by omega))
      have heq : ((C : Int) == (bo : Int)) = true := by rw [HCs.out]; simp
      go_wp2_with fail
      refine (HIs.out _ HT9.out).mono ?_
      rintro _ v10 ⟨rfl, n10⟩
      have r10 := boxed_below HR9.out n10
      have r10c := r10.cell
      have r10f := r10.frozen
      have R10 := Lib.hid (r10.set (.bool true))
      have hb10 := Lib.hid (((HBa.out.trans (Hb9.out.mono (by omega))).trans (n10.mono (by have := Hb9.out.size; omega))).setCell (p := ⟨B + 1 + 1 + 1 + 1, 0, none⟩) (by show B ≤ B + 1 + 1 + 1 + 1; omega) (.bool true))
      have HD10 : Hid ((v10.setCell ⟨B + 1 + 1 + 1 + 1, 0, none⟩ (.bool true)).heap[D]? = some (.deferred (some []))) := Lib.hid ((Below.heap_setCell _ _ _ _ (by show D ≠ B + 1 + 1 + 1 + 1; omega)).trans ((n10.block D (Array.getElem?_eq_some_iff.1 HD9.out).1).trans HD9.out))
      clear n10 r10 o0 o1 o2
      go_wp2_with fail
      have hc7 := cell_kept R10.out.cell (grownBy_putObj' _ D (.deferred none)) (fun r e => by cases e; exact ⟨_, HD10.out, rfl⟩)
      refine ⟨by simp, .inl ⟨_, _, rfl, run_takeDeferred HD10.out, ?_⟩⟩
      refine ⟨_, ?_, rfl, hb10.out.trans (belowK_b (w := w) (by omega) _ D _ (.deferred none) (by omega) HD10.out rfl rfl)⟩
      simp [results, Tryd.f5, go_sem, hc7]
  case stop =>
    rintro D c pre T W hD hT _ ⟨rfl, h2', hb⟩ hK
    have HK := Lib.hid hK
    have H2 := Lib.hid h2'
    have Hb := Lib.hid hb
    have hD1 := hT D hD
    clear hK h2' hb
    gi_wp2
    have hc7 := cell_kept H2.out.cell (grownBy_putObj' _ D (.deferred none)) (fun r e => by cases e; exact ⟨_, HK.out, rfl⟩)
    refine ⟨by simp, .inl ⟨_, _, rfl, run_takeDeferred HK.out, ?_⟩⟩
    refine ⟨_, ?_, rfl, Hb.out.trans (belowK_b (w := w) (by omega) _ D _ (.deferred none) (by omega) HK.out rfl rfl)⟩
    simp [results, Tryd.f5, go_sem, hc7]
end Go.Proofs.YtfegbfhkmdmheaaDoor
