/- ShowCut, walked. MADE: tools/mklaws6.py (its drawn region out of the seat's own text). -/
import Derived.Test.YthejfbanehnmjaaDoorAlive6
import Derived.Test.YthejfbanehnmjaaDoorRfCDG
set_option linter.unusedSimpArgs false
set_option linter.unusedVariables false
namespace Go.Proofs.YthejfbanehnmjaaDoor
open Go.RowKit Go.Lib

set_option maxRecDepth 100000 in
set_option maxHeartbeats 2000000 in
theorem cut6_walk (s : ByteArray) (x1 tb : Int) (wd : Bool) (wt : Int) (jn rz : Bool) (w : World) (hs : s.size ≤ 1073741824) (h0 : -9223372036854775808 ≤ x1 ∧ x1 ≤ 9223372036854775807) (hT : Utf8Tabs 0 1 w) :
    Calls Tryd.prog 5 #[.string s, .int .i64 x1, lookV tb wd wt jn rz] w fun e w' => e = .returned (.bool true) ∧ Below w.heap.size w w' := by
  obtain ⟨B, hB⟩ : ∃ B, w.heap.size = B := ⟨_, rfl⟩
  have hP := fun W hT => pcut_any s x1 tb wd wt jn rz W hs hT
  have hD := fun W => rcut6_any s x1 tb wd wt jn rz W hs
  obtain ⟨n, hn⟩ : ∃ n, cutZ rz wd tb s x1 = n := ⟨_, rfl⟩
  rw [hn] at hP hD
  have HP := Lib.hid hP
  have HD := Lib.hid hD
  have HA := Lib.hid (fun W hT => alive6_any W hT)
  clear hP hD hn
  have hL := LookAt.new w 24 tb wd wt jn rz
  have hb : Below w.heap.size w (w.alloc (.cells #[.int .i64 tb, .bool wd, .int .i8 wt, .bool jn, .bool rz] 24)) := (Below.refl _ w).alloc (Nat.le_refl _) _
  obtain ⟨W0, hW⟩ : ∃ W, w.alloc (.cells #[.int .i64 tb, .bool wd, .int .i8 wt, .bool jn, .bool rz] 24) = W := ⟨_, rfl⟩
  have hsz : w.heap.size < W0.heap.size := by rw [← hW]; simp
  rw [hW] at hL hb
  have hTW := Utf8Tabs_below hT hb
  rw [hB] at hL hb hsz ⊢
  have HT := Lib.hid hTW
  have Hb := Lib.hid hb
  have HS : Hid (∀ W, Below W0.heap.size W0 W → (fun W => W.cell? ⟨B, 0, none⟩ = some (.int .i64 tb) ∧ W.cell? ⟨B, 1, none⟩ = some (.bool wd) ∧ W.cell? ⟨B, 2, none⟩ = some (.int .i8 wt) ∧ W.cell? ⟨B, 3, none⟩ = some (.bool jn) ∧ W.cell? ⟨B, 4, none⟩ = some (.bool rz)) W) := Lib.hid (fun W hb => by
    have q := hL.below hb hsz
    exact ⟨q.c0, q.c1, q.c2, q.c3, q.c4⟩)
  have Hv0 := Lib.hid ((Below.refl W0.heap.size W0).drew)
  clear hL hb hTW hT
  go_enter Tryd.func5, Tryd.ntmps5
  go_wp2_with fail
  try rw [hW]
  clear hW
  refine wp_region_noPanic ?_
  refine wp_region_held_drew (S := (fun W => W.cell? ⟨B, 0, none⟩ = some (.int .i64 tb) ∧ W.cell? ⟨B, 1, none⟩ = some (.bool wd) ∧ W.cell? ⟨B, 2, none⟩ = some (.int .i8 wt) ∧ W.cell? ⟨B, 3, none⟩ = some (.bool jn) ∧ W.cell? ⟨B, 4, none⟩ = some (.bool rz))) (by kernel_rfl) (HS.out _ Hv0.out) (fun hHeld => ?_)
  refine wpAnyH_take (i := 0) (oi := ({ dst := some 7, op := Op.move (Operand.tmp 0), type := 9, pos := "law.go:31", after := #[], guard := none } : Oper)) (v := ?_) rfl (by kernel_rfl) (by kernel_rfl) (by kernel_rfl) (fun _ _ _ h => h) (Or.inl ⟨by rfl, ?_⟩) (by assumption) ?_
  rotate_left
  · (intro w hSw; (try dsimp only at hSw); go_simp; all_goals (with_reducible rfl))
  try simp only [Act.put, List.setIfInBounds_toArray, List.set_cons_zero, List.set_cons_succ]
  refine wpAnyH_take (i := 1) (oi := ({ dst := some 8, op := Op.move (Operand.tmp 1), type := 3, pos := "law.go:31", after := #[], guard := none } : Oper)) (v := ?_) rfl (by kernel_rfl) (by kernel_rfl) (by kernel_rfl) (fun _ _ _ h => h) (Or.inl ⟨by rfl, ?_⟩) (by assumption) ?_
  rotate_left
  · (intro w hSw; (try dsimp only at hSw); go_simp; all_goals (with_reducible rfl))
  try simp only [Act.put, List.setIfInBounds_toArray, List.set_cons_zero, List.set_cons_succ]
  refine wpAnyH_take (i := 2) (oi := ({ dst := some 9, op := Op.load 24 (Operand.tmp 5), type := 24, pos := "law.go:31", after := #[], guard := none } : Oper)) (v := ?_) rfl (by kernel_rfl) (by kernel_rfl) (by kernel_rfl) (fun _ _ _ h => h) (Or.inl ⟨by rfl, ?_⟩) (by assumption) ?_
  rotate_left
  · (intro w hSw; (try dsimp only at hSw); go_simp; all_goals (with_reducible rfl))
  try simp only [Act.put, List.setIfInBounds_toArray, List.set_cons_zero, List.set_cons_succ]
  refine wpAnyH_take (i := 4) (oi := ({ dst := some 11, op := Op.move (Operand.tmp 0), type := 9, pos := "law.go:31", after := #[], guard := none } : Oper)) (v := ?_) rfl (by kernel_rfl) (by kernel_rfl) (by kernel_rfl) (fun _ _ _ h => h) (Or.inl ⟨by rfl, ?_⟩) (by assumption) ?_
  rotate_left
  · (intro w hSw; (try dsimp only at hSw); go_simp; all_goals (with_reducible rfl))
  try simp only [Act.put, List.setIfInBounds_toArray, List.set_cons_zero, List.set_cons_succ]
  refine wpAnyH_take (i := 5) (oi := ({ dst := some 12, op := Op.move (Operand.tmp 1), type := 3, pos := "law.go:31", after := #[], guard := none } : Oper)) (v := ?_) rfl (by kernel_rfl) (by kernel_rfl) (by kernel_rfl) (fun _ _ _ h => h) (Or.inl ⟨by rfl, ?_⟩) (by assumption) ?_
  rotate_left
  · (intro w hSw; (try dsimp only at hSw); go_simp; all_goals (with_reducible rfl))
  try simp only [Act.put, List.setIfInBounds_toArray, List.set_cons_zero, List.set_cons_succ]
  refine wpAnyH_take (i := 6) (oi := ({ dst := some 13, op := Op.load 24 (Operand.tmp 5), type := 24, pos := "law.go:31", after := #[], guard := none } : Oper)) (v := ?_) rfl (by kernel_rfl) (by kernel_rfl) (by kernel_rfl) (fun _ _ _ h => h) (Or.inl ⟨by rfl, ?_⟩) (by assumption) ?_
  rotate_left
  · (intro w hSw; (try dsimp only at hSw); go_simp; all_goals (with_reducible rfl))
  try simp only [Act.put, List.setIfInBounds_toArray, List.set_cons_zero, List.set_cons_succ]
  refine wpAnyH_ready (rs := [3]) (by kernel_rfl) (by simp) ?_
  refine AllReadyH.cons (o := ({ dst := some 10, op := Op.call { callee := Callee.value (Operand.func 15), args := #[Operand.tmp 7, Operand.tmp 8, Operand.tmp 9], argTypes := #[9, 3, 24] }, type := 3, pos := "law.go:31", after := #[{ on := 0, ground := Ground.data }, { on := 1, ground := Ground.data }, { on := 2, ground := Ground.data }], guard := none } : Oper)) rfl (fun K hK => ?_) AllReadyH.nil
  (go_simp; go_at_call 15; refine (HP.out _ (Utf8Tabs_below HT.out Hv0.out)).mono ?_; rintro _ v1 ⟨rfl, bb1⟩; have Hv1 := Lib.hid (Hv0.out.trans (bb1.mono Hv0.out.size)); clear bb1; (try dsimp only))
  refine hK.out _ _ (HS.out _ Hv1.out) (fun hHeld => ?_)
  clear hK K
  try simp only [Act.put, List.setIfInBounds_toArray, List.set_cons_zero, List.set_cons_succ]
  refine wpAnyH_ready (rs := [7]) (by kernel_rfl) (by simp) ?_
  refine AllReadyH.cons (o := ({ dst := some 14, op := Op.call { callee := Callee.value (Operand.func 16), args := #[Operand.tmp 11, Operand.tmp 12, Operand.tmp 13], argTypes := #[9, 3, 24] }, type := 3, pos := "law.go:31", after := #[{ on := 4, ground := Ground.data }, { on := 5, ground := Ground.data }, { on := 6, ground := Ground.data }, { on := 3, ground := Ground.chain }], guard := none } : Oper)) rfl (fun K hK => ?_) AllReadyH.nil
  (go_simp; go_at_call 16; refine (HD.out _).mono ?_; rintro _ v2 ⟨rfl, bb2⟩; have Hv2 := Lib.hid (Hv1.out.trans (bb2.mono Hv1.out.size)); clear bb2; (try dsimp only))
  refine hK.out _ _ (HS.out _ Hv2.out) (fun hHeld => ?_)
  clear hK K
  try simp only [Act.put, List.setIfInBounds_toArray, List.set_cons_zero, List.set_cons_succ]
  refine wpAnyH_take (i := 8) (oi := ({ dst := some 15, op := Op.binOp BinOp.eql 3 (Operand.tmp 10) (Operand.tmp 14) 3, type := 4, pos := "law.go:31", after := #[{ on := 3, ground := Ground.data }, { on := 7, ground := Ground.data }], guard := none } : Oper)) (v := ?_) rfl (by kernel_rfl) (by kernel_rfl) (by kernel_rfl) (fun _ _ _ h => h) (Or.inl ⟨by rfl, ?_⟩) (by assumption) ?_
  rotate_left
  · (intro w hSw; (try dsimp only at hSw); go_simp; all_goals (with_reducible rfl))
  try simp only [Act.put, List.setIfInBounds_toArray, List.set_cons_zero, List.set_cons_succ]
  refine wpAnyH_take (i := 9) (oi := ({ dst := some 16, op := Op.move (Operand.tmp 15), type := 4, pos := "law.go:31", after := #[{ on := 8, ground := Ground.data }, { on := 7, ground := Ground.chain }], guard := none } : Oper)) (v := ?_) rfl (by kernel_rfl) (by kernel_rfl) (by kernel_rfl) (fun _ _ _ h => h) (Or.inl ⟨by rfl, ?_⟩) (by assumption) ?_
  rotate_left
  · (intro w hSw; (try dsimp only at hSw); go_simp; all_goals (with_reducible rfl))
  try simp only [Act.put, List.setIfInBounds_toArray, List.set_cons_zero, List.set_cons_succ]
  refine wpAnyH_ready (rs := [10]) (by kernel_rfl) (by simp) ?_
  refine AllReadyH.cons (o := ({ dst := some 17, op := Op.call { callee := Callee.value (Operand.func 12), args := #[], argTypes := #[] }, type := 4, pos := "law.go:31", after := #[{ on := 9, ground := Ground.chain }, { on := 9, ground := Ground.guard }], guard := some (9, true) } : Oper)) rfl (fun K hK => ?_) AllReadyH.nil
  (go_simp; go_at_call 12; refine (HA.out _ (Utf8Tabs_below HT.out Hv2.out)).mono ?_; rintro _ v3 ⟨rfl, bb3⟩; have Hv3 := Lib.hid (Hv2.out.trans (bb3.mono Hv2.out.size)); clear bb3; (try dsimp only))
  refine hK.out _ _ (HS.out _ Hv3.out) (fun hHeld => ?_)
  clear hK K
  try simp only [Act.put, List.setIfInBounds_toArray, List.set_cons_zero, List.set_cons_succ]
  refine wpAnyH_take (i := 11) (oi := ({ dst := some 18, op := Op.pick (Operand.tmp 16) (Operand.tmp 17) (Operand.const (Value.bool false)), type := 4, pos := "law.go:31", after := #[{ on := 9, ground := Ground.data }, { on := 10, ground := Ground.data }], guard := none } : Oper)) (v := ?_) rfl (by kernel_rfl) (by kernel_rfl) (by kernel_rfl) (fun _ _ _ h => h) (Or.inl ⟨by rfl, ?_⟩) (by assumption) ?_
  rotate_left
  · (intro w hSw; (try dsimp only at hSw); go_simp; all_goals (with_reducible rfl))
  try simp only [Act.put, List.setIfInBounds_toArray, List.set_cons_zero, List.set_cons_succ]
  refine wpAnyH_take (i := 12) (oi := ({ dst := some 6, op := Op.assign (Operand.tmp 18), type := 4, pos := "law.go:31", after := #[{ on := 11, ground := Ground.data }, { on := 10, ground := Ground.chain }, { on := 0, ground := Ground.phase }, { on := 1, ground := Ground.phase }, { on := 2, ground := Ground.phase }, { on := 3, ground := Ground.phase }, { on := 4, ground := Ground.phase }, { on := 5, ground := Ground.phase }, { on := 6, ground := Ground.phase }, { on := 7, ground := Ground.phase }, { on := 8, ground := Ground.phase }, { on := 9, ground := Ground.phase }, { on := 10, ground := Ground.phase }, { on := 11, ground := Ground.phase }], guard := none } : Oper)) (v := ?_) rfl (by kernel_rfl) (by kernel_rfl) (by kernel_rfl) (fun _ _ _ h => h) (Or.inl ⟨by rfl, ?_⟩) (by assumption) ?_
  rotate_left
  · (intro w hSw; (try dsimp only at hSw); go_simp; all_goals (with_reducible rfl))
  try simp only [Act.put, List.setIfInBounds_toArray, List.set_cons_zero, List.set_cons_succ]
  refine wpAnyH_done (by kernel_rfl) ?_ _
  refine NoPanic.normal ?_
  go_wp2
  go_ret
  exact ⟨rfl, Hb.out.trans (Hv3.out.mono (by omega))⟩
end Go.Proofs.YthejfbanehnmjaaDoor
