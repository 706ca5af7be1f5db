/- Layer 11, the law JoinKnown, over the program's contracts. -/
import Derived.Test.YtjecbchnckknkaaLwSJ
set_option linter.unusedSimpArgs false
set_option linter.unusedVariables false
namespace Go.Proofs.Ytjecbchnckknkaa
open Go.RowKit Go.Lib

set_option maxRecDepth 100000 in
set_option maxHeartbeats 4000000 in
theorem is_anyJ {N : Nat} (H : JoinP N) (A A' : Option Addr) (n n' c c' : Nat) (ws ls : List Int) (w : World) (hw : RdF w A n ws) (hl : RdJ w A' n' ls) (hn : n' ≤ N) (he : formsJ 0 (ls.map kJ) = ws) :
    Calls Try.prog 27 #[.slice A n c, .slice A' n' c'] w fun e w' => e = .returned (.bool true) ∧ Below w.heap.size w w' := by
  have hwl : ws.length = n := by have := hw.1; simpa using this
  have hll := hl.len
  have hnn : n = n' := by rw [← hwl, ← he, formsJ_len, List.length_map, hll]
  have HF := Lib.hid (H.forms A' n' c' ls w hl hn)
  rw [he] at HF
  subst hnn
  have HW := Lib.hid hw
  clear hw hl he
  obtain ⟨B, hB⟩ : ∃ B, w.heap.size = B := ⟨_, rfl⟩
  have HB := Lib.hid hB
  rw [hB]
  clear hB
  go_enter Try.func27, Try.ntmps27
  go_wp2_with fail
  refine HF.out.mono ?_
  rintro _ W1 ⟨Q1, A1, c1, hQ1, rfl, o1, b1⟩
  rw [hwl] at o1 ⊢
  have H1 := Lib.hid (show RdF W1 A1 n ws ∧ RdF W1 A n ws ∧ Below w.heap.size w W1 from ⟨RdF.own o1, HW.out.below b1, b1⟩)
  clear o1 b1 hQ1 HF
  go_wp2_with fail
  refine (same_yes8 A1 A n c1 c ws W1 H1.out.1 H1.out.2.1 (by have := H.small; omega)).mono ?_
  rintro _ W2 ⟨rfl, b2⟩
  have H2 := Lib.hid (H1.out.2.2.trans (b2.mono H1.out.2.2.size))
  clear b2 H1
  go_wp2_with fail
  go_ret
  exact ⟨rfl, by rw [← HB.out]; exact H2.out⟩
/-- the helper at two lists just made -/
theorem is_litJ {N : Nat} (H : JoinP N) (ws ls : List Int) (c c' : Nat) (W : World) (q : Nat) (hq : q = W.heap.size + 1) (hw : ws.length ≤ maxLen) (hl : ls.length ≤ N) (he : formsJ 0 (ls.map kJ) = ws) :
    Calls Try.prog 27 #[.slice (some ⟨W.heap.size, 0, none⟩) ws.length c, .slice (some ⟨q, 0, none⟩) ls.length c'] ((W.alloc (.cells (i8s ws).toArray 27)).alloc (.cells (i32j ls).toArray 21)) fun e w' => e = .returned (.bool true) ∧ Below W.heap.size W w' := by
  have hs : (W.alloc (.cells (i8s ws).toArray 27)).heap.size = W.heap.size + 1 := by rw [World.size_alloc]
  have h1 := (litF W ws hw).below (below_newJ (W.alloc (.cells (i8s ws).toArray 27)) (.cells (i32j ls).toArray 21))
  have h2 := litJ (W.alloc (.cells (i8s ws).toArray 27)) ls (by have := H.small; unfold maxLen; omega)
  rw [hs, ← hq] at h2
  refine (is_anyJ H _ _ _ _ c c' ws ls _ h1 h2 hl he).mono ?_
  rintro e w' ⟨h, hb⟩
  have hb0 : Below W.heap.size W ((W.alloc (.cells (i8s ws).toArray 27)).alloc (.cells (i32j ls).toArray 21)) := ((Below.refl _ W).alloc (Nat.le_refl _) _).alloc (by rw [World.size_alloc]; omega) _
  exact ⟨h, hb0.trans (hb.mono hb0.size)⟩
set_option maxRecDepth 100000 in
set_option maxHeartbeats 4000000 in
theorem joinKnown_anyJ {N : Nat} (H : JoinP N) (w : World) : Calls Try.prog 9 #[] w fun e w' => e = .returned (.bool true) ∧ Below w.heap.size w w' := by
  have hml : ∀ xs : List Int, xs.length ≤ 4 → xs.length ≤ maxLen ∧ xs.length ≤ N := fun xs h => ⟨by unfold maxLen; omega, by have := H.big; omega⟩
  have F := Lib.hid (fun ws ls (h : formsJ 0 (ls.map kJ) = ws) (h1 : ws.length ≤ 4) (h2 : ls.length ≤ 4) c c' W q hq => is_litJ H ws ls c c' W q hq (hml _ h1).1 (hml _ h2).2 h)
  have F1 := Lib.hid (F.out [1, 2, 3] [1576, 1576, 1576] (by decide +kernel) (by decide) (by decide))
  have F2 := Lib.hid (F.out [0, 0] [1575, 1576] (by decide +kernel) (by decide) (by decide))
  have F3 := Lib.hid (F.out [1, 3, 0] [1576, 1575, 1576] (by decide +kernel) (by decide) (by decide))
  have F4 := Lib.hid (F.out [1, 0, 0] [1576, 1600, 65] (by decide +kernel) (by decide) (by decide))
  have F5 := Lib.hid (F.out [0, 3] [8205, 1575] (by decide +kernel) (by decide) (by decide))
  have F6 := Lib.hid (F.out [0, 0, 0] [1576, 8204, 1576] (by decide +kernel) (by decide) (by decide))
  have S1 := Lib.hid (fun W => H.shape 1575 1 W)
  have S2 := Lib.hid (fun W => H.shape 1569 3 W)
  have S3 := Lib.hid (fun W => H.shape 65 3 W)
  have S4 := Lib.hid (fun W => H.shape 1576 9 W)
  have S5 := Lib.hid (fun W => H.shape (-1) 0 W)
  rw [show shapeJ 1575 1 = 65165 by decide +kernel] at S1
  rw [show shapeJ 1569 3 = 65152 by decide +kernel] at S2
  rw [show shapeJ 65 3 = 65 by decide +kernel] at S3
  rw [show shapeJ 1576 9 = 65167 by decide +kernel] at S4
  rw [show shapeJ (-1) 0 = -1 by decide +kernel] at S5
  have H3 := Lib.hid (fun W => H.shaped (some ⟨W.heap.size, 0, none⟩) 2 2 [1581, 1576] (W.alloc (.cells (i32j [1581, 1576]).toArray 21)) (litJ W _ (by unfold maxLen; simp only [List.length_cons, List.length_nil]; decide)) (by have := H.big; omega))
  have H4 := Lib.hid (fun W => H.plain (-1) W)
  have H5 := Lib.hid (fun W => H.shaped none 0 0 [] W (RdJ.own (World.ownsRow_nil W W.heap.size _ _)) (Nat.zero_le _))
  rw [show shapedJ [1581, 1576] = [65187, 65168] by decide +kernel] at H3
  rw [show plainJ (-1) = [-1] by decide +kernel] at H4
  rw [show shapedJ [] = [] by decide +kernel] at H5
  have HW := Lib.hid (fun W => works_anyJ H W)
  obtain ⟨B, hB⟩ : ∃ B, w.heap.size = B := ⟨_, rfl⟩
  have H0 := Lib.hid (show OnJ B w w from ⟨Below.refl _ _, by omega⟩)
  rw [hB]
  clear hB F hml
  go_enter Try.func9, Try.ntmps9
  go_wp2_with fail
  refine (F1.out _ _ _ _ ?_).mono ?_
  · simp
  rintro _ W1 ⟨rfl, b1⟩
  have HB1 := Lib.hid (H0.out.on b1)
  clear b1 F1 H0
  go_wp2_with fail
  refine (F2.out _ _ _ _ ?_).mono ?_
  · simp
  rintro _ W2 ⟨rfl, b2⟩
  have HB2 := Lib.hid (HB1.out.on b2)
  clear b2 F2 HB1
  go_wp2_with fail
  refine (F3.out _ _ _ _ ?_).mono ?_
  · simp
  rintro _ W3 ⟨rfl, b3⟩
  have HB3 := Lib.hid (HB2.out.on b3)
  clear b3 F3 HB2
  go_wp2_with fail
  refine (F4.out _ _ _ _ ?_).mono ?_
  · simp
  rintro _ W4 ⟨rfl, b4⟩
  have HB4 := Lib.hid (HB3.out.on b4)
  clear b4 F4 HB3
  go_wp2_with fail
  refine (F5.out _ _ _ _ ?_).mono ?_
  · simp
  rintro _ W5 ⟨rfl, b5⟩
  have HB5 := Lib.hid (HB4.out.on b5)
  clear b5 F5 HB4
  go_wp2_with fail
  refine (F6.out _ _ _ _ ?_).mono ?_
  · simp
  rintro _ W6 ⟨rfl, b6⟩
  have HB6 := Lib.hid (HB5.out.on b6)
  clear b6 F6 HB5
  go_wp2_with fail
  refine (S1.out _).mono ?_
  rintro _ W7 ⟨rfl, b7⟩
  have HB7 := Lib.hid (HB6.out.on b7)
  clear b7 S1 HB6
  go_wp2_with fail
  refine (S2.out _).mono ?_
  rintro _ W8 ⟨rfl, b8⟩
  have HB8 := Lib.hid (HB7.out.on b8)
  clear b8 S2 HB7
  go_wp2_with fail
  refine (S3.out _).mono ?_
  rintro _ W9 ⟨rfl, b9⟩
  have HB9 := Lib.hid (HB8.out.on b9)
  clear b9 S3 HB8
  go_wp2_with fail
  refine (S4.out _).mono ?_
  rintro _ W10 ⟨rfl, b10⟩
  have HB10 := Lib.hid (HB9.out.on b10)
  clear b10 S4 HB9
  go_wp2_with fail
  refine (S5.out _).mono ?_
  rintro _ W11 ⟨rfl, b11⟩
  have HB11 := Lib.hid (HB10.out.on b11)
  clear b11 S5 HB10
  go_wp2_with fail
  refine (H3.out _).mono ?_
  rintro _ W12 ⟨Q12, A12, c12, hQ12, rfl, o12, b12⟩
  have HB12 := Lib.hid ((HB11.out.on (below_newJ _ _)).on b12)
  have HS := Lib.hid (fun c => same_yes32 A12 (some ⟨W12.heap.size, 0, none⟩) 2 c12 c [65187, 65168] (W12.alloc (.cells (i32j [65187, 65168]).toArray 21)) ((RdJ.own o12).below (below_newJ _ _)) (litJ W12 _ (by unfold maxLen; simp only [List.length_cons, List.length_nil]; decide)) (by decide))
  clear o12 b12 hQ12 H3 HB11
  go_wp2_with fail
  refine (HS.out _).mono ?_
  rintro _ W13 ⟨rfl, b13⟩
  have HB13 := Lib.hid ((HB12.out.on (below_newJ _ _)).on b13)
  clear b13 HS HB12
  go_wp2_with fail
  refine (H4.out _).mono ?_
  rintro _ W14 ⟨Q14, A14, c14, hQ14, rfl, o14, b14⟩
  have HB14 := Lib.hid (HB13.out.on b14)
  have HT := Lib.hid (fun c => same_yes32 A14 (some ⟨W14.heap.size, 0, none⟩) 1 c14 c [-1] (W14.alloc (.cells (i32j [-1]).toArray 21)) ((RdJ.own o14).below (below_newJ _ _)) (litJ W14 _ (by unfold maxLen; simp only [List.length_cons, List.length_nil]; decide)) (by decide))
  clear o14 b14 hQ14 H4 HB13
  go_wp2_with fail
  refine (HT.out _).mono ?_
  rintro _ W15 ⟨rfl, b15⟩
  have HB15 := Lib.hid ((HB14.out.on (below_newJ _ _)).on b15)
  clear b15 HT HB14
  go_wp2_with fail
  refine (H5.out _).mono ?_
  rintro _ W16 ⟨Q16, A16, c16, hQ16, rfl, o16, b16⟩
  have HB16 := Lib.hid (HB15.out.on b16)
  clear o16 b16 hQ16 H5 HB15
  go_wp2_with fail
  refine (HW.out _).mono ?_
  rintro _ W17 ⟨rfl, b17⟩
  have HB17 := Lib.hid (HB16.out.on b17)
  clear b17 HW HB16
  go_wp2_with fail
  go_ret
  exact ⟨rfl, HB17.out.1⟩
end Go.Proofs.Ytjecbchnckknkaa
