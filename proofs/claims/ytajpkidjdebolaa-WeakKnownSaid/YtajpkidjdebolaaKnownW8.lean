/- Layer 8: WeakKnown walked. (Made by tools/mkknown8.py.) -/
import Derived.Test.YtajpkidjdebolaaLawA8
set_option linter.unusedSimpArgs false
set_option linter.unusedVariables false
namespace Go.Proofs.Ytajpkidjdebolaa
open Go.RowKit Go.Lib

theorem RdK.lit2 (w : World) (l l' : List Int) (t t' : TypeId) : RdK ((w.alloc (.cells (i8s l).toArray t)).alloc (.cells (i8s l').toArray t')) (some ⟨w.heap.size, 0, none⟩) l.length l :=
  (RdK.lit w l t).below ((Below.refl _ _).alloc (Nat.le_refl _) _)
theorem RdK.lit3 (w : World) (l l' : List Int) (t t' : TypeId) : RdK ((w.alloc (.cells (i8s l).toArray t)).alloc (.cells (i8s l').toArray t')) (some ⟨w.heap.size + 1, 0, none⟩) l'.length l' := by
  have h := RdK.lit (w.alloc (.cells (i8s l).toArray t)) l' t'
  rw [World.size_alloc] at h
  exact h
theorem after_new2 {Q : Nat} {W w1 : World} {w : World} {o o' : Obj} (h : Below Q w W ∧ Q ≤ W.heap.size) (b : Below ((W.alloc o).alloc o').heap.size ((W.alloc o).alloc o') w1) : Below Q w w1 ∧ Q ≤ w1.heap.size := by
  have h1 : Below W.heap.size W ((W.alloc o).alloc o') := ((Below.refl _ W).alloc (Nat.le_refl _) o).alloc (by rw [World.size_alloc]; omega) o'
  have h2 : Below W.heap.size W w1 := h1.trans (b.mono h1.size)
  exact after_same h h2
theorem is_any8 (s : Int) (l want : List Int) (he : resZ s l = want) (A A' : Option Addr) (n c c' : Nat) (w : World) (h1 : RdK w A n l) (h2 : RdK w A' n want) (hn : n ≤ 100) :
    Calls Try.prog 19 #[.int .i8 s, .slice A n c, .slice A' n c'] w fun e w' => e = .returned (.bool true) ∧ Below w.heap.size w w' := by
  have HR := Lib.hid (wresolve_any A n c s l w h1 (by omega))
  have HE := Lib.hid (fun A c w h1 h2 => same_any8 want A A' n c c' w h1 h2 (by omega))
  unfold NewAt at HR
  rw [he] at HR
  have H2 := Lib.hid h2
  clear h1 h2 he
  go_enter Try.func19, Try.ntmps19
  go_wp2_with fail
  refine HR.out.mono ?_
  rintro _ w1 ⟨A1, c1, rfl, o1, b1⟩
  have Hb := Lib.hid b1
  have H3 := Lib.hid (H2.out.below b1)
  have HO := Lib.hid (RdK.own o1)
  clear o1 b1
  go_wp2_with fail
  refine (HE.out A1 c1 w1 HO.out H3.out).mono ?_
  rintro _ w2 ⟨rfl, b2⟩
  have Hb2 := Lib.hid (Hb.out.trans (b2.mono Hb.out.size))
  clear b2
  go_wp2_with fail
  go_ret
  exact ⟨rfl, Hb2.out⟩
set_option maxRecDepth 100000 in
set_option maxHeartbeats 4000000 in
theorem known_walk8 (w : World) : Calls Try.prog 8 #[] w fun e w' => e = .returned (.bool true) ∧ Below w.heap.size w w' := by
  have HI := Lib.hid is_any8
  have HR := Lib.hid (fun A n c s zs w (h : RdK w A n zs) hn => wresolve_any A n c s zs w h hn)
  have HS := Lib.hid (fun k A n c s zs w (h : RdK w A n zs) hn => wstep_any k A n c s zs w h hn)
  have HE := Lib.hid same_any8
  have HW := Lib.hid works_any8
  unfold NewAt at HR HS
  have e9 := Lib.hid (show oneZ 9 0 [77, 8] = [13, 8] by decide)
  obtain ⟨Q, hQ⟩ : ∃ Q, w.heap.size = Q := ⟨_, rfl⟩
  rw [hQ]
  have H0 := Lib.hid (show Below Q w w ∧ Q ≤ w.heap.size from ⟨Below.refl Q w, by omega⟩)
  clear hQ
  go_enter Try.func8, Try.ntmps8
  go_wp2_with fail
  refine (HI.out 0 [2, 8, 8] [1, 1, 1] (by decide) _ _ 3 _ _ _ (RdK.lit2 _ [2, 8, 8] [1, 1, 1] _ _) (RdK.lit3 _ [2, 8, 8] [1, 1, 1] _ _) (by omega)).mono ?_
  rintro _ w1 ⟨rfl, b1⟩
  have H1 := Lib.hid (after_new2 H0.out b1)
  clear b1 H0
  go_wp2_with fail
  refine (HI.out 1 [8, 3] [1, 3] (by decide) _ _ 2 _ _ _ (RdK.lit2 _ [8, 3] [1, 3] _ _) (RdK.lit3 _ [8, 3] [1, 3] _ _) (by omega)).mono ?_
  rintro _ w2 ⟨rfl, b2⟩
  have H2 := Lib.hid (after_new2 H1.out b2)
  clear b2 H1
  go_wp2_with fail
  refine (HI.out 0 [8, 3] [0, 0] (by decide) _ _ 2 _ _ _ (RdK.lit2 _ [8, 3] [0, 0] _ _) (RdK.lit3 _ [8, 3] [0, 0] _ _) (by omega)).mono ?_
  rintro _ w3 ⟨rfl, b3⟩
  have H3 := Lib.hid (after_new2 H2.out b3)
  clear b3 H2
  go_wp2_with fail
  refine (HI.out 0 [19, 8, 22, 8] [19, 13, 22, 13] (by decide) _ _ 4 _ _ _ (RdK.lit2 _ [19, 8, 22, 8] [19, 13, 22, 13] _ _) (RdK.lit3 _ [19, 8, 22, 8] [19, 13, 22, 13] _ _) (by omega)).mono ?_
  rintro _ w4 ⟨rfl, b4⟩
  have H4 := Lib.hid (after_new2 H3.out b4)
  clear b4 H3
  go_wp2_with fail
  refine (HI.out 1 [2, 13, 3] [1, 13, 6] (by decide) _ _ 3 _ _ _ (RdK.lit2 _ [2, 13, 3] [1, 13, 6] _ _) (RdK.lit3 _ [2, 13, 3] [1, 13, 6] _ _) (by omega)).mono ?_
  rintro _ w5 ⟨rfl, b5⟩
  have H5 := Lib.hid (after_new2 H4.out b5)
  clear b5 H4
  go_wp2_with fail
  refine (HI.out 1 [6, 7, 6] [6, 6, 6] (by decide) _ _ 3 _ _ _ (RdK.lit2 _ [6, 7, 6] [6, 6, 6] _ _) (RdK.lit3 _ [6, 7, 6] [6, 6, 6] _ _) (by omega)).mono ?_
  rintro _ w6 ⟨rfl, b6⟩
  have H6 := Lib.hid (after_new2 H5.out b6)
  clear b6 H5
  go_wp2_with fail
  refine (HI.out 1 [3, 7, 6] [3, 13, 6] (by decide) _ _ 3 _ _ _ (RdK.lit2 _ [3, 7, 6] [3, 13, 6] _ _) (RdK.lit3 _ [3, 7, 6] [3, 13, 6] _ _) (by omega)).mono ?_
  rintro _ w7 ⟨rfl, b7⟩
  have H7 := Lib.hid (after_new2 H6.out b7)
  clear b7 H6
  go_wp2_with fail
  refine (HI.out 1 [3, 4, 3] [3, 3, 3] (by decide) _ _ 3 _ _ _ (RdK.lit2 _ [3, 4, 3] [3, 3, 3] _ _) (RdK.lit3 _ [3, 4, 3] [3, 3, 3] _ _) (by omega)).mono ?_
  rintro _ w8 ⟨rfl, b8⟩
  have H8 := Lib.hid (after_new2 H7.out b8)
  clear b8 H7
  go_wp2_with fail
  refine (HI.out 1 [6, 4, 6] [6, 13, 6] (by decide) _ _ 3 _ _ _ (RdK.lit2 _ [6, 4, 6] [6, 13, 6] _ _) (RdK.lit3 _ [6, 4, 6] [6, 13, 6] _ _) (by omega)).mono ?_
  rintro _ w9 ⟨rfl, b9⟩
  have H9 := Lib.hid (after_new2 H8.out b9)
  clear b9 H8
  go_wp2_with fail
  refine (HI.out 1 [3, 7, 7, 3] [3, 13, 13, 3] (by decide) _ _ 4 _ _ _ (RdK.lit2 _ [3, 7, 7, 3] [3, 13, 13, 3] _ _) (RdK.lit3 _ [3, 7, 7, 3] [3, 13, 13, 3] _ _) (by omega)).mono ?_
  rintro _ w10 ⟨rfl, b10⟩
  have H10 := Lib.hid (after_new2 H9.out b10)
  clear b10 H9
  go_wp2_with fail
  refine (HI.out 1 [5, 5, 3] [3, 3, 3] (by decide) _ _ 3 _ _ _ (RdK.lit2 _ [5, 5, 3] [3, 3, 3] _ _) (RdK.lit3 _ [5, 5, 3] [3, 3, 3] _ _) (by omega)).mono ?_
  rintro _ w11 ⟨rfl, b11⟩
  have H11 := Lib.hid (after_new2 H10.out b11)
  clear b11 H10
  go_wp2_with fail
  refine (HI.out 1 [6, 5, 3] [6, 3, 3] (by decide) _ _ 3 _ _ _ (RdK.lit2 _ [6, 5, 3] [6, 3, 3] _ _) (RdK.lit3 _ [6, 5, 3] [6, 3, 3] _ _) (by omega)).mono ?_
  rintro _ w12 ⟨rfl, b12⟩
  have H12 := Lib.hid (after_new2 H11.out b12)
  clear b12 H11
  go_wp2_with fail
  refine (HI.out 1 [5, 6] [13, 6] (by decide) _ _ 2 _ _ _ (RdK.lit2 _ [5, 6] [13, 6] _ _) (RdK.lit3 _ [5, 6] [13, 6] _ _) (by omega)).mono ?_
  rintro _ w13 ⟨rfl, b13⟩
  have H13 := Lib.hid (after_new2 H12.out b13)
  clear b13 H12
  go_wp2_with fail
  refine (HI.out 0 [1, 3] [1, 3] (by decide) _ _ 2 _ _ _ (RdK.lit2 _ [1, 3] [1, 3] _ _) (RdK.lit3 _ [1, 3] [1, 3] _ _) (by omega)).mono ?_
  rintro _ w14 ⟨rfl, b14⟩
  have H14 := Lib.hid (after_new2 H13.out b14)
  clear b14 H13
  go_wp2_with fail
  refine (HI.out 1 [0, 13, 3] [0, 13, 0] (by decide) _ _ 3 _ _ _ (RdK.lit2 _ [0, 13, 3] [0, 13, 0] _ _) (RdK.lit3 _ [0, 13, 3] [0, 13, 0] _ _) (by omega)).mono ?_
  rintro _ w15 ⟨rfl, b15⟩
  have H15 := Lib.hid (after_new2 H14.out b15)
  clear b15 H14
  go_wp2_with fail
  refine (HI.out 9 [3] [0] (by decide) _ _ 1 _ _ _ (RdK.lit2 _ [3] [0] _ _) (RdK.lit3 _ [3] [0] _ _) (by omega)).mono ?_
  rintro _ w16 ⟨rfl, b16⟩
  have H16 := Lib.hid (after_new2 H15.out b16)
  clear b16 H15
  go_wp2_with fail
  refine (HR.out none 0 0 1 [] _ (Rd.nil _ _ _ _) (by omega)).mono ?_
  rintro _ w17 ⟨A17, c17, rfl, o17, b17⟩
  have H17 := Lib.hid (after_same H16.out b17)
  clear o17 b17 H16
  go_wp2_with fail
  refine (HS.out 9 _ 2 _ 0 [77, 8] _ (RdK.lit _ [77, 8] _) (by omega)).mono ?_
  rintro _ w18 ⟨A18, c18, rfl, o18, b18⟩
  rw [e9.out] at o18
  have H18 := Lib.hid (after_new H17.out b18).2
  have HO := Lib.hid (RdK.own o18)
  clear o18 b18 H17
  go_wp2_with fail
  refine (HE.out [13, 8] _ _ 2 _ _ _ (HO.out.below ((Below.refl _ _).alloc (Nat.le_refl _) _)) (RdK.lit _ [13, 8] _) (by omega)).mono ?_
  rintro _ w19 ⟨rfl, b19⟩
  have H19 := Lib.hid (after_new H18.out b19).2
  clear b19 H18 HO
  go_wp2_with fail
  refine (HW.out _).mono ?_
  rintro _ w20 ⟨rfl, b20⟩
  have H20 := Lib.hid (after_same H19.out b20)
  clear b20 H19
  go_wp2_with fail
  go_ret
  exact ⟨rfl, H20.out.1⟩
end Go.Proofs.Ytajpkidjdebolaa
