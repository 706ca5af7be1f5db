/- FoldSame, walked. -/
import Derived.Test.YtjkakemlhhieoaaGreatDoorWalkGF
import Derived.Test.YtjkakemlhhieoaaGreatDoorDocG
set_option linter.unusedSimpArgs false
set_option linter.unusedVariables false
namespace Go.Proofs.YtjkakemlhhieoaaGreatDoor
open Go.RowKit Go.Lib

theorem same5_symm (a b : List UInt8) : same5 b a = same5 a b := by
  unfold same5
  exact decide_eq_decide.2 ⟨fun h => h.symm, fun h => h.symm⟩

theorem rFSame5_any (a b : ByteArray) (w : World) (ha : a.size ≤ 1048576) (hb : b.size ≤ 1048576) : Calls Tryz.prog 17 #[.string a, .string b] w fun e w' => e = .returned (.bool (same5 a.data.toList b.data.toList)) ∧ Below w.heap.size w w' := by
  have HA := Lib.hid (rFold_any a w (by omega))
  have HB := Lib.hid (fun w => rFold_any b w (by omega))
  unfold same5
  obtain ⟨x, hx⟩ : ∃ x, foldS a.data.toList = x := ⟨_, rfl⟩
  obtain ⟨y, hy⟩ : ∃ y, foldS b.data.toList = y := ⟨_, rfl⟩
  rw [hx] at HA ⊢
  rw [hy] at HB ⊢
  clear hx hy ha hb
  go_enter Tryz.func17, Tryz.ntmps17
  go_wp2_with fail
  refine HA.out.mono ?_
  rintro _ w1 ⟨rfl, b1⟩
  have Hb1 := Lib.hid b1
  clear b1
  go_wp2_with fail
  refine (HB.out w1).mono ?_
  rintro _ w2 ⟨rfl, b2⟩
  have Hb2 := Lib.hid (Hb1.out.trans (b2.mono Hb1.out.size))
  clear b2
  by_cases h : x = y
  · subst h
    go_wp2_with fail
    go_ret
    exact ⟨by simp, Hb2.out⟩
  · have hne : ¬ ((⟨x.toArray⟩ : ByteArray) = ⟨y.toArray⟩) := fun e => h (by have := congrArg (fun z : ByteArray => z.data.toList) e; simpa using this)
    go_wp2_with fail
    go_ret
    exact ⟨by simp [h], Hb2.out⟩

set_option maxRecDepth 100000 in
set_option maxHeartbeats 4000000 in
theorem same5_walk (a b : ByteArray) (w : World) (ha : a.size ≤ 1048576) (hb : b.size ≤ 1048576) (hE : Env5 w) :
    Calls Tryz.prog 4 #[.string a, .string b] w fun e w' => e = .returned (.bool true) ∧ Below w.heap.size w w' := by
  have fa := fine_small a ha
  have fb := fine_small b hb
  obtain ⟨x, hx⟩ : ∃ x, same5 a.data.toList b.data.toList = x := ⟨_, rfl⟩
  have HAB := Lib.hid (fun w hT => by have h := FSame_any a b w fa fb hT; rw [hx] at h; exact h)
  have HBA := Lib.hid (fun w hT => by have h := FSame_any b a w fb fa hT; rw [same5_symm, hx] at h; exact h)
  have HRS := Lib.hid (fun w => by have h := rFSame5_any a b w ha hb; rw [hx] at h; exact h)
  have HE := Lib.hid hE
  clear hx hE fa fb ha hb
  cases x with
  | true =>
    go_enter Tryz.func4, Tryz.ntmps4
    go_wp2_with fail
    refine (HAB.out w HE.out).mono ?_
    rintro _ w1 ⟨rfl, b1⟩
    have Hb1 := Lib.hid b1
    have HE1 := Lib.hid (HE.out.below b1)
    clear b1
    go_wp2_with fail
    refine (HRS.out w1).mono ?_
    rintro _ w2 ⟨rfl, b2⟩
    have Hb2 := Lib.hid (Hb1.out.trans (b2.mono Hb1.out.size))
    have HE2 := Lib.hid (HE1.out.below b2)
    clear b2
    go_wp2_with fail
    refine (HBA.out w2 HE2.out).mono ?_
    rintro _ w3 ⟨rfl, b3⟩
    have Hb3 := Lib.hid (Hb2.out.trans (b3.mono Hb2.out.size))
    have HE3 := Lib.hid (HE2.out.below b3)
    clear b3
    go_wp2_with fail
    refine (HRS.out w3).mono ?_
    rintro _ w4 ⟨rfl, b4⟩
    have Hb4 := Lib.hid (Hb3.out.trans (b4.mono Hb3.out.size))
    have HE4 := Lib.hid (HE3.out.below b4)
    clear b4
    go_wp2_with fail
    refine (works5_any w4 HE4.out).mono ?_
    rintro _ w5 ⟨rfl, b5⟩
    have Hb5 := Lib.hid (Hb4.out.trans (b5.mono Hb4.out.size))
    clear b5
    go_wp2_with fail
    go_ret
    exact ⟨rfl, Hb5.out⟩
  | false =>
    go_enter Tryz.func4, Tryz.ntmps4
    go_wp2_with fail
    refine (HAB.out w HE.out).mono ?_
    rintro _ w1 ⟨rfl, b1⟩
    have Hb1 := Lib.hid b1
    have HE1 := Lib.hid (HE.out.below b1)
    clear b1
    go_wp2_with fail
    refine (HRS.out w1).mono ?_
    rintro _ w2 ⟨rfl, b2⟩
    have Hb2 := Lib.hid (Hb1.out.trans (b2.mono Hb1.out.size))
    have HE2 := Lib.hid (HE1.out.below b2)
    clear b2
    go_wp2_with fail
    refine (HBA.out w2 HE2.out).mono ?_
    rintro _ w3 ⟨rfl, b3⟩
    have Hb3 := Lib.hid (Hb2.out.trans (b3.mono Hb2.out.size))
    have HE3 := Lib.hid (HE2.out.below b3)
    clear b3
    go_wp2_with fail
    refine (HRS.out w3).mono ?_
    rintro _ w4 ⟨rfl, b4⟩
    have Hb4 := Lib.hid (Hb3.out.trans (b4.mono Hb3.out.size))
    have HE4 := Lib.hid (HE3.out.below b4)
    clear b4
    go_wp2_with fail
    refine (works5_any w4 HE4.out).mono ?_
    rintro _ w5 ⟨rfl, b5⟩
    have Hb5 := Lib.hid (Hb4.out.trans (b5.mono Hb4.out.size))
    clear b5
    go_wp2_with fail
    go_ret
    exact ⟨rfl, Hb5.out⟩
end Go.Proofs.YtjkakemlhhieoaaGreatDoor
