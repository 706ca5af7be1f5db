/- FoldLike, walked. -/
import Derived.Test.YtjkakemlhhieoaaDoorWalkGF
import Derived.Test.YtjkakemlhhieoaaDoorLenF
namespace Go.Proofs.YtjkakemlhhieoaaDoor
open Go.RowKit Go.Lib

theorem same5_symm (a b : List UInt8) : same5 b a = same5 a b := by
  unfold same5
  exact decide_eq_decide.2 ⟨fun h => h.symm, fun h => h.symm⟩

set_option maxRecDepth 100000 in
set_option maxHeartbeats 4000000 in
theorem like5_walk (a b c : ByteArray) (w : World) (ha : a.size ≤ 1048576) (hb : b.size ≤ 1048576) (hc : c.size ≤ 1048576) (hE : Env5 w) :
    Calls Tryd.prog 6 #[.string a, .string b, .string c] w fun e w' => e = .returned (.bool true) ∧ Below w.heap.size w w' := by
  have fa := fine_small a ha
  have fb := fine_small b hb
  have fc := fine_small c hc
  obtain ⟨x, hx⟩ : ∃ x, same5 a.data.toList b.data.toList = x := ⟨_, rfl⟩
  obtain ⟨y, hy⟩ : ∃ y, same5 b.data.toList c.data.toList = y := ⟨_, rfl⟩
  obtain ⟨z, hz⟩ : ∃ z, same5 a.data.toList c.data.toList = z := ⟨_, rfl⟩
  have HAB := Lib.hid (fun w hT => by have h := FSame_any a b w fa fb hT; rw [hx] at h; exact h)
  have HBC := Lib.hid (fun w hT => by have h := FSame_any b c w fb fc hT; rw [hy] at h; exact h)
  have HAC := Lib.hid (fun w hT => by have h := FSame_any a c w fa fc hT; rw [hz] at h; exact h)
  have HBA := Lib.hid (fun w hT => by have h := FSame_any b a w fb fa hT; rw [same5_symm, hx] at h; exact h)
  have hgo : x = true → y = true → z = true := fun h1 h2 => by
    rw [← hz]
    exact decide_eq_true ((of_decide_eq_true (hx.trans h1)).trans (of_decide_eq_true (hy.trans h2)))
  have HFA := Lib.hid (fun w hT => Fold_any a w fa hT)
  have HFB := Lib.hid (fun w hT => Fold_any b w fb hT)
  have hap : decide (foldS a.data.toList = foldS b.data.toList) = x := hx
  obtain ⟨pa, hpa⟩ : ∃ z, foldS a.data.toList = z := ⟨_, rfl⟩
  obtain ⟨pb, hpb⟩ : ∃ z, foldS b.data.toList = z := ⟨_, rfl⟩
  rw [hpa] at HFA hap
  rw [hpb] at HFB hap
  have HE := Lib.hid hE
  have Hap := Lib.hid hap
  have Hgo := Lib.hid hgo
  clear hx hy hz hpa hpb hap hE hgo fa fb fc
  go_enter Tryd.func6, Tryd.ntmps6
  go_wp2_with fail
  refine (works5_any w HE.out).mono ?_
  rintro _ w0 ⟨rfl, b0⟩
  have Hb0 := Lib.hid b0
  have HE0 := Lib.hid (HE.out.below b0)
  clear b0
  go_wp2_with fail
  refine (HAB.out w0 HE0.out).mono ?_
  rintro _ w1 ⟨rfl, b1⟩
  have Hb1 := Lib.hid (Hb0.out.trans (b1.mono Hb0.out.size))
  have HE1 := Lib.hid (HE0.out.below b1)
  clear b1
  go_wp2_with fail
  refine (HBC.out w1 HE1.out).mono ?_
  rintro _ w2 ⟨rfl, b2⟩
  have Hb2 := Lib.hid (Hb1.out.trans (b2.mono Hb1.out.size))
  have HE2 := Lib.hid (HE1.out.below b2)
  clear b2
  go_wp2_with fail
  refine (HAC.out w2 HE2.out).mono ?_
  rintro _ w3 ⟨rfl, b3⟩
  have Hb3 := Lib.hid (Hb2.out.trans (b3.mono Hb2.out.size))
  have HE3 := Lib.hid (HE2.out.below b3)
  clear b3
  go_wp2_with fail
  refine (HBA.out w3 HE3.out).mono ?_
  rintro _ w4 ⟨rfl, b4⟩
  have Hb4 := Lib.hid (Hb3.out.trans (b4.mono Hb3.out.size))
  have HE4 := Lib.hid (HE3.out.below b4)
  clear b4
  cases hxx : x with
  | false =>
    subst hxx
    have hne : ¬ pa = pb := fun e => by have := Hap.out; rw [decide_eq_true e] at this; cases this
    have n1 : ¬ ((⟨pa.toArray⟩ : ByteArray) = ⟨pb.toArray⟩) := fun e => hne (by have := congrArg (fun z : ByteArray => z.data.toList) e; simpa using this)
    have Hne := Lib.hid hne
    clear hne
    go_wp2_with fail
    refine (HFA.out w4 HE4.out).mono ?_
    rintro _ w5 ⟨rfl, b5⟩
    have Hb5 := Lib.hid (Hb4.out.trans (b5.mono Hb4.out.size))
    have HE5 := Lib.hid (HE4.out.below b5)
    clear b5
    go_wp2_with fail
    refine (HFB.out w5 HE5.out).mono ?_
    rintro _ w6 ⟨rfl, b6⟩
    have Hb6 := Lib.hid (Hb5.out.trans (b6.mono Hb5.out.size))
    clear b6
    go_wp2_with fail
    go_ret
    exact ⟨by show Ending.returned (.bool (!pa == pb)) = _; simp [Hne.out], Hb6.out⟩
  | true =>
    subst hxx
    obtain rfl : pa = pb := of_decide_eq_true Hap.out
    cases hyy : y with
    | false =>
      subst hyy
      go_wp2_with fail
      refine (HFA.out w4 HE4.out).mono ?_
      rintro _ w5 ⟨rfl, b5⟩
      have Hb5 := Lib.hid (Hb4.out.trans (b5.mono Hb4.out.size))
      have HE5 := Lib.hid (HE4.out.below b5)
      clear b5
      go_wp2_with fail
      refine (HFB.out w5 HE5.out).mono ?_
      rintro _ w6 ⟨rfl, b6⟩
      have Hb6 := Lib.hid (Hb5.out.trans (b6.mono Hb5.out.size))
      clear b6
      go_wp2_with fail
      go_ret
      exact ⟨rfl, Hb6.out⟩
    | true =>
      subst hyy
      obtain rfl : z = true := Hgo.out rfl rfl
      go_wp2_with fail
      refine (HFA.out w4 HE4.out).mono ?_
      rintro _ w5 ⟨rfl, b5⟩
      have Hb5 := Lib.hid (Hb4.out.trans (b5.mono Hb4.out.size))
      have HE5 := Lib.hid (HE4.out.below b5)
      clear b5
      go_wp2_with fail
      refine (HFB.out w5 HE5.out).mono ?_
      rintro _ w6 ⟨rfl, b6⟩
      have Hb6 := Lib.hid (Hb5.out.trans (b6.mono Hb5.out.size))
      clear b6
      go_wp2_with fail
      go_ret
      exact ⟨rfl, Hb6.out⟩
end Go.Proofs.YtjkakemlhhieoaaDoor
