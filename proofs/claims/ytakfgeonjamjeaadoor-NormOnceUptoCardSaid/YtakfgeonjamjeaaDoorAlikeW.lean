/- NormAlike, walked. -/
import Derived.Test.YtakfgeonjamjeaaDoorWakes4
import Derived.Test.YtakfgeonjamjeaaDoorNormG
namespace Go.Proofs.YtakfgeonjamjeaaDoor
open Go.RowKit Go.Lib

theorem sameZ_self (l : List UInt8) : sameZ l l = true := decide_eq_true rfl
theorem sameZ_symm (a b : List UInt8) : sameZ b a = sameZ a b := by
  unfold sameZ
  exact decide_eq_decide.2 ⟨fun h => h.symm, fun h => h.symm⟩
theorem bytes_eq (x y : List UInt8) : decide ((⟨x.toArray⟩ : ByteArray) = ⟨y.toArray⟩) = decide (x = y) :=
  decide_eq_decide.2 ⟨fun e => by have := congrArg (fun z : ByteArray => z.data.toList) e; simpa using this, fun e => by rw [e]⟩
theorem not_bytes {x y : List UInt8} (h : ¬ x = y) : ¬ ((⟨x.toArray⟩ : ByteArray) = ⟨y.toArray⟩) := fun e => h (by have := congrArg (fun z : ByteArray => z.data.toList) e; simpa using this)

set_option maxRecDepth 100000 in
set_option maxHeartbeats 4000000 in
theorem alike_any (a b c : ByteArray) (w : World) (ha : a.size ≤ 134217728) (hb : b.size ≤ 134217728) (hc : c.size ≤ 134217728) (hT : Utf8Tabs 0 1 w) :
    Calls Tryd.prog 9 #[.string a, .string b, .string c] w fun e w' => e = .returned (.bool true) ∧ Below w.heap.size w w' := by
  obtain ⟨x, hx⟩ : ∃ x, sameZ a.data.toList b.data.toList = x := ⟨_, rfl⟩
  obtain ⟨y, hy⟩ : ∃ y, sameZ b.data.toList c.data.toList = y := ⟨_, rfl⟩
  have HAB := Lib.hid (fun w hT => by have h := NSame_any a b w (by omega) (by omega) hT; rw [hx] at h; exact h)
  have HBC := Lib.hid (fun w hT => by have h := NSame_any b c w (by omega) (by omega) hT; rw [hy] at h; exact h)
  have HAA := Lib.hid (fun w hT => by have h := NSame_any a a w (by omega) (by omega) hT; rw [sameZ_self] at h; exact h)
  have HBA := Lib.hid (fun w hT => by have h := NSame_any b a w (by omega) (by omega) hT; rw [sameZ_symm, hx] at h; exact h)
  have HAC1 := Lib.hid (fun (h1 : x = true) (h2 : y = true) w hT => by
    have h := NSame_any a c w (by omega) (by omega) hT
    have e : sameZ a.data.toList c.data.toList = true := decide_eq_true ((of_decide_eq_true (hx.trans h1)).trans (of_decide_eq_true (hy.trans h2)))
    rw [e] at h
    exact h)
  have HAC2 := Lib.hid (fun (h1 : x = true) (h2 : y = false) w hT => by
    have h := NSame_any a c w (by omega) (by omega) hT
    have e : sameZ a.data.toList c.data.toList = false := decide_eq_false (fun e => of_decide_eq_false (hy.trans h2) ((of_decide_eq_true (hx.trans h1)).symm.trans e))
    rw [e] at h
    exact h)
  have HPA := Lib.hid (fun w hT => Apart_any a w (by omega) hT)
  have HPB := Lib.hid (fun w hT => Apart_any b w (by omega) hT)
  have HTA := Lib.hid (fun w hT => Together_any a w (by omega) hT)
  have HTB := Lib.hid (fun w hT => Together_any b w (by omega) hT)
  have hap : decide (apartS a.data.toList = apartS b.data.toList) = x := hx
  have htg : decide (togS a.data.toList = togS b.data.toList) = x := by
    rw [← hx]
    exact decide_eq_decide.2 (tog_iff _ _)
  obtain ⟨pa, hpa⟩ : ∃ z, apartS a.data.toList = z := ⟨_, rfl⟩
  obtain ⟨pb, hpb⟩ : ∃ z, apartS b.data.toList = z := ⟨_, rfl⟩
  obtain ⟨ta, hta⟩ : ∃ z, togS a.data.toList = z := ⟨_, rfl⟩
  obtain ⟨tb, htb⟩ : ∃ z, togS b.data.toList = z := ⟨_, rfl⟩
  rw [hpa] at HPA hap
  rw [hpb] at HPB hap
  rw [hta] at HTA htg
  rw [htb] at HTB htg
  have HT := Lib.hid hT
  have Hap := Lib.hid hap
  have Htg := Lib.hid htg
  clear hx hy hpa hpb hta htb hap htg hT
  go_enter Tryd.func9, Tryd.ntmps9
  go_wp2_with fail
  refine (HAB.out w HT.out).mono ?_
  rintro _ w1 ⟨rfl, b1⟩
  have Hb1 := Lib.hid b1
  have HT1 := Lib.hid (Utf8Tabs_below HT.out b1)
  clear b1
  go_wp2_with fail
  refine (HBC.out w1 HT1.out).mono ?_
  rintro _ w2 ⟨rfl, b2⟩
  have Hb2 := Lib.hid (Hb1.out.trans (b2.mono Hb1.out.size))
  have HT2 := Lib.hid (Utf8Tabs_below HT.out Hb2.out)
  clear b2
  go_wp2_with fail
  refine (HAA.out w2 HT2.out).mono ?_
  rintro _ w3 ⟨rfl, b3⟩
  have Hb3 := Lib.hid (Hb2.out.trans (b3.mono Hb2.out.size))
  have HT3 := Lib.hid (Utf8Tabs_below HT.out Hb3.out)
  clear b3
  go_wp2_with fail
  refine (HBA.out w3 HT3.out).mono ?_
  rintro _ w4 ⟨rfl, b4⟩
  have Hb4 := Lib.hid (Hb3.out.trans (b4.mono Hb3.out.size))
  have HT4 := Lib.hid (Utf8Tabs_below HT.out Hb4.out)
  clear b4
  have tail : ∀ w5 : World, Below w.heap.size w w5 → True := fun _ _ => trivial
  cases hxx : x with
  | false =>
    subst hxx
    by_cases e1 : pa = pb
    · exfalso
      have := Hap.out
      rw [decide_eq_true e1] at this
      cases this
    by_cases e2 : ta = tb
    · exfalso
      have := Htg.out
      rw [decide_eq_true e2] at this
      cases this
    have n1 := not_bytes e1
    have n2 := not_bytes e2
    go_wp2_with fail
    refine (HPA.out w4 HT4.out).mono ?_
    rintro _ w6 ⟨rfl, b6⟩
    have Hb6 := Lib.hid (Hb4.out.trans (b6.mono Hb4.out.size))
    have HT6 := Lib.hid (Utf8Tabs_below HT.out Hb6.out)
    clear b6
    go_wp2_with fail
    refine (HPB.out w6 HT6.out).mono ?_
    rintro _ w7 ⟨rfl, b7⟩
    have Hb7 := Lib.hid (Hb6.out.trans (b7.mono Hb6.out.size))
    have HT7 := Lib.hid (Utf8Tabs_below HT.out Hb7.out)
    clear b7
    go_wp2_with fail
    refine (HTA.out w7 HT7.out).mono ?_
    rintro _ w8 ⟨rfl, b8⟩
    have Hb8 := Lib.hid (Hb7.out.trans (b8.mono Hb7.out.size))
    have HT8 := Lib.hid (Utf8Tabs_below HT.out Hb8.out)
    clear b8
    go_wp2_with fail
    refine (HTB.out w8 HT8.out).mono ?_
    rintro _ w9 ⟨rfl, b9⟩
    have Hb9 := Lib.hid (Hb8.out.trans (b9.mono Hb8.out.size))
    have HT9 := Lib.hid (Utf8Tabs_below HT.out Hb9.out)
    clear b9
    go_wp2_with fail
    refine (wakes4_any w9 HT9.out).mono ?_
    rintro _ wz ⟨rfl, bz⟩
    have Hbz := Lib.hid (Hb9.out.trans (bz.mono Hb9.out.size))
    clear bz
    go_wp2_with fail
    go_ret
    exact ⟨by show Ending.returned (.bool (!pa == pb && !ta == tb)) = _; simp [e1, e2], Hbz.out⟩
  | true =>
    subst hxx
    obtain rfl : pa = pb := of_decide_eq_true Hap.out
    obtain rfl : ta = tb := of_decide_eq_true Htg.out
    obtain ⟨v, hv⟩ : ∃ v, y = v := ⟨_, rfl⟩
    have HAC := Lib.hid (fun (w : World) (hT : Utf8Tabs 0 1 w) => by
      have h : Calls Tryd.prog 24 #[.string a, .string c] w fun e w' => e = .returned (.bool y) ∧ Below w.heap.size w w' := by
        cases y with
        | true => exact HAC1.out rfl rfl w hT
        | false => exact HAC2.out rfl rfl w hT
      exact h)
    clear hv v
    have two : ∀ z : Bool, y = z → True := fun _ _ => trivial
    cases hy : y with
    | true =>
      subst hy
      go_wp2_with fail
      refine (HAC.out w4 HT4.out).mono ?_
      rintro _ w5 ⟨rfl, b5⟩
      have Hb5 := Lib.hid (Hb4.out.trans (b5.mono Hb4.out.size))
      have HT5 := Lib.hid (Utf8Tabs_below HT.out Hb5.out)
      clear b5
      go_wp2_with fail
      refine (HPA.out w5 HT5.out).mono ?_
      rintro _ w6 ⟨rfl, b6⟩
      have Hb6 := Lib.hid (Hb5.out.trans (b6.mono Hb5.out.size))
      have HT6 := Lib.hid (Utf8Tabs_below HT.out Hb6.out)
      clear b6
      go_wp2_with fail
      refine (HPB.out w6 HT6.out).mono ?_
      rintro _ w7 ⟨rfl, b7⟩
      have Hb7 := Lib.hid (Hb6.out.trans (b7.mono Hb6.out.size))
      have HT7 := Lib.hid (Utf8Tabs_below HT.out Hb7.out)
      clear b7
      go_wp2_with fail
      refine (HTA.out w7 HT7.out).mono ?_
      rintro _ w8 ⟨rfl, b8⟩
      have Hb8 := Lib.hid (Hb7.out.trans (b8.mono Hb7.out.size))
      have HT8 := Lib.hid (Utf8Tabs_below HT.out Hb8.out)
      clear b8
      go_wp2_with fail
      refine (HTB.out w8 HT8.out).mono ?_
      rintro _ w9 ⟨rfl, b9⟩
      have Hb9 := Lib.hid (Hb8.out.trans (b9.mono Hb8.out.size))
      have HT9 := Lib.hid (Utf8Tabs_below HT.out Hb9.out)
      clear b9
      go_wp2_with fail
      refine (wakes4_any w9 HT9.out).mono ?_
      rintro _ wz ⟨rfl, bz⟩
      have Hbz := Lib.hid (Hb9.out.trans (bz.mono Hb9.out.size))
      clear bz
      go_wp2_with fail
      go_ret
      exact ⟨rfl, Hbz.out⟩
    | false =>
      subst hy
      go_wp2_with fail
      refine (HAC.out w4 HT4.out).mono ?_
      rintro _ w5 ⟨rfl, b5⟩
      have Hb5 := Lib.hid (Hb4.out.trans (b5.mono Hb4.out.size))
      have HT5 := Lib.hid (Utf8Tabs_below HT.out Hb5.out)
      clear b5
      go_wp2_with fail
      refine (HPA.out w5 HT5.out).mono ?_
      rintro _ w6 ⟨rfl, b6⟩
      have Hb6 := Lib.hid (Hb5.out.trans (b6.mono Hb5.out.size))
      have HT6 := Lib.hid (Utf8Tabs_below HT.out Hb6.out)
      clear b6
      go_wp2_with fail
      refine (HPB.out w6 HT6.out).mono ?_
      rintro _ w7 ⟨rfl, b7⟩
      have Hb7 := Lib.hid (Hb6.out.trans (b7.mono Hb6.out.size))
      have HT7 := Lib.hid (Utf8Tabs_below HT.out Hb7.out)
      clear b7
      go_wp2_with fail
      refine (HTA.out w7 HT7.out).mono ?_
      rintro _ w8 ⟨rfl, b8⟩
      have Hb8 := Lib.hid (Hb7.out.trans (b8.mono Hb7.out.size))
      have HT8 := Lib.hid (Utf8Tabs_below HT.out Hb8.out)
      clear b8
      go_wp2_with fail
      refine (HTB.out w8 HT8.out).mono ?_
      rintro _ w9 ⟨rfl, b9⟩
      have Hb9 := Lib.hid (Hb8.out.trans (b9.mono Hb8.out.size))
      have HT9 := Lib.hid (Utf8Tabs_below HT.out Hb9.out)
      clear b9
      go_wp2_with fail
      refine (wakes4_any w9 HT9.out).mono ?_
      rintro _ wz ⟨rfl, bz⟩
      have Hbz := Lib.hid (Hb9.out.trans (bz.mono Hb9.out.size))
      clear bz
      go_wp2_with fail
      go_ret
      exact ⟨rfl, Hbz.out⟩
end Go.Proofs.YtakfgeonjamjeaaDoor
