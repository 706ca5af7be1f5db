/- Layer 8: WeakResolves walked. (Made by tools/mkresolves8.py.) -/
import Derived.Test.YtajpkidjdebolaaLentW
import Derived.Test.YtajpkidjdebolaaRefF8
set_option linter.unusedSimpArgs false
set_option linter.unusedVariables false
namespace Go.Proofs.Ytajpkidjdebolaa
open Go.RowKit Go.Lib

theorem own_lower {w w' : World} {M B g n c : Nat} {xs : List Value} (h : w.ownsRow B 23 1 (.slice (some ⟨g, 0, none⟩) n c) n xs) (hg : g < M) (hb : Below M w w') : w'.ownsRow B 23 1 (.slice (some ⟨g, 0, none⟩) n c) n xs := by
  refine ⟨h.1, ?_⟩
  rcases h.2 with h0 | ⟨g', cap, cur, hv, hg', hh, r⟩
  · exact .inl h0
  · have e : g = g' := by
      injection hv with hv
      injection hv with hv
      injection hv
    subst e
    exact .inr ⟨g, cap, cur, hv, hg', (hb.block g hg).trans hh, r⟩
set_option maxRecDepth 100000 in
set_option maxHeartbeats 4000000 in
theorem resolves_walk (A : Option Addr) (n c : Nat) (zs : List Int) (A1 : Option Addr) (n1 c1 : Nat) (zs1 : List Int) (s : Int) (w : World) (hrd : Rd w w.heap.size 1 A n (i8s zs)) (hn : n ≤ 140737488351232) (hnil : A = none → c = 0) (hrd1 : Rd w w.heap.size 1 A1 n1 (i8s zs1)) (hn1 : n1 ≤ 140737488351232) :
    Calls Try.prog 3 #[.slice A n c, .slice A1 n1 c1, .int .i8 s] w fun e w' => e = .returned (.bool true) ∧ Below w.heap.size w w' := by
  have hrd : RdK w A n zs := hrd
  have HR := Lib.hid (fun A n c zs w (h : RdK w A n zs) hn => wresolve_any A n c s zs w h hn)
  have HDR := Lib.hid (fun A n c zs w (h : RdK w A n zs) hn => rresolve_any A n c s zs w h hn)
  unfold NewAt at HR HDR
  obtain ⟨R1, hR1⟩ : ∃ R1, resZ s zs1 = R1 := ⟨_, rfl⟩
  have HRo := Lib.hid hR1
  have hn1' : n1 ≤ 140737488355328 := by omega
  have HL := Lib.hid (fun w (h : RdK w A n zs) => lent_any8 A n c zs w h hn hnil)
  have HE := Lib.hid same_any8
  have HK := Lib.hid kept_any8
  have HFr := Lib.hid fresh_any8
  have HW := Lib.hid works_any8
  obtain ⟨R, hR⟩ : ∃ R, resZ s zs = R := ⟨_, rfl⟩
  have HRe := Lib.hid hR
  have hn' : n ≤ 140737488355328 := by omega
  obtain ⟨Q, hQ⟩ : ∃ Q, w.heap.size = Q := ⟨_, rfl⟩
  have Hz := Lib.hid hrd
  have Hz0 := Lib.hid (show Rd w Q 1 A n (i8s zs) from by rw [← hQ]; exact hrd)
  have Ho := Lib.hid (show RdK w A1 n1 zs1 from hrd1)
  rw [hQ]
  have HB0 := Lib.hid (show Below Q w w ∧ Q ≤ w.heap.size from ⟨Below.refl Q w, by omega⟩)
  clear hrd hrd1 hR1 hQ hR
  go_enter Try.func3, Try.ntmps3
  go_wp2_with fail
  refine (HDR.out A n c zs w Hz.out hn').mono ?_
  rintro _ w1 ⟨Aw, cw, rfl, o1, b1⟩
  have HB1 := Lib.hid (after_same HB0.out b1)
  have Hz := Lib.hid (Hz.out.below b1)
  have Ho := Lib.hid (Ho.out.below b1)
  have Hw := Lib.hid (by have := RdK.own o1; rw [HRe.out] at this; exact this)
  clear o1 b1
  go_wp2_with fail
  refine (HL.out _ Hz.out).mono ?_
  rintro _ w2 ⟨gl, cl, rfl, o2, b2⟩
  have HB2 := Lib.hid (after_same HB1.out b2)
  have Hz := Lib.hid (Hz.out.below b2)
  have Ho := Lib.hid (Ho.out.below b2)
  have Hw := Lib.hid (Hw.out.below b2)
  have Hl := Lib.hid (o2)
  clear o2 b2
  have Hgl := Lib.hid (Hl.out.lt gl rfl).2
  obtain ⟨M, hM⟩ : ∃ M, w2.heap.size = M := ⟨_, rfl⟩
  have HM := Lib.hid hM
  have HQM := Lib.hid (show Q ≤ M from by have := HB2.out.2; omega)
  clear hM
  go_wp2_with fail
  refine (HR.out (some ⟨gl, 0, none⟩) n cl zs _ (LentAt.read Hl.out) hn').mono ?_
  rintro _ w3 ⟨Aa, ca, rfl, o3, b3⟩
  have HB3 := Lib.hid (after_same HB2.out b3)
  have Hz := Lib.hid (Hz.out.below b3)
  have Ho := Lib.hid (Ho.out.below b3)
  have Hw := Lib.hid (Hw.out.below b3)
  have Hl := Lib.hid (own_below Hl.out b3)
  have Ha := Lib.hid (show w3.ownsRow M 23 1 (.slice Aa n ca) n (i8s R) from by have h := o3; rw [HM.out, HRe.out] at h; exact h)
  have HMs := Lib.hid (show M ≤ w3.heap.size from by have := b3.size; have := HM.out; omega)
  clear o3 b3
  have Haz := Lib.hid (fun gg e => (Ha.out.lt gg e).2)
  go_wp2_with fail
  refine (HR.out A1 n1 c1 zs1 _ Ho.out hn1').mono ?_
  rintro _ w4 ⟨Ac, cc, rfl, o4, b4⟩
  have HB4 := Lib.hid (after_same HB3.out b4)
  have Hz := Lib.hid (Hz.out.below b4)
  have Ho := Lib.hid (Ho.out.below b4)
  have Hw := Lib.hid (Hw.out.below b4)
  have Hl := Lib.hid (own_below Hl.out b4)
  have Ha := Lib.hid (own_below Ha.out b4)
  have Hc := Lib.hid (by have := RdK.own o4; rw [HRo.out] at this; exact this)
  have HMs := Lib.hid (show M ≤ w4.heap.size from by have := b4.size; have := HMs.out; omega)
  have Haz := Lib.hid (fun gg e => Nat.lt_of_lt_of_le (Haz.out gg e) b4.size)
  clear o4 b4
  go_wp2_with fail
  refine (HR.out (some ⟨gl, 0, none⟩) n cl zs _ (LentAt.read Hl.out) hn').mono ?_
  rintro _ w5 ⟨Ab, cb, rfl, o5, b5⟩
  have HB5 := Lib.hid (after_same HB4.out b5)
  have Hz := Lib.hid (Hz.out.below b5)
  have Ho := Lib.hid (Ho.out.below b5)
  have Hw := Lib.hid (Hw.out.below b5)
  have Hl := Lib.hid (own_below Hl.out b5)
  have Ha := Lib.hid (own_below Ha.out b5)
  have Hc := Lib.hid (Hc.out.below b5)
  have Hb := Lib.hid (show w5.ownsRow M 23 1 (.slice Ab n cb) n (i8s R) from by have h := o5; rw [HRe.out] at h; exact own_base h HMs.out)
  have Hd := Lib.hid (show ∀ gg, (Value.slice Aa n ca).ownBlock = some gg → (Value.slice Ab n cb).ownBlock ≠ some gg from fun gg e e' => by have := Haz.out gg e; have := (o5.lt gg e').1; omega)
  have HMs := Lib.hid (show M ≤ w5.heap.size from by have := b5.size; have := HMs.out; omega)
  clear o5 b5 Haz
  go_wp2_with fail
  refine (HE.out R Aa Aw n ca cw _ (RdK.own Ha.out) Hw.out (by omega)).mono ?_
  rintro _ w6 ⟨rfl, b6⟩
  have HB6 := Lib.hid (after_same HB5.out b6)
  have Hz := Lib.hid (Hz.out.below b6)
  have Ho := Lib.hid (Ho.out.below b6)
  have Hw := Lib.hid (Hw.out.below b6)
  have Hl := Lib.hid (own_below Hl.out b6)
  have Ha := Lib.hid (own_below Ha.out b6)
  have Hc := Lib.hid (Hc.out.below b6)
  have Hb := Lib.hid (own_below Hb.out b6)
  have HMs := Lib.hid (show M ≤ w6.heap.size from by have := b6.size; have := HMs.out; omega)
  clear b6
  go_wp2_with fail
  refine (HE.out R Ab Aw n cb cw _ (RdK.own Hb.out) Hw.out (by omega)).mono ?_
  rintro _ w7 ⟨rfl, b7⟩
  have HB7 := Lib.hid (after_same HB6.out b7)
  have Hz := Lib.hid (Hz.out.below b7)
  have Ho := Lib.hid (Ho.out.below b7)
  have Hw := Lib.hid (Hw.out.below b7)
  have Hl := Lib.hid (own_below Hl.out b7)
  have Ha := Lib.hid (own_below Ha.out b7)
  have Hc := Lib.hid (Hc.out.below b7)
  have Hb := Lib.hid (own_below Hb.out b7)
  have HMs := Lib.hid (show M ≤ w7.heap.size from by have := b7.size; have := HMs.out; omega)
  clear b7
  clear Hw
  go_wp2_with fail
  refine (HDR.out A1 n1 c1 zs1 _ Ho.out hn1').mono ?_
  rintro _ w8 ⟨Ad, cd, rfl, o8, b8⟩
  have HB8 := Lib.hid (after_same HB7.out b8)
  have Hz := Lib.hid (Hz.out.below b8)
  have Ho := Lib.hid (Ho.out.below b8)
  have Hl := Lib.hid (own_below Hl.out b8)
  have Ha := Lib.hid (own_below Ha.out b8)
  have Hc := Lib.hid (Hc.out.below b8)
  have Hb := Lib.hid (own_below Hb.out b8)
  have He := Lib.hid (by have := RdK.own o8; rw [HRo.out] at this; exact this)
  clear o8
  have HMs := Lib.hid (show M ≤ w8.heap.size from by have := b8.size; have := HMs.out; omega)
  clear b8
  go_wp2_with fail
  refine (HE.out R1 Ac Ad n1 cc cd _ Hc.out He.out (by omega)).mono ?_
  rintro _ w9 ⟨rfl, b9⟩
  have HB9 := Lib.hid (after_same HB8.out b9)
  have Hz := Lib.hid (Hz.out.below b9)
  have Ho := Lib.hid (Ho.out.below b9)
  have Hl := Lib.hid (own_below Hl.out b9)
  have Ha := Lib.hid (own_below Ha.out b9)
  have Hc := Lib.hid (Hc.out.below b9)
  have Hb := Lib.hid (own_below Hb.out b9)
  have He := Lib.hid (He.out.below b9)
  have HMs := Lib.hid (show M ≤ w9.heap.size from by have := b9.size; have := HMs.out; omega)
  clear b9
  clear Hc He Ho
  go_wp2_with fail
  refine (HK.out A n c gl cl _ zs _ Hz.out Hl.out hn).mono ?_
  rintro _ w10 ⟨rfl, b10⟩
  have HB10 := Lib.hid (after_same HB9.out b10)
  have Hz := Lib.hid (Hz.out.below b10)
  have Hl := Lib.hid (own_below Hl.out b10)
  have Ha := Lib.hid (own_below Ha.out b10)
  have Hb := Lib.hid (own_below Hb.out b10)
  have HMs := Lib.hid (show M ≤ w10.heap.size from by have := b10.size; have := HMs.out; omega)
  clear b10
  go_wp2_with fail
  refine (HFr.out M Aa Ab n ca cb R R _ Ha.out Hb.out Hd.out hn HMs.out).mono ?_
  rintro _ w11 ⟨rfl, b11⟩
  have HB11 := Lib.hid (show Below Q w w11 ∧ Q ≤ w11.heap.size from ⟨HB10.out.1.trans (b11.mono HQM.out), by have := b11.size; have := HB10.out.2; omega⟩)
  have Hl := Lib.hid (own_lower Hl.out (by rw [← HM.out]; exact Hgl.out) b11)
  have Hz := Lib.hid (show RdK w11 A n zs from (Rd.below Hz0.out HB11.out.1).more HB11.out.2)
  clear b11 Ha Hb Hd HMs
  go_wp2_with fail
  refine (HK.out A n c gl cl _ zs _ Hz.out Hl.out hn).mono ?_
  rintro _ w12 ⟨rfl, b12⟩
  have HB12 := Lib.hid (after_same HB11.out b12)
  have Hz := Lib.hid (Hz.out.below b12)
  have Hl := Lib.hid (own_below Hl.out b12)
  clear b12
  go_wp2_with fail
  refine (HW.out _).mono ?_
  rintro _ w13 ⟨rfl, b13⟩
  have HB13 := Lib.hid (after_same HB12.out b13)
  have Hz := Lib.hid (Hz.out.below b13)
  have Hl := Lib.hid (own_below Hl.out b13)
  clear b13
  go_wp2_with fail
  go_ret
  exact ⟨rfl, HB13.out.1⟩
end Go.Proofs.Ytajpkidjdebolaa
