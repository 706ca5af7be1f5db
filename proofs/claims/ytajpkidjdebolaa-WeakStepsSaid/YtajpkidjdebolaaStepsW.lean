/- Layer 8: WeakSteps walked. (Made by tools/mkresolves8.py.) -/
import Derived.Test.YtajpkidjdebolaaResolvesW
set_option linter.unusedSimpArgs false
set_option linter.unusedVariables false
namespace Go.Proofs.Ytajpkidjdebolaa
open Go.RowKit Go.Lib
set_option maxRecDepth 100000 in
set_option maxHeartbeats 4000000 in
theorem steps_walk (m : Int) (A : Option Addr) (n c : Nat) (zs : List Int) (s : Int) (w : World) (hrd : Rd w w.heap.size 1 A n (i8s zs)) (hn : n ≤ 140737488351232) (hnil : A = none → c = 0) :
    Calls Try.prog 4 #[.int .i64 m, .slice A n c, .int .i8 s] w fun e w' => e = .returned (.bool true) ∧ Below w.heap.size w w' := by
  have hrd : RdK w A n zs := hrd
  have HS := Lib.hid (fun A n c zs w (h : RdK w A n zs) hn => wstep_any m A n c s zs w h hn)
  have HDS := Lib.hid (fun A n c zs w (h : RdK w A n zs) hn => rstep_any m A n c s zs w h hn)
  unfold NewAt at HS HDS
  have HL := Lib.hid (fun w (h : RdK w A n zs) => lent_any8 A n c zs w h hn hnil)
  have HE := Lib.hid same_any8
  have HK := Lib.hid kept_any8
  have HFr := Lib.hid fresh_any8
  have HW := Lib.hid works_any8
  obtain ⟨R, hR⟩ : ∃ R, oneZ m s zs = R := ⟨_, rfl⟩
  have HRe := Lib.hid hR
  have hn' : n ≤ 140737488355328 := by omega
  obtain ⟨Q, hQ⟩ : ∃ Q, w.heap.size = Q := ⟨_, rfl⟩
  have Hz := Lib.hid hrd
  have Hz0 := Lib.hid (show Rd w Q 1 A n (i8s zs) from by rw [← hQ]; exact hrd)

  rw [hQ]
  have HB0 := Lib.hid (show Below Q w w ∧ Q ≤ w.heap.size from ⟨Below.refl Q w, by omega⟩)
  clear hrd hQ hR
  go_enter Try.func4, Try.ntmps4
  go_wp2_with fail
  refine (HDS.out A n c zs w Hz.out hn').mono ?_
  rintro _ w1 ⟨Aw, cw, rfl, o1, b1⟩
  have HB1 := Lib.hid (after_same HB0.out b1)
  have Hz := Lib.hid (Hz.out.below b1)
  have Hw := Lib.hid (by have := RdK.own o1; rw [HRe.out] at this; exact this)
  clear o1 b1
  go_wp2_with fail
  refine (HL.out _ Hz.out).mono ?_
  rintro _ w2 ⟨gl, cl, rfl, o2, b2⟩
  have HB2 := Lib.hid (after_same HB1.out b2)
  have Hz := Lib.hid (Hz.out.below b2)
  have Hw := Lib.hid (Hw.out.below b2)
  have Hl := Lib.hid (o2)
  clear o2 b2
  have Hgl := Lib.hid (Hl.out.lt gl rfl).2
  obtain ⟨M, hM⟩ : ∃ M, w2.heap.size = M := ⟨_, rfl⟩
  have HM := Lib.hid hM
  have HQM := Lib.hid (show Q ≤ M from by have := HB2.out.2; omega)
  clear hM
  go_wp2_with fail
  refine (HS.out (some ⟨gl, 0, none⟩) n cl zs _ (LentAt.read Hl.out) hn').mono ?_
  rintro _ w3 ⟨Aa, ca, rfl, o3, b3⟩
  have HB3 := Lib.hid (after_same HB2.out b3)
  have Hz := Lib.hid (Hz.out.below b3)
  have Hw := Lib.hid (Hw.out.below b3)
  have Hl := Lib.hid (own_below Hl.out b3)
  have Ha := Lib.hid (show w3.ownsRow M 23 1 (.slice Aa n ca) n (i8s R) from by have h := o3; rw [HM.out, HRe.out] at h; exact h)
  have HMs := Lib.hid (show M ≤ w3.heap.size from by have := b3.size; have := HM.out; omega)
  clear o3 b3
  have Haz := Lib.hid (fun gg e => (Ha.out.lt gg e).2)
  go_wp2_with fail
  refine (HS.out (some ⟨gl, 0, none⟩) n cl zs _ (LentAt.read Hl.out) hn').mono ?_
  rintro _ w4 ⟨Ab, cb, rfl, o4, b4⟩
  have HB4 := Lib.hid (after_same HB3.out b4)
  have Hz := Lib.hid (Hz.out.below b4)
  have Hw := Lib.hid (Hw.out.below b4)
  have Hl := Lib.hid (own_below Hl.out b4)
  have Ha := Lib.hid (own_below Ha.out b4)
  have Hb := Lib.hid (show w4.ownsRow M 23 1 (.slice Ab n cb) n (i8s R) from by have h := o4; rw [HRe.out] at h; exact own_base h HMs.out)
  have Hd := Lib.hid (show ∀ gg, (Value.slice Aa n ca).ownBlock = some gg → (Value.slice Ab n cb).ownBlock ≠ some gg from fun gg e e' => by have := Haz.out gg e; have := (o4.lt gg e').1; omega)
  have HMs := Lib.hid (show M ≤ w4.heap.size from by have := b4.size; have := HMs.out; omega)
  clear o4 b4 Haz
  go_wp2_with fail
  refine (HE.out R Aa Aw n ca cw _ (RdK.own Ha.out) Hw.out (by omega)).mono ?_
  rintro _ w5 ⟨rfl, b5⟩
  have HB5 := Lib.hid (after_same HB4.out b5)
  have Hz := Lib.hid (Hz.out.below b5)
  have Hw := Lib.hid (Hw.out.below b5)
  have Hl := Lib.hid (own_below Hl.out b5)
  have Ha := Lib.hid (own_below Ha.out b5)
  have Hb := Lib.hid (own_below Hb.out b5)
  have HMs := Lib.hid (show M ≤ w5.heap.size from by have := b5.size; have := HMs.out; omega)
  clear b5
  go_wp2_with fail
  refine (HE.out R Ab Aw n cb cw _ (RdK.own Hb.out) Hw.out (by omega)).mono ?_
  rintro _ w6 ⟨rfl, b6⟩
  have HB6 := Lib.hid (after_same HB5.out b6)
  have Hz := Lib.hid (Hz.out.below b6)
  have Hw := Lib.hid (Hw.out.below b6)
  have Hl := Lib.hid (own_below Hl.out b6)
  have Ha := Lib.hid (own_below Ha.out b6)
  have Hb := Lib.hid (own_below Hb.out b6)
  have HMs := Lib.hid (show M ≤ w6.heap.size from by have := b6.size; have := HMs.out; omega)
  clear b6
  clear Hw
  go_wp2_with fail
  refine (HK.out A n c gl cl _ zs _ Hz.out Hl.out hn).mono ?_
  rintro _ w7 ⟨rfl, b7⟩
  have HB7 := Lib.hid (after_same HB6.out b7)
  have Hz := Lib.hid (Hz.out.below b7)
  have Hl := Lib.hid (own_below Hl.out b7)
  have Ha := Lib.hid (own_below Ha.out b7)
  have Hb := Lib.hid (own_below Hb.out b7)
  have HMs := Lib.hid (show M ≤ w7.heap.size from by have := b7.size; have := HMs.out; omega)
  clear b7
  go_wp2_with fail
  refine (HFr.out M Aa Ab n ca cb R R _ Ha.out Hb.out Hd.out hn HMs.out).mono ?_
  rintro _ w8 ⟨rfl, b8⟩
  have HB8 := Lib.hid (show Below Q w w8 ∧ Q ≤ w8.heap.size from ⟨HB7.out.1.trans (b8.mono HQM.out), by have := b8.size; have := HB7.out.2; omega⟩)
  have Hl := Lib.hid (own_lower Hl.out (by rw [← HM.out]; exact Hgl.out) b8)
  have Hz := Lib.hid (show RdK w8 A n zs from (Rd.below Hz0.out HB8.out.1).more HB8.out.2)
  clear b8 Ha Hb Hd HMs
  go_wp2_with fail
  refine (HK.out A n c gl cl _ zs _ Hz.out Hl.out hn).mono ?_
  rintro _ w9 ⟨rfl, b9⟩
  have HB9 := Lib.hid (after_same HB8.out b9)
  have Hz := Lib.hid (Hz.out.below b9)
  have Hl := Lib.hid (own_below Hl.out b9)
  clear b9
  go_wp2_with fail
  refine (HW.out _).mono ?_
  rintro _ w10 ⟨rfl, b10⟩
  have HB10 := Lib.hid (after_same HB9.out b10)
  have Hz := Lib.hid (Hz.out.below b10)
  have Hl := Lib.hid (own_below Hl.out b10)
  clear b10
  go_wp2_with fail
  go_ret
  exact ⟨rfl, HB10.out.1⟩
end Go.Proofs.Ytajpkidjdebolaa
