/- Layer 8: WeakByStep walked. -/
import Derived.Test.YtajpkidjdebolaaLawA8
import Derived.Test.YtajpkidjdebolaaLawP8
import Derived.Test.YtajpkidjdebolaaRefF8
set_option linter.unusedSimpArgs false
set_option linter.unusedVariables false
namespace Go.Proofs.Ytajpkidjdebolaa
open Go.RowKit Go.Lib

/-- what the list is behind i steps -/
def lsZ (i : Nat) (s : Int) (zs : List Int) : List Int := if i = 0 then zs else uptoZ i (sideZ s) (cntL zs)
theorem lsZ_next (i : Nat) (s : Int) (zs : List Int) : oneZ ((i + 1 : Nat) : Int) s (lsZ i s zs) = lsZ (i + 1) s zs := by
  unfold lsZ
  rw [if_neg (show ¬ (i + 1 = 0) by omega)]
  by_cases h : i = 0
  · subst h
    rw [if_pos rfl]
    rfl
  · rw [if_neg h]
    exact oneZ_next i s zs
theorem below_of {Q : Nat} {w W : World} (h : Below Q w W ∧ Q ≤ W.heap.size) : Below Q w W := h.1
set_option maxRecDepth 100000 in
set_option maxHeartbeats 2000000 in
theorem bystep_walk (A : Option Addr) (n c : Nat) (zs : List Int) (s : Int) (w : World) (hrd : Rd w w.heap.size 1 A n (i8s zs)) (hn : n ≤ 140737488355328) :
    Calls Try.prog 5 #[.slice A n c, .int .i8 s] w fun e w' => e = .returned (.bool true) ∧ Below w.heap.size w w' := by
  have hrd : RdK w A n zs := hrd
  have HW := Lib.hid works_any8
  have HR := Lib.hid (fun A c zs w (h : RdK w A n zs) => wresolve_any A n c s zs w h hn)
  have HS := Lib.hid (fun (i : Nat) A c w (h : RdK w A n (lsZ i s zs)) => wstep_any ((i + 1 : Nat) : Int) A n c s (lsZ i s zs) w h hn)
  have HE := Lib.hid (fun xs A A' c c' w h1 h2 => same_any8 xs A A' n c c' w h1 h2 (by omega))
  unfold NewAt at HR HS
  obtain ⟨R, hR⟩ : ∃ R, resZ s zs = R := ⟨_, rfl⟩
  have HR0 := Lib.hid hR
  have HRR := Lib.hid (show resZ s R = R from by rw [← hR]; exact res_twice s zs)
  have HNo := Lib.hid (show ∀ k ∈ R, NoP k ∧ InC k from by rw [← hR]; exact fun k hk => ⟨res_none s zs k hk, resZ_in s zs k hk⟩)
  have HL7 := Lib.hid (show lsZ 7 s zs = R from hR)
  have HRl := Lib.hid (show R.length = n from by rw [← hR, resZ_len, hrd.len])
  obtain ⟨Q, hQ⟩ : ∃ Q, w.heap.size = Q := ⟨_, rfl⟩
  rw [hQ]
  have H0 := Lib.hid (show Below Q w w ∧ Q ≤ w.heap.size from ⟨Below.refl Q w, by omega⟩)
  have Hz0 := Lib.hid hrd
  clear hrd hQ hR
  go_enter Try.func5, Try.ntmps5
  go_wp2_with fail
  refine (HW.out _).mono ?_
  rintro _ w1 ⟨rfl, b1⟩
  have H1 := Lib.hid (after_same H0.out b1)
  have Hz1 := Lib.hid (Hz0.out.below b1)
  clear b1
  go_wp2_with fail
  refine (HR.out A c zs _ Hz1.out).mono ?_
  rintro _ w2 ⟨A1, c1, rfl, o2, b2⟩
  rw [HR0.out] at o2
  have H2 := Lib.hid (show (Below Q w w2 ∧ Q ≤ w2.heap.size) ∧ RdK w2 A1 n R ∧ RdK w2 A n (lsZ 0 s zs) from ⟨after_same H1.out b2, RdK.own o2, Hz1.out.below b2⟩)
  clear o2 b2 H1 Hz1 H0 Hz0
  go_wp2_with fail
  go_loopw [6, 7] (fun v x wr => ∃ (i : Nat) (A' : Option Addr) (c' : Nat) (W : World), W = wr ∧ v = .slice A' n c' ∧ x = .int .i64 ((i + 1 : Nat) : Int) ∧ i ≤ 7 ∧ Hid ((Below Q w W ∧ Q ≤ W.heap.size) ∧ RdK W A1 n R ∧ RdK W A' n (lsZ i s zs))) (fun _ x _ => 8 - (RowKit.intOf x).toNat)
  case atStart => exact ⟨0, A, c, _, rfl, rfl, rfl, by omega, H2⟩
  case round =>
    obtain ⟨i, A', c', W, hW, rfl, rfl, hi, HI⟩ := hrel
    subst hW
    by_cases h7 : i = 7
    · subst h7
      have hl7 := HI.out.2.2
      rw [HL7.out] at hl7
      have H3 := Lib.hid (show (Below Q w W ∧ Q ≤ W.heap.size) ∧ RdK W A1 n R ∧ RdK W A' n R from ⟨HI.out.1, HI.out.2.1, hl7⟩)
      clear hl7 HI hi
      go_wp2_with fail
      refine (HE.out R A' A1 c' c1 _ H3.out.2.2 H3.out.2.1).mono ?_
      rintro _ w4 ⟨rfl, b4⟩
      have H4 := Lib.hid (show (Below Q w w4 ∧ Q ≤ w4.heap.size) ∧ RdK w4 A1 n R from ⟨after_same H3.out.1 b4, H3.out.2.1.below b4⟩)
      clear b4 H3
      go_wp2_with fail
      refine (HR.out A1 c1 R _ H4.out.2).mono ?_
      rintro _ w5 ⟨A5, c5, rfl, o5, b5⟩
      rw [HRR.out] at o5
      have H5 := Lib.hid (show (Below Q w w5 ∧ Q ≤ w5.heap.size) ∧ RdK w5 A1 n R ∧ RdK w5 A5 n R from ⟨after_same H4.out.1 b5, H4.out.2.below b5, RdK.own o5⟩)
      clear o5 b5 H4
      go_wp2_with fail
      refine (HE.out R A5 A1 c5 c1 _ H5.out.2.2 H5.out.2.1).mono ?_
      rintro _ w6 ⟨rfl, b6⟩
      have H6 := Lib.hid (show (Below Q w w6 ∧ Q ≤ w6.heap.size) ∧ RdK w6 A1 n R from ⟨after_same H5.out.1 b6, H5.out.2.1.below b6⟩)
      clear b6 H5
      have hnn : ((n : Int) != (n : Int)) = false := by simp
      go_wp2_with fail
      go_loopw [44] (fun x wr => wr = w6 ∧ ∃ (p t : List Int), Hid (R = p ++ t) ∧ x = .int .i64 (p.length : Int)) (fun x _ => n - (RowKit.intOf x).toNat)
      case atStart => exact ⟨rfl, [], R, Lib.hid rfl, rfl⟩
      case round =>
        obtain ⟨hw6, p, t, hx, rfl⟩ := hrel
        subst hw6
        have hlen := congrArg List.length hx.out
        rw [HRl.out, List.length_append] at hlen
        rcases t with _ | ⟨k, t⟩
        · have hpl : p.length = n := by simpa using hlen.symm
          rw [hpl]
          have hnn2 : ¬ (n : Int) < (n : Int) := by omega
          clear hlen hpl
          go_wp2_with fail
          go_ret
          exact ⟨rfl, H6.out.1.1⟩
        · have r1 := H6.out.2
          rw [hx.out] at r1
          obtain ⟨a, hA, hin, hc1⟩ := rd_at r1
          obtain ⟨⟨n8, n2, n4, n5, n7⟩, hk0, hk22⟩ := HNo.out k (by rw [hx.out]; simp)
          subst hA
          have b8 : (k == 8) = false := by simpa using n8
          have b2 : (k == 2) = false := by simpa using n2
          have b4 : (k == 4) = false := by simpa using n4
          have b5 : (k == 5) = false := by simpa using n5
          have b7 : (k == 7) = false := by simpa using n7
          have k0 : ¬ k < 0 := by omega
          have k22 : ¬ 22 < k := by omega
          have hnext : IntKind.i64.wrap ((p.length : Int) + 1) = (p.length : Int) + 1 := IntWalk.i64_in _ (by omega)
          have hini : (p.length : Int) < (n : Int) := by omega
          have hsnoc := snoc_len p k
          have Hx := Lib.hid (show R = (p ++ [k]) ++ t by rw [hx.out]; simp)
          obtain ⟨q, hq⟩ : ∃ q, p ++ [k] = q := ⟨_, rfl⟩
          obtain ⟨i, hi⟩ : ∃ i, p.length = i := ⟨_, rfl⟩
          rw [hq, hi] at hsnoc
          rw [hq] at Hx
          rw [hi] at hin hc1 hnext hini ⊢
          clear hx hlen hq hi r1 hk0 hk22 n8 n2 n4 n5 n7
          go_wp2_with fail
          go_roundw
          case rel => exact ⟨trivial, q, t, Hx, by rw [hsnoc]⟩
          case measure => simp [RowKit.intOf]; omega
    · have HSi := Lib.hid (HS.out i A' c' W HI.out.2.2)
      rw [lsZ_next] at HSi
      have HI2 := Lib.hid (show (Below Q w W ∧ Q ≤ W.heap.size) ∧ RdK W A1 n R from ⟨HI.out.1, HI.out.2.1⟩)
      obtain ⟨j, hj⟩ : ∃ j, i + 1 = j := ⟨_, rfl⟩
      rw [hj] at HSi ⊢
      have hj7 : (j : Int) ≤ 7 := by omega
      have hwj : IntKind.i64.wrap ((j : Int) + 1) = (j : Int) + 1 := IntWalk.i64_in _ (by omega)
      have hji : j ≤ 7 := by omega
      clear hj h7 hi HI
      go_wp2_with fail
      refine HSi.out.mono ?_
      rintro _ w3 ⟨A3, c3, rfl, h3, h4⟩
      have HN := Lib.hid (show (Below Q w w3 ∧ Q ≤ w3.heap.size) ∧ RdK w3 A1 n R ∧ RdK w3 A3 n (lsZ j s zs) from ⟨after_same HI2.out.1 h4, HI2.out.2.below h4, RdK.own h3⟩)
      clear h3 h4
      go_wp2_with fail
      go_roundw
      case rel => exact ⟨j, A3, c3, _, rfl, rfl, by first | rfl | go_num, hji, HN⟩
      case measure => simp [RowKit.intOf]; omega
end Go.Proofs.Ytajpkidjdebolaa
