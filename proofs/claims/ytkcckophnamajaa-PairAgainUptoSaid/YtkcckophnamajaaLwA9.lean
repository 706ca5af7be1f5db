/- Layer 9: PairAgain, walked. -/
import Derived.Test.YtkcckophnamajaaLwN9
import Derived.Test.YtkcckophnamajaaAgP9
set_option linter.unusedSimpArgs false
set_option linter.unusedVariables false
namespace Go.Proofs.Ytkcckophnamajaa
open Go.RowKit Go.Lib

/-- what lies there while letters are put one behind the other -/
structure PlS (w : World) (Q n cl cm : Nat) (L : List Int) (Al Am : Option Addr) (i cp : Nat) (Ap : Option Addr) (W : World) : Prop where
  op : W.ownsRow Q 21 1 (.slice Ap i cp) i (i32s (List.replicate i 97))
  rl : RdK W Al n L
  rm : RdK W Am n L
  be : Below Q w W
  sz : Q ≤ W.heap.size
set_option maxRecDepth 100000 in
set_option maxHeartbeats 16000000 in
theorem pairAgain_walk (Ar A : Option Addr) (nr cr n0 c : Nat) (rs0 ks0 : List Int) (lv sos eos : Int) (h0 : 0 ≤ lv) (w : World) (hr0 : RdR w Ar nr rs0) (hk0 : RdK w A n0 ks0) (hnr : nr ≤ 1048576) (hn0 : n0 ≤ 1048576) (hcr : nr ≤ cr) (hnc : n0 ≤ c) :
    Calls Try.prog 7 #[.slice Ar nr cr, .slice A n0 c, .int .u8 lv, .int .i8 sos, .int .i8 eos] w fun e w' => e = .returned (.bool true) ∧ Below w.heap.size w w' := by
  obtain ⟨i0, hi, hz0, hz1, hz2⟩ := info_parts i32_info9
  have HSh := Lib.hid (short_any9 Ar A nr cr n0 c w hcr hnc)
  obtain ⟨n, hn⟩ : ∃ n, min nr n0 = n := ⟨_, rfl⟩
  rw [hn] at HSh
  have hr := hr0.take9 n (by omega)
  have hk := hk0.take9 n (by omega)
  have hrl := hr.len
  have hkl := hk.len
  obtain ⟨rs, hrs⟩ : ∃ rs, rs0.take n = rs := ⟨_, rfl⟩
  obtain ⟨ks, hks⟩ : ∃ ks, ks0.take n = ks := ⟨_, rfl⟩
  rw [hrs] at hr hrl
  rw [hks] at hk hkl
  obtain ⟨Q, hQ⟩ : ∃ Q, w.heap.size = Q := ⟨_, rfl⟩
  have HP1 := Lib.hid (fun (W : World) (hb : Below Q w W) => presolve_any9 Ar A n cr n c rs ks lv sos eos W (hr.below (by rw [hQ]; exact hb)) (hk.below (by rw [hQ]; exact hb)) (by omega) (by omega) (by omega) h0)
  have hsame := again_same hrl hkl lv sos eos
  obtain ⟨L, hL⟩ : ∃ L, rsZ pairOf nsm9 rs ks lv sos eos = L := ⟨_, rfl⟩
  rw [hL] at hsame
  have hLl : L.length = n := by rw [← hL, rsZ_len, hrl, hkl, Nat.min_self]
  have HP2 := Lib.hid (fun (W : World) (Al : Option Addr) (cl : Nat) (hb : Below Q w W) (hl : RdK W Al n L) (hc : n ≤ cl) => presolve_any9 Ar Al n cr n cl rs L lv eos sos W (hr.below (by rw [hQ]; exact hb)) hl (by omega) (by omega) hc h0)
  have HP3 := Lib.hid (fun (W : World) (Ap : Option Addr) (cp : Nat) (hb : Below Q w W) (hp : RdR W Ap n (List.replicate n 97)) (hc : n ≤ cp) => presolve_any9 Ap A n cp n c (List.replicate n 97) ks lv sos eos W hp (hk.below (by rw [hQ]; exact hb)) (by omega) hc (by omega) h0)
  have HPA := Lib.hid (fun (i : Nat) (k : Int) (hi : ks[i]? = some k) => plain_at hkl lv sos eos hi)
  obtain ⟨M, hM⟩ : ∃ M, rsZ pairOf nsm9 (List.replicate n 97) ks lv sos eos = M := ⟨_, rfl⟩
  have hMl : M.length = n := by rw [← hM, rsZ_len, List.length_replicate, hkl, Nat.min_self]
  have HAs := Lib.hid (fun (i : Nat) (k : Int) (hi : ks[i]? = some k) => ahead_step (sidZ sos) hi)
  unfold NewAt at HP1 HP2 HP3
  rw [hL] at HP1
  rw [hsame] at HP2
  rw [hM] at HP3 HPA
  rw [Nat.min_self] at HP1 HP2 HP3
  obtain ⟨a0, ha0⟩ : ∃ a0, sidZ sos = a0 := ⟨_, rfl⟩
  have hsb : (sos == 1) = (a0 != 0) := by
    rw [← ha0]
    unfold sidZ
    by_cases h : sos = 1
    · subst h; rfl
    · rw [if_neg h]; simp [h]
  have ha2 : a0 = 0 ∨ a0 = 1 := by rw [← ha0]; exact sid_two sos
  rw [ha0] at HPA HAs
  obtain ⟨e, he⟩ : ∃ e, lvlZ lv = e := ⟨_, rfl⟩
  have hlb : (lv.tmod 2 == 1) = (e != 0) := by
    rw [← he]
    unfold lvlZ
    by_cases h : lv.tmod 2 = 1
    · rw [if_pos h, h]; rfl
    · rw [if_neg h]; simp [h]
  have hlb2 : (lv % 2 == 1) = (e != 0) := by rw [← Int.tmod_eq_emod_of_nonneg h0]; exact hlb
  have he2 : e = 0 ∨ e = 1 := by rw [← he]; exact lvl_two lv
  rw [he] at HPA
  have Hk := Lib.hid (show ∀ W, Below Q w W → RdK W A n ks from fun W hb => hk.below (by rw [hQ]; exact hb))
  have HAl := Lib.hid alive_any9
  have HQ := Lib.hid hQ
  have Hl3 := Lib.hid (show ks.length = n ∧ L.length = n ∧ M.length = n from ⟨hkl, hLl, hMl⟩)
  have Hbb := Lib.hid (show _ ∧ _ ∧ _ from ⟨hsb, hlb, hlb2⟩)
  have Htw := Lib.hid (show (a0 = 0 ∨ a0 = 1) ∧ (e = 0 ∨ e = 1) from ⟨ha2, he2⟩)
  have hn20 : n ≤ 1048576 := by omega
  rw [hQ] at HSh ⊢
  clear hr0 hk0 hr hk hrl hkl hrs hks hL hQ hn hnr hn0 hsame hLl hM hMl ha0 hsb ha2 he hlb hlb2 he2
  go_enter Try.func7, Try.ntmps7
  go_wp2_with fail
  refine (HSh.out).mono ?_
  rintro _ w1 ⟨rfl, b1⟩
  have B1 := Lib.hid b1
  have hs1 : Q ≤ w1.heap.size := by have := b1.size; have := HQ.out; omega
  clear b1 HSh
  go_wp2_with fail
  refine (HP1.out w1 B1.out).mono ?_
  rintro _ w2 ⟨Al, cl, rfl, ol, b2⟩
  have H2 := Lib.hid (show Below Q w w2 ∧ Q ≤ w2.heap.size ∧ RdK w2 Al n L ∧ n ≤ cl from ⟨B1.out.trans (b2.mono hs1), by have := b2.size; omega, RdK.own ol, (own_caps ol).1⟩)
  clear ol b2 B1 hs1 HP1
  go_wp2_with fail
  refine (HP2.out w2 Al cl H2.out.1 H2.out.2.2.1 H2.out.2.2.2).mono ?_
  rintro _ w3 ⟨Am, cm, rfl, om, b3⟩
  have H3 := Lib.hid (show PlS w Q n cl cm L Al Am 0 0 none w3 from ⟨World.ownsRow_nil _ _ _ _, H2.out.2.2.1.below b3, RdK.own om, H2.out.1.trans (b3.mono H2.out.2.1), by have := b3.size; have := H2.out.2.1; omega⟩)
  have Hsz3 := Lib.hid (show ∃ S, w3.heap.size = S from ⟨_, rfl⟩)
  clear om b3 H2 HP2
  obtain ⟨S3, hS3⟩ := Hsz3.out
  have HS3 := Lib.hid hS3
  have HQS := Lib.hid (show Q ≤ S3 by rw [← hS3]; exact H3.out.sz)
  have H30 := Lib.hid (show w3.ownsRow S3 21 1 (.slice none 0 0) 0 (i32s (List.replicate 0 97)) ∧ Below S3 w3 w3 from ⟨World.ownsRow_nil _ _ _ _, Below.refl _ _⟩)
  clear hS3 Hsz3
  go_wp2_with fail
  go_loopw [15, 16] (fun y x wr => ∃ (i cp : Nat) (Ap : Option Addr) (W : World), W = wr ∧ y = .slice Ap i cp ∧ x = .int .i64 (i : Int) ∧ i ≤ n ∧ Hid (W.ownsRow S3 21 1 (.slice Ap i cp) i (i32s (List.replicate i 97)) ∧ Below S3 w3 W)) (fun _ x _ => n - (RowKit.intOf x).toNat)
  case atStart => exact ⟨0, 0, none, _, rfl, rfl, rfl, Nat.zero_le _, H30⟩
  case round =>
    obtain ⟨i, cp, Ap, W, hW, rfl, rfl, hin, HI⟩ := hrel
    subst hW
    rcases Nat.lt_or_ge i n with hlt | hge
    · have hini : (i : Int) < (n : Int) := by omega
      have hnext : IntKind.i64.wrap ((i : Int) + 1) = (i : Int) + 1 := IntWalk.i64_in _ (by omega)
      have hszW : S3 ≤ W.heap.size := by have := HI.out.2.size; have := HS3.out; omega
      obtain ⟨X, hX⟩ : ∃ X, i32s (List.replicate i 97) = X := ⟨_, rfl⟩
      have HI2 := Lib.hid (show W.ownsRow S3 21 1 (.slice Ap i cp) i X ∧ Below S3 w3 W from by rw [← hX]; exact HI.out)
      have HX := Lib.hid (show i32s (List.replicate (i + 1) 97) = X ++ [.int .i32 97] by rw [← hX, List.replicate_succ']; simp [i32s])
      clear HI hX
      go_wp2_with (at_builtin; refine wpList_append_own_at _ rfl _ _ 22 rfl S3 21 i0 _ 1 4 Try.underlying22 hi hz0 hz1 hz2 rfl (by decide) _ _ _ rfl (HI2.out.1.alloc _) ⟨W.heap.size, 0, none⟩ 1 1 [.int .i32 97] rfl rfl ?d1 ?d2 ?d3 ?d4 ?d5 ?_)
      try (case d1 => exact new_cells W [.int .i32 97] 21)
      case d2 => simp [Value.oneCell']
      case d3 => unfold maxLen; omega
      case d4 => omega
      case d5 => first | omega | (rw [World.size_alloc]; omega)
      intro v2 w4 o2 g2 _ _
      obtain ⟨A2, c2, hv2, _, _⟩ := own_shape o2
      subst hv2
      have HN := Lib.hid (show w4.ownsRow S3 21 1 (.slice A2 (i + 1) c2) (i + 1) (i32s (List.replicate (i + 1) 97)) ∧ Below S3 w3 w4 from ⟨by rw [HX.out]; exact o2, (HI2.out.2.alloc hszW _).grown g2 (by rw [World.size_alloc]; omega) (fun q hq => (HI2.out.1.lt q hq).1)⟩)
      clear o2 g2 HI2
      go_wp2_with fail
      go_roundw
      case rel => exact ⟨i + 1, c2, A2, _, rfl, rfl, by first | rfl | go_num, hlt, HN⟩
      case measure => simp [RowKit.intOf]; omega
    · obtain rfl : i = n := by omega
      have hnn : ¬ (i : Int) < (i : Int) := by omega
      have H4 := Lib.hid (show Below Q w W ∧ Q ≤ W.heap.size ∧ RdK W Al i L ∧ RdK W Am i L ∧ RdR W Ap i (List.replicate i 97) ∧ i ≤ cp from ⟨H3.out.be.trans (HI.out.2.mono HQS.out), by have := HI.out.2.size; have := HQS.out; have := HS3.out; omega, H3.out.rl.below (by rw [HS3.out]; exact HI.out.2), H3.out.rm.below (by rw [HS3.out]; exact HI.out.2), Rd.own HI.out.1, (own_caps HI.out.1).1⟩)
      clear hin hge HI H3 H30
      go_wp2_with fail
      refine (HP3.out W Ap cp H4.out.1 H4.out.2.2.2.2.1 H4.out.2.2.2.2.2).mono ?_
      rintro _ w5 ⟨An, cn, rfl, on, b5⟩
      have H5 := Lib.hid (show Below Q w w5 ∧ Q ≤ w5.heap.size ∧ RdK w5 Al i L ∧ RdK w5 Am i L ∧ RdK w5 An i M from ⟨H4.out.1.trans (b5.mono H4.out.2.1), by have := b5.size; have := H4.out.2.1; omega, H4.out.2.2.1.below b5, H4.out.2.2.2.1.below b5, RdK.own on⟩)
      have hee : ((i : Int) != (i : Int)) = false := by simp
      have hsb := Hbb.out.1
      clear on b5 H4 HP3
      go_wp2_with fail
      go_loopw [18, 19] (fun y x wr => ∃ (j : Nat) (W : World), W = wr ∧ y = .bool (aheadZ a0 ((ks.map cn9).take j) != 0) ∧ x = .int .i64 (j : Int) ∧ j ≤ i ∧ Hid (Below Q w W ∧ Q ≤ W.heap.size ∧ RdK W Al i L ∧ RdK W Am i L ∧ RdK W An i M)) (fun _ x _ => i - (RowKit.intOf x).toNat)
      case atStart => exact ⟨0, _, rfl, by first | rfl | simp [aheadZ], rfl, Nat.zero_le _, H5⟩
      case round =>
        obtain ⟨j, V, hV, rfl, rfl, hji, HV⟩ := hrel
        subst hV
        rcases Nat.lt_or_ge j i with hlt | hge
        · obtain ⟨k, hk⟩ : ∃ k, ks[j]? = some k := ⟨_, List.getElem?_eq_getElem (by rw [Hl3.out.1]; exact hlt)⟩
          obtain ⟨x, hx⟩ : ∃ x, L[j]? = some x := ⟨_, List.getElem?_eq_getElem (by rw [Hl3.out.2.1]; exact hlt)⟩
          have hpa := HPA.out j k hk
          have has := HAs.out j k hk
          have hat := ahead_two ((ks.map cn9).take j) a0 Htw.out.1
          obtain ⟨z, hz⟩ : ∃ z, aheadZ a0 ((ks.map cn9).take j) = z := ⟨_, rfl⟩
          rw [hz] at hpa has hat ⊢
          have Has := Lib.hid has
          have hnj : IntKind.i64.wrap ((j : Int) + 1) = (j : Int) + 1 := IntWalk.i64_in _ (by omega)
          have hjni : (j : Int) < (i : Int) := by omega
          obtain ⟨ak, hA, _, _, kc⟩ := (Hk.out V HV.out.1).get hk
          subst hA
          obtain ⟨al, hA, _, _, lc⟩ := HV.out.2.2.1.get hx
          subst hA
          obtain ⟨am, hA, _, _, mc⟩ := HV.out.2.2.2.1.get hx
          subst hA
          have lcD : V.drew.cell? (al.add j) = some (.int .i8 x) := lc
          have mcD : V.drew.cell? (am.add j) = some (.int .i8 x) := mc
          have kcD : V.drew.cell? (ak.add j) = some (.int .i8 k) := kc
          have hxx : (x != x) = false := by simp
          have HVN := Lib.hid (fun q => show Below Q w (V.drewN q) ∧ Q ≤ (V.drewN q).heap.size ∧ RdK (V.drewN q) (some al) i L ∧ RdK (V.drewN q) (some am) i L ∧ RdK (V.drewN q) An i M from ⟨below_N HV.out.1 q, HV.out.2⟩)
          by_cases hne : neuZ k = true
          · obtain ⟨v, hv2, hvv, hMv⟩ := hpa.2 hne
            obtain ⟨an, hA, _, _, nc⟩ := HV.out.2.2.2.2.get hMv
            subst hA
            have ncD : V.drew.cell? (an.add j) = some (.int .i8 v) := nc
            have k0 : (k == 0) = false := by cases e : (k == 0) with | false => rfl | true => (have := beq_iff_eq.1 e; subst this; cases hne)
            have k1 : (k == 1) = false := by cases e : (k == 1) with | false => rfl | true => (have := beq_iff_eq.1 e; subst this; cases hne)
            have k2 : (k == 2) = false := by cases e : (k == 2) with | false => rfl | true => (have := beq_iff_eq.1 e; subst this; cases hne)
            have k3 : (k == 3) = false := by cases e : (k == 3) with | false => rfl | true => (have := beq_iff_eq.1 e; subst this; cases hne)
            have k6 : (k == 6) = false := by cases e : (k == 6) with | false => rfl | true => (have := beq_iff_eq.1 e; subst this; cases hne)
            have HN := Lib.hid (show aheadZ a0 ((ks.map cn9).take (j + 1)) = z by rw [Has.out, if_pos hne])
            have hl1 := Hbb.out.2.1
            have hl2 := Hbb.out.2.2
            have hew := Htw.out.2
            clear hk hx hpa has hz Has hMv hne HV
            rcases hv2 with rfl | rfl <;> rcases hat with rfl | rfl <;> rcases hew with rfl | rfl
            all_goals first
              | (exfalso; omega)
              | (clear hvv
                 go_wp2_with fail
                 go_quiet (fail)
                 go_wp2_with fail
                 go_roundw
                 case rel => exact ⟨j + 1, _, rfl, by rw [HN.out]; rfl, by first | rfl | go_num, hlt, Lib.hid (HVN.out _)⟩
                 case measure => simp [RowKit.intOf]; omega)
          · have hnf : neuZ k = false := by simpa using hne
            have hMv := hpa.1 hnf
            obtain ⟨an, hA, _, _, nc⟩ := HV.out.2.2.2.2.get hMv
            subst hA
            have HN := Lib.hid (show aheadZ a0 ((ks.map cn9).take (j + 1)) = wayZ (cn9 k) by rw [Has.out, if_neg hne])
            have hkk := neu_not hnf
            clear hk hx hpa has hz Has hMv hne hnf HV hat
            rcases hkk with rfl | rfl | rfl | rfl | rfl
            all_goals (
              have nc9 := nc
              simp only [cn9] at nc9
              have ncD := show V.drew.cell? (an.add j) = _ from nc9
              go_wp2_with fail
              go_quiet (fail)
              go_wp2_with fail
              go_roundw
              case rel => exact ⟨j + 1, _, rfl, by rw [HN.out]; rfl, by first | rfl | go_num, hlt, Lib.hid (HVN.out _)⟩
              case measure => simp [RowKit.intOf]; omega)
        · obtain rfl : j = i := by omega
          have hnn : ¬ (j : Int) < (j : Int) := by omega
          clear hji hge
          go_wp2_with fail
          refine (HAl.out _).mono ?_
          rintro _ w9 ⟨rfl, b9⟩
          have HEn := Lib.hid (HV.out.1.trans (b9.mono HV.out.2.1))
          clear b9
          go_wp2_with fail
          go_ret
          exact ⟨rfl, HEn.out⟩
end Go.Proofs.Ytkcckophnamajaa
