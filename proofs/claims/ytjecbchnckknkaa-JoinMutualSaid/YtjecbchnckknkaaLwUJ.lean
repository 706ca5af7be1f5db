/- Layer 11, the law JoinMutual, over the program's contracts. (Made by tools/mkmutual.py.) -/
import Derived.Test.YtjecbchnckknkaaLwSJ
import Derived.Test.YtjecbchnckknkaaPureG
set_option linter.unusedSimpArgs false
set_option linter.unusedVariables false
namespace Go.Proofs.Ytjecbchnckknkaa
open Go.RowKit Go.Lib

/-- which forms there are of which class -/
def KindF (k f : Int) : Prop := (k = 0 ∧ f = 0) ∨ (k = 3 ∧ f = 0) ∨ (k = 4 ∧ f = 0) ∨ (k = 1 ∧ f = 0) ∨ (k = 1 ∧ f = 3) ∨ (k = 2 ∧ f = 0) ∨ (k = 2 ∧ f = 1) ∨ (k = 2 ∧ f = 2) ∨ (k = 2 ∧ f = 3)
theorem kindF_is (xs : List Int) (i : Nat) (r f : Int) (h : xs[i]? = some r) (hf : (formsJ 0 (xs.map kJ))[i]? = some f) : KindF (kJ r) f := by
  have hk : (xs.map kJ)[i]? = some (kJ r) := by rw [List.getElem?_map, h]; rfl
  rw [form_here hk] at hf
  have hf := Option.some.inj hf
  have hc := kJ_cases r
  have hfc := formJ_cases (prevJ ((xs.map kJ).take i)) (kJ r) (nextJ ((xs.map kJ).drop (i + 1)))
  rw [hf] at hfc
  unfold KindF
  rcases hc with e | e | e | e | e
  · rw [e, formJ_none _ _ _ (by decide)] at hf; simp [e, hf.symm]
  · rw [e] at hf
    have h12 := form_right hf
    rcases hfc with h | h | h | h
    · simp [e, h]
    · exact absurd h h12.1
    · exact absurd h h12.2
    · simp [e, h]
  · rcases hfc with h | h | h | h <;> simp [e, h]
  · rw [e, formJ_none _ _ _ (by decide)] at hf; simp [e, hf.symm]
  · rw [e, formJ_four] at hf; simp [e, hf.symm]
/-- what is known of the last one that is not passed over -/
def TwoL (xs : List Int) (fs : List Int) (i : Nat) (last k f : Int) : Prop :=
  (last = -1 ∧ ((f == 3) || (f == 2)) = false) ∨
    ∃ (j : Nat) (rl fl : Int), last = (j : Int) ∧ j < i ∧ xs[j]? = some rl ∧ fs[j]? = some fl ∧ ((f == 3) || (f == 2)) = aheadJ (kJ rl) k ∧ ((fl == 1) || (fl == 2)) = behindJ (kJ rl) k
theorem twoL_is (xs fs : List Int) (hfs : formsJ 0 (xs.map kJ) = fs) (i : Nat) (last r f : Int) (h : LastJ (xs.map kJ) i last) (hr : xs[i]? = some r) (h4 : kJ r ≠ 4) (hf : fs[i]? = some f) : TwoL xs fs i last (kJ r) f := by
  subst hfs
  rcases lastJ_two h (by rw [List.getElem?_map, hr]; rfl) h4 hf with h | ⟨j, kl, fl, h1, h2, h3, h4, h5, h6⟩
  · exact .inl h
  · rw [List.getElem?_map] at h3
    cases hx : xs[j]? with
    | none => rw [hx] at h3; cases h3
    | some rl =>
      rw [hx] at h3
      have h3 : kJ rl = kl := by injection h3
      subst h3
      exact .inr ⟨j, rl, fl, h1, h2, hx, h4, h5, h6⟩
theorem both_false {a b : Bool} (h : (a || b) = false) : a = false ∧ b = false := by cases a <;> cases b <;> simp_all
set_option maxRecDepth 100000 in
set_option maxHeartbeats 16000000 in
theorem joinMutual_anyJ {N : Nat} (H : JoinP N) (A : Option Addr) (n c : Nat) (xs : List Int) (w : World) (hr : RdJ w A n xs) (hnN : n ≤ N) :
    Calls Try.prog 8 #[.slice A n c] w fun e w' => e = .returned (.bool true) ∧ Below w.heap.size w w' := by
  have hn : n ≤ 35184372087808 := Nat.le_trans hnN H.small
  obtain ⟨B, hB⟩ : ∃ B, w.heap.size = B := ⟨_, rfl⟩
  have hl := hr.len
  have H0 := Lib.hid (show OnJ B w w from ⟨Below.refl _ _, by omega⟩)
  have HR := Lib.hid (show ∀ W, OnJ B w W → RdJ W A n xs from fun W h => hr.below (by rw [hB]; exact h.1))
  rw [hB]
  clear hB hr
  have HW := Lib.hid (fun W => works_anyJ H W)
  have HJ := Lib.hid (show ∀ x W, Calls Try.prog 26 #[.int .i32 x] W fun e w' => e = .returned (.int .i8 (kJ x)) ∧ Below W.heap.size W w' from fun x W => Join_any x W)
  have HF := Lib.hid (fun A n c xs W h (h2 : n ≤ N) => H.forms A n c xs W h h2)
  obtain ⟨fs, hfs⟩ : ∃ fs, formsJ 0 (xs.map kJ) = fs := ⟨_, rfl⟩
  have hfl : fs.length = n := by rw [← hfs, formsJ_len, List.length_map, hl]
  have HKf := Lib.hid (show ∀ i r f, xs[i]? = some r → fs[i]? = some f → KindF (kJ r) f from fun i r f h h2 => kindF_is xs i r f h (by rw [hfs]; exact h2))
  have HTw := Lib.hid (fun i last r f h hr h4 hf => twoL_is xs fs hfs i last r f h hr h4 hf)
  have HGo := Lib.hid (show ∀ i r last, xs[i]? = some r → LastJ (xs.map kJ) i last → (kJ r = 4 → LastJ (xs.map kJ) (i + 1) last) ∧ (kJ r ≠ 4 → LastJ (xs.map kJ) (i + 1) (i : Int)) from fun i r last h hL =>
    have hk : (xs.map kJ)[i]? = some (kJ r) := by rw [List.getElem?_map, h]; rfl
    ⟨fun e => lastJ_through hL (by rw [hk, e]), fun e => lastJ_here hk e⟩)
  have HEn := Lib.hid (show ∀ last, LastJ (xs.map kJ) n last → last = -1 ∨ ∃ (j : Nat) (fl : Int), last = (j : Int) ∧ j < n ∧ fs[j]? = some fl ∧ (fl = 0 ∨ fl = 3) from fun last h => by
    have hkl : (xs.map kJ).length = n := by rw [List.length_map, hl]
    rw [← hkl] at h
    have := lastJ_end h
    rw [hfs, hkl] at this
    exact this)
  have HT := Lib.hid hfs
  have HLN := Lib.hid (show xs.length = n ∧ fs.length = n from ⟨hl, hfl⟩)
  have HL0 := Lib.hid (lastJ_start (xs.map kJ))
  clear hfs hl hfl
  go_enter Try.func8, Try.ntmps8
  go_wp2_with fail
  refine (HW.out _).mono ?_
  rintro _ V1 ⟨rfl, b1⟩
  have HB1 := Lib.hid (H0.out.on b1)
  clear b1 H0 HW
  go_wp2_with fail
  refine (HF.out _ _ _ _ _ (HR.out _ HB1.out) hnN).mono ?_
  rw [HT.out]
  rintro _ W0 ⟨Q0, A0, c0, hQ0, rfl, o0, b0⟩
  rw [HLN.out.2] at o0 ⊢
  have HB3 := Lib.hid (HB1.out.on b0)
  obtain ⟨Q, hQ⟩ : ∃ Q, W0.heap.size = Q := ⟨_, rfl⟩
  have HP := Lib.hid (show ∀ W, Below Q W0 W → RdJ W A n xs ∧ RdF W A0 n fs ∧ Below B w W ∧ (∀ W', Below W.heap.size W W' → Below Q W0 W') from fun W h => by
    have h0 := HR.out _ HB3.out
    rw [← hQ] at h
    exact ⟨h0.below h, (RdF.own o0).below h, (HB3.out.on h).1, fun W' h' => by rw [← hQ]; exact h.trans (h'.mono h.size)⟩)
  have HI0 := Lib.hid (Below.refl Q W0)
  have hnn : ((n : Int) != (n : Int)) = false := by simp
  clear o0 b0 hQ0 HB1 hQ HB3 HR HF
  go_wp2_with fail
  go_loopw [4, 23] (fun y x wr => ∃ (i : Nat) (last : Int) (W : World), W = wr ∧ y = .int .i64 last ∧ x = .int .i64 (i : Int) ∧ i ≤ n ∧ Hid (LastJ (xs.map kJ) i last) ∧ Hid (Below Q W0 W)) (fun _ x _ => n - (RowKit.intOf x).toNat)
  case atStart => exact ⟨0, -1, _, rfl, rfl, rfl, Nat.zero_le _, HL0, HI0⟩
  case round =>
    clear HI0 HL0
    obtain ⟨i, last, W, hW, rfl, rfl, hin, HL, HI⟩ := hrel
    subst hW
    rcases Nat.lt_or_ge i n with hlt | hge
    · obtain ⟨r, hri⟩ : ∃ r, xs[i]? = some r := ⟨_, List.getElem?_eq_getElem (by rw [HLN.out.1]; omega)⟩
      obtain ⟨f, hfi⟩ : ∃ f, fs[i]? = some f := ⟨_, List.getElem?_eq_getElem (by rw [HLN.out.2]; omega)⟩
      obtain ⟨ar, hA, _, _, hcr⟩ := (HP.out W HI.out).1.at hri
      obtain ⟨af, hA0, _, _, _⟩ := (HP.out W HI.out).2.1.at hfi
      subst hA
      subst hA0
      have hini : (i : Int) < (n : Int) := by omega
      have hi0 : (0 : Int) ≤ (i : Int) := by omega
      have hnext : IntKind.i64.wrap ((i : Int) + 1) = (i : Int) + 1 := IntWalk.i64_in _ (by omega)
      have HKD := Lib.hid (HKf.out i r f hri hfi)
      have HG := Lib.hid (HGo.out i r last hri HL.out)
      have HTr := Lib.hid (fun h4 => HTw.out i last r f HL.out hri h4 hfi)
      have HJr := Lib.hid (HJ.out r)
      have HCf := Lib.hid (show ∀ W', Below Q W0 W' → W'.cell? (af.add i) = some (.int .i8 f) from fun W' h => by
        obtain ⟨a, e, _, _, hc⟩ := (HP.out W' h).2.1.at hfi
        injection e with e; subst e; exact hc)
      have HCs := Lib.hid (show ∀ (j : Nat) rl fl W', xs[j]? = some rl → fs[j]? = some fl → Below Q W0 W' → W'.cell? (ar.add j) = some (.int .i32 rl) ∧ W'.cell? (af.add j) = some (.int .i8 fl) from fun j rl fl W' h1 h2 h => by
        obtain ⟨a, e, _, _, hc⟩ := (HP.out W' h).1.at h1
        injection e with e; subst e
        obtain ⟨a', e', _, _, hc'⟩ := (HP.out W' h).2.1.at h2
        injection e' with e'; subst e'
        exact ⟨hc, hc'⟩)
      obtain ⟨k, hk⟩ : ∃ k, kJ r = k := ⟨_, rfl⟩
      rw [hk] at HKD HG HTr HJr
      clear hk hri hfi HL
      go_wp2_with fail
      refine (HJr.out _).mono ?_
      rintro _ W1 ⟨rfl, b1⟩
      have HI1 := Lib.hid ((HP.out W HI.out).2.2.2 _ b1)
      have d1 := HCf.out W1 HI1.out
      clear b1 hcr HI HJr
      rcases HKD.out with hkf | hkf | hkf | hkf | hkf | hkf | hkf | hkf | hkf
      · obtain ⟨rfl, rfl⟩ := hkf
        rcases HTr.out (by decide) with ⟨rfl, ht⟩ | ⟨j, rl, fl, rfl, hji, hrl, hfj, hah, hbe⟩
        · clear ht HCs
          go_wp2_with fail
          go_roundw
          case rel => exact ⟨i + 1, (i : Int), W1, rfl, rfl, by first | rfl | go_num, hlt, Lib.hid (HG.out.2 (by decide)), HI1⟩
          case measure => simp [RowKit.intOf]; omega
        · obtain ⟨kl, hkl⟩ : ∃ kl, kJ rl = kl := ⟨_, rfl⟩
          rw [hkl] at hah hbe
          clear HTr
          have hb : behindJ kl 0 = false := by simp [behindJ]
          rw [hb] at hbe
          obtain ⟨q1, q2⟩ := both_false hbe
          clear hah hbe hb
          obtain ⟨d3, d2⟩ := HCs.out j rl _ W1 hrl hfj HI1.out
          have hjn : (j : Int) < (n : Int) := by omega
          have hj0 : ¬ (j : Int) < 0 := by omega
          have hj1 : (0 : Int) ≤ (j : Int) := by omega
          have HJl := Lib.hid (HJ.out rl)
          rw [hkl] at HJl
          clear hrl hfj hkl HCs
          go_wp2_with fail
          refine (HJl.out _).mono ?_
          rintro _ W2 ⟨rfl, b2⟩
          have HI2 := Lib.hid ((HP.out W1 HI1.out).2.2.2 _ b2)
          clear b2 d1 d2 d3
          go_wp2_with fail
          go_roundw
          case rel => exact ⟨i + 1, (i : Int), W2, rfl, rfl, by first | rfl | go_num, hlt, Lib.hid (HG.out.2 (by decide)), HI2⟩
          case measure => simp [RowKit.intOf]; omega
      · obtain ⟨rfl, rfl⟩ := hkf
        rcases HTr.out (by decide) with ⟨rfl, ht⟩ | ⟨j, rl, fl, rfl, hji, hrl, hfj, hah, hbe⟩
        · clear ht HCs
          go_wp2_with fail
          go_roundw
          case rel => exact ⟨i + 1, (i : Int), W1, rfl, rfl, by first | rfl | go_num, hlt, Lib.hid (HG.out.2 (by decide)), HI1⟩
          case measure => simp [RowKit.intOf]; omega
        · obtain ⟨kl, hkl⟩ : ∃ kl, kJ rl = kl := ⟨_, rfl⟩
          rw [hkl] at hah hbe
          clear HTr
          by_cases e2 : kl = 2
          · have hb2 : fl = 1 ∨ fl = 2 := by
              have h : ((fl == 1) || (fl == 2)) = true := by rw [hbe]; subst e2; decide
              simpa using h
            subst e2
            clear hah hbe
            rcases hb2 with rfl | rfl
            · obtain ⟨d3, d2⟩ := HCs.out j rl _ W1 hrl hfj HI1.out
              have hjn : (j : Int) < (n : Int) := by omega
              have hj0 : ¬ (j : Int) < 0 := by omega
              have hj1 : (0 : Int) ≤ (j : Int) := by omega
              have HJl := Lib.hid (HJ.out rl)
              rw [hkl] at HJl
              clear hrl hfj hkl HCs
              go_wp2_with fail
              refine (HJl.out _).mono ?_
              rintro _ W2 ⟨rfl, b2⟩
              have HI2 := Lib.hid ((HP.out W1 HI1.out).2.2.2 _ b2)
              clear b2 d1 d2 d3
              go_wp2_with fail
              go_roundw
              case rel => exact ⟨i + 1, (i : Int), W2, rfl, rfl, by first | rfl | go_num, hlt, Lib.hid (HG.out.2 (by decide)), HI2⟩
              case measure => simp [RowKit.intOf]; omega
            · obtain ⟨d3, d2⟩ := HCs.out j rl _ W1 hrl hfj HI1.out
              have hjn : (j : Int) < (n : Int) := by omega
              have hj0 : ¬ (j : Int) < 0 := by omega
              have hj1 : (0 : Int) ≤ (j : Int) := by omega
              have HJl := Lib.hid (HJ.out rl)
              rw [hkl] at HJl
              clear hrl hfj hkl HCs
              go_wp2_with fail
              refine (HJl.out _).mono ?_
              rintro _ W2 ⟨rfl, b2⟩
              have HI2 := Lib.hid ((HP.out W1 HI1.out).2.2.2 _ b2)
              clear b2 d1 d2 d3
              go_wp2_with fail
              go_roundw
              case rel => exact ⟨i + 1, (i : Int), W2, rfl, rfl, by first | rfl | go_num, hlt, Lib.hid (HG.out.2 (by decide)), HI2⟩
              case measure => simp [RowKit.intOf]; omega
          · have e2b : (kl == 2) = false := by simpa using e2
            have hb : behindJ kl 3 = false := by simp [behindJ, e2b]
            rw [hb] at hbe
            obtain ⟨q1, q2⟩ := both_false hbe
            clear hah hbe hb
            clear e2 e2b
            obtain ⟨d3, d2⟩ := HCs.out j rl _ W1 hrl hfj HI1.out
            have hjn : (j : Int) < (n : Int) := by omega
            have hj0 : ¬ (j : Int) < 0 := by omega
            have hj1 : (0 : Int) ≤ (j : Int) := by omega
            have HJl := Lib.hid (HJ.out rl)
            rw [hkl] at HJl
            clear hrl hfj hkl HCs
            go_wp2_with fail
            refine (HJl.out _).mono ?_
            rintro _ W2 ⟨rfl, b2⟩
            have HI2 := Lib.hid ((HP.out W1 HI1.out).2.2.2 _ b2)
            clear b2 d1 d2 d3
            go_wp2_with fail
            go_roundw
            case rel => exact ⟨i + 1, (i : Int), W2, rfl, rfl, by first | rfl | go_num, hlt, Lib.hid (HG.out.2 (by decide)), HI2⟩
            case measure => simp [RowKit.intOf]; omega
      · obtain ⟨rfl, rfl⟩ := hkf
        clear HTr HCs
        go_wp2_with fail
        go_roundw
        case rel => exact ⟨i + 1, last, W1, rfl, rfl, by first | rfl | go_num, hlt, Lib.hid (HG.out.1 (by decide)), HI1⟩
        case measure => simp [RowKit.intOf]; omega
      · obtain ⟨rfl, rfl⟩ := hkf
        rcases HTr.out (by decide) with ⟨rfl, ht⟩ | ⟨j, rl, fl, rfl, hji, hrl, hfj, hah, hbe⟩
        · clear ht HCs
          go_wp2_with fail
          go_roundw
          case rel => exact ⟨i + 1, (i : Int), W1, rfl, rfl, by first | rfl | go_num, hlt, Lib.hid (HG.out.2 (by decide)), HI1⟩
          case measure => simp [RowKit.intOf]; omega
        · obtain ⟨kl, hkl⟩ : ∃ kl, kJ rl = kl := ⟨_, rfl⟩
          rw [hkl] at hah hbe
          clear HTr
          have e23 : kl ≠ 2 ∧ kl ≠ 3 := by
            constructor <;> (intro e; subst e; exact absurd hah (by decide))
          have e2b : (kl == 2) = false := by simpa using e23.1
          have e3b : (kl == 3) = false := by simpa using e23.2
          have hb : behindJ kl 1 = false := by simp [behindJ, e2b]
          rw [hb] at hbe
          obtain ⟨q1, q2⟩ := both_false hbe
          clear hah hbe hb
          clear e23 e2b
          obtain ⟨d3, d2⟩ := HCs.out j rl _ W1 hrl hfj HI1.out
          have hjn : (j : Int) < (n : Int) := by omega
          have hj0 : ¬ (j : Int) < 0 := by omega
          have hj1 : (0 : Int) ≤ (j : Int) := by omega
          have HJl := Lib.hid (HJ.out rl)
          rw [hkl] at HJl
          clear hrl hfj hkl HCs
          go_wp2_with fail
          refine (HJl.out _).mono ?_
          rintro _ W2 ⟨rfl, b2⟩
          have HI2 := Lib.hid ((HP.out W1 HI1.out).2.2.2 _ b2)
          clear b2 d1 d2 d3
          go_wp2_with fail
          go_roundw
          case rel => exact ⟨i + 1, (i : Int), W2, rfl, rfl, by first | rfl | go_num, hlt, Lib.hid (HG.out.2 (by decide)), HI2⟩
          case measure => simp [RowKit.intOf]; omega
      · obtain ⟨rfl, rfl⟩ := hkf
        rcases HTr.out (by decide) with ⟨rfl, ht⟩ | ⟨j, rl, fl, rfl, hji, hrl, hfj, hah, hbe⟩
        · exact absurd ht (by decide)
        · obtain ⟨kl, hkl⟩ : ∃ kl, kJ rl = kl := ⟨_, rfl⟩
          rw [hkl] at hah hbe
          clear HTr
          have e23 : kl = 2 ∨ kl = 3 := by
            have h : aheadJ kl 1 = true := by rw [← hah]; decide
            simpa [aheadJ] using h
          rcases e23 with e2 | e3
          · have hb2 : fl = 1 ∨ fl = 2 := by
              have h : ((fl == 1) || (fl == 2)) = true := by rw [hbe]; subst e2; decide
              simpa using h
            subst e2
            clear hah hbe
            rcases hb2 with rfl | rfl
            · obtain ⟨d3, d2⟩ := HCs.out j rl _ W1 hrl hfj HI1.out
              have hjn : (j : Int) < (n : Int) := by omega
              have hj0 : ¬ (j : Int) < 0 := by omega
              have hj1 : (0 : Int) ≤ (j : Int) := by omega
              have HJl := Lib.hid (HJ.out rl)
              rw [hkl] at HJl
              clear hrl hfj hkl HCs
              go_wp2_with fail
              refine (HJl.out _).mono ?_
              rintro _ W2 ⟨rfl, b2⟩
              have HI2 := Lib.hid ((HP.out W1 HI1.out).2.2.2 _ b2)
              clear b2 d1 d2 d3
              go_wp2_with fail
              go_roundw
              case rel => exact ⟨i + 1, (i : Int), W2, rfl, rfl, by first | rfl | go_num, hlt, Lib.hid (HG.out.2 (by decide)), HI2⟩
              case measure => simp [RowKit.intOf]; omega
            · obtain ⟨d3, d2⟩ := HCs.out j rl _ W1 hrl hfj HI1.out
              have hjn : (j : Int) < (n : Int) := by omega
              have hj0 : ¬ (j : Int) < 0 := by omega
              have hj1 : (0 : Int) ≤ (j : Int) := by omega
              have HJl := Lib.hid (HJ.out rl)
              rw [hkl] at HJl
              clear hrl hfj hkl HCs
              go_wp2_with fail
              refine (HJl.out _).mono ?_
              rintro _ W2 ⟨rfl, b2⟩
              have HI2 := Lib.hid ((HP.out W1 HI1.out).2.2.2 _ b2)
              clear b2 d1 d2 d3
              go_wp2_with fail
              go_roundw
              case rel => exact ⟨i + 1, (i : Int), W2, rfl, rfl, by first | rfl | go_num, hlt, Lib.hid (HG.out.2 (by decide)), HI2⟩
              case measure => simp [RowKit.intOf]; omega
          · have hb : behindJ kl 1 = false := by subst e3; decide
            rw [hb] at hbe
            obtain ⟨q1, q2⟩ := both_false hbe
            clear hah hbe hb
            subst e3
            obtain ⟨d3, d2⟩ := HCs.out j rl _ W1 hrl hfj HI1.out
            have hjn : (j : Int) < (n : Int) := by omega
            have hj0 : ¬ (j : Int) < 0 := by omega
            have hj1 : (0 : Int) ≤ (j : Int) := by omega
            have HJl := Lib.hid (HJ.out rl)
            rw [hkl] at HJl
            clear hrl hfj hkl HCs
            go_wp2_with fail
            refine (HJl.out _).mono ?_
            rintro _ W2 ⟨rfl, b2⟩
            have HI2 := Lib.hid ((HP.out W1 HI1.out).2.2.2 _ b2)
            clear b2 d1 d2 d3
            go_wp2_with fail
            go_roundw
            case rel => exact ⟨i + 1, (i : Int), W2, rfl, rfl, by first | rfl | go_num, hlt, Lib.hid (HG.out.2 (by decide)), HI2⟩
            case measure => simp [RowKit.intOf]; omega
      · obtain ⟨rfl, rfl⟩ := hkf
        rcases HTr.out (by decide) with ⟨rfl, ht⟩ | ⟨j, rl, fl, rfl, hji, hrl, hfj, hah, hbe⟩
        · clear ht HCs
          go_wp2_with fail
          go_roundw
          case rel => exact ⟨i + 1, (i : Int), W1, rfl, rfl, by first | rfl | go_num, hlt, Lib.hid (HG.out.2 (by decide)), HI1⟩
          case measure => simp [RowKit.intOf]; omega
        · obtain ⟨kl, hkl⟩ : ∃ kl, kJ rl = kl := ⟨_, rfl⟩
          rw [hkl] at hah hbe
          clear HTr
          have e23 : kl ≠ 2 ∧ kl ≠ 3 := by
            constructor <;> (intro e; subst e; exact absurd hah (by decide))
          have e2b : (kl == 2) = false := by simpa using e23.1
          have e3b : (kl == 3) = false := by simpa using e23.2
          have hb : behindJ kl 2 = false := by simp [behindJ, e2b]
          rw [hb] at hbe
          obtain ⟨q1, q2⟩ := both_false hbe
          clear hah hbe hb
          clear e23 e2b
          obtain ⟨d3, d2⟩ := HCs.out j rl _ W1 hrl hfj HI1.out
          have hjn : (j : Int) < (n : Int) := by omega
          have hj0 : ¬ (j : Int) < 0 := by omega
          have hj1 : (0 : Int) ≤ (j : Int) := by omega
          have HJl := Lib.hid (HJ.out rl)
          rw [hkl] at HJl
          clear hrl hfj hkl HCs
          go_wp2_with fail
          refine (HJl.out _).mono ?_
          rintro _ W2 ⟨rfl, b2⟩
          have HI2 := Lib.hid ((HP.out W1 HI1.out).2.2.2 _ b2)
          clear b2 d1 d2 d3
          go_wp2_with fail
          go_roundw
          case rel => exact ⟨i + 1, (i : Int), W2, rfl, rfl, by first | rfl | go_num, hlt, Lib.hid (HG.out.2 (by decide)), HI2⟩
          case measure => simp [RowKit.intOf]; omega
      · obtain ⟨rfl, rfl⟩ := hkf
        rcases HTr.out (by decide) with ⟨rfl, ht⟩ | ⟨j, rl, fl, rfl, hji, hrl, hfj, hah, hbe⟩
        · clear ht HCs
          go_wp2_with fail
          go_roundw
          case rel => exact ⟨i + 1, (i : Int), W1, rfl, rfl, by first | rfl | go_num, hlt, Lib.hid (HG.out.2 (by decide)), HI1⟩
          case measure => simp [RowKit.intOf]; omega
        · obtain ⟨kl, hkl⟩ : ∃ kl, kJ rl = kl := ⟨_, rfl⟩
          rw [hkl] at hah hbe
          clear HTr
          have e23 : kl ≠ 2 ∧ kl ≠ 3 := by
            constructor <;> (intro e; subst e; exact absurd hah (by decide))
          have e2b : (kl == 2) = false := by simpa using e23.1
          have e3b : (kl == 3) = false := by simpa using e23.2
          have hb : behindJ kl 2 = false := by simp [behindJ, e2b]
          rw [hb] at hbe
          obtain ⟨q1, q2⟩ := both_false hbe
          clear hah hbe hb
          clear e23 e2b
          obtain ⟨d3, d2⟩ := HCs.out j rl _ W1 hrl hfj HI1.out
          have hjn : (j : Int) < (n : Int) := by omega
          have hj0 : ¬ (j : Int) < 0 := by omega
          have hj1 : (0 : Int) ≤ (j : Int) := by omega
          have HJl := Lib.hid (HJ.out rl)
          rw [hkl] at HJl
          clear hrl hfj hkl HCs
          go_wp2_with fail
          refine (HJl.out _).mono ?_
          rintro _ W2 ⟨rfl, b2⟩
          have HI2 := Lib.hid ((HP.out W1 HI1.out).2.2.2 _ b2)
          clear b2 d1 d2 d3
          go_wp2_with fail
          go_roundw
          case rel => exact ⟨i + 1, (i : Int), W2, rfl, rfl, by first | rfl | go_num, hlt, Lib.hid (HG.out.2 (by decide)), HI2⟩
          case measure => simp [RowKit.intOf]; omega
      · obtain ⟨rfl, rfl⟩ := hkf
        rcases HTr.out (by decide) with ⟨rfl, ht⟩ | ⟨j, rl, fl, rfl, hji, hrl, hfj, hah, hbe⟩
        · exact absurd ht (by decide)
        · obtain ⟨kl, hkl⟩ : ∃ kl, kJ rl = kl := ⟨_, rfl⟩
          rw [hkl] at hah hbe
          clear HTr
          have e23 : kl = 2 ∨ kl = 3 := by
            have h : aheadJ kl 2 = true := by rw [← hah]; decide
            simpa [aheadJ] using h
          rcases e23 with e2 | e3
          · have hb2 : fl = 1 ∨ fl = 2 := by
              have h : ((fl == 1) || (fl == 2)) = true := by rw [hbe]; subst e2; decide
              simpa using h
            subst e2
            clear hah hbe
            rcases hb2 with rfl | rfl
            · obtain ⟨d3, d2⟩ := HCs.out j rl _ W1 hrl hfj HI1.out
              have hjn : (j : Int) < (n : Int) := by omega
              have hj0 : ¬ (j : Int) < 0 := by omega
              have hj1 : (0 : Int) ≤ (j : Int) := by omega
              have HJl := Lib.hid (HJ.out rl)
              rw [hkl] at HJl
              clear hrl hfj hkl HCs
              go_wp2_with fail
              refine (HJl.out _).mono ?_
              rintro _ W2 ⟨rfl, b2⟩
              have HI2 := Lib.hid ((HP.out W1 HI1.out).2.2.2 _ b2)
              clear b2 d1 d2 d3
              go_wp2_with fail
              go_roundw
              case rel => exact ⟨i + 1, (i : Int), W2, rfl, rfl, by first | rfl | go_num, hlt, Lib.hid (HG.out.2 (by decide)), HI2⟩
              case measure => simp [RowKit.intOf]; omega
            · obtain ⟨d3, d2⟩ := HCs.out j rl _ W1 hrl hfj HI1.out
              have hjn : (j : Int) < (n : Int) := by omega
              have hj0 : ¬ (j : Int) < 0 := by omega
              have hj1 : (0 : Int) ≤ (j : Int) := by omega
              have HJl := Lib.hid (HJ.out rl)
              rw [hkl] at HJl
              clear hrl hfj hkl HCs
              go_wp2_with fail
              refine (HJl.out _).mono ?_
              rintro _ W2 ⟨rfl, b2⟩
              have HI2 := Lib.hid ((HP.out W1 HI1.out).2.2.2 _ b2)
              clear b2 d1 d2 d3
              go_wp2_with fail
              go_roundw
              case rel => exact ⟨i + 1, (i : Int), W2, rfl, rfl, by first | rfl | go_num, hlt, Lib.hid (HG.out.2 (by decide)), HI2⟩
              case measure => simp [RowKit.intOf]; omega
          · have hb : behindJ kl 2 = false := by subst e3; decide
            rw [hb] at hbe
            obtain ⟨q1, q2⟩ := both_false hbe
            clear hah hbe hb
            subst e3
            obtain ⟨d3, d2⟩ := HCs.out j rl _ W1 hrl hfj HI1.out
            have hjn : (j : Int) < (n : Int) := by omega
            have hj0 : ¬ (j : Int) < 0 := by omega
            have hj1 : (0 : Int) ≤ (j : Int) := by omega
            have HJl := Lib.hid (HJ.out rl)
            rw [hkl] at HJl
            clear hrl hfj hkl HCs
            go_wp2_with fail
            refine (HJl.out _).mono ?_
            rintro _ W2 ⟨rfl, b2⟩
            have HI2 := Lib.hid ((HP.out W1 HI1.out).2.2.2 _ b2)
            clear b2 d1 d2 d3
            go_wp2_with fail
            go_roundw
            case rel => exact ⟨i + 1, (i : Int), W2, rfl, rfl, by first | rfl | go_num, hlt, Lib.hid (HG.out.2 (by decide)), HI2⟩
            case measure => simp [RowKit.intOf]; omega
      · obtain ⟨rfl, rfl⟩ := hkf
        rcases HTr.out (by decide) with ⟨rfl, ht⟩ | ⟨j, rl, fl, rfl, hji, hrl, hfj, hah, hbe⟩
        · exact absurd ht (by decide)
        · obtain ⟨kl, hkl⟩ : ∃ kl, kJ rl = kl := ⟨_, rfl⟩
          rw [hkl] at hah hbe
          clear HTr
          have e23 : kl = 2 ∨ kl = 3 := by
            have h : aheadJ kl 2 = true := by rw [← hah]; decide
            simpa [aheadJ] using h
          rcases e23 with e2 | e3
          · have hb2 : fl = 1 ∨ fl = 2 := by
              have h : ((fl == 1) || (fl == 2)) = true := by rw [hbe]; subst e2; decide
              simpa using h
            subst e2
            clear hah hbe
            rcases hb2 with rfl | rfl
            · obtain ⟨d3, d2⟩ := HCs.out j rl _ W1 hrl hfj HI1.out
              have hjn : (j : Int) < (n : Int) := by omega
              have hj0 : ¬ (j : Int) < 0 := by omega
              have hj1 : (0 : Int) ≤ (j : Int) := by omega
              have HJl := Lib.hid (HJ.out rl)
              rw [hkl] at HJl
              clear hrl hfj hkl HCs
              go_wp2_with fail
              refine (HJl.out _).mono ?_
              rintro _ W2 ⟨rfl, b2⟩
              have HI2 := Lib.hid ((HP.out W1 HI1.out).2.2.2 _ b2)
              clear b2 d1 d2 d3
              go_wp2_with fail
              go_roundw
              case rel => exact ⟨i + 1, (i : Int), W2, rfl, rfl, by first | rfl | go_num, hlt, Lib.hid (HG.out.2 (by decide)), HI2⟩
              case measure => simp [RowKit.intOf]; omega
            · obtain ⟨d3, d2⟩ := HCs.out j rl _ W1 hrl hfj HI1.out
              have hjn : (j : Int) < (n : Int) := by omega
              have hj0 : ¬ (j : Int) < 0 := by omega
              have hj1 : (0 : Int) ≤ (j : Int) := by omega
              have HJl := Lib.hid (HJ.out rl)
              rw [hkl] at HJl
              clear hrl hfj hkl HCs
              go_wp2_with fail
              refine (HJl.out _).mono ?_
              rintro _ W2 ⟨rfl, b2⟩
              have HI2 := Lib.hid ((HP.out W1 HI1.out).2.2.2 _ b2)
              clear b2 d1 d2 d3
              go_wp2_with fail
              go_roundw
              case rel => exact ⟨i + 1, (i : Int), W2, rfl, rfl, by first | rfl | go_num, hlt, Lib.hid (HG.out.2 (by decide)), HI2⟩
              case measure => simp [RowKit.intOf]; omega
          · have hb : behindJ kl 2 = false := by subst e3; decide
            rw [hb] at hbe
            obtain ⟨q1, q2⟩ := both_false hbe
            clear hah hbe hb
            subst e3
            obtain ⟨d3, d2⟩ := HCs.out j rl _ W1 hrl hfj HI1.out
            have hjn : (j : Int) < (n : Int) := by omega
            have hj0 : ¬ (j : Int) < 0 := by omega
            have hj1 : (0 : Int) ≤ (j : Int) := by omega
            have HJl := Lib.hid (HJ.out rl)
            rw [hkl] at HJl
            clear hrl hfj hkl HCs
            go_wp2_with fail
            refine (HJl.out _).mono ?_
            rintro _ W2 ⟨rfl, b2⟩
            have HI2 := Lib.hid ((HP.out W1 HI1.out).2.2.2 _ b2)
            clear b2 d1 d2 d3
            go_wp2_with fail
            go_roundw
            case rel => exact ⟨i + 1, (i : Int), W2, rfl, rfl, by first | rfl | go_num, hlt, Lib.hid (HG.out.2 (by decide)), HI2⟩
            case measure => simp [RowKit.intOf]; omega
    · obtain rfl : i = n := by omega
      have hnn2 : ¬ (i : Int) < (i : Int) := by omega
      have HE := Lib.hid (HP.out W HI.out).2.2.1
      rcases HEn.out last HL.out with rfl | ⟨j, fl, rfl, hji, hfj, hfl⟩
      · clear hge hin HL HI
        go_wp2_with fail
        go_ret
        exact ⟨rfl, HE.out⟩
      · obtain ⟨af, hA0, _, _, d2⟩ := (HP.out W HI.out).2.1.at hfj
        subst hA0
        have hj0 : ¬ (j : Int) < 0 := by omega
        have hj1 : (0 : Int) ≤ (j : Int) := by omega
        have hjn : (j : Int) < (i : Int) := by omega
        clear hge hin HL HI hfj
        rcases hfl with rfl | rfl
        · go_wp2_with fail
          go_ret
          exact ⟨rfl, HE.out⟩
        · go_wp2_with fail
          go_ret
          exact ⟨rfl, HE.out⟩
end Go.Proofs.Ytjecbchnckknkaa
