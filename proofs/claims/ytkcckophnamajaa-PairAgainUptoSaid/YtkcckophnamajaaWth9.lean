/- Layer 9, the document: within. -/
import Derived.Test.YtkcckophnamajaaBec9
set_option linter.unusedSimpArgs false
set_option linter.unusedVariables false
namespace Go.Proofs.Ytkcckophnamajaa
open Go.RowKit Go.Lib

theorem sameZ_snoc (e : Int) (l : List Int) (k : Int) : sameZ e (l ++ [k]) = (sameZ e l || (!neuZ k && wayZ k == e)) := by simp [sameZ]
theorem otherZ_snoc (e : Int) (l : List Int) (k : Int) : otherZ e (l ++ [k]) = (otherZ e l || (!neuZ k && wayZ k != e)) := by simp [otherZ]
set_option maxRecDepth 100000 in
set_option maxHeartbeats 2000000 in
theorem within_any9 (A : Option Addr) (n c : Nat) (P M T : List Int) (a b : Nat) (e s : Int) (w : World) (hrd : RdK w A n (P ++ M ++ T)) (hP : P.length = a + 1) (hM : a + 1 + M.length = b) (hn : n ≤ 140737488355328) :
    Calls Try.prog 33 #[.slice A n c, .agg #[.int .i64 (a : Int), .int .i64 (b : Int)], .int .i8 e, .int .i8 s] w fun en w' => en = .returned (.tuple #[.bool (sameZ e M), .bool (otherZ e M), .int .i8 (aheadZ s (P.take a))]) ∧ Below w.heap.size w w' := by
  have HN := Lib.hid Neutral_any
  have HW := Lib.hid Way_any
  have hl := hrd.len
  simp only [List.length_append] at hl
  obtain ⟨B, hB⟩ : ∃ B, w.heap.size = B := ⟨_, rfl⟩
  obtain ⟨W, hW⟩ : ∃ W, w.alloc (.cells #[.int .i64 (a : Int), .int .i64 (b : Int)] 29) = W := ⟨_, rfl⟩
  have hb0 : Below B w W := by rw [← hW, ← hB]; exact (Below.refl _ w).alloc (Nat.le_refl _) _
  have hcs : W.heap[B]? = some (.cells #[.int .i64 (a : Int), .int .i64 (b : Int)] 29 (0, 0)) := by rw [← hW, ← hB]; exact heap_alloc_new w _
  have hca : W.cell? ⟨B, 0, none⟩ = some (.int .i64 (a : Int)) := cell_of_row W B 0 _ _ (0, 0) hcs
  have hcb : W.cell? ⟨B, 1, none⟩ = some (.int .i64 (b : Int)) := cell_of_row W B 1 _ _ (0, 0) hcs
  have Hrd := Lib.hid (show RdK W A n (P ++ M ++ T) from hrd.below (by rw [hB]; exact hb0))
  have Hb0 := Lib.hid hb0
  have HWw := Lib.hid hW
  have HB := Lib.hid hB
  have hwa : IntKind.i64.wrap ((a : Int) + 1) = ((a + 1 : Nat) : Int) := by rw [IntWalk.i64_in _ (by omega)]; omega
  obtain ⟨a1, ha1⟩ : ∃ a1, a + 1 = a1 := ⟨_, rfl⟩
  rw [ha1] at hwa hP hM
  have Ha1 := Lib.hid ha1
  have HP := Lib.hid hP
  have HM := Lib.hid hM
  have hbn : b ≤ n := by omega
  obtain ⟨S1, hS1⟩ : ∃ S1, sameZ e M = S1 := ⟨_, rfl⟩
  obtain ⟨S2, hS2⟩ : ∃ S2, otherZ e M = S2 := ⟨_, rfl⟩
  obtain ⟨S3, hS3⟩ : ∃ S3, aheadZ s (P.take a) = S3 := ⟨_, rfl⟩
  have HS := Lib.hid (show _ ∧ _ ∧ _ from ⟨hS1, hS2, hS3⟩)
  rw [hS1, hS2, hS3, hB]
  have hab : a < b := by omega
  clear hrd hW hB hb0 hcs hl ha1 hP hM hS1 hS2 hS3
  go_enter Try.func33, Try.ntmps33
  go_wp2_with fail
  rw [HWw.out, HB.out]
  go_wp2_with fail
  go_loopw [11, 12, 13] (fun y z x wr => wr = W ∧ ∃ (M1 M2 : List Int), Hid (M = M1 ++ M2) ∧ y = .bool (sameZ e M1) ∧ z = .bool (otherZ e M1) ∧ x = .int .i64 ((a1 + M1.length : Nat) : Int)) (fun _ _ x _ => b - (RowKit.intOf x).toNat)
  case atStart => exact ⟨rfl, [], M, Lib.hid rfl, rfl, rfl, rfl⟩
  case round =>
    obtain ⟨hWW, M1, M2, hM, rfl, rfl, rfl⟩ := hrel
    subst hWW
    have hlen := congrArg List.length hM.out
    rw [List.length_append] at hlen
    have hMl := HM.out
    rcases M2 with _ | ⟨k, M2⟩
    · have hq : a1 + M1.length = b := by simp at hlen; omega
      rw [hq]
      have hbb : ¬ (b : Int) < (b : Int) := by omega
      have e1 : M1 = M := by have := hM.out; simpa using this.symm
      rw [e1, HS.out.1, HS.out.2.1]
      clear hlen hMl hM e1 hq
      obtain ⟨WW, hWW⟩ : ∃ WW, WW = wr := ⟨_, rfl⟩
      subst hWW
      go_wp2_with fail
      go_loopw [14, 15] (fun y x wr => wr = WW ∧ ∃ (Q1 Q2 : List Int), Hid (P.take a = Q1 ++ Q2) ∧ y = .int .i8 (aheadZ s Q1) ∧ x = .int .i64 (Q1.length : Int)) (fun _ x _ => a - (RowKit.intOf x).toNat)
      case atStart => exact ⟨rfl, [], P.take a, Lib.hid rfl, rfl, rfl⟩
      case round =>
        obtain ⟨hW2, Q1, Q2, hQ, rfl, rfl⟩ := hrel
        subst hW2
        have hlen := congrArg List.length hQ.out
        rw [List.length_take, HP.out, List.length_append, Nat.min_eq_left (by have := Ha1.out; omega)] at hlen
        rcases Q2 with _ | ⟨k, Q2⟩
        · have hq : Q1.length = a := by simpa using hlen.symm
          rw [hq]
          have haa : ¬ (a : Int) < (a : Int) := by omega
          have e1 : Q1 = P.take a := by have := hQ.out; simpa using this.symm
          rw [e1, HS.out.2.2]
          clear hlen hq e1 hQ
          go_wp2_with fail
          go_ret3
          exact ⟨rfl, Hb0.out⟩
        · rw [List.length_cons] at hlen
          have hrd := Hrd.out
          have h5 := List.take_append_drop a P
          rw [hQ.out] at h5
          obtain ⟨D, hD⟩ : ∃ D, P.drop a = D := ⟨_, rfl⟩
          rw [hD] at h5
          have e1 : P ++ M ++ T = Q1 ++ k :: (Q2 ++ D ++ M ++ T) := by
            rw [← h5]
            simp
          rw [e1] at hrd
          obtain ⟨a0, hA, hin, hck⟩ := hrd.at
          subst hA
          have hqi : (Q1.length : Int) < (a : Int) := by omega
          have hnext : IntKind.i64.wrap ((Q1.length : Int) + 1) = (Q1.length : Int) + 1 := IntWalk.i64_in _ (by omega)
          have hsnoc := snoc_len Q1 k
          have HQn := Lib.hid (show P.take a = (Q1 ++ [k]) ++ Q2 by rw [hQ.out]; simp)
          have hah := ahead_snoc s Q1 k
          obtain ⟨v, hv⟩ : ∃ v, aheadZ s Q1 = v := ⟨_, rfl⟩
          rw [hv] at hah ⊢
          obtain ⟨q, hq⟩ : ∃ q, Q1 ++ [k] = q := ⟨_, rfl⟩
          obtain ⟨i, hi⟩ : ∃ i, Q1.length = i := ⟨_, rfl⟩
          rw [hq, hi] at hsnoc
          rw [hq] at HQn hah
          rw [hi] at hin hck hqi hnext ⊢
          have Hah := Lib.hid hah
          clear hlen hQ hrd e1 hq hi hah hv h5 hD
          by_cases hk : neuZ k = true
          · have Hk := Lib.hid hk
            have Hv := Lib.hid (show aheadZ s q = v by rw [Hah.out, if_pos hk])
            clear hk Hah
            go_wp2_with fail
            refine (HN.out _ _).mono ?_
            rintro _ w9 ⟨rfl, h9⟩
            obtain rfl := h9.symm
            rw [Hk.out]
            go_wp2_with fail
            go_roundw
            case rel => exact ⟨trivial, q, Q2, HQn, by rw [Hv.out], by rw [hsnoc]⟩
            case measure => simp [RowKit.intOf]; omega
          · have Hk := Lib.hid (show neuZ k = false by simpa using hk)
            have Hv := Lib.hid (show aheadZ s q = wayZ k by rw [Hah.out, if_neg hk])
            clear hk Hah
            go_wp2_with fail
            refine (HN.out _ _).mono ?_
            rintro _ w9 ⟨rfl, h9⟩
            obtain rfl := h9.symm
            rw [Hk.out]
            go_wp2_with fail
            refine (HW.out _ _).mono ?_
            rintro _ w9 ⟨rfl, h9⟩
            obtain rfl := h9.symm
            go_wp2_with fail
            go_roundw
            case rel => exact ⟨trivial, q, Q2, HQn, by rw [Hv.out], by rw [hsnoc]⟩
            case measure => simp [RowKit.intOf]; omega
    · rw [List.length_cons] at hlen
      have hrd := Hrd.out
      have e1 : P ++ M ++ T = (P ++ M1) ++ k :: (M2 ++ T) := by rw [hM.out]; simp
      rw [e1] at hrd
      obtain ⟨a0, hA, hin, hck⟩ := hrd.at
      rw [List.length_append, HP.out] at hin hck
      subst hA
      have hs1 := sameZ_snoc e M1 k
      have hs2 := otherZ_snoc e M1 k
      obtain ⟨b1, hb1⟩ : ∃ b1, sameZ e M1 = b1 := ⟨_, rfl⟩
      obtain ⟨b2, hb2⟩ : ∃ b2, otherZ e M1 = b2 := ⟨_, rfl⟩
      rw [hb1] at hs1 ⊢
      rw [hb2] at hs2 ⊢
      have Hq := Lib.hid (show a1 + (M1 ++ [k]).length = a1 + M1.length + 1 by simp; omega)
      have HMn := Lib.hid (show M = (M1 ++ [k]) ++ M2 by rw [hM.out]; simp)
      obtain ⟨q, hq⟩ : ∃ q, a1 + M1.length = q := ⟨_, rfl⟩
      obtain ⟨N1, hN1⟩ : ∃ N1, M1 ++ [k] = N1 := ⟨_, rfl⟩
      rw [hq] at hin hck Hq ⊢
      rw [hN1] at Hq HMn hs1 hs2
      have hqb : (q : Int) < (b : Int) := by omega
      have hnext : IntKind.i64.wrap ((q : Int) + 1) = (q : Int) + 1 := IntWalk.i64_in _ (by omega)
      have Hs1 := Lib.hid hs1
      have Hs2 := Lib.hid hs2
      clear hlen hMl hrd e1 hq hN1 hb1 hb2 hs1 hs2 hM
      by_cases hk : neuZ k = true
      · have Hk := Lib.hid hk
        have Hv := Lib.hid (show sameZ e N1 = b1 ∧ otherZ e N1 = b2 by rw [Hs1.out, Hs2.out, hk]; simp)
        clear hk Hs1 Hs2
        go_wp2_with fail
        refine (HN.out _ _).mono ?_
        rintro _ w9 ⟨rfl, h9⟩
        obtain rfl := h9.symm
        rw [Hk.out]
        go_wp2_with fail
        go_roundw
        case rel => exact ⟨trivial, N1, M2, HMn, by rw [Hv.out.1], by rw [Hv.out.2], by rw [Hq.out]; first | rfl | go_num⟩
        case measure => simp [RowKit.intOf]; omega
      · have hkf : neuZ k = false := by simpa using hk
        by_cases hwe : wayZ k = e
        · have Hv := Lib.hid (show sameZ e N1 = true ∧ otherZ e N1 = b2 by rw [Hs1.out, Hs2.out, hkf, hwe]; simp)
          have Hk := Lib.hid hkf
          have Hwe := Lib.hid hwe
          clear hk hkf Hs1 Hs2 hwe
          go_wp2_with fail
          refine (HN.out _ _).mono ?_
          rintro _ w9 ⟨rfl, h9⟩
          obtain rfl := h9.symm
          rw [Hk.out]
          go_wp2_with fail
          refine (HW.out _ _).mono ?_
          rintro _ w9 ⟨rfl, h9⟩
          obtain rfl := h9.symm
          rw [Hwe.out]
          have hee : (e == e) = true := by simp
          go_wp2_with fail
          go_roundw
          case rel => exact ⟨trivial, N1, M2, HMn, by rw [Hv.out.1], by rw [Hv.out.2], by rw [Hq.out]; first | rfl | go_num⟩
          case measure => simp [RowKit.intOf]; omega
        · have hee : (wayZ k == e) = false := by simpa using hwe
          have Hv := Lib.hid (show sameZ e N1 = b1 ∧ otherZ e N1 = true by rw [Hs1.out, Hs2.out, hkf]; simp [hwe])
          have Hk := Lib.hid hkf
          obtain ⟨z, hz⟩ : ∃ z, wayZ k = z := ⟨_, rfl⟩
          rw [hz] at hee
          have Hz := Lib.hid hz
          clear hk hkf Hs1 Hs2 hwe hz
          go_wp2_with fail
          refine (HN.out _ _).mono ?_
          rintro _ w9 ⟨rfl, h9⟩
          obtain rfl := h9.symm
          rw [Hk.out]
          go_wp2_with fail
          refine (HW.out _ _).mono ?_
          rintro _ w9 ⟨rfl, h9⟩
          obtain rfl := h9.symm
          rw [Hz.out]
          go_wp2_with fail
          go_roundw
          case rel => exact ⟨trivial, N1, M2, HMn, by rw [Hv.out.1], by rw [Hv.out.2], by rw [Hq.out]; first | rfl | go_num⟩
          case measure => simp [RowKit.intOf]; omega
end Go.Proofs.Ytkcckophnamajaa
