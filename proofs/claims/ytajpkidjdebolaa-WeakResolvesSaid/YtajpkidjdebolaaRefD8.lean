/- Layer 8, the document: terminators. (Made by tools/mkrefd8.py.) -/
import Derived.Test.YtajpkidjdebolaaRefC8
import Derived.Test.YtajpkidjdebolaaTermW
set_option linter.unusedSimpArgs false
set_option linter.unusedVariables false
namespace Go.Proofs.Ytajpkidjdebolaa
open Go.RowKit Go.Lib

set_option maxRecDepth 100000 in
set_option maxHeartbeats 2000000 in
theorem rterms_any (B : Nat) (A : Option Addr) (n c : Nat) (xs : List Int) (w : World) (h : w.ownsRow B 23 1 (.slice A n c) n (i8s xs)) :
    Calls Try.prog 25 #[.slice A n c] w (RuleAt B A n c (tZ false 0 xs) w) := by
  obtain ⟨hnc, hcm⟩ := own_caps h
  obtain ⟨R, hR⟩ : ∃ R, tZ false 0 xs = R := ⟨_, rfl⟩
  rw [hR]
  have HS := Lib.hid (show TInv w B A n c R w [] xs from ⟨h, World.grownBy.refl _ _, hR⟩)
  clear h hR
  go_enter Try.func25, Try.ntmps25
  go_wp2_with fail
  go_loopw [2] (fun y wr => ∃ (d t : List Int) (W : World), W = wr ∧ y = .int .i64 (d.length : Int) ∧ Hid (TInv w B A n c R W d t)) (fun y _ => n - (RowKit.intOf y).toNat)
  case atStart => exact ⟨[], xs, _, rfl, rfl, HS⟩
  case round =>
    obtain ⟨d, t, W, hW, rfl, HI⟩ := hrel
    subst hW
    have hl : (d ++ t).length = n := by have := HI.out.1.1; simpa using this
    rw [List.length_append] at hl
    rcases t with _ | ⟨k, t⟩
    · have hpl : d.length = n := by simpa using hl
      rw [hpl]
      have hnn : ¬ (n : Int) < (n : Int) := by omega
      have Hfin : Hid (W.ownsRow B 23 1 (.slice A n c) n (i8s R) ∧ w.grownBy W (Value.ownBlock (.slice A n c))) := Lib.hid (by
        obtain ⟨h1, h2, h3⟩ := HI.out
        rw [← h3]
        exact ⟨by simpa [tZ] using h1, h2⟩)
      clear hl HI hpl
      go_wp2_with fail
      go_end0
      exact ⟨rfl, Hfin.out⟩
    · simp only [List.length_cons] at hl
      obtain ⟨g, hA, hin, _, _, hcell, _, _⟩ := row_at HI.out.1
      subst hA
      obtain ⟨i, hi⟩ : ∃ i, d.length = i := ⟨_, rfl⟩
      rw [hi] at hin hcell hl ⊢
      have hnext := i64_next hin hnc hcm
      have hini : (i : Int) < (n : Int) := by omega
      by_cases k5 : k = 5
      · subst k5
        obtain ⟨r0, t2, et, ho⟩ := row_split t
        obtain ⟨r, hr⟩ : ∃ r, r0 + 1 = r := ⟨_, rfl⟩
        have er : (5 : Int) :: t = List.replicate r 5 ++ t2 := by rw [← hr, List.replicate_succ, List.cons_append, ← et]
        have HI' := HI.out
        rw [er] at HI'
        have hr1 : 1 ≤ r := by omega
        have hlt : i + (r + t2.length) = n := by have := congrArg List.length er; simp at this; omega
        obtain ⟨e, he⟩ : ∃ e, i + r = e := ⟨_, rfl⟩
        have hen : e ≤ n := by omega
        -- the cells of the row, and behind it
        have Hrow := Lib.hid (show ∀ j, i ≤ j → j < e → W.cell? ⟨g, j, none⟩ = some (.int .i8 5) from fun j h1 h2 => by
          obtain ⟨q, hq⟩ : ∃ q, r - (j - i) = q + 1 := ⟨r - (j - i) - 1, by omega⟩
          have el : d ++ (List.replicate r 5 ++ t2) = (d ++ List.replicate (j - i) 5) ++ 5 :: (List.replicate q 5 ++ t2) := by
            rw [show r = (j - i) + (q + 1) by omega, ← List.replicate_append_replicate, List.replicate_succ]
            simp
          have hown := HI'.1
          rw [el] at hown
          obtain ⟨g', hA', _, _, _, hcell', _, _⟩ := row_at hown
          injection hA' with hA'
          injection hA' with hA'
          subst hA'
          rw [List.length_append, List.length_replicate, hi, show i + (j - i) = j by omega] at hcell'
          exact hcell')
        have Hend := Lib.hid (show e < n → ∃ k, W.cell? ⟨g, e, none⟩ = some (.int .i8 k) ∧ (k == 5) = false ∧ (k == 3) = hd3 t2 from fun hlt2 => by
          rcases ho with rfl | ⟨k, t3, rfl, hk⟩
          · simp at hlt; omega
          · have el : d ++ (List.replicate r 5 ++ k :: t3) = (d ++ List.replicate r 5) ++ k :: t3 := by simp
            have hown := HI'.1
            rw [el] at hown
            obtain ⟨g', hA', _, _, _, hcell', _, _⟩ := row_at hown
            injection hA' with hA'
            injection hA' with hA'
            subst hA'
            rw [List.length_append, List.length_replicate, hi, he] at hcell'
            exact ⟨k, hcell', by simpa using hk, by simp [hd3]⟩)
        have Hno := Lib.hid (show e = n → hd3 t2 = false from fun h => by
          have : t2.length = 0 := by omega
          rw [List.eq_nil_of_length_eq_zero this]
          rfl)
        have Hd0 := Lib.hid (show i = 0 → lastE d = false from fun h => by
          rw [List.eq_nil_of_length_eq_zero (show d.length = 0 by omega)]
          rfl)
        have Hd1 := Lib.hid (show 0 < i → ∃ y, W.cell? ⟨g, i - 1, none⟩ = some (.int .i8 y) ∧ (y == 3) = lastE d from fun h => by
          rcases List.eq_nil_or_concat d with rfl | ⟨q, y, rfl⟩
          · simp at hi; omega
          · rw [List.concat_eq_append] at hi HI' ⊢
            have hown := HI'.1
            rw [List.append_assoc, List.singleton_append] at hown
            obtain ⟨g', hA', _, _, _, hcell', _, _⟩ := row_at hown
            injection hA' with hA'
            injection hA' with hA'
            subst hA'
            rw [show q.length = i - 1 by rw [← hi]; simp] at hcell'
            exact ⟨y, hcell', by rw [lastE_snoc]⟩)
        have HK := Lib.hid (show (lastE d || hd3 t2) = false → ∃ d2 t3, d2.length = e ∧ Hid (TInv w B (some ⟨g, 0, none⟩) n c R W d2 t3) from fun x => ⟨d ++ List.replicate r 5, t2, by simp; omega, Lib.hid ⟨by rw [List.append_assoc]; exact HI'.1, HI'.2.1, by
          rw [← row_done ho hr1 5 (by rw [x]; rfl)]
          exact HI'.2.2⟩⟩)
        have HF := Lib.hid (show (lastE d || hd3 t2) = true → ∀ W', W'.ownsRow B 23 1 (.slice (some ⟨g, 0, none⟩) n c) n (i8s ((d ++ List.replicate r 3) ++ t2)) → w.grownBy W' (some g) → ∃ d2 t3, d2.length = e ∧ Hid (TInv w B (some ⟨g, 0, none⟩) n c R W' d2 t3) from fun x W' a b => ⟨d ++ List.replicate r 3, t2, by simp; omega, Lib.hid ⟨a, b, by
          rw [← row_done ho hr1 3 (by rw [x]; rfl)]
          exact HI'.2.2⟩⟩)
        have HW0 := Lib.hid (show W.ownsRow B 23 1 (.slice (some ⟨g, 0, none⟩) n c) n (i8s (d ++ (List.replicate r 5 ++ t2))) ∧ w.grownBy W (some g) from ⟨HI'.1, HI'.2.1⟩)
        have Hdl := Lib.hid hi
        have Hre := Lib.hid he
        have Hie := Lib.hid (show i < e ∧ e ≤ n by omega)
        have hwe : IntKind.i64.wrap ((e : Int) - 1) = (e : Int) - 1 := by unfold maxLen at hcm; exact IntWalk.i64_in _ (by omega)
        have hwe2 : IntKind.i64.wrap (e : Int) = (e : Int) := by unfold maxLen at hcm; exact IntWalk.i64_in _ (by omega)
        have hwi : IntKind.i64.wrap ((i : Int) - 1) = (i : Int) - 1 := by unfold maxLen at hcm; exact IntWalk.i64_in _ (by omega)
        obtain ⟨b1, hb1⟩ : ∃ b1, lastE d = b1 := ⟨_, rfl⟩
        obtain ⟨b2, hb2⟩ : ∃ b2, hd3 t2 = b2 := ⟨_, rfl⟩
        rw [hb1] at HK HF Hd0 Hd1
        rw [hb2] at HK HF Hend Hno
        have hrn : 1 ≤ r := hr1
        clear hb1 hb2 HI' HI et er ho hi hr he hl hlt hr1
        go_wp2_with fail
        go_loopw [3] (fun x wr => wr = W ∧ ∃ j : Nat, i ≤ j ∧ j ≤ e ∧ x = .int .i64 (j : Int)) (fun x _ => e - (RowKit.intOf x).toNat)
        case atStart => exact ⟨rfl, i, Nat.le_refl _, by have := Hie.out; omega, rfl⟩
        case round =>
          obtain ⟨hWW, j, hij, hje, rfl⟩ := hrel
          subst hWW
          by_cases hj : j < e
          · have hcj := Hrow.out j hij hj
            have hjn : j < n := by omega
            have hji : (j : Int) < (n : Int) := by omega
            have hnj : IntKind.i64.wrap ((j : Int) + 1) = (j : Int) + 1 := by unfold maxLen at hcm; exact IntWalk.i64_in _ (by omega)
            clear HK HF HW0 Hend Hd1 Hd0 Hno
            go_wp2_with fail
            go_roundw
            case rel => exact ⟨trivial, j + 1, by omega, by omega, by first | rfl | go_num⟩
            case measure => simp [RowKit.intOf]; omega
          · obtain rfl : e = j := by omega
            clear hij hje hj Hrow hcell
            by_cases hen' : e < n
            · obtain ⟨k, hck, hk5, hk3⟩ := Hend.out hen'
              have hji : (e : Int) < (n : Int) := by omega
              clear Hend Hno
              by_cases hi0 : i = 0
              · obtain rfl := Hd0.out hi0
                have hii : ¬ (0 : Int) < (i : Int) := by omega
                clear Hd0 Hd1 hi0
                rcases b2 with _ | _
                · have HJ := Lib.hid (HK.out rfl)
                  clear HK HF HW0
                  go_wp2_with fail
                  obtain ⟨d2, t3, hd2, HI2⟩ := HJ.out
                  go_roundw
                  case rel => exact ⟨d2, t3, _, rfl, by rw [hd2], HI2⟩
                  case measure => have := Hie.out; simp [RowKit.intOf]; omega
                · go_wp2_with fail
                  go_loopw [4] (fun x wr => ∃ (m q : Nat) (W' : World), W' = wr ∧ x = .int .i64 ((i + m : Nat) : Int) ∧ m + q = r ∧ Hid (W'.ownsRow B 23 1 (.slice (some ⟨g, 0, none⟩) n c) n (i8s ((d ++ List.replicate m 3) ++ (List.replicate q 5 ++ t2))) ∧ w.grownBy W' (some g))) (fun x _ => e - (RowKit.intOf x).toNat)
                  case atStart => exact ⟨0, r, _, rfl, rfl, by omega, Lib.hid ⟨by simpa using HW0.out.1, HW0.out.2⟩⟩
                  case round =>
                    obtain ⟨m, q, W', hW', rfl, hmq, HW⟩ := hrel
                    subst hW'
                    rcases q with _ | q
                    · obtain rfl : m = r := by omega
                      have hme : i + m = e := by have := Hre.out; omega
                      rw [hme]
                      have hmm : ¬ (e : Int) < (e : Int) := by omega
                      have HJ := Lib.hid (HF.out rfl W' (by have := HW.out.1; simpa using this) HW.out.2)
                      clear HW HK HF HW0 hmq
                      go_wp2_with fail
                      obtain ⟨d2, t3, hd2, HI2⟩ := HJ.out
                      go_roundw
                      case rel => exact ⟨d2, t3, _, rfl, by rw [hd2], HI2⟩
                      case measure => have := Hie.out; simp [RowKit.intOf]; omega
                    · have hme : i + m < e := by have := Hre.out; omega
                      obtain ⟨im, him⟩ : ∃ im, i + m = im := ⟨_, rfl⟩
                      rw [him] at hme ⊢
                      have hmj : (im : Int) < (e : Int) := by omega
                      obtain ⟨h3, h4⟩ := HW.out
                      rw [List.replicate_succ, List.cons_append] at h3
                      obtain ⟨g', hA, hin', _, _, hcell', hfz', hset'⟩ := row_at h3
                      rw [List.length_append, List.length_replicate, Hdl.out, him] at hin' hcell' hfz' hset'
                      injection hA with hA
                      injection hA with hA
                      subst hA
                      have hwm : IntKind.i64.wrap ((im : Int) + 1) = (im : Int) + 1 := IntWalk.i64_in _ (by unfold maxLen at hcm; omega)
                      have Hn := Lib.hid (show _ ∧ _ from ⟨(hset' 3).1, h4.trans (hset' 3).2⟩)
                      have Him := Lib.hid him
                      clear HW h3 h4 hset' HK HF HW0 him
                      go_wp2_with fail
                      go_roundw
                      case rel =>
                        refine ⟨m + 1, q, _, rfl, ?_, by omega, Lib.hid ⟨?_, Hn.out.2⟩⟩
                        · rw [show i + (m + 1) = im + 1 by have := Him.out; omega]
                          first | rfl | (congr 1; omega)
                        · have := Hn.out.1
                          rw [List.replicate_succ', ← List.append_assoc d, List.append_assoc (d ++ List.replicate m 3)]
                          exact this
                      case measure => simp [RowKit.intOf]; omega
              · obtain ⟨y, hcy, hy3⟩ := Hd1.out (by omega)
                have hii : (0 : Int) < (i : Int) := by omega
                clear Hd0 Hd1 hi0
                obtain ⟨im, him⟩ : ∃ im, i - 1 = im := ⟨_, rfl⟩
                rw [him] at hcy
                have himi : (i : Int) - 1 = (im : Int) := by omega
                rw [himi] at hwi
                have himn : im < n := by omega
                clear him
                rcases b1 with _ | _
                · rcases b2 with _ | _
                  · have HJ := Lib.hid (HK.out rfl)
                    clear HK HF HW0
                    go_wp2_with fail
                    obtain ⟨d2, t3, hd2, HI2⟩ := HJ.out
                    go_roundw
                    case rel => exact ⟨d2, t3, _, rfl, by rw [hd2], HI2⟩
                    case measure => have := Hie.out; simp [RowKit.intOf]; omega
                  · go_wp2_with fail
                    go_loopw [4] (fun x wr => ∃ (m q : Nat) (W' : World), W' = wr ∧ x = .int .i64 ((i + m : Nat) : Int) ∧ m + q = r ∧ Hid (W'.ownsRow B 23 1 (.slice (some ⟨g, 0, none⟩) n c) n (i8s ((d ++ List.replicate m 3) ++ (List.replicate q 5 ++ t2))) ∧ w.grownBy W' (some g))) (fun x _ => e - (RowKit.intOf x).toNat)
                    case atStart => exact ⟨0, r, _, rfl, rfl, by omega, Lib.hid ⟨by simpa using HW0.out.1, HW0.out.2⟩⟩
                    case round =>
                      obtain ⟨m, q, W', hW', rfl, hmq, HW⟩ := hrel
                      subst hW'
                      rcases q with _ | q
                      · obtain rfl : m = r := by omega
                        have hme : i + m = e := by have := Hre.out; omega
                        rw [hme]
                        have hmm : ¬ (e : Int) < (e : Int) := by omega
                        have HJ := Lib.hid (HF.out rfl W' (by have := HW.out.1; simpa using this) HW.out.2)
                        clear HW HK HF HW0 hmq
                        go_wp2_with fail
                        obtain ⟨d2, t3, hd2, HI2⟩ := HJ.out
                        go_roundw
                        case rel => exact ⟨d2, t3, _, rfl, by rw [hd2], HI2⟩
                        case measure => have := Hie.out; simp [RowKit.intOf]; omega
                      · have hme : i + m < e := by have := Hre.out; omega
                        obtain ⟨im, him⟩ : ∃ im, i + m = im := ⟨_, rfl⟩
                        rw [him] at hme ⊢
                        have hmj : (im : Int) < (e : Int) := by omega
                        obtain ⟨h3, h4⟩ := HW.out
                        rw [List.replicate_succ, List.cons_append] at h3
                        obtain ⟨g', hA, hin', _, _, hcell', hfz', hset'⟩ := row_at h3
                        rw [List.length_append, List.length_replicate, Hdl.out, him] at hin' hcell' hfz' hset'
                        injection hA with hA
                        injection hA with hA
                        subst hA
                        have hwm : IntKind.i64.wrap ((im : Int) + 1) = (im : Int) + 1 := IntWalk.i64_in _ (by unfold maxLen at hcm; omega)
                        have Hn := Lib.hid (show _ ∧ _ from ⟨(hset' 3).1, h4.trans (hset' 3).2⟩)
                        have Him := Lib.hid him
                        clear HW h3 h4 hset' HK HF HW0 him
                        go_wp2_with fail
                        go_roundw
                        case rel =>
                          refine ⟨m + 1, q, _, rfl, ?_, by omega, Lib.hid ⟨?_, Hn.out.2⟩⟩
                          · rw [show i + (m + 1) = im + 1 by have := Him.out; omega]
                            first | rfl | (congr 1; omega)
                          · have := Hn.out.1
                            rw [List.replicate_succ', ← List.append_assoc d, List.append_assoc (d ++ List.replicate m 3)]
                            exact this
                        case measure => simp [RowKit.intOf]; omega
                · go_wp2_with fail
                  go_loopw [4] (fun x wr => ∃ (m q : Nat) (W' : World), W' = wr ∧ x = .int .i64 ((i + m : Nat) : Int) ∧ m + q = r ∧ Hid (W'.ownsRow B 23 1 (.slice (some ⟨g, 0, none⟩) n c) n (i8s ((d ++ List.replicate m 3) ++ (List.replicate q 5 ++ t2))) ∧ w.grownBy W' (some g))) (fun x _ => e - (RowKit.intOf x).toNat)
                  case atStart => exact ⟨0, r, _, rfl, rfl, by omega, Lib.hid ⟨by simpa using HW0.out.1, HW0.out.2⟩⟩
                  case round =>
                    obtain ⟨m, q, W', hW', rfl, hmq, HW⟩ := hrel
                    subst hW'
                    rcases q with _ | q
                    · obtain rfl : m = r := by omega
                      have hme : i + m = e := by have := Hre.out; omega
                      rw [hme]
                      have hmm : ¬ (e : Int) < (e : Int) := by omega
                      have HJ := Lib.hid (HF.out rfl W' (by have := HW.out.1; simpa using this) HW.out.2)
                      clear HW HK HF HW0 hmq
                      go_wp2_with fail
                      obtain ⟨d2, t3, hd2, HI2⟩ := HJ.out
                      go_roundw
                      case rel => exact ⟨d2, t3, _, rfl, by rw [hd2], HI2⟩
                      case measure => have := Hie.out; simp [RowKit.intOf]; omega
                    · have hme : i + m < e := by have := Hre.out; omega
                      obtain ⟨im, him⟩ : ∃ im, i + m = im := ⟨_, rfl⟩
                      rw [him] at hme ⊢
                      have hmj : (im : Int) < (e : Int) := by omega
                      obtain ⟨h3, h4⟩ := HW.out
                      rw [List.replicate_succ, List.cons_append] at h3
                      obtain ⟨g', hA, hin', _, _, hcell', hfz', hset'⟩ := row_at h3
                      rw [List.length_append, List.length_replicate, Hdl.out, him] at hin' hcell' hfz' hset'
                      injection hA with hA
                      injection hA with hA
                      subst hA
                      have hwm : IntKind.i64.wrap ((im : Int) + 1) = (im : Int) + 1 := IntWalk.i64_in _ (by unfold maxLen at hcm; omega)
                      have Hn := Lib.hid (show _ ∧ _ from ⟨(hset' 3).1, h4.trans (hset' 3).2⟩)
                      have Him := Lib.hid him
                      clear HW h3 h4 hset' HK HF HW0 him
                      go_wp2_with fail
                      go_roundw
                      case rel =>
                        refine ⟨m + 1, q, _, rfl, ?_, by omega, Lib.hid ⟨?_, Hn.out.2⟩⟩
                        · rw [show i + (m + 1) = im + 1 by have := Him.out; omega]
                          first | rfl | (congr 1; omega)
                        · have := Hn.out.1
                          rw [List.replicate_succ', ← List.append_assoc d, List.append_assoc (d ++ List.replicate m 3)]
                          exact this
                      case measure => simp [RowKit.intOf]; omega
            · obtain rfl : n = e := by omega
              have Hno := Hno.out rfl
              subst Hno
              have hjj : ¬ (n : Int) < (n : Int) := by omega
              clear Hend Hno
              by_cases hi0 : i = 0
              · obtain rfl := Hd0.out hi0
                have hii : ¬ (0 : Int) < (i : Int) := by omega
                clear Hd0 Hd1 hi0
                have HJ := Lib.hid (HK.out rfl)
                clear HK HF HW0
                go_wp2_with fail
                obtain ⟨d2, t3, hd2, HI2⟩ := HJ.out
                go_roundw
                case rel => exact ⟨d2, t3, _, rfl, by rw [hd2], HI2⟩
                case measure => have := Hie.out; simp [RowKit.intOf]; omega
              · obtain ⟨y, hcy, hy3⟩ := Hd1.out (by omega)
                have hii : (0 : Int) < (i : Int) := by omega
                clear Hd0 Hd1 hi0
                obtain ⟨im, him⟩ : ∃ im, i - 1 = im := ⟨_, rfl⟩
                rw [him] at hcy
                have himi : (i : Int) - 1 = (im : Int) := by omega
                rw [himi] at hwi
                have himn : im < n := by omega
                clear him
                rcases b1 with _ | _
                · have HJ := Lib.hid (HK.out rfl)
                  clear HK HF HW0
                  go_wp2_with fail
                  obtain ⟨d2, t3, hd2, HI2⟩ := HJ.out
                  go_roundw
                  case rel => exact ⟨d2, t3, _, rfl, by rw [hd2], HI2⟩
                  case measure => have := Hie.out; simp [RowKit.intOf]; omega
                · go_wp2_with fail
                  go_loopw [4] (fun x wr => ∃ (m q : Nat) (W' : World), W' = wr ∧ x = .int .i64 ((i + m : Nat) : Int) ∧ m + q = r ∧ Hid (W'.ownsRow B 23 1 (.slice (some ⟨g, 0, none⟩) n c) n (i8s ((d ++ List.replicate m 3) ++ (List.replicate q 5 ++ t2))) ∧ w.grownBy W' (some g))) (fun x _ => n - (RowKit.intOf x).toNat)
                  case atStart => exact ⟨0, r, _, rfl, rfl, by omega, Lib.hid ⟨by simpa using HW0.out.1, HW0.out.2⟩⟩
                  case round =>
                    obtain ⟨m, q, W', hW', rfl, hmq, HW⟩ := hrel
                    subst hW'
                    rcases q with _ | q
                    · obtain rfl : m = r := by omega
                      have hme : i + m = n := by have := Hre.out; omega
                      rw [hme]
                      have hmm : ¬ (n : Int) < (n : Int) := by omega
                      have HJ := Lib.hid (HF.out rfl W' (by have := HW.out.1; simpa using this) HW.out.2)
                      clear HW HK HF HW0 hmq
                      go_wp2_with fail
                      obtain ⟨d2, t3, hd2, HI2⟩ := HJ.out
                      go_roundw
                      case rel => exact ⟨d2, t3, _, rfl, by rw [hd2], HI2⟩
                      case measure => have := Hie.out; simp [RowKit.intOf]; omega
                    · have hme : i + m < n := by have := Hre.out; omega
                      obtain ⟨im, him⟩ : ∃ im, i + m = im := ⟨_, rfl⟩
                      rw [him] at hme ⊢
                      have hmj : (im : Int) < (n : Int) := by omega
                      obtain ⟨h3, h4⟩ := HW.out
                      rw [List.replicate_succ, List.cons_append] at h3
                      obtain ⟨g', hA, hin', _, _, hcell', hfz', hset'⟩ := row_at h3
                      rw [List.length_append, List.length_replicate, Hdl.out, him] at hin' hcell' hfz' hset'
                      injection hA with hA
                      injection hA with hA
                      subst hA
                      have hwm : IntKind.i64.wrap ((im : Int) + 1) = (im : Int) + 1 := IntWalk.i64_in _ (by unfold maxLen at hcm; omega)
                      have Hn := Lib.hid (show _ ∧ _ from ⟨(hset' 3).1, h4.trans (hset' 3).2⟩)
                      have Him := Lib.hid him
                      clear HW h3 h4 hset' HK HF HW0 him
                      go_wp2_with fail
                      go_roundw
                      case rel =>
                        refine ⟨m + 1, q, _, rfl, ?_, by omega, Lib.hid ⟨?_, Hn.out.2⟩⟩
                        · rw [show i + (m + 1) = im + 1 by have := Him.out; omega]
                          first | rfl | (congr 1; omega)
                        · have := Hn.out.1
                          rw [List.replicate_succ', ← List.append_assoc d, List.append_assoc (d ++ List.replicate m 3)]
                          exact this
                      case measure => simp [RowKit.intOf]; omega
      · have b5 : (k != 5) = true := by simpa using k5
        have HJ : Hid (∃ (d2 t3 : List Int), d2.length = i + 1 ∧ Hid (TInv w B (some ⟨g, 0, none⟩) n c R W d2 t3)) := Lib.hid ⟨d ++ [k], t, by simp; omega, Lib.hid (by
          obtain ⟨h1, h2, h3⟩ := HI.out
          refine ⟨by rw [List.append_assoc]; exact h1, h2, ?_⟩
          rw [← seek_done k5]
          exact h3)⟩
        clear hl HI hi
        go_wp2_with fail
        obtain ⟨d2, t3, hd2, HI2⟩ := HJ.out
        go_roundw
        case rel => exact ⟨d2, t3, _, rfl, by rw [hd2]; first | rfl | go_num, HI2⟩
        case measure => simp [RowKit.intOf]; omega
end Go.Proofs.Ytajpkidjdebolaa
