/- Layer 11, the program: letterOf, Plain. -/
import Derived.Test.YtjecbchnckknkaaPgA
import Derived.Test.YtjecbchnckknkaaPlJ
set_option linter.unusedSimpArgs false
set_option linter.unusedVariables false
namespace Go.Proofs.Ytjecbchnckknkaa
open Go.RowKit Go.Lib

set_option maxRecDepth 100000 in
set_option maxHeartbeats 4000000 in
theorem letterOf_anyJ (r : Int) (w : World) : Calls Try.prog 35 #[.int .i32 r] w fun e w' => e = .returned (.int .i32 (letZ r 42)) ∧ Below w.heap.size w w' := by
  obtain ⟨R, hR⟩ : ∃ R, letZ r 42 = R := ⟨_, rfl⟩
  have HR := Lib.hid hR
  rw [hR]
  have HF := Lib.hid (firstShapes_anyJ w)
  have HI := Lib.hid (fun i hi W => idx_firstJ .i64 i hi W)
  have H0 := Lib.hid (show letZ r 0 = 0 from rfl)
  obtain ⟨V, hV⟩ : ∃ V, firstV = V := ⟨_, rfl⟩
  rw [hV] at HI HF
  clear hV hR
  go_enter Try.func35, Try.ntmps35
  go_wp2_with fail
  refine HF.out.mono ?_
  rintro _ W ⟨rfl, hb⟩
  have Hb := Lib.hid hb
  clear hb HF
  go_wp2_with fail
  go_loopw [3, 7] (fun y x wr => wr = W ∧ ∃ (m : Nat), m ≤ 42 ∧ x = .int .i64 (m : Int) ∧ y = .int .i32 (letZ r m)) (fun _ x _ => 42 - (RowKit.intOf x).toNat)
  case atStart => exact ⟨rfl, 0, by omega, rfl, rfl⟩
  case round =>
    obtain ⟨hw, m, hm, rfl, rfl⟩ := hrel
    subst hw
    rcases Nat.lt_or_ge m 42 with hlt | hge
    · have hmi : (m : Int) < 42 := by omega
      have hnext : IntKind.i64.wrap ((m : Int) + 1) = (m : Int) + 1 := IntWalk.i64_in _ (by omega)
      have hcv : IntKind.i32.wrap (m : Int) = (m : Int) := IntWalk.i32_in _ (by omega)
      have hadd : IntKind.i32.wrap (1569 + (m : Int)) = 1569 + (m : Int) := IntWalk.i32_in _ (by omega)
      have hidx := HI.out m hlt wr
      have HZ := Lib.hid (show letZ r (m + 1) = if ¬ firstL.getD m 0 = 0 ∧ firstL.getD m 0 ≤ r then 0x621 + (m : Int) else letZ r m from rfl)
      obtain ⟨f, hf⟩ : ∃ f, firstL.getD m 0 = f := ⟨_, rfl⟩
      obtain ⟨z, hz⟩ : ∃ z, letZ r m = z := ⟨_, rfl⟩
      rw [hf] at hidx HZ
      rw [hz] at HZ ⊢
      clear hf hz
      by_cases h0 : f = 0
      · subst h0
        have HE := Lib.hid (show letZ r (m + 1) = z by rw [HZ.out, if_neg (by simp)])
        clear HZ
        go_wp2_with fail
        go_roundw
        case rel => exact ⟨trivial, m + 1, by omega, by first | rfl | go_num, by rw [HE.out]⟩
        case measure => simp [RowKit.intOf] <;> omega
      · have b0 : (f != 0) = true := by simpa using h0
        by_cases hle : f ≤ r
        · have HE := Lib.hid (show letZ r (m + 1) = 1569 + (m : Int) by rw [HZ.out, if_pos ⟨h0, hle⟩])
          clear HZ h0
          go_wp2_with fail
          go_roundw
          case rel => exact ⟨trivial, m + 1, by omega, by first | rfl | go_num, by rw [HE.out]⟩
          case measure => simp [RowKit.intOf] <;> omega
        · have HE := Lib.hid (show letZ r (m + 1) = z by rw [HZ.out, if_neg (fun h => hle h.2)])
          clear HZ h0
          go_wp2_with fail
          go_roundw
          case rel => exact ⟨trivial, m + 1, by omega, by first | rfl | go_num, by rw [HE.out]⟩
          case measure => simp [RowKit.intOf] <;> omega
    · obtain rfl : m = 42 := by omega
      rw [HR.out]
      go_wp2_with fail
      go_ret
      exact ⟨rfl, Hb.out⟩
theorem out1J {w W : World} (h : Below w.heap.size w W) (x : Int) : PlR w [x] (.returned (.slice (some ⟨W.heap.size, 0, none⟩) 1 1)) (W.alloc (.cells #[.int .i32 x] 21)) :=
  ⟨W.heap.size, _, _, h.size, rfl, own_newJ W [x] (by unfold maxLen; simp only [List.length_cons, List.length_nil]; decide), h.alloc h.size _⟩
set_option maxRecDepth 100000 in
set_option maxHeartbeats 4000000 in
theorem plain_anyJ (r : Int) (w : World) : Calls Try.prog 22 #[.int .i32 r] w (PlR w (plainJ r)) := by
  by_cases hl : 0xfef5 ≤ r ∧ r ≤ 0xfefc
  · have hc : r = 65269 ∨ r = 65270 ∨ r = 65271 ∨ r = 65272 ∨ r = 65273 ∨ r = 65274 ∨ r = 65275 ∨ r = 65276 := by omega
    clear hl
    rcases hc with rfl | rfl | rfl | rfl | rfl | rfl | rfl | rfl
    all_goals
      go_enter Try.func22, Try.ntmps22
      go_wp2_with fail
      go_ret
      exact ligs _ _
  by_cases hlo : r < 65152
  · obtain ⟨R, hR⟩ : ∃ R, plainJ r = R := ⟨_, rfl⟩
    obtain rfl : [r] = R := by rw [← hR, plainJ_out r (.inl (by omega))]
    rw [hR]
    clear hR
    have Hb := Lib.hid (Below.refl w.heap.size w)
    go_enter Try.func22, Try.ntmps22
    go_wp2_with fail
    go_ret
    exact out1J Hb.out r
  by_cases hhi : 65276 < r
  · obtain ⟨R, hR⟩ : ∃ R, plainJ r = R := ⟨_, rfl⟩
    obtain rfl : [r] = R := by rw [← hR, plainJ_out r (.inr (by omega))]
    rw [hR]
    clear hR
    have Hb := Lib.hid (Below.refl w.heap.size w)
    go_enter Try.func22, Try.ntmps22
    go_wp2_with fail
    go_ret
    exact out1J Hb.out r
  have hmid : r < 65269 := by omega
  rw [plainJ_let r (by omega) hmid]
  have HL := Lib.hid (letterOf_anyJ r w)
  obtain ⟨x, hx⟩ : ∃ x, letZ r 42 = x := ⟨_, rfl⟩
  rw [hx] at HL ⊢
  clear hx hl
  go_enter Try.func22, Try.ntmps22
  go_wp2_with fail
  refine HL.out.mono ?_
  rintro _ W ⟨rfl, hb⟩
  have Hb := Lib.hid hb
  clear hb HL
  go_wp2_with fail
  go_ret
  exact out1J Hb.out x
end Go.Proofs.Ytjecbchnckknkaa
