/- ScanOne, walked: any text: its first and its last, whether it is whole. -/
import Derived.Test.YtfegbfhkmdmheaaDoorScanG
import Derived.Test.YtfegbfhkmdmheaaDoorRefEG
set_option linter.unusedSimpArgs false
set_option linter.unusedVariables false
namespace Go.Proofs.YtfegbfhkmdmheaaDoor
open Go.RowKit Go.Lib

/-! ### whole: plain Lean -/
def wholeR (l : List UInt8) : Bool := !decide (l = []) && (!decide ((beg l).1 = l.length) || decide ((beg l).1 = (beg l).2))

theorem full_run (l : List UInt8) (x sz lo hi : Nat) (h : l ≠ []) (hx : firstT (gb l 0) = x) (hx2 : x < 240) (hsz : x % 8 = sz) (hlo : accLo (x / 16) = lo) (hhi : accHi (x / 16) = hi) (h2 : sz = 2 ∨ sz = 3 ∨ sz = 4) :
    full l = (!decide (runOn l sz 3 1 lo hi = l.length) || decide (runOn l sz 3 1 lo hi = sz)) := by
  have hl := List.length_pos_iff.2 h
  rw [runOn3]
  unfold full
  rw [if_neg h, hx, if_neg (by omega), hsz, hlo, hhi]
  apply Bool.eq_iff_iff.2
  simp only [Bool.or_eq_true, Bool.not_eq_true', decide_eq_false_iff_not, decide_eq_true_eq]
  rcases h2 with rfl | rfl | rfl
  · repeat' split
    all_goals (constructor <;> (intro _; first | rfl | omega | (exfalso; simp at *; try omega)))
  · repeat' split
    all_goals (constructor <;> (intro _; first | rfl | omega | (exfalso; simp at *; try omega)))
  · repeat' split
    all_goals (constructor <;> (intro _; first | rfl | omega | (exfalso; simp at *; try omega)))

theorem full_whole (l : List UInt8) : full l = wholeR l := by
  by_cases h : l = []
  · subst h; rfl
  · have hl := List.length_pos_iff.2 h
    unfold wholeR
    rw [show decide (l = []) = false by simpa using h]
    simp only [Bool.not_false, Bool.true_and]
    unfold beg
    rw [if_neg h]
    by_cases ha : gb l 0 < 128
    · rw [if_pos ha]
      have hx : firstT (gb l 0) = 240 := by unfold firstT; rw [if_pos ha]
      unfold full
      rw [if_neg h, hx]
      simp
    · rw [if_neg ha]
      rcases sec_of (gb l 0) with ⟨a, b, c⟩ | ⟨a, c⟩ | ⟨a, c⟩ | ⟨a, c⟩ | ⟨a, c⟩ | ⟨a, b, c⟩ | ⟨a, c⟩ | ⟨a, c⟩
      · rw [c, if_neg (by simp)]; exact full_run l 2 2 128 191 h (firstT_C2 ⟨a, b⟩) (by omega) rfl rfl rfl (by omega)
      · rw [c, if_neg (by simp)]; exact full_run l 19 3 160 191 h (firstT_E0 a) (by omega) rfl rfl rfl (by omega)
      · rw [c, if_neg (by simp)]; exact full_run l 35 3 128 159 h (firstT_ED a) (by omega) rfl rfl rfl (by omega)
      · rw [c, if_neg (by simp)]; exact full_run l 3 3 128 191 h (firstT_E1 a) (by omega) rfl rfl rfl (by omega)
      · rw [c, if_neg (by simp)]; exact full_run l 52 4 144 191 h (firstT_F0 a) (by omega) rfl rfl rfl (by omega)
      · rw [c, if_neg (by simp)]; exact full_run l 4 4 128 191 h (firstT_F1 ⟨a, b⟩) (by omega) rfl rfl rfl (by omega)
      · rw [c, if_neg (by simp)]; exact full_run l 68 4 128 143 h (firstT_F4 a) (by omega) rfl rfl rfl (by omega)
      · rw [c, if_pos (by simp)]
        have hx : firstT (gb l 0) = 241 := by
          have := gb_lt l 0
          unfold firstT
          repeat' split
          all_goals omega
        unfold full
        rw [if_neg h, hx]
        simp
        try omega

set_option maxHeartbeats 1000000 in
theorem refWhole_any (s : ByteArray) (w : World) (hs : s.size ≤ maxLen) : Calls Tryd.prog 52 #[.string s] w fun e w' => e = .returned (.bool (wholeR s.data.toList)) ∧ w = w' := by
  have hbg := fun w => begins_any s w hs
  obtain ⟨n, hn⟩ : ∃ n, (beg s.data.toList).1 = n := ⟨_, rfl⟩
  obtain ⟨size, hsize⟩ : ∃ size, (beg s.data.toList).2 = size := ⟨_, rfl⟩
  have hw : wholeR s.data.toList = (!decide (s.size = 0) && (!decide (n = s.size) || decide (n = size))) := by
    unfold wholeR
    rw [hn, hsize, size_list]
    congr 2
    apply Bool.eq_iff_iff.2
    simp only [decide_eq_true_eq]
    exact ⟨fun h => by have := size_list s; rw [h] at this; simpa using this.symm, list_nil s⟩
  rw [hw]
  rw [hn, hsize] at hbg
  have Hbg := Lib.hid hbg
  clear hbg hw hn hsize
  by_cases h0 : s.size = 0
  · have he := empty_yes s h0
    have hd : (!decide (s.size = 0) && (!decide (n = s.size) || decide (n = size))) = false := by simp [h0]
    rw [hd]
    clear hd
    go_enter Tryd.func52, Tryd.ntmps52
    go_wp2_with fail
    refine (Hbg.out _).mono ?_
    rintro e w' ⟨rfl, rfl⟩
    go_wp2_with fail
    go_ret
    exact ⟨rfl, rfl⟩
  · have he := empty_no s (by omega)
    by_cases h1 : n = s.size
    · have c1 : ((n : Int) != s.size) = false := by simp [h1]
      by_cases h2 : n = size
      · have c2 : ((n : Int) == size) = true := by simp [h2]
        have hd : (!decide (s.size = 0) && (!decide (n = s.size) || decide (n = size))) = true := by simp [h0, h2]
        rw [hd]
        clear hd h0 h1 h2
        go_enter Tryd.func52, Tryd.ntmps52
        go_wp2_with fail
        refine (Hbg.out _).mono ?_
        rintro e w' ⟨rfl, rfl⟩
        go_wp2_with fail
        go_ret
        exact ⟨rfl, rfl⟩
      · have c2 : ((n : Int) == size) = false := by rw [beq_eq_false_iff_ne]; omega
        have hd : (!decide (s.size = 0) && (!decide (n = s.size) || decide (n = size))) = false := by simp [h0, h1, h2]; omega
        rw [hd]
        clear hd h0 h1 h2
        go_enter Tryd.func52, Tryd.ntmps52
        go_wp2_with fail
        refine (Hbg.out _).mono ?_
        rintro e w' ⟨rfl, rfl⟩
        go_wp2_with fail
        go_ret
        exact ⟨rfl, rfl⟩
    · have c1 : ((n : Int) != s.size) = true := by simp; omega
      have hd : (!decide (s.size = 0) && (!decide (n = s.size) || decide (n = size))) = true := by simp [h0, h1]
      rw [hd]
      clear hd h0 h1
      go_enter Tryd.func52, Tryd.ntmps52
      go_wp2_with fail
      refine (Hbg.out _).mono ?_
      rintro e w' ⟨rfl, rfl⟩
      go_wp2_with fail
      go_ret
      exact ⟨rfl, rfl⟩

end Go.Proofs.YtfegbfhkmdmheaaDoor
