/- ScanOne, walked: any text: its first and its last, whether it is whole. -/
import Derived.Test.YthakdkpgobloiaaDoorScanC
import Derived.Test.YthakdkpgobloiaaDoorRefF
namespace Go.Proofs.YthakdkpgobloiaaDoor
open Go.RowKit Go.Lib

/-! ### whole: plain Lean -/
def wholeR (l : List UInt8) : Bool := !decide (l = []) && (!decide ((beg l).1 = l.length) || decide ((beg l).1 = (beg l).2))

theorem full_run (l : List UInt8) (x sz lo hi : Nat) (h : l ≠ []) (hx : firstT (gb l 0) = x) (hx2 : x < 240) (hsz : x % 8 = sz) (hlo : accLo (x / 16) = lo) (hhi : accHi (x / 16) = hi) (h2 : sz = 2 ∨ sz = 3 ∨ sz = 4) :
    full l = (!decide (runOn l sz 3 1 lo hi = l.length) || decide (runOn l sz 3 1 lo hi = sz)) := by
  have hl := List.length_pos_iff.2 h
  rw [runOn3]
  unfold full
  rw [if_neg h, hx, if_neg (by omega), hsz, hlo, hhi]
  apply Bool.eq_iff_iff.2
  simp only [Bool.or_eq_true, Bool.not_eq_true', decide_eq_false_iff_not, decide_eq_true_eq]
  rcases h2 with rfl | rfl | rfl
  · repeat' split
    all_goals (constructor <;> (intro _; first | rfl | omega | (exfalso; simp at *; try omega)))
  · repeat' split
    all_goals (constructor <;> (intro _; first | rfl | omega | (exfalso; simp at *; try omega)))
  · repeat' split
    all_goals (constructor <;> (intro _; first | rfl | omega | (exfalso; simp at *; try omega)))

theorem full_whole (l : List UInt8) : full l = wholeR l := by
  by_cases h : l = []
  · subst h; rfl
  · have hl := List.length_pos_iff.2 h
    unfold wholeR
    rw [show decide (l = []) = false by simpa using h]
    simp only [Bool.not_false, Bool.true_and]
    unfold beg
    rw [if_neg h]
    by_cases ha : gb l 0 < 128
    · rw [if_pos ha]
      have hx : firstT (gb l 0) = 240 := by unfold firstT; rw [if_pos ha]
      unfold full
      rw [if_neg h, hx]
      simp
    · rw [if_neg ha]
      rcases sec_of (gb l 0) with ⟨a, b, c⟩ | ⟨a, c⟩ | ⟨a, c⟩ | ⟨a, c⟩ | ⟨a, c⟩ | ⟨a, b, c⟩ | ⟨a, c⟩ | ⟨a, c⟩
      · rw [c, if_neg (by simp)]; exact full_run l 2 2 128 191 h (firstT_C2 ⟨a, b⟩) (by omega) rfl rfl rfl (by omega)
      · rw [c, if_neg (by simp)]; exact full_run l 19 3 160 191 h (firstT_E0 a) (by omega) rfl rfl rfl (by omega)
      · rw [c, if_neg (by simp)]; exact full_run l 35 3 128 159 h (firstT_ED a) (by omega) rfl rfl rfl (by omega)
      · rw [c, if_neg (by simp)]; exact full_run l 3 3 128 191 h (firstT_E1 a) (by omega) rfl rfl rfl (by omega)
      · rw [c, if_neg (by simp)]; exact full_run l 52 4 144 191 h (firstT_F0 a) (by omega) rfl rfl rfl (by omega)
      · rw [c, if_neg (by simp)]; exact full_run l 4 4 128 191 h (firstT_F1 ⟨a, b⟩) (by omega) rfl rfl rfl (by omega)
      · rw [c, if_neg (by simp)]; exact full_run l 68 4 128 143 h (firstT_F4 a) (by omega) rfl rfl rfl (by omega)
      · rw [c, if_pos (by simp)]
        have hx : firstT (gb l 0) = 241 := by
          have := gb_lt l 0
          unfold firstT
          repeat' split
          all_goals omega
        unfold full
        rw [if_neg h, hx]
        simp
        try omega

set_option maxHeartbeats 1000000 in
theorem refWhole_any (s : ByteArray) (w : World) (hs : s.size ≤ maxLen) : Calls Tryd.prog 19 #[.string s] w fun e w' => e = .returned (.bool (wholeR s.data.toList)) ∧ w = w' := by
  have hbg := fun w => begins_any s w hs
  obtain ⟨n, hn⟩ : ∃ n, (beg s.data.toList).1 = n := ⟨_, rfl⟩
  obtain ⟨size, hsize⟩ : ∃ size, (beg s.data.toList).2 = size := ⟨_, rfl⟩
  have hw : wholeR s.data.toList = (!decide (s.size = 0) && (!decide (n = s.size) || decide (n = size))) := by
    unfold wholeR
    rw [hn, hsize, size_list]
    congr 2
    apply Bool.eq_iff_iff.2
    simp only [decide_eq_true_eq]
    exact ⟨fun h => by have := size_list s; rw [h] at this; simpa using this.symm, list_nil s⟩
  rw [hw]
  rw [hn, hsize] at hbg
  have Hbg := Lib.hid hbg
  clear hbg hw hn hsize
  by_cases h0 : s.size = 0
  · have he := empty_yes s h0
    have hd : (!decide (s.size = 0) && (!decide (n = s.size) || decide (n = size))) = false := by simp [h0]
    rw [hd]
    clear hd
    go_enter Tryd.func19, Tryd.ntmps19
    go_wp2_with fail
    refine (Hbg.out _).mono ?_
    rintro e w' ⟨rfl, rfl⟩
    go_wp2_with fail
    go_ret
    exact ⟨rfl, rfl⟩
  · have he := empty_no s (by omega)
    by_cases h1 : n = s.size
    · have c1 : ((n : Int) != s.size) = false := by simp [h1]
      by_cases h2 : n = size
      · have c2 : ((n : Int) == size) = true := by simp [h2]
        have hd : (!decide (s.size = 0) && (!decide (n = s.size) || decide (n = size))) = true := by simp [h0, h2]
        rw [hd]
        clear hd h0 h1 h2
        go_enter Tryd.func19, Tryd.ntmps19
        go_wp2_with fail
        refine (Hbg.out _).mono ?_
        rintro e w' ⟨rfl, rfl⟩
        go_wp2_with fail
        go_ret
        exact ⟨rfl, rfl⟩
      · have c2 : ((n : Int) == size) = false := by rw [beq_eq_false_iff_ne]; omega
        have hd : (!decide (s.size = 0) && (!decide (n = s.size) || decide (n = size))) = false := by simp [h0, h1, h2]; omega
        rw [hd]
        clear hd h0 h1 h2
        go_enter Tryd.func19, Tryd.ntmps19
        go_wp2_with fail
        refine (Hbg.out _).mono ?_
        rintro e w' ⟨rfl, rfl⟩
        go_wp2_with fail
        go_ret
        exact ⟨rfl, rfl⟩
    · have c1 : ((n : Int) != s.size) = true := by simp; omega
      have hd : (!decide (s.size = 0) && (!decide (n = s.size) || decide (n = size))) = true := by simp [h0, h1]
      rw [hd]
      clear hd h0 h1
      go_enter Tryd.func19, Tryd.ntmps19
      go_wp2_with fail
      refine (Hbg.out _).mono ?_
      rintro e w' ⟨rfl, rfl⟩
      go_wp2_with fail
      go_ret
      exact ⟨rfl, rfl⟩

set_option maxRecDepth 100000 in
set_option maxHeartbeats 2000000 in
theorem one_walk (s : ByteArray) (w : World) (hs : s.size ≤ 1073741824) (hT : U8 w) :
    Calls Tryd.prog 3 #[.string s] w fun e w' => e = .returned (.bool true) ∧ Below w.heap.size w w' := by
  have hm : s.size ≤ maxLen := by unfold maxLen; omega
  have hn := fun W h => next_any s W h
  have hl := fun W h => last_any s W hm h
  have hrn := fun W => refNext_any s W hm
  have hrl := fun W => refLast_any s W hs
  have hw := fun W h => whole_any s W hm h
  have hrw := fun W => refWhole_any s W hm
  rw [← full_whole] at hrw
  obtain ⟨a, ha⟩ : ∃ a, nxt s.data.toList = a := ⟨_, rfl⟩
  obtain ⟨b, hb⟩ : ∃ b, decodeLastL s.data.toList = b := ⟨_, rfl⟩
  obtain ⟨c, hc⟩ : ∃ c, full s.data.toList = c := ⟨_, rfl⟩
  rw [ha] at hn hrn
  rw [hb] at hl hrl
  rw [hc] at hw hrw
  have HT := Lib.hid hT
  have Hn := Lib.hid hn
  have Hl := Lib.hid hl
  have Hrn := Lib.hid hrn
  have Hrl := Lib.hid hrl
  have Hw := Lib.hid hw
  have Hrw := Lib.hid hrw
  clear hT hn hl hrn hrl hw hrw ha hb hc hm hs
  go_enter Tryd.func3, Tryd.ntmps3
  go_wp2_with fail
  refine (Hn.out _ HT.out).mono ?_
  rintro e w1 ⟨rfl, b1⟩
  have HT1 := Lib.hid (Utf8Tabs_below HT.out b1)
  go_wp2_with fail
  refine (Hl.out _ HT1.out).mono ?_
  rintro e w2 ⟨rfl, b2⟩
  have HT2 := Lib.hid (Utf8Tabs_below HT1.out b2)
  go_wp2_with fail
  refine (Hrn.out _).mono ?_
  rintro e w3 ⟨rfl, b3⟩
  have HT3 := Lib.hid (Utf8Tabs_below HT2.out b3)
  go_wp2_with fail
  refine (Hrl.out _).mono ?_
  rintro e w4 ⟨rfl, b4⟩
  have HT4 := Lib.hid (Utf8Tabs_below HT3.out b4)
  go_wp2_with fail
  refine (Hw.out _ HT4.out).mono ?_
  rintro e w5 ⟨rfl, b5⟩
  have HT5 := Lib.hid (Utf8Tabs_below HT4.out b5)
  go_wp2_with fail
  refine (Hrw.out _).mono ?_
  rintro e w' ⟨rfl, rfl⟩
  go_wp2_with fail
  refine (wakes_any _ HT5.out).mono ?_
  rintro e w6 ⟨rfl, b6⟩
  go_wp2_with fail
  go_ret
  have m2 := b1.trans (b2.mono b1.size)
  have m3 := m2.trans (b3.mono m2.size)
  have m4 := m3.trans (b4.mono m3.size)
  have m5 := m4.trans (b5.mono m4.size)
  exact ⟨rfl, m5.trans (b6.mono m5.size)⟩

end Go.Proofs.YthakdkpgobloiaaDoor
