/- ClassAlike, walked: of every number. -/
import Derived.Test.YthakdkpgobloiabAlikeLoF
import Derived.Test.YthakdkpgobloiabAlikeLoT
import Derived.Test.YthakdkpgobloiabAlikeHiF
import Derived.Test.YthakdkpgobloiabAlikeHiT
namespace Go.Proofs.Ythakdkpgobloiab
open Go.RowKit Go.Lib

set_option maxRecDepth 100000 in
set_option maxHeartbeats 4000000 in
theorem alike_unknown (x : Int) (hu : (x < 0) ∨ (0 ≤ x ∧ 1114111 < x) ∨ (0 ≤ x ∧ x ≤ 1114111 ∧ ¬ x < 55296 ∧ ¬ 57343 < x)) (w : World) : Calls Try.prog 8 #[.int .i32 x] w fun e w' => e = .returned (.bool true) ∧ Below w.heap.size w w' := by
  obtain ⟨hm, hp⟩ := mirror_unknown x (by omega)
  have hc : char x = 65533 := by unfold char; rw [if_pos (by omega)]
  have pm := fun W => Mirror_any x W
  rw [hm] at pm
  have pp := fun W => Pair_any x W
  rw [hp] at pp
  have pk := fun W => Kind_any x W
  rw [hc, show cls kindsL 65533 = 7 by decide +kernel] at pk
  have pd := fun W => Dir_any x W
  rw [hc, show cls dirsL 65533 = 13 by decide +kernel] at pd
  have pj := fun W => Join_any x W
  rw [hc, show cls joinsL 65533 = 0 by decide +kernel] at pj
  have pmk := fun W => Mark_any x W
  rw [hc, show cls marksL 65533 = 0 by decide +kernel] at pmk
  have pw0 := fun W => Wide_any x false W
  rw [hc, show wideOf (cls widthsL 65533) false = 1 by decide +kernel] at pw0
  have pw1 := fun W => Wide_any x true W
  rw [hc, show wideOf (cls widthsL 65533) true = 1 by decide +kernel] at pw1
  have D : Hid (Below w.heap.size w w) := Lib.hid (Below.refl _ w)
  clear hm hp hc
  rcases hu with h0 | ⟨h0, h1⟩ | ⟨h0, h1, h2, h3⟩
  · go_enter Try.func8, Try.ntmps8
    go_wp2_with fail
    refine (works_any _).mono ?_
    rintro _ w1 ⟨rfl, b⟩
    have D := Lib.hid (D.out.trans (b.mono D.out.size))
    clear b
    go_wp2_with fail
    refine (pm _).mono ?_
    rintro _ w2 ⟨rfl, b⟩
    have D := Lib.hid (D.out.trans (b.mono D.out.size))
    clear b
    go_wp2_with fail
    refine (pm _).mono ?_
    rintro _ w3 ⟨rfl, b⟩
    have D := Lib.hid (D.out.trans (b.mono D.out.size))
    clear b
    go_wp2_with fail
    refine (pp _).mono ?_
    rintro _ w4 ⟨rfl, b⟩
    have D := Lib.hid (D.out.trans (b.mono D.out.size))
    clear b
    go_wp2_with fail
    refine (pk _).mono ?_
    rintro _ w5 ⟨rfl, b⟩
    have D := Lib.hid (D.out.trans (b.mono D.out.size))
    clear b
    go_wp2_with fail
    refine (pd _).mono ?_
    rintro _ w6 ⟨rfl, b⟩
    have D := Lib.hid (D.out.trans (b.mono D.out.size))
    clear b
    go_wp2_with fail
    refine (pj _).mono ?_
    rintro _ w7 ⟨rfl, b⟩
    have D := Lib.hid (D.out.trans (b.mono D.out.size))
    clear b
    go_wp2_with fail
    refine (pmk _).mono ?_
    rintro _ w8 ⟨rfl, b⟩
    have D := Lib.hid (D.out.trans (b.mono D.out.size))
    clear b
    go_wp2_with fail
    refine (pk _).mono ?_
    rintro _ w9 ⟨rfl, b⟩
    have D := Lib.hid (D.out.trans (b.mono D.out.size))
    clear b
    go_wp2_with fail
    refine (pw0 _).mono ?_
    rintro _ w10 ⟨rfl, b⟩
    have D := Lib.hid (D.out.trans (b.mono D.out.size))
    clear b
    go_wp2_with fail
    refine (pw1 _).mono ?_
    rintro _ w11 ⟨rfl, b⟩
    have D := Lib.hid (D.out.trans (b.mono D.out.size))
    clear b
    go_wp2_with fail
    go_ret
    exact ⟨rfl, D.out⟩
  · go_enter Try.func8, Try.ntmps8
    go_wp2_with fail
    refine (works_any _).mono ?_
    rintro _ w1 ⟨rfl, b⟩
    have D := Lib.hid (D.out.trans (b.mono D.out.size))
    clear b
    go_wp2_with fail
    refine (pm _).mono ?_
    rintro _ w2 ⟨rfl, b⟩
    have D := Lib.hid (D.out.trans (b.mono D.out.size))
    clear b
    go_wp2_with fail
    refine (pm _).mono ?_
    rintro _ w3 ⟨rfl, b⟩
    have D := Lib.hid (D.out.trans (b.mono D.out.size))
    clear b
    go_wp2_with fail
    refine (pp _).mono ?_
    rintro _ w4 ⟨rfl, b⟩
    have D := Lib.hid (D.out.trans (b.mono D.out.size))
    clear b
    go_wp2_with fail
    refine (pk _).mono ?_
    rintro _ w5 ⟨rfl, b⟩
    have D := Lib.hid (D.out.trans (b.mono D.out.size))
    clear b
    go_wp2_with fail
    refine (pd _).mono ?_
    rintro _ w6 ⟨rfl, b⟩
    have D := Lib.hid (D.out.trans (b.mono D.out.size))
    clear b
    go_wp2_with fail
    refine (pj _).mono ?_
    rintro _ w7 ⟨rfl, b⟩
    have D := Lib.hid (D.out.trans (b.mono D.out.size))
    clear b
    go_wp2_with fail
    refine (pmk _).mono ?_
    rintro _ w8 ⟨rfl, b⟩
    have D := Lib.hid (D.out.trans (b.mono D.out.size))
    clear b
    go_wp2_with fail
    refine (pk _).mono ?_
    rintro _ w9 ⟨rfl, b⟩
    have D := Lib.hid (D.out.trans (b.mono D.out.size))
    clear b
    go_wp2_with fail
    refine (pw0 _).mono ?_
    rintro _ w10 ⟨rfl, b⟩
    have D := Lib.hid (D.out.trans (b.mono D.out.size))
    clear b
    go_wp2_with fail
    refine (pw1 _).mono ?_
    rintro _ w11 ⟨rfl, b⟩
    have D := Lib.hid (D.out.trans (b.mono D.out.size))
    clear b
    go_wp2_with fail
    go_ret
    exact ⟨rfl, D.out⟩
  · go_enter Try.func8, Try.ntmps8
    go_wp2_with fail
    refine (works_any _).mono ?_
    rintro _ w1 ⟨rfl, b⟩
    have D := Lib.hid (D.out.trans (b.mono D.out.size))
    clear b
    go_wp2_with fail
    refine (pm _).mono ?_
    rintro _ w2 ⟨rfl, b⟩
    have D := Lib.hid (D.out.trans (b.mono D.out.size))
    clear b
    go_wp2_with fail
    refine (pm _).mono ?_
    rintro _ w3 ⟨rfl, b⟩
    have D := Lib.hid (D.out.trans (b.mono D.out.size))
    clear b
    go_wp2_with fail
    refine (pp _).mono ?_
    rintro _ w4 ⟨rfl, b⟩
    have D := Lib.hid (D.out.trans (b.mono D.out.size))
    clear b
    go_wp2_with fail
    refine (pk _).mono ?_
    rintro _ w5 ⟨rfl, b⟩
    have D := Lib.hid (D.out.trans (b.mono D.out.size))
    clear b
    go_wp2_with fail
    refine (pd _).mono ?_
    rintro _ w6 ⟨rfl, b⟩
    have D := Lib.hid (D.out.trans (b.mono D.out.size))
    clear b
    go_wp2_with fail
    refine (pj _).mono ?_
    rintro _ w7 ⟨rfl, b⟩
    have D := Lib.hid (D.out.trans (b.mono D.out.size))
    clear b
    go_wp2_with fail
    refine (pmk _).mono ?_
    rintro _ w8 ⟨rfl, b⟩
    have D := Lib.hid (D.out.trans (b.mono D.out.size))
    clear b
    go_wp2_with fail
    refine (pk _).mono ?_
    rintro _ w9 ⟨rfl, b⟩
    have D := Lib.hid (D.out.trans (b.mono D.out.size))
    clear b
    go_wp2_with fail
    refine (pw0 _).mono ?_
    rintro _ w10 ⟨rfl, b⟩
    have D := Lib.hid (D.out.trans (b.mono D.out.size))
    clear b
    go_wp2_with fail
    refine (pw1 _).mono ?_
    rintro _ w11 ⟨rfl, b⟩
    have D := Lib.hid (D.out.trans (b.mono D.out.size))
    clear b
    go_wp2_with fail
    go_ret
    exact ⟨rfl, D.out⟩

theorem alike_walk (x : Int) (w : World) (_ : (Lit.int .i32 x).wf = true) : Calls Try.prog 8 #[.int .i32 x] w fun e w' => e = .returned (.bool true) ∧ Below w.heap.size w w' := by
  by_cases hk : 0 ≤ x ∧ x ≤ 1114111 ∧ (x < 55296 ∨ 57343 < x)
  · obtain ⟨h0, h1, h2⟩ := hk
    have ok := marks_ok (char x)
    have pk := Kind_any x
    have pd := Dir_any x
    have pj := Join_any x
    have pmk := Mark_any x
    have pw0 := Wide_any x false
    have pw1 := Wide_any x true
    have pm := Mirror_any x
    have pb := Mirror_any (mirrorOf x)
    rw [mirror_back] at pb
    have huv := wide_le (cls widthsL (char x))
    have hw0 : cls widthsL (char x) = 0 → wideOf (cls widthsL (char x)) true = 0 := fun h => by rw [h]; rfl
    simp only [marksOk, Bool.and_eq_true, beq_iff_eq, Bool.or_eq_true, Bool.not_eq_true'] at ok
    obtain ⟨⟨⟨⟨o1, o2⟩, o3⟩, o4⟩, o5⟩ := ok
    have hd : ((cls dirsL (char x) : Int) == 8) = ((cls kindsL (char x) : Int) == 2) := by
      rw [Bool.eq_iff_iff] at o1 ⊢; simp at o1 ⊢; omega
    have hj : ((cls joinsL (char x) : Int) == 4) = ((cls kindsL (char x) : Int) == 2) := by
      rw [Bool.eq_iff_iff] at o2 ⊢; simp at o2 ⊢; omega
    have g2 : cls kindsL (char x) = 2 → wideOf (cls widthsL (char x)) true = 0 := fun h => hw0 (by
      rcases o3 with o3 | o3
      · rw [h] at o3; cases o3
      · exact Nat.eq_of_beq_eq_true o3)
    have gm : cls kindsL (char x) ≠ 2 → cls marksL (char x) = 0 := fun h => by
      rcases o4 with o4 | o4
      · exact Nat.eq_of_beq_eq_true o4
      · exact absurd (Nat.eq_of_beq_eq_true o4) h
    have g01 : cls kindsL (char x) = 0 ∨ cls kindsL (char x) = 1 → wideOf (cls widthsL (char x)) true = 0 := fun h => hw0 (by
      rcases o5 with o5 | o5
      · rcases h with h | h <;> · rw [h] at o5; cases o5
      · exact Nat.eq_of_beq_eq_true o5)
    cases hok : (pairOf x).2.2 with
    | false =>
      have pp := Pair_any x
      rw [pair_none x hok] at pp
      by_cases h3 : x < 55296
      · exact alike_loF x _ _ _ _ _ _ _ w h0 h1 h3 pm pb pk pd pj pmk pw0 pw1 hd hj g2 gm g01 huv pp
      · exact alike_hiF x _ _ _ _ _ _ _ w h0 h1 h3 (by omega) pm pb pk pd pj pmk pw0 pw1 hd hj g2 gm g01 huv pp
    | true =>
      obtain ⟨q1, q2, q3⟩ := pair_some x hok
      have pp := Pair_any x
      rw [hok, q2] at pp
      have pq := Pair_any (pairOf x).1
      rw [q1, q2] at pq
      have hlow : x < 55296 ∨ 57343 < x := h2
      by_cases h3 : x < 55296
      · exact alike_loT x _ _ _ _ _ _ _ _ w h0 h1 h3 pm pb pk pd pj pmk pw0 pw1 hd hj g2 gm g01 huv pp pq (by rw [q2] at q3; simpa using q3) (by cases (pairOf x).2.1 <;> rfl)
      · exact alike_hiT x _ _ _ _ _ _ _ _ w h0 h1 h3 (by omega) pm pb pk pd pj pmk pw0 pw1 hd hj g2 gm g01 huv pp pq (by rw [q2] at q3; simpa using q3) (by cases (pairOf x).2.1 <;> rfl)
  · exact alike_unknown x (by omega) w
end Go.Proofs.Ythakdkpgobloiab
