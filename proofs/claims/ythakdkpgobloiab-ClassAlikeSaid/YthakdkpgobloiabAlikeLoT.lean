/- ClassAlike, walked: lo, a bracket. Written by a program of mine. -/
import Derived.Test.YthakdkpgobloiabAlikeP
namespace Go.Proofs.Ythakdkpgobloiab
open Go.RowKit Go.Lib

set_option maxRecDepth 100000 in
set_option maxHeartbeats 8000000 in
theorem alike_loT (x m : Int) (op : Bool) (k d j mk u v : Nat) (w : World) (hk0 : 0 ≤ x) (hk1 : x ≤ 1114111) (hk3 : x < 55296)
    (pm : ∀ W, Calls Try.prog 12 #[.int .i32 x] W fun e w' => e = .returned (.int .i32 m) ∧ Below W.heap.size W w')
    (pb : ∀ W, Calls Try.prog 12 #[.int .i32 m] W fun e w' => e = .returned (.int .i32 x) ∧ Below W.heap.size W w')
    (pk : ∀ W, Calls Try.prog 20 #[.int .i32 x] W fun e w' => e = .returned (.int .i8 (k : Int)) ∧ Below W.heap.size W w')
    (pd : ∀ W, Calls Try.prog 21 #[.int .i32 x] W fun e w' => e = .returned (.int .i8 (d : Int)) ∧ Below W.heap.size W w')
    (pj : ∀ W, Calls Try.prog 22 #[.int .i32 x] W fun e w' => e = .returned (.int .i8 (j : Int)) ∧ Below W.heap.size W w')
    (pmk : ∀ W, Calls Try.prog 24 #[.int .i32 x] W fun e w' => e = .returned (.int .u8 (mk : Int)) ∧ Below W.heap.size W w')
    (pw0 : ∀ W, Calls Try.prog 23 #[.int .i32 x, .bool false] W fun e w' => e = .returned (.int .i64 (u : Int)) ∧ Below W.heap.size W w')
    (pw1 : ∀ W, Calls Try.prog 23 #[.int .i32 x, .bool true] W fun e w' => e = .returned (.int .i64 (v : Int)) ∧ Below W.heap.size W w')
    (hd : ((d : Int) == 8) = ((k : Int) == 2)) (hj : ((j : Int) == 4) = ((k : Int) == 2)) (h2 : k = 2 → v = 0) (hm : k ≠ 2 → mk = 0) (h01 : k = 0 ∨ k = 1 → v = 0) (huv : u ≤ v)
    (pp : ∀ W, Calls Try.prog 10 #[.int .i32 x] W fun e w' => e = .returned (.tuple #[.int .i32 m, .bool op, .bool true]) ∧ Below W.heap.size W w')
    (pq : ∀ W, Calls Try.prog 10 #[.int .i32 m] W fun e w' => e = .returned (.tuple #[.int .i32 x, .bool (!op), .bool true]) ∧ Below W.heap.size W w') (hmx : (m == x) = false) (hop : ((!op) == op) = false) :
    Calls Try.prog 8 #[.int .i32 x] w fun e w' => e = .returned (.bool true) ∧ Below w.heap.size w w' := by
  have D : Hid (Below w.heap.size w w) := Lib.hid (Below.refl _ w)
  have huvz : (u : Int) ≤ (v : Int) := by omega
  by_cases hk2 : k = 2
  · obtain rfl := h2 hk2
    obtain rfl : u = 0 := by omega
    subst hk2
    have hd' : ((d : Int) == 8) = true := hd
    have hj' : ((j : Int) == 4) = true := hj
    clear hd hj h2 hm h01
    by_cases hmk : mk = 0
    · subst hmk
      go_enter Try.func8, Try.ntmps8
      go_wp2_with fail
      refine (works_any _).mono ?_
      rintro _ w1 ⟨rfl, b⟩
      have D := Lib.hid (D.out.trans (b.mono D.out.size))
      clear b
      go_wp2_with fail
      refine (pm _).mono ?_
      rintro _ w2 ⟨rfl, b⟩
      have D := Lib.hid (D.out.trans (b.mono D.out.size))
      clear b
      go_wp2_with fail
      refine (pb _).mono ?_
      rintro _ w3 ⟨rfl, b⟩
      have D := Lib.hid (D.out.trans (b.mono D.out.size))
      clear b
      go_wp2_with fail
      refine (pp _).mono ?_
      rintro _ w4 ⟨rfl, b⟩
      have D := Lib.hid (D.out.trans (b.mono D.out.size))
      clear b
      go_wp2_with fail
      refine (pq _).mono ?_
      rintro _ w5 ⟨rfl, b⟩
      have D := Lib.hid (D.out.trans (b.mono D.out.size))
      clear b
      go_wp2_with fail
      refine (pk _).mono ?_
      rintro _ w6 ⟨rfl, b⟩
      have D := Lib.hid (D.out.trans (b.mono D.out.size))
      clear b
      go_wp2_with fail
      refine (pd _).mono ?_
      rintro _ w7 ⟨rfl, b⟩
      have D := Lib.hid (D.out.trans (b.mono D.out.size))
      clear b
      go_wp2_with fail
      refine (pj _).mono ?_
      rintro _ w8 ⟨rfl, b⟩
      have D := Lib.hid (D.out.trans (b.mono D.out.size))
      clear b
      go_wp2_with fail
      refine (pw1 _).mono ?_
      rintro _ w9 ⟨rfl, b⟩
      have D := Lib.hid (D.out.trans (b.mono D.out.size))
      clear b
      go_wp2_with fail
      refine (pmk _).mono ?_
      rintro _ w10 ⟨rfl, b⟩
      have D := Lib.hid (D.out.trans (b.mono D.out.size))
      clear b
      go_wp2_with fail
      refine (pk _).mono ?_
      rintro _ w11 ⟨rfl, b⟩
      have D := Lib.hid (D.out.trans (b.mono D.out.size))
      clear b
      go_wp2_with fail
      refine (pw0 _).mono ?_
      rintro _ w12 ⟨rfl, b⟩
      have D := Lib.hid (D.out.trans (b.mono D.out.size))
      clear b
      go_wp2_with fail
      refine (pw1 _).mono ?_
      rintro _ w13 ⟨rfl, b⟩
      have D := Lib.hid (D.out.trans (b.mono D.out.size))
      clear b
      go_wp2_with fail
      go_ret
      exact ⟨rfl, D.out⟩
    · have hmz : (0 : Int) < (mk : Int) := by omega
      go_enter Try.func8, Try.ntmps8
      go_wp2_with fail
      refine (works_any _).mono ?_
      rintro _ w1 ⟨rfl, b⟩
      have D := Lib.hid (D.out.trans (b.mono D.out.size))
      clear b
      go_wp2_with fail
      refine (pm _).mono ?_
      rintro _ w2 ⟨rfl, b⟩
      have D := Lib.hid (D.out.trans (b.mono D.out.size))
      clear b
      go_wp2_with fail
      refine (pb _).mono ?_
      rintro _ w3 ⟨rfl, b⟩
      have D := Lib.hid (D.out.trans (b.mono D.out.size))
      clear b
      go_wp2_with fail
      refine (pp _).mono ?_
      rintro _ w4 ⟨rfl, b⟩
      have D := Lib.hid (D.out.trans (b.mono D.out.size))
      clear b
      go_wp2_with fail
      refine (pq _).mono ?_
      rintro _ w5 ⟨rfl, b⟩
      have D := Lib.hid (D.out.trans (b.mono D.out.size))
      clear b
      go_wp2_with fail
      refine (pk _).mono ?_
      rintro _ w6 ⟨rfl, b⟩
      have D := Lib.hid (D.out.trans (b.mono D.out.size))
      clear b
      go_wp2_with fail
      refine (pd _).mono ?_
      rintro _ w7 ⟨rfl, b⟩
      have D := Lib.hid (D.out.trans (b.mono D.out.size))
      clear b
      go_wp2_with fail
      refine (pj _).mono ?_
      rintro _ w8 ⟨rfl, b⟩
      have D := Lib.hid (D.out.trans (b.mono D.out.size))
      clear b
      go_wp2_with fail
      refine (pw1 _).mono ?_
      rintro _ w9 ⟨rfl, b⟩
      have D := Lib.hid (D.out.trans (b.mono D.out.size))
      clear b
      go_wp2_with fail
      refine (pmk _).mono ?_
      rintro _ w10 ⟨rfl, b⟩
      have D := Lib.hid (D.out.trans (b.mono D.out.size))
      clear b
      go_wp2_with fail
      refine (pk _).mono ?_
      rintro _ w11 ⟨rfl, b⟩
      have D := Lib.hid (D.out.trans (b.mono D.out.size))
      clear b
      go_wp2_with fail
      refine (pw0 _).mono ?_
      rintro _ w12 ⟨rfl, b⟩
      have D := Lib.hid (D.out.trans (b.mono D.out.size))
      clear b
      go_wp2_with fail
      refine (pw1 _).mono ?_
      rintro _ w13 ⟨rfl, b⟩
      have D := Lib.hid (D.out.trans (b.mono D.out.size))
      clear b
      go_wp2_with fail
      go_ret
      exact ⟨rfl, D.out⟩
  · have hkb : ((k : Int) == 2) = false := by simp; omega
    have hd' : ((d : Int) == 8) = false := hd.trans hkb
    have hj' : ((j : Int) == 4) = false := hj.trans hkb
    obtain rfl := hm hk2
    clear hd hj h2 hm
    by_cases hk0 : k = 0
    · obtain rfl := h01 (.inl hk0)
      obtain rfl : u = 0 := by omega
      subst hk0
      clear h01
      go_enter Try.func8, Try.ntmps8
      go_wp2_with fail
      refine (works_any _).mono ?_
      rintro _ w1 ⟨rfl, b⟩
      have D := Lib.hid (D.out.trans (b.mono D.out.size))
      clear b
      go_wp2_with fail
      refine (pm _).mono ?_
      rintro _ w2 ⟨rfl, b⟩
      have D := Lib.hid (D.out.trans (b.mono D.out.size))
      clear b
      go_wp2_with fail
      refine (pb _).mono ?_
      rintro _ w3 ⟨rfl, b⟩
      have D := Lib.hid (D.out.trans (b.mono D.out.size))
      clear b
      go_wp2_with fail
      refine (pp _).mono ?_
      rintro _ w4 ⟨rfl, b⟩
      have D := Lib.hid (D.out.trans (b.mono D.out.size))
      clear b
      go_wp2_with fail
      refine (pq _).mono ?_
      rintro _ w5 ⟨rfl, b⟩
      have D := Lib.hid (D.out.trans (b.mono D.out.size))
      clear b
      go_wp2_with fail
      refine (pk _).mono ?_
      rintro _ w6 ⟨rfl, b⟩
      have D := Lib.hid (D.out.trans (b.mono D.out.size))
      clear b
      go_wp2_with fail
      refine (pd _).mono ?_
      rintro _ w7 ⟨rfl, b⟩
      have D := Lib.hid (D.out.trans (b.mono D.out.size))
      clear b
      go_wp2_with fail
      refine (pj _).mono ?_
      rintro _ w8 ⟨rfl, b⟩
      have D := Lib.hid (D.out.trans (b.mono D.out.size))
      clear b
      go_wp2_with fail
      refine (pmk _).mono ?_
      rintro _ w9 ⟨rfl, b⟩
      have D := Lib.hid (D.out.trans (b.mono D.out.size))
      clear b
      go_wp2_with fail
      refine (pk _).mono ?_
      rintro _ w10 ⟨rfl, b⟩
      have D := Lib.hid (D.out.trans (b.mono D.out.size))
      clear b
      go_wp2_with fail
      refine (pw1 _).mono ?_
      rintro _ w11 ⟨rfl, b⟩
      have D := Lib.hid (D.out.trans (b.mono D.out.size))
      clear b
      go_wp2_with fail
      refine (pw0 _).mono ?_
      rintro _ w12 ⟨rfl, b⟩
      have D := Lib.hid (D.out.trans (b.mono D.out.size))
      clear b
      go_wp2_with fail
      refine (pw1 _).mono ?_
      rintro _ w13 ⟨rfl, b⟩
      have D := Lib.hid (D.out.trans (b.mono D.out.size))
      clear b
      go_wp2_with fail
      go_ret
      exact ⟨rfl, D.out⟩
    · by_cases hk1 : k = 1
      · obtain rfl := h01 (.inr hk1)
        obtain rfl : u = 0 := by omega
        subst hk1
        clear h01
        go_enter Try.func8, Try.ntmps8
        go_wp2_with fail
        refine (works_any _).mono ?_
        rintro _ w1 ⟨rfl, b⟩
        have D := Lib.hid (D.out.trans (b.mono D.out.size))
        clear b
        go_wp2_with fail
        refine (pm _).mono ?_
        rintro _ w2 ⟨rfl, b⟩
        have D := Lib.hid (D.out.trans (b.mono D.out.size))
        clear b
        go_wp2_with fail
        refine (pb _).mono ?_
        rintro _ w3 ⟨rfl, b⟩
        have D := Lib.hid (D.out.trans (b.mono D.out.size))
        clear b
        go_wp2_with fail
        refine (pp _).mono ?_
        rintro _ w4 ⟨rfl, b⟩
        have D := Lib.hid (D.out.trans (b.mono D.out.size))
        clear b
        go_wp2_with fail
        refine (pq _).mono ?_
        rintro _ w5 ⟨rfl, b⟩
        have D := Lib.hid (D.out.trans (b.mono D.out.size))
        clear b
        go_wp2_with fail
        refine (pk _).mono ?_
        rintro _ w6 ⟨rfl, b⟩
        have D := Lib.hid (D.out.trans (b.mono D.out.size))
        clear b
        go_wp2_with fail
        refine (pd _).mono ?_
        rintro _ w7 ⟨rfl, b⟩
        have D := Lib.hid (D.out.trans (b.mono D.out.size))
        clear b
        go_wp2_with fail
        refine (pj _).mono ?_
        rintro _ w8 ⟨rfl, b⟩
        have D := Lib.hid (D.out.trans (b.mono D.out.size))
        clear b
        go_wp2_with fail
        refine (pmk _).mono ?_
        rintro _ w9 ⟨rfl, b⟩
        have D := Lib.hid (D.out.trans (b.mono D.out.size))
        clear b
        go_wp2_with fail
        refine (pk _).mono ?_
        rintro _ w10 ⟨rfl, b⟩
        have D := Lib.hid (D.out.trans (b.mono D.out.size))
        clear b
        go_wp2_with fail
        refine (pw1 _).mono ?_
        rintro _ w11 ⟨rfl, b⟩
        have D := Lib.hid (D.out.trans (b.mono D.out.size))
        clear b
        go_wp2_with fail
        refine (pw0 _).mono ?_
        rintro _ w12 ⟨rfl, b⟩
        have D := Lib.hid (D.out.trans (b.mono D.out.size))
        clear b
        go_wp2_with fail
        refine (pw1 _).mono ?_
        rintro _ w13 ⟨rfl, b⟩
        have D := Lib.hid (D.out.trans (b.mono D.out.size))
        clear b
        go_wp2_with fail
        go_ret
        exact ⟨rfl, D.out⟩
      · have n0 : ((k : Int) == 0) = false := by simp; omega
        have n1 : ((k : Int) == 1) = false := by simp; omega
        have n0' : ((k : Int) != 0) = true := by simp; omega
        have n1' : ((k : Int) != 1) = true := by simp; omega
        clear h01
        go_enter Try.func8, Try.ntmps8
        go_wp2_with fail
        refine (works_any _).mono ?_
        rintro _ w1 ⟨rfl, b⟩
        have D := Lib.hid (D.out.trans (b.mono D.out.size))
        clear b
        go_wp2_with fail
        refine (pm _).mono ?_
        rintro _ w2 ⟨rfl, b⟩
        have D := Lib.hid (D.out.trans (b.mono D.out.size))
        clear b
        go_wp2_with fail
        refine (pb _).mono ?_
        rintro _ w3 ⟨rfl, b⟩
        have D := Lib.hid (D.out.trans (b.mono D.out.size))
        clear b
        go_wp2_with fail
        refine (pp _).mono ?_
        rintro _ w4 ⟨rfl, b⟩
        have D := Lib.hid (D.out.trans (b.mono D.out.size))
        clear b
        go_wp2_with fail
        refine (pq _).mono ?_
        rintro _ w5 ⟨rfl, b⟩
        have D := Lib.hid (D.out.trans (b.mono D.out.size))
        clear b
        go_wp2_with fail
        refine (pk _).mono ?_
        rintro _ w6 ⟨rfl, b⟩
        have D := Lib.hid (D.out.trans (b.mono D.out.size))
        clear b
        go_wp2_with fail
        refine (pd _).mono ?_
        rintro _ w7 ⟨rfl, b⟩
        have D := Lib.hid (D.out.trans (b.mono D.out.size))
        clear b
        go_wp2_with fail
        refine (pj _).mono ?_
        rintro _ w8 ⟨rfl, b⟩
        have D := Lib.hid (D.out.trans (b.mono D.out.size))
        clear b
        go_wp2_with fail
        refine (pmk _).mono ?_
        rintro _ w9 ⟨rfl, b⟩
        have D := Lib.hid (D.out.trans (b.mono D.out.size))
        clear b
        go_wp2_with fail
        refine (pk _).mono ?_
        rintro _ w10 ⟨rfl, b⟩
        have D := Lib.hid (D.out.trans (b.mono D.out.size))
        clear b
        go_wp2_with fail
        refine (pw0 _).mono ?_
        rintro _ w11 ⟨rfl, b⟩
        have D := Lib.hid (D.out.trans (b.mono D.out.size))
        clear b
        go_wp2_with fail
        refine (pw1 _).mono ?_
        rintro _ w12 ⟨rfl, b⟩
        have D := Lib.hid (D.out.trans (b.mono D.out.size))
        clear b
        go_wp2_with fail
        go_ret
        exact ⟨rfl, D.out⟩

end Go.Proofs.Ythakdkpgobloiab
