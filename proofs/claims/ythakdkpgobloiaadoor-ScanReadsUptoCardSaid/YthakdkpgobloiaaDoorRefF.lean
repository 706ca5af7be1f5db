/- The document's answer: the last of a text. -/
import Derived.Test.YthakdkpgobloiaaDoorRefE
import Derived.IntWalk
namespace Go.Proofs.YthakdkpgobloiaaDoor
open Go.RowKit Go.Lib

theorem last_getLast (l : List UInt8) (h : l ≠ []) : ∃ P d, segs l = P ++ [d] ∧ decodeLastL l = d := ⟨_, _, decodeLast_segs l h, rfl⟩

set_option maxRecDepth 100000 in
set_option maxHeartbeats 2000000 in
theorem refLast_any (s : ByteArray) (w : World) (hs : s.size ≤ 1073741824) : Calls Tryd.prog 17 #[.string s] w fun e w' => e = .returned (.tuple #[.int .i32 (decodeLastL s.data.toList).1, .int .i64 (decodeLastL s.data.toList).2]) ∧ Below w.heap.size w w' := by
  have hall := Lib.hid (all_any s w hs)
  by_cases h0 : s.size = 0
  · have hz := list_nil s h0
    have hd : decodeLastL s.data.toList = (65533, 0) := by rw [hz]; rfl
    have hsg : (segs s.data.toList).length = 0 := by rw [hz]; rfl
    have hlb : (((segs s.data.toList).length : Int) == 0) = true := by rw [hsg]; rfl
    rw [hd]
    have Hsg := Lib.hid hsg
    obtain ⟨n, hn⟩ : ∃ n, (segs s.data.toList).length = n := ⟨_, rfl⟩
    unfold AllAt at hall
    rw [hn] at hall hlb
    clear hz hd hsg h0 hn Hsg
    go_enter Tryd.func17, Tryd.ntmps17
    go_wp2_with fail
    refine (hall.out).mono ?_
    rintro e w1 ⟨v, rfl, hown, hb⟩
    obtain ⟨A, c, rfl, _, _⟩ := own_shape hown
    clear hown
    go_wp2_with fail
    go_ret2
    exact ⟨rfl, hb⟩
  · obtain ⟨P, d, hP, hd⟩ := last_getLast s.data.toList (list_ne s (by omega))
    rw [hd]
    unfold AllAt at hall
    rw [hP] at hall
    have hlen : (P ++ [d]).length = P.length + 1 := by simp
    obtain ⟨m, hm⟩ : ∃ m, P.length = m := ⟨_, rfl⟩
    have hlt : (segs s.data.toList).length ≤ s.data.toList.length := segs_len _
    rw [hP, hlen, hm, size_list] at hlt
    rw [hlen, hm] at hall
    have hc := ones_at (P ++ [d]) 0 m (by rw [hlen]; omega)
    have hdm : (P ++ [d])[m]'(by rw [hlen]; omega) = d := by subst hm; simp
    rw [hdm] at hc
    have Hc := Lib.hid hc
    have hlb : (((m + 1 : Nat) : Int) == 0) = false := by rw [beq_eq_false_iff_ne]; omega
    clear hP hd hc hdm h0 hlen hm
    go_enter Tryd.func17, Tryd.ntmps17
    go_wp2_with fail
    refine (hall.out).mono ?_
    rintro e w1 ⟨v, rfl, hown, hb⟩
    obtain ⟨g, cap, rfl, _, _⟩ := hown.form (by omega)
    have c1 := hown.cells (g := g) rfl _ _ Hc.out.2.1
    have c2 := hown.cells (g := g) rfl _ _ Hc.out.2.2.1
    rw [Addr.add_lit, Nat.zero_add, Nat.mul_comm 4 m] at c1 c2
    clear hown
    go_wp2_with fail
    have hw : IntKind.i64.wrap (m : Int) = m := IntWalk.i64_in _ (by omega)
    have hw2 : (m : Int) < m + 1 := by omega
    go_quiet (fail)
    go_wp2_with fail
    go_ret2
    exact ⟨rfl, below_N hb _⟩

end Go.Proofs.YthakdkpgobloiaaDoor
