/- Layer 9, the laws' helpers: short, pairs. -/
import Derived.Test.YtkcckophnamajaaSetB9
import Derived.Test.YtkcckophnamajaaRes9
import Derived.Deep.QuietTactic
import Derived.BigQuiet
set_option linter.unusedSimpArgs false
set_option linter.unusedVariables false
namespace Go.Proofs.Ytkcckophnamajaa
open Go.RowKit Go.Lib

set_option maxRecDepth 100000 in
theorem slice_k1 (W : World) (A : Option Addr) (m cp k : Nat) (hk : k ≤ cp) : (Instr.slice 23 (.slice A m cp) none (some (.int .i64 (k : Int))) none).run Try.prog W = .ok (.slice A k cp) W := by
  have h := run_slice_h (P := Try.prog) W 23 A m cp (show Try.prog.underlying 23 = some (.slice (Try.prog.elem 23)) from Try.underlying23) .i64 (k : Int) (by omega) (by omega)
  rw [h]
  have hs : (sizeOf (Try.prog.elem 23)).run Try.prog W = .ok 1 W := by rfl
  rw [hs]
  have e0 : A.map (·.add (0 * 1)) = A := by
    rcases A with _ | a
    · rfl
    · simp [Addr.add]
  simp only [Result.andThen, sliced, Int.toNat_natCast, Nat.sub_zero]
  rw [e0]
  split <;> rfl
set_option maxRecDepth 100000 in
set_option maxHeartbeats 2000000 in
theorem short_any9 (Ar A : Option Addr) (nr cr n c : Nat) (w : World) (h1 : nr ≤ cr) (h2 : n ≤ c) :
    Calls Try.prog 17 #[.slice Ar nr cr, .slice A n c] w fun e w' => e = .returned (.tuple #[.slice Ar (min nr n) cr, .slice A (min nr n) c]) ∧ Below w.heap.size w w' := by
  obtain ⟨N, hN⟩ : ∃ N, min nr n = N := ⟨_, rfl⟩
  rw [hN]
  have hminI : min (nr : Int) (n : Int) = (N : Int) := by omega
  have S1 := Lib.hid (fun W => slice_r9 W Ar nr cr N (by omega))
  have S2 := Lib.hid (fun W => slice_k1 W A n c N (by omega))
  have hb := Below.refl w.heap.size w
  have Hb := Lib.hid hb
  have hNc : N ≤ cr ∧ N ≤ c := by omega
  clear hN h1 h2 hb
  go_enter Try.func17, Try.ntmps17
  have s1 := fun W => S1.out W
  have s2 := fun W => S2.out W
  go_wp2_with fail
  go_quiet (fail)
  go_wp2_with fail
  go_ret2
  exact ⟨rfl, below_N Hb.out _⟩
set_option maxRecDepth 100000 in
set_option maxHeartbeats 4000000 in
theorem pairs_same9 (B B' : Nat) (A A' : Option Addr) (n c c' : Nat) (l : Prs) (w : World) (h1 : w.ownsRow B 29 2 (.slice A n c) n (prC l)) (h2 : w.ownsRow B' 29 2 (.slice A' n c') n (prC l)) (hn : n ≤ 1048576) :
    Calls Try.prog 11 #[.slice A n c, .slice A' n c'] w fun e w' => e = .returned (.bool true) ∧ Below w.heap.size w w' := by
  have hl := h1.1
  rw [prC_len] at hl
  have hll : l.length = n := by omega
  have Hll := Lib.hid hll
  obtain ⟨Q, hQ⟩ : ∃ Q, w.heap.size = Q := ⟨_, rfl⟩
  have H1 := Lib.hid (show ∀ W, Below Q w W → W.ownsRow B 29 2 (.slice A n c) n (prC l) from fun W hb => own_below h1 (by rw [hQ]; exact hb))
  have H2 := Lib.hid (show ∀ W, Below Q w W → W.ownsRow B' 29 2 (.slice A' n c') n (prC l) from fun W hb => own_below h2 (by rw [hQ]; exact hb))
  have H0 := Lib.hid (Below.refl Q w)
  rw [hQ]
  clear h1 h2 hl hll hQ
  have hee : ((n : Int) != (n : Int)) = false := by simp
  go_enter Try.func11, Try.ntmps11
  go_wp2_with fail
  go_loopw [5] (fun x wr => ∃ (i : Nat) (W : World), W = wr ∧ x = .int .i64 (i : Int) ∧ i ≤ n ∧ Hid (Below Q w W)) (fun x _ => n - (RowKit.intOf x).toNat)
  case atStart => exact ⟨0, _, rfl, rfl, Nat.zero_le _, H0⟩
  case round =>
    obtain ⟨i, W, hW, rfl, hin, HI⟩ := hrel
    subst hW
    rcases Nat.lt_or_ge i n with hlt | hge
    · obtain ⟨⟨x, y⟩, hp⟩ : ∃ p, l[i]? = some p := ⟨_, List.getElem?_eq_getElem (by rw [Hll.out]; exact hlt)⟩
      have hg := prC_get hp
      have o1 := H1.out W HI.out
      have o2 := H2.out W HI.out
      obtain ⟨g1, _, hv1, _, _⟩ := o1.form (by omega)
      obtain ⟨g2, _, hv2, _, _⟩ := o2.form (by omega)
      have hA1 : A = some ⟨g1, 0, none⟩ := by injection hv1
      have hA2 : A' = some ⟨g2, 0, none⟩ := by injection hv2
      subst hA1 hA2
      clear hv1 hv2
      have ka := (o1.cellAt (i * 2) (by omega)).trans hg.1
      have kb := (o1.cellAt (i * 2 + 1) (by omega)).trans hg.2
      have la := (o2.cellAt (i * 2) (by omega)).trans hg.1
      have lb := (o2.cellAt (i * 2 + 1) (by omega)).trans hg.2
      have kaD : W.drew.cell? ⟨g1, i * 2, none⟩ = some (.int .i64 (x : Int)) := ka
      have kbD : W.drew.cell? ⟨g1, i * 2 + 1, none⟩ = some (.int .i64 (y : Int)) := kb
      have laD : W.drew.cell? ⟨g2, i * 2, none⟩ = some (.int .i64 (x : Int)) := la
      have lbD : W.drew.cell? ⟨g2, i * 2 + 1, none⟩ = some (.int .i64 (y : Int)) := lb
      have heq : ∀ W, (Op.equalIn 10000 29 (.agg #[.int .i64 (x : Int), .int .i64 (y : Int)]) (.agg #[.int .i64 (x : Int), .int .i64 (y : Int)])).run Try.prog W = .ok true W := fun W => by rw [eq_two]; simp
      have hini : (i : Int) < (n : Int) := by omega
      have hnext : IntKind.i64.wrap ((i : Int) + 1) = (i : Int) + 1 := IntWalk.i64_in _ (by omega)
      clear hp hg o1 o2
      go_wp2_with fail
      go_quiet (fail)
      go_wp2_with fail
      go_roundw
      case rel => exact ⟨i + 1, _, rfl, by first | rfl | go_num, hlt, Lib.hid (below_N HI.out _)⟩
      case measure => simp [RowKit.intOf]; omega
    · obtain rfl : i = n := by omega
      have hnn : ¬ (i : Int) < (i : Int) := by omega
      clear hin hge
      go_wp2_with fail
      go_ret
      exact ⟨rfl, HI.out⟩
end Go.Proofs.Ytkcckophnamajaa
