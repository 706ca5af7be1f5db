/- ClassMirrors, walked: mirrors and brackets are the document's. -/
import Derived.Test.YtkcckophnamajaaAlikeP
set_option linter.unusedSimpArgs false
set_option linter.unusedVariables false
namespace Go.Proofs.Ytkcckophnamajaa
open Go.RowKit Go.Lib

def brkL : List Int := [40, 41, 91, 93, 123, 125, 12296, 12297, 12298, 12299, 12300, 12301, 12302, 12303, 12304, 12305, 12308, 12309, 12310, 12311, 12312, 12313, 12314, 12315, 65288, 65289, 65339, 65341, 65371, 65373]
def mirL : List Int := [60, 62, 171, 187, 8249, 8250, 8804, 8805, 65308, 65310]
def xo (k : Nat) : Nat := if k % 2 = 0 then k + 1 else k - 1

set_option maxRecDepth 100000 in
theorem brackets_any (w : World) : Calls Try.prog 41 #[] w fun e w' => e = .returned (.slice (some ⟨w.heap.size, 0, none⟩) 30 30) ∧ w' = w.alloc (.cells (brkL.map (Value.int .i32)).toArray 21) := by
  go_enter Try.func41, Try.ntmps41
  go_wp2_with fail
  go_ret
  exact ⟨rfl, rfl⟩
theorem xor_one : ∀ k : Nat, k < 30 → bits .xor .i64 (k : Int) 1 = ((xo k : Nat) : Int) := by decide +kernel
theorem new_nums (w : World) (zs : List Int) (t : TypeId) (k : Nat) (h : k < zs.length) : (w.alloc (.cells (zs.map (Value.int .i32)).toArray t)).cell? ⟨w.heap.size, k, none⟩ = some (.int .i32 zs[k]) := by
  have := new_cells w (zs.map (Value.int .i32)) t k (.int .i32 zs[k]) (by simp [h])
  rwa [Addr.add_lit, Nat.zero_add] at this
theorem brk_mirror : ∀ k : Nat, k < 30 → mirrorOf (brkL.getD k 0) = brkL.getD (xo k) 0 := by decide +kernel
theorem mir_mirror : ∀ k : Nat, k < 10 → mirrorOf (mirL.getD k 0) = mirL.getD (xo k) 0 := by decide +kernel
theorem brk_pair : ∀ k : Nat, k < 30 → pairOf (brkL.getD k 0) = (brkL.getD (xo k) 0, decide (k % 2 = 0), true) := by decide +kernel
theorem mir_pair : ∀ y ∈ mirL, pairOf y = (0, false, false) := by decide +kernel
theorem mirS_parts : ∀ y ∈ mirS, y ∈ brkL ∨ y ∈ mirL := by decide +kernel
theorem not_in {zs : List Int} {n : Nat} {x : Int} (hn : zs.length = n) (h : ∀ k, k < n → zs.getD k 0 ≠ x) : x ∉ zs := fun hx => by
  obtain ⟨k, hk, e⟩ := List.getElem_of_mem hx
  exact h k (by omega) (by simp [hk, e])

set_option maxRecDepth 100000 in
set_option maxHeartbeats 2000000 in
theorem refPair_any (x : Int) (w : World) : Calls Try.prog 24 #[.int .i32 x] w fun e w' => e = .returned (.tuple #[.int .i32 (pairOf x).1, .bool (pairOf x).2.1, .bool (pairOf x).2.2]) ∧ Below w.heap.size w w' := by
  have hb := brackets_any w
  have hc := fun k (h : k < 30) => new_nums w brkL 21 k h
  have b1 : Below w.heap.size w (w.alloc (.cells (brkL.map (Value.int .i32)).toArray 21)) := (Below.refl _ w).alloc (Nat.le_refl _) _
  revert hb hc b1
  generalize w.alloc (.cells (brkL.map (Value.int .i32)).toArray 21) = w1
  generalize w.heap.size = b
  intro hb hc b1
  have HB := Lib.hid hb
  have HC := Lib.hid hc
  have B1 := Lib.hid b1
  clear hb hc b1
  go_enter Try.func24, Try.ntmps24
  go_wp2_with fail
  refine HB.out.mono ?_
  rintro _ w1 ⟨rfl, rfl⟩
  go_wp2_with fail
  go_loopw [6] (fun i wr => ∃ k : Nat, i = .int .i64 k ∧ k ≤ 30 ∧ wr = w1 ∧ Hid (∀ j, j < k → brkL.getD j 0 ≠ x)) (fun i _ => 30 - (RowKit.intOf i).toNat)
  case atStart => exact ⟨0, rfl, Nat.zero_le _, rfl, by unfold Hid; intro j hj; omega⟩
  case round =>
    obtain ⟨k, rfl, hk, rfl, hno⟩ := hrel
    by_cases hkn : k < 30
    · have hkz : (k : Int) < 30 := by omega
      have hc := HC.out k hkn
      have hg : brkL.getD k 0 = brkL[k]'hkn := by rw [List.getD_eq_getElem?_getD, List.getElem?_eq_getElem (show k < brkL.length from hkn)]; rfl
      have hxo : xo k < 30 := by unfold xo; split <;> omega
      have hc2 := HC.out (xo k) hxo
      have hg2 : brkL.getD (xo k) 0 = brkL[xo k]'hxo := by rw [List.getD_eq_getElem?_getD, List.getElem?_eq_getElem (show xo k < brkL.length from hxo)]; rfl
      rw [← hg] at hc
      rw [← hg2] at hc2
      clear hg hg2
      have hp := brk_pair k hkn
      obtain ⟨y, hy⟩ : ∃ y, brkL.getD k 0 = y := ⟨_, rfl⟩
      obtain ⟨y2, hy2⟩ : ∃ y2, brkL.getD (xo k) 0 = y2 := ⟨_, rfl⟩
      rw [hy, hy2] at hp
      rw [hy] at hc
      rw [hy2] at hc2
      have HY := Lib.hid hy
      have HP := Lib.hid hp
      clear hy hy2 hp
      have hxz : (xo k : Int) < 30 := by omega
      have hbx := xor_one k hkn
      by_cases hyr : y = x
      · have hb : (y == x) = true := by simpa using hyr
        subst hyr
        go_wp2_with fail
        go_ret3
        refine ⟨?_, B1.out⟩
        rw [HP.out]
        have e : ((k : Int) % 2 == 0) = decide (k % 2 = 0) := by
          rw [Bool.eq_iff_iff]
          simp
          omega
        show Ending.returned (.tuple #[.int .i32 y2, .bool ((k : Int) % 2 == 0), .bool true]) = _
        rw [e]
      · have hb : (y == x) = false := by simpa using hyr
        have HR := Lib.hid hyr
        clear hyr
        go_wp2_with fail
        go_roundw
        case rel =>
          refine ⟨k + 1, by go_num, by omega, by simp, ?_⟩
          unfold Hid
          intro j hj
          rcases Nat.lt_or_ge j k with h | h
          · exact hno.out j h
          · obtain rfl : j = k := by omega
            rw [HY.out]
            exact HR.out
        case measure => simp [RowKit.intOf]; omega
    · obtain rfl : k = 30 := by omega
      go_wp2_with fail
      go_ret3
      have hm : pairOf x = (0, false, false) := by
        by_cases hx : x ∈ mirS
        · rcases mirS_parts x hx with h | h
          · exact absurd h (not_in (zs := brkL) (n := 30) rfl hno.out)
          · exact mir_pair x h
        · exact (not_mirS hx).2
      exact ⟨by rw [hm]; rfl, B1.out⟩

end Go.Proofs.Ytkcckophnamajaa
