/- ClassTexts, walked: every text's characters, any runes. -/
import Derived.Test.YthakdkpgobloiabTells
import Derived.Test.YthakdkpgobloiabMirrors
import Derived.Test.YthakdkpgobloiabOpenP
import Derived.Lib.OthersKept
import Derived.Laws.Cover4
import Derived.Laws.IdiomStrings
namespace Go.Proofs.Ythakdkpgobloiab
open Go.RowKit Go.Lib

theorem decode_pos (s : ByteArray) (i : Nat) : 0 < (Utf8.decode s i).2 := by
  unfold Utf8.decode
  dsimp only
  repeat' split
  all_goals simp
theorem iterPos_at {w : World} {k : Nat} {s : ByteArray} {p : Nat} (h : w.heap[k]? = some (.stringIter s p)) : w.iterPos k = p := by simp [World.iterPos, h]

set_option maxRecDepth 100000 in
set_option maxHeartbeats 4000000 in
theorem texts_walk (s : ByteArray) (A : Option Addr) (n c : Nat) (zs : List Int) (b : Bool) (w : World) (hrd : Rd w w.heap.size 1 A n (zs.map (Value.int .i32))) (hnc : n ≤ c) (hc : c ≤ maxLen) :
    Calls Try.prog 4 #[.string s, .slice A n c, .bool b] w fun e w' => e = .returned (.bool true) ∧ Below w.heap.size w w' := by
  have p1 := fun x W => tells_walk x b W
  have p2 := mirrors_walk
  obtain ⟨B, hB⟩ : ∃ B, w.heap.size = B := ⟨_, rfl⟩
  have HB := Lib.hid hB
  have hBle : B ≤ w.heap.size := by omega
  have hit0 : (w.iter s 0).heap[B]? = some (.stringIter s 0) := by rw [← hB]; exact World.iter_heap w s 0
  have hb0 : Below B w (w.iter s 0) := (Below.refl _ w).alloc (by omega) _
  rw [hB] at hrd ⊢
  have Hrd := Lib.hid hrd
  have Hb0 := Lib.hid hb0
  have Hit0 := Lib.hid hit0
  have hn63 : n ≤ 9223372036854775807 := by unfold maxLen at hc; omega
  clear hb0 hit0 hrd hc hnc
  go_enter Try.func4, Try.ntmps4
  go_wp2
  clear hB
  go_loopw [8] (fun _ wr => ∃ pos : Nat, wr.heap[B]? = some (.stringIter s pos) ∧ Below B w wr) (fun _ wr => s.size - wr.iterPos B)
  case atStart => exact ⟨0, Hit0.out, Hb0.out⟩
  case round =>
    obtain ⟨pos, hit, hbw⟩ := hrel
    by_cases hp : pos < s.size
    · have hd2 := decode_pos s pos
      have hnx : ∀ ty, (Instr.next (.pointer (some ⟨B, 0, none⟩)) true ty).run Try.prog wr = .ok (.tuple #[.bool true, .int .i64 pos, .int .i32 (Utf8.decode s pos).1]) (wr.iterAt B s (pos + (Utf8.decode s pos).2)) := fun ty => Lib.run_next_any_at wr B s pos ty hit hp
      revert hd2 hnx
      generalize Utf8.decode s pos = d
      intro hd2 hnx
      have hlt : B < wr.heap.size := (Array.getElem?_eq_some_iff.1 hit).1
      have hit2 := Lib.hid (Lib.iterAt_heap wr B s pos (pos + d.2) hit)
      have hbw2 := Lib.hid (Lib.below_iterAt hbw (Nat.le_refl B) s (pos + d.2))
      have hlt2 : B < (wr.iterAt B s (pos + d.2)).heap.size := by rw [Lib.iterAt_size]; exact hlt
      have Hpos := Lib.hid (iterPos_at hit)
      clear hit hlt hbw
      obtain ⟨w1, hw1⟩ : ∃ w1, wr.iterAt B s (pos + d.2) = w1 := ⟨_, rfl⟩
      rw [hw1] at hnx hit2 hbw2 hlt2
      clear hw1
      go_wp2_with fail
      refine (p1 _ _).mono ?_
      rintro _ w2 ⟨rfl, b2⟩
      have B2 := Lib.hid b2
      have hs2 := b2.size
      clear b2
      go_wp2_with fail
      refine (p2 _ _).mono ?_
      rintro _ w3 ⟨rfl, b3⟩
      have B3 := Lib.hid b3
      have hs3 := b3.size
      clear b3
      go_wp2_with fail
      have hit3 : w3.heap[B]? = some (.stringIter s (pos + d.2)) := (B3.out.block B (by omega)).trans ((B2.out.block B hlt2).trans hit2.out)
      go_roundw
      case rel => exact ⟨pos + d.2, hit3, hbw2.out.trans ((B2.out.mono (by omega)).trans (B3.out.mono (by omega)))⟩
      case measure => rw [Hpos.out, iterPos_at hit3]; omega
    · have hnx : ∀ ty, (Instr.next (.pointer (some ⟨B, 0, none⟩)) true ty).run Try.prog wr = _ := fun ty => Lib.run_next_end_at wr B s pos ty hit hp
      have Hbw := Lib.hid hbw
      clear hit hbw
      go_wp2_with fail
      go_loopw [27] (fun i wq => ∃ k : Nat, i = .int .i64 k ∧ k ≤ n ∧ Below B w wq) (fun i _ => n - (RowKit.intOf i).toNat)
      case atStart => exact ⟨0, rfl, Nat.zero_le _, Hbw.out⟩
      case round =>
        obtain ⟨k, rfl, hk, hbq⟩ := hrel
        by_cases hkn : k < n
        · have hkz : (k : Int) < (n : Int) := by omega
          obtain ⟨a, hA, hab, hcell⟩ := Hrd.out.addr (by omega)
          have hl := Hrd.out.1
          have hkl : k < zs.length := by simp at hl; omega
          have hck := (hbq.cell (p := a.add k) (by rw [add_block]; exact hab)).trans (hcell k (.int .i32 zs[k]) (by simp [hkl]))
          have Hbq := Lib.hid hbq
          have hs := hbq.size
          obtain ⟨x, hx⟩ : ∃ x, zs[k] = x := ⟨_, rfl⟩
          rw [hx] at hck
          subst hA
          clear hcell hl hx hbq
          go_wp2_with fail
          refine (p1 _ _).mono ?_
          rintro _ w2 ⟨rfl, b2⟩
          have B2 := Lib.hid b2
          have hs2 := b2.size
          clear b2
          go_wp2_with fail
          refine (p2 _ _).mono ?_
          rintro _ w3 ⟨rfl, b3⟩
          have B3 := Lib.hid b3
          clear b3
          go_wp2_with fail
          go_roundw
          case rel => exact ⟨k + 1, by go_num, by omega, Hbq.out.trans ((B2.out.mono (by omega)).trans (B3.out.mono (by omega)))⟩
          case measure => simp [RowKit.intOf]; omega
        · have Hbq := Lib.hid hbq
          have hs := hbq.size
          obtain rfl : k = n := by omega
          clear hbq
          go_wp2_with fail
          refine (works_any _).mono ?_
          rintro _ w3 ⟨rfl, b3⟩
          have B3 := Lib.hid b3
          clear b3
          go_wp2_with fail
          go_ret
          exact ⟨rfl, Hbq.out.trans (B3.out.mono (by omega))⟩
end Go.Proofs.Ythakdkpgobloiab
