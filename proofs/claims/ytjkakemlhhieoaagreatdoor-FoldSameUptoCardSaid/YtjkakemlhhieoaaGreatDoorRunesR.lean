/- The document's answer: the numbers of a text. -/
import Derived.Test.YtjkakemlhhieoaaGreatDoorRefE
import Derived.Test.YtjkakemlhhieoaaGreatDoorRefT
import Derived.Test.YtjkakemlhhieoaaGreatDoorScanG
set_option linter.unusedSimpArgs false
set_option linter.unusedVariables false
namespace Go.Proofs.YtjkakemlhhieoaaGreatDoor
open Go.RowKit Go.Lib

theorem add_one4 (a : Addr) : a.add 1 = ⟨a.block, a.off + 1, none⟩ := rfl
theorem take_runes (l : List UInt8) (k : Nat) (h : k < (segs l).length) : runeCells' ((runesOf l).take (k + 1)) = runeCells' ((runesOf l).take k) ++ [.int .i32 ((segs l)[k].1 : Int)] := by
  unfold runeCells' runesOf
  rw [List.take_succ_eq_append_getElem (by simpa using h)]
  simp

set_option maxRecDepth 100000 in
set_option maxHeartbeats 2000000 in
theorem refRunes_any (s : ByteArray) (w : World) (hs : s.size ≤ 1073741824) : Calls Tryz.prog 107 #[.string s] w fun e w' =>
    ∃ v, e = .returned v ∧ w'.ownsRow w.heap.size 21 1 v (runesOf s.data.toList).length (runeCells' (runesOf s.data.toList)) ∧ Below w.heap.size w w' := by
  obtain ⟨i0, hi, hz0, hz1, hz2⟩ := info_parts rune_info
  have hall := Lib.hid (all_any s w hs)
  have hnl : (segs s.data.toList).length ≤ s.size := by rw [← size_list]; exact segs_len _
  obtain ⟨l, hl⟩ : ∃ l, s.data.toList = l := ⟨_, rfl⟩
  unfold AllAt at hall
  rw [hl] at hall hnl ⊢
  obtain ⟨n, hn⟩ : ∃ n, (segs l).length = n := ⟨_, rfl⟩
  rw [hn] at hall hnl
  have Hn := Lib.hid hn
  have Hrl : Hid ((runesOf l).length = n) := by unfold Hid runesOf; rw [List.length_map, hn]
  obtain ⟨B, hB⟩ : ∃ B, w.heap.size = B := ⟨_, rfl⟩
  have HB := Lib.hid hB
  rw [hB] at hall ⊢
  clear hn hl hB
  go_enter Tryz.func107, Tryz.ntmps107
  go_wp2_with fail
  refine hall.out.mono ?_
  rintro e w1 ⟨v0, rfl, hown0, hb0⟩
  obtain ⟨A, c0, rfl, _, _⟩ := own_shape hown0
  have R0 := Lib.hid (Rd.own hown0)
  have Hb0 := Lib.hid hb0
  have HB1 : Hid (B ≤ w1.heap.size) := by have := hb0.size; have := HB.out; unfold Hid; omega
  clear hown0 hb0
  go_wp2_with fail
  go_loopw [4, 5] (fun v i wr => ∃ k : Nat, k ≤ n ∧ i = .int .i64 k ∧ wr.ownsRow w1.heap.size 21 1 v k (runeCells' ((runesOf l).take k)) ∧ Below w1.heap.size w1 wr) (fun _ i _ => n - (RowKit.intOf i).toNat)
  case atStart => exact ⟨0, Nat.zero_le _, rfl, World.ownsRow_nil _ _ _ _, Below.refl _ _⟩
  case round =>
    obtain ⟨k, hk, rfl, hown, hbw⟩ := hrel
    by_cases hkn : k < n
    · have hkz : k < (segs l).length := by rw [Hn.out]; exact hkn
      obtain ⟨a, rfl, _, ha⟩ := (R0.out.below hbw).addr (by omega)
      have hc := ha _ _ (ones_at (segs l) 0 k hkz).2.1
      have Htk := Lib.hid (take_runes l k hkz)
      obtain ⟨r, hr⟩ : ∃ r, (segs l)[k].1 = r := ⟨_, rfl⟩
      rw [hr] at hc Htk
      rw [Nat.mul_comm 4 k, ← add_sum, add_one4] at hc
      have Hown := Lib.hid hown
      have Hbw := Lib.hid hbw
      clear ha hr hkz hown hbw
      have HwB : Hid (w1.heap.size ≤ wr.heap.size) := Hbw.out.size
      go_wp2_with (at_builtin; refine wpList_append_own _ rfl _ _ 92 rfl w1.heap.size 21 i0 _ 1 4 Tryz.underlying92 hi hz0 hz1 hz2 rfl (by decide) _ _ _ rfl (Hown.out.alloc _) ⟨wr.heap.size, 0, none⟩ 1 1 [.int .i32 r] rfl rfl ?c1 ?c2 ?c3 ?c4 ?c5 ?_)
      case c1 => exact new_cells wr [.int .i32 r] 21
      case c2 => simp [Value.oneCell']
      case c3 => unfold maxLen; omega
      case c4 => omega
      case c5 => have := HwB.out; simp; omega
      intro v' w2 hown2 hg2 _
      have Hown2 := Lib.hid hown2
      clear hown2
      go_wp2
      go_roundw
      case rel =>
        refine ⟨k + 1, by omega, by go_num, ?_, (Hbw.out.alloc HwB.out _).grown hg2 (by have := HwB.out; simp; omega) (fun k hk => (Hown.out.lt k hk).1)⟩
        rw [Htk.out]
        exact Hown2.out
      case measure => simp [RowKit.intOf]; omega
    · obtain rfl : k = n := by omega
      rw [List.take_of_length_le (by rw [Hrl.out]; exact Nat.le_refl _)] at hown
      go_wp2_with fail
      go_ret
      refine ⟨_, rfl, ?_, Hb0.out.trans (hbw.mono HB1.out)⟩
      rw [Hrl.out]
      exact own_base hown HB1.out

end Go.Proofs.YtjkakemlhhieoaaGreatDoor
