/- FoldRunes, walked. -/
import Derived.Test.YtjkakemlhhieoaaDoorLetters5
set_option linter.unusedSimpArgs false
set_option linter.unusedVariables false
namespace Go.Proofs.YtjkakemlhhieoaaDoor
open Go.RowKit Go.Lib

theorem i32_wf5 (z : Int) (h : (Lit.int .i32 z).wf = true) : -2147483648 ≤ z ∧ z ≤ 2147483647 := by
  simp [Lit.wf, IntKind.min, IntKind.max, IntKind.signed, IntKind.bits] at h
  omega
set_option maxRecDepth 100000 in
set_option maxHeartbeats 2000000 in
theorem runes5_walk (s : ByteArray) (A : Option Addr) (n c : Nat) (zs : List Int) (w : World) (hrd : Rd w w.heap.size 1 A n (zs.map (Value.int .i32))) (hnc : n ≤ c) (hc : c ≤ maxLen) (hz : ∀ z ∈ zs, -2147483648 ≤ z ∧ z ≤ 2147483647) (hE : Env5 w) :
    Calls Tryd.prog 4 #[.string s, .slice A n c] w fun e w' => e = .returned (.bool true) ∧ Below w.heap.size w w' := by
  unfold maxLen at hc
  obtain ⟨I, hI⟩ : ∃ I, w.heap.size = I := ⟨_, rfl⟩
  have hzl : zs.length = n := by have := hrd.1; simpa using this
  have hit0 : (w.iter s 0).heap[I]? = some (.stringIter s 0) := by rw [← hI]; exact World.iter_heap w s 0
  have hb0 : Below I w (w.iter s 0) := by rw [← hI]; exact (Below.refl w.heap.size w).alloc (Nat.le_refl _) _
  have Hrd := Lib.hid hrd
  rw [hI] at Hrd
  have HE := Lib.hid hE
  have Hz := Lib.hid hz
  have Hzl := Lib.hid hzl
  have Hit0 := Lib.hid hit0
  have Hb0 := Lib.hid hb0
  have HI := Lib.hid hI
  rw [hI]
  clear hrd hE hz hzl hit0 hb0 hI
  go_enter Tryd.func4, Tryd.ntmps4
  go_wp2_with fail
  rw [HI.out]
  go_loopw [] (fun wr => ∃ (pos : Nat), wr.heap[I]? = some (.stringIter s pos) ∧ Below I w wr) (fun wr => s.size - wr.iterPos I)
  case atStart => exact ⟨0, Hit0.out, Hb0.out⟩
  case round =>
    obtain ⟨pos, hit, hbw⟩ := hrel
    by_cases hp : pos < s.size
    · have hnx : ∀ ty, (Instr.next (.pointer (some ⟨I, 0, none⟩)) true ty).run Tryd.prog wr = .ok (.tuple #[.bool true, .int .i64 pos, .int .i32 (Utf8.decode s pos).1]) (wr.iterAt I s (pos + (Utf8.decode s pos).2)) := fun ty => Lib.run_next_any_at wr I s pos ty hit hp
      have hpl : pos < s.data.toList.length := by rw [size_list]; exact hp
      have hf := (dec_facts _ (drop_ne _ _ hpl)).2.2.2.2.2.2
      have hd3 := dec_pos (s.data.toList.drop pos)
      rw [decode_dec s pos (by omega)] at hnx
      obtain ⟨d, hdd⟩ : ∃ d, dec (s.data.toList.drop pos) = d := ⟨_, rfl⟩
      rw [hdd] at hnx hf hd3
      have hitW := Lib.iterAt_heap wr I s pos (pos + d.2) hit
      have hbwW := Lib.below_iterAt hbw (k := I) (by omega) s (pos + d.2)
      have hposE := iterPos_at hit
      obtain ⟨V, hV⟩ : ∃ V, wr.iterAt I s (pos + d.2) = V := ⟨_, rfl⟩
      rw [hV] at hnx hitW hbwW
      have hlt := (Array.getElem?_eq_some_iff.1 hitW).1
      have HitW := Lib.hid hitW
      have HbwW := Lib.hid hbwW
      have HposE := Lib.hid hposE
      have HC := Lib.hid (letters5_walk (d.1 : Int) (by omega) (by omega) V (HE.out.below (by rw [HI.out]; exact hbwW)))
      clear hdd hV hitW hbwW hposE hit hbw hpl hf
      go_wp2_with fail
      refine HC.out.mono ?_
      rintro _ w2 ⟨rfl, b2⟩
      have hit2 := (b2.block I hlt).trans HitW.out
      have hfin : (∃ (pos : Nat), w2.heap[I]? = some (.stringIter s pos) ∧ Below I w w2) ∧ s.size - w2.iterPos I < s.size - wr.iterPos I :=
        ⟨⟨pos + d.2, hit2, HbwW.out.trans (b2.mono (by omega))⟩, by rw [iterPos_at hit2, HposE.out]; omega⟩
      have HF := Lib.hid hfin
      clear b2 hit2 hfin
      go_wp2_with fail
      exact HF.out
    · have hnx : ∀ ty, (Instr.next (.pointer (some ⟨I, 0, none⟩)) true ty).run Tryd.prog wr = _ := fun ty => Lib.run_next_end_at wr I s pos ty hit hp
      have HbW := Lib.hid hbw
      clear hit hbw
      go_wp2_with fail
      go_loopw [19] (fun i wq => ∃ k : Nat, k ≤ n ∧ i = .int .i64 (k : Int) ∧ Below I w wq) (fun i _ => n - (RowKit.intOf i).toNat)
      case atStart => exact ⟨0, Nat.zero_le _, rfl, HbW.out⟩
      case round =>
        obtain ⟨k, hk, rfl, hbq⟩ := hrel
        by_cases hkn : k < n
        · have hki : (k : Int) < (n : Int) := by omega
          have hkz : k < zs.length := by rw [Hzl.out]; exact hkn
          obtain ⟨a, rfl, hab, ha⟩ := Hrd.out.at_ (k := k) (by simpa using hkz)
          rw [List.getElem_map] at ha
          have hzb := Hz.out (zs[k]) (List.getElem_mem hkz)
          obtain ⟨z, hze⟩ : ∃ z, zs[k] = z := ⟨_, rfl⟩
          rw [hze] at ha hzb
          have ha2 := (hbq.cell (p := a.add k) (by rw [add_block]; exact hab)).trans ha
          have HC := Lib.hid (letters5_walk z hzb.1 hzb.2 wr (HE.out.below (by rw [HI.out]; exact hbq)))
          have Hbq := Lib.hid hbq
          have hsz : I ≤ wr.heap.size := by have := hbq.size; have := HI.out; omega
          clear hze ha hbq hkz
          go_wp2_with fail
          refine HC.out.mono ?_
          rintro _ w2 ⟨rfl, b2⟩
          have Hb2 := Lib.hid (Hbq.out.trans (b2.mono hsz))
          clear b2
          go_wp2_with fail
          go_roundw
          case rel => exact ⟨k + 1, by omega, by go_num, Hb2.out⟩
          case measure => simp [RowKit.intOf]; omega
        · obtain rfl : k = n := by omega
          have HC := Lib.hid (works5_any wr (HE.out.below (by rw [HI.out]; exact hbq)))
          have Hbq := Lib.hid hbq
          have hsz : I ≤ wr.heap.size := by have := hbq.size; have := HI.out; omega
          clear hbq
          go_wp2_with fail
          refine HC.out.mono ?_
          rintro _ w2 ⟨rfl, b2⟩
          have Hb2 := Lib.hid (Hbq.out.trans (b2.mono hsz))
          clear b2
          go_wp2_with fail
          go_ret
          exact ⟨rfl, Hb2.out⟩
end Go.Proofs.YtjkakemlhhieoaaDoor
