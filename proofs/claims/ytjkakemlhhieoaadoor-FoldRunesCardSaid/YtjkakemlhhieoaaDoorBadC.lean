/- The program's package scan: the places of the bad bytes. -/
import Derived.Test.YtjkakemlhhieoaaDoorScanG
import Derived.Test.YtjkakemlhhieoaaDoorRefE
import Derived.Test.YtjkakemlhhieoaaDoorNumP
import Derived.Test.YtjkakemlhhieoaaDoorMem
set_option linter.unusedSimpArgs false
set_option linter.unusedVariables false
namespace Go.Proofs.YtjkakemlhhieoaaDoor
open Go.RowKit Go.Lib

def badPos : Nat → List (Nat × Nat) → List Nat
  | _, [] => []
  | p, d :: xs => (if badSeg d = true then [p] else []) ++ badPos (p + d.2) xs
def badsOf (l : List UInt8) : List Nat := badPos 0 (segs l)
def posCells (ps : List Nat) : List Value := ps.map fun (p : Nat) => Value.int .i64 (p : Int)

theorem own_iterAtC {w : World} {base : Nat} {e : TypeId} {size : Nat} {v : Value} {n : Nat} {xs : List Value} (h : w.ownsRow base e size v n xs) {k : Nat} (hk : k < base) (s : ByteArray) (pos : Nat) : (w.iterAt k s pos).ownsRow base e size v n xs := by
  refine ⟨h.1, ?_⟩
  rcases h.2 with h0 | ⟨g, cap, cur, hv, hg, hh, r⟩
  · exact .inl h0
  · exact .inr ⟨g, cap, cur, hv, hg, (iterAt_other w k g s pos (by omega)).trans hh, r⟩
theorem iterPos_atC {w : World} {k : Nat} {s : ByteArray} {p : Nat} (h : w.heap[k]? = some (.stringIter s p)) : w.iterPos k = p := by simp [World.iterPos, h]

set_option maxRecDepth 100000 in
set_option maxHeartbeats 2000000 in
theorem bad_any (s : ByteArray) (w : World) (hs : s.size ≤ 1073741824) : Calls Tryd.prog 41 #[.string s] w fun e w' =>
    ∃ v, e = .returned v ∧ w'.ownsRow w.heap.size 3 1 v (badsOf s.data.toList).length (posCells (badsOf s.data.toList)) ∧ Below w.heap.size w w' := by
  obtain ⟨i0, hi, hz0, hz1, hz2⟩ := info_parts int_info
  have hl := size_list s
  have Hl := Lib.hid hl
  clear hl
  obtain ⟨B, hB⟩ : ∃ B, w.heap.size = B := ⟨_, rfl⟩
  have HB := Lib.hid hB
  have hBle : B ≤ w.heap.size := by omega
  have hit0 : (w.iter s 0).heap[B]? = some (.stringIter s 0) := by rw [← hB]; exact World.iter_heap w s 0
  have hb0 : Below B w (w.iter s 0) := (Below.refl _ w).alloc (by omega) _
  rw [hB]
  have Hb0 := Lib.hid hb0
  have Hit0 := Lib.hid hit0
  clear hb0 hit0
  go_enter Tryd.func41, Tryd.ntmps41
  go_wp2
  clear hB
  go_loopw [3] (fun v wr => ∃ (pos : Nat) (bs : List Nat), wr.heap[B]? = some (.stringIter s pos) ∧ wr.ownsRow (B + 1) 3 1 v bs.length (posCells bs) ∧ Below B w wr ∧ Hid (bs ++ badPos pos (segs (s.data.toList.drop pos)) = badsOf s.data.toList) ∧ bs.length ≤ pos ∧ pos ≤ s.size) (fun _ wr => s.size - wr.iterPos B)
  case atStart => exact ⟨0, [], Hit0.out, World.ownsRow_nil _ _ _ _, Hb0.out, by simp [Hid, badsOf], Nat.le_refl _, Nat.zero_le _⟩
  case round =>
    obtain ⟨pos, bs, hit, hown, hbw, hseg, hbl, hp0⟩ := hrel
    by_cases hp : pos < s.size
    · have hd := decode_dec s pos hp0
      have hd1 := segs_drop s.data.toList pos (by rw [Hl.out]; exact hp)
      have hd2 := next_le s.data.toList pos (by rw [Hl.out]; exact hp)
      have hd3 := dec_pos (s.data.toList.drop pos)
      have hbad := badB_dec (s.data.toList.drop pos) (drop_ne _ _ (by rw [Hl.out]; exact hp))
      rw [Hl.out] at hd2
      obtain ⟨d, hdd⟩ : ∃ d, dec (s.data.toList.drop pos) = d := ⟨_, rfl⟩
      rw [hdd] at hd hd1 hd2 hd3 hbad
      have hnx : ∀ ty, (Instr.next (.pointer (some ⟨B, 0, none⟩)) true ty).run Tryd.prog wr = .ok (.tuple #[.bool true, .int .i64 pos, .int .i32 d.1]) (wr.iterAt B s (pos + d.2)) := fun ty => by
        rw [Lib.run_next_any_at wr B s pos ty hit hp, hd]
      have his := fun W : World => isBad_any (s.extract pos s.size) d.1 W
      rw [drop_list, hbad] at his
      have hlt : B < wr.heap.size := (Array.getElem?_eq_some_iff.1 hit).1
      have hit2 := Lib.hid (Lib.iterAt_heap wr B s pos (pos + d.2) hit)
      have hown2 := Lib.hid (own_iterAtC hown (Nat.lt_succ_self B) s (pos + d.2))
      have hbw2 := Lib.hid (Lib.below_iterAt hbw (Nat.le_refl B) s (pos + d.2))
      have hlt2 : B < (wr.iterAt B s (pos + d.2)).heap.size := by rw [Lib.iterAt_size]; exact hlt
      have Hpos := Lib.hid (iterPos_atC hit)
      have Hd1 := Lib.hid hd1
      have His := Lib.hid his
      have Hown := Lib.hid hown
      clear hd1 hd hdd hbad his hit hown hlt
      obtain ⟨w1, hw1⟩ : ∃ w1, wr.iterAt B s (pos + d.2) = w1 := ⟨_, rfl⟩
      rw [hw1] at hnx hit2 hown2 hbw2 hlt2
      clear hw1
      cases hb : badSeg d with
      | true =>
        rw [hb] at His
        have Hb := Lib.hid hb
        clear hb
        go_wp2_with (first
          | (go_at_call 62; refine (His.out _).mono ?_; rintro e w' ⟨rfl, rfl⟩)
          | (at_builtin; refine wpList_append_own _ rfl _ _ 61 rfl (B + 1) 3 i0 _ 1 8 Tryd.underlying61 hi hz0 hz1 hz2 rfl (by decide) _ _ _ rfl (hown2.out.alloc _) ⟨w1.heap.size, 0, none⟩ 1 1 [.int .i64 pos] rfl rfl ?c1 ?c2 ?c3 ?c4 ?c5 ?_))
        case c1 => exact new_cells w1 [.int .i64 pos] 3
        case c2 => simp [Value.oneCell']
        case c3 => unfold maxLen; omega
        case c4 => omega
        case c5 => simp; omega
        intro v' w2 hown3 hg2 _
        have hit3 : w2.heap[B]? = some (.stringIter s (pos + d.2)) := by
          rw [hg2.block B (by simp; omega) (fun e => by have := (hown2.out.lt _ e.symm).1; omega)]
          exact (Below.heap_alloc w1 _ B hlt2).trans hit2.out
        have Hit3 := Lib.hid hit3
        clear hit3
        go_wp2
        go_roundw
        case rel =>
          refine ⟨pos + d.2, bs ++ [pos], Hit3.out, ?_, ?_, ?_, by simp; omega, hd2⟩
          · unfold posCells
            rw [List.map_append, List.length_append]
            exact hown3
          · exact (hbw2.out.alloc (by omega) _).grown hg2 (by simp; omega) (fun k hk => by have := (hown2.out.lt k hk).1; omega)
          · unfold Hid
            rw [← hseg.out, Hd1.out]
            simp [badPos, Hb.out]
        case measure =>
          rw [Hpos.out, iterPos_atC Hit3.out]
          omega
      | false =>
        rw [hb] at His
        have Hb := Lib.hid hb
        clear hb
        go_wp2_with (go_at_call 62; refine (His.out _).mono ?_; rintro e w' ⟨rfl, rfl⟩)
        go_roundw
        case rel =>
          refine ⟨pos + d.2, bs, hit2.out, hown2.out, hbw2.out, ?_, by omega, hd2⟩
          unfold Hid
          rw [← hseg.out, Hd1.out]
          simp [badPos, Hb.out]
        case measure =>
          rw [Hpos.out, iterPos_atC hit2.out]
          omega
    · have hnx : ∀ ty, (Instr.next (.pointer (some ⟨B, 0, none⟩)) true ty).run Tryd.prog wr = _ := fun ty => Lib.run_next_end_at wr B s pos ty hit hp
      go_wp2
      go_ret
      have e := hseg.out
      rw [List.drop_of_length_le (by rw [Hl.out]; omega), segs_nil] at e
      simp only [badPos, List.append_nil] at e
      subst e
      exact ⟨_, rfl, own_base hown (Nat.le_succ B), hbw⟩

def cleanL (l : List UInt8) : ByteArray := runesBytes ((runesOf l).map fun (r : Nat) => (r : Int))
end Go.Proofs.YtjkakemlhhieoaaDoor
