/- The document's answer: the numbers of a text; the places of its bad bytes; a text made clean. -/
import Derived.Test.YtjoilamikdbnpaaDoorRefE
import Derived.Test.YtjoilamikdbnpaaDoorRefT
import Derived.Test.YtjoilamikdbnpaaDoorScanD
namespace Go.Proofs.YtjoilamikdbnpaaDoor
open Go.RowKit Go.Lib

theorem add_one' (a : Addr) : a.add 1 = ⟨a.block, a.off + 1, none⟩ := rfl
theorem take_runes (l : List UInt8) (k : Nat) (h : k < (segs l).length) : runeCells' ((runesOf l).take (k + 1)) = runeCells' ((runesOf l).take k) ++ [.int .i32 ((segs l)[k].1 : Int)] := by
  unfold runeCells' runesOf
  rw [List.take_succ_eq_append_getElem (by simpa using h)]
  simp

set_option maxRecDepth 100000 in
set_option maxHeartbeats 2000000 in
theorem refRunes_any (s : ByteArray) (w : World) (hs : s.size ≤ 1073741824) : Calls Tryd.prog 22 #[.string s] w fun e w' =>
    ∃ v, e = .returned v ∧ w'.ownsRow w.heap.size 21 1 v (runesOf s.data.toList).length (runeCells' (runesOf s.data.toList)) ∧ Below w.heap.size w w' := by
  obtain ⟨i0, hi, hz0, hz1, hz2⟩ := info_parts rune_info
  have hall := Lib.hid (all_any s w hs)
  have hnl : (segs s.data.toList).length ≤ s.size := by rw [← size_list]; exact segs_len _
  obtain ⟨l, hl⟩ : ∃ l, s.data.toList = l := ⟨_, rfl⟩
  unfold AllAt at hall
  rw [hl] at hall hnl ⊢
  obtain ⟨n, hn⟩ : ∃ n, (segs l).length = n := ⟨_, rfl⟩
  rw [hn] at hall hnl
  have Hn := Lib.hid hn
  have Hrl : Hid ((runesOf l).length = n) := by unfold Hid runesOf; rw [List.length_map, hn]
  obtain ⟨B, hB⟩ : ∃ B, w.heap.size = B := ⟨_, rfl⟩
  have HB := Lib.hid hB
  rw [hB] at hall ⊢
  clear hn hl hB
  go_enter Tryd.func22, Tryd.ntmps22
  go_wp2_with fail
  refine hall.out.mono ?_
  rintro e w1 ⟨v0, rfl, hown0, hb0⟩
  obtain ⟨A, c0, rfl, _, _⟩ := own_shape hown0
  have R0 := Lib.hid (Rd.own hown0)
  have Hb0 := Lib.hid hb0
  have HB1 : Hid (B ≤ w1.heap.size) := by have := hb0.size; have := HB.out; unfold Hid; omega
  clear hown0 hb0
  go_wp2_with fail
  go_loopw [4, 5] (fun v i wr => ∃ k : Nat, k ≤ n ∧ i = .int .i64 k ∧ wr.ownsRow w1.heap.size 21 1 v k (runeCells' ((runesOf l).take k)) ∧ Below w1.heap.size w1 wr) (fun _ i _ => n - (RowKit.intOf i).toNat)
  case atStart => exact ⟨0, Nat.zero_le _, rfl, World.ownsRow_nil _ _ _ _, Below.refl _ _⟩
  case round =>
    obtain ⟨k, hk, rfl, hown, hbw⟩ := hrel
    by_cases hkn : k < n
    · have hkz : k < (segs l).length := by rw [Hn.out]; exact hkn
      obtain ⟨a, rfl, _, ha⟩ := (R0.out.below hbw).addr (by omega)
      have hc := ha _ _ (ones_at (segs l) 0 k hkz).2.1
      have Htk := Lib.hid (take_runes l k hkz)
      obtain ⟨r, hr⟩ : ∃ r, (segs l)[k].1 = r := ⟨_, rfl⟩
      rw [hr] at hc Htk
      rw [Nat.mul_comm 4 k, ← add_sum, add_one'] at hc
      have Hown := Lib.hid hown
      have Hbw := Lib.hid hbw
      clear ha hr hkz hown hbw
      have HwB : Hid (w1.heap.size ≤ wr.heap.size) := Hbw.out.size
      go_wp2_with (at_builtin; refine wpList_append_own _ rfl _ _ 28 rfl w1.heap.size 21 i0 _ 1 4 Tryd.underlying28 hi hz0 hz1 hz2 rfl (by decide) _ _ _ rfl (Hown.out.alloc _) ⟨wr.heap.size, 0, none⟩ 1 1 [.int .i32 r] rfl rfl ?c1 ?c2 ?c3 ?c4 ?c5 ?_)
      case c1 => exact new_cells wr [.int .i32 r] 21
      case c2 => simp [Value.oneCell']
      case c3 => unfold maxLen; omega
      case c4 => omega
      case c5 => have := HwB.out; simp; omega
      intro v' w2 hown2 hg2 _
      have Hown2 := Lib.hid hown2
      clear hown2
      go_wp2
      go_roundw
      case rel =>
        refine ⟨k + 1, by omega, by go_num, ?_, (Hbw.out.alloc HwB.out _).grown hg2 (by have := HwB.out; simp; omega) (fun k hk => (Hown.out.lt k hk).1)⟩
        rw [Htk.out]
        exact Hown2.out
      case measure => simp [RowKit.intOf]; omega
    · obtain rfl : k = n := by omega
      rw [List.take_of_length_le (by rw [Hrl.out]; exact Nat.le_refl _)] at hown
      go_wp2_with fail
      go_ret
      refine ⟨_, rfl, ?_, Hb0.out.trans (hbw.mono HB1.out)⟩
      rw [Hrl.out]
      exact own_base hown HB1.out

theorem badPos_snoc (xs : List (Nat × Nat)) (d : Nat × Nat) : ∀ p, badPos p (xs ++ [d]) = badPos p xs ++ (if badSeg d = true then [p + wsum xs] else []) := by
  induction xs with
  | nil => intro p; simp [badPos, wsum]
  | cons a t ih => intro p; simp [badPos, wsum, ih, Nat.add_assoc]
theorem take_bads (l : List UInt8) (k : Nat) (h : k < (segs l).length) : badPos 0 ((segs l).take (k + 1)) = badPos 0 ((segs l).take k) ++ (if badSeg (segs l)[k] = true then [wsum ((segs l).take k)] else []) := by
  rw [List.take_succ_eq_append_getElem h, badPos_snoc, Nat.zero_add]
theorem badPos_len (xs : List (Nat × Nat)) : ∀ p, (badPos p xs).length ≤ xs.length := by
  induction xs with
  | nil => intro p; exact Nat.le_refl _
  | cons a t ih =>
    intro p
    have := ih (p + a.2)
    unfold badPos
    split <;> simp <;> omega

set_option maxRecDepth 100000 in
set_option maxHeartbeats 2000000 in
theorem refBad_any (s : ByteArray) (w : World) (hs : s.size ≤ 1073741824) : Calls Tryd.prog 21 #[.string s] w fun e w' =>
    ∃ v, e = .returned v ∧ w'.ownsRow w.heap.size 3 1 v (badsOf s.data.toList).length (posCells (badsOf s.data.toList)) ∧ Below w.heap.size w w' := by
  obtain ⟨i0, hi, hz0, hz1, hz2⟩ := info_parts int_info
  have hall := Lib.hid (all_any s w hs)
  have hnl : (segs s.data.toList).length ≤ s.size := by rw [← size_list]; exact segs_len _
  obtain ⟨l, hl⟩ : ∃ l, s.data.toList = l := ⟨_, rfl⟩
  unfold AllAt at hall
  rw [hl] at hall hnl ⊢
  obtain ⟨n, hn⟩ : ∃ n, (segs l).length = n := ⟨_, rfl⟩
  rw [hn] at hall hnl
  have Hn := Lib.hid hn
  obtain ⟨B, hB⟩ : ∃ B, w.heap.size = B := ⟨_, rfl⟩
  have HB := Lib.hid hB
  rw [hB] at hall ⊢
  clear hn hl hB
  go_enter Tryd.func21, Tryd.ntmps21
  go_wp2_with fail
  refine hall.out.mono ?_
  rintro e w1 ⟨v0, rfl, hown0, hb0⟩
  obtain ⟨A, c0, rfl, _, _⟩ := own_shape hown0
  have R0 := Lib.hid (Rd.own hown0)
  have Hb0 := Lib.hid hb0
  have HB1 : Hid (B ≤ w1.heap.size) := by have := hb0.size; have := HB.out; unfold Hid; omega
  clear hown0 hb0
  go_wp2_with fail
  go_loopw [4, 5] (fun v i wr => ∃ k : Nat, k ≤ n ∧ i = .int .i64 k ∧ wr.ownsRow w1.heap.size 3 1 v (badPos 0 ((segs l).take k)).length (posCells (badPos 0 ((segs l).take k))) ∧ Below w1.heap.size w1 wr) (fun _ i _ => n - (RowKit.intOf i).toNat)
  case atStart => exact ⟨0, Nat.zero_le _, rfl, World.ownsRow_nil _ _ _ _, Below.refl _ _⟩
  case round =>
    obtain ⟨k, hk, rfl, hown, hbw⟩ := hrel
    by_cases hkn : k < n
    · have hkz : k < (segs l).length := by rw [Hn.out]; exact hkn
      obtain ⟨a, rfl, _, ha⟩ := (R0.out.below hbw).addr (by omega)
      have hc := ha _ _ (ones_at (segs l) 0 k hkz).1
      have hc3 := ha _ _ (ones_at (segs l) 0 k hkz).2.2.2
      have Htk := Lib.hid (take_bads l k hkz)
      have hbl : (badPos 0 ((segs l).take k)).length ≤ k := Nat.le_trans (badPos_len _ _) (List.length_take_le _ _)
      obtain ⟨b, hb⟩ : ∃ b, badSeg (segs l)[k] = b := ⟨_, rfl⟩
      obtain ⟨p, hp⟩ : ∃ p, wsum ((segs l).take k) = p := ⟨_, rfl⟩
      obtain ⟨bs, hbs⟩ : ∃ bs, badPos 0 ((segs l).take k) = bs := ⟨_, rfl⟩
      rw [hb] at hc3
      rw [hp, Nat.zero_add] at hc
      rw [hb, hp, hbs] at Htk
      rw [hbs] at hown hbl
      rw [Nat.mul_comm 4 k, ← add_sum, show (a.add (k * 4)).add 3 = ⟨(a.add (k * 4)).block, (a.add (k * 4)).off + 3, none⟩ from rfl] at hc3
      rw [Nat.mul_comm 4 k] at hc
      have hspot := World.cell?_spot hc
      have hc : wr.cell? ⟨(a.add (k * 4)).block, (a.add (k * 4)).off, none⟩ = some (.int .i64 (p : Int)) := by
        obtain ⟨x, hx⟩ : ∃ x, a.add (k * 4) = x := ⟨_, rfl⟩
        rw [hx] at hc hspot ⊢
        cases x
        simp only at hspot
        subst hspot
        exact hc
      have Hown := Lib.hid hown
      have Hbw := Lib.hid hbw
      have HwB : Hid (w1.heap.size ≤ wr.heap.size) := Hbw.out.size
      clear ha hb hp hbs hkz hown hbw hspot
      cases b with
      | true =>
        go_wp2_with (at_builtin; refine wpList_append_own _ rfl _ _ 26 rfl w1.heap.size 3 i0 _ 1 8 Tryd.underlying26 hi hz0 hz1 hz2 rfl (by decide) _ _ _ rfl (Hown.out.alloc _) ⟨wr.heap.size, 0, none⟩ 1 1 [.int .i64 p] rfl rfl ?c1 ?c2 ?c3 ?c4 ?c5 ?_)
        try (case c1 => exact new_cells wr [.int .i64 p] 3)
        case c2 => simp [Value.oneCell']
        case c3 => unfold maxLen; omega
        case c4 => omega
        case c5 => have := HwB.out; simp; omega
        intro v' w2 hown2 hg2 _
        have Hown2 := Lib.hid hown2
        clear hown2
        go_wp2
        go_roundw
        case rel =>
          refine ⟨k + 1, by omega, by go_num, ?_, (Hbw.out.alloc HwB.out _).grown hg2 (by have := HwB.out; simp; omega) (fun k hk => (Hown.out.lt k hk).1)⟩
          rw [Htk.out]
          unfold posCells
          simp only [if_true, List.map_append, List.length_append]
          exact Hown2.out
        case measure => simp [RowKit.intOf]; omega
      | false =>
        go_wp2
        go_roundw
        case rel =>
          refine ⟨k + 1, by omega, by go_num, ?_, Hbw.out⟩
          rw [Htk.out]
          simp only [if_false, Bool.false_eq_true, List.append_nil]
          exact Hown.out
        case measure => simp [RowKit.intOf]; omega
    · obtain rfl : k = n := by omega
      rw [List.take_of_length_le (by rw [Hn.out]; exact Nat.le_refl _)] at hown
      go_wp2_with fail
      go_ret
      exact ⟨_, rfl, own_base hown HB1.out, Hb0.out.trans (hbw.mono HB1.out)⟩

theorem refClean_any (s : ByteArray) (w : World) (hs : s.size ≤ 1073741824) : Calls Tryd.prog 30 #[.string s] w fun e w' => e = .returned (.string (cleanL s.data.toList)) ∧ Below w.heap.size w w' := by
  have Hr := Lib.hid (refRunes_any s w hs)
  have hcell : runeCells' (runesOf s.data.toList) = ((runesOf s.data.toList).map fun (r : Nat) => (r : Int)).map (Value.int .i32) := by unfold runeCells'; simp
  have Hcell := Lib.hid hcell
  have Hnl : Hid ((runesOf s.data.toList).length ≤ s.size) := by unfold Hid runesOf; rw [List.length_map, ← size_list]; exact segs_len _
  clear hcell
  go_enter Tryd.func30, Tryd.ntmps30
  go_wp2_with fail
  refine Hr.out.mono ?_
  rintro e w1 ⟨v, rfl, hown, hb⟩
  obtain ⟨A, c, rfl, _, _⟩ := own_shape hown
  rw [Hcell.out] at hown
  have HR := Lib.hid (Rd.own hown)
  clear hown
  go_wp2_with fail
  refine (refText_any w1 A _ c _ HR.out (by have := Hnl.out; omega)).mono ?_
  rintro e w2 ⟨rfl, hb2⟩
  go_wp2_with fail
  go_ret
  exact ⟨rfl, hb.trans (hb2.mono hb.size)⟩

end Go.Proofs.YtjoilamikdbnpaaDoor
