/- The document's answer: a text gone through, as a list; its last; its numbers; its bad bytes. -/
import Derived.Test.YtjkakemlhhieoaaGreatDoorRefCD
import Derived.Test.YtjkakemlhhieoaaGreatDoorScanG
import Derived.Test.YtjkakemlhhieoaaGreatDoorMem
import Derived.BigQuiet
import Derived.Deep.QuietTactic
set_option linter.unusedSimpArgs false
set_option linter.unusedVariables false
namespace Go.Proofs.YtjkakemlhhieoaaGreatDoor
open Go.RowKit Go.Lib

def one (at_ : Nat) (d : Nat × Nat) : List Value := [.int .i64 at_, .int .i32 d.1, .int .i64 d.2, .bool (badSeg d)]
def wsum : List (Nat × Nat) → Nat
  | [] => 0
  | d :: xs => d.2 + wsum xs
def ones : Nat → List (Nat × Nat) → List Value
  | _, [] => []
  | p, d :: xs => one p d ++ ones (p + d.2) xs
theorem wsum_snoc (xs : List (Nat × Nat)) (d : Nat × Nat) : wsum (xs ++ [d]) = wsum xs + d.2 := by
  induction xs with
  | nil => simp [wsum]
  | cons a t ih => simp [wsum, ih, Nat.add_assoc]
theorem ones_snoc (xs : List (Nat × Nat)) (d : Nat × Nat) : ∀ p, ones p (xs ++ [d]) = ones p xs ++ one (p + wsum xs) d := by
  induction xs with
  | nil => intro p; simp [ones, wsum]
  | cons a t ih => intro p; simp [ones, wsum, ih, Nat.add_assoc]
theorem ones_len (xs : List (Nat × Nat)) : ∀ p, (ones p xs).length = xs.length * 4 := by
  induction xs with
  | nil => intro p; rfl
  | cons a t ih => intro p; simp [ones, one, ih]; omega
theorem ones_at (xs : List (Nat × Nat)) : ∀ (p k : Nat) (h : k < xs.length), (ones p xs)[4 * k]? = some (.int .i64 ((p + wsum (xs.take k) : Nat) : Int)) ∧ (ones p xs)[4 * k + 1]? = some (.int .i32 (xs[k].1 : Int)) ∧
    (ones p xs)[4 * k + 2]? = some (.int .i64 (xs[k].2 : Int)) ∧ (ones p xs)[4 * k + 3]? = some (.bool (badSeg xs[k])) := by
  induction xs with
  | nil => intro p k h; simp at h
  | cons a t ih =>
    intro p k h
    cases k with
    | zero => simp [ones, one, wsum]
    | succ k =>
      obtain ⟨h1, h2, h3, h4⟩ := ih (p + a.2) k (by simpa using h)
      have e : ∀ j, (ones p (a :: t))[4 * (k + 1) + j]? = (ones (p + a.2) t)[4 * k + j]? := by
        intro j
        have hl : (one p a).length = 4 := rfl
        show (one p a ++ ones (p + a.2) t)[4 * (k + 1) + j]? = _
        rw [List.getElem?_append_right (by rw [hl]; omega), hl]
        congr 1
        omega
      have e0 := e 0
      simp only [Nat.add_zero] at e0
      refine ⟨?_, ?_, ?_, ?_⟩
      · rw [e0, h1]; simp [wsum, Nat.add_assoc]
      · rw [e 1, h2]; simp
      · rw [e 2, h3]; simp
      · rw [e 3, h4]; simp
theorem wsum_segs (l : List UInt8) : wsum (segs l) = l.length := by
  induction l using walk_ind with
  | h0 => rfl
  | h1 l h ih =>
    have := dec_le l h
    rw [segs_cons l h]
    simp only [wsum, ih, List.length_drop]
    omega

theorem one_info : (Tryz.prog.info? 64).map (fun i => (i.zero, i.size, i.bytes)) = some (some (.agg #[.int .i64 0, .int .i32 0, .int .i64 0, .bool false]), 4, 32) := by kernel_rfl
theorem rune_info : (Tryz.prog.info? 21).map (fun i => (i.zero, i.size, i.bytes)) = some (some (.int .i32 0), 1, 4) := by kernel_rfl
theorem int_info : (Tryz.prog.info? 3).map (fun i => (i.zero, i.size, i.bytes)) = some (some (.int .i64 0), 1, 8) := by kernel_rfl

def small (s : ByteArray) : Prop := s.size ≤ 1073741824

def AllAt (base : Nat) (l : List UInt8) (w : World) (e : Ending) (w' : World) : Prop := ∃ v, e = .returned v ∧ w'.ownsRow base 64 4 v (segs l).length (ones 0 (segs l)) ∧ Below base w w'

set_option maxRecDepth 100000 in
set_option maxHeartbeats 2000000 in
theorem all_any (s : ByteArray) (w : World) (hs : s.size ≤ 1073741824) : Calls Tryz.prog 54 #[.string s] w (AllAt w.heap.size s.data.toList w) := by
  obtain ⟨i0, hi, hz0, hz1, hz2⟩ := info_parts one_info
  have hl := size_list s
  have Hl := Lib.hid hl
  clear hl
  obtain ⟨B, hB⟩ : ∃ B, w.heap.size = B := ⟨_, rfl⟩
  have HB := Lib.hid hB
  have hBle : B ≤ w.heap.size := by omega
  rw [hB]
  clear hB
  go_enter Tryz.func54, Tryz.ntmps54
  go_wp2
  go_loopw [3, 4] (fun v p wr => ∃ (at_ : Nat) (P : List (Nat × Nat)), p = .int .i64 at_ ∧ wr.ownsRow B 64 4 v P.length (ones 0 P) ∧ Below B w wr ∧ Hid (wsum P = at_) ∧ Hid (P ++ segs (s.data.toList.drop at_) = segs s.data.toList) ∧ P.length ≤ at_ ∧ at_ ≤ s.size) (fun _ p _ => s.size - (RowKit.intOf p).toNat)
  case atStart => exact ⟨0, [], rfl, World.ownsRow_nil _ _ _ _, Below.refl _ _, rfl, by simp [Hid], Nat.le_refl _, Nat.zero_le _⟩
  case round =>
    obtain ⟨at_, P, rfl, hown, hbw, hsum, hseg, hP, hat⟩ := hrel
    by_cases hlt : at_ < s.size
    · have hd1 := segs_drop s.data.toList at_ (by rw [Hl.out]; exact hlt)
      have hd2 := next_le s.data.toList at_ (by rw [Hl.out]; exact hlt)
      have hd3 := dec_pos (s.data.toList.drop at_)
      have hnx : nxt (s.data.toList.drop at_) = dec (s.data.toList.drop at_) := by unfold nxt; rw [if_neg (drop_ne _ _ (by rw [Hl.out]; exact hlt))]
      rw [Hl.out] at hd2
      have hc := refNext_any (s.extract at_ s.size) wr (by unfold maxLen; simp; omega)
      rw [drop_list, hnx] at hc
      obtain ⟨d, hdd⟩ : ∃ d, dec (s.data.toList.drop at_) = d := ⟨_, rfl⟩
      rw [hdd] at hd1 hd2 hd3 hc
      have Hd1 := Lib.hid hd1
      have Hc := Lib.hid hc
      clear hd1 hc hdd hnx
      have hwB : B ≤ wr.heap.size := by have := hbw.size; omega
      have hcase : (((d.2 : Int) == 1) = true ∧ ((d.1 : Int) == 65533) = true ∧ badSeg d = true) ∨ (((d.2 : Int) == 1) = true ∧ ((d.1 : Int) == 65533) = false ∧ badSeg d = false) ∨ (((d.2 : Int) == 1) = false ∧ badSeg d = false) := by
        unfold badSeg
        by_cases e1 : d.2 = 1
        · by_cases e2 : d.1 = 65533
          · left; simp [e1, e2]
          · right; left
            refine ⟨by simp [e1], by rw [beq_eq_false_iff_ne]; omega, by simp [e2]⟩
        · right; right
          refine ⟨by rw [beq_eq_false_iff_ne]; omega, by simp [e1]⟩
      rcases hcase with ⟨c1, c2, c3⟩ | ⟨c1, c2, c3⟩ | ⟨c1, c3⟩
      · have C3 := Lib.hid c3
        clear c3
        go_wp2_with (first
          | (go_at_call 72; refine Hc.out.mono ?_; rintro e w1 ⟨rfl, hb1⟩; have hown1 := own_below hown hb1; have hw1 : B ≤ w1.heap.size := Nat.le_trans hwB hb1.size)
          | (at_builtin; refine wpList_append_own _ rfl _ _ 61 rfl B 64 i0 _ 4 32 Tryz.underlying61 hi hz0 hz1 hz2 rfl (by decide) _ _ _ rfl (hown1.alloc _) ⟨w1.heap.size, 0, none⟩ 1 1 [.int .i64 at_, .int .i32 d.1, .int .i64 d.2, .bool true] rfl rfl ?c1 ?c2 ?c3 ?c4 ?c5 ?_))
        case c1 => exact new_cells w1 [.int .i64 at_, .int .i32 d.1, .int .i64 d.2, .bool true] 64
        case c2 => simp [Value.oneCell']
        case c3 => unfold maxLen; omega
        case c4 => omega
        case c5 => simp; omega
        intro v' w2 hown2 hg2 _
        go_wp2
        go_roundw
        case rel =>
          refine ⟨at_ + d.2, P ++ [d], by go_num, ?_, ?_, ?_, ?_, by simp; omega, hd2⟩
          · rw [ones_snoc, Nat.zero_add, hsum.out]
            unfold one
            rw [C3.out]
            simpa using hown2
          · exact ((hbw.trans (hb1.mono hwB)).alloc hw1 _).grown hg2 (by simp; omega) (fun k hk => (hown.lt k hk).1)
          · unfold Hid
            rw [wsum_snoc, hsum.out]
          · unfold Hid
            rw [← hseg.out, Hd1.out]
            simp
        case measure => simp [RowKit.intOf]; omega
      · have C3 := Lib.hid c3
        clear c3
        go_wp2_with (first
          | (go_at_call 72; refine Hc.out.mono ?_; rintro e w1 ⟨rfl, hb1⟩; have hown1 := own_below hown hb1; have hw1 : B ≤ w1.heap.size := Nat.le_trans hwB hb1.size)
          | (at_builtin; refine wpList_append_own _ rfl _ _ 61 rfl B 64 i0 _ 4 32 Tryz.underlying61 hi hz0 hz1 hz2 rfl (by decide) _ _ _ rfl (hown1.alloc _) ⟨w1.heap.size, 0, none⟩ 1 1 [.int .i64 at_, .int .i32 d.1, .int .i64 d.2, .bool false] rfl rfl ?c1 ?c2 ?c3 ?c4 ?c5 ?_))
        case c1 => exact new_cells w1 [.int .i64 at_, .int .i32 d.1, .int .i64 d.2, .bool false] 64
        case c2 => simp [Value.oneCell']
        case c3 => unfold maxLen; omega
        case c4 => omega
        case c5 => simp; omega
        intro v' w2 hown2 hg2 _
        go_wp2
        go_roundw
        case rel =>
          refine ⟨at_ + d.2, P ++ [d], by go_num, ?_, ?_, ?_, ?_, by simp; omega, hd2⟩
          · rw [ones_snoc, Nat.zero_add, hsum.out]
            unfold one
            rw [C3.out]
            simpa using hown2
          · exact ((hbw.trans (hb1.mono hwB)).alloc hw1 _).grown hg2 (by simp; omega) (fun k hk => (hown.lt k hk).1)
          · unfold Hid
            rw [wsum_snoc, hsum.out]
          · unfold Hid
            rw [← hseg.out, Hd1.out]
            simp
        case measure => simp [RowKit.intOf]; omega
      · have C3 := Lib.hid c3
        clear c3
        go_wp2_with (first
          | (go_at_call 72; refine Hc.out.mono ?_; rintro e w1 ⟨rfl, hb1⟩; have hown1 := own_below hown hb1; have hw1 : B ≤ w1.heap.size := Nat.le_trans hwB hb1.size)
          | (at_builtin; refine wpList_append_own _ rfl _ _ 61 rfl B 64 i0 _ 4 32 Tryz.underlying61 hi hz0 hz1 hz2 rfl (by decide) _ _ _ rfl (hown1.alloc _) ⟨w1.heap.size, 0, none⟩ 1 1 [.int .i64 at_, .int .i32 d.1, .int .i64 d.2, .bool false] rfl rfl ?c1 ?c2 ?c3 ?c4 ?c5 ?_))
        case c1 => exact new_cells w1 [.int .i64 at_, .int .i32 d.1, .int .i64 d.2, .bool false] 64
        case c2 => simp [Value.oneCell']
        case c3 => unfold maxLen; omega
        case c4 => omega
        case c5 => simp; omega
        intro v' w2 hown2 hg2 _
        go_wp2
        go_roundw
        case rel =>
          refine ⟨at_ + d.2, P ++ [d], by go_num, ?_, ?_, ?_, ?_, by simp; omega, hd2⟩
          · rw [ones_snoc, Nat.zero_add, hsum.out]
            unfold one
            rw [C3.out]
            simpa using hown2
          · exact ((hbw.trans (hb1.mono hwB)).alloc hw1 _).grown hg2 (by simp; omega) (fun k hk => (hown.lt k hk).1)
          · unfold Hid
            rw [wsum_snoc, hsum.out]
          · unfold Hid
            rw [← hseg.out, Hd1.out]
            simp
        case measure => simp [RowKit.intOf]; omega
    · go_wp2
      go_ret
      have e := hseg.out
      rw [List.drop_of_length_le (by rw [Hl.out]; omega), segs_nil, List.append_nil] at e
      subst e
      exact ⟨_, rfl, hown, hbw⟩

end Go.Proofs.YtjkakemlhhieoaaGreatDoor
