/- The document's Back: the list turned round. -/
import Derived.Test.YtkbhgkbhajmjiaaDoorGoes
namespace Go.Proofs.YtkbhgkbhajmjiaaDoor
open Go.RowKit Go.Shelf Go.Lib

theorem wsum_total : ∀ l : List (Nat × Nat), wsum l = total l
  | [] => rfl
  | d :: t => by simp [wsum, wsum_total t, total]
theorem ones_place (s : ByteArray) {j : Nat} {x : Nat × Nat} (h : (places s)[j]? = some x) :
    ∃ n b, (ones 0 (segs s.data.toList))[4 * j]? = some (.int .i64 (x.1 : Int)) ∧ (ones 0 (segs s.data.toList))[4 * j + 1]? = some (.int .i32 (x.2 : Int)) ∧ (ones 0 (segs s.data.toList))[4 * j + 2]? = some (.int .i64 n) ∧ (ones 0 (segs s.data.toList))[4 * j + 3]? = some (.bool b) := by
  have hj : j < (segs s.data.toList).length := by rw [← places_len]; exact (List.getElem?_eq_some_iff.1 h).1
  obtain ⟨h1, h2, h3⟩ := segs_at s.data.toList j hj
  obtain ⟨q1, q2, q3, q4⟩ := ones_at (segs s.data.toList) 0 j hj
  obtain ⟨_, _, hx, _⟩ := place_at s h
  have hd : (segs s.data.toList)[j] = dec (s.data.toList.drop (placeAt s j)) := by
    rw [List.getElem?_eq_getElem hj] at h2
    exact Option.some.inj h2
  rw [hd] at q2
  rw [wsum_total, Nat.zero_add] at q1
  subst hx
  exact ⟨_, _, q1, q2, q3, q4⟩
theorem all_list (s : ByteArray) {j : Nat} {x : Nat × Nat} (h : (places s)[j]? = some x) : (ones 0 (segs s.data.toList))[4 * j]? = some (.int .i64 (x.1 : Int)) ∧ (ones 0 (segs s.data.toList))[4 * j + 1]? = some (.int .i32 (x.2 : Int)) := by
  obtain ⟨_, _, h1, h2, _⟩ := ones_place s h
  exact ⟨h1, h2⟩

set_option maxRecDepth 100000 in
set_option maxHeartbeats 2000000 in
theorem refBack_any (s : ByteArray) (w : World) (hs : s.size ≤ 1073741824) : Calls Tryd.prog 34 #[.string s] w fun e w' => ∃ v xs, e = .returned v ∧ w'.ownsRow w.heap.size 43 4 v (places s).length xs ∧
    (∀ j x, (places s).reverse[j]? = some x → xs[4 * j]? = some (.int .i64 (x.1 : Int)) ∧ xs[4 * j + 1]? = some (.int .i32 (x.2 : Int))) ∧ Below w.heap.size w w' := by
  obtain ⟨i0, hi, hz0, hz1, hz2⟩ := info_parts one_info
  have Hall := Lib.hid (all_any s w hs)
  obtain ⟨m, hm⟩ : ∃ m, (places s).length = m := ⟨_, rfl⟩
  have hms : m ≤ 1073741824 := by
    have := segs_len s.data.toList
    rw [size_list] at this
    rw [← hm, places_len]
    omega
  have hplace := fun (j : Nat) (x : Nat × Nat) (h : (places s)[j]? = some x) => ones_place s h
  have Hplace := Lib.hid hplace
  have Hm := Lib.hid hm
  rw [hm]
  clear hplace hm
  go_enter Tryd.func34, Tryd.ntmps34
  go_wp2_with fail
  refine Hall.out.mono ?_
  rintro e w1 ⟨v, rfl, hown, hb⟩
  rw [← places_len, Hm.out] at hown
  obtain ⟨A, c, rfl, hnc, hcx⟩ := own_shape hown
  obtain ⟨B, hB⟩ : ∃ B, w1.heap.size = B := ⟨_, rfl⟩
  have hw0 : IntKind.i64.wrap ((m : Int) - 1) = (m : Int) - 1 := IntWalk.i64_in _ (by omega)
  have Hown := Lib.hid hown
  have Hb := Lib.hid hb
  clear hown hb
  go_wp2_with fail
  go_loopw [4, 5] (fun v p wr => ∃ (k : Nat) (xs : List Value), p = .int .i64 ((m : Int) - 1 - k) ∧ k ≤ m ∧ wr.ownsRow B 43 4 v k xs ∧ Below B w1 wr ∧ Hid (∀ j x, j < k → (places s).reverse[j]? = some x → xs[4 * j]? = some (.int .i64 (x.1 : Int)) ∧ xs[4 * j + 1]? = some (.int .i32 (x.2 : Int)))) (fun _ p _ => (RowKit.intOf p + 1).toNat)
  case atStart => exact ⟨0, [], by simp, Nat.zero_le _, World.ownsRow_nil _ _ _ _, Below.refl _ _, fun j x h => absurd h (Nat.not_lt_zero _)⟩
  case round =>
    obtain ⟨k, xs, rfl, hkm, hout, hbw, hall⟩ := hrel
    by_cases hk : k < m
    · obtain ⟨q, hq⟩ : ∃ q, m - 1 - k = q := ⟨_, rfl⟩
      have hqe : (m : Int) - 1 - k = (q : Int) := by omega
      rw [hqe]
      obtain ⟨x, hx⟩ : ∃ x, (places s)[q]? = some x := ⟨_, List.getElem?_eq_getElem (by rw [Hm.out]; omega)⟩
      have hrev : (places s).reverse[k]? = some x := by
        rw [List.getElem?_reverse (by rw [Hm.out]; omega), Hm.out, hq]
        exact hx
      obtain ⟨n', b', e1, e2, e3, e4⟩ := Hplace.out q x hx
      obtain ⟨g, cap, hv, _, hlt⟩ := Hown.out.form (by omega)
      injection hv with hA _ hcc
      subst hA hcc
      have d1 := (hbw.cell (p := (⟨g, 0, none⟩ : Addr).add (4 * q)) (by rw [add_block]; show g < B; omega)).trans (Hown.out.cells (g := g) rfl _ _ e1)
      have d2 := (hbw.cell (p := (⟨g, 0, none⟩ : Addr).add (4 * q + 1)) (by rw [add_block]; show g < B; omega)).trans (Hown.out.cells (g := g) rfl _ _ e2)
      have d3 := (hbw.cell (p := (⟨g, 0, none⟩ : Addr).add (4 * q + 2)) (by rw [add_block]; show g < B; omega)).trans (Hown.out.cells (g := g) rfl _ _ e3)
      have d4 := (hbw.cell (p := (⟨g, 0, none⟩ : Addr).add (4 * q + 3)) (by rw [add_block]; show g < B; omega)).trans (Hown.out.cells (g := g) rfl _ _ e4)
      rw [Addr.add_lit, Nat.zero_add, Nat.mul_comm 4 q] at d1 d2 d3 d4
      have hq0 : (0 : Int) ≤ (q : Int) := by omega
      have hqm : (q : Int) < (m : Int) := by omega
      have hw1 : IntKind.i64.wrap ((q : Int) - 1) = (q : Int) - 1 := IntWalk.i64_in _ (by omega)
      have Hrev := Lib.hid hrev
      have Hqe := Lib.hid hqe
      clear hrev hx e1 e2 e3 e4 hqe
      have hwB : B ≤ wr.heap.size := by have := hbw.size; omega
      go_wp2_with (at_builtin; refine wpList_append_own _ rfl _ _ 36 rfl B 43 i0 _ 4 32 Tryd.underlying36 hi hz0 hz1 hz2 rfl (by decide) _ _ _ rfl (hout.alloc _) ⟨wr.heap.size, 0, none⟩ 1 1 [.int .i64 (x.1 : Int), .int .i32 (x.2 : Int), .int .i64 n', .bool b'] rfl rfl ?c1 ?c2 ?c3 ?c4 ?c5 ?_)
      case c2 => simp [Value.oneCell']
      case c3 => unfold maxLen; omega
      case c4 => omega
      case c5 => omega
      intro v' w2 hown2 hg2 _
      have hout0 := Lib.hid hout
      clear hout
      go_wp2
      go_roundw
      case rel =>
        refine ⟨k + 1, xs ++ [.int .i64 (x.1 : Int), .int .i32 (x.2 : Int), .int .i64 n', .bool b'], ?_, hk, hown2, (hbw.alloc hwB _).grown hg2 (by simp; omega) (fun i hi => (hout0.out.lt i hi).1), ?_⟩
        · have := Hqe.out
          congr 1
          push_cast
          omega
        · intro j y hj hy
          have hxl : xs.length = k * 4 := hout0.out.1
          by_cases hjk : j < k
          · obtain ⟨a1, a2⟩ := hall.out j y hjk hy
            exact ⟨by rw [List.getElem?_append_left (by omega)]; exact a1, by rw [List.getElem?_append_left (by omega)]; exact a2⟩
          · obtain rfl : j = k := by omega
            have hyx : y = x := Option.some.inj (hy.symm.trans Hrev.out)
            subst hyx
            rw [List.getElem?_append_right (by omega), List.getElem?_append_right (by omega), hxl, show 4 * j - j * 4 = 0 by omega, show 4 * j + 1 - j * 4 = 1 by omega]
            exact ⟨rfl, rfl⟩
      case measure => simp [RowKit.intOf]
    · have hkm2 : k = m := by omega
      subst hkm2
      have hneg : (k : Int) - 1 - k = -1 := by omega
      rw [hneg]
      go_wp2
      go_ret
      refine ⟨_, xs, rfl, own_base hout (by have := Hb.out.size; omega), fun j x h => hall.out j x ?_ h, Hb.out.trans (hbw.mono (by have := Hb.out.size; omega))⟩
      have := (List.getElem?_eq_some_iff.1 h).1
      rw [List.length_reverse, Hm.out] at this
      exact this
end Go.Proofs.YtkbhgkbhajmjiaaDoor
