/- The law's own helpers that ask a few texts: steps, alive. -/
import Derived.Test.YtlkflbfemlnleaaDoorRowG
import Derived.Test.YtlkflbfemlnleaaDoorLastC
namespace Go.Proofs.YtlkflbfemlnleaaDoor
open Go.RowKit Go.Lib

theorem cnext_s (s : ByteArray) (w : World) (hT : Utf8Tabs 0 1 w) (hs : s.size ≤ 1073741824) :
    Calls Tryd.prog 14 #[.string s] w fun e w' => e = .returned (.int .i64 ((placeAt s (clEnd s 0) : Nat) : Int)) ∧ Below w.heap.size w w' := by
  have h := cnext_rest s 0 w (Nat.zero_le _) hT hs
  rw [placeAt_zero, Nat.sub_zero] at h
  have e : s.extract 0 s.size = s := by simp
  rw [e] at h
  exact h
theorem not_isB {s : ByteArray} {q : Int} {j : Nat} (hj : IsBord s j) (h1 : ((placeAt s j : Nat) : Int) < q) (h2 : q < ((placeAt s (clEnd s j) : Nat) : Int)) : ¬ isB s q := by
  rintro ⟨k, hk, rfl⟩
  rcases Nat.lt_or_ge j k with h | h
  · have := placeAt_mono s (isBord_lt hj hk h)
    omega
  · have := placeAt_mono s h
    omega

section texts
theorem a_next : placeAt ⟨#[97]⟩ (clEnd ⟨#[97]⟩ 0) = 1 := by decide +kernel
theorem a_last : clLast ⟨#[97]⟩ = 1 := by decide +kernel
theorem b_at : placeAt ⟨#[97, 204, 129, 98]⟩ (clEnd ⟨#[97, 204, 129, 98]⟩ 0) = 3 := by decide +kernel
theorem c_row : (pcs ⟨#[97, 204, 129, 13, 10, 98, 128]⟩).map (·.2) = [⟨#[97, 204, 129]⟩, ⟨#[13, 10]⟩, ⟨#[98]⟩, ⟨#[128]⟩] := by decide +kernel
theorem d_last : clLast ⟨#[97, 204, 129, 204, 130]⟩ = 5 := by decide +kernel
theorem e_at : placeAt ⟨#[97, 204, 129]⟩ (clEnd ⟨#[97, 204, 129]⟩ 0) = 3 := by decide +kernel
theorem e_size : placeAt ⟨#[97, 204, 129]⟩ (chars ⟨#[97, 204, 129]⟩) = 3 := by decide +kernel
theorem f_count : (pcs ⟨#[225, 132, 128, 225, 133, 161, 225, 134, 168, 120]⟩).length = 2 := by decide +kernel
theorem g_len : (pcs ⟨#[97, 98]⟩).length = 2 := by decide +kernel
end texts

set_option maxRecDepth 100000 in
theorem steps_any (w : World) (hT : Utf8Tabs 0 1 w) : Calls Tryd.prog 9 #[] w fun e w' => e = .returned (.bool true) ∧ Below w.heap.size w w' := by
  have h1 := fun w hT => cnext_s ⟨#[97]⟩ w hT (by decide)
  have h2 := fun w hT => clast_any ⟨#[97]⟩ w (by decide) hT
  rw [a_next] at h1
  rw [a_last] at h2
  have H1 := Lib.hid h1
  have H2 := Lib.hid h2
  have HT := Lib.hid hT
  clear h1 h2 hT
  go_enter Tryd.func9, Tryd.ntmps9
  go_wp2_with fail
  refine (H1.out _ HT.out).mono ?_
  rintro _ w1 ⟨rfl, b1⟩
  have HT1 := Lib.hid (Utf8Tabs_below HT.out b1)
  go_wp2_with fail
  refine (H2.out _ HT1.out).mono ?_
  rintro _ w2 ⟨rfl, b2⟩
  go_wp2_with fail
  go_ret
  exact ⟨rfl, b1.trans (b2.mono b1.size)⟩

set_option maxRecDepth 100000 in
set_option maxHeartbeats 1000000 in
theorem alive_any (w : World) (hT : Utf8Tabs 0 1 w) : Calls Tryd.prog 19 #[] w fun e w' => e = .returned (.bool true) ∧ Below w.heap.size w w' := by
  have h0 := fun w hT => steps_any w hT
  have h1 : ∀ w, Utf8Tabs 0 1 w → Calls Tryd.prog 20 #[.string ⟨#[97, 204, 129, 98]⟩, .int .i64 1] w fun e w' => e = .returned (.tuple #[.int .i64 0, .int .i64 3]) ∧ Below w.heap.size w w' := by
    intro w hT
    refine (at_any ⟨#[97, 204, 129, 98]⟩ 1 1 w (by decide) (by decide) (by decide) hT).mono ?_
    rintro e w' ⟨⟨a, b, rfl, ha⟩, hb⟩
    obtain ⟨rfl, rfl⟩ := around_one ha .zero (by decide) (by rw [b_at]; decide)
    rw [b_at]
    exact ⟨rfl, hb⟩
  have h2 := fun w A n c hA hT => row_true ⟨#[97, 204, 129, 13, 10, 98, 128]⟩ w A n c _ hA c_row (by decide) hT
  have h3 := fun w hT => cnext_s ⟨#[97, 204, 129, 98]⟩ w hT (by decide)
  rw [b_at] at h3
  have h4 := fun w hT => clast_any ⟨#[97, 204, 129, 204, 130]⟩ w (by decide) hT
  rw [d_last] at h4
  have h5 : ∀ w, Utf8Tabs 0 1 w → Calls Tryd.prog 22 #[.string ⟨#[97, 204, 129]⟩, .int .i64 3] w fun e w' => e = .returned (.bool true) ∧ Below w.heap.size w w' := by
    intro w hT
    refine (is_any ⟨#[97, 204, 129]⟩ 3 w (by decide) hT).mono ?_
    rintro e w' ⟨⟨b, rfl, hb⟩, hbl⟩
    rw [hb.2 ⟨_, isBord_all _, by rw [e_size]; rfl⟩]
    exact ⟨rfl, hbl⟩
  have h6 : ∀ w, Utf8Tabs 0 1 w → Calls Tryd.prog 22 #[.string ⟨#[97, 204, 129]⟩, .int .i64 1] w fun e w' => e = .returned (.bool false) ∧ Below w.heap.size w w' := by
    intro w hT
    refine (is_any ⟨#[97, 204, 129]⟩ 1 w (by decide) hT).mono ?_
    rintro e w' ⟨⟨b, rfl, hb⟩, hbl⟩
    have hn : ¬ isB ⟨#[97, 204, 129]⟩ 1 := not_isB .zero (by decide) (by rw [e_at]; decide)
    have : b = false := by
      cases b with
      | false => rfl
      | true => exact absurd (hb.1 rfl) hn
    subst this
    exact ⟨rfl, hbl⟩
  have h7 := fun w hT => ccount_any ⟨#[225, 132, 128, 225, 133, 161, 225, 134, 168, 120]⟩ w (by decide) hT
  rw [f_count] at h7
  have h8 := fun w => clb_mk ⟨#[97, 98]⟩ w
  have h9 := fun Bn w hc hT => pieces_back ⟨#[97, 98]⟩ Bn w hc (by decide) hT
  rw [g_len] at h9
  have H0 := Lib.hid h0
  have H1 := Lib.hid h1
  have H2 := Lib.hid h2
  have H3 := Lib.hid h3
  have H4 := Lib.hid h4
  have H5 := Lib.hid h5
  have H6 := Lib.hid h6
  have H7 := Lib.hid h7
  have H8 := Lib.hid h8
  have H9 := Lib.hid h9
  have HT := Lib.hid hT
  clear h0 h1 h2 h3 h4 h5 h6 h7 h8 h9 hT
  go_enter Tryd.func19, Tryd.ntmps19
  go_wp2_with fail
  refine (H0.out _ HT.out).mono ?_
  rintro _ w0 ⟨rfl, b0⟩
  have HT0 := Lib.hid (Utf8Tabs_below HT.out b0)
  have B0 := Lib.hid b0
  clear b0
  go_wp2_with fail
  refine (H1.out _ HT0.out).mono ?_
  rintro _ w1 ⟨rfl, b1⟩
  have HT1 := Lib.hid (Utf8Tabs_below HT0.out b1)
  have B1 := Lib.hid (B0.out.trans (b1.mono B0.out.size))
  clear b1
  go_wp2_with fail
  obtain ⟨w2, hw2⟩ : ∃ w2, w1.alloc (.cells #[.string ⟨#[97, 204, 129]⟩, .string ⟨#[13, 10]⟩, .string ⟨#[98]⟩, .string ⟨#[128]⟩] 9) = w2 := ⟨_, rfl⟩
  have hR2 : Rd w2 w2.heap.size 1 (some ⟨w1.heap.size, 0, none⟩) 4 (([⟨#[97, 204, 129]⟩, ⟨#[13, 10]⟩, ⟨#[98]⟩, ⟨#[128]⟩] : List ByteArray).map Value.string) := by
    refine ⟨rfl, .inr ⟨_, rfl, by rw [← hw2]; simp, fun j u hu => ?_⟩⟩
    rw [← hw2]
    exact new_cells w1 [.string ⟨#[97, 204, 129]⟩, .string ⟨#[13, 10]⟩, .string ⟨#[98]⟩, .string ⟨#[128]⟩] 9 j u hu
  have b2 : Below w1.heap.size w1 w2 := by rw [← hw2]; exact (Below.refl _ w1).alloc (Nat.le_refl _) _
  have HT2 := Lib.hid (Utf8Tabs_below HT1.out b2)
  have B2 := Lib.hid (B1.out.trans (b2.mono B1.out.size))
  have HR2 := Lib.hid hR2
  clear b2 hR2
  rw [hw2]
  clear hw2
  refine (H2.out w2 _ _ 4 HR2.out HT2.out).mono ?_
  rintro _ w3 ⟨rfl, b3⟩
  have HT3 := Lib.hid (Utf8Tabs_below HT2.out b3)
  have B3 := Lib.hid (B2.out.trans (b3.mono B2.out.size))
  clear b3
  go_wp2_with fail
  refine (H3.out _ HT3.out).mono ?_
  rintro _ w4 ⟨rfl, b4⟩
  have HT4 := Lib.hid (Utf8Tabs_below HT3.out b4)
  have B4 := Lib.hid (B3.out.trans (b4.mono B3.out.size))
  clear b4
  go_wp2_with fail
  refine (H4.out _ HT4.out).mono ?_
  rintro _ w5 ⟨rfl, b5⟩
  have HT5 := Lib.hid (Utf8Tabs_below HT4.out b5)
  have B5 := Lib.hid (B4.out.trans (b5.mono B4.out.size))
  clear b5
  go_wp2_with fail
  refine (H5.out _ HT5.out).mono ?_
  rintro _ w6 ⟨rfl, b6⟩
  have HT6 := Lib.hid (Utf8Tabs_below HT5.out b6)
  have B6 := Lib.hid (B5.out.trans (b6.mono B5.out.size))
  clear b6
  go_wp2_with fail
  refine (H6.out _ HT6.out).mono ?_
  rintro _ w7 ⟨rfl, b7⟩
  have HT7 := Lib.hid (Utf8Tabs_below HT6.out b7)
  have B7 := Lib.hid (B6.out.trans (b7.mono B6.out.size))
  clear b7
  go_wp2_with fail
  refine (H7.out _ HT7.out).mono ?_
  rintro _ w8 ⟨rfl, b8⟩
  have HT8 := Lib.hid (Utf8Tabs_below HT7.out b8)
  have B8 := Lib.hid (B7.out.trans (b8.mono B7.out.size))
  clear b8
  go_wp2_with fail
  refine (H8.out _).mono ?_
  rintro _ w9 ⟨rfl, hw9⟩
  have b9 : Below w8.heap.size w8 w9 := by rw [hw9]; exact (Below.refl _ w8).alloc (Nat.le_refl _) _
  have hc9 : w9.cell? ⟨w8.heap.size, 0, none⟩ = some (.string ⟨#[97, 98]⟩) := by rw [hw9]; exact (Boxed.new w8 9 (.string ⟨#[97, 98]⟩)).cell
  have HT9 := Lib.hid (Utf8Tabs_below HT8.out b9)
  have B9 := Lib.hid (B8.out.trans (b9.mono B8.out.size))
  have Hc9 := Lib.hid hc9
  clear b9 hw9 hc9
  go_wp2_with fail
  refine (H9.out _ _ Hc9.out HT9.out).mono ?_
  rintro _ w10 ⟨A, c, rfl, _, b10⟩
  have B10 := Lib.hid (B9.out.trans (b10.mono B9.out.size))
  clear b10
  go_wp2_with fail
  go_ret
  exact ⟨rfl, B10.out⟩
end Go.Proofs.YtlkflbfemlnleaaDoor
