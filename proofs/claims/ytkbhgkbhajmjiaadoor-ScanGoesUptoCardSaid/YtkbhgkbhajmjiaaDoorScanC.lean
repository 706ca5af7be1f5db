/- The program's package scan: numbers as a text; what the document says of a few texts (wakes). -/
import Derived.Test.YtkbhgkbhajmjiaaDoorScanB
import Derived.Test.YtkbhgkbhajmjiaaDoorMem
namespace Go.Proofs.YtkbhgkbhajmjiaaDoor
open Go.RowKit Go.Lib

theorem text_any (w : World) (B : Nat) (A : Option Addr) (n c : Nat) (zs : List Int) (h : Rd w B 1 A n (zs.map (Value.int .i32))) : Calls Tryd.prog 31 #[.slice A n c] w fun e w' => e = .returned (.string (runesBytes zs)) ∧ w = w' := by
  have hl : zs.length = n := by have := h.1; simpa using this
  have hcv : (convert 28 9 (.slice A n c)).run Tryd.prog w = .ok (.string (runesBytes zs)) w := by
    rcases A with _ | a
    · have h0 : n = 0 := by
        rcases Nat.eq_zero_or_pos n with h0 | h0
        · exact h0
        · obtain ⟨a, e, _⟩ := h.addr h0
          cases e
      have : zs = [] := List.eq_nil_of_length_eq_zero (by omega)
      subst this
      exact run_convert_runes_nil w _ _ 21 _ _ Tryd.underlying28 Tryd.underlying21 Tryd.underlying9
    · have := run_convert_runes (P := Tryd.prog) w 28 9 21 a n c zs (by omega) Tryd.underlying28 Tryd.underlying21 Tryd.underlying9 (fun j hj => by
        obtain ⟨a', e, _, hc⟩ := h.addr (by omega)
        injection e with e
        subst e
        exact hc j _ (by simp [List.getD, List.getElem?_eq_getElem hj]))
      rw [List.take_of_length_le (by omega)] at this
      exact this
  have H := Lib.hid hl
  clear hl h
  go_enter Tryd.func31, Tryd.ntmps31
  go_wp2
  go_ret
  exact ⟨rfl, rfl⟩

abbrev U8 (w : World) : Prop := Utf8Tabs 0 1 w

/-! ### the few texts -/
theorem c_next1 (w : World) (hT : U8 w) : Calls Tryd.prog 14 #[.string ⟨#[228, 184]⟩] w fun e w' => e = .returned (.tuple #[.int .i32 65533, .int .i64 1]) ∧ Below w.heap.size w w' := next_any ⟨#[228, 184]⟩ w hT
theorem c_next2 (w : World) (hT : U8 w) : Calls Tryd.prog 14 #[.string ⟨#[239, 191, 189]⟩] w fun e w' => e = .returned (.tuple #[.int .i32 65533, .int .i64 3]) ∧ Below w.heap.size w w' := next_any ⟨#[239, 191, 189]⟩ w hT
theorem c_last (w : World) (hT : U8 w) : Calls Tryd.prog 15 #[.string ⟨#[97, 195, 169]⟩] w fun e w' => e = .returned (.tuple #[.int .i32 233, .int .i64 2]) ∧ Below w.heap.size w w' := by
  have h := last_any ⟨#[97, 195, 169]⟩ w (by decide) hT
  have e : decodeLastL (⟨#[97, 195, 169]⟩ : ByteArray).data.toList = (233, 2) := by decide
  rw [e] at h
  exact h
theorem c_whole1 (w : World) (hT : U8 w) : Calls Tryd.prog 18 #[.string ⟨#[228, 184]⟩] w fun e w' => e = .returned (.bool false) ∧ Below w.heap.size w w' := by
  have h := whole_any ⟨#[228, 184]⟩ w (by decide) hT
  have e : full (⟨#[228, 184]⟩ : ByteArray).data.toList = false := by decide
  rw [e] at h
  exact h
theorem c_whole2 (w : World) (hT : U8 w) : Calls Tryd.prog 18 #[.string ⟨#[255]⟩] w fun e w' => e = .returned (.bool true) ∧ Below w.heap.size w w' := by
  have h := whole_any ⟨#[255]⟩ w (by decide) hT
  have e : full (⟨#[255]⟩ : ByteArray).data.toList = true := by decide
  rw [e] at h
  exact h
theorem c_valid1 (w : World) : Calls Tryd.prog 27 #[.string ⟨#[195, 169]⟩] w fun e w' => e = .returned (.bool true) ∧ Below w.heap.size w w' := by
  have h := valid_any ⟨#[195, 169]⟩ w (by decide)
  have e : okSegs (⟨#[195, 169]⟩ : ByteArray).data.toList = true := by decide
  rw [e] at h
  exact h
theorem c_valid2 (w : World) : Calls Tryd.prog 27 #[.string ⟨#[195]⟩] w fun e w' => e = .returned (.bool false) ∧ Below w.heap.size w w' := by
  have h := valid_any ⟨#[195]⟩ w (by decide)
  have e : okSegs (⟨#[195]⟩ : ByteArray).data.toList = false := by decide
  rw [e] at h
  exact h
theorem c_count (w : World) : Calls Tryd.prog 28 #[.string ⟨#[237, 160, 128]⟩] w fun e w' => e = .returned (.int .i64 3) ∧ Below w.heap.size w w' := by
  have h := count_any ⟨#[237, 160, 128]⟩ w (by decide)
  have e : (segs (⟨#[237, 160, 128]⟩ : ByteArray).data.toList).length = 3 := by decide
  rw [e] at h
  exact h
theorem c_runes (w : World) : Calls Tryd.prog 24 #[.string ⟨#[97, 255, 195, 169]⟩] w fun e w' =>
    ∃ g c : Nat, e = .returned (.slice (some ⟨g, 0, none⟩) 3 c) ∧ w'.cell? ⟨g, 1, none⟩ = some (.int .i32 65533) ∧ w'.cell? ⟨g, 2, none⟩ = some (.int .i32 233) ∧ Below w.heap.size w w' := by
  have e : runesOf (⟨#[97, 255, 195, 169]⟩ : ByteArray).data.toList = [97, 65533, 233] := by decide
  have h := runes_any ⟨#[97, 255, 195, 169]⟩ w (by rw [e]; decide)
  rw [e] at h
  refine h.mono ?_
  rintro e w' ⟨v, rfl, hown, hb⟩
  obtain ⟨g, cap, rfl, _, _⟩ := hown.form (by simp)
  have h1 := hown.cells (g := g) rfl 1 (.int .i32 65533) rfl
  have h2 := hown.cells (g := g) rfl 2 (.int .i32 233) rfl
  rw [Addr.add_lit] at h1 h2
  exact ⟨g, cap, rfl, h1, h2, hb⟩
theorem c_text (w : World) (W : World) (hW : W = w.alloc (.cells #[.int .i32 97, .int .i32 (-1)] 21)) : Calls Tryd.prog 31 #[.slice (some ⟨w.heap.size, 0, none⟩) 2 2] W fun e w' => e = .returned (.string ⟨#[97, 239, 191, 189]⟩) ∧ W = w' := by
  subst hW
  have h := text_any (w.alloc (.cells #[.int .i32 97, .int .i32 (-1)] 21)) (w.heap.size + 1) (some ⟨w.heap.size, 0, none⟩) 2 2 [97, -1] ⟨rfl, .inr ⟨_, rfl, by simp, fun j u hu => by
    have : j = 0 ∨ j = 1 ∨ 2 ≤ j := by omega
    rcases this with rfl | rfl | h
    · simp at hu; subst hu; go_simp
    · simp at hu; subst hu; go_simp
    · rw [List.getElem?_eq_none (by simpa using h)] at hu; cases hu⟩⟩
  exact h

set_option maxRecDepth 100000 in
set_option maxHeartbeats 2000000 in
theorem wakes_any (w : World) (hT : U8 w) : Calls Tryd.prog 20 #[] w fun e w' => e = .returned (.bool true) ∧ Below w.heap.size w w' := by
  have HT := Lib.hid hT
  clear hT
  go_enter Tryd.func20, Tryd.ntmps20
  go_wp2_with fail
  refine (c_next1 _ HT.out).mono ?_
  rintro e w1 ⟨rfl, hb1⟩
  have HT1 := Lib.hid (Utf8Tabs_below HT.out hb1)
  go_wp2_with fail
  refine (c_last _ HT1.out).mono ?_
  rintro e w2 ⟨rfl, hb2⟩
  have HT2 := Lib.hid (Utf8Tabs_below HT1.out hb2)
  go_wp2_with fail
  refine (c_next2 _ HT2.out).mono ?_
  rintro e w3 ⟨rfl, hb3⟩
  have HT3 := Lib.hid (Utf8Tabs_below HT2.out hb3)
  go_wp2_with fail
  refine (c_runes _).mono ?_
  rintro e w4 ⟨g, c, rfl, hc1, hc2, hb4⟩
  have HT4 := Lib.hid (Utf8Tabs_below HT3.out hb4)
  go_wp2_with fail
  refine (c_whole1 _ HT4.out).mono ?_
  rintro e w5 ⟨rfl, hb5⟩
  have HT5 := Lib.hid (Utf8Tabs_below HT4.out hb5)
  go_wp2_with fail
  refine (c_whole2 _ HT5.out).mono ?_
  rintro e w6 ⟨rfl, hb6⟩
  go_wp2_with fail
  refine (c_valid1 _).mono ?_
  rintro e w7 ⟨rfl, hb7⟩
  go_wp2_with fail
  refine (c_valid2 _).mono ?_
  rintro e w8 ⟨rfl, hb8⟩
  go_wp2_with fail
  refine (c_count _).mono ?_
  rintro e w9 ⟨rfl, hb9⟩
  go_wp2_with fail
  refine (c_text _ _ rfl).mono ?_
  rintro e w10 ⟨rfl, rfl⟩
  go_wp2_with fail
  go_ret
  have m1 := hb1.trans (hb2.mono hb1.size)
  have m2 := m1.trans (hb3.mono m1.size)
  have m3 := m2.trans (hb4.mono m2.size)
  have m4 := m3.trans (hb5.mono m3.size)
  have m5 := m4.trans (hb6.mono m4.size)
  have m6 := m5.trans (hb7.mono m5.size)
  have m7 := m6.trans (hb8.mono m6.size)
  have m8 := m7.trans (hb9.mono m7.size)
  exact ⟨rfl, m8.alloc m8.size _⟩

end Go.Proofs.YtkbhgkbhajmjiaaDoor
