/- ScanText, walked: any numbers as a text; they stay as they are. -/
import Derived.Test.YtjoilamikdbnpaaDoorRefT
import Derived.Test.YtjoilamikdbnpaaDoorScanC
import Derived.Test.YtjoilamikdbnpaaDoorScanE
import Derived.Test.YtjoilamikdbnpaaDoorSame
namespace Go.Proofs.YtjoilamikdbnpaaDoor
open Go.RowKit Go.Lib

theorem sameRunes_yes (w : World) (X Y : Nat) (A B : Option Addr) (n c d : Nat) (xs : List Int) (hx : Rd w X 1 A n (xs.map (Value.int .i32))) (hy : Rd w Y 1 B n (xs.map (Value.int .i32))) (hn : n ≤ maxLen) :
    Calls Tryd.prog 26 #[.slice A n c, .slice B n d] w fun e w' => e = .returned (.bool true) ∧ Below w.heap.size w w' := by
  have := sameRunes_any w X Y A B n n c d xs xs hx hy hn
  rw [show decide (xs = xs) = true by simp] at this
  exact this

set_option maxRecDepth 100000 in
set_option maxHeartbeats 2000000 in
theorem text_some (w : World) (a : Addr) (n c : Nat) (zs : List Int) (h : Rd w w.heap.size 1 (some a) n (zs.map (Value.int .i32))) (hn : n ≤ 35184372087808) (hT : U8 w) :
    Calls Tryd.prog 5 #[.slice (some a) n c] w fun e w' => e = .returned (.bool true) ∧ Below w.heap.size w w' := by
  obtain ⟨i0, hi, hz0, hz1, hz2⟩ := info_parts rune_info
  have hl : zs.length = n := by have := h.1; simpa using this
  have H := Lib.hid h
  have Hl := Lib.hid hl
  have Hn := Lib.hid hn
  have HT := Lib.hid hT
  have hnn : ((n : Int) == n) = true := by simp
  have Hl1 : Hid ((zs.map (Value.int .i32)).length = n * 1) := by simp [Hid, hl]
  have Hone : Hid (∀ u ∈ zs.map (Value.int .i32), u.oneCell' = true) := by
    intro u hu
    obtain ⟨z, _, rfl⟩ := List.mem_map.1 hu
    rfl
  have Hb0 := Lib.hid ((Below.refl w.heap.size w).alloc (Nat.le_refl _) (.cells #[] 21))
  have Hown0 : Hid ((w.alloc (.cells #[] 21)).ownsRow w.heap.size 21 1 (.slice (some ⟨w.heap.size, 0, none⟩) 0 0) 0 []) := World.ownsRow_made w #[] 0 (Nat.le_refl _) (Nat.zero_le _) rfl
  have Hmax1 : Hid (0 + n ≤ maxLen) := by unfold Hid maxLen; omega
  have Hby1 : Hid ((0 + n) * 4 ≤ 140737488355328) := by unfold Hid; omega
  have Hmax2 : Hid (n + 2 ≤ maxLen) := by unfold Hid maxLen; omega
  have Hby2 : Hid ((n + 2) * 4 ≤ 140737488355328) := by unfold Hid; omega
  have Hnm : Hid (n ≤ maxLen) := by unfold Hid maxLen; omega
  have hn3 : (n : Int) ≤ 9223372036854775000 := by omega
  have tokA : True := trivial
  have tokB : True := trivial
  clear h hl hn hT
  go_enter Tryd.func5, Tryd.ntmps5
  go_wp2_with (at_builtin; first
    | (have _t := tokA; clear tokA; refine wpList_append_own _ rfl (.tmp 6) (.tmp 7) 28 rfl w.heap.size 21 i0 _ 1 4 Tryd.underlying28 hi hz0 hz1 hz2 rfl (by decide) _ 0 [] rfl Hown0.out a n c (zs.map (Value.int .i32)) rfl Hl1.out (H.out.below Hb0.out).cells_of Hone.out Hmax1.out Hby1.out Hb0.out.size ?_; intro v1 w1 hown1 hg1 _; rw [Nat.zero_add, List.nil_append] at hown1; have Hown1 := Lib.hid hown1; have Hb1 := Lib.hid (Hb0.out.grown hg1 Hb0.out.size (fun k hk => (Hown0.out.lt k hk).1)); clear hown1 hg1)
    | (have _t := tokB; clear tokB; refine wpList_append_own _ rfl (.tmp 8) (.tmp 9) 28 rfl w.heap.size 21 i0 _ 1 4 Tryd.underlying28 hi hz0 hz1 hz2 rfl (by decide) _ n (zs.map (Value.int .i32)) rfl (Hown1.out.alloc _) ⟨w1.heap.size, 0, none⟩ 2 2 [.int .i32 65, .int .i32 66] rfl rfl (new_cells w1 [.int .i32 65, .int .i32 66] 21) ?d2 Hmax2.out Hby2.out ?d5 ?_))
  case d2 => simp [Value.oneCell']
  case d5 => have := Hb1.out.size; simp; omega
  intro v2 w2 hown2 hg2 _
  obtain ⟨g, cap, rfl, hgB, hgl⟩ := hown2.form (by omega)
  have hb2 : Below w.heap.size w w2 := (Hb1.out.alloc Hb1.out.size _).grown hg2 (by have := Hb1.out.size; simp; omega) (fun k hk => (Hown1.out.lt k hk).1)
  have hcap : n + 2 ≤ cap := by
    obtain ⟨A', c', e, h1, _⟩ := own_shape hown2
    injection e with _ _ e3
    omega
  have hc1 : w2.cell? ⟨g, n, none⟩ = some (.int .i32 65) := by
    have := hown2.cells (g := g) rfl n (.int .i32 65) (by rw [List.getElem?_append_right (by simp [Hl.out])]; simp [Hl.out])
    rwa [Addr.add_lit, Nat.zero_add] at this
  have hc2 : w2.cell? ⟨g, n + 1, none⟩ = some (.int .i32 66) := by
    have := hown2.cells (g := g) rfl (n + 1) (.int .i32 66) (by rw [List.getElem?_append_right (by simp [Hl.out])]; simp [Hl.out])
    rwa [Addr.add_lit, Nat.zero_add] at this
  have R2 : Hid (Rd w2 w2.heap.size 1 (some ⟨g, 0, none⟩) n (zs.map (Value.int .i32))) := by
    refine ⟨Hl1.out, .inr ⟨_, rfl, hgl, fun j u hu => hown2.cells (g := g) rfl j u ?_⟩⟩
    rw [List.getElem?_append_left (List.getElem?_eq_some_iff.1 hu).1]
    exact hu
  have HA2 := Lib.hid ((H.out.below hb2).more hb2.size)
  have Hb2 := Lib.hid hb2
  have Hc1 := Lib.hid hc1
  have Hc2 := Lib.hid hc2
  clear hown2 hg2 hb2 hc1 hc2
  go_wp2_with fail
  refine (text_any w2 _ _ n _ zs R2.out).mono ?_
  rintro e w' ⟨rfl, rfl⟩
  go_wp2_with fail
  refine (sameRunes_yes w2 _ _ _ _ n _ _ zs R2.out HA2.out Hnm.out).mono ?_
  rintro e w3 ⟨rfl, b3⟩
  have HA3 := Lib.hid ((HA2.out.below b3).more b3.size)
  go_wp2_with fail
  refine (refText_any w3 _ n _ zs HA3.out Hn.out).mono ?_
  rintro e w4 ⟨rfl, b4⟩
  have b24 := b3.trans (b4.mono b3.size)
  have hc1 := (b24.cell (p := ⟨g, n, none⟩) hgl).trans Hc1.out
  have hc2 := (b24.cell (p := ⟨g, n + 1, none⟩) hgl).trans Hc2.out
  have Hb4 := Lib.hid (Hb2.out.trans (b24.mono Hb2.out.size))
  clear b3 b4 b24
  have hcapI : (n : Int) + 2 ≤ cap := by omega
  go_wp2_with fail
  refine (wakes_any _ (Utf8Tabs_below HT.out Hb4.out)).mono ?_
  rintro e w5 ⟨rfl, b5⟩
  go_wp2_with fail
  go_ret
  exact ⟨rfl, Hb4.out.trans (b5.mono Hb4.out.size)⟩


set_option maxRecDepth 100000 in
set_option maxHeartbeats 2000000 in
theorem text_none (w : World) (zs : List Int) (h : Rd w w.heap.size 1 none 0 (zs.map (Value.int .i32))) (hn : 0 ≤ 35184372087808) (hT : U8 w) :
    Calls Tryd.prog 5 #[.slice none 0 0] w fun e w' => e = .returned (.bool true) ∧ Below w.heap.size w w' := by
  obtain ⟨i0, hi, hz0, hz1, hz2⟩ := info_parts rune_info
  have hl : zs.length = 0 := by have := h.1; simpa using this
  have H := Lib.hid h
  have Hl := Lib.hid hl
  have Hn := Lib.hid hn
  have HT := Lib.hid hT
  have hnn : (((0 : Nat) : Int) == 0) = true := by simp
  have Hl1 : Hid ((zs.map (Value.int .i32)).length = 0 * 1) := by simp [Hid, hl]
  have Hone : Hid (∀ u ∈ zs.map (Value.int .i32), u.oneCell' = true) := by
    intro u hu
    obtain ⟨z, _, rfl⟩ := List.mem_map.1 hu
    rfl
  have Hb0 := Lib.hid ((Below.refl w.heap.size w).alloc (Nat.le_refl _) (.cells #[] 21))
  have Hown0 : Hid ((w.alloc (.cells #[] 21)).ownsRow w.heap.size 21 1 (.slice (some ⟨w.heap.size, 0, none⟩) 0 0) 0 []) := World.ownsRow_made w #[] 0 (Nat.le_refl _) (Nat.zero_le _) rfl
  have Hmax1 : Hid (0 + 0 ≤ maxLen) := by unfold Hid maxLen; omega
  have Hby1 : Hid ((0 + 0) * 4 ≤ 140737488355328) := by unfold Hid; omega
  have Hmax2 : Hid (0 + 2 ≤ maxLen) := by unfold Hid maxLen; omega
  have Hby2 : Hid ((0 + 2) * 4 ≤ 140737488355328) := by unfold Hid; omega
  have Hnm : Hid (0 ≤ maxLen) := by unfold Hid maxLen; omega
  have hn3 : ((0 : Nat) : Int) ≤ 9223372036854775000 := by omega
  have Hb1 := Hb0
  have Hown1 : Hid ((w.alloc (.cells #[] 21)).ownsRow w.heap.size 21 1 (.slice (some ⟨w.heap.size, 0, none⟩) 0 0) 0 (zs.map (Value.int .i32))) := by
    have e : zs = [] := List.eq_nil_of_length_eq_zero (by omega)
    have hh := Hown0.out
    subst e
    exact hh
  have tokA : True := trivial
  have tokB : True := trivial
  clear h hl hn hT
  go_enter Tryd.func5, Tryd.ntmps5
  go_wp2_with (at_builtin; first
    | (have _t := tokA; clear tokA; refine wpList_append_own_none rfl (.tmp 6) (.tmp 7) 28 rfl w.heap.size 21 i0 1 Tryd.underlying28 hi _ 0 [] rfl Hown0.out rfl ?_)
    | (have _t := tokB; clear tokB; refine wpList_append_own _ rfl (.tmp 8) (.tmp 9) 28 rfl w.heap.size 21 i0 _ 1 4 Tryd.underlying28 hi hz0 hz1 hz2 rfl (by decide) (.slice (some ⟨w.heap.size, 0, none⟩) 0 0) 0 (zs.map (Value.int .i32)) rfl (Hown1.out.alloc _) ⟨w.heap.size + 1, 0, none⟩ 2 2 [.int .i32 65, .int .i32 66] rfl rfl ?d1 ?d2 Hmax2.out Hby2.out ?d5 ?_))
  case d1 =>
    have := new_cells (w.alloc (.cells #[] 21)) [.int .i32 65, .int .i32 66] 21
    simpa using this
  case d2 => simp [Value.oneCell']
  case d5 => have := Hb1.out.size; simp; omega
  intro v2 w2 hown2 hg2 _
  obtain ⟨g, cap, rfl, hgB, hgl⟩ := hown2.form (by omega)
  have hb2 : Below w.heap.size w w2 := (Hb1.out.alloc Hb1.out.size _).grown hg2 (by have := Hb1.out.size; simp; omega) (fun k hk => (Hown1.out.lt k hk).1)
  have hcap : 0 + 2 ≤ cap := by
    obtain ⟨A', c', e, h1, _⟩ := own_shape hown2
    injection e with _ _ e3
    omega
  have hc1 : w2.cell? ⟨g, 0, none⟩ = some (.int .i32 65) := by
    have := hown2.cells (g := g) rfl 0 (.int .i32 65) (by rw [List.getElem?_append_right (by simp [Hl.out])]; simp [Hl.out])
    rwa [Addr.add_lit, Nat.zero_add] at this
  have hc2 : w2.cell? ⟨g, 0 + 1, none⟩ = some (.int .i32 66) := by
    have := hown2.cells (g := g) rfl (0 + 1) (.int .i32 66) (by rw [List.getElem?_append_right (by simp [Hl.out])]; simp [Hl.out])
    rwa [Addr.add_lit, Nat.zero_add] at this
  have R2 : Hid (Rd w2 w2.heap.size 1 (some ⟨g, 0, none⟩) 0 (zs.map (Value.int .i32))) := by
    refine ⟨Hl1.out, .inr ⟨_, rfl, hgl, fun j u hu => hown2.cells (g := g) rfl j u ?_⟩⟩
    rw [List.getElem?_append_left (List.getElem?_eq_some_iff.1 hu).1]
    exact hu
  have HA2 := Lib.hid ((H.out.below hb2).more hb2.size)
  have Hb2 := Lib.hid hb2
  have Hc1 := Lib.hid hc1
  have Hc2 := Lib.hid hc2
  clear hown2 hg2 hb2 hc1 hc2
  go_wp2_with fail
  refine (text_any w2 _ _ 0 _ zs R2.out).mono ?_
  rintro e w' ⟨rfl, rfl⟩
  go_wp2_with fail
  refine (sameRunes_yes w2 _ _ _ _ 0 _ _ zs R2.out HA2.out Hnm.out).mono ?_
  rintro e w3 ⟨rfl, b3⟩
  have HA3 := Lib.hid ((HA2.out.below b3).more b3.size)
  go_wp2_with fail
  refine (refText_any w3 _ 0 _ zs HA3.out Hn.out).mono ?_
  rintro e w4 ⟨rfl, b4⟩
  have b24 := b3.trans (b4.mono b3.size)
  have hc1 := (b24.cell (p := ⟨g, 0, none⟩) hgl).trans Hc1.out
  have hc2 := (b24.cell (p := ⟨g, 0 + 1, none⟩) hgl).trans Hc2.out
  have Hb4 := Lib.hid (Hb2.out.trans (b24.mono Hb2.out.size))
  clear b3 b4 b24
  have hcapI : ((0 : Nat) : Int) + 2 ≤ cap := by omega
  go_wp2_with fail
  refine (wakes_any _ (Utf8Tabs_below HT.out Hb4.out)).mono ?_
  rintro e w5 ⟨rfl, b5⟩
  go_wp2_with fail
  go_ret
  exact ⟨rfl, Hb4.out.trans (b5.mono Hb4.out.size)⟩


theorem text_walk (w : World) (A : Option Addr) (n c : Nat) (zs : List Int) (h : Rd w w.heap.size 1 A n (zs.map (Value.int .i32))) (hn : n ≤ 35184372087808) (hnil : A = none → n = 0 ∧ c = 0) (hT : U8 w) :
    Calls Tryd.prog 5 #[.slice A n c] w fun e w' => e = .returned (.bool true) ∧ Below w.heap.size w w' := by
  rcases A with _ | a
  · obtain ⟨rfl, rfl⟩ := hnil rfl
    exact text_none w zs h hn hT
  · exact text_some w a n c zs h hn hT

end Go.Proofs.YtjoilamikdbnpaaDoor
