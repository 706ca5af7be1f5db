/- The scanner's step: take. -/
import Derived.Test.YthkapcnhfdpdbaaDoorClassG
import Derived.Test.YthkapcnhfdpdbaaDoorScanA
import Derived.Test.YthkapcnhfdpdbaaDoorSeqA
import Derived.Deep.QuietTactic
import Derived.Deep.RegionHeld3
import Derived.BigQuiet
set_option linter.unusedSimpArgs false
set_option linter.unusedVariables false
namespace Go.Proofs.YthkapcnhfdpdbaaDoor
open Go.RowKit Go.Lib

/-- the scanner lies at block g: the text, the end of what is taken, how many are taken -/
def Rdr (W : World) (g : Nat) (s : ByteArray) (p n : Nat) : Prop := W.heap[g]? = some (.cells #[.string s, .int .i64 (p : Int), .int .i64 (n : Int)] 87)
theorem Rdr.c0 {W : World} {g : Nat} {s : ByteArray} {p n : Nat} (h : Rdr W g s p n) : W.cell? ⟨g, 0, none⟩ = some (.string s) := by simp [World.cell?, show W.heap[g]? = _ from h]
theorem Rdr.c1 {W : World} {g : Nat} {s : ByteArray} {p n : Nat} (h : Rdr W g s p n) : W.cell? ⟨g, 1, none⟩ = some (.int .i64 (p : Int)) := by simp [World.cell?, show W.heap[g]? = _ from h]
theorem Rdr.c2 {W : World} {g : Nat} {s : ByteArray} {p n : Nat} (h : Rdr W g s p n) : W.cell? ⟨g, 2, none⟩ = some (.int .i64 (n : Int)) := by simp [World.cell?, show W.heap[g]? = _ from h]
theorem Rdr.f {W : World} {g : Nat} {s : ByteArray} {p n : Nat} (h : Rdr W g s p n) (j : Nat) : W.frozen? ⟨g, j, none⟩ = false := by simp [World.frozen?, show W.heap[g]? = _ from h]
theorem Rdr.lt {W : World} {g : Nat} {s : ByteArray} {p n : Nat} (h : Rdr W g s p n) : g < W.heap.size := (Array.getElem?_eq_some_iff.1 h).1
theorem Rdr.below {W W' : World} {g : Nat} {s : ByteArray} {p n : Nat} (h : Rdr W g s p n) (hb : Below W.heap.size W W') : Rdr W' g s p n := (hb.block g h.lt).trans h

theorem Rdr.set1 {W : World} {g : Nat} {s : ByteArray} {p n : Nat} (q : Nat) (h : Rdr W g s p n) : Rdr (W.setCell ⟨g, 1, none⟩ (.int .i64 (q : Int))) g s q n := by
  obtain ⟨hlt, hk⟩ := Array.getElem?_eq_some_iff.1 h
  show (W.heap.modify g _)[g]? = _
  rw [Array.getElem?_eq_getElem (by rw [Array.size_modify]; exact hlt), Array.getElem_modify_self, hk]
  rfl
theorem Rdr.set2 {W : World} {g : Nat} {s : ByteArray} {p n : Nat} (m : Nat) (h : Rdr W g s p n) : Rdr (W.setCell ⟨g, 2, none⟩ (.int .i64 (m : Int))) g s p m := by
  obtain ⟨hlt, hk⟩ := Array.getElem?_eq_some_iff.1 h
  show (W.heap.modify g _)[g]? = _
  rw [Array.getElem?_eq_getElem (by rw [Array.size_modify]; exact hlt), Array.getElem_modify_self, hk]
  rfl
theorem Moves.setCell (W : World) (g o : Nat) (v : Value) : Moves (fun k => k = g) W (W.setCell ⟨g, o, none⟩ v) :=
  ⟨rfl, rfl, rfl, by simp, fun k _ hk => Below.heap_setCell _ _ _ k hk⟩
set_option maxRecDepth 100000 in
set_option maxHeartbeats 1000000 in
theorem take_any (s : ByteArray) (g p n wanted v : Nat) (W : World) (hR : Rdr W g s p n) (hT : Utf8Tabs 0 1 W) (hp : p ≤ s.size) (hm : s.size ≤ 140737488351232) (hn : n ≤ 32)
    (hv : (((nxt (s.data.toList.drop p)).2 = 0 ∨ n = 32) ∧ v = 0) ∨ ((nxt (s.data.toList.drop p)).2 ≠ 0 ∧ n ≠ 32 ∧ bits .and .u16 (roleN (nxt (s.data.toList.drop p)).1 (nxt (s.data.toList.drop p)).2 : Nat) (wanted : Nat) = (v : Nat))) (hd4 : (nxt (s.data.toList.drop p)).2 ≤ 4) :
    Calls Tryd.prog 62 #[.pointer (some ⟨g, 0, none⟩), .int .u16 (wanted : Int)] W fun e w' => e = .returned (.int .u16 (v : Int)) ∧ (v = 0 → Below W.heap.size W w') ∧ (v ≠ 0 → Rdr w' g s (p + (nxt (s.data.toList.drop p)).2) (n + 1) ∧ Moves (fun k => k = g) W w') := by
  have hN : ∀ W', Utf8Tabs 0 1 W' → Calls Tryd.prog 24 #[.string (s.extract p s.size)] W' fun e w' => e = .returned (.tuple #[.int .i32 (nxt (s.data.toList.drop p)).1, .int .i64 (nxt (s.data.toList.drop p)).2]) ∧ Below W'.heap.size W' w' := fun W' h => by
    have := next_any (s.extract p s.size) W' h
    rwa [drop_list] at this
  have hro := fun W => role_any (nxt (s.data.toList.drop p)).1 (nxt (s.data.toList.drop p)).2 W
  revert hv hd4 hN hro
  generalize nxt (s.data.toList.drop p) = d
  intro hv hd4 hN hro
  have HN := Lib.hid hN
  have Hro := Lib.hid hro
  have hTd : Hid (Utf8Tabs 0 1 W.drew) := Lib.hid hT
  have c0d : W.drew.cell? ⟨g, 0, none⟩ = some (.string s) := hR.c0
  have c1d : W.drew.cell? ⟨g, 1, none⟩ = some (.int .i64 (p : Int)) := hR.c1
  have c2d : W.drew.cell? ⟨g, 2, none⟩ = some (.int .i64 (n : Int)) := hR.c2
  have hlt : g < W.drew.heap.size := hR.lt
  have HR : Hid (Rdr W.drew g s p n) := Lib.hid hR
  have hp1 : (0 : Int) ≤ (p : Int) := by omega
  have hp2 : (p : Int) ≤ (s.size : Int) := by omega
  clear hR hN hT hro
  go_enter Tryd.func62, Tryd.ntmps62
  go_wp2_with fail
  go_region_held3 (fun w' => w'.cell? ⟨g, 0, none⟩ = some (.string s) ∧ w'.cell? ⟨g, 1, none⟩ = some (.int .i64 (p : Int))) (first | exact ⟨c0d, c1d⟩ | exact ⟨e0, e1⟩)
    (first | (go_at_call 24; refine (HN.out _ hTd.out).mono ?_; rintro e w1 ⟨rfl, b1⟩; have e0 := (b1.cell (p := ⟨g, 0, none⟩) hlt).trans c0d; have e1 := (b1.cell (p := ⟨g, 1, none⟩) hlt).trans c1d; have e2 := (b1.cell (p := ⟨g, 2, none⟩) hlt).trans c2d))
  have hr1 := Lib.hid (HR.out.below b1)
  have B1 : Hid (Below W.heap.size W w1) := Lib.hid ((Below.refl W.heap.size W).drew.trans b1)
  clear b1 c0d c1d c2d hlt
  rcases hv with ⟨hz | hz, rfl⟩ | ⟨hz, h32, hbits⟩
  · have hz0 : ((d.2 : Int) == 0) = true := by simp; omega
    clear hz
    go_wp2_with fail
    go_ret
    first | exact ⟨rfl, B1.out⟩ | exact ⟨rfl, fun _ => B1.out, fun h => absurd rfl h⟩
  · by_cases h0 : d.2 = 0
    · have hz0 : ((d.2 : Int) == 0) = true := by simp; omega
      clear hz
      go_wp2_with fail
      go_ret
      first | exact ⟨rfl, B1.out⟩ | exact ⟨rfl, fun _ => B1.out, fun h => absurd rfl h⟩
    · have hz0 : ((d.2 : Int) == 0) = false := by simp; omega
      have hz1 : ((n : Int) == 32) = true := by simp; omega
      clear hz h0
      go_wp2_with fail
      go_ret
      first | exact ⟨rfl, B1.out⟩ | exact ⟨rfl, fun _ => B1.out, fun h => absurd rfl h⟩
  · have hz0 : ((d.2 : Int) == 0) = false := by simp; omega
    have hz1 : ((n : Int) == 32) = false := by simp; omega
    clear hz h32
    go_wp2_with fail
    refine (Hro.out _).mono ?_
    rintro _ w2 ⟨rfl, b2⟩
    have hr2 := Lib.hid (hr1.out.below b2)
    have B2 := Lib.hid (B1.out.trans (b2.mono B1.out.size))
    clear b2
    by_cases hv0 : v = 0
    · subst hv0
      go_wp2_with fail
      go_ret
      first | exact ⟨rfl, B2.out⟩ | exact ⟨rfl, fun _ => B2.out, fun h => absurd rfl h⟩
    · have hvb : ((v : Int) != 0) = true := by simp; omega
      have x1 := hr2.out.c1
      have x2 := hr2.out.c2
      have y1 := hr2.out.f 1
      have y2 := hr2.out.f 2
      have hw1 : IntKind.i64.wrap ((p : Int) + (d.2 : Int)) = ((p + d.2 : Nat) : Int) := by rw [IntWalk.i64_in _ (by omega)]; omega
      have hw2 : IntKind.i64.wrap ((n : Int) + 1) = ((n + 1 : Nat) : Int) := by rw [IntWalk.i64_in _ (by omega)]; omega
      go_wp2_with fail
      go_ret
      rw [show (p : Int) + (d.2 : Int) = ((p + d.2 : Nat) : Int) by omega, show (n : Int) + 1 = ((n + 1 : Nat) : Int) by omega]
      exact ⟨rfl, fun h => absurd h hv0, fun _ => ⟨(hr2.out.set1 _).set2 _, ((Moves.of_below _ B2.out).trans' (Moves.setCell _ g 1 _)).trans' (Moves.setCell _ g 2 _)⟩⟩
end Go.Proofs.YthkapcnhfdpdbaaDoor
