/- The document's Spans: of a number that is no table's too; two lists of spans held against each other. -/
import Derived.Test.YthakdkpgobloiabWant
namespace Go.Proofs.Ythakdkpgobloiab
open Go.RowKit Go.Lib

set_option maxRecDepth 100000 in
set_option maxHeartbeats 2000000 in
theorem want_no (t v : Int) (ht : t < 0 ∨ 5 < t) (w : World) : Calls Try.prog 16 #[.int .i8 t, .int .i64 v] w fun e w' => e = .returned (.slice none 0 0) ∧ Below w.heap.size w w' := by
  obtain ⟨B, hB⟩ : ∃ B, w.heap.size = B := ⟨_, rfl⟩
  have hval := fun x W => value_no t x ht W
  have hb := borders_any w
  rw [hB] at hb ⊢
  have hcB : ∀ (k n : Nat), bordL[k]? = some n → (w.alloc (.cells ((bordL.map fun (n : Nat) => (n : Int)).map (Value.int .i32)).toArray 21)).cell? ⟨B, k, none⟩ = some (.int .i32 (n : Int)) := by
    intro k n hk
    have := new_cells w ((bordL.map fun (n : Nat) => (n : Int)).map (Value.int .i32)) 21 k (.int .i32 (n : Int)) (by simp [List.getElem?_map, hk])
    rwa [Addr.add_lit, Nat.zero_add, hB] at this
  have hbB : Below B w (w.alloc (.cells ((bordL.map fun (n : Nat) => (n : Int)).map (Value.int .i32)).toArray 21)) := by
    have := (Below.refl B w).alloc (by omega) (.cells ((bordL.map fun (n : Nat) => (n : Int)).map (Value.int .i32)).toArray 21)
    exact this
  revert hb hcB hbB
  generalize w.alloc (.cells ((bordL.map fun (n : Nat) => (n : Int)).map (Value.int .i32)).toArray 21) = w1
  intro hb hcB hbB
  have hbl : bordL.length = 458 := by decide +kernel
  have Hval := Lib.hid hval
  have HbB := Lib.hid hbB
  have HcB := Lib.hid hcB
  have Hb := Lib.hid hb
  have Hbl := Lib.hid hbl
  clear hval hb hcB hbB hB ht hbl
  go_enter Try.func16, Try.ntmps16
  go_wp2_with fail
  refine Hb.out.mono ?_
  rintro _ w' ⟨rfl, rfl⟩
  go_wp2_with fail
  go_loopw [5, 7] (fun u i wr => ∃ (k : Nat) (W : World), W = wr ∧ u = .slice none 0 0 ∧ i = .int .i64 (k : Int) ∧ k ≤ 457 ∧ Hid (W = w')) (fun _ i _ => 457 - (RowKit.intOf i).toNat)
  case atStart => exact ⟨0, _, rfl, rfl, rfl, by omega, by unfold Hid; rfl⟩
  case round =>
    obtain ⟨k, W, hW, rfl, rfl, hk, hww⟩ := hrel
    subst hW
    by_cases hkn : k < 457
    · have hkz : (k : Int) + 1 < 458 := by omega
      obtain ⟨lo, hlo⟩ : ∃ lo, bordL[k]? = some lo := ⟨_, List.getElem?_eq_getElem (by rw [Hbl.out]; omega)⟩
      have d1 := HcB.out _ _ hlo
      rw [← hww.out] at d1
      clear hlo
      go_wp2_with fail
      refine (Hval.out _ _).mono ?_
      rintro _ W' ⟨rfl, rfl⟩
      go_wp2_with fail
      exact ⟨⟨k + 1, _, rfl, rfl, rfl, by omega, hww⟩, by simp [RowKit.intOf]; omega⟩
    · obtain rfl : k = 457 := by omega
      have hz : ¬ ((457 : Int) + 1 < 458) := by omega
      go_wp2_with fail
      go_ret
      exact ⟨rfl, by rw [hww.out]; exact HbB.out⟩

theorem want_any (t v : Int) (w : World) : Calls Try.prog 16 #[.int .i8 t, .int .i64 v] w fun e w' => ∃ u, e = .returned u ∧ w'.ownsRow w.heap.size 35 2 u (spansFrom (tabAt t) v).length (spCells (spansFrom (tabAt t) v)) ∧ Below w.heap.size w w' := by
  by_cases h : 0 ≤ t ∧ t ≤ 5
  · exact want_yes t v h w
  · refine (want_no t v (by omega) w).mono fun e w' hh => ?_
    rw [tabAt_no t (by omega)]
    exact ⟨_, hh.1, World.ownsRow_nil _ _ _ _, hh.2⟩

/-- a list of spans that lies at a block's start -/
def Lies (w : World) (A : Option Addr) (l : List (Nat × Nat)) : Prop := l.length = 0 ∨ ∃ g, A = some ⟨g, 0, none⟩ ∧ ∀ i u, (spCells l)[i]? = some u → w.cell? ⟨g, i, none⟩ = some u
theorem own_lies {w : World} {base c n : Nat} {e : TypeId} {A : Option Addr} {l : List (Nat × Nat)} (hn : n = l.length) (h : w.ownsRow base e 2 (.slice A n c) n (spCells l)) : Lies w A l := by
  rcases Nat.eq_zero_or_pos n with h0 | h0
  · exact .inl (by omega)
  · obtain ⟨g, cap, hv, _, _⟩ := h.form h0
    have hA : A = some ⟨g, 0, none⟩ := by injection hv
    subst hA
    exact .inr ⟨g, rfl, fun i u hu => by have := h.cells (g := g) rfl i u hu; rwa [Addr.add_lit, Nat.zero_add] at this⟩
set_option maxRecDepth 100000 in
set_option maxHeartbeats 2000000 in
theorem same_yes (l : List (Nat × Nat)) (n : Nat) (hn : l.length = n) (hsm : n ≤ 1000000) (A B : Option Addr) (c d : Nat) (w : World) (hx : Lies w A l) (hy : Lies w B l) : Calls Try.prog 18 #[.slice A n c, .slice B n d] w fun e w' => e = .returned (.bool true) ∧ ∃ q, w' = w.drewN q := by
  have Hx := Lib.hid hx
  have Hy := Lib.hid hy
  have Hn := Lib.hid hn
  clear hx hy hn
  have hne : ((n : Int) != n) = false := by simp
  go_enter Try.func18, Try.ntmps18
  go_wp2
  go_loopw [13] (fun i wr => ∃ k q : Nat, k ≤ n ∧ i = .int .i64 k ∧ wr = w.drewN q) (fun i _ => n - (intOf i).toNat)
  case atStart => exact ⟨0, 0, Nat.zero_le _, rfl, rfl⟩
  case round =>
    obtain ⟨k, q, hk, rfl, rfl⟩ := hrel
    by_cases hkn : k < n
    · obtain ⟨g, hA, cx⟩ := Hx.out.resolve_left (by have := Hn.out; omega)
      obtain ⟨h, hB, cy⟩ := Hy.out.resolve_left (by have := Hn.out; omega)
      subst hA hB
      obtain ⟨s1, s2⟩ := spCells_at l k (by rw [Hn.out]; exact hkn)
      have a1 := cx _ _ s1
      have a2 := cx _ _ s2
      have b1 := cy _ _ s1
      have b2 := cy _ _ s2
      obtain ⟨lo, hlo⟩ : ∃ lo, (l[k]'(by rw [Hn.out]; exact hkn)).1 = lo := ⟨_, rfl⟩
      obtain ⟨hi, hhi⟩ : ∃ hi, (l[k]'(by rw [Hn.out]; exact hkn)).2 = hi := ⟨_, rfl⟩
      rw [hlo] at a1 b1
      rw [hhi] at a2 b2
      clear cx cy s1 s2 hlo hhi
      go_wp2
      go_quiet (fail)
      go_wp2
      go_roundw
      case rel => exact ⟨k + 1, _, by omega, by go_num, rfl⟩
      case measure => simp [intOf]; omega
    · go_wp2
      go_ret
      exact ⟨rfl, _, rfl⟩
end Go.Proofs.Ythakdkpgobloiab
