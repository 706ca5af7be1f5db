/- Layer 8, the laws' helpers: same, works. -/
import Derived.Test.YtajpkidjdebolaaRefB8
import Derived.Test.YtajpkidjdebolaaWalkG
set_option linter.unusedSimpArgs false
set_option linter.unusedVariables false
namespace Go.Proofs.Ytajpkidjdebolaa
open Go.RowKit Go.Lib

/-- a list that is read, whatever lies there -/
def RdK (w : World) (A : Option Addr) (n : Nat) (xs : List Int) : Prop := Rd w w.heap.size 1 A n (i8s xs)
theorem RdK.below {w w' : World} {A : Option Addr} {n : Nat} {xs : List Int} (h : RdK w A n xs) (hb : Below w.heap.size w w') : RdK w' A n xs := (Rd.below h hb).more hb.size
theorem RdK.own {w : World} {B n c : Nat} {A : Option Addr} {xs : List Int} (h : w.ownsRow B 23 1 (.slice A n c) n (i8s xs)) : RdK w A n xs := Rd.own h
theorem RdK.len {w : World} {A : Option Addr} {n : Nat} {xs : List Int} (h : RdK w A n xs) : xs.length = n := by have := h.1; simpa using this
theorem RdK.lit (w : World) (l : List Int) (t : TypeId) : RdK (w.alloc (.cells (i8s l).toArray t)) (some ⟨w.heap.size, 0, none⟩) l.length l :=
  ⟨by simp, .inr ⟨_, rfl, by rw [World.size_alloc]; exact Nat.lt_succ_self _, new_cells w (i8s l) t⟩⟩

set_option maxRecDepth 100000 in
set_option maxHeartbeats 1000000 in
theorem same_any8 (xs : List Int) (A A' : Option Addr) (n c c' : Nat) (w : World) (h1 : RdK w A n xs) (h2 : RdK w A' n xs) (hn : n ≤ 140737488355400) :
    Calls Try.prog 12 #[.slice A n c, .slice A' n c'] w fun e w' => e = .returned (.bool true) ∧ Below w.heap.size w w' := by
  have hxl := h1.len
  have H1 := Lib.hid h1
  have H2 := Lib.hid h2
  obtain ⟨Q, hQ⟩ : ∃ Q, w.heap.size = Q := ⟨_, rfl⟩
  rw [hQ]
  have HQ := Lib.hid hQ
  have H0 := Lib.hid (Below.refl Q w)
  clear h1 h2 hQ
  go_enter Try.func12, Try.ntmps12
  go_wp2_with fail
  go_loopw [13] (fun x wr => ∃ (p t : List Int) (W : World), W = wr ∧ Hid (xs = p ++ t) ∧ x = .int .i64 (p.length : Int) ∧ Hid (Below Q w W)) (fun x _ => n - (RowKit.intOf x).toNat)
  case atStart => exact ⟨[], xs, _, rfl, Lib.hid rfl, rfl, H0⟩
  case round =>
    obtain ⟨p, t, W, hW, hx, rfl, HW⟩ := hrel
    subst hW
    have hlen := congrArg List.length hx.out
    rw [hxl, List.length_append] at hlen
    rcases t with _ | ⟨k, t⟩
    · have hpl : p.length = n := by simpa using hlen.symm
      rw [hpl]
      have hnn : ¬ (n : Int) < (n : Int) := by omega
      clear hlen hpl
      go_wp2_with fail
      go_ret
      exact ⟨rfl, HW.out⟩
    · have hQ := HQ.out
      have r1 := H1.out.below (by rw [hQ]; exact HW.out)
      have r2 := H2.out.below (by rw [hQ]; exact HW.out)
      rw [hx.out] at r1 r2
      obtain ⟨a, hA, hin, hc1⟩ := rd_at r1
      obtain ⟨a', hA', _, hc2⟩ := rd_at r2
      subst hA hA'
      have hc1D : W.drew.cell? (a.add p.length) = some (.int .i8 k) := hc1
      have hc2D : W.drew.cell? (a'.add p.length) = some (.int .i8 k) := hc2
      have hnext : IntKind.i64.wrap ((p.length : Int) + 1) = (p.length : Int) + 1 := IntWalk.i64_in _ (by omega)
      have hini : (p.length : Int) < (n : Int) := by omega
      have hsnoc := snoc_len p k
      have Hx := Lib.hid (show xs = (p ++ [k]) ++ t by rw [hx.out]; simp)
      have HD := Lib.hid (below_DD HW.out)
      obtain ⟨q, hq⟩ : ∃ q, p ++ [k] = q := ⟨_, rfl⟩
      obtain ⟨i, hi⟩ : ∃ i, p.length = i := ⟨_, rfl⟩
      rw [hq, hi] at hsnoc
      rw [hq] at Hx
      rw [hi] at hin hc1 hc2 hc1D hc2D hnext hini ⊢
      have hkk : (k != k) = false := by simp
      clear hx hlen hq hi r1 r2 hQ
      go_wp2_with fail
      go_region
      go_wp2_with fail
      go_roundw
      case rel => exact ⟨q, t, _, rfl, Hx, by rw [hsnoc], HD⟩
      case measure => simp [RowKit.intOf]; omega
theorem after_new {Q : Nat} {w W w1 : World} {o : Obj} (h : Below Q w W ∧ Q ≤ W.heap.size) (b : Below (W.alloc o).heap.size (W.alloc o) w1) : Below W.heap.size W w1 ∧ Below Q w w1 ∧ Q ≤ w1.heap.size := by
  have h1 : Below W.heap.size W (W.alloc o) := (Below.refl _ W).alloc (Nat.le_refl _) o
  have h2 : Below W.heap.size W w1 := h1.trans (b.mono h1.size)
  have := h2.size
  exact ⟨h2, h.1.trans (h2.mono h.2), by omega⟩
theorem after_same {Q : Nat} {w W w1 : World} (h : Below Q w W ∧ Q ≤ W.heap.size) (b : Below W.heap.size W w1) : Below Q w w1 ∧ Q ≤ w1.heap.size := by
  have := b.size
  exact ⟨h.1.trans (b.mono h.2), by omega⟩
set_option maxRecDepth 100000 in
set_option maxHeartbeats 2000000 in
theorem works_any8 (w : World) : Calls Try.prog 15 #[] w fun e w' => e = .returned (.bool true) ∧ Below w.heap.size w w' := by
  have HR := Lib.hid (fun A n c s zs w (h : RdK w A n zs) hn => wresolve_any A n c s zs w h hn)
  have HS := Lib.hid (fun k A n c s zs w (h : RdK w A n zs) hn => wstep_any k A n c s zs w h hn)
  have HE := Lib.hid same_any8
  unfold NewAt at HR HS
  have e1 : resZ 0 [2, 8, 3] = [1, 1, 6] := by decide
  have e2 : resZ 1 [3, 7, 3, 5] = [3, 3, 3, 3] := by decide
  have e3 : resZ 0 [3] = [0] := by decide
  have e4 : oneZ 4 0 [3, 7, 3] = [3, 3, 3] := by decide
  obtain ⟨Q, hQ⟩ : ∃ Q, w.heap.size = Q := ⟨_, rfl⟩
  rw [hQ]
  have H0 := Lib.hid (show Below Q w w ∧ Q ≤ w.heap.size from ⟨Below.refl Q w, by omega⟩)
  have E1 := Lib.hid e1
  have E2 := Lib.hid e2
  have E3 := Lib.hid e3
  have E4 := Lib.hid e4
  clear hQ e1 e2 e3 e4
  go_enter Try.func15, Try.ntmps15
  go_wp2_with fail
  refine (HR.out _ 3 _ _ [2, 8, 3] _ (RdK.lit _ [2, 8, 3] _) (by omega)).mono ?_
  rintro _ w1 ⟨A1, c1, rfl, o1, b1⟩
  rw [E1.out] at o1
  have N1 := Lib.hid (after_new H0.out b1)
  have H1 := Lib.hid N1.out.2
  have R1 := Lib.hid (RdK.own o1)
  clear o1 b1 N1 H0
  go_wp2_with fail
  refine (HR.out _ 4 _ _ [3, 7, 3, 5] _ (RdK.lit _ [3, 7, 3, 5] _) (by omega)).mono ?_
  rintro _ w2 ⟨A2, c2, rfl, o2, b2⟩
  rw [E2.out] at o2
  have N2 := Lib.hid (after_new H1.out b2)
  have H2 := Lib.hid N2.out.2
  have R1 := Lib.hid (R1.out.below N2.out.1)
  have R2 := Lib.hid (RdK.own o2)
  clear o2 b2 N2 H1
  go_wp2_with fail
  refine (HR.out _ 1 _ _ [3] _ (RdK.lit _ [3] _) (by omega)).mono ?_
  rintro _ w3 ⟨A3, c3, rfl, o3, b3⟩
  rw [E3.out] at o3
  have N3 := Lib.hid (after_new H2.out b3)
  have H3 := Lib.hid N3.out.2
  have R1 := Lib.hid (R1.out.below N3.out.1)
  have R2 := Lib.hid (R2.out.below N3.out.1)
  have R3 := Lib.hid (RdK.own o3)
  clear o3 b3 N3 H2
  go_wp2_with fail
  refine (HS.out 4 _ 3 _ _ [3, 7, 3] _ (RdK.lit _ [3, 7, 3] _) (by omega)).mono ?_
  rintro _ w4 ⟨A4, c4, rfl, o4, b4⟩
  rw [E4.out] at o4
  have N4 := Lib.hid (after_new H3.out b4)
  have H4 := Lib.hid N4.out.2
  have R1 := Lib.hid (R1.out.below N4.out.1)
  have R2 := Lib.hid (R2.out.below N4.out.1)
  have R3 := Lib.hid (R3.out.below N4.out.1)
  have R4 := Lib.hid (RdK.own o4)
  clear o4 b4 N4 H3
  go_wp2_with fail
  refine (HE.out [1, 1, 6] _ _ 3 _ _ _ (R1.out.below ((Below.refl _ _).alloc (Nat.le_refl _) _)) (RdK.lit _ [1, 1, 6] _) (by omega)).mono ?_
  rintro _ w5 ⟨rfl, b5⟩
  have N5 := Lib.hid (after_new H4.out b5)
  have H5 := Lib.hid N5.out.2
  have R2 := Lib.hid (R2.out.below N5.out.1)
  have R3 := Lib.hid (R3.out.below N5.out.1)
  have R4 := Lib.hid (R4.out.below N5.out.1)
  clear b5 N5 H4
  go_wp2_with fail
  refine (HE.out [3, 3, 3, 3] _ _ 4 _ _ _ (R2.out.below ((Below.refl _ _).alloc (Nat.le_refl _) _)) (RdK.lit _ [3, 3, 3, 3] _) (by omega)).mono ?_
  rintro _ w6 ⟨rfl, b6⟩
  have N6 := Lib.hid (after_new H5.out b6)
  have H6 := Lib.hid N6.out.2
  have R3 := Lib.hid (R3.out.below N6.out.1)
  have R4 := Lib.hid (R4.out.below N6.out.1)
  clear b6 N6 H5
  go_wp2_with fail
  refine (HE.out [0] _ _ 1 _ _ _ (R3.out.below ((Below.refl _ _).alloc (Nat.le_refl _) _)) (RdK.lit _ [0] _) (by omega)).mono ?_
  rintro _ w7 ⟨rfl, b7⟩
  have N7 := Lib.hid (after_new H6.out b7)
  have H7 := Lib.hid N7.out.2
  have R4 := Lib.hid (R4.out.below N7.out.1)
  clear b7 N7 H6
  go_wp2_with fail
  refine (HE.out [3, 3, 3] _ _ 3 _ _ _ (R4.out.below ((Below.refl _ _).alloc (Nat.le_refl _) _)) (RdK.lit _ [3, 3, 3] _) (by omega)).mono ?_
  rintro _ w8 ⟨rfl, b8⟩
  have N8 := Lib.hid (after_new H7.out b8)
  have H8 := Lib.hid N8.out.2
  clear b8 N8 H7
  go_wp2_with fail
  go_ret
  exact ⟨rfl, H8.out.1⟩
end Go.Proofs.Ytajpkidjdebolaa
