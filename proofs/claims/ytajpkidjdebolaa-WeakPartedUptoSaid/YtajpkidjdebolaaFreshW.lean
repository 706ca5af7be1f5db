/- Layer 8, the laws' helpers: fresh. -/
import Derived.Test.YtajpkidjdebolaaFreshP
import Derived.Test.YtajpkidjdebolaaWalkG
set_option linter.unusedSimpArgs false
set_option linter.unusedVariables false
namespace Go.Proofs.Ytajpkidjdebolaa
open Go.RowKit Go.Lib

/-- two that were handed out, written full, and what grew out of each -/
structure FI (w0 : World) (Q : Nat) (A : Option Addr) (c : Nat) (A' : Option Addr) (c' n m m' : Nat) (v v' : Value) (w : World) : Prop where
  gx : GrowI w0 Q A n c 101 m v w
  gy : GrowI w0 Q A' n c' 102 m' v' w
  below : Below Q w0 w
  size : Q ≤ w.heap.size
  hA : n = 0 ∨ ∃ g, A = some ⟨g, 0, none⟩
  hA' : n = 0 ∨ ∃ g, A' = some ⟨g, 0, none⟩
  la : ∀ g, (Value.slice A n c).ownBlock = some g → g < w.heap.size
  lb : ∀ g, (Value.slice A' n c').ownBlock = some g → g < w.heap.size
  xy : ∀ g, v.ownBlock = some g → v'.ownBlock ≠ some g
  xb : ∀ g, v.ownBlock = some g → (Value.slice A' n c').ownBlock ≠ some g
  ya : ∀ g, v'.ownBlock = some g → (Value.slice A n c).ownBlock ≠ some g
section
variable {w0 w w' : World} {Q c c' n m m' : Nat} {A A' : Option Addr} {v v' u : Value}
theorem FI.alloc (h : FI w0 Q A c A' c' n m m' v v' w) (o : Obj) : FI w0 Q A c A' c' n m m' v v' (w.alloc o) := by
  have hg : w.grownBy (w.alloc o) none := World.grownBy_alloc w o none
  have hs : w.heap.size ≤ (w.alloc o).heap.size := hg.size
  exact ⟨h.gx.other h.hA h.la hg (fun _ e => by cases e) (fun _ e => by cases e), h.gy.other h.hA' h.lb hg (fun _ e => by cases e) (fun _ e => by cases e), h.below.alloc h.size o, Nat.le_trans h.size hs, h.hA, h.hA',
    fun g e => Nat.lt_of_lt_of_le (h.la g e) hs, fun g e => Nat.lt_of_lt_of_le (h.lb g e) hs, h.xy, h.xb, h.ya⟩
theorem FI.putx (h : FI w0 Q A c A' c' n m m' v v' w) (hm : n ≤ m)
    (ho : w'.ownsRow Q 23 1 u (m + 1) (i8s (List.replicate m 101) ++ [.int .i8 101])) (hg : w.grownBy w' v.ownBlock) (ha : u.ownBlock = v.ownBlock ∨ (u.ownBlock = some w.heap.size ∧ w.grownBy w' none)) : FI w0 Q A c A' c' n (m + 1) m' u v' w' := by
  have hs := hg.size
  have hv' : ∀ g, v'.ownBlock = some g → g < w.heap.size := fun g e => (h.gy.own.lt g e).2
  refine ⟨h.gx.put hm h.hA h.la ho hg ha, h.gy.other h.hA' h.lb hg (fun g e => h.xy g e) (fun g e => h.xb g e), h.below.grown hg h.size (fun g e => (h.gx.own.lt g e).1), Nat.le_trans h.size hs, h.hA, h.hA',
    fun g e => Nat.lt_of_lt_of_le (h.la g e) hs, fun g e => Nat.lt_of_lt_of_le (h.lb g e) hs, fun g e => ?_, fun g e => ?_, h.ya⟩
  · rcases ha with ha | ⟨ha, _⟩
    · exact h.xy g (ha ▸ e)
    · rw [ha] at e
      injection e with e
      exact fun e' => by have := hv' g e'; omega
  · rcases ha with ha | ⟨ha, _⟩
    · exact h.xb g (ha ▸ e)
    · rw [ha] at e
      injection e with e
      exact fun e' => by have := h.lb g e'; omega
theorem FI.puty (h : FI w0 Q A c A' c' n m m' v v' w) (hm : n ≤ m')
    (ho : w'.ownsRow Q 23 1 u (m' + 1) (i8s (List.replicate m' 102) ++ [.int .i8 102])) (hg : w.grownBy w' v'.ownBlock) (ha : u.ownBlock = v'.ownBlock ∨ (u.ownBlock = some w.heap.size ∧ w.grownBy w' none)) : FI w0 Q A c A' c' n m (m' + 1) v u w' := by
  have hs := hg.size
  have hv : ∀ g, v.ownBlock = some g → g < w.heap.size := fun g e => (h.gx.own.lt g e).2
  refine ⟨h.gx.other h.hA h.la hg (fun g e e' => h.xy g e' e) (fun g e => h.ya g e), h.gy.put hm h.hA' h.lb ho hg ha, h.below.grown hg h.size (fun g e => (h.gy.own.lt g e).1), Nat.le_trans h.size hs, h.hA, h.hA',
    fun g e => Nat.lt_of_lt_of_le (h.la g e) hs, fun g e => Nat.lt_of_lt_of_le (h.lb g e) hs, fun g e e' => ?_, h.xb, fun g e => ?_⟩
  · rcases ha with ha | ⟨ha, _⟩
    · exact h.xy g e (ha ▸ e')
    · rw [ha] at e'
      injection e' with e'
      have := hv g e
      omega
  · rcases ha with ha | ⟨ha, _⟩
    · exact h.ya g (ha ▸ e)
    · rw [ha] at e
      injection e with e
      exact fun e' => by have := h.la g e'; omega
end
theorem FI.addx {w0 w w' : World} {Q c c' n m m' : Nat} {A A' : Option Addr} {v v' u : Value} {o : Obj} (h : FI w0 Q A c A' c' n m m' v v' w) (hm : n ≤ m)
    (ho : w'.ownsRow Q 23 1 u (m + 1) (List.replicate m (.int .i8 101) ++ [.int .i8 101])) (hg : (w.alloc o).grownBy w' v.ownBlock) (ha : u.ownBlock = v.ownBlock ∨ (u.ownBlock = some (w.heap.size + 1) ∧ (w.alloc o).grownBy w' none)) : FI w0 Q A c A' c' n (m + 1) m' u v' w' := by
  refine FI.putx (h.alloc o) hm ?_ hg ?_
  · rw [show i8s (List.replicate m 101) = List.replicate m (.int .i8 101) from List.map_replicate ..]
    exact ho
  · rw [World.size_alloc]
    exact ha
theorem FI.addy {w0 w w' : World} {Q c c' n m m' : Nat} {A A' : Option Addr} {v v' u : Value} {o : Obj} (h : FI w0 Q A c A' c' n m m' v v' w) (hm : n ≤ m')
    (ho : w'.ownsRow Q 23 1 u (m' + 1) (List.replicate m' (.int .i8 102) ++ [.int .i8 102])) (hg : (w.alloc o).grownBy w' v'.ownBlock) (ha : u.ownBlock = v'.ownBlock ∨ (u.ownBlock = some (w.heap.size + 1) ∧ (w.alloc o).grownBy w' none)) : FI w0 Q A c A' c' n m (m' + 1) v u w' := by
  refine FI.puty (h.alloc o) hm ?_ hg ?_
  · rw [show i8s (List.replicate m' 102) = List.replicate m' (.int .i8 102) from List.map_replicate ..]
    exact ho
  · rw [World.size_alloc]
    exact ha
/-- a row of one number, at a place -/
theorem rep_cell {w : World} {A : Option Addr} {m : Nat} {k : Int} (h : RdK w A m (List.replicate m k)) {i : Nat} (hi : i < m) : ∃ a, A = some a ∧ w.cell? (a.add i) = some (.int .i8 k) := by
  obtain ⟨a, e, _, hc⟩ := Rd.addr h (by omega)
  exact ⟨a, e, hc i _ (by rw [List.getElem?_map, List.getElem?_replicate, if_pos hi]; rfl)⟩
theorem new_at (w : World) (x : Value) (t : TypeId) : (w.alloc (.cells #[x] t)).cell? ⟨w.heap.size, 0, none⟩ = some x := by
  have h := cell_one_new w x t 0 x rfl
  have : (⟨w.heap.size, 0, none⟩ : Addr).add 0 = ⟨w.heap.size, 0, none⟩ := by unfold Addr.add; rw [if_pos rfl]
  rw [this] at h
  exact h
theorem own_addr {w : World} {B n c : Nat} {A : Option Addr} {xs : List Value} (h : w.ownsRow B 23 1 (.slice A n c) n xs) : n = 0 ∨ ∃ g, A = some ⟨g, 0, none⟩ := by
  rcases Nat.eq_zero_or_pos n with h0 | h0
  · exact .inl h0
  · obtain ⟨g, cap, hv, _, _⟩ := h.form h0
    injection hv with hA
    exact .inr ⟨g, hA⟩
set_option maxRecDepth 100000 in
set_option maxHeartbeats 4000000 in
theorem fresh_any8 (Q : Nat) (A A' : Option Addr) (n c c' : Nat) (xs ys : List Int) (w : World) (ha : w.ownsRow Q 23 1 (.slice A n c) n (i8s xs)) (hb : w.ownsRow Q 23 1 (.slice A' n c') n (i8s ys))
    (hd : ∀ g, (Value.slice A n c).ownBlock = some g → (Value.slice A' n c').ownBlock ≠ some g) (hn : n ≤ 140737488351232) (hQ : Q ≤ w.heap.size) :
    Calls Try.prog 14 #[.slice A n c, .slice A' n c'] w fun e w' => e = .returned (.bool true) ∧ Below Q w w' := by
  obtain ⟨i0, hi, hz0, hz1, hz2⟩ := info_parts i8_info
  have hxl : xs.length = n := by have := ha.1; simpa using this
  have hyl : ys.length = n := by have := hb.1; simpa using this
  have hAa := own_addr ha
  have hAb := own_addr hb
  have HAa := Lib.hid hAa
  have HAb := Lib.hid hAb
  have Hd := Lib.hid hd
  have H0 := Lib.hid (show w.ownsRow Q 23 1 (.slice A n c) n (i8s (List.replicate 0 101 ++ xs)) ∧ w.ownsRow Q 23 1 (.slice A' n c') n (i8s ys) ∧ Below Q w w ∧ Q ≤ w.heap.size from ⟨ha, hb, Below.refl _ _, hQ⟩)
  have Hyl := Lib.hid hyl
  clear ha hb hd hAa hAb hyl hQ
  go_enter Try.func14, Try.ntmps14
  go_wp2_with fail
  go_loopw [13] (fun x wr => ∃ (i : Nat) (t : List Int) (W : World), W = wr ∧ x = .int .i64 (i : Int) ∧ i + t.length = n ∧ Hid (W.ownsRow Q 23 1 (.slice A n c) n (i8s (List.replicate i 101 ++ t)) ∧ W.ownsRow Q 23 1 (.slice A' n c') n (i8s ys) ∧ Below Q w W ∧ Q ≤ W.heap.size)) (fun x _ => n - (RowKit.intOf x).toNat)
  case atStart => exact ⟨0, xs, _, rfl, rfl, by omega, H0⟩
  case round =>
    obtain ⟨i, t, W, hW, rfl, hit, HI⟩ := hrel
    subst hW
    rcases t with _ | ⟨k, t⟩
    · have hin : i = n := by simpa using hit
      subst hin
      have hnn : ¬ (i : Int) < (i : Int) := by omega
      have H1 := Lib.hid (show W.ownsRow Q 23 1 (.slice A i c) i (i8s (List.replicate i 101)) ∧ W.ownsRow Q 23 1 (.slice A' i c') i (i8s (List.replicate 0 102 ++ ys)) ∧ Below Q w W ∧ Q ≤ W.heap.size from ⟨by have := HI.out.1; simpa using this, HI.out.2⟩)
      clear HI hit H0
      go_wp2_with fail
      go_loopw [22] (fun x wr => ∃ (j : Nat) (t : List Int) (W : World), W = wr ∧ x = .int .i64 (j : Int) ∧ j + t.length = i ∧ Hid (W.ownsRow Q 23 1 (.slice A i c) i (i8s (List.replicate i 101)) ∧ W.ownsRow Q 23 1 (.slice A' i c') i (i8s (List.replicate j 102 ++ t)) ∧ Below Q w W ∧ Q ≤ W.heap.size)) (fun x _ => i - (RowKit.intOf x).toNat)
      case atStart => exact ⟨0, ys, _, rfl, rfl, by have := Hyl.out; omega, H1⟩
      case round =>
        obtain ⟨j, t, W2, hW2, rfl, hjt, HJ⟩ := hrel
        subst hW2
        rcases t with _ | ⟨k, t⟩
        · have hjn : j = i := by simpa using hjt
          subst hjn
          have hnn : ¬ (j : Int) < (j : Int) := by omega
          have HF := Lib.hid (show FI w Q A c A' c' j (j + 0) (j + 0) (.slice A j c) (.slice A' j c') W2 from by
            obtain ⟨h1, h2, h3, h4⟩ := HJ.out
            rw [List.append_nil] at h2
            exact ⟨⟨h1, RdK.own h1, .inl rfl⟩, ⟨h2, RdK.own h2, .inl rfl⟩, h3, h4, HAa.out, HAb.out, fun g e => (h1.lt g e).2, fun g e => (h2.lt g e).2, Hd.out, Hd.out, fun g e e' => Hd.out g e' e⟩)
          clear HJ hjt H1 HAa HAb Hd
          go_wp2_with fail
          go_loopw [7, 8, 31] (fun vx vy x wr => ∃ (q : Nat) (W : World), W = wr ∧ x = .int .i64 (q : Int) ∧ q ≤ 40 ∧ Hid (FI w Q A c A' c' j (j + q) (j + q) vx vy W)) (fun _ _ x _ => 40 - (RowKit.intOf x).toNat)
          case atStart => exact ⟨0, _, rfl, rfl, by omega, HF⟩
          case round =>
            obtain ⟨q, W3, hW3, rfl, hq, HG⟩ := hrel
            subst hW3
            by_cases hq4 : q = 40
            · subst hq4
              obtain ⟨Ax, cx, hvx, _, _⟩ := own_shape HG.out.gx.own
              obtain ⟨Ay, cy, hvy, _, _⟩ := own_shape HG.out.gy.own
              subst hvx hvy
              have HX := Lib.hid (show RdK W3 Ax (j + 40) (List.replicate (j + 40) 101) ∧ RdK W3 Ay (j + 40) (List.replicate (j + 40) 102) ∧ RdK W3 A j (List.replicate j 101) ∧ RdK W3 A' j (List.replicate j 102) ∧ Below Q w W3 from ⟨RdK.own HG.out.gx.own, RdK.own HG.out.gy.own, HG.out.gx.old, HG.out.gy.old, HG.out.below⟩)
              obtain ⟨m, hm⟩ : ∃ m, j + 40 = m := ⟨_, rfl⟩
              rw [hm] at HX ⊢
              have hmb : m ≤ 140737488351272 := by omega
              clear HG HF hm hq
              go_wp2_with fail
              go_loopw [42] (fun x wr => wr = W3 ∧ ∃ (i : Nat), i ≤ m ∧ x = .int .i64 (i : Int)) (fun x _ => m - (RowKit.intOf x).toNat)
              case atStart => exact ⟨rfl, 0, Nat.zero_le _, rfl⟩
              case round =>
                obtain ⟨hw3, i, him, rfl⟩ := hrel
                subst hw3
                by_cases hlt : i < m
                · obtain ⟨a, hA, hc1⟩ := rep_cell HX.out.1 hlt
                  obtain ⟨b, hB, hc2⟩ := rep_cell HX.out.2.1 hlt
                  subst hA hB
                  have hini : (i : Int) < (m : Int) := by omega
                  have hnext : IntKind.i64.wrap ((i : Int) + 1) = (i : Int) + 1 := IntWalk.i64_in _ (by omega)
                  go_wp2_with fail
                  go_roundw
                  case rel => exact ⟨trivial, i + 1, by omega, by first | rfl | go_num⟩
                  case measure => simp [RowKit.intOf]; omega
                · obtain rfl : m = i := by omega
                  have hnn2 : ¬ (m : Int) < (m : Int) := by omega
                  clear him hlt
                  obtain ⟨WW, hWW⟩ : ∃ WW, WW = wr := ⟨_, rfl⟩
                  subst hWW
                  go_wp2_with fail
                  go_loopw [60] (fun x wr => wr = WW ∧ ∃ (i : Nat), i ≤ j ∧ x = .int .i64 (i : Int)) (fun x _ => j - (RowKit.intOf x).toNat)
                  case atStart => exact ⟨rfl, 0, Nat.zero_le _, rfl⟩
                  case round =>
                    obtain ⟨hw4, i, hij, rfl⟩ := hrel
                    subst hw4
                    by_cases hlt : i < j
                    · obtain ⟨a, hA, hc1⟩ := rep_cell HX.out.2.2.1 hlt
                      obtain ⟨b, hB, hc2⟩ := rep_cell HX.out.2.2.2.1 hlt
                      subst hA hB
                      have hini : (i : Int) < (j : Int) := by omega
                      have hnext : IntKind.i64.wrap ((i : Int) + 1) = (i : Int) + 1 := IntWalk.i64_in _ (by omega)
                      go_wp2_with fail
                      go_roundw
                      case rel => exact ⟨trivial, i + 1, by omega, by first | rfl | go_num⟩
                      case measure => simp [RowKit.intOf]; omega
                    · obtain rfl : j = i := by omega
                      have hnn3 : ¬ (j : Int) < (j : Int) := by omega
                      clear hij hlt
                      go_wp2_with fail
                      go_ret
                      exact ⟨rfl, HX.out.2.2.2.2⟩
            · have hqi : (q : Int) < 40 := by omega
              have hqn : IntKind.i64.wrap ((q : Int) + 1) = (q : Int) + 1 := IntWalk.i64_in _ (by omega)
              have hQ3 : Q ≤ W3.heap.size := HG.out.size
              go_wp2_with (at_builtin; refine wpList_put_own _ rfl _ _ 22 rfl Q 23 i0 _ Try.underlying22 hi hz0 hz1 hz2 rfl _ _ _ rfl (HG.out.alloc _).gx.own ⟨W3.heap.size, 0, none⟩ (.int .i8 101) rfl ?p1 rfl ?p2 ?p3 ?p4 ?_)
              case p1 => exact new_at W3 _ _
              case p2 => unfold maxLen; omega
              case p3 => omega
              case p4 => rw [World.size_alloc]; omega
              intro vx' wx hox hgx hax
              have HX := Lib.hid (FI.addx HG.out (by omega) hox hgx hax)
              have hQx : Q ≤ wx.heap.size := HX.out.size
              clear HG hox hgx hax
              go_wp2_with (at_builtin; refine wpList_put_own _ rfl _ _ 22 rfl Q 23 i0 _ Try.underlying22 hi hz0 hz1 hz2 rfl _ _ _ rfl (HX.out.alloc _).gy.own ⟨wx.heap.size, 0, none⟩ (.int .i8 102) rfl ?r1 rfl ?r2 ?r3 ?r4 ?_)
              case r1 => exact new_at wx _ _
              case r2 => unfold maxLen; omega
              case r3 => omega
              case r4 => rw [World.size_alloc]; omega
              intro vy' wy hoy hgy hay
              have HY := Lib.hid (FI.addy HX.out (by omega) hoy hgy hay)
              clear HX hoy hgy hay
              go_wp2_with fail
              go_roundw
              case rel => exact ⟨q + 1, _, rfl, by first | rfl | go_num, by omega, HY⟩
              case measure => simp [RowKit.intOf]; omega
        · obtain ⟨h1, h2, h3, h4⟩ := HJ.out
          obtain ⟨g, hA, hin, hnc, hcm, hcell, hfz, hset⟩ := row_at h2
          rw [List.length_replicate] at hin hcell hfz hset
          have hne : Value.ownBlock (.slice A i c) = none ∨ Value.ownBlock (.slice A i c) ≠ Value.ownBlock (.slice A' i c') := by
            cases e : Value.ownBlock (.slice A i c) with
            | none => exact .inl rfl
            | some b => exact .inr (fun e' => Hd.out b e e'.symm)
          have hini : (j : Int) < (i : Int) := by omega
          have hnext : IntKind.i64.wrap ((j : Int) + 1) = (j : Int) + 1 := IntWalk.i64_in _ (by omega)
          have HN := Lib.hid (show _ ∧ _ ∧ _ ∧ _ from ⟨h1.kept (hset 102).2 hne, (hset 102).1, h3.grown (hset 102).2 h4 (fun b hb => (h2.lt b hb).1), Nat.le_trans h4 (hset 102).2.size⟩)
          subst hA
          clear HJ h1 h2 h3 h4 hset hne
          go_wp2_with fail
          go_roundw
          case rel =>
            refine ⟨j + 1, t, _, rfl, by first | rfl | go_num, by simp at hjt; omega, Lib.hid ⟨HN.out.1, ?_, HN.out.2.2⟩⟩
            rw [List.replicate_succ', List.append_assoc]
            exact HN.out.2.1
          case measure => simp [RowKit.intOf]; omega
    · obtain ⟨h1, h2, h3, h4⟩ := HI.out
      obtain ⟨g, hA, hin, hnc, hcm, hcell, hfz, hset⟩ := row_at h1
      rw [List.length_replicate] at hin hcell hfz hset
      have hne : Value.ownBlock (.slice A' n c') = none ∨ Value.ownBlock (.slice A' n c') ≠ Value.ownBlock (.slice A n c) := by
        cases e : Value.ownBlock (.slice A' n c') with
        | none => exact .inl rfl
        | some b => exact .inr (fun e' => Hd.out b e'.symm e)
      have hini : (i : Int) < (n : Int) := by omega
      have hnext : IntKind.i64.wrap ((i : Int) + 1) = (i : Int) + 1 := IntWalk.i64_in _ (by omega)
      have HN := Lib.hid (show _ ∧ _ ∧ _ ∧ _ from ⟨(hset 101).1, h2.kept (hset 101).2 hne, h3.grown (hset 101).2 h4 (fun b hb => (h1.lt b hb).1), Nat.le_trans h4 (hset 101).2.size⟩)
      subst hA
      clear HI h1 h2 h3 h4 hset hne
      go_wp2_with fail
      go_roundw
      case rel =>
        refine ⟨i + 1, t, _, rfl, by first | rfl | go_num, by simp at hit; omega, Lib.hid ⟨?_, HN.out.2⟩⟩
        rw [List.replicate_succ', List.append_assoc]
        exact HN.out.1
      case measure => simp [RowKit.intOf]; omega
end Go.Proofs.Ytajpkidjdebolaa
