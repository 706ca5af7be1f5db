/- The iterator of slices.Backward: its contract. -/
import Derived.Test.YtiafofekobcifaaDoorSeqAB
set_option linter.unusedSimpArgs false
set_option linter.unusedVariables false
namespace Go.Proofs.YtiafofekobcifaaDoor
open Go.RowKit Go.Shelf Go.Lib
attribute [local go_sem] Oper.semAt_some

/-- the elements of a list with their places -/
def idx (xs : List Nat) : List (Nat × Nat) := xs.zipIdx.map fun p => (p.2, p.1)
theorem idx_len (xs : List Nat) : (idx xs).length = xs.length := by simp [idx]
theorem idx_take (xs : List Nat) (k : Nat) (h : k < xs.length) : idx (xs.take (k + 1)) = idx (xs.take k) ++ [(k, xs[k])] := by
  unfold idx
  rw [List.take_succ_eq_append_getElem h, List.zipIdx_append, List.map_append]
  simp [Nat.min_eq_left (Nat.le_of_lt h)]
abbrev encBw (x : Nat × Nat) : Array Value := #[.int .i64 (x.1 : Int), .int .i64 (x.2 : Int)]
theorem bw_mk (A : Option Addr) (m c : Nat) (w : World) : Calls Tryd.prog 71 #[.slice A m c] w fun e w' => e = .returned (.func (.func 86) #[] #[.pointer (some ⟨w.heap.size, 0, none⟩)]) ∧ w' = w.alloc (.cells #[.slice A m c] 31) := by
  go_enter Tryd.func71, Tryd.ntmps71
  go_wp2
  go_ret
  exact ⟨rfl, rfl⟩

set_option maxRecDepth 100000 in
set_option maxHeartbeats 1000000 in
theorem seqBw (n : Nat) (hn : 1 ≤ n) (Bn : Nat) (N₀ : Bl) (xs : List Nat) (m c : Nat) (a : Addr) (w : World) (hm : xs.length = m) (hs : m ≤ maxLen) (hBn : N₀ Bn) (hNa : N₀ a.block) (hc : w.cell? ⟨Bn, 0, none⟩ = some (.slice (some a) m c))
    (hr : ∀ (j : Nat) (x : Nat), xs[j]? = some x → w.cell? (a.add j) = some (.int .i64 (x : Int))) :
    SeqN Fence.wide n Tryd.prog 86 #[.pointer (some ⟨Bn, 0, none⟩)] encBw (fun ys => ys = (idx xs).reverse) (fun pre => pre <+: (idx xs).reverse) m N₀ w := by
  intro l J Jx W hW hJ hJx hY h0
  have hk0 : KeepN N₀ (fun _ => False) w W := ⟨hW.size, fun k hk _ => hW.block k hk⟩
  have hcW : W.cell? ⟨Bn, 0, none⟩ = some (.slice (some a) m c) := hk0.cell (.inl hBn) hc
  have hrW : ∀ (j : Nat) (x : Nat), xs[j]? = some x → W.cell? (a.add j) = some (.int .i64 (x : Int)) := fun j x hx => hk0.cell (.inl (by rw [add_block]; exact hNa)) (hr j x hx)
  have HrW := Lib.hid hrW
  clear hc hW hk0 hr hrW
  unfold maxLen at hs
  have hw0 : IntKind.i64.wrap ((m : Int) - 1) = (m : Int) - 1 := IntWalk.i64_in _ (by omega)
  refine callsIn_of_wp Tryd.func86 rfl trivial ?_ rfl
  simp only [Tryd.ntmps86, List.size_toArray, List.length_cons, List.length_nil, Nat.reduceAdd, Nat.reduceSub, Array.replicate_succ, Array.replicate_zero, List.push_toArray, List.append_toArray, List.nil_append, List.cons_append]
  gi_wp2
  gi_loopw [3] (fun v wr => ∃ (p : Nat) (pre : List (Nat × Nat)), v = .int .i64 ((p : Int) - 1) ∧ p ≤ m ∧ wr.cell? ⟨Bn, 0, none⟩ = some (.slice (some a) m c) ∧ Hid (∀ (j : Nat) (x : Nat), xs[j]? = some x → wr.cell? (a.add j) = some (.int .i64 (x : Int))) ∧ Hid (idx (xs.take p) ++ pre.reverse = idx xs) ∧ J pre (fun _ => False) wr)
    (fun v _ => (RowKit.intOf v + 1).toNat)
  case atStart => exact ⟨m, [], rfl, Nat.le_refl _, hcW, HrW, by unfold Hid; rw [← hm, List.take_length]; simp, h0⟩
  case round =>
    obtain ⟨p, pre, rfl, hpm, hcs, hrs, hpl, hJs⟩ := hrel
    cases p with
    | zero =>
      have hng : ¬ ((0 : Int) ≤ ((0 : Nat) : Int) - 1) := by omega
      have Hpl := Lib.hid hpl.out
      clear hpl hrs hcs
      gi_wp2
      go_end0
      have hpre : pre = (idx xs).reverse := by
        have := Hpl.out
        rw [List.take_zero] at this
        rw [← this]
        simp [idx]
      subst hpre
      first
        | exact ⟨⟨_, rfl⟩, .inl ⟨_, hJs, fun _ h => h.elim⟩⟩
        | exact ⟨⟨_, rfl⟩, .inl ⟨_, _, rfl, hJs, fun _ h => h.elim⟩⟩
    | succ k =>
      rw [show ((k + 1 : Nat) : Int) - 1 = (k : Int) by omega]
      have hkl : k < xs.length := by omega
      have hpl2 := hpl.out
      rw [idx_take xs k hkl, List.append_assoc] at hpl2
      have hx := hrs.out k xs[k] (List.getElem?_eq_getElem hkl)
      obtain ⟨x, hxe⟩ : ∃ x, xs[k] = x := ⟨_, rfl⟩
      rw [hxe] at hpl2 hx
      have hlen : pre.length < m := by
        have := congrArg List.length hpl2
        simp [idx_len] at this
        omega
      have hk0 : (0 : Int) ≤ (k : Int) := by omega
      have hkm : (k : Int) < (m : Int) := by omega
      have hw1 : IntKind.i64.wrap ((k : Int) - 1) = (k : Int) - 1 := IntWalk.i64_in _ (by omega)
      have hpre : pre ++ [(k, x)] <+: (idx xs).reverse := by rw [← hpl2]; simp
      obtain ⟨fn, tmps, assign, body, hy, hR⟩ := hY pre (k, x) _ wr hJs (fun _ h => h.elim) hlen hpre
      dsimp only [encBw] at hy
      have Hpre := Lib.hid hpre
      have Hpl := Lib.hid hpl2
      have Hr := hrs
      clear hpre hpl2 hpl hJs hrs hxe hkl
      gi_wp2
      refine hR.mono ?_
      rintro e W3 (⟨rfl, hJ3, hk3⟩ | ⟨rfl, hJx3, hk3⟩)
      · have hc3 := hk3.cell (p := ⟨Bn, 0, none⟩) (.inl hBn) hcs
        have Hr3 : Hid (∀ (j : Nat) (x : Nat), xs[j]? = some x → W3.cell? (a.add j) = some (.int .i64 (x : Int))) := Lib.hid fun j x hx => hk3.cell (.inl (by rw [add_block]; exact hNa)) (Hr.out j x hx)
        clear hk3
        gi_wp2
        go_roundw
        case rel => exact ⟨k, pre ++ [(k, x)], rfl, by omega, hc3, Hr3, by unfold Hid; rw [← Hpl.out]; simp, hJ3⟩
        case measure => simp only [RowKit.intOf]; omega
      · gi_wp2
        refine bodyPost_ret (results_none rfl _ _ _) rfl ?_
        refine ⟨⟨_, rfl⟩, .inr ⟨pre ++ [(k, x)], _, Hpre.out, hJx3, fun _ h => h.elim⟩⟩
end Go.Proofs.YtiafofekobcifaaDoor
