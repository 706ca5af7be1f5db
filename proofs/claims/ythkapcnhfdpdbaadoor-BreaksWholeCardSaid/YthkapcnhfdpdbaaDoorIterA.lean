/- Ranging over scan.All: what the iterator tells a round. -/
import Derived.Test.YthkapcnhfdpdbaaDoorMem
import Derived.Test.YthkapcnhfdpdbaaDoorPure
import Derived.Test.YthkapcnhfdpdbaaDoorRows
import Derived.RangeFuncNested
import Derived.RangeFuncBound
import Derived.RangeFuncCalls
import Derived.RangeFuncLeaves
import Derived.Shelf.Abstract
import Derived.Shelf.RegionOpen
import Derived.WalkKit
import Derived.OwnWalkIn
import Derived.TacticsInMore
import Derived.LoopNIn
import Derived.LoopIn
import Derived.Lib.OthersKept
import Derived.Laws.IdiomStrings
set_option linter.unusedSimpArgs false
set_option linter.unusedVariables false
namespace Go.Proofs.YthkapcnhfdpdbaaDoor
open Go.RowKit Go.Shelf Go.Lib
attribute [local go_sem] Oper.semAt_some

/-- the places and numbers of a text from p on -/
def placesF (s : ByteArray) : Nat → Nat → List (Nat × Nat)
  | 0, _ => []
  | f + 1, p => if p < s.size then (p, (Utf8.decode s p).1) :: placesF s f (p + (Utf8.decode s p).2) else []
def places (s : ByteArray) : List (Nat × Nat) := placesF s s.size 0
theorem decode_pos (s : ByteArray) (i : Nat) : 0 < (Utf8.decode s i).2 := by
  unfold Utf8.decode
  dsimp only
  repeat' split
  all_goals simp
theorem placesF_end (s : ByteArray) (f p : Nat) (h : ¬ p < s.size) : placesF s f p = [] := by
  cases f with
  | zero => rfl
  | succ f => unfold placesF; rw [if_neg h]
theorem placesF_fuel (s : ByteArray) : ∀ (f g p : Nat), s.size - p ≤ f → s.size - p ≤ g → placesF s f p = placesF s g p
  | 0, g, p, hf, _ => by rw [placesF_end s 0 p (by omega), placesF_end s g p (by omega)]
  | f + 1, 0, p, _, hg => by rw [placesF_end s 0 p (by omega), placesF_end s (f + 1) p (by omega)]
  | f + 1, g + 1, p, hf, hg => by
    have := decode_pos s p
    unfold placesF
    by_cases h : p < s.size
    · rw [if_pos h, if_pos h, placesF_fuel s f g _ (by omega) (by omega)]
    · rw [if_neg h, if_neg h]
theorem placesF_step (s : ByteArray) (p : Nat) (h : p < s.size) : placesF s s.size p = (p, (Utf8.decode s p).1) :: placesF s s.size (p + (Utf8.decode s p).2) := by
  have := decode_pos s p
  rw [placesF_fuel s s.size (s.size - 1 + 1) p (by omega) (by omega)]
  rw [show placesF s (s.size - 1 + 1) p = (p, (Utf8.decode s p).1) :: placesF s (s.size - 1) (p + (Utf8.decode s p).2) by rw [placesF, if_pos h]]
  rw [placesF_fuel s (s.size - 1) s.size _ (by omega) (by omega)]
abbrev encPlace (x : Nat × Nat) : Array Value := #[.int .i64 (x.1 : Int), .int .i32 (x.2 : Int)]
theorem iterPos_at {w : World} {k : Nat} {s : ByteArray} {p : Nat} (h : w.heap[k]? = some (.stringIter s p)) : w.iterPos k = p := by simp [World.iterPos, h]

set_option maxRecDepth 100000 in
set_option maxHeartbeats 1000000 in
theorem iterAll_in (F : Fence) (n : Nat) (h6 : F.fn 61) (hro : F.round = none) (hn : 1 ≤ n) (l Bn : Nat) (s : ByteArray) (B0 : Nat) (J Jx : List (Nat × Nat) → World → Prop) (hJ : AbidesFrom B0 J)
    (hY : ∀ pre x W, J pre W → pre.length < (places s).length → YieldAt F (n - 1) Tryd.prog l (encPlace x) W fun e W' =>
      (e = .returned (.bool true) ∧ J (pre ++ [x]) W' ∧ KeepsWalks W W') ∨ (e = .returned (.bool false) ∧ Jx (pre ++ [x]) W'))
    (W : World) (hB0 : B0 ≤ W.heap.size) (hBn : W.cell? ⟨Bn, 0, none⟩ = some (.string s)) (h0 : J [] W) :
    CallsIn F n Tryd.prog 61 #[.func (.yield l) #[] #[], .pointer (some ⟨Bn, 0, none⟩)] W fun e W' => (∃ v, e = .returned v) ∧
      ((∃ ys, ys = places s ∧ J ys W') ∨ (∃ pre, pre <+: places s ∧ Jx pre W')) := by
  refine callsIn_of_wp Tryd.func61 rfl h6 ?_ hro
  simp only [Tryd.ntmps61, List.size_toArray, List.length_cons, List.length_nil, Nat.reduceAdd, Nat.reduceSub, Array.replicate_succ, Array.replicate_zero, List.push_toArray, List.append_toArray, List.nil_append, List.cons_append]
  gi_wp2
  obtain ⟨Bi, hBi⟩ : ∃ Bi, W.heap.size = Bi := ⟨_, rfl⟩
  have hit0 : (W.iter s 0).heap[Bi]? = some (.stringIter s 0) := by rw [← hBi]; exact World.iter_heap W s 0
  have hJ0 : J [] (W.iter s 0) := hJ [] W (W.iter s 0) none h0 (World.grownBy_alloc W _ none) (fun r e => by cases e)
  rw [hBi] at hB0 ⊢
  gi_loopw [3] (fun _ wr => ∃ (pos : Nat) (pre : List (Nat × Nat)), wr.heap[Bi]? = some (.stringIter s pos) ∧ Hid (pre ++ placesF s s.size pos = places s) ∧ J pre wr)
    (fun _ wr => s.size - wr.iterPos Bi)
  case atStart => exact ⟨0, [], hit0, by unfold Hid; rfl, hJ0⟩
  case round =>
    obtain ⟨pos, pre, hit, hpl, hJs⟩ := hrel
    by_cases hp : pos < s.size
    · have hd2 := decode_pos s pos
      have hnx : ∀ ty, (Instr.next (.pointer (some ⟨Bi, 0, none⟩)) true ty).run Tryd.prog wr = .ok (.tuple #[.bool true, .int .i64 pos, .int .i32 (Utf8.decode s pos).1]) (wr.iterAt Bi s (pos + (Utf8.decode s pos).2)) := fun ty => Lib.run_next_any_at wr Bi s pos ty hit hp
      have hpl2 := hpl.out
      rw [placesF_step s pos hp] at hpl2
      revert hd2 hnx hpl2
      generalize Utf8.decode s pos = d
      intro hd2 hnx hpl2
      have hlen : pre.length < (places s).length := by rw [← hpl2]; simp
      have hit2 := Lib.iterAt_heap wr Bi s pos (pos + d.2) hit
      have hJ2 : J pre (wr.iterAt Bi s (pos + d.2)) := hJ pre wr _ (some Bi) hJs ⟨rfl, rfl, rfl, by rw [Lib.iterAt_size]; exact Nat.le_refl _, fun i _ hne => Lib.iterAt_other wr Bi i s (pos + d.2) (fun e => hne (by rw [e]))⟩ (fun r e => by cases e; exact ⟨hB0, _, hit, rfl⟩)
      have hpl3 : (pre ++ [(pos, d.1)]) ++ placesF s s.size (pos + d.2) = places s := by rw [← hpl2]; simp
      have Hpl := Lib.hid hpl3
      have Hpos := Lib.hid (iterPos_at hit)
      have hpre : pre ++ [(pos, d.1)] <+: places s := ⟨_, hpl3⟩
      have Hpre := Lib.hid hpre
      clear hpl hpl2 hpl3 hit hJs hpre
      obtain ⟨w1, hw1⟩ : ∃ w1, wr.iterAt Bi s (pos + d.2) = w1 := ⟨_, rfl⟩
      rw [hw1] at hnx hit2 hJ2
      clear hw1
      obtain ⟨fn, tmps, assign, body, hy, hR⟩ := hY pre (pos, d.1) w1 hJ2 hlen
      dsimp only [encPlace] at hy
      gi_wp2
      refine hR.mono ?_
      rintro e W3 (⟨rfl, hJ3, hk3⟩ | ⟨rfl, hJx3⟩)
      · have hit3 := hk3.same Bi _ hit2 rfl
        gi_wp2
        go_roundw
        case rel => exact ⟨pos + d.2, pre ++ [(pos, d.1)], hit3, Hpl, hJ3⟩
        case measure => rw [Hpos.out, iterPos_at hit3]; omega
      · gi_wp2
        refine bodyPost_ret (results_none rfl _ _ _) rfl ?_
        exact ⟨⟨_, rfl⟩, .inr ⟨pre ++ [(pos, d.1)], Hpre.out, hJx3⟩⟩
    · have hnx : ∀ ty, (Instr.next (.pointer (some ⟨Bi, 0, none⟩)) true ty).run Tryd.prog wr = _ := fun ty => Lib.run_next_end_at wr Bi s pos ty hit hp
      have hpl2 := hpl.out
      rw [placesF_end s _ _ hp, List.append_nil] at hpl2
      have Hpl := Lib.hid hpl2
      clear hpl hpl2 hit
      gi_wp2
      go_end0
      exact ⟨⟨_, rfl⟩, .inl ⟨pre, Hpl.out, hJs⟩⟩
end Go.Proofs.YthkapcnhfdpdbaaDoor
