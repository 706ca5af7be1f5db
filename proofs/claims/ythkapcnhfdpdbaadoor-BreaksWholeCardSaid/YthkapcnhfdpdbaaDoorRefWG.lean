/- Layer 12, the document: Sort, joins, goes. (Made by tools/mkrwa.py.) -/
import Derived.Test.YthkapcnhfdpdbaaDoorWordG
import Derived.Test.YthkapcnhfdpdbaaDoorFirstG
import Derived.Test.YthkapcnhfdpdbaaDoorRowG
import Derived.Deep.RegionHeld3
import Derived.Test.YthkapcnhfdpdbaaDoorDocG
import Derived.Maps.AppendAt
set_option linter.unusedSimpArgs false
set_option linter.unusedVariables false
namespace Go.Proofs.YthkapcnhfdpdbaaDoor
open Go.RowKit Go.Lib

theorem sortN_head (c : ByteArray) (h : 0 < chars c) : sortN c = sortD ((segs c.data.toList).getD 0 (0, 0)) := by
  unfold sortN
  cases hs : segs c.data.toList with
  | nil => have : chars c = 0 := by unfold chars; rw [hs]; rfl
           omega
  | cons d t => rfl
theorem intEq (a b : Nat) : ((a : Int) == (b : Int)) = decide (a = b) := by
  by_cases h : a = b
  · simp [h]
  · rw [decide_eq_false h]; exact beq_eq_false_iff_ne.2 (fun e => h (by omega))
end Go.Proofs.YthkapcnhfdpdbaaDoor

/- Layer 12, the document: goes. (Made by tools/mkrwb.py.) -/
namespace Go.Proofs.YthkapcnhfdpdbaaDoor
open Go.RowKit Go.Lib

/-- the sorts of clusters, as they lie -/
def srtV (L : List (Nat × ByteArray)) : List Value := L.map fun x => Value.int .i64 (sortN x.2 : Nat)
theorem below_DW {B : Nat} {a w : World} (h : Below B a w) : Below B a w.drew := ⟨h.os, h.tape, h.output, h.size, h.block⟩
theorem srt_at {w : World} {B : Nat} {A : Option Addr} {n : Nat} {L : List (Nat × ByteArray)} (h : Rd w B 1 A n (srtV L)) {i : Nat} {x : Nat × ByteArray} (hx : L[i]? = some x) :
    ∃ a, A = some a ∧ a.block < B ∧ w.cell? (a.add i) = some (.int .i64 (sortN x.2 : Nat)) := by
  have hi := (List.getElem?_eq_some_iff.1 hx).1
  have hl : n = L.length := by have := h.1; simpa [srtV] using this.symm
  obtain ⟨a, e, hb, hc⟩ := Rd.addr h (by omega)
  exact ⟨a, e, hb, hc i _ (by unfold srtV; rw [List.getElem?_map, hx]; rfl)⟩
theorem oneW_1 : oneW 1 = true := rfl
theorem oneW_2 : oneW 2 = true := rfl
theorem add_succW (a : Addr) (k : Nat) : a.add (k + 1) = ⟨a.block, a.off + (k + 1), none⟩ := by unfold Addr.add; simp
theorem so_is {L : List (Nat × ByteArray)} {i : Nat} {x : Nat × ByteArray} (h : L[i]? = some x) : soW (L.map (·.2)) i = sortN x.2 := by unfold soW; rw [List.getElem?_map, h]; rfl
theorem cu_is {L : List (Nat × ByteArray)} {i : Nat} {x : Nat × ByteArray} (h : L[i]? = some x) : cuW (L.map (·.2)) i = x.2 := by unfold cuW; rw [List.getElem?_map, h]; rfl
end Go.Proofs.YthkapcnhfdpdbaaDoor

/- Layer 12, the document: All. -/
namespace Go.Proofs.YthkapcnhfdpdbaaDoor
open Go.RowKit Go.Lib

theorem wds_take_next (M : List ByteArray) (s : ByteArray) (L : List (Nat × ByteArray)) (i : Nat) (x : Nat × ByteArray) (h : L[i]? = some x) :
    wdsG M s 0 0 (L.take (i + 1)) = wdsG M s 0 0 (L.take i) ++ (if goesW M i = true then [] else [(begW M 0 0 (L.take i), s.extract (begW M 0 0 (L.take i)) (x.1 + x.2.size))]) := by
  have hi := (List.getElem?_eq_some_iff.1 h).1
  rw [take_snoc L i x h, wdsG_append, List.length_take, Nat.min_eq_left (by omega), Nat.zero_add]
  congr 1
theorem beg_take_next (M : List ByteArray) (L : List (Nat × ByteArray)) (i : Nat) (x : Nat × ByteArray) (h : L[i]? = some x) :
    begW M 0 0 (L.take (i + 1)) = if goesW M i = true then begW M 0 0 (L.take i) else x.1 + x.2.size := by
  have hi := (List.getElem?_eq_some_iff.1 h).1
  rw [take_snoc L i x h, begW_append, List.length_take, Nat.min_eq_left (by omega), Nat.zero_add]
  rfl
theorem beg_le (s : ByteArray) : ∀ i, i ≤ (pcs s).length → begW (MW s) 0 0 ((pcs s).take i) ≤ sumB ((pcs s).take i)
  | 0, _ => by simp [begW]
  | i + 1, h => by
    obtain ⟨x, hx⟩ : ∃ x, (pcs s)[i]? = some x := ⟨_, List.getElem?_eq_getElem (by omega)⟩
    have ih := beg_le s i (by omega)
    have hc := pcs_chain s i x hx
    rw [beg_take_next _ _ _ _ hx, take_snoc _ _ _ hx, sumB_snoc]
    split <;> omega
theorem chars_pos (c : ByteArray) (h : 0 < c.size) : 0 < chars c := by
  have hne : c.data.toList ≠ [] := by
    intro e
    have := congrArg List.length e
    rw [size_list, List.length_nil] at this
    omega
  have := segs_ne _ hne
  unfold chars
  exact Nat.pos_of_ne_zero fun e => this (List.eq_nil_of_length_eq_zero e)
theorem rintw_info : (Tryd.prog.info? 3).map (fun i => (i.zero, i.size, i.bytes)) = some (some (.int .i64 0), 1, 8) := by kernel_rfl
structure SoS (w1 : World) (Q : Nat) (L : List (Nat × ByteArray)) (i c : Nat) (A : Option Addr) (W : World) : Prop where
  ow : W.ownsRow Q 3 1 (.slice A i c) i (srtV (L.take i))
  be : Below Q w1 W
structure AlS (w2 : World) (Q : Nat) (s : ByteArray) (i k c f : Nat) (A : Option Addr) (W : World) : Prop where
  kl : k = (wdsG (MW s) s 0 0 ((pcs s).take i)).length
  fb : f = begW (MW s) 0 0 ((pcs s).take i)
  ow : W.ownsRow Q 44 2 (.slice A k c) k (pcCells (wdsG (MW s) s 0 0 ((pcs s).take i)))
  be : Below Q w2 W
end Go.Proofs.YthkapcnhfdpdbaaDoor
