/- The composer: reaches. -/
import Derived.Test.YtjkakemlhhieoaaGreatDoorApG
import Derived.Deep.QuietTactic
import Derived.BigQuiet
import Derived.Deep.RegionLaw
set_option linter.unusedSimpArgs false
set_option linter.unusedVariables false
namespace Go.Proofs.YtjkakemlhhieoaaGreatDoor
open Go.RowKit Go.Lib

theorem own_ne4 {w : World} {B : Nat} {e T : TypeId} {v : Value} {sz n : Nat} {xs : List Value} {b : Nat} {cs : Array Value} {fr : Nat × Nat} (hown : w.ownsRow B e sz v n xs) (hb : w.heap[b]? = some (.cells cs T fr)) (hTe : T ≠ e) : v.ownBlock ≠ some b := by
  rcases hown.2 with ⟨rfl, _⟩ | ⟨g, cap, cur, rfl, _, hg, _⟩
  · intro h; cases h
  · intro h
    cases h
    rw [hg] at hb
    simp only [Option.some.injEq, Obj.cells.injEq] at hb
    exact hTe hb.2.1.symm
theorem below_N4 {B : Nat} {a w : World} (h : Below B a w) : ∀ n, Below B a (w.drewN n) := fun _ => ⟨h.os, h.tape, h.output, h.size, h.block⟩
theorem Turned.below {w w' : World} {B C : Nat} (h : Turned w w' C) (hB : B ≤ C) (hw : B ≤ w.heap.size) : Below B w w' := by
  obtain ⟨w1, hb, rfl | ⟨u, rfl⟩⟩ := h
  · exact hb.mono hw
  · exact (hb.mono hw).setCell (p := ⟨C, 3, none⟩) hB u
theorem Turned.block {w w' : World} {C : Nat} (h : Turned w w' C) {k : Nat} (hk : k < w.heap.size) (hn : k ≠ C) : w'.heap[k]? = w.heap[k]? := by
  obtain ⟨w1, hb, rfl | ⟨u, rfl⟩⟩ := h
  · exact hb.block k hk
  · exact (heap_setCell_other _ _ _ _ hn).trans (hb.block k hk)
def lastZ (made : List Pc) : Pc := made.getD (made.length - 1) (0, 0, 0)
def reachZ (made : List Pc) (st : Option Nat) (p : Pc) : Bool := match st with
  | none => false
  | some k => (made.length - 1 == k) || decide ((lastZ made).2.1 < p.2.1)

end Go.Proofs.YtjkakemlhhieoaaGreatDoor

/- The composer: add. (Made by tools/mkadd.py.) -/
namespace Go.Proofs.YtjkakemlhhieoaaGreatDoor
open Go.RowKit Go.Lib

def atZ (made : List Pc) (st : Option Nat) : Pc := made.getD (st.getD 0) (0, 0, 0)
def bothZ (made : List Pc) (st : Option Nat) (p : Pc) : Int := pairZ (atZ made st).1 p.1
def addZ (made : List Pc) (st : Option Nat) (p : Pc) : List Pc × Option Nat :=
  if reachZ made st p = true ∧ bothZ made st p ≠ 0 then (made.set (st.getD 0) (bothZ made st p, (atZ made st).2), st) else (made ++ [p], if p.2.1 = 0 then some made.length else st)
def R32 (a : Int) : Prop := -2147483648 ≤ a ∧ a ≤ 2147483647

end Go.Proofs.YtjkakemlhhieoaaGreatDoor

/- norm's Together. -/
namespace Go.Proofs.YtjkakemlhhieoaaGreatDoor
open Go.RowKit Go.Lib

theorem lookP_le : ∀ (L : PL) (N : Int), (L.all fun x => decide (0 ≤ x.2) && decide (x.2 ≤ N)) = true → 0 ≤ N → ∀ a b, 0 ≤ lookP L a b ∧ lookP L a b ≤ N
  | [], N, _, hN, a, b => ⟨Int.le_refl _, hN⟩
  | x :: t, N, h, hN, a, b => by
    simp only [List.all_cons, Bool.and_eq_true, decide_eq_true_eq] at h
    unfold lookP
    split
    · exact h.1
    · exact lookP_le t N h.2 hN a b
theorem pairsL_le : (pairsL.all fun x => decide (0 ≤ x.2) && decide (x.2 ≤ 1114111)) = true := by decide +kernel
theorem pairZ_le (a b : Int) : 0 ≤ pairZ a b ∧ pairZ a b ≤ 1114111 := by
  unfold pairZ
  split
  · unfold syllZ
    split
    · omega
    · split
      · rename_i h1 h2
        have h3 := h2.1
        unfold openZ at h3
        have h4 := of_decide_eq_true (Bool.and_eq_true_iff.1 h3).1
        omega
      · omega
  · exact lookP_le pairsL 1114111 pairsL_le (by decide) a b
def stepT (s : List Pc × Option Nat) (p : Pc) : List Pc × Option Nat := addZ s.1 s.2 p
def togF (ps : List Pc) : List Pc × Option Nat := ps.foldl stepT ([], none)
/-- what Together says -/
def togS (l : List UInt8) : List UInt8 := textP (togF (apartP l)).1
theorem togF_snoc (ps : List Pc) (p : Pc) : togF (ps ++ [p]) = stepT (togF ps) p := by simp [togF]
theorem stepT_ok (s : List Pc × Option Nat) (p : Pc) (h : ∀ q ∈ s.1, OkP q) (hp : OkP p) : (∀ q ∈ (stepT s p).1, OkP q) ∧ (stepT s p).1.length ≤ s.1.length + 1 := by
  unfold stepT addZ
  split
  · rename_i hc
    refine ⟨fun q hq => ?_, by simp⟩
    rcases List.mem_or_eq_of_mem_set hq with hq | rfl
    · exact h q hq
    · have hb := pairZ_le (atZ s.1 s.2).1 p.1
      have hz : OkP (atZ s.1 s.2) := by
        unfold atZ
        rw [List.getD_eq_getElem?_getD]
        cases hg : s.1[s.2.getD 0]? with
        | none => exact ⟨by decide, by decide, by decide, by decide⟩
        | some y => exact h y (List.mem_of_getElem? hg)
      exact ⟨hb.1, hb.2, hz.2.2.1, hz.2.2.2⟩
  · refine ⟨fun q hq => ?_, by simp⟩
    rcases List.mem_append.1 hq with hq | hq
    · exact h q hq
    · rw [List.mem_singleton.1 hq]; exact hp
theorem togF_ok1 : ∀ (ps : List Pc) (s : List Pc × Option Nat), (∀ q ∈ s.1, OkP q) → (∀ q ∈ ps, OkP q) → (∀ q ∈ (ps.foldl stepT s).1, OkP q) ∧ (ps.foldl stepT s).1.length ≤ s.1.length + ps.length
  | [], s, hs, _ => ⟨hs, Nat.le_refl _⟩
  | p :: ps, s, hs, h => by
    have h2 := stepT_ok s p hs (h p List.mem_cons_self)
    have h3 := togF_ok1 ps (stepT s p) h2.1 (fun q hq => h q (List.mem_cons_of_mem _ hq))
    rw [List.foldl_cons, List.length_cons]
    exact ⟨h3.1, by omega⟩
theorem togF_ok (ps : List Pc) (h : ∀ q ∈ ps, OkP q) : (∀ q ∈ (togF ps).1, OkP q) ∧ (togF ps).1.length ≤ ps.length := by
  have h1 := togF_ok1 ps ([], none) (fun q hq => by simp at hq) h
  exact ⟨h1.1, by have := h1.2; simp at this; exact this⟩

end Go.Proofs.YtjkakemlhhieoaaGreatDoor
