/- Spans: what of a stretch are characters, as a row of one's own. -/
import Derived.Test.YtkcckophnamajaaPair
import Derived.Test.YtkcckophnamajaaMem
import Derived.OwnWalk
import Derived.Laws.AppendOwn
import Derived.Laws.AppendOwnNone
import Derived.Laws.OwnMore
import Derived.LoopIn
import Derived.Deep.RegionHeld3
set_option linter.unusedSimpArgs false
set_option linter.unusedVariables false
namespace Go.Proofs.Ytkcckophnamajaa
open Go.RowKit Go.Lib

def spCell (e : Nat × Nat) : List Value := [.int .i32 (e.1 : Int), .int .i32 (e.2 : Int)]
def spCells (l : List (Nat × Nat)) : List Value := l.flatMap spCell
theorem spCells_len (l : List (Nat × Nat)) : (spCells l).length = l.length * 2 := by
  induction l with
  | nil => rfl
  | cons e t ih => simp only [spCells, List.flatMap_cons, List.length_append, List.length_cons] at ih ⊢; rw [ih]; simp [spCell]; omega
theorem spCells_append (a b : List (Nat × Nat)) : spCells (a ++ b) = spCells a ++ spCells b := by simp [spCells]
theorem spCells_one (l : List (Nat × Nat)) : ∀ u ∈ spCells l, u.oneCell' = true := by
  intro u hu
  simp only [spCells, List.mem_flatMap, spCell, List.mem_cons, List.not_mem_nil, or_false] at hu
  obtain ⟨e, _, rfl | rfl⟩ := hu <;> rfl
/-- of the numbers from a up to b the characters, as stretches -/
def charsOf (a b : Nat) : List (Nat × Nat) := (if a ≤ min b 55295 then [(a, min b 55295)] else []) ++ (if max a 57344 ≤ b then [(max a 57344, b)] else [])
end Go.Proofs.Ytkcckophnamajaa

/- Spans, without the program: the stretches of a table that have a class. -/
namespace Go.Proofs.Ytkcckophnamajaa

/-- where the first stretch of what is left begins -/
def headOf : Tab → Nat
  | [] => 1114112
  | e :: _ => e.1
def spansFrom : Tab → Int → List (Nat × Nat)
  | [], _ => []
  | e :: t, v => (if (e.2 : Int) = v then charsOf e.1 (headOf t - 1) else []) ++ spansFrom t v

theorem cls_part : ∀ (pre : Tab) (c0 f c : Nat) (t : Tab), rises (pre ++ (f, c) :: t) = true → clsFrom (pre ++ (f, c) :: t) c0 f = c ∧ endFrom (pre ++ (f, c) :: t) f = headOf t - 1
  | [], c0, f, c, t, h => by
    have h1 : Nat.ble f f = true := by simp
    simp only [List.nil_append, clsFrom, endFrom, h1, cond_true]
    cases t with
    | nil => exact ⟨rfl, rfl⟩
    | cons e t =>
      have h2 : f < e.1 := rises_head h e (by simp)
      have h3 : Nat.ble e.1 f = false := by rw [← Bool.not_eq_true]; simp; omega
      simp only [clsFrom, endFrom, h3, cond_false, headOf, and_self]
  | e :: pre, c0, f, c, t, h => by
    have h1 : e.1 < f := rises_head h (f, c) (by simp)
    have h2 : Nat.ble e.1 f = true := by simp; omega
    simp only [List.cons_append, clsFrom, endFrom, h2, cond_true]
    exact cls_part pre e.2 f c t (rises_tail h)
theorem part_head (pre : Tab) (f c : Nat) (t : Tab) (h : rises (pre ++ (f, c) :: t) = true) (hm : ∀ e ∈ pre ++ (f, c) :: t, e.1 ≤ 1114111) : f < headOf t ∧ headOf t ≤ 1114112 := by
  have hs : rises ((f, c) :: t) = true := by
    induction pre with
    | nil => exact h
    | cons e pre ih => exact ih (rises_tail h) fun x hx => hm x (by simp [hx])
  cases t with
  | nil => exact ⟨by have := hm (f, c) (by simp); simp only [headOf]; omega, Nat.le_refl _⟩
  | cons e t => exact ⟨rises_head hs e (by simp), by have := hm e (by simp); simp only [headOf]; omega⟩
theorem charsOf_len (a b : Nat) : (charsOf a b).length ≤ 2 := by
  unfold charsOf
  split <;> split <;> simp
theorem spansFrom_len : ∀ (l : Tab) (v : Int), (spansFrom l v).length ≤ 2 * l.length
  | [], _ => Nat.le_refl _
  | e :: t, v => by
    have h1 := spansFrom_len t v
    have h2 := charsOf_len e.1 (headOf t - 1)
    simp only [spansFrom, List.length_append, List.length_cons]
    split <;> simp <;> omega
end Go.Proofs.Ytkcckophnamajaa

/- Spans, walked: every table, every value. -/
namespace Go.Proofs.Ytkcckophnamajaa
open Go.RowKit Go.Lib

theorem wpList_append_two {P : Program} {w : World} {ops : Array Oper} {rest : List Oper} {o : Oper} {a : Act} {Q : Exit → Act → World → Prop} (hgd : o.guard = none) (s x : Operand) (t : TypeId)
    (ho : o.op = .call { callee := .builtin .append, args := #[s, x], argTypes := #[t, t] })
    (base : Nat) (e : TypeId) (i : TypeInfo) (z : Value) (bytes : Nat) (ht : P.underlying t = some (.slice e)) (hi : P.info? e = some i) (hz : i.zero = some z)
    (hsize : i.size = 2) (hby : i.bytes = bytes) (hzs : z.cells.size = 2)
    (v : Value) (n : Nat) (xs : List Value) (hs : a.eval s = v) (hown : w.ownsRow base e 2 v n xs)
    (base2 : Nat) (v2 : Value) (m : Nat) (news : List Value) (hx : a.eval x = v2) (hown2 : w.ownsRow base2 e 2 v2 m news) (h1 : ∀ u ∈ news, u.oneCell' = true)
    (h63 : n + m ≤ maxLen) (hbytes : (n + m) * bytes ≤ 140737488355328) (hbase : base ≤ w.heap.size)
    (h : ∀ v' w', w'.ownsRow base e 2 v' (n + m) (xs ++ news) → w.grownBy w' v.ownBlock → wpList P ops Q rest (a.put o.dst v') w') :
    wpList P ops Q (o :: rest) a w := by
  have hl := hown2.1
  rcases hown2.2 with ⟨rfl, rfl⟩ | ⟨g, cap, cur, rfl, _, hg, _, _, _, htake⟩
  · have hn : news = [] := List.eq_nil_of_length_eq_zero (by omega)
    subst hn
    refine wpList_append_own_none hgd s x t ho base e i 2 ht hi v n xs hs hown hx ?_
    exact h v w (by simpa using hown) ⟨rfl, rfl, rfl, Nat.le_refl _, fun _ _ _ => rfl⟩
  · exact wpList_append_own w hgd s x t ho base e i z 2 bytes ht hi hz hsize hby hzs (by omega) v n xs hs hown ⟨g, 0, none⟩ m cap news hx hl (hown2.cells (g := g) rfl) h1 h63 hbytes hbase (fun v' w' a b _ => h v' w' a b)

end Go.Proofs.Ytkcckophnamajaa

/- What table a number names; Spans of every table and value. -/
namespace Go.Proofs.Ytkcckophnamajaa
open Go.RowKit Go.Lib

/-- the table that a number names; none: no stretches -/
def tabAt (t : Int) : Tab := if t = 0 then kindsL else if t = 1 then dirsL else if t = 2 then widthsL else if t = 3 then marksL else if t = 4 then joinsL else if t = 5 then breaksL else []

end Go.Proofs.Ytkcckophnamajaa

/- works: a few characters are known. -/
namespace Go.Proofs.Ytkcckophnamajaa
open Go.RowKit Go.Lib

end Go.Proofs.Ytkcckophnamajaa
