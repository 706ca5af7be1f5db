/- orderRow of numbers. -/
import Derived.Test.YtjkakemlhhieoaaGreatDoorSplG
import Derived.Test.YtjkakemlhhieoaaGreatDoorLettG
import Derived.Laws.AppendOwnNone
set_option linter.unusedSimpArgs false
set_option linter.unusedVariables false
namespace Go.Proofs.YtjkakemlhhieoaaGreatDoor
open Go.RowKit Go.Lib

def encR (x : Int) : List Value := [.int .i32 x]
theorem succ4 {w : World} {base : Nat} {e : TypeId} {size n : Nat} {v : Value} {xs : List Value} (h : w.ownsRow base e size v (n + 1) xs) : ∃ g cap, v = .slice (some ⟨g, 0, none⟩) (n + 1) cap := by
  rcases h.2 with ⟨_, h0⟩ | ⟨g, cap, cur, rfl, _⟩
  · omega
  · exact ⟨g, cap, rfl⟩
theorem encR_len (x : Int) : (encR x).length = 1 := rfl
theorem encR_one (x : Int) : ∀ u ∈ encR x, u.oneCell' = true := by
  intro u hu
  rw [List.mem_singleton.1 hu]
  rfl
theorem take_pile {α : Type} (num : α → Nat) (xs : List α) (k : Nat) (x : α) (h : xs[k]? = some x) (i : Nat) : pile num (xs.take (k + 1)) i = if i = num x then pile num (xs.take k) (num x) ++ [x] else pile num (xs.take k) i := by
  obtain ⟨hk, rfl⟩ := List.getElem?_eq_some_iff.1 h
  rw [List.take_succ_eq_append_getElem hk, pile_snoc]
  by_cases e : num xs[k] = i
  · rw [if_pos e, if_pos e.symm, e]
  · rw [if_neg e, if_neg (fun h => e h.symm)]
end Go.Proofs.YtjkakemlhhieoaaGreatDoor

/- orderRows and Order of numbers. -/
namespace Go.Proofs.YtjkakemlhhieoaaGreatDoor
open Go.RowKit Go.Lib

theorem flat_runes (xs : List Int) : flat encR xs = runes xs := by
  induction xs with
  | nil => rfl
  | cons x t ih =>
    show encR x ++ flat encR t = _
    rw [ih]
    rfl
end Go.Proofs.YtjkakemlhhieoaaGreatDoor

/- Order of numbers. -/
namespace Go.Proofs.YtjkakemlhhieoaaGreatDoor
open Go.RowKit Go.Lib

theorem wpList_append_rd4 {P : Program} {w : World} {ops : Array Oper} {rest : List Oper} {o : Oper} {a : Act} {Q : Exit → Act → World → Prop} (hgd : o.guard = none) (s x : Operand) (t : TypeId)
    (ho : o.op = .call { callee := .builtin .append, args := #[s, x], argTypes := #[t, t] })
    (base : Nat) (e : TypeId) (i : TypeInfo) (z : Value) (bytes : Nat) (ht : P.underlying t = some (.slice e)) (hi : P.info? e = some i) (hz : i.zero = some z)
    (hsize : i.size = 1) (hby : i.bytes = bytes) (hzs : z.cells.size = 1)
    (v : Value) (n : Nat) (xs : List Value) (hs : a.eval s = v) (hown : w.ownsRow base e 1 v n xs)
    (A : Option Addr) (m c : Nat) (news : List Value) (hx : a.eval x = .slice A m c) (hnil : A = none → c = 0) (b2 : Nat) (hrd : Rd w b2 1 A m news) (h1 : ∀ u ∈ news, u.oneCell' = true)
    (h63 : n + m ≤ maxLen) (hbytes : (n + m) * bytes ≤ 140737488355328) (hbase : base ≤ w.heap.size)
    (h : ∀ v' w', w'.ownsRow base e 1 v' (n + m) (xs ++ news) → w.grownBy w' v.ownBlock → wpList P ops Q rest (a.put o.dst v') w') :
    wpList P ops Q (o :: rest) a w := by
  have hl := hrd.1
  rcases A with _ | ad
  · obtain rfl := hnil rfl
    obtain rfl : m = 0 := by
      rcases hrd.2 with h | ⟨a, e, _⟩
      · exact h
      · cases e
    obtain rfl : news = [] := List.eq_nil_of_length_eq_zero (by omega)
    refine wpList_append_own_none hgd s x t ho base e i 1 ht hi v n xs hs hown hx ?_
    exact h v w (by simpa using hown) ⟨rfl, rfl, rfl, Nat.le_refl _, fun _ _ _ => rfl⟩
  · have hc : ∀ j u, news[j]? = some u → w.cell? (ad.add j) = some u := by
      rcases hrd.2 with h | ⟨a, e, _, hc⟩
      · intro j u hu
        rw [List.eq_nil_of_length_eq_zero (show news.length = 0 by omega)] at hu
        cases hu
      · cases e
        exact hc
    exact wpList_append_own_at w hgd s x t ho base e i z 1 bytes ht hi hz hsize hby hzs (by omega) v n xs hs hown ad m c news hx hl hc h1 h63 hbytes hbase (fun v' w' a b _ c => h v' w' a b)


/-- a row of one's own, as a block -/
theorem own_blk {w : World} {base : Nat} {e : TypeId} {g cap sz n : Nat} {xs : List Value} (h : w.ownsRow base e sz (.slice (some ⟨g, 0, none⟩) n cap) n xs) : ∃ post, Blk w g e (xs ++ post) ∧ base ≤ g ∧ n ≤ cap ∧ cap ≤ maxLen ∧ xs.length = n * sz ∧ (xs ++ post).length = cap * sz := by
  rcases h.2 with ⟨h0, _⟩ | ⟨g', cap', cur, he, h1, h2, h3, h4, h5, h6⟩
  · cases h0
  · cases he
    refine ⟨cur.toList.drop (n * sz), ?_, h1, h3, h4, h.1, ?_⟩
    · unfold Blk
      rw [← h6, List.take_append_drop]
      exact h2
    · rw [← h6, List.take_append_drop, Array.length_toList, h5]
theorem blk_own {w : World} {base : Nat} {e : TypeId} {g cap sz n : Nat} {xs post : List Value} (h : Blk w g e (xs ++ post)) (h1 : base ≤ g) (h2 : n ≤ cap) (h3 : cap ≤ maxLen) (h4 : xs.length = n * sz) (h5 : (xs ++ post).length = cap * sz) : w.ownsRow base e sz (.slice (some ⟨g, 0, none⟩) n cap) n xs :=
  ⟨h4, .inr ⟨g, cap, _, rfl, h1, h, h2, h3, by simpa using h5, by show (xs ++ post).take (n * sz) = xs; rw [← h4, List.take_left]⟩⟩

end Go.Proofs.YtjkakemlhhieoaaGreatDoor
