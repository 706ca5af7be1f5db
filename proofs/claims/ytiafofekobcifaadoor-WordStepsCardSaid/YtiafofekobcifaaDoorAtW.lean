/- ClusterAt, walked. -/
import Derived.Test.YtiafofekobcifaaDoorAliveC
import Derived.Test.YtiafofekobcifaaDoorDocG
import Derived.Deep.RegionHeld3
import Derived.Laws.AppendOwnNone
set_option linter.unusedSimpArgs false
set_option linter.unusedVariables false
namespace Go.Proofs.YtiafofekobcifaaDoor
open Go.RowKit Go.Shelf Go.Lib

/-- what At says, wherever it is asked -/
def AtIs (s : ByteArray) (q : Int) (a b : Nat) : Prop := (∃ p : Nat, min (max q 0) (s.size : Int) = (p : Int) ∧ p < s.size ∧ Around s p a b) ∨ (min (max q 0) (s.size : Int) = (s.size : Int) ∧ a = s.size ∧ b = s.size)
theorem cat_both (s : ByteArray) (q : Int) (w : World) (hs : s.size ≤ 1073741824) (hT : Utf8Tabs 0 1 w) :
    Calls Tryd.prog 29 #[.string s, .int .i64 q] w fun e w' => (∃ a b : Nat, e = .returned (.tuple #[.int .i64 (a : Int), .int .i64 (b : Int)]) ∧ AtIs s q a b) ∧ Below w.heap.size w w' := by
  obtain ⟨p, hp⟩ : ∃ p : Nat, min (max q 0) (s.size : Int) = (p : Int) := ⟨(min (max q 0) (s.size : Int)).toNat, by omega⟩
  rcases Nat.lt_or_ge p s.size with h | h
  · refine (at_any s q p w hp h hs hT).mono ?_
    rintro _ w1 ⟨⟨a, b, rfl, ha⟩, hb⟩
    exact ⟨⟨a, b, rfl, .inl ⟨p, hp, h, ha⟩⟩, hb⟩
  · have : p = s.size := by omega
    subst this
    refine (at_end s q w hp hs).mono ?_
    rintro _ w1 ⟨rfl, hb⟩
    exact ⟨⟨_, _, rfl, .inr ⟨hp, rfl, rfl⟩⟩, hb⟩
theorem is_same (s : ByteArray) (q : Int) (b : Bool) (hb : b = true ↔ isB s q) (w : World) (hs : s.size ≤ 1073741824) (hT : Utf8Tabs 0 1 w) :
    Calls Tryd.prog 20 #[.string s, .int .i64 q] w fun e w' => e = .returned (.bool b) ∧ Below w.heap.size w w' := by
  refine (is_any s q w hs hT).mono ?_
  rintro _ w1 ⟨⟨c, rfl, hc⟩, h⟩
  have : c = b := by rw [Bool.eq_iff_iff, hc, hb]
  exact ⟨by rw [this], h⟩
theorem wpList_append_rd {P : Program} {w : World} {ops : Array Oper} {rest : List Oper} {o : Oper} {a : Act} {Q : Exit → Act → World → Prop} (hgd : o.guard = none) (s x : Operand) (t : TypeId)
    (ho : o.op = .call { callee := .builtin .append, args := #[s, x], argTypes := #[t, t] })
    (base : Nat) (e : TypeId) (i : TypeInfo) (z : Value) (bytes : Nat) (ht : P.underlying t = some (.slice e)) (hi : P.info? e = some i) (hz : i.zero = some z)
    (hsize : i.size = 1) (hby : i.bytes = bytes) (hzs : z.cells.size = 1)
    (v : Value) (n : Nat) (xs : List Value) (hs : a.eval s = v) (hown : w.ownsRow base e 1 v n xs)
    (A : Option Addr) (m c : Nat) (news : List Value) (hx : a.eval x = .slice A m c) (hnil : A = none → c = 0) (b2 : Nat) (hrd : Rd w b2 1 A m news) (h1 : ∀ u ∈ news, u.oneCell' = true)
    (h63 : n + m ≤ maxLen) (hbytes : (n + m) * bytes ≤ 140737488355328) (hbase : base ≤ w.heap.size)
    (h : ∀ v' w', w'.ownsRow base e 1 v' (n + m) (xs ++ news) → w.grownBy w' v.ownBlock → wpList P ops Q rest (a.put o.dst v') w') :
    wpList P ops Q (o :: rest) a w := by
  have hl := hrd.1
  rcases A with _ | ad
  · obtain rfl := hnil rfl
    obtain rfl : m = 0 := by
      rcases hrd.2 with h | ⟨a, e, _⟩
      · exact h
      · cases e
    obtain rfl : news = [] := List.eq_nil_of_length_eq_zero (by omega)
    refine wpList_append_own_none hgd s x t ho base e i 1 ht hi v n xs hs hown hx ?_
    exact h v w (by simpa using hown) ⟨rfl, rfl, rfl, Nat.le_refl _, fun _ _ _ => rfl⟩
  · have hc : ∀ j u, news[j]? = some u → w.cell? (ad.add j) = some u := by
      rcases hrd.2 with h | ⟨a, e, _, hc⟩
      · intro j u hu
        rw [List.eq_nil_of_length_eq_zero (show news.length = 0 by omega)] at hu
        cases hu
      · cases e
        exact hc
    exact wpList_append_own_at w hgd s x t ho base e i z 1 bytes ht hi hz hsize hby hzs (by omega) v n xs hs hown ad m c news hx hl hc h1 h63 hbytes hbase (fun v' w' a b _ c => h v' w' a b)

end Go.Proofs.YtiafofekobcifaaDoor
