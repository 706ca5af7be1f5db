/- The program's reader: New, Held, End; an append of a row that is one's own; round. -/
import Derived.Test.YtfegbfhkmdmheaaDoorFeed
import Derived.Laws.AppendOwnNone
import Derived.Laws.OwnMore
set_option linter.unusedSimpArgs false
set_option linter.unusedVariables false
namespace Go.Proofs.YtfegbfhkmdmheaaDoor
open Go.RowKit Go.Lib

theorem new_any (w : World) : Calls Tryd.prog 7 #[] w fun e w' => e = .returned (.pointer (some ⟨w.heap.size, 0, none⟩)) ∧ w'.cell? ⟨w.heap.size, 0, none⟩ = some (.string ByteArray.empty) ∧ w'.frozen? ⟨w.heap.size, 0, none⟩ = false ∧ w.heap.size < w'.heap.size ∧ Below w.heap.size w w' := by
  have hO := World.ownsRow_lit (base := w.heap.size) (e := 54) (size := 1) w #[.string ByteArray.empty] 1 (Nat.le_refl _) (by unfold maxLen; omega) rfl
  go_enter Tryd.func7, Tryd.ntmps7
  go_wp2
  go_ret
  exact ⟨rfl, (hO.cellAt 0 (by omega)).trans rfl, hO.frozenAt 0, by simp, (Below.refl _ _).alloc (Nat.le_refl _) _⟩
theorem held_any (w : World) (g : Nat) (R : ByteArray) (hc : w.cell? ⟨g, 0, none⟩ = some (.string R)) : Calls Tryd.prog 9 #[.pointer (some ⟨g, 0, none⟩)] w fun e w' => e = .returned (.int .i64 R.size) ∧ w' = w := by
  go_enter Tryd.func9, Tryd.ntmps9
  go_wp2
  go_ret
  exact ⟨rfl, rfl⟩
set_option maxHeartbeats 1000000 in
theorem end_any (w : World) (g : Nat) (R : ByteArray) (hc : w.cell? ⟨g, 0, none⟩ = some (.string R)) (hf : w.frozen? ⟨g, 0, none⟩ = false) (hg : g < w.heap.size) (hs : R.size ≤ 3) :
    Calls Tryd.prog 28 #[.pointer (some ⟨g, 0, none⟩)] w fun e w' => ∃ g2 c : Nat, e = .returned (.slice (some ⟨g2, 0, none⟩) (runesOf R.data.toList).length c) ∧ w'.ownsRow w.heap.size 21 1 (.slice (some ⟨g2, 0, none⟩) (runesOf R.data.toList).length c) (runesOf R.data.toList).length (runeCells' (runesOf R.data.toList)) ∧
      w'.cell? ⟨g, 0, none⟩ = some (.string ByteArray.empty) ∧ w'.frozen? ⟨g, 0, none⟩ = false ∧ w.grownBy w' (some g) := by
  have hl : (runesOf R.data.toList).length ≤ 70368744177664 := by
    have := segs_len R.data.toList
    rw [size_list] at this
    simp [runesOf]
    omega
  have H := Lib.hid (runes_some R w hl)
  have Hc := Lib.hid hc
  have Hf := Lib.hid hf
  clear hl hf
  go_enter Tryd.func28, Tryd.ntmps28
  go_wp2_with fail
  refine H.out.mono ?_
  rintro e w1 ⟨g2, c, rfl, own, b⟩
  have hc1 : w1.cell? ⟨g, 0, none⟩ = some (.string R) := (b.cell (p := ⟨g, 0, none⟩) hg).trans Hc.out
  have hf1 : w1.frozen? ⟨g, 0, none⟩ = false := (b.frozen (p := ⟨g, 0, none⟩) hg).trans Hf.out
  have Own := Lib.hid own
  have B := Lib.hid b
  clear own b
  go_wp2_with fail
  go_ret
  refine ⟨g2, c, rfl, Own.out.kept (grown_set w1 ⟨g, 0, none⟩ _) (.inr fun e => ?_), World.cell?_setCell_same' _ _ _ (by rw [hc1]; rfl), by rw [World.frozen?_setCell]; exact hf1, ?_⟩
  · have := (Own.out.lt g e).1
    omega
  · have h2 := grown_set w1 ⟨g, 0, none⟩ (.string ByteArray.empty)
    exact ⟨B.out.os, B.out.tape, B.out.output, Nat.le_trans B.out.size h2.size, fun k hk hne => (h2.block k (Nat.lt_of_lt_of_le hk B.out.size) hne).trans (B.out.block k hk)⟩

theorem wpList_append_rows {P : Program} {w : World} {ops : Array Oper} {rest : List Oper} {o : Oper} {a : Act} {Q : Exit → Act → World → Prop} (hgd : o.guard = none) (s x : Operand) (t : TypeId)
    (ho : o.op = .call { callee := .builtin .append, args := #[s, x], argTypes := #[t, t] })
    (base : Nat) (e : TypeId) (i : TypeInfo) (z : Value) (bytes : Nat) (ht : P.underlying t = some (.slice e)) (hi : P.info? e = some i) (hz : i.zero = some z)
    (hsize : i.size = 1) (hby : i.bytes = bytes) (hzs : z.cells.size = 1)
    (v : Value) (n : Nat) (xs : List Value) (hs : a.eval s = v) (hown : w.ownsRow base e 1 v n xs)
    (base2 : Nat) (v2 : Value) (m : Nat) (news : List Value) (hx : a.eval x = v2) (hown2 : w.ownsRow base2 e 1 v2 m news) (h1 : ∀ u ∈ news, u.oneCell' = true)
    (h63 : n + m ≤ maxLen) (hbytes : (n + m) * bytes ≤ 140737488355328) (hbase : base ≤ w.heap.size)
    (h : ∀ v' w', w'.ownsRow base e 1 v' (n + m) (xs ++ news) → w.grownBy w' v.ownBlock → (v'.ownBlock = v.ownBlock ∨ v'.ownBlock = some w.heap.size) → wpList P ops Q rest (a.put o.dst v') w') :
    wpList P ops Q (o :: rest) a w := by
  have hl := hown2.1
  rcases hown2.2 with ⟨rfl, rfl⟩ | ⟨g, cap, cur, rfl, _, hg, _, _, _, htake⟩
  · have hn : news = [] := List.eq_nil_of_length_eq_zero (by omega)
    subst hn
    refine wpList_append_own_none hgd s x t ho base e i 1 ht hi v n xs hs hown hx ?_
    exact h v w (by simpa using hown) ⟨rfl, rfl, rfl, Nat.le_refl _, fun _ _ _ => rfl⟩ (.inl rfl)
  · exact wpList_append_own_at w hgd s x t ho base e i z 1 bytes ht hi hz hsize hby hzs (by omega) v n xs hs hown ⟨g, 0, none⟩ m cap news hx hl (hown2.cells (g := g) rfl) h1 h63 hbytes hbase (fun v' w' a b _ c => h v' w' a b c)
end Go.Proofs.YtfegbfhkmdmheaaDoor
