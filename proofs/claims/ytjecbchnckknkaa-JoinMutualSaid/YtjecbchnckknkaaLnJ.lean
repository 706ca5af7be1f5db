/- Layer 11, the laws' helper: lent. -/
import Derived.Test.YtjecbchnckknkaaSmJ
import Derived.Laws.MakeOwn
import Derived.Laws.AppendOwnNone
set_option linter.unusedSimpArgs false
set_option linter.unusedVariables false
namespace Go.Proofs.Ytjecbchnckknkaa
open Go.RowKit Go.Lib

/-- behind a row of one's own what a list holds that is read, nil too -/
theorem wpList_append_rdJ {P : Program} {w : World} {ops : Array Oper} {rest : List Oper} {o : Oper} {a : Act} {Q : Exit → Act → World → Prop} (hgd : o.guard = none) (s x : Operand) (t : TypeId)
    (ho : o.op = .call { callee := .builtin .append, args := #[s, x], argTypes := #[t, t] })
    (base : Nat) (e : TypeId) (i : TypeInfo) (z : Value) (size bytes : Nat) (ht : P.underlying t = some (.slice e)) (hi : P.info? e = some i) (hz : i.zero = some z)
    (hsize : i.size = size) (hby : i.bytes = bytes) (hzs : z.cells.size = size) (hsz : 0 < size)
    (v : Value) (n : Nat) (xs : List Value) (hs : a.eval s = v) (hown : w.ownsRow base e size v n xs)
    (A : Option Addr) (m c : Nat) (news : List Value) (hx : a.eval x = .slice A m c) (hnil : A = none → c = 0) (b2 : Nat) (hrd : Rd w b2 size A m news) (h1 : ∀ u ∈ news, u.oneCell' = true)
    (h63 : n + m ≤ maxLen) (hbytes : (n + m) * bytes ≤ 140737488355328) (hbase : base ≤ w.heap.size)
    (h : ∀ v' w', w'.ownsRow base e size v' (n + m) (xs ++ news) → w.grownBy w' v.ownBlock → wpList P ops Q rest (a.put o.dst v') w') :
    wpList P ops Q (o :: rest) a w := by
  have hl := hrd.1
  rcases A with _ | ad
  · obtain rfl := hnil rfl
    obtain rfl : m = 0 := by
      rcases hrd.2 with h | ⟨a, e, _⟩
      · exact h
      · cases e
    obtain rfl : news = [] := List.eq_nil_of_length_eq_zero (by omega)
    refine wpList_append_own_none hgd s x t ho base e i size ht hi v n xs hs hown hx ?_
    exact h v w (by simpa using hown) ⟨rfl, rfl, rfl, Nat.le_refl _, fun _ _ _ => rfl⟩
  · have hc : ∀ j u, news[j]? = some u → w.cell? (ad.add j) = some u := by
      rcases hrd.2 with h | ⟨a, e, _, hc⟩
      · intro j u hu
        subst h
        rw [List.eq_nil_of_length_eq_zero (show news.length = 0 by omega)] at hu
        cases hu
      · cases e
        exact hc
    exact wpList_append_own_at w hgd s x t ho base e i z size bytes ht hi hz hsize hby hzs hsz v n xs hs hown ad m c news hx hl hc h1 h63 hbytes hbase (fun v' w' a b _ c => h v' w' a b)
theorem one_cellsJ (l : List Int) : ∀ u ∈ i32j l, u.oneCell' = true := by
  intro u hu
  obtain ⟨x, _, rfl⟩ := List.mem_map.1 hu
  rfl
theorem slice_rJ (W : World) (A : Option Addr) (m cp k : Nat) (hk : k ≤ cp) : (Instr.slice 22 (.slice A m cp) none (some (.int .i64 (k : Int))) none).run Try.prog W = .ok (.slice A k cp) W := by
  have h := run_slice_h (P := Try.prog) W 22 A m cp (show Try.prog.underlying 22 = some (.slice (Try.prog.elem 22)) from Try.underlying22) .i64 (k : Int) (by omega) (by omega)
  rw [h]
  have hs : (sizeOf (Try.prog.elem 22)).run Try.prog W = .ok 1 W := by rfl
  rw [hs]
  have e0 : A.map (·.add (0 * 1)) = A := by
    rcases A with _ | a
    · rfl
    · simp [Addr.add]
  simp only [Result.andThen, sliced, Int.toNat_natCast, Nat.sub_zero]
  rw [e0]
  split <;> rfl
/-- runes laid into memory of their own, with two marks behind them -/
def LentJ (n : Nat) (xs : List Int) (g cp Q : Nat) (w : World) : Prop := w.ownsRow Q 21 1 (.slice (some ⟨g, 0, none⟩) (n + 2) cp) (n + 2) (i32j (xs ++ [-9, -9]))
theorem LentJ.read {n : Nat} {xs : List Int} {g cp Q : Nat} {w : World} (h : LentJ n xs g cp Q w) : RdJ w (some ⟨g, 0, none⟩) n xs := by
  have hl := h.1
  simp at hl
  refine ⟨by simp; omega, .inr ⟨_, rfl, (h.lt g rfl).2, fun j u hu => ?_⟩⟩
  refine h.cells rfl j u ?_
  obtain ⟨hj, rfl⟩ := List.getElem?_eq_some_iff.1 hu
  simp only [List.length_map] at hj
  simp only [i32j, List.map_append]
  rw [List.getElem?_append_left (by simp; omega), List.getElem?_eq_getElem]
set_option maxRecDepth 100000 in
set_option maxHeartbeats 4000000 in
theorem lent_anyJ (A : Option Addr) (n c : Nat) (xs : List Int) (w : World) (hr : RdJ w A n xs) (hn : n ≤ 35184372087808) (hnil : A = none → c = 0) :
    Calls Try.prog 11 #[.slice A n c] w fun e w' => ∃ g cp, e = .returned (.slice (some ⟨g, 0, none⟩) n cp) ∧ LentJ n xs g cp w.heap.size w' ∧ Below w.heap.size w w' := by
  obtain ⟨i0, hi, hz0, hz1, hz2⟩ := info_parts i32_infoJ
  obtain ⟨Q, hQ⟩ : ∃ Q, w.heap.size = Q := ⟨_, rfl⟩
  have hl := hr.len
  have hw2 : IntKind.i64.wrap ((n : Int) + 2) = ((n + 2 : Nat) : Int) := by rw [IntWalk.i64_in _ (by omega)]; omega
  obtain ⟨w1, hm, o1, g1⟩ := run_make_own (P := Try.prog) w Q 22 21 i0 (.int .i32 0) 1 Try.underlying22 hi hz0 hz1 .i64 .i64 (n + 2) (by rw [hz2]; omega) (by unfold maxLen; omega) (by rw [hQ]; exact Nat.le_refl _)
  have e2 : ((n + 2 : Nat) : Int) = (n : Int) + 2 := by omega
  rw [e2] at hm
  have H1 := Lib.hid (show w1.ownsRow Q 21 1 (.slice (some ⟨w.heap.size, 0, none⟩) 0 (n + 2)) 0 [] ∧ Below Q w w1 ∧ Q ≤ w1.heap.size ∧ RdJ w1 A n xs from by
    have hb : Below Q w w1 := (Below.refl Q w).grown g1 (by rw [hQ]; exact Nat.le_refl _) (fun k hk => by cases hk)
    exact ⟨o1, hb, by have := g1.size; omega, hr.below (by rw [hQ]; exact hb)⟩)
  have HQ := Lib.hid hQ
  have Hl := Lib.hid hl
  rw [hQ]
  clear hr o1 g1 hQ hl
  go_enter Try.func11, Try.ntmps11
  go_wp2_with (at_builtin; refine wpList_append_rdJ rfl _ _ 22 rfl Q 21 i0 _ 1 4 Try.underlying22 hi hz0 hz1 hz2 rfl (by decide) _ 0 [] rfl H1.out.1 _ _ _ _ rfl hnil _ H1.out.2.2.2 (one_cellsJ xs) ?c1 ?c2 ?c3 ?_)
  case c1 => unfold maxLen; omega
  case c2 => omega
  case c3 => exact H1.out.2.2.1
  intro v2 w2 o2 g2
  have H2 := Lib.hid (show w2.ownsRow Q 21 1 v2 n (i32j xs) ∧ Below Q w w2 ∧ Q ≤ w2.heap.size from ⟨by simpa using o2, H1.out.2.1.grown g2 H1.out.2.2.1 (fun k hk => (H1.out.1.lt k hk).1), by have := g2.size; have := H1.out.2.2.1; omega⟩)
  clear o2 g2 H1 hm
  go_wp2_with (at_builtin; refine wpList_append_own_at _ rfl _ _ 22 rfl Q 21 i0 _ 1 4 Try.underlying22 hi hz0 hz1 hz2 rfl (by decide) _ _ _ rfl (H2.out.1.alloc _) ⟨w2.heap.size, 0, none⟩ 2 2 [.int .i32 (-9), .int .i32 (-9)] rfl rfl ?d1 ?d2 ?d3 ?d4 ?d5 ?_)
  try (case d1 => exact new_cells w2 [.int .i32 (-9), .int .i32 (-9)] 21)
  case d2 => simp [Value.oneCell']
  case d3 => unfold maxLen; omega
  case d4 => omega
  case d5 => rw [World.size_alloc]; have := H2.out.2.2; omega
  intro v3 w3 o3 g3 _ _
  have hb3 : Below Q w w3 := (H2.out.2.1.alloc H2.out.2.2 _).grown g3 (by rw [World.size_alloc]; have := H2.out.2.2; omega) (fun k hk => (H2.out.1.lt k hk).1)
  obtain ⟨q1, c1, hv3, _, _⟩ := o3.form (by omega)
  subst hv3
  have H3 := Lib.hid (show LentJ n xs q1 c1 Q w3 ∧ Below Q w w3 from ⟨by unfold LentJ; rw [show i32j (xs ++ [-9, -9]) = i32j xs ++ [.int .i32 (-9), .int .i32 (-9)] by simp [i32j]]; exact o3, hb3⟩)
  have hcp1 := (own_caps o3).1
  have s1 := fun W => slice_rJ W (some ⟨q1, 0, none⟩) (n + 2) c1 n (by omega)
  clear o3 g3 hb3 H2
  go_wp2_with fail
  go_ret
  exact ⟨q1, c1, rfl, H3.out.1, H3.out.2⟩
end Go.Proofs.Ytjecbchnckknkaa
