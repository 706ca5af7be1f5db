/- Layer 11, the laws' helper: fresh, of int8. (Made by tools/mkfrj.py.) -/
import Derived.Test.YtjecbchnckknkaaKpJ
import Derived.Maps.AppendAt
set_option linter.unusedSimpArgs false
set_option linter.unusedVariables false
namespace Go.Proofs.Ytjecbchnckknkaa
open Go.RowKit Go.Lib

theorem row_atF {w : World} {B n c : Nat} {A : Option Addr} {p t : List Int} {k : Int} (h : w.ownsRow B 27 1 (.slice A n c) n (i8s (p ++ k :: t))) :
    ∃ g, A = some ⟨g, 0, none⟩ ∧ p.length < n ∧ n ≤ c ∧ c ≤ maxLen ∧ w.cell? ⟨g, p.length, none⟩ = some (.int .i8 k) ∧ w.frozen? ⟨g, p.length, none⟩ = false ∧
      ∀ v, (w.setCell ⟨g, p.length, none⟩ (.int .i8 v)).ownsRow B 27 1 (.slice A n c) n (i8s (p ++ v :: t)) ∧ w.grownBy (w.setCell ⟨g, p.length, none⟩ (.int .i8 v)) (Value.ownBlock (.slice A n c)) := by
  have hl : (p ++ k :: t).length = n := by have := h.1; simpa using this
  simp only [List.length_append, List.length_cons] at hl
  obtain ⟨g, cap, hv, _, _⟩ := h.form (by omega)
  injection hv with hA _ hc
  subst hA hc
  obtain ⟨_, _, he, h1, h2⟩ := own_shape h
  injection he with _ _ he
  subst he
  refine ⟨g, rfl, by omega, h1, h2, ?_, h.frozenAt _, fun v => ?_⟩
  · rw [h.cellAt _ (by omega), List.getElem?_map, List.getElem?_append_right (Nat.le_refl _), Nat.sub_self]
    rfl
  · obtain ⟨s1, t1⟩ := h.stored p.length (.int .i8 v)
    rw [← List.map_set, List.set_append_right _ _ (Nat.le_refl _), Nat.sub_self] at s1
    exact ⟨s1, t1⟩

section
variable {P : Program} (w : World)
/-- as the law of the library; and where the row is moved, all that was there stays -/
theorem run_put_ownF (base : Nat) (t ty e : TypeId) (i : TypeInfo) (z : Value) (ht : P.underlying t = some (.slice e)) (hi : P.info? e = some i) (hz : i.zero = some z)
    (hsize : i.size = 1) (hby : i.bytes = 1) (hzs : z.cells.size = 1)
    (v : Value) (n : Nat) (xs : List Value) (hown : w.ownsRow base e 1 v n xs)
    (a : Addr) (u : Value) (hu : w.cell? a = some u) (h1 : u.oneCell' = true)
    (h63 : n + 1 ≤ maxLen) (hbytes : n + 1 ≤ 140737488355328) (hbase : base ≤ w.heap.size) :
    ∃ v' w', (Builtin.append_ #[t, t] ty #[v, .slice (some a) 1 1]).run P w = .ok v' w' ∧ w'.ownsRow base e 1 v' (n + 1) (xs ++ [u]) ∧ w.grownBy w' v.ownBlock ∧
      (v'.ownBlock = v.ownBlock ∨ (v'.ownBlock = some w.heap.size ∧ w.grownBy w' none)) := by
  have hnews : ∀ j x, [u][j]? = some x → w.cell? (a.add j) = some x := by
    intro j x hx
    match j, hx with
    | 0, hx =>
      have : a.add 0 = a := by unfold Addr.add; rw [if_pos rfl]
      rw [this]
      simpa using hu.trans hx
  obtain ⟨v', w', hr, h2, h3, _, h5⟩ := run_append_own_at (P := P) w base t ty e i z 1 1 ht hi hz hsize hby hzs (by decide) v n xs hown a 1 1 [u] rfl hnews (by simpa using h1) h63 (by omega) hbase
  refine ⟨v', w', hr, h2, h3, ?_⟩
  rcases hown.2 with ⟨rfl, rfl⟩ | ⟨g, cap, cur, rfl, hbg, hg, hnc, hcm, hcs, htake⟩
  · rcases h5 with h5 | h5
    · exact .inl h5
    · exact .inr ⟨h5, h3⟩
  · by_cases hroom : n + 1 ≤ cap
    · have hr2 := run_append_room (P := P) w t ty e i ht hi g n cap cur hg a 1 1 [u] (by rw [hsize]; rfl) hnews (by simpa using h1) hroom (by rw [hsize, hcs]; simp; omega)
      rw [hr] at hr2
      injection hr2 with e1 e2
      exact .inl (by rw [e1]; rfl)
    · have holds : ∀ j x, xs[j]? = some x → w.cell? ((⟨g, 0, none⟩ : Addr).add j) = some x := hown.cells (g := g) rfl
      have hr2 := run_append_grow (P := P) w t ty e i z ht hi hz ⟨g, 0, none⟩ n cap xs (by rw [hsize]; exact hown.1) holds a 1 1 [u] (by rw [hsize]; rfl) hnews (by omega) (by unfold maxLen at h63; omega) (growslice_fits (by omega) (by rw [hby]; omega))
      rw [hr] at hr2
      injection hr2 with e1 e2
      refine .inr ⟨by rw [e1]; rfl, ?_⟩
      rw [e2]
      have hga := World.grownBy_alloc w.drew (.cells (xs.toArray ++ #[u] ++ Builtin.zeroCells z.cells (grownCap w (n + 1) cap e - (n + 1))) e) none
      exact ⟨rfl, rfl, rfl, hga.size, fun k hk hn => hga.block k hk hn⟩
/-- at the operation -/
theorem wpList_put_ownF {ops : Array Oper} {rest : List Oper} {o : Oper} {a : Act} {Q : Exit → Act → World → Prop} (hgd : o.guard = none) (s x : Operand) (t : TypeId)
    (ho : o.op = .call { callee := .builtin .append, args := #[s, x], argTypes := #[t, t] })
    (base : Nat) (e : TypeId) (i : TypeInfo) (z : Value) (ht : P.underlying t = some (.slice e)) (hi : P.info? e = some i) (hz : i.zero = some z)
    (hsize : i.size = 1) (hby : i.bytes = 1) (hzs : z.cells.size = 1)
    (v : Value) (n : Nat) (xs : List Value) (hs : a.eval s = v) (hown : w.ownsRow base e 1 v n xs)
    (ad : Addr) (u : Value) (hx : a.eval x = .slice (some ad) 1 1) (hu : w.cell? ad = some u) (h1 : u.oneCell' = true)
    (h63 : n + 1 ≤ maxLen) (hbytes : n + 1 ≤ 140737488355328) (hbase : base ≤ w.heap.size)
    (h : ∀ v' w', w'.ownsRow base e 1 v' (n + 1) (xs ++ [u]) → w.grownBy w' v.ownBlock → (v'.ownBlock = v.ownBlock ∨ (v'.ownBlock = some w.heap.size ∧ w.grownBy w' none)) → wpList P ops Q rest (a.put o.dst v') w') :
    wpList P ops Q (o :: rest) a w := by
  refine wpList_plain hgd fun K hK => ?_
  obtain ⟨v', w', hr, h2, h3, h4⟩ := run_put_ownF (P := P) w base t o.type e i z ht hi hz hsize hby hzs v n xs hown ad u hu h1 h63 hbytes hbase
  unfold Oper.wp
  simp [execOp, ho, resolve, invoke, builtin, hs, hx, hr, Result.andThen]
  exact hK _ _ (h v' w' h2 h3 h4)
end

/-- The first n of what was handed in, and the row that grew out of it by j: both read k all along; all else below B stays. -/
structure GrowIF (w0 : World) (B : Nat) (A : Option Addr) (n c : Nat) (kk : Int) (m : Nat) (v : Value) (w : World) : Prop where
  own : w.ownsRow B 27 1 v m (i8s (List.replicate m kk))
  old : RdF w A n (List.replicate n kk)
  -- where the old one lies: in the row, or in none that is written
  at_ : (Value.slice A n c).ownBlock = v.ownBlock ∨ ∀ g, (Value.slice A n c).ownBlock = some g → v.ownBlock ≠ some g
theorem rep_snocF (m : Nat) (k : Int) : i8s (List.replicate m k) ++ [.int .i8 k] = i8s (List.replicate (m + 1) k) := by
  rw [List.replicate_succ']
  simp [i8s]
/-- what is read in a block that did not turn -/
theorem RdF.keptF {w w' : World} {A : Option Addr} {n : Nat} {xs : List Int} (h : RdF w A n xs) (hs : w.heap.size ≤ w'.heap.size) (hk : ∀ a, A = some a → w'.heap[a.block]? = w.heap[a.block]?) : RdF w' A n xs := by
  refine ⟨h.1, ?_⟩
  rcases h.2 with h0 | ⟨a, e, hb, hc⟩
  · exact .inl h0
  · refine .inr ⟨a, e, by omega, fun j u hu => ?_⟩
    have hj := hc j u hu
    rw [← hj]
    exact World.cell?_of_block (by rw [add_blockJ]; exact hk a e)
theorem GrowIF.put {w0 w w' : World} {B n c : Nat} {A : Option Addr} {k : Int} {m : Nat} {v v' : Value} (h : GrowIF w0 B A n c k m v w) (hnm : n ≤ m) (hA : n = 0 ∨ ∃ g, A = some ⟨g, 0, none⟩) (hlt : ∀ g, (Value.slice A n c).ownBlock = some g → g < w.heap.size)
    (ho : w'.ownsRow B 27 1 v' (m + 1) (i8s (List.replicate m k) ++ [.int .i8 k])) (hg : w.grownBy w' v.ownBlock) (ha : v'.ownBlock = v.ownBlock ∨ (v'.ownBlock = some w.heap.size ∧ w.grownBy w' none)) : GrowIF w0 B A n c k (m + 1) v' w' := by
  rw [rep_snocF] at ho
  rcases hA with rfl | ⟨g, rfl⟩
  · refine ⟨ho, ⟨by simp, .inl rfl⟩, ?_⟩
    rcases ha with ha | ⟨ha, _⟩
    · rw [ha]
      exact h.at_
    · refine .inr (fun g hg' e => ?_)
      rw [ha] at e
      injection e with e
      have := hlt g hg'
      omega
  · have hob : (Value.slice (some ⟨g, 0, none⟩) n c).ownBlock = some g := rfl
    have hgl := hlt g hob
    rcases ha with ha | ⟨ha, hgn⟩
    · -- in the same row
      rcases h.at_ with e | e
      · have hvg : v'.ownBlock = some g := by rw [ha, ← e]; rfl
        refine ⟨ho, ?_, .inl (by rw [hvg]; rfl)⟩
        refine ⟨by simp, .inr ⟨_, rfl, (ho.lt g hvg).2, fun j u hu => ?_⟩⟩
        refine ho.cells hvg j u ?_
        obtain ⟨hj, rfl⟩ := List.getElem?_eq_some_iff.1 hu
        simp at hj
        rw [List.getElem?_map, List.getElem?_replicate, if_pos (by omega)]
        simp
      · refine ⟨ho, h.old.keptF hg.size (fun a ea => ?_), .inr (fun g' hg' => by rw [ha]; exact e g' hg')⟩
        injection ea with ea
        subst ea
        exact hg.block g hgl (fun e' => e g hob e'.symm)
    · refine ⟨ho, h.old.keptF hg.size (fun a ea => ?_), .inr (fun g' hg' e' => ?_)⟩
      · injection ea with ea
        subst ea
        exact hgn.block g hgl (fun e' => by cases e')
      · rw [ha] at e'
        injection e' with e'
        have := hlt g' hg'
        omega
/-- what another row's growing leaves of it -/
theorem GrowIF.other {w0 w w' : World} {B n c : Nat} {A : Option Addr} {k : Int} {m : Nat} {v : Value} {row : Option Nat} (h : GrowIF w0 B A n c k m v w) (hA : n = 0 ∨ ∃ g, A = some ⟨g, 0, none⟩) (hlt : ∀ g, (Value.slice A n c).ownBlock = some g → g < w.heap.size)
    (hg : w.grownBy w' row) (h1 : ∀ g, row = some g → v.ownBlock ≠ some g) (h2 : ∀ g, row = some g → (Value.slice A n c).ownBlock ≠ some g) : GrowIF w0 B A n c k m v w' := by
  refine ⟨h.own.kept hg ?_, h.old.keptF hg.size (fun a ea => ?_), h.at_⟩
  · cases e : v.ownBlock with
    | none => exact .inl rfl
    | some b => exact .inr (fun e' => h1 b e'.symm e)
  · rcases hA with rfl | ⟨g, rfl⟩
    · by_cases hx : some a.block = row
      · exact absurd (by rw [ea]; rfl) (h2 a.block hx.symm)
      · have hab : a.block < w.heap.size := hlt a.block (by rw [ea]; rfl)
        exact hg.block a.block hab hx
    · injection ea with ea
      subst ea
      have hx : some g ≠ row := fun e' => h2 g e'.symm rfl
      exact hg.block g (hlt g rfl) hx
/-- two that were handed out, written full, and what grew out of each -/
structure FIF (w0 : World) (Q : Nat) (A : Option Addr) (c : Nat) (A' : Option Addr) (c' n m m' : Nat) (v v' : Value) (w : World) : Prop where
  gx : GrowIF w0 Q A n c 101 m v w
  gy : GrowIF w0 Q A' n c' 102 m' v' w
  below : Below Q w0 w
  size : Q ≤ w.heap.size
  hA : n = 0 ∨ ∃ g, A = some ⟨g, 0, none⟩
  hA' : n = 0 ∨ ∃ g, A' = some ⟨g, 0, none⟩
  la : ∀ g, (Value.slice A n c).ownBlock = some g → g < w.heap.size
  lb : ∀ g, (Value.slice A' n c').ownBlock = some g → g < w.heap.size
  xy : ∀ g, v.ownBlock = some g → v'.ownBlock ≠ some g
  xb : ∀ g, v.ownBlock = some g → (Value.slice A' n c').ownBlock ≠ some g
  ya : ∀ g, v'.ownBlock = some g → (Value.slice A n c).ownBlock ≠ some g
section
variable {w0 w w' : World} {Q c c' n m m' : Nat} {A A' : Option Addr} {v v' u : Value}
theorem FIF.alloc (h : FIF w0 Q A c A' c' n m m' v v' w) (o : Obj) : FIF w0 Q A c A' c' n m m' v v' (w.alloc o) := by
  have hg : w.grownBy (w.alloc o) none := World.grownBy_alloc w o none
  have hs : w.heap.size ≤ (w.alloc o).heap.size := hg.size
  exact ⟨h.gx.other h.hA h.la hg (fun _ e => by cases e) (fun _ e => by cases e), h.gy.other h.hA' h.lb hg (fun _ e => by cases e) (fun _ e => by cases e), h.below.alloc h.size o, Nat.le_trans h.size hs, h.hA, h.hA',
    fun g e => Nat.lt_of_lt_of_le (h.la g e) hs, fun g e => Nat.lt_of_lt_of_le (h.lb g e) hs, h.xy, h.xb, h.ya⟩
theorem FIF.putx (h : FIF w0 Q A c A' c' n m m' v v' w) (hm : n ≤ m)
    (ho : w'.ownsRow Q 27 1 u (m + 1) (i8s (List.replicate m 101) ++ [.int .i8 101])) (hg : w.grownBy w' v.ownBlock) (ha : u.ownBlock = v.ownBlock ∨ (u.ownBlock = some w.heap.size ∧ w.grownBy w' none)) : FIF w0 Q A c A' c' n (m + 1) m' u v' w' := by
  have hs := hg.size
  have hv' : ∀ g, v'.ownBlock = some g → g < w.heap.size := fun g e => (h.gy.own.lt g e).2
  refine ⟨h.gx.put hm h.hA h.la ho hg ha, h.gy.other h.hA' h.lb hg (fun g e => h.xy g e) (fun g e => h.xb g e), h.below.grown hg h.size (fun g e => (h.gx.own.lt g e).1), Nat.le_trans h.size hs, h.hA, h.hA',
    fun g e => Nat.lt_of_lt_of_le (h.la g e) hs, fun g e => Nat.lt_of_lt_of_le (h.lb g e) hs, fun g e => ?_, fun g e => ?_, h.ya⟩
  · rcases ha with ha | ⟨ha, _⟩
    · exact h.xy g (ha ▸ e)
    · rw [ha] at e
      injection e with e
      exact fun e' => by have := hv' g e'; omega
  · rcases ha with ha | ⟨ha, _⟩
    · exact h.xb g (ha ▸ e)
    · rw [ha] at e
      injection e with e
      exact fun e' => by have := h.lb g e'; omega
theorem FIF.puty (h : FIF w0 Q A c A' c' n m m' v v' w) (hm : n ≤ m')
    (ho : w'.ownsRow Q 27 1 u (m' + 1) (i8s (List.replicate m' 102) ++ [.int .i8 102])) (hg : w.grownBy w' v'.ownBlock) (ha : u.ownBlock = v'.ownBlock ∨ (u.ownBlock = some w.heap.size ∧ w.grownBy w' none)) : FIF w0 Q A c A' c' n m (m' + 1) v u w' := by
  have hs := hg.size
  have hv : ∀ g, v.ownBlock = some g → g < w.heap.size := fun g e => (h.gx.own.lt g e).2
  refine ⟨h.gx.other h.hA h.la hg (fun g e e' => h.xy g e' e) (fun g e => h.ya g e), h.gy.put hm h.hA' h.lb ho hg ha, h.below.grown hg h.size (fun g e => (h.gy.own.lt g e).1), Nat.le_trans h.size hs, h.hA, h.hA',
    fun g e => Nat.lt_of_lt_of_le (h.la g e) hs, fun g e => Nat.lt_of_lt_of_le (h.lb g e) hs, fun g e e' => ?_, h.xb, fun g e => ?_⟩
  · rcases ha with ha | ⟨ha, _⟩
    · exact h.xy g e (ha ▸ e')
    · rw [ha] at e'
      injection e' with e'
      have := hv g e
      omega
  · rcases ha with ha | ⟨ha, _⟩
    · exact h.ya g (ha ▸ e)
    · rw [ha] at e
      injection e with e
      exact fun e' => by have := h.la g e'; omega
end
theorem FIF.addx {w0 w w' : World} {Q c c' n m m' : Nat} {A A' : Option Addr} {v v' u : Value} {o : Obj} (h : FIF w0 Q A c A' c' n m m' v v' w) (hm : n ≤ m)
    (ho : w'.ownsRow Q 27 1 u (m + 1) (List.replicate m (.int .i8 101) ++ [.int .i8 101])) (hg : (w.alloc o).grownBy w' v.ownBlock) (ha : u.ownBlock = v.ownBlock ∨ (u.ownBlock = some (w.heap.size + 1) ∧ (w.alloc o).grownBy w' none)) : FIF w0 Q A c A' c' n (m + 1) m' u v' w' := by
  refine FIF.putx (h.alloc o) hm ?_ hg ?_
  · rw [show i8s (List.replicate m 101) = List.replicate m (.int .i8 101) from List.map_replicate ..]
    exact ho
  · rw [World.size_alloc]
    exact ha
theorem FIF.addy {w0 w w' : World} {Q c c' n m m' : Nat} {A A' : Option Addr} {v v' u : Value} {o : Obj} (h : FIF w0 Q A c A' c' n m m' v v' w) (hm : n ≤ m')
    (ho : w'.ownsRow Q 27 1 u (m' + 1) (List.replicate m' (.int .i8 102) ++ [.int .i8 102])) (hg : (w.alloc o).grownBy w' v'.ownBlock) (ha : u.ownBlock = v'.ownBlock ∨ (u.ownBlock = some (w.heap.size + 1) ∧ (w.alloc o).grownBy w' none)) : FIF w0 Q A c A' c' n m (m' + 1) v u w' := by
  refine FIF.puty (h.alloc o) hm ?_ hg ?_
  · rw [show i8s (List.replicate m' 102) = List.replicate m' (.int .i8 102) from List.map_replicate ..]
    exact ho
  · rw [World.size_alloc]
    exact ha
/-- a row of one number, at a place -/
theorem rep_cellF {w : World} {A : Option Addr} {m : Nat} {k : Int} (h : RdF w A m (List.replicate m k)) {i : Nat} (hi : i < m) : ∃ a, A = some a ∧ w.cell? (a.add i) = some (.int .i8 k) := by
  obtain ⟨a, e, _, hc⟩ := Rd.addr h (by omega)
  exact ⟨a, e, hc i _ (by rw [List.getElem?_map, List.getElem?_replicate, if_pos hi]; rfl)⟩
theorem new_atF (w : World) (x : Value) (t : TypeId) : (w.alloc (.cells #[x] t)).cell? ⟨w.heap.size, 0, none⟩ = some x := by
  have h := cell_one_new w x t 0 x rfl
  have : (⟨w.heap.size, 0, none⟩ : Addr).add 0 = ⟨w.heap.size, 0, none⟩ := by unfold Addr.add; rw [if_pos rfl]
  rw [this] at h
  exact h
theorem own_addrF {w : World} {B n c : Nat} {A : Option Addr} {xs : List Value} (h : w.ownsRow B 27 1 (.slice A n c) n xs) : n = 0 ∨ ∃ g, A = some ⟨g, 0, none⟩ := by
  rcases Nat.eq_zero_or_pos n with h0 | h0
  · exact .inl h0
  · obtain ⟨g, cap, hv, _, _⟩ := h.form h0
    injection hv with hA
    exact .inr ⟨g, hA⟩
set_option maxRecDepth 100000 in
set_option maxHeartbeats 4000000 in
theorem fresh_anyF (Q : Nat) (A A' : Option Addr) (n c c' : Nat) (xs ys : List Int) (w : World) (ha : w.ownsRow Q 27 1 (.slice A n c) n (i8s xs)) (hb : w.ownsRow Q 27 1 (.slice A' n c') n (i8s ys))
    (hd : ∀ g, (Value.slice A n c).ownBlock = some g → (Value.slice A' n c').ownBlock ≠ some g) (hn : n ≤ 35184372087808) (hQ : Q ≤ w.heap.size) :
    Calls Try.prog 15 #[.slice A n c, .slice A' n c', .int .i8 101, .int .i8 102] w fun e w' => e = .returned (.bool true) ∧ Below Q w w' := by
  obtain ⟨i0, hi, hz0, hz1, hz2⟩ := info_parts i8_infoJ
  have hxl : xs.length = n := by have := ha.1; simpa using this
  have hyl : ys.length = n := by have := hb.1; simpa using this
  have hAa := own_addrF ha
  have hAb := own_addrF hb
  have HAa := Lib.hid hAa
  have HAb := Lib.hid hAb
  have Hd := Lib.hid hd
  have H0 := Lib.hid (show w.ownsRow Q 27 1 (.slice A n c) n (i8s (List.replicate 0 101 ++ xs)) ∧ w.ownsRow Q 27 1 (.slice A' n c') n (i8s ys) ∧ Below Q w w ∧ Q ≤ w.heap.size from ⟨ha, hb, Below.refl _ _, hQ⟩)
  have Hyl := Lib.hid hyl
  clear ha hb hd hAa hAb hyl hQ
  go_enter Try.func15, Try.ntmps15
  go_wp2_with fail
  go_loopw [17] (fun x wr => ∃ (i : Nat) (t : List Int) (W : World), W = wr ∧ x = .int .i64 (i : Int) ∧ i + t.length = n ∧ Hid (W.ownsRow Q 27 1 (.slice A n c) n (i8s (List.replicate i 101 ++ t)) ∧ W.ownsRow Q 27 1 (.slice A' n c') n (i8s ys) ∧ Below Q w W ∧ Q ≤ W.heap.size)) (fun x _ => n - (RowKit.intOf x).toNat)
  case atStart => exact ⟨0, xs, _, rfl, rfl, by omega, H0⟩
  case round =>
    obtain ⟨i, t, W, hW, rfl, hit, HI⟩ := hrel
    subst hW
    rcases t with _ | ⟨k, t⟩
    · have hin : i = n := by simpa using hit
      subst hin
      have hnn : ¬ (i : Int) < (i : Int) := by omega
      have H1 := Lib.hid (show W.ownsRow Q 27 1 (.slice A i c) i (i8s (List.replicate i 101)) ∧ W.ownsRow Q 27 1 (.slice A' i c') i (i8s (List.replicate 0 102 ++ ys)) ∧ Below Q w W ∧ Q ≤ W.heap.size from ⟨by have := HI.out.1; simpa using this, HI.out.2⟩)
      clear HI hit H0
      go_wp2_with fail
      go_loopw [27] (fun x wr => ∃ (j : Nat) (t : List Int) (W : World), W = wr ∧ x = .int .i64 (j : Int) ∧ j + t.length = i ∧ Hid (W.ownsRow Q 27 1 (.slice A i c) i (i8s (List.replicate i 101)) ∧ W.ownsRow Q 27 1 (.slice A' i c') i (i8s (List.replicate j 102 ++ t)) ∧ Below Q w W ∧ Q ≤ W.heap.size)) (fun x _ => i - (RowKit.intOf x).toNat)
      case atStart => exact ⟨0, ys, _, rfl, rfl, by have := Hyl.out; omega, H1⟩
      case round =>
        obtain ⟨j, t, W2, hW2, rfl, hjt, HJ⟩ := hrel
        subst hW2
        rcases t with _ | ⟨k, t⟩
        · have hjn : j = i := by simpa using hjt
          subst hjn
          have hnn : ¬ (j : Int) < (j : Int) := by omega
          have HF := Lib.hid (show FIF w Q A c A' c' j (j + 0) (j + 0) (.slice A j c) (.slice A' j c') W2 from by
            obtain ⟨h1, h2, h3, h4⟩ := HJ.out
            rw [List.append_nil] at h2
            exact ⟨⟨h1, RdF.own h1, .inl rfl⟩, ⟨h2, RdF.own h2, .inl rfl⟩, h3, h4, HAa.out, HAb.out, fun g e => (h1.lt g e).2, fun g e => (h2.lt g e).2, Hd.out, Hd.out, fun g e e' => Hd.out g e' e⟩)
          clear HJ hjt H1 HAa HAb Hd
          go_wp2_with fail
          go_loopw [11, 12, 37] (fun vx vy x wr => ∃ (q : Nat) (W : World), W = wr ∧ x = .int .i64 (q : Int) ∧ q ≤ 40 ∧ Hid (FIF w Q A c A' c' j (j + q) (j + q) vx vy W)) (fun _ _ x _ => 40 - (RowKit.intOf x).toNat)
          case atStart => exact ⟨0, _, rfl, rfl, by omega, HF⟩
          case round =>
            obtain ⟨q, W3, hW3, rfl, hq, HG⟩ := hrel
            subst hW3
            by_cases hq4 : q = 40
            · subst hq4
              obtain ⟨Ax, cx, hvx, _, _⟩ := own_shape HG.out.gx.own
              obtain ⟨Ay, cy, hvy, _, _⟩ := own_shape HG.out.gy.own
              subst hvx hvy
              have HX := Lib.hid (show RdF W3 Ax (j + 40) (List.replicate (j + 40) 101) ∧ RdF W3 Ay (j + 40) (List.replicate (j + 40) 102) ∧ RdF W3 A j (List.replicate j 101) ∧ RdF W3 A' j (List.replicate j 102) ∧ Below Q w W3 from ⟨RdF.own HG.out.gx.own, RdF.own HG.out.gy.own, HG.out.gx.old, HG.out.gy.old, HG.out.below⟩)
              obtain ⟨m, hm⟩ : ∃ m, j + 40 = m := ⟨_, rfl⟩
              rw [hm] at HX ⊢
              have hmb : m ≤ 35184372087848 := by omega
              clear HG HF hm hq
              go_wp2_with fail
              go_loopw [50] (fun x wr => wr = W3 ∧ ∃ (i : Nat), i ≤ m ∧ x = .int .i64 (i : Int)) (fun x _ => m - (RowKit.intOf x).toNat)
              case atStart => exact ⟨rfl, 0, Nat.zero_le _, rfl⟩
              case round =>
                obtain ⟨hw3, i, him, rfl⟩ := hrel
                subst hw3
                by_cases hlt : i < m
                · obtain ⟨a, hA, hc1⟩ := rep_cellF HX.out.1 hlt
                  obtain ⟨b, hB, hc2⟩ := rep_cellF HX.out.2.1 hlt
                  subst hA hB
                  have hini : (i : Int) < (m : Int) := by omega
                  have hnext : IntKind.i64.wrap ((i : Int) + 1) = (i : Int) + 1 := IntWalk.i64_in _ (by omega)
                  go_wp2_with fail
                  go_roundw
                  case rel => exact ⟨trivial, i + 1, by omega, by first | rfl | go_num⟩
                  case measure => simp [RowKit.intOf]; omega
                · obtain rfl : m = i := by omega
                  have hnn2 : ¬ (m : Int) < (m : Int) := by omega
                  clear him hlt
                  obtain ⟨WW, hWW⟩ : ∃ WW, WW = wr := ⟨_, rfl⟩
                  subst hWW
                  go_wp2_with fail
                  go_loopw [70] (fun x wr => wr = WW ∧ ∃ (i : Nat), i ≤ j ∧ x = .int .i64 (i : Int)) (fun x _ => j - (RowKit.intOf x).toNat)
                  case atStart => exact ⟨rfl, 0, Nat.zero_le _, rfl⟩
                  case round =>
                    obtain ⟨hw4, i, hij, rfl⟩ := hrel
                    subst hw4
                    by_cases hlt : i < j
                    · obtain ⟨a, hA, hc1⟩ := rep_cellF HX.out.2.2.1 hlt
                      obtain ⟨b, hB, hc2⟩ := rep_cellF HX.out.2.2.2.1 hlt
                      subst hA hB
                      have hini : (i : Int) < (j : Int) := by omega
                      have hnext : IntKind.i64.wrap ((i : Int) + 1) = (i : Int) + 1 := IntWalk.i64_in _ (by omega)
                      go_wp2_with fail
                      go_roundw
                      case rel => exact ⟨trivial, i + 1, by omega, by first | rfl | go_num⟩
                      case measure => simp [RowKit.intOf]; omega
                    · obtain rfl : j = i := by omega
                      have hnn3 : ¬ (j : Int) < (j : Int) := by omega
                      clear hij hlt
                      go_wp2_with fail
                      go_ret
                      exact ⟨rfl, HX.out.2.2.2.2⟩
            · have hqi : (q : Int) < 40 := by omega
              have hqn : IntKind.i64.wrap ((q : Int) + 1) = (q : Int) + 1 := IntWalk.i64_in _ (by omega)
              have hQ3 : Q ≤ W3.heap.size := HG.out.size
              go_wp2_with (at_builtin; refine wpList_put_ownF _ rfl _ _ 23 rfl Q 27 i0 _ Try.underlying23 hi hz0 hz1 hz2 rfl _ _ _ rfl (HG.out.alloc _).gx.own ⟨W3.heap.size, 0, none⟩ (.int .i8 101) rfl ?p1 rfl ?p2 ?p3 ?p4 ?_)
              case p1 => exact new_atF W3 _ _
              case p2 => unfold maxLen; omega
              case p3 => omega
              case p4 => rw [World.size_alloc]; omega
              intro vx' wx hox hgx hax
              have HX := Lib.hid (FIF.addx HG.out (by omega) hox hgx hax)
              have hQx : Q ≤ wx.heap.size := HX.out.size
              clear HG hox hgx hax
              go_wp2_with (at_builtin; refine wpList_put_ownF _ rfl _ _ 23 rfl Q 27 i0 _ Try.underlying23 hi hz0 hz1 hz2 rfl _ _ _ rfl (HX.out.alloc _).gy.own ⟨wx.heap.size, 0, none⟩ (.int .i8 102) rfl ?r1 rfl ?r2 ?r3 ?r4 ?_)
              case r1 => exact new_atF wx _ _
              case r2 => unfold maxLen; omega
              case r3 => omega
              case r4 => rw [World.size_alloc]; omega
              intro vy' wy hoy hgy hay
              have HY := Lib.hid (FIF.addy HX.out (by omega) hoy hgy hay)
              clear HX hoy hgy hay
              go_wp2_with fail
              go_roundw
              case rel => exact ⟨q + 1, _, rfl, by first | rfl | go_num, by omega, HY⟩
              case measure => simp [RowKit.intOf]; omega
        · obtain ⟨h1, h2, h3, h4⟩ := HJ.out
          obtain ⟨g, hA, hin, hnc, hcm, hcell, hfz, hset⟩ := row_atF h2
          rw [List.length_replicate] at hin hcell hfz hset
          have hne : Value.ownBlock (.slice A i c) = none ∨ Value.ownBlock (.slice A i c) ≠ Value.ownBlock (.slice A' i c') := by
            cases e : Value.ownBlock (.slice A i c) with
            | none => exact .inl rfl
            | some b => exact .inr (fun e' => Hd.out b e e'.symm)
          have hini : (j : Int) < (i : Int) := by omega
          have hnext : IntKind.i64.wrap ((j : Int) + 1) = (j : Int) + 1 := IntWalk.i64_in _ (by omega)
          have HN := Lib.hid (show _ ∧ _ ∧ _ ∧ _ from ⟨h1.kept (hset 102).2 hne, (hset 102).1, h3.grown (hset 102).2 h4 (fun b hb => (h2.lt b hb).1), Nat.le_trans h4 (hset 102).2.size⟩)
          subst hA
          clear HJ h1 h2 h3 h4 hset hne
          go_wp2_with fail
          go_roundw
          case rel =>
            refine ⟨j + 1, t, _, rfl, by first | rfl | go_num, by simp at hjt; omega, Lib.hid ⟨HN.out.1, ?_, HN.out.2.2⟩⟩
            rw [List.replicate_succ', List.append_assoc]
            exact HN.out.2.1
          case measure => simp [RowKit.intOf]; omega
    · obtain ⟨h1, h2, h3, h4⟩ := HI.out
      obtain ⟨g, hA, hin, hnc, hcm, hcell, hfz, hset⟩ := row_atF h1
      rw [List.length_replicate] at hin hcell hfz hset
      have hne : Value.ownBlock (.slice A' n c') = none ∨ Value.ownBlock (.slice A' n c') ≠ Value.ownBlock (.slice A n c) := by
        cases e : Value.ownBlock (.slice A' n c') with
        | none => exact .inl rfl
        | some b => exact .inr (fun e' => Hd.out b e'.symm e)
      have hini : (i : Int) < (n : Int) := by omega
      have hnext : IntKind.i64.wrap ((i : Int) + 1) = (i : Int) + 1 := IntWalk.i64_in _ (by omega)
      have HN := Lib.hid (show _ ∧ _ ∧ _ ∧ _ from ⟨(hset 101).1, h2.kept (hset 101).2 hne, h3.grown (hset 101).2 h4 (fun b hb => (h1.lt b hb).1), Nat.le_trans h4 (hset 101).2.size⟩)
      subst hA
      clear HI h1 h2 h3 h4 hset hne
      go_wp2_with fail
      go_roundw
      case rel =>
        refine ⟨i + 1, t, _, rfl, by first | rfl | go_num, by simp at hit; omega, Lib.hid ⟨?_, HN.out.2⟩⟩
        rw [List.replicate_succ', List.append_assoc]
        exact HN.out.1
      case measure => simp [RowKit.intOf]; omega
end Go.Proofs.Ytjecbchnckknkaa

/- Layer 11, the laws' helper: fresh, of rune. (Made by tools/mkfrj.py.) -/
namespace Go.Proofs.Ytjecbchnckknkaa
open Go.RowKit Go.Lib

theorem row_atU {w : World} {B n c : Nat} {A : Option Addr} {p t : List Int} {k : Int} (h : w.ownsRow B 21 1 (.slice A n c) n (i32j (p ++ k :: t))) :
    ∃ g, A = some ⟨g, 0, none⟩ ∧ p.length < n ∧ n ≤ c ∧ c ≤ maxLen ∧ w.cell? ⟨g, p.length, none⟩ = some (.int .i32 k) ∧ w.frozen? ⟨g, p.length, none⟩ = false ∧
      ∀ v, (w.setCell ⟨g, p.length, none⟩ (.int .i32 v)).ownsRow B 21 1 (.slice A n c) n (i32j (p ++ v :: t)) ∧ w.grownBy (w.setCell ⟨g, p.length, none⟩ (.int .i32 v)) (Value.ownBlock (.slice A n c)) := by
  have hl : (p ++ k :: t).length = n := by have := h.1; simpa using this
  simp only [List.length_append, List.length_cons] at hl
  obtain ⟨g, cap, hv, _, _⟩ := h.form (by omega)
  injection hv with hA _ hc
  subst hA hc
  obtain ⟨_, _, he, h1, h2⟩ := own_shape h
  injection he with _ _ he
  subst he
  refine ⟨g, rfl, by omega, h1, h2, ?_, h.frozenAt _, fun v => ?_⟩
  · rw [h.cellAt _ (by omega), List.getElem?_map, List.getElem?_append_right (Nat.le_refl _), Nat.sub_self]
    rfl
  · obtain ⟨s1, t1⟩ := h.stored p.length (.int .i32 v)
    rw [← List.map_set, List.set_append_right _ _ (Nat.le_refl _), Nat.sub_self] at s1
    exact ⟨s1, t1⟩

section
variable {P : Program} (w : World)
/-- as the law of the library; and where the row is moved, all that was there stays -/
theorem run_put_ownU (base : Nat) (t ty e : TypeId) (i : TypeInfo) (z : Value) (ht : P.underlying t = some (.slice e)) (hi : P.info? e = some i) (hz : i.zero = some z)
    (hsize : i.size = 1) (hby : i.bytes = 4) (hzs : z.cells.size = 1)
    (v : Value) (n : Nat) (xs : List Value) (hown : w.ownsRow base e 1 v n xs)
    (a : Addr) (u : Value) (hu : w.cell? a = some u) (h1 : u.oneCell' = true)
    (h63 : n + 1 ≤ maxLen) (hbytes : (n + 1) * 4 ≤ 140737488355328) (hbase : base ≤ w.heap.size) :
    ∃ v' w', (Builtin.append_ #[t, t] ty #[v, .slice (some a) 1 1]).run P w = .ok v' w' ∧ w'.ownsRow base e 1 v' (n + 1) (xs ++ [u]) ∧ w.grownBy w' v.ownBlock ∧
      (v'.ownBlock = v.ownBlock ∨ (v'.ownBlock = some w.heap.size ∧ w.grownBy w' none)) := by
  have hnews : ∀ j x, [u][j]? = some x → w.cell? (a.add j) = some x := by
    intro j x hx
    match j, hx with
    | 0, hx =>
      have : a.add 0 = a := by unfold Addr.add; rw [if_pos rfl]
      rw [this]
      simpa using hu.trans hx
  obtain ⟨v', w', hr, h2, h3, _, h5⟩ := run_append_own_at (P := P) w base t ty e i z 1 4 ht hi hz hsize hby hzs (by decide) v n xs hown a 1 1 [u] rfl hnews (by simpa using h1) h63 (by omega) hbase
  refine ⟨v', w', hr, h2, h3, ?_⟩
  rcases hown.2 with ⟨rfl, rfl⟩ | ⟨g, cap, cur, rfl, hbg, hg, hnc, hcm, hcs, htake⟩
  · rcases h5 with h5 | h5
    · exact .inl h5
    · exact .inr ⟨h5, h3⟩
  · by_cases hroom : n + 1 ≤ cap
    · have hr2 := run_append_room (P := P) w t ty e i ht hi g n cap cur hg a 1 1 [u] (by rw [hsize]; rfl) hnews (by simpa using h1) hroom (by rw [hsize, hcs]; simp; omega)
      rw [hr] at hr2
      injection hr2 with e1 e2
      exact .inl (by rw [e1]; rfl)
    · have holds : ∀ j x, xs[j]? = some x → w.cell? ((⟨g, 0, none⟩ : Addr).add j) = some x := hown.cells (g := g) rfl
      have hr2 := run_append_grow (P := P) w t ty e i z ht hi hz ⟨g, 0, none⟩ n cap xs (by rw [hsize]; exact hown.1) holds a 1 1 [u] (by rw [hsize]; rfl) hnews (by omega) (by unfold maxLen at h63; omega) (growslice_fits (by omega) (by rw [hby]; omega))
      rw [hr] at hr2
      injection hr2 with e1 e2
      refine .inr ⟨by rw [e1]; rfl, ?_⟩
      rw [e2]
      have hga := World.grownBy_alloc w.drew (.cells (xs.toArray ++ #[u] ++ Builtin.zeroCells z.cells (grownCap w (n + 1) cap e - (n + 1))) e) none
      exact ⟨rfl, rfl, rfl, hga.size, fun k hk hn => hga.block k hk hn⟩
/-- at the operation -/
theorem wpList_put_ownU {ops : Array Oper} {rest : List Oper} {o : Oper} {a : Act} {Q : Exit → Act → World → Prop} (hgd : o.guard = none) (s x : Operand) (t : TypeId)
    (ho : o.op = .call { callee := .builtin .append, args := #[s, x], argTypes := #[t, t] })
    (base : Nat) (e : TypeId) (i : TypeInfo) (z : Value) (ht : P.underlying t = some (.slice e)) (hi : P.info? e = some i) (hz : i.zero = some z)
    (hsize : i.size = 1) (hby : i.bytes = 4) (hzs : z.cells.size = 1)
    (v : Value) (n : Nat) (xs : List Value) (hs : a.eval s = v) (hown : w.ownsRow base e 1 v n xs)
    (ad : Addr) (u : Value) (hx : a.eval x = .slice (some ad) 1 1) (hu : w.cell? ad = some u) (h1 : u.oneCell' = true)
    (h63 : n + 1 ≤ maxLen) (hbytes : (n + 1) * 4 ≤ 140737488355328) (hbase : base ≤ w.heap.size)
    (h : ∀ v' w', w'.ownsRow base e 1 v' (n + 1) (xs ++ [u]) → w.grownBy w' v.ownBlock → (v'.ownBlock = v.ownBlock ∨ (v'.ownBlock = some w.heap.size ∧ w.grownBy w' none)) → wpList P ops Q rest (a.put o.dst v') w') :
    wpList P ops Q (o :: rest) a w := by
  refine wpList_plain hgd fun K hK => ?_
  obtain ⟨v', w', hr, h2, h3, h4⟩ := run_put_ownU (P := P) w base t o.type e i z ht hi hz hsize hby hzs v n xs hown ad u hu h1 h63 hbytes hbase
  unfold Oper.wp
  simp [execOp, ho, resolve, invoke, builtin, hs, hx, hr, Result.andThen]
  exact hK _ _ (h v' w' h2 h3 h4)
end

/-- The first n of what was handed in, and the row that grew out of it by j: both read k all along; all else below B stays. -/
structure GrowIU (w0 : World) (B : Nat) (A : Option Addr) (n c : Nat) (kk : Int) (m : Nat) (v : Value) (w : World) : Prop where
  own : w.ownsRow B 21 1 v m (i32j (List.replicate m kk))
  old : RdJ w A n (List.replicate n kk)
  -- where the old one lies: in the row, or in none that is written
  at_ : (Value.slice A n c).ownBlock = v.ownBlock ∨ ∀ g, (Value.slice A n c).ownBlock = some g → v.ownBlock ≠ some g
theorem rep_snocU (m : Nat) (k : Int) : i32j (List.replicate m k) ++ [.int .i32 k] = i32j (List.replicate (m + 1) k) := by
  rw [List.replicate_succ']
  simp [i32j]
/-- what is read in a block that did not turn -/
theorem RdJ.keptU {w w' : World} {A : Option Addr} {n : Nat} {xs : List Int} (h : RdJ w A n xs) (hs : w.heap.size ≤ w'.heap.size) (hk : ∀ a, A = some a → w'.heap[a.block]? = w.heap[a.block]?) : RdJ w' A n xs := by
  refine ⟨h.1, ?_⟩
  rcases h.2 with h0 | ⟨a, e, hb, hc⟩
  · exact .inl h0
  · refine .inr ⟨a, e, by omega, fun j u hu => ?_⟩
    have hj := hc j u hu
    rw [← hj]
    exact World.cell?_of_block (by rw [add_blockJ]; exact hk a e)
theorem GrowIU.put {w0 w w' : World} {B n c : Nat} {A : Option Addr} {k : Int} {m : Nat} {v v' : Value} (h : GrowIU w0 B A n c k m v w) (hnm : n ≤ m) (hA : n = 0 ∨ ∃ g, A = some ⟨g, 0, none⟩) (hlt : ∀ g, (Value.slice A n c).ownBlock = some g → g < w.heap.size)
    (ho : w'.ownsRow B 21 1 v' (m + 1) (i32j (List.replicate m k) ++ [.int .i32 k])) (hg : w.grownBy w' v.ownBlock) (ha : v'.ownBlock = v.ownBlock ∨ (v'.ownBlock = some w.heap.size ∧ w.grownBy w' none)) : GrowIU w0 B A n c k (m + 1) v' w' := by
  rw [rep_snocU] at ho
  rcases hA with rfl | ⟨g, rfl⟩
  · refine ⟨ho, ⟨by simp, .inl rfl⟩, ?_⟩
    rcases ha with ha | ⟨ha, _⟩
    · rw [ha]
      exact h.at_
    · refine .inr (fun g hg' e => ?_)
      rw [ha] at e
      injection e with e
      have := hlt g hg'
      omega
  · have hob : (Value.slice (some ⟨g, 0, none⟩) n c).ownBlock = some g := rfl
    have hgl := hlt g hob
    rcases ha with ha | ⟨ha, hgn⟩
    · -- in the same row
      rcases h.at_ with e | e
      · have hvg : v'.ownBlock = some g := by rw [ha, ← e]; rfl
        refine ⟨ho, ?_, .inl (by rw [hvg]; rfl)⟩
        refine ⟨by simp, .inr ⟨_, rfl, (ho.lt g hvg).2, fun j u hu => ?_⟩⟩
        refine ho.cells hvg j u ?_
        obtain ⟨hj, rfl⟩ := List.getElem?_eq_some_iff.1 hu
        simp at hj
        rw [List.getElem?_map, List.getElem?_replicate, if_pos (by omega)]
        simp
      · refine ⟨ho, h.old.keptU hg.size (fun a ea => ?_), .inr (fun g' hg' => by rw [ha]; exact e g' hg')⟩
        injection ea with ea
        subst ea
        exact hg.block g hgl (fun e' => e g hob e'.symm)
    · refine ⟨ho, h.old.keptU hg.size (fun a ea => ?_), .inr (fun g' hg' e' => ?_)⟩
      · injection ea with ea
        subst ea
        exact hgn.block g hgl (fun e' => by cases e')
      · rw [ha] at e'
        injection e' with e'
        have := hlt g' hg'
        omega
/-- what another row's growing leaves of it -/
theorem GrowIU.other {w0 w w' : World} {B n c : Nat} {A : Option Addr} {k : Int} {m : Nat} {v : Value} {row : Option Nat} (h : GrowIU w0 B A n c k m v w) (hA : n = 0 ∨ ∃ g, A = some ⟨g, 0, none⟩) (hlt : ∀ g, (Value.slice A n c).ownBlock = some g → g < w.heap.size)
    (hg : w.grownBy w' row) (h1 : ∀ g, row = some g → v.ownBlock ≠ some g) (h2 : ∀ g, row = some g → (Value.slice A n c).ownBlock ≠ some g) : GrowIU w0 B A n c k m v w' := by
  refine ⟨h.own.kept hg ?_, h.old.keptU hg.size (fun a ea => ?_), h.at_⟩
  · cases e : v.ownBlock with
    | none => exact .inl rfl
    | some b => exact .inr (fun e' => h1 b e'.symm e)
  · rcases hA with rfl | ⟨g, rfl⟩
    · by_cases hx : some a.block = row
      · exact absurd (by rw [ea]; rfl) (h2 a.block hx.symm)
      · have hab : a.block < w.heap.size := hlt a.block (by rw [ea]; rfl)
        exact hg.block a.block hab hx
    · injection ea with ea
      subst ea
      have hx : some g ≠ row := fun e' => h2 g e'.symm rfl
      exact hg.block g (hlt g rfl) hx
/-- two that were handed out, written full, and what grew out of each -/
structure FIU (w0 : World) (Q : Nat) (A : Option Addr) (c : Nat) (A' : Option Addr) (c' n m m' : Nat) (v v' : Value) (w : World) : Prop where
  gx : GrowIU w0 Q A n c (-101) m v w
  gy : GrowIU w0 Q A' n c' (-102) m' v' w
  below : Below Q w0 w
  size : Q ≤ w.heap.size
  hA : n = 0 ∨ ∃ g, A = some ⟨g, 0, none⟩
  hA' : n = 0 ∨ ∃ g, A' = some ⟨g, 0, none⟩
  la : ∀ g, (Value.slice A n c).ownBlock = some g → g < w.heap.size
  lb : ∀ g, (Value.slice A' n c').ownBlock = some g → g < w.heap.size
  xy : ∀ g, v.ownBlock = some g → v'.ownBlock ≠ some g
  xb : ∀ g, v.ownBlock = some g → (Value.slice A' n c').ownBlock ≠ some g
  ya : ∀ g, v'.ownBlock = some g → (Value.slice A n c).ownBlock ≠ some g
section
variable {w0 w w' : World} {Q c c' n m m' : Nat} {A A' : Option Addr} {v v' u : Value}
theorem FIU.alloc (h : FIU w0 Q A c A' c' n m m' v v' w) (o : Obj) : FIU w0 Q A c A' c' n m m' v v' (w.alloc o) := by
  have hg : w.grownBy (w.alloc o) none := World.grownBy_alloc w o none
  have hs : w.heap.size ≤ (w.alloc o).heap.size := hg.size
  exact ⟨h.gx.other h.hA h.la hg (fun _ e => by cases e) (fun _ e => by cases e), h.gy.other h.hA' h.lb hg (fun _ e => by cases e) (fun _ e => by cases e), h.below.alloc h.size o, Nat.le_trans h.size hs, h.hA, h.hA',
    fun g e => Nat.lt_of_lt_of_le (h.la g e) hs, fun g e => Nat.lt_of_lt_of_le (h.lb g e) hs, h.xy, h.xb, h.ya⟩
theorem FIU.putx (h : FIU w0 Q A c A' c' n m m' v v' w) (hm : n ≤ m)
    (ho : w'.ownsRow Q 21 1 u (m + 1) (i32j (List.replicate m (-101)) ++ [.int .i32 (-101)])) (hg : w.grownBy w' v.ownBlock) (ha : u.ownBlock = v.ownBlock ∨ (u.ownBlock = some w.heap.size ∧ w.grownBy w' none)) : FIU w0 Q A c A' c' n (m + 1) m' u v' w' := by
  have hs := hg.size
  have hv' : ∀ g, v'.ownBlock = some g → g < w.heap.size := fun g e => (h.gy.own.lt g e).2
  refine ⟨h.gx.put hm h.hA h.la ho hg ha, h.gy.other h.hA' h.lb hg (fun g e => h.xy g e) (fun g e => h.xb g e), h.below.grown hg h.size (fun g e => (h.gx.own.lt g e).1), Nat.le_trans h.size hs, h.hA, h.hA',
    fun g e => Nat.lt_of_lt_of_le (h.la g e) hs, fun g e => Nat.lt_of_lt_of_le (h.lb g e) hs, fun g e => ?_, fun g e => ?_, h.ya⟩
  · rcases ha with ha | ⟨ha, _⟩
    · exact h.xy g (ha ▸ e)
    · rw [ha] at e
      injection e with e
      exact fun e' => by have := hv' g e'; omega
  · rcases ha with ha | ⟨ha, _⟩
    · exact h.xb g (ha ▸ e)
    · rw [ha] at e
      injection e with e
      exact fun e' => by have := h.lb g e'; omega
theorem FIU.puty (h : FIU w0 Q A c A' c' n m m' v v' w) (hm : n ≤ m')
    (ho : w'.ownsRow Q 21 1 u (m' + 1) (i32j (List.replicate m' (-102)) ++ [.int .i32 (-102)])) (hg : w.grownBy w' v'.ownBlock) (ha : u.ownBlock = v'.ownBlock ∨ (u.ownBlock = some w.heap.size ∧ w.grownBy w' none)) : FIU w0 Q A c A' c' n m (m' + 1) v u w' := by
  have hs := hg.size
  have hv : ∀ g, v.ownBlock = some g → g < w.heap.size := fun g e => (h.gx.own.lt g e).2
  refine ⟨h.gx.other h.hA h.la hg (fun g e e' => h.xy g e' e) (fun g e => h.ya g e), h.gy.put hm h.hA' h.lb ho hg ha, h.below.grown hg h.size (fun g e => (h.gy.own.lt g e).1), Nat.le_trans h.size hs, h.hA, h.hA',
    fun g e => Nat.lt_of_lt_of_le (h.la g e) hs, fun g e => Nat.lt_of_lt_of_le (h.lb g e) hs, fun g e e' => ?_, h.xb, fun g e => ?_⟩
  · rcases ha with ha | ⟨ha, _⟩
    · exact h.xy g e (ha ▸ e')
    · rw [ha] at e'
      injection e' with e'
      have := hv g e
      omega
  · rcases ha with ha | ⟨ha, _⟩
    · exact h.ya g (ha ▸ e)
    · rw [ha] at e
      injection e with e
      exact fun e' => by have := h.la g e'; omega
end
theorem FIU.addx {w0 w w' : World} {Q c c' n m m' : Nat} {A A' : Option Addr} {v v' u : Value} {o : Obj} (h : FIU w0 Q A c A' c' n m m' v v' w) (hm : n ≤ m)
    (ho : w'.ownsRow Q 21 1 u (m + 1) (List.replicate m (.int .i32 (-101)) ++ [.int .i32 (-101)])) (hg : (w.alloc o).grownBy w' v.ownBlock) (ha : u.ownBlock = v.ownBlock ∨ (u.ownBlock = some (w.heap.size + 1) ∧ (w.alloc o).grownBy w' none)) : FIU w0 Q A c A' c' n (m + 1) m' u v' w' := by
  refine FIU.putx (h.alloc o) hm ?_ hg ?_
  · rw [show i32j (List.replicate m (-101)) = List.replicate m (.int .i32 (-101)) from List.map_replicate ..]
    exact ho
  · rw [World.size_alloc]
    exact ha
theorem FIU.addy {w0 w w' : World} {Q c c' n m m' : Nat} {A A' : Option Addr} {v v' u : Value} {o : Obj} (h : FIU w0 Q A c A' c' n m m' v v' w) (hm : n ≤ m')
    (ho : w'.ownsRow Q 21 1 u (m' + 1) (List.replicate m' (.int .i32 (-102)) ++ [.int .i32 (-102)])) (hg : (w.alloc o).grownBy w' v'.ownBlock) (ha : u.ownBlock = v'.ownBlock ∨ (u.ownBlock = some (w.heap.size + 1) ∧ (w.alloc o).grownBy w' none)) : FIU w0 Q A c A' c' n m (m' + 1) v u w' := by
  refine FIU.puty (h.alloc o) hm ?_ hg ?_
  · rw [show i32j (List.replicate m' (-102)) = List.replicate m' (.int .i32 (-102)) from List.map_replicate ..]
    exact ho
  · rw [World.size_alloc]
    exact ha
/-- a row of one number, at a place -/
theorem rep_cellU {w : World} {A : Option Addr} {m : Nat} {k : Int} (h : RdJ w A m (List.replicate m k)) {i : Nat} (hi : i < m) : ∃ a, A = some a ∧ w.cell? (a.add i) = some (.int .i32 k) := by
  obtain ⟨a, e, _, hc⟩ := Rd.addr h (by omega)
  exact ⟨a, e, hc i _ (by rw [List.getElem?_map, List.getElem?_replicate, if_pos hi]; rfl)⟩
theorem new_atU (w : World) (x : Value) (t : TypeId) : (w.alloc (.cells #[x] t)).cell? ⟨w.heap.size, 0, none⟩ = some x := by
  have h := cell_one_new w x t 0 x rfl
  have : (⟨w.heap.size, 0, none⟩ : Addr).add 0 = ⟨w.heap.size, 0, none⟩ := by unfold Addr.add; rw [if_pos rfl]
  rw [this] at h
  exact h
theorem own_addrU {w : World} {B n c : Nat} {A : Option Addr} {xs : List Value} (h : w.ownsRow B 21 1 (.slice A n c) n xs) : n = 0 ∨ ∃ g, A = some ⟨g, 0, none⟩ := by
  rcases Nat.eq_zero_or_pos n with h0 | h0
  · exact .inl h0
  · obtain ⟨g, cap, hv, _, _⟩ := h.form h0
    injection hv with hA
    exact .inr ⟨g, hA⟩
set_option maxRecDepth 100000 in
set_option maxHeartbeats 4000000 in
theorem fresh_anyU (Q : Nat) (A A' : Option Addr) (n c c' : Nat) (xs ys : List Int) (w : World) (ha : w.ownsRow Q 21 1 (.slice A n c) n (i32j xs)) (hb : w.ownsRow Q 21 1 (.slice A' n c') n (i32j ys))
    (hd : ∀ g, (Value.slice A n c).ownBlock = some g → (Value.slice A' n c').ownBlock ≠ some g) (hn : n ≤ 35184372087808) (hQ : Q ≤ w.heap.size) :
    Calls Try.prog 20 #[.slice A n c, .slice A' n c', .int .i32 (-101), .int .i32 (-102)] w fun e w' => e = .returned (.bool true) ∧ Below Q w w' := by
  obtain ⟨i0, hi, hz0, hz1, hz2⟩ := info_parts i32_infoJ
  have hxl : xs.length = n := by have := ha.1; simpa using this
  have hyl : ys.length = n := by have := hb.1; simpa using this
  have hAa := own_addrU ha
  have hAb := own_addrU hb
  have HAa := Lib.hid hAa
  have HAb := Lib.hid hAb
  have Hd := Lib.hid hd
  have H0 := Lib.hid (show w.ownsRow Q 21 1 (.slice A n c) n (i32j (List.replicate 0 (-101) ++ xs)) ∧ w.ownsRow Q 21 1 (.slice A' n c') n (i32j ys) ∧ Below Q w w ∧ Q ≤ w.heap.size from ⟨ha, hb, Below.refl _ _, hQ⟩)
  have Hyl := Lib.hid hyl
  clear ha hb hd hAa hAb hyl hQ
  go_enter Try.func20, Try.ntmps20
  go_wp2_with fail
  go_loopw [17] (fun x wr => ∃ (i : Nat) (t : List Int) (W : World), W = wr ∧ x = .int .i64 (i : Int) ∧ i + t.length = n ∧ Hid (W.ownsRow Q 21 1 (.slice A n c) n (i32j (List.replicate i (-101) ++ t)) ∧ W.ownsRow Q 21 1 (.slice A' n c') n (i32j ys) ∧ Below Q w W ∧ Q ≤ W.heap.size)) (fun x _ => n - (RowKit.intOf x).toNat)
  case atStart => exact ⟨0, xs, _, rfl, rfl, by omega, H0⟩
  case round =>
    obtain ⟨i, t, W, hW, rfl, hit, HI⟩ := hrel
    subst hW
    rcases t with _ | ⟨k, t⟩
    · have hin : i = n := by simpa using hit
      subst hin
      have hnn : ¬ (i : Int) < (i : Int) := by omega
      have H1 := Lib.hid (show W.ownsRow Q 21 1 (.slice A i c) i (i32j (List.replicate i (-101))) ∧ W.ownsRow Q 21 1 (.slice A' i c') i (i32j (List.replicate 0 (-102) ++ ys)) ∧ Below Q w W ∧ Q ≤ W.heap.size from ⟨by have := HI.out.1; simpa using this, HI.out.2⟩)
      clear HI hit H0
      go_wp2_with fail
      go_loopw [27] (fun x wr => ∃ (j : Nat) (t : List Int) (W : World), W = wr ∧ x = .int .i64 (j : Int) ∧ j + t.length = i ∧ Hid (W.ownsRow Q 21 1 (.slice A i c) i (i32j (List.replicate i (-101))) ∧ W.ownsRow Q 21 1 (.slice A' i c') i (i32j (List.replicate j (-102) ++ t)) ∧ Below Q w W ∧ Q ≤ W.heap.size)) (fun x _ => i - (RowKit.intOf x).toNat)
      case atStart => exact ⟨0, ys, _, rfl, rfl, by have := Hyl.out; omega, H1⟩
      case round =>
        obtain ⟨j, t, W2, hW2, rfl, hjt, HJ⟩ := hrel
        subst hW2
        rcases t with _ | ⟨k, t⟩
        · have hjn : j = i := by simpa using hjt
          subst hjn
          have hnn : ¬ (j : Int) < (j : Int) := by omega
          have HF := Lib.hid (show FIU w Q A c A' c' j (j + 0) (j + 0) (.slice A j c) (.slice A' j c') W2 from by
            obtain ⟨h1, h2, h3, h4⟩ := HJ.out
            rw [List.append_nil] at h2
            exact ⟨⟨h1, RdJ.own h1, .inl rfl⟩, ⟨h2, RdJ.own h2, .inl rfl⟩, h3, h4, HAa.out, HAb.out, fun g e => (h1.lt g e).2, fun g e => (h2.lt g e).2, Hd.out, Hd.out, fun g e e' => Hd.out g e' e⟩)
          clear HJ hjt H1 HAa HAb Hd
          go_wp2_with fail
          go_loopw [11, 12, 37] (fun vx vy x wr => ∃ (q : Nat) (W : World), W = wr ∧ x = .int .i64 (q : Int) ∧ q ≤ 40 ∧ Hid (FIU w Q A c A' c' j (j + q) (j + q) vx vy W)) (fun _ _ x _ => 40 - (RowKit.intOf x).toNat)
          case atStart => exact ⟨0, _, rfl, rfl, by omega, HF⟩
          case round =>
            obtain ⟨q, W3, hW3, rfl, hq, HG⟩ := hrel
            subst hW3
            by_cases hq4 : q = 40
            · subst hq4
              obtain ⟨Ax, cx, hvx, _, _⟩ := own_shape HG.out.gx.own
              obtain ⟨Ay, cy, hvy, _, _⟩ := own_shape HG.out.gy.own
              subst hvx hvy
              have HX := Lib.hid (show RdJ W3 Ax (j + 40) (List.replicate (j + 40) (-101)) ∧ RdJ W3 Ay (j + 40) (List.replicate (j + 40) (-102)) ∧ RdJ W3 A j (List.replicate j (-101)) ∧ RdJ W3 A' j (List.replicate j (-102)) ∧ Below Q w W3 from ⟨RdJ.own HG.out.gx.own, RdJ.own HG.out.gy.own, HG.out.gx.old, HG.out.gy.old, HG.out.below⟩)
              obtain ⟨m, hm⟩ : ∃ m, j + 40 = m := ⟨_, rfl⟩
              rw [hm] at HX ⊢
              have hmb : m ≤ 35184372087848 := by omega
              clear HG HF hm hq
              go_wp2_with fail
              go_loopw [50] (fun x wr => wr = W3 ∧ ∃ (i : Nat), i ≤ m ∧ x = .int .i64 (i : Int)) (fun x _ => m - (RowKit.intOf x).toNat)
              case atStart => exact ⟨rfl, 0, Nat.zero_le _, rfl⟩
              case round =>
                obtain ⟨hw3, i, him, rfl⟩ := hrel
                subst hw3
                by_cases hlt : i < m
                · obtain ⟨a, hA, hc1⟩ := rep_cellU HX.out.1 hlt
                  obtain ⟨b, hB, hc2⟩ := rep_cellU HX.out.2.1 hlt
                  subst hA hB
                  have hini : (i : Int) < (m : Int) := by omega
                  have hnext : IntKind.i64.wrap ((i : Int) + 1) = (i : Int) + 1 := IntWalk.i64_in _ (by omega)
                  go_wp2_with fail
                  go_roundw
                  case rel => exact ⟨trivial, i + 1, by omega, by first | rfl | go_num⟩
                  case measure => simp [RowKit.intOf]; omega
                · obtain rfl : m = i := by omega
                  have hnn2 : ¬ (m : Int) < (m : Int) := by omega
                  clear him hlt
                  obtain ⟨WW, hWW⟩ : ∃ WW, WW = wr := ⟨_, rfl⟩
                  subst hWW
                  go_wp2_with fail
                  go_loopw [70] (fun x wr => wr = WW ∧ ∃ (i : Nat), i ≤ j ∧ x = .int .i64 (i : Int)) (fun x _ => j - (RowKit.intOf x).toNat)
                  case atStart => exact ⟨rfl, 0, Nat.zero_le _, rfl⟩
                  case round =>
                    obtain ⟨hw4, i, hij, rfl⟩ := hrel
                    subst hw4
                    by_cases hlt : i < j
                    · obtain ⟨a, hA, hc1⟩ := rep_cellU HX.out.2.2.1 hlt
                      obtain ⟨b, hB, hc2⟩ := rep_cellU HX.out.2.2.2.1 hlt
                      subst hA hB
                      have hini : (i : Int) < (j : Int) := by omega
                      have hnext : IntKind.i64.wrap ((i : Int) + 1) = (i : Int) + 1 := IntWalk.i64_in _ (by omega)
                      go_wp2_with fail
                      go_roundw
                      case rel => exact ⟨trivial, i + 1, by omega, by first | rfl | go_num⟩
                      case measure => simp [RowKit.intOf]; omega
                    · obtain rfl : j = i := by omega
                      have hnn3 : ¬ (j : Int) < (j : Int) := by omega
                      clear hij hlt
                      go_wp2_with fail
                      go_ret
                      exact ⟨rfl, HX.out.2.2.2.2⟩
            · have hqi : (q : Int) < 40 := by omega
              have hqn : IntKind.i64.wrap ((q : Int) + 1) = (q : Int) + 1 := IntWalk.i64_in _ (by omega)
              have hQ3 : Q ≤ W3.heap.size := HG.out.size
              go_wp2_with (at_builtin; refine wpList_put_ownU _ rfl _ _ 22 rfl Q 21 i0 _ Try.underlying22 hi hz0 hz1 hz2 rfl _ _ _ rfl (HG.out.alloc _).gx.own ⟨W3.heap.size, 0, none⟩ (.int .i32 (-101)) rfl ?p1 rfl ?p2 ?p3 ?p4 ?_)
              case p1 => exact new_atU W3 _ _
              case p2 => unfold maxLen; omega
              case p3 => omega
              case p4 => rw [World.size_alloc]; omega
              intro vx' wx hox hgx hax
              have HX := Lib.hid (FIU.addx HG.out (by omega) hox hgx hax)
              have hQx : Q ≤ wx.heap.size := HX.out.size
              clear HG hox hgx hax
              go_wp2_with (at_builtin; refine wpList_put_ownU _ rfl _ _ 22 rfl Q 21 i0 _ Try.underlying22 hi hz0 hz1 hz2 rfl _ _ _ rfl (HX.out.alloc _).gy.own ⟨wx.heap.size, 0, none⟩ (.int .i32 (-102)) rfl ?r1 rfl ?r2 ?r3 ?r4 ?_)
              case r1 => exact new_atU wx _ _
              case r2 => unfold maxLen; omega
              case r3 => omega
              case r4 => rw [World.size_alloc]; omega
              intro vy' wy hoy hgy hay
              have HY := Lib.hid (FIU.addy HX.out (by omega) hoy hgy hay)
              clear HX hoy hgy hay
              go_wp2_with fail
              go_roundw
              case rel => exact ⟨q + 1, _, rfl, by first | rfl | go_num, by omega, HY⟩
              case measure => simp [RowKit.intOf]; omega
        · obtain ⟨h1, h2, h3, h4⟩ := HJ.out
          obtain ⟨g, hA, hin, hnc, hcm, hcell, hfz, hset⟩ := row_atU h2
          rw [List.length_replicate] at hin hcell hfz hset
          have hne : Value.ownBlock (.slice A i c) = none ∨ Value.ownBlock (.slice A i c) ≠ Value.ownBlock (.slice A' i c') := by
            cases e : Value.ownBlock (.slice A i c) with
            | none => exact .inl rfl
            | some b => exact .inr (fun e' => Hd.out b e e'.symm)
          have hini : (j : Int) < (i : Int) := by omega
          have hnext : IntKind.i64.wrap ((j : Int) + 1) = (j : Int) + 1 := IntWalk.i64_in _ (by omega)
          have HN := Lib.hid (show _ ∧ _ ∧ _ ∧ _ from ⟨h1.kept (hset (-102)).2 hne, (hset (-102)).1, h3.grown (hset (-102)).2 h4 (fun b hb => (h2.lt b hb).1), Nat.le_trans h4 (hset (-102)).2.size⟩)
          subst hA
          clear HJ h1 h2 h3 h4 hset hne
          go_wp2_with fail
          go_roundw
          case rel =>
            refine ⟨j + 1, t, _, rfl, by first | rfl | go_num, by simp at hjt; omega, Lib.hid ⟨HN.out.1, ?_, HN.out.2.2⟩⟩
            rw [List.replicate_succ', List.append_assoc]
            exact HN.out.2.1
          case measure => simp [RowKit.intOf]; omega
    · obtain ⟨h1, h2, h3, h4⟩ := HI.out
      obtain ⟨g, hA, hin, hnc, hcm, hcell, hfz, hset⟩ := row_atU h1
      rw [List.length_replicate] at hin hcell hfz hset
      have hne : Value.ownBlock (.slice A' n c') = none ∨ Value.ownBlock (.slice A' n c') ≠ Value.ownBlock (.slice A n c) := by
        cases e : Value.ownBlock (.slice A' n c') with
        | none => exact .inl rfl
        | some b => exact .inr (fun e' => Hd.out b e'.symm e)
      have hini : (i : Int) < (n : Int) := by omega
      have hnext : IntKind.i64.wrap ((i : Int) + 1) = (i : Int) + 1 := IntWalk.i64_in _ (by omega)
      have HN := Lib.hid (show _ ∧ _ ∧ _ ∧ _ from ⟨(hset (-101)).1, h2.kept (hset (-101)).2 hne, h3.grown (hset (-101)).2 h4 (fun b hb => (h1.lt b hb).1), Nat.le_trans h4 (hset (-101)).2.size⟩)
      subst hA
      clear HI h1 h2 h3 h4 hset hne
      go_wp2_with fail
      go_roundw
      case rel =>
        refine ⟨i + 1, t, _, rfl, by first | rfl | go_num, by simp at hit; omega, Lib.hid ⟨?_, HN.out.2⟩⟩
        rw [List.replicate_succ', List.append_assoc]
        exact HN.out.1
      case measure => simp [RowKit.intOf]; omega
end Go.Proofs.Ytjecbchnckknkaa
