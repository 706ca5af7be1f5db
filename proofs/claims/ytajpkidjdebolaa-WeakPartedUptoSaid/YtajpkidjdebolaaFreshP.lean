/- Layer 8: one number put behind a row of one's own: where it lies then, and what stays. -/
import Derived.Test.YtajpkidjdebolaaLawA8
import Derived.Maps.AppendAt
set_option linter.unusedSimpArgs false
set_option linter.unusedVariables false
namespace Go.Proofs.Ytajpkidjdebolaa
open Go.RowKit Go.Lib

section
variable {P : Program} (w : World)
/-- as the law of the library; and where the row is moved, all that was there stays -/
theorem run_put_own (base : Nat) (t ty e : TypeId) (i : TypeInfo) (z : Value) (ht : P.underlying t = some (.slice e)) (hi : P.info? e = some i) (hz : i.zero = some z)
    (hsize : i.size = 1) (hby : i.bytes = 1) (hzs : z.cells.size = 1)
    (v : Value) (n : Nat) (xs : List Value) (hown : w.ownsRow base e 1 v n xs)
    (a : Addr) (u : Value) (hu : w.cell? a = some u) (h1 : u.oneCell' = true)
    (h63 : n + 1 ≤ maxLen) (hbytes : n + 1 ≤ 140737488355328) (hbase : base ≤ w.heap.size) :
    ∃ v' w', (Builtin.append_ #[t, t] ty #[v, .slice (some a) 1 1]).run P w = .ok v' w' ∧ w'.ownsRow base e 1 v' (n + 1) (xs ++ [u]) ∧ w.grownBy w' v.ownBlock ∧
      (v'.ownBlock = v.ownBlock ∨ (v'.ownBlock = some w.heap.size ∧ w.grownBy w' none)) := by
  have hnews : ∀ j x, [u][j]? = some x → w.cell? (a.add j) = some x := by
    intro j x hx
    match j, hx with
    | 0, hx =>
      have : a.add 0 = a := by unfold Addr.add; rw [if_pos rfl]
      rw [this]
      simpa using hu.trans hx
  obtain ⟨v', w', hr, h2, h3, _, h5⟩ := run_append_own_at (P := P) w base t ty e i z 1 1 ht hi hz hsize hby hzs (by decide) v n xs hown a 1 1 [u] rfl hnews (by simpa using h1) h63 (by omega) hbase
  refine ⟨v', w', hr, h2, h3, ?_⟩
  rcases hown.2 with ⟨rfl, rfl⟩ | ⟨g, cap, cur, rfl, hbg, hg, hnc, hcm, hcs, htake⟩
  · rcases h5 with h5 | h5
    · exact .inl h5
    · exact .inr ⟨h5, h3⟩
  · by_cases hroom : n + 1 ≤ cap
    · have hr2 := run_append_room (P := P) w t ty e i ht hi g n cap cur hg a 1 1 [u] (by rw [hsize]; rfl) hnews (by simpa using h1) hroom (by rw [hsize, hcs]; simp; omega)
      rw [hr] at hr2
      injection hr2 with e1 e2
      exact .inl (by rw [e1]; rfl)
    · have holds : ∀ j x, xs[j]? = some x → w.cell? ((⟨g, 0, none⟩ : Addr).add j) = some x := hown.cells (g := g) rfl
      have hr2 := run_append_grow (P := P) w t ty e i z ht hi hz ⟨g, 0, none⟩ n cap xs (by rw [hsize]; exact hown.1) holds a 1 1 [u] (by rw [hsize]; rfl) hnews (by omega) (by unfold maxLen at h63; omega) (growslice_fits (by omega) (by rw [hby]; omega))
      rw [hr] at hr2
      injection hr2 with e1 e2
      refine .inr ⟨by rw [e1]; rfl, ?_⟩
      rw [e2]
      have hga := World.grownBy_alloc w.drew (.cells (xs.toArray ++ #[u] ++ Builtin.zeroCells z.cells (grownCap w (n + 1) cap e - (n + 1))) e) none
      exact ⟨rfl, rfl, rfl, hga.size, fun k hk hn => hga.block k hk hn⟩
/-- at the operation -/
theorem wpList_put_own {ops : Array Oper} {rest : List Oper} {o : Oper} {a : Act} {Q : Exit → Act → World → Prop} (hgd : o.guard = none) (s x : Operand) (t : TypeId)
    (ho : o.op = .call { callee := .builtin .append, args := #[s, x], argTypes := #[t, t] })
    (base : Nat) (e : TypeId) (i : TypeInfo) (z : Value) (ht : P.underlying t = some (.slice e)) (hi : P.info? e = some i) (hz : i.zero = some z)
    (hsize : i.size = 1) (hby : i.bytes = 1) (hzs : z.cells.size = 1)
    (v : Value) (n : Nat) (xs : List Value) (hs : a.eval s = v) (hown : w.ownsRow base e 1 v n xs)
    (ad : Addr) (u : Value) (hx : a.eval x = .slice (some ad) 1 1) (hu : w.cell? ad = some u) (h1 : u.oneCell' = true)
    (h63 : n + 1 ≤ maxLen) (hbytes : n + 1 ≤ 140737488355328) (hbase : base ≤ w.heap.size)
    (h : ∀ v' w', w'.ownsRow base e 1 v' (n + 1) (xs ++ [u]) → w.grownBy w' v.ownBlock → (v'.ownBlock = v.ownBlock ∨ (v'.ownBlock = some w.heap.size ∧ w.grownBy w' none)) → wpList P ops Q rest (a.put o.dst v') w') :
    wpList P ops Q (o :: rest) a w := by
  refine wpList_plain hgd fun K hK => ?_
  obtain ⟨v', w', hr, h2, h3, h4⟩ := run_put_own (P := P) w base t o.type e i z ht hi hz hsize hby hzs v n xs hown ad u hu h1 h63 hbytes hbase
  unfold Oper.wp
  simp [execOp, ho, resolve, invoke, builtin, hs, hx, hr, Result.andThen]
  exact hK _ _ (h v' w' h2 h3 h4)
end

/-- The first n of what was handed in, and the row that grew out of it by j: both read k all along; all else below B stays. -/
structure GrowI (w0 : World) (B : Nat) (A : Option Addr) (n c : Nat) (kk : Int) (m : Nat) (v : Value) (w : World) : Prop where
  own : w.ownsRow B 23 1 v m (i8s (List.replicate m kk))
  old : RdK w A n (List.replicate n kk)
  -- where the old one lies: in the row, or in none that is written
  at_ : (Value.slice A n c).ownBlock = v.ownBlock ∨ ∀ g, (Value.slice A n c).ownBlock = some g → v.ownBlock ≠ some g
theorem rep_snoc (m : Nat) (k : Int) : i8s (List.replicate m k) ++ [.int .i8 k] = i8s (List.replicate (m + 1) k) := by
  rw [List.replicate_succ']
  simp [i8s]
/-- what is read in a block that did not turn -/
theorem RdK.kept {w w' : World} {A : Option Addr} {n : Nat} {xs : List Int} (h : RdK w A n xs) (hs : w.heap.size ≤ w'.heap.size) (hk : ∀ a, A = some a → w'.heap[a.block]? = w.heap[a.block]?) : RdK w' A n xs := by
  refine ⟨h.1, ?_⟩
  rcases h.2 with h0 | ⟨a, e, hb, hc⟩
  · exact .inl h0
  · refine .inr ⟨a, e, by omega, fun j u hu => ?_⟩
    have hj := hc j u hu
    rw [← hj]
    exact World.cell?_of_block (by rw [add_block]; exact hk a e)
theorem GrowI.put {w0 w w' : World} {B n c : Nat} {A : Option Addr} {k : Int} {m : Nat} {v v' : Value} (h : GrowI w0 B A n c k m v w) (hnm : n ≤ m) (hA : n = 0 ∨ ∃ g, A = some ⟨g, 0, none⟩) (hlt : ∀ g, (Value.slice A n c).ownBlock = some g → g < w.heap.size)
    (ho : w'.ownsRow B 23 1 v' (m + 1) (i8s (List.replicate m k) ++ [.int .i8 k])) (hg : w.grownBy w' v.ownBlock) (ha : v'.ownBlock = v.ownBlock ∨ (v'.ownBlock = some w.heap.size ∧ w.grownBy w' none)) : GrowI w0 B A n c k (m + 1) v' w' := by
  rw [rep_snoc] at ho
  rcases hA with rfl | ⟨g, rfl⟩
  · refine ⟨ho, ⟨by simp, .inl rfl⟩, ?_⟩
    rcases ha with ha | ⟨ha, _⟩
    · rw [ha]
      exact h.at_
    · refine .inr (fun g hg' e => ?_)
      rw [ha] at e
      injection e with e
      have := hlt g hg'
      omega
  · have hob : (Value.slice (some ⟨g, 0, none⟩) n c).ownBlock = some g := rfl
    have hgl := hlt g hob
    rcases ha with ha | ⟨ha, hgn⟩
    · -- in the same row
      rcases h.at_ with e | e
      · have hvg : v'.ownBlock = some g := by rw [ha, ← e]; rfl
        refine ⟨ho, ?_, .inl (by rw [hvg]; rfl)⟩
        refine ⟨by simp, .inr ⟨_, rfl, (ho.lt g hvg).2, fun j u hu => ?_⟩⟩
        refine ho.cells hvg j u ?_
        obtain ⟨hj, rfl⟩ := List.getElem?_eq_some_iff.1 hu
        simp at hj
        rw [List.getElem?_map, List.getElem?_replicate, if_pos (by omega)]
        simp
      · refine ⟨ho, h.old.kept hg.size (fun a ea => ?_), .inr (fun g' hg' => by rw [ha]; exact e g' hg')⟩
        injection ea with ea
        subst ea
        exact hg.block g hgl (fun e' => e g hob e'.symm)
    · refine ⟨ho, h.old.kept hg.size (fun a ea => ?_), .inr (fun g' hg' e' => ?_)⟩
      · injection ea with ea
        subst ea
        exact hgn.block g hgl (fun e' => by cases e')
      · rw [ha] at e'
        injection e' with e'
        have := hlt g' hg'
        omega
/-- what another row's growing leaves of it -/
theorem GrowI.other {w0 w w' : World} {B n c : Nat} {A : Option Addr} {k : Int} {m : Nat} {v : Value} {row : Option Nat} (h : GrowI w0 B A n c k m v w) (hA : n = 0 ∨ ∃ g, A = some ⟨g, 0, none⟩) (hlt : ∀ g, (Value.slice A n c).ownBlock = some g → g < w.heap.size)
    (hg : w.grownBy w' row) (h1 : ∀ g, row = some g → v.ownBlock ≠ some g) (h2 : ∀ g, row = some g → (Value.slice A n c).ownBlock ≠ some g) : GrowI w0 B A n c k m v w' := by
  refine ⟨h.own.kept hg ?_, h.old.kept hg.size (fun a ea => ?_), h.at_⟩
  · cases e : v.ownBlock with
    | none => exact .inl rfl
    | some b => exact .inr (fun e' => h1 b e'.symm e)
  · rcases hA with rfl | ⟨g, rfl⟩
    · by_cases hx : some a.block = row
      · exact absurd (by rw [ea]; rfl) (h2 a.block hx.symm)
      · have hab : a.block < w.heap.size := hlt a.block (by rw [ea]; rfl)
        exact hg.block a.block hab hx
    · injection ea with ea
      subst ea
      have hx : some g ≠ row := fun e' => h2 g e'.symm rfl
      exact hg.block g (hlt g rfl) hx
end Go.Proofs.Ytajpkidjdebolaa
