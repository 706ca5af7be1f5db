/- A region that draws its order, in a round: the operations that only read come in whatever order. -/
import Derived.OrdersIn
import Derived.OwnWalkIn
set_option linter.unusedSimpArgs false
set_option linter.unusedVariables false
namespace Go.Proofs.YthkapcnhfdpdbaaDoor

variable {F : Fence} {n : Nat} {P : Program} {Q : Exit → Act → World → Prop} {ops : Array Oper}

def dstOf (ops : Array Oper) (i : Nat) : Option Tmp := (ops[i]?).bind (·.dst)
def heldOk (ops : Array Oper) (r : Nat) (L : List Bool) : Bool :=
  !(Region.ready .any ops (L ++ List.replicate (ops.size - r) false).toArray).isEmpty &&
  (Region.ready .any ops (L ++ List.replicate (ops.size - r) false).toArray).all fun i => decide (i < r) && (match ops[i]? with
    | some o => o.op.operands.all fun x => match x with
      | .tmp t => (List.range r).all fun j => L.getD j true || (dstOf ops j != some t)
      | _ => true
    | none => true)
/-- what is listed, has what it waits for listed -/
def Closed (ops : Array Oper) (L : List Bool) : Prop := ∀ j o, L.getD j false = true → ops[j]? = some o → ∀ e ∈ o.after, Region.binds .any e = true → L.getD e.on false = true
def closedB (ops : Array Oper) (L : List Bool) : Bool := (List.range L.length).all fun j => !L.getD j false || (match ops[j]? with
  | some o => o.after.all fun e => !Region.binds .any e || L.getD e.on false
  | none => true)
theorem Closed.b {ops : Array Oper} {L : List Bool} (h : Closed ops L) : closedB ops L = true := by
  unfold closedB
  refine List.all_eq_true.2 fun j _ => ?_
  cases hj : L.getD j false with
  | false => rfl
  | true =>
    cases ho : ops[j]? with
    | none => rfl
    | some o =>
      simp only [Bool.not_true, Bool.false_or]
      refine Array.all_eq_true_iff_forall_mem.2 fun e he => ?_
      cases hb : Region.binds .any e with
      | false => rfl
      | true => simp only [Bool.not_true, Bool.false_or]; exact h j o hj ho e he hb
def ReadsAll (P : Program) (ops : Array Oper) (r : Nat) (aF : Act) (w : World) : Prop :=
  ∀ i, i < r → ∃ o d v, ops[i]? = some o ∧ o.guard = none ∧ o.dst = some d ∧ (∀ cs b, o.op ≠ .select cs b) ∧ (∀ c, o.op ≠ .defer c) ∧ (execOp aF.eval o).run P w = .ok (.value v) w ∧ aF.tmps[d]? = some v ∧ o.about P w aF.eval = none
structure Agree (ops : Array Oper) (r : Nat) (aF : Act) (L : List Bool) (a : Act) : Prop where
  defers : a.defers = aF.defers
  size : a.tmps.size = aF.tmps.size
  tmps : ∀ t, (∀ j, j < r → L.getD j true = false → dstOf ops j ≠ some t) → a.tmps[t]? = aF.tmps[t]?

theorem held_in (r : Nat) (aF : Act) (w : World) (hok : ∀ L : List Bool, L.length = r → (!closedB ops L || L.all (fun b => b) || heldOk ops r L) = true) (hread : ReadsAll P ops r aF w)
    (hfin : wpAnyIn F n P .any ops Q (ops.size - r) (List.replicate r true ++ List.replicate (ops.size - r) false).toArray aF w) :
    ∀ (m : Nat) (L : List Bool) (a : Act), L.length = r → Closed ops L → L.count false = m → Agree ops r aF L a → wpAnyIn F n P .any ops Q (m + (ops.size - r)) (L ++ List.replicate (ops.size - r) false).toArray a w := by
  intro m
  induction m with
  | zero =>
    intro L a hL hcl hc hA
    have hall : ∀ b ∈ L, b = true := fun b hb => by
      cases b with
      | true => rfl
      | false => exact absurd (List.count_pos_iff.2 hb) (by omega)
    have hLr : L = List.replicate r true := by rw [← hL]; exact List.eq_replicate_of_mem hall
    have ha : a = aF := by
      have ht : a.tmps = aF.tmps := Array.ext_getElem? fun t => hA.tmps t (fun j hj hf => by
        rw [hLr] at hf
        simp [List.getD, hj] at hf)
      cases a; cases aF
      simp only at ht
      have := hA.defers
      simp only at this
      rw [ht, this]
    rw [Nat.zero_add, hLr, ha]
    exact hfin
  | succ m ih =>
    intro L a hL hcl hc hA
    have hnall : ¬ L.all (fun b => b) = true := fun h => by
      have : (false : Bool) ∈ L := List.count_pos_iff.1 (by omega)
      have := List.all_eq_true.1 h _ this
      cases this
    have hh : heldOk ops r L = true := by
      have h0 := hok L hL
      rw [hcl.b] at h0
      have hf : L.all (fun b => b) = false := by simpa using hnall
      rw [hf] at h0
      simpa using h0
    unfold heldOk at hh
    rw [Bool.and_eq_true] at hh
    obtain ⟨h1, h2⟩ := hh
    rw [show m + 1 + (ops.size - r) = (m + (ops.size - r)) + 1 by omega]
    refine ⟨fun he => ?_, fun i hi => ?_⟩
    · rw [he] at h1
      cases h1
    · have h3 := List.all_eq_true.1 h2 i hi
      rw [Bool.and_eq_true] at h3
      have hir : i < r := of_decide_eq_true h3.1
      obtain ⟨o, d, v, ho, hg, hd, hs, hdf, hrun, hv, hab⟩ := hread i hir
      rw [ho] at h3
      have h32 := h3.2
      simp only at h32
      have hun := (mem_ready.1 hi).1
      have hLi : L[i]? = some false := by
        have hlt : i < L.length := by omega
        simp only [Array.getD_eq_getD_getElem?, List.getElem?_toArray] at hun
        rw [List.getElem?_append_left hlt, List.getElem?_eq_getElem hlt] at hun
        rw [List.getElem?_eq_getElem hlt]
        exact congrArg some hun
      have hops : ∀ x ∈ o.op.operands, a.eval x = aF.eval x := fun x hx => by
        have h4 := Array.all_eq_true_iff_forall_mem.1 h32 x hx
        cases x with
        | tmp t =>
          have := hA.tmps t (fun j hj hf e => by
            have h5 := List.all_eq_true.1 h4 j (List.mem_range.2 hj)
            rw [hf, e] at h5
            simp at h5)
          simp only [Act.eval, Array.getD_eq_getD_getElem?]
          rw [this]
        | _ => rfl
      unfold wpOpIn
      simp only [ho]
      have hw : Region.wanted o (yielded ops a.tmps) = true := by unfold Region.wanted; rw [hg]
      rw [if_pos hw]
      unfold Oper.wpIn
      refine ⟨fun f hf => (by rw [about_congr o w hops, hab] at hf; cases hf), ?_⟩
      rw [Oper.semAt_plain F _ _ hdf, execOp_congr o hs hops, hrun]
      simp only [Oper.uponIn]
      have hset : (L ++ List.replicate (ops.size - r) false).toArray.setIfInBounds i true = (L.set i true ++ List.replicate (ops.size - r) false).toArray := by
        rw [List.setIfInBounds_toArray, List.set_append_left _ _ (by omega)]
      rw [hset]
      have hlt : i < L.length := by omega
      refine ih (L.set i true) (a.put o.dst v) (by simp [hL]) ?_ ?_ ?_
      · intro j oj hj hoj e he hb
        have hmono : ∀ q, L.getD q false = true → (L.set i true).getD q false = true := fun q hq => by
          rw [List.getD_eq_getElem?_getD] at hq ⊢
          by_cases hqi : i = q
          · subst hqi
            rw [List.getElem?_set_self hlt]
            rfl
          · rw [List.getElem?_set_ne hqi]
            exact hq
        by_cases hji : j = i
        · subst hji
          have hr2 := (mem_ready.1 hi).2
          obtain ⟨o2, ho2, hall2⟩ := hr2
          rw [hoj] at ho2
          have hoo := Option.some.inj ho2
          subst hoo
          have h5 := hall2 e he hb
          simp only [Array.getD_eq_getD_getElem?, List.getElem?_toArray] at h5
          refine hmono _ ?_
          rw [List.getD_eq_getElem?_getD]
          by_cases hq : e.on < L.length
          · rwa [List.getElem?_append_left hq] at h5
          · rw [List.getElem?_append_right (by omega), List.getElem?_replicate] at h5
            by_cases hq2 : e.on - L.length < ops.size - r
            · rw [if_pos hq2] at h5; cases h5
            · rw [if_neg hq2] at h5; cases h5
        · refine hmono _ (hcl j oj ?_ hoj e he hb)
          rw [List.getD_eq_getElem?_getD] at hj ⊢
          rwa [List.getElem?_set_ne (Ne.symm hji)] at hj
      · have hLe : L[i] = false := by
          have := hLi
          rw [List.getElem?_eq_getElem hlt] at this
          exact Option.some.inj this
        have := List.count_set (l := L) (a := true) (b := false) (i := i) hlt
        rw [this, hLe]
        simp
        omega
      · rw [hd]
        have hdl : d < a.tmps.size := by
          rw [hA.size]
          exact (Array.getElem?_eq_some_iff.1 hv).1
        refine ⟨hA.defers, by simp [Act.put, hA.size], fun t ht => ?_⟩
        simp only [Act.put]
        rw [Array.getElem?_setIfInBounds]
        by_cases hdt : d = t
        · subst hdt
          rw [if_pos rfl, if_pos hdl, hv]
        · rw [if_neg hdt]
          refine hA.tmps t (fun j hj hf e => ?_)
          by_cases hji : j = i
          · subst hji
            unfold dstOf at e
            rw [ho] at e
            simp [hd] at e
            exact hdt e
          · exact ht j hj (by rw [List.getD_eq_getElem?_getD, List.getElem?_set_ne (Ne.symm hji), ← List.getD_eq_getElem?_getD]; exact hf) e
def puts (a : Act) : List (Tmp × Value) → Act
  | [] => a
  | (d, v) :: t => puts (a.put (some d) v) t
theorem puts_defers : ∀ (ds : List (Tmp × Value)) (a : Act), (puts a ds).defers = a.defers
  | [], _ => rfl
  | (d, v) :: t, a => by rw [puts, puts_defers t]; rfl
theorem puts_size : ∀ (ds : List (Tmp × Value)) (a : Act), (puts a ds).tmps.size = a.tmps.size
  | [], _ => rfl
  | (d, v) :: t, a => by rw [puts, puts_size t]; simp [Act.put]
theorem puts_tmps : ∀ (ds : List (Tmp × Value)) (a : Act) (t : Tmp), (∀ x ∈ ds, x.1 ≠ t) → (puts a ds).tmps[t]? = a.tmps[t]?
  | [], _, _, _ => rfl
  | (d, v) :: r, a, t, h => by
    rw [puts, puts_tmps r _ t (fun x hx => h x (List.mem_cons_of_mem _ hx))]
    have : d ≠ t := h (d, v) List.mem_cons_self
    simp only [Act.put]
    rw [Array.getElem?_setIfInBounds, if_neg this]
def lists : Nat → List (List Bool)
  | 0 => [[]]
  | r + 1 => (lists r).flatMap fun L => [false :: L, true :: L]
theorem mem_lists : ∀ (L : List Bool), L ∈ lists L.length
  | [] => by simp [lists]
  | b :: L => by
    rw [List.length_cons, lists]
    refine List.mem_flatMap.2 ⟨L, mem_lists L, ?_⟩
    cases b <;> simp
def okAll (ops : Array Oper) (r : Nat) : Bool := (lists r).all fun L => !closedB ops L || L.all (fun b => b) || heldOk ops r L
/-- the whole region: the first r operations read, and leave what 'ds' says; then the others -/
theorem region_held_in {id : Nat} {a : Act} {w : World} (r : Nat) (ds : List (Tmp × Value)) (hm : P.follows .mixedOrders = true) (hr : r ≤ ops.size) (hds : ds.map (fun x => some x.1) = (List.range r).map (dstOf ops))
    (hok : okAll ops r = true) (hread : ReadsAll P ops r (puts a ds) w.drew)
    (hfin : wpAnyIn F n P .any ops Q (ops.size - r) (List.replicate r true ++ List.replicate (ops.size - r) false).toArray (puts a ds) w.drew) : (Code.region id ops true).wpIn F n P Q a w := by
  refine wpIn_region_any hm ?_
  have := held_in r (puts a ds) w.drew (fun L hL => List.all_eq_true.1 hok L (hL ▸ mem_lists L)) hread hfin r (List.replicate r false) a (by simp) (fun j o hj => by rw [List.getD_eq_getElem?_getD, List.getElem?_replicate] at hj; by_cases h : j < r; rw [if_pos h] at hj; cases hj; rw [if_neg h] at hj; cases hj) (by simp) ⟨(puts_defers ds a).symm, (puts_size ds a).symm, fun t ht => (puts_tmps ds a t (fun x hx e => by
    have h1 : some x.1 ∈ (List.range r).map (dstOf ops) := by rw [← hds]; exact List.mem_map.2 ⟨x, hx, rfl⟩
    obtain ⟨j, hj, hje⟩ := List.mem_map.1 h1
    have hj := List.mem_range.1 hj
    exact ht j hj (by simp [List.getD, hj]) (by rw [hje, e]))).symm⟩
  rw [Nat.add_sub_cancel' hr, List.replicate_append_replicate, Nat.add_sub_cancel' hr] at this
  exact this
def plainB : Op → Bool
  | .call _ => false
  | .defer _ => false
  | .select _ _ => false
  | _ => true
def readChk (l : List Oper) (r : Nat) (dd : List Tmp) : Bool :=
  decide (r ≤ l.length) && decide (dd.length = r) && ((List.range r).all fun i => match l[i]? with
    | some o => o.guard.isNone && plainB o.op && (o.dst == dd[i]?)
    | none => false) && decide dd.Nodup && okAll l.toArray r
def readRuns (P : Program) (aF : Act) (w : World) : List Oper → List (Tmp × Value) → Prop
  | o :: os, x :: xs => (execOp aF.eval o).run P w = .ok (.value x.2) w ∧ readRuns P aF w os xs
  | _, _ => True
theorem readRuns_at {P : Program} {aF : Act} {w : World} : ∀ {os : List Oper} {xs : List (Tmp × Value)}, readRuns P aF w os xs → ∀ (i : Nat) (o : Oper) (x : Tmp × Value), os[i]? = some o → xs[i]? = some x → (execOp aF.eval o).run P w = .ok (.value x.2) w
  | o :: os, x :: xs, h, 0, _, _, ho, hx => by
    have ho := Option.some.inj ho
    have hx := Option.some.inj hx
    subst ho hx
    exact h.1
  | o :: os, x :: xs, h, i + 1, o', x', ho, hx => readRuns_at (os := os) (xs := xs) h.2 i o' x' ho hx
  | [], _, _, _, _, _, ho, _ => by cases ho
  | _ :: _, [], _, _, _, _, _, hx => by cases hx
theorem puts_at : ∀ (ds : List (Tmp × Value)) (a : Act), (ds.map (·.1)).Nodup → (∀ x ∈ ds, x.1 < a.tmps.size) → ∀ x ∈ ds, (puts a ds).tmps[x.1]? = some x.2
  | (d, v) :: r, a, hn, hs, x, hx => by
    rw [List.map_cons, List.nodup_cons] at hn
    rw [puts]
    rcases List.mem_cons.1 hx with rfl | hx
    · rw [puts_tmps r _ _ (fun y hy e => hn.1 (by rw [← e]; exact List.mem_map.2 ⟨y, hy, rfl⟩))]
      simp only [Act.put]
      rw [Array.getElem?_setIfInBounds, if_pos rfl, if_pos (hs (d, v) List.mem_cons_self)]
    · exact puts_at r _ hn.2 (fun y hy => by
        have := hs y (List.mem_cons_of_mem _ hy)
        simpa [Act.put] using this) x hx
theorem plainB_spec {o : Oper} (h : plainB o.op = true) : (∀ cs b, o.op ≠ .select cs b) ∧ (∀ c, o.op ≠ .defer c) ∧ ∀ (P : Program) (w : World) ρ, o.about P w ρ = none := by
  refine ⟨fun cs b e => (by rw [e] at h; cases h), fun c e => (by rw [e] at h; cases h), fun P w ρ => ?_⟩
  unfold Oper.about
  cases e : o.op <;> first | rfl | (rw [e] at h; cases h)
/-- the same, its closed part asked at once -/
theorem region_read {l : List Oper} {id : Nat} {a : Act} {w : World} (r : Nat) (ds : List (Tmp × Value)) (hm : P.follows .mixedOrders = true) (hchk : readChk l r (ds.map (·.1)) = true) (hsz : ∀ x ∈ ds, x.1 < a.tmps.size)
    (hread : readRuns P (puts a ds) w.drew (l.take r) ds)
    (hfin : wpAnyIn F n P .any l.toArray Q (l.length - r) (List.replicate r true ++ List.replicate (l.length - r) false).toArray (puts a ds) w.drew) : (Code.region id l.toArray true).wpIn F n P Q a w := by
  unfold readChk at hchk
  simp only [Bool.and_eq_true, decide_eq_true_eq] at hchk
  obtain ⟨⟨⟨⟨h1, h2⟩, h3⟩, h4⟩, h5⟩ := hchk
  rw [List.length_map] at h2
  have hat : ∀ i, i < r → ∃ o d v, l[i]? = some o ∧ ds[i]? = some (d, v) ∧ o.guard = none ∧ plainB o.op = true ∧ o.dst = some d := fun i hi => by
    have h6 := List.all_eq_true.1 h3 i (List.mem_range.2 hi)
    have hil : i < l.length := by omega
    have hid : i < ds.length := by omega
    rw [List.getElem?_eq_getElem hil] at h6
    simp only [Bool.and_eq_true, beq_iff_eq] at h6
    refine ⟨l[i], ds[i].1, ds[i].2, List.getElem?_eq_getElem hil, List.getElem?_eq_getElem hid, by simpa using h6.1.1, h6.1.2, ?_⟩
    rw [h6.2, List.getElem?_map, List.getElem?_eq_getElem hid]
    rfl
  refine region_held_in r ds hm (by simpa using h1) ?_ h5 (fun i hi => ?_) (by simpa using hfin)
  · apply List.ext_getElem?
    intro i
    rw [List.getElem?_map, List.getElem?_map]
    by_cases hi : i < r
    · obtain ⟨o, d, v, ho, hd, _, _, hdst⟩ := hat i hi
      rw [hd, List.getElem?_range hi]
      unfold dstOf
      simp [ho, hdst]
    · rw [List.getElem?_eq_none (by omega), List.getElem?_eq_none (by simp; omega)]
      rfl
  · obtain ⟨o, d, v, ho, hd, hg, hp, hdst⟩ := hat i hi
    obtain ⟨p1, p2, p3⟩ := plainB_spec hp
    refine ⟨o, d, v, by simpa using ho, hg, hdst, p1, p2, ?_, puts_at ds a h4 hsz (d, v) (List.mem_of_getElem? hd), p3 _ _ _⟩
    exact readRuns_at hread i o (d, v) (by rw [List.getElem?_take_of_lt hi]; exact ho) hd
end Go.Proofs.YthkapcnhfdpdbaaDoor
