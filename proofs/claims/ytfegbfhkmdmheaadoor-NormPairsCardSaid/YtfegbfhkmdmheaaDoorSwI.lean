/- A switch over numbers, as the translator writes it: its rows read off the code by a function, its walk by induction. -/
import Derived.Test.YtfegbfhkmdmheaaDoorSw
set_option linter.unusedSimpArgs false
set_option linter.unusedVariables false
namespace Go.Proofs.YtfegbfhkmdmheaaDoor
open Go.Great

section
variable {P : Program}

/-- what stays of a frame between two tests: its size, its deferred calls, what the first m slots hold -/
structure Kept (m : Nat) (a b : Act) : Prop where
  size : b.tmps.size = a.tmps.size
  defers : b.defers = a.defers
  low : ∀ i, i < m → b.eval (.tmp i) = a.eval (.tmp i)
theorem Kept.refl (m : Nat) (a : Act) : Kept m a a := ⟨rfl, rfl, fun _ _ => rfl⟩
theorem Kept.trans {m : Nat} {a b c : Act} (h : Kept m a b) (k : Kept m b c) : Kept m a c := ⟨k.size.trans h.size, k.defers.trans h.defers, fun i hi => (k.low i hi).trans (h.low i hi)⟩
theorem Kept.put {m : Nat} {a b : Act} (h : Kept m a b) {d : Nat} (hd : m ≤ d) (v : Value) : Kept m a (b.put (some d) v) :=
  ⟨(Act.size_put ..).trans h.size, (Act.defers_put' ..).trans h.defers, fun i hi => by rw [Act.eval_put_ne _ _ _ _ (by omega)]; exact h.low i hi⟩

/-- 'slot i := (slot q == c)'; 'slot d := slot i' -/
def rdOp (q m n d : Nat) : Code → Option Int
  | .region _ ops false =>
    match ops.toList with
    | [o1, o2] =>
      match o1.dst, o1.op, o1.guard, o2.dst, o2.op, o2.guard with
      | some i, .binOp .eql _ (.tmp q') (.const (.int .i32 c)) _, none, some d', .assign (.tmp i'), none =>
        bif Nat.beq q' q && Nat.beq d' d && Nat.beq i' i && Nat.ble m i && Nat.ble m d && Nat.blt i n && Nat.blt d n then some c else none
      | _, _, _, _, _, _ => none
    | _ => none
  | _ => none
def isSkip : Code → Bool
  | .skip => true
  | _ => false
def rdTest (q m n d : Nat) : Nat → Code → Option (List Int)
  | f + 1, .seq a (.cond (.tmp d') s c) => bif Nat.beq d' d && isSkip s then (rdOp q m n d a).bind fun x => (rdTest q m n d f c).map fun xs => x :: xs else none
  | _, c => (rdOp q m n d c).map fun x => [x]
def rdRows (q m n : Nat) : Nat → Code → List (List Int × Code) × Code
  | f + 1, .seq t (.cond (.tmp d) act rest) =>
    match rdTest q m n d f t with
    | some xs => (((xs, act) :: (rdRows q m n f rest).1), (rdRows q m n f rest).2)
    | none => ([], .seq t (.cond (.tmp d) act rest))
  | _, c => ([], c)
def hasI : List Int → Int → Bool
  | [], _ => false
  | c :: t, r => (r == c) || hasI t r
def pickC (r : Int) : List (List Int × Code) → Code → Code
  | [], e => e
  | x :: t, e => bif hasI x.1 r then x.2 else pickC r t e

theorem wp_op {q m n d : Nat} {c : Code} {x r : Int} {a : Act} {w : World} {Q : Exit → Act → World → Prop} (h : rdOp q m n d c = some x) (hn : a.tmps.size = n) (hq : a.eval (.tmp q) = .int .i32 r)
    (k : ∀ b, Kept m a b → b.eval (.tmp d) = .bool (r == x) → Q .normal b w) : c.wp P Q a w := by
  unfold rdOp at h
  split at h
  · rename_i id ops
    split at h
    · rename_i o1 o2 hl
      split at h
      · rename_i i t1 q' c t2 d' i' e1 e2 e3 e4 e5 e6
        obtain ⟨ops⟩ := ops
        obtain rfl : ops = [o1, o2] := hl
        cases hb : (Nat.beq q' q && Nat.beq d' d && Nat.beq i' i && Nat.ble m i && Nat.ble m d && Nat.blt i n && Nat.blt d n) with
        | false => rw [hb] at h; cases h
        | true =>
          rw [hb] at h
          obtain rfl := Option.some.inj h
          simp only [Bool.and_eq_true, Nat.blt_eq, Nat.ble_eq, Nat.beq_eq] at hb
          obtain ⟨⟨⟨⟨⟨⟨rfl, rfl⟩, rfl⟩, h4⟩, h5⟩, h6⟩, h7⟩ := hb
          refine wp_region_lit ?_
          refine wpList_readTo e3 (some i') e1 _ (run_eql e2 hq rfl) ?_
          refine wpList_readTo e6 (some d') e4 _ (run_assign e5 (Act.eval_put_same _ _ _ (by omega))) ?_
          refine k _ (((Kept.refl m a).put h4 _).put h5 _) ?_
          rw [Act.eval_put_same _ _ _ (by rw [Act.size_put]; omega)]
      · cases h
    · cases h
  · cases h
theorem isSkip_eq {s : Code} (h : isSkip s = true) : s = .skip := by
  cases s <;> first | rfl | cases h
theorem wp_test {q m n d : Nat} {r : Int} {w : World} {Q : Exit → Act → World → Prop} (hqm : q < m) : ∀ (f : Nat) (c : Code) (xs : List Int) (a : Act), rdTest q m n d f c = some xs → a.tmps.size = n → a.eval (.tmp q) = .int .i32 r →
    (∀ b, Kept m a b → b.eval (.tmp d) = .bool (hasI xs r) → Q .normal b w) → c.wp P Q a w := by
  intro f
  induction f with
  | zero =>
    intro c xs a h hn hq k
    unfold rdTest at h
    obtain ⟨x, hx, rfl⟩ := Option.map_eq_some_iff.1 h
    exact wp_op hx hn hq fun b hb hv => k b hb (by rw [hv]; simp [hasI])
  | succ f ih =>
    intro c xs a h hn hq k
    unfold rdTest at h
    split at h
    · rename_i f' a' d' s c' hf
      obtain rfl : f' = f := by omega
      cases hb : (Nat.beq d' d && isSkip s) with
      | false => rw [hb] at h; cases h
      | true =>
        rw [hb] at h
        simp only [Bool.and_eq_true, Nat.beq_eq] at hb
        obtain ⟨rfl, hs⟩ := hb
        obtain rfl := isSkip_eq hs
        obtain ⟨x, hx, hy⟩ := Option.bind_eq_some_iff.1 h
        obtain ⟨ys, hys, rfl⟩ := Option.map_eq_some_iff.1 hy
        refine wp_seq (wp_op hx hn hq fun b hb hv => ?_)
        refine wp_cond_split hv (fun ht => wp_skip (k b hb ?_)) (fun hf => ih c' ys b hys (hb.size.trans hn) ((hb.low q hqm).trans hq) fun b' hb' hv' => k b' (hb.trans hb') ?_)
        · rw [hv, ht]; simp [hasI, ht]
        · rw [hv']; simp [hasI, hf]
    · obtain ⟨x, hx, rfl⟩ := Option.map_eq_some_iff.1 h
      exact wp_op hx hn hq fun b hb hv => k b hb (by rw [hv]; simp [hasI])
theorem wp_rowsC {q m n : Nat} {r : Int} {w : World} {Q : Exit → Act → World → Prop} (hqm : q < m) : ∀ (f : Nat) (c : Code) (a : Act), a.tmps.size = n → a.eval (.tmp q) = .int .i32 r →
    (∀ b, Kept m a b → (pickC r (rdRows q m n f c).1 (rdRows q m n f c).2).wp P Q b w) → c.wp P Q a w := by
  intro f
  induction f with
  | zero =>
    intro c a hn hq k
    have := k a (Kept.refl _ _)
    unfold rdRows at this
    exact this
  | succ f ih =>
    intro c a hn hq k
    unfold rdRows at k
    split at k
    · rename_i f' t d act rest hf
      obtain rfl : f' = f := by omega
      split at k
      · rename_i xs hx
        refine wp_seq (wp_test hqm _ _ _ _ hx hn hq fun b hb hv => ?_)
        have k' := fun b' (hb' : Kept m b b') => k b' (hb.trans hb')
        simp only [pickC] at k'
        refine wp_cond_split hv (fun ht => ?_) (fun hf => ?_)
        · have := k' b (Kept.refl _ _)
          rw [ht] at this
          exact this
        · rw [hf] at k'
          exact ih rest b (hb.size.trans hn) ((hb.low q hqm).trans hq) k'
      · exact k a (Kept.refl _ _)
    · exact k a (Kept.refl _ _)

/-- 'slot 2 := v; return' -/
def rdRet : Code → Option Int
  | .seq (.region _ ops false) .ret =>
    match ops.toList with
    | [o] =>
      match o.dst, o.op, o.guard with
      | some 2, .assign (.const (.int .i32 v)), none => some v
      | _, _, _ => none
    | _ => none
  | _ => none
theorem wp_rdRet {c : Code} {v : Int} {a : Act} {w : World} {Q : Exit → Act → World → Prop} (h : rdRet c = some v) (hn : 2 < a.tmps.size)
    (k : ∀ b, b.tmps.size = a.tmps.size → b.defers = a.defers → b.eval (.tmp 2) = .int .i32 v → Q .ret b w) : c.wp P Q a w := by
  unfold rdRet at h
  split at h
  · rename_i id ops
    split at h
    · rename_i o hl
      split at h
      · rename_i v' e1 e2 e3
        obtain rfl := Option.some.inj h
        obtain ⟨ops⟩ := ops
        obtain rfl : ops = [o] := hl
        refine wp_seq (wp_region_lit ?_)
        refine wpList_readTo e3 (some 2) e1 _ (run_assign e2 rfl) ?_
        exact wp_ret (k _ (Act.size_put ..) (Act.defers_put' ..) (Act.eval_put_same _ _ _ hn))
      · cases h
    · cases h
  · cases h
/-- a table out of a switch: what each row's action hands back -/
def rdRets : List (List Int × Code) → Option (List (List Int × Int))
  | [] => some []
  | x :: t => (rdRet x.2).bind fun v => (rdRets t).map fun l => (x.1, v) :: l
def lookI : List (List Int × Int) → Int → Int → Int
  | [], z, _ => z
  | x :: t, z, r => bif hasI x.1 r then x.2 else lookI t z r
theorem pick_rets {z r : Int} {e : Code} : ∀ (l : List (List Int × Code)) (tb : List (List Int × Int)), rdRets l = some tb →
    (∃ v, rdRet (pickC r l e) = some v ∧ lookI tb z r = v) ∨ (pickC r l e = e ∧ lookI tb z r = z)
  | [], tb, h => by
    obtain rfl := Option.some.inj h
    exact .inr ⟨rfl, rfl⟩
  | x :: t, tb, h => by
    obtain ⟨v, hv, hy⟩ := Option.bind_eq_some_iff.1 h
    obtain ⟨l, hl, rfl⟩ := Option.map_eq_some_iff.1 hy
    unfold pickC lookI
    cases hx : hasI x.1 r with
    | true => exact .inl ⟨v, hv, rfl⟩
    | false => exact pick_rets t l hl

/-- THE CONTRACT of 'switch r { case ..: return v .. }; return z' -/
theorem tableI_calls {f : FuncId} {fn : Func} {i0 i1 bl : Nat} {o0 o1 : Oper} {sw tail : Code} (hf : P.funcs[f]? = some fn)
    (hb : fn.body = some (.seq (.region i0 #[o0] false) (.seq (.seq (.region i1 #[o1] false) (.block bl sw)) tail)))
    (g0 : o0.guard = none) (d0 : o0.dst = some 2) (z0 : Int) (p0 : o0.op = .assign (.const (.int .i32 z0))) (g1 : o1.guard = none) (d1 : o1.dst = some 3) (p1 : o1.op = .move (.tmp 0)) (hres : fn.results = #[.tmp 2]) (hn4 : 4 ≤ fn.ntmps) (fu : Nat) (tb : List (List Int × Int)) (z : Int)
    (hr : rdRets (rdRows 3 4 fn.ntmps fu sw).1 = some tb) (he : isSkip (rdRows 3 4 fn.ntmps fu sw).2 = true) (ht : rdRet tail = some z) (x : Int) (w : World) :
    Calls P f #[.int .i32 x] w fun e w' => e = .returned (.int .i32 (lookI tb z x)) ∧ w' = w := by
  refine calls_of_wp hf hb ?_
  have hs0 : (#[Value.int .i32 x] ++ Array.replicate (fn.ntmps - (#[Value.int .i32 x] : Array Value).size) undef).size = fn.ntmps := by simp; omega
  have he0 : ({ tmps := #[Value.int .i32 x] ++ Array.replicate (fn.ntmps - (#[Value.int .i32 x] : Array Value).size) undef, defers := [] } : Act).eval (.tmp 0) = .int .i32 x := by simp [Act.eval, Array.getD]
  obtain ⟨a, ha⟩ : ∃ a : Act, a = { tmps := #[Value.int .i32 x] ++ Array.replicate (fn.ntmps - (#[Value.int .i32 x] : Array Value).size) undef, defers := [] } := ⟨_, rfl⟩
  have hsa : a.tmps.size = fn.ntmps := by rw [ha]; exact hs0
  have hda : a.defers = [] := by rw [ha]
  rw [← ha] at he0 ⊢
  clear ha hs0
  have hrun : ∀ a' : Act, (results fn a'.tmps).run P w = .ok (a'.eval (.tmp 2)) w := fun a' => by
    rw [results_tmp hres]; rfl
  refine wp_seq (wp_region_lit ?_)
  refine wpList_readTo g0 (some 2) d0 (.int .i32 z0) (run_assign p0 rfl) ?_
  refine wp_seq (wp_seq (wp_region_lit ?_))
  refine wpList_readTo g1 (some 3) d1 (.int .i32 x) (run_move p1 (by rw [Act.eval_put_ne _ _ _ _ (by omega)]; exact he0)) ?_
  obtain ⟨b, hbb⟩ : ∃ b : Act, b = (a.put (some 2) (.int .i32 z0)).put (some 3) (.int .i32 x) := ⟨_, rfl⟩
  have hsb : b.tmps.size = fn.ntmps := by rw [hbb]; simp only [Act.size_put, hsa]
  have hdb : b.defers = [] := by rw [hbb]; simp only [Act.defers_put', hda]
  have heb : b.eval (.tmp 3) = .int .i32 x := by rw [hbb]; exact Act.eval_put_same _ _ _ (by rw [Act.size_put, hsa]; omega)
  rw [← hbb]
  · refine wp_block (wp_rowsC (q := 3) (m := 4) (n := fn.ntmps) (by decide) fu sw b hsb heb fun b' hk => ?_)
    rcases pick_rets (z := z) (r := x) (e := (rdRows 3 4 fn.ntmps fu sw).2) _ _ hr with ⟨v, hv, hl⟩ | ⟨hp, hl⟩
    · refine wp_rdRet hv (by rw [hk.size, hsb]; omega) fun c hc hd hv => ?_
      show bodyPost P fn (fun e w' => e = .returned (.int .i32 (lookI tb z x)) ∧ w' = w) .ret c w
      refine bodyPost_ret (hrun c) (hd.trans (hk.defers.trans hdb)) ?_
      rw [hv, hl]
      exact ⟨rfl, rfl⟩
    · rw [hp, isSkip_eq he]
      refine wp_skip ?_
      refine wp_rdRet ht (by rw [hk.size, hsb]; omega) fun c hc hd hv => ?_
      show bodyPost P fn (fun e w' => e = .returned (.int .i32 (lookI tb z x)) ∧ w' = w) .ret c w
      refine bodyPost_ret (hrun c) (hd.trans (hk.defers.trans hdb)) ?_
      rw [hv, hl]
      exact ⟨rfl, rfl⟩
end
end Go.Proofs.YtfegbfhkmdmheaaDoor
