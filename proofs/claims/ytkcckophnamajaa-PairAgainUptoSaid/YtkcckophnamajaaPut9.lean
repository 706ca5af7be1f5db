/- Layer 9, the document: put: a pair, by rising places of the first. -/
import Derived.Test.YtkcckophnamajaaRest9
import Derived.Test.YtkcckophnamajaaPureG
import Derived.Deep.QuietTactic
import Derived.BigQuiet
import Derived.Deep.Onto
set_option linter.unusedSimpArgs false
set_option linter.unusedVariables false
namespace Go.Proofs.Ytkcckophnamajaa
open Go.RowKit Go.Lib

def prC (l : Prs) : List Value := l.flatMap fun p => [.int .i64 (p.1 : Int), .int .i64 (p.2 : Int)]
theorem prC_nil : prC [] = [] := rfl
theorem prC_cons (p : Nat × Nat) (l : Prs) : prC (p :: l) = .int .i64 (p.1 : Int) :: .int .i64 (p.2 : Int) :: prC l := rfl
theorem prC_append (l m : Prs) : prC (l ++ m) = prC l ++ prC m := List.flatMap_append ..
theorem prC_len (l : Prs) : (prC l).length = l.length * 2 := by
  induction l with
  | nil => rfl
  | cons p l ih => rw [prC_cons]; simp only [List.length_cons, ih]; omega
theorem prC_one (l : Prs) : ∀ u ∈ prC l, u.oneCell' = true := by
  intro u hu
  obtain ⟨p, _, h⟩ := List.mem_flatMap.1 hu
  rcases List.mem_cons.1 h with rfl | h
  · rfl
  · rcases List.mem_cons.1 h with rfl | h
    · rfl
    · cases h
theorem prC_get {l : Prs} {i : Nat} {p : Nat × Nat} (h : l[i]? = some p) : (prC l)[i * 2]? = some (.int .i64 (p.1 : Int)) ∧ (prC l)[i * 2 + 1]? = some (.int .i64 (p.2 : Int)) := by
  induction l generalizing i with
  | nil => simp at h
  | cons q l ih =>
    rw [prC_cons]
    cases i with
    | zero =>
      simp only [List.getElem?_cons_zero, Option.some.injEq] at h
      subst h
      exact ⟨rfl, rfl⟩
    | succ i =>
      rw [List.getElem?_cons_succ] at h
      rw [show (i + 1) * 2 = i * 2 + 1 + 1 by omega]
      simp only [List.getElem?_cons_succ]
      exact ih h
theorem Rd.takeP {w : World} {B n : Nat} {A : Option Addr} {l : Prs} (h : Rd w B 2 A n (prC l)) (k : Nat) (hk : k ≤ n) : Rd w B 2 A k (prC (l.take k)) := by
  have hl := h.1
  rw [prC_len] at hl
  refine ⟨by rw [prC_len, List.length_take]; omega, ?_⟩
  rcases h.2 with h0 | ⟨a, e, hb, hc⟩
  · exact .inl (by omega)
  · refine .inr ⟨a, e, hb, fun j u hu => hc j u ?_⟩
    rw [← List.take_append_drop k l, prC_append, List.getElem?_append_left (List.getElem?_eq_some_iff.1 hu).1]
    exact hu
theorem Rd.dropP {w : World} {B n c : Nat} {A : Option Addr} {l : Prs} (h : Rd w B 2 A n (prC l)) (k : Nat) (hk : k ≤ n) (hc : n ≤ c) : Rd w B 2 (if c = k then A else A.map (·.add (k * 2))) (n - k) (prC (l.drop k)) := by
  have hl := h.1
  rw [prC_len] at hl
  refine ⟨by rw [prC_len, List.length_drop]; omega, ?_⟩
  rcases h.2 with h0 | ⟨a, e, hb, hce⟩
  · exact .inl (by omega)
  · by_cases hck : c = k
    · exact .inl (by omega)
    · rw [if_neg hck, e]
      refine .inr ⟨a.add (k * 2), rfl, by rw [add_block]; exact hb, fun j u hu => ?_⟩
      rw [add_sum]
      refine hce _ u ?_
      have e1 : (prC (l.take k)).length = k * 2 := by rw [prC_len, List.length_take]; omega
      rw [← List.take_append_drop k l, prC_append, List.getElem?_append_right (by omega), e1, Nat.add_sub_cancel_left]
      exact hu
theorem from_nil {A : Option Addr} {c k : Nat} (h : A = none → c = 0) : (if c = k then A else A.map (·.add (k * 2))) = none → c - k = 0 := by
  intro e
  split at e
  · omega
  · rcases A with _ | a
    · have := h rfl; omega
    · cases e
set_option maxRecDepth 100000 in
theorem slice_to9 (W : World) (A : Option Addr) (m cp k : Nat) (hk : k ≤ cp) : (Instr.slice 26 (.slice A m cp) none (some (.int .i64 (k : Int))) none).run Try.prog W = .ok (.slice A k cp) W := by
  have h := run_slice_h (P := Try.prog) W 26 A m cp (show Try.prog.underlying 26 = some (.slice (Try.prog.elem 26)) from Try.underlying26) .i64 (k : Int) (by omega) (by omega)
  rw [h]
  have hs : (sizeOf (Try.prog.elem 26)).run Try.prog W = .ok 2 W := by rfl
  rw [hs]
  have e0 : A.map (·.add (0 * 2)) = A := by
    rcases A with _ | a
    · rfl
    · simp [Addr.add]
  simp only [Result.andThen, sliced, Int.toNat_natCast, Nat.sub_zero]
  rw [e0]
  split <;> rfl
set_option maxRecDepth 100000 in
theorem slice_from9 (W : World) (A : Option Addr) (m cp k : Nat) (hk : k ≤ m) : (Instr.slice 26 (.slice A m cp) (some (.int .i64 (k : Int))) none none).run Try.prog W = .ok (.slice (if cp = k then A else A.map (·.add (k * 2))) (m - k) (cp - k)) W := by
  have h := run_slice_l (P := Try.prog) W 26 A m cp (show Try.prog.underlying 26 = some (.slice (Try.prog.elem 26)) from Try.underlying26) .i64 (k : Int) (by omega) (by omega)
  rw [h]
  have hs : (sizeOf (Try.prog.elem 26)).run Try.prog W = .ok 2 W := by rfl
  rw [hs]
  simp only [Result.andThen, sliced, Int.toNat_natCast]
theorem pr_info : (Try.prog.info? 29).map (fun i => (i.zero, i.size, i.bytes)) = some (some (.agg #[.int .i64 0, .int .i64 0]), 2, 16) := by kernel_rfl
/-- a new list of pairs, all else as it was -/
def NewPr (l : Prs) (w : World) (e : Ending) (w' : World) : Prop :=
  ∃ A c, e = .returned (.slice A l.length c) ∧ w'.ownsRow w.heap.size 29 2 (.slice A l.length c) l.length (prC l) ∧ Below w.heap.size w w'
section
variable {w V w1 w2 w3 : World} {B n c K a b : Nat} {A : Option Addr} {l : Prs} {v1 v2 v3 : Value}
/-- ahead of the three appends -/
def PutF (w V : World) (B : Nat) (A : Option Addr) (n K a b : Nat) (l : Prs) : Prop :=
  Below B w V ∧ B + 1 ≤ V.heap.size ∧ Rd V B 2 A K (prC (l.take K)) ∧ V.heap[B]? = some (.cells #[.int .i64 (a : Int), .int .i64 (b : Int)] 29 (0, 0)) ∧ Rd V B 2 A n (prC l)
def PutO (w w1 : World) (B : Nat) (A : Option Addr) (n K a b : Nat) (l : Prs) (v1 : Value) : Prop :=
  w1.ownsRow (B + 1) 29 2 v1 K (prC (l.take K)) ∧ Below B w w1 ∧ B + 1 ≤ w1.heap.size ∧ w1.heap[B]? = some (.cells #[.int .i64 (a : Int), .int .i64 (b : Int)] 29 (0, 0)) ∧ Rd w1 B 2 A n (prC l)
theorem put1 (h : PutF w V B A n K a b l) (o : w1.ownsRow (B + 1) 29 2 v1 K (prC (l.take K))) (g : V.grownBy w1 (Value.ownBlock (.slice none 0 0))) : PutO w w1 B A n K a b l v1 := by
  have hb := (Below.refl (B + 1) V).grown g h.2.1 (fun k hk => by cases hk)
  have hb' := hb.mono (Nat.le_succ B)
  refine ⟨o, h.1.trans hb', by have := hb.size; have := h.2.1; omega, ?_, h.2.2.2.2.below hb'⟩
  rw [hb.block B (Nat.lt_succ_self B)]
  exact h.2.2.2.1
def PutP (w w2 : World) (B : Nat) (A : Option Addr) (n c K a b : Nat) (l : Prs) (v2 : Value) : Prop :=
  w2.ownsRow (B + 1) 29 2 v2 (K + 1) (prC (l.take K ++ [(a, b)])) ∧ Below B w w2 ∧ B + 1 ≤ w2.heap.size ∧ Rd w2 B 2 (if c = K then A else A.map (·.add (K * 2))) (n - K) (prC (l.drop K))
theorem put2 (hKn : K ≤ n) (hnc : n ≤ c) (h : PutO w w1 B A n K a b l v1) {ob : Obj} (o : w2.ownsRow (B + 1) 29 2 v2 (K + 1) (prC (l.take K) ++ [.int .i64 (a : Int), .int .i64 (b : Int)])) (g : (w1.alloc ob).grownBy w2 v1.ownBlock) : PutP w w2 B A n c K a b l v2 := by
  have hb := ((Below.refl (B + 1) w1).alloc h.2.2.1 ob).grown g (by rw [World.size_alloc]; have := h.2.2.1; omega) (fun k hk => (h.1.lt k hk).1)
  have hb' := hb.mono (Nat.le_succ B)
  refine ⟨by rw [prC_append]; exact o, h.2.1.trans hb', by have := hb.size; have := h.2.2.1; omega, (h.2.2.2.2.below hb').dropP K hKn hnc⟩
theorem put5 (h : PutP w w2 B A n c K a b l v2) : w2.ownsRow (B + 1) 29 2 v2 (K + 1) (prC (l.take K ++ [(a, b)])) ∧ B + 1 ≤ w2.heap.size ∧ Rd w2 B 2 (if c = K then A else A.map (·.add (K * 2))) (n - K) (prC (l.drop K)) := ⟨h.1, h.2.2⟩
def PutE (w w3 : World) (B K a b : Nat) (l : Prs) (v3 : Value) : Prop :=
  w3.ownsRow B 29 2 v3 (l.take K ++ (a, b) :: l.drop K).length (prC (l.take K ++ (a, b) :: l.drop K)) ∧ Below B w w3
theorem put3 (hKn : K ≤ n) (hl : l.length = n) (h : PutP w w2 B A n c K a b l v2) (o : w3.ownsRow (B + 1) 29 2 v3 (K + 1 + (n - K)) (prC (l.take K ++ [(a, b)]) ++ prC (l.drop K))) (g : w2.grownBy w3 v2.ownBlock) : PutE w w3 B K a b l v3 := by
  have hb := (Below.refl (B + 1) w2).grown g h.2.2.1 (fun k hk => (h.1.lt k hk).1)
  refine ⟨?_, h.2.1.trans (hb.mono (Nat.le_succ B))⟩
  have e1 : (l.take K ++ (a, b) :: l.drop K).length = K + 1 + (n - K) := by
    simp only [List.length_append, List.length_take, List.length_cons, List.length_drop]
    omega
  rw [e1, show l.take K ++ (a, b) :: l.drop K = (l.take K ++ [(a, b)]) ++ l.drop K by simp, prC_append]
  exact o.mono (Nat.le_succ B)
theorem put4 {R : Prs} (h : PutE w w3 B K a b l v3) (e : R = l.take K ++ (a, b) :: l.drop K) :
    ∃ A c, Ending.returned v3 = .returned (.slice A R.length c) ∧ w3.ownsRow B 29 2 (.slice A R.length c) R.length (prC R) ∧ Below B w w3 := by
  subst e
  obtain ⟨A, c, hv, _⟩ := own_shape h.1
  subst hv
  exact ⟨A, c, rfl, h⟩
theorem putF_of (hK : K ≤ n) (h : Below B w V ∧ B + 1 ≤ V.heap.size ∧ V.heap[B]? = some (.cells #[.int .i64 (a : Int), .int .i64 (b : Int)] 29 (0, 0)) ∧ Rd V B 2 A n (prC l)) (m : Nat) : PutF w (V.drewN m) B A n K a b l :=
  ⟨below_N h.1 m, h.2.1, ((h.2.2.2.below (below_N (Below.refl B V) m)).takeP K hK), h.2.2.1, h.2.2.2.below (below_N (Below.refl B V) m)⟩
theorem putV_N (h : Below B w V ∧ B + 1 ≤ V.heap.size ∧ V.heap[B]? = some (.cells #[.int .i64 (a : Int), .int .i64 (b : Int)] 29 (0, 0)) ∧ Rd V B 2 A n (prC l)) (m : Nat) : Below B w (V.drewN m) ∧ B + 1 ≤ (V.drewN m).heap.size ∧ (V.drewN m).heap[B]? = some (.cells #[.int .i64 (a : Int), .int .i64 (b : Int)] 29 (0, 0)) ∧ Rd (V.drewN m) B 2 A n (prC l) :=
  ⟨below_N h.1 m, h.2.1, h.2.2.1, h.2.2.2.below (below_N (Below.refl B V) m)⟩
end
set_option maxRecDepth 100000 in
set_option maxHeartbeats 2000000 in
theorem put_some9 (ad : Addr) (n c : Nat) (l : Prs) (a b : Nat) (w : World) (hrd : Rd w w.heap.size 2 (some ad) n (prC l)) (hn : n ≤ 1048576) (hc : n ≤ c) :
    Calls Try.prog 25 #[.slice (some ad) n c, .agg #[.int .i64 (a : Int), .int .i64 (b : Int)]] w (NewPr (putZ l (a, b)) w) := by
  obtain ⟨i0, hi, hz0, hz1, hz2⟩ := info_parts pr_info
  have hnil : some ad = none → c = 0 := fun h => by cases h
  have hl : l.length = n := by have := hrd.1; rw [prC_len] at this; omega
  unfold NewPr
  obtain ⟨B, hB⟩ : ∃ B, w.heap.size = B := ⟨_, rfl⟩
  obtain ⟨W, hW⟩ : ∃ W, w.alloc (.cells #[.int .i64 (a : Int), .int .i64 (b : Int)] 29) = W := ⟨_, rfl⟩
  have hb0 : Below B w W := by rw [← hW, ← hB]; exact (Below.refl _ w).alloc (Nat.le_refl _) _
  have hcs : W.heap[B]? = some (.cells #[.int .i64 (a : Int), .int .i64 (b : Int)] 29 (0, 0)) := by rw [← hW, ← hB]; exact heap_alloc_new w _
  have hsz : B + 1 ≤ W.heap.size := by rw [← hW, ← hB, World.size_alloc]; omega
  rw [hB] at hrd ⊢
  have HV0 := Lib.hid (show Below B w W ∧ B + 1 ≤ W.heap.size ∧ W.heap[B]? = some (.cells #[.int .i64 (a : Int), .int .i64 (b : Int)] 29 (0, 0)) ∧ Rd W B 2 (some ad) n (prC l) from ⟨hb0, hsz, hcs, hrd.below hb0⟩)
  have HWw := Lib.hid hW
  have HB := Lib.hid hB
  have Hl := Lib.hid hl
  have H0 := Lib.hid (show putK l a n = putK l a n from rfl)
  obtain ⟨Z, hZ⟩ : ∃ Z, putK l a n = Z := ⟨_, rfl⟩
  have HZ := Lib.hid (show putZ l (a, b) = l.take Z ++ (a, b) :: l.drop Z by unfold putZ; rw [hl, hZ])
  have HZ0 := Lib.hid (show putK l a n = Z from hZ)
  obtain ⟨R, hR⟩ : ∃ R, putZ l (a, b) = R := ⟨_, rfl⟩
  rw [hR] at HZ ⊢
  clear hB hW hb0 hcs hsz hrd H0 hZ hl hR
  go_enter Try.func25, Try.ntmps25
  go_wp2_with fail
  rw [HWw.out, HB.out]
  go_wp2_with fail
  go_loopw [5] (fun x wr => ∃ (k : Nat) (V : World), V = wr ∧ x = .int .i64 (k : Int) ∧ k ≤ n ∧ Hid (putK l a k = Z) ∧ Hid (Below B w V ∧ B + 1 ≤ V.heap.size ∧ V.heap[B]? = some (.cells #[.int .i64 (a : Int), .int .i64 (b : Int)] 29 (0, 0)) ∧ Rd V B 2 (some ad) n (prC l))) (fun x _ => (RowKit.intOf x).toNat)
  case atStart => exact ⟨n, _, rfl, rfl, Nat.le_refl _, HZ0, HV0⟩
  case round =>
    obtain ⟨k, V, hV, rfl, hkn, HK, HV⟩ := hrel
    subst hV
    by_cases hk0 : k = 0
    · have HK0 := Lib.hid (show k = Z by rw [← HK.out, hk0]; rfl)
      have hz : ¬ (0 : Int) < (k : Int) := by omega
      have hd1 : decide ((0 : Int) < (k : Int)) = false := decide_eq_false hz
      have hd2 : decide (0 < k) = false := decide_eq_false (by omega)
      clear HK hk0
      go_wp2_with fail
      go_quiet (fail)
      generalize hX : V.drewN _ = V1
      have HF := Lib.hid (show PutF w V1 B (some ad) n k a b l by rw [← hX]; exact putF_of hkn HV.out _)
      have hsl0 := slice_to9 V1 (some ad) n c k (by omega)
      obtain rfl := HK0.out
      clear hX
      go_wp2_with (at_builtin; refine wpList_append_rd9 rfl _ _ 26 rfl (B + 1) 29 i0 _ 2 16 Try.underlying26 hi hz0 hz1 hz2 rfl (by decide) _ 0 [] rfl (World.ownsRow_nil _ _ _ _) _ _ _ _ rfl hnil _ (HF.out.2.2.1) (prC_one _) ?c1 ?c2 ?c3 ?_)
      case c1 => unfold maxLen; omega
      case c2 => omega
      case c3 => exact HF.out.2.1
      intro v1 w1 o1 g1
      have HO := Lib.hid (put1 HF.out o1 g1)
      clear o1 g1
      have hcs := HO.out.2.2.2.1
      have hq0 : w1.cell? ⟨B, 0, none⟩ = some (.int .i64 (a : Int)) := cell_of_row w1 B 0 _ _ (0, 0) hcs
      have hq1 : w1.cell? ⟨B, 1, none⟩ = some (.int .i64 (b : Int)) := cell_of_row w1 B 1 _ _ (0, 0) hcs
      clear hcs
      go_wp2_with (at_builtin; refine wpList_append_own_at _ rfl _ _ 26 rfl (B + 1) 29 i0 _ 2 16 Try.underlying26 hi hz0 hz1 hz2 rfl (by decide) _ _ _ rfl (HO.out.1.alloc _) ⟨w1.heap.size, 0, none⟩ 1 1 [.int .i64 (a : Int), .int .i64 (b : Int)] rfl rfl ?d1 ?d2 ?d3 ?d4 ?d5 ?_)
      try (case d1 => exact new_cells w1 [.int .i64 (a : Int), .int .i64 (b : Int)] 29)
      case d2 => simp [Value.oneCell']
      case d3 => unfold maxLen; omega
      case d4 => omega
      case d5 => rw [World.size_alloc]; have := HO.out.2.2.1; omega
      intro v2 w2 o2 g2 _ _
      have HP := Lib.hid (put2 hkn hc HO.out o2 g2)
      clear o2 g2 hq0 hq1 HO
      have HP1 := Lib.hid (put5 HP.out)
      by_cases hck : c = k
      · obtain rfl : c = k := hck
        obtain rfl : n = c := by omega
        rw [if_pos rfl, Nat.sub_self] at HP1
        go_wp2_with (at_builtin; refine wpList_append_rd9 rfl _ _ 26 rfl (B + 1) 29 i0 _ 2 16 Try.underlying26 hi hz0 hz1 hz2 rfl (by decide) _ _ _ rfl HP1.out.1 _ _ _ _ rfl (fun h => by cases h) _ HP1.out.2.2 (prC_one _) ?e1 ?e2 ?e3 ?_)
        case e1 => unfold maxLen; omega
        case e2 => omega
        case e3 => exact HP1.out.2.1
        intro v3 w3 o3 g3
        have HE := Lib.hid (put3 (Nat.le_refl _) Hl.out HP.out (by simpa using o3) g3)
        clear o3 g3 HP HP1
        go_wp2_with fail
        go_ret
        exact put4 HE.out (HZ.out)
      · rw [if_neg hck, Option.map_some] at HP1
        go_wp2_with (at_builtin; refine wpList_append_rd9 rfl _ _ 26 rfl (B + 1) 29 i0 _ 2 16 Try.underlying26 hi hz0 hz1 hz2 rfl (by decide) _ _ _ rfl HP1.out.1 _ _ _ _ rfl (fun h => by cases h) _ HP1.out.2.2 (prC_one _) ?e1 ?e2 ?e3 ?_)
        case e1 => unfold maxLen; omega
        case e2 => omega
        case e3 => exact HP1.out.2.1
        intro v3 w3 o3 g3
        have HE := Lib.hid (put3 hkn Hl.out HP.out o3 g3)
        clear o3 g3 HP HP1
        go_wp2_with fail
        go_ret
        exact put4 HE.out (HZ.out)
    · have hpos : (0 : Int) < (k : Int) := by omega
      obtain ⟨j, hj⟩ : ∃ j, k = j + 1 := ⟨k - 1, by omega⟩
      have hwk : IntKind.i64.wrap ((k : Int) - 1) = (j : Int) := by rw [IntWalk.i64_in _ (by omega)]; omega
      obtain ⟨p, hp⟩ : ∃ p, l[j]? = some p := ⟨_, List.getElem?_eq_getElem (by have := Hl.out; omega)⟩
      have hK := HK.out
      rw [hj, putK, List.getD_eq_getElem?_getD, hp, Option.getD_some] at hK
      have HVc := HV.out.2.2.1
      obtain ⟨ad', hA, _, hca⟩ := Rd.addr HV.out.2.2.2 (by omega)
      injection hA with hA
      have hc0 := hca (j * 2) _ (prC_get hp).1
      have hcb : V.cell? ⟨B, 0, none⟩ = some (.int .i64 (a : Int)) := cell_of_row V B 0 _ _ (0, 0) HVc
      subst hA
      have hki : (j : Int) < (n : Int) := by omega
      have hc0D : V.drew.cell? (ad.add (j * 2)) = some (.int .i64 (p.1 : Int)) := hc0
      have hcbD : V.drew.cell? ⟨B, 0, none⟩ = some (.int .i64 (a : Int)) := hcb
      have hd1 : decide ((0 : Int) < (k : Int)) = true := decide_eq_true hpos
      have hd2 : decide (0 < k) = true := decide_eq_true (by omega)
      by_cases hgt : a < p.1
      · rw [if_pos hgt] at hK
        have hg1 : (a : Int) < (p.1 : Int) := by omega
        have hg2 : decide ((a : Int) < (p.1 : Int)) = true := decide_eq_true hg1
        have hg3 : decide (a < p.1) = true := decide_eq_true hgt
        have HK1 := Lib.hid hK
        have Hj := Lib.hid hj
        clear hca HK hK hj hp
        go_wp2_with fail
        go_quiet (fail)
        go_wp2_with fail
        go_roundw
        case rel => exact ⟨j, _, rfl, rfl, by have := Hj.out; omega, HK1, Lib.hid (putV_N HV.out _)⟩
        case measure => have := Hj.out; simp [RowKit.intOf]; omega
      · rw [if_neg hgt] at hK
        have hg1 : ¬ (a : Int) < (p.1 : Int) := by omega
        have hg2 : decide ((a : Int) < (p.1 : Int)) = false := decide_eq_false hg1
        have hg3 : decide (a < p.1) = false := decide_eq_false hgt
        have HK0 := Lib.hid (show k = Z from hj.trans hK)
        clear hca HK hK hj hp
        go_wp2_with fail
        go_quiet (fail)
        generalize hX : V.drewN _ = V1
        have HF := Lib.hid (show PutF w V1 B (some ad) n k a b l by rw [← hX]; exact putF_of hkn HV.out _)
        have hsl0 := slice_to9 V1 (some ad) n c k (by omega)
        obtain rfl := HK0.out
        clear hX
        go_wp2_with (at_builtin; refine wpList_append_rd9 rfl _ _ 26 rfl (B + 1) 29 i0 _ 2 16 Try.underlying26 hi hz0 hz1 hz2 rfl (by decide) _ 0 [] rfl (World.ownsRow_nil _ _ _ _) _ _ _ _ rfl hnil _ (HF.out.2.2.1) (prC_one _) ?c1 ?c2 ?c3 ?_)
        case c1 => unfold maxLen; omega
        case c2 => omega
        case c3 => exact HF.out.2.1
        intro v1 w1 o1 g1
        have HO := Lib.hid (put1 HF.out o1 g1)
        clear o1 g1
        have hcs := HO.out.2.2.2.1
        have hq0 : w1.cell? ⟨B, 0, none⟩ = some (.int .i64 (a : Int)) := cell_of_row w1 B 0 _ _ (0, 0) hcs
        have hq1 : w1.cell? ⟨B, 1, none⟩ = some (.int .i64 (b : Int)) := cell_of_row w1 B 1 _ _ (0, 0) hcs
        clear hcs
        go_wp2_with (at_builtin; refine wpList_append_own_at _ rfl _ _ 26 rfl (B + 1) 29 i0 _ 2 16 Try.underlying26 hi hz0 hz1 hz2 rfl (by decide) _ _ _ rfl (HO.out.1.alloc _) ⟨w1.heap.size, 0, none⟩ 1 1 [.int .i64 (a : Int), .int .i64 (b : Int)] rfl rfl ?d1 ?d2 ?d3 ?d4 ?d5 ?_)
        try (case d1 => exact new_cells w1 [.int .i64 (a : Int), .int .i64 (b : Int)] 29)
        case d2 => simp [Value.oneCell']
        case d3 => unfold maxLen; omega
        case d4 => omega
        case d5 => rw [World.size_alloc]; have := HO.out.2.2.1; omega
        intro v2 w2 o2 g2 _ _
        have HP := Lib.hid (put2 hkn hc HO.out o2 g2)
        clear o2 g2 hq0 hq1 HO
        have HP1 := Lib.hid (put5 HP.out)
        by_cases hck : c = k
        · obtain rfl : c = k := hck
          obtain rfl : n = c := by omega
          rw [if_pos rfl, Nat.sub_self] at HP1
          go_wp2_with (at_builtin; refine wpList_append_rd9 rfl _ _ 26 rfl (B + 1) 29 i0 _ 2 16 Try.underlying26 hi hz0 hz1 hz2 rfl (by decide) _ _ _ rfl HP1.out.1 _ _ _ _ rfl (fun h => by cases h) _ HP1.out.2.2 (prC_one _) ?e1 ?e2 ?e3 ?_)
          case e1 => unfold maxLen; omega
          case e2 => omega
          case e3 => exact HP1.out.2.1
          intro v3 w3 o3 g3
          have HE := Lib.hid (put3 (Nat.le_refl _) Hl.out HP.out (by simpa using o3) g3)
          clear o3 g3 HP HP1
          go_wp2_with fail
          go_ret
          exact put4 HE.out (HZ.out)
        · rw [if_neg hck, Option.map_some] at HP1
          go_wp2_with (at_builtin; refine wpList_append_rd9 rfl _ _ 26 rfl (B + 1) 29 i0 _ 2 16 Try.underlying26 hi hz0 hz1 hz2 rfl (by decide) _ _ _ rfl HP1.out.1 _ _ _ _ rfl (fun h => by cases h) _ HP1.out.2.2 (prC_one _) ?e1 ?e2 ?e3 ?_)
          case e1 => unfold maxLen; omega
          case e2 => omega
          case e3 => exact HP1.out.2.1
          intro v3 w3 o3 g3
          have HE := Lib.hid (put3 hkn Hl.out HP.out o3 g3)
          clear o3 g3 HP HP1
          go_wp2_with fail
          go_ret
          exact put4 HE.out (HZ.out)
theorem putZ_nil (p : Nat × Nat) : putZ [] p = [p] := rfl
set_option maxRecDepth 100000 in
set_option maxHeartbeats 2000000 in
theorem put_nil9 (a b : Nat) (w : World) :
    Calls Try.prog 25 #[.slice none 0 0, .agg #[.int .i64 (a : Int), .int .i64 (b : Int)]] w (NewPr [(a, b)] w) := by
  obtain ⟨i0, hi, hz0, hz1, hz2⟩ := info_parts pr_info
  unfold NewPr
  obtain ⟨B, hB⟩ : ∃ B, w.heap.size = B := ⟨_, rfl⟩
  obtain ⟨W, hW⟩ : ∃ W, w.alloc (.cells #[.int .i64 (a : Int), .int .i64 (b : Int)] 29) = W := ⟨_, rfl⟩
  have hb0 : Below B w W := by rw [← hW, ← hB]; exact (Below.refl _ w).alloc (Nat.le_refl _) _
  have hcs : W.heap[B]? = some (.cells #[.int .i64 (a : Int), .int .i64 (b : Int)] 29 (0, 0)) := by rw [← hW, ← hB]; exact heap_alloc_new w _
  have hsz : B + 1 ≤ W.heap.size := by rw [← hW, ← hB, World.size_alloc]; omega
  rw [hB]
  have HV0 := Lib.hid (show Below B w W ∧ B + 1 ≤ W.heap.size ∧ W.heap[B]? = some (.cells #[.int .i64 (a : Int), .int .i64 (b : Int)] 29 (0, 0)) ∧ Rd W B 2 none 0 (prC []) from ⟨hb0, hsz, hcs, Rd.nil _ _ _ _⟩)
  have HWw := Lib.hid hW
  have HB := Lib.hid hB
  clear hB hW hb0 hcs hsz
  go_enter Try.func25, Try.ntmps25
  go_wp2_with fail
  rw [HWw.out, HB.out]
  go_wp2_with fail
  go_loopw [5] (fun x wr => wr = W ∧ x = .int .i64 0) (fun x _ => (RowKit.intOf x).toNat)
  case atStart => exact ⟨rfl, rfl⟩
  case round =>
    obtain ⟨hV, rfl⟩ := hrel
    subst hV
    go_wp2_with fail
    go_quiet (fail)
    generalize hX : World.drewN _ _ = V1
    have HF := Lib.hid (show PutF w V1 B none 0 0 a b [] by rw [← hX]; exact putF_of (Nat.le_refl _) HV0.out _)
    clear hX
    go_wp2_with (at_builtin; refine wpList_append_rd9 rfl _ _ 26 rfl (B + 1) 29 i0 _ 2 16 Try.underlying26 hi hz0 hz1 hz2 rfl (by decide) _ 0 [] rfl (World.ownsRow_nil _ _ _ _) _ _ _ _ rfl (fun _ => rfl) _ (HF.out.2.2.1) (prC_one _) ?c1 ?c2 ?c3 ?_)
    case c1 => unfold maxLen; omega
    case c2 => omega
    case c3 => exact HF.out.2.1
    intro v1 w1 o1 g1
    have HO := Lib.hid (put1 HF.out o1 g1)
    clear o1 g1
    have hcs := HO.out.2.2.2.1
    have hq0 : w1.cell? ⟨B, 0, none⟩ = some (.int .i64 (a : Int)) := cell_of_row w1 B 0 _ _ (0, 0) hcs
    have hq1 : w1.cell? ⟨B, 1, none⟩ = some (.int .i64 (b : Int)) := cell_of_row w1 B 1 _ _ (0, 0) hcs
    clear hcs
    go_wp2_with (at_builtin; refine wpList_append_own_at _ rfl _ _ 26 rfl (B + 1) 29 i0 _ 2 16 Try.underlying26 hi hz0 hz1 hz2 rfl (by decide) _ _ _ rfl (HO.out.1.alloc _) ⟨w1.heap.size, 0, none⟩ 1 1 [.int .i64 (a : Int), .int .i64 (b : Int)] rfl rfl ?d1 ?d2 ?d3 ?d4 ?d5 ?_)
    try (case d1 => exact new_cells w1 [.int .i64 (a : Int), .int .i64 (b : Int)] 29)
    case d2 => simp [Value.oneCell']
    case d3 => unfold maxLen; omega
    case d4 => omega
    case d5 => rw [World.size_alloc]; have := HO.out.2.2.1; omega
    intro v2 w2 o2 g2 _ _
    have HP := Lib.hid (put2 (c := 0) (Nat.le_refl 0) (Nat.le_refl 0) HO.out o2 g2)
    clear o2 g2 hq0 hq1 HO
    have HP1 := Lib.hid (show w2.ownsRow (B + 1) 29 2 v2 1 (prC [(a, b)]) ∧ B + 1 ≤ w2.heap.size ∧ Rd w2 B 2 none 0 (prC []) from put5 HP.out)
    go_wp2_with (at_builtin; refine wpList_append_rd9 rfl _ _ 26 rfl (B + 1) 29 i0 _ 2 16 Try.underlying26 hi hz0 hz1 hz2 rfl (by decide) _ _ _ rfl HP1.out.1 _ _ _ _ rfl (fun _ => rfl) _ HP1.out.2.2 (prC_one _) ?e1 ?e2 ?e3 ?_)
    case e1 => unfold maxLen; omega
    case e2 => omega
    case e3 => exact HP1.out.2.1
    intro v3 w3 o3 g3
    have HE := Lib.hid (put3 (c := 0) (l := []) (Nat.le_refl 0) rfl HP.out (by simpa using o3) g3)
    clear o3 g3 HP HP1
    go_wp2_with fail
    go_ret
    exact put4 (R := [(a, b)]) HE.out rfl
/-- put, whatever the list is -/
theorem put_any9 (A : Option Addr) (n c : Nat) (l : Prs) (a b : Nat) (w : World) (hrd : Rd w w.heap.size 2 A n (prC l)) (hn : n ≤ 1048576) (hc : n ≤ c) (hnil : A = none → c = 0) :
    Calls Try.prog 25 #[.slice A n c, .agg #[.int .i64 (a : Int), .int .i64 (b : Int)]] w (NewPr (putZ l (a, b)) w) := by
  rcases A with _ | ad
  · obtain rfl := hnil rfl
    obtain rfl : n = 0 := by omega
    obtain rfl : l = [] := List.eq_nil_of_length_eq_zero (by have := hrd.1; rw [prC_len] at this; omega)
    exact put_nil9 a b w
  · exact put_some9 ad n c l a b w hrd hn hc
end Go.Proofs.Ytkcckophnamajaa
