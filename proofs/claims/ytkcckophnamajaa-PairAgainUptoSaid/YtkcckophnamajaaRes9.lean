/- Layer 9, the document: Resolve. -/
import Derived.Test.YtkcckophnamajaaSame9
import Derived.Test.YtkcckophnamajaaWth9
import Derived.Deep.RegionHeld3
set_option linter.unusedSimpArgs false
set_option linter.unusedVariables false
namespace Go.Proofs.Ytkcckophnamajaa
open Go.RowKit Go.Lib

theorem RdR.take9 {w : World} {n : Nat} {A : Option Addr} {xs : List Int} (h : RdR w A n xs) (k : Nat) (hk : k ≤ n) : RdR w A k (xs.take k) := by
  have hl := h.len
  refine ⟨by simp; omega, ?_⟩
  rcases h.2 with h0 | ⟨a, e, hb, hc⟩
  · exact .inl (by omega)
  · refine .inr ⟨a, e, hb, fun j u hu => hc j u ?_⟩
    rw [List.getElem?_map, List.getElem?_take] at hu
    split at hu
    · rw [List.getElem?_map]; exact hu
    · cases hu
set_option maxRecDepth 100000 in
theorem slice_r9 (W : World) (A : Option Addr) (m cp k : Nat) (hk : k ≤ cp) : (Instr.slice 22 (.slice A m cp) none (some (.int .i64 (k : Int))) none).run Try.prog W = .ok (.slice A k cp) W := by
  have h := run_slice_h (P := Try.prog) W 22 A m cp (show Try.prog.underlying 22 = some (.slice (Try.prog.elem 22)) from Try.underlying22) .i64 (k : Int) (by omega) (by omega)
  rw [h]
  have hs : (sizeOf (Try.prog.elem 22)).run Try.prog W = .ok 1 W := by rfl
  rw [hs]
  have e0 : A.map (·.add (0 * 1)) = A := by
    rcases A with _ | a
    · rfl
    · simp [Addr.add]
  simp only [Result.andThen, sliced, Int.toNat_natCast, Nat.sub_zero]
  rw [e0]
  split <;> rfl
theorem runZ_take (nsm : Int → Bool) (v : Int) : ∀ (rs t : List Int) (m : Nat), t.length ≤ m → runZ nsm v (rs.take m) t = runZ nsm v rs t
  | [], t, m, _ => by simp
  | r :: rs, [], m, _ => by rw [runZ_nil, runZ_nil]
  | r :: rs, k :: t, m, h => by
    obtain ⟨m, rfl⟩ : ∃ q, m = q + 1 := ⟨m - 1, by simp at h; omega⟩
    rw [List.take_succ_cons, runZ, runZ, runZ_take nsm v rs t m (by simp at h; omega)]
theorem becZ_take (nsm : Int → Bool) (rs ks : List Int) (i : Nat) (v : Int) (n : Nat) (h : ks.length = n) : becZ nsm (rs.take n) ks i v = becZ nsm rs ks i v := by
  unfold becZ
  congr 1
  have hd : (ks.drop i).length = n - i := by rw [List.length_drop, h]
  split
  · rfl
  · next x t e =>
    rw [e, List.length_cons] at hd
    rw [List.drop_take, runZ_take nsm v _ t _ (by omega)]
/-- what holds in the first loop -/
def Res1 (w : World) (B i : Nat) (A1 : Option Addr) (c1 : Nat) (ks : List Int) (W : World) : Prop :=
  W.ownsRow B 33 1 (.slice A1 i c1) i (i8s ((ks.take i).map cn9)) ∧ Below B w W ∧ B ≤ W.heap.size
theorem res1_next {w W W' : World} {B i c1 c2 : Nat} {A1 A2 : Option Addr} {ks : List Int} {k : Int} {ob : Obj} (h : Res1 w B i A1 c1 ks W) (hk : ks[i]? = some k) (o : W'.ownsRow B 33 1 (.slice A2 (i + 1) c2) (i + 1) (i8s ((ks.take i).map cn9) ++ [.int .i8 (cn9 k)])) (g : (W.alloc ob).grownBy W' (Value.ownBlock (.slice A1 i c1))) : Res1 w B (i + 1) A2 c2 ks W' := by
  refine ⟨?_, (h.2.1.alloc h.2.2 ob).grown g (by rw [World.size_alloc]; have := h.2.2; omega) (fun q hq => (h.1.lt q hq).1), by have := g.size; rw [World.size_alloc] at this; have := h.2.2; omega⟩
  rw [List.take_add_one, hk]
  simp only [Option.toList_some, List.map_append, List.map_cons, List.map_nil, i8s] at o ⊢
  exact o
/-- what holds in the second loop -/
def Res2 (w : World) (B n m q : Nat) (A1 Ap : Option Addr) (c1 cp : Nat) (f : List Int → Nat × Nat → List Int) (L0 : List Int) (ps : Prs) (W : World) : Prop :=
  W.ownsRow B 33 1 (.slice A1 n c1) n (i8s ((ps.take q).foldl f L0)) ∧ W.ownsRow B 29 2 (.slice Ap m cp) m (prC ps) ∧ Below B w W ∧ B ≤ W.heap.size
theorem own_other2 {w w' : World} {B B' n n' size size' : Nat} {e e' : TypeId} {v v' : Value} {xs xs' : List Value} (h : w.ownsRow B e size v n xs) (h' : w.ownsRow B' e' size' v' n' xs') (hne : e ≠ e') (g : w.grownBy w' v'.ownBlock) : w'.ownsRow B e size v n xs := by
  refine ⟨h.1, ?_⟩
  rcases h.2 with h0 | ⟨q, cap, cur, hv, hg, hh, r⟩
  · exact .inl h0
  · have hq := (Array.getElem?_eq_some_iff.1 hh).1
    refine .inr ⟨q, cap, cur, hv, hg, ?_, r⟩
    rw [g.block q hq (fun e1 => ?_), hh]
    rcases h'.2 with ⟨h1, _⟩ | ⟨q', cap', cur', hv', _, hh', _⟩
    · rw [h1] at e1; cases e1
    · rw [hv'] at e1
      have e2 : q = q' := by injection e1
      rw [← e2, hh] at hh'
      injection hh' with hh'
      injection hh' with _ h2 _
      exact hne h2
theorem within_at9 (A : Option Addr) (n c : Nat) (K : List Int) (a b : Nat) (e s : Int) (w : World) (h : RdK w A n K) (hab : a < b) (hbn : b < n) (hn : n ≤ 140737488355328) :
    Calls Try.prog 33 #[.slice A n c, .agg #[.int .i64 (a : Int), .int .i64 (b : Int)], .int .i8 e, .int .i8 s] w fun en w' => en = .returned (.tuple #[.bool (sameZ e ((K.drop (a + 1)).take (b - (a + 1)))), .bool (otherZ e ((K.drop (a + 1)).take (b - (a + 1)))), .int .i8 (aheadZ s (K.take a))]) ∧ Below w.heap.size w w' := by
  have hl := h.len
  have e1 : K = K.take (a + 1) ++ (K.drop (a + 1)).take (b - (a + 1)) ++ K.drop b := by
    have h1 := List.take_append_drop (b - (a + 1)) (K.drop (a + 1))
    rw [List.drop_drop, show a + 1 + (b - (a + 1)) = b by omega] at h1
    rw [List.append_assoc, h1, List.take_append_drop]
  have h2 := within_any9 A n c (K.take (a + 1)) ((K.drop (a + 1)).take (b - (a + 1))) (K.drop b) a b e s w (by rw [← e1]; exact h) (by rw [List.length_take]; omega) (by rw [List.length_take, List.length_drop]; omega) hn
  rw [List.take_take, Nat.min_eq_left (Nat.le_succ a)] at h2
  exact h2
theorem become_at9 (dz : Int → Int) (HDir : Hid (∀ x w, Calls Try.prog 50 #[.int .i32 x] w fun e w' => e = .returned (.int .i8 (dz x)) ∧ w' = w))
    (B : Nat) (Ar A : Option Addr) (nr cr n c : Nat) (rs K : List Int) (v : Int) (w : World) (hr : Rd w B 1 Ar nr (i32s rs)) (h : w.ownsRow B 33 1 (.slice A n c) n (i8s K)) (hn : n ≤ nr) (i : Nat) (hi : i < n) :
    Calls Try.prog 35 #[.slice Ar nr cr, .slice A n c, .int .i64 (i : Int), .int .i8 v] w
      (RuleAt B A n c (becZ (fun r => dz r == 8) (rs.take n) K i v) w) := by
  have hl := (RdK.own h).len
  have e1 : K = K.take i ++ K[i] :: K.drop (i + 1) := by rw [← List.drop_eq_getElem_cons, List.take_append_drop]
  have hk : (K.take i).length = i := by rw [List.length_take]; omega
  have h2 := become_any9 dz HDir B Ar A nr cr n c rs (K.take i) (K.drop (i + 1)) K[i] v w hr (by rw [← e1]; exact h) hn i hk
  rw [← e1] at h2
  rw [becZ_take _ _ _ _ _ _ hl]
  exact h2
theorem res2_step {w W W' : World} {B n m q : Nat} {A1 Ap : Option Addr} {c1 cp : Nat} {f : List Int → Nat × Nat → List Int} {L0 K : List Int} {ps : Prs} {p : Nat × Nat} (h : Res2 w B n m q A1 Ap c1 cp f L0 ps W) (hp : ps[q]? = some p) (hk : f ((ps.take q).foldl f L0) p = K)
    (o : W'.ownsRow B 33 1 (.slice A1 n c1) n (i8s K)) (op : W'.ownsRow B 29 2 (.slice Ap m cp) m (prC ps)) (hb : Below B w W') (hs : B ≤ W'.heap.size) : Res2 w B n m (q + 1) A1 Ap c1 cp f L0 ps W' := by
  refine ⟨?_, op, hb, hs⟩
  rw [List.take_add_one, hp, Option.toList_some, List.foldl_append, List.foldl_cons, List.foldl_nil, hk]
  exact o
set_option maxRecDepth 100000 in
set_option maxHeartbeats 2000000 in
theorem resolve_any9 (pr : Int → Int × Bool × Bool) (hm : ∀ x y, pr x = (y, true, true) → pr y = (x, false, true)) (HPair : Hid (∀ x w, Calls Try.prog 24 #[.int .i32 x] w fun e w' => e = .returned (.tuple #[.int .i32 (pr x).1, .bool (pr x).2.1, .bool (pr x).2.2]) ∧ Below w.heap.size w w'))
    (dz : Int → Int) (HDir : Hid (∀ x w, Calls Try.prog 50 #[.int .i32 x] w fun e w' => e = .returned (.int .i8 (dz x)) ∧ w' = w))
    (Ar A : Option Addr) (nr cr n c : Nat) (rs ks : List Int) (lv : Int) (sos eos : Int) (w : World) (hr : RdR w Ar nr rs) (hk : RdK w A n ks) (hn : min nr n ≤ 1048576) (hcr : nr ≤ cr) :
    Calls Try.prog 15 #[.slice Ar nr cr, .slice A n c, .int .u8 lv, .int .i8 sos, .int .i8 eos] w (NewAt (min nr n) (rsZ pr (fun r => dz r == 8) rs ks lv sos eos) w) := by
  obtain ⟨i0, hi, hz0, hz1, hz2⟩ := info_parts i8_info
  have HC := Lib.hid (count_any9 Ar A nr n cr c)
  have hrl := hr.len
  have hkl := hk.len
  unfold NewAt rsZ
  rw [hrl, hkl]
  obtain ⟨B, hB⟩ : ∃ B, w.heap.size = B := ⟨_, rfl⟩
  rw [hB]
  have H0 := Lib.hid (show Res1 w B 0 none 0 ks w from ⟨World.ownsRow_nil _ _ _ _, Below.refl _ _, by omega⟩)
  obtain ⟨N, hN⟩ : ∃ N, min nr n = N := ⟨_, rfl⟩
  rw [hN] at hn HC ⊢
  have hNr : N ≤ nr := by omega
  have hNk : N ≤ n := by omega
  obtain ⟨L0, hL0⟩ : ∃ L0, (ks.take N).map cn9 = L0 := ⟨_, rfl⟩
  obtain ⟨e, he⟩ : ∃ e, lvlZ lv = e := ⟨_, rfl⟩
  obtain ⟨ps, hps⟩ : ∃ ps, brZ pr (rs.take N) L0 = ps := ⟨_, rfl⟩
  simp only [hL0, he, hps]
  have HL0 := Lib.hid hL0
  have He := Lib.hid he
  have Hps := Lib.hid hps
  have Hr := Lib.hid hr
  have Hk := Lib.hid hk
  have HB := Lib.hid hB
  have Hkl := Lib.hid hkl
  have Hrl := Lib.hid hrl
  have Hm := Lib.hid hm
  clear hB hN hr hk hL0 he hps hkl hrl hm
  go_enter Try.func15, Try.ntmps15
  go_wp2_with fail
  refine (HC.out _).mono ?_
  rintro _ w9 ⟨rfl, h9⟩
  obtain rfl := h9.symm
  go_wp2_with fail
  go_loopw [12, 13] (fun y x wr => ∃ (i c1 : Nat) (A1 : Option Addr) (W : World), W = wr ∧ y = .slice A1 i c1 ∧ x = .int .i64 (i : Int) ∧ i ≤ N ∧ Hid (Res1 w B i A1 c1 ks W)) (fun _ x _ => N - (RowKit.intOf x).toNat)
  case atStart => exact ⟨0, 0, none, _, rfl, rfl, rfl, Nat.zero_le _, H0⟩
  case round =>
    obtain ⟨i, c1, A1, W, hW, rfl, rfl, hiN, HI⟩ := hrel
    subst hW
    rcases Nat.lt_or_ge i N with hlt | hge
    · obtain ⟨k, hki⟩ : ∃ k, ks[i]? = some k := ⟨_, List.getElem?_eq_getElem (by have := Hkl.out; omega)⟩
      obtain ⟨ak, hAk, _, _, hck⟩ := (Hk.out.below (by rw [HB.out]; exact HI.out.2.1)).get hki
      subst hAk
      have hiNi : (i : Int) < (N : Int) := by omega
      have hiki : (i : Int) < (n : Int) := by omega
      have hnext : IntKind.i64.wrap ((i : Int) + 1) = (i : Int) + 1 := IntWalk.i64_in _ (by omega)
      have Hki := Lib.hid hki
      by_cases h2 : k = 2
      · have hcn : cn9 k = 1 := by rw [h2]; rfl
        subst h2
        clear hki
        go_wp2_with (at_builtin; refine wpList_append_own_at _ rfl _ _ 23 rfl B 33 i0 _ 1 1 Try.underlying23 hi hz0 hz1 hz2 rfl (by decide) _ _ _ rfl (HI.out.1.alloc _) ⟨W.heap.size, 0, none⟩ 1 1 [.int .i8 1] rfl rfl ?d1 ?d2 ?d3 ?d4 ?d5 ?_)
        try (case d1 => exact new_cells W [.int .i8 1] 33)
        case d2 => simp [Value.oneCell']
        case d3 => unfold maxLen; omega
        case d4 => omega
        case d5 => rw [World.size_alloc]; have := HI.out.2.2; omega
        intro v2 w2 o2 g2 _ _
        obtain ⟨A2, c2, hv2, _, _⟩ := own_shape o2
        subst hv2
        have HIn := Lib.hid (res1_next HI.out Hki.out (by rw [hcn]; simpa [i8s] using o2) g2)
        clear o2 g2 HI hcn
        go_wp2_with fail
        go_roundw
        case rel => exact ⟨i + 1, c2, A2, _, rfl, rfl, by first | rfl | go_num, hlt, HIn⟩
        case measure => simp [RowKit.intOf]; omega
      · have hcn : cn9 k = k := by unfold cn9; rw [if_neg h2]
        have hk2 : (k == 2) = false := by simpa using h2
        clear hki h2
        go_wp2_with (at_builtin; refine wpList_append_own_at _ rfl _ _ 23 rfl B 33 i0 _ 1 1 Try.underlying23 hi hz0 hz1 hz2 rfl (by decide) _ _ _ rfl (HI.out.1.alloc _) ⟨W.heap.size, 0, none⟩ 1 1 [.int .i8 k] rfl rfl ?d1 ?d2 ?d3 ?d4 ?d5 ?_)
        try (case d1 => exact new_cells W [.int .i8 k] 33)
        case d2 => simp [Value.oneCell']
        case d3 => unfold maxLen; omega
        case d4 => omega
        case d5 => rw [World.size_alloc]; have := HI.out.2.2; omega
        intro v2 w2 o2 g2 _ _
        obtain ⟨A2, c2, hv2, _, _⟩ := own_shape o2
        subst hv2
        have HIn := Lib.hid (res1_next HI.out Hki.out (by rw [hcn]; simpa [i8s] using o2) g2)
        clear o2 g2 HI hcn
        go_wp2_with fail
        go_roundw
        case rel => exact ⟨i + 1, c2, A2, _, rfl, rfl, by first | rfl | go_num, hlt, HIn⟩
        case measure => simp [RowKit.intOf]; omega
    · obtain rfl : i = N := by omega
      have hnn : ¬ (i : Int) < (i : Int) := by omega
      have hsl := slice_r9 W Ar nr cr i (by omega)
      obtain ⟨m, hmL⟩ : ∃ m, ps.length = m := ⟨_, rfl⟩
      have HBk := Lib.hid (brackets_any9 pr HPair Ar A1 i cr i c1 (rs.take i) L0 W ((Hr.out.below (by rw [HB.out]; exact HI.out.2.1)).take9 i hNr) (by have h := RdK.own HI.out.1; rw [HL0.out] at h; exact h) (by rw [Nat.min_self]; exact hn))
      rw [Hps.out] at HBk
      have HpB := Lib.hid (show ∀ (q : Nat) (p : Nat × Nat), ps[q]? = some p → p.1 < p.2 ∧ p.2 < i from fun q p hq => by
        obtain ⟨j, stk, h⟩ := brZ_holds (rs := rs.take i) (ks := L0) Hm.out
        rw [Hps.out] at h
        have h1 := h.pair p (List.mem_of_getElem? hq)
        refine ⟨h1.1, ?_⟩
        have h2 := (List.getElem?_eq_some_iff.1 h1.2.2.2.1).1
        have h3 : L0.length = i := by rw [← HL0.out, List.length_map, List.length_take, Hkl.out]; omega
        omega)
      have HL0i := Lib.hid (show W.ownsRow B 33 1 (.slice A1 i c1) i (i8s L0) by have h := HI.out.1; rw [HL0.out] at h; exact h)
      have HWb := Lib.hid (show Below B w W ∧ B ≤ W.heap.size from HI.out.2)
      have Hml := Lib.hid hmL
      unfold NewPr at HBk
      rw [hmL] at HBk
      clear hge hiN HI HPair hmL
      by_cases hlv : lv.tmod 2 = 1
      · obtain rfl : e = 1 := by rw [← He.out]; unfold lvlZ; rw [if_pos hlv]
        have hlb : (lv.tmod 2 == 1) = true := by simpa using hlv
        clear hlv He
        go_wp2_with fail
        refine (HBk.out).mono ?_
        rintro _ w8 ⟨Ap, cp, rfl, hp8, hb8⟩
        have H2 := Lib.hid (show Res2 w B i m 0 A1 Ap c1 cp (pairZ9 (fun r => dz r == 8) (rs.take i) 1 (sidZ sos)) L0 ps w8 from ⟨own_below HL0i.out hb8, own_base hp8 HWb.out.2, HWb.out.1.trans (hb8.mono HWb.out.2), Nat.le_trans HWb.out.2 hb8.size⟩)
        clear hp8 hb8 HBk HL0i HWb
        go_wp2_with fail
        go_loopw [17] (fun x wr => ∃ (q : Nat) (V : World), V = wr ∧ x = .int .i64 (q : Int) ∧ q ≤ m ∧ Hid (Res2 w B i m q A1 Ap c1 cp (pairZ9 (fun r => dz r == 8) (rs.take i) 1 (sidZ sos)) L0 ps V)) (fun x _ => m - (RowKit.intOf x).toNat)
        case atStart => exact ⟨0, _, rfl, rfl, Nat.zero_le _, H2⟩
        case round =>
          obtain ⟨q, V, hV, rfl, hqm, HV⟩ := hrel
          subst hV
          rcases Nat.lt_or_ge q m with hlt | hge
          · obtain ⟨⟨a, b⟩, hpq⟩ : ∃ p, ps[q]? = some p := ⟨_, List.getElem?_eq_getElem (by have := Hml.out; omega)⟩
            obtain ⟨hab, hbi⟩ := HpB.out q (a, b) hpq
            simp only at hab hbi
            obtain ⟨g, cap, hv1, _, _⟩ := HV.out.2.1.form (by omega)
            injection hv1 with hA _ hcc
            subst hA
            subst hcc
            obtain ⟨K, hK⟩ : ∃ K, (ps.take q).foldl (pairZ9 (fun r => dz r == 8) (rs.take i) 1 (sidZ sos)) L0 = K := ⟨_, rfl⟩
            have HK := Lib.hid hK
            have HR := Lib.hid (show V.ownsRow B 33 1 (.slice A1 i c1) i (i8s K) ∧ V.ownsRow B 29 2 (.slice (some ⟨g, 0, none⟩) m cp) m (prC ps) ∧ Below B w V ∧ B ≤ V.heap.size by have h := HV.out; unfold Res2 at h; rw [hK] at h; exact h)
            have Hpc := Lib.hid (prC_get hpq)
            have hpl : (prC ps).length = m * 2 := by rw [prC_len, Hml.out]
            have hc0 : V.cell? ⟨g, q * 2, none⟩ = some (.int .i64 (a : Int)) := by rw [HR.out.2.1.cellAt _ (by omega)]; exact Hpc.out.1
            have hc1 : V.cell? ⟨g, q * 2 + 1, none⟩ = some (.int .i64 (b : Int)) := by rw [HR.out.2.1.cellAt _ (by omega)]; exact Hpc.out.2
            have hc0D : V.drew.cell? ⟨g, q * 2, none⟩ = some (.int .i64 (a : Int)) := hc0
            have hc1D : V.drew.cell? ⟨g, q * 2 + 1, none⟩ = some (.int .i64 (b : Int)) := hc1
            obtain ⟨sm, hsm⟩ : ∃ sm, sameZ 1 ((K.drop (a + 1)).take (b - (a + 1))) = sm := ⟨_, rfl⟩
            obtain ⟨ot, hot⟩ : ∃ ot, otherZ 1 ((K.drop (a + 1)).take (b - (a + 1))) = ot := ⟨_, rfl⟩
            obtain ⟨ah, hah⟩ : ∃ ah, aheadZ (sidZ sos) (K.take a) = ah := ⟨_, rfl⟩
            have HWt := Lib.hid (fun W' h => by have h9 := within_at9 A1 i c1 K a b 1 (sidZ sos) W' h hab hbi (by omega); rw [hsm, hot, hah] at h9; exact h9)
            have Hsm := Lib.hid (show _ ∧ _ ∧ _ from ⟨hsm, hot, hah⟩)
            have Hpq := Lib.hid hpq
            have Hab := Lib.hid (show a < i ∧ a < b ∧ b < i from ⟨Nat.lt_trans hab hbi, hab, hbi⟩)
            have HrB := Lib.hid (show ∀ W', Below B w W' → Rd W' B 1 Ar nr (i32s rs) from fun W' hb => by
              have h : Rd w w.heap.size 1 Ar nr (i32s rs) := Hr.out
              rw [HB.out] at h
              exact h.below hb)
            have hqmi : (q : Int) < (m : Int) := by omega
            have hnext : IntKind.i64.wrap ((q : Int) + 1) = (q : Int) + 1 := IntWalk.i64_in _ (by have h := own_caps HR.out.2.1; unfold maxLen at h; omega)
            have HRD := Lib.hid (show RdK V.drew A1 i K from RdK.own (show V.drew.ownsRow B 33 1 (.slice A1 i c1) i (i8s K) from HR.out.1))
            have hplc := Lib.hid hpl
            have hgl : g < V.drew.heap.size := (HR.out.2.1.lt g rfl).2
            clear hK hpq hsm hot hah hc0 hc1 hab hbi
            go_wp2_with fail
            go_region_held3 (fun W' => W'.cell? ⟨g, q * 2, none⟩ = some (.int .i64 (a : Int)) ∧ W'.cell? ⟨g, q * 2 + 1, none⟩ = some (.int .i64 (b : Int))) (first | exact ⟨hc0D, hc1D⟩ | exact ⟨(b4.cell (p := ⟨g, q * 2, none⟩) hgl).trans hc0D, (b4.cell (p := ⟨g, q * 2 + 1, none⟩) hgl).trans hc1D⟩) (first | (go_simp; first
              | (go_at_call 34; refine (side9_any _ _).mono ?_; rintro e3 w3 ⟨rfl, h3⟩; obtain rfl := h3.symm)
              | (go_at_call 33; refine (HWt.out _ HRD.out).mono ?_; rintro e4 w4 ⟨rfl, b4⟩)))
            have hbV : Below V.heap.size V w4 := (Below.drew (Below.refl _ V)).trans b4
            have HR4 := Lib.hid (show w4.ownsRow B 33 1 (.slice A1 i c1) i (i8s K) ∧ w4.ownsRow B 29 2 (.slice (some ⟨g, 0, none⟩) m cp) m (prC ps) ∧ Below B w w4 ∧ B ≤ w4.heap.size from ⟨own_below HR.out.1 hbV, own_below HR.out.2.1 hbV, HR.out.2.2.1.trans (hbV.mono HR.out.2.2.2), Nat.le_trans HR.out.2.2.2 hbV.size⟩)
            have hc4 : w4.cell? ⟨g, q * 2, none⟩ = some (.int .i64 (a : Int)) := (b4.cell (p := ⟨g, q * 2, none⟩) hgl).trans hc0D
            clear b4 hbV hgl hc0D hc1D HWt HRD
            rcases sm with _ | _
            · rcases ot with _ | _
              · have HIn := Lib.hid (res2_step HV.out Hpq.out (show pairZ9 (fun r => dz r == 8) (rs.take i) 1 (sidZ sos) _ (a, b) = K by
                  rw [HK.out]
                  unfold pairZ9
                  simp only
                  rw [Hsm.out.1, Hsm.out.2.1, if_pos ⟨rfl, rfl⟩]) HR4.out.1 HR4.out.2.1 HR4.out.2.2.1 HR4.out.2.2.2)
                clear HR4 hc4
                go_wp2_with fail
                go_roundw
                case rel => exact ⟨q + 1, _, rfl, by first | rfl | go_num, hlt, HIn⟩
                case measure => simp [RowKit.intOf]; omega
              · by_cases hae : ah = 1
                · have hab2 : (ah != 1) = false := by simp [hae]
                  obtain ⟨K1, hK1⟩ : ∃ K1, becZ (fun r => dz r == 8) (rs.take i) K a 1 = K1 := ⟨_, rfl⟩
                  obtain ⟨K2, hK2⟩ : ∃ K2, becZ (fun r => dz r == 8) (rs.take i) K1 b 1 = K2 := ⟨_, rfl⟩
                  have HF := Lib.hid (show pairZ9 (fun r => dz r == 8) (rs.take i) 1 (sidZ sos) K (a, b) = K2 by
                    unfold pairZ9
                    simp only
                    rw [Hsm.out.1, Hsm.out.2.1, Hsm.out.2.2]
                    rw [if_neg (by simp), if_neg (by simp [hae]), hK1]
                    exact hK2)
                  have HB1 := Lib.hid (fun W' h1 h2 => by have h := become_at9 dz HDir B Ar A1 nr cr i c1 rs K 1 W' h1 h2 hNr a Hab.out.1; rw [hK1] at h; exact h)
                  have HB2 := Lib.hid (fun W' h1 h2 => by have h := become_at9 dz HDir B Ar A1 nr cr i c1 rs K1 1 W' h1 h2 hNr b Hab.out.2.2; rw [hK2] at h; exact h)
                  clear hK1 hK2
                  go_wp2_with fail
                  refine (HB1.out _ (HrB.out _ HR4.out.2.2.1) HR4.out.1).mono ?_
                  rintro _ w5 ⟨rfl, o5, g5⟩
                  have HR5 := Lib.hid (show w5.ownsRow B 33 1 (.slice A1 i c1) i (i8s K1) ∧ w5.ownsRow B 29 2 (.slice (some ⟨g, 0, none⟩) m cp) m (prC ps) ∧ Below B w w5 ∧ B ≤ w5.heap.size from ⟨o5, own_other2 HR4.out.2.1 HR4.out.1 (by decide) g5, HR4.out.2.2.1.grown g5 HR4.out.2.2.2 (fun k hk => (HR4.out.1.lt k hk).1), Nat.le_trans HR4.out.2.2.2 g5.size⟩)
                  clear o5 g5 HR4
                  have hc5 : w5.cell? ⟨g, q * 2 + 1, none⟩ = some (.int .i64 (b : Int)) := by rw [HR5.out.2.1.cellAt _ (by omega)]; exact Hpc.out.2
                  go_wp2_with fail
                  refine (HB2.out _ (HrB.out _ HR5.out.2.2.1) HR5.out.1).mono ?_
                  rintro _ w6 ⟨rfl, o6, g6⟩
                  have HIn := Lib.hid (res2_step HV.out Hpq.out (by rw [HK.out]; exact HF.out) o6 (own_other2 HR5.out.2.1 HR5.out.1 (by decide) g6) (HR5.out.2.2.1.grown g6 HR5.out.2.2.2 (fun k hk => (HR5.out.1.lt k hk).1)) (Nat.le_trans HR5.out.2.2.2 g6.size))
                  clear o6 g6 HR5 HF HB1 HB2 hc5
                  go_wp2_with fail
                  go_roundw
                  case rel => exact ⟨q + 1, _, rfl, by first | rfl | go_num, hlt, HIn⟩
                  case measure => simp [RowKit.intOf]; omega
                · have hab2 : (ah != 1) = true := by simp [hae]
                  obtain ⟨K1, hK1⟩ : ∃ K1, becZ (fun r => dz r == 8) (rs.take i) K a ah = K1 := ⟨_, rfl⟩
                  obtain ⟨K2, hK2⟩ : ∃ K2, becZ (fun r => dz r == 8) (rs.take i) K1 b ah = K2 := ⟨_, rfl⟩
                  have HF := Lib.hid (show pairZ9 (fun r => dz r == 8) (rs.take i) 1 (sidZ sos) K (a, b) = K2 by
                    unfold pairZ9
                    simp only
                    rw [Hsm.out.1, Hsm.out.2.1, Hsm.out.2.2]
                    rw [if_neg (by simp), if_pos ⟨rfl, hae⟩, hK1]
                    exact hK2)
                  have HB1 := Lib.hid (fun W' h1 h2 => by have h := become_at9 dz HDir B Ar A1 nr cr i c1 rs K ah W' h1 h2 hNr a Hab.out.1; rw [hK1] at h; exact h)
                  have HB2 := Lib.hid (fun W' h1 h2 => by have h := become_at9 dz HDir B Ar A1 nr cr i c1 rs K1 ah W' h1 h2 hNr b Hab.out.2.2; rw [hK2] at h; exact h)
                  clear hK1 hK2
                  go_wp2_with fail
                  refine (HB1.out _ (HrB.out _ HR4.out.2.2.1) HR4.out.1).mono ?_
                  rintro _ w5 ⟨rfl, o5, g5⟩
                  have HR5 := Lib.hid (show w5.ownsRow B 33 1 (.slice A1 i c1) i (i8s K1) ∧ w5.ownsRow B 29 2 (.slice (some ⟨g, 0, none⟩) m cp) m (prC ps) ∧ Below B w w5 ∧ B ≤ w5.heap.size from ⟨o5, own_other2 HR4.out.2.1 HR4.out.1 (by decide) g5, HR4.out.2.2.1.grown g5 HR4.out.2.2.2 (fun k hk => (HR4.out.1.lt k hk).1), Nat.le_trans HR4.out.2.2.2 g5.size⟩)
                  clear o5 g5 HR4
                  have hc5 : w5.cell? ⟨g, q * 2 + 1, none⟩ = some (.int .i64 (b : Int)) := by rw [HR5.out.2.1.cellAt _ (by omega)]; exact Hpc.out.2
                  go_wp2_with fail
                  refine (HB2.out _ (HrB.out _ HR5.out.2.2.1) HR5.out.1).mono ?_
                  rintro _ w6 ⟨rfl, o6, g6⟩
                  have HIn := Lib.hid (res2_step HV.out Hpq.out (by rw [HK.out]; exact HF.out) o6 (own_other2 HR5.out.2.1 HR5.out.1 (by decide) g6) (HR5.out.2.2.1.grown g6 HR5.out.2.2.2 (fun k hk => (HR5.out.1.lt k hk).1)) (Nat.le_trans HR5.out.2.2.2 g6.size))
                  clear o6 g6 HR5 HF HB1 HB2 hc5
                  go_wp2_with fail
                  go_roundw
                  case rel => exact ⟨q + 1, _, rfl, by first | rfl | go_num, hlt, HIn⟩
                  case measure => simp [RowKit.intOf]; omega
            · obtain ⟨K1, hK1⟩ : ∃ K1, becZ (fun r => dz r == 8) (rs.take i) K a 1 = K1 := ⟨_, rfl⟩
              obtain ⟨K2, hK2⟩ : ∃ K2, becZ (fun r => dz r == 8) (rs.take i) K1 b 1 = K2 := ⟨_, rfl⟩
              have HF := Lib.hid (show pairZ9 (fun r => dz r == 8) (rs.take i) 1 (sidZ sos) K (a, b) = K2 by
                unfold pairZ9
                simp only
                rw [Hsm.out.1, Hsm.out.2.1, Hsm.out.2.2]
                rw [if_neg (by simp), if_neg (by simp), hK1]
                exact hK2)
              have HB1 := Lib.hid (fun W' h1 h2 => by have h := become_at9 dz HDir B Ar A1 nr cr i c1 rs K 1 W' h1 h2 hNr a Hab.out.1; rw [hK1] at h; exact h)
              have HB2 := Lib.hid (fun W' h1 h2 => by have h := become_at9 dz HDir B Ar A1 nr cr i c1 rs K1 1 W' h1 h2 hNr b Hab.out.2.2; rw [hK2] at h; exact h)
              clear hK1 hK2
              go_wp2_with fail
              refine (HB1.out _ (HrB.out _ HR4.out.2.2.1) HR4.out.1).mono ?_
              rintro _ w5 ⟨rfl, o5, g5⟩
              have HR5 := Lib.hid (show w5.ownsRow B 33 1 (.slice A1 i c1) i (i8s K1) ∧ w5.ownsRow B 29 2 (.slice (some ⟨g, 0, none⟩) m cp) m (prC ps) ∧ Below B w w5 ∧ B ≤ w5.heap.size from ⟨o5, own_other2 HR4.out.2.1 HR4.out.1 (by decide) g5, HR4.out.2.2.1.grown g5 HR4.out.2.2.2 (fun k hk => (HR4.out.1.lt k hk).1), Nat.le_trans HR4.out.2.2.2 g5.size⟩)
              clear o5 g5 HR4
              have hc5 : w5.cell? ⟨g, q * 2 + 1, none⟩ = some (.int .i64 (b : Int)) := by rw [HR5.out.2.1.cellAt _ (by omega)]; exact Hpc.out.2
              go_wp2_with fail
              refine (HB2.out _ (HrB.out _ HR5.out.2.2.1) HR5.out.1).mono ?_
              rintro _ w6 ⟨rfl, o6, g6⟩
              have HIn := Lib.hid (res2_step HV.out Hpq.out (by rw [HK.out]; exact HF.out) o6 (own_other2 HR5.out.2.1 HR5.out.1 (by decide) g6) (HR5.out.2.2.1.grown g6 HR5.out.2.2.2 (fun k hk => (HR5.out.1.lt k hk).1)) (Nat.le_trans HR5.out.2.2.2 g6.size))
              clear o6 g6 HR5 HF HB1 HB2 hc5
              go_wp2_with fail
              go_roundw
              case rel => exact ⟨q + 1, _, rfl, by first | rfl | go_num, hlt, HIn⟩
              case measure => simp [RowKit.intOf]; omega
          · obtain rfl : q = m := by omega
            have hqq : ¬ (q : Int) < (q : Int) := by omega
            have hF := HV.out.1
            rw [← Hml.out, List.take_length] at hF
            obtain ⟨K, hK⟩ : ∃ K, ps.foldl (pairZ9 (fun r => dz r == 8) (rs.take i) 1 (sidZ sos)) L0 = K := ⟨_, rfl⟩
            rw [hK] at hF
            have HK9 := Lib.hid hK
            have hwl := HV.out.2.2
            have Hown := Lib.hid (show V.ownsRow B 33 1 (.slice A1 i c1) i (i8s K) ∧ Below B w V ∧ B ≤ V.heap.size from ⟨hF, hwl⟩)
            have HRs := Lib.hid (rest_any9 A1 i c1 K 1 (sidZ sos) (sidZ eos) V (RdK.own hF) (by omega) (fun h => by
              rcases hF.2 with ⟨h1, _⟩ | ⟨_, _, _, h1, _⟩
              · injection h1
              · injection h1 with h1; rw [h1] at h; cases h))
            clear hF hwl hK HV
            go_wp2_with fail
            refine (side9_any _ _).mono ?_
            rintro _ w3 ⟨rfl, h3⟩
            obtain rfl := h3.symm
            go_wp2_with fail
            refine (side9_any _ _).mono ?_
            rintro _ w4 ⟨rfl, h4⟩
            obtain rfl := h4.symm
            go_wp2_with fail
            refine (HRs.out).mono ?_
            rintro _ w5 ⟨A5, c5, rfl, o5, b5⟩
            have HE := Lib.hid (show w5.ownsRow B 33 1 (.slice A5 i c5) i (i8s (rstZ 1 (sidZ eos) (sidZ sos) 0 K)) ∧ Below B w w5 from ⟨own_base o5 Hown.out.2.2, Hown.out.2.1.trans (b5.mono Hown.out.2.2)⟩)
            clear o5 b5 HRs Hown
            go_wp2_with fail
            go_ret
            have h := HE.out
            rw [← HK9.out] at h
            exact ⟨_, _, rfl, h⟩
      · obtain rfl : e = 0 := by rw [← He.out]; unfold lvlZ; rw [if_neg hlv]
        have hlb : (lv.tmod 2 == 1) = false := by simpa using hlv
        clear hlv He
        go_wp2_with fail
        refine (HBk.out).mono ?_
        rintro _ w8 ⟨Ap, cp, rfl, hp8, hb8⟩
        have H2 := Lib.hid (show Res2 w B i m 0 A1 Ap c1 cp (pairZ9 (fun r => dz r == 8) (rs.take i) 0 (sidZ sos)) L0 ps w8 from ⟨own_below HL0i.out hb8, own_base hp8 HWb.out.2, HWb.out.1.trans (hb8.mono HWb.out.2), Nat.le_trans HWb.out.2 hb8.size⟩)
        clear hp8 hb8 HBk HL0i HWb
        go_wp2_with fail
        go_loopw [17] (fun x wr => ∃ (q : Nat) (V : World), V = wr ∧ x = .int .i64 (q : Int) ∧ q ≤ m ∧ Hid (Res2 w B i m q A1 Ap c1 cp (pairZ9 (fun r => dz r == 8) (rs.take i) 0 (sidZ sos)) L0 ps V)) (fun x _ => m - (RowKit.intOf x).toNat)
        case atStart => exact ⟨0, _, rfl, rfl, Nat.zero_le _, H2⟩
        case round =>
          obtain ⟨q, V, hV, rfl, hqm, HV⟩ := hrel
          subst hV
          rcases Nat.lt_or_ge q m with hlt | hge
          · obtain ⟨⟨a, b⟩, hpq⟩ : ∃ p, ps[q]? = some p := ⟨_, List.getElem?_eq_getElem (by have := Hml.out; omega)⟩
            obtain ⟨hab, hbi⟩ := HpB.out q (a, b) hpq
            simp only at hab hbi
            obtain ⟨g, cap, hv1, _, _⟩ := HV.out.2.1.form (by omega)
            injection hv1 with hA _ hcc
            subst hA
            subst hcc
            obtain ⟨K, hK⟩ : ∃ K, (ps.take q).foldl (pairZ9 (fun r => dz r == 8) (rs.take i) 0 (sidZ sos)) L0 = K := ⟨_, rfl⟩
            have HK := Lib.hid hK
            have HR := Lib.hid (show V.ownsRow B 33 1 (.slice A1 i c1) i (i8s K) ∧ V.ownsRow B 29 2 (.slice (some ⟨g, 0, none⟩) m cp) m (prC ps) ∧ Below B w V ∧ B ≤ V.heap.size by have h := HV.out; unfold Res2 at h; rw [hK] at h; exact h)
            have Hpc := Lib.hid (prC_get hpq)
            have hpl : (prC ps).length = m * 2 := by rw [prC_len, Hml.out]
            have hc0 : V.cell? ⟨g, q * 2, none⟩ = some (.int .i64 (a : Int)) := by rw [HR.out.2.1.cellAt _ (by omega)]; exact Hpc.out.1
            have hc1 : V.cell? ⟨g, q * 2 + 1, none⟩ = some (.int .i64 (b : Int)) := by rw [HR.out.2.1.cellAt _ (by omega)]; exact Hpc.out.2
            have hc0D : V.drew.cell? ⟨g, q * 2, none⟩ = some (.int .i64 (a : Int)) := hc0
            have hc1D : V.drew.cell? ⟨g, q * 2 + 1, none⟩ = some (.int .i64 (b : Int)) := hc1
            obtain ⟨sm, hsm⟩ : ∃ sm, sameZ 0 ((K.drop (a + 1)).take (b - (a + 1))) = sm := ⟨_, rfl⟩
            obtain ⟨ot, hot⟩ : ∃ ot, otherZ 0 ((K.drop (a + 1)).take (b - (a + 1))) = ot := ⟨_, rfl⟩
            obtain ⟨ah, hah⟩ : ∃ ah, aheadZ (sidZ sos) (K.take a) = ah := ⟨_, rfl⟩
            have HWt := Lib.hid (fun W' h => by have h9 := within_at9 A1 i c1 K a b 0 (sidZ sos) W' h hab hbi (by omega); rw [hsm, hot, hah] at h9; exact h9)
            have Hsm := Lib.hid (show _ ∧ _ ∧ _ from ⟨hsm, hot, hah⟩)
            have Hpq := Lib.hid hpq
            have Hab := Lib.hid (show a < i ∧ a < b ∧ b < i from ⟨Nat.lt_trans hab hbi, hab, hbi⟩)
            have HrB := Lib.hid (show ∀ W', Below B w W' → Rd W' B 1 Ar nr (i32s rs) from fun W' hb => by
              have h : Rd w w.heap.size 1 Ar nr (i32s rs) := Hr.out
              rw [HB.out] at h
              exact h.below hb)
            have hqmi : (q : Int) < (m : Int) := by omega
            have hnext : IntKind.i64.wrap ((q : Int) + 1) = (q : Int) + 1 := IntWalk.i64_in _ (by have h := own_caps HR.out.2.1; unfold maxLen at h; omega)
            have HRD := Lib.hid (show RdK V.drew A1 i K from RdK.own (show V.drew.ownsRow B 33 1 (.slice A1 i c1) i (i8s K) from HR.out.1))
            have hplc := Lib.hid hpl
            have hgl : g < V.drew.heap.size := (HR.out.2.1.lt g rfl).2
            clear hK hpq hsm hot hah hc0 hc1 hab hbi
            go_wp2_with fail
            go_region_held3 (fun W' => W'.cell? ⟨g, q * 2, none⟩ = some (.int .i64 (a : Int)) ∧ W'.cell? ⟨g, q * 2 + 1, none⟩ = some (.int .i64 (b : Int))) (first | exact ⟨hc0D, hc1D⟩ | exact ⟨(b4.cell (p := ⟨g, q * 2, none⟩) hgl).trans hc0D, (b4.cell (p := ⟨g, q * 2 + 1, none⟩) hgl).trans hc1D⟩) (first | (go_simp; first
              | (go_at_call 34; refine (side9_any _ _).mono ?_; rintro e3 w3 ⟨rfl, h3⟩; obtain rfl := h3.symm)
              | (go_at_call 33; refine (HWt.out _ HRD.out).mono ?_; rintro e4 w4 ⟨rfl, b4⟩)))
            have hbV : Below V.heap.size V w4 := (Below.drew (Below.refl _ V)).trans b4
            have HR4 := Lib.hid (show w4.ownsRow B 33 1 (.slice A1 i c1) i (i8s K) ∧ w4.ownsRow B 29 2 (.slice (some ⟨g, 0, none⟩) m cp) m (prC ps) ∧ Below B w w4 ∧ B ≤ w4.heap.size from ⟨own_below HR.out.1 hbV, own_below HR.out.2.1 hbV, HR.out.2.2.1.trans (hbV.mono HR.out.2.2.2), Nat.le_trans HR.out.2.2.2 hbV.size⟩)
            have hc4 : w4.cell? ⟨g, q * 2, none⟩ = some (.int .i64 (a : Int)) := (b4.cell (p := ⟨g, q * 2, none⟩) hgl).trans hc0D
            clear b4 hbV hgl hc0D hc1D HWt HRD
            rcases sm with _ | _
            · rcases ot with _ | _
              · have HIn := Lib.hid (res2_step HV.out Hpq.out (show pairZ9 (fun r => dz r == 8) (rs.take i) 0 (sidZ sos) _ (a, b) = K by
                  rw [HK.out]
                  unfold pairZ9
                  simp only
                  rw [Hsm.out.1, Hsm.out.2.1, if_pos ⟨rfl, rfl⟩]) HR4.out.1 HR4.out.2.1 HR4.out.2.2.1 HR4.out.2.2.2)
                clear HR4 hc4
                go_wp2_with fail
                go_roundw
                case rel => exact ⟨q + 1, _, rfl, by first | rfl | go_num, hlt, HIn⟩
                case measure => simp [RowKit.intOf]; omega
              · by_cases hae : ah = 0
                · have hab2 : (ah != 0) = false := by simp [hae]
                  obtain ⟨K1, hK1⟩ : ∃ K1, becZ (fun r => dz r == 8) (rs.take i) K a 0 = K1 := ⟨_, rfl⟩
                  obtain ⟨K2, hK2⟩ : ∃ K2, becZ (fun r => dz r == 8) (rs.take i) K1 b 0 = K2 := ⟨_, rfl⟩
                  have HF := Lib.hid (show pairZ9 (fun r => dz r == 8) (rs.take i) 0 (sidZ sos) K (a, b) = K2 by
                    unfold pairZ9
                    simp only
                    rw [Hsm.out.1, Hsm.out.2.1, Hsm.out.2.2]
                    rw [if_neg (by simp), if_neg (by simp [hae]), hK1]
                    exact hK2)
                  have HB1 := Lib.hid (fun W' h1 h2 => by have h := become_at9 dz HDir B Ar A1 nr cr i c1 rs K 0 W' h1 h2 hNr a Hab.out.1; rw [hK1] at h; exact h)
                  have HB2 := Lib.hid (fun W' h1 h2 => by have h := become_at9 dz HDir B Ar A1 nr cr i c1 rs K1 0 W' h1 h2 hNr b Hab.out.2.2; rw [hK2] at h; exact h)
                  clear hK1 hK2
                  go_wp2_with fail
                  refine (HB1.out _ (HrB.out _ HR4.out.2.2.1) HR4.out.1).mono ?_
                  rintro _ w5 ⟨rfl, o5, g5⟩
                  have HR5 := Lib.hid (show w5.ownsRow B 33 1 (.slice A1 i c1) i (i8s K1) ∧ w5.ownsRow B 29 2 (.slice (some ⟨g, 0, none⟩) m cp) m (prC ps) ∧ Below B w w5 ∧ B ≤ w5.heap.size from ⟨o5, own_other2 HR4.out.2.1 HR4.out.1 (by decide) g5, HR4.out.2.2.1.grown g5 HR4.out.2.2.2 (fun k hk => (HR4.out.1.lt k hk).1), Nat.le_trans HR4.out.2.2.2 g5.size⟩)
                  clear o5 g5 HR4
                  have hc5 : w5.cell? ⟨g, q * 2 + 1, none⟩ = some (.int .i64 (b : Int)) := by rw [HR5.out.2.1.cellAt _ (by omega)]; exact Hpc.out.2
                  go_wp2_with fail
                  refine (HB2.out _ (HrB.out _ HR5.out.2.2.1) HR5.out.1).mono ?_
                  rintro _ w6 ⟨rfl, o6, g6⟩
                  have HIn := Lib.hid (res2_step HV.out Hpq.out (by rw [HK.out]; exact HF.out) o6 (own_other2 HR5.out.2.1 HR5.out.1 (by decide) g6) (HR5.out.2.2.1.grown g6 HR5.out.2.2.2 (fun k hk => (HR5.out.1.lt k hk).1)) (Nat.le_trans HR5.out.2.2.2 g6.size))
                  clear o6 g6 HR5 HF HB1 HB2 hc5
                  go_wp2_with fail
                  go_roundw
                  case rel => exact ⟨q + 1, _, rfl, by first | rfl | go_num, hlt, HIn⟩
                  case measure => simp [RowKit.intOf]; omega
                · have hab2 : (ah != 0) = true := by simp [hae]
                  obtain ⟨K1, hK1⟩ : ∃ K1, becZ (fun r => dz r == 8) (rs.take i) K a ah = K1 := ⟨_, rfl⟩
                  obtain ⟨K2, hK2⟩ : ∃ K2, becZ (fun r => dz r == 8) (rs.take i) K1 b ah = K2 := ⟨_, rfl⟩
                  have HF := Lib.hid (show pairZ9 (fun r => dz r == 8) (rs.take i) 0 (sidZ sos) K (a, b) = K2 by
                    unfold pairZ9
                    simp only
                    rw [Hsm.out.1, Hsm.out.2.1, Hsm.out.2.2]
                    rw [if_neg (by simp), if_pos ⟨rfl, hae⟩, hK1]
                    exact hK2)
                  have HB1 := Lib.hid (fun W' h1 h2 => by have h := become_at9 dz HDir B Ar A1 nr cr i c1 rs K ah W' h1 h2 hNr a Hab.out.1; rw [hK1] at h; exact h)
                  have HB2 := Lib.hid (fun W' h1 h2 => by have h := become_at9 dz HDir B Ar A1 nr cr i c1 rs K1 ah W' h1 h2 hNr b Hab.out.2.2; rw [hK2] at h; exact h)
                  clear hK1 hK2
                  go_wp2_with fail
                  refine (HB1.out _ (HrB.out _ HR4.out.2.2.1) HR4.out.1).mono ?_
                  rintro _ w5 ⟨rfl, o5, g5⟩
                  have HR5 := Lib.hid (show w5.ownsRow B 33 1 (.slice A1 i c1) i (i8s K1) ∧ w5.ownsRow B 29 2 (.slice (some ⟨g, 0, none⟩) m cp) m (prC ps) ∧ Below B w w5 ∧ B ≤ w5.heap.size from ⟨o5, own_other2 HR4.out.2.1 HR4.out.1 (by decide) g5, HR4.out.2.2.1.grown g5 HR4.out.2.2.2 (fun k hk => (HR4.out.1.lt k hk).1), Nat.le_trans HR4.out.2.2.2 g5.size⟩)
                  clear o5 g5 HR4
                  have hc5 : w5.cell? ⟨g, q * 2 + 1, none⟩ = some (.int .i64 (b : Int)) := by rw [HR5.out.2.1.cellAt _ (by omega)]; exact Hpc.out.2
                  go_wp2_with fail
                  refine (HB2.out _ (HrB.out _ HR5.out.2.2.1) HR5.out.1).mono ?_
                  rintro _ w6 ⟨rfl, o6, g6⟩
                  have HIn := Lib.hid (res2_step HV.out Hpq.out (by rw [HK.out]; exact HF.out) o6 (own_other2 HR5.out.2.1 HR5.out.1 (by decide) g6) (HR5.out.2.2.1.grown g6 HR5.out.2.2.2 (fun k hk => (HR5.out.1.lt k hk).1)) (Nat.le_trans HR5.out.2.2.2 g6.size))
                  clear o6 g6 HR5 HF HB1 HB2 hc5
                  go_wp2_with fail
                  go_roundw
                  case rel => exact ⟨q + 1, _, rfl, by first | rfl | go_num, hlt, HIn⟩
                  case measure => simp [RowKit.intOf]; omega
            · obtain ⟨K1, hK1⟩ : ∃ K1, becZ (fun r => dz r == 8) (rs.take i) K a 0 = K1 := ⟨_, rfl⟩
              obtain ⟨K2, hK2⟩ : ∃ K2, becZ (fun r => dz r == 8) (rs.take i) K1 b 0 = K2 := ⟨_, rfl⟩
              have HF := Lib.hid (show pairZ9 (fun r => dz r == 8) (rs.take i) 0 (sidZ sos) K (a, b) = K2 by
                unfold pairZ9
                simp only
                rw [Hsm.out.1, Hsm.out.2.1, Hsm.out.2.2]
                rw [if_neg (by simp), if_neg (by simp), hK1]
                exact hK2)
              have HB1 := Lib.hid (fun W' h1 h2 => by have h := become_at9 dz HDir B Ar A1 nr cr i c1 rs K 0 W' h1 h2 hNr a Hab.out.1; rw [hK1] at h; exact h)
              have HB2 := Lib.hid (fun W' h1 h2 => by have h := become_at9 dz HDir B Ar A1 nr cr i c1 rs K1 0 W' h1 h2 hNr b Hab.out.2.2; rw [hK2] at h; exact h)
              clear hK1 hK2
              go_wp2_with fail
              refine (HB1.out _ (HrB.out _ HR4.out.2.2.1) HR4.out.1).mono ?_
              rintro _ w5 ⟨rfl, o5, g5⟩
              have HR5 := Lib.hid (show w5.ownsRow B 33 1 (.slice A1 i c1) i (i8s K1) ∧ w5.ownsRow B 29 2 (.slice (some ⟨g, 0, none⟩) m cp) m (prC ps) ∧ Below B w w5 ∧ B ≤ w5.heap.size from ⟨o5, own_other2 HR4.out.2.1 HR4.out.1 (by decide) g5, HR4.out.2.2.1.grown g5 HR4.out.2.2.2 (fun k hk => (HR4.out.1.lt k hk).1), Nat.le_trans HR4.out.2.2.2 g5.size⟩)
              clear o5 g5 HR4
              have hc5 : w5.cell? ⟨g, q * 2 + 1, none⟩ = some (.int .i64 (b : Int)) := by rw [HR5.out.2.1.cellAt _ (by omega)]; exact Hpc.out.2
              go_wp2_with fail
              refine (HB2.out _ (HrB.out _ HR5.out.2.2.1) HR5.out.1).mono ?_
              rintro _ w6 ⟨rfl, o6, g6⟩
              have HIn := Lib.hid (res2_step HV.out Hpq.out (by rw [HK.out]; exact HF.out) o6 (own_other2 HR5.out.2.1 HR5.out.1 (by decide) g6) (HR5.out.2.2.1.grown g6 HR5.out.2.2.2 (fun k hk => (HR5.out.1.lt k hk).1)) (Nat.le_trans HR5.out.2.2.2 g6.size))
              clear o6 g6 HR5 HF HB1 HB2 hc5
              go_wp2_with fail
              go_roundw
              case rel => exact ⟨q + 1, _, rfl, by first | rfl | go_num, hlt, HIn⟩
              case measure => simp [RowKit.intOf]; omega
          · obtain rfl : q = m := by omega
            have hqq : ¬ (q : Int) < (q : Int) := by omega
            have hF := HV.out.1
            rw [← Hml.out, List.take_length] at hF
            obtain ⟨K, hK⟩ : ∃ K, ps.foldl (pairZ9 (fun r => dz r == 8) (rs.take i) 0 (sidZ sos)) L0 = K := ⟨_, rfl⟩
            rw [hK] at hF
            have HK9 := Lib.hid hK
            have hwl := HV.out.2.2
            have Hown := Lib.hid (show V.ownsRow B 33 1 (.slice A1 i c1) i (i8s K) ∧ Below B w V ∧ B ≤ V.heap.size from ⟨hF, hwl⟩)
            have HRs := Lib.hid (rest_any9 A1 i c1 K 0 (sidZ sos) (sidZ eos) V (RdK.own hF) (by omega) (fun h => by
              rcases hF.2 with ⟨h1, _⟩ | ⟨_, _, _, h1, _⟩
              · injection h1
              · injection h1 with h1; rw [h1] at h; cases h))
            clear hF hwl hK HV
            go_wp2_with fail
            refine (side9_any _ _).mono ?_
            rintro _ w3 ⟨rfl, h3⟩
            obtain rfl := h3.symm
            go_wp2_with fail
            refine (side9_any _ _).mono ?_
            rintro _ w4 ⟨rfl, h4⟩
            obtain rfl := h4.symm
            go_wp2_with fail
            refine (HRs.out).mono ?_
            rintro _ w5 ⟨A5, c5, rfl, o5, b5⟩
            have HE := Lib.hid (show w5.ownsRow B 33 1 (.slice A5 i c5) i (i8s (rstZ 0 (sidZ eos) (sidZ sos) 0 K)) ∧ Below B w w5 from ⟨own_base o5 Hown.out.2.2, Hown.out.2.1.trans (b5.mono Hown.out.2.2)⟩)
            clear o5 b5 HRs Hown
            go_wp2_with fail
            go_ret
            have h := HE.out
            rw [← HK9.out] at h
            exact ⟨_, _, rfl, h⟩
end Go.Proofs.Ytkcckophnamajaa
