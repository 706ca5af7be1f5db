/- Layer 13, the program: the neighbourhoods of a text's clusters: the iterator's contract. -/
import Derived.Test.YthkapcnhfdpdbaaDoorNbRu
import Derived.Test.YthkapcnhfdpdbaaDoorClAll
import Derived.Test.YthkapcnhfdpdbaaDoorPcsC
import Derived.Scope
import Derived.Laws.EntriesVeiled
import Derived.Test.YthkapcnhfdpdbaaDoorBrG
import Derived.Test.YthkapcnhfdpdbaaDoorBrkG
set_option linter.unusedSimpArgs false
set_option linter.unusedVariables false
namespace Go.Proofs.YthkapcnhfdpdbaaDoor
open Go.RowKit Go.Shelf Go.Lib
attribute [local go_sem] Oper.semAt_some

theorem nb_mk (s : ByteArray) (w : World) : Calls Tryd.prog 33 #[.string s] w fun e w' =>
    e = .returned (.func (.func 58) #[] #[.pointer (some ⟨w.heap.size, 0, none⟩)]) ∧ w' = w.alloc (.cells #[.string s] 9) := by
  go_enter Tryd.func33, Tryd.ntmps33
  go_wp2
  go_ret
  exact ⟨rfl, rfl⟩
abbrev encNb (x : Nat × Nb) : Array Value := #[.int .i64 (x.1 : Int), nbV x.2.1 x.2.2.1 x.2.2.2]
theorem boxed_oth {W : World} {B B' : Nat} {t : TypeId} {v : Value} (h : Boxed W B t v) (hne : B ≠ B') (i : Nat) (u : Value) : Boxed (W.setCell ⟨B', i, none⟩ u) B t v := (heap_setCell_other W ⟨B', i, none⟩ B u hne).trans h
theorem moves_set (T : Bl) (W : World) (B i : Nat) (v : Value) (hB : T B) : Moves T W (W.setCell ⟨B, i, none⟩ v) := ⟨rfl, rfl, rfl, by simp, fun k _ hk => Below.heap_setCell _ _ _ k (fun e => hk (by have e : k = B := e; exact e ▸ hB))⟩
/-- what holds between rounds: j clusters are gone over -/
structure NbI (s : ByteArray) (l B Bn S : Nat) (J : List (Nat × Nb) → Bl → World → Prop) (j : Nat) (T : Bl) (W : World) : Prop where
  yl : Boxed W B 83 (.func (.yield l) #[] #[])
  cm : W.cell? ⟨Bn, 0, none⟩ = some (.string s)
  u8 : Utf8Tabs 0 1 W
  sz : S ≤ W.heap.size
  nb : NbB W (B + 1) (stN (rawsN s) j).1 (stN (rawsN s) j).2.1 (stN (rawsN s) j).2.2
  jj : J ((nbsN s).take (j - 1)) (fun k => (B ≤ k ∧ k < B + 3) ∨ T k) W
theorem pcs_fst {s : ByteArray} {x : Nat × ByteArray} (h : (pcs s)[0]? = some x) : x.1 = 0 := (pcs_chain s 0 x h).1
theorem pcs_nxt {s : ByteArray} {i : Nat} {x y : Nat × ByteArray} (h : (pcs s)[i]? = some x) (h' : (pcs s)[i + 1]? = some y) : x.1 + x.2.size = y.1 := by
  have h1 := (pcs_chain s i x h).1
  have h2 := (pcs_chain s (i + 1) y h').1
  rw [take_snoc _ _ _ h, sumB_snoc] at h2
  omega
theorem pcs_lst {s : ByteArray} {i : Nat} {x : Nat × ByteArray} (h : (pcs s)[i]? = some x) (hl : i + 1 = (pcs s).length) : x.1 + x.2.size = s.size := by
  have h1 := (pcs_chain s i x h).1
  have h3 := pcs_sum s
  rw [← List.take_length (l := pcs s), ← hl, take_snoc _ _ _ h, sumB_snoc] at h3
  omega
theorem raw_get {s : ByteArray} {i : Nat} {x : Nat × ByteArray} (h : (pcs s)[i]? = some x) : (rawsN s).getD i 0 = rawN x.2 := by
  unfold rawsN
  rw [List.getD_eq_getElem?_getD, List.getElem?_map, h]
  rfl
/-- the neighbourhood that a round tells of: of the cluster ahead -/
theorem nbAt_prev {s : ByteArray} {j : Nat} {y : Nat × ByteArray} (h : (pcs s)[j + 1]? = some y) : nbAt s j = (y.1, stN (rawsN s) (j + 1 + 1)) := by
  have hl := (List.getElem?_eq_some_iff.1 h).1
  obtain ⟨x, hx⟩ : ∃ x, (pcs s)[j]? = some x := ⟨_, List.getElem?_eq_getElem (by omega)⟩
  unfold nbAt nxtC
  rw [if_pos (by rw [raws_len]; omega)]
  unfold endAt
  rw [hx]
  show (x.1 + x.2.size, _) = _
  rw [pcs_nxt hx h]
  rfl
/-- and the last one -/
theorem nbAt_last {s : ByteArray} {j : Nat} (h : j + 1 = (pcs s).length) : nbAt s j = (s.size, onwN (stN (rawsN s) (j + 1)) (-1)) := by
  obtain ⟨x, hx⟩ : ∃ x, (pcs s)[j]? = some x := ⟨_, List.getElem?_eq_getElem (by omega)⟩
  unfold nbAt nxtC
  rw [if_neg (by rw [raws_len]; omega)]
  unfold endAt
  rw [hx]
  show (x.1 + x.2.size, _) = _
  rw [pcs_lst hx h]
set_option maxRecDepth 100000 in
set_option maxHeartbeats 4000000 in
theorem seqNb (n : Nat) (hn : 5 ≤ n) (Bn : Nat) (N₀ : Bl) (s : ByteArray) (w : World) (hBn : N₀ Bn) (hN0 : N₀ 0) (hN1 : N₀ 1)
    (hcs : w.cell? ⟨Bn, 0, none⟩ = some (.string s)) (hs : s.size ≤ 140737488351232) (hT : Utf8Tabs 0 1 w) :
    SeqN Fence.wide n Tryd.prog 58 #[.pointer (some ⟨Bn, 0, none⟩)] encNb (fun ys => ys = nbsN s) (fun pre => pre <+: nbsN s) (nbsN s).length N₀ w := by
  intro l J Jx W hW hJ hJx hY h0
  have hcW : W.cell? ⟨Bn, 0, none⟩ = some (.string s) := (hW.cell (p := ⟨Bn, 0, none⟩) (cell_ltN hcs)).trans hcs
  have hTW : Utf8Tabs 0 1 W := Utf8Tabs_below hT hW
  have h2 := tabs_size hTW
  obtain ⟨B, hB⟩ : ∃ B, W.heap.size = B := ⟨_, rfl⟩
  have hBnB : Bn < B := by rw [← hB]; exact cell_ltN hcW
  rw [hB] at hJ hJx hY h2 ⊢
  have Hy := Lib.hid hY
  have HTW := Lib.hid hTW
  have Ham := Lib.hid (fun W => cl_mk s W)
  have HPc := Lib.hid (fun c W hT => pclass13_any c W hT)
  have HPo := Lib.hid (fun a b p v W => onward13_any a b p v W)
  clear hcs hW hT hY hTW
  obtain ⟨W3, hW3⟩ : ∃ W3, (W.alloc (.cells #[.func (.yield l) #[] #[]] 83)).alloc (.cells #[.int .i8 (-1), .int .i8 (-1), .int .i8 (-1)] 67) = W3 := ⟨_, rfl⟩
  have d0 : Boxed W3 B 83 (.func (.yield l) #[] #[]) := by
    rw [← hW3]
    have h := Boxed.new W 83 (.func (.yield l) #[] #[])
    rw [hB] at h
    exact h.alloc _
  have d1 : NbB W3 (B + 1) (-1) (-1) (-1) := by
    rw [← hW3]
    have h := NbB.new (W.alloc (.cells #[.func (.yield l) #[] #[]] 83)) (-1) (-1) (-1)
    rw [World.size_alloc, hB] at h
    exact h
  have z3 : W3.heap.size = B + 2 := by rw [← hW3]; simp [hB]
  have r3 : Below B W W3 := by
    rw [← hW3]
    exact ((Below.refl B W).alloc (by omega) _).alloc (by simp; omega) _
  have m3 : W3.cell? ⟨Bn, 0, none⟩ = some (.string s) := (r3.cell (p := ⟨Bn, 0, none⟩) hBnB).trans hcW
  have dc0 := d1.c0
  have dc1 := d1.c1
  have dc2 := d1.c2
  refine callsIn_of_wp_marks Tryd.func58 rfl trivial ?_ rfl
  refine wpIn_wide.2 ?_
  simp only [Tryd.ntmps58, List.size_toArray, List.length_cons, List.length_nil, Nat.reduceAdd, Nat.reduceSub, Array.replicate_succ, Array.replicate_zero, List.push_toArray, List.append_toArray, List.nil_append, List.cons_append]
  go_wp2_with fail
  refine (Ham.out _).mono ?_
  rintro _ Wa ⟨rfl, hWa⟩
  have b0 : Boxed Wa B 83 (.func (.yield l) #[] #[]) := by rw [hWa]; exact d0.alloc _
  have b1 : NbB Wa (B + 1) (-1) (-1) (-1) := by rw [hWa]; exact d1.alloc _
  have hsz : Wa.heap.size = B + 3 := by rw [hWa, World.size_alloc, z3]
  have b2 : Boxed Wa (B + 1 + 1) 9 (.string s) := by
    have h := Boxed.new W3 9 (.string s)
    rw [z3, ← hWa] at h
    exact h
  have hBa : Below B W Wa := by rw [hWa]; exact r3.alloc (by omega) _
  rw [z3]
  clear hW3 d0 d1 dc0 dc1 dc2 r3 z3 m3
  have hca : Wa.cell? ⟨Bn, 0, none⟩ = some (.string s) := (hBa.cell (p := ⟨Bn, 0, none⟩) hBnB).trans hcW
  have hTa : Utf8Tabs 0 1 Wa := Utf8Tabs_below HTW.out (by rw [hB]; exact hBa)
  have hJa : J [] (fun k => B ≤ k ∧ k < B + 3) Wa := hJ _ _ _ _ _ h0 (fun _ h => h.elim) (.of_below _ (by rw [hB]; exact hBa)) ⟨fun _ h => h.elim, fun k hk => .inr (by omega)⟩
  clear hWa
  go_wp2_with fail
  refine (wpIn_wide (n := n)).1 ?_
  refine range_N1 rfl (by omega) (gf := 34) (lb := #[.pointer (some ⟨B + 1 + 1, 0, none⟩)]) rfl trivial (enters_of Tryd.func34 (by kernel_rfl) rfl)
    (seqCl (n - 1) (by omega) (B + 1 + 1) (fun k => (N₀ k ∧ k < B) ∨ k = B + 1 + 1) s Wa (.inr rfl) (.inl ⟨hN0, by omega⟩) (.inl ⟨hN1, by omega⟩) b2.cell hs hTa) (fun k hk => by omega) (fun _ => rfl)
    (fun pre T W' => NbI s l B Bn (B + 3) J pre.length T W')
    (fun c pre T W' => c = .ret ∧ (B + 3) ≤ W'.heap.size ∧ ∃ q, q <+: nbsN s ∧ Jx q (fun k => (B ≤ k ∧ k < B + 3) ∨ T k) W')
    ?hI ?hIx
    ⟨b0, hca, hTa, by omega, b1, by exact hJ _ _ _ _ _ hJa (fun k hk => by omega) (.refl _ _) ⟨fun k hk => .inl hk, fun k hk => .inl (hk.elim id False.elim)⟩⟩
    ?a1 ?assign ?body ?done ?stop
  case assign =>
    intro l x W K hK
    gi_wp2
    exact hK
  case hI =>
    rintro pre T T' A A' h hT hm hg
    have hlow : ∀ k, k < B + 3 → A'.heap[k]? = A.heap[k]? := fun k hk => hm.block k (by have := h.sz; omega) (fun e => by have := (hT _ e).1; omega)
    have hbl : KeepN (fun k => k < B + 3) (fun _ => False) A A' := ⟨hm.size, fun k _ hk => hlow k (hk.elim id False.elim)⟩
    refine ⟨(hlow _ (by omega)).trans h.yl, hbl.cell (p := ⟨Bn, 0, none⟩) (.inl (show Bn < B + 3 by omega)) h.cm, hbl.u8 (.inl (by omega)) (.inl (by omega)) h.u8, Nat.le_trans h.sz hm.size, (hlow _ (by omega)).trans h.nb, ?_⟩
    refine hJ _ _ _ _ _ h.jj (fun k hk => ?_) (hm.mono fun k hk => .inr hk) ⟨fun k hk => hk.imp id (hg.1 k), fun k hk => ?_⟩
    · have := h.sz
      rcases hk with hk | hk
      · omega
      · have := hT k hk; omega
    · rcases hk with hk | hk
      · exact .inl (.inl hk)
      · exact (hg.2 k hk).imp .inr id
  case hIx =>
    rintro cd pre T T' A A' ⟨rfl, hsA, q, hq, h9⟩ hT hm hg
    refine ⟨rfl, Nat.le_trans hsA hm.size, q, hq, hJx _ _ _ _ _ h9 (fun k hk => ?_) (hm.mono fun k hk => .inr hk) ⟨fun k hk => hk.imp id (hg.1 k), fun k hk => ?_⟩⟩
    · rcases hk with hk | hk
      · omega
      · have := hT k hk; omega
    · rcases hk with hk | hk
      · exact .inl (.inl hk)
      · exact (hg.2 k hk).imp .inr id
  case body =>
    rintro l1 pre y T W1 hl1 hT1 hr1 hi hlen hsp
    have hget := prefix_get hsp
    obtain ⟨j, hj⟩ : ∃ j, pre.length = j := ⟨_, rfl⟩
    rw [hj] at hget hi hlen
    have hplen : (pre ++ [y]).length = j + 1 := by simp [hj]
    have hraw := raw_get hget
    have hstn : stN (rawsN s) (j + 1) = onwN (stN (rawsN s) j) (rawN y.2 : Nat) := by rw [← hraw]; rfl
    obtain ⟨v, hv⟩ : ∃ v : Int, ((rawN y.2 : Nat) : Int) = v := ⟨_, rfl⟩
    rw [hv] at hstn
    have hnb := hi.nb
    obtain ⟨st, hst⟩ : ∃ st, stN (rawsN s) j = st := ⟨_, rfl⟩
    rw [hst] at hnb hstn
    obtain ⟨a, b, p⟩ := st
    dsimp only at hnb
    obtain ⟨q, hq⟩ : ∃ q, (if b = 1 then p else b) = q := ⟨_, rfl⟩
    have hstn : stN (rawsN s) (j + 1) = (b, v, q) := by rw [hstn, ← hq]; rfl
    have HPc1 := Lib.hid (fun W hT => HPc.out y.2 W hT)
    rw [hv] at HPc1
    have HPo1 := Lib.hid (fun W => HPo.out a b p v W)
    rw [hq] at HPo1
    have Hi := Lib.hid hi
    clear hi hv hq
    have D := Lib.hid (show NbB W1.drew (B + 1) a b p from hnb)
    have U := Lib.hid (show Utf8Tabs 0 1 W1.drew from Hi.out.u8)
    have c0 : W1.drew.cell? ⟨B + 1, 0, none⟩ = some (.int .i8 a) := hnb.c0
    have c1 : W1.drew.cell? ⟨B + 1, 1, none⟩ = some (.int .i8 b) := hnb.c1
    have c2 : W1.drew.cell? ⟨B + 1, 2, none⟩ = some (.int .i8 p) := hnb.c2
    gi_wp2_with fail
    refine wpIn_mono (Q := fun e a' w' => ∃ t11 t12 t13 t14, e = .normal ∧ a' = { tmps := #[.func (.yield l) #[] #[], .pointer (some ⟨Bn, 0, none⟩), .pointer (some ⟨B, 0, none⟩), .pointer (some ⟨B + 1, 0, none⟩), .int .i64 (y.1 : Int), .string y.2, nbV (-1) (-1) (-1), .string s, .func (.func 34) #[] #[.pointer (some ⟨B + 1 + 1, 0, none⟩)], .int .i64 (y.1 : Int), .string y.2, t11, t12, t13, t14, undef, undef, undef, undef, undef, undef, undef, undef, undef, undef, undef, undef, undef, undef, undef, undef, undef], defers := [] } ∧
      ∃ W8 : World, Below W1.heap.size W1 W8 ∧ w' = ((W8.setCell ⟨B + 1, 0, none⟩ (.int .i8 b)).setCell ⟨B + 1, 1, none⟩ (.int .i8 v)).setCell ⟨B + 1, 2, none⟩ (.int .i8 q)) ?reg ?rest
    case reg =>
      gi_region_with (first
        | (refine ⟨trivial, fun e => ?he, (CallsIn.inRound l1 (callsIn_wide.2 (HPc1.out _ ?hu))).mono ?_⟩
           case he => simp [Fence.wide] at e
           case hu => exact U.out
           rintro _ v1 ⟨rfl, k1⟩
           have D1 := Lib.hid (D.out.below k1)
           have K1 := Lib.hid (show Below W1.heap.size W1 v1 from ((Below.refl _ W1).drew).trans k1)
           have q0 := D1.out.c0
           have q1 := D1.out.c1
           have q2 := D1.out.c2
           clear k1)
        | (refine ⟨trivial, fun e => ?he, (CallsIn.inRound l1 (callsIn_wide.2 (HPo1.out _))).mono ?_⟩
           case he => simp [Fence.wide] at e
           rintro _ v2 ⟨rfl, k2⟩
           have D2 := Lib.hid (D1.out.below k2)
           have K2 := Lib.hid (show Below W1.heap.size W1 v2 from K1.out.trans (k2.mono K1.out.size))
           have p0 := D2.out.c0
           have p1 := D2.out.c1
           have p2 := D2.out.c2
           have g0 := D2.out.f 0
           have g1 := D2.out.f 1
           have g2 := D2.out.f 2
           clear k2)
        | fail "no")
      all_goals exact ⟨_, _, _, _, rfl, rfl, v2, K2.out, rfl⟩
    case rest =>
      rintro _ _ W9 ⟨t11, t12, t13, t14, rfl, rfl, W8, k8, hW9⟩
      have hs9 : W1.heap.size ≤ W9.heap.size := by rw [hW9]; simpa using k8.size
      have m1 : NbB W9 (B + 1) b v q := by rw [hW9]; exact (NbB.below hnb k8).set b v q
      have m0 : Boxed W9 B 83 (.func (.yield l) #[] #[]) := by
        rw [hW9]
        exact boxed_oth (boxed_oth (boxed_oth (boxed_below Hi.out.yl k8) (show B ≠ B + 1 by omega) 0 _) (show B ≠ B + 1 by omega) 1 _) (show B ≠ B + 1 by omega) 2 _
      have hb1N : ¬ ((N₀ (B + 1) ∧ B + 1 < B) ∨ B + 1 = B + 1 + 1) := by omega
      have hb1T : ¬ T (B + 1) := fun e => by have := (hT1 _ e).1; omega
      have hkN : KeepN (fun k => (N₀ k ∧ k < B) ∨ k = B + 1 + 1) T W1 W9 := by
        rw [hW9]
        exact (((KeepN.of_below _ _ k8).trans (KeepN.setCell _ _ _ _ _ _ hb1N hb1T)).trans (KeepN.setCell _ _ _ _ _ _ hb1N hb1T)).trans (KeepN.setCell _ _ _ _ _ _ hb1N hb1T)
      have hmv : Moves (fun k => (B ≤ k ∧ k < B + 3) ∨ T k) W1 W9 := by
        rw [hW9]
        exact (((Moves.of_below _ k8).trans' (moves_set _ _ (B + 1) 0 _ (.inl (by omega)))).trans' (moves_set _ _ (B + 1) 1 _ (.inl (by omega)))).trans' (moves_set _ _ (B + 1) 2 _ (.inl (by omega)))
      clear hW9 k8 D U c0 c1 c2 HPc1 HPo1 hnb hb1N hb1T
      have hin1 : InT B (fun k => (B ≤ k ∧ k < B + 3) ∨ T k) W1 := fun k hk => by
        have := Hi.out.sz
        rcases hk with hk | hk
        · omega
        · have := hT1 k hk; omega
      have hin9 : InT B (fun k => (B ≤ k ∧ k < B + 3) ∨ T k) W9 := hin1.more hmv.size
      have J9 := hJ.of Hi.out.jj hin1 hmv
      have n9 : W9.cell? ⟨Bn, 0, none⟩ = some (.string s) := hkN.cell (p := ⟨Bn, 0, none⟩) (.inl (.inl ⟨hBn, hBnB⟩)) Hi.out.cm
      have u9 := Lib.hid (hkN.u8 (.inl (.inl ⟨hN0, by omega⟩)) (.inl (.inl ⟨hN1, by omega⟩)) Hi.out.u8)
      have s9 : (B + 3) ≤ W9.heap.size := Nat.le_trans Hi.out.sz hs9
      have m0c := m0.cell
      have mc0 := m1.c0
      have mc1 := m1.c1
      have mc2 := m1.c2
      cases j with
      | zero =>
        have hy0 := pcs_fst hget
        have hlt : ¬ ((0 : Int) < (y.1 : Int)) := by omega
        have Hfin : Hid (KeepN (fun k => (N₀ k ∧ k < B) ∨ k = B + 1 + 1) T W1 W9 ∧ NbI s l B Bn (B + 3) J (pre ++ [y]).length T W9) := Lib.hid ⟨hkN, by
          rw [hplen]
          exact ⟨m0, n9, u9.out, s9, by rw [hstn]; exact m1, J9⟩⟩
        clear m0 m1 hkN hmv J9 Hi hin9 hin1 hy0 hst hstn
        try simp only [Exit.then]
        gi_wp2_with fail
        refine ⟨fun f e => (by cases e), ?_⟩
        gi_wp2_with fail
        exact Hfin.out
      | succ j =>
        have hat := nbAt_prev hget
        rw [hstn] at hat
        have hl := (List.getElem?_eq_some_iff.1 hget).1
        have hng := nbs_get s j (by omega)
        rw [hat] at hng
        have htk := take_snoc _ _ _ hng
        have hpfx : (nbsN s).take j ++ [(y.1, (b, v, q))] <+: nbsN s := by rw [← htk]; exact List.take_prefix _ _
        have hlen2 : ((nbsN s).take j).length < (nbsN s).length := by rw [List.length_take, nbs_len]; omega
        obtain ⟨x0, hx0⟩ : ∃ x0, (pcs s)[j]? = some x0 := ⟨_, List.getElem?_eq_getElem (by omega)⟩
        have hx1 := pcs_nxt hx0 hget
        have hx2 := (pcs_chain s j x0 hx0).2.1
        have hlt : (0 : Int) < (y.1 : Int) := by omega
        rw [Nat.add_sub_cancel] at J9
        obtain ⟨fn, tmps, assign, body, hy, hR⟩ := Hy.out ((nbsN s).take j) (y.1, (b, v, q)) _ W9 J9 hin9 hlen2 hpfx
        dsimp only [encNb] at hy
        have hR2 := Lib.hid (roundIn_wide (m' := n - 1 - 1 - 1) (l' := l1) (hR.mono (R' := fun e W' => ∃ b' : Bool, e = .returned (.bool b') ∧ (b' = true → J ((nbsN s).take (j + 1)) (fun k => (B ≤ k ∧ k < B + 3) ∨ T k) W') ∧ (b' = false → Jx ((nbsN s).take (j + 1)) (fun k => (B ≤ k ∧ k < B + 3) ∨ T k) W') ∧ KeepN N₀ (fun k => (B ≤ k ∧ k < B + 3) ∨ T k) W9 W') (by
          rw [htk]
          rintro e W' (⟨rfl, h1, h2⟩ | ⟨rfl, h1, h2⟩)
          · exact ⟨true, rfl, fun _ => h1, fun e => (by cases e), h2⟩
          · exact ⟨false, rfl, fun e => (by cases e), fun _ => h1, h2⟩)))
        have HkN := Lib.hid hkN
        have M0 := Lib.hid m0
        have M1 := Lib.hid m1
        have Hpfx := Lib.hid (show (nbsN s).take (j + 1) <+: nbsN s from List.take_prefix _ _)
        clear hR hkN m0 m1 J9 hlen2 hpfx hget hsp hx0 hx1 hx2 htk hng hat hl hst hmv
        try simp only [Exit.then]
        gi_wp2_with fail
        refine ⟨fun _ => by omega, hR2.out.mono ?_⟩
        rintro _ W6 ⟨bb, rfl, hbt, hbf, hk6⟩
        have hlt9 : ∀ k, k < B + 3 → k < W9.heap.size := fun k hk => by omega
        have hkeep : KeepN (fun k => (N₀ k ∧ k < B) ∨ k = B + 1 + 1) T W1 W6 := HkN.out.trans ⟨hk6.size, fun k hk ho => hk6.block k hk (by
          rcases ho with (ho | ho) | ho
          · exact .inl ho.1
          · exact .inr (.inl (by omega))
          · exact .inr (.inr ho))⟩
        have hsz6 : (B + 3) ≤ W6.heap.size := Nat.le_trans s9 hk6.size
        cases bb with
        | true =>
          have Hfin : Hid (KeepN (fun k => (N₀ k ∧ k < B) ∨ k = B + 1 + 1) T W1 W6 ∧ NbI s l B Bn (B + 3) J (pre ++ [y]).length T W6) := Lib.hid ⟨hkeep, by
            rw [hplen]
            refine ⟨(hk6.block B (hlt9 _ (by omega)) (.inr (.inl (by omega)))).trans M0.out, hk6.cell (p := ⟨Bn, 0, none⟩) (.inl hBn) n9, hk6.u8 (.inl hN0) (.inl hN1) u9.out, hsz6, ?_, hbt rfl⟩
            rw [hstn]
            exact (hk6.block (B + 1) (hlt9 _ (by omega)) (.inr (.inl (by omega)))).trans M1.out⟩
          clear hkeep hbt hbf hk6 hin9 hin1 hJ hJx
          gi_wp2_with fail
          exact Hfin.out
        | false =>
          have Hfin : Hid (KeepN (fun k => (N₀ k ∧ k < B) ∨ k = B + 1 + 1) T W1 W6 ∧ (Code.ret = Code.ret ∧ (B + 3) ≤ W6.heap.size ∧ ∃ q, q <+: nbsN s ∧ Jx q (fun k => (B ≤ k ∧ k < B + 3) ∨ T k) W6)) := Lib.hid ⟨hkeep, rfl, hsz6, _, Hpfx.out, hbf rfl⟩
          clear hkeep hbt hbf hk6 hin9 hin1 hJ hJx
          gi_wp2_with fail
          exact ⟨Hfin.out.1, rfl, Hfin.out.2.2⟩
  case done =>
    rintro D ys T W2 hD hT2 rfl hi hK
    have hin : InT B (fun k => (B ≤ k ∧ k < B + 3) ∨ T k) W2 := fun k hk => by
      have := hi.sz
      rcases hk with hk | hk
      · omega
      · have := hT2 k hk; omega
    have c0 := hi.yl.cell
    have cm := hi.cm
    have hJ2 := hi.jj
    have HK := Lib.hid hK
    obtain ⟨m, hm⟩ : ∃ m, (pcs s).length = m := ⟨_, rfl⟩
    rw [hm] at hi hJ2
    cases m with
    | zero =>
      have hp0 : pcs s = [] := List.eq_nil_of_length_eq_zero hm
      have hz : s.size = 0 := by have := pcs_sum s; rw [hp0] at this; exact this.symm
      have hse : s = ⟨#[]⟩ := by
        obtain ⟨⟨dl⟩⟩ := s
        cases dl with
        | nil => rfl
        | cons a t => exact absurd hz (by simp [ByteArray.size])
      have hmv := Moves.putObj (fun k => (B ≤ k ∧ k < B + 3) ∨ T k) W2 D (.deferred none) (.inr hD)
      have hn0 : nbsN s = [] := by unfold nbsN; rw [hp0]; rfl
      have hJ3 : J (nbsN s) (fun k => (B ≤ k ∧ k < B + 3) ∨ T k) W2 := by rw [hn0] at hJ2 ⊢; exact hJ2
      have hJf := hJ.of hJ3 hin hmv
      have hinf := hin.more hmv.size
      have HF := Lib.hid (show J (nbsN s) (fun k => (B ≤ k ∧ k < B + 3) ∨ T k) (W2.putObj D (.deferred none)) ∧ InT B (fun k => (B ≤ k ∧ k < B + 3) ∨ T k) (W2.putObj D (.deferred none)) from ⟨hJf, hinf⟩)
      rw [hse] at cm
      clear hJ2 hJ3 hi hK hJf hinf hp0 hz hn0 hm
      go_wp2_with fail
      refine ⟨by simp, .inl ⟨_, _, rfl, run_takeDeferred HK.out, ?_⟩⟩
      exact ⟨_, results_none rfl _ _ _, ⟨_, rfl⟩, .inl ⟨_, _, rfl, HF.out⟩⟩
    | succ m =>
      have hne : ¬ s.size = 0 := fun e => by
        obtain ⟨x, hx⟩ : ∃ x, (pcs s)[0]? = some x := ⟨_, List.getElem?_eq_getElem (by omega)⟩
        have := pcs_chain s 0 x hx
        omega
      rw [Nat.add_sub_cancel] at hJ2
      have he : s.toList.isEmpty = false := by
        rw [toList_data]
        have h3 : s.data.toList.length = s.size := Array.length_toList
        cases hl : s.data.toList with
        | nil => rw [hl] at h3; exact absurd h3.symm hne
        | cons a t => rfl
      have hnb := hi.nb
      have hla := nbAt_last (s := s) (j := m) hm.symm
      have hng := nbs_get s m (by omega)
      have htk := take_snoc _ _ _ hng
      rw [List.take_of_length_le (show (nbsN s).length ≤ m + 1 by rw [nbs_len]; omega)] at htk
      rw [hla] at htk
      obtain ⟨st, hst⟩ : ∃ st, stN (rawsN s) (m + 1) = st := ⟨_, rfl⟩
      rw [hst] at hnb htk
      obtain ⟨a, b, p⟩ := st
      dsimp only at hnb
      obtain ⟨q, hq⟩ : ∃ q, (if b = 1 then p else b) = q := ⟨_, rfl⟩
      have htk : nbsN s = (nbsN s).take m ++ [(s.size, (b, -1, q))] := by rw [← hq]; exact htk
      have HPo1 := Lib.hid (fun W => HPo.out a b p (-1) W)
      rw [hq] at HPo1
      have hlen2 : ((nbsN s).take m).length < (nbsN s).length := by rw [List.length_take, nbs_len]; omega
      have HH := Lib.hid (show Boxed W2 B 83 (.func (.yield l) #[] #[]) ∧ NbB W2 (B + 1) a b p ∧ J ((nbsN s).take m) (fun k => (B ≤ k ∧ k < B + 3) ∨ T k) W2 ∧ InT B (fun k => (B ≤ k ∧ k < B + 3) ∨ T k) W2 ∧ ((nbsN s).take m).length < (nbsN s).length ∧ nbsN s = (nbsN s).take m ++ [(s.size, (b, -1, q))] ∧ W2.cell? ⟨Bn, 0, none⟩ = some (.string s) ∧ (∀ k, T k → k < W2.heap.size) from ⟨hi.yl, hnb, hJ2, hin, hlen2, htk, cm, fun k hk => (hT2 k hk).2⟩)
      have c0d : W2.drew.cell? ⟨B, 0, none⟩ = some (.func (.yield l) #[] #[]) := c0
      have cmd : W2.drew.cell? ⟨Bn, 0, none⟩ = some (.string s) := cm
      have c1d : W2.drew.cell? ⟨B + 1, 0, none⟩ = some (.int .i8 a) := hnb.c0
      have c2d : W2.drew.cell? ⟨B + 1, 1, none⟩ = some (.int .i8 b) := hnb.c1
      have c3d : W2.drew.cell? ⟨B + 1, 2, none⟩ = some (.int .i8 p) := hnb.c2
      clear hnb hla hng htk hst hq hlen2 hJ2 hi hK hin hm hne
      go_wp2_with fail
      refine (wpIn_wide (n := n)).1 ?_
      gi_region_with (first
        | (refine ⟨trivial, fun e => ?he, (callsIn_wide.2 (HPo1.out _)).mono ?_⟩
           case he => simp [Fence.wide] at e
           rintro _ v1 ⟨rfl, k1⟩
           have k0 : Below W2.heap.size W2 v1 := ((Below.refl _ W2).drew).trans k1
           have q0 := (boxed_below HH.out.1 k0).cell
           have q1 : v1.cell? ⟨Bn, 0, none⟩ = some (.string s) := (k0.cell (p := ⟨Bn, 0, none⟩) (cell_ltN cm)).trans cm
           have J5 := hJ.of HH.out.2.2.1 HH.out.2.2.2.1 (Moves.of_below _ k0)
           have hin5 := HH.out.2.2.2.1.more k0.size
           obtain ⟨fn, tmps, assign, body, hy, hR⟩ := Hy.out ((nbsN s).take m) (s.size, (b, -1, q)) _ v1 J5 hin5 HH.out.2.2.2.2.1 (by rw [← HH.out.2.2.2.2.2.1]; exact List.prefix_refl _)
           dsimp only [encNb] at hy
           have hD1 : v1.heap[D]? = some (.deferred (some [])) := (k0.block D (HH.out.2.2.2.2.2.2.2 D hD)).trans HK.out
           have HR := Lib.hid (hR.mono (R' := fun e W' => ∃ b' : Bool, e = .returned (.bool b') ∧ W'.heap[D]? = some (.deferred (some [])) ∧ InT B (fun k => (B ≤ k ∧ k < B + 3) ∨ T k) W' ∧ (J (nbsN s) (fun k => (B ≤ k ∧ k < B + 3) ∨ T k) W' ∨ Jx (nbsN s) (fun k => (B ≤ k ∧ k < B + 3) ∨ T k) W')) (by
             rw [← HH.out.2.2.2.2.2.1]
             rintro e W' (⟨rfl, h1, h2⟩ | ⟨rfl, h1, h2⟩)
             · exact ⟨true, rfl, (h2.block D (by rcases Nat.lt_or_ge D v1.heap.size with h | h; exact h; rw [Array.getElem?_eq_none h] at hD1; cases hD1) (.inr (.inr hD))).trans hD1, hin5.more h2.size, .inl h1⟩
             · exact ⟨false, rfl, (h2.block D (by rcases Nat.lt_or_ge D v1.heap.size with h | h; exact h; rw [Array.getElem?_eq_none h] at hD1; cases hD1) (.inr (.inr hD))).trans hD1, hin5.more h2.size, .inr h1⟩))
           clear hR J5 hin5 k0 k1 hD1)
        | (refine ⟨fun _ => ?hn, HR.out.mono ?_⟩
           case hn => omega
           rintro _ W6 ⟨bb, rfl, h6⟩
           have H6 := Lib.hid h6
           clear h6 HR hy)
        | fail "no")
      all_goals (
        have hmv := Moves.putObj (fun k => (B ≤ k ∧ k < B + 3) ∨ T k) W6 D (.deferred none) (.inr hD)
        obtain ⟨h7, h8, h9⟩ := H6.out
        have Hres : Hid ((∃ xs T', xs = nbsN s ∧ J xs T' (W6.putObj D (.deferred none)) ∧ InT B T' (W6.putObj D (.deferred none))) ∨ (∃ pre T', pre <+: nbsN s ∧ Jx pre T' (W6.putObj D (.deferred none)) ∧ InT B T' (W6.putObj D (.deferred none)))) := Lib.hid (h9.elim (fun h => .inl ⟨_, _, rfl, hJ.of h h8 hmv, h8.more hmv.size⟩) (fun h => .inr ⟨_, _, List.prefix_refl _, hJx.of h h8 hmv, h8.more hmv.size⟩))
        clear hmv h8 h9 H6
        gi_wp2_with fail
        refine ⟨by simp, .inl ⟨_, _, rfl, run_takeDeferred h7, ?_⟩⟩
        exact ⟨_, results_none rfl _ _ _, ⟨_, rfl⟩, Hres.out⟩)
  case stop =>
    rintro D c pre T W2 hD hT2 _ ⟨rfl, hsA, q, hq, h9⟩ hK
    have hin : InT B (fun k => (B ≤ k ∧ k < B + 3) ∨ T k) W2 := fun k hk => by
      rcases hk with hk | hk
      · omega
      · have := hT2 k hk; omega
    have hmv := Moves.putObj (fun k => (B ≤ k ∧ k < B + 3) ∨ T k) W2 D (.deferred none) (.inr hD)
    have hJf := hJx.of h9 hin hmv
    have hinf := hin.more hmv.size
    have HK := Lib.hid hK
    clear h9 hK
    gi_wp2_with fail
    refine ⟨by simp, .inl ⟨_, _, rfl, run_takeDeferred HK.out, ?_⟩⟩
    exact ⟨_, results_none rfl _ _ _, ⟨_, rfl⟩, .inr ⟨q, _, hq, hJf, hinf⟩⟩
end Go.Proofs.YthkapcnhfdpdbaaDoor

/- Layer 13, the program: where a text's clusters end, and what may be done there: the iterator's contract. -/
namespace Go.Proofs.YthkapcnhfdpdbaaDoor
open Go.RowKit Go.Shelf Go.Lib
attribute [local go_sem] Oper.semAt_some

theorem en_mk (s : ByteArray) (w : World) : Calls Tryd.prog 21 #[.string s] w fun e w' =>
    e = .returned (.func (.func 31) #[] #[.pointer (some ⟨w.heap.size, 0, none⟩)]) ∧ w' = w.alloc (.cells #[.string s] 9) := by
  go_enter Tryd.func21, Tryd.ntmps21
  go_wp2
  go_ret
  exact ⟨rfl, rfl⟩
abbrev encEn (x : Nat × Nat) : Array Value := #[.int .i64 (x.1 : Int), .int .i8 (x.2 : Int)]
/-- what holds between rounds: j clusters are gone over -/
structure EnI (s : ByteArray) (l B : Nat) (J : List (Nat × Nat) → Bl → World → Prop) (j : Nat) (T : Bl) (W : World) : Prop where
  yl : Boxed W B 60 (.func (.yield l) #[] #[])
  rw_ : W.heap[B + 1]? = some (.cells ruleCells 70 (0, 0))
  ls : Boxed W (B + 1 + 1) 61 (.slice (some ⟨B + 1, 0, none⟩) 12 12)
  sz : B + 4 ≤ W.heap.size
  jj : J ((endsN s).take j) (fun k => (B ≤ k ∧ k < B + 4) ∨ T k) W
/-- a round's own neighbourhood, in a new box -/
def EnX (l B Bn : Nat) (s : ByteArray) (x : Nat × Nb) (a' : Act) (T : Bl) (W : World) : Prop := ∃ k, a' = { tmps := #[.func (.yield l) #[] #[], .pointer (some ⟨Bn, 0, none⟩), .pointer (some ⟨B, 0, none⟩), .pointer (some ⟨B + 1 + 1, 0, none⟩), .int .i64 (x.1 : Int), .pointer (some ⟨k, 0, none⟩), undef, undef, .slice (some ⟨B + 1, 0, none⟩) 12 12, .string s, .func (.func 58) #[] #[.pointer (some ⟨B + 1 + 1 + 1, 0, none⟩)],
    .int .i64 (x.1 : Int), nbV x.2.1 x.2.2.1 x.2.2.2, undef, undef, undef, undef, undef, undef, undef, undef, undef, undef, undef, undef, undef, undef, undef, undef, undef, undef], defers := [] } ∧ B + 4 ≤ k ∧ k < W.heap.size ∧ ¬ T k ∧ NbB W k x.2.1 x.2.2.1 x.2.2.2
theorem enX_tc (l B Bn : Nat) (s : ByteArray) (C : Nat) (x : Nat × Nb) (a' : Act) : TC C (fun (_ : Unit) => EnX l B Bn s x a') := by
  rintro _ T T' A A' ⟨k, rfl, h0, hk, hn, hb⟩ hT hm hg
  exact ⟨k, rfl, h0, by have := hm.size; omega, fun e => (hg.2 k e).elim hn (fun h => by omega), (hm.block k hk hn).trans hb⟩
theorem ends_at {s : ByteArray} {i : Nat} {x : Nat × Nb} (h : (nbsN s)[i]? = some x) : (endsN s)[i]? = some (x.1, sayP x.2) := by
  unfold endsN
  rw [List.getElem?_map, h]
  rfl
set_option maxRecDepth 100000 in
set_option maxHeartbeats 4000000 in
theorem seqEn (n : Nat) (hn : 6 ≤ n) (Bn : Nat) (N₀ : Bl) (s : ByteArray) (w : World) (hBn : N₀ Bn) (hN0 : N₀ 0) (hN1 : N₀ 1)
    (hcs : w.cell? ⟨Bn, 0, none⟩ = some (.string s)) (hs : s.size ≤ 140737488351232) (hT : Utf8Tabs 0 1 w) :
    SeqN Fence.wide n Tryd.prog 31 #[.pointer (some ⟨Bn, 0, none⟩)] encEn (fun ys => ys = endsN s) (fun pre => pre <+: endsN s) (endsN s).length N₀ w := by
  intro l J Jx W hW hJ hJx hY h0
  have hcW : W.cell? ⟨Bn, 0, none⟩ = some (.string s) := (hW.cell (p := ⟨Bn, 0, none⟩) (cell_ltN hcs)).trans hcs
  have hTW : Utf8Tabs 0 1 W := Utf8Tabs_below hT hW
  have h2 := tabs_size hTW
  obtain ⟨B, hB⟩ : ∃ B, W.heap.size = B := ⟨_, rfl⟩
  have hBnB : Bn < B := by rw [← hB]; exact cell_ltN hcW
  rw [hB] at hJ hJx hY h2 ⊢
  have Hy := Lib.hid hY
  have HTW := Lib.hid hTW
  have Hru := Lib.hid (fun W => rules13_any W)
  have Hnb := Lib.hid (fun W => nb_mk s W)
  clear hcs hW hT hY hTW
  obtain ⟨W1, hW1⟩ : ∃ W1, W.alloc (.cells #[.func (.yield l) #[] #[]] 60) = W1 := ⟨_, rfl⟩
  have z1 : W1.heap.size = B + 1 := by rw [← hW1]; simp [hB]
  have d0 : Boxed W1 B 60 (.func (.yield l) #[] #[]) := by
    rw [← hW1]
    have h := Boxed.new W 60 (.func (.yield l) #[] #[])
    rw [hB] at h
    exact h
  have r1 : Below B W W1 := by rw [← hW1]; exact (Below.refl B W).alloc (by omega) _
  refine callsIn_of_wp_marks Tryd.func31 rfl trivial ?_ rfl
  refine wpIn_wide.2 ?_
  simp only [Tryd.ntmps31, List.size_toArray, List.length_cons, List.length_nil, Nat.reduceAdd, Nat.reduceSub, Array.replicate_succ, Array.replicate_zero, List.push_toArray, List.append_toArray, List.nil_append, List.cons_append]
  go_wp2_with fail
  refine wp_scope_straight ?_
  go_wp2_with fail
  refine (Hru.out _).mono ?_
  rintro _ W2 ⟨rfl, hW2⟩
  rw [z1]
  have z2 : W2.heap.size = B + 2 := by rw [hW2, World.size_alloc, z1]
  have e0 : Boxed W2 B 60 (.func (.yield l) #[] #[]) := by rw [hW2]; exact d0.alloc _
  have e1 : W2.heap[B + 1]? = some (.cells ruleCells 70 (0, 0)) := by rw [hW2, ← z1]; exact World.alloc_heap_new W1 _
  have r2 : Below B W W2 := by rw [hW2]; exact r1.alloc (by omega) _
  clear hW1 d0 r1 hW2 z1 Hru
  obtain ⟨W3, hW3⟩ : ∃ W3, W2.alloc (.cells #[.slice (some ⟨B + 1, 0, none⟩) 12 12] 61) = W3 := ⟨_, rfl⟩
  have z3 : W3.heap.size = B + 3 := by rw [← hW3, World.size_alloc, z2]
  have f0 : Boxed W3 B 60 (.func (.yield l) #[] #[]) := by rw [← hW3]; exact e0.alloc _
  have f1 : W3.heap[B + 1]? = some (.cells ruleCells 70 (0, 0)) := by rw [← hW3]; exact (((Below.refl _ W2).alloc (Nat.le_refl _) _).block (B + 1) (by omega)).trans e1
  have f2 : Boxed W3 (B + 1 + 1) 61 (.slice (some ⟨B + 1, 0, none⟩) 12 12) := by
    rw [← hW3]
    have h := Boxed.new W2 61 (.slice (some ⟨B + 1, 0, none⟩) 12 12)
    rw [z2] at h
    exact h
  have r3 : Below B W W3 := by rw [← hW3]; exact r2.alloc (by omega) _
  have m3 : W3.cell? ⟨Bn, 0, none⟩ = some (.string s) := (r3.cell (p := ⟨Bn, 0, none⟩) hBnB).trans hcW
  have f2c := f2.cell
  clear e0 e1 r2
  go_wp2_with fail
  refine wp_label ?_
  go_wp2_with fail
  refine (Hnb.out _).mono ?_
  rintro _ Wa ⟨rfl, hWa⟩
  have b0 : Boxed Wa B 60 (.func (.yield l) #[] #[]) := by rw [hWa]; exact f0.alloc _
  have b1 : Wa.heap[B + 1]? = some (.cells ruleCells 70 (0, 0)) := by rw [hWa]; exact (((Below.refl _ W3).alloc (Nat.le_refl _) _).block (B + 1) (by omega)).trans f1
  have b2 : Boxed Wa (B + 1 + 1) 61 (.slice (some ⟨B + 1, 0, none⟩) 12 12) := by rw [hWa]; exact f2.alloc _
  have hsz : Wa.heap.size = B + 4 := by rw [hWa, World.size_alloc, z3]
  have b3 : Boxed Wa (B + 1 + 1 + 1) 9 (.string s) := by
    have h := Boxed.new W3 9 (.string s)
    rw [z3, ← hWa] at h
    exact h
  have hBa : Below B W Wa := by rw [hWa]; exact r3.alloc (by omega) _
  rw [z3]
  clear hW3 f0 f1 f2 f2c r3 z3 m3
  have hTa : Utf8Tabs 0 1 Wa := Utf8Tabs_below HTW.out (by rw [hB]; exact hBa)
  have hJa : J [] (fun k => B ≤ k ∧ k < B + 4) Wa := hJ _ _ _ _ _ h0 (fun _ h => h.elim) (.of_below _ (by rw [hB]; exact hBa)) ⟨fun _ h => h.elim, fun k hk => .inr (by omega)⟩
  clear hWa
  go_wp2_with fail
  refine (wpIn_wide (n := n)).1 ?_
  refine range_N rfl (by omega) (gf := 58) (lb := #[.pointer (some ⟨B + 1 + 1 + 1, 0, none⟩)]) rfl trivial (enters_of Tryd.func58 (by kernel_rfl) rfl)
    (seqNb (n - 1) (by omega) (B + 1 + 1 + 1) (fun k => (N₀ k ∧ k < B) ∨ k = B + 1 + 1 + 1) s Wa (.inr rfl) (.inl ⟨hN0, by omega⟩) (.inl ⟨hN1, by omega⟩) b3.cell hs hTa) (fun k hk => by omega) (fun _ => rfl)
    (fun pre T W' => EnI s l B J pre.length T W')
    (fun c pre T W' => c = .ret ∧ (B + 4) ≤ W'.heap.size ∧ ∃ q, q <+: endsN s ∧ Jx q (fun k => (B ≤ k ∧ k < B + 4) ∨ T k) W')
    ?hI ?hIx
    ⟨b0, b1, b2, by omega, by exact hJ _ _ _ _ _ hJa (fun k hk => by omega) (.refl _ _) ⟨fun k hk => .inl hk, fun k hk => .inl (hk.elim id False.elim)⟩⟩
    (EnX l B Bn s) (fun x a' => enX_tc l B Bn s _ x a')
    ?assign ?body ?done ?stop
  case hI =>
    rintro pre T T' A A' h hT hm hg
    have hlow : ∀ k, k < B + 4 → A'.heap[k]? = A.heap[k]? := fun k hk => hm.block k (by have := h.sz; omega) (fun e => by have := (hT _ e).1; omega)
    refine ⟨(hlow _ (by omega)).trans h.yl, (hlow _ (by omega)).trans h.rw_, (hlow _ (by omega)).trans h.ls, Nat.le_trans h.sz hm.size, ?_⟩
    refine hJ _ _ _ _ _ h.jj (fun k hk => ?_) (hm.mono fun k hk => .inr hk) ⟨fun k hk => hk.imp id (hg.1 k), fun k hk => ?_⟩
    · have := h.sz
      rcases hk with hk | hk
      · omega
      · have := hT k hk; omega
    · rcases hk with hk | hk
      · exact .inl (.inl hk)
      · exact (hg.2 k hk).imp .inr id
  case hIx =>
    rintro cd pre T T' A A' ⟨rfl, hsA, q, hq, h9⟩ hT hm hg
    refine ⟨rfl, Nat.le_trans hsA hm.size, q, hq, hJx _ _ _ _ _ h9 (fun k hk => ?_) (hm.mono fun k hk => .inr hk) ⟨fun k hk => hk.imp id (hg.1 k), fun k hk => ?_⟩⟩
    · rcases hk with hk | hk
      · omega
      · have := hT k hk; omega
    · rcases hk with hk | hk
      · exact .inl (.inl hk)
      · exact (hg.2 k hk).imp .inr id
  case assign =>
    rintro l1 pre x T W4 K hi hT hl1 hK
    obtain ⟨q, a, b, p⟩ := x
    obtain ⟨k, hk⟩ : ∃ k, W4.heap.size = k := ⟨_, rfl⟩
    obtain ⟨W5, hW5⟩ : ∃ W5, W4.alloc (.cells #[.int .i8 a, .int .i8 b, .int .i8 p] 67) = W5 := ⟨_, rfl⟩
    have hb5 : Below W4.heap.size W4 W5 := by rw [← hW5]; exact (Below.refl _ W4).alloc (Nat.le_refl _) _
    have hn5 : NbB W5 k a b p := by rw [← hW5, ← hk]; exact NbB.new W4 a b p
    have c0 := hn5.c0
    have c1 := hn5.c1
    have c2 := hn5.c2
    have hi5 : EnI s l B J pre.length T W5 := ⟨boxed_below hi.yl hb5, (hb5.block _ (by have := hi.sz; omega)).trans hi.rw_, boxed_below hi.ls hb5, Nat.le_trans hi.sz hb5.size, hJ.of hi.jj (fun j hj => by
      have := hi.sz
      rcases hj with hj | hj
      · omega
      · have := hT j hj; omega) (Moves.of_below _ hb5)⟩
    have Hfin := Lib.hid (fun a' (e : EnX l B Bn s (q, a, b, p) a' T W5) => hK a' W5 (KeepN.of_below _ _ hb5) hi5 e)
    have HX := Lib.hid (show B + 4 ≤ k ∧ k < W5.heap.size ∧ ¬ T k ∧ NbB W5 k a b p from ⟨by have := hi.sz; omega, hn5.lt, fun e => by have := (hT k e).2; omega, hn5⟩)
    clear hi hK hb5 hn5 hi5
    gi_wp2_with fail
    exact Hfin.out _ ⟨k, rfl, HX.out⟩
  case body =>
    rintro l1 pre y a' T W4 hl1 hT1 hr1 hi ⟨k, rfl, hkB, hk, hkT, hkb⟩ hlen hsp
    have hget := prefix_get hsp
    obtain ⟨j, hj⟩ : ∃ j, pre.length = j := ⟨_, rfl⟩
    rw [hj] at hget hi hlen
    have hplen : (pre ++ [y]).length = j + 1 := by simp [hj]
    have hen := ends_at hget
    obtain ⟨q, a, b, p⟩ := y
    dsimp only at hkb hen
    have htk := take_snoc _ _ _ hen
    have hpfx : (endsN s).take j ++ [(q, sayP (a, b, p))] <+: endsN s := by rw [← htk]; exact List.take_prefix _ _
    have hlen2 : ((endsN s).take j).length < (endsN s).length := by rw [List.length_take, ends_len]; rw [nbs_len] at hlen; omega
    obtain ⟨sv, hsv⟩ : ∃ sv, sayP (a, b, p) = sv := ⟨_, rfl⟩
    rw [hsv] at htk hpfx hen
    have c0 := hi.yl.cell
    have c2 := hi.ls.cell
    have HX := Lib.hid (show sayL ((rowN (a, b, p)).drop 0) = sv from hsv)
    have Hi := Lib.hid hi
    have Hkb := Lib.hid hkb
    have Hpf := Lib.hid (show (endsN s).take j ++ [(q, sv)] <+: endsN s ∧ ((endsN s).take j).length < (endsN s).length ∧ (endsN s).take (j + 1) = (endsN s).take j ++ [(q, sv)] from ⟨hpfx, hlen2, htk⟩)
    clear hi hkb hpfx hlen2 htk hen hsv hget hsp
    gi_wp2_with fail
    gi_loopw [15] (fun y wr => ∃ (m : Nat) (W : World), W = wr ∧ y = .int .i64 (m : Int) ∧ m ≤ 11 ∧ Hid (Below W4.heap.size W4 W ∧ sayL ((rowN (a, b, p)).drop m) = sv)) (fun y _ => 12 - (RowKit.intOf y).toNat)
    case atStart => exact ⟨0, _, rfl, rfl, by omega, Lib.hid ⟨Below.refl _ _, HX.out⟩⟩
    case round =>
      obtain ⟨m, wq, hW, rfl, hm, HB⟩ := hrel
      subst hW
      obtain ⟨fn, sv', bo, hR⟩ := rule_is a b p m (by omega)
      have hlt : (m : Int) < 12 := by omega
      have hge : (0 : Int) ≤ (m : Int) := by omega
      obtain ⟨C, hC⟩ : ∃ C, wq.heap.size = C := ⟨_, rfl⟩
      have hCk : k < C := by have := HB.out.1.size; omega
      have hrow : wq.heap[B + 1]? = some (.cells ruleCells 70 (0, 0)) := (HB.out.1.block (B + 1) (by have := Hi.out.sz; omega)).trans Hi.out.rw_
      have q0 : wq.cell? ⟨B + 1, m * 2, none⟩ = some (.func (.func fn) #[] #[]) := by rw [cell_of_row _ _ _ _ _ _ hrow, Nat.mul_comm]; exact hR.c0
      have q1 : wq.cell? ⟨B + 1, m * 2 + 1, none⟩ = some (.int .i8 (sv' : Int)) := by rw [cell_of_row _ _ _ _ _ _ hrow, Nat.mul_comm]; exact hR.c1
      obtain ⟨W5, hW5⟩ : ∃ W5, wq.alloc (.cells #[.func (.func fn) #[] #[], .int .i8 (sv' : Int)] 70) = W5 := ⟨_, rfl⟩
      have hb5 : Below W4.heap.size W4 W5 := by rw [← hW5]; exact HB.out.1.alloc HB.out.1.size _
      have h5r : W5.heap[C]? = some (.cells #[.func (.func fn) #[] #[], .int .i8 (sv' : Int)] 70 (0, 0)) := by rw [← hW5, ← hC]; exact World.alloc_heap_new wq _
      have hC5 : C < W5.heap.size := (Array.getElem?_eq_some_iff.1 h5r).1
      have s0 : W5.cell? ⟨C, 0, none⟩ = some (.func (.func fn) #[] #[]) := cell_of_row _ _ 0 _ _ _ h5r
      have s1 : W5.cell? ⟨C, 1, none⟩ = some (.int .i8 (sv' : Int)) := cell_of_row _ _ 1 _ _ _ h5r
      have hn5 : NbB W5 k a b p := Hkb.out.below hb5
      have n0 := hn5.c0
      have n1 := hn5.c1
      have n2 := hn5.c2
      have eg := hR.enters
      have HRc := Lib.hid hR.calls
      have HRr := Lib.hid hR.row
      have H5 := Lib.hid (show Below W4.heap.size W4 W5 ∧ W5.heap[C]? = some (.cells #[.func (.func fn) #[] #[], .int .i8 (sv' : Int)] 70 (0, 0)) ∧ C < W5.heap.size from ⟨hb5, h5r, hC5⟩)
      have HBs := Lib.hid HB.out.2
      have hnx : IntKind.i64.wrap ((m : Int) + 1) = ((m + 1 : Nat) : Int) := by rw [IntWalk.i64_in _ (by omega)]; omega
      clear hR hrow hb5 h5r hC5 hn5 HB
      gi_wp2_with fail
      refine ⟨trivial, fun _ => by omega, (CallsIn.inRound l1 (callsIn_wide.2 (HRc.out _))).mono ?_⟩
      rintro _ w6 ⟨rfl, b6⟩
      have hb6 : Below W4.heap.size W4 w6 := H5.out.1.trans (b6.mono H5.out.1.size)
      have h6r := (b6.block C H5.out.2.2).trans H5.out.2.1
      clear b6 H5 HRc n0 n1 n2 s0 s1 q0 q1 hW5 eg
      cases bo with
      | false =>
        have hm11 : m ≠ 11 := by
          rintro rfl
          have h := HRr.out
          rw [row_last] at h
          cases h
        have HN := Lib.hid (show Below W4.heap.size W4 w6 ∧ sayL ((rowN (a, b, p)).drop (m + 1)) = sv from ⟨hb6, (say_on HRr.out).symm.trans HBs.out⟩)
        clear hb6 h6r HRr HBs
        gi_wp2_with fail
        go_roundw
        case rel => exact ⟨m + 1, _, rfl, by first | rfl | rw [hnx], by omega, HN⟩
        case measure => simp [RowKit.intOf]; omega
      | true =>
        obtain rfl : sv' = sv := (say_hit HRr.out).symm.trans HBs.out
        have hin4 : InT B (fun k => (B ≤ k ∧ k < B + 4) ∨ T k) W4 := fun k hk => by
          have := Hi.out.sz
          rcases hk with hk | hk
          · omega
          · have := hT1 k hk; omega
        have J6 := hJ.of Hi.out.jj hin4 (Moves.of_below _ hb6)
        have hin6 := hin4.more hb6.size
        obtain ⟨fn2, tmps, assign, body, hy, hR⟩ := Hy.out ((endsN s).take j) (q, sv') _ w6 J6 hin6 Hpf.out.2.1 Hpf.out.1
        dsimp only [encEn] at hy
        have hR2 := Lib.hid (roundIn_wide (m' := n - 1 - 1 - 1) (l' := l1) (hR.mono (R' := fun e W' => ∃ b' : Bool, e = .returned (.bool b') ∧ (b' = true → J ((endsN s).take (j + 1)) (fun k => (B ≤ k ∧ k < B + 4) ∨ T k) W') ∧ (b' = false → Jx ((endsN s).take (j + 1)) (fun k => (B ≤ k ∧ k < B + 4) ∨ T k) W') ∧ KeepN N₀ (fun k => (B ≤ k ∧ k < B + 4) ∨ T k) w6 W') (by
          rw [Hpf.out.2.2]
          rintro e W' (⟨rfl, h1, h2⟩ | ⟨rfl, h1, h2⟩)
          · exact ⟨true, rfl, fun _ => h1, fun e => (by cases e), h2⟩
          · exact ⟨false, rfl, fun e => (by cases e), fun _ => h1, h2⟩)))
        have m0 := boxed_below Hi.out.yl hb6
        have m0c := m0.cell
        have m1c : w6.cell? ⟨C, 1, none⟩ = some (.int .i8 (sv' : Int)) := cell_of_row _ _ 1 _ _ _ h6r
        have HM := Lib.hid (show Below W4.heap.size W4 w6 ∧ Boxed w6 B 60 (.func (.yield l) #[] #[]) from ⟨hb6, m0⟩)
        clear hR J6 hin6 m0 h6r hb6 HBs HRr
        gi_wp2_with fail
        refine ⟨fun _ => by omega, hR2.out.mono ?_⟩
        rintro _ W8 ⟨bb, rfl, hbt, hbf, hk8⟩
        have hs6 := HM.out.1.size
        have hs4 := Hi.out.sz
        have hkeep : KeepN (fun k => (N₀ k ∧ k < B) ∨ k = B + 1 + 1 + 1) T W4 W8 := (KeepN.of_below _ _ HM.out.1).trans ⟨hk8.size, fun k hk ho => hk8.block k hk (by
          rcases ho with (ho | ho) | ho
          · exact .inl ho.1
          · exact .inr (.inl (by omega))
          · exact .inr (.inr ho))⟩
        have hsz8 : (B + 4) ≤ W8.heap.size := Nat.le_trans (Nat.le_trans hs4 hs6) hk8.size
        cases bb with
        | true =>
          have Hfin : Hid (KeepN (fun k => (N₀ k ∧ k < B) ∨ k = B + 1 + 1 + 1) T W4 W8 ∧ EnI s l B J (pre ++ [(q, a, b, p)]).length T W8) := Lib.hid ⟨hkeep, by
            rw [hplen]
            exact ⟨(hk8.block B (by omega) (.inr (.inl (by omega)))).trans HM.out.2, (hk8.block (B + 1) (by omega) (.inr (.inl (by omega)))).trans ((HM.out.1.block (B + 1) (by omega)).trans Hi.out.rw_), (hk8.block (B + 1 + 1) (by omega) (.inr (.inl (by omega)))).trans (boxed_below Hi.out.ls HM.out.1), hsz8, hbt rfl⟩⟩
          clear hkeep hbt hbf hk8 hJ hJx
          gi_wp2_with fail
          exact Hfin.out
        | false =>
          have Hfin : Hid (KeepN (fun k => (N₀ k ∧ k < B) ∨ k = B + 1 + 1 + 1) T W4 W8 ∧ ((B + 4) ≤ W8.heap.size ∧ ∃ q, q <+: endsN s ∧ Jx q (fun k => (B ≤ k ∧ k < B + 4) ∨ T k) W8)) := Lib.hid ⟨hkeep, hsz8, _, by rw [Hpf.out.2.2]; exact Hpf.out.1, hbf rfl⟩
          clear hkeep hbt hbf hk8 hJ hJx
          gi_wp2_with fail
          exact ⟨Hfin.out.1, rfl, Hfin.out.2⟩
  case done =>
    rintro D ys T W2 hD hT2 rfl hi hK
    have hin : InT B (fun k => (B ≤ k ∧ k < B + 4) ∨ T k) W2 := fun k hk => by
      have := hi.sz
      rcases hk with hk | hk
      · omega
      · have := hT2 k hk; omega
    have hmv := Moves.putObj (fun k => (B ≤ k ∧ k < B + 4) ∨ T k) W2 D (.deferred none) (.inr hD)
    have hJ2 := hi.jj
    rw [nbs_len, List.take_of_length_le (show (endsN s).length ≤ (pcs s).length by rw [ends_len]; exact Nat.le_refl _)] at hJ2
    have HF := Lib.hid (show J (endsN s) (fun k => (B ≤ k ∧ k < B + 4) ∨ T k) (W2.putObj D (.deferred none)) ∧ InT B (fun k => (B ≤ k ∧ k < B + 4) ∨ T k) (W2.putObj D (.deferred none)) from ⟨hJ.of hJ2 hin hmv, hin.more hmv.size⟩)
    have HK := Lib.hid hK
    clear hJ2 hi hK hin hmv
    go_wp2_with fail
    refine ⟨by simp, .inl ⟨_, _, rfl, run_takeDeferred HK.out, ?_⟩⟩
    exact ⟨_, results_none rfl _ _ _, ⟨_, rfl⟩, .inl ⟨_, _, rfl, HF.out⟩⟩
  case stop =>
    rintro D c pre T W2 hD hT2 _ ⟨rfl, hsA, q, hq, h9⟩ hK
    have hin : InT B (fun k => (B ≤ k ∧ k < B + 4) ∨ T k) W2 := fun k hk => by
      rcases hk with hk | hk
      · omega
      · have := hT2 k hk; omega
    have hmv := Moves.putObj (fun k => (B ≤ k ∧ k < B + 4) ∨ T k) W2 D (.deferred none) (.inr hD)
    have hJf := hJx.of h9 hin hmv
    have hinf := hin.more hmv.size
    have HK := Lib.hid hK
    clear h9 hK
    gi_wp2_with fail
    refine ⟨by simp, .inl ⟨_, _, rfl, run_takeDeferred HK.out, ?_⟩⟩
    exact ⟨_, results_none rfl _ _ _, ⟨_, rfl⟩, .inr ⟨q, _, hq, hJf, hinf⟩⟩
end Go.Proofs.YthkapcnhfdpdbaaDoor

/- Layer 13, the program: Where. (Made by tools/mknbf13.py, out of s3's XPcsC.) -/
namespace Go.Proofs.YthkapcnhfdpdbaaDoor
open Go.RowKit Go.Shelf Go.Lib
attribute [local go_sem] Oper.semAt_some

theorem i8n_info : (Tryd.prog.info? 25).map (fun i => (i.zero, i.size, i.bytes)) = some (some (.int .i8 0), 1, 1) := by kernel_rfl
abbrev saysV (L : List (Nat × Nat)) : List Value := L.map fun x => Value.int .i8 (x.2 : Int)
theorem saysV_snoc (L : List (Nat × Nat)) (x : Nat × Nat) : saysV (L ++ [x]) = saysV L ++ [Value.int .i8 (x.2 : Int)] := by simp [saysV]
set_option maxRecDepth 100000 in
set_option maxHeartbeats 1000000 in
theorem pwhere_any (s : ByteArray) (w : World) (hs : s.size ≤ 1073741824) (hT : Utf8Tabs 0 1 w) :
    Calls Tryd.prog 8 #[.string s] w fun e w' => ∃ A c, e = .returned (.slice A (endsN s).length c) ∧ w'.ownsRow w.heap.size 25 1 (.slice A (endsN s).length c) (endsN s).length (saysV (endsN s)) ∧ Below w.heap.size w w' := by
  have hL : (endsN s).length ≤ 1073741824 := by rw [ends_len]; have := pcs_len s; omega
  obtain ⟨ii, hii, hiz0, hiz1, hiz2⟩ := info_parts i8n_info
  obtain ⟨B, hB⟩ : ∃ B, w.heap.size = B := ⟨_, rfl⟩
  rw [hB]
  have HT := Lib.hid hT
  have h2 := tabs_size hT
  rw [hB] at h2
  have HE := Lib.hid (fun W => en_mk s W)
  clear hT
  refine (callsIn_wide (n := 9)).1 ?_
  refine callsIn_of_wp_marks Tryd.func8 rfl trivial ?_ rfl
  refine wpIn_wide.2 ?_
  simp only [Tryd.ntmps8, List.size_toArray, List.length_cons, List.length_nil, Nat.reduceAdd, Nat.reduceSub, Array.replicate_succ, Array.replicate_zero, List.push_toArray, List.append_toArray, List.nil_append, List.cons_append]
  go_wp2_with fail
  refine (HE.out _).mono ?_
  rintro _ Wa ⟨rfl, hWa⟩
  rw [World.size_alloc, hB]
  have hsz : Wa.heap.size = B + 2 := by rw [hWa]; simp [hB]
  have b0 : Boxed Wa B 22 (.slice none 0 0) := by rw [hWa, ← hB]; exact (Boxed.new w _ _).alloc _
  have b1 : Boxed Wa (B + 1) 9 (.string s) := by
    rw [hWa]
    have h := Boxed.new (w.alloc (.cells #[.slice none 0 0] 22)) 9 (.string s)
    rw [World.size_alloc, hB] at h
    exact h
  have hBa : Below B w Wa := by rw [hWa]; exact ((Below.refl B w).alloc (by omega) _).alloc (by simp; omega) _
  have hTa' : Utf8Tabs 0 1 Wa := Utf8Tabs_below HT.out (by rw [hB]; exact hBa)
  clear hWa
  go_wp2_with fail
  refine (wpIn_wide (n := 9)).1 ?_
  refine range_N1 rfl (by omega) (gf := 31) (lb := #[.pointer (some ⟨B + 1, 0, none⟩)]) rfl trivial (enters_of Tryd.func31 (by kernel_rfl) rfl)
    (seqEn 8 (by omega) (B + 1) (fun k => k < B + 2 ∧ k ≠ B) s Wa (by omega) (by omega) (by omega) b1.cell (by omega) hTa') (fun k hk => by omega) (fun _ => rfl)
    (fun pre T W => (∃ A c, Col T W B 22 25 1 (B + 2) (.slice A pre.length c) pre.length (saysV pre)) ∧ Below B Wa W)
    (fun _ _ _ _ => False)
    ?hI (fun _ _ _ _ _ _ h _ _ _ => h)
    ⟨⟨none, 0, ⟨b0, World.ownsRow_nil _ _ _ _, fun _ h => by cases h⟩⟩, Below.refl _ _⟩
    ?a1 ?assign ?body ?done ?stop
  case assign =>
    intro l x W K hK
    gi_wp2
    exact hK
  case stop =>
    rintro D c pre T W _ _ _ h _
    exact h.elim
  case hI =>
    rintro pre T T' W1 W2 ⟨⟨A, c, h1⟩, hb⟩ hT hm hg
    exact ⟨⟨A, c, h1.tc (fun e => by have := (hT _ e).1; omega) hm hg⟩, hb.trans ⟨hm.os, hm.tape, hm.output, hm.size, fun k hk => hm.block k (by have := hb.size; omega) (fun e => by have := (hT _ e).1; omega)⟩⟩
  case body =>
    rintro l pre x T W hl hT hr ⟨⟨A, c, h1⟩, hb⟩ hlen _
    rw [hsz] at hT
    have hc1 := h1.box.cell
    have hm1 : pre.length + 1 ≤ maxLen := by unfold maxLen; omega
    have hm2 : (pre.length + 1) * 1 ≤ 140737488355328 := by omega
    have hT1 : ∀ k, T k → k < W.heap.size := fun k hk => (hT k hk).2
    have hTa : ¬ T B := fun e => by have := (hT _ e).1; omega
    have hbs : B + 2 ≤ W.heap.size := by have := hb.size; omega
    have hplen : (pre ++ [x]).length = pre.length + 1 := by simp
    have H1 := Lib.hid h1
    have Hb := Lib.hid hb
    clear h1 hb
    gi_wp2_with (gi_at_builtin; refine Hid.out ?_)
    refine Lib.hid ?_
    refine wpListIn_append_own_at _ rfl _ _ 22 rfl (B + 2) 25 ii (.int .i8 0) 1 1 Tryd.underlying22 hii hiz0 hiz1 hiz2 rfl (by decide) _ _ _ rfl (H1.out.row.alloc _) ⟨W.heap.size, 0, none⟩ 1 1 [.int .i8 (x.2 : Int)] rfl rfl (new_cells W [.int .i8 (x.2 : Int)] 25) (by simp [Value.oneCell']) hm1 hm2 (by simp; omega) ?_
    intro v1' w1 hown1 hgrow1 _ hblk1
    obtain ⟨g1, cap1, rfl⟩ := ownsRow_succ hown1
    obtain ⟨hv1, hcol1, hk1, hs1, ho1, ht1, hu1⟩ := H1.out.appended (by decide) hT1 hTa hown1 hgrow1 hblk1
    have hc1' := hv1.cell
    have hf1' := hv1.frozen
    have hfin : ∀ W8, W8 = w1.setCell ⟨B, 0, none⟩ (.slice (some ⟨g1, 0, none⟩) (pre.length + 1) cap1) → KeepN (fun k => k < B + 2 ∧ k ≠ B) T W W8 ∧ (∃ A c, Col T W8 B 22 25 1 (B + 2) (.slice A (pre ++ [x]).length c) (pre ++ [x]).length (saysV (pre ++ [x]))) ∧ Below B Wa W8 := by
      rintro W8 rfl
      have hne : ∀ k, (k < B + 2 ∧ k ≠ B) ∨ T k → (Value.slice A pre.length c).ownBlock ≠ some k ∧ k ≠ B := fun k hk => by
        refine ⟨fun e => ?_, fun e => ?_⟩
        · rcases hk with hk | hk
          · have := (H1.out.row.lt k e).1; omega
          · exact H1.out.apart k e hk
        · rcases hk with hk | hk
          · omega
          · exact hTa (e ▸ hk)
      refine ⟨⟨hs1, fun k hk ho => hk1 k hk (hne k ho).1 (hne k ho).2⟩, ⟨some ⟨g1, 0, none⟩, cap1, ?_⟩, Hb.out.trans ⟨ho1, ht1, hu1, hs1, fun k hk => hk1 k (by omega) (hne k (.inl ⟨by omega, by omega⟩)).1 (by omega)⟩⟩
      rw [hplen, saysV_snoc]
      exact hcol1
    have Hfin := Lib.hid hfin
    clear hcol1 hk1 hs1 ho1 ht1 hu1 hown1 hgrow1 hblk1 hfin hv1
    gi_wp2
    exact Hfin.out _ rfl
  case done =>
    rintro D ys T W hD hT rfl ⟨⟨A, c, h1⟩, hb⟩ hK
    have c1 := h1.box.cell
    have HK := Lib.hid hK
    have H1 := Lib.hid h1
    have Hb := Lib.hid hb
    clear h1 hK hb
    go_wp2
    have hD1 := hT D hD
    refine ⟨by simp, .inl ⟨_, _, rfl, run_takeDeferred HK.out, ?_⟩⟩
    refine ⟨_, results_tmp rfl _ _ _, A, c, rfl, ?_, (hBa.trans Hb.out).trans (belowK_b (w := w) (by omega) _ D _ (.deferred none) (by omega) HK.out rfl rfl)⟩
    exact own_base (row_same H1.out.row (fun k hk => World.putObj_heap_other (fun e => H1.out.apart k hk (e ▸ hD)))) (by omega)

end Go.Proofs.YthkapcnhfdpdbaaDoor

/- Layer 13, the program: the lines of a text: the iterator's contract. (Made by tools/mknbg13.py.) -/
namespace Go.Proofs.YthkapcnhfdpdbaaDoor
open Go.RowKit Go.Shelf Go.Lib
attribute [local go_sem] Oper.semAt_some

theorem ln_mk (s : ByteArray) (w : World) : Calls Tryd.prog 12 #[.string s] w fun e w' =>
    e = .returned (.func (.func 22) #[] #[.pointer (some ⟨w.heap.size, 0, none⟩)]) ∧ w' = w.alloc (.cells #[.string s] 9) := by
  go_enter Tryd.func12, Tryd.ntmps12
  go_wp2
  go_ret
  exact ⟨rfl, rfl⟩
/-- what holds between rounds: f: where the line begins, b: where the last cluster ended -/
structure LnI (s : ByteArray) (l B Bn : Nat) (J : List (Nat × ByteArray) → Bl → World → Prop) (f b : Nat) (told : List (Nat × ByteArray)) (T : Bl) (W : World) : Prop where
  yl : Boxed W B 49 (.func (.yield l) #[] #[])
  fr : Boxed W (B + 1) 3 (.int .i64 (f : Int))
  bo : Boxed W (B + 1 + 1) 3 (.int .i64 (b : Int))
  cm : W.cell? ⟨Bn, 0, none⟩ = some (.string s)
  sz : B + 4 ≤ W.heap.size
  jj : J told (fun k => (B ≤ k ∧ k < B + 4) ∨ T k) W
theorem moves_set0 (T : Bl) (W : World) (B i : Nat) (v : Value) (hB : T B) : Moves T W (W.setCell ⟨B, i, none⟩ v) := moves_set T W B i v hB
/-- what holds behind the round's first if -/
def MidL (s : ByteArray) (l B Bn : Nat) (J : List (Nat × ByteArray) → Bl → World → Prop) (N₀ T : Bl) (W1 : World) (b e v j : Nat) (a' : Act) (w' : World) : Prop := ∃ t11 t12 t13 t14 t15 t16 t17 t18 t19 t20 t21 t22 t23 f1 told1, a' = { tmps := #[.func (.yield l) #[] #[], .pointer (some ⟨Bn, 0, none⟩), .pointer (some ⟨B, 0, none⟩), .pointer (some ⟨B + 1, 0, none⟩), .pointer (some ⟨B + 1 + 1, 0, none⟩), .int .i64 (e : Int), .int .i8 (v : Int), .string s, .func (.func 31) #[] #[.pointer (some ⟨B + 1 + 1 + 1, 0, none⟩)], .int .i64 (e : Int), .int .i8 (v : Int), t11, t12, t13, t14, t15, t16, t17, t18, t19, t20, t21, t22, t23, undef, undef, undef, undef, undef, undef, undef, undef, undef, undef, undef, undef, undef, undef, undef, undef, undef, undef], defers := [] } ∧ Hid (LnI s l B Bn J f1 b told1 T w' ∧ KeepN (fun k => (N₀ k ∧ k < B) ∨ k = B + 1 + 1 + 1) T W1 w' ∧ InT B T w' ∧ f1 ≤ e ∧ (v = 2 → told1 ++ [(f1, s.extract f1 e)] <+: linesN s) ∧ (v = 2 → lnF s (j + 1) = (e, told1 ++ [(f1, s.extract f1 e)])) ∧ (v ≠ 2 → lnF s (j + 1) = (f1, told1)))
section lni
variable {s : ByteArray} {l B Bn : Nat} {J : List (Nat × ByteArray) → Bl → World → Prop} {f b : Nat} {told : List (Nat × ByteArray)} {T : Bl} {W : World}
theorem LnI.inT (h : LnI s l B Bn J f b told T W) (hT : InT B T W) : InT B (fun k => (B ≤ k ∧ k < B + 4) ∨ T k) W := fun k hk => by
  have := h.sz
  rcases hk with hk | hk
  · omega
  · have := hT k hk; omega
theorem LnI.setF (h : LnI s l B Bn J f b told T W) (hJ : TC B J) (hT : InT B T W) (hBn : Bn < B) (f' : Nat) : LnI s l B Bn J f' b told T (W.setCell ⟨B + 1, 0, none⟩ (.int .i64 (f' : Int))) :=
  ⟨h.yl.other (by omega) _, h.fr.set _, h.bo.other (by omega) _, by
    have := (Below.refl B W).setCell (p := ⟨B + 1, 0, none⟩) (show B ≤ B + 1 by omega) (.int .i64 (f' : Int))
    exact (this.cell (p := ⟨Bn, 0, none⟩) hBn).trans h.cm, by simpa using h.sz, hJ.of h.jj (h.inT hT) (moves_set _ _ _ _ _ (.inl (by omega)))⟩
theorem LnI.setB (h : LnI s l B Bn J f b told T W) (hJ : TC B J) (hT : InT B T W) (hBn : Bn < B) (b' : Nat) : LnI s l B Bn J f b' told T (W.setCell ⟨B + 1 + 1, 0, none⟩ (.int .i64 (b' : Int))) :=
  ⟨h.yl.other (by omega) _, h.fr.other (by omega) _, h.bo.set _, by
    have := (Below.refl B W).setCell (p := ⟨B + 1 + 1, 0, none⟩) (show B ≤ B + 1 + 1 by omega) (.int .i64 (b' : Int))
    exact (this.cell (p := ⟨Bn, 0, none⟩) hBn).trans h.cm, by simpa using h.sz, hJ.of h.jj (h.inT hT) (moves_set _ _ _ _ _ (.inl (by omega)))⟩
end lni
set_option maxRecDepth 100000 in
set_option maxHeartbeats 4000000 in
theorem seqLn (n : Nat) (hn : 7 ≤ n) (Bn : Nat) (N₀ : Bl) (s : ByteArray) (w : World) (hBn : N₀ Bn) (hN0 : N₀ 0) (hN1 : N₀ 1)
    (hcs : w.cell? ⟨Bn, 0, none⟩ = some (.string s)) (hs : s.size ≤ 140737488351232) (hT : Utf8Tabs 0 1 w) :
    SeqN Fence.wide n Tryd.prog 22 #[.pointer (some ⟨Bn, 0, none⟩)] encCl (fun ys => ys = linesN s) (fun pre => pre <+: linesN s) (linesN s).length N₀ w := by
  intro l J Jx W hW hJ hJx hY h0
  have hcW : W.cell? ⟨Bn, 0, none⟩ = some (.string s) := (hW.cell (p := ⟨Bn, 0, none⟩) (cell_ltN hcs)).trans hcs
  have hTW : Utf8Tabs 0 1 W := Utf8Tabs_below hT hW
  have h2 := tabs_size hTW
  obtain ⟨B, hB⟩ : ∃ B, W.heap.size = B := ⟨_, rfl⟩
  have hBnB : Bn < B := by rw [← hB]; exact cell_ltN hcW
  rw [hB] at hJ hJx hY h2 ⊢
  have HTW := Lib.hid hTW
  have HE := Lib.hid (fun W => en_mk s W)
  have HL := Lib.hid (show ∀ (F : Fence) (l' m' : Nat) (f b : Nat) (told : List (Nat × ByteArray)) (x : Nat × ByteArray) (T : Bl) (W1 : World), LnI s l B Bn J f b told T W1 → InT B T W1 → told ++ [x] <+: linesN s →
      YieldAt Fence.wide (n - 1) Tryd.prog l (encCl x) W1.drew (fun e W' => ∃ b' : Bool, e = .returned (.bool b') ∧ (b' = true → LnI s l B Bn J f b (told ++ [x]) T W') ∧ (b' = false → Jx (told ++ [x]) (fun k => (B ≤ k ∧ k < B + 4) ∨ T k) W') ∧ KeepN N₀ (fun k => (B ≤ k ∧ k < B + 4) ∨ T k) W1 W' ∧ W1.heap.size ≤ W'.heap.size) from fun F l' m' f b told x T W1 hi hT1 hpf => by
    obtain ⟨fn, tmps, assign, body, hy, hR⟩ := hY told x _ W1.drew (hJ.of hi.jj (hi.inT hT1) ⟨rfl, rfl, rfl, Nat.le_refl _, fun _ _ _ => rfl⟩) (hi.inT hT1) (len_pfx hpf) hpf
    refine ⟨fn, tmps, assign, body, hy, hR.mono ?_⟩
    have hsz := hi.sz
    have key : ∀ W', KeepN N₀ (fun k => (B ≤ k ∧ k < B + 4) ∨ T k) W1.drew W' → J (told ++ [x]) (fun k => (B ≤ k ∧ k < B + 4) ∨ T k) W' → LnI s l B Bn J f b (told ++ [x]) T W' := fun W' h2 h1 =>
      ⟨(h2.block B (show B < W1.heap.size by omega) (.inr (.inl (by omega)))).trans hi.yl, (h2.block (B + 1) (show B + 1 < W1.heap.size by omega) (.inr (.inl (by omega)))).trans hi.fr, (h2.block (B + 1 + 1) (show B + 1 + 1 < W1.heap.size by omega) (.inr (.inl (by omega)))).trans hi.bo, h2.cell (p := ⟨Bn, 0, none⟩) (.inl hBn) hi.cm, Nat.le_trans hsz h2.size, h1⟩
    rintro e W' (⟨rfl, h1, h2⟩ | ⟨rfl, h1, h2⟩)
    · exact ⟨true, rfl, fun _ => key W' h2 h1, fun e => (by cases e), ⟨h2.size, h2.block⟩, h2.size⟩
    · exact ⟨false, rfl, fun e => (by cases e), fun _ => h1, ⟨h2.size, h2.block⟩, h2.size⟩)
  clear hcs hW hT hY hTW
  obtain ⟨W3, hW3⟩ : ∃ W3, ((W.alloc (.cells #[.func (.yield l) #[] #[]] 49)).alloc (.cells #[.int .i64 0] 3)).alloc (.cells #[.int .i64 0] 3) = W3 := ⟨_, rfl⟩
  have d0 : Boxed W3 B 49 (.func (.yield l) #[] #[]) := by
    rw [← hW3]
    have h := Boxed.new W 49 (.func (.yield l) #[] #[])
    rw [hB] at h
    exact (h.alloc _).alloc _
  have d1 : Boxed W3 (B + 1) 3 (.int .i64 0) := by
    rw [← hW3]
    have h := Boxed.new (W.alloc (.cells #[.func (.yield l) #[] #[]] 49)) 3 (.int .i64 0)
    rw [World.size_alloc, hB] at h
    exact h.alloc _
  have d2 : Boxed W3 (B + 1 + 1) 3 (.int .i64 0) := by
    rw [← hW3]
    have h := Boxed.new ((W.alloc (.cells #[.func (.yield l) #[] #[]] 49)).alloc (.cells #[.int .i64 0] 3)) 3 (.int .i64 0)
    rw [World.size_alloc, World.size_alloc, hB] at h
    exact h
  have z3 : W3.heap.size = B + 3 := by rw [← hW3]; simp [hB]
  have r3 : Below B W W3 := by
    rw [← hW3]
    exact (((Below.refl B W).alloc (by omega) _).alloc (by simp; omega) _).alloc (by simp; omega) _
  have d1c := d1.cell
  have d1f := d1.frozen
  obtain ⟨W4, hW4⟩ : ∃ W4, W3.setCell ⟨B + 1, 0, none⟩ (.int .i64 0) = W4 := ⟨_, rfl⟩
  have e0 : Boxed W4 B 49 (.func (.yield l) #[] #[]) := by rw [← hW4]; exact d0.other (by omega) _
  have e1 : Boxed W4 (B + 1) 3 (.int .i64 0) := by rw [← hW4]; exact d1.set _
  have e2 : Boxed W4 (B + 1 + 1) 3 (.int .i64 0) := by rw [← hW4]; exact d2.other (by omega) _
  have r4 : Below B W W4 := by rw [← hW4]; exact r3.setCell (p := ⟨B + 1, 0, none⟩) (by show B ≤ B + 1; omega) _
  have z4 : W4.heap.size = B + 3 := by rw [← hW4]; simp [z3]
  have e2c := e2.cell
  have e2f := e2.frozen
  obtain ⟨W5, hW5⟩ : ∃ W5, W4.setCell ⟨B + 1 + 1, 0, none⟩ (.int .i64 0) = W5 := ⟨_, rfl⟩
  have g0 : Boxed W5 B 49 (.func (.yield l) #[] #[]) := by rw [← hW5]; exact e0.other (by omega) _
  have g1 : Boxed W5 (B + 1) 3 (.int .i64 ((0 : Nat) : Int)) := by rw [← hW5]; exact e1.other (by omega) _
  have g2 : Boxed W5 (B + 1 + 1) 3 (.int .i64 ((0 : Nat) : Int)) := by rw [← hW5]; exact e2.set _
  have r5 : Below B W W5 := by rw [← hW5]; exact r4.setCell (p := ⟨B + 1 + 1, 0, none⟩) (by show B ≤ B + 1 + 1; omega) _
  have z5 : W5.heap.size = B + 3 := by rw [← hW5]; simp [z4]
  have m5 : W5.cell? ⟨Bn, 0, none⟩ = some (.string s) := (r5.cell (p := ⟨Bn, 0, none⟩) hBnB).trans hcW
  clear d0 d1 d2 e0 e1 e2
  refine callsIn_of_wp_marks Tryd.func22 rfl trivial ?_ rfl
  refine wpIn_wide.2 ?_
  simp only [Tryd.ntmps22, List.size_toArray, List.length_cons, List.length_nil, Nat.reduceAdd, Nat.reduceSub, Array.replicate_succ, Array.replicate_zero, List.push_toArray, List.append_toArray, List.nil_append, List.cons_append]
  go_wp2_with fail
  refine (HE.out _).mono ?_
  rintro _ Wa ⟨rfl, hWa⟩
  have b0 : Boxed Wa B 49 (.func (.yield l) #[] #[]) := by rw [hWa]; exact g0.alloc _
  have b1 : Boxed Wa (B + 1) 3 (.int .i64 ((0 : Nat) : Int)) := by rw [hWa]; exact g1.alloc _
  have b2 : Boxed Wa (B + 1 + 1) 3 (.int .i64 ((0 : Nat) : Int)) := by rw [hWa]; exact g2.alloc _
  have hsz : Wa.heap.size = B + 4 := by rw [hWa, World.size_alloc, z5]
  have b3 : Boxed Wa (B + 1 + 1 + 1) 9 (.string s) := by
    have h := Boxed.new W5 9 (.string s)
    rw [z5, ← hWa] at h
    exact h
  have hBa : Below B W Wa := by rw [hWa]; exact r5.alloc (by omega) _
  rw [z5]
  clear hW3 hW4 hW5 g0 g1 g2 d1c d1f e2c e2f m5 r3 r4 r5 z3 z4
  have hca : Wa.cell? ⟨Bn, 0, none⟩ = some (.string s) := (hBa.cell (p := ⟨Bn, 0, none⟩) hBnB).trans hcW
  have hTa : Utf8Tabs 0 1 Wa := Utf8Tabs_below HTW.out (by rw [hB]; exact hBa)
  have hJa : J [] (fun k => B ≤ k ∧ k < B + 4) Wa := hJ _ _ _ _ _ h0 (fun _ h => h.elim) (.of_below _ (by rw [hB]; exact hBa)) ⟨fun _ h => h.elim, fun k hk => .inr (by omega)⟩
  clear hWa
  go_wp2_with fail
  refine (wpIn_wide (n := n)).1 ?_
  refine range_N1 rfl (by omega) (gf := 31) (lb := #[.pointer (some ⟨B + 1 + 1 + 1, 0, none⟩)]) rfl trivial (enters_of Tryd.func31 (by kernel_rfl) rfl)
    (seqEn (n - 1) (by omega) (B + 1 + 1 + 1) (fun k => (N₀ k ∧ k < B) ∨ k = B + 1 + 1 + 1) s Wa (.inr rfl) (.inl ⟨hN0, by omega⟩) (.inl ⟨hN1, by omega⟩) b3.cell hs hTa) (fun k hk => by omega) (fun _ => rfl)
    (fun pre T W' => LnI s l B Bn J (lnF s pre.length).1 (sumB ((pcs s).take pre.length)) (lnF s pre.length).2 T W')
    (fun c pre T W' => c = .ret ∧ (B + 4) ≤ W'.heap.size ∧ ∃ q, q <+: linesN s ∧ Jx q (fun k => (B ≤ k ∧ k < B + 4) ∨ T k) W')
    ?hI ?hIx
    ⟨b0, b1, b2, hca, by omega, by exact hJ _ _ _ _ _ hJa (fun k hk => by omega) (.refl _ _) ⟨fun k hk => .inl hk, fun k hk => .inl (hk.elim id False.elim)⟩⟩
    ?a1 ?assign ?body ?done ?stop
  case assign =>
    intro l x W K hK
    gi_wp2
    exact hK
  case hI =>
    rintro pre T T' A A' h hT hm hg
    have hlow : ∀ k, k < B + 4 → A'.heap[k]? = A.heap[k]? := fun k hk => hm.block k (by have := h.sz; omega) (fun e => by have := (hT _ e).1; omega)
    have hbl : KeepN (fun k => k < B + 4) (fun _ => False) A A' := ⟨hm.size, fun k _ hk => hlow k (hk.elim id False.elim)⟩
    refine ⟨(hlow _ (by omega)).trans h.yl, (hlow _ (by omega)).trans h.fr, (hlow _ (by omega)).trans h.bo, hbl.cell (p := ⟨Bn, 0, none⟩) (.inl (show Bn < B + 4 by omega)) h.cm, Nat.le_trans h.sz hm.size, ?_⟩
    refine hJ _ _ _ _ _ h.jj (fun k hk => ?_) (hm.mono fun k hk => .inr hk) ⟨fun k hk => hk.imp id (hg.1 k), fun k hk => ?_⟩
    · have := h.sz
      rcases hk with hk | hk
      · omega
      · have := hT k hk; omega
    · rcases hk with hk | hk
      · exact .inl (.inl hk)
      · exact (hg.2 k hk).imp .inr id
  case hIx =>
    rintro cd pre T T' A A' ⟨rfl, hsA, q, hq, h9⟩ hT hm hg
    refine ⟨rfl, Nat.le_trans hsA hm.size, q, hq, hJx _ _ _ _ _ h9 (fun k hk => ?_) (hm.mono fun k hk => .inr hk) ⟨fun k hk => hk.imp id (hg.1 k), fun k hk => ?_⟩⟩
    · rcases hk with hk | hk
      · omega
      · have := hT k hk; omega
    · rcases hk with hk | hk
      · exact .inl (.inl hk)
      · exact (hg.2 k hk).imp .inr id
  case body =>
    rintro l1 pre y T W1 hl1 hT1 hr1 hi hlen hsp
    have hget := prefix_get hsp
    obtain ⟨j, hj⟩ : ∃ j, pre.length = j := ⟨_, rfl⟩
    rw [hj] at hget hi hlen
    have hplen : (pre ++ [y]).length = j + 1 := by simp [hj]
    obtain ⟨x, hx⟩ : ∃ x, (pcs s)[j]? = some x := ⟨_, List.getElem?_eq_getElem (by rw [ends_len] at hlen; exact hlen)⟩
    obtain ⟨v, hv, hwv⟩ := ends_get s j x hx
    rw [hget] at hv
    obtain rfl := Option.some.inj hv
    have hR := ln_round hx hwv
    obtain ⟨f, hf⟩ : ∃ f, (lnF s j).1 = f := ⟨_, rfl⟩
    obtain ⟨told, htold⟩ : ∃ told, (lnF s j).2 = told := ⟨_, rfl⟩
    obtain ⟨b, hb⟩ : ∃ b, sumB ((pcs s).take j) = b := ⟨_, rfl⟩
    obtain ⟨e, he⟩ : ∃ e, x.1 + x.2.size = e := ⟨_, rfl⟩
    rw [hf, htold, hb, he] at hR
    rw [hf, htold, hb] at hi
    rw [he] at hplen ⊢
    have hfb := hR.fb
    have hbe := hR.be
    have hes := hR.es
    have HR := Lib.hid hR
    have hw1 : IntKind.i64.wrap ((e : Int) - (f : Int)) = ((e - f : Nat) : Int) := by rw [IntWalk.i64_in _ (by omega)]; omega
    have c0 := hi.yl.cell
    have c1 := hi.fr.cell
    have c1f := hi.fr.frozen
    have c2 := hi.bo.cell
    have c2f := hi.bo.frozen
    have hin1 : InT B T W1 := fun k hk => by have := hT1 k hk; omega
    have HK0 := Lib.hid (KeepN.refl (fun k => (N₀ k ∧ k < B) ∨ k = B + 1 + 1 + 1) T W1)
    have hkT : ∀ (W2 W' : World), KeepN (fun k => (N₀ k ∧ k < B) ∨ k = B + 1 + 1 + 1) T W1 W2 → KeepN N₀ (fun k => (B ≤ k ∧ k < B + 4) ∨ T k) W2 W' → KeepN (fun k => (N₀ k ∧ k < B) ∨ k = B + 1 + 1 + 1) T W1 W' := fun W2 W' h1 h2 => h1.trans ⟨h2.size, fun k hk ho => h2.block k hk (by
      rcases ho with (ho | ho) | ho
      · exact .inl ho.1
      · exact .inr (.inl (by omega))
      · exact .inr (.inr ho))⟩
    have hkS : ∀ (W2 : World) (k : Nat) (v : Value), KeepN (fun k => (N₀ k ∧ k < B) ∨ k = B + 1 + 1 + 1) T W1 W2 → (k = B + 1 ∨ k = B + 1 + 1) → KeepN (fun k => (N₀ k ∧ k < B) ∨ k = B + 1 + 1 + 1) T W1 (W2.setCell ⟨k, 0, none⟩ v) := fun W2 k v h1 hk => h1.trans (KeepN.setCell _ _ _ _ _ _ (by omega) (fun e => by have := (hT1 _ e).1; omega))
    have HkT := Lib.hid hkT
    have HkS := Lib.hid hkS
    have HI := Lib.hid hi
    have hn1 : 1 ≤ n - 1 - 1 := by omega
    have hfs : (f : Int) ≤ (s.size : Int) := by omega
    have hbs : (b : Int) ≤ (s.size : Int) := by omega
    have hesI : (e : Int) ≤ (s.size : Int) := by omega
    have hfbI : (f : Int) ≤ (b : Int) := by omega
    have hbeI : (b : Int) ≤ (e : Int) := by omega
    have hfeI : (f : Int) ≤ (e : Int) := by omega
    have hf0 : (0 : Int) ≤ (f : Int) := by omega
    have hb0 : (0 : Int) ≤ (b : Int) := by omega
    clear hi hR hkT hkS hget hsp hx hwv hf htold hb he
    refine wpIn_block ?_
    refine wpIn_seq ?_
    refine wpIn_mono (Q := Exit.then (MidL s l B Bn J N₀ T W1 b e v j) (Exit.inBlock 1 (postN (fun k => (N₀ k ∧ k < B) ∨ k = B + 1 + 1 + 1) (fun pre T W' => LnI s l B Bn J (lnF s pre.length).1 (sumB ((pcs s).take pre.length)) (lnF s pre.length).2 T W') (fun c pre T W' => c = .ret ∧ (B + 4) ≤ W'.heap.size ∧ ∃ q, q <+: linesN s ∧ Jx q (fun k => (B ≤ k ∧ k < B + 4) ∨ T k) W') (pre ++ [(e, v)]) T W1))) ?first ?join
    case first =>
      by_cases hlong : 65536 < e - f
      · have hgt : (65536 : Int) < ((e - f : Nat) : Int) := by omega
        have HIa := HI
        have HKWa := HK0
        have HIna := Lib.hid hin1
        have hpa := HR.out.long hlong
        clear HI
        obtain ⟨fna, tmpsa, assigna, bodya, hya, hRRa⟩ := HL.out Fence.wide l1 0 f b told (f, s.extract f b) T W1 HIa.out (HIna.out) (hpa)
        dsimp only [encCl] at hya
        have hRa := Lib.hid (roundIn_wide (m' := n - 1 - 1 - 1) (l' := l1) hRRa)
        have y0a : W1.drew.cell? ⟨B, 0, none⟩ = some (.func (.yield l) #[] #[]) := HIa.out.yl.cell
        have y1a : W1.drew.cell? ⟨B + 1, 0, none⟩ = some (.int .i64 (f : Int)) := HIa.out.fr.cell
        have y2a : W1.drew.cell? ⟨B + 1 + 1, 0, none⟩ = some (.int .i64 (b : Int)) := HIa.out.bo.cell
        have y3a : W1.drew.cell? ⟨Bn, 0, none⟩ = some (.string s) := HIa.out.cm
        clear hRRa
        gi_wp2_with fail
        refine region_read 6 [(15, .func (.yield l) #[] #[]), (16, .int .i64 (f : Int)), (17, .string s), (18, .int .i64 (f : Int)), (19, .int .i64 (b : Int)), (20, .string (s.extract f b))] (by kernel_rfl) (by kernel_rfl) (by simp) ?hreada ?hfina
        case hreada =>
          clear HL HTW HE hJ hJx h0 hcW hTa hJa b0 b1 b2 b3 hBa hca hl1 hT1 hr1 HR HkT HkS HIa HK0 hRa hya
          dsimp only [List.take, readRuns, puts, Act.put]
          refine ⟨?_, ?_, ?_, ?_, ?_, ?_, trivial⟩
          all_goals go_simp
        case hfina =>
          simp only [puts, Act.put]
          refine wpAnyIn_ready (rs := [6]) (by kernel_rfl) (by simp) ?_
          refine AllReadyIn.cons rfl (fun K hK => ?_) AllReadyIn.nil
          go_simp
          refine hRa.out.mono ?_
          rintro _ Ya ⟨bb, rfl, hbt, hbf, hk6, hz6⟩
          have hkeepa := HkT.out _ _ HKWa.out hk6
          have hzza : (B + 4) ≤ Ya.heap.size := Nat.le_trans HIa.out.sz hz6
          have HInYa := Lib.hid (show InT B T Ya from HIna.out.more hz6)
          refine hK _ _ ?_
          refine wpAnyIn_ready (rs := [7]) (by kernel_rfl) (by simp) ?_
          refine AllReadyIn.cons rfl (fun K2 hK2 => ?_) AllReadyIn.nil
          go_simp
          refine hK2 _ _ ?_
          refine wpAnyIn_done (by kernel_rfl) ?_ _
          clear hK hK2 hk6 hz6
          cases bb with
          | false =>
            have Hfin := Lib.hid (show _ ∧ _ ∧ _ from ⟨hkeepa, hzza, hbf rfl⟩)
            have Hpf := Lib.hid (hpa)
            clear hkeepa hbt hbf hJ hJx
            gi_wp2_with fail
            exact ⟨Hfin.out.1, rfl, Hfin.out.2.1, _, Hpf.out, Hfin.out.2.2⟩
          | true =>
            have HIYa := Lib.hid (hbt rfl)
            have HKYa := Lib.hid hkeepa
            clear hkeepa hbt hbf
            have z1 := HIYa.out.fr.cell
            have z1f := HIYa.out.fr.frozen
            have z2 := HIYa.out.bo.cell
            have HX := Lib.hid (show LnI s l B Bn J b b (told ++ [(f, s.extract f b)]) T (Ya.setCell ⟨B + 1, 0, none⟩ (.int .i64 (b : Int))) ∧ KeepN (fun k => (N₀ k ∧ k < B) ∨ k = B + 1 + 1 + 1) T W1 (Ya.setCell ⟨B + 1, 0, none⟩ (.int .i64 (b : Int))) ∧ InT B T (Ya.setCell ⟨B + 1, 0, none⟩ (.int .i64 (b : Int))) ∧ b ≤ e ∧ (v = 2 → told ++ [(f, s.extract f b)] ++ [(b, s.extract b e)] <+: linesN s) ∧ (v = 2 → lnF s (j + 1) = (e, told ++ [(f, s.extract f b)] ++ [(b, s.extract b e)])) ∧ (v ≠ 2 → lnF s (j + 1) = (b, told ++ [(f, s.extract f b)])) from ⟨HIYa.out.setF hJ HInYa.out hBnB b, HkS.out _ _ _ HKYa.out (.inl rfl), HInYa.out.more (by simp), by omega, HR.out.longmust hlong, HR.out.nLM hlong, HR.out.nL hlong⟩)
            clear hJ hJx HIYa HKYa HInYa
            gi_wp2_with fail
            exact ⟨_, _, _, _, _, _, _, _, _, _, _, _, _, _, _, rfl, HX⟩
      · have hgt : ¬ (65536 : Int) < ((e - f : Nat) : Int) := by omega
        have HX := Lib.hid (show LnI s l B Bn J f b told T W1 ∧ KeepN (fun k => (N₀ k ∧ k < B) ∨ k = B + 1 + 1 + 1) T W1 W1 ∧ InT B T W1 ∧ f ≤ e ∧ (v = 2 → told ++ [(f, s.extract f e)] <+: linesN s) ∧ (v = 2 → lnF s (j + 1) = (e, told ++ [(f, s.extract f e)])) ∧ (v ≠ 2 → lnF s (j + 1) = (f, told)) from ⟨HI.out, HK0.out, hin1, by omega, HR.out.must hlong, HR.out.nM hlong, HR.out.nN hlong⟩)
        clear hJ hJx HI
        gi_wp2_with fail
        exact ⟨_, _, _, _, _, _, _, _, _, _, _, _, _, _, _, rfl, HX⟩
    case join =>
      rintro ex a2 W2 hm
      cases ex with
      | ret => exact hm
      | exit id => exact hm
      | goto t => exact hm
      | panic ch => exact hm
      | outgrown => exact hm
      | normal =>
        obtain ⟨t11, t12, t13, t14, t15, t16, t17, t18, t19, t20, t21, t22, t23, f1, told1, rfl, HX⟩ := hm
        clear c0 c1 c1f c2 c2f hw1 hfs hfbI hfeI hf0 HI hfb
        have hf1e : f1 ≤ e := HX.out.2.2.2.1
        obtain ⟨W3, hW3⟩ : ∃ W3, W2.setCell ⟨B + 1 + 1, 0, none⟩ (.int .i64 (e : Int)) = W3 := ⟨_, rfl⟩
        have HIb := Lib.hid (show LnI s l B Bn J f1 e told1 T W3 from by rw [← hW3]; exact HX.out.1.setB hJ HX.out.2.2.1 hBnB e)
        have HKWb := Lib.hid (show KeepN (fun k => (N₀ k ∧ k < B) ∨ k = B + 1 + 1 + 1) T W1 W3 from by rw [← hW3]; exact HkS.out _ _ _ HX.out.2.1 (.inr rfl))
        have HInb := Lib.hid (show InT B T W3 from by rw [← hW3]; exact HX.out.2.2.1.more (by simp))
        have p2 := HX.out.1.bo.cell
        have p2f := HX.out.1.bo.frozen
        have c0 := HIb.out.yl.cell
        have c1 := HIb.out.fr.cell
        have c1f := HIb.out.fr.frozen
        try simp only [Exit.then]
        by_cases hv2 : v = 2
        · have hveq : ((v : Int) == 2) = true := by simp [hv2]
          have hpb := HX.out.2.2.2.2.1 hv2
          have hst := HX.out.2.2.2.2.2.1 hv2
          have hfs : (f1 : Int) ≤ (s.size : Int) := by omega
          have hfeI : (f1 : Int) ≤ (e : Int) := by omega
          have hf0 : (0 : Int) ≤ (f1 : Int) := by omega
          have Hst := Lib.hid hst
          have Hpb := Lib.hid hpb
          clear hst hpb HX hv2
          obtain ⟨fnb, tmpsb, assignb, bodyb, hyb, hRRb⟩ := HL.out Fence.wide l1 0 f1 e told1 (f1, s.extract f1 e) T W3 HIb.out (HInb.out) (Hpb.out)
          dsimp only [encCl] at hyb
          have hRb := Lib.hid (roundIn_wide (m' := n - 1 - 1 - 1) (l' := l1) hRRb)
          have y0b : W3.drew.cell? ⟨B, 0, none⟩ = some (.func (.yield l) #[] #[]) := HIb.out.yl.cell
          have y1b : W3.drew.cell? ⟨B + 1, 0, none⟩ = some (.int .i64 (f1 : Int)) := HIb.out.fr.cell
          have y2b : W3.drew.cell? ⟨B + 1 + 1, 0, none⟩ = some (.int .i64 (e : Int)) := HIb.out.bo.cell
          have y3b : W3.drew.cell? ⟨Bn, 0, none⟩ = some (.string s) := HIb.out.cm
          clear hRRb
          gi_wp2_with fail
          refine region_read 6 [(27, .func (.yield l) #[] #[]), (28, .int .i64 (f1 : Int)), (29, .string s), (30, .int .i64 (f1 : Int)), (31, .int .i64 (e : Int)), (32, .string (s.extract f1 e))] (by kernel_rfl) (by kernel_rfl) (by simp) ?hreadb ?hfinb
          case hreadb =>
            clear HL HTW HE hJ hJx h0 hcW hTa hJa b0 b1 b2 b3 hBa hca hl1 hT1 hr1 HR HkT HkS HIb HK0 hRb hyb
            dsimp only [List.take, readRuns, puts, Act.put]
            refine ⟨?_, ?_, ?_, ?_, ?_, ?_, trivial⟩
            all_goals go_simp
          case hfinb =>
            simp only [puts, Act.put]
            refine wpAnyIn_ready (rs := [6]) (by kernel_rfl) (by simp) ?_
            refine AllReadyIn.cons rfl (fun K hK => ?_) AllReadyIn.nil
            go_simp
            refine hRb.out.mono ?_
            rintro _ Yb ⟨bb, rfl, hbt, hbf, hk6, hz6⟩
            have hkeepb := HkT.out _ _ HKWb.out hk6
            have hzzb : (B + 4) ≤ Yb.heap.size := Nat.le_trans HIb.out.sz hz6
            have HInYb := Lib.hid (show InT B T Yb from HInb.out.more hz6)
            refine hK _ _ ?_
            refine wpAnyIn_ready (rs := [7]) (by kernel_rfl) (by simp) ?_
            refine AllReadyIn.cons rfl (fun K2 hK2 => ?_) AllReadyIn.nil
            go_simp
            refine hK2 _ _ ?_
            refine wpAnyIn_done (by kernel_rfl) ?_ _
            clear hK hK2 hk6 hz6
            cases bb with
            | false =>
              have Hfin := Lib.hid (show _ ∧ _ ∧ _ from ⟨hkeepb, hzzb, hbf rfl⟩)
              have Hpf := Lib.hid (Hpb.out)
              clear hkeepb hbt hbf hJ hJx
              gi_wp2_with fail
              exact ⟨Hfin.out.1, rfl, Hfin.out.2.1, _, Hpf.out, Hfin.out.2.2⟩
            | true =>
              have HIYb := Lib.hid (hbt rfl)
              have HKYb := Lib.hid hkeepb
              clear hkeepb hbt hbf
              have z1 := HIYb.out.fr.cell
              have z1f := HIYb.out.fr.frozen
              have Hfin := Lib.hid (show KeepN (fun k => (N₀ k ∧ k < B) ∨ k = B + 1 + 1 + 1) T W1 (Yb.setCell ⟨B + 1, 0, none⟩ (.int .i64 (e : Int))) ∧ LnI s l B Bn J (lnF s (pre ++ [(e, v)]).length).1 (sumB ((pcs s).take (pre ++ [(e, v)]).length)) (lnF s (pre ++ [(e, v)]).length).2 T (Yb.setCell ⟨B + 1, 0, none⟩ (.int .i64 (e : Int))) from ⟨HkS.out _ _ _ HKYb.out (.inl rfl), by rw [hplen, HR.out.bord, Hst.out]; exact HIYb.out.setF hJ HInYb.out hBnB e⟩)
              clear hJ hJx HIYb HKYb HInYb
              gi_wp2_with fail
              exact Hfin.out
        · have hveq : ((v : Int) == 2) = false := by simp; omega
          have Hfin := Lib.hid (show KeepN (fun k => (N₀ k ∧ k < B) ∨ k = B + 1 + 1 + 1) T W1 W3 ∧ LnI s l B Bn J (lnF s (pre ++ [(e, v)]).length).1 (sumB ((pcs s).take (pre ++ [(e, v)]).length)) (lnF s (pre ++ [(e, v)]).length).2 T W3 from ⟨HKWb.out, by rw [hplen, HR.out.bord, HX.out.2.2.2.2.2.2 hv2]; exact HIb.out⟩)
          clear hJ hJx HX hv2
          gi_wp2_with fail
          exact Hfin.out
  case done =>
    rintro D ys T W2 hD hT2 rfl hi hK
    rw [ends_len] at hi
    have hT2 : InT B T W2 := fun k hk => by have := hT2 k hk; omega
    have hla := lines_last s
    have hle := lnF_le s (pcs s).length (Nat.le_refl _)
    have hbz : sumB ((pcs s).take (pcs s).length) = s.size := by rw [List.take_length, pcs_sum]
    rw [hbz] at hi hle
    obtain ⟨f, hf⟩ : ∃ f, (lnF s (pcs s).length).1 = f := ⟨_, rfl⟩
    obtain ⟨told, htold⟩ : ∃ told, (lnF s (pcs s).length).2 = told := ⟨_, rfl⟩
    rw [hf, htold] at hi hla
    rw [hf] at hle
    have hpf : told ++ [(f, s.extract f s.size)] <+: linesN s := by rw [hla]; exact List.prefix_refl _
    obtain ⟨fn, tmps, assign, body, hy, hR⟩ := HL.out Fence.wide l 0 f s.size told (f, s.extract f s.size) T W2 hi hT2 hpf
    dsimp only [encCl] at hy
    have hR2 := Lib.hid hR
    have y0 : W2.drew.cell? ⟨B, 0, none⟩ = some (.func (.yield l) #[] #[]) := hi.yl.cell
    have y1 : W2.drew.cell? ⟨B + 1, 0, none⟩ = some (.int .i64 (f : Int)) := hi.fr.cell
    have y3 : W2.drew.cell? ⟨Bn, 0, none⟩ = some (.string s) := hi.cm
    have hfs : (f : Int) ≤ (s.size : Int) := by omega
    have hf0 : (0 : Int) ≤ (f : Int) := by omega
    have HK := Lib.hid hK
    have Hla := Lib.hid hla
    have Hin := Lib.hid (hi.inT hT2)
    have Hpf := Lib.hid hpf
    have hTs : D < W2.heap.size := (hT2 D hD).2
    clear hR hi hK hla hpf hf htold hbz
    go_wp2_with fail
    refine (wpIn_wide (n := n)).1 ?_
    refine region_read 5 [(36, .func (.yield l) #[] #[]), (37, .int .i64 (f : Int)), (38, .string s), (39, .int .i64 (f : Int)), (40, .string (s.extract f s.size))] (by kernel_rfl) (by kernel_rfl) (by simp) ?hread2 ?hfin2
    case hread2 =>
      clear HL HTW HE hJ hJx h0 hcW hTa hJa b0 b1 b2 b3 hBa hca hT2 hR2 HK Hla Hin Hpf hy
      dsimp only [List.take, readRuns, puts, Act.put]
      refine ⟨?_, ?_, ?_, ?_, ?_, trivial⟩
      all_goals go_simp
    case hfin2 =>
      simp only [puts, Act.put]
      refine wpAnyIn_ready (rs := [5]) (by kernel_rfl) (by simp) ?_
      refine AllReadyIn.cons rfl (fun K hK => ?_) AllReadyIn.nil
      go_simp
      refine ⟨fun _ => by omega, hR2.out.mono ?_⟩
      rintro _ W6 ⟨bb, rfl, hbt, hbf, hk6, hz6⟩
      have hD6 : W6.heap[D]? = some (.deferred (some [])) := (hk6.block D hTs (.inr (.inr hD))).trans HK.out
      have hin6 : InT B (fun k => (B ≤ k ∧ k < B + 4) ∨ T k) W6 := Hin.out.more hz6
      have hmv := Moves.putObj (fun k => (B ≤ k ∧ k < B + 4) ∨ T k) W6 D (.deferred none) (.inr hD)
      have Hres : Hid ((∃ xs T', xs = linesN s ∧ J xs T' (W6.putObj D (.deferred none)) ∧ InT B T' (W6.putObj D (.deferred none))) ∨ (∃ pre T', pre <+: linesN s ∧ Jx pre T' (W6.putObj D (.deferred none)) ∧ InT B T' (W6.putObj D (.deferred none)))) := Lib.hid (by
        cases bb with
        | true => exact .inl ⟨_, _, Hla.out.symm, hJ.of (hbt rfl).jj hin6 hmv, hin6.more hmv.size⟩
        | false => exact .inr ⟨_, _, Hpf.out, hJx.of (hbf rfl) hin6 hmv, hin6.more hmv.size⟩)
      have HD6 := Lib.hid hD6
      clear hbt hbf hk6 hin6 hmv hD6 hR2 hJ hJx
      refine hK _ _ ?_
      refine wpAnyIn_done (by kernel_rfl) ?_ _
      clear hK
      gi_wp2_with fail
      refine ⟨by simp, .inl ⟨_, _, rfl, run_takeDeferred HD6.out, ?_⟩⟩
      exact ⟨_, results_none rfl _ _ _, ⟨_, rfl⟩, Hres.out⟩
  case stop =>
    rintro D c pre T W2 hD hT2 _ ⟨rfl, hsA, q, hq, h9⟩ hK
    have hin : InT B (fun k => (B ≤ k ∧ k < B + 4) ∨ T k) W2 := fun k hk => by
      rcases hk with hk | hk
      · omega
      · have := hT2 k hk; omega
    have hmv := Moves.putObj (fun k => (B ≤ k ∧ k < B + 4) ∨ T k) W2 D (.deferred none) (.inr hD)
    have hJf := hJx.of h9 hin hmv
    have hinf := hin.more hmv.size
    have HK := Lib.hid hK
    clear h9 hK
    gi_wp2_with fail
    refine ⟨by simp, .inl ⟨_, _, rfl, run_takeDeferred HK.out, ?_⟩⟩
    exact ⟨_, results_none rfl _ _ _, ⟨_, rfl⟩, .inr ⟨q, _, hq, hJf, hinf⟩⟩
end Go.Proofs.YthkapcnhfdpdbaaDoor
