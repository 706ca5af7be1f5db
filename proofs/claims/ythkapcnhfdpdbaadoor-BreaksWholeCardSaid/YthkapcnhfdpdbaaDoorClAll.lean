/- Ranging over cluster.All: the iterator's contract. -/
import Derived.Test.YthkapcnhfdpdbaaDoorPiece
import Derived.Test.YthkapcnhfdpdbaaDoorSeqAB
import Derived.Test.YthkapcnhfdpdbaaDoorHeldIn
set_option linter.unusedSimpArgs false
set_option linter.unusedVariables false
namespace Go.Proofs.YthkapcnhfdpdbaaDoor
open Go.RowKit Go.Shelf Go.Lib
attribute [local go_sem] Oper.semAt_some

abbrev encCl (x : Nat × ByteArray) : Array Value := #[.int .i64 (x.1 : Int), .string x.2]
theorem roundIn_wide {m m' l l' : Nat} {P : Program} {f : FuncId} {tmps : Array Value} {assign body : Code} {w : World} {R : Ending → World → Prop} (h : RoundIn Fence.wide m P l f tmps assign body w R) : RoundIn (Fence.wide.inRound l') m' P l f tmps assign body w R :=
  ⟨h.1, fun c cs _ => h.2 c cs (fun d e => by cases e)⟩
theorem cl_mk (s : ByteArray) (w : World) : Calls Tryd.prog 23 #[.string s] w fun e w' => e = .returned (.func (.func 34) #[] #[.pointer (some ⟨w.heap.size, 0, none⟩)]) ∧ w' = w.alloc (.cells #[.string s] 9) := by
  go_enter Tryd.func23, Tryd.ntmps23
  go_wp2
  go_ret
  exact ⟨rfl, rfl⟩

set_option maxRecDepth 100000 in
set_option maxHeartbeats 1000000 in
theorem seqCl (n : Nat) (hn : 3 ≤ n) (Bn : Nat) (N₀ : Bl) (s : ByteArray) (w : World) (hBn : N₀ Bn) (hN0 : N₀ 0) (hN1 : N₀ 1) (hc : w.cell? ⟨Bn, 0, none⟩ = some (.string s)) (hs : s.size ≤ 140737488351232) (hT : Utf8Tabs 0 1 w) :
    SeqN Fence.wide n Tryd.prog 34 #[.pointer (some ⟨Bn, 0, none⟩)] encCl (fun ys => ys = pcs s) (fun pre => pre <+: pcs s) (pcs s).length N₀ w := by
  intro l J Jx W hW hJ hJx hY h0
  have hcW : W.cell? ⟨Bn, 0, none⟩ = some (.string s) := (hW.cell (p := ⟨Bn, 0, none⟩) (cell_ltN hc)).trans hc
  have hTW : Utf8Tabs 0 1 W := Utf8Tabs_below hT hW
  have h2 := tabs_size hTW
  obtain ⟨B, hB⟩ : ∃ B, W.heap.size = B := ⟨_, rfl⟩
  have hBnB : Bn < B := by rw [← hB]; exact cell_ltN hcW
  rw [hB] at hJ hJx hY h2 ⊢
  have Hy := Lib.hid hY
  have HTW := Lib.hid hTW
  have Ham := Lib.hid (fun W => all_mk s W)
  have Hcn := Lib.hid (fun i w hi hT => cnext_rest s i w hi hT hs)
  clear hc hW hT hY hTW
  refine callsIn_of_wp_marks Tryd.func34 rfl trivial ?_ rfl
  refine wpIn_wide.2 ?_
  simp only [Tryd.ntmps34, List.size_toArray, List.length_cons, List.length_nil, Nat.reduceAdd, Nat.reduceSub, Array.replicate_succ, Array.replicate_zero, List.push_toArray, List.append_toArray, List.nil_append, List.cons_append]
  go_wp2_with fail
  refine (Ham.out _).mono ?_
  rintro _ w1 ⟨rfl, rfl⟩
  obtain ⟨Wa, hWa⟩ : ∃ Wa, ((W.alloc (.cells #[.func (.yield l) #[] #[]] 49)).alloc (.cells #[.int .i64 0] 3)).alloc (.cells #[.string s] 9) = Wa := ⟨_, rfl⟩
  have hsz : Wa.heap.size = B + 3 := by rw [← hWa]; simp [hB]
  have b0 : Boxed Wa B 49 (.func (.yield l) #[] #[]) := by rw [← hWa]; simp only [Boxed, alloc_get, World.size_alloc, hB]; rw [if_neg (by omega), if_neg (by omega)]; simp
  have b1 : Boxed Wa (B + 1) 3 (.int .i64 0) := by rw [← hWa]; simp only [Boxed, alloc_get, World.size_alloc, hB]; rw [if_neg (by omega)]; simp
  have b2 : Boxed Wa (B + 1 + 1) 9 (.string s) := by rw [← hWa]; simp only [Boxed, alloc_get, World.size_alloc, hB]; simp
  have hBa : Below B W Wa := by rw [← hWa]; exact (((Below.refl B W).alloc (by omega) _).alloc (by simp; omega) _).alloc (by simp; omega) _
  have hca : Wa.cell? ⟨Bn, 0, none⟩ = some (.string s) := (hBa.cell (p := ⟨Bn, 0, none⟩) hBnB).trans hcW
  have hTa : Utf8Tabs 0 1 Wa := Utf8Tabs_below HTW.out (by rw [hB]; exact hBa)
  have hJa : J [] (fun k => B ≤ k ∧ k < B + 3) Wa := hJ _ _ _ _ _ h0 (fun _ h => h.elim) (.of_below _ (by rw [hB]; exact hBa)) ⟨fun _ h => h.elim, fun k hk => .inr (by omega)⟩
  go_wp2_with fail
  clear hWa
  refine (wpIn_wide (n := n)).1 ?_
  refine range_N1 rfl (by omega) (gf := 61) (lb := #[.pointer (some ⟨B + 1 + 1, 0, none⟩)]) rfl trivial (enters_of Tryd.func61 (by kernel_rfl) rfl)
    (seqAllN Fence.wide (n - 1) trivial rfl (by omega) (B + 1 + 1) (fun k => N₀ k ∧ k < B) s Wa b2.cell) (fun k hk => by omega) (fun _ => rfl)
    (fun pre T W' => (Boxed W' B 49 (.func (.yield l) #[] #[]) ∧ W'.cell? ⟨Bn, 0, none⟩ = some (.string s) ∧ Utf8Tabs 0 1 W' ∧ Wa.heap.size ≤ W'.heap.size) ∧
      ∃ (e : Nat) (done : List (Nat × ByteArray)), Boxed W' (B + 1) 3 (.int .i64 (placeAt s e : Int)) ∧ pre.length ≤ e ∧ e ≤ chars s ∧ done ++ pcsF s (chars s) e = pcs s ∧ J done (fun k => (B ≤ k ∧ k < B + 3) ∨ T k) W')
    (fun c pre T W' => c = .ret ∧ Wa.heap.size ≤ W'.heap.size ∧ ∃ q, q <+: pcs s ∧ Jx q (fun k => (B ≤ k ∧ k < B + 3) ∨ T k) W')
    ?hI ?hIx
    ⟨⟨b0, hca, hTa, Nat.le_refl _⟩, 0, [], b1, Nat.le_refl _, Nat.zero_le _, rfl, hJ _ _ _ _ _ hJa (fun k hk => by omega) (.refl _ _) ⟨fun k hk => .inl hk, fun k hk => .inl (hk.elim id False.elim)⟩⟩
    ?a1 ?assign ?body ?done ?stop
  case assign =>
    intro l x W K hK
    gi_wp2
    exact hK
  case hI =>
    rintro pre T T' A A' ⟨⟨h1, h2', h3, h4⟩, e, dn, h5, h6, h7, h8, h9⟩ hT hm hg
    have hlow : ∀ k, k < B + 3 → A'.heap[k]? = A.heap[k]? := fun k hk => hm.block k (by omega) (fun e => by have := (hT _ e).1; omega)
    have hbl : KeepN (fun k => k < B + 3) (fun _ => False) A A' := ⟨hm.size, fun k _ hk => hlow k (hk.elim id False.elim)⟩
    refine ⟨⟨(hlow _ (by omega)).trans h1, hbl.cell (p := ⟨Bn, 0, none⟩) (.inl (show Bn < B + 3 by omega)) h2', hbl.u8 (.inl (by omega)) (.inl (by omega)) h3, Nat.le_trans h4 hm.size⟩, e, dn, (hlow _ (by omega)).trans h5, h6, h7, h8, ?_⟩
    refine hJ _ _ _ _ _ h9 (fun k hk => ?_) (hm.mono fun k hk => .inr hk) ⟨fun k hk => hk.imp id (hg.1 k), fun k hk => ?_⟩
    · rcases hk with hk | hk
      · omega
      · have := hT k hk; omega
    · rcases hk with hk | hk
      · exact .inl (.inl hk)
      · exact (hg.2 k hk).imp .inr id
  case hIx =>
    rintro cd pre T T' A A' ⟨rfl, hsA, q, hq, h9⟩ hT hm hg
    refine ⟨rfl, Nat.le_trans hsA hm.size, q, hq, hJx _ _ _ _ _ h9 (fun k hk => ?_) (hm.mono fun k hk => .inr hk) ⟨fun k hk => hk.imp id (hg.1 k), fun k hk => ?_⟩⟩
    · rcases hk with hk | hk
      · omega
      · have := hT k hk; omega
    · rcases hk with hk | hk
      · exact .inl (.inl hk)
      · exact (hg.2 k hk).imp .inr id
  case body =>
    rintro l1 pre x T W1 hl1 hT1 hr1 ⟨⟨h1, h2', h3, h4⟩, e, dn, h5, h6, h7, h8, h9⟩ hlen hsp
    have hget := prefix_get hsp
    obtain ⟨j, hj⟩ : ∃ j, pre.length = j := ⟨_, rfl⟩
    rw [hj] at hget h6 hlen
    obtain ⟨_, hlt, hx, _⟩ := place_at s hget
    have hjm : j < chars s := by rw [places_len] at hlen; exact hlen
    have hplen : (pre ++ [x]).length = j + 1 := by simp [hj]
    obtain ⟨p, hp⟩ : ∃ p, placeAt s j = p := ⟨_, rfl⟩
    have hxp : x.1 = p := by rw [hx]; exact hp
    have c1 := h5.cell
    have c0 := h1.cell
    by_cases hje : j < e
    · have hlt2 : x.1 < placeAt s e := by rw [hxp, ← hp]; exact placeAt_lt s hje h7
      have hlti : (x.1 : Int) < (placeAt s e : Int) := by omega
      gi_wp2
      exact ⟨KeepN.refl _ _ _, ⟨h1, h2', h3, h4⟩, e, dn, h5, by rw [hplen]; omega, h7, h8, h9⟩
    · have hee : e = j := by omega
      subst hee
      have hlti : ¬ ((x.1 : Int) < (placeAt s e : Int)) := by omega
      obtain ⟨e', he'⟩ : ∃ e', clEnd s e = e' := ⟨_, rfl⟩
      have hbd := clEnd_bounds hjm
      rw [he'] at hbd
      have hstep := pcsF_step s e hjm
      rw [he', hp] at hstep
      rw [hstep] at h8
      have hcn := Hcn.out e W1 (Nat.le_of_lt hjm) h3
      rw [he', hp] at hcn
      have hpl : p < placeAt s e' := by rw [← hp]; exact placeAt_lt s hbd.1 hbd.2
      have hpe := placeAt_le s e'
      obtain ⟨P, hP⟩ : ∃ P, placeAt s e' = P := ⟨_, rfl⟩
      rw [hP] at hcn hpl hpe h8
      rw [hp] at hlti c1
      rw [hxp] at hlti
      have hw1 : IntKind.i64.wrap ((p : Int) + ((P - p : Nat) : Int)) = (P : Int) := by rw [IntWalk.i64_in _ (by omega)]; omega
      have hps : p ≤ s.size := by omega
      have hps1 : (p : Int) ≤ (s.size : Int) := by omega
      have hPs1 : (P : Int) ≤ (s.size : Int) := by omega
      have hpP1 : (p : Int) ≤ (P : Int) := by omega
      have hxv : (x.1 : Int) = (p : Int) := by omega
      have hn1 : 1 ≤ n - 1 - 1 := by omega
      have hcn' := Lib.hid hcn
      have H1 := Lib.hid h1
      have H3 := Lib.hid h3
      have H5 := Lib.hid h5
      have H8 := Lib.hid h8
      have H9 := Lib.hid h9
      clear hcn h1 h3 h5 h8 h9 hstep hx hget hsp hlt
      rw [hxv]
      gi_wp2_with fail
      refine ⟨trivial, (CallsIn.inRound l1 (callsIn_wide.2 hcn'.out)).mono ?_⟩
      rintro _ w3 ⟨rfl, b3⟩
      have k5 := boxed_below H5.out b3
      have k1 := boxed_below H1.out b3
      have kc := (b3.cell (p := ⟨Bn, 0, none⟩) (show Bn < W1.heap.size by omega)).trans h2'
      have hs3 := b3.size
      have k5c := k5.cell
      have k5f := k5.frozen
      have m5 := k5.set (.int .i64 (P : Int))
      have m1 : Boxed (w3.setCell ⟨B + 1, 0, none⟩ (.int .i64 (P : Int))) B 49 (.func (.yield l) #[] #[]) := k1.other (by omega) _
      have hkN : KeepN (fun k => k < B) T W1 (w3.setCell ⟨B + 1, 0, none⟩ (.int .i64 (P : Int))) := (KeepN.of_below _ _ b3).trans (KeepN.setCell _ _ _ _ _ _ (by omega) (fun e => by have := (hT1 _ e).1; omega))
      have hkN2 : KeepN (fun k => N₀ k ∧ k < B) T W1 (w3.setCell ⟨B + 1, 0, none⟩ (.int .i64 (P : Int))) := (KeepN.of_below _ _ b3).trans (KeepN.setCell _ _ _ _ _ _ (by omega) (fun e => by have := (hT1 _ e).1; omega))
      obtain ⟨W4, hW4⟩ : ∃ W4, w3.setCell ⟨B + 1, 0, none⟩ (.int .i64 (P : Int)) = W4 := ⟨_, rfl⟩
      have hmv : Moves (fun k => (B ≤ k ∧ k < B + 3) ∨ T k) W1 W4 := by
        rw [← hW4]
        exact (Moves.of_below _ b3).trans' ⟨rfl, rfl, rfl, by simp, fun k _ hk => Below.heap_setCell _ _ _ k (fun e => hk (.inl (by have e : k = B + 1 := e; omega)))⟩
      rw [hW4] at m5 m1 hkN hkN2
      have m5c := m5.cell
      have m1c := m1.cell
      have mcc := hkN.cell (p := ⟨Bn, 0, none⟩) (.inl hBnB) h2'
      have mT := Lib.hid (hkN.u8 (.inl (by omega)) (.inl (by omega)) H3.out)
      have hin : InT B (fun k => (B ≤ k ∧ k < B + 3) ∨ T k) W4 := fun k hk => by
        have := hmv.size
        rcases hk with hk | hk
        · omega
        · have := hT1 k hk; omega
      have hin1 : InT B (fun k => (B ≤ k ∧ k < B + 3) ∨ T k) W1 := fun k hk => by
        rcases hk with hk | hk
        · omega
        · have := hT1 k hk; omega
      have hJ4 := hJ.of H9.out hin1 hmv
      have hpre : dn ++ [(p, s.extract p P)] <+: pcs s := ⟨pcsF s (chars s) e', by rw [← H8.out]; simp⟩
      have hlen2 : dn.length < (pcs s).length := by rw [← H8.out]; simp
      have hJ5 : J dn (fun k => (B ≤ k ∧ k < B + 3) ∨ T k) W4.drew := hJ.of hJ4 hin ⟨rfl, rfl, rfl, Nat.le_refl _, fun _ _ _ => rfl⟩
      obtain ⟨fn, tmps, assign, body, hy, hR⟩ := Hy.out dn (p, s.extract p P) _ W4.drew hJ5 hin hlen2 hpre
      dsimp only [encCl] at hy
      have hR2 := Lib.hid (roundIn_wide (m' := n - 1 - 1 - 1) (l' := l1) (hR.mono (R' := fun e W' => ∃ b : Bool, e = .returned (.bool b) ∧ (b = true → J (dn ++ [(p, s.extract p P)]) (fun k => (B ≤ k ∧ k < B + 3) ∨ T k) W') ∧ (b = false → Jx (dn ++ [(p, s.extract p P)]) (fun k => (B ≤ k ∧ k < B + 3) ∨ T k) W') ∧ KeepN N₀ (fun k => (B ≤ k ∧ k < B + 3) ∨ T k) W4.drew W') (by
        rintro e W' (⟨rfl, h1, h2⟩ | ⟨rfl, h1, h2⟩)
        · exact ⟨true, rfl, fun _ => h1, fun e => (by cases e), h2⟩
        · exact ⟨false, rfl, fun e => (by cases e), fun _ => h1, h2⟩)))
      have Hk2 := Lib.hid hkN2
      have Hpre := Lib.hid hpre
      have M5 := Lib.hid m5
      have M1 := Lib.hid m1
      clear hR hkN hkN2 hpre m5 m1 b3 hJ4 hJ5 hmv
      gi_wp2_with fail
      have m1d : W4.drew.cell? ⟨B, 0, none⟩ = some (.func (.yield l) #[] #[]) := m1c
      have m5d : W4.drew.cell? ⟨B + 1, 0, none⟩ = some (.int .i64 (P : Int)) := m5c
      have mcd : W4.drew.cell? ⟨Bn, 0, none⟩ = some (.string s) := mcc
      refine region_read 6 [(18, .func (.yield l) #[] #[]), (19, .int .i64 (p : Int)), (20, .string s), (21, .int .i64 (p : Int)), (22, .int .i64 (P : Int)), (23, .string (s.extract p P))] (by kernel_rfl) (by kernel_rfl) (by simp) ?hread ?hfin
      case hread =>
        clear Hy Hcn Ham HTW hcn' H1 H3 H5 H8 H9 hR2 Hk2 Hpre M5 M1 mT hy hin hin1 hJ hJx h0 hcW hTa hJa b0 b1 b2 hBa hca k5 k1 kc k5c k5f hl1 hT1 hr1
        dsimp only [List.take, readRuns, puts, Act.put]
        refine ⟨?_, ?_, ?_, ?_, ?_, ?_, trivial⟩
        all_goals go_simp
      case hfin =>
        simp only [puts, Act.put]
        refine wpAnyIn_ready (rs := [6]) (by kernel_rfl) (by simp) ?_
        refine AllReadyIn.cons rfl (fun K hK => ?_) AllReadyIn.nil
        go_simp
        refine hR2.out.mono ?_
        rintro _ W6 ⟨bb, rfl, hbt, hbf, hk6⟩
        have hbt' := Lib.hid hbt
        have hbf' := Lib.hid hbf
        have Hk6 := Lib.hid hk6
        clear hbt hbf hk6
        refine hK _ _ ?_
        refine wpAnyIn_ready (rs := [7]) (by kernel_rfl) (by simp) ?_
        refine AllReadyIn.cons rfl (fun K2 hK2 => ?_) AllReadyIn.nil
        go_simp
        refine hK2 _ _ ?_
        refine wpAnyIn_done (by kernel_rfl) ?_ _
        clear hK hK2
        have hs4 : W4.drew.heap.size = W4.heap.size := rfl
        have hlt4 : ∀ k, k < B + 3 → k < W4.drew.heap.size := fun k hk => by have h := Hk2.out.size; show k < W4.heap.size; omega
        have hkeep : KeepN (fun k => N₀ k ∧ k < B) T W1 W6 := Hk2.out.trans ⟨Hk6.out.size, fun k hk ho => Hk6.out.block k hk (ho.imp (fun h => h.1) .inr)⟩
        have hsz6 : B + 3 ≤ W6.heap.size := by have := hkeep.size; omega
        cases bb with
        | true =>
          gi_wp2_with fail
          refine ⟨hkeep, ⟨(Hk6.out.block B (hlt4 _ (by omega)) (.inr (.inl (by omega)))).trans M1.out, Hk6.out.cell (p := ⟨Bn, 0, none⟩) (.inl hBn) mcd, Hk6.out.u8 (.inl hN0) (.inl hN1) (show Utf8Tabs 0 1 W4.drew from mT.out), hsz6⟩, e', ?_, by rw [hplen]; omega, hbd.2, dn ++ [(p, s.extract p P)], by rw [← H8.out]; simp, by have := hbt'.out; simpa using this⟩
          rw [hP]
          exact (Hk6.out.block (B + 1) (hlt4 _ (by omega)) (.inr (.inl (by omega)))).trans M5.out
        | false =>
          gi_wp2_with fail
          exact ⟨hkeep, rfl, hsz6, dn ++ [(p, s.extract p P)], Hpre.out, by have := hbf'.out; simpa using this⟩
  case done =>
    rintro D ys T W2 hD hT2 rfl ⟨⟨h1, h2', h3, h4⟩, e, dn, h5, h6, h7, h8, h9⟩ hK
    rw [places_len] at h6
    have he : e = chars s := Nat.le_antisymm h7 h6
    rw [he, pcsF_end s _ _ (Nat.le_refl _), List.append_nil] at h8
    have hin : InT B (fun k => (B ≤ k ∧ k < B + 3) ∨ T k) W2 := fun k hk => by
      rcases hk with hk | hk
      · omega
      · have := hT2 k hk; omega
    have hmv := Moves.putObj (fun k => (B ≤ k ∧ k < B + 3) ∨ T k) W2 D (.deferred none) (.inr hD)
    have hJf := hJ.of h9 hin hmv
    have hinf := hin.more hmv.size
    have HK := Lib.hid hK
    have H8 := Lib.hid h8
    clear h1 h2' h3 h5 h6 h8 h9 hK
    gi_wp2_with fail
    refine ⟨by simp, .inl ⟨_, _, rfl, run_takeDeferred HK.out, ?_⟩⟩
    exact ⟨_, results_none rfl _ _ _, ⟨_, rfl⟩, .inl ⟨dn, _, H8.out, hJf, hinf⟩⟩
  case stop =>
    rintro D c pre T W2 hD hT2 _ ⟨rfl, hsA, q, hq, h9⟩ hK
    have hin : InT B (fun k => (B ≤ k ∧ k < B + 3) ∨ T k) W2 := fun k hk => by
      rcases hk with hk | hk
      · omega
      · have := hT2 k hk; omega
    have hmv := Moves.putObj (fun k => (B ≤ k ∧ k < B + 3) ∨ T k) W2 D (.deferred none) (.inr hD)
    have hJf := hJx.of h9 hin hmv
    have hinf := hin.more hmv.size
    have HK := Lib.hid hK
    clear h9 hK
    gi_wp2_with fail
    refine ⟨by simp, .inl ⟨_, _, rfl, run_takeDeferred HK.out, ?_⟩⟩
    exact ⟨_, results_none rfl _ _ _, ⟨_, rfl⟩, .inr ⟨q, _, hq, hJf, hinf⟩⟩
end Go.Proofs.YthkapcnhfdpdbaaDoor
