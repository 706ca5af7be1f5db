/- Layer 9, the program: Resolve. -/
import Derived.Test.YtkcckophnamajaaPBr9
import Derived.Test.YtkcckophnamajaaSetB9
import Derived.Test.YtkcckophnamajaaStrW9
set_option linter.unusedSimpArgs false
set_option linter.unusedVariables false
namespace Go.Proofs.Ytkcckophnamajaa
open Go.RowKit Go.Lib

theorem cntK_nrm (l : List Int) : Nrm (l.map cntK) := by
  intro k hk
  obtain ⟨x, _, rfl⟩ := List.mem_map.1 hk
  unfold cntK
  split
  · next h => rcases h with rfl | rfl | rfl | rfl <;> decide
  · split <;> decide
theorem setF_of (rs ks : List Int) (lv sos : Int) : SetF (brZ pairOf rs ks) (min rs.length ks.length) (brZ pairOf rs ks).length rs (lvlZ lv) (sidZ sos) ((ks.take (min rs.length ks.length)).map cntK) := by
  obtain ⟨j, stk, h⟩ := brZ_holds (rs := rs) (ks := ks) pair_back
  refine ⟨lvl_two lv, sid_two sos, by rw [List.length_map, List.length_take]; omega, cntK_nrm _, rfl, fun q p hq => ?_, h.up, fun q p hq => mid_same pair_nsm h hq _ _ _⟩
  have hp := h.pair p (List.mem_of_getElem? hq)
  obtain ⟨r, r', h1, h2, _⟩ := hp.2.2.2.2
  have h3 := (List.getElem?_eq_some_iff.1 h2).1
  have h4 := (List.getElem?_eq_some_iff.1 hp.2.2.2.1).1
  exact ⟨hp.1, by omega⟩
theorem brZ_len (rs ks : List Int) : (brZ pairOf rs ks).length ≤ min rs.length ks.length := by
  have h := (brkY_perm pairOf (rs.zip ks) 0 [] [] [] (List.Perm.refl _)).length_eq
  have h2 := brkY_len pairOf (rs.zip ks) 0 [] []
  rw [List.length_zip] at h2
  simp only [List.length_nil, Nat.zero_add] at h2
  unfold brZ
  omega
set_option maxRecDepth 100000 in
theorem slice_k9 (W : World) (A : Option Addr) (n c k : Nat) (hk : k ≤ c) : (Instr.slice 23 (.slice A n c) none (some (.int .i64 (k : Int))) (some (.int .i64 (k : Int)))).run Try.prog W = .ok (.slice A k k) W := by
  have h := run_slice_hm (P := Try.prog) W 23 A n c (show Try.prog.underlying 23 = some (.slice (Try.prog.elem 23)) from Try.underlying23) .i64 .i64 (k : Int) (k : Int) (by omega) (by omega) (by omega)
  rw [h]
  have hs : (sizeOf (Try.prog.elem 23)).run Try.prog W = .ok 1 W := by rfl
  rw [hs]
  have e0 : A.map (·.add (0 * 1)) = A := by
    rcases A with _ | a
    · rfl
    · simp [Addr.add]
  simp only [Result.andThen, sliced, Int.toNat_natCast, Nat.sub_zero]
  rw [e0]
  split <;> rfl
set_option maxRecDepth 100000 in
set_option maxHeartbeats 8000000 in
theorem presolve_any9 (Ar A : Option Addr) (nr cr n c : Nat) (rs ks : List Int) (lv sos eos : Int) (w : World) (hr : RdR w Ar nr rs) (hk : RdK w A n ks) (hn : min nr n ≤ 1048576) (hcr : nr ≤ cr) (hnc : n ≤ c) (h0 : 0 ≤ lv) :
    Calls Try.prog 14 #[.slice Ar nr cr, .slice A n c, .int .u8 lv, .int .i8 sos, .int .i8 eos] w (NewAt (min nr n) (rsZ pairOf nsm9 rs ks lv sos eos) w) := by
  have hrl := hr.len
  have hkl := hk.len
  have hF := setF_of rs ks lv sos
  have hG20 := brZ_len rs ks
  rw [rsZ_prog]
  rw [hrl, hkl] at hF hG20 ⊢
  obtain ⟨N, hN⟩ : ∃ N, min nr n = N := ⟨_, rfl⟩
  rw [hN] at hF hG20 hn ⊢
  have hminI : min (nr : Int) (n : Int) = (N : Int) := by omega
  have hNr : N ≤ nr ∧ N ≤ n := by omega
  have hkt : RdK w A N (ks.take N) := by
    refine ⟨by simp; omega, ?_⟩
    rcases hk.2 with h | ⟨a, e, hb, hc⟩
    · exact .inl (by omega)
    · refine .inr ⟨a, e, hb, fun j u hu => hc j u ?_⟩
      rw [List.getElem?_map, List.getElem?_take] at hu
      split at hu
      · rw [List.getElem?_map]; exact hu
      · cases hu
  obtain ⟨g, hg⟩ : ∃ g, w.heap.size = g := ⟨_, rfl⟩
  have HCt := Lib.hid (show Calls Try.prog 28 #[.slice A N N] w _ from counted_any9 A N N (ks.take N) w hkt (by omega))
  rw [hg] at HCt
  have HOf := Lib.hid (ofLevel_any9 lv h0)
  have HS1 := Lib.hid (pside_any9 sos)
  have HS2 := Lib.hid (pside_any9 eos)
  obtain ⟨G, hG⟩ : ∃ G, brZ pairOf rs ks = G := ⟨_, rfl⟩
  obtain ⟨e, he⟩ : ∃ e, lvlZ lv = e := ⟨_, rfl⟩
  obtain ⟨s1, hs1⟩ : ∃ s1, sidZ sos = s1 := ⟨_, rfl⟩
  obtain ⟨s2, hs2⟩ : ∃ s2, sidZ eos = s2 := ⟨_, rfl⟩
  obtain ⟨N0, hN0⟩ : ∃ N0, (ks.take N).map cntK = N0 := ⟨_, rfl⟩
  rw [hN0] at HCt
  rw [he] at HOf
  rw [hs1] at HS1
  rw [hs2] at HS2
  rw [hG, he, hs1, hN0] at hF
  rw [hG, he, hs1, hs2, hN0]
  rw [hG] at hG20
  obtain ⟨K, hK⟩ : ∃ K, G.foldl (pairZ9 nsm9 rs e s1) N0 = K := ⟨_, rfl⟩
  rw [hK]
  have HBk := Lib.hid (show ∀ W, Below g w W → Calls Try.prog 9 #[.slice Ar nr cr, .slice A n c] W (NewPr G W) from fun W hb => by
    have h := pbrackets_any9 Ar A nr cr n c rs ks W (hr.below (by rw [hg]; exact hb)) (hk.below (by rw [hg]; exact hb)) (by rw [hN]; exact hn) hcr
    rw [hG] at h
    exact h)
  have HRd := Lib.hid (show ∀ W, Below g w W → Rd W g 1 Ar nr (i32s rs) from fun W hb => by
    have h : Rd w w.heap.size 1 Ar nr (i32s rs) := hr
    rw [hg] at h
    exact h.below hb)
  have HFh := Lib.hid hF
  have HSB := Lib.hid (fun (W : World) (Ap : Option Addr) (cp : Nat) (hb : Below g w W) (ho : W.ownsRow g 33 1 (.slice (some ⟨g, 0, none⟩) N N) N (i8s N0)) (hp : W.ownsRow g 29 2 (.slice Ap G.length cp) G.length (prC G)) => settleBrackets_any9 g g Ar Ap nr cr N N G.length cp rs N0 G e s1 s2 W (HRd.out W hb) hp ho hNr.1 hn (by omega) HFh)
  have HSS := Lib.hid (fun (W : World) (ho : W.ownsRow g 33 1 (.slice (some ⟨g, 0, none⟩) N N) N (i8s K)) => settleStretches_any9 g g N N K e s1 s2 W ho (by have := nrm_fold (nsm := nsm9) (rs := rs) hF.he hF.hs G N0 hF.nm; rw [hK] at this; exact this) hn)
  rw [hK] at HSB
  have HSl := Lib.hid (fun W => slice_k9 W A n c N (by omega))
  have Hg := Lib.hid hg
  have hNc : N ≤ c := by omega
  unfold NewAt
  rw [hg]
  clear hr hk hrl hkl hF hN hkt hG he hs1 hs2 hN0 hK hg hcr hG20 hnc
  go_enter Try.func14, Try.ntmps14
  have hsl := fun W => HSl.out W
  go_wp2_with fail
  refine (HCt.out).mono ?_
  rintro _ w1 ⟨rfl, o1, b1⟩
  have H1 := Lib.hid (show _ ∧ _ from ⟨o1, b1⟩)
  clear o1 b1 hsl
  go_wp2_with fail
  refine (HOf.out _).mono ?_
  rintro _ w2 ⟨rfl, h2⟩
  obtain rfl := h2.symm
  go_wp2_with fail
  refine (HS1.out _).mono ?_
  rintro _ w3 ⟨rfl, h3⟩
  obtain rfl := h3.symm
  go_wp2_with fail
  refine (HS2.out _).mono ?_
  rintro _ w4 ⟨rfl, h4⟩
  obtain rfl := h4.symm
  obtain ⟨X, hX⟩ : ∃ X, w1.heap.size = X := ⟨_, rfl⟩
  obtain ⟨V, hV⟩ : ∃ V, w1.alloc (.cells #[.int .i8 e, .int .i8 s1, .int .i8 s2] 59) = V := ⟨_, rfl⟩
  have hXV : V.heap.size = X + 1 := by rw [← hV, World.size_alloc, hX]
  have hgX : g < X := by have := (H1.out.1.lt g rfl).2; omega
  have hxs : V.heap[X]? = some (.cells #[.int .i8 e, .int .i8 s1, .int .i8 s2] 59 (0, 0)) := by rw [← hV, ← hX]; exact heap_alloc_new w1 _
  have HV := Lib.hid (show V.ownsRow g 33 1 (.slice (some ⟨g, 0, none⟩) N N) N (i8s N0) ∧ Below g w V from by
    rw [← hV]
    exact ⟨H1.out.1.alloc _, H1.out.2.alloc (by omega) _⟩)
  have hk0 : V.cell? ⟨X, 0, none⟩ = some (.int .i8 e) := cell_of_row V X 0 _ _ (0, 0) hxs
  have hk1 : V.cell? ⟨X, 1, none⟩ = some (.int .i8 s1) := cell_of_row V X 1 _ _ (0, 0) hxs
  have hk2 : V.cell? ⟨X, 2, none⟩ = some (.int .i8 s2) := cell_of_row V X 2 _ _ (0, 0) hxs
  have hk0D : V.drew.cell? ⟨X, 0, none⟩ = some (.int .i8 e) := hk0
  have hk1D : V.drew.cell? ⟨X, 1, none⟩ = some (.int .i8 s1) := hk1
  have hk2D : V.drew.cell? ⟨X, 2, none⟩ = some (.int .i8 s2) := hk2
  have HVw := Lib.hid hV
  have HX := Lib.hid hX
  have HXV := Lib.hid hXV
  have Hxs := Lib.hid hxs
  have HBD := Lib.hid (show Calls Try.prog 9 #[.slice Ar nr cr, .slice A n c] V.drew fun e w' => ∃ A3 c3, e = .returned (.slice A3 G.length c3) ∧ (w'.ownsRow g 33 1 (.slice (some ⟨g, 0, none⟩) N N) N (i8s N0) ∧ w'.ownsRow g 29 2 (.slice A3 G.length c3) G.length (prC G) ∧ Below g w w') ∧ Below (X + 1) V w' from
    (HBk.out V.drew (below_DD HV.out.2)).mono fun _ w' ⟨A3, c3, he, ho, hb⟩ => by
      have hsz : V.drew.heap.size = X + 1 := hXV
      rw [hsz] at ho hb
      have hb2 : Below (X + 1) V w' := ⟨hb.os, hb.tape, hb.output, hb.size, hb.block⟩
      exact ⟨A3, c3, he, ⟨own_below HV.out.1 (by rw [hXV]; exact hb2), own_base ho (by omega), HV.out.2.trans (hb2.mono (by omega))⟩, hb2⟩)
  clear hV hX hxs
  go_wp2_with fail
  rw [HVw.out, HX.out]
  go_region_with (first
    | (go_at_call 9; refine (HBD.out).mono ?_; rintro e5 w5 ⟨A3, c3, rfl, h5, b5⟩; have q0 := (b5.cell (p := ⟨X, 0, none⟩) (Nat.lt_succ_self X)).trans hk0; have q1 := (b5.cell (p := ⟨X, 1, none⟩) (Nat.lt_succ_self X)).trans hk1; have q2 := (b5.cell (p := ⟨X, 2, none⟩) (Nat.lt_succ_self X)).trans hk2)
    | (go_at_call 31; refine (HSB.out w5 A3 c3 h5.2.2 h5.1 h5.2.1).mono ?_; rintro e6 w6 ⟨rfl, o6, g6⟩))
  all_goals (
    have hb6 : w6.heap[X]? = some (.cells #[.int .i8 e, .int .i8 s1, .int .i8 s2] 59 (0, 0)) := (g6.block X (by have := b5.size; have := HXV.out; omega) (fun e => by have h9 : some X = some g := e; injection h9 with h9; omega)).trans ((b5.block X (Nat.lt_succ_self X)).trans Hxs.out)
    have r0 : w6.cell? ⟨X, 0, none⟩ = some (.int .i8 e) := cell_of_row w6 X 0 _ _ (0, 0) hb6
    have r1 : w6.cell? ⟨X, 1, none⟩ = some (.int .i8 s1) := cell_of_row w6 X 1 _ _ (0, 0) hb6
    have r2 : w6.cell? ⟨X, 2, none⟩ = some (.int .i8 s2) := cell_of_row w6 X 2 _ _ (0, 0) hb6
    have H6 := Lib.hid (show w6.ownsRow g 33 1 (.slice (some ⟨g, 0, none⟩) N N) N (i8s K) ∧ Below g w w6 ∧ g ≤ w6.heap.size from ⟨o6, h5.2.2.grown g6 (by have := b5.size; have := HXV.out; omega) (fun q hq => by have h9 : some g = some q := hq; injection h9 with h9; omega), by have := g6.size; have := b5.size; have := HXV.out; omega⟩)
    clear hb6 o6 g6 h5 b5 q0 q1 q2
    go_wp2_with fail
    refine (HSS.out w6 H6.out.1).mono ?_
    rintro _ w7 ⟨rfl, o7, g7⟩
    have H7 := Lib.hid (show w7.ownsRow g 33 1 (.slice (some ⟨g, 0, none⟩) N N) N (i8s (rstZ e s2 s1 0 K)) ∧ Below g w w7 from ⟨o7, H6.out.2.1.grown g7 H6.out.2.2 (fun q hq => by have h9 : some g = some q := hq; injection h9 with h9; omega)⟩)
    clear o7 g7 H6
    go_wp2_with fail
    go_ret
    exact ⟨_, _, rfl, H7.out⟩)
end Go.Proofs.Ytkcckophnamajaa
