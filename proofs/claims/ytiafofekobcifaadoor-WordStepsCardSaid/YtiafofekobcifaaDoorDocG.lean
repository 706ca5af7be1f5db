/- The document's All: walked. -/
import Derived.Test.YtiafofekobcifaaDoorFirstG
import Derived.Test.YtiafofekobcifaaDoorRowG
import Derived.Test.YtiafofekobcifaaDoorBordG
import Derived.Test.YtiafofekobcifaaDoorLastC
import Derived.BigQuiet
import Derived.Deep.QuietTactic
set_option linter.unusedSimpArgs false
set_option linter.unusedVariables false
namespace Go.Proofs.YtiafofekobcifaaDoor
open Go.RowKit Go.Lib

theorem below_Dc {B : Nat} {a w : World} (h : Below B a w) : Below B a w.drew := ⟨h.os, h.tape, h.output, h.size, h.block⟩
theorem step_append_own3 {P : Program} {ops : Array Oper} {o : Oper} {a : Act} {w : World} {K : Act → World → Prop} {Q : Exit → Act → World → Prop} {E : Prop} (hgd : o.guard = none) (s x : Operand) (t : TypeId)
    (ho : o.op = .call { callee := .builtin .append, args := #[s, x], argTypes := #[t, t] })
    (base : Nat) (e : TypeId) (i : TypeInfo) (z : Value) (size bytes : Nat) (ht : P.underlying t = some (.slice e)) (hi : P.info? e = some i) (hz : i.zero = some z)
    (hsize : i.size = size) (hby : i.bytes = bytes) (hzs : z.cells.size = size) (hsz : 0 < size)
    (v : Value) (n : Nat) (xs : List Value) (hs : a.eval s = v) (hown : w.ownsRow base e size v n xs)
    (ad : Addr) (m c : Nat) (news : List Value) (hx : a.eval x = .slice (some ad) m c) (hl : news.length = m * size) (hnews : ∀ j u, news[j]? = some u → w.cell? (ad.add j) = some u) (h1 : ∀ u ∈ news, u.oneCell' = true)
    (h63 : n + m ≤ maxLen) (hbytes : (n + m) * bytes ≤ 140737488355328) (hbase : base ≤ w.heap.size)
    (h : ∀ v' w', w'.ownsRow base e size v' (n + m) (xs ++ news) → w.grownBy w' v.ownBlock → K (a.put o.dst v') w') : if Region.wanted o (yielded ops a.tmps) = true then Oper.wp P o a w K Q else E := by
  have hw : Region.wanted o (yielded ops a.tmps) = true := by simp [Region.wanted, hgd]
  rw [if_pos hw]
  exact wp_append_own w s x t ho base e i z size bytes ht hi hz hsize hby hzs hsz v n xs hs hown ad m c news hx hl hnews h1 h63 hbytes hbase fun v' w' h2 h3 _ => h v' w' h2 h3
theorem RdS.drop {w : World} {B p : Nat} {a : Addr} {ds : List (Nat × Nat)} (h : RdS w B (some a) p ds) (n : Nat) (hn : n ≤ ds.length) : RdS w B (some (a.add (n * 3))) (p + total (ds.take n)) (ds.drop n) := by
  refine ⟨sgs_len _ _, ?_⟩
  rcases h.2 with h0 | ⟨a', e, hb, hc⟩
  · exact .inl (by rw [List.length_drop]; omega)
  · obtain rfl := Option.some.inj e
    refine .inr ⟨_, rfl, by rw [add_block]; exact hb, fun j u hu => ?_⟩
    rw [add_sum]
    refine hc _ u ?_
    have h1 : sgs p ds = sgs p (ds.take n) ++ sgs (p + total (ds.take n)) (ds.drop n) := by rw [← sgs_append, List.take_append_drop]
    have h2 : (sgs p (ds.take n)).length = n * 3 := by rw [sgs_len, List.length_take, Nat.min_eq_left hn]
    rw [h1, List.getElem?_append_right (by omega), h2, Nat.add_sub_cancel_left]
    exact hu
theorem RdS.nil (w : World) (B p : Nat) (A : Option Addr) : RdS w B A p [] := Rd.nil w B 3 A
theorem rpiece_info : (Tryd.prog.info? 28).map (fun i => (i.zero, i.size, i.bytes)) = some (some (.agg #[.int .i64 0, .string ByteArray.empty]), 2, 24) := by kernel_rfl
def lenV : Value → Nat
  | .slice _ n _ => n
  | _ => 0

set_option maxRecDepth 100000 in
set_option maxHeartbeats 4000000 in
theorem rall_any (s : ByteArray) (w : World) (hs : s.size ≤ 1073741824) : Calls Tryd.prog 24 #[.string s] w fun e w' =>
    ∃ A c, e = .returned (.slice A (pcs s).length c) ∧ w'.ownsRow w.heap.size 28 2 (.slice A (pcs s).length c) (pcs s).length (pcCells (pcs s)) ∧ Below w.heap.size w w' := by
  obtain ⟨i0, hi, hz0, hz1, hz2⟩ := info_parts rpiece_info
  have hpl := pcs_len s
  have hcs : chars s ≤ s.size := by have := segs_len s.data.toList; rw [size_list] at this; exact this
  have HS := Lib.hid (signs_any s w hs)
  go_enter Tryd.func24, Tryd.ntmps24
  go_wp2_with fail
  refine HS.out.mono ?_
  rintro _ w1 ⟨A, c, rfl, hown1, b1⟩
  obtain ⟨B1, hB1e⟩ : ∃ B1, w1.heap.size = B1 := ⟨_, rfl⟩
  have hnc : chars s ≤ c := by obtain ⟨_, _, h1, h2, _⟩ := own_shape hown1; cases h1; exact h2
  have hR1 : RdS w1 B1 A (placeAt s 0) ((segs s.data.toList).drop 0) := by rw [← hB1e]; exact Rd.own hown1
  have HR1 := Lib.hid hR1
  have Hb1 := Lib.hid b1
  clear hR1 b1 hown1
  go_wp2_with fail
  go_loopw [3, 4] (fun x v wr => ∃ (k : Nat) (L : List (Nat × ByteArray)) (A' : Option Addr) (c' : Nat) (W : World), W = wr ∧ x = .slice A' (chars s - k) c' ∧ chars s - k ≤ c' ∧ k ≤ chars s ∧ RdS W B1 A' (placeAt s k) ((segs s.data.toList).drop k) ∧ W.ownsRow B1 28 2 v L.length (pcCells L) ∧ Below B1 w1 W ∧ Hid (L ++ pcsF s (chars s) k = pcs s)) (fun x _ _ => lenV x)
  case atStart => exact ⟨0, [], A, c, _, rfl, rfl, hnc, Nat.zero_le _, HR1.out, World.ownsRow_nil _ _ _ _, Below.refl _ _, rfl⟩
  case round =>
    rename_i x v wr
    obtain ⟨k, L, A', c', W, rfl, rfl, hkc', hk, hR, hown, hbw, hL⟩ := hrel
    have hB1 : B1 ≤ W.heap.size := by have := hbw.size; omega
    by_cases hkn : k < chars s
    · have hdl : ((segs s.data.toList).drop k).length = chars s - k := by rw [List.length_drop]; rfl
      obtain ⟨a, rfl, hab, _, q1, _⟩ := hR.at_ (i := 0) (by omega)
      rw [show a.add (0 * 3) = a by simp [Addr.add], List.take_zero, show placeAt s k + total [] = placeAt s k from rfl] at q1
      have hF := rfirst_any W B1 (some a) c' (placeAt s k) ((segs s.data.toList).drop k) hR hB1 (by omega) (by omega)
      rw [firstN_clD _ (by omega), hdl] at hF
      have hce : clEnd s k = k + clD ((segs s.data.toList).drop k) := rfl
      have hbd := clEnd_bounds hkn
      have hpE : placeAt s (clEnd s k) = placeAt s k + total (((segs s.data.toList).drop k).take (clD ((segs s.data.toList).drop k))) := by rw [hce, placeAt_add]
      have hstep := pcsF_step s k hkn
      have hLs := hL.out
      rw [hstep] at hLs
      have hplt := placeAt_lt s hbd.1 hbd.2
      have hEs := placeAt_le s (clEnd s k)
      have hlen : L.length < (pcs s).length := by rw [← hLs]; simp
      have hRn : ∀ A'', (A'' = some (a.add (clD ((segs s.data.toList).drop k) * 3)) ∨ chars s - clEnd s k = 0) → ∀ W', Below B1 W W' → RdS W' B1 A'' (placeAt s (clEnd s k)) ((segs s.data.toList).drop (clEnd s k)) := by
        intro A'' hA W' hb
        rw [hpE, hce, ← List.drop_drop]
        rcases hA with rfl | h0
        · exact (RdS.drop hR _ (by omega)).below hb
        · have : ((segs s.data.toList).drop k).drop (clD ((segs s.data.toList).drop k)) = [] := List.drop_eq_nil_of_le (by omega)
          rw [this]
          exact RdS.nil _ _ _ _
      obtain ⟨n, hn⟩ : ∃ n, clD ((segs s.data.toList).drop k) = n := ⟨_, rfl⟩
      rw [hn] at hF hce hpE hRn
      obtain ⟨Q, hQ⟩ : ∃ Q, placeAt s k = Q := ⟨_, rfl⟩
      obtain ⟨E, hE⟩ : ∃ E, placeAt s (clEnd s k) = E := ⟨_, rfl⟩
      obtain ⟨m, hm⟩ : ∃ m, chars s - k = m := ⟨_, rfl⟩
      have hnext : (∃ a1, n < m → W.cell? ⟨(a.add (n * 3)).block, (a.add (n * 3)).off + 1, none⟩ = some (.int .i64 (E : Int)) ∧ a1 = a) := by
        refine ⟨a, fun hlt => ⟨?_, rfl⟩⟩
        obtain ⟨a1, ha1, _, _, g, _⟩ := hR.at_ (i := n) (by omega)
        obtain rfl := Option.some.inj ha1
        rw [g, ← hE, hpE]
      obtain ⟨_, hnx⟩ := hnext
      have hlast : ¬ n < m → s.size = E := fun h => by
        have : clEnd s k = chars s := by omega
        rw [← hE, this, placeAt_all]
      rw [hQ] at q1 hplt hLs
      rw [hE] at hplt hEs hLs
      rw [hm] at hF hkc'
      have q1w := (hbw.cell (p := ⟨a.block, a.off + 1, none⟩) hab).symm.trans q1
      have HF := Lib.hid hF
      have HLs := Lib.hid hLs
      have HRn := Lib.hid hRn
      have Hown := Lib.hid hown
      have Hbw := Lib.hid hbw
      have hm1 : L.length + 1 ≤ maxLen := by unfold maxLen; omega
      have hm2 : (L.length + 1) * 24 ≤ 140737488355328 := by omega
      have hQE : (Q : Int) ≤ (E : Int) := by omega
      have hEi : (E : Int) ≤ (s.size : Int) := by omega
      have hm0 : (0 : Int) < (m : Int) := by omega
      have hnm : n ≤ m := by omega
      have hnmi : (n : Int) ≤ (m : Int) := by omega
      clear hR hF hLs hRn hown hbw hL hstep hdl hpE hn hQ hE HR1
      rw [hm]
      go_wp2_with fail
      refine HF.out.mono ?_
      rintro _ W2 ⟨rfl, b2⟩
      have q0 := (b2.cell (p := ⟨a.block, a.off + 1, none⟩) (show a.block < W.heap.size by omega)).trans q1
      by_cases hlt : n < m
      · have hlti : (n : Int) < (m : Int) := by omega
        have qn := (b2.cell (p := ⟨(a.add (n * 3)).block, (a.add (n * 3)).off + 1, none⟩) (show (a.add (n * 3)).block < W.heap.size by rw [add_block]; omega)).trans (hnx hlt).1
        have hcn : ¬ c' = n := by omega
        clear hnx hlast
        have hs0 : W2.drew.cell? ⟨a.block, a.off + 1, none⟩ = some (.int .i64 (Q : Int)) := q0
        have HownD := Lib.hid (own_below Hown.out b2)
        have HbD := Lib.hid (Hbw.out.trans (b2.mono hB1))
        have HbW := Lib.hid (b2.mono hB1)
        have hBs : B1 ≤ W2.heap.size := by have := b2.size; omega
        have Hnews : Hid (∀ j u, [Value.int .i64 (Q : Int), Value.string (s.extract Q E)][j]? = some u → (W2.alloc (.cells #[.int .i64 (Q : Int), .string (s.extract Q E)] 28)).cell? ((⟨W2.heap.size, 0, none⟩ : Addr).add j) = some u) := Lib.hid (new_cells W2 [.int .i64 (Q : Int), .string (s.extract Q E)] 28)
        have hone : ∀ u ∈ [Value.int .i64 (Q : Int), Value.string (s.extract Q E)], u.oneCell' = true := by simp [Value.oneCell']
        have Hb2 := Lib.hid b2
        clear b2 Hown Hbw
        go_wp2_with fail
        go_region_held3 (fun W' => W'.cell? ⟨a.block, a.off + 1, none⟩ = some (.int .i64 (Q : Int)))
          (first | exact hs0 | exact cell_alloc_sl _ hs0 | exact e1)
          (first
            | (refine step_append_own3 rfl (.tmp 25) (.tmp 38) 22 rfl B1 28 i0 _ 2 24 Tryd.underlying22 hi hz0 hz1 hz2 rfl (by decide) _ L.length (pcCells L) rfl (HownD.out.alloc _) ⟨W2.heap.size, 0, none⟩ 1 1 [.int .i64 (Q : Int), .string (s.extract Q E)] rfl rfl Hnews.out hone hm1 hm2 (Nat.le_trans hBs (by simp)) ?_; intro v3 w3 own3 g3; have B3 := (below_Dc (HbD.out.alloc hBs (.cells #[.int .i64 (Q : Int), .string (s.extract Q E)] 28))).grown g3 (Nat.le_trans hBs (by simp)) (fun k hk => (HownD.out.lt k hk).1); have e1 := (show w3.cell? ⟨a.block, a.off + 1, none⟩ = some (.int .i64 (Q : Int)) from (B3.cell (p := ⟨a.block, a.off + 1, none⟩) hab).trans q1w); have B4' := Lib.hid ((below_Dc (HbW.out.alloc hBs (.cells #[.int .i64 (Q : Int), .string (s.extract Q E)] 28))).grown g3 (Nat.le_trans hBs (by simp)) (fun k hk => (HownD.out.lt k hk).1)); have Own3 := Lib.hid own3; have B3' := Lib.hid B3; clear own3 g3 B3))
        go_wp2_with fail
        refine ⟨⟨clEnd s k, L ++ [(Q, s.extract Q E)], some (a.add (n * 3)), c' - n, _, rfl, by rw [show m - n = chars s - clEnd s k by omega], by omega, hbd.2, HRn.out _ (.inl rfl) _ B4'.out, ?_, B3'.out, ?_⟩, show m - n < m by omega⟩
        · rw [List.length_append, pcCells_snoc]
          exact Own3.out
        · unfold Hid
          rw [← HLs.out]
          simp
      · have hlti : ¬ (n : Int) < (m : Int) := by omega
        have hse := hlast hlt
        clear hnx hlast
        subst hse
        rcases Classical.em (c' = n) with hcn | hcn
        all_goals
          have hs0 : W2.drew.cell? ⟨a.block, a.off + 1, none⟩ = some (.int .i64 (Q : Int)) := q0
          have HownD := Lib.hid (own_below Hown.out b2)
          have HbD := Lib.hid (Hbw.out.trans (b2.mono hB1))
          have HbW := Lib.hid (b2.mono hB1)
          have hBs : B1 ≤ W2.heap.size := by have := b2.size; omega
          have Hnews : Hid (∀ j u, [Value.int .i64 (Q : Int), Value.string (s.extract Q s.size)][j]? = some u → (W2.alloc (.cells #[.int .i64 (Q : Int), .string (s.extract Q s.size)] 28)).cell? ((⟨W2.heap.size, 0, none⟩ : Addr).add j) = some u) := Lib.hid (new_cells W2 [.int .i64 (Q : Int), .string (s.extract Q s.size)] 28)
          have hone : ∀ u ∈ [Value.int .i64 (Q : Int), Value.string (s.extract Q s.size)], u.oneCell' = true := by simp [Value.oneCell']
          have Hb2 := Lib.hid b2
          clear b2 Hown Hbw
          go_wp2_with fail
          go_region_held3 (fun W' => W'.cell? ⟨a.block, a.off + 1, none⟩ = some (.int .i64 (Q : Int)))
            (first | exact hs0 | exact cell_alloc_sl _ hs0 | exact e1)
            (first
              | (refine step_append_own3 rfl (.tmp 25) (.tmp 38) 22 rfl B1 28 i0 _ 2 24 Tryd.underlying22 hi hz0 hz1 hz2 rfl (by decide) _ L.length (pcCells L) rfl (HownD.out.alloc _) ⟨W2.heap.size, 0, none⟩ 1 1 [.int .i64 (Q : Int), .string (s.extract Q s.size)] rfl rfl Hnews.out hone hm1 hm2 (Nat.le_trans hBs (by simp)) ?_; intro v3 w3 own3 g3; have B3 := (below_Dc (HbD.out.alloc hBs (.cells #[.int .i64 (Q : Int), .string (s.extract Q s.size)] 28))).grown g3 (Nat.le_trans hBs (by simp)) (fun k hk => (HownD.out.lt k hk).1); have e1 := (show w3.cell? ⟨a.block, a.off + 1, none⟩ = some (.int .i64 (Q : Int)) from (B3.cell (p := ⟨a.block, a.off + 1, none⟩) hab).trans q1w); have B4' := Lib.hid ((below_Dc (HbW.out.alloc hBs (.cells #[.int .i64 (Q : Int), .string (s.extract Q s.size)] 28))).grown g3 (Nat.le_trans hBs (by simp)) (fun k hk => (HownD.out.lt k hk).1)); have Own3 := Lib.hid own3; have B3' := Lib.hid B3; clear own3 g3 B3))
          go_wp2_with fail
        · refine ⟨⟨clEnd s k, L ++ [(Q, s.extract Q s.size)], some a, 0, _, rfl, by rw [show m - n = chars s - clEnd s k by omega], by omega, hbd.2, HRn.out _ (.inr (by omega)) _ B4'.out, ?_, B3'.out, ?_⟩, show m - n < m by omega⟩
          · rw [List.length_append, pcCells_snoc]
            exact Own3.out
          · unfold Hid
            rw [← HLs.out]
            simp
        · refine ⟨⟨clEnd s k, L ++ [(Q, s.extract Q s.size)], some (a.add (n * 3)), c' - n, _, rfl, by rw [show m - n = chars s - clEnd s k by omega], by omega, hbd.2, HRn.out _ (.inr (by omega)) _ B4'.out, ?_, B3'.out, ?_⟩, show m - n < m by omega⟩
          · rw [List.length_append, pcCells_snoc]
            exact Own3.out
          · unfold Hid
            rw [← HLs.out]
            simp
    · obtain rfl : k = chars s := by omega
      have hLs := hL.out
      rw [pcsF_end s _ _ (Nat.le_refl (chars s)), List.append_nil] at hLs
      obtain ⟨Af, cf, rfl, _⟩ := own_shape hown
      subst hLs
      rw [Nat.sub_self]
      have Hown := Lib.hid hown
      have Hbw := Lib.hid hbw
      clear hown hbw hR HS HR1
      go_wp2_with fail
      go_ret
      exact ⟨Af, cf, rfl, own_base Hown.out (by have := Hb1.out.size; omega), Hb1.out.trans (Hbw.out.mono (by have := Hb1.out.size; omega))⟩
end Go.Proofs.YtiafofekobcifaaDoor

/- The document's Next: walked. -/
namespace Go.Proofs.YtiafofekobcifaaDoor
open Go.RowKit Go.Lib

set_option maxRecDepth 100000 in
set_option maxHeartbeats 1000000 in
theorem rnext_any (s : ByteArray) (w : World) (hs : s.size ≤ 1073741824) : Calls Tryd.prog 52 #[.string s] w fun e w' =>
    e = .returned (.int .i64 ((placeAt s (clEnd s 0) : Nat) : Int)) ∧ Below w.heap.size w w' := by
  have hcs : chars s ≤ s.size := by have := segs_len s.data.toList; rw [size_list] at this; exact this
  have HS := Lib.hid (signs_any s w hs)
  obtain ⟨E, hE⟩ : ∃ E, placeAt s (clEnd s 0) = E := ⟨_, rfl⟩
  rw [hE]
  go_enter Tryd.func52, Tryd.ntmps52
  go_wp2_with fail
  refine HS.out.mono ?_
  rintro _ w1 ⟨A, c, rfl, hown1, b1⟩
  obtain ⟨B1, hB1e⟩ : ∃ B1, w1.heap.size = B1 := ⟨_, rfl⟩
  have hR : RdS w1 B1 A (placeAt s 0) ((segs s.data.toList).drop 0) := by rw [← hB1e]; exact Rd.own hown1
  have Hb1 := Lib.hid b1
  clear b1 hown1
  by_cases h0 : chars s = 0
  · have hv : placeAt s (clEnd s 0) = 0 := by
      have := clEnd_all s
      rw [h0] at this
      rw [this, placeAt_zero]
    obtain rfl : E = 0 := by rw [← hE]; exact hv
    rw [h0]
    clear hR hE hv
    go_wp2_with fail
    go_ret
    exact ⟨rfl, Hb1.out⟩
  · have hdl : ((segs s.data.toList).drop 0).length = chars s := by rw [List.drop_zero]; rfl
    have hF := rfirst_any w1 B1 A c (placeAt s 0) ((segs s.data.toList).drop 0) hR (by omega) (by omega) (by omega)
    rw [firstN_clD _ (by omega), hdl] at hF
    have hce : clEnd s 0 = 0 + clD ((segs s.data.toList).drop 0) := rfl
    have hbd := clEnd_bounds (s := s) (i := 0) (by omega)
    have hpE : placeAt s (clEnd s 0) = placeAt s 0 + total (((segs s.data.toList).drop 0).take (clD ((segs s.data.toList).drop 0))) := by rw [hce, placeAt_add]
    obtain ⟨n, hn⟩ : ∃ n, clD ((segs s.data.toList).drop 0) = n := ⟨_, rfl⟩
    rw [hn] at hF hce hpE
    obtain ⟨m, hm⟩ : ∃ m, chars s = m := ⟨_, rfl⟩
    have hpa := placeAt_all s
    rw [hm] at hF hbd hpa hdl
    have hm0 : ¬ ((m : Int) = 0) := by omega
    rw [hm]
    by_cases hlt : n < m
    · obtain ⟨a, rfl, hab, _, g, _⟩ := hR.at_ (i := n) (by omega)
      rw [← hpE, hE] at g
      have hnm : (n : Int) < (m : Int) := by omega
      have hne : ¬ ((n : Int) = (m : Int)) := by omega
      have HF := Lib.hid hF
      clear hR hF hpE hE hdl
      go_wp2_with fail
      refine HF.out.mono ?_
      rintro _ w2 ⟨rfl, b2⟩
      have q := (b2.cell (p := ⟨(a.add (n * 3)).block, (a.add (n * 3)).off + 1, none⟩) (show (a.add (n * 3)).block < w1.heap.size by rw [add_block]; omega)).trans g
      have Hb2 := Lib.hid (Hb1.out.trans (b2.mono Hb1.out.size))
      clear b2
      go_wp2_with fail
      go_ret
      exact ⟨rfl, Hb2.out⟩
    · have hnm : n = m := by omega
      have hse : s.size = E := by rw [← hE, hce, Nat.zero_add, hnm, hpa]
      have HF := Lib.hid hF
      clear hR hF hpE hE hdl
      subst hnm
      subst hse
      go_wp2_with fail
      refine HF.out.mono ?_
      rintro _ w2 ⟨rfl, b2⟩
      have Hb2 := Lib.hid (Hb1.out.trans (b2.mono Hb1.out.size))
      clear b2
      go_wp2_with fail
      go_ret
      exact ⟨rfl, Hb2.out⟩
end Go.Proofs.YtiafofekobcifaaDoor

/- The borders of a text as the document lists them. -/
namespace Go.Proofs.YtiafofekobcifaaDoor
open Go.RowKit Go.Lib

theorem mem_pcsF (s : ByteArray) (b : Nat) : ∀ f k, IsBord s k → chars s - k ≤ f → (b ∈ (pcsF s f k).map (·.1) ↔ ∃ j, IsBord s j ∧ k ≤ j ∧ j < chars s ∧ placeAt s j = b)
  | 0, k, hk, hf => by
    constructor
    · intro h
      simp [pcsF] at h
    · rintro ⟨j, _, h1, h2, _⟩
      omega
  | f + 1, k, hk, hf => by
    unfold pcsF
    by_cases h : k < chars s
    · rw [if_pos h]
      have hb := clEnd_bounds h
      have ih := mem_pcsF s b f (clEnd s k) (hk.next k h) (by omega)
      rw [List.map_cons, List.mem_cons, ih]
      constructor
      · rintro (rfl | ⟨j, h1, h2, h3, h4⟩)
        · exact ⟨k, hk, Nat.le_refl _, h, rfl⟩
        · exact ⟨j, h1, by omega, h3, h4⟩
      · rintro ⟨j, h1, h2, h3, h4⟩
        rcases Nat.lt_or_ge k j with hlt | hge
        · exact .inr ⟨j, h1, isBord_lt hk h1 hlt, h3, h4⟩
        · have : j = k := by omega
          subst this
          exact .inl h4.symm
    · rw [if_neg h]
      constructor
      · intro h
        simp at h
      · rintro ⟨j, _, h1, h2, _⟩
        omega
def bordL (s : ByteArray) : List Nat := (pcs s).map (·.1) ++ [s.size]
theorem mem_bordL (s : ByteArray) (q : Int) : (∃ b ∈ bordL s, (b : Int) = q) ↔ isB s q := by
  constructor
  · rintro ⟨b, hb, rfl⟩
    rcases List.mem_append.1 hb with hb | hb
    · obtain ⟨j, h1, _, _, rfl⟩ := (mem_pcsF s b _ 0 .zero (by omega)).1 hb
      exact ⟨j, h1, rfl⟩
    · obtain rfl := List.mem_singleton.1 hb
      exact ⟨chars s, isBord_all s, by rw [placeAt_all]⟩
  · rintro ⟨k, hk, rfl⟩
    refine ⟨placeAt s k, List.mem_append.2 ?_, rfl⟩
    rcases Nat.lt_or_ge k (chars s) with h | h
    · exact .inl ((mem_pcsF s _ _ 0 .zero (by omega)).2 ⟨k, hk, Nat.zero_le _, h, rfl⟩)
    · have := isBord_le hk
      have : k = chars s := by omega
      rw [this, placeAt_all]
      exact .inr (List.mem_singleton.2 rfl)
theorem bordL_len (s : ByteArray) : (bordL s).length = (pcs s).length + 1 := by simp [bordL]
theorem clLast_get (s : ByteArray) (x : Nat × ByteArray) (h : (pcs s)[(pcs s).length - 1]? = some x) : clLast s = x.2.size := by
  unfold clLast
  obtain ⟨L, hL⟩ : ∃ L, pcs s = L := ⟨_, rfl⟩
  rw [hL] at h ⊢
  rcases List.eq_nil_or_concat L with rfl | ⟨M, y, rfl⟩
  · simp at h
  · simp at h
    simp [lastOf, h]
theorem clLast_nil (s : ByteArray) (h : (pcs s).length = 0) : clLast s = 0 := by
  unfold clLast
  rw [List.eq_nil_of_length_eq_zero h]
  rfl
theorem around_pc {s : ByteArray} {p a b i : Nat} {x : Nat × ByteArray} (h : Around s p a b) (hx : (pcs s)[i]? = some x) (h1 : x.1 ≤ p) (h2 : p < x.1 + x.2.size) : a = x.1 ∧ b = x.1 + x.2.size := by
  have hi := (List.getElem?_eq_some_iff.1 hx).1
  obtain ⟨k, hk, hd⟩ := split_at s i (Nat.le_of_lt hi)
  obtain ⟨hkc, hg⟩ := drop_at s i k hd hi
  rw [hx] at hg
  obtain rfl := Option.some.inj hg
  have hsz := pc_size s k
  have hb := clEnd_bounds hkc
  have hlt := placeAt_lt s hb.1 hb.2
  have e1 : (pc s k).1 = placeAt s k := rfl
  have e2 : (pc s k).2.size = placeAt s (clEnd s k) - placeAt s k := hsz
  rw [e1, e2] at h2
  rw [e1] at h1
  rw [e1, e2]
  have := around_one h hk h1 (by omega)
  omega
end Go.Proofs.YtiafofekobcifaaDoor

/- The document's Last, Borders, Is, Into, At: walked. -/
namespace Go.Proofs.YtiafofekobcifaaDoor
open Go.RowKit Go.Lib

theorem rdp_own {w : World} {A : Option Addr} {n c b : Nat} {s : ByteArray} (h : w.ownsRow b 28 2 (.slice A (pcs s).length c) (pcs s).length (pcCells (pcs s))) : RdP w w.heap.size A (pcs s) := Rd.own h

theorem rint_info : (Tryd.prog.info? 3).map (fun i => (i.zero, i.size, i.bytes)) = some (some (.int .i64 0), 1, 8) := by kernel_rfl
theorem into_any (q h : Int) (w : World) (hh : 0 ≤ h) : Calls Tryd.prog 31 #[.int .i64 q, .int .i64 0, .int .i64 h] w fun e w' => e = .returned (.int .i64 (min (max q 0) h)) ∧ w' = w := by
  go_enter Tryd.func31, Tryd.ntmps31
  by_cases h1 : q < 0
  · go_wp2
    go_ret
    exact ⟨by rw [show min (max q 0) h = 0 by omega]; rfl, rfl⟩
  · by_cases h2 : h < q
    · go_wp2
      go_ret
      exact ⟨by rw [show min (max q 0) h = h by omega]; rfl, rfl⟩
    · go_wp2
      go_ret
      exact ⟨by rw [show min (max q 0) h = q by omega]; rfl, rfl⟩

def natCells (l : List Nat) : List Value := List.map (fun b : Nat => Value.int .i64 (b : Int)) l
theorem natCells_snoc (l : List Nat) (x : Nat) : natCells (l ++ [x]) = natCells l ++ [Value.int .i64 (x : Int)] := by simp [natCells]
theorem natCells_at (l : List Nat) (k x : Nat) (h : l[k]? = some x) : (natCells l)[k]? = some (Value.int .i64 (x : Int)) := by simp [natCells, h]
end Go.Proofs.YtiafofekobcifaaDoor
