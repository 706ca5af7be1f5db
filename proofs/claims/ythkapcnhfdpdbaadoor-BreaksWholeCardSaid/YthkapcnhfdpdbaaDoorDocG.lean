/- The document's All: walked. -/
import Derived.Test.YthkapcnhfdpdbaaDoorFirstG
import Derived.Test.YthkapcnhfdpdbaaDoorRowG
set_option linter.unusedSimpArgs false
set_option linter.unusedVariables false
namespace Go.Proofs.YthkapcnhfdpdbaaDoor
open Go.RowKit Go.Lib

theorem below_Dc {B : Nat} {a w : World} (h : Below B a w) : Below B a w.drew := ⟨h.os, h.tape, h.output, h.size, h.block⟩
theorem step_append_own3 {P : Program} {ops : Array Oper} {o : Oper} {a : Act} {w : World} {K : Act → World → Prop} {Q : Exit → Act → World → Prop} {E : Prop} (hgd : o.guard = none) (s x : Operand) (t : TypeId)
    (ho : o.op = .call { callee := .builtin .append, args := #[s, x], argTypes := #[t, t] })
    (base : Nat) (e : TypeId) (i : TypeInfo) (z : Value) (size bytes : Nat) (ht : P.underlying t = some (.slice e)) (hi : P.info? e = some i) (hz : i.zero = some z)
    (hsize : i.size = size) (hby : i.bytes = bytes) (hzs : z.cells.size = size) (hsz : 0 < size)
    (v : Value) (n : Nat) (xs : List Value) (hs : a.eval s = v) (hown : w.ownsRow base e size v n xs)
    (ad : Addr) (m c : Nat) (news : List Value) (hx : a.eval x = .slice (some ad) m c) (hl : news.length = m * size) (hnews : ∀ j u, news[j]? = some u → w.cell? (ad.add j) = some u) (h1 : ∀ u ∈ news, u.oneCell' = true)
    (h63 : n + m ≤ maxLen) (hbytes : (n + m) * bytes ≤ 140737488355328) (hbase : base ≤ w.heap.size)
    (h : ∀ v' w', w'.ownsRow base e size v' (n + m) (xs ++ news) → w.grownBy w' v.ownBlock → K (a.put o.dst v') w') : if Region.wanted o (yielded ops a.tmps) = true then Oper.wp P o a w K Q else E := by
  have hw : Region.wanted o (yielded ops a.tmps) = true := by simp [Region.wanted, hgd]
  rw [if_pos hw]
  exact wp_append_own w s x t ho base e i z size bytes ht hi hz hsize hby hzs hsz v n xs hs hown ad m c news hx hl hnews h1 h63 hbytes hbase fun v' w' h2 h3 _ => h v' w' h2 h3
theorem RdS.drop {w : World} {B p : Nat} {a : Addr} {ds : List (Nat × Nat)} (h : RdS w B (some a) p ds) (n : Nat) (hn : n ≤ ds.length) : RdS w B (some (a.add (n * 3))) (p + total (ds.take n)) (ds.drop n) := by
  refine ⟨sgs_len _ _, ?_⟩
  rcases h.2 with h0 | ⟨a', e, hb, hc⟩
  · exact .inl (by rw [List.length_drop]; omega)
  · obtain rfl := Option.some.inj e
    refine .inr ⟨_, rfl, by rw [add_block]; exact hb, fun j u hu => ?_⟩
    rw [add_sum]
    refine hc _ u ?_
    have h1 : sgs p ds = sgs p (ds.take n) ++ sgs (p + total (ds.take n)) (ds.drop n) := by rw [← sgs_append, List.take_append_drop]
    have h2 : (sgs p (ds.take n)).length = n * 3 := by rw [sgs_len, List.length_take, Nat.min_eq_left hn]
    rw [h1, List.getElem?_append_right (by omega), h2, Nat.add_sub_cancel_left]
    exact hu
theorem RdS.nil (w : World) (B p : Nat) (A : Option Addr) : RdS w B A p [] := Rd.nil w B 3 A
theorem rpiece_info : (Tryd.prog.info? 44).map (fun i => (i.zero, i.size, i.bytes)) = some (some (.agg #[.int .i64 0, .string ByteArray.empty]), 2, 24) := by kernel_rfl
def lenV : Value → Nat
  | .slice _ n _ => n
  | _ => 0

set_option maxRecDepth 100000 in
set_option maxHeartbeats 4000000 in
theorem rall_any (s : ByteArray) (w : World) (hs : s.size ≤ 1073741824) : Calls Tryd.prog 18 #[.string s] w fun e w' =>
    ∃ A c, e = .returned (.slice A (pcs s).length c) ∧ w'.ownsRow w.heap.size 44 2 (.slice A (pcs s).length c) (pcs s).length (pcCells (pcs s)) ∧ Below w.heap.size w w' := by
  obtain ⟨i0, hi, hz0, hz1, hz2⟩ := info_parts rpiece_info
  have hpl := pcs_len s
  have hcs : chars s ≤ s.size := by have := segs_len s.data.toList; rw [size_list] at this; exact this
  have HS := Lib.hid (signs_any s w hs)
  go_enter Tryd.func18, Tryd.ntmps18
  go_wp2_with fail
  refine HS.out.mono ?_
  rintro _ w1 ⟨A, c, rfl, hown1, b1⟩
  obtain ⟨B1, hB1e⟩ : ∃ B1, w1.heap.size = B1 := ⟨_, rfl⟩
  have hnc : chars s ≤ c := by obtain ⟨_, _, h1, h2, _⟩ := own_shape hown1; cases h1; exact h2
  have hR1 : RdS w1 B1 A (placeAt s 0) ((segs s.data.toList).drop 0) := by rw [← hB1e]; exact Rd.own hown1
  have HR1 := Lib.hid hR1
  have Hb1 := Lib.hid b1
  clear hR1 b1 hown1
  go_wp2_with fail
  go_loopw [3, 4] (fun x v wr => ∃ (k : Nat) (L : List (Nat × ByteArray)) (A' : Option Addr) (c' : Nat) (W : World), W = wr ∧ x = .slice A' (chars s - k) c' ∧ chars s - k ≤ c' ∧ k ≤ chars s ∧ RdS W B1 A' (placeAt s k) ((segs s.data.toList).drop k) ∧ W.ownsRow B1 44 2 v L.length (pcCells L) ∧ Below B1 w1 W ∧ Hid (L ++ pcsF s (chars s) k = pcs s)) (fun x _ _ => lenV x)
  case atStart => exact ⟨0, [], A, c, _, rfl, rfl, hnc, Nat.zero_le _, HR1.out, World.ownsRow_nil _ _ _ _, Below.refl _ _, rfl⟩
  case round =>
    rename_i x v wr
    obtain ⟨k, L, A', c', W, rfl, rfl, hkc', hk, hR, hown, hbw, hL⟩ := hrel
    have hB1 : B1 ≤ W.heap.size := by have := hbw.size; omega
    by_cases hkn : k < chars s
    · have hdl : ((segs s.data.toList).drop k).length = chars s - k := by rw [List.length_drop]; rfl
      obtain ⟨a, rfl, hab, _, q1, _⟩ := hR.at_ (i := 0) (by omega)
      rw [show a.add (0 * 3) = a by simp [Addr.add], List.take_zero, show placeAt s k + total [] = placeAt s k from rfl] at q1
      have hF := rfirst_any W B1 (some a) c' (placeAt s k) ((segs s.data.toList).drop k) hR hB1 (by omega) (by omega)
      rw [firstN_clD _ (by omega), hdl] at hF
      have hce : clEnd s k = k + clD ((segs s.data.toList).drop k) := rfl
      have hbd := clEnd_bounds hkn
      have hpE : placeAt s (clEnd s k) = placeAt s k + total (((segs s.data.toList).drop k).take (clD ((segs s.data.toList).drop k))) := by rw [hce, placeAt_add]
      have hstep := pcsF_step s k hkn
      have hLs := hL.out
      rw [hstep] at hLs
      have hplt := placeAt_lt s hbd.1 hbd.2
      have hEs := placeAt_le s (clEnd s k)
      have hlen : L.length < (pcs s).length := by rw [← hLs]; simp
      have hRn : ∀ A'', (A'' = some (a.add (clD ((segs s.data.toList).drop k) * 3)) ∨ chars s - clEnd s k = 0) → ∀ W', Below B1 W W' → RdS W' B1 A'' (placeAt s (clEnd s k)) ((segs s.data.toList).drop (clEnd s k)) := by
        intro A'' hA W' hb
        rw [hpE, hce, ← List.drop_drop]
        rcases hA with rfl | h0
        · exact (RdS.drop hR _ (by omega)).below hb
        · have : ((segs s.data.toList).drop k).drop (clD ((segs s.data.toList).drop k)) = [] := List.drop_eq_nil_of_le (by omega)
          rw [this]
          exact RdS.nil _ _ _ _
      obtain ⟨n, hn⟩ : ∃ n, clD ((segs s.data.toList).drop k) = n := ⟨_, rfl⟩
      rw [hn] at hF hce hpE hRn
      obtain ⟨Q, hQ⟩ : ∃ Q, placeAt s k = Q := ⟨_, rfl⟩
      obtain ⟨E, hE⟩ : ∃ E, placeAt s (clEnd s k) = E := ⟨_, rfl⟩
      obtain ⟨m, hm⟩ : ∃ m, chars s - k = m := ⟨_, rfl⟩
      have hnext : (∃ a1, n < m → W.cell? ⟨(a.add (n * 3)).block, (a.add (n * 3)).off + 1, none⟩ = some (.int .i64 (E : Int)) ∧ a1 = a) := by
        refine ⟨a, fun hlt => ⟨?_, rfl⟩⟩
        obtain ⟨a1, ha1, _, _, g, _⟩ := hR.at_ (i := n) (by omega)
        obtain rfl := Option.some.inj ha1
        rw [g, ← hE, hpE]
      obtain ⟨_, hnx⟩ := hnext
      have hlast : ¬ n < m → s.size = E := fun h => by
        have : clEnd s k = chars s := by omega
        rw [← hE, this, placeAt_all]
      rw [hQ] at q1 hplt hLs
      rw [hE] at hplt hEs hLs
      rw [hm] at hF hkc'
      have q1w := (hbw.cell (p := ⟨a.block, a.off + 1, none⟩) hab).symm.trans q1
      have HF := Lib.hid hF
      have HLs := Lib.hid hLs
      have HRn := Lib.hid hRn
      have Hown := Lib.hid hown
      have Hbw := Lib.hid hbw
      have hm1 : L.length + 1 ≤ maxLen := by unfold maxLen; omega
      have hm2 : (L.length + 1) * 24 ≤ 140737488355328 := by omega
      have hQE : (Q : Int) ≤ (E : Int) := by omega
      have hEi : (E : Int) ≤ (s.size : Int) := by omega
      have hm0 : (0 : Int) < (m : Int) := by omega
      have hnm : n ≤ m := by omega
      have hnmi : (n : Int) ≤ (m : Int) := by omega
      clear hR hF hLs hRn hown hbw hL hstep hdl hpE hn hQ hE HR1
      rw [hm]
      go_wp2_with fail
      refine HF.out.mono ?_
      rintro _ W2 ⟨rfl, b2⟩
      have q0 := (b2.cell (p := ⟨a.block, a.off + 1, none⟩) (show a.block < W.heap.size by omega)).trans q1
      by_cases hlt : n < m
      · have hlti : (n : Int) < (m : Int) := by omega
        have qn := (b2.cell (p := ⟨(a.add (n * 3)).block, (a.add (n * 3)).off + 1, none⟩) (show (a.add (n * 3)).block < W.heap.size by rw [add_block]; omega)).trans (hnx hlt).1
        have hcn : ¬ c' = n := by omega
        clear hnx hlast
        have hs0 : W2.drew.cell? ⟨a.block, a.off + 1, none⟩ = some (.int .i64 (Q : Int)) := q0
        have HownD := Lib.hid (own_below Hown.out b2)
        have HbD := Lib.hid (Hbw.out.trans (b2.mono hB1))
        have HbW := Lib.hid (b2.mono hB1)
        have hBs : B1 ≤ W2.heap.size := by have := b2.size; omega
        have Hnews : Hid (∀ j u, [Value.int .i64 (Q : Int), Value.string (s.extract Q E)][j]? = some u → (W2.alloc (.cells #[.int .i64 (Q : Int), .string (s.extract Q E)] 44)).cell? ((⟨W2.heap.size, 0, none⟩ : Addr).add j) = some u) := Lib.hid (new_cells W2 [.int .i64 (Q : Int), .string (s.extract Q E)] 44)
        have hone : ∀ u ∈ [Value.int .i64 (Q : Int), Value.string (s.extract Q E)], u.oneCell' = true := by simp [Value.oneCell']
        have Hb2 := Lib.hid b2
        clear b2 Hown Hbw
        go_wp2_with fail
        go_region_held3 (fun W' => W'.cell? ⟨a.block, a.off + 1, none⟩ = some (.int .i64 (Q : Int)))
          (first | exact hs0 | exact cell_alloc_sl _ hs0 | exact e1)
          (first
            | (refine step_append_own3 rfl (.tmp 25) (.tmp 38) 42 rfl B1 44 i0 _ 2 24 Tryd.underlying42 hi hz0 hz1 hz2 rfl (by decide) _ L.length (pcCells L) rfl (HownD.out.alloc _) ⟨W2.heap.size, 0, none⟩ 1 1 [.int .i64 (Q : Int), .string (s.extract Q E)] rfl rfl Hnews.out hone hm1 hm2 (Nat.le_trans hBs (by simp)) ?_; intro v3 w3 own3 g3; have B3 := (below_Dc (HbD.out.alloc hBs (.cells #[.int .i64 (Q : Int), .string (s.extract Q E)] 44))).grown g3 (Nat.le_trans hBs (by simp)) (fun k hk => (HownD.out.lt k hk).1); have e1 := (show w3.cell? ⟨a.block, a.off + 1, none⟩ = some (.int .i64 (Q : Int)) from (B3.cell (p := ⟨a.block, a.off + 1, none⟩) hab).trans q1w); have B4' := Lib.hid ((below_Dc (HbW.out.alloc hBs (.cells #[.int .i64 (Q : Int), .string (s.extract Q E)] 44))).grown g3 (Nat.le_trans hBs (by simp)) (fun k hk => (HownD.out.lt k hk).1)); have Own3 := Lib.hid own3; have B3' := Lib.hid B3; clear own3 g3 B3))
        go_wp2_with fail
        refine ⟨⟨clEnd s k, L ++ [(Q, s.extract Q E)], some (a.add (n * 3)), c' - n, _, rfl, by rw [show m - n = chars s - clEnd s k by omega], by omega, hbd.2, HRn.out _ (.inl rfl) _ B4'.out, ?_, B3'.out, ?_⟩, show m - n < m by omega⟩
        · rw [List.length_append, pcCells_snoc]
          exact Own3.out
        · unfold Hid
          rw [← HLs.out]
          simp
      · have hlti : ¬ (n : Int) < (m : Int) := by omega
        have hse := hlast hlt
        clear hnx hlast
        subst hse
        rcases Classical.em (c' = n) with hcn | hcn
        all_goals
          have hs0 : W2.drew.cell? ⟨a.block, a.off + 1, none⟩ = some (.int .i64 (Q : Int)) := q0
          have HownD := Lib.hid (own_below Hown.out b2)
          have HbD := Lib.hid (Hbw.out.trans (b2.mono hB1))
          have HbW := Lib.hid (b2.mono hB1)
          have hBs : B1 ≤ W2.heap.size := by have := b2.size; omega
          have Hnews : Hid (∀ j u, [Value.int .i64 (Q : Int), Value.string (s.extract Q s.size)][j]? = some u → (W2.alloc (.cells #[.int .i64 (Q : Int), .string (s.extract Q s.size)] 44)).cell? ((⟨W2.heap.size, 0, none⟩ : Addr).add j) = some u) := Lib.hid (new_cells W2 [.int .i64 (Q : Int), .string (s.extract Q s.size)] 44)
          have hone : ∀ u ∈ [Value.int .i64 (Q : Int), Value.string (s.extract Q s.size)], u.oneCell' = true := by simp [Value.oneCell']
          have Hb2 := Lib.hid b2
          clear b2 Hown Hbw
          go_wp2_with fail
          go_region_held3 (fun W' => W'.cell? ⟨a.block, a.off + 1, none⟩ = some (.int .i64 (Q : Int)))
            (first | exact hs0 | exact cell_alloc_sl _ hs0 | exact e1)
            (first
              | (refine step_append_own3 rfl (.tmp 25) (.tmp 38) 42 rfl B1 44 i0 _ 2 24 Tryd.underlying42 hi hz0 hz1 hz2 rfl (by decide) _ L.length (pcCells L) rfl (HownD.out.alloc _) ⟨W2.heap.size, 0, none⟩ 1 1 [.int .i64 (Q : Int), .string (s.extract Q s.size)] rfl rfl Hnews.out hone hm1 hm2 (Nat.le_trans hBs (by simp)) ?_; intro v3 w3 own3 g3; have B3 := (below_Dc (HbD.out.alloc hBs (.cells #[.int .i64 (Q : Int), .string (s.extract Q s.size)] 44))).grown g3 (Nat.le_trans hBs (by simp)) (fun k hk => (HownD.out.lt k hk).1); have e1 := (show w3.cell? ⟨a.block, a.off + 1, none⟩ = some (.int .i64 (Q : Int)) from (B3.cell (p := ⟨a.block, a.off + 1, none⟩) hab).trans q1w); have B4' := Lib.hid ((below_Dc (HbW.out.alloc hBs (.cells #[.int .i64 (Q : Int), .string (s.extract Q s.size)] 44))).grown g3 (Nat.le_trans hBs (by simp)) (fun k hk => (HownD.out.lt k hk).1)); have Own3 := Lib.hid own3; have B3' := Lib.hid B3; clear own3 g3 B3))
          go_wp2_with fail
        · refine ⟨⟨clEnd s k, L ++ [(Q, s.extract Q s.size)], some a, 0, _, rfl, by rw [show m - n = chars s - clEnd s k by omega], by omega, hbd.2, HRn.out _ (.inr (by omega)) _ B4'.out, ?_, B3'.out, ?_⟩, show m - n < m by omega⟩
          · rw [List.length_append, pcCells_snoc]
            exact Own3.out
          · unfold Hid
            rw [← HLs.out]
            simp
        · refine ⟨⟨clEnd s k, L ++ [(Q, s.extract Q s.size)], some (a.add (n * 3)), c' - n, _, rfl, by rw [show m - n = chars s - clEnd s k by omega], by omega, hbd.2, HRn.out _ (.inr (by omega)) _ B4'.out, ?_, B3'.out, ?_⟩, show m - n < m by omega⟩
          · rw [List.length_append, pcCells_snoc]
            exact Own3.out
          · unfold Hid
            rw [← HLs.out]
            simp
    · obtain rfl : k = chars s := by omega
      have hLs := hL.out
      rw [pcsF_end s _ _ (Nat.le_refl (chars s)), List.append_nil] at hLs
      obtain ⟨Af, cf, rfl, _⟩ := own_shape hown
      subst hLs
      rw [Nat.sub_self]
      have Hown := Lib.hid hown
      have Hbw := Lib.hid hbw
      clear hown hbw hR HS HR1
      go_wp2_with fail
      go_ret
      exact ⟨Af, cf, rfl, own_base Hown.out (by have := Hb1.out.size; omega), Hb1.out.trans (Hbw.out.mono (by have := Hb1.out.size; omega))⟩
end Go.Proofs.YthkapcnhfdpdbaaDoor
