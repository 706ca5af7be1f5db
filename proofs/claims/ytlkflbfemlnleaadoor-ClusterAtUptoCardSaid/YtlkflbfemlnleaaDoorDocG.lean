/- The document's All: walked. -/
import Derived.Test.YtlkflbfemlnleaaDoorFirstG
import Derived.Test.YtlkflbfemlnleaaDoorRowG
import Derived.Test.YtlkflbfemlnleaaDoorBordG
import Derived.Test.YtlkflbfemlnleaaDoorLastC
import Derived.BigQuiet
import Derived.Deep.QuietTactic
namespace Go.Proofs.YtlkflbfemlnleaaDoor
open Go.RowKit Go.Lib

theorem below_Dc {B : Nat} {a w : World} (h : Below B a w) : Below B a w.drew := ⟨h.os, h.tape, h.output, h.size, h.block⟩
theorem step_append_own3 {P : Program} {ops : Array Oper} {o : Oper} {a : Act} {w : World} {K : Act → World → Prop} {Q : Exit → Act → World → Prop} {E : Prop} (hgd : o.guard = none) (s x : Operand) (t : TypeId)
    (ho : o.op = .call { callee := .builtin .append, args := #[s, x], argTypes := #[t, t] })
    (base : Nat) (e : TypeId) (i : TypeInfo) (z : Value) (size bytes : Nat) (ht : P.underlying t = some (.slice e)) (hi : P.info? e = some i) (hz : i.zero = some z)
    (hsize : i.size = size) (hby : i.bytes = bytes) (hzs : z.cells.size = size) (hsz : 0 < size)
    (v : Value) (n : Nat) (xs : List Value) (hs : a.eval s = v) (hown : w.ownsRow base e size v n xs)
    (ad : Addr) (m c : Nat) (news : List Value) (hx : a.eval x = .slice (some ad) m c) (hl : news.length = m * size) (hnews : ∀ j u, news[j]? = some u → w.cell? (ad.add j) = some u) (h1 : ∀ u ∈ news, u.oneCell' = true)
    (h63 : n + m ≤ maxLen) (hbytes : (n + m) * bytes ≤ 140737488355328) (hbase : base ≤ w.heap.size)
    (h : ∀ v' w', w'.ownsRow base e size v' (n + m) (xs ++ news) → w.grownBy w' v.ownBlock → K (a.put o.dst v') w') : if Region.wanted o (yielded ops a.tmps) = true then Oper.wp P o a w K Q else E := by
  have hw : Region.wanted o (yielded ops a.tmps) = true := by simp [Region.wanted, hgd]
  rw [if_pos hw]
  exact wp_append_own w s x t ho base e i z size bytes ht hi hz hsize hby hzs hsz v n xs hs hown ad m c news hx hl hnews h1 h63 hbytes hbase fun v' w' h2 h3 _ => h v' w' h2 h3
theorem RdS.drop {w : World} {B p : Nat} {a : Addr} {ds : List (Nat × Nat)} (h : RdS w B (some a) p ds) (n : Nat) (hn : n ≤ ds.length) : RdS w B (some (a.add (n * 3))) (p + total (ds.take n)) (ds.drop n) := by
  refine ⟨sgs_len _ _, ?_⟩
  rcases h.2 with h0 | ⟨a', e, hb, hc⟩
  · exact .inl (by rw [List.length_drop]; omega)
  · obtain rfl := Option.some.inj e
    refine .inr ⟨_, rfl, by rw [add_block]; exact hb, fun j u hu => ?_⟩
    rw [add_sum]
    refine hc _ u ?_
    have h1 : sgs p ds = sgs p (ds.take n) ++ sgs (p + total (ds.take n)) (ds.drop n) := by rw [← sgs_append, List.take_append_drop]
    have h2 : (sgs p (ds.take n)).length = n * 3 := by rw [sgs_len, List.length_take, Nat.min_eq_left hn]
    rw [h1, List.getElem?_append_right (by omega), h2, Nat.add_sub_cancel_left]
    exact hu
theorem RdS.nil (w : World) (B p : Nat) (A : Option Addr) : RdS w B A p [] := Rd.nil w B 3 A
theorem rpiece_info : (Tryd.prog.info? 51).map (fun i => (i.zero, i.size, i.bytes)) = some (some (.agg #[.int .i64 0, .string ByteArray.empty]), 2, 24) := by kernel_rfl
def lenV : Value → Nat
  | .slice _ n _ => n
  | _ => 0

set_option maxRecDepth 100000 in
set_option maxHeartbeats 4000000 in
theorem rall_any (s : ByteArray) (w : World) (hs : s.size ≤ 1073741824) : Calls Tryd.prog 10 #[.string s] w fun e w' =>
    ∃ A c, e = .returned (.slice A (pcs s).length c) ∧ w'.ownsRow w.heap.size 51 2 (.slice A (pcs s).length c) (pcs s).length (pcCells (pcs s)) ∧ Below w.heap.size w w' := by
  obtain ⟨i0, hi, hz0, hz1, hz2⟩ := info_parts rpiece_info
  have hpl := pcs_len s
  have hcs : chars s ≤ s.size := by have := segs_len s.data.toList; rw [size_list] at this; exact this
  have HS := Lib.hid (signs_any s w hs)
  go_enter Tryd.func10, Tryd.ntmps10
  go_wp2_with fail
  refine HS.out.mono ?_
  rintro _ w1 ⟨A, c, rfl, hown1, b1⟩
  obtain ⟨B1, hB1e⟩ : ∃ B1, w1.heap.size = B1 := ⟨_, rfl⟩
  have hnc : chars s ≤ c := by obtain ⟨_, _, h1, h2, _⟩ := own_shape hown1; cases h1; exact h2
  have hR1 : RdS w1 B1 A (placeAt s 0) ((segs s.data.toList).drop 0) := by rw [← hB1e]; exact Rd.own hown1
  have HR1 := Lib.hid hR1
  have Hb1 := Lib.hid b1
  clear hR1 b1 hown1
  go_wp2_with fail
  go_loopw [3, 4] (fun x v wr => ∃ (k : Nat) (L : List (Nat × ByteArray)) (A' : Option Addr) (c' : Nat) (W : World), W = wr ∧ x = .slice A' (chars s - k) c' ∧ chars s - k ≤ c' ∧ k ≤ chars s ∧ RdS W B1 A' (placeAt s k) ((segs s.data.toList).drop k) ∧ W.ownsRow B1 51 2 v L.length (pcCells L) ∧ Below B1 w1 W ∧ Hid (L ++ pcsF s (chars s) k = pcs s)) (fun x _ _ => lenV x)
  case atStart => exact ⟨0, [], A, c, _, rfl, rfl, hnc, Nat.zero_le _, HR1.out, World.ownsRow_nil _ _ _ _, Below.refl _ _, rfl⟩
  case round =>
    rename_i x v wr
    obtain ⟨k, L, A', c', W, rfl, rfl, hkc', hk, hR, hown, hbw, hL⟩ := hrel
    have hB1 : B1 ≤ W.heap.size := by have := hbw.size; omega
    by_cases hkn : k < chars s
    · have hdl : ((segs s.data.toList).drop k).length = chars s - k := by rw [List.length_drop]; rfl
      obtain ⟨a, rfl, hab, _, q1, _⟩ := hR.at_ (i := 0) (by omega)
      rw [show a.add (0 * 3) = a by simp [Addr.add], List.take_zero, show placeAt s k + total [] = placeAt s k from rfl] at q1
      have hF := rfirst_any W B1 (some a) c' (placeAt s k) ((segs s.data.toList).drop k) hR hB1 (by omega) (by omega)
      rw [firstN_clD _ (by omega), hdl] at hF
      have hce : clEnd s k = k + clD ((segs s.data.toList).drop k) := rfl
      have hbd := clEnd_bounds hkn
      have hpE : placeAt s (clEnd s k) = placeAt s k + total (((segs s.data.toList).drop k).take (clD ((segs s.data.toList).drop k))) := by rw [hce, placeAt_add]
      have hstep := pcsF_step s k hkn
      have hLs := hL.out
      rw [hstep] at hLs
      have hplt := placeAt_lt s hbd.1 hbd.2
      have hEs := placeAt_le s (clEnd s k)
      have hlen : L.length < (pcs s).length := by rw [← hLs]; simp
      have hRn : ∀ A'', (A'' = some (a.add (clD ((segs s.data.toList).drop k) * 3)) ∨ chars s - clEnd s k = 0) → ∀ W', Below B1 W W' → RdS W' B1 A'' (placeAt s (clEnd s k)) ((segs s.data.toList).drop (clEnd s k)) := by
        intro A'' hA W' hb
        rw [hpE, hce, ← List.drop_drop]
        rcases hA with rfl | h0
        · exact (RdS.drop hR _ (by omega)).below hb
        · have : ((segs s.data.toList).drop k).drop (clD ((segs s.data.toList).drop k)) = [] := List.drop_eq_nil_of_le (by omega)
          rw [this]
          exact RdS.nil _ _ _ _
      obtain ⟨n, hn⟩ : ∃ n, clD ((segs s.data.toList).drop k) = n := ⟨_, rfl⟩
      rw [hn] at hF hce hpE hRn
      obtain ⟨Q, hQ⟩ : ∃ Q, placeAt s k = Q := ⟨_, rfl⟩
      obtain ⟨E, hE⟩ : ∃ E, placeAt s (clEnd s k) = E := ⟨_, rfl⟩
      obtain ⟨m, hm⟩ : ∃ m, chars s - k = m := ⟨_, rfl⟩
      have hnext : (∃ a1, n < m → W.cell? ⟨(a.add (n * 3)).block, (a.add (n * 3)).off + 1, none⟩ = some (.int .i64 (E : Int)) ∧ a1 = a) := by
        refine ⟨a, fun hlt => ⟨?_, rfl⟩⟩
        obtain ⟨a1, ha1, _, _, g, _⟩ := hR.at_ (i := n) (by omega)
        obtain rfl := Option.some.inj ha1
        rw [g, ← hE, hpE]
      obtain ⟨_, hnx⟩ := hnext
      have hlast : ¬ n < m → s.size = E := fun h => by
        have : clEnd s k = chars s := by omega
        rw [← hE, this, placeAt_all]
      rw [hQ] at q1 hplt hLs
      rw [hE] at hplt hEs hLs
      rw [hm] at hF hkc'
      have q1w := (hbw.cell (p := ⟨a.block, a.off + 1, none⟩) hab).symm.trans q1
      have HF := Lib.hid hF
      have HLs := Lib.hid hLs
      have HRn := Lib.hid hRn
      have Hown := Lib.hid hown
      have Hbw := Lib.hid hbw
      have hm1 : L.length + 1 ≤ maxLen := by unfold maxLen; omega
      have hm2 : (L.length + 1) * 24 ≤ 140737488355328 := by omega
      have hQE : (Q : Int) ≤ (E : Int) := by omega
      have hEi : (E : Int) ≤ (s.size : Int) := by omega
      have hm0 : (0 : Int) < (m : Int) := by omega
      have hnm : n ≤ m := by omega
      have hnmi : (n : Int) ≤ (m : Int) := by omega
      clear hR hF hLs hRn hown hbw hL hstep hdl hpE hn hQ hE HR1
      rw [hm]
      go_wp2_with fail
      refine HF.out.mono ?_
      rintro _ W2 ⟨rfl, b2⟩
      have q0 := (b2.cell (p := ⟨a.block, a.off + 1, none⟩) (show a.block < W.heap.size by omega)).trans q1
      by_cases hlt : n < m
      · have hlti : (n : Int) < (m : Int) := by omega
        have qn := (b2.cell (p := ⟨(a.add (n * 3)).block, (a.add (n * 3)).off + 1, none⟩) (show (a.add (n * 3)).block < W.heap.size by rw [add_block]; omega)).trans (hnx hlt).1
        have hcn : ¬ c' = n := by omega
        clear hnx hlast
        have hs0 : W2.drew.cell? ⟨a.block, a.off + 1, none⟩ = some (.int .i64 (Q : Int)) := q0
        have HownD := Lib.hid (own_below Hown.out b2)
        have HbD := Lib.hid (Hbw.out.trans (b2.mono hB1))
        have HbW := Lib.hid (b2.mono hB1)
        have hBs : B1 ≤ W2.heap.size := by have := b2.size; omega
        have Hnews : Hid (∀ j u, [Value.int .i64 (Q : Int), Value.string (s.extract Q E)][j]? = some u → (W2.alloc (.cells #[.int .i64 (Q : Int), .string (s.extract Q E)] 51)).cell? ((⟨W2.heap.size, 0, none⟩ : Addr).add j) = some u) := Lib.hid (new_cells W2 [.int .i64 (Q : Int), .string (s.extract Q E)] 51)
        have hone : ∀ u ∈ [Value.int .i64 (Q : Int), Value.string (s.extract Q E)], u.oneCell' = true := by simp [Value.oneCell']
        have Hb2 := Lib.hid b2
        clear b2 Hown Hbw
        go_wp2_with fail
        go_region_held3 (fun W' => W'.cell? ⟨a.block, a.off + 1, none⟩ = some (.int .i64 (Q : Int)))
          (first | exact hs0 | exact cell_alloc_sl _ hs0 | exact e1)
          (first
            | (refine step_append_own3 rfl (.tmp 25) (.tmp 38) 23 rfl B1 51 i0 _ 2 24 Tryd.underlying23 hi hz0 hz1 hz2 rfl (by decide) _ L.length (pcCells L) rfl (HownD.out.alloc _) ⟨W2.heap.size, 0, none⟩ 1 1 [.int .i64 (Q : Int), .string (s.extract Q E)] rfl rfl Hnews.out hone hm1 hm2 (Nat.le_trans hBs (by simp)) ?_; intro v3 w3 own3 g3; have B3 := (below_Dc (HbD.out.alloc hBs (.cells #[.int .i64 (Q : Int), .string (s.extract Q E)] 51))).grown g3 (Nat.le_trans hBs (by simp)) (fun k hk => (HownD.out.lt k hk).1); have e1 := (show w3.cell? ⟨a.block, a.off + 1, none⟩ = some (.int .i64 (Q : Int)) from (B3.cell (p := ⟨a.block, a.off + 1, none⟩) hab).trans q1w); have B4' := Lib.hid ((below_Dc (HbW.out.alloc hBs (.cells #[.int .i64 (Q : Int), .string (s.extract Q E)] 51))).grown g3 (Nat.le_trans hBs (by simp)) (fun k hk => (HownD.out.lt k hk).1)); have Own3 := Lib.hid own3; have B3' := Lib.hid B3; clear own3 g3 B3))
        go_wp2_with fail
        refine ⟨⟨clEnd s k, L ++ [(Q, s.extract Q E)], some (a.add (n * 3)), c' - n, _, rfl, by rw [show m - n = chars s - clEnd s k by omega], by omega, hbd.2, HRn.out _ (.inl rfl) _ B4'.out, ?_, B3'.out, ?_⟩, show m - n < m by omega⟩
        · rw [List.length_append, pcCells_snoc]
          exact Own3.out
        · unfold Hid
          rw [← HLs.out]
          simp
      · have hlti : ¬ (n : Int) < (m : Int) := by omega
        have hse := hlast hlt
        clear hnx hlast
        subst hse
        rcases Classical.em (c' = n) with hcn | hcn
        all_goals
          have hs0 : W2.drew.cell? ⟨a.block, a.off + 1, none⟩ = some (.int .i64 (Q : Int)) := q0
          have HownD := Lib.hid (own_below Hown.out b2)
          have HbD := Lib.hid (Hbw.out.trans (b2.mono hB1))
          have HbW := Lib.hid (b2.mono hB1)
          have hBs : B1 ≤ W2.heap.size := by have := b2.size; omega
          have Hnews : Hid (∀ j u, [Value.int .i64 (Q : Int), Value.string (s.extract Q s.size)][j]? = some u → (W2.alloc (.cells #[.int .i64 (Q : Int), .string (s.extract Q s.size)] 51)).cell? ((⟨W2.heap.size, 0, none⟩ : Addr).add j) = some u) := Lib.hid (new_cells W2 [.int .i64 (Q : Int), .string (s.extract Q s.size)] 51)
          have hone : ∀ u ∈ [Value.int .i64 (Q : Int), Value.string (s.extract Q s.size)], u.oneCell' = true := by simp [Value.oneCell']
          have Hb2 := Lib.hid b2
          clear b2 Hown Hbw
          go_wp2_with fail
          go_region_held3 (fun W' => W'.cell? ⟨a.block, a.off + 1, none⟩ = some (.int .i64 (Q : Int)))
            (first | exact hs0 | exact cell_alloc_sl _ hs0 | exact e1)
            (first
              | (refine step_append_own3 rfl (.tmp 25) (.tmp 38) 23 rfl B1 51 i0 _ 2 24 Tryd.underlying23 hi hz0 hz1 hz2 rfl (by decide) _ L.length (pcCells L) rfl (HownD.out.alloc _) ⟨W2.heap.size, 0, none⟩ 1 1 [.int .i64 (Q : Int), .string (s.extract Q s.size)] rfl rfl Hnews.out hone hm1 hm2 (Nat.le_trans hBs (by simp)) ?_; intro v3 w3 own3 g3; have B3 := (below_Dc (HbD.out.alloc hBs (.cells #[.int .i64 (Q : Int), .string (s.extract Q s.size)] 51))).grown g3 (Nat.le_trans hBs (by simp)) (fun k hk => (HownD.out.lt k hk).1); have e1 := (show w3.cell? ⟨a.block, a.off + 1, none⟩ = some (.int .i64 (Q : Int)) from (B3.cell (p := ⟨a.block, a.off + 1, none⟩) hab).trans q1w); have B4' := Lib.hid ((below_Dc (HbW.out.alloc hBs (.cells #[.int .i64 (Q : Int), .string (s.extract Q s.size)] 51))).grown g3 (Nat.le_trans hBs (by simp)) (fun k hk => (HownD.out.lt k hk).1)); have Own3 := Lib.hid own3; have B3' := Lib.hid B3; clear own3 g3 B3))
          go_wp2_with fail
        · refine ⟨⟨clEnd s k, L ++ [(Q, s.extract Q s.size)], some a, 0, _, rfl, by rw [show m - n = chars s - clEnd s k by omega], by omega, hbd.2, HRn.out _ (.inr (by omega)) _ B4'.out, ?_, B3'.out, ?_⟩, show m - n < m by omega⟩
          · rw [List.length_append, pcCells_snoc]
            exact Own3.out
          · unfold Hid
            rw [← HLs.out]
            simp
        · refine ⟨⟨clEnd s k, L ++ [(Q, s.extract Q s.size)], some (a.add (n * 3)), c' - n, _, rfl, by rw [show m - n = chars s - clEnd s k by omega], by omega, hbd.2, HRn.out _ (.inr (by omega)) _ B4'.out, ?_, B3'.out, ?_⟩, show m - n < m by omega⟩
          · rw [List.length_append, pcCells_snoc]
            exact Own3.out
          · unfold Hid
            rw [← HLs.out]
            simp
    · obtain rfl : k = chars s := by omega
      have hLs := hL.out
      rw [pcsF_end s _ _ (Nat.le_refl (chars s)), List.append_nil] at hLs
      obtain ⟨Af, cf, rfl, _⟩ := own_shape hown
      subst hLs
      rw [Nat.sub_self]
      have Hown := Lib.hid hown
      have Hbw := Lib.hid hbw
      clear hown hbw hR HS HR1
      go_wp2_with fail
      go_ret
      exact ⟨Af, cf, rfl, own_base Hown.out (by have := Hb1.out.size; omega), Hb1.out.trans (Hbw.out.mono (by have := Hb1.out.size; omega))⟩
end Go.Proofs.YtlkflbfemlnleaaDoor

/- The borders of a text as the document lists them. -/
namespace Go.Proofs.YtlkflbfemlnleaaDoor
open Go.RowKit Go.Lib

theorem mem_pcsF (s : ByteArray) (b : Nat) : ∀ f k, IsBord s k → chars s - k ≤ f → (b ∈ (pcsF s f k).map (·.1) ↔ ∃ j, IsBord s j ∧ k ≤ j ∧ j < chars s ∧ placeAt s j = b)
  | 0, k, hk, hf => by
    constructor
    · intro h
      simp [pcsF] at h
    · rintro ⟨j, _, h1, h2, _⟩
      omega
  | f + 1, k, hk, hf => by
    unfold pcsF
    by_cases h : k < chars s
    · rw [if_pos h]
      have hb := clEnd_bounds h
      have ih := mem_pcsF s b f (clEnd s k) (hk.next k h) (by omega)
      rw [List.map_cons, List.mem_cons, ih]
      constructor
      · rintro (rfl | ⟨j, h1, h2, h3, h4⟩)
        · exact ⟨k, hk, Nat.le_refl _, h, rfl⟩
        · exact ⟨j, h1, by omega, h3, h4⟩
      · rintro ⟨j, h1, h2, h3, h4⟩
        rcases Nat.lt_or_ge k j with hlt | hge
        · exact .inr ⟨j, h1, isBord_lt hk h1 hlt, h3, h4⟩
        · have : j = k := by omega
          subst this
          exact .inl h4.symm
    · rw [if_neg h]
      constructor
      · intro h
        simp at h
      · rintro ⟨j, _, h1, h2, _⟩
        omega
def bordL (s : ByteArray) : List Nat := (pcs s).map (·.1) ++ [s.size]
theorem mem_bordL (s : ByteArray) (q : Int) : (∃ b ∈ bordL s, (b : Int) = q) ↔ isB s q := by
  constructor
  · rintro ⟨b, hb, rfl⟩
    rcases List.mem_append.1 hb with hb | hb
    · obtain ⟨j, h1, _, _, rfl⟩ := (mem_pcsF s b _ 0 .zero (by omega)).1 hb
      exact ⟨j, h1, rfl⟩
    · obtain rfl := List.mem_singleton.1 hb
      exact ⟨chars s, isBord_all s, by rw [placeAt_all]⟩
  · rintro ⟨k, hk, rfl⟩
    refine ⟨placeAt s k, List.mem_append.2 ?_, rfl⟩
    rcases Nat.lt_or_ge k (chars s) with h | h
    · exact .inl ((mem_pcsF s _ _ 0 .zero (by omega)).2 ⟨k, hk, Nat.zero_le _, h, rfl⟩)
    · have := isBord_le hk
      have : k = chars s := by omega
      rw [this, placeAt_all]
      exact .inr (List.mem_singleton.2 rfl)
theorem bordL_len (s : ByteArray) : (bordL s).length = (pcs s).length + 1 := by simp [bordL]
theorem clLast_get (s : ByteArray) (x : Nat × ByteArray) (h : (pcs s)[(pcs s).length - 1]? = some x) : clLast s = x.2.size := by
  unfold clLast
  obtain ⟨L, hL⟩ : ∃ L, pcs s = L := ⟨_, rfl⟩
  rw [hL] at h ⊢
  rcases List.eq_nil_or_concat L with rfl | ⟨M, y, rfl⟩
  · simp at h
  · simp at h
    simp [lastOf, h]
theorem clLast_nil (s : ByteArray) (h : (pcs s).length = 0) : clLast s = 0 := by
  unfold clLast
  rw [List.eq_nil_of_length_eq_zero h]
  rfl
theorem around_pc {s : ByteArray} {p a b i : Nat} {x : Nat × ByteArray} (h : Around s p a b) (hx : (pcs s)[i]? = some x) (h1 : x.1 ≤ p) (h2 : p < x.1 + x.2.size) : a = x.1 ∧ b = x.1 + x.2.size := by
  have hi := (List.getElem?_eq_some_iff.1 hx).1
  obtain ⟨k, hk, hd⟩ := split_at s i (Nat.le_of_lt hi)
  obtain ⟨hkc, hg⟩ := drop_at s i k hd hi
  rw [hx] at hg
  obtain rfl := Option.some.inj hg
  have hsz := pc_size s k
  have hb := clEnd_bounds hkc
  have hlt := placeAt_lt s hb.1 hb.2
  have e1 : (pc s k).1 = placeAt s k := rfl
  have e2 : (pc s k).2.size = placeAt s (clEnd s k) - placeAt s k := hsz
  rw [e1, e2] at h2
  rw [e1] at h1
  rw [e1, e2]
  have := around_one h hk h1 (by omega)
  omega
end Go.Proofs.YtlkflbfemlnleaaDoor

/- The document's Last, Borders, Is, Into, At: walked. -/
namespace Go.Proofs.YtlkflbfemlnleaaDoor
open Go.RowKit Go.Lib

theorem rdp_own {w : World} {A : Option Addr} {n c b : Nat} {s : ByteArray} (h : w.ownsRow b 51 2 (.slice A (pcs s).length c) (pcs s).length (pcCells (pcs s))) : RdP w w.heap.size A (pcs s) := Rd.own h

set_option maxRecDepth 100000 in
set_option maxHeartbeats 1000000 in
theorem rlast_any (s : ByteArray) (w : World) (hs : s.size ≤ 1073741824) : Calls Tryd.prog 17 #[.string s] w fun e w' =>
    e = .returned (.int .i64 ((clLast s : Nat) : Int)) ∧ Below w.heap.size w w' := by
  have hpl := pcs_len s
  have HA := Lib.hid (rall_any s w hs)
  obtain ⟨E, hE⟩ : ∃ E, clLast s = E := ⟨_, rfl⟩
  rw [hE]
  go_enter Tryd.func17, Tryd.ntmps17
  go_wp2_with fail
  refine HA.out.mono ?_
  rintro _ w1 ⟨A, c, rfl, hown1, b1⟩
  have hR : RdP w1 w1.heap.size A (pcs s) := Rd.own hown1
  have Hb1 := Lib.hid b1
  clear b1 hown1
  by_cases h0 : (pcs s).length = 0
  · obtain rfl : E = 0 := by rw [← hE]; exact clLast_nil s h0
    rw [h0]
    clear hR hE
    go_wp2_with fail
    go_ret
    exact ⟨rfl, Hb1.out⟩
  · obtain ⟨x, hx⟩ : ∃ x, (pcs s)[(pcs s).length - 1]? = some x := ⟨_, List.getElem?_eq_getElem (by omega)⟩
    obtain rfl : E = x.2.size := by rw [← hE]; exact clLast_get s x hx
    obtain ⟨a, rfl, _, _, g⟩ := hR.at_ hx
    rw [add_next] at g
    obtain ⟨N, hN⟩ : ∃ N, (pcs s).length = N := ⟨_, rfl⟩
    rw [hN] at h0 g hpl
    rw [hN]
    have hm0 : ¬ ((N : Int) = 0) := by omega
    have hw1 : IntKind.i64.wrap ((N : Int) - 1) = ((N - 1 : Nat) : Int) := by rw [IntWalk.i64_in _ (by omega)]; omega
    have hk : ((N - 1 : Nat) : Int) < (N : Int) := by omega
    clear hR hx hN hE
    go_wp2_with fail
    go_ret
    exact ⟨rfl, Hb1.out⟩

theorem rint_info : (Tryd.prog.info? 3).map (fun i => (i.zero, i.size, i.bytes)) = some (some (.int .i64 0), 1, 8) := by kernel_rfl
theorem into_any (q h : Int) (w : World) (hh : 0 ≤ h) : Calls Tryd.prog 40 #[.int .i64 q, .int .i64 0, .int .i64 h] w fun e w' => e = .returned (.int .i64 (min (max q 0) h)) ∧ w' = w := by
  go_enter Tryd.func40, Tryd.ntmps40
  by_cases h1 : q < 0
  · go_wp2
    go_ret
    exact ⟨by rw [show min (max q 0) h = 0 by omega]; rfl, rfl⟩
  · by_cases h2 : h < q
    · go_wp2
      go_ret
      exact ⟨by rw [show min (max q 0) h = h by omega]; rfl, rfl⟩
    · go_wp2
      go_ret
      exact ⟨by rw [show min (max q 0) h = q by omega]; rfl, rfl⟩

def natCells (l : List Nat) : List Value := List.map (fun b : Nat => Value.int .i64 (b : Int)) l
theorem natCells_snoc (l : List Nat) (x : Nat) : natCells (l ++ [x]) = natCells l ++ [Value.int .i64 (x : Int)] := by simp [natCells]
theorem natCells_at (l : List Nat) (k x : Nat) (h : l[k]? = some x) : (natCells l)[k]? = some (Value.int .i64 (x : Int)) := by simp [natCells, h]
set_option maxRecDepth 100000 in
set_option maxHeartbeats 1000000 in
theorem rborders_any (s : ByteArray) (w : World) (hs : s.size ≤ 1073741824) : Calls Tryd.prog 41 #[.string s] w fun e w' =>
    ∃ A c, e = .returned (.slice A (bordL s).length c) ∧ Rd w' w'.heap.size 1 A (bordL s).length (natCells (bordL s)) ∧ Below w.heap.size w w' := by
  obtain ⟨i0, hi, hz0, hz1, hz2⟩ := info_parts rint_info
  have hpl := pcs_len s
  have HA := Lib.hid (rall_any s w hs)
  have hbl : bordL s = (pcs s).map (·.1) ++ [s.size] := rfl
  rw [bordL_len, hbl]
  clear hbl
  obtain ⟨L, hL⟩ : ∃ L, pcs s = L := ⟨_, rfl⟩
  rw [hL] at HA hpl ⊢
  obtain ⟨N, hN⟩ : ∃ N, L.length = N := ⟨_, rfl⟩
  rw [hN] at hpl HA ⊢
  have HN := Lib.hid hN
  go_enter Tryd.func41, Tryd.ntmps41
  go_wp2_with fail
  refine HA.out.mono ?_
  rintro _ w1 ⟨A, c, rfl, hown1, b1⟩
  have HR : Hid (RdP w1 w1.heap.size A L) := Lib.hid (by have h := Rd.own hown1; rw [← hN] at h; exact h)
  have Hb1 := Lib.hid b1
  clear b1 hown1 HA hL hN
  obtain ⟨B1, hB1⟩ : ∃ B1, w1.heap.size = B1 := ⟨_, rfl⟩
  rw [hB1] at HR
  have hB1' := Lib.hid hB1
  clear hB1
  go_wp2_with fail
  go_loopw [4, 5] (fun v i wr => ∃ k : Nat, k ≤ N ∧ i = .int .i64 k ∧ wr.ownsRow B1 3 1 v k (natCells ((L.map (·.1)).take k)) ∧ Below B1 w1 wr) (fun _ i _ => N - (RowKit.intOf i).toNat)
  case atStart => exact ⟨0, Nat.zero_le _, rfl, World.ownsRow_nil _ _ _ _, Below.refl _ _⟩
  case round =>
    obtain ⟨k, hk, rfl, hown, hbw⟩ := hrel
    have HwB : Hid (B1 ≤ wr.heap.size) := Lib.hid (by have := hbw.size; have := hB1'.out; omega)
    by_cases hkn : k < N
    · obtain ⟨x, hx⟩ : ∃ x, L[k]? = some x := ⟨_, List.getElem?_eq_getElem (by rw [HN.out]; exact hkn)⟩
      obtain ⟨a, rfl, _, g, _⟩ := (RdP.below HR.out hbw).at_ hx
      have Htk := Lib.hid (take_snoc (L.map (·.1)) k x.1 (by rw [List.getElem?_map, hx]; rfl))
      have Hown := Lib.hid hown
      have Hbw := Lib.hid hbw
      clear hown hbw hx
      go_wp2_with (at_builtin; refine wpList_append_own _ rfl _ _ 31 rfl B1 3 i0 _ 1 8 Tryd.underlying31 hi hz0 hz1 hz2 rfl (by decide) _ _ _ rfl (Hown.out.alloc _) ⟨wr.heap.size, 0, none⟩ 1 1 [.int .i64 (x.1 : Int)] rfl rfl ?c1 ?c2 ?c3 ?c4 ?c5 ?_)
      try (case c1 => exact new_cells wr [.int .i64 (x.1 : Int)] 3)
      case c2 => simp [Value.oneCell']
      case c3 => unfold maxLen; omega
      case c4 => omega
      case c5 => have := HwB.out; simp; omega
      intro v' w2 hown2 hg2 _
      have Hown2 := Lib.hid hown2
      clear hown2
      go_wp2
      go_roundw
      case rel =>
        refine ⟨k + 1, by omega, by go_num, ?_, (Hbw.out.alloc HwB.out _).grown hg2 (by have := HwB.out; simp; omega) (fun k hk => (Hown.out.lt k hk).1)⟩
        rw [Htk.out]
        rw [natCells_snoc]
        exact Hown2.out
      case measure => simp [RowKit.intOf]; omega
    · obtain rfl : k = N := by omega
      have Hown := Lib.hid hown
      have Hbw := Lib.hid hbw
      have Htk : Hid ((L.map (·.1)).take k = L.map (·.1)) := Lib.hid (List.take_of_length_le (by rw [List.length_map, HN.out]; omega))
      clear hown hbw
      go_wp2_with (at_builtin; refine wpList_append_own _ rfl _ _ 31 rfl B1 3 i0 _ 1 8 Tryd.underlying31 hi hz0 hz1 hz2 rfl (by decide) _ _ _ rfl (Hown.out.alloc _) ⟨wr.heap.size, 0, none⟩ 1 1 [.int .i64 (s.size : Int)] rfl rfl ?c1 ?c2 ?c3 ?c4 ?c5 ?_)
      try (case c1 => exact new_cells wr [.int .i64 (s.size : Int)] 3)
      case c2 => simp [Value.oneCell']
      case c3 => unfold maxLen; omega
      case c4 => omega
      case c5 => have := HwB.out; simp; omega
      intro v' w2 hown2 hg2 _
      obtain ⟨g1, cap1, rfl⟩ := ownsRow_succ hown2
      have Hown2 := Lib.hid hown2
      clear hown2
      go_wp2
      go_ret
      have hR2 := Rd.own Hown2.out
      rw [Htk.out] at hR2
      refine ⟨_, _, rfl, ?_, Hb1.out.trans (((Hbw.out.alloc HwB.out _).grown hg2 (by have := HwB.out; simp; omega) (fun k hk => (Hown.out.lt k hk).1)).mono (by have := Hb1.out.size; have := hB1'.out; omega))⟩
      rw [natCells_snoc]
      exact hR2

set_option maxRecDepth 100000 in
set_option maxHeartbeats 1000000 in
theorem ris_any (s : ByteArray) (q : Int) (w : World) (hs : s.size ≤ 1073741824) : Calls Tryd.prog 23 #[.string s, .int .i64 q] w fun e w' =>
    (∃ b : Bool, e = .returned (.bool b) ∧ (b = true ↔ isB s q)) ∧ Below w.heap.size w w' := by
  have hpl := pcs_len s
  have HA := Lib.hid (rborders_any s w hs)
  have Hm := Lib.hid (mem_bordL s q)
  have hbl := bordL_len s
  obtain ⟨L, hL⟩ : ∃ L, bordL s = L := ⟨_, rfl⟩
  rw [hL] at HA hbl Hm
  obtain ⟨N, hN⟩ : ∃ N, L.length = N := ⟨_, rfl⟩
  rw [hN] at hbl HA
  have HN := Lib.hid hN
  clear hN hL
  go_enter Tryd.func23, Tryd.ntmps23
  go_wp2_with fail
  refine HA.out.mono ?_
  rintro _ w1 ⟨A, c, rfl, hR, b1⟩
  have HR := Lib.hid hR
  have Hb1 := Lib.hid b1
  clear b1 hR HA
  go_wp2_with fail
  go_loopw [6] (fun i wr => ∃ k : Nat, k ≤ N ∧ i = .int .i64 k ∧ wr = w1 ∧ ∀ j, j < k → ∀ b, L[j]? = some b → (b : Int) ≠ q) (fun i _ => N - (RowKit.intOf i).toNat)
  case atStart => exact ⟨0, Nat.zero_le _, rfl, rfl, fun j hj => by omega⟩
  case round =>
    obtain ⟨k, hk, rfl, rfl, hno⟩ := hrel
    have Hno := Lib.hid hno
    clear hno
    by_cases hkn : k < N
    · obtain ⟨x, hx⟩ : ∃ x, L[k]? = some x := ⟨_, List.getElem?_eq_getElem (by rw [HN.out]; exact hkn)⟩
      obtain ⟨a, rfl, _, g⟩ := Rd.addr HR.out (by omega)
      have g := g k _ (natCells_at _ _ _ hx)
      have Hx := Lib.hid hx
      clear hx
      by_cases hq : (x : Int) = q
      · have hqb : ((x : Int) == q) = true := by simp [hq]
        go_wp2
        go_ret
        exact ⟨⟨true, rfl, ⟨fun _ => Hm.out.1 ⟨x, List.mem_of_getElem? Hx.out, hq⟩, fun _ => rfl⟩⟩, Hb1.out⟩
      · have hqb : ((x : Int) == q) = false := by simp [hq]
        go_wp2
        go_roundw
        case rel =>
          refine ⟨k + 1, by omega, by go_num, by first | rfl | trivial, fun j hj b hb => ?_⟩
          rcases Nat.lt_or_ge j k with h | h
          · exact Hno.out j h b hb
          · have : j = k := by omega
            subst this
            rw [Hx.out] at hb
            obtain rfl := Option.some.inj hb
            exact hq
        case measure => simp [RowKit.intOf]; omega
    · go_wp2
      go_ret
      refine ⟨⟨false, rfl, ⟨fun e => (by cases e), fun h => ?_⟩⟩, Hb1.out⟩
      obtain ⟨b, hb, e⟩ := Hm.out.2 h
      obtain ⟨j, hj, rfl⟩ := List.getElem_of_mem hb
      have := HN.out
      exact absurd e (Hno.out j (by omega) _ (List.getElem?_eq_getElem hj))

set_option maxRecDepth 100000 in
set_option maxHeartbeats 1000000 in
theorem rat_any (s : ByteArray) (q : Int) (w : World) (hs : s.size ≤ 1073741824) : Calls Tryd.prog 21 #[.string s, .int .i64 q] w fun e w' =>
    (∃ a b : Nat, e = .returned (.tuple #[.int .i64 (a : Int), .int .i64 (b : Int)]) ∧ (∀ p a' b', min (max q 0) (s.size : Int) = ((p : Nat) : Int) → p < s.size → Around s p a' b' → a' = a ∧ b' = b) ∧ (min (max q 0) (s.size : Int) = (s.size : Int) → a = s.size ∧ b = s.size)) ∧ Below w.heap.size w w' := by
  have hpl := pcs_len s
  have HA := Lib.hid (fun w => rall_any s w hs)
  have Hch := Lib.hid (fun i x h => pcs_chain s i x h)
  have Har := Lib.hid (fun p a b i x h => @around_pc s p a b i x h)
  have Hsum := Lib.hid (pcs_sum s)
  obtain ⟨p, hp⟩ : ∃ p : Nat, min (max q 0) (s.size : Int) = (p : Int) := ⟨(min (max q 0) (s.size : Int)).toNat, by omega⟩
  have Hin := Lib.hid (into_any q (s.size : Int) w (by omega))
  rw [hp] at Hin ⊢
  have hps : p ≤ s.size := by omega
  obtain ⟨L, hL⟩ : ∃ L, pcs s = L := ⟨_, rfl⟩
  rw [hL] at HA hpl Hch Har Hsum
  obtain ⟨N, hN⟩ : ∃ N, L.length = N := ⟨_, rfl⟩
  rw [hN] at hpl HA
  have HN := Lib.hid hN
  go_enter Tryd.func21, Tryd.ntmps21
  go_wp2_with fail
  refine Hin.out.mono ?_
  rintro _ w0 ⟨rfl, h0⟩
  obtain rfl := h0.symm
  go_wp2_with fail
  refine (HA.out _).mono ?_
  rintro _ w1 ⟨A, c, rfl, hown1, b1⟩
  have HR : Hid (RdP w1 w1.heap.size A L) := Lib.hid (by have h := Rd.own hown1; rw [← hN] at h; exact h)
  have Hb1 := Lib.hid b1
  clear b1 hown1 HA Hin hL hN
  go_wp2_with fail
  go_loopw [8] (fun i wr => ∃ k z : Nat, k ≤ N ∧ i = .int .i64 k ∧ wr = w1.drewN z ∧ sumB (L.take k) ≤ p) (fun i _ => N - (RowKit.intOf i).toNat)
  case atStart => exact ⟨0, 0, Nat.zero_le _, rfl, rfl, by simp [sumB]⟩
  case round =>
    obtain ⟨k, z, hk, rfl, rfl, hle⟩ := hrel
    by_cases hkn : k < N
    · obtain ⟨x, hx⟩ : ∃ x, L[k]? = some x := ⟨_, List.getElem?_eq_getElem (by rw [HN.out]; exact hkn)⟩
      obtain ⟨a, rfl, _, g1, g2⟩ := HR.out.at_ hx
      rw [add_next] at g2
      obtain ⟨e1, e2, e3⟩ := Hch.out k x hx
      have Hsn := Lib.hid (by have := take_snoc L k x hx; rw [show sumB (L.take (k + 1)) = sumB (L.take k) + x.2.size by rw [this, sumB_snoc]] : sumB (L.take (k + 1)) = sumB (L.take k) + x.2.size)
      have hw : IntKind.i64.wrap ((x.1 : Int) + (x.2.size : Int)) = ((x.1 + x.2.size : Nat) : Int) := by rw [IntWalk.i64_in _ (by omega)]; omega
      have Hx := Lib.hid hx
      have Hle := Lib.hid hle
      have He1 := Lib.hid e1
      clear hx hle e1
      by_cases hlt : p < x.1 + x.2.size
      · have hlti : (p : Int) < ((x.1 + x.2.size : Nat) : Int) := by omega
        go_wp2_with fail
        go_quiet (fail)
        go_wp2_with fail
        go_quiet (fail)
        go_wp2
        go_ret2
        refine ⟨⟨x.1, x.1 + x.2.size, rfl, fun p' a' b' hp' hps' har => ?_, fun e => ?_⟩, below_N (below_N (below_N Hb1.out _) _) _⟩
        · have : p' = p := by omega
          subst this
          exact Har.out _ _ _ k x har Hx.out (by rw [He1.out]; exact Hle.out) hlt
        · omega
      · have hlti : ¬ ((p : Int) < ((x.1 + x.2.size : Nat) : Int)) := by omega
        go_wp2_with fail
        go_quiet (fail)
        go_wp2
        go_roundw
        case rel => exact ⟨k + 1, _, by omega, by go_num, rfl, by rw [Hsn.out, ← He1.out]; omega⟩
        case measure => simp [RowKit.intOf]; omega
    · obtain rfl : k = N := by omega
      rw [List.take_of_length_le (by rw [HN.out]; omega), Hsum.out] at hle
      go_wp2
      go_ret2
      exact ⟨⟨s.size, s.size, rfl, fun p' a' b' hp' hps' har => by omega, fun e => ⟨rfl, rfl⟩⟩, below_N Hb1.out _⟩
end Go.Proofs.YtlkflbfemlnleaaDoor
