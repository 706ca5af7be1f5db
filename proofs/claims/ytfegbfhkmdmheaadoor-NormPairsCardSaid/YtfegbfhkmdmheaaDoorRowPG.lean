/- orderRow of pieces. -/
import Derived.Test.YtfegbfhkmdmheaaDoorPiles
import Derived.Test.YtfegbfhkmdmheaaDoorLettG
import Derived.Test.YtfegbfhkmdmheaaDoorRowRG
import Derived.Deep.RegionHeld3
import Derived.Laws.AppendOwnNone
set_option linter.unusedSimpArgs false
set_option linter.unusedVariables false
namespace Go.Proofs.YtfegbfhkmdmheaaDoor
open Go.RowKit Go.Lib

/-- a piece: its character, its mark's number, its bad byte -/
abbrev Pc := Int × Nat × Nat
def encP (p : Pc) : List Value := [.int .i32 p.1, .int .u8 (p.2.1 : Int), .int .u8 (p.2.2 : Int)]
def numP (p : Pc) : Nat := p.2.1
theorem pieceN_info : (Tryd.prog.info? 100).map (fun i => (i.zero, i.size, i.bytes)) = some (some (.agg #[.int .i32 0, .int .u8 0, .int .u8 0]), 3, 8) := by kernel_rfl
theorem pmark_any (p : Pc) (w : World) : Calls Tryd.prog 101 #[.agg #[.int .i32 p.1, .int .u8 (p.2.1 : Int), .int .u8 (p.2.2 : Int)]] w fun e w' => e = .returned (.int .u8 (p.2.1 : Int)) ∧ Below w.heap.size w w' := by
  go_enter Tryd.func101, Tryd.ntmps101
  go_wp2_with fail
  go_ret
  exact ⟨rfl, (Below.refl _ w).alloc (Nat.le_refl _) _⟩
theorem step_append_at {P : Program} {ops : Array Oper} {o : Oper} {a : Act} {w : World} {K : Act → World → Prop} {Q : Exit → Act → World → Prop} {E : Prop} (hgd : o.guard = none) (s x : Operand) (t : TypeId)
    (ho : o.op = .call { callee := .builtin .append, args := #[s, x], argTypes := #[t, t] })
    (base : Nat) (e : TypeId) (i : TypeInfo) (z : Value) (size bytes : Nat) (ht : P.underlying t = some (.slice e)) (hi : P.info? e = some i) (hz : i.zero = some z)
    (hsize : i.size = size) (hby : i.bytes = bytes) (hzs : z.cells.size = size) (hsz : 0 < size)
    (v : Value) (n : Nat) (xs : List Value) (hs : a.eval s = v) (hown : w.ownsRow base e size v n xs)
    (ad : Addr) (m c : Nat) (news : List Value) (hx : a.eval x = .slice (some ad) m c) (hl : news.length = m * size) (hnews : ∀ j u, news[j]? = some u → w.cell? (ad.add j) = some u) (h1 : ∀ u ∈ news, u.oneCell' = true)
    (h63 : n + m ≤ maxLen) (hbytes : (n + m) * bytes ≤ 140737488355328) (hbase : base ≤ w.heap.size)
    (h : ∀ v' w', w'.ownsRow base e size v' (n + m) (xs ++ news) → w.grownBy w' v.ownBlock → (v'.ownBlock = v.ownBlock ∨ v'.ownBlock = some w.heap.size) → K (a.put o.dst v') w') : if Region.wanted o (yielded ops a.tmps) = true then Oper.wp P o a w K Q else E := by
  have hw : Region.wanted o (yielded ops a.tmps) = true := by simp [Region.wanted, hgd]
  rw [if_pos hw]
  obtain ⟨v', w', hr, h2, h3, _, h5⟩ := run_append_own_at (P := P) w base t o.type e i z size bytes ht hi hz hsize hby hzs hsz v n xs hown ad m c news hl hnews h1 h63 hbytes hbase
  unfold Oper.wp execOp
  simp only [ho, resolve, invoke, builtin, Sem.run_bind, Sem.run_pure, Result.andThen_ok, List.map_toArray, List.map_cons, List.map_nil, hs, hx, hr]
  exact h v' w' h2 h3 h5
theorem below_D4 {B : Nat} {a w : World} (h : Below B a w) : Below B a w.drew := ⟨h.os, h.tape, h.output, h.size, h.block⟩
theorem cell_alloc4 {w : World} {p : Addr} {v : Value} (o : Obj) (h : w.cell? p = some v) : (w.alloc o).cell? p = some v := by
  have hlt : p.block < w.heap.size := by
    rcases Nat.lt_or_ge p.block w.heap.size with h' | h'
    · exact h'
    · simp [World.cell?, Array.getElem?_eq_none h'] at h
  exact (((Below.refl w.heap.size w).alloc (Nat.le_refl _) o).cell hlt).trans h
theorem frozen_alloc4 {w : World} {p : Addr} (o : Obj) (hp : p.block < w.heap.size) (h : w.frozen? p = false) : (w.alloc o).frozen? p = false := by
  have e := ((Below.refl w.heap.size w).alloc (Nat.le_refl _) o).block p.block hp
  unfold World.frozen? at h ⊢
  rw [e]
  exact h
theorem cell_heap {w w' : World} {X o : Nat} (h : w'.heap[X]? = w.heap[X]?) : w'.cell? ⟨X, o, none⟩ = w.cell? ⟨X, o, none⟩ := by
  unfold World.cell?
  rw [h]
theorem rowP_short (A : Option Addr) (n c : Nat) (fv : Value) (w : World) (hn : n < 2) : Calls Tryd.prog 121 #[.slice A n c, fv] w fun e w' => e = .returned (.tuple #[]) ∧ w' = w := by
  have h : (n : Int) < 2 := by omega
  go_enter Tryd.func121, Tryd.ntmps121
  go_wp2_with fail
  exact ⟨rfl, _, results_none rfl _ _ _, rfl, rfl⟩
theorem zeros_P : Tryd.zeroCells163 = (List.replicate 256 (Value.slice none 0 0)).toArray := by kernel_rfl
theorem encP_len (x : Pc) : (encP x).length = 3 := rfl
theorem encP_one (x : Pc) : ∀ u ∈ encP x, u.oneCell' = true := by
  intro u hu
  simp only [encP, List.mem_cons, List.not_mem_nil, or_false] at hu
  rcases hu with rfl | rfl | rfl <;> rfl
set_option maxRecDepth 100000 in
set_option maxHeartbeats 4000000 in
theorem rowP_any (xs : List Pc) (R cap : Nat) (tb : TypeId) (pre post : List Value) (w : World) (hblk : Blk w R tb (pre ++ flat encP xs ++ post)) (hn : xs.length ≤ cap) (hm : xs.length ≤ 1073741824) (hx256 : ∀ x ∈ xs, numP x < 256) :
    Calls Tryd.prog 121 #[.slice (some ⟨R, pre.length, none⟩) xs.length cap, .func (.func 101) #[] #[]] w fun e w' =>
      e = .returned (.tuple #[]) ∧ Blk w' R tb (pre ++ flat encP (bucket numP xs) ++ post) ∧ Other w w' R := by
  obtain ⟨i0, hi, hz0, hz1, hz2⟩ := info_parts pieceN_info
  rcases Nat.lt_or_ge xs.length 2 with h2 | h2
  · refine (rowP_short _ _ _ _ w h2).mono ?_
    rintro _ w' ⟨rfl, rfl⟩
    rw [bucket_short numP xs h2 hx256]
    exact ⟨rfl, hblk, Other.refl _ _⟩
  · obtain ⟨n, hN⟩ : ∃ n, xs.length = n := ⟨_, rfl⟩
    rw [hN] at hn hm h2 ⊢
    have HN := Lib.hid hN
    have Hblk := Lib.hid hblk
    have h2i : ¬ (n : Int) < 2 := by omega
    have HM := Lib.hid (fun x w => pmark_any x w)
    clear hblk hN
    go_enter Tryd.func121, Tryd.ntmps121
    obtain ⟨Pb, hPb⟩ : ∃ Pb, w.heap.size = Pb := ⟨_, rfl⟩
    have hRP : R < Pb := by rw [← hPb]; exact Hblk.out.lt
    obtain ⟨W, hW⟩ : ∃ W, w.alloc (.cells Tryd.zeroCells163 163) = W := ⟨_, rfl⟩
    have HP0 : Hid (Piles W Pb 163 100 3 encP (fun _ => [])) := Lib.hid (Piles.made (by unfold Blk; rw [← hW, ← hPb, ← zeros_P]; exact (MapKept.heap_alloc w _).1))
    have HB0 : Hid (Below Pb w W) := Lib.hid (by rw [← hW, ← hPb]; exact (Below.refl _ w).alloc (Nat.le_refl _) _)
    have HW := Lib.hid hW
    have HPb := Lib.hid hPb
    clear hW hPb
    go_wp2_with fail
    rw [HW.out, HPb.out]
    go_loopw [15] (fun i wr => ∃ k : Nat, k ≤ n ∧ i = .int .i64 (k : Int) ∧ Piles wr Pb 163 100 3 encP (fun i => pile numP (xs.take k) i) ∧ Below Pb w wr) (fun i _ => n - (RowKit.intOf i).toNat)
    case atStart => exact ⟨0, Nat.zero_le _, rfl, HP0.out, HB0.out⟩
    case round =>
      obtain ⟨k, hk, rfl, hpl, hbw⟩ := hrel
      by_cases hkn : k < n
      · have hki : (k : Int) < (n : Int) := by omega
        obtain ⟨x, hx⟩ : ∃ x, xs[k]? = some x := ⟨_, List.getElem?_eq_getElem (by rw [HN.out]; exact hkn)⟩
        have hx3 : ∀ j u, (encP x)[j]? = some u → wr.cell? ⟨R, pre.length + k * 3 + j, none⟩ = some u := by
          intro j u hu
          refine (hbw.cell (p := ⟨R, pre.length + k * 3 + j, none⟩) hRP).trans (Hblk.out.cell ?_)
          rw [List.append_assoc, List.getElem?_append_right (by omega), show pre.length + k * 3 + j - pre.length = k * 3 + j by omega]
          have hf := flat_at (enc := encP) encP_len xs k x hx j u hu
          rw [List.getElem?_append_left (List.getElem?_eq_some_iff.1 hf).1]
          exact hf
        have hx0 : wr.cell? ⟨R, pre.length + k * 3, none⟩ = some (.int .i32 x.1) := hx3 0 _ rfl
        have hx1 : wr.cell? ⟨R, pre.length + k * 3 + 1, none⟩ = some (.int .u8 (x.2.1 : Int)) := hx3 1 _ rfl
        have hx2 : wr.cell? ⟨R, pre.length + k * 3 + 2, none⟩ = some (.int .u8 (x.2.2 : Int)) := hx3 2 _ rfl
        have HMx := Lib.hid (fun w => HM.out x w)
        have hm256 : x.2.1 < 256 := hx256 x (List.mem_of_getElem? hx)
        have Htk := Lib.hid (take_pile numP xs k x hx)
        have hm256i : (x.2.1 : Int) < 256 := by omega
        have Hpl := Lib.hid hpl
        have Hbw := Lib.hid hbw
        clear hx3 hx hpl hbw
        obtain ⟨V, hV⟩ : ∃ V, wr.alloc (.cells #[.int .i32 x.1, .int .u8 (x.2.1 : Int), .int .u8 (x.2.2 : Int)] 100) = V := ⟨_, rfl⟩
        have hVX : V.heap[wr.heap.size]? = some (.cells #[.int .i32 x.1, .int .u8 (x.2.1 : Int), .int .u8 (x.2.2 : Int)] 100 (0, 0)) := by rw [← hV]; exact (MapKept.heap_alloc _ _).1
        have hVb : Below wr.heap.size wr V := by rw [← hV]; exact (Below.refl _ wr).alloc (Nat.le_refl _) _
        obtain ⟨X, hX⟩ : ∃ X, wr.heap.size = X := ⟨_, rfl⟩
        have HV := Lib.hid hV
        have HX := Lib.hid hX
        have HVX := Lib.hid hVX
        have HVb := Lib.hid hVb
        clear hV hVX hVb hX
        go_wp2_with fail
        rw [HV.out, HX.out]
        refine (HMx.out V).mono ?_
        rintro _ w1 ⟨rfl, b1⟩
        have hXV : X < V.heap.size := heap_lt4 (HX.out ▸ HVX.out)
        have hX1 : w1.heap[X]? = some (.cells #[.int .i32 x.1, .int .u8 (x.2.1 : Int), .int .u8 (x.2.2 : Int)] 100 (0, 0)) := (b1.block X hXV).trans (HX.out ▸ HVX.out)
        have y0 : w1.cell? ⟨X, 0, none⟩ = some (.int .i32 x.1) := by simp [World.cell?, hX1]
        have y1 : w1.cell? ⟨X, 1, none⟩ = some (.int .u8 (x.2.1 : Int)) := by simp [World.cell?, hX1]
        have y2 : w1.cell? ⟨X, 2, none⟩ = some (.int .u8 (x.2.2 : Int)) := by simp [World.cell?, hX1]
        obtain ⟨cs, h1, h2, h3, h4⟩ := (Hpl.out.below HVb.out).below b1
        obtain ⟨m, hmm⟩ : ∃ m, x.2.1 = m := ⟨_, rfl⟩
        obtain ⟨v, hv⟩ : ∃ v, cs[m]? = some v := ⟨_, List.getElem?_eq_getElem (by rw [h2]; omega)⟩
        have hcv := h1.cell hv
        have hown : w1.ownsRow (Pb + 1) 100 3 v (pile numP (xs.take k) m).length (flat encP (pile numP (xs.take k) m)) := h3 m v hv
        have hpw : Pb < w1.heap.size := h1.lt
        have hlen : (pile numP (xs.take k) m).length ≤ 1073741824 := by
          have := List.length_filter_le (fun x => numP x == m) (xs.take k)
          have h5 := List.length_take_le k xs
          unfold pile
          have h6 := HN.out
          omega
        obtain ⟨ps, hps⟩ : ∃ ps, pile numP (xs.take k) m = ps := ⟨_, rfl⟩
        rw [hps] at hlen hown
        have hne : some Pb ≠ v.ownBlock := fun e => by have := (hown.lt Pb e.symm).1; omega
        have hPX : Pb ≠ X := by have := Hbw.out.size; have := Hpl.out.lt; have := HX.out; omega
        have hneX : some X ≠ v.ownBlock := fun e => by
          have e2 := Hpl.out
          obtain ⟨cs', a1, a2, a3, a4⟩ := e2
          have hcs : cs' = cs := by
            have b5 := (b1.block Pb (by have := HVb.out.size; have := a1.lt; omega)).trans ((HVb.out.block Pb a1.lt).trans a1)
            have b6 : some (Obj.cells cs'.toArray 163 (0, 0)) = some (Obj.cells cs.toArray 163 (0, 0)) := b5.symm.trans h1
            have b7 := Obj.cells.inj (Option.some.inj b6)
            have := congrArg Array.toList b7.1
            simpa using this
          subst hcs
          have := ((a3 m v hv).lt X e.symm).2
          have := HX.out
          omega
        have hXw : X < w1.heap.size := by have := b1.size; omega
        have Hps := Lib.hid hps
        have Hown := Lib.hid hown
        have H1 := Lib.hid h1
        have H3 := Lib.hid h3
        have H4 := Lib.hid h4
        have Hv := Lib.hid hv
        have Hmm := Lib.hid hmm
        have B1 := Lib.hid (Hbw.out.trans ((HVb.out.mono (by have := Hbw.out.size; have := HPb.out; omega)).trans (b1.mono (by have := HVb.out.size; have := Hbw.out.size; have := HPb.out; omega))))
        have hnews := new_cells w1 [.int .i32 x.1, .int .u8 (x.2.1 : Int), .int .u8 (x.2.2 : Int)] 100
        have Hnews := Lib.hid hnews
        have hone : ∀ u ∈ [Value.int .i32 x.1, Value.int .u8 (x.2.1 : Int), Value.int .u8 (x.2.2 : Int)], u.oneCell' = true := by simp [Value.oneCell']
        have hm1 : ps.length + 1 ≤ maxLen := by unfold maxLen; omega
        have hm2 : (ps.length + 1) * 8 ≤ 140737488355328 := by omega
        have hBs : Pb + 1 ≤ (w1.alloc (.cells #[.int .i32 x.1, .int .u8 (x.2.1 : Int), .int .u8 (x.2.2 : Int)] 100)).heap.size := by simp; omega
        clear h1 h3 h4 hv hown b1 hps hnews hX1
        have y3 := hcv
        have f3 := H1.out.frozen m
        rw [hmm] at y1 hm256i hone hBs Hnews ⊢
        have hS : w1.drew.cell? ⟨X, 0, none⟩ = some (.int .i32 x.1) ∧ w1.drew.cell? ⟨X, 1, none⟩ = some (.int .u8 (m : Int)) ∧ w1.drew.cell? ⟨X, 2, none⟩ = some (.int .u8 (x.2.2 : Int)) := ⟨y0, y1, y2⟩
        have hSa : ∀ o, (w1.drew.alloc o).cell? ⟨X, 0, none⟩ = some (.int .i32 x.1) ∧ (w1.drew.alloc o).cell? ⟨X, 1, none⟩ = some (.int .u8 (m : Int)) ∧ (w1.drew.alloc o).cell? ⟨X, 2, none⟩ = some (.int .u8 (x.2.2 : Int)) := fun o =>
          ⟨cell_alloc4 _ hS.1, cell_alloc4 _ hS.2.1, cell_alloc4 _ hS.2.2⟩
        have y4 : w1.drew.cell? ⟨Pb, m, none⟩ = some v := y3
        have y5 : ∀ o, (w1.drew.alloc o).cell? ⟨Pb, m, none⟩ = some v := fun o => cell_alloc4 _ y4
        go_wp2_with fail
        have z0 : w1.drew.cell? ⟨X, 0, none⟩ = some (.int .i32 x.1) := y0
        have z1 : w1.drew.cell? ⟨X, 1, none⟩ = some (.int .u8 (m : Int)) := y1
        have z2 : w1.drew.cell? ⟨X, 2, none⟩ = some (.int .u8 (x.2.2 : Int)) := y2
        have z3 : ∀ o, (w1.drew.alloc o).cell? ⟨X, 0, none⟩ = some (.int .i32 x.1) := fun o => (hSa o).1
        have z4 : ∀ o, (w1.drew.alloc o).cell? ⟨X, 1, none⟩ = some (.int .u8 (m : Int)) := fun o => (hSa o).2.1
        have z5 : ∀ o, (w1.drew.alloc o).cell? ⟨X, 2, none⟩ = some (.int .u8 (x.2.2 : Int)) := fun o => (hSa o).2.2
        go_region_law (first
            | (refine step_append_at rfl (.tmp 25) (.tmp 27) 63 rfl (Pb + 1) 100 i0 _ 3 8 Tryd.underlying63 hi hz0 hz1 hz2 rfl (by decide) _ ps.length (flat encP ps) rfl (Hown.out.alloc _) ⟨w1.heap.size, 0, none⟩ 1 1 [.int .i32 x.1, .int .u8 (m : Int), .int .u8 (x.2.2 : Int)] rfl rfl Hnews.out hone hm1 hm2 hBs ?_; intro v3 w3 own3 g3 hb3; obtain ⟨g1, cap1, rfl⟩ := succ4 own3; have hgr : Grew w1 w3 v (.slice (some ⟨g1, 0, none⟩) (ps.length + 1) cap1) := .of_append ((below_D4 (Below.refl _ w1)).alloc (Nat.le_refl _) _) g3 hb3; have b3 : Blk w3 Pb 163 cs := (hgr.block Pb hpw hne).trans H1.out; have hX3 := hgr.block X hXw hneX; have e5 : w3.cell? ⟨X, 0, none⟩ = some (.int .i32 x.1) ∧ w3.cell? ⟨X, 1, none⟩ = some (.int .u8 (m : Int)) ∧ w3.cell? ⟨X, 2, none⟩ = some (.int .u8 (x.2.2 : Int)) := ⟨(cell_heap hX3).trans y0, (cell_heap hX3).trans y1, (cell_heap hX3).trans y2⟩; have hX4 := heap_setCell_other w3 ⟨Pb, m, none⟩ X (Value.slice (some ⟨g1, 0, none⟩) (ps.length + 1) cap1) (fun e => hPX e.symm); have e8 : (w3.setCell ⟨Pb, m, none⟩ (.slice (some ⟨g1, 0, none⟩) (ps.length + 1) cap1)).cell? ⟨X, 0, none⟩ = some (.int .i32 x.1) ∧ (w3.setCell ⟨Pb, m, none⟩ (.slice (some ⟨g1, 0, none⟩) (ps.length + 1) cap1)).cell? ⟨X, 1, none⟩ = some (.int .u8 (m : Int)) ∧ (w3.setCell ⟨Pb, m, none⟩ (.slice (some ⟨g1, 0, none⟩) (ps.length + 1) cap1)).cell? ⟨X, 2, none⟩ = some (.int .u8 (x.2.2 : Int)) := ⟨(cell_heap hX4).trans e5.1, (cell_heap hX4).trans e5.2.1, (cell_heap hX4).trans e5.2.2⟩; have e6 := b3.cell Hv.out; have e7 := b3.frozen m; have Own3 := Lib.hid own3; have Hgr := Lib.hid hgr; clear own3 g3 hb3 hgr b3 hX3 hX4))
        all_goals go_wp2_with fail
        all_goals
          refine ⟨⟨k + 1, by omega, by go_num, ?_, ?_⟩, by simp [RowKit.intOf]; omega⟩
          · exact Piles.put H1.out h2 H3.out H4.out Hv.out Hgr.out (by have h := Own3.out; rw [← Hps.out] at h ⊢; rw [← Hmm.out] at h ⊢; exact h) (ls' := fun i => pile numP (xs.take (k + 1)) i) (x := x) (fun i => by have h := Htk.out i; rw [show numP x = m from Hmm.out] at h; exact h)
          · refine (B1.out.trans ?_).setCell (p := ⟨Pb, m, none⟩) (Nat.le_refl _) _
            exact ⟨Hgr.out.os, Hgr.out.tape, Hgr.out.output, by have := Hgr.out.size; omega, fun j hj => Hgr.out.block j (by omega) (fun e => by have := (Hown.out.lt j e.symm).1; omega)⟩
      · obtain rfl : k = n := by omega
        have hkk : ¬ (k : Int) < (k : Int) := by omega
        have hpl : Piles wr Pb 163 100 3 encP (fun i => pile numP xs i) := by
          rw [List.take_of_length_le (by rw [HN.out]; exact Nat.le_refl _)] at hpl
          exact hpl
        obtain ⟨W3, hW3⟩ : ∃ W3, W3 = wr := ⟨_, rfl⟩
        subst hW3
        have Hpl := Lib.hid hpl
        have HO : Hid (Other w W3 R) := Lib.hid (Other.of_below (by rw [HPb.out]; exact hbw) R)
        have HB3 : Hid (Blk W3 R tb (pre ++ flat encP xs ++ post)) := Lib.hid ((hbw.block R hRP).trans Hblk.out)
        clear hpl hbw HP0 HB0 HW
        have hbk : ∀ j, j ≤ 256 → (conc numP xs j).length ≤ k := by
          intro j hj
          have h1 := conc_mono numP xs j 256 hj
          have h2 := conc_len numP xs 256 hx256
          have h3 := HN.out
          omega
        have Hbk := Lib.hid hbk
        clear hbk
        go_wp2_with fail
        go_loopw [0, 35] (fun v i wv => ∃ j : Nat, j ≤ 256 ∧ i = .int .i64 (j : Int) ∧ v = .slice (some ⟨R, pre.length, none⟩) (conc numP xs j).length cap ∧
          Blk wv R tb (pre ++ flat encP (conc numP xs j) ++ (flat encP xs ++ post).drop ((conc numP xs j).length * 3)) ∧ Other W3 wv R) (fun _ i _ => 256 - (RowKit.intOf i).toNat)
        case atStart => exact ⟨0, Nat.zero_le _, rfl, rfl, by simpa [conc, flat] using HB3.out, Other.refl _ _⟩
        case round =>
          obtain ⟨j, hj, rfl, rfl, hbl, hot⟩ := hrel
          by_cases hj2 : j < 256
          · have hji : (j : Int) < 256 := by omega
            obtain ⟨cs, h1, h2, h3, h4⟩ := Hpl.out.other hot hRP
            obtain ⟨v, hv⟩ : ∃ v, cs[j]? = some v := ⟨_, List.getElem?_eq_getElem (by rw [h2]; exact hj2)⟩
            have hcv := h1.cell hv
            have hown : wr.ownsRow (Pb + 1) 100 3 v (pile numP xs j).length (flat encP (pile numP xs j)) := h3 j v hv
            have hnext : conc numP xs (j + 1) = conc numP xs j ++ pile numP xs j := rfl
            have hcl := Hbk.out (j + 1) (by omega)
            rw [hnext, List.length_append] at hcl
            obtain ⟨c, hc⟩ : ∃ c, conc numP xs j = c := ⟨_, rfl⟩
            obtain ⟨q, hq⟩ : ∃ q, pile numP xs j = q := ⟨_, rfl⟩
            rw [hc, hq] at hnext hcl
            rw [hc] at hbl ⊢
            rw [hq] at hown
            have hxl : (flat encP xs ++ post).length = k * 3 + post.length := by rw [List.length_append, flat_len encP_len, HN.out]
            have Hnx := Lib.hid hnext
            have Hot := Lib.hid hot
            have Hbl := Lib.hid hbl
            clear hc hq hnext h1 h2 h3 h4 hv hot hbl
            rcases hown.2 with ⟨rfl, hq0⟩ | ⟨g, cp, cur, rfl, _⟩
            · have hqn : q = [] := List.eq_nil_of_length_eq_zero hq0
              subst hqn
              clear hown
              go_wp2_with (at_builtin; refine wpList_append_nilblk rfl _ _ 63 rfl 100 i0 Tryd.underlying63 hi R pre.length c.length cap rfl rfl (by omega) ?_)
              go_wp2
              go_roundw
              case rel => exact ⟨j + 1, by omega, by go_num, by rw [Hnx.out, List.append_nil], by rw [Hnx.out, List.append_nil]; exact Hbl.out, Hot.out⟩
              case measure => simp [RowKit.intOf]; omega
            · have hsrc := hown.cells (g := g) rfl
              have hfl : (flat encP q).length = q.length * 3 := flat_len encP_len q
              have Hb2 : Hid (Blk wr R tb ((pre ++ flat encP c) ++ ((flat encP xs ++ post).drop (c.length * 3)).take (q.length * 3) ++ (flat encP xs ++ post).drop (c.length * 3 + q.length * 3))) := Lib.hid (by
                have h := Hbl.out
                rw [← List.drop_drop]
                rw [List.append_assoc (pre ++ flat encP c), List.take_append_drop]
                exact h)
              have hpre : (pre ++ flat encP c).length = pre.length + c.length * 3 := by rw [List.length_append, flat_len encP_len]
              have hold : (((flat encP xs ++ post).drop (c.length * 3)).take (q.length * 3)).length = (flat encP q).length := by
                rw [List.length_take, List.length_drop, hxl, hfl]
                omega
              have Hb3 := Lib.hid (Hb2.out.setCells (flat encP q) hold)
              rw [hpre] at Hb3
              have Ho3 := Lib.hid (Hot.out.trans (Other.setCells R (flat encP q) wr (pre.length + c.length * 3)))
              have Hone := flat_one encP_one q
              clear hown
              go_wp2_with (at_builtin; refine wpList_append_blk rfl _ _ 63 rfl 100 i0 3 Tryd.underlying63 hi hz1 R pre.length c.length cap rfl ⟨g, 0, none⟩ q.length cp (flat encP q) rfl hfl hsrc Hone (by omega) tb _ _ _ Hb2.out hpre hold ?_)
              go_roundw
              case rel =>
                refine ⟨j + 1, by omega, by go_num, by rw [Hnx.out, List.length_append], ?_, Ho3.out⟩
                rw [Hnx.out, flat_append, List.length_append]
                have h := Hb3.out
                rw [Nat.add_mul]
                simpa using h
              case measure => simp [RowKit.intOf]; omega
          · obtain rfl : j = 256 := by omega
            have Hbl := Lib.hid hbl
            have Hot := Lib.hid hot
            clear hbl hot
            go_wp2_with fail
            refine ⟨rfl, _, results_none rfl _ _ _, rfl, ?_, HO.out.trans Hot.out⟩
            have h := Hbl.out
            have hbl := bucket_len numP xs hx256
            rw [show conc numP xs 256 = bucket numP xs from rfl, hbl] at h
            rw [List.drop_left' (by rw [flat_len encP_len])] at h
            exact h
end Go.Proofs.YtfegbfhkmdmheaaDoor

/- orderRows of pieces. -/
namespace Go.Proofs.YtfegbfhkmdmheaaDoor
open Go.RowKit Go.Lib

set_option maxRecDepth 100000 in
set_option maxHeartbeats 4000000 in
theorem rowsP_any (xs : List Pc) (R cap : Nat) (tb : TypeId) (post : List Value) (w : World) (hblk : Blk w R tb (flat encP xs ++ post)) (hn : xs.length ≤ cap) (hcm : cap ≤ maxLen) (hm : xs.length ≤ 1073741824) (hx256 : ∀ x ∈ xs, numP x < 256) :
    Calls Tryd.prog 100 #[.slice (some ⟨R, 0, none⟩) xs.length cap, .func (.func 101) #[] #[]] w fun e w' =>
      e = .returned (.tuple #[]) ∧ Blk w' R tb (flat encP (ordZ numP xs) ++ post) ∧ Other w w' R := by
  obtain ⟨n, hN⟩ : ∃ n, xs.length = n := ⟨_, rfl⟩
  rw [hN] at hn hm ⊢
  have HN := Lib.hid hN
  have Hblk := Lib.hid hblk
  have HM := Lib.hid (fun x w => pmark_any x w)
  have HRow := Lib.hid (fun xs R cap tb pre post w h1 h2 h3 h4 => rowP_any xs R cap tb pre post w h1 h2 h3 h4)
  have HSh := Lib.hid (fun A n c fv w h => rowP_short A n c fv w h)
  clear hblk hN
  have hcm' : cap ≤ 9223372036854775807 := by unfold maxLen at hcm; omega
  go_enter Tryd.func100, Tryd.ntmps100
  go_wp2_with fail
  go_loopw [4, 9] (fun bv i wr => ∃ (k : Nat) (dn row rest : List Pc), k ≤ n ∧ bv = .int .i64 ((dn.length : Nat) : Int) ∧ i = .int .i64 (k : Int) ∧ dn.length + row.length = k ∧ rest = xs.drop k ∧ (∀ x ∈ row, numP x < 256) ∧ Hid (ordZ numP xs = dn ++ ordR numP row rest) ∧
      Blk wr R tb (flat encP dn ++ flat encP row ++ (flat encP rest ++ post)) ∧ Other w wr R) (fun _ i _ => n - (RowKit.intOf i).toNat)
  case atStart => exact ⟨0, [], [], xs, Nat.zero_le _, rfl, rfl, rfl, rfl, (fun _ h => by cases h), rfl, by simpa [flat] using Hblk.out, Other.refl _ _⟩
  case round =>
    obtain ⟨k, dn, row, rest, hk, rfl, rfl, hdk, hrest, hrow256, hord, hbl, hot⟩ := hrel
    by_cases hkn : k < n
    · have hki : (k : Int) < (n : Int) := by omega
      obtain ⟨x, hx⟩ : ∃ x, xs[k]? = some x := ⟨_, List.getElem?_eq_getElem (by rw [HN.out]; exact hkn)⟩
      have hr2 : rest = x :: xs.drop (k + 1) := by
        rw [hrest]
        obtain ⟨h, rfl⟩ := List.getElem?_eq_some_iff.1 hx
        exact List.drop_eq_getElem_cons h
      have hx3 : ∀ j u, (encP x)[j]? = some u → wr.cell? ⟨R, k * 3 + j, none⟩ = some u := by
        intro j u hu
        refine hbl.cell ?_
        rw [hr2, List.append_assoc, ← List.append_assoc, List.getElem?_append_right (by rw [List.length_append, flat_len encP_len, flat_len encP_len]; omega)]
        rw [List.length_append, flat_len encP_len, flat_len encP_len, show k * 3 + j - (dn.length * 3 + row.length * 3) = j by omega]
        show (encP x ++ flat encP (xs.drop (k + 1)) ++ post)[j]? = some u
        rw [List.append_assoc, List.getElem?_append_left (List.getElem?_eq_some_iff.1 hu).1]
        exact hu
      have hx0 : wr.cell? ⟨R, k * 3, none⟩ = some (.int .i32 x.1) := hx3 0 _ rfl
      have hx1 : wr.cell? ⟨R, k * 3 + 1, none⟩ = some (.int .u8 (x.2.1 : Int)) := hx3 1 _ rfl
      have hx2 : wr.cell? ⟨R, k * 3 + 2, none⟩ = some (.int .u8 (x.2.2 : Int)) := hx3 2 _ rfl
      have HMx := Lib.hid (fun w => HM.out x w)
      have hxm := hx256 x (List.mem_of_getElem? hx)
      clear hx3
      obtain ⟨m, hmm⟩ : ∃ m, x.2.1 = m := ⟨_, rfl⟩
      have hmm' : numP x = m := hmm
      have hlt := hbl.lt
      have hord' := hord.out
      rw [hr2] at hord' hbl
      unfold ordR at hord'
      rw [hmm'] at hord'
      obtain ⟨b, hb⟩ : ∃ b, dn.length = b := ⟨_, rfl⟩
      have Hr2 := Lib.hid hr2
      obtain ⟨V, hV⟩ : ∃ V, wr.alloc (.cells #[.int .i32 x.1, .int .u8 (x.2.1 : Int), .int .u8 (x.2.2 : Int)] 100) = V := ⟨_, rfl⟩
      have hVb : Below wr.heap.size wr V := by rw [← hV]; exact (Below.refl _ wr).alloc (Nat.le_refl _) _
      have HV := Lib.hid hV
      have HVb := Lib.hid hVb
      have Hmm := Lib.hid hmm
      clear hV hVb hmm hmm' hx hord hrest hr2
      rw [hb] at hdk ⊢
      go_wp2_with fail
      rw [HV.out]
      refine (HMx.out V).mono ?_
      rintro _ w1 ⟨rfl, b1⟩
      rw [Hmm.out]
      have b1 : Below wr.heap.size wr w1 := HVb.out.trans (b1.mono HVb.out.size)
      have hbl1 : Blk w1 R tb _ := (b1.block R hlt).trans hbl
      have Hot1 := Lib.hid (hot.trans (Other.of_below b1 R))
      clear hbl hot b1
      by_cases hm0 : m = 0
      · subst hm0
        rw [if_pos rfl] at hord'
        have hf1 : (flat encP dn).length = b * 3 := by rw [flat_len encP_len, hb]
        have hbc : ¬ (cap = b) := by omega
        have hbk : (b : Int) ≤ (k : Int) := by omega
        have hkc : (k : Int) ≤ (cap : Int) := by omega
        have hbci : (b : Int) < (cap : Int) := by omega
        have hR := HRow.out row R (cap - b) tb (flat encP dn) (flat encP (x :: xs.drop (k + 1)) ++ post) w1 hbl1 (by omega) (by omega) hrow256
        rw [hf1, show row.length = k - b by omega] at hR
        have HR := Lib.hid hR
        have Hord := Lib.hid hord'
        have hbu := bucket_len numP row hrow256
        have hwk : IntKind.i64.wrap ((k : Int) + 1) = ((k + 1 : Nat) : Int) := by rw [IntWalk.i64_in _ (by omega)]; omega
        clear hR hbl1 hord'
        go_wp2_with fail
        refine HR.out.mono ?_
        rintro _ w2 ⟨rfl, hb2, ho2⟩
        have Hb2 := Lib.hid hb2
        have Ho2 := Lib.hid (Hot1.out.trans ho2)
        clear hb2 ho2
        have hlen : (dn ++ bucket numP row ++ [x]).length = k + 1 := by simp; omega
        go_wp2
        go_roundw
        case rel =>
          refine ⟨k + 1, dn ++ bucket numP row ++ [x], [], xs.drop (k + 1), by omega, by rw [hlen]; first | rfl | (rw [← hwk]; rfl), by go_num, by rw [hlen]; rfl, rfl, (fun _ h => by cases h), ?_, ?_, Ho2.out⟩
          · have h := Hord.out
            unfold Hid
            rw [h]
            simp
          · have h := Hb2.out
            simpa [flat] using h
        case measure => simp [RowKit.intOf]; omega
      · rw [if_neg hm0] at hord'
        have hz : ((m : Int) == 0) = false := by rw [beq_eq_false_iff_ne]; omega
        have Hord := Lib.hid hord'
        have Hbl1 := Lib.hid hbl1
        clear hord' hbl1
        go_wp2
        go_roundw
        case rel =>
          refine ⟨k + 1, dn, row ++ [x], xs.drop (k + 1), by omega, by rw [hb], by go_num, by simp; omega, rfl, (fun y hy => by rcases List.mem_append.1 hy with hy | hy; exact hrow256 y hy; rw [List.mem_singleton.1 hy]; exact hxm), Lib.hid Hord.out, ?_, Hot1.out⟩
          have h := Hbl1.out
          rw [flat_append]
          simpa [flat] using h
        case measure => simp [RowKit.intOf]; omega
    · obtain rfl : k = n := by omega
      have hr2 : rest = [] := by rw [hrest]; exact List.drop_eq_nil_of_le (by rw [HN.out]; exact Nat.le_refl _)
      subst hr2
      have hord' := hord.out
      unfold ordR at hord'
      obtain ⟨b, hb⟩ : ∃ b, dn.length = b := ⟨_, rfl⟩
      rw [hb] at hdk ⊢
      have hbl' : Blk wr R tb (flat encP dn ++ flat encP row ++ post) := by simpa [flat] using hbl
      have Hord := Lib.hid hord'
      have Hot := Lib.hid hot
      clear hord hord' hot hbl hrest
      have hbk : (b : Int) ≤ (k : Int) := by omega
      have hkc : (k : Int) ≤ (cap : Int) := by omega
      rcases Classical.em (cap = b) with hcb | hcb
      · have hrow : row = [] := List.eq_nil_of_length_eq_zero (by omega)
        subst hrow
        have Hbl := Lib.hid hbl'
        have HS := Lib.hid (fun A c fv w => HSh.out A (k - b) c fv w (by omega))
        clear hbl'
        go_wp2_with fail
        refine (HS.out _ _ _ _).mono ?_
        rintro _ w2 ⟨rfl, h⟩
        obtain rfl := h.symm
        go_wp2_with fail
        refine ⟨rfl, _, results_none rfl _ _ _, rfl, ?_, Hot.out⟩
        rw [Hord.out, bucket_short numP [] (by decide) (fun x h => by cases h), List.append_nil]
        simpa [flat] using Hbl.out
      · have hf1 : (flat encP dn).length = b * 3 := by rw [flat_len encP_len, hb]
        have hR := HRow.out row R (cap - b) tb (flat encP dn) post wr hbl' (by omega) (by omega) hrow256
        rw [hf1, show row.length = k - b by omega] at hR
        have HR := Lib.hid hR
        clear hR hbl'
        go_wp2_with fail
        refine HR.out.mono ?_
        rintro _ w2 ⟨rfl, hb2, ho2⟩
        have Hb2 := Lib.hid hb2
        have Ho2 := Lib.hid (Hot.out.trans ho2)
        clear hb2 ho2
        go_wp2_with fail
        refine ⟨rfl, _, results_none rfl _ _ _, rfl, ?_, Ho2.out⟩
        rw [Hord.out, flat_append]
        exact Hb2.out
end Go.Proofs.YtfegbfhkmdmheaaDoor
