/- told: ranging over an iterator of clusters, held against a list; left early, then gone over twice. -/
import Derived.Test.YthkapcnhfdpdbaaDoorRowG
import Derived.LoopN
import Derived.Test.YthkapcnhfdpdbaaDoorHlG
import Derived.Deep.QuietTactic
import Derived.Laws.EntriesVeiled
set_option linter.unusedSimpArgs false
set_option linter.unusedVariables false
namespace Go.Proofs.YthkapcnhfdpdbaaDoor
open Go.RowKit Go.Shelf Go.Lib
attribute [local go_sem] Oper.semAt_some

/-- what lies in told's boxes, and the calls it has put off -/
structure TS (w : World) (B : Nat) (A : Option Addr) (n c : Nat) (bk : Bool) (lv m : Int) (Ds : List Nat) (W : World) : Prop where
  b0 : Boxed W B 42 (.slice A n c)
  b1 : Boxed W (B + 1) 4 (.bool bk)
  b2 : Boxed W (B + 1 + 1) 3 (.int .i64 lv)
  b3 : Boxed W (B + 1 + 1 + 1) 4 (.bool false)
  b4 : Boxed W (B + 1 + 1 + 1 + 1) 3 (.int .i64 m)
  bel : Below B w W
  ds : ∀ D ∈ Ds, B + 4 < D ∧ W.heap[D]? = some (.deferred (some []))
section
variable {w : World} {B : Nat} {A : Option Addr} {n c : Nat} {bk : Bool} {lv m : Int} {Ds : List Nat} {W : World}
theorem heap_lt {W : World} {D : Nat} {o : Obj} (h : W.heap[D]? = some o) : D < W.heap.size := (Array.getElem?_eq_some_iff.1 h).1
theorem TS.moves (h : TS w B A n c bk lv m Ds W) {b : Nat} {T : Bl} {W' : World} (hT : ∀ k, T k → b ≤ k) (hb : B + 4 < b) (hd : ∀ D ∈ Ds, D < b) (hm : Moves T W W') : TS w B A n c bk lv m Ds W' := by
  have hn : ∀ k, k < b → ¬ T k := fun k hk e => by have := hT _ e; omega
  exact ⟨(hm.block _ h.b0.lt (hn _ (by omega))).trans h.b0, (hm.block _ h.b1.lt (hn _ (by omega))).trans h.b1, (hm.block _ h.b2.lt (hn _ (by omega))).trans h.b2, (hm.block _ h.b3.lt (hn _ (by omega))).trans h.b3, (hm.block _ h.b4.lt (hn _ (by omega))).trans h.b4,
    h.bel.trans ⟨hm.os, hm.tape, hm.output, hm.size, fun k hk => hm.block k (by have := h.bel.size; have := h.b0.lt; omega) (hn _ (by omega))⟩,
    fun D hD => ⟨(h.ds D hD).1, (hm.block _ (heap_lt (h.ds D hD).2) (hn _ (hd D hD))).trans (h.ds D hD).2⟩⟩
theorem TS.set (h : TS w B A n c bk lv m Ds W) (m' : Int) : TS w B A n c bk lv m' Ds (W.setCell ⟨B + 1 + 1 + 1 + 1, 0, none⟩ (.int .i64 m')) :=
  ⟨h.b0.other (by omega) _, h.b1.other (by omega) _, h.b2.other (by omega) _, h.b3.other (by omega) _, h.b4.set _, h.bel.setCell (p := ⟨B + 1 + 1 + 1 + 1, 0, none⟩) (show B ≤ B + 1 + 1 + 1 + 1 by omega) _,
    fun D hD => ⟨(h.ds D hD).1, (Below.heap_setCell _ _ _ D (fun e => by have e : D = B + 1 + 1 + 1 + 1 := e; have := (h.ds D hD).1; omega)).trans (h.ds D hD).2⟩⟩
theorem TS.more (h : TS w B A n c bk lv m Ds W) {D : Nat} (h1 : B + 4 < D) (hD : W.heap[D]? = some (.deferred (some []))) : TS w B A n c bk lv m (D :: Ds) W :=
  ⟨h.b0, h.b1, h.b2, h.b3, h.b4, h.bel, fun E hE => by
    rcases List.mem_cons.1 hE with rfl | hE
    · exact ⟨h1, hD⟩
    · exact h.ds E hE⟩
theorem TS.lt (h : TS w B A n c bk lv m Ds W) : B + 4 < W.heap.size := by have := h.b4.lt; omega
theorem TS.dlt (h : TS w B A n c bk lv m Ds W) : ∀ D ∈ Ds, D < W.heap.size := fun D hD => heap_lt (h.ds D hD).2
end

end Go.Proofs.YthkapcnhfdpdbaaDoor

/- Layer 13, the law BreaksLines, over the program's contracts. -/
namespace Go.Proofs.YthkapcnhfdpdbaaDoor
open Go.RowKit Go.Shelf Go.Lib
attribute [local go_sem] Oper.semAt_some

theorem linesN_len (s : ByteArray) (hs : s.size ≤ 536870912) : (linesN s).length ≤ 1073741825 := by
  have h1 := linesF_len s (pcs s) 0
  have h2 := pcs_len s
  unfold linesN
  omega
theorem rdP_more {w : World} {B B' : Nat} {A : Option Addr} {L : List (Nat × ByteArray)} (h : RdP w B A L) (hB : B ≤ B') : RdP w B' A L := Rd.more h hB
/-- what holds from the time on at which the lines' iterator was made: in every world in which all below stays -/
structure LnE (w : World) (s : ByteArray) (B C E n c : Nat) (N : Int) (A : Option Addr) (gf : Nat) (lb : Array Value) (L : List (Nat × ByteArray)) (W : World) : Prop where
  res : Boxed W B 4 (.bool false)
  want : Boxed W C 28 (.slice A n c)
  num : Boxed W (C + 1) 3 (.int .i64 N)
  fun_ : Boxed W E 31 (.func (.func gf) #[] lb)
  row : RdP W C A L
  u8 : Utf8Tabs 0 1 W
  bel : Below B w W
  size : E + 1 ≤ W.heap.size
set_option maxRecDepth 100000 in
set_option maxHeartbeats 8000000 in
theorem breaksLines_any (H : BreakP) (s : ByteArray) (most : Int) (w : World) (hs : s.size ≤ 536870912) (hT : Utf8Tabs 0 1 w) :
    Calls Tryd.prog 4 #[.string s, .int .i64 most] w fun e w' => e = .returned (.bool true) ∧ Below w.heap.size w w' := by
  have hL := linesN_len s hs
  have HAl := Lib.hid (fun W hT => H.lines s W hs hT)
  have HRa := Lib.hid (fun W => rlines13_any s W hs)
  have HWk := Lib.hid (fun W hT => wakes13_any H W hT)
  unfold LinesW at HAl
  obtain ⟨L, hLe⟩ : ∃ L, linesN s = L := ⟨_, rfl⟩
  rw [hLe] at hL HAl HRa
  obtain ⟨n, hne⟩ : ∃ n, L.length = n := ⟨_, rfl⟩
  rw [hne] at hL HRa
  have Hn := Lib.hid hne
  obtain ⟨B, hB⟩ : ∃ B, w.heap.size = B := ⟨_, rfl⟩
  have h2 := tabs_size hT
  have HT := Lib.hid hT
  rw [hB] at h2 ⊢
  clear hLe hne hT
  refine (callsIn_wide (n := 9)).1 ?_
  refine callsIn_of_wp_marks Tryd.func4 rfl trivial ?_ rfl
  refine wpIn_wide.2 ?_
  simp only [Tryd.ntmps4, List.size_toArray, List.length_cons, List.length_nil, Nat.reduceAdd, Nat.reduceSub, Array.replicate_succ, Array.replicate_zero, List.push_toArray, List.append_toArray, List.nil_append, List.cons_append]
  go_wp2_with fail
  obtain ⟨W0, hW0⟩ : ∃ W0, w.alloc (.cells #[.bool false] 4) = W0 := ⟨_, rfl⟩
  have hz0 : W0.heap.size = B + 1 := by rw [← hW0]; simp [hB]
  have r0 : Boxed W0 B 4 (.bool false) := by rw [← hW0, ← hB]; exact Boxed.new w _ _
  have b0 : Below B w W0 := by rw [← hW0]; exact (Below.refl B w).alloc (by omega) _
  rw [hW0]
  clear hW0
  refine (HRa.out W0).mono ?_
  rintro _ W1 ⟨A, c, rfl, o1, b1⟩
  rw [hz0] at b1 o1
  have hz1 : B + 1 ≤ W1.heap.size := by have := b1.size; omega
  have HR1 := Lib.hid (show RdP W1 W1.heap.size A L from by have := Rd.own o1; rw [← Hn.out] at this; exact this)
  have r1 : Boxed W1 B 4 (.bool false) := (b1.block B (by omega)).trans r0
  have B1 := Lib.hid (b0.trans (b1.mono (by omega)))
  obtain ⟨C, hC⟩ : ∃ C, W1.heap.size = C := ⟨_, rfl⟩
  rw [hC] at hz1 HR1
  clear o1 b1 b0 r0 HRa
  have hc0 := (Boxed.new W1 28 (.slice A n c)).cell
  rw [hC] at hc0
  go_wp2_with fail
  obtain ⟨N, hN⟩ : ∃ N : Int, min (max most 0) (n : Int) = N := ⟨_, rfl⟩
  obtain ⟨W2, hW2⟩ : ∃ W2, (W1.alloc (.cells #[.slice A n c] 28)).alloc (.cells #[.int .i64 N] 3) = W2 := ⟨_, rfl⟩
  have hz2 : W2.heap.size = C + 2 := by rw [← hW2]; simp [hC]
  have b2 : Below C W1 W2 := by rw [← hW2]; exact ((Below.refl C W1).alloc (by omega) _).alloc (by simp; omega) _
  have w2 : Boxed W2 C 28 (.slice A n c) := by rw [← hW2]; simp only [Boxed, alloc_get, World.size_alloc, hC]; rw [if_neg (by omega)]; simp
  have n2 : Boxed W2 (C + 1) 3 (.int .i64 N) := by rw [← hW2]; simp only [Boxed, alloc_get, World.size_alloc, hC]; simp
  have HT2 := Lib.hid (Utf8Tabs_below HT.out (by rw [hB]; exact B1.out.trans (b2.mono (by omega))))
  have r2 : Boxed W2 B 4 (.bool false) := (b2.block B (by omega)).trans r1
  have B2 := Lib.hid (B1.out.trans (b2.mono (by omega)))
  have HR2 := Lib.hid (HR1.out.below b2)
  have HW2 := Lib.hid hW2
  clear b2 r1 HR1 hC hc0 hW2
  try rw [hN]
  try rw [HW2.out]
  refine (HAl.out W2 HT2.out).mono ?_
  rintro _ Wk ⟨gf, lb, rfl, b3, hgf, hnil, hseq⟩
  rw [hz2] at b3 hseq
  have hz3 : C + 2 ≤ Wk.heap.size := by have := b3.size; omega
  have r3 : Boxed Wk B 4 (.bool false) := (b3.block B (by omega)).trans r2
  have w3 : Boxed Wk C 28 (.slice A n c) := (b3.block C (by omega)).trans w2
  have n3 : Boxed Wk (C + 1) 3 (.int .i64 N) := (b3.block (C + 1) (by omega)).trans n2
  have HT3 := Lib.hid (Utf8Tabs_below HT2.out (by rw [hz2]; exact b3))
  have B3 := Lib.hid (B2.out.trans (b3.mono (by omega)))
  have HR3 := Lib.hid (HR2.out.below (b3.mono (by omega)))
  obtain ⟨E, hE⟩ : ∃ E, Wk.heap.size = E := ⟨_, rfl⟩
  rw [hE] at hz3 hseq
  have hE2 : 0 < E ∧ 1 < E := ⟨by omega, by omega⟩
  have Hseq := Lib.hid (show ∀ (W W' : World), Below E Wk W → Below W.heap.size W W' → SeqN Fence.wide 8 Tryd.prog gf lb encCl (fun ys => ys = L) (fun pre => pre <+: L) L.length (fun k => k < W.heap.size) W' from fun W W' h h' => by
    have hEW : E ≤ W.heap.size := by have := h.size; omega
    exact hseq (fun k => k < W.heap.size) W' (by omega) (by omega) (fun k _ h3 => by omega) ⟨by have := h.size; have := h'.size; omega, fun k hk _ => (h'.block k (by omega)).trans (h.block k (by omega))⟩)
  clear hseq b3 r2 w2 n2 HT2 HR2 HAl
  obtain ⟨Wx, hWx⟩ : ∃ Wx, Wk.alloc (.cells #[.func (.func gf) #[] lb] 31) = Wx := ⟨_, rfl⟩
  have hzx : Wx.heap.size = E + 1 := by rw [← hWx]; simp [hE]
  have bx : Below E Wk Wx := by rw [← hWx]; exact (Below.refl E Wk).alloc (by omega) _
  have x0 : Boxed Wx E 31 (.func (.func gf) #[] lb) := by rw [← hWx, ← hE]; exact Boxed.new Wk _ _
  have HL := Lib.hid (show ∀ W, Below (E + 1) Wx W → LnE w s B C E n c N A gf lb L W from fun W h =>
    have hb : Below E Wk W := bx.trans (h.mono (by omega))
    ⟨(hb.block B (by omega)).trans r3, (hb.block C (by omega)).trans w3, (hb.block (C + 1) (by omega)).trans n3, (h.block E (by omega)).trans x0, HR3.out.below (hb.mono (by omega)), Utf8Tabs_below HT3.out (by rw [hE]; exact hb), B3.out.trans (hb.mono (by omega)), by have := h.size; omega⟩)
  have HSq := Lib.hid (show ∀ (W W' : World), Below (E + 1) Wx W → Below W.heap.size W W' → SeqN Fence.wide 8 Tryd.prog gf lb encCl (fun ys => ys = L) (fun pre => pre <+: L) L.length (fun k => k < W.heap.size) W' from fun W W' h h' => Hseq.out W W' (bx.trans (h.mono (by omega))) h')
  have HG := Lib.hid (show ∀ (mo : Int) (W : World), Below (E + 1) Wx W → Calls Tryd.prog 13 #[.func (.func gf) #[] lb, .slice A n c, .int .i64 mo] W fun e w' => e = .returned (.bool true) ∧ Below W.heap.size W w' from fun mo W h =>
    have hW := HL.out W h
    goes13_any gf lb L A n c mo W hgf hnil (fun W' h' => HSq.out W W' h h') (rdP_more hW.row (by have := hW.size; omega)) Hn.out (by omega))
  have HGF := Lib.hid hgf
  have hBE : B + 1 ≤ E := by omega
  clear Hseq bx x0 r3 w3 n3 HR3 HT3 HT B1 B2 B3 hz0 hz1 hz2 hgf hnil
  have hS0 : Below (E + 1) Wx Wx := Below.refl _ _
  have e0 := HL.out Wx hS0
  have c0 := e0.want.cell
  have c1 := e0.num.cell
  have c2 := e0.fun_.cell
  have HWx := Lib.hid hWx
  clear e0 HW2
  go_wp2_with fail
  clear hWx
  try rw [HWx.out]
  refine (HG.out N Wx hS0).mono ?_
  rintro _ X1 ⟨rfl, b1⟩
  have hS1 : Below (E + 1) Wx X1 := hS0.trans (b1.mono (by omega))
  have e1 := HL.out X1 hS1
  have c0 := e1.want.cell
  have c1 := e1.num.cell
  have c2 := e1.fun_.cell
  have HS1 := Lib.hid hS1
  clear e1 b1 hS0 hS1
  go_wp2_with fail
  refine (HG.out (-1) X1 HS1.out).mono ?_
  rintro _ X2 ⟨rfl, b2⟩
  have HS2 := Lib.hid (HS1.out.trans (b2.mono (by have := (HL.out X1 HS1.out).size; omega)))
  clear b2
  obtain ⟨b, hb8⟩ : ∃ b, X2.heap.size = b := ⟨_, rfl⟩
  have hEb : E + 1 ≤ b := by have := (HL.out X2 HS2.out).size; omega
  obtain ⟨WL, hWL⟩ : ∃ WL, X2.alloc (.cells #[.int .i64 0] 3) = WL := ⟨_, rfl⟩
  have hbL : Below b X2 WL := by rw [← hWL]; exact (Below.refl b X2).alloc (by omega) _
  have hszL : WL.heap.size = b + 1 := by rw [← hWL]; simp [hb8]
  have kL : Boxed WL b 3 (.int .i64 0) := by rw [← hWL, ← hb8]; exact Boxed.new X2 _ _
  have SL := Lib.hid (HS2.out.trans (hbL.mono hEb))
  have HQ := Lib.hid (show SeqN Fence.wide 8 Tryd.prog gf lb encCl (fun ys => ys = L) (fun pre => pre <+: L) L.length (fun k => k < b) WL from by
    have := HSq.out X2 WL HS2.out (by rw [hb8]; exact hbL)
    rw [hb8] at this; exact this)
  have c2 := ((HL.out X2 HS2.out).fun_.alloc (.cells #[.int .i64 0] 3)).cell
  have HWL := Lib.hid hWL
  clear hbL hWL
  go_wp2_with fail
  rw [HWL.out]
  refine (wpIn_wide (n := 9)).1 ?_
  refine range_N1 rfl (by omega) (gf := gf) (lb := lb) rfl trivial HGF.out HQ.out (fun k hk => by omega) (fun _ => rfl)
    (fun pre T W => Boxed W b 3 (.int .i64 (pre.length : Int)) ∧ Below b WL W)
    (fun _ _ _ _ => False)
    ?hI (fun _ _ _ _ _ _ h _ _ _ => h)
    ⟨kL, Below.refl _ _⟩
    ?a1 ?assign ?body ?done ?stop
  case assign =>
    intro l x W K hK
    gi_wp2
    exact hK
  case stop =>
    rintro D c pre T W _ _ _ h _
    exact h.elim
  case hI =>
    rintro pre T T' W1 W2 ⟨h1, hb⟩ hT hm hg
    exact ⟨(hm.block _ h1.lt (fun e => by have := (hT _ e).1; omega)).trans h1, hb.trans ⟨hm.os, hm.tape, hm.output, hm.size, fun k hk => hm.block k (by have := hb.size; omega) (fun e => by have := (hT _ e).1; omega)⟩⟩
  case body =>
    rintro l pre x T W hl hT hr ⟨h1, hb⟩ hlen hsp
    have hx := prefix_get hsp
    obtain ⟨j, hj⟩ : ∃ j, pre.length = j := ⟨_, rfl⟩
    rw [hj] at hx h1 hlen
    have hjn' : j < n := by rw [← Hn.out]; exact hlen
    have hnT : ¬ T b := fun e => by have := (hT _ e).1; omega
    have hbs : b ≤ W.heap.size := by have := hb.size; omega
    have SW := Lib.hid (SL.out.trans (hb.mono hEb))
    have e := HL.out W SW.out
    obtain ⟨a, hA, _, g1, g2⟩ := e.row.at_ hx
    subst hA
    rw [add_next] at g2
    have c0 := e.want.cell
    have c1 := e.num.cell
    have c2 := e.fun_.cell
    have c3 := h1.cell
    have c3f := h1.frozen
    have hjn : (j : Int) < (n : Int) := by omega
    have hjn2 : ¬ ((n : Int) ≤ (j : Int)) := by omega
    have hw : IntKind.i64.wrap ((j : Int) + 1) = ((j + 1 : Nat) : Int) := by rw [IntWalk.i64_in _ (by omega)]; omega
    have hb2' : ((x.1 : Int) != (x.1 : Int)) = false := by simp
    have hb3' : (x.1 != x.1) = false := by simp
    have hfin : ∀ W', Below W.heap.size W W' → KeepN (fun k => k < b) T W (W'.setCell ⟨b, 0, none⟩ (.int .i64 ((j : Int) + 1))) ∧ Boxed (W'.setCell ⟨b, 0, none⟩ (.int .i64 ((j : Int) + 1))) b 3 (.int .i64 (((pre ++ [x]).length : Nat) : Int)) ∧ Below b WL (W'.setCell ⟨b, 0, none⟩ (.int .i64 ((j : Int) + 1))) := by
      intro W' hW'
      refine ⟨(KeepN.of_below _ T hW').trans (KeepN.setCell _ T W' b _ _ (by omega) hnT), ?_, (hb.trans (hW'.mono hbs)).setCell (p := ⟨b, 0, none⟩) (Nat.le_refl _) _⟩
      rw [show (((pre ++ [x]).length : Nat) : Int) = (j : Int) + 1 by simp; omega]
      exact (boxed_below h1 hW').set _
    have Hfin := Lib.hid hfin
    have Hh1 := Lib.hid h1
    have Hrow := Lib.hid hx
    clear hfin h1 e hx hsp hlen
    by_cases hjm : (j : Int) = N
    · subst hjm
      gi_wp2_with fail
      refine ⟨trivial, (CallsIn.inRound l (callsIn_wide.2 (HG.out (-1) W SW.out))).mono ?_⟩
      rintro _ u5 ⟨rfl, b5⟩
      have E5 := HL.out u5 (SW.out.trans (b5.mono (by omega)))
      have h6 := boxed_below Hh1.out b5
      obtain ⟨a', hA, _, g1, g2⟩ := E5.row.at_ Hrow.out
      injection hA with hA
      subst hA
      rw [add_next] at g2
      have c0 := E5.want.cell
      have c3 := h6.cell
      have c3f := h6.frozen
      have B5 := Lib.hid b5
      clear b5 E5 h6
      gi_wp2
      exact Hfin.out u5 B5.out
    · have hjb : ((j : Int) == N) = false := by simp [hjm]
      gi_wp2
      refine ⟨trivial, ?_⟩
      gi_wp2
      exact Hfin.out W (Below.refl _ _)
  case done =>
    rintro D ys T W hD hT rfl ⟨h1, hb⟩ hK
    rw [Hn.out] at h1
    have SW := Lib.hid (SL.out.trans (hb.mono hEb))
    have e := HL.out W SW.out
    have c0 := e.want.cell
    have c3 := h1.cell
    have HK := Lib.hid hK
    have Hwk := Lib.hid (HWk.out W e.u8)
    have hsz : b + 1 ≤ W.heap.size := by have := hb.size; omega
    clear h1 hK hb e
    go_wp2_with fail
    refine Hwk.out.mono ?_
    rintro _ u6 ⟨rfl, b6⟩
    have E6 := HL.out u6 (SW.out.trans (b6.mono (by omega)))
    have c4 := E6.res.cell
    have c4f := E6.res.frozen
    have B6 := Lib.hid b6
    have HE6 := Lib.hid E6
    clear b6 E6
    go_wp2
    have hD1 := hT D hD
    have hk' : (u6.setCell ⟨B, 0, none⟩ (.bool true)).heap[D]? = some (.deferred (some [])) := (KeepsOthers.setCell _ _ _).same D _ ((B6.out.block D hD1.2).trans HK.out) rfl
    have hc7 := cell_kept (HE6.out.res.set (.bool true)).cell (grownBy_putObj' _ D (.deferred none)) (fun r e => by cases e; exact ⟨_, hk', rfl⟩)
    refine ⟨by simp, .inl ⟨_, _, rfl, run_takeDeferred hk', ?_⟩⟩
    have hfb : Below B w (u6.setCell ⟨B, 0, none⟩ (.bool true)) := HE6.out.bel.setCell (p := ⟨B, 0, none⟩) (Nat.le_refl _) _
    refine ⟨.bool true, ?_, rfl, hfb.trans (belowK_b (w := w) (by omega) _ D _ (.deferred none) (by omega) hk' rfl rfl)⟩
    simp [results, Tryd.f4, go_sem, hc7]
end Go.Proofs.YthkapcnhfdpdbaaDoor
