/- Layer 13, the laws' helpers that ask the program: its functions' contracts as a premise (to be taken off where they are walked). -/
import Derived.Test.YthkapcnhfdpdbaaDoorBrG
import Derived.Test.YthkapcnhfdpdbaaDoorPcsC
import Derived.Deep.QuietTactic
set_option linter.unusedSimpArgs false
set_option linter.unusedVariables false
namespace Go.Proofs.YthkapcnhfdpdbaaDoor
open Go.RowKit Go.Shelf Go.Lib
attribute [local go_sem] Oper.semAt_some

/-- what breaks.Lines hands back: an iterator of the lines -/
def LinesW (s : ByteArray) (w : World) (e : Ending) (w' : World) : Prop := ∃ gf lb, e = .returned (.func (.func gf) #[] lb) ∧ Below w.heap.size w w' ∧
  (∀ args w, (callFunc gf args).run Tryd.prog w = .ok (.enter gf args) w) ∧
  (∀ W, (binOp .eql 31 (.func (.func gf) #[] lb) .nilFunc).run Tryd.prog W = .ok (.bool false) W) ∧
  ∀ (N₀ : Bl) (W : World), N₀ 0 → N₀ 1 → (∀ k, w.heap.size ≤ k → k < w'.heap.size → N₀ k) → KeepN N₀ (fun _ => False) w' W →
    SeqN Fence.wide 8 Tryd.prog gf lb encCl (fun ys => ys = linesN s) (fun pre => pre <+: linesN s) (linesN s).length N₀ W
/-- what the program's functions answer -/
structure BreakP : Prop where
  where_ : ∀ (s : ByteArray) (w : World), s.size ≤ 536870912 → Utf8Tabs 0 1 w → Calls Tryd.prog 8 #[.string s] w fun e w' =>
    ∃ A c, e = .returned (.slice A (whereN s).length c) ∧ w'.ownsRow w.heap.size 25 1 (.slice A (whereN s).length c) (whereN s).length (whV (whereN s)) ∧ Below w.heap.size w w'
  lines : ∀ (s : ByteArray) (w : World), s.size ≤ 140737488351232 → Utf8Tabs 0 1 w → Calls Tryd.prog 12 #[.string s] w (LinesW s w)
section texts13
theorem b_w1 : whereN ⟨#[97, 32, 98]⟩ = [0, 1, 0] := by decide +kernel
theorem b_w2 : whereN ⟨#[97, 10]⟩ = [0, 2] := by decide +kernel
theorem b_l : linesN ⟨#[97, 10, 98]⟩ = [(0, ⟨#[97, 10]⟩), (2, ⟨#[98]⟩)] := by decide +kernel
end texts13
theorem pre2 {α : Type} {pre : List α} {x a b : α} (h : pre ++ [x] <+: [a, b]) : (pre = [] ∧ x = a) ∨ (pre = [a] ∧ x = b) := by
  obtain ⟨t, h⟩ := h
  rcases pre with _ | ⟨p, _ | ⟨q, r⟩⟩
  · simp at h
    exact .inl ⟨rfl, h.1⟩
  · simp at h
    exact .inr ⟨by rw [h.1], h.2.1⟩
  · simp at h
/-- what stands in wakes' boxes -/
def nW : List (Nat × ByteArray) → Nat
  | [] => 0
  | x :: t => 1 + x.1 + nW t
theorem nW_snoc : ∀ (l : List (Nat × ByteArray)) (x : Nat × ByteArray), nW (l ++ [x]) = nW l + 1 + x.1
  | [], x => by simp [nW]
  | y :: t, x => by
    rw [List.cons_append, nW, nW_snoc t x, nW]
    omega
def lastW (l : List (Nat × ByteArray)) : ByteArray := (l.getLast?.map (·.2)).getD ByteArray.empty
theorem lastW_snoc (l : List (Nat × ByteArray)) (x : Nat × ByteArray) : lastW (l ++ [x]) = x.2 := by simp [lastW]
structure WkS (B : Nat) (Wa : World) (pre : List (Nat × ByteArray)) (W : World) : Prop where
  b0 : Boxed W B 3 (.int .i64 (nW pre : Nat))
  b1 : Boxed W (B + 1) 9 (.string (lastW pre))
  bel : Below B Wa W
set_option maxRecDepth 100000 in
set_option maxHeartbeats 4000000 in
theorem wakes13_any (H : BreakP) (w : World) (hT : Utf8Tabs 0 1 w) : Calls Tryd.prog 10 #[] w fun e w' => e = .returned (.bool true) ∧ Below w.heap.size w w' := by
  have h1 := fun w hT => H.where_ ⟨#[97, 32, 98]⟩ w (by decide) hT
  rw [b_w1] at h1
  have h2 := fun w hT => H.where_ ⟨#[97, 10]⟩ w (by decide) hT
  rw [b_w2] at h2
  have h3 := fun w hT => H.lines ⟨#[97, 10, 98]⟩ w (by decide) hT
  unfold LinesW at h3
  rw [b_l] at h3
  have H1 := Lib.hid h1
  have H2 := Lib.hid h2
  have H3 := Lib.hid h3
  have HT := Lib.hid hT
  have hts := tabs_size hT
  clear h1 h2 h3 hT
  refine (callsIn_wide (n := 9)).1 ?_
  refine callsIn_of_wp_marks Tryd.func10 rfl trivial ?_ rfl
  refine wpIn_wide.2 ?_
  simp only [Tryd.ntmps10, List.size_toArray, List.length_cons, List.length_nil, Nat.reduceAdd, Nat.reduceSub, Array.replicate_succ, Array.replicate_zero, List.push_toArray, List.append_toArray, List.nil_append, List.cons_append]
  go_wp2_with fail
  refine (H1.out _ HT.out).mono ?_
  rintro _ w1 ⟨A1, c1, rfl, o1, b1⟩
  have HT1 := Lib.hid (Utf8Tabs_below HT.out b1)
  have B1 := Lib.hid b1
  have R1 := Lib.hid (show Rd w1 w1.heap.size 1 A1 3 (whV [0, 1, 0]) from Rd.own o1)
  clear b1 o1
  go_wp2_with fail
  refine (H2.out _ HT1.out).mono ?_
  rintro _ w2 ⟨A2, c2, rfl, o2, b2⟩
  have HT2 := Lib.hid (Utf8Tabs_below HT1.out b2)
  have B2 := Lib.hid (show Below w.heap.size w w2 ∧ w.heap.size ≤ w2.heap.size from ⟨B1.out.trans (b2.mono B1.out.size), by have := B1.out.size; have := b2.size; omega⟩)
  have R12 := Lib.hid (Rd.more (R1.out.below b2) b2.size)
  have R2 := Lib.hid (show Rd w2 w2.heap.size 1 A2 2 (whV [0, 2]) from Rd.own o2)
  clear b2 o2
  go_wp2_with fail
  refine (H3.out _ HT2.out).mono ?_
  rintro _ w3 ⟨gf, lb, rfl, b3, hgf, hnil, hseq⟩
  have B3 := Lib.hid (show Below w.heap.size w w3 ∧ w.heap.size ≤ w3.heap.size from ⟨B2.out.1.trans (b3.mono B2.out.2), by have := B2.out.2; have := b3.size; omega⟩)
  have R13 := Lib.hid (Rd.more (R12.out.below b3) b3.size)
  have R23 := Lib.hid (Rd.more (R2.out.below b3) b3.size)
  have Hs3 := Lib.hid hseq
  have hsz : w2.heap.size ≤ w3.heap.size := b3.size
  clear b3 hseq
  go_wp2_with fail
  obtain ⟨B, hB⟩ : ∃ B, w3.heap.size = B := ⟨_, rfl⟩
  obtain ⟨Wa, hWa⟩ : ∃ Wa, (w3.alloc (.cells #[.int .i64 0] 3)).alloc (.cells #[.string ⟨#[]⟩] 9) = Wa := ⟨_, rfl⟩
  have hk0 : Below B w3 Wa := by rw [← hWa, ← hB]; exact ((Below.refl _ w3).alloc (Nat.le_refl _) _).alloc (by rw [World.size_alloc]; omega) _
  have hS0 : WkS B Wa [] Wa := by
    refine ⟨?_, ?_, Below.refl _ _⟩
    · rw [← hWa, ← hB]; exact (Boxed.new w3 _ _).alloc _
    · rw [← hWa, ← hB, ← World.size_alloc w3 (.cells #[.int .i64 0] 3)]; exact Boxed.new _ _ _
  have hsz3 : Wa.heap.size = B + 1 + 1 := by rw [← hWa, World.size_alloc, World.size_alloc, hB]
  have hb23 : w2.heap.size ≤ B := by omega
  have hw2 : w.heap.size ≤ w2.heap.size := B2.out.2
  have Hseq := Lib.hid (Hs3.out (fun k => k < B) Wa (by omega) (by omega) (fun k _ h => by omega) ⟨by rw [hsz3]; omega, fun k hk _ => hk0.block k (by omega)⟩)
  have HA := Lib.hid (show Rd Wa B 1 A1 3 (whV [0, 1, 0]) ∧ Rd Wa B 1 A2 2 (whV [0, 2]) ∧ Below w.heap.size w Wa from ⟨by have := R13.out; rw [hB] at this; exact this.below hk0, by have := R23.out; rw [hB] at this; exact this.below hk0, B3.out.1.trans (hk0.mono (by omega))⟩)
  have HS0 := Lib.hid hS0
  rw [hWa, hB]
  clear Hs3 hk0 hS0 hWa hb23 R13 R23 R12 R1 R2 B1 B2 B3 HT HT1 HT2 H1 H2 H3 hts
  refine (wpIn_wide (n := 9)).1 ?_
  refine range_N1 rfl (by omega) (gf := gf) (lb := lb) rfl trivial hgf Hseq.out (fun k hk => by omega) (fun _ => rfl)
    (fun pre T W => WkS B Wa pre W)
    (fun _ _ _ _ => False)
    ?hI (fun _ _ _ _ _ _ h _ _ _ => h) HS0.out
    ?a1 ?assign ?body ?done ?stop
  case assign =>
    intro l x W K hK
    gi_wp2
    exact hK
  case stop =>
    rintro D c pre T W _ _ _ h _
    exact h.elim
  case hI =>
    rintro pre T T' W1 W2 h1 hT hm hg
    exact ⟨(hm.block _ h1.b0.lt (fun e => by have := (hT _ e).1; omega)).trans h1.b0, (hm.block _ h1.b1.lt (fun e => by have := (hT _ e).1; omega)).trans h1.b1, h1.bel.trans ⟨hm.os, hm.tape, hm.output, hm.size, fun k hk => hm.block k (by have := h1.b0.lt; omega) (fun e => by have := (hT _ e).1; omega)⟩⟩
  case body =>
    rintro l pre x T W hl hT hr h1 hlen hsp
    have hT1 : ¬ T B := fun e => by have := (hT _ e).1; omega
    have hT2 : ¬ T (B + 1) := fun e => by have := (hT _ e).1; omega
    have hfin : ∀ (W8 : World), W8 = (W.setCell ⟨B, 0, none⟩ (.int .i64 (nW (pre ++ [x]) : Nat))).setCell ⟨B + 1, 0, none⟩ (.string x.2) → KeepN (fun k => k < B) T W W8 ∧ WkS B Wa (pre ++ [x]) W8 := by
      rintro W8 rfl
      refine ⟨(KeepN.setCell _ _ _ _ _ _ (by omega) (fun e => hT1 e)).trans (KeepN.setCell _ _ _ _ _ _ (by omega) (fun e => hT2 e)), (h1.b0.set _).other (by omega) _, ?_, (h1.bel.setCell (p := ⟨B, 0, none⟩) (Nat.le_refl _) _).setCell (p := ⟨B + 1, 0, none⟩) (Nat.le_succ _) _⟩
      rw [lastW_snoc]
      exact (h1.b1.other (by omega) _).set _
    have Hfin := Lib.hid hfin
    have c0 := h1.b0.cell
    have c0f := h1.b0.frozen
    have c1 := h1.b1.cell
    have c1f := h1.b1.frozen
    clear hfin hT1 hT2 h1
    rcases pre2 hsp with ⟨rfl, rfl⟩ | ⟨rfl, rfl⟩
    · clear hsp
      rw [show ((nW [] : Nat) : Int) = 0 from rfl] at c0
      gi_wp2
      exact Hfin.out _ rfl
    · clear hsp
      rw [show ((nW [((0, ⟨#[97, 10]⟩) : Nat × ByteArray)] : Nat) : Int) = 1 from rfl] at c0
      gi_wp2
      exact Hfin.out _ rfl
  case done =>
    rintro D ys T W hD hT rfl h1 hK
    have HK := Lib.hid hK
    have HR := Lib.hid (show Rd W B 1 A1 3 (whV [0, 1, 0]) ∧ Rd W B 1 A2 2 (whV [0, 2]) ∧ Below w.heap.size w W from ⟨HA.out.1.below h1.bel, HA.out.2.1.below h1.bel, HA.out.2.2.trans (h1.bel.mono (by omega))⟩)
    have c0 := h1.b0.cell
    have c1 := h1.b1.cell
    clear hK h1
    obtain ⟨a1, rfl, _, hc1⟩ := Rd.addr HR.out.1 (by omega)
    obtain ⟨a2, rfl, _, hc2⟩ := Rd.addr HR.out.2.1 (by omega)
    have g10 : W.cell? a1 = some (.int .i8 0) := by have h := hc1 0 _ rfl; rw [show a1.add 0 = a1 by simp [Addr.add]] at h; exact h
    have g11 : W.cell? ⟨a1.block, a1.off + 1, none⟩ = some (.int .i8 1) := by have h := hc1 1 _ rfl; first | exact h | (simp only [Addr.add] at h; first | exact h | simpa using h)
    have g12 : W.cell? ⟨a1.block, a1.off + 2, none⟩ = some (.int .i8 0) := by have h := hc1 2 _ rfl; first | exact h | (simp only [Addr.add] at h; first | exact h | simpa using h)
    have g20 : W.cell? a2 = some (.int .i8 0) := by have h := hc2 0 _ rfl; rw [show a2.add 0 = a2 by simp [Addr.add]] at h; exact h
    have g21 : W.cell? ⟨a2.block, a2.off + 1, none⟩ = some (.int .i8 2) := by have h := hc2 1 _ rfl; first | exact h | (simp only [Addr.add] at h; first | exact h | simpa using h)
    rw [show ((nW [((0, ⟨#[97, 10]⟩) : Nat × ByteArray), (2, ⟨#[98]⟩)] : Nat) : Int) = 4 from rfl] at c0
    rw [show lastW [((0, ⟨#[97, 10]⟩) : Nat × ByteArray), (2, ⟨#[98]⟩)] = ⟨#[98]⟩ from rfl] at c1
    clear hc1 hc2
    go_wp2
    have hD1 := hT D hD
    have hWz := HR.out.2.2.size
    refine ⟨by simp, .inl ⟨_, _, rfl, run_takeDeferred HK.out, ?_⟩⟩
    exact ⟨_, results_tmp rfl _ _ _, rfl, HR.out.2.2.trans (belowK_b (w := w) (by omega) _ D _ (.deferred none) (by omega) HK.out rfl rfl)⟩
end Go.Proofs.YthkapcnhfdpdbaaDoor

/- Layer 13, the law's goes: an iterator of lines held against a row; left early. -/
namespace Go.Proofs.YthkapcnhfdpdbaaDoor
open Go.RowKit Go.Shelf Go.Lib
attribute [local go_sem] Oper.semAt_some

/-- what lies in goes' boxes -/
structure GS (w : World) (B : Nat) (A : Option Addr) (n c : Nat) (mo : Int) (rb : Bool) (m : Int) (W : World) : Prop where
  b0 : Boxed W B 28 (.slice A n c)
  b1 : Boxed W (B + 1) 3 (.int .i64 mo)
  b2 : Boxed W (B + 1 + 1) 4 (.bool rb)
  b3 : Boxed W (B + 1 + 1 + 1) 3 (.int .i64 m)
  bel : Below B w W
section
variable {w : World} {B : Nat} {A : Option Addr} {n c : Nat} {mo : Int} {rb : Bool} {m : Int} {W : World}
theorem GS.lt (h : GS w B A n c mo rb m W) : B + 3 < W.heap.size := by have := h.b3.lt; omega
theorem GS.moves (h : GS w B A n c mo rb m W) {b : Nat} {T : Bl} {W' : World} (hT : ∀ k, T k → b ≤ k) (hb : B + 3 < b) (hm : Moves T W W') : GS w B A n c mo rb m W' := by
  have hn : ∀ k, k < b → ¬ T k := fun k hk e => by have := hT _ e; omega
  exact ⟨(hm.block _ h.b0.lt (hn _ (by omega))).trans h.b0, (hm.block _ h.b1.lt (hn _ (by omega))).trans h.b1, (hm.block _ h.b2.lt (hn _ (by omega))).trans h.b2, (hm.block _ h.b3.lt (hn _ (by omega))).trans h.b3,
    h.bel.trans ⟨hm.os, hm.tape, hm.output, hm.size, fun k hk => hm.block k (by have := h.bel.size; have := h.b0.lt; omega) (hn _ (by omega))⟩⟩
theorem GS.set (h : GS w B A n c mo rb m W) (m' : Int) : GS w B A n c mo rb m' (W.setCell ⟨B + 1 + 1 + 1, 0, none⟩ (.int .i64 m')) :=
  ⟨h.b0.other (by omega) _, h.b1.other (by omega) _, h.b2.other (by omega) _, h.b3.set _, h.bel.setCell (p := ⟨B + 1 + 1 + 1, 0, none⟩) (show B ≤ B + 1 + 1 + 1 by omega) _⟩
theorem GS.say (h : GS w B A n c mo rb m W) (r : Bool) : GS w B A n c mo r m (W.setCell ⟨B + 1 + 1, 0, none⟩ (.bool r)) :=
  ⟨h.b0.other (by omega) _, h.b1.other (by omega) _, h.b2.set _, h.b3.other (by omega) _, h.bel.setCell (p := ⟨B + 1 + 1, 0, none⟩) (show B ≤ B + 1 + 1 by omega) _⟩
end
set_option maxRecDepth 100000 in
set_option maxHeartbeats 8000000 in
theorem goes13_any (gf : Nat) (lb : Array Value) (L : List (Nat × ByteArray)) (A : Option Addr) (n c : Nat) (mo : Int) (w : World)
    (hgf : ∀ args w, (callFunc gf args).run Tryd.prog w = .ok (.enter gf args) w)
    (hnil : ∀ W, (binOp .eql 31 (.func (.func gf) #[] lb) .nilFunc).run Tryd.prog W = .ok (.bool false) W)
    (hseq : ∀ W, Below w.heap.size w W → SeqN Fence.wide 8 Tryd.prog gf lb encCl (fun ys => ys = L) (fun pre => pre <+: L) L.length (fun k => k < w.heap.size) W)
    (hrow : RdP w w.heap.size A L) (hn : L.length = n) (hm : n ≤ 1073741825) :
    Calls Tryd.prog 13 #[.func (.func gf) #[] lb, .slice A n c, .int .i64 mo] w fun e w' => e = .returned (.bool true) ∧ Below w.heap.size w w' := by
  obtain ⟨B, hB⟩ : ∃ B, w.heap.size = B := ⟨_, rfl⟩
  rw [hB] at hseq hrow ⊢
  have Hseq := Lib.hid hseq
  have Hrow := Lib.hid hrow
  have HLn := Lib.hid hn
  clear hseq hrow hn
  refine (callsIn_wide (n := 9)).1 ?_
  refine callsIn_of_wp_marks Tryd.func13 rfl trivial ?_ rfl
  refine wpIn_wide.2 ?_
  simp only [Tryd.ntmps13, List.size_toArray, List.length_cons, List.length_nil, Nat.reduceAdd, Nat.reduceSub, Array.replicate_succ, Array.replicate_zero, List.push_toArray, List.append_toArray, List.nil_append, List.cons_append]
  go_wp2_with fail
  obtain ⟨Wa, hWa⟩ : ∃ Wa, ((((w.alloc (.cells #[.slice A n c] 28)).alloc (.cells #[.int .i64 mo] 3)).alloc (.cells #[.bool false] 4)).alloc (.cells #[.int .i64 0] 3)) = Wa := ⟨_, rfl⟩
  have hsz : Wa.heap.size = B + 4 := by rw [← hWa]; simp [hB]
  have hGS : GS w B A n c mo false 0 Wa := by
    refine ⟨?_, ?_, ?_, ?_, ?_⟩
    · rw [← hWa]; simp only [Boxed, alloc_get, World.size_alloc, hB]; rw [if_neg (by omega), if_neg (by omega), if_neg (by omega)]; simp
    · rw [← hWa]; simp only [Boxed, alloc_get, World.size_alloc, hB]; simp; try omega
    · rw [← hWa]; simp only [Boxed, alloc_get, World.size_alloc, hB]; simp; try omega
    · rw [← hWa]; simp only [Boxed, alloc_get, World.size_alloc, hB]; simp
    · rw [← hWa]; exact ((((Below.refl B w).alloc (by omega) _).alloc (by simp; omega) _).alloc (by simp; omega) _).alloc (by simp; omega) _
  rw [hWa]
  clear hWa
  refine (wpIn_wide (n := 9)).1 ?_
  refine range_N1 rfl (by omega) (gf := gf) (lb := lb) rfl trivial hgf (Hseq.out Wa hGS.bel) (fun k hk => by have := hGS.lt; omega) (fun _ => rfl)
    (fun pre T W => GS w B A n c mo false (pre.length : Int) W)
    (fun cd _ T W => cd = .ret ∧ ∃ m, GS w B A n c mo true m W)
    ?hI ?hIx
    hGS
    ?a1 ?assign ?body ?done ?stop
  case assign =>
    intro l x W K hK
    gi_wp2
    exact hK
  case hI =>
    rintro pre T T' W1 W2 h hT hmv _
    exact h.moves (fun k hk => (hT k hk).1) (by omega) hmv
  case hIx =>
    rintro cd pre T T' W1 W2 ⟨rfl, m, h⟩ hT hmv _
    exact ⟨rfl, m, h.moves (fun k hk => (hT k hk).1) (by omega) hmv⟩
  case body =>
    rintro l pre x T W hl hT hr h hlen hsp
    have hx := prefix_get hsp
    obtain ⟨j, hj⟩ : ∃ j, pre.length = j := ⟨_, rfl⟩
    rw [hj] at h hlen hx
    have hjn : j < n := by rw [← HLn.out]; exact hlen
    have c1 := h.b1.cell
    have c2 := h.b2.cell
    have c2f := h.b2.frozen
    have c3 := h.b3.cell
    have c3f := h.b3.frozen
    have hTn : ¬ T (B + 1 + 1) ∧ ¬ T (B + 1 + 1 + 1) := ⟨fun e => by have := (hT _ e).1; omega, fun e => by have := (hT _ e).1; omega⟩
    obtain ⟨a, rfl, _, g1, g2⟩ := (RdP.below Hrow.out h.bel).at_ hx
    rw [add_next] at g2
    have c0 := h.b0.cell
    have H := Lib.hid h
    have HTn := Lib.hid hTn
    clear h hTn hx hsp
    by_cases hjm : (j : Int) = mo
    · have hjb : ((j : Int) == mo) = true := by simp [hjm]
      gi_wp2
      exact ⟨KeepN.setCell _ _ _ _ _ _ (by omega) HTn.out.1, rfl, _, H.out.say true⟩
    · have hjb : ((j : Int) == mo) = false := by simp [hjm]
      have hge : ¬ ((n : Int) ≤ (j : Int)) := by omega
      have hjn2 : (j : Int) < (n : Int) := by omega
      have hw : IntKind.i64.wrap ((j : Int) + 1) = ((j + 1 : Nat) : Int) := by rw [IntWalk.i64_in _ (by omega)]; omega
      have hb2' : ((x.1 : Int) != (x.1 : Int)) = false := by simp
      have hb3' : (x.1 != x.1) = false := by simp
      have hend : (((pre ++ [x]).length : Nat) : Int) = ((j + 1 : Nat) : Int) := by simp [hj]
      gi_wp2
      refine ⟨KeepN.setCell _ _ _ _ _ _ (by omega) HTn.out.2, ?_⟩
      show GS w B (some a) n c mo false (((pre ++ [x]).length : Nat) : Int) _
      rw [hend]
      exact H.out.set _
  case done =>
    rintro D ys T W hD hT rfl h hK
    have hD1 := hT D hD
    have c0 := h.b0.cell
    have c2 := h.b2.cell
    have c2f := h.b2.frozen
    have c3 := h.b3.cell
    rw [HLn.out] at c3
    have HK := Lib.hid hK
    have H := Lib.hid h
    have hnn : ((n : Int) == (n : Int)) = true := by simp
    clear h hK
    go_wp2
    have H2 := Lib.hid (H.out.say true)
    have hk' : (W.setCell ⟨B + 1 + 1, 0, none⟩ (.bool true)).heap[D]? = some (.deferred (some [])) := (KeepsOthers.setCell _ _ _).same D _ HK.out rfl
    have hc7 := cell_kept H2.out.b2.cell (grownBy_putObj' _ D (.deferred none)) (fun r e => by cases e; exact ⟨_, hk', rfl⟩)
    refine ⟨by simp, .inl ⟨_, _, rfl, run_takeDeferred hk', ?_⟩⟩
    refine ⟨_, ?_, rfl, H2.out.bel.trans (belowK_b (w := w) (by omega) _ D _ (.deferred none) (by omega) hk' rfl rfl)⟩
    simp [results, Tryd.f13, go_sem, hc7]
  case stop =>
    rintro D cd pre T W hD hT _ ⟨rfl, m, h⟩ hK
    have HK := Lib.hid hK
    have H := Lib.hid h
    clear hK h
    gi_wp2
    have hD1 := hT D hD
    have hc7 := cell_kept H.out.b2.cell (grownBy_putObj' _ D (.deferred none)) (fun r e => by cases e; exact ⟨_, HK.out, rfl⟩)
    refine ⟨by simp, .inl ⟨_, _, rfl, run_takeDeferred HK.out, ?_⟩⟩
    refine ⟨_, ?_, rfl, H.out.bel.trans (belowK_b (w := w) (by omega) _ D _ (.deferred none) (by omega) HK.out rfl rfl)⟩
    simp [results, Tryd.f13, go_sem, hc7]
end Go.Proofs.YthkapcnhfdpdbaaDoor

/- Layer 13, the law's helper: one. (Made by tools/mkone13.py.) -/
namespace Go.Proofs.YthkapcnhfdpdbaaDoor
open Go.RowKit Go.Shelf Go.Lib
attribute [local go_sem] Oper.semAt_some

theorem pre1 {α : Type} {pre : List α} {x a : α} (h : pre ++ [x] <+: [a]) : pre = [] ∧ x = a := by
  obtain ⟨t, h⟩ := h
  rcases pre with _ | ⟨p, _ | ⟨q, r⟩⟩
  · simp at h
    exact ⟨rfl, h.1⟩
  · simp at h
  · simp at h
/-- what lies in the boxes of one -/
structure OnS (w : World) (B : Nat) (c : ByteArray) (r : Bool) (k : Nat) (W : World) : Prop where
  b0 : Boxed W B 9 (.string c)
  b1 : Boxed W (B + 1) 4 (.bool r)
  b2 : Boxed W (B + 1 + 1) 3 (.int .i64 (k : Int))
  bel : Below B w W
theorem OnS.moves {w W W' : World} {B k b : Nat} {c : ByteArray} {r : Bool} {T : Bl} (h : OnS w B c r k W) (hT : ∀ k, T k → b ≤ k) (hb : B + 2 < b) (hm : Moves T W W') : OnS w B c r k W' := by
  have hn : ∀ k, k < b → ¬ T k := fun k hk e => by have := hT _ e; omega
  exact ⟨(hm.block _ h.b0.lt (hn _ (by omega))).trans h.b0, (hm.block _ h.b1.lt (hn _ (by omega))).trans h.b1, (hm.block _ h.b2.lt (hn _ (by omega))).trans h.b2,
    h.bel.trans ⟨hm.os, hm.tape, hm.output, hm.size, fun k hk => hm.block k (by have := h.b0.lt; omega) (hn _ (by omega))⟩⟩
theorem OnS.set {w W : World} {B k : Nat} {c : ByteArray} {r : Bool} (h : OnS w B c r k W) (m : Nat) : OnS w B c r m (W.setCell ⟨B + 1 + 1, 0, none⟩ (.int .i64 (m : Int))) :=
  ⟨h.b0.other (by omega) _, h.b1.other (by omega) _, h.b2.set _, h.bel.setCell (p := ⟨B + 1 + 1, 0, none⟩) (show B ≤ B + 1 + 1 by omega) _⟩
theorem OnS.say {w W : World} {B k : Nat} {c : ByteArray} {r : Bool} (h : OnS w B c r k W) (q : Bool) : OnS w B c q k (W.setCell ⟨B + 1, 0, none⟩ (.bool q)) :=
  ⟨h.b0.other (by omega) _, h.b1.set _, h.b2.other (by omega) _, h.bel.setCell (p := ⟨B + 1, 0, none⟩) (show B ≤ B + 1 by omega) _⟩
set_option maxRecDepth 100000 in
set_option maxHeartbeats 8000000 in
theorem one13_false (gf : Nat) (lb : Array Value) (c : ByteArray) (w : World) (hc : c.size ≤ 1073741824)
    (hgf : ∀ args w, (callFunc gf args).run Tryd.prog w = .ok (.enter gf args) w)
    (hseq : ∀ W, Below w.heap.size w W → SeqN Fence.wide 8 Tryd.prog gf lb encCl (fun ys => ys = [(0, c)]) (fun pre => pre <+: [(0, c)]) 1 (fun k => k < w.heap.size) W) :
    Calls Tryd.prog 17 #[.func (.func gf) #[] lb, .string c, .bool false] w fun e w' => e = .returned (.bool true) ∧ Below w.heap.size w w' := by
  obtain ⟨B, hB⟩ : ∃ B, w.heap.size = B := ⟨_, rfl⟩
  rw [hB] at hseq ⊢
  have Hseq := Lib.hid hseq
  clear hseq
  refine (callsIn_wide (n := 9)).1 ?_
  refine callsIn_of_wp_marks Tryd.func17 rfl trivial ?_ rfl
  refine wpIn_wide.2 ?_
  simp only [Tryd.ntmps17, List.size_toArray, List.length_cons, List.length_nil, Nat.reduceAdd, Nat.reduceSub, Array.replicate_succ, Array.replicate_zero, List.push_toArray, List.append_toArray, List.nil_append, List.cons_append]
  go_wp2_with fail
  obtain ⟨Wa, hWa⟩ : ∃ Wa, ((w.alloc (.cells #[.string c] 9)).alloc (.cells #[.bool false] 4)).alloc (.cells #[.int .i64 0] 3) = Wa := ⟨_, rfl⟩
  have hsz : Wa.heap.size = B + 3 := by rw [← hWa]; simp [hB]
  have hI0 : OnS w B c false 0 Wa := by
    refine ⟨?_, ?_, ?_, ?_⟩
    · rw [← hWa]; simp only [Boxed, alloc_get, World.size_alloc, hB]; rw [if_neg (by omega), if_neg (by omega)]; simp
    · rw [← hWa]; simp only [Boxed, alloc_get, World.size_alloc, hB]; simp; try omega
    · rw [← hWa]; simp only [Boxed, alloc_get, World.size_alloc, hB]; simp
    · rw [← hWa]; exact (((Below.refl B w).alloc (by omega) _).alloc (by simp; omega) _).alloc (by simp; omega) _
  rw [hWa]
  clear hWa
  refine (wpIn_wide (n := 9)).1 ?_
  refine range_N1 rfl (by omega) (gf := gf) (lb := lb) rfl trivial hgf (Hseq.out Wa hI0.bel) (fun k hk => by omega) (fun _ => rfl)
    (fun pre T W => OnS w B c false pre.length W)
    (fun _ _ _ _ => False)
    ?hI (fun _ _ _ _ _ _ h _ _ _ => h)
    hI0
    ?a1 ?assign ?body ?done ?stop
  case assign =>
    intro l x W K hK
    gi_wp2
    exact hK
  case stop =>
    rintro D c pre T W _ _ _ h _
    exact h.elim
  case hI =>
    rintro pre T T' W1 W2 h hT hmv _
    exact h.moves (fun k hk => (hT k hk).1) (by omega) hmv
  case body =>
    rintro l pre x T W hl hT hr h hlen hsp
    have c0 := h.b0.cell
    have c1 := h.b1.cell
    have c2 := h.b2.cell
    have c2f := h.b2.frozen
    have hTn : ¬ T (B + 1 + 1) := fun e => by have := (hT _ e).1; omega
    have HTn := Lib.hid hTn
    have H := Lib.hid h
    clear h hTn
    obtain ⟨rfl, rfl⟩ := pre1 hsp
    clear hsp hlen
    rw [show (((([] : List (Nat × ByteArray)).length : Nat)) : Int) = 0 from rfl] at c2
    gi_wp2
    any_goals (exfalso; first | (rename_i _ _ heq _; injection heq with e; cases e; done) | (rename_i heq _; injection heq with e; cases e; done) | (rename_i _ heq _; injection heq with e; cases e; done) | (rename_i heq; injection heq with e; cases e; done) | (rename_i _ heq; injection heq with e; cases e; done))
    exact ⟨KeepN.setCell _ _ _ _ _ _ (by omega) HTn.out, H.out.set 1⟩
  case done =>
    rintro D ys T W hD hT rfl h hK
    have c2 := h.b2.cell
    have c1 := h.b1.cell
    have c1f := h.b1.frozen
    rw [show ((([(0, c)] : List (Nat × ByteArray)).length : Nat) : Int) = 1 from rfl] at c2
    have HK := Lib.hid hK
    have H := Lib.hid h
    clear h hK
    go_wp2
    have hD1 := hT D hD
    have H2 := Lib.hid (H.out.say true)
    have hk' : (W.setCell ⟨B + 1, 0, none⟩ (.bool true)).heap[D]? = some (.deferred (some [])) := (KeepsOthers.setCell _ _ _).same D _ HK.out rfl
    have hc7 := cell_kept H2.out.b1.cell (grownBy_putObj' _ D (.deferred none)) (fun r e => by cases e; exact ⟨_, hk', rfl⟩)
    refine ⟨by simp, .inl ⟨_, _, rfl, run_takeDeferred hk', ?_⟩⟩
    refine ⟨.bool true, ?_, rfl, H2.out.bel.trans (belowK_b (w := w) (by omega) _ D _ (.deferred none) (by omega) hk' rfl rfl)⟩
    simp [results, Tryd.f17, go_sem, hc7]
set_option maxRecDepth 100000 in
set_option maxHeartbeats 8000000 in
theorem one13_true (gf : Nat) (lb : Array Value) (c : ByteArray) (w : World) (hc : c.size ≤ 1073741824)
    (hgf : ∀ args w, (callFunc gf args).run Tryd.prog w = .ok (.enter gf args) w)
    (hseq : ∀ W, Below w.heap.size w W → SeqN Fence.wide 8 Tryd.prog gf lb encCl (fun ys => ys = [(0, c), (c.size, ByteArray.empty)]) (fun pre => pre <+: [(0, c), (c.size, ByteArray.empty)]) 2 (fun k => k < w.heap.size) W) :
    Calls Tryd.prog 17 #[.func (.func gf) #[] lb, .string c, .bool true] w fun e w' => e = .returned (.bool true) ∧ Below w.heap.size w w' := by
  obtain ⟨B, hB⟩ : ∃ B, w.heap.size = B := ⟨_, rfl⟩
  rw [hB] at hseq ⊢
  have Hseq := Lib.hid hseq
  clear hseq
  refine (callsIn_wide (n := 9)).1 ?_
  refine callsIn_of_wp_marks Tryd.func17 rfl trivial ?_ rfl
  refine wpIn_wide.2 ?_
  simp only [Tryd.ntmps17, List.size_toArray, List.length_cons, List.length_nil, Nat.reduceAdd, Nat.reduceSub, Array.replicate_succ, Array.replicate_zero, List.push_toArray, List.append_toArray, List.nil_append, List.cons_append]
  go_wp2_with fail
  obtain ⟨Wa, hWa⟩ : ∃ Wa, ((w.alloc (.cells #[.string c] 9)).alloc (.cells #[.bool false] 4)).alloc (.cells #[.int .i64 0] 3) = Wa := ⟨_, rfl⟩
  have hsz : Wa.heap.size = B + 3 := by rw [← hWa]; simp [hB]
  have hI0 : OnS w B c false 0 Wa := by
    refine ⟨?_, ?_, ?_, ?_⟩
    · rw [← hWa]; simp only [Boxed, alloc_get, World.size_alloc, hB]; rw [if_neg (by omega), if_neg (by omega)]; simp
    · rw [← hWa]; simp only [Boxed, alloc_get, World.size_alloc, hB]; simp; try omega
    · rw [← hWa]; simp only [Boxed, alloc_get, World.size_alloc, hB]; simp
    · rw [← hWa]; exact (((Below.refl B w).alloc (by omega) _).alloc (by simp; omega) _).alloc (by simp; omega) _
  rw [hWa]
  clear hWa
  refine (wpIn_wide (n := 9)).1 ?_
  refine range_N1 rfl (by omega) (gf := gf) (lb := lb) rfl trivial hgf (Hseq.out Wa hI0.bel) (fun k hk => by omega) (fun _ => rfl)
    (fun pre T W => OnS w B c false pre.length W)
    (fun _ _ _ _ => False)
    ?hI (fun _ _ _ _ _ _ h _ _ _ => h)
    hI0
    ?a1 ?assign ?body ?done ?stop
  case assign =>
    intro l x W K hK
    gi_wp2
    exact hK
  case stop =>
    rintro D c pre T W _ _ _ h _
    exact h.elim
  case hI =>
    rintro pre T T' W1 W2 h hT hmv _
    exact h.moves (fun k hk => (hT k hk).1) (by omega) hmv
  case body =>
    rintro l pre x T W hl hT hr h hlen hsp
    have c0 := h.b0.cell
    have c1 := h.b1.cell
    have c2 := h.b2.cell
    have c2f := h.b2.frozen
    have hTn : ¬ T (B + 1 + 1) := fun e => by have := (hT _ e).1; omega
    have HTn := Lib.hid hTn
    have H := Lib.hid h
    clear h hTn
    rcases pre2 hsp with ⟨rfl, rfl⟩ | ⟨rfl, rfl⟩
    · clear hsp hlen
      rw [show (((([] : List (Nat × ByteArray)).length : Nat)) : Int) = 0 from rfl] at c2
      gi_wp2
      any_goals (exfalso; first | (rename_i _ _ heq _; injection heq with e; cases e; done) | (rename_i heq _; injection heq with e; cases e; done) | (rename_i _ heq _; injection heq with e; cases e; done) | (rename_i heq; injection heq with e; cases e; done) | (rename_i _ heq; injection heq with e; cases e; done))
      exact ⟨KeepN.setCell _ _ _ _ _ _ (by omega) HTn.out, H.out.set 1⟩
    · clear hsp hlen
      rw [show (((([((0, c) : Nat × ByteArray)] : List (Nat × ByteArray)).length : Nat)) : Int) = 1 from rfl] at c2
      have hcc : ((c.size : Int) != (c.size : Int)) = false := by simp
      have hcc2 : (c.size != c.size) = false := by simp
      gi_wp2
      exact ⟨KeepN.setCell _ _ _ _ _ _ (by omega) HTn.out, H.out.set 2⟩
  case done =>
    rintro D ys T W hD hT rfl h hK
    have c2 := h.b2.cell
    have c1 := h.b1.cell
    have c1f := h.b1.frozen
    rw [show ((([(0, c), (c.size, ByteArray.empty)] : List (Nat × ByteArray)).length : Nat) : Int) = 2 from rfl] at c2
    have HK := Lib.hid hK
    have H := Lib.hid h
    clear h hK
    go_wp2
    have hD1 := hT D hD
    have H2 := Lib.hid (H.out.say true)
    have hk' : (W.setCell ⟨B + 1, 0, none⟩ (.bool true)).heap[D]? = some (.deferred (some [])) := (KeepsOthers.setCell _ _ _).same D _ HK.out rfl
    have hc7 := cell_kept H2.out.b1.cell (grownBy_putObj' _ D (.deferred none)) (fun r e => by cases e; exact ⟨_, hk', rfl⟩)
    refine ⟨by simp, .inl ⟨_, _, rfl, run_takeDeferred hk', ?_⟩⟩
    refine ⟨.bool true, ?_, rfl, H2.out.bel.trans (belowK_b (w := w) (by omega) _ D _ (.deferred none) (by omega) hk' rfl rfl)⟩
    simp [results, Tryd.f17, go_sem, hc7]
end Go.Proofs.YthkapcnhfdpdbaaDoor
