/- Layer 13, the laws' helpers that ask the program: its functions' contracts as a premise (to be taken off where they are walked). -/
import Derived.Test.YthkapcnhfdpdbaaDoorBrG
import Derived.Test.YthkapcnhfdpdbaaDoorPcsC
import Derived.Test.YthkapcnhfdpdbaaDoorScanA
set_option linter.unusedSimpArgs false
set_option linter.unusedVariables false
namespace Go.Proofs.YthkapcnhfdpdbaaDoor
open Go.RowKit Go.Shelf Go.Lib
attribute [local go_sem] Oper.semAt_some

/-- what breaks.Lines hands back: an iterator of the lines -/
def LinesW (s : ByteArray) (w : World) (e : Ending) (w' : World) : Prop := ∃ gf lb, e = .returned (.func (.func gf) #[] lb) ∧ Below w.heap.size w w' ∧
  (∀ args w, (callFunc gf args).run Tryd.prog w = .ok (.enter gf args) w) ∧
  (∀ W, (binOp .eql 31 (.func (.func gf) #[] lb) .nilFunc).run Tryd.prog W = .ok (.bool false) W) ∧
  ∀ (N₀ : Bl) (W : World), N₀ 0 → N₀ 1 → (∀ k, w.heap.size ≤ k → k < w'.heap.size → N₀ k) → KeepN N₀ (fun _ => False) w' W →
    SeqN Fence.wide 8 Tryd.prog gf lb encCl (fun ys => ys = linesN s) (fun pre => pre <+: linesN s) (linesN s).length N₀ W
/-- what the program's functions answer -/
structure BreakP : Prop where
  where_ : ∀ (s : ByteArray) (w : World), s.size ≤ 536870912 → Utf8Tabs 0 1 w → Calls Tryd.prog 8 #[.string s] w fun e w' =>
    ∃ A c, e = .returned (.slice A (whereN s).length c) ∧ w'.ownsRow w.heap.size 25 1 (.slice A (whereN s).length c) (whereN s).length (whV (whereN s)) ∧ Below w.heap.size w w'
  lines : ∀ (s : ByteArray) (w : World), s.size ≤ 536870912 → Utf8Tabs 0 1 w → Calls Tryd.prog 12 #[.string s] w (LinesW s w)
section texts13
theorem b_w1 : whereN ⟨#[97, 32, 98]⟩ = [0, 1, 0] := by decide +kernel
theorem b_w2 : whereN ⟨#[97, 10]⟩ = [0, 2] := by decide +kernel
theorem b_l : linesN ⟨#[97, 10, 98]⟩ = [(0, ⟨#[97, 10]⟩), (2, ⟨#[98]⟩)] := by decide +kernel
end texts13
theorem pre2 {α : Type} {pre : List α} {x a b : α} (h : pre ++ [x] <+: [a, b]) : (pre = [] ∧ x = a) ∨ (pre = [a] ∧ x = b) := by
  obtain ⟨t, h⟩ := h
  rcases pre with _ | ⟨p, _ | ⟨q, r⟩⟩
  · simp at h
    exact .inl ⟨rfl, h.1⟩
  · simp at h
    exact .inr ⟨by rw [h.1], h.2.1⟩
  · simp at h
/-- what stands in wakes' boxes -/
def nW : List (Nat × ByteArray) → Nat
  | [] => 0
  | x :: t => 1 + x.1 + nW t
theorem nW_snoc : ∀ (l : List (Nat × ByteArray)) (x : Nat × ByteArray), nW (l ++ [x]) = nW l + 1 + x.1
  | [], x => by simp [nW]
  | y :: t, x => by
    rw [List.cons_append, nW, nW_snoc t x, nW]
    omega
def lastW (l : List (Nat × ByteArray)) : ByteArray := (l.getLast?.map (·.2)).getD ByteArray.empty
theorem lastW_snoc (l : List (Nat × ByteArray)) (x : Nat × ByteArray) : lastW (l ++ [x]) = x.2 := by simp [lastW]
structure WkS (B : Nat) (Wa : World) (pre : List (Nat × ByteArray)) (W : World) : Prop where
  b0 : Boxed W B 3 (.int .i64 (nW pre : Nat))
  b1 : Boxed W (B + 1) 9 (.string (lastW pre))
  bel : Below B Wa W
set_option maxRecDepth 100000 in
set_option maxHeartbeats 4000000 in
theorem wakes13_any (H : BreakP) (w : World) (hT : Utf8Tabs 0 1 w) : Calls Tryd.prog 10 #[] w fun e w' => e = .returned (.bool true) ∧ Below w.heap.size w w' := by
  have h1 := fun w hT => H.where_ ⟨#[97, 32, 98]⟩ w (by decide) hT
  rw [b_w1] at h1
  have h2 := fun w hT => H.where_ ⟨#[97, 10]⟩ w (by decide) hT
  rw [b_w2] at h2
  have h3 := fun w hT => H.lines ⟨#[97, 10, 98]⟩ w (by decide) hT
  unfold LinesW at h3
  rw [b_l] at h3
  have H1 := Lib.hid h1
  have H2 := Lib.hid h2
  have H3 := Lib.hid h3
  have HT := Lib.hid hT
  have hts := tabs_size hT
  clear h1 h2 h3 hT
  refine (callsIn_wide (n := 9)).1 ?_
  refine callsIn_of_wp_marks Tryd.func10 rfl trivial ?_ rfl
  refine wpIn_wide.2 ?_
  simp only [Tryd.ntmps10, List.size_toArray, List.length_cons, List.length_nil, Nat.reduceAdd, Nat.reduceSub, Array.replicate_succ, Array.replicate_zero, List.push_toArray, List.append_toArray, List.nil_append, List.cons_append]
  go_wp2_with fail
  refine (H1.out _ HT.out).mono ?_
  rintro _ w1 ⟨A1, c1, rfl, o1, b1⟩
  have HT1 := Lib.hid (Utf8Tabs_below HT.out b1)
  have B1 := Lib.hid b1
  have R1 := Lib.hid (show Rd w1 w1.heap.size 1 A1 3 (whV [0, 1, 0]) from Rd.own o1)
  clear b1 o1
  go_wp2_with fail
  refine (H2.out _ HT1.out).mono ?_
  rintro _ w2 ⟨A2, c2, rfl, o2, b2⟩
  have HT2 := Lib.hid (Utf8Tabs_below HT1.out b2)
  have B2 := Lib.hid (show Below w.heap.size w w2 ∧ w.heap.size ≤ w2.heap.size from ⟨B1.out.trans (b2.mono B1.out.size), by have := B1.out.size; have := b2.size; omega⟩)
  have R12 := Lib.hid (Rd.more (R1.out.below b2) b2.size)
  have R2 := Lib.hid (show Rd w2 w2.heap.size 1 A2 2 (whV [0, 2]) from Rd.own o2)
  clear b2 o2
  go_wp2_with fail
  refine (H3.out _ HT2.out).mono ?_
  rintro _ w3 ⟨gf, lb, rfl, b3, hgf, hnil, hseq⟩
  have B3 := Lib.hid (show Below w.heap.size w w3 ∧ w.heap.size ≤ w3.heap.size from ⟨B2.out.1.trans (b3.mono B2.out.2), by have := B2.out.2; have := b3.size; omega⟩)
  have R13 := Lib.hid (Rd.more (R12.out.below b3) b3.size)
  have R23 := Lib.hid (Rd.more (R2.out.below b3) b3.size)
  have Hs3 := Lib.hid hseq
  have hsz : w2.heap.size ≤ w3.heap.size := b3.size
  clear b3 hseq
  go_wp2_with fail
  obtain ⟨B, hB⟩ : ∃ B, w3.heap.size = B := ⟨_, rfl⟩
  obtain ⟨Wa, hWa⟩ : ∃ Wa, (w3.alloc (.cells #[.int .i64 0] 3)).alloc (.cells #[.string ⟨#[]⟩] 9) = Wa := ⟨_, rfl⟩
  have hk0 : Below B w3 Wa := by rw [← hWa, ← hB]; exact ((Below.refl _ w3).alloc (Nat.le_refl _) _).alloc (by rw [World.size_alloc]; omega) _
  have hS0 : WkS B Wa [] Wa := by
    refine ⟨?_, ?_, Below.refl _ _⟩
    · rw [← hWa, ← hB]; exact (Boxed.new w3 _ _).alloc _
    · rw [← hWa, ← hB, ← World.size_alloc w3 (.cells #[.int .i64 0] 3)]; exact Boxed.new _ _ _
  have hsz3 : Wa.heap.size = B + 1 + 1 := by rw [← hWa, World.size_alloc, World.size_alloc, hB]
  have hb23 : w2.heap.size ≤ B := by omega
  have hw2 : w.heap.size ≤ w2.heap.size := B2.out.2
  have Hseq := Lib.hid (Hs3.out (fun k => k < B) Wa (by omega) (by omega) (fun k _ h => by omega) ⟨by rw [hsz3]; omega, fun k hk _ => hk0.block k (by omega)⟩)
  have HA := Lib.hid (show Rd Wa B 1 A1 3 (whV [0, 1, 0]) ∧ Rd Wa B 1 A2 2 (whV [0, 2]) ∧ Below w.heap.size w Wa from ⟨by have := R13.out; rw [hB] at this; exact this.below hk0, by have := R23.out; rw [hB] at this; exact this.below hk0, B3.out.1.trans (hk0.mono (by omega))⟩)
  have HS0 := Lib.hid hS0
  rw [hWa, hB]
  clear Hs3 hk0 hS0 hWa hb23 R13 R23 R12 R1 R2 B1 B2 B3 HT HT1 HT2 H1 H2 H3 hts
  refine (wpIn_wide (n := 9)).1 ?_
  refine range_N1 rfl (by omega) (gf := gf) (lb := lb) rfl trivial hgf Hseq.out (fun k hk => by omega) (fun _ => rfl)
    (fun pre T W => WkS B Wa pre W)
    (fun _ _ _ _ => False)
    ?hI (fun _ _ _ _ _ _ h _ _ _ => h) HS0.out
    ?a1 ?assign ?body ?done ?stop
  case assign =>
    intro l x W K hK
    gi_wp2
    exact hK
  case stop =>
    rintro D c pre T W _ _ _ h _
    exact h.elim
  case hI =>
    rintro pre T T' W1 W2 h1 hT hm hg
    exact ⟨(hm.block _ h1.b0.lt (fun e => by have := (hT _ e).1; omega)).trans h1.b0, (hm.block _ h1.b1.lt (fun e => by have := (hT _ e).1; omega)).trans h1.b1, h1.bel.trans ⟨hm.os, hm.tape, hm.output, hm.size, fun k hk => hm.block k (by have := h1.b0.lt; omega) (fun e => by have := (hT _ e).1; omega)⟩⟩
  case body =>
    rintro l pre x T W hl hT hr h1 hlen hsp
    have hT1 : ¬ T B := fun e => by have := (hT _ e).1; omega
    have hT2 : ¬ T (B + 1) := fun e => by have := (hT _ e).1; omega
    have hfin : ∀ (W8 : World), W8 = (W.setCell ⟨B, 0, none⟩ (.int .i64 (nW (pre ++ [x]) : Nat))).setCell ⟨B + 1, 0, none⟩ (.string x.2) → KeepN (fun k => k < B) T W W8 ∧ WkS B Wa (pre ++ [x]) W8 := by
      rintro W8 rfl
      refine ⟨(KeepN.setCell _ _ _ _ _ _ (by omega) (fun e => hT1 e)).trans (KeepN.setCell _ _ _ _ _ _ (by omega) (fun e => hT2 e)), (h1.b0.set _).other (by omega) _, ?_, (h1.bel.setCell (p := ⟨B, 0, none⟩) (Nat.le_refl _) _).setCell (p := ⟨B + 1, 0, none⟩) (Nat.le_succ _) _⟩
      rw [lastW_snoc]
      exact (h1.b1.other (by omega) _).set _
    have Hfin := Lib.hid hfin
    have c0 := h1.b0.cell
    have c0f := h1.b0.frozen
    have c1 := h1.b1.cell
    have c1f := h1.b1.frozen
    clear hfin hT1 hT2 h1
    rcases pre2 hsp with ⟨rfl, rfl⟩ | ⟨rfl, rfl⟩
    · clear hsp
      rw [show ((nW [] : Nat) : Int) = 0 from rfl] at c0
      gi_wp2
      exact Hfin.out _ rfl
    · clear hsp
      rw [show ((nW [((0, ⟨#[97, 10]⟩) : Nat × ByteArray)] : Nat) : Int) = 1 from rfl] at c0
      gi_wp2
      exact Hfin.out _ rfl
  case done =>
    rintro D ys T W hD hT rfl h1 hK
    have HK := Lib.hid hK
    have HR := Lib.hid (show Rd W B 1 A1 3 (whV [0, 1, 0]) ∧ Rd W B 1 A2 2 (whV [0, 2]) ∧ Below w.heap.size w W from ⟨HA.out.1.below h1.bel, HA.out.2.1.below h1.bel, HA.out.2.2.trans (h1.bel.mono (by omega))⟩)
    have c0 := h1.b0.cell
    have c1 := h1.b1.cell
    clear hK h1
    obtain ⟨a1, rfl, _, hc1⟩ := Rd.addr HR.out.1 (by omega)
    obtain ⟨a2, rfl, _, hc2⟩ := Rd.addr HR.out.2.1 (by omega)
    have g10 : W.cell? a1 = some (.int .i8 0) := by have h := hc1 0 _ rfl; rw [show a1.add 0 = a1 by simp [Addr.add]] at h; exact h
    have g11 : W.cell? ⟨a1.block, a1.off + 1, none⟩ = some (.int .i8 1) := by have h := hc1 1 _ rfl; first | exact h | (simp only [Addr.add] at h; first | exact h | simpa using h)
    have g12 : W.cell? ⟨a1.block, a1.off + 2, none⟩ = some (.int .i8 0) := by have h := hc1 2 _ rfl; first | exact h | (simp only [Addr.add] at h; first | exact h | simpa using h)
    have g20 : W.cell? a2 = some (.int .i8 0) := by have h := hc2 0 _ rfl; rw [show a2.add 0 = a2 by simp [Addr.add]] at h; exact h
    have g21 : W.cell? ⟨a2.block, a2.off + 1, none⟩ = some (.int .i8 2) := by have h := hc2 1 _ rfl; first | exact h | (simp only [Addr.add] at h; first | exact h | simpa using h)
    rw [show ((nW [((0, ⟨#[97, 10]⟩) : Nat × ByteArray), (2, ⟨#[98]⟩)] : Nat) : Int) = 4 from rfl] at c0
    rw [show lastW [((0, ⟨#[97, 10]⟩) : Nat × ByteArray), (2, ⟨#[98]⟩)] = ⟨#[98]⟩ from rfl] at c1
    clear hc1 hc2
    go_wp2
    have hD1 := hT D hD
    have hWz := HR.out.2.2.size
    refine ⟨by simp, .inl ⟨_, _, rfl, run_takeDeferred HK.out, ?_⟩⟩
    exact ⟨_, results_tmp rfl _ _ _, rfl, HR.out.2.2.trans (belowK_b (w := w) (by omega) _ D _ (.deferred none) (by omega) HK.out rfl rfl)⟩
end Go.Proofs.YthkapcnhfdpdbaaDoor

/- Layer 13, the laws' helpers: kind, parts. -/
namespace Go.Proofs.YthkapcnhfdpdbaaDoor
open Go.RowKit Go.Shelf Go.Lib
attribute [local go_sem] Oper.semAt_some

set_option maxRecDepth 100000 in
set_option maxHeartbeats 1000000 in
theorem kind13_any (c : ByteArray) (w : World) (h0 : 0 < c.size) (hT : Utf8Tabs 0 1 w) : Calls Tryd.prog 15 #[.string c] w fun e w' => e = .returned (.int .i8 (brkN c : Nat)) ∧ Below w.heap.size w w' := by
  have hne : c.data.toList ≠ [] := fun e => by
    have := size_list c
    rw [e] at this
    simp at this
    omega
  have HN := next_any c w hT
  rw [show nxt c.data.toList = dec c.data.toList from if_neg hne] at HN
  have hsg := segs_cons c.data.toList hne
  obtain ⟨d, hd⟩ : ∃ d, dec c.data.toList = d := ⟨_, rfl⟩
  rw [hd] at HN hsg
  have hsd : brkN c = brkD d := by unfold brkN; rw [hsg]
  have HN := Lib.hid HN
  have HK := Lib.hid (fun W => Break_any (d.1 : Int) W)
  unfold brkD at hsd
  obtain ⟨k, hk⟩ : ∃ k, cls breaksL (char (d.1 : Int)) = k := ⟨_, rfl⟩
  rw [hk] at HK hsd
  obtain ⟨r, n⟩ := d
  have hbd : badD (r, n) = (r == 65533 && n == 1) := rfl
  rw [hbd] at hsd
  dsimp only at HN HK
  have HD := Lib.hid hsd
  clear hsd hbd hsg hd hne h0 hk hT
  go_enter Tryd.func15, Tryd.ntmps15
  go_wp2_with fail
  refine HN.out.mono ?_
  rintro _ w1 ⟨rfl, b1⟩
  have B1 := Lib.hid b1
  clear HN b1
  go_wp2_with fail
  refine (HK.out _).mono ?_
  rintro _ w2 ⟨rfl, b2⟩
  have B2 := Lib.hid (B1.out.trans (b2.mono B1.out.size))
  clear HK b2 B1
  by_cases hn : n = 1
  · subst hn
    by_cases hr : r = 65533
    · subst hr
      have HV := Lib.hid (show brkN c = 0 from by rw [HD.out]; simp)
      clear HD
      go_wp2_with fail
      go_ret
      exact ⟨by rw [HV.out]; rfl, B2.out⟩
    · have ir : ((r : Int) == 65533) = false := by rw [show (65533 : Int) = ((65533 : Nat) : Int) from rfl, intEq]; simp [hr]
      by_cases h8 : k = 8
      · subst h8
        have HV := Lib.hid (show brkN c = 0 from by rw [HD.out]; simp)
        clear hr HD
        go_wp2_with fail
        go_ret
        exact ⟨by rw [HV.out]; rfl, B2.out⟩
      · have HV := Lib.hid (show brkN c = k from by rw [HD.out]; simp [hr, h8])
        have ik : ((k : Int) == 8) = false := by rw [show (8 : Int) = ((8 : Nat) : Int) from rfl, intEq]; simp [h8]
        clear hr h8 HD
        go_wp2_with fail
        go_ret
        exact ⟨by rw [HV.out]; rfl, B2.out⟩
  · have inn : ((n : Int) == 1) = false := by rw [show (1 : Int) = ((1 : Nat) : Int) from rfl, intEq]; simp [hn]
    by_cases h8 : k = 8
    · subst h8
      have HV := Lib.hid (show brkN c = 0 from by rw [HD.out]; simp)
      clear hn HD
      go_wp2_with fail
      go_ret
      exact ⟨by rw [HV.out]; rfl, B2.out⟩
    · have HV := Lib.hid (show brkN c = k from by rw [HD.out]; simp [hn, h8])
      have ik : ((k : Int) == 8) = false := by rw [show (8 : Int) = ((8 : Nat) : Int) from rfl, intEq]; simp [h8]
      clear hn h8 HD
      go_wp2_with fail
      go_ret
      exact ⟨by rw [HV.out]; rfl, B2.out⟩

abbrev strV (L : List (Nat × ByteArray)) : List Value := L.map fun x => Value.string x.2
theorem strV_snoc (L : List (Nat × ByteArray)) (x : Nat × ByteArray) : strV (L ++ [x]) = strV L ++ [Value.string x.2] := by simp [strV]
theorem str_info13 : (Tryd.prog.info? 9).map (fun i => (i.zero, i.size, i.bytes)) = some (some (.string ByteArray.empty), 1, 16) := by kernel_rfl
set_option maxRecDepth 100000 in
set_option maxHeartbeats 1000000 in
theorem parts13_any (s : ByteArray) (w : World) (hs : s.size ≤ 1073741824) (hT : Utf8Tabs 0 1 w) :
    Calls Tryd.prog 14 #[.string s] w fun e w' => ∃ A c, e = .returned (.tuple #[.slice A (pcs s).length c, .bool true]) ∧ w'.ownsRow w.heap.size 9 1 (.slice A (pcs s).length c) (pcs s).length (strV (pcs s)) ∧ Below w.heap.size w w' := by
  obtain ⟨ii, hii, hiz0, hiz1, hiz2⟩ := info_parts str_info13
  obtain ⟨B, hB⟩ : ∃ B, w.heap.size = B := ⟨_, rfl⟩
  have h2 := tabs_size hT
  have hL : (pcs s).length ≤ 1073741824 := by have := pcs_len s; omega
  have Hmk := Lib.hid (cl_mk s w)
  obtain ⟨w1, hw1⟩ : ∃ w1, w.alloc (.cells #[.string s] 9) = w1 := ⟨_, rfl⟩
  have hz1 : w1.heap.size = B + 1 := by rw [← hw1]; simp [hB]
  have b1 : Below B w w1 := by rw [← hw1]; exact (Below.refl B w).alloc (by omega) _
  have hs1 : Boxed w1 B 9 (.string s) := by rw [← hw1, ← hB]; exact Boxed.new w _ _
  have hT1 : Utf8Tabs 0 1 w1 := Utf8Tabs_below hT (by rw [hB]; exact b1)
  rw [hw1, hB] at Hmk
  rw [hB] at h2 ⊢
  have Hseq := Lib.hid (show ∀ W, Below (B + 1) w1 W → SeqN Fence.wide 8 Tryd.prog 34 #[.pointer (some ⟨B, 0, none⟩)] encCl (fun ys => ys = pcs s) (fun pre => pre <+: pcs s) (pcs s).length (fun k => k < B + 1) W from fun W hb =>
    seqCl 8 (by omega) B (fun k => k < B + 1) s W (by omega) (by omega) (by omega) ((hb.cell (p := ⟨B, 0, none⟩) (by show B < B + 1; omega)).trans hs1.cell) hs (Utf8Tabs_below hT1 (by rw [hz1]; exact hb)))
  obtain ⟨L, hLe⟩ : ∃ L, pcs s = L := ⟨_, rfl⟩
  rw [hLe] at hL Hseq ⊢
  clear hLe hT hs1 hT1 hw1
  refine (callsIn_wide (n := 9)).1 ?_
  refine callsIn_of_wp_marks Tryd.func14 rfl trivial ?_ rfl
  refine wpIn_wide.2 ?_
  simp only [Tryd.ntmps14, List.size_toArray, List.length_cons, List.length_nil, Nat.reduceAdd, Nat.reduceSub, Array.replicate_succ, Array.replicate_zero, List.push_toArray, List.append_toArray, List.nil_append, List.cons_append]
  go_wp2_with fail
  refine Hmk.out.mono ?_
  rintro _ w9 ⟨rfl, h9⟩
  obtain rfl := h9.symm
  have hnil : ∀ W, (binOp .eql 31 (.func (.func 34) #[] #[.pointer (some ⟨B, 0, none⟩)]) .nilFunc).run Tryd.prog W = .ok (.bool false) W := fun W => by rfl
  go_wp2_with fail
  obtain ⟨Wa, hWa⟩ : ∃ Wa, w1.alloc (.cells #[.slice none 0 0] 37) = Wa := ⟨_, rfl⟩
  have hsz : Wa.heap.size = B + 2 := by rw [← hWa]; simp [hz1]
  have b0 : Boxed Wa (B + 1) 37 (.slice none 0 0) := by rw [← hWa, ← hz1]; exact Boxed.new w1 _ _
  have hBa : Below (B + 1) w1 Wa := by rw [← hWa]; exact (Below.refl (B + 1) w1).alloc (by omega) _
  rw [hWa]
  clear hWa hnil
  refine (wpIn_wide (n := 9)).1 ?_
  refine range_N1 rfl (by omega) (gf := 34) (lb := #[.pointer (some ⟨B, 0, none⟩)]) rfl trivial (enters_of Tryd.func34 (by kernel_rfl) rfl) (Hseq.out Wa hBa) (fun k hk => by omega) (fun _ => rfl)
    (fun pre T W => (∃ A c, Col T W (B + 1) 37 9 1 (B + 2) (.slice A pre.length c) pre.length (strV pre)) ∧ Below (B + 1) Wa W)
    (fun _ _ _ _ => False)
    ?hI (fun _ _ _ _ _ _ h _ _ _ => h)
    ⟨⟨none, 0, ⟨b0, World.ownsRow_nil _ _ _ _, fun _ h => by cases h⟩⟩, Below.refl _ _⟩
    ?a1 ?assign ?body ?done ?stop
  case assign =>
    intro l x W K hK
    gi_wp2
    exact hK
  case stop =>
    rintro D c pre T W _ _ _ h _
    exact h.elim
  case hI =>
    rintro pre T T' W1 W2 ⟨⟨A, c, h1⟩, hb⟩ hT hm hg
    exact ⟨⟨A, c, h1.tc (fun e => by have := (hT _ e).1; omega) hm hg⟩, hb.trans ⟨hm.os, hm.tape, hm.output, hm.size, fun k hk => hm.block k (by have := hb.size; omega) (fun e => by have := (hT _ e).1; omega)⟩⟩
  case body =>
    rintro l pre x T W hl hT hr ⟨⟨A, c, h1⟩, hb⟩ hlen _
    rw [hsz] at hT
    have hc1 := h1.box.cell
    have hm1 : pre.length + 1 ≤ maxLen := by unfold maxLen; omega
    have hm2 : (pre.length + 1) * 16 ≤ 140737488355328 := by omega
    have hT1 : ∀ k, T k → k < W.heap.size := fun k hk => (hT k hk).2
    have hTa : ¬ T (B + 1) := fun e => by have := (hT _ e).1; omega
    have hbs : B + 2 ≤ W.heap.size := by have := hb.size; omega
    have hplen : (pre ++ [x]).length = pre.length + 1 := by simp
    have H1 := Lib.hid h1
    have Hb := Lib.hid hb
    clear h1 hb
    gi_wp2_with (gi_at_builtin; refine Hid.out ?_)
    refine Lib.hid ?_
    refine wpListIn_append_own_at _ rfl _ _ 37 rfl (B + 2) 9 ii (.string ByteArray.empty) 1 16 Tryd.underlying37 hii hiz0 hiz1 hiz2 rfl (by decide) _ _ _ rfl (H1.out.row.alloc _) ⟨W.heap.size, 0, none⟩ 1 1 [.string x.2] rfl rfl (new_cells W [.string x.2] 9) (by simp [Value.oneCell']) hm1 hm2 (by simp; omega) ?_
    intro v1' w1 hown1 hgrow1 _ hblk1
    obtain ⟨g1, cap1, rfl⟩ := ownsRow_succ hown1
    obtain ⟨hv1, hcol1, hk1, hs1, ho1, ht1, hu1⟩ := H1.out.appended (by decide) hT1 hTa hown1 hgrow1 hblk1
    have hc1' := hv1.cell
    have hf1' := hv1.frozen
    have hfin : ∀ W8, W8 = w1.setCell ⟨B + 1, 0, none⟩ (.slice (some ⟨g1, 0, none⟩) (pre.length + 1) cap1) → KeepN (fun k => k < B + 1) T W W8 ∧ (∃ A c, Col T W8 (B + 1) 37 9 1 (B + 2) (.slice A (pre ++ [x]).length c) (pre ++ [x]).length (strV (pre ++ [x]))) ∧ Below (B + 1) Wa W8 := by
      rintro W8 rfl
      have hne : ∀ k, k < B + 1 ∨ T k → (Value.slice A pre.length c).ownBlock ≠ some k ∧ k ≠ B + 1 := fun k hk => by
        refine ⟨fun e => ?_, fun e => ?_⟩
        · rcases hk with hk | hk
          · have := (H1.out.row.lt k e).1; omega
          · exact H1.out.apart k e hk
        · rcases hk with hk | hk
          · omega
          · exact hTa (e ▸ hk)
      refine ⟨⟨hs1, fun k hk ho => hk1 k hk (hne k ho).1 (hne k ho).2⟩, ⟨some ⟨g1, 0, none⟩, cap1, ?_⟩, Hb.out.trans ⟨ho1, ht1, hu1, hs1, fun k hk => hk1 k (by omega) (hne k (.inl hk)).1 (hne k (.inl hk)).2⟩⟩
      rw [hplen, strV_snoc]
      exact hcol1
    have Hfin := Lib.hid hfin
    clear hcol1 hk1 hs1 ho1 ht1 hu1 hown1 hgrow1 hblk1 hfin hv1
    gi_wp2
    exact Hfin.out _ rfl
  case done =>
    rintro D ys T W hD hT rfl ⟨⟨A, c, h1⟩, hb⟩ hK
    have c1 := h1.box.cell
    have HK := Lib.hid hK
    have H1 := Lib.hid h1
    have Hb := Lib.hid hb
    clear h1 hK hb
    go_wp2
    have hD1 := hT D hD
    refine ⟨by simp, .inl ⟨_, _, rfl, run_takeDeferred HK.out, ?_⟩⟩
    refine ⟨_, results_tmp2 rfl _ _ _, A, c, rfl, ?_, ((b1.trans (hBa.mono (by omega))).trans (Hb.out.mono (by omega))).trans (belowK_b (w := w) (by omega) _ D _ (.deferred none) (by omega) HK.out rfl rfl)⟩
    exact own_base (row_same H1.out.row (fun k hk => World.putObj_heap_other (fun e => H1.out.apart k hk (e ▸ hD)))) (by omega)
end Go.Proofs.YthkapcnhfdpdbaaDoor
