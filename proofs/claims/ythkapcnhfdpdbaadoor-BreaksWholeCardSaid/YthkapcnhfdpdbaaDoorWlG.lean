/- Layer 13, pure: what holds of each line (BreaksWhole). -/
import Derived.Test.YthkapcnhfdpdbaaDoorBrkG
import Derived.Test.YthkapcnhfdpdbaaDoorBordG
import Derived.Test.YthkapcnhfdpdbaaDoorHlG
import Derived.Deep.QuietTactic
import Derived.Laws.EntriesVeiled
set_option linter.unusedSimpArgs false
set_option linter.unusedVariables false
namespace Go.Proofs.YthkapcnhfdpdbaaDoor
open Go.RowKit Go.Lib

/-- of one line, at the byte f: m: does a Must end it? -/
structure LineOk (s : ByteArray) (f : Nat) (c : ByteArray) (m : Bool) : Prop where
  le : f + c.size ≤ s.size
  tx : s.extract f (f + c.size) = c
  sm : c.size ≤ 65536
  em : c.size = 0 → f = s.size
  wh : (whereN c).length ≤ c.size
  no : ∀ i, i + 1 < (whereN c).length → ∃ v, (whereN c)[i]? = some v ∧ v ≠ 2
  la : (0 < (whereN c).length ∧ (whereN c)[(whereN c).length - 1]? = some 2) ↔ m = true
  li : linesN c = if m = true then [(0, c), (c.size, ByteArray.empty)] else [(0, c)]
  bo : isB s ((f + c.size : Nat) : Int)
theorem extract_size (s : ByteArray) (f e : Nat) (h : f ≤ e) (he : e ≤ s.size) : (s.extract f e).size = e - f ∧ f + (s.extract f e).size = e := by
  have h1 : (s.extract f e).size = e - f := by rw [ByteArray.size_extract]; omega
  exact ⟨h1, by omega⟩
theorem hbw_isB (s : ByteArray) (i p : Nat) (h : HBw s i p) : isB s (p : Int) := by
  obtain ⟨k, hk, _, rfl⟩ := h
  exact ⟨k, hk, rfl⟩
theorem pcs_len_size (s : ByteArray) : (pcs s).length ≤ s.size := pcs_len s
theorem whereN_len (s : ByteArray) : (whereN s).length = (pcs s).length := by unfold whereN; rw [whereF_len, List.length_map]
/-- a line between two borders -/
theorem line_ok (s : ByteArray) (j i f e : Nat) (hj : HBw s j f) (hi : HBw s i e) (hji : j < i) (hil : i ≤ (pcs s).length) (hfe : f < e) (h1 : e - f ≤ 65536) (h2 : NoMust s j (i - 1)) (x : Nat × ByteArray) (hx : (pcs s)[i - 1]? = some x) :
    LineOk s f (s.extract f e) (brkN x.2 == 2) := by
  have hes := hbw_le s i e hi
  obtain ⟨z1, z2⟩ := extract_size s f e (by omega) hes
  obtain ⟨w1, w2, w3⟩ := where_line s j i f e hj hi hji hil h2 x hx
  refine ⟨by omega, by rw [z2], by omega, fun h => by omega, ?_, fun k hk => ?_, ?_, ?_, ?_⟩
  · rw [whereN_len]; exact pcs_len_size _
  · rw [w1] at hk
    obtain ⟨v, hv⟩ : ∃ v, (whereN (s.extract f e))[k]? = some v := ⟨_, List.getElem?_eq_getElem (by omega)⟩
    exact ⟨v, hv, fun e' => w2 k hk (by rw [hv, e'])⟩
  · rw [w1, w3, beq_iff_eq]
    exact ⟨fun h => h.2, fun h => ⟨by omega, h⟩⟩
  · have := line_alone s j i f e hj hi hji hil h1 h2 x hx
    rw [this]
    by_cases hb : brkN x.2 = 2 <;> simp [hb]
  · rw [z2]; exact hbw_isB s i e hi
theorem hbw_size (s : ByteArray) : HBw s (pcs s).length s.size := by
  rcases Nat.eq_zero_or_pos (pcs s).length with h | h
  · have h0 := hbw_zero s
    have h1 : HBw s (pcs s).length 0 := by rw [h]; exact h0
    have := hbw_end s 0 h1
    rw [← this]; exact h1
  · obtain ⟨y, hy⟩ : ∃ y, (pcs s)[(pcs s).length - 1]? = some y := ⟨_, List.getElem?_eq_getElem (by omega)⟩
    have hn := (hbw_next s _ y hy).2
    rw [show (pcs s).length - 1 + 1 = (pcs s).length by omega, pcs_lastend s y hy] at hn
    exact hn
/-- the empty one at the end -/
theorem line_empty (s : ByteArray) : LineOk s s.size ByteArray.empty false := by
  have hp : pcs ByteArray.empty = [] := List.eq_nil_of_length_eq_zero (by have := pcs_len_size ByteArray.empty; have e : ByteArray.size ByteArray.empty = 0 := rfl; omega)
  have hw : whereN ByteArray.empty = [] := List.eq_nil_of_length_eq_zero (by rw [whereN_len, hp]; rfl)
  have hz := hbw_size s
  refine ⟨by simp, ?_, by simp, fun _ => rfl, by rw [hw]; simp, fun i h => by rw [hw] at h; simp at h, by rw [hw]; simp, ?_, ?_⟩
  · have e : ByteArray.size ByteArray.empty = 0 := rfl
    rw [e, Nat.add_zero]
    apply ByteArray.ext
    simp
  · unfold linesN
    rw [hp]
    rfl
  · exact hbw_isB s _ _ (by simpa using hz)
/-- the lines, one behind the other -/
def ChainL (s : ByteArray) : Nat → List (Nat × ByteArray) → Prop
  | _, [] => False
  | f, [x] => x.1 = f ∧ LineOk s f x.2 false ∧ f + x.2.size = s.size
  | f, x :: y :: t => x.1 = f ∧ (∃ m, LineOk s f x.2 m ∧ 0 < x.2.size) ∧ ChainL s (f + x.2.size) (y :: t)
theorem chain_good (s : ByteArray) : ∀ (L : List (Nat × ByteArray)) (j f : Nat), GoodL s j f L → ChainL s f L
  | [], _, _, h => h.elim
  | [(a, c)], j, f, h => by
    obtain ⟨rfl, rfl, hf, h1, hj, hjl, hno⟩ := h
    rcases Nat.lt_or_ge j (pcs s).length with hlt | hge
    · obtain ⟨y, hy⟩ : ∃ y, (pcs s)[(pcs s).length - 1]? = some y := ⟨_, List.getElem?_eq_getElem (by omega)⟩
      have hy2 : brkN y.2 ≠ 2 := hno ((pcs s).length - 1) (by omega) (by omega) y hy
      have hfe : a < s.size := by
        obtain ⟨x0, hx0⟩ : ∃ x0, (pcs s)[j]? = some x0 := ⟨_, List.getElem?_eq_getElem hlt⟩
        have e := hbw_at s j a x0 hj hx0
        have := pcs_chain s j x0 hx0
        omega
      have ok := line_ok s j (pcs s).length a s.size hj (hbw_size s) hlt (Nat.le_refl _) hfe h1 (fun k h3 h4 => hno k h3 (by omega)) y hy
      rw [show (brkN y.2 == 2) = false by simpa using hy2] at ok
      exact ⟨rfl, ok, (extract_size s a s.size hf (Nat.le_refl _)).2⟩
    · have e : j = (pcs s).length := by omega
      subst e
      have ef := hbw_end s a hj
      subst ef
      have hem : s.extract s.size s.size = ByteArray.empty := by
        apply ByteArray.ext
        simp
      show s.size = s.size ∧ LineOk s s.size (s.extract s.size s.size) false ∧ s.size + (s.extract s.size s.size).size = s.size
      rw [hem]
      exact ⟨rfl, line_empty s, by simp⟩
  | (a, c) :: y :: t, j, f, h => by
    obtain ⟨rfl, i, e, hj, hi, hji, hil, hfe, hcc, h1, h2, h3⟩ := h
    subst hcc
    obtain ⟨x, hx⟩ : ∃ x, (pcs s)[i - 1]? = some x := ⟨_, List.getElem?_eq_getElem (by omega)⟩
    obtain ⟨z1, z2⟩ := extract_size s a e (by omega) (hbw_le s i e hi)
    refine ⟨rfl, ⟨_, line_ok s j i a e hj hi hji hil hfe h1 h2 x hx, show 0 < (s.extract a e).size by omega⟩, ?_⟩
    show ChainL s (a + (s.extract a e).size) (y :: t)
    rw [z2]
    exact chain_good s (y :: t) i e h3
theorem lines_chain (s : ByteArray) : ChainL s 0 (linesN s) := chain_good s _ 0 0 (lines_good s)
/-- of the lines that were gone over: where the last one ended, and whether by a Must -/
def endL : List (Nat × ByteArray) → Nat
  | [] => 0
  | x :: t => if t.isEmpty then x.1 + x.2.size else endL t
theorem endL_snoc : ∀ (p : List (Nat × ByteArray)) (x : Nat × ByteArray), endL (p ++ [x]) = x.1 + x.2.size
  | [], x => rfl
  | y :: t, x => by
    rw [List.cons_append, endL]
    have : (t ++ [x]).isEmpty = false := by simp
    rw [this]
    exact endL_snoc t x
theorem chain_at (s : ByteArray) : ∀ (p : List (Nat × ByteArray)) (x : Nat × ByteArray) (t : List (Nat × ByteArray)) (f : Nat), ChainL s f (p ++ x :: t) → x.1 = (if p.isEmpty then f else endL p) ∧ (∃ m, LineOk s x.1 x.2 m) ∧ (t = [] → LineOk s x.1 x.2 false ∧ x.1 + x.2.size = s.size) ∧ (t ≠ [] → 0 < x.2.size)
  | [], x, [], f, h => by
    obtain ⟨rfl, h1, h2⟩ := h
    exact ⟨rfl, ⟨_, h1⟩, fun _ => ⟨h1, h2⟩, fun h => absurd rfl h⟩
  | [], x, y :: t, f, h => by
    obtain ⟨rfl, ⟨m, h1, h2⟩, _⟩ := h
    refine ⟨rfl, ⟨m, h1⟩, ?_, fun _ => h2⟩
    intro h; simp at h
  | q :: p, x, t, f, h => by
    have hne : ∃ y r, p ++ x :: t = y :: r := by cases p with
      | nil => exact ⟨_, _, rfl⟩
      | cons y r => exact ⟨_, _, rfl⟩
    obtain ⟨y, r, e⟩ := hne
    have h' : ChainL s f (q :: y :: r) := by rw [← e]; exact h
    obtain ⟨rfl, _, h3⟩ := h'
    rw [← e] at h3
    have ih := chain_at s p x t _ h3
    refine ⟨?_, ih.2⟩
    rw [ih.1]
    simp only [List.isEmpty_cons, Bool.false_eq_true, if_false]
    rw [endL]
end Go.Proofs.YthkapcnhfdpdbaaDoor

/- Layer 13, the law BreaksWhole, over the program's contracts. -/
namespace Go.Proofs.YthkapcnhfdpdbaaDoor
open Go.RowKit Go.Shelf Go.Lib
attribute [local go_sem] Oper.semAt_some

/-- what lies in the law's boxes -/
structure WlS (w Wk : World) (s : ByteArray) (B E : Nat) (e n : Nat) (m : Bool) (W : World) : Prop where
  bs : Boxed W B 9 (.string s)
  br : Boxed W (B + 1) 4 (.bool false)
  be : Boxed W E 3 (.int .i64 (e : Int))
  bn : Boxed W (E + 1) 3 (.int .i64 (n : Int))
  bl : Boxed W (E + 1 + 1) 4 (.bool m)
  u8 : Utf8Tabs 0 1 W
  bel : Below B w W
  kee : Below E Wk W
section
variable {w Wk : World} {s : ByteArray} {B E e n : Nat} {m : Bool} {W W' : World}
theorem WlS.lt (h : WlS w Wk s B E e n m W) : E + 2 < W.heap.size := by have := h.bl.lt; omega
theorem WlS.below (h : WlS w Wk s B E e n m W) (hb : Below W.heap.size W W') (hBE : B + 1 < E) : WlS w Wk s B E e n m W' :=
  have := h.lt
  ⟨boxed_below h.bs hb, boxed_below h.br hb, boxed_below h.be hb, boxed_below h.bn hb, boxed_below h.bl hb, Utf8Tabs_below h.u8 hb, h.bel.trans (hb.mono (by omega)), h.kee.trans (hb.mono (by omega))⟩
theorem WlS.moves (h : WlS w Wk s B E e n m W) {b : Nat} {T : Bl} (hT : ∀ k, T k → b ≤ k) (hb : E + 2 < b) (hBE : B + 1 < E) (h2 : 0 < E ∧ 1 < E) (hm : Moves T W W') : WlS w Wk s B E e n m W' := by
  have hn : ∀ k, k < b → ¬ T k := fun k hk e => by have := hT _ e; omega
  have hl := h.lt
  have hbl : Below E W W' := ⟨hm.os, hm.tape, hm.output, hm.size, fun k hk => hm.block k (by omega) (hn _ (by omega))⟩
  refine ⟨(hm.block _ h.bs.lt (hn _ (by omega))).trans h.bs, (hm.block _ h.br.lt (hn _ (by omega))).trans h.br, (hm.block _ h.be.lt (hn _ (by omega))).trans h.be, (hm.block _ h.bn.lt (hn _ (by omega))).trans h.bn, (hm.block _ h.bl.lt (hn _ (by omega))).trans h.bl,
    (KeepN.u8 (N₀ := fun k => k < E) (T := fun _ => False) ⟨hm.size, fun k hk hn' => hm.block k hk (hn _ (by rcases hn' with h | h; exact Nat.lt_of_lt_of_le h (by omega); exact h.elim))⟩ (.inl h2.1) (.inl h2.2) h.u8), h.bel.trans (hbl.mono (by omega)), h.kee.trans hbl⟩
theorem u8_set {W : World} {E b : Nat} (h2 : 0 < E ∧ 1 < E) (hb : E ≤ b) (v : Value) (h : Utf8Tabs 0 1 W) : Utf8Tabs 0 1 (W.setCell ⟨b, 0, none⟩ v) :=
  KeepN.u8 (N₀ := fun k => k < E) (T := fun _ => False) (KeepN.setCell _ _ _ _ _ _ (by omega) (fun e => e)) (.inl h2.1) (.inl h2.2) h
theorem WlS.setE (h : WlS w Wk s B E e n m W) (hBE : B + 1 < E) (h2 : 0 < E ∧ 1 < E) (e' : Nat) : WlS w Wk s B E e' n m (W.setCell ⟨E, 0, none⟩ (.int .i64 (e' : Int))) :=
  ⟨h.bs.other (by omega) _, h.br.other (by omega) _, h.be.set _, h.bn.other (by omega) _, h.bl.other (by omega) _, u8_set h2 (Nat.le_refl _) _ h.u8, h.bel.setCell (p := ⟨E, 0, none⟩) (show B ≤ E by omega) _, h.kee.setCell (p := ⟨E, 0, none⟩) (Nat.le_refl _) _⟩
theorem WlS.setN (h : WlS w Wk s B E e n m W) (hBE : B + 1 < E) (h2 : 0 < E ∧ 1 < E) (n' : Nat) : WlS w Wk s B E e n' m (W.setCell ⟨E + 1, 0, none⟩ (.int .i64 (n' : Int))) :=
  ⟨h.bs.other (by omega) _, h.br.other (by omega) _, h.be.other (by omega) _, h.bn.set _, h.bl.other (by omega) _, u8_set h2 (by omega) _ h.u8, h.bel.setCell (p := ⟨E + 1, 0, none⟩) (show B ≤ E + 1 by omega) _, h.kee.setCell (p := ⟨E + 1, 0, none⟩) (show E ≤ E + 1 by omega) _⟩
theorem WlS.setL (h : WlS w Wk s B E e n m W) (hBE : B + 1 < E) (h2 : 0 < E ∧ 1 < E) (m' : Bool) : WlS w Wk s B E e n m' (W.setCell ⟨E + 1 + 1, 0, none⟩ (.bool m')) :=
  ⟨h.bs.other (by omega) _, h.br.other (by omega) _, h.be.other (by omega) _, h.bn.other (by omega) _, h.bl.set _, u8_set h2 (by omega) _ h.u8, h.bel.setCell (p := ⟨E + 1 + 1, 0, none⟩) (show B ≤ E + 1 + 1 by omega) _, h.kee.setCell (p := ⟨E + 1 + 1, 0, none⟩) (show E ≤ E + 1 + 1 by omega) _⟩
end
/-- what was told of the lines that were gone over -/
def LastM (s : ByteArray) (pre : List (Nat × ByteArray)) (m : Bool) : Prop := (pre = [] → m = false) ∧ ∀ p x, pre = p ++ [x] → LineOk s x.1 x.2 m
theorem lineOk_one {s : ByteArray} {f : Nat} {c : ByteArray} {m m' : Bool} (h : LineOk s f c m) (h' : LineOk s f c m') : m = m' := by
  have a := h.la
  have b := h'.la
  cases m <;> cases m' <;> simp_all
theorem whN_cell {W : World} {B n : Nat} {A : Option Addr} {l : List Nat} (h : Rd W B 1 A n (whV l)) {i : Nat} {v : Nat} (hv : l[i]? = some v) : ∃ a, A = some a ∧ W.cell? (a.add i) = some (.int .i8 (v : Int)) := by
  have hi := (List.getElem?_eq_some_iff.1 hv).1
  have hl := h.1
  unfold whV at hl
  rw [List.length_map] at hl
  obtain ⟨a, rfl, _, hc⟩ := h.addr (by omega)
  exact ⟨a, rfl, hc i _ (by unfold whV; rw [List.getElem?_map, hv]; rfl)⟩
theorem one13_any (gf : Nat) (lb : Array Value) (s : ByteArray) (f : Nat) (c : ByteArray) (m : Bool) (ok : LineOk s f c m) (w : World)
    (hgf : ∀ args w, (callFunc gf args).run Tryd.prog w = .ok (.enter gf args) w)
    (hseq : ∀ W, Below w.heap.size w W → SeqN Fence.wide 8 Tryd.prog gf lb encCl (fun ys => ys = linesN c) (fun pre => pre <+: linesN c) (linesN c).length (fun k => k < w.heap.size) W) :
    Calls Tryd.prog 17 #[.func (.func gf) #[] lb, .string c, .bool m] w fun e w' => e = .returned (.bool true) ∧ Below w.heap.size w w' := by
  have hc : c.size ≤ 1073741824 := by have := ok.sm; omega
  rw [ok.li] at hseq
  cases m with
  | false => exact one13_false gf lb c w hc hgf hseq
  | true => exact one13_true gf lb c w hc hgf hseq
set_option maxRecDepth 100000 in
set_option maxHeartbeats 16000000 in
theorem breaksWhole_any (H : BreakP) (s : ByteArray) (w : World) (hs : s.size ≤ 140737488351232) (hT : Utf8Tabs 0 1 w) :
    Calls Tryd.prog 6 #[.string s] w fun e w' => e = .returned (.bool true) ∧ Below w.heap.size w w' := by
  have HAl := Lib.hid (fun W hT => H.lines s W hs hT)
  have HWk := Lib.hid (fun W hT => wakes13_any H W hT)
  have HIs := Lib.hid (fun (q : Int) W hT => is_any s q W (by omega) hT)
  have HLc := Lib.hid (fun (c : ByteArray) W (hc : c.size ≤ 65536) hT => H.lines c W (by omega) hT)
  have HWh := Lib.hid (fun (c : ByteArray) W (hc : c.size ≤ 65536) hT => H.where_ c W (by omega) hT)
  unfold LinesW at HAl
  have hch := lines_chain s
  have hcl := linesF_len s (pcs s) 0
  have hpl := pcs_len s
  have hLn : (linesN s).length ≤ 281474976702465 := by unfold linesN; omega
  have Hs := Lib.hid (show ∀ pre x t, linesN s = pre ++ x :: t → x.1 = endL pre ∧ (∃ m, LineOk s x.1 x.2 m) ∧ (t = [] → LineOk s x.1 x.2 false ∧ x.1 + x.2.size = s.size) from fun pre x t e => by
    have h := hch
    rw [e] at h
    have := chain_at s pre x t 0 h
    refine ⟨?_, this.2.1, this.2.2.1⟩
    rw [this.1]
    cases pre with
    | nil => rfl
    | cons y r => rfl)
  have Hne := Lib.hid (show linesN s ≠ [] from linesF_ne s _ _)
  obtain ⟨L, hLe⟩ : ∃ L, linesN s = L := ⟨_, rfl⟩
  rw [hLe] at HAl Hs Hne hLn
  obtain ⟨B, hB⟩ : ∃ B, w.heap.size = B := ⟨_, rfl⟩
  have h2 := tabs_size hT
  have HT := Lib.hid hT
  rw [hB] at h2 ⊢
  clear hLe hT hch hcl hpl
  refine (callsIn_wide (n := 9)).1 ?_
  refine callsIn_of_wp_marks Tryd.func6 rfl trivial ?_ rfl
  refine wpIn_wide.2 ?_
  simp only [Tryd.ntmps6, List.size_toArray, List.length_cons, List.length_nil, Nat.reduceAdd, Nat.reduceSub, Array.replicate_succ, Array.replicate_zero, List.push_toArray, List.append_toArray, List.nil_append, List.cons_append]
  obtain ⟨W0, hW0⟩ : ∃ W0, (w.alloc (.cells #[.string s] 9)).alloc (.cells #[.bool false] 4) = W0 := ⟨_, rfl⟩
  have hz0 : W0.heap.size = B + 2 := by rw [← hW0]; simp [hB]
  have s0 : Boxed W0 B 9 (.string s) := by rw [← hW0]; simp only [Boxed, alloc_get, World.size_alloc, hB]; rw [if_neg (by omega)]; simp
  have r0 : Boxed W0 (B + 1) 4 (.bool false) := by rw [← hW0]; simp only [Boxed, alloc_get, World.size_alloc, hB]; simp
  have b0 : Below B w W0 := by rw [← hW0]; exact ((Below.refl B w).alloc (by omega) _).alloc (by simp; omega) _
  have HT0 := Lib.hid (Utf8Tabs_below HT.out (by rw [hB]; exact b0))
  have c0 := s0.cell
  go_wp2_with fail
  try rw [hW0]
  clear hW0 c0
  refine (HAl.out W0 HT0.out).mono ?_
  rintro _ Wk ⟨gf, lb, rfl, b3, hgf, hnil, hseq⟩
  rw [hz0] at b3 hseq
  have hz3 : B + 2 ≤ Wk.heap.size := by have := b3.size; omega
  have s3 : Boxed Wk B 9 (.string s) := (b3.block B (by omega)).trans s0
  have r3 : Boxed Wk (B + 1) 4 (.bool false) := (b3.block (B + 1) (by omega)).trans r0
  have t3 := Utf8Tabs_below HT0.out (by rw [hz0]; exact b3)
  have B3 := b0.trans (b3.mono (by omega))
  obtain ⟨E, hE⟩ : ∃ E, Wk.heap.size = E := ⟨_, rfl⟩
  rw [hE] at hz3 hseq
  have hE2 : 0 < E ∧ 1 < E := ⟨by omega, by omega⟩
  have hBE : B + 1 < E := by omega
  obtain ⟨Wa, hWa⟩ : ∃ Wa, ((Wk.alloc (.cells #[.int .i64 0] 3)).alloc (.cells #[.int .i64 0] 3)).alloc (.cells #[.bool false] 4) = Wa := ⟨_, rfl⟩
  have hza : Wa.heap.size = E + 3 := by rw [← hWa]; simp [hE]
  have ba : Below E Wk Wa := by rw [← hWa]; exact (((Below.refl E Wk).alloc (by omega) _).alloc (by simp; omega) _).alloc (by simp; omega) _
  have hS0 : WlS w Wk s B E 0 0 false Wa := by
    refine ⟨(ba.block B (by omega)).trans s3, (ba.block (B + 1) (by omega)).trans r3, ?_, ?_, ?_, Utf8Tabs_below t3 (by rw [hE]; exact ba), B3.trans (ba.mono (by omega)), ba⟩
    · rw [← hWa]; simp only [Boxed, alloc_get, World.size_alloc, hE]; rw [if_neg (by omega), if_neg (by omega)]; simp
    · rw [← hWa]; simp only [Boxed, alloc_get, World.size_alloc, hE]; simp; try omega
    · rw [← hWa]; simp only [Boxed, alloc_get, World.size_alloc, hE]; simp
  have HQ := Lib.hid (hseq (fun k => k < E) Wa (by omega) (by omega) (fun k _ h => h) ⟨by omega, fun k hk _ => ba.block k (by omega)⟩)
  have HWa := Lib.hid hWa
  clear hseq b3 s3 r3 t3 B3 ba s0 r0 b0 HT0 HAl HT hWa
  go_wp2_with fail
  rw [HWa.out]
  refine (wpIn_wide (n := 9)).1 ?_
  refine range_N1 rfl (by omega) (gf := gf) (lb := lb) rfl trivial hgf HQ.out (fun k hk => by omega) (fun _ => rfl)
    (fun pre T W => ∃ m, WlS w Wk s B E (endL pre) pre.length m W ∧ LastM s pre m)
    (fun _ _ _ _ => False)
    ?hI (fun _ _ _ _ _ _ h _ _ _ => h)
    ⟨false, hS0, fun _ => rfl, fun p x e => by simp at e⟩
    ?a1 ?assign ?body ?done ?stop
  case assign =>
    intro l x W K hK
    gi_wp2
    exact hK
  case stop =>
    rintro D c pre T W _ _ _ h _
    exact h.elim
  case hI =>
    rintro pre T T' W1 W2 ⟨m, h, hl⟩ hT hm hg
    exact ⟨m, h.moves (fun k hk => (hT k hk).1) (by omega) hBE hE2 hm, hl⟩
  case body =>
    rintro l pre x T W hl hT hr ⟨m, h, hlm⟩ hlen hsp
    obtain ⟨t, ht⟩ := hsp
    rw [List.append_assoc, List.singleton_append] at ht
    obtain ⟨hx1, ⟨m', ok⟩, hlast⟩ := Hs.out pre x t ht.symm
    obtain ⟨f, c⟩ := x
    dsimp only at hx1 ok hlast
    rw [← hx1] at h
    have hle := ok.le
    have hsm := ok.sm
    have hfin : ∀ W8, WlS w Wk s B E (f + c.size) (pre.length + 1) m' W8 → ∃ m, WlS w Wk s B E (endL (pre ++ [(f, c)])) (pre ++ [(f, c)]).length m W8 ∧ LastM s (pre ++ [(f, c)]) m := fun W8 h8 => by
      refine ⟨m', ?_, fun e => by simp at e, fun p x e => ?_⟩
      · rw [endL_snoc]
        simpa using h8
      · obtain ⟨_, e2⟩ := List.append_inj' e rfl
        injection e2 with e2
        subst e2
        exact ok
    have Hfin := Lib.hid hfin
    have hpre : pre = [] → m = false := hlm.1
    have hnT : ∀ k, k < Wa.heap.size → ¬ T k := fun k hk e => by have := (hT _ e).1; omega
    have HnT := Lib.hid hnT
    have Ok := Lib.hid ok
    have hpl := Lib.hid (show pre.length ≤ 281474976702465 by omega)
    obtain ⟨n, hn⟩ : ∃ n, pre.length = n := ⟨_, rfl⟩
    rw [hn] at h Hfin hpl
    have hn0 : n = 0 → m = false := fun e => hpre (List.eq_nil_of_length_eq_zero (by omega))
    have Hem := Lib.hid ok.em
    clear hfin hnT hpre hlm hlast hx1 ht ok hlen hn
    have H0 := Lib.hid h
    have c1 := h.bs.cell
    have c2 := h.be.cell
    have c3 := h.bn.cell
    have c4 := h.bl.cell
    clear h
    have hsl := Ok.out.tx
    obtain ⟨e, he⟩ : ∃ e, f + c.size = e := ⟨_, rfl⟩
    rw [he] at hle hsl Hfin
    have hadd : IntKind.i64.wrap ((f : Int) + (c.size : Int)) = (e : Int) := by rw [IntWalk.i64_in _ (by omega)]; omega
    have hff : ((f : Int) != (f : Int)) = false := by simp
    have hff2 : (f != f) = false := by simp
    have hgt : ¬ ((s.size : Int) < (e : Int)) := by omega
    have hf0 : (0 : Int) ≤ (f : Int) := by omega
    have hfe : (f : Int) ≤ (e : Int) := by omega
    have hes : (e : Int) ≤ (s.size : Int) := by omega
    have hbig : ¬ ((65536 : Int) < (c.size : Int)) := by omega
    have hcc : (c.toList != c.toList) = false := by simp
    have HE := Lib.hid he
    clear he
    by_cases hpos : n = 0
    · have hm := hn0 hpos
      subst hpos
      subst hm
      gi_wp2_with fail
      refine ⟨trivial, (CallsIn.inRound l (callsIn_wide.2 (HWh.out c W hsm H0.out.u8))).mono ?_⟩
      rintro _ u1 ⟨A1, k1, rfl, o1, b1⟩
      have H1 := Lib.hid (H0.out.below b1 hBE)
      have hlW := H0.out.lt
      have R1 := Lib.hid (show ∀ (i v : Nat), (whereN c)[i]? = some v → ∃ g, A1 = some ⟨g, 0, none⟩ ∧ E + 2 < g ∧ u1.cell? ⟨g, i, none⟩ = some (.int .i8 (v : Int)) from fun i v hv => by
        have hi := (List.getElem?_eq_some_iff.1 hv).1
        obtain ⟨g, cap, he1, _, _⟩ := o1.form (by omega)
        injection he1 with hA
        subst hA
        have hg := (o1.lt g rfl).1
        refine ⟨g, rfl, by omega, ?_⟩
        rw [o1.cellAt i (by rw [Nat.mul_one]; exact hi)]
        unfold whV
        rw [List.getElem?_map, hv]
        rfl)
      have K1 := Lib.hid (show KeepN (fun k => k < E) T W u1 from KeepN.of_below _ T b1)
      clear b1 o1 c1 c2 c3 c4
      have c4 := H1.out.bl.cell
      have c4f := H1.out.bl.frozen
      have Hno := Ok.out.no
      have Hla := Ok.out.la
      obtain ⟨q, hq⟩ : ∃ q, (whereN c).length = q := ⟨_, rfl⟩
      rw [hq] at Hla ⊢
      have hqs : q ≤ 65536 := by have := Ok.out.wh; omega
      have Hq := Lib.hid hq
      clear hq Hno
      rcases Nat.eq_zero_or_pos q with hq0 | hq0
      · have hm' : m' = false := by
          cases m'
          · rfl
          · have := (Hla.2 rfl).1
            omega
        subst hm'
        subst hq0
        clear Hla
        obtain ⟨u2, hu2⟩ : ∃ u2, u1.setCell ⟨E + 1 + 1, 0, none⟩ (.bool false) = u2 := ⟨_, rfl⟩
        have H2 := Lib.hid (show WlS w Wk s B E f 0 false u2 from by rw [← hu2]; exact H1.out.setL hBE hE2 false)
        have K2 := Lib.hid (show KeepN (fun k => k < E) T W u2 from by rw [← hu2]; exact K1.out.trans (KeepN.setCell _ _ _ _ _ _ (by omega) (HnT.out _ (by omega))))

        gi_wp2_with fail
        clear hu2 c4 c4f
        gi_loopw [10] (fun y wr => wr = u2 ∧ ∃ j : Nat, y = .int .i64 (j : Int) ∧ j ≤ 0) (fun y _ => 0 - (RowKit.intOf y).toNat)
        case atStart => exact ⟨rfl, 0, rfl, Nat.zero_le _⟩
        case round =>
          obtain ⟨hw, j, rfl, hj⟩ := hrel
          subst hw
          have hj1 : IntKind.i64.wrap ((j : Int) + 1) = (j : Int) + 1 := IntWalk.i64_in _ (by omega)
          by_cases hjq : j + 1 < 0
          · exact absurd hjq (by omega)
          · have hjl : ¬ ((j : Int) + 1 < (0 : Int)) := by omega
            have hrowc : True := trivial
            obtain ⟨u3, hu3⟩ : ∃ u3, wr.setCell ⟨E, 0, none⟩ (.int .i64 (e : Int)) = u3 := ⟨_, rfl⟩
            have H3 := Lib.hid (show WlS w Wk s B E e 0 false u3 from by rw [← hu3]; exact H2.out.setE hBE hE2 e)
            have K3 := Lib.hid (show KeepN (fun k => k < E) T W u3 from by rw [← hu3]; exact K2.out.trans (KeepN.setCell _ _ _ _ _ _ (by omega) (HnT.out _ (by omega))))
            have c1 := H3.out.bs.cell
            have d2 := H2.out.be.cell
            have d2f := H2.out.be.frozen
            have c2 := H3.out.be.cell
            have c2f := H3.out.be.frozen
            have c3 := H3.out.bn.cell
            have c4 := H3.out.bl.cell
            clear H2 K2 hrowc
            by_cases hlt : (e : Int) < (s.size : Int)
            · gi_wp2_with fail
              try any_goals (exfalso; first | (rename_i _ _ heq _; injection heq with e'; cases e'; done) | (rename_i heq _; injection heq with e'; cases e'; done) | (rename_i _ heq _; injection heq with e'; cases e'; done) | (rename_i heq; injection heq with e'; cases e'; done) | (rename_i _ heq; injection heq with e'; cases e'; done))
              refine ⟨trivial, (CallsIn.inRound l (callsIn_wide.2 (HIs.out (e : Int) u3 H3.out.u8))).mono ?_⟩
              rintro _ u4 ⟨⟨b, rfl, hbb⟩, b4⟩
              obtain rfl : b = true := hbb.2 (by have := Ok.out.bo; rw [HE.out] at this; exact this)
              have H4 := Lib.hid (H3.out.below b4 hBE)
              have K4 := Lib.hid (K3.out.trans (KeepN.of_below _ T b4))
              clear b4 hbb H3 K3 hu3 d2 d2f
              have c4 := H4.out.bl.cell
              gi_wp2_with fail
              try any_goals (exfalso; first | (rename_i _ _ heq _; injection heq with e'; cases e'; done) | (rename_i heq _; injection heq with e'; cases e'; done) | (rename_i _ heq _; injection heq with e'; cases e'; done) | (rename_i heq; injection heq with e'; cases e'; done) | (rename_i _ heq; injection heq with e'; cases e'; done))
              refine ⟨trivial, (CallsIn.inRound l (callsIn_wide.2 (HLc.out c u4 hsm H4.out.u8))).mono ?_⟩
              rintro _ u5 ⟨gf2, lb2, rfl, b5, hgf2, hnil2, hseq2⟩
              have H5 := Lib.hid (H4.out.below b5 hBE)
              have K5 := Lib.hid (K4.out.trans (KeepN.of_below _ T b5))
              have HOn := Lib.hid (one13_any gf2 lb2 s f c false Ok.out u5 hgf2 (fun W' h' => by
                have h51 := H5.out.lt
                have h52 := h'.size
                exact hseq2 (fun k => k < u5.heap.size) W' (by show _ < _; omega) (by show _ < _; omega) (fun k _ h => h) ⟨h52, fun k hk _ => h'.block k hk⟩))
              have c4 := H5.out.bl.cell
              clear b5 hseq2 H4 K4 c2 c3 c1 c2f
              gi_wp2_with fail
              try any_goals (exfalso; first | (rename_i _ _ heq _; injection heq with e'; cases e'; done) | (rename_i heq _; injection heq with e'; cases e'; done) | (rename_i _ heq _; injection heq with e'; cases e'; done) | (rename_i heq; injection heq with e'; cases e'; done) | (rename_i _ heq; injection heq with e'; cases e'; done))
              refine ⟨trivial, (CallsIn.inRound l (callsIn_wide.2 HOn.out)).mono ?_⟩
              rintro _ u6 ⟨rfl, b6⟩
              have H6 := Lib.hid (H5.out.below b6 hBE)
              have K6 := Lib.hid (K5.out.trans (KeepN.of_below _ T b6))
              have c3 := H6.out.bn.cell
              have c3f := H6.out.bn.frozen

              have HZ := Lib.hid (show KeepN (fun k => k < E) T W (u6.setCell ⟨E + 1, 0, none⟩ (.int .i64 ((0 + 1 : Nat) : Int))) ∧ _ from ⟨K6.out.trans (KeepN.setCell _ _ _ _ _ _ (by omega) (HnT.out _ (by omega))), Hfin.out _ (H6.out.setN hBE hE2 (0 + 1))⟩)
              clear b6 HOn H5 K5 c4 hnil2 hgf2
              gi_wp2
              exact HZ.out
            · gi_wp2_with fail
              try any_goals (exfalso; first | (rename_i _ _ heq _; injection heq with e'; cases e'; done) | (rename_i heq _; injection heq with e'; cases e'; done) | (rename_i _ heq _; injection heq with e'; cases e'; done) | (rename_i heq; injection heq with e'; cases e'; done) | (rename_i _ heq; injection heq with e'; cases e'; done))
              try (refine ⟨trivial, ?_⟩; gi_wp2_with fail)
              try any_goals (exfalso; first | (rename_i _ _ heq _; injection heq with e'; cases e'; done) | (rename_i heq _; injection heq with e'; cases e'; done) | (rename_i _ heq _; injection heq with e'; cases e'; done) | (rename_i heq; injection heq with e'; cases e'; done) | (rename_i _ heq; injection heq with e'; cases e'; done))
              have H4 := H3
              have K4 := K3
              clear hu3 d2 d2f
              refine ⟨trivial, (CallsIn.inRound l (callsIn_wide.2 (HLc.out c u3 hsm H4.out.u8))).mono ?_⟩
              rintro _ u5 ⟨gf2, lb2, rfl, b5, hgf2, hnil2, hseq2⟩
              have H5 := Lib.hid (H4.out.below b5 hBE)
              have K5 := Lib.hid (K4.out.trans (KeepN.of_below _ T b5))
              have HOn := Lib.hid (one13_any gf2 lb2 s f c false Ok.out u5 hgf2 (fun W' h' => by
                have h51 := H5.out.lt
                have h52 := h'.size
                exact hseq2 (fun k => k < u5.heap.size) W' (by show _ < _; omega) (by show _ < _; omega) (fun k _ h => h) ⟨h52, fun k hk _ => h'.block k hk⟩))
              have c4 := H5.out.bl.cell
              clear b5 hseq2 H4 K4 c2 c3 c1 c2f
              gi_wp2_with fail
              try any_goals (exfalso; first | (rename_i _ _ heq _; injection heq with e'; cases e'; done) | (rename_i heq _; injection heq with e'; cases e'; done) | (rename_i _ heq _; injection heq with e'; cases e'; done) | (rename_i heq; injection heq with e'; cases e'; done) | (rename_i _ heq; injection heq with e'; cases e'; done))
              refine ⟨trivial, (CallsIn.inRound l (callsIn_wide.2 HOn.out)).mono ?_⟩
              rintro _ u6 ⟨rfl, b6⟩
              have H6 := Lib.hid (H5.out.below b6 hBE)
              have K6 := Lib.hid (K5.out.trans (KeepN.of_below _ T b6))
              have c3 := H6.out.bn.cell
              have c3f := H6.out.bn.frozen

              have HZ := Lib.hid (show KeepN (fun k => k < E) T W (u6.setCell ⟨E + 1, 0, none⟩ (.int .i64 ((0 + 1 : Nat) : Int))) ∧ _ from ⟨K6.out.trans (KeepN.setCell _ _ _ _ _ _ (by omega) (HnT.out _ (by omega))), Hfin.out _ (H6.out.setN hBE hE2 (0 + 1))⟩)
              clear b6 HOn H5 K5 c4 hnil2 hgf2
              gi_wp2
              exact HZ.out
      · obtain ⟨p, hp⟩ : ∃ p, p + 1 = q := ⟨q - 1, by omega⟩
        obtain ⟨v, hv⟩ : ∃ v, (whereN c)[q - 1]? = some v := ⟨_, List.getElem?_eq_getElem (by rw [Hq.out]; omega)⟩
        obtain ⟨g, hg, hgE, hrowc⟩ := R1.out _ v hv
        subst hg
        rw [show q - 1 = p by omega] at hv hrowc Hla
        rw [hv] at Hla
        have hsub : IntKind.i64.wrap ((q : Int) - 1) = (p : Int) := by rw [IntWalk.i64_in _ (by omega)]; omega
        have hp0 : (0 : Int) ≤ (p : Int) := by omega
        have hpq : (p : Int) < (q : Int) := by omega
        have hq0i : (0 : Int) < (q : Int) := by omega
        clear hv
        by_cases hv2 : v = 2
        · subst hv2
          have hm' : m' = true := Hla.1 ⟨hq0, rfl⟩
          subst hm'
          clear Hla
          obtain ⟨u2, hu2⟩ : ∃ u2, u1.setCell ⟨E + 1 + 1, 0, none⟩ (.bool true) = u2 := ⟨_, rfl⟩
          have H2 := Lib.hid (show WlS w Wk s B E f 0 true u2 from by rw [← hu2]; exact H1.out.setL hBE hE2 true)
          have K2 := Lib.hid (show KeepN (fun k => k < E) T W u2 from by rw [← hu2]; exact K1.out.trans (KeepN.setCell _ _ _ _ _ _ (by omega) (HnT.out _ (by omega))))
          have R2 := Lib.hid (show ∀ (i v : Nat), (whereN c)[i]? = some v → u2.cell? ⟨g, i, none⟩ = some (.int .i8 (v : Int)) from fun i v hv => by
            obtain ⟨g', hg1, hg2, hg3⟩ := R1.out i v hv
            injection hg1 with hg1
            injection hg1 with hg1
            subst hg1
            rw [← hu2, World.cell?_of_block (Below.heap_setCell _ _ _ g (by show g ≠ E + 1 + 1; omega))]
            exact hg3)
          gi_wp2_with fail
          clear hu2 c4 c4f
          gi_loopw [10] (fun y wr => wr = u2 ∧ ∃ j : Nat, y = .int .i64 (j : Int) ∧ j ≤ q) (fun y _ => q - (RowKit.intOf y).toNat)
          case atStart => exact ⟨rfl, 0, rfl, Nat.zero_le _⟩
          case round =>
            obtain ⟨hw, j, rfl, hj⟩ := hrel
            subst hw
            have hj1 : IntKind.i64.wrap ((j : Int) + 1) = (j : Int) + 1 := IntWalk.i64_in _ (by omega)
            by_cases hjq : j + 1 < q
            · obtain ⟨v, hv, hv2⟩ := Ok.out.no j (by rw [Hq.out]; exact hjq)
              have hrowc := R2.out j v hv
              have hv3 : ((v : Int) == 2) = false := by simp; omega
              have hjl : (j : Int) + 1 < (q : Int) := by omega
              have hjl2 : (j : Int) < (q : Int) := by omega
              have hj0 : (0 : Int) ≤ (j : Int) := by omega
              gi_wp2
              go_roundw
              case rel => exact ⟨trivial, j + 1, by first | rfl | go_num, by omega⟩
              case measure => simp [RowKit.intOf]; omega
            · have hjl : ¬ ((j : Int) + 1 < (q : Int)) := by omega
              have hrowc : True := trivial
              obtain ⟨u3, hu3⟩ : ∃ u3, wr.setCell ⟨E, 0, none⟩ (.int .i64 (e : Int)) = u3 := ⟨_, rfl⟩
              have H3 := Lib.hid (show WlS w Wk s B E e 0 true u3 from by rw [← hu3]; exact H2.out.setE hBE hE2 e)
              have K3 := Lib.hid (show KeepN (fun k => k < E) T W u3 from by rw [← hu3]; exact K2.out.trans (KeepN.setCell _ _ _ _ _ _ (by omega) (HnT.out _ (by omega))))
              have c1 := H3.out.bs.cell
              have d2 := H2.out.be.cell
              have d2f := H2.out.be.frozen
              have c2 := H3.out.be.cell
              have c2f := H3.out.be.frozen
              have c3 := H3.out.bn.cell
              have c4 := H3.out.bl.cell
              clear H2 K2 hrowc
              by_cases hlt : (e : Int) < (s.size : Int)
              · gi_wp2_with fail
                try any_goals (exfalso; first | (rename_i _ _ heq _; injection heq with e'; cases e'; done) | (rename_i heq _; injection heq with e'; cases e'; done) | (rename_i _ heq _; injection heq with e'; cases e'; done) | (rename_i heq; injection heq with e'; cases e'; done) | (rename_i _ heq; injection heq with e'; cases e'; done))
                try (refine ⟨trivial, ?_⟩; gi_wp2_with fail)
                try any_goals (exfalso; first | (rename_i _ _ heq _; injection heq with e'; cases e'; done) | (rename_i heq _; injection heq with e'; cases e'; done) | (rename_i _ heq _; injection heq with e'; cases e'; done) | (rename_i heq; injection heq with e'; cases e'; done) | (rename_i _ heq; injection heq with e'; cases e'; done))
                have H4 := H3
                have K4 := K3
                obtain ⟨u4, hu4⟩ : ∃ u4, u3 = u4 := ⟨_, rfl⟩
                subst hu4
                clear hu3 d2 d2f
                refine ⟨trivial, (CallsIn.inRound l (callsIn_wide.2 (HLc.out c u3 hsm H4.out.u8))).mono ?_⟩
                rintro _ u5 ⟨gf2, lb2, rfl, b5, hgf2, hnil2, hseq2⟩
                have H5 := Lib.hid (H4.out.below b5 hBE)
                have K5 := Lib.hid (K4.out.trans (KeepN.of_below _ T b5))
                have HOn := Lib.hid (one13_any gf2 lb2 s f c true Ok.out u5 hgf2 (fun W' h' => by
                  have h51 := H5.out.lt
                  have h52 := h'.size
                  exact hseq2 (fun k => k < u5.heap.size) W' (by show _ < _; omega) (by show _ < _; omega) (fun k _ h => h) ⟨h52, fun k hk _ => h'.block k hk⟩))
                have c4 := H5.out.bl.cell
                clear b5 hseq2 H4 K4 c2 c3 c1 c2f
                gi_wp2_with fail
                try any_goals (exfalso; first | (rename_i _ _ heq _; injection heq with e'; cases e'; done) | (rename_i heq _; injection heq with e'; cases e'; done) | (rename_i _ heq _; injection heq with e'; cases e'; done) | (rename_i heq; injection heq with e'; cases e'; done) | (rename_i _ heq; injection heq with e'; cases e'; done))
                refine ⟨trivial, (CallsIn.inRound l (callsIn_wide.2 HOn.out)).mono ?_⟩
                rintro _ u6 ⟨rfl, b6⟩
                have H6 := Lib.hid (H5.out.below b6 hBE)
                have K6 := Lib.hid (K5.out.trans (KeepN.of_below _ T b6))
                have c3 := H6.out.bn.cell
                have c3f := H6.out.bn.frozen

                have HZ := Lib.hid (show KeepN (fun k => k < E) T W (u6.setCell ⟨E + 1, 0, none⟩ (.int .i64 ((0 + 1 : Nat) : Int))) ∧ _ from ⟨K6.out.trans (KeepN.setCell _ _ _ _ _ _ (by omega) (HnT.out _ (by omega))), Hfin.out _ (H6.out.setN hBE hE2 (0 + 1))⟩)
                clear b6 HOn H5 K5 c4 hnil2 hgf2
                gi_wp2
                exact HZ.out
              · gi_wp2_with fail
                try any_goals (exfalso; first | (rename_i _ _ heq _; injection heq with e'; cases e'; done) | (rename_i heq _; injection heq with e'; cases e'; done) | (rename_i _ heq _; injection heq with e'; cases e'; done) | (rename_i heq; injection heq with e'; cases e'; done) | (rename_i _ heq; injection heq with e'; cases e'; done))
                try (refine ⟨trivial, ?_⟩; gi_wp2_with fail)
                try any_goals (exfalso; first | (rename_i _ _ heq _; injection heq with e'; cases e'; done) | (rename_i heq _; injection heq with e'; cases e'; done) | (rename_i _ heq _; injection heq with e'; cases e'; done) | (rename_i heq; injection heq with e'; cases e'; done) | (rename_i _ heq; injection heq with e'; cases e'; done))
                have H4 := H3
                have K4 := K3
                clear hu3 d2 d2f
                refine ⟨trivial, (CallsIn.inRound l (callsIn_wide.2 (HLc.out c u3 hsm H4.out.u8))).mono ?_⟩
                rintro _ u5 ⟨gf2, lb2, rfl, b5, hgf2, hnil2, hseq2⟩
                have H5 := Lib.hid (H4.out.below b5 hBE)
                have K5 := Lib.hid (K4.out.trans (KeepN.of_below _ T b5))
                have HOn := Lib.hid (one13_any gf2 lb2 s f c true Ok.out u5 hgf2 (fun W' h' => by
                  have h51 := H5.out.lt
                  have h52 := h'.size
                  exact hseq2 (fun k => k < u5.heap.size) W' (by show _ < _; omega) (by show _ < _; omega) (fun k _ h => h) ⟨h52, fun k hk _ => h'.block k hk⟩))
                have c4 := H5.out.bl.cell
                clear b5 hseq2 H4 K4 c2 c3 c1 c2f
                gi_wp2_with fail
                try any_goals (exfalso; first | (rename_i _ _ heq _; injection heq with e'; cases e'; done) | (rename_i heq _; injection heq with e'; cases e'; done) | (rename_i _ heq _; injection heq with e'; cases e'; done) | (rename_i heq; injection heq with e'; cases e'; done) | (rename_i _ heq; injection heq with e'; cases e'; done))
                refine ⟨trivial, (CallsIn.inRound l (callsIn_wide.2 HOn.out)).mono ?_⟩
                rintro _ u6 ⟨rfl, b6⟩
                have H6 := Lib.hid (H5.out.below b6 hBE)
                have K6 := Lib.hid (K5.out.trans (KeepN.of_below _ T b6))
                have c3 := H6.out.bn.cell
                have c3f := H6.out.bn.frozen

                have HZ := Lib.hid (show KeepN (fun k => k < E) T W (u6.setCell ⟨E + 1, 0, none⟩ (.int .i64 ((0 + 1 : Nat) : Int))) ∧ _ from ⟨K6.out.trans (KeepN.setCell _ _ _ _ _ _ (by omega) (HnT.out _ (by omega))), Hfin.out _ (H6.out.setN hBE hE2 (0 + 1))⟩)
                clear b6 HOn H5 K5 c4 hnil2 hgf2
                gi_wp2
                exact HZ.out
        · have hm' : m' = false := by
            cases m'
            · rfl
            · have := (Hla.2 rfl).2
              injection this with this
              exact absurd this hv2
          subst hm'
          have hv3 : ((v : Int) == 2) = false := by simp; omega
          clear Hla hv2
          obtain ⟨u2, hu2⟩ : ∃ u2, u1.setCell ⟨E + 1 + 1, 0, none⟩ (.bool false) = u2 := ⟨_, rfl⟩
          have H2 := Lib.hid (show WlS w Wk s B E f 0 false u2 from by rw [← hu2]; exact H1.out.setL hBE hE2 false)
          have K2 := Lib.hid (show KeepN (fun k => k < E) T W u2 from by rw [← hu2]; exact K1.out.trans (KeepN.setCell _ _ _ _ _ _ (by omega) (HnT.out _ (by omega))))
          have R2 := Lib.hid (show ∀ (i v : Nat), (whereN c)[i]? = some v → u2.cell? ⟨g, i, none⟩ = some (.int .i8 (v : Int)) from fun i v hv => by
            obtain ⟨g', hg1, hg2, hg3⟩ := R1.out i v hv
            injection hg1 with hg1
            injection hg1 with hg1
            subst hg1
            rw [← hu2, World.cell?_of_block (Below.heap_setCell _ _ _ g (by show g ≠ E + 1 + 1; omega))]
            exact hg3)
          gi_wp2_with fail
          clear hu2 c4 c4f
          gi_loopw [10] (fun y wr => wr = u2 ∧ ∃ j : Nat, y = .int .i64 (j : Int) ∧ j ≤ q) (fun y _ => q - (RowKit.intOf y).toNat)
          case atStart => exact ⟨rfl, 0, rfl, Nat.zero_le _⟩
          case round =>
            obtain ⟨hw, j, rfl, hj⟩ := hrel
            subst hw
            have hj1 : IntKind.i64.wrap ((j : Int) + 1) = (j : Int) + 1 := IntWalk.i64_in _ (by omega)
            by_cases hjq : j + 1 < q
            · obtain ⟨v, hv, hv2⟩ := Ok.out.no j (by rw [Hq.out]; exact hjq)
              have hrowc := R2.out j v hv
              have hv3 : ((v : Int) == 2) = false := by simp; omega
              have hjl : (j : Int) + 1 < (q : Int) := by omega
              have hjl2 : (j : Int) < (q : Int) := by omega
              have hj0 : (0 : Int) ≤ (j : Int) := by omega
              gi_wp2
              go_roundw
              case rel => exact ⟨trivial, j + 1, by first | rfl | go_num, by omega⟩
              case measure => simp [RowKit.intOf]; omega
            · have hjl : ¬ ((j : Int) + 1 < (q : Int)) := by omega
              have hrowc : True := trivial
              obtain ⟨u3, hu3⟩ : ∃ u3, wr.setCell ⟨E, 0, none⟩ (.int .i64 (e : Int)) = u3 := ⟨_, rfl⟩
              have H3 := Lib.hid (show WlS w Wk s B E e 0 false u3 from by rw [← hu3]; exact H2.out.setE hBE hE2 e)
              have K3 := Lib.hid (show KeepN (fun k => k < E) T W u3 from by rw [← hu3]; exact K2.out.trans (KeepN.setCell _ _ _ _ _ _ (by omega) (HnT.out _ (by omega))))
              have c1 := H3.out.bs.cell
              have d2 := H2.out.be.cell
              have d2f := H2.out.be.frozen
              have c2 := H3.out.be.cell
              have c2f := H3.out.be.frozen
              have c3 := H3.out.bn.cell
              have c4 := H3.out.bl.cell
              clear H2 K2 hrowc
              by_cases hlt : (e : Int) < (s.size : Int)
              · gi_wp2_with fail
                try any_goals (exfalso; first | (rename_i _ _ heq _; injection heq with e'; cases e'; done) | (rename_i heq _; injection heq with e'; cases e'; done) | (rename_i _ heq _; injection heq with e'; cases e'; done) | (rename_i heq; injection heq with e'; cases e'; done) | (rename_i _ heq; injection heq with e'; cases e'; done))
                refine ⟨trivial, (CallsIn.inRound l (callsIn_wide.2 (HIs.out (e : Int) u3 H3.out.u8))).mono ?_⟩
                rintro _ u4 ⟨⟨b, rfl, hbb⟩, b4⟩
                obtain rfl : b = true := hbb.2 (by have := Ok.out.bo; rw [HE.out] at this; exact this)
                have H4 := Lib.hid (H3.out.below b4 hBE)
                have K4 := Lib.hid (K3.out.trans (KeepN.of_below _ T b4))
                clear b4 hbb H3 K3 hu3 d2 d2f
                have c4 := H4.out.bl.cell
                gi_wp2_with fail
                try any_goals (exfalso; first | (rename_i _ _ heq _; injection heq with e'; cases e'; done) | (rename_i heq _; injection heq with e'; cases e'; done) | (rename_i _ heq _; injection heq with e'; cases e'; done) | (rename_i heq; injection heq with e'; cases e'; done) | (rename_i _ heq; injection heq with e'; cases e'; done))
                refine ⟨trivial, (CallsIn.inRound l (callsIn_wide.2 (HLc.out c u4 hsm H4.out.u8))).mono ?_⟩
                rintro _ u5 ⟨gf2, lb2, rfl, b5, hgf2, hnil2, hseq2⟩
                have H5 := Lib.hid (H4.out.below b5 hBE)
                have K5 := Lib.hid (K4.out.trans (KeepN.of_below _ T b5))
                have HOn := Lib.hid (one13_any gf2 lb2 s f c false Ok.out u5 hgf2 (fun W' h' => by
                  have h51 := H5.out.lt
                  have h52 := h'.size
                  exact hseq2 (fun k => k < u5.heap.size) W' (by show _ < _; omega) (by show _ < _; omega) (fun k _ h => h) ⟨h52, fun k hk _ => h'.block k hk⟩))
                have c4 := H5.out.bl.cell
                clear b5 hseq2 H4 K4 c2 c3 c1 c2f
                gi_wp2_with fail
                try any_goals (exfalso; first | (rename_i _ _ heq _; injection heq with e'; cases e'; done) | (rename_i heq _; injection heq with e'; cases e'; done) | (rename_i _ heq _; injection heq with e'; cases e'; done) | (rename_i heq; injection heq with e'; cases e'; done) | (rename_i _ heq; injection heq with e'; cases e'; done))
                refine ⟨trivial, (CallsIn.inRound l (callsIn_wide.2 HOn.out)).mono ?_⟩
                rintro _ u6 ⟨rfl, b6⟩
                have H6 := Lib.hid (H5.out.below b6 hBE)
                have K6 := Lib.hid (K5.out.trans (KeepN.of_below _ T b6))
                have c3 := H6.out.bn.cell
                have c3f := H6.out.bn.frozen

                have HZ := Lib.hid (show KeepN (fun k => k < E) T W (u6.setCell ⟨E + 1, 0, none⟩ (.int .i64 ((0 + 1 : Nat) : Int))) ∧ _ from ⟨K6.out.trans (KeepN.setCell _ _ _ _ _ _ (by omega) (HnT.out _ (by omega))), Hfin.out _ (H6.out.setN hBE hE2 (0 + 1))⟩)
                clear b6 HOn H5 K5 c4 hnil2 hgf2
                gi_wp2
                exact HZ.out
              · gi_wp2_with fail
                try any_goals (exfalso; first | (rename_i _ _ heq _; injection heq with e'; cases e'; done) | (rename_i heq _; injection heq with e'; cases e'; done) | (rename_i _ heq _; injection heq with e'; cases e'; done) | (rename_i heq; injection heq with e'; cases e'; done) | (rename_i _ heq; injection heq with e'; cases e'; done))
                try (refine ⟨trivial, ?_⟩; gi_wp2_with fail)
                try any_goals (exfalso; first | (rename_i _ _ heq _; injection heq with e'; cases e'; done) | (rename_i heq _; injection heq with e'; cases e'; done) | (rename_i _ heq _; injection heq with e'; cases e'; done) | (rename_i heq; injection heq with e'; cases e'; done) | (rename_i _ heq; injection heq with e'; cases e'; done))
                have H4 := H3
                have K4 := K3
                clear hu3 d2 d2f
                refine ⟨trivial, (CallsIn.inRound l (callsIn_wide.2 (HLc.out c u3 hsm H4.out.u8))).mono ?_⟩
                rintro _ u5 ⟨gf2, lb2, rfl, b5, hgf2, hnil2, hseq2⟩
                have H5 := Lib.hid (H4.out.below b5 hBE)
                have K5 := Lib.hid (K4.out.trans (KeepN.of_below _ T b5))
                have HOn := Lib.hid (one13_any gf2 lb2 s f c false Ok.out u5 hgf2 (fun W' h' => by
                  have h51 := H5.out.lt
                  have h52 := h'.size
                  exact hseq2 (fun k => k < u5.heap.size) W' (by show _ < _; omega) (by show _ < _; omega) (fun k _ h => h) ⟨h52, fun k hk _ => h'.block k hk⟩))
                have c4 := H5.out.bl.cell
                clear b5 hseq2 H4 K4 c2 c3 c1 c2f
                gi_wp2_with fail
                try any_goals (exfalso; first | (rename_i _ _ heq _; injection heq with e'; cases e'; done) | (rename_i heq _; injection heq with e'; cases e'; done) | (rename_i _ heq _; injection heq with e'; cases e'; done) | (rename_i heq; injection heq with e'; cases e'; done) | (rename_i _ heq; injection heq with e'; cases e'; done))
                refine ⟨trivial, (CallsIn.inRound l (callsIn_wide.2 HOn.out)).mono ?_⟩
                rintro _ u6 ⟨rfl, b6⟩
                have H6 := Lib.hid (H5.out.below b6 hBE)
                have K6 := Lib.hid (K5.out.trans (KeepN.of_below _ T b6))
                have c3 := H6.out.bn.cell
                have c3f := H6.out.bn.frozen

                have HZ := Lib.hid (show KeepN (fun k => k < E) T W (u6.setCell ⟨E + 1, 0, none⟩ (.int .i64 ((0 + 1 : Nat) : Int))) ∧ _ from ⟨K6.out.trans (KeepN.setCell _ _ _ _ _ _ (by omega) (HnT.out _ (by omega))), Hfin.out _ (H6.out.setN hBE hE2 (0 + 1))⟩)
                clear b6 HOn H5 K5 c4 hnil2 hgf2
                gi_wp2
                exact HZ.out
    have hposi : (0 : Int) < (n : Int) := by omega
    by_cases hmt : m = true
    · subst hmt
      gi_wp2_with fail
      refine ⟨trivial, (CallsIn.inRound l (callsIn_wide.2 (HWh.out c W hsm H0.out.u8))).mono ?_⟩
      rintro _ u1 ⟨A1, k1, rfl, o1, b1⟩
      have H1 := Lib.hid (H0.out.below b1 hBE)
      have hlW := H0.out.lt
      have R1 := Lib.hid (show ∀ (i v : Nat), (whereN c)[i]? = some v → ∃ g, A1 = some ⟨g, 0, none⟩ ∧ E + 2 < g ∧ u1.cell? ⟨g, i, none⟩ = some (.int .i8 (v : Int)) from fun i v hv => by
        have hi := (List.getElem?_eq_some_iff.1 hv).1
        obtain ⟨g, cap, he1, _, _⟩ := o1.form (by omega)
        injection he1 with hA
        subst hA
        have hg := (o1.lt g rfl).1
        refine ⟨g, rfl, by omega, ?_⟩
        rw [o1.cellAt i (by rw [Nat.mul_one]; exact hi)]
        unfold whV
        rw [List.getElem?_map, hv]
        rfl)
      have K1 := Lib.hid (show KeepN (fun k => k < E) T W u1 from KeepN.of_below _ T b1)
      clear b1 o1 c1 c2 c3 c4
      have c4 := H1.out.bl.cell
      have c4f := H1.out.bl.frozen
      have Hno := Ok.out.no
      have Hla := Ok.out.la
      obtain ⟨q, hq⟩ : ∃ q, (whereN c).length = q := ⟨_, rfl⟩
      rw [hq] at Hla ⊢
      have hqs : q ≤ 65536 := by have := Ok.out.wh; omega
      have Hq := Lib.hid hq
      clear hq Hno
      rcases Nat.eq_zero_or_pos q with hq0 | hq0
      · have hm' : m' = false := by
          cases m'
          · rfl
          · have := (Hla.2 rfl).1
            omega
        subst hm'
        subst hq0
        clear Hla
        obtain ⟨u2, hu2⟩ : ∃ u2, u1.setCell ⟨E + 1 + 1, 0, none⟩ (.bool false) = u2 := ⟨_, rfl⟩
        have H2 := Lib.hid (show WlS w Wk s B E f n false u2 from by rw [← hu2]; exact H1.out.setL hBE hE2 false)
        have K2 := Lib.hid (show KeepN (fun k => k < E) T W u2 from by rw [← hu2]; exact K1.out.trans (KeepN.setCell _ _ _ _ _ _ (by omega) (HnT.out _ (by omega))))

        gi_wp2_with fail
        clear hu2 c4 c4f
        gi_loopw [10] (fun y wr => wr = u2 ∧ ∃ j : Nat, y = .int .i64 (j : Int) ∧ j ≤ 0) (fun y _ => 0 - (RowKit.intOf y).toNat)
        case atStart => exact ⟨rfl, 0, rfl, Nat.zero_le _⟩
        case round =>
          obtain ⟨hw, j, rfl, hj⟩ := hrel
          subst hw
          have hj1 : IntKind.i64.wrap ((j : Int) + 1) = (j : Int) + 1 := IntWalk.i64_in _ (by omega)
          by_cases hjq : j + 1 < 0
          · exact absurd hjq (by omega)
          · have hjl : ¬ ((j : Int) + 1 < (0 : Int)) := by omega
            have hrowc : True := trivial
            obtain ⟨u3, hu3⟩ : ∃ u3, wr.setCell ⟨E, 0, none⟩ (.int .i64 (e : Int)) = u3 := ⟨_, rfl⟩
            have H3 := Lib.hid (show WlS w Wk s B E e n false u3 from by rw [← hu3]; exact H2.out.setE hBE hE2 e)
            have K3 := Lib.hid (show KeepN (fun k => k < E) T W u3 from by rw [← hu3]; exact K2.out.trans (KeepN.setCell _ _ _ _ _ _ (by omega) (HnT.out _ (by omega))))
            have c1 := H3.out.bs.cell
            have d2 := H2.out.be.cell
            have d2f := H2.out.be.frozen
            have c2 := H3.out.be.cell
            have c2f := H3.out.be.frozen
            have c3 := H3.out.bn.cell
            have c4 := H3.out.bl.cell
            clear H2 K2 hrowc
            by_cases hlt : (e : Int) < (s.size : Int)
            · gi_wp2_with fail
              try any_goals (exfalso; first | (rename_i _ _ heq _; injection heq with e'; cases e'; done) | (rename_i heq _; injection heq with e'; cases e'; done) | (rename_i _ heq _; injection heq with e'; cases e'; done) | (rename_i heq; injection heq with e'; cases e'; done) | (rename_i _ heq; injection heq with e'; cases e'; done))
              refine ⟨trivial, (CallsIn.inRound l (callsIn_wide.2 (HIs.out (e : Int) u3 H3.out.u8))).mono ?_⟩
              rintro _ u4 ⟨⟨b, rfl, hbb⟩, b4⟩
              obtain rfl : b = true := hbb.2 (by have := Ok.out.bo; rw [HE.out] at this; exact this)
              have H4 := Lib.hid (H3.out.below b4 hBE)
              have K4 := Lib.hid (K3.out.trans (KeepN.of_below _ T b4))
              clear b4 hbb H3 K3 hu3 d2 d2f
              have c4 := H4.out.bl.cell
              gi_wp2_with fail
              try any_goals (exfalso; first | (rename_i _ _ heq _; injection heq with e'; cases e'; done) | (rename_i heq _; injection heq with e'; cases e'; done) | (rename_i _ heq _; injection heq with e'; cases e'; done) | (rename_i heq; injection heq with e'; cases e'; done) | (rename_i _ heq; injection heq with e'; cases e'; done))
              refine ⟨trivial, (CallsIn.inRound l (callsIn_wide.2 (HLc.out c u4 hsm H4.out.u8))).mono ?_⟩
              rintro _ u5 ⟨gf2, lb2, rfl, b5, hgf2, hnil2, hseq2⟩
              have H5 := Lib.hid (H4.out.below b5 hBE)
              have K5 := Lib.hid (K4.out.trans (KeepN.of_below _ T b5))
              have HOn := Lib.hid (one13_any gf2 lb2 s f c false Ok.out u5 hgf2 (fun W' h' => by
                have h51 := H5.out.lt
                have h52 := h'.size
                exact hseq2 (fun k => k < u5.heap.size) W' (by show _ < _; omega) (by show _ < _; omega) (fun k _ h => h) ⟨h52, fun k hk _ => h'.block k hk⟩))
              have c4 := H5.out.bl.cell
              clear b5 hseq2 H4 K4 c2 c3 c1 c2f
              gi_wp2_with fail
              try any_goals (exfalso; first | (rename_i _ _ heq _; injection heq with e'; cases e'; done) | (rename_i heq _; injection heq with e'; cases e'; done) | (rename_i _ heq _; injection heq with e'; cases e'; done) | (rename_i heq; injection heq with e'; cases e'; done) | (rename_i _ heq; injection heq with e'; cases e'; done))
              refine ⟨trivial, (CallsIn.inRound l (callsIn_wide.2 HOn.out)).mono ?_⟩
              rintro _ u6 ⟨rfl, b6⟩
              have H6 := Lib.hid (H5.out.below b6 hBE)
              have K6 := Lib.hid (K5.out.trans (KeepN.of_below _ T b6))
              have c3 := H6.out.bn.cell
              have c3f := H6.out.bn.frozen
              have hwn : IntKind.i64.wrap ((n : Int) + 1) = ((n + 1 : Nat) : Int) := by rw [IntWalk.i64_in _ (by have := hpl.out; omega)]; omega
              have HZ := Lib.hid (show KeepN (fun k => k < E) T W (u6.setCell ⟨E + 1, 0, none⟩ (.int .i64 ((n + 1 : Nat) : Int))) ∧ _ from ⟨K6.out.trans (KeepN.setCell _ _ _ _ _ _ (by omega) (HnT.out _ (by omega))), Hfin.out _ (H6.out.setN hBE hE2 (n + 1))⟩)
              clear b6 HOn H5 K5 c4 hnil2 hgf2
              gi_wp2
              exact HZ.out
            · gi_wp2_with fail
              try any_goals (exfalso; first | (rename_i _ _ heq _; injection heq with e'; cases e'; done) | (rename_i heq _; injection heq with e'; cases e'; done) | (rename_i _ heq _; injection heq with e'; cases e'; done) | (rename_i heq; injection heq with e'; cases e'; done) | (rename_i _ heq; injection heq with e'; cases e'; done))
              try (refine ⟨trivial, ?_⟩; gi_wp2_with fail)
              try any_goals (exfalso; first | (rename_i _ _ heq _; injection heq with e'; cases e'; done) | (rename_i heq _; injection heq with e'; cases e'; done) | (rename_i _ heq _; injection heq with e'; cases e'; done) | (rename_i heq; injection heq with e'; cases e'; done) | (rename_i _ heq; injection heq with e'; cases e'; done))
              have H4 := H3
              have K4 := K3
              clear hu3 d2 d2f
              refine ⟨trivial, (CallsIn.inRound l (callsIn_wide.2 (HLc.out c u3 hsm H4.out.u8))).mono ?_⟩
              rintro _ u5 ⟨gf2, lb2, rfl, b5, hgf2, hnil2, hseq2⟩
              have H5 := Lib.hid (H4.out.below b5 hBE)
              have K5 := Lib.hid (K4.out.trans (KeepN.of_below _ T b5))
              have HOn := Lib.hid (one13_any gf2 lb2 s f c false Ok.out u5 hgf2 (fun W' h' => by
                have h51 := H5.out.lt
                have h52 := h'.size
                exact hseq2 (fun k => k < u5.heap.size) W' (by show _ < _; omega) (by show _ < _; omega) (fun k _ h => h) ⟨h52, fun k hk _ => h'.block k hk⟩))
              have c4 := H5.out.bl.cell
              clear b5 hseq2 H4 K4 c2 c3 c1 c2f
              gi_wp2_with fail
              try any_goals (exfalso; first | (rename_i _ _ heq _; injection heq with e'; cases e'; done) | (rename_i heq _; injection heq with e'; cases e'; done) | (rename_i _ heq _; injection heq with e'; cases e'; done) | (rename_i heq; injection heq with e'; cases e'; done) | (rename_i _ heq; injection heq with e'; cases e'; done))
              refine ⟨trivial, (CallsIn.inRound l (callsIn_wide.2 HOn.out)).mono ?_⟩
              rintro _ u6 ⟨rfl, b6⟩
              have H6 := Lib.hid (H5.out.below b6 hBE)
              have K6 := Lib.hid (K5.out.trans (KeepN.of_below _ T b6))
              have c3 := H6.out.bn.cell
              have c3f := H6.out.bn.frozen
              have hwn : IntKind.i64.wrap ((n : Int) + 1) = ((n + 1 : Nat) : Int) := by rw [IntWalk.i64_in _ (by have := hpl.out; omega)]; omega
              have HZ := Lib.hid (show KeepN (fun k => k < E) T W (u6.setCell ⟨E + 1, 0, none⟩ (.int .i64 ((n + 1 : Nat) : Int))) ∧ _ from ⟨K6.out.trans (KeepN.setCell _ _ _ _ _ _ (by omega) (HnT.out _ (by omega))), Hfin.out _ (H6.out.setN hBE hE2 (n + 1))⟩)
              clear b6 HOn H5 K5 c4 hnil2 hgf2
              gi_wp2
              exact HZ.out
      · obtain ⟨p, hp⟩ : ∃ p, p + 1 = q := ⟨q - 1, by omega⟩
        obtain ⟨v, hv⟩ : ∃ v, (whereN c)[q - 1]? = some v := ⟨_, List.getElem?_eq_getElem (by rw [Hq.out]; omega)⟩
        obtain ⟨g, hg, hgE, hrowc⟩ := R1.out _ v hv
        subst hg
        rw [show q - 1 = p by omega] at hv hrowc Hla
        rw [hv] at Hla
        have hsub : IntKind.i64.wrap ((q : Int) - 1) = (p : Int) := by rw [IntWalk.i64_in _ (by omega)]; omega
        have hp0 : (0 : Int) ≤ (p : Int) := by omega
        have hpq : (p : Int) < (q : Int) := by omega
        have hq0i : (0 : Int) < (q : Int) := by omega
        clear hv
        by_cases hv2 : v = 2
        · subst hv2
          have hm' : m' = true := Hla.1 ⟨hq0, rfl⟩
          subst hm'
          clear Hla
          obtain ⟨u2, hu2⟩ : ∃ u2, u1.setCell ⟨E + 1 + 1, 0, none⟩ (.bool true) = u2 := ⟨_, rfl⟩
          have H2 := Lib.hid (show WlS w Wk s B E f n true u2 from by rw [← hu2]; exact H1.out.setL hBE hE2 true)
          have K2 := Lib.hid (show KeepN (fun k => k < E) T W u2 from by rw [← hu2]; exact K1.out.trans (KeepN.setCell _ _ _ _ _ _ (by omega) (HnT.out _ (by omega))))
          have R2 := Lib.hid (show ∀ (i v : Nat), (whereN c)[i]? = some v → u2.cell? ⟨g, i, none⟩ = some (.int .i8 (v : Int)) from fun i v hv => by
            obtain ⟨g', hg1, hg2, hg3⟩ := R1.out i v hv
            injection hg1 with hg1
            injection hg1 with hg1
            subst hg1
            rw [← hu2, World.cell?_of_block (Below.heap_setCell _ _ _ g (by show g ≠ E + 1 + 1; omega))]
            exact hg3)
          gi_wp2_with fail
          clear hu2 c4 c4f
          gi_loopw [10] (fun y wr => wr = u2 ∧ ∃ j : Nat, y = .int .i64 (j : Int) ∧ j ≤ q) (fun y _ => q - (RowKit.intOf y).toNat)
          case atStart => exact ⟨rfl, 0, rfl, Nat.zero_le _⟩
          case round =>
            obtain ⟨hw, j, rfl, hj⟩ := hrel
            subst hw
            have hj1 : IntKind.i64.wrap ((j : Int) + 1) = (j : Int) + 1 := IntWalk.i64_in _ (by omega)
            by_cases hjq : j + 1 < q
            · obtain ⟨v, hv, hv2⟩ := Ok.out.no j (by rw [Hq.out]; exact hjq)
              have hrowc := R2.out j v hv
              have hv3 : ((v : Int) == 2) = false := by simp; omega
              have hjl : (j : Int) + 1 < (q : Int) := by omega
              have hjl2 : (j : Int) < (q : Int) := by omega
              have hj0 : (0 : Int) ≤ (j : Int) := by omega
              gi_wp2
              go_roundw
              case rel => exact ⟨trivial, j + 1, by first | rfl | go_num, by omega⟩
              case measure => simp [RowKit.intOf]; omega
            · have hjl : ¬ ((j : Int) + 1 < (q : Int)) := by omega
              have hrowc : True := trivial
              obtain ⟨u3, hu3⟩ : ∃ u3, wr.setCell ⟨E, 0, none⟩ (.int .i64 (e : Int)) = u3 := ⟨_, rfl⟩
              have H3 := Lib.hid (show WlS w Wk s B E e n true u3 from by rw [← hu3]; exact H2.out.setE hBE hE2 e)
              have K3 := Lib.hid (show KeepN (fun k => k < E) T W u3 from by rw [← hu3]; exact K2.out.trans (KeepN.setCell _ _ _ _ _ _ (by omega) (HnT.out _ (by omega))))
              have c1 := H3.out.bs.cell
              have d2 := H2.out.be.cell
              have d2f := H2.out.be.frozen
              have c2 := H3.out.be.cell
              have c2f := H3.out.be.frozen
              have c3 := H3.out.bn.cell
              have c4 := H3.out.bl.cell
              clear H2 K2 hrowc
              by_cases hlt : (e : Int) < (s.size : Int)
              · gi_wp2_with fail
                try any_goals (exfalso; first | (rename_i _ _ heq _; injection heq with e'; cases e'; done) | (rename_i heq _; injection heq with e'; cases e'; done) | (rename_i _ heq _; injection heq with e'; cases e'; done) | (rename_i heq; injection heq with e'; cases e'; done) | (rename_i _ heq; injection heq with e'; cases e'; done))
                try (refine ⟨trivial, ?_⟩; gi_wp2_with fail)
                try any_goals (exfalso; first | (rename_i _ _ heq _; injection heq with e'; cases e'; done) | (rename_i heq _; injection heq with e'; cases e'; done) | (rename_i _ heq _; injection heq with e'; cases e'; done) | (rename_i heq; injection heq with e'; cases e'; done) | (rename_i _ heq; injection heq with e'; cases e'; done))
                have H4 := H3
                have K4 := K3
                obtain ⟨u4, hu4⟩ : ∃ u4, u3 = u4 := ⟨_, rfl⟩
                subst hu4
                clear hu3 d2 d2f
                refine ⟨trivial, (CallsIn.inRound l (callsIn_wide.2 (HLc.out c u3 hsm H4.out.u8))).mono ?_⟩
                rintro _ u5 ⟨gf2, lb2, rfl, b5, hgf2, hnil2, hseq2⟩
                have H5 := Lib.hid (H4.out.below b5 hBE)
                have K5 := Lib.hid (K4.out.trans (KeepN.of_below _ T b5))
                have HOn := Lib.hid (one13_any gf2 lb2 s f c true Ok.out u5 hgf2 (fun W' h' => by
                  have h51 := H5.out.lt
                  have h52 := h'.size
                  exact hseq2 (fun k => k < u5.heap.size) W' (by show _ < _; omega) (by show _ < _; omega) (fun k _ h => h) ⟨h52, fun k hk _ => h'.block k hk⟩))
                have c4 := H5.out.bl.cell
                clear b5 hseq2 H4 K4 c2 c3 c1 c2f
                gi_wp2_with fail
                try any_goals (exfalso; first | (rename_i _ _ heq _; injection heq with e'; cases e'; done) | (rename_i heq _; injection heq with e'; cases e'; done) | (rename_i _ heq _; injection heq with e'; cases e'; done) | (rename_i heq; injection heq with e'; cases e'; done) | (rename_i _ heq; injection heq with e'; cases e'; done))
                refine ⟨trivial, (CallsIn.inRound l (callsIn_wide.2 HOn.out)).mono ?_⟩
                rintro _ u6 ⟨rfl, b6⟩
                have H6 := Lib.hid (H5.out.below b6 hBE)
                have K6 := Lib.hid (K5.out.trans (KeepN.of_below _ T b6))
                have c3 := H6.out.bn.cell
                have c3f := H6.out.bn.frozen
                have hwn : IntKind.i64.wrap ((n : Int) + 1) = ((n + 1 : Nat) : Int) := by rw [IntWalk.i64_in _ (by have := hpl.out; omega)]; omega
                have HZ := Lib.hid (show KeepN (fun k => k < E) T W (u6.setCell ⟨E + 1, 0, none⟩ (.int .i64 ((n + 1 : Nat) : Int))) ∧ _ from ⟨K6.out.trans (KeepN.setCell _ _ _ _ _ _ (by omega) (HnT.out _ (by omega))), Hfin.out _ (H6.out.setN hBE hE2 (n + 1))⟩)
                clear b6 HOn H5 K5 c4 hnil2 hgf2
                gi_wp2
                exact HZ.out
              · gi_wp2_with fail
                try any_goals (exfalso; first | (rename_i _ _ heq _; injection heq with e'; cases e'; done) | (rename_i heq _; injection heq with e'; cases e'; done) | (rename_i _ heq _; injection heq with e'; cases e'; done) | (rename_i heq; injection heq with e'; cases e'; done) | (rename_i _ heq; injection heq with e'; cases e'; done))
                try (refine ⟨trivial, ?_⟩; gi_wp2_with fail)
                try any_goals (exfalso; first | (rename_i _ _ heq _; injection heq with e'; cases e'; done) | (rename_i heq _; injection heq with e'; cases e'; done) | (rename_i _ heq _; injection heq with e'; cases e'; done) | (rename_i heq; injection heq with e'; cases e'; done) | (rename_i _ heq; injection heq with e'; cases e'; done))
                have H4 := H3
                have K4 := K3
                clear hu3 d2 d2f
                refine ⟨trivial, (CallsIn.inRound l (callsIn_wide.2 (HLc.out c u3 hsm H4.out.u8))).mono ?_⟩
                rintro _ u5 ⟨gf2, lb2, rfl, b5, hgf2, hnil2, hseq2⟩
                have H5 := Lib.hid (H4.out.below b5 hBE)
                have K5 := Lib.hid (K4.out.trans (KeepN.of_below _ T b5))
                have HOn := Lib.hid (one13_any gf2 lb2 s f c true Ok.out u5 hgf2 (fun W' h' => by
                  have h51 := H5.out.lt
                  have h52 := h'.size
                  exact hseq2 (fun k => k < u5.heap.size) W' (by show _ < _; omega) (by show _ < _; omega) (fun k _ h => h) ⟨h52, fun k hk _ => h'.block k hk⟩))
                have c4 := H5.out.bl.cell
                clear b5 hseq2 H4 K4 c2 c3 c1 c2f
                gi_wp2_with fail
                try any_goals (exfalso; first | (rename_i _ _ heq _; injection heq with e'; cases e'; done) | (rename_i heq _; injection heq with e'; cases e'; done) | (rename_i _ heq _; injection heq with e'; cases e'; done) | (rename_i heq; injection heq with e'; cases e'; done) | (rename_i _ heq; injection heq with e'; cases e'; done))
                refine ⟨trivial, (CallsIn.inRound l (callsIn_wide.2 HOn.out)).mono ?_⟩
                rintro _ u6 ⟨rfl, b6⟩
                have H6 := Lib.hid (H5.out.below b6 hBE)
                have K6 := Lib.hid (K5.out.trans (KeepN.of_below _ T b6))
                have c3 := H6.out.bn.cell
                have c3f := H6.out.bn.frozen
                have hwn : IntKind.i64.wrap ((n : Int) + 1) = ((n + 1 : Nat) : Int) := by rw [IntWalk.i64_in _ (by have := hpl.out; omega)]; omega
                have HZ := Lib.hid (show KeepN (fun k => k < E) T W (u6.setCell ⟨E + 1, 0, none⟩ (.int .i64 ((n + 1 : Nat) : Int))) ∧ _ from ⟨K6.out.trans (KeepN.setCell _ _ _ _ _ _ (by omega) (HnT.out _ (by omega))), Hfin.out _ (H6.out.setN hBE hE2 (n + 1))⟩)
                clear b6 HOn H5 K5 c4 hnil2 hgf2
                gi_wp2
                exact HZ.out
        · have hm' : m' = false := by
            cases m'
            · rfl
            · have := (Hla.2 rfl).2
              injection this with this
              exact absurd this hv2
          subst hm'
          have hv3 : ((v : Int) == 2) = false := by simp; omega
          clear Hla hv2
          obtain ⟨u2, hu2⟩ : ∃ u2, u1.setCell ⟨E + 1 + 1, 0, none⟩ (.bool false) = u2 := ⟨_, rfl⟩
          have H2 := Lib.hid (show WlS w Wk s B E f n false u2 from by rw [← hu2]; exact H1.out.setL hBE hE2 false)
          have K2 := Lib.hid (show KeepN (fun k => k < E) T W u2 from by rw [← hu2]; exact K1.out.trans (KeepN.setCell _ _ _ _ _ _ (by omega) (HnT.out _ (by omega))))
          have R2 := Lib.hid (show ∀ (i v : Nat), (whereN c)[i]? = some v → u2.cell? ⟨g, i, none⟩ = some (.int .i8 (v : Int)) from fun i v hv => by
            obtain ⟨g', hg1, hg2, hg3⟩ := R1.out i v hv
            injection hg1 with hg1
            injection hg1 with hg1
            subst hg1
            rw [← hu2, World.cell?_of_block (Below.heap_setCell _ _ _ g (by show g ≠ E + 1 + 1; omega))]
            exact hg3)
          gi_wp2_with fail
          clear hu2 c4 c4f
          gi_loopw [10] (fun y wr => wr = u2 ∧ ∃ j : Nat, y = .int .i64 (j : Int) ∧ j ≤ q) (fun y _ => q - (RowKit.intOf y).toNat)
          case atStart => exact ⟨rfl, 0, rfl, Nat.zero_le _⟩
          case round =>
            obtain ⟨hw, j, rfl, hj⟩ := hrel
            subst hw
            have hj1 : IntKind.i64.wrap ((j : Int) + 1) = (j : Int) + 1 := IntWalk.i64_in _ (by omega)
            by_cases hjq : j + 1 < q
            · obtain ⟨v, hv, hv2⟩ := Ok.out.no j (by rw [Hq.out]; exact hjq)
              have hrowc := R2.out j v hv
              have hv3 : ((v : Int) == 2) = false := by simp; omega
              have hjl : (j : Int) + 1 < (q : Int) := by omega
              have hjl2 : (j : Int) < (q : Int) := by omega
              have hj0 : (0 : Int) ≤ (j : Int) := by omega
              gi_wp2
              go_roundw
              case rel => exact ⟨trivial, j + 1, by first | rfl | go_num, by omega⟩
              case measure => simp [RowKit.intOf]; omega
            · have hjl : ¬ ((j : Int) + 1 < (q : Int)) := by omega
              have hrowc : True := trivial
              obtain ⟨u3, hu3⟩ : ∃ u3, wr.setCell ⟨E, 0, none⟩ (.int .i64 (e : Int)) = u3 := ⟨_, rfl⟩
              have H3 := Lib.hid (show WlS w Wk s B E e n false u3 from by rw [← hu3]; exact H2.out.setE hBE hE2 e)
              have K3 := Lib.hid (show KeepN (fun k => k < E) T W u3 from by rw [← hu3]; exact K2.out.trans (KeepN.setCell _ _ _ _ _ _ (by omega) (HnT.out _ (by omega))))
              have c1 := H3.out.bs.cell
              have d2 := H2.out.be.cell
              have d2f := H2.out.be.frozen
              have c2 := H3.out.be.cell
              have c2f := H3.out.be.frozen
              have c3 := H3.out.bn.cell
              have c4 := H3.out.bl.cell
              clear H2 K2 hrowc
              by_cases hlt : (e : Int) < (s.size : Int)
              · gi_wp2_with fail
                try any_goals (exfalso; first | (rename_i _ _ heq _; injection heq with e'; cases e'; done) | (rename_i heq _; injection heq with e'; cases e'; done) | (rename_i _ heq _; injection heq with e'; cases e'; done) | (rename_i heq; injection heq with e'; cases e'; done) | (rename_i _ heq; injection heq with e'; cases e'; done))
                refine ⟨trivial, (CallsIn.inRound l (callsIn_wide.2 (HIs.out (e : Int) u3 H3.out.u8))).mono ?_⟩
                rintro _ u4 ⟨⟨b, rfl, hbb⟩, b4⟩
                obtain rfl : b = true := hbb.2 (by have := Ok.out.bo; rw [HE.out] at this; exact this)
                have H4 := Lib.hid (H3.out.below b4 hBE)
                have K4 := Lib.hid (K3.out.trans (KeepN.of_below _ T b4))
                clear b4 hbb H3 K3 hu3 d2 d2f
                have c4 := H4.out.bl.cell
                gi_wp2_with fail
                try any_goals (exfalso; first | (rename_i _ _ heq _; injection heq with e'; cases e'; done) | (rename_i heq _; injection heq with e'; cases e'; done) | (rename_i _ heq _; injection heq with e'; cases e'; done) | (rename_i heq; injection heq with e'; cases e'; done) | (rename_i _ heq; injection heq with e'; cases e'; done))
                refine ⟨trivial, (CallsIn.inRound l (callsIn_wide.2 (HLc.out c u4 hsm H4.out.u8))).mono ?_⟩
                rintro _ u5 ⟨gf2, lb2, rfl, b5, hgf2, hnil2, hseq2⟩
                have H5 := Lib.hid (H4.out.below b5 hBE)
                have K5 := Lib.hid (K4.out.trans (KeepN.of_below _ T b5))
                have HOn := Lib.hid (one13_any gf2 lb2 s f c false Ok.out u5 hgf2 (fun W' h' => by
                  have h51 := H5.out.lt
                  have h52 := h'.size
                  exact hseq2 (fun k => k < u5.heap.size) W' (by show _ < _; omega) (by show _ < _; omega) (fun k _ h => h) ⟨h52, fun k hk _ => h'.block k hk⟩))
                have c4 := H5.out.bl.cell
                clear b5 hseq2 H4 K4 c2 c3 c1 c2f
                gi_wp2_with fail
                try any_goals (exfalso; first | (rename_i _ _ heq _; injection heq with e'; cases e'; done) | (rename_i heq _; injection heq with e'; cases e'; done) | (rename_i _ heq _; injection heq with e'; cases e'; done) | (rename_i heq; injection heq with e'; cases e'; done) | (rename_i _ heq; injection heq with e'; cases e'; done))
                refine ⟨trivial, (CallsIn.inRound l (callsIn_wide.2 HOn.out)).mono ?_⟩
                rintro _ u6 ⟨rfl, b6⟩
                have H6 := Lib.hid (H5.out.below b6 hBE)
                have K6 := Lib.hid (K5.out.trans (KeepN.of_below _ T b6))
                have c3 := H6.out.bn.cell
                have c3f := H6.out.bn.frozen
                have hwn : IntKind.i64.wrap ((n : Int) + 1) = ((n + 1 : Nat) : Int) := by rw [IntWalk.i64_in _ (by have := hpl.out; omega)]; omega
                have HZ := Lib.hid (show KeepN (fun k => k < E) T W (u6.setCell ⟨E + 1, 0, none⟩ (.int .i64 ((n + 1 : Nat) : Int))) ∧ _ from ⟨K6.out.trans (KeepN.setCell _ _ _ _ _ _ (by omega) (HnT.out _ (by omega))), Hfin.out _ (H6.out.setN hBE hE2 (n + 1))⟩)
                clear b6 HOn H5 K5 c4 hnil2 hgf2
                gi_wp2
                exact HZ.out
              · gi_wp2_with fail
                try any_goals (exfalso; first | (rename_i _ _ heq _; injection heq with e'; cases e'; done) | (rename_i heq _; injection heq with e'; cases e'; done) | (rename_i _ heq _; injection heq with e'; cases e'; done) | (rename_i heq; injection heq with e'; cases e'; done) | (rename_i _ heq; injection heq with e'; cases e'; done))
                try (refine ⟨trivial, ?_⟩; gi_wp2_with fail)
                try any_goals (exfalso; first | (rename_i _ _ heq _; injection heq with e'; cases e'; done) | (rename_i heq _; injection heq with e'; cases e'; done) | (rename_i _ heq _; injection heq with e'; cases e'; done) | (rename_i heq; injection heq with e'; cases e'; done) | (rename_i _ heq; injection heq with e'; cases e'; done))
                have H4 := H3
                have K4 := K3
                clear hu3 d2 d2f
                refine ⟨trivial, (CallsIn.inRound l (callsIn_wide.2 (HLc.out c u3 hsm H4.out.u8))).mono ?_⟩
                rintro _ u5 ⟨gf2, lb2, rfl, b5, hgf2, hnil2, hseq2⟩
                have H5 := Lib.hid (H4.out.below b5 hBE)
                have K5 := Lib.hid (K4.out.trans (KeepN.of_below _ T b5))
                have HOn := Lib.hid (one13_any gf2 lb2 s f c false Ok.out u5 hgf2 (fun W' h' => by
                  have h51 := H5.out.lt
                  have h52 := h'.size
                  exact hseq2 (fun k => k < u5.heap.size) W' (by show _ < _; omega) (by show _ < _; omega) (fun k _ h => h) ⟨h52, fun k hk _ => h'.block k hk⟩))
                have c4 := H5.out.bl.cell
                clear b5 hseq2 H4 K4 c2 c3 c1 c2f
                gi_wp2_with fail
                try any_goals (exfalso; first | (rename_i _ _ heq _; injection heq with e'; cases e'; done) | (rename_i heq _; injection heq with e'; cases e'; done) | (rename_i _ heq _; injection heq with e'; cases e'; done) | (rename_i heq; injection heq with e'; cases e'; done) | (rename_i _ heq; injection heq with e'; cases e'; done))
                refine ⟨trivial, (CallsIn.inRound l (callsIn_wide.2 HOn.out)).mono ?_⟩
                rintro _ u6 ⟨rfl, b6⟩
                have H6 := Lib.hid (H5.out.below b6 hBE)
                have K6 := Lib.hid (K5.out.trans (KeepN.of_below _ T b6))
                have c3 := H6.out.bn.cell
                have c3f := H6.out.bn.frozen
                have hwn : IntKind.i64.wrap ((n : Int) + 1) = ((n + 1 : Nat) : Int) := by rw [IntWalk.i64_in _ (by have := hpl.out; omega)]; omega
                have HZ := Lib.hid (show KeepN (fun k => k < E) T W (u6.setCell ⟨E + 1, 0, none⟩ (.int .i64 ((n + 1 : Nat) : Int))) ∧ _ from ⟨K6.out.trans (KeepN.setCell _ _ _ _ _ _ (by omega) (HnT.out _ (by omega))), Hfin.out _ (H6.out.setN hBE hE2 (n + 1))⟩)
                clear b6 HOn H5 K5 c4 hnil2 hgf2
                gi_wp2
                exact HZ.out
    obtain rfl : m = false := by cases m; rfl; exact absurd rfl hmt
    by_cases hz : c.size = 0
    · have hfs := Hem.out hz
      have hie : c.toList.isEmpty = true := by
        rw [toList_data]
        have := size_list c
        rw [hz] at this
        exact List.isEmpty_iff.2 (List.eq_nil_of_length_eq_zero this)
      have hfsn : ((f : Int) != (s.size : Int)) = false := by rw [hfs]; simp
      have hse : ¬ ((e : Int) < (s.size : Int)) := by have := HE.out; omega
      have HZ0 := Lib.hid hz
      clear hfs hz
      gi_wp2_with fail
      refine ⟨trivial, (CallsIn.inRound l (callsIn_wide.2 (HWh.out c W hsm H0.out.u8))).mono ?_⟩
      rintro _ u1 ⟨A1, k1, rfl, o1, b1⟩
      have H1 := Lib.hid (H0.out.below b1 hBE)
      have hlW := H0.out.lt
      have R1 := Lib.hid (show ∀ (i v : Nat), (whereN c)[i]? = some v → ∃ g, A1 = some ⟨g, 0, none⟩ ∧ E + 2 < g ∧ u1.cell? ⟨g, i, none⟩ = some (.int .i8 (v : Int)) from fun i v hv => by
        have hi := (List.getElem?_eq_some_iff.1 hv).1
        obtain ⟨g, cap, he1, _, _⟩ := o1.form (by omega)
        injection he1 with hA
        subst hA
        have hg := (o1.lt g rfl).1
        refine ⟨g, rfl, by omega, ?_⟩
        rw [o1.cellAt i (by rw [Nat.mul_one]; exact hi)]
        unfold whV
        rw [List.getElem?_map, hv]
        rfl)
      have K1 := Lib.hid (show KeepN (fun k => k < E) T W u1 from KeepN.of_below _ T b1)
      clear b1 o1 c1 c2 c3 c4
      have c4 := H1.out.bl.cell
      have c4f := H1.out.bl.frozen
      have Hno := Ok.out.no
      have Hla := Ok.out.la
      obtain ⟨q, hq⟩ : ∃ q, (whereN c).length = q := ⟨_, rfl⟩
      rw [hq] at Hla ⊢
      have hqs : q ≤ 65536 := by have := Ok.out.wh; omega
      have Hq := Lib.hid hq
      clear hq Hno
      rcases Nat.eq_zero_or_pos q with hq0 | hq0
      · have hm' : m' = false := by
          cases m'
          · rfl
          · have := (Hla.2 rfl).1
            omega
        subst hm'
        subst hq0
        clear Hla
        obtain ⟨u2, hu2⟩ : ∃ u2, u1.setCell ⟨E + 1 + 1, 0, none⟩ (.bool false) = u2 := ⟨_, rfl⟩
        have H2 := Lib.hid (show WlS w Wk s B E f n false u2 from by rw [← hu2]; exact H1.out.setL hBE hE2 false)
        have K2 := Lib.hid (show KeepN (fun k => k < E) T W u2 from by rw [← hu2]; exact K1.out.trans (KeepN.setCell _ _ _ _ _ _ (by omega) (HnT.out _ (by omega))))

        gi_wp2_with fail
        clear hu2 c4 c4f
        gi_loopw [10] (fun y wr => wr = u2 ∧ ∃ j : Nat, y = .int .i64 (j : Int) ∧ j ≤ 0) (fun y _ => 0 - (RowKit.intOf y).toNat)
        case atStart => exact ⟨rfl, 0, rfl, Nat.zero_le _⟩
        case round =>
          obtain ⟨hw, j, rfl, hj⟩ := hrel
          subst hw
          have hj1 : IntKind.i64.wrap ((j : Int) + 1) = (j : Int) + 1 := IntWalk.i64_in _ (by omega)
          by_cases hjq : j + 1 < 0
          · exact absurd hjq (by omega)
          · have hjl : ¬ ((j : Int) + 1 < (0 : Int)) := by omega
            have hrowc : True := trivial
            obtain ⟨u3, hu3⟩ : ∃ u3, wr.setCell ⟨E, 0, none⟩ (.int .i64 (e : Int)) = u3 := ⟨_, rfl⟩
            have H3 := Lib.hid (show WlS w Wk s B E e n false u3 from by rw [← hu3]; exact H2.out.setE hBE hE2 e)
            have K3 := Lib.hid (show KeepN (fun k => k < E) T W u3 from by rw [← hu3]; exact K2.out.trans (KeepN.setCell _ _ _ _ _ _ (by omega) (HnT.out _ (by omega))))
            have c1 := H3.out.bs.cell
            have d2 := H2.out.be.cell
            have d2f := H2.out.be.frozen
            have c2 := H3.out.be.cell
            have c2f := H3.out.be.frozen
            have c3 := H3.out.bn.cell
            have c4 := H3.out.bl.cell
            clear H2 K2 hrowc
            by_cases hlt : (e : Int) < (s.size : Int)
            · omega
            · gi_wp2_with fail
              try any_goals (exfalso; first | (rename_i _ _ heq _; injection heq with e'; cases e'; done) | (rename_i heq _; injection heq with e'; cases e'; done) | (rename_i _ heq _; injection heq with e'; cases e'; done) | (rename_i heq; injection heq with e'; cases e'; done) | (rename_i _ heq; injection heq with e'; cases e'; done))
              try (refine ⟨trivial, ?_⟩; gi_wp2_with fail)
              try any_goals (exfalso; first | (rename_i _ _ heq _; injection heq with e'; cases e'; done) | (rename_i heq _; injection heq with e'; cases e'; done) | (rename_i _ heq _; injection heq with e'; cases e'; done) | (rename_i heq; injection heq with e'; cases e'; done) | (rename_i _ heq; injection heq with e'; cases e'; done))
              have H4 := H3
              have K4 := K3
              clear hu3 d2 d2f
              refine ⟨trivial, (CallsIn.inRound l (callsIn_wide.2 (HLc.out c u3 hsm H4.out.u8))).mono ?_⟩
              rintro _ u5 ⟨gf2, lb2, rfl, b5, hgf2, hnil2, hseq2⟩
              have H5 := Lib.hid (H4.out.below b5 hBE)
              have K5 := Lib.hid (K4.out.trans (KeepN.of_below _ T b5))
              have HOn := Lib.hid (one13_any gf2 lb2 s f c false Ok.out u5 hgf2 (fun W' h' => by
                have h51 := H5.out.lt
                have h52 := h'.size
                exact hseq2 (fun k => k < u5.heap.size) W' (by show _ < _; omega) (by show _ < _; omega) (fun k _ h => h) ⟨h52, fun k hk _ => h'.block k hk⟩))
              have c4 := H5.out.bl.cell
              clear b5 hseq2 H4 K4 c2 c3 c1 c2f
              gi_wp2_with fail
              try any_goals (exfalso; first | (rename_i _ _ heq _; injection heq with e'; cases e'; done) | (rename_i heq _; injection heq with e'; cases e'; done) | (rename_i _ heq _; injection heq with e'; cases e'; done) | (rename_i heq; injection heq with e'; cases e'; done) | (rename_i _ heq; injection heq with e'; cases e'; done))
              refine ⟨trivial, (CallsIn.inRound l (callsIn_wide.2 HOn.out)).mono ?_⟩
              rintro _ u6 ⟨rfl, b6⟩
              have H6 := Lib.hid (H5.out.below b6 hBE)
              have K6 := Lib.hid (K5.out.trans (KeepN.of_below _ T b6))
              have c3 := H6.out.bn.cell
              have c3f := H6.out.bn.frozen
              have hwn : IntKind.i64.wrap ((n : Int) + 1) = ((n + 1 : Nat) : Int) := by rw [IntWalk.i64_in _ (by have := hpl.out; omega)]; omega
              have HZ := Lib.hid (show KeepN (fun k => k < E) T W (u6.setCell ⟨E + 1, 0, none⟩ (.int .i64 ((n + 1 : Nat) : Int))) ∧ _ from ⟨K6.out.trans (KeepN.setCell _ _ _ _ _ _ (by omega) (HnT.out _ (by omega))), Hfin.out _ (H6.out.setN hBE hE2 (n + 1))⟩)
              clear b6 HOn H5 K5 c4 hnil2 hgf2
              gi_wp2
              exact HZ.out
      · exact absurd Ok.out.wh (by rw [Hq.out, HZ0.out]; omega)
    have hie : c.toList.isEmpty = false := by
      rw [toList_data]
      have := size_list c
      rcases hd : c.data.toList with _ | ⟨y, r⟩
      · rw [hd] at this; simp at this; omega
      · rfl
    gi_wp2_with fail
    refine ⟨trivial, (CallsIn.inRound l (callsIn_wide.2 (HWh.out c W hsm H0.out.u8))).mono ?_⟩
    rintro _ u1 ⟨A1, k1, rfl, o1, b1⟩
    have H1 := Lib.hid (H0.out.below b1 hBE)
    have hlW := H0.out.lt
    have R1 := Lib.hid (show ∀ (i v : Nat), (whereN c)[i]? = some v → ∃ g, A1 = some ⟨g, 0, none⟩ ∧ E + 2 < g ∧ u1.cell? ⟨g, i, none⟩ = some (.int .i8 (v : Int)) from fun i v hv => by
      have hi := (List.getElem?_eq_some_iff.1 hv).1
      obtain ⟨g, cap, he1, _, _⟩ := o1.form (by omega)
      injection he1 with hA
      subst hA
      have hg := (o1.lt g rfl).1
      refine ⟨g, rfl, by omega, ?_⟩
      rw [o1.cellAt i (by rw [Nat.mul_one]; exact hi)]
      unfold whV
      rw [List.getElem?_map, hv]
      rfl)
    have K1 := Lib.hid (show KeepN (fun k => k < E) T W u1 from KeepN.of_below _ T b1)
    clear b1 o1 c1 c2 c3 c4
    have c4 := H1.out.bl.cell
    have c4f := H1.out.bl.frozen
    have Hno := Ok.out.no
    have Hla := Ok.out.la
    obtain ⟨q, hq⟩ : ∃ q, (whereN c).length = q := ⟨_, rfl⟩
    rw [hq] at Hla ⊢
    have hqs : q ≤ 65536 := by have := Ok.out.wh; omega
    have Hq := Lib.hid hq
    clear hq Hno
    rcases Nat.eq_zero_or_pos q with hq0 | hq0
    · have hm' : m' = false := by
        cases m'
        · rfl
        · have := (Hla.2 rfl).1
          omega
      subst hm'
      subst hq0
      clear Hla
      obtain ⟨u2, hu2⟩ : ∃ u2, u1.setCell ⟨E + 1 + 1, 0, none⟩ (.bool false) = u2 := ⟨_, rfl⟩
      have H2 := Lib.hid (show WlS w Wk s B E f n false u2 from by rw [← hu2]; exact H1.out.setL hBE hE2 false)
      have K2 := Lib.hid (show KeepN (fun k => k < E) T W u2 from by rw [← hu2]; exact K1.out.trans (KeepN.setCell _ _ _ _ _ _ (by omega) (HnT.out _ (by omega))))

      gi_wp2_with fail
      clear hu2 c4 c4f
      gi_loopw [10] (fun y wr => wr = u2 ∧ ∃ j : Nat, y = .int .i64 (j : Int) ∧ j ≤ 0) (fun y _ => 0 - (RowKit.intOf y).toNat)
      case atStart => exact ⟨rfl, 0, rfl, Nat.zero_le _⟩
      case round =>
        obtain ⟨hw, j, rfl, hj⟩ := hrel
        subst hw
        have hj1 : IntKind.i64.wrap ((j : Int) + 1) = (j : Int) + 1 := IntWalk.i64_in _ (by omega)
        by_cases hjq : j + 1 < 0
        · exact absurd hjq (by omega)
        · have hjl : ¬ ((j : Int) + 1 < (0 : Int)) := by omega
          have hrowc : True := trivial
          obtain ⟨u3, hu3⟩ : ∃ u3, wr.setCell ⟨E, 0, none⟩ (.int .i64 (e : Int)) = u3 := ⟨_, rfl⟩
          have H3 := Lib.hid (show WlS w Wk s B E e n false u3 from by rw [← hu3]; exact H2.out.setE hBE hE2 e)
          have K3 := Lib.hid (show KeepN (fun k => k < E) T W u3 from by rw [← hu3]; exact K2.out.trans (KeepN.setCell _ _ _ _ _ _ (by omega) (HnT.out _ (by omega))))
          have c1 := H3.out.bs.cell
          have d2 := H2.out.be.cell
          have d2f := H2.out.be.frozen
          have c2 := H3.out.be.cell
          have c2f := H3.out.be.frozen
          have c3 := H3.out.bn.cell
          have c4 := H3.out.bl.cell
          clear H2 K2 hrowc
          by_cases hlt : (e : Int) < (s.size : Int)
          · gi_wp2_with fail
            try any_goals (exfalso; first | (rename_i _ _ heq _; injection heq with e'; cases e'; done) | (rename_i heq _; injection heq with e'; cases e'; done) | (rename_i _ heq _; injection heq with e'; cases e'; done) | (rename_i heq; injection heq with e'; cases e'; done) | (rename_i _ heq; injection heq with e'; cases e'; done))
            refine ⟨trivial, (CallsIn.inRound l (callsIn_wide.2 (HIs.out (e : Int) u3 H3.out.u8))).mono ?_⟩
            rintro _ u4 ⟨⟨b, rfl, hbb⟩, b4⟩
            obtain rfl : b = true := hbb.2 (by have := Ok.out.bo; rw [HE.out] at this; exact this)
            have H4 := Lib.hid (H3.out.below b4 hBE)
            have K4 := Lib.hid (K3.out.trans (KeepN.of_below _ T b4))
            clear b4 hbb H3 K3 hu3 d2 d2f
            have c4 := H4.out.bl.cell
            gi_wp2_with fail
            try any_goals (exfalso; first | (rename_i _ _ heq _; injection heq with e'; cases e'; done) | (rename_i heq _; injection heq with e'; cases e'; done) | (rename_i _ heq _; injection heq with e'; cases e'; done) | (rename_i heq; injection heq with e'; cases e'; done) | (rename_i _ heq; injection heq with e'; cases e'; done))
            refine ⟨trivial, (CallsIn.inRound l (callsIn_wide.2 (HLc.out c u4 hsm H4.out.u8))).mono ?_⟩
            rintro _ u5 ⟨gf2, lb2, rfl, b5, hgf2, hnil2, hseq2⟩
            have H5 := Lib.hid (H4.out.below b5 hBE)
            have K5 := Lib.hid (K4.out.trans (KeepN.of_below _ T b5))
            have HOn := Lib.hid (one13_any gf2 lb2 s f c false Ok.out u5 hgf2 (fun W' h' => by
              have h51 := H5.out.lt
              have h52 := h'.size
              exact hseq2 (fun k => k < u5.heap.size) W' (by show _ < _; omega) (by show _ < _; omega) (fun k _ h => h) ⟨h52, fun k hk _ => h'.block k hk⟩))
            have c4 := H5.out.bl.cell
            clear b5 hseq2 H4 K4 c2 c3 c1 c2f
            gi_wp2_with fail
            try any_goals (exfalso; first | (rename_i _ _ heq _; injection heq with e'; cases e'; done) | (rename_i heq _; injection heq with e'; cases e'; done) | (rename_i _ heq _; injection heq with e'; cases e'; done) | (rename_i heq; injection heq with e'; cases e'; done) | (rename_i _ heq; injection heq with e'; cases e'; done))
            refine ⟨trivial, (CallsIn.inRound l (callsIn_wide.2 HOn.out)).mono ?_⟩
            rintro _ u6 ⟨rfl, b6⟩
            have H6 := Lib.hid (H5.out.below b6 hBE)
            have K6 := Lib.hid (K5.out.trans (KeepN.of_below _ T b6))
            have c3 := H6.out.bn.cell
            have c3f := H6.out.bn.frozen
            have hwn : IntKind.i64.wrap ((n : Int) + 1) = ((n + 1 : Nat) : Int) := by rw [IntWalk.i64_in _ (by have := hpl.out; omega)]; omega
            have HZ := Lib.hid (show KeepN (fun k => k < E) T W (u6.setCell ⟨E + 1, 0, none⟩ (.int .i64 ((n + 1 : Nat) : Int))) ∧ _ from ⟨K6.out.trans (KeepN.setCell _ _ _ _ _ _ (by omega) (HnT.out _ (by omega))), Hfin.out _ (H6.out.setN hBE hE2 (n + 1))⟩)
            clear b6 HOn H5 K5 c4 hnil2 hgf2
            gi_wp2
            exact HZ.out
          · gi_wp2_with fail
            try any_goals (exfalso; first | (rename_i _ _ heq _; injection heq with e'; cases e'; done) | (rename_i heq _; injection heq with e'; cases e'; done) | (rename_i _ heq _; injection heq with e'; cases e'; done) | (rename_i heq; injection heq with e'; cases e'; done) | (rename_i _ heq; injection heq with e'; cases e'; done))
            try (refine ⟨trivial, ?_⟩; gi_wp2_with fail)
            try any_goals (exfalso; first | (rename_i _ _ heq _; injection heq with e'; cases e'; done) | (rename_i heq _; injection heq with e'; cases e'; done) | (rename_i _ heq _; injection heq with e'; cases e'; done) | (rename_i heq; injection heq with e'; cases e'; done) | (rename_i _ heq; injection heq with e'; cases e'; done))
            have H4 := H3
            have K4 := K3
            clear hu3 d2 d2f
            refine ⟨trivial, (CallsIn.inRound l (callsIn_wide.2 (HLc.out c u3 hsm H4.out.u8))).mono ?_⟩
            rintro _ u5 ⟨gf2, lb2, rfl, b5, hgf2, hnil2, hseq2⟩
            have H5 := Lib.hid (H4.out.below b5 hBE)
            have K5 := Lib.hid (K4.out.trans (KeepN.of_below _ T b5))
            have HOn := Lib.hid (one13_any gf2 lb2 s f c false Ok.out u5 hgf2 (fun W' h' => by
              have h51 := H5.out.lt
              have h52 := h'.size
              exact hseq2 (fun k => k < u5.heap.size) W' (by show _ < _; omega) (by show _ < _; omega) (fun k _ h => h) ⟨h52, fun k hk _ => h'.block k hk⟩))
            have c4 := H5.out.bl.cell
            clear b5 hseq2 H4 K4 c2 c3 c1 c2f
            gi_wp2_with fail
            try any_goals (exfalso; first | (rename_i _ _ heq _; injection heq with e'; cases e'; done) | (rename_i heq _; injection heq with e'; cases e'; done) | (rename_i _ heq _; injection heq with e'; cases e'; done) | (rename_i heq; injection heq with e'; cases e'; done) | (rename_i _ heq; injection heq with e'; cases e'; done))
            refine ⟨trivial, (CallsIn.inRound l (callsIn_wide.2 HOn.out)).mono ?_⟩
            rintro _ u6 ⟨rfl, b6⟩
            have H6 := Lib.hid (H5.out.below b6 hBE)
            have K6 := Lib.hid (K5.out.trans (KeepN.of_below _ T b6))
            have c3 := H6.out.bn.cell
            have c3f := H6.out.bn.frozen
            have hwn : IntKind.i64.wrap ((n : Int) + 1) = ((n + 1 : Nat) : Int) := by rw [IntWalk.i64_in _ (by have := hpl.out; omega)]; omega
            have HZ := Lib.hid (show KeepN (fun k => k < E) T W (u6.setCell ⟨E + 1, 0, none⟩ (.int .i64 ((n + 1 : Nat) : Int))) ∧ _ from ⟨K6.out.trans (KeepN.setCell _ _ _ _ _ _ (by omega) (HnT.out _ (by omega))), Hfin.out _ (H6.out.setN hBE hE2 (n + 1))⟩)
            clear b6 HOn H5 K5 c4 hnil2 hgf2
            gi_wp2
            exact HZ.out
    · obtain ⟨p, hp⟩ : ∃ p, p + 1 = q := ⟨q - 1, by omega⟩
      obtain ⟨v, hv⟩ : ∃ v, (whereN c)[q - 1]? = some v := ⟨_, List.getElem?_eq_getElem (by rw [Hq.out]; omega)⟩
      obtain ⟨g, hg, hgE, hrowc⟩ := R1.out _ v hv
      subst hg
      rw [show q - 1 = p by omega] at hv hrowc Hla
      rw [hv] at Hla
      have hsub : IntKind.i64.wrap ((q : Int) - 1) = (p : Int) := by rw [IntWalk.i64_in _ (by omega)]; omega
      have hp0 : (0 : Int) ≤ (p : Int) := by omega
      have hpq : (p : Int) < (q : Int) := by omega
      have hq0i : (0 : Int) < (q : Int) := by omega
      clear hv
      by_cases hv2 : v = 2
      · subst hv2
        have hm' : m' = true := Hla.1 ⟨hq0, rfl⟩
        subst hm'
        clear Hla
        obtain ⟨u2, hu2⟩ : ∃ u2, u1.setCell ⟨E + 1 + 1, 0, none⟩ (.bool true) = u2 := ⟨_, rfl⟩
        have H2 := Lib.hid (show WlS w Wk s B E f n true u2 from by rw [← hu2]; exact H1.out.setL hBE hE2 true)
        have K2 := Lib.hid (show KeepN (fun k => k < E) T W u2 from by rw [← hu2]; exact K1.out.trans (KeepN.setCell _ _ _ _ _ _ (by omega) (HnT.out _ (by omega))))
        have R2 := Lib.hid (show ∀ (i v : Nat), (whereN c)[i]? = some v → u2.cell? ⟨g, i, none⟩ = some (.int .i8 (v : Int)) from fun i v hv => by
          obtain ⟨g', hg1, hg2, hg3⟩ := R1.out i v hv
          injection hg1 with hg1
          injection hg1 with hg1
          subst hg1
          rw [← hu2, World.cell?_of_block (Below.heap_setCell _ _ _ g (by show g ≠ E + 1 + 1; omega))]
          exact hg3)
        gi_wp2_with fail
        clear hu2 c4 c4f
        gi_loopw [10] (fun y wr => wr = u2 ∧ ∃ j : Nat, y = .int .i64 (j : Int) ∧ j ≤ q) (fun y _ => q - (RowKit.intOf y).toNat)
        case atStart => exact ⟨rfl, 0, rfl, Nat.zero_le _⟩
        case round =>
          obtain ⟨hw, j, rfl, hj⟩ := hrel
          subst hw
          have hj1 : IntKind.i64.wrap ((j : Int) + 1) = (j : Int) + 1 := IntWalk.i64_in _ (by omega)
          by_cases hjq : j + 1 < q
          · obtain ⟨v, hv, hv2⟩ := Ok.out.no j (by rw [Hq.out]; exact hjq)
            have hrowc := R2.out j v hv
            have hv3 : ((v : Int) == 2) = false := by simp; omega
            have hjl : (j : Int) + 1 < (q : Int) := by omega
            have hjl2 : (j : Int) < (q : Int) := by omega
            have hj0 : (0 : Int) ≤ (j : Int) := by omega
            gi_wp2
            go_roundw
            case rel => exact ⟨trivial, j + 1, by first | rfl | go_num, by omega⟩
            case measure => simp [RowKit.intOf]; omega
          · have hjl : ¬ ((j : Int) + 1 < (q : Int)) := by omega
            have hrowc : True := trivial
            obtain ⟨u3, hu3⟩ : ∃ u3, wr.setCell ⟨E, 0, none⟩ (.int .i64 (e : Int)) = u3 := ⟨_, rfl⟩
            have H3 := Lib.hid (show WlS w Wk s B E e n true u3 from by rw [← hu3]; exact H2.out.setE hBE hE2 e)
            have K3 := Lib.hid (show KeepN (fun k => k < E) T W u3 from by rw [← hu3]; exact K2.out.trans (KeepN.setCell _ _ _ _ _ _ (by omega) (HnT.out _ (by omega))))
            have c1 := H3.out.bs.cell
            have d2 := H2.out.be.cell
            have d2f := H2.out.be.frozen
            have c2 := H3.out.be.cell
            have c2f := H3.out.be.frozen
            have c3 := H3.out.bn.cell
            have c4 := H3.out.bl.cell
            clear H2 K2 hrowc
            by_cases hlt : (e : Int) < (s.size : Int)
            · gi_wp2_with fail
              try any_goals (exfalso; first | (rename_i _ _ heq _; injection heq with e'; cases e'; done) | (rename_i heq _; injection heq with e'; cases e'; done) | (rename_i _ heq _; injection heq with e'; cases e'; done) | (rename_i heq; injection heq with e'; cases e'; done) | (rename_i _ heq; injection heq with e'; cases e'; done))
              try (refine ⟨trivial, ?_⟩; gi_wp2_with fail)
              try any_goals (exfalso; first | (rename_i _ _ heq _; injection heq with e'; cases e'; done) | (rename_i heq _; injection heq with e'; cases e'; done) | (rename_i _ heq _; injection heq with e'; cases e'; done) | (rename_i heq; injection heq with e'; cases e'; done) | (rename_i _ heq; injection heq with e'; cases e'; done))
              have H4 := H3
              have K4 := K3
              obtain ⟨u4, hu4⟩ : ∃ u4, u3 = u4 := ⟨_, rfl⟩
              subst hu4
              clear hu3 d2 d2f
              refine ⟨trivial, (CallsIn.inRound l (callsIn_wide.2 (HLc.out c u3 hsm H4.out.u8))).mono ?_⟩
              rintro _ u5 ⟨gf2, lb2, rfl, b5, hgf2, hnil2, hseq2⟩
              have H5 := Lib.hid (H4.out.below b5 hBE)
              have K5 := Lib.hid (K4.out.trans (KeepN.of_below _ T b5))
              have HOn := Lib.hid (one13_any gf2 lb2 s f c true Ok.out u5 hgf2 (fun W' h' => by
                have h51 := H5.out.lt
                have h52 := h'.size
                exact hseq2 (fun k => k < u5.heap.size) W' (by show _ < _; omega) (by show _ < _; omega) (fun k _ h => h) ⟨h52, fun k hk _ => h'.block k hk⟩))
              have c4 := H5.out.bl.cell
              clear b5 hseq2 H4 K4 c2 c3 c1 c2f
              gi_wp2_with fail
              try any_goals (exfalso; first | (rename_i _ _ heq _; injection heq with e'; cases e'; done) | (rename_i heq _; injection heq with e'; cases e'; done) | (rename_i _ heq _; injection heq with e'; cases e'; done) | (rename_i heq; injection heq with e'; cases e'; done) | (rename_i _ heq; injection heq with e'; cases e'; done))
              refine ⟨trivial, (CallsIn.inRound l (callsIn_wide.2 HOn.out)).mono ?_⟩
              rintro _ u6 ⟨rfl, b6⟩
              have H6 := Lib.hid (H5.out.below b6 hBE)
              have K6 := Lib.hid (K5.out.trans (KeepN.of_below _ T b6))
              have c3 := H6.out.bn.cell
              have c3f := H6.out.bn.frozen
              have hwn : IntKind.i64.wrap ((n : Int) + 1) = ((n + 1 : Nat) : Int) := by rw [IntWalk.i64_in _ (by have := hpl.out; omega)]; omega
              have HZ := Lib.hid (show KeepN (fun k => k < E) T W (u6.setCell ⟨E + 1, 0, none⟩ (.int .i64 ((n + 1 : Nat) : Int))) ∧ _ from ⟨K6.out.trans (KeepN.setCell _ _ _ _ _ _ (by omega) (HnT.out _ (by omega))), Hfin.out _ (H6.out.setN hBE hE2 (n + 1))⟩)
              clear b6 HOn H5 K5 c4 hnil2 hgf2
              gi_wp2
              exact HZ.out
            · gi_wp2_with fail
              try any_goals (exfalso; first | (rename_i _ _ heq _; injection heq with e'; cases e'; done) | (rename_i heq _; injection heq with e'; cases e'; done) | (rename_i _ heq _; injection heq with e'; cases e'; done) | (rename_i heq; injection heq with e'; cases e'; done) | (rename_i _ heq; injection heq with e'; cases e'; done))
              try (refine ⟨trivial, ?_⟩; gi_wp2_with fail)
              try any_goals (exfalso; first | (rename_i _ _ heq _; injection heq with e'; cases e'; done) | (rename_i heq _; injection heq with e'; cases e'; done) | (rename_i _ heq _; injection heq with e'; cases e'; done) | (rename_i heq; injection heq with e'; cases e'; done) | (rename_i _ heq; injection heq with e'; cases e'; done))
              have H4 := H3
              have K4 := K3
              clear hu3 d2 d2f
              refine ⟨trivial, (CallsIn.inRound l (callsIn_wide.2 (HLc.out c u3 hsm H4.out.u8))).mono ?_⟩
              rintro _ u5 ⟨gf2, lb2, rfl, b5, hgf2, hnil2, hseq2⟩
              have H5 := Lib.hid (H4.out.below b5 hBE)
              have K5 := Lib.hid (K4.out.trans (KeepN.of_below _ T b5))
              have HOn := Lib.hid (one13_any gf2 lb2 s f c true Ok.out u5 hgf2 (fun W' h' => by
                have h51 := H5.out.lt
                have h52 := h'.size
                exact hseq2 (fun k => k < u5.heap.size) W' (by show _ < _; omega) (by show _ < _; omega) (fun k _ h => h) ⟨h52, fun k hk _ => h'.block k hk⟩))
              have c4 := H5.out.bl.cell
              clear b5 hseq2 H4 K4 c2 c3 c1 c2f
              gi_wp2_with fail
              try any_goals (exfalso; first | (rename_i _ _ heq _; injection heq with e'; cases e'; done) | (rename_i heq _; injection heq with e'; cases e'; done) | (rename_i _ heq _; injection heq with e'; cases e'; done) | (rename_i heq; injection heq with e'; cases e'; done) | (rename_i _ heq; injection heq with e'; cases e'; done))
              refine ⟨trivial, (CallsIn.inRound l (callsIn_wide.2 HOn.out)).mono ?_⟩
              rintro _ u6 ⟨rfl, b6⟩
              have H6 := Lib.hid (H5.out.below b6 hBE)
              have K6 := Lib.hid (K5.out.trans (KeepN.of_below _ T b6))
              have c3 := H6.out.bn.cell
              have c3f := H6.out.bn.frozen
              have hwn : IntKind.i64.wrap ((n : Int) + 1) = ((n + 1 : Nat) : Int) := by rw [IntWalk.i64_in _ (by have := hpl.out; omega)]; omega
              have HZ := Lib.hid (show KeepN (fun k => k < E) T W (u6.setCell ⟨E + 1, 0, none⟩ (.int .i64 ((n + 1 : Nat) : Int))) ∧ _ from ⟨K6.out.trans (KeepN.setCell _ _ _ _ _ _ (by omega) (HnT.out _ (by omega))), Hfin.out _ (H6.out.setN hBE hE2 (n + 1))⟩)
              clear b6 HOn H5 K5 c4 hnil2 hgf2
              gi_wp2
              exact HZ.out
      · have hm' : m' = false := by
          cases m'
          · rfl
          · have := (Hla.2 rfl).2
            injection this with this
            exact absurd this hv2
        subst hm'
        have hv3 : ((v : Int) == 2) = false := by simp; omega
        clear Hla hv2
        obtain ⟨u2, hu2⟩ : ∃ u2, u1.setCell ⟨E + 1 + 1, 0, none⟩ (.bool false) = u2 := ⟨_, rfl⟩
        have H2 := Lib.hid (show WlS w Wk s B E f n false u2 from by rw [← hu2]; exact H1.out.setL hBE hE2 false)
        have K2 := Lib.hid (show KeepN (fun k => k < E) T W u2 from by rw [← hu2]; exact K1.out.trans (KeepN.setCell _ _ _ _ _ _ (by omega) (HnT.out _ (by omega))))
        have R2 := Lib.hid (show ∀ (i v : Nat), (whereN c)[i]? = some v → u2.cell? ⟨g, i, none⟩ = some (.int .i8 (v : Int)) from fun i v hv => by
          obtain ⟨g', hg1, hg2, hg3⟩ := R1.out i v hv
          injection hg1 with hg1
          injection hg1 with hg1
          subst hg1
          rw [← hu2, World.cell?_of_block (Below.heap_setCell _ _ _ g (by show g ≠ E + 1 + 1; omega))]
          exact hg3)
        gi_wp2_with fail
        clear hu2 c4 c4f
        gi_loopw [10] (fun y wr => wr = u2 ∧ ∃ j : Nat, y = .int .i64 (j : Int) ∧ j ≤ q) (fun y _ => q - (RowKit.intOf y).toNat)
        case atStart => exact ⟨rfl, 0, rfl, Nat.zero_le _⟩
        case round =>
          obtain ⟨hw, j, rfl, hj⟩ := hrel
          subst hw
          have hj1 : IntKind.i64.wrap ((j : Int) + 1) = (j : Int) + 1 := IntWalk.i64_in _ (by omega)
          by_cases hjq : j + 1 < q
          · obtain ⟨v, hv, hv2⟩ := Ok.out.no j (by rw [Hq.out]; exact hjq)
            have hrowc := R2.out j v hv
            have hv3 : ((v : Int) == 2) = false := by simp; omega
            have hjl : (j : Int) + 1 < (q : Int) := by omega
            have hjl2 : (j : Int) < (q : Int) := by omega
            have hj0 : (0 : Int) ≤ (j : Int) := by omega
            gi_wp2
            go_roundw
            case rel => exact ⟨trivial, j + 1, by first | rfl | go_num, by omega⟩
            case measure => simp [RowKit.intOf]; omega
          · have hjl : ¬ ((j : Int) + 1 < (q : Int)) := by omega
            have hrowc : True := trivial
            obtain ⟨u3, hu3⟩ : ∃ u3, wr.setCell ⟨E, 0, none⟩ (.int .i64 (e : Int)) = u3 := ⟨_, rfl⟩
            have H3 := Lib.hid (show WlS w Wk s B E e n false u3 from by rw [← hu3]; exact H2.out.setE hBE hE2 e)
            have K3 := Lib.hid (show KeepN (fun k => k < E) T W u3 from by rw [← hu3]; exact K2.out.trans (KeepN.setCell _ _ _ _ _ _ (by omega) (HnT.out _ (by omega))))
            have c1 := H3.out.bs.cell
            have d2 := H2.out.be.cell
            have d2f := H2.out.be.frozen
            have c2 := H3.out.be.cell
            have c2f := H3.out.be.frozen
            have c3 := H3.out.bn.cell
            have c4 := H3.out.bl.cell
            clear H2 K2 hrowc
            by_cases hlt : (e : Int) < (s.size : Int)
            · gi_wp2_with fail
              try any_goals (exfalso; first | (rename_i _ _ heq _; injection heq with e'; cases e'; done) | (rename_i heq _; injection heq with e'; cases e'; done) | (rename_i _ heq _; injection heq with e'; cases e'; done) | (rename_i heq; injection heq with e'; cases e'; done) | (rename_i _ heq; injection heq with e'; cases e'; done))
              refine ⟨trivial, (CallsIn.inRound l (callsIn_wide.2 (HIs.out (e : Int) u3 H3.out.u8))).mono ?_⟩
              rintro _ u4 ⟨⟨b, rfl, hbb⟩, b4⟩
              obtain rfl : b = true := hbb.2 (by have := Ok.out.bo; rw [HE.out] at this; exact this)
              have H4 := Lib.hid (H3.out.below b4 hBE)
              have K4 := Lib.hid (K3.out.trans (KeepN.of_below _ T b4))
              clear b4 hbb H3 K3 hu3 d2 d2f
              have c4 := H4.out.bl.cell
              gi_wp2_with fail
              try any_goals (exfalso; first | (rename_i _ _ heq _; injection heq with e'; cases e'; done) | (rename_i heq _; injection heq with e'; cases e'; done) | (rename_i _ heq _; injection heq with e'; cases e'; done) | (rename_i heq; injection heq with e'; cases e'; done) | (rename_i _ heq; injection heq with e'; cases e'; done))
              refine ⟨trivial, (CallsIn.inRound l (callsIn_wide.2 (HLc.out c u4 hsm H4.out.u8))).mono ?_⟩
              rintro _ u5 ⟨gf2, lb2, rfl, b5, hgf2, hnil2, hseq2⟩
              have H5 := Lib.hid (H4.out.below b5 hBE)
              have K5 := Lib.hid (K4.out.trans (KeepN.of_below _ T b5))
              have HOn := Lib.hid (one13_any gf2 lb2 s f c false Ok.out u5 hgf2 (fun W' h' => by
                have h51 := H5.out.lt
                have h52 := h'.size
                exact hseq2 (fun k => k < u5.heap.size) W' (by show _ < _; omega) (by show _ < _; omega) (fun k _ h => h) ⟨h52, fun k hk _ => h'.block k hk⟩))
              have c4 := H5.out.bl.cell
              clear b5 hseq2 H4 K4 c2 c3 c1 c2f
              gi_wp2_with fail
              try any_goals (exfalso; first | (rename_i _ _ heq _; injection heq with e'; cases e'; done) | (rename_i heq _; injection heq with e'; cases e'; done) | (rename_i _ heq _; injection heq with e'; cases e'; done) | (rename_i heq; injection heq with e'; cases e'; done) | (rename_i _ heq; injection heq with e'; cases e'; done))
              refine ⟨trivial, (CallsIn.inRound l (callsIn_wide.2 HOn.out)).mono ?_⟩
              rintro _ u6 ⟨rfl, b6⟩
              have H6 := Lib.hid (H5.out.below b6 hBE)
              have K6 := Lib.hid (K5.out.trans (KeepN.of_below _ T b6))
              have c3 := H6.out.bn.cell
              have c3f := H6.out.bn.frozen
              have hwn : IntKind.i64.wrap ((n : Int) + 1) = ((n + 1 : Nat) : Int) := by rw [IntWalk.i64_in _ (by have := hpl.out; omega)]; omega
              have HZ := Lib.hid (show KeepN (fun k => k < E) T W (u6.setCell ⟨E + 1, 0, none⟩ (.int .i64 ((n + 1 : Nat) : Int))) ∧ _ from ⟨K6.out.trans (KeepN.setCell _ _ _ _ _ _ (by omega) (HnT.out _ (by omega))), Hfin.out _ (H6.out.setN hBE hE2 (n + 1))⟩)
              clear b6 HOn H5 K5 c4 hnil2 hgf2
              gi_wp2
              exact HZ.out
            · gi_wp2_with fail
              try any_goals (exfalso; first | (rename_i _ _ heq _; injection heq with e'; cases e'; done) | (rename_i heq _; injection heq with e'; cases e'; done) | (rename_i _ heq _; injection heq with e'; cases e'; done) | (rename_i heq; injection heq with e'; cases e'; done) | (rename_i _ heq; injection heq with e'; cases e'; done))
              try (refine ⟨trivial, ?_⟩; gi_wp2_with fail)
              try any_goals (exfalso; first | (rename_i _ _ heq _; injection heq with e'; cases e'; done) | (rename_i heq _; injection heq with e'; cases e'; done) | (rename_i _ heq _; injection heq with e'; cases e'; done) | (rename_i heq; injection heq with e'; cases e'; done) | (rename_i _ heq; injection heq with e'; cases e'; done))
              have H4 := H3
              have K4 := K3
              clear hu3 d2 d2f
              refine ⟨trivial, (CallsIn.inRound l (callsIn_wide.2 (HLc.out c u3 hsm H4.out.u8))).mono ?_⟩
              rintro _ u5 ⟨gf2, lb2, rfl, b5, hgf2, hnil2, hseq2⟩
              have H5 := Lib.hid (H4.out.below b5 hBE)
              have K5 := Lib.hid (K4.out.trans (KeepN.of_below _ T b5))
              have HOn := Lib.hid (one13_any gf2 lb2 s f c false Ok.out u5 hgf2 (fun W' h' => by
                have h51 := H5.out.lt
                have h52 := h'.size
                exact hseq2 (fun k => k < u5.heap.size) W' (by show _ < _; omega) (by show _ < _; omega) (fun k _ h => h) ⟨h52, fun k hk _ => h'.block k hk⟩))
              have c4 := H5.out.bl.cell
              clear b5 hseq2 H4 K4 c2 c3 c1 c2f
              gi_wp2_with fail
              try any_goals (exfalso; first | (rename_i _ _ heq _; injection heq with e'; cases e'; done) | (rename_i heq _; injection heq with e'; cases e'; done) | (rename_i _ heq _; injection heq with e'; cases e'; done) | (rename_i heq; injection heq with e'; cases e'; done) | (rename_i _ heq; injection heq with e'; cases e'; done))
              refine ⟨trivial, (CallsIn.inRound l (callsIn_wide.2 HOn.out)).mono ?_⟩
              rintro _ u6 ⟨rfl, b6⟩
              have H6 := Lib.hid (H5.out.below b6 hBE)
              have K6 := Lib.hid (K5.out.trans (KeepN.of_below _ T b6))
              have c3 := H6.out.bn.cell
              have c3f := H6.out.bn.frozen
              have hwn : IntKind.i64.wrap ((n : Int) + 1) = ((n + 1 : Nat) : Int) := by rw [IntWalk.i64_in _ (by have := hpl.out; omega)]; omega
              have HZ := Lib.hid (show KeepN (fun k => k < E) T W (u6.setCell ⟨E + 1, 0, none⟩ (.int .i64 ((n + 1 : Nat) : Int))) ∧ _ from ⟨K6.out.trans (KeepN.setCell _ _ _ _ _ _ (by omega) (HnT.out _ (by omega))), Hfin.out _ (H6.out.setN hBE hE2 (n + 1))⟩)
              clear b6 HOn H5 K5 c4 hnil2 hgf2
              gi_wp2
              exact HZ.out
  case done =>
    rintro D ys T W hD hT rfl ⟨m, h, hlm⟩ hK
    obtain ⟨p, x, hp⟩ : ∃ p x, ys = p ++ [x] := by
      rcases List.eq_nil_or_concat ys with e | ⟨p, x, e⟩
      · exact absurd e Hne.out
      · exact ⟨p, x, by simpa using e⟩
    have h3 := (Hs.out p x [] hp).2.2 rfl
    obtain rfl : m = false := lineOk_one (hlm.2 p x hp) h3.1
    have hend : endL ys = s.size := by rw [hp, endL_snoc]; exact h3.2
    have hpos : (0 : Int) < (ys.length : Int) := by rw [hp]; simp; try omega
    rw [hend] at h
    have c1 := h.bs.cell
    have c2 := h.be.cell
    have c3 := h.bn.cell
    have c4 := h.bl.cell
    have hss : ((s.size : Int) == (s.size : Int)) = true := by simp
    have HK := Lib.hid hK
    have Hwk := Lib.hid (HWk.out W h.u8)
    have Hh := Lib.hid h
    clear h hK hlm h3 hend hp
    go_wp2_with fail
    refine Hwk.out.mono ?_
    rintro _ u6 ⟨rfl, b6⟩
    have H6 := Lib.hid (Hh.out.below b6 hBE)
    have c5 := H6.out.br.cell
    have c5f := H6.out.br.frozen
    have B6 := Lib.hid b6
    clear b6
    go_wp2
    have hD1 := hT D hD
    have hk' : (u6.setCell ⟨B + 1, 0, none⟩ (.bool true)).heap[D]? = some (.deferred (some [])) := (KeepsOthers.setCell _ _ _).same D _ ((B6.out.block D hD1.2).trans HK.out) rfl
    have hc7 := cell_kept (H6.out.br.set (.bool true)).cell (grownBy_putObj' _ D (.deferred none)) (fun r e => by cases e; exact ⟨_, hk', rfl⟩)
    refine ⟨by simp, .inl ⟨_, _, rfl, run_takeDeferred hk', ?_⟩⟩
    have hfb : Below B w (u6.setCell ⟨B + 1, 0, none⟩ (.bool true)) := H6.out.bel.setCell (p := ⟨B + 1, 0, none⟩) (show B ≤ B + 1 by omega) _
    refine ⟨.bool true, ?_, rfl, hfb.trans (belowK_b (w := w) (by omega) _ D _ (.deferred none) (by omega) hk' rfl rfl)⟩
    simp [results, Tryd.f6, go_sem, hc7]
end Go.Proofs.YthkapcnhfdpdbaaDoor
