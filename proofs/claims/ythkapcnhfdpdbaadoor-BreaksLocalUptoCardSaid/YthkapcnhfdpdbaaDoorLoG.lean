/- Layer 13, pure: what holds of each line (BreaksWhole). -/
import Derived.Test.YthkapcnhfdpdbaaDoorBrkG
import Derived.Test.YthkapcnhfdpdbaaDoorBordG
import Derived.Test.YthkapcnhfdpdbaaDoorHlG
import Derived.Deep.RegionHeld3
set_option linter.unusedSimpArgs false
set_option linter.unusedVariables false
namespace Go.Proofs.YthkapcnhfdpdbaaDoor
open Go.RowKit Go.Lib

/-- of one line, at the byte f: m: does a Must end it? -/
structure LineOk (s : ByteArray) (f : Nat) (c : ByteArray) (m : Bool) : Prop where
  le : f + c.size ≤ s.size
  tx : s.extract f (f + c.size) = c
  sm : c.size ≤ 65536
  em : c.size = 0 → f = s.size
  wh : (whereN c).length ≤ c.size
  no : ∀ i, i + 1 < (whereN c).length → ∃ v, (whereN c)[i]? = some v ∧ v ≠ 2
  la : (0 < (whereN c).length ∧ (whereN c)[(whereN c).length - 1]? = some 2) ↔ m = true
  li : linesN c = if m = true then [(0, c), (c.size, ByteArray.empty)] else [(0, c)]
  bo : isB s ((f + c.size : Nat) : Int)
theorem extract_size (s : ByteArray) (f e : Nat) (h : f ≤ e) (he : e ≤ s.size) : (s.extract f e).size = e - f ∧ f + (s.extract f e).size = e := by
  have h1 : (s.extract f e).size = e - f := by rw [ByteArray.size_extract]; omega
  exact ⟨h1, by omega⟩
theorem hbw_isB (s : ByteArray) (i p : Nat) (h : HBw s i p) : isB s (p : Int) := by
  obtain ⟨k, hk, _, rfl⟩ := h
  exact ⟨k, hk, rfl⟩
theorem pcs_len_size (s : ByteArray) : (pcs s).length ≤ s.size := pcs_len s
theorem whereN_len (s : ByteArray) : (whereN s).length = (pcs s).length := by unfold whereN; rw [whereF_len, List.length_map]
/-- a line between two borders -/
theorem line_ok (s : ByteArray) (j i f e : Nat) (hj : HBw s j f) (hi : HBw s i e) (hji : j < i) (hil : i ≤ (pcs s).length) (hfe : f < e) (h1 : e - f ≤ 65536) (h2 : NoMust s j (i - 1)) (x : Nat × ByteArray) (hx : (pcs s)[i - 1]? = some x) :
    LineOk s f (s.extract f e) (brkN x.2 == 2) := by
  have hes := hbw_le s i e hi
  obtain ⟨z1, z2⟩ := extract_size s f e (by omega) hes
  obtain ⟨w1, w2, w3⟩ := where_line s j i f e hj hi hji hil h2 x hx
  refine ⟨by omega, by rw [z2], by omega, fun h => by omega, ?_, fun k hk => ?_, ?_, ?_, ?_⟩
  · rw [whereN_len]; exact pcs_len_size _
  · rw [w1] at hk
    obtain ⟨v, hv⟩ : ∃ v, (whereN (s.extract f e))[k]? = some v := ⟨_, List.getElem?_eq_getElem (by omega)⟩
    exact ⟨v, hv, fun e' => w2 k hk (by rw [hv, e'])⟩
  · rw [w1, w3, beq_iff_eq]
    exact ⟨fun h => h.2, fun h => ⟨by omega, h⟩⟩
  · have := line_alone s j i f e hj hi hji hil h1 h2 x hx
    rw [this]
    by_cases hb : brkN x.2 = 2 <;> simp [hb]
  · rw [z2]; exact hbw_isB s i e hi
theorem hbw_size (s : ByteArray) : HBw s (pcs s).length s.size := by
  rcases Nat.eq_zero_or_pos (pcs s).length with h | h
  · have h0 := hbw_zero s
    have h1 : HBw s (pcs s).length 0 := by rw [h]; exact h0
    have := hbw_end s 0 h1
    rw [← this]; exact h1
  · obtain ⟨y, hy⟩ : ∃ y, (pcs s)[(pcs s).length - 1]? = some y := ⟨_, List.getElem?_eq_getElem (by omega)⟩
    have hn := (hbw_next s _ y hy).2
    rw [show (pcs s).length - 1 + 1 = (pcs s).length by omega, pcs_lastend s y hy] at hn
    exact hn
/-- the empty one at the end -/
theorem line_empty (s : ByteArray) : LineOk s s.size ByteArray.empty false := by
  have hp : pcs ByteArray.empty = [] := List.eq_nil_of_length_eq_zero (by have := pcs_len_size ByteArray.empty; have e : ByteArray.size ByteArray.empty = 0 := rfl; omega)
  have hw : whereN ByteArray.empty = [] := List.eq_nil_of_length_eq_zero (by rw [whereN_len, hp]; rfl)
  have hz := hbw_size s
  refine ⟨by simp, ?_, by simp, fun _ => rfl, by rw [hw]; simp, fun i h => by rw [hw] at h; simp at h, by rw [hw]; simp, ?_, ?_⟩
  · have e : ByteArray.size ByteArray.empty = 0 := rfl
    rw [e, Nat.add_zero]
    apply ByteArray.ext
    simp
  · unfold linesN
    rw [hp]
    rfl
  · exact hbw_isB s _ _ (by simpa using hz)
/-- the lines, one behind the other -/
def ChainL (s : ByteArray) : Nat → List (Nat × ByteArray) → Prop
  | _, [] => False
  | f, [x] => x.1 = f ∧ LineOk s f x.2 false ∧ f + x.2.size = s.size
  | f, x :: y :: t => x.1 = f ∧ (∃ m, LineOk s f x.2 m ∧ 0 < x.2.size) ∧ ChainL s (f + x.2.size) (y :: t)
theorem chain_good (s : ByteArray) : ∀ (L : List (Nat × ByteArray)) (j f : Nat), GoodL s j f L → ChainL s f L
  | [], _, _, h => h.elim
  | [(a, c)], j, f, h => by
    obtain ⟨rfl, rfl, hf, h1, hj, hjl, hno⟩ := h
    rcases Nat.lt_or_ge j (pcs s).length with hlt | hge
    · obtain ⟨y, hy⟩ : ∃ y, (pcs s)[(pcs s).length - 1]? = some y := ⟨_, List.getElem?_eq_getElem (by omega)⟩
      have hy2 : brkN y.2 ≠ 2 := hno ((pcs s).length - 1) (by omega) (by omega) y hy
      have hfe : a < s.size := by
        obtain ⟨x0, hx0⟩ : ∃ x0, (pcs s)[j]? = some x0 := ⟨_, List.getElem?_eq_getElem hlt⟩
        have e := hbw_at s j a x0 hj hx0
        have := pcs_chain s j x0 hx0
        omega
      have ok := line_ok s j (pcs s).length a s.size hj (hbw_size s) hlt (Nat.le_refl _) hfe h1 (fun k h3 h4 => hno k h3 (by omega)) y hy
      rw [show (brkN y.2 == 2) = false by simpa using hy2] at ok
      exact ⟨rfl, ok, (extract_size s a s.size hf (Nat.le_refl _)).2⟩
    · have e : j = (pcs s).length := by omega
      subst e
      have ef := hbw_end s a hj
      subst ef
      have hem : s.extract s.size s.size = ByteArray.empty := by
        apply ByteArray.ext
        simp
      show s.size = s.size ∧ LineOk s s.size (s.extract s.size s.size) false ∧ s.size + (s.extract s.size s.size).size = s.size
      rw [hem]
      exact ⟨rfl, line_empty s, by simp⟩
  | (a, c) :: y :: t, j, f, h => by
    obtain ⟨rfl, i, e, hj, hi, hji, hil, hfe, hcc, h1, h2, h3⟩ := h
    subst hcc
    obtain ⟨x, hx⟩ : ∃ x, (pcs s)[i - 1]? = some x := ⟨_, List.getElem?_eq_getElem (by omega)⟩
    obtain ⟨z1, z2⟩ := extract_size s a e (by omega) (hbw_le s i e hi)
    refine ⟨rfl, ⟨_, line_ok s j i a e hj hi hji hil hfe h1 h2 x hx, show 0 < (s.extract a e).size by omega⟩, ?_⟩
    show ChainL s (a + (s.extract a e).size) (y :: t)
    rw [z2]
    exact chain_good s (y :: t) i e h3
theorem lines_chain (s : ByteArray) : ChainL s 0 (linesN s) := chain_good s _ 0 0 (lines_good s)
/-- of the lines that were gone over: where the last one ended, and whether by a Must -/
def endL : List (Nat × ByteArray) → Nat
  | [] => 0
  | x :: t => if t.isEmpty then x.1 + x.2.size else endL t
theorem endL_snoc : ∀ (p : List (Nat × ByteArray)) (x : Nat × ByteArray), endL (p ++ [x]) = x.1 + x.2.size
  | [], x => rfl
  | y :: t, x => by
    rw [List.cons_append, endL]
    have : (t ++ [x]).isEmpty = false := by simp
    rw [this]
    exact endL_snoc t x
theorem chain_at (s : ByteArray) : ∀ (p : List (Nat × ByteArray)) (x : Nat × ByteArray) (t : List (Nat × ByteArray)) (f : Nat), ChainL s f (p ++ x :: t) → x.1 = (if p.isEmpty then f else endL p) ∧ (∃ m, LineOk s x.1 x.2 m) ∧ (t = [] → LineOk s x.1 x.2 false ∧ x.1 + x.2.size = s.size) ∧ (t ≠ [] → 0 < x.2.size)
  | [], x, [], f, h => by
    obtain ⟨rfl, h1, h2⟩ := h
    exact ⟨rfl, ⟨_, h1⟩, fun _ => ⟨h1, h2⟩, fun h => absurd rfl h⟩
  | [], x, y :: t, f, h => by
    obtain ⟨rfl, ⟨m, h1, h2⟩, _⟩ := h
    refine ⟨rfl, ⟨m, h1⟩, ?_, fun _ => h2⟩
    intro h; simp at h
  | q :: p, x, t, f, h => by
    have hne : ∃ y r, p ++ x :: t = y :: r := by cases p with
      | nil => exact ⟨_, _, rfl⟩
      | cons y r => exact ⟨_, _, rfl⟩
    obtain ⟨y, r, e⟩ := hne
    have h' : ChainL s f (q :: y :: r) := by rw [← e]; exact h
    obtain ⟨rfl, _, h3⟩ := h'
    rw [← e] at h3
    have ih := chain_at s p x t _ h3
    refine ⟨?_, ih.2⟩
    rw [ih.1]
    simp only [List.isEmpty_cons, Bool.false_eq_true, if_false]
    rw [endL]
end Go.Proofs.YthkapcnhfdpdbaaDoor

/- Layer 13, pure: the piece that BreaksLocal puts together. -/
namespace Go.Proofs.YthkapcnhfdpdbaaDoor
open Go.RowKit Go.Lib

/-- where the cluster i begins -/
def plC (s : ByteArray) (i : Nat) : Nat := sumB ((pcs s).take i)
theorem plC_zero (s : ByteArray) : plC s 0 = 0 := rfl
theorem plC_at (s : ByteArray) (i : Nat) (x : Nat × ByteArray) (h : (pcs s)[i]? = some x) : x.1 = plC s i ∧ plC s (i + 1) = plC s i + x.2.size ∧ 0 < x.2.size ∧ plC s (i + 1) ≤ s.size := by
  have hc := pcs_chain s i x h
  have e : plC s (i + 1) = plC s i + x.2.size := by
    unfold plC
    rw [take_snoc _ _ _ h, sumB_append]
    simp [sumB]
  exact ⟨hc.1, e, hc.2.1, by rw [e, ← show x.1 = plC s i from hc.1]; exact hc.2.2⟩
theorem plC_hbw (s : ByteArray) (i : Nat) (hi : i ≤ (pcs s).length) : HBw s i (plC s i) := by
  rcases Nat.lt_or_ge i (pcs s).length with h | h
  · obtain ⟨x, hx⟩ : ∃ x, (pcs s)[i]? = some x := ⟨_, List.getElem?_eq_getElem h⟩
    have := (hbw_next s i x hx).1
    rw [(plC_at s i x hx).1] at this
    exact this
  · have e : i = (pcs s).length := by omega
    subst e
    have := hbw_size s
    unfold plC
    rw [List.take_length, pcs_sum]
    exact this
theorem plC_mono (s : ByteArray) {i j : Nat} (h : i ≤ j) : plC s i ≤ plC s j := by
  induction h with
  | refl => exact Nat.le_refl _
  | @step m _ ih =>
    rcases Nat.lt_or_ge m (pcs s).length with hl | hl
    · obtain ⟨x, hx⟩ : ∃ x, (pcs s)[m]? = some x := ⟨_, List.getElem?_eq_getElem hl⟩
      have := (plC_at s m x hx).2.1
      show plC s i ≤ plC s (m + 1)
      omega
    · have : plC s (m + 1) = plC s m := by unfold plC; rw [List.take_of_length_le (by omega), List.take_of_length_le (by omega)]
      show plC s i ≤ plC s (m + 1)
      omega
theorem plC_le (s : ByteArray) (i : Nat) : plC s i ≤ s.size := by
  rcases Nat.lt_or_ge i (pcs s).length with h | h
  · exact hbw_le s i _ (plC_hbw s i (by omega))
  · have := hbw_le s _ _ (plC_hbw s (pcs s).length (Nat.le_refl _))
    unfold plC at this ⊢
    rw [List.take_length] at this
    rw [List.take_of_length_le h]
    exact this
theorem pc_text (s : ByteArray) (i : Nat) (x : Nat × ByteArray) (h : (pcs s)[i]? = some x) : x.2 = s.extract (plC s i) (plC s (i + 1)) := by
  have h1 := plC_at s i x h
  have hj := (List.getElem?_eq_some_iff.1 h).1
  obtain ⟨k, hk, hd⟩ := split_at s i (by omega)
  obtain ⟨hkc, hx⟩ := drop_at s i k hd hj
  rw [h] at hx
  have hx := Option.some.inj hx
  have hp : placeAt s k = plC s i := by rw [← h1.1, hx]
  have hb := clEnd_bounds hkc
  have h3 := pc_size s k
  have h4 := placeAt_mono s (Nat.le_of_lt hb.1)
  have he : placeAt s (clEnd s k) = plC s (i + 1) := by
    rw [h1.2.1, ← hp, hx]
    show _ = placeAt s k + (s.extract (placeAt s k) (placeAt s (clEnd s k))).size
    omega
  rw [hx, ← hp, ← he]
theorem ext_join (s : ByteArray) (a b c : Nat) (h1 : a ≤ b) (h2 : b ≤ c) : s.extract a b ++ s.extract b c = s.extract a c := by
  apply ByteArray.ext
  simp only [ByteArray.data_append, ByteArray.data_extract]
  apply Array.ext'
  simp only [Array.toList_append, Array.toList_extract, List.extract_eq_take_drop]
  have e : c - a = (b - a) + (c - b) := by omega
  rw [e, List.take_add, List.drop_drop]
  congr 2
  rw [show a + (b - a) = b by omega]
theorem piece_next (s : ByteArray) (a i : Nat) (x : Nat × ByteArray) (h : (pcs s)[i]? = some x) (ha : a ≤ plC s i) : s.extract a (plC s i) ++ x.2 = s.extract a (plC s (i + 1)) := by
  rw [pc_text s i x h]
  exact ext_join s _ _ _ ha (plC_mono s (Nat.le_succ i))
theorem local_piece (s : ByteArray) (k n : Nat) (hk : k < (pcs s).length) (hn : n ≤ k) (hs : n = 0 ∨ ∀ x, (pcs s)[n]? = some x → brkN x.2 ≠ 1) :
    (pcs (s.extract (plC s n) (plC s (min (pcs s).length (k + 2))))).length = min (pcs s).length (k + 2) - n ∧
      (whereN (s.extract (plC s n) (plC s (min (pcs s).length (k + 2)))))[k - n]? = (whereN s)[k]? := by
  obtain ⟨i, hi⟩ : ∃ i, min (pcs s).length (k + 2) = i := ⟨_, rfl⟩
  rw [hi]
  have hni : n < i := by omega
  have hil : i ≤ (pcs s).length := by omega
  obtain ⟨h1, h2⟩ := line_pcs s n i _ _ (plC_hbw s n (by omega)) (plC_hbw s i hil) hni hil
  refine ⟨h1, ?_⟩
  have hC : (pcs (s.extract (plC s n) (plC s i))).map (fun x => brkN x.2) = (((pcs s).map fun x => brkN x.2).drop n).take (k + 2 - n) := by
    apply List.ext_getElem?
    intro j
    rw [List.getElem?_map, List.getElem?_take]
    rcases Nat.lt_or_ge j (i - n) with hj | hj
    · obtain ⟨y, hy⟩ : ∃ y, (pcs (s.extract (plC s n) (plC s i)))[j]? = some y := ⟨_, List.getElem?_eq_getElem (by omega)⟩
      obtain ⟨x, hx⟩ : ∃ x, (pcs s)[n + j]? = some x := ⟨_, List.getElem?_eq_getElem (by omega)⟩
      rw [hy, if_pos (by omega), List.getElem?_drop, List.getElem?_map, hx]
      simp [(h2 j x y hx hy).1]
    · rw [List.getElem?_eq_none (by omega)]
      split
      · rw [List.getElem?_drop, List.getElem?_eq_none (by rw [List.length_map]; omega)]
        rfl
      · rfl
  unfold whereN
  rw [hC]
  refine where_piece _ n k (by rw [List.length_map]; exact hk) hn ?_
  rcases hs with h | h
  · exact .inl h
  · refine .inr fun e => ?_
    rw [List.getElem?_map] at e
    obtain ⟨x, hx⟩ : ∃ x, (pcs s)[n]? = some x := ⟨_, List.getElem?_eq_getElem (by omega)⟩
    rw [hx] at e
    exact h x hx (Option.some.inj e)
end Go.Proofs.YthkapcnhfdpdbaaDoor

/- Layer 13, the law BreaksLocal, over the program's contracts. (Made by tools/mklocal13.py.) -/
namespace Go.Proofs.YthkapcnhfdpdbaaDoor
open Go.RowKit Go.Lib

theorem below_DB {B : Nat} {a w : World} (h : Below B a w) : Below B a w.drew := ⟨h.os, h.tape, h.output, h.size, h.block⟩
theorem whv_at {W : World} {B n : Nat} {A : Option Addr} {l : List Nat} (h : Rd W B 1 A n (whV l)) {i v : Nat} (hv : l[i]? = some v) : ∃ a, A = some a ∧ a.block < B ∧ W.cell? (a.add i) = some (.int .i8 (v : Int)) := by
  have hi := (List.getElem?_eq_some_iff.1 hv).1
  have hl := h.1
  unfold whV at hl
  rw [List.length_map] at hl
  obtain ⟨a, rfl, hb, hc⟩ := h.addr (by omega)
  exact ⟨a, rfl, hb, hc i _ (by unfold whV; rw [List.getElem?_map, hv]; rfl)⟩
theorem str_at {W : World} {B n : Nat} {A : Option Addr} {L : List (Nat × ByteArray)} (h : Rd W B 1 A n (strV L)) {i : Nat} {x : Nat × ByteArray} (hv : L[i]? = some x) : ∃ a, A = some a ∧ a.block < B ∧ W.cell? (a.add i) = some (.string x.2) := by
  have hi := (List.getElem?_eq_some_iff.1 hv).1
  have hl := h.1
  simp at hl
  obtain ⟨a, rfl, hb, hc⟩ := h.addr (by omega)
  exact ⟨a, rfl, hb, hc i _ (by rw [List.getElem?_map, hv]; rfl)⟩
/-- what is on hand from the time on at which the clusters were collected -/
structure LoE (w : World) (B n : Nat) (A1 A2 : Option Addr) (l : List Nat) (L : List (Nat × ByteArray)) (M : Nat) (W : World) : Prop where
  r1 : Rd W M 1 A1 n (whV l)
  r2 : Rd W M 1 A2 n (strV L)
  u8 : Utf8Tabs 0 1 W
  bel : Below B w W
  size : M ≤ W.heap.size
theorem LoE.below {w : World} {B n M : Nat} {A1 A2 : Option Addr} {l : List Nat} {L : List (Nat × ByteArray)} {W W' : World} (h : LoE w B n A1 A2 l L M W) (hb : Below W.heap.size W W') (hM : B ≤ M) : LoE w B n A1 A2 l L M W' :=
  ⟨h.r1.below (hb.mono h.size), h.r2.below (hb.mono h.size), Utf8Tabs_below h.u8 hb, h.bel.trans (hb.mono (Nat.le_trans hM h.size)), Nat.le_trans h.size hb.size⟩
theorem LoE.drew {w : World} {B n M : Nat} {A1 A2 : Option Addr} {l : List Nat} {L : List (Nat × ByteArray)} {W : World} (h : LoE w B n A1 A2 l L M W) : LoE w B n A1 A2 l L M W.drew :=
  ⟨h.r1, h.r2, h.u8, below_DB h.bel, h.size⟩
theorem add_blockB (a : Addr) (j : Nat) : (a.add j).block = a.block := by unfold Addr.add; split <;> rfl
set_option maxRecDepth 100000 in
set_option maxHeartbeats 16000000 in
theorem breaksLocal_any (H : BreakP) (s : ByteArray) (k : Int) (w : World) (hs : s.size ≤ 536870912) (hT : Utf8Tabs 0 1 w) :
    Calls Tryd.prog 5 #[.string s, .int .i64 k] w fun e w' => e = .returned (.bool true) ∧ Below w.heap.size w w' := by
  have HWh := Lib.hid (fun (c : ByteArray) W (hc : c.size ≤ 536870912) hT => H.where_ c W hc hT)
  have HPt := Lib.hid (fun (c : ByteArray) W (hc : c.size ≤ 536870912) hT => parts13_any c W (by omega) hT)
  have HKd := Lib.hid (fun (c : ByteArray) W (hc : 0 < c.size) hT => kind13_any c W hc hT)
  have HWk := Lib.hid (fun W hT => wakes13_any H W hT)
  have hwl := whereN_len s
  have hpl := pcs_len s
  have HV := Lib.hid (show ∀ (i : Nat) (x : Nat × ByteArray), (pcs s)[i]? = some x → ∃ v, (whereN s)[i]? = some v ∧ v ≤ 2 ∧ (v = 2 ↔ brkN x.2 = 2) ∧ 0 < x.2.size from fun i x hx => by
    have hi := (List.getElem?_eq_some_iff.1 hx).1
    obtain ⟨v, hv⟩ : ∃ v, (whereN s)[i]? = some v := ⟨_, List.getElem?_eq_getElem (by omega)⟩
    refine ⟨v, hv, ?_, ?_, (plC_at s i x hx).2.2.1⟩
    · exact whereF_le _ _ v (List.mem_of_getElem? hv)
    · have h := whereF_must ((pcs s).map fun x => brkN x.2) (-1) i
      rw [List.getElem?_map, hx] at h
      have hv' : (whereF (-1) ((pcs s).map fun x => brkN x.2))[i]? = some v := hv
      rw [hv'] at h
      constructor
      · intro e
        subst e
        exact Option.some.inj (h.1 rfl)
      · intro e
        have := h.2 (by show some (brkN x.2) = some 2; rw [e])
        exact Option.some.inj this)
  have HP := Lib.hid (fun (a i : Nat) (x : Nat × ByteArray) (h : (pcs s)[i]? = some x) (ha : a ≤ plC s i) => piece_next s a i x h ha)
  have HLo := Lib.hid (fun (k n : Nat) (hk : k < (pcs s).length) (hn : n ≤ k) (hs : n = 0 ∨ ∀ x : Nat × ByteArray, (pcs s)[n]? = some x → brkN x.2 ≠ 1) => local_piece s k n hk hn hs)
  have HPl := Lib.hid (show (∀ i, plC s i ≤ s.size) ∧ (∀ i j, i ≤ j → plC s i ≤ plC s j) ∧ (∀ (i : Nat) (x : Nat × ByteArray), (pcs s)[i]? = some x → plC s (i + 1) = plC s i + x.2.size) from ⟨plC_le s, fun i j h => plC_mono s h, fun i x h => (plC_at s i x h).2.1⟩)
  have hW1 := HWh.out s w hs hT
  have hP1 := fun W hT => HPt.out s W hs hT
  obtain ⟨l, hle⟩ : ∃ l, whereN s = l := ⟨_, rfl⟩
  obtain ⟨L, hLe⟩ : ∃ L, pcs s = L := ⟨_, rfl⟩
  obtain ⟨n, hne⟩ : ∃ n, L.length = n := ⟨_, rfl⟩
  rw [hLe, hne] at hpl hP1 HLo
  rw [hLe] at HV HP hwl HPl
  rw [hne] at hwl
  rw [hle] at HV HLo hW1 hwl
  rw [hwl] at hW1
  have Hn := Lib.hid hne
  obtain ⟨B, hB⟩ : ∃ B, w.heap.size = B := ⟨_, rfl⟩
  have HT := Lib.hid hT
  have HW1 := Lib.hid hW1
  have HP1 := Lib.hid hP1
  rw [hB] at HW1 ⊢
  have HB := Lib.hid hB
  clear hle hLe hne hT hwl hW1 hP1 hB
  go_enter Tryd.func5, Tryd.ntmps5
  go_wp2_with fail
  refine HW1.out.mono ?_
  rintro _ w1 ⟨A1, c1, rfl, o1, b1⟩
  have hT1 := Utf8Tabs_below HT.out (by rw [HB.out]; exact b1)
  have R1 := Lib.hid (show Rd w1 w1.heap.size 1 A1 n (whV l) ∧ Below B w w1 from ⟨Rd.own o1, b1⟩)
  have HP2 := Lib.hid (HP1.out w1 hT1)
  have HT1 := Lib.hid hT1
  clear o1 b1 HW1 HP1 hT1
  go_wp2_with fail
  refine HP2.out.mono ?_
  rintro _ w2 ⟨A2, c2, rfl, o2, b2⟩
  obtain ⟨M, hM⟩ : ∃ M, w2.heap.size = M := ⟨_, rfl⟩
  have hBM : B ≤ M := by have h1 := R1.out.2.size; have h2 := b2.size; have := HB.out; omega
  have hs12 := b2.size
  have E2 := Lib.hid (show LoE w B n A1 A2 l L M w2 from by
    refine ⟨?_, ?_, Utf8Tabs_below HT1.out b2, R1.out.2.trans (b2.mono (by have h1 := R1.out.2.size; have := HB.out; omega)), by omega⟩
    · have := R1.out.1.below b2
      exact this.more (by omega)
    · have := Rd.own o2
      rw [hM] at this
      exact this)
  clear o2 b2 HP2 R1 HT1 HT hM
  have hnn : ((n : Int) != (n : Int)) = false := by simp
  go_wp2_with fail
  go_loopw [8] (fun y wr => ∃ (i : Nat) (W : World), W = wr ∧ y = .int .i64 (i : Int) ∧ i ≤ n ∧ Hid (LoE w B n A1 A2 l L M W)) (fun y _ => n - (RowKit.intOf y).toNat)
  case atStart => exact ⟨0, _, rfl, rfl, Nat.zero_le _, E2⟩
  case round =>
    obtain ⟨i, W, hW, rfl, hin, HI⟩ := hrel
    subst hW
    clear E2
    rcases Nat.lt_or_ge i n with hlt | hge
    · obtain ⟨x, hx⟩ : ∃ x, L[i]? = some x := ⟨_, List.getElem?_eq_getElem (by rw [Hn.out]; exact hlt)⟩
      obtain ⟨v, hv, hv2, hvb, hxs⟩ := HV.out i x hx
      have O := Lib.hid HI.out.drew
      obtain ⟨a1, hA1, ha1, d1⟩ := whv_at O.out.r1 hv
      obtain ⟨a2, hA2, ha2, d2⟩ := str_at O.out.r2 hx
      subst hA1
      subst hA2
      have ha1M : (a1.add i).block < M := by rw [add_blockB]; exact ha1
      have ha2M : (a2.add i).block < M := by rw [add_blockB]; exact ha2
      have hini : (i : Int) < (n : Int) := by omega
      have hi0 : (0 : Int) ≤ (i : Int) := by omega
      have hnext : IntKind.i64.wrap ((i : Int) + 1) = (i : Int) + 1 := IntWalk.i64_in _ (by omega)
      have HC := Lib.hid (fun W hT => HKd.out x.2 W hxs hT)
      obtain ⟨c, hc⟩ : ∃ c, x.2 = c := ⟨_, rfl⟩
      obtain ⟨b, hb⟩ : ∃ b, brkN c = b := ⟨_, rfl⟩
      rw [hc, hb] at hvb HC
      rw [hc] at d2
      clear hx hv ha1 ha2 hc hb hxs
      have hv3 : v = 0 ∨ v = 1 ∨ v = 2 := by omega
      rcases hv3 with rfl | rfl | rfl
      · have hb2 : ((b : Int) == 2) = false := by simp; omega
        clear hvb
        have d1 : W.drew.cell? (a1.add i) = some (.int .i8 0) := d1
        go_wp2_with fail
        go_region_held3 (fun W' => W'.cell? (a1.add i) = some (.int .i8 0) ∧ W'.cell? (a2.add i) = some (.string c))
          (first | exact ⟨d1, d2⟩ | exact ⟨e1, e2⟩)
          (first | (go_simp; go_at_call 15; refine (HC.out _ O.out.u8).mono ?_; rintro e4 w4 ⟨rfl, b4⟩; have e1 := (b4.cell (p := a1.add i) (Nat.lt_of_lt_of_le ha1M O.out.size)).trans d1; have e2 := (b4.cell (p := a2.add i) (Nat.lt_of_lt_of_le ha2M O.out.size)).trans d2; have O := Lib.hid (O.out.below b4 hBM); clear b4))
        go_wp2_with fail
        go_roundw
        case rel => exact ⟨i + 1, _, rfl, by first | rfl | go_num, hlt, O⟩
        case measure => simp [RowKit.intOf]; omega
      · have hb2 : ((b : Int) == 2) = false := by simp; omega
        clear hvb
        have d1 : W.drew.cell? (a1.add i) = some (.int .i8 1) := d1
        go_wp2_with fail
        go_region_held3 (fun W' => W'.cell? (a1.add i) = some (.int .i8 1) ∧ W'.cell? (a2.add i) = some (.string c))
          (first | exact ⟨d1, d2⟩ | exact ⟨e1, e2⟩)
          (first | (go_simp; go_at_call 15; refine (HC.out _ O.out.u8).mono ?_; rintro e4 w4 ⟨rfl, b4⟩; have e1 := (b4.cell (p := a1.add i) (Nat.lt_of_lt_of_le ha1M O.out.size)).trans d1; have e2 := (b4.cell (p := a2.add i) (Nat.lt_of_lt_of_le ha2M O.out.size)).trans d2; have O := Lib.hid (O.out.below b4 hBM); clear b4))
        go_wp2_with fail
        go_roundw
        case rel => exact ⟨i + 1, _, rfl, by first | rfl | go_num, hlt, O⟩
        case measure => simp [RowKit.intOf]; omega
      · obtain rfl : b = 2 := hvb.1 rfl
        clear hvb
        have d1 : W.drew.cell? (a1.add i) = some (.int .i8 2) := d1
        go_wp2_with fail
        go_region_held3 (fun W' => W'.cell? (a1.add i) = some (.int .i8 2) ∧ W'.cell? (a2.add i) = some (.string c))
          (first | exact ⟨d1, d2⟩ | exact ⟨e1, e2⟩)
          (first | (go_simp; go_at_call 15; refine (HC.out _ O.out.u8).mono ?_; rintro e4 w4 ⟨rfl, b4⟩; have e1 := (b4.cell (p := a1.add i) (Nat.lt_of_lt_of_le ha1M O.out.size)).trans d1; have e2 := (b4.cell (p := a2.add i) (Nat.lt_of_lt_of_le ha2M O.out.size)).trans d2; have O := Lib.hid (O.out.below b4 hBM); clear b4))
        go_wp2_with fail
        go_roundw
        case rel => exact ⟨i + 1, _, rfl, by first | rfl | go_num, hlt, O⟩
        case measure => simp [RowKit.intOf]; omega
    · obtain rfl : i = n := by omega
      have hnn2 : ¬ (i : Int) < (i : Int) := by omega
      clear hin hge
      rcases Nat.eq_zero_or_pos i with hi0 | hi0
      · subst hi0
        have HK0 := Lib.hid (HWk.out W HI.out.u8)
        go_wp2_with fail
        refine HK0.out.mono ?_
        rintro _ w5 ⟨rfl, b5⟩
        have O := Lib.hid (HI.out.below b5 hBM)
        clear b5
        go_wp2_with fail
        go_ret
        exact ⟨rfl, O.out.bel⟩
      have hnz : ((i : Int) == 0) = false := by simp; omega
      have h1 := Int.tmod_lt_of_pos k (show (0 : Int) < (i : Int) by omega)
      have h2 : -(i : Int) < k.tmod (i : Int) := Int.lt_tmod_of_pos k (show (0 : Int) < (i : Int) by omega)
      have hk0 : (i : Int) ≠ 0 := by omega
      obtain ⟨rr, hrr⟩ : ∃ rr, k.tmod (i : Int) = rr := ⟨_, rfl⟩
      rw [hrr] at h1 h2
      have hwr : IntKind.i64.wrap rr = rr := IntWalk.i64_in _ (by omega)
      have hwr2 : IntKind.i64.wrap (rr + (i : Int)) = rr + (i : Int) := by
        by_cases hneg : rr < 0
        · exact IntWalk.i64_in _ (by omega)
        · exact IntWalk.i64_in _ (by omega)
      by_cases hneg : rr < 0
      · obtain ⟨kk, hkk⟩ : ∃ kk : Nat, rr + (i : Int) = (kk : Int) := ⟨(rr + i).toNat, by omega⟩
        have hkn : kk < i := by omega
        have hwr3 : IntKind.i64.wrap (rr + (i : Int)) = (kk : Int) := hwr2.trans hkk
        clear hwr2
        have HKK := Lib.hid hkk
        clear hkk h1 h2
        go_wp2_with fail
        go_loopw [9] (fun y wr => ∃ (j : Nat) (W : World), W = wr ∧ y = .int .i64 (j : Int) ∧ j ≤ kk ∧ Hid (LoE w B i A1 A2 l L M W)) (fun y _ => (RowKit.intOf y).toNat)
        case atStart => exact ⟨kk, _, rfl, rfl, Nat.le_refl _, HI⟩
        case round =>
          obtain ⟨j, W, hW, rfl, hjk, HI⟩ := hrel
          subst hW
          rcases Nat.eq_zero_or_pos j with hj0 | hj0
          · have hsol : j = 0 ∨ ∀ x, L[j]? = some x → brkN x.2 ≠ 1 := .inl hj0
            have hj0n : ¬ ((0 : Int) < (j : Int)) := by omega
            clear hj0
            have hLp := HLo.out kk j hkn hjk hsol
            clear hsol
            obtain ⟨q, hq⟩ : ∃ q, min i (kk + 2) = q := ⟨_, rfl⟩
            rw [hq] at hLp
            have hjq : j ≤ q := by omega
            have hqi : q ≤ i := by omega
            have HQq := Lib.hid hq
            have HLp := Lib.hid hLp
            have hp0 : s.extract (plC s j) (plC s j) = ⟨#[]⟩ := by
              have : (s.extract (plC s j) (plC s j)).size = 0 := by rw [ByteArray.size_extract]; omega
              apply ByteArray.ext
              apply Array.eq_empty_of_size_eq_zero
              exact this
            have Hp0 := Lib.hid hp0
            have hk1 : IntKind.i64.wrap ((kk : Int) + 1) = (kk : Int) + 1 := IntWalk.i64_in _ (by omega)
            clear hq hLp hp0
            go_wp2_with fail
            go_loopw [10, 11] (fun p y wr => wr = W ∧ ∃ r : Nat, j ≤ r ∧ r ≤ q ∧ y = .int .i64 (r : Int) ∧ p = .string (s.extract (plC s j) (plC s r))) (fun _ y _ => q - (RowKit.intOf y).toNat)
            case atStart => exact ⟨rfl, j, Nat.le_refl _, hjq, rfl, by rw [Hp0.out]⟩
            case round =>
              obtain ⟨hw, r, hjr, hrq, rfl, rfl⟩ := hrel
              subst hw
              rcases Nat.lt_or_ge r q with hlt | hge
              · obtain ⟨x, hx⟩ : ∃ x, L[r]? = some x := ⟨_, List.getElem?_eq_getElem (by rw [Hn.out]; omega)⟩
                obtain ⟨a2, hA2, ha2, d2⟩ := str_at HI.out.r2 hx
                first | subst hA2 | (injection hA2 with hA2; subst hA2)
                have hri : (r : Int) < (i : Int) := by omega
                have hrk : (r : Int) ≤ (kk : Int) + 1 := by have := HQq.out; omega
                have hr0 : (0 : Int) ≤ (r : Int) := by omega
                have hrn : IntKind.i64.wrap ((r : Int) + 1) = (r : Int) + 1 := IntWalk.i64_in _ (by omega)
                have hps := HPl.out.1 (r + 1)
                have hpx := HPl.out.2.2 r x hx
                have hp1 := HPl.out.2.1 j r hjr
                have hsz : (s.extract (plC s j) (plC s r)).size ≤ 536870912 := by rw [ByteArray.size_extract]; omega
                have hxz : x.2.size ≤ 536870912 := by omega
                have HN := Lib.hid (show s.extract (plC s j) (plC s r) ++ x.2 = s.extract (plC s j) (plC s (r + 1)) from HP.out (plC s j) r x hx hp1)
                obtain ⟨P, hP⟩ : ∃ P, s.extract (plC s j) (plC s r) = P := ⟨_, rfl⟩
                obtain ⟨c, hc⟩ : ∃ c, x.2 = c := ⟨_, rfl⟩
                rw [hP] at HN hsz ⊢
                rw [hc] at HN hxz d2
                clear hx ha2 hps hpx hp1 hP hc
                go_wp2_with fail
                go_roundw
                case rel => exact ⟨trivial, r + 1, by omega, by omega, by first | rfl | go_num, by rw [HN.out]⟩
                case measure => simp [RowKit.intOf]; omega
              · obtain rfl : r = q := by omega
                obtain ⟨P, hP⟩ : ∃ P, s.extract (plC s j) (plC s r) = P := ⟨_, rfl⟩
                have hPs : P.size ≤ 536870912 := by rw [← hP, ByteArray.size_extract]; have := HPl.out.1 r; omega
                rw [hP] at HLp ⊢
                have HP3 := Lib.hid (HPt.out P wr hPs HI.out.u8)
                have HW3 := Lib.hid (fun W hT => HWh.out P W hPs hT)
                have hwl3 := whereN_len P
                rw [HLp.out.1] at HP3 hwl3
                obtain ⟨lp, hlp⟩ : ∃ lp, whereN P = lp := ⟨_, rfl⟩
                rw [hlp] at HW3 HLp hwl3
                rw [hwl3] at HW3
                obtain ⟨m, hm⟩ : ∃ m, r - j = m := ⟨_, rfl⟩
                rw [hm] at HP3 HW3
                have HWs := Lib.hid (show (∃ v, l[kk]? = some v ∧ lp[kk - j]? = some v) from by
                  obtain ⟨x, hx⟩ : ∃ x, L[kk]? = some x := ⟨_, List.getElem?_eq_getElem (by rw [Hn.out]; exact hkn)⟩
                  obtain ⟨v, hv, _⟩ := HV.out kk x hx
                  exact ⟨v, hv, by rw [HLp.out.2]; exact hv⟩)
                have hmz : kk - j < m := by have := HQq.out; omega
                have hk2 : IntKind.i64.wrap ((kk : Int) + 2) = (kk : Int) + 2 := IntWalk.i64_in _ (by omega)
                have hmin : min (i : Int) ((kk : Int) + 2) = (r : Int) := by have := HQq.out; omega
                have hsub : IntKind.i64.wrap ((r : Int) - (j : Int)) = (m : Int) := by rw [IntWalk.i64_in _ (by omega)]; omega
                have hsub2 : IntKind.i64.wrap ((kk : Int) - (j : Int)) = ((kk - j : Nat) : Int) := by rw [IntWalk.i64_in _ (by omega)]; omega
                have hmm : ((m : Int) != (m : Int)) = false := by simp
                have hmm2 : ((m : Int) == (m : Int)) = true := by simp
                obtain ⟨z, hz⟩ : ∃ z, kk - j = z := ⟨_, rfl⟩
                rw [hz] at hsub2 HWs hmz
                clear hP hlp hwl3 hm hge HLp hPs hz
                have hzm : (z : Int) < (m : Int) := by omega
                have hz0 : (0 : Int) ≤ (z : Int) := by omega
                have hkki : (kk : Int) < (i : Int) := by omega
                have hkk0 : (0 : Int) ≤ (kk : Int) := by omega
                by_cases hri : (r : Int) < (i : Int)
                · have hrk : ¬ ((r : Int) ≤ (kk : Int) + 1) := by have := HQq.out; omega
                  go_wp2_with fail
                  refine HP3.out.mono ?_
                  rintro _ w3 ⟨A3, c3, rfl, o3, b3⟩
                  have HI3 := Lib.hid (HI.out.below b3 hBM)
                  clear o3 b3
                  go_wp2_with fail
                  refine (HW3.out _ HI3.out.u8).mono ?_
                  rintro _ w4 ⟨A4, c4, rfl, o4, b4⟩
                  have HI4 := Lib.hid (HI3.out.below b4 hBM)
                  have O := Lib.hid HI4.out.drew
                  obtain ⟨v, hv, hlv⟩ := HWs.out
                  obtain ⟨a1, hA1, ha1, d1⟩ := whv_at O.out.r1 hv
                  have r4 : Rd w4 w4.heap.size 1 A4 m (whV lp) := Rd.own o4
                  have r4d : Rd w4.drew w4.heap.size 1 A4 m (whV lp) := r4
                  obtain ⟨a4, hA4, ha4, d4⟩ := whv_at r4d hlv
                  subst hA1
                  subst hA4
                  have ha1M : (a1.add kk).block < w4.drew.heap.size := by rw [add_blockB]; exact Nat.lt_of_lt_of_le ha1 O.out.size
                  have ha4M : (a4.add z).block < w4.drew.heap.size := by rw [add_blockB]; exact ha4
                  have hvv : ((v : Int) == (v : Int)) = true := by simp
                  clear o4 b4 hv hlv ha1 ha4 r4 r4d HI3 HI
                  go_wp2_with fail
                  go_region_held3 (fun W' => W'.cell? (a1.add kk) = some (.int .i8 (v : Int)) ∧ W'.cell? (a4.add z) = some (.int .i8 (v : Int)))
                    (first | exact ⟨d1, d4⟩ | exact ⟨e1, e2⟩)
                    (first | (go_simp; go_at_call 10; refine (HWk.out _ O.out.u8).mono ?_; rintro e5 w5 ⟨rfl, b5⟩; have e1 := (b5.cell (p := a1.add kk) ha1M).trans d1; have e2 := (b5.cell (p := a4.add z) ha4M).trans d4; have O := Lib.hid (O.out.below b5 hBM); clear b5))
                  have HBl := Lib.hid O.out.bel
                  go_wp2_with fail
                  go_ret
                  exact ⟨rfl, HBl.out⟩
                · go_wp2_with fail
                  refine HP3.out.mono ?_
                  rintro _ w3 ⟨A3, c3, rfl, o3, b3⟩
                  have HI3 := Lib.hid (HI.out.below b3 hBM)
                  clear o3 b3
                  go_wp2_with fail
                  refine (HW3.out _ HI3.out.u8).mono ?_
                  rintro _ w4 ⟨A4, c4, rfl, o4, b4⟩
                  have HI4 := Lib.hid (HI3.out.below b4 hBM)
                  have O := Lib.hid HI4.out.drew
                  obtain ⟨v, hv, hlv⟩ := HWs.out
                  obtain ⟨a1, hA1, ha1, d1⟩ := whv_at O.out.r1 hv
                  have r4 : Rd w4 w4.heap.size 1 A4 m (whV lp) := Rd.own o4
                  have r4d : Rd w4.drew w4.heap.size 1 A4 m (whV lp) := r4
                  obtain ⟨a4, hA4, ha4, d4⟩ := whv_at r4d hlv
                  subst hA1
                  subst hA4
                  have ha1M : (a1.add kk).block < w4.drew.heap.size := by rw [add_blockB]; exact Nat.lt_of_lt_of_le ha1 O.out.size
                  have ha4M : (a4.add z).block < w4.drew.heap.size := by rw [add_blockB]; exact ha4
                  have hvv : ((v : Int) == (v : Int)) = true := by simp
                  clear o4 b4 hv hlv ha1 ha4 r4 r4d HI3 HI
                  go_wp2_with fail
                  go_region_held3 (fun W' => W'.cell? (a1.add kk) = some (.int .i8 (v : Int)) ∧ W'.cell? (a4.add z) = some (.int .i8 (v : Int)))
                    (first | exact ⟨d1, d4⟩ | exact ⟨e1, e2⟩)
                    (first | (go_simp; go_at_call 10; refine (HWk.out _ O.out.u8).mono ?_; rintro e5 w5 ⟨rfl, b5⟩; have e1 := (b5.cell (p := a1.add kk) ha1M).trans d1; have e2 := (b5.cell (p := a4.add z) ha4M).trans d4; have O := Lib.hid (O.out.below b5 hBM); clear b5))
                  have HBl := Lib.hid O.out.bel
                  go_wp2_with fail
                  go_ret
                  exact ⟨rfl, HBl.out⟩
          · obtain ⟨x, hx⟩ : ∃ x, L[j]? = some x := ⟨_, List.getElem?_eq_getElem (by rw [Hn.out]; omega)⟩
            obtain ⟨_, _, _, _, hxs⟩ := HV.out j x hx
            obtain ⟨a2, hA2, ha2, d2⟩ := str_at HI.out.r2 hx
            subst hA2
            have HC := Lib.hid (HKd.out x.2 W hxs HI.out.u8)
            have hj0i : (0 : Int) < (j : Int) := by omega
            have hj0l : (0 : Int) ≤ (j : Int) := by omega
            have hjn : (j : Int) < (i : Int) := by omega
            have hjs : IntKind.i64.wrap ((j : Int) - 1) = ((j - 1 : Nat) : Int) := by rw [IntWalk.i64_in _ (by omega)]; omega
            have Hx := Lib.hid hx
            have Hc := Lib.hid (show ∃ c, x.2 = c from ⟨_, rfl⟩)
            obtain ⟨b, hb⟩ : ∃ b, brkN x.2 = b := ⟨_, rfl⟩
            rw [hb] at HC
            have Hb := Lib.hid hb
            clear hx ha2 hxs hb
            go_wp2_with fail
            refine HC.out.mono ?_
            rintro _ w9 ⟨rfl, b9⟩
            have HI9 := Lib.hid (HI.out.below b9 hBM)
            clear b9 HC HI d2
            by_cases hb1 : b = 1
            · subst hb1
              go_wp2_with fail
              go_roundw
              case rel => exact ⟨j - 1, _, rfl, by first | rfl | go_num, by omega, HI9⟩
              case measure => simp [RowKit.intOf]; omega
            · have hbb : ((b : Int) == 1) = false := by simp; omega
              have hsol : j = 0 ∨ ∀ x, L[j]? = some x → brkN x.2 ≠ 1 := .inr fun x' hx' => by
                have := Hx.out
                rw [hx'] at this
                have := Option.some.inj this
                rw [this, Hb.out]
                exact hb1
              have HI := HI9
              obtain ⟨W, hW9⟩ : ∃ W, w9 = W := ⟨_, rfl⟩
              subst hW9
              clear hb1 Hx Hb HI9
              have hLp := HLo.out kk j hkn hjk hsol
              clear hsol
              obtain ⟨q, hq⟩ : ∃ q, min i (kk + 2) = q := ⟨_, rfl⟩
              rw [hq] at hLp
              have hjq : j ≤ q := by omega
              have hqi : q ≤ i := by omega
              have HQq := Lib.hid hq
              have HLp := Lib.hid hLp
              have hp0 : s.extract (plC s j) (plC s j) = ⟨#[]⟩ := by
                have : (s.extract (plC s j) (plC s j)).size = 0 := by rw [ByteArray.size_extract]; omega
                apply ByteArray.ext
                apply Array.eq_empty_of_size_eq_zero
                exact this
              have Hp0 := Lib.hid hp0
              have hk1 : IntKind.i64.wrap ((kk : Int) + 1) = (kk : Int) + 1 := IntWalk.i64_in _ (by omega)
              clear hq hLp hp0
              go_wp2_with fail
              go_loopw [10, 11] (fun p y wr => wr = w9 ∧ ∃ r : Nat, j ≤ r ∧ r ≤ q ∧ y = .int .i64 (r : Int) ∧ p = .string (s.extract (plC s j) (plC s r))) (fun _ y _ => q - (RowKit.intOf y).toNat)
              case atStart => exact ⟨rfl, j, Nat.le_refl _, hjq, rfl, by rw [Hp0.out]⟩
              case round =>
                obtain ⟨hw, r, hjr, hrq, rfl, rfl⟩ := hrel
                subst hw
                rcases Nat.lt_or_ge r q with hlt | hge
                · obtain ⟨x, hx⟩ : ∃ x, L[r]? = some x := ⟨_, List.getElem?_eq_getElem (by rw [Hn.out]; omega)⟩
                  obtain ⟨a2, hA2, ha2, d2⟩ := str_at HI.out.r2 hx
                  first | subst hA2 | (injection hA2 with hA2; subst hA2)
                  have hri : (r : Int) < (i : Int) := by omega
                  have hrk : (r : Int) ≤ (kk : Int) + 1 := by have := HQq.out; omega
                  have hr0 : (0 : Int) ≤ (r : Int) := by omega
                  have hrn : IntKind.i64.wrap ((r : Int) + 1) = (r : Int) + 1 := IntWalk.i64_in _ (by omega)
                  have hps := HPl.out.1 (r + 1)
                  have hpx := HPl.out.2.2 r x hx
                  have hp1 := HPl.out.2.1 j r hjr
                  have hsz : (s.extract (plC s j) (plC s r)).size ≤ 536870912 := by rw [ByteArray.size_extract]; omega
                  have hxz : x.2.size ≤ 536870912 := by omega
                  have HN := Lib.hid (show s.extract (plC s j) (plC s r) ++ x.2 = s.extract (plC s j) (plC s (r + 1)) from HP.out (plC s j) r x hx hp1)
                  obtain ⟨P, hP⟩ : ∃ P, s.extract (plC s j) (plC s r) = P := ⟨_, rfl⟩
                  obtain ⟨c, hc⟩ : ∃ c, x.2 = c := ⟨_, rfl⟩
                  rw [hP] at HN hsz ⊢
                  rw [hc] at HN hxz d2
                  clear hx ha2 hps hpx hp1 hP hc
                  go_wp2_with fail
                  go_roundw
                  case rel => exact ⟨trivial, r + 1, by omega, by omega, by first | rfl | go_num, by rw [HN.out]⟩
                  case measure => simp [RowKit.intOf]; omega
                · obtain rfl : r = q := by omega
                  obtain ⟨P, hP⟩ : ∃ P, s.extract (plC s j) (plC s r) = P := ⟨_, rfl⟩
                  have hPs : P.size ≤ 536870912 := by rw [← hP, ByteArray.size_extract]; have := HPl.out.1 r; omega
                  rw [hP] at HLp ⊢
                  have HP3 := Lib.hid (HPt.out P wr hPs HI.out.u8)
                  have HW3 := Lib.hid (fun W hT => HWh.out P W hPs hT)
                  have hwl3 := whereN_len P
                  rw [HLp.out.1] at HP3 hwl3
                  obtain ⟨lp, hlp⟩ : ∃ lp, whereN P = lp := ⟨_, rfl⟩
                  rw [hlp] at HW3 HLp hwl3
                  rw [hwl3] at HW3
                  obtain ⟨m, hm⟩ : ∃ m, r - j = m := ⟨_, rfl⟩
                  rw [hm] at HP3 HW3
                  have HWs := Lib.hid (show (∃ v, l[kk]? = some v ∧ lp[kk - j]? = some v) from by
                    obtain ⟨x, hx⟩ : ∃ x, L[kk]? = some x := ⟨_, List.getElem?_eq_getElem (by rw [Hn.out]; exact hkn)⟩
                    obtain ⟨v, hv, _⟩ := HV.out kk x hx
                    exact ⟨v, hv, by rw [HLp.out.2]; exact hv⟩)
                  have hmz : kk - j < m := by have := HQq.out; omega
                  have hk2 : IntKind.i64.wrap ((kk : Int) + 2) = (kk : Int) + 2 := IntWalk.i64_in _ (by omega)
                  have hmin : min (i : Int) ((kk : Int) + 2) = (r : Int) := by have := HQq.out; omega
                  have hsub : IntKind.i64.wrap ((r : Int) - (j : Int)) = (m : Int) := by rw [IntWalk.i64_in _ (by omega)]; omega
                  have hsub2 : IntKind.i64.wrap ((kk : Int) - (j : Int)) = ((kk - j : Nat) : Int) := by rw [IntWalk.i64_in _ (by omega)]; omega
                  have hmm : ((m : Int) != (m : Int)) = false := by simp
                  have hmm2 : ((m : Int) == (m : Int)) = true := by simp
                  obtain ⟨z, hz⟩ : ∃ z, kk - j = z := ⟨_, rfl⟩
                  rw [hz] at hsub2 HWs hmz
                  clear hP hlp hwl3 hm hge HLp hPs hz
                  have hzm : (z : Int) < (m : Int) := by omega
                  have hz0 : (0 : Int) ≤ (z : Int) := by omega
                  have hkki : (kk : Int) < (i : Int) := by omega
                  have hkk0 : (0 : Int) ≤ (kk : Int) := by omega
                  by_cases hri : (r : Int) < (i : Int)
                  · have hrk : ¬ ((r : Int) ≤ (kk : Int) + 1) := by have := HQq.out; omega
                    go_wp2_with fail
                    refine HP3.out.mono ?_
                    rintro _ w3 ⟨A3, c3, rfl, o3, b3⟩
                    have HI3 := Lib.hid (HI.out.below b3 hBM)
                    clear o3 b3
                    go_wp2_with fail
                    refine (HW3.out _ HI3.out.u8).mono ?_
                    rintro _ w4 ⟨A4, c4, rfl, o4, b4⟩
                    have HI4 := Lib.hid (HI3.out.below b4 hBM)
                    have O := Lib.hid HI4.out.drew
                    obtain ⟨v, hv, hlv⟩ := HWs.out
                    obtain ⟨a1, hA1, ha1, d1⟩ := whv_at O.out.r1 hv
                    have r4 : Rd w4 w4.heap.size 1 A4 m (whV lp) := Rd.own o4
                    have r4d : Rd w4.drew w4.heap.size 1 A4 m (whV lp) := r4
                    obtain ⟨a4, hA4, ha4, d4⟩ := whv_at r4d hlv
                    subst hA1
                    subst hA4
                    have ha1M : (a1.add kk).block < w4.drew.heap.size := by rw [add_blockB]; exact Nat.lt_of_lt_of_le ha1 O.out.size
                    have ha4M : (a4.add z).block < w4.drew.heap.size := by rw [add_blockB]; exact ha4
                    have hvv : ((v : Int) == (v : Int)) = true := by simp
                    clear o4 b4 hv hlv ha1 ha4 r4 r4d HI3 HI
                    go_wp2_with fail
                    go_region_held3 (fun W' => W'.cell? (a1.add kk) = some (.int .i8 (v : Int)) ∧ W'.cell? (a4.add z) = some (.int .i8 (v : Int)))
                      (first | exact ⟨d1, d4⟩ | exact ⟨e1, e2⟩)
                      (first | (go_simp; go_at_call 10; refine (HWk.out _ O.out.u8).mono ?_; rintro e5 w5 ⟨rfl, b5⟩; have e1 := (b5.cell (p := a1.add kk) ha1M).trans d1; have e2 := (b5.cell (p := a4.add z) ha4M).trans d4; have O := Lib.hid (O.out.below b5 hBM); clear b5))
                    have HBl := Lib.hid O.out.bel
                    go_wp2_with fail
                    go_ret
                    exact ⟨rfl, HBl.out⟩
                  · go_wp2_with fail
                    refine HP3.out.mono ?_
                    rintro _ w3 ⟨A3, c3, rfl, o3, b3⟩
                    have HI3 := Lib.hid (HI.out.below b3 hBM)
                    clear o3 b3
                    go_wp2_with fail
                    refine (HW3.out _ HI3.out.u8).mono ?_
                    rintro _ w4 ⟨A4, c4, rfl, o4, b4⟩
                    have HI4 := Lib.hid (HI3.out.below b4 hBM)
                    have O := Lib.hid HI4.out.drew
                    obtain ⟨v, hv, hlv⟩ := HWs.out
                    obtain ⟨a1, hA1, ha1, d1⟩ := whv_at O.out.r1 hv
                    have r4 : Rd w4 w4.heap.size 1 A4 m (whV lp) := Rd.own o4
                    have r4d : Rd w4.drew w4.heap.size 1 A4 m (whV lp) := r4
                    obtain ⟨a4, hA4, ha4, d4⟩ := whv_at r4d hlv
                    subst hA1
                    subst hA4
                    have ha1M : (a1.add kk).block < w4.drew.heap.size := by rw [add_blockB]; exact Nat.lt_of_lt_of_le ha1 O.out.size
                    have ha4M : (a4.add z).block < w4.drew.heap.size := by rw [add_blockB]; exact ha4
                    have hvv : ((v : Int) == (v : Int)) = true := by simp
                    clear o4 b4 hv hlv ha1 ha4 r4 r4d HI3 HI
                    go_wp2_with fail
                    go_region_held3 (fun W' => W'.cell? (a1.add kk) = some (.int .i8 (v : Int)) ∧ W'.cell? (a4.add z) = some (.int .i8 (v : Int)))
                      (first | exact ⟨d1, d4⟩ | exact ⟨e1, e2⟩)
                      (first | (go_simp; go_at_call 10; refine (HWk.out _ O.out.u8).mono ?_; rintro e5 w5 ⟨rfl, b5⟩; have e1 := (b5.cell (p := a1.add kk) ha1M).trans d1; have e2 := (b5.cell (p := a4.add z) ha4M).trans d4; have O := Lib.hid (O.out.below b5 hBM); clear b5))
                    have HBl := Lib.hid O.out.bel
                    go_wp2_with fail
                    go_ret
                    exact ⟨rfl, HBl.out⟩
      · obtain ⟨kk, hkk⟩ : ∃ kk : Nat, rr = (kk : Int) := ⟨rr.toNat, by omega⟩
        have hkn : kk < i := by omega
        subst hkk
        clear h1 h2 hwr2
        go_wp2_with fail
        go_loopw [9] (fun y wr => ∃ (j : Nat) (W : World), W = wr ∧ y = .int .i64 (j : Int) ∧ j ≤ kk ∧ Hid (LoE w B i A1 A2 l L M W)) (fun y _ => (RowKit.intOf y).toNat)
        case atStart => exact ⟨kk, _, rfl, rfl, Nat.le_refl _, HI⟩
        case round =>
          obtain ⟨j, W, hW, rfl, hjk, HI⟩ := hrel
          subst hW
          rcases Nat.eq_zero_or_pos j with hj0 | hj0
          · have hsol : j = 0 ∨ ∀ x, L[j]? = some x → brkN x.2 ≠ 1 := .inl hj0
            have hj0n : ¬ ((0 : Int) < (j : Int)) := by omega
            clear hj0
            have hLp := HLo.out kk j hkn hjk hsol
            clear hsol
            obtain ⟨q, hq⟩ : ∃ q, min i (kk + 2) = q := ⟨_, rfl⟩
            rw [hq] at hLp
            have hjq : j ≤ q := by omega
            have hqi : q ≤ i := by omega
            have HQq := Lib.hid hq
            have HLp := Lib.hid hLp
            have hp0 : s.extract (plC s j) (plC s j) = ⟨#[]⟩ := by
              have : (s.extract (plC s j) (plC s j)).size = 0 := by rw [ByteArray.size_extract]; omega
              apply ByteArray.ext
              apply Array.eq_empty_of_size_eq_zero
              exact this
            have Hp0 := Lib.hid hp0
            have hk1 : IntKind.i64.wrap ((kk : Int) + 1) = (kk : Int) + 1 := IntWalk.i64_in _ (by omega)
            clear hq hLp hp0
            go_wp2_with fail
            go_loopw [10, 11] (fun p y wr => wr = W ∧ ∃ r : Nat, j ≤ r ∧ r ≤ q ∧ y = .int .i64 (r : Int) ∧ p = .string (s.extract (plC s j) (plC s r))) (fun _ y _ => q - (RowKit.intOf y).toNat)
            case atStart => exact ⟨rfl, j, Nat.le_refl _, hjq, rfl, by rw [Hp0.out]⟩
            case round =>
              obtain ⟨hw, r, hjr, hrq, rfl, rfl⟩ := hrel
              subst hw
              rcases Nat.lt_or_ge r q with hlt | hge
              · obtain ⟨x, hx⟩ : ∃ x, L[r]? = some x := ⟨_, List.getElem?_eq_getElem (by rw [Hn.out]; omega)⟩
                obtain ⟨a2, hA2, ha2, d2⟩ := str_at HI.out.r2 hx
                first | subst hA2 | (injection hA2 with hA2; subst hA2)
                have hri : (r : Int) < (i : Int) := by omega
                have hrk : (r : Int) ≤ (kk : Int) + 1 := by have := HQq.out; omega
                have hr0 : (0 : Int) ≤ (r : Int) := by omega
                have hrn : IntKind.i64.wrap ((r : Int) + 1) = (r : Int) + 1 := IntWalk.i64_in _ (by omega)
                have hps := HPl.out.1 (r + 1)
                have hpx := HPl.out.2.2 r x hx
                have hp1 := HPl.out.2.1 j r hjr
                have hsz : (s.extract (plC s j) (plC s r)).size ≤ 536870912 := by rw [ByteArray.size_extract]; omega
                have hxz : x.2.size ≤ 536870912 := by omega
                have HN := Lib.hid (show s.extract (plC s j) (plC s r) ++ x.2 = s.extract (plC s j) (plC s (r + 1)) from HP.out (plC s j) r x hx hp1)
                obtain ⟨P, hP⟩ : ∃ P, s.extract (plC s j) (plC s r) = P := ⟨_, rfl⟩
                obtain ⟨c, hc⟩ : ∃ c, x.2 = c := ⟨_, rfl⟩
                rw [hP] at HN hsz ⊢
                rw [hc] at HN hxz d2
                clear hx ha2 hps hpx hp1 hP hc
                go_wp2_with fail
                go_roundw
                case rel => exact ⟨trivial, r + 1, by omega, by omega, by first | rfl | go_num, by rw [HN.out]⟩
                case measure => simp [RowKit.intOf]; omega
              · obtain rfl : r = q := by omega
                obtain ⟨P, hP⟩ : ∃ P, s.extract (plC s j) (plC s r) = P := ⟨_, rfl⟩
                have hPs : P.size ≤ 536870912 := by rw [← hP, ByteArray.size_extract]; have := HPl.out.1 r; omega
                rw [hP] at HLp ⊢
                have HP3 := Lib.hid (HPt.out P wr hPs HI.out.u8)
                have HW3 := Lib.hid (fun W hT => HWh.out P W hPs hT)
                have hwl3 := whereN_len P
                rw [HLp.out.1] at HP3 hwl3
                obtain ⟨lp, hlp⟩ : ∃ lp, whereN P = lp := ⟨_, rfl⟩
                rw [hlp] at HW3 HLp hwl3
                rw [hwl3] at HW3
                obtain ⟨m, hm⟩ : ∃ m, r - j = m := ⟨_, rfl⟩
                rw [hm] at HP3 HW3
                have HWs := Lib.hid (show (∃ v, l[kk]? = some v ∧ lp[kk - j]? = some v) from by
                  obtain ⟨x, hx⟩ : ∃ x, L[kk]? = some x := ⟨_, List.getElem?_eq_getElem (by rw [Hn.out]; exact hkn)⟩
                  obtain ⟨v, hv, _⟩ := HV.out kk x hx
                  exact ⟨v, hv, by rw [HLp.out.2]; exact hv⟩)
                have hmz : kk - j < m := by have := HQq.out; omega
                have hk2 : IntKind.i64.wrap ((kk : Int) + 2) = (kk : Int) + 2 := IntWalk.i64_in _ (by omega)
                have hmin : min (i : Int) ((kk : Int) + 2) = (r : Int) := by have := HQq.out; omega
                have hsub : IntKind.i64.wrap ((r : Int) - (j : Int)) = (m : Int) := by rw [IntWalk.i64_in _ (by omega)]; omega
                have hsub2 : IntKind.i64.wrap ((kk : Int) - (j : Int)) = ((kk - j : Nat) : Int) := by rw [IntWalk.i64_in _ (by omega)]; omega
                have hmm : ((m : Int) != (m : Int)) = false := by simp
                have hmm2 : ((m : Int) == (m : Int)) = true := by simp
                obtain ⟨z, hz⟩ : ∃ z, kk - j = z := ⟨_, rfl⟩
                rw [hz] at hsub2 HWs hmz
                clear hP hlp hwl3 hm hge HLp hPs hz
                have hzm : (z : Int) < (m : Int) := by omega
                have hz0 : (0 : Int) ≤ (z : Int) := by omega
                have hkki : (kk : Int) < (i : Int) := by omega
                have hkk0 : (0 : Int) ≤ (kk : Int) := by omega
                by_cases hri : (r : Int) < (i : Int)
                · have hrk : ¬ ((r : Int) ≤ (kk : Int) + 1) := by have := HQq.out; omega
                  go_wp2_with fail
                  refine HP3.out.mono ?_
                  rintro _ w3 ⟨A3, c3, rfl, o3, b3⟩
                  have HI3 := Lib.hid (HI.out.below b3 hBM)
                  clear o3 b3
                  go_wp2_with fail
                  refine (HW3.out _ HI3.out.u8).mono ?_
                  rintro _ w4 ⟨A4, c4, rfl, o4, b4⟩
                  have HI4 := Lib.hid (HI3.out.below b4 hBM)
                  have O := Lib.hid HI4.out.drew
                  obtain ⟨v, hv, hlv⟩ := HWs.out
                  obtain ⟨a1, hA1, ha1, d1⟩ := whv_at O.out.r1 hv
                  have r4 : Rd w4 w4.heap.size 1 A4 m (whV lp) := Rd.own o4
                  have r4d : Rd w4.drew w4.heap.size 1 A4 m (whV lp) := r4
                  obtain ⟨a4, hA4, ha4, d4⟩ := whv_at r4d hlv
                  subst hA1
                  subst hA4
                  have ha1M : (a1.add kk).block < w4.drew.heap.size := by rw [add_blockB]; exact Nat.lt_of_lt_of_le ha1 O.out.size
                  have ha4M : (a4.add z).block < w4.drew.heap.size := by rw [add_blockB]; exact ha4
                  have hvv : ((v : Int) == (v : Int)) = true := by simp
                  clear o4 b4 hv hlv ha1 ha4 r4 r4d HI3 HI
                  go_wp2_with fail
                  go_region_held3 (fun W' => W'.cell? (a1.add kk) = some (.int .i8 (v : Int)) ∧ W'.cell? (a4.add z) = some (.int .i8 (v : Int)))
                    (first | exact ⟨d1, d4⟩ | exact ⟨e1, e2⟩)
                    (first | (go_simp; go_at_call 10; refine (HWk.out _ O.out.u8).mono ?_; rintro e5 w5 ⟨rfl, b5⟩; have e1 := (b5.cell (p := a1.add kk) ha1M).trans d1; have e2 := (b5.cell (p := a4.add z) ha4M).trans d4; have O := Lib.hid (O.out.below b5 hBM); clear b5))
                  have HBl := Lib.hid O.out.bel
                  go_wp2_with fail
                  go_ret
                  exact ⟨rfl, HBl.out⟩
                · go_wp2_with fail
                  refine HP3.out.mono ?_
                  rintro _ w3 ⟨A3, c3, rfl, o3, b3⟩
                  have HI3 := Lib.hid (HI.out.below b3 hBM)
                  clear o3 b3
                  go_wp2_with fail
                  refine (HW3.out _ HI3.out.u8).mono ?_
                  rintro _ w4 ⟨A4, c4, rfl, o4, b4⟩
                  have HI4 := Lib.hid (HI3.out.below b4 hBM)
                  have O := Lib.hid HI4.out.drew
                  obtain ⟨v, hv, hlv⟩ := HWs.out
                  obtain ⟨a1, hA1, ha1, d1⟩ := whv_at O.out.r1 hv
                  have r4 : Rd w4 w4.heap.size 1 A4 m (whV lp) := Rd.own o4
                  have r4d : Rd w4.drew w4.heap.size 1 A4 m (whV lp) := r4
                  obtain ⟨a4, hA4, ha4, d4⟩ := whv_at r4d hlv
                  subst hA1
                  subst hA4
                  have ha1M : (a1.add kk).block < w4.drew.heap.size := by rw [add_blockB]; exact Nat.lt_of_lt_of_le ha1 O.out.size
                  have ha4M : (a4.add z).block < w4.drew.heap.size := by rw [add_blockB]; exact ha4
                  have hvv : ((v : Int) == (v : Int)) = true := by simp
                  clear o4 b4 hv hlv ha1 ha4 r4 r4d HI3 HI
                  go_wp2_with fail
                  go_region_held3 (fun W' => W'.cell? (a1.add kk) = some (.int .i8 (v : Int)) ∧ W'.cell? (a4.add z) = some (.int .i8 (v : Int)))
                    (first | exact ⟨d1, d4⟩ | exact ⟨e1, e2⟩)
                    (first | (go_simp; go_at_call 10; refine (HWk.out _ O.out.u8).mono ?_; rintro e5 w5 ⟨rfl, b5⟩; have e1 := (b5.cell (p := a1.add kk) ha1M).trans d1; have e2 := (b5.cell (p := a4.add z) ha4M).trans d4; have O := Lib.hid (O.out.below b5 hBM); clear b5))
                  have HBl := Lib.hid O.out.bel
                  go_wp2_with fail
                  go_ret
                  exact ⟨rfl, HBl.out⟩
          · obtain ⟨x, hx⟩ : ∃ x, L[j]? = some x := ⟨_, List.getElem?_eq_getElem (by rw [Hn.out]; omega)⟩
            obtain ⟨_, _, _, _, hxs⟩ := HV.out j x hx
            obtain ⟨a2, hA2, ha2, d2⟩ := str_at HI.out.r2 hx
            subst hA2
            have HC := Lib.hid (HKd.out x.2 W hxs HI.out.u8)
            have hj0i : (0 : Int) < (j : Int) := by omega
            have hj0l : (0 : Int) ≤ (j : Int) := by omega
            have hjn : (j : Int) < (i : Int) := by omega
            have hjs : IntKind.i64.wrap ((j : Int) - 1) = ((j - 1 : Nat) : Int) := by rw [IntWalk.i64_in _ (by omega)]; omega
            have Hx := Lib.hid hx
            have Hc := Lib.hid (show ∃ c, x.2 = c from ⟨_, rfl⟩)
            obtain ⟨b, hb⟩ : ∃ b, brkN x.2 = b := ⟨_, rfl⟩
            rw [hb] at HC
            have Hb := Lib.hid hb
            clear hx ha2 hxs hb
            go_wp2_with fail
            refine HC.out.mono ?_
            rintro _ w9 ⟨rfl, b9⟩
            have HI9 := Lib.hid (HI.out.below b9 hBM)
            clear b9 HC HI d2
            by_cases hb1 : b = 1
            · subst hb1
              go_wp2_with fail
              go_roundw
              case rel => exact ⟨j - 1, _, rfl, by first | rfl | go_num, by omega, HI9⟩
              case measure => simp [RowKit.intOf]; omega
            · have hbb : ((b : Int) == 1) = false := by simp; omega
              have hsol : j = 0 ∨ ∀ x, L[j]? = some x → brkN x.2 ≠ 1 := .inr fun x' hx' => by
                have := Hx.out
                rw [hx'] at this
                have := Option.some.inj this
                rw [this, Hb.out]
                exact hb1
              have HI := HI9
              obtain ⟨W, hW9⟩ : ∃ W, w9 = W := ⟨_, rfl⟩
              subst hW9
              clear hb1 Hx Hb HI9
              have hLp := HLo.out kk j hkn hjk hsol
              clear hsol
              obtain ⟨q, hq⟩ : ∃ q, min i (kk + 2) = q := ⟨_, rfl⟩
              rw [hq] at hLp
              have hjq : j ≤ q := by omega
              have hqi : q ≤ i := by omega
              have HQq := Lib.hid hq
              have HLp := Lib.hid hLp
              have hp0 : s.extract (plC s j) (plC s j) = ⟨#[]⟩ := by
                have : (s.extract (plC s j) (plC s j)).size = 0 := by rw [ByteArray.size_extract]; omega
                apply ByteArray.ext
                apply Array.eq_empty_of_size_eq_zero
                exact this
              have Hp0 := Lib.hid hp0
              have hk1 : IntKind.i64.wrap ((kk : Int) + 1) = (kk : Int) + 1 := IntWalk.i64_in _ (by omega)
              clear hq hLp hp0
              go_wp2_with fail
              go_loopw [10, 11] (fun p y wr => wr = w9 ∧ ∃ r : Nat, j ≤ r ∧ r ≤ q ∧ y = .int .i64 (r : Int) ∧ p = .string (s.extract (plC s j) (plC s r))) (fun _ y _ => q - (RowKit.intOf y).toNat)
              case atStart => exact ⟨rfl, j, Nat.le_refl _, hjq, rfl, by rw [Hp0.out]⟩
              case round =>
                obtain ⟨hw, r, hjr, hrq, rfl, rfl⟩ := hrel
                subst hw
                rcases Nat.lt_or_ge r q with hlt | hge
                · obtain ⟨x, hx⟩ : ∃ x, L[r]? = some x := ⟨_, List.getElem?_eq_getElem (by rw [Hn.out]; omega)⟩
                  obtain ⟨a2, hA2, ha2, d2⟩ := str_at HI.out.r2 hx
                  first | subst hA2 | (injection hA2 with hA2; subst hA2)
                  have hri : (r : Int) < (i : Int) := by omega
                  have hrk : (r : Int) ≤ (kk : Int) + 1 := by have := HQq.out; omega
                  have hr0 : (0 : Int) ≤ (r : Int) := by omega
                  have hrn : IntKind.i64.wrap ((r : Int) + 1) = (r : Int) + 1 := IntWalk.i64_in _ (by omega)
                  have hps := HPl.out.1 (r + 1)
                  have hpx := HPl.out.2.2 r x hx
                  have hp1 := HPl.out.2.1 j r hjr
                  have hsz : (s.extract (plC s j) (plC s r)).size ≤ 536870912 := by rw [ByteArray.size_extract]; omega
                  have hxz : x.2.size ≤ 536870912 := by omega
                  have HN := Lib.hid (show s.extract (plC s j) (plC s r) ++ x.2 = s.extract (plC s j) (plC s (r + 1)) from HP.out (plC s j) r x hx hp1)
                  obtain ⟨P, hP⟩ : ∃ P, s.extract (plC s j) (plC s r) = P := ⟨_, rfl⟩
                  obtain ⟨c, hc⟩ : ∃ c, x.2 = c := ⟨_, rfl⟩
                  rw [hP] at HN hsz ⊢
                  rw [hc] at HN hxz d2
                  clear hx ha2 hps hpx hp1 hP hc
                  go_wp2_with fail
                  go_roundw
                  case rel => exact ⟨trivial, r + 1, by omega, by omega, by first | rfl | go_num, by rw [HN.out]⟩
                  case measure => simp [RowKit.intOf]; omega
                · obtain rfl : r = q := by omega
                  obtain ⟨P, hP⟩ : ∃ P, s.extract (plC s j) (plC s r) = P := ⟨_, rfl⟩
                  have hPs : P.size ≤ 536870912 := by rw [← hP, ByteArray.size_extract]; have := HPl.out.1 r; omega
                  rw [hP] at HLp ⊢
                  have HP3 := Lib.hid (HPt.out P wr hPs HI.out.u8)
                  have HW3 := Lib.hid (fun W hT => HWh.out P W hPs hT)
                  have hwl3 := whereN_len P
                  rw [HLp.out.1] at HP3 hwl3
                  obtain ⟨lp, hlp⟩ : ∃ lp, whereN P = lp := ⟨_, rfl⟩
                  rw [hlp] at HW3 HLp hwl3
                  rw [hwl3] at HW3
                  obtain ⟨m, hm⟩ : ∃ m, r - j = m := ⟨_, rfl⟩
                  rw [hm] at HP3 HW3
                  have HWs := Lib.hid (show (∃ v, l[kk]? = some v ∧ lp[kk - j]? = some v) from by
                    obtain ⟨x, hx⟩ : ∃ x, L[kk]? = some x := ⟨_, List.getElem?_eq_getElem (by rw [Hn.out]; exact hkn)⟩
                    obtain ⟨v, hv, _⟩ := HV.out kk x hx
                    exact ⟨v, hv, by rw [HLp.out.2]; exact hv⟩)
                  have hmz : kk - j < m := by have := HQq.out; omega
                  have hk2 : IntKind.i64.wrap ((kk : Int) + 2) = (kk : Int) + 2 := IntWalk.i64_in _ (by omega)
                  have hmin : min (i : Int) ((kk : Int) + 2) = (r : Int) := by have := HQq.out; omega
                  have hsub : IntKind.i64.wrap ((r : Int) - (j : Int)) = (m : Int) := by rw [IntWalk.i64_in _ (by omega)]; omega
                  have hsub2 : IntKind.i64.wrap ((kk : Int) - (j : Int)) = ((kk - j : Nat) : Int) := by rw [IntWalk.i64_in _ (by omega)]; omega
                  have hmm : ((m : Int) != (m : Int)) = false := by simp
                  have hmm2 : ((m : Int) == (m : Int)) = true := by simp
                  obtain ⟨z, hz⟩ : ∃ z, kk - j = z := ⟨_, rfl⟩
                  rw [hz] at hsub2 HWs hmz
                  clear hP hlp hwl3 hm hge HLp hPs hz
                  have hzm : (z : Int) < (m : Int) := by omega
                  have hz0 : (0 : Int) ≤ (z : Int) := by omega
                  have hkki : (kk : Int) < (i : Int) := by omega
                  have hkk0 : (0 : Int) ≤ (kk : Int) := by omega
                  by_cases hri : (r : Int) < (i : Int)
                  · have hrk : ¬ ((r : Int) ≤ (kk : Int) + 1) := by have := HQq.out; omega
                    go_wp2_with fail
                    refine HP3.out.mono ?_
                    rintro _ w3 ⟨A3, c3, rfl, o3, b3⟩
                    have HI3 := Lib.hid (HI.out.below b3 hBM)
                    clear o3 b3
                    go_wp2_with fail
                    refine (HW3.out _ HI3.out.u8).mono ?_
                    rintro _ w4 ⟨A4, c4, rfl, o4, b4⟩
                    have HI4 := Lib.hid (HI3.out.below b4 hBM)
                    have O := Lib.hid HI4.out.drew
                    obtain ⟨v, hv, hlv⟩ := HWs.out
                    obtain ⟨a1, hA1, ha1, d1⟩ := whv_at O.out.r1 hv
                    have r4 : Rd w4 w4.heap.size 1 A4 m (whV lp) := Rd.own o4
                    have r4d : Rd w4.drew w4.heap.size 1 A4 m (whV lp) := r4
                    obtain ⟨a4, hA4, ha4, d4⟩ := whv_at r4d hlv
                    subst hA1
                    subst hA4
                    have ha1M : (a1.add kk).block < w4.drew.heap.size := by rw [add_blockB]; exact Nat.lt_of_lt_of_le ha1 O.out.size
                    have ha4M : (a4.add z).block < w4.drew.heap.size := by rw [add_blockB]; exact ha4
                    have hvv : ((v : Int) == (v : Int)) = true := by simp
                    clear o4 b4 hv hlv ha1 ha4 r4 r4d HI3 HI
                    go_wp2_with fail
                    go_region_held3 (fun W' => W'.cell? (a1.add kk) = some (.int .i8 (v : Int)) ∧ W'.cell? (a4.add z) = some (.int .i8 (v : Int)))
                      (first | exact ⟨d1, d4⟩ | exact ⟨e1, e2⟩)
                      (first | (go_simp; go_at_call 10; refine (HWk.out _ O.out.u8).mono ?_; rintro e5 w5 ⟨rfl, b5⟩; have e1 := (b5.cell (p := a1.add kk) ha1M).trans d1; have e2 := (b5.cell (p := a4.add z) ha4M).trans d4; have O := Lib.hid (O.out.below b5 hBM); clear b5))
                    have HBl := Lib.hid O.out.bel
                    go_wp2_with fail
                    go_ret
                    exact ⟨rfl, HBl.out⟩
                  · go_wp2_with fail
                    refine HP3.out.mono ?_
                    rintro _ w3 ⟨A3, c3, rfl, o3, b3⟩
                    have HI3 := Lib.hid (HI.out.below b3 hBM)
                    clear o3 b3
                    go_wp2_with fail
                    refine (HW3.out _ HI3.out.u8).mono ?_
                    rintro _ w4 ⟨A4, c4, rfl, o4, b4⟩
                    have HI4 := Lib.hid (HI3.out.below b4 hBM)
                    have O := Lib.hid HI4.out.drew
                    obtain ⟨v, hv, hlv⟩ := HWs.out
                    obtain ⟨a1, hA1, ha1, d1⟩ := whv_at O.out.r1 hv
                    have r4 : Rd w4 w4.heap.size 1 A4 m (whV lp) := Rd.own o4
                    have r4d : Rd w4.drew w4.heap.size 1 A4 m (whV lp) := r4
                    obtain ⟨a4, hA4, ha4, d4⟩ := whv_at r4d hlv
                    subst hA1
                    subst hA4
                    have ha1M : (a1.add kk).block < w4.drew.heap.size := by rw [add_blockB]; exact Nat.lt_of_lt_of_le ha1 O.out.size
                    have ha4M : (a4.add z).block < w4.drew.heap.size := by rw [add_blockB]; exact ha4
                    have hvv : ((v : Int) == (v : Int)) = true := by simp
                    clear o4 b4 hv hlv ha1 ha4 r4 r4d HI3 HI
                    go_wp2_with fail
                    go_region_held3 (fun W' => W'.cell? (a1.add kk) = some (.int .i8 (v : Int)) ∧ W'.cell? (a4.add z) = some (.int .i8 (v : Int)))
                      (first | exact ⟨d1, d4⟩ | exact ⟨e1, e2⟩)
                      (first | (go_simp; go_at_call 10; refine (HWk.out _ O.out.u8).mono ?_; rintro e5 w5 ⟨rfl, b5⟩; have e1 := (b5.cell (p := a1.add kk) ha1M).trans d1; have e2 := (b5.cell (p := a4.add z) ha4M).trans d4; have O := Lib.hid (O.out.below b5 hBM); clear b5))
                    have HBl := Lib.hid O.out.bel
                    go_wp2_with fail
                    go_ret
                    exact ⟨rfl, HBl.out⟩
end Go.Proofs.YthkapcnhfdpdbaaDoor
