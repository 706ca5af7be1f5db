/- Layer 13, pure: what may be done behind clusters, and the lines. -/
import Derived.Test.YthkapcnhfdpdbaaDoorRowG
import Derived.Test.YthkapcnhfdpdbaaDoorSameT
import Derived.Test.YthkapcnhfdpdbaaDoorFirstG
import Derived.Test.YthkapcnhfdpdbaaDoorWordG
set_option linter.unusedSimpArgs false
set_option linter.unusedVariables false
namespace Go.Proofs.YthkapcnhfdpdbaaDoor
open Go.RowKit Go.Lib

/-- a cluster's class, by its first character -/
def brkD (d : Nat × Nat) : Nat := if badD d = true ∨ cls breaksL (char (d.1 : Int)) = 8 then 0 else cls breaksL (char (d.1 : Int))
def brkN (c : ByteArray) : Nat := match segs c.data.toList with
  | [] => 0
  | d :: _ => brkD d
/-- what the rules say behind a: p: the class of the solid one at it (-1: none) -/
def saysN (a b : Nat) (p : Int) : Nat :=
  if a = 2 then 2
  else if b = 2 ∨ b = 1 ∨ b = 9 then 0
  else if p = 9 then 1
  else if a = 12 ∨ b = 12 ∨ a = 5 ∨ (b = 5 ∧ a ≠ 1 ∧ a ≠ 6) then 0
  else if b = 4 ∨ (b = 11 ∧ a ≠ 1) ∨ p = 3 then 0
  else if a = 1 then 1
  else if b = 6 then 0
  else if a = 6 ∧ b = 10 then 0
  else if a = 6 ∨ a = 7 ∨ b = 7 then 1
  else 0
/-- the solid one at a cluster -/
def solidN (p : Int) (a : Nat) : Int := if a = 1 then p else (a : Int)
def whereF : Int → List Nat → List Nat
  | _, [] => []
  | _, [a] => [if a = 2 then 2 else 0]
  | p, a :: b :: t => saysN a b (solidN p a) :: whereF (solidN p a) (b :: t)
def whereN (s : ByteArray) : List Nat := whereF (-1) ((pcs s).map fun x => brkN x.2)
theorem whereF_len : ∀ (l : List Nat) (p : Int), (whereF p l).length = l.length
  | [], _ => rfl
  | [_], _ => rfl
  | a :: b :: t, p => by rw [whereF, List.length_cons, whereF_len (b :: t)]; rfl
theorem saysN_le (a b : Nat) (p : Int) : saysN a b p ≤ 2 := by unfold saysN; (repeat' split) <;> omega
theorem saysN_must (a b : Nat) (p : Int) : saysN a b p = 2 ↔ a = 2 := by
  constructor
  · intro h
    rcases Nat.decEq a 2 with ha | ha
    · unfold saysN at h
      rw [if_neg ha] at h
      repeat' split at h
      all_goals omega
    · exact ha
  · intro h
    unfold saysN
    rw [if_pos h]
/-- Must stands just behind Must -/
theorem whereF_must : ∀ (l : List Nat) (p : Int) (i : Nat), (whereF p l)[i]? = some 2 ↔ l[i]? = some 2
  | [], _, _ => by simp [whereF]
  | [a], p, 0 => by
    rw [whereF]
    by_cases h : a = 2
    · simp [h]
    · rw [if_neg h]; simp [h]
  | [a], p, i + 1 => by simp [whereF]
  | a :: b :: t, p, 0 => by
    rw [whereF, List.getElem?_cons_zero, List.getElem?_cons_zero, Option.some.injEq, Option.some.injEq, saysN_must]
  | a :: b :: t, p, i + 1 => by
    rw [whereF, List.getElem?_cons_succ, List.getElem?_cons_succ]
    exact whereF_must (b :: t) _ i
theorem whereF_le : ∀ (l : List Nat) (p : Int) (w : Nat), w ∈ whereF p l → w ≤ 2
  | [], _, _, h => by cases h
  | [a], _, w, h => by
    rw [whereF] at h
    obtain rfl := List.mem_singleton.1 h
    split <;> omega
  | a :: b :: t, p, w, h => by
    rw [whereF] at h
    rcases List.mem_cons.1 h with rfl | h
    · exact saysN_le _ _ _
    · exact whereF_le (b :: t) _ w h
/-- what is said behind a cluster does not hang on what stands behind the next one -/
theorem whereF_local : ∀ (l m : List Nat) (p : Int) (i : Nat), i + 1 < l.length → (whereF p (l ++ m))[i]? = (whereF p l)[i]?
  | [], _, _, _, h => absurd h (by simp)
  | [_], _, _, _, h => absurd h (by simp)
  | a :: b :: t, m, p, 0, _ => by
    show (whereF p (a :: b :: (t ++ m)))[0]? = (whereF p (a :: b :: t))[0]?
    rw [whereF, whereF]; rfl
  | a :: b :: t, m, p, i + 1, h => by
    show (whereF p (a :: b :: (t ++ m)))[i + 1]? = (whereF p (a :: b :: t))[i + 1]?
    rw [whereF, whereF, List.getElem?_cons_succ, List.getElem?_cons_succ]
    exact whereF_local (b :: t) m _ i (by simpa using h)
/-- nor on what stands ahead of the solid one -/
theorem whereF_solid (a : Nat) (ha : a ≠ 1) (t : List Nat) (p q : Int) : whereF p (a :: t) = whereF q (a :: t) := by
  cases t with
  | nil => rfl
  | cons b t => rw [whereF, whereF]; unfold solidN; rw [if_neg ha, if_neg ha]
theorem whereF_drop : ∀ (l : List Nat) (p : Int) (n : Nat), ∃ q, (whereF p l).drop n = whereF q (l.drop n)
  | l, p, 0 => ⟨p, rfl⟩
  | [], p, n + 1 => ⟨p, rfl⟩
  | [a], p, n + 1 => ⟨p, by simp [whereF]⟩
  | a :: b :: t, p, n + 1 => by
    obtain ⟨q, h⟩ := whereF_drop (b :: t) (solidN p a) n
    exact ⟨q, by rw [whereF, List.drop_succ_cons, List.drop_succ_cons]; exact h⟩

/-- the lines: f: where the line begins -/
def linesF (s : ByteArray) : Nat → List (Nat × ByteArray) → List (Nat × ByteArray)
  | f, [] => [(f, s.extract f s.size)]
  | f, x :: t =>
    if 65536 < x.1 + x.2.size - f then
      (f, s.extract f x.1) :: (if brkN x.2 = 2 then (x.1, s.extract x.1 (x.1 + x.2.size)) :: linesF s (x.1 + x.2.size) t else linesF s x.1 t)
    else (if brkN x.2 = 2 then (f, s.extract f (x.1 + x.2.size)) :: linesF s (x.1 + x.2.size) t else linesF s f t)
def linesN (s : ByteArray) : List (Nat × ByteArray) := linesF s 0 (pcs s)
theorem linesF_ne (s : ByteArray) : ∀ (t : List (Nat × ByteArray)) (f : Nat), linesF s f t ≠ []
  | [], f => by simp [linesF]
  | x :: t, f => by
    rw [linesF]
    split
    · simp
    · split
      · simp
      · exact linesF_ne s t f
end Go.Proofs.YthkapcnhfdpdbaaDoor

/- Layer 13, pure: the lines follow one another, have so many bytes at most, and each is one by itself. (HBw of WdQ: borders of clusters.) -/
namespace Go.Proofs.YthkapcnhfdpdbaaDoor
open Go.RowKit Go.Lib

/-- a cluster has 128 bytes at most -/
theorem total_le4 : ∀ (l : List (Nat × Nat)), (∀ d ∈ l, d.2 ≤ 4) → total l ≤ 4 * l.length
  | [], _ => by simp [total]
  | d :: t, h => by
    have h1 := h d (by simp)
    have h2 := total_le4 t fun c hc => h c (by simp [hc])
    have : total (d :: t) = d.2 + total t := by simp [total]
    rw [this, List.length_cons]
    omega
theorem segs_le4 (l : List UInt8) : ∀ d ∈ segs l, d.2 ≤ 4 := by
  refine walk_ind (p := fun l => ∀ d ∈ segs l, d.2 ≤ 4) (by rw [segs_nil]; intro d h; cases h) (fun l hl ih d hd => ?_) l
  rw [segs_cons l hl] at hd
  rcases List.mem_cons.1 hd with rfl | hd
  · exact (dec_facts l hl).2.1
  · exact ih d hd
theorem pcs_small (s : ByteArray) (i : Nat) (x : Nat × ByteArray) (h : (pcs s)[i]? = some x) : x.2.size ≤ 128 := by
  have hj := (List.getElem?_eq_some_iff.1 h).1
  obtain ⟨k, hk, hd⟩ := split_at s i (by omega)
  obtain ⟨hkc, hx⟩ := drop_at s i k hd hj
  rw [h] at hx
  obtain rfl := Option.some.inj hx
  have h1 := pc_size s k
  have h2 : placeAt s (clEnd s k) = placeAt s k + total (((segs s.data.toList).drop k).take (clD ((segs s.data.toList).drop k))) := by
    show placeAt s (k + clD _) = _
    rw [placeAt_add]
  have hl : ((segs s.data.toList).drop k).length = chars s - k := by rw [List.length_drop]; rfl
  have h3 := clD_bounds (ds := (segs s.data.toList).drop k) (by omega)
  have h4 := total_le4 (((segs s.data.toList).drop k).take (clD ((segs s.data.toList).drop k))) (fun d hd => segs_le4 _ d (List.mem_of_mem_drop (List.mem_of_mem_take hd)))
  rw [List.length_take, Nat.min_eq_left h3.2.1] at h4
  show (s.extract (placeAt s k) (placeAt s (clEnd s k))).size ≤ 128
  omega
/-- no Must among the clusters from j up to i -/
def NoMust (s : ByteArray) (j i : Nat) : Prop := ∀ k, j ≤ k → k < i → ∀ x, (pcs s)[k]? = some x → brkN x.2 ≠ 2
/-- lines that follow one another from the cluster j, at the byte f -/
def GoodL (s : ByteArray) : Nat → Nat → List (Nat × ByteArray) → Prop
  | _, _, [] => False
  | j, f, [(a, c)] => a = f ∧ c = s.extract f s.size ∧ f ≤ s.size ∧ s.size - f ≤ 65536 ∧ HBw s j f ∧ j ≤ (pcs s).length ∧ NoMust s j (pcs s).length
  | j, f, (a, c) :: y :: rest => a = f ∧ ∃ i e, HBw s j f ∧ HBw s i e ∧ j < i ∧ i ≤ (pcs s).length ∧ f < e ∧ c = s.extract f e ∧ e - f ≤ 65536 ∧ NoMust s j (i - 1) ∧ GoodL s i e (y :: rest)
theorem goodL_cons {s : ByteArray} {j f i e : Nat} {rest : List (Nat × ByteArray)} (hj : HBw s j f) (hi : HBw s i e) (hji : j < i) (hil : i ≤ (pcs s).length) (hfe : f < e) (h1 : e - f ≤ 65536) (h2 : NoMust s j (i - 1)) (h : GoodL s i e rest) :
    GoodL s j f ((f, s.extract f e) :: rest) := by
  cases rest with
  | nil => exact h.elim
  | cons y rest => exact ⟨rfl, i, e, hj, hi, hji, hil, hfe, rfl, h1, h2, h⟩
theorem hbw_end (s : ByteArray) (p : Nat) (h : HBw s (pcs s).length p) : p = s.size := by
  obtain ⟨k, hk, hd, rfl⟩ := h
  rw [drop_none s k hk hd, placeAt_all]
theorem good_lines (s : ByteArray) : ∀ (m i j f p : Nat), (pcs s).length - i ≤ m → i ≤ (pcs s).length → j ≤ i → HBw s j f → HBw s i p → f ≤ p → p - f ≤ 65536 → NoMust s j i → (j < i → f < p) → GoodL s j f (linesF s f ((pcs s).drop i)) := by
  intro m
  induction m with
  | zero =>
    intro i j f p hm hi hji hj hp hfp h1 h2 _
    have e : i = (pcs s).length := by omega
    subst e
    have := hbw_end s p hp
    rw [List.drop_length]
    exact ⟨rfl, rfl, by omega, by omega, hj, hji, h2⟩
  | succ m ih =>
    intro i j f p hm hi hji hj hp hfp h1 h2 h3
    rcases Nat.lt_or_ge i (pcs s).length with hlt | hge
    · have hx := List.getElem?_eq_getElem hlt
      obtain ⟨x, hxe⟩ : ∃ x, (pcs s)[i] = x := ⟨_, rfl⟩
      rw [hxe] at hx
      have hn := hbw_next s i x hx
      have hsm := pcs_small s i x hx
      have hc := pcs_chain s i x hx
      have hpx : p = x.1 := by
        obtain ⟨k, hk, hd, rfl⟩ := hp
        obtain ⟨hkc, hy⟩ := drop_at s i k hd hlt
        rw [hx] at hy
        have := Option.some.inj hy
        rw [this]
      subst hpx
      have hd : (pcs s).drop i = x :: (pcs s).drop (i + 1) := by rw [List.drop_eq_getElem_cons hlt, hxe]
      rw [hd, linesF]
      have hno : brkN x.2 ≠ 2 → ∀ j', j' ≤ i → NoMust s j' i → NoMust s j' (i + 1) := fun hb j' _ hm' k h4 h5 y hy => by
        rcases Nat.lt_or_ge k i with h6 | h6
        · exact hm' k h4 h6 y hy
        · have : k = i := by omega
          subst this
          rw [hx] at hy
          obtain rfl := Option.some.inj hy
          exact hb
      have hem : ∀ j', NoMust s j' j' := fun j' k h4 h5 => by omega
      by_cases hbig : 65536 < x.1 + x.2.size - f
      · rw [if_pos hbig]
        have hfx : f < x.1 := by omega
        have hji' : j < i := by
          rcases Nat.lt_or_ge j i with h | h
          · exact h
          · have : j = i := by omega
            subst this
            obtain ⟨k1, hk1, hd1, e1⟩ := hj
            obtain ⟨k2, hk2, hd2, e2⟩ := hp
            obtain ⟨hkc, hy⟩ := drop_at s j k1 hd1 hlt
            rw [hx] at hy
            have := Option.some.inj hy
            rw [this] at hfx
            have hfx : f < placeAt s k1 := hfx
            omega
        by_cases hb : brkN x.2 = 2
        · rw [if_pos hb]
          refine goodL_cons hj hp hji' (by omega) hfx h1 (fun k h4 h5 => h2 k h4 (by omega)) ?_
          refine goodL_cons hp hn.2 (by omega) hlt (by omega) (by omega) (fun k h4 h5 => by omega) ?_
          exact ih (i + 1) (i + 1) _ _ (by omega) hlt (Nat.le_refl _) hn.2 hn.2 (Nat.le_refl _) (by omega) (hem _) (fun h => by omega)
        · rw [if_neg hb]
          refine goodL_cons hj hp hji' (by omega) hfx h1 (fun k h4 h5 => h2 k h4 (by omega)) ?_
          exact ih (i + 1) i _ _ (by omega) hlt (by omega) hp hn.2 (by omega) (by omega) (hno hb i (Nat.le_refl _) (hem _)) (fun _ => by omega)
      · rw [if_neg hbig]
        by_cases hb : brkN x.2 = 2
        · rw [if_pos hb]
          refine goodL_cons hj hn.2 (by omega) hlt (by omega) (by omega) (by rw [Nat.add_sub_cancel]; exact h2) ?_
          exact ih (i + 1) (i + 1) _ _ (by omega) hlt (Nat.le_refl _) hn.2 hn.2 (Nat.le_refl _) (by omega) (hem _) (fun h => by omega)
        · rw [if_neg hb]
          exact ih (i + 1) j f _ (by omega) hlt (by omega) hj hn.2 (by omega) (by omega) (hno hb j hji h2) (fun _ => by omega)
    · have e : i = (pcs s).length := by omega
      subst e
      have := hbw_end s p hp
      rw [List.drop_length]
      exact ⟨rfl, rfl, by omega, by omega, hj, hji, h2⟩
theorem lines_good (s : ByteArray) : GoodL s 0 0 (linesN s) :=
  good_lines s _ 0 0 0 0 (Nat.le_refl _) (Nat.zero_le _) (Nat.le_refl _) (hbw_zero s) (hbw_zero s) (Nat.le_refl _) (by omega) (fun k h1 h2 => by omega) (fun h => by omega)
end Go.Proofs.YthkapcnhfdpdbaaDoor

/- Layer 13, pure: a line by itself is one line, and an empty one behind it if a Must ends it. -/
namespace Go.Proofs.YthkapcnhfdpdbaaDoor
open Go.RowKit Go.Lib

theorem hbw_at (s : ByteArray) (j f : Nat) (x : Nat × ByteArray) (h : HBw s j f) (hx : (pcs s)[j]? = some x) : x.1 = f := by
  have hj := (List.getElem?_eq_some_iff.1 hx).1
  obtain ⟨k, hk, hd, rfl⟩ := h
  obtain ⟨_, hy⟩ := drop_at s j k hd hj
  rw [hx] at hy
  rw [Option.some.inj hy]
/-- the clusters of a piece between two borders -/
theorem line_pcs (s : ByteArray) (j i f e : Nat) (hj : HBw s j f) (hi : HBw s i e) (hji : j < i) (hil : i ≤ (pcs s).length) :
    (pcs (s.extract f e)).length = i - j ∧ ∀ (k : Nat) (x y : Nat × ByteArray), (pcs s)[j + k]? = some x → (pcs (s.extract f e))[k]? = some y → x.2 = y.2 ∧ x.1 = y.1 + f := by
  have hes := hbw_le s i e hi
  obtain ⟨ki, hki, hdi, hpe⟩ := hi
  have c1 : pcs (s.extract 0 e) = (pcs s).take i := by rw [← hpe]; exact take_cut s i ki hil hki hdi
  obtain ⟨x0, hx0⟩ : ∃ x0, (pcs s)[j]? = some x0 := ⟨_, List.getElem?_eq_getElem (by omega)⟩
  have hf := hbw_at s j f x0 hj hx0
  have hx0' : (pcs (s.extract 0 e))[j]? = some x0 := by rw [c1, List.getElem?_take, if_pos hji]; exact hx0
  obtain ⟨k', hk', hd', e'⟩ := (hbw_next (s.extract 0 e) j x0 hx0').1
  obtain ⟨hl, hc⟩ := drop_cut (s.extract 0 e) k' hk'
  rw [e', hf] at hl hc
  have hsz : (s.extract 0 e).size = e := by rw [ByteArray.size_extract]; omega
  have hfe : (s.extract 0 e).extract f (s.extract 0 e).size = s.extract f e := by
    rw [ByteArray.extract_extract, hsz]
    congr 1 <;> omega
  rw [hfe, ← hd', c1] at hl
  rw [hfe, ← hd', c1] at hc
  rw [List.length_drop, List.length_take, Nat.min_eq_left hil] at hl
  refine ⟨hl, fun k x y hx hy => ?_⟩
  have hk := (List.getElem?_eq_some_iff.1 hy).1
  refine hc k x y ?_ hy
  rw [List.getElem?_drop, List.getElem?_take, if_pos (by omega)]
  exact hx
theorem linesF_plain (t : ByteArray) : ∀ (l : List (Nat × ByteArray)), (∀ x ∈ l, x.1 + x.2.size ≤ 65536 ∧ brkN x.2 ≠ 2) → linesF t 0 l = [(0, t.extract 0 t.size)]
  | [], _ => rfl
  | x :: l, h => by
    have hx := h x (by simp)
    rw [linesF, if_neg (by omega), if_neg hx.2]
    exact linesF_plain t l fun y hy => h y (by simp [hy])
theorem linesF_last (t : ByteArray) (x : Nat × ByteArray) (hx : x.1 + x.2.size ≤ 65536) (hb : brkN x.2 = 2) : ∀ (l : List (Nat × ByteArray)), (∀ x ∈ l, x.1 + x.2.size ≤ 65536 ∧ brkN x.2 ≠ 2) →
    linesF t 0 (l ++ [x]) = [(0, t.extract 0 (x.1 + x.2.size)), (x.1 + x.2.size, t.extract (x.1 + x.2.size) t.size)]
  | [], _ => by
    rw [List.nil_append, linesF, if_neg (by omega), if_pos hb]
    rfl
  | y :: l, h => by
    have hy := h y (by simp)
    rw [List.cons_append, linesF, if_neg (by omega), if_neg hy.2]
    exact linesF_last t x hx hb l fun z hz => h z (by simp [hz])
theorem pcs_lastend (t : ByteArray) (x : Nat × ByteArray) (h : (pcs t)[(pcs t).length - 1]? = some x) : x.1 + x.2.size = t.size := by
  have hl := (List.getElem?_eq_some_iff.1 h).1
  have hn := (hbw_next t _ x h).2
  rw [show (pcs t).length - 1 + 1 = (pcs t).length by omega] at hn
  exact hbw_end t _ hn
/-- a line by itself -/
theorem line_alone (s : ByteArray) (j i f e : Nat) (hj : HBw s j f) (hi : HBw s i e) (hji : j < i) (hil : i ≤ (pcs s).length) (hfe : e - f ≤ 65536) (hno : NoMust s j (i - 1)) (x : Nat × ByteArray) (hx : (pcs s)[i - 1]? = some x) :
    linesN (s.extract f e) = if brkN x.2 = 2 then [(0, s.extract f e), ((s.extract f e).size, ByteArray.empty)] else [(0, s.extract f e)] := by
  obtain ⟨hl, hc⟩ := line_pcs s j i f e hj hi hji hil
  obtain ⟨t, ht⟩ : ∃ t, s.extract f e = t := ⟨_, rfl⟩
  have hts : t.size ≤ 65536 := by rw [← ht, ByteArray.size_extract]; omega
  rw [ht] at hl hc ⊢
  have hend : ∀ (k : Nat) (y : Nat × ByteArray), (pcs t)[k]? = some y → y.1 + y.2.size ≤ 65536 := fun k y hy => by
    have := pcs_chain t k y hy; omega
  have hb : ∀ (k : Nat) (y : Nat × ByteArray), (pcs t)[k]? = some y → k + 1 < i - j → brkN y.2 ≠ 2 := fun k y hy hk => by
    obtain ⟨z, hz⟩ : ∃ z, (pcs s)[j + k]? = some z := ⟨_, List.getElem?_eq_getElem (by omega)⟩
    rw [← (hc k z y hz hy).1]
    exact hno (j + k) (by omega) (by omega) z hz
  obtain ⟨y, hy⟩ : ∃ y, (pcs t)[(pcs t).length - 1]? = some y := ⟨_, List.getElem?_eq_getElem (by omega)⟩
  have hxy : x.2 = y.2 := by
    rw [hl] at hy
    exact (hc (i - j - 1) x y (by rw [show j + (i - j - 1) = i - 1 by omega]; exact hx) hy).1
  have hye := pcs_lastend t y hy
  have hsplit : pcs t = (pcs t).take ((pcs t).length - 1) ++ [y] := by
    have := take_snoc (pcs t) _ y hy
    rw [show (pcs t).length - 1 + 1 = (pcs t).length by omega, List.take_length] at this
    exact this
  have hall : ∀ z ∈ (pcs t).take ((pcs t).length - 1), z.1 + z.2.size ≤ 65536 ∧ brkN z.2 ≠ 2 := fun z hz => by
    obtain ⟨k, hk, rfl⟩ := List.getElem_of_mem hz
    rw [List.length_take] at hk
    have hzk : (pcs t)[k]? = some ((pcs t).take ((pcs t).length - 1))[k] := by
      rw [List.getElem_take, List.getElem?_eq_getElem (by omega)]
    exact ⟨hend k _ hzk, hb k _ hzk (by omega)⟩
  unfold linesN
  rw [hxy]
  by_cases h2 : brkN y.2 = 2
  · rw [if_pos h2, hsplit, linesF_last t y (hend _ y hy) h2 _ hall, hye]
    congr 1
    · simp
    · congr 1; simp
  · rw [if_neg h2, linesF_plain t (pcs t) (fun z hz => ?_)]
    · simp
    · rw [hsplit] at hz
      rcases List.mem_append.1 hz with hz | hz
      · exact hall z hz
      · obtain rfl := List.mem_singleton.1 hz
        exact ⟨hend _ z hy, h2⟩
end Go.Proofs.YthkapcnhfdpdbaaDoor

/- Layer 13, pure: what is said behind a cluster, of a piece alone (BreaksLocal); what is said of a line (BreaksWhole). -/
namespace Go.Proofs.YthkapcnhfdpdbaaDoor
open Go.RowKit Go.Lib

theorem where_piece (C : List Nat) (n k : Nat) (hk : k < C.length) (hn : n ≤ k) (hs : n = 0 ∨ C[n]? ≠ some 1) :
    (whereF (-1) ((C.drop n).take (k + 2 - n)))[k - n]? = (whereF (-1) C)[k]? := by
  have h1 : (whereF (-1) C)[k]? = ((whereF (-1) C).drop n)[k - n]? := by rw [List.getElem?_drop, show n + (k - n) = k by omega]
  have h2 : (whereF (-1) C).drop n = whereF (-1) (C.drop n) := by
    rcases hs with rfl | hs
    · rfl
    · obtain ⟨q, hq⟩ := whereF_drop C (-1) n
      rw [hq, List.drop_eq_getElem_cons (show n < C.length by omega)]
      refine whereF_solid _ (fun e => hs ?_) _ _ _
      rw [List.getElem?_eq_getElem (by omega), e]
  rw [h1, h2]
  have h3 : C.drop n = (C.drop n).take (k + 2 - n) ++ (C.drop n).drop (k + 2 - n) := (List.take_append_drop _ _).symm
  rcases Nat.lt_or_ge (k + 1) C.length with h | h
  · have h4 : k - n + 1 < ((C.drop n).take (k + 2 - n)).length := by rw [List.length_take, List.length_drop]; omega
    have := whereF_local ((C.drop n).take (k + 2 - n)) ((C.drop n).drop (k + 2 - n)) (-1) (k - n) h4
    rw [← h3] at this
    exact this.symm
  · rw [List.take_of_length_le (by rw [List.length_drop]; omega)]
/-- of a line: as much as it has clusters; Must just behind its last one, if that is Must -/
theorem where_line (s : ByteArray) (j i f e : Nat) (hj : HBw s j f) (hi : HBw s i e) (hji : j < i) (hil : i ≤ (pcs s).length) (hno : NoMust s j (i - 1)) (x : Nat × ByteArray) (hx : (pcs s)[i - 1]? = some x) :
    (whereN (s.extract f e)).length = i - j ∧ (∀ k, k + 1 < i - j → (whereN (s.extract f e))[k]? ≠ some 2) ∧ ((whereN (s.extract f e))[i - j - 1]? = some 2 ↔ brkN x.2 = 2) := by
  obtain ⟨hl, hc⟩ := line_pcs s j i f e hj hi hji hil
  have hlen : (whereN (s.extract f e)).length = i - j := by unfold whereN; rw [whereF_len, List.length_map, hl]
  refine ⟨hlen, fun k hk h => ?_, ?_⟩
  · unfold whereN at h
    rw [whereF_must, List.getElem?_map] at h
    obtain ⟨y, hy⟩ : ∃ y, (pcs (s.extract f e))[k]? = some y := ⟨_, List.getElem?_eq_getElem (by omega)⟩
    obtain ⟨z, hz⟩ : ∃ z, (pcs s)[j + k]? = some z := ⟨_, List.getElem?_eq_getElem (by omega)⟩
    rw [hy] at h
    have h : brkN y.2 = 2 := Option.some.inj h
    rw [← (hc k z y hz hy).1] at h
    exact hno (j + k) (by omega) (by omega) z hz h
  · unfold whereN
    rw [whereF_must, List.getElem?_map]
    obtain ⟨y, hy⟩ : ∃ y, (pcs (s.extract f e))[i - j - 1]? = some y := ⟨_, List.getElem?_eq_getElem (by omega)⟩
    have := (hc (i - j - 1) x y (by rw [show j + (i - j - 1) = i - 1 by omega]; exact hx) hy).1
    rw [hy, this]
    exact ⟨fun h => Option.some.inj h, fun h => by rw [← h]; rfl⟩
end Go.Proofs.YthkapcnhfdpdbaaDoor

/- Layer 13, pure: Where and Lines as they are made, round by round. -/
namespace Go.Proofs.YthkapcnhfdpdbaaDoor
open Go.RowKit Go.Lib

theorem whereF_get : ∀ (C : List Nat) (p : Int) (i a : Nat), C[i]? = some a →
    (whereF p C)[i]? = some (if i + 1 < C.length then saysN a (C.getD (i + 1) 0) (solidN ((C.take i).foldl solidN p) a) else if a = 2 then 2 else 0)
  | [], _, _, _, h => by cases h
  | [c], p, 0, a, h => by
    obtain rfl := Option.some.inj h
    rw [if_neg (show ¬ (0 + 1 < [c].length) by simp only [List.length_singleton]; omega)]
    rfl
  | [c], p, i + 1, a, h => by cases h
  | c :: b :: t, p, 0, a, h => by
    obtain rfl := Option.some.inj h
    rw [whereF, if_pos (by simp)]
    rfl
  | c :: b :: t, p, i + 1, a, h => by
    have ih := whereF_get (b :: t) (solidN p c) i a h
    rw [whereF, List.getElem?_cons_succ, ih]
    have e1 : (b :: t).length = t.length + 1 := List.length_cons
    have e2 : (c :: b :: t).length = t.length + 1 + 1 := by rw [List.length_cons, e1]
    rw [e1, e2]
    by_cases hl : i + 1 < t.length + 1
    · rw [if_pos hl, if_pos (show i + 1 + 1 < t.length + 1 + 1 by omega)]
      rfl
    · rw [if_neg hl, if_neg (show ¬ (i + 1 + 1 < t.length + 1 + 1) by omega)]
theorem solid_next (C : List Nat) (p : Int) (i a : Nat) (h : C[i]? = some a) : (C.take (i + 1)).foldl solidN p = solidN ((C.take i).foldl solidN p) a := by
  rw [List.take_add_one, h, List.foldl_append]
  rfl
theorem whereF_take (C : List Nat) (i a : Nat) (h : C[i]? = some a) : (whereF (-1) C).take (i + 1) = (whereF (-1) C).take i ++ [if i + 1 < C.length then saysN a (C.getD (i + 1) 0) (solidN ((C.take i).foldl solidN (-1)) a) else if a = 2 then 2 else 0] := by
  rw [List.take_add_one, whereF_get C (-1) i a h]
  rfl
end Go.Proofs.YthkapcnhfdpdbaaDoor

/- Layer 13, pure: what the program tells of each cluster's end, as it is made: the neighbourhoods, the rules one behind the other. -/
namespace Go.Proofs.YthkapcnhfdpdbaaDoor
open Go.RowKit Go.Lib

/-- a cluster's class as the program asks for it: of its first character -/
def rawN (c : ByteArray) : Nat := cls breaksL (char ((nxt c.data.toList).1 : Int))
theorem raw_fffd : cls breaksL (char ((65533 : Nat) : Int)) = 0 := by decide +kernel
theorem brk_raw (c : ByteArray) : brkN c = if rawN c = 8 then 0 else rawN c := by
  unfold rawN brkN nxt
  by_cases h : c.data.toList = []
  · rw [if_pos h, h]
    decide +kernel
  · rw [if_neg h, segs_cons _ h]
    obtain ⟨d, hd⟩ : ∃ d, dec c.data.toList = d := ⟨_, rfl⟩
    rw [hd]
    show brkD d = _
    unfold brkD
    by_cases hb : badD d = true
    · obtain ⟨x, n⟩ := d
      have hx : x = 65533 := by
        simp [badD] at hb
        exact hb.1
      subst hx
      rw [if_pos (.inl hb), raw_fffd]
      rfl
    · by_cases h8 : cls breaksL (char (d.1 : Int)) = 8
      · rw [if_pos (.inr h8), if_pos h8]
      · rw [if_neg (fun e => e.elim hb h8), if_neg h8]
/-- a neighbourhood: the classes of a cluster, of the one behind it, and of the solid one at it -/
abbrev Nb := Int × Int × Int
def onwN (n : Nb) (b : Int) : Nb := (n.2.1, b, if n.2.1 = 1 then n.2.2 else n.2.1)
def stN (R : List Nat) : Nat → Nb
  | 0 => (-1, -1, -1)
  | j + 1 => onwN (stN R j) (R.getD j 0 : Nat)
def rawsN (s : ByteArray) : List Nat := (pcs s).map fun x => rawN x.2
def endAt (s : ByteArray) (i : Nat) : Nat := match (pcs s)[i]? with
  | some x => x.1 + x.2.size
  | none => s.size
def nxtC (R : List Nat) (i : Nat) : Int := if i < R.length then (R.getD i 0 : Nat) else -1
def nbAt (s : ByteArray) (i : Nat) : Nat × Nb := (endAt s i, onwN (stN (rawsN s) (i + 1)) (nxtC (rawsN s) (i + 1)))
def nbsN (s : ByteArray) : List (Nat × Nb) := (List.range (pcs s).length).map (nbAt s)
/-- the rules -/
def rowN (n : Nb) : List (Bool × Nat) := [(decide (n.1 = 2), 2), (decide (n.2.1 = -1 ∨ n.2.1 = 2 ∨ n.2.1 = 1 ∨ n.2.1 = 9), 0), (decide (n.2.2 = 9), 1), (decide (n.1 = 12 ∨ n.2.1 = 12), 0),
  (decide (n.1 = 5 ∨ (n.2.1 = 5 ∧ n.1 ≠ 1 ∧ n.1 ≠ 6)), 0), (decide (n.2.1 = 4 ∨ (n.2.1 = 11 ∧ n.1 ≠ 1) ∨ n.2.2 = 3), 0), (decide (n.1 = 1), 1), (decide (n.2.1 = 6), 0),
  (decide (n.1 = 6 ∧ n.2.1 = 10), 0), (decide (n.1 = 6), 1), (decide (n.1 = 7 ∨ n.2.1 = 7), 1), (true, 0)]
def sayL : List (Bool × Nat) → Nat
  | [] => 0
  | (b, v) :: t => if b = true then v else sayL t
def sayP (n : Nb) : Nat := sayL (rowN n)
def endsN (s : ByteArray) : List (Nat × Nat) := (nbsN s).map fun x => (x.1, sayP x.2)
theorem sayP_eq (a b p : Int) : sayP (a, b, p) = if a = 2 then 2 else if b = -1 ∨ b = 2 ∨ b = 1 ∨ b = 9 then 0 else if p = 9 then 1 else if a = 12 ∨ b = 12 then 0 else if a = 5 ∨ (b = 5 ∧ a ≠ 1 ∧ a ≠ 6) then 0
    else if b = 4 ∨ (b = 11 ∧ a ≠ 1) ∨ p = 3 then 0 else if a = 1 then 1 else if b = 6 then 0 else if a = 6 ∧ b = 10 then 0 else if a = 6 then 1 else if a = 7 ∨ b = 7 then 1 else 0 := by
  unfold sayP rowN
  simp only [sayL, decide_eq_true_eq, if_pos]
def dwn (x : Int) : Int := if x = 8 then 0 else x
theorem dwn_is (x c : Int) (h8 : c ≠ 8) (h0 : c ≠ 0) : (dwn x = c) = (x = c) := by
  unfold dwn
  apply propext
  split <;> omega
theorem sayP_dwn (a b p : Int) : sayP (dwn a, dwn b, dwn p) = sayP (a, b, p) := by
  rw [sayP_eq, sayP_eq]
  simp only [ne_eq, dwn_is a _ (show (2 : Int) ≠ 8 by decide) (by decide), dwn_is a 12 (by decide) (by decide), dwn_is a 5 (by decide) (by decide), dwn_is a 1 (by decide) (by decide), dwn_is a 6 (by decide) (by decide), dwn_is a 7 (by decide) (by decide),
    dwn_is b (-1) (by decide) (by decide), dwn_is b 2 (by decide) (by decide), dwn_is b 1 (by decide) (by decide), dwn_is b 9 (by decide) (by decide), dwn_is b 12 (by decide) (by decide), dwn_is b 5 (by decide) (by decide), dwn_is b 4 (by decide) (by decide),
    dwn_is b 11 (by decide) (by decide), dwn_is b 6 (by decide) (by decide), dwn_is b 10 (by decide) (by decide), dwn_is b 7 (by decide) (by decide), dwn_is p 9 (by decide) (by decide), dwn_is p 3 (by decide) (by decide)]
theorem ite_step {p q : Prop} [Decidable p] [Decidable q] {x y z : Nat} (h : p ↔ q) (hyz : y = z) : (if p then x else y) = (if q then x else z) := by
  by_cases hp : p
  · rw [if_pos hp, if_pos (h.1 hp)]
  · rw [if_neg hp, if_neg (fun e => hp (h.2 e)), hyz]
theorem ite_merge {p p' q : Prop} [Decidable p] [Decidable p'] [Decidable q] {x y z : Nat} (h : (p ∨ p') ↔ q) (hyz : y = z) : (if p then x else if p' then x else y) = (if q then x else z) := by
  by_cases hp : p
  · rw [if_pos hp, if_pos (h.1 (.inl hp))]
  · by_cases hp' : p'
    · rw [if_neg hp, if_pos hp', if_pos (h.1 (.inr hp'))]
    · rw [if_neg hp, if_neg hp', if_neg (fun e => (h.2 e).elim hp hp'), hyz]
theorem sayP_says (a b : Nat) (p : Int) : sayP ((a : Int), (b : Int), p) = saysN a b p := by
  rw [sayP_eq]
  unfold saysN
  refine ite_step (by omega) (ite_step (by omega) (ite_step (by omega) (ite_merge (by omega) (ite_step (by omega) (ite_step (by omega) (ite_step (by omega) (ite_step (by omega) (ite_merge (by omega) rfl))))))))
theorem sayP_end (a : Nat) (p : Int) : sayP ((a : Int), -1, p) = if a = 2 then 2 else 0 := by
  rw [sayP_eq]
  refine ite_step (by omega) ?_
  rw [if_pos (.inl rfl)]
theorem solid_dwn (p : Int) (a : Nat) : dwn (solidN p a) = solidN (dwn p) (if a = 8 then 0 else a) := by
  unfold solidN dwn
  repeat' split
  all_goals omega
theorem fold_dwn : ∀ (l : List Nat) (p : Int), dwn (l.foldl solidN p) = (l.map fun a => if a = 8 then 0 else a).foldl solidN (dwn p)
  | [], _ => rfl
  | a :: t, p => by
    rw [List.foldl_cons, List.map_cons, List.foldl_cons, fold_dwn t, solid_dwn]
/-- the state behind j clusters -/
theorem st_is (R : List Nat) : ∀ (j : Nat), j ≤ R.length → (stN R j).2.1 = (if j = 0 then -1 else ((R.getD (j - 1) 0 : Nat) : Int)) ∧ (stN R j).2.2 = (R.take (j - 1)).foldl solidN (-1)
  | 0, _ => ⟨rfl, rfl⟩
  | j + 1, hj => by
    obtain ⟨h1, h2⟩ := st_is R j (by omega)
    refine ⟨rfl, ?_⟩
    show (if (stN R j).2.1 = 1 then (stN R j).2.2 else (stN R j).2.1) = _
    rw [Nat.add_sub_cancel, h1, h2]
    cases j with
    | zero => rfl
    | succ j =>
      rw [if_neg (Nat.succ_ne_zero j), Nat.add_sub_cancel]
      have hg : R[j]? = some (R.getD j 0) := by
        rw [List.getD_eq_getElem?_getD, List.getElem?_eq_getElem (by omega)]
        rfl
      rw [solid_next R (-1) j _ hg]
      obtain ⟨v, hv⟩ : ∃ v, R.getD j 0 = v := ⟨_, rfl⟩
      rw [hv]
      unfold solidN
      repeat' split
      all_goals first | rfl | omega
theorem raws_brk (s : ByteArray) : (rawsN s).map (fun a => if a = 8 then 0 else a) = (pcs s).map fun x => brkN x.2 := by
  unfold rawsN
  rw [List.map_map]
  refine List.map_congr_left fun x _ => ?_
  exact (brk_raw x.2).symm
theorem raws_len (s : ByteArray) : (rawsN s).length = (pcs s).length := by unfold rawsN; rw [List.length_map]
/-- what the rules say at each end is what is said there -/
theorem nb_says (s : ByteArray) (i : Nat) (hi : i < (pcs s).length) : (whereN s)[i]? = some (sayP (nbAt s i).2) := by
  obtain ⟨h1, h2⟩ := st_is (rawsN s) (i + 1) (by rw [raws_len]; omega)
  have hl := raws_len s
  have hC := raws_brk s
  unfold whereN
  rw [← hC]
  obtain ⟨R, hR⟩ : ∃ R, rawsN s = R := ⟨_, rfl⟩
  unfold nbAt
  rw [hR] at h1 h2 hl ⊢
  rw [Nat.add_sub_cancel, if_neg (Nat.succ_ne_zero i)] at h1
  rw [Nat.add_sub_cancel] at h2
  have hg : R[i]? = some (R.getD i 0) := by
    rw [List.getD_eq_getElem?_getD, List.getElem?_eq_getElem (by omega)]
    rfl
  obtain ⟨a, ha⟩ : ∃ a, R.getD i 0 = a := ⟨_, rfl⟩
  rw [ha] at hg h1
  have hg2 : (R.map fun a => if a = 8 then 0 else a)[i]? = some (if a = 8 then 0 else a) := by rw [List.getElem?_map, hg]; rfl
  rw [whereF_get _ (-1) i _ hg2]
  have hon : onwN (stN R (i + 1)) (nxtC R (i + 1)) = ((a : Int), nxtC R (i + 1), solidN ((R.take i).foldl solidN (-1)) a) := by
    unfold onwN
    rw [h1, h2]
    unfold solidN
    have e : ((a : Int) = 1) = (a = 1) := propext (by omega)
    simp only [e]
  show _ = some (sayP (onwN (stN R (i + 1)) (nxtC R (i + 1))))
  rw [hon, ← sayP_dwn]
  congr 1
  have hda : dwn (a : Int) = ((if a = 8 then 0 else a : Nat) : Int) := by
    unfold dwn
    repeat' split
    all_goals omega
  rw [hda, solid_dwn, fold_dwn, ← List.map_take, List.length_map]
  unfold nxtC
  by_cases hn : i + 1 < R.length
  · rw [if_pos hn, if_pos hn]
    have hgd : (R.map fun a => if a = 8 then 0 else a).getD (i + 1) 0 = if R.getD (i + 1) 0 = 8 then 0 else R.getD (i + 1) 0 := by
      rw [List.getD_eq_getElem?_getD, List.getD_eq_getElem?_getD, List.getElem?_map, List.getElem?_eq_getElem hn]
      rfl
    rw [hgd]
    obtain ⟨b, hb⟩ : ∃ b, R.getD (i + 1) 0 = b := ⟨_, rfl⟩
    rw [hb]
    have hdb : dwn (b : Int) = ((if b = 8 then 0 else b : Nat) : Int) := by
      unfold dwn
      repeat' split
      all_goals omega
    rw [hdb, sayP_says]
    rfl
  · rw [if_neg hn, if_neg hn]
    rw [show dwn (-1) = -1 from rfl, sayP_end]
theorem nbs_len (s : ByteArray) : (nbsN s).length = (pcs s).length := by unfold nbsN; simp
theorem ends_len (s : ByteArray) : (endsN s).length = (pcs s).length := by unfold endsN; rw [List.length_map, nbs_len]
theorem nbs_get (s : ByteArray) (i : Nat) (hi : i < (pcs s).length) : (nbsN s)[i]? = some (nbAt s i) := by
  unfold nbsN
  rw [List.getElem?_map, List.getElem?_range hi]
  rfl
theorem ends_get (s : ByteArray) (i : Nat) (x : Nat × ByteArray) (hx : (pcs s)[i]? = some x) : ∃ v, (endsN s)[i]? = some (x.1 + x.2.size, v) ∧ (whereN s)[i]? = some v := by
  have hi := (List.getElem?_eq_some_iff.1 hx).1
  refine ⟨sayP (nbAt s i).2, ?_, nb_says s i hi⟩
  unfold endsN
  rw [List.getElem?_map, nbs_get s i hi]
  show some ((endAt s i), _) = _
  unfold endAt
  rw [hx]
theorem ends_where (s : ByteArray) : (endsN s).map (·.2) = whereN s := by
  have hl : (whereN s).length = (pcs s).length := by unfold whereN; rw [whereF_len, List.length_map]
  refine List.ext_getElem? fun i => ?_
  by_cases hi : i < (pcs s).length
  · rw [nb_says s i hi, List.getElem?_map]
    unfold endsN
    rw [List.getElem?_map, nbs_get s i hi]
    rfl
  · rw [List.getElem?_eq_none (by rw [List.length_map, ends_len]; omega), List.getElem?_eq_none (by rw [hl]; omega)]
theorem ends_must (s : ByteArray) (i : Nat) (x : Nat × ByteArray) (v : Nat) (hx : (pcs s)[i]? = some x) (hv : (whereN s)[i]? = some v) : v = 2 ↔ brkN x.2 = 2 := by
  have h := whereF_must ((pcs s).map fun x => brkN x.2) (-1) i
  rw [show (whereF (-1) ((pcs s).map fun x => brkN x.2)) = whereN s from rfl, hv, List.getElem?_map, hx] at h
  simpa using h
end Go.Proofs.YthkapcnhfdpdbaaDoor

/- Layer 13, pure: the lines as the program makes them, round by round. -/
namespace Go.Proofs.YthkapcnhfdpdbaaDoor
open Go.RowKit Go.Lib

/-- a round: f: where the line begins; the lines told so far -/
def lnS (s : ByteArray) (st : Nat × List (Nat × ByteArray)) (x : Nat × ByteArray) : Nat × List (Nat × ByteArray) :=
  if 65536 < x.1 + x.2.size - st.1 then
    (if brkN x.2 = 2 then (x.1 + x.2.size, st.2 ++ [(st.1, s.extract st.1 x.1)] ++ [(x.1, s.extract x.1 (x.1 + x.2.size))]) else (x.1, st.2 ++ [(st.1, s.extract st.1 x.1)]))
  else (if brkN x.2 = 2 then (x.1 + x.2.size, st.2 ++ [(st.1, s.extract st.1 (x.1 + x.2.size))]) else st)
def lnF (s : ByteArray) (j : Nat) : Nat × List (Nat × ByteArray) := ((pcs s).take j).foldl (lnS s) (0, [])
theorem lines_fold (s : ByteArray) : ∀ (L M : List (Nat × ByteArray)) (st : Nat × List (Nat × ByteArray)), st.2 ++ linesF s st.1 (L ++ M) = (L.foldl (lnS s) st).2 ++ linesF s (L.foldl (lnS s) st).1 M
  | [], _, _ => rfl
  | x :: t, M, st => by
    rw [List.foldl_cons, ← lines_fold s t M, List.cons_append, linesF]
    unfold lnS
    by_cases h1 : 65536 < x.1 + x.2.size - st.1
    · rw [if_pos h1, if_pos h1]
      by_cases h2 : brkN x.2 = 2
      · rw [if_pos h2, if_pos h2]
        simp
      · rw [if_neg h2, if_neg h2]
        simp
    · rw [if_neg h1, if_neg h1]
      by_cases h2 : brkN x.2 = 2
      · rw [if_pos h2, if_pos h2]
        simp
      · rw [if_neg h2, if_neg h2]
theorem lines_split (s : ByteArray) (j : Nat) : linesN s = (lnF s j).2 ++ linesF s (lnF s j).1 ((pcs s).drop j) := by
  have h := lines_fold s ((pcs s).take j) ((pcs s).drop j) (0, [])
  rw [List.take_append_drop] at h
  exact h
theorem lnF_next {s : ByteArray} {j : Nat} {x : Nat × ByteArray} (h : (pcs s)[j]? = some x) : lnF s (j + 1) = lnS s (lnF s j) x := by
  unfold lnF
  rw [take_snoc _ _ _ h, List.foldl_append]
  rfl
theorem lnF_le (s : ByteArray) : ∀ (j : Nat), j ≤ (pcs s).length → (lnF s j).1 ≤ sumB ((pcs s).take j)
  | 0, _ => Nat.le_refl _
  | j + 1, hj => by
    obtain ⟨x, hx⟩ : ∃ x, (pcs s)[j]? = some x := ⟨_, List.getElem?_eq_getElem (by omega)⟩
    have ih := lnF_le s j (by omega)
    have h1 := (pcs_chain s j x hx).1
    rw [lnF_next hx, take_snoc _ _ _ hx, sumB_snoc]
    unfold lnS
    repeat' split
    all_goals first | omega | (dsimp only; omega)
theorem lines_last (s : ByteArray) : linesN s = (lnF s (pcs s).length).2 ++ [((lnF s (pcs s).length).1, s.extract (lnF s (pcs s).length).1 s.size)] := by
  have h := lines_split s (pcs s).length
  rw [List.drop_length] at h
  exact h
theorem pfx1 {α : Type} {L a R : List α} {x : α} (h : L = a ++ x :: R) : a ++ [x] <+: L := ⟨R, by rw [h]; simp⟩
theorem pfx2 {α : Type} {L a R : List α} {x y : α} (h : L = a ++ x :: y :: R) : a ++ [x] ++ [y] <+: L := ⟨R, by rw [h]; simp⟩
theorem len_pfx {α : Type} {a L : List α} {x : α} (h : a ++ [x] <+: L) : a.length < L.length := by
  have := h.length_le
  simp at this
  omega
/-- what a round tells, and where it leads -/
structure LnR (s : ByteArray) (j f b e v : Nat) (told : List (Nat × ByteArray)) : Prop where
  fb : f ≤ b
  be : b < e
  es : e ≤ s.size
  long : 65536 < e - f → told ++ [(f, s.extract f b)] <+: linesN s
  longmust : 65536 < e - f → v = 2 → told ++ [(f, s.extract f b)] ++ [(b, s.extract b e)] <+: linesN s
  must : ¬ 65536 < e - f → v = 2 → told ++ [(f, s.extract f e)] <+: linesN s
  bord : sumB ((pcs s).take (j + 1)) = e
  nLM : 65536 < e - f → v = 2 → lnF s (j + 1) = (e, told ++ [(f, s.extract f b)] ++ [(b, s.extract b e)])
  nL : 65536 < e - f → v ≠ 2 → lnF s (j + 1) = (b, told ++ [(f, s.extract f b)])
  nM : ¬ 65536 < e - f → v = 2 → lnF s (j + 1) = (e, told ++ [(f, s.extract f e)])
  nN : ¬ 65536 < e - f → v ≠ 2 → lnF s (j + 1) = (f, told)
theorem ln_round {s : ByteArray} {j : Nat} {x : Nat × ByteArray} {v : Nat} (h : (pcs s)[j]? = some x) (hv : (whereN s)[j]? = some v) :
    LnR s j (lnF s j).1 (sumB ((pcs s).take j)) (x.1 + x.2.size) v (lnF s j).2 := by
  have hc := pcs_chain s j x h
  have hm := ends_must s j x v h hv
  have hn := lnF_next h
  have hsp := lines_split s j
  have hle := lnF_le s j (Nat.le_of_lt (List.getElem?_eq_some_iff.1 h).1)
  have hb : sumB ((pcs s).take (j + 1)) = x.1 + x.2.size := by rw [take_snoc _ _ _ h, sumB_snoc]; omega
  rw [List.drop_eq_getElem_cons (List.getElem?_eq_some_iff.1 h).1, (List.getElem?_eq_some_iff.1 h).2, linesF] at hsp
  rw [← hc.1] at hle ⊢
  obtain ⟨f, told, hst⟩ : ∃ f told, lnF s j = (f, told) := ⟨_, _, rfl⟩
  rw [hst] at hn hsp hle ⊢
  unfold lnS at hn
  dsimp only at hn hsp hle ⊢
  refine ⟨hle, by omega, hc.2.2, ?_, ?_, ?_, hb, ?_, ?_, ?_, ?_⟩
  · intro h1
    rw [if_pos h1] at hsp
    exact pfx1 hsp
  · intro h1 h2
    rw [if_pos h1, if_pos (hm.1 h2)] at hsp
    exact pfx2 hsp
  · intro h1 h2
    rw [if_neg h1, if_pos (hm.1 h2)] at hsp
    exact pfx1 hsp
  · intro h1 h2
    rw [hn, if_pos h1, if_pos (hm.1 h2)]
  · intro h1 h2
    rw [hn, if_pos h1, if_neg (fun e => h2 (hm.2 e))]
  · intro h1 h2
    rw [hn, if_neg h1, if_pos (hm.1 h2)]
  · intro h1 h2
    rw [hn, if_neg h1, if_neg (fun e => h2 (hm.2 e))]
end Go.Proofs.YthkapcnhfdpdbaaDoor
