/- Layer 12, pure: words: sorts of clusters, which segment goes on, the segments; a cut at a border of segments. -/
import Derived.Test.YthkapcnhfdpdbaaDoorRowG
import Derived.Test.YthkapcnhfdpdbaaDoorSameT
import Derived.Test.YthkapcnhfdpdbaaDoorFirstG
set_option linter.unusedSimpArgs false
set_option linter.unusedVariables false
namespace Go.Proofs.YthkapcnhfdpdbaaDoor
open Go.RowKit Go.Lib

/-- the sort of what begins with this character: 0 another one, 1 a letter, 2 a digit, 3 alone, 4 a blank -/
def sortD (d : Nat × Nat) : Nat :=
  if badD d = true then 0
  else if cls kindsL (char (d.1 : Int)) = 3 ∧ cls breaksL (char (d.1 : Int)) = 7 then 3
  else if cls kindsL (char (d.1 : Int)) = 3 ∨ cls kindsL (char (d.1 : Int)) = 2 ∨ d.1 = 95 then 1
  else if cls kindsL (char (d.1 : Int)) = 4 then 2
  else if (cls kindsL (char (d.1 : Int)) = 5 ∧ cls breaksL (char (d.1 : Int)) ≠ 2) ∨ d.1 = 9 then 4
  else 0
def sortN (c : ByteArray) : Nat := match segs c.data.toList with
  | [] => 0
  | d :: _ => sortD d
/-- may a cluster stand between two of these sorts -/
def joinsN (c : ByteArray) (a b : Nat) : Bool :=
  if c = ⟨#[39]⟩ ∨ c = ⟨#[226, 128, 153]⟩ ∨ c = ⟨#[194, 183]⟩ ∨ c = ⟨#[58]⟩ then a == 1 && b == 1
  else if c = ⟨#[46]⟩ ∨ c = ⟨#[44]⟩ then a == 2 && b == 2 else false
theorem joinsN_one {c : ByteArray} {a b : Nat} (h : joinsN c a b = true) : (a = 1 ∨ a = 2) ∧ (b = 1 ∨ b = 2) := by
  unfold joinsN at h
  split at h
  · simp at h; omega
  · split at h
    · simp at h; omega
    · cases h
/-- the cluster at a place, and its sort -/
def cuW (M : List ByteArray) (i : Nat) : ByteArray := match M[i]? with
  | some c => c
  | none => ByteArray.empty
def soW (M : List ByteArray) (i : Nat) : Nat := match M[i]? with
  | some c => sortN c
  | none => 0
def oneW (a : Nat) : Bool := a == 1 || a == 2
/-- does the segment with the cluster i go on with the next one -/
def goesW (M : List ByteArray) (i : Nat) : Bool :=
  decide (i + 1 < M.length) &&
    ((oneW (soW M i) && oneW (soW M (i + 1)) || soW M i == 4 && soW M (i + 1) == 4) ||
     (oneW (soW M i) && (decide (i + 2 < M.length) && joinsN (cuW M (i + 1)) (soW M i) (soW M (i + 2)))) ||
     (oneW (soW M (i + 1)) && (decide (0 < i) && joinsN (cuW M i) (soW M (i - 1)) (soW M (i + 1)))))
theorem oneW_of {a : Nat} (h : a = 1 ∨ a = 2) : oneW a = true := by rcases h with rfl | rfl <;> rfl
theorem get_takeW (M : List ByteArray) (n i : Nat) (h : i < n) : (M.take n)[i]? = M[i]? := by rw [List.getElem?_take, if_pos h]
theorem get_dropW (M : List ByteArray) (n i : Nat) : (M.drop n)[i]? = M[n + i]? := by rw [List.getElem?_drop]
theorem so_take (M : List ByteArray) (n i : Nat) (h : i < n) : soW (M.take n) i = soW M i := by unfold soW; rw [get_takeW M n i h]
theorem cu_take (M : List ByteArray) (n i : Nat) (h : i < n) : cuW (M.take n) i = cuW M i := by unfold cuW; rw [get_takeW M n i h]
theorem so_drop (M : List ByteArray) (n i : Nat) : soW (M.drop n) i = soW M (n + i) := by unfold soW; rw [get_dropW]
theorem cu_drop (M : List ByteArray) (n i : Nat) : cuW (M.drop n) i = cuW M (n + i) := by unfold cuW; rw [get_dropW]
theorem goes_last (M : List ByteArray) (i : Nat) (h : M.length ≤ i + 1) : goesW M i = false := by
  unfold goesW
  rw [decide_eq_false (by omega)]
  rfl
/-- a border between the places n and n + 1: ahead of it all is as in the whole -/
theorem goes_take (M : List ByteArray) (n : Nat) (hn : n < M.length) (hg : goesW M n = false) (i : Nat) (hi : i ≤ n) : goesW (M.take (n + 1)) i = goesW M i := by
  have hl : (M.take (n + 1)).length = n + 1 := by rw [List.length_take]; omega
  rcases Nat.lt_or_ge i n with h | h
  · unfold goesW
    rw [hl, so_take M _ i (by omega), so_take M _ (i + 1) (by omega), so_take M _ (i - 1) (by omega), cu_take M _ i (by omega), cu_take M _ (i + 1) (by omega)]
    rw [decide_eq_true (show i + 1 < n + 1 by omega), decide_eq_true (show i + 1 < M.length by omega)]
    rcases Nat.lt_or_ge (i + 1) n with h2 | h2
    · rw [so_take M _ (i + 2) (by omega), decide_eq_true (show i + 2 < n + 1 by omega), decide_eq_true (show i + 2 < M.length by omega)]
    · rw [decide_eq_false (show ¬ i + 2 < n + 1 by omega)]
      -- the place i + 1 is n: what stands behind the border
      have e : n = i + 1 := by omega
      subst e
      by_cases h3 : i + 2 < M.length
      · rw [decide_eq_true h3]
        cases hj : joinsN (cuW M (i + 1)) (soW M i) (soW M (i + 2)) with
        | false => rfl
        | true =>
          have h12 := joinsN_one hj
          unfold goesW at hg
          rw [decide_eq_true (show i + 1 + 1 < M.length by omega), show i + 1 + 1 = i + 2 by omega, show i + 1 - 1 = i by omega, hj, oneW_of h12.2] at hg
          simp at hg
      · rw [decide_eq_false h3]; simp
  · have e : i = n := by omega
    subst e
    rw [goes_last _ _ (by omega), hg]
/-- behind it all is as in the whole -/
theorem goes_drop (M : List ByteArray) (n : Nat) (hn : n < M.length) (hg : goesW M n = false) (i : Nat) : goesW (M.drop (n + 1)) i = goesW M (n + 1 + i) := by
  have hl : (M.drop (n + 1)).length = M.length - (n + 1) := by rw [List.length_drop]
  rcases Nat.lt_or_ge (n + 1 + i + 1) M.length with h | h
  · unfold goesW
    rw [hl, so_drop, so_drop, so_drop, so_drop, cu_drop, cu_drop]
    rw [decide_eq_true (show i + 1 < M.length - (n + 1) by omega), decide_eq_true h]
    rw [show n + 1 + (i + 1) = n + 1 + i + 1 by omega, show n + 1 + (i + 2) = n + 1 + i + 2 by omega]
    have hd : decide (i + 2 < M.length - (n + 1)) = decide (n + 1 + i + 2 < M.length) := by
      rw [decide_eq_decide]; omega
    rw [hd]
    cases i with
    | succ i =>
      rw [show n + 1 + (i + 1 - 1) = n + 1 + (i + 1) - 1 by omega, decide_eq_true (show 0 < i + 1 by omega), decide_eq_true (show 0 < n + 1 + (i + 1) by omega)]
    | zero =>
      rw [decide_eq_false (show ¬ 0 < 0 by omega), decide_eq_true (show 0 < n + 1 + 0 by omega)]
      cases hj : joinsN (cuW M (n + 1 + 0)) (soW M (n + 1 + 0 - 1)) (soW M (n + 1 + 0 + 1)) with
      | false => rfl
      | true =>
        have h12 := joinsN_one hj
        unfold goesW at hg
        rw [show n + 1 + 0 = n + 1 by omega, show n + 1 - 1 = n by omega] at hj
        rw [decide_eq_true (show n + 1 < M.length by omega), decide_eq_true (show n + 2 < M.length by omega), show n + 2 = n + 1 + 1 by omega, hj] at hg
        rw [show n + 1 + 0 - 1 = n by omega] at h12
        rw [oneW_of h12.1] at hg
        simp at hg
  · rw [goes_last _ _ (by omega), goes_last _ _ (by omega)]

/-- the segments: i: the place of the first cluster of the rest; f: where the segment begins -/
def wdsG (M : List ByteArray) (s : ByteArray) : Nat → Nat → List (Nat × ByteArray) → List (Nat × ByteArray)
  | _, _, [] => []
  | i, f, x :: t => if goesW M i = true then wdsG M s (i + 1) f t else (f, s.extract f (x.1 + x.2.size)) :: wdsG M s (i + 1) (x.1 + x.2.size) t
def wds (s : ByteArray) : List (Nat × ByteArray) := wdsG ((pcs s).map (·.2)) s 0 0 (pcs s)
theorem wdsG_len (M : List ByteArray) (s : ByteArray) : ∀ (t : List (Nat × ByteArray)) (i f : Nat), (wdsG M s i f t).length ≤ t.length
  | [], _, _ => Nat.le_refl _
  | x :: t, i, f => by
    unfold wdsG
    split
    · have := wdsG_len M s t (i + 1) f; simp; omega
    · have := wdsG_len M s t (i + 1) (x.1 + x.2.size); simp; omega
theorem wds_len (s : ByteArray) : (wds s).length ≤ (pcs s).length := wdsG_len _ _ _ _ _
/-- where the segment of the next cluster begins, behind some clusters -/
def begW (M : List ByteArray) : Nat → Nat → List (Nat × ByteArray) → Nat
  | _, f, [] => f
  | i, f, x :: t => begW M (i + 1) (if goesW M i = true then f else x.1 + x.2.size) t
theorem wdsG_append (M : List ByteArray) (s : ByteArray) : ∀ (a b : List (Nat × ByteArray)) (i f : Nat), wdsG M s i f (a ++ b) = wdsG M s i f a ++ wdsG M s (i + a.length) (begW M i f a) b
  | [], b, i, f => by simp [wdsG, begW]
  | x :: a, b, i, f => by
    simp only [List.cons_append, wdsG, begW, List.length_cons]
    rw [show i + (a.length + 1) = i + 1 + a.length by omega]
    by_cases h : goesW M i = true
    · rw [if_pos h, if_pos h, if_pos h, wdsG_append M s a b]
    · rw [if_neg h, if_neg h, if_neg h, wdsG_append M s a b, List.cons_append]
theorem begW_append (M : List ByteArray) : ∀ (a b : List (Nat × ByteArray)) (i f : Nat), begW M i f (a ++ b) = begW M (i + a.length) (begW M i f a) b
  | [], b, i, f => by simp [begW]
  | x :: a, b, i, f => by
    simp only [List.cons_append, begW, List.length_cons]
    rw [show i + (a.length + 1) = i + 1 + a.length by omega, begW_append M a b]
/-- the segments hang on the clusters alone -/
theorem wdsG_same {M M' : List ByteArray} {s s' : ByteArray} {d : Nat} : ∀ (t t' : List (Nat × ByteArray)) (i j f : Nat), t.length = t'.length →
    (∀ k, k < t.length → goesW M (i + k) = goesW M' (j + k)) →
    (∀ (k : Nat) (x y : Nat × ByteArray), t[k]? = some x → t'[k]? = some y → y.1 + y.2.size = x.1 + x.2.size + d) →
    (∀ (a k : Nat) (x : Nat × ByteArray), t[k]? = some x → s.extract a (x.1 + x.2.size) = s'.extract (a + d) (x.1 + x.2.size + d)) →
    ((wdsG M s i f t).map fun x => (x.1 + d, x.2)) = wdsG M' s' j (f + d) t'
  | [], [], _, _, _, _, _, _, _ => rfl
  | [], _ :: _, _, _, _, h, _, _, _ => by cases h
  | _ :: _, [], _, _, _, h, _, _, _ => by cases h
  | x :: t, y :: t', i, j, f, h, hg, he, hx => by
    have h0 := hg 0 (by simp)
    rw [Nat.add_zero, Nat.add_zero] at h0
    have he0 := he 0 x y rfl rfl
    have ih := fun g => wdsG_same t t' (i + 1) (j + 1) g (by simpa using h) (fun k hk => by
      have := hg (k + 1) (by simpa using hk)
      rwa [show i + 1 + k = i + (k + 1) by omega, show j + 1 + k = j + (k + 1) by omega]) (fun k x y h1 h2 => he (k + 1) x y h1 h2) (fun a k x h1 => hx a (k + 1) x h1)
    unfold wdsG
    rw [h0]
    by_cases hb : goesW M' j = true
    · rw [if_pos hb, if_pos hb]
      exact ih f
    · rw [if_neg hb, if_neg hb, List.map_cons, hx f 0 x rfl, ← he0]
      have := ih (x.1 + x.2.size)
      rw [← he0] at this
      rw [this]
end Go.Proofs.YthkapcnhfdpdbaaDoor

/- Layer 12, pure: the segments of the two parts of a text that is cut at a border of segments. -/
namespace Go.Proofs.YthkapcnhfdpdbaaDoor
open Go.RowKit Go.Lib

/-- ahead of the cluster i lie p bytes -/
def HBw (s : ByteArray) (i p : Nat) : Prop := ∃ k, IsBord s k ∧ (pcs s).drop i = pcsF s (chars s) k ∧ placeAt s k = p
theorem hbw_zero (s : ByteArray) : HBw s 0 0 := ⟨0, .zero, rfl, placeAt_zero s⟩
theorem hbw_next (s : ByteArray) (j : Nat) (x : Nat × ByteArray) (h : (pcs s)[j]? = some x) : HBw s j x.1 ∧ HBw s (j + 1) (x.1 + x.2.size) := by
  have hj := (List.getElem?_eq_some_iff.1 h).1
  obtain ⟨k, hk, hd⟩ := split_at s j (by omega)
  obtain ⟨hkc, hx⟩ := drop_at s j k hd hj
  rw [h] at hx
  obtain rfl := Option.some.inj hx
  refine ⟨⟨k, hk, hd, rfl⟩, clEnd s k, hk.next k hkc, ?_, ?_⟩
  · rw [← List.drop_drop, hd, pcsF_step s k hkc]; rfl
  · have hb := clEnd_bounds hkc
    have h1 := pc_size s k
    have h2 := placeAt_mono s (Nat.le_of_lt hb.1)
    show placeAt s (clEnd s k) = placeAt s k + (s.extract (placeAt s k) (placeAt s (clEnd s k))).size
    omega
theorem hbw_le (s : ByteArray) (i p : Nat) (h : HBw s i p) : p ≤ s.size := by
  obtain ⟨k, _, _, rfl⟩ := h
  exact placeAt_le s k
theorem sumB_append (a b : List (Nat × ByteArray)) : sumB (a ++ b) = sumB a + sumB b := by simp [sumB]
theorem hbw_below (s : ByteArray) (i m p : Nat) (x : Nat × ByteArray) (h : HBw s i p) (hx : (pcs s)[i + m]? = some x) : p ≤ x.1 := by
  have hi := (List.getElem?_eq_some_iff.1 hx).1
  obtain ⟨k, hk, hd, rfl⟩ := h
  obtain ⟨hkc, hy⟩ := drop_at s i k hd (by omega)
  have h1 := (pcs_chain s i _ hy).1
  have h2 := (pcs_chain s _ x hx).1
  rw [List.take_add, sumB_append] at h2
  have h1 : placeAt s k = sumB ((pcs s).take i) := h1
  omega
abbrev MW (s : ByteArray) : List ByteArray := (pcs s).map (·.2)
theorem mw_len (s : ByteArray) : (MW s).length = (pcs s).length := List.length_map ..
/-- the first segment of a rest -/
theorem wdsG_head (M : List ByteArray) (s : ByteArray) : ∀ (t : List (Nat × ByteArray)) (i f : Nat), wdsG M s i f t ≠ [] →
    ∃ a x b, t = a ++ x :: b ∧ wdsG M s i f t = (f, s.extract f (x.1 + x.2.size)) :: wdsG M s (i + a.length + 1) (x.1 + x.2.size) b ∧ goesW M (i + a.length) = false ∧
      wdsG M s i f (a ++ [x]) = [(f, s.extract f (x.1 + x.2.size))]
  | [], _, _, h => absurd rfl h
  | x :: t, i, f, h => by
    unfold wdsG at h
    by_cases hb : goesW M i = true
    · rw [if_pos hb] at h
      obtain ⟨a, y, b, e1, e2, e3, e4⟩ := wdsG_head M s t (i + 1) f h
      refine ⟨x :: a, y, b, by rw [e1]; rfl, ?_, by rw [List.length_cons, show i + (a.length + 1) = i + 1 + a.length by omega]; exact e3, ?_⟩
      · rw [wdsG, if_pos hb, e2, List.length_cons, show i + (a.length + 1) = i + 1 + a.length by omega]
      · rw [List.cons_append, wdsG, if_pos hb, e4]
    · refine ⟨[], x, t, rfl, ?_, by simpa using hb, ?_⟩
      · rw [wdsG, if_neg hb]; rfl
      · rw [List.nil_append, wdsG, if_neg hb]; rfl
/-- a border of segments: i: how many clusters lie ahead of it; p: how many bytes -/
structure BordWd (s : ByteArray) (n i p : Nat) : Prop where
  le : i ≤ (pcs s).length
  hb : HBw s i p
  cut : i = 0 ∨ goesW (MW s) (i - 1) = false
  ahead : (wds s).take n = wdsG (MW s) s 0 0 ((pcs s).take i)
  behind : (wds s).drop n = wdsG (MW s) s i p ((pcs s).drop i)
  sm : p = sumB ((wds s).take n)
theorem wsplit (s : ByteArray) : ∀ n, n ≤ (wds s).length → ∃ i p, BordWd s n i p
  | 0, _ => ⟨0, 0, Nat.zero_le _, hbw_zero s, .inl rfl, rfl, rfl, rfl⟩
  | n + 1, h => by
    obtain ⟨i, p, hw⟩ := wsplit s n (by omega)
    have hne : wdsG (MW s) s i p ((pcs s).drop i) ≠ [] := by
      rw [← hw.behind]
      intro e
      have := congrArg List.length e
      simp at this
      omega
    obtain ⟨a, x, b, e1, e2, e3, e4⟩ := wdsG_head (MW s) s ((pcs s).drop i) i p hne
    have hlen : a.length + 1 ≤ (pcs s).length - i := by
      have := congrArg List.length e1
      simp at this
      omega
    have hx : (pcs s)[i + a.length]? = some x := by
      have : ((pcs s).drop i)[a.length]? = some x := by rw [e1, List.getElem?_append_right (Nat.le_refl _), Nat.sub_self]; rfl
      rwa [List.getElem?_drop] at this
    have hb := (hbw_next s _ x hx).2
    have hd : (pcs s).drop (i + a.length + 1) = b := by
      rw [show i + a.length + 1 = i + (a.length + 1) by omega, ← List.drop_drop, e1]
      simp
    have ht : (pcs s).take (i + a.length + 1) = (pcs s).take i ++ (a ++ [x]) := by
      rw [show i + a.length + 1 = i + (a.length + 1) by omega, List.take_add, e1]
      congr 1
      rw [show a ++ x :: b = (a ++ [x]) ++ b by simp]
      exact List.take_left' (by simp)
    have hbeg : begW (MW s) 0 0 ((pcs s).take i) = p ∨ i = i := .inr rfl
    have hg : (wds s)[n]? = some (p, s.extract p (x.1 + x.2.size)) := by
      have : ((wds s).drop n)[0]? = some (p, s.extract p (x.1 + x.2.size)) := by rw [hw.behind, e2]; rfl
      rwa [List.getElem?_drop] at this
    refine ⟨i + a.length + 1, x.1 + x.2.size, by omega, hb, .inr (by simpa using e3), ?_, ?_, ?_⟩
    · -- the segments ahead: by what both parts make together
      have hall : wds s = wdsG (MW s) s 0 0 ((pcs s).take i) ++ wdsG (MW s) s i p ((pcs s).drop i) := by
        rw [← hw.ahead, ← hw.behind, List.take_append_drop]
      have hall2 : wds s = wdsG (MW s) s 0 0 ((pcs s).take i) ++ wdsG (MW s) s i (begW (MW s) 0 0 ((pcs s).take i)) ((pcs s).drop i) := by
        have h0 := wdsG_append (MW s) s ((pcs s).take i) ((pcs s).drop i) 0 0
        rw [List.take_append_drop, List.length_take, Nat.min_eq_left hw.le, Nat.zero_add] at h0
        exact h0
      have hq : wdsG (MW s) s i (begW (MW s) 0 0 ((pcs s).take i)) ((pcs s).drop i) = wdsG (MW s) s i p ((pcs s).drop i) := List.append_cancel_left (hall2.symm.trans hall)
      have hbp : begW (MW s) 0 0 ((pcs s).take i) = p := by
        obtain ⟨a', x', b', f1, f2, f3, f4⟩ := wdsG_head (MW s) s ((pcs s).drop i) i (begW (MW s) 0 0 ((pcs s).take i)) (by rw [hq]; exact hne)
        rw [f2, e2] at hq
        have := (List.cons.inj hq).1
        exact (Prod.mk.inj this).1
      have h0 := wdsG_append (MW s) s ((pcs s).take i) (a ++ [x]) 0 0
      rw [List.length_take, Nat.min_eq_left hw.le, Nat.zero_add, hbp, e4] at h0
      rw [ht, h0, ← hw.ahead]
      rw [List.take_add_one, hg]
      rfl
    · rw [hd, ← List.drop_drop, hw.behind, e2]
      rfl
    · have hpx := hbw_below s i a.length p x hw.hb hx
      have hxs := (pcs_chain s _ x hx).2.2
      rw [take_snoc _ _ _ hg, sumB_snoc, ← hw.sm]
      show x.1 + x.2.size = p + (s.extract p (x.1 + x.2.size)).size
      rw [ByteArray.size_extract]
      omega
theorem wdsG_some (s : ByteArray) : ∀ (m i p : Nat), i < (pcs s).length → (pcs s).length - i ≤ m → wdsG (MW s) s i p ((pcs s).drop i) ≠ []
  | 0, i, p, h, hm => by omega
  | m + 1, i, p, h, hm => by
    rw [List.drop_eq_getElem_cons h, wdsG]
    by_cases hg : goesW (MW s) i = true
    · rw [if_pos hg]
      have hlt : i + 1 < (pcs s).length := by
        rcases Nat.lt_or_ge (i + 1) (pcs s).length with h' | h'
        · exact h'
        · rw [goes_last _ _ (by rw [mw_len]; omega)] at hg; cases hg
      exact wdsG_some s m (i + 1) p hlt (by omega)
    · rw [if_neg hg]; exact List.cons_ne_nil _ _
/-- a segment lies behind those ahead of it, and is not empty -/
theorem wds_chain (s : ByteArray) (n : Nat) (x : Nat × ByteArray) (h : (wds s)[n]? = some x) : x.1 = sumB ((wds s).take n) ∧ 0 < x.2.size ∧ x.1 + x.2.size ≤ s.size ∧ x.2 = s.extract x.1 (x.1 + x.2.size) := by
  have hn := (List.getElem?_eq_some_iff.1 h).1
  obtain ⟨i, p, hw⟩ := wsplit s n (by omega)
  have hne : wdsG (MW s) s i p ((pcs s).drop i) ≠ [] := by
    rw [← hw.behind]
    intro e
    have := congrArg List.length e
    simp at this
    omega
  obtain ⟨a, y, b, e1, e2, e3, e4⟩ := wdsG_head (MW s) s ((pcs s).drop i) i p hne
  have hx : (pcs s)[i + a.length]? = some y := by
    have : ((pcs s).drop i)[a.length]? = some y := by rw [e1, List.getElem?_append_right (Nat.le_refl _), Nat.sub_self]; rfl
    rwa [List.getElem?_drop] at this
  have hg : (wds s)[n]? = some (p, s.extract p (y.1 + y.2.size)) := by
    have : ((wds s).drop n)[0]? = some (p, s.extract p (y.1 + y.2.size)) := by rw [hw.behind, e2]; rfl
    rwa [List.getElem?_drop] at this
  rw [h] at hg
  obtain rfl := Option.some.inj hg
  have hpx := hbw_below s i a.length p y hw.hb hx
  have hc := pcs_chain s _ y hx
  have hsz : (s.extract p (y.1 + y.2.size)).size = y.1 + y.2.size - p := by rw [ByteArray.size_extract]; omega
  refine ⟨hw.sm, ?_, ?_, ?_⟩
  · show 0 < (s.extract p (y.1 + y.2.size)).size; rw [hsz]; omega
  · show p + (s.extract p (y.1 + y.2.size)).size ≤ s.size; rw [hsz]; omega
  · show s.extract p (y.1 + y.2.size) = s.extract p (p + (s.extract p (y.1 + y.2.size)).size)
    rw [hsz]
    congr 1
    omega
/-- behind the last segment all is told -/
theorem wds_sum (s : ByteArray) : sumB (wds s) = s.size := by
  obtain ⟨i, p, hw⟩ := wsplit s (wds s).length (Nat.le_refl _)
  have h1 := hw.behind
  rw [List.drop_length] at h1
  have hi : i = (pcs s).length := by
    rcases Nat.lt_or_ge i (pcs s).length with h | h
    · exact absurd h1.symm (wdsG_some s _ i p h (Nat.le_refl _))
    · have := hw.le; omega
  obtain ⟨k, hk, hd, hp⟩ := hw.hb
  rw [hi] at hd
  have := drop_none s k hk hd
  have hs := hw.sm
  rw [List.take_length, ← hp, this, placeAt_all] at hs
  exact hs.symm
theorem wcut_end (s : ByteArray) (i p : Nat) (h : BordWd s (wds s).length i p) : p = s.size := by
  have := h.sm
  rwa [List.take_length, wds_sum] at this
theorem extract_inW (s : ByteArray) (p a b : Nat) (h : b ≤ p) : (s.extract 0 p).extract a b = s.extract a b := by
  rw [ByteArray.extract_extract]
  congr 1 <;> omega
theorem extract_offW (s : ByteArray) (p a b : Nat) (h : b + p ≤ s.size) : (s.extract p s.size).extract a b = s.extract (a + p) (b + p) := by
  rw [ByteArray.extract_extract]
  congr 1 <;> omega
/-- the part ahead -/
theorem wcut_ahead (s : ByteArray) (n i p : Nat) (h : BordWd s n i p) : wds (s.extract 0 p) = (wds s).take n := by
  obtain ⟨k, hk, hd, hp⟩ := h.hb
  have hc : pcs (s.extract 0 p) = (pcs s).take i := by rw [← hp]; exact take_cut s i k h.le hk hd
  have hle := h.le
  rw [h.ahead]
  unfold wds
  rw [hc]
  have hm : ((pcs s).take i).map (·.2) = (MW s).take i := by rw [List.map_take]
  rw [hm]
  have hends : ∀ (j : Nat) (x : Nat × ByteArray), ((pcs s).take i)[j]? = some x → x.1 + x.2.size ≤ p := fun j x hx => by
    rw [← hc] at hx
    have := pcs_chain _ j x hx
    have hs : (s.extract 0 p).size ≤ p := by rw [ByteArray.size_extract]; exact Nat.le_trans (Nat.sub_le _ _) (Nat.min_le_left _ _)
    exact Nat.le_trans this.2.2 hs
  have := wdsG_same (M := (MW s).take i) (M' := MW s) (s := s.extract 0 p) (s' := s) (d := 0) ((pcs s).take i) ((pcs s).take i) 0 0 0 rfl (fun j hj => by
      rw [List.length_take] at hj
      rcases h.cut with rfl | hg
      · omega
      · have := goes_take (MW s) (i - 1) (by rw [mw_len]; omega) hg j (by omega)
        rw [show i - 1 + 1 = i by omega] at this
        simpa using this) (fun j x y h1 h2 => by rw [h1] at h2; obtain rfl := Option.some.inj h2; rfl) (fun a j x hx => by
      rw [Nat.add_zero, Nat.add_zero]
      exact extract_inW s p a _ (hends j x hx))
  simpa using this
/-- the part behind -/
theorem wcut_behind (s : ByteArray) (n i p : Nat) (h : BordWd s n i p) : (wds (s.extract p s.size)).map (fun x => (x.1 + p, x.2)) = (wds s).drop n := by
  obtain ⟨k, hk, hd, hp⟩ := h.hb
  obtain ⟨hl, hc⟩ := drop_cut s k hk
  rw [hp, ← hd] at hl hc
  rw [h.behind]
  have hm : (pcs (s.extract p s.size)).map (·.2) = (MW s).drop i := by
    apply List.ext_getElem?
    intro j
    rw [← List.map_drop, List.getElem?_map, List.getElem?_map]
    cases h1 : (pcs (s.extract p s.size))[j]? with
    | none =>
      have : ((pcs s).drop i)[j]? = none := by
        rw [List.getElem?_eq_none_iff] at h1 ⊢
        omega
      rw [this]
    | some y =>
      have hj := (List.getElem?_eq_some_iff.1 h1).1
      obtain ⟨x, hx⟩ : ∃ x, ((pcs s).drop i)[j]? = some x := ⟨_, List.getElem?_eq_getElem (by omega)⟩
      rw [hx]
      simp [(hc j x y hx h1).1]
  unfold wds
  rw [hm]
  refine (wdsG_same (M := (MW s).drop i) (M' := MW s) (s := s.extract p s.size) (s' := s) (d := p) (pcs (s.extract p s.size)) ((pcs s).drop i) 0 i 0 hl (fun j hj => ?_) (fun j x y h1 h2 => ?_) (fun a j x hx => ?_)).trans (by rw [Nat.zero_add])
  · rw [Nat.zero_add]
    rcases h.cut with rfl | hg
    · simp
    · rcases Nat.eq_zero_or_pos i with rfl | hi
      · simp
      have hle := h.le
      have := goes_drop (MW s) (i - 1) (by rw [mw_len]; omega) hg j
      rwa [show i - 1 + 1 = i by omega] at this
  · have := hc j y x h2 h1
    rw [this.1, this.2]
    omega
  · refine extract_offW s p a _ ?_
    have h1 := pcs_chain _ j x hx
    have hs : (s.extract p s.size).size = s.size - p := by simp
    have := hbw_le s i p h.hb
    omega
end Go.Proofs.YthkapcnhfdpdbaaDoor
