/- Layer 12, pure: the program's order of work: a sign that joins its sides counts as of their sort, so that whether a segment goes on is told by the two clusters alone; the segments read onward from a border of segments, and backward from a border of clusters. -/
import Derived.Test.YtiafofekobcifaaDoorRefWG
import Derived.Test.YtiafofekobcifaaDoorRowG
import Derived.Test.YtiafofekobcifaaDoorLastC
import Derived.Test.YtiafofekobcifaaDoorWdS
import Derived.Test.YtiafofekobcifaaDoorDocG
set_option linter.unusedSimpArgs false
set_option linter.unusedVariables false
namespace Go.Proofs.YtiafofekobcifaaDoor
open Go.RowKit Go.Lib

/-- the program's number of a sort -/
def pS (a : Nat) : Nat := if a = 0 then 5 else a
/-- of what sort both sides of a cluster have to be, so that it joins them; 0: it joins nothing -/
def jbW (c : ByteArray) : Nat :=
  if c = ⟨#[39]⟩ ∨ c = ⟨#[226, 128, 153]⟩ ∨ c = ⟨#[194, 183]⟩ ∨ c = ⟨#[58]⟩ then 1
  else if c = ⟨#[46]⟩ ∨ c = ⟨#[44]⟩ then 2 else 0
theorem jb_joins (c : ByteArray) (a b : Nat) : joinsN c a b = (decide (jbW c ≠ 0) && (a == jbW c && b == jbW c)) := by
  unfold joinsN jbW
  split
  · rfl
  · split
    · rfl
    · rfl
theorem jb_range (c : ByteArray) : jbW c = 0 ∨ jbW c = 1 ∨ jbW c = 2 := by
  unfold jbW
  split
  · exact .inr (.inl rfl)
  · split
    · exact .inr (.inr rfl)
    · exact .inl rfl
theorem jb_sort (c : ByteArray) (h : jbW c ≠ 0) : sortN c = 0 := by
  unfold jbW at h
  split at h
  · rename_i hc
    rcases hc with rfl | rfl | rfl | rfl <;> decide +kernel
  · split at h
    · rename_i hc
      rcases hc with rfl | rfl <;> decide +kernel
    · exact absurd rfl h
/-- the sort of the cluster i as the program tells it -/
def tagW (M : List ByteArray) (i : Nat) : Nat :=
  if jbW (cuW M i) = 0 then pS (soW M i)
  else if 0 < i ∧ soW M (i - 1) = jbW (cuW M i) ∧ soW M (i + 1) = jbW (cuW M i) then jbW (cuW M i) else 5
def togN (a b : Nat) : Bool := (oneW a && oneW b) || (a == 4 && b == 4)
theorem one_pS (a : Nat) : oneW (pS a) = oneW a := by
  unfold pS
  split
  · rename_i h; subst h; rfl
  · rfl
theorem four_pS (a : Nat) : (pS a == 4) = (a == 4) := by
  unfold pS
  split
  · rename_i h; subst h; rfl
  · rfl
theorem tog_five (a : Nat) : togN a 5 = false := by simp [togN, oneW]
theorem five_tog (a : Nat) : togN 5 a = false := by simp [togN, oneW]
theorem so_cu (M : List ByteArray) (i : Nat) (h : jbW (cuW M i) ≠ 0) : soW M i = 0 := by
  unfold soW
  unfold cuW at h
  cases hM : M[i]? with
  | none => rfl
  | some c =>
    rw [hM] at h
    exact jb_sort c h
theorem so_in (M : List ByteArray) (i : Nat) (h : soW M i ≠ 0) : i < M.length := by
  rcases Nat.lt_or_ge i M.length with h' | h'
  · exact h'
  · exact absurd (by unfold soW; rw [List.getElem?_eq_none h']) h
theorem goes_tag (M : List ByteArray) (i : Nat) (h : i + 1 < M.length) : goesW M i = togN (tagW M i) (tagW M (i + 1)) := by
  have hx : soW M (i + 2) ≠ 0 → i + 2 < M.length := so_in M _
  unfold goesW
  rw [decide_eq_true h, Bool.true_and, jb_joins, jb_joins]
  unfold tagW
  rw [show i + 1 - 1 = i by omega, show i + 1 + 1 = i + 2 by omega]
  have ha := so_cu M i
  have hb := so_cu M (i + 1)
  have ra := jb_range (cuW M i)
  have rb := jb_range (cuW M (i + 1))
  revert hx ha hb ra rb
  generalize jbW (cuW M i) = ja
  generalize jbW (cuW M (i + 1)) = jb
  generalize soW M i = a
  generalize soW M (i + 1) = b
  generalize soW M (i + 2) = c
  generalize soW M (i - 1) = z
  intro hx ha hb ra rb
  by_cases h1 : ja = 0
  · subst h1
    by_cases h2 : jb = 0
    · subst h2
      simp only [if_pos, togN, one_pS, four_pS]
      simp
    · have hb0 := hb h2
      subst hb0
      rw [if_pos rfl, if_neg h2]
      by_cases hc : 0 < i + 1 ∧ a = jb ∧ c = jb
      · rw [if_pos hc]
        obtain ⟨_, e1, e2⟩ := hc
        have hl := hx (by omega)
        have ho : oneW jb = true := oneW_of (by omega)
        simp [togN, one_pS, ho, hl, h2, e1, e2]
      · rw [if_neg hc, tog_five]
        have : ¬ (a = jb ∧ c = jb) := fun e => hc ⟨by omega, e⟩
        have h0 : oneW 0 = false := rfl
        rw [h0]
        by_cases hj : a = jb
        · have hcj : (c == jb) = false := by simp; exact fun e => this ⟨hj, e⟩
          simp [hcj]
        · have hcj : (a == jb) = false := by simp [hj]
          simp [hcj]
  · have ha0 := ha h1
    subst ha0
    have h0 : oneW 0 = false := rfl
    rw [if_neg h1, h0]
    by_cases h2 : jb = 0
    · subst h2
      rw [if_pos rfl]
      by_cases hc : 0 < i ∧ z = ja ∧ b = ja
      · rw [if_pos hc]
        obtain ⟨hi, e1, e2⟩ := hc
        have ho : oneW ja = true := oneW_of (by omega)
        simp [togN, one_pS, ho, hi, h1, e1, e2]
      · rw [if_neg hc, five_tog]
        by_cases hz : 0 < i ∧ z = ja
        · have hcj : (b == ja) = false := by simp; exact fun e => hc ⟨hz.1, hz.2, e⟩
          simp [hcj]
        · have : (decide (0 < i) && (decide (ja ≠ 0) && (z == ja && b == ja))) = false := by
            by_cases hi : 0 < i
            · have hzj : (z == ja) = false := by simp; exact fun e => hz ⟨hi, e⟩
              simp [hzj]
            · simp [hi]
          rw [this]
          simp
    · have hb0 := hb h2
      subst hb0
      rw [h0, if_neg h2]
      have hn : ¬ (0 < i ∧ z = ja ∧ 0 = ja) := fun e => h1 e.2.2.symm
      rw [if_neg hn, five_tog]
      simp

/-- what is told of the segments, and where the next one begins, when k clusters behind a border of segments have their ends judged -/
def tolW (s : ByteArray) (i p k : Nat) : List (Nat × ByteArray) := wdsG (MW s) s i p (((pcs s).drop i).take k)
def froW (s : ByteArray) (i p k : Nat) : Nat := begW (MW s) i p (((pcs s).drop i).take k)
theorem drop_next {s : ByteArray} {i k : Nat} {x : Nat × ByteArray} (h : (pcs s)[i + k]? = some x) : ((pcs s).drop i).take (k + 1) = ((pcs s).drop i).take k ++ [x] ∧ (((pcs s).drop i).take k).length = k := by
  have hg : ((pcs s).drop i)[k]? = some x := by rw [List.getElem?_drop]; exact h
  have hl := (List.getElem?_eq_some_iff.1 hg).1
  exact ⟨take_snoc _ _ _ hg, by rw [List.length_take]; omega⟩
theorem tol_next (s : ByteArray) (i p k : Nat) (x : Nat × ByteArray) (h : (pcs s)[i + k]? = some x) :
    tolW s i p (k + 1) = tolW s i p k ++ (if goesW (MW s) (i + k) = true then [] else [(froW s i p k, s.extract (froW s i p k) (x.1 + x.2.size))]) := by
  obtain ⟨h1, h2⟩ := drop_next h
  unfold tolW froW
  rw [h1, wdsG_append, h2]
  rfl
theorem fro_next (s : ByteArray) (i p k : Nat) (x : Nat × ByteArray) (h : (pcs s)[i + k]? = some x) :
    froW s i p (k + 1) = if goesW (MW s) (i + k) = true then froW s i p k else x.1 + x.2.size := by
  obtain ⟨h1, h2⟩ := drop_next h
  unfold froW
  rw [h1, begW_append, h2]
  rfl
theorem tol_zero (s : ByteArray) (i p : Nat) : tolW s i p 0 = [] := by unfold tolW; rw [List.take_zero]; rfl
theorem fro_zero (s : ByteArray) (i p : Nat) : froW s i p 0 = p := by unfold froW; rw [List.take_zero]; rfl
/-- the clusters stand one behind the other -/
theorem pcs_next {s : ByteArray} {i : Nat} {x y : Nat × ByteArray} (h : (pcs s)[i]? = some x) (h' : (pcs s)[i + 1]? = some y) : x.1 + x.2.size = y.1 := by
  have h1 := (pcs_chain s i x h).1
  have h2 := (pcs_chain s (i + 1) y h').1
  rw [take_snoc _ _ _ h, sumB_snoc] at h2
  omega
theorem pcs_first {s : ByteArray} {x : Nat × ByteArray} (h : (pcs s)[0]? = some x) : x.1 = 0 := (pcs_chain s 0 x h).1
theorem pcs_text {s : ByteArray} {i : Nat} {x : Nat × ByteArray} (h : (pcs s)[i]? = some x) : x.2 = s.extract x.1 (x.1 + x.2.size) := by
  obtain ⟨k, hk, hd⟩ := split_at s i (Nat.le_of_lt (List.getElem?_eq_some_iff.1 h).1)
  obtain ⟨hkc, hx⟩ := drop_at s i k hd (List.getElem?_eq_some_iff.1 h).1
  rw [h] at hx
  obtain rfl := Option.some.inj hx
  have h1 := pc_size s k
  have h2 := placeAt_mono s (Nat.le_of_lt (clEnd_bounds hkc).1)
  show s.extract (placeAt s k) (placeAt s (clEnd s k)) = s.extract (placeAt s k) (placeAt s k + (s.extract (placeAt s k) (placeAt s (clEnd s k))).size)
  have h3 : placeAt s k + (s.extract (placeAt s k) (placeAt s (clEnd s k))).size = placeAt s (clEnd s k) := by
    have h1 : (s.extract (placeAt s k) (placeAt s (clEnd s k))).size = placeAt s (clEnd s k) - placeAt s k := h1
    omega
  rw [h3]
theorem pcs_last {s : ByteArray} {i : Nat} {x : Nat × ByteArray} (h : (pcs s)[i]? = some x) (hl : i + 1 = (pcs s).length) : x.1 + x.2.size = s.size := by
  have h1 := (pcs_chain s i x h).1
  have h3 := pcs_sum s
  rw [← List.take_length (l := pcs s), ← hl, take_snoc _ _ _ h, sumB_snoc] at h3
  omega
theorem fro_le (s : ByteArray) (i p : Nat) (h : HBw s i p) : ∀ k, ∀ x, (pcs s)[i + k]? = some x → p ≤ froW s i p k ∧ froW s i p k ≤ x.1
  | 0, x, hx => ⟨by rw [fro_zero]; exact Nat.le_refl _, by rw [fro_zero]; exact hbw_below s i 0 p x h hx⟩
  | k + 1, x, hx => by
    obtain ⟨y, hy⟩ : ∃ y, (pcs s)[i + k]? = some y := ⟨_, List.getElem?_eq_getElem (by have := (List.getElem?_eq_some_iff.1 hx).1; omega)⟩
    have ih := fro_le s i p h k y hy
    have hn := pcs_next hy (y := x) (by rw [show i + k + 1 = i + (k + 1) by omega]; exact hx)
    rw [fro_next s i p k y hy]
    split <;> omega
/-- the rest, all of it -/
theorem tol_all (s : ByteArray) (n i p m : Nat) (h : BordWd s n i p) (hm : i + m + 1 = (pcs s).length) :
    tolW s i p m ++ [(froW s i p m, s.extract (froW s i p m) s.size)] = (wds s).drop n ∧ froW s i p m < s.size := by
  obtain ⟨x, hx⟩ : ∃ x, (pcs s)[i + m]? = some x := ⟨_, List.getElem?_eq_getElem (by omega)⟩
  have hl := pcs_last hx (by omega)
  have hg := goes_last (MW s) (i + m) (by rw [mw_len]; omega)
  have hf := fro_le s i p h.hb m x hx
  have hc := pcs_chain s _ x hx
  refine ⟨?_, by omega⟩
  have ht := tol_next s i p m x hx
  rw [hg, hl, if_neg (by decide)] at ht
  rw [← ht, h.behind]
  unfold tolW
  rw [List.take_of_length_le (by rw [List.length_drop]; omega)]
theorem tol_prefix (s : ByteArray) (n i p k : Nat) (h : BordWd s n i p) : tolW s i p k <+: (wds s).drop n := by
  rw [h.behind]
  refine ⟨wdsG (MW s) s (i + (((pcs s).drop i).take k).length) (froW s i p k) (((pcs s).drop i).drop k), ?_⟩
  unfold tolW froW
  rw [← wdsG_append, List.take_append_drop]

/-- what is still to be told going backward: the ends of k clusters are still to be judged, and the segment that is gone through ends at t -/
def remW (s : ByteArray) (t : Nat) : Nat → List (Nat × ByteArray)
  | 0 => [(0, s.extract 0 t)]
  | k + 1 => if goesW (MW s) k = true then remW s t k else match (pcs s)[k]? with
    | some x => (x.1 + x.2.size, s.extract (x.1 + x.2.size) t) :: remW s (x.1 + x.2.size) k
    | none => []
/-- the segments that begin ahead of a border of clusters, from the last to the first; the last one without what it has behind that border -/
def bckW (s : ByteArray) (e t : Nat) : List (Nat × ByteArray) := match e with
  | 0 => []
  | e + 1 => remW s t e
theorem rem_is (s : ByteArray) : ∀ (k t : Nat), k ≤ (pcs s).length →
    (remW s t k).reverse = wdsG (MW s) s 0 0 ((pcs s).take k) ++ [(begW (MW s) 0 0 ((pcs s).take k), s.extract (begW (MW s) 0 0 ((pcs s).take k)) t)]
  | 0, t, _ => by rw [List.take_zero]; rfl
  | k + 1, t, h => by
    obtain ⟨x, hx⟩ : ∃ x, (pcs s)[k]? = some x := ⟨_, List.getElem?_eq_getElem (by omega)⟩
    rw [wds_take_next _ _ _ _ _ hx, beg_take_next _ _ _ _ hx]
    unfold remW
    by_cases hg : goesW (MW s) k = true
    · rw [if_pos hg, if_pos hg, if_pos hg, rem_is s k t (by omega), List.append_nil]
    · rw [if_neg hg, if_neg hg, if_neg hg, hx]
      simp only [List.reverse_cons]
      rw [rem_is s k _ (by omega)]

/-- the segment of a cluster -/
theorem seg_of (s : ByteArray) (k : Nat) (x : Nat × ByteArray) (hx : (pcs s)[k]? = some x) : ∃ n y, (wds s)[n]? = some y ∧ y.1 = begW (MW s) 0 0 ((pcs s).take k) ∧ y.1 ≤ x.1 ∧ x.1 + x.2.size ≤ y.1 + y.2.size ∧
    (wds s).take n = wdsG (MW s) s 0 0 ((pcs s).take k) ∧ ∃ e z, k ≤ e ∧ (pcs s)[e]? = some z ∧ y.2 = s.extract y.1 (z.1 + z.2.size) := by
  have hk := (List.getElem?_eq_some_iff.1 hx).1
  have hw : wds s = wdsG (MW s) s 0 0 ((pcs s).take k) ++ wdsG (MW s) s k (begW (MW s) 0 0 ((pcs s).take k)) ((pcs s).drop k) := by
    have h0 : wds s = wdsG (MW s) s 0 0 ((pcs s).take k ++ (pcs s).drop k) := by rw [List.take_append_drop]; rfl
    rw [h0, wdsG_append, List.length_take, Nat.min_eq_left (Nat.le_of_lt hk), Nat.zero_add]
  have hne := wdsG_some s ((pcs s).length - k) k (begW (MW s) 0 0 ((pcs s).take k)) hk (Nat.le_refl _)
  obtain ⟨a, y, b, e1, e2, _, _⟩ := wdsG_head (MW s) s _ k (begW (MW s) 0 0 ((pcs s).take k)) hne
  have hb := beg_le s k (Nat.le_of_lt hk)
  have hc := pcs_chain s k x hx
  have hy : (pcs s)[k + a.length]? = some y := by
    have : ((pcs s).drop k)[a.length]? = some y := by rw [e1]; simp
    rwa [List.getElem?_drop] at this
  have hyc := pcs_chain s _ y hy
  have hle : x.1 + x.2.size ≤ y.1 + y.2.size := by
    have h1 := sumB_le (pcs s) (k + 1) (k + a.length + 1) (by omega)
    rw [take_snoc _ _ _ hx, sumB_snoc, take_snoc _ _ _ hy, sumB_snoc] at h1
    omega
  refine ⟨(wdsG (MW s) s 0 0 ((pcs s).take k)).length, (begW (MW s) 0 0 ((pcs s).take k), s.extract (begW (MW s) 0 0 ((pcs s).take k)) (y.1 + y.2.size)), ?_, rfl, by omega, ?_, ?_, k + a.length, y, by omega, hy, rfl⟩
  · rw [hw, e2]
    simp
  · show x.1 + x.2.size ≤ begW (MW s) 0 0 ((pcs s).take k) + (s.extract (begW (MW s) 0 0 ((pcs s).take k)) (y.1 + y.2.size)).size
    rw [ByteArray.size_extract, Nat.min_eq_left hyc.2.2]
    omega
  · rw [hw]
    simp
theorem seg_bord (s : ByteArray) (n : Nat) (y : Nat × ByteArray) (h : (wds s)[n]? = some y) : ∃ i, BordWd s n i y.1 := by
  obtain ⟨i, p, hb⟩ := wsplit s n (Nat.le_of_lt (List.getElem?_eq_some_iff.1 h).1)
  have h1 := (wds_chain s n y h).1
  have h2 := hb.sm
  have : p = y.1 := by omega
  subst this
  exact ⟨i, hb⟩
end Go.Proofs.YtiafofekobcifaaDoor

/- Layer 12, pure: what stands ahead of a cluster and behind it; where a place lies among the segments. -/
namespace Go.Proofs.YtiafofekobcifaaDoor
open Go.RowKit Go.Lib

theorem sort_empty (s : ByteArray) (h : s.size = 0) : sortN s = 0 := by
  unfold sortN
  have : s.data.toList = [] := List.eq_nil_of_length_eq_zero (by rw [size_list]; exact h)
  rw [this]
  rfl
theorem bord_of (s : ByteArray) (i : Nat) (x : Nat × ByteArray) (hx : (pcs s)[i]? = some x) : ∃ k, IsBord s k ∧ (pcs s).drop i = pcsF s (chars s) k ∧ placeAt s k = x.1 := by
  obtain ⟨k, hk, hd⟩ := split_at s i (Nat.le_of_lt (List.getElem?_eq_some_iff.1 hx).1)
  obtain ⟨_, hy⟩ := drop_at s i k hd (List.getElem?_eq_some_iff.1 hx).1
  rw [hx] at hy
  obtain rfl := Option.some.inj hy
  exact ⟨k, hk, hd, rfl⟩
theorem pcs_ahead (s : ByteArray) (i : Nat) (x : Nat × ByteArray) (hx : (pcs s)[i]? = some x) : pcs (s.extract 0 x.1) = (pcs s).take i := by
  obtain ⟨k, hk, hd, hp⟩ := bord_of s i x hx
  rw [← hp]
  exact take_cut s i k (Nat.le_of_lt (List.getElem?_eq_some_iff.1 hx).1) hk hd
theorem pcs_upto (s : ByteArray) (i : Nat) (x : Nat × ByteArray) (hx : (pcs s)[i]? = some x) : pcs (s.extract 0 (x.1 + x.2.size)) = (pcs s).take (i + 1) := by
  have hi := (List.getElem?_eq_some_iff.1 hx).1
  rcases Nat.lt_or_ge (i + 1) (pcs s).length with h | h
  · obtain ⟨y, hy⟩ : ∃ y, (pcs s)[i + 1]? = some y := ⟨_, List.getElem?_eq_getElem h⟩
    rw [pcs_next hx hy]
    exact pcs_ahead s (i + 1) y hy
  · rw [pcs_last hx (by omega), List.take_of_length_le (by omega)]
    congr 1
    apply ByteArray.ext
    simp
theorem ahead_sort (s : ByteArray) (i : Nat) (x : Nat × ByteArray) (hx : (pcs s)[i]? = some x) : clLast (s.extract 0 x.1) ≤ x.1 ∧
    sortN (s.extract (x.1 - clLast (s.extract 0 x.1)) x.1) = if i = 0 then 0 else soW (MW s) (i - 1) := by
  have hp := pcs_ahead s i x hx
  have hi := (List.getElem?_eq_some_iff.1 hx).1
  cases i with
  | zero =>
    have h0 := pcs_first hx
    rw [clLast_nil _ (by rw [hp]; rfl), if_pos rfl]
    exact ⟨Nat.zero_le _, sort_empty _ (by rw [ByteArray.size_extract]; omega)⟩
  | succ i =>
    obtain ⟨z, hz⟩ : ∃ z, (pcs s)[i]? = some z := ⟨_, List.getElem?_eq_getElem (by omega)⟩
    have hn := pcs_next hz hx
    have hl : (pcs (s.extract 0 x.1)).length = i + 1 := by rw [hp, List.length_take]; omega
    have hc := clLast_get (s.extract 0 x.1) z (by rw [hl, hp, Nat.add_sub_cancel, List.getElem?_take, if_pos (by omega)]; exact hz)
    rw [hc, if_neg (by omega), Nat.add_sub_cancel]
    refine ⟨by omega, ?_⟩
    rw [show x.1 - z.2.size = z.1 by omega, ← hn, ← pcs_text hz]
    unfold soW
    rw [List.getElem?_map, hz]
    rfl
theorem first_sort (s : ByteArray) (i : Nat) (y : Nat × ByteArray) (hy : (pcs s)[i]? = some y) : sortN (s.extract y.1 s.size) = sortN y.2 := by
  have hyc := pcs_chain s _ y hy
  obtain ⟨k, hk, hd, hp⟩ := bord_of s i y hy
  obtain ⟨hl, hc⟩ := drop_cut s k hk
  have hsz : (s.extract y.1 s.size).size = s.size - y.1 := by rw [ByteArray.size_extract]; omega
  have hpos : 0 < chars (s.extract y.1 s.size) := chars_pos _ (by omega)
  obtain ⟨c, hc0⟩ : ∃ c, s.extract y.1 s.size = c := ⟨_, rfl⟩
  rw [hp, hc0] at hc
  rw [hc0] at hpos ⊢
  have hlen : 0 < (pcs c).length := by
    rcases Nat.eq_zero_or_pos (pcs c).length with h0 | h0
    · have h1 := pcs_sum c
      rw [List.eq_nil_of_length_eq_zero h0] at h1
      have h1 : 0 = c.size := h1
      rw [← hc0] at h1
      omega
    · exact h0
  obtain ⟨_, hf⟩ := drop_at c 0 0 rfl hlen
  have h2 := (hc 0 y _ (by rw [← hd, List.getElem?_drop]; exact hy) hf).1
  have h2 : y.2 = c.extract (placeAt c 0) (placeAt c (clEnd c 0)) := h2
  rw [placeAt_zero] at h2
  rw [← sortN_first c hpos, ← h2]
theorem so_get {s : ByteArray} {i : Nat} {y : Nat × ByteArray} (hy : (pcs s)[i]? = some y) : soW (MW s) i = sortN y.2 := by
  unfold soW
  rw [List.getElem?_map, hy]
  rfl
theorem cu_get {s : ByteArray} {i : Nat} {y : Nat × ByteArray} (hy : (pcs s)[i]? = some y) : cuW (MW s) i = y.2 := by
  unfold cuW
  rw [List.getElem?_map, hy]
  rfl
theorem behind_sort (s : ByteArray) (i : Nat) (x : Nat × ByteArray) (hx : (pcs s)[i]? = some x) : sortN (s.extract (x.1 + x.2.size) s.size) = soW (MW s) (i + 1) := by
  have hi := (List.getElem?_eq_some_iff.1 hx).1
  rcases Nat.lt_or_ge (i + 1) (pcs s).length with h | h
  · obtain ⟨y, hy⟩ : ∃ y, (pcs s)[i + 1]? = some y := ⟨_, List.getElem?_eq_getElem h⟩
    rw [pcs_next hx hy, first_sort s _ y hy, so_get hy]
  · rw [pcs_last hx (by omega)]
    have : (MW s)[i + 1]? = none := List.getElem?_eq_none (by rw [mw_len]; omega)
    unfold soW
    rw [this]
    exact sort_empty _ (by rw [ByteArray.size_extract]; omega)
theorem part_sort (s : ByteArray) (i e : Nat) (x z : Nat × ByteArray) (hx : (pcs s)[i]? = some x) (hz : (pcs s)[e]? = some z) (h : i ≤ e) : sortN (s.extract x.1 (z.1 + z.2.size)) = sortN x.2 := by
  have hzc := pcs_chain s _ z hz
  have hp := pcs_upto s e z hz
  have hx' : (pcs (s.extract 0 (z.1 + z.2.size)))[i]? = some x := by rw [hp, List.getElem?_take, if_pos (by omega)]; exact hx
  have := first_sort _ i x hx'
  rw [show (s.extract 0 (z.1 + z.2.size)).size = z.1 + z.2.size by rw [ByteArray.size_extract]; omega, extract_inW s _ _ _ (Nat.le_refl _)] at this
  exact this
theorem beg_get (s : ByteArray) (n i p : Nat) (h : BordWd s n i p) (hp : p < s.size) : ∃ x, (pcs s)[i]? = some x ∧ x.1 = p := by
  obtain ⟨k, hk, hd, hpk⟩ := h.hb
  have hi : i < (pcs s).length := by
    rcases Nat.lt_or_ge i (pcs s).length with h1 | h1
    · exact h1
    · have := drop_none s k hk (by rw [List.drop_length, ← hd]; exact (List.drop_eq_nil_of_le h1).symm)
      rw [← hpk, this, placeAt_all] at hp
      omega
  obtain ⟨_, hx⟩ := drop_at s i k hd hi
  exact ⟨_, hx, hpk⟩
/-- At, Is, Next, Prev over where the segment of a place lies -/
theorem at_seg (s : ByteArray) (p n : Nat) (y : Nat × ByteArray) (h : (wds s)[n]? = some y) (h1 : y.1 ≤ p) (h2 : p < y.1 + y.2.size) : atF p s.size (wds s) = (y.1, y.1 + y.2.size) := by
  have key : ∀ m j, m + j = n → atF p s.size ((wds s).drop j) = (y.1, y.1 + y.2.size) := by
    intro m
    induction m with
    | zero =>
      intro j hj
      obtain rfl : j = n := by omega
      rw [drop_consW h]
      unfold atF
      rw [if_pos h2]
    | succ m ih =>
      intro j hj
      obtain ⟨z, hz⟩ : ∃ z, (wds s)[j]? = some z := ⟨_, List.getElem?_eq_getElem (by have := (List.getElem?_eq_some_iff.1 h).1; omega)⟩
      rw [drop_consW hz]
      unfold atF
      have hc := wds_chain s j z hz
      have hy := wds_chain s n y h
      have hs := sumB_le (wds s) (j + 1) n (by omega)
      rw [take_snoc _ _ _ hz, sumB_snoc] at hs
      rw [if_neg (by omega)]
      exact ih (j + 1) (by omega)
  have := key n 0 (by omega)
  rwa [List.drop_zero] at this
theorem at_last (s : ByteArray) : atF s.size s.size (wds s) = (s.size, s.size) := by
  have key : ∀ m j, (wds s).length - j ≤ m → atF s.size s.size ((wds s).drop j) = (s.size, s.size) := by
    intro m
    induction m with
    | zero =>
      intro j hj
      rw [List.drop_eq_nil_of_le (by omega)]
      rfl
    | succ m ih =>
      intro j hj
      rcases Nat.lt_or_ge j (wds s).length with h | h
      · obtain ⟨z, hz⟩ : ∃ z, (wds s)[j]? = some z := ⟨_, List.getElem?_eq_getElem h⟩
        rw [drop_consW hz]
        unfold atF
        have hc := wds_chain s j z hz
        rw [if_neg (by omega)]
        exact ih (j + 1) (by omega)
      · rw [List.drop_eq_nil_of_le h]
        rfl
  have := key _ 0 (Nat.le_refl _)
  rwa [List.drop_zero] at this
theorem isF_iff (q : Int) (e : Nat) : ∀ L : List (Nat × ByteArray), isF q e L = true ↔ (∃ x ∈ L, (x.1 : Int) = q) ∨ q = (e : Int)
  | [] => by simp [isF]
  | x :: t => by
    unfold isF
    by_cases h : (x.1 : Int) = q
    · simp [h]
    · rw [if_neg h, isF_iff q e t]
      simp [h]
theorem is_seg (s : ByteArray) (q : Int) (n : Nat) (y : Nat × ByteArray) (h : (wds s)[n]? = some y) (h1 : y.1 ≤ intoW s q) (h2 : intoW s q < y.1 + y.2.size) : isW s q = ((y.1 : Int) == q) := by
  have hy := wds_chain s n y h
  by_cases he : (y.1 : Int) = q
  · have : isW s q = true := (isF_iff q s.size _).2 (.inl ⟨y, List.mem_of_getElem? h, he⟩)
    rw [this]
    simp [he]
  · have hr : ((y.1 : Int) == q) = false := by simp [he]
    rw [hr]
    have : ¬ isW s q = true := fun ht => by
      rcases (isF_iff q s.size _).1 ht with ⟨x, hx, hxq⟩ | hxq
      · obtain ⟨m, hm⟩ := List.getElem?_of_mem hx
        have hc := wds_chain s m x hm
        have hi : intoW s q = x.1 := by unfold intoW; omega
        rcases Nat.lt_trichotomy m n with hl | hl | hl
        · have hs := sumB_le (wds s) (m + 1) n (by omega)
          rw [take_snoc _ _ _ hm, sumB_snoc] at hs
          omega
        · subst hl
          rw [h] at hm
          obtain rfl := Option.some.inj hm
          exact he hxq
        · have hs := sumB_le (wds s) (n + 1) m (by omega)
          rw [take_snoc _ _ _ h, sumB_snoc] at hs
          omega
      · have : intoW s q = s.size := by unfold intoW; omega
        omega
    simpa using this
theorem is_end (s : ByteArray) (q : Int) (h : intoW s q = s.size) : isW s q = ((s.size : Int) == q) := by
  by_cases he : (s.size : Int) = q
  · have : isW s q = true := (isF_iff q s.size _).2 (.inr he.symm)
    rw [this]
    simp [he]
  · have hr : ((s.size : Int) == q) = false := by simp [he]
    rw [hr]
    have : ¬ isW s q = true := fun ht => by
      rcases (isF_iff q s.size _).1 ht with ⟨x, hx, hxq⟩ | hxq
      · obtain ⟨m, hm⟩ := List.getElem?_of_mem hx
        have hc := wds_chain s m x hm
        have hi : intoW s q = x.1 := by unfold intoW; omega
        omega
      · exact he hxq.symm
    simpa using this
theorem nextF_cons (p e : Nat) (x : Nat × ByteArray) (t : List (Nat × ByteArray)) : nextF p e (x :: t) = if p < x.1 ∧ wordW x.2 = true then x.1 else nextF p e t := rfl
/-- Next: what lies ahead of the place's segment does not matter -/
theorem nextF_drop (s : ByteArray) (p n : Nat) (h : sumB ((wds s).take n) ≤ p) : nextF p s.size (wds s) = nextF p s.size ((wds s).drop n) := by
  have key : ∀ m j, m + j = n → nextF p s.size ((wds s).drop j) = nextF p s.size ((wds s).drop n) := by
    intro m
    induction m with
    | zero =>
      intro j hj
      obtain rfl : j = n := by omega
      rfl
    | succ m ih =>
      intro j hj
      rcases Nat.lt_or_ge j (wds s).length with hl | hl
      · obtain ⟨z, hz⟩ : ∃ z, (wds s)[j]? = some z := ⟨_, List.getElem?_eq_getElem hl⟩
        have hc := wds_chain s j z hz
        have hs := sumB_le (wds s) j n (by omega)
        rw [drop_consW hz, nextF_cons, if_neg (by omega)]
        exact ih (j + 1) (by omega)
      · rw [List.drop_eq_nil_of_le hl, List.drop_eq_nil_of_le (by omega)]
  have := key n 0 (by omega)
  rwa [List.drop_zero] at this
/-- Prev over a list told backward -/
def prvB (p : Nat) : List (Nat × ByteArray) → Nat
  | [] => 0
  | x :: t => if x.1 < p ∧ wordW x.2 = true then x.1 else prvB p t
theorem prevF_append (p : Nat) : ∀ (a b : List (Nat × ByteArray)) (o : Nat), prevF p o (a ++ b) = prevF p (prevF p o a) b
  | [], _, _ => rfl
  | x :: a, b, o => by simp only [List.cons_append, prevF]; exact prevF_append p a b _
theorem prvB_rev (p : Nat) : ∀ L : List (Nat × ByteArray), prvB p L = prevF p 0 L.reverse
  | [] => rfl
  | x :: t => by
    rw [List.reverse_cons, prevF_append, ← prvB_rev p t]
    rfl
theorem prevF_none (p : Nat) : ∀ (L : List (Nat × ByteArray)) (o : Nat), (∀ x ∈ L, p ≤ x.1) → prevF p o L = o
  | [], _, _ => rfl
  | x :: t, o, h => by
    unfold prevF
    rw [if_neg (by have := h x (by simp); omega)]
    exact prevF_none p t o (fun y hy => h y (by simp [hy]))
theorem idx_le (s : ByteArray) (i k : Nat) (x z : Nat × ByteArray) (hx : (pcs s)[i]? = some x) (hz : (pcs s)[k]? = some z) (h : x.1 ≤ z.1) : i ≤ k := by
  rcases Nat.lt_or_ge k i with hl | hl
  · have h1 := pcs_chain s i x hx
    have h2 := pcs_chain s k z hz
    have h3 := sumB_le (pcs s) (k + 1) i (by omega)
    rw [take_snoc _ _ _ hz, sumB_snoc] at h3
    omega
  · exact hl
theorem prev_seg (s : ByteArray) (p k : Nat) (x : Nat × ByteArray) (hx : (pcs s)[k]? = some x) (h : p ≤ x.1 + x.2.size) : prvB p (remW s (x.1 + x.2.size) k) = prevF p 0 (wds s) := by
  have hk := (List.getElem?_eq_some_iff.1 hx).1
  have hxc := pcs_chain s k x hx
  obtain ⟨n, y, hy, hyb, hyx, hxy, htk, e, z, hke, hz, hyt⟩ := seg_of s k x hx
  obtain ⟨i, hb⟩ := seg_bord s n y hy
  obtain ⟨c, hc, hcp⟩ := beg_get s n i y.1 hb (by omega)
  have hik := idx_le s i k c x hc hx (by omega)
  have w1 := part_sort s i k c x hc hx hik
  have w2 := part_sort s i e c z hc hz (by omega)
  rw [hcp] at w1 w2
  rw [← hyt] at w2
  have hw : wordW (s.extract y.1 (x.1 + x.2.size)) = wordW y.2 := by
    unfold wordW
    rw [w1, w2]
  rw [prvB_rev, rem_is s k _ (Nat.le_of_lt hk), ← htk, ← hyb, prevF_append]
  have hd : wds s = (wds s).take n ++ (y :: (wds s).drop (n + 1)) := by rw [← drop_consW hy, List.take_append_drop]
  have hr : prevF p 0 (wds s) = prevF p 0 ((wds s).take n ++ (y :: (wds s).drop (n + 1))) := by rw [← hd]
  rw [hr, prevF_append]
  simp only [prevF]
  rw [hw]
  exact (prevF_none p _ _ (fun v hv => by
    obtain ⟨m, hm⟩ := List.getElem?_of_mem hv
    rw [List.getElem?_drop] at hm
    have h1 := wds_chain s _ v hm
    have h2 := wds_chain s n y hy
    have h3 := sumB_le (wds s) (n + 1) (n + 1 + m) (by omega)
    rw [take_snoc _ _ _ hy, sumB_snoc] at h3
    omega)).symm
end Go.Proofs.YtiafofekobcifaaDoor
