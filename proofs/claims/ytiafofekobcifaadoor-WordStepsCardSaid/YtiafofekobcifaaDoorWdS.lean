/- Layer 12, pure: the beginnings of words, and how Next, Prev, At go over them (WordSteps). -/
import Derived.Test.YtiafofekobcifaaDoorRefWG
set_option linter.unusedSimpArgs false
set_option linter.unusedVariables false
namespace Go.Proofs.YtiafofekobcifaaDoor
open Go.RowKit Go.Lib

def begs (L : List (Nat × ByteArray)) : List Nat := (L.filter fun x => wordW x.2).map (·.1)
def nextB (p e : Nat) : List Nat → Nat
  | [] => e
  | b :: t => if p < b then b else nextB p e t
def prevB (p : Nat) : Nat → List Nat → Nat
  | o, [] => o
  | o, b :: t => prevB p (if b < p then b else o) t
theorem begs_cons (x : Nat × ByteArray) (t : List (Nat × ByteArray)) : begs (x :: t) = if wordW x.2 = true then x.1 :: begs t else begs t := by
  unfold begs
  rw [List.filter_cons]
  split <;> simp_all
theorem begs_snoc (L : List (Nat × ByteArray)) (x : Nat × ByteArray) : begs (L ++ [x]) = begs L ++ (if wordW x.2 = true then [x.1] else []) := by
  unfold begs
  rw [List.filter_append, List.map_append]
  congr 1
  rw [List.filter_cons]
  split <;> simp_all
theorem nextF_begs (p e : Nat) : ∀ L, nextF p e L = nextB p e (begs L)
  | [] => rfl
  | x :: t => by
    rw [nextF, begs_cons, nextF_begs p e t]
    by_cases hw : wordW x.2 = true
    · rw [if_pos hw, nextB]
      by_cases hp : p < x.1
      · rw [if_pos ⟨hp, hw⟩, if_pos hp]
      · rw [if_neg (fun h => hp h.1), if_neg hp]
    · rw [if_neg hw, if_neg (fun h => hw h.2)]
theorem prevF_begs (p : Nat) : ∀ L o, prevF p o L = prevB p o (begs L)
  | [], _ => rfl
  | x :: t, o => by
    rw [prevF, begs_cons, prevF_begs p t]
    by_cases hw : wordW x.2 = true
    · rw [if_pos hw, prevB]
      by_cases hp : x.1 < p
      · rw [if_pos ⟨hp, hw⟩, if_pos hp]
      · rw [if_neg (fun h => hp h.1), if_neg hp]
    · rw [if_neg hw, if_neg (fun h => hw h.2)]
theorem sumB_le (L : List (Nat × ByteArray)) (i j : Nat) (h : i ≤ j) : sumB (L.take i) ≤ sumB (L.take j) := by
  obtain ⟨d, rfl⟩ := Nat.exists_eq_add_of_le h
  rw [List.take_add, sumB_append]
  omega
theorem begs_sorted (s : ByteArray) : (begs (wds s)).Pairwise (· < ·) := by
  unfold begs
  rw [List.pairwise_map]
  refine List.Pairwise.filter _ ?_
  rw [List.pairwise_iff_getElem]
  intro i j hi hj hij
  have h1 := wds_chain s i _ (List.getElem?_eq_getElem hi)
  have h2 := wds_chain s j _ (List.getElem?_eq_getElem hj)
  have h3 := sumB_le (wds s) (i + 1) j hij
  rw [take_snoc _ _ _ (List.getElem?_eq_getElem hi), sumB_snoc] at h3
  omega
theorem begs_lt (s : ByteArray) (b : Nat) (h : b ∈ begs (wds s)) : b < s.size := by
  unfold begs at h
  obtain ⟨x, hx, rfl⟩ := List.mem_map.1 h
  obtain ⟨i, hi, rfl⟩ := List.getElem_of_mem (List.mem_filter.1 hx).1
  have := wds_chain s i _ (List.getElem?_eq_getElem hi)
  omega
theorem nextB_head (p e : Nat) (t : List Nat) (h : ∀ b ∈ t, p < b) : nextB p e t = t[0]?.getD e := by
  cases t with
  | nil => rfl
  | cons b t => rw [nextB, if_pos (h b (by simp))]; rfl
theorem nextB_at (e : Nat) : ∀ (B : List Nat) (i p : Nat), B.Pairwise (· < ·) → B[i]? = some p → nextB p e B = B[i + 1]?.getD e
  | [], i, p, _, h => by cases h
  | b :: t, 0, p, hs, h => by
    obtain rfl := Option.some.inj h
    rw [nextB, if_neg (Nat.lt_irrefl _), nextB_head _ _ _ (List.pairwise_cons.1 hs).1]
    rfl
  | b :: t, i + 1, p, hs, h => by
    have h' : t[i]? = some p := h
    have hb := (List.pairwise_cons.1 hs).1 p (List.mem_of_getElem? h')
    rw [nextB, if_neg (by omega), nextB_at e t i p (List.pairwise_cons.1 hs).2 h']
    rfl
theorem prevB_none (p : Nat) : ∀ (B : List Nat) (o : Nat), (∀ b ∈ B, p ≤ b) → prevB p o B = o
  | [], _, _ => rfl
  | b :: t, o, h => by
    rw [prevB, if_neg (by have := h b (by simp); omega)]
    exact prevB_none p t o fun c hc => h c (by simp [hc])
theorem prevB_at : ∀ (B : List Nat) (i p o : Nat), B.Pairwise (· < ·) → B[i]? = some p → prevB p o B = if i = 0 then o else B[i - 1]?.getD o
  | [], i, p, o, _, h => by cases h
  | b :: t, 0, p, o, hs, h => by
    obtain rfl := Option.some.inj h
    rw [prevB, if_neg (Nat.lt_irrefl _), if_pos rfl]
    exact prevB_none _ t o fun c hc => Nat.le_of_lt ((List.pairwise_cons.1 hs).1 c hc)
  | b :: t, i + 1, p, o, hs, h => by
    have h' : t[i]? = some p := h
    have hb := (List.pairwise_cons.1 hs).1 p (List.mem_of_getElem? h')
    rw [prevB, if_pos hb, prevB_at t i p b (List.pairwise_cons.1 hs).2 h', if_neg (Nat.succ_ne_zero i), Nat.add_sub_cancel]
    cases i with
    | zero => rw [if_pos rfl]; rfl
    | succ j =>
      rw [if_neg (Nat.succ_ne_zero j), Nat.add_sub_cancel]
      have hj : j < t.length := by have := (List.getElem?_eq_some_iff.1 h').1; omega
      show t[j]?.getD b = t[j]?.getD o
      rw [List.getElem?_eq_getElem hj]
      rfl
theorem prevB_all (p : Nat) : ∀ (B : List Nat) (o : Nat), (∀ b ∈ B, b < p) → prevB p o B = if B.length = 0 then o else B[B.length - 1]?.getD o
  | [], _, _ => rfl
  | b :: t, o, h => by
    rw [prevB, if_pos (h b (by simp)), prevB_all p t b fun c hc => h c (by simp [hc])]
    cases t with
    | nil => rfl
    | cons c t => simp
theorem nextB_cases (p e : Nat) : ∀ B, nextB p e B = e ∨ (p < nextB p e B ∧ nextB p e B ∈ B)
  | [] => .inl rfl
  | b :: t => by
    rw [nextB]
    split
    · exact .inr ⟨by assumption, by simp⟩
    · rcases nextB_cases p e t with h | ⟨h, hm⟩
      · exact .inl h
      · exact .inr ⟨h, by simp [hm]⟩
theorem prevB_cases (p : Nat) : ∀ B o, prevB p o B = o ∨ (prevB p o B < p ∧ prevB p o B ∈ B)
  | [], _ => .inl rfl
  | b :: t, o => by
    rw [prevB]
    by_cases hb : b < p
    · rw [if_pos hb]
      rcases prevB_cases p t b with h | ⟨h, hm⟩
      · rw [h]; exact .inr ⟨hb, by simp⟩
      · exact .inr ⟨h, by simp [hm]⟩
    · rw [if_neg hb]
      rcases prevB_cases p t o with h | ⟨h, hm⟩
      · exact .inl h
      · exact .inr ⟨h, by simp [hm]⟩
theorem nextW_is (s : ByteArray) (q : Int) : nextW s q = nextB (intoW s q) s.size (begs (wds s)) := nextF_begs _ _ _
theorem prevW_is (s : ByteArray) (q : Int) : prevW s q = prevB (intoW s q) 0 (begs (wds s)) := prevF_begs _ _ _
theorem intoW_nat (s : ByteArray) (p : Nat) (h : p ≤ s.size) : intoW s (p : Int) = p := by unfold intoW; omega
/-- what is asked of any place -/
theorem nextW_right (s : ByteArray) (q : Int) : nextW s q ≤ s.size ∧ (nextW s q = s.size ∨ q < (nextW s q : Int)) := by
  rw [nextW_is]
  rcases nextB_cases (intoW s q) s.size (begs (wds s)) with h | ⟨h, hm⟩
  · exact ⟨Nat.le_of_eq h, .inl h⟩
  · have h1 := begs_lt s _ hm
    have h2 := intoW_is s q
    obtain ⟨v, hv⟩ : ∃ v, nextB (intoW s q) s.size (begs (wds s)) = v := ⟨_, rfl⟩
    rw [hv] at h h1 ⊢
    exact ⟨by omega, .inr (by omega)⟩
theorem prevW_right (s : ByteArray) (q : Int) : prevW s q ≤ s.size ∧ (prevW s q = 0 ∨ (prevW s q : Int) < q) := by
  rw [prevW_is]
  rcases prevB_cases (intoW s q) (begs (wds s)) 0 with h | ⟨h, hm⟩
  · exact ⟨by omega, .inl h⟩
  · have h1 := begs_lt s _ hm
    have h2 := intoW_is s q
    obtain ⟨v, hv⟩ : ∃ v, prevB (intoW s q) 0 (begs (wds s)) = v := ⟨_, rfl⟩
    rw [hv] at h h1 ⊢
    exact ⟨by omega, .inr (by omega)⟩
theorem atF_right (s : ByteArray) (p : Nat) : ∀ (m n : Nat), (wds s).length - n ≤ m → n ≤ (wds s).length → (atF p s.size ((wds s).drop n)).1 ≤ (atF p s.size ((wds s).drop n)).2 ∧ (atF p s.size ((wds s).drop n)).2 ≤ s.size ∧
    (sumB ((wds s).take n) ≤ p → p < s.size → (atF p s.size ((wds s).drop n)).1 ≤ p ∧ p < (atF p s.size ((wds s).drop n)).2)
  | 0, n, h, hn => by
    have e : n = (wds s).length := by omega
    subst e
    rw [List.drop_length, List.take_length, wds_sum]
    exact ⟨Nat.le_refl _, Nat.le_refl _, fun h1 h2 => by omega⟩
  | m + 1, n, h, hn => by
    rcases Nat.lt_or_ge n (wds s).length with hlt | hge
    · have hx := List.getElem?_eq_getElem hlt
      have hc := wds_chain s n _ hx
      rw [drop_consW hx, atF]
      by_cases hp : p < ((wds s)[n]).1 + ((wds s)[n]).2.size
      · rw [if_pos hp]
        exact ⟨by dsimp only; omega, by dsimp only; omega, fun h1 h2 => ⟨by dsimp only; omega, hp⟩⟩
      · rw [if_neg hp]
        have ih := atF_right s p m (n + 1) (by omega) hlt
        refine ⟨ih.1, ih.2.1, fun h1 h2 => ih.2.2 ?_ h2⟩
        rw [take_snoc _ _ _ hx, sumB_snoc]
        omega
    · have e : n = (wds s).length := by omega
      subst e
      rw [List.drop_length, List.take_length, wds_sum]
      exact ⟨Nat.le_refl _, Nat.le_refl _, fun h1 h2 => by omega⟩
theorem atW_right (s : ByteArray) (q : Int) : (atW s q).1 ≤ (atW s q).2 ∧ (atW s q).2 ≤ s.size ∧ (q < 0 ∨ (s.size : Int) ≤ q ∨ (((atW s q).1 : Int) ≤ q ∧ q < ((atW s q).2 : Int))) := by
  have h := atF_right s (intoW s q) _ 0 (Nat.le_refl _) (Nat.zero_le _)
  refine ⟨h.1, h.2.1, ?_⟩
  by_cases h1 : q < 0
  · exact .inl h1
  by_cases h2 : (s.size : Int) ≤ q
  · exact .inr (.inl h2)
  have hi : (intoW s q : Int) = q := by unfold intoW; omega
  have := h.2.2 (by rw [List.take_zero]; exact Nat.zero_le _) (by omega)
  refine .inr (.inr ?_)
  show ((atF (intoW s q) s.size ((wds s).drop 0)).1 : Int) ≤ q ∧ q < ((atF (intoW s q) s.size ((wds s).drop 0)).2 : Int)
  omega
/-- up -/
theorem step_up (s : ByteArray) (i b : Nat) (h : (begs (wds s))[i]? = some b) : (i = 0 → 0 < b → nextW s 0 = b) ∧ (∀ a : Nat, 0 < i → (begs (wds s))[i - 1]? = some a → nextW s (a : Int) = b) := by
  have hs := begs_sorted s
  have hb := begs_lt s
  constructor
  · rintro rfl h0
    rw [show (0 : Int) = ((0 : Nat) : Int) from rfl, nextW_is, intoW_nat s 0 (Nat.zero_le _)]
    have hall : ∀ c ∈ begs (wds s), 0 < c := fun c hc => by
      obtain ⟨j, hj, rfl⟩ := List.getElem_of_mem hc
      obtain ⟨h0', rfl⟩ := List.getElem?_eq_some_iff.1 h
      rcases Nat.eq_zero_or_pos j with rfl | hj0
      · exact h0
      · have := List.pairwise_iff_getElem.1 hs 0 j h0' hj hj0; omega
    rw [nextB_head _ _ _ hall, h]
    rfl
  · intro a hi ha
    have hl := hb a (List.mem_of_getElem? ha)
    rw [nextW_is, intoW_nat s a (by omega), nextB_at _ _ _ _ hs ha, show i - 1 + 1 = i by omega, h]
    rfl
theorem step_top (s : ByteArray) : ((begs (wds s)).length = 0 → nextW s 0 = s.size) ∧ (∀ a : Nat, 0 < (begs (wds s)).length → (begs (wds s))[(begs (wds s)).length - 1]? = some a → nextW s (a : Int) = s.size) := by
  constructor
  · intro h
    rw [show (0 : Int) = ((0 : Nat) : Int) from rfl, nextW_is, List.eq_nil_of_length_eq_zero h]
    rfl
  · intro a h0 ha
    have hl := begs_lt s a (List.mem_of_getElem? ha)
    rw [nextW_is, intoW_nat s a (by omega), nextB_at _ _ _ _ (begs_sorted s) ha, show (begs (wds s)).length - 1 + 1 = (begs (wds s)).length by omega, List.getElem?_eq_none (Nat.le_refl _)]
    rfl
/-- down -/
theorem step_down (s : ByteArray) (i b : Nat) (h : (begs (wds s))[i]? = some b) : (i + 1 = (begs (wds s)).length → prevW s (s.size : Int) = b) ∧ (∀ a : Nat, (begs (wds s))[i + 1]? = some a → prevW s (a : Int) = b) := by
  constructor
  · intro hl
    rw [prevW_is, intoW_nat s _ (Nat.le_refl _), prevB_all _ _ _ (fun c hc => begs_lt s c hc), if_neg (by omega), ← hl, Nat.add_sub_cancel, h]
    rfl
  · intro a ha
    have hl := begs_lt s a (List.mem_of_getElem? ha)
    rw [prevW_is, intoW_nat s a (by omega), prevB_at _ _ _ _ (begs_sorted s) ha, if_neg (Nat.succ_ne_zero i), Nat.add_sub_cancel, h]
    rfl
theorem step_bottom (s : ByteArray) : ((begs (wds s)).length = 0 → prevW s (s.size : Int) = 0) ∧ (∀ a : Nat, (begs (wds s))[0]? = some a → prevW s (a : Int) = 0) := by
  constructor
  · intro h
    rw [prevW_is, List.eq_nil_of_length_eq_zero h]
    rfl
  · intro a ha
    have hl := begs_lt s a (List.mem_of_getElem? ha)
    rw [prevW_is, intoW_nat s a (by omega), prevB_at _ _ _ _ (begs_sorted s) ha, if_pos rfl]
end Go.Proofs.YtiafofekobcifaaDoor
