/- The document's words on clusters, of numbers; pure; and that they are the roles. -/
import Derived.Test.YtfegbfhkmdmheaaDoorTakeG
set_option linter.unusedSimpArgs false
set_option linter.unusedVariables false
namespace Go.Proofs.YtfegbfhkmdmheaaDoor
open Go.RowKit Go.Lib

def kN (r : Nat) : Nat := cls kindsL (char r)
def picN (r : Nat) : Bool := kN r == 7 && wideOf (cls widthsL (char r)) false == 2
def regN (r : Nat) : Bool := decide (127462 ≤ r) && decide (r ≤ 127487)
def joinN (r : Nat) : Bool := r == 8204 || r == 8205
def partN (r : Nat) : Nat :=
  if 4352 ≤ r ∧ r ≤ 4447 then 1 else if 4448 ≤ r ∧ r ≤ 4519 then 2 else if 4520 ≤ r ∧ r ≤ 4607 then 3
  else if 44032 ≤ r ∧ r ≤ 55203 then (if (r - 44032) % 28 = 0 then 4 else 5) else 0
def sylN (a b : Nat) : Bool := (a == 1 && (b == 1 || b == 2 || b == 4 || b == 5)) || ((a == 2 || a == 4) && (b == 2 || b == 3)) || ((a == 3 || a == 5) && b == 3)
def aloneN (r : Nat) : Bool := kN r == 0 || r == 8232 || r == 8233 || (kN r == 1 && !joinN r)
def takesN (x z y n : Nat) : Bool := (kN y == 2 || joinN y) || (n == 1 && regN x && regN y) || (z == 8205 && picN x && picN y) || sylN (partN z) (partN y)

theorem char_same (r : Nat) (h : r < 55296) : char r = r := by
  unfold char
  rw [if_neg (by omega)]
  rfl
theorem part_role (r size : Nat) : (partN r = 1 ∧ roleN r size = 128) ∨ (partN r = 2 ∧ roleN r size = 256) ∨ (partN r = 3 ∧ roleN r size = 512) ∨ (partN r = 4 ∧ roleN r size = 1024) ∨ (partN r = 5 ∧ roleN r size = 2048) ∨
    (partN r = 0 ∧ roleN r size ≠ 128 ∧ roleN r size ≠ 256 ∧ roleN r size ≠ 512 ∧ roleN r size ≠ 1024 ∧ roleN r size ≠ 2048) := by
  have hk : kindRole r = 1 ∨ kindRole r = 8 ∨ kindRole r = 64 ∨ kindRole r = 4096 := by
    unfold kindRole
    split
    · exact .inl rfl
    · split
      · exact .inr (.inl rfl)
      · split
        · exact .inr (.inr (.inl rfl))
        · exact .inr (.inr (.inr rfl))
  obtain ⟨q, hq⟩ : ∃ q, (r - 44032) % 28 = q := ⟨_, rfl⟩
  unfold partN roleN
  rw [hq]
  generalize kindRole r = v at hk
  by_cases h1 : r = 65533 ∧ size = 1
  · rw [if_pos h1, if_neg (by omega), if_neg (by omega), if_neg (by omega), if_neg (by omega)]; omega
  rw [if_neg h1]
  by_cases h2 : r = 13
  · rw [if_pos h2, if_neg (by omega), if_neg (by omega), if_neg (by omega), if_neg (by omega)]; omega
  rw [if_neg h2]
  by_cases h3 : r = 10
  · rw [if_pos h3, if_neg (by omega), if_neg (by omega), if_neg (by omega), if_neg (by omega)]; omega
  rw [if_neg h3]
  by_cases h4 : r = 8204
  · rw [if_pos h4, if_neg (by omega), if_neg (by omega), if_neg (by omega), if_neg (by omega)]; omega
  rw [if_neg h4]
  by_cases h5 : r = 8205
  · rw [if_pos h5, if_neg (by omega), if_neg (by omega), if_neg (by omega), if_neg (by omega)]; omega
  rw [if_neg h5]
  by_cases h6 : r = 8232 ∨ r = 8233
  · rw [if_pos h6, if_neg (by omega), if_neg (by omega), if_neg (by omega), if_neg (by omega)]; omega
  rw [if_neg h6]
  by_cases h7 : 127462 ≤ r ∧ r ≤ 127487
  · rw [if_pos h7, if_neg (by omega), if_neg (by omega), if_neg (by omega), if_neg (by omega)]; omega
  rw [if_neg h7]
  by_cases h8 : 4352 ≤ r ∧ r ≤ 4607
  · rw [if_pos h8]
    by_cases a1 : r < 4448
    · rw [if_pos a1, if_pos (by omega)]; omega
    rw [if_neg a1, if_neg (by omega)]
    by_cases a2 : r < 4520
    · rw [if_pos a2, if_pos (by omega)]; omega
    rw [if_neg a2, if_neg (by omega), if_pos (by omega)]; omega
  rw [if_neg h8, if_neg (show ¬ (4352 ≤ r ∧ r ≤ 4447) by omega), if_neg (show ¬ (4448 ≤ r ∧ r ≤ 4519) by omega), if_neg (show ¬ (4520 ≤ r ∧ r ≤ 4607) by omega)]
  by_cases h9 : 44032 ≤ r ∧ r ≤ 55203
  · rw [if_pos h9, if_pos h9]
    by_cases hq0 : q = 0
    · rw [if_pos hq0, if_pos hq0]; omega
    · rw [if_neg hq0, if_neg hq0]; omega
  rw [if_neg h9, if_neg h9]
  omega
theorem syl_same (z y sz sy : Nat) : sylN (partN z) (partN y) = syl (roleN z sz) (roleN y sy) := by
  have h1 := part_role z sz
  have h2 := part_role y sy
  generalize partN z = a at *
  generalize partN y = b at *
  generalize roleN z sz = c at *
  generalize roleN y sy = d at *
  rcases h1 with ⟨rfl, rfl⟩ | ⟨rfl, rfl⟩ | ⟨rfl, rfl⟩ | ⟨rfl, rfl⟩ | ⟨rfl, rfl⟩ | ⟨rfl, e1, e2, e3, e4, e5⟩ <;>
    rcases h2 with ⟨rfl, rfl⟩ | ⟨rfl, rfl⟩ | ⟨rfl, rfl⟩ | ⟨rfl, rfl⟩ | ⟨rfl, rfl⟩ | ⟨rfl, f1, f2, f3, f4, f5⟩ <;> simp [sylN, syl, *]
end Go.Proofs.YtfegbfhkmdmheaaDoor

/- The document's words on clusters are the roles (the table's part), and its first is the program's first cluster; pure. -/
namespace Go.Proofs.YtfegbfhkmdmheaaDoor
open Go.RowKit Go.Lib

theorem cls_flat {l : Tab} {a b r : Nat} (h : (l.all fun e => !(decide (a < e.1) && decide (e.1 ≤ b))) = true) (h1 : a ≤ r) (h2 : r ≤ b) : cls l r = cls l a :=
  clsFrom_same l 0 a r fun e he => by
    have := List.all_eq_true.1 h e he
    simp at this
    omega
theorem char_high (r : Nat) (h1 : 57343 < r) (h2 : r ≤ 1114111) : char r = r := by
  unfold char
  rw [if_neg (by omega)]
  rfl
theorem k_hangul {r : Nat} (h : 4352 ≤ r ∧ r ≤ 4607) : kN r = 3 := by
  unfold kN
  rw [char_same r (by omega), cls_flat (a := 4352) (b := 4607) (by decide +kernel) h.1 h.2]
  decide +kernel
theorem k_syl {r : Nat} (h : 44032 ≤ r ∧ r ≤ 55203) : kN r = 3 := by
  unfold kN
  rw [char_same r (by omega), cls_flat (a := 44032) (b := 55203) (by decide +kernel) h.1 h.2]
  decide +kernel
theorem k_reg {r : Nat} (h : 127462 ≤ r ∧ r ≤ 127487) : kN r = 7 ∧ wideOf (cls widthsL (char r)) false = 1 := by
  unfold kN
  rw [char_high r (by omega) (by omega), cls_flat (a := 127462) (b := 127487) (by decide +kernel) h.1 h.2, cls_flat (l := widthsL) (a := 127462) (b := 127487) (by decide +kernel) h.1 h.2]
  decide +kernel
theorem k_points : kN 13 = 0 ∧ kN 10 = 0 ∧ kN 8204 = 1 ∧ kN 8205 = 1 ∧ kN 8232 = 5 ∧ kN 8233 = 5 ∧ picN 65533 = false := by decide +kernel
theorem kindRole_k (r : Nat) : (kindRole r = 1 ∧ (kN r = 0 ∨ kN r = 1) ∧ picN r = false) ∨ (kindRole r = 8 ∧ kN r = 2 ∧ picN r = false) ∨ (kindRole r = 64 ∧ kN r = 7 ∧ picN r = true) ∨ (kindRole r = 4096 ∧ kN r ≠ 0 ∧ kN r ≠ 1 ∧ kN r ≠ 2 ∧ picN r = false) := by
  unfold kindRole picN kN
  generalize cls kindsL (char r) = k
  generalize wideOf (cls widthsL (char r)) false = v
  by_cases h1 : k = 0 ∨ k = 1
  · rw [if_pos h1]
    exact .inl ⟨rfl, h1, by rcases h1 with rfl | rfl <;> rfl⟩
  rw [if_neg h1]
  by_cases h2 : k = 2
  · rw [if_pos h2]
    exact .inr (.inl ⟨rfl, h2, by subst h2; rfl⟩)
  rw [if_neg h2]
  by_cases h7 : k = 7 ∧ v = 2
  · rw [if_pos h7]
    exact .inr (.inr (.inl ⟨rfl, h7.1, by rw [h7.1, h7.2]; rfl⟩))
  · rw [if_neg h7]
    refine .inr (.inr (.inr ⟨rfl, by omega, by omega, h2, ?_⟩))
    by_cases hk : k = 7
    · have : v ≠ 2 := fun e => h7 ⟨hk, e⟩
      simp [this]
    · simp [hk]
/-- how a number stands to the document's words, by its role -/
theorem role_words (r size : Nat) : regN r = (roleN r size == 32) ∧ picN r = (roleN r size == 64) ∧ ((r == 8205) = (roleN r size == 16)) ∧
    ((r = 65533 ∧ size = 1) ∨ (aloneN r = (roleN r size == 1 || roleN r size == 2 || roleN r size == 4) ∧ (kN r == 2 || joinN r) = (roleN r size == 8 || roleN r size == 16) ∧ (r == 13) = (roleN r size == 2) ∧ (r == 10) = (roleN r size == 4))) := by
  obtain ⟨p1, p2, p3, p4, p5, p6, p7⟩ := k_points
  have hreg : regN r = decide (127462 ≤ r ∧ r ≤ 127487) := by unfold regN; simp [Bool.decide_and]
  by_cases h1 : r = 65533 ∧ size = 1
  · have e : roleN r size = 1 := by unfold roleN; rw [if_pos h1]
    rw [e, hreg]
    obtain ⟨rfl, rfl⟩ := h1
    exact ⟨by decide, p7, by decide, .inl ⟨rfl, rfl⟩⟩
  have hpk : kN r ≠ 7 → picN r = false := fun h => by unfold picN; simp [h]
  unfold roleN
  rw [if_neg h1, hreg]
  by_cases h2 : r = 13
  · subst h2; rw [if_pos rfl, hpk (by omega)]; exact ⟨by decide, by decide, by decide, .inr ⟨by unfold aloneN; rw [p1]; decide, by rw [p1]; decide, by decide, by decide⟩⟩
  rw [if_neg h2]
  by_cases h3 : r = 10
  · subst h3; rw [if_pos rfl, hpk (by omega)]; exact ⟨by decide, by decide, by decide, .inr ⟨by unfold aloneN; rw [p2]; decide, by rw [p2]; decide, by decide, by decide⟩⟩
  rw [if_neg h3]
  by_cases h4 : r = 8204
  · subst h4; rw [if_pos rfl, hpk (by omega)]; exact ⟨by decide, by decide, by decide, .inr ⟨by unfold aloneN; rw [p3]; decide, by rw [p3]; decide, by decide, by decide⟩⟩
  rw [if_neg h4]
  by_cases h5 : r = 8205
  · subst h5; rw [if_pos rfl, hpk (by omega)]; exact ⟨by decide, by decide, by decide, .inr ⟨by unfold aloneN; rw [p4]; decide, by rw [p4]; decide, by decide, by decide⟩⟩
  rw [if_neg h5]
  by_cases h6 : r = 8232 ∨ r = 8233
  · rw [if_pos h6]
    rcases h6 with rfl | rfl
    · rw [hpk (by omega)]; exact ⟨by decide, by decide, by decide, .inr ⟨by unfold aloneN; rw [p5]; decide, by rw [p5]; decide, by decide, by decide⟩⟩
    · rw [hpk (by omega)]; exact ⟨by decide, by decide, by decide, .inr ⟨by unfold aloneN; rw [p6]; decide, by rw [p6]; decide, by decide, by decide⟩⟩
  rw [if_neg h6]
  have e13 : (r == 13) = false := by simpa using h2
  have e10 : (r == 10) = false := by simpa using h3
  have e05 : (r == 8205) = false := by simpa using h5
  have ej : joinN r = false := by unfold joinN; simp [h4, h5]
  have ea : aloneN r = (kN r == 0 || kN r == 1) := by
    unfold aloneN
    have a1 : (r == 8232) = false := by simpa using fun e => h6 (.inl e)
    have a2 : (r == 8233) = false := by simpa using fun e => h6 (.inr e)
    rw [ej, a1, a2]
    simp
  rw [e13, e10, e05, ej, ea]
  by_cases h7 : 127462 ≤ r ∧ r ≤ 127487
  · obtain ⟨k1, k2⟩ := k_reg h7
    have hp : picN r = false := by unfold picN; rw [k2]; simp
    rw [if_pos h7, hp, k1]
    exact ⟨by simp [h7], by decide, by decide, .inr ⟨by decide, by decide, by decide, by decide⟩⟩
  rw [if_neg h7]
  have hr7 : decide (127462 ≤ r ∧ r ≤ 127487) = false := by simpa using h7
  rw [hr7]
  by_cases h8 : 4352 ≤ r ∧ r ≤ 4607
  · have k1 := k_hangul h8
    rw [if_pos h8, hpk (by omega), k1]
    split
    · exact ⟨by decide, by decide, by decide, .inr ⟨by decide, by decide, by decide, by decide⟩⟩
    · split <;> exact ⟨by decide, by decide, by decide, .inr ⟨by decide, by decide, by decide, by decide⟩⟩
  rw [if_neg h8]
  by_cases h9 : 44032 ≤ r ∧ r ≤ 55203
  · have k1 := k_syl h9
    rw [if_pos h9, hpk (by omega), k1]
    split <;> exact ⟨by decide, by decide, by decide, .inr ⟨by decide, by decide, by decide, by decide⟩⟩
  rw [if_neg h9]
  rcases kindRole_k r with ⟨e, k1 | k1, k2⟩ | ⟨e, k1, k2⟩ | ⟨e, k1, k2⟩ | ⟨e, k1, k2, k3, k4⟩
  · rw [e, k2, k1]; exact ⟨by decide, by decide, by decide, .inr ⟨by decide, by decide, by decide, by decide⟩⟩
  · rw [e, k2, k1]; exact ⟨by decide, by decide, by decide, .inr ⟨by decide, by decide, by decide, by decide⟩⟩
  · rw [e, k2, k1]; exact ⟨by decide, by decide, by decide, .inr ⟨by decide, by decide, by decide, by decide⟩⟩
  · rw [e, k2, k1]; exact ⟨by decide, by decide, by decide, .inr ⟨by decide, by decide, by decide, by decide⟩⟩
  · rw [e, k4]
    have a0 : (kN r == 0) = false := by simpa using k1
    have a1 : (kN r == 1) = false := by simpa using k2
    have a2 : (kN r == 2) = false := by simpa using k3
    rw [a0, a1, a2]
    exact ⟨by decide, by decide, by decide, .inr ⟨by decide, by decide, by decide, by decide⟩⟩

/-- is it a bad byte? -/
def badD (d : Nat × Nat) : Bool := d.1 == 65533 && d.2 == 1
def runN (ds : List (Nat × Nat)) : Nat → Nat → Nat
  | 0, n => n
  | f + 1, n => if n < ds.length ∧ n < 32 ∧ badD (ds.getD n (0, 0)) = false ∧ takesN (ds.getD 0 (0, 0)).1 (ds.getD (n - 1) (0, 0)).1 (ds.getD n (0, 0)).1 n = true then runN ds f (n + 1) else n
/-- the document's first -/
def firstN (ds : List (Nat × Nat)) : Nat :=
  if badD (ds.getD 0 (0, 0)) = true then 1 else if (ds.getD 0 (0, 0)).1 = 13 ∧ 1 < ds.length ∧ (ds.getD 1 (0, 0)).1 = 10 then 2 else if aloneN (ds.getD 0 (0, 0)).1 = true then 1 else runN ds 32 1
theorem roleD_get (ds : List (Nat × Nat)) (k : Nat) (h : k < ds.length) : roleD ds k = roleN (ds.getD k (0, 0)).1 (ds.getD k (0, 0)).2 := by
  unfold roleD
  rw [List.getD_eq_getElem?_getD, List.getElem?_eq_getElem h]
  rfl
theorem goes_takes (ds : List (Nat × Nat)) (n : Nat) (h0 : 0 < n) (hn : n < ds.length) : goesD ds n = (!badD (ds.getD n (0, 0)) && takesN (ds.getD 0 (0, 0)).1 (ds.getD (n - 1) (0, 0)).1 (ds.getD n (0, 0)).1 n) := by
  unfold goesD
  rw [roleD_get ds n hn, roleD_get ds 0 (by omega), roleD_get ds (n - 1) (by omega)]
  generalize ds.getD n (0, 0) = y
  generalize ds.getD 0 (0, 0) = x
  generalize ds.getD (n - 1) (0, 0) = z
  obtain ⟨x1, x2, _, _⟩ := role_words x.1 x.2
  obtain ⟨_, _, z3, _⟩ := role_words z.1 z.2
  obtain ⟨y1, y2, y3, y4⟩ := role_words y.1 y.2
  have hs := syl_same z.1 y.1 z.2 y.2
  rcases y4 with ⟨e1, e2⟩ | ⟨_, y5, _, _⟩
  · have hr : roleN y.1 y.2 = 1 := by unfold roleN; rw [if_pos ⟨e1, e2⟩]
    have hb : badD y = true := by unfold badD; rw [e1, e2]; rfl
    rw [hr, hb]
    simp [syl]
  · by_cases hb : badD y = true
    · have hr : roleN y.1 y.2 = 1 := by
        unfold badD at hb
        simp at hb
        unfold roleN
        rw [if_pos hb]
      rw [hr, hb]
      simp [syl]
    · have hb : badD y = false := by simpa using hb
      unfold takesN
      rw [hb, y5, x1, y1, z3, x2, y2, hs]
      simp only [Bool.not_false, Bool.true_and]
      generalize roleN x.1 x.2 = a
      generalize roleN y.1 y.2 = b
      generalize roleN z.1 z.2 = c
      rcases Bool.eq_false_or_eq_true (a == 64) with h | h <;> rcases Bool.eq_false_or_eq_true (b == 64) with h' | h' <;> rcases Bool.eq_false_or_eq_true (c == 16) with h'' | h'' <;> simp only [h, h', h''] <;> rfl
theorem runN_runD (ds : List (Nat × Nat)) : ∀ f n, 0 < n → runN ds f n = runD ds f n
  | 0, n, _ => rfl
  | f + 1, n, h0 => by
    unfold runN runD
    by_cases hn : n < ds.length
    · rw [goes_takes ds n h0 hn, runN_runD ds f (n + 1) (by omega)]
      simp only [Bool.and_eq_true, Bool.not_eq_true']
    · rw [if_neg (fun h => hn h.1), if_neg (fun h => hn h.1)]
theorem firstN_clD (ds : List (Nat × Nat)) (h : 0 < ds.length) : firstN ds = clD ds := by
  unfold firstN clD
  rw [if_neg (show ¬ ds.length = 0 by omega), roleD_get ds 0 h]
  have hw := role_words (ds.getD 0 (0, 0)).1 (ds.getD 0 (0, 0)).2
  have h1 : roleD ds 1 = if 1 < ds.length then roleN (ds.getD 1 (0, 0)).1 (ds.getD 1 (0, 0)).2 else 0 := by
    by_cases hl : 1 < ds.length
    · rw [if_pos hl, roleD_get ds 1 hl]
    · rw [if_neg hl, roleD_none (by omega)]
  rw [h1]
  have hw1 := role_words (ds.getD 1 (0, 0)).1 (ds.getD 1 (0, 0)).2
  have hbad1 : (ds.getD 1 (0, 0)).1 = 65533 ∧ (ds.getD 1 (0, 0)).2 = 1 → roleN (ds.getD 1 (0, 0)).1 (ds.getD 1 (0, 0)).2 = 1 := fun e => by unfold roleN; rw [if_pos e]
  have hbad0 : badD (ds.getD 0 (0, 0)) = true ↔ ((ds.getD 0 (0, 0)).1 = 65533 ∧ (ds.getD 0 (0, 0)).2 = 1) := by unfold badD; simp
  have hr0 : (ds.getD 0 (0, 0)).1 = 65533 ∧ (ds.getD 0 (0, 0)).2 = 1 → roleN (ds.getD 0 (0, 0)).1 (ds.getD 0 (0, 0)).2 = 1 := fun e => by unfold roleN; rw [if_pos e]
  rw [runN_runD ds 32 1 (by omega)]
  obtain ⟨_, _, _, hw⟩ := hw
  obtain ⟨_, _, _, hw1⟩ := hw1
  generalize ds.getD 0 (0, 0) = x at *
  generalize ds.getD 1 (0, 0) = y at *
  generalize roleN x.1 x.2 = a at *
  generalize roleN y.1 y.2 = b at *
  rcases hw with hb | ⟨w1, w2, w3, w4⟩
  · rw [if_pos (hbad0.2 hb), hr0 hb, if_pos (.inl rfl)]
  by_cases hb : badD x = true
  · rw [if_pos hb, hr0 (hbad0.1 hb), if_pos (.inl rfl)]
  rw [if_neg hb]
  have e13 : x.1 = 13 ↔ a = 2 := by
    constructor
    · intro e; rw [e] at w3; simpa using w3.symm
    · intro e; rw [e] at w3; simpa using w3
  by_cases h13 : a = 2
  · rw [if_neg (show ¬ (a = 1 ∨ a = 4) by omega), if_pos h13]
    have hal : aloneN x.1 = true := by rw [w1, h13]; rfl
    rw [if_pos hal]
    by_cases hl : 1 < ds.length
    · rw [if_pos hl]
      have e10 : y.1 = 10 ↔ b = 4 := by
        rcases hw1 with hb1 | ⟨_, _, _, v4⟩
        · rw [hbad1 hb1, hb1.1]; omega
        · constructor
          · intro e; rw [e] at v4; simpa using v4.symm
          · intro e; rw [e] at v4; simpa using v4
      by_cases h10 : b = 4
      · rw [if_pos ⟨e13.2 h13, hl, e10.2 h10⟩, if_pos h10]
      · rw [if_neg (fun h => h10 (e10.1 h.2.2)), if_neg h10]
    · rw [if_neg (fun h => hl h.2.1), if_neg hl, if_neg (by decide)]
  · rw [if_neg (fun h => h13 (e13.1 h.1)), w1]
    by_cases h14 : a = 1 ∨ a = 4
    · rw [if_pos h14, if_pos (by rcases h14 with e | e <;> simp [e])]
    · rw [if_neg h14, if_neg h13, if_neg (by simp; omega)]
end Go.Proofs.YtfegbfhkmdmheaaDoor
