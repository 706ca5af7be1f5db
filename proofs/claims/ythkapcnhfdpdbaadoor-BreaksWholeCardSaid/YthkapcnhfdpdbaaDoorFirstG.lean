/- The document's words on clusters, of numbers; pure; and that they are the roles. -/
import Derived.Test.YthkapcnhfdpdbaaDoorPiece
import Derived.Test.YthkapcnhfdpdbaaDoorSameT
import Derived.Test.YthkapcnhfdpdbaaDoorRowG
import Derived.Deep.RegionHeld3
set_option linter.unusedSimpArgs false
set_option linter.unusedVariables false
namespace Go.Proofs.YthkapcnhfdpdbaaDoor
open Go.RowKit Go.Lib

def kN (r : Nat) : Nat := cls kindsL (char r)
def picN (r : Nat) : Bool := kN r == 7 && wideOf (cls widthsL (char r)) false == 2
def regN (r : Nat) : Bool := decide (127462 ≤ r) && decide (r ≤ 127487)
def joinN (r : Nat) : Bool := r == 8204 || r == 8205
def partN (r : Nat) : Nat :=
  if 4352 ≤ r ∧ r ≤ 4447 then 1 else if 4448 ≤ r ∧ r ≤ 4519 then 2 else if 4520 ≤ r ∧ r ≤ 4607 then 3
  else if 44032 ≤ r ∧ r ≤ 55203 then (if (r - 44032) % 28 = 0 then 4 else 5) else 0
def sylN (a b : Nat) : Bool := (a == 1 && (b == 1 || b == 2 || b == 4 || b == 5)) || ((a == 2 || a == 4) && (b == 2 || b == 3)) || ((a == 3 || a == 5) && b == 3)
def aloneN (r : Nat) : Bool := kN r == 0 || r == 8232 || r == 8233 || (kN r == 1 && !joinN r)
def takesN (x z y n : Nat) : Bool := (kN y == 2 || joinN y) || (n == 1 && regN x && regN y) || (z == 8205 && picN x && picN y) || sylN (partN z) (partN y)

theorem char_same (r : Nat) (h : r < 55296) : char r = r := by
  unfold char
  rw [if_neg (by omega)]
  rfl
theorem part_role (r size : Nat) : (partN r = 1 ∧ roleN r size = 128) ∨ (partN r = 2 ∧ roleN r size = 256) ∨ (partN r = 3 ∧ roleN r size = 512) ∨ (partN r = 4 ∧ roleN r size = 1024) ∨ (partN r = 5 ∧ roleN r size = 2048) ∨
    (partN r = 0 ∧ roleN r size ≠ 128 ∧ roleN r size ≠ 256 ∧ roleN r size ≠ 512 ∧ roleN r size ≠ 1024 ∧ roleN r size ≠ 2048) := by
  have hk : kindRole r = 1 ∨ kindRole r = 8 ∨ kindRole r = 64 ∨ kindRole r = 4096 := by
    unfold kindRole
    split
    · exact .inl rfl
    · split
      · exact .inr (.inl rfl)
      · split
        · exact .inr (.inr (.inl rfl))
        · exact .inr (.inr (.inr rfl))
  obtain ⟨q, hq⟩ : ∃ q, (r - 44032) % 28 = q := ⟨_, rfl⟩
  unfold partN roleN
  rw [hq]
  generalize kindRole r = v at hk
  by_cases h1 : r = 65533 ∧ size = 1
  · rw [if_pos h1, if_neg (by omega), if_neg (by omega), if_neg (by omega), if_neg (by omega)]; omega
  rw [if_neg h1]
  by_cases h2 : r = 13
  · rw [if_pos h2, if_neg (by omega), if_neg (by omega), if_neg (by omega), if_neg (by omega)]; omega
  rw [if_neg h2]
  by_cases h3 : r = 10
  · rw [if_pos h3, if_neg (by omega), if_neg (by omega), if_neg (by omega), if_neg (by omega)]; omega
  rw [if_neg h3]
  by_cases h4 : r = 8204
  · rw [if_pos h4, if_neg (by omega), if_neg (by omega), if_neg (by omega), if_neg (by omega)]; omega
  rw [if_neg h4]
  by_cases h5 : r = 8205
  · rw [if_pos h5, if_neg (by omega), if_neg (by omega), if_neg (by omega), if_neg (by omega)]; omega
  rw [if_neg h5]
  by_cases h6 : r = 8232 ∨ r = 8233
  · rw [if_pos h6, if_neg (by omega), if_neg (by omega), if_neg (by omega), if_neg (by omega)]; omega
  rw [if_neg h6]
  by_cases h7 : 127462 ≤ r ∧ r ≤ 127487
  · rw [if_pos h7, if_neg (by omega), if_neg (by omega), if_neg (by omega), if_neg (by omega)]; omega
  rw [if_neg h7]
  by_cases h8 : 4352 ≤ r ∧ r ≤ 4607
  · rw [if_pos h8]
    by_cases a1 : r < 4448
    · rw [if_pos a1, if_pos (by omega)]; omega
    rw [if_neg a1, if_neg (by omega)]
    by_cases a2 : r < 4520
    · rw [if_pos a2, if_pos (by omega)]; omega
    rw [if_neg a2, if_neg (by omega), if_pos (by omega)]; omega
  rw [if_neg h8, if_neg (show ¬ (4352 ≤ r ∧ r ≤ 4447) by omega), if_neg (show ¬ (4448 ≤ r ∧ r ≤ 4519) by omega), if_neg (show ¬ (4520 ≤ r ∧ r ≤ 4607) by omega)]
  by_cases h9 : 44032 ≤ r ∧ r ≤ 55203
  · rw [if_pos h9, if_pos h9]
    by_cases hq0 : q = 0
    · rw [if_pos hq0, if_pos hq0]; omega
    · rw [if_neg hq0, if_neg hq0]; omega
  rw [if_neg h9, if_neg h9]
  omega
theorem syl_same (z y sz sy : Nat) : sylN (partN z) (partN y) = syl (roleN z sz) (roleN y sy) := by
  have h1 := part_role z sz
  have h2 := part_role y sy
  generalize partN z = a at *
  generalize partN y = b at *
  generalize roleN z sz = c at *
  generalize roleN y sy = d at *
  rcases h1 with ⟨rfl, rfl⟩ | ⟨rfl, rfl⟩ | ⟨rfl, rfl⟩ | ⟨rfl, rfl⟩ | ⟨rfl, rfl⟩ | ⟨rfl, e1, e2, e3, e4, e5⟩ <;>
    rcases h2 with ⟨rfl, rfl⟩ | ⟨rfl, rfl⟩ | ⟨rfl, rfl⟩ | ⟨rfl, rfl⟩ | ⟨rfl, rfl⟩ | ⟨rfl, f1, f2, f3, f4, f5⟩ <;> simp [sylN, syl, *]
end Go.Proofs.YthkapcnhfdpdbaaDoor

/- The document's words on clusters are the roles (the table's part), and its first is the program's first cluster; pure. -/
namespace Go.Proofs.YthkapcnhfdpdbaaDoor
open Go.RowKit Go.Lib

theorem cls_flat {l : Tab} {a b r : Nat} (h : (l.all fun e => !(decide (a < e.1) && decide (e.1 ≤ b))) = true) (h1 : a ≤ r) (h2 : r ≤ b) : cls l r = cls l a :=
  clsFrom_same l 0 a r fun e he => by
    have := List.all_eq_true.1 h e he
    simp at this
    omega
theorem char_high (r : Nat) (h1 : 57343 < r) (h2 : r ≤ 1114111) : char r = r := by
  unfold char
  rw [if_neg (by omega)]
  rfl
theorem k_hangul {r : Nat} (h : 4352 ≤ r ∧ r ≤ 4607) : kN r = 3 := by
  unfold kN
  rw [char_same r (by omega), cls_flat (a := 4352) (b := 4607) (by decide +kernel) h.1 h.2]
  decide +kernel
theorem k_syl {r : Nat} (h : 44032 ≤ r ∧ r ≤ 55203) : kN r = 3 := by
  unfold kN
  rw [char_same r (by omega), cls_flat (a := 44032) (b := 55203) (by decide +kernel) h.1 h.2]
  decide +kernel
theorem k_reg {r : Nat} (h : 127462 ≤ r ∧ r ≤ 127487) : kN r = 7 ∧ wideOf (cls widthsL (char r)) false = 1 := by
  unfold kN
  rw [char_high r (by omega) (by omega), cls_flat (a := 127462) (b := 127487) (by decide +kernel) h.1 h.2, cls_flat (l := widthsL) (a := 127462) (b := 127487) (by decide +kernel) h.1 h.2]
  decide +kernel
theorem k_points : kN 13 = 0 ∧ kN 10 = 0 ∧ kN 8204 = 1 ∧ kN 8205 = 1 ∧ kN 8232 = 5 ∧ kN 8233 = 5 ∧ picN 65533 = false := by decide +kernel
theorem kindRole_k (r : Nat) : (kindRole r = 1 ∧ (kN r = 0 ∨ kN r = 1) ∧ picN r = false) ∨ (kindRole r = 8 ∧ kN r = 2 ∧ picN r = false) ∨ (kindRole r = 64 ∧ kN r = 7 ∧ picN r = true) ∨ (kindRole r = 4096 ∧ kN r ≠ 0 ∧ kN r ≠ 1 ∧ kN r ≠ 2 ∧ picN r = false) := by
  unfold kindRole picN kN
  generalize cls kindsL (char r) = k
  generalize wideOf (cls widthsL (char r)) false = v
  by_cases h1 : k = 0 ∨ k = 1
  · rw [if_pos h1]
    exact .inl ⟨rfl, h1, by rcases h1 with rfl | rfl <;> rfl⟩
  rw [if_neg h1]
  by_cases h2 : k = 2
  · rw [if_pos h2]
    exact .inr (.inl ⟨rfl, h2, by subst h2; rfl⟩)
  rw [if_neg h2]
  by_cases h7 : k = 7 ∧ v = 2
  · rw [if_pos h7]
    exact .inr (.inr (.inl ⟨rfl, h7.1, by rw [h7.1, h7.2]; rfl⟩))
  · rw [if_neg h7]
    refine .inr (.inr (.inr ⟨rfl, by omega, by omega, h2, ?_⟩))
    by_cases hk : k = 7
    · have : v ≠ 2 := fun e => h7 ⟨hk, e⟩
      simp [this]
    · simp [hk]
/-- how a number stands to the document's words, by its role -/
theorem role_words (r size : Nat) : regN r = (roleN r size == 32) ∧ picN r = (roleN r size == 64) ∧ ((r == 8205) = (roleN r size == 16)) ∧
    ((r = 65533 ∧ size = 1) ∨ (aloneN r = (roleN r size == 1 || roleN r size == 2 || roleN r size == 4) ∧ (kN r == 2 || joinN r) = (roleN r size == 8 || roleN r size == 16) ∧ (r == 13) = (roleN r size == 2) ∧ (r == 10) = (roleN r size == 4))) := by
  obtain ⟨p1, p2, p3, p4, p5, p6, p7⟩ := k_points
  have hreg : regN r = decide (127462 ≤ r ∧ r ≤ 127487) := by unfold regN; simp [Bool.decide_and]
  by_cases h1 : r = 65533 ∧ size = 1
  · have e : roleN r size = 1 := by unfold roleN; rw [if_pos h1]
    rw [e, hreg]
    obtain ⟨rfl, rfl⟩ := h1
    exact ⟨by decide, p7, by decide, .inl ⟨rfl, rfl⟩⟩
  have hpk : kN r ≠ 7 → picN r = false := fun h => by unfold picN; simp [h]
  unfold roleN
  rw [if_neg h1, hreg]
  by_cases h2 : r = 13
  · subst h2; rw [if_pos rfl, hpk (by omega)]; exact ⟨by decide, by decide, by decide, .inr ⟨by unfold aloneN; rw [p1]; decide, by rw [p1]; decide, by decide, by decide⟩⟩
  rw [if_neg h2]
  by_cases h3 : r = 10
  · subst h3; rw [if_pos rfl, hpk (by omega)]; exact ⟨by decide, by decide, by decide, .inr ⟨by unfold aloneN; rw [p2]; decide, by rw [p2]; decide, by decide, by decide⟩⟩
  rw [if_neg h3]
  by_cases h4 : r = 8204
  · subst h4; rw [if_pos rfl, hpk (by omega)]; exact ⟨by decide, by decide, by decide, .inr ⟨by unfold aloneN; rw [p3]; decide, by rw [p3]; decide, by decide, by decide⟩⟩
  rw [if_neg h4]
  by_cases h5 : r = 8205
  · subst h5; rw [if_pos rfl, hpk (by omega)]; exact ⟨by decide, by decide, by decide, .inr ⟨by unfold aloneN; rw [p4]; decide, by rw [p4]; decide, by decide, by decide⟩⟩
  rw [if_neg h5]
  by_cases h6 : r = 8232 ∨ r = 8233
  · rw [if_pos h6]
    rcases h6 with rfl | rfl
    · rw [hpk (by omega)]; exact ⟨by decide, by decide, by decide, .inr ⟨by unfold aloneN; rw [p5]; decide, by rw [p5]; decide, by decide, by decide⟩⟩
    · rw [hpk (by omega)]; exact ⟨by decide, by decide, by decide, .inr ⟨by unfold aloneN; rw [p6]; decide, by rw [p6]; decide, by decide, by decide⟩⟩
  rw [if_neg h6]
  have e13 : (r == 13) = false := by simpa using h2
  have e10 : (r == 10) = false := by simpa using h3
  have e05 : (r == 8205) = false := by simpa using h5
  have ej : joinN r = false := by unfold joinN; simp [h4, h5]
  have ea : aloneN r = (kN r == 0 || kN r == 1) := by
    unfold aloneN
    have a1 : (r == 8232) = false := by simpa using fun e => h6 (.inl e)
    have a2 : (r == 8233) = false := by simpa using fun e => h6 (.inr e)
    rw [ej, a1, a2]
    simp
  rw [e13, e10, e05, ej, ea]
  by_cases h7 : 127462 ≤ r ∧ r ≤ 127487
  · obtain ⟨k1, k2⟩ := k_reg h7
    have hp : picN r = false := by unfold picN; rw [k2]; simp
    rw [if_pos h7, hp, k1]
    exact ⟨by simp [h7], by decide, by decide, .inr ⟨by decide, by decide, by decide, by decide⟩⟩
  rw [if_neg h7]
  have hr7 : decide (127462 ≤ r ∧ r ≤ 127487) = false := by simpa using h7
  rw [hr7]
  by_cases h8 : 4352 ≤ r ∧ r ≤ 4607
  · have k1 := k_hangul h8
    rw [if_pos h8, hpk (by omega), k1]
    split
    · exact ⟨by decide, by decide, by decide, .inr ⟨by decide, by decide, by decide, by decide⟩⟩
    · split <;> exact ⟨by decide, by decide, by decide, .inr ⟨by decide, by decide, by decide, by decide⟩⟩
  rw [if_neg h8]
  by_cases h9 : 44032 ≤ r ∧ r ≤ 55203
  · have k1 := k_syl h9
    rw [if_pos h9, hpk (by omega), k1]
    split <;> exact ⟨by decide, by decide, by decide, .inr ⟨by decide, by decide, by decide, by decide⟩⟩
  rw [if_neg h9]
  rcases kindRole_k r with ⟨e, k1 | k1, k2⟩ | ⟨e, k1, k2⟩ | ⟨e, k1, k2⟩ | ⟨e, k1, k2, k3, k4⟩
  · rw [e, k2, k1]; exact ⟨by decide, by decide, by decide, .inr ⟨by decide, by decide, by decide, by decide⟩⟩
  · rw [e, k2, k1]; exact ⟨by decide, by decide, by decide, .inr ⟨by decide, by decide, by decide, by decide⟩⟩
  · rw [e, k2, k1]; exact ⟨by decide, by decide, by decide, .inr ⟨by decide, by decide, by decide, by decide⟩⟩
  · rw [e, k2, k1]; exact ⟨by decide, by decide, by decide, .inr ⟨by decide, by decide, by decide, by decide⟩⟩
  · rw [e, k4]
    have a0 : (kN r == 0) = false := by simpa using k1
    have a1 : (kN r == 1) = false := by simpa using k2
    have a2 : (kN r == 2) = false := by simpa using k3
    rw [a0, a1, a2]
    exact ⟨by decide, by decide, by decide, .inr ⟨by decide, by decide, by decide, by decide⟩⟩

/-- is it a bad byte? -/
def badD (d : Nat × Nat) : Bool := d.1 == 65533 && d.2 == 1
def runN (ds : List (Nat × Nat)) : Nat → Nat → Nat
  | 0, n => n
  | f + 1, n => if n < ds.length ∧ n < 32 ∧ badD (ds.getD n (0, 0)) = false ∧ takesN (ds.getD 0 (0, 0)).1 (ds.getD (n - 1) (0, 0)).1 (ds.getD n (0, 0)).1 n = true then runN ds f (n + 1) else n
/-- the document's first -/
def firstN (ds : List (Nat × Nat)) : Nat :=
  if badD (ds.getD 0 (0, 0)) = true then 1 else if (ds.getD 0 (0, 0)).1 = 13 ∧ 1 < ds.length ∧ (ds.getD 1 (0, 0)).1 = 10 then 2 else if aloneN (ds.getD 0 (0, 0)).1 = true then 1 else runN ds 32 1
theorem roleD_get (ds : List (Nat × Nat)) (k : Nat) (h : k < ds.length) : roleD ds k = roleN (ds.getD k (0, 0)).1 (ds.getD k (0, 0)).2 := by
  unfold roleD
  rw [List.getD_eq_getElem?_getD, List.getElem?_eq_getElem h]
  rfl
theorem goes_takes (ds : List (Nat × Nat)) (n : Nat) (h0 : 0 < n) (hn : n < ds.length) : goesD ds n = (!badD (ds.getD n (0, 0)) && takesN (ds.getD 0 (0, 0)).1 (ds.getD (n - 1) (0, 0)).1 (ds.getD n (0, 0)).1 n) := by
  unfold goesD
  rw [roleD_get ds n hn, roleD_get ds 0 (by omega), roleD_get ds (n - 1) (by omega)]
  generalize ds.getD n (0, 0) = y
  generalize ds.getD 0 (0, 0) = x
  generalize ds.getD (n - 1) (0, 0) = z
  obtain ⟨x1, x2, _, _⟩ := role_words x.1 x.2
  obtain ⟨_, _, z3, _⟩ := role_words z.1 z.2
  obtain ⟨y1, y2, y3, y4⟩ := role_words y.1 y.2
  have hs := syl_same z.1 y.1 z.2 y.2
  rcases y4 with ⟨e1, e2⟩ | ⟨_, y5, _, _⟩
  · have hr : roleN y.1 y.2 = 1 := by unfold roleN; rw [if_pos ⟨e1, e2⟩]
    have hb : badD y = true := by unfold badD; rw [e1, e2]; rfl
    rw [hr, hb]
    simp [syl]
  · by_cases hb : badD y = true
    · have hr : roleN y.1 y.2 = 1 := by
        unfold badD at hb
        simp at hb
        unfold roleN
        rw [if_pos hb]
      rw [hr, hb]
      simp [syl]
    · have hb : badD y = false := by simpa using hb
      unfold takesN
      rw [hb, y5, x1, y1, z3, x2, y2, hs]
      simp only [Bool.not_false, Bool.true_and]
      generalize roleN x.1 x.2 = a
      generalize roleN y.1 y.2 = b
      generalize roleN z.1 z.2 = c
      rcases Bool.eq_false_or_eq_true (a == 64) with h | h <;> rcases Bool.eq_false_or_eq_true (b == 64) with h' | h' <;> rcases Bool.eq_false_or_eq_true (c == 16) with h'' | h'' <;> simp only [h, h', h''] <;> rfl
theorem runN_runD (ds : List (Nat × Nat)) : ∀ f n, 0 < n → runN ds f n = runD ds f n
  | 0, n, _ => rfl
  | f + 1, n, h0 => by
    unfold runN runD
    by_cases hn : n < ds.length
    · rw [goes_takes ds n h0 hn, runN_runD ds f (n + 1) (by omega)]
      simp only [Bool.and_eq_true, Bool.not_eq_true']
    · rw [if_neg (fun h => hn h.1), if_neg (fun h => hn h.1)]
theorem firstN_clD (ds : List (Nat × Nat)) (h : 0 < ds.length) : firstN ds = clD ds := by
  unfold firstN clD
  rw [if_neg (show ¬ ds.length = 0 by omega), roleD_get ds 0 h]
  have hw := role_words (ds.getD 0 (0, 0)).1 (ds.getD 0 (0, 0)).2
  have h1 : roleD ds 1 = if 1 < ds.length then roleN (ds.getD 1 (0, 0)).1 (ds.getD 1 (0, 0)).2 else 0 := by
    by_cases hl : 1 < ds.length
    · rw [if_pos hl, roleD_get ds 1 hl]
    · rw [if_neg hl, roleD_none (by omega)]
  rw [h1]
  have hw1 := role_words (ds.getD 1 (0, 0)).1 (ds.getD 1 (0, 0)).2
  have hbad1 : (ds.getD 1 (0, 0)).1 = 65533 ∧ (ds.getD 1 (0, 0)).2 = 1 → roleN (ds.getD 1 (0, 0)).1 (ds.getD 1 (0, 0)).2 = 1 := fun e => by unfold roleN; rw [if_pos e]
  have hbad0 : badD (ds.getD 0 (0, 0)) = true ↔ ((ds.getD 0 (0, 0)).1 = 65533 ∧ (ds.getD 0 (0, 0)).2 = 1) := by unfold badD; simp
  have hr0 : (ds.getD 0 (0, 0)).1 = 65533 ∧ (ds.getD 0 (0, 0)).2 = 1 → roleN (ds.getD 0 (0, 0)).1 (ds.getD 0 (0, 0)).2 = 1 := fun e => by unfold roleN; rw [if_pos e]
  rw [runN_runD ds 32 1 (by omega)]
  obtain ⟨_, _, _, hw⟩ := hw
  obtain ⟨_, _, _, hw1⟩ := hw1
  generalize ds.getD 0 (0, 0) = x at *
  generalize ds.getD 1 (0, 0) = y at *
  generalize roleN x.1 x.2 = a at *
  generalize roleN y.1 y.2 = b at *
  rcases hw with hb | ⟨w1, w2, w3, w4⟩
  · rw [if_pos (hbad0.2 hb), hr0 hb, if_pos (.inl rfl)]
  by_cases hb : badD x = true
  · rw [if_pos hb, hr0 (hbad0.1 hb), if_pos (.inl rfl)]
  rw [if_neg hb]
  have e13 : x.1 = 13 ↔ a = 2 := by
    constructor
    · intro e; rw [e] at w3; simpa using w3.symm
    · intro e; rw [e] at w3; simpa using w3
  by_cases h13 : a = 2
  · rw [if_neg (show ¬ (a = 1 ∨ a = 4) by omega), if_pos h13]
    have hal : aloneN x.1 = true := by rw [w1, h13]; rfl
    rw [if_pos hal]
    by_cases hl : 1 < ds.length
    · rw [if_pos hl]
      have e10 : y.1 = 10 ↔ b = 4 := by
        rcases hw1 with hb1 | ⟨_, _, _, v4⟩
        · rw [hbad1 hb1, hb1.1]; omega
        · constructor
          · intro e; rw [e] at v4; simpa using v4.symm
          · intro e; rw [e] at v4; simpa using v4
      by_cases h10 : b = 4
      · rw [if_pos ⟨e13.2 h13, hl, e10.2 h10⟩, if_pos h10]
      · rw [if_neg (fun h => h10 (e10.1 h.2.2)), if_neg h10]
    · rw [if_neg (fun h => hl h.2.1), if_neg hl, if_neg (by decide)]
  · rw [if_neg (fun h => h13 (e13.1 h.1)), w1]
    by_cases h14 : a = 1 ∨ a = 4
    · rw [if_pos h14, if_pos (by rcases h14 with e | e <;> simp [e])]
    · rw [if_neg h14, if_neg h13, if_neg (by simp; omega)]
end Go.Proofs.YthkapcnhfdpdbaaDoor

/- The document's small functions on numbers of characters: walked. -/
namespace Go.Proofs.YthkapcnhfdpdbaaDoor
open Go.RowKit Go.Lib

theorem retb {a b : Bool} (h : a = b) : Ending.returned (.bool a) = .returned (.bool b) := by rw [h]
theorem refWide_is (x : Int) (w : World) : Calls Tryd.prog 82 #[.int .i32 x, .bool false] w fun e w' => e = .returned (.int .i64 (wideOf (cls widthsL (char x)) false : Nat)) ∧ w' = w := by
  have h := refColumns_is x w
  generalize cls widthsL (char x) = c at h
  have H := Lib.hid h
  clear h
  by_cases h3 : c = 3
  · subst h3
    go_enter Tryd.func82, Tryd.ntmps82
    go_wp2_with fail
    refine H.out.mono ?_
    rintro _ w1 ⟨rfl, rfl⟩
    go_wp2_with fail
    go_ret
    exact ⟨rfl, rfl⟩
  · have hne : ((c : Int) == 3) = false := by simp; omega
    have hv : wideOf c false = c := by
      unfold wideOf
      have : Nat.beq c 3 = false := by
        cases e : Nat.beq c 3 with
        | false => rfl
        | true => exact absurd (Nat.eq_of_beq_eq_true e) h3
      rw [this]
      rfl
    rw [hv]
    clear h3
    go_enter Tryd.func82, Tryd.ntmps82
    go_wp2_with fail
    refine H.out.mono ?_
    rintro _ w1 ⟨rfl, rfl⟩
    go_wp2_with fail
    go_ret
    exact ⟨rfl, rfl⟩
theorem rpic_any (r : Nat) (w : World) : Calls Tryd.prog 73 #[.int .i32 (r : Int)] w fun e w' => e = .returned (.bool (picN r)) ∧ w' = w := by
  have h1 := refKind_is (r : Int) w
  have h2 := refWide_is (r : Int) w
  unfold picN
  have hk : cls kindsL (char r) = kN r := rfl
  rw [hk] at h1
  generalize kN r = k at *
  generalize wideOf (cls widthsL (char r)) false = v at *
  have H1 := Lib.hid h1
  have H2 := Lib.hid h2
  clear h1 h2 hk
  by_cases h7 : k = 7
  · subst h7
    go_enter Tryd.func73, Tryd.ntmps73
    go_wp2_with fail
    refine H1.out.mono ?_
    rintro _ w1 ⟨rfl, rfl⟩
    go_wp2_with fail
    refine H2.out.mono ?_
    rintro _ w1 ⟨rfl, rfl⟩
    go_wp2_with fail
    go_ret
    refine ⟨retb ?_, rfl⟩
    by_cases h2 : v = 2
    · subst h2; rfl
    · have a : ((v : Int) == 2) = false := by simp; omega
      have b : (v == 2) = false := by simpa using h2
      first
        | (rw [a, b]; rfl)
        | simp [h2]
  · have hne : ((k : Int) == 7) = false := by simp; omega
    have hb : (k == 7) = false := by simpa using h7
    rw [hb]
    clear h7
    go_enter Tryd.func73, Tryd.ntmps73
    go_wp2_with fail
    refine H1.out.mono ?_
    rintro _ w1 ⟨rfl, rfl⟩
    go_wp2_with fail
    go_ret
    exact ⟨rfl, rfl⟩
theorem rreg_any (r : Nat) (w : World) : Calls Tryd.prog 72 #[.int .i32 (r : Int)] w fun e w' => e = .returned (.bool (regN r)) ∧ w' = w := by
  unfold regN
  by_cases h1 : 127462 ≤ r
  · by_cases h2 : r ≤ 127487
    · have g1 : (127462 : Int) ≤ (r : Int) := by omega
      have g2 : (r : Int) ≤ 127487 := by omega
      rw [decide_eq_true h1, decide_eq_true h2]
      go_enter Tryd.func72, Tryd.ntmps72
      go_wp2
      go_ret
      exact ⟨rfl, rfl⟩
    · have g1 : (127462 : Int) ≤ (r : Int) := by omega
      have g2 : ¬ ((r : Int) ≤ 127487) := by omega
      rw [decide_eq_true h1, decide_eq_false h2]
      go_enter Tryd.func72, Tryd.ntmps72
      go_wp2
      go_ret
      exact ⟨rfl, rfl⟩
  · have g1 : ¬ ((127462 : Int) ≤ (r : Int)) := by omega
    rw [decide_eq_false h1]
    go_enter Tryd.func72, Tryd.ntmps72
    go_wp2
    go_ret
    exact ⟨rfl, rfl⟩
theorem rjoin_any (r : Nat) (w : World) : Calls Tryd.prog 71 #[.int .i32 (r : Int)] w fun e w' => e = .returned (.bool (joinN r)) ∧ w' = w := by
  unfold joinN
  by_cases h1 : r = 8204
  · subst h1
    go_enter Tryd.func71, Tryd.ntmps71
    go_wp2
    go_ret
    exact ⟨rfl, rfl⟩
  · have a1 : ((r : Int) == 8204) = false := by simp; omega
    have b1 : (r == 8204) = false := by simpa using h1
    rw [b1]
    by_cases h2 : r = 8205
    · subst h2
      go_enter Tryd.func71, Tryd.ntmps71
      go_wp2
      go_ret
      exact ⟨rfl, rfl⟩
    · have a2 : ((r : Int) == 8205) = false := by simp; omega
      have b2 : (r == 8205) = false := by simpa using h2
      rw [b2]
      clear h1 h2 b1 b2
      go_enter Tryd.func71, Tryd.ntmps71
      go_wp2
      go_ret
      exact ⟨rfl, rfl⟩
theorem part_0 (r : Nat) (w : World) (h : 0 ≤ r ∧ r ≤ 4351) : Calls Tryd.prog 83 #[.int .i32 (r : Int)] w fun e w' => e = .returned (.int .i64 0) ∧ w' = w := by
  have g4352 : ¬ ((4352 : Int) ≤ (r : Int)) := by omega
  have g4448 : ¬ ((4448 : Int) ≤ (r : Int)) := by omega
  have g4520 : ¬ ((4520 : Int) ≤ (r : Int)) := by omega
  have g44032 : ¬ ((44032 : Int) ≤ (r : Int)) := by omega
  have l4447 : (r : Int) ≤ 4447 := by omega
  have l4519 : (r : Int) ≤ 4519 := by omega
  have l4607 : (r : Int) ≤ 4607 := by omega
  have l55203 : (r : Int) ≤ 55203 := by omega
  clear h
  go_enter Tryd.func83, Tryd.ntmps83
  go_wp2
  go_ret
  exact ⟨rfl, rfl⟩
theorem part_4352 (r : Nat) (w : World) (h : 4352 ≤ r ∧ r ≤ 4447) : Calls Tryd.prog 83 #[.int .i32 (r : Int)] w fun e w' => e = .returned (.int .i64 1) ∧ w' = w := by
  have g4352 : (4352 : Int) ≤ (r : Int) := by omega
  have g4448 : ¬ ((4448 : Int) ≤ (r : Int)) := by omega
  have g4520 : ¬ ((4520 : Int) ≤ (r : Int)) := by omega
  have g44032 : ¬ ((44032 : Int) ≤ (r : Int)) := by omega
  have l4447 : (r : Int) ≤ 4447 := by omega
  have l4519 : (r : Int) ≤ 4519 := by omega
  have l4607 : (r : Int) ≤ 4607 := by omega
  have l55203 : (r : Int) ≤ 55203 := by omega
  clear h
  go_enter Tryd.func83, Tryd.ntmps83
  go_wp2
  go_ret
  exact ⟨rfl, rfl⟩
theorem part_4448 (r : Nat) (w : World) (h : 4448 ≤ r ∧ r ≤ 4519) : Calls Tryd.prog 83 #[.int .i32 (r : Int)] w fun e w' => e = .returned (.int .i64 2) ∧ w' = w := by
  have g4352 : (4352 : Int) ≤ (r : Int) := by omega
  have g4448 : (4448 : Int) ≤ (r : Int) := by omega
  have g4520 : ¬ ((4520 : Int) ≤ (r : Int)) := by omega
  have g44032 : ¬ ((44032 : Int) ≤ (r : Int)) := by omega
  have l4447 : ¬ ((r : Int) ≤ 4447) := by omega
  have l4519 : (r : Int) ≤ 4519 := by omega
  have l4607 : (r : Int) ≤ 4607 := by omega
  have l55203 : (r : Int) ≤ 55203 := by omega
  clear h
  go_enter Tryd.func83, Tryd.ntmps83
  go_wp2
  go_ret
  exact ⟨rfl, rfl⟩
theorem part_4520 (r : Nat) (w : World) (h : 4520 ≤ r ∧ r ≤ 4607) : Calls Tryd.prog 83 #[.int .i32 (r : Int)] w fun e w' => e = .returned (.int .i64 3) ∧ w' = w := by
  have g4352 : (4352 : Int) ≤ (r : Int) := by omega
  have g4448 : (4448 : Int) ≤ (r : Int) := by omega
  have g4520 : (4520 : Int) ≤ (r : Int) := by omega
  have g44032 : ¬ ((44032 : Int) ≤ (r : Int)) := by omega
  have l4447 : ¬ ((r : Int) ≤ 4447) := by omega
  have l4519 : ¬ ((r : Int) ≤ 4519) := by omega
  have l4607 : (r : Int) ≤ 4607 := by omega
  have l55203 : (r : Int) ≤ 55203 := by omega
  clear h
  go_enter Tryd.func83, Tryd.ntmps83
  go_wp2
  go_ret
  exact ⟨rfl, rfl⟩
theorem part_4608 (r : Nat) (w : World) (h : 4608 ≤ r ∧ r ≤ 44031) : Calls Tryd.prog 83 #[.int .i32 (r : Int)] w fun e w' => e = .returned (.int .i64 0) ∧ w' = w := by
  have g4352 : (4352 : Int) ≤ (r : Int) := by omega
  have g4448 : (4448 : Int) ≤ (r : Int) := by omega
  have g4520 : (4520 : Int) ≤ (r : Int) := by omega
  have g44032 : ¬ ((44032 : Int) ≤ (r : Int)) := by omega
  have l4447 : ¬ ((r : Int) ≤ 4447) := by omega
  have l4519 : ¬ ((r : Int) ≤ 4519) := by omega
  have l4607 : ¬ ((r : Int) ≤ 4607) := by omega
  have l55203 : (r : Int) ≤ 55203 := by omega
  clear h
  go_enter Tryd.func83, Tryd.ntmps83
  go_wp2
  go_ret
  exact ⟨rfl, rfl⟩
theorem part_55204 (r : Nat) (w : World) (h : 55204 ≤ r) : Calls Tryd.prog 83 #[.int .i32 (r : Int)] w fun e w' => e = .returned (.int .i64 0) ∧ w' = w := by
  have g4352 : (4352 : Int) ≤ (r : Int) := by omega
  have g4448 : (4448 : Int) ≤ (r : Int) := by omega
  have g4520 : (4520 : Int) ≤ (r : Int) := by omega
  have g44032 : (44032 : Int) ≤ (r : Int) := by omega
  have l4447 : ¬ ((r : Int) ≤ 4447) := by omega
  have l4519 : ¬ ((r : Int) ≤ 4519) := by omega
  have l4607 : ¬ ((r : Int) ≤ 4607) := by omega
  have l55203 : ¬ ((r : Int) ≤ 55203) := by omega
  clear h
  go_enter Tryd.func83, Tryd.ntmps83
  go_wp2
  go_ret
  exact ⟨rfl, rfl⟩
theorem part_syl (r : Nat) (w : World) (h : 44032 ≤ r ∧ r ≤ 55203) : Calls Tryd.prog 83 #[.int .i32 (r : Int)] w fun e w' => e = .returned (.int .i64 ((if (r - 44032) % 28 = 0 then 4 else 5 : Nat) : Int)) ∧ w' = w := by
  have g4352 : (4352 : Int) ≤ (r : Int) := by omega
  have g4448 : (4448 : Int) ≤ (r : Int) := by omega
  have g4520 : (4520 : Int) ≤ (r : Int) := by omega
  have g44032 : (44032 : Int) ≤ (r : Int) := by omega
  have l4447 : ¬ ((r : Int) ≤ 4447) := by omega
  have l4519 : ¬ ((r : Int) ≤ 4519) := by omega
  have l4607 : ¬ ((r : Int) ≤ 4607) := by omega
  have l55203 : (r : Int) ≤ 55203 := by omega
  obtain ⟨q, hq⟩ : ∃ q, r - 44032 = q := ⟨_, rfl⟩
  have hw1 : IntKind.i32.wrap ((r : Int) - 44032) = (q : Int) := by rw [IntWalk.i32_in _ (by omega)]; omega
  have hw3 : (q : Int).tmod 28 = ((q % 28 : Nat) : Int) := by exact Int.ofNat_tmod q 28
  have hw2 : IntKind.i32.wrap ((q : Int).tmod 28) = ((q % 28 : Nat) : Int) := by
    rw [hw3]
    exact IntWalk.i32_in _ (by omega)
  obtain ⟨u, hu⟩ : ∃ u, q % 28 = u := ⟨_, rfl⟩
  rw [hq]
  rw [hu] at hw2 hw3 ⊢
  clear h hq hu
  by_cases h0 : u = 0
  · subst h0
    rw [if_pos rfl]
    go_enter Tryd.func83, Tryd.ntmps83
    go_wp2
    go_ret
    exact ⟨rfl, rfl⟩
  · have hne : ((u : Int) == 0) = false := by simp; omega
    rw [if_neg h0]
    go_enter Tryd.func83, Tryd.ntmps83
    go_wp2
    go_ret
    exact ⟨rfl, rfl⟩
theorem rpart_any (r : Nat) (w : World) : Calls Tryd.prog 83 #[.int .i32 (r : Int)] w fun e w' => e = .returned (.int .i64 (partN r : Nat)) ∧ w' = w := by
  unfold partN
  by_cases h1 : r ≤ 4351
  · rw [if_neg (by omega), if_neg (by omega), if_neg (by omega), if_neg (by omega)]; exact part_0 r w ⟨Nat.zero_le _, h1⟩
  by_cases h2 : r ≤ 4447
  · rw [if_pos (by omega)]; exact part_4352 r w ⟨by omega, h2⟩
  rw [if_neg (by omega)]
  by_cases h3 : r ≤ 4519
  · rw [if_pos (by omega)]; exact part_4448 r w ⟨by omega, h3⟩
  rw [if_neg (by omega)]
  by_cases h4 : r ≤ 4607
  · rw [if_pos (by omega)]; exact part_4520 r w ⟨by omega, h4⟩
  rw [if_neg (by omega)]
  by_cases h5 : r ≤ 44031
  · rw [if_neg (by omega)]; exact part_4608 r w ⟨by omega, h5⟩
  by_cases h6 : r ≤ 55203
  · rw [if_pos (by omega)]; exact part_syl r w ⟨by omega, h6⟩
  rw [if_neg (by omega)]; exact part_55204 r w (by omega)
theorem partN_le (r : Nat) : partN r ≤ 5 := by
  have := part_role r 0
  omega
theorem rsyl_any (z y : Nat) (w : World) : Calls Tryd.prog 74 #[.int .i32 (z : Int), .int .i32 (y : Int)] w fun e w' => e = .returned (.bool (sylN (partN z) (partN y))) ∧ w' = w := by
  have h1 := rpart_any z w
  have h2 := rpart_any y w
  have l1 := partN_le z
  have l2 := partN_le y
  generalize partN z = a at *
  generalize partN y = b at *
  have H1 := Lib.hid h1
  have H2 := Lib.hid h2
  clear h1 h2
  have ha : a = 0 ∨ a = 1 ∨ a = 2 ∨ a = 3 ∨ a = 4 ∨ a = 5 := by omega
  have hb : b = 0 ∨ b = 1 ∨ b = 2 ∨ b = 3 ∨ b = 4 ∨ b = 5 := by omega
  clear l1 l2
  rcases ha with rfl | rfl | rfl | rfl | rfl | rfl
  all_goals
    go_enter Tryd.func74, Tryd.ntmps74
    go_wp2_with fail
    refine H1.out.mono ?_
    rintro _ w1 ⟨rfl, rfl⟩
    go_wp2_with fail
    refine H2.out.mono ?_
    rintro _ w1 ⟨rfl, rfl⟩
    rcases hb with rfl | rfl | rfl | rfl | rfl | rfl <;> (go_wp2_with fail; go_ret; exact ⟨rfl, rfl⟩)
end Go.Proofs.YthkapcnhfdpdbaaDoor

/- The document's takes and alone: walked. -/
namespace Go.Proofs.YthkapcnhfdpdbaaDoor
open Go.RowKit Go.Lib

set_option maxHeartbeats 2000000 in
theorem rtakes_any (x z y n : Nat) (w : World) : Calls Tryd.prog 42 #[.int .i32 (x : Int), .int .i32 (z : Int), .int .i32 (y : Int), .int .i64 (n : Int)] w fun e w' => e = .returned (.bool (takesN x z y n)) ∧ w' = w := by
  have h1 := refKind_is (y : Int) w
  rw [show cls kindsL (char (y : Int)) = kN y from rfl] at h1
  have h2 := rjoin_any y w
  have h3 := rreg_any x w
  have h4 := rreg_any y w
  have h5 := rpic_any x w
  have h6 := rpic_any y w
  have h7 := rsyl_any z y w
  unfold takesN
  generalize kN y = k at *
  generalize joinN y = j at *
  generalize regN x = rx at *
  generalize regN y = ry at *
  generalize picN x = px at *
  generalize picN y = py at *
  generalize sylN (partN z) (partN y) = sv at *
  have Hk := Lib.hid h1
  have Hj := Lib.hid h2
  have Hrx := Lib.hid h3
  have Hry := Lib.hid h4
  have Hpx := Lib.hid h5
  have Hpy := Lib.hid h6
  have Hs := Lib.hid h7
  clear h1 h2 h3 h4 h5 h6 h7
  by_cases hk : k = 2
  · subst hk
    go_enter Tryd.func42, Tryd.ntmps42
    go_wp2_with fail
    refine Hk.out.mono ?_
    rintro _ w1 ⟨rfl, rfl⟩
    go_wp2_with fail
    go_ret
    exact ⟨rfl, rfl⟩
  have ak : ((k : Int) == 2) = false := by simp; omega
  have bk : (k == 2) = false := by simpa using hk
  rw [bk]
  clear hk bk
  by_cases hn : n = 1
  · subst hn
    by_cases hz : z = 8205
    · subst hz
      go_enter Tryd.func42, Tryd.ntmps42
      go_wp2_with fail
      refine Hk.out.mono ?_
      rintro _ w1 ⟨rfl, rfl⟩
      go_wp2_with fail
      refine Hj.out.mono ?_
      rintro _ w1 ⟨rfl, rfl⟩
      cases j with
      | true =>
        go_wp2_with fail
        go_ret
        exact ⟨rfl, rfl⟩
      | false =>
        go_wp2_with fail
        refine Hrx.out.mono ?_
        rintro _ w1 ⟨rfl, rfl⟩
        cases rx with
        | false =>
          go_wp2_with fail
          refine Hpx.out.mono ?_
          rintro _ w1 ⟨rfl, rfl⟩
          cases px with
          | false =>
            go_wp2_with fail
            refine Hs.out.mono ?_
            rintro _ w1 ⟨rfl, rfl⟩
            go_wp2_with fail
            go_ret
            exact ⟨rfl, rfl⟩
          | true =>
            go_wp2_with fail
            refine Hpy.out.mono ?_
            rintro _ w1 ⟨rfl, rfl⟩
            cases py with
            | true =>
              go_wp2_with fail
              go_ret
              exact ⟨rfl, rfl⟩
            | false =>
              go_wp2_with fail
              refine Hs.out.mono ?_
              rintro _ w1 ⟨rfl, rfl⟩
              go_wp2_with fail
              go_ret
              exact ⟨rfl, rfl⟩
        | true =>
          go_wp2_with fail
          refine Hry.out.mono ?_
          rintro _ w1 ⟨rfl, rfl⟩
          cases ry with
          | true =>
            go_wp2_with fail
            go_ret
            exact ⟨rfl, rfl⟩
          | false =>
            go_wp2_with fail
            refine Hpx.out.mono ?_
            rintro _ w1 ⟨rfl, rfl⟩
            cases px with
            | false =>
              go_wp2_with fail
              refine Hs.out.mono ?_
              rintro _ w1 ⟨rfl, rfl⟩
              go_wp2_with fail
              go_ret
              exact ⟨rfl, rfl⟩
            | true =>
              go_wp2_with fail
              refine Hpy.out.mono ?_
              rintro _ w1 ⟨rfl, rfl⟩
              cases py with
              | true =>
                go_wp2_with fail
                go_ret
                exact ⟨rfl, rfl⟩
              | false =>
                go_wp2_with fail
                refine Hs.out.mono ?_
                rintro _ w1 ⟨rfl, rfl⟩
                go_wp2_with fail
                go_ret
                exact ⟨rfl, rfl⟩
    · have az : ((z : Int) == 8205) = false := by simp; omega
      have bz : (z == 8205) = false := by simpa using hz
      rw [bz]
      clear hz bz
      go_enter Tryd.func42, Tryd.ntmps42
      go_wp2_with fail
      refine Hk.out.mono ?_
      rintro _ w1 ⟨rfl, rfl⟩
      go_wp2_with fail
      refine Hj.out.mono ?_
      rintro _ w1 ⟨rfl, rfl⟩
      cases j with
      | true =>
        go_wp2_with fail
        go_ret
        exact ⟨rfl, rfl⟩
      | false =>
        go_wp2_with fail
        refine Hrx.out.mono ?_
        rintro _ w1 ⟨rfl, rfl⟩
        cases rx with
        | false =>
          go_wp2_with fail
          refine Hs.out.mono ?_
          rintro _ w1 ⟨rfl, rfl⟩
          go_wp2_with fail
          go_ret
          exact ⟨rfl, rfl⟩
        | true =>
          go_wp2_with fail
          refine Hry.out.mono ?_
          rintro _ w1 ⟨rfl, rfl⟩
          cases ry with
          | true =>
            go_wp2_with fail
            go_ret
            exact ⟨rfl, rfl⟩
          | false =>
            go_wp2_with fail
            refine Hs.out.mono ?_
            rintro _ w1 ⟨rfl, rfl⟩
            go_wp2_with fail
            go_ret
            exact ⟨rfl, rfl⟩
  · have an : ((n : Int) == 1) = false := by simp; omega
    have bn : (n == 1) = false := by simpa using hn
    rw [bn]
    clear hn bn
    by_cases hz : z = 8205
    · subst hz
      go_enter Tryd.func42, Tryd.ntmps42
      go_wp2_with fail
      refine Hk.out.mono ?_
      rintro _ w1 ⟨rfl, rfl⟩
      go_wp2_with fail
      refine Hj.out.mono ?_
      rintro _ w1 ⟨rfl, rfl⟩
      cases j with
      | true =>
        go_wp2_with fail
        go_ret
        exact ⟨rfl, rfl⟩
      | false =>
        go_wp2_with fail
        refine Hpx.out.mono ?_
        rintro _ w1 ⟨rfl, rfl⟩
        cases px with
        | false =>
          go_wp2_with fail
          refine Hs.out.mono ?_
          rintro _ w1 ⟨rfl, rfl⟩
          go_wp2_with fail
          go_ret
          exact ⟨rfl, rfl⟩
        | true =>
          go_wp2_with fail
          refine Hpy.out.mono ?_
          rintro _ w1 ⟨rfl, rfl⟩
          cases py with
          | true =>
            go_wp2_with fail
            go_ret
            exact ⟨rfl, rfl⟩
          | false =>
            go_wp2_with fail
            refine Hs.out.mono ?_
            rintro _ w1 ⟨rfl, rfl⟩
            go_wp2_with fail
            go_ret
            exact ⟨rfl, rfl⟩
    · have az : ((z : Int) == 8205) = false := by simp; omega
      have bz : (z == 8205) = false := by simpa using hz
      rw [bz]
      clear hz bz
      go_enter Tryd.func42, Tryd.ntmps42
      go_wp2_with fail
      refine Hk.out.mono ?_
      rintro _ w1 ⟨rfl, rfl⟩
      go_wp2_with fail
      refine Hj.out.mono ?_
      rintro _ w1 ⟨rfl, rfl⟩
      cases j with
      | true =>
        go_wp2_with fail
        go_ret
        exact ⟨rfl, rfl⟩
      | false =>
        go_wp2_with fail
        refine Hs.out.mono ?_
        rintro _ w1 ⟨rfl, rfl⟩
        go_wp2_with fail
        go_ret
        exact ⟨rfl, rfl⟩

set_option maxHeartbeats 2000000 in
theorem ralone_any (r : Nat) (w : World) : Calls Tryd.prog 41 #[.int .i32 (r : Int)] w fun e w' => e = .returned (.bool (aloneN r)) ∧ w' = w := by
  have h1 := refKind_is (r : Int) w
  rw [show cls kindsL (char (r : Int)) = kN r from rfl] at h1
  have h2 := rjoin_any r w
  unfold aloneN
  generalize kN r = k at *
  generalize joinN r = j at *
  have Hk := Lib.hid h1
  have Hj := Lib.hid h2
  clear h1 h2
  by_cases h0 : k = 0
  · subst h0
    go_enter Tryd.func41, Tryd.ntmps41
    go_wp2_with fail
    refine Hk.out.mono ?_
    rintro _ w1 ⟨rfl, rfl⟩
    go_wp2_with fail
    go_ret
    exact ⟨rfl, rfl⟩
  have a0 : ((k : Int) == 0) = false := by simp; omega
  have b0 : (k == 0) = false := by simpa using h0
  rw [b0]
  by_cases h3 : r = 8232
  · subst h3
    go_enter Tryd.func41, Tryd.ntmps41
    go_wp2_with fail
    refine Hk.out.mono ?_
    rintro _ w1 ⟨rfl, rfl⟩
    go_wp2_with fail
    go_ret
    exact ⟨rfl, rfl⟩
  have a3 : ((r : Int) == 8232) = false := by simp; omega
  have b3 : (r == 8232) = false := by simpa using h3
  rw [b3]
  by_cases h4 : r = 8233
  · subst h4
    go_enter Tryd.func41, Tryd.ntmps41
    go_wp2_with fail
    refine Hk.out.mono ?_
    rintro _ w1 ⟨rfl, rfl⟩
    go_wp2_with fail
    go_ret
    exact ⟨rfl, rfl⟩
  have a4 : ((r : Int) == 8233) = false := by simp; omega
  have b4 : (r == 8233) = false := by simpa using h4
  rw [b4]
  by_cases h5 : k = 1
  · subst h5
    clear h3 h4 b3 b4
    go_enter Tryd.func41, Tryd.ntmps41
    go_wp2_with fail
    refine Hk.out.mono ?_
    rintro _ w1 ⟨rfl, rfl⟩
    go_wp2_with fail
    refine Hj.out.mono ?_
    rintro _ w1 ⟨rfl, rfl⟩
    cases j <;> (go_wp2_with fail; go_ret; exact ⟨rfl, rfl⟩)
  have a5 : ((k : Int) == 1) = false := by simp; omega
  have b5 : (k == 1) = false := by simpa using h5
  rw [b5]
  clear h0 h3 h4 h5 b0 b3 b4 b5
  go_enter Tryd.func41, Tryd.ntmps41
  go_wp2_with fail
  refine Hk.out.mono ?_
  rintro _ w1 ⟨rfl, rfl⟩
  go_wp2_with fail
  go_ret
  exact ⟨rfl, rfl⟩
end Go.Proofs.YthkapcnhfdpdbaaDoor

/- The document's signs of a text: walked. -/
namespace Go.Proofs.YthkapcnhfdpdbaaDoor
open Go.RowKit Go.Lib

abbrev sg (p : Nat) (d : Nat × Nat) : List Value := [.int .i32 (d.1 : Int), .int .i64 (p : Int), .bool (badD d)]
def sgs : Nat → List (Nat × Nat) → List Value
  | _, [] => []
  | p, d :: xs => sg p d ++ sgs (p + d.2) xs
theorem sgs_snoc (xs : List (Nat × Nat)) (d : Nat × Nat) : ∀ p, sgs p (xs ++ [d]) = sgs p xs ++ sg (p + total xs) d := by
  induction xs with
  | nil => intro p; simp [sgs, total]
  | cons a t ih => intro p; simp [sgs, total, ih, Nat.add_assoc]
theorem sgs_len (xs : List (Nat × Nat)) : ∀ p, (sgs p xs).length = xs.length * 3 := by
  induction xs with
  | nil => intro p; rfl
  | cons a t ih => intro p; simp [sgs, ih]; omega
theorem sgs_at (xs : List (Nat × Nat)) : ∀ (p k : Nat) (h : k < xs.length), (sgs p xs)[k * 3]? = some (.int .i32 (xs[k].1 : Int)) ∧ (sgs p xs)[k * 3 + 1]? = some (.int .i64 ((p + total (xs.take k) : Nat) : Int)) ∧ (sgs p xs)[k * 3 + 2]? = some (.bool (badD xs[k])) := by
  induction xs with
  | nil => intro p k h; simp at h
  | cons a t ih =>
    intro p k h
    cases k with
    | zero => simp [sgs, total]
    | succ k =>
      obtain ⟨h1, h2, h3⟩ := ih (p + a.2) k (by simpa using h)
      have e : ∀ j, (sgs p (a :: t))[(k + 1) * 3 + j]? = (sgs (p + a.2) t)[k * 3 + j]? := by
        intro j
        show (sg p a ++ sgs (p + a.2) t)[(k + 1) * 3 + j]? = _
        rw [List.getElem?_append_right (by simp; omega)]
        congr 1
        simp
        omega
      have e0 := e 0
      simp only [Nat.add_zero] at e0
      refine ⟨?_, ?_, ?_⟩
      · rw [e0, h1]; simp
      · rw [e 1, h2]; simp [total, Nat.add_assoc]
      · rw [e 2, h3]; simp
theorem sgs_append (xs ys : List (Nat × Nat)) : ∀ p, sgs p (xs ++ ys) = sgs p xs ++ sgs (p + total xs) ys := by
  induction xs with
  | nil => intro p; simp [sgs, total]
  | cons a t ih => intro p; simp [sgs, total, ih, Nat.add_assoc]
theorem sign_info : (Tryd.prog.info? 59).map (fun i => (i.zero, i.size, i.bytes)) = some (some (.agg #[.int .i32 0, .int .i64 0, .bool false]), 3, 24) := by kernel_rfl

set_option maxRecDepth 100000 in
set_option maxHeartbeats 2000000 in
theorem signs_any (s : ByteArray) (w : World) (hs : s.size ≤ 1073741824) : Calls Tryd.prog 27 #[.string s] w fun e w' =>
    ∃ A c, e = .returned (.slice A (chars s) c) ∧ w'.ownsRow w.heap.size 59 3 (.slice A (chars s) c) (chars s) (sgs 0 (segs s.data.toList)) ∧ Below w.heap.size w w' := by
  obtain ⟨i0, hi, hz0, hz1, hz2⟩ := info_parts sign_info
  have hl := size_list s
  have Hl := Lib.hid hl
  clear hl
  obtain ⟨B, hB⟩ : ∃ B, w.heap.size = B := ⟨_, rfl⟩
  have HB := Lib.hid hB
  have hBle : B ≤ w.heap.size := by omega
  rw [hB]
  clear hB
  go_enter Tryd.func27, Tryd.ntmps27
  go_wp2
  go_loopw [3, 4] (fun v p wr => ∃ (at_ : Nat) (P : List (Nat × Nat)), p = .int .i64 at_ ∧ wr.ownsRow B 59 3 v P.length (sgs 0 P) ∧ Below B w wr ∧ Hid (total P = at_) ∧ Hid (P ++ segs (s.data.toList.drop at_) = segs s.data.toList) ∧ P.length ≤ at_ ∧ at_ ≤ s.size) (fun _ p _ => s.size - (RowKit.intOf p).toNat)
  case atStart => exact ⟨0, [], rfl, World.ownsRow_nil _ _ _ _, Below.refl _ _, rfl, by simp [Hid], Nat.le_refl _, Nat.zero_le _⟩
  case round =>
    obtain ⟨at_, P, rfl, hown, hbw, hsum, hseg, hP, hat⟩ := hrel
    by_cases hlt : at_ < s.size
    · have hd1 := segs_drop s.data.toList at_ (by rw [Hl.out]; exact hlt)
      have hd2 := next_le s.data.toList at_ (by rw [Hl.out]; exact hlt)
      have hd3 := dec_pos (s.data.toList.drop at_)
      have hnx : nxt (s.data.toList.drop at_) = dec (s.data.toList.drop at_) := by unfold nxt; rw [if_neg (drop_ne _ _ (by rw [Hl.out]; exact hlt))]
      rw [Hl.out] at hd2
      have hc := refNext_any (s.extract at_ s.size) wr (by unfold maxLen; simp; omega)
      rw [drop_list, hnx] at hc
      obtain ⟨d, hdd⟩ : ∃ d, dec (s.data.toList.drop at_) = d := ⟨_, rfl⟩
      rw [hdd] at hd1 hd2 hd3 hc
      have Hd1 := Lib.hid hd1
      have Hc := Lib.hid hc
      clear hd1 hc hdd hnx
      have hwB : B ≤ wr.heap.size := by have := hbw.size; omega
      have hcase : (((d.1 : Int) == 65533) = true ∧ ((d.2 : Int) == 1) = true ∧ badD d = true) ∨ (((d.1 : Int) == 65533) = true ∧ ((d.2 : Int) == 1) = false ∧ badD d = false) ∨ (((d.1 : Int) == 65533) = false ∧ badD d = false) := by
        unfold badD
        by_cases e1 : d.1 = 65533
        · by_cases e2 : d.2 = 1
          · left; simp [e1, e2]
          · right; left
            refine ⟨by simp [e1], by rw [beq_eq_false_iff_ne]; omega, by simp [e2]⟩
        · right; right
          refine ⟨by rw [beq_eq_false_iff_ne]; omega, by simp [e1]⟩
      rcases hcase with ⟨c1, c2, c3⟩ | ⟨c1, c2, c3⟩ | ⟨c1, c3⟩
      · have C3 := Lib.hid c3
        clear c3
        go_wp2_with (first
          | (go_at_call 29; refine Hc.out.mono ?_; rintro e w1 ⟨rfl, hb1⟩; have hown1 := own_below hown hb1; have hw1 : B ≤ w1.heap.size := Nat.le_trans hwB hb1.size)
          | (at_builtin; refine wpList_append_own _ rfl _ _ 55 rfl B 59 i0 _ 3 24 Tryd.underlying55 hi hz0 hz1 hz2 rfl (by decide) _ _ _ rfl (hown1.alloc _) ⟨w1.heap.size, 0, none⟩ 1 1 [.int .i32 d.1, .int .i64 at_, .bool true] rfl rfl ?c1 ?c2 ?c3 ?c4 ?c5 ?_))
        case c1 => exact new_cells w1 [.int .i32 d.1, .int .i64 at_, .bool true] 59
        case c2 => simp [Value.oneCell']
        case c3 => unfold maxLen; omega
        case c4 => omega
        case c5 => simp; omega
        intro v' w2 hown2 hg2 _
        go_wp2
        go_roundw
        case rel =>
          refine ⟨at_ + d.2, P ++ [d], by go_num, ?_, ?_, ?_, ?_, by simp; omega, hd2⟩
          · rw [sgs_snoc, Nat.zero_add, hsum.out]
            unfold sg
            rw [C3.out]
            simpa using hown2
          · exact ((hbw.trans (hb1.mono hwB)).alloc hw1 _).grown hg2 (by simp; omega) (fun k hk => (hown.lt k hk).1)
          · unfold Hid
            rw [total_append, hsum.out]
            simp [total]
          · unfold Hid
            rw [← hseg.out, Hd1.out]
            simp
        case measure => simp only [RowKit.intOf]; omega
      · have C3 := Lib.hid c3
        clear c3
        go_wp2_with (first
          | (go_at_call 29; refine Hc.out.mono ?_; rintro e w1 ⟨rfl, hb1⟩; have hown1 := own_below hown hb1; have hw1 : B ≤ w1.heap.size := Nat.le_trans hwB hb1.size)
          | (at_builtin; refine wpList_append_own _ rfl _ _ 55 rfl B 59 i0 _ 3 24 Tryd.underlying55 hi hz0 hz1 hz2 rfl (by decide) _ _ _ rfl (hown1.alloc _) ⟨w1.heap.size, 0, none⟩ 1 1 [.int .i32 d.1, .int .i64 at_, .bool false] rfl rfl ?c1 ?c2 ?c3 ?c4 ?c5 ?_))
        case c1 => exact new_cells w1 [.int .i32 d.1, .int .i64 at_, .bool false] 59
        case c2 => simp [Value.oneCell']
        case c3 => unfold maxLen; omega
        case c4 => omega
        case c5 => simp; omega
        intro v' w2 hown2 hg2 _
        go_wp2
        go_roundw
        case rel =>
          refine ⟨at_ + d.2, P ++ [d], by go_num, ?_, ?_, ?_, ?_, by simp; omega, hd2⟩
          · rw [sgs_snoc, Nat.zero_add, hsum.out]
            unfold sg
            rw [C3.out]
            simpa using hown2
          · exact ((hbw.trans (hb1.mono hwB)).alloc hw1 _).grown hg2 (by simp; omega) (fun k hk => (hown.lt k hk).1)
          · unfold Hid
            rw [total_append, hsum.out]
            simp [total]
          · unfold Hid
            rw [← hseg.out, Hd1.out]
            simp
        case measure => simp only [RowKit.intOf]; omega
      · have C3 := Lib.hid c3
        clear c3
        go_wp2_with (first
          | (go_at_call 29; refine Hc.out.mono ?_; rintro e w1 ⟨rfl, hb1⟩; have hown1 := own_below hown hb1; have hw1 : B ≤ w1.heap.size := Nat.le_trans hwB hb1.size)
          | (at_builtin; refine wpList_append_own _ rfl _ _ 55 rfl B 59 i0 _ 3 24 Tryd.underlying55 hi hz0 hz1 hz2 rfl (by decide) _ _ _ rfl (hown1.alloc _) ⟨w1.heap.size, 0, none⟩ 1 1 [.int .i32 d.1, .int .i64 at_, .bool false] rfl rfl ?c1 ?c2 ?c3 ?c4 ?c5 ?_))
        case c1 => exact new_cells w1 [.int .i32 d.1, .int .i64 at_, .bool false] 59
        case c2 => simp [Value.oneCell']
        case c3 => unfold maxLen; omega
        case c4 => omega
        case c5 => simp; omega
        intro v' w2 hown2 hg2 _
        go_wp2
        go_roundw
        case rel =>
          refine ⟨at_ + d.2, P ++ [d], by go_num, ?_, ?_, ?_, ?_, by simp; omega, hd2⟩
          · rw [sgs_snoc, Nat.zero_add, hsum.out]
            unfold sg
            rw [C3.out]
            simpa using hown2
          · exact ((hbw.trans (hb1.mono hwB)).alloc hw1 _).grown hg2 (by simp; omega) (fun k hk => (hown.lt k hk).1)
          · unfold Hid
            rw [total_append, hsum.out]
            simp [total]
          · unfold Hid
            rw [← hseg.out, Hd1.out]
            simp
        case measure => simp only [RowKit.intOf]; omega
    · have hae : at_ = s.size := by omega
      have hseg2 := hseg.out
      rw [hae, List.drop_of_length_le (by rw [Hl.out]; omega), segs_nil, List.append_nil] at hseg2
      have Hseg := Lib.hid hseg2
      have Hown := Lib.hid hown
      have Hbw := Lib.hid hbw
      clear hseg hseg2 hown hbw
      go_wp2
      go_ret
      have hch : P.length = chars s := by rw [Hseg.out]; rfl
      have hown := Hown.out
      rw [hch, Hseg.out] at hown
      obtain ⟨A, c, hv, _, _⟩ := own_shape hown
      rw [hv] at hown
      exact ⟨A, c, by rw [hv]; rfl, hown, Hbw.out⟩
end Go.Proofs.YthkapcnhfdpdbaaDoor

/- The document's first: walked. -/
namespace Go.Proofs.YthkapcnhfdpdbaaDoor
open Go.RowKit Go.Lib

/-- a list of signs, read: the first begins at place p -/
def RdS (w : World) (B : Nat) (A : Option Addr) (p : Nat) (ds : List (Nat × Nat)) : Prop := Rd w B 3 A ds.length (sgs p ds)
theorem RdS.at_ {w : World} {B : Nat} {A : Option Addr} {p : Nat} {ds : List (Nat × Nat)} (h : RdS w B A p ds) {i : Nat} (hi : i < ds.length) :
    ∃ a, A = some a ∧ a.block < B ∧ w.cell? (a.add (i * 3)) = some (Value.int .i32 ((ds.getD i (0, 0)).1 : Int)) ∧ w.cell? ⟨(a.add (i * 3)).block, (a.add (i * 3)).off + 1, none⟩ = some (Value.int .i64 ((p + total (ds.take i) : Nat) : Int)) ∧
      w.cell? ⟨(a.add (i * 3)).block, (a.add (i * 3)).off + 2, none⟩ = some (Value.bool (badD (ds.getD i (0, 0)))) := by
  obtain ⟨a, e, hb, hc⟩ := Rd.addr h (by omega)
  obtain ⟨h1, h2, h3⟩ := sgs_at ds p i hi
  have hd : ds.getD i (0, 0) = ds[i] := by rw [List.getD_eq_getElem?_getD, List.getElem?_eq_getElem hi]; rfl
  rw [hd]
  have e2 : a.add (i * 3 + 2) = ⟨(a.add (i * 3)).block, (a.add (i * 3)).off + 2, none⟩ := by
    rw [show i * 3 + 2 = i * 3 + 1 + 1 by omega, add_next, add_next]
  refine ⟨a, e, hb, hc _ _ h1, ?_, ?_⟩
  · rw [← add_next]; exact hc _ _ h2
  · rw [← e2]; exact hc _ _ h3
theorem RdS.below {w w' : World} {B : Nat} {A : Option Addr} {p : Nat} {ds : List (Nat × Nat)} (h : RdS w B A p ds) (hb : Below B w w') : RdS w' B A p ds := Rd.below h hb
theorem runN_le (ds : List (Nat × Nat)) : ∀ f n, runN ds f n ≤ n + f
  | 0, n => Nat.le_refl _
  | f + 1, n => by
    unfold runN
    split
    · have := runN_le ds f (n + 1); omega
    · omega

set_option maxRecDepth 100000 in
set_option maxHeartbeats 20000000 in
theorem rfirst_any (w : World) (B : Nat) (A : Option Addr) (c p : Nat) (ds : List (Nat × Nat)) (h : RdS w B A p ds) (hB : B ≤ w.heap.size) (h0 : 0 < ds.length) (hm : ds.length ≤ 1073741824) :
    Calls Tryd.prog 28 #[.slice A ds.length c] w fun e w' => e = .returned (.int .i64 (firstN ds : Nat)) ∧ Below w.heap.size w w' := by
  obtain ⟨m, hmm⟩ : ∃ m, ds.length = m := ⟨_, rfl⟩
  obtain ⟨a, rfl, _, c0, c1, c2⟩ := h.at_ h0
  have hx0 : a.add (0 * 3) = a := by simp [Addr.add]
  rw [hx0] at c0 c1 c2
  have Hr := Lib.hid h
  have hdef : firstN ds = if badD (ds.getD 0 (0, 0)) = true then 1 else if (ds.getD 0 (0, 0)).1 = 13 ∧ 1 < ds.length ∧ (ds.getD 1 (0, 0)).1 = 10 then 2 else if aloneN (ds.getD 0 (0, 0)).1 = true then 1 else runN ds 32 1 := rfl
  obtain ⟨r0, hr0⟩ : ∃ r0, (ds.getD 0 (0, 0)).1 = r0 := ⟨_, rfl⟩
  obtain ⟨b0, hb0⟩ : ∃ b0, badD (ds.getD 0 (0, 0)) = b0 := ⟨_, rfl⟩
  rw [hr0, hb0, hmm] at hdef
  rw [hr0] at c0
  rw [hb0] at c2
  rw [hmm] at h0 hm ⊢
  have Hm := Lib.hid hmm
  have Hr0 := Lib.hid hr0
  clear h hr0 hb0 hmm hx0 c1
  have hi0 : (0 : Int) < (m : Int) := by omega
  cases b0 with
  | true =>
    rw [hdef, if_pos rfl]
    clear hdef
    go_enter Tryd.func28, Tryd.ntmps28
    go_wp2_with fail
    go_ret
    exact ⟨rfl, Below.refl _ _⟩
  | false =>
    rw [if_neg (by decide)] at hdef
    have Hal := Lib.hid (ralone_any r0 w)
    obtain ⟨al, hal⟩ : ∃ al, aloneN r0 = al := ⟨_, rfl⟩
    rw [hal] at Hal hdef
    have Htk := Lib.hid (fun x z y n => rtakes_any x z y n)
    by_cases h13 : r0 = 13
    · have e13 : ((r0 : Int) == 13) = true := by simp [h13]
      by_cases hm1 : 1 < m
      · obtain ⟨a1, ha1, _, s0, _, _⟩ := Hr.out.at_ (i := 1) (by rw [Hm.out]; exact hm1)
        obtain rfl := Option.some.inj ha1
        obtain ⟨r1, hr1⟩ : ∃ r1, (ds.getD 1 (0, 0)).1 = r1 := ⟨_, rfl⟩
        rw [hr1] at s0 hdef
        have hm1i : (1 : Int) < (m : Int) := by omega
        have s0' : w.cell? ⟨a.block, a.off + 3, none⟩ = some (.int .i32 (r1 : Int)) := s0
        by_cases h10 : r1 = 10
        · have hfin : firstN ds = 2 := by rw [hdef, if_pos ⟨h13, hm1, h10⟩]
          rw [hfin]
          have e10 : ((r1 : Int) == 10) = true := by simp [h10]
          clear hdef hr1 h13 h10
          go_enter Tryd.func28, Tryd.ntmps28
          go_wp2_with fail
          go_ret
          exact ⟨rfl, Below.refl _ _⟩
        · have hdef2 : firstN ds = if al = true then 1 else runN ds 32 1 := by rw [hdef, if_neg (fun h => h10 h.2.2)]
          have e10 : ((r1 : Int) == 10) = false := by simp; omega
          clear hdef hr1 hal h13 h10
          go_enter Tryd.func28, Tryd.ntmps28
          go_wp2_with fail
          refine Hal.out.mono ?_
          rintro _ w1 ⟨rfl, hw1⟩
          obtain rfl := hw1.symm
          cases al with
          | true =>
            go_wp2_with fail
            go_ret
            have hd3 : firstN ds = 1 := by rw [hdef2]; rfl
            rw [hd3]
            exact ⟨rfl, Below.refl _ _⟩
          | false =>
            have hdef3 : firstN ds = runN ds 32 1 := by rw [hdef2, if_neg (by decide)]
            go_wp2_with fail
            go_loopw [3] (fun i wr => ∃ (n : Nat) (W : World), W = wr ∧ 1 ≤ n ∧ n ≤ 32 ∧ n ≤ m ∧ i = .int .i64 n ∧ Below w.heap.size w W ∧ Hid (runN ds (33 - n) n = runN ds 32 1)) (fun i _ => 33 - (RowKit.intOf i).toNat)
            case atStart => exact ⟨1, _, rfl, Nat.le_refl _, by decide, h0, rfl, Below.refl _ _, rfl⟩
            case round =>
              rename_i i wr
              obtain ⟨n, W, rfl, hn1, hn32, hnm, rfl, hbw, hrun⟩ := hrel
              have hR := Hr.out.below (hbw.mono hB)
              have Hbw := Lib.hid hbw
              have hRd : runN ds (33 - n) n = if n < ds.length ∧ n < 32 ∧ badD (ds.getD n (0, 0)) = false ∧ takesN (ds.getD 0 (0, 0)).1 (ds.getD (n - 1) (0, 0)).1 (ds.getD n (0, 0)).1 n = true then runN ds (33 - (n + 1)) (n + 1) else n := by
                rw [show 33 - n = (33 - (n + 1)) + 1 by omega]
                rfl
              rw [hRd] at hrun
              clear hbw hRd
              by_cases hlt : n < m
              · by_cases h32 : n < 32
                · obtain ⟨a1, ha1, _, d0, _, d2⟩ := hR.at_ (i := n) (by rw [Hm.out]; exact hlt)
                  obtain rfl := Option.some.inj ha1
                  obtain ⟨a1, ha1, _, z0, _, _⟩ := hR.at_ (i := n - 1) (by rw [Hm.out]; omega)
                  obtain rfl := Option.some.inj ha1
                  obtain ⟨a1, ha1, _, x0, _, _⟩ := hR.at_ (i := 0) (by rw [Hm.out]; omega)
                  obtain rfl := Option.some.inj ha1
                  rw [show a.add (0 * 3) = a by simp [Addr.add], Hr0.out] at x0
                  obtain ⟨bn, hbn⟩ : ∃ bn, badD (ds.getD n (0, 0)) = bn := ⟨_, rfl⟩
                  obtain ⟨yr, hyr⟩ : ∃ yr, (ds.getD n (0, 0)).1 = yr := ⟨_, rfl⟩
                  obtain ⟨zr, hzr⟩ : ∃ zr, (ds.getD (n - 1) (0, 0)).1 = zr := ⟨_, rfl⟩
                  obtain ⟨tk, htk⟩ : ∃ tk, takesN r0 zr yr n = tk := ⟨_, rfl⟩
                  have Htk2 := Lib.hid (fun W => Htk.out r0 zr yr n W)
                  rw [htk] at Htk2
                  have hrun2 := hrun.out
                  rw [hbn, hyr, hzr, Hr0.out, htk, Hm.out] at hrun2
                  rw [hbn] at d2
                  rw [hyr] at d0
                  rw [hzr] at z0
                  have hwn : IntKind.i64.wrap ((n : Int) - 1) = ((n - 1 : Nat) : Int) := by rw [IntWalk.i64_in _ (by omega)]; omega
                  have hni : (n : Int) < (m : Int) := by omega
                  have h32i : (n : Int) < 32 := by omega
                  have hn1i : ((n - 1 : Nat) : Int) < (m : Int) := by omega
                  have Hrun := Lib.hid hrun2
                  clear hbn hyr hzr htk hrun hrun2 hR
                  cases bn with
                  | true =>
                    go_wp2_with fail
                    go_quiet (fail)
                    go_wp2_with fail
                    go_ret
                    have hr := Hrun.out
                    rw [if_neg (by simp)] at hr
                    exact ⟨by rw [hdef3, ← hr]; rfl, below_N Hbw.out _⟩
                  | false =>
                    go_wp2_with fail
                    go_region_held3 (fun W' => W'.cell? ⟨(a.add (n * 3)).block, (a.add (n * 3)).off + 2, none⟩ = some (.bool false) ∧ W'.cell? a = some (.int .i32 (r0 : Int)) ∧ W'.cell? (a.add ((n - 1) * 3)) = some (.int .i32 (zr : Int)) ∧ W'.cell? (a.add (n * 3)) = some (.int .i32 (yr : Int)))
                      (exact ⟨d2, x0, z0, d0⟩)
                      (first
                        | (go_at_call 42; refine (Htk2.out _).mono ?_; rintro e u ⟨rfl, hu⟩; obtain rfl := hu.symm))
                    cases tk with
                    | true =>
                      go_wp2_with fail
                      have hr := Hrun.out
                      rw [if_pos (by simp [hlt, h32])] at hr
                      exact ⟨⟨n + 1, _, rfl, by omega, by omega, by omega, by go_num, Hbw.out.drew, hr⟩, by simp only [RowKit.intOf]; omega⟩
                    | false =>
                      go_wp2_with fail
                      go_ret
                      have hr := Hrun.out
                      rw [if_neg (by simp)] at hr
                      exact ⟨by rw [hdef3, ← hr]; rfl, Hbw.out.drew⟩
                · have h32i : ¬ ((n : Int) < 32) := by omega
                  have h32d : decide ((n : Int) < 32) = false := decide_eq_false h32i
                  have h32e : decide (n < 32) = false := decide_eq_false h32
                  have hni : (n : Int) < (m : Int) := by omega
                  have hr := hrun.out
                  rw [if_neg (fun h => h32 h.2.1)] at hr
                  have Hrr := Lib.hid hr
                  clear hrun hr hR
                  go_wp2_with fail
                  go_quiet (fail)
                  go_wp2_with fail
                  go_ret
                  exact ⟨by rw [hdef3, ← Hrr.out]; rfl, below_N Hbw.out _⟩
              · have hni : ¬ ((n : Int) < (m : Int)) := by omega
                have hr := hrun.out
                rw [Hm.out, if_neg (fun h => hlt h.1)] at hr
                have Hrr := Lib.hid hr
                clear hrun hr hR
                go_wp2_with fail
                go_quiet (fail)
                go_wp2_with fail
                go_ret
                exact ⟨by rw [hdef3, ← Hrr.out]; rfl, below_N Hbw.out _⟩
      · have hdef2 : firstN ds = if al = true then 1 else runN ds 32 1 := by rw [hdef, if_neg (fun h => hm1 h.2.1)]
        have hm1i : ¬ ((1 : Int) < (m : Int)) := by omega
        clear hdef hal h13
        go_enter Tryd.func28, Tryd.ntmps28
        go_wp2_with fail
        refine Hal.out.mono ?_
        rintro _ w1 ⟨rfl, hw1⟩
        obtain rfl := hw1.symm
        cases al with
        | true =>
          go_wp2_with fail
          go_ret
          have hd3 : firstN ds = 1 := by rw [hdef2]; rfl
          rw [hd3]
          exact ⟨rfl, Below.refl _ _⟩
        | false =>
          have hdef3 : firstN ds = runN ds 32 1 := by rw [hdef2, if_neg (by decide)]
          go_wp2_with fail
          go_loopw [3] (fun i wr => ∃ (n : Nat) (W : World), W = wr ∧ 1 ≤ n ∧ n ≤ 32 ∧ n ≤ m ∧ i = .int .i64 n ∧ Below w.heap.size w W ∧ Hid (runN ds (33 - n) n = runN ds 32 1)) (fun i _ => 33 - (RowKit.intOf i).toNat)
          case atStart => exact ⟨1, _, rfl, Nat.le_refl _, by decide, h0, rfl, Below.refl _ _, rfl⟩
          case round =>
            rename_i i wr
            obtain ⟨n, W, rfl, hn1, hn32, hnm, rfl, hbw, hrun⟩ := hrel
            have hR := Hr.out.below (hbw.mono hB)
            have Hbw := Lib.hid hbw
            have hRd : runN ds (33 - n) n = if n < ds.length ∧ n < 32 ∧ badD (ds.getD n (0, 0)) = false ∧ takesN (ds.getD 0 (0, 0)).1 (ds.getD (n - 1) (0, 0)).1 (ds.getD n (0, 0)).1 n = true then runN ds (33 - (n + 1)) (n + 1) else n := by
              rw [show 33 - n = (33 - (n + 1)) + 1 by omega]
              rfl
            rw [hRd] at hrun
            clear hbw hRd
            by_cases hlt : n < m
            · exact absurd hlt (by omega)
            · have hni : ¬ ((n : Int) < (m : Int)) := by omega
              have hr := hrun.out
              rw [Hm.out, if_neg (fun h => hlt h.1)] at hr
              have Hrr := Lib.hid hr
              clear hrun hr hR
              go_wp2_with fail
              go_quiet (fail)
              go_wp2_with fail
              go_ret
              exact ⟨by rw [hdef3, ← Hrr.out]; rfl, below_N Hbw.out _⟩
    · have hdef2 : firstN ds = if al = true then 1 else runN ds 32 1 := by rw [hdef, if_neg (fun h => h13 h.1)]
      have e13 : ((r0 : Int) == 13) = false := by simp; omega
      clear hdef hal h13
      go_enter Tryd.func28, Tryd.ntmps28
      go_wp2_with fail
      refine Hal.out.mono ?_
      rintro _ w1 ⟨rfl, hw1⟩
      obtain rfl := hw1.symm
      cases al with
      | true =>
        go_wp2_with fail
        go_ret
        have hd3 : firstN ds = 1 := by rw [hdef2]; rfl
        rw [hd3]
        exact ⟨rfl, Below.refl _ _⟩
      | false =>
        have hdef3 : firstN ds = runN ds 32 1 := by rw [hdef2, if_neg (by decide)]
        go_wp2_with fail
        go_loopw [3] (fun i wr => ∃ (n : Nat) (W : World), W = wr ∧ 1 ≤ n ∧ n ≤ 32 ∧ n ≤ m ∧ i = .int .i64 n ∧ Below w.heap.size w W ∧ Hid (runN ds (33 - n) n = runN ds 32 1)) (fun i _ => 33 - (RowKit.intOf i).toNat)
        case atStart => exact ⟨1, _, rfl, Nat.le_refl _, by decide, h0, rfl, Below.refl _ _, rfl⟩
        case round =>
          rename_i i wr
          obtain ⟨n, W, rfl, hn1, hn32, hnm, rfl, hbw, hrun⟩ := hrel
          have hR := Hr.out.below (hbw.mono hB)
          have Hbw := Lib.hid hbw
          have hRd : runN ds (33 - n) n = if n < ds.length ∧ n < 32 ∧ badD (ds.getD n (0, 0)) = false ∧ takesN (ds.getD 0 (0, 0)).1 (ds.getD (n - 1) (0, 0)).1 (ds.getD n (0, 0)).1 n = true then runN ds (33 - (n + 1)) (n + 1) else n := by
            rw [show 33 - n = (33 - (n + 1)) + 1 by omega]
            rfl
          rw [hRd] at hrun
          clear hbw hRd
          by_cases hlt : n < m
          · by_cases h32 : n < 32
            · obtain ⟨a1, ha1, _, d0, _, d2⟩ := hR.at_ (i := n) (by rw [Hm.out]; exact hlt)
              obtain rfl := Option.some.inj ha1
              obtain ⟨a1, ha1, _, z0, _, _⟩ := hR.at_ (i := n - 1) (by rw [Hm.out]; omega)
              obtain rfl := Option.some.inj ha1
              obtain ⟨a1, ha1, _, x0, _, _⟩ := hR.at_ (i := 0) (by rw [Hm.out]; omega)
              obtain rfl := Option.some.inj ha1
              rw [show a.add (0 * 3) = a by simp [Addr.add], Hr0.out] at x0
              obtain ⟨bn, hbn⟩ : ∃ bn, badD (ds.getD n (0, 0)) = bn := ⟨_, rfl⟩
              obtain ⟨yr, hyr⟩ : ∃ yr, (ds.getD n (0, 0)).1 = yr := ⟨_, rfl⟩
              obtain ⟨zr, hzr⟩ : ∃ zr, (ds.getD (n - 1) (0, 0)).1 = zr := ⟨_, rfl⟩
              obtain ⟨tk, htk⟩ : ∃ tk, takesN r0 zr yr n = tk := ⟨_, rfl⟩
              have Htk2 := Lib.hid (fun W => Htk.out r0 zr yr n W)
              rw [htk] at Htk2
              have hrun2 := hrun.out
              rw [hbn, hyr, hzr, Hr0.out, htk, Hm.out] at hrun2
              rw [hbn] at d2
              rw [hyr] at d0
              rw [hzr] at z0
              have hwn : IntKind.i64.wrap ((n : Int) - 1) = ((n - 1 : Nat) : Int) := by rw [IntWalk.i64_in _ (by omega)]; omega
              have hni : (n : Int) < (m : Int) := by omega
              have h32i : (n : Int) < 32 := by omega
              have hn1i : ((n - 1 : Nat) : Int) < (m : Int) := by omega
              have Hrun := Lib.hid hrun2
              clear hbn hyr hzr htk hrun hrun2 hR
              cases bn with
              | true =>
                go_wp2_with fail
                go_quiet (fail)
                go_wp2_with fail
                go_ret
                have hr := Hrun.out
                rw [if_neg (by simp)] at hr
                exact ⟨by rw [hdef3, ← hr]; rfl, below_N Hbw.out _⟩
              | false =>
                go_wp2_with fail
                go_region_held3 (fun W' => W'.cell? ⟨(a.add (n * 3)).block, (a.add (n * 3)).off + 2, none⟩ = some (.bool false) ∧ W'.cell? a = some (.int .i32 (r0 : Int)) ∧ W'.cell? (a.add ((n - 1) * 3)) = some (.int .i32 (zr : Int)) ∧ W'.cell? (a.add (n * 3)) = some (.int .i32 (yr : Int)))
                  (exact ⟨d2, x0, z0, d0⟩)
                  (first
                    | (go_at_call 42; refine (Htk2.out _).mono ?_; rintro e u ⟨rfl, hu⟩; obtain rfl := hu.symm))
                cases tk with
                | true =>
                  go_wp2_with fail
                  have hr := Hrun.out
                  rw [if_pos (by simp [hlt, h32])] at hr
                  exact ⟨⟨n + 1, _, rfl, by omega, by omega, by omega, by go_num, Hbw.out.drew, hr⟩, by simp only [RowKit.intOf]; omega⟩
                | false =>
                  go_wp2_with fail
                  go_ret
                  have hr := Hrun.out
                  rw [if_neg (by simp)] at hr
                  exact ⟨by rw [hdef3, ← hr]; rfl, Hbw.out.drew⟩
            · have h32i : ¬ ((n : Int) < 32) := by omega
              have h32d : decide ((n : Int) < 32) = false := decide_eq_false h32i
              have h32e : decide (n < 32) = false := decide_eq_false h32
              have hni : (n : Int) < (m : Int) := by omega
              have hr := hrun.out
              rw [if_neg (fun h => h32 h.2.1)] at hr
              have Hrr := Lib.hid hr
              clear hrun hr hR
              go_wp2_with fail
              go_quiet (fail)
              go_wp2_with fail
              go_ret
              exact ⟨by rw [hdef3, ← Hrr.out]; rfl, below_N Hbw.out _⟩
          · have hni : ¬ ((n : Int) < (m : Int)) := by omega
            have hr := hrun.out
            rw [Hm.out, if_neg (fun h => hlt h.1)] at hr
            have Hrr := Lib.hid hr
            clear hrun hr hR
            go_wp2_with fail
            go_quiet (fail)
            go_wp2_with fail
            go_ret
            exact ⟨by rw [hdef3, ← Hrr.out]; rfl, below_N Hbw.out _⟩
end Go.Proofs.YthkapcnhfdpdbaaDoor
