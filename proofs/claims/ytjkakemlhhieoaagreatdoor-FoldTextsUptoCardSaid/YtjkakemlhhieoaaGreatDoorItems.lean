/- A text of pieces reads back as these pieces (pure). -/
import Derived.Test.YtjkakemlhhieoaaGreatDoorApG
import Derived.Test.YtjkakemlhhieoaaGreatDoorNumP
set_option linter.unusedSimpArgs false
set_option linter.unusedVariables false
namespace Go.Proofs.YtjkakemlhhieoaaGreatDoor
open Go.RowKit Go.Lib

/-- a number that may stand in a text -/
def Scal (q : Int) : Prop := 0 ≤ q ∧ q < 55296 ∨ 57344 ≤ q ∧ q ≤ 1114111
theorem encodeRune_encN (q : Int) (h : Scal q) : Lib.encodeRune q = encN q.toNat := by
  unfold Scal at h
  obtain ⟨c, rfl⟩ : ∃ c : Nat, q = (c : Int) := ⟨q.toNat, by omega⟩
  unfold Lib.encodeRune Lib.encodeRuneZ encN
  simp only [Int.toNat_natCast]
  repeat' split
  all_goals first | omega | (simp [Int.toNat_add, Int.toNat_emod] <;> omega) | rfl
/-- what a text begins with: a number, or a byte that is no character -/
def headI (l : List UInt8) : Pc := if (dec l).2 = 1 ∧ 128 ≤ gb l 0 then (0, 0, gb l 0) else ((dec l).1, markZ (dec l).1, 0)
def itF : Nat → List UInt8 → List Pc
  | 0, _ => []
  | f + 1, l => if l = [] then [] else headI l :: itF f (l.drop (dec l).2)
def items (l : List UInt8) : List Pc := itF l.length l
theorem itF_eq : ∀ (f g : Nat) (l : List UInt8), l.length ≤ f → l.length ≤ g → itF f l = itF g l
  | 0, g, l, hf, _ => by
    obtain rfl : l = [] := List.eq_nil_of_length_eq_zero (by omega)
    cases g <;> simp [itF]
  | f + 1, 0, l, _, hg => by
    obtain rfl : l = [] := List.eq_nil_of_length_eq_zero (by omega)
    simp [itF]
  | f + 1, g + 1, l, hf, hg => by
    unfold itF
    by_cases h : l = []
    · rw [if_pos h, if_pos h]
    · have := dec_pos l
      have hl := List.length_pos_iff.2 h
      rw [if_neg h, if_neg h, itF_eq f g _ (by rw [List.length_drop]; omega) (by rw [List.length_drop]; omega)]
theorem items_nil : items [] = [] := rfl
theorem items_step (l : List UInt8) (h : l ≠ []) : items l = headI l :: items (l.drop (dec l).2) := by
  have hl := List.length_pos_iff.2 h
  have := dec_pos l
  unfold items
  rw [itF_eq l.length (l.length - 1 + 1) l (Nat.le_refl _) (by omega)]
  conv => lhs; unfold itF
  rw [if_neg h, itF_eq (l.length - 1) (l.drop (dec l).2).length _ (by rw [List.length_drop]; omega) (Nat.le_refl _)]
/-- a piece taken apart -/
def splitP (p : Pc) : List Pc := if p.2.2 = 0 then (splitZ p.1).map fun q => (q, markZ q, 0) else [p]
theorem headP_split (l : List UInt8) : headP l = splitP (headI l) := by
  unfold headP headI splitP
  by_cases h : (dec l).2 = 1 ∧ 128 ≤ gb l 0
  · rw [if_pos h, if_pos h, if_neg (by show gb l 0 ≠ 0; omega)]
  · rw [if_neg h, if_neg h]
    rfl
theorem rawP_items (l : List UInt8) : rawP l = (items l).flatMap splitP := by
  induction l using walk_ind with
  | h0 => rfl
  | h1 l h ih => rw [rawP_step l h, items_step l h, List.flatMap_cons, ih, headP_split]
/-- pieces that a text tells of -/
inductive TelP : List Pc → Prop
  | nil : TelP []
  | cons {p : Pc} {t : List Pc} : (p.2.2 = 0 ∧ Scal p.1 ∧ p.2.1 = markZ p.1 ∨ p.1 = 0 ∧ p.2.1 = 0 ∧ 128 ≤ p.2.2 ∧ p.2.2 < 256 ∧ (dec (UInt8.ofNat p.2.2 :: textP t)).2 = 1) → TelP t → TelP (p :: t)
theorem TelP.head {p : Pc} {t : List Pc} (h : TelP (p :: t)) : p.2.2 = 0 ∧ Scal p.1 ∧ p.2.1 = markZ p.1 ∨ p.1 = 0 ∧ p.2.1 = 0 ∧ 128 ≤ p.2.2 ∧ p.2.2 < 256 ∧ (dec (UInt8.ofNat p.2.2 :: textP t)).2 = 1 := by
  cases h with
  | cons a b => exact a
theorem TelP.tail {p : Pc} {t : List Pc} (h : TelP (p :: t)) : TelP t := by
  cases h with
  | cons a b => exact b
theorem textP_cons (p : Pc) (t : List Pc) : textP (p :: t) = pieceB p ++ textP t := by simp [textP]
theorem items_textP : ∀ ps : List Pc, TelP ps → items (textP ps) = ps
  | [], _ => rfl
  | p :: t, h => by
    have ih := items_textP t h.tail
    rw [textP_cons]
    obtain ⟨q, m, b⟩ := p
    rcases h.head with ⟨hb, hs, hm⟩ | ⟨hq, hm, h1, h2, h3⟩
    · simp only at hb hs hm
      subst hb
      subst hm
      have e : pieceB (q, markZ q, 0) = encN q.toNat := by
        unfold pieceB
        rw [if_pos rfl]
        exact encodeRune_encN q hs
      have hc : q.toNat < 55296 ∨ 57344 ≤ q.toNat ∧ q.toNat ≤ 1114111 := by unfold Scal at hs; omega
      have hd := dec_encN q.toNat hc (textP t)
      have hq : ((q.toNat : Nat) : Int) = q := by unfold Scal at hs; omega
      have hne : encN q.toNat ++ textP t ≠ [] := by
        intro e
        exact encN_ne _ (List.append_eq_nil_iff.1 e).1
      rw [e, items_step _ hne]
      have hh : headI (encN q.toNat ++ textP t) = (q, markZ q, 0) := by
        unfold headI
        rw [hd, if_neg, hq]
        rintro ⟨hl, hg⟩
        simp only at hl
        rw [encN_len] at hl
        have h128 : q.toNat < 128 := by
          by_cases h : q.toNat < 128
          · exact h
          · rw [if_neg h] at hl
            split at hl
            · cases hl
            · split at hl <;> cases hl
        have : gb (encN q.toNat ++ textP t) 0 = q.toNat := by
          unfold encN
          rw [if_pos h128]
          show (UInt8.ofNat q.toNat).toNat = q.toNat
          exact nat8 _ (by omega)
        omega
      rw [hh, hd]
      simp only
      rw [List.drop_left, ih]
    · simp only at hq hm h1 h2 h3
      subst hq
      subst hm
      have e : pieceB (0, 0, b) = [UInt8.ofNat b] := by
        unfold pieceB
        rw [if_neg (by show b ≠ 0; omega)]
      rw [e]
      show items (UInt8.ofNat b :: textP t) = _
      have hg : gb (UInt8.ofNat b :: textP t) 0 = b := nat8 b h2
      rw [items_step _ (by simp)]
      have hh : headI (UInt8.ofNat b :: textP t) = (0, 0, b) := by
        unfold headI
        rw [if_pos ⟨h3, by rw [hg]; exact h1⟩, hg]
      rw [hh, h3]
      simp only [List.drop_one, List.tail_cons]
      rw [ih]
end Go.Proofs.YtjkakemlhhieoaaGreatDoor
