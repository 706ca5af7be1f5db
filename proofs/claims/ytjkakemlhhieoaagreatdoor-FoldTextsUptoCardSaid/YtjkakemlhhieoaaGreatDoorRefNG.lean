/- The document's rows of letters with marks, as numbers and as bytes. (Made by tools/mkrow4.py.) -/
import Derived.Test.YtjkakemlhhieoaaGreatDoorLettG
import Derived.Test.YtjkakemlhhieoaaGreatDoorPure
import Derived.Test.YtjkakemlhhieoaaGreatDoorScanG
import Derived.Test.YtjkakemlhhieoaaGreatDoorPartN
import Derived.Test.YtjkakemlhhieoaaGreatDoorMem
import Derived.WalkKit
import Derived.BigQuiet
import Derived.Deep.QuietTactic
set_option linter.unusedSimpArgs false
set_option linter.unusedVariables false
namespace Go.Proofs.YtjkakemlhhieoaaGreatDoor
open Go.RowKit Go.Lib

def lookR {α : Type} : List (Int × List α) → Int → List α
  | [], _ => []
  | x :: t, m => if m = x.1 then x.2 else lookR t m
def rowsL : List (Int × List Int) := [(768, [65, 192, 69, 200, 73, 204, 79, 210, 85, 217, 97, 224, 101, 232, 105, 236, 111, 242, 117, 249, 194, 7846, 202, 7872, 212, 7890, 226, 7847, 234, 7873, 244, 7891]), (769, [65, 193, 67, 262, 69, 201, 73, 205, 76, 313, 78, 323, 79, 211, 82, 340, 83, 346, 85, 218, 89, 221, 90, 377, 97, 225, 99, 263, 101, 233, 105, 237, 108, 314, 110, 324, 111, 243, 114, 341, 115, 347, 117, 250, 121, 253, 122, 378, 194, 7844, 202, 7870, 212, 7888, 226, 7845, 234, 7871, 244, 7889, 913, 902, 917, 904, 919, 905, 921, 906, 927, 908, 933, 910, 937, 911, 945, 940, 949, 941, 951, 942, 953, 943, 959, 972, 965, 973, 969, 974, 970, 912, 971, 944, 1043, 1027, 1050, 1036, 1075, 1107, 1082, 1116]), (770, [65, 194, 67, 264, 69, 202, 71, 284, 72, 292, 73, 206, 74, 308, 79, 212, 83, 348, 85, 219, 87, 372, 89, 374, 97, 226, 99, 265, 101, 234, 103, 285, 104, 293, 105, 238, 106, 309, 111, 244, 115, 349, 117, 251, 119, 373, 121, 375]), (771, [65, 195, 73, 296, 78, 209, 79, 213, 85, 360, 97, 227, 105, 297, 110, 241, 111, 245, 117, 361]), (772, [65, 256, 69, 274, 73, 298, 79, 332, 85, 362, 97, 257, 101, 275, 105, 299, 111, 333, 117, 363]), (774, [65, 258, 69, 276, 71, 286, 73, 300, 79, 334, 85, 364, 97, 259, 101, 277, 103, 287, 105, 301, 111, 335, 117, 365, 1048, 1049, 1080, 1081, 1059, 1038, 1091, 1118]), (775, [67, 266, 69, 278, 71, 288, 73, 304, 90, 379, 99, 267, 101, 279, 103, 289, 122, 380]), (776, [65, 196, 69, 203, 73, 207, 79, 214, 85, 220, 89, 376, 97, 228, 101, 235, 105, 239, 111, 246, 117, 252, 121, 255, 921, 938, 933, 939, 953, 970, 965, 971, 1045, 1025, 1030, 1031, 1077, 1105, 1110, 1111]), (778, [65, 197, 85, 366, 97, 229, 117, 367]), (779, [79, 336, 85, 368, 111, 337, 117, 369]), (780, [67, 268, 68, 270, 69, 282, 76, 317, 78, 327, 82, 344, 83, 352, 84, 356, 90, 381, 99, 269, 100, 271, 101, 283, 108, 318, 110, 328, 114, 345, 115, 353, 116, 357, 122, 382]), (807, [67, 199, 71, 290, 75, 310, 76, 315, 78, 325, 82, 342, 83, 350, 84, 354, 99, 231, 103, 291, 107, 311, 108, 316, 110, 326, 114, 343, 115, 351, 116, 355]), (808, [65, 260, 69, 280, 73, 302, 85, 370, 97, 261, 101, 281, 105, 303, 117, 371])]
def rowB768 : List UInt8 := [65, 195, 128, 69, 195, 136, 73, 195, 140, 79, 195, 146, 85, 195, 153, 97, 195, 160, 101, 195, 168, 105, 195, 172, 111, 195, 178, 117, 195, 185, 195, 130, 225, 186, 166, 195, 138, 225, 187, 128, 195, 148, 225, 187, 146, 195, 162, 225, 186, 167, 195, 170, 225, 187, 129, 195, 180, 225, 187, 147]
def rowB769 : List UInt8 := [65, 195, 129, 67, 196, 134, 69, 195, 137, 73, 195, 141, 76, 196, 185, 78, 197, 131, 79, 195, 147, 82, 197, 148, 83, 197, 154, 85, 195, 154, 89, 195, 157, 90, 197, 185, 97, 195, 161, 99, 196, 135, 101, 195, 169, 105, 195, 173, 108, 196, 186, 110, 197, 132, 111, 195, 179, 114, 197, 149, 115, 197, 155, 117, 195, 186, 121, 195, 189, 122, 197, 186, 195, 130, 225, 186, 164, 195, 138, 225, 186, 190, 195, 148, 225, 187, 144, 195, 162, 225, 186, 165, 195, 170, 225, 186, 191, 195, 180, 225, 187, 145, 206, 145, 206, 134, 206, 149, 206, 136, 206, 151, 206, 137, 206, 153, 206, 138, 206, 159, 206, 140, 206, 165, 206, 142, 206, 169, 206, 143, 206, 177, 206, 172, 206, 181, 206, 173, 206, 183, 206, 174, 206, 185, 206, 175, 206, 191, 207, 140, 207, 133, 207, 141, 207, 137, 207, 142, 207, 138, 206, 144, 207, 139, 206, 176, 208, 147, 208, 131, 208, 154, 208, 140, 208, 179, 209, 147, 208, 186, 209, 156]
def rowB770 : List UInt8 := [65, 195, 130, 67, 196, 136, 69, 195, 138, 71, 196, 156, 72, 196, 164, 73, 195, 142, 74, 196, 180, 79, 195, 148, 83, 197, 156, 85, 195, 155, 87, 197, 180, 89, 197, 182, 97, 195, 162, 99, 196, 137, 101, 195, 170, 103, 196, 157, 104, 196, 165, 105, 195, 174, 106, 196, 181, 111, 195, 180, 115, 197, 157, 117, 195, 187, 119, 197, 181, 121, 197, 183]
def rowB771 : List UInt8 := [65, 195, 131, 73, 196, 168, 78, 195, 145, 79, 195, 149, 85, 197, 168, 97, 195, 163, 105, 196, 169, 110, 195, 177, 111, 195, 181, 117, 197, 169]
def rowB772 : List UInt8 := [65, 196, 128, 69, 196, 146, 73, 196, 170, 79, 197, 140, 85, 197, 170, 97, 196, 129, 101, 196, 147, 105, 196, 171, 111, 197, 141, 117, 197, 171]
def rowB774 : List UInt8 := [65, 196, 130, 69, 196, 148, 71, 196, 158, 73, 196, 172, 79, 197, 142, 85, 197, 172, 97, 196, 131, 101, 196, 149, 103, 196, 159, 105, 196, 173, 111, 197, 143, 117, 197, 173, 208, 152, 208, 153, 208, 184, 208, 185, 208, 163, 208, 142, 209, 131, 209, 158]
def rowB775 : List UInt8 := [67, 196, 138, 69, 196, 150, 71, 196, 160, 73, 196, 176, 90, 197, 187, 99, 196, 139, 101, 196, 151, 103, 196, 161, 122, 197, 188]
def rowB776 : List UInt8 := [65, 195, 132, 69, 195, 139, 73, 195, 143, 79, 195, 150, 85, 195, 156, 89, 197, 184, 97, 195, 164, 101, 195, 171, 105, 195, 175, 111, 195, 182, 117, 195, 188, 121, 195, 191, 206, 153, 206, 170, 206, 165, 206, 171, 206, 185, 207, 138, 207, 133, 207, 139, 208, 149, 208, 129, 208, 134, 208, 135, 208, 181, 209, 145, 209, 150, 209, 151]
def rowB778 : List UInt8 := [65, 195, 133, 85, 197, 174, 97, 195, 165, 117, 197, 175]
def rowB779 : List UInt8 := [79, 197, 144, 85, 197, 176, 111, 197, 145, 117, 197, 177]
def rowB780 : List UInt8 := [67, 196, 140, 68, 196, 142, 69, 196, 154, 76, 196, 189, 78, 197, 135, 82, 197, 152, 83, 197, 160, 84, 197, 164, 90, 197, 189, 99, 196, 141, 100, 196, 143, 101, 196, 155, 108, 196, 190, 110, 197, 136, 114, 197, 153, 115, 197, 161, 116, 197, 165, 122, 197, 190]
def rowB807 : List UInt8 := [67, 195, 135, 71, 196, 162, 75, 196, 182, 76, 196, 187, 78, 197, 133, 82, 197, 150, 83, 197, 158, 84, 197, 162, 99, 195, 167, 103, 196, 163, 107, 196, 183, 108, 196, 188, 110, 197, 134, 114, 197, 151, 115, 197, 159, 116, 197, 163]
def rowB808 : List UInt8 := [65, 196, 132, 69, 196, 152, 73, 196, 174, 85, 197, 178, 97, 196, 133, 101, 196, 153, 105, 196, 175, 117, 197, 179]
def rowsB : List (Int × List UInt8) := [(768, rowB768), (769, rowB769), (770, rowB770), (771, rowB771), (772, rowB772), (774, rowB774), (775, rowB775), (776, rowB776), (778, rowB778), (779, rowB779), (780, rowB780), (807, rowB807), (808, rowB808)]
/-- a mark's letters, and what they are together with it, in turns -/
def rowL (m : Int) : List Int := lookR rowsL m
def rowB (m : Int) : List UInt8 := lookR rowsB m
def zs4 (l : List UInt8) : List Int := (runesOf l).map fun (r : Nat) => (r : Int)
theorem rowR768 : zs4 rowB768 = lookR rowsL 768 := by decide +kernel
theorem rowR769 : zs4 rowB769 = lookR rowsL 769 := by decide +kernel
theorem rowR770 : zs4 rowB770 = lookR rowsL 770 := by decide +kernel
theorem rowR771 : zs4 rowB771 = lookR rowsL 771 := by decide +kernel
theorem rowR772 : zs4 rowB772 = lookR rowsL 772 := by decide +kernel
theorem rowR774 : zs4 rowB774 = lookR rowsL 774 := by decide +kernel
theorem rowR775 : zs4 rowB775 = lookR rowsL 775 := by decide +kernel
theorem rowR776 : zs4 rowB776 = lookR rowsL 776 := by decide +kernel
theorem rowR778 : zs4 rowB778 = lookR rowsL 778 := by decide +kernel
theorem rowR779 : zs4 rowB779 = lookR rowsL 779 := by decide +kernel
theorem rowR780 : zs4 rowB780 = lookR rowsL 780 := by decide +kernel
theorem rowR807 : zs4 rowB807 = lookR rowsL 807 := by decide +kernel
theorem rowR808 : zs4 rowB808 = lookR rowsL 808 := by decide +kernel
theorem row_runes (m : Int) : zs4 (rowB m) = rowL m := by
  unfold rowB rowsB
  unfold lookR
  by_cases h768 : m = 768
  · rw [if_pos h768, h768]; exact rowR768
  rw [if_neg h768]
  unfold lookR
  by_cases h769 : m = 769
  · rw [if_pos h769, h769]; exact rowR769
  rw [if_neg h769]
  unfold lookR
  by_cases h770 : m = 770
  · rw [if_pos h770, h770]; exact rowR770
  rw [if_neg h770]
  unfold lookR
  by_cases h771 : m = 771
  · rw [if_pos h771, h771]; exact rowR771
  rw [if_neg h771]
  unfold lookR
  by_cases h772 : m = 772
  · rw [if_pos h772, h772]; exact rowR772
  rw [if_neg h772]
  unfold lookR
  by_cases h774 : m = 774
  · rw [if_pos h774, h774]; exact rowR774
  rw [if_neg h774]
  unfold lookR
  by_cases h775 : m = 775
  · rw [if_pos h775, h775]; exact rowR775
  rw [if_neg h775]
  unfold lookR
  by_cases h776 : m = 776
  · rw [if_pos h776, h776]; exact rowR776
  rw [if_neg h776]
  unfold lookR
  by_cases h778 : m = 778
  · rw [if_pos h778, h778]; exact rowR778
  rw [if_neg h778]
  unfold lookR
  by_cases h779 : m = 779
  · rw [if_pos h779, h779]; exact rowR779
  rw [if_neg h779]
  unfold lookR
  by_cases h780 : m = 780
  · rw [if_pos h780, h780]; exact rowR780
  rw [if_neg h780]
  unfold lookR
  by_cases h807 : m = 807
  · rw [if_pos h807, h807]; exact rowR807
  rw [if_neg h807]
  unfold lookR
  by_cases h808 : m = 808
  · rw [if_pos h808, h808]; exact rowR808
  rw [if_neg h808]
  unfold rowL rowsL lookR
  simp only [h768, h769, h770, h771, h772, h774, h775, h776, h778, h779, h780, h807, h808, if_false, lookR]
  decide +kernel
end Go.Proofs.YtjkakemlhhieoaaGreatDoor

/- The document's pairs and what it takes apart (pure): they are the program's. -/
namespace Go.Proofs.YtjkakemlhhieoaaGreatDoor
open Go.RowKit Go.Lib

def hasV (l : List Int) (a : Int) : Bool := l.any fun x => a == x || a == x + 96
/-- a kana and one of its two marks -/
def kanaR (a b : Int) : Int := if b = 12441 then (if hasV kanaV a = true then a + 1 else 0) else if b = 12442 then (if hasV kanaH a = true then a + 2 else 0) else 0
def pairRow (a : Int) : List Int → Int
  | x :: y :: t => if x = a then y else pairRow a t
  | _ => 0
def orZ (a b : Int) : Int := if a = 0 then b else a
/-- what two are together, as the document says -/
def refPairZ (a b : Int) : Int := orZ (orZ (kanaR a b) (syllZ a b)) (pairRow a (rowL b))
def evens : List Int → List Int
  | x :: _ :: t => x :: evens t
  | _ => []
def odds : List Int → List Int
  | _ :: y :: t => y :: odds t
  | _ => []
def allMarks : List Int := 12441 :: 12442 :: rowsL.map (fun x => x.1)

theorem lookR_mem {α : Type} : ∀ {l : List (Int × List α)} {m : Int}, lookR l m ≠ [] → ∃ x ∈ l, x.1 = m ∧ lookR l m = x.2
  | [], m, h => absurd rfl h
  | x :: t, m, h => by
    unfold lookR at h ⊢
    by_cases c : m = x.1
    · rw [if_pos c]; exact ⟨x, List.mem_cons_self .., c.symm, rfl⟩
    · rw [if_neg c] at h ⊢
      obtain ⟨y, hy, e⟩ := lookR_mem h
      exact ⟨y, List.mem_cons_of_mem _ hy, e⟩
theorem pairRow_mem : ∀ {a : Int} {l : List Int}, pairRow a l ≠ 0 → a ∈ evens l
  | a, [], h => absurd rfl h
  | a, [_], h => absurd rfl h
  | a, x :: y :: t, h => by
    unfold pairRow at h
    unfold evens
    by_cases c : x = a
    · rw [c]; exact List.mem_cons_self ..
    · rw [if_neg c] at h
      exact List.mem_cons_of_mem _ (pairRow_mem h)
theorem hasV_mem {l : List Int} {a : Int} (h : hasV l a = true) : ∃ x ∈ l, a = x ∨ a = x + 96 := by
  unfold hasV at h
  obtain ⟨x, hx, e⟩ := List.any_eq_true.1 h
  rcases Bool.or_eq_true_iff.1 e with e | e
  · exact ⟨x, hx, .inl (eq_of_beq e)⟩
  · exact ⟨x, hx, .inr (eq_of_beq e)⟩
theorem marks_nz : (allMarks.all fun m => markZ m != 0) = true := by decide +kernel
theorem vowel_zero : ((List.range 98).all fun i => markZ (4449 + (i : Int)) == 0) = true := by decide +kernel
def fromR (a b : Int) : Int := orZ (kanaR a b) (pairRow a (rowL b))
theorem pairs_from : (pairsL.all fun x => fromR x.1.1 x.1.2 == x.2) = true := by decide +kernel
theorem rows_pairs : (rowsL.all fun x => (evens x.2).all fun y => lookP pairsL y x.1 == fromR y x.1) = true := by decide +kernel
theorem kana_pairs : (kanaV.all fun x => lookP pairsL x 12441 == fromR x 12441 && lookP pairsL (x + 96) 12441 == fromR (x + 96) 12441) = true := by decide +kernel
theorem kana_pairs2 : (kanaH.all fun x => lookP pairsL x 12442 == fromR x 12442 && lookP pairsL (x + 96) 12442 == fromR (x + 96) 12442) = true := by decide +kernel
theorem kanaR_not {a b : Int} (h : ¬ (b = 12441 ∨ b = 12442)) : kanaR a b = 0 := by
  unfold kanaR
  rw [if_neg (fun e => h (.inl e)), if_neg (fun e => h (.inr e))]
theorem rowL_not {b : Int} (h : b ∉ allMarks) : rowL b = [] := by
  by_cases c : rowL b = []
  · exact c
  · obtain ⟨x, hx, e, _⟩ := lookR_mem c
    exact absurd (List.mem_cons_of_mem _ (List.mem_cons_of_mem _ (List.mem_map.2 ⟨x, hx, e⟩))) h
theorem fromR_eq (a b : Int) : lookP pairsL a b = fromR a b := by
  by_cases h0 : lookP pairsL a b = 0
  · rw [h0]
    by_cases h1 : fromR a b = 0
    · exact h1.symm
    · exfalso
      unfold fromR orZ at h1
      by_cases hk : kanaR a b = 0
      · rw [if_pos hk] at h1
        have hm := pairRow_mem h1
        have hne : rowL b ≠ [] := by intro e; rw [e] at h1; exact h1 rfl
        obtain ⟨x, hx, e1, e2⟩ := lookR_mem hne
        have h2 := List.all_eq_true.1 (List.all_eq_true.1 rows_pairs x hx) a (by rw [← e2]; exact hm)
        have h3 := eq_of_beq h2
        rw [e1, h0] at h3
        unfold fromR orZ at h3
        rw [if_pos hk] at h3
        exact h1 h3.symm
      · have e1 : fromR a b = kanaR a b := by unfold fromR orZ; rw [if_neg hk]
        have h5 : lookP pairsL a b = fromR a b := by
          unfold kanaR at hk
          by_cases c1 : b = 12441
          · subst c1
            rw [if_pos rfl] at hk
            cases hv : hasV kanaV a with
            | false => rw [hv] at hk; exact absurd rfl hk
            | true =>
              obtain ⟨x, hx, e⟩ := hasV_mem hv
              have h2 := Bool.and_eq_true_iff.1 (List.all_eq_true.1 kana_pairs x hx)
              rcases e with rfl | rfl
              · exact eq_of_beq h2.1
              · exact eq_of_beq h2.2
          · rw [if_neg c1] at hk
            by_cases c2 : b = 12442
            · subst c2
              rw [if_pos rfl] at hk
              cases hv : hasV kanaH a with
              | false => rw [hv] at hk; exact absurd rfl hk
              | true =>
                obtain ⟨x, hx, e⟩ := hasV_mem hv
                have h2 := Bool.and_eq_true_iff.1 (List.all_eq_true.1 kana_pairs2 x hx)
                rcases e with rfl | rfl
                · exact eq_of_beq h2.1
                · exact eq_of_beq h2.2
            · rw [if_neg c2] at hk
              exact absurd rfl hk
        rw [h0, e1] at h5
        exact hk h5.symm
  · obtain ⟨x, hx, h1, h2⟩ := look_has pairsL a b h0
    have h3 := eq_of_beq (List.all_eq_true.1 pairs_from x hx)
    rw [h1] at h3
    rw [← h2, ← h3]
theorem refPair_eq (a b : Int) : refPairZ a b = pairZ a b := by
  unfold pairZ
  by_cases hm : markZ b = 0
  · rw [if_pos hm]
    have hn : b ∉ allMarks := by
      intro h
      have := List.all_eq_true.1 marks_nz b h
      rw [hm] at this
      cases this
    unfold refPairZ
    rw [kanaR_not (fun h => hn (by rcases h with rfl | rfl <;> decide)), rowL_not hn]
    show orZ (orZ 0 (syllZ a b)) 0 = syllZ a b
    unfold orZ
    rw [if_pos rfl]
    split
    · rename_i h; exact h.symm
    · rfl
  · rw [if_neg hm, fromR_eq]
    have hs : syllZ a b = 0 := by
      have hz : ∀ k : Int, 4449 ≤ k → k < 4547 → markZ k = 0 := by
        intro k h1 h2
        have := all_range vowel_zero (show (0 : Int) ≤ k - 4449 by omega) (show k - 4449 < (98 : Nat) by omega)
        rw [show 4449 + (((k - 4449).toNat : Nat) : Int) = k by omega] at this
        exact eq_of_beq this
      unfold syllZ
      split
      · rename_i h; exact absurd (hz b (by omega) (by omega)) hm
      · split
        · rename_i h; exact absurd (hz b (by omega) (by omega)) hm
        · rfl
    unfold refPairZ fromR
    rw [hs]
    congr 1
    unfold orZ
    split
    · rename_i h; exact h.symm
    · rfl

/-! ### The pair that a character is -/
def findOdd (c : Int) : List Int → Option Int
  | x :: y :: t => if y = c then some x else findOdd c t
  | _ => none
def rowsFirst (c : Int) : List (Int × List Int) → Option (Int × Int)
  | [] => none
  | x :: t => match findOdd c x.2 with
    | some y => some (y, x.1)
    | none => rowsFirst c t
def firstR (c : Int) : Option (Int × Int) := if 44032 ≤ c ∧ c ≤ 55203 then some (sylZ c) else if kanaR (c - 1) 12441 = c then some (c - 1, 12441) else if kanaR (c - 2) 12442 = c then some (c - 2, 12442) else rowsFirst c rowsL
def partsO (c : Int) : Option (Int × Int) := if (partsZ c).2 = 0 then none else some (partsZ c)
theorem findOdd_mem : ∀ {c x : Int} {l : List Int}, findOdd c l = some x → c ∈ odds l
  | c, x, [], h => by cases h
  | c, x, [_], h => by cases h
  | c, x, _ :: y :: t, h => by
    unfold findOdd at h
    unfold odds
    by_cases e : y = c
    · rw [e]; exact List.mem_cons_self ..
    · rw [if_neg e] at h
      exact List.mem_cons_of_mem _ (findOdd_mem h)
theorem rowsFirst_mem : ∀ {c : Int} {l : List (Int × List Int)} {p : Int × Int}, rowsFirst c l = some p → ∃ x ∈ l, c ∈ odds x.2
  | c, [], p, h => by cases h
  | c, x :: t, p, h => by
    unfold rowsFirst at h
    cases e : findOdd c x.2 with
    | some y => exact ⟨x, List.mem_cons_self .., findOdd_mem e⟩
    | none =>
      rw [e] at h
      obtain ⟨y, hy, h2⟩ := rowsFirst_mem h
      exact ⟨y, List.mem_cons_of_mem _ hy, h2⟩
theorem odds_first : (rowsL.all fun x => (odds x.2).all fun y => decide (firstR y = partsO y ∧ 192 ≤ y)) = true := by decide +kernel
theorem marks_first : (markT.all fun x => x.1.all fun y => decide (firstR y = partsO y)) = true := by decide +kernel
theorem kana_first : ((List.range 192).all fun i => decide (firstR (12352 + (i : Int)) = partsO (12352 + (i : Int)))) = true := by decide +kernel
theorem kana_low : (kanaV.all fun x => decide (12352 ≤ x ∧ x ≤ 12442)) = true := by decide +kernel
theorem kana_low2 : (kanaH.all fun x => decide (12352 ≤ x ∧ x ≤ 12442)) = true := by decide +kernel
theorem kana_in {c k : Int} (h : k = 12441 ∨ k = 12442) (h2 : kanaR (c - (k - 12440)) k = c) (hc : c ≠ 0) : 12352 ≤ c ∧ c < 12544 := by
  rcases h with rfl | rfl
  · unfold kanaR at h2
    rw [if_pos rfl] at h2
    cases hv : hasV kanaV (c - (12441 - 12440)) with
    | false => rw [hv] at h2; exact absurd h2.symm hc
    | true =>
      obtain ⟨x, hx, e⟩ := hasV_mem hv
      have := of_decide_eq_true (List.all_eq_true.1 kana_low x hx)
      omega
  · unfold kanaR at h2
    rw [if_neg (by decide), if_pos rfl] at h2
    cases hv : hasV kanaH (c - (12442 - 12440)) with
    | false => rw [hv] at h2; exact absurd h2.symm hc
    | true =>
      obtain ⟨x, hx, e⟩ := hasV_mem hv
      have := of_decide_eq_true (List.all_eq_true.1 kana_low2 x hx)
      omega
theorem firstR_eq (c : Int) (hc : 128 ≤ c) : firstR c = partsO c := by
  by_cases h2 : 44032 ≤ c ∧ c < 55204
  · unfold firstR partsO partsZ
    have h192 : ¬ c < 192 := by omega
    rw [if_pos (by omega), if_neg h192, if_pos h2]
    have : (sylZ c).2 ≠ 0 := by
      unfold sylZ
      have hm0 := Int.tmod_nonneg (28 : Int) (show (0 : Int) ≤ c - 44032 by omega)
      have hd0 := Int.tdiv_nonneg (show (0 : Int) ≤ c - 44032 by omega) (show (0 : Int) ≤ 28 by decide)
      have hr0 := Int.tmod_nonneg (21 : Int) hd0
      split <;> (simp only; omega)
    rw [if_neg this]
  · by_cases h3 : 12352 ≤ c ∧ c < 12544
    · have := all_range kana_first (show (0 : Int) ≤ c - 12352 by omega) (show c - 12352 < (192 : Nat) by omega)
      rw [show 12352 + (((c - 12352).toNat : Nat) : Int) = c by omega] at this
      exact of_decide_eq_true this
    · by_cases hk : lookI markT 0 c = 0
      · have hp : partsO c = none := by
          unfold partsO partsZ
          by_cases h1 : c < 192
          · rw [if_pos h1, if_pos rfl]
          · rw [if_neg h1, if_neg h2, if_neg h3, if_pos hk]
        rw [hp]
        cases hf : firstR c with
        | none => rfl
        | some p =>
          exfalso
          unfold firstR at hf
          rw [if_neg (by omega)] at hf
          by_cases k1 : kanaR (c - 1) 12441 = c
          · have := kana_in (c := c) (.inl rfl) k1 (by omega); omega
          · rw [if_neg k1] at hf
            by_cases k2 : kanaR (c - 2) 12442 = c
            · have := kana_in (c := c) (.inr rfl) k2 (by omega); omega
            · rw [if_neg k2] at hf
              obtain ⟨x, hx, ho⟩ := rowsFirst_mem hf
              have := of_decide_eq_true (List.all_eq_true.1 (List.all_eq_true.1 odds_first x hx) c ho)
              rw [hp] at this
              unfold firstR at this
              rw [if_neg (by omega), if_neg k1, if_neg k2, hf] at this
              cases this.1
      · obtain ⟨x, hx, hi⟩ := lookI_key hk
        exact of_decide_eq_true (List.all_eq_true.1 (List.all_eq_true.1 marks_first x hx) c (hasI_mem hi))
end Go.Proofs.YtjkakemlhhieoaaGreatDoor

/- The document's row, voiced, marks, kana and syllable, walked. (Made by tools/mkrefk.py.) -/
namespace Go.Proofs.YtjkakemlhhieoaaGreatDoor
open Go.RowKit Go.Lib

set_option maxRecDepth 100000 in
set_option maxHeartbeats 4000000 in
theorem row_any (m : Int) (w : World) : Calls Tryz.prog 108 #[.int .i32 m] w fun e w' => e = .returned (.string ⟨(rowB m).toArray⟩) ∧ w' = w := by
  by_cases h768 : m = 768
  · subst h768
    obtain ⟨R, hR⟩ : ∃ R : ByteArray, ⟨(rowB 768).toArray⟩ = R := ⟨_, rfl⟩
    rw [hR]
    go_enter Tryz.func108, Tryz.ntmps108
    go_wp2
    go_ret
    exact ⟨by rw [← hR]; kernel_rfl, rfl⟩
  by_cases h769 : m = 769
  · subst h769
    obtain ⟨R, hR⟩ : ∃ R : ByteArray, ⟨(rowB 769).toArray⟩ = R := ⟨_, rfl⟩
    rw [hR]
    go_enter Tryz.func108, Tryz.ntmps108
    go_wp2
    go_ret
    exact ⟨by rw [← hR]; kernel_rfl, rfl⟩
  by_cases h770 : m = 770
  · subst h770
    obtain ⟨R, hR⟩ : ∃ R : ByteArray, ⟨(rowB 770).toArray⟩ = R := ⟨_, rfl⟩
    rw [hR]
    go_enter Tryz.func108, Tryz.ntmps108
    go_wp2
    go_ret
    exact ⟨by rw [← hR]; kernel_rfl, rfl⟩
  by_cases h771 : m = 771
  · subst h771
    obtain ⟨R, hR⟩ : ∃ R : ByteArray, ⟨(rowB 771).toArray⟩ = R := ⟨_, rfl⟩
    rw [hR]
    go_enter Tryz.func108, Tryz.ntmps108
    go_wp2
    go_ret
    exact ⟨by rw [← hR]; kernel_rfl, rfl⟩
  by_cases h772 : m = 772
  · subst h772
    obtain ⟨R, hR⟩ : ∃ R : ByteArray, ⟨(rowB 772).toArray⟩ = R := ⟨_, rfl⟩
    rw [hR]
    go_enter Tryz.func108, Tryz.ntmps108
    go_wp2
    go_ret
    exact ⟨by rw [← hR]; kernel_rfl, rfl⟩
  by_cases h774 : m = 774
  · subst h774
    obtain ⟨R, hR⟩ : ∃ R : ByteArray, ⟨(rowB 774).toArray⟩ = R := ⟨_, rfl⟩
    rw [hR]
    go_enter Tryz.func108, Tryz.ntmps108
    go_wp2
    go_ret
    exact ⟨by rw [← hR]; kernel_rfl, rfl⟩
  by_cases h775 : m = 775
  · subst h775
    obtain ⟨R, hR⟩ : ∃ R : ByteArray, ⟨(rowB 775).toArray⟩ = R := ⟨_, rfl⟩
    rw [hR]
    go_enter Tryz.func108, Tryz.ntmps108
    go_wp2
    go_ret
    exact ⟨by rw [← hR]; kernel_rfl, rfl⟩
  by_cases h776 : m = 776
  · subst h776
    obtain ⟨R, hR⟩ : ∃ R : ByteArray, ⟨(rowB 776).toArray⟩ = R := ⟨_, rfl⟩
    rw [hR]
    go_enter Tryz.func108, Tryz.ntmps108
    go_wp2
    go_ret
    exact ⟨by rw [← hR]; kernel_rfl, rfl⟩
  by_cases h778 : m = 778
  · subst h778
    obtain ⟨R, hR⟩ : ∃ R : ByteArray, ⟨(rowB 778).toArray⟩ = R := ⟨_, rfl⟩
    rw [hR]
    go_enter Tryz.func108, Tryz.ntmps108
    go_wp2
    go_ret
    exact ⟨by rw [← hR]; kernel_rfl, rfl⟩
  by_cases h779 : m = 779
  · subst h779
    obtain ⟨R, hR⟩ : ∃ R : ByteArray, ⟨(rowB 779).toArray⟩ = R := ⟨_, rfl⟩
    rw [hR]
    go_enter Tryz.func108, Tryz.ntmps108
    go_wp2
    go_ret
    exact ⟨by rw [← hR]; kernel_rfl, rfl⟩
  by_cases h780 : m = 780
  · subst h780
    obtain ⟨R, hR⟩ : ∃ R : ByteArray, ⟨(rowB 780).toArray⟩ = R := ⟨_, rfl⟩
    rw [hR]
    go_enter Tryz.func108, Tryz.ntmps108
    go_wp2
    go_ret
    exact ⟨by rw [← hR]; kernel_rfl, rfl⟩
  by_cases h807 : m = 807
  · subst h807
    obtain ⟨R, hR⟩ : ∃ R : ByteArray, ⟨(rowB 807).toArray⟩ = R := ⟨_, rfl⟩
    rw [hR]
    go_enter Tryz.func108, Tryz.ntmps108
    go_wp2
    go_ret
    exact ⟨by rw [← hR]; kernel_rfl, rfl⟩
  by_cases h808 : m = 808
  · subst h808
    obtain ⟨R, hR⟩ : ∃ R : ByteArray, ⟨(rowB 808).toArray⟩ = R := ⟨_, rfl⟩
    rw [hR]
    go_enter Tryz.func108, Tryz.ntmps108
    go_wp2
    go_ret
    exact ⟨by rw [← hR]; kernel_rfl, rfl⟩
  have e : rowB m = [] := by
    unfold rowB rowsB
    simp only [h768, h769, h770, h771, h772, h774, h775, h776, h778, h779, h780, h807, h808, if_false, lookR]
  rw [e]
  go_enter Tryz.func108, Tryz.ntmps108
  go_wp2
  go_ret
  exact ⟨rfl, rfl⟩
set_option maxRecDepth 100000 in
theorem voiced_any4 (w : World) : Calls Tryz.prog 114 #[] w fun e w' => ∃ g, e = .returned (.slice (some ⟨g, 0, none⟩) 20 20) ∧ g < w'.heap.size ∧ (∀ k, k < 20 → w'.cell? ⟨g, k, none⟩ = some (.int .i32 (kanaV.getD k 0))) ∧ Below w.heap.size w w' := by
  go_enter Tryz.func114, Tryz.ntmps114
  go_wp2_with fail
  go_ret
  have hc := new_cells w (kanaV.map (Value.int .i32)) 21
  refine ⟨w.heap.size, rfl, by simp, fun k hk => ?_, (Below.refl _ w).alloc (Nat.le_refl _) _⟩
  have h := hc k _ (by rw [List.getElem?_map, List.getElem?_eq_getElem (show k < kanaV.length from hk)]; rfl)
  rw [Addr.add_lit, Nat.zero_add] at h
  have e : kanaV.getD k 0 = kanaV[k]'(show k < kanaV.length from hk) := by rw [List.getD_eq_getElem?_getD, List.getElem?_eq_getElem (show k < kanaV.length from hk)]; rfl
  rw [e]
  exact h
def marks13 : List Int := [768, 769, 770, 771, 772, 774, 775, 776, 778, 779, 780, 807, 808]
set_option maxRecDepth 100000 in
theorem marks_any4 (w : World) : Calls Tryz.prog 106 #[] w fun e w' => ∃ g, e = .returned (.slice (some ⟨g, 0, none⟩) 13 13) ∧ g < w'.heap.size ∧ (∀ k, k < 13 → w'.cell? ⟨g, k, none⟩ = some (.int .i32 (marks13.getD k 0))) ∧ Below w.heap.size w w' := by
  go_enter Tryz.func106, Tryz.ntmps106
  go_wp2_with fail
  go_ret
  have hc := new_cells w (marks13.map (Value.int .i32)) 21
  refine ⟨w.heap.size, rfl, by simp, fun k hk => ?_, (Below.refl _ w).alloc (Nat.le_refl _) _⟩
  have h := hc k _ (by rw [List.getElem?_map, List.getElem?_eq_getElem (show k < marks13.length from hk)]; rfl)
  rw [Addr.add_lit, Nat.zero_add] at h
  have e : marks13.getD k 0 = marks13[k]'(show k < marks13.length from hk) := by rw [List.getD_eq_getElem?_getD, List.getElem?_eq_getElem (show k < marks13.length from hk)]; rfl
  rw [e]
  exact h

theorem kanaV_in : (List.range 20).all (fun k => decide (12363 ≤ kanaV.getD k 0 ∧ kanaV.getD k 0 ≤ 12411)) = true := by decide +kernel
theorem kanaR_end {a b : Int} (h : ∀ j, j < 20 → (a = kanaV.getD j 0 ∨ a = kanaV.getD j 0 + 96) → b ≠ 12441 ∧ ¬ (b = 12442 ∧ 15 ≤ j)) : kanaR a b = 0 := by
  unfold kanaR
  by_cases c1 : b = 12441
  · rw [if_pos c1]
    cases hv : hasV kanaV a with
    | false => rfl
    | true =>
      exfalso
      obtain ⟨x, hx, e⟩ := hasV_mem hv
      obtain ⟨j, hj, rfl⟩ := List.mem_iff_getElem.1 hx
      have hg : kanaV.getD j 0 = kanaV[j] := by rw [List.getD_eq_getElem?_getD, List.getElem?_eq_getElem hj]; rfl
      exact (h j hj (by rw [hg]; exact e)).1 c1
  · rw [if_neg c1]
    by_cases c2 : b = 12442
    · rw [if_pos c2]
      cases hv : hasV kanaH a with
      | false => rfl
      | true =>
        exfalso
        obtain ⟨x, hx, e⟩ := hasV_mem hv
        obtain ⟨j, hj, rfl⟩ := List.mem_iff_getElem.1 hx
        have hd : kanaH = kanaV.drop 15 := by decide
        have hj2 : j < 5 := hj
        have hg : kanaV.getD (15 + j) 0 = kanaH[j] := by
          rw [List.getD_eq_getElem?_getD, List.getElem?_eq_getElem (show 15 + j < kanaV.length by show 15 + j < 20; omega)]
          simp only [Option.getD_some, hd, List.getElem_drop]
        exact (h (15 + j) (by omega) (by rw [hg]; exact e)).2 ⟨c2, by omega⟩
    · rw [if_neg c2]
theorem kanaR_one {a : Int} {j : Nat} (hj : j < 20) (h : a = kanaV.getD j 0 ∨ a = kanaV.getD j 0 + 96) : kanaR a 12441 = a + 1 := by
  have hv : hasV kanaV a = true := by
    unfold hasV
    rw [List.any_eq_true]
    refine ⟨kanaV.getD j 0, ?_, ?_⟩
    · rw [List.getD_eq_getElem?_getD, List.getElem?_eq_getElem (show j < kanaV.length from hj)]
      exact List.getElem_mem _
    · rcases h with h | h
      · exact Bool.or_eq_true_iff.2 (.inl (beq_iff_eq.2 h))
      · exact Bool.or_eq_true_iff.2 (.inr (beq_iff_eq.2 h))
  unfold kanaR
  rw [if_pos rfl, if_pos hv]
theorem kanaR_two {a : Int} {j : Nat} (hj : j < 20) (h15 : 15 ≤ j) (h : a = kanaV.getD j 0 ∨ a = kanaV.getD j 0 + 96) : kanaR a 12442 = a + 2 := by
  have hd : kanaH = kanaV.drop 15 := by decide
  have hv : hasV kanaH a = true := by
    unfold hasV
    rw [List.any_eq_true]
    refine ⟨kanaV.getD j 0, ?_, ?_⟩
    · rw [List.getD_eq_getElem?_getD, List.getElem?_eq_getElem (show j < kanaV.length from hj), hd]
      have : kanaV[j]'(show j < kanaV.length from hj) = (kanaV.drop 15)[j - 15]'(by rw [List.length_drop]; show j - 15 < 20 - 15; omega) := by
        rw [List.getElem_drop]
        congr 1
        omega
      rw [Option.getD_some, this]
      exact List.getElem_mem _
    · rcases h with h | h
      · exact Bool.or_eq_true_iff.2 (.inl (beq_iff_eq.2 h))
      · exact Bool.or_eq_true_iff.2 (.inr (beq_iff_eq.2 h))
  unfold kanaR
  rw [if_neg (by decide), if_pos rfl, if_pos hv]

set_option maxRecDepth 100000 in
set_option maxHeartbeats 4000000 in
theorem rkana_any (a b : Int) (w : World) : Calls Tryz.prog 105 #[.int .i32 a, .int .i32 b] w fun e w' => e = .returned (.int .i32 (kanaR a b)) ∧ Below w.heap.size w w' := by
  have HV := Lib.hid (voiced_any4 w)
  have HR1 := Lib.hid (fun (j : Nat) (h1 : j < 20) (h2 : a = kanaV.getD j 0 ∨ a = kanaV.getD j 0 + 96) => kanaR_one h1 h2)
  have HR2 := Lib.hid (fun (j : Nat) (h1 : j < 20) (h15 : 15 ≤ j) (h2 : a = kanaV.getD j 0 ∨ a = kanaV.getD j 0 + 96) => kanaR_two h1 h15 h2)
  have HR0 := Lib.hid (fun h => kanaR_end (a := a) (b := b) h)
  have HB1 := Lib.hid (fun (h : b = 12441) => show kanaR a b = kanaR a 12441 by rw [h])
  have HB2 := Lib.hid (fun (h : b = 12442) => show kanaR a b = kanaR a 12442 by rw [h])
  obtain ⟨R, hR⟩ : ∃ R, kanaR a b = R := ⟨_, rfl⟩
  rw [hR] at HR0 HB1 HB2 ⊢
  clear hR
  go_enter Tryz.func105, Tryz.ntmps105
  go_wp2_with fail
  refine HV.out.mono ?_
  rintro _ w1 ⟨g, rfl, hg, hc, b1⟩
  have HC := Lib.hid hc
  have Hb1 := Lib.hid b1
  clear hc b1
  go_wp2_with fail
  go_loopw [6] (fun i wr => ∃ k : Nat, k ≤ 20 ∧ i = .int .i64 k ∧ wr = w1 ∧ Hid (∀ j, j < k → (a = kanaV.getD j 0 ∨ a = kanaV.getD j 0 + 96) → b ≠ 12441 ∧ ¬ (b = 12442 ∧ 15 ≤ j))) (fun i _ => 20 - (RowKit.intOf i).toNat)
  case atStart => exact ⟨0, by omega, rfl, rfl, by unfold Hid; intro j hj; omega⟩
  case round =>
    obtain ⟨k, hk, rfl, rfl, hno⟩ := hrel
    by_cases hkn : k < 20
    · have hki : (k : Int) < 20 := by omega
      have hcell := HC.out k hkn
      have hin := of_decide_eq_true (List.all_eq_true.1 kanaV_in k (List.mem_range.2 hkn))
      have HR1k := Lib.hid (HR1.out k hkn)
      have HR2k := Lib.hid (HR2.out k hkn)
      have Hno := Lib.hid (fun (hn : (a = kanaV.getD k 0 ∨ a = kanaV.getD k 0 + 96) → b ≠ 12441 ∧ ¬ (b = 12442 ∧ 15 ≤ k)) => show ∀ j, j < k + 1 → (a = kanaV.getD j 0 ∨ a = kanaV.getD j 0 + 96) → b ≠ 12441 ∧ ¬ (b = 12442 ∧ 15 ≤ j) from fun j hj h => by
        rcases Nat.lt_or_ge j k with h2 | h2
        · exact hno.out j h2 h
        · obtain rfl : j = k := by omega
          exact hn h)
      clear hno
      obtain ⟨y, hy⟩ : ∃ y, kanaV.getD k 0 = y := ⟨_, rfl⟩
      rw [hy] at hcell hin HR1k HR2k
      simp only [hy] at Hno
      clear hy
      have w0 : IntKind.i32.wrap (y + 96) = y + 96 := IntWalk.i32_in _ (by omega)
      by_cases hm : a = y ∨ a = y + 96
      · have w1' : IntKind.i32.wrap (a + 1) = a + 1 := IntWalk.i32_in _ (by omega)
        have w2' : IntKind.i32.wrap (a + 2) = a + 2 := IntWalk.i32_in _ (by omega)
        have HR1m := Lib.hid (HR1k.out hm)
        have HR2m := Lib.hid (fun h15 => HR2k.out h15 hm)
        have Hm := Lib.hid hm
        by_cases hb1 : b = 12441
        · have HE := Lib.hid ((HB1.out hb1).trans HR1m.out)
          clear hm
          subst hb1
          by_cases hay : a = y
          · have q1 : (a != y) = false := by simp [hay]
            have Hay := Lib.hid hay
            clear hay
            go_wp2
            go_ret
            exact ⟨by rw [HE.out]; first | done | rfl, Hb1.out⟩
          · have hay2 : a = y + 96 := by rcases Hm.out with h | h; exact absurd h hay; exact h
            have q1 : (a != y) = true := by simp [hay]
            have q2 : (a != y + 96) = false := by simp [hay2]
            have Hay := Lib.hid hay
            have Hay2 := Lib.hid hay2
            clear hay hay2
            go_wp2
            go_ret
            exact ⟨by rw [HE.out]; first | done | rfl, Hb1.out⟩
        · by_cases hb2 : b = 12442 ∧ 15 ≤ k
          · obtain ⟨hb2, h15⟩ := hb2
            have HE := Lib.hid ((HB2.out hb2).trans (HR2m.out h15))
            have h15i : (15 : Int) ≤ (k : Int) := by omega
            clear hm hb1
            subst hb2
            by_cases hay : a = y
            · have q1 : (a != y) = false := by simp [hay]
              have Hay := Lib.hid hay
              clear hay
              go_wp2
              go_ret
              exact ⟨by rw [HE.out]; first | done | rfl, Hb1.out⟩
            · have hay2 : a = y + 96 := by rcases Hm.out with h | h; exact absurd h hay; exact h
              have q1 : (a != y) = true := by simp [hay]
              have q2 : (a != y + 96) = false := by simp [hay2]
              have Hay := Lib.hid hay
              have Hay2 := Lib.hid hay2
              clear hay hay2
              go_wp2
              go_ret
              exact ⟨by rw [HE.out]; first | done | rfl, Hb1.out⟩
          · have Hnx := Lib.hid (Hno.out fun _ => ⟨hb1, hb2⟩)
            have hb3 : b = 12442 → ¬ (15 : Int) ≤ (k : Int) := fun e h => hb2 ⟨e, by omega⟩
            have hb4 : ¬ b = 12441 := hb1
            clear hm hb2 hb1
            by_cases hb5 : b = 12442
            · have hb6 := hb3 hb5
              clear hb3
              subst hb5
              by_cases hay : a = y
              · have q1 : (a != y) = false := by simp [hay]
                have Hay := Lib.hid hay
                clear hay
                go_wp2
                go_roundw
                case rel => exact ⟨k + 1, by omega, by go_num, by first | trivial | rfl, by first | exact Hnx | (have h := Hnx.out; unfold Hid; simpa using h)⟩
                case measure => simp [RowKit.intOf]; omega
              · have hay2 : a = y + 96 := by rcases Hm.out with h | h; exact absurd h hay; exact h
                have q1 : (a != y) = true := by simp [hay]
                have q2 : (a != y + 96) = false := by simp [hay2]
                have Hay := Lib.hid hay
                have Hay2 := Lib.hid hay2
                clear hay hay2
                go_wp2
                go_roundw
                case rel => exact ⟨k + 1, by omega, by go_num, by first | trivial | rfl, by first | exact Hnx | (have h := Hnx.out; unfold Hid; simpa using h)⟩
                case measure => simp [RowKit.intOf]; omega
            · clear hb3
              by_cases hay : a = y
              · have q1 : (a != y) = false := by simp [hay]
                have Hay := Lib.hid hay
                clear hay
                go_wp2
                go_roundw
                case rel => exact ⟨k + 1, by omega, by go_num, by first | trivial | rfl, by first | exact Hnx | (have h := Hnx.out; unfold Hid; simpa using h)⟩
                case measure => simp [RowKit.intOf]; omega
              · have hay2 : a = y + 96 := by rcases Hm.out with h | h; exact absurd h hay; exact h
                have q1 : (a != y) = true := by simp [hay]
                have q2 : (a != y + 96) = false := by simp [hay2]
                have Hay := Lib.hid hay
                have Hay2 := Lib.hid hay2
                clear hay hay2
                go_wp2
                go_roundw
                case rel => exact ⟨k + 1, by omega, by go_num, by first | trivial | rfl, by first | exact Hnx | (have h := Hnx.out; unfold Hid; simpa using h)⟩
                case measure => simp [RowKit.intOf]; omega
      · have Hnx := Lib.hid (Hno.out fun h => absurd h hm)
        have q1 : (a != y) = true := by simp; exact fun h => hm (.inl h)
        have q2 : (a != y + 96) = true := by simp; exact fun h => hm (.inr h)
        clear hm
        go_wp2
        go_roundw
        case rel => exact ⟨k + 1, by omega, by go_num, by first | trivial | rfl, by first | exact Hnx | (have h := Hnx.out; unfold Hid; simpa using h)⟩
        case measure => simp [RowKit.intOf]; omega
    · obtain rfl : k = 20 := by omega
      have HE := Lib.hid (HR0.out hno.out)
      clear hno
      go_wp2
      go_ret
      exact ⟨by rw [HE.out]; first | done | rfl, Hb1.out⟩

end Go.Proofs.YtjkakemlhhieoaaGreatDoor
