/- The switches of norm over letters: their tables, and their contracts. (Made by tools/mkletters.py out of the program's own code.) -/
import Derived.Test.YtjkakemlhhieoaaGreatDoorSwG
import Derived.Test.YtjkakemlhhieoaaGreatDoorMem
import Derived.Test.YtjkakemlhhieoaaGreatDoorProg
set_option linter.unusedSimpArgs false
set_option linter.unusedVariables false
namespace Go.Proofs.YtjkakemlhhieoaaGreatDoor
open Go.RowKit Go.Lib

def markT : List (List Int × Int) := [([192, 200, 204, 210, 217, 224, 232, 236, 242, 249, 7846, 7847, 7872, 7873, 7890, 7891], 768), ([193, 201, 205, 211, 218, 221, 225, 233, 237, 243, 250, 253, 262, 263, 313, 314, 323, 324, 340, 341, 346, 347, 377, 378, 902, 904, 905, 906, 908, 910, 911, 912, 940, 941, 942, 943, 944, 972, 973, 974, 1027, 1036, 1107, 1116, 7844, 7845, 7870, 7871, 7888, 7889], 769), ([194, 202, 206, 212, 219, 226, 234, 238, 244, 251, 264, 265, 284, 285, 292, 293, 308, 309, 348, 349, 372, 373, 374, 375], 770), ([195, 209, 213, 227, 241, 245, 296, 297, 360, 361], 771), ([256, 257, 274, 275, 298, 299, 332, 333, 362, 363], 772), ([258, 259, 276, 277, 286, 287, 300, 301, 334, 335, 364, 365, 1038, 1049, 1081, 1118], 774), ([266, 267, 278, 279, 288, 289, 304, 379, 380], 775), ([196, 203, 207, 214, 220, 228, 235, 239, 246, 252, 255, 376, 938, 939, 970, 971, 1025, 1031, 1105, 1111], 776), ([197, 229, 366, 367], 778), ([336, 337, 368, 369], 779), ([268, 269, 270, 271, 282, 283, 317, 318, 327, 328, 344, 345, 352, 353, 356, 357, 381, 382], 780), ([199, 231, 290, 291, 310, 311, 315, 316, 325, 326, 342, 343, 350, 351, 354, 355], 807), ([260, 261, 280, 281, 302, 303, 370, 371], 808)]
theorem markOf_any (x : Int) (w : World) : Calls Tryz.prog 104 #[.int .i32 x] w fun e w' => e = .returned (.int .i32 (lookI markT 0 x)) ∧ w' = w :=
  tableI_calls Tryz.func104 rfl rfl rfl 0 rfl rfl rfl rfl rfl (by decide) 500 markT 0 (by kernel_rfl) (by kernel_rfl) (by kernel_rfl) x w
def greatT : List (List Int × Int) := [([192, 193, 194, 195, 196, 197, 256, 258, 260], 65), ([199, 262, 264, 266, 268], 67), ([270], 68), ([200, 201, 202, 203, 274, 276, 278, 280, 282], 69), ([284, 286, 288, 290], 71), ([292], 72), ([204, 205, 206, 207, 296, 298, 300, 302, 304], 73), ([308], 74), ([310], 75), ([313, 315, 317], 76), ([209, 323, 325, 327], 78), ([210, 211, 212, 213, 214, 332, 334, 336], 79), ([340, 342, 344], 82), ([346, 348, 350, 352], 83), ([354, 356], 84), ([217, 218, 219, 220, 360, 362, 364, 366, 368, 370], 85), ([372], 87), ([221, 374, 376], 89), ([377, 379, 381], 90), ([7844, 7846], 194), ([7870, 7872], 202), ([7888, 7890], 212)]
theorem greatLatin_any (x : Int) (w : World) : Calls Tryz.prog 112 #[.int .i32 x] w fun e w' => e = .returned (.int .i32 (lookI greatT 0 x)) ∧ w' = w :=
  tableI_calls Tryz.func112 rfl rfl rfl 0 rfl rfl rfl rfl rfl (by decide) 500 greatT 0 (by kernel_rfl) (by kernel_rfl) (by kernel_rfl) x w
def smallT : List (List Int × Int) := [([224, 225, 226, 227, 228, 229, 257, 259, 261], 97), ([231, 263, 265, 267, 269], 99), ([271], 100), ([232, 233, 234, 235, 275, 277, 279, 281, 283], 101), ([285, 287, 289, 291], 103), ([293], 104), ([236, 237, 238, 239, 297, 299, 301, 303], 105), ([309], 106), ([311], 107), ([314, 316, 318], 108), ([241, 324, 326, 328], 110), ([242, 243, 244, 245, 246, 333, 335, 337], 111), ([341, 343, 345], 114), ([347, 349, 351, 353], 115), ([355, 357], 116), ([249, 250, 251, 252, 361, 363, 365, 367, 369, 371], 117), ([373], 119), ([253, 255, 375], 121), ([378, 380, 382], 122), ([7845, 7847], 226), ([7871, 7873], 234), ([7889, 7891], 244)]
theorem smallLatin_any (x : Int) (w : World) : Calls Tryz.prog 113 #[.int .i32 x] w fun e w' => e = .returned (.int .i32 (lookI smallT 0 x)) ∧ w' = w :=
  tableI_calls Tryz.func113 rfl rfl rfl 0 rfl rfl rfl rfl rfl (by decide) 500 smallT 0 (by kernel_rfl) (by kernel_rfl) (by kernel_rfl) x w
def greekT : List (List Int × Int) := [([902], 913), ([904], 917), ([905], 919), ([906, 938], 921), ([908], 927), ([910, 939], 933), ([911], 937), ([940], 945), ([941], 949), ([942], 951), ([943, 970], 953), ([972], 959), ([971, 973], 965), ([974], 969), ([912], 970), ([944], 971)]
theorem greek_any (x : Int) (w : World) : Calls Tryz.prog 110 #[.int .i32 x] w fun e w' => e = .returned (.int .i32 (lookI greekT 0 x)) ∧ w' = w :=
  tableI_calls Tryz.func110 rfl rfl rfl 0 rfl rfl rfl rfl rfl (by decide) 500 greekT 0 (by kernel_rfl) (by kernel_rfl) (by kernel_rfl) x w
def cyrT : List (List Int × Int) := [([1031], 1030), ([1027], 1043), ([1025], 1045), ([1049], 1048), ([1036], 1050), ([1038], 1059), ([1107], 1075), ([1105], 1077), ([1081], 1080), ([1116], 1082), ([1118], 1091), ([1111], 1110)]
theorem cyrillic_any (x : Int) (w : World) : Calls Tryz.prog 111 #[.int .i32 x] w fun e w' => e = .returned (.int .i32 (lookI cyrT 0 x)) ∧ w' = w :=
  tableI_calls Tryz.func111 rfl rfl rfl 0 rfl rfl rfl rfl rfl (by decide) 500 cyrT 0 (by kernel_rfl) (by kernel_rfl) (by kernel_rfl) x w
end Go.Proofs.YtjkakemlhhieoaaGreatDoor

/- What a character is the pair of: single, within, the syllables, the kana, letterOf, parts. -/
namespace Go.Proofs.YtjkakemlhhieoaaGreatDoor
open Go.RowKit Go.Lib Go.Great

def kanaV : List Int := [0x304b, 0x304d, 0x304f, 0x3051, 0x3053, 0x3055, 0x3057, 0x3059, 0x305b, 0x305d, 0x305f, 0x3061, 0x3064, 0x3066, 0x3068, 0x306f, 0x3072, 0x3075, 0x3078, 0x307b]
def kanaH : List Int := [0x306f, 0x3072, 0x3075, 0x3078, 0x307b]
def kanaL (x : Int) : Int := if 12448 ≤ x then x - 96 else x
def kanaZ (x : Int) : Int × Int := bif hasI kanaV (kanaL x - 1) then (x - 1, 12441) else bif hasI kanaH (kanaL x - 2) then (x - 2, 12442) else (0, 0)
def singleZ (x : Int) : Int := if x = 0x212a then 75 else if x = 0x2126 then 937 else if x = 0x212b then 197 else x
def sylZ (x : Int) : Int × Int := if (x - 44032).tmod 28 ≠ 0 then (x - (x - 44032).tmod 28, 4519 + (x - 44032).tmod 28) else (4352 + ((x - 44032).tdiv 28).tdiv 21, 4449 + ((x - 44032).tdiv 28).tmod 21)
def letterZ (x : Int) : Int := if 880 ≤ x ∧ x < 1024 then lookI greekT 0 x else if 1024 ≤ x ∧ x < 1280 then lookI cyrT 0 x else if lookI greatT 0 x ≠ 0 then lookI greatT 0 x else lookI smallT 0 x
def partsZ (x : Int) : Int × Int := if x < 192 then (0, 0) else if 44032 ≤ x ∧ x < 55204 then sylZ x else if 12352 ≤ x ∧ x < 12544 then kanaZ x else (letterZ x, lookI markT 0 x)

theorem singleN_any (x : Int) (w : World) : Calls Tryz.prog 89 #[.int .i32 x] w fun e w' => e = .returned (.int .i32 (singleZ x)) ∧ w' = w := by
  unfold singleZ
  go_enter Tryz.func89, Tryz.ntmps89
  by_cases h1 : x = 0x212a
  · subst h1
    go_wp2
    go_ret
    exact ⟨rfl, rfl⟩
  · rw [if_neg h1]
    by_cases h2 : x = 0x2126
    · subst h2
      go_wp2
      go_ret
      exact ⟨rfl, rfl⟩
    · rw [if_neg h2]
      by_cases h3 : x = 0x212b
      · subst h3
        go_wp2
        go_ret
        exact ⟨rfl, rfl⟩
      · rw [if_neg h3]
        go_wp2
        go_ret
        exact ⟨rfl, rfl⟩
theorem withinN_any (x a n : Int) (w : World) (h : IntKind.i32.wrap (a + n) = a + n) : Calls Tryz.prog 100 #[.int .i32 x, .int .i32 a, .int .i32 n] w fun e w' => e = .returned (.bool (decide (a ≤ x ∧ x < a + n))) ∧ w' = w := by
  go_enter Tryz.func100, Tryz.ntmps100
  by_cases h1 : a ≤ x
  · by_cases h2 : x < a + n
    · rw [decide_eq_true ⟨h1, h2⟩]
      go_wp2
      go_ret
      exact ⟨rfl, rfl⟩
    · rw [decide_eq_false (fun h => h2 h.2)]
      go_wp2
      go_ret
      exact ⟨rfl, rfl⟩
  · rw [decide_eq_false (fun h => h1 h.1)]
    go_wp2
    go_ret
    exact ⟨rfl, rfl⟩

theorem syllableParts_any (x : Int) (w : World) (h1 : 44032 ≤ x) (h2 : x < 55204) : Calls Tryz.prog 101 #[.int .i32 x] w fun e w' => e = .returned (.tuple #[.int .i32 (sylZ x).1, .int .i32 (sylZ x).2]) ∧ w' = w := by
  have w1 : IntKind.i32.wrap (x - 44032) = x - 44032 := IntWalk.i32_in _ (by omega)
  have hm := Int.tmod_lt_of_pos (x - 44032) (show (0 : Int) < 28 by decide)
  have hm0 := Int.tmod_nonneg (28 : Int) (show (0 : Int) ≤ x - 44032 by omega)
  have hd0 := Int.tdiv_nonneg (show (0 : Int) ≤ x - 44032 by omega) (show (0 : Int) ≤ 28 by decide)
  have hd1 : (x - 44032).tdiv 28 < 399 := by rw [Int.tdiv_eq_ediv_of_nonneg (by omega)]; omega
  unfold sylZ
  obtain ⟨m, hmm⟩ : ∃ m, (x - 44032).tmod 28 = m := ⟨_, rfl⟩
  obtain ⟨d, hdd⟩ : ∃ d, (x - 44032).tdiv 28 = d := ⟨_, rfl⟩
  rw [hmm] at hm hm0 ⊢
  rw [hdd] at hd0 hd1 ⊢
  have w2 : IntKind.i32.wrap (x - m) = x - m := IntWalk.i32_in _ (by omega)
  have w3 : IntKind.i32.wrap (4519 + m) = 4519 + m := IntWalk.i32_in _ (by omega)
  have hq0 := Int.tdiv_nonneg hd0 (show (0 : Int) ≤ 21 by decide)
  have hq1 : d.tdiv 21 < 20 := by rw [Int.tdiv_eq_ediv_of_nonneg hd0]; omega
  have hr0 := Int.tmod_nonneg (21 : Int) hd0
  have hr1 := Int.tmod_lt_of_pos d (show (0 : Int) < 21 by decide)
  have w4 : IntKind.i32.wrap d = d := IntWalk.i32_in _ (by omega)
  have w5 : IntKind.i32.wrap (d.tdiv 21) = d.tdiv 21 := IntWalk.i32_in _ (by omega)
  have w6 : IntKind.i32.wrap (4352 + d.tdiv 21) = 4352 + d.tdiv 21 := IntWalk.i32_in _ (by omega)
  have w7 : IntKind.i32.wrap (4449 + d.tmod 21) = 4449 + d.tmod 21 := IntWalk.i32_in _ (by omega)
  have w8 : IntKind.i32.wrap (d.tmod 21) = d.tmod 21 := IntWalk.i32_in _ (by omega)
  have w9 : IntKind.i32.wrap m = m := IntWalk.i32_in _ (by omega)
  go_enter Tryz.func101, Tryz.ntmps101
  by_cases h0 : m = 0
  · rw [if_neg (fun h => h h0)]
    go_wp2
    go_ret2
    exact ⟨by rw [Int.tmod_eq_emod_of_nonneg hd0]; rfl, rfl⟩
  · rw [if_pos h0]
    go_wp2
    go_ret2
    exact ⟨rfl, rfl⟩

theorem letterOf_any (x : Int) (w : World) : Calls Tryz.prog 103 #[.int .i32 x] w fun e w' => e = .returned (.int .i32 (letterZ x)) ∧ w' = w := by
  have H1 := Lib.hid (withinN_any x 880 144 w (by decide))
  have H2 := Lib.hid (withinN_any x 1024 256 w (by decide))
  have H3 := Lib.hid (greek_any x w)
  have H4 := Lib.hid (cyrillic_any x w)
  have H5 := Lib.hid (greatLatin_any x w)
  have H6 := Lib.hid (smallLatin_any x w)
  unfold letterZ
  obtain ⟨a, ha⟩ : ∃ a, lookI greekT 0 x = a := ⟨_, rfl⟩
  obtain ⟨b, hb⟩ : ∃ b, lookI cyrT 0 x = b := ⟨_, rfl⟩
  obtain ⟨c, hc⟩ : ∃ c, lookI greatT 0 x = c := ⟨_, rfl⟩
  obtain ⟨d, hd⟩ : ∃ d, lookI smallT 0 x = d := ⟨_, rfl⟩
  rw [ha] at H3 ⊢
  rw [hb] at H4 ⊢
  rw [hc] at H5 ⊢
  rw [hd] at H6 ⊢
  clear ha hb hc hd
  obtain ⟨R, hR⟩ : ∃ R, (if 880 ≤ x ∧ x < 1024 then a else if 1024 ≤ x ∧ x < 1280 then b else if c ≠ 0 then c else d) = R := ⟨_, rfl⟩
  rw [hR]
  go_enter Tryz.func103, Tryz.ntmps103
  go_wp2_with fail
  refine H1.out.mono ?_
  rintro _ w1 ⟨rfl, h⟩
  obtain rfl := h.symm
  by_cases c1 : 880 ≤ x ∧ x < 880 + 144
  · rw [decide_eq_true c1]
    rw [if_pos (by omega)] at hR
    subst hR
    go_wp2_with fail
    refine H3.out.mono ?_
    rintro _ w1 ⟨rfl, h⟩
    obtain rfl := h.symm
    go_wp2_with fail
    go_ret
    exact ⟨rfl, rfl⟩
  · rw [decide_eq_false c1]
    rw [if_neg (by omega)] at hR
    go_wp2_with fail
    refine H2.out.mono ?_
    rintro _ w1 ⟨rfl, h⟩
    obtain rfl := h.symm
    by_cases c2 : 1024 ≤ x ∧ x < 1024 + 256
    · rw [decide_eq_true c2]
      rw [if_pos (by omega)] at hR
      subst hR
      go_wp2_with fail
      refine H4.out.mono ?_
      rintro _ w1 ⟨rfl, h⟩
      obtain rfl := h.symm
      go_wp2_with fail
      go_ret
      exact ⟨rfl, rfl⟩
    · rw [decide_eq_false c2]
      rw [if_neg (by omega)] at hR
      go_wp2_with fail
      refine H5.out.mono ?_
      rintro _ w1 ⟨rfl, h⟩
      obtain rfl := h.symm
      by_cases c3 : c = 0
      · rw [if_neg (fun h => h c3)] at hR
        subst hR
        go_wp2_with fail
        refine H6.out.mono ?_
        rintro _ w1 ⟨rfl, h⟩
        obtain rfl := h.symm
        go_wp2_with fail
        go_ret
        exact ⟨rfl, rfl⟩
      · rw [if_pos c3] at hR
        subst hR
        go_wp2_with fail
        go_ret
        exact ⟨rfl, rfl⟩

theorem partsN_any (x : Int) (w : World) (Hk : 12352 ≤ x → x < 12544 → Calls Tryz.prog 102 #[.int .i32 x] w fun e w' => e = .returned (.tuple #[.int .i32 (kanaZ x).1, .int .i32 (kanaZ x).2]) ∧ w' = w) :
    Calls Tryz.prog 90 #[.int .i32 x] w fun e w' => e = .returned (.tuple #[.int .i32 (partsZ x).1, .int .i32 (partsZ x).2]) ∧ w' = w := by
  have H1 := Lib.hid (withinN_any x 44032 11172 w (by decide))
  have H2 := Lib.hid (withinN_any x 12352 192 w (by decide))
  have H3 := Lib.hid (syllableParts_any x w)
  have H4 := Lib.hid Hk
  have H5 := Lib.hid (letterOf_any x w)
  have H6 := Lib.hid (markOf_any x w)
  clear Hk
  unfold partsZ
  obtain ⟨a, ha⟩ : ∃ a, sylZ x = a := ⟨_, rfl⟩
  obtain ⟨b, hb⟩ : ∃ b, kanaZ x = b := ⟨_, rfl⟩
  obtain ⟨c, hc⟩ : ∃ c, letterZ x = c := ⟨_, rfl⟩
  obtain ⟨d, hd⟩ : ∃ d, lookI markT 0 x = d := ⟨_, rfl⟩
  rw [ha] at H3 ⊢
  rw [hb] at H4 ⊢
  rw [hc] at H5 ⊢
  rw [hd] at H6 ⊢
  clear ha hb hc hd
  obtain ⟨R, hR⟩ : ∃ R, (if x < 192 then ((0 : Int), (0 : Int)) else if 44032 ≤ x ∧ x < 55204 then a else if 12352 ≤ x ∧ x < 12544 then b else (c, d)) = R := ⟨_, rfl⟩
  rw [hR]
  go_enter Tryz.func90, Tryz.ntmps90
  by_cases c0 : x < 192
  · rw [if_pos c0] at hR
    subst hR
    go_wp2_with fail
    go_ret2
    exact ⟨rfl, rfl⟩
  · rw [if_neg c0] at hR
    go_wp2_with fail
    refine H1.out.mono ?_
    rintro _ w1 ⟨rfl, h⟩
    obtain rfl := h.symm
    by_cases c1 : 44032 ≤ x ∧ x < 44032 + 11172
    · rw [decide_eq_true c1]
      rw [if_pos (by omega)] at hR
      subst hR
      go_wp2_with fail
      refine (H3.out (by omega) (by omega)).mono ?_
      rintro _ w1 ⟨rfl, h⟩
      obtain rfl := h.symm
      go_wp2_with fail
      go_ret2
      exact ⟨rfl, rfl⟩
    · rw [decide_eq_false c1]
      rw [if_neg (by omega)] at hR
      go_wp2_with fail
      refine H2.out.mono ?_
      rintro _ w1 ⟨rfl, h⟩
      obtain rfl := h.symm
      by_cases c2 : 12352 ≤ x ∧ x < 12352 + 192
      · rw [decide_eq_true c2]
        rw [if_pos (by omega)] at hR
        subst hR
        go_wp2_with fail
        refine (H4.out (by omega) (by omega)).mono ?_
        rintro _ w1 ⟨rfl, h⟩
        obtain rfl := h.symm
        go_wp2_with fail
        go_ret2
        exact ⟨rfl, rfl⟩
      · rw [decide_eq_false c2]
        rw [if_neg (by omega)] at hR
        subst hR
        go_wp2_with fail
        refine H5.out.mono ?_
        rintro _ w1 ⟨rfl, h⟩
        obtain rfl := h.symm
        go_wp2_with fail
        refine H6.out.mono ?_
        rintro _ w1 ⟨rfl, h⟩
        obtain rfl := h.symm
        go_wp2_with fail
        go_ret2
        exact ⟨rfl, rfl⟩
end Go.Proofs.YtjkakemlhhieoaaGreatDoor

/- The kana: kanaParts, walked by its switches' law. -/
namespace Go.Proofs.YtjkakemlhhieoaaGreatDoor
open Go.RowKit Go.Lib Go.Great

section
variable {P : Program}
theorem run_sub {ρ : Operand → Value} {o : Oper} {w : World} {t u : TypeId} {x y : Operand} {k : IntKind} {p q : Int} (ho : o.op = .binOp .sub t x y u) (hx : ρ x = .int k p) (hy : ρ y = .int k q) :
    (execOp ρ o).run P w = .ok (.value (.int k (k.wrap (p - q)))) w := by
  simp [execOp, ho, hx, hy, eqGuard, binOp_sub, Op.intArith]
theorem run_sub' {ρ : Operand → Value} {o : Oper} {w : World} {t u : TypeId} {x y : Operand} {k : IntKind} {p q r : Int} (hw : k.wrap (p - q) = r) (ho : o.op = .binOp .sub t x y u) (hx : ρ x = .int k p) (hy : ρ y = .int k q) :
    (execOp ρ o).run P w = .ok (.value (.int k r)) w := by
  rw [← hw]
  exact run_sub ho hx hy
end

set_option maxRecDepth 100000 in
theorem kana_any (x : Int) (h1 : 12352 ≤ x) (h2 : x < 12544) (w : World) :
    Calls Tryz.prog 102 #[.int .i32 x] w fun e w' => e = .returned (.tuple #[.int .i32 (kanaZ x).1, .int .i32 (kanaZ x).2]) ∧ w' = w := by
  obtain ⟨L, hL⟩ : ∃ L, kanaL x = L := ⟨_, rfl⟩
  have hLd : (12448 ≤ x ∧ L = x - 96) ∨ (¬ 12448 ≤ x ∧ L = x) := by
    rw [← hL]
    unfold kanaL
    by_cases h : 12448 ≤ x
    · exact .inl ⟨h, if_pos h⟩
    · exact .inr ⟨h, if_neg h⟩
  have w1 : IntKind.i32.wrap (x - 1) = x - 1 := IntWalk.i32_in _ (by omega)
  have w2 : IntKind.i32.wrap (x - 2) = x - 2 := IntWalk.i32_in _ (by omega)
  have w3 : IntKind.i32.wrap (L - 1) = L - 1 := IntWalk.i32_in _ (by omega)
  have w4 : IntKind.i32.wrap (L - 2) = L - 2 := IntWalk.i32_in _ (by omega)
  have w5 : IntKind.i32.wrap (x - 96) = x - 96 := IntWalk.i32_in _ (by omega)
  unfold kanaZ
  rw [hL]
  obtain ⟨R, hR⟩ : ∃ R, (bif hasI kanaV (L - 1) then (x - 1, 12441) else bif hasI kanaH (L - 2) then (x - 2, 12442) else ((0 : Int), (0 : Int))) = R := ⟨_, rfl⟩
  rw [hR]
  refine calls_of_wp Tryz.func102 rfl ?_
  have hres : Tryz.f102.results = #[.tmp 2, .tmp 3] := rfl
  have hrun : ∀ a' : Act, (results Tryz.f102 a'.tmps).run Tryz.prog w = .ok (.tuple #[a'.eval (.tmp 2), a'.eval (.tmp 3)]) w := fun a' => by
    simp [results, hres, go_sem, Act.eval]
  have hret : ∀ (a' : Act) (u v : Int), a'.defers = [] → a'.eval (.tmp 2) = .int .i32 u → a'.eval (.tmp 3) = .int .i32 v → R = (u, v) →
      bodyPost Tryz.prog Tryz.f102 (fun e w' => e = .returned (.tuple #[.int .i32 R.1, .int .i32 R.2]) ∧ w' = w) .ret a' w := by
    intro a' u v hd e1 e2 hh
    refine bodyPost_ret (hrun a') hd ?_
    rw [e1, e2, hh]
    exact ⟨rfl, rfl⟩
  obtain ⟨a, ha⟩ : ∃ a : Act, a = { tmps := #[Value.int .i32 x] ++ Array.replicate (Tryz.f102.ntmps - (#[Value.int .i32 x] : Array Value).size) undef, defers := [] } := ⟨_, rfl⟩
  have hnt : Tryz.f102.ntmps = 45 := rfl
  have hsa : a.tmps.size = 45 := by rw [ha, hnt]; simp
  have hda : a.defers = [] := by rw [ha]
  have he0 : a.eval (.tmp 0) = .int .i32 x := by rw [ha]; simp [Act.eval, Array.getD]
  rw [← ha]
  clear ha
  refine wp_seq (wp_region_lit ?_)
  refine wpList_readTo rfl (some 2) rfl (.int .i32 0) (run_assign rfl rfl) ?_
  refine wpList_readTo rfl (some 3) rfl (.int .i32 0) (run_assign rfl rfl) ?_
  refine wp_seq (wp_region_lit ?_)
  refine wpList_readTo rfl (some 5) rfl (.int .i32 x) (run_move rfl (by rw [Act.eval_put_ne _ _ _ _ (by omega), Act.eval_put_ne _ _ _ _ (by omega)]; exact he0)) ?_
  refine wpList_readTo rfl (some 4) rfl (.int .i32 x) (run_assign rfl (Act.eval_put_same _ _ _ (by simp only [Act.size_put, hsa]; omega))) ?_
  obtain ⟨b, hb⟩ : ∃ b : Act, b = (((a.put (some 2) (.int .i32 0)).put (some 3) (.int .i32 0)).put (some 5) (.int .i32 x)).put (some 4) (.int .i32 x) := ⟨_, rfl⟩
  have hsb : b.tmps.size = 45 := by rw [hb]; simp only [Act.size_put, hsa]
  have hdb : b.defers = [] := by rw [hb]; simp only [Act.defers_put', hda]
  have hb0 : b.eval (.tmp 0) = .int .i32 x := by rw [hb]; rw [Act.eval_put_ne _ _ _ _ (by omega), Act.eval_put_ne _ _ _ _ (by omega), Act.eval_put_ne _ _ _ _ (by omega), Act.eval_put_ne _ _ _ _ (by omega)]; exact he0
  have hb4 : b.eval (.tmp 4) = .int .i32 x := by rw [hb]; exact Act.eval_put_same _ _ _ (by simp only [Act.size_put, hsa]; omega)
  rw [← hb]
  clear hb hsa hda he0
  refine wp_seq (wp_seq (wp_region_lit ?_))
  refine wpList_readTo rfl (some 6) rfl (.int .i32 x) (run_move rfl hb4) ?_
  refine wpList_readTo rfl (some 7) rfl (.bool (decide ((12448 : Int) ≤ x))) (run_geq rfl (Act.eval_put_same _ _ _ (by rw [hsb]; omega)) rfl) ?_
  have kb := ((Kept.refl 5 b).put (d := 6) (by omega) (.int .i32 x)).put (d := 7) (by omega) (.bool (decide ((12448 : Int) ≤ x)))
  have hc7 : ((b.put (some 6) (.int .i32 x)).put (some 7) (.bool (decide ((12448 : Int) ≤ x)))).eval (.tmp 7) = .bool (decide ((12448 : Int) ≤ x)) := Act.eval_put_same _ _ _ (by rw [Act.size_put, hsb]; omega)
  revert kb hc7
  generalize (b.put (some 6) (.int .i32 x)).put (some 7) (.bool (decide ((12448 : Int) ≤ x))) = c
  intro kb hc7
  have hsc : c.tmps.size = 45 := kb.size.trans hsb
  have hdc := kb.defers.trans hdb
  have hc0 := (kb.low 0 (by omega)).trans hb0
  have hc4 := (kb.low 4 (by omega)).trans hb4
  clear kb hsb hdb hb0 hb4
  refine wp_cond_split hc7 (fun ht => ?_) (fun hf => ?_)
  · have hx : 12448 ≤ x := by simpa using ht
    obtain rfl : L = x - 96 := by omega
    refine wp_region_lit ?_
    refine wpList_readTo rfl (some 8) rfl (.int .i32 x) (run_move rfl hc4) ?_
    refine wpList_readTo rfl (some 9) rfl (.int .i32 (x - 96)) (run_sub' w5 rfl (Act.eval_put_same _ _ _ (by rw [hsc]; omega)) rfl) ?_
    refine wpList_readTo rfl (some 4) rfl (.int .i32 (x - 96)) (run_assign rfl (Act.eval_put_same _ _ _ (by rw [Act.size_put, hsc]; omega))) ?_
    have kg := (((Kept.refl 4 c).put (d := 8) (by omega) (.int .i32 x)).put (d := 9) (by omega) (.int .i32 (x - 96))).put (d := 4) (by omega) (.int .i32 (x - 96))
    have hg4 : (((c.put (some 8) (.int .i32 x)).put (some 9) (.int .i32 (x - 96))).put (some 4) (.int .i32 (x - 96))).eval (.tmp 4) = .int .i32 (x - 96) := Act.eval_put_same _ _ _ (by simp only [Act.size_put, hsc]; omega)
    revert kg hg4
    generalize ((c.put (some 8) (.int .i32 x)).put (some 9) (.int .i32 (x - 96))).put (some 4) (.int .i32 (x - 96)) = g
    intro kg hg4
    have hsg : g.tmps.size = 45 := kg.size.trans hsc
    have hdg := kg.defers.trans hdc
    have hg0 := (kg.low 0 (by omega)).trans hc0
    clear kg hsc hdc hc0 hc4 hc7
    refine wp_seq (wp_seq (wp_region_lit ?_))
    refine wpList_readTo rfl (some 10) rfl (.int .i32 (x - 96)) (run_move rfl hg4) ?_
    refine wpList_readTo rfl (some 11) rfl (.int .i32 ((x - 96) - 1)) (run_sub' w3 rfl (Act.eval_put_same _ _ _ (by rw [hsg]; omega)) rfl) ?_
    have ke := ((Kept.refl 5 g).put (d := 10) (by omega) (.int .i32 (x - 96))).put (d := 11) (by omega) (.int .i32 ((x - 96) - 1))
    have he11 : ((g.put (some 10) (.int .i32 (x - 96))).put (some 11) (.int .i32 ((x - 96) - 1))).eval (.tmp 11) = .int .i32 ((x - 96) - 1) := Act.eval_put_same _ _ _ (by rw [Act.size_put, hsg]; omega)
    revert ke he11
    generalize (g.put (some 10) (.int .i32 (x - 96))).put (some 11) (.int .i32 ((x - 96) - 1)) = e
    intro ke he11
    have hse : e.tmps.size = 45 := ke.size.trans hsg
    refine wp_block (wp_rowsC (q := 11) (m := 12) (n := 45) (by decide) 50 _ e hse he11 fun f hk => ?_)
    have hsf := hk.size.trans hse
    have hdf := hk.defers.trans (ke.defers.trans hdg)
    have hf0 := (hk.low 0 (by omega)).trans ((ke.low 0 (by omega)).trans hg0)
    have hf4 := (hk.low 4 (by omega)).trans ((ke.low 4 (by omega)).trans hg4)
    clear ke hk he11 hse hsg hdg hg0 hg4
    show Code.wp _ (bif hasI kanaV ((x - 96) - 1) then _ else _) _ f w
    cases hV : hasI kanaV ((x - 96) - 1) with
    | true =>
      refine wp_seq (wp_region_lit ?_)
      refine wpList_readTo rfl (some 33) rfl (.int .i32 x) (run_move rfl hf0) ?_
      refine wpList_readTo rfl (some 34) rfl (.int .i32 (x - 1)) (run_sub' w1 rfl (Act.eval_put_same _ _ _ (by rw [hsf]; omega)) rfl) ?_
      refine wpList_readTo rfl (some 2) rfl (.int .i32 (x - 1)) (run_assign rfl (Act.eval_put_same _ _ _ (by rw [Act.size_put, hsf]; omega))) ?_
      refine wpList_readTo rfl (some 3) rfl (.int .i32 12441) (run_assign rfl rfl) ?_
      refine wp_ret ?_
      show bodyPost Tryz.prog Tryz.f102 (fun e w' => e = .returned (.tuple #[.int .i32 R.1, .int .i32 R.2]) ∧ w' = w) .ret _ w
      refine hret _ (x - 1) 12441 ?_ ?_ ?_ (by rw [← hR, hV]; rfl)
      · simp only [Act.defers_put', hdf]
      · rw [Act.eval_put_ne _ _ _ _ (by omega)]
        exact Act.eval_put_same _ _ _ (by simp only [Act.size_put, hsf]; omega)
      · exact Act.eval_put_same _ _ _ (by simp only [Act.size_put, hsf]; omega)
    | false =>
      refine wp_skip ?_
      refine wp_seq (wp_seq (wp_region_lit ?_))
      refine wpList_readTo rfl (some 35) rfl (.int .i32 (x - 96)) (run_move rfl hf4) ?_
      refine wpList_readTo rfl (some 36) rfl (.int .i32 ((x - 96) - 2)) (run_sub' w4 rfl (Act.eval_put_same _ _ _ (by rw [hsf]; omega)) rfl) ?_
      have ke := ((Kept.refl 5 f).put (d := 35) (by omega) (.int .i32 (x - 96))).put (d := 36) (by omega) (.int .i32 ((x - 96) - 2))
      have he11 : ((f.put (some 35) (.int .i32 (x - 96))).put (some 36) (.int .i32 ((x - 96) - 2))).eval (.tmp 36) = .int .i32 ((x - 96) - 2) := Act.eval_put_same _ _ _ (by rw [Act.size_put, hsf]; omega)
      revert ke he11
      generalize (f.put (some 35) (.int .i32 (x - 96))).put (some 36) (.int .i32 ((x - 96) - 2)) = e2
      intro ke he11
      have hse : e2.tmps.size = 45 := ke.size.trans hsf
      refine wp_block (wp_rowsC (q := 36) (m := 37) (n := 45) (by decide) 50 _ e2 hse he11 fun f2 hk => ?_)
      have hsf2 := hk.size.trans hse
      have hdf2 := hk.defers.trans (ke.defers.trans hdf)
      have hf20 := (hk.low 0 (by omega)).trans ((ke.low 0 (by omega)).trans hf0)
      clear ke hk he11 hse hsf hdf hf0 hf4
      show Code.wp _ (bif hasI kanaH ((x - 96) - 2) then _ else _) _ f2 w
      cases hH : hasI kanaH ((x - 96) - 2) with
      | true =>
        refine wp_seq (wp_region_lit ?_)
        refine wpList_readTo rfl (some 43) rfl (.int .i32 x) (run_move rfl hf20) ?_
        refine wpList_readTo rfl (some 44) rfl (.int .i32 (x - 2)) (run_sub' w2 rfl (Act.eval_put_same _ _ _ (by rw [hsf2]; omega)) rfl) ?_
        refine wpList_readTo rfl (some 2) rfl (.int .i32 (x - 2)) (run_assign rfl (Act.eval_put_same _ _ _ (by rw [Act.size_put, hsf2]; omega))) ?_
        refine wpList_readTo rfl (some 3) rfl (.int .i32 12442) (run_assign rfl rfl) ?_
        refine wp_ret ?_
        show bodyPost Tryz.prog Tryz.f102 (fun e w' => e = .returned (.tuple #[.int .i32 R.1, .int .i32 R.2]) ∧ w' = w) .ret _ w
        refine hret _ (x - 2) 12442 ?_ ?_ ?_ (by rw [← hR, hV, hH]; rfl)
        · simp only [Act.defers_put', hdf2]
        · rw [Act.eval_put_ne _ _ _ _ (by omega)]
          exact Act.eval_put_same _ _ _ (by simp only [Act.size_put, hsf2]; omega)
        · exact Act.eval_put_same _ _ _ (by simp only [Act.size_put, hsf2]; omega)
      | false =>
        refine wp_skip ?_
        refine wp_seq (wp_region_lit ?_)
        refine wpList_readTo rfl (some 2) rfl (.int .i32 0) (run_assign rfl rfl) ?_
        refine wpList_readTo rfl (some 3) rfl (.int .i32 0) (run_assign rfl rfl) ?_
        refine wp_ret ?_
        show bodyPost Tryz.prog Tryz.f102 (fun e w' => e = .returned (.tuple #[.int .i32 R.1, .int .i32 R.2]) ∧ w' = w) .ret _ w
        refine hret _ 0 0 ?_ ?_ ?_ (by rw [← hR, hV, hH]; rfl)
        · simp only [Act.defers_put', hdf2]
        · rw [Act.eval_put_ne _ _ _ _ (by omega)]
          exact Act.eval_put_same _ _ _ (by simp only [Act.size_put, hsf2]; omega)
        · exact Act.eval_put_same _ _ _ (by simp only [Act.size_put, hsf2]; omega)
  · have hx : ¬ 12448 ≤ x := by simpa using hf
    obtain rfl : L = x := by omega
    refine wp_skip ?_
    obtain ⟨g, hg⟩ : ∃ g, g = c := ⟨_, rfl⟩
    subst hg
    have hsg := hsc
    have hdg := hdc
    have hg0 := hc0
    have hg4 := hc4
    clear hsc hdc hc0 hc4 hc7
    refine wp_seq (wp_seq (wp_region_lit ?_))
    refine wpList_readTo rfl (some 10) rfl (.int .i32 L) (run_move rfl hg4) ?_
    refine wpList_readTo rfl (some 11) rfl (.int .i32 (L - 1)) (run_sub' w3 rfl (Act.eval_put_same _ _ _ (by rw [hsg]; omega)) rfl) ?_
    have ke := ((Kept.refl 5 g).put (d := 10) (by omega) (.int .i32 L)).put (d := 11) (by omega) (.int .i32 (L - 1))
    have he11 : ((g.put (some 10) (.int .i32 L)).put (some 11) (.int .i32 (L - 1))).eval (.tmp 11) = .int .i32 (L - 1) := Act.eval_put_same _ _ _ (by rw [Act.size_put, hsg]; omega)
    revert ke he11
    generalize (g.put (some 10) (.int .i32 L)).put (some 11) (.int .i32 (L - 1)) = e
    intro ke he11
    have hse : e.tmps.size = 45 := ke.size.trans hsg
    refine wp_block (wp_rowsC (q := 11) (m := 12) (n := 45) (by decide) 50 _ e hse he11 fun f hk => ?_)
    have hsf := hk.size.trans hse
    have hdf := hk.defers.trans (ke.defers.trans hdg)
    have hf0 := (hk.low 0 (by omega)).trans ((ke.low 0 (by omega)).trans hg0)
    have hf4 := (hk.low 4 (by omega)).trans ((ke.low 4 (by omega)).trans hg4)
    clear ke hk he11 hse hsg hdg hg0 hg4
    show Code.wp _ (bif hasI kanaV (L - 1) then _ else _) _ f w
    cases hV : hasI kanaV (L - 1) with
    | true =>
      refine wp_seq (wp_region_lit ?_)
      refine wpList_readTo rfl (some 33) rfl (.int .i32 L) (run_move rfl hf0) ?_
      refine wpList_readTo rfl (some 34) rfl (.int .i32 (L - 1)) (run_sub' w1 rfl (Act.eval_put_same _ _ _ (by rw [hsf]; omega)) rfl) ?_
      refine wpList_readTo rfl (some 2) rfl (.int .i32 (L - 1)) (run_assign rfl (Act.eval_put_same _ _ _ (by rw [Act.size_put, hsf]; omega))) ?_
      refine wpList_readTo rfl (some 3) rfl (.int .i32 12441) (run_assign rfl rfl) ?_
      refine wp_ret ?_
      show bodyPost Tryz.prog Tryz.f102 (fun e w' => e = .returned (.tuple #[.int .i32 R.1, .int .i32 R.2]) ∧ w' = w) .ret _ w
      refine hret _ (L - 1) 12441 ?_ ?_ ?_ (by rw [← hR, hV]; rfl)
      · simp only [Act.defers_put', hdf]
      · rw [Act.eval_put_ne _ _ _ _ (by omega)]
        exact Act.eval_put_same _ _ _ (by simp only [Act.size_put, hsf]; omega)
      · exact Act.eval_put_same _ _ _ (by simp only [Act.size_put, hsf]; omega)
    | false =>
      refine wp_skip ?_
      refine wp_seq (wp_seq (wp_region_lit ?_))
      refine wpList_readTo rfl (some 35) rfl (.int .i32 L) (run_move rfl hf4) ?_
      refine wpList_readTo rfl (some 36) rfl (.int .i32 (L - 2)) (run_sub' w4 rfl (Act.eval_put_same _ _ _ (by rw [hsf]; omega)) rfl) ?_
      have ke := ((Kept.refl 5 f).put (d := 35) (by omega) (.int .i32 L)).put (d := 36) (by omega) (.int .i32 (L - 2))
      have he11 : ((f.put (some 35) (.int .i32 L)).put (some 36) (.int .i32 (L - 2))).eval (.tmp 36) = .int .i32 (L - 2) := Act.eval_put_same _ _ _ (by rw [Act.size_put, hsf]; omega)
      revert ke he11
      generalize (f.put (some 35) (.int .i32 L)).put (some 36) (.int .i32 (L - 2)) = e2
      intro ke he11
      have hse : e2.tmps.size = 45 := ke.size.trans hsf
      refine wp_block (wp_rowsC (q := 36) (m := 37) (n := 45) (by decide) 50 _ e2 hse he11 fun f2 hk => ?_)
      have hsf2 := hk.size.trans hse
      have hdf2 := hk.defers.trans (ke.defers.trans hdf)
      have hf20 := (hk.low 0 (by omega)).trans ((ke.low 0 (by omega)).trans hf0)
      clear ke hk he11 hse hsf hdf hf0 hf4
      show Code.wp _ (bif hasI kanaH (L - 2) then _ else _) _ f2 w
      cases hH : hasI kanaH (L - 2) with
      | true =>
        refine wp_seq (wp_region_lit ?_)
        refine wpList_readTo rfl (some 43) rfl (.int .i32 L) (run_move rfl hf20) ?_
        refine wpList_readTo rfl (some 44) rfl (.int .i32 (L - 2)) (run_sub' w2 rfl (Act.eval_put_same _ _ _ (by rw [hsf2]; omega)) rfl) ?_
        refine wpList_readTo rfl (some 2) rfl (.int .i32 (L - 2)) (run_assign rfl (Act.eval_put_same _ _ _ (by rw [Act.size_put, hsf2]; omega))) ?_
        refine wpList_readTo rfl (some 3) rfl (.int .i32 12442) (run_assign rfl rfl) ?_
        refine wp_ret ?_
        show bodyPost Tryz.prog Tryz.f102 (fun e w' => e = .returned (.tuple #[.int .i32 R.1, .int .i32 R.2]) ∧ w' = w) .ret _ w
        refine hret _ (L - 2) 12442 ?_ ?_ ?_ (by rw [← hR, hV, hH]; rfl)
        · simp only [Act.defers_put', hdf2]
        · rw [Act.eval_put_ne _ _ _ _ (by omega)]
          exact Act.eval_put_same _ _ _ (by simp only [Act.size_put, hsf2]; omega)
        · exact Act.eval_put_same _ _ _ (by simp only [Act.size_put, hsf2]; omega)
      | false =>
        refine wp_skip ?_
        refine wp_seq (wp_region_lit ?_)
        refine wpList_readTo rfl (some 2) rfl (.int .i32 0) (run_assign rfl rfl) ?_
        refine wpList_readTo rfl (some 3) rfl (.int .i32 0) (run_assign rfl rfl) ?_
        refine wp_ret ?_
        show bodyPost Tryz.prog Tryz.f102 (fun e w' => e = .returned (.tuple #[.int .i32 R.1, .int .i32 R.2]) ∧ w' = w) .ret _ w
        refine hret _ 0 0 ?_ ?_ ?_ (by rw [← hR, hV, hH]; rfl)
        · simp only [Act.defers_put', hdf2]
        · rw [Act.eval_put_ne _ _ _ _ (by omega)]
          exact Act.eval_put_same _ _ _ (by simp only [Act.size_put, hsf2]; omega)
        · exact Act.eval_put_same _ _ _ (by simp only [Act.size_put, hsf2]; omega)
end Go.Proofs.YtjkakemlhhieoaaGreatDoor
