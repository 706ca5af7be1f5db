/- What a character is the pair of: single, within, the syllables, the kana, letterOf, parts. -/
import Derived.Test.YtfegbfhkmdmheaaDoorLetters
set_option linter.unusedSimpArgs false
set_option linter.unusedVariables false
namespace Go.Proofs.YtfegbfhkmdmheaaDoor
open Go.RowKit Go.Lib Go.Great

def kanaV : List Int := [0x304b, 0x304d, 0x304f, 0x3051, 0x3053, 0x3055, 0x3057, 0x3059, 0x305b, 0x305d, 0x305f, 0x3061, 0x3064, 0x3066, 0x3068, 0x306f, 0x3072, 0x3075, 0x3078, 0x307b]
def kanaH : List Int := [0x306f, 0x3072, 0x3075, 0x3078, 0x307b]
def kanaL (x : Int) : Int := if 12448 ≤ x then x - 96 else x
def kanaZ (x : Int) : Int × Int := bif hasI kanaV (kanaL x - 1) then (x - 1, 12441) else bif hasI kanaH (kanaL x - 2) then (x - 2, 12442) else (0, 0)
def singleZ (x : Int) : Int := if x = 0x212a then 75 else if x = 0x2126 then 937 else if x = 0x212b then 197 else x
def sylZ (x : Int) : Int × Int := if (x - 44032).tmod 28 ≠ 0 then (x - (x - 44032).tmod 28, 4519 + (x - 44032).tmod 28) else (4352 + ((x - 44032).tdiv 28).tdiv 21, 4449 + ((x - 44032).tdiv 28).tmod 21)
def letterZ (x : Int) : Int := if 880 ≤ x ∧ x < 1024 then lookI greekT 0 x else if 1024 ≤ x ∧ x < 1280 then lookI cyrT 0 x else if lookI greatT 0 x ≠ 0 then lookI greatT 0 x else lookI smallT 0 x
def partsZ (x : Int) : Int × Int := if x < 192 then (0, 0) else if 44032 ≤ x ∧ x < 55204 then sylZ x else if 12352 ≤ x ∧ x < 12544 then kanaZ x else (letterZ x, lookI markT 0 x)

theorem singleN_any (x : Int) (w : World) : Calls Tryd.prog 61 #[.int .i32 x] w fun e w' => e = .returned (.int .i32 (singleZ x)) ∧ w' = w := by
  unfold singleZ
  go_enter Tryd.func61, Tryd.ntmps61
  by_cases h1 : x = 0x212a
  · subst h1
    go_wp2
    go_ret
    exact ⟨rfl, rfl⟩
  · rw [if_neg h1]
    by_cases h2 : x = 0x2126
    · subst h2
      go_wp2
      go_ret
      exact ⟨rfl, rfl⟩
    · rw [if_neg h2]
      by_cases h3 : x = 0x212b
      · subst h3
        go_wp2
        go_ret
        exact ⟨rfl, rfl⟩
      · rw [if_neg h3]
        go_wp2
        go_ret
        exact ⟨rfl, rfl⟩
theorem withinN_any (x a n : Int) (w : World) (h : IntKind.i32.wrap (a + n) = a + n) : Calls Tryd.prog 90 #[.int .i32 x, .int .i32 a, .int .i32 n] w fun e w' => e = .returned (.bool (decide (a ≤ x ∧ x < a + n))) ∧ w' = w := by
  go_enter Tryd.func90, Tryd.ntmps90
  by_cases h1 : a ≤ x
  · by_cases h2 : x < a + n
    · rw [decide_eq_true ⟨h1, h2⟩]
      go_wp2
      go_ret
      exact ⟨rfl, rfl⟩
    · rw [decide_eq_false (fun h => h2 h.2)]
      go_wp2
      go_ret
      exact ⟨rfl, rfl⟩
  · rw [decide_eq_false (fun h => h1 h.1)]
    go_wp2
    go_ret
    exact ⟨rfl, rfl⟩

theorem syllableParts_any (x : Int) (w : World) (h1 : 44032 ≤ x) (h2 : x < 55204) : Calls Tryd.prog 92 #[.int .i32 x] w fun e w' => e = .returned (.tuple #[.int .i32 (sylZ x).1, .int .i32 (sylZ x).2]) ∧ w' = w := by
  have w1 : IntKind.i32.wrap (x - 44032) = x - 44032 := IntWalk.i32_in _ (by omega)
  have hm := Int.tmod_lt_of_pos (x - 44032) (show (0 : Int) < 28 by decide)
  have hm0 := Int.tmod_nonneg (28 : Int) (show (0 : Int) ≤ x - 44032 by omega)
  have hd0 := Int.tdiv_nonneg (show (0 : Int) ≤ x - 44032 by omega) (show (0 : Int) ≤ 28 by decide)
  have hd1 : (x - 44032).tdiv 28 < 399 := by rw [Int.tdiv_eq_ediv_of_nonneg (by omega)]; omega
  unfold sylZ
  obtain ⟨m, hmm⟩ : ∃ m, (x - 44032).tmod 28 = m := ⟨_, rfl⟩
  obtain ⟨d, hdd⟩ : ∃ d, (x - 44032).tdiv 28 = d := ⟨_, rfl⟩
  rw [hmm] at hm hm0 ⊢
  rw [hdd] at hd0 hd1 ⊢
  have w2 : IntKind.i32.wrap (x - m) = x - m := IntWalk.i32_in _ (by omega)
  have w3 : IntKind.i32.wrap (4519 + m) = 4519 + m := IntWalk.i32_in _ (by omega)
  have hq0 := Int.tdiv_nonneg hd0 (show (0 : Int) ≤ 21 by decide)
  have hq1 : d.tdiv 21 < 20 := by rw [Int.tdiv_eq_ediv_of_nonneg hd0]; omega
  have hr0 := Int.tmod_nonneg (21 : Int) hd0
  have hr1 := Int.tmod_lt_of_pos d (show (0 : Int) < 21 by decide)
  have w4 : IntKind.i32.wrap d = d := IntWalk.i32_in _ (by omega)
  have w5 : IntKind.i32.wrap (d.tdiv 21) = d.tdiv 21 := IntWalk.i32_in _ (by omega)
  have w6 : IntKind.i32.wrap (4352 + d.tdiv 21) = 4352 + d.tdiv 21 := IntWalk.i32_in _ (by omega)
  have w7 : IntKind.i32.wrap (4449 + d.tmod 21) = 4449 + d.tmod 21 := IntWalk.i32_in _ (by omega)
  have w8 : IntKind.i32.wrap (d.tmod 21) = d.tmod 21 := IntWalk.i32_in _ (by omega)
  have w9 : IntKind.i32.wrap m = m := IntWalk.i32_in _ (by omega)
  go_enter Tryd.func92, Tryd.ntmps92
  by_cases h0 : m = 0
  · rw [if_neg (fun h => h h0)]
    go_wp2
    go_ret2
    exact ⟨by rw [Int.tmod_eq_emod_of_nonneg hd0]; rfl, rfl⟩
  · rw [if_pos h0]
    go_wp2
    go_ret2
    exact ⟨rfl, rfl⟩

theorem letterOf_any (x : Int) (w : World) : Calls Tryd.prog 94 #[.int .i32 x] w fun e w' => e = .returned (.int .i32 (letterZ x)) ∧ w' = w := by
  have H1 := Lib.hid (withinN_any x 880 144 w (by decide))
  have H2 := Lib.hid (withinN_any x 1024 256 w (by decide))
  have H3 := Lib.hid (greek_any x w)
  have H4 := Lib.hid (cyrillic_any x w)
  have H5 := Lib.hid (greatLatin_any x w)
  have H6 := Lib.hid (smallLatin_any x w)
  unfold letterZ
  obtain ⟨a, ha⟩ : ∃ a, lookI greekT 0 x = a := ⟨_, rfl⟩
  obtain ⟨b, hb⟩ : ∃ b, lookI cyrT 0 x = b := ⟨_, rfl⟩
  obtain ⟨c, hc⟩ : ∃ c, lookI greatT 0 x = c := ⟨_, rfl⟩
  obtain ⟨d, hd⟩ : ∃ d, lookI smallT 0 x = d := ⟨_, rfl⟩
  rw [ha] at H3 ⊢
  rw [hb] at H4 ⊢
  rw [hc] at H5 ⊢
  rw [hd] at H6 ⊢
  clear ha hb hc hd
  obtain ⟨R, hR⟩ : ∃ R, (if 880 ≤ x ∧ x < 1024 then a else if 1024 ≤ x ∧ x < 1280 then b else if c ≠ 0 then c else d) = R := ⟨_, rfl⟩
  rw [hR]
  go_enter Tryd.func94, Tryd.ntmps94
  go_wp2_with fail
  refine H1.out.mono ?_
  rintro _ w1 ⟨rfl, h⟩
  obtain rfl := h.symm
  by_cases c1 : 880 ≤ x ∧ x < 880 + 144
  · rw [decide_eq_true c1]
    rw [if_pos (by omega)] at hR
    subst hR
    go_wp2_with fail
    refine H3.out.mono ?_
    rintro _ w1 ⟨rfl, h⟩
    obtain rfl := h.symm
    go_wp2_with fail
    go_ret
    exact ⟨rfl, rfl⟩
  · rw [decide_eq_false c1]
    rw [if_neg (by omega)] at hR
    go_wp2_with fail
    refine H2.out.mono ?_
    rintro _ w1 ⟨rfl, h⟩
    obtain rfl := h.symm
    by_cases c2 : 1024 ≤ x ∧ x < 1024 + 256
    · rw [decide_eq_true c2]
      rw [if_pos (by omega)] at hR
      subst hR
      go_wp2_with fail
      refine H4.out.mono ?_
      rintro _ w1 ⟨rfl, h⟩
      obtain rfl := h.symm
      go_wp2_with fail
      go_ret
      exact ⟨rfl, rfl⟩
    · rw [decide_eq_false c2]
      rw [if_neg (by omega)] at hR
      go_wp2_with fail
      refine H5.out.mono ?_
      rintro _ w1 ⟨rfl, h⟩
      obtain rfl := h.symm
      by_cases c3 : c = 0
      · rw [if_neg (fun h => h c3)] at hR
        subst hR
        go_wp2_with fail
        refine H6.out.mono ?_
        rintro _ w1 ⟨rfl, h⟩
        obtain rfl := h.symm
        go_wp2_with fail
        go_ret
        exact ⟨rfl, rfl⟩
      · rw [if_pos c3] at hR
        subst hR
        go_wp2_with fail
        go_ret
        exact ⟨rfl, rfl⟩

theorem partsN_any (x : Int) (w : World) (Hk : 12352 ≤ x → x < 12544 → Calls Tryd.prog 93 #[.int .i32 x] w fun e w' => e = .returned (.tuple #[.int .i32 (kanaZ x).1, .int .i32 (kanaZ x).2]) ∧ w' = w) :
    Calls Tryd.prog 62 #[.int .i32 x] w fun e w' => e = .returned (.tuple #[.int .i32 (partsZ x).1, .int .i32 (partsZ x).2]) ∧ w' = w := by
  have H1 := Lib.hid (withinN_any x 44032 11172 w (by decide))
  have H2 := Lib.hid (withinN_any x 12352 192 w (by decide))
  have H3 := Lib.hid (syllableParts_any x w)
  have H4 := Lib.hid Hk
  have H5 := Lib.hid (letterOf_any x w)
  have H6 := Lib.hid (markOf_any x w)
  clear Hk
  unfold partsZ
  obtain ⟨a, ha⟩ : ∃ a, sylZ x = a := ⟨_, rfl⟩
  obtain ⟨b, hb⟩ : ∃ b, kanaZ x = b := ⟨_, rfl⟩
  obtain ⟨c, hc⟩ : ∃ c, letterZ x = c := ⟨_, rfl⟩
  obtain ⟨d, hd⟩ : ∃ d, lookI markT 0 x = d := ⟨_, rfl⟩
  rw [ha] at H3 ⊢
  rw [hb] at H4 ⊢
  rw [hc] at H5 ⊢
  rw [hd] at H6 ⊢
  clear ha hb hc hd
  obtain ⟨R, hR⟩ : ∃ R, (if x < 192 then ((0 : Int), (0 : Int)) else if 44032 ≤ x ∧ x < 55204 then a else if 12352 ≤ x ∧ x < 12544 then b else (c, d)) = R := ⟨_, rfl⟩
  rw [hR]
  go_enter Tryd.func62, Tryd.ntmps62
  by_cases c0 : x < 192
  · rw [if_pos c0] at hR
    subst hR
    go_wp2_with fail
    go_ret2
    exact ⟨rfl, rfl⟩
  · rw [if_neg c0] at hR
    go_wp2_with fail
    refine H1.out.mono ?_
    rintro _ w1 ⟨rfl, h⟩
    obtain rfl := h.symm
    by_cases c1 : 44032 ≤ x ∧ x < 44032 + 11172
    · rw [decide_eq_true c1]
      rw [if_pos (by omega)] at hR
      subst hR
      go_wp2_with fail
      refine (H3.out (by omega) (by omega)).mono ?_
      rintro _ w1 ⟨rfl, h⟩
      obtain rfl := h.symm
      go_wp2_with fail
      go_ret2
      exact ⟨rfl, rfl⟩
    · rw [decide_eq_false c1]
      rw [if_neg (by omega)] at hR
      go_wp2_with fail
      refine H2.out.mono ?_
      rintro _ w1 ⟨rfl, h⟩
      obtain rfl := h.symm
      by_cases c2 : 12352 ≤ x ∧ x < 12352 + 192
      · rw [decide_eq_true c2]
        rw [if_pos (by omega)] at hR
        subst hR
        go_wp2_with fail
        refine (H4.out (by omega) (by omega)).mono ?_
        rintro _ w1 ⟨rfl, h⟩
        obtain rfl := h.symm
        go_wp2_with fail
        go_ret2
        exact ⟨rfl, rfl⟩
      · rw [decide_eq_false c2]
        rw [if_neg (by omega)] at hR
        subst hR
        go_wp2_with fail
        refine H5.out.mono ?_
        rintro _ w1 ⟨rfl, h⟩
        obtain rfl := h.symm
        go_wp2_with fail
        refine H6.out.mono ?_
        rintro _ w1 ⟨rfl, h⟩
        obtain rfl := h.symm
        go_wp2_with fail
        go_ret2
        exact ⟨rfl, rfl⟩
end Go.Proofs.YtfegbfhkmdmheaaDoor
