/- What is shown of one cluster: show.ofCluster, walked case by case. MADE: tools/mkcl6.py. -/
import Derived.Test.YtfegbfhkmdmheaaDoorShAG
set_option linter.unusedSimpArgs false
set_option linter.unusedVariables false
namespace Go.Proofs.YtfegbfhkmdmheaaDoor
open Go.RowKit Go.Lib

theorem nxt_sec {l : List UInt8} {x z : Nat} (hne : l ≠ []) (hx : dec l = (x, z)) : (nxt (l.drop z)).1 = secZ l := by
  unfold secZ
  rw [segs_cons l hne, hx]
  simp only [List.getElem?_cons_succ]
  by_cases h : l.drop z = []
  · rw [h, segs_nil]
    unfold nxt
    rw [if_pos rfl]
    rfl
  · rw [segs_cons _ h]
    unfold nxt
    rw [if_neg h]
    rfl
section
variable (s : ByteArray) (col : Int) (tb : Int) (wd : Bool) (wt : Int) (jn rz : Bool) (w : World)
/-- what it answers -/
abbrev Shows (L : List UInt8) (n : Nat) : Prop := Calls Tryd.prog 45 #[.string s, .int .i64 col, lookV tb wd wt jn rz] w fun e w' =>
  e = .returned (.tuple #[.string ⟨L.toArray⟩, .int .i64 ((n : Nat) : Int)]) ∧ Below w.heap.size w w'

set_option maxRecDepth 100000 in
set_option maxHeartbeats 1000000 in
theorem cl_empty (h : s.data.toList = []) (hT : Utf8Tabs 0 1 w) : Shows s col tb wd wt jn rz w [] 0 := by
  have HN := Lib.hid (fun W hT => next_any s W hT)
  rw [show nxt s.data.toList = (65533, 0) by unfold nxt; rw [if_pos h]] at HN
  have hT0 := tabs_size hT
  have hL := LookAt.new w 46 tb wd wt jn rz
  have hTW : Utf8Tabs 0 1 (w.alloc (.cells #[.int .i64 tb, .bool wd, .int .i8 wt, .bool jn, .bool rz] 46)) := Utf8Tabs_below hT ((Below.refl _ w).alloc (Nat.le_refl _) _)
  have hb : Below w.heap.size w (w.alloc (.cells #[.int .i64 tb, .bool wd, .int .i8 wt, .bool jn, .bool rz] 46)) := (Below.refl _ w).alloc (Nat.le_refl _) _
  obtain ⟨W, hW⟩ : ∃ W, w.alloc (.cells #[.int .i64 tb, .bool wd, .int .i8 wt, .bool jn, .bool rz] 46) = W := ⟨_, rfl⟩
  have hsz : w.heap.size < W.heap.size := by rw [← hW]; simp
  rw [hW] at hL hb hTW
  obtain ⟨B, hB⟩ : ∃ B, w.heap.size = B := ⟨_, rfl⟩
  rw [hB] at hL hb hsz
  have HL := Lib.hid hL
  have Hb := Lib.hid hb
  clear hL hb hT
  unfold Shows
  rw [hB]
  go_enter Tryd.func45, Tryd.ntmps45
  go_wp2_with fail
  try rw [hW]
  clear hW
  refine (HN.out _ hTW).mono ?_
  rintro _ w1 ⟨rfl, b1⟩
  have HT1 := Lib.hid (Utf8Tabs_below hTW b1)
  have HL1 := Lib.hid (HL.out.below b1 hsz)
  have Hb1 := Lib.hid (Hb.out.trans (b1.mono (by omega)))
  have hs1 : B < w1.heap.size := by have := b1.size; omega
  clear b1 HL Hb hTW
  go_wp2_with fail
  go_ret2
  exact ⟨rfl, Hb1.out⟩
set_option maxRecDepth 100000 in
set_option maxHeartbeats 1000000 in
theorem cl_bad (h : s.data.toList ≠ []) (hd : (dec s.data.toList).1 = 65533 ∧ (dec s.data.toList).2 = 1) (hT : Utf8Tabs 0 1 w) : Shows s col tb wd wt jn rz w (angZ (gb s.data.toList 0) 2) 4 := by
  have HN := Lib.hid (fun W hT => next_any s W hT)
  rw [show nxt s.data.toList = (65533, 1) by unfold nxt; rw [if_neg h]; exact Prod.ext hd.1 hd.2] at HN
  have hg := gb_lt s.data.toList 0
  have hA := fun W => angled_any (gb s.data.toList 0) 2 (by omega) (by omega) W
  rw [ang_byte _ hg] at hA ⊢
  rw [← ang_byte _ hg] at hA ⊢
  have hl4 : (angZ (gb s.data.toList 0) 2).length = 4 := by rw [ang_byte _ hg]; rfl
  rw [hl4] at hA
  have hpos : 0 < s.size := by rw [← size_list]; exact List.length_pos_iff.2 h
  have hp1 : (0 : Int) < (s.size : Int) := by omega
  have hbyte : (s[0]'hpos).toNat = gb s.data.toList 0 := gb_at s 0 hpos
  obtain ⟨y, hy⟩ : ∃ y, s[0]'hpos = y := ⟨_, rfl⟩
  rw [hy] at hbyte
  have hy256 : y.toNat < 256 := y.toNat_lt
  obtain ⟨L, hL0⟩ : ∃ L, angZ (gb s.data.toList 0) 2 = L := ⟨_, rfl⟩
  rw [hL0] at hA ⊢
  rw [← hbyte] at hA
  have HA := Lib.hid hA
  clear hA hL0 hbyte hl4
  have hT0 := tabs_size hT
  have hL := LookAt.new w 46 tb wd wt jn rz
  have hTW : Utf8Tabs 0 1 (w.alloc (.cells #[.int .i64 tb, .bool wd, .int .i8 wt, .bool jn, .bool rz] 46)) := Utf8Tabs_below hT ((Below.refl _ w).alloc (Nat.le_refl _) _)
  have hb : Below w.heap.size w (w.alloc (.cells #[.int .i64 tb, .bool wd, .int .i8 wt, .bool jn, .bool rz] 46)) := (Below.refl _ w).alloc (Nat.le_refl _) _
  obtain ⟨W, hW⟩ : ∃ W, w.alloc (.cells #[.int .i64 tb, .bool wd, .int .i8 wt, .bool jn, .bool rz] 46) = W := ⟨_, rfl⟩
  have hsz : w.heap.size < W.heap.size := by rw [← hW]; simp
  rw [hW] at hL hb hTW
  obtain ⟨B, hB⟩ : ∃ B, w.heap.size = B := ⟨_, rfl⟩
  rw [hB] at hL hb hsz
  have HL := Lib.hid hL
  have Hb := Lib.hid hb
  clear hL hb hT
  unfold Shows
  rw [hB]
  go_enter Tryd.func45, Tryd.ntmps45
  go_wp2_with fail
  try rw [hW]
  clear hW
  refine (HN.out _ hTW).mono ?_
  rintro _ w1 ⟨rfl, b1⟩
  have HT1 := Lib.hid (Utf8Tabs_below hTW b1)
  have HL1 := Lib.hid (HL.out.below b1 hsz)
  have Hb1 := Lib.hid (Hb.out.trans (b1.mono (by omega)))
  have hs1 : B < w1.heap.size := by have := b1.size; omega
  clear b1 HL Hb hTW
  go_wp2_with fail
  refine (HA.out _).mono ?_
  rintro _ w2 ⟨rfl, b2⟩
  have Hb2 := Lib.hid (Hb1.out.trans (b2.mono (by omega)))
  go_wp2
  go_ret2
  exact ⟨rfl, Hb2.out⟩

set_option maxRecDepth 100000 in
set_option maxHeartbeats 1000000 in
theorem cl_low (x z : Nat) (hne : s.data.toList ≠ []) (hx : dec s.data.toList = (x, z)) (hnb : ¬ (x = 65533 ∧ z = 1)) (hT : Utf8Tabs 0 1 w) (hk : kN x = 0) (hlow : x ≤ 127) (L : List UInt8) (n : Nat) (hC : ∀ W, Calls Tryd.prog 71 #[.string s, .int .i64 col, lookV tb wd wt jn rz] W fun e w' => e = .returned (.tuple #[.string ⟨L.toArray⟩, .int .i64 ((n : Nat) : Int)]) ∧ Below W.heap.size W w') : Shows s col tb wd wt jn rz w L n := by
  have HN := Lib.hid (fun W hT => next_any s W hT)
  rw [show nxt s.data.toList = (x, z) by unfold nxt; rw [if_neg hne]; exact hx] at HN
  have hK := fun W => Kind_any (x : Int) W
  rw [show cls kindsL (char (x : Int)) = kN x from rfl, hk] at hK
  have HK := Lib.hid hK
  clear hK
  have hz := dec_pos s.data.toList
  rw [hx] at hz
  have hz0 : ((z : Int) == 0) = false := by simp at hz; simp; omega
  have hzx : ((z : Int) == 1) = false ∨ (((z : Int) == 1) = true ∧ ((x : Int) == 65533) = false) := by
    by_cases h1 : z = 1
    · right
      refine ⟨by simp; omega, ?_⟩
      rw [beq_eq_false_iff_ne]
      omega
    · left
      rw [beq_eq_false_iff_ne]
      omega
  have HC := Lib.hid hC
  clear hC
  have hl1 : (x : Int) ≤ 127 := by omega
  have Hx := Lib.hid hx
  clear hx hz hne hnb
  rcases hzx with hz1 | ⟨hz1, hx1⟩
  all_goals
    have hT0 := tabs_size hT
    have hL := LookAt.new w 46 tb wd wt jn rz
    have hTW : Utf8Tabs 0 1 (w.alloc (.cells #[.int .i64 tb, .bool wd, .int .i8 wt, .bool jn, .bool rz] 46)) := Utf8Tabs_below hT ((Below.refl _ w).alloc (Nat.le_refl _) _)
    have hb : Below w.heap.size w (w.alloc (.cells #[.int .i64 tb, .bool wd, .int .i8 wt, .bool jn, .bool rz] 46)) := (Below.refl _ w).alloc (Nat.le_refl _) _
    obtain ⟨W, hW⟩ : ∃ W, w.alloc (.cells #[.int .i64 tb, .bool wd, .int .i8 wt, .bool jn, .bool rz] 46) = W := ⟨_, rfl⟩
    have hsz : w.heap.size < W.heap.size := by rw [← hW]; simp
    rw [hW] at hL hb hTW
    obtain ⟨B, hB⟩ : ∃ B, w.heap.size = B := ⟨_, rfl⟩
    rw [hB] at hL hb hsz
    have HL := Lib.hid hL
    have Hb := Lib.hid hb
    clear hL hb hT
    unfold Shows
    rw [hB]
    go_enter Tryd.func45, Tryd.ntmps45
    go_wp2_with fail
    try rw [hW]
    clear hW
    refine (HN.out _ hTW).mono ?_
    rintro _ w1 ⟨rfl, b1⟩
    have HT1 := Lib.hid (Utf8Tabs_below hTW b1)
    have HL1 := Lib.hid (HL.out.below b1 hsz)
    have Hb1 := Lib.hid (Hb.out.trans (b1.mono (by omega)))
    have hs1 : B < w1.heap.size := by have := b1.size; omega
    clear b1 HL Hb hTW
    go_wp2_with fail
    refine (HK.out _).mono ?_
    rintro _ w2 ⟨rfl, b2⟩
    have HT2 := Lib.hid (Utf8Tabs_below HT1.out b2)
    have HL2 := Lib.hid (HL1.out.below b2 hs1)
    have Hb2 := Lib.hid (Hb1.out.trans (b2.mono (by omega)))
    have hs2 : B < w2.heap.size := by have := b2.size; omega
    clear b2 HL1 Hb1 HT1
    obtain ⟨c0, c1, c2, c3, c4⟩ := HL2.out
    go_wp2_with fail
    refine (HC.out _).mono ?_
    rintro _ w3 ⟨rfl, b3⟩
    have Hb3 := Lib.hid (Hb2.out.trans (b3.mono (by omega)))
    go_wp2
    go_ret2
    exact ⟨rfl, Hb3.out⟩

set_option maxRecDepth 100000 in
set_option maxHeartbeats 1000000 in
theorem cl_high (x z : Nat) (hne : s.data.toList ≠ []) (hx : dec s.data.toList = (x, z)) (hnb : ¬ (x = 65533 ∧ z = 1)) (hT : Utf8Tabs 0 1 w) (hk : kN x = 0) (hlow : 127 < x) (hx21 : x < 2097152) : Shows s col tb wd wt jn rz w (sgnZ rz x).1 (sgnZ rz x).2 := by
  have HN := Lib.hid (fun W hT => next_any s W hT)
  rw [show nxt s.data.toList = (x, z) by unfold nxt; rw [if_neg hne]; exact hx] at HN
  have hK := fun W => Kind_any (x : Int) W
  rw [show cls kindsL (char (x : Int)) = kN x from rfl, hk] at hK
  have HK := Lib.hid hK
  clear hK
  have hz := dec_pos s.data.toList
  rw [hx] at hz
  have hz0 : ((z : Int) == 0) = false := by simp at hz; simp; omega
  have hzx : ((z : Int) == 1) = false ∨ (((z : Int) == 1) = true ∧ ((x : Int) == 65533) = false) := by
    by_cases h1 : z = 1
    · right
      refine ⟨by simp; omega, ?_⟩
      rw [beq_eq_false_iff_ne]
      omega
    · left
      rw [beq_eq_false_iff_ne]
      omega
  have HC := Lib.hid (fun W => sign_any x tb wd wt jn rz (by omega) W)
  have hl1 : ¬ ((x : Int) ≤ 127) := by omega
  have hn1 : ((x : Int) != 8204) = true := by
    have := (k_ctl x).1 hk
    simp; omega
  have hn2 : ((x : Int) != 8205) = true := by
    have := (k_ctl x).1 hk
    simp; omega
  have Hx := Lib.hid hx
  clear hx hz hne hnb
  rcases hzx with hz1 | ⟨hz1, hx1⟩
  all_goals
    have hT0 := tabs_size hT
    have hL := LookAt.new w 46 tb wd wt jn rz
    have hTW : Utf8Tabs 0 1 (w.alloc (.cells #[.int .i64 tb, .bool wd, .int .i8 wt, .bool jn, .bool rz] 46)) := Utf8Tabs_below hT ((Below.refl _ w).alloc (Nat.le_refl _) _)
    have hb : Below w.heap.size w (w.alloc (.cells #[.int .i64 tb, .bool wd, .int .i8 wt, .bool jn, .bool rz] 46)) := (Below.refl _ w).alloc (Nat.le_refl _) _
    obtain ⟨W, hW⟩ : ∃ W, w.alloc (.cells #[.int .i64 tb, .bool wd, .int .i8 wt, .bool jn, .bool rz] 46) = W := ⟨_, rfl⟩
    have hsz : w.heap.size < W.heap.size := by rw [← hW]; simp
    rw [hW] at hL hb hTW
    obtain ⟨B, hB⟩ : ∃ B, w.heap.size = B := ⟨_, rfl⟩
    rw [hB] at hL hb hsz
    have HL := Lib.hid hL
    have Hb := Lib.hid hb
    clear hL hb hT
    unfold Shows
    rw [hB]
    go_enter Tryd.func45, Tryd.ntmps45
    go_wp2_with fail
    try rw [hW]
    clear hW
    refine (HN.out _ hTW).mono ?_
    rintro _ w1 ⟨rfl, b1⟩
    have HT1 := Lib.hid (Utf8Tabs_below hTW b1)
    have HL1 := Lib.hid (HL.out.below b1 hsz)
    have Hb1 := Lib.hid (Hb.out.trans (b1.mono (by omega)))
    have hs1 : B < w1.heap.size := by have := b1.size; omega
    clear b1 HL Hb hTW
    go_wp2_with fail
    refine (HK.out _).mono ?_
    rintro _ w2 ⟨rfl, b2⟩
    have HT2 := Lib.hid (Utf8Tabs_below HT1.out b2)
    have HL2 := Lib.hid (HL1.out.below b2 hs1)
    have Hb2 := Lib.hid (Hb1.out.trans (b2.mono (by omega)))
    have hs2 : B < w2.heap.size := by have := b2.size; omega
    clear b2 HL1 Hb1 HT1
    obtain ⟨c0, c1, c2, c3, c4⟩ := HL2.out
    go_wp2_with fail
    refine (HC.out _).mono ?_
    rintro _ w3 ⟨rfl, b3⟩
    have Hb3 := Lib.hid (Hb2.out.trans (b3.mono (by omega)))
    go_wp2
    go_ret2
    exact ⟨rfl, Hb3.out⟩

set_option maxRecDepth 100000 in
set_option maxHeartbeats 1000000 in
theorem cl_form (x z : Nat) (hne : s.data.toList ≠ []) (hx : dec s.data.toList = (x, z)) (hnb : ¬ (x = 65533 ∧ z = 1)) (hT : Utf8Tabs 0 1 w) (hk : kN x = 1) (h4 : x ≠ 8204) (h5 : x ≠ 8205) (hx21 : x < 2097152) : Shows s col tb wd wt jn rz w (sgnZ rz x).1 (sgnZ rz x).2 := by
  have HN := Lib.hid (fun W hT => next_any s W hT)
  rw [show nxt s.data.toList = (x, z) by unfold nxt; rw [if_neg hne]; exact hx] at HN
  have hK := fun W => Kind_any (x : Int) W
  rw [show cls kindsL (char (x : Int)) = kN x from rfl, hk] at hK
  have HK := Lib.hid hK
  clear hK
  have hz := dec_pos s.data.toList
  rw [hx] at hz
  have hz0 : ((z : Int) == 0) = false := by simp at hz; simp; omega
  have hzx : ((z : Int) == 1) = false ∨ (((z : Int) == 1) = true ∧ ((x : Int) == 65533) = false) := by
    by_cases h1 : z = 1
    · right
      refine ⟨by simp; omega, ?_⟩
      rw [beq_eq_false_iff_ne]
      omega
    · left
      rw [beq_eq_false_iff_ne]
      omega
  have HC := Lib.hid (fun W => sign_any x tb wd wt jn rz (by omega) W)
  have hn1 : ((x : Int) != 8204) = true := by simp; omega
  have hn2 : ((x : Int) != 8205) = true := by simp; omega
  have Hx := Lib.hid hx
  clear hx hz hne hnb
  rcases hzx with hz1 | ⟨hz1, hx1⟩
  all_goals
    have hT0 := tabs_size hT
    have hL := LookAt.new w 46 tb wd wt jn rz
    have hTW : Utf8Tabs 0 1 (w.alloc (.cells #[.int .i64 tb, .bool wd, .int .i8 wt, .bool jn, .bool rz] 46)) := Utf8Tabs_below hT ((Below.refl _ w).alloc (Nat.le_refl _) _)
    have hb : Below w.heap.size w (w.alloc (.cells #[.int .i64 tb, .bool wd, .int .i8 wt, .bool jn, .bool rz] 46)) := (Below.refl _ w).alloc (Nat.le_refl _) _
    obtain ⟨W, hW⟩ : ∃ W, w.alloc (.cells #[.int .i64 tb, .bool wd, .int .i8 wt, .bool jn, .bool rz] 46) = W := ⟨_, rfl⟩
    have hsz : w.heap.size < W.heap.size := by rw [← hW]; simp
    rw [hW] at hL hb hTW
    obtain ⟨B, hB⟩ : ∃ B, w.heap.size = B := ⟨_, rfl⟩
    rw [hB] at hL hb hsz
    have HL := Lib.hid hL
    have Hb := Lib.hid hb
    clear hL hb hT
    unfold Shows
    rw [hB]
    go_enter Tryd.func45, Tryd.ntmps45
    go_wp2_with fail
    try rw [hW]
    clear hW
    refine (HN.out _ hTW).mono ?_
    rintro _ w1 ⟨rfl, b1⟩
    have HT1 := Lib.hid (Utf8Tabs_below hTW b1)
    have HL1 := Lib.hid (HL.out.below b1 hsz)
    have Hb1 := Lib.hid (Hb.out.trans (b1.mono (by omega)))
    have hs1 : B < w1.heap.size := by have := b1.size; omega
    clear b1 HL Hb hTW
    go_wp2_with fail
    refine (HK.out _).mono ?_
    rintro _ w2 ⟨rfl, b2⟩
    have HT2 := Lib.hid (Utf8Tabs_below HT1.out b2)
    have HL2 := Lib.hid (HL1.out.below b2 hs1)
    have Hb2 := Lib.hid (Hb1.out.trans (b2.mono (by omega)))
    have hs2 : B < w2.heap.size := by have := b2.size; omega
    clear b2 HL1 Hb1 HT1
    obtain ⟨c0, c1, c2, c3, c4⟩ := HL2.out
    go_wp2_with fail
    refine (HC.out _).mono ?_
    rintro _ w3 ⟨rfl, b3⟩
    have Hb3 := Lib.hid (Hb2.out.trans (b3.mono (by omega)))
    go_wp2
    go_ret2
    exact ⟨rfl, Hb3.out⟩

set_option maxRecDepth 100000 in
set_option maxHeartbeats 1000000 in
theorem cl_join4 (x z : Nat) (hne : s.data.toList ≠ []) (hx : dec s.data.toList = (x, z)) (hnb : ¬ (x = 65533 ∧ z = 1)) (hT : Utf8Tabs 0 1 w) (hk : kN x = 1) (h4 : x = 8204) (hs : s.size ≤ 1073741824) : Shows s col tb wd wt jn rz w (circP s.data.toList) 1 := by
  have HN := Lib.hid (fun W hT => next_any s W hT)
  rw [show nxt s.data.toList = (x, z) by unfold nxt; rw [if_neg hne]; exact hx] at HN
  have hK := fun W => Kind_any (x : Int) W
  rw [show cls kindsL (char (x : Int)) = kN x from rfl, hk] at hK
  have HK := Lib.hid hK
  clear hK
  have hz := dec_pos s.data.toList
  rw [hx] at hz
  have hz0 : ((z : Int) == 0) = false := by simp at hz; simp; omega
  have hzx : ((z : Int) == 1) = false ∨ (((z : Int) == 1) = true ∧ ((x : Int) == 65533) = false) := by
    by_cases h1 : z = 1
    · right
      refine ⟨by simp; omega, ?_⟩
      rw [beq_eq_false_iff_ne]
      omega
    · left
      rw [beq_eq_false_iff_ne]
      omega
  have HC := Lib.hid (fun W => circle_any s hs W)
  have hn1 : ((x : Int) != 8204) = false := by simp; omega
  clear h4
  have Hx := Lib.hid hx
  clear hx hz hne hnb
  rcases hzx with hz1 | ⟨hz1, hx1⟩
  all_goals
    have hT0 := tabs_size hT
    have hL := LookAt.new w 46 tb wd wt jn rz
    have hTW : Utf8Tabs 0 1 (w.alloc (.cells #[.int .i64 tb, .bool wd, .int .i8 wt, .bool jn, .bool rz] 46)) := Utf8Tabs_below hT ((Below.refl _ w).alloc (Nat.le_refl _) _)
    have hb : Below w.heap.size w (w.alloc (.cells #[.int .i64 tb, .bool wd, .int .i8 wt, .bool jn, .bool rz] 46)) := (Below.refl _ w).alloc (Nat.le_refl _) _
    obtain ⟨W, hW⟩ : ∃ W, w.alloc (.cells #[.int .i64 tb, .bool wd, .int .i8 wt, .bool jn, .bool rz] 46) = W := ⟨_, rfl⟩
    have hsz : w.heap.size < W.heap.size := by rw [← hW]; simp
    rw [hW] at hL hb hTW
    obtain ⟨B, hB⟩ : ∃ B, w.heap.size = B := ⟨_, rfl⟩
    rw [hB] at hL hb hsz
    have HL := Lib.hid hL
    have Hb := Lib.hid hb
    clear hL hb hT
    unfold Shows
    rw [hB]
    go_enter Tryd.func45, Tryd.ntmps45
    go_wp2_with fail
    try rw [hW]
    clear hW
    refine (HN.out _ hTW).mono ?_
    rintro _ w1 ⟨rfl, b1⟩
    have HT1 := Lib.hid (Utf8Tabs_below hTW b1)
    have HL1 := Lib.hid (HL.out.below b1 hsz)
    have Hb1 := Lib.hid (Hb.out.trans (b1.mono (by omega)))
    have hs1 : B < w1.heap.size := by have := b1.size; omega
    clear b1 HL Hb hTW
    go_wp2_with fail
    refine (HK.out _).mono ?_
    rintro _ w2 ⟨rfl, b2⟩
    have HT2 := Lib.hid (Utf8Tabs_below HT1.out b2)
    have HL2 := Lib.hid (HL1.out.below b2 hs1)
    have Hb2 := Lib.hid (Hb1.out.trans (b2.mono (by omega)))
    have hs2 : B < w2.heap.size := by have := b2.size; omega
    clear b2 HL1 Hb1 HT1
    obtain ⟨c0, c1, c2, c3, c4⟩ := HL2.out
    go_wp2_with fail
    refine (HC.out _).mono ?_
    rintro _ w3 ⟨rfl, b3⟩
    have Hb3 := Lib.hid (Hb2.out.trans (b3.mono (by omega)))
    go_wp2
    go_ret2
    exact ⟨rfl, Hb3.out⟩

set_option maxRecDepth 100000 in
set_option maxHeartbeats 1000000 in
theorem cl_join5 (x z : Nat) (hne : s.data.toList ≠ []) (hx : dec s.data.toList = (x, z)) (hnb : ¬ (x = 65533 ∧ z = 1)) (hT : Utf8Tabs 0 1 w) (hk : kN x = 1) (h5 : x = 8205) (hs : s.size ≤ 1073741824) : Shows s col tb wd wt jn rz w (circP s.data.toList) 1 := by
  have HN := Lib.hid (fun W hT => next_any s W hT)
  rw [show nxt s.data.toList = (x, z) by unfold nxt; rw [if_neg hne]; exact hx] at HN
  have hK := fun W => Kind_any (x : Int) W
  rw [show cls kindsL (char (x : Int)) = kN x from rfl, hk] at hK
  have HK := Lib.hid hK
  clear hK
  have hz := dec_pos s.data.toList
  rw [hx] at hz
  have hz0 : ((z : Int) == 0) = false := by simp at hz; simp; omega
  have hzx : ((z : Int) == 1) = false ∨ (((z : Int) == 1) = true ∧ ((x : Int) == 65533) = false) := by
    by_cases h1 : z = 1
    · right
      refine ⟨by simp; omega, ?_⟩
      rw [beq_eq_false_iff_ne]
      omega
    · left
      rw [beq_eq_false_iff_ne]
      omega
  have HC := Lib.hid (fun W => circle_any s hs W)
  have hn1 : ((x : Int) != 8204) = true := by simp; omega
  have hn2 : ((x : Int) != 8205) = false := by simp; omega
  clear h5
  have Hx := Lib.hid hx
  clear hx hz hne hnb
  rcases hzx with hz1 | ⟨hz1, hx1⟩
  all_goals
    have hT0 := tabs_size hT
    have hL := LookAt.new w 46 tb wd wt jn rz
    have hTW : Utf8Tabs 0 1 (w.alloc (.cells #[.int .i64 tb, .bool wd, .int .i8 wt, .bool jn, .bool rz] 46)) := Utf8Tabs_below hT ((Below.refl _ w).alloc (Nat.le_refl _) _)
    have hb : Below w.heap.size w (w.alloc (.cells #[.int .i64 tb, .bool wd, .int .i8 wt, .bool jn, .bool rz] 46)) := (Below.refl _ w).alloc (Nat.le_refl _) _
    obtain ⟨W, hW⟩ : ∃ W, w.alloc (.cells #[.int .i64 tb, .bool wd, .int .i8 wt, .bool jn, .bool rz] 46) = W := ⟨_, rfl⟩
    have hsz : w.heap.size < W.heap.size := by rw [← hW]; simp
    rw [hW] at hL hb hTW
    obtain ⟨B, hB⟩ : ∃ B, w.heap.size = B := ⟨_, rfl⟩
    rw [hB] at hL hb hsz
    have HL := Lib.hid hL
    have Hb := Lib.hid hb
    clear hL hb hT
    unfold Shows
    rw [hB]
    go_enter Tryd.func45, Tryd.ntmps45
    go_wp2_with fail
    try rw [hW]
    clear hW
    refine (HN.out _ hTW).mono ?_
    rintro _ w1 ⟨rfl, b1⟩
    have HT1 := Lib.hid (Utf8Tabs_below hTW b1)
    have HL1 := Lib.hid (HL.out.below b1 hsz)
    have Hb1 := Lib.hid (Hb.out.trans (b1.mono (by omega)))
    have hs1 : B < w1.heap.size := by have := b1.size; omega
    clear b1 HL Hb hTW
    go_wp2_with fail
    refine (HK.out _).mono ?_
    rintro _ w2 ⟨rfl, b2⟩
    have HT2 := Lib.hid (Utf8Tabs_below HT1.out b2)
    have HL2 := Lib.hid (HL1.out.below b2 hs1)
    have Hb2 := Lib.hid (Hb1.out.trans (b2.mono (by omega)))
    have hs2 : B < w2.heap.size := by have := b2.size; omega
    clear b2 HL1 Hb1 HT1
    obtain ⟨c0, c1, c2, c3, c4⟩ := HL2.out
    go_wp2_with fail
    refine (HC.out _).mono ?_
    rintro _ w3 ⟨rfl, b3⟩
    have Hb3 := Lib.hid (Hb2.out.trans (b3.mono (by omega)))
    go_wp2
    go_ret2
    exact ⟨rfl, Hb3.out⟩

set_option maxRecDepth 100000 in
set_option maxHeartbeats 1000000 in
theorem cl_mark (x z : Nat) (hne : s.data.toList ≠ []) (hx : dec s.data.toList = (x, z)) (hnb : ¬ (x = 65533 ∧ z = 1)) (hT : Utf8Tabs 0 1 w) (hk : kN x = 2) (hs : s.size ≤ 1073741824) : Shows s col tb wd wt jn rz w (circP s.data.toList) 1 := by
  have HN := Lib.hid (fun W hT => next_any s W hT)
  rw [show nxt s.data.toList = (x, z) by unfold nxt; rw [if_neg hne]; exact hx] at HN
  have hK := fun W => Kind_any (x : Int) W
  rw [show cls kindsL (char (x : Int)) = kN x from rfl, hk] at hK
  have HK := Lib.hid hK
  clear hK
  have hz := dec_pos s.data.toList
  rw [hx] at hz
  have hz0 : ((z : Int) == 0) = false := by simp at hz; simp; omega
  have hzx : ((z : Int) == 1) = false ∨ (((z : Int) == 1) = true ∧ ((x : Int) == 65533) = false) := by
    by_cases h1 : z = 1
    · right
      refine ⟨by simp; omega, ?_⟩
      rw [beq_eq_false_iff_ne]
      omega
    · left
      rw [beq_eq_false_iff_ne]
      omega
  have HC := Lib.hid (fun W => circle_any s hs W)
  have Hx := Lib.hid hx
  clear hx hz hne hnb
  rcases hzx with hz1 | ⟨hz1, hx1⟩
  all_goals
    have hT0 := tabs_size hT
    have hL := LookAt.new w 46 tb wd wt jn rz
    have hTW : Utf8Tabs 0 1 (w.alloc (.cells #[.int .i64 tb, .bool wd, .int .i8 wt, .bool jn, .bool rz] 46)) := Utf8Tabs_below hT ((Below.refl _ w).alloc (Nat.le_refl _) _)
    have hb : Below w.heap.size w (w.alloc (.cells #[.int .i64 tb, .bool wd, .int .i8 wt, .bool jn, .bool rz] 46)) := (Below.refl _ w).alloc (Nat.le_refl _) _
    obtain ⟨W, hW⟩ : ∃ W, w.alloc (.cells #[.int .i64 tb, .bool wd, .int .i8 wt, .bool jn, .bool rz] 46) = W := ⟨_, rfl⟩
    have hsz : w.heap.size < W.heap.size := by rw [← hW]; simp
    rw [hW] at hL hb hTW
    obtain ⟨B, hB⟩ : ∃ B, w.heap.size = B := ⟨_, rfl⟩
    rw [hB] at hL hb hsz
    have HL := Lib.hid hL
    have Hb := Lib.hid hb
    clear hL hb hT
    unfold Shows
    rw [hB]
    go_enter Tryd.func45, Tryd.ntmps45
    go_wp2_with fail
    try rw [hW]
    clear hW
    refine (HN.out _ hTW).mono ?_
    rintro _ w1 ⟨rfl, b1⟩
    have HT1 := Lib.hid (Utf8Tabs_below hTW b1)
    have HL1 := Lib.hid (HL.out.below b1 hsz)
    have Hb1 := Lib.hid (Hb.out.trans (b1.mono (by omega)))
    have hs1 : B < w1.heap.size := by have := b1.size; omega
    clear b1 HL Hb hTW
    go_wp2_with fail
    refine (HK.out _).mono ?_
    rintro _ w2 ⟨rfl, b2⟩
    have HT2 := Lib.hid (Utf8Tabs_below HT1.out b2)
    have HL2 := Lib.hid (HL1.out.below b2 hs1)
    have Hb2 := Lib.hid (Hb1.out.trans (b2.mono (by omega)))
    have hs2 : B < w2.heap.size := by have := b2.size; omega
    clear b2 HL1 Hb1 HT1
    obtain ⟨c0, c1, c2, c3, c4⟩ := HL2.out
    go_wp2_with fail
    refine (HC.out _).mono ?_
    rintro _ w3 ⟨rfl, b3⟩
    have Hb3 := Lib.hid (Hb2.out.trans (b3.mono (by omega)))
    go_wp2
    go_ret2
    exact ⟨rfl, Hb3.out⟩

set_option maxRecDepth 100000 in
set_option maxHeartbeats 1000000 in
theorem cl_line8 (x z : Nat) (hne : s.data.toList ≠ []) (hx : dec s.data.toList = (x, z)) (hnb : ¬ (x = 65533 ∧ z = 1)) (hT : Utf8Tabs 0 1 w) (hk : kN x = 5) (h8 : x = 8232) (hx21 : x < 2097152) : Shows s col tb wd wt jn rz w (sgnZ rz x).1 (sgnZ rz x).2 := by
  have HN := Lib.hid (fun W hT => next_any s W hT)
  rw [show nxt s.data.toList = (x, z) by unfold nxt; rw [if_neg hne]; exact hx] at HN
  have hK := fun W => Kind_any (x : Int) W
  rw [show cls kindsL (char (x : Int)) = kN x from rfl, hk] at hK
  have HK := Lib.hid hK
  clear hK
  have hz := dec_pos s.data.toList
  rw [hx] at hz
  have hz0 : ((z : Int) == 0) = false := by simp at hz; simp; omega
  have hzx : ((z : Int) == 1) = false ∨ (((z : Int) == 1) = true ∧ ((x : Int) == 65533) = false) := by
    by_cases h1 : z = 1
    · right
      refine ⟨by simp; omega, ?_⟩
      rw [beq_eq_false_iff_ne]
      omega
    · left
      rw [beq_eq_false_iff_ne]
      omega
  have HC := Lib.hid (fun W => sign_any x tb wd wt jn rz (by omega) W)
  have hn1 : ((x : Int) == 8232) = true := by simp; omega
  clear h8
  have Hx := Lib.hid hx
  clear hx hz hne hnb
  rcases hzx with hz1 | ⟨hz1, hx1⟩
  all_goals
    have hT0 := tabs_size hT
    have hL := LookAt.new w 46 tb wd wt jn rz
    have hTW : Utf8Tabs 0 1 (w.alloc (.cells #[.int .i64 tb, .bool wd, .int .i8 wt, .bool jn, .bool rz] 46)) := Utf8Tabs_below hT ((Below.refl _ w).alloc (Nat.le_refl _) _)
    have hb : Below w.heap.size w (w.alloc (.cells #[.int .i64 tb, .bool wd, .int .i8 wt, .bool jn, .bool rz] 46)) := (Below.refl _ w).alloc (Nat.le_refl _) _
    obtain ⟨W, hW⟩ : ∃ W, w.alloc (.cells #[.int .i64 tb, .bool wd, .int .i8 wt, .bool jn, .bool rz] 46) = W := ⟨_, rfl⟩
    have hsz : w.heap.size < W.heap.size := by rw [← hW]; simp
    rw [hW] at hL hb hTW
    obtain ⟨B, hB⟩ : ∃ B, w.heap.size = B := ⟨_, rfl⟩
    rw [hB] at hL hb hsz
    have HL := Lib.hid hL
    have Hb := Lib.hid hb
    clear hL hb hT
    unfold Shows
    rw [hB]
    go_enter Tryd.func45, Tryd.ntmps45
    go_wp2_with fail
    try rw [hW]
    clear hW
    refine (HN.out _ hTW).mono ?_
    rintro _ w1 ⟨rfl, b1⟩
    have HT1 := Lib.hid (Utf8Tabs_below hTW b1)
    have HL1 := Lib.hid (HL.out.below b1 hsz)
    have Hb1 := Lib.hid (Hb.out.trans (b1.mono (by omega)))
    have hs1 : B < w1.heap.size := by have := b1.size; omega
    clear b1 HL Hb hTW
    go_wp2_with fail
    refine (HK.out _).mono ?_
    rintro _ w2 ⟨rfl, b2⟩
    have HT2 := Lib.hid (Utf8Tabs_below HT1.out b2)
    have HL2 := Lib.hid (HL1.out.below b2 hs1)
    have Hb2 := Lib.hid (Hb1.out.trans (b2.mono (by omega)))
    have hs2 : B < w2.heap.size := by have := b2.size; omega
    clear b2 HL1 Hb1 HT1
    obtain ⟨c0, c1, c2, c3, c4⟩ := HL2.out
    go_wp2_with fail
    refine (HC.out _).mono ?_
    rintro _ w3 ⟨rfl, b3⟩
    have Hb3 := Lib.hid (Hb2.out.trans (b3.mono (by omega)))
    go_wp2
    go_ret2
    exact ⟨rfl, Hb3.out⟩

set_option maxRecDepth 100000 in
set_option maxHeartbeats 1000000 in
theorem cl_line9 (x z : Nat) (hne : s.data.toList ≠ []) (hx : dec s.data.toList = (x, z)) (hnb : ¬ (x = 65533 ∧ z = 1)) (hT : Utf8Tabs 0 1 w) (hk : kN x = 5) (h9 : x = 8233) (hx21 : x < 2097152) : Shows s col tb wd wt jn rz w (sgnZ rz x).1 (sgnZ rz x).2 := by
  have HN := Lib.hid (fun W hT => next_any s W hT)
  rw [show nxt s.data.toList = (x, z) by unfold nxt; rw [if_neg hne]; exact hx] at HN
  have hK := fun W => Kind_any (x : Int) W
  rw [show cls kindsL (char (x : Int)) = kN x from rfl, hk] at hK
  have HK := Lib.hid hK
  clear hK
  have hz := dec_pos s.data.toList
  rw [hx] at hz
  have hz0 : ((z : Int) == 0) = false := by simp at hz; simp; omega
  have hzx : ((z : Int) == 1) = false ∨ (((z : Int) == 1) = true ∧ ((x : Int) == 65533) = false) := by
    by_cases h1 : z = 1
    · right
      refine ⟨by simp; omega, ?_⟩
      rw [beq_eq_false_iff_ne]
      omega
    · left
      rw [beq_eq_false_iff_ne]
      omega
  have HC := Lib.hid (fun W => sign_any x tb wd wt jn rz (by omega) W)
  have hn1 : ((x : Int) == 8232) = false := by simp; omega
  have hn2 : ((x : Int) == 8233) = true := by simp; omega
  clear h9
  have Hx := Lib.hid hx
  clear hx hz hne hnb
  rcases hzx with hz1 | ⟨hz1, hx1⟩
  all_goals
    have hT0 := tabs_size hT
    have hL := LookAt.new w 46 tb wd wt jn rz
    have hTW : Utf8Tabs 0 1 (w.alloc (.cells #[.int .i64 tb, .bool wd, .int .i8 wt, .bool jn, .bool rz] 46)) := Utf8Tabs_below hT ((Below.refl _ w).alloc (Nat.le_refl _) _)
    have hb : Below w.heap.size w (w.alloc (.cells #[.int .i64 tb, .bool wd, .int .i8 wt, .bool jn, .bool rz] 46)) := (Below.refl _ w).alloc (Nat.le_refl _) _
    obtain ⟨W, hW⟩ : ∃ W, w.alloc (.cells #[.int .i64 tb, .bool wd, .int .i8 wt, .bool jn, .bool rz] 46) = W := ⟨_, rfl⟩
    have hsz : w.heap.size < W.heap.size := by rw [← hW]; simp
    rw [hW] at hL hb hTW
    obtain ⟨B, hB⟩ : ∃ B, w.heap.size = B := ⟨_, rfl⟩
    rw [hB] at hL hb hsz
    have HL := Lib.hid hL
    have Hb := Lib.hid hb
    clear hL hb hT
    unfold Shows
    rw [hB]
    go_enter Tryd.func45, Tryd.ntmps45
    go_wp2_with fail
    try rw [hW]
    clear hW
    refine (HN.out _ hTW).mono ?_
    rintro _ w1 ⟨rfl, b1⟩
    have HT1 := Lib.hid (Utf8Tabs_below hTW b1)
    have HL1 := Lib.hid (HL.out.below b1 hsz)
    have Hb1 := Lib.hid (Hb.out.trans (b1.mono (by omega)))
    have hs1 : B < w1.heap.size := by have := b1.size; omega
    clear b1 HL Hb hTW
    go_wp2_with fail
    refine (HK.out _).mono ?_
    rintro _ w2 ⟨rfl, b2⟩
    have HT2 := Lib.hid (Utf8Tabs_below HT1.out b2)
    have HL2 := Lib.hid (HL1.out.below b2 hs1)
    have Hb2 := Lib.hid (Hb1.out.trans (b2.mono (by omega)))
    have hs2 : B < w2.heap.size := by have := b2.size; omega
    clear b2 HL1 Hb1 HT1
    obtain ⟨c0, c1, c2, c3, c4⟩ := HL2.out
    go_wp2_with fail
    refine (HC.out _).mono ?_
    rintro _ w3 ⟨rfl, b3⟩
    have Hb3 := Lib.hid (Hb2.out.trans (b3.mono (by omega)))
    go_wp2
    go_ret2
    exact ⟨rfl, Hb3.out⟩

set_option maxRecDepth 100000 in
set_option maxHeartbeats 1000000 in
theorem cl_space (x z : Nat) (hne : s.data.toList ≠ []) (hx : dec s.data.toList = (x, z)) (hnb : ¬ (x = 65533 ∧ z = 1)) (hT : Utf8Tabs 0 1 w) (hk : kN x = 5) (h8 : x ≠ 8232) (h9 : x ≠ 8233) : Shows s col tb wd wt jn rz w (if wideOf (cls widthsL (char (x : Int))) wd = 0 then [] else s.data.toList) (wideOf (cls widthsL (char (x : Int))) wd) := by
  have HN := Lib.hid (fun W hT => next_any s W hT)
  rw [show nxt s.data.toList = (x, z) by unfold nxt; rw [if_neg hne]; exact hx] at HN
  have hK := fun W => Kind_any (x : Int) W
  rw [show cls kindsL (char (x : Int)) = kN x from rfl, hk] at hK
  have HK := Lib.hid hK
  clear hK
  have hz := dec_pos s.data.toList
  rw [hx] at hz
  have hz0 : ((z : Int) == 0) = false := by simp at hz; simp; omega
  have hzx : ((z : Int) == 1) = false ∨ (((z : Int) == 1) = true ∧ ((x : Int) == 65533) = false) := by
    by_cases h1 : z = 1
    · right
      refine ⟨by simp; omega, ?_⟩
      rw [beq_eq_false_iff_ne]
      omega
    · left
      rw [beq_eq_false_iff_ne]
      omega
  have HW := Lib.hid (fun W => Wide_any (x : Int) wd W)
  obtain ⟨v, hv⟩ : ∃ v, wideOf (cls widthsL (char (x : Int))) wd = v := ⟨_, rfl⟩
  rw [hv] at HW ⊢
  clear hv
  obtain ⟨L, hL9⟩ : ∃ L, (if v = 0 then [] else s.data.toList) = L := ⟨_, rfl⟩
  rw [hL9]
  have HLL := Lib.hid hL9
  clear hL9
  have hn1 : ((x : Int) == 8232) = false := by simp; omega
  have hn2 : ((x : Int) == 8233) = false := by simp; omega
  have Hx := Lib.hid hx
  clear hx hz hne hnb
  rcases hzx with hz1 | ⟨hz1, hx1⟩
  all_goals
    have hT0 := tabs_size hT
    have hL := LookAt.new w 46 tb wd wt jn rz
    have hTW : Utf8Tabs 0 1 (w.alloc (.cells #[.int .i64 tb, .bool wd, .int .i8 wt, .bool jn, .bool rz] 46)) := Utf8Tabs_below hT ((Below.refl _ w).alloc (Nat.le_refl _) _)
    have hb : Below w.heap.size w (w.alloc (.cells #[.int .i64 tb, .bool wd, .int .i8 wt, .bool jn, .bool rz] 46)) := (Below.refl _ w).alloc (Nat.le_refl _) _
    obtain ⟨W, hW⟩ : ∃ W, w.alloc (.cells #[.int .i64 tb, .bool wd, .int .i8 wt, .bool jn, .bool rz] 46) = W := ⟨_, rfl⟩
    have hsz : w.heap.size < W.heap.size := by rw [← hW]; simp
    rw [hW] at hL hb hTW
    obtain ⟨B, hB⟩ : ∃ B, w.heap.size = B := ⟨_, rfl⟩
    rw [hB] at hL hb hsz
    have HL := Lib.hid hL
    have Hb := Lib.hid hb
    clear hL hb hT
    unfold Shows
    rw [hB]
    go_enter Tryd.func45, Tryd.ntmps45
    go_wp2_with fail
    try rw [hW]
    clear hW
    refine (HN.out _ hTW).mono ?_
    rintro _ w1 ⟨rfl, b1⟩
    have HT1 := Lib.hid (Utf8Tabs_below hTW b1)
    have HL1 := Lib.hid (HL.out.below b1 hsz)
    have Hb1 := Lib.hid (Hb.out.trans (b1.mono (by omega)))
    have hs1 : B < w1.heap.size := by have := b1.size; omega
    clear b1 HL Hb hTW
    go_wp2_with fail
    refine (HK.out _).mono ?_
    rintro _ w2 ⟨rfl, b2⟩
    have HT2 := Lib.hid (Utf8Tabs_below HT1.out b2)
    have HL2 := Lib.hid (HL1.out.below b2 hs1)
    have Hb2 := Lib.hid (Hb1.out.trans (b2.mono (by omega)))
    have hs2 : B < w2.heap.size := by have := b2.size; omega
    clear b2 HL1 Hb1 HT1
    obtain ⟨c0, c1, c2, c3, c4⟩ := HL2.out
    go_wp2_with fail
    refine (HW.out _).mono ?_
    rintro _ w3 ⟨rfl, b3⟩
    have Hb3 := Lib.hid (Hb2.out.trans (b3.mono (by omega)))
    by_cases hv0 : v = 0
    · subst hv0
      have hL9 := HLL.out
      rw [if_pos rfl] at hL9
      subst hL9
      go_wp2
      go_ret2
      exact ⟨rfl, Hb3.out⟩
    · have hvi : ((v : Int) == 0) = false := by simp; omega
      have hL9 := HLL.out
      rw [if_neg hv0] at hL9
      subst hL9
      clear hv0
      go_wp2
      go_ret2
      exact ⟨rfl, Hb3.out⟩

set_option maxRecDepth 100000 in
set_option maxHeartbeats 1000000 in
theorem cl_other (x z : Nat) (hne : s.data.toList ≠ []) (hx : dec s.data.toList = (x, z)) (hnb : ¬ (x = 65533 ∧ z = 1)) (hT : Utf8Tabs 0 1 w) (k : Nat) (hk : kN x = k) (h0 : k ≠ 0) (h1 : k ≠ 1) (h2 : k ≠ 2) (h5 : k ≠ 5) (h7 : k ≠ 7) : Shows s col tb wd wt jn rz w (if wideOf (cls widthsL (char (x : Int))) wd = 0 then [] else s.data.toList) (wideOf (cls widthsL (char (x : Int))) wd) := by
  have HN := Lib.hid (fun W hT => next_any s W hT)
  rw [show nxt s.data.toList = (x, z) by unfold nxt; rw [if_neg hne]; exact hx] at HN
  have hK := fun W => Kind_any (x : Int) W
  rw [show cls kindsL (char (x : Int)) = kN x from rfl, hk] at hK
  have HK := Lib.hid hK
  clear hK
  have hz := dec_pos s.data.toList
  rw [hx] at hz
  have hz0 : ((z : Int) == 0) = false := by simp at hz; simp; omega
  have hzx : ((z : Int) == 1) = false ∨ (((z : Int) == 1) = true ∧ ((x : Int) == 65533) = false) := by
    by_cases h1 : z = 1
    · right
      refine ⟨by simp; omega, ?_⟩
      rw [beq_eq_false_iff_ne]
      omega
    · left
      rw [beq_eq_false_iff_ne]
      omega
  have HW := Lib.hid (fun W => Wide_any (x : Int) wd W)
  obtain ⟨v, hv⟩ : ∃ v, wideOf (cls widthsL (char (x : Int))) wd = v := ⟨_, rfl⟩
  rw [hv] at HW ⊢
  clear hv
  obtain ⟨L, hL9⟩ : ∃ L, (if v = 0 then [] else s.data.toList) = L := ⟨_, rfl⟩
  rw [hL9]
  have HLL := Lib.hid hL9
  clear hL9
  have hk0 : ((k : Int) == 0) = false := by simp; omega
  have hk1 : ((k : Int) == 1) = false := by simp; omega
  have hk2 : ((k : Int) == 2) = false := by simp; omega
  have hk5 : ((k : Int) == 5) = false := by simp; omega
  have hk7 : ((k : Int) == 7) = false := by simp; omega
  have Hx := Lib.hid hx
  clear hx hz hne hnb
  rcases hzx with hz1 | ⟨hz1, hx1⟩
  all_goals
    have hT0 := tabs_size hT
    have hL := LookAt.new w 46 tb wd wt jn rz
    have hTW : Utf8Tabs 0 1 (w.alloc (.cells #[.int .i64 tb, .bool wd, .int .i8 wt, .bool jn, .bool rz] 46)) := Utf8Tabs_below hT ((Below.refl _ w).alloc (Nat.le_refl _) _)
    have hb : Below w.heap.size w (w.alloc (.cells #[.int .i64 tb, .bool wd, .int .i8 wt, .bool jn, .bool rz] 46)) := (Below.refl _ w).alloc (Nat.le_refl _) _
    obtain ⟨W, hW⟩ : ∃ W, w.alloc (.cells #[.int .i64 tb, .bool wd, .int .i8 wt, .bool jn, .bool rz] 46) = W := ⟨_, rfl⟩
    have hsz : w.heap.size < W.heap.size := by rw [← hW]; simp
    rw [hW] at hL hb hTW
    obtain ⟨B, hB⟩ : ∃ B, w.heap.size = B := ⟨_, rfl⟩
    rw [hB] at hL hb hsz
    have HL := Lib.hid hL
    have Hb := Lib.hid hb
    clear hL hb hT
    unfold Shows
    rw [hB]
    go_enter Tryd.func45, Tryd.ntmps45
    go_wp2_with fail
    try rw [hW]
    clear hW
    refine (HN.out _ hTW).mono ?_
    rintro _ w1 ⟨rfl, b1⟩
    have HT1 := Lib.hid (Utf8Tabs_below hTW b1)
    have HL1 := Lib.hid (HL.out.below b1 hsz)
    have Hb1 := Lib.hid (Hb.out.trans (b1.mono (by omega)))
    have hs1 : B < w1.heap.size := by have := b1.size; omega
    clear b1 HL Hb hTW
    go_wp2_with fail
    refine (HK.out _).mono ?_
    rintro _ w2 ⟨rfl, b2⟩
    have HT2 := Lib.hid (Utf8Tabs_below HT1.out b2)
    have HL2 := Lib.hid (HL1.out.below b2 hs1)
    have Hb2 := Lib.hid (Hb1.out.trans (b2.mono (by omega)))
    have hs2 : B < w2.heap.size := by have := b2.size; omega
    clear b2 HL1 Hb1 HT1
    obtain ⟨c0, c1, c2, c3, c4⟩ := HL2.out
    go_wp2_with fail
    refine (HW.out _).mono ?_
    rintro _ w3 ⟨rfl, b3⟩
    have Hb3 := Lib.hid (Hb2.out.trans (b3.mono (by omega)))
    by_cases hv0 : v = 0
    · subst hv0
      have hL9 := HLL.out
      rw [if_pos rfl] at hL9
      subst hL9
      go_wp2
      go_ret2
      exact ⟨rfl, Hb3.out⟩
    · have hvi : ((v : Int) == 0) = false := by simp; omega
      have hL9 := HLL.out
      rw [if_neg hv0] at hL9
      subst hL9
      clear hv0
      go_wp2
      go_ret2
      exact ⟨rfl, Hb3.out⟩

set_option maxRecDepth 100000 in
set_option maxHeartbeats 1000000 in
theorem cl_wid (x z : Nat) (hne : s.data.toList ≠ []) (hx : dec s.data.toList = (x, z)) (hnb : ¬ (x = 65533 ∧ z = 1)) (hT : Utf8Tabs 0 1 w) (hk : kN x = 7) (hwb : widB x (secZ s.data.toList) (wideOf (cls widthsL (char (x : Int))) wd) = true) : Shows s col tb wd wt jn rz w s.data.toList 2 := by
  have HN := Lib.hid (fun W hT => next_any s W hT)
  rw [show nxt s.data.toList = (x, z) by unfold nxt; rw [if_neg hne]; exact hx] at HN
  have hK := fun W => Kind_any (x : Int) W
  rw [show cls kindsL (char (x : Int)) = kN x from rfl, hk] at hK
  have HK := Lib.hid hK
  clear hK
  have hz := dec_pos s.data.toList
  rw [hx] at hz
  have hz0 : ((z : Int) == 0) = false := by simp at hz; simp; omega
  have hzx : ((z : Int) == 1) = false ∨ (((z : Int) == 1) = true ∧ ((x : Int) == 65533) = false) := by
    by_cases h1 : z = 1
    · right
      refine ⟨by simp; omega, ?_⟩
      rw [beq_eq_false_iff_ne]
      omega
    · left
      rw [beq_eq_false_iff_ne]
      omega
  have hzs : z ≤ s.size := by rw [← size_list]; have := dec_le s.data.toList hne; rw [hx] at this; exact this
  have hzi : (z : Int) ≤ (s.size : Int) := by omega
  have HM := Lib.hid (fun W hT => next_any (s.extract z s.size) W hT)
  have hm2 : (nxt (s.extract z s.size).data.toList).1 = secZ s.data.toList := by rw [drop_list]; exact nxt_sec hne hx
  have HD := Lib.hid (fun y W => widened_any x y tb wd wt jn rz W)
  have Hx := Lib.hid hx
  clear hx hz hne hnb
  rcases hzx with hz1 | ⟨hz1, hx1⟩
  all_goals
    have hT0 := tabs_size hT
    have hL := LookAt.new w 46 tb wd wt jn rz
    have hTW : Utf8Tabs 0 1 (w.alloc (.cells #[.int .i64 tb, .bool wd, .int .i8 wt, .bool jn, .bool rz] 46)) := Utf8Tabs_below hT ((Below.refl _ w).alloc (Nat.le_refl _) _)
    have hb : Below w.heap.size w (w.alloc (.cells #[.int .i64 tb, .bool wd, .int .i8 wt, .bool jn, .bool rz] 46)) := (Below.refl _ w).alloc (Nat.le_refl _) _
    obtain ⟨W, hW⟩ : ∃ W, w.alloc (.cells #[.int .i64 tb, .bool wd, .int .i8 wt, .bool jn, .bool rz] 46) = W := ⟨_, rfl⟩
    have hsz : w.heap.size < W.heap.size := by rw [← hW]; simp
    rw [hW] at hL hb hTW
    obtain ⟨B, hB⟩ : ∃ B, w.heap.size = B := ⟨_, rfl⟩
    rw [hB] at hL hb hsz
    have HL := Lib.hid hL
    have Hb := Lib.hid hb
    clear hL hb hT
    unfold Shows
    rw [hB]
    go_enter Tryd.func45, Tryd.ntmps45
    go_wp2_with fail
    try rw [hW]
    clear hW
    refine (HN.out _ hTW).mono ?_
    rintro _ w1 ⟨rfl, b1⟩
    have HT1 := Lib.hid (Utf8Tabs_below hTW b1)
    have HL1 := Lib.hid (HL.out.below b1 hsz)
    have Hb1 := Lib.hid (Hb.out.trans (b1.mono (by omega)))
    have hs1 : B < w1.heap.size := by have := b1.size; omega
    clear b1 HL Hb hTW
    go_wp2_with fail
    refine (HK.out _).mono ?_
    rintro _ w2 ⟨rfl, b2⟩
    have HT2 := Lib.hid (Utf8Tabs_below HT1.out b2)
    have HL2 := Lib.hid (HL1.out.below b2 hs1)
    have Hb2 := Lib.hid (Hb1.out.trans (b2.mono (by omega)))
    have hs2 : B < w2.heap.size := by have := b2.size; omega
    clear b2 HL1 Hb1 HT1
    obtain ⟨c0, c1, c2, c3, c4⟩ := HL2.out
    go_wp2_with fail
    refine (HM.out _ HT2.out).mono ?_
    rintro _ w3 ⟨rfl, b3⟩
    have HL3 := Lib.hid (HL2.out.below b3 hs2)
    have Hb3 := Lib.hid (Hb2.out.trans (b3.mono (by omega)))
    have hs3 : B < w3.heap.size := by have := b3.size; omega
    clear b3 HL2 Hb2 HT2 c0 c1 c2 c3 c4
    obtain ⟨c0, c1, c2, c3, c4⟩ := HL3.out
    rw [hm2]
    go_wp2_with fail
    refine (HD.out _ _).mono ?_
    rintro _ w4 ⟨rfl, b4⟩
    have HL4 := Lib.hid (HL3.out.below b4 hs3)
    have Hb4 := Lib.hid (Hb3.out.trans (b4.mono (by omega)))
    have hs4 : B < w4.heap.size := by have := b4.size; omega
    clear b4 HL3 Hb3 c0 c1 c2 c3 c4
    obtain ⟨c0, c1, c2, c3, c4⟩ := HL4.out
    rw [hwb]
    go_wp2_with fail
    go_ret2
    exact ⟨rfl, Hb4.out⟩

set_option maxRecDepth 100000 in
set_option maxHeartbeats 1000000 in
theorem cl_sym (x z : Nat) (hne : s.data.toList ≠ []) (hx : dec s.data.toList = (x, z)) (hnb : ¬ (x = 65533 ∧ z = 1)) (hT : Utf8Tabs 0 1 w) (hk : kN x = 7) (hwb : widB x (secZ s.data.toList) (wideOf (cls widthsL (char (x : Int))) wd) = false) : Shows s col tb wd wt jn rz w (if wideOf (cls widthsL (char (x : Int))) wd = 0 then [] else s.data.toList) (wideOf (cls widthsL (char (x : Int))) wd) := by
  have HN := Lib.hid (fun W hT => next_any s W hT)
  rw [show nxt s.data.toList = (x, z) by unfold nxt; rw [if_neg hne]; exact hx] at HN
  have hK := fun W => Kind_any (x : Int) W
  rw [show cls kindsL (char (x : Int)) = kN x from rfl, hk] at hK
  have HK := Lib.hid hK
  clear hK
  have hz := dec_pos s.data.toList
  rw [hx] at hz
  have hz0 : ((z : Int) == 0) = false := by simp at hz; simp; omega
  have hzx : ((z : Int) == 1) = false ∨ (((z : Int) == 1) = true ∧ ((x : Int) == 65533) = false) := by
    by_cases h1 : z = 1
    · right
      refine ⟨by simp; omega, ?_⟩
      rw [beq_eq_false_iff_ne]
      omega
    · left
      rw [beq_eq_false_iff_ne]
      omega
  have hzs : z ≤ s.size := by rw [← size_list]; have := dec_le s.data.toList hne; rw [hx] at this; exact this
  have hzi : (z : Int) ≤ (s.size : Int) := by omega
  have HM := Lib.hid (fun W hT => next_any (s.extract z s.size) W hT)
  have hm2 : (nxt (s.extract z s.size).data.toList).1 = secZ s.data.toList := by rw [drop_list]; exact nxt_sec hne hx
  have HD := Lib.hid (fun y W => widened_any x y tb wd wt jn rz W)
  have HW := Lib.hid (fun W => Wide_any (x : Int) wd W)
  obtain ⟨v, hv⟩ : ∃ v, wideOf (cls widthsL (char (x : Int))) wd = v := ⟨_, rfl⟩
  rw [hv] at HW HD hwb ⊢
  clear hv
  obtain ⟨L, hL9⟩ : ∃ L, (if v = 0 then [] else s.data.toList) = L := ⟨_, rfl⟩
  rw [hL9]
  have HLL := Lib.hid hL9
  clear hL9
  have Hx := Lib.hid hx
  clear hx hz hne hnb
  rcases hzx with hz1 | ⟨hz1, hx1⟩
  all_goals
    have hT0 := tabs_size hT
    have hL := LookAt.new w 46 tb wd wt jn rz
    have hTW : Utf8Tabs 0 1 (w.alloc (.cells #[.int .i64 tb, .bool wd, .int .i8 wt, .bool jn, .bool rz] 46)) := Utf8Tabs_below hT ((Below.refl _ w).alloc (Nat.le_refl _) _)
    have hb : Below w.heap.size w (w.alloc (.cells #[.int .i64 tb, .bool wd, .int .i8 wt, .bool jn, .bool rz] 46)) := (Below.refl _ w).alloc (Nat.le_refl _) _
    obtain ⟨W, hW⟩ : ∃ W, w.alloc (.cells #[.int .i64 tb, .bool wd, .int .i8 wt, .bool jn, .bool rz] 46) = W := ⟨_, rfl⟩
    have hsz : w.heap.size < W.heap.size := by rw [← hW]; simp
    rw [hW] at hL hb hTW
    obtain ⟨B, hB⟩ : ∃ B, w.heap.size = B := ⟨_, rfl⟩
    rw [hB] at hL hb hsz
    have HL := Lib.hid hL
    have Hb := Lib.hid hb
    clear hL hb hT
    unfold Shows
    rw [hB]
    go_enter Tryd.func45, Tryd.ntmps45
    go_wp2_with fail
    try rw [hW]
    clear hW
    refine (HN.out _ hTW).mono ?_
    rintro _ w1 ⟨rfl, b1⟩
    have HT1 := Lib.hid (Utf8Tabs_below hTW b1)
    have HL1 := Lib.hid (HL.out.below b1 hsz)
    have Hb1 := Lib.hid (Hb.out.trans (b1.mono (by omega)))
    have hs1 : B < w1.heap.size := by have := b1.size; omega
    clear b1 HL Hb hTW
    go_wp2_with fail
    refine (HK.out _).mono ?_
    rintro _ w2 ⟨rfl, b2⟩
    have HT2 := Lib.hid (Utf8Tabs_below HT1.out b2)
    have HL2 := Lib.hid (HL1.out.below b2 hs1)
    have Hb2 := Lib.hid (Hb1.out.trans (b2.mono (by omega)))
    have hs2 : B < w2.heap.size := by have := b2.size; omega
    clear b2 HL1 Hb1 HT1
    obtain ⟨c0, c1, c2, c3, c4⟩ := HL2.out
    go_wp2_with fail
    refine (HM.out _ HT2.out).mono ?_
    rintro _ w3 ⟨rfl, b3⟩
    have HL3 := Lib.hid (HL2.out.below b3 hs2)
    have Hb3 := Lib.hid (Hb2.out.trans (b3.mono (by omega)))
    have hs3 : B < w3.heap.size := by have := b3.size; omega
    clear b3 HL2 Hb2 HT2 c0 c1 c2 c3 c4
    obtain ⟨c0, c1, c2, c3, c4⟩ := HL3.out
    rw [hm2]
    go_wp2_with fail
    refine (HD.out _ _).mono ?_
    rintro _ w4 ⟨rfl, b4⟩
    have HL4 := Lib.hid (HL3.out.below b4 hs3)
    have Hb4 := Lib.hid (Hb3.out.trans (b4.mono (by omega)))
    have hs4 : B < w4.heap.size := by have := b4.size; omega
    clear b4 HL3 Hb3 c0 c1 c2 c3 c4
    obtain ⟨c0, c1, c2, c3, c4⟩ := HL4.out
    rw [hwb]
    go_wp2_with fail
    refine (HW.out _).mono ?_
    rintro _ w5 ⟨rfl, b5⟩
    have Hb5 := Lib.hid (Hb4.out.trans (b5.mono (by omega)))
    by_cases hv0 : v = 0
    · subst hv0
      have hL9 := HLL.out
      rw [if_pos rfl] at hL9
      subst hL9
      go_wp2
      go_ret2
      exact ⟨rfl, Hb5.out⟩
    · have hvi : ((v : Int) == 0) = false := by simp; omega
      have hL9 := HLL.out
      rw [if_neg hv0] at hL9
      subst hL9
      clear hv0
      go_wp2
      go_ret2
      exact ⟨rfl, Hb5.out⟩

end
end Go.Proofs.YtfegbfhkmdmheaaDoor

/- What is shown of a low control; what is shown of any cluster: show.ofCluster, whole. -/
namespace Go.Proofs.YtfegbfhkmdmheaaDoor
open Go.RowKit Go.Lib

set_option maxRecDepth 100000 in
theorem low_nl (s : ByteArray) (hs : s = ⟨#[10]⟩ ∨ s = ⟨#[13, 10]⟩) (col tb : Int) (wd : Bool) (wt : Int) (jn rz : Bool) (w : World) :
    Calls Tryd.prog 71 #[.string s, .int .i64 col, lookV tb wd wt jn rz] w fun e w' =>
      e = .returned (.tuple #[.string ⟨#[]⟩, .int .i64 0]) ∧ Below w.heap.size w w' := by
  have hb : ∀ o, Below w.heap.size w (w.alloc o) := fun o => (Below.refl _ w).alloc (Nat.le_refl _) o
  rcases hs with rfl | rfl
  all_goals
    go_enter Tryd.func71, Tryd.ntmps71
    go_wp2
    go_ret2
    exact ⟨rfl, hb _⟩
set_option maxRecDepth 100000 in
theorem low_else (s : ByteArray) (h9 : s.data.toList ≠ [9]) (h10 : s.data.toList ≠ [10]) (h13 : s.data.toList ≠ [13, 10]) (hne : s.data.toList ≠ []) (hg : gb s.data.toList 0 < 128) (col tb : Int) (wd : Bool) (wt : Int) (jn rz : Bool) (w : World) :
    Calls Tryd.prog 71 #[.string s, .int .i64 col, lookV tb wd wt jn rz] w fun e w' =>
      e = .returned (.tuple #[.string ⟨#[94, UInt8.ofNat (Nat.xor (gb s.data.toList 0) 64)]⟩, .int .i64 2]) ∧ Below w.heap.size w w' := by
  have hb : ∀ o, Below w.heap.size w (w.alloc o) := fun o => (Below.refl _ w).alloc (Nat.le_refl _) o
  have HC := Lib.hid (fun W => caret_any (gb s.data.toList 0) hg W)
  have hpos : 0 < s.size := by rw [← size_list]; exact List.length_pos_iff.2 hne
  have hp1 : (0 : Int) < (s.size : Int) := by omega
  have hbyte := gb_at s 0 hpos
  obtain ⟨y, hy⟩ : ∃ y, s[0]'hpos = y := ⟨_, rfl⟩
  rw [hy] at hbyte
  rw [← hbyte] at HC ⊢
  obtain ⟨u, hu⟩ : ∃ u, UInt8.ofNat (Nat.xor y.toNat 64) = u := ⟨_, rfl⟩
  rw [hu] at HC ⊢
  clear hu
  have hy256 : y.toNat < 256 := y.toNat_lt
  have k9 : (s.toList == [9]) = false := by rw [toList_data]; rw [beq_eq_false_iff_ne]; exact h9
  have k10 : (s.toList == [10]) = false := by rw [toList_data]; rw [beq_eq_false_iff_ne]; exact h10
  have k13 : (s.toList == [13, 10]) = false := by rw [toList_data]; rw [beq_eq_false_iff_ne]; exact h13
  clear h9 h10 h13 hbyte
  go_enter Tryd.func71, Tryd.ntmps71
  go_wp2_with fail
  refine (HC.out _).mono ?_
  rintro _ w1 ⟨rfl, b1⟩
  have b2 := (hb _).trans (b1.mono (by simp))
  go_wp2
  go_ret2
  exact ⟨rfl, b2⟩
theorem ba_list6 (s : ByteArray) (l : List UInt8) (h : s.data.toList = l) : s = ⟨l.toArray⟩ := ba6 (by simpa using h)
theorem low_any (s : ByteArray) (hne : s.data.toList ≠ []) (hg : gb s.data.toList 0 < 128) (col : Int) (h0 : -9223372036854775808 ≤ col) (h1 : col ≤ 9223372036854775807) (tb : Int) (wd : Bool) (wt : Int) (jn rz : Bool) (w : World) :
    Calls Tryd.prog 71 #[.string s, .int .i64 col, lookV tb wd wt jn rz] w fun e w' =>
      e = .returned (.tuple #[.string ⟨(lowcZ (stopZ (tabN tb) col.toNat) s.data.toList).1.toArray⟩, .int .i64 (((lowcZ (stopZ (tabN tb) col.toNat) s.data.toList).2 : Nat) : Int)]) ∧ Below w.heap.size w w' := by
  unfold lowcZ
  by_cases h9 : s.data.toList = [9]
  · rw [if_pos h9, ba_list6 s _ h9]
    exact low_tab_any col h0 h1 tb wd wt jn rz w
  · rw [if_neg h9]
    by_cases h10 : s.data.toList = [10] ∨ s.data.toList = [13, 10]
    · rw [if_pos h10]
      exact low_nl s (h10.imp (ba_list6 s _) (ba_list6 s _)) col tb wd wt jn rz w
    · rw [if_neg h10]
      exact low_else s h9 (fun e => h10 (.inl e)) (fun e => h10 (.inr e)) hne hg col tb wd wt jn rz w
/-- ofCluster tells what is shown, and how wide -/
theorem ofCl_any (s : ByteArray) (col : Int) (tb : Int) (wd : Bool) (wt : Int) (jn rz : Bool) (w : World) (hs : s.size ≤ 1073741824) (h0 : -9223372036854775808 ≤ col) (h1 : col ≤ 9223372036854775807) (hT : Utf8Tabs 0 1 w) :
    Calls Tryd.prog 45 #[.string s, .int .i64 col, lookV tb wd wt jn rz] w fun e w' =>
      e = .returned (.tuple #[.string ⟨(oneZ (circP s.data.toList) rz wd (stopZ (tabN tb) col.toNat) s.data.toList).1.toArray⟩, .int .i64 (((oneZ (circP s.data.toList) rz wd (stopZ (tabN tb) col.toNat) s.data.toList).2 : Nat) : Int)]) ∧ Below w.heap.size w w' := by
  obtain ⟨stop, hst⟩ : ∃ stop, stopZ (tabN tb) col.toNat = stop := ⟨_, rfl⟩
  have HLow := fun hne hg W => low_any s hne hg col h0 h1 tb wd wt jn rz W
  rw [hst] at HLow ⊢
  unfold oneZ
  dsimp only
  by_cases hne : s.data.toList = []
  · rw [if_pos hne]
    exact cl_empty s col tb wd wt jn rz w hne hT
  rw [if_neg hne]
  by_cases hb : (dec s.data.toList).1 = 65533 ∧ (dec s.data.toList).2 = 1
  · rw [if_pos hb]
    exact cl_bad s col tb wd wt jn rz w hne hb hT
  rw [if_neg hb]
  have hlow := dec_low s.data.toList hne
  have hf := (dec_facts s.data.toList hne).1
  obtain ⟨x, hx1⟩ : ∃ x, (dec s.data.toList).1 = x := ⟨_, rfl⟩
  obtain ⟨z, hz1⟩ : ∃ z, (dec s.data.toList).2 = z := ⟨_, rfl⟩
  have hx : dec s.data.toList = (x, z) := Prod.ext hx1 hz1
  have hxm : x ≤ 1114111 := by rw [← hx1]; exact dec_rune s.data.toList
  rw [hx1] at hlow hb ⊢
  rw [hz1] at hb
  by_cases k0 : kN x = 0
  · rw [if_pos k0]
    by_cases h127 : x ≤ 127
    · rw [if_pos h127]
      exact cl_low s col tb wd wt jn rz w x z hne hx hb hT k0 h127 _ _ (HLow hne (by omega))
    · rw [if_neg h127]
      exact cl_high s col tb wd wt jn rz w x z hne hx hb hT k0 (by omega) (by omega)
  rw [if_neg k0]
  by_cases k1 : kN x = 1
  · by_cases hj : x = 8204 ∨ x = 8205
    · rw [if_neg (by omega), if_pos (.inl k1)]
      rcases hj with hj | hj
      · exact cl_join4 s col tb wd wt jn rz w x z hne hx hb hT k1 hj hs
      · exact cl_join5 s col tb wd wt jn rz w x z hne hx hb hT k1 hj hs
    · rw [if_pos ⟨k1, by omega, by omega⟩]
      exact cl_form s col tb wd wt jn rz w x z hne hx hb hT k1 (by omega) (by omega) (by omega)
  rw [if_neg (by omega)]
  by_cases k2 : kN x = 2
  · rw [if_pos (.inr k2)]
    exact cl_mark s col tb wd wt jn rz w x z hne hx hb hT k2 hs
  rw [if_neg (by omega)]
  by_cases k5 : kN x = 5 ∧ (x = 8232 ∨ x = 8233)
  · rw [if_pos k5]
    rcases k5 with ⟨k5, hj | hj⟩
    · exact cl_line8 s col tb wd wt jn rz w x z hne hx hb hT k5 hj (by omega)
    · exact cl_line9 s col tb wd wt jn rz w x z hne hx hb hT k5 hj (by omega)
  rw [if_neg k5]
  have hwide : ∀ v : Nat, (if v = 0 then (([] : List UInt8), 0) else (s.data.toList, v)) = ((if v = 0 then [] else s.data.toList), v) := by
    intro v
    split
    · rename_i h
      rw [h]
    · rfl
  by_cases k7 : kN x = 7
  · by_cases hw : (regN x = true ∧ regN (secZ s.data.toList) = true) ∨ (secZ s.data.toList = 65039 ∧ wideOf (cls widthsL (char (x : Int))) wd = 1)
    · rw [if_pos ⟨k7, hw⟩]
      refine cl_wid s col tb wd wt jn rz w x z hne hx hb hT k7 ?_
      unfold widB
      rcases hw with ⟨a, b⟩ | ⟨a, b⟩
      · rw [a, b]; rfl
      · rw [a, b]; simp
    · rw [if_neg (fun h => hw h.2), hwide]
      refine cl_sym s col tb wd wt jn rz w x z hne hx hb hT k7 ?_
      unfold widB
      rw [Bool.eq_false_iff]
      intro h
      apply hw
      rcases Bool.or_eq_true_iff.1 h with h | h
      · exact .inl (Bool.and_eq_true_iff.1 h)
      · obtain ⟨a, b⟩ := Bool.and_eq_true_iff.1 h
        exact .inr ⟨by simpa using a, by simpa using b⟩
  · rw [if_neg (fun h => k7 h.1), hwide]
    by_cases k5b : kN x = 5
    · exact cl_space s col tb wd wt jn rz w x z hne hx hb hT k5b (fun e => k5 ⟨k5b, .inl e⟩) (fun e => k5 ⟨k5b, .inr e⟩)
    · exact cl_other s col tb wd wt jn rz w x z hne hx hb hT (kN x) rfl k0 k1 k2 k5b k7
end Go.Proofs.YtfegbfhkmdmheaaDoor
