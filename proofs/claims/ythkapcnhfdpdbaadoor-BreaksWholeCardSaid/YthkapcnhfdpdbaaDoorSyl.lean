/- The scanner's step: takeSyllable. -/
import Derived.Test.YthkapcnhfdpdbaaDoorAuto
import Derived.Test.YthkapcnhfdpdbaaDoorScope
set_option linter.unusedSimpArgs false
set_option linter.unusedVariables false
namespace Go.Proofs.YthkapcnhfdpdbaaDoor
open Go.RowKit Go.Lib

theorem tk_le {s : ByteArray} {k wanted : Nat} (h : tk s k wanted ≠ 0) : k < chars s ∧ k < 32 := by
  unfold tk at h
  by_cases hk : k < chars s ∧ k < 32
  · exact hk
  · rw [if_neg hk] at h
    exact absurd rfl h
theorem Runs.next {s : ByteArray} {k : Nat} (h : Runs s k) (h1 : k < chars s) (h2 : k < 32) (hg : goesOn s k = true) : Runs s (k + 1) :=
  ⟨by omega, h1, h2, fun i hi hk => by
    rcases Nat.lt_or_ge i k with h' | h'
    · exact h.on i hi h'
    · obtain rfl : i = k := by omega
      exact hg⟩
/-- what the scanner holds between two steps -/
structure Scans (s : ByteArray) (g : Nat) (W : World) (k : Nat) (w : World) : Prop where
  rdr : Rdr w g s (placeAt s k) k
  u8 : Utf8Tabs 0 1 w
  moves : Moves (fun k => k = g) W w
  le : k ≤ chars s
  most : k ≤ 32
def taken (g : Nat) (w : World) : Nat := (RowKit.intOf ((w.cell? ⟨g, 2, none⟩).getD undef)).toNat
theorem Scans.taken {s : ByteArray} {g : Nat} {W w : World} {k : Nat} (h : Scans s g W k w) : taken g w = k := by
  unfold Go.Proofs.YthkapcnhfdpdbaaDoor.taken
  rw [h.rdr.c2]
  simp [RowKit.intOf]
theorem Scans.below {s : ByteArray} {g : Nat} {W w w' : World} {k : Nat} (h : Scans s g W k w) (hb : Below w.heap.size w w') : Scans s g W k w' :=
  ⟨h.rdr.below hb, Utf8Tabs_below h.u8 hb, h.moves.trans' (.of_below _ hb), h.le, h.most⟩
theorem moves_u8 {g : Nat} {w w' : World} (hg : 1 + 1 ≤ g) (h : Moves (fun k => k = g) w w') (hT : Utf8Tabs 0 1 w) : Utf8Tabs 0 1 w' :=
  (⟨h.size, fun k hk ho => h.block k hk (fun e => by rcases ho with ho | ho; omega; exact ho)⟩ : KeepT (1 + 1) (fun _ => False) w w').u8 (Nat.le_refl _) hT
theorem Scans.next {s : ByteArray} {g : Nat} {W w w' : World} {k : Nat} (h : Scans s g W k w) (hg : 1 + 1 ≤ g) (h1 : k < chars s) (h2 : k < 32) (hr : Rdr w' g s (placeAt s (k + 1)) (k + 1)) (hm : Moves (fun k => k = g) w w') : Scans s g W (k + 1) w' :=
  ⟨hr, moves_u8 hg hm h.u8, h.moves.trans' hm, h1, h2⟩
/-- a step of the scanner: what take tells, and what it holds then -/
theorem scan_take (s : ByteArray) (g k wanted : Nat) (W w : World) (h : Scans s g W k w) (hg : 1 + 1 ≤ g) (hm : s.size ≤ 140737488351232)
    (hw : wanted = 8191 ∨ wanted = 4 ∨ wanted = 24 ∨ wanted = 88 ∨ wanted = 32 ∨ wanted = 3456 ∨ wanted = 768 ∨ wanted = 512) :
    Calls Tryd.prog 62 #[.pointer (some ⟨g, 0, none⟩), .int .u16 (wanted : Int)] w fun e w' => e = .returned (.int .u16 (tk s k wanted : Nat)) ∧
      (tk s k wanted = 0 → Scans s g W k w') ∧ (tk s k wanted ≠ 0 → Scans s g W (k + 1) w') := by
  refine (takeK s g k wanted w h.rdr h.u8 hm h.le h.most hw).mono ?_
  rintro e w' ⟨h1, h2, h3⟩
  exact ⟨h1, fun hz => h.below (h2 hz), fun hz => h.next hg (tk_le hz).1 (tk_le hz).2 (h3 hz).1 (h3 hz).2⟩

/-- behind a syllable -/
def SylEnd (s : ByteArray) (k : Nat) : Prop := Runs s k ∧ (k = chars s ∨ k = 32 ∨ syl (roleAt s (k - 1)) (roleAt s k) = false)
def SylAt (s : ByteArray) (k : Nat) : Nat → Prop
  | 2 => roleAt s (k - 1) = 128
  | 0 => roleAt s (k - 1) = 256 ∨ roleAt s (k - 1) = 1024
  | 1 => roleAt s (k - 1) = 512 ∨ roleAt s (k - 1) = 2048
  | _ => False
theorem goes_syl {s : ByteArray} {k : Nat} (h : syl (roleAt s (k - 1)) (roleAt s k) = true) : goesOn s k = true := by
  unfold goesOn
  rw [h]
  simp
theorem tk_role {s : ByteArray} {k wanted : Nat} (h1 : k < chars s) (h2 : k < 32) : tk s k wanted = roleAt s k &&& wanted := by
  unfold tk
  rw [if_pos ⟨h1, h2⟩]
theorem syl_lead {s : ByteArray} {k : Nat} (hr : Runs s k) (h : SylAt s k 2) : (tk s k 3456 = 0 ∧ SylEnd s k) ∨ (tk s k 3456 = 128 ∧ Runs s (k + 1) ∧ SylAt s (k + 1) 2) ∨ (tk s k 3456 = 256 ∧ Runs s (k + 1) ∧ SylAt s (k + 1) 0) ∨ (tk s k 3456 = 1024 ∧ Runs s (k + 1) ∧ SylAt s (k + 1) 0) ∨ (tk s k 3456 = 2048 ∧ Runs s (k + 1) ∧ SylAt s (k + 1) 1) := by
  have h : roleAt s (k - 1) = 128 := h
  by_cases hk : k < chars s ∧ k < 32
  · rw [tk_role hk.1 hk.2]
    have hn : ∀ v, roleAt s k = v → syl 128 v = true → Runs s (k + 1) := fun v e hv => hr.next hk.1 hk.2 (goes_syl (by rw [h, e]; exact hv))
    have he : ∀ v, roleAt s k = v → syl 128 v = false → SylEnd s k := fun v e hv => ⟨hr, .inr (.inr (by rw [h, e]; exact hv))⟩
    have hs : k + 1 - 1 = k := by omega
    unfold SylAt
    simp only [hs]
    rcases roleAt_one hk.1 with e | e | e | e | e | e | e | e | e | e | e | e | e <;> rw [e]
    all_goals first
      | exact .inl ⟨by decide, he _ e (by decide)⟩
      | exact .inr (.inl ⟨by decide, hn _ e (by decide), rfl⟩)
      | exact .inr (.inr (.inl ⟨by decide, hn _ e (by decide), .inl rfl⟩))
      | exact .inr (.inr (.inr (.inl ⟨by decide, hn _ e (by decide), .inr rfl⟩)))
      | exact .inr (.inr (.inr (.inr ⟨by decide, hn _ e (by decide), .inr rfl⟩)))
  · refine .inl ⟨by unfold tk; rw [if_neg hk], hr, ?_⟩
    have := hr.le
    have := hr.most
    omega
theorem syl_vowel {s : ByteArray} {k : Nat} (hr : Runs s k) (h : SylAt s k 0) : (tk s k 768 = 0 ∧ SylEnd s k) ∨ (tk s k 768 = 256 ∧ Runs s (k + 1) ∧ SylAt s (k + 1) 0) ∨ (tk s k 768 = 512 ∧ Runs s (k + 1) ∧ SylAt s (k + 1) 1) := by
  have h : roleAt s (k - 1) = 256 ∨ roleAt s (k - 1) = 1024 := h
  by_cases hk : k < chars s ∧ k < 32
  · rw [tk_role hk.1 hk.2]
    have hn : ∀ v, roleAt s k = v → (syl 256 v && syl 1024 v) = true → Runs s (k + 1) := fun v e hv => by
      simp only [Bool.and_eq_true] at hv
      refine hr.next hk.1 hk.2 (goes_syl ?_)
      rcases h with h | h <;> rw [h, e]
      · exact hv.1
      · exact hv.2
    have he : ∀ v, roleAt s k = v → (syl 256 v || syl 1024 v) = false → SylEnd s k := fun v e hv => by
      simp only [Bool.or_eq_false_iff] at hv
      refine ⟨hr, .inr (.inr ?_)⟩
      rcases h with h | h <;> rw [h, e]
      · exact hv.1
      · exact hv.2
    have hs : k + 1 - 1 = k := by omega
    unfold SylAt
    simp only [hs]
    rcases roleAt_one hk.1 with e | e | e | e | e | e | e | e | e | e | e | e | e <;> rw [e]
    all_goals first
      | exact .inl ⟨by decide, he _ e (by decide)⟩
      | exact .inr (.inl ⟨by decide, hn _ e (by decide), .inl rfl⟩)
      | exact .inr (.inr ⟨by decide, hn _ e (by decide), .inl rfl⟩)
  · refine .inl ⟨by unfold tk; rw [if_neg hk], hr, ?_⟩
    have := hr.le
    have := hr.most
    omega
theorem syl_final {s : ByteArray} {k : Nat} (hr : Runs s k) (h : SylAt s k 1) : (tk s k 512 = 0 ∧ SylEnd s k) ∨ (tk s k 512 = 512 ∧ Runs s (k + 1) ∧ SylAt s (k + 1) 1) := by
  have h : roleAt s (k - 1) = 512 ∨ roleAt s (k - 1) = 2048 := h
  by_cases hk : k < chars s ∧ k < 32
  · rw [tk_role hk.1 hk.2]
    have hn : ∀ v, roleAt s k = v → (syl 512 v && syl 2048 v) = true → Runs s (k + 1) := fun v e hv => by
      simp only [Bool.and_eq_true] at hv
      refine hr.next hk.1 hk.2 (goes_syl ?_)
      rcases h with h | h <;> rw [h, e]
      · exact hv.1
      · exact hv.2
    have he : ∀ v, roleAt s k = v → (syl 512 v || syl 2048 v) = false → SylEnd s k := fun v e hv => by
      simp only [Bool.or_eq_false_iff] at hv
      refine ⟨hr, .inr (.inr ?_)⟩
      rcases h with h | h <;> rw [h, e]
      · exact hv.1
      · exact hv.2
    have hs : k + 1 - 1 = k := by omega
    unfold SylAt
    simp only [hs]
    rcases roleAt_one hk.1 with e | e | e | e | e | e | e | e | e | e | e | e | e <;> rw [e]
    all_goals first
      | exact .inl ⟨by decide, he _ e (by decide)⟩
      | exact .inr ⟨by decide, hn _ e (by decide), .inl rfl⟩
  · refine .inl ⟨by unfold tk; rw [if_neg hk], hr, ?_⟩
    have := hr.le
    have := hr.most
    omega

def sylJ (s : ByteArray) (g : Nat) (W : World) (l : Nat) (a : Act) (w : World) : Prop := ∃ u1 u2 u3 u4 u5 u6 u7 u8 u9 u10 u11 u12 u13 u14 u15 u16 u17 u18 u19 u20 u21 u22 u23 u24 u25 u26 u27 u28, a = { tmps := #[.pointer (some ⟨g, 0, none⟩), u1, u2, u3, u4, u5, u6, u7, u8, u9, u10, u11, u12, u13, u14, u15, u16, u17, u18, u19, u20, u21, u22, u23, u24, u25, u26, u27, u28], defers := [] } ∧ ∃ k, Scans s g W k w ∧ Runs s k ∧ SylAt s k l

set_option maxRecDepth 100000 in
set_option maxHeartbeats 2000000 in
theorem syllable_any (s : ByteArray) (g x : Nat) (W w : World) (h : Scans s g W 1 w) (hg : 1 + 1 ≤ g) (hm : s.size ≤ 140737488351232) (hx : roleAt s 0 = x) (hxs : x = 128 ∨ x = 256 ∨ x = 512 ∨ x = 1024 ∨ x = 2048) :
    Calls Tryd.prog 63 #[.pointer (some ⟨g, 0, none⟩), .int .u16 (x : Int)] w fun e w' => (∃ v, e = .returned v) ∧ ∃ k, Scans s g W k w' ∧ SylEnd s k := by
  have hr1 : Runs s 1 := ⟨Nat.le_refl _, h.le, by omega, fun i h1 h2 => by omega⟩
  have Htake := Lib.hid (fun k wanted w (h : Scans s g W k w) hw => scan_take s g k wanted W w h hg hm hw)
  have Hh := Lib.hid h
  have Hr1 := Lib.hid hr1
  have Hx := Lib.hid hx
  clear h hr1 hx
  go_enter Tryd.func63, Tryd.ntmps63
  go_wp2_with fail
  refine scope_found (sylJ s g W) (fun _ _ w => 33 - taken g w) ?found ?first ?pass
  case found =>
    rintro l a w ⟨u1, u2, u3, u4, u5, u6, u7, u8, u9, u10, u11, u12, u13, u14, u15, u16, u17, u18, u19, u20, u21, u22, u23, u24, u25, u26, u27, u28, rfl, k, hs, hr, hl⟩
    match l, hl with
    | 0, _ => rfl
    | 1, _ => rfl
    | 2, _ => rfl
  case first =>
    rcases hxs with rfl | rfl | rfl | rfl | rfl
    · go_wp2_with fail
      go_step3
      have hs := Hh.out
      have hr := Hr1.out
      have hl : SylAt s 1 2 := Hx.out
      go_wp2_with fail
      refine (Htake.out _ 3456 _ hs (by simp)).mono ?_
      rintro _ w1 ⟨rfl, h0, h1⟩
      rcases syl_lead hr hl with ⟨e, he⟩ | ⟨e, hr', hl'⟩ | ⟨e, hr', hl'⟩ | ⟨e, hr', hl'⟩ | ⟨e, hr', hl'⟩
      · rw [e]
        have H0 := Lib.hid (h0 e)
        clear h0 h1 e
        go_wp2_with fail
        rw [toLabel_ret]
        refine bodyPost_ret (results_none rfl _ _ _) rfl ?_
        exact ⟨⟨_, rfl⟩, _, H0.out, he⟩
      · rw [e]
        have H1 := Lib.hid (h1 (by rw [e]; decide))
        clear h0 h1 e
        go_wp2_with fail
        go_step3
        exact ⟨_, _, _, _, _, _, _, _, _, _, _, _, _, _, _, _, _, _, _, _, _, _, _, _, _, _, _, _, rfl, _, H1.out, hr', hl'⟩
      · rw [e]
        have H1 := Lib.hid (h1 (by rw [e]; decide))
        clear h0 h1 e
        go_wp2_with fail
        go_step3
        exact ⟨_, _, _, _, _, _, _, _, _, _, _, _, _, _, _, _, _, _, _, _, _, _, _, _, _, _, _, _, rfl, _, H1.out, hr', hl'⟩
      · rw [e]
        have H1 := Lib.hid (h1 (by rw [e]; decide))
        clear h0 h1 e
        go_wp2_with fail
        go_step3
        exact ⟨_, _, _, _, _, _, _, _, _, _, _, _, _, _, _, _, _, _, _, _, _, _, _, _, _, _, _, _, rfl, _, H1.out, hr', hl'⟩
      · rw [e]
        have H1 := Lib.hid (h1 (by rw [e]; decide))
        clear h0 h1 e
        go_wp2_with fail
        go_step3
        exact ⟨_, _, _, _, _, _, _, _, _, _, _, _, _, _, _, _, _, _, _, _, _, _, _, _, _, _, _, _, rfl, _, H1.out, hr', hl'⟩
    · go_wp2_with fail
      go_step3
      exact ⟨_, _, _, _, _, _, _, _, _, _, _, _, _, _, _, _, _, _, _, _, _, _, _, _, _, _, _, _, rfl, 1, Hh.out, Hr1.out, .inl Hx.out⟩
    · go_wp2_with fail
      go_step3
      exact ⟨_, _, _, _, _, _, _, _, _, _, _, _, _, _, _, _, _, _, _, _, _, _, _, _, _, _, _, _, rfl, 1, Hh.out, Hr1.out, .inl Hx.out⟩
    · go_wp2_with fail
      go_step3
      exact ⟨_, _, _, _, _, _, _, _, _, _, _, _, _, _, _, _, _, _, _, _, _, _, _, _, _, _, _, _, rfl, 1, Hh.out, Hr1.out, .inr Hx.out⟩
    · go_wp2_with fail
      go_step3
      exact ⟨_, _, _, _, _, _, _, _, _, _, _, _, _, _, _, _, _, _, _, _, _, _, _, _, _, _, _, _, rfl, 1, Hh.out, Hr1.out, .inr Hx.out⟩
  case pass =>
    rintro l a w rest ⟨u1, u2, u3, u4, u5, u6, u7, u8, u9, u10, u11, u12, u13, u14, u15, u16, u17, u18, u19, u20, u21, u22, u23, u24, u25, u26, u27, u28, rfl, k, hs, hr, hl⟩ hf
    match l, hl, hf with
    | 0, hl, hf =>
      simp only [findLabel, Nat.reduceBEq, Bool.false_eq_true, if_true, if_false, reduceIte] at hf
      injection hf with hf
      subst hf
      go_wp2_with fail
      refine (Htake.out _ 768 _ hs (by simp)).mono ?_
      rintro _ w1 ⟨rfl, h0, h1⟩
      rcases syl_vowel hr hl with ⟨e, he⟩ | ⟨e, hr', hl'⟩ | ⟨e, hr', hl'⟩
      · rw [e]
        have H0 := Lib.hid (h0 e)
        clear h0 h1 e
        go_wp2_with fail
        rw [toLabel_ret]
        refine bodyPost_ret (results_none rfl _ _ _) rfl ?_
        exact ⟨⟨_, rfl⟩, _, H0.out, he⟩
      · rw [e]
        have H1 := Lib.hid (h1 (by rw [e]; decide))
        clear h0 h1 e
        go_wp2_with fail
        go_step3
        exact ⟨⟨_, _, _, _, _, _, _, _, _, _, _, _, _, _, _, _, _, _, _, _, _, _, _, _, _, _, _, _, rfl, _, H1.out, hr', hl'⟩, by rw [H1.out.taken, hs.taken]; have := hs.most; omega⟩
      · rw [e]
        have H1 := Lib.hid (h1 (by rw [e]; decide))
        clear h0 h1 e
        go_wp2_with fail
        go_step3
        exact ⟨⟨_, _, _, _, _, _, _, _, _, _, _, _, _, _, _, _, _, _, _, _, _, _, _, _, _, _, _, _, rfl, _, H1.out, hr', hl'⟩, by rw [H1.out.taken, hs.taken]; have := hs.most; omega⟩
    | 1, hl, hf =>
      simp only [findLabel, Nat.reduceBEq, Bool.false_eq_true, if_true, if_false, reduceIte] at hf
      injection hf with hf
      subst hf
      go_wp2_with fail
      refine (Htake.out _ 512 _ hs (by simp)).mono ?_
      rintro _ w1 ⟨rfl, h0, h1⟩
      rcases syl_final hr hl with ⟨e, he⟩ | ⟨e, hr', hl'⟩
      · rw [e]
        have H0 := Lib.hid (h0 e)
        clear h0 h1 e
        go_wp2_with fail
        rw [toLabel_normal]
        go_end0
        exact ⟨⟨_, rfl⟩, _, H0.out, he⟩
      · rw [e]
        have H1 := Lib.hid (h1 (by rw [e]; decide))
        clear h0 h1 e
        go_wp2_with fail
        go_step3
        exact ⟨⟨_, _, _, _, _, _, _, _, _, _, _, _, _, _, _, _, _, _, _, _, _, _, _, _, _, _, _, _, rfl, _, H1.out, hr', hl'⟩, by rw [H1.out.taken, hs.taken]; have := hs.most; omega⟩
    | 2, hl, hf =>
      simp only [findLabel, Nat.reduceBEq, Bool.false_eq_true, if_true, if_false, reduceIte] at hf
      injection hf with hf
      subst hf
      go_wp2_with fail
      refine (Htake.out _ 3456 _ hs (by simp)).mono ?_
      rintro _ w1 ⟨rfl, h0, h1⟩
      rcases syl_lead hr hl with ⟨e, he⟩ | ⟨e, hr', hl'⟩ | ⟨e, hr', hl'⟩ | ⟨e, hr', hl'⟩ | ⟨e, hr', hl'⟩
      · rw [e]
        have H0 := Lib.hid (h0 e)
        clear h0 h1 e
        go_wp2_with fail
        rw [toLabel_ret]
        refine bodyPost_ret (results_none rfl _ _ _) rfl ?_
        exact ⟨⟨_, rfl⟩, _, H0.out, he⟩
      · rw [e]
        have H1 := Lib.hid (h1 (by rw [e]; decide))
        clear h0 h1 e
        go_wp2_with fail
        go_step3
        exact ⟨⟨_, _, _, _, _, _, _, _, _, _, _, _, _, _, _, _, _, _, _, _, _, _, _, _, _, _, _, _, rfl, _, H1.out, hr', hl'⟩, by rw [H1.out.taken, hs.taken]; have := hs.most; omega⟩
      · rw [e]
        have H1 := Lib.hid (h1 (by rw [e]; decide))
        clear h0 h1 e
        go_wp2_with fail
        go_step3
        exact ⟨⟨_, _, _, _, _, _, _, _, _, _, _, _, _, _, _, _, _, _, _, _, _, _, _, _, _, _, _, _, rfl, _, H1.out, hr', hl'⟩, by rw [H1.out.taken, hs.taken]; have := hs.most; omega⟩
      · rw [e]
        have H1 := Lib.hid (h1 (by rw [e]; decide))
        clear h0 h1 e
        go_wp2_with fail
        go_step3
        exact ⟨⟨_, _, _, _, _, _, _, _, _, _, _, _, _, _, _, _, _, _, _, _, _, _, _, _, _, _, _, _, rfl, _, H1.out, hr', hl'⟩, by rw [H1.out.taken, hs.taken]; have := hs.most; omega⟩
      · rw [e]
        have H1 := Lib.hid (h1 (by rw [e]; decide))
        clear h0 h1 e
        go_wp2_with fail
        go_step3
        exact ⟨⟨_, _, _, _, _, _, _, _, _, _, _, _, _, _, _, _, _, _, _, _, _, _, _, _, _, _, _, _, rfl, _, H1.out, hr', hl'⟩, by rw [H1.out.taken, hs.taken]; have := hs.most; omega⟩
end Go.Proofs.YthkapcnhfdpdbaaDoor
