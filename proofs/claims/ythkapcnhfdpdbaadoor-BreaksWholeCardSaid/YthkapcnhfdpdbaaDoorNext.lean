/- cluster.Next: the first cluster. -/
import Derived.Test.YthkapcnhfdpdbaaDoorSyl
set_option linter.unusedSimpArgs false
set_option linter.unusedVariables false
namespace Go.Proofs.YthkapcnhfdpdbaaDoor
open Go.RowKit Go.Lib

def NxAt (s : ByteArray) (k : Nat) : Nat → Prop
  | 0 => k = 1 ∧ roleAt s 0 = 2
  | 1 => k = 1 ∧ roleAt s 0 = 32 ∧ 1 ≤ chars s
  | 2 => Runs s k ∧ roleAt s 0 = 64 ∧ (roleAt s (k - 1) = 64 ∨ roleAt s (k - 1) = 8)
  | 3 => Runs s k ∧ (roleAt s 0 ≠ 1 ∧ roleAt s 0 ≠ 2 ∧ roleAt s 0 ≠ 4 ∧ roleAt s 0 ≠ 64) ∧ (k = chars s ∨ k = 32 ∨ goesOn s k = (roleAt s k == 8 || roleAt s k == 16))
  | 4 => First s k
  | 5 => Runs s k ∧ roleAt s 0 = 64 ∧ roleAt s (k - 1) = 16
  | _ => False
theorem tk_out {s : ByteArray} {k wanted : Nat} (hr : Runs s k) (h : ¬ (k < chars s ∧ k < 32)) : tk s k wanted = 0 ∧ Stops s k := by
  refine ⟨by unfold tk; rw [if_neg h], ?_⟩
  unfold Stops
  have := hr.le
  have := hr.most
  omega
theorem runs_one {s : ByteArray} (h : 1 ≤ chars s) : Runs s 1 := ⟨Nat.le_refl _, h, by omega, fun i h1 h2 => by omega⟩
theorem nx_carr {s : ByteArray} (h : roleAt s 0 = 2) : (tk s 1 4 = 0 ∧ First s 1) ∨ (tk s 1 4 = 4 ∧ First s 2) := by
  by_cases hk : 1 < chars s
  · rw [tk_role hk (by omega)]
    rcases roleAt_one hk with e | e | e | e | e | e | e | e | e | e | e | e | e
    all_goals first
      | exact .inl ⟨by rw [e]; decide, .cr h (by rw [e]; decide)⟩
      | exact .inr ⟨by rw [e]; decide, .line h e⟩
  · exact .inl ⟨by unfold tk; rw [if_neg (by omega)], .cr h (by rw [roleAt_none (by omega)]; decide)⟩
theorem goes_pict {s : ByteArray} {k : Nat} (hr : Runs s k) (h0 : roleAt s 0 = 64) (h : roleAt s (k - 1) = 64 ∨ roleAt s (k - 1) = 8) : goesOn s k = (roleAt s k == 8 || roleAt s k == 16) := by
  unfold goesOn
  rw [h0]
  rcases h with h | h <;> rw [h] <;> simp [syl]
theorem goes_pj {s : ByteArray} {k : Nat} (hr : Runs s k) (h0 : roleAt s 0 = 64) (h : roleAt s (k - 1) = 16) : goesOn s k = (roleAt s k == 8 || roleAt s k == 16 || roleAt s k == 64) := by
  unfold goesOn
  rw [h0, h]
  simp [syl]
theorem nx_pict {s : ByteArray} {k : Nat} (h : NxAt s k 2) : (tk s k 24 = 0 ∧ First s k) ∨ (tk s k 24 = 8 ∧ NxAt s (k + 1) 2) ∨ (tk s k 24 = 16 ∧ NxAt s (k + 1) 5) := by
  obtain ⟨hr, h0, hz⟩ := h
  have hn : ∀ v, roleAt s 0 = 64 → roleAt s 0 ≠ v ∨ v = 64 := fun v e => by by_cases hv : v = 64; exact .inr hv; exact .inl (by rw [e]; exact fun e => hv e.symm)
  have hf : Stops s k → First s k := fun hs => .run k (by rw [h0]; decide) (by rw [h0]; decide) (by rw [h0]; decide) hr hs
  by_cases hk : k < chars s ∧ k < 32
  · rw [tk_role hk.1 hk.2]
    have hg := goes_pict hr h0 hz
    have hs : k + 1 - 1 = k := by omega
    unfold NxAt
    simp only [hs]
    rcases roleAt_one hk.1 with e | e | e | e | e | e | e | e | e | e | e | e | e
    all_goals first
      | exact .inl ⟨by rw [e]; decide, hf (.inr (.inr (by rw [hg, e]; decide)))⟩
      | exact .inr (.inl ⟨by rw [e]; decide, hr.next hk.1 hk.2 (by rw [hg, e]; decide), h0, .inr e⟩)
      | exact .inr (.inr ⟨by rw [e]; decide, hr.next hk.1 hk.2 (by rw [hg, e]; decide), h0, e⟩)
  · obtain ⟨a, b⟩ := tk_out (wanted := 24) hr hk
    exact .inl ⟨a, hf b⟩
theorem nx_pj {s : ByteArray} {k : Nat} (h : NxAt s k 5) : (tk s k 88 = 0 ∧ First s k) ∨ (tk s k 88 = 8 ∧ NxAt s (k + 1) 2) ∨ (tk s k 88 = 64 ∧ NxAt s (k + 1) 2) ∨ (tk s k 88 = 16 ∧ NxAt s (k + 1) 5) := by
  obtain ⟨hr, h0, hz⟩ := h
  have hf : Stops s k → First s k := fun hs => .run k (by rw [h0]; decide) (by rw [h0]; decide) (by rw [h0]; decide) hr hs
  by_cases hk : k < chars s ∧ k < 32
  · rw [tk_role hk.1 hk.2]
    have hg := goes_pj hr h0 hz
    have hs : k + 1 - 1 = k := by omega
    unfold NxAt
    simp only [hs]
    rcases roleAt_one hk.1 with e | e | e | e | e | e | e | e | e | e | e | e | e
    all_goals first
      | exact .inl ⟨by rw [e]; decide, hf (.inr (.inr (by rw [hg, e]; decide)))⟩
      | exact .inr (.inl ⟨by rw [e]; decide, hr.next hk.1 hk.2 (by rw [hg, e]; decide), h0, .inr e⟩)
      | exact .inr (.inr (.inl ⟨by rw [e]; decide, hr.next hk.1 hk.2 (by rw [hg, e]; decide), h0, .inl e⟩))
      | exact .inr (.inr (.inr ⟨by rw [e]; decide, hr.next hk.1 hk.2 (by rw [hg, e]; decide), h0, e⟩))
  · obtain ⟨a, b⟩ := tk_out (wanted := 88) hr hk
    exact .inl ⟨a, hf b⟩
theorem nx_oth {s : ByteArray} {k : Nat} (h : NxAt s k 3) : (tk s k 24 = 0 ∧ First s k) ∨ (tk s k 24 = 8 ∧ NxAt s (k + 1) 3) ∨ (tk s k 24 = 16 ∧ NxAt s (k + 1) 3) := by
  obtain ⟨hr, ⟨n1, n2, n4, n64⟩, hz⟩ := h
  have hf : Stops s k → First s k := fun hs => .run k n1 n2 n4 hr hs
  by_cases hk : k < chars s ∧ k < 32
  · rw [tk_role hk.1 hk.2]
    have hg : goesOn s k = (roleAt s k == 8 || roleAt s k == 16) := by
      rcases hz with hz | hz | hz
      · omega
      · omega
      · exact hz
    have hs : k + 1 - 1 = k := by omega
    have hnx : ∀ v, roleAt s k = v → (v = 8 ∨ v = 16) → NxAt s (k + 1) 3 := fun v e hv => by
      refine ⟨hr.next hk.1 hk.2 (by rw [hg, e]; rcases hv with rfl | rfl <;> decide), ⟨n1, n2, n4, n64⟩, ?_⟩
      refine .inr (.inr ?_)
      unfold goesOn
      have hp := hr.pos
      have h1 : (k + 1 == 1) = false := by simp; omega
      have h6 : (roleAt s 0 == 64) = false := by simp; exact n64
      rw [hs, e, h1, h6]
      rcases hv with rfl | rfl <;> simp [syl]
    rcases roleAt_one hk.1 with e | e | e | e | e | e | e | e | e | e | e | e | e
    all_goals first
      | exact .inl ⟨by rw [e]; decide, hf (.inr (.inr (by rw [hg, e]; decide)))⟩
      | exact .inr (.inl ⟨by rw [e]; decide, hnx _ e (.inl rfl)⟩)
      | exact .inr (.inr ⟨by rw [e]; decide, hnx _ e (.inr rfl)⟩)
  · obtain ⟨a, b⟩ := tk_out (wanted := 24) hr hk
    exact .inl ⟨a, hf b⟩
theorem nx_reg {s : ByteArray} (h : NxAt s 1 1) : (tk s 1 32 = 0 ∧ NxAt s 1 3) ∨ (tk s 1 32 = 32 ∧ NxAt s 2 3) := by
  obtain ⟨_, h0, hc⟩ := h
  have hne : roleAt s 0 ≠ 1 ∧ roleAt s 0 ≠ 2 ∧ roleAt s 0 ≠ 4 ∧ roleAt s 0 ≠ 64 := by rw [h0]; decide
  by_cases hk : 1 < chars s
  · rw [tk_role hk (by omega)]
    have hg : goesOn s 1 = (roleAt s 1 == 8 || roleAt s 1 == 16 || roleAt s 1 == 32) := by
      unfold goesOn
      simp [h0, syl]
    rcases roleAt_one hk with e | e | e | e | e | e | e | e | e | e | e | e | e
    all_goals first
      | exact .inl ⟨by rw [e]; decide, runs_one hc, hne, .inr (.inr (by rw [hg, e]; decide))⟩
      | (refine .inr ⟨by rw [e]; decide, (runs_one hc).next hk (by omega) (by rw [hg, e]; decide), hne, .inr (.inr ?_)⟩
         unfold goesOn
         simp [h0, e, syl])
  · exact .inl ⟨by unfold tk; rw [if_neg (by omega)], runs_one hc, hne, .inl (by omega)⟩
theorem nx_syl {s : ByteArray} {k x : Nat} (h : SylEnd s k) (h0 : roleAt s 0 = x) (hxs : x = 128 ∨ x = 256 ∨ x = 512 ∨ x = 1024 ∨ x = 2048) : NxAt s k 3 := by
  obtain ⟨hr, he⟩ := h
  refine ⟨hr, by rw [h0]; rcases hxs with rfl | rfl | rfl | rfl | rfl <;> decide, ?_⟩
  rcases he with he | he | he
  · exact .inl he
  · exact .inr (.inl he)
  · refine .inr (.inr ?_)
    unfold goesOn
    rw [he, h0]
    rcases hxs with rfl | rfl | rfl | rfl | rfl <;> simp
/-- a first one that is alone in its kind: a mark, a joiner, any other -/
theorem nx_one {s : ByteArray} (hc : 1 ≤ chars s) (h : roleAt s 0 = 8 ∨ roleAt s 0 = 16 ∨ roleAt s 0 = 4096) : NxAt s 1 3 := by
  refine ⟨runs_one hc, by rcases h with h | h | h <;> rw [h] <;> decide, .inr (.inr ?_)⟩
  unfold goesOn
  rcases h with h | h | h <;> simp [h, syl]
theorem nx_zero {s : ByteArray} : tk s 0 8191 = 0 ∧ First s 0 ∨ 1 ≤ chars s ∧ tk s 0 8191 = roleAt s 0 := by
  by_cases hk : 0 < chars s
  · right
    refine ⟨hk, ?_⟩
    rw [tk_role hk (by omega)]
    rcases roleAt_one hk with e | e | e | e | e | e | e | e | e | e | e | e | e <;> rw [e] <;> decide
  · exact .inl ⟨by unfold tk; rw [if_neg (by omega)], .none (by omega)⟩

def nxJ (s : ByteArray) (g : Nat) (W : World) (l : Nat) (a : Act) (w : World) : Prop := ∃ u1 u2 u4 u5 u6 u7 u8 u9 u10 u11 u12 u13 u14 u15 u16 u17 u18 u19 u20 u21 u22 u23 u24 u25 u26 u27 u28 u29 u30 u31 u32 u33 u34 u35 u36 u37 u38 u39 u40 u41 u42 u43, a = { tmps := #[.string s, u1, u2, .pointer (some ⟨g, 0, none⟩), u4, u5, u6, u7, u8, u9, u10, u11, u12, u13, u14, u15, u16, u17, u18, u19, u20, u21, u22, u23, u24, u25, u26, u27, u28, u29, u30, u31, u32, u33, u34, u35, u36, u37, u38, u39, u40, u41, u42, u43], defers := [] } ∧ ∃ k, Scans s g W k w ∧ NxAt s k l

set_option maxRecDepth 100000 in
set_option maxHeartbeats 4000000 in
theorem cnext_any (s : ByteArray) (w : World) (hT : Utf8Tabs 0 1 w) (hm : s.size ≤ 140737488351232) :
    Calls Tryd.prog 36 #[.string s] w fun e w' => ∃ k, First s k ∧ e = .returned (.int .i64 (placeAt s k : Nat)) ∧ Below w.heap.size w w' := by
  obtain ⟨g, hgs⟩ : ∃ g, w.heap.size = g := ⟨_, rfl⟩
  have hg : 1 + 1 ≤ g := by rw [← hgs]; exact tabs_size hT
  obtain ⟨W, hW⟩ : ∃ W, w.alloc (.cells #[.string s, .int .i64 0, .int .i64 0] 87) = W := ⟨_, rfl⟩
  have hbW : Below g w W := by rw [← hW]; exact (Below.refl g w).alloc (by omega) _
  have hs0 : Scans s g W 0 W := by
    refine ⟨?_, Utf8Tabs_below hT (by rw [hgs]; exact hbW), .refl _ _, Nat.zero_le _, by omega⟩
    rw [← hW]
    unfold Rdr
    rw [alloc_get, hgs, if_pos rfl]
    rfl
  have c1 := hs0.rdr.c1
  have c2 := hs0.rdr.c2
  rw [placeAt_zero] at c1
  have f1 := hs0.rdr.f 1
  have f2 := hs0.rdr.f 2
  have hs1 : Scans s g W 0 ((W.setCell ⟨g, 1, none⟩ (.int .i64 0)).setCell ⟨g, 2, none⟩ (.int .i64 0)) :=
    ⟨(hs0.rdr.set1 0).set2 0, moves_u8 hg ((Moves.setCell W g 1 _).trans' (Moves.setCell _ g 2 _)) hs0.u8, (Moves.setCell W g 1 _).trans' (Moves.setCell _ g 2 _), Nat.zero_le _, by omega⟩
  have Hs0 := Lib.hid hs1
  clear hs1
  have HbW := Lib.hid hbW
  have Htake := Lib.hid (fun k wanted w (h : Scans s g W k w) hw => scan_take s g k wanted W w h hg hm hw)
  have Hsyl := Lib.hid (fun x w (h : Scans s g W 1 w) hx hxs => syllable_any s g x W w h hg hm hx hxs)
  rw [hgs]
  clear hT hs0 hbW
  go_enter Tryd.func36, Tryd.ntmps36
  go_wp2_with fail
  refine scope_found (nxJ s g W) (fun l _ w => if l = 4 then 0 else 34 - taken g w) ?found ?first ?pass
  case found =>
    rintro l a w ⟨u1, u2, u4, u5, u6, u7, u8, u9, u10, u11, u12, u13, u14, u15, u16, u17, u18, u19, u20, u21, u22, u23, u24, u25, u26, u27, u28, u29, u30, u31, u32, u33, u34, u35, u36, u37, u38, u39, u40, u41, u42, u43, rfl, k, hs, hl⟩
    match l, hl with
    | 0, _ => rfl
    | 1, _ => rfl
    | 2, _ => rfl
    | 3, _ => rfl
    | 4, _ => rfl
    | 5, _ => rfl
  case first =>
    go_wp2_with fail
    refine (Htake.out 0 8191 _ Hs0.out (by simp)).mono ?_
    rintro _ w1 ⟨rfl, h0, h1⟩
    rcases nx_zero (s := s) with ⟨e, hf0⟩ | ⟨hc, e⟩
    · rw [e]
      have H0 := Lib.hid (h0 e)
      clear h0 h1 e
      go_wp2_with fail
      go_step3
      exact ⟨_, _, _, _, _, _, _, _, _, _, _, _, _, _, _, _, _, _, _, _, _, _, _, _, _, _, _, _, _, _, _, _, _, _, _, _, _, _, _, _, _, _, rfl, _, H0.out, hf0⟩
    · rw [e]
      rcases roleAt_one (s := s) (k := 0) hc with r | r | r | r | r | r | r | r | r | r | r | r | r
      · rw [r]
        have H1 := Lib.hid (h1 (by rw [e, r]; decide))
        clear h0 h1 e
        go_wp2_with fail
        go_step3
        exact ⟨_, _, _, _, _, _, _, _, _, _, _, _, _, _, _, _, _, _, _, _, _, _, _, _, _, _, _, _, _, _, _, _, _, _, _, _, _, _, _, _, _, _, rfl, _, H1.out, (show First s 1 from .alone (.inl r))⟩
      · rw [r]
        have H1 := Lib.hid (h1 (by rw [e, r]; decide))
        clear h0 h1 e
        go_wp2_with fail
        go_step3
        exact ⟨_, _, _, _, _, _, _, _, _, _, _, _, _, _, _, _, _, _, _, _, _, _, _, _, _, _, _, _, _, _, _, _, _, _, _, _, _, _, _, _, _, _, rfl, _, H1.out, (show NxAt s 1 0 from ⟨rfl, r⟩)⟩
      · rw [r]
        have H1 := Lib.hid (h1 (by rw [e, r]; decide))
        clear h0 h1 e
        go_wp2_with fail
        go_step3
        exact ⟨_, _, _, _, _, _, _, _, _, _, _, _, _, _, _, _, _, _, _, _, _, _, _, _, _, _, _, _, _, _, _, _, _, _, _, _, _, _, _, _, _, _, rfl, _, H1.out, (show First s 1 from .alone (.inr r))⟩
      · rw [r]
        have H1 := Lib.hid (h1 (by rw [e, r]; decide))
        clear h0 h1 e
        go_wp2_with fail
        go_step3
        exact ⟨_, _, _, _, _, _, _, _, _, _, _, _, _, _, _, _, _, _, _, _, _, _, _, _, _, _, _, _, _, _, _, _, _, _, _, _, _, _, _, _, _, _, rfl, _, H1.out, (nx_one hc (by rw [r]; simp))⟩
      · rw [r]
        have H1 := Lib.hid (h1 (by rw [e, r]; decide))
        clear h0 h1 e
        go_wp2_with fail
        go_step3
        exact ⟨_, _, _, _, _, _, _, _, _, _, _, _, _, _, _, _, _, _, _, _, _, _, _, _, _, _, _, _, _, _, _, _, _, _, _, _, _, _, _, _, _, _, rfl, _, H1.out, (nx_one hc (by rw [r]; simp))⟩
      · rw [r]
        have H1 := Lib.hid (h1 (by rw [e, r]; decide))
        clear h0 h1 e
        go_wp2_with fail
        go_step3
        exact ⟨_, _, _, _, _, _, _, _, _, _, _, _, _, _, _, _, _, _, _, _, _, _, _, _, _, _, _, _, _, _, _, _, _, _, _, _, _, _, _, _, _, _, rfl, _, H1.out, (show NxAt s 1 1 from ⟨rfl, r, hc⟩)⟩
      · rw [r]
        have H1 := Lib.hid (h1 (by rw [e, r]; decide))
        clear h0 h1 e
        go_wp2_with fail
        go_step3
        exact ⟨_, _, _, _, _, _, _, _, _, _, _, _, _, _, _, _, _, _, _, _, _, _, _, _, _, _, _, _, _, _, _, _, _, _, _, _, _, _, _, _, _, _, rfl, _, H1.out, (show NxAt s 1 2 from ⟨runs_one hc, r, .inl r⟩)⟩
      · rw [r]
        have H1 := Lib.hid (h1 (by rw [e, r]; decide))
        clear h0 h1 e
        go_wp2_with fail
        refine (Hsyl.out 128 _ H1.out r (by simp)).mono ?_
        rintro _ w2 ⟨⟨v, rfl⟩, k, hs2, he⟩
        go_wp2_with fail
        go_step3
        exact ⟨_, _, _, _, _, _, _, _, _, _, _, _, _, _, _, _, _, _, _, _, _, _, _, _, _, _, _, _, _, _, _, _, _, _, _, _, _, _, _, _, _, _, rfl, _, hs2, (nx_syl he r (by simp))⟩
      · rw [r]
        have H1 := Lib.hid (h1 (by rw [e, r]; decide))
        clear h0 h1 e
        go_wp2_with fail
        refine (Hsyl.out 256 _ H1.out r (by simp)).mono ?_
        rintro _ w2 ⟨⟨v, rfl⟩, k, hs2, he⟩
        go_wp2_with fail
        go_step3
        exact ⟨_, _, _, _, _, _, _, _, _, _, _, _, _, _, _, _, _, _, _, _, _, _, _, _, _, _, _, _, _, _, _, _, _, _, _, _, _, _, _, _, _, _, rfl, _, hs2, (nx_syl he r (by simp))⟩
      · rw [r]
        have H1 := Lib.hid (h1 (by rw [e, r]; decide))
        clear h0 h1 e
        go_wp2_with fail
        refine (Hsyl.out 512 _ H1.out r (by simp)).mono ?_
        rintro _ w2 ⟨⟨v, rfl⟩, k, hs2, he⟩
        go_wp2_with fail
        go_step3
        exact ⟨_, _, _, _, _, _, _, _, _, _, _, _, _, _, _, _, _, _, _, _, _, _, _, _, _, _, _, _, _, _, _, _, _, _, _, _, _, _, _, _, _, _, rfl, _, hs2, (nx_syl he r (by simp))⟩
      · rw [r]
        have H1 := Lib.hid (h1 (by rw [e, r]; decide))
        clear h0 h1 e
        go_wp2_with fail
        refine (Hsyl.out 1024 _ H1.out r (by simp)).mono ?_
        rintro _ w2 ⟨⟨v, rfl⟩, k, hs2, he⟩
        go_wp2_with fail
        go_step3
        exact ⟨_, _, _, _, _, _, _, _, _, _, _, _, _, _, _, _, _, _, _, _, _, _, _, _, _, _, _, _, _, _, _, _, _, _, _, _, _, _, _, _, _, _, rfl, _, hs2, (nx_syl he r (by simp))⟩
      · rw [r]
        have H1 := Lib.hid (h1 (by rw [e, r]; decide))
        clear h0 h1 e
        go_wp2_with fail
        refine (Hsyl.out 2048 _ H1.out r (by simp)).mono ?_
        rintro _ w2 ⟨⟨v, rfl⟩, k, hs2, he⟩
        go_wp2_with fail
        go_step3
        exact ⟨_, _, _, _, _, _, _, _, _, _, _, _, _, _, _, _, _, _, _, _, _, _, _, _, _, _, _, _, _, _, _, _, _, _, _, _, _, _, _, _, _, _, rfl, _, hs2, (nx_syl he r (by simp))⟩
      · rw [r]
        have H1 := Lib.hid (h1 (by rw [e, r]; decide))
        clear h0 h1 e
        go_wp2_with fail
        go_step3
        exact ⟨_, _, _, _, _, _, _, _, _, _, _, _, _, _, _, _, _, _, _, _, _, _, _, _, _, _, _, _, _, _, _, _, _, _, _, _, _, _, _, _, _, _, rfl, _, H1.out, (nx_one hc (by rw [r]; simp))⟩
  case pass =>
    rintro l a w1 rest ⟨u1, u2, u4, u5, u6, u7, u8, u9, u10, u11, u12, u13, u14, u15, u16, u17, u18, u19, u20, u21, u22, u23, u24, u25, u26, u27, u28, u29, u30, u31, u32, u33, u34, u35, u36, u37, u38, u39, u40, u41, u42, u43, rfl, k, hs, hl⟩ hf
    match l, hl, hf with
    | 0, hl, hf =>
      simp only [findLabel, Nat.reduceBEq, Bool.false_eq_true, if_true, if_false, reduceIte] at hf
      injection hf with hf
      subst hf
      obtain ⟨rfl, hr0⟩ := hl
      go_wp2_with fail
      refine (Htake.out 1 4 _ hs (by simp)).mono ?_
      rintro _ w2 ⟨rfl, h0, h1⟩
      rcases nx_carr hr0 with ⟨e, hf0⟩ | ⟨e, hf0⟩
      · rw [e]
        have H0 := Lib.hid (h0 e)
        clear h0 h1 e
        go_wp2_with fail
        go_step3
        refine ⟨⟨_, _, _, _, _, _, _, _, _, _, _, _, _, _, _, _, _, _, _, _, _, _, _, _, _, _, _, _, _, _, _, _, _, _, _, _, _, _, _, _, _, _, rfl, _, H0.out, hf0⟩, ?_⟩
        have m1 := hs.taken
        have m2 := H0.out.taken
        have m3 := hs.most
        simp [m1, m2]
        try omega
      · rw [e]
        have H1 := Lib.hid (h1 (by rw [e]; decide))
        clear h0 h1 e
        go_wp2_with fail
        go_step3
        refine ⟨⟨_, _, _, _, _, _, _, _, _, _, _, _, _, _, _, _, _, _, _, _, _, _, _, _, _, _, _, _, _, _, _, _, _, _, _, _, _, _, _, _, _, _, rfl, _, H1.out, hf0⟩, ?_⟩
        have m1 := hs.taken
        have m2 := H1.out.taken
        have m3 := hs.most
        simp [m1, m2]
        try omega
    | 1, hl, hf =>
      simp only [findLabel, Nat.reduceBEq, Bool.false_eq_true, if_true, if_false, reduceIte] at hf
      injection hf with hf
      subst hf
      obtain ⟨rfl, hr0⟩ := hl
      go_wp2_with fail
      refine (Htake.out 1 32 _ hs (by simp)).mono ?_
      rintro _ w2 ⟨rfl, h0, h1⟩
      rcases nx_reg ⟨rfl, hr0⟩ with ⟨e, hl2⟩ | ⟨e, hl2⟩
      · rw [e]
        have H0 := Lib.hid (h0 e)
        clear h0 h1 e
        go_wp2_with fail
        go_step3
        have hs2 := H0.out
        go_wp2_with fail
        refine (Htake.out _ 24 _ hs2 (by simp)).mono ?_
        rintro _ w3 ⟨rfl, h0, h1⟩
        rcases nx_oth hl2 with ⟨e, hf0⟩ | ⟨e, hl3⟩ | ⟨e, hl3⟩
        · rw [e]
          have H2 := Lib.hid (h0 e)
          have x1 := H2.out.rdr.c1
          clear h0 h1 e
          go_wp2_with fail
          go_step3
          go_wp2_with fail
          try rw [toLabel_ret]
          go_ret
          exact ⟨_, hf0, rfl, HbW.out.trans ⟨H2.out.moves.os, H2.out.moves.tape, H2.out.moves.output, H2.out.moves.size, fun i hi => H2.out.moves.block i (Nat.lt_of_lt_of_le hi (by have := HbW.out.size; omega)) (fun e => by omega)⟩⟩
        · rw [e]
          have H2 := Lib.hid (h1 (by rw [e]; decide))
          clear h0 h1 e
          go_wp2_with fail
          go_step3
          refine ⟨⟨_, _, _, _, _, _, _, _, _, _, _, _, _, _, _, _, _, _, _, _, _, _, _, _, _, _, _, _, _, _, _, _, _, _, _, _, _, _, _, _, _, _, rfl, _, H2.out, hl3⟩, ?_⟩
          have m1 := hs.taken
          have m2 := H2.out.taken
          have m3 := hs.most
          simp [m1, m2]
          try omega
        · rw [e]
          have H2 := Lib.hid (h1 (by rw [e]; decide))
          clear h0 h1 e
          go_wp2_with fail
          go_step3
          refine ⟨⟨_, _, _, _, _, _, _, _, _, _, _, _, _, _, _, _, _, _, _, _, _, _, _, _, _, _, _, _, _, _, _, _, _, _, _, _, _, _, _, _, _, _, rfl, _, H2.out, hl3⟩, ?_⟩
          have m1 := hs.taken
          have m2 := H2.out.taken
          have m3 := hs.most
          simp [m1, m2]
          try omega
      · rw [e]
        have H1 := Lib.hid (h1 (by rw [e]; decide))
        clear h0 h1 e
        go_wp2_with fail
        go_step3
        have hs2 := H1.out
        go_wp2_with fail
        refine (Htake.out _ 24 _ hs2 (by simp)).mono ?_
        rintro _ w3 ⟨rfl, h0, h1⟩
        rcases nx_oth hl2 with ⟨e, hf0⟩ | ⟨e, hl3⟩ | ⟨e, hl3⟩
        · rw [e]
          have H2 := Lib.hid (h0 e)
          have x1 := H2.out.rdr.c1
          clear h0 h1 e
          go_wp2_with fail
          go_step3
          go_wp2_with fail
          try rw [toLabel_ret]
          go_ret
          exact ⟨_, hf0, rfl, HbW.out.trans ⟨H2.out.moves.os, H2.out.moves.tape, H2.out.moves.output, H2.out.moves.size, fun i hi => H2.out.moves.block i (Nat.lt_of_lt_of_le hi (by have := HbW.out.size; omega)) (fun e => by omega)⟩⟩
        · rw [e]
          have H2 := Lib.hid (h1 (by rw [e]; decide))
          clear h0 h1 e
          go_wp2_with fail
          go_step3
          refine ⟨⟨_, _, _, _, _, _, _, _, _, _, _, _, _, _, _, _, _, _, _, _, _, _, _, _, _, _, _, _, _, _, _, _, _, _, _, _, _, _, _, _, _, _, rfl, _, H2.out, hl3⟩, ?_⟩
          have m1 := hs.taken
          have m2 := H2.out.taken
          have m3 := hs.most
          simp [m1, m2]
          try omega
        · rw [e]
          have H2 := Lib.hid (h1 (by rw [e]; decide))
          clear h0 h1 e
          go_wp2_with fail
          go_step3
          refine ⟨⟨_, _, _, _, _, _, _, _, _, _, _, _, _, _, _, _, _, _, _, _, _, _, _, _, _, _, _, _, _, _, _, _, _, _, _, _, _, _, _, _, _, _, rfl, _, H2.out, hl3⟩, ?_⟩
          have m1 := hs.taken
          have m2 := H2.out.taken
          have m3 := hs.most
          simp [m1, m2]
          try omega
    | 2, hl, hf =>
      simp only [findLabel, Nat.reduceBEq, Bool.false_eq_true, if_true, if_false, reduceIte] at hf
      injection hf with hf
      subst hf
      go_wp2_with fail
      refine (Htake.out _ 24 _ hs (by simp)).mono ?_
      rintro _ w2 ⟨rfl, h0, h1⟩
      rcases nx_pict hl with ⟨e, hf0⟩ | ⟨e, hl2⟩ | ⟨e, hl2⟩
      · rw [e]
        have H0 := Lib.hid (h0 e)
        clear h0 h1 e
        go_wp2_with fail
        go_step3
        refine ⟨⟨_, _, _, _, _, _, _, _, _, _, _, _, _, _, _, _, _, _, _, _, _, _, _, _, _, _, _, _, _, _, _, _, _, _, _, _, _, _, _, _, _, _, rfl, _, H0.out, hf0⟩, ?_⟩
        have m1 := hs.taken
        have m2 := H0.out.taken
        have m3 := hs.most
        simp [m1, m2]
        try omega
      · rw [e]
        have H1 := Lib.hid (h1 (by rw [e]; decide))
        clear h0 h1 e
        go_wp2_with fail
        go_step3
        refine ⟨⟨_, _, _, _, _, _, _, _, _, _, _, _, _, _, _, _, _, _, _, _, _, _, _, _, _, _, _, _, _, _, _, _, _, _, _, _, _, _, _, _, _, _, rfl, _, H1.out, hl2⟩, ?_⟩
        have m1 := hs.taken
        have m2 := H1.out.taken
        have m3 := hs.most
        simp [m1, m2]
        try omega
      · rw [e]
        have H1 := Lib.hid (h1 (by rw [e]; decide))
        clear h0 h1 e
        go_wp2_with fail
        go_step3
        refine ⟨⟨_, _, _, _, _, _, _, _, _, _, _, _, _, _, _, _, _, _, _, _, _, _, _, _, _, _, _, _, _, _, _, _, _, _, _, _, _, _, _, _, _, _, rfl, _, H1.out, hl2⟩, ?_⟩
        have m1 := hs.taken
        have m2 := H1.out.taken
        have m3 := hs.most
        simp [m1, m2]
        try omega
    | 3, hl, hf =>
      simp only [findLabel, Nat.reduceBEq, Bool.false_eq_true, if_true, if_false, reduceIte] at hf
      injection hf with hf
      subst hf
      go_wp2_with fail
      refine (Htake.out _ 24 _ hs (by simp)).mono ?_
      rintro _ w2 ⟨rfl, h0, h1⟩
      rcases nx_oth hl with ⟨e, hf0⟩ | ⟨e, hl2⟩ | ⟨e, hl2⟩
      · rw [e]
        have H2 := Lib.hid (h0 e)
        have x1 := H2.out.rdr.c1
        clear h0 h1 e
        go_wp2_with fail
        go_step3
        go_wp2_with fail
        try rw [toLabel_ret]
        go_ret
        exact ⟨_, hf0, rfl, HbW.out.trans ⟨H2.out.moves.os, H2.out.moves.tape, H2.out.moves.output, H2.out.moves.size, fun i hi => H2.out.moves.block i (Nat.lt_of_lt_of_le hi (by have := HbW.out.size; omega)) (fun e => by omega)⟩⟩
      · rw [e]
        have H1 := Lib.hid (h1 (by rw [e]; decide))
        clear h0 h1 e
        go_wp2_with fail
        go_step3
        refine ⟨⟨_, _, _, _, _, _, _, _, _, _, _, _, _, _, _, _, _, _, _, _, _, _, _, _, _, _, _, _, _, _, _, _, _, _, _, _, _, _, _, _, _, _, rfl, _, H1.out, hl2⟩, ?_⟩
        have m1 := hs.taken
        have m2 := H1.out.taken
        have m3 := hs.most
        simp [m1, m2]
        try omega
      · rw [e]
        have H1 := Lib.hid (h1 (by rw [e]; decide))
        clear h0 h1 e
        go_wp2_with fail
        go_step3
        refine ⟨⟨_, _, _, _, _, _, _, _, _, _, _, _, _, _, _, _, _, _, _, _, _, _, _, _, _, _, _, _, _, _, _, _, _, _, _, _, _, _, _, _, _, _, rfl, _, H1.out, hl2⟩, ?_⟩
        have m1 := hs.taken
        have m2 := H1.out.taken
        have m3 := hs.most
        simp [m1, m2]
        try omega
    | 4, hl, hf =>
      simp only [findLabel, Nat.reduceBEq, Bool.false_eq_true, if_true, if_false, reduceIte] at hf
      injection hf with hf
      subst hf
      have x1 := hs.rdr.c1
      have Hs := Lib.hid hs
      clear hs
      go_wp2_with fail
      try rw [toLabel_ret]
      go_ret
      exact ⟨_, hl, rfl, HbW.out.trans ⟨Hs.out.moves.os, Hs.out.moves.tape, Hs.out.moves.output, Hs.out.moves.size, fun i hi => Hs.out.moves.block i (Nat.lt_of_lt_of_le hi (by have := HbW.out.size; omega)) (fun e => by omega)⟩⟩
    | 5, hl, hf =>
      simp only [findLabel, Nat.reduceBEq, Bool.false_eq_true, if_true, if_false, reduceIte] at hf
      injection hf with hf
      subst hf
      go_wp2_with fail
      refine (Htake.out _ 88 _ hs (by simp)).mono ?_
      rintro _ w2 ⟨rfl, h0, h1⟩
      rcases nx_pj hl with ⟨e, hf0⟩ | ⟨e, hl2⟩ | ⟨e, hl2⟩ | ⟨e, hl2⟩
      · rw [e]
        have H0 := Lib.hid (h0 e)
        clear h0 h1 e
        go_wp2_with fail
        go_step3
        refine ⟨⟨_, _, _, _, _, _, _, _, _, _, _, _, _, _, _, _, _, _, _, _, _, _, _, _, _, _, _, _, _, _, _, _, _, _, _, _, _, _, _, _, _, _, rfl, _, H0.out, hf0⟩, ?_⟩
        have m1 := hs.taken
        have m2 := H0.out.taken
        have m3 := hs.most
        simp [m1, m2]
        try omega
      · rw [e]
        have H1 := Lib.hid (h1 (by rw [e]; decide))
        clear h0 h1 e
        go_wp2_with fail
        go_step3
        refine ⟨⟨_, _, _, _, _, _, _, _, _, _, _, _, _, _, _, _, _, _, _, _, _, _, _, _, _, _, _, _, _, _, _, _, _, _, _, _, _, _, _, _, _, _, rfl, _, H1.out, hl2⟩, ?_⟩
        have m1 := hs.taken
        have m2 := H1.out.taken
        have m3 := hs.most
        simp [m1, m2]
        try omega
      · rw [e]
        have H1 := Lib.hid (h1 (by rw [e]; decide))
        clear h0 h1 e
        go_wp2_with fail
        go_step3
        refine ⟨⟨_, _, _, _, _, _, _, _, _, _, _, _, _, _, _, _, _, _, _, _, _, _, _, _, _, _, _, _, _, _, _, _, _, _, _, _, _, _, _, _, _, _, rfl, _, H1.out, hl2⟩, ?_⟩
        have m1 := hs.taken
        have m2 := H1.out.taken
        have m3 := hs.most
        simp [m1, m2]
        try omega
      · rw [e]
        have H1 := Lib.hid (h1 (by rw [e]; decide))
        clear h0 h1 e
        go_wp2_with fail
        go_step3
        refine ⟨⟨_, _, _, _, _, _, _, _, _, _, _, _, _, _, _, _, _, _, _, _, _, _, _, _, _, _, _, _, _, _, _, _, _, _, _, _, _, _, _, _, _, _, rfl, _, H1.out, hl2⟩, ?_⟩
        have m1 := hs.taken
        have m2 := H1.out.taken
        have m3 := hs.most
        simp [m1, m2]
        try omega
end Go.Proofs.YthkapcnhfdpdbaaDoor
