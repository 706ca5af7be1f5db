/- Layer 12, the program: the sorts of clusters. -/
import Derived.Test.YtiafofekobcifaaDoorPgPG
import Derived.Test.YtiafofekobcifaaDoorScanA
import Derived.Test.YtiafofekobcifaaDoorClassG
import Derived.Test.YtiafofekobcifaaDoorClAll
import Derived.Scope
import Derived.Test.YtiafofekobcifaaDoorClBack
import Derived.Test.YtiafofekobcifaaDoorBordG
set_option linter.unusedSimpArgs false
set_option linter.unusedVariables false
namespace Go.Proofs.YtiafofekobcifaaDoor
open Go.RowKit Go.Shelf Go.Lib
attribute [local go_sem] Oper.semAt_some

/-- the program's number of the sort of what begins with this character -/
def sortX (x : Nat) : Nat :=
  if cls kindsL (char (x : Int)) = 2 then 1
  else if cls kindsL (char (x : Int)) = 4 then 2
  else if cls kindsL (char (x : Int)) = 3 then (if cls breaksL (char (x : Int)) = 7 then 3 else 1)
  else if cls kindsL (char (x : Int)) = 5 ∧ cls breaksL (char (x : Int)) ≠ 2 then 4
  else if x = 95 then 1
  else if x = 9 then 4 else 5
theorem kind9 : cls kindsL (char ((9 : Nat) : Int)) ≠ 2 ∧ cls kindsL (char ((9 : Nat) : Int)) ≠ 3 ∧ cls kindsL (char ((9 : Nat) : Int)) ≠ 4 ∧ cls kindsL (char ((9 : Nat) : Int)) ≠ 5 := by decide +kernel
theorem kind95 : cls kindsL (char ((95 : Nat) : Int)) ≠ 2 ∧ cls kindsL (char ((95 : Nat) : Int)) ≠ 3 ∧ cls kindsL (char ((95 : Nat) : Int)) ≠ 4 ∧ cls kindsL (char ((95 : Nat) : Int)) ≠ 5 := by decide +kernel
theorem sort_bad : sortX 65533 = pS 0 := by decide +kernel
theorem sort_cases (k b x : Nat) (h9 : x = 9 → k ≠ 2 ∧ k ≠ 3 ∧ k ≠ 4 ∧ k ≠ 5) (h95 : x = 95 → k ≠ 2 ∧ k ≠ 3 ∧ k ≠ 4 ∧ k ≠ 5) :
    (if k = 2 then 1 else if k = 4 then 2 else if k = 3 then (if b = 7 then 3 else 1) else if k = 5 ∧ b ≠ 2 then 4 else if x = 95 then 1 else if x = 9 then 4 else 5) =
      pS (if k = 3 ∧ b = 7 then 3 else if k = 3 ∨ k = 2 ∨ x = 95 then 1 else if k = 4 then 2 else if (k = 5 ∧ b ≠ 2) ∨ x = 9 then 4 else 0) := by
  unfold pS
  repeat' split
  all_goals omega
theorem sortX_is (d : Nat × Nat) : sortX d.1 = pS (sortD d) := by
  obtain ⟨x, n⟩ := d
  unfold sortD
  by_cases hb : badD (x, n) = true
  · rw [if_pos hb]
    have hx : x = 65533 := by
      simp [badD] at hb
      exact hb.1
    subst hx
    exact sort_bad
  · rw [if_neg hb]
    exact sort_cases _ _ _ (fun e => e ▸ kind9) (fun e => e ▸ kind95)
theorem sortX_nxt (s : ByteArray) : sortX (nxt s.data.toList).1 = pS (sortN s) := by
  unfold sortN nxt
  by_cases h : s.data.toList = []
  · rw [if_pos h, h]
    decide +kernel
  · rw [if_neg h, segs_cons _ h]
    exact sortX_is _
set_option maxRecDepth 100000 in
set_option maxHeartbeats 4000000 in
theorem psort_any (s : ByteArray) (w : World) (hT : Utf8Tabs 0 1 w) : Calls Tryd.prog 63 #[.string s] w fun e w' =>
    e = .returned (.int .u8 (pS (sortN s) : Nat)) ∧ Below w.heap.size w w' := by
  have HN := Lib.hid (next_any s w hT)
  have hv := sortX_nxt s
  obtain ⟨x, hx⟩ : ∃ x, (nxt s.data.toList).1 = x := ⟨_, rfl⟩
  rw [hx] at HN hv
  rw [← hv]
  have HK := Lib.hid (fun W => Kind_any (x : Int) W)
  have HB := Lib.hid (fun W => Break_any (x : Int) W)
  have HV := Lib.hid (show sortX x = if cls kindsL (char (x : Int)) = 2 then 1
    else if cls kindsL (char (x : Int)) = 4 then 2
    else if cls kindsL (char (x : Int)) = 3 then (if cls breaksL (char (x : Int)) = 7 then 3 else 1)
    else if cls kindsL (char (x : Int)) = 5 ∧ cls breaksL (char (x : Int)) ≠ 2 then 4
    else if x = 95 then 1
    else if x = 9 then 4 else 5 from rfl)
  obtain ⟨k, hk⟩ : ∃ k, cls kindsL (char (x : Int)) = k := ⟨_, rfl⟩
  obtain ⟨b, hb⟩ : ∃ b, cls breaksL (char (x : Int)) = b := ⟨_, rfl⟩
  obtain ⟨v, hvv⟩ : ∃ v, sortX x = v := ⟨_, rfl⟩
  rw [hk] at HK HV
  rw [hb] at HB HV
  rw [hvv] at HV ⊢
  clear hk hb hvv hT hx hv
  go_enter Tryd.func63, Tryd.ntmps63
  go_wp2_with fail
  refine HN.out.mono ?_
  rintro _ w1 ⟨rfl, b1⟩
  have B1 := Lib.hid b1
  clear b1 HN
  go_wp2_with fail
  refine (HK.out _).mono ?_
  rintro _ w2 ⟨rfl, b2⟩
  have B2 := Lib.hid (B1.out.trans (b2.mono B1.out.size))
  clear b2 B1 HK
  by_cases k2 : k = 2
  · have hV := HV.out
    rw [if_pos k2] at hV
    have HV2 := Lib.hid hV
    have q : (k : Int) = 2 := by omega
    clear hV k2 HV
    go_wp2_with fail
    go_ret
    exact ⟨by rw [HV2.out]; rfl, B2.out⟩
  have q2 : ¬ (k : Int) = 2 := by omega
  by_cases k4 : k = 4
  · have hV := HV.out
    rw [if_neg k2, if_pos k4] at hV
    have HV2 := Lib.hid hV
    have q : (k : Int) = 4 := by omega
    clear hV k4 k2 HV
    go_wp2_with fail
    go_ret
    exact ⟨by rw [HV2.out]; rfl, B2.out⟩
  have q4 : ¬ (k : Int) = 4 := by omega
  by_cases k3 : k = 3
  · have hV := HV.out
    rw [if_neg k2, if_neg k4, if_pos k3] at hV
    have HV2 := Lib.hid hV
    have q : (k : Int) = 3 := by omega
    clear hV k3 k2 k4 HV
    go_wp2_with fail
    refine (HB.out _).mono ?_
    rintro _ w3 ⟨rfl, b3⟩
    have B3 := Lib.hid (B2.out.trans (b3.mono B2.out.size))
    clear b3 B2 HB
    by_cases k7 : b = 7
    · have hV := HV2.out
      rw [if_pos k7] at hV
      have HV3 := Lib.hid hV
      have q7 : (b : Int) = 7 := by omega
      clear hV k7 HV2
      go_wp2_with fail
      go_ret
      exact ⟨by rw [HV3.out]; rfl, B3.out⟩
    · have hV := HV2.out
      rw [if_neg k7] at hV
      have HV3 := Lib.hid hV
      have q7 : ¬ (b : Int) = 7 := by omega
      clear hV k7 HV2
      go_wp2_with fail
      go_ret
      exact ⟨by rw [HV3.out]; rfl, B3.out⟩
  have q3 : ¬ (k : Int) = 3 := by omega
  have hV := HV.out
  rw [if_neg k2, if_neg k4, if_neg k3] at hV
  have HV2 := Lib.hid hV
  clear hV k2 k4 k3 HV
  by_cases k5 : k = 5
  · have q5 : (k : Int) = 5 := by omega
    go_wp2_with fail
    refine (HB.out _).mono ?_
    rintro _ w3 ⟨rfl, b3⟩
    have B3 := Lib.hid (B2.out.trans (b3.mono B2.out.size))
    clear b3 B2 HB
    by_cases k7 : b = 2
    · have hV := HV2.out
      rw [if_neg (by omega)] at hV
      have HV3 := Lib.hid hV
      have q7 : (b : Int) = 2 := by omega
      clear hV k7 HV2 k5
      by_cases x95 : x = 95
      · have hV := HV3.out
        rw [if_pos x95] at hV
        have HV4 := Lib.hid hV
        have r : (x : Int) = 95 := by omega
        clear hV HV3 x95
        go_wp2_with fail
        go_ret
        exact ⟨by rw [HV4.out]; rfl, B3.out⟩
      · by_cases x9 : x = 9
        · have hV := HV3.out
          rw [if_neg x95, if_pos x9] at hV
          have HV4 := Lib.hid hV
          have r : ¬ (x : Int) = 95 := by omega
          have r' : (x : Int) = 9 := by omega
          clear hV HV3 x95 x9
          go_wp2_with fail
          go_ret
          exact ⟨by rw [HV4.out]; rfl, B3.out⟩
        · have hV := HV3.out
          rw [if_neg x95, if_neg x9] at hV
          have HV4 := Lib.hid hV
          have r : ¬ (x : Int) = 95 := by omega
          have r' : ¬ (x : Int) = 9 := by omega
          clear hV HV3 x95 x9
          go_wp2_with fail
          go_ret
          exact ⟨by rw [HV4.out]; rfl, B3.out⟩
    · have hV := HV2.out
      rw [if_pos ⟨k5, k7⟩] at hV
      have HV3 := Lib.hid hV
      have q7 : ¬ (b : Int) = 2 := by omega
      clear hV k7 HV2 k5
      go_wp2_with fail
      go_ret
      exact ⟨by rw [HV3.out]; rfl, B3.out⟩
  · have q5 : ¬ (k : Int) = 5 := by omega
    have hV := HV2.out
    rw [if_neg (by omega)] at hV
    have HV3 := Lib.hid hV
    clear hV HV2 k5 HB
    by_cases x95 : x = 95
    · have hV := HV3.out
      rw [if_pos x95] at hV
      have HV4 := Lib.hid hV
      have r : (x : Int) = 95 := by omega
      clear hV HV3 x95
      go_wp2_with fail
      go_ret
      exact ⟨by rw [HV4.out]; rfl, B2.out⟩
    · by_cases x9 : x = 9
      · have hV := HV3.out
        rw [if_neg x95, if_pos x9] at hV
        have HV4 := Lib.hid hV
        have r : ¬ (x : Int) = 95 := by omega
        have r' : (x : Int) = 9 := by omega
        clear hV HV3 x95 x9
        go_wp2_with fail
        go_ret
        exact ⟨by rw [HV4.out]; rfl, B2.out⟩
      · have hV := HV3.out
        rw [if_neg x95, if_neg x9] at hV
        have HV4 := Lib.hid hV
        have r : ¬ (x : Int) = 95 := by omega
        have r' : ¬ (x : Int) = 9 := by omega
        clear hV HV3 x95 x9
        go_wp2_with fail
        go_ret
        exact ⟨by rw [HV4.out]; rfl, B2.out⟩
set_option maxRecDepth 100000 in
set_option maxHeartbeats 4000000 in
theorem pisword_any (s : ByteArray) (w : World) (hT : Utf8Tabs 0 1 w) : Calls Tryd.prog 51 #[.string s] w fun e w' =>
    e = .returned (.bool (wordW s)) ∧ Below w.heap.size w w' := by
  have HS := Lib.hid (psort_any s w hT)
  have HV := Lib.hid (show wordW s = (pS (sortN s) == 1 || pS (sortN s) == 2 || pS (sortN s) == 3) from by
    unfold wordW pS
    split
    · rename_i h; rw [h]; rfl
    · rfl)
  obtain ⟨k, hk⟩ : ∃ k, pS (sortN s) = k := ⟨_, rfl⟩
  obtain ⟨v, hv⟩ : ∃ v, wordW s = v := ⟨_, rfl⟩
  rw [hk] at HS HV
  rw [hv] at HV ⊢
  clear hk hv hT
  go_enter Tryd.func51, Tryd.ntmps51
  go_wp2_with fail
  refine HS.out.mono ?_
  rintro _ w1 ⟨rfl, b1⟩
  have B1 := Lib.hid b1
  clear b1 HS
  by_cases k1 : k = 1
  · have HV2 := Lib.hid (show v = true from by rw [HV.out, k1]; rfl)
    have q1 : (k : Int) = 1 := by omega
    clear k1 HV
    go_wp2_with fail
    go_ret
    exact ⟨by rw [HV2.out] <;> rfl, B1.out⟩
  have q1 : ¬ (k : Int) = 1 := by omega
  by_cases k2 : k = 2
  · have HV2 := Lib.hid (show v = true from by rw [HV.out, k2]; rfl)
    have q2 : (k : Int) = 2 := by omega
    clear k1 k2 HV
    go_wp2_with fail
    go_ret
    exact ⟨by rw [HV2.out] <;> rfl, B1.out⟩
  have q2 : ¬ (k : Int) = 2 := by omega
  by_cases k3 : k = 3
  · have HV2 := Lib.hid (show v = true from by rw [HV.out, k3]; rfl)
    have q3 : (k : Int) = 3 := by omega
    clear k1 k2 k3 HV
    go_wp2_with fail
    go_ret
    exact ⟨by rw [HV2.out] <;> rfl, B1.out⟩
  have q3 : ¬ (k : Int) = 3 := by omega
  have HV2 := Lib.hid (show v = false from by rw [HV.out]; simp [k1, k2, k3])
  clear k1 k2 k3 HV
  go_wp2_with fail
  go_ret
  exact ⟨by rw [HV2.out] <;> rfl, B1.out⟩
set_option maxRecDepth 100000 in
set_option maxHeartbeats 4000000 in
theorem ptog_any (a b : Nat) (w : World) : Calls Tryd.prog 46 #[.int .u8 (a : Int), .int .u8 (b : Int)] w fun e w' =>
    e = .returned (.bool (togN a b)) ∧ Below w.heap.size w w' := by
  have HV := Lib.hid (show togN a b = if a = 1 ∨ a = 2 then (b == 1 || b == 2) else if a = 4 then b == 4 else false from by
    unfold togN oneW
    by_cases h1 : a = 1
    · subst h1; simp
    · by_cases h2 : a = 2
      · subst h2; simp
      · by_cases h4 : a = 4
        · subst h4; simp
        · simp [h1, h2, h4])
  obtain ⟨v, hv⟩ : ∃ v, togN a b = v := ⟨_, rfl⟩
  rw [hv] at HV ⊢
  clear hv
  go_enter Tryd.func46, Tryd.ntmps46
  by_cases h12 : a = 1 ∨ a = 2
  · have hV := HV.out
    rw [if_pos h12] at hV
    by_cases b1 : b = 1
    · have HV2 := Lib.hid (show v = true from by rw [hV]; simp [b1])
      have r1 : ((b : Int) == 1) = true := by simp [b1]
      clear hV HV b1
      rcases h12 with h | h
      all_goals
        subst h
        go_wp2_with fail
        go_ret
        exact ⟨by rw [HV2.out] <;> rfl, Below.refl _ _⟩
    · have r1 : ((b : Int) == 1) = false := by simp; omega
      by_cases b2 : b = 2
      · have HV2 := Lib.hid (show v = true from by rw [hV]; simp [b2])
        have r2 : ((b : Int) == 2) = true := by simp [b2]
        clear hV HV b1 b2
        rcases h12 with h | h
        all_goals
          subst h
          go_wp2_with fail
          go_ret
          exact ⟨by rw [HV2.out] <;> rfl, Below.refl _ _⟩
      · have HV2 := Lib.hid (show v = false from by rw [hV]; simp [b1, b2])
        have r2 : ((b : Int) == 2) = false := by simp; omega
        clear hV HV b1 b2
        rcases h12 with h | h
        all_goals
          subst h
          go_wp2_with fail
          go_ret
          exact ⟨by rw [HV2.out] <;> rfl, Below.refl _ _⟩
  · have hV := HV.out
    rw [if_neg h12] at hV
    have r1 : ¬ (a : Int) = 1 := by omega
    have r2 : ¬ (a : Int) = 2 := by omega
    clear h12 HV
    by_cases h4 : a = 4
    · rw [if_pos h4] at hV
      have r4 : (a : Int) = 4 := by omega
      by_cases b4 : b = 4
      · have HV2 := Lib.hid (show v = true from by rw [hV]; simp [b4])
        have s4 : ((b : Int) == 4) = true := by simp [b4]
        clear hV b4 h4
        go_wp2_with fail
        go_ret
        exact ⟨by rw [HV2.out] <;> rfl, Below.refl _ _⟩
      · have HV2 := Lib.hid (show v = false from by rw [hV]; simp [b4])
        have s4 : ((b : Int) == 4) = false := by simp; omega
        clear hV b4 h4
        go_wp2_with fail
        go_ret
        exact ⟨by rw [HV2.out] <;> rfl, Below.refl _ _⟩
    · rw [if_neg h4] at hV
      have r4 : ¬ (a : Int) = 4 := by omega
      have HV2 := Lib.hid hV
      clear hV h4
      go_wp2_with fail
      go_ret
      exact ⟨by rw [HV2.out] <;> rfl, Below.refl _ _⟩
set_option maxRecDepth 100000 in
set_option maxHeartbeats 4000000 in
theorem pjoined_any (c : ByteArray) (w : World) : Calls Tryd.prog 62 #[.string c] w fun e w' =>
    e = .returned (.int .u8 (jbW c : Nat)) ∧ Below w.heap.size w w' := by
  have HV := Lib.hid (show jbW c = if c = ⟨#[39]⟩ then 1 else if c = ⟨#[226, 128, 153]⟩ then 1 else if c = ⟨#[194, 183]⟩ then 1 else if c = ⟨#[58]⟩ then 1 else if c = ⟨#[46]⟩ then 2 else if c = ⟨#[44]⟩ then 2 else 0 from by
    unfold jbW
    repeat' split
    all_goals first | rfl | (exfalso; simp_all))
  obtain ⟨v, hv⟩ : ∃ v, jbW c = v := ⟨_, rfl⟩
  rw [hv] at HV ⊢
  clear hv
  have he : ∀ (x : ByteArray) (l : List UInt8), x ≠ ⟨l.toArray⟩ → (x.toList == l) = false := fun x l h => by
    rw [toList_data, beq_eq_false_iff_ne]
    exact fun e => h (by
      obtain ⟨a⟩ := x
      have e : a.toList = l := e
      rw [← e])
  go_enter Tryd.func62, Tryd.ntmps62
  by_cases h1 : c = ⟨#[39]⟩
  · have hV := HV.out
    rw [if_pos h1] at hV
    have HV2 := Lib.hid hV
    clear hV HV
    subst h1
    clear he
    go_wp2_with fail
    go_ret
    exact ⟨by rw [HV2.out]; rfl, Below.refl _ _⟩
  have g1 : (c.toList == [39]) = false := he c [39] h1
  by_cases h2 : c = ⟨#[226, 128, 153]⟩
  · have hV := HV.out
    rw [if_neg h1, if_pos h2] at hV
    have HV2 := Lib.hid hV
    clear hV HV
    subst h2
    clear he
    go_wp2_with fail
    go_ret
    exact ⟨by rw [HV2.out]; rfl, Below.refl _ _⟩
  have g2 : (c.toList == [226, 128, 153]) = false := he c [226, 128, 153] h2
  by_cases h3 : c = ⟨#[194, 183]⟩
  · have hV := HV.out
    rw [if_neg h1, if_neg h2, if_pos h3] at hV
    have HV2 := Lib.hid hV
    clear hV HV
    subst h3
    clear he
    go_wp2_with fail
    go_ret
    exact ⟨by rw [HV2.out]; rfl, Below.refl _ _⟩
  have g3 : (c.toList == [194, 183]) = false := he c [194, 183] h3
  by_cases h4 : c = ⟨#[58]⟩
  · have hV := HV.out
    rw [if_neg h1, if_neg h2, if_neg h3, if_pos h4] at hV
    have HV2 := Lib.hid hV
    clear hV HV
    subst h4
    clear he
    go_wp2_with fail
    go_ret
    exact ⟨by rw [HV2.out]; rfl, Below.refl _ _⟩
  have g4 : (c.toList == [58]) = false := he c [58] h4
  by_cases h5 : c = ⟨#[46]⟩
  · have hV := HV.out
    rw [if_neg h1, if_neg h2, if_neg h3, if_neg h4, if_pos h5] at hV
    have HV2 := Lib.hid hV
    clear hV HV
    subst h5
    clear he
    go_wp2_with fail
    go_ret
    exact ⟨by rw [HV2.out]; rfl, Below.refl _ _⟩
  have g5 : (c.toList == [46]) = false := he c [46] h5
  by_cases h6 : c = ⟨#[44]⟩
  · have hV := HV.out
    rw [if_neg h1, if_neg h2, if_neg h3, if_neg h4, if_neg h5, if_pos h6] at hV
    have HV2 := Lib.hid hV
    clear hV HV
    subst h6
    clear he
    go_wp2_with fail
    go_ret
    exact ⟨by rw [HV2.out]; rfl, Below.refl _ _⟩
  have g6 : (c.toList == [44]) = false := he c [44] h6
  have hV := HV.out
  rw [if_neg h1, if_neg h2, if_neg h3, if_neg h4, if_neg h5, if_neg h6] at hV
  have HV2 := Lib.hid hV
  clear hV HV
  go_wp2_with fail
  go_ret
  exact ⟨by rw [HV2.out]; rfl, Below.refl _ _⟩
theorem pinto_any (s : ByteArray) (q : Int) (w : World) (hs : s.size ≤ 1073741824) : Calls Tryd.prog 28 #[.string s, .int .i64 q] w fun e w' =>
    e = .returned (.int .i64 (intoW s q : Nat)) ∧ Below w.heap.size w w' := by
  have hi := intoW_is s q
  go_enter Tryd.func28, Tryd.ntmps28
  go_wp2_with fail
  go_ret
  exact ⟨rfl, Below.refl _ _⟩
end Go.Proofs.YtiafofekobcifaaDoor

/- Layer 12, the program: the sort of a cluster where it stands. -/
namespace Go.Proofs.YtiafofekobcifaaDoor
open Go.RowKit Go.Shelf Go.Lib
attribute [local go_sem] Oper.semAt_some

theorem pS_jb (a j : Nat) (h : j = 1 ∨ j = 2) : pS a = j ↔ a = j := by unfold pS; split <;> omega
set_option maxRecDepth 100000 in
set_option maxHeartbeats 4000000 in
theorem psortin_any (s : ByteArray) (i : Nat) (x : Nat × ByteArray) (p P : Nat) (hx : (pcs s)[i]? = some x) (hp : x.1 = p) (hP : x.1 + x.2.size = P) (w : World) (hs : s.size ≤ 1073741824) (hT : Utf8Tabs 0 1 w) :
    Calls Tryd.prog 45 #[.string s, .int .i64 (p : Int), .int .i64 (P : Int)] w fun e w' => e = .returned (.int .u8 (tagW (MW s) i : Nat)) ∧ Below w.heap.size w w' := by
  have hc := pcs_chain s i x hx
  have ht := pcs_text hx
  rw [hP, hp] at ht
  obtain ⟨hal, has⟩ := ahead_sort s i x hx
  have hbs := behind_sort s i x hx
  rw [hp] at hal has
  rw [hP] at hbs
  have hcu := cu_get hx
  have hso := so_get hx
  have HV := Lib.hid (show tagW (MW s) i = if jbW x.2 = 0 then pS (sortN x.2) else if pS (sortN (s.extract (p - clLast (s.extract 0 p)) p)) = jbW x.2 then (if pS (sortN (s.extract P s.size)) = jbW x.2 then jbW x.2 else 5) else 5 from by
    unfold tagW
    rw [hcu, hso, has, hbs]
    rcases jb_range x.2 with h | h
    · rw [if_pos h, if_pos h]
    · have h0 : jbW x.2 ≠ 0 := by omega
      rw [if_neg h0, if_neg h0]
      have eA : (pS (if i = 0 then 0 else soW (MW s) (i - 1)) = jbW x.2) ↔ (0 < i ∧ soW (MW s) (i - 1) = jbW x.2) := by
        rw [pS_jb _ _ h]
        by_cases h1 : i = 0
        · rw [if_pos h1]; omega
        · rw [if_neg h1]; omega
      have eB := pS_jb (soW (MW s) (i + 1)) _ h
      by_cases hA : 0 < i ∧ soW (MW s) (i - 1) = jbW x.2
      · rw [if_pos (eA.2 hA)]
        by_cases hB : soW (MW s) (i + 1) = jbW x.2
        · rw [if_pos ⟨hA.1, hA.2, hB⟩, if_pos (eB.2 hB)]
        · rw [if_neg (fun e => hB e.2.2), if_neg (fun e => hB (eB.1 e))]
      · rw [if_neg (fun e => hA (eA.1 e)), if_neg (fun e => hA ⟨e.1, e.2.1⟩)])
  have HJ := Lib.hid (fun W => pjoined_any x.2 W)
  have HT := Lib.hid hT
  have HSo := Lib.hid (fun c W hT => psort_any c W hT)
  have hs0 : (s.extract 0 p).size ≤ 1073741824 := by rw [ByteArray.size_extract]; omega
  have HL := Lib.hid (fun W hT => clast_any (s.extract 0 p) W hs0 hT)
  obtain ⟨L, hL⟩ : ∃ L, clLast (s.extract 0 p) = L := ⟨_, rfl⟩
  rw [hL] at HL HV hal
  obtain ⟨v, hv⟩ : ∃ v, tagW (MW s) i = v := ⟨_, rfl⟩
  rw [hv] at HV ⊢
  obtain ⟨j, hj⟩ : ∃ j, jbW x.2 = j := ⟨_, rfl⟩
  rw [hj] at HV HJ
  rw [ht] at HV HJ
  have hps : (p : Int) ≤ (s.size : Int) := by omega
  have hPs : (P : Int) ≤ (s.size : Int) := by omega
  have hpP : (p : Int) ≤ (P : Int) := by omega
  have hp0 : (0 : Int) ≤ (p : Int) := by omega
  have hw1 : IntKind.i64.wrap ((p : Int) - (L : Int)) = ((p - L : Nat) : Int) := by rw [IntWalk.i64_in _ (by omega)]; omega
  have hq1 : ((p - L : Nat) : Int) ≤ (p : Int) := by omega
  have hq2 : ((p - L : Nat) : Int) ≤ (s.size : Int) := by omega
  clear hc ht has hbs hcu hso hv hj hL hT hx hp hP hs0 hal
  go_enter Tryd.func45, Tryd.ntmps45
  go_wp2_with fail
  refine (HJ.out _).mono ?_
  rintro _ w1 ⟨rfl, b1⟩
  have B1 := Lib.hid b1
  have T1 := Lib.hid (Utf8Tabs_below HT.out b1)
  clear b1 HJ HT
  by_cases hj0 : j = 0
  · have hV := HV.out
    rw [if_pos hj0] at hV
    have HV2 := Lib.hid hV
    subst hj0
    clear hV HV
    go_wp2_with fail
    refine (HSo.out _ _ T1.out).mono ?_
    rintro _ w2 ⟨rfl, b2⟩
    have B2 := Lib.hid (B1.out.trans (b2.mono B1.out.size))
    clear b2 B1 HSo
    go_wp2_with fail
    go_ret
    exact ⟨by rw [HV2.out] <;> rfl, B2.out⟩
  have hV := HV.out
  rw [if_neg hj0] at hV
  have HV2 := Lib.hid hV
  have q0 : ¬ (j : Int) = 0 := by omega
  clear hV HV hj0
  go_wp2_with fail
  refine (HL.out _ T1.out).mono ?_
  rintro _ w2 ⟨rfl, b2⟩
  have B2 := Lib.hid (B1.out.trans (b2.mono B1.out.size))
  have T2 := Lib.hid (Utf8Tabs_below T1.out b2)
  clear b2 B1 T1 HL
  go_wp2_with fail
  refine (HSo.out _ _ T2.out).mono ?_
  rintro _ w3 ⟨rfl, b3⟩
  have B3 := Lib.hid (B2.out.trans (b3.mono B2.out.size))
  have T3 := Lib.hid (Utf8Tabs_below T2.out b3)
  clear b3 B2 T2
  obtain ⟨a, ha⟩ : ∃ a, pS (sortN (s.extract (p - L) p)) = a := ⟨_, rfl⟩
  rw [ha] at HV2
  rw [ha]
  by_cases haj : a = j
  · have hV := HV2.out
    rw [if_pos haj] at hV
    have HV3 := Lib.hid hV
    clear hV HV2 ha
    subst haj
    go_wp2_with fail
    refine (HSo.out _ _ T3.out).mono ?_
    rintro _ w4 ⟨rfl, b4⟩
    have B4 := Lib.hid (B3.out.trans (b4.mono B3.out.size))
    clear b4 B3 T3
    obtain ⟨b, hb⟩ : ∃ b, pS (sortN (s.extract P s.size)) = b := ⟨_, rfl⟩
    rw [hb] at HV3
    rw [hb]
    by_cases hba : b = a
    · have HV4 := Lib.hid (show v = a from by rw [HV3.out, if_pos hba])
      subst hba
      clear HV3 hb
      go_wp2_with fail
      go_ret
      exact ⟨by rw [HV4.out] <;> rfl, B4.out⟩
    · have HV4 := Lib.hid (show v = 5 from by rw [HV3.out, if_neg hba])
      have qb : ¬ (b : Int) = (a : Int) := by omega
      clear HV3 hb hba
      go_wp2_with fail
      go_ret
      exact ⟨by rw [HV4.out]; rfl, B4.out⟩
  · have HV4 := Lib.hid (show v = 5 from by rw [HV2.out, if_neg haj])
    have qa : ¬ (a : Int) = (j : Int) := by omega
    clear HV2 ha haj
    go_wp2_with fail
    go_ret
    exact ⟨by rw [HV4.out]; rfl, B3.out⟩
end Go.Proofs.YtiafofekobcifaaDoor

/- Layer 12, the program: the segments read onward from a border of segments: the iterator's contract. -/
namespace Go.Proofs.YtiafofekobcifaaDoor
open Go.RowKit Go.Shelf Go.Lib
attribute [local go_sem] Oper.semAt_some

theorem on_mk (s : ByteArray) (p : Int) (w : World) : Calls Tryd.prog 27 #[.string s, .int .i64 p] w fun e w' =>
    e = .returned (.func (.func 43) #[] #[.pointer (some ⟨w.heap.size + 1, 0, none⟩), .pointer (some ⟨w.heap.size, 0, none⟩)]) ∧ w' = (w.alloc (.cells #[.string s] 9)).alloc (.cells #[.int .i64 p] 3) := by
  go_enter Tryd.func27, Tryd.ntmps27
  go_wp2
  go_ret
  exact ⟨by simp, rfl⟩
/-- the clusters of what stands behind a border -/
theorem rest_pcs (s : ByteArray) (n i p : Nat) (h : BordWd s n i p) : (pcs (s.extract p s.size)).length = (pcs s).length - i ∧
    ∀ (j : Nat) (y : Nat × ByteArray), (pcs (s.extract p s.size))[j]? = some y → ∃ x, (pcs s)[i + j]? = some x ∧ x.2 = y.2 ∧ x.1 = p + y.1 := by
  obtain ⟨k, hk, hd, hp⟩ := h.hb
  obtain ⟨hl, hc⟩ := drop_cut s k hk
  rw [hp, ← hd] at hl hc
  rw [List.length_drop] at hl
  refine ⟨hl, fun j y hy => ?_⟩
  have hj := (List.getElem?_eq_some_iff.1 hy).1
  obtain ⟨x, hx⟩ : ∃ x, ((pcs s).drop i)[j]? = some x := ⟨_, List.getElem?_eq_getElem (by rw [List.length_drop]; omega)⟩
  obtain ⟨h1, h2⟩ := hc j x y hx hy
  rw [List.getElem?_drop] at hx
  exact ⟨x, hx, h1, by omega⟩
/-- the sort that the iterator has seen last, when it has gone over j clusters behind the border -/
def lasW (s : ByteArray) (i : Nat) : Nat → Nat
  | 0 => 0
  | j + 1 => tagW (MW s) (i + j)
theorem word_below {s : ByteArray} {n i p : Nat} (h : BordWd s n i p) (hs : s.size ≤ 1073741824) : p ≤ s.size := hbw_le s i p h.hb
theorem bord_first {s : ByteArray} {n i p : Nat} {x : Nat × ByteArray} (h : BordWd s n i p) (hx : (pcs s)[i]? = some x) : x.1 = p := by
  obtain ⟨k, hk, hd, hp⟩ := h.hb
  obtain ⟨_, hy⟩ := drop_at s i k hd (List.getElem?_eq_some_iff.1 hx).1
  rw [hx] at hy
  obtain rfl := Option.some.inj hy
  exact hp
theorem bord_end {s : ByteArray} {n i p : Nat} (h : BordWd s n i p) (hi : (pcs s).length ≤ i) : p = s.size ∧ (wds s).drop n = [] := by
  obtain ⟨k, hk, hd, hp⟩ := h.hb
  have h1 : (pcs s).drop i = [] := List.drop_eq_nil_of_le hi
  have h2 := drop_none s k hk (by rw [List.drop_length, ← hd]; exact h1.symm)
  refine ⟨by rw [← hp, h2, placeAt_all], ?_⟩
  rw [h.behind, h1]
  rfl
theorem sort_info : (Tryd.prog.info? 61).map (fun i => (i.zero, i.size, i.bytes)) = some (some (.int .u8 0), 1, 1) := by kernel_rfl
/-- what holds between rounds: j clusters are gone over -/
structure OnI (s : ByteArray) (i p l B Bn Bm S : Nat) (J : List (Nat × ByteArray) → Bl → World → Prop) (j : Nat) (T : Bl) (W : World) : Prop where
  yl : Boxed W B 60 (.func (.yield l) #[] #[])
  cn : W.cell? ⟨Bn, 0, none⟩ = some (.int .i64 (p : Int))
  cm : W.cell? ⟨Bm, 0, none⟩ = some (.string s)
  u8 : Utf8Tabs 0 1 W
  sz : S ≤ W.heap.size
  fr : Boxed W (B + 1) 3 (.int .i64 ((froW s i p (j - 1) : Nat) : Int))
  la : Boxed W (B + 1 + 1) 61 (.int .u8 ((lasW s i j : Nat) : Int))
  jj : J (tolW s i p (j - 1)) (fun k => (B ≤ k ∧ k < B + 4) ∨ T k) W
set_option maxRecDepth 100000 in
set_option maxHeartbeats 4000000 in
theorem seqOn (n : Nat) (hn : 5 ≤ n) (Bn Bm : Nat) (N₀ : Bl) (s : ByteArray) (u i p : Nat) (hbd : BordWd s u i p) (w : World) (hBn : N₀ Bn) (hBm : N₀ Bm) (hN0 : N₀ 0) (hN1 : N₀ 1)
    (hc : w.cell? ⟨Bn, 0, none⟩ = some (.int .i64 (p : Int))) (hcs : w.cell? ⟨Bm, 0, none⟩ = some (.string s)) (hs : s.size ≤ 1073741824) (hT : Utf8Tabs 0 1 w) :
    SeqN Fence.wide n Tryd.prog 43 #[.pointer (some ⟨Bn, 0, none⟩), .pointer (some ⟨Bm, 0, none⟩)] encCl (fun ys => ys = (wds s).drop u) (fun pre => pre <+: (wds s).drop u) ((wds s).drop u).length N₀ w := by
  intro l J Jx W hW hJ hJx hY h0
  have hcW : W.cell? ⟨Bn, 0, none⟩ = some (.int .i64 (p : Int)) := (hW.cell (p := ⟨Bn, 0, none⟩) (cell_ltN hc)).trans hc
  have hcM : W.cell? ⟨Bm, 0, none⟩ = some (.string s) := (hW.cell (p := ⟨Bm, 0, none⟩) (cell_ltN hcs)).trans hcs
  have hTW : Utf8Tabs 0 1 W := Utf8Tabs_below hT hW
  have h2 := tabs_size hTW
  obtain ⟨B, hB⟩ : ∃ B, W.heap.size = B := ⟨_, rfl⟩
  have hBnB : Bn < B := by rw [← hB]; exact cell_ltN hcW
  have hBmB : Bm < B := by rw [← hB]; exact cell_ltN hcM
  rw [hB] at hJ hJx hY h2 ⊢
  have Hy := Lib.hid hY
  have HTW := Lib.hid hTW
  have hps : p ≤ s.size := hbw_le s i p hbd.hb
  obtain ⟨rs, hrs⟩ : ∃ rs, s.extract p s.size = rs := ⟨_, rfl⟩
  have hrz : rs.size ≤ 1073741824 := by rw [← hrs, ByteArray.size_extract]; omega
  obtain ⟨hrl, hrp⟩ := rest_pcs s u i p hbd
  rw [hrs] at hrl hrp
  have Hrp := Lib.hid hrp
  have Hbd := Lib.hid hbd
  have Ham := Lib.hid (fun W => cl_mk rs W)
  have HSI := Lib.hid (fun j x q P hx hp hP W hT => psortin_any s j x q P hx hp hP W hs hT)
  have HTg := Lib.hid (fun a b W => ptog_any a b W)
  have hpsI : (p : Int) ≤ (s.size : Int) := by omega
  have hp0 : (0 : Int) ≤ (p : Int) := by omega
  clear hc hcs hW hT hY hTW hrp hbd
  obtain ⟨ii, hii, hiz0, hiz1, hiz2⟩ := info_parts sort_info
  refine callsIn_of_wp_marks Tryd.func43 rfl trivial ?_ rfl
  refine wpIn_wide.2 ?_
  simp only [Tryd.ntmps43, List.size_toArray, List.length_cons, List.length_nil, Nat.reduceAdd, Nat.reduceSub, Array.replicate_succ, Array.replicate_zero, List.push_toArray, List.append_toArray, List.nil_append, List.cons_append]
  obtain ⟨W3, hW3⟩ : ∃ W3, ((W.alloc (.cells #[.func (.yield l) #[] #[]] 60)).alloc (.cells #[.int .i64 0] 3)).alloc (.cells #[.int .u8 0] 61) = W3 := ⟨_, rfl⟩
  have d0 : Boxed W3 B 60 (.func (.yield l) #[] #[]) := by
    rw [← hW3]
    have h := Boxed.new W 60 (.func (.yield l) #[] #[])
    rw [hB] at h
    exact (h.alloc _).alloc _
  have d1 : Boxed W3 (B + 1) 3 (.int .i64 0) := by
    rw [← hW3]
    have h := Boxed.new (W.alloc (.cells #[.func (.yield l) #[] #[]] 60)) 3 (.int .i64 0)
    rw [World.size_alloc, hB] at h
    exact h.alloc _
  have d2 : Boxed W3 (B + 1 + 1) 61 (.int .u8 0) := by
    rw [← hW3]
    have h := Boxed.new ((W.alloc (.cells #[.func (.yield l) #[] #[]] 60)).alloc (.cells #[.int .i64 0] 3)) 61 (.int .u8 0)
    rw [World.size_alloc, World.size_alloc, hB] at h
    exact h
  have z3 : W3.heap.size = B + 3 := by rw [← hW3]; simp [hB]
  have r3 : Below B W W3 := by
    rw [← hW3]
    exact (((Below.refl B W).alloc (by omega) _).alloc (by simp; omega) _).alloc (by simp; omega) _
  have d1c := d1.cell
  have d1f := d1.frozen
  obtain ⟨W4, hW4⟩ : ∃ W4, W3.setCell ⟨B + 1, 0, none⟩ (.int .i64 (p : Int)) = W4 := ⟨_, rfl⟩
  have e0 : Boxed W4 B 60 (.func (.yield l) #[] #[]) := by rw [← hW4]; exact d0.other (by omega) _
  have e1 : Boxed W4 (B + 1) 3 (.int .i64 (p : Int)) := by rw [← hW4]; exact d1.set _
  have e2 : Boxed W4 (B + 1 + 1) 61 (.int .u8 0) := by rw [← hW4]; exact d2.other (by omega) _
  have r4 : Below B W W4 := by rw [← hW4]; exact r3.setCell (p := ⟨B + 1, 0, none⟩) (by show B ≤ B + 1; omega) _
  have z4 : W4.heap.size = B + 3 := by rw [← hW4]; simp [z3]
  have e2c := e2.cell
  have e2f := e2.frozen
  obtain ⟨W5, hW5⟩ : ∃ W5, W4.setCell ⟨B + 1 + 1, 0, none⟩ (.int .u8 0) = W5 := ⟨_, rfl⟩
  have g0 : Boxed W5 B 60 (.func (.yield l) #[] #[]) := by rw [← hW5]; exact e0.other (by omega) _
  have g1 : Boxed W5 (B + 1) 3 (.int .i64 (p : Int)) := by rw [← hW5]; exact e1.other (by omega) _
  have g2 : Boxed W5 (B + 1 + 1) 61 (.int .u8 ((lasW s i 0 : Nat) : Int)) := by rw [← hW5]; exact e2.set _
  have r5 : Below B W W5 := by rw [← hW5]; exact r4.setCell (p := ⟨B + 1 + 1, 0, none⟩) (by show B ≤ B + 1 + 1; omega) _
  have z5 : W5.heap.size = B + 3 := by rw [← hW5]; simp [z4]
  have n5 : W5.cell? ⟨Bn, 0, none⟩ = some (.int .i64 (p : Int)) := (r5.cell (p := ⟨Bn, 0, none⟩) hBnB).trans hcW
  have m5 : W5.cell? ⟨Bm, 0, none⟩ = some (.string s) := (r5.cell (p := ⟨Bm, 0, none⟩) hBmB).trans hcM
  clear d0 d1 d2 e0 e1 e2
  go_wp2_with fail
  refine wp_scope_straight ?_
  go_wp2_with fail
  refine wp_label ?_
  go_wp2_with fail
  refine (Ham.out _).mono ?_
  rintro _ Wa ⟨rfl, hWa⟩
  have b0 : Boxed Wa B 60 (.func (.yield l) #[] #[]) := by rw [hWa]; exact g0.alloc _
  have b1 : Boxed Wa (B + 1) 3 (.int .i64 (p : Int)) := by rw [hWa]; exact g1.alloc _
  have b2 : Boxed Wa (B + 1 + 1) 61 (.int .u8 ((lasW s i 0 : Nat) : Int)) := by rw [hWa]; exact g2.alloc _
  have hsz : Wa.heap.size = B + 4 := by rw [hWa, World.size_alloc, z5]
  have b3 : Boxed Wa (B + 1 + 1 + 1) 9 (.string rs) := by
    have h := Boxed.new W5 9 (.string rs)
    rw [z5, ← hWa] at h
    exact h
  have hBa : Below B W Wa := by rw [hWa]; exact r5.alloc (by omega) _
  clear hW3 hW4 hW5 g0 g1 g2 d1c d1f e2c e2f n5 m5 r3 r4 r5 z3 z4
  have hca : Wa.cell? ⟨Bn, 0, none⟩ = some (.int .i64 (p : Int)) := (hBa.cell (p := ⟨Bn, 0, none⟩) hBnB).trans hcW
  have hcma : Wa.cell? ⟨Bm, 0, none⟩ = some (.string s) := (hBa.cell (p := ⟨Bm, 0, none⟩) hBmB).trans hcM
  have hTa : Utf8Tabs 0 1 Wa := Utf8Tabs_below HTW.out (by rw [hB]; exact hBa)
  have hJa : J [] (fun k => B ≤ k ∧ k < B + 4) Wa := hJ _ _ _ _ _ h0 (fun _ h => h.elim) (.of_below _ (by rw [hB]; exact hBa)) ⟨fun _ h => h.elim, fun k hk => .inr (by omega)⟩
  clear hWa
  go_wp2_with fail
  refine (wpIn_wide (n := n)).1 ?_
  refine range_N1 rfl (by omega) (gf := 60) (lb := #[.pointer (some ⟨B + 1 + 1 + 1, 0, none⟩)]) rfl trivial (enters_of Tryd.func60 (by kernel_rfl) rfl)
    (seqCl (n - 1) (by omega) (B + 1 + 1 + 1) (fun k => (N₀ k ∧ k < B) ∨ k = B + 1 + 1 + 1) rs Wa (.inr rfl) (.inl ⟨hN0, by omega⟩) (.inl ⟨hN1, by omega⟩) b3.cell hrz hTa) (fun k hk => by omega) (fun _ => rfl)
    (fun pre T W' => OnI s i p l B Bn Bm (B + 4) J pre.length T W')
    (fun c pre T W' => c = .ret ∧ (B + 4) ≤ W'.heap.size ∧ ∃ q, q <+: (wds s).drop u ∧ Jx q (fun k => (B ≤ k ∧ k < B + 4) ∨ T k) W')
    ?hI ?hIx
    ⟨b0, hca, hcma, hTa, by omega, by rw [show ([] : List (Nat × ByteArray)).length - 1 = 0 from rfl, fro_zero]; exact b1, b2, by rw [show ([] : List (Nat × ByteArray)).length - 1 = 0 from rfl, tol_zero]; exact hJ _ _ _ _ _ hJa (fun k hk => by omega) (.refl _ _) ⟨fun k hk => .inl hk, fun k hk => .inl (hk.elim id False.elim)⟩⟩
    ?a1 ?assign ?body ?done ?stop
  case assign =>
    intro l x W K hK
    gi_wp2
    exact hK
  case hI =>
    rintro pre T T' A A' h hT hm hg
    have hlow : ∀ k, k < B + 4 → A'.heap[k]? = A.heap[k]? := fun k hk => hm.block k (by have := h.sz; omega) (fun e => by have := (hT _ e).1; omega)
    have hbl : KeepN (fun k => k < B + 4) (fun _ => False) A A' := ⟨hm.size, fun k _ hk => hlow k (hk.elim id False.elim)⟩
    refine ⟨(hlow _ (by omega)).trans h.yl, hbl.cell (p := ⟨Bn, 0, none⟩) (.inl (show Bn < B + 4 by omega)) h.cn, hbl.cell (p := ⟨Bm, 0, none⟩) (.inl (show Bm < B + 4 by omega)) h.cm, hbl.u8 (.inl (by omega)) (.inl (by omega)) h.u8, Nat.le_trans h.sz hm.size, (hlow _ (by omega)).trans h.fr, (hlow _ (by omega)).trans h.la, ?_⟩
    refine hJ _ _ _ _ _ h.jj (fun k hk => ?_) (hm.mono fun k hk => .inr hk) ⟨fun k hk => hk.imp id (hg.1 k), fun k hk => ?_⟩
    · have := h.sz
      rcases hk with hk | hk
      · omega
      · have := hT k hk; omega
    · rcases hk with hk | hk
      · exact .inl (.inl hk)
      · exact (hg.2 k hk).imp .inr id
  case hIx =>
    rintro cd pre T T' A A' ⟨rfl, hsA, q, hq, h9⟩ hT hm hg
    refine ⟨rfl, Nat.le_trans hsA hm.size, q, hq, hJx _ _ _ _ _ h9 (fun k hk => ?_) (hm.mono fun k hk => .inr hk) ⟨fun k hk => hk.imp id (hg.1 k), fun k hk => ?_⟩⟩
    · rcases hk with hk | hk
      · omega
      · have := hT k hk; omega
    · rcases hk with hk | hk
      · exact .inl (.inl hk)
      · exact (hg.2 k hk).imp .inr id
  case body =>
    rintro l1 pre y T W1 hl1 hT1 hr1 hi hlen hsp
    have hget := prefix_get hsp
    obtain ⟨j, hj⟩ : ∃ j, pre.length = j := ⟨_, rfl⟩
    rw [hj] at hget hi hlen
    obtain ⟨x, hx, hx2, hx1⟩ := Hrp.out j y hget
    have hplen : (pre ++ [y]).length = j + 1 := by simp [hj]
    have hxc := pcs_chain s _ x hx
    have hxl := (List.getElem?_eq_some_iff.1 hx).1
    obtain ⟨q, hq⟩ : ∃ q, x.1 = q := ⟨_, rfl⟩
    obtain ⟨Q, hQ⟩ : ∃ Q, x.1 + x.2.size = Q := ⟨_, rfl⟩
    have hyz : y.2.size = x.2.size := by rw [hx2]
    have hw1 : IntKind.i64.wrap ((p : Int) + (y.1 : Int)) = (q : Int) := by rw [IntWalk.i64_in _ (by omega)]; omega
    have hw2 : IntKind.i64.wrap ((q : Int) + (y.2.size : Int)) = (Q : Int) := by rw [IntWalk.i64_in _ (by omega)]; omega
    have hqs : q < s.size := by omega
    have hpq : p ≤ q := by omega
    have hcs := Lib.hid (HSI.out (i + j) x q Q hx hq hQ W1 hi.u8)
    have hn1 : 1 ≤ n - 1 - 1 := by omega
    have c0 := hi.yl.cell
    have c1 := hi.fr.cell
    have c2 := hi.la.cell
    have cn := hi.cn
    have cm := hi.cm
    have hs1 := hi.sz
    have Hi := Lib.hid hi
    clear hi hx1 hxc hyz
    gi_wp2_with fail
    refine ⟨trivial, (CallsIn.inRound l1 (callsIn_wide.2 hcs.out)).mono ?_⟩
    rintro _ w3 ⟨rfl, b3⟩
    have hs3 := b3.size
    obtain ⟨t, ht⟩ : ∃ t, tagW (MW s) (i + j) = t := ⟨_, rfl⟩
    rw [ht]
    have k2 := boxed_below Hi.out.la b3
    have k2c := k2.cell
    have k2f := k2.frozen
    have m2 : Boxed (w3.setCell ⟨B + 1 + 1, 0, none⟩ (.int .u8 (t : Int))) (B + 1 + 1) 61 (.int .u8 (t : Int)) := k2.set _
    have m1 : Boxed (w3.setCell ⟨B + 1 + 1, 0, none⟩ (.int .u8 (t : Int))) (B + 1) 3 (.int .i64 ((froW s i p (j - 1) : Nat) : Int)) := (boxed_below Hi.out.fr b3).other (by omega) _
    have m0 : Boxed (w3.setCell ⟨B + 1 + 1, 0, none⟩ (.int .u8 (t : Int))) B 60 (.func (.yield l) #[] #[]) := (boxed_below Hi.out.yl b3).other (by omega) _
    have hkN : KeepN (fun k => (N₀ k ∧ k < B) ∨ k = B + 1 + 1 + 1) T W1 (w3.setCell ⟨B + 1 + 1, 0, none⟩ (.int .u8 (t : Int))) := (KeepN.of_below _ _ b3).trans (KeepN.setCell _ _ _ _ _ _ (by omega) (fun e => by have := (hT1 _ e).1; omega))
    have hmv : Moves (fun k => (B ≤ k ∧ k < B + 4) ∨ T k) W1 (w3.setCell ⟨B + 1 + 1, 0, none⟩ (.int .u8 (t : Int))) :=
      (Moves.of_below _ b3).trans' ⟨rfl, rfl, rfl, by simp, fun k _ hk => Below.heap_setCell _ _ _ k (fun e => hk (.inl (by have e : k = B + 1 + 1 := e; omega)))⟩
    obtain ⟨W4, hW4⟩ : ∃ W4, w3.setCell ⟨B + 1 + 1, 0, none⟩ (.int .u8 (t : Int)) = W4 := ⟨_, rfl⟩
    rw [hW4] at m2 m1 m0 hkN hmv
    have hin1 : InT B (fun k => (B ≤ k ∧ k < B + 4) ∨ T k) W1 := fun k hk => by
      rcases hk with hk | hk
      · omega
      · have := hT1 k hk; omega
    have hin4 : InT B (fun k => (B ≤ k ∧ k < B + 4) ∨ T k) W4 := hin1.more hmv.size
    have J4 := hJ.of Hi.out.jj hin1 hmv
    have n4 : W4.cell? ⟨Bn, 0, none⟩ = some (.int .i64 (p : Int)) := hkN.cell (p := ⟨Bn, 0, none⟩) (.inl (.inl ⟨hBn, hBnB⟩)) cn
    have p4 : W4.cell? ⟨Bm, 0, none⟩ = some (.string s) := hkN.cell (p := ⟨Bm, 0, none⟩) (.inl (.inl ⟨hBm, hBmB⟩)) cm
    have u4 := Lib.hid (hkN.u8 (.inl (.inl ⟨hN0, by omega⟩)) (.inl (.inl ⟨hN1, by omega⟩)) Hi.out.u8)
    have s4 : (B + 4) ≤ W4.heap.size := Nat.le_trans hs1 hmv.size
    have m0c := m0.cell
    have m1c := m1.cell
    have m2c := m2.cell
    have hla : lasW s i (j + 1) = t := ht
    cases j with
    | zero =>
      have hqp : ((q : Int) == (p : Int)) = true := by have := bord_first Hbd.out hx; simp; omega
      have Hfin : Hid (KeepN (fun k => (N₀ k ∧ k < B) ∨ k = B + 1 + 1 + 1) T W1 W4 ∧ OnI s i p l B Bn Bm (B + 4) J (pre ++ [y]).length T W4) := Lib.hid ⟨hkN, by
        rw [hplen]
        exact ⟨m0, n4, p4, u4.out, s4, m1, by rw [hla]; exact m2, J4⟩⟩
      clear m0 m1 m2 hkN hmv J4 b3 k2 Hi hcs hin4 hin1
      gi_wp2_with fail
      refine ⟨trivial, ?_⟩
      gi_wp2_with fail
      exact Hfin.out
    | succ j =>
      obtain ⟨x0, hx0⟩ : ∃ x0, (pcs s)[i + j]? = some x0 := ⟨_, List.getElem?_eq_getElem (by omega)⟩
      have hnx := pcs_next hx0 (y := x) (by rw [show i + j + 1 = i + (j + 1) by omega]; exact hx)
      have hbl := hbw_below s i j p x0 Hbd.out.hb hx0
      have hx0c := pcs_chain s _ x0 hx0
      have hqp : ((q : Int) == (p : Int)) = false := by simp; omega
      have hq0 : x0.1 + x0.2.size = q := by omega
      have htg : togN (lasW s i (j + 1)) t = goesW (MW s) (i + j) := by
        rw [← ht, show i + (j + 1) = i + j + 1 by omega]
        exact (goes_tag (MW s) (i + j) (by rw [mw_len]; omega)).symm
      have hTo := tol_next s i p j x0 hx0
      have hFr := fro_next s i p j x0 hx0
      have hFl := fro_le s i p Hbd.out.hb j x0 hx0
      rw [hq0] at hTo hFr
      rw [Nat.add_sub_cancel] at m1 m1c J4
      obtain ⟨f, hf⟩ : ∃ f, froW s i p j = f := ⟨_, rfl⟩
      rw [hf] at m1 m1c hTo hFr hFl
      have HcT := Lib.hid (HTg.out (lasW s i (j + 1)) t)
      have M0 := Lib.hid m0
      have M1 := Lib.hid m1
      have M2 := Lib.hid m2
      have HkN := Lib.hid hkN
      have HJ4 := Lib.hid J4
      clear m0 m1 m2 hkN hmv J4 b3 k2 Hi hcs hin1 hnx hbl hx0c ht
      gi_wp2_with fail
      refine ⟨trivial, (CallsIn.inRound l1 (callsIn_wide.2 (HcT.out W4))).mono ?_⟩
      rintro _ w5 ⟨rfl, b5⟩
      rw [htg]
      have hs5 := b5.size
      have m0 := boxed_below M0.out b5
      have m1 := boxed_below M1.out b5
      have m2 := boxed_below M2.out b5
      have hkN : KeepN (fun k => (N₀ k ∧ k < B) ∨ k = B + 1 + 1 + 1) T W1 w5 := HkN.out.trans (KeepN.of_below _ _ b5)
      have n5 : w5.cell? ⟨Bn, 0, none⟩ = some (.int .i64 (p : Int)) := (b5.cell (p := ⟨Bn, 0, none⟩) (show Bn < W4.heap.size by omega)).trans n4
      have p5 : w5.cell? ⟨Bm, 0, none⟩ = some (.string s) := (b5.cell (p := ⟨Bm, 0, none⟩) (show Bm < W4.heap.size by omega)).trans p4
      have u5 := Lib.hid (Utf8Tabs_below u4.out b5)
      have s5 : (B + 4) ≤ w5.heap.size := Nat.le_trans s4 hs5
      have hmv : Moves (fun k => (B ≤ k ∧ k < B + 4) ∨ T k) W4 w5 := Moves.of_below _ b5
      have J5 := hJ.of HJ4.out hin4 hmv
      have hin5 : InT B (fun k => (B ≤ k ∧ k < B + 4) ∨ T k) w5 := hin4.more hmv.size
      clear M0 M1 M2 HkN HJ4 hmv HcT m0c m1c n4 p4 u4 b5 hin4
      by_cases hg : goesW (MW s) (i + j) = true
      · rw [hg]
        rw [if_pos hg] at hFr hTo
        rw [List.append_nil] at hTo
        have Hfin : Hid (KeepN (fun k => (N₀ k ∧ k < B) ∨ k = B + 1 + 1 + 1) T W1 w5 ∧ OnI s i p l B Bn Bm (B + 4) J (pre ++ [y]).length T w5) := Lib.hid ⟨hkN, by
          rw [hplen]
          exact ⟨m0, n5, p5, u5.out, s5, by rw [Nat.add_sub_cancel, hFr]; exact m1, by rw [hla]; exact m2, by rw [Nat.add_sub_cancel, hTo]; exact J5⟩⟩
        clear m0 m1 m2 hkN J5 hin5
        gi_wp2_with fail
        exact Hfin.out
      · have hgf : goesW (MW s) (i + j) = false := by simpa using hg
        rw [hgf]
        rw [if_neg hg] at hFr hTo
        have hpfx := tol_prefix s u i p (j + 1) Hbd.out
        rw [hTo] at hpfx
        have hlen2 : (tolW s i p j).length < ((wds s).drop u).length := by
          have := hpfx.length_le
          rw [List.length_append] at this
          simp at this ⊢
          omega
        have hJ5 : J (tolW s i p j) (fun k => (B ≤ k ∧ k < B + 4) ∨ T k) w5.drew := hJ.of J5 hin5 ⟨rfl, rfl, rfl, Nat.le_refl _, fun _ _ _ => rfl⟩
        obtain ⟨fn, tmps, assign, body, hy, hR⟩ := Hy.out (tolW s i p j) (f, s.extract f q) _ w5.drew hJ5 hin5 hlen2 hpfx
        dsimp only [encCl] at hy
        have hR2 := Lib.hid (roundIn_wide (m' := n - 1 - 1 - 1) (l' := l1) (hR.mono (R' := fun e W' => ∃ b : Bool, e = .returned (.bool b) ∧ (b = true → J (tolW s i p j ++ [(f, s.extract f q)]) (fun k => (B ≤ k ∧ k < B + 4) ∨ T k) W') ∧ (b = false → Jx (tolW s i p j ++ [(f, s.extract f q)]) (fun k => (B ≤ k ∧ k < B + 4) ∨ T k) W') ∧ KeepN N₀ (fun k => (B ≤ k ∧ k < B + 4) ∨ T k) w5.drew W') (by
          rintro e W' (⟨rfl, h1, h2⟩ | ⟨rfl, h1, h2⟩)
          · exact ⟨true, rfl, fun _ => h1, fun e => (by cases e), h2⟩
          · exact ⟨false, rfl, fun e => (by cases e), fun _ => h1, h2⟩)))
        have hfs : (f : Int) ≤ (s.size : Int) := by omega
        have hfq : (f : Int) ≤ (q : Int) := by omega
        have hqsI : (q : Int) ≤ (s.size : Int) := by omega
        have hf0 : (0 : Int) ≤ (f : Int) := by omega
        have m1d : w5.drew.cell? ⟨B, 0, none⟩ = some (.func (.yield l) #[] #[]) := m0.cell
        have m5d : w5.drew.cell? ⟨B + 1, 0, none⟩ = some (.int .i64 (f : Int)) := m1.cell
        have mcd : w5.drew.cell? ⟨Bm, 0, none⟩ = some (.string s) := p5
        have HkN := Lib.hid hkN
        have Hpfx := Lib.hid hpfx
        have M0 := Lib.hid m0
        have M1 := Lib.hid m1
        have M2 := Lib.hid m2
        clear hR hkN hpfx m0 m1 m2 J5 hJ5 hlen2 hget hsp hx0 hx htg
        gi_wp2_with fail
        refine region_read 6 [(36, .func (.yield l) #[] #[]), (37, .int .i64 (f : Int)), (38, .string s), (39, .int .i64 (f : Int)), (40, .int .i64 (q : Int)), (41, .string (s.extract f q))] (by kernel_rfl) (by kernel_rfl) (by simp) ?hread ?hfin
        case hread =>
          clear Hy Hrp Hbd Ham HSI HTg HTW hR2 HkN Hpfx M0 M1 M2 u5 hy hin5 hJ hJx h0 hcW hcM hTa hJa b0 b1 b2 b3 hBa hca hcma hl1 hT1 hr1 hTo hFr hFl hla hf hplen hx2
          dsimp only [List.take, readRuns, puts, Act.put]
          refine ⟨?_, ?_, ?_, ?_, ?_, ?_, trivial⟩
          all_goals go_simp
        case hfin =>
          simp only [puts, Act.put]
          refine wpAnyIn_ready (rs := [6]) (by kernel_rfl) (by simp) ?_
          refine AllReadyIn.cons rfl (fun K hK => ?_) AllReadyIn.nil
          go_simp
          refine hR2.out.mono ?_
          rintro _ W6 ⟨bb, rfl, hbt, hbf, hk6⟩
          have hbt' := Lib.hid hbt
          have hbf' := Lib.hid hbf
          have Hk6 := Lib.hid hk6
          clear hbt hbf hk6
          refine hK _ _ ?_
          refine wpAnyIn_ready (rs := [7]) (by kernel_rfl) (by simp) ?_
          refine AllReadyIn.cons rfl (fun K2 hK2 => ?_) AllReadyIn.nil
          go_simp
          refine hK2 _ _ ?_
          refine wpAnyIn_done (by kernel_rfl) ?_ _
          clear hK hK2
          have hlt5 : ∀ k, k < B + 4 → k < w5.drew.heap.size := fun k hk => by show k < w5.heap.size; omega
          have hkeep : KeepN (fun k => (N₀ k ∧ k < B) ∨ k = B + 1 + 1 + 1) T W1 W6 := HkN.out.trans ⟨Hk6.out.size, fun k hk ho => Hk6.out.block k hk (by
            rcases ho with (ho | ho) | ho
            · exact .inl ho.1
            · exact .inr (.inl (by omega))
            · exact .inr (.inr ho))⟩
          have hsz6 : (B + 4) ≤ W6.heap.size := Nat.le_trans s5 Hk6.out.size
          have g0 : Boxed W6 B 60 (.func (.yield l) #[] #[]) := (Hk6.out.block B (hlt5 _ (by omega)) (.inr (.inl (by omega)))).trans M0.out
          have g1 : Boxed W6 (B + 1) 3 (.int .i64 (f : Int)) := (Hk6.out.block (B + 1) (hlt5 _ (by omega)) (.inr (.inl (by omega)))).trans M1.out
          have g2 : Boxed W6 (B + 1 + 1) 61 (.int .u8 (t : Int)) := (Hk6.out.block (B + 1 + 1) (hlt5 _ (by omega)) (.inr (.inl (by omega)))).trans M2.out
          cases bb with
          | true =>
            have hfin : ∀ W10, W10 = W6.setCell ⟨B + 1, 0, none⟩ (.int .i64 (q : Int)) → KeepN (fun k => (N₀ k ∧ k < B) ∨ k = B + 1 + 1 + 1) T W1 W10 ∧ OnI s i p l B Bn Bm (B + 4) J (pre ++ [y]).length T W10 := by
              rintro W10 rfl
              have hk10 : KeepN (fun k => (N₀ k ∧ k < B) ∨ k = B + 1 + 1 + 1) T W6 (W6.setCell ⟨B + 1, 0, none⟩ (.int .i64 (q : Int))) := KeepN.setCell _ _ _ _ _ _ (by omega) (fun e => by have := (hT1 _ e).1; omega)
              have hka := hkeep.trans hk10
              refine ⟨hka, ?_⟩
              rw [hplen]
              refine ⟨g0.other (by omega) _, hka.cell (p := ⟨Bn, 0, none⟩) (.inl (.inl ⟨hBn, hBnB⟩)) cn, hka.cell (p := ⟨Bm, 0, none⟩) (.inl (.inl ⟨hBm, hBmB⟩)) cm, ?_, Nat.le_trans hsz6 hk10.size, by rw [Nat.add_sub_cancel, hFr]; exact g1.set _, by rw [hla]; exact g2.other (by omega) _, ?_⟩
              · exact (KeepN.trans ⟨Hk6.out.size, fun k hk ho => Hk6.out.block k hk (by
                  rcases ho with (ho | ho) | ho
                  · exact .inl ho.1
                  · exact .inr (.inl (by omega))
                  · exact .inr (.inr ho))⟩ hk10 : KeepN (fun k => (N₀ k ∧ k < B) ∨ k = B + 1 + 1 + 1) T w5 _).u8 (.inl (.inl ⟨hN0, by omega⟩)) (.inl (.inl ⟨hN1, by omega⟩)) u5.out
              · rw [Nat.add_sub_cancel, hTo]
                exact hJ.of (hbt'.out rfl) (hin5.more (by show w5.heap.size ≤ _; exact Hk6.out.size)) ⟨rfl, rfl, rfl, by simp, fun k _ hk => Below.heap_setCell _ _ _ k (fun e => hk (.inl (by have e : k = B + 1 := e; omega)))⟩
            have g1c := g1.cell
            have g1f := g1.frozen
            have Hfin := Lib.hid hfin
            clear hfin hkeep g0 g1 g2 hin5 hJ hJx
            gi_wp2_with fail
            exact Hfin.out _ rfl
          | false =>
            have Hfin : Hid (KeepN (fun k => (N₀ k ∧ k < B) ∨ k = B + 1 + 1 + 1) T W1 W6 ∧ (Code.ret = Code.ret ∧ (B + 4) ≤ W6.heap.size ∧ ∃ q, q <+: (wds s).drop u ∧ Jx q (fun k => (B ≤ k ∧ k < B + 4) ∨ T k) W6)) := Lib.hid ⟨hkeep, rfl, hsz6, _, Hpfx.out, hbf'.out rfl⟩
            clear hkeep g0 g1 g2 hin5 hJ hJx
            gi_wp2_with fail
            exact ⟨Hfin.out.1, rfl, Hfin.out.2.2⟩
  case done =>
    rintro D ys T W2 hD hT2 rfl hi hK
    rw [hrl] at hi
    obtain ⟨m, hm⟩ : ∃ m, (pcs s).length - i = m := ⟨_, rfl⟩
    rw [hm] at hi
    have hin : InT B (fun k => (B ≤ k ∧ k < B + 4) ∨ T k) W2 := fun k hk => by
      have := hi.sz
      rcases hk with hk | hk
      · omega
      · have := hT2 k hk; omega
    have c0 := hi.yl.cell
    have c1 := hi.fr.cell
    have cm := hi.cm
    have hJ2 := hi.jj
    have HK := Lib.hid hK
    cases m with
    | zero =>
      obtain ⟨hpe, hdr⟩ := bord_end Hbd.out (by omega)
      rw [show (0 : Nat) - 1 = 0 from rfl, fro_zero] at c1
      rw [show (0 : Nat) - 1 = 0 from rfl, tol_zero, ← hdr] at hJ2
      have hlt : ¬ ((p : Int) < (s.size : Int)) := by omega
      have hmv := Moves.putObj (fun k => (B ≤ k ∧ k < B + 4) ∨ T k) W2 D (.deferred none) (.inr hD)
      have hJf := hJ.of hJ2 hin hmv
      have hinf := hin.more hmv.size
      clear hJ2 hi hK
      go_wp2_with fail
      refine ⟨by simp, .inl ⟨_, _, rfl, run_takeDeferred HK.out, ?_⟩⟩
      exact ⟨_, results_none rfl _ _ _, ⟨_, rfl⟩, .inl ⟨_, _, rfl, hJf, hinf⟩⟩
    | succ m =>
      obtain ⟨hall, hfs⟩ := tol_all s u i p m Hbd.out (by omega)
      rw [Nat.add_sub_cancel] at c1 hJ2
      obtain ⟨f, hf⟩ : ∃ f, froW s i p m = f := ⟨_, rfl⟩
      rw [hf] at c1 hall hfs
      have hlt : (f : Int) < (s.size : Int) := by omega
      have hle : (f : Int) ≤ (s.size : Int) := by omega
      have hf0 : (0 : Int) ≤ (f : Int) := by omega
      have hpfx : tolW s i p m ++ [(f, s.extract f s.size)] <+: (wds s).drop u := by rw [hall]; exact List.prefix_refl _
      have hlen2 : (tolW s i p m).length < ((wds s).drop u).length := by rw [← hall]; simp
      have hJ5 : J (tolW s i p m) (fun k => (B ≤ k ∧ k < B + 4) ∨ T k) W2.drew := hJ.of hJ2 hin ⟨rfl, rfl, rfl, Nat.le_refl _, fun _ _ _ => rfl⟩
      obtain ⟨fn, tmps, assign, body, hy, hR⟩ := Hy.out (tolW s i p m) (f, s.extract f s.size) _ W2.drew hJ5 hin hlen2 hpfx
      dsimp only [encCl] at hy
      have hR2 := Lib.hid (hR.mono (R' := fun e W' => ∃ b : Bool, e = .returned (.bool b) ∧ (b = true → J (tolW s i p m ++ [(f, s.extract f s.size)]) (fun k => (B ≤ k ∧ k < B + 4) ∨ T k) W') ∧ (b = false → Jx (tolW s i p m ++ [(f, s.extract f s.size)]) (fun k => (B ≤ k ∧ k < B + 4) ∨ T k) W') ∧ KeepN N₀ (fun k => (B ≤ k ∧ k < B + 4) ∨ T k) W2.drew W') (by
        rintro e W' (⟨rfl, h1, h2⟩ | ⟨rfl, h1, h2⟩)
        · exact ⟨true, rfl, fun _ => h1, fun e => (by cases e), h2⟩
        · exact ⟨false, rfl, fun e => (by cases e), fun _ => h1, h2⟩))
      have m1d : W2.drew.cell? ⟨B, 0, none⟩ = some (.func (.yield l) #[] #[]) := c0
      have m5d : W2.drew.cell? ⟨B + 1, 0, none⟩ = some (.int .i64 (f : Int)) := c1
      have mcd : W2.drew.cell? ⟨Bm, 0, none⟩ = some (.string s) := cm
      have Hpfx := Lib.hid hpfx
      have Hall := Lib.hid hall
      have Hin := Lib.hid hin
      clear hR hpfx hJ2 hJ5 hlen2 hi hK hall hin
      go_wp2_with fail
      refine (wpIn_wide (n := n)).1 ?_
      refine region_read 5 [(49, .func (.yield l) #[] #[]), (50, .int .i64 (f : Int)), (51, .string s), (52, .int .i64 (f : Int)), (53, .string (s.extract f s.size))] (by kernel_rfl) (by kernel_rfl) (by simp) ?hread2 ?hfin2
      case hread2 =>
        clear Hy Hrp Hbd Ham HSI HTg HTW hR2 Hpfx Hall Hin hy hJ hJx h0 hcW hcM hTa hJa b0 b1 b2 b3 hBa hca hcma hT2 hf HK
        dsimp only [List.take, readRuns, puts, Act.put]
        refine ⟨?_, ?_, ?_, ?_, ?_, trivial⟩
        all_goals go_simp
      case hfin2 =>
        simp only [puts, Act.put]
        refine wpAnyIn_ready (rs := [5]) (by kernel_rfl) (by simp) ?_
        refine AllReadyIn.cons rfl (fun K hK => ?_) AllReadyIn.nil
        go_simp
        refine ⟨fun _ => by omega, hR2.out.mono ?_⟩
        rintro _ W6 ⟨bb, rfl, hbt, hbf, hk6⟩
        have hD6 : W6.heap[D]? = some (.deferred (some [])) := (hk6.block D (by show D < W2.heap.size; exact (hT2 D hD).2) (.inr (.inr hD))).trans HK.out
        have hin6 : InT B (fun k => (B ≤ k ∧ k < B + 4) ∨ T k) W6 := Hin.out.more (by show W2.heap.size ≤ _; exact hk6.size)
        have hmv := Moves.putObj (fun k => (B ≤ k ∧ k < B + 4) ∨ T k) W6 D (.deferred none) (.inr hD)
        have Hres : Hid ((∃ xs T', xs = (wds s).drop u ∧ J xs T' (W6.putObj D (.deferred none)) ∧ InT B T' (W6.putObj D (.deferred none))) ∨ (∃ pre T', pre <+: (wds s).drop u ∧ Jx pre T' (W6.putObj D (.deferred none)) ∧ InT B T' (W6.putObj D (.deferred none)))) := Lib.hid (by
          cases bb with
          | true => exact .inl ⟨_, _, Hall.out, hJ.of (hbt rfl) hin6 hmv, hin6.more hmv.size⟩
          | false => exact .inr ⟨_, _, Hpfx.out, hJx.of (hbf rfl) hin6 hmv, hin6.more hmv.size⟩)
        have HD6 := Lib.hid hD6
        clear hbt hbf hk6 hin6 hmv hD6 hR2 Hy hJ hJx
        refine hK _ _ ?_
        refine wpAnyIn_done (by kernel_rfl) ?_ _
        clear hK
        gi_wp2_with fail
        refine ⟨by simp, .inl ⟨_, _, rfl, run_takeDeferred HD6.out, ?_⟩⟩
        exact ⟨_, results_none rfl _ _ _, ⟨_, rfl⟩, Hres.out⟩
  case stop =>
    rintro D c pre T W2 hD hT2 _ ⟨rfl, hsA, q, hq, h9⟩ hK
    have hin : InT B (fun k => (B ≤ k ∧ k < B + 4) ∨ T k) W2 := fun k hk => by
      rcases hk with hk | hk
      · omega
      · have := hT2 k hk; omega
    have hmv := Moves.putObj (fun k => (B ≤ k ∧ k < B + 4) ∨ T k) W2 D (.deferred none) (.inr hD)
    have hJf := hJx.of h9 hin hmv
    have hinf := hin.more hmv.size
    have HK := Lib.hid hK
    clear h9 hK
    gi_wp2_with fail
    refine ⟨by simp, .inl ⟨_, _, rfl, run_takeDeferred HK.out, ?_⟩⟩
    exact ⟨_, results_none rfl _ _ _, ⟨_, rfl⟩, .inr ⟨q, _, hq, hJf, hinf⟩⟩
end Go.Proofs.YtiafofekobcifaaDoor

/- Layer 12, the program: the segments read backward from a border of clusters: the iterator's contract. (Made by tools/mkback12.py out of PgC.) -/
namespace Go.Proofs.YtiafofekobcifaaDoor
open Go.RowKit Go.Shelf Go.Lib
attribute [local go_sem] Oper.semAt_some

theorem bk_mk (s : ByteArray) (p : Int) (w : World) : Calls Tryd.prog 30 #[.string s, .int .i64 p] w fun e w' =>
    e = .returned (.func (.func 49) #[] #[.pointer (some ⟨w.heap.size + 1, 0, none⟩), .pointer (some ⟨w.heap.size, 0, none⟩)]) ∧ w' = (w.alloc (.cells #[.string s] 9)).alloc (.cells #[.int .i64 p] 3) := by
  go_enter Tryd.func30, Tryd.ntmps30
  go_wp2
  go_ret
  exact ⟨by simp, rfl⟩
/-- a border of clusters: e clusters lie ahead of it, p bytes -/
structure BordCl (s : ByteArray) (e p : Nat) : Prop where
  le : e ≤ (pcs s).length
  ps : p ≤ s.size
  cut : pcs (s.extract 0 p) = (pcs s).take e
  last : ∀ x, (pcs s)[e - 1]? = some x → 0 < e → x.1 + x.2.size = p
  none_ : e = 0 → p = 0
theorem bordCl_end (s : ByteArray) (k : Nat) (x : Nat × ByteArray) (hx : (pcs s)[k]? = some x) : BordCl s (k + 1) (x.1 + x.2.size) :=
  ⟨(List.getElem?_eq_some_iff.1 hx).1, (pcs_chain s k x hx).2.2, pcs_upto s k x hx, fun y hy _ => by rw [Nat.add_sub_cancel, hx] at hy; obtain rfl := Option.some.inj hy; rfl, fun h => by omega⟩
theorem bordCl_empty (s : ByteArray) (h : s.size = 0) : BordCl s 0 0 :=
  ⟨Nat.zero_le _, Nat.zero_le _, by
    have h0 := pcs_sum (s.extract 0 0)
    rw [show (s.extract 0 0).size = 0 by rw [ByteArray.size_extract]; omega] at h0
    rw [List.take_zero]
    cases hp : pcs (s.extract 0 0) with
    | nil => rfl
    | cons y t =>
      have := pcs_chain (s.extract 0 0) 0 y (by rw [hp]; rfl)
      have h1 : (s.extract 0 0).size = 0 := by rw [ByteArray.size_extract]; omega
      omega, fun _ _ h => by omega, fun _ => rfl⟩
/-- the sort of the cluster that is gone over last -/
def firW (s : ByteArray) (e : Nat) : Nat → Nat
  | 0 => 0
  | j + 1 => tagW (MW s) (e - 1 - j)
/-- what holds between rounds: j clusters are gone over -/
structure BkI (s : ByteArray) (e p l B Bn Bm S : Nat) (J : List (Nat × ByteArray) → Bl → World → Prop) (j : Nat) (T : Bl) (W : World) : Prop where
  yl : Boxed W B 60 (.func (.yield l) #[] #[])
  cn : W.cell? ⟨Bn, 0, none⟩ = some (.int .i64 (p : Int))
  cm : W.cell? ⟨Bm, 0, none⟩ = some (.string s)
  u8 : Utf8Tabs 0 1 W
  sz : S ≤ W.heap.size
  la : Boxed W (B + 1 + 1) 61 (.int .u8 ((firW s e j : Nat) : Int))
  to : ∃ (f : Nat) (dn : List (Nat × ByteArray)), f ≤ s.size ∧ (∀ x, (pcs s)[e - 1 - (j - 1)]? = some x → 0 < e → x.1 + x.2.size ≤ f) ∧ (e = 0 → f = 0) ∧ dn ++ (if e = 0 then [] else remW s f (e - 1 - (j - 1))) = bckW s e p ∧
    Boxed W (B + 1) 3 (.int .i64 ((f : Nat) : Int)) ∧ J dn (fun k => (B ≤ k ∧ k < B + 4) ∨ T k) W
set_option maxRecDepth 100000 in
set_option maxHeartbeats 4000000 in
theorem seqBk (n : Nat) (hn : 8 ≤ n) (Bn Bm : Nat) (N₀ : Bl) (s : ByteArray) (u p : Nat) (hbd : BordCl s u p) (w : World) (hBn : N₀ Bn) (hBm : N₀ Bm) (hN0 : N₀ 0) (hN1 : N₀ 1)
    (hc : w.cell? ⟨Bn, 0, none⟩ = some (.int .i64 (p : Int))) (hcs : w.cell? ⟨Bm, 0, none⟩ = some (.string s)) (hs : s.size ≤ 1073741824) (hT : Utf8Tabs 0 1 w) :
    SeqN Fence.wide n Tryd.prog 49 #[.pointer (some ⟨Bn, 0, none⟩), .pointer (some ⟨Bm, 0, none⟩)] encCl (fun ys => ys = bckW s u p) (fun pre => pre <+: bckW s u p) (bckW s u p).length N₀ w := by
  intro l J Jx W hW hJ hJx hY h0
  have hcW : W.cell? ⟨Bn, 0, none⟩ = some (.int .i64 (p : Int)) := (hW.cell (p := ⟨Bn, 0, none⟩) (cell_ltN hc)).trans hc
  have hcM : W.cell? ⟨Bm, 0, none⟩ = some (.string s) := (hW.cell (p := ⟨Bm, 0, none⟩) (cell_ltN hcs)).trans hcs
  have hTW : Utf8Tabs 0 1 W := Utf8Tabs_below hT hW
  have h2 := tabs_size hTW
  obtain ⟨B, hB⟩ : ∃ B, W.heap.size = B := ⟨_, rfl⟩
  have hBnB : Bn < B := by rw [← hB]; exact cell_ltN hcW
  have hBmB : Bm < B := by rw [← hB]; exact cell_ltN hcM
  rw [hB] at hJ hJx hY h2 ⊢
  have Hy := Lib.hid hY
  have HTW := Lib.hid hTW
  have hps : p ≤ s.size := hbd.ps
  obtain ⟨rs, hrs⟩ : ∃ rs, s.extract 0 p = rs := ⟨_, rfl⟩
  have hrz : rs.size ≤ 1073741824 := by rw [← hrs, ByteArray.size_extract]; omega
  have hcut := hbd.cut
  rw [hrs] at hcut
  have hul := hbd.le
  have hrl : (pcs rs).length = u := by rw [hcut, List.length_take]; omega
  have Hrp := Lib.hid (show ∀ (j : Nat) (y : Nat × ByteArray), (pcs rs).reverse[j]? = some y → j < u ∧ (pcs s)[u - 1 - j]? = some y from fun j y hy => by
    have hj := (List.getElem?_eq_some_iff.1 hy).1
    rw [List.length_reverse, hrl] at hj
    rw [List.getElem?_reverse (by rw [hrl]; exact hj), hrl, hcut, List.getElem?_take, if_pos (by omega)] at hy
    exact ⟨hj, hy⟩)
  have Hbd := Lib.hid hbd
  have Ham := Lib.hid (fun W => clb_mk rs W)
  have HSI := Lib.hid (fun j x q P hx hp hP W hT => psortin_any s j x q P hx hp hP W hs hT)
  have HTg := Lib.hid (fun a b W => ptog_any a b W)
  have hpsI : (p : Int) ≤ (s.size : Int) := by omega
  have hp0 : (0 : Int) ≤ (p : Int) := by omega
  clear hc hcs hW hT hY hTW hbd hcut
  obtain ⟨ii, hii, hiz0, hiz1, hiz2⟩ := info_parts sort_info
  refine callsIn_of_wp_marks Tryd.func49 rfl trivial ?_ rfl
  refine wpIn_wide.2 ?_
  simp only [Tryd.ntmps49, List.size_toArray, List.length_cons, List.length_nil, Nat.reduceAdd, Nat.reduceSub, Array.replicate_succ, Array.replicate_zero, List.push_toArray, List.append_toArray, List.nil_append, List.cons_append]
  obtain ⟨W3, hW3⟩ : ∃ W3, ((W.alloc (.cells #[.func (.yield l) #[] #[]] 60)).alloc (.cells #[.int .i64 0] 3)).alloc (.cells #[.int .u8 0] 61) = W3 := ⟨_, rfl⟩
  have d0 : Boxed W3 B 60 (.func (.yield l) #[] #[]) := by
    rw [← hW3]
    have h := Boxed.new W 60 (.func (.yield l) #[] #[])
    rw [hB] at h
    exact (h.alloc _).alloc _
  have d1 : Boxed W3 (B + 1) 3 (.int .i64 0) := by
    rw [← hW3]
    have h := Boxed.new (W.alloc (.cells #[.func (.yield l) #[] #[]] 60)) 3 (.int .i64 0)
    rw [World.size_alloc, hB] at h
    exact h.alloc _
  have d2 : Boxed W3 (B + 1 + 1) 61 (.int .u8 0) := by
    rw [← hW3]
    have h := Boxed.new ((W.alloc (.cells #[.func (.yield l) #[] #[]] 60)).alloc (.cells #[.int .i64 0] 3)) 61 (.int .u8 0)
    rw [World.size_alloc, World.size_alloc, hB] at h
    exact h
  have z3 : W3.heap.size = B + 3 := by rw [← hW3]; simp [hB]
  have r3 : Below B W W3 := by
    rw [← hW3]
    exact (((Below.refl B W).alloc (by omega) _).alloc (by simp; omega) _).alloc (by simp; omega) _
  have d1c := d1.cell
  have d1f := d1.frozen
  obtain ⟨W4, hW4⟩ : ∃ W4, W3.setCell ⟨B + 1, 0, none⟩ (.int .i64 (p : Int)) = W4 := ⟨_, rfl⟩
  have e0 : Boxed W4 B 60 (.func (.yield l) #[] #[]) := by rw [← hW4]; exact d0.other (by omega) _
  have e1 : Boxed W4 (B + 1) 3 (.int .i64 (p : Int)) := by rw [← hW4]; exact d1.set _
  have e2 : Boxed W4 (B + 1 + 1) 61 (.int .u8 0) := by rw [← hW4]; exact d2.other (by omega) _
  have r4 : Below B W W4 := by rw [← hW4]; exact r3.setCell (p := ⟨B + 1, 0, none⟩) (by show B ≤ B + 1; omega) _
  have z4 : W4.heap.size = B + 3 := by rw [← hW4]; simp [z3]
  have e2c := e2.cell
  have e2f := e2.frozen
  obtain ⟨W5, hW5⟩ : ∃ W5, W4.setCell ⟨B + 1 + 1, 0, none⟩ (.int .u8 0) = W5 := ⟨_, rfl⟩
  have g0 : Boxed W5 B 60 (.func (.yield l) #[] #[]) := by rw [← hW5]; exact e0.other (by omega) _
  have g1 : Boxed W5 (B + 1) 3 (.int .i64 (p : Int)) := by rw [← hW5]; exact e1.other (by omega) _
  have g2 : Boxed W5 (B + 1 + 1) 61 (.int .u8 ((firW s u 0 : Nat) : Int)) := by rw [← hW5]; exact e2.set _
  have r5 : Below B W W5 := by rw [← hW5]; exact r4.setCell (p := ⟨B + 1 + 1, 0, none⟩) (by show B ≤ B + 1 + 1; omega) _
  have z5 : W5.heap.size = B + 3 := by rw [← hW5]; simp [z4]
  have n5 : W5.cell? ⟨Bn, 0, none⟩ = some (.int .i64 (p : Int)) := (r5.cell (p := ⟨Bn, 0, none⟩) hBnB).trans hcW
  have m5 : W5.cell? ⟨Bm, 0, none⟩ = some (.string s) := (r5.cell (p := ⟨Bm, 0, none⟩) hBmB).trans hcM
  clear d0 d1 d2 e0 e1 e2
  go_wp2_with fail
  refine wp_scope_straight ?_
  go_wp2_with fail
  refine wp_label ?_
  go_wp2_with fail
  refine (Ham.out _).mono ?_
  rintro _ Wa ⟨rfl, hWa⟩
  have b0 : Boxed Wa B 60 (.func (.yield l) #[] #[]) := by rw [hWa]; exact g0.alloc _
  have b1 : Boxed Wa (B + 1) 3 (.int .i64 (p : Int)) := by rw [hWa]; exact g1.alloc _
  have b2 : Boxed Wa (B + 1 + 1) 61 (.int .u8 ((firW s u 0 : Nat) : Int)) := by rw [hWa]; exact g2.alloc _
  have hsz : Wa.heap.size = B + 4 := by rw [hWa, World.size_alloc, z5]
  have b3 : Boxed Wa (B + 1 + 1 + 1) 9 (.string rs) := by
    have h := Boxed.new W5 9 (.string rs)
    rw [z5, ← hWa] at h
    exact h
  have hBa : Below B W Wa := by rw [hWa]; exact r5.alloc (by omega) _
  clear hW3 hW4 hW5 g0 g1 g2 d1c d1f e2c e2f n5 m5 r3 r4 r5 z3 z4
  have hca : Wa.cell? ⟨Bn, 0, none⟩ = some (.int .i64 (p : Int)) := (hBa.cell (p := ⟨Bn, 0, none⟩) hBnB).trans hcW
  have hcma : Wa.cell? ⟨Bm, 0, none⟩ = some (.string s) := (hBa.cell (p := ⟨Bm, 0, none⟩) hBmB).trans hcM
  have hTa : Utf8Tabs 0 1 Wa := Utf8Tabs_below HTW.out (by rw [hB]; exact hBa)
  have hJa : J [] (fun k => B ≤ k ∧ k < B + 4) Wa := hJ _ _ _ _ _ h0 (fun _ h => h.elim) (.of_below _ (by rw [hB]; exact hBa)) ⟨fun _ h => h.elim, fun k hk => .inr (by omega)⟩
  clear hWa
  go_wp2_with fail
  refine (wpIn_wide (n := n)).1 ?_
  refine range_N1 rfl (by omega) (gf := 70) (lb := #[.pointer (some ⟨B + 1 + 1 + 1, 0, none⟩)]) rfl trivial (enters_of Tryd.func70 (by kernel_rfl) rfl)
    (seqClBack (n - 1) (by omega) (B + 1 + 1 + 1) (fun k => (N₀ k ∧ k < B) ∨ k = B + 1 + 1 + 1) rs Wa (.inr rfl) (.inl ⟨hN0, by omega⟩) (.inl ⟨hN1, by omega⟩) b3.cell hrz hTa) (fun k hk => by omega) (fun _ => rfl)
    (fun pre T W' => BkI s u p l B Bn Bm (B + 4) J pre.length T W')
    (fun c pre T W' => c = .ret ∧ (B + 4) ≤ W'.heap.size ∧ ∃ q, q <+: bckW s u p ∧ Jx q (fun k => (B ≤ k ∧ k < B + 4) ∨ T k) W')
    ?hI ?hIx
    ⟨b0, hca, hcma, hTa, by omega, b2, p, [], hps, fun x hx h => by
      rw [show ([] : List (Nat × ByteArray)).length - 1 = 0 from rfl, Nat.sub_zero] at hx
      exact Nat.le_of_eq (Hbd.out.last x hx h), Hbd.out.none_, by
      rw [show ([] : List (Nat × ByteArray)).length - 1 = 0 from rfl, Nat.sub_zero, List.nil_append]
      cases u with
      | zero => rfl
      | succ u => rw [if_neg (by omega), Nat.add_sub_cancel]; rfl, b1, hJ _ _ _ _ _ hJa (fun k hk => by omega) (.refl _ _) ⟨fun k hk => .inl hk, fun k hk => .inl (hk.elim id False.elim)⟩⟩
    ?a1 ?assign ?body ?done ?stop
  case assign =>
    intro l x W K hK
    gi_wp2
    exact hK
  case hI =>
    rintro pre T T' A A' h hT hm hg
    have hlow : ∀ k, k < B + 4 → A'.heap[k]? = A.heap[k]? := fun k hk => hm.block k (by have := h.sz; omega) (fun e => by have := (hT _ e).1; omega)
    have hbl : KeepN (fun k => k < B + 4) (fun _ => False) A A' := ⟨hm.size, fun k _ hk => hlow k (hk.elim id False.elim)⟩
    refine ⟨(hlow _ (by omega)).trans h.yl, hbl.cell (p := ⟨Bn, 0, none⟩) (.inl (show Bn < B + 4 by omega)) h.cn, hbl.cell (p := ⟨Bm, 0, none⟩) (.inl (show Bm < B + 4 by omega)) h.cm, hbl.u8 (.inl (by omega)) (.inl (by omega)) h.u8, Nat.le_trans h.sz hm.size, (hlow _ (by omega)).trans h.la, ?_⟩
    obtain ⟨f, dn, t1, t2, t3, t4, t5, t6⟩ := h.to
    refine ⟨f, dn, t1, t2, t3, t4, (hlow _ (by omega)).trans t5, ?_⟩
    refine hJ _ _ _ _ _ t6 (fun k hk => ?_) (hm.mono fun k hk => .inr hk) ⟨fun k hk => hk.imp id (hg.1 k), fun k hk => ?_⟩
    · have := h.sz
      rcases hk with hk | hk
      · omega
      · have := hT k hk; omega
    · rcases hk with hk | hk
      · exact .inl (.inl hk)
      · exact (hg.2 k hk).imp .inr id
  case hIx =>
    rintro cd pre T T' A A' ⟨rfl, hsA, q, hq, h9⟩ hT hm hg
    refine ⟨rfl, Nat.le_trans hsA hm.size, q, hq, hJx _ _ _ _ _ h9 (fun k hk => ?_) (hm.mono fun k hk => .inr hk) ⟨fun k hk => hk.imp id (hg.1 k), fun k hk => ?_⟩⟩
    · rcases hk with hk | hk
      · omega
      · have := hT k hk; omega
    · rcases hk with hk | hk
      · exact .inl (.inl hk)
      · exact (hg.2 k hk).imp .inr id
  case body =>
    rintro l1 pre y T W1 hl1 hT1 hr1 hi hlen hsp
    have hget := prefix_get hsp
    obtain ⟨j, hj⟩ : ∃ j, pre.length = j := ⟨_, rfl⟩
    rw [hj] at hget hi hlen
    obtain ⟨hju, hx⟩ := Hrp.out j y hget
    have hplen : (pre ++ [y]).length = j + 1 := by simp [hj]
    have hxc := pcs_chain s _ y hx
    have hxl := (List.getElem?_eq_some_iff.1 hx).1
    obtain ⟨q, hq⟩ : ∃ q, y.1 + y.2.size = q := ⟨_, rfl⟩
    obtain ⟨a0, ha0⟩ : ∃ a0, y.1 = a0 := ⟨_, rfl⟩
    obtain ⟨z0, hz0⟩ : ∃ z0, y.2.size = z0 := ⟨_, rfl⟩
    have hw1 : IntKind.i64.wrap ((a0 : Int) + (z0 : Int)) = (q : Int) := by rw [IntWalk.i64_in _ (by omega)]; omega
    have hqp' : q ≤ s.size := by omega
    obtain ⟨f, dn, hfs, hfx, hf0, hdn, m1i, hjj⟩ := hi.to
    have hcs := Lib.hid (HSI.out (u - 1 - j) y a0 q hx ha0 hq W1 hi.u8)
    have hn1 : 1 ≤ n - 1 - 1 := by omega
    have c0 := hi.yl.cell
    have c1 := m1i.cell
    have c2 := hi.la.cell
    have cn := hi.cn
    have cm := hi.cm
    have hs1 := hi.sz
    have Hi := Lib.hid hi
    clear hi hxc
    rw [ha0]
    gi_wp2_with fail
    refine ⟨trivial, (CallsIn.inRound l1 (callsIn_wide.2 hcs.out)).mono ?_⟩
    rintro _ w3 ⟨rfl, b3⟩
    have hs3 := b3.size
    obtain ⟨t, ht⟩ : ∃ t, tagW (MW s) (u - 1 - j) = t := ⟨_, rfl⟩
    rw [ht]
    have k2 := boxed_below Hi.out.la b3
    have k2c := k2.cell
    have k2f := k2.frozen
    have m2 : Boxed (w3.setCell ⟨B + 1 + 1, 0, none⟩ (.int .u8 (t : Int))) (B + 1 + 1) 61 (.int .u8 (t : Int)) := k2.set _
    have m1 : Boxed (w3.setCell ⟨B + 1 + 1, 0, none⟩ (.int .u8 (t : Int))) (B + 1) 3 (.int .i64 ((f : Nat) : Int)) := (boxed_below m1i b3).other (by omega) _
    have m0 : Boxed (w3.setCell ⟨B + 1 + 1, 0, none⟩ (.int .u8 (t : Int))) B 60 (.func (.yield l) #[] #[]) := (boxed_below Hi.out.yl b3).other (by omega) _
    have hkN : KeepN (fun k => (N₀ k ∧ k < B) ∨ k = B + 1 + 1 + 1) T W1 (w3.setCell ⟨B + 1 + 1, 0, none⟩ (.int .u8 (t : Int))) := (KeepN.of_below _ _ b3).trans (KeepN.setCell _ _ _ _ _ _ (by omega) (fun e => by have := (hT1 _ e).1; omega))
    have hmv : Moves (fun k => (B ≤ k ∧ k < B + 4) ∨ T k) W1 (w3.setCell ⟨B + 1 + 1, 0, none⟩ (.int .u8 (t : Int))) :=
      (Moves.of_below _ b3).trans' ⟨rfl, rfl, rfl, by simp, fun k _ hk => Below.heap_setCell _ _ _ k (fun e => hk (.inl (by have e : k = B + 1 + 1 := e; omega)))⟩
    obtain ⟨W4, hW4⟩ : ∃ W4, w3.setCell ⟨B + 1 + 1, 0, none⟩ (.int .u8 (t : Int)) = W4 := ⟨_, rfl⟩
    rw [hW4] at m2 m1 m0 hkN hmv
    have hin1 : InT B (fun k => (B ≤ k ∧ k < B + 4) ∨ T k) W1 := fun k hk => by
      rcases hk with hk | hk
      · omega
      · have := hT1 k hk; omega
    have hin4 : InT B (fun k => (B ≤ k ∧ k < B + 4) ∨ T k) W4 := hin1.more hmv.size
    have J4 := hJ.of hjj hin1 hmv
    have n4 : W4.cell? ⟨Bn, 0, none⟩ = some (.int .i64 (p : Int)) := hkN.cell (p := ⟨Bn, 0, none⟩) (.inl (.inl ⟨hBn, hBnB⟩)) cn
    have p4 : W4.cell? ⟨Bm, 0, none⟩ = some (.string s) := hkN.cell (p := ⟨Bm, 0, none⟩) (.inl (.inl ⟨hBm, hBmB⟩)) cm
    have u4 := Lib.hid (hkN.u8 (.inl (.inl ⟨hN0, by omega⟩)) (.inl (.inl ⟨hN1, by omega⟩)) Hi.out.u8)
    have s4 : (B + 4) ≤ W4.heap.size := Nat.le_trans hs1 hmv.size
    have m0c := m0.cell
    have m1c := m1.cell
    have m2c := m2.cell
    have hla : firW s u (j + 1) = t := ht
    cases j with
    | zero =>
      have hqp : ((q : Int) == (p : Int)) = true := by have := Hbd.out.last y hx (by omega); simp; omega
      have Hfin : Hid (KeepN (fun k => (N₀ k ∧ k < B) ∨ k = B + 1 + 1 + 1) T W1 W4 ∧ BkI s u p l B Bn Bm (B + 4) J (pre ++ [y]).length T W4) := Lib.hid ⟨hkN, by
        rw [hplen]
        exact ⟨m0, n4, p4, u4.out, s4, by rw [hla]; exact m2, f, dn, hfs, hfx, hf0, hdn, m1, J4⟩⟩
      clear m0 m1 m2 hkN hmv J4 b3 k2 Hi hcs hin4 hin1
      gi_wp2_with fail
      refine ⟨trivial, ?_⟩
      gi_wp2_with fail
      exact Hfin.out
    | succ j =>
      have hu0 : ¬ (u = 0) := by omega
      obtain ⟨x0, hx0⟩ : ∃ x0, (pcs s)[u - 1 - j]? = some x0 := ⟨_, List.getElem?_eq_getElem (by omega)⟩
      obtain ⟨c, hc⟩ : ∃ c, u - 1 - (j + 1) = c := ⟨_, rfl⟩
      have hcj : u - 1 - j = c + 1 := by omega
      rw [hc] at hx ht
      rw [hcj] at hx0
      have hnx := pcs_next hx hx0
      have hlx := Hbd.out.last
      have hqp : ((q : Int) == (p : Int)) = false := by
        have h1 := pcs_chain s _ x0 hx0
        have hle : x0.1 + x0.2.size ≤ p := by
          obtain ⟨z, hz⟩ : ∃ z, (pcs s)[u - 1]? = some z := ⟨_, List.getElem?_eq_getElem (by omega)⟩
          have h2 := hlx z hz (by omega)
          have h3 := pcs_chain s _ z hz
          have h4 := sumB_le (pcs s) (c + 1 + 1) (u - 1 + 1) (by omega)
          rw [take_snoc _ _ _ hx0, sumB_snoc, take_snoc _ _ _ hz, sumB_snoc] at h4
          omega
        simp
        omega
      have htg : togN t (firW s u (j + 1)) = goesW (MW s) c := by
        rw [← ht]
        show togN (tagW (MW s) c) (tagW (MW s) (u - 1 - j)) = _
        rw [hcj]
        exact (goes_tag (MW s) c (by rw [mw_len]; exact (List.getElem?_eq_some_iff.1 hx0).1)).symm
      rw [Nat.add_sub_cancel, hcj, if_neg hu0] at hdn
      rw [Nat.add_sub_cancel, hcj] at hfx
      have hqf : q ≤ f := by have := hfx x0 hx0 (by omega); omega
      have HcT := Lib.hid (HTg.out t (firW s u (j + 1)))
      have hrem : remW s f (c + 1) = if goesW (MW s) c = true then remW s f c else (q, s.extract q f) :: remW s q c := by
        rw [remW, hx]
        dsimp only
        rw [hq]
      have M0 := Lib.hid m0
      have M1 := Lib.hid m1
      have M2 := Lib.hid m2
      have HkN := Lib.hid hkN
      have HJ4 := Lib.hid J4
      clear m0 m1 m2 hkN hmv J4 b3 k2 Hi hcs hin1 hnx ht hjj m1i hlx
      gi_wp2_with fail
      refine ⟨trivial, (CallsIn.inRound l1 (callsIn_wide.2 (HcT.out W4))).mono ?_⟩
      rintro _ w5 ⟨rfl, b5⟩
      rw [htg]
      have hs5 := b5.size
      have m0 := boxed_below M0.out b5
      have m1 := boxed_below M1.out b5
      have m2 := boxed_below M2.out b5
      have hkN : KeepN (fun k => (N₀ k ∧ k < B) ∨ k = B + 1 + 1 + 1) T W1 w5 := HkN.out.trans (KeepN.of_below _ _ b5)
      have n5 : w5.cell? ⟨Bn, 0, none⟩ = some (.int .i64 (p : Int)) := (b5.cell (p := ⟨Bn, 0, none⟩) (show Bn < W4.heap.size by omega)).trans n4
      have p5 : w5.cell? ⟨Bm, 0, none⟩ = some (.string s) := (b5.cell (p := ⟨Bm, 0, none⟩) (show Bm < W4.heap.size by omega)).trans p4
      have u5 := Lib.hid (Utf8Tabs_below u4.out b5)
      have s5 : (B + 4) ≤ w5.heap.size := Nat.le_trans s4 hs5
      have hmv : Moves (fun k => (B ≤ k ∧ k < B + 4) ∨ T k) W4 w5 := Moves.of_below _ b5
      have J5 := hJ.of HJ4.out hin4 hmv
      have hin5 : InT B (fun k => (B ≤ k ∧ k < B + 4) ∨ T k) w5 := hin4.more hmv.size
      clear M0 M1 M2 HkN HJ4 hmv HcT m0c m1c n4 p4 u4 b5 hin4
      by_cases hg : goesW (MW s) c = true
      · rw [hg]
        rw [hrem, if_pos hg] at hdn
        have Hfin : Hid (KeepN (fun k => (N₀ k ∧ k < B) ∨ k = B + 1 + 1 + 1) T W1 w5 ∧ BkI s u p l B Bn Bm (B + 4) J (pre ++ [y]).length T w5) := Lib.hid ⟨hkN, by
          rw [hplen]
          refine ⟨m0, n5, p5, u5.out, s5, by rw [hla]; exact m2, f, dn, hfs, fun z hz _ => ?_, hf0, ?_, m1, J5⟩
          · rw [Nat.add_sub_cancel, hc, hx] at hz
            obtain rfl := Option.some.inj hz
            omega
          · rw [Nat.add_sub_cancel, hc, if_neg hu0]
            exact hdn⟩
        clear m0 m1 m2 hkN J5 hin5
        gi_wp2_with fail
        exact Hfin.out
      · have hgf : goesW (MW s) c = false := by simpa using hg
        rw [hgf]
        rw [hrem, if_neg hg] at hdn
        have hpfx : dn ++ [(q, s.extract q f)] <+: bckW s u p := ⟨remW s q c, by rw [← hdn]; simp⟩
        have hlen2 : dn.length < (bckW s u p).length := by rw [← hdn]; simp
        have hJ5 : J (dn) (fun k => (B ≤ k ∧ k < B + 4) ∨ T k) w5.drew := hJ.of J5 hin5 ⟨rfl, rfl, rfl, Nat.le_refl _, fun _ _ _ => rfl⟩
        obtain ⟨fn, tmps, assign, body, hy, hR⟩ := Hy.out (dn) (q, s.extract q f) _ w5.drew hJ5 hin5 hlen2 hpfx
        dsimp only [encCl] at hy
        have hR2 := Lib.hid (roundIn_wide (m' := n - 1 - 1 - 1) (l' := l1) (hR.mono (R' := fun e W' => ∃ b : Bool, e = .returned (.bool b) ∧ (b = true → J (dn ++ [(q, s.extract q f)]) (fun k => (B ≤ k ∧ k < B + 4) ∨ T k) W') ∧ (b = false → Jx (dn ++ [(q, s.extract q f)]) (fun k => (B ≤ k ∧ k < B + 4) ∨ T k) W') ∧ KeepN N₀ (fun k => (B ≤ k ∧ k < B + 4) ∨ T k) w5.drew W') (by
          rintro e W' (⟨rfl, h1, h2⟩ | ⟨rfl, h1, h2⟩)
          · exact ⟨true, rfl, fun _ => h1, fun e => (by cases e), h2⟩
          · exact ⟨false, rfl, fun e => (by cases e), fun _ => h1, h2⟩)))
        have hfsI : (f : Int) ≤ (s.size : Int) := by omega
        have hqfI : (q : Int) ≤ (f : Int) := by omega
        have hq0I : (0 : Int) ≤ (q : Int) := by omega
        have m1d : w5.drew.cell? ⟨B, 0, none⟩ = some (.func (.yield l) #[] #[]) := m0.cell
        have m5d : w5.drew.cell? ⟨B + 1, 0, none⟩ = some (.int .i64 (f : Int)) := m1.cell
        have mcd : w5.drew.cell? ⟨Bm, 0, none⟩ = some (.string s) := p5
        have HkN := Lib.hid hkN
        have Hpfx := Lib.hid hpfx
        have M0 := Lib.hid m0
        have M1 := Lib.hid m1
        have M2 := Lib.hid m2
        have Hdn := Lib.hid hdn
        have Hx := Lib.hid hx
        clear hR hkN hpfx m0 m1 m2 J5 hJ5 hlen2 hget hsp hx0 hx htg hdn hfx hrem
        gi_wp2_with fail
        refine region_read 6 [(34, .func (.yield l) #[] #[]), (35, .int .i64 (q : Int)), (36, .string s), (37, .int .i64 (q : Int)), (38, .int .i64 (f : Int)), (39, .string (s.extract q f))] (by kernel_rfl) (by kernel_rfl) (by simp) ?hread ?hfin
        case hread =>
          clear Hy Hrp Hbd Ham HSI HTg HTW hR2 HkN Hpfx M0 M1 M2 u5 hy hin5 hJ hJx h0 hcW hcM hTa hJa b0 b1 b2 b3 hBa hca hcma hl1 hT1 hr1 hla hplen Hdn Hx
          dsimp only [List.take, readRuns, puts, Act.put]
          refine ⟨?_, ?_, ?_, ?_, ?_, ?_, trivial⟩
          all_goals go_simp
        case hfin =>
          simp only [puts, Act.put]
          refine wpAnyIn_ready (rs := [6]) (by kernel_rfl) (by simp) ?_
          refine AllReadyIn.cons rfl (fun K hK => ?_) AllReadyIn.nil
          go_simp
          refine hR2.out.mono ?_
          rintro _ W6 ⟨bb, rfl, hbt, hbf, hk6⟩
          have hbt' := Lib.hid hbt
          have hbf' := Lib.hid hbf
          have Hk6 := Lib.hid hk6
          clear hbt hbf hk6
          refine hK _ _ ?_
          refine wpAnyIn_ready (rs := [7]) (by kernel_rfl) (by simp) ?_
          refine AllReadyIn.cons rfl (fun K2 hK2 => ?_) AllReadyIn.nil
          go_simp
          refine hK2 _ _ ?_
          refine wpAnyIn_done (by kernel_rfl) ?_ _
          clear hK hK2
          have hlt5 : ∀ k, k < B + 4 → k < w5.drew.heap.size := fun k hk => by show k < w5.heap.size; omega
          have hkeep : KeepN (fun k => (N₀ k ∧ k < B) ∨ k = B + 1 + 1 + 1) T W1 W6 := HkN.out.trans ⟨Hk6.out.size, fun k hk ho => Hk6.out.block k hk (by
            rcases ho with (ho | ho) | ho
            · exact .inl ho.1
            · exact .inr (.inl (by omega))
            · exact .inr (.inr ho))⟩
          have hsz6 : (B + 4) ≤ W6.heap.size := Nat.le_trans s5 Hk6.out.size
          have g0 : Boxed W6 B 60 (.func (.yield l) #[] #[]) := (Hk6.out.block B (hlt5 _ (by omega)) (.inr (.inl (by omega)))).trans M0.out
          have g1 : Boxed W6 (B + 1) 3 (.int .i64 (f : Int)) := (Hk6.out.block (B + 1) (hlt5 _ (by omega)) (.inr (.inl (by omega)))).trans M1.out
          have g2 : Boxed W6 (B + 1 + 1) 61 (.int .u8 (t : Int)) := (Hk6.out.block (B + 1 + 1) (hlt5 _ (by omega)) (.inr (.inl (by omega)))).trans M2.out
          cases bb with
          | true =>
            have hfin : ∀ W10, W10 = W6.setCell ⟨B + 1, 0, none⟩ (.int .i64 (q : Int)) → KeepN (fun k => (N₀ k ∧ k < B) ∨ k = B + 1 + 1 + 1) T W1 W10 ∧ BkI s u p l B Bn Bm (B + 4) J (pre ++ [y]).length T W10 := by
              rintro W10 rfl
              have hk10 : KeepN (fun k => (N₀ k ∧ k < B) ∨ k = B + 1 + 1 + 1) T W6 (W6.setCell ⟨B + 1, 0, none⟩ (.int .i64 (q : Int))) := KeepN.setCell _ _ _ _ _ _ (by omega) (fun e => by have := (hT1 _ e).1; omega)
              have hka := hkeep.trans hk10
              refine ⟨hka, ?_⟩
              rw [hplen]
              refine ⟨g0.other (by omega) _, hka.cell (p := ⟨Bn, 0, none⟩) (.inl (.inl ⟨hBn, hBnB⟩)) cn, hka.cell (p := ⟨Bm, 0, none⟩) (.inl (.inl ⟨hBm, hBmB⟩)) cm, ?_, Nat.le_trans hsz6 hk10.size, by rw [hla]; exact g2.other (by omega) _, q, dn ++ [(q, s.extract q f)], by omega, fun z hz _ => ?_, fun h => absurd h hu0, ?_, g1.set _, ?_⟩
              · exact (KeepN.trans ⟨Hk6.out.size, fun k hk ho => Hk6.out.block k hk (by
                  rcases ho with (ho | ho) | ho
                  · exact .inl ho.1
                  · exact .inr (.inl (by omega))
                  · exact .inr (.inr ho))⟩ hk10 : KeepN (fun k => (N₀ k ∧ k < B) ∨ k = B + 1 + 1 + 1) T w5 _).u8 (.inl (.inl ⟨hN0, by omega⟩)) (.inl (.inl ⟨hN1, by omega⟩)) u5.out
              · rw [Nat.add_sub_cancel, hc, Hx.out] at hz
                obtain rfl := Option.some.inj hz
                omega
              · rw [Nat.add_sub_cancel, hc, if_neg hu0, ← Hdn.out]
                simp
              · exact hJ.of (hbt'.out rfl) (hin5.more (by show w5.heap.size ≤ _; exact Hk6.out.size)) ⟨rfl, rfl, rfl, by simp, fun k _ hk => Below.heap_setCell _ _ _ k (fun e => hk (.inl (by have e : k = B + 1 := e; omega)))⟩
            have g1c := g1.cell
            have g1f := g1.frozen
            have Hfin := Lib.hid hfin
            clear hfin hkeep g0 g1 g2 hin5 hJ hJx
            gi_wp2_with fail
            exact Hfin.out _ rfl
          | false =>
            have Hfin : Hid (KeepN (fun k => (N₀ k ∧ k < B) ∨ k = B + 1 + 1 + 1) T W1 W6 ∧ (Code.ret = Code.ret ∧ (B + 4) ≤ W6.heap.size ∧ ∃ q, q <+: bckW s u p ∧ Jx q (fun k => (B ≤ k ∧ k < B + 4) ∨ T k) W6)) := Lib.hid ⟨hkeep, rfl, hsz6, _, Hpfx.out, hbf'.out rfl⟩
            clear hkeep g0 g1 g2 hin5 hJ hJx
            gi_wp2_with fail
            exact ⟨Hfin.out.1, rfl, Hfin.out.2.2⟩
  case done =>
    rintro D ys T W2 hD hT2 rfl hi hK
    rw [List.length_reverse, hrl] at hi
    obtain ⟨f, dn, hfs, hfx, hf0, hdn, m1i, hJ2⟩ := hi.to
    have hin : InT B (fun k => (B ≤ k ∧ k < B + 4) ∨ T k) W2 := fun k hk => by
      have := hi.sz
      rcases hk with hk | hk
      · omega
      · have := hT2 k hk; omega
    have c0 := hi.yl.cell
    have c1 := m1i.cell
    have cm := hi.cm
    have HK := Lib.hid hK
    rcases Nat.eq_zero_or_pos u with hu | hu
    · rw [if_pos hu, List.append_nil] at hdn
      rw [hdn] at hJ2
      have hlt : ¬ ((0 : Int) < (f : Int)) := by have := hf0 hu; omega
      have hmv := Moves.putObj (fun k => (B ≤ k ∧ k < B + 4) ∨ T k) W2 D (.deferred none) (.inr hD)
      have hJf := hJ.of hJ2 hin hmv
      have hinf := hin.more hmv.size
      clear hJ2 hi hK m1i
      go_wp2_with fail
      refine ⟨by simp, .inl ⟨_, _, rfl, run_takeDeferred HK.out, ?_⟩⟩
      exact ⟨_, results_none rfl _ _ _, ⟨_, rfl⟩, .inl ⟨_, _, rfl, hJf, hinf⟩⟩
    · rw [if_neg (by omega), show u - 1 - (u - 1) = 0 by omega] at hdn
      have hdn : dn ++ [(0, s.extract 0 f)] = bckW s u p := hdn
      obtain ⟨z, hz⟩ : ∃ z, (pcs s)[u - 1 - (u - 1)]? = some z := ⟨_, List.getElem?_eq_getElem (by omega)⟩
      have hlt : (0 : Int) < (f : Int) := by have := hfx z hz hu; have := pcs_chain s _ z hz; omega
      have hle : (f : Int) ≤ (s.size : Int) := by omega
      have hpfx : dn ++ [(0, s.extract 0 f)] <+: bckW s u p := by rw [hdn]; exact List.prefix_refl _
      have hlen2 : dn.length < (bckW s u p).length := by rw [← hdn]; simp
      have hall := hdn
      have hJ5 : J (dn) (fun k => (B ≤ k ∧ k < B + 4) ∨ T k) W2.drew := hJ.of hJ2 hin ⟨rfl, rfl, rfl, Nat.le_refl _, fun _ _ _ => rfl⟩
      obtain ⟨fn, tmps, assign, body, hy, hR⟩ := Hy.out (dn) (0, s.extract 0 f) _ W2.drew hJ5 hin hlen2 hpfx
      dsimp only [encCl] at hy
      rw [show ((0 : Nat) : Int) = 0 from rfl] at hy
      have hR2 := Lib.hid (hR.mono (R' := fun e W' => ∃ b : Bool, e = .returned (.bool b) ∧ (b = true → J (dn ++ [(0, s.extract 0 f)]) (fun k => (B ≤ k ∧ k < B + 4) ∨ T k) W') ∧ (b = false → Jx (dn ++ [(0, s.extract 0 f)]) (fun k => (B ≤ k ∧ k < B + 4) ∨ T k) W') ∧ KeepN N₀ (fun k => (B ≤ k ∧ k < B + 4) ∨ T k) W2.drew W') (by
        rintro e W' (⟨rfl, h1, h2⟩ | ⟨rfl, h1, h2⟩)
        · exact ⟨true, rfl, fun _ => h1, fun e => (by cases e), h2⟩
        · exact ⟨false, rfl, fun e => (by cases e), fun _ => h1, h2⟩))
      have m1d : W2.drew.cell? ⟨B, 0, none⟩ = some (.func (.yield l) #[] #[]) := c0
      have m5d : W2.drew.cell? ⟨B + 1, 0, none⟩ = some (.int .i64 (f : Int)) := c1
      have mcd : W2.drew.cell? ⟨Bm, 0, none⟩ = some (.string s) := cm
      have Hpfx := Lib.hid hpfx
      have Hall := Lib.hid hall
      have Hin := Lib.hid hin
      clear hR hpfx hJ2 hJ5 hlen2 hi hK hall hin hdn hfx m1i hz
      go_wp2_with fail
      refine (wpIn_wide (n := n)).1 ?_
      refine region_read 4 [(45, .func (.yield l) #[] #[]), (46, .string s), (47, .int .i64 (f : Int)), (48, .string (s.extract 0 f))] (by kernel_rfl) (by kernel_rfl) (by simp) ?hread2 ?hfin2
      case hread2 =>
        clear Hy Hrp Hbd Ham HSI HTg HTW hR2 Hpfx Hall Hin hy hJ hJx h0 hcW hcM hTa hJa b0 b1 b2 b3 hBa hca hcma hT2 HK
        dsimp only [List.take, readRuns, puts, Act.put]
        refine ⟨?_, ?_, ?_, ?_, trivial⟩
        all_goals go_simp
      case hfin2 =>
        simp only [puts, Act.put]
        refine wpAnyIn_ready (rs := [4]) (by kernel_rfl) (by simp) ?_
        refine AllReadyIn.cons rfl (fun K hK => ?_) AllReadyIn.nil
        go_simp
        refine ⟨fun _ => by omega, hR2.out.mono ?_⟩
        rintro _ W6 ⟨bb, rfl, hbt, hbf, hk6⟩
        have hD6 : W6.heap[D]? = some (.deferred (some [])) := (hk6.block D (by show D < W2.heap.size; exact (hT2 D hD).2) (.inr (.inr hD))).trans HK.out
        have hin6 : InT B (fun k => (B ≤ k ∧ k < B + 4) ∨ T k) W6 := Hin.out.more (by show W2.heap.size ≤ _; exact hk6.size)
        have hmv := Moves.putObj (fun k => (B ≤ k ∧ k < B + 4) ∨ T k) W6 D (.deferred none) (.inr hD)
        have Hres : Hid ((∃ xs T', xs = bckW s u p ∧ J xs T' (W6.putObj D (.deferred none)) ∧ InT B T' (W6.putObj D (.deferred none))) ∨ (∃ pre T', pre <+: bckW s u p ∧ Jx pre T' (W6.putObj D (.deferred none)) ∧ InT B T' (W6.putObj D (.deferred none)))) := Lib.hid (by
          cases bb with
          | true => exact .inl ⟨_, _, Hall.out, hJ.of (hbt rfl) hin6 hmv, hin6.more hmv.size⟩
          | false => exact .inr ⟨_, _, Hpfx.out, hJx.of (hbf rfl) hin6 hmv, hin6.more hmv.size⟩)
        have HD6 := Lib.hid hD6
        clear hbt hbf hk6 hin6 hmv hD6 hR2 Hy hJ hJx
        refine hK _ _ ?_
        refine wpAnyIn_done (by kernel_rfl) ?_ _
        clear hK
        gi_wp2_with fail
        refine ⟨by simp, .inl ⟨_, _, rfl, run_takeDeferred HD6.out, ?_⟩⟩
        exact ⟨_, results_none rfl _ _ _, ⟨_, rfl⟩, Hres.out⟩
  case stop =>
    rintro D c pre T W2 hD hT2 _ ⟨rfl, hsA, q, hq, h9⟩ hK
    have hin : InT B (fun k => (B ≤ k ∧ k < B + 4) ∨ T k) W2 := fun k hk => by
      rcases hk with hk | hk
      · omega
      · have := hT2 k hk; omega
    have hmv := Moves.putObj (fun k => (B ≤ k ∧ k < B + 4) ∨ T k) W2 D (.deferred none) (.inr hD)
    have hJf := hJx.of h9 hin hmv
    have hinf := hin.more hmv.size
    have HK := Lib.hid hK
    clear h9 hK
    gi_wp2_with fail
    refine ⟨by simp, .inl ⟨_, _, rfl, run_takeDeferred HK.out, ?_⟩⟩
    exact ⟨_, results_none rfl _ _ _, ⟨_, rfl⟩, .inr ⟨q, _, hq, hJf, hinf⟩⟩
end Go.Proofs.YtiafofekobcifaaDoor

/- Layer 12, the program: the first place that is wanted of those at which words begin. -/
namespace Go.Proofs.YtiafofekobcifaaDoor
open Go.RowKit Go.Shelf Go.Lib
attribute [local go_sem] Oper.semAt_some

theorem seqN_below {α : Type} {F : Fence} {n : Nat} {P : Program} {g : Nat} {lb : Array Value} {encs : α → Array Value} {S Sp : List α → Prop} {N : Nat} {N₀ : Bl} {w w' : World} (h : SeqN F n P g lb encs S Sp N N₀ w) (hb : Below w.heap.size w w') : SeqN F n P g lb encs S Sp N N₀ w' :=
  fun l J Jx W hW => h l J Jx W (hb.trans (hW.mono hb.size))
/-- the first wanted place of a list of segments -/
def fstW (ok : Nat → Bool) (o : Nat) : List (Nat × ByteArray) → Nat
  | [] => o
  | x :: t => if ok x.1 = true ∧ wordW x.2 = true then x.1 else fstW ok o t
theorem fstW_at (ok : Nat → Bool) (o : Nat) (x : Nat × ByteArray) (t : List (Nat × ByteArray)) (hx : ok x.1 = true ∧ wordW x.2 = true) : ∀ pre : List (Nat × ByteArray), (∀ y ∈ pre, ¬ (ok y.1 = true ∧ wordW y.2 = true)) → fstW ok o (pre ++ x :: t) = x.1
  | [], _ => by rw [List.nil_append, fstW, if_pos hx]
  | y :: pre, h => by
    rw [List.cons_append, fstW, if_neg (h y (by simp))]
    exact fstW_at ok o x t hx pre (fun z hz => h z (by simp [hz]))
theorem fstW_none (ok : Nat → Bool) (o : Nat) : ∀ L : List (Nat × ByteArray), (∀ y ∈ L, ¬ (ok y.1 = true ∧ wordW y.2 = true)) → fstW ok o L = o
  | [], _ => rfl
  | y :: L, h => by
    rw [fstW, if_neg (h y (by simp))]
    exact fstW_none ok o L (fun z hz => h z (by simp [hz]))
theorem fst_next (p e : Nat) : ∀ L, fstW (fun b => decide (p < b)) e L = nextF p e L
  | [] => rfl
  | x :: t => by
    rw [nextF_cons, fstW, fst_next p e t]
    simp
theorem prvB_cons (p : Nat) (x : Nat × ByteArray) (t : List (Nat × ByteArray)) : prvB p (x :: t) = if x.1 < p ∧ wordW x.2 = true then x.1 else prvB p t := rfl
theorem fst_prev (p : Nat) : ∀ L, fstW (fun b => decide (b < p)) 0 L = prvB p L
  | [] => rfl
  | x :: t => by
    rw [fstW, fst_prev p t, prvB_cons]
    simp
set_option maxRecDepth 100000 in
set_option maxHeartbeats 4000000 in
theorem pbeg_any (gf wf : FuncId) (lb : Array Value) (L : List (Nat × ByteArray)) (N₀ : Bl) (Ba : Nat) (ok : Nat → Bool) (o : Nat) (w : World)
    (hgf : ∀ args w, (callFunc gf args).run Tryd.prog w = .ok (.enter gf args) w)
    (hseq : SeqN Fence.wide 8 Tryd.prog gf lb encCl (fun ys => ys = L) (fun pre => pre <+: L) L.length N₀ w) (hn0 : ∀ k, N₀ k → k < w.heap.size)
    (hwf : ∀ args w, (callFunc wf args).run Tryd.prog w = .ok (.enter wf args) w) (hBa : Ba < w.heap.size)
    (hok : ∀ (x : Nat) (W : World), Below w.heap.size w W → Calls Tryd.prog wf #[.int .i64 (x : Int), .pointer (some ⟨Ba, 0, none⟩)] W fun e w' => e = .returned (.bool (ok x)) ∧ Below W.heap.size W w')
    (hT : Utf8Tabs 0 1 w) :
    Calls Tryd.prog 32 #[.func (.func gf) #[] lb, .int .i64 (o : Int), .func (.func wf) #[] #[.pointer (some ⟨Ba, 0, none⟩)]] w fun e w' =>
      e = .returned (.int .i64 (fstW ok o L : Nat)) ∧ Below w.heap.size w w' := by
  obtain ⟨B, hB⟩ : ∃ B, w.heap.size = B := ⟨_, rfl⟩
  have h2 := tabs_size hT
  rw [hB] at hn0 hBa hok h2 ⊢
  have HT := Lib.hid hT
  have Hok := Lib.hid hok
  have Hseq := Lib.hid hseq
  clear hT hok hseq
  refine (callsIn_wide (n := 9)).1 ?_
  refine callsIn_of_wp_marks Tryd.func32 rfl trivial ?_ rfl
  refine wpIn_wide.2 ?_
  simp only [Tryd.ntmps32, List.size_toArray, List.length_cons, List.length_nil, Nat.reduceAdd, Nat.reduceSub, Array.replicate_succ, Array.replicate_zero, List.push_toArray, List.append_toArray, List.nil_append, List.cons_append]
  obtain ⟨Wa, hWa⟩ : ∃ Wa, (w.alloc (.cells #[.func (.func wf) #[] #[.pointer (some ⟨Ba, 0, none⟩)]] 48)).alloc (.cells #[.int .i64 0] 3) = Wa := ⟨_, rfl⟩
  have hsz : Wa.heap.size = B + 2 := by rw [← hWa]; simp [hB]
  have b0 : Boxed Wa B 48 (.func (.func wf) #[] #[.pointer (some ⟨Ba, 0, none⟩)]) := by rw [← hWa]; simp only [Boxed, alloc_get, World.size_alloc, hB]; rw [if_neg (by omega)]; simp
  have b1 : Boxed Wa (B + 1) 3 (.int .i64 0) := by rw [← hWa]; simp only [Boxed, alloc_get, World.size_alloc, hB]; simp
  have hBa0 : Below B w Wa := by rw [← hWa]; exact ((Below.refl B w).alloc (by omega) _).alloc (by simp; omega) _
  go_wp2_with fail
  clear hWa
  refine (wpIn_wide (n := 9)).1 ?_
  refine range_N1 rfl (by omega) (gf := gf) (lb := lb) rfl trivial hgf
    (seqN_below Hseq.out (by rw [hB]; exact hBa0)) (fun k hk => by have := hn0 k hk; omega) (fun _ => rfl)
    (fun pre T W => (Boxed W B 48 (.func (.func wf) #[] #[.pointer (some ⟨Ba, 0, none⟩)]) ∧ Boxed W (B + 1) 3 (.int .i64 0) ∧ ∀ y ∈ pre, ¬ (ok y.1 = true ∧ wordW y.2 = true)) ∧ Below B w W)
    (fun c pre T W => (c = .ret ∧ Boxed W (B + 1) 3 (.int .i64 (fstW ok o L : Nat))) ∧ Below B w W)
    ?hI ?hIx
    ⟨⟨b0, b1, fun _ h => by cases h⟩, hBa0⟩
    ?a1 ?assign ?body ?done ?stop
  case assign =>
    intro l x W K hK
    gi_wp2
    exact hK
  case hI =>
    rintro pre T T' W1 W2 ⟨⟨h1, h2, h3⟩, hb⟩ hT hm hg
    exact ⟨⟨(hm.block _ h1.lt (fun e => by have := (hT _ e).1; omega)).trans h1, (hm.block _ h2.lt (fun e => by have := (hT _ e).1; omega)).trans h2, h3⟩, hb.trans ⟨hm.os, hm.tape, hm.output, hm.size, fun k hk => hm.block k (by have := hb.size; omega) (fun e => by have := (hT _ e).1; omega)⟩⟩
  case hIx =>
    rintro c pre T T' W1 W2 ⟨⟨h0, h1⟩, hb⟩ hT hm hg
    exact ⟨⟨h0, (hm.block _ h1.lt (fun e => by have := (hT _ e).1; omega)).trans h1⟩, hb.trans ⟨hm.os, hm.tape, hm.output, hm.size, fun k hk => hm.block k (by have := hb.size; omega) (fun e => by have := (hT _ e).1; omega)⟩⟩
  case body =>
    rintro l pre x T W hl hT hr ⟨⟨h1, h3, h4⟩, hb⟩ hlen hsp
    have hTW : Utf8Tabs 0 1 W := Utf8Tabs_below HT.out (by rw [hB]; exact hb)
    have hcw := Lib.hid (pisword_any x.2 W hTW)
    have c1 := h1.cell
    have hs1 : B ≤ W.heap.size := by have := hb.size; omega
    have H1 := Lib.hid h1
    have H3 := Lib.hid h3
    have H4 := Lib.hid h4
    have Hb := Lib.hid hb
    clear h1 h3 h4 hb hTW
    gi_wp2_with fail
    refine ⟨trivial, (CallsIn.inRound l (callsIn_wide.2 hcw.out)).mono ?_⟩
    rintro _ w1 ⟨rfl, b1'⟩
    have k1 := (boxed_below H1.out b1').cell
    have k3 := boxed_below H3.out b1'
    have hb1 : Below B w w1 := Hb.out.trans (b1'.mono hs1)
    have hkn : KeepN N₀ T W w1 := KeepN.of_below _ _ b1'
    cases hv : wordW x.2 with
    | false =>
      have Hfin : Hid (KeepN N₀ T W w1 ∧ (Boxed w1 B 48 (.func (.func wf) #[] #[.pointer (some ⟨Ba, 0, none⟩)]) ∧ Boxed w1 (B + 1) 3 (.int .i64 0) ∧ ∀ y ∈ pre ++ [x], ¬ (ok y.1 = true ∧ wordW y.2 = true)) ∧ Below B w w1) := Lib.hid ⟨hkn, ⟨boxed_below H1.out b1', k3, fun y hy => by
        rcases List.mem_append.1 hy with h | h
        · exact H4.out y h
        · rw [List.mem_singleton] at h
          subst h
          rw [hv]
          simp⟩, hb1⟩
      clear k1 k3 hkn b1' hv hb1
      gi_wp2_with fail
      refine ⟨fun f e => (by cases e), ?_⟩
      gi_wp2_with fail
      exact Hfin.out
    | true =>
      have hcb := Lib.hid (Hok.out x.1 w1 hb1)
      have Hb1 := Lib.hid b1'
      have K3 := Lib.hid k3
      have Hkn := Lib.hid hkn
      have HB1 := Lib.hid hb1
      clear b1' k3 hkn hb1
      gi_wp2_with fail
      refine ⟨trivial, (CallsIn.inRound l (callsIn_wide.2 hcb.out)).mono ?_⟩
      rintro _ w2 ⟨rfl, b2'⟩
      have q1 := boxed_below H1.out (Hb1.out.trans (b2'.mono Hb1.out.size))
      have q3 := boxed_below K3.out b2'
      have hb2 : Below B w w2 := HB1.out.trans (b2'.mono (by have := HB1.out.size; omega))
      have hkn : KeepN N₀ T W w2 := Hkn.out.trans (KeepN.of_below _ _ b2')
      cases ho : ok x.1 with
      | false =>
        have Hfin : Hid (KeepN N₀ T W w2 ∧ (Boxed w2 B 48 (.func (.func wf) #[] #[.pointer (some ⟨Ba, 0, none⟩)]) ∧ Boxed w2 (B + 1) 3 (.int .i64 0) ∧ ∀ y ∈ pre ++ [x], ¬ (ok y.1 = true ∧ wordW y.2 = true)) ∧ Below B w w2) := Lib.hid ⟨hkn, ⟨q1, q3, fun y hy => by
          rcases List.mem_append.1 hy with h | h
          · exact H4.out y h
          · rw [List.mem_singleton] at h
            subst h
            rw [ho]
            simp⟩, hb2⟩
        clear q1 q3 hkn b2' ho hb2
        gi_wp2_with fail
        exact Hfin.out
      | true =>
        have hval : fstW ok o L = x.1 := by
          obtain ⟨t, ht⟩ := hsp
          rw [← ht, List.append_assoc]
          exact fstW_at ok o x t ⟨ho, hv⟩ pre H4.out
        have q3c := q3.cell
        have q3f := q3.frozen
        have Hfin : Hid (KeepN N₀ T W (w2.setCell ⟨B + 1, 0, none⟩ (.int .i64 (x.1 : Int))) ∧ Boxed (w2.setCell ⟨B + 1, 0, none⟩ (.int .i64 (x.1 : Int))) (B + 1) 3 (.int .i64 (fstW ok o L : Nat)) ∧ Below B w (w2.setCell ⟨B + 1, 0, none⟩ (.int .i64 (x.1 : Int)))) := Lib.hid
          ⟨hkn.trans (KeepN.setCell _ _ _ _ _ _ (fun h => by have := hn0 _ h; omega) (fun e => by have := (hT _ e).1; omega)), by rw [hval]; exact q3.set _, hb2.setCell (p := ⟨B + 1, 0, none⟩) (by show B ≤ B + 1; omega) _⟩
        clear q1 q3 hkn b2' ho hb2 hval hv
        gi_wp2_with fail
        exact ⟨Hfin.out.1, ⟨rfl, Hfin.out.2.1⟩, Hfin.out.2.2⟩
  case done =>
    rintro D ys T W hD hT rfl ⟨⟨h1, h3, h4⟩, hb⟩ hK
    have hv : fstW ok o ys = o := fstW_none ok o ys h4
    have c1 := h3.cell
    have c1f := h3.frozen
    have H1 := Lib.hid h3
    have HK := Lib.hid hK
    have Hb := Lib.hid hb
    clear h1 h3 h4 hK hb
    go_wp2
    have hD1 := hT D hD
    have hk' : (W.setCell ⟨B + 1, 0, none⟩ (.int .i64 (o : Int))).heap[D]? = some (.deferred (some [])) := (KeepsOthers.setCell _ _ _).same D _ HK.out rfl
    have hc7 := cell_kept (H1.out.set (.int .i64 (o : Int))).cell (grownBy_putObj' _ D (.deferred none)) (fun r e => by cases e; exact ⟨_, hk', rfl⟩)
    refine ⟨by simp, .inl ⟨_, _, rfl, run_takeDeferred hk', ?_⟩⟩
    have hfb : Below B w (W.setCell ⟨B + 1, 0, none⟩ (.int .i64 (o : Int))) := Hb.out.setCell (p := ⟨B + 1, 0, none⟩) (by show B ≤ B + 1; omega) _
    refine ⟨.int .i64 (o : Int), ?_, by rw [hv], hfb.trans (belowK_b (w := w) (by omega) _ D _ (.deferred none) (by omega) hk' rfl rfl)⟩
    simp [results, Tryd.f32, go_sem, hc7]
  case stop =>
    rintro D cd pre T W hD hT _ ⟨⟨rfl, h4⟩, hb⟩ hK
    have H4 := Lib.hid h4
    have HK := Lib.hid hK
    have Hb := Lib.hid hb
    clear h4 hK hb
    gi_wp2
    have hD1 := hT D hD
    have hc7 := cell_kept H4.out.cell (grownBy_putObj' _ D (.deferred none)) (fun r e => by cases e; exact ⟨_, HK.out, rfl⟩)
    refine ⟨by simp, .inl ⟨_, _, rfl, run_takeDeferred HK.out, ?_⟩⟩
    refine ⟨_, ?_, rfl, Hb.out.trans (belowK_b (w := w) (by omega) _ D _ (.deferred none) (by omega) HK.out rfl rfl)⟩
    simp [results, Tryd.f32, go_sem, hc7]
theorem pnext1_any (Ba p x : Nat) (w : World) (hc : w.cell? ⟨Ba, 0, none⟩ = some (.int .i64 (p : Int))) : Calls Tryd.prog 33 #[.int .i64 (x : Int), .pointer (some ⟨Ba, 0, none⟩)] w fun e w' => e = .returned (.bool (decide (p < x))) ∧ Below w.heap.size w w' := by
  go_enter Tryd.func33, Tryd.ntmps33
  go_wp2_with fail
  go_ret
  exact ⟨rfl, Below.refl _ _⟩
theorem pprev1_any (Ba p x : Nat) (w : World) (hc : w.cell? ⟨Ba, 0, none⟩ = some (.int .i64 (p : Int))) : Calls Tryd.prog 35 #[.int .i64 (x : Int), .pointer (some ⟨Ba, 0, none⟩)] w fun e w' => e = .returned (.bool (decide (x < p))) ∧ Below w.heap.size w w' := by
  go_enter Tryd.func35, Tryd.ntmps35
  go_wp2_with fail
  go_ret
  exact ⟨rfl, Below.refl _ _⟩
end Go.Proofs.YtiafofekobcifaaDoor

/- Layer 12, the program: At. -/
namespace Go.Proofs.YtiafofekobcifaaDoor
open Go.RowKit Go.Shelf Go.Lib
attribute [local go_sem] Oper.semAt_some

/-- the cluster that has a byte is one of the list -/
theorem around_get (s : ByteArray) (p a b : Nat) (h : Around s p a b) : ∃ (k : Nat) (x : Nat × ByteArray), (pcs s)[k]? = some x ∧ x.1 = a ∧ x.1 + x.2.size = b ∧ a ≤ p ∧ p < b := by
  obtain ⟨k, hk, hkc, h1, h2, rfl, rfl⟩ := h
  have hb := bords_pcs s k hk k 0 .zero (Nat.zero_le _) (Nat.le_refl _)
  have hd : (pcs s).drop ((bords s k 0 k).map (pc s)).length = pcsF s (chars s) k := by
    have hb : pcs s = (bords s k 0 k).map (pc s) ++ pcsF s (chars s) k := hb
    rw [hb, List.drop_left]
  have hne : ((bords s k 0 k).map (pc s)).length < (pcs s).length := by
    rcases Nat.lt_or_ge ((bords s k 0 k).map (pc s)).length (pcs s).length with h | h
    · exact h
    · rw [List.drop_eq_nil_of_le h, pcsF_step s k hkc] at hd
      cases hd
  obtain ⟨_, hx⟩ := drop_at s _ k hd hne
  refine ⟨_, _, hx, rfl, ?_, h1, h2⟩
  have h3 := pc_size s k
  have h4 := placeAt_mono s (Nat.le_of_lt (clEnd_bounds hkc).1)
  show placeAt s k + (s.extract (placeAt s k) (placeAt s (clEnd s k))).size = placeAt s (clEnd s k)
  have h3 : (s.extract (placeAt s k) (placeAt s (clEnd s k))).size = placeAt s (clEnd s k) - placeAt s k := h3
  omega
/-- the first that is told backward -/
theorem rem_first (s : ByteArray) (k t : Nat) (h : k ≤ (pcs s).length) : ∃ t', remW s t k = (begW (MW s) 0 0 ((pcs s).take k), s.extract (begW (MW s) 0 0 ((pcs s).take k)) t) :: t' := by
  have := rem_is s k t h
  refine ⟨(wdsG (MW s) s 0 0 ((pcs s).take k)).reverse, ?_⟩
  rw [← List.reverse_reverse (remW s t k), this]
  simp
/-- the caller's law where the assignment stores in a block of one's own -/
theorem range_N2 {F : Fence} {P : Program} {α : Type} {ps : Array Tmp} {assign body : Code} {gf : Nat} {lb : Array Value} {encs : α → Array Value} {S Sp : List α → Prop} {N : Nat} {N₀ : Bl}
    {n : Nat} {g : Operand} {Q : Exit → Act → World → Prop} {a : Act} {w : World} (hro : F.round = none) (h1 : 1 ≤ n) (hg : a.eval g = .func (.func gf) #[] lb) (hFg : F.fn gf) (eg : ∀ args w, (callFunc gf args).run P w = .ok (.enter gf args) w)
    (hseq : SeqN F (n - 1) P gf lb encs S Sp N N₀ w) (hn0 : ∀ k, N₀ k → k < w.heap.size) (hps : ∀ x, (encs x).size = ps.size)
    (I : List α → Bl → World → Prop) (Ix : Code → List α → Bl → World → Prop) (hI : TC w.heap.size I) (hIx : ∀ c, TC w.heap.size (Ix c)) (h0 : I [] (fun _ => False) w)
    (Px : α → Bl → World → Prop) (hPx : ∀ x, TC w.heap.size (fun (_ : Unit) => Px x))
    (a₁ : α → Act)
    (hassign : ∀ (l : Nat) (pre : List α) (x : α) (T : Bl) (W : World) (K : Act → World → Prop), I pre T W → InT w.heap.size T W → T l → (∀ W', KeepN N₀ T W W' → I pre T W' → Px x T W' → K (a₁ x) W') →
      assign.wpIn (F.inRound l) (n - 1 - 1) P (Exit.then K (fun _ _ _ => False)) { tmps := (ps.zip (encs x)).foldl (fun t (p, v) => t.setIfInBounds p v) a.tmps, defers := [] } W)
    (hbody : ∀ (l : Nat) (pre : List α) (x : α) (T : Bl) (W : World), T l → InT w.heap.size T W → (∃ r, W.heap[l]? = some (.loop r)) → I pre T W → Px x T W → pre.length < N → Sp (pre ++ [x]) →
      body.wpIn (F.inRound l) (n - 1 - 1) P (postN N₀ I Ix (pre ++ [x]) T W) (a₁ x) W)
    (hdone : ∀ (D : Nat) (xs : List α) (T : Bl) (W : World), T D → InT w.heap.size T W → S xs → I xs T W → W.heap[D]? = some (.deferred (some [])) → Q .normal { a with defers := { target := .collected D, args := #[] } :: a.defers } W)
    (hstop : ∀ (D : Nat) (c : Code) (pre : List α) (T : Bl) (W : World), T D → InT w.heap.size T W → Sp pre → Ix c pre T W → W.heap[D]? = some (.deferred (some [])) → c.wpIn F n P Q { a with defers := { target := .collected D, args := #[] } :: a.defers } W) :
    (Code.rangeFunc g ps assign body).wpIn F n P Q a w :=
  range_N hro h1 hg hFg eg hseq hn0 hps I Ix hI hIx h0 (fun x a' T W => a' = a₁ x ∧ Px x T W) (fun x _ _ _ _ _ _ h hT hm hg => ⟨h.1, hPx x () _ _ _ _ h.2 hT hm hg⟩)
    (fun l pre x T W K hi hT hl hK => hassign l pre x T W K hi hT hl (fun W' h1 h2 h3 => hK _ _ h1 h2 ⟨rfl, h3⟩))
    (fun l pre x a' T W hl hT hr hi e hn hs => by obtain ⟨rfl, e⟩ := e; exact hbody l pre x T W hl hT hr hi e hn hs) hdone hstop
set_option maxRecDepth 100000 in
set_option maxHeartbeats 4000000 in
theorem pat_any (s : ByteArray) (q : Int) (w : World) (hs : s.size ≤ 1073741824) (hT : Utf8Tabs 0 1 w) :
    Calls Tryd.prog 11 #[.string s, .int .i64 q] w fun e w' => e = .returned (.tuple #[.int .i64 ((atW s q).1 : Nat), .int .i64 ((atW s q).2 : Nat)]) ∧ Below w.heap.size w w' := by
  obtain ⟨B, hB⟩ : ∃ B, w.heap.size = B := ⟨_, rfl⟩
  have h2 := tabs_size hT
  have HI := Lib.hid (fun W => pinto_any s q W hs)
  have hpl : intoW s q ≤ s.size := by unfold intoW; omega
  have hAt : atW s q = atF (intoW s q) s.size (wds s) := rfl
  rw [hAt]
  clear hAt
  obtain ⟨p, hp⟩ : ∃ p, intoW s q = p := ⟨_, rfl⟩
  rw [hp] at HI hpl ⊢
  rw [hB] at h2 ⊢
  obtain ⟨v1, v2, hvv⟩ : ∃ v1 v2, atF p s.size (wds s) = (v1, v2) := ⟨_, _, rfl⟩
  rw [hvv]
  dsimp only
  have Hvv := Lib.hid hvv
  have HT := Lib.hid hT
  clear hT hp hvv
  refine (callsIn_wide (n := 9)).1 ?_
  refine callsIn_of_wp_marks Tryd.func11 rfl trivial ?_ rfl
  refine wpIn_wide.2 ?_
  simp only [Tryd.ntmps11, List.size_toArray, List.length_cons, List.length_nil, Nat.reduceAdd, Nat.reduceSub, Array.replicate_succ, Array.replicate_zero, List.push_toArray, List.append_toArray, List.nil_append, List.cons_append]
  obtain ⟨Wa, hWa⟩ : ∃ Wa, (w.alloc (.cells #[.int .i64 0] 3)).alloc (.cells #[.int .i64 0] 3) = Wa := ⟨_, rfl⟩
  have hsz : Wa.heap.size = B + 2 := by rw [← hWa]; simp [hB]
  have b0 : Boxed Wa B 3 (.int .i64 0) := by rw [← hWa]; simp only [Boxed, alloc_get, World.size_alloc, hB]; rw [if_neg (by omega)]; simp
  have b1 : Boxed Wa (B + 1) 3 (.int .i64 0) := by rw [← hWa]; simp only [Boxed, alloc_get, World.size_alloc, hB]; simp
  have hBa : Below B w Wa := by rw [← hWa]; exact ((Below.refl B w).alloc (by omega) _).alloc (by simp; omega) _
  go_wp2_with fail
  clear hWa
  refine (HI.out Wa).mono ?_
  rintro _ w1 ⟨rfl, r1⟩
  have hs1 := r1.size
  have c0 := boxed_below b0 r1
  have c1 := boxed_below b1 r1
  have hB1 : Below B w w1 := hBa.trans (r1.mono (by omega))
  have T1 := Lib.hid (Utf8Tabs_below HT.out (by rw [hB]; exact hB1))
  clear r1 b0 b1 hBa HI
  by_cases hpe : p = s.size
  · subst hpe
    obtain ⟨rfl, rfl⟩ := Prod.mk.inj (Hvv.out.symm.trans (at_last s))
    have c0c := c0.cell
    have c0f := c0.frozen
    have d1 : Boxed (w1.setCell ⟨B, 0, none⟩ (.int .i64 (s.size : Int))) (B + 1) 3 (.int .i64 0) := c1.other (by omega) _
    have d1c := d1.cell
    have d1f := d1.frozen
    obtain ⟨w2, hw2⟩ : ∃ w2, w1.setCell ⟨B, 0, none⟩ (.int .i64 (s.size : Int)) = w2 := ⟨_, rfl⟩
    rw [hw2] at d1c d1f d1
    have e0 : Boxed w2 B 3 (.int .i64 (s.size : Int)) := by rw [← hw2]; exact c0.set _
    have r2 : Below B w w2 := by rw [← hw2]; exact hB1.setCell (p := ⟨B, 0, none⟩) (Nat.le_refl _) _
    obtain ⟨w3, hw3⟩ : ∃ w3, w2.setCell ⟨B + 1, 0, none⟩ (.int .i64 (s.size : Int)) = w3 := ⟨_, rfl⟩
    have f0 : Boxed w3 B 3 (.int .i64 (s.size : Int)) := by rw [← hw3]; exact e0.other (by omega) _
    have f1 : Boxed w3 (B + 1) 3 (.int .i64 (s.size : Int)) := by rw [← hw3]; exact d1.set _
    have r3 : Below B w w3 := by rw [← hw3]; exact r2.setCell (p := ⟨B + 1, 0, none⟩) (by show B ≤ B + 1; omega) _
    have f0c := f0.cell
    have f1c := f1.cell
    have Hr := Lib.hid r3
    clear c0 c1 d1 e0 f0 f1 r2 r3 hB1 Hvv
    go_wp2_with fail
    refine ⟨.tuple #[.int .i64 (s.size : Int), .int .i64 (s.size : Int)], ?_, rfl, Hr.out⟩
    simp [results, Tryd.f11, go_sem, f0c, f1c]
  · have hlt : p < s.size := by omega
    have HC := Lib.hid (fun W hT => at_any s (p : Int) p W (by omega) hlt hs hT)
    have hpe' : ((p : Int) == (s.size : Int)) = false := by simp; omega
    have C0 := Lib.hid c0
    have C1 := Lib.hid c1
    have HB1 := Lib.hid hB1
    clear c0 c1 hB1 hpl
    go_wp2_with fail
    refine (HC.out w1 T1.out).mono ?_
    rintro _ w2 ⟨⟨a, b, rfl, har⟩, r2⟩
    obtain ⟨k, x, hx, hxa, hxb, hap, hpb⟩ := around_get s p a b har
    obtain ⟨n, y, hy, hyb, hyx, hxy, htk, _⟩ := seg_of s k x hx
    have hyc := wds_chain s n y hy
    obtain ⟨i, hbd⟩ := seg_bord s n y hy
    have hv := at_seg s p n y hy (by omega) (by omega)
    have hk := (List.getElem?_eq_some_iff.1 hx).1
    have hbc := bordCl_end s k x hx
    rw [hxb] at hbc
    obtain ⟨tl, htl⟩ := rem_first s k b (Nat.le_of_lt hk)
    rw [← hyb] at htl
    rw [Hvv.out] at hv
    obtain ⟨hf, hz⟩ := Prod.mk.inj hv
    rw [← hf] at htl hbd
    have hzs : v2 ≤ s.size := by omega
    have hz1 : v1 + y.2.size = v2 := by omega
    have hf1 : v1 ≤ v2 := by omega
    have Hbc := Lib.hid hbc
    have Hbd := Lib.hid hbd
    have Htl := Lib.hid (show bckW s (k + 1) b = (v1, s.extract v1 b) :: tl from htl)
    have Hdr := Lib.hid (show (wds s).drop n = (v1, y.2) :: (wds s).drop (n + 1) from by rw [drop_consW hy, hf])
    have hs2 := r2.size
    have d0 := boxed_below C0.out r2
    have d1 := boxed_below C1.out r2
    have hB2 : Below B w w2 := HB1.out.trans (r2.mono (by have := HB1.out.size; omega))
    have T2 := Lib.hid (Utf8Tabs_below T1.out r2)
    have HBk := Lib.hid (fun W => bk_mk s (b : Int) W)
    clear hv hz hf Hvv htl hbd hbc hyc har hyx hxy htk r2 T1 HC C0 C1 HB1 hx hxa hxb hyb hap
    obtain ⟨C, hC⟩ : ∃ C, w2.heap.size = C := ⟨_, rfl⟩
    have hBC : B + 2 ≤ C := by have := d1.lt; omega
    go_wp2_with fail
    refine (HBk.out _).mono ?_
    rintro _ w3 ⟨rfl, hw3⟩
    rw [hC]
    have g0 : Boxed w3 B 3 (.int .i64 0) := by rw [hw3]; exact (d0.alloc _).alloc _
    have g1 : Boxed w3 (B + 1) 3 (.int .i64 0) := by rw [hw3]; exact (d1.alloc _).alloc _
    have m0 : Boxed w3 C 9 (.string s) := by
      rw [hw3]
      have h := Boxed.new w2 9 (.string s)
      rw [hC] at h
      exact h.alloc _
    have m1 : Boxed w3 (C + 1) 3 (.int .i64 (b : Int)) := by
      rw [hw3]
      have h := Boxed.new (w2.alloc (.cells #[.string s] 9)) 3 (.int .i64 (b : Int))
      rw [World.size_alloc, hC] at h
      exact h
    have z3 : w3.heap.size = C + 2 := by rw [hw3]; simp [hC]
    have r3 : Below w2.heap.size w2 w3 := by rw [hw3]; exact ((Below.refl _ w2).alloc (Nat.le_refl _) _).alloc (by simp) _
    have hB3 : Below B w w3 := hB2.trans (r3.mono (by omega))
    have T3 := Utf8Tabs_below T2.out r3
    clear hw3 d0 d1 hB2 r3 HBk T2
    go_wp2_with fail
    refine (wpIn_wide (n := 9)).1 ?_
    refine range_N2 rfl (by omega) (gf := 49) (lb := #[.pointer (some ⟨C + 1, 0, none⟩), .pointer (some ⟨C, 0, none⟩)]) rfl trivial (enters_of Tryd.func49 (by kernel_rfl) rfl)
      (seqBk 8 (by omega) (C + 1) C (fun j => j < C + 2 ∧ j ≠ B) s (k + 1) b Hbc.out w3 (by omega) (by omega) (by omega) (by omega) m1.cell m0.cell hs T3) (fun j hj => by omega) (fun _ => rfl)
      (fun pre T W => ((∃ v, Boxed W B 3 (.int .i64 v)) ∧ Boxed W (B + 1) 3 (.int .i64 0) ∧ pre = []) ∧ Below B w W)
      (fun c pre T W => (c = .exit 0 ∧ Boxed W B 3 (.int .i64 (v1 : Int)) ∧ Boxed W (B + 1) 3 (.int .i64 0)) ∧ Below B w W)
      ?hI ?hIx
      ⟨⟨⟨_, g0⟩, g1, rfl⟩, hB3⟩
      (fun x T W => Boxed W B 3 (.int .i64 (x.1 : Int))) ?hPx
      ?a1 ?assign ?body ?done ?stop
    case hI =>
      rintro pre T T' W1 W2 ⟨⟨⟨v, h1⟩, h3, h4⟩, hb⟩ hT hm hg
      exact ⟨⟨⟨v, (hm.block _ h1.lt (fun e => by have := (hT _ e).1; omega)).trans h1⟩, (hm.block _ h3.lt (fun e => by have := (hT _ e).1; omega)).trans h3, h4⟩, hb.trans ⟨hm.os, hm.tape, hm.output, hm.size, fun j hj => hm.block j (by have := hb.size; omega) (fun e => by have := (hT _ e).1; omega)⟩⟩
    case hIx =>
      rintro c pre T T' W1 W2 ⟨⟨h0, h1, h3⟩, hb⟩ hT hm hg
      exact ⟨⟨h0, (hm.block _ h1.lt (fun e => by have := (hT _ e).1; omega)).trans h1, (hm.block _ h3.lt (fun e => by have := (hT _ e).1; omega)).trans h3⟩, hb.trans ⟨hm.os, hm.tape, hm.output, hm.size, fun j hj => hm.block j (by have := hb.size; omega) (fun e => by have := (hT _ e).1; omega)⟩⟩
    case hPx =>
      rintro x _ T T' W1 W2 h1 hT hm hg
      exact (hm.block _ h1.lt (fun e => by have := (hT _ e).1; omega)).trans h1
    case assign =>
      rintro l pre x T W K ⟨⟨⟨v, h1⟩, h3, h4⟩, hb⟩ hT hl hK
      have c1 := h1.cell
      have c1f := h1.frozen
      have Hfin := Lib.hid (hK (W.setCell ⟨B, 0, none⟩ (.int .i64 (x.1 : Int))) (KeepN.setCell _ _ _ _ _ _ (by omega) (fun e => by have := (hT _ e).1; omega)) ⟨⟨⟨_, h1.set _⟩, h3.other (by omega) _, h4⟩, hb.setCell (p := ⟨B, 0, none⟩) (Nat.le_refl _) _⟩ (h1.set _))
      clear h1 h3 hb hK
      gi_wp2_with fail
      exact Hfin.out
    case body =>
      rintro l pre x T W hl hT hr ⟨⟨h1, h3, rfl⟩, hb⟩ hx hlen hsp
      have hxf : x.1 = v1 := by
        obtain ⟨t, ht⟩ := hsp
        rw [Htl.out] at ht
        have := (List.cons.inj ht).1
        rw [this]
      rw [hxf] at hx
      have Hfin : Hid (KeepN (fun j => j < C + 2 ∧ j ≠ B) T W W ∧ ((Boxed W B 3 (.int .i64 (v1 : Int)) ∧ Boxed W (B + 1) 3 (.int .i64 0)) ∧ Below B w W)) := Lib.hid ⟨KeepN.refl _ _ _, ⟨hx, h3⟩, hb⟩
      clear h1 h3 hb hx
      gi_wp2_with fail
      exact ⟨Hfin.out.1, ⟨rfl, Hfin.out.2.1⟩, Hfin.out.2.2⟩
    case done =>
      rintro D xs T W hD hT hxs ⟨⟨h1, h3, rfl⟩, hb⟩ hK
      rw [Htl.out] at hxs
      cases hxs
    case stop =>
      rintro D c pre T W hD hT _ ⟨⟨rfl, h1, h3⟩, hb⟩ hK
      have HK := Lib.hid hK
      have HOn := Lib.hid (fun W => on_mk s (v1 : Int) W)
      have c1 := h1.cell
      have hD1 := hT D hD
      have TW := Utf8Tabs_below HT.out (by rw [hB]; exact hb)
      clear hK T3 m0 m1 g0 g1 hB3
      obtain ⟨C2, hC2⟩ : ∃ C2, W.heap.size = C2 := ⟨_, rfl⟩
      have hlC : B + 2 ≤ C2 := by have := h3.lt; omega
      gi_wp2_with fail
      go_wp2_with fail
      refine (HOn.out _).mono ?_
      rintro _ W2 ⟨rfl, hw⟩
      rw [hC2]
      have e0 : Boxed W2 B 3 (.int .i64 (v1 : Int)) := by rw [hw]; exact (h1.alloc _).alloc _
      have e1 : Boxed W2 (B + 1) 3 (.int .i64 0) := by rw [hw]; exact (h3.alloc _).alloc _
      have m0 : Boxed W2 C2 9 (.string s) := by
        rw [hw]
        have h := Boxed.new W 9 (.string s)
        rw [hC2] at h
        exact h.alloc _
      have m1 : Boxed W2 (C2 + 1) 3 (.int .i64 (v1 : Int)) := by
        rw [hw]
        have h := Boxed.new (W.alloc (.cells #[.string s] 9)) 3 (.int .i64 (v1 : Int))
        rw [World.size_alloc, hC2] at h
        exact h
      have z2 : W2.heap.size = C2 + 2 := by rw [hw]; simp [hC2]
      have r2 : Below W.heap.size W W2 := by rw [hw]; exact ((Below.refl _ W).alloc (Nat.le_refl _) _).alloc (by simp) _
      have hB2 : Below B w W2 := hb.trans (r2.mono (by omega))
      have T2 := Utf8Tabs_below TW r2
      have hK2 : W2.heap[D]? = some (.deferred (some [])) := (r2.block D hD1.2).trans HK.out
      have hDC : B + 2 ≤ D ∧ D < C2 := by omega
      have HK2 := Lib.hid hK2
      clear hw h1 h3 r2 HOn hb TW hK2 HK hD1
      go_wp2_with fail
      refine (wpIn_wide (n := 9)).1 ?_
      refine range_N1 rfl (by omega) (gf := 43) (lb := #[.pointer (some ⟨C2 + 1, 0, none⟩), .pointer (some ⟨C2, 0, none⟩)]) rfl trivial (enters_of Tryd.func43 (by kernel_rfl) rfl)
        (seqOn 8 (by omega) (C2 + 1) C2 (fun j => j < C2 + 2 ∧ j ≠ B + 1) s n i v1 Hbd.out W2 (by omega) (by omega) (by omega) (by omega) m1.cell m0.cell hs T2) (fun j hj => by omega) (fun _ => rfl)
        (fun pre T W => (Boxed W B 3 (.int .i64 (v1 : Int)) ∧ Boxed W (B + 1) 3 (.int .i64 0) ∧ pre = []) ∧ Below B w W ∧ W.heap[D]? = some (.deferred (some [])))
        (fun c pre T W => (c = .exit 2 ∧ Boxed W B 3 (.int .i64 (v1 : Int)) ∧ Boxed W (B + 1) 3 (.int .i64 (v2 : Int))) ∧ Below B w W ∧ W.heap[D]? = some (.deferred (some [])))
        ?hI2 ?hIx2
        ⟨⟨e0, e1, rfl⟩, hB2, HK2.out⟩
        ?a2 ?assign2 ?body2 ?done2 ?stop2
      case assign2 =>
        intro l x W K hK
        gi_wp2
        exact hK
      case hI2 =>
        rintro pre T T' W1 W2 ⟨⟨h1, h3, h4⟩, hb, hd⟩ hT hm hg
        exact ⟨⟨(hm.block _ h1.lt (fun e => by have := (hT _ e).1; omega)).trans h1, (hm.block _ h3.lt (fun e => by have := (hT _ e).1; omega)).trans h3, h4⟩, hb.trans ⟨hm.os, hm.tape, hm.output, hm.size, fun j hj => hm.block j (by have := hb.size; omega) (fun e => by have := (hT _ e).1; omega)⟩, (hm.block _ (Array.getElem?_eq_some_iff.1 hd).1 (fun e => by have := (hT _ e).1; omega)).trans hd⟩
      case hIx2 =>
        rintro c pre T T' W1 W2 ⟨⟨h0, h1, h3⟩, hb, hd⟩ hT hm hg
        exact ⟨⟨h0, (hm.block _ h1.lt (fun e => by have := (hT _ e).1; omega)).trans h1, (hm.block _ h3.lt (fun e => by have := (hT _ e).1; omega)).trans h3⟩, hb.trans ⟨hm.os, hm.tape, hm.output, hm.size, fun j hj => hm.block j (by have := hb.size; omega) (fun e => by have := (hT _ e).1; omega)⟩, (hm.block _ (Array.getElem?_eq_some_iff.1 hd).1 (fun e => by have := (hT _ e).1; omega)).trans hd⟩
      case body2 =>
        rintro l pre x T W hl hT hr ⟨⟨h1, h3, rfl⟩, hb, hd⟩ hlen hsp
        have hxy : x.2.size = y.2.size := by
          obtain ⟨t, ht⟩ := hsp
          rw [Hdr.out] at ht
          have := (List.cons.inj ht).1
          rw [this]
        have c0 := h1.cell
        have c1 := h3.cell
        have c1f := h3.frozen
        have hw1 : IntKind.i64.wrap ((v1 : Int) + (y.2.size : Int)) = (v2 : Int) := by rw [IntWalk.i64_in _ (by omega)]; omega
        have hzI : (v1 : Int) + (y.2.size : Int) = (v2 : Int) := by omega
        have Hfin : Hid (KeepN (fun j => j < C2 + 2 ∧ j ≠ B + 1) T W (W.setCell ⟨B + 1, 0, none⟩ (.int .i64 (v2 : Int))) ∧ ((Boxed (W.setCell ⟨B + 1, 0, none⟩ (.int .i64 (v2 : Int))) B 3 (.int .i64 (v1 : Int)) ∧ Boxed (W.setCell ⟨B + 1, 0, none⟩ (.int .i64 (v2 : Int))) (B + 1) 3 (.int .i64 (v2 : Int))) ∧ Below B w (W.setCell ⟨B + 1, 0, none⟩ (.int .i64 (v2 : Int))) ∧ (W.setCell ⟨B + 1, 0, none⟩ (.int .i64 (v2 : Int))).heap[D]? = some (.deferred (some [])))) := Lib.hid
          ⟨KeepN.setCell _ _ _ _ _ _ (by omega) (fun e => by have := (hT _ e).1; omega), ⟨h1.other (by omega) _, h3.set _⟩, hb.setCell (p := ⟨B + 1, 0, none⟩) (by show B ≤ B + 1; omega) _, (Below.heap_setCell _ _ _ D (show D ≠ B + 1 by omega)).trans hd⟩
        clear h1 h3 hb hd
        gi_wp2_with fail
        exact ⟨Hfin.out.1, ⟨rfl, Hfin.out.2.1⟩, Hfin.out.2.2⟩
      case done2 =>
        rintro D2 xs T W hD hT hxs ⟨⟨h1, h3, rfl⟩, hb, hd⟩ hK
        rw [Hdr.out] at hxs
        cases hxs
      case stop2 =>
        rintro D2 c pre T2 W3 hD2 hT2 _ ⟨⟨rfl, h1, h3⟩, hb, hd⟩ hK3
        have hD22 := hT2 D2 hD2
        have c0 := h1.cell
        have c1 := h3.cell
        have d0 : W3.drew.cell? ⟨B, 0, none⟩ = some (.int .i64 (v1 : Int)) := h1.cell
        have d0f : W3.drew.frozen? ⟨B, 0, none⟩ = false := h1.frozen
        have d1 : W3.drew.cell? ⟨B + 1, 0, none⟩ = some (.int .i64 (v2 : Int)) := h3.cell
        obtain ⟨W4, hW4⟩ : ∃ W4, W3.drew.setCell ⟨B, 0, none⟩ (.int .i64 (v1 : Int)) = W4 := ⟨_, rfl⟩
        have i0 : Boxed W4 B 3 (.int .i64 (v1 : Int)) := by rw [← hW4]; exact (show Boxed W3.drew B 3 (.int .i64 (v1 : Int)) from h1).set _
        have i1 : Boxed W4 (B + 1) 3 (.int .i64 (v2 : Int)) := by rw [← hW4]; exact (show Boxed W3.drew (B + 1) 3 (.int .i64 (v2 : Int)) from h3).other (by omega) _
        have i1c := i1.cell
        have i1f := i1.frozen
        have i2 : Below B w W4 := by rw [← hW4]; exact hb.drew.setCell (p := ⟨B, 0, none⟩) (Nat.le_refl _) _
        have i3 : W4.heap[D]? = some (.deferred (some [])) := by rw [← hW4]; exact (Below.heap_setCell _ _ _ D (show D ≠ B by omega)).trans hd
        have i4 : W4.heap[D2]? = some (.deferred (some [])) := by rw [← hW4]; exact (Below.heap_setCell _ _ _ D2 (show D2 ≠ B by omega)).trans hK3
        obtain ⟨W5, hW5⟩ : ∃ W5, W4.setCell ⟨B + 1, 0, none⟩ (.int .i64 (v2 : Int)) = W5 := ⟨_, rfl⟩
        have j0 : Boxed W5 B 3 (.int .i64 (v1 : Int)) := by rw [← hW5]; exact i0.other (by omega) _
        have j1 : Boxed W5 (B + 1) 3 (.int .i64 (v2 : Int)) := by rw [← hW5]; exact i1.set _
        have j2 : Below B w W5 := by rw [← hW5]; exact i2.setCell (p := ⟨B + 1, 0, none⟩) (by show B ≤ B + 1; omega) _
        have j3 : W5.heap[D]? = some (.deferred (some [])) := by rw [← hW5]; exact (Below.heap_setCell _ _ _ D (show D ≠ B + 1 by omega)).trans i3
        have j4 : W5.heap[D2]? = some (.deferred (some [])) := by rw [← hW5]; exact (Below.heap_setCell _ _ _ D2 (show D2 ≠ B + 1 by omega)).trans i4
        have J0 := Lib.hid j0
        have J1 := Lib.hid j1
        have J2 := Lib.hid j2
        have J3 := Lib.hid j3
        have J4 := Lib.hid j4
        have hs5 : W5.heap.size = W3.heap.size := by rw [← hW5, World.size_setCell, ← hW4, World.size_setCell]; rfl
        have hDD : D ≠ D2 := by omega
        clear hK3 hb hd h1 h3 i0 i1 i2 i3 i4 j0 j1 j2 j3 j4
        gi_wp2_with fail
        go_wp2_with fail
        go_region
        go_wp2_with fail
        have hk1' : (W5.putObj D2 (.deferred none)).heap[D]? = some (.deferred (some [])) := (World.putObj_heap_other hDD).trans J3.out
        have hc0 := cell_kept (cell_kept J0.out.cell (grownBy_putObj' _ D2 (.deferred none)) (fun r e => by cases e; exact ⟨_, J4.out, rfl⟩)) (grownBy_putObj' _ D (.deferred none)) (fun r e => by cases e; exact ⟨_, hk1', rfl⟩)
        have hc1 := cell_kept (cell_kept J1.out.cell (grownBy_putObj' _ D2 (.deferred none)) (fun r e => by cases e; exact ⟨_, J4.out, rfl⟩)) (grownBy_putObj' _ D (.deferred none)) (fun r e => by cases e; exact ⟨_, hk1', rfl⟩)
        refine ⟨by simp, .inl ⟨_, _, rfl, run_takeDeferred J4.out, by simp, .inl ⟨_, _, rfl, run_takeDeferred hk1', ?_⟩⟩⟩
        have hfb2 := J2.out.trans (belowK_b (w := w) (by omega) _ D2 _ (.deferred none) (by omega) J4.out rfl rfl)
        refine ⟨.tuple #[.int .i64 (v1 : Int), .int .i64 (v2 : Int)], ?_, rfl, hfb2.trans (belowK_b (w := w) (by omega) _ D _ (.deferred none) (by omega) hk1' rfl rfl)⟩
        simp [results, Tryd.f11, go_sem, hc0, hc1]
end Go.Proofs.YtiafofekobcifaaDoor
