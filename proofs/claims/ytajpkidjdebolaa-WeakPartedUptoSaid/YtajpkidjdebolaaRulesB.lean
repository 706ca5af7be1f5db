/- Layer 8, the program: side, mayPart, isDigit, separators. -/
import Derived.Test.YtajpkidjdebolaaRowW
import Derived.Deep.RegionLaw
set_option linter.unusedSimpArgs false
set_option linter.unusedVariables false
namespace Go.Proofs.Ytajpkidjdebolaa
open Go.RowKit Go.Lib

theorem side_any (s : Int) (w : World) : Calls Try.prog 23 #[.int .i8 s] w fun e w' => e = .returned (.int .i8 (sideZ s)) ∧ w' = w := by
  by_cases h : s = 1
  · subst h
    go_enter Try.func23, Try.ntmps23
    go_wp2
    go_ret
    exact ⟨rfl, rfl⟩
  · have hb : (s == 1) = false := by simpa using h
    have hs : sideZ s = 0 := by unfold sideZ; rw [if_neg h]
    rw [hs]
    go_enter Try.func23, Try.ntmps23
    go_wp2
    go_ret
    exact ⟨rfl, rfl⟩

theorem mayPart_any (k p : Int) (w : World) : Calls Try.prog 37 #[.int .i8 k, .int .i8 p] w fun e w' => e = .returned (.bool (mayZ k p)) ∧ w' = w := by
  by_cases h4 : k = 4
  · subst h4
    have e : mayZ 4 p = (p == 3) := by simp [mayZ]
    rw [e]
    go_enter Try.func37, Try.ntmps37
    go_wp2
    go_ret
    exact ⟨rfl, rfl⟩
  · have b4 : (k == 4) = false := by simpa using h4
    by_cases h7 : k = 7
    · subst h7
      by_cases p3 : p = 3
      · subst p3
        go_enter Try.func37, Try.ntmps37
        go_wp2
        go_ret
        exact ⟨rfl, rfl⟩
      · have bp : (p == 3) = false := by simpa using p3
        have e : mayZ 7 p = (p == 6) := by simp [mayZ, bp]
        rw [e]
        go_enter Try.func37, Try.ntmps37
        go_wp2
        go_ret
        exact ⟨rfl, rfl⟩
    · have b7 : (k == 7) = false := by simpa using h7
      have e : mayZ k p = false := by simp [mayZ, b4, b7]
      rw [e]
      go_enter Try.func37, Try.ntmps37
      go_wp2
      go_ret
      exact ⟨rfl, rfl⟩

/-- does a DirEN stand at that place? -/
def enAt (xs : List Int) (j : Int) : Bool := decide (0 ≤ j) && xs[j.toNat]? == some 3
theorem isDigit_any (B : Nat) (A : Option Addr) (n c : Nat) (j : Int) (xs : List Int) (w : World) (h : w.ownsRow B 23 1 (.slice A n c) n (i8s xs)) :
    Calls Try.prog 38 #[.slice A n c, .int .i64 j] w fun e w' => e = .returned (.bool (enAt xs j)) ∧ w' = w := by
  have hxl : xs.length = n := by have := h.1; simpa using this
  by_cases h0 : 0 ≤ j
  · obtain ⟨i, rfl⟩ : ∃ i : Nat, j = (i : Int) := ⟨j.toNat, by omega⟩
    by_cases h1 : i < n
    · have h1i : (i : Int) < (n : Int) := by omega
      obtain ⟨g, cap, hv, _, _⟩ := h.form (by omega)
      injection hv with hA _ hc
      subst hA hc
      obtain ⟨k, hk⟩ : ∃ k, xs[i]? = some k := ⟨_, List.getElem?_eq_getElem (by omega)⟩
      have k1 := h.cellAt i (by omega)
      rw [List.getElem?_map, hk, Option.map_some] at k1
      have e : enAt xs (i : Int) = (k == 3) := by
        unfold enAt
        simp [hk]
      rw [e]
      clear e
      go_enter Try.func38, Try.ntmps38
      go_wp2
      go_ret
      exact ⟨rfl, rfl⟩
    · have h1i : ¬ (i : Int) < (n : Int) := by omega
      have e : enAt xs (i : Int) = false := by
        unfold enAt
        simp [List.getElem?_eq_none (show xs.length ≤ i by omega)]
      rw [e]
      go_enter Try.func38, Try.ntmps38
      go_wp2
      go_ret
      exact ⟨rfl, rfl⟩
  · have e : enAt xs j = false := by
      unfold enAt
      simp [h0]
    rw [e]
    go_enter Try.func38, Try.ntmps38
    go_wp2
    go_ret
    exact ⟨rfl, rfl⟩

/- rule 4 within the list itself -/
theorem mayZ_digit {k p : Int} (h : mayZ k p = true) : ∀ q, mayZ p q = false := by
  intro q
  unfold mayZ at h ⊢
  simp only [Bool.or_eq_true, Bool.and_eq_true, beq_iff_eq] at h
  have hp : p = 3 ∨ p = 6 := by omega
  rcases hp with rfl | rfl <;> simp
theorem sepZ_head (x : Int) (t : List Int) : sepZ (-1) (x :: t) = x :: sepZ x t := by
  cases t with
  | nil => rfl
  | cons n t => simp [sepZ, sepK, mayZ]
/-- what holds between two rounds: what stands is what was, or nothing behind it asks -/
def SepI (pr ld : Int) (t : List Int) : Prop := ld = pr ∨ ∃ h t', t = h :: t' ∧ ∀ p, mayZ h p = false
theorem sepI_step {pr ld k n : Int} {t : List Int} (h : SepI pr ld (k :: n :: t)) : sepK pr k n = sepK ld k n ∧ SepI k (sepK ld k n) (n :: t) := by
  constructor
  · rcases h with rfl | ⟨h0, t', e, hm⟩
    · rfl
    · injection e with e _
      subst e
      simp [sepK, hm]
  · by_cases e : ld = n ∧ mayZ k ld = true
    · refine .inr ⟨n, t, rfl, ?_⟩
      rw [← e.1]
      exact mayZ_digit e.2
    · exact .inl (by unfold sepK; rw [if_neg e])
set_option maxRecDepth 100000 in
set_option maxHeartbeats 2000000 in
theorem wseps_any (B : Nat) (A : Option Addr) (n c : Nat) (s : Int) (xs : List Int) (w : World) (h : w.ownsRow B 23 1 (.slice A n c) n (i8s xs)) :
    Calls Try.prog 32 #[.slice A n c, .int .i8 s] w (RuleAt B A n c (sepZ (-1) xs) w) := by
  have hxl : xs.length = n := by have := h.1; simpa using this
  have HM := Lib.hid mayPart_any
  rcases xs with _ | ⟨x0, t0⟩
  · obtain rfl : n = 0 := hxl.symm
    go_enter Try.func32, Try.ntmps32
    go_wp2
    refine wp_loop_rounds 1 ?_
    rw [rounds_succ]
    go_wp2
    go_end0
    exact ⟨rfl, h, World.grownBy.refl _ _⟩
  · have hn0 : 1 ≤ n := by rw [← hxl]; simp
    obtain ⟨R, hR⟩ : ∃ R, sepZ (-1) (x0 :: t0) = R := ⟨_, rfl⟩
    have HR := hR
    rw [sepZ_head] at HR
    rw [hR]
    obtain ⟨hnc, hcm⟩ := own_caps h
    have hn1 : IntKind.i64.wrap ((n : Int) - 1) = (n : Int) - 1 := by unfold maxLen at hcm; exact IntWalk.i64_in _ (by omega)
    clear hR
    go_enter Try.func32, Try.ntmps32
    go_wp2
    go_loopw [4] (fun x wr => ∃ (d t : List Int) (pr ld : Int) (j : Nat) (W : World), W = wr ∧ j = d.length + 1 ∧ x = .int .i64 (j : Int) ∧ j ≤ n ∧ Hid (W.ownsRow B 23 1 (.slice A n c) n (i8s (d ++ ld :: t)) ∧ w.grownBy W (Value.ownBlock (.slice A n c)) ∧ SepI pr ld t ∧ d ++ ld :: sepZ pr t = R)) (fun x _ => n - (RowKit.intOf x).toNat)
    case atStart => exact ⟨[], t0, x0, x0, 1, _, rfl, rfl, rfl, hn0, Lib.hid ⟨h, World.grownBy.refl _ _, .inl rfl, HR⟩⟩
    case round =>
      obtain ⟨d, t, pr, ld, j, W, hW, hj, rfl, hjn, HH⟩ := hrel
      subst hW
      have hl : (d ++ ld :: t).length = n := by have := HH.out.1.1; simpa using this
      simp only [List.length_append, List.length_cons] at hl
      rcases t with _ | ⟨k, t⟩
      · have hnn : ¬ (j : Int) < (n : Int) - 1 := by simp at hl; omega
        go_wp2
        go_end0
        obtain ⟨h1, h2, _, h4⟩ := HH.out
        refine ⟨rfl, ?_, h2⟩
        rw [← h4]
        exact h1
      · rcases t with _ | ⟨nx, t⟩
        · have hnn : ¬ (j : Int) < (n : Int) - 1 := by simp at hl; omega
          go_wp2
          go_end0
          obtain ⟨h1, h2, _, h4⟩ := HH.out
          refine ⟨rfl, ?_, h2⟩
          rw [← h4]
          exact h1
        · obtain ⟨hown, hgr, hI, hfin⟩ := HH.out
          simp only [List.length_cons] at hl
          have hjl : (j : Int) < (n : Int) - 1 := by omega
          obtain ⟨g, hA, _, _, _, hc0, _, _⟩ := row_at hown
          have q1 : d ++ ld :: k :: nx :: t = (d ++ [ld]) ++ k :: nx :: t := by simp
          have q2 : d ++ ld :: k :: nx :: t = (d ++ [ld, k]) ++ nx :: t := by simp
          have hown1 : W.drew.ownsRow B 23 1 (.slice A n c) n (i8s ((d ++ [ld]) ++ k :: nx :: t)) := by rw [← q1]; exact hown
          obtain ⟨g', hA', _, _, _, hc1, hfz, hset⟩ := row_at hown1
          obtain ⟨g'', hA'', _, _, _, hc2, _, _⟩ := row_at (w := W) (p := d ++ [ld, k]) (k := nx) (t := t) (by rw [← q2]; exact hown)
          clear q1 q2
          subst hA
          injection hA' with hA'
          injection hA' with hA'
          subst hA'
          injection hA'' with hA''
          injection hA'' with hA''
          subst hA''
          have e1 : (d ++ [ld]).length = j := by simp; omega
          have e2 : (d ++ [ld, k]).length = j + 1 := by simp; omega
          rw [e1] at hc1 hfz hset
          rw [e2] at hc2
          obtain ⟨m, hm⟩ : ∃ m, j + 1 = m := ⟨_, rfl⟩
          obtain ⟨a, ha⟩ : ∃ a, d.length = a := ⟨_, rfl⟩
          rw [hm] at hc2
          rw [ha] at hc0
          have hsk := sepI_step hI
          have hnx : Hid (∀ v, v = sepK ld k nx → ∀ W', W'.ownsRow B 23 1 (.slice (some ⟨g, 0, none⟩) n c) n (i8s ((d ++ [ld]) ++ v :: nx :: t)) → w.grownBy W' (some g) →
              ∃ (d' t' : List Int) (pr' ld' : Int) (j' : Nat), j' = d'.length + 1 ∧ Value.int .i64 (m : Int) = .int .i64 (j' : Int) ∧ j' ≤ n ∧ Hid (W'.ownsRow B 23 1 (.slice (some ⟨g, 0, none⟩) n c) n (i8s (d' ++ ld' :: t')) ∧ w.grownBy W' (some g) ∧ SepI pr' ld' t' ∧ d' ++ ld' :: sepZ pr' t' = R)) :=
            Lib.hid fun v hv W' h1 h2 => ⟨d ++ [ld], nx :: t, k, v, m, by rw [e1, hm], rfl, by omega, Lib.hid ⟨h1, h2, by rw [hv]; exact hsk.2, by
              rw [← hfin, hv, ← hsk.1]
              simp [sepZ]⟩⟩
          have hset := fun v => And.intro (hset v).1 (World.grownBy.trans (b := W.drew) (show w.grownBy W.drew (some g) from ⟨hgr.os, hgr.tape, hgr.output, hgr.size, hgr.block⟩) (hset v).2)
          have Hset := Lib.hid hset
          have Hkeep := Lib.hid (show W.drew.ownsRow B 23 1 (.slice (some ⟨g, 0, none⟩) n c) n (i8s ((d ++ [ld]) ++ k :: nx :: t)) ∧ w.grownBy W.drew (some g) from ⟨hown1, ⟨hgr.os, hgr.tape, hgr.output, hgr.size, hgr.block⟩⟩)
          have hw1 : IntKind.i64.wrap ((j : Int) - 1) = (a : Int) := by rw [IntWalk.i64_in _ (by unfold maxLen at hcm; omega)]; omega
          have hw2 : IntKind.i64.wrap ((j : Int) + 1) = (m : Int) := by rw [IntWalk.i64_in _ (by unfold maxLen at hcm; omega)]; omega
          have han : a < n := by omega
          have hmn : m < n := by omega
          have hjn' : j < n := by omega
          have hc0' : W.drew.cell? ⟨g, a, none⟩ = some (.int .i8 ld) := hc0
          have hc2' : W.drew.cell? ⟨g, m, none⟩ = some (.int .i8 nx) := hc2
          have hc1' : W.cell? ⟨g, j, none⟩ = some (.int .i8 k) := hc1
          clear hset hown hown1 hgr hI hfin hsk HR h hl HH hj e1 e2 ha
          by_cases hq : ld = nx
          · subst hq
            by_cases hmay : mayZ k ld = true
            · have hv := Lib.hid (show ld = sepK ld k ld by unfold sepK; rw [if_pos ⟨rfl, hmay⟩])
              go_wp2_with fail
              go_region
              go_wp2_with (go_at_call 37; refine (HM.out _ _ _).mono ?_; rintro _ w9 ⟨rfl, rfl⟩; rw [hmay])
              go_roundw
              case rel =>
                obtain ⟨d', t', pr', ld', j', a1, a2, a3, a4⟩ := hnx.out _ hv.out _ (Hset.out _).1 (Hset.out _).2
                exact ⟨d', t', pr', ld', j', _, rfl, a1, a2, a3, a4⟩
              case measure => simp [RowKit.intOf]; omega
            · have hv := Lib.hid (show k = sepK ld k ld by unfold sepK; rw [if_neg (fun e => hmay e.2)])
              have hmay : mayZ k ld = false := by simpa using hmay
              go_wp2_with fail
              go_region
              go_wp2_with (go_at_call 37; refine (HM.out _ _ _).mono ?_; rintro _ w9 ⟨rfl, rfl⟩; rw [hmay])
              go_roundw
              case rel =>
                obtain ⟨d', t', pr', ld', j', a1, a2, a3, a4⟩ := hnx.out _ hv.out _ Hkeep.out.1 Hkeep.out.2
                exact ⟨d', t', pr', ld', j', _, rfl, a1, a2, a3, a4⟩
              case measure => simp [RowKit.intOf]; omega
          · have hv := Lib.hid (show k = sepK ld k nx by unfold sepK; rw [if_neg (fun e => hq e.1)])
            have hq : (ld == nx) = false := by simpa using hq
            go_wp2_with fail
            go_region
            go_wp2
            go_roundw
            case rel =>
              obtain ⟨d', t', pr', ld', j', a1, a2, a3, a4⟩ := hnx.out _ hv.out _ Hkeep.out.1 Hkeep.out.2
              exact ⟨d', t', pr', ld', j', _, rfl, a1, a2, a3, a4⟩
            case measure => simp [RowKit.intOf]; omega
end Go.Proofs.Ytajpkidjdebolaa
