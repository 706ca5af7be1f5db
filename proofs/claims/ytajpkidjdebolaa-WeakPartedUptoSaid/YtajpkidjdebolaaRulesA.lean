/- Layer 8, the program: marks, arabicDigits, arabicLetters, signs, digits. (Made by tools/mkrules8.py.) -/
import Derived.Test.YtajpkidjdebolaaRowW
set_option linter.unusedSimpArgs false
set_option linter.unusedVariables false
namespace Go.Proofs.Ytajpkidjdebolaa
open Go.RowKit Go.Lib

set_option maxRecDepth 100000 in
set_option maxHeartbeats 1000000 in
theorem wmarks_any (B : Nat) (A : Option Addr) (n c : Nat) (s : Int) (xs : List Int) (w : World) (h : w.ownsRow B 23 1 (.slice A n c) n (i8s xs)) :
    Calls Try.prog 29 #[.slice A n c, .int .i8 s] w (RuleAt B A n c (tr f1 s xs) w) := by
  have hxl : xs.length = n := by have := h.1; simpa using this
  go_enter Try.func29, Try.ntmps29
  go_wp2
  go_loopw [4, 10] (fun x y wr => ∃ (p t : List Int) (W : World), W = wr ∧ xs = p ++ t ∧ x = .int .i8 (fin f1 s p) ∧ y = .int .i64 (p.length : Int) ∧ W.ownsRow B 23 1 (.slice A n c) n (i8s (tr f1 s p ++ t)) ∧ w.grownBy W (Value.ownBlock (.slice A n c))) (fun _ y _ => n - (RowKit.intOf y).toNat)
  case atStart => exact ⟨[], xs, _, rfl, rfl, rfl, rfl, h, World.grownBy.refl _ _⟩
  case round =>
    obtain ⟨p, t, W, hW, hx, rfl, rfl, hown, hgr⟩ := hrel
    subst hW
    rcases t with _ | ⟨k, t⟩
    · have hpl : p.length = n := by rw [← hxl, hx]; simp
      rw [List.append_nil] at hx hown
      subst hx
      rw [hpl]
      have hnn : ¬ (n : Int) < (n : Int) := by omega
      go_wp2
      go_end0
      exact ⟨rfl, hown, hgr⟩
    · obtain ⟨g, hA, hin, hnc, hcm, hcell, hfz, hset⟩ := row_at hown
      rw [tr_len] at hin hcell hfz hset
      subst hA
      have hnext := i64_next hin hnc hcm
      have hini : (p.length : Int) < (n : Int) := by omega
      have Hout : ∀ v st, f1 (fin f1 s p) k = (v, st) → Hid (∀ W', W'.ownsRow B 23 1 (.slice (some ⟨g, 0, none⟩) n c) n (i8s (tr f1 s p ++ v :: t)) → w.grownBy W' (some g) → 
          xs = (p ++ [k]) ++ t ∧ (st = fin f1 s (p ++ [k])) ∧ W'.ownsRow B 23 1 (.slice (some ⟨g, 0, none⟩) n c) n (i8s (tr f1 s (p ++ [k]) ++ t)) ∧ w.grownBy W' (some g)) := fun v st e => Lib.hid fun W' h1 h2 => by
        obtain ⟨e1, e2⟩ := tr_next (t := t) e
        rw [e1, e2]
        exact ⟨by rw [hx]; simp, rfl, h1, h2⟩
      have hset := fun v => And.intro (hset v).1 (hgr.trans (hset v).2)
      have hsnoc := snoc_len p k
      obtain ⟨q, hq⟩ : ∃ q, p ++ [k] = q := ⟨_, rfl⟩
      obtain ⟨i, hi⟩ : ∃ i, p.length = i := ⟨_, rfl⟩
      rw [hq, hi] at hsnoc
      rw [hq] at Hout
      rw [hi] at hin hcell hfz hset hnext hini ⊢
      obtain ⟨st, hst⟩ : ∃ st, fin f1 s p = st := ⟨_, rfl⟩
      rw [hst] at Hout ⊢
      have Hset := Lib.hid hset
      have Hkeep := Lib.hid (show _ ∧ _ from ⟨hown, hgr⟩)
      clear hset hown hgr hx hq hst
      by_cases k8 : k = 8
      · subst k8
        have HO := Hout (st) (st) (by simp [f1, isoZ])
        clear Hout
        go_wp2_with fail
        go_roundw
        case rel =>
          obtain ⟨a1, a2, a3, a4⟩ := HO.out _ (Hset.out st).1 (Hset.out st).2
          exact ⟨q, t, _, rfl, a1, by rw [← a2], by rw [hsnoc], a3, a4⟩
        case measure => simp [RowKit.intOf]; omega
      · have b8 : (k == 8) = false := by simpa using k8
        by_cases k19 : k = 19
        · subst k19
          have HO := Hout (19) (13) (by simp [f1, isoZ])
          clear Hout
          go_wp2_with fail
          go_roundw
          case rel =>
            obtain ⟨a1, a2, a3, a4⟩ := HO.out _ Hkeep.out.1 Hkeep.out.2
            exact ⟨q, t, _, rfl, a1, by rw [← a2], by rw [hsnoc], a3, a4⟩
          case measure => simp [RowKit.intOf]; omega
        · have b19 : (k == 19) = false := by simpa using k19
          by_cases k20 : k = 20
          · subst k20
            have HO := Hout (20) (13) (by simp [f1, isoZ])
            clear Hout
            go_wp2_with fail
            go_roundw
            case rel =>
              obtain ⟨a1, a2, a3, a4⟩ := HO.out _ Hkeep.out.1 Hkeep.out.2
              exact ⟨q, t, _, rfl, a1, by rw [← a2], by rw [hsnoc], a3, a4⟩
            case measure => simp [RowKit.intOf]; omega
          · have b20 : (k == 20) = false := by simpa using k20
            by_cases k21 : k = 21
            · subst k21
              have HO := Hout (21) (13) (by simp [f1, isoZ])
              clear Hout
              go_wp2_with fail
              go_roundw
              case rel =>
                obtain ⟨a1, a2, a3, a4⟩ := HO.out _ Hkeep.out.1 Hkeep.out.2
                exact ⟨q, t, _, rfl, a1, by rw [← a2], by rw [hsnoc], a3, a4⟩
              case measure => simp [RowKit.intOf]; omega
            · have b21 : (k == 21) = false := by simpa using k21
              by_cases k22 : k = 22
              · subst k22
                have HO := Hout (22) (13) (by simp [f1, isoZ])
                clear Hout
                go_wp2_with fail
                go_roundw
                case rel =>
                  obtain ⟨a1, a2, a3, a4⟩ := HO.out _ Hkeep.out.1 Hkeep.out.2
                  exact ⟨q, t, _, rfl, a1, by rw [← a2], by rw [hsnoc], a3, a4⟩
                case measure => simp [RowKit.intOf]; omega
              · have b22 : (k == 22) = false := by simpa using k22
                have HO := Hout (k) (k) (by simp [f1, isoZ, k8, k19, k20, k21, k22])
                clear Hout
                go_wp2_with fail
                go_roundw
                case rel =>
                  obtain ⟨a1, a2, a3, a4⟩ := HO.out _ Hkeep.out.1 Hkeep.out.2
                  exact ⟨q, t, _, rfl, a1, by rw [← a2], by rw [hsnoc], a3, a4⟩
                case measure => simp [RowKit.intOf]; omega

set_option maxRecDepth 100000 in
set_option maxHeartbeats 1000000 in
theorem wdigits2_any (B : Nat) (A : Option Addr) (n c : Nat) (s : Int) (xs : List Int) (w : World) (h : w.ownsRow B 23 1 (.slice A n c) n (i8s xs)) :
    Calls Try.prog 30 #[.slice A n c, .int .i8 s] w (RuleAt B A n c (tr f2 false xs) w) := by
  have hxl : xs.length = n := by have := h.1; simpa using this
  go_enter Try.func30, Try.ntmps30
  go_wp2
  go_loopw [4, 9] (fun x y wr => ∃ (p t : List Int) (W : World), W = wr ∧ xs = p ++ t ∧ x = .bool (fin f2 false p) ∧ y = .int .i64 (p.length : Int) ∧ W.ownsRow B 23 1 (.slice A n c) n (i8s (tr f2 false p ++ t)) ∧ w.grownBy W (Value.ownBlock (.slice A n c))) (fun _ y _ => n - (RowKit.intOf y).toNat)
  case atStart => exact ⟨[], xs, _, rfl, rfl, rfl, rfl, h, World.grownBy.refl _ _⟩
  case round =>
    obtain ⟨p, t, W, hW, hx, rfl, rfl, hown, hgr⟩ := hrel
    subst hW
    rcases t with _ | ⟨k, t⟩
    · have hpl : p.length = n := by rw [← hxl, hx]; simp
      rw [List.append_nil] at hx hown
      subst hx
      rw [hpl]
      have hnn : ¬ (n : Int) < (n : Int) := by omega
      go_wp2
      go_end0
      exact ⟨rfl, hown, hgr⟩
    · obtain ⟨g, hA, hin, hnc, hcm, hcell, hfz, hset⟩ := row_at hown
      rw [tr_len] at hin hcell hfz hset
      subst hA
      have hnext := i64_next hin hnc hcm
      have hini : (p.length : Int) < (n : Int) := by omega
      have Hout : ∀ v st, f2 (fin f2 false p) k = (v, st) → Hid (∀ W', W'.ownsRow B 23 1 (.slice (some ⟨g, 0, none⟩) n c) n (i8s (tr f2 false p ++ v :: t)) → w.grownBy W' (some g) → 
          xs = (p ++ [k]) ++ t ∧ (st = fin f2 false (p ++ [k])) ∧ W'.ownsRow B 23 1 (.slice (some ⟨g, 0, none⟩) n c) n (i8s (tr f2 false (p ++ [k]) ++ t)) ∧ w.grownBy W' (some g)) := fun v st e => Lib.hid fun W' h1 h2 => by
        obtain ⟨e1, e2⟩ := tr_next (t := t) e
        rw [e1, e2]
        exact ⟨by rw [hx]; simp, rfl, h1, h2⟩
      have hset := fun v => And.intro (hset v).1 (hgr.trans (hset v).2)
      have hsnoc := snoc_len p k
      obtain ⟨q, hq⟩ : ∃ q, p ++ [k] = q := ⟨_, rfl⟩
      obtain ⟨i, hi⟩ : ∃ i, p.length = i := ⟨_, rfl⟩
      rw [hq, hi] at hsnoc
      rw [hq] at Hout
      rw [hi] at hin hcell hfz hset hnext hini ⊢
      obtain ⟨st, hst⟩ : ∃ st, fin f2 false p = st := ⟨_, rfl⟩
      rw [hst] at Hout ⊢
      have Hset := Lib.hid hset
      have Hkeep := Lib.hid (show _ ∧ _ from ⟨hown, hgr⟩)
      clear hset hown hgr hx hq hst
      by_cases k0 : k = 0
      · subst k0
        have HO := Hout (0) (false) (by simp [f2])
        clear Hout
        go_wp2_with fail
        go_roundw
        case rel =>
          obtain ⟨a1, a2, a3, a4⟩ := HO.out _ Hkeep.out.1 Hkeep.out.2
          exact ⟨q, t, _, rfl, a1, by rw [← a2], by rw [hsnoc], a3, a4⟩
        case measure => simp [RowKit.intOf]; omega
      · have b0 : (k == 0) = false := by simpa using k0
        by_cases k1 : k = 1
        · subst k1
          have HO := Hout (1) (false) (by simp [f2])
          clear Hout
          go_wp2_with fail
          go_roundw
          case rel =>
            obtain ⟨a1, a2, a3, a4⟩ := HO.out _ Hkeep.out.1 Hkeep.out.2
            exact ⟨q, t, _, rfl, a1, by rw [← a2], by rw [hsnoc], a3, a4⟩
          case measure => simp [RowKit.intOf]; omega
        · have b1 : (k == 1) = false := by simpa using k1
          by_cases k2 : k = 2
          · subst k2
            have HO := Hout (2) (true) (by simp [f2])
            clear Hout
            go_wp2_with fail
            go_roundw
            case rel =>
              obtain ⟨a1, a2, a3, a4⟩ := HO.out _ Hkeep.out.1 Hkeep.out.2
              exact ⟨q, t, _, rfl, a1, by rw [← a2], by rw [hsnoc], a3, a4⟩
            case measure => simp [RowKit.intOf]; omega
          · have b2 : (k == 2) = false := by simpa using k2
            by_cases k3 : k = 3
            · subst k3
              rcases st with _ | _
              · have HO := Hout (3) (false) (by simp [f2])
                clear Hout
                go_wp2_with fail
                go_roundw
                case rel =>
                  obtain ⟨a1, a2, a3, a4⟩ := HO.out _ Hkeep.out.1 Hkeep.out.2
                  exact ⟨q, t, _, rfl, a1, by rw [← a2], by rw [hsnoc], a3, a4⟩
                case measure => simp [RowKit.intOf]; omega
              · have HO := Hout (6) (true) (by simp [f2])
                clear Hout
                go_wp2_with fail
                go_roundw
                case rel =>
                  obtain ⟨a1, a2, a3, a4⟩ := HO.out _ (Hset.out 6).1 (Hset.out 6).2
                  exact ⟨q, t, _, rfl, a1, by rw [← a2], by rw [hsnoc], a3, a4⟩
                case measure => simp [RowKit.intOf]; omega
            · have b3 : (k == 3) = false := by simpa using k3
              have HO := Hout (k) (st) (by simp [f2, isoZ, k0, k1, k2, k3])
              clear Hout
              go_wp2_with fail
              go_roundw
              case rel =>
                obtain ⟨a1, a2, a3, a4⟩ := HO.out _ Hkeep.out.1 Hkeep.out.2
                exact ⟨q, t, _, rfl, a1, by rw [← a2], by rw [hsnoc], a3, a4⟩
              case measure => simp [RowKit.intOf]; omega

set_option maxRecDepth 100000 in
set_option maxHeartbeats 1000000 in
theorem wletters_any (B : Nat) (A : Option Addr) (n c : Nat) (s : Int) (xs : List Int) (w : World) (h : w.ownsRow B 23 1 (.slice A n c) n (i8s xs)) :
    Calls Try.prog 31 #[.slice A n c, .int .i8 s] w (RuleAt B A n c (tr f3 () xs) w) := by
  have hxl : xs.length = n := by have := h.1; simpa using this
  go_enter Try.func31, Try.ntmps31
  go_wp2
  go_loopw [8] (fun y wr => ∃ (p t : List Int) (W : World), W = wr ∧ xs = p ++ t ∧ y = .int .i64 (p.length : Int) ∧ W.ownsRow B 23 1 (.slice A n c) n (i8s (tr f3 () p ++ t)) ∧ w.grownBy W (Value.ownBlock (.slice A n c))) (fun y _ => n - (RowKit.intOf y).toNat)
  case atStart => exact ⟨[], xs, _, rfl, rfl, rfl, h, World.grownBy.refl _ _⟩
  case round =>
    obtain ⟨p, t, W, hW, hx, rfl, hown, hgr⟩ := hrel
    subst hW
    rcases t with _ | ⟨k, t⟩
    · have hpl : p.length = n := by rw [← hxl, hx]; simp
      rw [List.append_nil] at hx hown
      subst hx
      rw [hpl]
      have hnn : ¬ (n : Int) < (n : Int) := by omega
      go_wp2
      go_end0
      exact ⟨rfl, hown, hgr⟩
    · obtain ⟨g, hA, hin, hnc, hcm, hcell, hfz, hset⟩ := row_at hown
      rw [tr_len] at hin hcell hfz hset
      subst hA
      have hnext := i64_next hin hnc hcm
      have hini : (p.length : Int) < (n : Int) := by omega
      have Hout : ∀ v st, f3 (fin f3 () p) k = (v, st) → Hid (∀ W', W'.ownsRow B 23 1 (.slice (some ⟨g, 0, none⟩) n c) n (i8s (tr f3 () p ++ v :: t)) → w.grownBy W' (some g) → 
          xs = (p ++ [k]) ++ t ∧ (st = fin f3 () (p ++ [k])) ∧ W'.ownsRow B 23 1 (.slice (some ⟨g, 0, none⟩) n c) n (i8s (tr f3 () (p ++ [k]) ++ t)) ∧ w.grownBy W' (some g)) := fun v st e => Lib.hid fun W' h1 h2 => by
        obtain ⟨e1, e2⟩ := tr_next (t := t) e
        rw [e1, e2]
        exact ⟨by rw [hx]; simp, rfl, h1, h2⟩
      have hset := fun v => And.intro (hset v).1 (hgr.trans (hset v).2)
      have hsnoc := snoc_len p k
      obtain ⟨q, hq⟩ : ∃ q, p ++ [k] = q := ⟨_, rfl⟩
      obtain ⟨i, hi⟩ : ∃ i, p.length = i := ⟨_, rfl⟩
      rw [hq, hi] at hsnoc
      rw [hq] at Hout
      rw [hi] at hin hcell hfz hset hnext hini ⊢
      obtain ⟨st, hst⟩ : ∃ st, fin f3 () p = st := ⟨_, rfl⟩
      rw [hst] at Hout
      have Hset := Lib.hid hset
      have Hkeep := Lib.hid (show _ ∧ _ from ⟨hown, hgr⟩)
      clear hset hown hgr hx hq hst
      by_cases k2 : k = 2
      · subst k2
        have HO := Hout (1) (()) (by simp [f3])
        clear Hout
        go_wp2_with fail
        go_roundw
        case rel =>
          obtain ⟨a1, a2, a3, a4⟩ := HO.out _ (Hset.out 1).1 (Hset.out 1).2
          exact ⟨q, t, _, rfl, a1, by rw [hsnoc], a3, a4⟩
        case measure => simp [RowKit.intOf]; omega
      · have b2 : (k == 2) = false := by simpa using k2
        have HO := Hout (k) (()) (by simp [f3, isoZ, k2])
        clear Hout
        go_wp2_with fail
        go_roundw
        case rel =>
          obtain ⟨a1, a2, a3, a4⟩ := HO.out _ Hkeep.out.1 Hkeep.out.2
          exact ⟨q, t, _, rfl, a1, by rw [hsnoc], a3, a4⟩
        case measure => simp [RowKit.intOf]; omega

set_option maxRecDepth 100000 in
set_option maxHeartbeats 1000000 in
theorem wsigns_any (B : Nat) (A : Option Addr) (n c : Nat) (s : Int) (xs : List Int) (w : World) (h : w.ownsRow B 23 1 (.slice A n c) n (i8s xs)) :
    Calls Try.prog 34 #[.slice A n c, .int .i8 s] w (RuleAt B A n c (tr f6 () xs) w) := by
  have hxl : xs.length = n := by have := h.1; simpa using this
  go_enter Try.func34, Try.ntmps34
  go_wp2
  go_loopw [8] (fun y wr => ∃ (p t : List Int) (W : World), W = wr ∧ xs = p ++ t ∧ y = .int .i64 (p.length : Int) ∧ W.ownsRow B 23 1 (.slice A n c) n (i8s (tr f6 () p ++ t)) ∧ w.grownBy W (Value.ownBlock (.slice A n c))) (fun y _ => n - (RowKit.intOf y).toNat)
  case atStart => exact ⟨[], xs, _, rfl, rfl, rfl, h, World.grownBy.refl _ _⟩
  case round =>
    obtain ⟨p, t, W, hW, hx, rfl, hown, hgr⟩ := hrel
    subst hW
    rcases t with _ | ⟨k, t⟩
    · have hpl : p.length = n := by rw [← hxl, hx]; simp
      rw [List.append_nil] at hx hown
      subst hx
      rw [hpl]
      have hnn : ¬ (n : Int) < (n : Int) := by omega
      go_wp2
      go_end0
      exact ⟨rfl, hown, hgr⟩
    · obtain ⟨g, hA, hin, hnc, hcm, hcell, hfz, hset⟩ := row_at hown
      rw [tr_len] at hin hcell hfz hset
      subst hA
      have hnext := i64_next hin hnc hcm
      have hini : (p.length : Int) < (n : Int) := by omega
      have Hout : ∀ v st, f6 (fin f6 () p) k = (v, st) → Hid (∀ W', W'.ownsRow B 23 1 (.slice (some ⟨g, 0, none⟩) n c) n (i8s (tr f6 () p ++ v :: t)) → w.grownBy W' (some g) → 
          xs = (p ++ [k]) ++ t ∧ (st = fin f6 () (p ++ [k])) ∧ W'.ownsRow B 23 1 (.slice (some ⟨g, 0, none⟩) n c) n (i8s (tr f6 () (p ++ [k]) ++ t)) ∧ w.grownBy W' (some g)) := fun v st e => Lib.hid fun W' h1 h2 => by
        obtain ⟨e1, e2⟩ := tr_next (t := t) e
        rw [e1, e2]
        exact ⟨by rw [hx]; simp, rfl, h1, h2⟩
      have hset := fun v => And.intro (hset v).1 (hgr.trans (hset v).2)
      have hsnoc := snoc_len p k
      obtain ⟨q, hq⟩ : ∃ q, p ++ [k] = q := ⟨_, rfl⟩
      obtain ⟨i, hi⟩ : ∃ i, p.length = i := ⟨_, rfl⟩
      rw [hq, hi] at hsnoc
      rw [hq] at Hout
      rw [hi] at hin hcell hfz hset hnext hini ⊢
      obtain ⟨st, hst⟩ : ∃ st, fin f6 () p = st := ⟨_, rfl⟩
      rw [hst] at Hout
      have Hset := Lib.hid hset
      have Hkeep := Lib.hid (show _ ∧ _ from ⟨hown, hgr⟩)
      clear hset hown hgr hx hq hst
      by_cases k4 : k = 4
      · subst k4
        have HO := Hout (13) (()) (by simp [f6])
        clear Hout
        go_wp2_with fail
        go_roundw
        case rel =>
          obtain ⟨a1, a2, a3, a4⟩ := HO.out _ (Hset.out 13).1 (Hset.out 13).2
          exact ⟨q, t, _, rfl, a1, by rw [hsnoc], a3, a4⟩
        case measure => simp [RowKit.intOf]; omega
      · have b4 : (k == 4) = false := by simpa using k4
        by_cases k5 : k = 5
        · subst k5
          have HO := Hout (13) (()) (by simp [f6])
          clear Hout
          go_wp2_with fail
          go_roundw
          case rel =>
            obtain ⟨a1, a2, a3, a4⟩ := HO.out _ (Hset.out 13).1 (Hset.out 13).2
            exact ⟨q, t, _, rfl, a1, by rw [hsnoc], a3, a4⟩
          case measure => simp [RowKit.intOf]; omega
        · have b5 : (k == 5) = false := by simpa using k5
          by_cases k7 : k = 7
          · subst k7
            have HO := Hout (13) (()) (by simp [f6])
            clear Hout
            go_wp2_with fail
            go_roundw
            case rel =>
              obtain ⟨a1, a2, a3, a4⟩ := HO.out _ (Hset.out 13).1 (Hset.out 13).2
              exact ⟨q, t, _, rfl, a1, by rw [hsnoc], a3, a4⟩
            case measure => simp [RowKit.intOf]; omega
          · have b7 : (k == 7) = false := by simpa using k7
            have HO := Hout (k) (()) (by simp [f6, isoZ, k4, k5, k7])
            clear Hout
            go_wp2_with fail
            go_roundw
            case rel =>
              obtain ⟨a1, a2, a3, a4⟩ := HO.out _ Hkeep.out.1 Hkeep.out.2
              exact ⟨q, t, _, rfl, a1, by rw [hsnoc], a3, a4⟩
            case measure => simp [RowKit.intOf]; omega

set_option maxRecDepth 100000 in
set_option maxHeartbeats 1000000 in
theorem wdigits7_any (B : Nat) (A : Option Addr) (n c : Nat) (s : Int) (xs : List Int) (w : World) (h : w.ownsRow B 23 1 (.slice A n c) n (i8s xs)) :
    Calls Try.prog 35 #[.slice A n c, .int .i8 s] w (RuleAt B A n c (tr f7 s xs) w) := by
  have hxl : xs.length = n := by have := h.1; simpa using this
  go_enter Try.func35, Try.ntmps35
  go_wp2
  go_loopw [4, 10] (fun x y wr => ∃ (p t : List Int) (W : World), W = wr ∧ xs = p ++ t ∧ x = .int .i8 (fin f7 s p) ∧ y = .int .i64 (p.length : Int) ∧ W.ownsRow B 23 1 (.slice A n c) n (i8s (tr f7 s p ++ t)) ∧ w.grownBy W (Value.ownBlock (.slice A n c))) (fun _ y _ => n - (RowKit.intOf y).toNat)
  case atStart => exact ⟨[], xs, _, rfl, rfl, rfl, rfl, h, World.grownBy.refl _ _⟩
  case round =>
    obtain ⟨p, t, W, hW, hx, rfl, rfl, hown, hgr⟩ := hrel
    subst hW
    rcases t with _ | ⟨k, t⟩
    · have hpl : p.length = n := by rw [← hxl, hx]; simp
      rw [List.append_nil] at hx hown
      subst hx
      rw [hpl]
      have hnn : ¬ (n : Int) < (n : Int) := by omega
      go_wp2
      go_end0
      exact ⟨rfl, hown, hgr⟩
    · obtain ⟨g, hA, hin, hnc, hcm, hcell, hfz, hset⟩ := row_at hown
      rw [tr_len] at hin hcell hfz hset
      subst hA
      have hnext := i64_next hin hnc hcm
      have hini : (p.length : Int) < (n : Int) := by omega
      have Hout : ∀ v st, f7 (fin f7 s p) k = (v, st) → Hid (∀ W', W'.ownsRow B 23 1 (.slice (some ⟨g, 0, none⟩) n c) n (i8s (tr f7 s p ++ v :: t)) → w.grownBy W' (some g) → 
          xs = (p ++ [k]) ++ t ∧ (st = fin f7 s (p ++ [k])) ∧ W'.ownsRow B 23 1 (.slice (some ⟨g, 0, none⟩) n c) n (i8s (tr f7 s (p ++ [k]) ++ t)) ∧ w.grownBy W' (some g)) := fun v st e => Lib.hid fun W' h1 h2 => by
        obtain ⟨e1, e2⟩ := tr_next (t := t) e
        rw [e1, e2]
        exact ⟨by rw [hx]; simp, rfl, h1, h2⟩
      have hset := fun v => And.intro (hset v).1 (hgr.trans (hset v).2)
      have hsnoc := snoc_len p k
      obtain ⟨q, hq⟩ : ∃ q, p ++ [k] = q := ⟨_, rfl⟩
      obtain ⟨i, hi⟩ : ∃ i, p.length = i := ⟨_, rfl⟩
      rw [hq, hi] at hsnoc
      rw [hq] at Hout
      rw [hi] at hin hcell hfz hset hnext hini ⊢
      obtain ⟨st, hst⟩ : ∃ st, fin f7 s p = st := ⟨_, rfl⟩
      rw [hst] at Hout ⊢
      have Hset := Lib.hid hset
      have Hkeep := Lib.hid (show _ ∧ _ from ⟨hown, hgr⟩)
      clear hset hown hgr hx hq hst
      by_cases k0 : k = 0
      · subst k0
        have HO := Hout (0) (0) (by simp [f7])
        clear Hout
        go_wp2_with fail
        go_roundw
        case rel =>
          obtain ⟨a1, a2, a3, a4⟩ := HO.out _ Hkeep.out.1 Hkeep.out.2
          exact ⟨q, t, _, rfl, a1, by rw [← a2], by rw [hsnoc], a3, a4⟩
        case measure => simp [RowKit.intOf]; omega
      · have b0 : (k == 0) = false := by simpa using k0
        by_cases k1 : k = 1
        · subst k1
          have HO := Hout (1) (1) (by simp [f7])
          clear Hout
          go_wp2_with fail
          go_roundw
          case rel =>
            obtain ⟨a1, a2, a3, a4⟩ := HO.out _ Hkeep.out.1 Hkeep.out.2
            exact ⟨q, t, _, rfl, a1, by rw [← a2], by rw [hsnoc], a3, a4⟩
          case measure => simp [RowKit.intOf]; omega
        · have b1 : (k == 1) = false := by simpa using k1
          by_cases k3 : k = 3
          · subst k3
            by_cases s0 : st = 0
            · subst s0
              have HO := Hout (0) (0) (by simp [f7])
              clear Hout
              go_wp2_with fail
              go_roundw
              case rel =>
                obtain ⟨a1, a2, a3, a4⟩ := HO.out _ (Hset.out 0).1 (Hset.out 0).2
                exact ⟨q, t, _, rfl, a1, by rw [← a2], by rw [hsnoc], a3, a4⟩
              case measure => simp [RowKit.intOf]; omega
            · have bs : (st == 0) = false := by simpa using s0
              have HO := Hout (3) (st) (by simp [f7, s0])
              clear Hout
              go_wp2_with fail
              go_roundw
              case rel =>
                obtain ⟨a1, a2, a3, a4⟩ := HO.out _ Hkeep.out.1 Hkeep.out.2
                exact ⟨q, t, _, rfl, a1, by rw [← a2], by rw [hsnoc], a3, a4⟩
              case measure => simp [RowKit.intOf]; omega
          · have b3 : (k == 3) = false := by simpa using k3
            have HO := Hout (k) (st) (by simp [f7, isoZ, k0, k1, k3])
            clear Hout
            go_wp2_with fail
            go_roundw
            case rel =>
              obtain ⟨a1, a2, a3, a4⟩ := HO.out _ Hkeep.out.1 Hkeep.out.2
              exact ⟨q, t, _, rfl, a1, by rw [← a2], by rw [hsnoc], a3, a4⟩
            case measure => simp [RowKit.intOf]; omega
end Go.Proofs.Ytajpkidjdebolaa
