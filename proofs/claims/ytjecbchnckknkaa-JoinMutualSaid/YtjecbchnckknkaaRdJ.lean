/- Layer 11: runes that are read; the document's neighbour. -/
import Derived.Test.YtjecbchnckknkaaRowW
import Derived.Test.YtjecbchnckknkaaShpJ
import Derived.Test.YtjecbchnckknkaaSameT
set_option linter.unusedSimpArgs false
set_option linter.unusedVariables false
namespace Go.Proofs.Ytjecbchnckknkaa
open Go.RowKit Go.Lib

abbrev i32j (l : List Int) : List Value := l.map (Value.int .i32)
/-- runes that are read -/
def RdJ (w : World) (A : Option Addr) (n : Nat) (xs : List Int) : Prop := Rd w w.heap.size 1 A n (i32j xs)
theorem RdJ.below {w w' : World} {A : Option Addr} {n : Nat} {xs : List Int} (h : RdJ w A n xs) (hb : Below w.heap.size w w') : RdJ w' A n xs := (Rd.below h hb).more hb.size
theorem RdJ.own {w : World} {B n c : Nat} {A : Option Addr} {xs : List Int} (h : w.ownsRow B 21 1 (.slice A n c) n (i32j xs)) : RdJ w A n xs := Rd.own h
theorem RdJ.len {w : World} {A : Option Addr} {n : Nat} {xs : List Int} (h : RdJ w A n xs) : xs.length = n := by have := h.1; simpa using this
theorem RdJ.at {w : World} {n : Nat} {A : Option Addr} {xs : List Int} (h : RdJ w A n xs) {i : Nat} {r : Int} (hr : xs[i]? = some r) : ∃ a, A = some a ∧ i < n ∧ a.block < w.heap.size ∧ w.cell? (a.add i) = some (.int .i32 r) := by
  have hl := h.len
  have hi := (List.getElem?_eq_some_iff.1 hr).1
  obtain ⟨a, e, hb, hc⟩ := Rd.addr h (by omega)
  exact ⟨a, e, by omega, hb, hc i _ (by rw [List.getElem?_map, hr]; rfl)⟩
theorem kJ_cases (x : Int) : kJ x = 0 ∨ kJ x = 1 ∨ kJ x = 2 ∨ kJ x = 3 ∨ kJ x = 4 := by
  have := cls_lt (m := 5) joinsL (char x) (by decide) (by decide +kernel)
  unfold kJ; omega

set_option maxRecDepth 100000 in
set_option maxHeartbeats 1000000 in
theorem behind_anyJ (A : Option Addr) (n c : Nat) (xs : List Int) (i : Nat) (w : World) (hrd : RdJ w A n xs) (hn : n ≤ 140737488355328) (hi : i < n) :
    Calls Try.prog 29 #[.slice A n c, .int .i64 (i : Int), .int .i64 1] w fun e w' => e = .returned (.int .i8 (nextJ ((xs.drop (i + 1)).map kJ))) ∧ w' = w := by
  have hl := hrd.len
  have HJ := Lib.hid (show ∀ x w, Calls Try.prog 28 #[.int .i32 x] w fun e w' => e = .returned (.int .i8 (kJ x)) ∧ w' = w from refJoin_is)
  obtain ⟨R, hR⟩ : ∃ R, nextJ ((xs.drop (i + 1)).map kJ) = R := ⟨_, rfl⟩
  rw [hR]
  have hw0 : IntKind.i64.wrap ((i : Int) + 1) = ((i + 1 : Nat) : Int) := by rw [IntWalk.i64_in _ (by omega)]; omega
  obtain ⟨i1, hi1⟩ : ∃ i1, i + 1 = i1 := ⟨_, rfl⟩
  rw [hi1] at hw0 hR
  have H0 := Lib.hid hR
  have HRd := Lib.hid hrd
  have hin : i1 ≤ n := by omega
  clear hrd hR hi1
  go_enter Try.func29, Try.ntmps29
  go_wp2_with fail
  go_loopw [7] (fun x wr => wr = w ∧ ∃ (m : Nat), m ≤ n ∧ x = .int .i64 (m : Int) ∧ Hid (nextJ ((xs.drop m).map kJ) = R)) (fun x _ => n - (RowKit.intOf x).toNat)
  case atStart => exact ⟨rfl, i1, hin, rfl, H0⟩
  case round =>
    obtain ⟨hw, m, hm, rfl, HQ⟩ := hrel
    subst hw
    have hpos : (0 : Int) ≤ (m : Int) := by omega
    rcases Nat.lt_or_ge m n with hlt | hge
    · obtain ⟨r, hr⟩ : ∃ r, xs[m]? = some r := ⟨_, List.getElem?_eq_getElem (by omega)⟩
      obtain ⟨a, hA, _, _, hcell⟩ := HRd.out.at hr
      subst hA
      have hd : xs.drop m = r :: xs.drop (m + 1) := by
        have h1 := List.drop_eq_getElem_cons (l := xs) (i := m) (by omega)
        rw [h1, (List.getElem?_eq_some_iff.1 hr).2]
      have hq := HQ.out
      rw [hd, List.map_cons] at hq
      unfold nextJ at hq
      have hlti : (m : Int) < (n : Int) := by omega
      have hnext : IntKind.i64.wrap ((m : Int) + 1) = (m : Int) + 1 := IntWalk.i64_in _ (by omega)
      have HY := Lib.hid (fun (e : kJ r ≠ 4) => show R = kJ r from by rw [if_neg e] at hq; exact hq.symm)
      have HN := Lib.hid (fun (e : kJ r = 4) => show nextJ ((xs.drop (m + 1)).map kJ) = R from by rw [if_pos e] at hq; exact hq)
      have HJr := Lib.hid (HJ.out r)
      obtain ⟨k, hk⟩ : ∃ k, kJ r = k := ⟨_, rfl⟩
      rw [hk] at HY HN HJr
      clear hr hd hq hk HQ H0
      go_wp2_with fail
      refine (HJr.out _).mono ?_
      rintro _ w9 ⟨rfl, h9⟩
      obtain rfl := h9.symm
      by_cases h4 : k = 4
      · subst h4
        have HN' := Lib.hid (HN.out rfl)
        clear HN HY
        go_wp2_with fail
        go_roundw
        case rel => exact ⟨trivial, m + 1, by omega, by first | rfl | go_num, HN'⟩
        case measure => simp [RowKit.intOf] <;> omega
      · have b4 : (k != 4) = true := by simpa using h4
        obtain rfl := HY.out h4
        go_wp2_with fail
        go_ret
        exact ⟨rfl, rfl⟩
    · obtain rfl : m = n := by omega
      have hmm : ¬ (m : Int) < (m : Int) := by omega
      obtain rfl : R = 0 := by
        have := HQ.out
        rw [List.drop_eq_nil_of_le (by omega)] at this
        exact this.symm
      go_wp2_with fail
      go_ret
      exact ⟨rfl, rfl⟩

set_option maxRecDepth 100000 in
set_option maxHeartbeats 1000000 in
theorem ahead_anyJ (A : Option Addr) (n c : Nat) (xs : List Int) (i : Nat) (w : World) (hrd : RdJ w A n xs) (hn : n ≤ 140737488355328) (hi : i < n) :
    Calls Try.prog 29 #[.slice A n c, .int .i64 (i : Int), .int .i64 (-1)] w fun e w' => e = .returned (.int .i8 (prevJ ((xs.take i).map kJ))) ∧ w' = w := by
  have hl := hrd.len
  have HJ := Lib.hid (show ∀ x w, Calls Try.prog 28 #[.int .i32 x] w fun e w' => e = .returned (.int .i8 (kJ x)) ∧ w' = w from refJoin_is)
  obtain ⟨R, hR⟩ : ∃ R, prevJ ((xs.take i).map kJ) = R := ⟨_, rfl⟩
  rw [hR]
  have hw0 : IntKind.i64.wrap ((i : Int) + -1) = (i : Int) - 1 := by rw [IntWalk.i64_in _ (by omega)]; omega
  have H0 := Lib.hid hR
  have HRd := Lib.hid hrd
  have hin : i ≤ n := by omega
  clear hrd hR
  go_enter Try.func29, Try.ntmps29
  go_wp2_with fail
  go_loopw [7] (fun x wr => wr = w ∧ ∃ (m : Nat), m ≤ n ∧ x = .int .i64 ((m : Int) - 1) ∧ Hid (prevJ ((xs.take m).map kJ) = R)) (fun x _ => (RowKit.intOf x + 1).toNat)
  case atStart => exact ⟨rfl, i, hin, rfl, H0⟩
  case round =>
    obtain ⟨hw, m, hm, rfl, HQ⟩ := hrel
    subst hw
    rcases m with _ | m
    · have hneg : ¬ (0 : Int) ≤ ((0 : Nat) : Int) - 1 := by omega
      obtain rfl : R = 0 := HQ.out.symm
      go_wp2_with fail
      go_ret
      exact ⟨rfl, rfl⟩
    · obtain ⟨r, hr⟩ : ∃ r, xs[m]? = some r := ⟨_, List.getElem?_eq_getElem (by omega)⟩
      obtain ⟨a, hA, _, _, hcell⟩ := HRd.out.at hr
      subst hA
      have hq := HQ.out
      rw [List.take_add_one, hr, List.map_append] at hq
      simp only [Option.toList_some, List.map_cons, List.map_nil] at hq
      rw [prevJ_snoc] at hq
      unfold stepJ at hq
      have hmj : (((m + 1 : Nat) : Int) - 1) = (m : Int) := by omega
      rw [hmj]
      have hpos : (0 : Int) ≤ (m : Int) := by omega
      have hlti : (m : Int) < (n : Int) := by omega
      have hnext : IntKind.i64.wrap ((m : Int) + -1) = (m : Int) - 1 := by rw [IntWalk.i64_in _ (by omega)]; omega
      have HY := Lib.hid (fun (e : kJ r ≠ 4) => show R = kJ r from by rw [if_neg e] at hq; exact hq.symm)
      have HN := Lib.hid (fun (e : kJ r = 4) => show prevJ ((xs.take m).map kJ) = R from by rw [if_pos e] at hq; exact hq)
      have HJr := Lib.hid (HJ.out r)
      obtain ⟨k, hk⟩ : ∃ k, kJ r = k := ⟨_, rfl⟩
      rw [hk] at HY HN HJr
      clear hr hq hk HQ H0 hmj
      go_wp2_with fail
      refine (HJr.out _).mono ?_
      rintro _ w9 ⟨rfl, h9⟩
      obtain rfl := h9.symm
      by_cases h4 : k = 4
      · subst h4
        have HN' := Lib.hid (HN.out rfl)
        clear HN HY
        go_wp2_with fail
        go_roundw
        case rel => exact ⟨trivial, m, by omega, by first | rfl | go_num, HN'⟩
        case measure => simp [RowKit.intOf] <;> omega
      · have b4 : (k != 4) = true := by simpa using h4
        obtain rfl := HY.out h4
        go_wp2_with fail
        go_ret
        exact ⟨rfl, rfl⟩
end Go.Proofs.Ytjecbchnckknkaa
