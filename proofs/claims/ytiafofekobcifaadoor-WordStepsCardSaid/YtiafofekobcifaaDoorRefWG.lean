/- Layer 12, the document: Sort, joins, goes. (Made by tools/mkrwa.py.) -/
import Derived.Test.YtiafofekobcifaaDoorWordG
import Derived.Test.YtiafofekobcifaaDoorFirstG
import Derived.Test.YtiafofekobcifaaDoorRowG
import Derived.Deep.RegionHeld3
import Derived.Test.YtiafofekobcifaaDoorDocG
import Derived.Maps.AppendAt
set_option linter.unusedSimpArgs false
set_option linter.unusedVariables false
namespace Go.Proofs.YtiafofekobcifaaDoor
open Go.RowKit Go.Lib

theorem sortN_head (c : ByteArray) (h : 0 < chars c) : sortN c = sortD ((segs c.data.toList).getD 0 (0, 0)) := by
  unfold sortN
  cases hs : segs c.data.toList with
  | nil => have : chars c = 0 := by unfold chars; rw [hs]; rfl
           omega
  | cons d t => rfl
theorem intEq (a b : Nat) : ((a : Int) == (b : Int)) = decide (a = b) := by
  by_cases h : a = b
  · simp [h]
  · rw [decide_eq_false h]; exact beq_eq_false_iff_ne.2 (fun e => h (by omega))
set_option maxRecDepth 100000 in
set_option maxHeartbeats 4000000 in
theorem rsort_any (c : ByteArray) (w : World) (hs : c.size ≤ 1073741824) (h0 : 0 < chars c) : Calls Tryd.prog 25 #[.string c] w fun e w' =>
    e = .returned (.int .i64 (sortN c : Nat)) ∧ Below w.heap.size w w' := by
  have hcs : chars c ≤ c.size := by have := segs_len c.data.toList; rw [size_list] at this; exact this
  have HS := Lib.hid (signs_any c w hs)
  have HRk := Lib.hid refKind_is
  have HRb := Lib.hid refBreak_is
  rw [sortN_head c h0]
  obtain ⟨d, hd⟩ : ∃ d, (segs c.data.toList).getD 0 (0, 0) = d := ⟨_, rfl⟩
  rw [hd]
  have Hd := Lib.hid hd
  clear hd
  go_enter Tryd.func25, Tryd.ntmps25
  go_wp2_with fail
  refine HS.out.mono ?_
  rintro _ w1 ⟨A, cc, rfl, hown1, b1⟩
  have hR : RdS w1 w1.heap.size A 0 (segs c.data.toList) := Rd.own hown1
  obtain ⟨a, rfl, _, q0, _, q2⟩ := hR.at_ (i := 0) h0
  rw [show a.add (0 * 3) = a by simp [Addr.add]] at q0 q2
  rw [Hd.out] at q0 q2
  obtain ⟨m, hm⟩ : ∃ m, chars c = m := ⟨_, rfl⟩
  rw [hm] at h0 hcs
  rw [hm]
  have hm0 : (0 : Int) < (m : Int) := by omega
  have Hb1 := Lib.hid b1
  clear hR hown1 b1 hm HS
  by_cases hbad : badD d = true
  · rw [hbad] at q2
    have hv : sortD d = 0 := by unfold sortD; rw [if_pos hbad]
    have HV := Lib.hid hv
    clear hbad hv
    go_wp2_with fail
    go_ret
    exact ⟨by rw [HV.out]; rfl, Hb1.out⟩
  · have hb0 : badD d = false := by simpa using hbad
    rw [hb0] at q2
    have hv : sortD d = (if cls kindsL (char (d.1 : Int)) = 3 ∧ cls breaksL (char (d.1 : Int)) = 7 then 3
      else if cls kindsL (char (d.1 : Int)) = 3 ∨ cls kindsL (char (d.1 : Int)) = 2 ∨ d.1 = 95 then 1
      else if cls kindsL (char (d.1 : Int)) = 4 then 2
      else if (cls kindsL (char (d.1 : Int)) = 5 ∧ cls breaksL (char (d.1 : Int)) ≠ 2) ∨ d.1 = 9 then 4
      else 0) := by unfold sortD; rw [if_neg hbad]
    obtain ⟨r, hr⟩ : ∃ r, d.1 = r := ⟨_, rfl⟩
    rw [hr] at hv q0
    have HK := Lib.hid (fun W => HRk.out (r : Int) W)
    have HBk := Lib.hid (fun W => HRb.out (r : Int) W)
    obtain ⟨k, hk⟩ : ∃ k, cls kindsL (char (r : Int)) = k := ⟨_, rfl⟩
    obtain ⟨b, hb⟩ : ∃ b, cls breaksL (char (r : Int)) = b := ⟨_, rfl⟩
    rw [hk] at HK
    rw [hb] at HBk
    rw [hk, hb] at hv
    have HD := Lib.hid hv
    clear hbad hb0 hv hr hk hb HRk HRb
    go_wp2_with fail
    refine (HK.out _).mono ?_
    rintro _ w2 ⟨rfl, h2⟩
    obtain rfl := h2.symm
    go_wp2_with fail
    refine (HBk.out _).mono ?_
    rintro _ w2 ⟨rfl, h2⟩
    obtain rfl := h2.symm
    clear HK HBk q0 q2
    by_cases hk3' : k = 3
    · subst hk3'
      by_cases hb7' : b = 7
      · subst hb7'
        have HV := Lib.hid (show sortD d = 3 from by rw [HD.out]; simp)
        go_wp2_with fail
        go_ret
        exact ⟨by rw [HV.out]; rfl, Hb1.out⟩
      · have HV := Lib.hid (show sortD d = 1 from by rw [HD.out]; simp [hb7'])
        have hb7 : ((b : Int) == 7) = false := by rw [show (7 : Int) = ((7 : Nat) : Int) from rfl, intEq]; simp [hb7']
        clear hb7'
        go_wp2_with fail
        go_ret
        exact ⟨by rw [HV.out]; rfl, Hb1.out⟩
    have hk3 : ((k : Int) == 3) = false := by rw [show (3 : Int) = ((3 : Nat) : Int) from rfl, intEq]; simp [hk3']
    by_cases hk2' : k = 2
    · subst hk2'
      have HV := Lib.hid (show sortD d = 1 from by rw [HD.out]; simp)
      clear hk3 hk3'
      go_wp2_with fail
      go_ret
      exact ⟨by rw [HV.out]; rfl, Hb1.out⟩
    have hk2 : ((k : Int) == 2) = false := by rw [show (2 : Int) = ((2 : Nat) : Int) from rfl, intEq]; simp [hk2']
    by_cases hr95' : r = 95
    · subst hr95'
      have HV := Lib.hid (show sortD d = 1 from by rw [HD.out]; simp [hk3'])
      clear hk3' hk2'
      go_wp2_with fail
      go_ret
      exact ⟨by rw [HV.out]; rfl, Hb1.out⟩
    have hr95 : ((r : Int) == 95) = false := by rw [show (95 : Int) = ((95 : Nat) : Int) from rfl, intEq]; simp [hr95']
    by_cases hk4' : k = 4
    · subst hk4'
      have HV := Lib.hid (show sortD d = 2 from by rw [HD.out]; simp [hr95'])
      clear hk3 hk3' hk2 hk2' hr95'
      go_wp2_with fail
      go_ret
      exact ⟨by rw [HV.out]; rfl, Hb1.out⟩
    have hk4 : ((k : Int) == 4) = false := by rw [show (4 : Int) = ((4 : Nat) : Int) from rfl, intEq]; simp [hk4']
    have HD2 := Lib.hid (show sortD d = if (k = 5 ∧ b ≠ 2) ∨ r = 9 then 4 else 0 from by rw [HD.out]; simp [hk3', hk2', hr95', hk4'])
    clear hk3' hk2' hr95' hk4'
    by_cases hk5' : k = 5
    · subst hk5'
      by_cases hb2' : b = 2
      · subst hb2'
        by_cases hr9' : r = 9
        · subst hr9'
          have HV := Lib.hid (show sortD d = 4 from by rw [HD2.out]; simp)
          clear hk3 hk2 hr95 hk4
          go_wp2_with fail
          go_ret
          exact ⟨by rw [HV.out]; rfl, Hb1.out⟩
        · have HV := Lib.hid (show sortD d = 0 from by rw [HD2.out]; simp [hr9'])
          have hr9 : ((r : Int) == 9) = false := by rw [show (9 : Int) = ((9 : Nat) : Int) from rfl, intEq]; simp [hr9']
          clear hk3 hk2 hk4 hr9'
          go_wp2_with fail
          go_ret
          exact ⟨by rw [HV.out]; rfl, Hb1.out⟩
      · have HV := Lib.hid (show sortD d = 4 from by rw [HD2.out]; simp [hb2'])
        have hb2 : ((b : Int) == 2) = false := by rw [show (2 : Int) = ((2 : Nat) : Int) from rfl, intEq]; simp [hb2']
        have gb2 : ((b : Int) != 2) = true := by rw [bne, hb2]; rfl
        clear hk3 hk2 hk4 hb2'
        go_wp2_with fail
        go_ret
        exact ⟨by rw [HV.out]; rfl, Hb1.out⟩
    have hk5 : ((k : Int) == 5) = false := by rw [show (5 : Int) = ((5 : Nat) : Int) from rfl, intEq]; simp [hk5']
    by_cases hr9' : r = 9
    · subst hr9'
      have HV := Lib.hid (show sortD d = 4 from by rw [HD2.out]; simp)
      clear hk5' hr95
      go_wp2_with fail
      go_ret
      exact ⟨by rw [HV.out]; rfl, Hb1.out⟩
    · have HV := Lib.hid (show sortD d = 0 from by rw [HD2.out]; simp [hr9', hk5'])
      have hr9 : ((r : Int) == 9) = false := by rw [show (9 : Int) = ((9 : Nat) : Int) from rfl, intEq]; simp [hr9']
      clear hk5' hr9'
      go_wp2_with fail
      go_ret
      exact ⟨by rw [HV.out]; rfl, Hb1.out⟩
set_option maxRecDepth 100000 in
set_option maxHeartbeats 4000000 in
theorem rjoins_any (c : ByteArray) (a b : Nat) (w : World) : Calls Tryd.prog 42 #[.string c, .int .i64 (a : Int), .int .i64 (b : Int)] w fun e w' =>
    e = .returned (.bool (joinsN c a b)) ∧ w' = w := by
  have he : ∀ (x : ByteArray) (l : List UInt8), x ≠ ⟨l.toArray⟩ → (x.toList == l) = false := fun x l h => by
    rw [toList_data, beq_eq_false_iff_ne]
    intro e
    apply h
    cases x with | mk a =>
    have e : a.toList = l := e
    rw [← e]
  go_enter Tryd.func42, Tryd.ntmps42
  by_cases h0 : c = ⟨#[39]⟩
  · subst h0
    have hv : joinsN ⟨#[39]⟩ a b = (a == 1 && b == 1) := rfl
    have HV := Lib.hid hv
    clear hv
    by_cases ha : a = 1
    · subst ha
      have hv : ((1 : Nat) == 1 && b == 1) = ((b : Int) == 1) := by rw [show (1 : Int) = ((1 : Nat) : Int) from rfl, intEq]; by_cases h : b = 1 <;> simp [h]
      have HU := Lib.hid hv
      clear hv
      go_wp2_with fail
      go_ret
      exact ⟨by rw [HV.out, HU.out]; rfl, rfl⟩
    · have hv : (a == 1 && b == 1) = false := by simp [ha]
      have HU := Lib.hid hv
      have hai : ((a : Int) == 1) = false := by rw [show (1 : Int) = ((1 : Nat) : Int) from rfl, intEq]; simp [ha]
      clear hv ha
      go_wp2_with fail
      go_ret
      exact ⟨by rw [HV.out, HU.out]; rfl, rfl⟩
  have g0 : (c.toList == [39]) = false := he c [39] h0
  by_cases h1 : c = ⟨#[226, 128, 153]⟩
  · subst h1
    have hv : joinsN ⟨#[226, 128, 153]⟩ a b = (a == 1 && b == 1) := rfl
    have HV := Lib.hid hv
    clear hv
    by_cases ha : a = 1
    · subst ha
      have hv : ((1 : Nat) == 1 && b == 1) = ((b : Int) == 1) := by rw [show (1 : Int) = ((1 : Nat) : Int) from rfl, intEq]; by_cases h : b = 1 <;> simp [h]
      have HU := Lib.hid hv
      clear hv
      go_wp2_with fail
      go_ret
      exact ⟨by rw [HV.out, HU.out]; rfl, rfl⟩
    · have hv : (a == 1 && b == 1) = false := by simp [ha]
      have HU := Lib.hid hv
      have hai : ((a : Int) == 1) = false := by rw [show (1 : Int) = ((1 : Nat) : Int) from rfl, intEq]; simp [ha]
      clear hv ha
      go_wp2_with fail
      go_ret
      exact ⟨by rw [HV.out, HU.out]; rfl, rfl⟩
  have g1 : (c.toList == [226, 128, 153]) = false := he c [226, 128, 153] h1
  by_cases h2 : c = ⟨#[194, 183]⟩
  · subst h2
    have hv : joinsN ⟨#[194, 183]⟩ a b = (a == 1 && b == 1) := rfl
    have HV := Lib.hid hv
    clear hv
    by_cases ha : a = 1
    · subst ha
      have hv : ((1 : Nat) == 1 && b == 1) = ((b : Int) == 1) := by rw [show (1 : Int) = ((1 : Nat) : Int) from rfl, intEq]; by_cases h : b = 1 <;> simp [h]
      have HU := Lib.hid hv
      clear hv
      go_wp2_with fail
      go_ret
      exact ⟨by rw [HV.out, HU.out]; rfl, rfl⟩
    · have hv : (a == 1 && b == 1) = false := by simp [ha]
      have HU := Lib.hid hv
      have hai : ((a : Int) == 1) = false := by rw [show (1 : Int) = ((1 : Nat) : Int) from rfl, intEq]; simp [ha]
      clear hv ha
      go_wp2_with fail
      go_ret
      exact ⟨by rw [HV.out, HU.out]; rfl, rfl⟩
  have g2 : (c.toList == [194, 183]) = false := he c [194, 183] h2
  by_cases h3 : c = ⟨#[58]⟩
  · subst h3
    have hv : joinsN ⟨#[58]⟩ a b = (a == 1 && b == 1) := rfl
    have HV := Lib.hid hv
    clear hv
    by_cases ha : a = 1
    · subst ha
      have hv : ((1 : Nat) == 1 && b == 1) = ((b : Int) == 1) := by rw [show (1 : Int) = ((1 : Nat) : Int) from rfl, intEq]; by_cases h : b = 1 <;> simp [h]
      have HU := Lib.hid hv
      clear hv
      go_wp2_with fail
      go_ret
      exact ⟨by rw [HV.out, HU.out]; rfl, rfl⟩
    · have hv : (a == 1 && b == 1) = false := by simp [ha]
      have HU := Lib.hid hv
      have hai : ((a : Int) == 1) = false := by rw [show (1 : Int) = ((1 : Nat) : Int) from rfl, intEq]; simp [ha]
      clear hv ha
      go_wp2_with fail
      go_ret
      exact ⟨by rw [HV.out, HU.out]; rfl, rfl⟩
  have g3 : (c.toList == [58]) = false := he c [58] h3
  by_cases h4 : c = ⟨#[46]⟩
  · subst h4
    have hv : joinsN ⟨#[46]⟩ a b = (a == 2 && b == 2) := rfl
    have HV := Lib.hid hv
    clear hv
    by_cases ha : a = 2
    · subst ha
      have hv : ((2 : Nat) == 2 && b == 2) = ((b : Int) == 2) := by rw [show (2 : Int) = ((2 : Nat) : Int) from rfl, intEq]; by_cases h : b = 2 <;> simp [h]
      have HU := Lib.hid hv
      clear hv
      go_wp2_with fail
      go_ret
      exact ⟨by rw [HV.out, HU.out]; rfl, rfl⟩
    · have hv : (a == 2 && b == 2) = false := by simp [ha]
      have HU := Lib.hid hv
      have hai : ((a : Int) == 2) = false := by rw [show (2 : Int) = ((2 : Nat) : Int) from rfl, intEq]; simp [ha]
      clear hv ha
      go_wp2_with fail
      go_ret
      exact ⟨by rw [HV.out, HU.out]; rfl, rfl⟩
  have g4 : (c.toList == [46]) = false := he c [46] h4
  by_cases h5 : c = ⟨#[44]⟩
  · subst h5
    have hv : joinsN ⟨#[44]⟩ a b = (a == 2 && b == 2) := rfl
    have HV := Lib.hid hv
    clear hv
    by_cases ha : a = 2
    · subst ha
      have hv : ((2 : Nat) == 2 && b == 2) = ((b : Int) == 2) := by rw [show (2 : Int) = ((2 : Nat) : Int) from rfl, intEq]; by_cases h : b = 2 <;> simp [h]
      have HU := Lib.hid hv
      clear hv
      go_wp2_with fail
      go_ret
      exact ⟨by rw [HV.out, HU.out]; rfl, rfl⟩
    · have hv : (a == 2 && b == 2) = false := by simp [ha]
      have HU := Lib.hid hv
      have hai : ((a : Int) == 2) = false := by rw [show (2 : Int) = ((2 : Nat) : Int) from rfl, intEq]; simp [ha]
      clear hv ha
      go_wp2_with fail
      go_ret
      exact ⟨by rw [HV.out, HU.out]; rfl, rfl⟩
  have g5 : (c.toList == [44]) = false := he c [44] h5
  have hv : joinsN c a b = false := by unfold joinsN; rw [if_neg (by simp [h0, h1, h2, h3]), if_neg (by simp [h4, h5])]
  have HV := Lib.hid hv
  clear hv
  go_wp2_with fail
  go_ret
  exact ⟨by rw [HV.out]; rfl, rfl⟩
end Go.Proofs.YtiafofekobcifaaDoor

/- Layer 12, the document: goes. (Made by tools/mkrwb.py.) -/
namespace Go.Proofs.YtiafofekobcifaaDoor
open Go.RowKit Go.Lib

/-- the sorts of clusters, as they lie -/
def srtV (L : List (Nat × ByteArray)) : List Value := L.map fun x => Value.int .i64 (sortN x.2 : Nat)
theorem below_DW {B : Nat} {a w : World} (h : Below B a w) : Below B a w.drew := ⟨h.os, h.tape, h.output, h.size, h.block⟩
theorem srt_at {w : World} {B : Nat} {A : Option Addr} {n : Nat} {L : List (Nat × ByteArray)} (h : Rd w B 1 A n (srtV L)) {i : Nat} {x : Nat × ByteArray} (hx : L[i]? = some x) :
    ∃ a, A = some a ∧ a.block < B ∧ w.cell? (a.add i) = some (.int .i64 (sortN x.2 : Nat)) := by
  have hi := (List.getElem?_eq_some_iff.1 hx).1
  have hl : n = L.length := by have := h.1; simpa [srtV] using this.symm
  obtain ⟨a, e, hb, hc⟩ := Rd.addr h (by omega)
  exact ⟨a, e, hb, hc i _ (by unfold srtV; rw [List.getElem?_map, hx]; rfl)⟩
theorem oneW_1 : oneW 1 = true := rfl
theorem oneW_2 : oneW 2 = true := rfl
theorem add_succW (a : Addr) (k : Nat) : a.add (k + 1) = ⟨a.block, a.off + (k + 1), none⟩ := by unfold Addr.add; simp
theorem so_is {L : List (Nat × ByteArray)} {i : Nat} {x : Nat × ByteArray} (h : L[i]? = some x) : soW (L.map (·.2)) i = sortN x.2 := by unfold soW; rw [List.getElem?_map, h]; rfl
theorem cu_is {L : List (Nat × ByteArray)} {i : Nat} {x : Nat × ByteArray} (h : L[i]? = some x) : cuW (L.map (·.2)) i = x.2 := by unfold cuW; rw [List.getElem?_map, h]; rfl
set_option maxRecDepth 100000 in
set_option maxHeartbeats 8000000 in
theorem rgoes_any (A A' : Option Addr) (n c c' : Nat) (L : List (Nat × ByteArray)) (i : Nat) (w : World) (hR : RdP w w.heap.size A L) (hS : Rd w w.heap.size 1 A' n (srtV L)) (hn : L.length = n) (hi : i < n) (hm : n ≤ 1073741824) :
    Calls Tryd.prog 26 #[.slice A n c, .slice A' n c', .int .i64 (i : Int)] w fun e w' => e = .returned (.bool (goesW (L.map (·.2)) i)) ∧ Below w.heap.size w w' := by
  obtain ⟨B, hB⟩ : ∃ B, w.heap.size = B := ⟨_, rfl⟩
  have hl : (L.map (·.2)).length = n := by rw [List.length_map, hn]
  obtain ⟨x0, hx0⟩ : ∃ x, L[i]? = some x := ⟨_, List.getElem?_eq_getElem (by omega)⟩
  obtain ⟨al, rfl, hab, _, g0⟩ := hR.at_ hx0
  rw [add_next] at g0
  obtain ⟨as_, rfl, hsb, s0⟩ := srt_at hS hx0
  rw [hB] at hab hsb
  have hw1 : IntKind.i64.wrap ((i : Int) + 1) = ((i + 1 : Nat) : Int) := by rw [IntWalk.i64_in _ (by omega)]; omega
  have hw2 : IntKind.i64.wrap ((i : Int) + 2) = ((i + 2 : Nat) : Int) := by rw [IntWalk.i64_in _ (by omega)]; omega
  have Hb := Lib.hid (Below.refl B w)
  have HD := Lib.hid (below_DW (Below.refl B w))
  by_cases h1 : i + 1 < n
  · obtain ⟨x1, hx1⟩ : ∃ x, L[i + 1]? = some x := ⟨_, List.getElem?_eq_getElem (by omega)⟩
    obtain ⟨al1, e1, _, _, g1⟩ := hR.at_ hx1
    obtain rfl := Option.some.inj e1
    rw [add_next] at g1
    obtain ⟨as1, e2, _, s1⟩ := srt_at hS hx1
    obtain rfl := Option.some.inj e2
    rw [add_succW] at s1
    have hv : goesW (L.map (·.2)) i = ((oneW (sortN x0.2) && oneW (sortN x1.2) || sortN x0.2 == 4 && sortN x1.2 == 4) || (oneW (sortN x0.2) && (decide (i + 2 < n) && joinsN x1.2 (sortN x0.2) (soW (L.map (·.2)) (i + 2)))) ||
      (oneW (sortN x1.2) && (decide (0 < i) && joinsN x0.2 (soW (L.map (·.2)) (i - 1)) (sortN x1.2)))) := by
      unfold goesW
      rw [hl, decide_eq_true h1, so_is hx0, so_is hx1, cu_is hx0, cu_is hx1, Bool.true_and]
    have HP : Hid (i + 2 < n → ∃ s2 : Nat, soW (L.map (·.2)) (i + 2) = s2 ∧ w.cell? ⟨as_.block, as_.off + (i + 2), none⟩ = some (.int .i64 (s2 : Int))) := Lib.hid (fun h => by
      obtain ⟨x2, hx2⟩ : ∃ x, L[i + 2]? = some x := ⟨_, List.getElem?_eq_getElem (by omega)⟩
      obtain ⟨as2, e, _, h3⟩ := srt_at hS hx2
      obtain rfl := Option.some.inj e
      exact ⟨_, so_is hx2, by rw [← add_succW]; exact h3⟩)
    have HM : Hid (0 < i → ∃ sm : Nat, soW (L.map (·.2)) (i - 1) = sm ∧ w.cell? (as_.add (i - 1)) = some (.int .i64 (sm : Int))) := Lib.hid (fun h => by
      obtain ⟨x2, hx2⟩ : ∃ x, L[i - 1]? = some x := ⟨_, List.getElem?_eq_getElem (by omega)⟩
      obtain ⟨as2, e, _, h3⟩ := srt_at hS hx2
      obtain rfl := Option.some.inj e
      exact ⟨_, so_is hx2, h3⟩)
    obtain ⟨S2, hS2⟩ : ∃ S2, soW (L.map (·.2)) (i + 2) = S2 := ⟨_, rfl⟩
    obtain ⟨Sm, hSm⟩ : ∃ Sm, soW (L.map (·.2)) (i - 1) = Sm := ⟨_, rfl⟩
    rw [hS2] at HP
    rw [hSm] at HM
    rw [hS2, hSm] at hv
    obtain ⟨a, ha⟩ : ∃ a, sortN x0.2 = a := ⟨_, rfl⟩
    obtain ⟨b, hb⟩ : ∃ b, sortN x1.2 = b := ⟨_, rfl⟩
    rw [ha] at s0
    rw [hb] at s1
    rw [ha, hb] at hv
    obtain ⟨y0, hy0⟩ : ∃ y, x0.2 = y := ⟨_, rfl⟩
    obtain ⟨y1, hy1⟩ : ∃ y, x1.2 = y := ⟨_, rfl⟩
    rw [hy0] at g0
    rw [hy1] at g1
    rw [hy0, hy1] at hv
    have HD0 := Lib.hid hv
    have HJ := Lib.hid rjoins_any
    have hi1 : ((i + 1 : Nat) : Int) < (n : Int) := by omega
    have hi0 : (i : Int) < (n : Int) := by omega
    have hn1 : ¬ ((n : Int) ≤ ((i + 1 : Nat) : Int)) := by omega
    have hn1a : ¬ ((n : Int) ≤ (i : Int) + 1) := by omega
    have hp0 : (0 : Int) ≤ (i : Int) := by omega
    have hp1 : (0 : Int) ≤ (i : Int) + 1 := by omega
    have hp2 : (0 : Int) ≤ (i : Int) + 2 := by omega
    have hq1 : (i : Int) + 1 < (n : Int) := by omega
    have k0 : w.drew.cell? ⟨(al.add (i * 2)).block, (al.add (i * 2)).off + 1, none⟩ = some (.string y0) := g0
    have k1 : w.drew.cell? ⟨(al.add ((i + 1) * 2)).block, (al.add ((i + 1) * 2)).off + 1, none⟩ = some (.string y1) := g1
    clear hv hS2 hSm ha hb hy0 hy1 hx0 hx1 hR hS hl hn g0 g1
    rw [hB]
    clear hB
    go_enter Tryd.func26, Tryd.ntmps26
    by_cases ha1 : a = 1
    · subst ha1
      by_cases hb1 : b = 1
      · subst hb1
        have HV := Lib.hid (show goesW (L.map (·.2)) i = true from by rw [HD0.out]; simp [oneW_1, oneW_2])
        go_wp2_with fail
        go_ret
        exact ⟨by rw [HV.out]; rfl, Hb.out⟩
      by_cases hb2 : b = 2
      · subst hb2
        have HV := Lib.hid (show goesW (L.map (·.2)) i = true from by rw [HD0.out]; simp [oneW_1, oneW_2])
        go_wp2_with fail
        go_ret
        exact ⟨by rw [HV.out]; rfl, Hb.out⟩
      have hbo : oneW b = false := by unfold oneW; simp [hb1, hb2]
      have hb1i : ((b : Int) == 1) = false := by rw [show (1 : Int) = ((1 : Nat) : Int) from rfl, intEq]; simp [hb1]
      have hb2i : ((b : Int) == 2) = false := by rw [show (2 : Int) = ((2 : Nat) : Int) from rfl, intEq]; simp [hb2]
      have HD1 := Lib.hid (show goesW (L.map (·.2)) i = (decide (i + 2 < n) && joinsN y1 1 S2) from by rw [HD0.out]; simp [hbo, oneW_1, oneW_2])
      by_cases h2 : i + 2 < n
      · obtain ⟨s2, e2, k2⟩ := HP.out h2
        subst e2
        have hi2 : ((i + 2 : Nat) : Int) < (n : Int) := by omega
        have hi2a : (i : Int) + 2 < (n : Int) := by omega
        have hi2b : decide ((i : Int) + 2 < (n : Int)) = true := decide_eq_true hi2a
        have hi2c : decide (i + 2 < n) = true := decide_eq_true h2
        have hi2e : decide (((i + 2 : Nat) : Int) < (n : Int)) = true := decide_eq_true hi2
        have k2 : w.drew.cell? (as_.add ((i : Int) + 2).toNat) = some (.int .i64 (S2 : Int)) := by rw [show ((i : Int) + 2).toNat = i + 1 + 1 by omega, add_succW]; exact k2
        have HJa := Lib.hid (fun W => HJ.out y1 1 S2 W)
        obtain ⟨J, hJ⟩ : ∃ J, joinsN y1 1 S2 = J := ⟨_, rfl⟩
        rw [hJ] at HJa
        have HV := Lib.hid (show goesW (L.map (·.2)) i = J from by rw [HD1.out, decide_eq_true h2, Bool.true_and, hJ])
        clear hJ hbo hb1 hb2 HP HM
        cases J
        · go_wp2_with fail
          go_region_held3 (fun W' => W'.cell? ⟨(al.add ((i + 1) * 2)).block, (al.add ((i + 1) * 2)).off + 1, none⟩ = some (.string y1) ∧ W'.cell? (as_.add ((i : Int) + 2).toNat) = some (.int .i64 (S2 : Int)))
            (first | exact ⟨k1, k2⟩)
            (first | (go_simp; go_at_call 42; refine (HJa.out _).mono ?_; rintro e4 w4 ⟨rfl, h4⟩; obtain rfl := h4.symm))
          go_wp2_with fail
          go_region
          go_wp2_with fail
          go_ret
          exact ⟨by rw [HV.out]; rfl, (below_DW HD.out)⟩
        · go_wp2_with fail
          go_region_held3 (fun W' => W'.cell? ⟨(al.add ((i + 1) * 2)).block, (al.add ((i + 1) * 2)).off + 1, none⟩ = some (.string y1) ∧ W'.cell? (as_.add ((i : Int) + 2).toNat) = some (.int .i64 (S2 : Int)))
            (first | exact ⟨k1, k2⟩)
            (first | (go_simp; go_at_call 42; refine (HJa.out _).mono ?_; rintro e4 w4 ⟨rfl, h4⟩; obtain rfl := h4.symm))
          go_wp2_with fail
          go_ret
          exact ⟨by rw [HV.out]; rfl, HD.out⟩
      · have HV := Lib.hid (show goesW (L.map (·.2)) i = false from by rw [HD1.out, decide_eq_false h2, Bool.false_and])
        have hi2 : ¬ ((i + 2 : Nat) : Int) < (n : Int) := by omega
        have hi2a : ¬ (i : Int) + 2 < (n : Int) := by omega
        have hi2b : decide ((i : Int) + 2 < (n : Int)) = false := decide_eq_false hi2a
        have hi2c : decide (i + 2 < n) = false := decide_eq_false h2
        have hi2e : decide (((i + 2 : Nat) : Int) < (n : Int)) = false := decide_eq_false hi2
        clear hbo hb1 hb2 HP HM
        go_wp2_with fail
        go_region
        go_wp2_with fail
        go_region
        go_wp2_with fail
        go_ret
        exact ⟨by rw [HV.out]; rfl, (below_DW HD.out)⟩
    by_cases ha2 : a = 2
    · subst ha2
      by_cases hb1 : b = 1
      · subst hb1
        have HV := Lib.hid (show goesW (L.map (·.2)) i = true from by rw [HD0.out]; simp [oneW_1, oneW_2])
        go_wp2_with fail
        go_ret
        exact ⟨by rw [HV.out]; rfl, Hb.out⟩
      by_cases hb2 : b = 2
      · subst hb2
        have HV := Lib.hid (show goesW (L.map (·.2)) i = true from by rw [HD0.out]; simp [oneW_1, oneW_2])
        go_wp2_with fail
        go_ret
        exact ⟨by rw [HV.out]; rfl, Hb.out⟩
      have hbo : oneW b = false := by unfold oneW; simp [hb1, hb2]
      have hb1i : ((b : Int) == 1) = false := by rw [show (1 : Int) = ((1 : Nat) : Int) from rfl, intEq]; simp [hb1]
      have hb2i : ((b : Int) == 2) = false := by rw [show (2 : Int) = ((2 : Nat) : Int) from rfl, intEq]; simp [hb2]
      have HD1 := Lib.hid (show goesW (L.map (·.2)) i = (decide (i + 2 < n) && joinsN y1 2 S2) from by rw [HD0.out]; simp [hbo, oneW_1, oneW_2])
      by_cases h2 : i + 2 < n
      · obtain ⟨s2, e2, k2⟩ := HP.out h2
        subst e2
        have hi2 : ((i + 2 : Nat) : Int) < (n : Int) := by omega
        have hi2a : (i : Int) + 2 < (n : Int) := by omega
        have hi2b : decide ((i : Int) + 2 < (n : Int)) = true := decide_eq_true hi2a
        have hi2c : decide (i + 2 < n) = true := decide_eq_true h2
        have hi2e : decide (((i + 2 : Nat) : Int) < (n : Int)) = true := decide_eq_true hi2
        have k2 : w.drew.cell? (as_.add ((i : Int) + 2).toNat) = some (.int .i64 (S2 : Int)) := by rw [show ((i : Int) + 2).toNat = i + 1 + 1 by omega, add_succW]; exact k2
        have HJa := Lib.hid (fun W => HJ.out y1 2 S2 W)
        obtain ⟨J, hJ⟩ : ∃ J, joinsN y1 2 S2 = J := ⟨_, rfl⟩
        rw [hJ] at HJa
        have HV := Lib.hid (show goesW (L.map (·.2)) i = J from by rw [HD1.out, decide_eq_true h2, Bool.true_and, hJ])
        clear hJ hbo hb1 hb2 HP HM
        cases J
        · go_wp2_with fail
          go_region_held3 (fun W' => W'.cell? ⟨(al.add ((i + 1) * 2)).block, (al.add ((i + 1) * 2)).off + 1, none⟩ = some (.string y1) ∧ W'.cell? (as_.add ((i : Int) + 2).toNat) = some (.int .i64 (S2 : Int)))
            (first | exact ⟨k1, k2⟩)
            (first | (go_simp; go_at_call 42; refine (HJa.out _).mono ?_; rintro e4 w4 ⟨rfl, h4⟩; obtain rfl := h4.symm))
          go_wp2_with fail
          go_region
          go_wp2_with fail
          go_ret
          exact ⟨by rw [HV.out]; rfl, (below_DW HD.out)⟩
        · go_wp2_with fail
          go_region_held3 (fun W' => W'.cell? ⟨(al.add ((i + 1) * 2)).block, (al.add ((i + 1) * 2)).off + 1, none⟩ = some (.string y1) ∧ W'.cell? (as_.add ((i : Int) + 2).toNat) = some (.int .i64 (S2 : Int)))
            (first | exact ⟨k1, k2⟩)
            (first | (go_simp; go_at_call 42; refine (HJa.out _).mono ?_; rintro e4 w4 ⟨rfl, h4⟩; obtain rfl := h4.symm))
          go_wp2_with fail
          go_ret
          exact ⟨by rw [HV.out]; rfl, HD.out⟩
      · have HV := Lib.hid (show goesW (L.map (·.2)) i = false from by rw [HD1.out, decide_eq_false h2, Bool.false_and])
        have hi2 : ¬ ((i + 2 : Nat) : Int) < (n : Int) := by omega
        have hi2a : ¬ (i : Int) + 2 < (n : Int) := by omega
        have hi2b : decide ((i : Int) + 2 < (n : Int)) = false := decide_eq_false hi2a
        have hi2c : decide (i + 2 < n) = false := decide_eq_false h2
        have hi2e : decide (((i + 2 : Nat) : Int) < (n : Int)) = false := decide_eq_false hi2
        clear hbo hb1 hb2 HP HM
        go_wp2_with fail
        go_region
        go_wp2_with fail
        go_region
        go_wp2_with fail
        go_ret
        exact ⟨by rw [HV.out]; rfl, (below_DW HD.out)⟩
    have hao : oneW a = false := by unfold oneW; simp [ha1, ha2]
    have ha1i : ((a : Int) == 1) = false := by rw [show (1 : Int) = ((1 : Nat) : Int) from rfl, intEq]; simp [ha1]
    have ha2i : ((a : Int) == 2) = false := by rw [show (2 : Int) = ((2 : Nat) : Int) from rfl, intEq]; simp [ha2]
    by_cases hb1 : b = 1
    · subst hb1
      have HD1 := Lib.hid (show goesW (L.map (·.2)) i = (decide (0 < i) && joinsN y0 Sm 1) from by rw [HD0.out]; simp [hao, oneW_1, oneW_2])
      by_cases h0 : 0 < i
      · obtain ⟨sm, e2, k2⟩ := HM.out h0
        subst e2
        have hi2 : (0 : Int) < (i : Int) := by omega
        have hi2b : decide ((0 : Int) < (i : Int)) = true := decide_eq_true hi2
        have hi2c : decide (0 < i) = true := decide_eq_true h0
        have hwm : IntKind.i64.wrap ((i : Int) - 1) = ((i - 1 : Nat) : Int) := by rw [IntWalk.i64_in _ (by omega)]; omega
        have him : ((i - 1 : Nat) : Int) < (n : Int) := by omega
        have k2 : w.drew.cell? (as_.add (i - 1)) = some (.int .i64 (Sm : Int)) := k2
        have HJa := Lib.hid (fun W => HJ.out y0 Sm 1 W)
        obtain ⟨J, hJ⟩ : ∃ J, joinsN y0 Sm 1 = J := ⟨_, rfl⟩
        rw [hJ] at HJa
        have HV := Lib.hid (show goesW (L.map (·.2)) i = J from by rw [HD1.out, decide_eq_true h0, Bool.true_and, hJ])
        clear hJ hao HP HM ha1 ha2
        by_cases ha4 : a = 4
        · subst ha4
          clear ha1i ha2i
          go_wp2_with fail
          go_region
          go_wp2_with fail
          go_region_held3 (fun W' => W'.cell? ⟨(al.add (i * 2)).block, (al.add (i * 2)).off + 1, none⟩ = some (.string y0) ∧ W'.cell? (as_.add (i - 1)) = some (.int .i64 (Sm : Int)))
            (first | exact ⟨k0, k2⟩)
            (first | (go_simp; go_at_call 42; refine (HJa.out _).mono ?_; rintro e4 w4 ⟨rfl, h4⟩; obtain rfl := h4.symm))
          go_wp2_with fail
          go_ret
          exact ⟨by rw [HV.out]; rfl, (below_DW HD.out)⟩
        · have ha4i : ((a : Int) == 4) = false := by rw [show (4 : Int) = ((4 : Nat) : Int) from rfl, intEq]; simp [ha4]
          clear ha4
          go_wp2_with fail
          go_region
          go_wp2_with fail
          go_region_held3 (fun W' => W'.cell? ⟨(al.add (i * 2)).block, (al.add (i * 2)).off + 1, none⟩ = some (.string y0) ∧ W'.cell? (as_.add (i - 1)) = some (.int .i64 (Sm : Int)))
            (first | exact ⟨k0, k2⟩)
            (first | (go_simp; go_at_call 42; refine (HJa.out _).mono ?_; rintro e4 w4 ⟨rfl, h4⟩; obtain rfl := h4.symm))
          go_wp2_with fail
          go_ret
          exact ⟨by rw [HV.out]; rfl, (below_DW HD.out)⟩
      · have HV := Lib.hid (show goesW (L.map (·.2)) i = false from by rw [HD1.out, decide_eq_false h0, Bool.false_and])
        have hi2 : ¬ (0 : Int) < (i : Int) := by omega
        have hi2b : decide ((0 : Int) < (i : Int)) = false := decide_eq_false hi2
        have hi2c : decide (0 < i) = false := decide_eq_false h0
        clear hao HP HM ha1 ha2
        by_cases ha4 : a = 4
        · subst ha4
          clear ha1i ha2i
          go_wp2_with fail
          go_region
          go_wp2_with fail
          go_region
          go_wp2_with fail
          go_ret
          exact ⟨by rw [HV.out]; rfl, (below_DW HD.out)⟩
        · have ha4i : ((a : Int) == 4) = false := by rw [show (4 : Int) = ((4 : Nat) : Int) from rfl, intEq]; simp [ha4]
          clear ha4
          go_wp2_with fail
          go_region
          go_wp2_with fail
          go_region
          go_wp2_with fail
          go_ret
          exact ⟨by rw [HV.out]; rfl, (below_DW HD.out)⟩
    by_cases hb2 : b = 2
    · subst hb2
      have HD1 := Lib.hid (show goesW (L.map (·.2)) i = (decide (0 < i) && joinsN y0 Sm 2) from by rw [HD0.out]; simp [hao, oneW_1, oneW_2])
      by_cases h0 : 0 < i
      · obtain ⟨sm, e2, k2⟩ := HM.out h0
        subst e2
        have hi2 : (0 : Int) < (i : Int) := by omega
        have hi2b : decide ((0 : Int) < (i : Int)) = true := decide_eq_true hi2
        have hi2c : decide (0 < i) = true := decide_eq_true h0
        have hwm : IntKind.i64.wrap ((i : Int) - 1) = ((i - 1 : Nat) : Int) := by rw [IntWalk.i64_in _ (by omega)]; omega
        have him : ((i - 1 : Nat) : Int) < (n : Int) := by omega
        have k2 : w.drew.cell? (as_.add (i - 1)) = some (.int .i64 (Sm : Int)) := k2
        have HJa := Lib.hid (fun W => HJ.out y0 Sm 2 W)
        obtain ⟨J, hJ⟩ : ∃ J, joinsN y0 Sm 2 = J := ⟨_, rfl⟩
        rw [hJ] at HJa
        have HV := Lib.hid (show goesW (L.map (·.2)) i = J from by rw [HD1.out, decide_eq_true h0, Bool.true_and, hJ])
        clear hJ hao HP HM ha1 ha2
        by_cases ha4 : a = 4
        · subst ha4
          clear ha1i ha2i
          go_wp2_with fail
          go_region
          go_wp2_with fail
          go_region_held3 (fun W' => W'.cell? ⟨(al.add (i * 2)).block, (al.add (i * 2)).off + 1, none⟩ = some (.string y0) ∧ W'.cell? (as_.add (i - 1)) = some (.int .i64 (Sm : Int)))
            (first | exact ⟨k0, k2⟩)
            (first | (go_simp; go_at_call 42; refine (HJa.out _).mono ?_; rintro e4 w4 ⟨rfl, h4⟩; obtain rfl := h4.symm))
          go_wp2_with fail
          go_ret
          exact ⟨by rw [HV.out]; rfl, (below_DW HD.out)⟩
        · have ha4i : ((a : Int) == 4) = false := by rw [show (4 : Int) = ((4 : Nat) : Int) from rfl, intEq]; simp [ha4]
          clear ha4
          go_wp2_with fail
          go_region
          go_wp2_with fail
          go_region_held3 (fun W' => W'.cell? ⟨(al.add (i * 2)).block, (al.add (i * 2)).off + 1, none⟩ = some (.string y0) ∧ W'.cell? (as_.add (i - 1)) = some (.int .i64 (Sm : Int)))
            (first | exact ⟨k0, k2⟩)
            (first | (go_simp; go_at_call 42; refine (HJa.out _).mono ?_; rintro e4 w4 ⟨rfl, h4⟩; obtain rfl := h4.symm))
          go_wp2_with fail
          go_ret
          exact ⟨by rw [HV.out]; rfl, (below_DW HD.out)⟩
      · have HV := Lib.hid (show goesW (L.map (·.2)) i = false from by rw [HD1.out, decide_eq_false h0, Bool.false_and])
        have hi2 : ¬ (0 : Int) < (i : Int) := by omega
        have hi2b : decide ((0 : Int) < (i : Int)) = false := decide_eq_false hi2
        have hi2c : decide (0 < i) = false := decide_eq_false h0
        clear hao HP HM ha1 ha2
        by_cases ha4 : a = 4
        · subst ha4
          clear ha1i ha2i
          go_wp2_with fail
          go_region
          go_wp2_with fail
          go_region
          go_wp2_with fail
          go_ret
          exact ⟨by rw [HV.out]; rfl, (below_DW HD.out)⟩
        · have ha4i : ((a : Int) == 4) = false := by rw [show (4 : Int) = ((4 : Nat) : Int) from rfl, intEq]; simp [ha4]
          clear ha4
          go_wp2_with fail
          go_region
          go_wp2_with fail
          go_region
          go_wp2_with fail
          go_ret
          exact ⟨by rw [HV.out]; rfl, (below_DW HD.out)⟩
    have hbo : oneW b = false := by unfold oneW; simp [hb1, hb2]
    have hb1i : ((b : Int) == 1) = false := by rw [show (1 : Int) = ((1 : Nat) : Int) from rfl, intEq]; simp [hb1]
    have hb2i : ((b : Int) == 2) = false := by rw [show (2 : Int) = ((2 : Nat) : Int) from rfl, intEq]; simp [hb2]
    have HD1 := Lib.hid (show goesW (L.map (·.2)) i = (a == 4 && b == 4) from by rw [HD0.out]; simp [hao, hbo])
    clear hao hbo HP HM ha1 ha2 hb1 hb2
    by_cases ha4 : a = 4
    · subst ha4
      by_cases hb4 : b = 4
      · subst hb4
        have HV := Lib.hid (show goesW (L.map (·.2)) i = true from by rw [HD1.out]; rfl)
        clear ha1i ha2i hb1i hb2i
        go_wp2_with fail
        go_ret
        exact ⟨by rw [HV.out]; rfl, Hb.out⟩
      · have hb4i : ((b : Int) == 4) = false := by rw [show (4 : Int) = ((4 : Nat) : Int) from rfl, intEq]; simp [hb4]
        have HV := Lib.hid (show goesW (L.map (·.2)) i = false from by rw [HD1.out]; simp [hb4])
        clear ha1i ha2i hb4
        go_wp2_with fail
        go_region
        go_wp2_with fail
        go_region
        go_wp2_with fail
        go_ret
        exact ⟨by rw [HV.out]; rfl, (below_DW HD.out)⟩
    · have ha4i : ((a : Int) == 4) = false := by rw [show (4 : Int) = ((4 : Nat) : Int) from rfl, intEq]; simp [ha4]
      have HV := Lib.hid (show goesW (L.map (·.2)) i = false from by rw [HD1.out]; simp [ha4])
      clear ha4
      go_wp2_with fail
      go_region
      go_wp2_with fail
      go_region
      go_wp2_with fail
      go_ret
      exact ⟨by rw [HV.out]; rfl, (below_DW HD.out)⟩
  · have HV := Lib.hid (show goesW (L.map (·.2)) i = false from goes_last _ _ (by omega))
    have hn1 : ((n : Int) ≤ ((i + 1 : Nat) : Int)) := by omega
    rw [hB]
    clear hR hS hl hn hx0 h1 hB
    go_enter Tryd.func26, Tryd.ntmps26
    go_wp2_with fail
    go_ret
    exact ⟨by rw [HV.out]; rfl, Hb.out⟩
end Go.Proofs.YtiafofekobcifaaDoor

/- Layer 12, the document: All. -/
namespace Go.Proofs.YtiafofekobcifaaDoor
open Go.RowKit Go.Lib

theorem wds_take_next (M : List ByteArray) (s : ByteArray) (L : List (Nat × ByteArray)) (i : Nat) (x : Nat × ByteArray) (h : L[i]? = some x) :
    wdsG M s 0 0 (L.take (i + 1)) = wdsG M s 0 0 (L.take i) ++ (if goesW M i = true then [] else [(begW M 0 0 (L.take i), s.extract (begW M 0 0 (L.take i)) (x.1 + x.2.size))]) := by
  have hi := (List.getElem?_eq_some_iff.1 h).1
  rw [take_snoc L i x h, wdsG_append, List.length_take, Nat.min_eq_left (by omega), Nat.zero_add]
  congr 1
theorem beg_take_next (M : List ByteArray) (L : List (Nat × ByteArray)) (i : Nat) (x : Nat × ByteArray) (h : L[i]? = some x) :
    begW M 0 0 (L.take (i + 1)) = if goesW M i = true then begW M 0 0 (L.take i) else x.1 + x.2.size := by
  have hi := (List.getElem?_eq_some_iff.1 h).1
  rw [take_snoc L i x h, begW_append, List.length_take, Nat.min_eq_left (by omega), Nat.zero_add]
  rfl
theorem beg_le (s : ByteArray) : ∀ i, i ≤ (pcs s).length → begW (MW s) 0 0 ((pcs s).take i) ≤ sumB ((pcs s).take i)
  | 0, _ => by simp [begW]
  | i + 1, h => by
    obtain ⟨x, hx⟩ : ∃ x, (pcs s)[i]? = some x := ⟨_, List.getElem?_eq_getElem (by omega)⟩
    have ih := beg_le s i (by omega)
    have hc := pcs_chain s i x hx
    rw [beg_take_next _ _ _ _ hx, take_snoc _ _ _ hx, sumB_snoc]
    split <;> omega
theorem chars_pos (c : ByteArray) (h : 0 < c.size) : 0 < chars c := by
  have hne : c.data.toList ≠ [] := by
    intro e
    have := congrArg List.length e
    rw [size_list, List.length_nil] at this
    omega
  have := segs_ne _ hne
  unfold chars
  exact Nat.pos_of_ne_zero fun e => this (List.eq_nil_of_length_eq_zero e)
theorem rintw_info : (Tryd.prog.info? 3).map (fun i => (i.zero, i.size, i.bytes)) = some (some (.int .i64 0), 1, 8) := by kernel_rfl
structure SoS (w1 : World) (Q : Nat) (L : List (Nat × ByteArray)) (i c : Nat) (A : Option Addr) (W : World) : Prop where
  ow : W.ownsRow Q 3 1 (.slice A i c) i (srtV (L.take i))
  be : Below Q w1 W
structure AlS (w2 : World) (Q : Nat) (s : ByteArray) (i k c f : Nat) (A : Option Addr) (W : World) : Prop where
  kl : k = (wdsG (MW s) s 0 0 ((pcs s).take i)).length
  fb : f = begW (MW s) 0 0 ((pcs s).take i)
  ow : W.ownsRow Q 28 2 (.slice A k c) k (pcCells (wdsG (MW s) s 0 0 ((pcs s).take i)))
  be : Below Q w2 W
set_option maxRecDepth 100000 in
set_option maxHeartbeats 4000000 in
theorem rwall_any (s : ByteArray) (w : World) (hs : s.size ≤ 1073741824) : Calls Tryd.prog 8 #[.string s] w fun e w' =>
    ∃ A c, e = .returned (.slice A (wds s).length c) ∧ w'.ownsRow w.heap.size 28 2 (.slice A (wds s).length c) (wds s).length (pcCells (wds s)) ∧ Below w.heap.size w w' := by
  obtain ⟨i0, hi, hz0, hz1, hz2⟩ := info_parts rpiece_info
  obtain ⟨j0, hj, hy0, hy1, hy2⟩ := info_parts rintw_info
  have hpl := pcs_len s
  have HA := Lib.hid (rall_any s w hs)
  have HSo := Lib.hid (show ∀ (i : Nat) (x : Nat × ByteArray), (pcs s)[i]? = some x → ∀ W, Calls Tryd.prog 25 #[.string x.2] W fun e w' => e = .returned (.int .i64 (sortN x.2 : Nat)) ∧ Below W.heap.size W w' from fun i x hx W => by
    have hc := pcs_chain s i x hx
    exact rsort_any x.2 W (by omega) (chars_pos _ hc.2.1))
  have HW := Lib.hid (show wdsG (MW s) s 0 0 ((pcs s).take (pcs s).length) = wds s from by rw [List.take_length]; rfl)
  have HL := Lib.hid (show ∀ i, (wdsG (MW s) s 0 0 ((pcs s).take i)).length ≤ i from fun i => by have := wdsG_len (MW s) s ((pcs s).take i) 0 0; rw [List.length_take] at this; omega)
  have HX := Lib.hid (show ∀ (i : Nat) (x : Nat × ByteArray), (pcs s)[i]? = some x → begW (MW s) 0 0 ((pcs s).take i) ≤ x.1 ∧ x.1 + x.2.size ≤ s.size from fun i x hx => by
    have hc := pcs_chain s i x hx
    have := beg_le s i (by have := (List.getElem?_eq_some_iff.1 hx).1; omega)
    omega)
  obtain ⟨N, hN⟩ : ∃ N, (pcs s).length = N := ⟨_, rfl⟩
  rw [hN] at HA hpl HW
  have HN := Lib.hid hN
  obtain ⟨B, hB⟩ : ∃ B, w.heap.size = B := ⟨_, rfl⟩
  have HBe := Lib.hid hB
  rw [hB]
  clear hN hB
  go_enter Tryd.func8, Tryd.ntmps8
  go_wp2_with fail
  refine HA.out.mono ?_
  rintro _ W1 ⟨A, c, rfl, o1, b1⟩
  obtain ⟨Q1, hQ1⟩ : ∃ Q1, W1.heap.size = Q1 := ⟨_, rfl⟩
  have HB1 := Lib.hid (show B ≤ Q1 ∧ Below B w W1 from ⟨by have := b1.size; have := HBe.out; omega, by rw [← HBe.out]; exact b1⟩)
  have HR := Lib.hid (show ∀ W, Below Q1 W1 W → RdP W W.heap.size A (pcs s) ∧ RdP W Q1 A (pcs s) from fun W h => by
    have h0 : RdP W1 Q1 A (pcs s) := by
      have := Rd.own o1
      rw [← HN.out, hQ1] at this
      exact this
    have h1 := h0.below h
    exact ⟨Rd.more h1 (by have := h.size; omega), h1⟩)
  have HQ1 := Lib.hid hQ1
  have H0 := Lib.hid (show SoS W1 Q1 (pcs s) 0 0 none W1 from ⟨World.ownsRow_nil _ _ _ _, Below.refl _ _⟩)
  clear o1 b1 hQ1 HA
  go_wp2_with fail
  go_loopw [4, 5] (fun y x wr => ∃ (i c' : Nat) (A' : Option Addr) (W : World), W = wr ∧ y = .slice A' i c' ∧ x = .int .i64 (i : Int) ∧ i ≤ N ∧ Hid (SoS W1 Q1 (pcs s) i c' A' W)) (fun _ x _ => N - (RowKit.intOf x).toNat)
  case atStart => exact ⟨0, 0, none, _, rfl, rfl, rfl, Nat.zero_le _, H0⟩
  case round =>
    clear H0
    obtain ⟨i, c', A', W, hW, rfl, rfl, hin, HI⟩ := hrel
    subst hW
    rcases Nat.lt_or_ge i N with hlt | hge
    · obtain ⟨x, hx⟩ : ∃ x, (pcs s)[i]? = some x := ⟨_, List.getElem?_eq_getElem (by rw [HN.out]; omega)⟩
      obtain ⟨a, hA, _, _, g2⟩ := (HR.out W HI.out.be).1.at_ hx
      subst hA
      rw [add_next] at g2
      have hini : (i : Int) < (N : Int) := by omega
      have hnext : IntKind.i64.wrap ((i : Int) + 1) = (i : Int) + 1 := IntWalk.i64_in _ (by omega)
      have HSx := Lib.hid (HSo.out i x hx)
      obtain ⟨v, hv⟩ : ∃ v, sortN x.2 = v := ⟨_, rfl⟩
      have HT := Lib.hid (show srtV ((pcs s).take i) ++ [.int .i64 (v : Int)] = srtV ((pcs s).take (i + 1)) from by rw [take_snoc _ _ _ hx, ← hv]; simp [srtV])
      rw [hv] at HSx
      have hQW : Q1 ≤ W.heap.size := by have := HI.out.be.size; have := HQ1.out; omega
      clear hx hv
      go_wp2_with fail
      refine (HSx.out _).mono ?_
      rintro _ W2 ⟨rfl, b2⟩
      have H2 := Lib.hid (show W2.ownsRow Q1 3 1 (.slice A' i c') i (srtV ((pcs s).take i)) ∧ Below Q1 W1 W2 ∧ Q1 ≤ W2.heap.size from ⟨own_below HI.out.ow b2, HI.out.be.trans (b2.mono hQW), by have := b2.size; omega⟩)
      obtain ⟨X, hX⟩ : ∃ X, srtV ((pcs s).take i) = X := ⟨_, rfl⟩
      rw [hX] at H2 HT
      clear b2 HI hX g2
      go_wp2_with (at_builtin; refine wpList_append_own_at _ rfl _ _ 31 rfl Q1 3 j0 _ 1 8 Tryd.underlying31 hj hy0 hy1 hy2 rfl (by decide) _ _ _ rfl (H2.out.1.alloc _) ⟨W2.heap.size, 0, none⟩ 1 1 [.int .i64 (v : Int)] rfl rfl ?d1 ?d2 ?d3 ?d4 ?d5 ?_)
      try (case d1 => exact new_cells W2 [.int .i64 (v : Int)] 3)
      case d2 => simp [Value.oneCell']
      case d3 => unfold maxLen; omega
      case d4 => omega
      case d5 => have := H2.out.2.2; first | omega | (rw [World.size_alloc]; omega)
      intro v3 w3 o3 g3 _ _
      obtain ⟨A3, c3, hv3, _, _⟩ := own_shape o3
      subst hv3
      have H3 := Lib.hid (show SoS W1 Q1 (pcs s) (i + 1) c3 A3 w3 from ⟨by rw [← HT.out]; exact o3, (H2.out.2.1.alloc H2.out.2.2 _).grown g3 (by rw [World.size_alloc]; have := H2.out.2.2; omega) (fun q hq => (H2.out.1.lt q hq).1)⟩)
      clear o3 g3 H2
      go_wp2_with fail
      go_roundw
      case rel => exact ⟨i + 1, c3, A3, _, rfl, rfl, by first | rfl | go_num, hlt, H3⟩
      case measure => simp [RowKit.intOf]; omega
    · obtain rfl : i = N := by omega
      have hnn : ¬ (i : Int) < (i : Int) := by omega
      obtain ⟨Q2, hQ2⟩ : ∃ Q2, W.heap.size = Q2 := ⟨_, rfl⟩
      have hQ12 : Q1 ≤ Q2 := by have := HI.out.be.size; have := HQ1.out; omega
      have HR2 := Lib.hid (show ∀ W', Below Q2 W W' → RdP W' W'.heap.size A (pcs s) ∧ Rd W' W'.heap.size 1 A' i (srtV (pcs s)) ∧ Below B w W' from fun W' h => by
        have h1 := HI.out.ow
        rw [← HN.out, List.take_length, HN.out] at h1
        have h2 : Rd W Q2 1 A' i (srtV (pcs s)) := by rw [← hQ2]; exact Rd.own h1
        have hbb := HI.out.be.trans (h.mono hQ12)
        exact ⟨(HR.out W' hbb).1, Rd.more (Rd.below h2 h) (by have := h.size; omega), HB1.out.2.trans (hbb.mono HB1.out.1)⟩)
      have H0 := Lib.hid (show AlS W Q2 s 0 0 0 0 none W from ⟨rfl, rfl, World.ownsRow_nil _ _ _ _, Below.refl _ _⟩)
      have HQ2 := Lib.hid hQ2
      have HBQ : Hid (B ≤ Q2) := Lib.hid (Nat.le_trans HB1.out.1 hQ12)
      clear HI hge hin hQ2 hQ12 HR HSo
      go_wp2_with fail
      go_loopw [6, 7, 8] (fun y z x wr => ∃ (j k c2 f : Nat) (A2 : Option Addr) (W' : World), W' = wr ∧ y = .slice A2 k c2 ∧ z = .int .i64 (f : Int) ∧ x = .int .i64 (j : Int) ∧ j ≤ i ∧ Hid (AlS W Q2 s j k c2 f A2 W')) (fun _ _ x _ => i - (RowKit.intOf x).toNat)
      case atStart => exact ⟨0, 0, 0, 0, none, _, rfl, rfl, rfl, rfl, Nat.zero_le _, H0⟩
      case round =>
        clear H0
        obtain ⟨j, k, c2, f, A2, W', hW', rfl, rfl, rfl, hji, HI⟩ := hrel
        subst hW'
        rcases Nat.lt_or_ge j i with hlt | hge
        · obtain ⟨x, hx⟩ : ∃ x, (pcs s)[j]? = some x := ⟨_, List.getElem?_eq_getElem (by rw [HN.out]; omega)⟩
          have hr2 := HR2.out W' HI.out.be
          have HG := Lib.hid (rgoes_any A A' i c c' (pcs s) j W' hr2.1 hr2.2.1 HN.out hlt (by omega))
          have hjj : (j : Int) < (i : Int) := by omega
          have hnext : IntKind.i64.wrap ((j : Int) + 1) = (j : Int) + 1 := IntWalk.i64_in _ (by omega)
          have hk := HI.out.kl
          have hkj := HL.out j
          rw [← hk] at hkj
          have hxx := HX.out j x hx
          rw [← HI.out.fb] at hxx
          have hnW := wds_take_next (MW s) s (pcs s) j x hx
          have hnB := beg_take_next (MW s) (pcs s) j x hx
          rw [← HI.out.fb] at hnW hnB
          obtain ⟨g, hg⟩ : ∃ g, goesW (MW s) j = g := ⟨_, rfl⟩
          rw [hg] at HG hnW hnB
          have hQW : Q2 ≤ W'.heap.size := by have := HI.out.be.size; have := HQ2.out; omega
          have Hk := Lib.hid hk
          clear hg hk hr2
          go_wp2_with fail
          refine HG.out.mono ?_
          rintro _ W3 ⟨rfl, b3⟩
          obtain ⟨X, hX⟩ : ∃ X, wdsG (MW s) s 0 0 ((pcs s).take j) = X := ⟨_, rfl⟩
          have H3 := Lib.hid (show W3.ownsRow Q2 28 2 (.slice A2 k c2) k (pcCells X) ∧ Below Q2 W W3 ∧ Q2 ≤ W3.heap.size ∧ k = X.length from ⟨by rw [← hX]; exact own_below HI.out.ow b3, HI.out.be.trans (b3.mono hQW), by have := b3.size; omega, by rw [← hX]; exact Hk.out⟩)
          rw [hX] at hnW
          cases g with
          | true =>
            rw [if_pos rfl, List.append_nil] at hnW
            rw [if_pos rfl] at hnB
            have H4 := Lib.hid (show AlS W Q2 s (j + 1) k c2 f A2 W3 from ⟨by rw [hnW]; exact H3.out.2.2.2, hnB.symm, by rw [hnW]; exact H3.out.1, H3.out.2.1⟩)
            clear b3 HI HG hX Hk hnW hnB H3 hx hxx
            go_wp2_with fail
            go_roundw
            case rel => exact ⟨j + 1, k, c2, f, A2, _, rfl, rfl, rfl, by first | rfl | go_num, hlt, H4⟩
            case measure => simp [RowKit.intOf]; omega
          | false =>
            rw [if_neg (by decide)] at hnW hnB
            obtain ⟨a, hA, _, g1, g2⟩ := (HR2.out W3.drew (below_DW H3.out.2.1)).1.at_ hx
            subst hA
            rw [add_next] at g2
            obtain ⟨p, y⟩ := x
            obtain ⟨e, he⟩ : ∃ e, p + y.size = e := ⟨_, rfl⟩
            simp only [he] at hnW hnB hxx
            dsimp only at g1 g2
            have hwe : IntKind.i64.wrap ((p : Int) + (y.size : Int)) = (e : Int) := by rw [IntWalk.i64_in _ (by omega)]; omega
            have hfe : (f : Int) ≤ (e : Int) := by omega
            have hes : (e : Int) ≤ (s.size : Int) := by omega
            have hf0 : (0 : Int) ≤ (f : Int) := by omega
            have H5 := Lib.hid (show W3.drew.ownsRow Q2 28 2 (.slice A2 k c2) k (pcCells X) ∧ Below Q2 W W3.drew ∧ Q2 ≤ W3.drew.heap.size from ⟨H3.out.1, below_DW H3.out.2.1, H3.out.2.2.1⟩)
            have HT := Lib.hid (show pcCells X ++ [.int .i64 (f : Int), .string (s.extract f e)] = pcCells (wdsG (MW s) s 0 0 ((pcs s).take (j + 1))) ∧ (wdsG (MW s) s 0 0 ((pcs s).take (j + 1))).length = k + 1 ∧ e = begW (MW s) 0 0 ((pcs s).take (j + 1)) from ⟨by rw [hnW, pcCells_snoc], by rw [hnW, List.length_append, ← H3.out.2.2.2]; rfl, hnB.symm⟩)
            clear b3 HI HG hX Hk hnW hnB H3 hx hxx he
            go_wp2_with fail
            go_region
            obtain ⟨V, hV⟩ : ∃ V, W3.drew = V := ⟨_, rfl⟩
            rw [hV] at H5 ⊢
            clear hV g1 g2
            go_wp2_with (at_builtin; refine wpList_append_own_at _ rfl _ _ 22 rfl Q2 28 i0 _ 2 24 Tryd.underlying22 hi hz0 hz1 hz2 rfl (by decide) _ _ _ rfl (H5.out.1.alloc _) ⟨V.heap.size, 0, none⟩ 1 1 [.int .i64 (f : Int), .string (s.extract f e)] rfl rfl ?d1 ?d2 ?d3 ?d4 ?d5 ?_)
            try (case d1 => exact new_cells V [.int .i64 (f : Int), .string (s.extract f e)] 28)
            case d2 => simp [Value.oneCell']
            case d3 => unfold maxLen; omega
            case d4 => omega
            case d5 => have := H5.out.2.2; first | omega | (rw [World.size_alloc]; omega)
            intro v3 w3 o3 g3 _ _
            obtain ⟨A3, c3, hv3, _, _⟩ := own_shape o3
            subst hv3
            have H6 := Lib.hid (show AlS W Q2 s (j + 1) (k + 1) c3 e A3 w3 from ⟨HT.out.2.1.symm, HT.out.2.2, by rw [← HT.out.1]; exact o3, (H5.out.2.1.alloc H5.out.2.2 _).grown g3 (by rw [World.size_alloc]; have := H5.out.2.2; omega) (fun q hq => (H5.out.1.lt q hq).1)⟩)
            clear o3 g3 H5 HT
            go_wp2_with fail
            go_roundw
            case rel => exact ⟨j + 1, k + 1, c3, e, A3, _, rfl, rfl, rfl, by first | rfl | go_num, hlt, H6⟩
            case measure => simp [RowKit.intOf]; omega
        · obtain rfl : j = i := by omega
          have hjj : ¬ (j : Int) < (j : Int) := by omega
          have HE := Lib.hid (show k = (wds s).length ∧ W'.ownsRow B 28 2 (.slice A2 k c2) k (pcCells (wds s)) ∧ Below B w W' from by
            have h1 := HI.out.kl
            have h2 := HI.out.ow
            rw [HW.out] at h1 h2
            exact ⟨h1, own_base h2 HBQ.out, (HR2.out W' HI.out.be).2.2⟩)
          clear HI hge hji
          go_wp2_with fail
          go_ret
          obtain ⟨e1, e2, e3⟩ := HE.out
          subst e1
          exact ⟨A2, c2, rfl, e2, e3⟩
end Go.Proofs.YtiafofekobcifaaDoor

/- Layer 12, the document: Word, Is, Next, Prev, At. -/
namespace Go.Proofs.YtiafofekobcifaaDoor
open Go.RowKit Go.Lib

/-- is a segment a word -/
def wordW (c : ByteArray) : Bool := sortN c == 1 || sortN c == 2 || sortN c == 3
theorem sortN_first (c : ByteArray) (h : 0 < chars c) : sortN (c.extract 0 (placeAt c (clEnd c 0))) = sortN c := by
  have hb := clEnd_bounds h
  unfold sortN
  rw [take_list]
  have : segs (c.data.toList.take (placeAt c (clEnd c 0))) = (segs c.data.toList).take (clEnd c 0) := segs_upto _ _ hb.2
  rw [this]
  cases hs : segs c.data.toList with
  | nil => rw [List.take_nil]
  | cons d t =>
    cases he : clEnd c 0 with
    | zero => omega
    | succ m => rfl
theorem wds_seg (s : ByteArray) (n : Nat) (x : Nat × ByteArray) (h : (wds s)[n]? = some x) : 0 < chars x.2 ∧ x.2.size ≤ s.size ∧ x.1 + x.2.size ≤ s.size := by
  have := wds_chain s n x h
  exact ⟨chars_pos _ this.2.1, by omega, by omega⟩
set_option maxRecDepth 100000 in
set_option maxHeartbeats 1000000 in
theorem rword_any (c : ByteArray) (w : World) (hs : c.size ≤ 1073741824) (h0 : 0 < chars c) : Calls Tryd.prog 34 #[.string c] w fun e w' =>
    e = .returned (.bool (wordW c)) ∧ Below w.heap.size w w' := by
  have hb := clEnd_bounds h0
  have hN := Lib.hid (rnext_any c w hs)
  have hE := placeAt_le c (clEnd c 0)
  have hpos : 0 < placeAt c (clEnd c 0) := by have := placeAt_lt c hb.1 hb.2; omega
  have hsz : (c.extract 0 (placeAt c (clEnd c 0))).size = placeAt c (clEnd c 0) := by rw [ByteArray.size_extract]; omega
  have HSo := Lib.hid (fun W => rsort_any (c.extract 0 (placeAt c (clEnd c 0))) W (by omega) (chars_pos _ (by omega)))
  rw [sortN_first c h0] at HSo
  obtain ⟨E, hEe⟩ : ∃ E, placeAt c (clEnd c 0) = E := ⟨_, rfl⟩
  rw [hEe] at hN hE HSo
  obtain ⟨k, hk⟩ : ∃ k, sortN c = k := ⟨_, rfl⟩
  rw [hk] at HSo
  have HV := Lib.hid (show wordW c = ((k : Int) == 1 || (k : Int) == 2 || (k : Int) == 3) from by
    unfold wordW
    rw [hk, show (1 : Int) = ((1 : Nat) : Int) from rfl, show (2 : Int) = ((2 : Nat) : Int) from rfl, show (3 : Int) = ((3 : Nat) : Int) from rfl, intEq, intEq, intEq]
    rfl)
  have hE1 : (E : Int) ≤ (c.size : Int) := by omega
  clear hEe hk hsz hb hpos h0
  go_enter Tryd.func34, Tryd.ntmps34
  go_wp2_with fail
  refine hN.out.mono ?_
  rintro _ W1 ⟨rfl, b1⟩
  have B1 := Lib.hid b1
  clear b1 hN
  go_wp2_with fail
  refine (HSo.out _).mono ?_
  rintro _ W2 ⟨rfl, b2⟩
  have B2 := Lib.hid (B1.out.trans (b2.mono B1.out.size))
  clear b2 B1 HSo
  by_cases k1 : (k : Int) = 1
  · have h1 : ((k : Int) == 1) = true := by simp [k1]
    have HU := Lib.hid (show wordW c = true from by rw [HV.out, h1]; rfl)
    clear k1
    go_wp2_with fail
    go_ret
    exact ⟨by rw [HU.out]; rfl, B2.out⟩
  · have h1 : ((k : Int) == 1) = false := by simp [k1]
    by_cases k2 : (k : Int) = 2
    · have h2 : ((k : Int) == 2) = true := by simp [k2]
      have HU := Lib.hid (show wordW c = true from by rw [HV.out, h1, h2]; rfl)
      clear k1 k2
      go_wp2_with fail
      go_ret
      exact ⟨by rw [HU.out]; rfl, B2.out⟩
    · have h2 : ((k : Int) == 2) = false := by simp [k2]
      have HU := Lib.hid (show wordW c = ((k : Int) == 3) from by rw [HV.out, h1, h2]; rfl)
      clear k1 k2
      go_wp2_with fail
      go_ret
      exact ⟨by rw [HU.out]; rfl, B2.out⟩

/-- a place that is a border of segments: of a rest -/
def isF (q : Int) (e : Nat) : List (Nat × ByteArray) → Bool
  | [] => q == (e : Int)
  | x :: t => if (x.1 : Int) = q then true else isF q e t
def isW (s : ByteArray) (q : Int) : Bool := isF q s.size (wds s)
def nextF (p e : Nat) : List (Nat × ByteArray) → Nat
  | [] => e
  | x :: t => if p < x.1 ∧ wordW x.2 = true then x.1 else nextF p e t
def prevF (p : Nat) : Nat → List (Nat × ByteArray) → Nat
  | o, [] => o
  | o, x :: t => prevF p (if x.1 < p ∧ wordW x.2 = true then x.1 else o) t
def atF (p e : Nat) : List (Nat × ByteArray) → Nat × Nat
  | [] => (e, e)
  | x :: t => if p < x.1 + x.2.size then (x.1, x.1 + x.2.size) else atF p e t
/-- a place brought into the text -/
def intoW (s : ByteArray) (q : Int) : Nat := (min (max q 0) (s.size : Int)).toNat
def nextW (s : ByteArray) (q : Int) : Nat := nextF (intoW s q) s.size (wds s)
def prevW (s : ByteArray) (q : Int) : Nat := prevF (intoW s q) 0 (wds s)
def atW (s : ByteArray) (q : Int) : Nat × Nat := atF (intoW s q) s.size (wds s)
theorem intoW_is (s : ByteArray) (q : Int) : min (max q 0) (s.size : Int) = ((intoW s q : Nat) : Int) := by unfold intoW; omega
theorem drop_consW {L : List (Nat × ByteArray)} {i : Nat} {x : Nat × ByteArray} (h : L[i]? = some x) : L.drop i = x :: L.drop (i + 1) := by
  obtain ⟨hi, e⟩ := List.getElem?_eq_some_iff.1 h
  rw [List.drop_eq_getElem_cons hi, e]
theorem wds_len1 (s : ByteArray) (hs : s.size ≤ 1073741824) : (wds s).length ≤ 1073741824 := by
  have h1 := wds_len s
  have h2 := pcs_len s
  omega
set_option maxRecDepth 100000 in
set_option maxHeartbeats 1000000 in
theorem rwis_any (s : ByteArray) (q : Int) (w : World) (hs : s.size ≤ 1073741824) : Calls Tryd.prog 14 #[.string s, .int .i64 q] w fun e w' =>
    e = .returned (.bool (isW s q)) ∧ Below w.heap.size w w' := by
  have hN := wds_len1 s hs
  have HA := Lib.hid (rwall_any s w hs)
  obtain ⟨L, hL⟩ : ∃ L, wds s = L := ⟨_, rfl⟩
  obtain ⟨R, hR⟩ : ∃ R, isW s q = R := ⟨_, rfl⟩
  have H0 := Lib.hid (show isF q s.size (L.drop 0) = R from by rw [← hR, ← hL]; rfl)
  rw [hL] at HA hN
  rw [hR]
  obtain ⟨N, hNe⟩ : ∃ N, L.length = N := ⟨_, rfl⟩
  rw [hNe] at HA hN
  have HN := Lib.hid hNe
  clear hL hR hNe
  go_enter Tryd.func14, Tryd.ntmps14
  go_wp2_with fail
  refine HA.out.mono ?_
  rintro _ W1 ⟨A, c, rfl, o1, b1⟩
  have HP := Lib.hid (show RdP W1 W1.heap.size A L from by have := Rd.own o1; rw [← HN.out] at this; exact this)
  have B1 := Lib.hid b1
  clear o1 b1 HA
  go_wp2_with fail
  go_loopw [6] (fun x wr => ∃ (i : Nat) (W : World), W = wr ∧ W = W1 ∧ i ≤ N ∧ x = .int .i64 (i : Int) ∧ Hid (isF q s.size (L.drop i) = R)) (fun x _ => N - (RowKit.intOf x).toNat)
  case atStart => exact ⟨0, _, rfl, rfl, Nat.zero_le _, rfl, H0⟩
  case round =>
    clear H0
    obtain ⟨i, W, hW, rfl, hin, rfl, HI⟩ := hrel
    subst hW
    rcases Nat.lt_or_ge i N with hlt | hge
    · obtain ⟨x, hx⟩ : ∃ x, L[i]? = some x := ⟨_, List.getElem?_eq_getElem (by rw [HN.out]; omega)⟩
      obtain ⟨a, hA, _, g1, _⟩ := HP.out.at_ hx
      subst hA
      have hini : (i : Int) < (N : Int) := by omega
      have hnext : IntKind.i64.wrap ((i : Int) + 1) = (i : Int) + 1 := IntWalk.i64_in _ (by omega)
      have hq := HI.out
      rw [drop_consW hx, isF] at hq
      by_cases he : (x.1 : Int) = q
      · rw [if_pos he] at hq
        have HV := Lib.hid hq
        have heq : ((x.1 : Int) == q) = true := by simp [he]
        clear hx hq he HI
        go_wp2_with fail
        go_ret
        exact ⟨by rw [← HV.out]; rfl, B1.out⟩
      · rw [if_neg he] at hq
        have HV := Lib.hid hq
        have heq : ((x.1 : Int) == q) = false := by simp [he]
        clear hx hq he HI
        go_wp2_with fail
        go_roundw
        case rel => exact ⟨i + 1, _, rfl, rfl, hlt, by first | rfl | go_num, HV⟩
        case measure => simp [RowKit.intOf]; omega
    · obtain rfl : i = N := by omega
      have hnn : ¬ (i : Int) < (i : Int) := by omega
      have HV := Lib.hid (show R = (q == (s.size : Int)) from by
        have h := HI.out
        rw [List.drop_eq_nil_of_le (by rw [HN.out]; exact Nat.le_refl _)] at h
        exact h.symm)
      clear hge hin HI
      go_wp2_with fail
      go_ret
      exact ⟨by rw [HV.out]; rfl, B1.out⟩
set_option maxRecDepth 100000 in
set_option maxHeartbeats 2000000 in
theorem rwnext_any (s : ByteArray) (q : Int) (w : World) (hs : s.size ≤ 1073741824) : Calls Tryd.prog 16 #[.string s, .int .i64 q] w fun e w' =>
    e = .returned (.int .i64 (nextW s q : Nat)) ∧ Below w.heap.size w w' := by
  have hN := wds_len1 s hs
  have HA := Lib.hid (fun W => rwall_any s W hs)
  have HIn := Lib.hid (fun W => into_any q s.size W (by omega))
  rw [intoW_is] at HIn
  obtain ⟨p, hp⟩ : ∃ p, intoW s q = p := ⟨_, rfl⟩
  have HWd := Lib.hid (show ∀ (n : Nat) (x : Nat × ByteArray), (wds s)[n]? = some x → ∀ W, Calls Tryd.prog 34 #[.string x.2] W fun e w' => e = .returned (.bool (wordW x.2)) ∧ Below W.heap.size W w' from fun n x h W => rword_any x.2 W (by have := wds_seg s n x h; omega) (wds_seg s n x h).1)
  obtain ⟨L, hL⟩ : ∃ L, wds s = L := ⟨_, rfl⟩
  obtain ⟨R, hR⟩ : ∃ R, nextW s q = R := ⟨_, rfl⟩
  have H0 := Lib.hid (show nextF p s.size (L.drop 0) = R from by rw [← hR, ← hL, ← hp]; rfl)
  rw [hL] at HA hN HWd
  rw [hp] at HIn
  rw [hR]
  obtain ⟨N, hNe⟩ : ∃ N, L.length = N := ⟨_, rfl⟩
  rw [hNe] at HA hN
  have HN := Lib.hid hNe
  obtain ⟨B, hB⟩ : ∃ B, w.heap.size = B := ⟨_, rfl⟩
  rw [hB]
  have HB := Lib.hid hB
  clear hL hR hNe hp hB
  go_enter Tryd.func16, Tryd.ntmps16
  go_wp2_with fail
  refine (HIn.out _).mono ?_
  rintro _ w0 ⟨rfl, h0⟩
  obtain rfl := h0.symm
  go_wp2_with fail
  refine (HA.out _).mono ?_
  rintro _ W1 ⟨A, c, rfl, o1, b1⟩
  have HP := Lib.hid (show ∀ W, Below W1.heap.size W1 W → RdP W W1.heap.size A L ∧ Below B w W ∧ W1.heap.size ≤ W.heap.size from fun W h => by
    have := Rd.own o1
    rw [← HN.out] at this
    exact ⟨RdP.below this h, by rw [← HB.out]; exact b1.trans (h.mono b1.size), h.size⟩)
  have HC0 := Lib.hid (Below.refl W1.heap.size W1)
  clear o1 b1 HA HIn
  go_wp2_with fail
  go_loopw [7] (fun x wr => ∃ (i : Nat) (W : World), W = wr ∧ i ≤ N ∧ x = .int .i64 (i : Int) ∧ Hid (nextF p s.size (L.drop i) = R) ∧ Hid (Below W1.heap.size W1 W)) (fun x _ => N - (RowKit.intOf x).toNat)
  case atStart => exact ⟨0, _, rfl, Nat.zero_le _, rfl, H0, HC0⟩
  case round =>
    clear H0 HC0
    obtain ⟨i, W, hW, hin, rfl, HI, HC⟩ := hrel
    subst hW
    rcases Nat.lt_or_ge i N with hlt | hge
    · obtain ⟨x, hx⟩ : ∃ x, L[i]? = some x := ⟨_, List.getElem?_eq_getElem (by rw [HN.out]; omega)⟩
      obtain ⟨a, hA, hab, g1, g2⟩ := (HP.out W HC.out).1.at_ hx
      subst hA
      rw [add_next] at g2
      have hini : (i : Int) < (N : Int) := by omega
      have hnext : IntKind.i64.wrap ((i : Int) + 1) = (i : Int) + 1 := IntWalk.i64_in _ (by omega)
      have hq := HI.out
      rw [drop_consW hx, nextF] at hq
      have HWx := Lib.hid (HWd.out i x hx)
      obtain ⟨f, y⟩ := x
      dsimp only at hq HWx g1 g2
      obtain ⟨v, hv⟩ : ∃ v, wordW y = v := ⟨_, rfl⟩
      rw [hv] at hq HWx
      have Hg1 := Lib.hid (show ∀ W', Below W.heap.size W W' → W'.cell? (a.add (i * 2)) = some (.int .i64 (f : Int)) from fun W' h => (h.cell (p := a.add (i * 2)) (by rw [add_block]; have := (HP.out W HC.out).2.2; omega)).trans g1)
      by_cases hlt2 : p < f
      · have hfp : (p : Int) < (f : Int) := by omega
        cases v with
        | true =>
          rw [if_pos ⟨hlt2, rfl⟩] at hq
          have HV := Lib.hid hq
          clear hx hv hq HI
          go_wp2_with fail
          refine (HWx.out _).mono ?_
          rintro _ W2 ⟨rfl, b2⟩
          have g3 := Hg1.out W2 b2
          have HE := Lib.hid ((HP.out W2 (HC.out.trans (b2.mono (HP.out W HC.out).2.2))).2.1)
          clear b2 g1 g2
          go_wp2_with fail
          go_ret
          exact ⟨by rw [← HV.out]; rfl, HE.out⟩
        | false =>
          rw [if_neg (fun h => Bool.false_ne_true h.2)] at hq
          have HV := Lib.hid hq
          clear hx hv hq HI
          go_wp2_with fail
          refine (HWx.out _).mono ?_
          rintro _ W2 ⟨rfl, b2⟩
          have HC2 := Lib.hid (HC.out.trans (b2.mono (HP.out W HC.out).2.2))
          clear b2 g1 g2
          go_wp2_with fail
          go_roundw
          case rel => exact ⟨i + 1, _, rfl, hlt, by first | rfl | go_num, HV, HC2⟩
          case measure => simp [RowKit.intOf]; omega
      · have hfp : ¬ (p : Int) < (f : Int) := by omega
        rw [if_neg (fun h => hlt2 h.1)] at hq
        have HV := Lib.hid hq
        clear hx hv hq HI
        go_wp2_with fail
        go_roundw
        case rel => exact ⟨i + 1, _, rfl, hlt, by first | rfl | go_num, HV, HC⟩
        case measure => simp [RowKit.intOf]; omega
    · obtain rfl : i = N := by omega
      have hnn : ¬ (i : Int) < (i : Int) := by omega
      have HV := Lib.hid (show R = s.size from by
        have h := HI.out
        rw [List.drop_eq_nil_of_le (by rw [HN.out]; exact Nat.le_refl _)] at h
        exact h.symm)
      have HE := Lib.hid ((HP.out W HC.out).2.1)
      clear hge hin HI
      go_wp2_with fail
      go_ret
      exact ⟨by rw [HV.out]; rfl, HE.out⟩
set_option maxRecDepth 100000 in
set_option maxHeartbeats 2000000 in
theorem rwprev_any (s : ByteArray) (q : Int) (w : World) (hs : s.size ≤ 1073741824) : Calls Tryd.prog 18 #[.string s, .int .i64 q] w fun e w' =>
    e = .returned (.int .i64 (prevW s q : Nat)) ∧ Below w.heap.size w w' := by
  have hN := wds_len1 s hs
  have HA := Lib.hid (fun W => rwall_any s W hs)
  have HIn := Lib.hid (fun W => into_any q s.size W (by omega))
  rw [intoW_is] at HIn
  obtain ⟨p, hp⟩ : ∃ p, intoW s q = p := ⟨_, rfl⟩
  have HWd := Lib.hid (show ∀ (n : Nat) (x : Nat × ByteArray), (wds s)[n]? = some x → ∀ W, Calls Tryd.prog 34 #[.string x.2] W fun e w' => e = .returned (.bool (wordW x.2)) ∧ Below W.heap.size W w' from fun n x h W => rword_any x.2 W (by have := wds_seg s n x h; omega) (wds_seg s n x h).1)
  obtain ⟨L, hL⟩ : ∃ L, wds s = L := ⟨_, rfl⟩
  obtain ⟨R, hR⟩ : ∃ R, prevW s q = R := ⟨_, rfl⟩
  have H0 := Lib.hid (show prevF p 0 (L.drop 0) = R from by rw [← hR, ← hL, ← hp]; rfl)
  rw [hL] at HA hN HWd
  rw [hp] at HIn
  rw [hR]
  obtain ⟨N, hNe⟩ : ∃ N, L.length = N := ⟨_, rfl⟩
  rw [hNe] at HA hN
  have HN := Lib.hid hNe
  obtain ⟨B, hB⟩ : ∃ B, w.heap.size = B := ⟨_, rfl⟩
  rw [hB]
  have HB := Lib.hid hB
  clear hL hR hNe hp hB
  go_enter Tryd.func18, Tryd.ntmps18
  go_wp2_with fail
  refine (HIn.out _).mono ?_
  rintro _ w0 ⟨rfl, h0⟩
  obtain rfl := h0.symm
  go_wp2_with fail
  refine (HA.out _).mono ?_
  rintro _ W1 ⟨A, c, rfl, o1, b1⟩
  have HP := Lib.hid (show ∀ W, Below W1.heap.size W1 W → RdP W W1.heap.size A L ∧ Below B w W ∧ W1.heap.size ≤ W.heap.size from fun W h => by
    have := Rd.own o1
    rw [← HN.out] at this
    exact ⟨RdP.below this h, by rw [← HB.out]; exact b1.trans (h.mono b1.size), h.size⟩)
  have HC0 := Lib.hid (Below.refl W1.heap.size W1)
  clear o1 b1 HA HIn
  go_wp2_with fail
  go_loopw [7, 8] (fun y x wr => ∃ (i o : Nat) (W : World), W = wr ∧ i ≤ N ∧ y = .int .i64 (o : Int) ∧ x = .int .i64 (i : Int) ∧ Hid (prevF p o (L.drop i) = R) ∧ Hid (Below W1.heap.size W1 W)) (fun _ x _ => N - (RowKit.intOf x).toNat)
  case atStart => exact ⟨0, 0, _, rfl, Nat.zero_le _, rfl, rfl, H0, HC0⟩
  case round =>
    clear H0 HC0
    obtain ⟨i, o, W, hW, hin, rfl, rfl, HI, HC⟩ := hrel
    subst hW
    rcases Nat.lt_or_ge i N with hlt | hge
    · obtain ⟨x, hx⟩ : ∃ x, L[i]? = some x := ⟨_, List.getElem?_eq_getElem (by rw [HN.out]; omega)⟩
      obtain ⟨a, hA, hab, g1, g2⟩ := (HP.out W HC.out).1.at_ hx
      subst hA
      rw [add_next] at g2
      have hini : (i : Int) < (N : Int) := by omega
      have hnext : IntKind.i64.wrap ((i : Int) + 1) = (i : Int) + 1 := IntWalk.i64_in _ (by omega)
      have hq := HI.out
      rw [drop_consW hx, prevF] at hq
      have HWx := Lib.hid (HWd.out i x hx)
      obtain ⟨f, y⟩ := x
      dsimp only at hq HWx g1 g2
      obtain ⟨v, hv⟩ : ∃ v, wordW y = v := ⟨_, rfl⟩
      rw [hv] at hq HWx
      have Hg1 := Lib.hid (show ∀ W', Below W.heap.size W W' → W'.cell? (a.add (i * 2)) = some (.int .i64 (f : Int)) from fun W' h => (h.cell (p := a.add (i * 2)) (by rw [add_block]; have := (HP.out W HC.out).2.2; omega)).trans g1)
      by_cases hlt2 : f < p
      · have hfp : (f : Int) < (p : Int) := by omega
        cases v with
        | true =>
          rw [if_pos ⟨hlt2, rfl⟩] at hq
          have HV := Lib.hid hq
          clear hx hv hq HI
          go_wp2_with fail
          refine (HWx.out _).mono ?_
          rintro _ W2 ⟨rfl, b2⟩
          have g3 := Hg1.out W2 b2
          have HC2 := Lib.hid (HC.out.trans (b2.mono (HP.out W HC.out).2.2))
          clear b2 g1 g2
          go_wp2_with fail
          go_roundw
          case rel => exact ⟨i + 1, f, _, rfl, hlt, rfl, by first | rfl | go_num, HV, HC2⟩
          case measure => simp [RowKit.intOf]; omega
        | false =>
          rw [if_neg (fun h => Bool.false_ne_true h.2)] at hq
          have HV := Lib.hid hq
          clear hx hv hq HI
          go_wp2_with fail
          refine (HWx.out _).mono ?_
          rintro _ W2 ⟨rfl, b2⟩
          have HC2 := Lib.hid (HC.out.trans (b2.mono (HP.out W HC.out).2.2))
          clear b2 g1 g2
          go_wp2_with fail
          go_roundw
          case rel => exact ⟨i + 1, o, _, rfl, hlt, rfl, by first | rfl | go_num, HV, HC2⟩
          case measure => simp [RowKit.intOf]; omega
      · have hfp : ¬ (f : Int) < (p : Int) := by omega
        rw [if_neg (fun h => hlt2 h.1)] at hq
        have HV := Lib.hid hq
        clear hx hv hq HI
        go_wp2_with fail
        go_roundw
        case rel => exact ⟨i + 1, o, _, rfl, hlt, rfl, by first | rfl | go_num, HV, HC⟩
        case measure => simp [RowKit.intOf]; omega
    · obtain rfl : i = N := by omega
      have hnn : ¬ (i : Int) < (i : Int) := by omega
      have HV := Lib.hid (show R = o from by
        have h := HI.out
        rw [List.drop_eq_nil_of_le (by rw [HN.out]; exact Nat.le_refl _)] at h
        exact h.symm)
      have HE := Lib.hid ((HP.out W HC.out).2.1)
      clear hge hin HI
      go_wp2_with fail
      go_ret
      exact ⟨by rw [HV.out]; rfl, HE.out⟩
set_option maxRecDepth 100000 in
set_option maxHeartbeats 2000000 in
theorem rwat_any (s : ByteArray) (q : Int) (w : World) (hs : s.size ≤ 1073741824) : Calls Tryd.prog 12 #[.string s, .int .i64 q] w fun e w' =>
    e = .returned (.tuple #[.int .i64 ((atW s q).1 : Nat), .int .i64 ((atW s q).2 : Nat)]) ∧ Below w.heap.size w w' := by
  have hN := wds_len1 s hs
  have HA := Lib.hid (fun W => rwall_any s W hs)
  have HIn := Lib.hid (fun W => into_any q s.size W (by omega))
  rw [intoW_is] at HIn
  obtain ⟨p, hp⟩ : ∃ p, intoW s q = p := ⟨_, rfl⟩
  have HSg := Lib.hid (show ∀ (n : Nat) (x : Nat × ByteArray), (wds s)[n]? = some x → x.1 + x.2.size ≤ s.size from fun n x h => (wds_seg s n x h).2.2)
  obtain ⟨L, hL⟩ : ∃ L, wds s = L := ⟨_, rfl⟩
  obtain ⟨R, hR⟩ : ∃ R, atW s q = R := ⟨_, rfl⟩
  have H0 := Lib.hid (show atF p s.size (L.drop 0) = R from by rw [← hR, ← hL, ← hp]; rfl)
  rw [hL] at HA hN HSg
  rw [hp] at HIn
  rw [hR]
  obtain ⟨N, hNe⟩ : ∃ N, L.length = N := ⟨_, rfl⟩
  rw [hNe] at HA hN
  have HN := Lib.hid hNe
  obtain ⟨B, hB⟩ : ∃ B, w.heap.size = B := ⟨_, rfl⟩
  rw [hB]
  have HB := Lib.hid hB
  clear hL hR hNe hp hB
  go_enter Tryd.func12, Tryd.ntmps12
  go_wp2_with fail
  refine (HIn.out _).mono ?_
  rintro _ w0 ⟨rfl, h0⟩
  obtain rfl := h0.symm
  go_wp2_with fail
  refine (HA.out _).mono ?_
  rintro _ W1 ⟨A, c, rfl, o1, b1⟩
  have HP := Lib.hid (show ∀ W, Below W1.heap.size W1 W → RdP W W1.heap.size A L ∧ Below B w W ∧ W1.heap.size ≤ W.heap.size from fun W h => by
    have := Rd.own o1
    rw [← HN.out] at this
    exact ⟨RdP.below this h, by rw [← HB.out]; exact b1.trans (h.mono b1.size), h.size⟩)
  have HC0 := Lib.hid (Below.refl W1.heap.size W1)
  clear o1 b1 HA HIn
  go_wp2_with fail
  go_loopw [8] (fun x wr => ∃ (i : Nat) (W : World), W = wr ∧ i ≤ N ∧ x = .int .i64 (i : Int) ∧ Hid (atF p s.size (L.drop i) = R) ∧ Hid (Below W1.heap.size W1 W)) (fun x _ => N - (RowKit.intOf x).toNat)
  case atStart => exact ⟨0, _, rfl, Nat.zero_le _, rfl, H0, HC0⟩
  case round =>
    clear H0 HC0
    obtain ⟨i, W, hW, hin, rfl, HI, HC⟩ := hrel
    subst hW
    rcases Nat.lt_or_ge i N with hlt | hge
    · obtain ⟨x, hx⟩ : ∃ x, L[i]? = some x := ⟨_, List.getElem?_eq_getElem (by rw [HN.out]; omega)⟩
      obtain ⟨a, hA, hab, g1, g2⟩ := (HP.out W.drew (below_DW HC.out)).1.at_ hx
      subst hA
      rw [add_next] at g2
      have hini : (i : Int) < (N : Int) := by omega
      have hnext : IntKind.i64.wrap ((i : Int) + 1) = (i : Int) + 1 := IntWalk.i64_in _ (by omega)
      have hq := HI.out
      rw [drop_consW hx, atF] at hq
      have hse := HSg.out i x hx
      obtain ⟨f, y⟩ := x
      dsimp only at hq hse g1 g2
      obtain ⟨e, he⟩ : ∃ e, f + y.size = e := ⟨_, rfl⟩
      rw [he] at hq hse
      have hwe : IntKind.i64.wrap ((f : Int) + (y.size : Int)) = (e : Int) := by rw [IntWalk.i64_in _ (by omega)]; omega
      have g3 : W.drew.drew.cell? (a.add (i * 2)) = some (.int .i64 (f : Int)) := g1
      have g4 : W.drew.drew.cell? ⟨(a.add (i * 2)).block, (a.add (i * 2)).off + 1, none⟩ = some (.string y) := g2
      have HC2 := Lib.hid (below_DW HC.out)
      by_cases hlt2 : p < e
      · have hfp : (p : Int) < (e : Int) := by omega
        rw [if_pos hlt2] at hq
        have HV := Lib.hid hq
        have HE := Lib.hid ((HP.out W.drew.drew (below_DW HC2.out)).2.1)
        clear hx hq HI he
        go_wp2_with fail
        go_region
        go_wp2_with fail
        go_region
        go_wp2_with fail
        go_ret2
        exact ⟨by rw [← HV.out]; rfl, HE.out⟩
      · have hfp : ¬ (p : Int) < (e : Int) := by omega
        rw [if_neg hlt2] at hq
        have HV := Lib.hid hq
        clear hx hq HI he
        go_wp2_with fail
        go_region
        go_wp2_with fail
        go_roundw
        case rel => exact ⟨i + 1, _, rfl, hlt, by first | rfl | go_num, HV, HC2⟩
        case measure => simp [RowKit.intOf]; omega
    · obtain rfl : i = N := by omega
      have hnn : ¬ (i : Int) < (i : Int) := by omega
      have HV := Lib.hid (show R = (s.size, s.size) from by
        have h := HI.out
        rw [List.drop_eq_nil_of_le (by rw [HN.out]; exact Nat.le_refl _)] at h
        exact h.symm)
      have HE := Lib.hid ((HP.out W HC.out).2.1)
      clear hge hin HI
      go_wp2_with fail
      go_ret2
      exact ⟨by rw [HV.out]; rfl, HE.out⟩
end Go.Proofs.YtiafofekobcifaaDoor
