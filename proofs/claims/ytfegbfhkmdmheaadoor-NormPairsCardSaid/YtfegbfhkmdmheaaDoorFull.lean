/- unicode/utf8.FullRuneInString, walked at every text. -/
import Derived.Test.YtfegbfhkmdmheaaDoorRefA
import Derived.Test.YtfegbfhkmdmheaaDoorShelf
import Derived.BigQuiet
import Derived.Deep.QuietTactic
import Derived.Shelf.Unicode.DecodeLast
set_option linter.unusedSimpArgs false
set_option linter.unusedVariables false
namespace Go.Proofs.YtfegbfhkmdmheaaDoor
open Go.RowKit Go.Lib

def full (l : List UInt8) : Bool :=
  if l = [] then false else if 240 ≤ firstT (gb l 0) then true else if firstT (gb l 0) % 8 ≤ l.length then true
  else if 1 < l.length ∧ (gb l 1 < accLo (firstT (gb l 0) / 16) ∨ accHi (firstT (gb l 0) / 16) < gb l 1) then true else if 2 < l.length ∧ (gb l 2 < 128 ∨ 191 < gb l 2) then true else false

def Full (s : ByteArray) (w : World) : Prop := Calls Tryd.prog 57 #[.string s] w fun e w' => e = .returned (.bool (full s.data.toList)) ∧ Below w.heap.size w w'


set_option maxRecDepth 100000 in
set_option maxHeartbeats 2000000 in
theorem full_240 (s : ByteArray) (w : World) (hT : Utf8Tabs 0 1 w) (h1 : 1 ≤ s.size) (hs : s.size ≤ maxLen) (hx : firstT (gb s.data.toList 0) = 240) : Full s w := by
  unfold maxLen at hs
  unfold Full
  have hne := list_ne s (by omega)
  have hlen := size_list s
  have hb0 := gb_at s 0 (by clear hlen; omega)
  obtain ⟨y, hy⟩ : ∃ y, s[0]'(by clear hlen; omega) = y := ⟨_, rfl⟩
  rw [hy] at hb0
  have l0 : y.toNat < 256 := UInt8.toNat_lt y
  have hc0 := hT.1 y.toNat l0
  rw [hb0, hx, ← hb0] at hc0
  have hfin : full s.data.toList = true := by unfold full; rw [if_neg hne, if_pos (by omega)]
  rw [hfin]
  clear hfin hT hx hlen hb0
  have hz0 : ((s.size : Int) == 0) = false := by rw [beq_eq_false_iff_ne]; omega
  go_enter Tryd.func57, Tryd.ntmps57
  go_wp2
  go_ret
  exact ⟨rfl, Below.refl _ _⟩

set_option maxRecDepth 100000 in
set_option maxHeartbeats 2000000 in
theorem full_241 (s : ByteArray) (w : World) (hT : Utf8Tabs 0 1 w) (h1 : 1 ≤ s.size) (hs : s.size ≤ maxLen) (hx : firstT (gb s.data.toList 0) = 241) : Full s w := by
  unfold maxLen at hs
  unfold Full
  have hne := list_ne s (by omega)
  have hlen := size_list s
  have hb0 := gb_at s 0 (by clear hlen; omega)
  obtain ⟨y, hy⟩ : ∃ y, s[0]'(by clear hlen; omega) = y := ⟨_, rfl⟩
  rw [hy] at hb0
  have l0 : y.toNat < 256 := UInt8.toNat_lt y
  have hc0 := hT.1 y.toNat l0
  rw [hb0, hx, ← hb0] at hc0
  have hfin : full s.data.toList = true := by unfold full; rw [if_neg hne, if_pos (by omega)]
  rw [hfin]
  clear hfin hT hx hlen hb0
  have hz0 : ((s.size : Int) == 0) = false := by rw [beq_eq_false_iff_ne]; omega
  go_enter Tryd.func57, Tryd.ntmps57
  go_wp2
  go_ret
  exact ⟨rfl, Below.refl _ _⟩

set_option maxRecDepth 100000 in
set_option maxHeartbeats 2000000 in
theorem full_2 (s : ByteArray) (w : World) (hT : Utf8Tabs 0 1 w) (h1 : 1 ≤ s.size) (hs : s.size ≤ maxLen) (hx : firstT (gb s.data.toList 0) = 2) : Full s w := by
  unfold maxLen at hs
  unfold Full
  have hne := list_ne s (by omega)
  have hlen := size_list s
  have hb0 := gb_at s 0 (by clear hlen; omega)
  obtain ⟨y, hy⟩ : ∃ y, s[0]'(by clear hlen; omega) = y := ⟨_, rfl⟩
  rw [hy] at hb0
  have l0 : y.toNat < 256 := UInt8.toNat_lt y
  have hc0 := hT.1 y.toNat l0
  rw [hb0, hx, ← hb0] at hc0
  have ha0 := (hT.2 0 (by omega)).1
  have ha1 := (hT.2 0 (by omega)).2
  simp only [accLo, accHi, Nat.reduceMul, Nat.reduceAdd, Nat.reduceEqDiff, if_true, if_false] at ha0 ha1
  by_cases hn : 2 ≤ s.size
  · have hfin : full s.data.toList = true := by unfold full; rw [if_neg hne, if_neg (by omega), if_pos (by omega)]
    rw [hfin]
    clear hfin hT hx hlen hb0
    have hz0 : ((s.size : Int) == 0) = false := by rw [beq_eq_false_iff_ne]; omega
    go_enter Tryd.func57, Tryd.ntmps57
    go_wp2
    go_ret
    exact ⟨rfl, Below.refl _ _⟩
  · have hk : s.size = 1 := by omega
    have hfin : full s.data.toList = false := by unfold full; rw [if_neg hne, if_neg (by omega), if_neg (by rw [hx]; omega), if_neg (by rw [hx]; simp only [accLo, accHi, Nat.reduceDiv, Nat.reduceEqDiff, if_true, if_false]; omega), if_neg (by omega)]
    rw [hfin]
    clear hfin hT hx hlen hb0
    go_enter Tryd.func57, Tryd.ntmps57
    go_wp2
    go_quiet (fail)
    go_wp2
    all_goals (go_ret; exact ⟨rfl, ((Below.refl _ _).alloc (Nat.le_refl _) _).trans ⟨rfl, rfl, rfl, Nat.le_refl _, fun _ _ => rfl⟩⟩)

set_option maxRecDepth 100000 in
set_option maxHeartbeats 2000000 in
theorem full_19 (s : ByteArray) (w : World) (hT : Utf8Tabs 0 1 w) (h1 : 1 ≤ s.size) (hs : s.size ≤ maxLen) (hx : firstT (gb s.data.toList 0) = 19) : Full s w := by
  unfold maxLen at hs
  unfold Full
  have hne := list_ne s (by omega)
  have hlen := size_list s
  have hb0 := gb_at s 0 (by clear hlen; omega)
  obtain ⟨y, hy⟩ : ∃ y, s[0]'(by clear hlen; omega) = y := ⟨_, rfl⟩
  rw [hy] at hb0
  have l0 : y.toNat < 256 := UInt8.toNat_lt y
  have hc0 := hT.1 y.toNat l0
  rw [hb0, hx, ← hb0] at hc0
  have ha0 := (hT.2 1 (by omega)).1
  have ha1 := (hT.2 1 (by omega)).2
  simp only [accLo, accHi, Nat.reduceMul, Nat.reduceAdd, Nat.reduceEqDiff, if_true, if_false] at ha0 ha1
  by_cases hn : 3 ≤ s.size
  · have hfin : full s.data.toList = true := by unfold full; rw [if_neg hne, if_neg (by omega), if_pos (by omega)]
    rw [hfin]
    clear hfin hT hx hlen hb0
    have hz0 : ((s.size : Int) == 0) = false := by rw [beq_eq_false_iff_ne]; omega
    go_enter Tryd.func57, Tryd.ntmps57
    go_wp2
    go_ret
    exact ⟨rfl, Below.refl _ _⟩
  · have hk : s.size = 1 ∨ s.size = 2 := by omega
    rcases hk with hk | hk
    · have hfin : full s.data.toList = false := by unfold full; rw [if_neg hne, if_neg (by omega), if_neg (by rw [hx]; omega), if_neg (by rw [hx]; simp only [accLo, accHi, Nat.reduceDiv, Nat.reduceEqDiff, if_true, if_false]; omega), if_neg (by omega)]
      rw [hfin]
      clear hfin hT hx hlen hb0
      go_enter Tryd.func57, Tryd.ntmps57
      go_wp2
      go_quiet (fail)
      go_wp2
      all_goals (go_ret; exact ⟨rfl, ((Below.refl _ _).alloc (Nat.le_refl _) _).trans ⟨rfl, rfl, rfl, Nat.le_refl _, fun _ _ => rfl⟩⟩)
    · have hb1 := gb_at s 1 (by clear hlen; omega)
      obtain ⟨y1, hy1⟩ : ∃ y1, s[1]'(by clear hlen; omega) = y1 := ⟨_, rfl⟩
      rw [hy1] at hb1
      by_cases c1 : (y1.toNat : Int) < 160
      · have hfin : full s.data.toList = true := by unfold full; rw [if_neg hne, if_neg (by omega), if_neg (by rw [hx]; omega), if_pos (by rw [hx]; simp only [accLo, accHi, Nat.reduceDiv, Nat.reduceEqDiff, if_true, if_false]; omega)]
        rw [hfin]
        clear hfin hT hx hlen hb0 hb1
        go_enter Tryd.func57, Tryd.ntmps57
        go_wp2
        go_quiet (fail)
        go_wp2
        all_goals (go_ret; exact ⟨rfl, ((Below.refl _ _).alloc (Nat.le_refl _) _).trans ⟨rfl, rfl, rfl, Nat.le_refl _, fun _ _ => rfl⟩⟩)
      · by_cases c2 : (191 : Int) < y1.toNat
        · have hfin : full s.data.toList = true := by unfold full; rw [if_neg hne, if_neg (by omega), if_neg (by rw [hx]; omega), if_pos (by rw [hx]; simp only [accLo, accHi, Nat.reduceDiv, Nat.reduceEqDiff, if_true, if_false]; omega)]
          rw [hfin]
          clear hfin hT hx hlen hb0 hb1
          go_enter Tryd.func57, Tryd.ntmps57
          go_wp2
          go_quiet (fail)
          go_wp2
          all_goals (go_ret; exact ⟨rfl, ((Below.refl _ _).alloc (Nat.le_refl _) _).trans ⟨rfl, rfl, rfl, Nat.le_refl _, fun _ _ => rfl⟩⟩)
        · have hfin : full s.data.toList = false := by unfold full; rw [if_neg hne, if_neg (by omega), if_neg (by rw [hx]; omega), if_neg (by rw [hx]; simp only [accLo, accHi, Nat.reduceDiv, Nat.reduceEqDiff, if_true, if_false]; omega), if_neg (by omega)]
          rw [hfin]
          clear hfin hT hx hlen hb0 hb1
          go_enter Tryd.func57, Tryd.ntmps57
          go_wp2
          go_quiet (fail)
          go_wp2
          all_goals (go_ret; exact ⟨rfl, ((Below.refl _ _).alloc (Nat.le_refl _) _).trans ⟨rfl, rfl, rfl, Nat.le_refl _, fun _ _ => rfl⟩⟩)

set_option maxRecDepth 100000 in
set_option maxHeartbeats 2000000 in
theorem full_3 (s : ByteArray) (w : World) (hT : Utf8Tabs 0 1 w) (h1 : 1 ≤ s.size) (hs : s.size ≤ maxLen) (hx : firstT (gb s.data.toList 0) = 3) : Full s w := by
  unfold maxLen at hs
  unfold Full
  have hne := list_ne s (by omega)
  have hlen := size_list s
  have hb0 := gb_at s 0 (by clear hlen; omega)
  obtain ⟨y, hy⟩ : ∃ y, s[0]'(by clear hlen; omega) = y := ⟨_, rfl⟩
  rw [hy] at hb0
  have l0 : y.toNat < 256 := UInt8.toNat_lt y
  have hc0 := hT.1 y.toNat l0
  rw [hb0, hx, ← hb0] at hc0
  have ha0 := (hT.2 0 (by omega)).1
  have ha1 := (hT.2 0 (by omega)).2
  simp only [accLo, accHi, Nat.reduceMul, Nat.reduceAdd, Nat.reduceEqDiff, if_true, if_false] at ha0 ha1
  by_cases hn : 3 ≤ s.size
  · have hfin : full s.data.toList = true := by unfold full; rw [if_neg hne, if_neg (by omega), if_pos (by omega)]
    rw [hfin]
    clear hfin hT hx hlen hb0
    have hz0 : ((s.size : Int) == 0) = false := by rw [beq_eq_false_iff_ne]; omega
    go_enter Tryd.func57, Tryd.ntmps57
    go_wp2
    go_ret
    exact ⟨rfl, Below.refl _ _⟩
  · have hk : s.size = 1 ∨ s.size = 2 := by omega
    rcases hk with hk | hk
    · have hfin : full s.data.toList = false := by unfold full; rw [if_neg hne, if_neg (by omega), if_neg (by rw [hx]; omega), if_neg (by rw [hx]; simp only [accLo, accHi, Nat.reduceDiv, Nat.reduceEqDiff, if_true, if_false]; omega), if_neg (by omega)]
      rw [hfin]
      clear hfin hT hx hlen hb0
      go_enter Tryd.func57, Tryd.ntmps57
      go_wp2
      go_quiet (fail)
      go_wp2
      all_goals (go_ret; exact ⟨rfl, ((Below.refl _ _).alloc (Nat.le_refl _) _).trans ⟨rfl, rfl, rfl, Nat.le_refl _, fun _ _ => rfl⟩⟩)
    · have hb1 := gb_at s 1 (by clear hlen; omega)
      obtain ⟨y1, hy1⟩ : ∃ y1, s[1]'(by clear hlen; omega) = y1 := ⟨_, rfl⟩
      rw [hy1] at hb1
      by_cases c1 : (y1.toNat : Int) < 128
      · have hfin : full s.data.toList = true := by unfold full; rw [if_neg hne, if_neg (by omega), if_neg (by rw [hx]; omega), if_pos (by rw [hx]; simp only [accLo, accHi, Nat.reduceDiv, Nat.reduceEqDiff, if_true, if_false]; omega)]
        rw [hfin]
        clear hfin hT hx hlen hb0 hb1
        go_enter Tryd.func57, Tryd.ntmps57
        go_wp2
        go_quiet (fail)
        go_wp2
        all_goals (go_ret; exact ⟨rfl, ((Below.refl _ _).alloc (Nat.le_refl _) _).trans ⟨rfl, rfl, rfl, Nat.le_refl _, fun _ _ => rfl⟩⟩)
      · by_cases c2 : (191 : Int) < y1.toNat
        · have hfin : full s.data.toList = true := by unfold full; rw [if_neg hne, if_neg (by omega), if_neg (by rw [hx]; omega), if_pos (by rw [hx]; simp only [accLo, accHi, Nat.reduceDiv, Nat.reduceEqDiff, if_true, if_false]; omega)]
          rw [hfin]
          clear hfin hT hx hlen hb0 hb1
          go_enter Tryd.func57, Tryd.ntmps57
          go_wp2
          go_quiet (fail)
          go_wp2
          all_goals (go_ret; exact ⟨rfl, ((Below.refl _ _).alloc (Nat.le_refl _) _).trans ⟨rfl, rfl, rfl, Nat.le_refl _, fun _ _ => rfl⟩⟩)
        · have hfin : full s.data.toList = false := by unfold full; rw [if_neg hne, if_neg (by omega), if_neg (by rw [hx]; omega), if_neg (by rw [hx]; simp only [accLo, accHi, Nat.reduceDiv, Nat.reduceEqDiff, if_true, if_false]; omega), if_neg (by omega)]
          rw [hfin]
          clear hfin hT hx hlen hb0 hb1
          go_enter Tryd.func57, Tryd.ntmps57
          go_wp2
          go_quiet (fail)
          go_wp2
          all_goals (go_ret; exact ⟨rfl, ((Below.refl _ _).alloc (Nat.le_refl _) _).trans ⟨rfl, rfl, rfl, Nat.le_refl _, fun _ _ => rfl⟩⟩)

set_option maxRecDepth 100000 in
set_option maxHeartbeats 2000000 in
theorem full_35 (s : ByteArray) (w : World) (hT : Utf8Tabs 0 1 w) (h1 : 1 ≤ s.size) (hs : s.size ≤ maxLen) (hx : firstT (gb s.data.toList 0) = 35) : Full s w := by
  unfold maxLen at hs
  unfold Full
  have hne := list_ne s (by omega)
  have hlen := size_list s
  have hb0 := gb_at s 0 (by clear hlen; omega)
  obtain ⟨y, hy⟩ : ∃ y, s[0]'(by clear hlen; omega) = y := ⟨_, rfl⟩
  rw [hy] at hb0
  have l0 : y.toNat < 256 := UInt8.toNat_lt y
  have hc0 := hT.1 y.toNat l0
  rw [hb0, hx, ← hb0] at hc0
  have ha0 := (hT.2 2 (by omega)).1
  have ha1 := (hT.2 2 (by omega)).2
  simp only [accLo, accHi, Nat.reduceMul, Nat.reduceAdd, Nat.reduceEqDiff, if_true, if_false] at ha0 ha1
  by_cases hn : 3 ≤ s.size
  · have hfin : full s.data.toList = true := by unfold full; rw [if_neg hne, if_neg (by omega), if_pos (by omega)]
    rw [hfin]
    clear hfin hT hx hlen hb0
    have hz0 : ((s.size : Int) == 0) = false := by rw [beq_eq_false_iff_ne]; omega
    go_enter Tryd.func57, Tryd.ntmps57
    go_wp2
    go_ret
    exact ⟨rfl, Below.refl _ _⟩
  · have hk : s.size = 1 ∨ s.size = 2 := by omega
    rcases hk with hk | hk
    · have hfin : full s.data.toList = false := by unfold full; rw [if_neg hne, if_neg (by omega), if_neg (by rw [hx]; omega), if_neg (by rw [hx]; simp only [accLo, accHi, Nat.reduceDiv, Nat.reduceEqDiff, if_true, if_false]; omega), if_neg (by omega)]
      rw [hfin]
      clear hfin hT hx hlen hb0
      go_enter Tryd.func57, Tryd.ntmps57
      go_wp2
      go_quiet (fail)
      go_wp2
      all_goals (go_ret; exact ⟨rfl, ((Below.refl _ _).alloc (Nat.le_refl _) _).trans ⟨rfl, rfl, rfl, Nat.le_refl _, fun _ _ => rfl⟩⟩)
    · have hb1 := gb_at s 1 (by clear hlen; omega)
      obtain ⟨y1, hy1⟩ : ∃ y1, s[1]'(by clear hlen; omega) = y1 := ⟨_, rfl⟩
      rw [hy1] at hb1
      by_cases c1 : (y1.toNat : Int) < 128
      · have hfin : full s.data.toList = true := by unfold full; rw [if_neg hne, if_neg (by omega), if_neg (by rw [hx]; omega), if_pos (by rw [hx]; simp only [accLo, accHi, Nat.reduceDiv, Nat.reduceEqDiff, if_true, if_false]; omega)]
        rw [hfin]
        clear hfin hT hx hlen hb0 hb1
        go_enter Tryd.func57, Tryd.ntmps57
        go_wp2
        go_quiet (fail)
        go_wp2
        all_goals (go_ret; exact ⟨rfl, ((Below.refl _ _).alloc (Nat.le_refl _) _).trans ⟨rfl, rfl, rfl, Nat.le_refl _, fun _ _ => rfl⟩⟩)
      · by_cases c2 : (159 : Int) < y1.toNat
        · have hfin : full s.data.toList = true := by unfold full; rw [if_neg hne, if_neg (by omega), if_neg (by rw [hx]; omega), if_pos (by rw [hx]; simp only [accLo, accHi, Nat.reduceDiv, Nat.reduceEqDiff, if_true, if_false]; omega)]
          rw [hfin]
          clear hfin hT hx hlen hb0 hb1
          go_enter Tryd.func57, Tryd.ntmps57
          go_wp2
          go_quiet (fail)
          go_wp2
          all_goals (go_ret; exact ⟨rfl, ((Below.refl _ _).alloc (Nat.le_refl _) _).trans ⟨rfl, rfl, rfl, Nat.le_refl _, fun _ _ => rfl⟩⟩)
        · have hfin : full s.data.toList = false := by unfold full; rw [if_neg hne, if_neg (by omega), if_neg (by rw [hx]; omega), if_neg (by rw [hx]; simp only [accLo, accHi, Nat.reduceDiv, Nat.reduceEqDiff, if_true, if_false]; omega), if_neg (by omega)]
          rw [hfin]
          clear hfin hT hx hlen hb0 hb1
          go_enter Tryd.func57, Tryd.ntmps57
          go_wp2
          go_quiet (fail)
          go_wp2
          all_goals (go_ret; exact ⟨rfl, ((Below.refl _ _).alloc (Nat.le_refl _) _).trans ⟨rfl, rfl, rfl, Nat.le_refl _, fun _ _ => rfl⟩⟩)

set_option maxRecDepth 100000 in
set_option maxHeartbeats 2000000 in
theorem full_52 (s : ByteArray) (w : World) (hT : Utf8Tabs 0 1 w) (h1 : 1 ≤ s.size) (hs : s.size ≤ maxLen) (hx : firstT (gb s.data.toList 0) = 52) : Full s w := by
  unfold maxLen at hs
  unfold Full
  have hne := list_ne s (by omega)
  have hlen := size_list s
  have hb0 := gb_at s 0 (by clear hlen; omega)
  obtain ⟨y, hy⟩ : ∃ y, s[0]'(by clear hlen; omega) = y := ⟨_, rfl⟩
  rw [hy] at hb0
  have l0 : y.toNat < 256 := UInt8.toNat_lt y
  have hc0 := hT.1 y.toNat l0
  rw [hb0, hx, ← hb0] at hc0
  have ha0 := (hT.2 3 (by omega)).1
  have ha1 := (hT.2 3 (by omega)).2
  simp only [accLo, accHi, Nat.reduceMul, Nat.reduceAdd, Nat.reduceEqDiff, if_true, if_false] at ha0 ha1
  by_cases hn : 4 ≤ s.size
  · have hfin : full s.data.toList = true := by unfold full; rw [if_neg hne, if_neg (by omega), if_pos (by omega)]
    rw [hfin]
    clear hfin hT hx hlen hb0
    have hz0 : ((s.size : Int) == 0) = false := by rw [beq_eq_false_iff_ne]; omega
    go_enter Tryd.func57, Tryd.ntmps57
    go_wp2
    go_ret
    exact ⟨rfl, Below.refl _ _⟩
  · have hk : s.size = 1 ∨ s.size = 2 ∨ s.size = 3 := by omega
    rcases hk with hk | hk | hk
    · have hfin : full s.data.toList = false := by unfold full; rw [if_neg hne, if_neg (by omega), if_neg (by rw [hx]; omega), if_neg (by rw [hx]; simp only [accLo, accHi, Nat.reduceDiv, Nat.reduceEqDiff, if_true, if_false]; omega), if_neg (by omega)]
      rw [hfin]
      clear hfin hT hx hlen hb0
      go_enter Tryd.func57, Tryd.ntmps57
      go_wp2
      go_quiet (fail)
      go_wp2
      all_goals (go_ret; exact ⟨rfl, ((Below.refl _ _).alloc (Nat.le_refl _) _).trans ⟨rfl, rfl, rfl, Nat.le_refl _, fun _ _ => rfl⟩⟩)
    · have hb1 := gb_at s 1 (by clear hlen; omega)
      obtain ⟨y1, hy1⟩ : ∃ y1, s[1]'(by clear hlen; omega) = y1 := ⟨_, rfl⟩
      rw [hy1] at hb1
      by_cases c1 : (y1.toNat : Int) < 144
      · have hfin : full s.data.toList = true := by unfold full; rw [if_neg hne, if_neg (by omega), if_neg (by rw [hx]; omega), if_pos (by rw [hx]; simp only [accLo, accHi, Nat.reduceDiv, Nat.reduceEqDiff, if_true, if_false]; omega)]
        rw [hfin]
        clear hfin hT hx hlen hb0 hb1
        go_enter Tryd.func57, Tryd.ntmps57
        go_wp2
        go_quiet (fail)
        go_wp2
        all_goals (go_ret; exact ⟨rfl, ((Below.refl _ _).alloc (Nat.le_refl _) _).trans ⟨rfl, rfl, rfl, Nat.le_refl _, fun _ _ => rfl⟩⟩)
      · by_cases c2 : (191 : Int) < y1.toNat
        · have hfin : full s.data.toList = true := by unfold full; rw [if_neg hne, if_neg (by omega), if_neg (by rw [hx]; omega), if_pos (by rw [hx]; simp only [accLo, accHi, Nat.reduceDiv, Nat.reduceEqDiff, if_true, if_false]; omega)]
          rw [hfin]
          clear hfin hT hx hlen hb0 hb1
          go_enter Tryd.func57, Tryd.ntmps57
          go_wp2
          go_quiet (fail)
          go_wp2
          all_goals (go_ret; exact ⟨rfl, ((Below.refl _ _).alloc (Nat.le_refl _) _).trans ⟨rfl, rfl, rfl, Nat.le_refl _, fun _ _ => rfl⟩⟩)
        · have hfin : full s.data.toList = false := by unfold full; rw [if_neg hne, if_neg (by omega), if_neg (by rw [hx]; omega), if_neg (by rw [hx]; simp only [accLo, accHi, Nat.reduceDiv, Nat.reduceEqDiff, if_true, if_false]; omega), if_neg (by omega)]
          rw [hfin]
          clear hfin hT hx hlen hb0 hb1
          go_enter Tryd.func57, Tryd.ntmps57
          go_wp2
          go_quiet (fail)
          go_wp2
          all_goals (go_ret; exact ⟨rfl, ((Below.refl _ _).alloc (Nat.le_refl _) _).trans ⟨rfl, rfl, rfl, Nat.le_refl _, fun _ _ => rfl⟩⟩)
    · have hb1 := gb_at s 1 (by clear hlen; omega)
      obtain ⟨y1, hy1⟩ : ∃ y1, s[1]'(by clear hlen; omega) = y1 := ⟨_, rfl⟩
      rw [hy1] at hb1
      by_cases c1 : (y1.toNat : Int) < 144
      · have hfin : full s.data.toList = true := by unfold full; rw [if_neg hne, if_neg (by omega), if_neg (by rw [hx]; omega), if_pos (by rw [hx]; simp only [accLo, accHi, Nat.reduceDiv, Nat.reduceEqDiff, if_true, if_false]; omega)]
        rw [hfin]
        clear hfin hT hx hlen hb0 hb1
        go_enter Tryd.func57, Tryd.ntmps57
        go_wp2
        go_quiet (fail)
        go_wp2
        all_goals (go_ret; exact ⟨rfl, ((Below.refl _ _).alloc (Nat.le_refl _) _).trans ⟨rfl, rfl, rfl, Nat.le_refl _, fun _ _ => rfl⟩⟩)
      · by_cases c2 : (191 : Int) < y1.toNat
        · have hfin : full s.data.toList = true := by unfold full; rw [if_neg hne, if_neg (by omega), if_neg (by rw [hx]; omega), if_pos (by rw [hx]; simp only [accLo, accHi, Nat.reduceDiv, Nat.reduceEqDiff, if_true, if_false]; omega)]
          rw [hfin]
          clear hfin hT hx hlen hb0 hb1
          go_enter Tryd.func57, Tryd.ntmps57
          go_wp2
          go_quiet (fail)
          go_wp2
          all_goals (go_ret; exact ⟨rfl, ((Below.refl _ _).alloc (Nat.le_refl _) _).trans ⟨rfl, rfl, rfl, Nat.le_refl _, fun _ _ => rfl⟩⟩)
        · have hb2 := gb_at s 2 (by clear hlen; omega)
          obtain ⟨y2, hy2⟩ : ∃ y2, s[2]'(by clear hlen; omega) = y2 := ⟨_, rfl⟩
          rw [hy2] at hb2
          by_cases d1 : (y2.toNat : Int) < 128
          · have hfin : full s.data.toList = true := by unfold full; rw [if_neg hne, if_neg (by omega), if_neg (by rw [hx]; omega), if_neg (by rw [hx]; simp only [accLo, accHi, Nat.reduceDiv, Nat.reduceEqDiff, if_true, if_false]; omega), if_pos (by omega)]
            rw [hfin]
            clear hfin hT hx hlen hb0 hb1 hb2
            go_enter Tryd.func57, Tryd.ntmps57
            go_wp2
            go_quiet (fail)
            go_wp2
            all_goals (go_ret; exact ⟨rfl, ((Below.refl _ _).alloc (Nat.le_refl _) _).trans ⟨rfl, rfl, rfl, Nat.le_refl _, fun _ _ => rfl⟩⟩)
          · by_cases d2 : (191 : Int) < y2.toNat
            · have hfin : full s.data.toList = true := by unfold full; rw [if_neg hne, if_neg (by omega), if_neg (by rw [hx]; omega), if_neg (by rw [hx]; simp only [accLo, accHi, Nat.reduceDiv, Nat.reduceEqDiff, if_true, if_false]; omega), if_pos (by omega)]
              rw [hfin]
              clear hfin hT hx hlen hb0 hb1 hb2
              go_enter Tryd.func57, Tryd.ntmps57
              go_wp2
              go_quiet (fail)
              go_wp2
              all_goals (go_ret; exact ⟨rfl, ((Below.refl _ _).alloc (Nat.le_refl _) _).trans ⟨rfl, rfl, rfl, Nat.le_refl _, fun _ _ => rfl⟩⟩)
            · have hfin : full s.data.toList = false := by unfold full; rw [if_neg hne, if_neg (by omega), if_neg (by rw [hx]; omega), if_neg (by rw [hx]; simp only [accLo, accHi, Nat.reduceDiv, Nat.reduceEqDiff, if_true, if_false]; omega), if_neg (by omega)]
              rw [hfin]
              clear hfin hT hx hlen hb0 hb1 hb2
              go_enter Tryd.func57, Tryd.ntmps57
              go_wp2
              go_quiet (fail)
              go_wp2
              all_goals (go_ret; exact ⟨rfl, ((Below.refl _ _).alloc (Nat.le_refl _) _).trans ⟨rfl, rfl, rfl, Nat.le_refl _, fun _ _ => rfl⟩⟩)

set_option maxRecDepth 100000 in
set_option maxHeartbeats 2000000 in
theorem full_4 (s : ByteArray) (w : World) (hT : Utf8Tabs 0 1 w) (h1 : 1 ≤ s.size) (hs : s.size ≤ maxLen) (hx : firstT (gb s.data.toList 0) = 4) : Full s w := by
  unfold maxLen at hs
  unfold Full
  have hne := list_ne s (by omega)
  have hlen := size_list s
  have hb0 := gb_at s 0 (by clear hlen; omega)
  obtain ⟨y, hy⟩ : ∃ y, s[0]'(by clear hlen; omega) = y := ⟨_, rfl⟩
  rw [hy] at hb0
  have l0 : y.toNat < 256 := UInt8.toNat_lt y
  have hc0 := hT.1 y.toNat l0
  rw [hb0, hx, ← hb0] at hc0
  have ha0 := (hT.2 0 (by omega)).1
  have ha1 := (hT.2 0 (by omega)).2
  simp only [accLo, accHi, Nat.reduceMul, Nat.reduceAdd, Nat.reduceEqDiff, if_true, if_false] at ha0 ha1
  by_cases hn : 4 ≤ s.size
  · have hfin : full s.data.toList = true := by unfold full; rw [if_neg hne, if_neg (by omega), if_pos (by omega)]
    rw [hfin]
    clear hfin hT hx hlen hb0
    have hz0 : ((s.size : Int) == 0) = false := by rw [beq_eq_false_iff_ne]; omega
    go_enter Tryd.func57, Tryd.ntmps57
    go_wp2
    go_ret
    exact ⟨rfl, Below.refl _ _⟩
  · have hk : s.size = 1 ∨ s.size = 2 ∨ s.size = 3 := by omega
    rcases hk with hk | hk | hk
    · have hfin : full s.data.toList = false := by unfold full; rw [if_neg hne, if_neg (by omega), if_neg (by rw [hx]; omega), if_neg (by rw [hx]; simp only [accLo, accHi, Nat.reduceDiv, Nat.reduceEqDiff, if_true, if_false]; omega), if_neg (by omega)]
      rw [hfin]
      clear hfin hT hx hlen hb0
      go_enter Tryd.func57, Tryd.ntmps57
      go_wp2
      go_quiet (fail)
      go_wp2
      all_goals (go_ret; exact ⟨rfl, ((Below.refl _ _).alloc (Nat.le_refl _) _).trans ⟨rfl, rfl, rfl, Nat.le_refl _, fun _ _ => rfl⟩⟩)
    · have hb1 := gb_at s 1 (by clear hlen; omega)
      obtain ⟨y1, hy1⟩ : ∃ y1, s[1]'(by clear hlen; omega) = y1 := ⟨_, rfl⟩
      rw [hy1] at hb1
      by_cases c1 : (y1.toNat : Int) < 128
      · have hfin : full s.data.toList = true := by unfold full; rw [if_neg hne, if_neg (by omega), if_neg (by rw [hx]; omega), if_pos (by rw [hx]; simp only [accLo, accHi, Nat.reduceDiv, Nat.reduceEqDiff, if_true, if_false]; omega)]
        rw [hfin]
        clear hfin hT hx hlen hb0 hb1
        go_enter Tryd.func57, Tryd.ntmps57
        go_wp2
        go_quiet (fail)
        go_wp2
        all_goals (go_ret; exact ⟨rfl, ((Below.refl _ _).alloc (Nat.le_refl _) _).trans ⟨rfl, rfl, rfl, Nat.le_refl _, fun _ _ => rfl⟩⟩)
      · by_cases c2 : (191 : Int) < y1.toNat
        · have hfin : full s.data.toList = true := by unfold full; rw [if_neg hne, if_neg (by omega), if_neg (by rw [hx]; omega), if_pos (by rw [hx]; simp only [accLo, accHi, Nat.reduceDiv, Nat.reduceEqDiff, if_true, if_false]; omega)]
          rw [hfin]
          clear hfin hT hx hlen hb0 hb1
          go_enter Tryd.func57, Tryd.ntmps57
          go_wp2
          go_quiet (fail)
          go_wp2
          all_goals (go_ret; exact ⟨rfl, ((Below.refl _ _).alloc (Nat.le_refl _) _).trans ⟨rfl, rfl, rfl, Nat.le_refl _, fun _ _ => rfl⟩⟩)
        · have hfin : full s.data.toList = false := by unfold full; rw [if_neg hne, if_neg (by omega), if_neg (by rw [hx]; omega), if_neg (by rw [hx]; simp only [accLo, accHi, Nat.reduceDiv, Nat.reduceEqDiff, if_true, if_false]; omega), if_neg (by omega)]
          rw [hfin]
          clear hfin hT hx hlen hb0 hb1
          go_enter Tryd.func57, Tryd.ntmps57
          go_wp2
          go_quiet (fail)
          go_wp2
          all_goals (go_ret; exact ⟨rfl, ((Below.refl _ _).alloc (Nat.le_refl _) _).trans ⟨rfl, rfl, rfl, Nat.le_refl _, fun _ _ => rfl⟩⟩)
    · have hb1 := gb_at s 1 (by clear hlen; omega)
      obtain ⟨y1, hy1⟩ : ∃ y1, s[1]'(by clear hlen; omega) = y1 := ⟨_, rfl⟩
      rw [hy1] at hb1
      by_cases c1 : (y1.toNat : Int) < 128
      · have hfin : full s.data.toList = true := by unfold full; rw [if_neg hne, if_neg (by omega), if_neg (by rw [hx]; omega), if_pos (by rw [hx]; simp only [accLo, accHi, Nat.reduceDiv, Nat.reduceEqDiff, if_true, if_false]; omega)]
        rw [hfin]
        clear hfin hT hx hlen hb0 hb1
        go_enter Tryd.func57, Tryd.ntmps57
        go_wp2
        go_quiet (fail)
        go_wp2
        all_goals (go_ret; exact ⟨rfl, ((Below.refl _ _).alloc (Nat.le_refl _) _).trans ⟨rfl, rfl, rfl, Nat.le_refl _, fun _ _ => rfl⟩⟩)
      · by_cases c2 : (191 : Int) < y1.toNat
        · have hfin : full s.data.toList = true := by unfold full; rw [if_neg hne, if_neg (by omega), if_neg (by rw [hx]; omega), if_pos (by rw [hx]; simp only [accLo, accHi, Nat.reduceDiv, Nat.reduceEqDiff, if_true, if_false]; omega)]
          rw [hfin]
          clear hfin hT hx hlen hb0 hb1
          go_enter Tryd.func57, Tryd.ntmps57
          go_wp2
          go_quiet (fail)
          go_wp2
          all_goals (go_ret; exact ⟨rfl, ((Below.refl _ _).alloc (Nat.le_refl _) _).trans ⟨rfl, rfl, rfl, Nat.le_refl _, fun _ _ => rfl⟩⟩)
        · have hb2 := gb_at s 2 (by clear hlen; omega)
          obtain ⟨y2, hy2⟩ : ∃ y2, s[2]'(by clear hlen; omega) = y2 := ⟨_, rfl⟩
          rw [hy2] at hb2
          by_cases d1 : (y2.toNat : Int) < 128
          · have hfin : full s.data.toList = true := by unfold full; rw [if_neg hne, if_neg (by omega), if_neg (by rw [hx]; omega), if_neg (by rw [hx]; simp only [accLo, accHi, Nat.reduceDiv, Nat.reduceEqDiff, if_true, if_false]; omega), if_pos (by omega)]
            rw [hfin]
            clear hfin hT hx hlen hb0 hb1 hb2
            go_enter Tryd.func57, Tryd.ntmps57
            go_wp2
            go_quiet (fail)
            go_wp2
            all_goals (go_ret; exact ⟨rfl, ((Below.refl _ _).alloc (Nat.le_refl _) _).trans ⟨rfl, rfl, rfl, Nat.le_refl _, fun _ _ => rfl⟩⟩)
          · by_cases d2 : (191 : Int) < y2.toNat
            · have hfin : full s.data.toList = true := by unfold full; rw [if_neg hne, if_neg (by omega), if_neg (by rw [hx]; omega), if_neg (by rw [hx]; simp only [accLo, accHi, Nat.reduceDiv, Nat.reduceEqDiff, if_true, if_false]; omega), if_pos (by omega)]
              rw [hfin]
              clear hfin hT hx hlen hb0 hb1 hb2
              go_enter Tryd.func57, Tryd.ntmps57
              go_wp2
              go_quiet (fail)
              go_wp2
              all_goals (go_ret; exact ⟨rfl, ((Below.refl _ _).alloc (Nat.le_refl _) _).trans ⟨rfl, rfl, rfl, Nat.le_refl _, fun _ _ => rfl⟩⟩)
            · have hfin : full s.data.toList = false := by unfold full; rw [if_neg hne, if_neg (by omega), if_neg (by rw [hx]; omega), if_neg (by rw [hx]; simp only [accLo, accHi, Nat.reduceDiv, Nat.reduceEqDiff, if_true, if_false]; omega), if_neg (by omega)]
              rw [hfin]
              clear hfin hT hx hlen hb0 hb1 hb2
              go_enter Tryd.func57, Tryd.ntmps57
              go_wp2
              go_quiet (fail)
              go_wp2
              all_goals (go_ret; exact ⟨rfl, ((Below.refl _ _).alloc (Nat.le_refl _) _).trans ⟨rfl, rfl, rfl, Nat.le_refl _, fun _ _ => rfl⟩⟩)

set_option maxRecDepth 100000 in
set_option maxHeartbeats 2000000 in
theorem full_68 (s : ByteArray) (w : World) (hT : Utf8Tabs 0 1 w) (h1 : 1 ≤ s.size) (hs : s.size ≤ maxLen) (hx : firstT (gb s.data.toList 0) = 68) : Full s w := by
  unfold maxLen at hs
  unfold Full
  have hne := list_ne s (by omega)
  have hlen := size_list s
  have hb0 := gb_at s 0 (by clear hlen; omega)
  obtain ⟨y, hy⟩ : ∃ y, s[0]'(by clear hlen; omega) = y := ⟨_, rfl⟩
  rw [hy] at hb0
  have l0 : y.toNat < 256 := UInt8.toNat_lt y
  have hc0 := hT.1 y.toNat l0
  rw [hb0, hx, ← hb0] at hc0
  have ha0 := (hT.2 4 (by omega)).1
  have ha1 := (hT.2 4 (by omega)).2
  simp only [accLo, accHi, Nat.reduceMul, Nat.reduceAdd, Nat.reduceEqDiff, if_true, if_false] at ha0 ha1
  by_cases hn : 4 ≤ s.size
  · have hfin : full s.data.toList = true := by unfold full; rw [if_neg hne, if_neg (by omega), if_pos (by omega)]
    rw [hfin]
    clear hfin hT hx hlen hb0
    have hz0 : ((s.size : Int) == 0) = false := by rw [beq_eq_false_iff_ne]; omega
    go_enter Tryd.func57, Tryd.ntmps57
    go_wp2
    go_ret
    exact ⟨rfl, Below.refl _ _⟩
  · have hk : s.size = 1 ∨ s.size = 2 ∨ s.size = 3 := by omega
    rcases hk with hk | hk | hk
    · have hfin : full s.data.toList = false := by unfold full; rw [if_neg hne, if_neg (by omega), if_neg (by rw [hx]; omega), if_neg (by rw [hx]; simp only [accLo, accHi, Nat.reduceDiv, Nat.reduceEqDiff, if_true, if_false]; omega), if_neg (by omega)]
      rw [hfin]
      clear hfin hT hx hlen hb0
      go_enter Tryd.func57, Tryd.ntmps57
      go_wp2
      go_quiet (fail)
      go_wp2
      all_goals (go_ret; exact ⟨rfl, ((Below.refl _ _).alloc (Nat.le_refl _) _).trans ⟨rfl, rfl, rfl, Nat.le_refl _, fun _ _ => rfl⟩⟩)
    · have hb1 := gb_at s 1 (by clear hlen; omega)
      obtain ⟨y1, hy1⟩ : ∃ y1, s[1]'(by clear hlen; omega) = y1 := ⟨_, rfl⟩
      rw [hy1] at hb1
      by_cases c1 : (y1.toNat : Int) < 128
      · have hfin : full s.data.toList = true := by unfold full; rw [if_neg hne, if_neg (by omega), if_neg (by rw [hx]; omega), if_pos (by rw [hx]; simp only [accLo, accHi, Nat.reduceDiv, Nat.reduceEqDiff, if_true, if_false]; omega)]
        rw [hfin]
        clear hfin hT hx hlen hb0 hb1
        go_enter Tryd.func57, Tryd.ntmps57
        go_wp2
        go_quiet (fail)
        go_wp2
        all_goals (go_ret; exact ⟨rfl, ((Below.refl _ _).alloc (Nat.le_refl _) _).trans ⟨rfl, rfl, rfl, Nat.le_refl _, fun _ _ => rfl⟩⟩)
      · by_cases c2 : (143 : Int) < y1.toNat
        · have hfin : full s.data.toList = true := by unfold full; rw [if_neg hne, if_neg (by omega), if_neg (by rw [hx]; omega), if_pos (by rw [hx]; simp only [accLo, accHi, Nat.reduceDiv, Nat.reduceEqDiff, if_true, if_false]; omega)]
          rw [hfin]
          clear hfin hT hx hlen hb0 hb1
          go_enter Tryd.func57, Tryd.ntmps57
          go_wp2
          go_quiet (fail)
          go_wp2
          all_goals (go_ret; exact ⟨rfl, ((Below.refl _ _).alloc (Nat.le_refl _) _).trans ⟨rfl, rfl, rfl, Nat.le_refl _, fun _ _ => rfl⟩⟩)
        · have hfin : full s.data.toList = false := by unfold full; rw [if_neg hne, if_neg (by omega), if_neg (by rw [hx]; omega), if_neg (by rw [hx]; simp only [accLo, accHi, Nat.reduceDiv, Nat.reduceEqDiff, if_true, if_false]; omega), if_neg (by omega)]
          rw [hfin]
          clear hfin hT hx hlen hb0 hb1
          go_enter Tryd.func57, Tryd.ntmps57
          go_wp2
          go_quiet (fail)
          go_wp2
          all_goals (go_ret; exact ⟨rfl, ((Below.refl _ _).alloc (Nat.le_refl _) _).trans ⟨rfl, rfl, rfl, Nat.le_refl _, fun _ _ => rfl⟩⟩)
    · have hb1 := gb_at s 1 (by clear hlen; omega)
      obtain ⟨y1, hy1⟩ : ∃ y1, s[1]'(by clear hlen; omega) = y1 := ⟨_, rfl⟩
      rw [hy1] at hb1
      by_cases c1 : (y1.toNat : Int) < 128
      · have hfin : full s.data.toList = true := by unfold full; rw [if_neg hne, if_neg (by omega), if_neg (by rw [hx]; omega), if_pos (by rw [hx]; simp only [accLo, accHi, Nat.reduceDiv, Nat.reduceEqDiff, if_true, if_false]; omega)]
        rw [hfin]
        clear hfin hT hx hlen hb0 hb1
        go_enter Tryd.func57, Tryd.ntmps57
        go_wp2
        go_quiet (fail)
        go_wp2
        all_goals (go_ret; exact ⟨rfl, ((Below.refl _ _).alloc (Nat.le_refl _) _).trans ⟨rfl, rfl, rfl, Nat.le_refl _, fun _ _ => rfl⟩⟩)
      · by_cases c2 : (143 : Int) < y1.toNat
        · have hfin : full s.data.toList = true := by unfold full; rw [if_neg hne, if_neg (by omega), if_neg (by rw [hx]; omega), if_pos (by rw [hx]; simp only [accLo, accHi, Nat.reduceDiv, Nat.reduceEqDiff, if_true, if_false]; omega)]
          rw [hfin]
          clear hfin hT hx hlen hb0 hb1
          go_enter Tryd.func57, Tryd.ntmps57
          go_wp2
          go_quiet (fail)
          go_wp2
          all_goals (go_ret; exact ⟨rfl, ((Below.refl _ _).alloc (Nat.le_refl _) _).trans ⟨rfl, rfl, rfl, Nat.le_refl _, fun _ _ => rfl⟩⟩)
        · have hb2 := gb_at s 2 (by clear hlen; omega)
          obtain ⟨y2, hy2⟩ : ∃ y2, s[2]'(by clear hlen; omega) = y2 := ⟨_, rfl⟩
          rw [hy2] at hb2
          by_cases d1 : (y2.toNat : Int) < 128
          · have hfin : full s.data.toList = true := by unfold full; rw [if_neg hne, if_neg (by omega), if_neg (by rw [hx]; omega), if_neg (by rw [hx]; simp only [accLo, accHi, Nat.reduceDiv, Nat.reduceEqDiff, if_true, if_false]; omega), if_pos (by omega)]
            rw [hfin]
            clear hfin hT hx hlen hb0 hb1 hb2
            go_enter Tryd.func57, Tryd.ntmps57
            go_wp2
            go_quiet (fail)
            go_wp2
            all_goals (go_ret; exact ⟨rfl, ((Below.refl _ _).alloc (Nat.le_refl _) _).trans ⟨rfl, rfl, rfl, Nat.le_refl _, fun _ _ => rfl⟩⟩)
          · by_cases d2 : (191 : Int) < y2.toNat
            · have hfin : full s.data.toList = true := by unfold full; rw [if_neg hne, if_neg (by omega), if_neg (by rw [hx]; omega), if_neg (by rw [hx]; simp only [accLo, accHi, Nat.reduceDiv, Nat.reduceEqDiff, if_true, if_false]; omega), if_pos (by omega)]
              rw [hfin]
              clear hfin hT hx hlen hb0 hb1 hb2
              go_enter Tryd.func57, Tryd.ntmps57
              go_wp2
              go_quiet (fail)
              go_wp2
              all_goals (go_ret; exact ⟨rfl, ((Below.refl _ _).alloc (Nat.le_refl _) _).trans ⟨rfl, rfl, rfl, Nat.le_refl _, fun _ _ => rfl⟩⟩)
            · have hfin : full s.data.toList = false := by unfold full; rw [if_neg hne, if_neg (by omega), if_neg (by rw [hx]; omega), if_neg (by rw [hx]; simp only [accLo, accHi, Nat.reduceDiv, Nat.reduceEqDiff, if_true, if_false]; omega), if_neg (by omega)]
              rw [hfin]
              clear hfin hT hx hlen hb0 hb1 hb2
              go_enter Tryd.func57, Tryd.ntmps57
              go_wp2
              go_quiet (fail)
              go_wp2
              all_goals (go_ret; exact ⟨rfl, ((Below.refl _ _).alloc (Nat.le_refl _) _).trans ⟨rfl, rfl, rfl, Nat.le_refl _, fun _ _ => rfl⟩⟩)

theorem full_any (s : ByteArray) (w : World) (hT : Utf8Tabs 0 1 w) (hs : s.size ≤ maxLen) : Full s w := by
  by_cases h0 : s.size = 0
  · unfold Full
    have hfin : full s.data.toList = false := by unfold full; rw [if_pos (list_nil s h0)]
    rw [hfin]
    clear hfin hT
    go_enter Tryd.func57, Tryd.ntmps57
    go_wp2
    go_ret
    exact ⟨rfl, Below.refl _ _⟩
  · rcases firstT_cases (gb s.data.toList 0) with hX | hX | hX | hX | hX | hX | hX | hX | hX
    · exact full_240 s w hT (by omega) hs hX
    · exact full_241 s w hT (by omega) hs hX
    · exact full_2 s w hT (by omega) hs hX
    · exact full_19 s w hT (by omega) hs hX
    · exact full_3 s w hT (by omega) hs hX
    · exact full_35 s w hT (by omega) hs hX
    · exact full_52 s w hT (by omega) hs hX
    · exact full_4 s w hT (by omega) hs hX
    · exact full_68 s w hT (by omega) hs hX

end Go.Proofs.YtfegbfhkmdmheaaDoor
