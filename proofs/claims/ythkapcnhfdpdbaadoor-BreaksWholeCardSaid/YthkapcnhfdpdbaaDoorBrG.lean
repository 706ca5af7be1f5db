/- Layer 13, the document: Class, says. (Made by tools/mksays13.py.) -/
import Derived.Test.YthkapcnhfdpdbaaDoorBrkG
import Derived.Test.YthkapcnhfdpdbaaDoorRefWG
import Derived.Test.YthkapcnhfdpdbaaDoorRefCD
set_option linter.unusedSimpArgs false
set_option linter.unusedVariables false
namespace Go.Proofs.YthkapcnhfdpdbaaDoor
open Go.RowKit Go.Lib

set_option maxRecDepth 100000 in
set_option maxHeartbeats 1000000 in
theorem rclass_any (c : ByteArray) (w : World) (hs : c.size ≤ 1073741824) (h0 : 0 < chars c) : Calls Tryd.prog 19 #[.string c] w fun e w' => e = .returned (.int .i8 (brkN c : Nat)) ∧ Below w.heap.size w w' := by
  have hne : c.data.toList ≠ [] := fun e => by unfold chars at h0; rw [e] at h0; exact absurd h0 (by decide)
  have HN := refNext_any c w (by unfold maxLen; omega)
  rw [show nxt c.data.toList = dec c.data.toList from if_neg hne] at HN
  have hsg := segs_cons c.data.toList hne
  obtain ⟨d, hd⟩ : ∃ d, dec c.data.toList = d := ⟨_, rfl⟩
  have hpos := (dec_facts c.data.toList hne).1
  rw [hd] at HN hsg hpos
  have hsd : brkN c = brkD d := by unfold brkN; rw [hsg]
  have HN := Lib.hid HN
  have HK := Lib.hid (fun W => refBreak_is (d.1 : Int) W)
  unfold brkD at hsd
  obtain ⟨k, hk⟩ : ∃ k, cls breaksL (char (d.1 : Int)) = k := ⟨_, rfl⟩
  rw [hk] at HK hsd
  obtain ⟨r, n⟩ := d
  have hbd : badD (r, n) = (r == 65533 && n == 1) := rfl
  rw [hbd] at hsd
  dsimp only at HN HK hpos
  have HD := Lib.hid hsd
  clear hsd hbd hsg hd hne h0 hk
  go_enter Tryd.func19, Tryd.ntmps19
  go_wp2_with fail
  refine HN.out.mono ?_
  rintro _ w1 ⟨rfl, b1⟩
  have B1 := Lib.hid b1
  clear HN b1
  by_cases hn : n = 1
  · subst hn
    by_cases hr : r = 65533
    · subst hr
      have HV := Lib.hid (show brkN c = 0 from by rw [HD.out]; simp)
      go_wp2_with fail
      go_ret
      exact ⟨by rw [HV.out]; rfl, B1.out⟩
    · have ir : ((r : Int) == 65533) = false := by rw [show (65533 : Int) = ((65533 : Nat) : Int) from rfl, intEq]; simp [hr]
      by_cases h8 : k = 8
      · subst h8
        have HV := Lib.hid (show brkN c = 0 from by rw [HD.out]; simp)
        clear hr HD
        go_wp2_with fail
        refine (HK.out _).mono ?_
        rintro _ w2 ⟨rfl, h2⟩
        obtain rfl := h2.symm
        go_wp2_with fail
        go_ret
        exact ⟨by rw [HV.out]; rfl, B1.out⟩
      · have HV := Lib.hid (show brkN c = k from by rw [HD.out]; simp [hr, h8])
        have ik : ((k : Int) == 8) = false := by rw [show (8 : Int) = ((8 : Nat) : Int) from rfl, intEq]; simp [h8]
        clear hr h8 HD
        go_wp2_with fail
        refine (HK.out _).mono ?_
        rintro _ w2 ⟨rfl, h2⟩
        obtain rfl := h2.symm
        go_wp2_with fail
        go_ret
        exact ⟨by rw [HV.out]; rfl, B1.out⟩
  · have inn : ((n : Int) == 1) = false := by rw [show (1 : Int) = ((1 : Nat) : Int) from rfl, intEq]; simp [hn]
    by_cases h8 : k = 8
    · subst h8
      have HV := Lib.hid (show brkN c = 0 from by rw [HD.out]; simp)
      clear hn HD
      go_wp2_with fail
      refine (HK.out _).mono ?_
      rintro _ w2 ⟨rfl, h2⟩
      obtain rfl := h2.symm
      go_wp2_with fail
      go_ret
      exact ⟨by rw [HV.out]; rfl, B1.out⟩
    · have HV := Lib.hid (show brkN c = k from by rw [HD.out]; simp [hn, h8])
      have ik : ((k : Int) == 8) = false := by rw [show (8 : Int) = ((8 : Nat) : Int) from rfl, intEq]; simp [h8]
      clear hn h8 HD
      go_wp2_with fail
      refine (HK.out _).mono ?_
      rintro _ w2 ⟨rfl, h2⟩
      obtain rfl := h2.symm
      go_wp2_with fail
      go_ret
      exact ⟨by rw [HV.out]; rfl, B1.out⟩
set_option maxRecDepth 100000 in
set_option maxHeartbeats 8000000 in
theorem rsays_any (a b : Nat) (p : Int) (w : World) : Calls Tryd.prog 20 #[.int .i8 (a : Int), .int .i8 (b : Int), .int .i8 p] w fun e w' => e = .returned (.int .i8 (saysN a b p : Nat)) ∧ w' = w := by
  go_enter Tryd.func20, Tryd.ntmps20
  by_cases ha2 : a = 2
  · subst ha2
    have HV := Lib.hid (show saysN 2 b p = 2 from by unfold saysN; simp)
    go_wp2_with fail
    go_ret
    exact ⟨by rw [HV.out]; rfl, rfl⟩
  have ia2 : ((a : Int) == 2) = false := by rw [show (2 : Int) = ((2 : Nat) : Int) from rfl, intEq]; simp [ha2]
  have ga2 : ((a : Int) != 2) = true := by rw [bne, ia2]; rfl
  by_cases hb2 : b = 2
  · subst hb2
    have HV := Lib.hid (show saysN a 2 p = 0 from by unfold saysN; simp [ha2])
    clear ha2
    go_wp2_with fail
    go_ret
    exact ⟨by rw [HV.out]; rfl, rfl⟩
  have ib2 : ((b : Int) == 2) = false := by rw [show (2 : Int) = ((2 : Nat) : Int) from rfl, intEq]; simp [hb2]
  have gb2 : ((b : Int) != 2) = true := by rw [bne, ib2]; rfl
  by_cases hb1 : b = 1
  · subst hb1
    clear ib2 gb2 hb2
    have HV := Lib.hid (show saysN a 1 p = 0 from by unfold saysN; simp [ha2])
    clear ha2
    go_wp2_with fail
    go_ret
    exact ⟨by rw [HV.out]; rfl, rfl⟩
  have ib1 : ((b : Int) == 1) = false := by rw [show (1 : Int) = ((1 : Nat) : Int) from rfl, intEq]; simp [hb1]
  have gb1 : ((b : Int) != 1) = true := by rw [bne, ib1]; rfl
  by_cases hb9 : b = 9
  · subst hb9
    clear ib2 gb2 hb2 ib1 gb1 hb1
    have HV := Lib.hid (show saysN a 9 p = 0 from by unfold saysN; simp [ha2])
    clear ha2
    go_wp2_with fail
    go_ret
    exact ⟨by rw [HV.out]; rfl, rfl⟩
  have ib9 : ((b : Int) == 9) = false := by rw [show (9 : Int) = ((9 : Nat) : Int) from rfl, intEq]; simp [hb9]
  have gb9 : ((b : Int) != 9) = true := by rw [bne, ib9]; rfl
  by_cases hp9 : p = 9
  · subst hp9
    have HV := Lib.hid (show saysN a b 9 = 1 from by unfold saysN; simp [ha2, hb2, hb1, hb9])
    clear ha2 hb2 hb1 hb9
    go_wp2_with fail
    go_ret
    exact ⟨by rw [HV.out]; rfl, rfl⟩
  have ip9 : (p == 9) = false := by simp [hp9]
  have gp9 : (p != 9) = true := by simp [hp9]
  by_cases ha12 : a = 12
  · subst ha12
    clear ia2 ga2 ha2
    have HV := Lib.hid (show saysN 12 b p = 0 from by unfold saysN; simp [hb2, hb1, hb9, hp9])
    clear hb2 hb1 hb9 hp9
    go_wp2_with fail
    go_ret
    exact ⟨by rw [HV.out]; rfl, rfl⟩
  have ia12 : ((a : Int) == 12) = false := by rw [show (12 : Int) = ((12 : Nat) : Int) from rfl, intEq]; simp [ha12]
  have ga12 : ((a : Int) != 12) = true := by rw [bne, ia12]; rfl
  by_cases hb12 : b = 12
  · subst hb12
    clear ib2 gb2 hb2 ib1 gb1 hb1 ib9 gb9 hb9
    have HV := Lib.hid (show saysN a 12 p = 0 from by unfold saysN; simp [ha2, ha12, hp9])
    clear ha2 ha12 hp9
    go_wp2_with fail
    go_ret
    exact ⟨by rw [HV.out]; rfl, rfl⟩
  have ib12 : ((b : Int) == 12) = false := by rw [show (12 : Int) = ((12 : Nat) : Int) from rfl, intEq]; simp [hb12]
  have gb12 : ((b : Int) != 12) = true := by rw [bne, ib12]; rfl
  by_cases ha5 : a = 5
  · subst ha5
    clear ia2 ga2 ha2 ia12 ga12 ha12
    have HV := Lib.hid (show saysN 5 b p = 0 from by unfold saysN; simp [hb2, hb1, hb9, hb12, hp9])
    clear hb2 hb1 hb9 hb12 hp9
    go_wp2_with fail
    go_ret
    exact ⟨by rw [HV.out]; rfl, rfl⟩
  have ia5 : ((a : Int) == 5) = false := by rw [show (5 : Int) = ((5 : Nat) : Int) from rfl, intEq]; simp [ha5]
  have ga5 : ((a : Int) != 5) = true := by rw [bne, ia5]; rfl
  by_cases hb5 : b = 5
  · subst hb5
    clear ib2 gb2 hb2 ib1 gb1 hb1 ib9 gb9 hb9 ib12 gb12 hb12
    by_cases ha1 : a = 1
    · subst ha1
      clear ia2 ga2 ha2 ia12 ga12 ha12 ia5 ga5 ha5
      by_cases hp3 : p = 3
      · subst hp3
        clear ip9 gp9 hp9
        have HV := Lib.hid (show saysN 1 5 3 = 0 from by unfold saysN; simp)
        go_wp2_with fail
        go_ret
        exact ⟨by rw [HV.out]; rfl, rfl⟩
      have ip3 : (p == 3) = false := by simp [hp3]
      have gp3 : (p != 3) = true := by simp [hp3]
      have HV := Lib.hid (show saysN 1 5 p = 1 from by unfold saysN; simp [hp9, hp3])
      clear hp9 hp3
      go_wp2_with fail
      go_ret
      exact ⟨by rw [HV.out]; rfl, rfl⟩
    have ia1 : ((a : Int) == 1) = false := by rw [show (1 : Int) = ((1 : Nat) : Int) from rfl, intEq]; simp [ha1]
    have ga1 : ((a : Int) != 1) = true := by rw [bne, ia1]; rfl
    by_cases ha6 : a = 6
    · subst ha6
      clear ia2 ga2 ha2 ia12 ga12 ha12 ia5 ga5 ha5 ia1 ga1 ha1
      by_cases hp3 : p = 3
      · subst hp3
        clear ip9 gp9 hp9
        have HV := Lib.hid (show saysN 6 5 3 = 0 from by unfold saysN; simp)
        go_wp2_with fail
        go_ret
        exact ⟨by rw [HV.out]; rfl, rfl⟩
      have ip3 : (p == 3) = false := by simp [hp3]
      have gp3 : (p != 3) = true := by simp [hp3]
      have HV := Lib.hid (show saysN 6 5 p = 1 from by unfold saysN; simp [hp9, hp3])
      clear hp9 hp3
      go_wp2_with fail
      go_ret
      exact ⟨by rw [HV.out]; rfl, rfl⟩
    have ia6 : ((a : Int) == 6) = false := by rw [show (6 : Int) = ((6 : Nat) : Int) from rfl, intEq]; simp [ha6]
    have ga6 : ((a : Int) != 6) = true := by rw [bne, ia6]; rfl
    have HV := Lib.hid (show saysN a 5 p = 0 from by unfold saysN; simp [ha2, ha12, ha5, ha1, ha6, hp9])
    clear ha2 ha12 ha5 ha1 ha6 hp9
    go_wp2_with fail
    go_ret
    exact ⟨by rw [HV.out]; rfl, rfl⟩
  have ib5 : ((b : Int) == 5) = false := by rw [show (5 : Int) = ((5 : Nat) : Int) from rfl, intEq]; simp [hb5]
  have gb5 : ((b : Int) != 5) = true := by rw [bne, ib5]; rfl
  by_cases hb4 : b = 4
  · subst hb4
    clear ib2 gb2 hb2 ib1 gb1 hb1 ib9 gb9 hb9 ib12 gb12 hb12 ib5 gb5 hb5
    have HV := Lib.hid (show saysN a 4 p = 0 from by unfold saysN; simp [ha2, ha12, ha5, hp9])
    clear ha2 ha12 ha5 hp9
    go_wp2_with fail
    go_ret
    exact ⟨by rw [HV.out]; rfl, rfl⟩
  have ib4 : ((b : Int) == 4) = false := by rw [show (4 : Int) = ((4 : Nat) : Int) from rfl, intEq]; simp [hb4]
  have gb4 : ((b : Int) != 4) = true := by rw [bne, ib4]; rfl
  by_cases hb11 : b = 11
  · subst hb11
    clear ib2 gb2 hb2 ib1 gb1 hb1 ib9 gb9 hb9 ib12 gb12 hb12 ib5 gb5 hb5 ib4 gb4 hb4
    by_cases ha1 : a = 1
    · subst ha1
      clear ia2 ga2 ha2 ia12 ga12 ha12 ia5 ga5 ha5
      by_cases hp3 : p = 3
      · subst hp3
        clear ip9 gp9 hp9
        have HV := Lib.hid (show saysN 1 11 3 = 0 from by unfold saysN; simp)
        go_wp2_with fail
        go_ret
        exact ⟨by rw [HV.out]; rfl, rfl⟩
      have ip3 : (p == 3) = false := by simp [hp3]
      have gp3 : (p != 3) = true := by simp [hp3]
      have HV := Lib.hid (show saysN 1 11 p = 1 from by unfold saysN; simp [hp9, hp3])
      clear hp9 hp3
      go_wp2_with fail
      go_ret
      exact ⟨by rw [HV.out]; rfl, rfl⟩
    have ia1 : ((a : Int) == 1) = false := by rw [show (1 : Int) = ((1 : Nat) : Int) from rfl, intEq]; simp [ha1]
    have ga1 : ((a : Int) != 1) = true := by rw [bne, ia1]; rfl
    have HV := Lib.hid (show saysN a 11 p = 0 from by unfold saysN; simp [ha2, ha12, ha5, ha1, hp9])
    clear ha2 ha12 ha5 ha1 hp9
    go_wp2_with fail
    go_ret
    exact ⟨by rw [HV.out]; rfl, rfl⟩
  have ib11 : ((b : Int) == 11) = false := by rw [show (11 : Int) = ((11 : Nat) : Int) from rfl, intEq]; simp [hb11]
  have gb11 : ((b : Int) != 11) = true := by rw [bne, ib11]; rfl
  by_cases hp3 : p = 3
  · subst hp3
    clear ip9 gp9 hp9
    have HV := Lib.hid (show saysN a b 3 = 0 from by unfold saysN; simp [ha2, ha12, ha5, hb2, hb1, hb9, hb12, hb5, hb4, hb11])
    clear ha2 ha12 ha5 hb2 hb1 hb9 hb12 hb5 hb4 hb11
    go_wp2_with fail
    go_ret
    exact ⟨by rw [HV.out]; rfl, rfl⟩
  have ip3 : (p == 3) = false := by simp [hp3]
  have gp3 : (p != 3) = true := by simp [hp3]
  by_cases ha1 : a = 1
  · subst ha1
    clear ia2 ga2 ha2 ia12 ga12 ha12 ia5 ga5 ha5
    have HV := Lib.hid (show saysN 1 b p = 1 from by unfold saysN; simp [hb2, hb1, hb9, hb12, hb5, hb4, hb11, hp9, hp3])
    clear hb2 hb1 hb9 hb12 hb5 hb4 hb11 hp9 hp3
    go_wp2_with fail
    go_ret
    exact ⟨by rw [HV.out]; rfl, rfl⟩
  have ia1 : ((a : Int) == 1) = false := by rw [show (1 : Int) = ((1 : Nat) : Int) from rfl, intEq]; simp [ha1]
  have ga1 : ((a : Int) != 1) = true := by rw [bne, ia1]; rfl
  by_cases hb6 : b = 6
  · subst hb6
    clear ib2 gb2 hb2 ib1 gb1 hb1 ib9 gb9 hb9 ib12 gb12 hb12 ib5 gb5 hb5 ib4 gb4 hb4 ib11 gb11 hb11
    have HV := Lib.hid (show saysN a 6 p = 0 from by unfold saysN; simp [ha2, ha12, ha5, ha1, hp9, hp3])
    clear ha2 ha12 ha5 ha1 hp9 hp3
    go_wp2_with fail
    go_ret
    exact ⟨by rw [HV.out]; rfl, rfl⟩
  have ib6 : ((b : Int) == 6) = false := by rw [show (6 : Int) = ((6 : Nat) : Int) from rfl, intEq]; simp [hb6]
  have gb6 : ((b : Int) != 6) = true := by rw [bne, ib6]; rfl
  by_cases ha6 : a = 6
  · subst ha6
    clear ia2 ga2 ha2 ia12 ga12 ha12 ia5 ga5 ha5 ia1 ga1 ha1
    by_cases hb10 : b = 10
    · subst hb10
      clear ib2 gb2 hb2 ib1 gb1 hb1 ib9 gb9 hb9 ib12 gb12 hb12 ib5 gb5 hb5 ib4 gb4 hb4 ib11 gb11 hb11 ib6 gb6 hb6
      have HV := Lib.hid (show saysN 6 10 p = 0 from by unfold saysN; simp [hp9, hp3])
      clear hp9 hp3
      go_wp2_with fail
      go_ret
      exact ⟨by rw [HV.out]; rfl, rfl⟩
    have ib10 : ((b : Int) == 10) = false := by rw [show (10 : Int) = ((10 : Nat) : Int) from rfl, intEq]; simp [hb10]
    have gb10 : ((b : Int) != 10) = true := by rw [bne, ib10]; rfl
    have HV := Lib.hid (show saysN 6 b p = 1 from by unfold saysN; simp [hb2, hb1, hb9, hb12, hb5, hb4, hb11, hb6, hb10, hp9, hp3])
    clear hb2 hb1 hb9 hb12 hb5 hb4 hb11 hb6 hb10 hp9 hp3
    go_wp2_with fail
    go_ret
    exact ⟨by rw [HV.out]; rfl, rfl⟩
  have ia6 : ((a : Int) == 6) = false := by rw [show (6 : Int) = ((6 : Nat) : Int) from rfl, intEq]; simp [ha6]
  have ga6 : ((a : Int) != 6) = true := by rw [bne, ia6]; rfl
  by_cases ha7 : a = 7
  · subst ha7
    clear ia2 ga2 ha2 ia12 ga12 ha12 ia5 ga5 ha5 ia1 ga1 ha1 ia6 ga6 ha6
    have HV := Lib.hid (show saysN 7 b p = 1 from by unfold saysN; simp [hb2, hb1, hb9, hb12, hb5, hb4, hb11, hb6, hp9, hp3])
    clear hb2 hb1 hb9 hb12 hb5 hb4 hb11 hb6 hp9 hp3
    go_wp2_with fail
    go_ret
    exact ⟨by rw [HV.out]; rfl, rfl⟩
  have ia7 : ((a : Int) == 7) = false := by rw [show (7 : Int) = ((7 : Nat) : Int) from rfl, intEq]; simp [ha7]
  have ga7 : ((a : Int) != 7) = true := by rw [bne, ia7]; rfl
  by_cases hb7 : b = 7
  · subst hb7
    clear ib2 gb2 hb2 ib1 gb1 hb1 ib9 gb9 hb9 ib12 gb12 hb12 ib5 gb5 hb5 ib4 gb4 hb4 ib11 gb11 hb11 ib6 gb6 hb6
    have HV := Lib.hid (show saysN a 7 p = 1 from by unfold saysN; simp [ha2, ha12, ha5, ha1, ha6, ha7, hp9, hp3])
    clear ha2 ha12 ha5 ha1 ha6 ha7 hp9 hp3
    go_wp2_with fail
    go_ret
    exact ⟨by rw [HV.out]; rfl, rfl⟩
  have ib7 : ((b : Int) == 7) = false := by rw [show (7 : Int) = ((7 : Nat) : Int) from rfl, intEq]; simp [hb7]
  have gb7 : ((b : Int) != 7) = true := by rw [bne, ib7]; rfl
  have HV := Lib.hid (show saysN a b p = 0 from by unfold saysN; simp [ha2, ha12, ha5, ha1, ha6, ha7, hb2, hb1, hb9, hb12, hb5, hb4, hb11, hb6, hb7, hp9, hp3])
  clear ha2 ha12 ha5 ha1 ha6 ha7 hb2 hb1 hb9 hb12 hb5 hb4 hb11 hb6 hb7 hp9 hp3
  go_wp2_with fail
  go_ret
  exact ⟨by rw [HV.out]; rfl, rfl⟩
end Go.Proofs.YthkapcnhfdpdbaaDoor

/- Layer 13, the document: Where. -/
namespace Go.Proofs.YthkapcnhfdpdbaaDoor
open Go.RowKit Go.Lib

/-- numbers of one byte, as they lie -/
def whV (l : List Nat) : List Value := l.map fun (n : Nat) => Value.int .i8 (n : Int)
theorem ri8_info : (Tryd.prog.info? 25).map (fun i => (i.zero, i.size, i.bytes)) = some (some (.int .i8 0), 1, 1) := by kernel_rfl
/-- the classes of a text's clusters -/
def clsL (s : ByteArray) : List Nat := (pcs s).map fun x => brkN x.2
structure WhS (w1 : World) (Q : Nat) (C : List Nat) (i c : Nat) (q : Int) (A : Option Addr) (W : World) : Prop where
  so : q = (C.take i).foldl solidN (-1)
  ow : W.ownsRow Q 25 1 (.slice A i c) i (whV ((whereF (-1) C).take i))
  be : Below Q w1 W
set_option maxRecDepth 100000 in
set_option maxHeartbeats 4000000 in
theorem rwhere13_any (s : ByteArray) (w : World) (hs : s.size ≤ 1073741824) : Calls Tryd.prog 7 #[.string s] w fun e w' =>
    ∃ A c, e = .returned (.slice A (whereN s).length c) ∧ w'.ownsRow w.heap.size 25 1 (.slice A (whereN s).length c) (whereN s).length (whV (whereN s)) ∧ Below w.heap.size w w' := by
  obtain ⟨i0, hi, hz0, hz1, hz2⟩ := info_parts ri8_info
  have hpl := pcs_len s
  have HA := Lib.hid (rall_any s w hs)
  have hwl : (whereN s).length = (pcs s).length := by unfold whereN; rw [whereF_len, List.length_map]
  have HCl := Lib.hid (show ∀ (i : Nat) (x : Nat × ByteArray), (pcs s)[i]? = some x → (clsL s)[i]? = some (brkN x.2) ∧ ∀ W, Calls Tryd.prog 19 #[.string x.2] W fun e w' => e = .returned (.int .i8 (brkN x.2 : Nat)) ∧ Below W.heap.size W w' from fun i x hx => by
    have hc := pcs_chain s i x hx
    exact ⟨by unfold clsL; rw [List.getElem?_map, hx]; rfl, fun W => rclass_any x.2 W (by omega) (chars_pos _ hc.2.1)⟩)
  have HSy := Lib.hid rsays_any
  have hcl : (clsL s).length = (pcs s).length := by unfold clsL; rw [List.length_map]
  have HWn := Lib.hid (show whereF (-1) (clsL s) = whereN s from rfl)
  obtain ⟨N, hN⟩ : ∃ N, (pcs s).length = N := ⟨_, rfl⟩
  rw [hN] at HA hpl hwl hcl
  rw [hwl]
  obtain ⟨C, hC⟩ : ∃ C, clsL s = C := ⟨_, rfl⟩
  rw [hC] at HCl hcl HWn
  have HN := Lib.hid (And.intro hN (And.intro hcl hwl))
  obtain ⟨B, hB⟩ : ∃ B, w.heap.size = B := ⟨_, rfl⟩
  have HBe := Lib.hid hB
  rw [hB]
  clear hN hB hC hcl hwl
  go_enter Tryd.func7, Tryd.ntmps7
  go_wp2_with fail
  refine HA.out.mono ?_
  rintro _ W1 ⟨A, c, rfl, o1, b1⟩
  obtain ⟨Q1, hQ1⟩ : ∃ Q1, W1.heap.size = Q1 := ⟨_, rfl⟩
  have HB1 := Lib.hid (show B ≤ Q1 ∧ Below B w W1 from ⟨by have := b1.size; have := HBe.out; omega, by rw [← HBe.out]; exact b1⟩)
  have HR := Lib.hid (show ∀ W, Below Q1 W1 W → RdP W Q1 A (pcs s) from fun W h => by
    have h0 : RdP W1 Q1 A (pcs s) := by
      have := Rd.own o1
      rw [← HN.out.1, hQ1] at this
      exact this
    exact h0.below h)
  have HQ1 := Lib.hid hQ1
  have H0 := Lib.hid (show WhS W1 Q1 C 0 0 (-1) none W1 from ⟨rfl, World.ownsRow_nil _ _ _ _, Below.refl _ _⟩)
  clear o1 b1 hQ1 HA
  go_wp2_with fail
  go_loopw [4, 5, 6] (fun y z x wr => ∃ (i c' : Nat) (q : Int) (A' : Option Addr) (W : World), W = wr ∧ y = .slice A' i c' ∧ z = .int .i8 q ∧ x = .int .i64 (i : Int) ∧ i ≤ N ∧ Hid (WhS W1 Q1 C i c' q A' W)) (fun _ _ x _ => N - (RowKit.intOf x).toNat)
  case atStart => exact ⟨0, 0, -1, none, _, rfl, rfl, rfl, rfl, Nat.zero_le _, H0⟩
  case round =>
    clear H0
    obtain ⟨i, c', q, A', W, hW, rfl, rfl, rfl, hin, HI⟩ := hrel
    subst hW
    rcases Nat.lt_or_ge i N with hlt | hge
    · obtain ⟨x, hx⟩ : ∃ x, (pcs s)[i]? = some x := ⟨_, List.getElem?_eq_getElem (by rw [HN.out.1]; omega)⟩
      obtain ⟨a, hA, _, _, g2⟩ := (HR.out W HI.out.be).at_ hx
      subst hA
      rw [add_next] at g2
      have hini : (i : Int) < (N : Int) := by omega
      have hnext : IntKind.i64.wrap ((i : Int) + 1) = (i : Int) + 1 := IntWalk.i64_in _ (by omega)
      obtain ⟨hCi, HCx⟩ := HCl.out i x hx
      have HCx := Lib.hid HCx
      have hT := whereF_take C i _ hCi
      have hS := solid_next C (-1) i _ hCi
      rw [← HI.out.so] at hT hS
      obtain ⟨k, hk⟩ : ∃ k, brkN x.2 = k := ⟨_, rfl⟩
      rw [hk] at HCx hT hS
      obtain ⟨q', hq'⟩ : ∃ q', solidN q k = q' := ⟨_, rfl⟩
      rw [hq'] at hT hS
      have hQW : Q1 ≤ W.heap.size := by have := HI.out.be.size; have := HQ1.out; omega
      clear hx hk hCi
      go_wp2_with fail
      refine (HCx.out _).mono ?_
      rintro _ W2 ⟨rfl, b2⟩
      obtain ⟨X, hX⟩ : ∃ X, (whereF (-1) C).take i = X := ⟨_, rfl⟩
      have H2 := Lib.hid (show W2.ownsRow Q1 25 1 (.slice A' i c') i (whV X) ∧ Below Q1 W1 W2 ∧ Q1 ≤ W2.heap.size from ⟨by rw [← hX]; exact own_below HI.out.ow b2, HI.out.be.trans (b2.mono hQW), by have := b2.size; omega⟩)
      rw [hX] at hT
      clear b2 HI hX g2 HCx hQW
      have hsol : ∃ q0 : Int, ((k : Int) != 1) = true ∧ q' = (k : Int) ∨ ((k : Int) != 1) = false ∧ q' = q := by
        refine ⟨0, ?_⟩
        unfold solidN at hq'
        by_cases h1 : k = 1
        · rw [if_pos h1] at hq'
          exact .inr ⟨by simp [h1], hq'.symm⟩
        · rw [if_neg h1] at hq'
          exact .inl ⟨by simp; omega, hq'.symm⟩
      obtain ⟨_, hsol⟩ := hsol
      by_cases hl : i + 1 < N
      · rw [if_pos (by rw [HN.out.2.1]; exact hl)] at hT
        obtain ⟨y, hy⟩ : ∃ y, (pcs s)[i + 1]? = some y := ⟨_, List.getElem?_eq_getElem (by rw [HN.out.1]; omega)⟩
        obtain ⟨hCj, HCy⟩ := HCl.out (i + 1) y hy
        have HCy := Lib.hid HCy
        have hgd : C.getD (i + 1) 0 = brkN y.2 := by rw [List.getD_eq_getElem?_getD, hCj]; rfl
        rw [hgd] at hT
        obtain ⟨m, hm⟩ : ∃ m, brkN y.2 = m := ⟨_, rfl⟩
        rw [hm] at HCy hT
        obtain ⟨v, hv⟩ : ∃ v, saysN k m q' = v := ⟨_, rfl⟩
        have HSv := Lib.hid (fun W => HSy.out k m q' W)
        rw [hv] at HSv hT
        have HT := Lib.hid (show whV X ++ [.int .i8 (v : Int)] = whV ((whereF (-1) C).take (i + 1)) ∧ q' = (C.take (i + 1)).foldl solidN (-1) from ⟨by rw [hT]; simp [whV], hS.symm⟩)
        obtain ⟨a', ea, _, _, g3⟩ := (HR.out W2 H2.out.2.1).at_ hy
        obtain rfl := Option.some.inj ea
        rw [add_next] at g3
        have g4 : W2.cell? ⟨a.block, a.off + (i + 1) * 2 + 1, none⟩ = some (.string y.2) := by
          have e : a.add ((i + 1) * 2) = ⟨a.block, a.off + (i + 1) * 2, none⟩ := by rw [show (i + 1) * 2 = (2 * i + 1) + 1 by omega, add_succW]
          rw [e] at g3; exact g3
        have g5 : W2.cell? ⟨a.block, a.off + ((i + 1) * 2 + 1), none⟩ = some (.string y.2) := g4
        have hli : (i : Int) + 1 < (N : Int) := by omega
        have hl0 : (0 : Int) ≤ (i : Int) + 1 := by omega
        have hti : ((i : Int) + 1).toNat = i + 1 := by omega
        clear hy hm hgd hCj hv hT hS hq'
        rcases hsol with ⟨h1, rfl⟩ | ⟨h1, rfl⟩
        all_goals
          go_wp2_with fail
          refine (HCy.out _).mono ?_
          rintro _ W3 ⟨rfl, b3⟩
          have H3 := Lib.hid (show W3.ownsRow Q1 25 1 (.slice A' i c') i (whV X) ∧ Below Q1 W1 W3 ∧ Q1 ≤ W3.heap.size from ⟨own_below H2.out.1 b3, H2.out.2.1.trans (b3.mono H2.out.2.2), by have := b3.size; have := H2.out.2.2; omega⟩)
          clear b3 H2 g3 g4 g5
          go_wp2_with fail
          refine (HSv.out _).mono ?_
          rintro _ W4 ⟨rfl, h4⟩
          obtain rfl := h4.symm
          go_wp2_with (at_builtin; refine wpList_append_own_at _ rfl _ _ 22 rfl Q1 25 i0 _ 1 1 Tryd.underlying22 hi hz0 hz1 hz2 rfl (by decide) _ _ _ rfl (H3.out.1.alloc _) ⟨W3.heap.size, 0, none⟩ 1 1 [.int .i8 (v : Int)] rfl rfl ?d1 ?d2 ?d3 ?d4 ?d5 ?_)
          try (case d1 => exact new_cells W3 [.int .i8 (v : Int)] 25)
          case d2 => simp [Value.oneCell']
          case d3 => unfold maxLen; omega
          case d4 => omega
          case d5 => have := H3.out.2.2; first | omega | (rw [World.size_alloc]; omega)
          intro v3 w3 o3 g6 _ _
          obtain ⟨A3, c3, hv3, _, _⟩ := own_shape o3
          subst hv3
          have H5 := Lib.hid (show WhS W1 Q1 C (i + 1) c3 _ A3 w3 from ⟨HT.out.2, by rw [← HT.out.1]; exact o3, (H3.out.2.1.alloc H3.out.2.2 _).grown g6 (by rw [World.size_alloc]; have := H3.out.2.2; omega) (fun q hq => (H3.out.1.lt q hq).1)⟩)
          clear o3 g6 H3
          go_wp2_with fail
          go_roundw
          case rel => exact ⟨i + 1, c3, _, A3, _, rfl, rfl, rfl, by first | rfl | go_num, hlt, H5⟩
          case measure => simp [RowKit.intOf]; omega
      · rw [if_neg (by rw [HN.out.2.1]; exact hl)] at hT
        have hli : ¬ (i : Int) + 1 < (N : Int) := by omega
        obtain ⟨v, hv⟩ : ∃ v, (if k = 2 then 2 else 0) = v := ⟨_, rfl⟩
        rw [hv] at hT
        have HT := Lib.hid (show whV X ++ [.int .i8 (v : Int)] = whV ((whereF (-1) C).take (i + 1)) ∧ q' = (C.take (i + 1)).foldl solidN (-1) from ⟨by rw [hT]; simp [whV], hS.symm⟩)
        have hkc : (((k : Int) == 2) = true ∧ v = 2) ∨ (((k : Int) == 2) = false ∧ v = 0) := by
          by_cases h2 : k = 2
          · rw [if_pos h2] at hv; exact .inl ⟨by simp [h2], hv.symm⟩
          · rw [if_neg h2] at hv; exact .inr ⟨by rw [show (2 : Int) = ((2 : Nat) : Int) from rfl, intEq]; simp [h2], hv.symm⟩
        clear hv hT hS hq'
        rcases hsol with ⟨h1, rfl⟩ | ⟨h1, rfl⟩
        all_goals
          rcases hkc with ⟨h2, rfl⟩ | ⟨h2, rfl⟩
          · go_wp2_with (at_builtin; refine wpList_append_own_at _ rfl _ _ 22 rfl Q1 25 i0 _ 1 1 Tryd.underlying22 hi hz0 hz1 hz2 rfl (by decide) _ _ _ rfl (H2.out.1.alloc _) ⟨W2.heap.size, 0, none⟩ 1 1 [.int .i8 2] rfl rfl ?d1 ?d2 ?d3 ?d4 ?d5 ?_)
            try (case d1 => exact new_cells W2 [.int .i8 2] 25)
            case d2 => simp [Value.oneCell']
            case d3 => unfold maxLen; omega
            case d4 => omega
            case d5 => have := H2.out.2.2; first | omega | (rw [World.size_alloc]; omega)
            intro v3 w3 o3 g6 _ _
            obtain ⟨A3, c3, hv3, _, _⟩ := own_shape o3
            subst hv3
            have H5 := Lib.hid (show WhS W1 Q1 C (i + 1) c3 _ A3 w3 from ⟨HT.out.2, by rw [← HT.out.1]; exact o3, (H2.out.2.1.alloc H2.out.2.2 _).grown g6 (by rw [World.size_alloc]; have := H2.out.2.2; omega) (fun q hq => (H2.out.1.lt q hq).1)⟩)
            clear o3 g6 H2
            go_wp2_with fail
            go_roundw
            case rel => exact ⟨i + 1, c3, _, A3, _, rfl, rfl, rfl, by first | rfl | go_num, hlt, H5⟩
            case measure => simp [RowKit.intOf]; omega
          · go_wp2_with (at_builtin; refine wpList_append_own_at _ rfl _ _ 22 rfl Q1 25 i0 _ 1 1 Tryd.underlying22 hi hz0 hz1 hz2 rfl (by decide) _ _ _ rfl (H2.out.1.alloc _) ⟨W2.heap.size, 0, none⟩ 1 1 [.int .i8 0] rfl rfl ?d1 ?d2 ?d3 ?d4 ?d5 ?_)
            try (case d1 => exact new_cells W2 [.int .i8 0] 25)
            case d2 => simp [Value.oneCell']
            case d3 => unfold maxLen; omega
            case d4 => omega
            case d5 => have := H2.out.2.2; first | omega | (rw [World.size_alloc]; omega)
            intro v3 w3 o3 g6 _ _
            obtain ⟨A3, c3, hv3, _, _⟩ := own_shape o3
            subst hv3
            have H5 := Lib.hid (show WhS W1 Q1 C (i + 1) c3 _ A3 w3 from ⟨HT.out.2, by rw [← HT.out.1]; exact o3, (H2.out.2.1.alloc H2.out.2.2 _).grown g6 (by rw [World.size_alloc]; have := H2.out.2.2; omega) (fun q hq => (H2.out.1.lt q hq).1)⟩)
            clear o3 g6 H2
            go_wp2_with fail
            go_roundw
            case rel => exact ⟨i + 1, c3, _, A3, _, rfl, rfl, rfl, by first | rfl | go_num, hlt, H5⟩
            case measure => simp [RowKit.intOf]; omega
    · obtain rfl : i = N := by omega
      have hnn : ¬ (i : Int) < (i : Int) := by omega
      have HE := Lib.hid (show W.ownsRow B 25 1 (.slice A' i c') i (whV (whereN s)) ∧ Below B w W from by
        have h2 := HI.out.ow
        have h3 : (whereF (-1) C).take i = whereN s := by rw [HWn.out]; exact List.take_of_length_le (by rw [HN.out.2.2]; exact Nat.le_refl _)
        rw [h3] at h2
        exact ⟨own_base h2 HB1.out.1, HB1.out.2.trans (HI.out.be.mono HB1.out.1)⟩)
      clear hge hin HI
      go_wp2_with fail
      go_ret
      exact ⟨A', c', rfl, HE.out.1, HE.out.2⟩
end Go.Proofs.YthkapcnhfdpdbaaDoor

/- Layer 13, the document: Lines. (Made by tools/mklines13.py.) -/
namespace Go.Proofs.YthkapcnhfdpdbaaDoor
open Go.RowKit Go.Lib

theorem rpart_info : (Tryd.prog.info? 35).map (fun i => (i.zero, i.size, i.bytes)) = some (some (.agg #[.int .i64 0, .string ByteArray.empty]), 2, 24) := by kernel_rfl
theorem linesF_len (s : ByteArray) : ∀ (t : List (Nat × ByteArray)) (f : Nat), (linesF s f t).length ≤ 2 * t.length + 1
  | [], f => by simp [linesF]
  | x :: t, f => by
    have h1 := linesF_len s t (x.1 + x.2.size)
    have h2 := linesF_len s t x.1
    have h3 := linesF_len s t f
    rw [linesF]
    split <;> split <;> simp only [List.length_cons] <;> omega
theorem drop_consL {L : List (Nat × ByteArray)} {i : Nat} {x : Nat × ByteArray} (h : L[i]? = some x) : L.drop i = x :: L.drop (i + 1) := by
  obtain ⟨hi, e⟩ := List.getElem?_eq_some_iff.1 h
  rw [List.drop_eq_getElem_cons hi, e]
structure LiS (s : ByteArray) (w1 : World) (Q : Nat) (i k c f : Nat) (X : List (Nat × ByteArray)) (A : Option Addr) (W : World) : Prop where
  eq : X ++ linesF s f ((pcs s).drop i) = linesN s
  kl : X.length = k
  fl : f ≤ sumB ((pcs s).take i)
  ow : W.ownsRow Q 35 2 (.slice A k c) k (pcCells X)
  be : Below Q w1 W
set_option maxRecDepth 100000 in
set_option maxHeartbeats 4000000 in
theorem rlines13_any (s : ByteArray) (w : World) (hs : s.size ≤ 536870912) : Calls Tryd.prog 11 #[.string s] w fun e w' =>
    ∃ A c, e = .returned (.slice A (linesN s).length c) ∧ w'.ownsRow w.heap.size 35 2 (.slice A (linesN s).length c) (linesN s).length (pcCells (linesN s)) ∧ Below w.heap.size w w' := by
  obtain ⟨i0, hi, hz0, hz1, hz2⟩ := info_parts rpart_info
  have hpl := pcs_len s
  have HA := Lib.hid (rall_any s w (by omega))
  have HWh := Lib.hid (fun W => rwhere13_any s W (by omega))
  have hwl : (whereN s).length = (pcs s).length := by unfold whereN; rw [whereF_len, List.length_map]
  have HMu := Lib.hid (show ∀ (i : Nat) (x : Nat × ByteArray), (pcs s)[i]? = some x → ∃ v, (whereN s)[i]? = some v ∧ (v = 2 ↔ brkN x.2 = 2) from fun i x hx => by
    have hi := (List.getElem?_eq_some_iff.1 hx).1
    obtain ⟨v, hv⟩ : ∃ v, (whereN s)[i]? = some v := ⟨_, List.getElem?_eq_getElem (by omega)⟩
    refine ⟨v, hv, ?_⟩
    have h := whereF_must ((pcs s).map fun x => brkN x.2) (-1) i
    rw [List.getElem?_map, hx] at h
    have hv' : (whereF (-1) ((pcs s).map fun x => brkN x.2))[i]? = some v := hv
    rw [hv'] at h
    simpa using h)
  have HCh := Lib.hid (show ∀ (i : Nat) (x : Nat × ByteArray), (pcs s)[i]? = some x → x.1 = sumB ((pcs s).take i) ∧ x.1 + x.2.size ≤ s.size ∧ sumB ((pcs s).take (i + 1)) = x.1 + x.2.size from fun i x hx => by
    have hc := pcs_chain s i x hx
    exact ⟨hc.1, hc.2.2, by rw [take_snoc _ _ _ hx, sumB_snoc, ← hc.1]⟩)
  have HLe := Lib.hid (show (linesN s).length ≤ 2 * (pcs s).length + 1 from linesF_len s _ _)
  have HSz := Lib.hid (show ∀ i, sumB ((pcs s).take i) ≤ s.size from fun i => by
    have h1 := pcs_sum s
    have h2 : sumB (pcs s) = sumB ((pcs s).take i) + sumB ((pcs s).drop i) := by rw [← sumB_append, List.take_append_drop]
    omega)
  obtain ⟨N, hN⟩ : ∃ N, (pcs s).length = N := ⟨_, rfl⟩
  rw [hN] at HA hpl hwl HLe
  have HN := Lib.hid (And.intro hN hwl)
  rw [hwl] at HWh
  obtain ⟨B, hB⟩ : ∃ B, w.heap.size = B := ⟨_, rfl⟩
  have HBe := Lib.hid hB
  rw [hB]
  clear hN hB hwl
  go_enter Tryd.func11, Tryd.ntmps11
  go_wp2_with fail
  refine HA.out.mono ?_
  rintro _ W0 ⟨A, c, rfl, o0, b0⟩
  have H0 := Lib.hid (show RdP W0 W0.heap.size A (pcs s) ∧ Below B w W0 from ⟨by have := Rd.own o0; rw [← HN.out.1] at this; exact this, by rw [← HBe.out]; exact b0⟩)
  clear o0 b0 HA
  go_wp2_with fail
  refine (HWh.out _).mono ?_
  rintro _ W1 ⟨Aw, cw, rfl, o1, b1⟩
  obtain ⟨Q1, hQ1⟩ : ∃ Q1, W1.heap.size = Q1 := ⟨_, rfl⟩
  have HB1 := Lib.hid (show B ≤ Q1 ∧ Below B w W1 from by
    have h1 := H0.out.2.size
    have h2 := b1.size
    have h3 := HBe.out
    exact ⟨by omega, H0.out.2.trans (b1.mono (by omega))⟩)
  have HR := Lib.hid (show ∀ W, Below Q1 W1 W → RdP W Q1 A (pcs s) ∧ (∀ (j v : Nat), (whereN s)[j]? = some v → ∃ a, Aw = some a ∧ W.cell? (a.add j) = some (.int .i8 (v : Int))) from fun W h => by
    have h1 := H0.out.1.below b1
    have h2 : RdP W1 Q1 A (pcs s) := Rd.more h1 (by have := b1.size; omega)
    have h3 : Rd W1 Q1 1 Aw N (whV (whereN s)) := by rw [← hQ1]; exact Rd.own o1
    have h4 := Rd.below h3 h
    refine ⟨h2.below h, fun j v hv => ?_⟩
    have hj := (List.getElem?_eq_some_iff.1 hv).1
    obtain ⟨a, e, _, hc⟩ := Rd.addr h4 (by have := HN.out.2; omega)
    exact ⟨a, e, hc j _ (by unfold whV; rw [List.getElem?_map, hv]; rfl)⟩)
  have HQ1 := Lib.hid hQ1
  have HI0 := Lib.hid (show LiS s W1 Q1 0 0 0 0 [] none W1 from ⟨rfl, rfl, Nat.zero_le _, World.ownsRow_nil _ _ _ _, Below.refl _ _⟩)
  clear o1 b1 hQ1 H0 HWh
  go_wp2_with fail
  go_loopw [5, 6, 7] (fun y z x wr => ∃ (i k c' f : Nat) (X : List (Nat × ByteArray)) (A' : Option Addr) (W : World), W = wr ∧ y = .slice A' k c' ∧ z = .int .i64 (f : Int) ∧ x = .int .i64 (i : Int) ∧ i ≤ N ∧ k ≤ 2 * i ∧ Hid (LiS s W1 Q1 i k c' f X A' W)) (fun _ _ x _ => N - (RowKit.intOf x).toNat)
  case atStart => exact ⟨0, 0, 0, 0, [], none, _, rfl, rfl, rfl, rfl, Nat.zero_le _, Nat.le_refl _, HI0⟩
  case round =>
    clear HI0
    obtain ⟨i, k, c', f, X, A', W, hW, rfl, rfl, rfl, hin, hki, HI⟩ := hrel
    subst hW
    have hQW : Q1 ≤ W.heap.size := by have := HI.out.be.size; have := HQ1.out; omega
    rcases Nat.lt_or_ge i N with hlt | hge
    · obtain ⟨x, hx⟩ : ∃ x, (pcs s)[i]? = some x := ⟨_, List.getElem?_eq_getElem (by rw [HN.out.1]; omega)⟩
      obtain ⟨v, hv, hv2⟩ := HMu.out i x hx
      obtain ⟨hc1, hc2, hc3⟩ := HCh.out i x hx
      have hfl := HI.out.fl
      rw [← hc1] at hfl
      obtain ⟨p, y⟩ := x
      dsimp only at hfl hv2 hc1 hc2 hc3
      obtain ⟨e, he⟩ : ∃ e, p + y.size = e := ⟨_, rfl⟩
      rw [he] at hc2 hc3
      have HRc := Lib.hid (show ∃ a aw, A = some a ∧ Aw = some aw ∧ ∀ V, Below Q1 W1 V → V.cell? (a.add (i * 2)) = some (.int .i64 (p : Int)) ∧ V.cell? ⟨(a.add (i * 2)).block, (a.add (i * 2)).off + 1, none⟩ = some (.string y) ∧ V.cell? (aw.add i) = some (.int .i8 (v : Int)) from by
        obtain ⟨a, hA, _, _, _⟩ := (HR.out W HI.out.be).1.at_ hx
        obtain ⟨aw, hAw, _⟩ := (HR.out W HI.out.be).2 i v hv
        refine ⟨a, aw, hA, hAw, fun V h => ?_⟩
        obtain ⟨a', e1, _, h1, h2⟩ := (HR.out V h).1.at_ hx
        obtain ⟨aw', e2, h3⟩ := (HR.out V h).2 i v hv
        rw [hA] at e1
        rw [hAw] at e2
        obtain rfl := Option.some.inj e1
        obtain rfl := Option.some.inj e2
        rw [add_next] at h2
        exact ⟨h1, h2, h3⟩)
      obtain ⟨a, aw, rfl, rfl, _⟩ := HRc.out
      have HRc := Lib.hid (show ∀ V, Below Q1 W1 V → V.cell? (a.add (i * 2)) = some (.int .i64 (p : Int)) ∧ V.cell? ⟨(a.add (i * 2)).block, (a.add (i * 2)).off + 1, none⟩ = some (.string y) ∧ V.cell? (aw.add i) = some (.int .i8 (v : Int)) from fun V h => by
        obtain ⟨a1, aw1, e1, e2, h1⟩ := HRc.out
        obtain rfl := Option.some.inj e1
        obtain rfl := Option.some.inj e2
        exact h1 V h)
      obtain ⟨g1, g2, g3⟩ := HRc.out W.drew (below_DW HI.out.be)
      have hini : (i : Int) < (N : Int) := by omega
      have hnext : IntKind.i64.wrap ((i : Int) + 1) = (i : Int) + 1 := IntWalk.i64_in _ (by omega)
      have hwe : IntKind.i64.wrap ((p : Int) + (y.size : Int)) = (e : Int) := by rw [IntWalk.i64_in _ (by omega)]; omega
      have hws : IntKind.i64.wrap ((e : Int) - (f : Int)) = (e : Int) - (f : Int) := IntWalk.i64_in _ (by omega)
      have hlF : linesF s f ((pcs s).drop i) = (if 65536 < e - f then (f, s.extract f p) :: (if brkN y = 2 then (p, s.extract p e) :: linesF s e ((pcs s).drop (i + 1)) else linesF s p ((pcs s).drop (i + 1)))
          else (if brkN y = 2 then (f, s.extract f e) :: linesF s e ((pcs s).drop (i + 1)) else linesF s f ((pcs s).drop (i + 1)))) := by
        rw [drop_consL hx, linesF]
        simp only [he]
      have heq := HI.out.eq
      rw [hlF] at heq
      have hXk := HI.out.kl
      have HO := Lib.hid (show W.drew.ownsRow Q1 35 2 (.slice A' k c') k (pcCells X) ∧ Below Q1 W1 W.drew ∧ Q1 ≤ W.drew.heap.size from ⟨HI.out.ow, below_DW HI.out.be, hQW⟩)
      have hpe : p ≤ e := by omega
      have hf0 : (0 : Int) ≤ (f : Int) := by omega
      have hp0 : (0 : Int) ≤ (p : Int) := by omega
      have hfp : (f : Int) ≤ (p : Int) := by omega
      have hfe : (f : Int) ≤ (e : Int) := by omega
      have hpei : (p : Int) ≤ (e : Int) := by omega
      have hes : (e : Int) ≤ (s.size : Int) := by omega
      have hps : (p : Int) ≤ (s.size : Int) := by omega
      replace hXk := Lib.hid hXk
      replace hc3 := Lib.hid hc3
      replace hc1 := Lib.hid hc1
      clear hx hv HI hlF hfl hQW he
      obtain ⟨V0, hV0⟩ : ∃ V0, W.drew = V0 := ⟨_, rfl⟩
      by_cases hbig : 65536 < e - f
      · rw [if_pos hbig] at heq
        have hbi : (65536 : Int) < (e : Int) - (f : Int) := by omega
        by_cases hmu : brkN y = 2
        · rw [if_pos hmu] at heq
          have hvv : ((v : Int) == 2) = true := by have := hv2.2 hmu; simp [this]
          clear hbig hmu hv2
          rw [hV0] at HO g1 g2 g3
          go_wp2_with fail
          go_region
          try rw [hV0]
          clear hV0
          go_wp2_with (at_builtin; refine wpList_append_own_at _ rfl _ _ 28 rfl Q1 35 i0 _ 2 24 Tryd.underlying28 hi hz0 hz1 hz2 rfl (by decide) _ _ _ rfl (HO.out.1.alloc _) ⟨V0.heap.size, 0, none⟩ 1 1 [.int .i64 (f : Int), .string (s.extract f p)] rfl rfl ?d1 ?d2 ?d3 ?d4 ?d5 ?_)
          try (case d1 => exact new_cells V0 [.int .i64 (f : Int), .string (s.extract f p)] 35)
          case d2 => simp [Value.oneCell']
          case d3 => unfold maxLen; omega
          case d4 => omega
          case d5 => have := HO.out.2.2; first | omega | (rw [World.size_alloc]; omega)
          intro v3 w3 o3 q3 _ _
          obtain ⟨A3, c3, hv3, _, _⟩ := own_shape o3
          subst hv3
          have H3 := Lib.hid (show w3.ownsRow Q1 35 2 (.slice A3 (k + 1) c3) (k + 1) (pcCells (X ++ [(f, s.extract f p)])) ∧ Below Q1 W1 w3 ∧ Q1 ≤ w3.heap.size from ⟨by first | (rw [pcCells_snoc]; exact o3) | (simpa [pcCells] using o3), (HO.out.2.1.alloc HO.out.2.2 _).grown q3 (by rw [World.size_alloc]; have := HO.out.2.2; omega) (fun q hq => (HO.out.1.lt q hq).1), by have h5 := q3.size; rw [World.size_alloc] at h5; have := HO.out.2.2; omega⟩)
          have cells3 := HRc.out w3 H3.out.2.1
          obtain ⟨y1_3, y2_3, y3_3⟩ := cells3
          clear o3 q3 HO
          go_wp2_with (at_builtin; refine wpList_append_own_at _ rfl _ _ 28 rfl Q1 35 i0 _ 2 24 Tryd.underlying28 hi hz0 hz1 hz2 rfl (by decide) _ _ _ rfl (H3.out.1.alloc _) ⟨w3.heap.size, 0, none⟩ 1 1 [.int .i64 (p : Int), .string (s.extract p e)] rfl rfl ?d1 ?d2 ?d3 ?d4 ?d5 ?_)
          try (case d1 => exact new_cells w3 [.int .i64 (p : Int), .string (s.extract p e)] 35)
          case d2 => simp [Value.oneCell']
          case d3 => unfold maxLen; omega
          case d4 => omega
          case d5 => have := H3.out.2.2; first | omega | (rw [World.size_alloc]; omega)
          intro v4 w4 o4 q4 _ _
          obtain ⟨A4, c4, hv4, _, _⟩ := own_shape o4
          subst hv4
          have H4 := Lib.hid (show w4.ownsRow Q1 35 2 (.slice A4 (k + 1 + 1) c4) (k + 1 + 1) (pcCells ((X ++ [(f, s.extract f p)]) ++ [(p, s.extract p e)])) ∧ Below Q1 W1 w4 ∧ Q1 ≤ w4.heap.size from ⟨by first | (rw [pcCells_snoc]; exact o4) | (simpa [pcCells] using o4), (H3.out.2.1.alloc H3.out.2.2 _).grown q4 (by rw [World.size_alloc]; have := H3.out.2.2; omega) (fun q hq => (H3.out.1.lt q hq).1), by have h5 := q4.size; rw [World.size_alloc] at h5; have := H3.out.2.2; omega⟩)
          have cells4 := HRc.out w4 H4.out.2.1
          obtain ⟨y1_4, y2_4, y3_4⟩ := cells4
          clear o4 q4 H3
          have HN2 := Lib.hid (show LiS s W1 Q1 (i + 1) (k + 1 + 1) c4 e ((X ++ [(f, s.extract f p)]) ++ [(p, s.extract p e)]) A4 w4 from ⟨by first | exact heq | (rw [← heq]; simp), by first | exact hXk.out | simp [hXk.out], by rw [hc3.out]; exact Nat.le_refl _, H4.out.1, H4.out.2.1⟩)
          clear H4 heq
          go_wp2_with fail
          go_roundw
          case rel => exact ⟨i + 1, k + 1 + 1, c4, e, ((X ++ [(f, s.extract f p)]) ++ [(p, s.extract p e)]), A4, _, rfl, rfl, rfl, by first | rfl | go_num, hlt, by omega, HN2⟩
          case measure => simp [RowKit.intOf]; omega
        · rw [if_neg hmu] at heq
          have hvv : ((v : Int) == 2) = false := by have : v ≠ 2 := fun h => hmu (hv2.1 h); rw [show (2 : Int) = ((2 : Nat) : Int) from rfl, intEq]; simp [this]
          clear hbig hmu hv2
          rw [hV0] at HO g1 g2 g3
          go_wp2_with fail
          go_region
          try rw [hV0]
          clear hV0
          go_wp2_with (at_builtin; refine wpList_append_own_at _ rfl _ _ 28 rfl Q1 35 i0 _ 2 24 Tryd.underlying28 hi hz0 hz1 hz2 rfl (by decide) _ _ _ rfl (HO.out.1.alloc _) ⟨V0.heap.size, 0, none⟩ 1 1 [.int .i64 (f : Int), .string (s.extract f p)] rfl rfl ?d1 ?d2 ?d3 ?d4 ?d5 ?_)
          try (case d1 => exact new_cells V0 [.int .i64 (f : Int), .string (s.extract f p)] 35)
          case d2 => simp [Value.oneCell']
          case d3 => unfold maxLen; omega
          case d4 => omega
          case d5 => have := HO.out.2.2; first | omega | (rw [World.size_alloc]; omega)
          intro v3 w3 o3 q3 _ _
          obtain ⟨A3, c3, hv3, _, _⟩ := own_shape o3
          subst hv3
          have H3 := Lib.hid (show w3.ownsRow Q1 35 2 (.slice A3 (k + 1) c3) (k + 1) (pcCells (X ++ [(f, s.extract f p)])) ∧ Below Q1 W1 w3 ∧ Q1 ≤ w3.heap.size from ⟨by first | (rw [pcCells_snoc]; exact o3) | (simpa [pcCells] using o3), (HO.out.2.1.alloc HO.out.2.2 _).grown q3 (by rw [World.size_alloc]; have := HO.out.2.2; omega) (fun q hq => (HO.out.1.lt q hq).1), by have h5 := q3.size; rw [World.size_alloc] at h5; have := HO.out.2.2; omega⟩)
          have cells3 := HRc.out w3 H3.out.2.1
          obtain ⟨y1_3, y2_3, y3_3⟩ := cells3
          clear o3 q3 HO
          have HN2 := Lib.hid (show LiS s W1 Q1 (i + 1) (k + 1) c3 p (X ++ [(f, s.extract f p)]) A3 w3 from ⟨by first | exact heq | (rw [← heq]; simp), by first | exact hXk.out | simp [hXk.out], by rw [hc3.out]; omega, H3.out.1, H3.out.2.1⟩)
          clear H3 heq
          go_wp2_with fail
          go_roundw
          case rel => exact ⟨i + 1, k + 1, c3, p, (X ++ [(f, s.extract f p)]), A3, _, rfl, rfl, rfl, by first | rfl | go_num, hlt, by omega, HN2⟩
          case measure => simp [RowKit.intOf]; omega
      · rw [if_neg hbig] at heq
        have hbi : ¬ (65536 : Int) < (e : Int) - (f : Int) := by omega
        by_cases hmu : brkN y = 2
        · rw [if_pos hmu] at heq
          have hvv : ((v : Int) == 2) = true := by have := hv2.2 hmu; simp [this]
          clear hbig hmu hv2
          rw [hV0] at HO g1 g2 g3
          go_wp2_with fail
          go_region
          try rw [hV0]
          clear hV0
          go_wp2_with (at_builtin; refine wpList_append_own_at _ rfl _ _ 28 rfl Q1 35 i0 _ 2 24 Tryd.underlying28 hi hz0 hz1 hz2 rfl (by decide) _ _ _ rfl (HO.out.1.alloc _) ⟨V0.heap.size, 0, none⟩ 1 1 [.int .i64 (f : Int), .string (s.extract f e)] rfl rfl ?d1 ?d2 ?d3 ?d4 ?d5 ?_)
          try (case d1 => exact new_cells V0 [.int .i64 (f : Int), .string (s.extract f e)] 35)
          case d2 => simp [Value.oneCell']
          case d3 => unfold maxLen; omega
          case d4 => omega
          case d5 => have := HO.out.2.2; first | omega | (rw [World.size_alloc]; omega)
          intro v3 w3 o3 q3 _ _
          obtain ⟨A3, c3, hv3, _, _⟩ := own_shape o3
          subst hv3
          have H3 := Lib.hid (show w3.ownsRow Q1 35 2 (.slice A3 (k + 1) c3) (k + 1) (pcCells (X ++ [(f, s.extract f e)])) ∧ Below Q1 W1 w3 ∧ Q1 ≤ w3.heap.size from ⟨by first | (rw [pcCells_snoc]; exact o3) | (simpa [pcCells] using o3), (HO.out.2.1.alloc HO.out.2.2 _).grown q3 (by rw [World.size_alloc]; have := HO.out.2.2; omega) (fun q hq => (HO.out.1.lt q hq).1), by have h5 := q3.size; rw [World.size_alloc] at h5; have := HO.out.2.2; omega⟩)
          have cells3 := HRc.out w3 H3.out.2.1
          obtain ⟨y1_3, y2_3, y3_3⟩ := cells3
          clear o3 q3 HO
          have HN2 := Lib.hid (show LiS s W1 Q1 (i + 1) (k + 1) c3 e (X ++ [(f, s.extract f e)]) A3 w3 from ⟨by first | exact heq | (rw [← heq]; simp), by first | exact hXk.out | simp [hXk.out], by rw [hc3.out]; exact Nat.le_refl _, H3.out.1, H3.out.2.1⟩)
          clear H3 heq
          go_wp2_with fail
          go_roundw
          case rel => exact ⟨i + 1, k + 1, c3, e, (X ++ [(f, s.extract f e)]), A3, _, rfl, rfl, rfl, by first | rfl | go_num, hlt, by omega, HN2⟩
          case measure => simp [RowKit.intOf]; omega
        · rw [if_neg hmu] at heq
          have hvv : ((v : Int) == 2) = false := by have : v ≠ 2 := fun h => hmu (hv2.1 h); rw [show (2 : Int) = ((2 : Nat) : Int) from rfl, intEq]; simp [this]
          clear hbig hmu hv2
          rw [hV0] at HO g1 g2 g3
          go_wp2_with fail
          go_region
          try rw [hV0]
          clear hV0
          have HN2 := Lib.hid (show LiS s W1 Q1 (i + 1) (k) c' f X A' V0 from ⟨by first | exact heq | (rw [← heq]; simp), by first | exact hXk.out | simp [hXk.out], by rw [hc3.out]; omega, HO.out.1, HO.out.2.1⟩)
          clear HO heq
          go_wp2_with fail
          go_roundw
          case rel => exact ⟨i + 1, k, c', f, X, A', _, rfl, rfl, rfl, by first | rfl | go_num, hlt, by omega, HN2⟩
          case measure => simp [RowKit.intOf]; omega
    · obtain rfl : i = N := by omega
      have hnn : ¬ (i : Int) < (i : Int) := by omega
      have heq := HI.out.eq
      have hdn : (pcs s).drop i = [] := List.drop_eq_nil_of_le (by rw [HN.out.1]; exact Nat.le_refl _)
      rw [hdn, linesF] at heq
      have hfs : f ≤ s.size := Nat.le_trans HI.out.fl (HSz.out i)
      have hfsi : (f : Int) ≤ (s.size : Int) := by omega
      have hf0 : (0 : Int) ≤ (f : Int) := by omega
      have HT := Lib.hid (show pcCells X ++ [.int .i64 (f : Int), .string (s.extract f s.size)] = pcCells (linesN s) ∧ (linesN s).length = k + 1 from ⟨by rw [← heq, pcCells_snoc], by rw [← heq, List.length_append, HI.out.kl]; rfl⟩)
      have HO := Lib.hid (show W.ownsRow Q1 35 2 (.slice A' k c') k (pcCells X) ∧ Below Q1 W1 W ∧ Q1 ≤ W.heap.size from ⟨HI.out.ow, HI.out.be, hQW⟩)
      clear HI hge hin heq hdn hfs
      go_wp2_with (at_builtin; refine wpList_append_own_at _ rfl _ _ 28 rfl Q1 35 i0 _ 2 24 Tryd.underlying28 hi hz0 hz1 hz2 rfl (by decide) _ _ _ rfl (HO.out.1.alloc _) ⟨W.heap.size, 0, none⟩ 1 1 [.int .i64 (f : Int), .string (s.extract f s.size)] rfl rfl ?d1 ?d2 ?d3 ?d4 ?d5 ?_)
      try (case d1 => exact new_cells W [.int .i64 (f : Int), .string (s.extract f s.size)] 35)
      case d2 => simp [Value.oneCell']
      case d3 => unfold maxLen; omega
      case d4 => omega
      case d5 => have := HO.out.2.2; first | omega | (rw [World.size_alloc]; omega)
      intro v3 w3 o3 g4 _ _
      obtain ⟨A3, c3, hv3, _, _⟩ := own_shape o3
      subst hv3
      have HE := Lib.hid (show w3.ownsRow B 35 2 (.slice A3 (k + 1) c3) (k + 1) (pcCells (linesN s)) ∧ Below B w w3 from ⟨by rw [← HT.out.1]; exact own_base o3 HB1.out.1, HB1.out.2.trans (((HO.out.2.1.alloc HO.out.2.2 _).grown g4 (by rw [World.size_alloc]; have := HO.out.2.2; omega) (fun q hq => (HO.out.1.lt q hq).1)).mono HB1.out.1)⟩)
      clear o3 g4 HO
      go_wp2_with fail
      go_ret
      rw [HT.out.2]
      exact ⟨A3, c3, rfl, HE.out.1, HE.out.2⟩
end Go.Proofs.YthkapcnhfdpdbaaDoor
