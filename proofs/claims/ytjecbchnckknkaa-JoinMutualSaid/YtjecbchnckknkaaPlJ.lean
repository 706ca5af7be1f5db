/- Layer 11, the document: Plain. -/
import Derived.Test.YtjecbchnckknkaaShJ
set_option linter.unusedSimpArgs false
set_option linter.unusedVariables false
namespace Go.Proofs.Ytjecbchnckknkaa
open Go.RowKit Go.Lib

/-- a new row, written out -/
theorem own_newJ (w : World) (xs : List Int) (hn : xs.length ≤ maxLen) : (w.alloc (.cells (i32j xs).toArray 21)).ownsRow w.heap.size 21 1 (.slice (some ⟨w.heap.size, 0, none⟩) xs.length xs.length) xs.length (i32j xs) :=
  ⟨by simp, .inr ⟨w.heap.size, xs.length, (i32j xs).toArray, rfl, Nat.le_refl _, heap_alloc_new w _, Nat.le_refl _, hn, by simp, by rw [Nat.mul_one]; exact List.take_of_length_le (by simp)⟩⟩
def anyJ (r x : Int) : Bool := shapeJ x 0 == r || shapeJ x 1 == r || shapeJ x 2 == r || shapeJ x 3 == r
/-- what is left to be sought -/
def plFrom (r : Int) (l : List (Int × Int)) : List Int :=
  match l.find? (fun e => anyJ r e.1) with
  | some e => [e.1]
  | none => [r]
theorem plFrom_cons (r x y : Int) (l : List (Int × Int)) : plFrom r ((x, y) :: l) = if anyJ r x = true then [x] else plFrom r l := by
  unfold plFrom
  by_cases h : anyJ r x = true
  · rw [if_pos h, List.find?_cons_of_pos (p := fun e : Int × Int => anyJ r e.1) h]
  · rw [if_neg h, List.find?_cons_of_neg (p := fun e : Int × Int => anyJ r e.1) h]
theorem plainJ_from (r : Int) (h : ¬ (0xfef5 ≤ r ∧ r ≤ 0xfefc)) : plainJ r = plFrom r tabJ := by
  unfold plainJ; rw [if_neg h]; rfl
/-- what is handed back -/
def PlR (w : World) (xs : List Int) (e : Ending) (w' : World) : Prop :=
  ∃ Q A' c', w.heap.size ≤ Q ∧ e = .returned (.slice A' xs.length c') ∧ w'.ownsRow Q 21 1 (.slice A' xs.length c') xs.length (i32j xs) ∧ Below w.heap.size w w'
/-- what holds while it is sought -/
structure PlS (w : World) (B : Nat) (W : World) : Prop where
  le : w.heap.size ≤ B
  lt : B < W.heap.size
  be : Below w.heap.size w W
  la : LetAt B W
theorem PlS.on {w : World} {B : Nat} {W W' : World} (h : PlS w B W) (hb : Below W.heap.size W W') : PlS w B W' :=
  ⟨h.le, Nat.lt_of_lt_of_le h.lt hb.size, h.be.trans (hb.mono (Nat.le_trans h.le (Nat.le_of_lt h.lt))), h.la.keep h.lt hb⟩
theorem PlS.out1 {w : World} {B : Nat} {W : World} (h : PlS w B W) (x : Int) : PlR w [x] (.returned (.slice (some ⟨W.heap.size, 0, none⟩) 1 1)) (W.alloc (.cells #[.int .i32 x] 21)) :=
  ⟨W.heap.size, _, _, Nat.le_trans h.le (Nat.le_of_lt h.lt), rfl, own_newJ W [x] (by unfold maxLen; simp only [List.length_cons, List.length_nil]; decide), h.be.alloc (Nat.le_trans h.le (Nat.le_of_lt h.lt)) _⟩
theorem ligs {w : World} (x : Int) (c : Obj) : PlR w [0x644, x] (.returned (.slice (some ⟨w.heap.size + 1, 0, none⟩) 2 2)) ((w.alloc c).alloc (.cells #[.int .i32 0x644, .int .i32 x] 21)) := by
  have hs := World.size_alloc w c
  have := own_newJ (w.alloc c) [0x644, x] (by unfold maxLen; simp only [List.length_cons, List.length_nil]; decide)
  rw [hs] at this
  exact ⟨w.heap.size + 1, _, _, Nat.le_succ _, rfl, this, ((Below.refl _ w).alloc (Nat.le_refl _) c).alloc (by rw [hs]; exact Nat.le_succ _) _⟩
set_option maxRecDepth 100000 in
set_option maxHeartbeats 4000000 in
theorem rplain_any (r : Int) (w : World) : Calls Try.prog 21 #[.int .i32 r] w (PlR w (plainJ r)) := by
  by_cases hl : 0xfef5 ≤ r ∧ r ≤ 0xfefc
  · have hc : r = 65269 ∨ r = 65270 ∨ r = 65271 ∨ r = 65272 ∨ r = 65273 ∨ r = 65274 ∨ r = 65275 ∨ r = 65276 := by omega
    clear hl
    rcases hc with rfl | rfl | rfl | rfl | rfl | rfl | rfl | rfl
    all_goals
      go_enter Try.func21, Try.ntmps21
      go_wp2_with fail
      go_ret
      exact ligs _ _
  obtain ⟨R, hR⟩ : ∃ R, plainJ r = R := ⟨_, rfl⟩
  have H0 := Lib.hid (show plFrom r (tabJ.drop 0) = R from by rw [← hR, plainJ_from r hl]; rfl)
  rw [hR]
  clear hR
  obtain ⟨B, hB⟩ : ∃ B, w.heap.size = B := ⟨_, rfl⟩
  have HL := Lib.hid (letters_anyJ w)
  rw [hB] at HL
  have HB := Lib.hid hB
  clear hB
  have hcut : r < 65269 ∨ 65276 < r := by omega
  clear hl
  go_enter Try.func21, Try.ntmps21
  rcases hcut with hlo | hhi
  · have hlo' : ¬ (65269 : Int) ≤ r := by omega
    go_wp2_with fail
    refine HL.out.mono ?_
    rintro _ W ⟨rfl, hbe, hsz, hla⟩
    have HI := Lib.hid (show PlS w B W from ⟨by rw [HB.out]; exact Nat.le_refl _, by omega, by rw [HB.out]; exact hbe, hla⟩)
    clear hbe hsz hla HL
    go_wp2_with fail
    go_loopw [4] (fun x wr => ∃ (m : Nat) (W : World), W = wr ∧ m ≤ 36 ∧ x = .int .i64 (m : Int) ∧ Hid (PlS w B W) ∧ Hid (plFrom r (tabJ.drop m) = R)) (fun x _ => 36 - (RowKit.intOf x).toNat)
    case atStart => exact ⟨0, _, rfl, by omega, rfl, HI, H0⟩
    case round =>
      obtain ⟨m, W, hw, hm, rfl, HI, HQ⟩ := hrel
      subst hw
      rcases Nat.lt_or_ge m 36 with hlt | hge
      · have hlt' : m < tabJ.length := hlt
        obtain ⟨⟨x, y⟩, hxy⟩ : ∃ e, tabJ[m]? = some e := ⟨_, List.getElem?_eq_getElem hlt'⟩
        have hd : tabJ.drop m = (x, y) :: tabJ.drop (m + 1) := by
          have h1 := List.drop_eq_getElem_cons (l := tabJ) (i := m) hlt'
          rw [h1, (List.getElem?_eq_some_iff.1 hxy).2]
        have HX := Lib.hid (show ∀ W', LetAt B W' → W'.cell? ⟨B, m * 2, none⟩ = some (.int .i32 x) from fun W' h => by rw [Nat.mul_comm]; exact (h m x y hxy).1)
        have hq := HQ.out
        rw [hd, plFrom_cons] at hq
        have HQ2 := Lib.hid hq
        have hmi : (m : Int) < 36 := by omega
        have hnext : IntKind.i64.wrap ((m : Int) + 1) = (m : Int) + 1 := IntWalk.i64_in _ (by omega)
        clear hd hq hxy hlt' HQ H0
        go_wp2_with fail
        go_loopw [5] (fun x1 wr => ∃ (f : Nat) (W : World), W = wr ∧ f ≤ 4 ∧ x1 = .int .i8 (f : Int) ∧ Hid (PlS w B W) ∧ Hid (∀ g : Nat, g < f → (shapeJ x g == r) = false)) (fun x1 _ => 4 - (RowKit.intOf x1).toNat)
        case atStart => exact ⟨0, _, rfl, by omega, rfl, HI, Lib.hid fun g hg => absurd hg (by omega)⟩
        case round =>
          obtain ⟨f, W, hw, hf, rfl, HI, HF⟩ := hrel
          subst hw
          rcases Nat.lt_or_ge f 4 with hlf | hgf
          · have hcx := HX.out W HI.out.la
            have hfi : (f : Int) < 4 := by omega
            have hfn : IntKind.i8.wrap ((f : Int) + 1) = (f : Int) + 1 := IntWalk.i8_in _ (by omega)
            have HC := Lib.hid (rshape_any x (f : Int) W)
            obtain ⟨s, hs⟩ : ∃ s, shapeJ x (f : Int) = s := ⟨_, rfl⟩
            rw [hs] at HC
            have Hs := Lib.hid hs
            clear hs
            go_wp2_with fail
            refine HC.out.mono ?_
            rintro _ w9 ⟨rfl, h9⟩
            have HI9 := Lib.hid (HI.out.on h9)
            clear h9 HI hcx
            have hcx := HX.out w9 HI9.out.la
            by_cases hsr : s = r
            · have HT := Lib.hid (show R = [x] from by
                rw [← HQ2.out, if_pos]
                have e := Hs.out
                have hfc : f = 0 ∨ f = 1 ∨ f = 2 ∨ f = 3 := by omega
                unfold anyJ
                rcases hfc with rfl | rfl | rfl | rfl <;> simp [← hsr, ← e])
              clear HQ2 HF Hs
              subst hsr
              go_wp2_with fail
              go_ret
              rw [HT.out]
              exact HI9.out.out1 x
            · have hsb : (s == r) = false := by simpa using hsr
              have HN := Lib.hid (show ∀ g : Nat, g < f + 1 → (shapeJ x g == r) = false from fun g hg => by
                rcases Nat.lt_or_ge g f with h | h
                · exact HF.out g h
                · obtain rfl : g = f := by omega
                  rw [Hs.out]; exact hsb)
              clear HF Hs
              go_wp2_with fail
              go_roundw
              case rel => exact ⟨f + 1, _, rfl, by omega, by first | rfl | go_num, HI9, HN⟩
              case measure => simp [RowKit.intOf] <;> omega
          · obtain rfl : f = 4 := by omega
            have HN := Lib.hid (show plFrom r (tabJ.drop (m + 1)) = R from by
              rw [← HQ2.out, if_neg]
              unfold anyJ
              intro h
              simp only [Bool.or_eq_true] at h
              rcases h with ((h | h) | h) | h
              · exact absurd h (by rw [show shapeJ x 0 = shapeJ x ((0 : Nat) : Int) from rfl, HF.out 0 (by omega)]; decide)
              · exact absurd h (by rw [show shapeJ x 1 = shapeJ x ((1 : Nat) : Int) from rfl, HF.out 1 (by omega)]; decide)
              · exact absurd h (by rw [show shapeJ x 2 = shapeJ x ((2 : Nat) : Int) from rfl, HF.out 2 (by omega)]; decide)
              · exact absurd h (by rw [show shapeJ x 3 = shapeJ x ((3 : Nat) : Int) from rfl, HF.out 3 (by omega)]; decide))
            clear HQ2 HF
            go_wp2_with fail
            go_roundw
            case rel => exact ⟨m + 1, _, rfl, by omega, by first | rfl | go_num, HI, HN⟩
            case measure => simp [RowKit.intOf] <;> omega
      · obtain rfl : m = 36 := by omega
        obtain rfl : [r] = R := HQ.out
        go_wp2_with fail
        go_ret
        exact HI.out.out1 r
  · have hge' : (65269 : Int) ≤ r := by omega
    have hhi' : ¬ r ≤ (65276 : Int) := by omega
    go_wp2_with fail
    refine HL.out.mono ?_
    rintro _ W ⟨rfl, hbe, hsz, hla⟩
    have HI := Lib.hid (show PlS w B W from ⟨by rw [HB.out]; exact Nat.le_refl _, by omega, by rw [HB.out]; exact hbe, hla⟩)
    clear hbe hsz hla HL
    go_wp2_with fail
    go_loopw [4] (fun x wr => ∃ (m : Nat) (W : World), W = wr ∧ m ≤ 36 ∧ x = .int .i64 (m : Int) ∧ Hid (PlS w B W) ∧ Hid (plFrom r (tabJ.drop m) = R)) (fun x _ => 36 - (RowKit.intOf x).toNat)
    case atStart => exact ⟨0, _, rfl, by omega, rfl, HI, H0⟩
    case round =>
      obtain ⟨m, W, hw, hm, rfl, HI, HQ⟩ := hrel
      subst hw
      rcases Nat.lt_or_ge m 36 with hlt | hge
      · have hlt' : m < tabJ.length := hlt
        obtain ⟨⟨x, y⟩, hxy⟩ : ∃ e, tabJ[m]? = some e := ⟨_, List.getElem?_eq_getElem hlt'⟩
        have hd : tabJ.drop m = (x, y) :: tabJ.drop (m + 1) := by
          have h1 := List.drop_eq_getElem_cons (l := tabJ) (i := m) hlt'
          rw [h1, (List.getElem?_eq_some_iff.1 hxy).2]
        have HX := Lib.hid (show ∀ W', LetAt B W' → W'.cell? ⟨B, m * 2, none⟩ = some (.int .i32 x) from fun W' h => by rw [Nat.mul_comm]; exact (h m x y hxy).1)
        have hq := HQ.out
        rw [hd, plFrom_cons] at hq
        have HQ2 := Lib.hid hq
        have hmi : (m : Int) < 36 := by omega
        have hnext : IntKind.i64.wrap ((m : Int) + 1) = (m : Int) + 1 := IntWalk.i64_in _ (by omega)
        clear hd hq hxy hlt' HQ H0
        go_wp2_with fail
        go_loopw [5] (fun x1 wr => ∃ (f : Nat) (W : World), W = wr ∧ f ≤ 4 ∧ x1 = .int .i8 (f : Int) ∧ Hid (PlS w B W) ∧ Hid (∀ g : Nat, g < f → (shapeJ x g == r) = false)) (fun x1 _ => 4 - (RowKit.intOf x1).toNat)
        case atStart => exact ⟨0, _, rfl, by omega, rfl, HI, Lib.hid fun g hg => absurd hg (by omega)⟩
        case round =>
          obtain ⟨f, W, hw, hf, rfl, HI, HF⟩ := hrel
          subst hw
          rcases Nat.lt_or_ge f 4 with hlf | hgf
          · have hcx := HX.out W HI.out.la
            have hfi : (f : Int) < 4 := by omega
            have hfn : IntKind.i8.wrap ((f : Int) + 1) = (f : Int) + 1 := IntWalk.i8_in _ (by omega)
            have HC := Lib.hid (rshape_any x (f : Int) W)
            obtain ⟨s, hs⟩ : ∃ s, shapeJ x (f : Int) = s := ⟨_, rfl⟩
            rw [hs] at HC
            have Hs := Lib.hid hs
            clear hs
            go_wp2_with fail
            refine HC.out.mono ?_
            rintro _ w9 ⟨rfl, h9⟩
            have HI9 := Lib.hid (HI.out.on h9)
            clear h9 HI hcx
            have hcx := HX.out w9 HI9.out.la
            by_cases hsr : s = r
            · have HT := Lib.hid (show R = [x] from by
                rw [← HQ2.out, if_pos]
                have e := Hs.out
                have hfc : f = 0 ∨ f = 1 ∨ f = 2 ∨ f = 3 := by omega
                unfold anyJ
                rcases hfc with rfl | rfl | rfl | rfl <;> simp [← hsr, ← e])
              clear HQ2 HF Hs
              subst hsr
              go_wp2_with fail
              go_ret
              rw [HT.out]
              exact HI9.out.out1 x
            · have hsb : (s == r) = false := by simpa using hsr
              have HN := Lib.hid (show ∀ g : Nat, g < f + 1 → (shapeJ x g == r) = false from fun g hg => by
                rcases Nat.lt_or_ge g f with h | h
                · exact HF.out g h
                · obtain rfl : g = f := by omega
                  rw [Hs.out]; exact hsb)
              clear HF Hs
              go_wp2_with fail
              go_roundw
              case rel => exact ⟨f + 1, _, rfl, by omega, by first | rfl | go_num, HI9, HN⟩
              case measure => simp [RowKit.intOf] <;> omega
          · obtain rfl : f = 4 := by omega
            have HN := Lib.hid (show plFrom r (tabJ.drop (m + 1)) = R from by
              rw [← HQ2.out, if_neg]
              unfold anyJ
              intro h
              simp only [Bool.or_eq_true] at h
              rcases h with ((h | h) | h) | h
              · exact absurd h (by rw [show shapeJ x 0 = shapeJ x ((0 : Nat) : Int) from rfl, HF.out 0 (by omega)]; decide)
              · exact absurd h (by rw [show shapeJ x 1 = shapeJ x ((1 : Nat) : Int) from rfl, HF.out 1 (by omega)]; decide)
              · exact absurd h (by rw [show shapeJ x 2 = shapeJ x ((2 : Nat) : Int) from rfl, HF.out 2 (by omega)]; decide)
              · exact absurd h (by rw [show shapeJ x 3 = shapeJ x ((3 : Nat) : Int) from rfl, HF.out 3 (by omega)]; decide))
            clear HQ2 HF
            go_wp2_with fail
            go_roundw
            case rel => exact ⟨m + 1, _, rfl, by omega, by first | rfl | go_num, HI, HN⟩
            case measure => simp [RowKit.intOf] <;> omega
      · obtain rfl : m = 36 := by omega
        obtain rfl : [r] = R := HQ.out
        go_wp2_with fail
        go_ret
        exact HI.out.out1 r
end Go.Proofs.Ytjecbchnckknkaa
