/- show: tab stops, carets, regional signs, blanks: the small ones, walked. -/
import Derived.Test.YtfegbfhkmdmheaaDoorShowG
import Derived.Test.YtfegbfhkmdmheaaDoorClassG
import Derived.Test.YtfegbfhkmdmheaaDoorScanG
import Derived.Test.YtfegbfhkmdmheaaDoorRefTG
import Derived.Test.YtfegbfhkmdmheaaDoorRowG
import Derived.Lib.QuoteBits
import Derived.Laws.OwnMore
import Derived.Laws.AppendOwnNone
set_option linter.unusedSimpArgs false
set_option linter.unusedVariables false
namespace Go.Proofs.YtfegbfhkmdmheaaDoor
open Go.RowKit Go.Lib

/-- a look -/
abbrev lookV (tb : Int) (wd : Bool) (wt : Int) (jn rz : Bool) : Value := .agg #[.int .i64 tb, .bool wd, .int .i8 wt, .bool jn, .bool rz]
/-- the columns from one tab stop to the next -/
def tabN (tb : Int) : Nat := if 1 ≤ tb ∧ tb ≤ 16 then tb.toNat else 8
theorem tabN_bounds (tb : Int) : 1 ≤ tabN tb ∧ tabN tb ≤ 16 := by
  unfold tabN
  split <;> omega
/-- a look in its box -/
structure LookAt (w : World) (b : Nat) (tb : Int) (wd : Bool) (wt : Int) (jn rz : Bool) : Prop where
  c0 : w.cell? ⟨b, 0, none⟩ = some (.int .i64 tb)
  c1 : w.cell? ⟨b, 1, none⟩ = some (.bool wd)
  c2 : w.cell? ⟨b, 2, none⟩ = some (.int .i8 wt)
  c3 : w.cell? ⟨b, 3, none⟩ = some (.bool jn)
  c4 : w.cell? ⟨b, 4, none⟩ = some (.bool rz)
theorem LookAt.below {w w' : World} {b B : Nat} {tb : Int} {wd : Bool} {wt : Int} {jn rz : Bool} (h : LookAt w b tb wd wt jn rz) (hb : Below B w w') (hB : b < B) : LookAt w' b tb wd wt jn rz :=
  ⟨(hb.cell (p := ⟨b, 0, none⟩) hB).trans h.c0, (hb.cell (p := ⟨b, 1, none⟩) hB).trans h.c1, (hb.cell (p := ⟨b, 2, none⟩) hB).trans h.c2, (hb.cell (p := ⟨b, 3, none⟩) hB).trans h.c3, (hb.cell (p := ⟨b, 4, none⟩) hB).trans h.c4⟩
theorem LookAt.new (w : World) (t : TypeId) (tb : Int) (wd : Bool) (wt : Int) (jn rz : Bool) : LookAt (w.alloc (.cells #[.int .i64 tb, .bool wd, .int .i8 wt, .bool jn, .bool rz] t)) w.heap.size tb wd wt jn rz := by
  have h := new_cells w [.int .i64 tb, .bool wd, .int .i8 wt, .bool jn, .bool rz] t
  exact ⟨h 0 _ rfl, h 1 _ rfl, h 2 _ rfl, h 3 _ rfl, h 4 _ rfl⟩
theorem tab_any (tb : Int) (wd : Bool) (wt : Int) (jn rz : Bool) (w : World) : Calls Tryd.prog 44 #[lookV tb wd wt jn rz] w fun e w' => e = .returned (.int .i64 (tabN tb : Nat)) ∧ Below w.heap.size w w' := by
  have hb : ∀ o, Below w.heap.size w (w.alloc o) := fun o => (Below.refl _ w).alloc (Nat.le_refl _) o
  by_cases h1 : tb < 1
  · have e : ((tabN tb : Nat) : Int) = 8 := by unfold tabN; rw [if_neg (by omega)]; rfl
    rw [e]
    go_enter Tryd.func44, Tryd.ntmps44
    go_wp2
    go_ret
    exact ⟨rfl, hb _⟩
  · by_cases h2 : 16 < tb
    · have e : ((tabN tb : Nat) : Int) = 8 := by unfold tabN; rw [if_neg (by omega)]; rfl
      rw [e]
      go_enter Tryd.func44, Tryd.ntmps44
      go_wp2
      go_ret
      exact ⟨rfl, hb _⟩
    · have e : ((tabN tb : Nat) : Int) = tb := by unfold tabN; rw [if_pos (by omega)]; omega
      rw [e]
      go_enter Tryd.func44, Tryd.ntmps44
      go_wp2
      go_ret
      exact ⟨rfl, hb _⟩

theorem preg_any (r : Nat) (w : World) : Calls Tryd.prog 106 #[.int .i32 (r : Int)] w fun e w' => e = .returned (.bool (regN r)) ∧ w' = w := by
  unfold regN
  by_cases h1 : 127462 ≤ r
  · by_cases h2 : r ≤ 127487
    · have g1 : (127462 : Int) ≤ (r : Int) := by omega
      have g2 : (r : Int) ≤ 127487 := by omega
      rw [decide_eq_true h1, decide_eq_true h2]
      go_enter Tryd.func106, Tryd.ntmps106
      go_wp2
      go_ret
      exact ⟨rfl, rfl⟩
    · have g1 : (127462 : Int) ≤ (r : Int) := by omega
      have g2 : ¬ ((r : Int) ≤ 127487) := by omega
      rw [decide_eq_true h1, decide_eq_false h2]
      go_enter Tryd.func106, Tryd.ntmps106
      go_wp2
      go_ret
      exact ⟨rfl, rfl⟩
  · have g1 : ¬ ((127462 : Int) ≤ (r : Int)) := by omega
    rw [decide_eq_false h1]
    go_enter Tryd.func106, Tryd.ntmps106
    go_wp2
    go_ret
    exact ⟨rfl, rfl⟩
/-- is it widened by the one behind it? -/
def widB (x y wv : Nat) : Bool := (regN x && regN y) || (y == 65039 && wv == 1)
theorem kN_wide (x : Nat) (b : Bool) : wideOf (cls widthsL (char x)) b ≤ 2 := by
  have h := cls_lt (m := 4) widthsL (char x) (by decide) (by decide +kernel)
  generalize cls widthsL (char x) = c at *
  unfold wideOf
  by_cases h3 : c = 3
  · subst h3; cases b <;> decide
  · rw [show Nat.beq c 3 = false by rw [← Bool.not_eq_true]; exact fun h => h3 (Nat.eq_of_beq_eq_true h)]
    show c ≤ 2
    omega
set_option maxHeartbeats 1000000 in
set_option maxRecDepth 100000 in
theorem widened_any (x y : Nat) (tb : Int) (wd : Bool) (wt : Int) (jn rz : Bool) (w : World) :
    Calls Tryd.prog 74 #[.int .i32 (x : Int), .int .i32 (y : Int), lookV tb wd wt jn rz] w fun e w' => e = .returned (.bool (widB x y (wideOf (cls widthsL (char x)) wd))) ∧ Below w.heap.size w w' := by
  have HX := Lib.hid (fun w => preg_any x w)
  have HY := Lib.hid (fun w => preg_any y w)
  have HW := Lib.hid (fun w => Wide_any (x : Int) wd w)
  have hw2 := kN_wide x wd
  have hb : ∀ o, Below w.heap.size w (w.alloc o) := fun o => (Below.refl _ w).alloc (Nat.le_refl _) o
  generalize wideOf (cls widthsL (char x)) wd = v at *
  unfold widB
  generalize regN x = a at *
  generalize regN y = b at *
  by_cases hy : y = 65039
  · have hyb : (y == 65039) = true := by simp [hy]
    have hyi : ((y : Int) == 65039) = true := by simp; omega
    rw [hyb]
    clear hy hyb
    have hvv : ((v : Int) == 1) = (v == 1) := by
      by_cases hv : v = 1
      · subst hv; rfl
      · rw [show (v == 1) = false by simpa using hv]; simp; omega
    obtain ⟨vb, hvb⟩ : ∃ vb, (v == 1) = vb := ⟨_, rfl⟩
    rw [hvb] at hvv ⊢
    clear hvb
    cases a with
    | false =>
      go_enter Tryd.func74, Tryd.ntmps74
      go_wp2_with fail
      refine (HX.out _).mono ?_
      rintro _ _ ⟨rfl, rfl⟩
      go_wp2_with fail
      refine (HW.out _).mono ?_
      rintro _ w1 ⟨rfl, b1⟩
      have b2 := (hb _).trans (b1.mono (by simp))
      go_wp2
      go_ret
      exact ⟨rfl, b2⟩
    | true =>
      cases b with
      | false =>
        go_enter Tryd.func74, Tryd.ntmps74
        go_wp2_with fail
        refine (HX.out _).mono ?_
        rintro _ _ ⟨rfl, rfl⟩
        go_wp2_with fail
        refine (HY.out _).mono ?_
        rintro _ _ ⟨rfl, rfl⟩
        go_wp2_with fail
        refine (HW.out _).mono ?_
        rintro _ w1 ⟨rfl, b1⟩
        have b2 := (hb _).trans (b1.mono (by simp))
        go_wp2
        go_ret
        exact ⟨rfl, b2⟩
      | true =>
        go_enter Tryd.func74, Tryd.ntmps74
        go_wp2_with fail
        refine (HX.out _).mono ?_
        rintro _ _ ⟨rfl, rfl⟩
        go_wp2_with fail
        refine (HY.out _).mono ?_
        rintro _ _ ⟨rfl, rfl⟩
        go_wp2
        go_ret
        exact ⟨rfl, hb _⟩
  · have hyb : (y == 65039) = false := by simpa using hy
    have hyi : ((y : Int) == 65039) = false := by simp; omega
    rw [hyb]
    clear hy hyb
    cases a with
    | false =>
      go_enter Tryd.func74, Tryd.ntmps74
      go_wp2_with fail
      refine (HX.out _).mono ?_
      rintro _ _ ⟨rfl, rfl⟩
      go_wp2
      go_ret
      exact ⟨rfl, hb _⟩
    | true =>
      cases b with
      | false =>
        go_enter Tryd.func74, Tryd.ntmps74
        go_wp2_with fail
        refine (HX.out _).mono ?_
        rintro _ _ ⟨rfl, rfl⟩
        go_wp2_with fail
        refine (HY.out _).mono ?_
        rintro _ _ ⟨rfl, rfl⟩
        go_wp2
        go_ret
        exact ⟨rfl, hb _⟩
      | true =>
        go_enter Tryd.func74, Tryd.ntmps74
        go_wp2_with fail
        refine (HX.out _).mono ?_
        rintro _ _ ⟨rfl, rfl⟩
        go_wp2_with fail
        refine (HY.out _).mono ?_
        rintro _ _ ⟨rfl, rfl⟩
        go_wp2
        go_ret
        exact ⟨rfl, hb _⟩

/-! ### a control under its caret -/
theorem conv_list6 (w : World) (B : Nat) (A : Option Addr) (n c : Nat) (zs : List Int) (h : Rd w B 1 A n (zs.map (Value.int .i32))) : (convert 36 9 (.slice A n c)).run Tryd.prog w = .ok (.string (runesBytes zs)) w := by
  have hl : zs.length = n := by have := h.1; simpa using this
  rcases A with _ | a
  · have h0 : n = 0 := by
      rcases Nat.eq_zero_or_pos n with h0 | h0
      · exact h0
      · obtain ⟨a, e, _⟩ := h.addr h0
        cases e
    have : zs = [] := List.eq_nil_of_length_eq_zero (by omega)
    subst this
    exact run_convert_runes_nil w _ _ 21 _ _ Tryd.underlying36 Tryd.underlying21 Tryd.underlying9
  · have := run_convert_runes (P := Tryd.prog) w 36 9 21 a n c zs (by omega) Tryd.underlying36 Tryd.underlying21 Tryd.underlying9 (fun j hj => by
      obtain ⟨a', e, _, hc⟩ := h.addr (by omega)
      injection e with e
      subst e
      exact hc j _ (by simp [List.getD, List.getElem?_eq_getElem hj]))
    rw [List.take_of_length_le (by omega)] at this
    exact this
theorem new_rd6 (w : World) (zs : List Int) (hl : zs.length ≤ 64) : Rd (w.alloc (.cells (zs.map (Value.int .i32)).toArray 21)) (w.heap.size + 1) 1 (some ⟨w.heap.size, 0, none⟩) zs.length (zs.map (Value.int .i32)) := by
  have h : (w.alloc (.cells (zs.map (Value.int .i32)).toArray 21)).ownsRow w.heap.size 21 1 (.slice (some ⟨w.heap.size, 0, none⟩) zs.length zs.length) zs.length (zs.map (Value.int .i32)) :=
    World.ownsRow_lit w (zs.map (Value.int .i32)).toArray zs.length (Nat.le_refl _) (by unfold maxLen; omega) (by simp)
  have := Rd.own h
  simpa using this
theorem ba6 {x y : ByteArray} (h : x.data.toList = y.data.toList) : x = y := by
  cases x; cases y
  simp at h
  cases h
  rfl
theorem enc_low (x : Nat) (h : x < 128) : enc (x : Int) = [UInt8.ofNat x] := by
  rw [enc_encN]
  have : clean (x : Int) = x := by
    unfold clean Utf8.valid
    rw [if_pos (by simp; omega)]
    simp
  rw [this]
  unfold encN
  rw [if_pos h]
theorem xor6 : ∀ x < 128, bits .xor .i32 ((x : Nat) : Int) 64 = ((Nat.xor x 64 : Nat) : Int) ∧ Nat.xor x 64 < 128 := by decide +kernel
theorem caret_bytes (x : Nat) (h : x < 128) : runesBytes [94, ((Nat.xor x 64 : Nat) : Int)] = ⟨#[94, UInt8.ofNat (Nat.xor x 64)]⟩ := by
  have h1 : (runesBytes [94, ((Nat.xor x 64 : Nat) : Int)]).data.toList = [94, UInt8.ofNat (Nat.xor x 64)] := by
    show encAll [94, ((Nat.xor x 64 : Nat) : Int)] = _
    rw [encAll_cons, encAll_cons, encAll_nil, enc_low _ (xor6 x h).2, show enc (94 : Int) = [94] from enc_low 94 (by decide)]
    rfl
  exact ba6 h1
set_option maxRecDepth 100000 in
theorem caret_any (x : Nat) (hx : x < 128) (w : World) : Calls Tryd.prog 81 #[.int .i32 (x : Int)] w fun e w' => e = .returned (.string ⟨#[94, UInt8.ofNat (Nat.xor x 64)]⟩) ∧ Below w.heap.size w w' := by
  obtain ⟨h1, h2⟩ := xor6 x hx
  have hb := caret_bytes x hx
  obtain ⟨y, hy⟩ : ∃ y : Nat, Nat.xor x 64 = y := ⟨_, rfl⟩
  rw [hy] at h1 h2 hb ⊢
  have hw : IntKind.i32.wrap (y : Int) = (y : Int) := IntWalk.i32_in _ (by omega)
  have hcv := conv_list6 (w.alloc (.cells #[.int .i32 94, .int .i32 (y : Int)] 21)) _ (some ⟨w.heap.size, 0, none⟩) 2 2 [94, (y : Int)] (new_rd6 w [94, (y : Int)] (by simp))
  rw [hb] at hcv
  clear hb hy hx
  go_enter Tryd.func81, Tryd.ntmps81
  go_wp2
  go_ret
  exact ⟨rfl, (Below.refl _ w).alloc (Nat.le_refl _) _⟩
end Go.Proofs.YtfegbfhkmdmheaaDoor

/- show: what a text, its first cluster and its clusters show; bounds (pure). -/
namespace Go.Proofs.YtfegbfhkmdmheaaDoor
open Go.RowKit Go.Lib

/-- the bytes of the first cluster -/
def firstK (l : List UInt8) : List UInt8 := l.take (total ((segs l).take (clD (segs l))))
/-- what is shown of a text's first cluster at the column col -/
def textZ (rz wd : Bool) (tb : Int) (col : Nat) (l : List UInt8) : List UInt8 × Nat := oneZ (circP (firstK l)) rz wd (stopZ (tabN tb) col) (firstK l)

theorem hexD_nat (d : Nat) (h : d < 16) : (hexD d).toNat = (if d < 10 then 48 + d else 87 + d) := by
  unfold hexD
  split
  · simp; omega
  · simp; omega
theorem digsF_len : ∀ (f n least : Nat), (digsF f n least).length ≤ f
  | 0, _, _ => Nat.le_refl _
  | f + 1, n, least => by
    unfold digsF
    split
    · have := digsF_len f (n / 16) (least - 1)
      rw [List.length_cons]
      omega
    · simp
theorem digsF_lt : ∀ (f n least d : Nat), d ∈ digsF f n least → d < 16
  | 0, _, _, _, h => by simp [digsF] at h
  | f + 1, n, least, d, h => by
    unfold digsF at h
    split at h
    · rcases List.mem_cons.1 h with rfl | h
      · omega
      · exact digsF_lt f _ _ d h
    · simp at h
theorem angZ_len (n least : Nat) : (angZ n least).length ≤ 10 := by
  unfold angZ
  have := digsF_len 8 n least
  simp
  omega
theorem sgnZ_le (raw : Bool) (x : Nat) : (sgnZ raw x).2 ≤ 16 ∧ (sgnZ raw x).1.length ≤ 16 := by
  unfold sgnZ
  have := angZ_len x 4
  split
  · simp only; omega
  · simp
/-- no cluster takes more than 16 columns -/
theorem one_le (circ : List UInt8) (raw wid : Bool) (stop : Nat) (k : List UInt8) (hs : stop ≤ 16) : (oneZ circ raw wid stop k).2 ≤ 16 := by
  have h1 := kN_wide (dec k).1 wid
  have h2 := sgnZ_le raw (dec k).1
  unfold oneZ
  dsimp only
  repeat' split
  all_goals first | omega | (simp only; omega)
theorem wOf_le (raw wid : Bool) (stop : Nat) (k : List UInt8) (hs : stop ≤ 16) : wOf raw wid stop k ≤ 16 := one_le [] raw wid stop k hs
theorem stopZ_le (tb : Int) (c : Nat) : 1 ≤ stopZ (tabN tb) c ∧ stopZ (tabN tb) c ≤ 16 := by
  have h := tabN_bounds tb
  unfold stopZ
  have := Nat.mod_lt c (show tabN tb > 0 by omega)
  omega
theorem sumW_bound (raw wid : Bool) (tb : Int) : ∀ (L : List (List UInt8)) (c : Nat), sumW raw wid (tabN tb) L c ≤ 16 * L.length
  | [], _ => Nat.le_refl _
  | k :: L, c => by
    rw [sumW_cons, List.length_cons]
    have := sumW_bound raw wid tb L (c + wOf raw wid (stopZ (tabN tb) c) k)
    have := wOf_le raw wid (stopZ (tabN tb) c) k (stopZ_le tb c).2
    omega
/-- the clusters' bytes -/
def clsB (s : ByteArray) : List (List UInt8) := (pcs s).map fun x => x.2.data.toList
theorem clsB_len (s : ByteArray) : (clsB s).length = (pcs s).length := by simp [clsB]
/-- how many columns a text takes -/
def wideZ (rz wd : Bool) (tb : Int) (s : ByteArray) (c : Nat) : Nat := sumW rz wd (tabN tb) (clsB s) c
/-- the greatest border that has place -/
def cutZ (rz wd : Bool) (tb : Int) (s : ByteArray) (w : Int) : Nat := match (pcs s)[fitN rz wd (tabN tb) w (clsB s) 0]? with
  | some x => x.1
  | none => s.size
/-- what a message shows of a cluster -/
def plain1 (k : List UInt8) : List UInt8 := if k = [9] then [94, 73] else if k = [13, 10] then [94, 77, 94, 74] else if k = [10] then [94, 74] else (oneZ (circP k) true false (stopZ 8 0) k).1
def plainZ (s : ByteArray) : List UInt8 := (clsB s).flatMap plain1

theorem enc_len (z : Int) : (enc z).length ≤ 4 := by
  rw [enc_encN]
  unfold encN
  repeat' split
  all_goals simp
theorem flat_enc_le : ∀ (L : List Int), (L.flatMap enc).length ≤ 4 * L.length
  | [] => by simp
  | z :: L => by
    rw [List.flatMap_cons, List.length_append, List.length_cons]
    have := flat_enc_le L
    have := enc_len z
    omega
theorem circP_len (k : List UInt8) : (circP k).length ≤ 128 := by
  unfold circP
  have := flat_enc_le (9676 :: (numsT k).take 31)
  have h2 : ((numsT k).take 31).length ≤ 31 := by rw [List.length_take]; omega
  rw [List.length_cons] at this
  omega
theorem one_len (raw wid : Bool) (stop : Nat) (k : List UInt8) (hs : stop ≤ 16) : (oneZ (circP k) raw wid stop k).1.length ≤ k.length + 128 := by
  have h1 := circP_len k
  have h2 := sgnZ_le raw (dec k).1
  have h3 := angZ_len (gb k 0) 2
  unfold oneZ
  dsimp only
  repeat' split
  all_goals first | omega | (simp only [List.length_nil, List.length_cons, List.length_replicate]; omega)
theorem plain1_len (k : List UInt8) : (plain1 k).length ≤ k.length + 128 := by
  have := one_len true false (stopZ 8 0) k (by unfold stopZ; omega)
  unfold plain1
  repeat' split
  all_goals first | (simp only [List.length_cons, List.length_nil]; omega) | omega
end Go.Proofs.YtfegbfhkmdmheaaDoor

/- slices.Reverse over characters; the digits of a number between < and >: walked. -/
namespace Go.Proofs.YtfegbfhkmdmheaaDoor
open Go.RowKit Go.Lib

/-- turned round at the first and the last i places -/
def revAt {α : Type} (xs : List α) (i : Nat) (ys : List α) : Prop :=
  ys.length = xs.length ∧ ∀ j, j < xs.length → ys[j]? = if j < i ∨ xs.length - 1 - j < i then xs[xs.length - 1 - j]? else xs[j]?
theorem revAt_zero {α : Type} (xs : List α) : revAt xs 0 xs := ⟨rfl, fun j _ => by rw [if_neg (by omega)]⟩
theorem revAt_step {α : Type} {xs ys : List α} {i : Nat} {a b : α} (h : revAt xs i ys) (hi : i < xs.length - 1 - i) (ha : ys[i]? = some a) (hb : ys[xs.length - 1 - i]? = some b) :
    revAt xs (i + 1) ((ys.set i b).set (xs.length - 1 - i) a) := by
  obtain ⟨h1, h2⟩ := h
  refine ⟨by simpa using h1, fun j hj => ?_⟩
  have ha' := h2 i (by omega)
  have hb' := h2 (xs.length - 1 - i) (by omega)
  rw [ha, if_neg (by omega)] at ha'
  rw [hb, if_neg (by omega)] at hb'
  by_cases e1 : j = xs.length - 1 - i
  · subst e1
    rw [List.getElem?_set_self (by simp; omega), if_pos (by omega), show xs.length - 1 - (xs.length - 1 - i) = i by omega, ← ha']
  · rw [List.getElem?_set_ne (by omega)]
    by_cases e2 : j = i
    · subst e2
      rw [List.getElem?_set_self (by omega), if_pos (by omega), ← hb']
    · rw [List.getElem?_set_ne (by omega), h2 j hj]
      by_cases e3 : j < i ∨ xs.length - 1 - j < i
      · rw [if_pos e3, if_pos (by omega)]
      · rw [if_neg e3, if_neg (by omega)]
theorem revAt_end {α : Type} {xs ys : List α} {i : Nat} (h : revAt xs i ys) (hi : xs.length ≤ 2 * i + 1) : ys = xs.reverse := by
  obtain ⟨h1, h2⟩ := h
  apply List.ext_getElem?
  intro j
  by_cases hj : j < xs.length
  · rw [h2 j hj, List.getElem?_reverse hj]
    by_cases e : j < i ∨ xs.length - 1 - j < i
    · rw [if_pos e]
    · rw [if_neg e, show xs.length - 1 - j = j by omega]
  · rw [List.getElem?_eq_none (by omega), List.getElem?_eq_none (by simp; omega)]

theorem grown_drew6 {w w' : World} {r : Option Nat} (h : w.grownBy w' r) : w.grownBy w'.drew r := ⟨h.os, h.tape, h.output, h.size, h.block⟩
abbrev rn (l : List Int) : List Value := l.map (Value.int .i32)
set_option maxRecDepth 100000 in
theorem reverse_any (B : Nat) (A : Option Addr) (n c : Nat) (xs : List Int) (w : World) (h : w.ownsRow B 21 1 (.slice A n c) n (rn xs)) (hn : n ≤ 1000) :
    Calls Tryd.prog 103 #[.slice A n c] w fun e w' => e = .returned (.tuple #[]) ∧ w'.ownsRow B 21 1 (.slice A n c) n (rn xs.reverse) ∧ w.grownBy w' (Value.ownBlock (.slice A n c)) := by
  have hxl : xs.length = n := by have := h.1; simpa using this
  have hw1 : IntKind.i64.wrap ((n : Int) - 1) = (n : Int) - 1 := IntWalk.i64_in _ (by omega)
  have mixed : Tryd.prog.follows Departure.mixedOrders = true := by kernel_rfl
  go_enter Tryd.func103, Tryd.ntmps103
  go_wp2
  go_loopw [2, 3] (fun x y wr => ∃ (i : Nat) (ys : List Int) (W : World), W = wr ∧ x = .int .i64 i ∧ y = .int .i64 ((n : Int) - 1 - i) ∧ i ≤ n ∧ W.ownsRow B 21 1 (.slice A n c) n (rn ys) ∧ revAt xs i ys ∧ w.grownBy W (Value.ownBlock (.slice A n c))) (fun x _ _ => n - (RowKit.intOf x).toNat)
  case atStart => exact ⟨0, xs, _, rfl, rfl, by simp, Nat.zero_le _, h, revAt_zero _, World.grownBy.refl _ _⟩
  case round =>
    obtain ⟨i, ys, W, hW, rfl, rfl, hi, hown, hrev, hgr⟩ := hrel
    subst hW
    have hyl : ys.length = n := by have := hrev.1; omega
    by_cases hlt : (i : Int) < (n : Int) - 1 - i
    · obtain ⟨j, hj⟩ : ∃ j, n - 1 - i = j := ⟨_, rfl⟩
      have hji : (n : Int) - 1 - i = (j : Int) := by omega
      rw [hji] at hlt ⊢
      obtain ⟨g, cap, hv, _, hlt2⟩ := hown.form (by omega)
      injection hv with hA _ hcc
      subst hA hcc
      have k1 := hown.cellAt i (by omega)
      have k2 := hown.cellAt j (by omega)
      have e1 := List.getElem?_eq_getElem (show i < ys.length by omega)
      have e2 := List.getElem?_eq_getElem (show j < ys.length by omega)
      obtain ⟨a, ha⟩ : ∃ a, ys[i]'(by omega) = a := ⟨_, rfl⟩
      obtain ⟨b, hb⟩ : ∃ b, ys[j]'(by omega) = b := ⟨_, rfl⟩
      rw [ha] at e1
      rw [hb] at e2
      rw [List.getElem?_map, e1, Option.map_some] at k1
      rw [List.getElem?_map, e2, Option.map_some] at k2
      have f1 := hown.frozenAt i
      have f2 := hown.frozenAt j
      obtain ⟨s1, t1⟩ := hown.stored i (.int .i32 b)
      obtain ⟨s2, t2⟩ := s1.stored j (.int .i32 a)
      rw [← List.map_set, ← List.map_set] at s2
      have hst := revAt_step hrev (by omega) e1 (by rw [hxl, hj]; exact e2)
      rw [hxl, hj] at hst
      have hw2 : IntKind.i64.wrap ((i : Int) + 1) = (i : Int) + 1 := IntWalk.i64_in _ (by omega)
      have hw3 : IntKind.i64.wrap ((j : Int) - 1) = (j : Int) - 1 := IntWalk.i64_in _ (by omega)
      have hin : i < n := by omega
      have hjn : j < n := by omega
      have Hfin := Lib.hid (show _ ∧ _ ∧ _ from ⟨s2, hst, (hgr.trans t1).trans t2⟩)
      clear hgr hown hst s1 t1 s2 t2 hrev e1 e2 ha hb
      go_wp2_with fail
      go_region_o
      go_wp2
      go_roundw
      case rel => exact ⟨i + 1, _, _, rfl, rfl, by rw [← hji]; go_num, by omega, Hfin.out.1, Hfin.out.2.1, grown_drew6 Hfin.out.2.2⟩
      case measure => simp [RowKit.intOf]; omega
    · have hend := revAt_end hrev (by omega)
      subst hend
      go_wp2
      go_end0
      refine ⟨rfl, ?_, hgr⟩
      have hown := hown
      unfold rn at hown
      rw [List.map_reverse] at hown
      first | exact hown | (unfold rn; rw [List.map_reverse]; exact hown)
end Go.Proofs.YtfegbfhkmdmheaaDoor

/- The digits of a number between < and >, and what is shown of a sign: walked. -/
namespace Go.Proofs.YtfegbfhkmdmheaaDoor
open Go.RowKit Go.Lib

theorem digsF_step {f n l : Nat} (h : 0 < n ∨ 0 < l) : digsF (f + 1) n l = n % 16 :: digsF f (n / 16) (l - 1) := by
  rw [digsF, if_pos h]
theorem digsF_end {f n l : Nat} (h : ¬ (0 < n ∨ 0 < l)) : digsF f n l = [] := by
  cases f with
  | zero => rfl
  | succ f => rw [digsF, if_neg h]
def hexN (n : Nat) : Nat := if n < 10 then 48 + n else 87 + n
theorem hexD_of (n : Nat) : hexD n = UInt8.ofNat (hexN n) := by
  unfold hexD hexN
  split <;> rfl
theorem hexN_lt {n : Nat} (h : n < 16) : hexN n < 128 := by
  unfold hexN
  split <;> omega
abbrev hexB : ByteArray := ⟨#[48, 49, 50, 51, 52, 53, 54, 55, 56, 57, 97, 98, 99, 100, 101, 102]⟩
theorem hex_at : ∀ d, (h : d < 16) → ((hexB[d]'h).toNat : Int) = (hexN d : Nat) := by decide
/-- characters below 80 are their own bytes -/
theorem enc_lows : ∀ L : List Nat, (∀ x ∈ L, x < 128) → encAll (L.map fun (x : Nat) => (x : Int)) = L.map UInt8.ofNat
  | [], _ => rfl
  | x :: L, h => by
    rw [List.map_cons, List.map_cons, encAll_cons, enc_lows L (fun y hy => h y (List.mem_cons_of_mem _ hy)), enc_low x (h x List.mem_cons_self)]
    rfl
/-- what is laid of the digits, from the last one on -/
def laidN (ds : List Nat) : List Nat := 62 :: ds.map hexN
theorem laidN_lt {ds : List Nat} (h : ∀ d ∈ ds, d < 16) : ∀ x ∈ (laidN ds ++ [60]).reverse, x < 128 := by
  intro x hx
  rw [List.mem_reverse] at hx
  unfold laidN at hx
  simp at hx
  rcases hx with rfl | ⟨d, hd, rfl⟩ | rfl
  · decide
  · exact hexN_lt (h d hd)
  · decide
theorem laidN_ang (n least : Nat) : encAll (((laidN (digsF 8 n least) ++ [60]).reverse).map fun (x : Nat) => (x : Int)) = angZ n least := by
  rw [enc_lows _ (laidN_lt (digsF_lt 8 n least))]
  unfold laidN angZ
  simp [hexD_of]
theorem ang_bytes (n least : Nat) : runesBytes (((laidN (digsF 8 n least) ++ [60]).reverse).map fun (x : Nat) => (x : Int)) = ⟨(angZ n least).toArray⟩ := by
  apply ba6
  show encAll _ = _
  rw [laidN_ang]
theorem ang_size (n least : Nat) : ((digsF 8 n least).length + 1 + 1) = (angZ n least).length := by
  unfold angZ
  simp

abbrev i32s (L : List Nat) : List Value := L.map fun (x : Nat) => Value.int .i32 (x : Int)
theorem i32s_rn (L : List Nat) : i32s L = rn (L.map fun (x : Nat) => (x : Int)) := by
  unfold i32s rn
  rw [List.map_map]
  rfl
theorem rune_info6 : (Tryd.prog.info? 21).map (fun i => (i.zero, i.size, i.bytes)) = some (some (.int .i32 0), 1, 4) := by kernel_rfl
set_option maxRecDepth 100000 in
set_option maxHeartbeats 1000000 in
theorem angled_any (n least : Nat) (hn : n < 2097152) (hl : least ≤ 8) (w : World) : Calls Tryd.prog 69 #[.int .i32 (n : Int), .int .i64 (least : Int)] w fun e w' =>
    e = .returned (.tuple #[.string ⟨(angZ n least).toArray⟩, .int .i64 ((angZ n least).length : Nat)]) ∧ Below w.heap.size w w' := by
  obtain ⟨i0, hi, hz0, hz1, hz2⟩ := info_parts rune_info6
  obtain ⟨B, hB⟩ : ∃ B, w.heap.size = B := ⟨_, rfl⟩
  have HB := Lib.hid hB
  have hBle : B ≤ w.heap.size := by omega
  rw [hB]
  have hown0 : (w.alloc (.cells #[.int .i32 62] 21)).ownsRow B 21 1 (.slice (some ⟨w.heap.size, 0, none⟩) 1 1) 1 (i32s (laidN [])) :=
    World.ownsRow_lit w #[.int .i32 62] 1 hBle (by unfold maxLen; omega) rfl
  have hb0 : Below B w (w.alloc (.cells #[.int .i32 62] 21)) := (Below.refl B w).alloc hBle _
  clear hB
  go_enter Tryd.func69, Tryd.ntmps69
  go_wp2_with fail
  go_loopw [0, 1, 6] (fun p q v wr => ∃ (ds : List Nat) (m f : Nat) (l : Int), p = .int .i32 m ∧ q = .int .i64 l ∧ (f : Int) - 8 ≤ l ∧ l ≤ f ∧ ds.length + f = 8 ∧ m < 2097152 ∧ Hid (m < 16 ^ f) ∧ Hid (ds ++ digsF f m l.toNat = digsF 8 n least) ∧ wr.ownsRow B 21 1 v (ds.length + 1) (i32s (laidN ds)) ∧ Below B w wr) (fun p q _ _ => (RowKit.intOf p).toNat + (RowKit.intOf q).toNat)
  case atStart => exact ⟨[], n, 8, least, rfl, rfl, by omega, by omega, rfl, hn, by unfold Hid; omega, by unfold Hid; simp, hown0, hb0⟩
  case round =>
    obtain ⟨ds, m, f, l, rfl, rfl, hl1, hl2, hf, hm, hmf, hds, hown, hbw⟩ := hrel
    by_cases hgo : 0 < m ∨ 0 < l
    · obtain ⟨f, rfl⟩ : ∃ f', f = f' + 1 := by
        rcases Nat.eq_zero_or_pos f with h0 | h0
        · subst h0
          have := hmf.out
          simp at this
          omega
        · exact ⟨f - 1, by omega⟩
      have hst := hds.out
      rw [digsF_step (show 0 < m ∨ 0 < l.toNat by omega)] at hst
      have hm16 : m / 16 < 16 ^ f := Nat.div_lt_of_lt_mul (by have := hmf.out; rw [Nat.pow_succ'] at this; exact this)
      have ha : bits .and .i32 (m : Int) 15 = ((m % 16 : Nat) : Int) := and15_i32 m (by omega)
      have hd16 : m % 16 < 16 := Nat.mod_lt _ (by decide)
      have hdiv : (m : Int) / 16 = ((m / 16 : Nat) : Int) := by omega
      obtain ⟨d, hd⟩ : ∃ d, m % 16 = d := ⟨_, rfl⟩
      obtain ⟨m', hm'⟩ : ∃ m', m / 16 = m' := ⟨_, rfl⟩
      have hlt : m' ≤ m ∧ (0 < m → m' < m) ∧ m' < 2097152 := by omega
      rw [hd] at ha hd16 hst
      have hx := hex_at d hd16
      rw [hm'] at hdiv hm16 hst
      have hz : hexN d < 128 := hexN_lt hd16
      have hw1 : IntKind.i64.wrap (l - 1) = l - 1 := IntWalk.i64_in _ (by omega)
      have Hst := Lib.hid hst
      have Hm16 := Lib.hid hm16
      clear hst hm16 hd hm' hds hmf
      have hcase : (0 < m ∧ (0 : Int) < (m : Int)) ∨ (m = 0 ∧ 0 < l) := by omega
      have c1 := new_cells wr [.int .i32 (hexN d : Nat)] 21
      have c3 : ds.length + 1 + 1 ≤ maxLen := by unfold maxLen; omega
      have c4 : (ds.length + 1 + 1) * 4 ≤ 140737488355328 := by omega
      have c5 : B ≤ (wr.alloc (.cells #[.int .i32 (hexN d : Nat)] 21)).heap.size := by have := hbw.size; simp; omega
      rcases hcase with ⟨hm0, hm1⟩ | ⟨hm0, hl0⟩
      · skip
        go_wp2_with (at_builtin; refine Hid.out ?_)
        refine Lib.hid ?_
        refine wpList_append_own _ rfl _ _ 36 rfl B 21 i0 _ 1 4 Tryd.underlying36 hi hz0 hz1 hz2 rfl (by decide) _ _ _ rfl (hown.alloc _) ⟨wr.heap.size, 0, none⟩ 1 1 [.int .i32 (hexN d : Nat)] rfl rfl c1 (by simp [Value.oneCell']) c3 c4 c5 ?_
        intro v' w2 hown2 hg2 _
        have Hbel := Lib.hid ((hbw.alloc (by have := hbw.size; omega) _).grown hg2 c5 (fun k hk => (hown.lt k hk).1))
        have Hown2 := Lib.hid hown2
        clear hg2 hown2
        go_wp2
        go_roundw
        case rel =>
          refine ⟨ds ++ [d], m', f, l - 1, rfl, rfl, by omega, by omega, by simp; omega, hlt.2.2, Hm16, ?_, ?_, Hbel.out⟩
          · unfold Hid
            rw [← Hst.out, show (l - 1).toNat = l.toNat - 1 by omega, List.append_assoc]
            rfl
          · have := Hown2.out
            unfold laidN at this ⊢
            simpa using this
        case measure => simp only [RowKit.intOf]; omega
      · have hq1 : ¬ (0 : Int) < (m : Int) := by omega
        have hq2 : ¬ 0 < m := by omega
        have hq3 : decide (0 < m) = false := decide_eq_false hq2
        clear hm0
        go_wp2_with (at_builtin; refine Hid.out ?_)
        refine Lib.hid ?_
        refine wpList_append_own _ rfl _ _ 36 rfl B 21 i0 _ 1 4 Tryd.underlying36 hi hz0 hz1 hz2 rfl (by decide) _ _ _ rfl (hown.alloc _) ⟨wr.heap.size, 0, none⟩ 1 1 [.int .i32 (hexN d : Nat)] rfl rfl c1 (by simp [Value.oneCell']) c3 c4 c5 ?_
        intro v' w2 hown2 hg2 _
        have Hbel := Lib.hid ((hbw.alloc (by have := hbw.size; omega) _).grown hg2 c5 (fun k hk => (hown.lt k hk).1))
        have Hown2 := Lib.hid hown2
        clear hg2 hown2
        go_wp2
        go_roundw
        case rel =>
          refine ⟨ds ++ [d], m', f, l - 1, rfl, rfl, by omega, by omega, by simp; omega, hlt.2.2, Hm16, ?_, ?_, Hbel.out⟩
          · unfold Hid
            rw [← Hst.out, show (l - 1).toNat = l.toNat - 1 by omega, List.append_assoc]
            rfl
          · have := Hown2.out
            unfold laidN at this ⊢
            simpa using this
        case measure => simp only [RowKit.intOf]; omega
    · have hm0 : m = 0 := by omega
      subst hm0
      have hl0 : ¬ (0 : Int) < l := by omega
      have hds2 := hds.out
      rw [digsF_end (by omega), List.append_nil] at hds2
      have hdl : ds.length ≤ 8 := by omega
      have c1 := new_cells wr [.int .i32 60] 21
      have c3 : ds.length + 1 + 1 ≤ maxLen := by unfold maxLen; omega
      have c4 : (ds.length + 1 + 1) * 4 ≤ 140737488355328 := by omega
      have c5 : B ≤ (wr.alloc (.cells #[.int .i32 60] 21)).heap.size := by have := hbw.size; simp; omega
      have hab := ang_bytes n least
      have has := ang_size n least
      rw [← hds2] at hab has
      have Hab := Lib.hid hab
      have Has := Lib.hid has
      clear hab has hds2 hds hmf
      go_wp2_with (at_builtin; refine Hid.out ?_)
      refine Lib.hid ?_
      refine wpList_append_own _ rfl _ _ 36 rfl B 21 i0 _ 1 4 Tryd.underlying36 hi hz0 hz1 hz2 rfl (by decide) _ _ _ rfl (hown.alloc _) ⟨wr.heap.size, 0, none⟩ 1 1 [.int .i32 60] rfl rfl c1 (by simp [Value.oneCell']) c3 c4 c5 ?_
      intro v' w2 hown2 hg2 _
      have Hbel := Lib.hid ((hbw.alloc (by have := hbw.size; omega) _).grown hg2 c5 (fun k hk => (hown.lt k hk).1))
      have hs2 : B ≤ w2.heap.size := by have := Hbel.out.size; omega
      have hr : i32s (laidN ds) ++ [.int .i32 60] = rn ((laidN ds ++ [60]).map fun (x : Nat) => (x : Int)) := by
        rw [← i32s_rn]
        simp
      rw [hr] at hown2
      obtain ⟨A, c, hv, _, _⟩ := own_shape hown2
      subst hv
      have HR := Lib.hid (reverse_any B A (ds.length + 1 + 1) c _ w2 hown2 (by omega))
      have Hlt := Lib.hid hown2.lt
      clear hg2 hown2 hr hown
      go_wp2_with fail
      refine HR.out.mono ?_
      rintro _ w3 ⟨rfl, own3, g3⟩
      have Hbel3 := Lib.hid (Hbel.out.grown g3 hs2 (fun k hk => (Hlt.out k hk).1))
      have hcv := conv_list6 w3 _ A _ c _ (Rd.own own3)
      rw [← List.map_reverse, Hab.out] at hcv
      clear own3 g3
      go_wp2
      have hz : (((angZ n least).length : Nat) : Int) = (ds.length : Int) + 1 + 1 := by rw [← Has.out]; omega
      have Hz := Lib.hid hz
      clear hz
      go_ret2
      refine ⟨?_, Hbel3.out⟩
      rw [Hz.out]
      rfl
/-- what is shown of a sign -/
theorem sign_any (x : Nat) (tb : Int) (wd : Bool) (wt : Int) (jn rz : Bool) (hx : x < 2097152) (w : World) : Calls Tryd.prog 72 #[.int .i32 (x : Int), lookV tb wd wt jn rz] w fun e w' =>
    e = .returned (.tuple #[.string ⟨(sgnZ rz x).1.toArray⟩, .int .i64 (((sgnZ rz x).2 : Nat) : Int)]) ∧ Below w.heap.size w w' := by
  have HA := Lib.hid (fun W => angled_any x 4 hx (by omega) W)
  have hb : ∀ o, Below w.heap.size w (w.alloc o) := fun o => (Below.refl _ w).alloc (Nat.le_refl _) o
  cases rz with
  | false =>
    go_enter Tryd.func72, Tryd.ntmps72
    go_wp2
    go_ret2
    exact ⟨rfl, hb _⟩
  | true =>
    unfold sgnZ
    rw [if_pos rfl]
    go_enter Tryd.func72, Tryd.ntmps72
    go_wp2_with fail
    refine (HA.out _).mono ?_
    rintro _ w1 ⟨rfl, b1⟩
    have b2 := (hb _).trans (b1.mono (by simp))
    go_wp2
    go_ret2
    exact ⟨rfl, b2⟩
end Go.Proofs.YtfegbfhkmdmheaaDoor

/- Blanks by strings.Repeat; what is shown of a low control: walked. -/
namespace Go.Proofs.YtfegbfhkmdmheaaDoor
open Go.RowKit Go.Lib

abbrev spaces6 : ByteArray := ⟨([32, 32, 32, 32, 32, 32, 32, 32, 32, 32, 32, 32, 32, 32, 32, 32, 32, 32, 32, 32, 32, 32, 32, 32, 32, 32, 32, 32, 32, 32, 32, 32, 32, 32, 32, 32, 32, 32, 32, 32, 32, 32, 32, 32, 32, 32, 32, 32, 32, 32, 32, 32, 32, 32, 32, 32, 32, 32, 32, 32, 32, 32, 32, 32].append [32, 32, 32, 32, 32, 32, 32, 32, 32, 32, 32, 32, 32, 32, 32, 32, 32, 32, 32, 32, 32, 32, 32, 32, 32, 32, 32, 32, 32, 32, 32, 32, 32, 32, 32, 32, 32, 32, 32, 32, 32, 32, 32, 32, 32, 32, 32, 32, 32, 32, 32, 32, 32, 32, 32, 32, 32, 32, 32, 32, 32, 32, 32, 32]).toArray⟩
theorem blanks_of : ∀ n ≤ 16, (spaces6.extract 0 n).data.toList = List.replicate n 32 := by decide +kernel
set_option maxRecDepth 100000 in
set_option maxHeartbeats 1000000 in
theorem repeat_any (n : Nat) (h1 : 1 ≤ n) (h2 : n ≤ 16) (w : World) : Calls Tryd.prog 105 #[.string ⟨#[32]⟩, .int .i64 (n : Int)] w fun e w' => e = .returned (.string ⟨(List.replicate n 32).toArray⟩) ∧ w' = w := by
  by_cases e1 : n = 1
  · subst e1
    go_enter Tryd.func105, Tryd.ntmps105
    go_wp2
    go_ret
    exact ⟨rfl, rfl⟩
  · have HM := Tryd.bits_Mul 1 n (by omega) (by omega) w
    rw [show 1 * n / 18446744073709551616 = 0 by omega, show 1 * n % 18446744073709551616 = n by omega] at HM
    have HM := Lib.hid HM
    have HP := Lib.hid (fun s p W => Tryd.strings_HasPrefix s p W)
    have hbl := blanks_of n h2
    have hbe : spaces6.extract 0 n = ⟨(List.replicate n 32).toArray⟩ := ba6 (by rw [hbl])
    clear hbl
    have k0 : ((n : Int) == 0) = false := by simp; omega
    have k1 : ((n : Int) == 1) = false := by simp; omega
    have k2 : ¬ (n : Int) < 0 := by omega
    have k3 : IntKind.u64.wrap (n : Int) = (n : Int) := IntWalk.u64_in _ (by omega)
    have k4 : IntKind.i64.wrap (n : Int) = (n : Int) := IntWalk.i64_in _ (by omega)
    have k5 : (n : Int) ≤ 128 := by omega
    have k6 : ¬ ((9223372036854775807 : Int) < (n : Int)) := by omega
    go_enter Tryd.func105, Tryd.ntmps105
    go_wp2_with fail
    refine HM.out.mono ?_
    rintro _ w1 ⟨rfl, h⟩
    obtain rfl := h
    go_wp2_with fail
    refine (HP.out _ _ _).mono ?_
    rintro _ w1 ⟨rfl, h⟩
    obtain rfl := h
    go_wp2
    go_ret
    refine ⟨?_, rfl⟩
    exact congrArg (fun z => Ending.returned (Value.string z)) hbe

/-- what is shown of a low control -/
def lowcZ (stop : Nat) (k : List UInt8) : List UInt8 × Nat :=
  if k = [9] then (List.replicate stop 32, stop) else if k = [10] ∨ k = [13, 10] then ([], 0) else ([94, UInt8.ofNat (Nat.xor (gb k 0) 64)], 2)
theorem max_col (col : Int) (h0 : -9223372036854775808 ≤ col) (h1 : col ≤ 9223372036854775807) : max col 0 = ((col.toNat : Nat) : Int) := by omega
set_option maxRecDepth 100000 in
set_option maxHeartbeats 1000000 in
theorem low_tab_any (col : Int) (h0 : -9223372036854775808 ≤ col) (h1 : col ≤ 9223372036854775807) (tb : Int) (wd : Bool) (wt : Int) (jn rz : Bool) (w : World) :
    Calls Tryd.prog 71 #[.string ⟨#[9]⟩, .int .i64 col, lookV tb wd wt jn rz] w fun e w' =>
      e = .returned (.tuple #[.string ⟨(List.replicate (stopZ (tabN tb) col.toNat) 32).toArray⟩, .int .i64 ((stopZ (tabN tb) col.toNat : Nat) : Int)]) ∧ Below w.heap.size w w' := by
  have HT := Lib.hid (fun W => tab_any tb wd wt jn rz W)
  have htb := tabN_bounds tb
  have hst := stopZ_le tb col.toNat
  have hmx := max_col col h0 h1
  obtain ⟨c, hc⟩ : ∃ c, col.toNat = c := ⟨_, rfl⟩
  rw [hc] at hmx hst ⊢
  obtain ⟨S, hS⟩ : ∃ S, stopZ (tabN tb) c = S := ⟨_, rfl⟩
  have hS2 := hS
  rw [hS] at hst ⊢
  unfold stopZ at hS2
  have hS := hS2
  have hml : c % tabN tb < tabN tb := Nat.mod_lt _ (by omega)
  obtain ⟨T, hT⟩ : ∃ T, tabN tb = T := ⟨_, rfl⟩
  rw [hT] at HT htb hml hS
  obtain ⟨q, hq⟩ : ∃ q, c % T = q := ⟨_, rfl⟩
  have hrem : Int.tmod (c : Int) (T : Int) = (q : Int) := by rw [← hq]; exact (Int.ofNat_tmod c T).symm
  rw [hq] at hml hS
  have hw1 : IntKind.i64.wrap ((T : Int) - (q : Int)) = (S : Int) := by rw [IntWalk.i64_in _ (by omega)]; omega
  have hT0 : ((T : Int) == 0) = false := by simp; omega
  have HR := Lib.hid (fun W => repeat_any S (by omega) (by omega) W)
  have Hb := Lib.hid (fun o => (Below.refl _ w).alloc (Nat.le_refl _) o)
  have hL := LookAt.new w 46 tb wd wt jn rz
  obtain ⟨W, hW⟩ : ∃ W, w.alloc (.cells #[.int .i64 tb, .bool wd, .int .i8 wt, .bool jn, .bool rz] 46) = W := ⟨_, rfl⟩
  have hb : Below w.heap.size w W := by rw [← hW]; exact Hb.out _
  have hsz : w.heap.size < W.heap.size := by rw [← hW]; simp
  rw [hW] at hL
  obtain ⟨c0, c1, c2, c3, c4⟩ := hL
  clear hq hS2 Hb hc
  go_enter Tryd.func71, Tryd.ntmps71
  go_wp2_with fail
  try rw [hW]
  clear hW
  refine (HT.out _).mono ?_
  rintro _ w1 ⟨rfl, b1⟩
  have Hb1 := Lib.hid (hb.trans (b1.mono (by omega)))
  clear b1 hb
  go_wp2_with fail
  refine (HR.out _).mono ?_
  rintro _ w2 ⟨rfl, h⟩
  obtain rfl := h
  go_wp2
  go_ret2
  exact ⟨rfl, Hb1.out⟩
end Go.Proofs.YtfegbfhkmdmheaaDoor

/- A mark by itself, on a letter's place: walked. -/
namespace Go.Proofs.YtfegbfhkmdmheaaDoor
open Go.RowKit Go.Lib

theorem wpList_append_rows6 {P : Program} {w : World} {ops : Array Oper} {rest : List Oper} {o : Oper} {a : Act} {Q : Exit → Act → World → Prop} (hgd : o.guard = none) (s x : Operand) (t : TypeId)
    (ho : o.op = .call { callee := .builtin .append, args := #[s, x], argTypes := #[t, t] })
    (base : Nat) (e : TypeId) (i : TypeInfo) (z : Value) (bytes : Nat) (ht : P.underlying t = some (.slice e)) (hi : P.info? e = some i) (hz : i.zero = some z)
    (hsize : i.size = 1) (hby : i.bytes = bytes) (hzs : z.cells.size = 1)
    (v : Value) (n : Nat) (xs : List Value) (hs : a.eval s = v) (hown : w.ownsRow base e 1 v n xs)
    (base2 : Nat) (v2 : Value) (m : Nat) (news : List Value) (hx : a.eval x = v2) (hown2 : w.ownsRow base2 e 1 v2 m news) (h1 : ∀ u ∈ news, u.oneCell' = true)
    (h63 : n + m ≤ maxLen) (hbytes : (n + m) * bytes ≤ 140737488355328) (hbase : base ≤ w.heap.size)
    (h : ∀ v' w', w'.ownsRow base e 1 v' (n + m) (xs ++ news) → w.grownBy w' v.ownBlock → (v'.ownBlock = v.ownBlock ∨ v'.ownBlock = some w.heap.size) → wpList P ops Q rest (a.put o.dst v') w') :
    wpList P ops Q (o :: rest) a w := by
  have hl := hown2.1
  rcases hown2.2 with ⟨rfl, rfl⟩ | ⟨g, cap, cur, rfl, _, hg, _, _, _, htake⟩
  · have hn : news = [] := List.eq_nil_of_length_eq_zero (by omega)
    subst hn
    refine wpList_append_own_none hgd s x t ho base e i 1 ht hi v n xs hs hown hx ?_
    exact h v w (by simpa using hown) ⟨rfl, rfl, rfl, Nat.le_refl _, fun _ _ _ => rfl⟩ (.inl rfl)
  · exact wpList_append_own_at w hgd s x t ho base e i z 1 bytes ht hi hz hsize hby hzs (by omega) v n xs hs hown ⟨g, 0, none⟩ m cap news hx hl (hown2.cells (g := g) rfl) h1 h63 hbytes hbase (fun v' w' a b _ c => h v' w' a b c)
theorem Rd.take {w : World} {B n : Nat} {A : Option Addr} {xs : List Value} (h : Rd w B 1 A n xs) (k : Nat) (hk : k ≤ n) : Rd w B 1 A k (xs.take k) := by
  refine ⟨by have := h.1; rw [List.length_take]; omega, ?_⟩
  rcases h.2 with h0 | ⟨a, e, hb, hc⟩
  · exact .inl (by omega)
  · refine .inr ⟨a, e, hb, fun j u hu => hc j u ?_⟩
    rw [List.getElem?_take] at hu
    split at hu
    · exact hu
    · cases hu
theorem circ_bytes (l : List UInt8) (k : Nat) (hk : k = min ((runesOf l).length + 1) 32) : runesBytes ((9676 :: numsT l).take k) = ⟨(circP l).toArray⟩ := by
  apply ba6
  show encAll _ = circP l
  have hn : (numsT l).length = (runesOf l).length := by unfold numsT runesOf; simp
  have e : (9676 :: numsT l).take k = 9676 :: (numsT l).take 31 := by
    obtain ⟨j, rfl⟩ : ∃ j, k = j + 1 := ⟨k - 1, by omega⟩
    rw [List.take_succ_cons]
    congr 1
    rcases Nat.lt_or_ge (runesOf l).length 31 with h | h
    · rw [List.take_of_length_le (by omega), List.take_of_length_le (by omega)]
    · rw [show j = 31 by omega]
  rw [e]
  unfold circP
  generalize (9676 :: (numsT l).take 31) = L
  induction L with
  | nil => rfl
  | cons z L ih => rw [encAll_cons, ih, List.flatMap_cons]
set_option maxRecDepth 100000 in
set_option maxHeartbeats 1000000 in
theorem circle_any (s : ByteArray) (hs : s.size ≤ 1073741824) (w : World) : Calls Tryd.prog 73 #[.string s] w fun e w' => e = .returned (.string ⟨(circP s.data.toList).toArray⟩) ∧ Below w.heap.size w w' := by
  have hcs : (runesOf s.data.toList).length ≤ s.size := by
    have := segs_len s.data.toList
    rw [size_list] at this
    unfold runesOf
    simpa using this
  obtain ⟨i0, hi, hz0, hz1, hz2⟩ := info_parts rune_info6
  obtain ⟨B, hB⟩ : ∃ B, w.heap.size = B := ⟨_, rfl⟩
  obtain ⟨m, hm⟩ : ∃ m, (runesOf s.data.toList).length = m := ⟨_, rfl⟩
  have HR := Lib.hid (fun W => runes_any s W (by omega))
  have hcb := circ_bytes s.data.toList (min (m + 1) 32) (by rw [hm])
  rw [hm] at HR hcs
  have hown0 : (w.alloc (.cells #[.int .i32 9676] 21)).ownsRow B 21 1 (.slice (some ⟨w.heap.size, 0, none⟩) 1 1) 1 [.int .i32 9676] :=
    World.ownsRow_lit w #[.int .i32 9676] 1 (by omega) (by unfold maxLen; omega) rfl
  have hb0 : Below B w (w.alloc (.cells #[.int .i32 9676] 21)) := (Below.refl B w).alloc (by omega) _
  have hsz0 : B ≤ (w.alloc (.cells #[.int .i32 9676] 21)).heap.size := by simp; omega
  have hown0 : (w.alloc (.cells #[.int .i32 9676] 21)).ownsRow B 21 1 (.slice (some ⟨B, 0, none⟩) 1 1) 1 [.int .i32 9676] := by rw [← hB] at hown0 ⊢; exact hown0
  have Hown := Lib.hid hown0
  have Hb := Lib.hid hb0
  clear hown0 hb0
  rw [hB]
  go_enter Tryd.func73, Tryd.ntmps73
  go_wp2_with fail
  refine (HR.out _).mono ?_
  rintro _ w1 ⟨v, rfl, own1, b1⟩
  have own0 := own_below Hown.out b1
  have hb1 := Hb.out.trans (b1.mono hsz0)
  have hs1 := b1.size
  have h63 : 1 + m ≤ maxLen := by unfold maxLen; omega
  have hby : (1 + m) * 4 ≤ 140737488355328 := by omega
  have hb2 : B ≤ w1.heap.size := by omega
  have hone : ∀ u ∈ runeCells' (runesOf s.data.toList), u.oneCell' = true := by
    intro u hu
    unfold runeCells' at hu
    obtain ⟨r, _, rfl⟩ := List.mem_map.1 hu
    rfl
  have hcells : [Value.int .i32 9676] ++ runeCells' (runesOf s.data.toList) = rn (9676 :: numsT s.data.toList) := by
    unfold runeCells' runesOf numsT rn
    simp
  obtain ⟨news, hnews⟩ : ∃ news, runeCells' (runesOf s.data.toList) = news := ⟨_, rfl⟩
  rw [hnews] at own1 hone hcells
  obtain ⟨A1, cp1, hv1, _, _⟩ := own_shape own1
  subst hv1
  have Own0 := Lib.hid own0
  have Own1 := Lib.hid own1
  have Hb1 := Lib.hid hb1
  clear own0 own1 hb1 hnews Hown Hb
  go_wp2_with (at_builtin; refine Hid.out ?_)
  refine Lib.hid ?_
  refine wpList_append_rows6 rfl _ _ 36 rfl B 21 i0 _ 4 Tryd.underlying36 hi hz0 hz1 hz2 rfl _ _ _ rfl Own0.out _ _ _ _ rfl Own1.out hone h63 hby hb2 ?_
  intro v' w2 own2 g2 hblk
  have Hb2 := Lib.hid (Hb1.out.grown g2 hb2 (fun k hk => (Own0.out.lt k hk).1))
  rw [hcells] at own2
  obtain ⟨A2, cp2, hv2, hnc, hcm⟩ := own_shape own2
  subst hv2
  obtain ⟨k, hk⟩ : ∃ k, min (m + 1) 32 = k := ⟨_, rfl⟩
  have hki : min (1 + (m : Int)) 32 = (k : Int) := by omega
  have hrd := (Rd.own own2).take k (by omega)
  unfold rn at hrd
  rw [← List.map_take] at hrd
  have hcv := conv_list6 w2 _ A2 k cp2 _ hrd
  rw [hk] at hcb
  rw [hcb] at hcv
  have hkc : k ≤ cp2 := by omega
  have hkci : (k : Int) ≤ (cp2 : Int) := by omega
  clear own2 g2 hblk hrd hcb hk
  go_wp2
  go_ret
  exact ⟨rfl, Hb2.out⟩
end Go.Proofs.YtfegbfhkmdmheaaDoor
