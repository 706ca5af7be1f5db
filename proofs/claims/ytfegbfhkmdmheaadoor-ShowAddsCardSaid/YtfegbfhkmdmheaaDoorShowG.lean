/- What is shown of a cluster, pure: the program's order of its cases and the document's tell the same. -/
import Derived.Test.YtfegbfhkmdmheaaDoorFirstG
import Derived.Test.YtfegbfhkmdmheaaDoorRefTG
import Derived.Test.YtfegbfhkmdmheaaDoorBordG
set_option linter.unusedSimpArgs false
set_option linter.unusedVariables false
namespace Go.Proofs.YtfegbfhkmdmheaaDoor
open Go.RowKit Go.Lib

/-- every stretch of a table, with its class, is as f says -/
def spansOk (f : Nat → Nat → Nat → Bool) : Tab → Nat → Nat → Bool
  | [], s, c => f s 1114112 c
  | e :: t, s, c => f s e.1 c && spansOk f t e.1 e.2
theorem spans_at (f : Nat → Nat → Nat → Bool) : ∀ (l : Tab) (s c r : Nat), spansOk f l s c = true → s ≤ r → r < 1114112 → ∃ a b, f a b (clsFrom l c r) = true ∧ a ≤ r ∧ r < b
  | [], s, c, r, h, h1, h2 => ⟨s, 1114112, h, h1, h2⟩
  | e :: t, s, c, r, h, h1, h2 => by
    unfold spansOk at h
    obtain ⟨ha, hb⟩ := Bool.and_eq_true_iff.1 h
    unfold clsFrom
    by_cases hr : e.1 ≤ r
    · rw [Nat.ble_eq_true_of_le hr, cond_true]
      exact spans_at f t e.1 e.2 r hb hr h2
    · rw [show Nat.ble e.1 r = false from by cases hq : Nat.ble e.1 r with
        | false => rfl
        | true => exact absurd (Nat.le_of_ble_eq_true hq) hr, cond_false]
      exact ⟨s, e.1, ha, h1, by omega⟩
def ctlF (s e c : Nat) : Bool := bif Nat.beq c 0 then (Nat.ble e 32 || (Nat.ble 127 s && Nat.ble e 160)) else (Nat.ble 32 s && (Nat.ble e 127 || Nat.ble 160 s))
theorem ctl_tab : spansOk ctlF kindsL 0 0 = true := by decide +kernel
/-- what is a control -/
theorem k_ctl (r : Nat) : kN r = 0 ↔ r < 32 ∨ (127 ≤ r ∧ r ≤ 159) := by
  have key : ∀ q, q ≤ 1114111 → (cls kindsL q = 0 ↔ q < 32 ∨ (127 ≤ q ∧ q ≤ 159)) := by
    intro q hq
    obtain ⟨a, b, h, h1, h2⟩ := spans_at ctlF kindsL 0 0 q ctl_tab (Nat.zero_le _) (by omega)
    unfold ctlF at h
    show clsFrom kindsL 0 q = 0 ↔ _
    generalize clsFrom kindsL 0 q = c at h
    by_cases hc : c = 0
    · subst hc
      simp at h
      omega
    · rw [show Nat.beq c 0 = false from by cases hq : Nat.beq c 0 with
        | false => rfl
        | true => exact absurd (Nat.eq_of_beq_eq_true hq) hc, cond_false] at h
      simp at h
      omega
  unfold kN
  have hk := key (char r) (char_le r)
  rw [hk]
  unfold char
  split <;> omega

/-- the digits of n from the last on, at least so many -/
def digsF : Nat → Nat → Nat → List Nat
  | 0, _, _ => []
  | f + 1, n, least => if 0 < n ∨ 0 < least then n % 16 :: digsF f (n / 16) (least - 1) else []
def hexD (n : Nat) : UInt8 := if n < 10 then UInt8.ofNat (48 + n) else UInt8.ofNat (87 + n)
/-- the digits of n between < and > -/
def angZ (n least : Nat) : List UInt8 := 60 :: ((digsF 8 n least).reverse.map hexD ++ [62])
theorem ang_byte : ∀ b < 256, angZ b 2 = [60, hexD (b / 16), hexD (b % 16), 62] := by decide +kernel
/-- a sign: a character that only does something -/
def sgnZ (raw : Bool) (x : Nat) : List UInt8 × Nat := if raw then (angZ x 4, (angZ x 4).length) else ([], 0)
/-- the second of a cluster -/
def secZ (k : List UInt8) : Nat := match (segs k)[1]? with
  | some d => d.1
  | none => 65533
/-- what is shown of the cluster k and how wide, in the program's order; stop: the columns to the next tab stop; circ: k behind a letter's place -/
def oneZ (circ : List UInt8) (raw wid : Bool) (stop : Nat) (k : List UInt8) : List UInt8 × Nat :=
  let x := (dec k).1
  let w := wideOf (cls widthsL (char x)) wid
  if k = [] then ([], 0)
  else if x = 65533 ∧ (dec k).2 = 1 then (angZ (gb k 0) 2, 4)
  else if kN x = 0 then
    (if x ≤ 127 then (if k = [9] then (List.replicate stop 32, stop) else if k = [10] ∨ k = [13, 10] then ([], 0) else ([94, UInt8.ofNat (Nat.xor (gb k 0) 64)], 2)) else sgnZ raw x)
  else if kN x = 1 ∧ x ≠ 8204 ∧ x ≠ 8205 then sgnZ raw x
  else if kN x = 1 ∨ kN x = 2 then (circ, 1)
  else if kN x = 5 ∧ (x = 8232 ∨ x = 8233) then sgnZ raw x
  else if kN x = 7 ∧ ((regN x = true ∧ regN (secZ k) = true) ∨ (secZ k = 65039 ∧ w = 1)) then (k, 2)
  else if w = 0 then ([], 0) else (k, w)
/-- the same in the document's order -/
def oneY (circ : List UInt8) (raw wid : Bool) (stop : Nat) (k : List UInt8) : List UInt8 × Nat :=
  let x := (dec k).1
  let w := wideOf (cls widthsL (char x)) wid
  if k = [] then ([], 0)
  else if x = 65533 ∧ (dec k).2 = 1 then ([60, hexD (gb k 0 / 16), hexD (gb k 0 % 16), 62], 4)
  else if x = 9 then (List.replicate stop 32, stop)
  else if k = [10] ∨ k = [13, 10] then ([], 0)
  else if x < 32 then ([94, UInt8.ofNat (x + 64)], 2)
  else if x = 127 then ([94, 63], 2)
  else if (128 ≤ x ∧ x ≤ 159) ∨ x = 8232 ∨ x = 8233 ∨ (kN x = 1 ∧ joinN x = false) then sgnZ raw x
  else if kN x = 2 ∨ joinN x = true then (circ, 1)
  else if 1 < (segs k).length ∧ regN x = true ∧ regN (secZ k) = true then (k, 2)
  else if kN x = 7 ∧ w = 1 ∧ 1 < (segs k).length ∧ secZ k = 65039 then (k, 2)
  else if w = 0 then ([], 0) else (k, w)

theorem sec_long {k : List UInt8} (h : regN (secZ k) = true ∨ secZ k = 65039) : 1 < (segs k).length := by
  rcases Nat.lt_or_ge 1 (segs k).length with h1 | h1
  · exact h1
  · have e : secZ k = 65533 := by unfold secZ; rw [List.getElem?_eq_none h1]
    rw [e] at h
    exact absurd h (by decide)
/-- a low character is its own byte -/
theorem dec_low (k : List UInt8) (hk : k ≠ []) (h : (dec k).1 < 128) : (dec k).2 = 1 ∧ gb k 0 = (dec k).1 := by
  have hl := List.length_pos_iff.2 hk
  revert h
  unfold dec decodeN
  have := gb_lt k 0
  have := gb_lt k 1
  have := gb_lt k 2
  have := gb_lt k 3
  repeat' split
  all_goals first | (simp only; omega) | (intro h; simp only at h ⊢; omega) | (intro h; exact ⟨rfl, rfl⟩)
theorem xor_low : ∀ x < 32, UInt8.ofNat (Nat.xor x 64) = UInt8.ofNat (x + 64) := by decide +kernel
theorem one_byte {k : List UInt8} (hk : k ≠ []) (h1 : (segs k).length = 1) (hw : (dec k).2 = 1) : k = [UInt8.ofNat (gb k 0)] := by
  have hs := segs_cons k hk
  rw [hw] at hs
  have : segs (k.drop 1) = [] := by
    rw [hs, List.length_cons] at h1
    exact List.length_eq_zero_iff.1 (by omega)
  have hd : k.drop 1 = [] := Decidable.byContradiction fun e => segs_ne _ e this
  cases k with
  | nil => exact absurd rfl hk
  | cons a t =>
    have : t = [] := hd
    subst this
    simp [gb]
theorem kN_low {x : Nat} (h : kN x ≠ 0) : 32 ≤ x ∧ x ≠ 127 ∧ ¬ (128 ≤ x ∧ x ≤ 159) := by
  have := k_ctl x
  omega
/-- of one cluster both orders tell the same -/
theorem one_same (circ : List UInt8) (raw wid : Bool) (stop : Nat) (k : List UInt8) (h1 : kN (dec k).1 = 0 → (dec k).1 ≠ 13 → (segs k).length = 1) :
    oneY circ raw wid stop k = oneZ circ raw wid stop k := by
  unfold oneY oneZ
  obtain ⟨p1, p2, p3, p4, p5, p6, p7⟩ := k_points
  by_cases hk : k = []
  · rw [if_pos hk, if_pos hk]
  simp only [if_neg hk]
  by_cases hb : (dec k).1 = 65533 ∧ (dec k).2 = 1
  · simp only [if_pos hb]
    rw [ang_byte _ (gb_lt k 0)]
  simp only [if_neg hb]
  have hlow := dec_low k hk
  have hob := one_byte hk
  have hsl := sec_long (k := k)
  have hnl0 : 32 ≤ (dec k).1 → ¬ (k = [10] ∨ k = [13, 10]) := by
    intro h e
    rcases e with e | e
    · rw [e] at h
      revert h
      decide
    · rw [e] at h
      revert h
      decide
  generalize (dec k).1 = x at *
  generalize (dec k).2 = z at *
  by_cases h0 : kN x = 0
  · have hc := (k_ctl x).1 h0
    simp only [if_pos h0]
    by_cases hx : x ≤ 127
    · obtain ⟨rfl, hg⟩ := hlow (by omega)
      simp only [if_pos hx]
      by_cases h9 : x = 9
      · have e := hob (h1 h0 (by omega)) rfl
        rw [hg, h9] at e
        rw [if_pos h9, if_pos (show k = [9] from e)]
      · have e9 : k ≠ [9] := by
          intro e
          rw [e] at hg
          exact h9 (hg.symm.trans rfl)
        rw [if_neg h9, if_neg e9]
        by_cases hl : k = [10] ∨ k = [13, 10]
        · rw [if_pos hl, if_pos hl]
        · rw [if_neg hl, if_neg hl, hg]
          by_cases h32 : x < 32
          · rw [if_pos h32, xor_low x h32]
          · have : x = 127 := by omega
            subst this
            rfl
    · have hnl : ¬ (k = [10] ∨ k = [13, 10]) := fun e => hnl0 (by omega) e
      rw [if_neg hx, if_neg (by omega), if_neg hnl, if_neg (by omega), if_neg (by omega), if_pos (.inl (by omega))]
  · have hx := kN_low h0
    have hnl : ¬ (k = [10] ∨ k = [13, 10]) := fun e => hnl0 (by omega) e
    rw [if_neg h0, if_neg (by omega), if_neg hnl, if_neg (by omega), if_neg (by omega)]
    by_cases h1k : kN x = 1
    · by_cases hj : x = 8204 ∨ x = 8205
      · have hjn : joinN x = true := by unfold joinN; simpa using hj
        rw [if_neg (by rw [hjn]; simp; omega), if_pos (.inr hjn), if_neg (by omega), if_pos (.inl h1k)]
      · have hjn : joinN x = false := by unfold joinN; simp; omega
        rw [if_pos (.inr (.inr (.inr ⟨h1k, hjn⟩))), if_pos ⟨h1k, by omega, by omega⟩]
    · have hjn : joinN x = false := by
        unfold joinN
        simp
        exact ⟨fun e => h1k (by rw [e]; exact p3), fun e => h1k (by rw [e]; exact p4)⟩
      by_cases h2k : kN x = 2
      · have a8 : x ≠ 8232 := fun e => by rw [e, p5] at h2k; cases h2k
        have a9 : x ≠ 8233 := fun e => by rw [e, p6] at h2k; cases h2k
        rw [if_neg (by omega), if_pos (.inl h2k), if_neg (by omega), if_pos (.inr h2k)]
      · by_cases hs : x = 8232 ∨ x = 8233
        · have h5 : kN x = 5 := by rcases hs with rfl | rfl; exact p5; exact p6
          rw [if_pos (by omega), if_neg (by omega), if_neg (by omega), if_pos ⟨h5, hs⟩]
        · have r1 : ¬ (kN x = 1 ∧ x ≠ 8204 ∧ x ≠ 8205) := by omega
          have r2 : ¬ (kN x = 1 ∨ kN x = 2) := by omega
          have r3 : ¬ (kN x = 5 ∧ (x = 8232 ∨ x = 8233)) := by omega
          rw [if_neg (by omega), if_neg (by rw [hjn]; simp; exact h2k), if_neg r1, if_neg r2, if_neg r3]
          by_cases hr : regN x = true ∧ regN (secZ k) = true
          · have h7 : kN x = 7 := by
              have := hr.1
              unfold regN at this
              exact (k_reg (by simpa using this)).1
            rw [if_pos ⟨hsl (.inl hr.2), hr⟩, if_pos ⟨h7, .inl hr⟩]
          · rw [if_neg (fun h => hr h.2)]
            by_cases hq : kN x = 7 ∧ wideOf (cls widthsL (char x)) wid = 1 ∧ secZ k = 65039
            · rw [if_pos ⟨hq.1, hq.2.1, hsl (.inr hq.2.2), hq.2.2⟩, if_pos ⟨hq.1, .inr ⟨hq.2.2, hq.2.1⟩⟩]
            · have r4 : ¬ (kN x = 7 ∧ ((regN x = true ∧ regN (secZ k) = true) ∨ (secZ k = 65039 ∧ wideOf (cls widthsL (char x)) wid = 1))) := fun h => h.2.elim hr fun h' => hq ⟨h.1, h'.2, h'.1⟩
              rw [if_neg (fun h => hq ⟨h.1, h.2.1, h.2.2.2⟩), if_neg r4]
end Go.Proofs.YtfegbfhkmdmheaaDoor

/- A text without bad bytes is what its numbers write; a cluster that begins with a mark, and what is shown of it (pure). -/
namespace Go.Proofs.YtfegbfhkmdmheaaDoor
open Go.RowKit Go.Lib

set_option maxRecDepth 100000 in
/-- a text without a bad byte is what its numbers make -/
theorem enc_dec6 (l : List UInt8) (h : l ≠ []) (hb : badSeg (dec l) = false) : enc ((dec l).1 : Int) = l.take (dec l).2 := by
  obtain ⟨f1, f2, f3, _, _, _, f7⟩ := dec_facts l h
  have hc : clean ((dec l).1 : Int) = (dec l).1 := by
    unfold clean Utf8.valid
    rw [if_pos (by simp; omega)]
    simp
  rw [enc_encN, hc]
  have hb' : ¬ ((dec l).2 = 1 ∧ (dec l).1 = 65533) := by
    intro e
    unfold badSeg at hb
    simp [e] at hb
  clear hb hc f7
  have h0 := gb_lt l 0
  have h1 := gb_lt l 1
  have h2 := gb_lt l 2
  have h3 := gb_lt l 3
  have ext : ∀ (k : Nat) (bs : List UInt8), bs.length = k → k ≤ l.length → (∀ j (hj : j < bs.length), (bs[j]'hj).toNat = gb l j) → bs = l.take k := by
    intro k bs hk hkl hall
    apply List.ext_getElem
    · simp; omega
    · intro j hj1 hj2
      simp only [List.getElem_take]
      apply UInt8.toNat_inj.1
      rw [hall j hj1]
      unfold gb
      simp [List.getD, List.getElem?_eq_getElem (show j < l.length by omega)]
  obtain ⟨x, hx⟩ : ∃ x, dec l = x := ⟨_, rfl⟩
  rw [hx] at f1 f2 f3 hb' ⊢
  unfold dec decodeN at hx
  unfold encN
  repeat' split at hx
  all_goals subst hx
  all_goals try (exfalso; simp at hb'; done)
  · rw [if_pos (by assumption)]
    refine ext 1 _ rfl (by simpa using f3) ?_
    intro j hj
    have : j = 0 := by simpa using hj
    subst this
    simp only [List.getElem_cons_zero]
    rw [nat8 _ (by omega)]
  · simp only at f3
    rw [if_neg (by simp only; omega), if_pos (by simp only; omega)]
    refine ext 2 _ rfl f3 ?_
    intro j hj
    have : j = 0 ∨ j = 1 := by simp at hj; omega
    rcases this with rfl | rfl
    · simp only [List.getElem_cons_zero]; rw [nat8 _ (by omega)]; omega
    · simp only [List.getElem_cons_succ, List.getElem_cons_zero]; rw [nat8 _ (by omega)]; omega
  · simp only at f3
    rw [if_neg (by simp only; omega), if_neg (by simp only; omega), if_pos (by simp only; omega)]
    refine ext 3 _ rfl f3 ?_
    intro j hj
    have : j = 0 ∨ j = 1 ∨ j = 2 := by simp at hj; omega
    rcases this with rfl | rfl | rfl
    · simp only [List.getElem_cons_zero]; rw [nat8 _ (by omega)]; omega
    · simp only [List.getElem_cons_succ, List.getElem_cons_zero]; rw [nat8 _ (by omega)]; omega
    · simp only [List.getElem_cons_succ, List.getElem_cons_zero]; rw [nat8 _ (by omega)]; omega
  · simp only at f3
    rw [if_neg (by simp only; omega), if_neg (by simp only; omega), if_neg (by simp only; omega)]
    refine ext 4 _ rfl f3 ?_
    intro j hj
    have : j = 0 ∨ j = 1 ∨ j = 2 ∨ j = 3 := by simp at hj; omega
    rcases this with rfl | rfl | rfl | rfl
    · simp only [List.getElem_cons_zero]; rw [nat8 _ (by omega)]; omega
    · simp only [List.getElem_cons_succ, List.getElem_cons_zero]; rw [nat8 _ (by omega)]; omega
    · simp only [List.getElem_cons_succ, List.getElem_cons_zero]; rw [nat8 _ (by omega)]; omega
    · simp only [List.getElem_cons_succ, List.getElem_cons_zero]; rw [nat8 _ (by omega)]; omega


/-- the numbers of a text -/
def numsT (l : List UInt8) : List Int := (segs l).map fun d => (d.1 : Int)
theorem write_read : ∀ l : List UInt8, (∀ d ∈ segs l, badSeg d = false) → ∀ n, ((numsT l).take n).flatMap enc = l.take (total ((segs l).take n)) := walk_ind
  (p := fun l => (∀ d ∈ segs l, badSeg d = false) → ∀ n, ((numsT l).take n).flatMap enc = l.take (total ((segs l).take n)))
  (fun _ n => by simp [numsT, segs_nil]) fun l hl ih hb n => by
    have hs := segs_cons l hl
    have hd : badSeg (dec l) = false := hb _ (by rw [hs]; exact List.mem_cons_self)
    have ih := ih (fun d hd => hb d (by rw [hs]; exact List.mem_cons_of_mem _ hd))
    cases n with
    | zero => simp [total]
    | succ n =>
      have e : numsT l = ((dec l).1 : Int) :: numsT (l.drop (dec l).2) := by unfold numsT; rw [hs]; rfl
      have et : total ((segs l).take (n + 1)) = (dec l).2 + total ((segs (l.drop (dec l).2)).take n) := by rw [hs, List.take_succ_cons]; simp [total]
      rw [e, et, List.take_succ_cons, List.flatMap_cons, ih n, enc_dec6 l hl hd, List.take_add]
/-- behind a letter's place -/
def circP (k : List UInt8) : List UInt8 := (9676 :: (numsT k).take 31).flatMap enc
def circD (k : List UInt8) : List UInt8 := [226, 151, 140] ++ (if (segs k).length = 32 then k.take (total ((segs k).take 31)) else k)
theorem enc_circle : enc 9676 = [226, 151, 140] := by decide +kernel
theorem circ_same {k : List UInt8} (hb : ∀ d ∈ segs k, badSeg d = false) (h32 : (segs k).length ≤ 32) : circP k = circD k := by
  unfold circP circD
  rw [List.flatMap_cons, enc_circle, write_read k hb 31]
  by_cases h : (segs k).length = 32
  · rw [if_pos h]
  · rw [if_neg h, show (segs k).take 31 = segs k from List.take_of_length_le (by omega), total_segs, List.take_length]

theorem roleD_first {k : List UInt8} (hk : k ≠ []) : roleD (segs k) 0 = roleN (dec k).1 (dec k).2 := by
  unfold roleD
  rw [segs_cons k hk]
  rfl
/-- a cluster that begins with a control has but that one; with a carriage return, two at most -/
theorem clu_one {k : List UInt8} (hk : k ≠ []) (hc : clD (segs k) = (segs k).length) (h0 : kN (dec k).1 = 0) (h13 : (dec k).1 ≠ 13) : (segs k).length = 1 := by
  obtain ⟨_, _, _, h⟩ := role_words (dec k).1 (dec k).2
  rcases h with h | ⟨ha, _, hcr, _⟩
  · rw [h.1] at h0
    have := (k_ctl 65533).1 h0
    omega
  · have hal : aloneN (dec k).1 = true := by unfold aloneN; rw [h0]; rfl
    have h2 : (roleN (dec k).1 (dec k).2 == 2) = false := by rw [← hcr]; simpa using h13
    rw [hal, h2] at ha
    have hr : roleN (dec k).1 (dec k).2 = 1 ∨ roleN (dec k).1 (dec k).2 = 4 := by simpa using ha.symm
    rw [← roleD_first hk] at hr
    rw [← hc]
    unfold clD
    rw [if_neg (by rw [segs_cons k hk]; simp), if_pos hr]
theorem one_clu (circ : List UInt8) (raw wid : Bool) (stop : Nat) {k : List UInt8} (hk : k ≠ []) (hc : clD (segs k) = (segs k).length) : oneY circ raw wid stop k = oneZ circ raw wid stop k :=
  one_same circ raw wid stop k fun h0 h13 => clu_one hk hc h0 h13
end Go.Proofs.YtfegbfhkmdmheaaDoor

/- How many columns the clusters of a text take, and how much of it has place (pure). -/
namespace Go.Proofs.YtfegbfhkmdmheaaDoor
open Go.RowKit Go.Lib

/-- the columns to the next tab stop -/
def stopZ (tb col : Nat) : Nat := tb - col % tb
theorem stop_mod (tb col : Nat) : stopZ tb (col % tb) = stopZ tb col := by unfold stopZ; rw [Nat.mod_mod]
theorem stop_add (tb a b : Nat) : stopZ tb (a % tb + b) = stopZ tb (a + b) := by unfold stopZ; rw [Nat.mod_add_mod]
theorem stop_two (tb a b : Nat) : stopZ tb (a % tb + b % tb) = stopZ tb (a + b) := by unfold stopZ; rw [← Nat.add_mod]
/-- how many columns a cluster takes -/
def wOf (raw wid : Bool) (stop : Nat) (k : List UInt8) : Nat := (oneZ [] raw wid stop k).2
theorem one_wide (circ : List UInt8) (raw wid : Bool) (stop : Nat) (k : List UInt8) : (oneZ circ raw wid stop k).2 = wOf raw wid stop k := by
  unfold wOf oneZ
  dsimp only
  repeat' split
  all_goals rfl
/-- how many columns clusters take, the first one at the column c -/
def sumW (raw wid : Bool) (tb : Nat) : List (List UInt8) → Nat → Nat
  | [], _ => 0
  | k :: L, c => wOf raw wid (stopZ tb c) k + sumW raw wid tb L (c + wOf raw wid (stopZ tb c) k)
theorem sumW_cons (raw wid : Bool) (tb : Nat) (k : List UInt8) (L : List (List UInt8)) (c : Nat) : sumW raw wid tb (k :: L) c = wOf raw wid (stopZ tb c) k + sumW raw wid tb L (c + wOf raw wid (stopZ tb c) k) := rfl
theorem sumW_mod (raw wid : Bool) (tb : Nat) : ∀ (L : List (List UInt8)) (c d : Nat), c % tb = d % tb → sumW raw wid tb L c = sumW raw wid tb L d
  | [], _, _, _ => rfl
  | k :: L, c, d, h => by
    have e : stopZ tb c = stopZ tb d := by unfold stopZ; rw [h]
    unfold sumW
    rw [e, sumW_mod raw wid tb L (c + wOf raw wid (stopZ tb d) k) (d + wOf raw wid (stopZ tb d) k) (by rw [Nat.add_mod, h, ← Nat.add_mod])]
theorem sumW_append (raw wid : Bool) (tb : Nat) : ∀ (L M : List (List UInt8)) (c : Nat), sumW raw wid tb (L ++ M) c = sumW raw wid tb L c + sumW raw wid tb M (c + sumW raw wid tb L c)
  | [], M, c => by simp [sumW]
  | k :: L, M, c => by
    rw [List.cons_append, sumW_cons, sumW_cons, sumW_append raw wid tb L M, Nat.add_assoc, Nat.add_assoc]
theorem sumW_snoc (raw wid : Bool) (tb : Nat) (L : List (List UInt8)) (k : List UInt8) (c : Nat) : sumW raw wid tb (L ++ [k]) c = sumW raw wid tb L c + wOf raw wid (stopZ tb (c + sumW raw wid tb L c)) k := by
  rw [sumW_append]
  simp [sumW]
theorem sumW_le (raw wid : Bool) (tb : Nat) (L : List (List UInt8)) (c : Nat) {m n : Nat} (h : m ≤ n) : sumW raw wid tb (L.take m) c ≤ sumW raw wid tb (L.take n) c := by
  obtain ⟨q, rfl⟩ := Nat.exists_eq_add_of_le h
  rw [List.take_add, sumW_append]
  exact Nat.le_add_right _ _
/-- how many clusters have place in w columns -/
def fitN (raw wid : Bool) (tb : Nat) (w : Int) : List (List UInt8) → Nat → Nat
  | [], _ => 0
  | k :: L, c => if w < ((c + wOf raw wid (stopZ tb c) k : Nat) : Int) then 0 else fitN raw wid tb w L (c + wOf raw wid (stopZ tb c) k) + 1
theorem fitN_le (raw wid : Bool) (tb : Nat) (w : Int) : ∀ (L : List (List UInt8)) (c : Nat), fitN raw wid tb w L c ≤ L.length
  | [], _ => Nat.le_refl _
  | k :: L, c => by
    unfold fitN
    split
    · exact Nat.zero_le _
    · have := fitN_le raw wid tb w L (c + wOf raw wid (stopZ tb c) k)
      rw [List.length_cons]
      omega
/-- so many have place, and no more -/
theorem fitN_is (raw wid : Bool) (tb : Nat) (w : Int) : ∀ (L : List (List UInt8)) (c n : Nat), 0 < n → n ≤ L.length → (((c + sumW raw wid tb (L.take n) c : Nat) : Int) ≤ w ↔ n ≤ fitN raw wid tb w L c)
  | [], _, n, h0, h => by simp at h; omega
  | k :: L, c, n, h0, h => by
    obtain ⟨m, rfl⟩ : ∃ m, n = m + 1 := ⟨n - 1, by omega⟩
    have hm : m ≤ L.length := by simpa using h
    rw [List.take_succ_cons]
    unfold fitN sumW
    generalize wOf raw wid (stopZ tb c) k = v
    by_cases hv : w < ((c + v : Nat) : Int)
    · rw [if_pos hv]
      omega
    · rw [if_neg hv]
      by_cases h1 : m = 0
      · subst h1
        simp [sumW]
        omega
      · have ih := fitN_is raw wid tb w L (c + v) m (by omega) hm
        rw [← Nat.add_assoc]
        omega
end Go.Proofs.YtfegbfhkmdmheaaDoor

/- The first characters of a list that are a cluster are one cluster (pure). -/
namespace Go.Proofs.YtfegbfhkmdmheaaDoor
open Go.RowKit Go.Lib

theorem roleD_take6 {ds : List (Nat × Nat)} {m k : Nat} (h : k < m) : roleD (ds.take m) k = roleD ds k := by
  unfold roleD
  rw [List.getElem?_take_of_lt h]
theorem goesD_take6 {ds : List (Nat × Nat)} {m k : Nat} (h : k < m) : goesD (ds.take m) k = goesD ds k := by
  unfold goesD
  rw [roleD_take6 h, roleD_take6 (show k - 1 < m by omega), roleD_take6 (show 0 < m by omega)]
theorem runD_take6 (ds : List (Nat × Nat)) : ∀ f n, n ≤ ds.length → n ≤ 32 → runD (ds.take (runD ds f n)) f n = runD ds f n
  | 0, _, _, _ => rfl
  | f + 1, n, h, h2 => by
    by_cases hc : n < ds.length ∧ n < 32 ∧ goesD ds n = true
    · have e : runD ds (f + 1) n = runD ds f (n + 1) := by rw [runD, if_pos hc]
      have hb := runD_bounds ds f (n + 1) (by omega) (by omega)
      rw [e]
      have ih := runD_take6 ds f (n + 1) (by omega) (by omega)
      generalize runD ds f (n + 1) = m at *
      rw [runD, if_pos ⟨by rw [List.length_take]; omega, hc.2.1, by rw [goesD_take6 (show n < m by omega)]; exact hc.2.2⟩]
      exact ih
    · have e : runD ds (f + 1) n = n := by rw [runD, if_neg hc]
      rw [e, runD, if_neg (fun hh => by have := hh.1; rw [List.length_take] at this; omega)]
/-- what the first cluster takes is one cluster -/
theorem clD_take6 (ds : List (Nat × Nat)) (h : 0 < ds.length) : clD (ds.take (clD ds)) = (ds.take (clD ds)).length ∧ (ds.take (clD ds)).length = clD ds := by
  obtain ⟨b1, b2, _⟩ := clD_bounds h
  have hl : (ds.take (clD ds)).length = clD ds := by rw [List.length_take]; omega
  refine ⟨?_, hl⟩
  rw [hl]
  have hr0 : roleD (ds.take (clD ds)) 0 = roleD ds 0 := roleD_take6 (by omega)
  have hn : ¬ (ds.take (clD ds)).length = 0 := by omega
  by_cases h1 : roleD ds 0 = 1 ∨ roleD ds 0 = 4
  · have e : clD ds = 1 := by unfold clD; rw [if_neg (by omega), if_pos h1]
    rw [e] at hn hr0 ⊢
    unfold clD
    rw [if_neg hn, hr0, if_pos h1]
  by_cases h2 : roleD ds 0 = 2
  · by_cases h3 : roleD ds 1 = 4
    · have e : clD ds = 2 := by unfold clD; rw [if_neg (by omega), if_neg h1, if_pos h2, if_pos h3]
      have hr1 : roleD (ds.take 2) 1 = roleD ds 1 := roleD_take6 (by omega)
      rw [e] at hn hr0 ⊢
      unfold clD
      rw [if_neg hn, hr0, if_neg h1, if_pos h2, hr1, if_pos h3]
    · have e : clD ds = 1 := by unfold clD; rw [if_neg (by omega), if_neg h1, if_pos h2, if_neg h3]
      have hr1 : roleD (ds.take 1) 1 = 0 := roleD_none (by rw [List.length_take]; omega)
      rw [e] at hn hr0 ⊢
      unfold clD
      rw [if_neg hn, hr0, if_neg h1, if_pos h2, hr1, if_neg (by decide)]
  · have e : clD ds = runD ds 32 1 := by unfold clD; rw [if_neg (by omega), if_neg h1, if_neg h2]
    rw [e] at hn hr0 ⊢
    have ht := runD_take6 ds 32 1 (by omega) (by omega)
    generalize runD ds 32 1 = m at *
    unfold clD
    rw [if_neg hn, hr0, if_neg h1, if_neg h2, ht]
/-- one cluster -/
def Clu (k : List UInt8) : Prop := k ≠ [] ∧ clD (segs k) = (segs k).length ∧ (segs k).length ≤ 32
theorem clu_most {k : List UInt8} (hk : k ≠ []) (h : clD (segs k) = (segs k).length) : Clu k := by
  have h0 : 0 < (segs k).length := List.length_pos_iff.2 (segs_ne k hk)
  have := clD_bounds h0
  exact ⟨hk, h, by omega⟩
theorem Clu.same {k : List UInt8} (h : Clu k) (circ : List UInt8) (raw wid : Bool) (stop : Nat) : oneY circ raw wid stop k = oneZ circ raw wid stop k := one_clu circ raw wid stop h.1 h.2.1
theorem cut_clu {s : ByteArray} {i : Nat} (h : i < chars s) : Clu (s.extract (placeAt s i) (placeAt s (clEnd s i))).data.toList := by
  obtain ⟨h1, h2⟩ := clEnd_bounds h
  have e := placeAt_ext s i (clEnd s i) (Nat.le_of_lt h1) h2
  have hcl : clEnd s i - i = clD ((segs s.data.toList).drop i) := by unfold clEnd; omega
  rw [hcl] at e
  have h0 : 0 < ((segs s.data.toList).drop i).length := by rw [List.length_drop]; have : (segs s.data.toList).length = chars s := rfl; omega
  obtain ⟨c1, c2⟩ := clD_take6 _ h0
  have b := clD_bounds h0
  refine clu_most ?_ (by rw [e]; exact c1)
  intro hn
  rw [hn, segs_nil] at e
  rw [← e] at c2
  simp at c2
  omega
theorem pcsF_clu (s : ByteArray) : ∀ (f i : Nat) (x : Nat × ByteArray), x ∈ pcsF s f i → Clu x.2.data.toList
  | 0, _, _, h => by simp [pcsF] at h
  | f + 1, i, x, h => by
    unfold pcsF at h
    by_cases hi : i < chars s
    · rw [if_pos hi] at h
      rcases List.mem_cons.1 h with rfl | h
      · exact cut_clu hi
      · exact pcsF_clu s f _ x h
    · rw [if_neg hi] at h
      simp at h
/-- the clusters of a text are clusters -/
theorem pcs_clu (s : ByteArray) {x : Nat × ByteArray} (h : x ∈ pcs s) : Clu x.2.data.toList := pcsF_clu s _ _ x h
end Go.Proofs.YtfegbfhkmdmheaaDoor
