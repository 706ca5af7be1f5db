/- A text's pieces, written out again, are the text (pure). -/
import Derived.Test.YtjkakemlhhieoaaGreatDoorBadG
import Derived.Test.YtjkakemlhhieoaaGreatDoorPurePO
import Derived.Below
set_option linter.unusedSimpArgs false
set_option linter.unusedVariables false
namespace Go.Proofs.YtjkakemlhhieoaaGreatDoor
open Go.RowKit Go.Lib

set_option maxRecDepth 100000 in
/-- a text without a bad byte is what its numbers make -/
theorem enc_dec5 (l : List UInt8) (h : l ≠ []) (hb : badSeg (dec l) = false) : enc ((dec l).1 : Int) = l.take (dec l).2 := by
  obtain ⟨f1, f2, f3, _, _, _, f7⟩ := dec_facts l h
  have hc : clean ((dec l).1 : Int) = (dec l).1 := by
    unfold clean Utf8.valid
    rw [if_pos (by simp; omega)]
    simp
  rw [enc_encN, hc]
  have hb' : ¬ ((dec l).2 = 1 ∧ (dec l).1 = 65533) := by
    intro e
    unfold badSeg at hb
    simp [e] at hb
  clear hb hc f7
  have h0 := gb_lt l 0
  have h1 := gb_lt l 1
  have h2 := gb_lt l 2
  have h3 := gb_lt l 3
  have ext : ∀ (k : Nat) (bs : List UInt8), bs.length = k → k ≤ l.length → (∀ j (hj : j < bs.length), (bs[j]'hj).toNat = gb l j) → bs = l.take k := by
    intro k bs hk hkl hall
    apply List.ext_getElem
    · simp; omega
    · intro j hj1 hj2
      simp only [List.getElem_take]
      apply UInt8.toNat_inj.1
      rw [hall j hj1]
      unfold gb
      simp [List.getD, List.getElem?_eq_getElem (show j < l.length by omega)]
  obtain ⟨x, hx⟩ : ∃ x, dec l = x := ⟨_, rfl⟩
  rw [hx] at f1 f2 f3 hb' ⊢
  unfold dec decodeN at hx
  unfold encN
  repeat' split at hx
  all_goals subst hx
  all_goals try (exfalso; simp at hb'; done)
  · rw [if_pos (by assumption)]
    refine ext 1 _ rfl (by simpa using f3) ?_
    intro j hj
    have : j = 0 := by simpa using hj
    subst this
    simp only [List.getElem_cons_zero]
    rw [nat8 _ (by omega)]
  · simp only at f3
    rw [if_neg (by simp only; omega), if_pos (by simp only; omega)]
    refine ext 2 _ rfl f3 ?_
    intro j hj
    have : j = 0 ∨ j = 1 := by simp at hj; omega
    rcases this with rfl | rfl
    · simp only [List.getElem_cons_zero]; rw [nat8 _ (by omega)]; omega
    · simp only [List.getElem_cons_succ, List.getElem_cons_zero]; rw [nat8 _ (by omega)]; omega
  · simp only at f3
    rw [if_neg (by simp only; omega), if_neg (by simp only; omega), if_pos (by simp only; omega)]
    refine ext 3 _ rfl f3 ?_
    intro j hj
    have : j = 0 ∨ j = 1 ∨ j = 2 := by simp at hj; omega
    rcases this with rfl | rfl | rfl
    · simp only [List.getElem_cons_zero]; rw [nat8 _ (by omega)]; omega
    · simp only [List.getElem_cons_succ, List.getElem_cons_zero]; rw [nat8 _ (by omega)]; omega
    · simp only [List.getElem_cons_succ, List.getElem_cons_zero]; rw [nat8 _ (by omega)]; omega
  · simp only at f3
    rw [if_neg (by simp only; omega), if_neg (by simp only; omega), if_neg (by simp only; omega)]
    refine ext 4 _ rfl f3 ?_
    intro j hj
    have : j = 0 ∨ j = 1 ∨ j = 2 ∨ j = 3 := by simp at hj; omega
    rcases this with rfl | rfl | rfl | rfl
    · simp only [List.getElem_cons_zero]; rw [nat8 _ (by omega)]; omega
    · simp only [List.getElem_cons_succ, List.getElem_cons_zero]; rw [nat8 _ (by omega)]; omega
    · simp only [List.getElem_cons_succ, List.getElem_cons_zero]; rw [nat8 _ (by omega)]; omega
    · simp only [List.getElem_cons_succ, List.getElem_cons_zero]; rw [nat8 _ (by omega)]; omega

theorem scal_dec (l : List UInt8) (h : l ≠ []) : Scal ((dec l).1 : Int) := by
  obtain ⟨f1, f2, f3, _, _, _, f7⟩ := dec_facts l h
  unfold Scal
  omega
theorem piece_head (l : List UInt8) (h : l ≠ []) : pieceB (headI l) = l.take (dec l).2 := by
  unfold headI
  by_cases hb : (dec l).2 = 1 ∧ 128 ≤ gb l 0
  · rw [if_pos hb, hb.1]
    unfold pieceB
    rw [if_neg (by show gb l 0 ≠ 0; omega)]
    cases l with
    | nil => exact absurd rfl h
    | cons a t =>
      show [UInt8.ofNat (gb (a :: t) 0)] = [a]
      rw [show gb (a :: t) 0 = a.toNat from rfl, UInt8.ofNat_toNat]
  · rw [if_neg hb]
    unfold pieceB
    rw [if_pos rfl]
    have e := enc_dec5 l h (by rw [badSeg_raw]; exact decide_eq_false hb)
    rw [← e, encodeRune_encN _ (scal_dec l h), enc_encN]
    have hc : clean ((dec l).1 : Int) = (dec l).1 := by
      have := scal_dec l h
      unfold Scal at this
      unfold clean Utf8.valid
      rw [if_pos (by simp; omega)]
      simp
    rw [hc]
    rfl
/-- a text is what its pieces write -/
theorem textP_items (l : List UInt8) : textP (items l) = l := by
  induction l using walk_ind with
  | h0 => rfl
  | h1 l h ih => rw [items_step l h, textP_cons, ih, piece_head l h, List.take_append_drop]
theorem TelP_items (l : List UInt8) : TelP (items l) := by
  induction l using walk_ind with
  | h0 => exact .nil
  | h1 l h ih =>
    rw [items_step l h]
    refine .cons ?_ ih
    unfold headI
    by_cases hb : (dec l).2 = 1 ∧ 128 ≤ gb l 0
    · rw [if_pos hb]
      refine .inr ⟨rfl, rfl, hb.2, gb_lt l 0, ?_⟩
      rw [textP_items, hb.1]
      cases l with
      | nil => exact absurd rfl h
      | cons a t =>
        show (dec (UInt8.ofNat (gb (a :: t) 0) :: t)).2 = 1
        rw [show gb (a :: t) 0 = a.toNat from rfl, UInt8.ofNat_toNat]
        exact hb.1
    · rw [if_neg hb]
      exact .inl ⟨rfl, scal_dec l h, rfl⟩
end Go.Proofs.YtjkakemlhhieoaaGreatDoor

/- Great letters and their small ones, without the program: the table, what it says of every number, and how the two belong together. -/
namespace Go.Proofs.YtjkakemlhhieoaaGreatDoor

/-- from, to, each so many, the small one so many behind -/
abbrev RowF := Int × Int × Int × Int
def rowsF : List RowF :=
  [(0x41, 0x5A, 1, 0x20), (0xC0, 0xD6, 1, 0x20), (0xD8, 0xDE, 1, 0x20), (0x100, 0x12E, 2, 1), (0x132, 0x136, 2, 1), (0x139, 0x147, 2, 1),
   (0x14A, 0x176, 2, 1), (0x178, 0x178, 1, -121), (0x179, 0x17D, 2, 1), (0x386, 0x386, 1, 0x26), (0x388, 0x38A, 1, 0x25), (0x38C, 0x38C, 1, 0x40),
   (0x38E, 0x38F, 1, 0x3F), (0x391, 0x3A1, 1, 0x20), (0x3A3, 0x3AB, 1, 0x20), (0x400, 0x40F, 1, 0x50), (0x410, 0x42F, 1, 0x20), (0x460, 0x480, 2, 1),
   (0x48A, 0x4BE, 2, 1), (0x4C0, 0x4C0, 1, 0xF), (0x4C1, 0x4CD, 2, 1), (0x4D0, 0x52E, 2, 1), (0x531, 0x556, 1, 0x30), (0xFF21, 0xFF3A, 1, 0x20)]
/-- the document's order of them -/
def rowsD : List RowF :=
  [(0x41, 0x5A, 1, 0x20), (0xC0, 0xD6, 1, 0x20), (0xD8, 0xDE, 1, 0x20), (0x391, 0x3A1, 1, 0x20), (0x3A3, 0x3AB, 1, 0x20), (0x410, 0x42F, 1, 0x20), (0x531, 0x556, 1, 0x30), (0xFF21, 0xFF3A, 1, 0x20),
   (0x400, 0x40F, 1, 0x50), (0x178, 0x178, 1, -121), (0x386, 0x386, 1, 0x26), (0x388, 0x38A, 1, 0x25), (0x38C, 0x38C, 1, 0x40), (0x38E, 0x38F, 1, 0x3F), (0x4C0, 0x4C0, 1, 0xF),
   (0x100, 0x12E, 2, 1), (0x132, 0x136, 2, 1), (0x14A, 0x176, 2, 1), (0x460, 0x480, 2, 1), (0x48A, 0x4BE, 2, 1), (0x4D0, 0x52E, 2, 1), (0x139, 0x147, 2, 1), (0x179, 0x17D, 2, 1), (0x4C1, 0x4CD, 2, 1)]
def hasF (x : RowF) (r : Int) : Bool := decide (x.1 ≤ r) && (decide (r ≤ x.2.1) && decide ((r - x.1).tmod x.2.2.1 = 0))
def smallL : List RowF → Int → Int
  | [], r => r
  | x :: l, r => bif hasF x r then r + x.2.2.2 else smallL l r
def greatL : List RowF → Int → Int
  | [], r => r
  | x :: l, r => bif hasF x (r - x.2.2.2) then r - x.2.2.2 else greatL l r
def smallF (r : Int) : Int := smallL rowsF r
def greatF (r : Int) : Int := bif decide (r = 962) then 931 else greatL rowsF r
/-- the great letters of a row, each with its small one -/
def prsOf (x : RowF) : List (Int × Int) := (List.range ((x.2.1 - x.1).toNat / x.2.2.1.toNat + 1)).map fun (k : Nat) => (x.1 + (k : Int) * x.2.2.1, x.1 + (k : Int) * x.2.2.1 + x.2.2.2)
def prsF : List (Int × Int) := rowsF.flatMap prsOf

theorem rows_ok : ∀ x ∈ rowsF, 0 < x.2.2.1 ∧ x.1 ≤ x.2.1 := by decide +kernel
theorem rows_same : ∀ x ∈ rowsD, x ∈ rowsF := by decide +kernel
theorem rows_same' : ∀ x ∈ rowsF, x ∈ rowsD := by decide +kernel

theorem has_mem {x : RowF} {r : Int} (hs : 0 < x.2.2.1) (h : hasF x r = true) : (r, r + x.2.2.2) ∈ prsOf x := by
  unfold hasF at h
  simp only [Bool.and_eq_true, decide_eq_true_eq] at h
  obtain ⟨h1, h2, h3⟩ := h
  have h4 : (r - x.1) % x.2.2.1 = 0 := by rw [← Int.tmod_eq_emod_of_nonneg (by omega)]; exact h3
  have h5 := Int.mul_ediv_add_emod (r - x.1) x.2.2.1
  rw [h4, Int.add_zero] at h5
  have h6 : 0 ≤ (r - x.1) / x.2.2.1 := Int.ediv_nonneg (by omega) (by omega)
  have h7 : (((r - x.1) / x.2.2.1).toNat : Int) = (r - x.1) / x.2.2.1 := Int.toNat_of_nonneg h6
  refine List.mem_map.2 ⟨((r - x.1) / x.2.2.1).toNat, List.mem_range.2 ?_, ?_⟩
  · have e : (r - x.1) / x.2.2.1 ≤ (x.2.1 - x.1) / x.2.2.1 := Int.ediv_le_ediv hs (by omega)
    have e2 : (((x.2.1 - x.1).toNat / x.2.2.1.toNat : Nat) : Int) = (x.2.1 - x.1) / x.2.2.1 := by
      rw [Int.natCast_ediv, Int.toNat_of_nonneg (by omega), Int.toNat_of_nonneg (by omega)]
    omega
  · have h8 : x.1 + (((r - x.1) / x.2.2.1).toNat : Int) * x.2.2.1 = r := by
      rw [h7, Int.mul_comm]; omega
    rw [h8]

/-- no row of l has r, or one has it and r goes so many on -/
theorem smallL_cases (r : Int) : ∀ l : List RowF, ((∀ x ∈ l, hasF x r = false) ∧ smallL l r = r) ∨ ∃ x ∈ l, hasF x r = true ∧ smallL l r = r + x.2.2.2
  | [] => .inl ⟨fun _ h => (by cases h), rfl⟩
  | x :: l => by
    cases h : hasF x r with
    | true => exact .inr ⟨x, List.mem_cons_self, h, by rw [smallL, h]; rfl⟩
    | false =>
      have e : smallL (x :: l) r = smallL l r := by rw [smallL, h]; rfl
      rcases smallL_cases r l with ⟨a, b⟩ | ⟨y, a, b, c⟩
      · refine .inl ⟨fun y hy => ?_, e.trans b⟩
        rcases List.mem_cons.1 hy with rfl | hy
        · exact h
        · exact a y hy
      · exact .inr ⟨y, List.mem_cons_of_mem _ a, b, e.trans c⟩
theorem greatL_cases (r : Int) : ∀ l : List RowF, ((∀ x ∈ l, hasF x (r - x.2.2.2) = false) ∧ greatL l r = r) ∨ ∃ x ∈ l, hasF x (r - x.2.2.2) = true ∧ greatL l r = r - x.2.2.2
  | [] => .inl ⟨fun _ h => (by cases h), rfl⟩
  | x :: l => by
    cases h : hasF x (r - x.2.2.2) with
    | true => exact .inr ⟨x, List.mem_cons_self, h, by rw [greatL, h]; rfl⟩
    | false =>
      have e : greatL (x :: l) r = greatL l r := by rw [greatL, h]; rfl
      rcases greatL_cases r l with ⟨a, b⟩ | ⟨y, a, b, c⟩
      · refine .inl ⟨fun y hy => ?_, e.trans b⟩
        rcases List.mem_cons.1 hy with rfl | hy
        · exact h
        · exact a y hy
      · exact .inr ⟨y, List.mem_cons_of_mem _ a, b, e.trans c⟩

/-- what is asked of each pair -/
def prOk (p : Int × Int) : Bool :=
  decide (smallF p.1 = p.2) && (decide (smallF p.2 = p.2) && (decide (greatL rowsF p.2 = p.1) && (decide (greatF p.2 = p.1) && (decide (greatF p.1 = p.1) && (decide (smallL rowsD p.1 = p.2) && (decide (greatL rowsD p.2 = p.1) && (decide (65 ≤ p.1) && (decide (p.1 < 0xD800 ∨ 0xDFFF < p.1) && (decide (p.1 < 0xFFFF) && (decide (65 ≤ p.2) && (decide (p.2 < 0xD800 ∨ 0xDFFF < p.2) && (decide (p.2 < 0xFFFF) && decide (p.2 ≠ 962 ∧ p.1 ≠ 962 ∧ p.1 ≠ p.2)))))))))))))
theorem prs_ok : prsF.all prOk = true := by decide +kernel
structure PrOk (g s : Int) : Prop where
  small : smallF g = s
  still : smallF s = s
  greatL : greatL rowsF s = g
  great : greatF s = g
  stay : greatF g = g
  smallD : smallL rowsD g = s
  greatD : Proofs.YtjkakemlhhieoaaGreatDoor.greatL rowsD s = g
  lo : 65 ≤ g
  mid : g < 0xD800 ∨ 0xDFFF < g
  hi : g < 0xFFFF
  lo' : 65 ≤ s
  mid' : s < 0xD800 ∨ 0xDFFF < s
  hi' : s < 0xFFFF
  ne : s ≠ 962 ∧ g ≠ 962 ∧ g ≠ s
theorem pr_ok {g s : Int} (h : (g, s) ∈ prsF) : PrOk g s := by
  have := List.all_eq_true.1 prs_ok _ h
  unfold prOk at this
  simp only [Bool.and_eq_true, decide_eq_true_eq] at this
  obtain ⟨a, b, c, d, e, f, g', h', i, j, k, l, m, n⟩ := this
  exact ⟨a, b, c, d, e, f, g', h', i, j, k, l, m, n⟩

theorem mem_prs {x : RowF} (hx : x ∈ rowsF) {r : Int} (h : hasF x r = true) : (r, r + x.2.2.2) ∈ prsF := List.mem_flatMap.2 ⟨x, hx, has_mem (rows_ok x hx).1 h⟩
theorem small_cases (r : Int) : ((∀ x ∈ rowsF, hasF x r = false) ∧ smallF r = r) ∨ (r, smallF r) ∈ prsF := by
  rcases smallL_cases r rowsF with h | ⟨x, hx, h, e⟩
  · exact .inl h
  · refine .inr ?_
    unfold smallF; rw [e]
    exact mem_prs hx h
theorem great_cases (r : Int) : (r = 962 ∧ greatF r = 931) ∨ (r ≠ 962 ∧ (∀ x ∈ rowsF, hasF x (r - x.2.2.2) = false) ∧ greatF r = r) ∨ (r ≠ 962 ∧ (greatF r, r) ∈ prsF) := by
  by_cases h0 : r = 962
  · exact .inl ⟨h0, by unfold greatF; rw [decide_eq_true h0]; rfl⟩
  refine .inr ?_
  have e0 : greatF r = greatL rowsF r := by unfold greatF; rw [decide_eq_false h0]; rfl
  rcases greatL_cases r rowsF with ⟨h, e⟩ | ⟨x, hx, h, e⟩
  · exact .inl ⟨h0, h, e0.trans e⟩
  · refine .inr ⟨h0, ?_⟩
    rw [e0, e]
    have := mem_prs hx h
    rwa [show r - x.2.2.2 + x.2.2.2 = r by omega] at this

/-- the document's order of the rows says the same -/
theorem small_same (r : Int) : smallL rowsD r = smallF r := by
  rcases small_cases r with ⟨h, e⟩ | h
  · rcases smallL_cases r rowsD with ⟨_, e'⟩ | ⟨x, hx, h', _⟩
    · exact e'.trans e.symm
    · rw [h x (rows_same x hx)] at h'; exact absurd h' (by decide)
  · exact (pr_ok h).smallD
def greatD (r : Int) : Int := bif decide (r = 962) then 931 else bif decide (r < 0 ∨ 1114111 < r) then r else greatL rowsD r
theorem great_same (r : Int) : greatD r = greatF r := by
  unfold greatD
  rcases great_cases r with ⟨h0, e⟩ | ⟨h0, h, e⟩ | ⟨h0, h⟩
  · rw [decide_eq_true h0, e]; rfl
  · rw [decide_eq_false h0, e]
    show (bif decide (r < 0 ∨ 1114111 < r) then r else greatL rowsD r) = r
    cases decide (r < 0 ∨ 1114111 < r) with
    | true => rfl
    | false =>
      show greatL rowsD r = r
      rcases greatL_cases r rowsD with ⟨_, e'⟩ | ⟨x, hx, h', _⟩
      · exact e'
      · rw [h x (rows_same x hx)] at h'; exact absurd h' (by decide)
  · have p := pr_ok h
    rw [decide_eq_false h0, decide_eq_false (by have := p.lo'; have := p.hi'; omega)]
    exact p.greatD

/-- small letters stay small, great ones great (P5.6) -/
theorem small_small (r : Int) : smallF (smallF r) = smallF r := by
  rcases small_cases r with ⟨_, e⟩ | h
  · rw [e, e]
  · exact (pr_ok h).still
theorem great_great (r : Int) : greatF (greatF r) = greatF r := by
  rcases great_cases r with ⟨_, e⟩ | ⟨_, _, e⟩ | ⟨_, h⟩
  · rw [e]; decide +kernel
  · rw [e, e]
  · exact (pr_ok h).stay
theorem small_great {r : Int} (h : smallF r ≠ r) : greatF r = r ∧ greatF (smallF r) = r := by
  rcases small_cases r with ⟨_, e⟩ | h'
  · exact absurd e h
  · exact ⟨(pr_ok h').stay, (pr_ok h').great⟩
theorem great_small {r : Int} (h : greatF r ≠ r) : smallF r = r ∧ (smallF (greatF r) = r ∨ r = 962) := by
  rcases great_cases r with ⟨h0, _⟩ | ⟨_, _, e⟩ | ⟨_, h'⟩
  · subst h0; exact ⟨by decide +kernel, .inr rfl⟩
  · exact absurd e h
  · exact ⟨(pr_ok h').still, .inl (pr_ok h').small⟩
theorem known_or (r : Int) : (0 ≤ r ∧ r ≤ 1114111 ∧ (r < 0xD800 ∨ 0xDFFF < r)) ∨ (smallF r = r ∧ greatF r = r) := by
  rcases small_cases r with ⟨_, e⟩ | h
  · rcases great_cases r with ⟨h0, _⟩ | ⟨_, _, e'⟩ | ⟨_, h⟩
    · exact .inl (by omega)
    · exact .inr ⟨e, e'⟩
    · have p := pr_ok h
      exact .inl ⟨by have := p.lo'; omega, by have := p.hi'; omega, p.mid'⟩
  · have p := pr_ok h
    exact .inl ⟨by have := p.lo; omega, by have := p.hi; omega, p.mid⟩
/-- what is small or great is a character where the letter is one, and two letters fold alike -/
theorem small_great' (r : Int) : smallF (greatF r) = smallF r ∨ r = 962 := by
  by_cases h : greatF r = r
  · rw [h]; exact .inl rfl
  · obtain ⟨a, b | b⟩ := great_small h
    · exact .inl (b.trans a.symm)
    · exact .inr b
end Go.Proofs.YtjkakemlhhieoaaGreatDoor

/- What is folded (pure): what is made of a text piece by piece reads back; what folds alike piece by piece folds alike; folding once is enough. -/
namespace Go.Proofs.YtjkakemlhhieoaaGreatDoor
open Go.RowKit Go.Lib

/-- a number in small letters, as Fold writes it -/
def foldN (q : Int) : List Int := if q = 223 then [115, 115] else if q = 962 then [963] else [smallF q]
def numsP (zs : List Int) : List Pc := zs.map fun q => (q, markZ q, 0)
def foldG (p : Pc) : List Pc := if p.2.2 = 0 then numsP (foldN p.1) else [p]
/-- a piece of the text, taken apart and folded -/
def foldI (p : Pc) : List Pc := (splitP p).flatMap foldG
def foldP (l : List UInt8) : List Pc := (apartP l).flatMap foldG
/-- what Fold writes, ahead of its second Apart -/
def foldT (l : List UInt8) : List UInt8 := textP (foldP l)
def foldS (l : List UInt8) : List UInt8 := apartS (foldT l)

/-! ### the letters' own facts -/
def foldZ (q : Int) : List Int := (splitZ q).flatMap foldN
def pairOk5 (p : Int × Int) : Bool :=
  (foldZ p.1 == foldZ p.2) && (((splitZ p.1 != [p.1]) || (splitZ p.2 == [p.2])) && ((markZ p.1 == 0) && ((markZ p.2 == 0) && (decide (p.1 ≠ 223) && decide (p.2 ≠ 223)))))
theorem pairs_ok5 : prsF.all pairOk5 = true := by decide +kernel
structure PairOk5 (g s : Int) : Prop where
  fold : foldZ g = foldZ s
  still : splitZ g = [g] → splitZ s = [s]
  markG : markZ g = 0
  markS : markZ s = 0
  ne : g ≠ 223
  ne' : s ≠ 223
theorem pair_ok5 {g s : Int} (h : (g, s) ∈ prsF) : PairOk5 g s := by
  have := List.all_eq_true.1 pairs_ok5 _ h
  unfold pairOk5 at this
  simp only [Bool.and_eq_true, Bool.or_eq_true, decide_eq_true_eq, beq_iff_eq, bne_iff_ne] at this
  obtain ⟨a, b, c, d, e, f⟩ := this
  exact ⟨a, fun k => b.resolve_left (fun n => n k), c, d, e, f⟩

theorem foldN_ne (q : Int) : foldN q ≠ [] := by
  unfold foldN
  split
  · simp
  · split <;> simp
theorem foldN_mark (q : Int) (h : markZ q ≠ 0) : foldN q = [q] := by
  unfold foldN
  rw [if_neg (by rintro rfl; exact h (by decide +kernel)), if_neg (by rintro rfl; exact h (by decide +kernel))]
  rcases small_cases q with ⟨_, e⟩ | h'
  · rw [e]
  · exact absurd (pair_ok5 h').markG h
theorem foldN_zero (q : Int) (h : markZ q = 0) : ∀ x ∈ foldN q, markZ x = 0 := by
  intro x hx
  unfold foldN at hx
  split at hx
  · simp at hx; subst hx; decide +kernel
  · split at hx
    · simp at hx; subst hx; decide +kernel
    · simp at hx
      subst hx
      rcases small_cases q with ⟨_, e⟩ | h'
      · rw [e]; exact h
      · exact (pair_ok5 h').markS
theorem foldN_still (q : Int) (h : splitZ q = [q]) : ∀ x ∈ foldN q, splitZ x = [x] := by
  intro x hx
  unfold foldN at hx
  split at hx
  · simp at hx; subst hx; decide +kernel
  · split at hx
    · simp at hx; subst hx; decide +kernel
    · simp at hx
      subst hx
      rcases small_cases q with ⟨_, e⟩ | h'
      · rw [e]; exact h
      · exact (pair_ok5 h').still h
theorem foldN_twice (q : Int) : ∀ x ∈ foldN q, foldN x = [x] := by
  intro x hx
  unfold foldN at hx
  split at hx
  · simp at hx; subst hx; decide +kernel
  · split at hx
    · simp at hx; subst hx; decide +kernel
    · rename_i h1 h2
      simp at hx
      subst hx
      unfold foldN
      rcases small_cases q with ⟨_, e⟩ | h'
      · rw [e, if_neg h1, if_neg h2, e]
      · rw [if_neg (pair_ok5 h').ne', if_neg (pr_ok h').ne.1, small_small]
theorem foldN_scal (q : Int) (h : Scal q) : ∀ x ∈ foldN q, Scal x := by
  intro x hx
  unfold foldN at hx
  split at hx
  · simp at hx; subst hx; unfold Scal; omega
  · split at hx
    · simp at hx; subst hx; unfold Scal; omega
    · simp at hx
      subst hx
      rcases small_cases q with ⟨_, e⟩ | h'
      · rw [e]; exact h
      · have p := pr_ok h'
        have := p.lo'; have := p.mid'; have := p.hi'
        unfold Scal; omega

/-! ### pieces -/
theorem foldG_num {p : Pc} (h : p.2.2 = 0) : foldG p = numsP (foldN p.1) := if_pos h
theorem foldG_raw {p : Pc} (h : p.2.2 ≠ 0) : foldG p = [p] := if_neg h
theorem foldG_ne (p : Pc) : foldG p ≠ [] := by
  by_cases h : p.2.2 = 0
  · rw [foldG_num h]; unfold numsP; simp [foldN_ne]
  · rw [foldG_raw h]; simp
theorem numsP_pc {zs : List Int} {y : Pc} (h : y ∈ numsP zs) : ∃ q ∈ zs, y = (q, markZ q, 0) := by
  obtain ⟨q, hq, rfl⟩ := List.mem_map.1 h
  exact ⟨q, hq, rfl⟩
/-- the marks' numbers are the pieces' own -/
def Own (p : Pc) : Prop := p.2.2 = 0 ∧ p.2.1 = markZ p.1 ∨ p.2.2 ≠ 0 ∧ p.1 = 0 ∧ p.2.1 = 0
theorem Own.of_good {p : Pc} (h : Good p) : Own p := by
  rcases h with h | ⟨a, b, c⟩
  · exact .inl ⟨h.1, h.2.2⟩
  · exact .inr ⟨a, b, c⟩
theorem foldG_mark {p : Pc} (ho : Own p) (h : numP p ≠ 0) : foldG p = [p] := by
  rcases ho with ⟨a, b⟩ | ⟨a, _, _⟩
  · have hm : markZ p.1 ≠ 0 := by rw [← b]; exact h
    rw [foldG_num a, foldN_mark _ hm]
    obtain ⟨x, y, z⟩ := p
    simp only at a b
    subst a; subst b
    rfl
  · exact foldG_raw a
theorem foldG_zero {p : Pc} (ho : Own p) (h : numP p = 0) : ∀ y ∈ foldG p, numP y = 0 := by
  intro y hy
  rcases ho with ⟨a, b⟩ | ⟨a, _, _⟩
  · rw [foldG_num a] at hy
    obtain ⟨q, hq, rfl⟩ := numsP_pc hy
    exact foldN_zero p.1 (by rw [← b]; exact h) q hq
  · rw [foldG_raw a] at hy
    simp at hy; subst hy; exact h
theorem foldG_own {p : Pc} (ho : Own p) : ∀ y ∈ foldG p, Own y := by
  intro y hy
  by_cases a : p.2.2 = 0
  · rw [foldG_num a] at hy
    obtain ⟨q, _, rfl⟩ := numsP_pc hy
    exact .inl ⟨rfl, rfl⟩
  · rw [foldG_raw a] at hy
    simp at hy; subst hy; exact ho
theorem flat_same : ∀ (ps : List Pc) (g : Pc → List Pc), (∀ p ∈ ps, g p = [p]) → ps.flatMap g = ps
  | [], _, _ => rfl
  | p :: t, g, h => by
    rw [List.flatMap_cons, h p List.mem_cons_self, flat_same t g fun q hq => h q (List.mem_cons_of_mem _ hq)]; rfl
/-- starters keep the row ahead of them apart -/
theorem ordR_zeros : ∀ (ys row zs : List Pc), ys ≠ [] → (∀ y ∈ ys, numP y = 0) → ordR numP row (ys ++ zs) = bucket numP row ++ ys ++ ordR numP [] zs
  | [], _, _, h, _ => absurd rfl h
  | [y], row, zs, _, h => by
    rw [List.singleton_append, ordR_zero numP zs row (h y List.mem_cons_self), List.append_assoc]; rfl
  | y :: x :: t, row, zs, _, h => by
    rw [List.cons_append, ordR_zero numP _ row (h y List.mem_cons_self), ordR_zeros (x :: t) [] zs (by simp) (fun q hq => h q (List.mem_cons_of_mem _ hq)), bucket_none]
    simp
/-- to put in order and to fold may change places -/
theorem ordR_fold : ∀ (ps row : List Pc), (∀ p ∈ ps, Own p) → (∀ p ∈ row, Own p ∧ numP p ≠ 0) → ordR numP row (ps.flatMap foldG) = (ordR numP row ps).flatMap foldG
  | [], row, _, hr => by
    rw [List.flatMap_nil, ordR_nil]
    exact (flat_same _ _ fun p hp => foldG_mark (hr p (bucket_mem numP row p hp)).1 (hr p (bucket_mem numP row p hp)).2).symm
  | p :: t, row, ho, hr => by
    have hp := ho p List.mem_cons_self
    have ht := fun q hq => ho q (List.mem_cons_of_mem _ hq)
    by_cases h : numP p = 0
    · rw [List.flatMap_cons, ordR_zeros (foldG p) row _ (foldG_ne p) (foldG_zero hp h), ordR_fold t [] ht (fun _ k => by cases k), ordR_zero numP t row h, List.flatMap_append, List.flatMap_cons,
        flat_same (bucket numP row) foldG fun q hq => foldG_mark (hr q (bucket_mem numP row q hq)).1 (hr q (bucket_mem numP row q hq)).2, List.append_assoc]
    · rw [List.flatMap_cons, foldG_mark hp h, List.singleton_append, ordR_more numP _ row h, ordR_more numP t row h]
      refine ordR_fold t (row ++ [p]) ht fun q hq => ?_
      rcases List.mem_append.1 hq with hq | hq
      · exact hr q hq
      · simp at hq; subst hq; exact ⟨hp, h⟩

theorem own_items (l : List UInt8) : ∀ p ∈ items l, Own p := fun p hp => .of_good (TelP_good _ (TelP_items l) p hp)
theorem splitP_own {p : Pc} (h : Own p) : ∀ y ∈ splitP p, Own y := by
  intro y hy
  unfold splitP at hy
  by_cases a : p.2.2 = 0
  · rw [if_pos a] at hy
    obtain ⟨q, _, rfl⟩ := List.mem_map.1 hy
    exact .inl ⟨rfl, rfl⟩
  · rw [if_neg a] at hy
    simp at hy; subst hy; exact h
/-- what is folded hangs on the pieces alone, each by itself -/
theorem foldP_items (l : List UInt8) : foldP l = ordZ numP ((items l).flatMap foldI) := by
  unfold foldP apartP ordZ
  rw [← ordR_fold (rawP l) [] (by
    intro p hp
    rw [rawP_items] at hp
    obtain ⟨q, hq, hp⟩ := List.mem_flatMap.1 hp
    exact splitP_own (own_items l q hq) p hp) (fun _ k => by cases k), rawP_items, List.flatMap_assoc]
  rfl
theorem own_apart5 (l : List UInt8) : ∀ p ∈ apartP l, Own p := fun p hp => .of_good (TelP_good _ (TelP_apart l) p hp)

/-! ### what is made of a text, piece by piece -/
/-- each number piece becomes some that fold as it does; bad bytes stay -/
inductive Made : List Pc → List Pc → Prop
  | nil : Made [] []
  | raw {p : Pc} {t u : List Pc} : p.2.2 ≠ 0 → Made t u → Made (p :: t) (p :: u)
  | num {p : Pc} {ns t u : List Pc} : p.2.2 = 0 → ns ≠ [] → (∀ q ∈ ns, NumPc q) → Made t u → Made (p :: t) (ns ++ u)
theorem skR_nums : ∀ (ns u : List Pc), ns ≠ [] → (∀ q ∈ ns, q.2.2 = 0) → skR (ns ++ u) = cons0 (skR u)
  | [], _, h, _ => absurd rfl h
  | [q], u, _, h => by rw [List.singleton_append, skR_num u (h q List.mem_cons_self)]
  | q :: r :: t, u, _, h => by
    rw [List.cons_append, skR_num _ (h q List.mem_cons_self), skR_nums (r :: t) u (by simp) (fun x hx => h x (List.mem_cons_of_mem _ hx))]
    unfold cons0
    split
    all_goals first | rfl | simp
theorem Made.sk {ps Y : List Pc} (h : Made ps Y) : skR Y = skR ps := by
  induction h with
  | nil => rfl
  | raw a _ ih => rw [skR_raw _ a, skR_raw _ a, ih]
  | num a b c _ ih => rw [skR_nums _ _ b (fun q hq => (c q hq).1), skR_num _ a, ih]
theorem Made.good {ps Y : List Pc} (h : Made ps Y) (hp : ∀ p ∈ ps, Good p) : ∀ y ∈ Y, Good y := by
  induction h with
  | nil => exact fun _ k => by cases k
  | raw a _ ih =>
    intro y hy
    rcases List.mem_cons.1 hy with rfl | hy
    · exact hp _ List.mem_cons_self
    · exact ih (fun q hq => hp q (List.mem_cons_of_mem _ hq)) y hy
  | num a b c _ ih =>
    intro y hy
    rcases List.mem_append.1 hy with hy | hy
    · exact .inl (c y hy)
    · exact ih (fun q hq => hp q (List.mem_cons_of_mem _ hq)) y hy
/-- what is made reads back -/
theorem Made.items {ps Y : List Pc} (h : Made ps Y) (hp : TelP ps) : items (textP Y) = Y := items_textP Y (TelP_sk Y ps h.sk hp (h.good (TelP_good ps hp)))
theorem Made.bad {ps Y : List Pc} (h : Made ps Y) : rawB Y = rawB ps := by rw [rawB_skR, rawB_skR, h.sk]
theorem made_flat (g : Pc → List Pc) (hr : ∀ p : Pc, p.2.2 ≠ 0 → g p = [p]) : ∀ ps : List Pc, (∀ p ∈ ps, p.2.2 = 0 → g p ≠ [] ∧ ∀ q ∈ g p, NumPc q) → Made ps (ps.flatMap g)
  | [], _ => .nil
  | p :: t, h => by
    have ht := made_flat g hr t fun q hq => h q (List.mem_cons_of_mem _ hq)
    rw [List.flatMap_cons]
    by_cases a : p.2.2 = 0
    · obtain ⟨b, c⟩ := h p List.mem_cons_self a
      exact .num a b c ht
    · rw [hr p a]
      exact .raw a ht
theorem NumPc.of_good {p : Pc} (h : Good p) (a : p.2.2 = 0) : NumPc p := h.resolve_right fun k => k.1 a

/-! ### folding once is enough -/
theorem made_fold (ps : List Pc) (h : ∀ p ∈ ps, Good p) : Made ps (ps.flatMap foldG) :=
  made_flat foldG (fun _ => foldG_raw) ps fun p hp a => ⟨foldG_ne p, fun q hq => by
    rw [foldG_num a] at hq
    obtain ⟨z, hz, rfl⟩ := numsP_pc hq
    exact ⟨rfl, foldN_scal p.1 (NumPc.of_good (h p hp) a).2.1 z hz, rfl⟩⟩
theorem items_foldT (l : List UInt8) : items (foldT l) = foldP l := (made_fold _ (TelP_good _ (TelP_apart l))).items (TelP_apart l)
theorem foldP_still (l : List UInt8) : ∀ p ∈ foldP l, splitP p = [p] := by
  intro p hp
  obtain ⟨q, hq, hp⟩ := List.mem_flatMap.1 hp
  have hs := apartP_still l q hq
  by_cases a : q.2.2 = 0
  · rw [foldG_num a] at hp
    obtain ⟨z, hz, rfl⟩ := numsP_pc hp
    unfold splitP at hs ⊢
    rw [if_pos a] at hs
    rw [if_pos rfl]
    have e : splitZ q.1 = [q.1] := by
      match hh : splitZ q.1, hs with
      | [x], hs =>
        simp only [List.map_cons, List.map_nil, List.cons.injEq, and_true] at hs
        rw [← hs]
    show (splitZ z).map _ = _
    rw [foldN_still q.1 e z hz]; rfl
  · rw [foldG_raw a] at hp
    simp at hp; subst hp; exact hs
theorem apartP_foldT (l : List UInt8) : apartP (foldT l) = foldP l := by
  unfold apartP
  rw [rawP_items, items_foldT, flat_still _ (foldP_still l), foldP_items]
  exact ord_twice numP _
/-- the second Apart finds nothing to do -/
theorem foldS_eq (l : List UInt8) : foldS l = foldT l := by
  unfold foldS apartS
  rw [apartP_foldT l]; rfl
theorem items_foldS (l : List UInt8) : items (foldS l) = foldP l := by rw [foldS_eq, items_foldT]
theorem foldG_twice (p : Pc) (ho : Own p) : (foldG p).flatMap foldG = foldG p := by
  refine flat_same _ _ fun y hy => ?_
  by_cases a : p.2.2 = 0
  · rw [foldG_num a] at hy
    obtain ⟨z, hz, rfl⟩ := numsP_pc hy
    rw [foldG_num rfl, foldN_twice p.1 z hz]; rfl
  · rw [foldG_raw a] at hy
    simp at hy; subst hy; exact foldG_raw a
theorem foldP_twice (l : List UInt8) : foldP (foldS l) = foldP l := by
  rw [foldS_eq]
  unfold foldP
  rw [apartP_foldT]
  unfold foldP
  rw [List.flatMap_assoc]
  have : ∀ ps : List Pc, (∀ p ∈ ps, Own p) → (ps.flatMap fun p => (foldG p).flatMap foldG) = ps.flatMap foldG := by
    intro ps
    induction ps with
    | nil => exact fun _ => rfl
    | cons p t ih =>
      intro h
      rw [List.flatMap_cons, List.flatMap_cons, foldG_twice p (h p List.mem_cons_self), ih fun q hq => h q (List.mem_cons_of_mem _ hq)]
  exact this _ (own_apart5 l)
theorem foldS_of {a b : List UInt8} (h : foldP a = foldP b) : foldS a = foldS b := by unfold foldS foldT; rw [h]
/-- P5.5: of what is folded, the fold is itself -/
theorem foldS_twice (l : List UInt8) : foldS (foldS l) = foldS l := foldS_of (foldP_twice l)
theorem foldS_apart (l : List UInt8) : foldS (apartS l) = foldS l := foldS_of (by unfold foldP; rw [apartP_twice])
theorem foldS_tog (l : List UInt8) : foldS (togS l) = foldS l := foldS_of (by unfold foldP; rw [apartP_tog])
/-- what is made of a text, each piece folding as what it is made of, folds alike -/
theorem foldS_made {l : List UInt8} {Y : List Pc} (h : Made (items l) Y) (hf : Y.flatMap foldI = (items l).flatMap foldI) : foldS (textP Y) = foldS l := by
  refine foldS_of ?_
  rw [foldP_items, foldP_items, h.items (TelP_items l), hf]
/-- bad bytes stay -/
theorem bad_made {l : List UInt8} {Y : List Pc} (h : Made (items l) Y) : badB2 (textP Y) = badB2 l := by
  unfold badB2
  rw [h.items (TelP_items l), h.bad]
theorem bad_fold (l : List UInt8) : badB2 (foldS l) = badB2 l := by
  unfold badB2
  rw [items_foldS]
  unfold foldP
  rw [(made_fold _ (TelP_good _ (TelP_apart l))).bad, rawB_apart]
end Go.Proofs.YtjkakemlhhieoaaGreatDoor

/- Small letters, great ones, titles (pure): what each character of a text becomes, by what stands ahead of it and behind; it folds as the text does; bad bytes part texts. -/
namespace Go.Proofs.YtjkakemlhhieoaaGreatDoor
open Go.RowKit Go.Lib

/-- what each number becomes: of what is ahead of it (the last one first), itself, what is behind -/
abbrev Become := List Pc → Pc → List Pc → List Int
def madeP (f : Become) : List Pc → List Pc → List Pc
  | _, [] => []
  | pre, p :: t => (if p.2.2 = 0 then numsP (f pre p t) else [p]) ++ madeP f (p :: pre) t
def madeS (f : Become) (l : List UInt8) : List UInt8 := textP (madeP f [] (items l))

theorem foldI_num {p : Pc} (h : p.2.2 = 0) : foldI p = numsP (foldZ p.1) := by
  unfold foldI splitP
  rw [if_pos h]
  unfold foldZ numsP
  rw [List.map_flatMap, List.flatMap_map]
  rfl
theorem foldI_nums (zs : List Int) : (numsP zs).flatMap foldI = numsP (zs.flatMap foldZ) := by
  unfold numsP
  rw [List.map_flatMap, List.flatMap_map]
  congr 1
  funext a
  exact foldI_num rfl
/-- each number becomes some, all of them numbers of characters -/
def Fit (f : Become) : Prop := ∀ pre p t, f pre p t ≠ [] ∧ (Scal p.1 → ∀ z ∈ f pre p t, Scal z)
def Alike (f : Become) : Prop := ∀ pre p t, (f pre p t).flatMap foldZ = foldZ p.1
theorem numsP_ne {zs : List Int} (h : zs ≠ []) : numsP zs ≠ [] := by unfold numsP; simp [h]
theorem madeP_made {f : Become} (hf : Fit f) : ∀ (ps pre : List Pc), (∀ p ∈ ps, Good p) → Made ps (madeP f pre ps)
  | [], _, _ => .nil
  | p :: t, pre, h => by
    have ht := madeP_made hf t (p :: pre) fun q hq => h q (List.mem_cons_of_mem _ hq)
    unfold madeP
    by_cases a : p.2.2 = 0
    · rw [if_pos a]
      refine .num a (numsP_ne (hf pre p t).1) (fun q hq => ?_) ht
      obtain ⟨z, hz, rfl⟩ := numsP_pc hq
      exact ⟨rfl, (hf pre p t).2 (NumPc.of_good (h p List.mem_cons_self) a).2.1 z hz, rfl⟩
    · rw [if_neg a]
      exact .raw a ht
theorem madeP_alike {f : Become} (hf : Alike f) : ∀ (ps pre : List Pc), (madeP f pre ps).flatMap foldI = ps.flatMap foldI
  | [], _ => rfl
  | p :: t, pre => by
    unfold madeP
    rw [List.flatMap_append, madeP_alike hf t, List.flatMap_cons]
    congr 1
    by_cases a : p.2.2 = 0
    · rw [if_pos a, foldI_nums, hf, foldI_num a]
    · rw [if_neg a]; simp
theorem items_made {f : Become} (hf : Fit f) (l : List UInt8) : items (madeS f l) = madeP f [] (items l) := (madeP_made hf _ _ (TelP_good _ (TelP_items l))).items (TelP_items l)
/-- what is made of a text folds as it does (P5.5) -/
theorem fold_madeS {f : Become} (hf : Fit f) (ha : Alike f) (l : List UInt8) : foldS (madeS f l) = foldS l :=
  foldS_made (madeP_made hf _ _ (TelP_good _ (TelP_items l))) (madeP_alike ha _ _)
theorem bad_madeS {f : Become} (hf : Fit f) (l : List UInt8) : badB2 (madeS f l) = badB2 l := bad_made (madeP_made hf _ _ (TelP_good _ (TelP_items l)))
theorem madeP_mem {f : Become} : ∀ (ps pre : List Pc), ∀ y ∈ madeP f pre ps, y.2.2 = 0 → ∃ pr p t, y.1 ∈ f pr p t ∧ y.2.1 = markZ y.1
  | [], _, _, h, _ => by cases h
  | p :: t, pre, y, h, h0 => by
    unfold madeP at h
    rcases List.mem_append.1 h with h | h
    · by_cases a : p.2.2 = 0
      · rw [if_pos a] at h
        obtain ⟨z, hz, rfl⟩ := numsP_pc h
        exact ⟨pre, p, t, hz, rfl⟩
      · rw [if_neg a] at h
        simp at h; subst h
        exact absurd h0 a
    · exact madeP_mem t (p :: pre) y h h0
theorem madeP_stay {f : Become} : ∀ (ps pre : List Pc), (∀ p ∈ ps, p.2.2 = 0 → p.2.1 = markZ p.1 ∧ ∀ pr t, f pr p t = [p.1]) → madeP f pre ps = ps
  | [], _, _ => rfl
  | p :: t, pre, h => by
    unfold madeP
    rw [madeP_stay t (p :: pre) fun q hq => h q (List.mem_cons_of_mem _ hq)]
    by_cases a : p.2.2 = 0
    · obtain ⟨b, c⟩ := h p List.mem_cons_self a
      rw [if_pos a, c]
      obtain ⟨x, y, z⟩ := p
      simp only at a b
      subst a; subst b
      rfl
    · rw [if_neg a]; rfl
/-- what nothing more is made of -/
theorem made_twice {f : Become} (hf : Fit f) (hs : ∀ pr p t, ∀ z ∈ f pr p t, ∀ pr' m t', f pr' (z, m, 0) t' = [z]) (l : List UInt8) : madeS f (madeS f l) = madeS f l := by
  unfold madeS
  rw [show items (textP (madeP f [] (items l))) = madeP f [] (items l) from items_made hf l]
  rw [madeP_stay]
  intro p hp h0
  obtain ⟨pr, q, t, h1, h2⟩ := madeP_mem _ _ p hp h0
  refine ⟨h2, fun pr' t' => ?_⟩
  have := hs pr q t p.1 h1 pr' p.2.1 t'
  obtain ⟨x, y, z⟩ := p
  simp only at h0
  subst h0
  exact this

/-! ### the letters -/
theorem foldZ_small (q : Int) : foldZ (smallF q) = foldZ q := by
  rcases small_cases q with ⟨_, e⟩ | h
  · rw [e]
  · exact (pair_ok5 h).fold.symm
theorem foldZ_great (q : Int) : foldZ (greatF q) = foldZ q := by
  rcases great_cases q with ⟨h0, e⟩ | ⟨_, _, e⟩ | ⟨_, h⟩
  · rw [e, h0]; decide +kernel
  · rw [e]
  · exact (pair_ok5 h).fold
theorem small_scal {q : Int} (h : Scal q) : Scal (smallF q) := by
  rcases small_cases q with ⟨_, e⟩ | h'
  · rw [e]; exact h
  · have p := pr_ok h'
    have := p.lo'; have := p.mid'; have := p.hi'
    unfold Scal; omega
theorem great_scal {q : Int} (h : Scal q) : Scal (greatF q) := by
  rcases great_cases q with ⟨_, e⟩ | ⟨_, _, e⟩ | ⟨_, h'⟩
  · rw [e]; unfold Scal; omega
  · rw [e]; exact h
  · have p := pr_ok h'
    have := p.lo; have := p.mid; have := p.hi
    unfold Scal; omega
theorem great_ne {q : Int} (h : q ≠ 223) : greatF q ≠ 223 := by
  rcases great_cases q with ⟨_, e⟩ | ⟨_, _, e⟩ | ⟨_, h'⟩
  · rw [e]; decide
  · rw [e]; exact h
  · exact (pair_ok5 h').ne
theorem small_ne931 (q : Int) : smallF q ≠ 931 := by
  intro e
  have h := small_small q
  rw [e] at h
  exact absurd h (by decide +kernel)

section
variable (K : Int → Nat)
/-- is the first that is no mark a letter? (2: a mark; 3: a letter) -/
def begins5 : List Pc → Bool
  | [] => false
  | p :: t => if p.2.2 = 0 then (if K p.1 = 2 then begins5 t else decide (K p.1 = 3)) else false
def lowZ (pre : List Pc) (p : Pc) (t : List Pc) : Int := if p.1 = 931 ∧ begins5 K pre = true ∧ begins5 K t = false then 962 else smallF p.1
def upZ (ss : Int) (p : Pc) : List Int := if p.1 = 223 then [83, ss] else [greatF p.1]
/-- is what is ahead of the place of a word? (4: a digit) -/
def inWord5 : List Pc → Bool
  | [] => false
  | p :: _ => decide (p.2.2 = 0 ∧ (K p.1 = 2 ∨ K p.1 = 3 ∨ K p.1 = 4))
def lowF : Become := fun pre p t => [lowZ K pre p t]
def upF : Become := fun _ p _ => upZ 83 p
def titleF : Become := fun pre p t => if K p.1 = 3 ∧ inWord5 K pre = false then upZ 115 p else [lowZ K pre p t]
def swapF : Become := fun _ p _ => if p.1 = 223 ∨ greatF p.1 ≠ p.1 then upZ 83 p else [smallF p.1]

theorem lowZ_scal {pre : List Pc} {p : Pc} {t : List Pc} (h : Scal p.1) : Scal (lowZ K pre p t) := by
  unfold lowZ
  split
  · unfold Scal; omega
  · exact small_scal h
theorem lowZ_fold (pre : List Pc) (p : Pc) (t : List Pc) : foldZ (lowZ K pre p t) = foldZ p.1 := by
  unfold lowZ
  split
  · rename_i h; rw [h.1]; decide +kernel
  · exact foldZ_small _
theorem upZ_scal {ss : Int} {p : Pc} (hs : Scal ss) (h : Scal p.1) : ∀ z ∈ upZ ss p, Scal z := by
  intro z hz
  unfold upZ at hz
  split at hz
  · rcases List.mem_cons.1 hz with rfl | hz
    · unfold Scal; omega
    · simp at hz; subst hz; exact hs
  · simp at hz; subst hz; exact great_scal h
theorem upZ_ne (ss : Int) (p : Pc) : upZ ss p ≠ [] := by unfold upZ; split <;> simp
theorem upZ_fold (ss : Int) (hs : foldZ ss = [115]) (p : Pc) : (upZ ss p).flatMap foldZ = foldZ p.1 := by
  unfold upZ
  split
  · rename_i h
    rw [h]
    show foldZ 83 ++ (foldZ ss ++ []) = foldZ 223
    rw [hs]; decide +kernel
  · show foldZ (greatF p.1) ++ [] = foldZ p.1
    rw [List.append_nil, foldZ_great]
theorem one_flat (z : Int) : [z].flatMap foldZ = foldZ z := by simp
theorem low_fit : Fit (lowF K) := fun pre p t => ⟨by unfold lowF; simp, fun h z hz => by unfold lowF at hz; simp at hz; subst hz; exact lowZ_scal K h⟩
theorem low_alike : Alike (lowF K) := fun pre p t => (one_flat _).trans (lowZ_fold K pre p t)
theorem up_fit : Fit upF := fun _ p _ => ⟨upZ_ne 83 p, fun h => upZ_scal (.inl (by omega)) h⟩
theorem up_alike : Alike upF := fun _ p _ => upZ_fold 83 (by decide +kernel) p
theorem title_fit : Fit (titleF K) := by
  intro pre p t
  unfold titleF
  split
  · exact ⟨upZ_ne 115 p, fun h => upZ_scal (.inl (by omega)) h⟩
  · exact ⟨by simp, fun h z hz => by simp at hz; subst hz; exact lowZ_scal K h⟩
theorem title_alike : Alike (titleF K) := by
  intro pre p t
  unfold titleF
  split
  · exact upZ_fold 115 (by decide +kernel) p
  · exact (one_flat _).trans (lowZ_fold K pre p t)
theorem swap_fit : Fit swapF := by
  intro pre p t
  unfold swapF
  split
  · exact ⟨upZ_ne 83 p, fun h => upZ_scal (.inl (by omega)) h⟩
  · exact ⟨by simp, fun h z hz => by simp at hz; subst hz; exact small_scal h⟩
theorem swap_alike : Alike swapF := by
  intro pre p t
  unfold swapF
  split
  · exact upZ_fold 83 (by decide +kernel) p
  · exact (one_flat _).trans (foldZ_small _)
/-- small letters of small letters, great ones of great ones (P5.5) -/
theorem low_twice (l : List UInt8) : madeS (lowF K) (madeS (lowF K) l) = madeS (lowF K) l := by
  refine made_twice (low_fit K) ?_ l
  intro pr p t z hz pr' m t'
  unfold lowF at hz ⊢
  simp at hz
  have h1 : z ≠ 931 ∧ smallF z = z := by
    subst hz
    unfold lowZ
    split
    · decide +kernel
    · exact ⟨small_ne931 _, small_small _⟩
  show [lowZ K pr' (z, m, 0) t'] = [z]
  unfold lowZ
  rw [if_neg fun h => h1.1 h.1]
  exact congrArg (fun x => [x]) h1.2
theorem up_twice (l : List UInt8) : madeS upF (madeS upF l) = madeS upF l := by
  refine made_twice up_fit ?_ l
  intro pr p t z hz pr' m t'
  have h1 : z ≠ 223 ∧ greatF z = z := by
    unfold upF upZ at hz
    split at hz
    · simp at hz; subst hz; decide +kernel
    · rename_i h
      simp at hz; subst hz
      exact ⟨great_ne h, great_great _⟩
  show upZ 83 (z, m, 0) = [z]
  unfold upZ
  rw [if_neg h1.1]
  exact congrArg (fun x => [x]) h1.2

/-! ### bad bytes part texts (P5.6) -/
def Parts5 (f : Become) : Prop := ∀ (pre A B pre' : List Pc) (p x : Pc), x.2.2 ≠ 0 → f pre p (A ++ x :: B) = f pre p A ∧ f (pre ++ x :: pre') p B = f pre p B
theorem begins_part {x : Pc} (hx : x.2.2 ≠ 0) (B : List Pc) : ∀ A : List Pc, begins5 K (A ++ x :: B) = begins5 K A
  | [] => by show begins5 K (x :: B) = false; unfold begins5; rw [if_neg hx]
  | p :: t => by
    show begins5 K (p :: (t ++ x :: B)) = begins5 K (p :: t)
    unfold begins5
    rw [begins_part hx B t]
theorem inWord_part {x : Pc} (hx : x.2.2 ≠ 0) (B : List Pc) : ∀ A : List Pc, inWord5 K (A ++ x :: B) = inWord5 K A
  | [] => by show inWord5 K (x :: B) = false; unfold inWord5; exact decide_eq_false fun h => hx h.1
  | p :: t => rfl
theorem low_parts : Parts5 (lowF K) := by
  intro pre A B pre' p x hx
  unfold lowF lowZ
  rw [begins_part K hx B A, begins_part K hx pre' pre]
  exact ⟨rfl, rfl⟩
theorem up_parts : Parts5 upF := fun _ _ _ _ _ _ _ => ⟨rfl, rfl⟩
theorem title_parts : Parts5 (titleF K) := by
  intro pre A B pre' p x hx
  unfold titleF lowZ
  rw [begins_part K hx B A, begins_part K hx pre' pre, inWord_part K hx pre' pre]
  exact ⟨rfl, rfl⟩
theorem madeP_behind {f : Become} (hf : Parts5 f) {x : Pc} (hx : x.2.2 ≠ 0) (pre' : List Pc) : ∀ (ps pre : List Pc), madeP f (pre ++ x :: pre') ps = madeP f pre ps
  | [], _ => rfl
  | p :: t, pre => by
    unfold madeP
    rw [(hf pre [] t pre' p x hx).2, show p :: (pre ++ x :: pre') = (p :: pre) ++ x :: pre' from rfl, madeP_behind hf hx pre' t (p :: pre)]
theorem madeP_part {f : Become} (hf : Parts5 f) {x : Pc} (hx : x.2.2 ≠ 0) (B : List Pc) : ∀ (A pre : List Pc), madeP f pre (A ++ x :: B) = madeP f pre A ++ x :: madeP f [] B
  | [], pre => by
    show madeP f pre (x :: B) = x :: madeP f [] B
    have e : madeP f (x :: pre) B = madeP f [] B := madeP_behind hf hx pre B []
    rw [madeP, if_neg hx, e]
    rfl
  | p :: t, pre => by
    show madeP f pre (p :: (t ++ x :: B)) = madeP f pre (p :: t) ++ _
    rw [madeP, madeP, (hf pre t B [] p x hx).1, madeP_part hf hx B t (p :: pre), List.append_assoc]
end

theorem dec_ff (t : List UInt8) : dec (255 :: t) = (65533, 1) := by
  have h0 : gb (255 :: t) 0 = 255 := rfl
  have h1 := gb_lt (255 :: t) 1
  have h2 := gb_lt (255 :: t) 2
  have h3 := gb_lt (255 :: t) 3
  obtain ⟨x, hx⟩ : ∃ x, dec (255 :: t) = x := ⟨_, rfl⟩
  rw [hx]
  unfold dec decodeN at hx
  rw [h0] at hx
  repeat' split at hx
  all_goals subst hx
  all_goals first | rfl | (exfalso; omega) | (simp at *; done)
theorem items_ff (s t : List UInt8) : items (s ++ 255 :: t) = items s ++ (0, 0, 255) :: items t := by
  have hl : s.length < (s ++ 255 :: t).length := by simp
  have hb : Border (s ++ 255 :: t) s.length := border_start _ hl (by
    show gb (s ++ 255 :: t) s.length / 64 ≠ 2
    have : gb (s ++ 255 :: t) s.length = 255 := by unfold gb; simp
    omega)
  have h := items_parts hb
  rw [List.take_left, List.drop_left] at h
  rw [← h, items_step (255 :: t) (by simp), dec_ff]
  have hh : headI (255 :: t) = (0, 0, 255) := by
    unfold headI
    rw [dec_ff, if_pos ⟨rfl, by show 128 ≤ 255; omega⟩]
    rfl
  rw [hh]
  rfl
theorem madeS_ff {f : Become} (hf : Parts5 f) (s t : List UInt8) : madeS f (s ++ 255 :: t) = madeS f s ++ 255 :: madeS f t := by
  unfold madeS
  rw [items_ff, madeP_part hf (by decide) _ _ _, textP_append, textP_cons]
  rfl
theorem foldS_ff (s t : List UInt8) : foldS (s ++ 255 :: t) = foldS s ++ 255 :: foldS t := by
  rw [foldS_eq, foldS_eq, foldS_eq]
  unfold foldT
  rw [foldP_items, foldP_items, foldP_items, items_ff, List.flatMap_append, List.flatMap_cons]
  have e : foldI (0, 0, 255) = [(0, 0, 255)] := rfl
  unfold ordZ
  rw [e, List.singleton_append, ordR_split numP _ [] (0, 0, 255) _ rfl, textP_append, ordR_zero numP _ [] rfl, bucket_none, List.nil_append, textP_cons]
  rfl
end Go.Proofs.YtjkakemlhhieoaaGreatDoor

/- What becomes of a text's characters, in the forms that loops want (pure): by places in the list of pieces; by numbers ranged over. -/
namespace Go.Proofs.YtjkakemlhhieoaaGreatDoor
open Go.RowKit Go.Lib

/-- one step of the list, by its place -/
theorem madeP_from (f : Become) (ps : List Pc) (i : Nat) (p : Pc) (h : ps[i]? = some p) :
    madeP f (ps.take i).reverse (ps.drop i) = (if p.2.2 = 0 then numsP (f (ps.take i).reverse p (ps.drop (i + 1))) else [p]) ++ madeP f (ps.take (i + 1)).reverse (ps.drop (i + 1)) := by
  obtain ⟨hi, hp⟩ := List.getElem?_eq_some_iff.1 h
  have e1 : ps.drop i = p :: ps.drop (i + 1) := by rw [List.drop_eq_getElem_cons hi, hp]
  have e2 : (ps.take (i + 1)).reverse = p :: (ps.take i).reverse := by rw [List.take_add_one, h]; simp
  conv => lhs; rw [e1]
  rw [e2, madeP]
theorem madeP_done (f : Become) (ps pre : List Pc) (i : Nat) (h : ps.length ≤ i) : madeP f pre (ps.drop i) = [] := by
  rw [List.drop_eq_nil_of_le h]; rfl
/-- what a number piece writes -/
theorem textP_nums (zs : List Int) : textP (numsP zs) = zs.flatMap Lib.encodeRune := by
  unfold textP numsP
  rw [List.flatMap_map]
  rfl
theorem text_from (f : Become) (ps : List Pc) (i : Nat) (p : Pc) (h : ps[i]? = some p) :
    textP (madeP f (ps.take i).reverse (ps.drop i)) = (if p.2.2 = 0 then (f (ps.take i).reverse p (ps.drop (i + 1))).flatMap Lib.encodeRune else [UInt8.ofNat p.2.2]) ++ textP (madeP f (ps.take (i + 1)).reverse (ps.drop (i + 1))) := by
  rw [madeP_from f ps i p h, textP_append]
  congr 1
  by_cases a : p.2.2 = 0
  · rw [if_pos a, if_pos a, textP_nums]
  · rw [if_neg a, if_neg a]
    unfold textP pieceB
    simp [a]

section
variable (K : Int → Nat)
def mark5 (p : Pc) : Bool := decide (p.2.2 = 0 ∧ K p.1 = 2)
def letter5 (p : Pc) : Bool := decide (p.2.2 = 0 ∧ K p.1 = 3)
theorem begins_mark {p : Pc} (t : List Pc) (h : mark5 K p = true) : begins5 K (p :: t) = begins5 K t := by
  have h := of_decide_eq_true h
  rw [begins5, if_pos h.1, if_pos h.2]
theorem begins_other {p : Pc} (t : List Pc) (h : mark5 K p = false) : begins5 K (p :: t) = letter5 K p := by
  have h := of_decide_eq_false h
  unfold letter5
  rw [begins5]
  by_cases a : p.2.2 = 0
  · rw [if_pos a, if_neg fun b => h ⟨a, b⟩]
    exact decide_eq_decide.2 ⟨fun b => ⟨a, b⟩, fun b => b.2⟩
  · rw [if_neg a]
    exact (decide_eq_false fun b => a b.1).symm
/-- going back from a place: a mark is passed over -/
theorem back_mark {ps : List Pc} {i : Nat} {p : Pc} (hp : ps[i]? = some p) (h : mark5 K p = true) : begins5 K (ps.take (i + 1)).reverse = begins5 K (ps.take i).reverse := by
  have e2 : (ps.take (i + 1)).reverse = p :: (ps.take i).reverse := by rw [List.take_add_one, hp]; simp
  rw [e2, begins_mark K _ h]
theorem back_other {ps : List Pc} {i : Nat} {p : Pc} (hp : ps[i]? = some p) (h : mark5 K p = false) : begins5 K (ps.take (i + 1)).reverse = letter5 K p := by
  have e2 : (ps.take (i + 1)).reverse = p :: (ps.take i).reverse := by rw [List.take_add_one, hp]; simp
  rw [e2, begins_other K _ h]
theorem fore_mark {ps : List Pc} {i : Nat} {p : Pc} (hp : ps[i]? = some p) (h : mark5 K p = true) : begins5 K (ps.drop i) = begins5 K (ps.drop (i + 1)) := by
  obtain ⟨hi, e⟩ := List.getElem?_eq_some_iff.1 hp
  rw [List.drop_eq_getElem_cons hi, e, begins_mark K _ h]
theorem fore_other {ps : List Pc} {i : Nat} {p : Pc} (hp : ps[i]? = some p) (h : mark5 K p = false) : begins5 K (ps.drop i) = letter5 K p := by
  obtain ⟨hi, e⟩ := List.getElem?_eq_some_iff.1 hp
  rw [List.drop_eq_getElem_cons hi, e, begins_other K _ h]
theorem fore_end {ps : List Pc} {i : Nat} (h : ps.length ≤ i) : begins5 K (ps.drop i) = false := by rw [List.drop_eq_nil_of_le h]; rfl

/-! ### numbers, as the program ranges over them: a bad byte is FFFD -/
def runeP (p : Pc) : Int := if p.2.2 = 0 then p.1 else 65533
def beginsR : List Int → Bool
  | [] => false
  | r :: t => if K r = 2 then beginsR t else decide (K r = 3)
theorem beginsR_pieces (h2 : K 65533 ≠ 2) (h3 : K 65533 ≠ 3) : ∀ ps : List Pc, beginsR K (ps.map runeP) = begins5 K ps
  | [] => rfl
  | p :: t => by
    rw [List.map_cons, beginsR, begins5, beginsR_pieces h2 h3 t]
    unfold runeP
    by_cases a : p.2.2 = 0
    · simp only [if_pos a]
    · simp only [if_neg a, if_neg h2]
      exact decide_eq_false h3
/-- is the last number of a word? (FFFD, if there is none) -/
def inWordR (r : Int) : Bool := decide (K r = 2 ∨ K r = 3 ∨ K r = 4)
theorem inWordR_pieces (h2 : K 65533 ≠ 2) (h3 : K 65533 ≠ 3) (h4 : K 65533 ≠ 4) (ps : List Pc) : inWordR K ((ps.map runeP).headD 65533) = inWord5 K ps := by
  have hf : inWordR K 65533 = false := decide_eq_false fun h => by
    rcases h with h | h | h
    · exact h2 h
    · exact h3 h
    · exact h4 h
  cases ps with
  | nil => exact hf
  | cons p t =>
    show inWordR K (runeP p) = inWord5 K (p :: t)
    unfold runeP inWord5
    by_cases a : p.2.2 = 0
    · rw [if_pos a]
      exact decide_eq_decide.2 ⟨fun b => ⟨a, b⟩, fun b => b.2⟩
    · rw [if_neg a, hf]
      exact (decide_eq_false fun b => a b.1).symm
/-- the text's numbers ahead of a border, the last first; and behind it -/
theorem runes_pieces (l : List UInt8) : (runesOf l).map (fun (r : Nat) => (r : Int)) = (items l).map runeP := runes_items l
end

/-! ### how long it becomes -/
theorem nums_len (zs : List Int) : (zs.flatMap Lib.encodeRune).length ≤ zs.length * 4 := by
  rw [← textP_nums]
  have := textP_le (numsP zs)
  unfold numsP at this
  rw [List.length_map] at this
  exact this
theorem madeP_len {f : Become} (hf : ∀ pre p t, (f pre p t).length ≤ 2) : ∀ (ps pre : List Pc), (madeP f pre ps).length ≤ ps.length * 2
  | [], _ => Nat.le_refl _
  | p :: t, pre => by
    unfold madeP
    rw [List.length_append, List.length_cons]
    have ih := madeP_len hf t (p :: pre)
    by_cases a : p.2.2 = 0
    · rw [if_pos a]
      have := hf pre p t
      unfold numsP
      rw [List.length_map]
      omega
    · rw [if_neg a, List.length_singleton]
      omega
theorem items_len5 (l : List UInt8) : (items l).length ≤ l.length := by
  induction l using walk_ind with
  | h0 => exact Nat.le_refl _
  | h1 l h ih =>
    have := dec_pos l
    have := List.length_pos_iff.2 h
    rw [items_step l h, List.length_cons]
    rw [List.length_drop] at ih
    omega
theorem madeS_len {f : Become} (hf : ∀ pre p t, (f pre p t).length ≤ 2) (l : List UInt8) : (madeS f l).length ≤ l.length * 8 := by
  have a := textP_le (madeP f [] (items l))
  have b := madeP_len hf (items l) []
  have c := items_len5 l
  unfold madeS
  omega
theorem low_two (K : Int → Nat) : ∀ pre p t, (lowF K pre p t).length ≤ 2 := fun _ _ _ => by unfold lowF; simp
theorem upZ_two (ss : Int) (p : Pc) : (upZ ss p).length ≤ 2 := by unfold upZ; split <;> simp
theorem up_two : ∀ pre p t, (upF pre p t).length ≤ 2 := fun _ p _ => upZ_two 83 p
theorem title_two (K : Int → Nat) : ∀ pre p t, (titleF K pre p t).length ≤ 2 := fun pre p t => by
  unfold titleF
  split
  · exact upZ_two 115 p
  · simp
theorem swap_two : ∀ pre p t, (swapF pre p t).length ≤ 2 := fun pre p t => by
  unfold swapF
  split
  · exact upZ_two 83 p
  · simp
end Go.Proofs.YtjkakemlhhieoaaGreatDoor
