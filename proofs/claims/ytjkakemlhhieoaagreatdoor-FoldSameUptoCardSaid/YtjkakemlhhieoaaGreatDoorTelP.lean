/- What a text is taken apart into reads back (pure). -/
import Derived.Test.YtjkakemlhhieoaaGreatDoorItems
import Derived.Test.YtjkakemlhhieoaaGreatDoorPurePO
set_option linter.unusedSimpArgs false
set_option linter.unusedVariables false
namespace Go.Proofs.YtjkakemlhhieoaaGreatDoor
open Go.RowKit Go.Lib

theorem parts_lt (r : Int) : (partsZ r).1 ≤ 55203 ∧ (partsZ r).2 ≤ 55203 := by
  unfold partsZ
  by_cases h1 : r < 192
  · rw [if_pos h1]; decide
  · rw [if_neg h1]
    by_cases h2 : 44032 ≤ r ∧ r < 55204
    · rw [if_pos h2]
      unfold sylZ
      have hm0 := Int.tmod_nonneg (28 : Int) (show (0 : Int) ≤ r - 44032 by omega)
      have hm := Int.tmod_lt_of_pos (r - 44032) (show (0 : Int) < 28 by decide)
      have hd0 := Int.tdiv_nonneg (show (0 : Int) ≤ r - 44032 by omega) (show (0 : Int) ≤ 28 by decide)
      have hd1 : (r - 44032).tdiv 28 < 399 := by rw [Int.tdiv_eq_ediv_of_nonneg (by omega)]; omega
      have hq0 := Int.tdiv_nonneg hd0 (show (0 : Int) ≤ 21 by decide)
      have hq1 : ((r - 44032).tdiv 28).tdiv 21 < 20 := by rw [Int.tdiv_eq_ediv_of_nonneg hd0]; omega
      have hr0 := Int.tmod_nonneg (21 : Int) hd0
      have hr1 := Int.tmod_lt_of_pos ((r - 44032).tdiv 28) (show (0 : Int) < 21 by decide)
      split <;> (simp only; omega)
    · rw [if_neg h2]
      by_cases h3 : 12352 ≤ r ∧ r < 12544
      · rw [if_pos h3]
        unfold kanaZ
        cases hasI kanaV (kanaL r - 1) with
        | true => simp only [cond_true]; omega
        | false =>
          cases hasI kanaH (kanaL r - 2) with
          | true => simp only [cond_true, cond_false]; omega
          | false => simp only [cond_false]; omega
      · rw [if_neg h3]
        have a := lookI_le (l := greekT) (z := 0) (r := r) (N := 55203) (by decide +kernel) (by decide)
        have b := lookI_le (l := cyrT) (z := 0) (r := r) (N := 55203) (by decide +kernel) (by decide)
        have c := lookI_le (l := greatT) (z := 0) (r := r) (N := 55203) (by decide +kernel) (by decide)
        have d := lookI_le (l := smallT) (z := 0) (r := r) (N := 55203) (by decide +kernel) (by decide)
        have e := lookI_le (l := markT) (z := 0) (r := r) (N := 55203) (by decide +kernel) (by decide)
        unfold letterZ
        refine ⟨?_, e.2⟩
        split
        · exact a.2
        · split
          · exact b.2
          · split
            · exact c.2
            · exact d.2
theorem scal_low {q : Int} (h : 0 ≤ q) (h2 : q ≤ 55203) : Scal q := .inl ⟨h, by omega⟩
theorem single_scal (r : Int) (h : Scal r) : Scal (singleZ r) := by
  unfold singleZ
  split
  · exact scal_low (by decide) (by decide)
  · split
    · exact scal_low (by decide) (by decide)
    · split
      · exact scal_low (by decide) (by decide)
      · exact h
theorem splitF_scal : ∀ (f : Nat) (r : Int), Scal r → ∀ q ∈ splitF f r, Scal q
  | 0, r, h, q, hq => by
    rw [List.mem_singleton.1 hq]
    exact single_scal r h
  | f + 1, r, h, q, hq => by
    unfold splitF at hq
    split at hq
    · rw [List.mem_singleton.1 hq]
      exact single_scal r h
    · have hp := parts_le (singleZ r)
      have hl := parts_lt (singleZ r)
      have e : stepZ r = partsZ (singleZ r) := rfl
      rcases List.mem_append.1 hq with hq | hq
      · exact splitF_scal f _ (by rw [e]; exact scal_low hp.1 hl.1) q hq
      · rw [List.mem_singleton.1 hq, e]
        exact scal_low hp.2.2.1 hl.2
/-- a piece that is a number -/
def NumPc (p : Pc) : Prop := p.2.2 = 0 ∧ Scal p.1 ∧ p.2.1 = markZ p.1
theorem splitF_ne : ∀ (f : Nat) (r : Int), splitF f r ≠ []
  | 0, r => by simp [splitF]
  | f + 1, r => by
    unfold splitF
    split <;> simp
/-- what stands at the head of a text that is not nothing: a raw byte, or numbers -/
theorem headP_cases (l : List UInt8) (h : l ≠ []) : (headP l = [(0, 0, gb l 0)] ∧ (dec l).2 = 1 ∧ 128 ≤ gb l 0) ∨ (headP l ≠ [] ∧ ∀ p ∈ headP l, NumPc p) := by
  unfold headP
  by_cases c : (dec l).2 = 1 ∧ 128 ≤ gb l 0
  · rw [if_pos c]; exact .inl ⟨rfl, c⟩
  · rw [if_neg c]
    refine .inr ⟨fun e => splitF_ne 3 _ (List.map_eq_nil_iff.1 e), fun p hp => ?_⟩
    obtain ⟨q, hq, rfl⟩ := List.mem_map.1 hp
    refine ⟨rfl, splitF_scal 3 _ ?_ q hq, rfl⟩
    have := (dec_facts l h).2.2.2.2.2.2
    unfold Scal
    omega
theorem bucket_ne {row : List Pc} (h : row ≠ []) (hn : ∀ p ∈ row, numP p < 256) : bucket numP row ≠ [] := by
  intro e
  have hl := bucket_len numP row hn
  rw [e] at hl
  exact h (List.eq_nil_of_length_eq_zero hl.symm)
theorem numP_lt {p : Pc} (h : NumPc p) : numP p < 256 := by
  show p.2.1 < 256
  rw [h.2.2]
  exact markZ_lt p.1
/-- behind a row of what are no starters the first is a number -/
theorem ordR_first : ∀ (xs row : List Pc), row ≠ [] → (∀ p ∈ row, NumPc p) → (∀ p ∈ xs, numP p ≠ 0 → NumPc p) → ∃ y t, ordR numP row xs = y :: t ∧ y.2.2 = 0
  | [], row, h, hr, _ => by
    rw [ordR_nil]
    obtain ⟨y, t, e⟩ := List.exists_cons_of_ne_nil (bucket_ne h (fun p hp => numP_lt (hr p hp)))
    exact ⟨y, t, e, (hr y (bucket_mem numP row y (by rw [e]; exact List.mem_cons_self ..))).1⟩
  | x :: xs, row, h, hr, hxs => by
    obtain ⟨y, t, e⟩ := List.exists_cons_of_ne_nil (bucket_ne h (fun p hp => numP_lt (hr p hp)))
    have hy := (hr y (bucket_mem numP row y (by rw [e]; exact List.mem_cons_self ..))).1
    by_cases hx : numP x = 0
    · rw [ordR_zero numP xs row hx, e]
      exact ⟨y, _, rfl, hy⟩
    · rw [ordR_more numP xs row hx]
      exact ordR_first xs (row ++ [x]) (by simp) (fun p hp => by
        rcases List.mem_append.1 hp with hp | hp
        · exact hr p hp
        · rw [List.mem_singleton.1 hp]; exact hxs x (List.mem_cons_self ..) hx) (fun p hp => hxs p (List.mem_cons_of_mem _ hp))
theorem rawP_fair (l : List UInt8) : ∀ p ∈ rawP l, numP p ≠ 0 → NumPc p := by
  induction l using walk_ind with
  | h0 => intro p hp; cases hp
  | h1 l h ih =>
    intro p hp hn
    rw [rawP_step l h] at hp
    rcases List.mem_append.1 hp with hp | hp
    · rcases headP_cases l h with ⟨e, _⟩ | ⟨_, e⟩
      · rw [e] at hp
        rw [List.mem_singleton.1 hp] at hn
        exact absurd rfl hn
      · exact e p hp
    · exact ih p hp hn
theorem enc_head (z : Int) (t : List UInt8) : gb (Lib.encodeRune z ++ t) 0 / 64 ≠ 2 := by
  unfold Lib.encodeRune Lib.encodeRuneZ
  repeat' split
  all_goals
    simp only [List.map_cons, List.cons_append, gb_zero]
    have : ∀ n : Nat, n < 256 → (n.toUInt8).toNat = n := fun n hn => by simp [Nat.toUInt8]; omega
    rw [this _ (by omega)]
    omega
theorem apartP_raw (a : UInt8) (rest : List UInt8) (hw : (dec (a :: rest)).2 = 1) (hh : headP (a :: rest) = [(0, 0, gb (a :: rest) 0)]) : apartP (a :: rest) = (0, 0, a.toNat) :: apartP rest := by
  unfold apartP ordZ
  rw [rawP_step _ (by simp), hh, hw]
  simp only [List.drop_one, List.tail_cons, List.cons_append, List.nil_append]
  rw [ordR_zero numP _ _ (by rfl), bucket_none]
  rfl
theorem apartP_num (l : List UInt8) (h : l ≠ []) (h1 : headP l ≠ []) (h2 : ∀ p ∈ headP l, NumPc p) : ∃ y t, apartP l = y :: t ∧ y.2.2 = 0 := by
  obtain ⟨y, ys, e⟩ := List.exists_cons_of_ne_nil h1
  have hy := h2 y (by rw [e]; exact List.mem_cons_self ..)
  have hf := rawP_fair l
  unfold apartP ordZ
  rw [rawP_step l h, e] at hf ⊢
  rw [List.cons_append] at hf ⊢
  by_cases hx : numP y = 0
  · rw [ordR_zero numP _ _ hx, bucket_none]
    exact ⟨y, _, rfl, hy.1⟩
  · rw [ordR_more numP _ _ hx]
    exact ordR_first _ _ (by simp) (fun p hp => by rw [List.nil_append] at hp; rw [List.mem_singleton.1 hp]; exact hy) (fun p hp => hf p (List.mem_cons_of_mem _ hp))
theorem textP_rawhead (a : UInt8) (t : List Pc) (ha : 128 ≤ a.toNat) : textP ((0, 0, a.toNat) :: t) = a :: textP t := by
  rw [textP_cons]
  unfold pieceB
  rw [if_neg (by show a.toNat ≠ 0; omega)]
  simp
/-- the bytes that go on a character, at the head of a text that was taken apart, are the first text's -/
theorem front : ∀ (j : Nat) (l : List UInt8), (∀ i, i < j → gb (textP (apartP l)) i / 64 = 2) → j ≤ l.length ∧ l.take j = (textP (apartP l)).take j
  | 0, l, _ => ⟨Nat.zero_le _, by simp⟩
  | j + 1, l, h => by
    have h0 := h 0 (by omega)
    cases l with
    | nil =>
      exfalso
      have : gb (textP (apartP [])) 0 = 0 := by decide +kernel
      omega
    | cons a rest =>
      rcases headP_cases (a :: rest) (by simp) with ⟨e, hw, hb⟩ | ⟨hne, hnum⟩
      · have hap := apartP_raw a rest hw e
        have hb' : 128 ≤ a.toNat := hb
        rw [hap, textP_rawhead a _ hb'] at h ⊢
        have ih := front j rest (fun i hi => h (i + 1) (by omega))
        refine ⟨by rw [List.length_cons]; omega, ?_⟩
        rw [List.take_succ_cons, List.take_succ_cons, ih.2]
      · exfalso
        obtain ⟨y, t, e, hy⟩ := apartP_num (a :: rest) (by simp) hne hnum
        rw [e, textP_cons] at h0
        unfold pieceB at h0
        rw [if_pos hy] at h0
        exact enc_head _ _ h0
/-- a byte that was no character is none ahead of what the rest is taken apart into -/
theorem still_raw (a : UInt8) (rest : List UInt8) (hw : (dec (a :: rest)).2 = 1) : (dec (a :: textP (apartP rest))).2 = 1 := by
  obtain ⟨x, hx⟩ : ∃ x, textP (apartP rest) = x := ⟨_, rfl⟩
  rw [hx]
  have h1 := dec_pos (a :: x)
  by_cases h2 : (dec (a :: x)).2 = 1
  · exact h2
  · exfalso
    obtain ⟨j, hj⟩ : ∃ j, (dec (a :: x)).2 = j + 1 := ⟨(dec (a :: x)).2 - 1, by omega⟩
    have hf := front j rest (fun i hi => by
      rw [hx]
      exact dec_in (a :: x) (by simp) (i + 1) (by omega) (by omega))
    rw [hx] at hf
    have hle := dec_le (a :: x) (by simp)
    have t1 := dec_take (a :: x) (j + 1) (by omega) (by omega) (by omega)
    have t2 := dec_take (a :: rest) (j + 1) (by omega) (by rw [List.length_cons]; omega) (by omega)
    rw [List.take_succ_cons, hf.2, ← List.take_succ_cons, t1] at t2
    rw [← t2] at hw
    exact h2 hw
theorem TelP_nums : ∀ (ns t : List Pc), (∀ p ∈ ns, NumPc p) → TelP t → TelP (ns ++ t)
  | [], t, _, h => h
  | p :: ns, t, hn, h => .cons (.inl (hn p (List.mem_cons_self ..))) (TelP_nums ns t (fun q hq => hn q (List.mem_cons_of_mem _ hq)) h)
theorem TelP_row (rest : List Pc) (hrest : ∀ row : List Pc, (∀ p ∈ row, NumPc p) → TelP (ordR numP row rest)) : ∀ (ns row : List Pc), (∀ p ∈ ns, NumPc p) → (∀ p ∈ row, NumPc p) → TelP (ordR numP row (ns ++ rest))
  | [], row, _, hr => hrest row hr
  | p :: ns, row, hn, hr => by
    have hp := hn p (List.mem_cons_self ..)
    have hns := fun q hq => hn q (List.mem_cons_of_mem _ hq)
    rw [List.cons_append]
    by_cases hx : numP p = 0
    · rw [ordR_zero numP _ _ hx]
      exact TelP_nums _ _ (fun q hq => hr q (bucket_mem numP row q hq)) (.cons (.inl hp) (TelP_row rest hrest ns [] hns (fun _ h => by cases h)))
    · rw [ordR_more numP _ _ hx]
      exact TelP_row rest hrest ns _ hns (fun q hq => by
        rcases List.mem_append.1 hq with hq | hq
        · exact hr q hq
        · rw [List.mem_singleton.1 hq]; exact hp)
theorem TelP_raw (l : List UInt8) : ∀ row : List Pc, (∀ p ∈ row, NumPc p) → TelP (ordR numP row (rawP l)) := by
  induction l using walk_ind with
  | h0 =>
    intro row hr
    have h := TelP_nums (bucket numP row) [] (fun q hq => hr q (bucket_mem numP row q hq)) .nil
    rw [List.append_nil] at h
    exact h
  | h1 l h ih =>
    intro row hr
    rw [rawP_step l h]
    rcases headP_cases l h with ⟨e, hw, hb⟩ | ⟨_, hnum⟩
    · cases l with
      | nil => exact absurd rfl h
      | cons a rest =>
        rw [hw] at ih
        rw [e, hw]
        simp only [List.drop_one, List.tail_cons] at ih ⊢
        rw [List.cons_append, List.nil_append, ordR_zero numP _ _ (by rfl)]
        refine TelP_nums _ _ (fun q hq => hr q (bucket_mem numP row q hq)) (.cons (.inr ⟨rfl, rfl, hb, gb_lt _ _, ?_⟩) (ih [] (fun _ h => by cases h)))
        have hs := still_raw a rest hw
        show (dec (UInt8.ofNat a.toNat :: textP (ordR numP [] (rawP rest)))).2 = 1
        rw [show UInt8.ofNat a.toNat = a by simp]
        exact hs
    · exact TelP_row _ ih _ row hnum hr
theorem TelP_apart (l : List UInt8) : TelP (apartP l) := TelP_raw l [] (fun _ h => by cases h)
/-- what a text is taken apart into reads back -/
theorem items_apart (l : List UInt8) : items (apartS l) = apartP l := items_textP _ (TelP_apart l)
/-- a text taken apart tells which pieces they were -/
theorem apartS_inj {a b : List UInt8} (h : apartS a = apartS b) : apartP a = apartP b := by rw [← items_apart a, ← items_apart b, h]

/-! ### What was taken apart stays -/
theorem parts_sec (r : Int) : (partsZ r).2 = 0 ∨ 768 ≤ (partsZ r).2 ∧ (partsZ r).2 < 896 ∨ 4449 ≤ (partsZ r).2 ∧ (partsZ r).2 < 4547 ∨ 12441 ≤ (partsZ r).2 ∧ (partsZ r).2 < 12443 := by
  unfold partsZ
  by_cases h1 : r < 192
  · rw [if_pos h1]; exact .inl rfl
  · rw [if_neg h1]
    by_cases h2 : 44032 ≤ r ∧ r < 55204
    · rw [if_pos h2]
      unfold sylZ
      have hm0 := Int.tmod_nonneg (28 : Int) (show (0 : Int) ≤ r - 44032 by omega)
      have hm := Int.tmod_lt_of_pos (r - 44032) (show (0 : Int) < 28 by decide)
      have hd0 := Int.tdiv_nonneg (show (0 : Int) ≤ r - 44032 by omega) (show (0 : Int) ≤ 28 by decide)
      have hr0 := Int.tmod_nonneg (21 : Int) hd0
      have hr1 := Int.tmod_lt_of_pos ((r - 44032).tdiv 28) (show (0 : Int) < 21 by decide)
      split <;> (simp only; omega)
    · rw [if_neg h2]
      by_cases h3 : 12352 ≤ r ∧ r < 12544
      · rw [if_pos h3]
        unfold kanaZ
        cases hasI kanaV (kanaL r - 1) with
        | true => simp only [cond_true]; first | omega | decide | (right; right; right; decide)
        | false =>
          cases hasI kanaH (kanaL r - 2) with
          | true => simp only [cond_true, cond_false]; first | omega | decide | (right; right; right; decide)
          | false => simp only [cond_false]; first | omega | decide | exact Or.inl rfl
      · rw [if_neg h3]
        show lookI markT 0 r = 0 ∨ _
        by_cases h0 : lookI markT 0 r = 0
        · exact .inl h0
        · right; left
          have hall : (markT.all fun x => decide (768 ≤ x.2 ∧ x.2 < 896)) = true := by decide +kernel
          have key : ∀ l : List (List Int × Int), (l.all fun x => decide (768 ≤ x.2 ∧ x.2 < 896)) = true → lookI l 0 r ≠ 0 → 768 ≤ lookI l 0 r ∧ lookI l 0 r < 896 := by
            intro l
            induction l with
            | nil => intro _ h; exact absurd rfl h
            | cons x t ih =>
              intro ha hne
              simp only [List.all_cons, Bool.and_eq_true, decide_eq_true_eq] at ha
              unfold lookI at hne ⊢
              cases hh : hasI x.1 r with
              | true => simp only [cond_true]; exact ha.1
              | false =>
                rw [hh] at hne
                simp only [cond_false] at hne ⊢
                exact ih (by simpa using ha.2) hne
          exact key markT hall h0
theorem apart_1 : ((List.range 128).all fun i => splitZ (768 + (i : Int)) == [768 + (i : Int)]) = true := by decide +kernel
theorem apart_2 : ((List.range 98).all fun i => splitZ (4449 + (i : Int)) == [4449 + (i : Int)]) = true := by decide +kernel
theorem apart_3 : ((List.range 2).all fun i => splitZ (12441 + (i : Int)) == [12441 + (i : Int)]) = true := by decide +kernel
theorem mark_still (q : Int) (h : 768 ≤ q ∧ q < 896 ∨ 4449 ≤ q ∧ q < 4547 ∨ 12441 ≤ q ∧ q < 12443) : splitZ q = [q] := by
  rcases h with h | h | h
  · have := eq_of_beq (List.all_eq_true.1 apart_1 (q - 768).toNat (List.mem_range.2 (by omega)))
    rw [show (768 : Int) + ((q - 768).toNat : Nat) = q by omega] at this
    exact this
  · have := eq_of_beq (List.all_eq_true.1 apart_2 (q - 4449).toNat (List.mem_range.2 (by omega)))
    rw [show (4449 : Int) + ((q - 4449).toNat : Nat) = q by omega] at this
    exact this
  · have := eq_of_beq (List.all_eq_true.1 apart_3 (q - 12441).toNat (List.mem_range.2 (by omega)))
    rw [show (12441 : Int) + ((q - 12441).toNat : Nat) = q by omega] at this
    exact this
theorem single_single (r : Int) : singleZ (singleZ r) = singleZ r := by
  by_cases hs : r = 0x212a ∨ r = 0x2126 ∨ r = 0x212b
  · rcases hs with rfl | rfl | rfl <;> decide +kernel
  · have hq : singleZ r = r := by unfold singleZ; rw [if_neg (by omega), if_neg (by omega), if_neg (by omega)]
    rw [hq, hq]
theorem end_still (r : Int) (h : (stepZ r).2 = 0) : splitZ (singleZ r) = [singleZ r] := by
  have e : stepZ (singleZ r) = stepZ r := by unfold stepZ; rw [single_single]
  unfold splitZ
  rw [splitF, if_pos (by rw [e]; exact h), single_single]
theorem splitF_still : ∀ (f : Nat) (r : Int), depB f r = true → ∀ q ∈ splitF f r, splitZ q = [q]
  | 0, r, h, q, hq => by
    rw [List.mem_singleton.1 hq]
    exact end_still r (of_decide_eq_true h)
  | f + 1, r, h, q, hq => by
    by_cases h0 : (stepZ r).2 = 0
    · rw [splitF, if_pos h0] at hq
      rw [List.mem_singleton.1 hq]
      exact end_still r h0
    · unfold depB at h
      rw [decide_eq_false h0, Bool.false_or] at h
      rw [splitF, if_neg h0] at hq
      rcases List.mem_append.1 hq with hq | hq
      · exact splitF_still f _ h q hq
      · rw [List.mem_singleton.1 hq]
        rcases parts_sec (singleZ r) with e | e
        · exact absurd e h0
        · exact mark_still _ e
theorem splitZ_still (r : Int) : ∀ q ∈ splitZ r, splitZ q = [q] := splitF_still 3 r (dep_all r)
theorem apartP_still (l : List UInt8) : ∀ p ∈ apartP l, splitP p = [p] := by
  intro p hp
  have hp : p ∈ rawP l := by
    rcases ordR_mem numP _ _ p hp with h | h
    · cases h
    · exact h
  rw [rawP_items] at hp
  obtain ⟨y, _, hy⟩ := List.mem_flatMap.1 hp
  unfold splitP at hy ⊢
  by_cases hb : y.2.2 = 0
  · rw [if_pos hb] at hy
    obtain ⟨q, hq, rfl⟩ := List.mem_map.1 hy
    rw [if_pos rfl]
    simp only
    rw [splitZ_still y.1 q hq]
    rfl
  · rw [if_neg hb] at hy
    rw [List.mem_singleton.1 hy, if_neg hb]
theorem flat_still : ∀ (ps : List Pc), (∀ p ∈ ps, splitP p = [p]) → ps.flatMap splitP = ps
  | [], _ => rfl
  | p :: t, h => by
    rw [List.flatMap_cons, h p (List.mem_cons_self ..), flat_still t (fun q hq => h q (List.mem_cons_of_mem _ hq))]
    rfl
/-- what is apart is taken apart into itself -/
theorem apartP_twice (l : List UInt8) : apartP (apartS l) = apartP l := by
  unfold apartP
  rw [rawP_items, items_apart, flat_still _ (apartP_still l)]
  exact ord_twice numP _
theorem apartS_twice (l : List UInt8) : apartS (apartS l) = apartS l := by
  unfold apartS
  have h := apartP_twice l
  unfold apartS at h
  rw [h]
end Go.Proofs.YtjkakemlhhieoaaGreatDoor
