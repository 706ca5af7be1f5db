/- What is put together is taken apart again (pure). -/
import Derived.Test.YtjkakemlhhieoaaGreatDoorCompG
import Derived.Test.YtjkakemlhhieoaaGreatDoorPurePO
import Derived.Test.YtjkakemlhhieoaaGreatDoorTelP
import Derived.Test.YtjkakemlhhieoaaGreatDoorSwapP
set_option linter.unusedSimpArgs false
set_option linter.unusedVariables false
namespace Go.Proofs.YtjkakemlhhieoaaGreatDoor
open Go.RowKit Go.Lib

theorem pair_zero_l : (pairsL.all fun x => decide (x.1.1 ≠ 0)) = true := by decide +kernel
theorem pair_none_l (x : Int) : pairZ 0 x = 0 := by
  unfold pairZ
  split
  · unfold syllZ
    rw [if_neg (by omega), if_neg (fun h => absurd h.1 (by decide))]
  · by_cases h : lookP pairsL 0 x = 0
    · exact h
    · obtain ⟨y, hy, h1, _⟩ := look_has pairsL 0 x h
      have h2 := of_decide_eq_true (List.all_eq_true.1 pair_zero_l y hy)
      rw [h1] at h2
      exact absurd rfl h2
theorem markZ_zero : markZ 0 = 0 := by decide +kernel
theorem pair_none_r (x : Int) : pairZ x 0 = 0 := by
  unfold pairZ
  rw [if_pos markZ_zero]
  unfold syllZ
  rw [if_neg (by omega), if_neg (by omega)]
/-- a piece of what is apart -/
def Fair (p : Pc) : Prop := splitP p = [p] ∧ (p.2.2 = 0 ∧ p.2.1 = markZ p.1 ∨ p.2.2 ≠ 0 ∧ p.1 = 0 ∧ p.2.1 = 0)
/-- what stands in the composer behind P, whose last number was L -/
def Inv (P : List Pc) (L : Nat) (made : List Pc) (st : Option Nat) : Prop :=
  (∀ rest row, ordR numP row (made.flatMap splitP ++ rest) = ordR numP row (P ++ rest)) ∧
  (∀ k, st = some k → ∃ A s M, made = A ++ s :: M ∧ A.length = k ∧ numP s = 0 ∧ (s.2.2 ≠ 0 → s.1 = 0) ∧ ∀ m ∈ M, numP m ≠ 0 ∧ splitP m = [m] ∧ numP m ≤ L ∧ numP m ≤ numP (lastZ made) ∧ m.2.2 = 0)
theorem flat_split_M : ∀ (M : List Pc), (∀ m ∈ M, splitP m = [m]) → M.flatMap splitP = M
  | [], _ => rfl
  | p :: t, h => by
    rw [List.flatMap_cons, h p (List.mem_cons_self ..), flat_split_M t (fun q hq => h q (List.mem_cons_of_mem _ hq))]
    rfl
theorem last_snoc (made : List Pc) (p : Pc) : lastZ (made ++ [p]) = p := by
  unfold lastZ
  simp
theorem inv_step (P : List Pc) (L : Nat) (made : List Pc) (st : Option Nat) (p : Pc) (h : Inv P L made st) (hp : Fair p) (hL : numP p = 0 ∨ L ≤ numP p) : Inv (P ++ [p]) (numP p) (addZ made st p).1 (addZ made st p).2 := by
  obtain ⟨h1, h2⟩ := h
  unfold addZ
  by_cases hc : reachZ made st p = true ∧ bothZ made st p ≠ 0
  · rw [if_pos hc]
    obtain ⟨hr, hb⟩ := hc
    cases hst : st with
    | none => rw [hst] at hr; exact absurd hr (by simp [reachZ])
    | some k =>
      obtain ⟨A, s, M, hm, hk, hs, hraw, hM⟩ := h2 k hst
      have hat : atZ made (some k) = s := by
        unfold atZ
        rw [hm]
        simp [← hk]
      rw [hst] at hb hr
      unfold bothZ at hb ⊢
      rw [hat] at hb ⊢
      have hs0 : s.2.2 = 0 := by
        by_cases c : s.2.2 = 0
        · exact c
        · rw [hraw c, pair_none_l] at hb; exact absurd rfl hb
      have hp0 : p.2.2 = 0 ∧ p.2.1 = markZ p.1 := by
        rcases hp.2 with c | ⟨_, c, _⟩
        · exact c
        · rw [c, pair_none_r] at hb; exact absurd rfl hb
      have hset : made.set k (pairZ s.1 p.1, s.2) = A ++ (pairZ s.1 p.1, s.2) :: M := by
        rw [hm, ← hk]
        simp
      have hsp : splitP (pairZ s.1 p.1, s.2) = splitP s ++ [p] := by
        unfold splitP
        rw [if_pos hs0, if_pos hs0]
        simp only
        rw [pair_split s.1 p.1 hb, List.map_append]
        congr 1
        show [(p.1, markZ p.1, 0)] = [p]
        rw [← hp0.2, ← hp0.1]
      have hMs := flat_split_M M (fun m hm => (hM m hm).2.1)
      simp only [Option.getD_some]
      rw [hset]
      have hlt : ∀ m ∈ M, numP m ≠ 0 ∧ numP m ≠ numP p := by
        intro m hmm
        have hm4 := (hM m hmm)
        refine ⟨hm4.1, ?_⟩
        unfold reachZ at hr
        simp only at hr
        rcases Bool.or_eq_true_iff.1 hr with c | c
        · have c := eq_of_beq c
          rw [hm, List.length_append, List.length_cons] at c
          have : M.length = 0 := by omega
          rw [List.eq_nil_of_length_eq_zero this] at hmm
          cases hmm
        · have c := of_decide_eq_true c
          have : numP (lastZ made) < numP p := c
          omega
      refine ⟨fun rest row => ?_, fun k' hk' => ?_⟩
      · have e := h1 (p :: rest) row
        rw [hm] at e
        simp only [List.flatMap_append, List.flatMap_cons, hMs, List.append_assoc] at e
        simp only [List.flatMap_append, List.flatMap_cons, hMs, hsp, List.append_assoc, List.cons_append, List.nil_append]
        rw [← e]
        refine ord_ahead numP (fun row => ord_ahead numP (fun row => ?_) _ row) _ row
        by_cases hMn : M = []
        · rw [hMn]; rfl
        · have hpn : numP p ≠ 0 := by
            obtain ⟨m, t, em⟩ := List.exists_cons_of_ne_nil hMn
            have := hlt m (by rw [em]; exact List.mem_cons_self ..)
            have h3 := hM m (by rw [em]; exact List.mem_cons_self ..)
            unfold reachZ at hr
            simp only at hr
            rcases Bool.or_eq_true_iff.1 hr with c | c
            · have c := eq_of_beq c
              rw [hm, List.length_append, List.length_cons, em, List.length_cons] at c
              omega
            · have c := of_decide_eq_true c
              have : numP (lastZ made) < numP p := c
              omega
          exact (ord_swap numP row M rest p hpn hlt).symm
      · have hk2 : k' = k := (Option.some.inj hk').symm
        subst hk2
        refine ⟨A, (pairZ s.1 p.1, s.2), M, rfl, hk, hs, fun c => absurd hs0 c, fun m hmm => ?_⟩
        have h3 := hM m hmm
        refine ⟨h3.1, h3.2.1, ?_, ?_, h3.2.2.2.2⟩
        · by_cases hpn : numP p = 0
          · exfalso
            unfold reachZ at hr
            simp only at hr
            rcases Bool.or_eq_true_iff.1 hr with c | c
            · have c := eq_of_beq c
              rw [hm, List.length_append, List.length_cons] at c
              have : M.length = 0 := by omega
              rw [List.eq_nil_of_length_eq_zero this] at hmm
              cases hmm
            · have c := of_decide_eq_true c
              have : numP (lastZ made) < numP p := c
              omega
          · have := h3.2.2.1
            omega
        · have e : lastZ (A ++ (pairZ s.1 p.1, s.2) :: M) = lastZ made := by
            have hne : M ≠ [] := by intro c; rw [c] at hmm; cases hmm
            obtain ⟨M', z, hM'⟩ : ∃ M' z, M = M' ++ [z] := ⟨M.dropLast, M.getLast hne, (List.dropLast_concat_getLast hne).symm⟩
            rw [hm, hM', ← List.cons_append, ← List.append_assoc, last_snoc, ← List.cons_append, ← List.append_assoc, last_snoc]
          rw [e]
          exact h3.2.2.2.1
  · rw [if_neg hc]
    refine ⟨fun rest row => ?_, fun k hk => ?_⟩
    · rw [List.flatMap_append, List.append_assoc]
      have e : [p].flatMap splitP = [p] := by
        rw [List.flatMap_cons, hp.1]
        rfl
      rw [e, List.append_assoc]
      exact h1 ([p] ++ rest) row
    · by_cases hp0 : p.2.1 = 0
      · simp only at hk
        rw [if_pos hp0] at hk
        have := Option.some.inj hk
        exact ⟨made, p, [], rfl, this, hp0, fun c => by
          rcases hp.2 with d | d
          · exact absurd d.1 c
          · exact d.2.1, fun m hm => by cases hm⟩
      · simp only at hk
        rw [if_neg hp0] at hk
        obtain ⟨A, s, M, hm, hk2, hs, hraw, hM⟩ := h2 k hk
        refine ⟨A, s, M ++ [p], by rw [hm]; simp, hk2, hs, hraw, fun m hmm => ?_⟩
        have hpn : numP p ≠ 0 := hp0
        have hLp : L ≤ numP p := by
          rcases hL with c | c
          · exact absurd c hpn
          · exact c
        rw [last_snoc]
        rcases List.mem_append.1 hmm with hmm | hmm
        · have h3 := hM m hmm
          exact ⟨h3.1, h3.2.1, by omega, by omega, h3.2.2.2.2⟩
        · rw [List.mem_singleton.1 hmm]
          exact ⟨hpn, hp.1, Nat.le_refl _, Nat.le_refl _, by
            rcases hp.2 with c | c
            · exact c.1
            · exact absurd c.2.2 hpn⟩
theorem inv_fold : ∀ (ps P : List Pc) (L : Nat) (made : List Pc) (st : Option Nat), Inv P L made st → (∀ p ∈ ps, Fair p) → Asc numP ps → (∀ y, ps.head? = some y → numP y = 0 ∨ L ≤ numP y) →
    ∃ L', Inv (P ++ ps) L' (ps.foldl stepT (made, st)).1 (ps.foldl stepT (made, st)).2
  | [], P, L, made, st, h, _, _, _ => ⟨L, by rw [List.append_nil]; exact h⟩
  | p :: t, P, L, made, st, h, hf, ha, hl => by
    have h1 := inv_step P L made st p h (hf p (List.mem_cons_self ..)) (hl p rfl)
    have ha2 : Asc numP t ∧ ∀ y, t.head? = some y → numP y = 0 ∨ numP p ≤ numP y := by
      cases ha with
      | one x => exact ⟨.nil, fun y hy => by cases hy⟩
      | cons c d => exact ⟨d, fun y hy => by cases hy; exact c⟩
    obtain ⟨L', h2⟩ := inv_fold t (P ++ [p]) (numP p) (addZ made st p).1 (addZ made st p).2 h1 (fun q hq => hf q (List.mem_cons_of_mem _ hq)) ha2.1 ha2.2
    refine ⟨L', ?_⟩
    rw [List.append_assoc] at h2
    exact h2
theorem apartP_fair (l : List UInt8) : ∀ p ∈ apartP l, Fair p := by
  intro p hp
  refine ⟨apartP_still l p hp, ?_⟩
  have hp : p ∈ rawP l := by
    rcases ordR_mem numP _ _ p hp with h | h
    · cases h
    · exact h
  rw [rawP_items] at hp
  obtain ⟨y, hy, h⟩ := List.mem_flatMap.1 hp
  unfold splitP at h
  by_cases hb : y.2.2 = 0
  · rw [if_pos hb] at h
    obtain ⟨q, _, rfl⟩ := List.mem_map.1 h
    exact .inl ⟨rfl, rfl⟩
  · rw [if_neg hb] at h
    rw [List.mem_singleton.1 h]
    have key : ∀ l : List UInt8, ∀ z ∈ items l, z.2.2 ≠ 0 → z.1 = 0 ∧ z.2.1 = 0 := by
      intro l
      induction l using walk_ind with
      | h0 => intro z hz; cases hz
      | h1 l h ih =>
        intro z hz
        rw [items_step l h] at hz
        rcases List.mem_cons.1 hz with rfl | hz
        · unfold headI
          split
          · exact fun _ => ⟨rfl, rfl⟩
          · exact fun c => absurd rfl c
        · exact ih z hz
    exact .inr ⟨hb, key l y hy hb⟩
/-- what was put together, taken apart and put in order, is what was apart -/
theorem tog_apart (l : List UInt8) : ordZ numP ((togF (apartP l)).1.flatMap splitP) = apartP l := by
  obtain ⟨L', h⟩ := inv_fold (apartP l) [] 0 [] none ⟨fun _ _ => rfl, fun k hk => by cases hk⟩ (apartP_fair l) (asc_ordZ numP _) (fun y _ => .inr (Nat.zero_le _))
  have e := h.1 [] []
  rw [List.append_nil, List.append_nil, List.nil_append] at e
  have e2 : ordZ numP (apartP l) = apartP l := ord_twice numP _
  unfold ordZ at e2 ⊢
  exact e.trans e2
end Go.Proofs.YtjkakemlhhieoaaGreatDoor

/- What is put together reads back (pure): the raw bytes between runs of numbers. -/
namespace Go.Proofs.YtjkakemlhhieoaaGreatDoor
open Go.RowKit Go.Lib

def cons0 (r : List Nat) : List Nat := if r.head? = some 0 then r else 0 :: r
/-- raw bytes, each run of numbers as one 0 -/
def skR : List Pc → List Nat
  | [] => []
  | p :: t => if p.2.2 = 0 then cons0 (skR t) else p.2.2 :: skR t
def skS (r : List Nat) (b : Nat) : List Nat := if b = 0 then (if r.getLast? = some 0 then r else r ++ [0]) else r ++ [b]
theorem skS_cons {x : Nat} {r : List Nat} (b : Nat) (h : r ≠ [] ∨ x ≠ 0) : x :: skS r b = skS (x :: r) b := by
  unfold skS
  by_cases hb : b = 0
  · rw [if_pos hb, if_pos hb]
    cases r with
    | nil =>
      have hx : x ≠ 0 := by rcases h with h | h; exact absurd rfl h; exact h
      simp [hx]
    | cons y t =>
      rw [List.getLast?_cons_cons]
      split <;> simp
  · rw [if_neg hb, if_neg hb]
    simp
theorem skR_snoc (p : Pc) : ∀ P : List Pc, skR (P ++ [p]) = skS (skR P) p.2.2
  | [] => by
    show skR [p] = skS [] p.2.2
    unfold skR skS
    by_cases hb : p.2.2 = 0
    · rw [if_pos hb, if_pos hb]; rfl
    · rw [if_neg hb, if_neg hb]; rfl
  | q :: t => by
    have ih := skR_snoc p t
    rw [List.cons_append]
    show (if q.2.2 = 0 then cons0 (skR (t ++ [p])) else q.2.2 :: skR (t ++ [p])) = skS (if q.2.2 = 0 then cons0 (skR t) else q.2.2 :: skR t) p.2.2
    rw [ih]
    by_cases hq : q.2.2 = 0
    · rw [if_pos hq, if_pos hq]
      obtain ⟨r, hr⟩ : ∃ r, skR t = r := ⟨_, rfl⟩
      rw [hr]
      cases r with
      | nil =>
        unfold skS cons0
        by_cases hb : p.2.2 = 0
        · simp [hb]
        · simp [hb]
      | cons y s =>
        have e : (skS (y :: s) p.2.2).head? = some y := by
          unfold skS
          split
          · split <;> rfl
          · rfl
        unfold cons0
        rw [e]
        by_cases hy : y = 0
        · rw [if_pos (by rw [hy]), if_pos (by rw [hy]; rfl)]
        · rw [if_neg (by simpa using hy), if_neg (by simpa using hy)]
          exact skS_cons _ (.inl (by simp))
    · rw [if_neg hq, if_neg hq]
      exact skS_cons _ (.inr hq)
/-- the raw bytes alone are looked at -/
theorem skR_map : ∀ xs ys : List Pc, (xs.map fun p => p.2.2) = ys.map (fun p => p.2.2) → skR xs = skR ys
  | [], [], _ => rfl
  | [], y :: ys, h => by cases h
  | x :: xs, [], h => by cases h
  | x :: xs, y :: ys, h => by
    rw [List.map_cons, List.map_cons] at h
    injection h with h1 h2
    unfold skR
    rw [h1, skR_map xs ys h2]
theorem cons0_ne (r : List Nat) : cons0 r ≠ [] := by
  unfold cons0
  split
  · intro e; rename_i h; rw [e] at h; cases h
  · simp
/-- a list that ends in a number -/
theorem skR_last (X : List Pc) (z : Pc) (h : z.2.2 = 0) : (skR (X ++ [z])).getLast? = some 0 := by
  rw [skR_snoc]
  unfold skS
  rw [if_pos h]
  split
  · assumption
  · simp
/-- a composer's list that has a number for its starter ends in a number -/
theorem skR_step (P made : List Pc) (st : Option Nat) (p : Pc) (L : Nat) (h : Inv P L made st) (hp : Fair p) (hk : skR made = skR P) : skR (addZ made st p).1 = skR (P ++ [p]) := by
  unfold addZ
  by_cases hc : reachZ made st p = true ∧ bothZ made st p ≠ 0
  · rw [if_pos hc]
    obtain ⟨hr, hb⟩ := hc
    cases hst : st with
    | none => rw [hst] at hr; exact absurd hr (by simp [reachZ])
    | some k =>
      obtain ⟨A, s, M, hm, hlen, hs, hraw, hM⟩ := h.2 k hst
      have hMn : ∀ m ∈ M, m.2.2 = 0 := fun m hmm => (hM m hmm).2.2.2.2
      have hat : atZ made (some k) = s := by
        unfold atZ
        rw [hm]
        simp [← hlen]
      rw [hst] at hb
      unfold bothZ at hb ⊢
      rw [hat] at hb ⊢
      have hs0 : s.2.2 = 0 := by
        by_cases c : s.2.2 = 0
        · exact c
        · rw [hraw c, pair_none_l] at hb; exact absurd rfl hb
      have hp0 : p.2.2 = 0 := by
        rcases hp.2 with c | ⟨_, c, _⟩
        · exact c.1
        · rw [c, pair_none_r] at hb; exact absurd rfl hb
      have hset : made.set k (pairZ s.1 p.1, s.2) = A ++ (pairZ s.1 p.1, s.2) :: M := by
        rw [hm, ← hlen]
        simp
      simp only [Option.getD_some]
      rw [hset, skR_snoc, ← hk]
      have e1 : skR (A ++ (pairZ s.1 p.1, s.2) :: M) = skR made := by
        rw [hm]
        exact skR_map _ _ (by simp)
      have e2 : (skR made).getLast? = some 0 := by
        rw [hm]
        rcases List.eq_nil_or_concat M with e | ⟨M', z, e⟩
        · rw [e]; exact skR_last A s hs0
        · rw [List.concat_eq_append] at e
          have hz := hMn z (by rw [e]; simp)
          have := skR_last (A ++ s :: M') z hz
          rw [e]
          rw [List.append_assoc, List.cons_append] at this
          exact this
      rw [e1]
      unfold skS
      rw [if_pos hp0, if_pos e2]
  · rw [if_neg hc]
    simp only
    rw [skR_snoc, skR_snoc, hk]
theorem sk_fold : ∀ (ps P : List Pc) (L : Nat) (made : List Pc) (st : Option Nat), Inv P L made st → skR made = skR P → (∀ p ∈ ps, Fair p) → Asc numP ps → (∀ y, ps.head? = some y → numP y = 0 ∨ L ≤ numP y) →
    skR (ps.foldl stepT (made, st)).1 = skR (P ++ ps)
  | [], P, L, made, st, _, hk, _, _, _ => by rw [List.append_nil]; exact hk
  | p :: t, P, L, made, st, h, hk, hf, ha, hl => by
    have h1 := inv_step P L made st p h (hf p (List.mem_cons_self ..)) (hl p rfl)
    have h2 := skR_step P made st p L h (hf p (List.mem_cons_self ..)) hk
    have ha2 : Asc numP t ∧ ∀ y, t.head? = some y → numP y = 0 ∨ numP p ≤ numP y := by
      cases ha with
      | one x => exact ⟨.nil, fun y hy => by cases hy⟩
      | cons c d => exact ⟨d, fun y hy => by cases hy; exact c⟩
    have h3 := sk_fold t (P ++ [p]) (numP p) (addZ made st p).1 (addZ made st p).2 h1 h2 (fun q hq => hf q (List.mem_cons_of_mem _ hq)) ha2.1 ha2.2
    rw [List.append_assoc] at h3
    exact h3
theorem sk_tog (l : List UInt8) : skR (togF (apartP l)).1 = skR (apartP l) := by
  have h := sk_fold (apartP l) [] 0 [] none ⟨fun _ _ => rfl, fun k hk => by cases hk⟩ rfl (apartP_fair l) (asc_ordZ numP _) (fun y _ => .inr (Nat.zero_le _))
  rw [List.nil_append] at h
  exact h
/-- the bytes that go on a character, at the head of a text of pieces, hang on the raw bytes alone -/
theorem front_sk : ∀ (j : Nat) (Y Z : List Pc), skR Y = skR Z → (∀ i, i < j → gb (textP Y) i / 64 = 2) → j ≤ (textP Z).length ∧ (textP Z).take j = (textP Y).take j
  | 0, _, _, _, _ => ⟨Nat.zero_le _, by simp⟩
  | j + 1, Y, Z, hs, h => by
    have h0 := h 0 (by omega)
    cases Y with
    | nil =>
      exfalso
      have : gb (textP []) 0 = 0 := rfl
      omega
    | cons y t =>
      by_cases hy : y.2.2 = 0
      · exfalso
        rw [textP_cons] at h0
        unfold pieceB at h0
        rw [if_pos hy] at h0
        exact enc_head _ _ h0
      · have e1 : skR (y :: t) = y.2.2 :: skR t := by show (if y.2.2 = 0 then _ else _) = _; rw [if_neg hy]
        rw [e1] at hs
        cases Z with
        | nil => cases hs
        | cons z u =>
          by_cases hz : z.2.2 = 0
          · exfalso
            have e2 : skR (z :: u) = cons0 (skR u) := by show (if z.2.2 = 0 then _ else _) = _; rw [if_pos hz]
            rw [e2] at hs
            unfold cons0 at hs
            split at hs
            · rename_i c
              rw [← hs] at c
              exact hy (Option.some.inj c)
            · injection hs with a b
              exact hy a
          · have e2 : skR (z :: u) = z.2.2 :: skR u := by show (if z.2.2 = 0 then _ else _) = _; rw [if_neg hz]
            rw [e2] at hs
            injection hs with a b
            have ey : pieceB y = [UInt8.ofNat y.2.2] := by unfold pieceB; rw [if_neg hy]
            have ez : pieceB z = [UInt8.ofNat y.2.2] := by unfold pieceB; rw [if_neg hz, ← a]
            rw [textP_cons y t, ey] at h ⊢
            rw [textP_cons z u, ez]
            have ih := front_sk j t u b (fun i hi => h (i + 1) (by omega))
            refine ⟨by simp; omega, ?_⟩
            show (UInt8.ofNat y.2.2 :: textP u).take (j + 1) = (UInt8.ofNat y.2.2 :: textP t).take (j + 1)
            rw [List.take_succ_cons, List.take_succ_cons, ih.2]
/-- a byte that is no character ahead of one list is none ahead of the other -/
theorem raw_sk (a : UInt8) (Y Z : List Pc) (hs : skR Y = skR Z) (hw : (dec (a :: textP Z)).2 = 1) : (dec (a :: textP Y)).2 = 1 := by
  obtain ⟨x, hx⟩ : ∃ x, textP Y = x := ⟨_, rfl⟩
  obtain ⟨rest, hrest⟩ : ∃ r, textP Z = r := ⟨_, rfl⟩
  rw [hrest] at hw
  rw [hx]
  have h1 := dec_pos (a :: x)
  by_cases h2 : (dec (a :: x)).2 = 1
  · exact h2
  · exfalso
    obtain ⟨j, hj⟩ : ∃ j, (dec (a :: x)).2 = j + 1 := ⟨(dec (a :: x)).2 - 1, by omega⟩
    have hf := front_sk j Y Z hs (fun i hi => by
      rw [hx]
      exact dec_in (a :: x) (by simp) (i + 1) (by omega) (by omega))
    rw [hx, hrest] at hf
    have hle := dec_le (a :: x) (by simp)
    have t1 := dec_take (a :: x) (j + 1) (by omega) (by omega) (by omega)
    have t2 := dec_take (a :: rest) (j + 1) (by omega) (by rw [List.length_cons]; omega) (by omega)
    rw [List.take_succ_cons, hf.2, ← List.take_succ_cons, t1] at t2
    rw [← t2] at hw
    exact h2 hw
theorem skR_raw {p : Pc} (t : List Pc) (h : p.2.2 ≠ 0) : skR (p :: t) = p.2.2 :: skR t := by
  show (if p.2.2 = 0 then _ else _) = _
  rw [if_neg h]
theorem skR_num {p : Pc} (t : List Pc) (h : p.2.2 = 0) : skR (p :: t) = cons0 (skR t) := by
  show (if p.2.2 = 0 then _ else _) = _
  rw [if_pos h]
theorem past_nums : ∀ (Z : List Pc) (r : List Nat), skR Z = 0 :: r → r.head? ≠ some 0 → TelP Z → ∃ u, TelP u ∧ skR u = r
  | [], r, h, _, _ => by cases h
  | z :: u, r, h, hr, ht => by
    by_cases hz : z.2.2 = 0
    · rw [skR_num u hz] at h
      unfold cons0 at h
      split at h
      · exact past_nums u r h hr ht.tail
      · injection h with _ h2
        exact ⟨u, ht.tail, h2⟩
    · rw [skR_raw u hz] at h
      injection h with h1 _
      exact absurd h1 hz
theorem TelP_sk : ∀ (Y Z : List Pc), skR Y = skR Z → TelP Z → (∀ y ∈ Y, NumPc y ∨ y.2.2 ≠ 0 ∧ y.1 = 0 ∧ y.2.1 = 0) → TelP Y
  | [], _, _, _, _ => .nil
  | y :: t, Z, hs, hZ, hY => by
    have ht := fun q hq => hY q (List.mem_cons_of_mem _ hq)
    rcases hY y (List.mem_cons_self ..) with hy | ⟨hy, h1, h2⟩
    · rw [skR_num t hy.1] at hs
      unfold cons0 at hs
      split at hs
      · exact .cons (.inl hy) (TelP_sk t Z hs hZ ht)
      · rename_i c
        obtain ⟨u, hu, e⟩ := past_nums Z (skR t) hs.symm c hZ
        exact .cons (.inl hy) (TelP_sk t u e.symm hu ht)
    · rw [skR_raw t hy] at hs
      cases Z with
      | nil => cases hs
      | cons z u =>
        by_cases hz : z.2.2 = 0
        · exfalso
          rw [skR_num u hz] at hs
          unfold cons0 at hs
          split at hs
          · rename_i c
            rw [← hs] at c
            exact hy (Option.some.inj c)
          · injection hs with a b
            exact hy a
        · rw [skR_raw u hz] at hs
          injection hs with a b
          have hh := hZ.head
          rcases hh with c | ⟨_, _, c1, c2, c3⟩
          · exact absurd c.1 hz
          · rw [← a] at c1 c2 c3
            exact .cons (.inr ⟨h1, h2, c1, c2, raw_sk _ t u b c3⟩) (TelP_sk t u b hZ.tail ht)
end Go.Proofs.YtjkakemlhhieoaaGreatDoor

/- The two forms of a text, each of each (pure). -/
namespace Go.Proofs.YtjkakemlhhieoaaGreatDoor
open Go.RowKit Go.Lib

theorem mark_tab : (marksL.all fun e => decide (e.1 ≤ 44032) || decide (55203 < e.1)) = true := by decide +kernel
theorem mark_syll (q : Int) (h : 44032 ≤ q ∧ q ≤ 55203) : markZ q = 0 := by
  have hc : char q = q.toNat := by unfold char; rw [if_neg (by omega)]
  unfold markZ
  rw [hc]
  have h0 : clsFrom marksL 0 44032 = 0 := by decide +kernel
  unfold cls
  rw [clsFrom_same marksL 0 44032 q.toNat (fun e he => by
    rcases Bool.or_eq_true_iff.1 (List.all_eq_true.1 mark_tab e he) with c | c
    · have c := of_decide_eq_true c; omega
    · have c := of_decide_eq_true c; omega)]
  exact h0
theorem pair_good_l : (pairsL.all fun x => decide (0 ≤ x.2 ∧ x.2 ≤ 55203) && (markZ x.2 == 0)) = true := by decide +kernel
theorem pair_good (a b : Int) (h : pairZ a b ≠ 0) : Scal (pairZ a b) ∧ markZ (pairZ a b) = 0 := by
  unfold pairZ at h ⊢
  by_cases hm : markZ b = 0
  · rw [if_pos hm] at h ⊢
    unfold syllZ at h ⊢
    split
    · exact ⟨scal_low (by omega) (by omega), mark_syll _ (by omega)⟩
    · rename_i h1
      rw [if_neg h1] at h
      split
      · rename_i h2
        have h3 := Bool.and_eq_true_iff.1 h2.1
        have h4 := of_decide_eq_true h3.1
        have h5 : (a - 44032).tmod 28 = 0 := eq_of_beq h3.2
        have h6 : (a - 44032) % 28 = 0 := by rw [← Int.tmod_eq_emod_of_nonneg (by omega)]; exact h5
        exact ⟨scal_low (by omega) (by omega), mark_syll _ (by omega)⟩
      · rename_i h2
        rw [if_neg h2] at h
        exact absurd rfl h
  · rw [if_neg hm] at h ⊢
    obtain ⟨x, hx, h1, h2⟩ := look_has pairsL a b h
    have h3 := Bool.and_eq_true_iff.1 (List.all_eq_true.1 pair_good_l x hx)
    have h4 := of_decide_eq_true h3.1
    rw [← h2]
    exact ⟨scal_low h4.1 h4.2, eq_of_beq h3.2⟩
def Good (y : Pc) : Prop := NumPc y ∨ y.2.2 ≠ 0 ∧ y.1 = 0 ∧ y.2.1 = 0
theorem good_step (P made : List Pc) (st : Option Nat) (p : Pc) (L : Nat) (h : Inv P L made st) (hp : Good p) (hm : ∀ y ∈ made, Good y) : ∀ y ∈ (addZ made st p).1, Good y := by
  unfold addZ
  by_cases hc : reachZ made st p = true ∧ bothZ made st p ≠ 0
  · rw [if_pos hc]
    obtain ⟨hr, hb⟩ := hc
    cases hst : st with
    | none => rw [hst] at hr; exact absurd hr (by simp [reachZ])
    | some k =>
      obtain ⟨A, s, M, hmm, hlen, hs, hraw, hM⟩ := h.2 k hst
      have hat : atZ made (some k) = s := by
        unfold atZ
        rw [hmm]
        simp [← hlen]
      rw [hst] at hb
      unfold bothZ at hb ⊢
      rw [hat] at hb ⊢
      have hs0 : s.2.2 = 0 := by
        by_cases c : s.2.2 = 0
        · exact c
        · rw [hraw c, pair_none_l] at hb; exact absurd rfl hb
      have hg := pair_good _ _ hb
      intro y hy
      rcases List.mem_or_eq_of_mem_set hy with hy | rfl
      · exact hm y hy
      · exact .inl ⟨hs0, hg.1, by show s.2.1 = _; rw [hg.2]; exact hs⟩
  · rw [if_neg hc]
    intro y hy
    rcases List.mem_append.1 hy with hy | hy
    · exact hm y hy
    · rw [List.mem_singleton.1 hy]; exact hp
theorem good_fold : ∀ (ps P : List Pc) (L : Nat) (made : List Pc) (st : Option Nat), Inv P L made st → (∀ y ∈ made, Good y) → (∀ p ∈ ps, Fair p ∧ Good p) → Asc numP ps → (∀ y, ps.head? = some y → numP y = 0 ∨ L ≤ numP y) →
    ∀ y ∈ (ps.foldl stepT (made, st)).1, Good y
  | [], P, L, made, st, _, hm, _, _, _ => hm
  | p :: t, P, L, made, st, h, hm, hf, ha, hl => by
    have h1 := inv_step P L made st p h (hf p (List.mem_cons_self ..)).1 (hl p rfl)
    have h2 := good_step P made st p L h (hf p (List.mem_cons_self ..)).2 hm
    have ha2 : Asc numP t ∧ ∀ y, t.head? = some y → numP y = 0 ∨ numP p ≤ numP y := by
      cases ha with
      | one x => exact ⟨.nil, fun y hy => by cases hy⟩
      | cons c d => exact ⟨d, fun y hy => by cases hy; exact c⟩
    exact good_fold t (P ++ [p]) (numP p) (addZ made st p).1 (addZ made st p).2 h1 h2 (fun q hq => hf q (List.mem_cons_of_mem _ hq)) ha2.1 ha2.2
theorem TelP_good : ∀ (ps : List Pc), TelP ps → ∀ p ∈ ps, Good p
  | [], _, p, hp => by cases hp
  | q :: t, h, p, hp => by
    rcases List.mem_cons.1 hp with rfl | hp
    · rcases h.head with c | ⟨c1, c2, c3, _⟩
      · exact .inl c
      · exact .inr ⟨by omega, c1, c2⟩
    · exact TelP_good t h.tail p hp
theorem good_tog (l : List UInt8) : ∀ y ∈ (togF (apartP l)).1, Good y :=
  good_fold (apartP l) [] 0 [] none ⟨fun _ _ => rfl, fun k hk => by cases hk⟩ (fun _ h => by cases h) (fun p hp => ⟨apartP_fair l p hp, TelP_good _ (TelP_apart l) p hp⟩) (asc_ordZ numP _) (fun y _ => .inr (Nat.zero_le _))
theorem items_tog (l : List UInt8) : items (togS l) = (togF (apartP l)).1 := items_textP _ (TelP_sk _ _ (sk_tog l) (TelP_apart l) (good_tog l))
theorem apartP_tog (l : List UInt8) : apartP (togS l) = apartP l := by
  have h := tog_apart l
  rw [← items_tog l, ← rawP_items] at h
  exact h
theorem apartS_tog (l : List UInt8) : apartS (togS l) = apartS l := by
  have h := apartP_tog l
  unfold apartS
  rw [h]
theorem togS_tog (l : List UInt8) : togS (togS l) = togS l := by
  have h := apartP_tog l
  have e : ∀ x, togS x = textP (togF (apartP x)).1 := fun _ => rfl
  rw [e (togS l), h]
  rfl
theorem togS_apart (l : List UInt8) : togS (apartS l) = togS l := by
  have h := apartP_twice l
  have e : ∀ x, togS x = textP (togF (apartP x)).1 := fun _ => rfl
  rw [e (apartS l), h]
  rfl
/-- the same together is the same apart -/
theorem tog_iff (a b : List UInt8) : togS a = togS b ↔ apartS a = apartS b := by
  constructor
  · intro h
    rw [← apartS_tog a, h, apartS_tog]
  · intro h
    rw [← togS_apart a, h, togS_apart]
end Go.Proofs.YtjkakemlhhieoaaGreatDoor
