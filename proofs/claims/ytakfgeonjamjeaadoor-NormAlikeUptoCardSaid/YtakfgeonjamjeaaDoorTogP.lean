/- What is put together is taken apart again (pure). -/
import Derived.Test.YtakfgeonjamjeaaDoorTog
import Derived.Test.YtakfgeonjamjeaaDoorPurePO
import Derived.Test.YtakfgeonjamjeaaDoorTelP
import Derived.Test.YtakfgeonjamjeaaDoorSwapP
namespace Go.Proofs.YtakfgeonjamjeaaDoor
open Go.RowKit Go.Lib

theorem pair_zero_l : (pairsL.all fun x => decide (x.1.1 ≠ 0)) = true := by decide +kernel
theorem pair_none_l (x : Int) : pairZ 0 x = 0 := by
  unfold pairZ
  split
  · unfold syllZ
    rw [if_neg (by omega), if_neg (fun h => absurd h.1 (by decide))]
  · by_cases h : lookP pairsL 0 x = 0
    · exact h
    · obtain ⟨y, hy, h1, _⟩ := look_has pairsL 0 x h
      have h2 := of_decide_eq_true (List.all_eq_true.1 pair_zero_l y hy)
      rw [h1] at h2
      exact absurd rfl h2
theorem markZ_zero : markZ 0 = 0 := by decide +kernel
theorem pair_none_r (x : Int) : pairZ x 0 = 0 := by
  unfold pairZ
  rw [if_pos markZ_zero]
  unfold syllZ
  rw [if_neg (by omega), if_neg (by omega)]
/-- a piece of what is apart -/
def Fair (p : Pc) : Prop := splitP p = [p] ∧ (p.2.2 = 0 ∧ p.2.1 = markZ p.1 ∨ p.2.2 ≠ 0 ∧ p.1 = 0 ∧ p.2.1 = 0)
/-- what stands in the composer behind P, whose last number was L -/
def Inv (P : List Pc) (L : Nat) (made : List Pc) (st : Option Nat) : Prop :=
  (∀ rest row, ordR numP row (made.flatMap splitP ++ rest) = ordR numP row (P ++ rest)) ∧
  (∀ k, st = some k → ∃ A s M, made = A ++ s :: M ∧ A.length = k ∧ numP s = 0 ∧ (s.2.2 ≠ 0 → s.1 = 0) ∧ ∀ m ∈ M, numP m ≠ 0 ∧ splitP m = [m] ∧ numP m ≤ L ∧ numP m ≤ numP (lastZ made) ∧ m.2.2 = 0)
theorem flat_split_M : ∀ (M : List Pc), (∀ m ∈ M, splitP m = [m]) → M.flatMap splitP = M
  | [], _ => rfl
  | p :: t, h => by
    rw [List.flatMap_cons, h p (List.mem_cons_self ..), flat_split_M t (fun q hq => h q (List.mem_cons_of_mem _ hq))]
    rfl
theorem last_snoc (made : List Pc) (p : Pc) : lastZ (made ++ [p]) = p := by
  unfold lastZ
  simp
theorem inv_step (P : List Pc) (L : Nat) (made : List Pc) (st : Option Nat) (p : Pc) (h : Inv P L made st) (hp : Fair p) (hL : numP p = 0 ∨ L ≤ numP p) : Inv (P ++ [p]) (numP p) (addZ made st p).1 (addZ made st p).2 := by
  obtain ⟨h1, h2⟩ := h
  unfold addZ
  by_cases hc : reachZ made st p = true ∧ bothZ made st p ≠ 0
  · rw [if_pos hc]
    obtain ⟨hr, hb⟩ := hc
    cases hst : st with
    | none => rw [hst] at hr; exact absurd hr (by simp [reachZ])
    | some k =>
      obtain ⟨A, s, M, hm, hk, hs, hraw, hM⟩ := h2 k hst
      have hat : atZ made (some k) = s := by
        unfold atZ
        rw [hm]
        simp [← hk]
      rw [hst] at hb hr
      unfold bothZ at hb ⊢
      rw [hat] at hb ⊢
      have hs0 : s.2.2 = 0 := by
        by_cases c : s.2.2 = 0
        · exact c
        · rw [hraw c, pair_none_l] at hb; exact absurd rfl hb
      have hp0 : p.2.2 = 0 ∧ p.2.1 = markZ p.1 := by
        rcases hp.2 with c | ⟨_, c, _⟩
        · exact c
        · rw [c, pair_none_r] at hb; exact absurd rfl hb
      have hset : made.set k (pairZ s.1 p.1, s.2) = A ++ (pairZ s.1 p.1, s.2) :: M := by
        rw [hm, ← hk]
        simp
      have hsp : splitP (pairZ s.1 p.1, s.2) = splitP s ++ [p] := by
        unfold splitP
        rw [if_pos hs0, if_pos hs0]
        simp only
        rw [pair_split s.1 p.1 hb, List.map_append]
        congr 1
        show [(p.1, markZ p.1, 0)] = [p]
        rw [← hp0.2, ← hp0.1]
      have hMs := flat_split_M M (fun m hm => (hM m hm).2.1)
      simp only [Option.getD_some]
      rw [hset]
      have hlt : ∀ m ∈ M, numP m ≠ 0 ∧ numP m ≠ numP p := by
        intro m hmm
        have hm4 := (hM m hmm)
        refine ⟨hm4.1, ?_⟩
        unfold reachZ at hr
        simp only at hr
        rcases Bool.or_eq_true_iff.1 hr with c | c
        · have c := eq_of_beq c
          rw [hm, List.length_append, List.length_cons] at c
          have : M.length = 0 := by omega
          rw [List.eq_nil_of_length_eq_zero this] at hmm
          cases hmm
        · have c := of_decide_eq_true c
          have : numP (lastZ made) < numP p := c
          omega
      refine ⟨fun rest row => ?_, fun k' hk' => ?_⟩
      · have e := h1 (p :: rest) row
        rw [hm] at e
        simp only [List.flatMap_append, List.flatMap_cons, hMs, List.append_assoc] at e
        simp only [List.flatMap_append, List.flatMap_cons, hMs, hsp, List.append_assoc, List.cons_append, List.nil_append]
        rw [← e]
        refine ord_ahead numP (fun row => ord_ahead numP (fun row => ?_) _ row) _ row
        by_cases hMn : M = []
        · rw [hMn]; rfl
        · have hpn : numP p ≠ 0 := by
            obtain ⟨m, t, em⟩ := List.exists_cons_of_ne_nil hMn
            have := hlt m (by rw [em]; exact List.mem_cons_self ..)
            have h3 := hM m (by rw [em]; exact List.mem_cons_self ..)
            unfold reachZ at hr
            simp only at hr
            rcases Bool.or_eq_true_iff.1 hr with c | c
            · have c := eq_of_beq c
              rw [hm, List.length_append, List.length_cons, em, List.length_cons] at c
              omega
            · have c := of_decide_eq_true c
              have : numP (lastZ made) < numP p := c
              omega
          exact (ord_swap numP row M rest p hpn hlt).symm
      · have hk2 : k' = k := (Option.some.inj hk').symm
        subst hk2
        refine ⟨A, (pairZ s.1 p.1, s.2), M, rfl, hk, hs, fun c => absurd hs0 c, fun m hmm => ?_⟩
        have h3 := hM m hmm
        refine ⟨h3.1, h3.2.1, ?_, ?_, h3.2.2.2.2⟩
        · by_cases hpn : numP p = 0
          · exfalso
            unfold reachZ at hr
            simp only at hr
            rcases Bool.or_eq_true_iff.1 hr with c | c
            · have c := eq_of_beq c
              rw [hm, List.length_append, List.length_cons] at c
              have : M.length = 0 := by omega
              rw [List.eq_nil_of_length_eq_zero this] at hmm
              cases hmm
            · have c := of_decide_eq_true c
              have : numP (lastZ made) < numP p := c
              omega
          · have := h3.2.2.1
            omega
        · have e : lastZ (A ++ (pairZ s.1 p.1, s.2) :: M) = lastZ made := by
            have hne : M ≠ [] := by intro c; rw [c] at hmm; cases hmm
            obtain ⟨M', z, hM'⟩ : ∃ M' z, M = M' ++ [z] := ⟨M.dropLast, M.getLast hne, (List.dropLast_concat_getLast hne).symm⟩
            rw [hm, hM', ← List.cons_append, ← List.append_assoc, last_snoc, ← List.cons_append, ← List.append_assoc, last_snoc]
          rw [e]
          exact h3.2.2.2.1
  · rw [if_neg hc]
    refine ⟨fun rest row => ?_, fun k hk => ?_⟩
    · rw [List.flatMap_append, List.append_assoc]
      have e : [p].flatMap splitP = [p] := by
        rw [List.flatMap_cons, hp.1]
        rfl
      rw [e, List.append_assoc]
      exact h1 ([p] ++ rest) row
    · by_cases hp0 : p.2.1 = 0
      · simp only at hk
        rw [if_pos hp0] at hk
        have := Option.some.inj hk
        exact ⟨made, p, [], rfl, this, hp0, fun c => by
          rcases hp.2 with d | d
          · exact absurd d.1 c
          · exact d.2.1, fun m hm => by cases hm⟩
      · simp only at hk
        rw [if_neg hp0] at hk
        obtain ⟨A, s, M, hm, hk2, hs, hraw, hM⟩ := h2 k hk
        refine ⟨A, s, M ++ [p], by rw [hm]; simp, hk2, hs, hraw, fun m hmm => ?_⟩
        have hpn : numP p ≠ 0 := hp0
        have hLp : L ≤ numP p := by
          rcases hL with c | c
          · exact absurd c hpn
          · exact c
        rw [last_snoc]
        rcases List.mem_append.1 hmm with hmm | hmm
        · have h3 := hM m hmm
          exact ⟨h3.1, h3.2.1, by omega, by omega, h3.2.2.2.2⟩
        · rw [List.mem_singleton.1 hmm]
          exact ⟨hpn, hp.1, Nat.le_refl _, Nat.le_refl _, by
            rcases hp.2 with c | c
            · exact c.1
            · exact absurd c.2.2 hpn⟩
theorem inv_fold : ∀ (ps P : List Pc) (L : Nat) (made : List Pc) (st : Option Nat), Inv P L made st → (∀ p ∈ ps, Fair p) → Asc numP ps → (∀ y, ps.head? = some y → numP y = 0 ∨ L ≤ numP y) →
    ∃ L', Inv (P ++ ps) L' (ps.foldl stepT (made, st)).1 (ps.foldl stepT (made, st)).2
  | [], P, L, made, st, h, _, _, _ => ⟨L, by rw [List.append_nil]; exact h⟩
  | p :: t, P, L, made, st, h, hf, ha, hl => by
    have h1 := inv_step P L made st p h (hf p (List.mem_cons_self ..)) (hl p rfl)
    have ha2 : Asc numP t ∧ ∀ y, t.head? = some y → numP y = 0 ∨ numP p ≤ numP y := by
      cases ha with
      | one x => exact ⟨.nil, fun y hy => by cases hy⟩
      | cons c d => exact ⟨d, fun y hy => by cases hy; exact c⟩
    obtain ⟨L', h2⟩ := inv_fold t (P ++ [p]) (numP p) (addZ made st p).1 (addZ made st p).2 h1 (fun q hq => hf q (List.mem_cons_of_mem _ hq)) ha2.1 ha2.2
    refine ⟨L', ?_⟩
    rw [List.append_assoc] at h2
    exact h2
theorem apartP_fair (l : List UInt8) : ∀ p ∈ apartP l, Fair p := by
  intro p hp
  refine ⟨apartP_still l p hp, ?_⟩
  have hp : p ∈ rawP l := by
    rcases ordR_mem numP _ _ p hp with h | h
    · cases h
    · exact h
  rw [rawP_items] at hp
  obtain ⟨y, hy, h⟩ := List.mem_flatMap.1 hp
  unfold splitP at h
  by_cases hb : y.2.2 = 0
  · rw [if_pos hb] at h
    obtain ⟨q, _, rfl⟩ := List.mem_map.1 h
    exact .inl ⟨rfl, rfl⟩
  · rw [if_neg hb] at h
    rw [List.mem_singleton.1 h]
    have key : ∀ l : List UInt8, ∀ z ∈ items l, z.2.2 ≠ 0 → z.1 = 0 ∧ z.2.1 = 0 := by
      intro l
      induction l using walk_ind with
      | h0 => intro z hz; cases hz
      | h1 l h ih =>
        intro z hz
        rw [items_step l h] at hz
        rcases List.mem_cons.1 hz with rfl | hz
        · unfold headI
          split
          · exact fun _ => ⟨rfl, rfl⟩
          · exact fun c => absurd rfl c
        · exact ih z hz
    exact .inr ⟨hb, key l y hy hb⟩
/-- what was put together, taken apart and put in order, is what was apart -/
theorem tog_apart (l : List UInt8) : ordZ numP ((togF (apartP l)).1.flatMap splitP) = apartP l := by
  obtain ⟨L', h⟩ := inv_fold (apartP l) [] 0 [] none ⟨fun _ _ => rfl, fun k hk => by cases hk⟩ (apartP_fair l) (asc_ordZ numP _) (fun y _ => .inr (Nat.zero_le _))
  have e := h.1 [] []
  rw [List.append_nil, List.append_nil, List.nil_append] at e
  have e2 : ordZ numP (apartP l) = apartP l := ord_twice numP _
  unfold ordZ at e2 ⊢
  exact e.trans e2
end Go.Proofs.YtakfgeonjamjeaaDoor
