/- What is put together reads back (pure): the raw bytes between runs of numbers. -/
import Derived.Test.YtakfgeonjamjeaaDoorTogP
namespace Go.Proofs.YtakfgeonjamjeaaDoor
open Go.RowKit Go.Lib

def cons0 (r : List Nat) : List Nat := if r.head? = some 0 then r else 0 :: r
/-- raw bytes, each run of numbers as one 0 -/
def skR : List Pc → List Nat
  | [] => []
  | p :: t => if p.2.2 = 0 then cons0 (skR t) else p.2.2 :: skR t
def skS (r : List Nat) (b : Nat) : List Nat := if b = 0 then (if r.getLast? = some 0 then r else r ++ [0]) else r ++ [b]
theorem skS_cons {x : Nat} {r : List Nat} (b : Nat) (h : r ≠ [] ∨ x ≠ 0) : x :: skS r b = skS (x :: r) b := by
  unfold skS
  by_cases hb : b = 0
  · rw [if_pos hb, if_pos hb]
    cases r with
    | nil =>
      have hx : x ≠ 0 := by rcases h with h | h; exact absurd rfl h; exact h
      simp [hx]
    | cons y t =>
      rw [List.getLast?_cons_cons]
      split <;> simp
  · rw [if_neg hb, if_neg hb]
    simp
theorem skR_snoc (p : Pc) : ∀ P : List Pc, skR (P ++ [p]) = skS (skR P) p.2.2
  | [] => by
    show skR [p] = skS [] p.2.2
    unfold skR skS
    by_cases hb : p.2.2 = 0
    · rw [if_pos hb, if_pos hb]; rfl
    · rw [if_neg hb, if_neg hb]; rfl
  | q :: t => by
    have ih := skR_snoc p t
    rw [List.cons_append]
    show (if q.2.2 = 0 then cons0 (skR (t ++ [p])) else q.2.2 :: skR (t ++ [p])) = skS (if q.2.2 = 0 then cons0 (skR t) else q.2.2 :: skR t) p.2.2
    rw [ih]
    by_cases hq : q.2.2 = 0
    · rw [if_pos hq, if_pos hq]
      obtain ⟨r, hr⟩ : ∃ r, skR t = r := ⟨_, rfl⟩
      rw [hr]
      cases r with
      | nil =>
        unfold skS cons0
        by_cases hb : p.2.2 = 0
        · simp [hb]
        · simp [hb]
      | cons y s =>
        have e : (skS (y :: s) p.2.2).head? = some y := by
          unfold skS
          split
          · split <;> rfl
          · rfl
        unfold cons0
        rw [e]
        by_cases hy : y = 0
        · rw [if_pos (by rw [hy]), if_pos (by rw [hy]; rfl)]
        · rw [if_neg (by simpa using hy), if_neg (by simpa using hy)]
          exact skS_cons _ (.inl (by simp))
    · rw [if_neg hq, if_neg hq]
      exact skS_cons _ (.inr hq)
/-- the raw bytes alone are looked at -/
theorem skR_map : ∀ xs ys : List Pc, (xs.map fun p => p.2.2) = ys.map (fun p => p.2.2) → skR xs = skR ys
  | [], [], _ => rfl
  | [], y :: ys, h => by cases h
  | x :: xs, [], h => by cases h
  | x :: xs, y :: ys, h => by
    rw [List.map_cons, List.map_cons] at h
    injection h with h1 h2
    unfold skR
    rw [h1, skR_map xs ys h2]
theorem cons0_ne (r : List Nat) : cons0 r ≠ [] := by
  unfold cons0
  split
  · intro e; rename_i h; rw [e] at h; cases h
  · simp
/-- a list that ends in a number -/
theorem skR_last (X : List Pc) (z : Pc) (h : z.2.2 = 0) : (skR (X ++ [z])).getLast? = some 0 := by
  rw [skR_snoc]
  unfold skS
  rw [if_pos h]
  split
  · assumption
  · simp
/-- a composer's list that has a number for its starter ends in a number -/
theorem skR_step (P made : List Pc) (st : Option Nat) (p : Pc) (L : Nat) (h : Inv P L made st) (hp : Fair p) (hk : skR made = skR P) : skR (addZ made st p).1 = skR (P ++ [p]) := by
  unfold addZ
  by_cases hc : reachZ made st p = true ∧ bothZ made st p ≠ 0
  · rw [if_pos hc]
    obtain ⟨hr, hb⟩ := hc
    cases hst : st with
    | none => rw [hst] at hr; exact absurd hr (by simp [reachZ])
    | some k =>
      obtain ⟨A, s, M, hm, hlen, hs, hraw, hM⟩ := h.2 k hst
      have hMn : ∀ m ∈ M, m.2.2 = 0 := fun m hmm => (hM m hmm).2.2.2.2
      have hat : atZ made (some k) = s := by
        unfold atZ
        rw [hm]
        simp [← hlen]
      rw [hst] at hb
      unfold bothZ at hb ⊢
      rw [hat] at hb ⊢
      have hs0 : s.2.2 = 0 := by
        by_cases c : s.2.2 = 0
        · exact c
        · rw [hraw c, pair_none_l] at hb; exact absurd rfl hb
      have hp0 : p.2.2 = 0 := by
        rcases hp.2 with c | ⟨_, c, _⟩
        · exact c.1
        · rw [c, pair_none_r] at hb; exact absurd rfl hb
      have hset : made.set k (pairZ s.1 p.1, s.2) = A ++ (pairZ s.1 p.1, s.2) :: M := by
        rw [hm, ← hlen]
        simp
      simp only [Option.getD_some]
      rw [hset, skR_snoc, ← hk]
      have e1 : skR (A ++ (pairZ s.1 p.1, s.2) :: M) = skR made := by
        rw [hm]
        exact skR_map _ _ (by simp)
      have e2 : (skR made).getLast? = some 0 := by
        rw [hm]
        rcases List.eq_nil_or_concat M with e | ⟨M', z, e⟩
        · rw [e]; exact skR_last A s hs0
        · rw [List.concat_eq_append] at e
          have hz := hMn z (by rw [e]; simp)
          have := skR_last (A ++ s :: M') z hz
          rw [e]
          rw [List.append_assoc, List.cons_append] at this
          exact this
      rw [e1]
      unfold skS
      rw [if_pos hp0, if_pos e2]
  · rw [if_neg hc]
    simp only
    rw [skR_snoc, skR_snoc, hk]
theorem sk_fold : ∀ (ps P : List Pc) (L : Nat) (made : List Pc) (st : Option Nat), Inv P L made st → skR made = skR P → (∀ p ∈ ps, Fair p) → Asc numP ps → (∀ y, ps.head? = some y → numP y = 0 ∨ L ≤ numP y) →
    skR (ps.foldl stepT (made, st)).1 = skR (P ++ ps)
  | [], P, L, made, st, _, hk, _, _, _ => by rw [List.append_nil]; exact hk
  | p :: t, P, L, made, st, h, hk, hf, ha, hl => by
    have h1 := inv_step P L made st p h (hf p (List.mem_cons_self ..)) (hl p rfl)
    have h2 := skR_step P made st p L h (hf p (List.mem_cons_self ..)) hk
    have ha2 : Asc numP t ∧ ∀ y, t.head? = some y → numP y = 0 ∨ numP p ≤ numP y := by
      cases ha with
      | one x => exact ⟨.nil, fun y hy => by cases hy⟩
      | cons c d => exact ⟨d, fun y hy => by cases hy; exact c⟩
    have h3 := sk_fold t (P ++ [p]) (numP p) (addZ made st p).1 (addZ made st p).2 h1 h2 (fun q hq => hf q (List.mem_cons_of_mem _ hq)) ha2.1 ha2.2
    rw [List.append_assoc] at h3
    exact h3
theorem sk_tog (l : List UInt8) : skR (togF (apartP l)).1 = skR (apartP l) := by
  have h := sk_fold (apartP l) [] 0 [] none ⟨fun _ _ => rfl, fun k hk => by cases hk⟩ rfl (apartP_fair l) (asc_ordZ numP _) (fun y _ => .inr (Nat.zero_le _))
  rw [List.nil_append] at h
  exact h
/-- the bytes that go on a character, at the head of a text of pieces, hang on the raw bytes alone -/
theorem front_sk : ∀ (j : Nat) (Y Z : List Pc), skR Y = skR Z → (∀ i, i < j → gb (textP Y) i / 64 = 2) → j ≤ (textP Z).length ∧ (textP Z).take j = (textP Y).take j
  | 0, _, _, _, _ => ⟨Nat.zero_le _, by simp⟩
  | j + 1, Y, Z, hs, h => by
    have h0 := h 0 (by omega)
    cases Y with
    | nil =>
      exfalso
      have : gb (textP []) 0 = 0 := rfl
      omega
    | cons y t =>
      by_cases hy : y.2.2 = 0
      · exfalso
        rw [textP_cons] at h0
        unfold pieceB at h0
        rw [if_pos hy] at h0
        exact enc_head _ _ h0
      · have e1 : skR (y :: t) = y.2.2 :: skR t := by show (if y.2.2 = 0 then _ else _) = _; rw [if_neg hy]
        rw [e1] at hs
        cases Z with
        | nil => cases hs
        | cons z u =>
          by_cases hz : z.2.2 = 0
          · exfalso
            have e2 : skR (z :: u) = cons0 (skR u) := by show (if z.2.2 = 0 then _ else _) = _; rw [if_pos hz]
            rw [e2] at hs
            unfold cons0 at hs
            split at hs
            · rename_i c
              rw [← hs] at c
              exact hy (Option.some.inj c)
            · injection hs with a b
              exact hy a
          · have e2 : skR (z :: u) = z.2.2 :: skR u := by show (if z.2.2 = 0 then _ else _) = _; rw [if_neg hz]
            rw [e2] at hs
            injection hs with a b
            have ey : pieceB y = [UInt8.ofNat y.2.2] := by unfold pieceB; rw [if_neg hy]
            have ez : pieceB z = [UInt8.ofNat y.2.2] := by unfold pieceB; rw [if_neg hz, ← a]
            rw [textP_cons y t, ey] at h ⊢
            rw [textP_cons z u, ez]
            have ih := front_sk j t u b (fun i hi => h (i + 1) (by omega))
            refine ⟨by simp; omega, ?_⟩
            show (UInt8.ofNat y.2.2 :: textP u).take (j + 1) = (UInt8.ofNat y.2.2 :: textP t).take (j + 1)
            rw [List.take_succ_cons, List.take_succ_cons, ih.2]
/-- a byte that is no character ahead of one list is none ahead of the other -/
theorem raw_sk (a : UInt8) (Y Z : List Pc) (hs : skR Y = skR Z) (hw : (dec (a :: textP Z)).2 = 1) : (dec (a :: textP Y)).2 = 1 := by
  obtain ⟨x, hx⟩ : ∃ x, textP Y = x := ⟨_, rfl⟩
  obtain ⟨rest, hrest⟩ : ∃ r, textP Z = r := ⟨_, rfl⟩
  rw [hrest] at hw
  rw [hx]
  have h1 := dec_pos (a :: x)
  by_cases h2 : (dec (a :: x)).2 = 1
  · exact h2
  · exfalso
    obtain ⟨j, hj⟩ : ∃ j, (dec (a :: x)).2 = j + 1 := ⟨(dec (a :: x)).2 - 1, by omega⟩
    have hf := front_sk j Y Z hs (fun i hi => by
      rw [hx]
      exact dec_in (a :: x) (by simp) (i + 1) (by omega) (by omega))
    rw [hx, hrest] at hf
    have hle := dec_le (a :: x) (by simp)
    have t1 := dec_take (a :: x) (j + 1) (by omega) (by omega) (by omega)
    have t2 := dec_take (a :: rest) (j + 1) (by omega) (by rw [List.length_cons]; omega) (by omega)
    rw [List.take_succ_cons, hf.2, ← List.take_succ_cons, t1] at t2
    rw [← t2] at hw
    exact h2 hw
theorem skR_raw {p : Pc} (t : List Pc) (h : p.2.2 ≠ 0) : skR (p :: t) = p.2.2 :: skR t := by
  show (if p.2.2 = 0 then _ else _) = _
  rw [if_neg h]
theorem skR_num {p : Pc} (t : List Pc) (h : p.2.2 = 0) : skR (p :: t) = cons0 (skR t) := by
  show (if p.2.2 = 0 then _ else _) = _
  rw [if_pos h]
theorem past_nums : ∀ (Z : List Pc) (r : List Nat), skR Z = 0 :: r → r.head? ≠ some 0 → TelP Z → ∃ u, TelP u ∧ skR u = r
  | [], r, h, _, _ => by cases h
  | z :: u, r, h, hr, ht => by
    by_cases hz : z.2.2 = 0
    · rw [skR_num u hz] at h
      unfold cons0 at h
      split at h
      · exact past_nums u r h hr ht.tail
      · injection h with _ h2
        exact ⟨u, ht.tail, h2⟩
    · rw [skR_raw u hz] at h
      injection h with h1 _
      exact absurd h1 hz
theorem TelP_sk : ∀ (Y Z : List Pc), skR Y = skR Z → TelP Z → (∀ y ∈ Y, NumPc y ∨ y.2.2 ≠ 0 ∧ y.1 = 0 ∧ y.2.1 = 0) → TelP Y
  | [], _, _, _, _ => .nil
  | y :: t, Z, hs, hZ, hY => by
    have ht := fun q hq => hY q (List.mem_cons_of_mem _ hq)
    rcases hY y (List.mem_cons_self ..) with hy | ⟨hy, h1, h2⟩
    · rw [skR_num t hy.1] at hs
      unfold cons0 at hs
      split at hs
      · exact .cons (.inl hy) (TelP_sk t Z hs hZ ht)
      · rename_i c
        obtain ⟨u, hu, e⟩ := past_nums Z (skR t) hs.symm c hZ
        exact .cons (.inl hy) (TelP_sk t u e.symm hu ht)
    · rw [skR_raw t hy] at hs
      cases Z with
      | nil => cases hs
      | cons z u =>
        by_cases hz : z.2.2 = 0
        · exfalso
          rw [skR_num u hz] at hs
          unfold cons0 at hs
          split at hs
          · rename_i c
            rw [← hs] at c
            exact hy (Option.some.inj c)
          · injection hs with a b
            exact hy a
        · rw [skR_raw u hz] at hs
          injection hs with a b
          have hh := hZ.head
          rcases hh with c | ⟨_, _, c1, c2, c3⟩
          · exact absurd c.1 hz
          · rw [← a] at c1 c2 c3
            exact .cons (.inr ⟨h1, h2, c1, c2, raw_sk _ t u b c3⟩) (TelP_sk t u b hZ.tail ht)
end Go.Proofs.YtakfgeonjamjeaaDoor
