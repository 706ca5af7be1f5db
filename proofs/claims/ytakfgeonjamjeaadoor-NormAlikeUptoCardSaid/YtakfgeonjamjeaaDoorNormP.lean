/- The two forms of a text, each of each (pure). -/
import Derived.Test.YtakfgeonjamjeaaDoorSkel
namespace Go.Proofs.YtakfgeonjamjeaaDoor
open Go.RowKit Go.Lib

theorem mark_tab : (marksL.all fun e => decide (e.1 ≤ 44032) || decide (55203 < e.1)) = true := by decide +kernel
theorem mark_syll (q : Int) (h : 44032 ≤ q ∧ q ≤ 55203) : markZ q = 0 := by
  have hc : char q = q.toNat := by unfold char; rw [if_neg (by omega)]
  unfold markZ
  rw [hc]
  have h0 : clsFrom marksL 0 44032 = 0 := by decide +kernel
  unfold cls
  rw [clsFrom_same marksL 0 44032 q.toNat (fun e he => by
    rcases Bool.or_eq_true_iff.1 (List.all_eq_true.1 mark_tab e he) with c | c
    · have c := of_decide_eq_true c; omega
    · have c := of_decide_eq_true c; omega)]
  exact h0
theorem pair_good_l : (pairsL.all fun x => decide (0 ≤ x.2 ∧ x.2 ≤ 55203) && (markZ x.2 == 0)) = true := by decide +kernel
theorem pair_good (a b : Int) (h : pairZ a b ≠ 0) : Scal (pairZ a b) ∧ markZ (pairZ a b) = 0 := by
  unfold pairZ at h ⊢
  by_cases hm : markZ b = 0
  · rw [if_pos hm] at h ⊢
    unfold syllZ at h ⊢
    split
    · exact ⟨scal_low (by omega) (by omega), mark_syll _ (by omega)⟩
    · rename_i h1
      rw [if_neg h1] at h
      split
      · rename_i h2
        have h3 := Bool.and_eq_true_iff.1 h2.1
        have h4 := of_decide_eq_true h3.1
        have h5 : (a - 44032).tmod 28 = 0 := eq_of_beq h3.2
        have h6 : (a - 44032) % 28 = 0 := by rw [← Int.tmod_eq_emod_of_nonneg (by omega)]; exact h5
        exact ⟨scal_low (by omega) (by omega), mark_syll _ (by omega)⟩
      · rename_i h2
        rw [if_neg h2] at h
        exact absurd rfl h
  · rw [if_neg hm] at h ⊢
    obtain ⟨x, hx, h1, h2⟩ := look_has pairsL a b h
    have h3 := Bool.and_eq_true_iff.1 (List.all_eq_true.1 pair_good_l x hx)
    have h4 := of_decide_eq_true h3.1
    rw [← h2]
    exact ⟨scal_low h4.1 h4.2, eq_of_beq h3.2⟩
def Good (y : Pc) : Prop := NumPc y ∨ y.2.2 ≠ 0 ∧ y.1 = 0 ∧ y.2.1 = 0
theorem good_step (P made : List Pc) (st : Option Nat) (p : Pc) (L : Nat) (h : Inv P L made st) (hp : Good p) (hm : ∀ y ∈ made, Good y) : ∀ y ∈ (addZ made st p).1, Good y := by
  unfold addZ
  by_cases hc : reachZ made st p = true ∧ bothZ made st p ≠ 0
  · rw [if_pos hc]
    obtain ⟨hr, hb⟩ := hc
    cases hst : st with
    | none => rw [hst] at hr; exact absurd hr (by simp [reachZ])
    | some k =>
      obtain ⟨A, s, M, hmm, hlen, hs, hraw, hM⟩ := h.2 k hst
      have hat : atZ made (some k) = s := by
        unfold atZ
        rw [hmm]
        simp [← hlen]
      rw [hst] at hb
      unfold bothZ at hb ⊢
      rw [hat] at hb ⊢
      have hs0 : s.2.2 = 0 := by
        by_cases c : s.2.2 = 0
        · exact c
        · rw [hraw c, pair_none_l] at hb; exact absurd rfl hb
      have hg := pair_good _ _ hb
      intro y hy
      rcases List.mem_or_eq_of_mem_set hy with hy | rfl
      · exact hm y hy
      · exact .inl ⟨hs0, hg.1, by show s.2.1 = _; rw [hg.2]; exact hs⟩
  · rw [if_neg hc]
    intro y hy
    rcases List.mem_append.1 hy with hy | hy
    · exact hm y hy
    · rw [List.mem_singleton.1 hy]; exact hp
theorem good_fold : ∀ (ps P : List Pc) (L : Nat) (made : List Pc) (st : Option Nat), Inv P L made st → (∀ y ∈ made, Good y) → (∀ p ∈ ps, Fair p ∧ Good p) → Asc numP ps → (∀ y, ps.head? = some y → numP y = 0 ∨ L ≤ numP y) →
    ∀ y ∈ (ps.foldl stepT (made, st)).1, Good y
  | [], P, L, made, st, _, hm, _, _, _ => hm
  | p :: t, P, L, made, st, h, hm, hf, ha, hl => by
    have h1 := inv_step P L made st p h (hf p (List.mem_cons_self ..)).1 (hl p rfl)
    have h2 := good_step P made st p L h (hf p (List.mem_cons_self ..)).2 hm
    have ha2 : Asc numP t ∧ ∀ y, t.head? = some y → numP y = 0 ∨ numP p ≤ numP y := by
      cases ha with
      | one x => exact ⟨.nil, fun y hy => by cases hy⟩
      | cons c d => exact ⟨d, fun y hy => by cases hy; exact c⟩
    exact good_fold t (P ++ [p]) (numP p) (addZ made st p).1 (addZ made st p).2 h1 h2 (fun q hq => hf q (List.mem_cons_of_mem _ hq)) ha2.1 ha2.2
theorem TelP_good : ∀ (ps : List Pc), TelP ps → ∀ p ∈ ps, Good p
  | [], _, p, hp => by cases hp
  | q :: t, h, p, hp => by
    rcases List.mem_cons.1 hp with rfl | hp
    · rcases h.head with c | ⟨c1, c2, c3, _⟩
      · exact .inl c
      · exact .inr ⟨by omega, c1, c2⟩
    · exact TelP_good t h.tail p hp
theorem good_tog (l : List UInt8) : ∀ y ∈ (togF (apartP l)).1, Good y :=
  good_fold (apartP l) [] 0 [] none ⟨fun _ _ => rfl, fun k hk => by cases hk⟩ (fun _ h => by cases h) (fun p hp => ⟨apartP_fair l p hp, TelP_good _ (TelP_apart l) p hp⟩) (asc_ordZ numP _) (fun y _ => .inr (Nat.zero_le _))
theorem items_tog (l : List UInt8) : items (togS l) = (togF (apartP l)).1 := items_textP _ (TelP_sk _ _ (sk_tog l) (TelP_apart l) (good_tog l))
theorem apartP_tog (l : List UInt8) : apartP (togS l) = apartP l := by
  have h := tog_apart l
  rw [← items_tog l, ← rawP_items] at h
  exact h
theorem apartS_tog (l : List UInt8) : apartS (togS l) = apartS l := by
  have h := apartP_tog l
  unfold apartS
  rw [h]
theorem togS_tog (l : List UInt8) : togS (togS l) = togS l := by
  have h := apartP_tog l
  have e : ∀ x, togS x = textP (togF (apartP x)).1 := fun _ => rfl
  rw [e (togS l), h]
  rfl
theorem togS_apart (l : List UInt8) : togS (apartS l) = togS l := by
  have h := apartP_twice l
  have e : ∀ x, togS x = textP (togF (apartP x)).1 := fun _ => rfl
  rw [e (apartS l), h]
  rfl
/-- the same together is the same apart -/
theorem tog_iff (a b : List UInt8) : togS a = togS b ↔ apartS a = apartS b := by
  constructor
  · intro h
    rw [← apartS_tog a, h, apartS_tog]
  · intro h
    rw [← togS_apart a, h, togS_apart]
end Go.Proofs.YtakfgeonjamjeaaDoor
