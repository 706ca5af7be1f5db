/- NormOnce (pure): bytes that are no character stay; the numbers of what is apart, one by one. -/
import Derived.Test.YtjkakemlhhieoaaDoorPartN
import Derived.Test.YtjkakemlhhieoaaDoorBadC
set_option linter.unusedSimpArgs false
set_option linter.unusedVariables false
namespace Go.Proofs.YtjkakemlhhieoaaDoor
open Go.RowKit Go.Lib

/-- the raw bytes of pieces, in order -/
def rawB (ps : List Pc) : List UInt8 := (ps.filter fun p => p.2.2 != 0).map fun p => UInt8.ofNat p.2.2
theorem rawB_cons (p : Pc) (t : List Pc) : rawB (p :: t) = (if p.2.2 = 0 then [] else [UInt8.ofNat p.2.2]) ++ rawB t := by
  unfold rawB
  by_cases h : p.2.2 = 0
  · rw [if_pos h, List.filter_cons_of_neg (by simp [h])]; rfl
  · rw [if_neg h, List.filter_cons_of_pos (by simp [h])]; rfl
theorem ordR_filter {α : Type} (num : α → Nat) (P : α → Bool) : ∀ (xs row : List α), (∀ y ∈ row, P y = false) → (∀ y ∈ xs, P y = true → num y = 0) → (ordR num row xs).filter P = xs.filter P
  | [], row, hr, _ => by
    rw [ordR_nil, List.filter_nil, List.filter_eq_nil_iff]
    intro y hy h
    rw [hr y (bucket_mem num row y hy)] at h
    cases h
  | x :: xs, row, hr, hx => by
    have hb : (bucket num row).filter P = [] := by
      rw [List.filter_eq_nil_iff]
      intro y hy h
      rw [hr y (bucket_mem num row y hy)] at h
      cases h
    by_cases c : num x = 0
    · rw [ordR_zero num _ row c, List.filter_append, hb, List.nil_append, List.filter_cons, List.filter_cons, ordR_filter num P xs [] (fun _ h => by cases h) (fun y hy => hx y (List.mem_cons_of_mem _ hy))]
    · have hp : P x = false := by
        cases h : P x with
        | false => rfl
        | true => exact absurd (hx x (List.mem_cons_self ..) h) c
      rw [ordR_more num _ row c, ordR_filter num P xs (row ++ [x]) (fun y hy => by
        rcases List.mem_append.1 hy with h | h
        · exact hr y h
        · rw [List.mem_singleton.1 h]; exact hp) (fun y hy => hx y (List.mem_cons_of_mem _ hy)), List.filter_cons, if_neg (by simp [hp])]
theorem rawB_flat (ps : List Pc) : rawB (ps.flatMap splitP) = rawB ps := by
  induction ps with
  | nil => rfl
  | cons p t ih =>
    rw [List.flatMap_cons, rawB_cons, ← ih]
    have : ∀ a b : List Pc, rawB (a ++ b) = rawB a ++ rawB b := fun a b => by unfold rawB; rw [List.filter_append, List.map_append]
    rw [this]
    congr 1
    unfold splitP
    by_cases h : p.2.2 = 0
    · rw [if_pos h, if_pos h]
      unfold rawB
      rw [List.filter_eq_nil_iff.2 (fun y hy => by
        obtain ⟨q, _, rfl⟩ := List.mem_map.1 hy
        simp)]
      rfl
    · rw [if_neg h, if_neg h, rawB_cons, if_neg h]
      rfl
theorem rawP_zero (l : List UInt8) : ∀ p ∈ rawP l, (p.2.2 != 0) = true → numP p = 0 := by
  intro p hp h
  by_cases c : numP p = 0
  · exact c
  · have := (rawP_fair l p hp c).1
    rw [this] at h
    cases h
theorem rawB_apart (l : List UInt8) : rawB (apartP l) = rawB (items l) := by
  have h := ordR_filter numP (fun p : Pc => p.2.2 != 0) (rawP l) [] (fun _ h => by cases h) (rawP_zero l)
  have e : rawB (apartP l) = rawB (rawP l) := by
    unfold rawB apartP ordZ
    rw [h]
  rw [e, rawP_items, rawB_flat]
theorem rawB_skR : ∀ ps : List Pc, rawB ps = ((skR ps).filter fun b => b != 0).map UInt8.ofNat
  | [] => rfl
  | p :: t => by
    rw [rawB_cons, rawB_skR t]
    by_cases h : p.2.2 = 0
    · rw [if_pos h, skR_num t h]
      unfold cons0
      split
      · rfl
      · rw [List.filter_cons_of_neg (by simp)]; rfl
    · rw [if_neg h, skR_raw t h, List.filter_cons_of_pos (by simp [h])]; rfl
/-- the bytes of a text that are no character, in order -/
def badB2 (l : List UInt8) : List UInt8 := rawB (items l)
theorem bad_apart (l : List UInt8) : badB2 (apartS l) = badB2 l := by unfold badB2; rw [items_apart, rawB_apart]
theorem bad_tog (l : List UInt8) : badB2 (togS l) = badB2 l := by
  unfold badB2
  rw [items_tog, rawB_skR, sk_tog, ← rawB_skR, rawB_apart]
set_option maxHeartbeats 1000000 in
theorem badSeg_raw (l : List UInt8) : badSeg (dec l) = decide ((dec l).2 = 1 ∧ 128 ≤ gb l 0) := by
  have h0 := gb_lt l 0
  unfold badSeg
  obtain ⟨x, hx⟩ : ∃ x, dec l = x := ⟨_, rfl⟩
  rw [hx]
  rw [← Bool.decide_and]
  apply decide_eq_decide.2
  unfold dec decodeN at hx
  repeat' split at hx
  all_goals subst hx
  all_goals (simp only [Nat.reduceEqDiff, false_and, true_and, iff_self, and_true, and_false, iff_true, true_iff])
  all_goals first | done | omega | (constructor <;> intro h <;> (exfalso; omega))
/-- what stands at the bad places -/
theorem badPos_bytes (l : List UInt8) : ∀ (k : Nat), (badPos k (segs (l.drop k))).map (fun i => l.getD i 0) = badB2 (l.drop k) := by
  have main : ∀ (m : List UInt8) (k : Nat), l.drop k = m → (badPos k (segs m)).map (fun i => l.getD i 0) = badB2 m := by
    intro m
    induction m using walk_ind with
    | h0 => intro k _; rfl
    | h1 m hm ih =>
      intro k hk
      have h2 := ih (k + (dec m).2) (by rw [← List.drop_drop, hk])
      rw [segs_cons m hm]
      unfold badPos badB2
      rw [List.map_append, items_step m hm, rawB_cons, h2]
      congr 1
      rw [badSeg_raw]
      have hg : gb m 0 = gb l k := by rw [← hk, gb_drop, Nat.add_zero]
      unfold headI
      by_cases c : (dec m).2 = 1 ∧ 128 ≤ gb m 0
      · rw [decide_eq_true c, if_pos rfl, if_pos c, if_neg (by show gb m 0 ≠ 0; omega)]
        show [l.getD k 0] = [UInt8.ofNat (gb m 0)]
        rw [hg]
        unfold gb
        simp
      · rw [decide_eq_false c, if_neg c]
        rfl
  intro k
  exact main _ k rfl
theorem bads_bytes (l : List UInt8) : (badsOf l).map (fun i => l.getD i 0) = badB2 l := badPos_bytes l 0
theorem badPos_lt (l : List UInt8) : ∀ (k : Nat), ∀ i ∈ badPos k (segs (l.drop k)), i < l.length := by
  have main : ∀ (m : List UInt8) (k : Nat), l.drop k = m → ∀ i ∈ badPos k (segs m), i < l.length := by
    intro m
    induction m using walk_ind with
    | h0 => intro k _ i hi; cases hi
    | h1 m hm ih =>
      intro k hk i hi
      have hlen : k < l.length := by
        have := List.length_pos_iff.2 hm
        rw [← hk, List.length_drop] at this
        omega
      rw [segs_cons m hm] at hi
      unfold badPos at hi
      rcases List.mem_append.1 hi with h | h
      · split at h
        · rw [List.mem_singleton.1 h]; exact hlen
        · cases h
      · exact ih (k + (dec m).2) (by rw [← List.drop_drop, hk]) i h
  intro k
  exact main _ k rfl
theorem bads_lt (l : List UInt8) : ∀ i ∈ badsOf l, i < l.length := badPos_lt l 0

/-! ### The numbers of what is apart -/
theorem runes_items (l : List UInt8) : (runesOf l).map (fun (r : Nat) => (r : Int)) = (items l).map fun p => if p.2.2 = 0 then p.1 else 65533 := by
  induction l using walk_ind with
  | h0 => rfl
  | h1 l h ih =>
    have e : runesOf l = (dec l).1 :: runesOf (l.drop (dec l).2) := by unfold runesOf; rw [segs_cons l h]; rfl
    rw [e, items_step l h, List.map_cons, List.map_cons, ih]
    congr 1
    have hb := badSeg_raw l
    unfold headI
    by_cases c : (dec l).2 = 1 ∧ 128 ≤ gb l 0
    · rw [if_pos c, if_neg (by show gb l 0 ≠ 0; omega)]
      rw [decide_eq_true c] at hb
      unfold badSeg at hb
      have := of_decide_eq_true (Bool.and_eq_true_iff.1 hb).2
      rw [this]
      rfl
    · rw [if_neg c]
      rfl
theorem split_bad : splitZ 65533 = [65533] := by decide +kernel
theorem Asc.index {α : Type} {num : α → Nat} {xs : List α} (h : Asc num xs) : ∀ (i : Nat) (x y : α), xs[i]? = some x → xs[i + 1]? = some y → num y = 0 ∨ num x ≤ num y := by
  induction h with
  | nil => intro i x y h; simp at h
  | one z => intro i x y _ h; simp at h
  | cons hz _ ih =>
    intro i x y h1 h2
    cases i with
    | zero =>
      simp at h1 h2
      subst h1 h2
      exact hz
    | succ i =>
      rw [List.getElem?_cons_succ] at h1 h2
      exact ih i x y h1 h2
/-- the numbers of what a text is taken apart into -/
def apartR (l : List UInt8) : List Int := (runesOf (apartS l)).map fun (r : Nat) => (r : Int)
theorem apartR_eq (l : List UInt8) : apartR l = (apartP l).map fun p => if p.2.2 = 0 then p.1 else 65533 := by
  unfold apartR
  rw [runes_items, items_apart]
theorem apartR_split (l : List UInt8) : ∀ r ∈ apartR l, splitZ r = [r] := by
  intro r hr
  rw [apartR_eq] at hr
  obtain ⟨p, hp, rfl⟩ := List.mem_map.1 hr
  have h := apartP_still l p hp
  by_cases c : p.2.2 = 0
  · rw [if_pos c]
    unfold splitP at h
    rw [if_pos c] at h
    have h2 := congrArg (List.map fun q : Pc => q.1) h
    rw [List.map_map] at h2
    simpa [Function.comp_def] using h2
  · rw [if_neg c]; exact split_bad
theorem numP_rune {l : List UInt8} {p : Pc} (h : p ∈ apartP l) : markZ (if p.2.2 = 0 then p.1 else 65533) = numP p := by
  rcases (apartP_fair l p h).2 with ⟨a, b⟩ | ⟨a, _, b⟩
  · rw [if_pos a]; exact b.symm
  · rw [if_neg a]; exact mark_bad.trans b.symm
theorem apartR_asc (l : List UInt8) (i : Nat) (x y : Int) (h1 : (apartR l)[i]? = some x) (h2 : (apartR l)[i + 1]? = some y) : markZ y = 0 ∨ markZ x ≤ markZ y := by
  rw [apartR_eq, List.getElem?_map] at h1 h2
  cases e1 : (apartP l)[i]? with
  | none => rw [e1] at h1; cases h1
  | some p =>
    cases e2 : (apartP l)[i + 1]? with
    | none => rw [e2] at h2; cases h2
    | some q =>
      rw [e1] at h1
      rw [e2] at h2
      injection h1 with h1
      injection h2 with h2
      subst h1 h2
      rw [numP_rune (List.mem_of_getElem? e1), numP_rune (List.mem_of_getElem? e2)]
      exact (asc_ordZ numP (rawP l)).index i p q e1 e2
end Go.Proofs.YtjkakemlhhieoaaDoor
