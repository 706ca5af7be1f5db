/- split: what a character is when it is taken apart as far as it goes. -/
import Derived.Test.YtjkakemlhhieoaaGreatDoorLetG
import Derived.Maps.AppendAt
import Derived.Laws.IdiomCopy
import Derived.ArgAppend
import Derived.Maps.OwnOps
import Derived.Maps.Views
import Derived.DeepKeys4
set_option linter.unusedSimpArgs false
set_option linter.unusedVariables false
namespace Go.Proofs.YtjkakemlhhieoaaGreatDoor
open Go.RowKit Go.Lib

def stepZ (r : Int) : Int × Int := partsZ (singleZ r)
def splitF : Nat → Int → List Int
  | 0, r => [singleZ r]
  | f + 1, r => if (stepZ r).2 = 0 then [singleZ r] else splitF f (stepZ r).1 ++ [(stepZ r).2]
def depB : Nat → Int → Bool
  | 0, r => decide ((stepZ r).2 = 0)
  | f + 1, r => decide ((stepZ r).2 = 0) || depB f (stepZ r).1
/-- what a number is taken apart into -/
def splitZ (r : Int) : List Int := splitF 3 r
abbrev runes (l : List Int) : List Value := l.map (Value.int .i32)

theorem lookI_key {z r : Int} : ∀ {l : List (List Int × Int)}, lookI l z r ≠ z → ∃ x ∈ l, hasI x.1 r = true
  | [], h => absurd rfl h
  | x :: t, h => by
    unfold lookI at h
    cases hx : hasI x.1 r with
    | true => exact ⟨x, List.mem_cons_self .., hx⟩
    | false =>
      rw [hx] at h
      obtain ⟨y, hy, h2⟩ := lookI_key h
      exact ⟨y, List.mem_cons_of_mem _ hy, h2⟩
theorem hasI_mem : ∀ {l : List Int} {r : Int}, hasI l r = true → r ∈ l
  | [], _, h => by cases h
  | x :: t, r, h => by
    unfold hasI at h
    rcases Bool.or_eq_true_iff.1 h with h | h
    · rw [eq_of_beq h]; exact List.mem_cons_self ..
    · exact List.mem_cons_of_mem _ (hasI_mem h)
theorem dep_letters : (markT.all fun x => x.1.all fun r => depB 3 r) = true := by decide +kernel
theorem dep_kana : ((List.range 192).all fun i => depB 3 (12352 + (i : Int))) = true := by decide +kernel
theorem dep_lead : ((List.range 20).all fun i => decide (stepZ (4352 + (i : Int)) = (0, 0))) = true := by decide +kernel
theorem single_high {r : Int} (h : 8492 ≤ r) : singleZ r = r := by
  unfold singleZ
  rw [if_neg (by omega), if_neg (by omega), if_neg (by omega)]
theorem dep_all (r : Int) : depB 3 r = true := by
  by_cases h0 : (stepZ r).2 = 0
  · unfold depB; rw [decide_eq_true h0]; rfl
  · by_cases hs : r = 0x212a ∨ r = 0x2126 ∨ r = 0x212b
    · rcases hs with rfl | rfl | rfl <;> decide +kernel
    · have hq : singleZ r = r := by unfold singleZ; rw [if_neg (by omega), if_neg (by omega), if_neg (by omega)]
      have hp : stepZ r = partsZ r := by unfold stepZ; rw [hq]
      by_cases h1 : r < 192
      · exact absurd (by rw [hp]; unfold partsZ; rw [if_pos h1]) h0
      · by_cases h2 : 44032 ≤ r ∧ r < 55204
        · -- a syllable
          have hlead : ∀ k : Int, 0 ≤ k → k < 20 → stepZ (4352 + k) = (0, 0) := by
            intro k hk0 hk1
            have := List.all_eq_true.1 dep_lead k.toNat (List.mem_range.2 (by omega))
            rw [show ((k.toNat : Nat) : Int) = k by omega] at this
            exact of_decide_eq_true this
          have hopen : ∀ q : Int, 44032 ≤ q → q < 55204 → (q - 44032).tmod 28 = 0 → depB 1 q = true := by
            intro q a b hm
            have e : stepZ q = (4352 + ((q - 44032).tdiv 28).tdiv 21, 4449 + ((q - 44032).tdiv 28).tmod 21) := by
              unfold stepZ
              rw [single_high (by omega)]
              unfold partsZ
              rw [if_neg (by omega), if_pos ⟨a, b⟩]
              unfold sylZ
              rw [if_neg (fun h => h hm)]
            have hd0 := Int.tdiv_nonneg (show (0 : Int) ≤ q - 44032 by omega) (show (0 : Int) ≤ 28 by decide)
            have hd1 : (q - 44032).tdiv 28 < 399 := by rw [Int.tdiv_eq_ediv_of_nonneg (by omega)]; omega
            have hq0 := Int.tdiv_nonneg hd0 (show (0 : Int) ≤ 21 by decide)
            have hq1 : ((q - 44032).tdiv 28).tdiv 21 < 20 := by rw [Int.tdiv_eq_ediv_of_nonneg hd0]; omega
            have hl := hlead _ hq0 hq1
            unfold depB
            unfold depB
            rw [e]
            show (_ || decide ((stepZ (4352 + ((q - 44032).tdiv 28).tdiv 21)).2 = 0)) = true
            rw [hl]
            simp
          by_cases hm : (r - 44032).tmod 28 = 0
          · have := hopen r h2.1 h2.2 hm
            have h3 : depB 0 (stepZ r).1 = true := by
              unfold depB at this
              rw [decide_eq_false h0, Bool.false_or] at this
              exact this
            unfold depB
            unfold depB
            have h4 : (stepZ (stepZ r).1).2 = 0 := of_decide_eq_true h3
            rw [decide_eq_true h4]
            simp
          · have e : stepZ r = (r - (r - 44032).tmod 28, 4519 + (r - 44032).tmod 28) := by
              rw [hp]
              unfold partsZ
              rw [if_neg (by omega), if_pos h2]
              unfold sylZ
              rw [if_pos hm]
            have hm0 := Int.tmod_nonneg (28 : Int) (show (0 : Int) ≤ r - 44032 by omega)
            have hm2 := Int.tmod_add_mul_tdiv (r - 44032) 28
            have hd0 := Int.tdiv_nonneg (show (0 : Int) ≤ r - 44032 by omega) (show (0 : Int) ≤ 28 by decide)
            have ho := hopen (r - (r - 44032).tmod 28) (by omega) (by omega) (by
              rw [show r - (r - 44032).tmod 28 - 44032 = 28 * (r - 44032).tdiv 28 by omega]
              exact Int.mul_tmod_right ..)
            unfold depB
            rw [e]
            show (_ || depB 2 (r - (r - 44032).tmod 28)) = true
            have : depB 2 (r - (r - 44032).tmod 28) = true := by
              unfold depB at ho ⊢
              rcases Bool.or_eq_true_iff.1 ho with h | h
              · rw [h]; rfl
              · unfold depB
                have h4 : (stepZ (stepZ (r - (r - 44032).tmod 28)).1).2 = 0 := of_decide_eq_true h
                rw [decide_eq_true h4]
                simp
            rw [this]
            simp
        · by_cases h3 : 12352 ≤ r ∧ r < 12544
          · have := List.all_eq_true.1 dep_kana (r - 12352).toNat (List.mem_range.2 (by omega))
            rw [show 12352 + (((r - 12352).toNat : Nat) : Int) = r by omega] at this
            exact this
          · have hk : lookI markT 0 r ≠ 0 := by
              intro e
              refine h0 ?_
              rw [hp]
              unfold partsZ
              rw [if_neg h1, if_neg h2, if_neg h3]
              exact e
            obtain ⟨x, hx, hr⟩ := lookI_key hk
            exact List.all_eq_true.1 (List.all_eq_true.1 dep_letters x hx) r (hasI_mem hr)

/-- what an append does to one's own list, and to nothing else -/
structure Grew (w w' : World) (v v' : Value) : Prop where
  os : w'.os = w.os
  tape : w'.tape = w.tape
  output : w'.output = w.output
  size : w.heap.size ≤ w'.heap.size
  block : ∀ k, k < w.heap.size → some k ≠ v.ownBlock → w'.heap[k]? = w.heap[k]?
  own : v'.ownBlock = v.ownBlock ∨ ∃ k, w.heap.size ≤ k ∧ v'.ownBlock = some k
theorem Grew.trans {w w1 w2 : World} {v v1 v2 : Value} (h : Grew w w1 v v1) (k : Grew w1 w2 v1 v2) : Grew w w2 v v2 := by
  refine ⟨k.os.trans h.os, k.tape.trans h.tape, k.output.trans h.output, Nat.le_trans h.size k.size, fun b hb hn => ?_, ?_⟩
  · refine (k.block b (Nat.lt_of_lt_of_le hb h.size) ?_).trans (h.block b hb hn)
    rcases h.own with e | ⟨j, hj, e⟩
    · rw [e]; exact hn
    · rw [e]
      intro e'
      cases e'
      omega
  · rcases k.own with e | ⟨j, hj, e⟩
    · rw [e]
      rcases h.own with e' | ⟨j, hj, e'⟩
      · exact .inl e'
      · exact .inr ⟨j, hj, e'⟩
    · exact .inr ⟨j, Nat.le_trans h.size hj, e⟩
theorem Grew.of_append {w w1 w' : World} {v v' : Value} (ha : Below w.heap.size w w1) (hg : w1.grownBy w' v.ownBlock) (ho : v'.ownBlock = v.ownBlock ∨ v'.ownBlock = some w1.heap.size) : Grew w w' v v' := by
  have hb := Below.grown ha hg ha.size
  refine ⟨hg.os.trans ha.os, hg.tape.trans ha.tape, hg.output.trans ha.output, Nat.le_trans ha.size hg.size, fun k hk hn => (hg.block k (Nat.lt_of_lt_of_le hk ha.size) hn).trans (ha.block k hk), ?_⟩
  rcases ho with e | e
  · exact .inl e
  · exact .inr ⟨_, ha.size, e⟩
theorem runeN_info : (Tryz.prog.info? 21).map (fun i => (i.zero, i.size, i.bytes)) = some (some (.int .i32 0), 1, 4) := by kernel_rfl
theorem splitF_len : ∀ f r, (splitF f r).length ≤ f + 1
  | 0, _ => Nat.le_refl _
  | f + 1, r => by
    unfold splitF
    split
    · simp
    · have := splitF_len f (stepZ r).1
      simp
      omega

set_option maxRecDepth 100000 in
set_option maxHeartbeats 1000000 in
theorem split_rec : ∀ (f : Nat) (r : Int), depB f r = true → ∀ (w : World) (base : Nat) (v : Value) (n : Nat) (xs : List Value), w.ownsRow base 21 1 v n xs → base ≤ w.heap.size → n + f ≤ 1073741824 →
    Calls Tryz.prog 75 #[v, .int .i32 r] w fun e w' => ∃ v', e = .returned v' ∧ w'.ownsRow base 21 1 v' (n + (splitF f r).length) (xs ++ runes (splitF f r)) ∧ Grew w w' v v' := by
  obtain ⟨i0, hi, hz0, hz1, hz2⟩ := info_parts runeN_info
  -- where there is nothing to take apart
  have hend : ∀ (r : Int), (stepZ r).2 = 0 → ∀ (w : World) (base : Nat) (v : Value) (n : Nat) (xs : List Value), w.ownsRow base 21 1 v n xs → base ≤ w.heap.size → n ≤ 1073741824 →
      Calls Tryz.prog 75 #[v, .int .i32 r] w fun e w' => ∃ v', e = .returned v' ∧ w'.ownsRow base 21 1 v' (n + 1) (xs ++ [.int .i32 (singleZ r)]) ∧ Grew w w' v v' := by
    intro r h0 w base v n xs hown hb hn
    have HS := Lib.hid (singleN_any r w)
    have HP := Lib.hid (partsN_any (singleZ r) w (fun a b => kana_any _ a b w))
    obtain ⟨p, hp⟩ : ∃ p, partsZ (singleZ r) = p := ⟨_, rfl⟩
    have h0' : p.2 = 0 := by rw [← hp]; exact h0
    rw [hp] at HP
    obtain ⟨q, hq⟩ : ∃ q, singleZ r = q := ⟨_, rfl⟩
    rw [hq] at HP HS ⊢
    have Hown := Lib.hid hown
    clear hq hp h0 hown
    go_enter Tryz.func75, Tryz.ntmps75
    go_wp2_with fail
    refine HS.out.mono ?_
    rintro _ w1 ⟨rfl, h⟩
    obtain rfl := h.symm
    go_wp2_with fail
    refine HP.out.mono ?_
    rintro _ w1 ⟨rfl, h⟩
    obtain rfl := h.symm
    rw [h0']
    go_wp2_with (at_builtin; refine wpList_append_own_at _ rfl _ _ 92 rfl base 21 i0 _ 1 4 Tryz.underlying92 hi hz0 hz1 hz2 rfl (by decide) _ _ _ rfl (Hown.out.alloc _) ⟨w.heap.size, 0, none⟩ 1 1 [.int .i32 q] rfl rfl ?c1 ?c2 ?c3 ?c4 ?c5 ?_)
    try (case c1 => exact new_cells w [.int .i32 q] 21)
    case c2 => simp [Value.oneCell']
    case c3 => unfold maxLen; omega
    case c4 => omega
    case c5 => simp; omega
    intro v' w2 hown2 hg2 _ hb2
    have Hown2 := Lib.hid hown2
    clear hown2
    go_wp2
    go_ret
    exact ⟨v', rfl, Hown2.out, .of_append ((Below.refl _ w).alloc (Nat.le_refl _) _) hg2 (by rw [World.size_alloc]; exact hb2)⟩
  intro f
  induction f with
  | zero =>
    intro r h w base v n xs hown hb hn
    exact hend r (of_decide_eq_true h) w base v n xs hown hb (by omega)
  | succ f ih =>
    intro r h w base v n xs hown hb hn
    by_cases h0 : (stepZ r).2 = 0
    · have e : splitF (f + 1) r = [singleZ r] := by
        unfold splitF
        rw [if_pos h0]
      rw [e]
      exact hend r h0 w base v n xs hown hb (by omega)
    · have hd : depB f (stepZ r).1 = true := by
        unfold depB at h
        rw [decide_eq_false h0, Bool.false_or] at h
        exact h
      have e : splitF (f + 1) r = splitF f (stepZ r).1 ++ [(stepZ r).2] := by
        conv => lhs; unfold splitF
        rw [if_neg h0]
      have hl := splitF_len f (stepZ r).1
      have HS := Lib.hid (singleN_any r w)
      have HP := Lib.hid (partsN_any (singleZ r) w (fun a b => kana_any _ a b w))
      have hstep : partsZ (singleZ r) = stepZ r := rfl
      rw [hstep] at HP
      have HI := Lib.hid (ih (stepZ r).1 hd w base v n xs hown hb (by omega))
      rw [e]
      obtain ⟨p, hp⟩ : ∃ p, stepZ r = p := ⟨_, rfl⟩
      rw [hp] at HP HI h0 hl ⊢
      obtain ⟨l, hll⟩ : ∃ l, splitF f p.1 = l := ⟨_, rfl⟩
      rw [hll] at HI hl ⊢
      have hlen : (l ++ [p.2]).length = l.length + 1 := by simp
      have hcells : runes (l ++ [p.2]) = runes l ++ [.int .i32 p.2] := by simp [runes]
      rw [hlen, hcells]
      obtain ⟨q, hq⟩ : ∃ q, singleZ r = q := ⟨_, rfl⟩
      rw [hq] at HP HS
      obtain ⟨cs, hcs⟩ : ∃ cs, runes l = cs := ⟨_, rfl⟩
      rw [hcs] at HI ⊢
      clear hq hp hstep h e hd hown hlen hcells hll hcs ih
      go_enter Tryz.func75, Tryz.ntmps75
      go_wp2_with fail
      refine HS.out.mono ?_
      rintro _ w1 ⟨rfl, h⟩
      obtain rfl := h.symm
      go_wp2_with fail
      refine HP.out.mono ?_
      rintro _ w1 ⟨rfl, h⟩
      obtain rfl := h.symm
      go_wp2_with fail
      refine HI.out.mono ?_
      rintro _ w1 ⟨v1, rfl, hown1, hg1⟩
      have Hown1 := Lib.hid hown1
      have Hg1 := Lib.hid hg1
      have hsz := hg1.size
      clear hown1 hg1
      go_wp2_with (at_builtin; refine wpList_append_own_at _ rfl _ _ 92 rfl base 21 i0 _ 1 4 Tryz.underlying92 hi hz0 hz1 hz2 rfl (by decide) _ _ _ rfl (Hown1.out.alloc _) ⟨w1.heap.size, 0, none⟩ 1 1 [.int .i32 p.2] rfl rfl ?c1 ?c2 ?c3 ?c4 ?c5 ?_)
      try (case c1 => exact new_cells w1 [.int .i32 p.2] 21)
      case c2 => simp [Value.oneCell']
      case c3 => unfold maxLen; omega
      case c4 => omega
      case c5 => simp; omega
      intro v' w2 hown2 hg2 _ hb2
      have Hown2 := Lib.hid hown2
      clear hown2
      go_wp2
      go_ret
      refine ⟨v', rfl, ?_, Hg1.out.trans (.of_append ((Below.refl _ w1).alloc (Nat.le_refl _) _) hg2 (by rw [World.size_alloc]; exact hb2))⟩
      have := Hown2.out
      simpa [Nat.add_assoc] using this
theorem split_any (r : Int) (w : World) (base : Nat) (v : Value) (n : Nat) (xs : List Value) (hown : w.ownsRow base 21 1 v n xs) (hb : base ≤ w.heap.size) (hn : n ≤ 1073741820) :
    Calls Tryz.prog 75 #[v, .int .i32 r] w fun e w' => ∃ v', e = .returned v' ∧ w'.ownsRow base 21 1 v' (n + (splitZ r).length) (xs ++ runes (splitZ r)) ∧ Grew w w' v v' :=
  split_rec 3 r (dep_all r) w base v n xs hown hb (by omega)
end Go.Proofs.YtjkakemlhhieoaaGreatDoor

/- Piles by number (pure); a block whose cells are a list; 'append' that writes within such a block. -/
namespace Go.Proofs.YtjkakemlhhieoaaGreatDoor
open Go.RowKit Go.Lib

section
variable {α : Type} (num : α → Nat)
def pile (xs : List α) (i : Nat) : List α := xs.filter fun x => num x == i
def conc (xs : List α) : Nat → List α
  | 0 => []
  | k + 1 => conc xs k ++ pile num xs k
def bucket (xs : List α) : List α := conc num xs 256
theorem pile_snoc (xs : List α) (x : α) (i : Nat) : pile num (xs ++ [x]) i = if num x = i then pile num xs i ++ [x] else pile num xs i := by
  unfold pile
  by_cases h : num x = i <;> simp [h]
theorem conc_nil : ∀ k, conc num ([] : List α) k = []
  | 0 => rfl
  | k + 1 => by unfold conc; rw [conc_nil k]; rfl
theorem conc_len_cons (x : α) (xs : List α) : ∀ k, (conc num (x :: xs) k).length = (conc num xs k).length + (if num x < k then 1 else 0)
  | 0 => rfl
  | k + 1 => by
    unfold conc
    rw [List.length_append, List.length_append, conc_len_cons x xs k]
    unfold pile
    by_cases h : num x = k
    · rw [List.filter_cons_of_pos (by simp [h]), List.length_cons, if_neg (by omega), if_pos (by omega)]
      omega
    · rw [List.filter_cons_of_neg (by simp [h])]
      by_cases h2 : num x < k
      · rw [if_pos h2, if_pos (by omega)]; omega
      · rw [if_neg h2, if_neg (by omega)]; omega
theorem conc_len : ∀ (xs : List α) (k : Nat), (∀ x ∈ xs, num x < k) → (conc num xs k).length = xs.length
  | [], k, _ => by rw [conc_nil]
  | x :: xs, k, h => by
    rw [conc_len_cons, conc_len xs k (fun y hy => h y (by simp [hy])), if_pos (h x (by simp)), List.length_cons]
theorem conc_mono (xs : List α) (j k : Nat) (h : j ≤ k) : (conc num xs j).length ≤ (conc num xs k).length := by
  induction k with
  | zero => rw [show j = 0 by omega]; exact Nat.le_refl _
  | succ k ih =>
    rcases Nat.lt_or_ge j (k + 1) with h2 | h2
    · have := ih (by omega)
      have e : (conc num xs (k + 1)).length = (conc num xs k).length + (pile num xs k).length := by
        conv => lhs; unfold conc
        rw [List.length_append]
      omega
    · rw [show j = k + 1 by omega]; exact Nat.le_refl _
theorem bucket_len (xs : List α) (h : ∀ x ∈ xs, num x < 256) : (bucket num xs).length = xs.length := conc_len num xs 256 h
theorem conc_one (x : α) : ∀ k, conc num [x] k = if num x < k then [x] else []
  | 0 => rfl
  | k + 1 => by
    unfold conc
    rw [conc_one x k]
    unfold pile
    by_cases h : num x = k
    · rw [if_neg (by omega), if_pos (by omega)]; simp [h]
    · by_cases h2 : num x < k
      · rw [if_pos h2, if_pos (by omega)]; simp [h]
      · rw [if_neg h2, if_neg (by omega)]; simp [h]
theorem bucket_short (xs : List α) (hl : xs.length < 2) (h : ∀ x ∈ xs, num x < 256) : bucket num xs = xs := by
  rcases xs with _ | ⟨x, _ | ⟨y, t⟩⟩
  · exact conc_nil num 256
  · unfold bucket; rw [conc_one, if_pos (h x (by simp))]
  · exfalso; simp at hl; omega
theorem conc_mem (xs : List α) (y : α) : ∀ k, y ∈ conc num xs k → y ∈ xs
  | 0, h => by simp [conc] at h
  | k + 1, h => by
    unfold conc at h
    rcases List.mem_append.1 h with h | h
    · exact conc_mem xs y k h
    · exact (List.mem_filter.1 h).1
/-- rows of what are no starters, each put in order -/
def ordR (row : List α) : List α → List α
  | [] => bucket num row
  | x :: t => if num x = 0 then bucket num row ++ x :: ordR [] t else ordR (row ++ [x]) t
def ordZ (xs : List α) : List α := ordR num [] xs
theorem ordR_len : ∀ (xs row : List α), (∀ x ∈ row, num x < 256) → (∀ x ∈ xs, num x < 256) → (ordR num row xs).length = row.length + xs.length
  | [], row, h, _ => by unfold ordR; rw [bucket_len num row h]; rfl
  | x :: t, row, h, h2 => by
    unfold ordR
    by_cases hx : num x = 0
    · rw [if_pos hx, List.length_append, List.length_cons, bucket_len num row h, ordR_len t [] (fun _ h => by cases h) (fun y hy => h2 y (by simp [hy]))]
      simp <;> omega
    · rw [if_neg hx, ordR_len t (row ++ [x]) (fun y hy => by rcases List.mem_append.1 hy with hy | hy; exact h y hy; rw [List.mem_singleton.1 hy]; exact h2 x (by simp)) (fun y hy => h2 y (by simp [hy]))]
      simp <;> omega
end

/-- the cells of a list of elements -/
def flat {α : Type} (enc : α → List Value) (xs : List α) : List Value := xs.flatMap enc
section
variable {α : Type} {enc : α → List Value} {sz : Nat}
theorem flat_append (xs ys : List α) : flat enc (xs ++ ys) = flat enc xs ++ flat enc ys := by simp [flat]
theorem flat_len (he : ∀ x, (enc x).length = sz) : ∀ xs : List α, (flat enc xs).length = xs.length * sz
  | [] => by simp [flat]
  | x :: t => by
    have := flat_len he t
    simp only [flat, List.flatMap_cons, List.length_append, List.length_cons] at this ⊢
    rw [he, this, Nat.add_mul]; omega
theorem flat_at (he : ∀ x, (enc x).length = sz) : ∀ (xs : List α) (i : Nat) (x : α), xs[i]? = some x → ∀ j u, (enc x)[j]? = some u → (flat enc xs)[i * sz + j]? = some u
  | [], i, x, h, _, _, _ => by simp at h
  | y :: t, 0, x, h, j, u, hu => by
    obtain rfl : y = x := by simpa using h
    show (enc y ++ flat enc t)[0 * sz + j]? = some u
    rw [Nat.zero_mul, Nat.zero_add, List.getElem?_append_left (List.getElem?_eq_some_iff.1 hu).1]
    exact hu
  | y :: t, i + 1, x, h, j, u, hu => by
    show (enc y ++ flat enc t)[(i + 1) * sz + j]? = some u
    rw [List.getElem?_append_right (by rw [he, Nat.add_mul]; omega), he, show (i + 1) * sz + j - sz = i * sz + j by rw [Nat.add_mul]; omega]
    exact flat_at he t i x (by simpa using h) j u hu
theorem flat_one (h1 : ∀ x, ∀ u ∈ enc x, u.oneCell' = true) (xs : List α) : ∀ u ∈ flat enc xs, u.oneCell' = true := by
  intro u hu
  obtain ⟨x, _, hx⟩ := List.mem_flatMap.1 hu
  exact h1 x u hx
end

/-- block R's cells are the list L -/
def Blk (w : World) (R : Nat) (t : TypeId) (L : List Value) : Prop := w.heap[R]? = some (.cells L.toArray t (0, 0))
section
variable {w : World} {R : Nat} {t : TypeId} {L : List Value}
theorem Blk.lt (h : Blk w R t L) : R < w.heap.size := (Array.getElem?_eq_some_iff.1 h).1
theorem Blk.cell (h : Blk w R t L) {j : Nat} {u : Value} (hj : L[j]? = some u) : w.cell? ⟨R, j, none⟩ = some u := by
  simp [World.cell?, show w.heap[R]? = _ from h, hj]
theorem Blk.frozen (h : Blk w R t L) (j : Nat) : w.frozen? ⟨R, j, none⟩ = false := frozen_of_row w R j _ t h
theorem Blk.setCell {pre post : List Value} {old : Value} (h : Blk w R t (pre ++ old :: post)) (v : Value) : Blk (w.setCell ⟨R, pre.length, none⟩ v) R t (pre ++ v :: post) := by
  unfold Blk
  rw [heap_setCell_same w R pre.length _ t v h]
  simp
theorem Blk.setCells : ∀ (vs : List Value) {w : World} {pre old post : List Value}, Blk w R t (pre ++ old ++ post) → old.length = vs.length → Blk (w.setCells R pre.length vs) R t (pre ++ vs ++ post)
  | [], w, pre, old, post, h, hl => by
    rw [List.eq_nil_of_length_eq_zero hl] at h
    exact h
  | v :: vs, w, pre, [], post, h, hl => by simp at hl
  | v :: vs, w, pre, o :: old, post, h, hl => by
    have h1 : Blk w R t (pre ++ o :: (old ++ post)) := by simpa using h
    have h2 := h1.setCell v
    have h3 : Blk (w.setCell ⟨R, pre.length, none⟩ v) R t ((pre ++ [v]) ++ old ++ post) := by simpa using h2
    have h4 := Blk.setCells vs h3 (by simpa using hl)
    show Blk ((w.setCell ⟨R, pre.length, none⟩ v).setCells R (pre.length + 1) vs) R t (pre ++ v :: vs ++ post)
    rw [show pre.length + 1 = (pre ++ [v]).length by simp]
    simpa using h4
end
/-- all but block R is as it was -/
structure Other (w w' : World) (R : Nat) : Prop where
  os : w'.os = w.os
  tape : w'.tape = w.tape
  output : w'.output = w.output
  size : w.heap.size ≤ w'.heap.size
  block : ∀ k, k < w.heap.size → k ≠ R → w'.heap[k]? = w.heap[k]?
theorem Other.refl (w : World) (R : Nat) : Other w w R := ⟨rfl, rfl, rfl, Nat.le_refl _, fun _ _ _ => rfl⟩
theorem Other.trans {a b c : World} {R : Nat} (h : Other a b R) (k : Other b c R) : Other a c R :=
  ⟨k.os.trans h.os, k.tape.trans h.tape, k.output.trans h.output, Nat.le_trans h.size k.size, fun i hi hn => (k.block i (Nat.lt_of_lt_of_le hi h.size) hn).trans (h.block i hi hn)⟩
theorem Other.of_below {w w' : World} (h : Below w.heap.size w w') (R : Nat) : Other w w' R := ⟨h.os, h.tape, h.output, h.size, fun k hk _ => h.block k hk⟩
theorem Other.set (w : World) (R o : Nat) (v : Value) : Other w (w.setCell ⟨R, o, none⟩ v) R := ⟨rfl, rfl, rfl, by simp, fun k _ hk => heap_setCell_other w _ k v hk⟩
theorem Other.setCells (R : Nat) : ∀ (vs : List Value) (w : World) (o : Nat), Other w (w.setCells R o vs) R
  | [], w, _ => Other.refl w R
  | v :: vs, w, o => (Other.set w R o v).trans (Other.setCells R vs _ (o + 1))
theorem Other.drew {w w' : World} {R : Nat} (h : Other w w' R) : Other w w'.drew R := ⟨h.os, h.tape, h.output, h.size, h.block⟩
theorem Other.below {w w' : World} {R : Nat} (h : Other w w' R) : Below (min R w.heap.size) w w' := ⟨h.os, h.tape, h.output, by have := h.size; omega, fun k hk => h.block k (by omega) (by omega)⟩

section
variable {P : Program} {w : World} {ops : Array Oper} {rest : List Oper} {o : Oper} {a : Act} {Q : Exit → Act → World → Prop}
/-- 'append' where there is room, its block a list of cells -/
theorem wpList_append_blk (hg : o.guard = none) (s x : Operand) (t : TypeId) (hop : o.op = Op.call { callee := Callee.builtin Builtin.append, args := #[s, x], argTypes := #[t, t] })
    (e : TypeId) (i : TypeInfo) (size : Nat) (h1 : P.underlying t = some (.slice e)) (h2 : P.info? e = some i) (h4 : i.size = size)
    (R off n cap : Nat) (hs : a.eval s = .slice (some ⟨R, off, none⟩) n cap)
    (ad : Addr) (m c : Nat) (news : List Value) (hx : a.eval x = .slice (some ad) m c) (hn : news.length = m * size) (hc : ∀ j u, news[j]? = some u → w.cell? (ad.add j) = some u) (h1c : ∀ u ∈ news, u.oneCell' = true)
    (hroom : n + m ≤ cap) (tb : TypeId) (pre old post : List Value) (hblk : Blk w R tb (pre ++ old ++ post)) (hpre : pre.length = off + n * size) (hold : old.length = news.length)
    (hK : wpList P ops Q rest (a.put o.dst (.slice (some ⟨R, off, none⟩) (n + m) cap)) (w.setCells R (off + n * size) news)) :
    wpList P ops Q (o :: rest) a w := by
  refine wpList_plain hg fun K hK' => ?_
  subst h4
  have hin : ∀ j, j < news.length → (w.cell? ⟨R, off + n * i.size + j, none⟩).isSome = true := by
    intro j hj
    have : ∃ u, (pre ++ old ++ post)[off + n * i.size + j]? = some u := by
      refine ⟨_, List.getElem?_eq_getElem ?_⟩
      simp only [List.length_append]
      omega
    obtain ⟨u, hu⟩ := this
    rw [hblk.cell hu]
    rfl
  have hrun := run_append_room_cells (P := P) w t o.type e i h1 h2 R off n cap ad m c news hn hc h1c hroom hin (fun j _ => hblk.frozen _)
  unfold Oper.wp
  simp [execOp, hop, resolve, invoke, builtin, hs, hx, hrun, Result.andThen]
  exact hK' _ _ hK
/-- .. of nothing -/
theorem wpList_append_nilblk (hg : o.guard = none) (s x : Operand) (t : TypeId) (hop : o.op = Op.call { callee := Callee.builtin Builtin.append, args := #[s, x], argTypes := #[t, t] })
    (e : TypeId) (i : TypeInfo) (h1 : P.underlying t = some (.slice e)) (h2 : P.info? e = some i)
    (R off n cap : Nat) (hs : a.eval s = .slice (some ⟨R, off, none⟩) n cap) (hx : a.eval x = .slice none 0 0) (hroom : n ≤ cap)
    (hK : wpList P ops Q rest (a.put o.dst (.slice (some ⟨R, off, none⟩) n cap)) w) :
    wpList P ops Q (o :: rest) a w := by
  refine wpList_plain hg fun K hK' => ?_
  have hrun : (Builtin.append_ #[t, t] o.type #[.slice (some ⟨R, off, none⟩) n cap, .slice none 0 0]).run P w = .ok (.slice (some ⟨R, off, none⟩) n cap) w := by
    simp [Builtin.append_, run_underlying h1, sizeOf, typeInfo, h2, Builtin.lenOf, Builtin.firstCells, hroom, storeCells, Result.andThen]
  unfold Oper.wp
  simp [execOp, hop, resolve, invoke, builtin, hs, hx, hrun, Result.andThen]
  exact hK' _ _ hK
end
end Go.Proofs.YtjkakemlhhieoaaGreatDoor

/- An array of 256 lists, each in a row of its own. -/
namespace Go.Proofs.YtjkakemlhhieoaaGreatDoor
open Go.RowKit Go.Lib

theorem row_same4 {w w' : World} {base : Nat} {e : TypeId} {size n : Nat} {v : Value} {xs : List Value} (h : w.ownsRow base e size v n xs) (hk : ∀ k, v.ownBlock = some k → w'.heap[k]? = w.heap[k]?) : w'.ownsRow base e size v n xs := by
  refine ⟨h.1, ?_⟩
  rcases h.2 with h0 | ⟨g, cap, cur, rfl, h1, h2, h3⟩
  · exact .inl h0
  · exact .inr ⟨g, cap, cur, rfl, h1, (hk g rfl).trans h2, h3⟩

section
variable {α : Type} {enc : α → List Value} {sz : Nat} {T e : TypeId}
def Piles (w : World) (Pb : Nat) (T e : TypeId) (sz : Nat) (enc : α → List Value) (ls : Nat → List α) : Prop :=
  ∃ cs : List Value, Blk w Pb T cs ∧ cs.length = 256 ∧ (∀ i v, cs[i]? = some v → w.ownsRow (Pb + 1) e sz v (ls i).length (flat enc (ls i))) ∧
    (∀ (i j : Nat) (u v : Value) (g : Nat), i ≠ j → cs[i]? = some u → cs[j]? = some v → u.ownBlock = some g → v.ownBlock ≠ some g)
theorem Piles.made {w : World} {Pb : Nat} (h : Blk w Pb T (List.replicate 256 (.slice none 0 0))) : Piles w Pb T e sz enc (fun _ => ([] : List α)) := by
  refine ⟨_, h, List.length_replicate .., fun i v hv => ?_, fun i j u v g _ hu _ hg => ?_⟩
  · obtain rfl : v = .slice none 0 0 := by
      have := List.mem_of_getElem? hv
      exact (List.mem_replicate.1 this).2
    exact World.ownsRow_nil _ _ _ _
  · obtain rfl : u = .slice none 0 0 := by
      have := List.mem_of_getElem? hu
      exact (List.mem_replicate.1 this).2
    cases hg
theorem Piles.lt {w : World} {Pb : Nat} {ls : Nat → List α} (h : Piles w Pb T e sz enc ls) : Pb < w.heap.size := by
  obtain ⟨cs, h1, _⟩ := h
  exact h1.lt
theorem Piles.other {w w' : World} {Pb R : Nat} {ls : Nat → List α} (h : Piles w Pb T e sz enc ls) (hb : Other w w' R) (hR : R < Pb) : Piles w' Pb T e sz enc ls := by
  obtain ⟨cs, h1, h2, h3, h4⟩ := h
  refine ⟨cs, (hb.block Pb h1.lt (by omega)).trans h1, h2, fun i v hv => ?_, h4⟩
  have := h3 i v hv
  exact row_same4 this (fun k hk => hb.block k (this.lt k hk).2 (by have := (this.lt k hk).1; omega))
theorem Piles.below {w w' : World} {Pb : Nat} {ls : Nat → List α} (h : Piles w Pb T e sz enc ls) (hb : Below w.heap.size w w') : Piles w' Pb T e sz enc ls := by
  obtain ⟨cs, h1, h2, h3, h4⟩ := h
  refine ⟨cs, (hb.block Pb h1.lt).trans h1, h2, fun i v hv => ?_, h4⟩
  have := h3 i v hv
  exact row_same4 this (fun k hk => hb.block k (this.lt k hk).2)
/-- one more on a pile -/
theorem Piles.put {w w1 : World} {Pb : Nat} {cs : List Value} {ls : Nat → List α} (h1 : Blk w Pb T cs) (h2 : cs.length = 256) (h3 : ∀ i v, cs[i]? = some v → w.ownsRow (Pb + 1) e sz v (ls i).length (flat enc (ls i)))
    (h4 : ∀ (i j : Nat) (u v : Value) (g : Nat), i ≠ j → cs[i]? = some u → cs[j]? = some v → u.ownBlock = some g → v.ownBlock ≠ some g) {n : Nat} {v v' : Value} (hn : cs[n]? = some v) (hg : Grew w w1 v v') {x : α}
    (hown : w1.ownsRow (Pb + 1) e sz v' ((ls n).length + 1) (flat enc (ls n) ++ enc x)) {ls' : Nat → List α} (hls : ∀ i, ls' i = if i = n then ls n ++ [x] else ls i) :
    Piles (w1.setCell ⟨Pb, n, none⟩ v') Pb T e sz enc ls' := by
  have hnl := (List.getElem?_eq_some_iff.1 hn).1
  have hPb : some Pb ≠ v.ownBlock := fun e => by have := ((h3 n v hn).lt Pb e.symm).1; omega
  have b1 : Blk w1 Pb T cs := (hg.block Pb h1.lt hPb).trans h1
  have b2 : Blk (w1.setCell ⟨Pb, n, none⟩ v') Pb T (cs.set n v') := by
    unfold Blk
    rw [heap_setCell_same w1 Pb n _ T v' b1]
    simp
  have hsame : ∀ k, Pb + 1 ≤ k → (w1.setCell ⟨Pb, n, none⟩ v').heap[k]? = w1.heap[k]? := fun k hk => heap_setCell_other _ _ _ _ (by show k ≠ Pb; omega)
  refine ⟨cs.set n v', b2, by simpa using h2, fun i u hu => ?_, fun i j u u' g hij hu hu' hug => ?_⟩
  · rw [hls i]
    by_cases hi : i = n
    · subst hi
      rw [if_pos rfl]
      obtain rfl : v' = u := by rw [List.getElem?_set_self hnl] at hu; exact Option.some.inj hu
      rw [flat_append, List.length_append]
      have hf : flat enc [x] = enc x := by simp [flat]
      rw [hf]
      exact row_same4 hown (fun k hk => hsame k (hown.lt k hk).1)
    · rw [if_neg hi]
      rw [List.getElem?_set_ne (by omega)] at hu
      have ho := h3 i u hu
      refine row_same4 ho (fun k hk => (hsame k (ho.lt k hk).1).trans (hg.block k (ho.lt k hk).2 ?_))
      intro e
      exact h4 i n u v k hi hu hn hk e.symm
  · have hfresh : ∀ i u, i ≠ n → cs[i]? = some u → ∀ g, u.ownBlock = some g → v'.ownBlock ≠ some g := by
      intro i u hi hu g hg1 e
      rcases hg.own with e1 | ⟨k, hk, e1⟩
      · exact h4 i n u v g hi hu hn hg1 (e1.symm.trans e)
      · rw [e1] at e
        cases e
        have := ((h3 i u hu).lt _ hg1).2
        omega
    by_cases hi : i = n
    · subst hi
      obtain rfl : v' = u := by rw [List.getElem?_set_self hnl] at hu; exact Option.some.inj hu
      rw [List.getElem?_set_ne (by omega)] at hu'
      intro e
      exact hfresh j u' (by omega) hu' g e hug
    · rw [List.getElem?_set_ne (by omega)] at hu
      by_cases hj : j = n
      · subst hj
        obtain rfl : v' = u' := by rw [List.getElem?_set_self hnl] at hu'; exact Option.some.inj hu'
        exact hfresh i u hi hu g hug
      · rw [List.getElem?_set_ne (by omega)] at hu'
        exact h4 i j u u' g hij hu hu' hug
end
end Go.Proofs.YtjkakemlhhieoaaGreatDoor

/- The map of letters with marks: its keys, and how it is asked. -/
namespace Go.Proofs.YtjkakemlhhieoaaGreatDoor
open Go.RowKit Go.Lib Go.Maps

theorem laidOut4 : laidOutB Tryz.prog = true := by kernel_rfl
/-- a list of pairs and what each is together, the last one first -/
abbrev PL := List ((Int × Int) × Int)
def lookP : PL → Int → Int → Int
  | [], _, _ => 0
  | x :: t, a, b => if x.1 = (a, b) then x.2 else lookP t a b
theorem zero32 (w : World) : (zeroValue 21).run Tryz.prog w = .ok (.int .i32 0) w := by kernel_rfl
end Go.Proofs.YtjkakemlhhieoaaGreatDoor
