/- split: what a character is when it is taken apart as far as it goes. -/
import Derived.Test.YtfegbfhkmdmheaaDoorKana
import Derived.Maps.AppendAt
set_option linter.unusedSimpArgs false
set_option linter.unusedVariables false
namespace Go.Proofs.YtfegbfhkmdmheaaDoor
open Go.RowKit Go.Lib

def stepZ (r : Int) : Int × Int := partsZ (singleZ r)
def splitF : Nat → Int → List Int
  | 0, r => [singleZ r]
  | f + 1, r => if (stepZ r).2 = 0 then [singleZ r] else splitF f (stepZ r).1 ++ [(stepZ r).2]
def depB : Nat → Int → Bool
  | 0, r => decide ((stepZ r).2 = 0)
  | f + 1, r => decide ((stepZ r).2 = 0) || depB f (stepZ r).1
/-- what a number is taken apart into -/
def splitZ (r : Int) : List Int := splitF 3 r
abbrev runes (l : List Int) : List Value := l.map (Value.int .i32)

theorem lookI_key {z r : Int} : ∀ {l : List (List Int × Int)}, lookI l z r ≠ z → ∃ x ∈ l, hasI x.1 r = true
  | [], h => absurd rfl h
  | x :: t, h => by
    unfold lookI at h
    cases hx : hasI x.1 r with
    | true => exact ⟨x, List.mem_cons_self .., hx⟩
    | false =>
      rw [hx] at h
      obtain ⟨y, hy, h2⟩ := lookI_key h
      exact ⟨y, List.mem_cons_of_mem _ hy, h2⟩
theorem hasI_mem : ∀ {l : List Int} {r : Int}, hasI l r = true → r ∈ l
  | [], _, h => by cases h
  | x :: t, r, h => by
    unfold hasI at h
    rcases Bool.or_eq_true_iff.1 h with h | h
    · rw [eq_of_beq h]; exact List.mem_cons_self ..
    · exact List.mem_cons_of_mem _ (hasI_mem h)
theorem dep_letters : (markT.all fun x => x.1.all fun r => depB 3 r) = true := by decide +kernel
theorem dep_kana : ((List.range 192).all fun i => depB 3 (12352 + (i : Int))) = true := by decide +kernel
theorem dep_lead : ((List.range 20).all fun i => decide (stepZ (4352 + (i : Int)) = (0, 0))) = true := by decide +kernel
theorem single_high {r : Int} (h : 8492 ≤ r) : singleZ r = r := by
  unfold singleZ
  rw [if_neg (by omega), if_neg (by omega), if_neg (by omega)]
theorem dep_all (r : Int) : depB 3 r = true := by
  by_cases h0 : (stepZ r).2 = 0
  · unfold depB; rw [decide_eq_true h0]; rfl
  · by_cases hs : r = 0x212a ∨ r = 0x2126 ∨ r = 0x212b
    · rcases hs with rfl | rfl | rfl <;> decide +kernel
    · have hq : singleZ r = r := by unfold singleZ; rw [if_neg (by omega), if_neg (by omega), if_neg (by omega)]
      have hp : stepZ r = partsZ r := by unfold stepZ; rw [hq]
      by_cases h1 : r < 192
      · exact absurd (by rw [hp]; unfold partsZ; rw [if_pos h1]) h0
      · by_cases h2 : 44032 ≤ r ∧ r < 55204
        · -- a syllable
          have hlead : ∀ k : Int, 0 ≤ k → k < 20 → stepZ (4352 + k) = (0, 0) := by
            intro k hk0 hk1
            have := List.all_eq_true.1 dep_lead k.toNat (List.mem_range.2 (by omega))
            rw [show ((k.toNat : Nat) : Int) = k by omega] at this
            exact of_decide_eq_true this
          have hopen : ∀ q : Int, 44032 ≤ q → q < 55204 → (q - 44032).tmod 28 = 0 → depB 1 q = true := by
            intro q a b hm
            have e : stepZ q = (4352 + ((q - 44032).tdiv 28).tdiv 21, 4449 + ((q - 44032).tdiv 28).tmod 21) := by
              unfold stepZ
              rw [single_high (by omega)]
              unfold partsZ
              rw [if_neg (by omega), if_pos ⟨a, b⟩]
              unfold sylZ
              rw [if_neg (fun h => h hm)]
            have hd0 := Int.tdiv_nonneg (show (0 : Int) ≤ q - 44032 by omega) (show (0 : Int) ≤ 28 by decide)
            have hd1 : (q - 44032).tdiv 28 < 399 := by rw [Int.tdiv_eq_ediv_of_nonneg (by omega)]; omega
            have hq0 := Int.tdiv_nonneg hd0 (show (0 : Int) ≤ 21 by decide)
            have hq1 : ((q - 44032).tdiv 28).tdiv 21 < 20 := by rw [Int.tdiv_eq_ediv_of_nonneg hd0]; omega
            have hl := hlead _ hq0 hq1
            unfold depB
            unfold depB
            rw [e]
            show (_ || decide ((stepZ (4352 + ((q - 44032).tdiv 28).tdiv 21)).2 = 0)) = true
            rw [hl]
            simp
          by_cases hm : (r - 44032).tmod 28 = 0
          · have := hopen r h2.1 h2.2 hm
            have h3 : depB 0 (stepZ r).1 = true := by
              unfold depB at this
              rw [decide_eq_false h0, Bool.false_or] at this
              exact this
            unfold depB
            unfold depB
            have h4 : (stepZ (stepZ r).1).2 = 0 := of_decide_eq_true h3
            rw [decide_eq_true h4]
            simp
          · have e : stepZ r = (r - (r - 44032).tmod 28, 4519 + (r - 44032).tmod 28) := by
              rw [hp]
              unfold partsZ
              rw [if_neg (by omega), if_pos h2]
              unfold sylZ
              rw [if_pos hm]
            have hm0 := Int.tmod_nonneg (28 : Int) (show (0 : Int) ≤ r - 44032 by omega)
            have hm2 := Int.tmod_add_mul_tdiv (r - 44032) 28
            have hd0 := Int.tdiv_nonneg (show (0 : Int) ≤ r - 44032 by omega) (show (0 : Int) ≤ 28 by decide)
            have ho := hopen (r - (r - 44032).tmod 28) (by omega) (by omega) (by
              rw [show r - (r - 44032).tmod 28 - 44032 = 28 * (r - 44032).tdiv 28 by omega]
              exact Int.mul_tmod_right ..)
            unfold depB
            rw [e]
            show (_ || depB 2 (r - (r - 44032).tmod 28)) = true
            have : depB 2 (r - (r - 44032).tmod 28) = true := by
              unfold depB at ho ⊢
              rcases Bool.or_eq_true_iff.1 ho with h | h
              · rw [h]; rfl
              · unfold depB
                have h4 : (stepZ (stepZ (r - (r - 44032).tmod 28)).1).2 = 0 := of_decide_eq_true h
                rw [decide_eq_true h4]
                simp
            rw [this]
            simp
        · by_cases h3 : 12352 ≤ r ∧ r < 12544
          · have := List.all_eq_true.1 dep_kana (r - 12352).toNat (List.mem_range.2 (by omega))
            rw [show 12352 + (((r - 12352).toNat : Nat) : Int) = r by omega] at this
            exact this
          · have hk : lookI markT 0 r ≠ 0 := by
              intro e
              refine h0 ?_
              rw [hp]
              unfold partsZ
              rw [if_neg h1, if_neg h2, if_neg h3]
              exact e
            obtain ⟨x, hx, hr⟩ := lookI_key hk
            exact List.all_eq_true.1 (List.all_eq_true.1 dep_letters x hx) r (hasI_mem hr)

/-- what an append does to one's own list, and to nothing else -/
structure Grew (w w' : World) (v v' : Value) : Prop where
  os : w'.os = w.os
  tape : w'.tape = w.tape
  output : w'.output = w.output
  size : w.heap.size ≤ w'.heap.size
  block : ∀ k, k < w.heap.size → some k ≠ v.ownBlock → w'.heap[k]? = w.heap[k]?
  own : v'.ownBlock = v.ownBlock ∨ ∃ k, w.heap.size ≤ k ∧ v'.ownBlock = some k
theorem Grew.trans {w w1 w2 : World} {v v1 v2 : Value} (h : Grew w w1 v v1) (k : Grew w1 w2 v1 v2) : Grew w w2 v v2 := by
  refine ⟨k.os.trans h.os, k.tape.trans h.tape, k.output.trans h.output, Nat.le_trans h.size k.size, fun b hb hn => ?_, ?_⟩
  · refine (k.block b (Nat.lt_of_lt_of_le hb h.size) ?_).trans (h.block b hb hn)
    rcases h.own with e | ⟨j, hj, e⟩
    · rw [e]; exact hn
    · rw [e]
      intro e'
      cases e'
      omega
  · rcases k.own with e | ⟨j, hj, e⟩
    · rw [e]
      rcases h.own with e' | ⟨j, hj, e'⟩
      · exact .inl e'
      · exact .inr ⟨j, hj, e'⟩
    · exact .inr ⟨j, Nat.le_trans h.size hj, e⟩
theorem Grew.of_append {w w1 w' : World} {v v' : Value} (ha : Below w.heap.size w w1) (hg : w1.grownBy w' v.ownBlock) (ho : v'.ownBlock = v.ownBlock ∨ v'.ownBlock = some w1.heap.size) : Grew w w' v v' := by
  have hb := Below.grown ha hg ha.size
  refine ⟨hg.os.trans ha.os, hg.tape.trans ha.tape, hg.output.trans ha.output, Nat.le_trans ha.size hg.size, fun k hk hn => (hg.block k (Nat.lt_of_lt_of_le hk ha.size) hn).trans (ha.block k hk), ?_⟩
  rcases ho with e | e
  · exact .inl e
  · exact .inr ⟨_, ha.size, e⟩
theorem runeN_info : (Tryd.prog.info? 21).map (fun i => (i.zero, i.size, i.bytes)) = some (some (.int .i32 0), 1, 4) := by kernel_rfl
theorem splitF_len : ∀ f r, (splitF f r).length ≤ f + 1
  | 0, _ => Nat.le_refl _
  | f + 1, r => by
    unfold splitF
    split
    · simp
    · have := splitF_len f (stepZ r).1
      simp
      omega

set_option maxRecDepth 100000 in
set_option maxHeartbeats 1000000 in
theorem split_rec : ∀ (f : Nat) (r : Int), depB f r = true → ∀ (w : World) (base : Nat) (v : Value) (n : Nat) (xs : List Value), w.ownsRow base 21 1 v n xs → base ≤ w.heap.size → n + f ≤ 1073741824 →
    Calls Tryd.prog 37 #[v, .int .i32 r] w fun e w' => ∃ v', e = .returned v' ∧ w'.ownsRow base 21 1 v' (n + (splitF f r).length) (xs ++ runes (splitF f r)) ∧ Grew w w' v v' := by
  obtain ⟨i0, hi, hz0, hz1, hz2⟩ := info_parts runeN_info
  -- where there is nothing to take apart
  have hend : ∀ (r : Int), (stepZ r).2 = 0 → ∀ (w : World) (base : Nat) (v : Value) (n : Nat) (xs : List Value), w.ownsRow base 21 1 v n xs → base ≤ w.heap.size → n ≤ 1073741824 →
      Calls Tryd.prog 37 #[v, .int .i32 r] w fun e w' => ∃ v', e = .returned v' ∧ w'.ownsRow base 21 1 v' (n + 1) (xs ++ [.int .i32 (singleZ r)]) ∧ Grew w w' v v' := by
    intro r h0 w base v n xs hown hb hn
    have HS := Lib.hid (singleN_any r w)
    have HP := Lib.hid (partsN_any (singleZ r) w (fun a b => kana_any _ a b w))
    obtain ⟨p, hp⟩ : ∃ p, partsZ (singleZ r) = p := ⟨_, rfl⟩
    have h0' : p.2 = 0 := by rw [← hp]; exact h0
    rw [hp] at HP
    obtain ⟨q, hq⟩ : ∃ q, singleZ r = q := ⟨_, rfl⟩
    rw [hq] at HP HS ⊢
    have Hown := Lib.hid hown
    clear hq hp h0 hown
    go_enter Tryd.func37, Tryd.ntmps37
    go_wp2_with fail
    refine HS.out.mono ?_
    rintro _ w1 ⟨rfl, h⟩
    obtain rfl := h.symm
    go_wp2_with fail
    refine HP.out.mono ?_
    rintro _ w1 ⟨rfl, h⟩
    obtain rfl := h.symm
    rw [h0']
    go_wp2_with (at_builtin; refine wpList_append_own_at _ rfl _ _ 36 rfl base 21 i0 _ 1 4 Tryd.underlying36 hi hz0 hz1 hz2 rfl (by decide) _ _ _ rfl (Hown.out.alloc _) ⟨w.heap.size, 0, none⟩ 1 1 [.int .i32 q] rfl rfl ?c1 ?c2 ?c3 ?c4 ?c5 ?_)
    try (case c1 => exact new_cells w [.int .i32 q] 21)
    case c2 => simp [Value.oneCell']
    case c3 => unfold maxLen; omega
    case c4 => omega
    case c5 => simp; omega
    intro v' w2 hown2 hg2 _ hb2
    have Hown2 := Lib.hid hown2
    clear hown2
    go_wp2
    go_ret
    exact ⟨v', rfl, Hown2.out, .of_append ((Below.refl _ w).alloc (Nat.le_refl _) _) hg2 (by rw [World.size_alloc]; exact hb2)⟩
  intro f
  induction f with
  | zero =>
    intro r h w base v n xs hown hb hn
    exact hend r (of_decide_eq_true h) w base v n xs hown hb (by omega)
  | succ f ih =>
    intro r h w base v n xs hown hb hn
    by_cases h0 : (stepZ r).2 = 0
    · have e : splitF (f + 1) r = [singleZ r] := by
        unfold splitF
        rw [if_pos h0]
      rw [e]
      exact hend r h0 w base v n xs hown hb (by omega)
    · have hd : depB f (stepZ r).1 = true := by
        unfold depB at h
        rw [decide_eq_false h0, Bool.false_or] at h
        exact h
      have e : splitF (f + 1) r = splitF f (stepZ r).1 ++ [(stepZ r).2] := by
        conv => lhs; unfold splitF
        rw [if_neg h0]
      have hl := splitF_len f (stepZ r).1
      have HS := Lib.hid (singleN_any r w)
      have HP := Lib.hid (partsN_any (singleZ r) w (fun a b => kana_any _ a b w))
      have hstep : partsZ (singleZ r) = stepZ r := rfl
      rw [hstep] at HP
      have HI := Lib.hid (ih (stepZ r).1 hd w base v n xs hown hb (by omega))
      rw [e]
      obtain ⟨p, hp⟩ : ∃ p, stepZ r = p := ⟨_, rfl⟩
      rw [hp] at HP HI h0 hl ⊢
      obtain ⟨l, hll⟩ : ∃ l, splitF f p.1 = l := ⟨_, rfl⟩
      rw [hll] at HI hl ⊢
      have hlen : (l ++ [p.2]).length = l.length + 1 := by simp
      have hcells : runes (l ++ [p.2]) = runes l ++ [.int .i32 p.2] := by simp [runes]
      rw [hlen, hcells]
      obtain ⟨q, hq⟩ : ∃ q, singleZ r = q := ⟨_, rfl⟩
      rw [hq] at HP HS
      obtain ⟨cs, hcs⟩ : ∃ cs, runes l = cs := ⟨_, rfl⟩
      rw [hcs] at HI ⊢
      clear hq hp hstep h e hd hown hlen hcells hll hcs ih
      go_enter Tryd.func37, Tryd.ntmps37
      go_wp2_with fail
      refine HS.out.mono ?_
      rintro _ w1 ⟨rfl, h⟩
      obtain rfl := h.symm
      go_wp2_with fail
      refine HP.out.mono ?_
      rintro _ w1 ⟨rfl, h⟩
      obtain rfl := h.symm
      go_wp2_with fail
      refine HI.out.mono ?_
      rintro _ w1 ⟨v1, rfl, hown1, hg1⟩
      have Hown1 := Lib.hid hown1
      have Hg1 := Lib.hid hg1
      have hsz := hg1.size
      clear hown1 hg1
      go_wp2_with (at_builtin; refine wpList_append_own_at _ rfl _ _ 36 rfl base 21 i0 _ 1 4 Tryd.underlying36 hi hz0 hz1 hz2 rfl (by decide) _ _ _ rfl (Hown1.out.alloc _) ⟨w1.heap.size, 0, none⟩ 1 1 [.int .i32 p.2] rfl rfl ?c1 ?c2 ?c3 ?c4 ?c5 ?_)
      try (case c1 => exact new_cells w1 [.int .i32 p.2] 21)
      case c2 => simp [Value.oneCell']
      case c3 => unfold maxLen; omega
      case c4 => omega
      case c5 => simp; omega
      intro v' w2 hown2 hg2 _ hb2
      have Hown2 := Lib.hid hown2
      clear hown2
      go_wp2
      go_ret
      refine ⟨v', rfl, ?_, Hg1.out.trans (.of_append ((Below.refl _ w1).alloc (Nat.le_refl _) _) hg2 (by rw [World.size_alloc]; exact hb2))⟩
      have := Hown2.out
      simpa [Nat.add_assoc] using this
theorem split_any (r : Int) (w : World) (base : Nat) (v : Value) (n : Nat) (xs : List Value) (hown : w.ownsRow base 21 1 v n xs) (hb : base ≤ w.heap.size) (hn : n ≤ 1073741820) :
    Calls Tryd.prog 37 #[v, .int .i32 r] w fun e w' => ∃ v', e = .returned v' ∧ w'.ownsRow base 21 1 v' (n + (splitZ r).length) (xs ++ runes (splitZ r)) ∧ Grew w w' v v' :=
  split_rec 3 r (dep_all r) w base v n xs hown hb (by omega)
end Go.Proofs.YtfegbfhkmdmheaaDoor
