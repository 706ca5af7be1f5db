/- The clusters of a text, one behind the other; pure; and Next of a rest. -/
import Derived.Test.YthkapcnhfdpdbaaDoorNext
set_option linter.unusedSimpArgs false
set_option linter.unusedVariables false
namespace Go.Proofs.YthkapcnhfdpdbaaDoor
open Go.RowKit Go.Lib

def roleD (ds : List (Nat × Nat)) (k : Nat) : Nat := match ds[k]? with
  | some d => roleN d.1 d.2
  | none => 0
def goesD (ds : List (Nat × Nat)) (k : Nat) : Bool := roleD ds k == 8 || roleD ds k == 16 || (k == 1 && roleD ds 0 == 32 && roleD ds k == 32) || (roleD ds (k - 1) == 16 && roleD ds k == 64 && roleD ds 0 == 64) || syl (roleD ds (k - 1)) (roleD ds k)
def runD (ds : List (Nat × Nat)) : Nat → Nat → Nat
  | 0, n => n
  | f + 1, n => if n < ds.length ∧ n < 32 ∧ goesD ds n = true then runD ds f (n + 1) else n
/-- how many characters the first cluster of a list has -/
def clD (ds : List (Nat × Nat)) : Nat :=
  if ds.length = 0 then 0 else if roleD ds 0 = 1 ∨ roleD ds 0 = 4 then 1 else if roleD ds 0 = 2 then (if roleD ds 1 = 4 then 2 else 1) else runD ds 32 1
theorem runD_runs (s : ByteArray) : ∀ (f n : Nat), Runs s n → 33 ≤ f + n → Runs s (runD (segs s.data.toList) f n) ∧ Stops s (runD (segs s.data.toList) f n)
  | 0, n, h, hf => by have := h.most; omega
  | f + 1, n, h, hf => by
    unfold runD
    by_cases hc : n < (segs s.data.toList).length ∧ n < 32 ∧ goesD (segs s.data.toList) n = true
    · rw [if_pos hc]
      exact runD_runs s f (n + 1) (h.next hc.1 hc.2.1 hc.2.2) (by omega)
    · rw [if_neg hc]
      refine ⟨h, ?_⟩
      by_cases h1 : n = chars s
      · exact .inl h1
      · by_cases h2 : n = 32
        · exact .inr (.inl h2)
        · refine .inr (.inr ?_)
          have hle := h.le
          have hmost := h.most
          have : ¬ goesD (segs s.data.toList) n = true := fun hg => hc ⟨Nat.lt_of_le_of_ne hle h1, by omega, hg⟩
          show goesD (segs s.data.toList) n = false
          simpa using this
theorem first_clD {s : ByteArray} {k : Nat} (h : First s k) : k = clD (segs s.data.toList) := by
  have hR : ∀ j, roleD (segs s.data.toList) j = roleAt s j := fun j => rfl
  have hlen : ∀ r, roleAt s 0 = r → r ≠ 0 → (segs s.data.toList).length ≠ 0 := fun r h hr e => hr (by rw [← h]; exact roleAt_none (Nat.le_of_eq e))
  unfold clD
  simp only [hR]
  cases h with
  | none h => rw [if_pos (show (segs s.data.toList).length = 0 from h)]
  | alone h => rw [if_neg (by rcases h with h | h; exact hlen 1 h (by decide); exact hlen 4 h (by decide)), if_pos h]
  | line h h1 => rw [if_neg (hlen 2 h (by decide)), if_neg (by rw [h]; decide), if_pos h, if_pos h1]
  | cr h h1 => rw [if_neg (hlen 2 h (by decide)), if_neg (by rw [h]; decide), if_pos h, if_neg h1]
  | run n h1 h2 h4 hr hs =>
    have hp := hr.pos
    have hl := hr.le
    have hc : 1 ≤ chars s := by omega
    rw [if_neg (show ¬ (segs s.data.toList).length = 0 from fun e => by have : chars s = 0 := e; omega), if_neg (by intro h; rcases h with h | h; exact h1 h; exact h4 h), if_neg h2]
    obtain ⟨a, b⟩ := runD_runs s 32 1 (runs_one hc) (by omega)
    exact runs_unique hr hs a b
theorem runD_bounds (ds : List (Nat × Nat)) : ∀ (f n : Nat), n ≤ ds.length → n ≤ 32 → n ≤ runD ds f n ∧ runD ds f n ≤ ds.length ∧ runD ds f n ≤ 32
  | 0, n, h, h2 => ⟨Nat.le_refl _, h, h2⟩
  | f + 1, n, h, h2 => by
    unfold runD
    by_cases hc : n < ds.length ∧ n < 32 ∧ goesD ds n = true
    · rw [if_pos hc]
      have := runD_bounds ds f (n + 1) (by omega) (by omega)
      omega
    · rw [if_neg hc]
      exact ⟨Nat.le_refl _, h, h2⟩
theorem roleD_none {ds : List (Nat × Nat)} {k : Nat} (h : ds.length ≤ k) : roleD ds k = 0 := by
  unfold roleD
  rw [List.getElem?_eq_none h]
theorem clD_bounds {ds : List (Nat × Nat)} (h : 0 < ds.length) : 1 ≤ clD ds ∧ clD ds ≤ ds.length ∧ clD ds ≤ 32 := by
  unfold clD
  rw [if_neg (by omega)]
  by_cases h1 : roleD ds 0 = 1 ∨ roleD ds 0 = 4
  · rw [if_pos h1]; omega
  rw [if_neg h1]
  by_cases h2 : roleD ds 0 = 2
  · rw [if_pos h2]
    by_cases h3 : roleD ds 1 = 4
    · rw [if_pos h3]
      have : 1 < ds.length := by
        rcases Nat.lt_or_ge 1 ds.length with h' | h'
        · exact h'
        · rw [roleD_none h'] at h3; cases h3
      omega
    · rw [if_neg h3]; omega
  rw [if_neg h2]
  have := runD_bounds ds 32 1 h (by omega)
  omega
theorem segs_rest : ∀ (l : List UInt8) (i : Nat), i ≤ (segs l).length → segs (l.drop (total ((segs l).take i))) = (segs l).drop i := walk_ind
  (p := fun l => ∀ i, i ≤ (segs l).length → segs (l.drop (total ((segs l).take i))) = (segs l).drop i)
  (fun i h => by simp [segs_nil, total]) fun l hl ih i h => by
    cases i with
    | zero => simp [total]
    | succ i =>
      rw [segs_cons l hl] at h ⊢
      have := ih i (by simpa using h)
      have e : total ((dec l :: segs (l.drop (dec l).2)).take (i + 1)) = (dec l).2 + total ((segs (l.drop (dec l).2)).take i) := by simp [total]
      rw [e, List.drop_succ_cons, ← List.drop_drop, this]
/-- where the cluster ends that begins at the i-th character -/
def clEnd (s : ByteArray) (i : Nat) : Nat := i + clD ((segs s.data.toList).drop i)
theorem clEnd_bounds {s : ByteArray} {i : Nat} (h : i < chars s) : i < clEnd s i ∧ clEnd s i ≤ chars s := by
  have hl : ((segs s.data.toList).drop i).length = chars s - i := by rw [List.length_drop]; rfl
  have := clD_bounds (ds := (segs s.data.toList).drop i) (by omega)
  unfold clEnd
  omega
theorem placeAt_add (s : ByteArray) (i c : Nat) : placeAt s (i + c) = placeAt s i + total (((segs s.data.toList).drop i).take c) := by
  unfold placeAt
  rw [List.take_add, total_append]
theorem cnext_rest (s : ByteArray) (i : Nat) (w : World) (hi : i ≤ chars s) (hT : Utf8Tabs 0 1 w) (hm : s.size ≤ 140737488351232) :
    Calls Tryd.prog 36 #[.string (s.extract (placeAt s i) s.size)] w fun e w' => e = .returned (.int .i64 ((placeAt s (clEnd s i) - placeAt s i : Nat) : Int)) ∧ Below w.heap.size w w' := by
  refine (cnext_any (s.extract (placeAt s i) s.size) w hT (by simp; omega)).mono ?_
  rintro e w' ⟨k, hk, rfl, hb⟩
  refine ⟨?_, hb⟩
  have hk := first_clD hk
  rw [drop_list, show s.data.toList.drop (placeAt s i) = s.data.toList.drop (total ((segs s.data.toList).take i)) from rfl, segs_rest _ _ hi] at hk
  have : placeAt (s.extract (placeAt s i) s.size) k = placeAt s (clEnd s i) - placeAt s i := by
    unfold clEnd
    rw [← hk, placeAt_add, Nat.add_sub_cancel_left]
    unfold placeAt
    rw [drop_list, segs_rest _ _ hi]
  rw [this]
theorem placeAt_mono (s : ByteArray) {i j : Nat} (h : i ≤ j) : placeAt s i ≤ placeAt s j := by
  obtain ⟨c, rfl⟩ := Nat.exists_eq_add_of_le h
  rw [placeAt_add]
  omega
theorem placeAt_lt (s : ByteArray) {i j : Nat} (h : i < j) (hj : j ≤ chars s) : placeAt s i < placeAt s j := by
  obtain ⟨_, h2, h3, _⟩ := nxt_at (s := s) (k := i) (by omega)
  have := placeAt_mono s (show i + 1 ≤ j from h)
  omega
/-- the clusters from the i-th character on: where each begins, and its text -/
def pcsF (s : ByteArray) : Nat → Nat → List (Nat × ByteArray)
  | 0, _ => []
  | f + 1, i => if i < chars s then (placeAt s i, s.extract (placeAt s i) (placeAt s (clEnd s i))) :: pcsF s f (clEnd s i) else []
def pcs (s : ByteArray) : List (Nat × ByteArray) := pcsF s (chars s) 0
theorem pcsF_end (s : ByteArray) (f i : Nat) (h : chars s ≤ i) : pcsF s f i = [] := by
  cases f with
  | zero => rfl
  | succ f => unfold pcsF; rw [if_neg (by omega)]
theorem pcsF_fuel (s : ByteArray) : ∀ (f g i : Nat), chars s - i ≤ f → chars s - i ≤ g → pcsF s f i = pcsF s g i
  | 0, g, i, hf, _ => by rw [pcsF_end s 0 i (by omega), pcsF_end s g i (by omega)]
  | f + 1, 0, i, _, hg => by rw [pcsF_end s 0 i (by omega), pcsF_end s (f + 1) i (by omega)]
  | f + 1, g + 1, i, hf, hg => by
    unfold pcsF
    by_cases h : i < chars s
    · have := (clEnd_bounds h).1
      rw [if_pos h, if_pos h, pcsF_fuel s f g _ (by omega) (by omega)]
    · rw [if_neg h, if_neg h]
theorem pcsF_step (s : ByteArray) (i : Nat) (h : i < chars s) : pcsF s (chars s) i = (placeAt s i, s.extract (placeAt s i) (placeAt s (clEnd s i))) :: pcsF s (chars s) (clEnd s i) := by
  have := (clEnd_bounds h).1
  rw [pcsF_fuel s (chars s) (chars s - 1 + 1) i (by omega) (by omega)]
  rw [show pcsF s (chars s - 1 + 1) i = (placeAt s i, s.extract (placeAt s i) (placeAt s (clEnd s i))) :: pcsF s (chars s - 1) (clEnd s i) by rw [pcsF, if_pos h]]
  rw [pcsF_fuel s (chars s - 1) (chars s) _ (by omega) (by omega)]
end Go.Proofs.YthkapcnhfdpdbaaDoor
