/- The law's own helper that holds two lists of clusters against each other: where they are the same. -/
import Derived.Test.YthkapcnhfdpdbaaDoorPcsC
import Derived.BigQuiet
import Derived.Deep.QuietTactic
set_option linter.unusedSimpArgs false
set_option linter.unusedVariables false
namespace Go.Proofs.YthkapcnhfdpdbaaDoor
open Go.RowKit Go.Lib

theorem pcCells_at : ∀ (L : List (Nat × ByteArray)) (i : Nat) (x : Nat × ByteArray), L[i]? = some x → (pcCells L)[i * 2]? = some (Value.int .i64 (x.1 : Int)) ∧ (pcCells L)[i * 2 + 1]? = some (Value.string x.2)
  | [], i, x, h => by simp at h
  | y :: L, 0, x, h => by
    obtain rfl : y = x := by simpa using h
    exact ⟨rfl, rfl⟩
  | y :: L, i + 1, x, h => by
    have := pcCells_at L i x (by simpa using h)
    rw [show (i + 1) * 2 = i * 2 + 2 by omega, show i * 2 + 2 + 1 = i * 2 + 1 + 2 by omega]
    exact this
theorem pcCells_len (L : List (Nat × ByteArray)) : (pcCells L).length = L.length * 2 := by
  induction L with
  | nil => rfl
  | cons x L ih => simp only [pcCells, List.flatMap_cons, List.length_append, List.length_cons, List.length_nil] at ih ⊢; omega
theorem add_next (a : Addr) (n : Nat) : a.add (n + 1) = ⟨(a.add n).block, (a.add n).off + 1, none⟩ := by
  unfold Addr.add
  by_cases hn : n = 0
  · subst hn
    simp
  · simp [hn, Nat.add_assoc]
/-- a list of clusters, read -/
def RdP (w : World) (B : Nat) (A : Option Addr) (L : List (Nat × ByteArray)) : Prop := Rd w B 2 A L.length (pcCells L)
theorem RdP.at_ {w : World} {B : Nat} {A : Option Addr} {L : List (Nat × ByteArray)} (h : RdP w B A L) {i : Nat} {x : Nat × ByteArray} (hx : L[i]? = some x) :
    ∃ a, A = some a ∧ a.block < B ∧ w.cell? (a.add (i * 2)) = some (Value.int .i64 (x.1 : Int)) ∧ w.cell? (a.add (i * 2 + 1)) = some (Value.string x.2) := by
  have hi := (List.getElem?_eq_some_iff.1 hx).1
  obtain ⟨a, e, hb, hc⟩ := Rd.addr h (by omega)
  obtain ⟨h1, h2⟩ := pcCells_at L i x hx
  exact ⟨a, e, hb, hc _ _ h1, hc _ _ h2⟩
theorem RdP.below {w w' : World} {B : Nat} {A : Option Addr} {L : List (Nat × ByteArray)} (h : RdP w B A L) (hb : Below B w w') : RdP w' B A L := Rd.below h hb

end Go.Proofs.YthkapcnhfdpdbaaDoor

/- The law's own helper that holds a text's clusters against a list of texts: where they are those. And what holds of all clusters of a text. -/
namespace Go.Proofs.YthkapcnhfdpdbaaDoor
open Go.RowKit Go.Lib

def sumB (L : List (Nat × ByteArray)) : Nat := (L.map fun x => x.2.size).sum
theorem sumB_snoc (L : List (Nat × ByteArray)) (x : Nat × ByteArray) : sumB (L ++ [x]) = sumB L + x.2.size := by simp [sumB]
theorem sumB_cons (L : List (Nat × ByteArray)) (x : Nat × ByteArray) : sumB (x :: L) = x.2.size + sumB L := by simp [sumB]
theorem pc_size (s : ByteArray) (j : Nat) : (s.extract (placeAt s j) (placeAt s (clEnd s j))).size = placeAt s (clEnd s j) - placeAt s j := by
  have := placeAt_le s (clEnd s j)
  simp
  omega
/-- each cluster begins where those ahead of it end -/
theorem pcsF_chain (s : ByteArray) : ∀ (f k i : Nat) (x : Nat × ByteArray), (pcsF s f k)[i]? = some x → x.1 = placeAt s k + sumB ((pcsF s f k).take i) ∧ 0 < x.2.size ∧ x.1 + x.2.size ≤ s.size
  | 0, k, i, x, h => by simp [pcsF] at h
  | f + 1, k, i, x, h => by
    unfold pcsF at h ⊢
    by_cases hk : k < chars s
    · rw [if_pos hk] at h ⊢
      have hb := clEnd_bounds hk
      have hlt := placeAt_lt s hb.1 hb.2
      have hle := placeAt_le s (clEnd s k)
      have hsz := pc_size s k
      cases i with
      | zero =>
        obtain rfl := Option.some.inj h
        simp only [List.take_zero, sumB, List.map_nil, List.sum_nil]
        rw [hsz]
        omega
      | succ i =>
        obtain ⟨h1, h2, h3⟩ := pcsF_chain s f (clEnd s k) i x (by simpa using h)
        rw [List.take_succ_cons, sumB_cons, hsz]
        omega
    · rw [if_neg hk] at h
      simp at h
theorem pcs_chain (s : ByteArray) (i : Nat) (x : Nat × ByteArray) (h : (pcs s)[i]? = some x) : x.1 = sumB ((pcs s).take i) ∧ 0 < x.2.size ∧ x.1 + x.2.size ≤ s.size := by
  have := pcsF_chain s _ _ i x h
  rw [placeAt_zero, Nat.zero_add] at this
  exact this
theorem take_snoc {α : Type} (L : List α) (i : Nat) (x : α) (h : L[i]? = some x) : L.take (i + 1) = L.take i ++ [x] := by
  obtain ⟨hi, rfl⟩ := List.getElem?_eq_some_iff.1 h
  exact List.take_succ_eq_append_getElem hi
theorem strs_at (ws : List ByteArray) (i : Nat) (x : ByteArray) (h : ws[i]? = some x) : (ws.map Value.string)[i]? = some (Value.string x) := by simp [h]

end Go.Proofs.YthkapcnhfdpdbaaDoor

/- The clusters of the two parts of a text that is cut at a border; pure. -/
namespace Go.Proofs.YthkapcnhfdpdbaaDoor
open Go.RowKit Go.Lib

theorem cut_full (s : ByteArray) (k e : Nat) (hk : IsBord s k) (he : IsBord s e) (hke : k ≤ e) : ∀ f g i, IsBord s (k + i) → k + i ≤ e → e - (k + i) ≤ f → e - (k + i) ≤ g →
    pcsF (s.extract (placeAt s k) (placeAt s e)) g i = (bords s f (k + i) e).map fun j => (placeAt s j - placeAt s k, s.extract (placeAt s j) (placeAt s (clEnd s j))) := by
  have hel := isBord_le he
  have hch := cut_chars s k e hke hel
  intro f
  induction f with
  | zero =>
    intro g i hi h1 h2 h3
    cases g with
    | zero => rfl
    | succ g =>
      unfold pcsF
      rw [if_neg (by omega)]
      rfl
  | succ f ih =>
    intro g i hi h1 h2 h3
    cases g with
    | zero =>
      rw [bords, if_neg (by omega)]
      rfl
    | succ g =>
      unfold pcsF
      by_cases h : k + i < e
      · have hb := clEnd_bounds (s := s) (i := k + i) (by omega)
        have hle := isBord_lt hi he h
        have hce := cut_end s k e hke hel i (by omega) hle
        rw [if_pos (by omega), bords, if_pos h, List.map_cons, cut_place s k e hke hel i (by omega), cut_place s k e hke hel _ (show clEnd (s.extract (placeAt s k) (placeAt s e)) i ≤ e - k by omega), hce]
        have := ih g (clEnd (s.extract (placeAt s k) (placeAt s e)) i) (by rw [hce]; exact hi.next _ (by omega)) (by omega) (by omega) (by omega)
        rw [this, hce]
        congr 2
        have m1 := placeAt_mono s (show k ≤ k + i by omega)
        have m2 := placeAt_mono s hle
        have m3 := placeAt_mono s (Nat.le_of_lt hb.1)
        rw [ByteArray.extract_extract]
        congr 1 <;> omega
      · rw [if_neg (by omega), bords, if_neg h]
        rfl
/-- the n-th border: what stands ahead of it, and behind -/
theorem split_at (s : ByteArray) : ∀ n, n ≤ (pcs s).length → ∃ k, IsBord s k ∧ (pcs s).drop n = pcsF s (chars s) k
  | 0, _ => ⟨0, .zero, rfl⟩
  | n + 1, h => by
    obtain ⟨k, hk, hd⟩ := split_at s n (by omega)
    have hne : (pcs s).drop n ≠ [] := by
      intro e
      have := congrArg List.length e
      simp at this
      omega
    have hkc : k < chars s := by
      rcases Nat.lt_or_ge k (chars s) with h | h
      · exact h
      · rw [hd, pcsF_end s _ _ h] at hne
        exact absurd rfl hne
    refine ⟨clEnd s k, hk.next k hkc, ?_⟩
    rw [← List.drop_drop, hd, pcsF_step s k hkc]
    rfl
theorem take_cut (s : ByteArray) (n k : Nat) (hn : n ≤ (pcs s).length) (hk : IsBord s k) (hd : (pcs s).drop n = pcsF s (chars s) k) : pcs (s.extract 0 (placeAt s k)) = (pcs s).take n := by
  have h1 := bords_pcs s k hk k 0 .zero (Nat.zero_le _) (Nat.le_refl _)
  have h2 : pcs s = (pcs s).take n ++ pcsF s (chars s) k := by rw [← hd, List.take_append_drop]
  have h3 : (pcs s).take n = (bords s k 0 k).map (pc s) := List.append_cancel_right (h2.symm.trans h1)
  rw [h3]
  have h4 := cut_full s 0 k .zero hk (Nat.zero_le _) k (chars (s.extract (placeAt s 0) (placeAt s k))) 0 .zero (Nat.zero_le _) (by omega) (by rw [cut_chars s 0 k (Nat.zero_le _) (isBord_le hk)]; omega)
  rw [placeAt_zero] at h4
  unfold pcs
  rw [h4]
  rfl
theorem drop_cut (s : ByteArray) (k : Nat) (hk : IsBord s k) : (pcs (s.extract (placeAt s k) s.size)).length = (pcsF s (chars s) k).length ∧
    ∀ (i : Nat) (x y : Nat × ByteArray), (pcsF s (chars s) k)[i]? = some x → (pcs (s.extract (placeAt s k) s.size))[i]? = some y → x.2 = y.2 ∧ x.1 = y.1 + placeAt s k := by
  have hkl := isBord_le hk
  have h1 := bords_pcs s (chars s) (isBord_all s) (chars s - k) k hk hkl (Nat.le_refl _)
  rw [pcsF_end s _ (chars s) (Nat.le_refl _), List.append_nil] at h1
  have h4 := cut_full s k (chars s) hk (isBord_all s) hkl (chars s - k) (chars (s.extract (placeAt s k) (placeAt s (chars s)))) 0 hk hkl (Nat.le_refl _) (by rw [cut_chars s k (chars s) hkl (Nat.le_refl _)]; omega)
  rw [placeAt_all] at h4
  have h5 : pcs (s.extract (placeAt s k) s.size) = (bords s (chars s - k) k (chars s)).map fun j => (placeAt s j - placeAt s k, s.extract (placeAt s j) (placeAt s (clEnd s j))) := h4
  obtain ⟨m, hm, _, hmi⟩ := bords_it s (chars s) (isBord_all s) (chars s - k) k hk hkl (Nat.le_refl _)
  rw [h1, h5]
  refine ⟨by simp, fun i x y hx hy => ?_⟩
  rw [hm] at hx hy
  rw [List.getElem?_map] at hx hy
  cases hj : ((List.range m).map (it s k))[i]? with
  | none => rw [hj] at hx; cases hx
  | some j =>
    rw [hj] at hx hy
    obtain rfl := Option.some.inj hx
    obtain rfl := Option.some.inj hy
    refine ⟨rfl, ?_⟩
    have hi : i < m := by
      have := (List.getElem?_eq_some_iff.1 hj).1
      simpa using this
    rw [List.getElem?_map, List.getElem?_range hi] at hj
    have hj := Option.some.inj hj
    have := placeAt_mono s (it_ge s k i)
    rw [← hj]
    show placeAt s (it s k i) = placeAt s (it s k i) - placeAt s k + placeAt s k
    omega
theorem drop_at (s : ByteArray) (n k : Nat) (hd : (pcs s).drop n = pcsF s (chars s) k) (hn : n < (pcs s).length) : k < chars s ∧ (pcs s)[n]? = some (pc s k) := by
  have hkc : k < chars s := by
    rcases Nat.lt_or_ge k (chars s) with h | h
    · exact h
    · rw [pcsF_end s _ _ h] at hd
      have := congrArg List.length hd
      simp at this
      omega
  refine ⟨hkc, ?_⟩
  have h1 : ((pcs s).drop n)[0]? = some (pc s k) := by rw [hd, pcsF_step s k hkc]; rfl
  rw [List.getElem?_drop] at h1
  exact h1
theorem drop_none (s : ByteArray) (k : Nat) (hk : IsBord s k) (hd : (pcs s).drop (pcs s).length = pcsF s (chars s) k) : k = chars s := by
  rcases Nat.lt_or_ge k (chars s) with h | h
  · rw [pcsF_step s k h, List.drop_length] at hd
    cases hd
  · have := isBord_le hk
    omega
theorem pcs_sum (s : ByteArray) : sumB (pcs s) = s.size := by
  have key : ∀ f k, chars s - k ≤ f → k ≤ chars s → placeAt s k + sumB (pcsF s (chars s) k) = s.size := by
    intro f
    induction f with
    | zero =>
      intro k h1 h2
      rw [show k = chars s by omega, pcsF_end s _ _ (Nat.le_refl _), placeAt_all]
      rfl
    | succ f ih =>
      intro k h1 h2
      rcases Nat.lt_or_ge k (chars s) with h | h
      · have hb := clEnd_bounds h
        have := ih (clEnd s k) (by omega) hb.2
        have hlt := placeAt_lt s hb.1 hb.2
        rw [pcsF_step s k h, sumB_cons, pc_size]
        omega
      · rw [show k = chars s by omega, pcsF_end s _ _ (Nat.le_refl _), placeAt_all]
        rfl
  have := key (chars s) 0 (by omega) (Nat.zero_le _)
  rw [placeAt_zero, Nat.zero_add] at this
  exact this
theorem back_get (L : List (Nat × ByteArray)) (i : Nat) (x : Nat × ByteArray) (h : L[i]? = some x) : L.reverse[L.length - 1 - i]? = some x := by
  have hi := (List.getElem?_eq_some_iff.1 h).1
  rw [List.getElem?_reverse (by omega), show L.length - 1 - (L.length - 1 - i) = i by omega]
  exact h
theorem pcCells_append (L M : List (Nat × ByteArray)) : pcCells (L ++ M) = pcCells L ++ pcCells M := by simp [pcCells]
theorem RdP.take {w : World} {B : Nat} {A : Option Addr} {L : List (Nat × ByteArray)} (h : RdP w B A L) (n : Nat) : RdP w B A (L.take n) := by
  refine ⟨pcCells_len _, ?_⟩
  rcases h.2 with h0 | ⟨a, e, hb, hc⟩
  · exact .inl (by rw [List.length_take]; omega)
  · refine .inr ⟨a, e, hb, fun j u hu => hc j u ?_⟩
    have : pcCells L = pcCells (L.take n) ++ pcCells (L.drop n) := by rw [← pcCells_append, List.take_append_drop]
    rw [this, List.getElem?_append_left (List.getElem?_eq_some_iff.1 hu).1]
    exact hu
theorem RdP.drop {w : World} {B : Nat} {a : Addr} {L : List (Nat × ByteArray)} (h : RdP w B (some a) L) (n : Nat) (hn : n ≤ L.length) : RdP w B (some (a.add (n * 2))) (L.drop n) := by
  refine ⟨pcCells_len _, ?_⟩
  rcases h.2 with h0 | ⟨a', e, hb, hc⟩
  · exact .inl (by rw [List.length_drop]; omega)
  · obtain rfl := Option.some.inj e
    refine .inr ⟨_, rfl, by rw [add_block]; exact hb, fun j u hu => ?_⟩
    rw [add_sum]
    refine hc _ u ?_
    have h1 : pcCells L = pcCells (L.take n) ++ pcCells (L.drop n) := by rw [← pcCells_append, List.take_append_drop]
    have h2 : (pcCells (L.take n)).length = n * 2 := by rw [pcCells_len, List.length_take, Nat.min_eq_left hn]
    rw [h1, List.getElem?_append_right (by omega), h2, Nat.add_sub_cancel_left]
    exact hu
theorem RdP.nil (w : World) (B : Nat) (A : Option Addr) : RdP w B A [] := Rd.nil w B 2 A
theorem take_get {α : Type} {L : List α} {n i : Nat} {x : α} (h : (L.take n)[i]? = some x) : L[i]? = some x := by
  rw [List.getElem?_take] at h
  split at h
  · exact h
  · cases h
end Go.Proofs.YthkapcnhfdpdbaaDoor
