/- cluster.Back: the maker; what holds between two rounds of its outer loop, and that it abides what an iterator does. -/
import Derived.Test.YthkapcnhfdpdbaaDoorBordG
import Derived.Test.YthkapcnhfdpdbaaDoorSeqBw
import Derived.Test.YthkapcnhfdpdbaaDoorCount
set_option linter.unusedSimpArgs false
set_option linter.unusedVariables false
namespace Go.Proofs.YthkapcnhfdpdbaaDoor
open Go.RowKit Go.Shelf Go.Lib
attribute [local go_sem] Oper.semAt_some

/-- what the iterator keeps of its own: all since B that is not a round's of the caller -/
structure Own (B : Nat) (U T : Bl) (W : World) : Prop where
  inn : ∀ k, U k → B ≤ k ∧ k < W.heap.size
  sub : ∀ k, T k → U k
  four : ∀ k, B ≤ k → k < B + 4 → U k
theorem Own.tc {B b : Nat} {U T T' : Bl} {A A' : World} (h : Own B U T A) (hbB : B ≤ b) (hT : InT b T A) (hbA : b ≤ A.heap.size) (hm : Moves T A A') (hg : Grow T T' A A') : Own B (fun k => U k ∨ T' k) T' A' ∧ Moves U A A' ∧ Grow U (fun k => U k ∨ T' k) A A' :=
  ⟨⟨fun k hk => by
      rcases hk with hk | hk
      · have := h.inn k hk; have := hm.size; omega
      · have := hm.size
        rcases hg.2 k hk with hk | hk
        · have := hT k hk; omega
        · omega, fun k hk => .inr hk, fun k h1 h2 => .inl (h.four k h1 h2)⟩,
    hm.mono h.sub, fun k hk => .inl hk, fun k hk => by
      rcases hk with hk | hk
      · exact .inl hk
      · exact (hg.2 k hk).imp (h.sub k) id⟩

/-- what holds when a round has been left for good -/
def RX (s : ByteArray) (B : Nat) (Jx : List (Nat × ByteArray) → Bl → World → Prop) (c : Code) (_pre : List (Nat × Nat)) (T : Bl) (W : World) : Prop :=
  c = .ret ∧ B + 4 ≤ W.heap.size ∧ ∃ q U, q <+: (pcs s).reverse ∧ Own B U T W ∧ Jx q U W
theorem RX.tc {s : ByteArray} {B : Nat} {Jx : List (Nat × ByteArray) → Bl → World → Prop} (hJx : TC B Jx) (c : Code) : TC (B + 4) (RX s B Jx c) := by
  rintro pre T T' A A' ⟨rfl, hsA, q, U, hq, h9, h10⟩ hT hm hg
  obtain ⟨o1, o2, o3⟩ := h9.tc (b := B + 4) (by omega) hT hsA hm hg
  exact ⟨rfl, Nat.le_trans hsA hm.size, q, _, hq, o1, hJx _ _ _ _ _ h10 (fun k hk => h9.inn k hk) o2 o3⟩
end Go.Proofs.YthkapcnhfdpdbaaDoor

/- cluster.Back: the places of the clusters between two borders; what holds between two rounds of its inner loops. -/
namespace Go.Proofs.YthkapcnhfdpdbaaDoor
open Go.RowKit Go.Shelf Go.Lib

/-- i clusters on from the k-th character -/
def it (s : ByteArray) (k : Nat) : Nat → Nat
  | 0 => k
  | i + 1 => clEnd s (it s k i)
theorem it_succ (s : ByteArray) (k : Nat) : ∀ i, it s k (i + 1) = it s (clEnd s k) i
  | 0 => rfl
  | i + 1 => by rw [it, it_succ s k i]; rfl
theorem it_ge (s : ByteArray) (k : Nat) : ∀ i, k ≤ it s k i
  | 0 => Nat.le_refl _
  | i + 1 => Nat.le_trans (it_ge s k i) (Nat.le_add_right _ _)
theorem bords_it (s : ByteArray) (e : Nat) (he : IsBord s e) : ∀ f k, IsBord s k → k ≤ e → e - k ≤ f →
    ∃ m, bords s f k e = (List.range m).map (it s k) ∧ it s k m = e ∧ ∀ i, i < m → it s k i < e ∧ IsBord s (it s k i) := by
  have hel := isBord_le he
  intro f
  induction f with
  | zero =>
    intro k hk h1 h2
    exact ⟨0, rfl, by show k = e; omega, fun i hi => absurd hi (Nat.not_lt_zero _)⟩
  | succ f ih =>
    intro k hk h1 h2
    rcases Nat.eq_or_lt_of_le h1 with h | h
    · subst h
      exact ⟨0, by rw [bords, if_neg (by omega)]; rfl, rfl, fun i hi => absurd hi (Nat.not_lt_zero _)⟩
    · have hb := clEnd_bounds (s := s) (i := k) (by omega)
      obtain ⟨m, h3, h4, h5⟩ := ih (clEnd s k) (hk.next k (by omega)) (isBord_lt hk he h) (by omega)
      refine ⟨m + 1, ?_, by rw [it_succ]; exact h4, fun i hi => ?_⟩
      · rw [bords, if_pos h, h3, List.range_succ_eq_map, List.map_cons, List.map_map]
        congr 1
        exact List.map_congr_left fun i _ => (it_succ s k i).symm
      · cases i with
        | zero => exact ⟨h, hk⟩
        | succ i => rw [it_succ]; exact h5 i (by omega)
/-- the clusters of what lies between two borders -/
theorem cut_it (s : ByteArray) (k e : Nat) (hk : IsBord s k) (he : IsBord s e) (hke : k < e) :
    ∃ m, 0 < m ∧ it s k m = e ∧ (∀ i, i < m → it s k i < e ∧ IsBord s (it s k i)) ∧ (pcs (s.extract (placeAt s k) (placeAt s e))).length = m ∧
      ∀ (i : Nat) (x : Nat × ByteArray), (pcs (s.extract (placeAt s k) (placeAt s e)))[i]? = some x → placeAt s k + x.1 = placeAt s (it s k i) := by
  have hel := isBord_le he
  obtain ⟨m, h1, h2, h3⟩ := bords_it s e he (e - k) k hk (by omega) (Nat.le_refl _)
  have hm : 0 < m := by
    rcases Nat.eq_zero_or_pos m with h | h
    · subst h
      have : k = e := h2
      omega
    · exact h
  have hc := cut_bords s k e hk he (by omega) (e - k) (chars (s.extract (placeAt s k) (placeAt s e))) 0 hk (by omega) (by omega) (by rw [cut_chars s k e (by omega) hel]; omega)
  rw [Nat.add_zero, h1, List.map_map] at hc
  have hlen : (pcs (s.extract (placeAt s k) (placeAt s e))).length = m := by
    have := congrArg List.length hc
    simpa [pcs] using this
  refine ⟨m, hm, h2, h3, hlen, fun i x hx => ?_⟩
  have hi : i < m := by
    rw [← hlen]
    exact (List.getElem?_eq_some_iff.1 hx).1
  have hg := congrArg (fun l => l[i]?) hc
  simp only [List.getElem?_map, List.getElem?_range hi] at hg
  unfold pcs at hx
  rw [hx] at hg
  simp only [Option.map_some, Function.comp] at hg
  have hg := Option.some.inj hg
  have := placeAt_mono s (it_ge s k i)
  omega
abbrev ats (s : ByteArray) (k n : Nat) : List Nat := (List.range n).map fun i => placeAt s (it s k i)
abbrev atCells (s : ByteArray) (k n : Nat) : List Value := (ats s k n).map fun x : Nat => Value.int .i64 (x : Int)
theorem atCells_succ (s : ByteArray) (k n : Nat) : atCells s k (n + 1) = atCells s k n ++ [Value.int .i64 ((placeAt s (it s k n) : Nat) : Int)] := by simp [atCells, ats, List.range_succ]
theorem idx_get (xs : List Nat) (i : Nat) : (idx xs)[i]? = xs[i]?.map fun x => (i, x) := by
  unfold idx
  rw [List.getElem?_map, List.getElem?_zipIdx]
  cases xs[i]? <;> simp
/-- the clusters from a border on are the last ones -/
theorem pcs_suffix (s : ByteArray) (k : Nat) (hk : IsBord s k) : (pcsF s (chars s) k).reverse <+: (pcs s).reverse := by
  have := bords_pcs s k hk k 0 .zero (Nat.zero_le _) (Nat.le_refl _)
  unfold pcs
  rw [this, List.reverse_append]
  exact ⟨_, rfl⟩

/-- between two rounds of the loop over slices.Backward -/
def I7 (s : ByteArray) (j m B b1 b7 g : Nat) (N₀ T1 U : Bl) (J : List (Nat × ByteArray) → Bl → World → Prop) (W1 W7 : World) (pre : List (Nat × Nat)) (T : Bl) (W : World) : Prop :=
  KeepN (fun k => (N₀ k ∧ k < B) ∨ k = B + 1 + 1 + 1) T1 W1 W ∧ (∀ k, k = B ∨ k = B + 1 + 1 ∨ k = g → W.heap[k]? = W7.heap[k]?) ∧ pre.length ≤ m ∧
    Boxed W (B + 1) 3 (.int .i64 ((placeAt s (it s j (m - pre.length)) : Nat) : Int)) ∧ b7 ≤ W.heap.size ∧ J (pcsF s (chars s) (it s j (m - pre.length))).reverse (fun k => U k ∨ (b1 ≤ k ∧ k < b7) ∨ T k) W
def Ix7 (s : ByteArray) (B b1 b7 : Nat) (N₀ T1 U : Bl) (Jx : List (Nat × ByteArray) → Bl → World → Prop) (W1 : World) (c : Code) (_pre : List (Nat × Nat)) (T : Bl) (W : World) : Prop :=
  c = .ret ∧ KeepN (fun k => (N₀ k ∧ k < B) ∨ k = B + 1 + 1 + 1) T1 W1 W ∧ b7 ≤ W.heap.size ∧ ∃ q, q <+: (pcs s).reverse ∧ Jx q (fun k => U k ∨ (b1 ≤ k ∧ k < b7) ∨ T k) W
section tc7
variable {s : ByteArray} {j m B b1 b7 g : Nat} {N₀ T1 U : Bl} {J : List (Nat × ByteArray) → Bl → World → Prop} {W1 W7 : World} (hJ : TC B J) (hU : ∀ k, U k → B ≤ k ∧ k < b1) (hb1 : W1.heap.size = b1) (h17 : b1 ≤ b7) (hB : B + 4 ≤ b1) (hg : g < b7)
include hJ hU hb1 h17 hB
omit hb1 in
theorem all7 {T T' : Bl} {A A' : World} (hT : InT b7 T A) (hA : b7 ≤ A.heap.size) (hm : Moves T A A') (hgr : Grow T T' A A') (q : List (Nat × ByteArray)) (h : J q (fun k => U k ∨ (b1 ≤ k ∧ k < b7) ∨ T k) A) : J q (fun k => U k ∨ (b1 ≤ k ∧ k < b7) ∨ T' k) A' := by
  refine hJ _ _ _ _ _ h (fun k hk => ?_) (hm.mono fun k hk => .inr (.inr hk)) ⟨fun k hk => hk.imp id (.imp id (hgr.1 k)), fun k hk => ?_⟩
  · rcases hk with hk | hk | hk
    · have := hU k hk; omega
    · omega
    · have := hT k hk; omega
  · rcases hk with hk | hk | hk
    · exact .inl (.inl hk)
    · exact .inl (.inr (.inl hk))
    · exact (hgr.2 k hk).imp (fun h => .inr (.inr h)) id
omit hJ hU hB in
theorem keep7 {T : Bl} {A A' : World} (hT : InT b7 T A) (hm : Moves T A A') (h : KeepN (fun k => (N₀ k ∧ k < B) ∨ k = B + 1 + 1 + 1) T1 W1 A) : KeepN (fun k => (N₀ k ∧ k < B) ∨ k = B + 1 + 1 + 1) T1 W1 A' :=
  ⟨Nat.le_trans h.size hm.size, fun k hk ho => (hm.block k (Nat.lt_of_lt_of_le hk h.size) (fun e => by have := (hT _ e).1; omega)).trans (h.block k hk ho)⟩
include hg
theorem I7.tc : TC b7 (I7 s j m B b1 b7 g N₀ T1 U J W1 W7) := by
  rintro pre T T' A A' ⟨h1, h2, h3, h4, h5, h6⟩ hT hm hgr
  have hlow : ∀ k, k < b7 → A'.heap[k]? = A.heap[k]? := fun k hk => hm.block k (by omega) (fun e => by have := (hT _ e).1; omega)
  exact ⟨keep7 hb1 h17 hT hm h1, fun k hk => (hlow k (by omega)).trans (h2 k hk), h3, (hlow _ (by omega)).trans h4, Nat.le_trans h5 hm.size, all7 hJ hU h17 hB hT h5 hm hgr _ h6⟩
omit hg in
theorem Ix7.tc (c : Code) : TC b7 (Ix7 s B b1 b7 N₀ T1 U J W1 c) := by
  rintro pre T T' A A' ⟨rfl, h1, h2, q, h3, h4⟩ hT hm hgr
  exact ⟨rfl, keep7 hb1 h17 hT hm h1, Nat.le_trans h2 hm.size, q, h3, all7 hJ hU h17 hB hT h2 hm hgr _ h4⟩
end tc7
end Go.Proofs.YthkapcnhfdpdbaaDoor
