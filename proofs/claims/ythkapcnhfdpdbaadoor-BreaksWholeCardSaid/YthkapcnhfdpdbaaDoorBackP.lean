/- The places of a text, one by one; pure. And: a list that a loop's body collects, beside an iterator that has blocks of its own. -/
import Derived.Test.YthkapcnhfdpdbaaDoorSeqB
import Derived.Test.YthkapcnhfdpdbaaDoorMem
import Derived.Maps.AppendAt
import Derived.Maps.OwnIn
import Derived.RangeFuncBox
set_option linter.unusedSimpArgs false
set_option linter.unusedVariables false
namespace Go.Proofs.YthkapcnhfdpdbaaDoor
open Go.RowKit Go.Lib

theorem offs_get : ∀ (G : List (Nat × Nat)) (p j : Nat), (offs p G)[j]? = G[j]?.map fun x => (p + total (G.take j), x.1)
  | [], p, j => by simp [offs]
  | x :: t, p, 0 => by simp [offs, total]
  | x :: t, p, j + 1 => by
    rw [offs, List.getElem?_cons_succ, offs_get t]
    simp [total, Nat.add_assoc]
theorem offs_len : ∀ (G : List (Nat × Nat)) (p : Nat), (offs p G).length = G.length
  | [], _ => rfl
  | _ :: t, p => by rw [offs, List.length_cons, offs_len t, List.length_cons]
theorem segs_at : ∀ (l : List UInt8) (j : Nat), j < (segs l).length → Border l (total ((segs l).take j)) ∧ (segs l)[j]? = some (dec (l.drop (total ((segs l).take j)))) ∧ total ((segs l).take j) < l.length := walk_ind
  (p := fun l => ∀ (j : Nat), j < (segs l).length → Border l (total ((segs l).take j)) ∧ (segs l)[j]? = some (dec (l.drop (total ((segs l).take j)))) ∧ total ((segs l).take j) < l.length)
  (fun j h => by simp [segs_nil] at h) fun l hl ih j h => by
    have hle := dec_le l hl
    have hpos := dec_pos l
    rw [segs_cons l hl] at h ⊢
    cases j with
    | zero => exact ⟨by simp [total]; exact .zero _, by simp [total], by simp [total]; exact List.length_pos_iff.2 hl⟩
    | succ j =>
      have := ih j (by simpa using h)
      have e : total ((dec l :: segs (l.drop (dec l).2)).take (j + 1)) = (dec l).2 + total ((segs (l.drop (dec l).2)).take j) := by simp [total]
      rw [e]
      refine ⟨.step l _ hl this.1, ?_, ?_⟩
      · rw [List.getElem?_cons_succ, this.2.1, List.drop_drop]
      · have := this.2.2
        rw [List.length_drop] at this
        omega
theorem border_take {l : List UInt8} {p : Nat} (h : Border l p) : ∀ m, p ≤ m → Border (l.take m) p := by
  induction h with
  | zero l => intro m _; exact .zero _
  | step l k hl hb ih =>
    intro m hm
    have hpos := dec_pos l
    have hle := dec_le l hl
    have hbl := border_le hb
    rw [List.length_drop] at hbl
    have hne : l.take m ≠ [] := by
      intro e
      have := congrArg List.length e
      rw [List.length_take, List.length_nil] at this
      omega
    have hd : dec (l.take m) = dec l := by
      by_cases hlm : m ≤ l.length
      · exact dec_take l m (by omega) hlm (by omega)
      · rw [List.take_of_length_le (by omega)]
    have hi := ih (m - (dec l).2) (by omega)
    have e : (l.take m).drop (dec l).2 = (l.drop (dec l).2).take (m - (dec l).2) := by rw [List.drop_take]
    rw [← e] at hi
    have := Border.step (l.take m) k hne (by rw [hd]; exact hi)
    rwa [hd] at this
theorem last_at {l : List UInt8} {p : Nat} (h : Border l p) (hp : p < l.length) : decodeLastL (l.take (p + (dec (l.drop p)).2)) = dec (l.drop p) := by
  have hne : l.drop p ≠ [] := by
    intro e
    have := congrArg List.length e
    rw [List.length_drop, List.length_nil] at this
    omega
  have hle := dec_le _ hne
  have hpos := dec_pos (l.drop p)
  rw [List.length_drop] at hle
  have hb := border_take h (p + (dec (l.drop p)).2) (by omega)
  have hlen : (l.take (p + (dec (l.drop p)).2)).length = p + (dec (l.drop p)).2 := by rw [List.length_take]; omega
  have hd : (l.take (p + (dec (l.drop p)).2)).drop p = (l.drop p).take (dec (l.drop p)).2 := by rw [List.drop_take, Nat.add_sub_cancel_left]
  have hdt : dec ((l.drop p).take (dec (l.drop p)).2) = dec (l.drop p) := dec_take _ _ hpos (by rw [List.length_drop]; omega) (Nat.le_refl _)
  have := decodeLast_last (l.take (p + (dec (l.drop p)).2)) (by intro e; rw [e] at hlen; simp at hlen; omega) p hb (by omega) (by rw [hd, hdt, hlen])
  rw [this, hd, hdt]
theorem dec_one (l : List UInt8) (h : (dec l).2 = 1) : (dec l).1 = gb l 0 ∨ (dec l).1 = 65533 := by
  revert h
  unfold dec decodeN
  repeat' split
  all_goals simp
/-- where the j-th character begins -/
def placeAt (s : ByteArray) (j : Nat) : Nat := total ((segs s.data.toList).take j)
theorem places_len (s : ByteArray) : (places s).length = (segs s.data.toList).length := by rw [places_offs, offs_len]
theorem placeAt_zero (s : ByteArray) : placeAt s 0 = 0 := rfl
theorem placeAt_end (s : ByteArray) : placeAt s (places s).length = s.size := by
  unfold placeAt
  rw [places_len, List.take_length, total_segs, size_list]
theorem prefix_get {α : Type} {pre L : List α} {x : α} (h : pre ++ [x] <+: L) : L[pre.length]? = some x := by
  obtain ⟨t, rfl⟩ := h
  simp
theorem place_at (s : ByteArray) {j : Nat} {x : Nat × Nat} (h : (places s)[j]? = some x) :
    Border s.data.toList (placeAt s j) ∧ placeAt s j < s.size ∧ x = (placeAt s j, (dec (s.data.toList.drop (placeAt s j))).1) ∧ placeAt s (j + 1) = placeAt s j + (dec (s.data.toList.drop (placeAt s j))).2 := by
  have hj : j < (segs s.data.toList).length := by rw [← places_len]; exact (List.getElem?_eq_some_iff.1 h).1
  obtain ⟨h1, h2, h3⟩ := segs_at s.data.toList j hj
  refine ⟨h1, by rw [← size_list]; exact h3, ?_, ?_⟩
  · rw [places_offs, offs_get, h2] at h
    simp at h
    exact h.symm
  · unfold placeAt
    rw [List.take_add_one, h2, total_append]
    simp [total]

theorem alloc_get (W : World) (o : Obj) (k : Nat) : (W.alloc o).heap[k]? = if k = W.heap.size then some o else W.heap[k]? := by
  show (W.heap.push o)[k]? = _
  rw [Array.getElem?_push]
theorem KeepT.setCell (n₀ : Nat) (T : Bl) (W : World) (b : Nat) (v : Value) (hb : n₀ ≤ b) (hT : ¬ T b) : KeepT n₀ T W (W.setCell ⟨b, 0, none⟩ v) :=
  ⟨(grownBy_setCell' W b v).size, fun k hk hn => (grownBy_setCell' W b v).block k hk (fun e => by
    have e := Option.some.inj e
    subst e
    exact hn.elim (fun h => by omega) hT)⟩
theorem boxed_below {W W' : World} {B : Nat} {t : TypeId} {v : Value} (h : Boxed W B t v) (hb : Below W.heap.size W W') : Boxed W' B t v := (hb.block B h.lt).trans h
/-! ### a list that is collected -/
structure Col (T : Bl) (W : World) (B : Nat) (t e : TypeId) (size base : Nat) (v : Value) (n : Nat) (xs : List Value) : Prop where
  box : Boxed W B t v
  row : W.ownsRow base e size v n xs
  apart : ∀ k, v.ownBlock = some k → ¬ T k
theorem row_block {W : World} {base : Nat} {e : TypeId} {size : Nat} {v : Value} {n : Nat} {xs : List Value} (h : W.ownsRow base e size v n xs) {k : Nat} (hk : v.ownBlock = some k) : ∃ cs, W.heap[k]? = some (.cells cs e) := by
  rcases h.2 with ⟨rfl, _⟩ | ⟨g, cap, cur, rfl, _, hgb, _⟩
  · simp [Value.ownBlock] at hk
  · obtain rfl : g = k := by simpa [Value.ownBlock] using hk
    exact ⟨_, hgb⟩
theorem row_same {W W' : World} {base : Nat} {e : TypeId} {size : Nat} {v : Value} {n : Nat} {xs : List Value} (h : W.ownsRow base e size v n xs) (hb : ∀ k, v.ownBlock = some k → W'.heap[k]? = W.heap[k]?) : W'.ownsRow base e size v n xs := by
  refine ⟨h.1, ?_⟩
  rcases h.2 with h0 | ⟨g, cap, cur, hv, hg, hh, r⟩
  · exact .inl h0
  · exact .inr ⟨g, cap, cur, hv, hg, (hb g (by rw [hv]; rfl)).trans hh, r⟩
section col
variable {T : Bl} {W W' : World} {B : Nat} {t e : TypeId} {size base : Nat} {v : Value} {n : Nat} {xs : List Value}
theorem Col.same (h : Col T W B t e size base v n xs) {T' : Bl} (hB : W'.heap[B]? = W.heap[B]?) (hb : ∀ k, v.ownBlock = some k → W'.heap[k]? = W.heap[k]?) (hT : ∀ k, v.ownBlock = some k → ¬ T' k) : Col T' W' B t e size base v n xs :=
  ⟨hB.trans h.box, row_same h.row hb, hT⟩
theorem Col.lt (h : Col T W B t e size base v n xs) {k : Nat} (hk : v.ownBlock = some k) : k < W.heap.size := by
  obtain ⟨cs, hc⟩ := row_block h.row hk
  exact (Array.getElem?_eq_some_iff.1 hc).1
/-- it abides what an iterator does -/
theorem Col.tc (h : Col T W B t e size base v n xs) {T' : Bl} (hB : ¬ T B) (hm : Moves T W W') (hg : Grow T T' W W') : Col T' W' B t e size base v n xs :=
  h.same (hm.block B h.box.lt hB) (fun k hk => hm.block k (h.lt hk) (h.apart k hk)) fun k hk e => by
    rcases hg.2 k e with e | e
    · exact h.apart k hk e
    · have := h.lt hk
      omega
/-- a value appended, and the box stored -/
theorem Col.appended {w1 : World} {v' : Value} {m : Nat} {ys : List Value} {tmp : Obj} (h : Col T W B t e size base v n xs) (hte : t ≠ e) (hT : ∀ k, T k → k < W.heap.size) (hB : ¬ T B)
    (hown' : w1.ownsRow base e size v' m ys) (hgrow : (W.alloc tmp).grownBy w1 v.ownBlock) (hblk : v'.ownBlock = v.ownBlock ∨ v'.ownBlock = some (W.alloc tmp).heap.size) :
    Boxed w1 B t v ∧ Col T (w1.setCell ⟨B, 0, none⟩ v') B t e size base v' m ys ∧ (∀ k, k < W.heap.size → v.ownBlock ≠ some k → k ≠ B → (w1.setCell ⟨B, 0, none⟩ v').heap[k]? = W.heap[k]?) ∧ W.heap.size ≤ (w1.setCell ⟨B, 0, none⟩ v').heap.size ∧
    (w1.setCell ⟨B, 0, none⟩ v').os = W.os ∧ (w1.setCell ⟨B, 0, none⟩ v').tape = W.tape ∧ (w1.setCell ⟨B, 0, none⟩ v').output = W.output := by
  have hv1 : Boxed w1 B t v := (h.box.alloc tmp).kept hgrow (h.box.not_row hte h.row)
  have hg2 := grownBy_setCell' w1 B v'
  have hsz : (W.alloc tmp).heap.size = W.heap.size + 1 := by simp
  refine ⟨hv1, ⟨hv1.set v', hown'.kept hg2 (.inr (hv1.not_row hte hown').symm), fun k hk e => ?_⟩, fun k hk hne hkB => ?_, ?_, ?_, ?_, ?_⟩
  · rcases hblk with hb | hb
    · exact h.apart k (hb ▸ hk) e
    · rw [hb] at hk
      have := hT k e
      have : k = W.heap.size + 1 := by rw [← hsz]; exact (Option.some.inj hk).symm
      omega
  · have := hgrow.size
    rw [hg2.block k (by omega) (fun e => hkB (Option.some.inj e)), hgrow.block k (by omega) (fun e => hne e.symm)]
    exact Below.heap_alloc W tmp k hk
  · have := hgrow.size
    have := hg2.size
    omega
  · exact hg2.os.trans hgrow.os
  · exact hg2.tape.trans hgrow.tape
  · exact hg2.output.trans hgrow.output
theorem Col.beside {B2 : Nat} {t2 e2 : TypeId} {size2 base2 : Nat} {v2 : Value} {n2 : Nat} {xs2 : List Value} (h1 : Col T W B t e size base v n xs) (h2 : Col T W B2 t2 e2 size2 base2 v2 n2 xs2) (hne : B2 ≠ B) (ha : t2 ≠ e) (hb : e2 ≠ e) (hc : e2 ≠ t)
    (hk : ∀ k, k < W.heap.size → v.ownBlock ≠ some k → k ≠ B → W'.heap[k]? = W.heap[k]?) : Col T W' B2 t2 e2 size2 base2 v2 n2 xs2 := by
  refine h2.same (hk B2 h2.box.lt (fun e => ?_) hne) (fun k e2' => hk k (h2.lt e2') (fun e => ?_) fun e => ?_) h2.apart
  · obtain ⟨cs, hcs⟩ := row_block h1.row e
    have hb2 : W.heap[B2]? = some (.cells #[v2] t2) := h2.box
    rw [hb2] at hcs
    cases hcs
    exact ha rfl
  · obtain ⟨cs, hcs⟩ := row_block h1.row e
    obtain ⟨cs2, hcs2⟩ := row_block h2.row e2'
    rw [hcs] at hcs2
    cases hcs2
    exact hb rfl
  · subst e
    obtain ⟨cs2, hcs2⟩ := row_block h2.row e2'
    have hb1 : W.heap[k]? = some (.cells #[v] t) := h1.box
    rw [hb1] at hcs2
    cases hcs2
    exact hc rfl
theorem Col.keep {n₀ : Nat} (h : Col T W B t e size base v n xs) (hn : n₀ ≤ base) (hB : n₀ ≤ B) (hTB : ¬ T B) (hs : W.heap.size ≤ W'.heap.size)
    (hk : ∀ k, k < W.heap.size → v.ownBlock ≠ some k → k ≠ B → W'.heap[k]? = W.heap[k]?) : KeepT n₀ T W W' := by
  refine ⟨hs, fun k hlt hor => hk k hlt (fun e => ?_) fun e => ?_⟩
  · rcases hor with h0 | h0
    · rcases h.row.2 with ⟨hv, _⟩ | ⟨g, cap, cur, hv, hg, _⟩
      · rw [hv] at e
        simp [Value.ownBlock] at e
      · rw [hv] at e
        have : g = k := by simpa [Value.ownBlock] using e
        omega
    · exact h.apart k e h0
  · subst e
    rcases hor with h0 | h0
    · omega
    · exact hTB h0
theorem KeepT.below {n₀ : Nat} (h : KeepT n₀ T W W') (hn : n₀ ≤ W.heap.size) (ho : W'.os = W.os) (ht : W'.tape = W.tape) (hu : W'.output = W.output) : Below n₀ W W' := ⟨ho, ht, hu, h.size, fun k hk => h.block k (by omega) (.inl hk)⟩
end col
end Go.Proofs.YthkapcnhfdpdbaaDoor
