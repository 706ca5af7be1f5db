/- Piles by number (pure); a block whose cells are a list; 'append' that writes within such a block. -/
import Derived.Test.YtfegbfhkmdmheaaDoorSplit
import Derived.Laws.IdiomCopy
import Derived.ArgAppend
set_option linter.unusedSimpArgs false
set_option linter.unusedVariables false
namespace Go.Proofs.YtfegbfhkmdmheaaDoor
open Go.RowKit Go.Lib

section
variable {α : Type} (num : α → Nat)
def pile (xs : List α) (i : Nat) : List α := xs.filter fun x => num x == i
def conc (xs : List α) : Nat → List α
  | 0 => []
  | k + 1 => conc xs k ++ pile num xs k
def bucket (xs : List α) : List α := conc num xs 256
theorem pile_snoc (xs : List α) (x : α) (i : Nat) : pile num (xs ++ [x]) i = if num x = i then pile num xs i ++ [x] else pile num xs i := by
  unfold pile
  by_cases h : num x = i <;> simp [h]
theorem conc_nil : ∀ k, conc num ([] : List α) k = []
  | 0 => rfl
  | k + 1 => by unfold conc; rw [conc_nil k]; rfl
theorem conc_len_cons (x : α) (xs : List α) : ∀ k, (conc num (x :: xs) k).length = (conc num xs k).length + (if num x < k then 1 else 0)
  | 0 => rfl
  | k + 1 => by
    unfold conc
    rw [List.length_append, List.length_append, conc_len_cons x xs k]
    unfold pile
    by_cases h : num x = k
    · rw [List.filter_cons_of_pos (by simp [h]), List.length_cons, if_neg (by omega), if_pos (by omega)]
      omega
    · rw [List.filter_cons_of_neg (by simp [h])]
      by_cases h2 : num x < k
      · rw [if_pos h2, if_pos (by omega)]; omega
      · rw [if_neg h2, if_neg (by omega)]; omega
theorem conc_len : ∀ (xs : List α) (k : Nat), (∀ x ∈ xs, num x < k) → (conc num xs k).length = xs.length
  | [], k, _ => by rw [conc_nil]
  | x :: xs, k, h => by
    rw [conc_len_cons, conc_len xs k (fun y hy => h y (by simp [hy])), if_pos (h x (by simp)), List.length_cons]
theorem conc_mono (xs : List α) (j k : Nat) (h : j ≤ k) : (conc num xs j).length ≤ (conc num xs k).length := by
  induction k with
  | zero => rw [show j = 0 by omega]; exact Nat.le_refl _
  | succ k ih =>
    rcases Nat.lt_or_ge j (k + 1) with h2 | h2
    · have := ih (by omega)
      have e : (conc num xs (k + 1)).length = (conc num xs k).length + (pile num xs k).length := by
        conv => lhs; unfold conc
        rw [List.length_append]
      omega
    · rw [show j = k + 1 by omega]; exact Nat.le_refl _
theorem bucket_len (xs : List α) (h : ∀ x ∈ xs, num x < 256) : (bucket num xs).length = xs.length := conc_len num xs 256 h
theorem conc_one (x : α) : ∀ k, conc num [x] k = if num x < k then [x] else []
  | 0 => rfl
  | k + 1 => by
    unfold conc
    rw [conc_one x k]
    unfold pile
    by_cases h : num x = k
    · rw [if_neg (by omega), if_pos (by omega)]; simp [h]
    · by_cases h2 : num x < k
      · rw [if_pos h2, if_pos (by omega)]; simp [h]
      · rw [if_neg h2, if_neg (by omega)]; simp [h]
theorem bucket_short (xs : List α) (hl : xs.length < 2) (h : ∀ x ∈ xs, num x < 256) : bucket num xs = xs := by
  rcases xs with _ | ⟨x, _ | ⟨y, t⟩⟩
  · exact conc_nil num 256
  · unfold bucket; rw [conc_one, if_pos (h x (by simp))]
  · exfalso; simp at hl; omega
theorem conc_mem (xs : List α) (y : α) : ∀ k, y ∈ conc num xs k → y ∈ xs
  | 0, h => by simp [conc] at h
  | k + 1, h => by
    unfold conc at h
    rcases List.mem_append.1 h with h | h
    · exact conc_mem xs y k h
    · exact (List.mem_filter.1 h).1
/-- rows of what are no starters, each put in order -/
def ordR (row : List α) : List α → List α
  | [] => bucket num row
  | x :: t => if num x = 0 then bucket num row ++ x :: ordR [] t else ordR (row ++ [x]) t
def ordZ (xs : List α) : List α := ordR num [] xs
theorem ordR_len : ∀ (xs row : List α), (∀ x ∈ row, num x < 256) → (∀ x ∈ xs, num x < 256) → (ordR num row xs).length = row.length + xs.length
  | [], row, h, _ => by unfold ordR; rw [bucket_len num row h]; rfl
  | x :: t, row, h, h2 => by
    unfold ordR
    by_cases hx : num x = 0
    · rw [if_pos hx, List.length_append, List.length_cons, bucket_len num row h, ordR_len t [] (fun _ h => by cases h) (fun y hy => h2 y (by simp [hy]))]
      simp <;> omega
    · rw [if_neg hx, ordR_len t (row ++ [x]) (fun y hy => by rcases List.mem_append.1 hy with hy | hy; exact h y hy; rw [List.mem_singleton.1 hy]; exact h2 x (by simp)) (fun y hy => h2 y (by simp [hy]))]
      simp <;> omega
end

/-- the cells of a list of elements -/
def flat {α : Type} (enc : α → List Value) (xs : List α) : List Value := xs.flatMap enc
section
variable {α : Type} {enc : α → List Value} {sz : Nat}
theorem flat_append (xs ys : List α) : flat enc (xs ++ ys) = flat enc xs ++ flat enc ys := by simp [flat]
theorem flat_len (he : ∀ x, (enc x).length = sz) : ∀ xs : List α, (flat enc xs).length = xs.length * sz
  | [] => by simp [flat]
  | x :: t => by
    have := flat_len he t
    simp only [flat, List.flatMap_cons, List.length_append, List.length_cons] at this ⊢
    rw [he, this, Nat.add_mul]; omega
theorem flat_at (he : ∀ x, (enc x).length = sz) : ∀ (xs : List α) (i : Nat) (x : α), xs[i]? = some x → ∀ j u, (enc x)[j]? = some u → (flat enc xs)[i * sz + j]? = some u
  | [], i, x, h, _, _, _ => by simp at h
  | y :: t, 0, x, h, j, u, hu => by
    obtain rfl : y = x := by simpa using h
    show (enc y ++ flat enc t)[0 * sz + j]? = some u
    rw [Nat.zero_mul, Nat.zero_add, List.getElem?_append_left (List.getElem?_eq_some_iff.1 hu).1]
    exact hu
  | y :: t, i + 1, x, h, j, u, hu => by
    show (enc y ++ flat enc t)[(i + 1) * sz + j]? = some u
    rw [List.getElem?_append_right (by rw [he, Nat.add_mul]; omega), he, show (i + 1) * sz + j - sz = i * sz + j by rw [Nat.add_mul]; omega]
    exact flat_at he t i x (by simpa using h) j u hu
theorem flat_one (h1 : ∀ x, ∀ u ∈ enc x, u.oneCell' = true) (xs : List α) : ∀ u ∈ flat enc xs, u.oneCell' = true := by
  intro u hu
  obtain ⟨x, _, hx⟩ := List.mem_flatMap.1 hu
  exact h1 x u hx
end

/-- block R's cells are the list L -/
def Blk (w : World) (R : Nat) (t : TypeId) (L : List Value) : Prop := w.heap[R]? = some (.cells L.toArray t (0, 0))
section
variable {w : World} {R : Nat} {t : TypeId} {L : List Value}
theorem Blk.lt (h : Blk w R t L) : R < w.heap.size := (Array.getElem?_eq_some_iff.1 h).1
theorem Blk.cell (h : Blk w R t L) {j : Nat} {u : Value} (hj : L[j]? = some u) : w.cell? ⟨R, j, none⟩ = some u := by
  simp [World.cell?, show w.heap[R]? = _ from h, hj]
theorem Blk.frozen (h : Blk w R t L) (j : Nat) : w.frozen? ⟨R, j, none⟩ = false := frozen_of_row w R j _ t h
theorem Blk.setCell {pre post : List Value} {old : Value} (h : Blk w R t (pre ++ old :: post)) (v : Value) : Blk (w.setCell ⟨R, pre.length, none⟩ v) R t (pre ++ v :: post) := by
  unfold Blk
  rw [heap_setCell_same w R pre.length _ t v h]
  simp
theorem Blk.setCells : ∀ (vs : List Value) {w : World} {pre old post : List Value}, Blk w R t (pre ++ old ++ post) → old.length = vs.length → Blk (w.setCells R pre.length vs) R t (pre ++ vs ++ post)
  | [], w, pre, old, post, h, hl => by
    rw [List.eq_nil_of_length_eq_zero hl] at h
    exact h
  | v :: vs, w, pre, [], post, h, hl => by simp at hl
  | v :: vs, w, pre, o :: old, post, h, hl => by
    have h1 : Blk w R t (pre ++ o :: (old ++ post)) := by simpa using h
    have h2 := h1.setCell v
    have h3 : Blk (w.setCell ⟨R, pre.length, none⟩ v) R t ((pre ++ [v]) ++ old ++ post) := by simpa using h2
    have h4 := Blk.setCells vs h3 (by simpa using hl)
    show Blk ((w.setCell ⟨R, pre.length, none⟩ v).setCells R (pre.length + 1) vs) R t (pre ++ v :: vs ++ post)
    rw [show pre.length + 1 = (pre ++ [v]).length by simp]
    simpa using h4
end
/-- all but block R is as it was -/
structure Other (w w' : World) (R : Nat) : Prop where
  os : w'.os = w.os
  tape : w'.tape = w.tape
  output : w'.output = w.output
  size : w.heap.size ≤ w'.heap.size
  block : ∀ k, k < w.heap.size → k ≠ R → w'.heap[k]? = w.heap[k]?
theorem Other.refl (w : World) (R : Nat) : Other w w R := ⟨rfl, rfl, rfl, Nat.le_refl _, fun _ _ _ => rfl⟩
theorem Other.trans {a b c : World} {R : Nat} (h : Other a b R) (k : Other b c R) : Other a c R :=
  ⟨k.os.trans h.os, k.tape.trans h.tape, k.output.trans h.output, Nat.le_trans h.size k.size, fun i hi hn => (k.block i (Nat.lt_of_lt_of_le hi h.size) hn).trans (h.block i hi hn)⟩
theorem Other.of_below {w w' : World} (h : Below w.heap.size w w') (R : Nat) : Other w w' R := ⟨h.os, h.tape, h.output, h.size, fun k hk _ => h.block k hk⟩
theorem Other.set (w : World) (R o : Nat) (v : Value) : Other w (w.setCell ⟨R, o, none⟩ v) R := ⟨rfl, rfl, rfl, by simp, fun k _ hk => heap_setCell_other w _ k v hk⟩
theorem Other.setCells (R : Nat) : ∀ (vs : List Value) (w : World) (o : Nat), Other w (w.setCells R o vs) R
  | [], w, _ => Other.refl w R
  | v :: vs, w, o => (Other.set w R o v).trans (Other.setCells R vs _ (o + 1))
theorem Other.drew {w w' : World} {R : Nat} (h : Other w w' R) : Other w w'.drew R := ⟨h.os, h.tape, h.output, h.size, h.block⟩
theorem Other.below {w w' : World} {R : Nat} (h : Other w w' R) : Below (min R w.heap.size) w w' := ⟨h.os, h.tape, h.output, by have := h.size; omega, fun k hk => h.block k (by omega) (by omega)⟩

section
variable {P : Program} {w : World} {ops : Array Oper} {rest : List Oper} {o : Oper} {a : Act} {Q : Exit → Act → World → Prop}
/-- 'append' where there is room, its block a list of cells -/
theorem wpList_append_blk (hg : o.guard = none) (s x : Operand) (t : TypeId) (hop : o.op = Op.call { callee := Callee.builtin Builtin.append, args := #[s, x], argTypes := #[t, t] })
    (e : TypeId) (i : TypeInfo) (size : Nat) (h1 : P.underlying t = some (.slice e)) (h2 : P.info? e = some i) (h4 : i.size = size)
    (R off n cap : Nat) (hs : a.eval s = .slice (some ⟨R, off, none⟩) n cap)
    (ad : Addr) (m c : Nat) (news : List Value) (hx : a.eval x = .slice (some ad) m c) (hn : news.length = m * size) (hc : ∀ j u, news[j]? = some u → w.cell? (ad.add j) = some u) (h1c : ∀ u ∈ news, u.oneCell' = true)
    (hroom : n + m ≤ cap) (tb : TypeId) (pre old post : List Value) (hblk : Blk w R tb (pre ++ old ++ post)) (hpre : pre.length = off + n * size) (hold : old.length = news.length)
    (hK : wpList P ops Q rest (a.put o.dst (.slice (some ⟨R, off, none⟩) (n + m) cap)) (w.setCells R (off + n * size) news)) :
    wpList P ops Q (o :: rest) a w := by
  refine wpList_plain hg fun K hK' => ?_
  subst h4
  have hin : ∀ j, j < news.length → (w.cell? ⟨R, off + n * i.size + j, none⟩).isSome = true := by
    intro j hj
    have : ∃ u, (pre ++ old ++ post)[off + n * i.size + j]? = some u := by
      refine ⟨_, List.getElem?_eq_getElem ?_⟩
      simp only [List.length_append]
      omega
    obtain ⟨u, hu⟩ := this
    rw [hblk.cell hu]
    rfl
  have hrun := run_append_room_cells (P := P) w t o.type e i h1 h2 R off n cap ad m c news hn hc h1c hroom hin (fun j _ => hblk.frozen _)
  unfold Oper.wp
  simp [execOp, hop, resolve, invoke, builtin, hs, hx, hrun, Result.andThen]
  exact hK' _ _ hK
/-- .. of nothing -/
theorem wpList_append_nilblk (hg : o.guard = none) (s x : Operand) (t : TypeId) (hop : o.op = Op.call { callee := Callee.builtin Builtin.append, args := #[s, x], argTypes := #[t, t] })
    (e : TypeId) (i : TypeInfo) (h1 : P.underlying t = some (.slice e)) (h2 : P.info? e = some i)
    (R off n cap : Nat) (hs : a.eval s = .slice (some ⟨R, off, none⟩) n cap) (hx : a.eval x = .slice none 0 0) (hroom : n ≤ cap)
    (hK : wpList P ops Q rest (a.put o.dst (.slice (some ⟨R, off, none⟩) n cap)) w) :
    wpList P ops Q (o :: rest) a w := by
  refine wpList_plain hg fun K hK' => ?_
  have hrun : (Builtin.append_ #[t, t] o.type #[.slice (some ⟨R, off, none⟩) n cap, .slice none 0 0]).run P w = .ok (.slice (some ⟨R, off, none⟩) n cap) w := by
    simp [Builtin.append_, run_underlying h1, sizeOf, typeInfo, h2, Builtin.lenOf, Builtin.firstCells, hroom, storeCells, Result.andThen]
  unfold Oper.wp
  simp [execOp, hop, resolve, invoke, builtin, hs, hx, hrun, Result.andThen]
  exact hK' _ _ hK
end
end Go.Proofs.YtfegbfhkmdmheaaDoor
