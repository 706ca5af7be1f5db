/- An array of 256 lists, each in a row of its own. -/
import Derived.Test.YtfegbfhkmdmheaaDoorBuck
set_option linter.unusedSimpArgs false
set_option linter.unusedVariables false
namespace Go.Proofs.YtfegbfhkmdmheaaDoor
open Go.RowKit Go.Lib

theorem row_same4 {w w' : World} {base : Nat} {e : TypeId} {size n : Nat} {v : Value} {xs : List Value} (h : w.ownsRow base e size v n xs) (hk : ∀ k, v.ownBlock = some k → w'.heap[k]? = w.heap[k]?) : w'.ownsRow base e size v n xs := by
  refine ⟨h.1, ?_⟩
  rcases h.2 with h0 | ⟨g, cap, cur, rfl, h1, h2, h3⟩
  · exact .inl h0
  · exact .inr ⟨g, cap, cur, rfl, h1, (hk g rfl).trans h2, h3⟩

section
variable {α : Type} {enc : α → List Value} {sz : Nat} {T e : TypeId}
def Piles (w : World) (Pb : Nat) (T e : TypeId) (sz : Nat) (enc : α → List Value) (ls : Nat → List α) : Prop :=
  ∃ cs : List Value, Blk w Pb T cs ∧ cs.length = 256 ∧ (∀ i v, cs[i]? = some v → w.ownsRow (Pb + 1) e sz v (ls i).length (flat enc (ls i))) ∧
    (∀ (i j : Nat) (u v : Value) (g : Nat), i ≠ j → cs[i]? = some u → cs[j]? = some v → u.ownBlock = some g → v.ownBlock ≠ some g)
theorem Piles.made {w : World} {Pb : Nat} (h : Blk w Pb T (List.replicate 256 (.slice none 0 0))) : Piles w Pb T e sz enc (fun _ => ([] : List α)) := by
  refine ⟨_, h, List.length_replicate .., fun i v hv => ?_, fun i j u v g _ hu _ hg => ?_⟩
  · obtain rfl : v = .slice none 0 0 := by
      have := List.mem_of_getElem? hv
      exact (List.mem_replicate.1 this).2
    exact World.ownsRow_nil _ _ _ _
  · obtain rfl : u = .slice none 0 0 := by
      have := List.mem_of_getElem? hu
      exact (List.mem_replicate.1 this).2
    cases hg
theorem Piles.lt {w : World} {Pb : Nat} {ls : Nat → List α} (h : Piles w Pb T e sz enc ls) : Pb < w.heap.size := by
  obtain ⟨cs, h1, _⟩ := h
  exact h1.lt
theorem Piles.other {w w' : World} {Pb R : Nat} {ls : Nat → List α} (h : Piles w Pb T e sz enc ls) (hb : Other w w' R) (hR : R < Pb) : Piles w' Pb T e sz enc ls := by
  obtain ⟨cs, h1, h2, h3, h4⟩ := h
  refine ⟨cs, (hb.block Pb h1.lt (by omega)).trans h1, h2, fun i v hv => ?_, h4⟩
  have := h3 i v hv
  exact row_same4 this (fun k hk => hb.block k (this.lt k hk).2 (by have := (this.lt k hk).1; omega))
theorem Piles.below {w w' : World} {Pb : Nat} {ls : Nat → List α} (h : Piles w Pb T e sz enc ls) (hb : Below w.heap.size w w') : Piles w' Pb T e sz enc ls := by
  obtain ⟨cs, h1, h2, h3, h4⟩ := h
  refine ⟨cs, (hb.block Pb h1.lt).trans h1, h2, fun i v hv => ?_, h4⟩
  have := h3 i v hv
  exact row_same4 this (fun k hk => hb.block k (this.lt k hk).2)
/-- one more on a pile -/
theorem Piles.put {w w1 : World} {Pb : Nat} {cs : List Value} {ls : Nat → List α} (h1 : Blk w Pb T cs) (h2 : cs.length = 256) (h3 : ∀ i v, cs[i]? = some v → w.ownsRow (Pb + 1) e sz v (ls i).length (flat enc (ls i)))
    (h4 : ∀ (i j : Nat) (u v : Value) (g : Nat), i ≠ j → cs[i]? = some u → cs[j]? = some v → u.ownBlock = some g → v.ownBlock ≠ some g) {n : Nat} {v v' : Value} (hn : cs[n]? = some v) (hg : Grew w w1 v v') {x : α}
    (hown : w1.ownsRow (Pb + 1) e sz v' ((ls n).length + 1) (flat enc (ls n) ++ enc x)) {ls' : Nat → List α} (hls : ∀ i, ls' i = if i = n then ls n ++ [x] else ls i) :
    Piles (w1.setCell ⟨Pb, n, none⟩ v') Pb T e sz enc ls' := by
  have hnl := (List.getElem?_eq_some_iff.1 hn).1
  have hPb : some Pb ≠ v.ownBlock := fun e => by have := ((h3 n v hn).lt Pb e.symm).1; omega
  have b1 : Blk w1 Pb T cs := (hg.block Pb h1.lt hPb).trans h1
  have b2 : Blk (w1.setCell ⟨Pb, n, none⟩ v') Pb T (cs.set n v') := by
    unfold Blk
    rw [heap_setCell_same w1 Pb n _ T v' b1]
    simp
  have hsame : ∀ k, Pb + 1 ≤ k → (w1.setCell ⟨Pb, n, none⟩ v').heap[k]? = w1.heap[k]? := fun k hk => heap_setCell_other _ _ _ _ (by show k ≠ Pb; omega)
  refine ⟨cs.set n v', b2, by simpa using h2, fun i u hu => ?_, fun i j u u' g hij hu hu' hug => ?_⟩
  · rw [hls i]
    by_cases hi : i = n
    · subst hi
      rw [if_pos rfl]
      obtain rfl : v' = u := by rw [List.getElem?_set_self hnl] at hu; exact Option.some.inj hu
      rw [flat_append, List.length_append]
      have hf : flat enc [x] = enc x := by simp [flat]
      rw [hf]
      exact row_same4 hown (fun k hk => hsame k (hown.lt k hk).1)
    · rw [if_neg hi]
      rw [List.getElem?_set_ne (by omega)] at hu
      have ho := h3 i u hu
      refine row_same4 ho (fun k hk => (hsame k (ho.lt k hk).1).trans (hg.block k (ho.lt k hk).2 ?_))
      intro e
      exact h4 i n u v k hi hu hn hk e.symm
  · have hfresh : ∀ i u, i ≠ n → cs[i]? = some u → ∀ g, u.ownBlock = some g → v'.ownBlock ≠ some g := by
      intro i u hi hu g hg1 e
      rcases hg.own with e1 | ⟨k, hk, e1⟩
      · exact h4 i n u v g hi hu hn hg1 (e1.symm.trans e)
      · rw [e1] at e
        cases e
        have := ((h3 i u hu).lt _ hg1).2
        omega
    by_cases hi : i = n
    · subst hi
      obtain rfl : v' = u := by rw [List.getElem?_set_self hnl] at hu; exact Option.some.inj hu
      rw [List.getElem?_set_ne (by omega)] at hu'
      intro e
      exact hfresh j u' (by omega) hu' g e hug
    · rw [List.getElem?_set_ne (by omega)] at hu
      by_cases hj : j = n
      · subst hj
        obtain rfl : v' = u' := by rw [List.getElem?_set_self hnl] at hu'; exact Option.some.inj hu'
        exact hfresh i u hi hu g hug
      · rw [List.getElem?_set_ne (by omega)] at hu'
        exact h4 i j u u' g hij hu hu' hug
end
end Go.Proofs.YtfegbfhkmdmheaaDoor
