/- ScanPieces, walked: whatever the pieces: what the reader tells of them, and at the end, is what the whole is. -/
import Derived.Test.YtfegbfhkmdmheaaDoorReader
import Derived.Test.YtfegbfhkmdmheaaDoorPartsA
import Derived.Test.YtfegbfhkmdmheaaDoorPartsS
set_option linter.unusedSimpArgs false
set_option linter.unusedVariables false
namespace Go.Proofs.YtfegbfhkmdmheaaDoor
open Go.RowKit Go.Lib

theorem bytes_of (zs : List Int) (h : ∀ z ∈ zs, (Lit.int .u8 z).wf = true) : ∃ bs : List UInt8, zs.map (Value.int .u8) = byteCells' bs := by
  refine ⟨zs.map fun z => UInt8.ofNat z.toNat, ?_⟩
  unfold byteCells'
  rw [List.map_map]
  refine List.map_congr_left fun z hz => ?_
  have := h z hz
  simp [Lit.wf, IntKind.min, IntKind.max, IntKind.signed, IntKind.bits] at this
  simp
  omega
theorem i64_wf (z : Int) (h : (Lit.int .i64 z).wf = true) : -9223372036854775808 ≤ z ∧ z ≤ 9223372036854775807 := by
  simp [Lit.wf, IntKind.min, IntKind.max, IntKind.signed, IntKind.bits] at h
  omega
theorem rd_piece {w : World} {B n : Nat} {A : Option Addr} {bs : List UInt8} (h : Rd w B 1 A n (byteCells' bs)) {k q : Nat} (hk : k + q ≤ n) : Rd w B 1 (A.map fun x => x.add k) q (byteCells' ((bs.drop k).take q)) := by
  have hl : bs.length = n := by have := h.1; simpa [byteCells'] using this
  refine ⟨by simp [byteCells']; omega, ?_⟩
  rcases Nat.eq_zero_or_pos q with h0 | h0
  · exact .inl h0
  · obtain ⟨a, rfl, hb, hc⟩ := h.addr (by omega)
    refine .inr ⟨_, rfl, by rw [add_block]; exact hb, fun j u hu => ?_⟩
    rw [add_sum]
    refine hc _ _ ?_
    unfold byteCells' at hu ⊢
    rw [List.getElem?_map, List.getElem?_take] at hu
    rw [List.getElem?_map]
    split at hu
    · rw [List.getElem?_drop] at hu
      exact hu
    · cases hu
theorem rd_none {w : World} {B : Nat} {A : Option Addr} {bs : List UInt8} {k q : Nat} (hq : q = 0) : Rd w B 1 A q (byteCells' ((bs.drop k).take q)) := by
  subst hq
  exact ⟨by simp [byteCells'], .inl rfl⟩
theorem ones_cells (t : List Nat) : ∀ u ∈ runeCells' t, u.oneCell' = true := by
  intro u hu
  obtain ⟨z, _, rfl⟩ := List.mem_map.1 hu
  rfl
theorem cells_snoc (t t2 : List Nat) : runeCells' t ++ runeCells' t2 = runeCells' (t ++ t2) := by simp [runeCells']
/-- behind a piece and its append: the reader's cell, and what lies below -/
theorem piece_end {w wr w2 w3 : World} {G : Nat} {e : TypeId} {v : Value} {n : Nat} {xs : List Value} {R : ByteArray} (hbw : Below G w wr) (hGw : G < wr.heap.size) (hgr : wr.grownBy w2 (some G)) (hown : wr.ownsRow (G + 1) e 1 v n xs)
    (hc : w2.cell? ⟨G, 0, none⟩ = some (.string R)) (hf : w2.frozen? ⟨G, 0, none⟩ = false) (hg3 : w2.grownBy w3 v.ownBlock) :
    w3.cell? ⟨G, 0, none⟩ = some (.string R) ∧ w3.frozen? ⟨G, 0, none⟩ = false ∧ Below G w w3 ∧ G < w3.heap.size := by
  have hne : some G ≠ v.ownBlock := fun e => by have := (hown.lt G e.symm).1; omega
  have hG2 : G < w2.heap.size := Nat.lt_of_lt_of_le hGw hgr.size
  have hk := hg3.block G hG2 hne
  refine ⟨(World.cell?_of_block (a := ⟨G, 0, none⟩) hk).trans hc, (World.frozen?_of_block (a := ⟨G, 0, none⟩) hk).trans hf, ?_, Nat.lt_of_lt_of_le hG2 hg3.size⟩
  exact (hbw.grown hgr (by omega) (fun k e => by cases e; exact Nat.le_refl _)).grown hg3 (by omega) (fun k e => by have := (hown.lt k e).1; omega)

theorem end_held (w : World) (g : Nat) (R : ByteArray) (hc : w.cell? ⟨g, 0, none⟩ = some (.string R)) (hf : w.frozen? ⟨g, 0, none⟩ = false) (hg : g < w.heap.size) (hs : R.size ≤ 3) (hl : (segs R.data.toList).length = R.size) :
    Calls Tryd.prog 28 #[.pointer (some ⟨g, 0, none⟩)] w fun e w' => ∃ g2 c : Nat, e = .returned (.slice (some ⟨g2, 0, none⟩) R.size c) ∧ w'.ownsRow w.heap.size 21 1 (.slice (some ⟨g2, 0, none⟩) R.size c) R.size (runeCells' (runesOf R.data.toList)) ∧
      w'.cell? ⟨g, 0, none⟩ = some (.string ByteArray.empty) ∧ w'.frozen? ⟨g, 0, none⟩ = false ∧ w.grownBy w' (some g) := by
  have h := end_any w g R hc hf hg hs
  rw [show (runesOf R.data.toList).length = R.size by rw [runesOf_len, hl]] at h
  exact h
theorem end_none (w : World) (g : Nat) (hc : w.cell? ⟨g, 0, none⟩ = some (.string ByteArray.empty)) (hf : w.frozen? ⟨g, 0, none⟩ = false) (hg : g < w.heap.size) :
    Calls Tryd.prog 28 #[.pointer (some ⟨g, 0, none⟩)] w fun e w' => (∃ g2 c : Nat, e = .returned (.slice (some ⟨g2, 0, none⟩) 0 c)) ∧ w.grownBy w' (some g) := by
  refine (end_held w g ByteArray.empty hc hf hg (by simp) rfl).mono ?_
  rintro e w' ⟨g2, c, rfl, _, _, _, hgr⟩
  exact ⟨⟨g2, c, rfl⟩, hgr⟩
theorem held_none (w : World) (g : Nat) (hc : w.cell? ⟨g, 0, none⟩ = some (.string ByteArray.empty)) : Calls Tryd.prog 9 #[.pointer (some ⟨g, 0, none⟩)] w fun e w' => e = .returned (.int .i64 0) ∧ w' = w := held_any w g ByteArray.empty hc
theorem rd_all {w : World} {base : Nat} {e : TypeId} {A : Option Addr} {n c : Nat} {bs : List UInt8} {t : List Nat} {r : List UInt8} (ho : w.ownsRow base e 1 (.slice A n c) n (runeCells' t ++ runeCells' (runesOf r))) (hf : Fed bs t r) :
    n = (zsOf bs).length ∧ Rd w w.heap.size 1 A (zsOf bs).length ((zsOf bs).map (Value.int .i32)) := by
  have e1 : runeCells' t ++ runeCells' (runesOf r) = (zsOf bs).map (Value.int .i32) := by rw [cells_snoc, ← fed_runes hf, zsOf_cells]
  rw [e1] at ho
  have h1 : n = (zsOf bs).length := by have := ho.1; simpa using this.symm
  subst h1
  exact ⟨rfl, Rd.own ho⟩

end Go.Proofs.YtfegbfhkmdmheaaDoor
