/- The numbers of a text lie in a row of their own, never nil; append as a step of a region that draws. -/
import Derived.Test.YtfegbfhkmdmheaaDoorScanG
import Derived.Test.YtfegbfhkmdmheaaDoorMem
import Derived.Deep.RegionLaw
set_option linter.unusedSimpArgs false
set_option linter.unusedVariables false
namespace Go.Proofs.YtfegbfhkmdmheaaDoor
open Go.RowKit Go.Lib

theorem runes_some (s : ByteArray) (w : World) (hs : (runesOf s.data.toList).length ≤ 70368744177664) : Calls Tryd.prog 31 #[.string s] w fun e w' =>
    ∃ g c : Nat, e = .returned (.slice (some ⟨g, 0, none⟩) (runesOf s.data.toList).length c) ∧ w'.ownsRow w.heap.size 21 1 (.slice (some ⟨g, 0, none⟩) (runesOf s.data.toList).length c) (runesOf s.data.toList).length (runeCells' (runesOf s.data.toList)) ∧ Below w.heap.size w w' := by
  have hlen : (runeCells' (runesOf s.data.toList)).toArray.size = (runesOf s.data.toList).length := by simp [runeCells']
  have hcv : ∀ W : World, (convert 9 36 (.string s)).run Tryd.prog W = _ := fun W => run_runes_of_string W 9 36 21 s Tryd.underlying9 Tryd.underlying36 Tryd.underlying21 (by rw [runesFrom_all, hlen]; exact hs)
  rw [runesFrom_all, hlen] at hcv
  obtain ⟨cells, hcells⟩ : ∃ cells, runeCells' (runesOf s.data.toList) = cells := ⟨_, rfl⟩
  obtain ⟨n, hn⟩ : ∃ n, (runesOf s.data.toList).length = n := ⟨_, rfl⟩
  rw [hcells, hn] at hcv
  rw [hcells, hn]
  rw [hn] at hs
  have hln : cells.length = n := by rw [← hcells, ← hn]; simp [runeCells']
  have Hln := Lib.hid hln
  clear hln hcells hn hlen
  go_enter Tryd.func31, Tryd.ntmps31
  go_wp2
  go_ret
  refine ⟨w.heap.size, _, rfl, ⟨by rw [Hln.out]; simp, .inr ⟨w.heap.size, _, _, rfl, Nat.le_refl _, heap_alloc_new w.drew _, grownCap_ge _ _ _ _, grownCap_le_maxLen _ _ _ _ (by unfold maxLen; omega), ?_, ?_⟩⟩, (Below.refl _ w).drew.alloc (Nat.le_refl _) _⟩
  · have := grownCap_ge w n 0 21
    have := Hln.out
    simp
    omega
  · have := Hln.out
    simp [List.take_append, this]

theorem Rd.cells_of {w : World} {B size n : Nat} {a : Addr} {xs : List Value} (h : Rd w B size (some a) n xs) : ∀ j u, xs[j]? = some u → w.cell? (a.add j) = some u := by
  rcases h.2 with h0 | ⟨a', e, _, hc⟩
  · intro j u hu
    have : xs = [] := List.eq_nil_of_length_eq_zero (by rw [h.1, h0]; simp)
    subst this
    simp at hu
  · injection e with e
    subst e
    exact hc

theorem step_append_own {P : Program} {ops : Array Oper} {o : Oper} {a : Act} {w : World} {K : Act → World → Prop} {Q : Exit → Act → World → Prop} {E : Prop} (hgd : o.guard = none) (s x : Operand) (t : TypeId)
    (ho : o.op = .call { callee := .builtin .append, args := #[s, x], argTypes := #[t, t] })
    (base : Nat) (e : TypeId) (i : TypeInfo) (z : Value) (size bytes : Nat) (ht : P.underlying t = some (.slice e)) (hi : P.info? e = some i) (hz : i.zero = some z)
    (hsize : i.size = size) (hby : i.bytes = bytes) (hzs : z.cells.size = size) (hsz : 0 < size)
    (v : Value) (n : Nat) (xs : List Value) (hs : a.eval s = v) (hown : w.ownsRow base e size v n xs)
    (ad : Addr) (m c : Nat) (news : List Value) (hx : a.eval x = .slice (some ad) m c) (hl : news.length = m * size) (hnews : ∀ j u, news[j]? = some u → w.cell? (ad.add j) = some u) (h1 : ∀ u ∈ news, u.oneCell' = true)
    (h63 : n + m ≤ maxLen) (hbytes : (n + m) * bytes ≤ 140737488355328) (hbase : base ≤ w.heap.size)
    (h : ∀ v' w', w'.ownsRow base e size v' (n + m) (xs ++ news) → w.grownBy w' v.ownBlock → K (a.put o.dst v') w') : if Region.wanted o (yielded ops a.tmps) = true then Oper.wp P o a w K Q else E := by
  have hw : Region.wanted o (yielded ops a.tmps) = true := by simp [Region.wanted, hgd]
  rw [if_pos hw]
  exact wp_append_own w s x t ho base e i z size bytes ht hi hz hsize hby hzs hsz v n xs hs hown ad m c news hx hl hnews h1 h63 hbytes hbase fun v' w' h2 h3 _ => h v' w' h2 h3

end Go.Proofs.YtfegbfhkmdmheaaDoor
