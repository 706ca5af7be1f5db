/- How long what is folded becomes; which texts may be folded. -/
import Derived.Test.YtjkakemlhhieoaaDoorWalkGF
namespace Go.Proofs.YtjkakemlhhieoaaDoor
open Go.RowKit Go.Lib

theorem apartS_lenF (l : List UInt8) : (apartS l).length ≤ 16 * l.length := by
  unfold apartS
  have h1 := textP_le (apartP l)
  have h2 := apartP_len l
  omega
theorem foldG_len (p : Pc) : (foldG p).length ≤ 2 := by
  unfold foldG
  split
  · unfold numsP
    rw [List.length_map]
    exact foldF_len [] p []
  · simp
theorem flat_lenF : ∀ ps : List Pc, (ps.flatMap foldG).length ≤ ps.length * 2
  | [] => Nat.le_refl _
  | p :: t => by
    rw [List.flatMap_cons, List.length_append, List.length_cons]
    have := foldG_len p
    have := flat_lenF t
    omega
theorem foldP_len (l : List UInt8) : (foldP l).length ≤ 8 * l.length := by
  unfold foldP
  have := flat_lenF (apartP l)
  have := apartP_len l
  omega
theorem foldT_len (l : List UInt8) : (foldT l).length ≤ 32 * l.length := by
  unfold foldT
  have := textP_le (foldP l)
  have := foldP_len l
  omega
theorem foldS_len (l : List UInt8) : (foldS l).length ≤ 32 * l.length := by rw [foldS_eq]; exact foldT_len l
/-- up to 2^23 bytes -/
theorem fine_of {l : List UInt8} (h : l.length ≤ 8388608) : Fine5 l := by
  have h1 := apartS_lenF l
  have h2 := foldT_len l
  unfold Fine5
  omega
theorem fine_small (s : ByteArray) (h : s.size ≤ 1048576) : Fine5 s.data.toList := fine_of (by rw [size_list]; omega)
/-- what takes apart as a text that may be folded does -/
theorem fine_like {l m : List UInt8} (hl : l.length ≤ 1048576) (hm : m.length ≤ 268435456) (h : apartP m = apartP l) : Fine5 m := by
  have e1 : apartS m = apartS l := by unfold apartS; rw [h]
  have e2 : foldT m = foldT l := by unfold foldT foldP; rw [h]
  have h1 := apartS_lenF l
  have h2 := foldT_len l
  unfold Fine5
  rw [e1, e2]
  omega
theorem fine_fold {l : List UInt8} (hl : l.length ≤ 1048576) : Fine5 (foldS l) := by
  have h0 := foldS_len l
  have e1 : apartS (foldS l) = foldS l := by unfold foldS; exact apartS_twice _
  have e2 : foldT (foldS l) = foldT l := by unfold foldT; rw [foldP_twice]
  have h2 := foldT_len l
  unfold Fine5
  rw [e1, e2]
  omega
end Go.Proofs.YtjkakemlhhieoaaDoor
