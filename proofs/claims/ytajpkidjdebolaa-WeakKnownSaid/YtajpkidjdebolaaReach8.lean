/- What the form's own reach says of lists of one-byte numbers. -/
import Derived.Test.YtajpkidjdebolaaOpenP
set_option linter.unusedSimpArgs false
set_option linter.unusedVariables false
namespace Go.Proofs.Ytajpkidjdebolaa
open Go.ChangeShapes Go.WideShapes Go.ChangeAt Go.RowKit Go.Lib

theorem reach_slice8 {H : Type} {P : Program} {t e : TypeId} {a b : List (DataW H)} {ts : List TypeId} {ds : List (DataW H)} (ht : P.underlying t = some (.slice e)) (hb : P.bytesOf e = 1)
    (h : (DataW.weightsEach P (t :: ts) (DataW.slice a b :: ds)).all (· ≤ reachBytes) = true) : a.length ≤ 140737488351232 := by
  simp only [DataW.weightsEach, DataW.weights, ht, List.cons_append, List.all_cons, Bool.and_eq_true, decide_eq_true_eq, hb, reachBytes] at h
  have := of_decide_eq_true h.1
  omega
theorem reach_tail {H : Type} {P : Program} {t : TypeId} {d : DataW H} {ts : List TypeId} {ds : List (DataW H)} (h : (DataW.weightsEach P (t :: ts) (d :: ds)).all (· ≤ reachBytes) = true) : (DataW.weightsEach P ts ds).all (· ≤ reachBytes) = true := by
  simp only [DataW.weightsEach, List.all_append, Bool.and_eq_true] at h
  exact h.2
end Go.Proofs.Ytajpkidjdebolaa
