/- What the form's own reach says of lists of four-byte numbers; what the second form's bound says of the lists that come in. -/
import Derived.Test.YtjecbchnckknkaaOpenP
set_option linter.unusedSimpArgs false
set_option linter.unusedVariables false
namespace Go.Proofs.Ytjecbchnckknkaa
open Go.ChangeShapes Go.WideShapes Go.ChangeAt Go.RowKit Go.Lib

theorem reach_slice11 {H : Type} {P : Program} {t e : TypeId} {a b : List (DataW H)} {ts : List TypeId} {ds : List (DataW H)} (ht : P.underlying t = some (.slice e)) (hb : P.bytesOf e = 4)
    (h : (DataW.weightsEach P (t :: ts) (DataW.slice a b :: ds)).all (· ≤ reachBytes) = true) : a.length ≤ 35184372087808 := by
  simp only [DataW.weightsEach, DataW.weights, ht, List.cons_append, List.all_cons, Bool.and_eq_true, decide_eq_true_eq, hb, reachBytes] at h
  have := of_decide_eq_true h.1
  omega
theorem bulk_one11 {H : Type} (d : DataW H) : 1 ≤ Rows.uptoBulk d := by
  cases d with
  | lit l => cases l <;> simp [Rows.uptoBulk]
  | nil => simp [Rows.uptoBulk]
  | ptr d => simp [Rows.uptoBulk]
  | slice elems spare => simp [Rows.uptoBulk]
  | agg parts => simp [Rows.uptoBulk]
  | iface t d => simp [Rows.uptoBulk]
  | map entries => simp [Rows.uptoBulk]
  | held h => simp [Rows.uptoBulk]
theorem bulk_len11 {H : Type} (l : List (DataW H)) : l.length ≤ Rows.uptoBulkAll l := by
  induction l with
  | nil => simp [Rows.uptoBulkAll]
  | cons x r ih =>
    have := bulk_one11 x
    simp only [Rows.uptoBulkAll, List.length_cons]
    omega
theorem bulk_slice11 {H : Type} {a b : List (DataW H)} {m : Nat} (h : Rows.uptoBulk (DataW.slice a b) ≤ m) : a.length ≤ m := by
  have := bulk_len11 a
  simp only [Rows.uptoBulk] at h
  omega
theorem bulk_alone11 {H : Type} {a : DataW H} (h : Rows.uptoSmall H [a] = true) : Rows.uptoBulk a ≤ 1048576 := by
  have h0 : Rows.uptoBulkAll [a] ≤ 1048576 := of_decide_eq_true h
  simp only [Rows.uptoBulkAll] at h0
  omega
theorem bulk_three11 {H : Type} {a b c : DataW H} (h : Rows.uptoSmall H [a, b, c] = true) : Rows.uptoBulk a ≤ 1048576 ∧ Rows.uptoBulk b ≤ 1048576 := by
  have h0 : Rows.uptoBulkAll [a, b, c] ≤ 1048576 := of_decide_eq_true h
  simp only [Rows.uptoBulkAll] at h0
  omega
end Go.Proofs.Ytjecbchnckknkaa
