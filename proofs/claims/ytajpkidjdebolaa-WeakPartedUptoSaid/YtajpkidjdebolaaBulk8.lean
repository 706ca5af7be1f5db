/- What the second form's bound says of the first two lists that come in. -/
import Derived.Test.YtajpkidjdebolaaOpenP
set_option linter.unusedSimpArgs false
set_option linter.unusedVariables false
namespace Go.Proofs.Ytajpkidjdebolaa

theorem bulk_one8 {H : Type} (d : DataW H) : 1 ≤ Rows.uptoBulk d := by
  cases d with
  | lit l => cases l <;> simp [Rows.uptoBulk]
  | nil => simp [Rows.uptoBulk]
  | ptr d => simp [Rows.uptoBulk]
  | slice elems spare => simp [Rows.uptoBulk]
  | agg parts => simp [Rows.uptoBulk]
  | iface t d => simp [Rows.uptoBulk]
  | map entries => simp [Rows.uptoBulk]
  | held h => simp [Rows.uptoBulk]
theorem bulk_len8 {H : Type} (l : List (DataW H)) : l.length ≤ Rows.uptoBulkAll l := by
  induction l with
  | nil => simp [Rows.uptoBulkAll]
  | cons x r ih =>
    have := bulk_one8 x
    simp only [Rows.uptoBulkAll, List.length_cons]
    omega
theorem bulk_slice8 {H : Type} {a b : List (DataW H)} {m : Nat} (h : Rows.uptoBulk (DataW.slice a b) ≤ m) : a.length ≤ m := by
  have := bulk_len8 a
  simp only [Rows.uptoBulk] at h
  omega
theorem bulk_five {H : Type} {a b c d e : DataW H} (h : Rows.uptoSmall H [a, b, c, d, e] = true) : Rows.uptoBulk a ≤ 1048576 ∧ Rows.uptoBulk b ≤ 1048576 := by
  have h0 : Rows.uptoBulkAll [a, b, c, d, e] ≤ 1048576 := of_decide_eq_true h
  simp only [Rows.uptoBulkAll] at h0
  omega
end Go.Proofs.Ytajpkidjdebolaa
