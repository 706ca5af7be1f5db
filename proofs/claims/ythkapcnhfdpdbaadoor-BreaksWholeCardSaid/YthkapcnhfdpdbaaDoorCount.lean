/- cluster.Count. -/
import Derived.Test.YthkapcnhfdpdbaaDoorClAll
import Derived.Test.YthkapcnhfdpdbaaDoorScanC
set_option linter.unusedSimpArgs false
set_option linter.unusedVariables false
namespace Go.Proofs.YthkapcnhfdpdbaaDoor
open Go.RowKit Go.Shelf Go.Lib
attribute [local go_sem] Oper.semAt_some

theorem pcsF_len (s : ByteArray) : ∀ (f i : Nat), (pcsF s f i).length ≤ f
  | 0, _ => Nat.le_refl _
  | f + 1, i => by
    unfold pcsF
    split
    · have := pcsF_len s f (clEnd s i)
      simp
      omega
    · simp
theorem pcs_len (s : ByteArray) : (pcs s).length ≤ s.size := by
  have h1 := pcsF_len s (chars s) 0
  have h2 := segs_len s.data.toList
  rw [size_list] at h2
  unfold pcs
  unfold chars at h1 ⊢
  omega
end Go.Proofs.YthkapcnhfdpdbaaDoor
