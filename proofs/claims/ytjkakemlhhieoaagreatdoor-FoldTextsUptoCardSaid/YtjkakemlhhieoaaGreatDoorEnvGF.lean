/- The table of fold.pairs and those of unicode/utf8, as the card's condition lays them. -/
import Derived.Test.YtjkakemlhhieoaaGreatDoorClose
import Derived.Test.YtjkakemlhhieoaaGreatDoorWalkGF
set_option linter.unusedSimpArgs false
set_option linter.unusedVariables false
namespace Go.Proofs.YtjkakemlhhieoaaGreatDoor
open Go.ChangeShapes Go.WideShapes Go.ChangeAt Go.RowKit Go.Lib

theorem pairs_eq : (Rows.laid_shuttle_fold_pairs : DataW Unit) = pairsData := by kernel_rfl
theorem pairs_tab {W : World} (h : laidMetH Tryz.prog laidL W) : PairV W := by
  rw [MakeChecks.laidMetH_plain _ _ _ (by kernel_rfl)] at h
  exact pairV_of_reads (pairs_eq ▸ Lib.laidMet.reads h (.tail _ (.head _)))
theorem env5 {W : World} (h : laidMetH Tryz.prog laidL W) : Env5 W := ⟨tabs h, pairs_tab h⟩
end Go.Proofs.YtjkakemlhhieoaaGreatDoor
