/- Lists that are the same, in one word. -/
import Derived.Test.YtfegbfhkmdmheaaDoorSame
set_option linter.unusedSimpArgs false
set_option linter.unusedVariables false
namespace Go.Proofs.YtfegbfhkmdmheaaDoor
open Go.RowKit Go.Lib
end Go.Proofs.YtfegbfhkmdmheaaDoor
