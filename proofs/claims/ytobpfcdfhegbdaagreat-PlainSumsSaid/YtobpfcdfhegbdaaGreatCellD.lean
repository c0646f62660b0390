/-
  Contracts of the document's: Divide, Both, Shift; of the statements' own: less, awake.
-/
import Derived.Test.YtobpfcdfhegbdaaGreatCellC
namespace Go.Proofs.YtobpfcdfhegbdaaGreat
set_option linter.unusedVariables false
open Go.RowKit

end Go.Proofs.YtobpfcdfhegbdaaGreat
