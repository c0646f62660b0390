/-
  Contracts of the document's: Divide, Both, Shift; of the statements' own: less, awake.
-/
import Derived.Test.YtfnjjanknfmibaaGreatCellC
namespace Go.Proofs.YtfnjjanknfmibaaGreat
set_option linter.unusedVariables false
open Go.RowKit

end Go.Proofs.YtfnjjanknfmibaaGreat
