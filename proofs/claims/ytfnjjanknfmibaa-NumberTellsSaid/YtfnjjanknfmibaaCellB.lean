/-
  Contracts of package cell: the signed divisions.
-/
import Derived.Test.YtfnjjanknfmibaaCellA
namespace Go.Proofs.Ytfnjjanknfmibaa
set_option linter.unusedVariables false
open Go.RowKit

end Go.Proofs.Ytfnjjanknfmibaa
