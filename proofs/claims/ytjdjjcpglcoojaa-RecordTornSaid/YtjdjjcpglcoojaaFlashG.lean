/-
  What does an operation, with whichever closure.
-/
import Derived.Test.YtjdjjcpglcoojaaFlashD
namespace Go.Proofs.Ytjdjjcpglcoojaa
open Go.RowKit

end Go.Proofs.Ytjdjjcpglcoojaa
