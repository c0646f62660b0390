/-
  Parts of bytes that came in; bytes appended to bytes of one's own.
-/
import Derived.Test.YtlnmbfddhdjioaaDoorShaU
import Derived.Test.YtlnmbfddhdjioaaDoorGround
import Derived.Laws.AppendOwnNone
namespace Go.Proofs.YtlnmbfddhdjioaaDoor
open Go.RowKit Go.Deep Go.ChangeShapes Go.WideShapes

end Go.Proofs.YtlnmbfddhdjioaaDoor
