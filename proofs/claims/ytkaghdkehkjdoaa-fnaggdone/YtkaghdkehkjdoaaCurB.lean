/-
  The cursor's once and label.
-/
import Derived.Test.YtkaghdkehkjdoaaCurR
namespace Go.Proofs.Ytkaghdkehkjdoaa
open Go.RowKit

end Go.Proofs.Ytkaghdkehkjdoaa
