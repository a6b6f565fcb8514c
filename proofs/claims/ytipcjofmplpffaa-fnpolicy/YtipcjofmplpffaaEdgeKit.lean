/-
  What the laws' own helpers on edges return: equality, marks, copies.
-/
import Derived.Test.YtipcjofmplpffaaLawKitD
import Derived.Test.YtipcjofmplpffaaPairs
namespace Go.Proofs.Ytipcjofmplpffaa
open Go.RowKit

end Go.Proofs.Ytipcjofmplpffaa
