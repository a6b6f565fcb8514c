/-
  The type of bytes.
-/
import Derived.Test.YtmkfmohahfaemaaDoorBase
namespace Go.Proofs.YtmkfmohahfaemaaDoor
open Go.RowKit

theorem info_byte : (Tryd.prog.info? 5).map (fun i => (i.zero, i.size, i.bytes)) = some (some (.int .u8 0), 1, 1) := by kernel_rfl
end Go.Proofs.YtmkfmohahfaemaaDoor
