/-
  What a byte is, in this translation.
-/
import Derived.Test.YtojmcndiooiehaaDoorRows
import Derived.WalkKit
namespace Go.Proofs.YtojmcndiooiehaaDoor
open Go.RowKit
theorem u8info : (Tryd.prog.info? 5).map (fun i => (i.zero, i.size, i.bytes)) = some (some (.int .u8 0), 1, 1) := by kernel_rfl
end Go.Proofs.YtojmcndiooiehaaDoor
