/- The digest of the document. -/
import Derived.Test.YtjhjolnflkekoaaDoorPcs
import Derived.Test.YtjhjolnflkekoaaDoorSSums
namespace Go.Proofs.YtjhjolnflkekoaaDoor
open Go.RowKit
theorem refDig_any (s : ByteArray) (hs : s.size ≤ 100000000000) (w : World) : Calls Tryd.prog 32 #[.string s] w fun e w' => e = .returned (.string (dg s)) ∧ Below w.heap.size w w' := S.refSum_any s hs w
end Go.Proofs.YtjhjolnflkekoaaDoor
