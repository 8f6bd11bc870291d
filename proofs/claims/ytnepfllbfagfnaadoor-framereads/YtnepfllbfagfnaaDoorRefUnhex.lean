/- The document's Unhex: its contract. -/
import Derived.Test.YtnepfllbfagfnaaDoorRefHex
namespace Go.Proofs.YtnepfllbfagfnaaDoor
open Go.RowKit
end Go.Proofs.YtnepfllbfagfnaaDoor
