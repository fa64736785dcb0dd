/-
  The statements of layer 1 (field), walked: parts, powers of 2, and a field's laws.
-/
import Derived.Test.YtobhlfkmdhoncaaLawOne
set_option maxRecDepth 100000
namespace Go.Proofs.Ytobhlfkmdhoncaa
open Go.RowKit

theorem rem255_small (k : Nat) (h : k < 255) : rem255 (k : Int) = k := by unfold rem255; omega

end Go.Proofs.Ytobhlfkmdhoncaa
