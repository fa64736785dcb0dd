/-
  Many bytes at once (layer 2) in the program: 'Comb'.
-/
import Derived.Test.YtobhlfkmdhoncaaKernC
set_option maxRecDepth 100000
namespace Go.Proofs.Ytobhlfkmdhoncaa
open Go.RowKit

/-- What Comb answers. -/
def combL (cs : List Nat) (ll : List (List Nat)) : List Nat := if cs.length = ll.length ∧ alikeB ll = true ∧ ll ≠ [] then combK cs ll ll.length else []
def combE (cs : List Nat) (ll : List (List Nat)) : Int := if cs.length = ll.length ∧ alikeB ll = true then 0 else 4

end Go.Proofs.Ytobhlfkmdhoncaa
