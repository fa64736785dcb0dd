/-
  Many bytes at once (layer 2) in the program: are rows alike? ('alike', its closure, and the library's IndexFunc and ContainsFunc over it).
-/
import Derived.Test.YtobhlfkmdhoncaaKernA
import Derived.Test.YtobhlfkmdhoncaaMat
set_option maxRecDepth 100000
namespace Go.Proofs.Ytobhlfkmdhoncaa
open Go.RowKit

/-- Has each row the length of the first? -/
def alikeB (ll : List (List Nat)) : Bool := ll.all fun r => r.length == (rowAt ll 0).length

/-- A place was found, or none: which, it doesn't say. -/
def Found (t : Bool) (w : World) (e : Ending) (w' : World) : Prop := ∃ r : Int, e = .returned (.int .i64 r) ∧ decide (0 ≤ r) = t ∧ w = w'

/-- The first length, and whether another row has another one. -/
theorem alikeB_eq (ll : List (List Nat)) : (!alikeB ll) = decide (∃ i, i < ll.length ∧ (rowAt ll i).length ≠ (rowAt ll 0).length) := by
  rw [Bool.eq_iff_iff]
  simp only [alikeB, Bool.not_eq_true', List.all_eq_false, beq_iff_eq, decide_eq_true_eq]
  constructor
  · rintro ⟨x, hx, hne⟩
    obtain ⟨i, hi, rfl⟩ := List.getElem_of_mem hx
    exact ⟨i, hi, by rw [rowAt_eq ll i hi]; exact hne⟩
  · rintro ⟨i, hi, hne⟩
    exact ⟨ll[i], List.getElem_mem hi, by rw [rowAt_eq ll i hi] at hne; exact hne⟩

end Go.Proofs.Ytobhlfkmdhoncaa
