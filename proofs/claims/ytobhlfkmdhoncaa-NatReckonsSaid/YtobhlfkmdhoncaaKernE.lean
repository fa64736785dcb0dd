/-
  Many bytes at once (layer 2) in the program: 'Dot', 'Zero'.
-/
import Derived.Test.YtobhlfkmdhoncaaKernD
import Derived.Test.YtobhlfkmdhoncaaBlk
import Derived.Deep.RegionHeld3
set_option maxRecDepth 100000
namespace Go.Proofs.Ytobhlfkmdhoncaa
open Go.RowKit

namespace Gf
/-- The sum of the products of the first k places. -/
def dotK (a b : List Nat) : Nat → Nat
  | 0 => 0
  | k + 1 => dotK a b k ^^^ mul (nth a k) (nth b k)
theorem dotK_lt {a : List Nat} (b : List Nat) (ha : ∀ x, x ∈ a → x < 256) : ∀ k, dotK a b k < 256
  | 0 => show 0 < 256 by decide
  | k + 1 => xor_lt (dotK_lt b ha k) (mul_lt (nth_lt ha k) _)
end Gf

/-- What Dot answers. -/
def dotV (x y : List Nat) : Nat := if x.length = y.length then Gf.dotK x y x.length else 0

/-! ### Zero -/

/-- Are all 0? -/
def zeroB (l : List Nat) : Bool := l.all fun x => x == 0

theorem zeroB_eq (l : List Nat) : (!zeroB l) = decide (∃ i, i < l.length ∧ nth l i ≠ 0) := by
  rw [Bool.eq_iff_iff]
  simp only [zeroB, Bool.not_eq_true', List.all_eq_false, beq_iff_eq, decide_eq_true_eq]
  constructor
  · rintro ⟨x, hx, hne⟩
    obtain ⟨i, hi, rfl⟩ := List.getElem_of_mem hx
    exact ⟨i, hi, by rw [nth_eq l i hi]; exact hne⟩
  · rintro ⟨i, hi, hne⟩
    exact ⟨l[i], List.getElem_mem hi, by rw [nth_eq l i hi] at hne; exact hne⟩

end Go.Proofs.Ytobhlfkmdhoncaa
