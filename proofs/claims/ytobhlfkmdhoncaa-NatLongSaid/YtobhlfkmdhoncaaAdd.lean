/-
  field.Add and field.Mul, of as many bytes as one likes.
-/
import Derived.Test.YtobhlfkmdhoncaaBytes
set_option maxRecDepth 100000
namespace Go.Proofs.Ytobhlfkmdhoncaa
open Go.RowKit

namespace Gf
def sum (l : List Nat) : Nat := l.foldl (· ^^^ ·) 0
def prod (l : List Nat) : Nat := l.foldl mul 1

theorem sum_snoc (l : List Nat) (x : Nat) : sum (l ++ [x]) = sum l ^^^ x := by simp [sum]
theorem prod_snoc (l : List Nat) (x : Nat) : prod (l ++ [x]) = mul (prod l) x := by simp [prod]

theorem foldl_xor_lt : ∀ (l : List Nat) (s : Nat), s < 256 → (∀ x, x ∈ l → x < 256) → l.foldl (· ^^^ ·) s < 256
  | [], _, h, _ => h
  | x :: l, s, h, hl => foldl_xor_lt l (s ^^^ x) (xor_lt h (hl x (by simp))) (fun y hy => hl y (by simp [hy]))
theorem sum_lt {l : List Nat} (h : ∀ x, x ∈ l → x < 256) : sum l < 256 := foldl_xor_lt l 0 (by decide) h
theorem foldl_mul_lt : ∀ (l : List Nat) (s : Nat), s < 256 → l.foldl mul s < 256
  | [], _, h => h
  | x :: l, s, h => foldl_mul_lt l (mul s x) (mul_lt h x)
theorem prod_lt (l : List Nat) : prod l < 256 := foldl_mul_lt l 1 (by decide)
theorem prod_cons {x : Nat} (hx : x < 256) (l : List Nat) : prod (x :: l) = l.foldl mul x := by simp [prod, one_mul hx]
end Gf

end Go.Proofs.Ytobhlfkmdhoncaa
