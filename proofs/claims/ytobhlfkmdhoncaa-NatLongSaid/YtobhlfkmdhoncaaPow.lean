/-
  Powers in the program: 'remainder', 'power', 'powerOfZero', 'Pow', 'Exp', 'Log', 'Inv', 'Div'.
-/
import Derived.Test.YtobhlfkmdhoncaaAdd
set_option maxRecDepth 100000
namespace Go.Proofs.Ytobhlfkmdhoncaa
open Go.RowKit

/-- n modulo 255, from 0 on. -/
def rem255 (n : Int) : Nat := (n % 255).toNat

theorem rem255_lt (n : Int) : rem255 n < 255 := by unfold rem255; omega

theorem rem_spell (n : Int) : (wrap64 (n.tmod 255 + 255)).tmod 255 = (rem255 n : Int) := by
  have h := Int.tmod_eq_emod (a := n) (b := 255)
  have hl : (-255 : Int) < n.tmod 255 ∧ n.tmod 255 < 255 := by
    rw [h]; split <;> omega
  rw [IntWalk.wrap64_in _ ⟨by omega, by omega⟩, Int.tmod_eq_emod_of_nonneg (by omega)]
  unfold rem255
  rw [h]; split <;> omega

theorem and_one_small : ∀ m : Fin 256, bits BinOp.and IntKind.i64 (m.1 : Int) 1 = (m.1 : Int) % 2 := by decide +kernel
theorem and_one_i64 (m : Nat) (h : m < 255) : bits BinOp.and IntKind.i64 (m : Int) 1 = (m : Int) % 2 := and_one_small ⟨m, by omega⟩

/-- An int64 that is a named type's too: the errors' numbers. -/
abbrev I64 (n : Int) : Value := .int .i64 n

/-- What Pow answers: the power. -/
def powV (a : Nat) (n : Int) : Nat := if a = 0 then (if n = 0 then 1 else 0) else Gf.pow a (rem255 n)
/-- What Pow answers: the error's number. -/
def powE (a : Nat) (n : Int) : Int := if a = 0 then (if n < 0 then 3 else 0) else 0

theorem rem255_neg_one : rem255 (-1) = 254 := by decide

theorem pow_254 {a : Nat} (ha : a < 256) (h0 : a ≠ 0) : Gf.pow a 254 = Gf.inv a := by
  have h1 : Gf.mul a (Gf.pow a 254) = 1 := by
    rw [Gf.mul_comm ha (Gf.pow_lt ha _)]
    show Gf.pow a 255 = 1
    rw [← Gf.pow_mod ha h0]; rfl
  exact Gf.mul_cancel ha (Gf.pow_lt ha _) (Gf.inv_lt a) h0 (by rw [h1, Gf.mul_inv ha h0])

/-- The error's number of what is divided by a. -/
def zeroE (a : Nat) : Int := if a = 0 then 3 else 0

theorem powV_inv {a : Nat} (ha : a < 256) : powV a (-1) = Gf.inv a := by
  unfold powV
  by_cases h0 : a = 0
  · subst h0; decide
  · rw [if_neg h0, rem255_neg_one, pow_254 ha h0]
theorem powE_inv (a : Nat) : powE a (-1) = zeroE a := by
  unfold powE zeroE; split <;> simp

theorem zeroE_zero : zeroE 0 = 3 := rfl
theorem zeroE_ne {a : Nat} (h : a ≠ 0) : zeroE a = 0 := if_neg h

end Go.Proofs.Ytobhlfkmdhoncaa
