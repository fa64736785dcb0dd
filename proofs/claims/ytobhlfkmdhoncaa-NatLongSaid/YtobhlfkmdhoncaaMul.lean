/-
  The byte's product in the program: 'double', 'times', and that they answer the plain product of XGf.
-/
import Derived.Test.YtobhlfkmdhoncaaRows
import Derived.Test.YtobhlfkmdhoncaaGf
import Derived.WalkKit
import Derived.WalkSpells
import Derived.WalkLawsBesides
import Derived.Lib.Hide
set_option maxRecDepth 100000
namespace Go.Proofs.Ytobhlfkmdhoncaa
open Go.RowKit

/-- One byte out of two numbers. -/
abbrev U8 (n : Nat) : Value := .int .u8 (n : Int)

theorem ret_u8 {a : Int} {b : Nat} (h : a = b) : Ending.returned (.int .u8 a) = .returned (U8 b) := by rw [h]

theorem dbl_spell : ∀ a : Fin 256, bits BinOp.xor IntKind.u8 ((a.1 : Int) * 2 % 256) (bits BinOp.and IntKind.u8 29 (-((a.1 : Int) / 128) % 256)) = (Gf.dbl a.1 : Int) := by decide +kernel

theorem dbl_sp {a : Nat} (h1 : a < 256) : bits BinOp.xor IntKind.u8 ((a : Int) * 2 % 256) (bits BinOp.and IntKind.u8 29 (-((a : Int) / 128) % 256)) = (Gf.dbl a : Int) :=
  dbl_spell ⟨a, h1⟩

theorem bit_spell (b k : Nat) (hb : b < 256) : bits BinOp.and IntKind.u8 ((b : Int) / 2 ^ k) 1 = ((if b.testBit k then 1 else 0 : Nat) : Int) := by
  have e : ((b : Int) / 2 ^ k) = ((b / 2 ^ k : Nat) : Int) := by simp
  have hlt : b / 2 ^ k < 256 := Nat.lt_of_le_of_lt (Nat.div_le_self _ _) hb
  rw [e, show (1 : Int) = ((1 : Nat) : Int) from rfl, u8_and_nat _ _ hlt (by omega), nat_mask1, Nat.testBit_eq_decide_div_mod_eq]
  by_cases h : b / 2 ^ k % 2 = 1
  · simp [h]
  · have : b / 2 ^ k % 2 = 0 := by omega
    simp [this]

theorem mask_spell (p d b k : Nat) (hp : p < 256) (hd : d < 256) (hb : b < 256) :
    bits BinOp.xor IntKind.u8 (p : Int) (bits BinOp.and IntKind.u8 (d : Int) (-bits BinOp.and IntKind.u8 ((b : Int) / 2 ^ k) 1 % 256)) = ((p ^^^ (if b.testBit k then d else 0) : Nat) : Int) := by
  rw [bit_spell b k hb]
  cases b.testBit k
  · have e : (-(((if false = true then 1 else 0 : Nat)) : Int) % 256) = ((0 : Nat) : Int) := by decide
    rw [e, u8_and_nat _ _ hd (by omega), u8_xor_nat _ _ hp (by simp)]; simp
  · have e : (-(((if true = true then 1 else 0 : Nat)) : Int) % 256) = ((255 : Nat) : Int) := by decide
    rw [e, u8_and_nat _ _ hd (by omega), nat_mask8, Nat.mod_eq_of_lt hd, u8_xor_nat _ _ hp hd]; simp

end Go.Proofs.Ytobhlfkmdhoncaa
