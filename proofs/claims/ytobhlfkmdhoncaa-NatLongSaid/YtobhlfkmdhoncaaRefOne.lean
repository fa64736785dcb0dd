/-
  The document's answer for bytes (wellspringref01), in the program: it answers the same plain product.
-/
import Derived.Test.YtobhlfkmdhoncaaPow
set_option maxRecDepth 100000
namespace Go.Proofs.Ytobhlfkmdhoncaa
open Go.RowKit

/-- A uint64 out of a number. -/
abbrev U64 (n : Nat) : Value := .int .u64 (n : Int)

namespace Gf
theorem clK_lt {a : Nat} (ha : a < 256) (b : Nat) : ∀ k, k ≤ 8 → clK a b k < 32768
  | 0, _ => show 0 < 32768 by decide
  | k + 1, hk => by
    simp only [clK]
    refine Nat.xor_lt_two_pow (n := 15) (clK_lt ha b k (by omega)) ?_
    split
    · have h : ∀ k : Fin 8, ∀ a : Fin 256, a.1 <<< k.1 < 2 ^ 15 := by decide +kernel
      exact h ⟨k, by omega⟩ ⟨a, ha⟩
    · decide

/-- Some places taken away, from the greatest on. -/
def redK (s : Nat) : Nat → Nat
  | 0 => s
  | n + 1 => redStep (redK s n) (14 - n)

theorem redK_lt {s : Nat} (hs : s < 32768) : ∀ n, n ≤ 7 → redK s n < 32768
  | 0, _ => hs
  | n + 1, hn => by
    simp only [redK, redStep]
    refine Nat.xor_lt_two_pow (n := 15) (redK_lt hs n (by omega)) ?_
    split
    · have h : ∀ k : Fin 7, 285 <<< (14 - k.1 - 8) < 2 ^ 15 := by decide +kernel
      exact h ⟨n, by omega⟩
    · decide

theorem redK_red (s : Nat) : redK s 7 = red s := rfl
end Gf

theorem tmod_bit (b k : Nat) : (((b : Int) / 2 ^ k).tmod 2 == 1) = b.testBit k := by
  have e : ((b : Int) / 2 ^ k) = ((b / 2 ^ k : Nat) : Int) := by simp
  rw [e, Nat.testBit_eq_decide_div_mod_eq, Int.tmod_eq_emod_of_nonneg (Int.natCast_nonneg _)]
  generalize b / 2 ^ k = q
  rw [Bool.eq_iff_iff]; simp; omega

theorem shl_u64 (a k : Nat) (h : a <<< k < 18446744073709551616) : IntKind.u64.wrap ((a : Int) * 2 ^ k) = ((a <<< k : Nat) : Int) := by
  have e : ((a : Int) * 2 ^ k) = ((a <<< k : Nat) : Int) := by rw [Nat.shiftLeft_eq]; simp
  rw [e]
  have h2 : IntKind.u64.wrap ((a <<< k : Nat) : Int) = ((a <<< k : Nat) : Int) % 18446744073709551616 := by simp [IntKind.wrap, IntKind.bits, IntKind.signed]
  rw [h2]; exact Int.emod_eq_of_lt (Int.natCast_nonneg _) (Int.ofNat_lt.2 h)

theorem shl_small (a k : Nat) (ha : a < 256) (hk : k < 8) : a <<< k < 18446744073709551616 := by
  have h : ∀ k : Fin 8, ∀ a : Fin 256, a.1 <<< k.1 < 18446744073709551616 := by decide +kernel
  exact h ⟨k, hk⟩ ⟨a, ha⟩

theorem cl_spell (a b k : Nat) (ha : a < 256) (hk : k < 8) (hbit : b.testBit k = true) :
    bits BinOp.xor IntKind.u64 (Gf.clK a b k : Int) (IntKind.u64.wrap ((a : Int) * 2 ^ k)) = (Gf.clK a b (k + 1) : Int) := by
  have h1 := Gf.clK_lt ha b k (by omega)
  rw [shl_u64 _ _ (shl_small a k ha hk), u64_xor_nat _ _ (by omega) (shl_small a k ha hk)]
  simp only [Gf.clK]; rw [if_pos hbit]

theorem cl_skip (a b k : Nat) (hbit : b.testBit k = false) : Gf.clK a b (k + 1) = Gf.clK a b k := by
  simp only [Gf.clK]; rw [hbit]; simp

theorem red_spell (s n : Nat) (hs : s < 32768) (hn : n < 7) (hbit : (Gf.redK s n).testBit (14 - n) = true) :
    bits BinOp.xor IntKind.u64 (Gf.redK s n : Int) (IntKind.u64.wrap (285 * 2 ^ (14 - n - 8))) = (Gf.redK s (n + 1) : Int) := by
  have h1 := Gf.redK_lt hs n (by omega)
  have h2 : (285 : Nat) <<< (14 - n - 8) < 18446744073709551616 := by
    have h : ∀ k : Fin 7, (285 : Nat) <<< (14 - k.1 - 8) < 18446744073709551616 := by decide +kernel
    exact h ⟨n, hn⟩
  have e := shl_u64 285 (14 - n - 8) h2
  have e' : IntKind.u64.wrap (285 * 2 ^ (14 - n - 8)) = ((285 <<< (14 - n - 8) : Nat) : Int) := e
  rw [e', u64_xor_nat _ _ (by omega) h2]
  simp only [Gf.redK, Gf.redStep]; rw [if_pos hbit]

theorem red_skip (s n : Nat) (hbit : (Gf.redK s n).testBit (14 - n) = false) : Gf.redK s (n + 1) = Gf.redK s n := by
  simp only [Gf.redK, Gf.redStep]; rw [hbit]; simp

theorem refexp_spell (n : Int) : (if n.tmod 255 < 0 then n.tmod 255 + 255 else n.tmod 255) = (rem255 n : Int) := by
  have h := Int.tmod_eq_emod (a := n) (b := 255)
  unfold rem255
  rw [h]; split <;> split <;> omega

end Go.Proofs.Ytobhlfkmdhoncaa
