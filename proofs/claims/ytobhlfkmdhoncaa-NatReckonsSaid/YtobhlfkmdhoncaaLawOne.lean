/-
  The statements of layer 1 (field), walked: what they go through answers the plain product, which is a field's.
-/
import Derived.Test.YtobhlfkmdhoncaaRefOne
import Derived.Test.YtobhlfkmdhoncaaFrame
set_option maxRecDepth 100000
namespace Go.Proofs.Ytobhlfkmdhoncaa
open Go.RowKit

namespace Gf
theorem pow_pow {a : Nat} (ha : a < 256) (h0 : a ≠ 0) (m n : Nat) : pow (pow a m) n = pow a (m * n) := by
  rw [← exp_log ha h0, pow_exp, pow_exp, pow_exp, Nat.mul_assoc]
end Gf

theorem powV_neg {a : Nat} {n : Int} (ha : a < 256) (h0 : a ≠ 0) (hn : n < 0) : powV a n = Gf.pow (Gf.inv a) (-(n + 1) + 1).toNat := by
  rw [show -(n + 1) + 1 = -n from by omega]
  unfold powV
  rw [if_neg h0, ← pow_254 ha h0, Gf.pow_pow ha h0, ← Gf.pow_mod ha h0 (254 * (-n).toNat)]
  congr 1
  unfold rem255
  omega

theorem powV_nonneg {a : Nat} {n : Int} (ha : a < 256) (hn : 0 ≤ n) : powV a n = Gf.pow a n.toNat := by
  unfold powV
  by_cases h0 : a = 0
  · rw [if_pos h0, h0]
    by_cases h1 : n = 0
    · rw [if_pos h1, h1]; rfl
    · rw [if_neg h1]
      obtain ⟨m, hm⟩ : ∃ m, n.toNat = m + 1 := ⟨n.toNat - 1, by omega⟩
      rw [hm, Gf.pow_zero_succ]
  · rw [if_neg h0, ← Gf.pow_mod ha h0 n.toNat]
    congr 1
    unfold rem255
    omega

theorem powE_ok {a : Nat} {n : Int} (h : a ≠ 0 ∨ 0 ≤ n) : powE a n = 0 := by
  unfold powE
  split
  · split
    · omega
    · rfl
  · rfl

end Go.Proofs.Ytobhlfkmdhoncaa
