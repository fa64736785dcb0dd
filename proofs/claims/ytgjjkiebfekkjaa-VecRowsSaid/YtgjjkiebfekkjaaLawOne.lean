/-
  The statements of layer 1 (field), walked: what they go through answers the plain product, which is a field's.
-/
import Derived.Test.YtgjjkiebfekkjaaRefOne
import Derived.Test.YtgjjkiebfekkjaaFrame
set_option maxRecDepth 100000
namespace Go.Proofs.Ytgjjkiebfekkjaa
open Go.RowKit

theorem mul2 (a b : Nat) (T : TypeId) (k : Nat) (w : World) (hk : k = w.heap.size) (ha : a < 256) (hb : b < 256) :
    Calls Try.prog 41 #[.slice (some ⟨k, 0, none⟩) 2 2] (w.alloc (.cells #[U8 a, U8 b] T)) fun e w' => e = .returned (U8 (Gf.mul a b)) ∧ w.alloc (.cells #[U8 a, U8 b] T) = w' := by
  subst hk
  have h := mul_any _ [a, b] _ (bytes_new w [a, b] T (by simp [ha, hb]) (by simp))
  rw [show Gf.prod [a, b] = Gf.mul a b from Gf.prod_cons ha [b]] at h
  exact h

theorem mul3 (a b c : Nat) (T : TypeId) (k : Nat) (w : World) (hk : k = w.heap.size) (ha : a < 256) (hb : b < 256) (hc : c < 256) :
    Calls Try.prog 41 #[.slice (some ⟨k, 0, none⟩) 3 3] (w.alloc (.cells #[U8 a, U8 b, U8 c] T)) fun e w' => e = .returned (U8 (Gf.mul (Gf.mul a b) c)) ∧ w.alloc (.cells #[U8 a, U8 b, U8 c] T) = w' := by
  subst hk
  have h := mul_any _ [a, b, c] _ (bytes_new w [a, b, c] T (by simp [ha, hb, hc]) (by simp))
  rw [show Gf.prod [a, b, c] = Gf.mul (Gf.mul a b) c from Gf.prod_cons ha [b, c]] at h
  exact h

theorem add2 (a b : Nat) (T : TypeId) (k : Nat) (w : World) (hk : k = w.heap.size) (ha : a < 256) (hb : b < 256) :
    Calls Try.prog 43 #[.slice (some ⟨k, 0, none⟩) 2 2] (w.alloc (.cells #[U8 a, U8 b] T)) fun e w' => e = .returned (U8 (a ^^^ b)) ∧ w.alloc (.cells #[U8 a, U8 b] T) = w' := by
  subst hk
  have h := add_any _ [a, b] _ (bytes_new w [a, b] T (by simp [ha, hb]) (by simp))
  rw [show Gf.sum [a, b] = a ^^^ b from by simp [Gf.sum]] at h
  exact h

/-- The same of two literals. -/
theorem mul2_lit (x y : Int) (a b c : Nat) (T : TypeId) (k : Nat) (w : World) (hk : k = w.heap.size) (hx : x = a) (hy : y = b) (ha : a < 256) (hb : b < 256) (hc : Gf.mul a b = c) :
    Calls Try.prog 41 #[.slice (some ⟨k, 0, none⟩) 2 2] (w.alloc (.cells #[.int .u8 x, .int .u8 y] T)) fun e w' => e = .returned (U8 c) ∧ w.alloc (.cells #[.int .u8 x, .int .u8 y] T) = w' := by
  subst hx; subst hy; subst hc
  exact mul2 a b T k w hk ha hb

namespace Gf
theorem pow_pow {a : Nat} (ha : a < 256) (h0 : a ≠ 0) (m n : Nat) : pow (pow a m) n = pow a (m * n) := by
  rw [← exp_log ha h0, pow_exp, pow_exp, pow_exp, Nat.mul_assoc]
end Gf

theorem powV_neg {a : Nat} {n : Int} (ha : a < 256) (h0 : a ≠ 0) (hn : n < 0) : powV a n = Gf.pow (Gf.inv a) (-(n + 1) + 1).toNat := by
  rw [show -(n + 1) + 1 = -n from by omega]
  unfold powV
  rw [if_neg h0, ← pow_254 ha h0, Gf.pow_pow ha h0, ← Gf.pow_mod ha h0 (254 * (-n).toNat)]
  congr 1
  unfold rem255
  omega

theorem powV_nonneg {a : Nat} {n : Int} (ha : a < 256) (hn : 0 ≤ n) : powV a n = Gf.pow a n.toNat := by
  unfold powV
  by_cases h0 : a = 0
  · rw [if_pos h0, h0]
    by_cases h1 : n = 0
    · rw [if_pos h1, h1]; rfl
    · rw [if_neg h1]
      obtain ⟨m, hm⟩ : ∃ m, n.toNat = m + 1 := ⟨n.toNat - 1, by omega⟩
      rw [hm, Gf.pow_zero_succ]
  · rw [if_neg h0, ← Gf.pow_mod ha h0 n.toNat]
    congr 1
    unfold rem255
    omega

theorem powE_ok {a : Nat} {n : Int} (h : a ≠ 0 ∨ 0 ≤ n) : powE a n = 0 := by
  unfold powE
  split
  · split
    · omega
    · rfl
  · rfl

end Go.Proofs.Ytgjjkiebfekkjaa
