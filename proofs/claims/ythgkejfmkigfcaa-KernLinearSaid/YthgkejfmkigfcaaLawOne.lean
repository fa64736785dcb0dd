/-
  The statements of layer 1 (field), walked: what they go through answers the plain product, which is a field's.
-/
import Derived.Test.YthgkejfmkigfcaaRefOne
import Derived.Test.YthgkejfmkigfcaaFrame
set_option maxRecDepth 100000
namespace Go.Proofs.Ythgkejfmkigfcaa
open Go.RowKit

theorem mul2 (a b : Nat) (T : TypeId) (k : Nat) (w : World) (hk : k = w.heap.size) (ha : a < 256) (hb : b < 256) :
    Calls Try.prog 13 #[.slice (some ⟨k, 0, none⟩) 2 2] (w.alloc (.cells #[U8 a, U8 b] T)) fun e w' => e = .returned (U8 (Gf.mul a b)) ∧ w.alloc (.cells #[U8 a, U8 b] T) = w' := by
  subst hk
  have h := mul_any _ [a, b] _ (bytes_new w [a, b] T (by simp [ha, hb]) (by simp))
  rw [show Gf.prod [a, b] = Gf.mul a b from Gf.prod_cons ha [b]] at h
  exact h

theorem mul3 (a b c : Nat) (T : TypeId) (k : Nat) (w : World) (hk : k = w.heap.size) (ha : a < 256) (hb : b < 256) (hc : c < 256) :
    Calls Try.prog 13 #[.slice (some ⟨k, 0, none⟩) 3 3] (w.alloc (.cells #[U8 a, U8 b, U8 c] T)) fun e w' => e = .returned (U8 (Gf.mul (Gf.mul a b) c)) ∧ w.alloc (.cells #[U8 a, U8 b, U8 c] T) = w' := by
  subst hk
  have h := mul_any _ [a, b, c] _ (bytes_new w [a, b, c] T (by simp [ha, hb, hc]) (by simp))
  rw [show Gf.prod [a, b, c] = Gf.mul (Gf.mul a b) c from Gf.prod_cons ha [b, c]] at h
  exact h

theorem add2 (a b : Nat) (T : TypeId) (k : Nat) (w : World) (hk : k = w.heap.size) (ha : a < 256) (hb : b < 256) :
    Calls Try.prog 12 #[.slice (some ⟨k, 0, none⟩) 2 2] (w.alloc (.cells #[U8 a, U8 b] T)) fun e w' => e = .returned (U8 (a ^^^ b)) ∧ w.alloc (.cells #[U8 a, U8 b] T) = w' := by
  subst hk
  have h := add_any _ [a, b] _ (bytes_new w [a, b] T (by simp [ha, hb]) (by simp))
  rw [show Gf.sum [a, b] = a ^^^ b from by simp [Gf.sum]] at h
  exact h

/-- The same of two literals. -/
theorem mul2_lit (x y : Int) (a b c : Nat) (T : TypeId) (k : Nat) (w : World) (hk : k = w.heap.size) (hx : x = a) (hy : y = b) (ha : a < 256) (hb : b < 256) (hc : Gf.mul a b = c) :
    Calls Try.prog 13 #[.slice (some ⟨k, 0, none⟩) 2 2] (w.alloc (.cells #[.int .u8 x, .int .u8 y] T)) fun e w' => e = .returned (U8 c) ∧ w.alloc (.cells #[.int .u8 x, .int .u8 y] T) = w' := by
  subst hx; subst hy; subst hc
  exact mul2 a b T k w hk ha hb

theorem exp_eight (w : World) :
    Calls Try.prog 17 #[.int .i64 8] w fun e w' => e = .returned (U8 29) ∧ w = w' := exp_any 8 w

set_option maxHeartbeats 400000 in
theorem awake1_any (w : World) :
    Calls Try.prog 10 #[] w fun e w' => e = .returned (.bool true) ∧ Below w.heap.size w w' := by
  go_enter Try.func10, Try.ntmps10
  go_wp2_with fail
  refine (mul2_lit 2 128 2 128 29 _ _ _ rfl rfl rfl (by omega) (by omega) rfl).mono ?_
  rintro e w' ⟨rfl, rfl⟩
  go_wp2_with fail
  refine (mul2_lit 3 3 3 3 5 _ _ _ (by simp) rfl rfl (by omega) (by omega) rfl).mono ?_
  rintro e w' ⟨rfl, rfl⟩
  go_wp2_with fail
  refine (exp_eight _).mono ?_
  rintro e w' ⟨rfl, rfl⟩
  go_wp2_with fail
  go_ret
  exact ⟨rfl, ((Below.refl _ _).alloc (Nat.le_refl _) _).alloc (by simp) _⟩

namespace Gf
theorem pow_pow {a : Nat} (ha : a < 256) (h0 : a ≠ 0) (m n : Nat) : pow (pow a m) n = pow a (m * n) := by
  rw [← exp_log ha h0, pow_exp, pow_exp, pow_exp, Nat.mul_assoc]
end Gf

theorem powV_neg {a : Nat} {n : Int} (ha : a < 256) (h0 : a ≠ 0) (hn : n < 0) : powV a n = Gf.pow (Gf.inv a) (-(n + 1) + 1).toNat := by
  rw [show -(n + 1) + 1 = -n from by omega]
  unfold powV
  rw [if_neg h0, ← pow_254 ha h0, Gf.pow_pow ha h0, ← Gf.pow_mod ha h0 (254 * (-n).toNat)]
  congr 1
  unfold rem255
  omega

theorem powV_nonneg {a : Nat} {n : Int} (ha : a < 256) (hn : 0 ≤ n) : powV a n = Gf.pow a n.toNat := by
  unfold powV
  by_cases h0 : a = 0
  · rw [if_pos h0, h0]
    by_cases h1 : n = 0
    · rw [if_pos h1, h1]; rfl
    · rw [if_neg h1]
      obtain ⟨m, hm⟩ : ∃ m, n.toNat = m + 1 := ⟨n.toNat - 1, by omega⟩
      rw [hm, Gf.pow_zero_succ]
  · rw [if_neg h0, ← Gf.pow_mod ha h0 n.toNat]
    congr 1
    unfold rem255
    omega

theorem powE_ok {a : Nat} {n : Int} (h : a ≠ 0 ∨ 0 ≤ n) : powE a n = 0 := by
  unfold powE
  split
  · split
    · omega
    · rfl
  · rfl

theorem refpow_int (a : Nat) (m : Int) (w : World) (ha : a < 256) (h0 : 0 ≤ m) (h1 : m < 18446744073709551616) :
    Calls Try.prog 21 #[U8 a, .int .u64 m] w fun e w' => e = .returned (U8 (Gf.pow a m.toNat)) ∧ w = w' := by
  obtain ⟨n, rfl⟩ := Int.eq_ofNat_of_zero_le h0
  exact refpow_any a n w ha (by omega)

set_option maxHeartbeats 400000 in
theorem fieldPowers_neg (a : Nat) (n : Int) (w : World) (ha : a < 256) (h0 : -9223372036854775808 ≤ n) (hn : n < 0) (ha0 : a ≠ 0) :
    Calls Try.prog 5 #[U8 a, .int .i64 n] w fun e w' => e = .returned (.bool true) ∧ Below w.heap.size w w' := by
  have hb1 : ((a : Int) == 0) = false := beq_eq_false_iff_ne.2 (by omega)
  have HE := Lib.hid (powE_ok (n := n) (Or.inl ha0))
  have HV := Lib.hid (powV_neg ha ha0 hn)
  have hi := Gf.inv_lt a
  clear ha0
  go_enter Try.func5, Try.ntmps5
  go_wp2_with fail
  refine (awake1_any _).mono ?_
  rintro e w' ⟨rfl, hb⟩
  go_wp2_with fail
  refine (pow_any _ _ _ ha).mono ?_
  rintro e w' ⟨rfl, rfl⟩
  rw [HE.out, HV.out]
  go_wp2_with fail
  refine (refinv_any _ _ ha).mono ?_
  rintro e w' ⟨rfl, rfl⟩
  go_wp2_with fail
  refine (refpow_int _ _ _ hi (by omega) (by omega)).mono ?_
  rintro e w' ⟨rfl, rfl⟩
  go_wp2_with fail
  go_ret
  exact ⟨rfl, hb⟩

set_option maxHeartbeats 400000 in
theorem fieldPowers_zero (n : Int) (w : World) (hn : n < 0) :
    Calls Try.prog 5 #[U8 0, .int .i64 n] w fun e w' => e = .returned (.bool true) ∧ Below w.heap.size w w' := by
  have HE : Hid (powE 0 n = 3) := Lib.hid (by simp [powE, hn])
  have HV : Hid (powV 0 n = 0) := Lib.hid (by have : ¬ n = 0 := by omega
                                              simp [powV, this])
  go_enter Try.func5, Try.ntmps5
  go_wp2_with fail
  refine (awake1_any _).mono ?_
  rintro e w' ⟨rfl, hb⟩
  go_wp2_with fail
  refine (pow_any _ _ _ (by omega)).mono ?_
  rintro e w' ⟨rfl, rfl⟩
  rw [HE.out, HV.out]
  go_wp2_with fail
  go_ret
  exact ⟨rfl, hb⟩

set_option maxHeartbeats 400000 in
theorem fieldPowers_up (a : Nat) (n : Int) (w : World) (ha : a < 256) (hn : 0 ≤ n) (h1 : n ≤ 9223372036854775807) :
    Calls Try.prog 5 #[U8 a, .int .i64 n] w fun e w' => e = .returned (.bool true) ∧ Below w.heap.size w w' := by
  have HE := Lib.hid (powE_ok (a := a) (n := n) (Or.inr hn))
  have HV := Lib.hid (powV_nonneg ha hn)
  go_enter Try.func5, Try.ntmps5
  go_wp2_with fail
  refine (awake1_any _).mono ?_
  rintro e w' ⟨rfl, hb⟩
  go_wp2_with fail
  refine (pow_any _ _ _ ha).mono ?_
  rintro e w' ⟨rfl, rfl⟩
  rw [HE.out, HV.out]
  go_wp2_with fail
  refine (refpow_int _ _ _ ha (by omega) (by omega)).mono ?_
  rintro e w' ⟨rfl, rfl⟩
  go_wp2_with fail
  go_ret
  exact ⟨rfl, hb⟩

theorem fieldPowers_walk (a : Nat) (n : Int) (w : World) (ha : a < 256) (h0 : -9223372036854775808 ≤ n) (h1 : n ≤ 9223372036854775807) :
    Calls Try.prog 5 #[U8 a, .int .i64 n] w fun e w' => e = .returned (.bool true) ∧ Below w.heap.size w w' := by
  by_cases hn : n < 0
  · by_cases ha0 : a = 0
    · subst ha0; exact fieldPowers_zero n w hn
    · exact fieldPowers_neg a n w ha h0 hn ha0
  · exact fieldPowers_up a n w ha (by omega) h1

end Go.Proofs.Ythgkejfmkigfcaa
