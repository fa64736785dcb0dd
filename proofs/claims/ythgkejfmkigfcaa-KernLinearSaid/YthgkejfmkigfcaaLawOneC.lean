/-
  The statements of layer 1 (field), walked: parts, powers of 2, and a field's laws.
-/
import Derived.Test.YthgkejfmkigfcaaLawOne
set_option maxRecDepth 100000
namespace Go.Proofs.Ythgkejfmkigfcaa
open Go.RowKit

set_option maxHeartbeats 400000 in
theorem fieldDivides_zero (b : Nat) (n : Int) (w : World) (hb : b < 256) :
    Calls Try.prog 4 #[U8 0, U8 b, .int .i64 n] w fun e w' => e = .returned (.bool true) ∧ Below w.heap.size w w' := by
  have HD : Hid (Gf.mul b (Gf.inv 0) = 0) := Lib.hid (Gf.mul_zero b)
  have HI : Hid (Gf.inv 0 = 0) := Lib.hid rfl
  go_enter Try.func4, Try.ntmps4
  go_wp2_with fail
  refine (awake1_any _).mono ?_
  rintro e w' ⟨rfl, hbel⟩
  go_wp2_with fail
  refine (inv_any 0 _ (by omega)).mono ?_
  rintro e w' ⟨rfl, rfl⟩
  rw [HI.out, zeroE_zero]
  go_wp2_with fail
  refine (div_any _ 0 _ hb (by omega)).mono ?_
  rintro e w' ⟨rfl, rfl⟩
  rw [HD.out, zeroE_zero]
  go_wp2_with fail
  refine (log_zero _).mono ?_
  rintro e w' ⟨rfl, rfl⟩
  go_wp2_with fail
  refine (exp_any _ _).mono ?_
  rintro e w' ⟨rfl, rfl⟩
  go_wp2_with fail
  refine (refexp_any _ _).mono ?_
  rintro e w' ⟨rfl, rfl⟩
  go_wp2_with fail
  go_ret
  exact ⟨rfl, hbel⟩

theorem rem255_small (k : Nat) (h : k < 255) : rem255 (k : Int) = k := by unfold rem255; omega

set_option maxHeartbeats 400000 in
theorem fieldDivides_some (a b : Nat) (n : Int) (w : World) (ha : a < 256) (hb : b < 256) (h0 : a ≠ 0) :
    Calls Try.prog 4 #[U8 a, U8 b, .int .i64 n] w fun e w' => e = .returned (.bool true) ∧ Below w.heap.size w w' := by
  have hb1 : ((a : Int) == 0) = false := beq_eq_false_iff_ne.2 (by omega)
  have HZ := Lib.hid (zeroE_ne h0)
  have hl := Gf.log_lt ha h0
  have HE := Lib.hid (Gf.exp_log ha h0)
  have HR := Lib.hid (rem255_small _ hl)
  have hi := Gf.inv_lt a
  have HL : Hid (∀ w : World, Calls Try.prog 16 #[U8 a] w fun e w' => e = .returned (.tuple #[I64 (Gf.log a), I64 0]) ∧ w = w') := Lib.hid fun w => log_some a w ha h0
  clear h0
  generalize Gf.log a = k at hl HE HR HL
  go_enter Try.func4, Try.ntmps4
  go_wp2_with fail
  refine (awake1_any _).mono ?_
  rintro e w' ⟨rfl, hbel⟩
  go_wp2_with fail
  refine (inv_any _ _ ha).mono ?_
  rintro e w' ⟨rfl, rfl⟩
  rw [HZ.out]
  go_wp2_with fail
  refine (div_any _ _ _ hb ha).mono ?_
  rintro e w' ⟨rfl, rfl⟩
  rw [HZ.out]
  go_wp2_with fail
  refine (HL.out _).mono ?_
  rintro e w' ⟨rfl, rfl⟩
  go_wp2_with fail
  refine (refinv_any _ _ ha).mono ?_
  rintro e w' ⟨rfl, rfl⟩
  go_wp2_with fail
  refine (refinv_any _ _ ha).mono ?_
  rintro e w' ⟨rfl, rfl⟩
  go_wp2_with fail
  refine (refmul_any _ _ _ hb).mono ?_
  rintro e w' ⟨rfl, rfl⟩
  go_wp2_with fail
  refine (refexp_any _ _).mono ?_
  rintro e w' ⟨rfl, rfl⟩
  rw [HR.out, HE.out]
  go_wp2_with fail
  refine (exp_any _ _).mono ?_
  rintro e w' ⟨rfl, rfl⟩
  go_wp2_with fail
  refine (refexp_any _ _).mono ?_
  rintro e w' ⟨rfl, rfl⟩
  go_wp2_with fail
  go_ret
  exact ⟨rfl, hbel⟩

theorem fieldDivides_walk (a b : Nat) (n : Int) (w : World) (ha : a < 256) (hb : b < 256) (_h0 : -9223372036854775808 ≤ n) (_h1 : n ≤ 9223372036854775807) :
    Calls Try.prog 4 #[U8 a, U8 b, .int .i64 n] w fun e w' => e = .returned (.bool true) ∧ Below w.heap.size w w' := by
  by_cases h : a = 0
  · subst h; exact fieldDivides_zero b n w hb
  · exact fieldDivides_some a b n w ha hb h

theorem mul2b (a b : Nat) (T : TypeId) (k : Nat) (w w0 : World) (hk : k = w.heap.size) (ha : a < 256) (hb : b < 256) (h0 : Below w0.heap.size w0 w) :
    Calls Try.prog 13 #[.slice (some ⟨k, 0, none⟩) 2 2] (w.alloc (.cells #[U8 a, U8 b] T)) fun e w' => e = .returned (U8 (Gf.mul a b)) ∧ Below w0.heap.size w0 w' :=
  (mul2 a b T k w hk ha hb).mono fun _ _ h => ⟨h.1, h.2 ▸ h0.alloc h0.size _⟩

theorem add2b (a b : Nat) (T : TypeId) (k : Nat) (w w0 : World) (hk : k = w.heap.size) (ha : a < 256) (hb : b < 256) (h0 : Below w0.heap.size w0 w) :
    Calls Try.prog 12 #[.slice (some ⟨k, 0, none⟩) 2 2] (w.alloc (.cells #[U8 a, U8 b] T)) fun e w' => e = .returned (U8 (a ^^^ b)) ∧ Below w0.heap.size w0 w' :=
  (add2 a b T k w hk ha hb).mono fun _ _ h => ⟨h.1, h.2 ▸ h0.alloc h0.size _⟩

theorem mul3b (a b c : Nat) (T : TypeId) (k : Nat) (w w0 : World) (hk : k = w.heap.size) (ha : a < 256) (hb : b < 256) (hc : c < 256) (h0 : Below w0.heap.size w0 w) :
    Calls Try.prog 13 #[.slice (some ⟨k, 0, none⟩) 3 3] (w.alloc (.cells #[U8 a, U8 b, U8 c] T)) fun e w' => e = .returned (U8 (Gf.mul (Gf.mul a b) c)) ∧ Below w0.heap.size w0 w' :=
  (mul3 a b c T k w hk ha hb hc).mono fun _ _ h => ⟨h.1, h.2 ▸ h0.alloc h0.size _⟩

theorem mul2c (x y : Int) (a b c : Nat) (T : TypeId) (k : Nat) (w w0 : World) (hk : k = w.heap.size) (hx : x = a) (hy : y = b) (ha : a < 256) (hb : b < 256) (hc : Gf.mul a b = c) (h0 : Below w0.heap.size w0 w) :
    Calls Try.prog 13 #[.slice (some ⟨k, 0, none⟩) 2 2] (w.alloc (.cells #[.int .u8 x, .int .u8 y] T)) fun e w' => e = .returned (U8 c) ∧ Below w0.heap.size w0 w' := by
  subst hx; subst hy; subst hc
  exact mul2b a b T k w w0 hk ha hb h0

theorem add2_lit (x y : Int) (a b c : Nat) (T : TypeId) (k : Nat) (w w0 : World) (hk : k = w.heap.size) (hx : x = a) (hy : y = b) (ha : a < 256) (hb : b < 256) (hc : a ^^^ b = c) (h0 : Below w0.heap.size w0 w) :
    Calls Try.prog 12 #[.slice (some ⟨k, 0, none⟩) 2 2] (w.alloc (.cells #[.int .u8 x, .int .u8 y] T)) fun e w' => e = .returned (U8 c) ∧ Below w0.heap.size w0 w' := by
  subst hx; subst hy; subst hc
  exact add2b a b T k w w0 hk ha hb h0

set_option maxHeartbeats 1000000 in
theorem fieldLaws_zero (a c : Nat) (w : World) (ha : a < 256) (hc : c < 256) :
    Calls Try.prog 6 #[U8 a, U8 0, U8 c] w fun e w' => e = .returned (.bool true) ∧ Below w.heap.size w w' := by
  obtain ⟨b, hb0⟩ : ∃ b : Nat, b = 0 := ⟨0, rfl⟩
  have hb : b < 256 := by omega
  rw [← hb0]
  have hbz : ((b : Int) == 0) = true := by rw [hb0]; rfl
  have HZ : Hid (zeroE b = 3) := Lib.hid (by rw [hb0]; rfl)
  have HX : Hid (Gf.mul a (Gf.inv b) = 0) := Lib.hid (by rw [hb0]; exact Gf.mul_zero a)
  clear hb0
  have F1 : Hid (b ^^^ a = a ^^^ b) := Lib.hid (Nat.xor_comm b a)
  have F2 : Hid (Gf.mul b a = Gf.mul a b) := Lib.hid (Gf.mul_comm hb ha)
  have F3 : Hid (Gf.mul (Gf.mul a b) c = Gf.mul a (Gf.mul b c)) := Lib.hid (Gf.mul_assoc ha hb c)
  have F4 : Hid (Gf.mul (Gf.mul c b) a = Gf.mul (Gf.mul a b) c) := Lib.hid (by
    rw [Gf.mul_comm (Gf.mul_lt hc b) ha, Gf.mul_comm hc hb, Gf.mul_assoc ha hb])
  have F5 : Hid (Gf.mul a (b ^^^ c) = Gf.mul a b ^^^ Gf.mul a c) := Lib.hid (Gf.mul_xor_right a b c)
  have F6 : Hid (a ^^^ a = 0) := Lib.hid (Nat.xor_self a)
  have F7 : Hid (a ^^^ 0 = a) := Lib.hid (Nat.xor_zero a)
  have F8 : Hid (Gf.mul a 1 = a) := Lib.hid (Gf.mul_one ha)
  have F9 : Hid (Gf.mul a 0 = 0) := Lib.hid (Gf.mul_zero a)
  have hab := Gf.mul_lt ha b
  have hbc := Gf.mul_lt hb c
  have hac := Gf.mul_lt ha c
  have hxbc := Gf.xor_lt hb hc
  go_enter Try.func6, Try.ntmps6
  go_wp2_with fail
  refine (awake1_any _).mono ?_
  rintro e w1 ⟨rfl, hbel⟩
  go_wp2_with fail
  refine (add2b a b _ _ _ w rfl ha hb hbel).mono ?_
  rintro e w' ⟨rfl, hbel⟩
  go_wp2_with fail
  refine (add2b b a _ _ _ w rfl hb ha hbel).mono ?_
  rintro e w' ⟨rfl, hbel⟩
  rw [F1.out]
  go_wp2_with fail
  refine (mul2b a b _ _ _ w rfl ha hb hbel).mono ?_
  rintro e w' ⟨rfl, hbel⟩
  go_wp2_with fail
  refine (mul2b b a _ _ _ w rfl hb ha hbel).mono ?_
  rintro e w' ⟨rfl, hbel⟩
  rw [F2.out]
  go_wp2_with fail
  refine (mul2b a b _ _ _ w rfl ha hb hbel).mono ?_
  rintro e w' ⟨rfl, hbel⟩
  go_wp2_with fail
  refine (mul2b _ c _ _ _ w rfl hab hc hbel).mono ?_
  rintro e w' ⟨rfl, hbel⟩
  go_wp2_with fail
  refine (mul2b b c _ _ _ w rfl hb hc hbel).mono ?_
  rintro e w' ⟨rfl, hbel⟩
  go_wp2_with fail
  refine (mul2b a _ _ _ _ w rfl ha hbc hbel).mono ?_
  rintro e w' ⟨rfl, hbel⟩
  rw [← F3.out]
  go_wp2_with fail
  refine (mul3b a b c _ _ _ w rfl ha hb hc hbel).mono ?_
  rintro e w' ⟨rfl, hbel⟩
  go_wp2_with fail
  refine (mul3b c b a _ _ _ w rfl hc hb ha hbel).mono ?_
  rintro e w' ⟨rfl, hbel⟩
  rw [F4.out]
  go_wp2_with fail
  refine (add2b b c _ _ _ w rfl hb hc hbel).mono ?_
  rintro e w' ⟨rfl, hbel⟩
  go_wp2_with fail
  refine (mul2b a _ _ _ _ w rfl ha hxbc hbel).mono ?_
  rintro e w' ⟨rfl, hbel⟩
  go_wp2_with fail
  refine (mul2b a b _ _ _ w rfl ha hb hbel).mono ?_
  rintro e w' ⟨rfl, hbel⟩
  go_wp2_with fail
  refine (mul2b a c _ _ _ w rfl ha hc hbel).mono ?_
  rintro e w' ⟨rfl, hbel⟩
  go_wp2_with fail
  refine (add2b _ _ _ _ _ w rfl hab hac hbel).mono ?_
  rintro e w' ⟨rfl, hbel⟩
  rw [← F5.out]
  go_wp2_with fail
  refine (add2b a a _ _ _ w rfl ha ha hbel).mono ?_
  rintro e w' ⟨rfl, hbel⟩
  rw [F6.out]
  go_wp2_with fail
  refine (add2_lit a 0 a 0 a _ _ _ w rfl rfl rfl ha (by omega) F7.out hbel).mono ?_
  rintro e w' ⟨rfl, hbel⟩
  go_wp2_with fail
  refine (mul2c a 1 a 1 a _ _ _ w rfl rfl rfl ha (by omega) F8.out hbel).mono ?_
  rintro e w' ⟨rfl, hbel⟩
  go_wp2_with fail
  refine (mul2c a 0 a 0 0 _ _ _ w rfl rfl rfl ha (by omega) F9.out hbel).mono ?_
  rintro e w' ⟨rfl, hbel⟩
  go_wp2_with fail
  refine (div_any _ _ _ ha hb).mono ?_
  rintro e w' ⟨rfl, rfl⟩
  rw [HZ.out, HX.out]
  go_wp2_with fail
  go_ret
  exact ⟨rfl, hbel⟩

set_option maxHeartbeats 1000000 in
theorem fieldLaws_some (a b c x : Nat) (p : Bool) (w : World) (ha : a < 256) (hb : b < 256) (hc : c < 256) (hx : x < 256) (hbz : ((b : Int) == 0) = false) (HZ : Hid (zeroE b = 0)) (HX : Hid (Gf.mul a (Gf.inv b) = x)) (HM : Hid (Gf.mul x b = a))
    (HP1 : Hid (((a : Int) == 0) = p)) (HP2 : Hid (((x : Int) == 0) = p)) (HC : Hid ((((Gf.mul b c : Nat) : Int) != ((Gf.mul b a : Nat) : Int)) = true ∨ ((((Gf.mul b c : Nat) : Int) != ((Gf.mul b a : Nat) : Int)) = false ∧ ((c : Int) == (a : Int)) = true))) :
    Calls Try.prog 6 #[U8 a, U8 b, U8 c] w fun e w' => e = .returned (.bool true) ∧ Below w.heap.size w w' := by
  have F1 : Hid (b ^^^ a = a ^^^ b) := Lib.hid (Nat.xor_comm b a)
  have F2 : Hid (Gf.mul b a = Gf.mul a b) := Lib.hid (Gf.mul_comm hb ha)
  have F3 : Hid (Gf.mul (Gf.mul a b) c = Gf.mul a (Gf.mul b c)) := Lib.hid (Gf.mul_assoc ha hb c)
  have F4 : Hid (Gf.mul (Gf.mul c b) a = Gf.mul (Gf.mul a b) c) := Lib.hid (by
    rw [Gf.mul_comm (Gf.mul_lt hc b) ha, Gf.mul_comm hc hb, Gf.mul_assoc ha hb])
  have F5 : Hid (Gf.mul a (b ^^^ c) = Gf.mul a b ^^^ Gf.mul a c) := Lib.hid (Gf.mul_xor_right a b c)
  have F6 : Hid (a ^^^ a = 0) := Lib.hid (Nat.xor_self a)
  have F7 : Hid (a ^^^ 0 = a) := Lib.hid (Nat.xor_zero a)
  have F8 : Hid (Gf.mul a 1 = a) := Lib.hid (Gf.mul_one ha)
  have F9 : Hid (Gf.mul a 0 = 0) := Lib.hid (Gf.mul_zero a)
  have hab := Gf.mul_lt ha b
  have hbc := Gf.mul_lt hb c
  have hac := Gf.mul_lt ha c
  have hxbc := Gf.xor_lt hb hc
  go_enter Try.func6, Try.ntmps6
  go_wp2_with fail
  refine (awake1_any _).mono ?_
  rintro e w1 ⟨rfl, hbel⟩
  go_wp2_with fail
  refine (add2b a b _ _ _ w rfl ha hb hbel).mono ?_
  rintro e w' ⟨rfl, hbel⟩
  go_wp2_with fail
  refine (add2b b a _ _ _ w rfl hb ha hbel).mono ?_
  rintro e w' ⟨rfl, hbel⟩
  rw [F1.out]
  go_wp2_with fail
  refine (mul2b a b _ _ _ w rfl ha hb hbel).mono ?_
  rintro e w' ⟨rfl, hbel⟩
  go_wp2_with fail
  refine (mul2b b a _ _ _ w rfl hb ha hbel).mono ?_
  rintro e w' ⟨rfl, hbel⟩
  rw [F2.out]
  go_wp2_with fail
  refine (mul2b a b _ _ _ w rfl ha hb hbel).mono ?_
  rintro e w' ⟨rfl, hbel⟩
  go_wp2_with fail
  refine (mul2b _ c _ _ _ w rfl hab hc hbel).mono ?_
  rintro e w' ⟨rfl, hbel⟩
  go_wp2_with fail
  refine (mul2b b c _ _ _ w rfl hb hc hbel).mono ?_
  rintro e w' ⟨rfl, hbel⟩
  go_wp2_with fail
  refine (mul2b a _ _ _ _ w rfl ha hbc hbel).mono ?_
  rintro e w' ⟨rfl, hbel⟩
  rw [← F3.out]
  go_wp2_with fail
  refine (mul3b a b c _ _ _ w rfl ha hb hc hbel).mono ?_
  rintro e w' ⟨rfl, hbel⟩
  go_wp2_with fail
  refine (mul3b c b a _ _ _ w rfl hc hb ha hbel).mono ?_
  rintro e w' ⟨rfl, hbel⟩
  rw [F4.out]
  go_wp2_with fail
  refine (add2b b c _ _ _ w rfl hb hc hbel).mono ?_
  rintro e w' ⟨rfl, hbel⟩
  go_wp2_with fail
  refine (mul2b a _ _ _ _ w rfl ha hxbc hbel).mono ?_
  rintro e w' ⟨rfl, hbel⟩
  go_wp2_with fail
  refine (mul2b a b _ _ _ w rfl ha hb hbel).mono ?_
  rintro e w' ⟨rfl, hbel⟩
  go_wp2_with fail
  refine (mul2b a c _ _ _ w rfl ha hc hbel).mono ?_
  rintro e w' ⟨rfl, hbel⟩
  go_wp2_with fail
  refine (add2b _ _ _ _ _ w rfl hab hac hbel).mono ?_
  rintro e w' ⟨rfl, hbel⟩
  rw [← F5.out]
  go_wp2_with fail
  refine (add2b a a _ _ _ w rfl ha ha hbel).mono ?_
  rintro e w' ⟨rfl, hbel⟩
  rw [F6.out]
  go_wp2_with fail
  refine (add2_lit a 0 a 0 a _ _ _ w rfl rfl rfl ha (by omega) F7.out hbel).mono ?_
  rintro e w' ⟨rfl, hbel⟩
  go_wp2_with fail
  refine (mul2c a 1 a 1 a _ _ _ w rfl rfl rfl ha (by omega) F8.out hbel).mono ?_
  rintro e w' ⟨rfl, hbel⟩
  go_wp2_with fail
  refine (mul2c a 0 a 0 0 _ _ _ w rfl rfl rfl ha (by omega) F9.out hbel).mono ?_
  rintro e w' ⟨rfl, hbel⟩
  go_wp2_with fail
  refine (div_any _ _ _ ha hb).mono ?_
  rintro e w' ⟨rfl, rfl⟩
  rw [HZ.out, HX.out]
  go_wp2_with fail
  refine (mul2b x b _ _ _ w rfl hx hb hbel).mono ?_
  rintro e w' ⟨rfl, hbel⟩
  rw [HM.out]
  have hp1 := HP1.out
  have hp2 := HP2.out
  go_wp2_with fail
  refine (mul2b b c _ _ _ w rfl hb hc hbel).mono ?_
  rintro e w' ⟨rfl, hbel⟩
  go_wp2_with fail
  refine (mul2b b a _ _ _ w rfl hb ha hbel).mono ?_
  rintro e w' ⟨rfl, hbel⟩
  rcases HC.out with hcs | ⟨hcs, hcs2⟩
  · go_wp2_with fail
    go_ret
    exact ⟨rfl, hbel⟩
  · go_wp2_with fail
    go_ret
    exact ⟨rfl, hbel⟩

theorem fieldLaws_walk (a b c : Nat) (w : World) (ha : a < 256) (hb : b < 256) (hc : c < 256) :
    Calls Try.prog 6 #[U8 a, U8 b, U8 c] w fun e w' => e = .returned (.bool true) ∧ Below w.heap.size w w' := by
  by_cases h : b = 0
  · subst h; exact fieldLaws_zero a c w ha hc
  · have hi := Gf.inv_lt b
    have hM : Gf.mul (Gf.mul a (Gf.inv b)) b = a := by rw [Gf.mul_assoc ha hi, Gf.inv_mul hb h, Gf.mul_one ha]
    refine fieldLaws_some a b c (Gf.mul a (Gf.inv b)) (decide (a = 0)) w ha hb hc (Gf.mul_lt ha _) (beq_eq_false_iff_ne.2 (by omega)) (Lib.hid (zeroE_ne h)) (Lib.hid rfl) (Lib.hid hM) (Lib.hid ?_) (Lib.hid ?_) (Lib.hid ?_)
    · rw [Bool.eq_iff_iff]; simp
    · rw [Bool.eq_iff_iff]; simp
      constructor
      · intro h1; rw [h1, Gf.zero_mul] at hM; exact hM.symm
      · intro h1; rw [h1, Gf.zero_mul]
    · by_cases hca : c = a
      · right; subst hca; simp
      · left
        rw [bne_iff_ne]
        intro h1
        exact hca (Gf.mul_cancel hb hc ha h (Int.ofNat.inj h1))

end Go.Proofs.Ythgkejfmkigfcaa
