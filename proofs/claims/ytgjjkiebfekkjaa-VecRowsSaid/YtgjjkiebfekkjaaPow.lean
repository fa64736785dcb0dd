/-
  Powers in the program: 'remainder', 'power', 'powerOfZero', 'Pow', 'Exp', 'Log', 'Inv', 'Div'.
-/
import Derived.Test.YtgjjkiebfekkjaaAdd
set_option maxRecDepth 100000
namespace Go.Proofs.Ytgjjkiebfekkjaa
open Go.RowKit

/-- n modulo 255, from 0 on. -/
def rem255 (n : Int) : Nat := (n % 255).toNat

theorem rem255_lt (n : Int) : rem255 n < 255 := by unfold rem255; omega

theorem rem_spell (n : Int) : (wrap64 (n.tmod 255 + 255)).tmod 255 = (rem255 n : Int) := by
  have h := Int.tmod_eq_emod (a := n) (b := 255)
  have hl : (-255 : Int) < n.tmod 255 ∧ n.tmod 255 < 255 := by
    rw [h]; split <;> omega
  rw [IntWalk.wrap64_in _ ⟨by omega, by omega⟩, Int.tmod_eq_emod_of_nonneg (by omega)]
  unfold rem255
  rw [h]; split <;> omega

set_option maxHeartbeats 400000 in
theorem remainder_any (n : Int) (w : World) :
    Calls Try.prog 47 #[.int .i64 n] w fun e w' => e = .returned (.int .i64 (rem255 n)) ∧ w = w' := by
  go_enter Try.func47, Try.ntmps47
  go_wp2
  go_ret
  exact ⟨by rw [← rem_spell]; rfl, rfl⟩

theorem and_one_small : ∀ m : Fin 256, bits BinOp.and IntKind.i64 (m.1 : Int) 1 = (m.1 : Int) % 2 := by decide +kernel
theorem and_one_i64 (m : Nat) (h : m < 255) : bits BinOp.and IntKind.i64 (m : Int) 1 = (m : Int) % 2 := and_one_small ⟨m, by omega⟩

set_option maxHeartbeats 400000 in
theorem power_any (a : Nat) (n : Int) (w : World) (ha : a < 256) :
    Calls Try.prog 45 #[U8 a, .int .i64 n] w fun e w' => e = .returned (U8 (Gf.pow a (rem255 n))) ∧ w = w' := by
  have hr := rem255_lt n
  obtain ⟨r, hrr⟩ : ∃ r, r = rem255 n := ⟨_, rfl⟩
  rw [← hrr] at hr ⊢
  obtain ⟨q, hq⟩ : ∃ q, q = Gf.pow a r := ⟨_, rfl⟩
  rw [← hq]
  have Hr := Lib.hid hrr
  have Hq := Lib.hid hq
  clear hrr hq
  go_enter Try.func45, Try.ntmps45
  go_wp2_with fail
  refine (remainder_any _ _).mono ?_
  rintro e w' ⟨rfl, rfl⟩
  rw [← Hr.out]
  go_wp2_with fail
  go_loop [0, 5, 6] (fun x p m => ∃ x' p' m' : Nat, x = U8 x' ∧ p = U8 p' ∧ m = .int .i64 m' ∧ x' < 256 ∧ p' < 256 ∧ m' < 255 ∧ Gf.mul p' (Gf.pow x' m') = q) (fun _ _ m => (intOf m).toNat)
  case atStart => exact ⟨a, 1, r, rfl, rfl, rfl, ha, by omega, hr, by rw [Gf.one_mul (Gf.pow_lt ha r)]; exact Hq.out.symm⟩
  case round =>
    obtain ⟨x, p, m, rfl, rfl, rfl, hx, hp, hm, he⟩ := hrel
    have He := Lib.hid he
    clear he
    by_cases hlt : 0 < m
    · by_cases hodd : m % 2 = 1
      · have hb : (bits BinOp.and IntKind.i64 (m : Int) 1 == 1) = true := by rw [and_one_i64 m hm, beq_iff_eq]; omega
        have Hn : Hid (Gf.mul (Gf.mul p x) (Gf.pow (Gf.mul x x) (m / 2)) = q) := by
          rw [Gf.pow_sq hx, Gf.mul_assoc hp hx, Gf.mul_comm hx (Gf.pow_lt hx _), ← He.out]
          show Gf.mul p (Gf.pow x (2 * (m / 2) + 1)) = _
          rw [show 2 * (m / 2) + 1 = m from by omega]
        clear hodd
        go_wp2_with fail
        refine (times_any _ _ _ hp hx).mono ?_
        rintro e w' ⟨rfl, rfl⟩
        go_wp2_with fail
        refine (times_any _ _ _ hx hx).mono ?_
        rintro e w' ⟨rfl, rfl⟩
        go_wp2_with fail
        go_round
        case rel => exact ⟨Gf.mul x x, Gf.mul p x, m / 2, rfl, rfl, by go_num, Gf.mul_lt hx _, Gf.mul_lt hp _, by omega, Hn.out⟩
        case measure => simp [intOf]; omega
      · have hb : (bits BinOp.and IntKind.i64 (m : Int) 1 == 1) = false := by rw [and_one_i64 m hm]; exact beq_eq_false_iff_ne.2 (by omega)
        have Hn : Hid (Gf.mul p (Gf.pow (Gf.mul x x) (m / 2)) = q) := Lib.hid (by rw [Gf.pow_sq hx, ← He.out, show 2 * (m / 2) = m from by omega])
        clear hodd
        go_wp2_with fail
        refine (times_any _ _ _ hx hx).mono ?_
        rintro e w' ⟨rfl, rfl⟩
        go_wp2_with fail
        go_round
        case rel => exact ⟨Gf.mul x x, p, m / 2, rfl, rfl, by go_num, Gf.mul_lt hx _, hp, by omega, Hn.out⟩
        case measure => simp [intOf]; omega
    · go_wp2_with fail
      go_ret
      have e0 : m = 0 := by omega
      have e1 := He.out
      rw [e0] at e1
      exact ⟨ret_u8 (by rw [← e1, show Gf.pow x 0 = 1 from rfl, Gf.mul_one hp]), rfl⟩


/-- An int64 that is a named type's too: the errors' numbers. -/
abbrev I64 (n : Int) : Value := .int .i64 n

/-- What Pow answers: the power. -/
def powV (a : Nat) (n : Int) : Nat := if a = 0 then (if n = 0 then 1 else 0) else Gf.pow a (rem255 n)
/-- What Pow answers: the error's number. -/
def powE (a : Nat) (n : Int) : Int := if a = 0 then (if n < 0 then 3 else 0) else 0

set_option maxHeartbeats 400000 in
theorem powerOfZero_any (n : Int) (w : World) :
    Calls Try.prog 44 #[.int .i64 n] w fun e w' => e = .returned (.tuple #[U8 (powV 0 n), I64 (powE 0 n)]) ∧ w = w' := by
  by_cases hn : n < 0
  · have h0 : ¬ n = 0 := by omega
    rw [show powV 0 n = 0 from by simp [powV, h0], show powE 0 n = 3 from by simp [powE, hn]]
    go_enter Try.func44, Try.ntmps44
    go_wp2
    go_ret2
    exact ⟨rfl, rfl⟩
  · by_cases h0 : n = 0
    · subst h0
      go_enter Try.func44, Try.ntmps44
      go_wp2
      go_ret2
      exact ⟨rfl, rfl⟩
    · rw [show powV 0 n = 0 from by simp [powV, h0], show powE 0 n = 0 from by simp [powE, hn]]
      go_enter Try.func44, Try.ntmps44
      go_wp2
      go_ret2
      exact ⟨rfl, rfl⟩

set_option maxHeartbeats 400000 in
theorem pow_any (a : Nat) (n : Int) (w : World) (ha : a < 256) :
    Calls Try.prog 40 #[U8 a, .int .i64 n] w fun e w' => e = .returned (.tuple #[U8 (powV a n), I64 (powE a n)]) ∧ w = w' := by
  by_cases h0 : a = 0
  · subst h0
    go_enter Try.func40, Try.ntmps40
    go_wp2_with fail
    refine (powerOfZero_any _ _).mono ?_
    rintro e w' ⟨rfl, rfl⟩
    go_wp2_with fail
    go_ret2
    exact ⟨rfl, rfl⟩
  · have hb : ((a : Int) == 0) = false := beq_eq_false_iff_ne.2 (by omega)
    go_enter Try.func40, Try.ntmps40
    go_wp2_with fail
    refine (power_any _ _ _ ha).mono ?_
    rintro e w' ⟨rfl, rfl⟩
    go_wp2_with fail
    go_ret2
    exact ⟨by simp [powV, powE, h0], rfl⟩

theorem rem255_neg_one : rem255 (-1) = 254 := by decide

theorem pow_254 {a : Nat} (ha : a < 256) (h0 : a ≠ 0) : Gf.pow a 254 = Gf.inv a := by
  have h1 : Gf.mul a (Gf.pow a 254) = 1 := by
    rw [Gf.mul_comm ha (Gf.pow_lt ha _)]
    show Gf.pow a 255 = 1
    rw [← Gf.pow_mod ha h0]; rfl
  exact Gf.mul_cancel ha (Gf.pow_lt ha _) (Gf.inv_lt a) h0 (by rw [h1, Gf.mul_inv ha h0])

/-- The error's number of what is divided by a. -/
def zeroE (a : Nat) : Int := if a = 0 then 3 else 0

theorem powV_inv {a : Nat} (ha : a < 256) : powV a (-1) = Gf.inv a := by
  unfold powV
  by_cases h0 : a = 0
  · subst h0; decide
  · rw [if_neg h0, rem255_neg_one, pow_254 ha h0]
theorem powE_inv (a : Nat) : powE a (-1) = zeroE a := by
  unfold powE zeroE; split <;> simp

set_option maxHeartbeats 400000 in
theorem inv_any (a : Nat) (w : World) (ha : a < 256) :
    Calls Try.prog 30 #[U8 a] w fun e w' => e = .returned (.tuple #[U8 (Gf.inv a), I64 (zeroE a)]) ∧ w = w' := by
  have e1 := Lib.hid (powV_inv ha)
  have e2 := Lib.hid (powE_inv a)
  go_enter Try.func30, Try.ntmps30
  go_wp2_with fail
  refine (pow_any _ _ _ ha).mono ?_
  rintro e w' ⟨rfl, rfl⟩
  rw [e1.out, e2.out]
  go_wp2_with fail
  go_ret2
  exact ⟨rfl, rfl⟩

theorem zeroE_zero : zeroE 0 = 3 := rfl
theorem zeroE_ne {a : Nat} (h : a ≠ 0) : zeroE a = 0 := if_neg h

end Go.Proofs.Ytgjjkiebfekkjaa
