/- Texts of one seat, laid together: Gf, Mul, Bytes, Lead, Own, Add, Pow. -/
import Derived.Test.YtphdadibfeencaaGreatRows
import Derived.WalkKit
import Derived.WalkSpells
import Derived.WalkLawsBesides
import Derived.Lib.Hide

/-
  Bytes as a field (layer 1), in plain numbers: the product by shifting and adding, that it is the one of polynomials modulo 11D, and that it is commutative, associative and distributes. No program in this text.
-/
namespace Go.Proofs.YtphdadibfeencaaGreat
namespace Gf

/-- The product with x. -/
def dbl (a : Nat) : Nat := if a < 128 then 2 * a else (2 * a) ^^^ 285

/-- The product with x, n times. -/
def dblN (a : Nat) : Nat → Nat
  | 0 => a
  | n + 1 => dbl (dblN a n)

/-- The product, by the first k bits of b. -/
def mulK (a b : Nat) : Nat → Nat
  | 0 => 0
  | k + 1 => mulK a b k ^^^ (if b.testBit k then dblN a k else 0)

def mul (a b : Nat) : Nat := mulK a b 8

/-! ### exclusive or -/

theorem xor_lt {a b : Nat} (ha : a < 256) (hb : b < 256) : a ^^^ b < 256 := Nat.xor_lt_two_pow (n := 8) ha hb

theorem xor_four (a b c d : Nat) : (a ^^^ b) ^^^ (c ^^^ d) = (a ^^^ c) ^^^ (b ^^^ d) := by
  rw [Nat.xor_assoc, Nat.xor_assoc, ← Nat.xor_assoc b c d, Nat.xor_comm b c, Nat.xor_assoc c b d]

/-! ### doubling is linear -/

theorem dbl_alt (a : Nat) (h : a < 256) : dbl a = (2 * a) ^^^ (if a.testBit 7 then 285 else 0) := by
  have : ∀ a : Fin 256, dbl a.1 = (2 * a.1) ^^^ (if a.1.testBit 7 then 285 else 0) := by decide +kernel
  exact this ⟨a, h⟩

theorem dbl_lt {a : Nat} (h : a < 256) : dbl a < 256 := by
  have : ∀ a : Fin 256, dbl a.1 < 256 := by decide +kernel
  exact this ⟨a, h⟩

theorem ite_xor (p q : Bool) (c : Nat) : (if (p ^^ q) = true then c else 0) = (if p = true then c else 0) ^^^ (if q = true then c else 0) := by
  cases p <;> cases q <;> simp

theorem two_mul_xor (a b : Nat) : 2 * (a ^^^ b) = (2 * a) ^^^ (2 * b) := by
  apply Nat.eq_of_testBit_eq
  intro i
  have e : ∀ x : Nat, 2 * x = x <<< 1 := fun x => by rw [Nat.shiftLeft_eq, Nat.mul_comm]
  rw [e, e, e, Nat.testBit_shiftLeft, Nat.testBit_xor, Nat.testBit_xor, Nat.testBit_shiftLeft, Nat.testBit_shiftLeft]
  cases decide (i ≥ 1) <;> simp

theorem dbl_xor {a b : Nat} (ha : a < 256) (hb : b < 256) : dbl (a ^^^ b) = dbl a ^^^ dbl b := by
  rw [dbl_alt _ ha, dbl_alt _ hb, dbl_alt _ (xor_lt ha hb), Nat.testBit_xor, ite_xor, two_mul_xor, xor_four]

theorem dblN_lt {a : Nat} (h : a < 256) : ∀ n, dblN a n < 256
  | 0 => h
  | n + 1 => dbl_lt (dblN_lt h n)

theorem dblN_xor {a b : Nat} (ha : a < 256) (hb : b < 256) : ∀ n, dblN (a ^^^ b) n = dblN a n ^^^ dblN b n
  | 0 => rfl
  | n + 1 => by simp only [dblN]; rw [dblN_xor ha hb n, dbl_xor (dblN_lt ha n) (dblN_lt hb n)]

theorem dblN_zero : ∀ n, dblN 0 n = 0
  | 0 => rfl
  | n + 1 => by simp only [dblN]; rw [dblN_zero n]; rfl

theorem dblN_add (a m : Nat) : ∀ n, dblN a (m + n) = dblN (dblN a m) n
  | 0 => rfl
  | n + 1 => by show dbl (dblN a (m + n)) = dbl (dblN (dblN a m) n); rw [dblN_add a m n]

theorem dblN_dbl (a : Nat) (n : Nat) : dblN (dbl a) n = dbl (dblN a n) := by
  have h := dblN_add a 1 n
  rw [Nat.add_comm] at h
  exact h.symm

/-! ### the product -/

theorem mulK_lt {a : Nat} (h : a < 256) (b : Nat) : ∀ k, mulK a b k < 256
  | 0 => Nat.zero_lt_succ _
  | k + 1 => by
    simp only [mulK]
    refine xor_lt (mulK_lt h b k) ?_
    split
    · exact dblN_lt h k
    · decide

theorem mul_lt {a : Nat} (h : a < 256) (b : Nat) : mul a b < 256 := mulK_lt h b 8

theorem mulK_xor_left {a b : Nat} (ha : a < 256) (hb : b < 256) (c : Nat) : ∀ k, mulK (a ^^^ b) c k = mulK a c k ^^^ mulK b c k
  | 0 => (Nat.xor_self 0).symm
  | k + 1 => by
    simp only [mulK]
    rw [mulK_xor_left ha hb c k, dblN_xor ha hb k]
    cases c.testBit k
    · simp
    · simp only [if_true]; rw [xor_four]

theorem mul_xor_left {a b : Nat} (ha : a < 256) (hb : b < 256) (c : Nat) : mul (a ^^^ b) c = mul a c ^^^ mul b c := mulK_xor_left ha hb c 8

theorem mulK_xor_right (a b c : Nat) : ∀ k, mulK a (b ^^^ c) k = mulK a b k ^^^ mulK a c k
  | 0 => (Nat.xor_self 0).symm
  | k + 1 => by
    simp only [mulK]
    rw [mulK_xor_right a b c k, Nat.testBit_xor, ite_xor, xor_four]

theorem mul_xor_right (a b c : Nat) : mul a (b ^^^ c) = mul a b ^^^ mul a c := mulK_xor_right a b c 8

theorem mulK_dbl {a : Nat} (ha : a < 256) (b : Nat) : ∀ k, mulK (dbl a) b k = dbl (mulK a b k)
  | 0 => rfl
  | k + 1 => by
    simp only [mulK]
    rw [mulK_dbl ha b k, dblN_dbl]
    cases b.testBit k
    · simp
    · simp only [if_true]; rw [dbl_xor (mulK_lt ha b k) (dblN_lt ha k)]

theorem mul_dbl {a : Nat} (ha : a < 256) (b : Nat) : mul (dbl a) b = dbl (mul a b) := mulK_dbl ha b 8

theorem mul_dblN {a : Nat} (ha : a < 256) (b : Nat) : ∀ n, mul (dblN a n) b = dblN (mul a b) n
  | 0 => rfl
  | n + 1 => by simp only [dblN]; rw [mul_dbl (dblN_lt ha n), mul_dblN ha b n]

theorem one_mul {b : Nat} (hb : b < 256) : mul 1 b = b := by
  have : ∀ b : Fin 256, mul 1 b.1 = b.1 := by decide +kernel
  exact this ⟨b, hb⟩

theorem mul_zero (a : Nat) : mul a 0 = 0 := by simp [mul, mulK]

theorem zero_mul (b : Nat) : mul 0 b = 0 := by
  have h : ∀ k, mulK 0 b k = 0 := by
    intro k
    induction k with
    | zero => rfl
    | succ k ih => simp [mulK, ih, dblN_zero]
  exact h 8

/-! ### powers of 2 -/

/-- 2 to the n. -/
def exp (n : Nat) : Nat := dblN 1 n

theorem exp_lt (n : Nat) : exp n < 256 := dblN_lt (by decide) n

/-- Doubled so often till it is a: how often. -/
def logF (a : Nat) : Nat → Nat → Nat → Nat
  | 0, _, n => n
  | f + 1, p, n => if p = a then n else logF a f (dbl p) (n + 1)

/-- Of which power of 2 it is one. -/
def log (a : Nat) : Nat := logF a 255 1 0

theorem log_spec : ∀ a : Fin 256, a.1 ≠ 0 → exp (log a.1) = a.1 ∧ log a.1 < 255 := by decide +kernel

theorem exp_log {a : Nat} (h : a < 256) (h0 : a ≠ 0) : exp (log a) = a := (log_spec ⟨a, h⟩ h0).1
theorem log_lt {a : Nat} (h : a < 256) (h0 : a ≠ 0) : log a < 255 := (log_spec ⟨a, h⟩ h0).2

theorem exp_255 : exp 255 = 1 := by decide +kernel

theorem exp_add (m n : Nat) : exp (m + n) = dblN (exp m) n := dblN_add 1 m n

theorem exp_mul (n : Nat) {b : Nat} (hb : b < 256) : mul (exp n) b = dblN b n := by
  unfold exp; rw [mul_dblN (by decide), one_mul hb]

theorem exp_mul_exp (m n : Nat) : mul (exp m) (exp n) = exp (m + n) := by
  rw [exp_mul m (exp_lt n), Nat.add_comm, exp_add]

theorem exp_ne (n : Nat) : exp n ≠ 0 := by
  induction n with
  | zero => decide
  | succ n ih =>
    have : ∀ a : Fin 256, a.1 ≠ 0 → dbl a.1 ≠ 0 := by decide +kernel
    exact this ⟨exp n, exp_lt n⟩ ih

theorem exp_mod (n : Nat) : exp (n % 255) = exp n := by
  have h : ∀ q, exp (n % 255 + 255 * q) = exp (n % 255) := by
    intro q
    induction q with
    | zero => rfl
    | succ q ih =>
      rw [Nat.mul_succ, ← Nat.add_assoc, Nat.add_comm _ 255, exp_add, exp_255]
      exact ih
  have := h (n / 255)
  rw [Nat.mod_add_div] at this
  exact this.symm

/-! ### the field -/

theorem mul_comm {a b : Nat} (ha : a < 256) (hb : b < 256) : mul a b = mul b a := by
  by_cases h0 : a = 0
  · rw [h0, zero_mul, mul_zero]
  by_cases h1 : b = 0
  · rw [h1, zero_mul, mul_zero]
  rw [← exp_log ha h0, ← exp_log hb h1, exp_mul_exp, exp_mul_exp, Nat.add_comm]

theorem mul_assoc {a b : Nat} (ha : a < 256) (hb : b < 256) (c : Nat) : mul (mul a b) c = mul a (mul b c) := by
  by_cases h0 : a = 0
  · rw [h0, zero_mul, zero_mul, zero_mul]
  rw [← exp_log ha h0, exp_mul _ hb, mul_dblN hb, exp_mul _ (mul_lt hb c)]

theorem mul_one {a : Nat} (ha : a < 256) : mul a 1 = a := by rw [mul_comm ha (by decide), one_mul ha]

theorem mul_ne {a b : Nat} (ha : a < 256) (hb : b < 256) (h0 : a ≠ 0) (h1 : b ≠ 0) : mul a b ≠ 0 := by
  rw [← exp_log ha h0, ← exp_log hb h1, exp_mul_exp]; exact exp_ne _

/-- Whose product with it is 1. -/
def inv (a : Nat) : Nat := if a = 0 then 0 else exp (255 - log a)

theorem inv_lt (a : Nat) : inv a < 256 := by unfold inv; split; decide; exact exp_lt _

theorem mul_inv {a : Nat} (ha : a < 256) (h0 : a ≠ 0) : mul a (inv a) = 1 := by
  have hl := log_lt ha h0
  unfold inv
  rw [if_neg h0]
  have h := exp_mul_exp (log a) (255 - log a)
  rw [exp_log ha h0, show log a + (255 - log a) = 255 from by omega, exp_255] at h
  exact h

theorem inv_mul {a : Nat} (ha : a < 256) (h0 : a ≠ 0) : mul (inv a) a = 1 := by rw [mul_comm (inv_lt a) ha, mul_inv ha h0]

theorem inv_ne {a : Nat} (h0 : a ≠ 0) : inv a ≠ 0 := by unfold inv; rw [if_neg h0]; exact exp_ne _

/-- What is times a the same is the same. -/
theorem mul_cancel {a b c : Nat} (ha : a < 256) (hb : b < 256) (hc : c < 256) (h0 : a ≠ 0) (h : mul a b = mul a c) : b = c := by
  have e : mul (inv a) (mul a b) = mul (inv a) (mul a c) := by rw [h]
  rwa [← mul_assoc (inv_lt a) ha, ← mul_assoc (inv_lt a) ha, inv_mul ha h0, one_mul hb, one_mul hc] at e

/-! ### powers -/

/-- Taken so many times. -/
def pow (a : Nat) : Nat → Nat
  | 0 => 1
  | n + 1 => mul (pow a n) a

theorem pow_lt {a : Nat} (ha : a < 256) : ∀ n, pow a n < 256
  | 0 => show 1 < 256 by decide
  | n + 1 => mul_lt (pow_lt ha n) a

theorem pow_add {a : Nat} (ha : a < 256) (m : Nat) : ∀ n, pow a (m + n) = mul (pow a m) (pow a n)
  | 0 => (mul_one (pow_lt ha m)).symm
  | n + 1 => by
    show mul (pow a (m + n)) a = mul (pow a m) (mul (pow a n) a)
    rw [pow_add ha m n, mul_assoc (pow_lt ha m) (pow_lt ha n)]

theorem pow_sq {a : Nat} (ha : a < 256) : ∀ n, pow (mul a a) n = pow a (2 * n)
  | 0 => rfl
  | n + 1 => by
    show mul (pow (mul a a) n) (mul a a) = pow a (2 * n + 1 + 1)
    rw [pow_sq ha n, ← mul_assoc (pow_lt ha _) ha]; rfl

theorem pow_exp (m : Nat) : ∀ n, pow (exp m) n = exp (m * n)
  | 0 => rfl
  | n + 1 => by
    show mul (pow (exp m) n) (exp m) = exp (m * n + m)
    rw [pow_exp m n, exp_mul_exp]

theorem pow_mod {a : Nat} (ha : a < 256) (h0 : a ≠ 0) (n : Nat) : pow a (n % 255) = pow a n := by
  rw [← exp_log ha h0, pow_exp, pow_exp, ← exp_mod (log a * n), Nat.mul_mod, ← exp_mod (log a * (n % 255)), Nat.mul_mod]
  simp

/-! ### the polynomials' product: first all of it, then what the modulus leaves -/

/-- The product of polynomials, by the first k bits of b. -/
def clK (a b : Nat) : Nat → Nat
  | 0 => 0
  | k + 1 => clK a b k ^^^ (if b.testBit k then a <<< k else 0)

/-- One place is taken away, by the modulus. -/
def redStep (s i : Nat) : Nat := s ^^^ (if s.testBit i then 285 <<< (i - 8) else 0)

def red (s : Nat) : Nat := redStep (redStep (redStep (redStep (redStep (redStep (redStep s 14) 13) 12) 11) 10) 9) 8

theorem redStep_xor (s t i : Nat) : redStep (s ^^^ t) i = redStep s i ^^^ redStep t i := by
  unfold redStep; rw [Nat.testBit_xor, ite_xor, xor_four]

theorem red_xor (s t : Nat) : red (s ^^^ t) = red s ^^^ red t := by unfold red; simp only [redStep_xor]

theorem red_shift : ∀ k : Fin 8, ∀ a : Fin 256, red (a.1 <<< k.1) = dblN a.1 k.1 := by decide +kernel

theorem red_zero : red 0 = 0 := by decide +kernel

theorem red_clK {a : Nat} (ha : a < 256) (b : Nat) : ∀ k, k ≤ 8 → red (clK a b k) = mulK a b k
  | 0, _ => red_zero
  | k + 1, hk => by
    simp only [clK, mulK]
    rw [red_xor, red_clK ha b k (by omega)]
    cases b.testBit k
    · simp [red_zero]
    · simp only [if_true]; rw [red_shift ⟨k, by omega⟩ ⟨a, ha⟩]

theorem red_mul {a : Nat} (ha : a < 256) (b : Nat) : red (clK a b 8) = mul a b := red_clK ha b 8 (Nat.le_refl _)

end Gf
end Go.Proofs.YtphdadibfeencaaGreat

/-
  The byte's product in the program: 'double', 'times', and that they answer the plain product of XGf.
-/
set_option maxRecDepth 100000
namespace Go.Proofs.YtphdadibfeencaaGreat
open Go.RowKit

/-- One byte out of two numbers. -/
abbrev U8 (n : Nat) : Value := .int .u8 (n : Int)

theorem ret_u8 {a : Int} {b : Nat} (h : a = b) : Ending.returned (.int .u8 a) = .returned (U8 b) := by rw [h]

theorem dbl_spell : ∀ a : Fin 256, bits BinOp.xor IntKind.u8 ((a.1 : Int) * 2 % 256) (bits BinOp.and IntKind.u8 29 (-((a.1 : Int) / 128) % 256)) = (Gf.dbl a.1 : Int) := by decide +kernel

theorem dbl_sp {a : Nat} (h1 : a < 256) : bits BinOp.xor IntKind.u8 ((a : Int) * 2 % 256) (bits BinOp.and IntKind.u8 29 (-((a : Int) / 128) % 256)) = (Gf.dbl a : Int) :=
  dbl_spell ⟨a, h1⟩

set_option maxHeartbeats 400000 in
theorem double_any (a : Nat) (w : World) (h1 : a < 256) :
    Calls Tryz.prog 89 #[U8 a] w fun e w' => e = .returned (U8 (Gf.dbl a)) ∧ w = w' := by
  go_enter Tryz.func89, Tryz.ntmps89
  go_wp2
  go_ret
  exact ⟨ret_u8 (dbl_sp h1), rfl⟩

theorem bit_spell (b k : Nat) (hb : b < 256) : bits BinOp.and IntKind.u8 ((b : Int) / 2 ^ k) 1 = ((if b.testBit k then 1 else 0 : Nat) : Int) := by
  have e : ((b : Int) / 2 ^ k) = ((b / 2 ^ k : Nat) : Int) := by simp
  have hlt : b / 2 ^ k < 256 := Nat.lt_of_le_of_lt (Nat.div_le_self _ _) hb
  rw [e, show (1 : Int) = ((1 : Nat) : Int) from rfl, u8_and_nat _ _ hlt (by omega), nat_mask1, Nat.testBit_eq_decide_div_mod_eq]
  by_cases h : b / 2 ^ k % 2 = 1
  · simp [h]
  · have : b / 2 ^ k % 2 = 0 := by omega
    simp [this]

theorem mask_spell (p d b k : Nat) (hp : p < 256) (hd : d < 256) (hb : b < 256) :
    bits BinOp.xor IntKind.u8 (p : Int) (bits BinOp.and IntKind.u8 (d : Int) (-bits BinOp.and IntKind.u8 ((b : Int) / 2 ^ k) 1 % 256)) = ((p ^^^ (if b.testBit k then d else 0) : Nat) : Int) := by
  rw [bit_spell b k hb]
  cases b.testBit k
  · have e : (-(((if false = true then 1 else 0 : Nat)) : Int) % 256) = ((0 : Nat) : Int) := by decide
    rw [e, u8_and_nat _ _ hd (by omega), u8_xor_nat _ _ hp (by simp)]; simp
  · have e : (-(((if true = true then 1 else 0 : Nat)) : Int) % 256) = ((255 : Nat) : Int) := by decide
    rw [e, u8_and_nat _ _ hd (by omega), nat_mask8, Nat.mod_eq_of_lt hd, u8_xor_nat _ _ hp hd]; simp

set_option maxHeartbeats 400000 in
theorem times_any (a b : Nat) (w : World) (h1 : a < 256) (g1 : b < 256) :
    Calls Tryz.prog 74 #[U8 a, U8 b] w fun e w' => e = .returned (U8 (Gf.mul a b)) ∧ w = w' := by
  go_enter Tryz.func74, Tryz.ntmps74
  go_wp2
  go_loop [0, 5, 7] (fun x p i => ∃ k : Nat, k ≤ 8 ∧ x = U8 (Gf.dblN a k) ∧ p = U8 (Gf.mulK a b k) ∧ i = .int .i64 k) (fun _ _ i => 8 - (intOf i).toNat)
  case atStart => exact ⟨0, by omega, rfl, rfl, rfl⟩
  case round =>
    obtain ⟨k, hk, rfl, rfl, rfl⟩ := hrel
    have d1 := Gf.dblN_lt h1 k
    have d2 := Gf.mulK_lt h1 b k
    by_cases hlt : k < 8
    · go_wp2_with fail
      refine (double_any _ _ d1).mono ?_
      rintro e w' ⟨rfl, rfl⟩
      go_wp2_with fail
      go_round
      case rel => exact ⟨k + 1, by omega, rfl, by rw [mask_spell _ _ _ _ d2 d1 g1]; rfl, by go_num⟩
      case measure => simp [intOf]; omega
    · go_wp2_with fail
      go_ret
      have e : k = 8 := by omega
      exact ⟨by rw [e]; rfl, rfl⟩

end Go.Proofs.YtphdadibfeencaaGreat

/-
  Slices of bytes in memory: what is said of one that is read, and that it stays where nothing below it turns.
-/
set_option maxRecDepth 100000
namespace Go.Proofs.YtphdadibfeencaaGreat
open Go.RowKit

/-- The element of a place: by a name of its own, so that the walk leaves it as it is. -/
def nth (l : List Nat) (i : Nat) : Nat := l.getD i 0

theorem u8_eq {a : Int} {b : Nat} (h : a = b) : Value.int .u8 a = U8 b := by rw [h]

/-- The value is a slice that reads as these bytes. -/
def Bytes (w : World) (v : Value) (l : List Nat) : Prop :=
  ∃ a cap, v = .slice a l.length cap ∧ l.length ≤ cap ∧ cap ≤ 9223372036854775807 ∧ (∀ x, x ∈ l → x < 256) ∧
    (l ≠ [] → ∃ b off, a = some ⟨b, off, none⟩ ∧ b < w.heap.size ∧ ∀ i, i < l.length → w.cell? ⟨b, off + i, none⟩ = some (U8 (nth l i)))

theorem Bytes.lt {w : World} {v : Value} {l : List Nat} (h : Bytes w v l) : ∀ x, x ∈ l → x < 256 := by
  obtain ⟨a, cap, _, _, _, h, _⟩ := h; exact h

theorem Bytes.below {w w' : World} {v : Value} {l : List Nat} {B : Nat} (h : Bytes w v l) (hB : w.heap.size ≤ B) (hb : Below B w w') : Bytes w' v l := by
  obtain ⟨a, cap, rfl, h1, h2, h3, h4⟩ := h
  refine ⟨a, cap, rfl, h1, h2, h3, fun hne => ?_⟩
  obtain ⟨b, off, rfl, hlt, hc⟩ := h4 hne
  exact ⟨b, off, rfl, Nat.lt_of_lt_of_le hlt hb.size, fun i hi => by rw [hb.cell (p := ⟨b, off + i, none⟩) (by show b < B; omega)]; exact hc i hi⟩

theorem nth_lt {l : List Nat} (h : ∀ x, x ∈ l → x < 256) (i : Nat) : nth l i < 256 := by
  unfold nth
  rw [List.getD_eq_getElem?_getD]
  by_cases hi : i < l.length
  · rw [List.getElem?_eq_getElem hi]; exact h _ (List.getElem_mem hi)
  · rw [List.getElem?_eq_none (by omega)]; show 0 < 256; decide

theorem nth_eq (l : List Nat) (i : Nat) (h : i < l.length) : nth l i = l[i] := by
  unfold nth; rw [List.getD_eq_getElem?_getD, List.getElem?_eq_getElem h]; rfl

theorem take_nth (l : List Nat) (k : Nat) (h : k < l.length) : l.take (k + 1) = l.take k ++ [nth l k] := by
  rw [List.take_succ_eq_append_getElem h, nth_eq l k h]

theorem Bytes.cell {w : World} {b off n cap : Nat} {l : List Nat} (h : Bytes w (.slice (some ⟨b, off, none⟩) n cap) l) (k : Nat) (hk : k < l.length) : w.cell? ⟨b, off + k, none⟩ = some (U8 (nth l k)) := by
  obtain ⟨a, cap', e, _, _, _, h4⟩ := h
  obtain ⟨b', off', rfl, _, hc⟩ := h4 (by intro h; rw [h] at hk; simp at hk)
  simp only [Value.slice.injEq, Option.some.injEq, Addr.mk.injEq] at e
  obtain ⟨⟨rfl, rfl, _⟩, _, _⟩ := e
  exact hc k hk

/-- A new block of bytes, as a slice of its own. -/
theorem bytes_new (w : World) (l : List Nat) (E : TypeId) (hl : ∀ x, x ∈ l → x < 256) (hm : l.length ≤ 9223372036854775807) :
    Bytes (w.alloc (.cells (l.map U8).toArray E)) (.slice (some ⟨w.heap.size, 0, none⟩) l.length l.length) l := by
  refine ⟨_, l.length, rfl, Nat.le_refl _, hm, hl, fun _ => ⟨w.heap.size, 0, rfl, by simp, fun i hi => ?_⟩⟩
  rw [World.cell?_alloc_at _ _ _ _ rfl, nth_eq l i hi]
  simp [hi]

end Go.Proofs.YtphdadibfeencaaGreat

/-
  Where bytes lead (layer 3), in plain numbers and in the document's answer (wellspringref03.Lead).
-/
set_option maxRecDepth 100000
namespace Go.Proofs.YtphdadibfeencaaGreat
open Go.RowKit

/-- The first place whose byte isn't 0; as many as there are, where there is none. -/
def lead : List Nat → Nat
  | [] => 0
  | x :: l => if x = 0 then lead l + 1 else 0

/-- The same as the program tells it: -1, where there is none. -/
def leadI (l : List Nat) : Int := if lead l < l.length then (lead l : Int) else -1

theorem lead_le : ∀ l : List Nat, lead l ≤ l.length
  | [] => Nat.le_refl _
  | x :: l => by
    have := lead_le l
    unfold lead
    split
    · simp; omega
    · omega

theorem lead_zero : ∀ (l : List Nat) (j : Nat), j < lead l → nth l j = 0
  | [], j, h => absurd h (Nat.not_lt_zero _)
  | x :: l, j, h => by
    unfold lead at h
    by_cases hx : x = 0
    · rw [if_pos hx] at h
      cases j with
      | zero => exact hx
      | succ j => exact lead_zero l j (by omega)
    · rw [if_neg hx] at h; omega

theorem lead_ne : ∀ (l : List Nat), lead l < l.length → nth l (lead l) ≠ 0
  | [], h => absurd h (Nat.not_lt_zero _)
  | x :: l, h => by
    unfold lead at h ⊢
    by_cases hx : x = 0
    · rw [if_pos hx] at h ⊢
      exact lead_ne l (by simpa using h)
    · rw [if_neg hx]; exact hx

/-- What leads there: noughts ahead, and no nought there. -/
theorem lead_eq {l : List Nat} {k : Nat} (h0 : ∀ j, j < k → nth l j = 0) (hk : k < l.length) (h1 : nth l k ≠ 0) : lead l = k := by
  by_cases h : lead l < k
  · exact absurd (h0 _ h) (lead_ne l (by omega))
  · by_cases h2 : k < lead l
    · exact absurd (lead_zero l k h2) h1
    · omega

theorem lead_none {l : List Nat} (h0 : ∀ j, j < l.length → nth l j = 0) : lead l = l.length := by
  by_cases h : lead l < l.length
  · exact absurd (h0 _ h) (lead_ne l h)
  · have := lead_le l; omega

set_option maxHeartbeats 400000 in
theorem reflead_empty (a : Option Addr) (cap : Nat) (w : World) :
    Calls Tryz.prog 46 #[.slice a 0 cap] w fun e w' => e = .returned (.int .i64 (-1)) ∧ w = w' := by
  go_enter Tryz.func46, Tryz.ntmps46
  go_wp2_with fail
  refine wp_loop_rounds 1 ?_
  rw [rounds_succ]
  go_wp2_with fail
  go_ret
  exact ⟨rfl, rfl⟩

set_option maxHeartbeats 400000 in
theorem reflead_some (b off cap : Nat) (l : List Nat) (w : World) (hB : Bytes w (.slice (some ⟨b, off, none⟩) l.length cap) l) :
    Calls Tryz.prog 46 #[.slice (some ⟨b, off, none⟩) l.length cap] w fun e w' => e = .returned (.int .i64 (leadI l)) ∧ w = w' := by
  have hcap : l.length ≤ 9223372036854775807 := by obtain ⟨_, _, _, h1, h2, _⟩ := hB; omega
  obtain ⟨t, ht⟩ : ∃ t, t = leadI l := ⟨_, rfl⟩
  rw [← ht]
  have HT := Lib.hid ht
  have HB := Lib.hid hB
  clear hB ht
  go_enter Tryz.func46, Tryz.ntmps46
  go_wp2_with fail
  go_loop [3] (fun i => ∃ k : Nat, k ≤ l.length ∧ i = .int .i64 k ∧ ∀ j, j < k → nth l j = 0) (fun i => l.length - (intOf i).toNat)
  case atStart => exact ⟨0, by omega, rfl, fun j hj => by omega⟩
  case round =>
    obtain ⟨k, hk, rfl, hno⟩ := hrel
    have HN := Lib.hid hno
    clear hno
    by_cases hlt : k < l.length
    · have hu := HB.out.cell k hlt
      by_cases hq : nth l k = 0
      · have hb : ((nth l k : Int) != 0) = false := by rw [hq]; rfl
        have HQ := Lib.hid hq
        clear hq
        go_wp2_with fail
        go_round
        case rel => exact ⟨k + 1, by omega, by go_num, fun j hj => by
          by_cases h : j = k
          · rw [h]; exact HQ.out
          · exact HN.out j (by omega)⟩
        case measure => simp [intOf]; omega
      · have hb : ((nth l k : Int) != 0) = true := by rw [bne_iff_ne]; omega
        have HF : Hid (t = (k : Int)) := Lib.hid (by rw [HT.out]; unfold leadI; rw [lead_eq HN.out hlt hq, if_pos hlt])
        clear hq
        go_wp2_with fail
        go_ret
        exact ⟨by rw [HF.out]; rfl, rfl⟩
    · have HF : Hid (t = -1) := Lib.hid (by
        rw [HT.out]; unfold leadI
        rw [lead_none (fun j hj => HN.out j (by omega)), if_neg (by omega)])
      go_wp2_with fail
      go_ret
      exact ⟨by rw [HF.out]; rfl, rfl⟩

theorem reflead_any (v : Value) (l : List Nat) (w : World) (hB : Bytes w v l) :
    Calls Tryz.prog 46 #[v] w fun e w' => e = .returned (.int .i64 (leadI l)) ∧ w = w' := by
  have hB0 := hB
  obtain ⟨a, cap, rfl, _, _, _, h4⟩ := hB
  cases l with
  | nil => exact reflead_empty a cap w
  | cons x l =>
    obtain ⟨b, off, rfl, _, _⟩ := h4 (by simp)
    exact reflead_some b off cap _ w hB0

end Go.Proofs.YtphdadibfeencaaGreat

/-
  A block of bytes that a call made itself: what it holds, what a store makes of it, and that it stays where others are written.
-/
set_option maxRecDepth 100000
namespace Go.Proofs.YtphdadibfeencaaGreat
open Go.RowKit

/-- A block of bytes. -/
def bytesObj (l : List Nat) : Obj := .cells (l.map U8).toArray 5

/-- Block g holds these bytes, and isn't frozen. -/
def Own (w : World) (g : Nat) (l : List Nat) : Prop := w.heap[g]? = some (bytesObj l)

/-- The whole of a block, as a slice. -/
abbrev whole (g n : Nat) : Value := .slice (some ⟨g, 0, none⟩) n n

theorem Own.lt {w : World} {g : Nat} {l : List Nat} (h : Own w g l) : g < w.heap.size := (Array.getElem?_eq_some_iff.1 h).1

theorem Own.cell {w : World} {g : Nat} {l : List Nat} (h : Own w g l) (k : Nat) (hk : k < l.length) : w.cell? ⟨g, k, none⟩ = some (U8 (nth l k)) := by
  rw [cell_of_row w g k _ _ (0, 0) h, nth_eq l k hk]; simp [hk]

theorem Own.free {w : World} {g : Nat} {l : List Nat} (h : Own w g l) (k : Nat) : w.frozen? ⟨g, k, none⟩ = false := frozen_of_row w g k _ _ h

theorem Own.below {w w' : World} {g B : Nat} {l : List Nat} (h : Own w g l) (hB : g < B) (hb : Below B w w') : Own w' g l := by
  unfold Own; rw [hb.block g hB]; exact h

theorem Own.new (w : World) (l : List Nat) : Own (w.alloc (bytesObj l)) w.heap.size l := heap_alloc_new w _

theorem Own.set {w : World} {g : Nat} {l : List Nat} (h : Own w g l) (k x : Nat) : Own (w.setCell ⟨g, k, none⟩ (U8 x)) g (l.set k x) := by
  unfold Own World.setCell
  have e : w.heap[g]? = some (.cells (l.map U8).toArray 5) := h
  simp [Array.getElem?_modify, e, bytesObj, List.map_set]

theorem Own.bytes {w : World} {g : Nat} {l : List Nat} (h : Own w g l) (hl : ∀ x, x ∈ l → x < 256) (hm : l.length ≤ 9223372036854775807) : Bytes w (whole g l.length) l :=
  ⟨_, l.length, rfl, Nat.le_refl _, hm, hl, fun _ => ⟨g, 0, rfl, h.lt, fun i hi => by rw [Nat.zero_add]; exact h.cell i hi⟩⟩

/-- What one row's being written leaves of another slice. -/
theorem Bytes.grown {w w' : World} {v : Value} {l : List Nat} {row : Option Nat} (h : Bytes w v l) (hg : w.grownBy w' row) (hne : v.ownBlock = none ∨ v.ownBlock ≠ row) : Bytes w' v l := by
  obtain ⟨a, cap, rfl, h1, h2, h3, h4⟩ := h
  refine ⟨a, cap, rfl, h1, h2, h3, fun hn => ?_⟩
  obtain ⟨b, off, rfl, hlt, hc⟩ := h4 hn
  have hb : some b ≠ row := by simpa [Value.ownBlock] using hne
  exact ⟨b, off, rfl, Nat.lt_of_lt_of_le hlt hg.size, fun i hi => hg.cell (hc i hi) hb⟩

/-- What can be read lies below the heap's end. -/
theorem Bytes.apart {w : World} {v : Value} {l : List Nat} {g : Nat} (h : Bytes w v l) (hg : w.heap.size ≤ g) (hl : l ≠ []) : v.ownBlock ≠ some g := by
  obtain ⟨a, cap, rfl, _, _, _, h4⟩ := h
  obtain ⟨b, off, rfl, hlt, _⟩ := h4 hl
  simp [Value.ownBlock]; omega

theorem grown_refl (w : World) (row : Option Nat) : w.grownBy w row := ⟨rfl, rfl, rfl, Nat.le_refl _, fun _ _ _ => rfl⟩
theorem grown_trans {a b c : World} {row : Option Nat} (h : a.grownBy b row) (k : b.grownBy c row) : a.grownBy c row :=
  ⟨k.os.trans h.os, k.tape.trans h.tape, k.output.trans h.output, Nat.le_trans h.size k.size, fun i hi hn => (k.block i (Nat.lt_of_lt_of_le hi h.size) hn).trans (h.block i hi hn)⟩
theorem grown_of_below {a b : World} (h : Below a.heap.size a b) (row : Option Nat) : a.grownBy b row := ⟨h.os, h.tape, h.output, h.size, fun k hk _ => h.block k hk⟩
theorem grown_setCell (w : World) (p : Addr) (u : Value) : w.grownBy (w.setCell p u) (some p.block) :=
  ⟨rfl, rfl, rfl, by simp [World.setCell], fun k _ hn => Below.heap_setCell w p u k (fun e => hn (by rw [e]))⟩
/-- One row of those from B on was written. -/
theorem below_grown {B g : Nat} {a b c : World} (h : Below B a b) (hg : b.grownBy c (some g)) (hB : B ≤ b.heap.size) (hgB : B ≤ g) : Below B a c :=
  h.grown hg hB (fun _ e => by cases e; exact hgB)

theorem madeZeros (n : Nat) : madeCells #[Value.int .u8 0] n = ((List.replicate n 0).map U8).toArray := by
  apply Array.ext
  · simp [size_madeCells]
  · intro i h1 h2
    simp [madeCells, Nat.mod_one]

/-- 'make([]byte, n)': noughts, in a new block. -/
theorem make_bytes (n : Nat) (hn : n ≤ 281474976710656) (w : World) :
    (Instr.makeSlice 23 (.int .i64 (n : Int)) (.int .i64 (n : Int))).run Tryz.prog w = .ok (whole w.heap.size n) (w.alloc (bytesObj (List.replicate n 0))) := by
  have hi : (Tryz.prog.info? 5).map (fun i => (i.zero, i.size, i.bytes)) = some (some (.int .u8 0), 1, 1) := by kernel_rfl
  obtain ⟨i0, hi, hz0, hz1, hz2⟩ := info_parts hi
  have h := run_make (P := Tryz.prog) w 23 5 i0 (.int .u8 0) Tryz.underlying23 hi hz0 .i64 .i64 n n (by omega) (by omega) (by rw [hz2]; omega) (by omega)
  rw [h, hz1]
  simp only [Int.toNat_natCast, Nat.mul_one]
  show _ = Result.ok (whole w.heap.size n) (w.alloc (.cells _ _))
  rw [← madeZeros]
  rfl

end Go.Proofs.YtphdadibfeencaaGreat

/-
  field.Add and field.Mul, of as many bytes as one likes.
-/
set_option maxRecDepth 100000
namespace Go.Proofs.YtphdadibfeencaaGreat
open Go.RowKit

namespace Gf
def sum (l : List Nat) : Nat := l.foldl (· ^^^ ·) 0
def prod (l : List Nat) : Nat := l.foldl mul 1

theorem sum_snoc (l : List Nat) (x : Nat) : sum (l ++ [x]) = sum l ^^^ x := by simp [sum]
theorem foldl_xor_lt : ∀ (l : List Nat) (s : Nat), s < 256 → (∀ x, x ∈ l → x < 256) → l.foldl (· ^^^ ·) s < 256
  | [], _, h, _ => h
  | x :: l, s, h, hl => foldl_xor_lt l (s ^^^ x) (xor_lt h (hl x (by simp))) (fun y hy => hl y (by simp [hy]))
theorem sum_lt {l : List Nat} (h : ∀ x, x ∈ l → x < 256) : sum l < 256 := foldl_xor_lt l 0 (by decide) h
theorem foldl_mul_lt : ∀ (l : List Nat) (s : Nat), s < 256 → l.foldl mul s < 256
  | [], _, h => h
  | x :: l, s, h => foldl_mul_lt l (mul s x) (mul_lt h x)
theorem prod_cons {x : Nat} (hx : x < 256) (l : List Nat) : prod (x :: l) = l.foldl mul x := by simp [prod, one_mul hx]
end Gf

set_option maxHeartbeats 400000 in
theorem add_empty (a : Option Addr) (cap : Nat) (w : World) :
    Calls Tryz.prog 57 #[.slice a 0 cap] w fun e w' => e = .returned (U8 0) ∧ w = w' := by
  go_enter Tryz.func57, Tryz.ntmps57
  go_wp2
  refine wp_loop_rounds 1 ?_
  rw [rounds_succ]
  go_wp2
  go_ret
  exact ⟨rfl, rfl⟩

set_option maxHeartbeats 400000 in
theorem add_some (b off cap : Nat) (l : List Nat) (w : World) (hl : l.length ≤ 9223372036854775807) (hlt : ∀ x, x ∈ l → x < 256) (hc : ∀ i, i < l.length → w.cell? ⟨b, off + i, none⟩ = some (U8 (nth l i))) :
    Calls Tryz.prog 57 #[.slice (some ⟨b, off, none⟩) l.length cap] w fun e w' => e = .returned (U8 (Gf.sum l)) ∧ w = w' := by
  go_enter Tryz.func57, Tryz.ntmps57
  go_wp2
  have HC := Lib.hid hc
  have HL := Lib.hid hlt
  clear hc hlt
  go_loop [3, 8] (fun s i => ∃ k : Nat, k ≤ l.length ∧ i = .int .i64 k ∧ s = U8 (Gf.sum (l.take k))) (fun _ i => l.length - (intOf i).toNat)
  case atStart => exact ⟨0, by omega, rfl, rfl⟩
  case round =>
    obtain ⟨k, hk, rfl, rfl⟩ := hrel
    by_cases hlt : k < l.length
    · have hcell := HC.out k hlt
      have x1 := nth_lt HL.out k
      have x2 : Gf.sum (l.take k) < 256 := Gf.sum_lt fun x hx => HL.out x (List.mem_of_mem_take hx)
      have HS : Hid (bits BinOp.xor IntKind.u8 (Gf.sum (l.take k) : Int) (nth l k : Int) = (Gf.sum (l.take (k + 1)) : Int)) := by
        rw [u8_xor_nat _ _ x2 x1, take_nth l k hlt, Gf.sum_snoc]; rfl
      go_wp2
      go_round
      case rel => exact ⟨k + 1, by omega, by go_num, u8_eq HS.out⟩
      case measure => simp [intOf]; omega
    · go_wp2
      go_ret
      exact ⟨by rw [List.take_of_length_le (by omega)]; rfl, rfl⟩

theorem add_any (v : Value) (l : List Nat) (w : World) (h : Bytes w v l) :
    Calls Tryz.prog 57 #[v] w fun e w' => e = .returned (U8 (Gf.sum l)) ∧ w = w' := by
  obtain ⟨a, cap, rfl, h1, h2, h3, h4⟩ := h
  cases l with
  | nil => exact add_empty a cap w
  | cons x l =>
    obtain ⟨b, off, rfl, _, hc⟩ := h4 (by simp)
    exact add_some b off cap _ w (by omega) h3 hc

set_option maxHeartbeats 400000 in
theorem mul_empty (a : Option Addr) (cap : Nat) (w : World) :
    Calls Tryz.prog 58 #[.slice a 0 cap] w fun e w' => e = .returned (U8 1) ∧ w = w' := by
  go_enter Tryz.func58, Tryz.ntmps58
  go_wp2
  go_ret
  exact ⟨rfl, rfl⟩

set_option maxHeartbeats 400000 in
theorem mul_one_byte (b off cap : Nat) (x : Nat) (w : World) (h1 : 1 ≤ cap) (h2 : cap ≤ 9223372036854775807) (hc : w.cell? ⟨b, off, none⟩ = some (U8 x)) :
    Calls Tryz.prog 58 #[.slice (some ⟨b, off, none⟩) 1 cap] w fun e w' => e = .returned (U8 x) ∧ w = w' := by
  go_enter Tryz.func58, Tryz.ntmps58
  by_cases hcap : cap = 1
  · subst hcap
    go_wp2
    refine wp_loop_rounds 1 ?_
    rw [rounds_succ]
    go_wp2
    go_ret
    exact ⟨rfl, rfl⟩
  · go_wp2
    refine wp_loop_rounds 1 ?_
    rw [rounds_succ]
    go_wp2
    go_ret
    exact ⟨rfl, rfl⟩

set_option maxHeartbeats 400000 in
theorem mul_more (b off cap : Nat) (x : Nat) (l : List Nat) (w : World) (hn : 1 ≤ l.length) (h1 : l.length + 1 ≤ cap) (h2 : cap ≤ 9223372036854775807) (hx : x < 256) (hlt : ∀ y, y ∈ l → y < 256)
    (h0 : w.cell? ⟨b, off, none⟩ = some (U8 x)) (hc : ∀ i, i < l.length → w.cell? ⟨b, off + 1 + i, none⟩ = some (U8 (nth l i))) :
    Calls Tryz.prog 58 #[.slice (some ⟨b, off, none⟩) (l.length + 1) cap] w fun e w' => e = .returned (U8 (l.foldl Gf.mul x)) ∧ w = w' := by
  have HC := Lib.hid hc
  have HL := Lib.hid hlt
  clear hc hlt
  have hcap : ¬ cap = 1 := by omega
  have hb0 : ((l.length : Int) + 1 == 0) = false := beq_eq_false_iff_ne.2 (by omega)
  go_enter Tryz.func58, Tryz.ntmps58
  go_wp2
  go_loop [3, 15] (fun s i => ∃ k : Nat, k ≤ l.length ∧ i = .int .i64 k ∧ s = U8 ((l.take k).foldl Gf.mul x)) (fun _ i => l.length - (intOf i).toNat)
  case atStart => exact ⟨0, by omega, rfl, rfl⟩
  case round =>
    obtain ⟨k, hk, rfl, rfl⟩ := hrel
    by_cases hlt : k < l.length
    · have hcell := HC.out k hlt
      have x1 := nth_lt HL.out k
      have x2 : (l.take k).foldl Gf.mul x < 256 := Gf.foldl_mul_lt _ _ hx
      have HS : Hid (Gf.mul ((l.take k).foldl Gf.mul x) (nth l k) = (l.take (k + 1)).foldl Gf.mul x) := by
        rw [take_nth l k hlt, List.foldl_append]; rfl
      go_wp2_with fail
      refine (times_any _ _ _ x2 x1).mono ?_
      rintro e w' ⟨rfl, rfl⟩
      go_wp2
      go_round
      case rel => exact ⟨k + 1, by omega, by go_num, by rw [HS.out]⟩
      case measure => simp [intOf]; omega
    · go_wp2
      go_ret
      exact ⟨by rw [List.take_of_length_le (by omega)]; rfl, rfl⟩

theorem mul_any (v : Value) (l : List Nat) (w : World) (h : Bytes w v l) :
    Calls Tryz.prog 58 #[v] w fun e w' => e = .returned (U8 (Gf.prod l)) ∧ w = w' := by
  obtain ⟨a, cap, rfl, h1, h2, h3, h4⟩ := h
  cases l with
  | nil => exact mul_empty a cap w
  | cons x l =>
    obtain ⟨b, off, rfl, _, hc⟩ := h4 (by simp)
    rw [Gf.prod_cons (h3 x (by simp))]
    cases l with
    | nil => exact mul_one_byte b off cap x w h1 h2 (hc 0 (by simp))
    | cons y l =>
      refine mul_more b off cap x (y :: l) w (by simp) h1 h2 (h3 x (by simp)) (fun z hz => h3 z (by simp [hz])) (hc 0 (by simp)) (fun i hi => ?_)
      have := hc (i + 1) (by simpa using hi)
      rwa [Nat.add_comm i 1, ← Nat.add_assoc, Nat.add_comm 1 i] at this

end Go.Proofs.YtphdadibfeencaaGreat

/-
  Powers in the program: 'remainder', 'power', 'powerOfZero', 'Pow', 'Exp', 'Log', 'Inv', 'Div'.
-/
set_option maxRecDepth 100000
namespace Go.Proofs.YtphdadibfeencaaGreat
open Go.RowKit

/-- n modulo 255, from 0 on. -/
def rem255 (n : Int) : Nat := (n % 255).toNat

theorem rem255_lt (n : Int) : rem255 n < 255 := by unfold rem255; omega

theorem rem_spell (n : Int) : (wrap64 (n.tmod 255 + 255)).tmod 255 = (rem255 n : Int) := by
  have h := Int.tmod_eq_emod (a := n) (b := 255)
  have hl : (-255 : Int) < n.tmod 255 ∧ n.tmod 255 < 255 := by
    rw [h]; split <;> omega
  rw [IntWalk.wrap64_in _ ⟨by omega, by omega⟩, Int.tmod_eq_emod_of_nonneg (by omega)]
  unfold rem255
  rw [h]; split <;> omega

set_option maxHeartbeats 400000 in
theorem remainder_any (n : Int) (w : World) :
    Calls Tryz.prog 100 #[.int .i64 n] w fun e w' => e = .returned (.int .i64 (rem255 n)) ∧ w = w' := by
  go_enter Tryz.func100, Tryz.ntmps100
  go_wp2
  go_ret
  exact ⟨by rw [← rem_spell]; rfl, rfl⟩

theorem and_one_small : ∀ m : Fin 256, bits BinOp.and IntKind.i64 (m.1 : Int) 1 = (m.1 : Int) % 2 := by decide +kernel
theorem and_one_i64 (m : Nat) (h : m < 255) : bits BinOp.and IntKind.i64 (m : Int) 1 = (m : Int) % 2 := and_one_small ⟨m, by omega⟩

set_option maxHeartbeats 400000 in
theorem power_any (a : Nat) (n : Int) (w : World) (ha : a < 256) :
    Calls Tryz.prog 97 #[U8 a, .int .i64 n] w fun e w' => e = .returned (U8 (Gf.pow a (rem255 n))) ∧ w = w' := by
  have hr := rem255_lt n
  obtain ⟨r, hrr⟩ : ∃ r, r = rem255 n := ⟨_, rfl⟩
  rw [← hrr] at hr ⊢
  obtain ⟨q, hq⟩ : ∃ q, q = Gf.pow a r := ⟨_, rfl⟩
  rw [← hq]
  have Hr := Lib.hid hrr
  have Hq := Lib.hid hq
  clear hrr hq
  go_enter Tryz.func97, Tryz.ntmps97
  go_wp2_with fail
  refine (remainder_any _ _).mono ?_
  rintro e w' ⟨rfl, rfl⟩
  rw [← Hr.out]
  go_wp2_with fail
  go_loop [0, 5, 6] (fun x p m => ∃ x' p' m' : Nat, x = U8 x' ∧ p = U8 p' ∧ m = .int .i64 m' ∧ x' < 256 ∧ p' < 256 ∧ m' < 255 ∧ Gf.mul p' (Gf.pow x' m') = q) (fun _ _ m => (intOf m).toNat)
  case atStart => exact ⟨a, 1, r, rfl, rfl, rfl, ha, by omega, hr, by rw [Gf.one_mul (Gf.pow_lt ha r)]; exact Hq.out.symm⟩
  case round =>
    obtain ⟨x, p, m, rfl, rfl, rfl, hx, hp, hm, he⟩ := hrel
    have He := Lib.hid he
    clear he
    by_cases hlt : 0 < m
    · by_cases hodd : m % 2 = 1
      · have hb : (bits BinOp.and IntKind.i64 (m : Int) 1 == 1) = true := by rw [and_one_i64 m hm, beq_iff_eq]; omega
        have Hn : Hid (Gf.mul (Gf.mul p x) (Gf.pow (Gf.mul x x) (m / 2)) = q) := by
          rw [Gf.pow_sq hx, Gf.mul_assoc hp hx, Gf.mul_comm hx (Gf.pow_lt hx _), ← He.out]
          show Gf.mul p (Gf.pow x (2 * (m / 2) + 1)) = _
          rw [show 2 * (m / 2) + 1 = m from by omega]
        clear hodd
        go_wp2_with fail
        refine (times_any _ _ _ hp hx).mono ?_
        rintro e w' ⟨rfl, rfl⟩
        go_wp2_with fail
        refine (times_any _ _ _ hx hx).mono ?_
        rintro e w' ⟨rfl, rfl⟩
        go_wp2_with fail
        go_round
        case rel => exact ⟨Gf.mul x x, Gf.mul p x, m / 2, rfl, rfl, by go_num, Gf.mul_lt hx _, Gf.mul_lt hp _, by omega, Hn.out⟩
        case measure => simp [intOf]; omega
      · have hb : (bits BinOp.and IntKind.i64 (m : Int) 1 == 1) = false := by rw [and_one_i64 m hm]; exact beq_eq_false_iff_ne.2 (by omega)
        have Hn : Hid (Gf.mul p (Gf.pow (Gf.mul x x) (m / 2)) = q) := Lib.hid (by rw [Gf.pow_sq hx, ← He.out, show 2 * (m / 2) = m from by omega])
        clear hodd
        go_wp2_with fail
        refine (times_any _ _ _ hx hx).mono ?_
        rintro e w' ⟨rfl, rfl⟩
        go_wp2_with fail
        go_round
        case rel => exact ⟨Gf.mul x x, p, m / 2, rfl, rfl, by go_num, Gf.mul_lt hx _, hp, by omega, Hn.out⟩
        case measure => simp [intOf]; omega
    · go_wp2_with fail
      go_ret
      have e0 : m = 0 := by omega
      have e1 := He.out
      rw [e0] at e1
      exact ⟨ret_u8 (by rw [← e1, show Gf.pow x 0 = 1 from rfl, Gf.mul_one hp]), rfl⟩


/-- An int64 that is a named type's too: the errors' numbers. -/
abbrev I64 (n : Int) : Value := .int .i64 n

/-- What Pow answers: the power. -/
def powV (a : Nat) (n : Int) : Nat := if a = 0 then (if n = 0 then 1 else 0) else Gf.pow a (rem255 n)
/-- What Pow answers: the error's number. -/
def powE (a : Nat) (n : Int) : Int := if a = 0 then (if n < 0 then 3 else 0) else 0

set_option maxHeartbeats 400000 in
theorem powerOfZero_any (n : Int) (w : World) :
    Calls Tryz.prog 96 #[.int .i64 n] w fun e w' => e = .returned (.tuple #[U8 (powV 0 n), I64 (powE 0 n)]) ∧ w = w' := by
  by_cases hn : n < 0
  · have h0 : ¬ n = 0 := by omega
    rw [show powV 0 n = 0 from by simp [powV, h0], show powE 0 n = 3 from by simp [powE, hn]]
    go_enter Tryz.func96, Tryz.ntmps96
    go_wp2
    go_ret2
    exact ⟨rfl, rfl⟩
  · by_cases h0 : n = 0
    · subst h0
      go_enter Tryz.func96, Tryz.ntmps96
      go_wp2
      go_ret2
      exact ⟨rfl, rfl⟩
    · rw [show powV 0 n = 0 from by simp [powV, h0], show powE 0 n = 0 from by simp [powE, hn]]
      go_enter Tryz.func96, Tryz.ntmps96
      go_wp2
      go_ret2
      exact ⟨rfl, rfl⟩

set_option maxHeartbeats 400000 in
theorem pow_any (a : Nat) (n : Int) (w : World) (ha : a < 256) :
    Calls Tryz.prog 91 #[U8 a, .int .i64 n] w fun e w' => e = .returned (.tuple #[U8 (powV a n), I64 (powE a n)]) ∧ w = w' := by
  by_cases h0 : a = 0
  · subst h0
    go_enter Tryz.func91, Tryz.ntmps91
    go_wp2_with fail
    refine (powerOfZero_any _ _).mono ?_
    rintro e w' ⟨rfl, rfl⟩
    go_wp2_with fail
    go_ret2
    exact ⟨rfl, rfl⟩
  · have hb : ((a : Int) == 0) = false := beq_eq_false_iff_ne.2 (by omega)
    go_enter Tryz.func91, Tryz.ntmps91
    go_wp2_with fail
    refine (power_any _ _ _ ha).mono ?_
    rintro e w' ⟨rfl, rfl⟩
    go_wp2_with fail
    go_ret2
    exact ⟨by simp [powV, powE, h0], rfl⟩

theorem rem255_neg_one : rem255 (-1) = 254 := by decide

theorem pow_254 {a : Nat} (ha : a < 256) (h0 : a ≠ 0) : Gf.pow a 254 = Gf.inv a := by
  have h1 : Gf.mul a (Gf.pow a 254) = 1 := by
    rw [Gf.mul_comm ha (Gf.pow_lt ha _)]
    show Gf.pow a 255 = 1
    rw [← Gf.pow_mod ha h0]; rfl
  exact Gf.mul_cancel ha (Gf.pow_lt ha _) (Gf.inv_lt a) h0 (by rw [h1, Gf.mul_inv ha h0])

/-- The error's number of what is divided by a. -/
def zeroE (a : Nat) : Int := if a = 0 then 3 else 0

theorem powV_inv {a : Nat} (ha : a < 256) : powV a (-1) = Gf.inv a := by
  unfold powV
  by_cases h0 : a = 0
  · subst h0; decide
  · rw [if_neg h0, rem255_neg_one, pow_254 ha h0]
theorem powE_inv (a : Nat) : powE a (-1) = zeroE a := by
  unfold powE zeroE; split <;> simp

set_option maxHeartbeats 400000 in
theorem inv_any (a : Nat) (w : World) (ha : a < 256) :
    Calls Tryz.prog 78 #[U8 a] w fun e w' => e = .returned (.tuple #[U8 (Gf.inv a), I64 (zeroE a)]) ∧ w = w' := by
  have e1 := Lib.hid (powV_inv ha)
  have e2 := Lib.hid (powE_inv a)
  go_enter Tryz.func78, Tryz.ntmps78
  go_wp2_with fail
  refine (pow_any _ _ _ ha).mono ?_
  rintro e w' ⟨rfl, rfl⟩
  rw [e1.out, e2.out]
  go_wp2_with fail
  go_ret2
  exact ⟨rfl, rfl⟩

theorem zeroE_zero : zeroE 0 = 3 := rfl
theorem zeroE_ne {a : Nat} (h : a ≠ 0) : zeroE a = 0 := if_neg h

end Go.Proofs.YtphdadibfeencaaGreat
