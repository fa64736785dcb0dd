/-
  Bytes as a field (layer 1), in plain numbers: the product by shifting and adding, that it is the one of polynomials modulo 11D, and that it is commutative, associative and distributes. No program in this text.
-/
namespace Go.Proofs.Ytobhlfkmdhoncaa
namespace Gf

/-- The product with x. -/
def dbl (a : Nat) : Nat := if a < 128 then 2 * a else (2 * a) ^^^ 285

/-- The product with x, n times. -/
def dblN (a : Nat) : Nat → Nat
  | 0 => a
  | n + 1 => dbl (dblN a n)

/-- The product, by the first k bits of b. -/
def mulK (a b : Nat) : Nat → Nat
  | 0 => 0
  | k + 1 => mulK a b k ^^^ (if b.testBit k then dblN a k else 0)

def mul (a b : Nat) : Nat := mulK a b 8

/-! ### exclusive or -/

theorem xor_lt {a b : Nat} (ha : a < 256) (hb : b < 256) : a ^^^ b < 256 := Nat.xor_lt_two_pow (n := 8) ha hb

theorem xor_xor_self (a b : Nat) : a ^^^ b ^^^ b = a := by rw [Nat.xor_assoc, Nat.xor_self, Nat.xor_zero]

theorem xor_four (a b c d : Nat) : (a ^^^ b) ^^^ (c ^^^ d) = (a ^^^ c) ^^^ (b ^^^ d) := by
  rw [Nat.xor_assoc, Nat.xor_assoc, ← Nat.xor_assoc b c d, Nat.xor_comm b c, Nat.xor_assoc c b d]

/-! ### doubling is linear -/

theorem dbl_alt (a : Nat) (h : a < 256) : dbl a = (2 * a) ^^^ (if a.testBit 7 then 285 else 0) := by
  have : ∀ a : Fin 256, dbl a.1 = (2 * a.1) ^^^ (if a.1.testBit 7 then 285 else 0) := by decide +kernel
  exact this ⟨a, h⟩

theorem dbl_lt {a : Nat} (h : a < 256) : dbl a < 256 := by
  have : ∀ a : Fin 256, dbl a.1 < 256 := by decide +kernel
  exact this ⟨a, h⟩

theorem ite_xor (p q : Bool) (c : Nat) : (if (p ^^ q) = true then c else 0) = (if p = true then c else 0) ^^^ (if q = true then c else 0) := by
  cases p <;> cases q <;> simp

theorem two_mul_xor (a b : Nat) : 2 * (a ^^^ b) = (2 * a) ^^^ (2 * b) := by
  apply Nat.eq_of_testBit_eq
  intro i
  have e : ∀ x : Nat, 2 * x = x <<< 1 := fun x => by rw [Nat.shiftLeft_eq, Nat.mul_comm]
  rw [e, e, e, Nat.testBit_shiftLeft, Nat.testBit_xor, Nat.testBit_xor, Nat.testBit_shiftLeft, Nat.testBit_shiftLeft]
  cases decide (i ≥ 1) <;> simp

theorem dbl_xor {a b : Nat} (ha : a < 256) (hb : b < 256) : dbl (a ^^^ b) = dbl a ^^^ dbl b := by
  rw [dbl_alt _ ha, dbl_alt _ hb, dbl_alt _ (xor_lt ha hb), Nat.testBit_xor, ite_xor, two_mul_xor, xor_four]

theorem dbl_zero : dbl 0 = 0 := rfl

theorem dblN_lt {a : Nat} (h : a < 256) : ∀ n, dblN a n < 256
  | 0 => h
  | n + 1 => dbl_lt (dblN_lt h n)

theorem dblN_xor {a b : Nat} (ha : a < 256) (hb : b < 256) : ∀ n, dblN (a ^^^ b) n = dblN a n ^^^ dblN b n
  | 0 => rfl
  | n + 1 => by simp only [dblN]; rw [dblN_xor ha hb n, dbl_xor (dblN_lt ha n) (dblN_lt hb n)]

theorem dblN_zero : ∀ n, dblN 0 n = 0
  | 0 => rfl
  | n + 1 => by simp only [dblN]; rw [dblN_zero n]; rfl

theorem dblN_add (a m : Nat) : ∀ n, dblN a (m + n) = dblN (dblN a m) n
  | 0 => rfl
  | n + 1 => by show dbl (dblN a (m + n)) = dbl (dblN (dblN a m) n); rw [dblN_add a m n]

theorem dblN_dbl (a : Nat) (n : Nat) : dblN (dbl a) n = dbl (dblN a n) := by
  have h := dblN_add a 1 n
  rw [Nat.add_comm] at h
  exact h.symm

/-! ### the product -/

theorem mulK_lt {a : Nat} (h : a < 256) (b : Nat) : ∀ k, mulK a b k < 256
  | 0 => Nat.zero_lt_succ _
  | k + 1 => by
    simp only [mulK]
    refine xor_lt (mulK_lt h b k) ?_
    split
    · exact dblN_lt h k
    · decide

theorem mul_lt {a : Nat} (h : a < 256) (b : Nat) : mul a b < 256 := mulK_lt h b 8

theorem mulK_xor_left {a b : Nat} (ha : a < 256) (hb : b < 256) (c : Nat) : ∀ k, mulK (a ^^^ b) c k = mulK a c k ^^^ mulK b c k
  | 0 => (Nat.xor_self 0).symm
  | k + 1 => by
    simp only [mulK]
    rw [mulK_xor_left ha hb c k, dblN_xor ha hb k]
    cases c.testBit k
    · simp
    · simp only [if_true]; rw [xor_four]

theorem mul_xor_left {a b : Nat} (ha : a < 256) (hb : b < 256) (c : Nat) : mul (a ^^^ b) c = mul a c ^^^ mul b c := mulK_xor_left ha hb c 8

theorem mulK_xor_right (a b c : Nat) : ∀ k, mulK a (b ^^^ c) k = mulK a b k ^^^ mulK a c k
  | 0 => (Nat.xor_self 0).symm
  | k + 1 => by
    simp only [mulK]
    rw [mulK_xor_right a b c k, Nat.testBit_xor, ite_xor, xor_four]

theorem mul_xor_right (a b c : Nat) : mul a (b ^^^ c) = mul a b ^^^ mul a c := mulK_xor_right a b c 8

theorem mulK_dbl {a : Nat} (ha : a < 256) (b : Nat) : ∀ k, mulK (dbl a) b k = dbl (mulK a b k)
  | 0 => rfl
  | k + 1 => by
    simp only [mulK]
    rw [mulK_dbl ha b k, dblN_dbl]
    cases b.testBit k
    · simp
    · simp only [if_true]; rw [dbl_xor (mulK_lt ha b k) (dblN_lt ha k)]

theorem mul_dbl {a : Nat} (ha : a < 256) (b : Nat) : mul (dbl a) b = dbl (mul a b) := mulK_dbl ha b 8

theorem mul_dblN {a : Nat} (ha : a < 256) (b : Nat) : ∀ n, mul (dblN a n) b = dblN (mul a b) n
  | 0 => rfl
  | n + 1 => by simp only [dblN]; rw [mul_dbl (dblN_lt ha n), mul_dblN ha b n]

theorem one_mul {b : Nat} (hb : b < 256) : mul 1 b = b := by
  have : ∀ b : Fin 256, mul 1 b.1 = b.1 := by decide +kernel
  exact this ⟨b, hb⟩

theorem mul_zero (a : Nat) : mul a 0 = 0 := by simp [mul, mulK]

theorem zero_mul (b : Nat) : mul 0 b = 0 := by
  have h : ∀ k, mulK 0 b k = 0 := by
    intro k
    induction k with
    | zero => rfl
    | succ k ih => simp [mulK, ih, dblN_zero]
  exact h 8

/-! ### powers of 2 -/

/-- 2 to the n. -/
def exp (n : Nat) : Nat := dblN 1 n

theorem exp_lt (n : Nat) : exp n < 256 := dblN_lt (by decide) n

/-- Doubled so often till it is a: how often. -/
def logF (a : Nat) : Nat → Nat → Nat → Nat
  | 0, _, n => n
  | f + 1, p, n => if p = a then n else logF a f (dbl p) (n + 1)

/-- Of which power of 2 it is one. -/
def log (a : Nat) : Nat := logF a 255 1 0

theorem log_spec : ∀ a : Fin 256, a.1 ≠ 0 → exp (log a.1) = a.1 ∧ log a.1 < 255 := by decide +kernel

theorem exp_log {a : Nat} (h : a < 256) (h0 : a ≠ 0) : exp (log a) = a := (log_spec ⟨a, h⟩ h0).1
theorem log_lt {a : Nat} (h : a < 256) (h0 : a ≠ 0) : log a < 255 := (log_spec ⟨a, h⟩ h0).2

theorem exp_spec : ∀ n : Fin 255, log (exp n.1) = n.1 := by decide +kernel
theorem log_exp {n : Nat} (h : n < 255) : log (exp n) = n := exp_spec ⟨n, h⟩

theorem exp_255 : exp 255 = 1 := by decide +kernel

theorem exp_add (m n : Nat) : exp (m + n) = dblN (exp m) n := dblN_add 1 m n

theorem exp_mul (n : Nat) {b : Nat} (hb : b < 256) : mul (exp n) b = dblN b n := by
  unfold exp; rw [mul_dblN (by decide), one_mul hb]

theorem exp_mul_exp (m n : Nat) : mul (exp m) (exp n) = exp (m + n) := by
  rw [exp_mul m (exp_lt n), Nat.add_comm, exp_add]

theorem exp_ne (n : Nat) : exp n ≠ 0 := by
  induction n with
  | zero => decide
  | succ n ih =>
    have : ∀ a : Fin 256, a.1 ≠ 0 → dbl a.1 ≠ 0 := by decide +kernel
    exact this ⟨exp n, exp_lt n⟩ ih

theorem exp_mod (n : Nat) : exp (n % 255) = exp n := by
  have h : ∀ q, exp (n % 255 + 255 * q) = exp (n % 255) := by
    intro q
    induction q with
    | zero => rfl
    | succ q ih =>
      rw [Nat.mul_succ, ← Nat.add_assoc, Nat.add_comm _ 255, exp_add, exp_255]
      exact ih
  have := h (n / 255)
  rw [Nat.mod_add_div] at this
  exact this.symm

/-! ### the field -/

theorem mul_comm {a b : Nat} (ha : a < 256) (hb : b < 256) : mul a b = mul b a := by
  by_cases h0 : a = 0
  · rw [h0, zero_mul, mul_zero]
  by_cases h1 : b = 0
  · rw [h1, zero_mul, mul_zero]
  rw [← exp_log ha h0, ← exp_log hb h1, exp_mul_exp, exp_mul_exp, Nat.add_comm]

theorem mul_assoc {a b : Nat} (ha : a < 256) (hb : b < 256) (c : Nat) : mul (mul a b) c = mul a (mul b c) := by
  by_cases h0 : a = 0
  · rw [h0, zero_mul, zero_mul, zero_mul]
  rw [← exp_log ha h0, exp_mul _ hb, mul_dblN hb, exp_mul _ (mul_lt hb c)]

theorem mul_one {a : Nat} (ha : a < 256) : mul a 1 = a := by rw [mul_comm ha (by decide), one_mul ha]

theorem mul_ne {a b : Nat} (ha : a < 256) (hb : b < 256) (h0 : a ≠ 0) (h1 : b ≠ 0) : mul a b ≠ 0 := by
  rw [← exp_log ha h0, ← exp_log hb h1, exp_mul_exp]; exact exp_ne _

/-- Whose product with it is 1. -/
def inv (a : Nat) : Nat := if a = 0 then 0 else exp (255 - log a)

theorem inv_lt (a : Nat) : inv a < 256 := by unfold inv; split; decide; exact exp_lt _

theorem mul_inv {a : Nat} (ha : a < 256) (h0 : a ≠ 0) : mul a (inv a) = 1 := by
  have hl := log_lt ha h0
  unfold inv
  rw [if_neg h0]
  have h := exp_mul_exp (log a) (255 - log a)
  rw [exp_log ha h0, show log a + (255 - log a) = 255 from by omega, exp_255] at h
  exact h

theorem inv_mul {a : Nat} (ha : a < 256) (h0 : a ≠ 0) : mul (inv a) a = 1 := by rw [mul_comm (inv_lt a) ha, mul_inv ha h0]

theorem inv_ne {a : Nat} (h0 : a ≠ 0) : inv a ≠ 0 := by unfold inv; rw [if_neg h0]; exact exp_ne _

/-- What is times a the same is the same. -/
theorem mul_cancel {a b c : Nat} (ha : a < 256) (hb : b < 256) (hc : c < 256) (h0 : a ≠ 0) (h : mul a b = mul a c) : b = c := by
  have e : mul (inv a) (mul a b) = mul (inv a) (mul a c) := by rw [h]
  rwa [← mul_assoc (inv_lt a) ha, ← mul_assoc (inv_lt a) ha, inv_mul ha h0, one_mul hb, one_mul hc] at e

/-! ### powers -/

/-- Taken so many times. -/
def pow (a : Nat) : Nat → Nat
  | 0 => 1
  | n + 1 => mul (pow a n) a

theorem pow_lt {a : Nat} (ha : a < 256) : ∀ n, pow a n < 256
  | 0 => show 1 < 256 by decide
  | n + 1 => mul_lt (pow_lt ha n) a

theorem pow_add {a : Nat} (ha : a < 256) (m : Nat) : ∀ n, pow a (m + n) = mul (pow a m) (pow a n)
  | 0 => (mul_one (pow_lt ha m)).symm
  | n + 1 => by
    show mul (pow a (m + n)) a = mul (pow a m) (mul (pow a n) a)
    rw [pow_add ha m n, mul_assoc (pow_lt ha m) (pow_lt ha n)]

theorem pow_sq {a : Nat} (ha : a < 256) : ∀ n, pow (mul a a) n = pow a (2 * n)
  | 0 => rfl
  | n + 1 => by
    show mul (pow (mul a a) n) (mul a a) = pow a (2 * n + 1 + 1)
    rw [pow_sq ha n, ← mul_assoc (pow_lt ha _) ha]; rfl

theorem pow_exp (m : Nat) : ∀ n, pow (exp m) n = exp (m * n)
  | 0 => rfl
  | n + 1 => by
    show mul (pow (exp m) n) (exp m) = exp (m * n + m)
    rw [pow_exp m n, exp_mul_exp]

theorem pow_zero_succ (n : Nat) : pow 0 (n + 1) = 0 := mul_zero _

theorem pow_mod {a : Nat} (ha : a < 256) (h0 : a ≠ 0) (n : Nat) : pow a (n % 255) = pow a n := by
  rw [← exp_log ha h0, pow_exp, pow_exp, ← exp_mod (log a * n), Nat.mul_mod, ← exp_mod (log a * (n % 255)), Nat.mul_mod]
  simp

theorem pow_two (n : Nat) : pow 2 n = exp n := by
  have h := pow_exp 1 n
  rw [show exp 1 = 2 from rfl, Nat.one_mul] at h
  exact h

theorem pow_inv {a : Nat} (ha : a < 256) (h0 : a ≠ 0) (n : Nat) : mul (pow (inv a) n) (pow a n) = 1 := by
  induction n with
  | zero => exact one_mul (show 1 < 256 by decide)
  | succ n ih =>
    have hi := inv_lt a
    show mul (mul (pow (inv a) n) (inv a)) (mul (pow a n) a) = 1
    rw [mul_comm (pow_lt ha n) ha, mul_assoc (pow_lt hi n) hi, ← mul_assoc hi ha, inv_mul ha h0, one_mul (pow_lt ha n), ih]

/-! ### the polynomials' product: first all of it, then what the modulus leaves -/

/-- The product of polynomials, by the first k bits of b. -/
def clK (a b : Nat) : Nat → Nat
  | 0 => 0
  | k + 1 => clK a b k ^^^ (if b.testBit k then a <<< k else 0)

/-- One place is taken away, by the modulus. -/
def redStep (s i : Nat) : Nat := s ^^^ (if s.testBit i then 285 <<< (i - 8) else 0)

def red (s : Nat) : Nat := redStep (redStep (redStep (redStep (redStep (redStep (redStep s 14) 13) 12) 11) 10) 9) 8

theorem redStep_xor (s t i : Nat) : redStep (s ^^^ t) i = redStep s i ^^^ redStep t i := by
  unfold redStep; rw [Nat.testBit_xor, ite_xor, xor_four]

theorem red_xor (s t : Nat) : red (s ^^^ t) = red s ^^^ red t := by unfold red; simp only [redStep_xor]

theorem red_shift : ∀ k : Fin 8, ∀ a : Fin 256, red (a.1 <<< k.1) = dblN a.1 k.1 := by decide +kernel

theorem red_zero : red 0 = 0 := by decide +kernel

theorem red_clK {a : Nat} (ha : a < 256) (b : Nat) : ∀ k, k ≤ 8 → red (clK a b k) = mulK a b k
  | 0, _ => red_zero
  | k + 1, hk => by
    simp only [clK, mulK]
    rw [red_xor, red_clK ha b k (by omega)]
    cases b.testBit k
    · simp [red_zero]
    · simp only [if_true]; rw [red_shift ⟨k, by omega⟩ ⟨a, ha⟩]

theorem red_mul {a : Nat} (ha : a < 256) (b : Nat) : red (clK a b 8) = mul a b := red_clK ha b 8 (Nat.le_refl _)

end Gf
end Go.Proofs.Ytobhlfkmdhoncaa
