/-
  The sum of 32 bits (layer 4), in plain numbers: that it is linear, that it goes half byte by half byte, and that a burst of 32 bits is found. No program in this text.
-/
import Derived.Test.YtgjjkiebfekkjaaDoorGf
namespace Go.Proofs.YtgjjkiebfekkjaaDoor
namespace Crc

/-- The register shifted by one bit. -/
def bit (r : Nat) : Nat := (r / 2) ^^^ (if r.testBit 0 then 3988292384 else 0)

/-- Shifted n times. -/
def bits (r : Nat) : Nat → Nat
  | 0 => r
  | n + 1 => bits (bit r) n

theorem div_xor (a b : Nat) : (a ^^^ b) / 2 = (a / 2) ^^^ (b / 2) := by
  apply Nat.eq_of_testBit_eq
  intro i
  rw [Nat.testBit_xor, ← Nat.testBit_succ, ← Nat.testBit_succ, ← Nat.testBit_succ, Nat.testBit_xor]

theorem bit_xor (a b : Nat) : bit (a ^^^ b) = bit a ^^^ bit b := by
  unfold bit; rw [div_xor, Nat.testBit_xor, Gf.ite_xor, Gf.xor_four]

theorem bits_xor (a b : Nat) : ∀ n, bits (a ^^^ b) n = bits a n ^^^ bits b n := by
  intro n
  induction n generalizing a b with
  | zero => rfl
  | succ n ih => simp only [bits]; rw [bit_xor, ih]

theorem bits_add (r m : Nat) : ∀ n, bits r (m + n) = bits (bits r m) n := by
  induction m generalizing r with
  | zero => intro n; rw [Nat.zero_add]; rfl
  | succ m ih => intro n; rw [Nat.succ_add]; simp only [bits]; exact ih (bit r) n

theorem bits_succ (r n : Nat) : bits r (n + 1) = bit (bits r n) := bits_add r n 1

theorem bit_two (y : Nat) : bit (2 * y) = y := by
  unfold bit
  have h : (2 * y).testBit 0 = false := by simp [Nat.testBit_zero]
  rw [h]; simp

theorem bits_two (y : Nat) : ∀ n, bits (2 ^ n * y) n = y := by
  intro n
  induction n with
  | zero => simp [bits]
  | succ n ih =>
    simp only [bits]
    rw [show 2 ^ (n + 1) * y = 2 * (2 ^ n * y) from by rw [Nat.pow_succ]; simp [Nat.mul_comm, Nat.mul_left_comm], bit_two, ih]

theorem bit_lt {r : Nat} (h : r < 4294967296) : bit r < 4294967296 := by
  unfold bit
  refine Nat.xor_lt_two_pow (n := 32) (by omega) ?_
  split <;> decide

theorem bits_lt {r : Nat} (h : r < 4294967296) : ∀ n, bits r n < 4294967296 := by
  intro n
  induction n generalizing r with
  | zero => exact h
  | succ n ih => exact ih (bit_lt h)

theorem bit_ne {r : Nat} (h : r < 4294967296) (h0 : r ≠ 0) : bit r ≠ 0 := by
  unfold bit
  intro e
  cases hb : r.testBit 0
  · rw [hb] at e
    simp [Nat.testBit_zero] at hb
    have e1 : r / 2 = 0 := by simpa using e
    omega
  · rw [hb, if_pos rfl] at e
    have e1 : r / 2 = 3988292384 := by
      have := congrArg (· ^^^ 3988292384) e
      simpa [Nat.xor_assoc] using this
    omega

theorem bits_ne {r : Nat} (h : r < 4294967296) (h0 : r ≠ 0) : ∀ n, bits r n ≠ 0 := by
  intro n
  induction n generalizing r with
  | zero => exact h0
  | succ n ih => exact ih (bit_lt h) (bit_ne h h0)

theorem bits_zero : ∀ n, bits 0 n = 0 := by
  intro n
  induction n with
  | zero => rfl
  | succ n ih => simp only [bits]; rw [show bit 0 = 0 from by decide, ih]

/-! ### bytes -/

/-- One byte more. -/
def byte (r x : Nat) : Nat := bits (r ^^^ x) 8

/-- All of them. -/
def reg (r : Nat) (l : List Nat) : Nat := l.foldl byte r

/-- The sum. -/
def sum (l : List Nat) : Nat := 4294967295 ^^^ reg 4294967295 l

theorem reg_append (r : Nat) (a b : List Nat) : reg r (a ++ b) = reg (reg r a) b := by simp [reg]
theorem reg_snoc (r : Nat) (a : List Nat) (x : Nat) : reg r (a ++ [x]) = byte (reg r a) x := by simp [reg]

theorem byte_lt {r x : Nat} (hr : r < 4294967296) (hx : x < 256) : byte r x < 4294967296 :=
  bits_lt (Nat.xor_lt_two_pow (n := 32) hr (by omega)) 8

theorem reg_lt {r : Nat} (hr : r < 4294967296) : ∀ {l : List Nat}, (∀ x, x ∈ l → x < 256) → reg r l < 4294967296 := by
  intro l
  induction l generalizing r with
  | nil => intro _; exact hr
  | cons x l ih => intro h; exact ih (byte_lt hr (h x (by simp))) (fun y hy => h y (by simp [hy]))

theorem sum_lt {l : List Nat} (h : ∀ x, x ∈ l → x < 256) : sum l < 4294967296 := Nat.xor_lt_two_pow (n := 32) (by decide) (reg_lt (by decide) h)

/-- Bytes as one number, the first ones lowest. -/
def num : List Nat → Nat
  | [] => 0
  | x :: l => x + 256 * num l

theorem add_xor (x y : Nat) (hx : x < 256) : x + 256 * y = x ^^^ (256 * y) := by
  have h := Nat.two_pow_add_eq_or_of_lt (i := 8) (show x < 2 ^ 8 from hx) y
  rw [Nat.add_comm, show 256 * y = 2 ^ 8 * y from rfl, h]
  apply Nat.eq_of_testBit_eq
  intro i
  rw [Nat.testBit_or, Nat.testBit_xor, Nat.testBit_two_pow_mul]
  by_cases hi : 8 ≤ i
  · have : x.testBit i = false := Nat.testBit_lt_two_pow (Nat.lt_of_lt_of_le hx (show 2 ^ 8 ≤ 2 ^ i from Nat.pow_le_pow_right (by decide) hi))
    rw [this]; simp
  · simp [hi]

theorem reg_num (l : List Nat) : ∀ r, (∀ x, x ∈ l → x < 256) → reg r l = bits (num l ^^^ r) (8 * l.length) := by
  induction l with
  | nil => intro r _; simp [reg, num, bits]
  | cons x l ih =>
    intro r h
    have hx := h x (by simp)
    show reg (byte r x) l = _
    rw [ih (byte r x) (fun y hy => h y (by simp [hy]))]
    rw [show 8 * (x :: l).length = 8 + 8 * l.length from by simp; omega, bits_add]
    congr 1
    rw [show num (x :: l) = x ^^^ (256 * num l) from add_xor x (num l) hx, Nat.xor_assoc, Nat.xor_comm (256 * num l) r, ← Nat.xor_assoc, bits_xor, show 256 * num l = 2 ^ 8 * num l from rfl, bits_two, Nat.xor_comm x r, Nat.xor_comm]
    rfl

/-- Where bits within 32 are turned, the sum is another one, if any is. -/
theorem burst {a b : List Nat} (p q : Nat) (ha : ∀ x, x ∈ a → x < 256) (hb : ∀ x, x ∈ b → x < 256) (hl : b.length = a.length) (hp : p ≤ 8 * a.length) (hq : q < 4294967296) (h : num b = num a ^^^ (2 ^ p * q)) :
    sum b = sum a ↔ q = 0 := by
  have e : reg 4294967295 b = reg 4294967295 a ^^^ bits q (8 * a.length - p) := by
    rw [reg_num b _ hb, reg_num a _ ha, hl, h, Nat.xor_assoc, Nat.xor_comm (2 ^ p * q), ← Nat.xor_assoc, bits_xor]
    congr 1
    have h1 := bits_add (2 ^ p * q) p (8 * a.length - p)
    rw [bits_two, show p + (8 * a.length - p) = 8 * a.length from by omega] at h1
    exact h1
  unfold sum
  rw [e]
  constructor
  · intro h1
    by_cases h0 : q = 0
    · exact h0
    · exfalso
      apply bits_ne hq h0 (8 * a.length - p)
      have h2 : ∀ c u v : Nat, c ^^^ (u ^^^ v) = c ^^^ u → v = 0 := by
        intro c u v h
        have h3 : (c ^^^ u) ^^^ (c ^^^ (u ^^^ v)) = (c ^^^ u) ^^^ (c ^^^ u) := by rw [h]
        rw [Nat.xor_self, ← Nat.xor_assoc c u v, ← Nat.xor_assoc, Nat.xor_self, Nat.zero_xor] at h3
        exact h3
      exact h2 _ _ _ h1
  · intro h0
    rw [h0, bits_zero, Nat.xor_zero]

/-! ### bits turned -/

theorem num_set : ∀ (l : List Nat) (i t : Nat), (∀ x, x ∈ l → x < 256) → (hi : i < l.length) → t < 8 → num (l.set i (l[i] ^^^ 2 ^ t)) = num l ^^^ 2 ^ (8 * i + t)
  | [], i, _, _, hi, _ => absurd hi (Nat.not_lt_zero _)
  | x :: l, 0, t, h, _, ht => by
    have hx := h x (by simp)
    have h2 : (2 : Nat) ^ t < 256 := by
      have : (2 : Nat) ^ t < 2 ^ 8 := Nat.pow_lt_pow_right (by decide) ht
      exact this
    show (x ^^^ 2 ^ t) + 256 * num l = (x + 256 * num l) ^^^ 2 ^ (8 * 0 + t)
    rw [add_xor _ _ (Gf.xor_lt hx h2), add_xor _ _ hx, Nat.xor_assoc, Nat.xor_comm (2 ^ t), ← Nat.xor_assoc]
    simp
  | x :: l, i + 1, t, h, hi, ht => by
    have hx := h x (by simp)
    have ih := num_set l i t (fun y hy => h y (by simp [hy])) (by simpa using hi) ht
    show x + 256 * num (l.set i (l[i]'(by simpa using hi) ^^^ 2 ^ t)) = (x + 256 * num l) ^^^ 2 ^ (8 * (i + 1) + t)
    rw [ih, add_xor _ _ hx, add_xor _ _ hx, Nat.xor_assoc]
    congr 1
    have e : ∀ a b : Nat, 256 * (a ^^^ b) = (256 * a) ^^^ (256 * b) := by
      intro a b
      apply Nat.eq_of_testBit_eq
      intro j
      rw [show 256 * (a ^^^ b) = 2 ^ 8 * (a ^^^ b) from rfl, show 256 * a = 2 ^ 8 * a from rfl, show 256 * b = 2 ^ 8 * b from rfl, Nat.testBit_two_pow_mul, Nat.testBit_xor, Nat.testBit_xor, Nat.testBit_two_pow_mul, Nat.testBit_two_pow_mul]
      cases decide (j ≥ 8) <;> simp
    rw [e, show 256 * 2 ^ (8 * i + t) = 2 ^ (8 * (i + 1) + t) from by
      rw [show (256 : Nat) = 2 ^ 8 from rfl, ← Nat.pow_add]; congr 1; omega]

/-- Which of the first k bits of a pattern are turned, where they begin at p, and n bits are there. -/
def turns (pattern p n : Nat) : Nat → Nat
  | 0 => 0
  | k + 1 => turns pattern p n k ^^^ (if pattern.testBit k && decide (p + k < n) then 2 ^ k else 0)

theorem turns_lt (pattern p n : Nat) : ∀ k, turns pattern p n k < 2 ^ k
  | 0 => show 0 < 1 by decide
  | k + 1 => by
    have h := turns_lt pattern p n k
    have h1 : turns pattern p n k < 2 ^ (k + 1) := Nat.lt_of_lt_of_le h (Nat.pow_le_pow_right (by decide) (by omega))
    show turns pattern p n k ^^^ _ < _
    refine Nat.xor_lt_two_pow h1 ?_
    split
    · exact Nat.pow_lt_pow_right (by decide) (by omega)
    · exact Nat.two_pow_pos _

theorem turns_ne {pattern p n k : Nat} (h : (pattern.testBit k && decide (p + k < n)) = true) : turns pattern p n (k + 1) ≠ 0 := by
  show turns pattern p n k ^^^ (if (pattern.testBit k && decide (p + k < n)) = true then 2 ^ k else 0) ≠ 0
  rw [if_pos h]
  intro e
  have h1 := congrArg (fun z => z.testBit k) e
  simp only [Nat.testBit_xor, Nat.testBit_two_pow_self, Nat.zero_testBit] at h1
  rw [Nat.testBit_lt_two_pow (turns_lt pattern p n k)] at h1
  simp at h1

theorem turns_skip {pattern p n k : Nat} (h : (pattern.testBit k && decide (p + k < n)) = false) : turns pattern p n (k + 1) = turns pattern p n k := by
  show turns pattern p n k ^^^ (if (pattern.testBit k && decide (p + k < n)) = true then 2 ^ k else 0) = _
  rw [h]; simp

theorem turns_take {pattern p n k : Nat} (h : (pattern.testBit k && decide (p + k < n)) = true) : turns pattern p n (k + 1) = turns pattern p n k ^^^ 2 ^ k := by
  show turns pattern p n k ^^^ (if (pattern.testBit k && decide (p + k < n)) = true then 2 ^ k else 0) = _
  rw [if_pos h]

theorem pow_mul_xor (p a b : Nat) : 2 ^ p * (a ^^^ b) = (2 ^ p * a) ^^^ (2 ^ p * b) := by
  apply Nat.eq_of_testBit_eq
  intro j
  rw [Nat.testBit_two_pow_mul, Nat.testBit_xor, Nat.testBit_xor, Nat.testBit_two_pow_mul, Nat.testBit_two_pow_mul]
  cases decide (j ≥ p) <;> simp

/-! ### half a byte at once -/

theorem mod_xor (r : Nat) : r = (r % 16) ^^^ (16 * (r / 16)) := by
  apply Nat.eq_of_testBit_eq
  intro i
  rw [Nat.testBit_xor, show 16 * (r / 16) = 2 ^ 4 * (r / 2 ^ 4) from rfl, show r % 16 = r % 2 ^ 4 from rfl, Nat.testBit_mod_two_pow, Nat.testBit_two_pow_mul, Nat.testBit_div_two_pow]
  by_cases hi : 4 ≤ i
  · have h1 : ¬ i < 4 := by omega
    simp [h1, hi]
  · have h1 : i < 4 := by omega
    simp [h1, hi]

theorem bits_four (r : Nat) : bits r 4 = (r / 16) ^^^ bits (r % 16) 4 := by
  have h := bits_xor (r % 16) (16 * (r / 16)) 4
  rw [← mod_xor, show 16 * (r / 16) = 2 ^ 4 * (r / 16) from rfl, bits_two] at h
  rw [h, Nat.xor_comm]

theorem byte_halves (r x : Nat) : byte r x = bits (bits (r ^^^ x) 4) 4 := bits_add (r ^^^ x) 4 4

end Crc
end Go.Proofs.YtgjjkiebfekkjaaDoor
