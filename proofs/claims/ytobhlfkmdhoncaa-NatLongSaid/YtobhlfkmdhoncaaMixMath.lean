/-
  Bytes out of a seed (layer 5), in plain numbers.
-/
import Derived.Test.YtobhlfkmdhoncaaBytes
set_option maxRecDepth 100000
namespace Go.Proofs.Ytobhlfkmdhoncaa
open Go.RowKit

namespace Mx
/-- 2 to the 64. -/
def M : Nat := 18446744073709551616
/-- Combined with itself, so many bits to the right. -/
def sh (z k : Nat) : Nat := z ^^^ (z / 2 ^ k)
/-- The state's step. -/
def step (s : Nat) : Nat := (s + 11400714819323198485) % 18446744073709551616
/-- What a state tells. -/
def mixed (z : Nat) : Nat := sh (sh (sh z 30 * 13787848793156543929 % 18446744073709551616) 27 * 10723151780598845931 % 18446744073709551616) 31
/-- The state behind n steps. -/
def st (s : Nat) : Nat → Nat
  | 0 => s
  | n + 1 => step (st s n)
/-- The byte number j. -/
def gen (s j : Nat) : Nat := mixed (st s (j / 8 + 1)) / 256 ^ (j % 8) % 256
/-- The first n bytes. -/
def bytesL (s n : Nat) : List Nat := (List.range n).map (gen s)

theorem sh_lt {z : Nat} (hz : z < 18446744073709551616) (k : Nat) : sh z k < 18446744073709551616 :=
  Nat.xor_lt_two_pow (n := 64) hz (Nat.lt_of_le_of_lt (Nat.div_le_self _ _) hz)
theorem step_lt (s : Nat) : step s < 18446744073709551616 := Nat.mod_lt _ (by decide)
theorem mixed_lt (z : Nat) : mixed z < 18446744073709551616 := sh_lt (Nat.mod_lt _ (by decide)) _
theorem st_lt {s : Nat} (hs : s < 18446744073709551616) : ∀ n, st s n < 18446744073709551616
  | 0 => hs
  | _ + 1 => step_lt _
theorem gen_lt (s j : Nat) : gen s j < 256 := Nat.mod_lt _ (by decide)
theorem bytesL_lt (s n : Nat) : ∀ x, x ∈ bytesL s n → x < 256 := by
  intro x hx
  obtain ⟨j, _, rfl⟩ := List.mem_map.1 hx
  exact gen_lt s j
theorem bytesL_length (s n : Nat) : (bytesL s n).length = n := by simp [bytesL]
theorem bytesL_succ (s n : Nat) : bytesL s (n + 1) = bytesL s n ++ [gen s n] := by simp [bytesL, List.range_succ]
theorem gen_at (s m i : Nat) (hi : i < 8) : gen s (8 * m + i) = mixed (st s (m + 1)) / 256 ^ i % 256 := by
  unfold gen
  rw [show (8 * m + i) / 8 = m from by omega, show (8 * m + i) % 8 = i from by omega]
theorem st_add (s m : Nat) : ∀ n, st s (m + n) = st (st s m) n
  | 0 => rfl
  | n + 1 => by show step (st s (m + n)) = step (st (st s m) n); rw [st_add s m n]
theorem gen_shift (s m j : Nat) : gen s (8 * m + j) = gen (st s m) j := by
  unfold gen
  rw [show (8 * m + j) / 8 + 1 = m + (j / 8 + 1) from by omega, st_add, show (8 * m + j) % 8 = j % 8 from by omega]

/-! ### Unlike states tell unlike numbers -/

theorem sh_bit (z k i : Nat) : (sh z k).testBit i = (z.testBit i ^^ z.testBit (i + k)) := by
  unfold sh
  rw [Nat.testBit_xor, Nat.testBit_div_two_pow, Nat.add_comm]

theorem sh_inj {x y k : Nat} (hk : 0 < k) (hx : x < 18446744073709551616) (hy : y < 18446744073709551616) (h : sh x k = sh y k) : x = y := by
  have hi : ∀ d i, 64 ≤ i + d → x.testBit i = y.testBit i := by
    intro d
    induction d with
    | zero =>
      intro i hd
      have e : ∀ z, z < 18446744073709551616 → z.testBit i = false := fun z hz => Nat.testBit_lt_two_pow (Nat.lt_of_lt_of_le (m := 2 ^ 64) hz (Nat.pow_le_pow_right (by decide) (by omega)))
      rw [e x hx, e y hy]
    | succ d ih =>
      intro i hd
      have h1 := congrArg (fun n => n.testBit i) h
      simp only [sh_bit] at h1
      rw [ih (i + k) (by omega)] at h1
      cases hxi : x.testBit i <;> cases hyi : y.testBit i <;> cases hyk : y.testBit (i + k) <;> simp_all
  exact Nat.eq_of_testBit_eq fun i => hi 64 i (by omega)

theorem mul_inj {a a' x y : Nat} (ha : a * a' % 18446744073709551616 = 1) (hx : x < 18446744073709551616) (hy : y < 18446744073709551616) (h : x * a % 18446744073709551616 = y * a % 18446744073709551616) : x = y := by
  have e : ∀ z, z < 18446744073709551616 → (z * a % 18446744073709551616) * a' % 18446744073709551616 = z := by
    intro z hz
    rw [Nat.mul_mod, Nat.mod_mod, ← Nat.mul_mod, Nat.mul_assoc, Nat.mul_mod, ha, Nat.mul_one, Nat.mod_mod]
    exact Nat.mod_eq_of_lt hz
  rw [← e x hx, ← e y hy, h]

theorem mixed_inj {x y : Nat} (hx : x < 18446744073709551616) (hy : y < 18446744073709551616) (h : mixed x = mixed y) : x = y := by
  unfold mixed at h
  have h1 := sh_inj (by decide) (Nat.mod_lt _ (by decide)) (Nat.mod_lt _ (by decide)) h
  have h2 := mul_inj (a' := 3573116690164977347) (by decide) (sh_lt (Nat.mod_lt _ (by decide)) _) (sh_lt (Nat.mod_lt _ (by decide)) _) h1
  have h3 := sh_inj (by decide) (Nat.mod_lt _ (by decide)) (Nat.mod_lt _ (by decide)) h2
  have h4 := mul_inj (a' := 10871156337175269513) (by decide) (sh_lt hx _) (sh_lt hy _) h3
  exact sh_inj (by decide) hx hy h4

theorem step_inj {x y : Nat} (hx : x < 18446744073709551616) (hy : y < 18446744073709551616) (h : step x = step y) : x = y := by
  unfold step at h; omega

theorem told_inj {x y : Nat} (hx : x < 18446744073709551616) (hy : y < 18446744073709551616) (h : mixed (step x) = mixed (step y)) : x = y :=
  step_inj hx hy (mixed_inj (step_lt x) (step_lt y) h)
end Mx

end Go.Proofs.Ytobhlfkmdhoncaa
