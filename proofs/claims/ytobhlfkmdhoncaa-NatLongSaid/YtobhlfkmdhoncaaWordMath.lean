/-
  Whole numbers as words of 64 bits, the lowest first (layer 6), in plain numbers.
-/
import Derived.Test.YtobhlfkmdhoncaaNatMath
set_option maxRecDepth 100000
namespace Go.Proofs.Ytobhlfkmdhoncaa
open Go.RowKit

namespace Wt
/-- The number that bytes spell, the lowest first. -/
def val : List Nat → Nat
  | [] => 0
  | x :: l => x + 18446744073709551616 * val l
/-- A number's bytes, the lowest first, and no nought at the end. -/
def dg (n : Nat) : List Nat := if h : n = 0 then [] else n % 18446744073709551616 :: dg (n / 18446744073709551616)
termination_by n
decreasing_by omega

theorem dg_zero : dg 0 = [] := by unfold dg; simp
theorem dg_pos {n : Nat} (h : n ≠ 0) : dg n = n % 18446744073709551616 :: dg (n / 18446744073709551616) := by rw [dg, dif_neg h]
theorem dg_step {n x : Nat} (hx : x < 18446744073709551616) (h : n ≠ 0 ∨ x ≠ 0) : dg (x + 18446744073709551616 * n) = x :: dg n := by
  rw [dg_pos (by omega), show (x + 18446744073709551616 * n) % 18446744073709551616 = x from by omega, show (x + 18446744073709551616 * n) / 18446744073709551616 = n from by omega]
theorem dg_nil {n : Nat} (h : dg n = []) : n = 0 := by
  by_cases hn : n = 0
  · exact hn
  · rw [dg_pos hn] at h; exact absurd h (by simp)
theorem val_dg (n : Nat) : val (dg n) = n := by
  induction n using Nat.strongRecOn with
  | ind n ih =>
    by_cases h : n = 0
    · subst h; rw [dg_zero]; rfl
    · rw [dg_pos h]; show n % 18446744073709551616 + 18446744073709551616 * val (dg (n / 18446744073709551616)) = n
      rw [ih (n / 18446744073709551616) (by omega)]; omega
theorem dg_lt (n : Nat) : ∀ x, x ∈ dg n → x < 18446744073709551616 := by
  induction n using Nat.strongRecOn with
  | ind n ih =>
    by_cases h : n = 0
    · subst h; rw [dg_zero]; intro x hx; simp at hx
    · rw [dg_pos h]; intro x hx
      rcases List.mem_cons.1 hx with rfl | hx
      · omega
      · exact ih (n / 18446744073709551616) (by omega) x hx
theorem dg_inj {m n : Nat} (h : dg m = dg n) : m = n := by rw [← val_dg m, ← val_dg n, h]
/-- No nought at the end. -/
def Tidy (l : List Nat) : Prop := l = [] ∨ nth l (l.length - 1) ≠ 0
theorem nth_cons (x : Nat) (l : List Nat) (i : Nat) : nth (x :: l) (i + 1) = nth l i := rfl
theorem dg_val : ∀ {l : List Nat}, (∀ x, x ∈ l → x < 18446744073709551616) → Tidy l → dg (val l) = l
  | [], _, _ => dg_zero
  | x :: l, hl, ht => by
    have hx := hl x (by simp)
    have h1 : nth (x :: l) ((x :: l).length - 1) ≠ 0 := by rcases ht with h | h; exact absurd h (by simp); exact h
    show dg (x + 18446744073709551616 * val l) = x :: l
    cases l with
    | nil => 
      have h2 : x ≠ 0 := h1
      rw [dg_step hx (.inr h2)]; show x :: dg 0 = _; rw [dg_zero]
    | cons y t =>
      have ih := dg_val (l := y :: t) (fun z hz => hl z (by simp_all)) (.inr h1)
      have hv : val (y :: t) ≠ 0 := by intro h; rw [h, dg_zero] at ih; exact absurd ih (by simp)
      rw [dg_step hx (.inl hv), ih]
theorem dg_tidy (n : Nat) : Tidy (dg n) := by
  induction n using Nat.strongRecOn with
  | ind n ih =>
    by_cases h : n = 0
    · subst h; exact .inl dg_zero
    · rw [dg_pos h]
      refine .inr ?_
      rcases ih (n / 18446744073709551616) (by omega) with h1 | h1
      · have := dg_nil h1
        rw [h1]; show n % 18446744073709551616 ≠ 0; omega
      · by_cases h2 : dg (n / 18446744073709551616) = []
        · have := dg_nil h2
          rw [h2]; show n % 18446744073709551616 ≠ 0; omega
        · have : (dg (n / 18446744073709551616)).length ≠ 0 := by simp [h2]
          rw [List.length_cons, show (dg (n / 18446744073709551616)).length + 1 - 1 = ((dg (n / 18446744073709551616)).length - 1) + 1 from by omega, nth_cons]
          exact h1
theorem val_append (a b : List Nat) : val (a ++ b) = val a + 18446744073709551616 ^ a.length * val b := by
  induction a with
  | nil => simp [val]
  | cons x a ih => 
    show x + 18446744073709551616 * val (a ++ b) = x + 18446744073709551616 * val a + 18446744073709551616 ^ (a.length + 1) * val b
    rw [ih, Nat.pow_succ, Nat.mul_add, ← Nat.mul_assoc, Nat.mul_comm (18446744073709551616 ^ _) 18446744073709551616]; omega
theorem val_lt {l : List Nat} (hl : ∀ x, x ∈ l → x < 18446744073709551616) : val l < 18446744073709551616 ^ l.length := by
  induction l with
  | nil => simp [val]
  | cons x l ih =>
    have h1 := hl x (by simp)
    have h2 := ih (fun y hy => hl y (by simp [hy]))
    show x + 18446744073709551616 * val l < 18446744073709551616 ^ (l.length + 1)
    rw [Nat.pow_succ]; omega
theorem val_take_succ (l : List Nat) (k : Nat) (h : k < l.length) : val (l.take (k + 1)) = val (l.take k) + 18446744073709551616 ^ k * nth l k := by
  rw [take_nth l k h, val_append, List.length_take, Nat.min_eq_left (by omega)]
  simp [val]
theorem dg_length_le {n k : Nat} (h : n < 18446744073709551616 ^ k) : (dg n).length ≤ k := by
  induction k generalizing n with
  | zero => 
    have : n = 0 := by simp at h; exact h
    subst this; rw [dg_zero]; simp
  | succ k ih =>
    by_cases hn : n = 0
    · subst hn; rw [dg_zero]; simp
    · rw [dg_pos hn, List.length_cons]
      have := ih (n := n / 18446744073709551616) (by rw [Nat.pow_succ] at h; omega)
      omega
theorem dg_length_lt {n k : Nat} (h : 18446744073709551616 ^ k ≤ n) : k < (dg n).length := by
  have h1 := val_lt (dg_lt n)
  rw [val_dg] at h1
  exact (Nat.pow_lt_pow_iff_right (by decide)).1 (Nat.lt_of_le_of_lt h h1)
theorem dg_length_iff {n k : Nat} : (dg n).length ≤ k ↔ n < 18446744073709551616 ^ k := by
  refine ⟨fun h => ?_, dg_length_le⟩
  have h1 := val_lt (dg_lt n)
  rw [val_dg] at h1
  exact Nat.lt_of_lt_of_le h1 (Nat.pow_le_pow_right (by decide) h)
/-- The tidy one of these bytes. -/
def tidied (l : List Nat) : List Nat := dg (val l)
theorem tidied_of_take {l : List Nat} (hl : ∀ x, x ∈ l → x < 18446744073709551616) (k : Nat) (hv : val (l.take k) = val l) (ht : k = 0 ∨ nth l (k - 1) ≠ 0) (hk : k ≤ l.length) : l.take k = tidied l := by
  unfold tidied
  rw [← hv]
  refine (dg_val (fun x hx => hl x (List.mem_of_mem_take hx)) ?_).symm
  rcases ht with rfl | ht
  · exact .inl rfl
  · by_cases h0 : k = 0
    · subst h0; exact .inl rfl
    · refine .inr ?_
      rw [List.length_take, Nat.min_eq_left hk]
      unfold nth at ht ⊢
      rw [List.getD_eq_getElem?_getD] at ht ⊢
      rw [List.getElem?_take_of_lt (by omega)]
      exact ht
theorem val_take_drop0 {l : List Nat} (k : Nat) (hk : k < l.length) (h : nth l k = 0) (hv : val (l.take (k + 1)) = val l) : val (l.take k) = val l := by
  rw [← hv, val_take_succ l k hk, h]; omega

/-! ### Two numbers, byte by byte -/

theorem nth_over (l : List Nat) (i : Nat) (h : l.length ≤ i) : nth l i = 0 := by
  unfold nth; rw [List.getD_eq_getElem?_getD, List.getElem?_eq_none h]; rfl
/-- The number of the first k bytes, with noughts where there are none. -/
def low (l : List Nat) (k : Nat) : Nat := val (l.take k)
theorem low_succ (l : List Nat) (k : Nat) : low l (k + 1) = low l k + 18446744073709551616 ^ k * nth l k := by
  unfold low
  by_cases h : k < l.length
  · exact val_take_succ l k h
  · rw [nth_over l k (by omega), List.take_of_length_le (by omega), List.take_of_length_le (by omega)]; omega
theorem low_all {l : List Nat} {k : Nat} (h : l.length ≤ k) : low l k = val l := by
  unfold low; rw [List.take_of_length_le h]
theorem low_zero (l : List Nat) : low l 0 = 0 := rfl
theorem low_lt {l : List Nat} (hl : ∀ x, x ∈ l → x < 18446744073709551616) (k : Nat) : low l k < 18446744073709551616 ^ k := by
  unfold low
  refine Nat.lt_of_lt_of_le (val_lt fun x hx => hl x (List.mem_of_mem_take hx)) (Nat.pow_le_pow_right (by decide) ?_)
  rw [List.length_take]; omega

theorem val_snoc (o : List Nat) (d : Nat) : val (o ++ [d]) = val o + 18446744073709551616 ^ o.length * d := by
  rw [val_append]; simp [val]
/-- Another byte of a sum. -/
theorem add_step {a b o : List Nat} {k c : Nat} (ho : o.length = k) (h : val o + 18446744073709551616 ^ k * c = low a k + low b k) :
    val (o ++ [(nth a k + nth b k + c) % 18446744073709551616]) + 18446744073709551616 ^ (k + 1) * ((nth a k + nth b k + c) / 18446744073709551616) = low a (k + 1) + low b (k + 1) := by
  rw [val_snoc, ho, low_succ, low_succ, Nat.pow_succ, Nat.mul_assoc]
  have e : 18446744073709551616 ^ k * ((nth a k + nth b k + c) % 18446744073709551616) + 18446744073709551616 ^ k * (18446744073709551616 * ((nth a k + nth b k + c) / 18446744073709551616)) = 18446744073709551616 ^ k * (nth a k) + 18446744073709551616 ^ k * nth b k + 18446744073709551616 ^ k * c := by
    rw [← Nat.mul_add, Nat.mod_add_div, Nat.mul_add, Nat.mul_add]
  omega
theorem add_end {a b o : List Nat} {k : Nat} (h : val o + 18446744073709551616 ^ k * 0 = low a k + low b k) (ha : a.length ≤ k) (hb : b.length ≤ k) : val o = val a + val b := by
  rw [low_all ha, low_all hb] at h; omega
/-- Another byte of a difference: d is that byte, c' what is borrowed next. -/
theorem sub_step {a b o : List Nat} {k c d c' : Nat} (ho : o.length = k) (h : val o + low b k + 0 = low a k + 18446744073709551616 ^ k * c) (hd : nth a k + 18446744073709551616 * c' = nth b k + c + d) :
    val (o ++ [d]) + low b (k + 1) + 0 = low a (k + 1) + 18446744073709551616 ^ (k + 1) * c' := by
  rw [val_snoc, ho, low_succ, low_succ, Nat.pow_succ, Nat.mul_assoc]
  have e : 18446744073709551616 ^ k * nth a k + 18446744073709551616 ^ k * (18446744073709551616 * c') = 18446744073709551616 ^ k * nth b k + 18446744073709551616 ^ k * c + 18446744073709551616 ^ k * d := by
    rw [← Nat.mul_add, hd, Nat.mul_add, Nat.mul_add]
  omega
theorem sub_end {a b o : List Nat} {c : Nat} (h : val o + low b a.length + 0 = low a a.length + 18446744073709551616 ^ a.length * c) (hob : ∀ x, x ∈ o → x < 18446744073709551616) (ho : o.length = a.length) (hle : val b ≤ val a) (ha : ∀ x, x ∈ a → x < 18446744073709551616) : val o = val a - val b := by
  have hva := val_lt ha
  have hvo := val_lt hob
  rw [ho] at hvo
  have hlb : low b a.length = val b := by
    rcases Nat.lt_or_ge a.length b.length with hl | hl
    · have e : val b = low b a.length + 18446744073709551616 ^ a.length * val (b.drop a.length) := by
        conv => lhs; rw [← List.take_append_drop a.length b, val_append, List.length_take, Nat.min_eq_left (by omega)]
        rfl
      have : val (b.drop a.length) = 0 := by
        rcases Nat.eq_zero_or_pos (val (b.drop a.length)) with h0 | h0
        · exact h0
        · have := Nat.mul_le_mul_left (18446744073709551616 ^ a.length) h0
          omega
      rw [this] at e; omega
    · exact low_all hl
  rw [hlb, low_all (Nat.le_refl _)] at h
  have : c = 0 := by
    rcases Nat.eq_zero_or_pos c with h0 | h0
    · exact h0
    · have := Nat.mul_le_mul_left (18446744073709551616 ^ a.length) h0
      omega
  subst this
  omega

/-! ### Which is greater -/

/-- -1, 0 or 1. -/
def cmp (m n : Nat) : Int := if m < n then -1 else if m = n then 0 else 1
theorem cmp_lt {m n : Nat} (h : m < n) : cmp m n = -1 := by unfold cmp; rw [if_pos h]
theorem cmp_gt {m n : Nat} (h : n < m) : cmp m n = 1 := by unfold cmp; rw [if_neg (by omega), if_neg (by omega)]
theorem cmp_eq {m n : Nat} (h : m = n) : cmp m n = 0 := by unfold cmp; rw [if_neg (by omega), if_pos h]
theorem val_ge_of_tidy {l : List Nat} (ht : Tidy l) (hne : l ≠ []) : 18446744073709551616 ^ (l.length - 1) ≤ val l := by
  have hl : l.length ≠ 0 := by simp [hne]
  have h := val_take_succ l (l.length - 1) (by omega)
  rw [show l.length - 1 + 1 = l.length from by omega, List.take_length] at h
  rcases ht with h1 | h1
  · exact absurd h1 hne
  · have := Nat.mul_le_mul_left (18446744073709551616 ^ (l.length - 1)) (Nat.one_le_iff_ne_zero.2 h1)
    omega
theorem lt_of_shorter {a b : List Nat} (ha : ∀ x, x ∈ a → x < 18446744073709551616) (hb : Tidy b) (h : a.length < b.length) : val a < val b := by
  have h1 := val_lt ha
  have h2 := val_ge_of_tidy hb (by intro e; rw [e] at h; simp at h)
  exact Nat.lt_of_lt_of_le h1 (Nat.le_trans (Nat.pow_le_pow_right (by decide) (by omega)) h2)
theorem lt_at {a b : List Nat} {i : Nat} (ha : ∀ x, x ∈ a → x < 18446744073709551616) (h : val a + low b (i + 1) = val b + low a (i + 1)) (hi : nth a i < nth b i) : val a < val b := by
  rw [low_succ, low_succ] at h
  have h1 := low_lt ha i
  have h2 := Nat.mul_le_mul_left (18446744073709551616 ^ i) (show nth a i + 1 ≤ nth b i from hi)
  rw [Nat.mul_add] at h2
  omega
theorem eq_at {a b : List Nat} {i : Nat} (h : val a + low b (i + 1) = val b + low a (i + 1)) (hi : nth a i = nth b i) : val a + low b i = val b + low a i := by
  rw [low_succ, low_succ, hi] at h; omega
theorem eq_end {a b : List Nat} (h : val a + low b 0 = val b + low a 0) : val a = val b := by
  rw [low_zero, low_zero] at h; omega
theorem cmp_start {a b : List Nat} (h : a.length = b.length) : val a + low b a.length = val b + low a a.length := by
  rw [low_all (Nat.le_refl _), low_all (by omega)]; omega

/-! ### Products -/

theorem val_set {o : List Nat} : ∀ {j : Nat}, j < o.length → ∀ d, val (o.set j d) + 18446744073709551616 ^ j * nth o j = val o + 18446744073709551616 ^ j * d := by
  induction o with
  | nil => intro j h; simp at h
  | cons x o ih =>
    intro j h d
    cases j with
    | zero => show d + 18446744073709551616 * val o + 18446744073709551616 ^ 0 * x = x + 18446744073709551616 * val o + 18446744073709551616 ^ 0 * d; simp; omega
    | succ j =>
      have := ih (j := j) (by simpa using h) d
      show x + 18446744073709551616 * val (o.set j d) + 18446744073709551616 ^ (j + 1) * nth o j = x + 18446744073709551616 * val o + 18446744073709551616 ^ (j + 1) * d
      rw [Nat.pow_succ, Nat.mul_comm (18446744073709551616 ^ j) 18446744073709551616, Nat.mul_assoc, Nat.mul_assoc]; omega
theorem val_replicate (n : Nat) : val (List.replicate n 0) = 0 := by
  induction n with
  | zero => rfl
  | succ n ih => rw [List.replicate_succ]; show 0 + 18446744073709551616 * val (List.replicate n 0) = 0; rw [ih]
/-- Another byte of a row of the product. -/
theorem mul_step {a b o : List Nat} {i k c : Nat} (hl : i + k < o.length) (h : val o + 18446744073709551616 ^ (i + k) * c = low a i * val b + 18446744073709551616 ^ i * (nth a i * low b k)) :
    val (o.set (i + k) ((nth o (i + k) + nth a i * nth b k + c) % 18446744073709551616)) + 18446744073709551616 ^ (i + (k + 1)) * ((nth o (i + k) + nth a i * nth b k + c) / 18446744073709551616) = low a i * val b + 18446744073709551616 ^ i * (nth a i * low b (k + 1)) := by
  have h1 := val_set hl ((nth o (i + k) + nth a i * nth b k + c) % 18446744073709551616)
  have e : 18446744073709551616 ^ (i + k) * ((nth o (i + k) + nth a i * nth b k + c) % 18446744073709551616) + 18446744073709551616 ^ (i + (k + 1)) * ((nth o (i + k) + nth a i * nth b k + c) / 18446744073709551616) = 18446744073709551616 ^ (i + k) * nth o (i + k) + 18446744073709551616 ^ (i + k) * (nth a i * nth b k) + 18446744073709551616 ^ (i + k) * c := by
    rw [← Nat.add_assoc i k 1, Nat.pow_succ, Nat.mul_assoc, ← Nat.mul_add, Nat.mod_add_div, Nat.mul_add, Nat.mul_add]
  have e2 : 18446744073709551616 ^ i * (nth a i * low b (k + 1)) = 18446744073709551616 ^ i * (nth a i * low b k) + 18446744073709551616 ^ (i + k) * (nth a i * nth b k) := by
    rw [low_succ, Nat.mul_add, Nat.mul_add, Nat.pow_add, Nat.mul_left_comm (nth a i), Nat.mul_assoc]
  rw [e2]
  omega
theorem mul_carry {x y c z : Nat} (hx : x < 18446744073709551616) (hy : y < 18446744073709551616) (hz : z < 18446744073709551616) (hc : c ≤ 18446744073709551615) : (z + x * y + c) / 18446744073709551616 ≤ 18446744073709551615 := by
  have : x * y ≤ 18446744073709551615 * 18446744073709551615 := Nat.mul_le_mul (by omega) (by omega)
  omega
theorem mul_row {a b o : List Nat} {i k : Nat} (h : val o + 18446744073709551616 ^ (i + k) * 0 = low a i * val b + 18446744073709551616 ^ i * (nth a i * low b k)) (hk : b.length ≤ k) : val o = low a (i + 1) * val b := by
  rw [low_all hk] at h
  rw [low_succ, Nat.add_mul, Nat.mul_assoc]; omega
theorem mul_over {a b o : List Nat} {i k c : Nat} (ha : ∀ x, x ∈ a → x < 18446744073709551616) (hb : ∀ x, x ∈ b → x < 18446744073709551616) (h : val o + 18446744073709551616 ^ (i + k) * c = low a i * val b + 18446744073709551616 ^ i * (nth a i * low b k)) (hk : b.length < k) : c = 0 := by
  rw [low_all (l := b) (k := k) (by omega)] at h
  have e : val o + 18446744073709551616 ^ (i + k) * c = low a (i + 1) * val b := by rw [low_succ, Nat.add_mul, Nat.mul_assoc]; exact h
  have h1 : low a (i + 1) * val b < 18446744073709551616 ^ (i + 1) * 18446744073709551616 ^ b.length := Nat.mul_lt_mul'' (low_lt ha _) (val_lt hb)
  rw [← Nat.pow_add] at h1
  have h2 : 18446744073709551616 ^ (i + 1 + b.length) ≤ 18446744073709551616 ^ (i + k) := Nat.pow_le_pow_right (by decide) (by omega)
  rcases Nat.eq_zero_or_pos c with h0 | h0
  · exact h0
  · have := Nat.mul_le_mul_left (18446744073709551616 ^ (i + k)) h0
    omega
theorem mul_begin {a b o : List Nat} {i : Nat} (h : val o = low a i * val b) : val o + 18446744073709551616 ^ (i + 0) * 0 = low a i * val b + 18446744073709551616 ^ i * (nth a i * low b 0) := by
  rw [h, low_zero]; simp
theorem set_lt {o : List Nat} (h : ∀ x, x ∈ o → x < 18446744073709551616) (j : Nat) {d : Nat} (hd : d < 18446744073709551616) : ∀ x, x ∈ o.set j d → x < 18446744073709551616 := by
  intro x hx
  rcases List.mem_or_eq_of_mem_set hx with h1 | h1
  · exact h x h1
  · omega

end Wt

end Go.Proofs.Ytobhlfkmdhoncaa
