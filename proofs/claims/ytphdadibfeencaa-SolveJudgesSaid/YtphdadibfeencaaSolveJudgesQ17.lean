/- Texts of one seat, laid together: NatMath, WordMath, MixMath, RefMix, RefNat, RefNatE, RefNatF. -/
import Derived.Test.YtphdadibfeencaaSolveJudgesQ1
import Derived.Test.YtphdadibfeencaaSolveJudgesQ2
import Derived.Test.YtphdadibfeencaaSolveJudgesQ3
import Derived.Test.YtphdadibfeencaaSolveJudgesQ4
import Derived.Deep.DeepCutAuto
import Derived.Test.YtphdadibfeencaaSolveJudgesQ8
import Derived.Laws.OwnMore
import Derived.Deep.AppendLies

/-
  Whole numbers as bytes, the lowest first (layer 6), in plain numbers.
-/
set_option maxRecDepth 100000
namespace Go.Proofs.Ytphdadibfeencaa
open Go.RowKit

namespace Nt
/-- The number that bytes spell, the lowest first. -/
def val : List Nat → Nat
  | [] => 0
  | x :: l => x + 256 * val l
/-- A number's bytes, the lowest first, and no nought at the end. -/
def dg (n : Nat) : List Nat := if h : n = 0 then [] else n % 256 :: dg (n / 256)
termination_by n
decreasing_by omega

theorem dg_zero : dg 0 = [] := by unfold dg; simp
theorem dg_pos {n : Nat} (h : n ≠ 0) : dg n = n % 256 :: dg (n / 256) := by rw [dg, dif_neg h]
theorem dg_step {n x : Nat} (hx : x < 256) (h : n ≠ 0 ∨ x ≠ 0) : dg (x + 256 * n) = x :: dg n := by
  rw [dg_pos (by omega), show (x + 256 * n) % 256 = x from by omega, show (x + 256 * n) / 256 = n from by omega]
theorem dg_nil {n : Nat} (h : dg n = []) : n = 0 := by
  by_cases hn : n = 0
  · exact hn
  · rw [dg_pos hn] at h; exact absurd h (by simp)
theorem val_dg (n : Nat) : val (dg n) = n := by
  induction n using Nat.strongRecOn with
  | ind n ih =>
    by_cases h : n = 0
    · subst h; rw [dg_zero]; rfl
    · rw [dg_pos h]; show n % 256 + 256 * val (dg (n / 256)) = n
      rw [ih (n / 256) (by omega)]; omega
theorem dg_lt (n : Nat) : ∀ x, x ∈ dg n → x < 256 := by
  induction n using Nat.strongRecOn with
  | ind n ih =>
    by_cases h : n = 0
    · subst h; rw [dg_zero]; intro x hx; simp at hx
    · rw [dg_pos h]; intro x hx
      rcases List.mem_cons.1 hx with rfl | hx
      · omega
      · exact ih (n / 256) (by omega) x hx
/-- No nought at the end. -/
def Tidy (l : List Nat) : Prop := l = [] ∨ nth l (l.length - 1) ≠ 0
theorem nth_cons (x : Nat) (l : List Nat) (i : Nat) : nth (x :: l) (i + 1) = nth l i := rfl
theorem dg_val : ∀ {l : List Nat}, (∀ x, x ∈ l → x < 256) → Tidy l → dg (val l) = l
  | [], _, _ => dg_zero
  | x :: l, hl, ht => by
    have hx := hl x (by simp)
    have h1 : nth (x :: l) ((x :: l).length - 1) ≠ 0 := by rcases ht with h | h; exact absurd h (by simp); exact h
    show dg (x + 256 * val l) = x :: l
    cases l with
    | nil => 
      have h2 : x ≠ 0 := h1
      rw [dg_step hx (.inr h2)]; show x :: dg 0 = _; rw [dg_zero]
    | cons y t =>
      have ih := dg_val (l := y :: t) (fun z hz => hl z (by simp_all)) (.inr h1)
      have hv : val (y :: t) ≠ 0 := by intro h; rw [h, dg_zero] at ih; exact absurd ih (by simp)
      rw [dg_step hx (.inl hv), ih]
theorem dg_tidy (n : Nat) : Tidy (dg n) := by
  induction n using Nat.strongRecOn with
  | ind n ih =>
    by_cases h : n = 0
    · subst h; exact .inl dg_zero
    · rw [dg_pos h]
      refine .inr ?_
      rcases ih (n / 256) (by omega) with h1 | h1
      · have := dg_nil h1
        rw [h1]; show n % 256 ≠ 0; omega
      · by_cases h2 : dg (n / 256) = []
        · have := dg_nil h2
          rw [h2]; show n % 256 ≠ 0; omega
        · have : (dg (n / 256)).length ≠ 0 := by simp [h2]
          rw [List.length_cons, show (dg (n / 256)).length + 1 - 1 = ((dg (n / 256)).length - 1) + 1 from by omega, nth_cons]
          exact h1
theorem val_append (a b : List Nat) : val (a ++ b) = val a + 256 ^ a.length * val b := by
  induction a with
  | nil => simp [val]
  | cons x a ih => 
    show x + 256 * val (a ++ b) = x + 256 * val a + 256 ^ (a.length + 1) * val b
    rw [ih, Nat.pow_succ, Nat.mul_add, ← Nat.mul_assoc, Nat.mul_comm (256 ^ _) 256]; omega
theorem val_lt {l : List Nat} (hl : ∀ x, x ∈ l → x < 256) : val l < 256 ^ l.length := by
  induction l with
  | nil => simp [val]
  | cons x l ih =>
    have h1 := hl x (by simp)
    have h2 := ih (fun y hy => hl y (by simp [hy]))
    show x + 256 * val l < 256 ^ (l.length + 1)
    rw [Nat.pow_succ]; omega
theorem val_take_succ (l : List Nat) (k : Nat) (h : k < l.length) : val (l.take (k + 1)) = val (l.take k) + 256 ^ k * nth l k := by
  rw [take_nth l k h, val_append, List.length_take, Nat.min_eq_left (by omega)]
  simp [val]
theorem dg_length_le {n k : Nat} (h : n < 256 ^ k) : (dg n).length ≤ k := by
  induction k generalizing n with
  | zero => 
    have : n = 0 := by simp at h; exact h
    subst this; rw [dg_zero]; simp
  | succ k ih =>
    by_cases hn : n = 0
    · subst hn; rw [dg_zero]; simp
    · rw [dg_pos hn, List.length_cons]
      have := ih (n := n / 256) (by rw [Nat.pow_succ] at h; omega)
      omega
theorem dg_length_lt {n k : Nat} (h : 256 ^ k ≤ n) : k < (dg n).length := by
  have h1 := val_lt (dg_lt n)
  rw [val_dg] at h1
  exact (Nat.pow_lt_pow_iff_right (by decide)).1 (Nat.lt_of_le_of_lt h h1)
theorem dg_length_iff {n k : Nat} : (dg n).length ≤ k ↔ n < 256 ^ k := by
  refine ⟨fun h => ?_, dg_length_le⟩
  have h1 := val_lt (dg_lt n)
  rw [val_dg] at h1
  exact Nat.lt_of_lt_of_le h1 (Nat.pow_le_pow_right (by decide) h)
/-- The tidy one of these bytes. -/
def tidied (l : List Nat) : List Nat := dg (val l)
theorem tidied_of_take {l : List Nat} (hl : ∀ x, x ∈ l → x < 256) (k : Nat) (hv : val (l.take k) = val l) (ht : k = 0 ∨ nth l (k - 1) ≠ 0) (hk : k ≤ l.length) : l.take k = tidied l := by
  unfold tidied
  rw [← hv]
  refine (dg_val (fun x hx => hl x (List.mem_of_mem_take hx)) ?_).symm
  rcases ht with rfl | ht
  · exact .inl rfl
  · by_cases h0 : k = 0
    · subst h0; exact .inl rfl
    · refine .inr ?_
      rw [List.length_take, Nat.min_eq_left hk]
      unfold nth at ht ⊢
      rw [List.getD_eq_getElem?_getD] at ht ⊢
      rw [List.getElem?_take_of_lt (by omega)]
      exact ht
theorem val_take_drop0 {l : List Nat} (k : Nat) (hk : k < l.length) (h : nth l k = 0) (hv : val (l.take (k + 1)) = val l) : val (l.take k) = val l := by
  rw [← hv, val_take_succ l k hk, h]; omega

/-! ### Two numbers, byte by byte -/

theorem nth_over (l : List Nat) (i : Nat) (h : l.length ≤ i) : nth l i = 0 := by
  unfold nth; rw [List.getD_eq_getElem?_getD, List.getElem?_eq_none h]; rfl
/-- The number of the first k bytes, with noughts where there are none. -/
def low (l : List Nat) (k : Nat) : Nat := val (l.take k)
theorem low_succ (l : List Nat) (k : Nat) : low l (k + 1) = low l k + 256 ^ k * nth l k := by
  unfold low
  by_cases h : k < l.length
  · exact val_take_succ l k h
  · rw [nth_over l k (by omega), List.take_of_length_le (by omega), List.take_of_length_le (by omega)]; omega
theorem low_all {l : List Nat} {k : Nat} (h : l.length ≤ k) : low l k = val l := by
  unfold low; rw [List.take_of_length_le h]
theorem low_zero (l : List Nat) : low l 0 = 0 := rfl
theorem low_lt {l : List Nat} (hl : ∀ x, x ∈ l → x < 256) (k : Nat) : low l k < 256 ^ k := by
  unfold low
  refine Nat.lt_of_lt_of_le (val_lt fun x hx => hl x (List.mem_of_mem_take hx)) (Nat.pow_le_pow_right (by decide) ?_)
  rw [List.length_take]; omega

/-! ### Which is greater -/

/-! ### Products -/

theorem val_set {o : List Nat} : ∀ {j : Nat}, j < o.length → ∀ d, val (o.set j d) + 256 ^ j * nth o j = val o + 256 ^ j * d := by
  induction o with
  | nil => intro j h; simp at h
  | cons x o ih =>
    intro j h d
    cases j with
    | zero => show d + 256 * val o + 256 ^ 0 * x = x + 256 * val o + 256 ^ 0 * d; simp; omega
    | succ j =>
      have := ih (j := j) (by simpa using h) d
      show x + 256 * val (o.set j d) + 256 ^ (j + 1) * nth o j = x + 256 * val o + 256 ^ (j + 1) * d
      rw [Nat.pow_succ, Nat.mul_comm (256 ^ j) 256, Nat.mul_assoc, Nat.mul_assoc]; omega
theorem val_replicate (n : Nat) : val (List.replicate n 0) = 0 := by
  induction n with
  | zero => rfl
  | succ n ih => rw [List.replicate_succ]; show 0 + 256 * val (List.replicate n 0) = 0; rw [ih]
theorem set_lt {o : List Nat} (h : ∀ x, x ∈ o → x < 256) (j : Nat) {d : Nat} (hd : d < 256) : ∀ x, x ∈ o.set j d → x < 256 := by
  intro x hx
  rcases List.mem_or_eq_of_mem_set hx with h1 | h1
  · exact h x h1
  · omega

/-! ### Texts -/

/-- A digit's character. -/
def chr (d : Nat) : Nat := if d < 10 then 48 + d else 87 + d
theorem chr_lt {d : Nat} (h : d < 16) : chr d < 256 := by unfold chr; split <;> omega
theorem chr_small {d : Nat} (h : d < 10) : chr d = 48 + d := by unfold chr; rw [if_pos h]
theorem chr_great {d : Nat} (h : ¬ d < 10) : chr d = 87 + d := by unfold chr; rw [if_neg h]
/-- The lowest k digits of a number, the highest first. -/
def fullT (N : Nat) : Nat → List Nat
  | 0 => []
  | k + 1 => chr (N / 16 ^ k % 16) :: fullT N k
theorem fullT_lt (N : Nat) : ∀ k, ∀ x, x ∈ fullT N k → x < 256
  | 0 => by intro x hx; simp [fullT] at hx
  | k + 1 => by
    intro x hx
    rcases List.mem_cons.1 hx with rfl | hx
    · exact chr_lt (Nat.mod_lt _ (by decide))
    · exact fullT_lt N k x hx
theorem fullT_length (N : Nat) : ∀ k, (fullT N k).length = k
  | 0 => rfl
  | k + 1 => by rw [fullT, List.length_cons, fullT_length N k]
/-- Without noughts ahead, one character at least where there is one. -/
def strip : List Nat → List Nat
  | c :: d :: t => if c = 48 then strip (d :: t) else c :: d :: t
  | l => l
theorem strip_go {c d : Nat} {t : List Nat} (h : c = 48) : strip (c :: d :: t) = strip (d :: t) := by rw [strip, if_pos h]
theorem strip_stop {c d : Nat} {t : List Nat} (h : c ≠ 48) : strip (c :: d :: t) = c :: d :: t := by rw [strip, if_neg h]
/-- A number's text. -/
def hexT (N k : Nat) : List Nat := if strip (fullT N k) = [] then [48] else strip (fullT N k)
theorem val_byte {l : List Nat} (hl : ∀ x, x ∈ l → x < 256) (i : Nat) : val l / 256 ^ i % 256 = nth l i := by
  induction l generalizing i with
  | nil => simp [val, nth]
  | cons x l ih =>
    have hx := hl x (by simp)
    cases i with
    | zero => show (x + 256 * val l) / 256 ^ 0 % 256 = x; simp; omega
    | succ i =>
      rw [nth_cons, ← ih (fun y hy => hl y (by simp [hy])) i, Nat.pow_succ, Nat.mul_comm, ← Nat.div_div_eq_div_mul]
      show (x + 256 * val l) / 256 / 256 ^ i % 256 = _
      rw [show (x + 256 * val l) / 256 = val l from by omega]
theorem digit_even {l : List Nat} (hl : ∀ x, x ∈ l → x < 256) (i : Nat) : val l / 16 ^ (2 * i) % 16 = nth l i % 16 := by
  rw [← val_byte hl i, Nat.pow_mul]
  show val l / 256 ^ i % 16 = _
  omega
theorem digit_odd {l : List Nat} (hl : ∀ x, x ∈ l → x < 256) (i : Nat) : val l / 16 ^ (2 * i + 1) % 16 = nth l i / 16 := by
  rw [← val_byte hl i, Nat.pow_succ, Nat.pow_mul, ← Nat.div_div_eq_div_mul]
  show val l / 256 ^ i / 16 % 16 = _
  omega
end Nt

end Go.Proofs.Ytphdadibfeencaa

/-
  Whole numbers as words of 64 bits, the lowest first (layer 6), in plain numbers.
-/
set_option maxRecDepth 100000
namespace Go.Proofs.Ytphdadibfeencaa
open Go.RowKit

namespace Wt
/-- The number that bytes spell, the lowest first. -/
def val : List Nat → Nat
  | [] => 0
  | x :: l => x + 18446744073709551616 * val l
/-- A number's bytes, the lowest first, and no nought at the end. -/
def dg (n : Nat) : List Nat := if h : n = 0 then [] else n % 18446744073709551616 :: dg (n / 18446744073709551616)
termination_by n
decreasing_by omega

theorem dg_zero : dg 0 = [] := by unfold dg; simp
theorem dg_pos {n : Nat} (h : n ≠ 0) : dg n = n % 18446744073709551616 :: dg (n / 18446744073709551616) := by rw [dg, dif_neg h]
theorem dg_step {n x : Nat} (hx : x < 18446744073709551616) (h : n ≠ 0 ∨ x ≠ 0) : dg (x + 18446744073709551616 * n) = x :: dg n := by
  rw [dg_pos (by omega), show (x + 18446744073709551616 * n) % 18446744073709551616 = x from by omega, show (x + 18446744073709551616 * n) / 18446744073709551616 = n from by omega]
theorem dg_nil {n : Nat} (h : dg n = []) : n = 0 := by
  by_cases hn : n = 0
  · exact hn
  · rw [dg_pos hn] at h; exact absurd h (by simp)
theorem val_dg (n : Nat) : val (dg n) = n := by
  induction n using Nat.strongRecOn with
  | ind n ih =>
    by_cases h : n = 0
    · subst h; rw [dg_zero]; rfl
    · rw [dg_pos h]; show n % 18446744073709551616 + 18446744073709551616 * val (dg (n / 18446744073709551616)) = n
      rw [ih (n / 18446744073709551616) (by omega)]; omega
theorem dg_lt (n : Nat) : ∀ x, x ∈ dg n → x < 18446744073709551616 := by
  induction n using Nat.strongRecOn with
  | ind n ih =>
    by_cases h : n = 0
    · subst h; rw [dg_zero]; intro x hx; simp at hx
    · rw [dg_pos h]; intro x hx
      rcases List.mem_cons.1 hx with rfl | hx
      · omega
      · exact ih (n / 18446744073709551616) (by omega) x hx
/-- No nought at the end. -/
def Tidy (l : List Nat) : Prop := l = [] ∨ nth l (l.length - 1) ≠ 0
theorem nth_cons (x : Nat) (l : List Nat) (i : Nat) : nth (x :: l) (i + 1) = nth l i := rfl
theorem dg_val : ∀ {l : List Nat}, (∀ x, x ∈ l → x < 18446744073709551616) → Tidy l → dg (val l) = l
  | [], _, _ => dg_zero
  | x :: l, hl, ht => by
    have hx := hl x (by simp)
    have h1 : nth (x :: l) ((x :: l).length - 1) ≠ 0 := by rcases ht with h | h; exact absurd h (by simp); exact h
    show dg (x + 18446744073709551616 * val l) = x :: l
    cases l with
    | nil => 
      have h2 : x ≠ 0 := h1
      rw [dg_step hx (.inr h2)]; show x :: dg 0 = _; rw [dg_zero]
    | cons y t =>
      have ih := dg_val (l := y :: t) (fun z hz => hl z (by simp_all)) (.inr h1)
      have hv : val (y :: t) ≠ 0 := by intro h; rw [h, dg_zero] at ih; exact absurd ih (by simp)
      rw [dg_step hx (.inl hv), ih]
theorem dg_tidy (n : Nat) : Tidy (dg n) := by
  induction n using Nat.strongRecOn with
  | ind n ih =>
    by_cases h : n = 0
    · subst h; exact .inl dg_zero
    · rw [dg_pos h]
      refine .inr ?_
      rcases ih (n / 18446744073709551616) (by omega) with h1 | h1
      · have := dg_nil h1
        rw [h1]; show n % 18446744073709551616 ≠ 0; omega
      · by_cases h2 : dg (n / 18446744073709551616) = []
        · have := dg_nil h2
          rw [h2]; show n % 18446744073709551616 ≠ 0; omega
        · have : (dg (n / 18446744073709551616)).length ≠ 0 := by simp [h2]
          rw [List.length_cons, show (dg (n / 18446744073709551616)).length + 1 - 1 = ((dg (n / 18446744073709551616)).length - 1) + 1 from by omega, nth_cons]
          exact h1
theorem val_append (a b : List Nat) : val (a ++ b) = val a + 18446744073709551616 ^ a.length * val b := by
  induction a with
  | nil => simp [val]
  | cons x a ih => 
    show x + 18446744073709551616 * val (a ++ b) = x + 18446744073709551616 * val a + 18446744073709551616 ^ (a.length + 1) * val b
    rw [ih, Nat.pow_succ, Nat.mul_add, ← Nat.mul_assoc, Nat.mul_comm (18446744073709551616 ^ _) 18446744073709551616]; omega
theorem val_lt {l : List Nat} (hl : ∀ x, x ∈ l → x < 18446744073709551616) : val l < 18446744073709551616 ^ l.length := by
  induction l with
  | nil => simp [val]
  | cons x l ih =>
    have h1 := hl x (by simp)
    have h2 := ih (fun y hy => hl y (by simp [hy]))
    show x + 18446744073709551616 * val l < 18446744073709551616 ^ (l.length + 1)
    rw [Nat.pow_succ]; omega
theorem val_take_succ (l : List Nat) (k : Nat) (h : k < l.length) : val (l.take (k + 1)) = val (l.take k) + 18446744073709551616 ^ k * nth l k := by
  rw [take_nth l k h, val_append, List.length_take, Nat.min_eq_left (by omega)]
  simp [val]
theorem dg_length_le {n k : Nat} (h : n < 18446744073709551616 ^ k) : (dg n).length ≤ k := by
  induction k generalizing n with
  | zero => 
    have : n = 0 := by simp at h; exact h
    subst this; rw [dg_zero]; simp
  | succ k ih =>
    by_cases hn : n = 0
    · subst hn; rw [dg_zero]; simp
    · rw [dg_pos hn, List.length_cons]
      have := ih (n := n / 18446744073709551616) (by rw [Nat.pow_succ] at h; omega)
      omega
theorem dg_length_lt {n k : Nat} (h : 18446744073709551616 ^ k ≤ n) : k < (dg n).length := by
  have h1 := val_lt (dg_lt n)
  rw [val_dg] at h1
  exact (Nat.pow_lt_pow_iff_right (by decide)).1 (Nat.lt_of_le_of_lt h h1)
theorem dg_length_iff {n k : Nat} : (dg n).length ≤ k ↔ n < 18446744073709551616 ^ k := by
  refine ⟨fun h => ?_, dg_length_le⟩
  have h1 := val_lt (dg_lt n)
  rw [val_dg] at h1
  exact Nat.lt_of_lt_of_le h1 (Nat.pow_le_pow_right (by decide) h)
/-- The tidy one of these bytes. -/
def tidied (l : List Nat) : List Nat := dg (val l)
theorem tidied_of_take {l : List Nat} (hl : ∀ x, x ∈ l → x < 18446744073709551616) (k : Nat) (hv : val (l.take k) = val l) (ht : k = 0 ∨ nth l (k - 1) ≠ 0) (hk : k ≤ l.length) : l.take k = tidied l := by
  unfold tidied
  rw [← hv]
  refine (dg_val (fun x hx => hl x (List.mem_of_mem_take hx)) ?_).symm
  rcases ht with rfl | ht
  · exact .inl rfl
  · by_cases h0 : k = 0
    · subst h0; exact .inl rfl
    · refine .inr ?_
      rw [List.length_take, Nat.min_eq_left hk]
      unfold nth at ht ⊢
      rw [List.getD_eq_getElem?_getD] at ht ⊢
      rw [List.getElem?_take_of_lt (by omega)]
      exact ht
theorem val_take_drop0 {l : List Nat} (k : Nat) (hk : k < l.length) (h : nth l k = 0) (hv : val (l.take (k + 1)) = val l) : val (l.take k) = val l := by
  rw [← hv, val_take_succ l k hk, h]; omega

/-! ### Two numbers, byte by byte -/

theorem nth_over (l : List Nat) (i : Nat) (h : l.length ≤ i) : nth l i = 0 := by
  unfold nth; rw [List.getD_eq_getElem?_getD, List.getElem?_eq_none h]; rfl
/-- The number of the first k bytes, with noughts where there are none. -/
def low (l : List Nat) (k : Nat) : Nat := val (l.take k)
theorem low_succ (l : List Nat) (k : Nat) : low l (k + 1) = low l k + 18446744073709551616 ^ k * nth l k := by
  unfold low
  by_cases h : k < l.length
  · exact val_take_succ l k h
  · rw [nth_over l k (by omega), List.take_of_length_le (by omega), List.take_of_length_le (by omega)]; omega
theorem low_all {l : List Nat} {k : Nat} (h : l.length ≤ k) : low l k = val l := by
  unfold low; rw [List.take_of_length_le h]
theorem low_zero (l : List Nat) : low l 0 = 0 := rfl
theorem low_lt {l : List Nat} (hl : ∀ x, x ∈ l → x < 18446744073709551616) (k : Nat) : low l k < 18446744073709551616 ^ k := by
  unfold low
  refine Nat.lt_of_lt_of_le (val_lt fun x hx => hl x (List.mem_of_mem_take hx)) (Nat.pow_le_pow_right (by decide) ?_)
  rw [List.length_take]; omega

/-! ### Which is greater -/

/-! ### Products -/

theorem val_set {o : List Nat} : ∀ {j : Nat}, j < o.length → ∀ d, val (o.set j d) + 18446744073709551616 ^ j * nth o j = val o + 18446744073709551616 ^ j * d := by
  induction o with
  | nil => intro j h; simp at h
  | cons x o ih =>
    intro j h d
    cases j with
    | zero => show d + 18446744073709551616 * val o + 18446744073709551616 ^ 0 * x = x + 18446744073709551616 * val o + 18446744073709551616 ^ 0 * d; simp; omega
    | succ j =>
      have := ih (j := j) (by simpa using h) d
      show x + 18446744073709551616 * val (o.set j d) + 18446744073709551616 ^ (j + 1) * nth o j = x + 18446744073709551616 * val o + 18446744073709551616 ^ (j + 1) * d
      rw [Nat.pow_succ, Nat.mul_comm (18446744073709551616 ^ j) 18446744073709551616, Nat.mul_assoc, Nat.mul_assoc]; omega
theorem val_replicate (n : Nat) : val (List.replicate n 0) = 0 := by
  induction n with
  | zero => rfl
  | succ n ih => rw [List.replicate_succ]; show 0 + 18446744073709551616 * val (List.replicate n 0) = 0; rw [ih]
theorem set_lt {o : List Nat} (h : ∀ x, x ∈ o → x < 18446744073709551616) (j : Nat) {d : Nat} (hd : d < 18446744073709551616) : ∀ x, x ∈ o.set j d → x < 18446744073709551616 := by
  intro x hx
  rcases List.mem_or_eq_of_mem_set hx with h1 | h1
  · exact h x h1
  · omega

end Wt

end Go.Proofs.Ytphdadibfeencaa

/-
  Bytes out of a seed (layer 5), in plain numbers.
-/
set_option maxRecDepth 100000
namespace Go.Proofs.Ytphdadibfeencaa
open Go.RowKit

namespace Mx
/-- 2 to the 64. -/
def M : Nat := 18446744073709551616
/-- Combined with itself, so many bits to the right. -/
def sh (z k : Nat) : Nat := z ^^^ (z / 2 ^ k)
/-- The state's step. -/
def step (s : Nat) : Nat := (s + 11400714819323198485) % 18446744073709551616
/-- What a state tells. -/
def mixed (z : Nat) : Nat := sh (sh (sh z 30 * 13787848793156543929 % 18446744073709551616) 27 * 10723151780598845931 % 18446744073709551616) 31
/-! ### Unlike states tell unlike numbers -/

end Mx

end Go.Proofs.Ytphdadibfeencaa

/-
  The document's answer for bytes out of a seed (wellspringref05), in the program: 'shifted', 'Next', 'Bytes', 'Put'.
-/
set_option maxRecDepth 100000
namespace Go.Proofs.Ytphdadibfeencaa
open Go.RowKit

theorem ret_u64 {a : Int} {b : Nat} (h : a = b) : Ending.returned (.int .u64 a) = .returned (U64 b) := by rw [h]

end Go.Proofs.Ytphdadibfeencaa

/-
  The document's answer for numbers (wellspringref06), in the program: 'at', 'Trim', 'Of'.
-/
set_option maxRecDepth 100000
namespace Go.Proofs.Ytphdadibfeencaa
open Go.RowKit

set_option maxHeartbeats 400000 in
theorem reftrim_none (a : Option Addr) (cap : Nat) (w : World) :
    Calls Try.prog 33 #[.slice a 0 cap] w fun e w' => e = .returned (.slice a 0 cap) ∧ w = w' := by
  go_enter Try.func33, Try.ntmps33
  go_wp2_with fail
  refine wp_loop_rounds 1 ?_
  rw [rounds_succ]
  go_wp2_with fail
  go_ret
  exact ⟨rfl, rfl⟩

set_option maxHeartbeats 400000 in
theorem reftrim_some (b off cap : Nat) (l : List Nat) (w : World) (hB : Bytes w (.slice (some ⟨b, off, none⟩) l.length cap) l) :
    Calls Try.prog 33 #[.slice (some ⟨b, off, none⟩) l.length cap] w fun e w' => e = .returned (.slice (some ⟨b, off, none⟩) (Nt.tidied l).length cap) ∧ (∃ k, k ≤ l.length ∧ l.take k = Nt.tidied l) ∧ w = w' := by
  have HB := Lib.hid hB
  have HL := Lib.hid hB.lt
  obtain ⟨_, _, e, hc, hc2, _, _⟩ := hB
  cases e
  have HT := Lib.hid (fun k => Nt.tidied_of_take (k := k) HL.out)
  have HS := Lib.hid (fun k => Nt.val_take_drop0 (l := l) k)
  go_enter Try.func33, Try.ntmps33
  go_wp2_with fail
  go_loopw [0] (fun v wr => ∃ k : Nat, k ≤ l.length ∧ v = .slice (some ⟨b, off, none⟩) k cap ∧ Nt.val (l.take k) = Nt.val l ∧ wr = w) (fun v _ => match v with | .slice _ k _ => k | _ => 0)
  case atStart => exact ⟨l.length, by omega, rfl, by rw [List.take_length], rfl⟩
  case round =>
    obtain ⟨k, hk, rfl, hv, rfl⟩ := hrel
    have HV := Lib.hid hv
    clear hv
    by_cases hk0 : k = 0
    · subst hk0
      have HE := Lib.hid (HT.out 0 HV.out (.inl rfl) hk)
      go_wp2_with fail
      go_ret
      exact ⟨by rw [← HE.out]; rfl, ⟨0, by omega, HE.out⟩, rfl⟩
    · have hjl : k - 1 < l.length := by omega
      have hcell := HB.out.cell (k - 1) hjl
      have x1 := nth_lt HL.out (k - 1)
      have HX := Lib.hid (show nth l (k - 1) = nth l (k - 1) from rfl)
      obtain ⟨x, hx⟩ : ∃ x, x = nth l (k - 1) := ⟨_, rfl⟩
      rw [← hx] at hcell x1
      replace HX := Lib.hid hx
      clear hx
      have hkI : (k : Int) ≤ 9223372036854775807 := by omega
      by_cases hx0 : x = 0
      · subst hx0
        have HV2 := Lib.hid (HS.out (k - 1) hjl HX.out.symm (by rw [show k - 1 + 1 = k from by omega]; exact HV.out))
        go_wp2_with fail
        exact ⟨⟨k - 1, by omega, rfl, HV2.out, by trivial⟩, by show k - 1 < k; omega⟩
      · have HE := Lib.hid (HT.out k HV.out (.inr (by rw [← HX.out]; exact hx0)) hk)
        have hlen : (Nt.tidied l).length = k := by rw [← HE.out, List.length_take]; omega
        have HLN := Lib.hid hlen
        clear hlen
        go_wp2_with fail
        go_ret
        exact ⟨by rw [HLN.out]; rfl, ⟨k, hk, HE.out⟩, rfl⟩

/-- What Trim answers of bytes: those without noughts at the end, where they lie. -/
theorem reftrim_any (v : Value) (l : List Nat) (w : World) (hB : Bytes w v l) :
    Calls Try.prog 33 #[v] w fun e w' => (∃ v', e = .returned v' ∧ Bytes w v' (Nt.tidied l)) ∧ w = w' := by
  have hB0 := hB
  obtain ⟨a, cap, rfl, h1, h2, h3, h4⟩ := hB
  cases l with
  | nil =>
    refine (reftrim_none a cap w).mono ?_
    rintro e w' ⟨rfl, rfl⟩
    have e0 : Nt.tidied [] = [] := Nt.dg_zero
    rw [e0]
    exact ⟨⟨_, rfl, hB0⟩, rfl⟩
  | cons x l =>
    obtain ⟨b, off, rfl, hlt, hc⟩ := h4 (by simp)
    refine (reftrim_some b off cap (x :: l) w hB0).mono ?_
    rintro e w' ⟨rfl, ⟨k, hk, ht⟩, rfl⟩
    have hlen : (Nt.tidied (x :: l)).length = k := by rw [← ht, List.length_take]; omega
    refine ⟨⟨_, rfl, _, cap, rfl, by omega, h2, fun y hy => h3 y (List.mem_of_mem_take (ht ▸ hy)), fun _ => ⟨b, off, rfl, hlt, fun i hi => ?_⟩⟩, rfl⟩
    rw [hc i (by omega), ← ht]
    unfold nth
    rw [List.getD_eq_getElem?_getD, List.getD_eq_getElem?_getD, List.getElem?_take_of_lt (by omega)]

end Go.Proofs.Ytphdadibfeencaa

/-
  The document's answer for numbers (wellspringref06), in the program: 'Text'.
-/
set_option maxRecDepth 100000
namespace Go.Proofs.Ytphdadibfeencaa
open Go.RowKit

theorem strOf_append (a b : List Nat) : strOf a ++ strOf b = strOf (a ++ b) := by
  have e : ∀ x y : ByteArray, x.data.toList = y.data.toList → x = y := by
    intro x y h
    cases x; cases y
    simp only [ByteArray.mk.injEq]
    exact Array.toList_inj.1 h
  apply e
  rw [ByteArray.data_append, Array.toList_append]
  unfold strOf
  rw [strOfNums_data, strOfNums_data, strOfNums_data]
  simp

theorem text_next (N m d : Nat) (h : N / 16 ^ m % 16 = d) : strOf [Nt.chr d] ++ strOf (Nt.fullT N m) = strOf (Nt.fullT N (m + 1)) := by
  rw [strOf_append, ← h]; rfl

theorem convert_one (w : World) (c : Nat) (hc : c < 256) : (convert 40 9 (.slice (some ⟨w.heap.size, 0, none⟩) 1 1)).run Try.prog (w.alloc (.cells #[U8 c] 5)) = .ok (.string (strOf [c])) (w.alloc (.cells #[U8 c] 5)) :=
  convert_bytes (bytes_new w [c] 5 (by simpa using hc) (by simp))

theorem strOf_size (l : List Nat) : (strOf l).size = l.length := by unfold strOf; rw [strOfNums_size, List.length_map]

theorem strOf_isEmpty (l : List Nat) : (strOf l).toList.isEmpty = l.isEmpty := by
  rw [ByteArray.toList_eq]
  unfold strOf
  rw [strOfNums_data]
  cases l <;> rfl

theorem strOf_first {c : Nat} {l : List Nat} (hc : c < 256) {S : ByteArray} (hS : S = strOf (c :: l)) (h : 0 < S.size) : (S[0]'h).toNat = c := by
  subst hS
  show (UInt8.ofNat (Int.ofNat c).toNat).toNat = c
  simp
  omega

theorem strOf_tail (c : Nat) (l : List Nat) : (strOf (c :: l)).extract 1 (l.length + 1) = strOf l := by
  have e : ∀ x y : ByteArray, x.data.toList = y.data.toList → x = y := by
    intro x y h
    cases x; cases y
    simp only [ByteArray.mk.injEq]
    exact Array.toList_inj.1 h
  apply e
  rw [ByteArray.data_extract, Array.toList_extract]
  unfold strOf
  rw [strOfNums_data, strOfNums_data]
  simp
  exact List.take_of_length_le (by simp)

set_option maxHeartbeats 1000000 in
theorem reftext_any (v : Value) (l : List Nat) (w : World) (hn : l.length ≤ 1000000) (h0 : Bytes w v l) :
    Calls Try.prog 32 #[v] w fun e w' => e = .returned (.string (strOf (Nt.hexT (Nt.val l) (2 * l.length)))) ∧ Below w.heap.size w w' := by
  have HA := Lib.hid h0
  obtain ⟨pa, ca, rfl, _, _, _, h4⟩ := h0
  have HPA := Lib.hid (show ∀ i, i < l.length → ∃ b off, pa = some ⟨b, off, none⟩ from fun i hi => by
    obtain ⟨b, off, e, _⟩ := h4 (by intro h; rw [h] at hi; simp at hi)
    exact ⟨b, off, e⟩)
  clear h4
  obtain ⟨N, hN⟩ : ∃ N, N = Nt.val l := ⟨_, rfl⟩
  have HEV := Lib.hid (fun i => Nt.digit_even HA.out.lt i)
  have HOD := Lib.hid (fun i => Nt.digit_odd HA.out.lt i)
  have HAL := Lib.hid (fun k => nth_lt HA.out.lt k)
  rw [← hN] at HEV HOD ⊢
  clear hN
  have HTE := Lib.hid (show Nt.hexT N (2 * l.length) = if Nt.strip (Nt.fullT N (2 * l.length)) = [] then [48] else Nt.strip (Nt.fullT N (2 * l.length)) from rfl)
  obtain ⟨R, hR⟩ : ∃ R, R = Nt.hexT N (2 * l.length) := ⟨_, rfl⟩
  rw [← hR] at HTE ⊢
  clear hR
  go_enter Try.func32, Try.ntmps32
  go_wp2_with fail
  go_loopw [3, 4, 5, 6] (fun s i _ _ wr => ∃ n : Nat, n ≤ l.length ∧ i = .int .i64 n ∧ s = .string (strOf (Nt.fullT N (2 * n))) ∧ Below w.heap.size w wr) (fun _ i _ _ _ => l.length - (intOf i).toNat)
  case atStart => exact ⟨0, by omega, rfl, rfl, Below.refl _ _⟩
  case round =>
    obtain ⟨n, hk, rfl, rfl, hbel⟩ := hrel
    by_cases hlt : n < l.length
    · obtain ⟨ba, off, rfl⟩ := HPA.out n hlt
      have HLT := Lib.hid hlt
      have x1 := HAL.out n
      obtain ⟨x, hx⟩ : ∃ x, x = nth l n := ⟨_, rfl⟩
      have HX := Lib.hid hx.symm
      rw [← hx] at x1
      have HE := Lib.hid (HEV.out n)
      have HO := Lib.hid (HOD.out n)
      rw [← hx] at HE HO
      clear hx
      obtain ⟨S0, hS0⟩ : ∃ S0, S0 = strOf (Nt.fullT N (2 * n)) := ⟨_, rfl⟩
      rw [← hS0]
      have HS0 := Lib.hid hS0
      clear hS0
      obtain ⟨wo, hwo⟩ : ∃ wo : World, wo = wr := ⟨_, rfl⟩
      subst hwo
      go_wp2_with fail
      go_loopw [3, 5, 6] (fun s t _ wr => ∃ k : Nat, k ≤ 2 ∧ t = .int .i64 k ∧ s = .string (strOf (Nt.fullT N (2 * n + k))) ∧ Below w.heap.size w wr) (fun _ t _ _ => 2 - (intOf t).toNat)
      case atStart => exact ⟨0, by omega, rfl, by rw [HS0.out]; rfl, hbel⟩
      case round =>
        obtain ⟨k, hk2, rfl, rfl, hbel2⟩ := hrel
        have hz := hbel2.size
        by_cases hlt2 : k < 2
        · have hcell : wr.cell? ⟨ba, off + n, none⟩ = some (U8 x) := by rw [← HX.out]; exact (HA.out.below (Nat.le_refl _) hbel2).cell n HLT.out
          have n0 : (0 : Int) ≤ (n : Int) := Int.natCast_nonneg _
          rcases (show k = 0 ∨ k = 1 by omega) with rfl | rfl
          · obtain ⟨d, hd⟩ : ∃ d, d = x % 16 := ⟨_, rfl⟩
            have HN := Lib.hid (text_next N (2 * n + 0) d (by rw [hd]; exact HE.out))
            have hdI : (x : Int) % 16 = (d : Int) := by omega
            have hd1 : d < 16 := by omega
            have HSZ := Lib.hid (show (strOf (Nt.fullT N (2 * n + 0))).size ≤ 2000002 by rw [strOf_size, Nt.fullT_length]; have := HLT.out; omega)
            obtain ⟨S, hS⟩ : ∃ S, S = strOf (Nt.fullT N (2 * n + 0)) := ⟨_, rfl⟩
            rw [← hS] at HN HSZ ⊢
            clear hd hS
            have hcv := convert_one wr (Nt.chr d) (Nt.chr_lt hd1)
            by_cases hd10 : d < 10
            · skip
              rw [Nt.chr_small hd10] at hcv HN
              obtain ⟨c, hc⟩ : ∃ c, c = 48 + d := ⟨_, rfl⟩
              rw [← hc] at hcv HN
              have hcI : (48 : Int) + d = (c : Int) := by omega
              have hc1 : c < 256 := by omega
              have hdI10 : (d : Int) < 10 := by omega
              have hsz : ¬ 9223372036854775807 < (strOf [c]).size + S.size := by rw [strOf_size, List.length_singleton]; have := HSZ.out; omega
              clear hc hd10
              go_wp2_with fail
              exact ⟨⟨1, by omega, rfl, by rw [HN.out], hbel2.alloc hz _⟩, by decide⟩
            · skip
              rw [Nt.chr_great hd10] at hcv HN
              obtain ⟨c, hc⟩ : ∃ c, c = 87 + d := ⟨_, rfl⟩
              rw [← hc] at hcv HN
              have hcI : (97 : Int) + d - 10 = (c : Int) := by omega
              have hc1 : c < 256 := by omega
              have hdI10 : ¬ (d : Int) < 10 := by omega
              have hsz : ¬ 9223372036854775807 < (strOf [c]).size + S.size := by rw [strOf_size, List.length_singleton]; have := HSZ.out; omega
              clear hc hd10
              go_wp2_with fail
              exact ⟨⟨1, by omega, rfl, by rw [HN.out], hbel2.alloc hz _⟩, by decide⟩
          · obtain ⟨d, hd⟩ : ∃ d, d = x / 16 := ⟨_, rfl⟩
            have HN := Lib.hid (text_next N (2 * n + 1) d (by rw [hd]; exact HO.out))
            have hdI : (x : Int) / 16 = (d : Int) := by omega
            have hd1 : d < 16 := by omega
            have HSZ := Lib.hid (show (strOf (Nt.fullT N (2 * n + 1))).size ≤ 2000002 by rw [strOf_size, Nt.fullT_length]; have := HLT.out; omega)
            obtain ⟨S, hS⟩ : ∃ S, S = strOf (Nt.fullT N (2 * n + 1)) := ⟨_, rfl⟩
            rw [← hS] at HN HSZ ⊢
            clear hd hS
            have hcv := convert_one wr (Nt.chr d) (Nt.chr_lt hd1)
            by_cases hd10 : d < 10
            · skip
              rw [Nt.chr_small hd10] at hcv HN
              obtain ⟨c, hc⟩ : ∃ c, c = 48 + d := ⟨_, rfl⟩
              rw [← hc] at hcv HN
              have hcI : (48 : Int) + d = (c : Int) := by omega
              have hc1 : c < 256 := by omega
              have hdI10 : (d : Int) < 10 := by omega
              have hsz : ¬ 9223372036854775807 < (strOf [c]).size + S.size := by rw [strOf_size, List.length_singleton]; have := HSZ.out; omega
              clear hc hd10
              go_wp2_with fail
              exact ⟨⟨2, by omega, rfl, by rw [HN.out], hbel2.alloc hz _⟩, by decide⟩
            · skip
              rw [Nt.chr_great hd10] at hcv HN
              obtain ⟨c, hc⟩ : ∃ c, c = 87 + d := ⟨_, rfl⟩
              rw [← hc] at hcv HN
              have hcI : (97 : Int) + d - 10 = (c : Int) := by omega
              have hc1 : c < 256 := by omega
              have hdI10 : ¬ (d : Int) < 10 := by omega
              have hsz : ¬ 9223372036854775807 < (strOf [c]).size + S.size := by rw [strOf_size, List.length_singleton]; have := HSZ.out; omega
              clear hc hd10
              go_wp2_with fail
              exact ⟨⟨2, by omega, rfl, by rw [HN.out], hbel2.alloc hz _⟩, by decide⟩
        · obtain rfl : k = 2 := by omega
          go_wp2_with fail
          have hh := HLT.out
          exact ⟨⟨n + 1, by omega, by go_num, rfl, hbel2⟩, by simp [intOf]; omega⟩
    · obtain rfl : n = l.length := by omega
      have HF := Lib.hid (Nt.fullT_lt N (2 * l.length))
      have HSZ := Lib.hid (Nt.fullT_length N (2 * l.length))
      generalize Nt.fullT N (2 * l.length) = F at *
      go_wp2_with fail
      go_loopw [3] (fun s wr => ∃ t : List Nat, s = .string (strOf t) ∧ (∀ x, x ∈ t → x < 256) ∧ t.length ≤ 2000000 ∧ Nt.strip t = Nt.strip F ∧ Below w.heap.size w wr) (fun s _ => match s with | .string b => b.size | _ => 0)
      case atStart => exact ⟨F, rfl, HF.out, by rw [HSZ.out]; omega, rfl, hbel⟩
      case round =>
        obtain ⟨t, rfl, ht, htl, hst, hbel2⟩ := hrel
        have HT := Lib.hid ht
        have HST := Lib.hid hst
        clear ht hst
        match t with
        | [] =>
          have hs0 : (strOf []).size = 0 := strOf_size []
          have he0 : (strOf []).toList.isEmpty = true := strOf_isEmpty []
          have HR := Lib.hid (show R = [48] by rw [HTE.out, ← HST.out]; rfl)
          go_wp2_with fail
          go_ret
          exact ⟨by rw [HR.out]; rfl, hbel2⟩
        | [c] =>
          have hs1 : (strOf [c]).size = 1 := strOf_size [c]
          have he1 : (strOf [c]).toList.isEmpty = false := strOf_isEmpty [c]
          have HR := Lib.hid (show R = [c] by rw [HTE.out, ← HST.out]; rfl)
          go_wp2_with fail
          go_ret
          exact ⟨by rw [HR.out]; rfl, hbel2⟩
        | c :: d :: t =>
          have hs2 : (strOf (c :: d :: t)).size = t.length + 2 := strOf_size _
          have he2 : (strOf (c :: d :: t)).toList.isEmpty = false := strOf_isEmpty _
          have hc1 : c < 256 := HT.out c (by simp)
          have h0 : 0 < (strOf (c :: d :: t)).size := by rw [hs2]; omega
          have HFI := Lib.hid (strOf_first hc1 rfl h0)
          by_cases hc48 : c = 48
          · have HT2 := Lib.hid (show Nt.strip (d :: t) = Nt.strip F by rw [← HST.out, Nt.strip_go hc48])
            have HX := Lib.hid (strOf_tail c (d :: t))
            have HS3 := Lib.hid (strOf_size (d :: t))
            generalize strOf (c :: d :: t) = S at *
            have hb : (((S[0]'h0).toNat : Int) == 48) = true := by rw [HFI.out, hc48]; rfl
            have HTL := Lib.hid htl
            clear hc48 htl
            go_wp2_with fail
            refine ⟨⟨d :: t, by rw [← HX.out]; rfl, fun x hx => HT.out x (by simp_all), by have := HTL.out; simp at this ⊢; omega, HT2.out, hbel2⟩, ?_⟩
            show (S.extract 1 (t.length + 2)).size < S.size
            rw [show S.extract 1 (t.length + 2) = strOf (d :: t) from HX.out, HS3.out, hs2]
            simp
          · have HR := Lib.hid (show R = c :: d :: t by rw [HTE.out, ← HST.out, Nt.strip_stop hc48]; rfl)
            have HSS := Lib.hid (show strOf (c :: d :: t) = strOf (c :: d :: t) from rfl)
            obtain ⟨S, hS⟩ : ∃ S, S = strOf (c :: d :: t) := ⟨_, rfl⟩
            replace HSS := Lib.hid hS
            rw [← hS] at hs2 he2 ⊢
            have h0' : 0 < S.size := by rw [hs2]; omega
            have hb : (((S[0]'h0').toNat : Int) == 48) = false := by rw [strOf_first hc1 hS h0', beq_eq_false_iff_ne]; omega
            clear hS hc48 h0 HFI
            go_wp2_with fail
            go_ret
            exact ⟨by rw [HR.out, ← HSS.out]; rfl, hbel2⟩

end Go.Proofs.Ytphdadibfeencaa

/-
  The document's answer for numbers (wellspringref06), in the program: 'Parse'.
-/
set_option maxRecDepth 100000
namespace Go.Proofs.Ytphdadibfeencaa
open Go.RowKit

namespace Nt
/-- Is the character a digit's? -/
def IsHex (c : Nat) : Prop := (48 ≤ c ∧ c ≤ 57) ∨ (97 ≤ c ∧ c ≤ 102)
instance (c : Nat) : Decidable (IsHex c) := by unfold IsHex; infer_instance
/-- A character's digit. -/
def hv (c : Nat) : Nat := if c ≤ 57 then c - 48 else c - 87
/-- The character number j, counted from the end. -/
def ch (t : List Nat) (j : Nat) : Nat := nth t (t.length - 1 - j)
/-- Is it a number's text? -/
def IsText (t : List Nat) : Prop := t ≠ [] ∧ ¬ (1 < t.length ∧ nth t 0 = 48) ∧ ∀ j, j < t.length → IsHex (ch t j)
instance (t : List Nat) : Decidable (IsText t) := by unfold IsText; infer_instance
end Nt

theorem Nt.tidied_le {o : List Nat} (h : ∀ x, x ∈ o → x < 256) : (Nt.tidied o).length ≤ o.length := Nt.dg_length_le (Nt.val_lt h)

end Go.Proofs.Ytphdadibfeencaa
