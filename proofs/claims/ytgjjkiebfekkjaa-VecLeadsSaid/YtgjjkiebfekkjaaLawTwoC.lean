/-
  The statements of layer 2 (kern), walked: KernReckons.
-/
import Derived.Test.YtgjjkiebfekkjaaLawTwo
set_option maxRecDepth 100000
namespace Go.Proofs.Ytgjjkiebfekkjaa
open Go.RowKit

/-- As many ones. -/
def ones (n : Nat) : List Nat := List.replicate n 1

theorem ones_length (n : Nat) : (ones n).length = n := by simp [ones]
theorem ones_lt (n : Nat) : ∀ x, x ∈ ones n → x < 256 := by
  intro x hx
  have := List.eq_of_mem_replicate hx
  omega
theorem nth_ones (n k : Nat) (h : k < n) : nth (ones n) k = 1 := by
  rw [nth_eq _ _ (by rw [ones_length]; exact h)]; simp [ones]

theorem scale_one {l : List Nat} (h : ∀ x, x ∈ l → x < 256) : Gf.scale 1 l = l := by
  refine ext_nth (Gf.scale_length 1 l) fun j hj => ?_
  rw [Gf.scale_length] at hj
  rw [nth_scale 1 l j hj, Gf.one_mul (nth_lt h j)]

theorem combK_ones {ll : List (List Nat)} (hl : ∀ k, k < ll.length → ∀ x, x ∈ rowAt ll k → x < 256) : ∀ k, k ≤ ll.length → combK (ones ll.length) ll k = sumK ll k
  | 0, _ => rfl
  | k + 1, hk => by
    show Gf.add (combK (ones ll.length) ll k) (Gf.scale (nth (ones ll.length) k) (rowAt ll k)) = Gf.add (sumK ll k) (rowAt ll k)
    rw [combK_ones hl k (by omega), nth_ones _ _ (by omega), scale_one (hl k (by omega))]

theorem comb_ones_L {ll : List (List Nat)} (hl : ∀ k, k < ll.length → ∀ x, x ∈ rowAt ll k → x < 256) : combL (ones ll.length) ll = sumL ll := by
  unfold combL sumL
  rw [ones_length, combK_ones hl _ (Nat.le_refl _)]
  simp
theorem comb_ones_E (ll : List (List Nat)) : combE (ones ll.length) ll = sumE ll := by
  unfold combE sumE
  rw [ones_length]; simp

/-- So many ones are laid, the rest is noughts. -/
def someOnes (n k : Nat) : List Nat := part (ones k) n
theorem someOnes_length (n k : Nat) (h : k ≤ n) : (someOnes n k).length = n := part_length _ _ (by rw [ones_length]; exact h)
theorem someOnes_set (n k : Nat) (h : k < n) : (someOnes n k).set k 1 = someOnes n (k + 1) := by
  have e := part_set (ones k) n 1 (by rw [ones_length]; exact h)
  rw [ones_length] at e
  unfold someOnes
  rw [e, show ones k ++ [1] = ones (k + 1) from by simp [ones, List.replicate_succ']]
theorem someOnes_all (n : Nat) : someOnes n n = ones n := part_all _ _ (ones_length n)
theorem someOnes_zero (n : Nat) : someOnes n 0 = List.replicate n 0 := by simp [someOnes, part, ones]

theorem few_rows {ll : List (List Nat)} (h : fewB ll = true) : ll.length ≤ 40 ∧ (rowAt ll 0).length ≤ 100 := by
  unfold fewB at h
  rw [Bool.and_eq_true, List.all_eq_true, decide_eq_true_eq] at h
  refine ⟨h.2, ?_⟩
  cases ll with
  | nil => simp [rowAt]
  | cons x ll => simpa [rowAt] using h.1 x (by simp)

end Go.Proofs.Ytgjjkiebfekkjaa
