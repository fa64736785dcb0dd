/-
  Rows that lead (layer 3), in plain lists.
-/
import Derived.Test.YtgjjkiebfekkjaaRefLess
import Derived.Test.YtgjjkiebfekkjaaLinear
import Derived.Test.YtgjjkiebfekkjaaVecB
set_option maxRecDepth 100000
namespace Go.Proofs.Ytgjjkiebfekkjaa
open Go.RowKit

theorem lead_scale {c : Nat} {p : List Nat} (hc : c < 256) (h0 : c ≠ 0) (hp : ∀ x, x ∈ p → x < 256) : lead (Gf.scale c p) = lead p := by
  by_cases hl : lead p < p.length
  · refine lead_eq (fun j hj => ?_) (by rw [Gf.scale_length]; exact hl) ?_
    · rw [nth_scale c p j (by omega), lead_zero p j hj, Gf.mul_zero]
    · rw [nth_scale c p _ hl]
      exact Gf.mul_ne hc (nth_lt hp _) h0 (lead_ne p hl)
  · have e : lead p = p.length := by have := lead_le p; omega
    rw [e, ← Gf.scale_length c p]
    refine lead_none fun j hj => ?_
    rw [Gf.scale_length] at hj
    rw [nth_scale c p j hj, lead_zero p j (by omega), Gf.mul_zero]

theorem leadI_scale {c : Nat} {p : List Nat} (hc : c < 256) (h0 : c ≠ 0) (hp : ∀ x, x ∈ p → x < 256) : leadI (Gf.scale c p) = leadI p := by
  unfold leadI; rw [lead_scale hc h0 hp, Gf.scale_length]

theorem normC_ne {p : List Nat} : normC p ≠ 0 := by
  unfold normC
  split
  · rename_i h; exact Gf.inv_ne (lead_ne p h)
  · decide

theorem norm_at {p : List Nat} (hp : ∀ x, x ∈ p → x < 256) (hl : lead p < p.length) : nth (Gf.scale (normC p) p) (lead p) = 1 := by
  rw [nth_scale _ p _ hl]
  unfold normC
  rw [if_pos hl, Gf.inv_mul (nth_lt hp _) (lead_ne p hl)]

theorem norm_norm {p : List Nat} (hp : ∀ x, x ∈ p → x < 256) : normC (Gf.scale (normC p) p) = 1 := by
  have e := lead_scale (normC_lt p) normC_ne hp
  by_cases hl : lead p < p.length
  · rw [normC, e, if_pos (by rw [Gf.scale_length]; exact hl), norm_at hp hl]
    decide +kernel
  · rw [normC, e, if_neg (by rw [Gf.scale_length]; exact hl)]

theorem add_self_back {s x : List Nat} (h : s.length = x.length) : Gf.add s (Gf.add s x) = x := by
  refine ext_nth (by rw [Gf.add_length _ _ (by rw [Gf.add_length _ _ h]), h]) fun j hj => ?_
  rw [Gf.add_length _ _ (by rw [Gf.add_length _ _ h])] at hj
  rw [nth_add _ _ _ hj (by rw [Gf.add_length _ _ h]; exact hj), nth_add _ _ _ hj (by omega), ← Nat.xor_assoc, Nat.xor_self, Nat.zero_xor]

/-- One row less as much of a normed one that leads at the same place: noughts up to there. -/
theorem less_zero {c : Nat} {s x : List Nat} {i : Nat} (hx : ∀ y, y ∈ x → y < 256) (hc : c = nth x i) (hl : s.length = x.length) (hi : i < x.length) (h0 : ∀ j, j < i → nth s j = 0) (h1 : nth s i = 1) (h2 : ∀ j, j < i → nth x j = 0) :
    ∀ j, j < i + 1 → nth (Gf.add (Gf.scale c s) x) j = 0 := by
  intro j hj
  rw [nth_add _ _ _ (by rw [Gf.scale_length]; omega) (by omega), nth_scale c s j (by omega)]
  by_cases h : j < i
  · rw [h0 j h, h2 j h, Gf.mul_zero, Nat.xor_zero]
  · obtain rfl : j = i := by omega
    rw [h1, hc, Gf.mul_one (nth_lt hx _), Nat.xor_self]

theorem lead_more {l : List Nat} {i : Nat} (h : ∀ j, j < i + 1 → nth l j = 0) (hi : i < l.length) : i < lead l := by
  rcases Nat.lt_or_ge i (lead l) with h1 | h1
  · exact h1
  · exact absurd (h _ (by omega)) (lead_ne l (by omega))

theorem zeroB_lead {l : List Nat} : zeroB l = true ↔ ¬ lead l < l.length := by
  have h := zeroB_eq l
  constructor
  · intro hz hl
    rw [hz] at h
    have := of_decide_eq_false h.symm
    exact this ⟨_, hl, lead_ne l hl⟩
  · intro hl
    have e : decide (∃ i, i < l.length ∧ nth l i ≠ 0) = false := by
      rw [decide_eq_false_iff_not]
      rintro ⟨i, hi, hne⟩
      exact hne (lead_zero l i (by omega))
    rw [e] at h
    simpa using h

end Go.Proofs.Ytgjjkiebfekkjaa
