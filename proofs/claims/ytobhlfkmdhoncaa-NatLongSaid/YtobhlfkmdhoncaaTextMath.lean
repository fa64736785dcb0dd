/-
  Numbers' texts (layer 6), in plain numbers.
-/
import Derived.Test.YtobhlfkmdhoncaaRefNatF
import Derived.Test.YtobhlfkmdhoncaaNatB
set_option maxRecDepth 100000
namespace Go.Proofs.Ytobhlfkmdhoncaa
open Go.RowKit

namespace Nt
/-- How many digits a number has, one at least. -/
def digits (n : Nat) : Nat := max 1 (partsN n 4)
/-- A number's text. -/
def txt (n : Nat) : List Nat := fullT n (digits n)
theorem txt_length (n : Nat) : (txt n).length = digits n := fullT_length _ _
theorem txt_lt (n : Nat) : ∀ x, x ∈ txt n → x < 256 := fullT_lt _ _
theorem lt_digits (n : Nat) : n < 16 ^ digits n :=
  Nat.lt_of_lt_of_le (parts_bounds n 4 (by decide)).1 (Nat.pow_le_pow_right (by decide) (Nat.le_max_right _ _))
theorem digits_top {n : Nat} (h : 1 < digits n) : n / 16 ^ (digits n - 1) % 16 ≠ 0 := by
  have h0 : n ≠ 0 := by
    intro e; subst e
    unfold digits at h
    rw [parts_zero 4 (by decide)] at h
    exact absurd h (by decide)
  obtain ⟨h1, h2⟩ := (parts_bounds n 4 (by decide)).2 h0
  have hd : digits n = partsN n 4 := by unfold digits; omega
  have hlt := lt_digits n
  rw [hd] at hlt ⊢
  have h3 : 16 ^ (partsN n 4 - 1) ≤ n := h1
  have h4 : 1 ≤ n / 16 ^ (partsN n 4 - 1) := (Nat.le_div_iff_mul_le (Nat.pow_pos (by decide))).2 (by omega)
  have h5 : n / 16 ^ (partsN n 4 - 1) < 16 := by
    rw [Nat.div_lt_iff_lt_mul (Nat.pow_pos (by decide)), Nat.mul_comm, ← Nat.pow_succ, Nat.succ_eq_add_one, Nat.sub_add_cancel h2]
    exact hlt
  omega
theorem chr_nought {d : Nat} : chr d = 48 ↔ d = 0 := by unfold chr; split <;> omega
theorem chr_inj {c d : Nat} (h : chr c = chr d) : c = d := by unfold chr at h; split at h <;> split at h <;> omega
theorem hv_chr {d : Nat} (h : d < 16) : hv (chr d) = d ∧ IsHex (chr d) := by
  unfold hv IsHex chr
  split <;> split <;> omega
theorem fullT_mod {m n : Nat} : ∀ {k : Nat}, fullT m k = fullT n k → m % 16 ^ k = n % 16 ^ k
  | 0, _ => by simp [Nat.mod_one]
  | k + 1, h => by
    simp only [fullT, List.cons.injEq] at h
    have h1 := chr_inj h.1
    have h2 := fullT_mod h.2
    rw [Nat.pow_succ, Nat.mod_mul, Nat.mod_mul, h1, h2]
theorem txt_inj {m n : Nat} (h : txt m = txt n) : m = n := by
  have hl := congrArg List.length h
  rw [txt_length, txt_length] at hl
  unfold txt at h
  rw [hl] at h
  have h1 := fullT_mod h
  have h2 := lt_digits m
  rw [hl] at h2
  rwa [Nat.mod_eq_of_lt h2, Nat.mod_eq_of_lt (lt_digits n)] at h1
theorem strip_one (c : Nat) : strip [c] = [c] := by unfold strip; rfl
theorem strip_full {n : Nat} : ∀ {k : Nat}, n < 16 ^ k → digits n ≤ k → strip (fullT n k) = txt n
  | 0, _, h => by have : 1 ≤ digits n := Nat.le_max_left _ _; omega
  | k + 1, hlt, h => by
    by_cases hk : digits n = k + 1
    · unfold txt
      rw [hk]
      cases k with
      | zero => exact strip_one _
      | succ k =>
        have ht := digits_top (n := n) (by omega)
        rw [hk, Nat.add_sub_cancel] at ht
        show strip (chr (n / 16 ^ (k + 1) % 16) :: chr (n / 16 ^ k % 16) :: fullT n k) = _
        rw [strip_stop (fun e => ht (chr_nought.1 e))]
        rfl
    · have hk2 : digits n ≤ k := by omega
      have hn : n < 16 ^ k := Nat.lt_of_lt_of_le (lt_digits n) (Nat.pow_le_pow_right (by decide) hk2)
      have h1 : 1 ≤ digits n := Nat.le_max_left _ _
      obtain ⟨j, rfl⟩ : ∃ j, k = j + 1 := ⟨k - 1, by omega⟩
      show strip (chr (n / 16 ^ (j + 1) % 16) :: chr (n / 16 ^ j % 16) :: fullT n j) = _
      rw [strip_go (by rw [Nat.div_eq_of_lt hn]; rfl)]
      exact strip_full (k := j + 1) hn hk2
theorem digits_le {n k : Nat} (h : n < 16 ^ k) (hk : 1 ≤ k) : digits n ≤ k := by
  unfold digits
  refine Nat.max_le.2 ⟨hk, ?_⟩
  by_cases h0 : n = 0
  · subst h0; rw [parts_zero 4 (by decide)]; omega
  · obtain ⟨h1, h2⟩ := (parts_bounds n 4 (by decide)).2 h0
    have h3 : 16 ^ (partsN n 4 - 1) ≤ n := h1
    have h4 := (Nat.pow_lt_pow_iff_right (show 1 < 16 by decide)).1 (Nat.lt_of_le_of_lt h3 h)
    omega
theorem txt_zero : txt 0 = [48] := by
  unfold txt digits
  rw [parts_zero 4 (by decide)]
  rfl
theorem txt_ne (n : Nat) : txt n ≠ [] := by
  intro h
  have := txt_length n
  rw [h] at this
  have h1 : 1 ≤ digits n := Nat.le_max_left _ _
  simp at this; omega
/-- The document's text. -/
theorem hexT_txt {n k : Nat} (h : n < 16 ^ k) : hexT n k = txt n := by
  unfold hexT
  by_cases hk : k = 0
  · subst hk
    have : n = 0 := by simpa using h
    subst this
    rw [txt_zero]; rfl
  · rw [strip_full h (digits_le h (by omega)), if_neg (txt_ne n)]
theorem val_hex {l : List Nat} (hl : ∀ x, x ∈ l → x < 256) : hexT (val l) (2 * l.length) = txt (val l) := by
  refine hexT_txt ?_
  rw [Nat.pow_mul]
  exact val_lt hl
theorem nth_full (n : Nat) : ∀ (k j : Nat), j < k → nth (fullT n k) (k - 1 - j) = chr (n / 16 ^ j % 16)
  | 0, _, h => by omega
  | k + 1, j, h => by
    by_cases hj : j = k
    · subst hj; rw [show j + 1 - 1 - j = 0 from by omega]; rfl
    · rw [show k + 1 - 1 - j = (k - 1 - j) + 1 from by omega]
      exact nth_full n k j (by omega)
theorem ch_full {n k j : Nat} (h : j < k) : ch (fullT n k) j = chr (n / 16 ^ j % 16) := by
  unfold ch; rw [fullT_length]; exact nth_full n k j h
theorem pv_full {n k : Nat} : ∀ {j : Nat}, j ≤ k → pv (fullT n k) j = n % 16 ^ j
  | 0, _ => by simp [pv, Nat.mod_one]
  | j + 1, h => by
    rw [pv, pv_full (by omega), ch_full (by omega), (hv_chr (Nat.mod_lt _ (by decide))).1, Nat.pow_succ, Nat.mod_mul]
theorem pv_txt (n : Nat) : pv (txt n) (txt n).length = n := by
  rw [txt_length]
  unfold txt
  rw [pv_full (Nat.le_refl _), Nat.mod_eq_of_lt (lt_digits n)]
theorem isText_txt (n : Nat) : IsText (txt n) := by
  refine ⟨txt_ne n, fun ⟨h1, h2⟩ => ?_, fun j hj => ?_⟩
  · rw [txt_length] at h1
    have h3 := nth_full n (digits n) (digits n - 1) (by omega)
    rw [show digits n - 1 - (digits n - 1) = 0 from by omega] at h3
    have h4 : nth (fullT n (digits n)) 0 = 48 := h2
    rw [h3] at h4
    exact digits_top h1 (chr_nought.1 h4)
  · rw [txt_length] at hj
    unfold txt
    rw [ch_full hj]
    exact (hv_chr (Nat.mod_lt _ (by decide))).2
theorem hv_lt {c : Nat} (h : IsHex c) : hv c < 16 := by unfold IsHex at h; unfold hv; split <;> omega
theorem pv_lt {t : List Nat} : ∀ {j : Nat}, (∀ q, q < j → IsHex (ch t q)) → pv t j < 16 ^ j
  | 0, _ => by simp [pv]
  | j + 1, h => by
    have h1 := pv_lt (t := t) (j := j) (fun q hq => h q (by omega))
    have h2 := hv_lt (h j (by omega))
    have h3 := Nat.mul_le_mul_left (16 ^ j) (show hv (ch t j) + 1 ≤ 16 from h2)
    rw [Nat.mul_add] at h3
    rw [pv, Nat.pow_succ]
    omega
/-- Another digit of a text, among the words. -/
theorem parse_step {o t : List Nat} {q r d : Nat} (ho : ∀ x, x ∈ o → x < 18446744073709551616) (hr : r < 16) (hq : q < o.length) (hd : d < 16) (hv' : Wt.val o = pv t (16 * q + r)) (hlt : pv t (16 * q + r) < 16 ^ (16 * q + r)) :
    nth o q < 16 ^ r ∧ nth o q + 16 ^ r * d < 18446744073709551616 ∧ Wt.val (o.set q (nth o q + 16 ^ r * d)) = pv t (16 * q + r) + 16 ^ (16 * q + r) * d := by
  have hw := word_at ho q
  rw [hv'] at hw
  have e : (16 : Nat) ^ (16 * q + r) = 18446744073709551616 ^ q * 16 ^ r := by rw [Nat.pow_add, Nat.pow_mul]
  have hp : pv t (16 * q + r) / 18446744073709551616 ^ q < 16 ^ r := by
    rw [Nat.div_lt_iff_lt_mul (Nat.pow_pos (by decide)), Nat.mul_comm (16 ^ r), ← e]; exact hlt
  have h16 : (16 : Nat) ^ r * 16 ≤ 18446744073709551616 := by
    rw [← Nat.pow_succ, show (18446744073709551616 : Nat) = 16 ^ 16 from by decide]
    exact Nat.pow_le_pow_right (by decide) hr
  have hx : nth o q < 16 ^ r := by rw [← hw]; exact Nat.lt_of_le_of_lt (Nat.mod_le _ _) hp
  have hmul := Nat.mul_le_mul_left (16 ^ r) (show d + 1 ≤ 16 from hd)
  rw [Nat.mul_add] at hmul
  refine ⟨hx, by omega, ?_⟩
  have hs := Wt.val_set hq (nth o q + 16 ^ r * d)
  rw [Nat.mul_add, ← Nat.mul_assoc, ← e, hv'] at hs
  omega
end Nt

end Go.Proofs.Ytobhlfkmdhoncaa
