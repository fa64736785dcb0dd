/-
  The program's numbers (layer 6): 'digit', 'parts', 'Len'.
-/
import Derived.Test.YtobhlfkmdhoncaaNatA
import Derived.Lib.ItoaNum
set_option maxRecDepth 100000
namespace Go.Proofs.Ytobhlfkmdhoncaa
open Go.RowKit

theorem word_at {l : List Nat} (hl : ∀ x, x ∈ l → x < 18446744073709551616) (i : Nat) : Wt.val l / 18446744073709551616 ^ i % 18446744073709551616 = nth l i := by
  induction l generalizing i with
  | nil => simp [Wt.val, nth]
  | cons x l ih =>
    have hx := hl x (by simp)
    cases i with
    | zero => show (x + 18446744073709551616 * Wt.val l) / 18446744073709551616 ^ 0 % 18446744073709551616 = x; simp; omega
    | succ i =>
      rw [Wt.nth_cons, ← ih (fun y hy => hl y (by simp [hy])) i, Nat.pow_succ, Nat.mul_comm, ← Nat.div_div_eq_div_mul]
      show (x + 18446744073709551616 * Wt.val l) / 18446744073709551616 / 18446744073709551616 ^ i % 18446744073709551616 = _
      rw [show (x + 18446744073709551616 * Wt.val l) / 18446744073709551616 = Wt.val l from by omega]

theorem word_of (n i : Nat) : nth (Wt.dg n) i = n / 18446744073709551616 ^ i % 18446744073709551616 := by
  rw [← word_at (Wt.dg_lt n) i, Wt.val_dg]

theorem digit_math (n q r : Nat) (hr : r < 16) : nth (Wt.dg n) q / 2 ^ (4 * r) % 16 = n / 16 ^ (16 * q + r) % 16 := by
  rw [word_of, Nat.pow_add, ← Nat.div_div_eq_div_mul, Nat.pow_mul 16 16 q, show (16 : Nat) ^ 16 = 18446744073709551616 from by decide, Nat.pow_mul 2 4 r]
  show _ / 16 ^ r % 16 = _ / 16 ^ r % 16
  generalize n / 18446744073709551616 ^ q = m
  have e : (18446744073709551616 : Nat) = 16 ^ r * 16 ^ (16 - r) := by rw [← Nat.pow_add, show r + (16 - r) = 16 from by omega]
  rw [e, Nat.mod_mul_right_div_self, Nat.mod_mod_of_dvd]
  exact ⟨16 ^ (15 - r), by rw [show 16 - r = (15 - r) + 1 from by omega, Nat.pow_succ, Nat.mul_comm]⟩

theorem and15_spell (x k : Nat) (hx : x < 18446744073709551616) : Go.bits BinOp.and IntKind.u64 ((x : Int) / 2 ^ k) 15 = ((x / 2 ^ k % 16 : Nat) : Int) := by
  rw [show ((x : Int) / 2 ^ k) = ((x / 2 ^ k : Nat) : Int) by simp, show (15 : Int) = ((15 : Nat) : Int) from rfl, u64_and_nat _ _ (Nat.lt_of_le_of_lt (Nat.div_le_self _ _) hx) (by decide), show (15 : Nat) = 2 ^ 4 - 1 from rfl, Nat.and_two_pow_sub_one_eq_mod]

set_option maxHeartbeats 400000 in
theorem natdigit_any (u : Value) (n i : Nat) (w : World) (hi : i ≤ 9223372036854775807) (hU : IsNat w u n) :
    Calls Try.prog 49 #[u, .int .i64 i] w fun e w' => e = .returned (U64 (n / 16 ^ i % 16)) ∧ Below w.heap.size w w' := by
  obtain ⟨q, hq⟩ : ∃ q : Nat, q = i / 16 := ⟨_, rfl⟩
  obtain ⟨r, hr⟩ : ∃ r : Nat, r = i % 16 := ⟨_, rfl⟩
  have HD := Lib.hid (show nth (Wt.dg n) q / 2 ^ (4 * r) % 16 = n / 16 ^ i % 16 by
    rw [digit_math n q r (by omega), show 16 * q + r = i from by omega])
  have hqI : (i : Int) / 16 = (q : Int) := by omega
  have hrI : (i : Int) % 16 = (r : Int) := by omega
  have hr16 : r < 16 := by omega
  have HL := Lib.hid (nth_ltW (Wt.dg_lt n) q)
  have HU := Lib.hid hU
  obtain ⟨a, c, rfl, hw, hl, ha⟩ := hU.shape
  have HB := Lib.hid (blocks1 w #[.slice a (Wt.dg n).length c] 47).1
  clear hq hr hU hw ha
  go_enter Try.func49, Try.ntmps49
  go_wp2_with fail
  refine (word_any _ n q _ (HU.out.go HB.out)).mono ?_
  rintro e w2 ⟨rfl, hb⟩
  have B2 := HB.out.trans (hb.mono HB.out.size)
  have HX := Lib.hid (and15_spell (nth (Wt.dg n) q) (4 * r) HL.out)
  have hl0 := HL.out
  generalize nth (Wt.dg n) q = x at *
  clear hb
  go_wp2_with fail
  go_ret
  exact ⟨ret_u64 (by rw [HX.out, HD.out]), B2⟩

/-- How many bits a number has. -/
def bitsN (n : Nat) : Nat := if (Wt.dg n).length = 0 then 0 else 64 * ((Wt.dg n).length - 1) + Lib.bitLen (nth (Wt.dg n) ((Wt.dg n).length - 1))
def partsN (n k : Nat) : Nat := (bitsN n + k - 1) / k

theorem top_split {n m : Nat} (hm : (Wt.dg n).length = m + 1) : n = Wt.low (Wt.dg n) m + 18446744073709551616 ^ m * nth (Wt.dg n) m ∧ nth (Wt.dg n) m ≠ 0 := by
  have h := Wt.low_succ (Wt.dg n) m
  rw [Wt.low_all (show (Wt.dg n).length ≤ m + 1 by omega), Wt.val_dg] at h
  refine ⟨h, ?_⟩
  rcases Wt.dg_tidy n with h1 | h1
  · rw [h1] at hm; simp at hm
  · rw [hm] at h1; exact h1

theorem bits_bounds (n : Nat) : n < 2 ^ bitsN n ∧ (n ≠ 0 → 2 ^ (bitsN n - 1) ≤ n ∧ 1 ≤ bitsN n) := by
  by_cases h0 : (Wt.dg n).length = 0
  · have : n = 0 := Wt.dg_nil (List.length_eq_zero_iff.1 h0)
    subst this
    exact ⟨by unfold bitsN; rw [if_pos h0]; decide, fun h => absurd rfl h⟩
  · obtain ⟨m, hm⟩ : ∃ m, (Wt.dg n).length = m + 1 := ⟨(Wt.dg n).length - 1, by omega⟩
    obtain ⟨hs, ht⟩ := top_split hm
    have hlt := nth_ltW (Wt.dg_lt n) m
    have hlow := Wt.low_lt (Wt.dg_lt n) m
    have hb : bitsN n = 64 * m + Lib.bitLen (nth (Wt.dg n) m) := by unfold bitsN; rw [if_neg h0, hm, Nat.add_sub_cancel]
    obtain ⟨b1, b2, b3⟩ := Lib.bitLenAux_bounds 64 (nth (Wt.dg n) m) hlt ht
    have hb' : Lib.bitLenAux 64 (nth (Wt.dg n) m) = Lib.bitLen (nth (Wt.dg n) m) := rfl
    rw [hb'] at b1 b2 b3
    have e : (18446744073709551616 : Nat) ^ m = 2 ^ (64 * m) := by rw [Nat.pow_mul]
    rw [e] at hs hlow
    rw [hb]
    generalize nth (Wt.dg n) m = t at *
    generalize Wt.low (Wt.dg n) m = L at *
    generalize Lib.bitLen t = b at *
    refine ⟨?_, fun _ => ⟨?_, by omega⟩⟩
    · rw [Nat.pow_add]
      have := Nat.mul_le_mul_left (2 ^ (64 * m)) (show t + 1 ≤ 2 ^ b from b3)
      rw [Nat.mul_add] at this
      omega
    · rw [show 64 * m + b - 1 = 64 * m + (b - 1) from by omega, Nat.pow_add]
      have := Nat.mul_le_mul_left (2 ^ (64 * m)) b2
      omega

theorem parts_bounds (n k : Nat) (hk : 0 < k) : n < (2 ^ k) ^ partsN n k ∧ (n ≠ 0 → (2 ^ k) ^ (partsN n k - 1) ≤ n ∧ 1 ≤ partsN n k) := by
  obtain ⟨h1, h2⟩ := bits_bounds n
  have hd := Nat.div_add_mod (bitsN n + k - 1) k
  have hm := Nat.mod_lt (bitsN n + k - 1) hk
  have e : partsN n k = (bitsN n + k - 1) / k := rfl
  rw [← e] at hd
  refine ⟨?_, fun h0 => ?_⟩
  · rw [← Nat.pow_mul]
    exact Nat.lt_of_lt_of_le h1 (Nat.pow_le_pow_right (by decide) (by omega))
  · obtain ⟨h3, h4⟩ := h2 h0
    have hp : 1 ≤ partsN n k := by rw [e]; exact (Nat.le_div_iff_mul_le hk).2 (by omega)
    refine ⟨?_, hp⟩
    rw [← Nat.pow_mul]
    refine Nat.le_trans (Nat.pow_le_pow_right (by decide) ?_) h3
    rw [Nat.mul_sub]
    omega

theorem parts_zero (k : Nat) (hk : 0 < k) : partsN 0 k = 0 := by
  unfold partsN
  rw [show bitsN 0 = 0 from by unfold bitsN; rw [Wt.dg_zero]; rfl, Nat.zero_add]
  exact Nat.div_eq_of_lt (by omega)

/-- The length in bytes. -/
theorem parts_bytes (n : Nat) : partsN n 8 = (Nt.dg n).length := by
  obtain ⟨h1, h2⟩ := parts_bounds n 8 (by decide)
  have h3 : (Nt.dg n).length ≤ partsN n 8 := Nt.dg_length_le h1
  by_cases h0 : n = 0
  · subst h0; rw [parts_zero 8 (by decide), Nt.dg_zero]; rfl
  · obtain ⟨h4, h5⟩ := h2 h0
    have := Nt.dg_length_lt (n := n) (k := partsN n 8 - 1) h4
    omega

set_option maxHeartbeats 1000000 in
theorem parts_any (u : Value) (n k : Nat) (w : World) (hk : k = 4 ∨ k = 8) (hm : (Wt.dg n).length ≤ 100000) (hU : IsNat w u n) :
    Calls Try.prog 48 #[u, .int .i64 k] w fun e w' => e = .returned (.int .i64 (partsN n k)) ∧ Below w.heap.size w w' := by
  obtain ⟨a, c, rfl, hw, hl, ha⟩ := hU.shape
  have HW := Lib.hid hw
  have HL := Lib.hid (nth_ltW hw.lt ((Wt.dg n).length - 1))
  have HP := Lib.hid (show partsN n k = (bitsN n + k - 1) / k from rfl)
  have HB0 := Lib.hid (show (Wt.dg n).length = 0 → bitsN n = 0 from fun h => by unfold bitsN; rw [if_pos h])
  have HB1 := Lib.hid (show (Wt.dg n).length ≠ 0 → bitsN n = 64 * ((Wt.dg n).length - 1) + Lib.bitLen (nth (Wt.dg n) ((Wt.dg n).length - 1)) from fun h => by unfold bitsN; rw [if_neg h])
  clear hw hU
  generalize Wt.dg n = l at *
  by_cases h0 : l.length = 0
  · have h0b : ((l.length : Int) == 0) = true := by rw [beq_iff_eq]; omega
    have HR := Lib.hid (show partsN n k = 0 by rw [HP.out, HB0.out h0, Nat.zero_add]; exact Nat.div_eq_of_lt (by omega))
    clear ha h0 hk
    go_enter Try.func48, Try.ntmps48
    go_wp2_with fail
    go_ret
    exact ⟨by rw [HR.out]; rfl, (Below.refl _ _).alloc (Nat.le_refl _) _⟩
  · have h0b : ((l.length : Int) == 0) = false := by rw [beq_eq_false_iff_ne]; omega
    obtain ⟨b, off, rfl⟩ := ha h0
    obtain ⟨m, hmm⟩ : ∃ m : Nat, m = l.length - 1 := ⟨_, rfl⟩
    have hmI : (l.length : Int) - 1 = (m : Int) := by omega
    have hml : m < l.length := by omega
    have hBB := HB1.out h0
    rw [← hmm] at hBB HL
    have hcell := HW.out.cell m hml
    have hbl : b < w.heap.size := World.block_lt_of_cell? w _ hcell
    have hx := HL.out
    have HLN := Lib.hid (fun w => len64_any (nth l m : Int) w (by omega) (by omega))
    have hle : Lib.bitLen (nth l m) ≤ 64 := Lib.bitLen_le _ 64 (by omega) hx
    rw [show ((nth l m : Nat) : Int).toNat = nth l m from rfl] at HLN
    generalize nth l m = x at *
    generalize Lib.bitLen x = y at *
    have HR := Lib.hid (show ((64 * (m : Int) + y + k - 1) / k) = (partsN n k : Int) by rw [HP.out, hBB]; rcases hk with rfl | rfl <;> omega)
    have hk0 : (k : Int) ≠ 0 := by omega
    have hk1 : (k : Int) ≤ 8 := by omega
    have hk2 : 0 < (k : Int) := by omega
    clear ha h0 hk HP hBB HB0 HB1 hmm
    go_enter Try.func48, Try.ntmps48
    go_wp2_with fail
    refine (HLN.out _).mono ?_
    rintro e w' ⟨rfl, rfl⟩
    go_wp2_with fail
    go_ret
    exact ⟨ret_i64 HR.out, (Below.refl _ _).alloc (Nat.le_refl _) _⟩

set_option maxHeartbeats 400000 in
theorem natlen_any (u : Value) (n : Nat) (w : World) (hm : (Wt.dg n).length ≤ 100000) (hU : IsNat w u n) :
    Calls Try.prog 32 #[u] w fun e w' => e = .returned (.int .i64 ((Nt.dg n).length : Int)) ∧ Below w.heap.size w w' := by
  have HP := Lib.hid (parts_bytes n)
  have HM := Lib.hid hm
  have HU := Lib.hid hU
  obtain ⟨a, c, rfl, hw, hl, ha⟩ := hU.shape
  have HB := Lib.hid (blocks1 w #[.slice a (Wt.dg n).length c] 47).1
  clear hU hw ha hm
  go_enter Try.func32, Try.ntmps32
  go_wp2_with fail
  refine (parts_any _ n 8 _ (.inr rfl) HM.out (HU.out.go HB.out)).mono ?_
  rintro e w2 ⟨rfl, hb⟩
  have B2 := HB.out.trans (hb.mono HB.out.size)
  rw [HP.out]
  clear hb
  go_wp2_with fail
  go_ret
  exact ⟨rfl, B2⟩

end Go.Proofs.Ytobhlfkmdhoncaa
