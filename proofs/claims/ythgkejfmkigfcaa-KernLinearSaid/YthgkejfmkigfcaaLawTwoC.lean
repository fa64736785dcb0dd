/-
  The statements of layer 2 (kern), walked: KernReckons.
-/
import Derived.Test.YthgkejfmkigfcaaLawTwo
set_option maxRecDepth 100000
namespace Go.Proofs.Ythgkejfmkigfcaa
open Go.RowKit

/-- As many ones. -/
def ones (n : Nat) : List Nat := List.replicate n 1

theorem ones_length (n : Nat) : (ones n).length = n := by simp [ones]
theorem ones_lt (n : Nat) : ∀ x, x ∈ ones n → x < 256 := by
  intro x hx
  have := List.eq_of_mem_replicate hx
  omega
theorem nth_ones (n k : Nat) (h : k < n) : nth (ones n) k = 1 := by
  rw [nth_eq _ _ (by rw [ones_length]; exact h)]; simp [ones]

theorem scale_one {l : List Nat} (h : ∀ x, x ∈ l → x < 256) : Gf.scale 1 l = l := by
  refine ext_nth (Gf.scale_length 1 l) fun j hj => ?_
  rw [Gf.scale_length] at hj
  rw [nth_scale 1 l j hj, Gf.one_mul (nth_lt h j)]

theorem combK_ones {ll : List (List Nat)} (hl : ∀ k, k < ll.length → ∀ x, x ∈ rowAt ll k → x < 256) : ∀ k, k ≤ ll.length → combK (ones ll.length) ll k = sumK ll k
  | 0, _ => rfl
  | k + 1, hk => by
    show Gf.add (combK (ones ll.length) ll k) (Gf.scale (nth (ones ll.length) k) (rowAt ll k)) = Gf.add (sumK ll k) (rowAt ll k)
    rw [combK_ones hl k (by omega), nth_ones _ _ (by omega), scale_one (hl k (by omega))]

theorem comb_ones_L {ll : List (List Nat)} (hl : ∀ k, k < ll.length → ∀ x, x ∈ rowAt ll k → x < 256) : combL (ones ll.length) ll = sumL ll := by
  unfold combL sumL
  rw [ones_length, combK_ones hl _ (Nat.le_refl _)]
  simp
theorem comb_ones_E (ll : List (List Nat)) : combE (ones ll.length) ll = sumE ll := by
  unfold combE sumE
  rw [ones_length]; simp

/-- So many ones are laid, the rest is noughts. -/
def someOnes (n k : Nat) : List Nat := part (ones k) n
theorem someOnes_length (n k : Nat) (h : k ≤ n) : (someOnes n k).length = n := part_length _ _ (by rw [ones_length]; exact h)
theorem someOnes_set (n k : Nat) (h : k < n) : (someOnes n k).set k 1 = someOnes n (k + 1) := by
  have e := part_set (ones k) n 1 (by rw [ones_length]; exact h)
  rw [ones_length] at e
  unfold someOnes
  rw [e, show ones k ++ [1] = ones (k + 1) from by simp [ones, List.replicate_succ']]
theorem someOnes_all (n : Nat) : someOnes n n = ones n := part_all _ _ (ones_length n)
theorem someOnes_zero (n : Nat) : someOnes n 0 = List.replicate n 0 := by simp [someOnes, part, ones]

theorem few_rows {ll : List (List Nat)} (h : fewB ll = true) : ll.length ≤ 40 ∧ (rowAt ll 0).length ≤ 100 := by
  unfold fewB at h
  rw [Bool.and_eq_true, List.all_eq_true, decide_eq_true_eq] at h
  refine ⟨h.2, ?_⟩
  cases ll with
  | nil => simp [rowAt]
  | cons x ll => simpa [rowAt] using h.1 x (by simp)

set_option maxHeartbeats 400000 in
theorem kernReckons_out (c : Nat) (a0 a1 : Option Addr) (n0 n1 c0 c1 : Nat) (ll : List (List Nat)) (w : World) (h : fewB ll = false ∨ (fewB ll = true ∧ 100 < n0)) (h0 : n0 ≤ 9223372036854775807) (hR : IsRows w (.slice a1 n1 c1) ll) :
    Calls Try.prog 7 #[U8 c, .slice a0 n0 c0, .slice a1 n1 c1] w fun e w' => e = .returned (.bool true) ∧ Below w.heap.size w w' := by
  have HR := Lib.hid hR
  clear hR
  rcases h with hf | ⟨hf, hn⟩
  · have HF := Lib.hid hf
    clear hf
    go_enter Try.func7, Try.ntmps7
    go_wp2_with fail
    refine (awake2_any _).mono ?_
    rintro e w1 ⟨rfl, hb1⟩
    go_wp2_with fail
    refine (few_any _ ll _ (HR.out.below (Nat.le_refl _) hb1)).mono ?_
    rintro e w2 ⟨rfl, rfl⟩
    rw [HF.out]
    go_wp2_with fail
    go_ret
    exact ⟨rfl, hb1⟩
  · have HF := Lib.hid hf
    clear hf
    go_enter Try.func7, Try.ntmps7
    go_wp2_with fail
    refine (awake2_any _).mono ?_
    rintro e w1 ⟨rfl, hb1⟩
    go_wp2_with fail
    refine (few_any _ ll _ (HR.out.below (Nat.le_refl _) hb1)).mono ?_
    rintro e w2 ⟨rfl, rfl⟩
    rw [HF.out]
    go_wp2_with fail
    go_ret
    exact ⟨rfl, hb1⟩

set_option maxHeartbeats 2000000 in
theorem kernReckons_some (c : Nat) (a0 a1 : Option Addr) (c0 c1 : Nat) (cs : List Nat) (ll : List (List Nat)) (w : World) (hc : c < 256) (h0 : cs.length ≤ 100) (hf : fewB ll = true) (hC : Bytes w (.slice a0 cs.length c0) cs) (hR : IsRows w (.slice a1 ll.length c1) ll) :
    Calls Try.prog 7 #[U8 c, .slice a0 cs.length c0, .slice a1 ll.length c1] w fun e w' => e = .returned (.bool true) ∧ Below w.heap.size w w' := by
  obtain ⟨hn, hm⟩ := few_rows hf
  have HF := Lib.hid hf
  have HR := Lib.hid hR
  have HC := Lib.hid hC
  have HOL := Lib.hid (comb_ones_L hR.all_lt)
  have HOE := Lib.hid (comb_ones_E ll)
  have hmk := make_bytes ll.length (by omega)
  clear hf hR hC
  go_enter Try.func7, Try.ntmps7
  go_wp2_with fail
  refine (awake2_any _).mono ?_
  rintro e w1 ⟨rfl, hb1⟩
  go_wp2_with fail
  refine (few_any _ ll _ (HR.out.below (Nat.le_refl _) hb1)).mono ?_
  rintro e w2 ⟨rfl, rfl⟩
  rw [HF.out]
  go_wp2_with fail
  clear hmk
  have hz1 := hb1.size
  go_loopw [8, 32] (fun _ i wr => ∃ k : Nat, k ≤ ll.length ∧ i = .int .i64 k ∧ Own wr w1.heap.size (someOnes ll.length k) ∧ Below w1.heap.size w1 wr) (fun _ i _ => ll.length - (intOf i).toNat)
  case atStart => exact ⟨0, by omega, rfl, by rw [someOnes_zero]; exact Own.new w1 _, (Below.refl _ _).alloc (Nat.le_refl _) _⟩
  case round =>
    obtain ⟨k, hk, rfl, hown, hbel⟩ := hrel
    have HO := Lib.hid hown
    clear hown
    by_cases hlt : k < ll.length
    · have hcell := HO.out.cell k (by rw [someOnes_length _ _ hk]; exact hlt)
      have hfr := HO.out.free k
      go_wp2_with fail
      refine ⟨⟨k + 1, by omega, by go_num, ?_, hbel.setCell (Nat.le_refl _) _⟩, by simp [intOf]; omega⟩
      have h := HO.out.set k 1
      rw [someOnes_set _ _ hlt] at h
      exact h
    · obtain rfl : k = ll.length := by omega
      have hO := HO.out
      rw [someOnes_all] at hO
      have HB1 := hO.bytes (ones_lt _) (by rw [ones_length]; omega)
      rw [ones_length] at HB1
      have HO3 := Lib.hid HB1
      obtain ⟨w3, hw3⟩ : ∃ w3 : World, w3 = wr := ⟨_, rfl⟩
      subst hw3
      have B3 := hb1.trans (hbel.mono hz1)
      have hz3 := B3.size
      have HC3 := Lib.hid (HC.out.below (Nat.le_refl _) B3)
      have HR3 := Lib.hid (HR.out.below (Nat.le_refl _) B3)
      clear HB1 hO HO
      go_wp2_with fail
      refine (comb_b _ _ _ _ _ (by omega) HC3.out HR3.out).mono ?_
      rintro e w4 ⟨v4, rfl, hv4, hb4⟩
      have B4 := B3.trans (hb4.mono hz3)
      have hz4 := B4.size
      have HC4 := Lib.hid (HC3.out.below (Nat.le_refl _) hb4)
      have HR4 := Lib.hid (HR3.out.below (Nat.le_refl _) hb4)
      have HO4 := Lib.hid (HO3.out.below (Nat.le_refl _) hb4)
      have HA4 := Lib.hid hv4
      clear hv4
      go_wp2_with fail
      refine (refcomb_b _ _ _ _ _ (by omega) HC4.out HR4.out).mono ?_
      rintro e w5 ⟨v5, rfl, hv5, hb5⟩
      have B5 := B4.trans (hb5.mono hz4)
      have hz5 := B5.size
      have HC5 := Lib.hid (HC4.out.below (Nat.le_refl _) hb5)
      have HR5 := Lib.hid (HR4.out.below (Nat.le_refl _) hb5)
      have HO5 := Lib.hid (HO4.out.below (Nat.le_refl _) hb5)
      have HA5 := Lib.hid (HA4.out.below (Nat.le_refl _) hb5)
      have HW5 := Lib.hid hv5
      clear hv5
      go_wp2_with fail
      refine (sum_b _ _ _ (by omega) HR5.out).mono ?_
      rintro e w6 ⟨v6, rfl, hv6, hb6⟩
      have B6 := B5.trans (hb6.mono hz5)
      have hz6 := B6.size
      have HC6 := Lib.hid (HC5.out.below (Nat.le_refl _) hb6)
      have HR6 := Lib.hid (HR5.out.below (Nat.le_refl _) hb6)
      have HO6 := Lib.hid (HO5.out.below (Nat.le_refl _) hb6)
      have HA6 := Lib.hid (HA5.out.below (Nat.le_refl _) hb6)
      have HW6 := Lib.hid (HW5.out.below (Nat.le_refl _) hb6)
      have HS6 := Lib.hid hv6
      clear hv6
      go_wp2_with fail
      refine (refcomb_b _ _ _ _ _ (by omega) HO6.out HR6.out).mono ?_
      rintro e w7 ⟨v7, rfl, hv7, hb7⟩
      rw [HOL.out] at hv7
      rw [HOE.out]
      have B7 := B6.trans (hb7.mono hz6)
      have hz7 := B7.size
      have HC7 := Lib.hid (HC6.out.below (Nat.le_refl _) hb7)
      have HA7 := Lib.hid (HA6.out.below (Nat.le_refl _) hb7)
      have HW7 := Lib.hid (HW6.out.below (Nat.le_refl _) hb7)
      have HS7 := Lib.hid (HS6.out.below (Nat.le_refl _) hb7)
      have HT7 := Lib.hid hv7
      clear hv7
      go_wp2_with fail
      refine (same_yes _ _ _ _ HA7.out HW7.out).mono ?_
      rintro e w8 ⟨rfl, hb8⟩
      have B8 := B7.trans (hb8.mono hz7)
      have hz8 := B8.size
      have HC8 := Lib.hid (HC7.out.below (Nat.le_refl _) hb8)
      have HS8 := Lib.hid (HS7.out.below (Nat.le_refl _) hb8)
      have HT8 := Lib.hid (HT7.out.below (Nat.le_refl _) hb8)
      go_wp2_with fail
      refine (same_yes _ _ _ _ HS8.out HT8.out).mono ?_
      rintro e w9 ⟨rfl, hb9⟩
      have B9 := B8.trans (hb9.mono hz8)
      have hz9 := B9.size
      have HC9 := Lib.hid (HC8.out.below (Nat.le_refl _) hb9)
      go_wp2_with fail
      refine (scale_b _ _ _ _ hc (by omega) HC9.out).mono ?_
      rintro e w10 ⟨v10, rfl, hv10, hb10⟩
      have B10 := B9.trans (hb10.mono hz9)
      have hz10 := B10.size
      have HC10 := Lib.hid (HC9.out.below (Nat.le_refl _) hb10)
      have HU10 := Lib.hid hv10
      clear hv10
      go_wp2_with fail
      refine (refscale_b _ _ _ _ hc (by omega) HC10.out).mono ?_
      rintro e w11 ⟨v11, rfl, hv11, hb11⟩
      have B11 := B10.trans (hb11.mono hz10)
      have hz11 := B11.size
      have HC11 := Lib.hid (HC10.out.below (Nat.le_refl _) hb11)
      have HU11 := Lib.hid (HU10.out.below (Nat.le_refl _) hb11)
      have HV11 := Lib.hid hv11
      clear hv11
      go_wp2_with fail
      refine (same_yes _ _ _ _ HU11.out HV11.out).mono ?_
      rintro e w12 ⟨rfl, hb12⟩
      have B12 := B11.trans (hb12.mono hz11)
      have HC12 := Lib.hid (HC11.out.below (Nat.le_refl _) hb12)
      go_wp2_with fail
      refine (zero_any _ _ _ HC12.out).mono ?_
      rintro e w13 ⟨rfl, rfl⟩
      go_wp2_with fail
      refine (refzero_any _ _ _ HC12.out).mono ?_
      rintro e w13 ⟨rfl, rfl⟩
      go_wp2_with fail
      go_ret
      exact ⟨rfl, B12⟩

theorem kernReckons_walk (c : Nat) (v0 : Value) (cs : List Nat) (v1 : Value) (ll : List (List Nat)) (w : World) (hc : c < 256) (hC : Bytes w v0 cs) (hR : IsRows w v1 ll) :
    Calls Try.prog 7 #[U8 c, v0, v1] w fun e w' => e = .returned (.bool true) ∧ Below w.heap.size w w' := by
  have hC0 := hC
  have hR0 := hR
  obtain ⟨a0, c0, rfl, _, _, _, _⟩ := hC
  obtain ⟨a1, c1, rfl, _, _, _⟩ := hR
  by_cases hf : fewB ll = true
  · by_cases h : cs.length ≤ 100
    · exact kernReckons_some c a0 a1 c0 c1 cs ll w hc h hf hC0 hR0
    · exact kernReckons_out c a0 a1 _ _ c0 c1 ll w (Or.inr ⟨hf, by omega⟩) (by omega) hR0
  · exact kernReckons_out c a0 a1 _ _ c0 c1 ll w (Or.inl (by simpa using hf)) (by omega) hR0

end Go.Proofs.Ythgkejfmkigfcaa
