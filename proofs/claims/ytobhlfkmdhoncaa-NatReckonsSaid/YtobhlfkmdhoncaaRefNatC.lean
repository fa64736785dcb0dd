/-
  The document's answer for numbers (wellspringref06), in the program: 'Cmp'.
-/
import Derived.Test.YtobhlfkmdhoncaaRefNat
import Derived.BigQuiet
set_option maxRecDepth 100000
namespace Go.Proofs.Ytobhlfkmdhoncaa
open Go.RowKit

set_option maxHeartbeats 400000 in
theorem refcmp_unlike (pa pb : Option Addr) (ca cb : Nat) (a b : List Nat) (w : World) (ha : ∀ x, x ∈ a → x < 256) (hb : ∀ x, x ∈ b → x < 256) (ta : Nt.Tidy a) (tb : Nt.Tidy b) (hl : a.length ≠ b.length) :
    Calls Try.prog 35 #[.slice pa a.length ca, .slice pb b.length cb] w fun e w' => e = .returned (.int .i64 (Nt.cmp (Nt.val a) (Nt.val b))) ∧ Below w.heap.size w w' := by
  have hb1 : ((a.length : Int) != (b.length : Int)) = true := by rw [bne_iff_ne]; omega
  rcases Nat.lt_or_gt_of_ne hl with h | h
  · have HC := Lib.hid (Nt.cmp_lt (Nt.lt_of_shorter ha tb h))
    clear hl
    go_enter Try.func35, Try.ntmps35
    go_wp2_with fail
    go_ret
    exact ⟨by rw [HC.out]; rfl, Below.refl _ _⟩
  · have HC := Lib.hid (Nt.cmp_gt (Nt.lt_of_shorter hb ta h))
    clear hl
    go_enter Try.func35, Try.ntmps35
    go_wp2_with fail
    go_ret
    exact ⟨by rw [HC.out]; rfl, Below.refl _ _⟩

set_option maxHeartbeats 400000 in
theorem refcmp_none (pa pb : Option Addr) (ca cb : Nat) (w : World) :
    Calls Try.prog 35 #[.slice pa 0 ca, .slice pb 0 cb] w fun e w' => e = .returned (.int .i64 0) ∧ Below w.heap.size w w' := by
  go_enter Try.func35, Try.ntmps35
  go_wp2_with fail
  refine wp_loop_rounds 1 ?_
  rw [rounds_succ]
  go_wp2_with fail
  go_ret
  exact ⟨rfl, Below.refl _ _⟩

set_option maxHeartbeats 1000000 in
theorem refcmp_like (b0 off0 c0 b1 off1 c1 : Nat) (x y : List Nat) (w : World) (hx : Bytes w (.slice (some ⟨b0, off0, none⟩) x.length c0) x) (hy : Bytes w (.slice (some ⟨b1, off1, none⟩) y.length c1) y) (hl : x.length = y.length) :
    Calls Try.prog 35 #[.slice (some ⟨b0, off0, none⟩) x.length c0, .slice (some ⟨b1, off1, none⟩) y.length c1] w fun e w' => e = .returned (.int .i64 (Nt.cmp (Nt.val x) (Nt.val y))) ∧ Below w.heap.size w w' := by
  have hb : ((x.length : Int) != (y.length : Int)) = false := by rw [hl]; simp
  have hcap : x.length ≤ 9223372036854775807 := by obtain ⟨_, _, _, h1, h2, _⟩ := hx; omega
  obtain ⟨t, ht⟩ : ∃ t, t = Nt.cmp (Nt.val x) (Nt.val y) := ⟨_, rfl⟩
  rw [← ht]
  have HT := Lib.hid ht
  have HX := Lib.hid hx
  have HY := Lib.hid hy
  have HSTART := Lib.hid (Nt.cmp_start hl)
  have hle : x.length ≤ y.length := by omega
  clear hx hy hl ht
  go_enter Try.func35, Try.ntmps35
  go_wp2_with fail
  go_loopw [5] (fun i wr => ∃ k : Nat, k ≤ x.length ∧ i = .int .i64 ((k : Int) - 1) ∧ Nt.val x + Nt.low y k = Nt.val y + Nt.low x k ∧ Below w.heap.size w wr) (fun i _ => (intOf i + 1).toNat)
  case atStart => exact ⟨x.length, by omega, by go_num, HSTART.out, Below.refl _ _⟩
  case round =>
    obtain ⟨k, hk, rfl, hval, hbel⟩ := hrel
    have HV := Lib.hid hval
    clear hval
    by_cases hk0 : k = 0
    · subst hk0
      have HC := Lib.hid (Nt.cmp_eq (Nt.eq_end HV.out))
      go_wp2_with fail
      go_ret
      exact ⟨by rw [HT.out, HC.out]; rfl, hbel⟩
    · obtain ⟨i, hi⟩ : ∃ i, i = k - 1 := ⟨_, rfl⟩
      have hkI : (k : Int) - 1 = (i : Int) := by omega
      have hki : k = i + 1 := by omega
      rw [hkI]
      rw [hki] at HV
      have hix : i < x.length := by omega
      have hcx := (HX.out.below (Nat.le_refl _) hbel).cell i hix
      have hcy := (HY.out.below (Nat.le_refl _) hbel).cell i (by omega)
      have k0 : (0 : Int) ≤ (i : Int) := Int.natCast_nonneg _
      have k1 : (i : Int) < (x.length : Int) := by omega
      have k2 : (i : Int) < (y.length : Int) := by omega
      have HL1 := Lib.hid (fun h => Nt.cmp_lt (Nt.lt_at (i := i) HX.out.lt HV.out h))
      have HL2 := Lib.hid (fun h => Nt.cmp_gt (Nt.lt_at (i := i) HY.out.lt HV.out.symm h))
      have HL3 := Lib.hid (fun h => Nt.eq_at (i := i) HV.out h)
      obtain ⟨p, hp⟩ : ∃ p, p = nth x i := ⟨_, rfl⟩
      obtain ⟨q, hq⟩ : ∃ q, q = nth y i := ⟨_, rfl⟩
      rw [← hp, ← hq] at HL1 HL2 HL3
      rw [← hp] at hcx
      rw [← hq] at hcy
      have HKK := Lib.hid hki
      clear hp hq hkI hki hi hk0
      rcases Nat.lt_trichotomy p q with h | h | h
      · have HC := Lib.hid (HL1.out h)
        have d1 : p < q := h
        go_wp2_with fail
        go_quiet (fail)
        go_wp2_with fail
        go_ret
        exact ⟨by rw [HT.out, HC.out]; rfl, below_drewN hbel _⟩
      · have HC := Lib.hid (HL3.out h)
        have d1 : ¬ p < q := by omega
        have d2 : ¬ q < p := by omega
        clear h
        go_wp2_with fail
        go_quiet (fail)
        go_wp2_with fail
        go_quiet (fail)
        go_wp2_with fail
        have hh := HKK.out
        refine ⟨⟨i, by omega, by go_num, HC.out, below_drewN hbel _⟩, by simp [intOf]⟩
      · have HC := Lib.hid (HL2.out h)
        have d1 : ¬ p < q := by omega
        have d2 : q < p := h
        go_wp2_with fail
        go_quiet (fail)
        go_wp2_with fail
        go_quiet (fail)
        go_wp2_with fail
        go_ret
        exact ⟨by rw [HT.out, HC.out]; rfl, below_drewN (below_drewN hbel _) _⟩

/-- What Cmp answers of tidy bytes. -/
theorem refcmp_any (v0 v1 : Value) (a b : List Nat) (w : World) (h0 : Bytes w v0 a) (h1 : Bytes w v1 b) (ta : Nt.Tidy a) (tb : Nt.Tidy b) :
    Calls Try.prog 35 #[v0, v1] w fun e w' => e = .returned (.int .i64 (Nt.cmp (Nt.val a) (Nt.val b))) ∧ Below w.heap.size w w' := by
  have h0' := h0
  have h1' := h1
  obtain ⟨pa, ca, rfl, _, _, ha, h4⟩ := h0
  obtain ⟨pb, cb, rfl, _, _, hb, h5⟩ := h1
  by_cases hl : a.length = b.length
  · cases a with
    | nil =>
      have hb0 : b = [] := List.eq_nil_of_length_eq_zero hl.symm
      subst hb0
      exact refcmp_none pa pb ca cb w
    | cons x a =>
      cases b with
      | nil => simp at hl
      | cons y b =>
        obtain ⟨b0, off0, rfl, _⟩ := h4 (by simp)
        obtain ⟨b1, off1, rfl, _⟩ := h5 (by simp)
        exact refcmp_like b0 off0 ca b1 off1 cb _ _ w h0' h1' hl
  · exact refcmp_unlike pa pb ca cb a b w ha hb ta tb hl

end Go.Proofs.Ytobhlfkmdhoncaa
