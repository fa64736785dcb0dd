/-
  The program's numbers (layer 6): 'Cmp'.
-/
import Derived.Test.YtobhlfkmdhoncaaNatA
import Derived.BigQuiet
set_option maxRecDepth 100000
namespace Go.Proofs.Ytobhlfkmdhoncaa
open Go.RowKit

set_option maxHeartbeats 2000000 in
theorem natcmp_any (u v : Value) (m n : Nat) (w : World) (hU : IsNat w u m) (hV : IsNat w v n) :
    Calls Try.prog 34 #[u, v] w fun e w' => e = .returned (.int .i64 (Nt.cmp m n)) ∧ Below w.heap.size w w' := by
  obtain ⟨pa, ca, rfl, hx, hl0, ha⟩ := hU.shape
  obtain ⟨pb, cb, rfl, hy, hl1, hb⟩ := hV.shape
  have HX := Lib.hid hx
  have HY := Lib.hid hy
  have HM := Lib.hid (Wt.val_dg m)
  have HN := Lib.hid (Wt.val_dg n)
  have HTX := Lib.hid (Wt.dg_tidy m)
  have HTY := Lib.hid (Wt.dg_tidy n)
  have HT := Lib.hid (show Nt.cmp m n = Nt.cmp m n from rfl)
  obtain ⟨t, ht⟩ : ∃ t, t = Nt.cmp m n := ⟨_, rfl⟩
  replace HT := Lib.hid ht
  rw [← ht]
  clear hx hy hU hV ht
  generalize Wt.dg m = x at *
  generalize Wt.dg n = y at *
  by_cases hl : x.length = y.length
  · have hlb : ((x.length : Int) != (y.length : Int)) = false := by rw [hl]; simp
    have HSTART := Lib.hid (Wt.cmp_start hl)
    have hle : x.length ≤ y.length := by omega
    have HPA := Lib.hid ha
    have HPB := Lib.hid hb
    have HL := Lib.hid hl
    clear hl ha hb
    go_enter Try.func34, Try.ntmps34
    go_wp2_with fail
    obtain ⟨B, hk1, hk2, hs⟩ := blocks2 w #[.slice pa x.length ca] 47 #[.slice pb y.length cb] 47
    generalize ((w.alloc (.cells #[.slice pa x.length ca] 47)).alloc (.cells #[.slice pb y.length cb] 47)) = W at *
    have K1 := Lib.hid hk1
    have K2 := Lib.hid hk2
    have HS := Lib.hid hs
    clear hs hk1 hk2
    replace HX := Lib.hid (HX.out.go B)
    replace HY := Lib.hid (HY.out.go B)
    have hzW := B.size
    go_loopw [5, 6, 24] (fun _ _ i wr => ∃ k : Nat, k ≤ x.length ∧ i = .int .i64 k ∧ Wt.val x + Wt.low y (x.length - k) = Wt.val y + Wt.low x (x.length - k) ∧ Below W.heap.size W wr) (fun _ _ i _ => x.length - (intOf i).toNat)
    case atStart => exact ⟨0, by omega, by go_num, HSTART.out, Below.refl _ _⟩
    case round =>
      obtain ⟨k, hk, rfl, hval, hbel⟩ := hrel
      have HV := Lib.hid hval
      have hz := hbel.size
      clear hval
      obtain ⟨k10, k11⟩ : wr.cell? ⟨w.heap.size, 0, none⟩ = some (.slice pa x.length ca) ∧ wr.cell? ⟨w.heap.size + 1, 0, none⟩ = some (.slice pb y.length cb) := ⟨(K1.out.go hbel).cell 0, (K2.out.go hbel).cell 0⟩
      by_cases hk0 : k < x.length
      · obtain ⟨i, hi⟩ : ∃ i, i = x.length - 1 - k := ⟨_, rfl⟩
        have hkI : (x.length : Int) - 1 - (k : Int) = (i : Int) := by omega
        have hki : x.length - k = i + 1 := by omega
        rw [hki] at HV
        have hix : i < x.length := by omega
        obtain ⟨b0, off0, rfl⟩ := HPA.out (by omega)
        obtain ⟨b1, off1, rfl⟩ := HPB.out (by omega)
        have hcx := (HX.out.below (Nat.le_refl _) hbel).cell i hix
        have hcy := (HY.out.below (Nat.le_refl _) hbel).cell i (by omega)
        have i0 : (0 : Int) ≤ (i : Int) := Int.natCast_nonneg _
        have i1 : (i : Int) < (x.length : Int) := by omega
        have i2 : (i : Int) < (y.length : Int) := by omega
        have HL1 := Lib.hid (fun h => Nt.cmp_lt (m := m) (n := n) (by have := Wt.lt_at (i := i) HX.out.lt HV.out h; rw [HM.out, HN.out] at this; exact this))
        have HL2 := Lib.hid (fun h => Nt.cmp_gt (m := m) (n := n) (by have := Wt.lt_at (i := i) HY.out.lt HV.out.symm h; rw [HM.out, HN.out] at this; exact this))
        have HL3 := Lib.hid (fun h => Wt.eq_at (i := i) HV.out h)
        have hxl := nth_ltW HX.out.lt i
        have hyl := nth_ltW HY.out.lt i
        obtain ⟨p, hp⟩ : ∃ p, p = nth x i := ⟨_, rfl⟩
        obtain ⟨q, hq⟩ : ∃ q, q = nth y i := ⟨_, rfl⟩
        rw [← hp, ← hq] at HL1 HL2 HL3
        rw [← hp] at hcx hxl
        rw [← hq] at hcy hyl
        have HKK := Lib.hid (show x.length - (k + 1) = i by omega)
        have HKL := Lib.hid hk0
        have HBL := Lib.hid (show Below w.heap.size w wr from B.trans (hbel.mono B.size))
        clear hp hq hki hi
        rcases Nat.lt_trichotomy p q with h | h | h
        · have HC := Lib.hid (show Nt.cmp p q = t by rw [Nt.cmp_lt h, HT.out, HL1.out h])
          have d1 : ((p : Int) != (q : Int)) = true := by rw [bne_iff_ne]; omega
          clear h
          go_wp2_with fail
          go_quiet (fail)
          go_wp2_with fail
          go_quiet ((go_at_call 51; exact (cmpu64_any p q _).mono fun _ _ ⟨he, hw⟩ => ⟨he, _, hw.symm⟩))
          rw [HC.out]
          go_wp2_with fail
          go_ret
          exact ⟨rfl, below_drewN (below_drewN HBL.out _) _⟩
        · have HC := Lib.hid (HL3.out h)
          have d1 : ((p : Int) != (q : Int)) = false := by rw [bne_eq_false_iff_eq]; omega
          clear h
          go_wp2_with fail
          go_quiet (fail)
          go_wp2_with fail
          have h9 := HKL.out
          refine ⟨⟨k + 1, h9, by go_num, by rw [HKK.out]; exact HC.out, below_drewN hbel _⟩, by simp [intOf]; omega⟩
        · have HC := Lib.hid (show Nt.cmp p q = t by rw [Nt.cmp_gt h, HT.out, HL2.out h])
          have d1 : ((p : Int) != (q : Int)) = true := by rw [bne_iff_ne]; omega
          clear h
          go_wp2_with fail
          go_quiet (fail)
          go_wp2_with fail
          go_quiet ((go_at_call 51; exact (cmpu64_any p q _).mono fun _ _ ⟨he, hw⟩ => ⟨he, _, hw.symm⟩))
          rw [HC.out]
          go_wp2_with fail
          go_ret
          exact ⟨rfl, below_drewN (below_drewN HBL.out _) _⟩
      · obtain rfl : k = x.length := by omega
        rw [Nat.sub_self] at HV
        have HC := Lib.hid (show t = 0 by
          have h := Wt.eq_end HV.out
          rw [HM.out, HN.out] at h
          rw [HT.out, Nt.cmp_eq h])
        have HBL := Lib.hid (show Below w.heap.size w wr from B.trans (hbel.mono B.size))
        go_wp2_with fail
        go_ret
        exact ⟨by rw [HC.out]; rfl, HBL.out⟩
  · have hlb : ((x.length : Int) != (y.length : Int)) = true := by rw [bne_iff_ne]; omega
    have HC := Lib.hid (show Nt.cmp x.length y.length = t by
      rcases Nat.lt_or_gt_of_ne hl with h | h
      · have h1 := Wt.lt_of_shorter HX.out.lt HTY.out h
        rw [HM.out, HN.out] at h1
        rw [HT.out, Nt.cmp_lt h, Nt.cmp_lt h1]
      · have h1 := Wt.lt_of_shorter HY.out.lt HTX.out h
        rw [HM.out, HN.out] at h1
        rw [HT.out, Nt.cmp_gt h, Nt.cmp_gt h1])
    clear hl ha hb
    go_enter Try.func34, Try.ntmps34
    go_wp2_with fail
    obtain ⟨B, hk1, hk2, hs⟩ := blocks2 w #[.slice pa x.length ca] 47 #[.slice pb y.length cb] 47
    generalize ((w.alloc (.cells #[.slice pa x.length ca] 47)).alloc (.cells #[.slice pb y.length cb] 47)) = W at *
    have K1 := Lib.hid hk1
    have K2 := Lib.hid hk2
    have HS := Lib.hid hs
    clear hs hk1 hk2
    replace HX := Lib.hid (HX.out.go B)
    replace HY := Lib.hid (HY.out.go B)
    have hzW := B.size
    refine (cmpint_any _ _ _).mono ?_
    rintro e w' ⟨rfl, rfl⟩
    rw [HC.out]
    go_wp2_with fail
    go_ret
    exact ⟨rfl, B⟩

end Go.Proofs.Ytobhlfkmdhoncaa
