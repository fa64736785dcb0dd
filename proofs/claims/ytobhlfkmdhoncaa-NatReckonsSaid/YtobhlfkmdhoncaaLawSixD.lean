/-
  The laws of numbers (layer 6), walked: NatReckons.
-/
import Derived.Test.YtobhlfkmdhoncaaLawSixB
import Derived.Test.YtobhlfkmdhoncaaRefNatC
import Derived.Test.YtobhlfkmdhoncaaRefNatD
import Derived.Test.YtobhlfkmdhoncaaMonoW
set_option maxRecDepth 100000
namespace Go.Proofs.Ytobhlfkmdhoncaa
open Go.RowKit

theorem is_true (u v : Value) (n : Nat) (l : List Nat) (w : World) (hn : ¬ Great n) (hl : l.length ≤ 100000) (he : n = Nt.val l) (hU : IsNat w u n) (hB : Bytes w v l) :
    Calls Try.prog 31 #[u, v] w fun e w' => e = .returned (.bool true) ∧ Below w.heap.size w w' := by
  have h := is_any u v n l w (words_small hn) hl hU hB
  rw [decide_eq_true he] at h
  exact h

theorem pow_bound {x k : Nat} (h : x < 256 ^ 60) : ∀ j, j ≤ k → x ^ j < 256 ^ (60 * k + 1) := fun j hj => by
  have h1 : x ^ j ≤ (256 ^ 60) ^ j := Nat.pow_le_pow_left (Nat.le_of_lt h) j
  rw [← Nat.pow_mul] at h1
  refine Nat.lt_of_le_of_lt h1 ((Nat.pow_lt_pow_iff_right (by decide)).2 ?_)
  have := Nat.mul_le_mul_left 60 hj
  omega

set_option maxHeartbeats 8000000 in
theorem natreckons_few (v0 v1 : Value) (a b : List Nat) (n : Nat) (w : World) (h0 : a.length ≤ 60) (h1 : b.length ≤ 60) (hn : n < 256) (hA : Bytes w v0 a) (hB : Bytes w v1 b) :
    Calls Try.prog 8 #[v0, v1, U8 n] w (Yea w) := by
  have B : Below w.heap.size w w := Below.refl _ _
  have HA := Lib.hid hA
  have HB := Lib.hid hB
  have hxs := val_small hA.lt h0
  have hys := val_small hB.lt h1
  have HXG := Lib.hid (not_great hxs (by decide))
  have HYG := Lib.hid (not_great hys (by decide))
  have HSG := Lib.hid (not_great (n := Nt.val a + Nt.val b) (k := 61) (by rw [Nat.pow_succ]; omega) (by decide))
  have HPG := Lib.hid (not_great (n := Nt.val a * Nt.val b) (k := 60 + 60) (by rw [Nat.pow_add]; exact Nat.mul_lt_mul'' hxs hys) (by decide))
  have HPW := Lib.hid (show ∀ k, k ≤ 20 → ∀ j, j ≤ k → ¬ Great (Nt.val a ^ j) from fun k hk j hj => not_great (pow_bound hxs j hj) (by omega))
  have HTA := Lib.hid (fun w h => to_any v0 a w (Nat.le_trans h0 (by decide)) h)
  have HTB := Lib.hid (fun w h => to_any v1 b w (Nat.le_trans h1 (by decide)) h)
  have HLA := Lib.hid (Nat.le_trans (Nt.tidied_le hA.lt) h0)
  have HLB := Lib.hid (Nat.le_trans (Nt.tidied_le hB.lt) h1)
  have HADD := Lib.hid (show ∀ u v w, Bytes w u (Nt.tidied a) → Bytes w v (Nt.tidied b) → Calls Try.prog 39 #[u, v] w (BytesV w (Nt.dg (Nt.val a + Nt.val b))) from fun u v w h h' => by
    have := refadd_any u v _ _ w (Nat.le_trans HLA.out (by decide)) (Nat.le_trans HLB.out (by decide)) h h'
    rwa [tidied_val, tidied_val] at this)
  have HMUL := Lib.hid (show ∀ u v w, Bytes w u (Nt.tidied a) → Bytes w v (Nt.tidied b) → Calls Try.prog 40 #[u, v] w (BytesV w (Nt.dg (Nt.val a * Nt.val b))) from fun u v w h h' => by
    have := refmulnat_any u v _ _ w (Nat.le_trans HLA.out (by decide)) (Nat.le_trans HLB.out (by decide)) h h'
    rwa [tidied_val, tidied_val] at this)
  have HSUB := Lib.hid (show ∀ u v w, Nt.val b ≤ Nt.val a → Bytes w u (Nt.tidied a) → Bytes w v (Nt.tidied b) → Calls Try.prog 41 #[u, v] w (BytesV w (Nt.dg (Nt.val a - Nt.val b))) from fun u v w hle h h' => by
    have := refsub_any u v _ _ w (Nat.le_trans HLA.out (by decide)) (by rw [tidied_val, tidied_val]; exact hle) h h'
    rwa [tidied_val, tidied_val] at this)
  have HCMP := Lib.hid (show ∀ u v w, Bytes w u (Nt.tidied a) → Bytes w v (Nt.tidied b) → Calls Try.prog 35 #[u, v] w (fun e w' => e = .returned (.int .i64 (Nt.cmp (Nt.val a) (Nt.val b))) ∧ Below w.heap.size w w') from fun u v w h h' => by
    have := refcmp_any u v _ _ w h h' (Nt.dg_tidy _) (Nt.dg_tidy _)
    rwa [tidied_val, tidied_val] at this)
  have HPOW := Lib.hid (show ∀ u v w j, j ≤ 20 → Bytes w u (Nt.dg (Nt.val a ^ j)) → Bytes w v (Nt.tidied a) → Calls Try.prog 40 #[u, v] w (BytesV w (Nt.dg (Nt.val a ^ (j + 1)))) from fun u v w j hj h h' => by
    have hs := pow_bound (k := 20) hxs j hj
    have := refmulnat_any u v _ _ w (Nat.le_trans (Nt.dg_length_le hs) (by decide)) (Nat.le_trans HLA.out (by decide)) h h'
    rwa [tidied_val, Nt.val_dg, ← Nat.pow_succ] at this)
  have HDL := Lib.hid (show ∀ m k, k ≤ 1201 → m < 256 ^ k → (Nt.dg m).length ≤ 100000 from fun m k hk h => Nat.le_trans (Nt.dg_length_le h) (by omega))
  have HDS := Lib.hid (HDL.out (Nt.val a + Nt.val b) 61 (by decide) (by rw [Nat.pow_succ]; omega))
  have HDP := Lib.hid (HDL.out (Nt.val a * Nt.val b) (60 + 60) (by decide) (by rw [Nat.pow_add]; exact Nat.mul_lt_mul'' hxs hys))
  have HDD := Lib.hid (HDL.out (Nt.val a - Nt.val b) 60 (by decide) (Nat.lt_of_le_of_lt (Nat.sub_le _ _) hxs))
  have HDW := Lib.hid (show ∀ j, j ≤ 20 → (Nt.dg (Nt.val a ^ j)).length ≤ 100000 from fun j hj => HDL.out _ _ (by decide) (pow_bound (k := 20) hxs j hj))
  have HDG := Lib.hid (not_great_le HXG.out (Nat.sub_le (Nt.val a) (Nt.val b)))
  obtain ⟨pa, ca, rfl, _⟩ := hA
  obtain ⟨pb, cb, rfl, _⟩ := hB
  clear hxs hys HDL
  obtain ⟨k, hk⟩ : ∃ k : Nat, k = n % 21 := ⟨_, rfl⟩
  have HKI := Lib.hid (show (n : Int) % 21 = (k : Int) by omega)
  have hk20 : k ≤ 20 := by omega
  clear hk
  generalize hvx : Nt.val a = x at *
  generalize hvy : Nt.val b = y at *
  clear hvx hvy
  go_enter Try.func8, Try.ntmps8
  go_wp2_with fail
  refine (awake6_any _).mono ?_
  rintro e w1 ⟨rfl, hb⟩
  replace HA := Lib.hid (HA.out.go hb)
  replace HB := Lib.hid (HB.out.go hb)
  replace B := B.trans (hb.mono B.size)
  clear hb
  go_wp2_with fail
  refine (reftrim_any _ _ w1 HA.out).mono ?_
  rintro e w' ⟨⟨v7, rfl, hv⟩, rfl⟩
  have HTRA := Lib.hid hv
  obtain ⟨a7, c7, rfl, _⟩ := hv
  go_wp2_with fail
  refine (reftrim_any _ _ w1 HB.out).mono ?_
  rintro e w' ⟨⟨v8, rfl, hv⟩, rfl⟩
  have HTRB := Lib.hid hv
  obtain ⟨a8, c8, rfl, _⟩ := hv
  generalize hta : (Nt.tidied a).length = ta at *
  generalize htb : (Nt.tidied b).length = tb at *
  clear hta htb
  go_wp2_with fail
  -- the sum
  refine (HTA.out w1 HA.out).mono ?_
  rintro e w2 ⟨u1, rfl, hu, hb⟩
  have HU1 := Lib.hid hu
  obtain ⟨a1, c1, rfl, _⟩ := hu.shape
  replace HA := Lib.hid (HA.out.go hb)
  replace HB := Lib.hid (HB.out.go hb)
  replace HTRA := Lib.hid (HTRA.out.go hb)
  replace HTRB := Lib.hid (HTRB.out.go hb)
  replace B := B.trans (hb.mono B.size)
  clear hb hu
  generalize hll : (Wt.dg x).length = lx at *
  clear hll
  go_wp2_with fail
  refine (HTB.out w2 HB.out).mono ?_
  rintro e w3 ⟨u2, rfl, hu, hb⟩
  have HU2 := Lib.hid hu
  obtain ⟨a2, c2, rfl, _⟩ := hu.shape
  replace HA := Lib.hid (HA.out.go hb)
  replace HB := Lib.hid (HB.out.go hb)
  replace HTRA := Lib.hid (HTRA.out.go hb)
  replace HTRB := Lib.hid (HTRB.out.go hb)
  replace HU1 := Lib.hid (HU1.out.go hb)
  replace B := B.trans (hb.mono B.size)
  clear hb hu
  generalize hll : (Wt.dg y).length = ly at *
  clear hll
  go_wp2_with fail
  have HNS := Lib.hid (isNats2 47 HU1.out HU2.out)
  have hbs := (blocks1 w3 #[.slice a1 lx c1, .slice a2 ly c2] 47).1
  replace HA := Lib.hid (HA.out.go hbs)
  replace HB := Lib.hid (HB.out.go hbs)
  replace HTRA := Lib.hid (HTRA.out.go hbs)
  replace HTRB := Lib.hid (HTRB.out.go hbs)
  replace B := B.trans (hbs.mono B.size)
  clear hbs
  refine (add_two _ x y _ HXG.out HYG.out HSG.out HNS.out).mono ?_
  rintro e w4 ⟨u9, rfl, hu, hb⟩
  have HU9 := Lib.hid hu
  obtain ⟨a9, c9, rfl, _⟩ := hu.shape
  replace HA := Lib.hid (HA.out.go hb)
  replace HB := Lib.hid (HB.out.go hb)
  replace HTRA := Lib.hid (HTRA.out.go hb)
  replace HTRB := Lib.hid (HTRB.out.go hb)
  replace B := B.trans (hb.mono B.size)
  clear hb hu
  clear HU1 HU2 HNS
  generalize hll : (Wt.dg (x + y)).length = l9 at *
  clear hll
  go_upto_region 7 with fail
  obtain ⟨hb, hk, hs⟩ := blocks1 w4 #[.slice a9 l9 c9] 47
  generalize w4.alloc (.cells #[.slice a9 l9 c9] 47) = W5 at *
  have K9 := Lib.hid hk
  replace HA := Lib.hid (HA.out.go hb)
  replace HB := Lib.hid (HB.out.go hb)
  replace HTRA := Lib.hid (HTRA.out.go hb)
  replace HTRB := Lib.hid (HTRB.out.go hb)
  replace HU9 := Lib.hid (HU9.out.go hb)
  replace B := B.trans (hb.mono B.size)
  have hzW5 := B.size
  clear hb hk hs
  go_wp2_with fail
  -- the product
  refine (HTA.out W5 HA.out).mono ?_
  rintro e w6 ⟨u1, rfl, hu, hb⟩
  have HU1 := Lib.hid hu
  obtain ⟨a1, c1, rfl, _⟩ := hu.shape
  replace HA := Lib.hid (HA.out.go hb)
  replace HB := Lib.hid (HB.out.go hb)
  replace HTRA := Lib.hid (HTRA.out.go hb)
  replace HTRB := Lib.hid (HTRB.out.go hb)
  replace K9 := Lib.hid (K9.out.go hb)
  replace HU9 := Lib.hid (HU9.out.go hb)
  replace B := B.trans (hb.mono B.size)
  clear hb hu
  generalize hll : (Wt.dg x).length = lx2 at *
  clear hll
  go_wp2_with fail
  refine (HTB.out w6 HB.out).mono ?_
  rintro e w7 ⟨u2, rfl, hu, hb⟩
  have HU2 := Lib.hid hu
  obtain ⟨a2, c2, rfl, _⟩ := hu.shape
  replace HA := Lib.hid (HA.out.go hb)
  replace HB := Lib.hid (HB.out.go hb)
  replace HTRA := Lib.hid (HTRA.out.go hb)
  replace HTRB := Lib.hid (HTRB.out.go hb)
  replace K9 := Lib.hid (K9.out.go hb)
  replace HU9 := Lib.hid (HU9.out.go hb)
  replace HU1 := Lib.hid (HU1.out.go hb)
  replace B := B.trans (hb.mono B.size)
  clear hb hu
  generalize hll : (Wt.dg y).length = ly2 at *
  clear hll
  go_wp2_with fail
  have HNS := Lib.hid (isNats2 47 HU1.out HU2.out)
  have hbs := (blocks1 w7 #[.slice a1 lx2 c1, .slice a2 ly2 c2] 47).1
  replace HA := Lib.hid (HA.out.go hbs)
  replace HB := Lib.hid (HB.out.go hbs)
  replace HTRA := Lib.hid (HTRA.out.go hbs)
  replace HTRB := Lib.hid (HTRB.out.go hbs)
  replace K9 := Lib.hid (K9.out.go hbs)
  replace HU9 := Lib.hid (HU9.out.go hbs)
  replace B := B.trans (hbs.mono B.size)
  clear hbs
  refine (mul_two _ x y _ HXG.out HYG.out HPG.out HNS.out).mono ?_
  rintro e w8 ⟨u11, rfl, hu, hb⟩
  have HU11 := Lib.hid hu
  obtain ⟨a11, c11, rfl, _⟩ := hu.shape
  replace HA := Lib.hid (HA.out.go hb)
  replace HB := Lib.hid (HB.out.go hb)
  replace HTRA := Lib.hid (HTRA.out.go hb)
  replace HTRB := Lib.hid (HTRB.out.go hb)
  replace K9 := Lib.hid (K9.out.go hb)
  replace HU9 := Lib.hid (HU9.out.go hb)
  replace B := B.trans (hb.mono B.size)
  clear hb hu
  clear HU1 HU2 HNS
  generalize hll : (Wt.dg (x * y)).length = l11 at *
  clear hll
  go_upto_region 8 with fail
  obtain ⟨hb, hk, hs⟩ := blocks1 w8 #[.slice a11 l11 c11] 47
  generalize w8.alloc (.cells #[.slice a11 l11 c11] 47) = W9 at *
  have K11 := Lib.hid hk
  replace HA := Lib.hid (HA.out.go hb)
  replace HB := Lib.hid (HB.out.go hb)
  replace HTRA := Lib.hid (HTRA.out.go hb)
  replace HTRB := Lib.hid (HTRB.out.go hb)
  replace K9 := Lib.hid (K9.out.go hb)
  replace HU9 := Lib.hid (HU9.out.go hb)
  replace HU11 := Lib.hid (HU11.out.go hb)
  replace B := B.trans (hb.mono B.size)
  have hzW9 := B.size
  clear hb hk hs
  go_wp2_with fail
  -- the difference
  refine (HTA.out W9 HA.out).mono ?_
  rintro e w10 ⟨u1, rfl, hu, hb⟩
  have HU1 := Lib.hid hu
  obtain ⟨a1, c1, rfl, _⟩ := hu.shape
  replace HA := Lib.hid (HA.out.go hb)
  replace HB := Lib.hid (HB.out.go hb)
  replace HTRA := Lib.hid (HTRA.out.go hb)
  replace HTRB := Lib.hid (HTRB.out.go hb)
  replace K9 := Lib.hid (K9.out.go hb)
  replace HU9 := Lib.hid (HU9.out.go hb)
  replace K11 := Lib.hid (K11.out.go hb)
  replace HU11 := Lib.hid (HU11.out.go hb)
  replace B := B.trans (hb.mono B.size)
  clear hb hu
  generalize hll : (Wt.dg x).length = lx3 at *
  clear hll
  go_wp2_with fail
  refine (HTB.out w10 HB.out).mono ?_
  rintro e w11 ⟨u2, rfl, hu, hb⟩
  have HU2 := Lib.hid hu
  obtain ⟨a2, c2, rfl, _⟩ := hu.shape
  replace HA := Lib.hid (HA.out.go hb)
  replace HB := Lib.hid (HB.out.go hb)
  replace HTRA := Lib.hid (HTRA.out.go hb)
  replace HTRB := Lib.hid (HTRB.out.go hb)
  replace K9 := Lib.hid (K9.out.go hb)
  replace HU9 := Lib.hid (HU9.out.go hb)
  replace K11 := Lib.hid (K11.out.go hb)
  replace HU11 := Lib.hid (HU11.out.go hb)
  replace HU1 := Lib.hid (HU1.out.go hb)
  replace B := B.trans (hb.mono B.size)
  clear hb hu
  generalize hll : (Wt.dg y).length = ly3 at *
  clear hll
  go_wp2_with fail
  refine (natsub_any _ _ x y w11 (words_small HXG.out) HU1.out HU2.out).mono ?_
  rintro e w12 ⟨u13, rfl, hu, hb⟩
  have HU13 := Lib.hid hu
  obtain ⟨a13, c13, rfl, _⟩ := hu.shape
  replace HA := Lib.hid (HA.out.go hb)
  replace HB := Lib.hid (HB.out.go hb)
  replace HTRA := Lib.hid (HTRA.out.go hb)
  replace HTRB := Lib.hid (HTRB.out.go hb)
  replace K9 := Lib.hid (K9.out.go hb)
  replace HU9 := Lib.hid (HU9.out.go hb)
  replace K11 := Lib.hid (K11.out.go hb)
  replace HU11 := Lib.hid (HU11.out.go hb)
  replace B := B.trans (hb.mono B.size)
  clear hb hu
  clear HU1 HU2
  generalize hll : (Wt.dg (x - y)).length = l13 at *
  clear hll
  go_upto_region 9 with fail
  obtain ⟨hb, hk, hs⟩ := blocks1 w12 #[.slice a13 l13 c13] 47
  generalize w12.alloc (.cells #[.slice a13 l13 c13] 47) = W13 at *
  have K13 := Lib.hid hk
  replace HA := Lib.hid (HA.out.go hb)
  replace HB := Lib.hid (HB.out.go hb)
  replace HTRA := Lib.hid (HTRA.out.go hb)
  replace HTRB := Lib.hid (HTRB.out.go hb)
  replace K9 := Lib.hid (K9.out.go hb)
  replace HU9 := Lib.hid (HU9.out.go hb)
  replace K11 := Lib.hid (K11.out.go hb)
  replace HU11 := Lib.hid (HU11.out.go hb)
  replace HU13 := Lib.hid (HU13.out.go hb)
  replace B := B.trans (hb.mono B.size)
  have hzW13 := B.size
  clear hb hk hs
  generalize hse : (if x < y then (2 : Int) else 0) = se at *
  have HSE := Lib.hid hse
  clear hse
  obtain ⟨g9, hg9⟩ : ∃ g, g = w4.heap.size := ⟨_, rfl⟩
  obtain ⟨g11, hg11⟩ : ∃ g, g = w8.heap.size := ⟨_, rfl⟩
  obtain ⟨g13, hg13⟩ : ∃ g, g = w12.heap.size := ⟨_, rfl⟩
  rw [← hg9] at K9 ⊢
  rw [← hg11] at K11 ⊢
  rw [← hg13] at K13 ⊢
  clear hg9 hg11 hg13
  refine wp_region_mono (C := Cb W13) (R := Rb) (H := fun _ => Hb W13) [Ty.val 59 (.int .i64 0), Ty.val 60 (.bool false), Ty.val 61 (.bool false), Ty.val 62 (.int .i64 0), Ty.val 63 (.bool false), Ty.val 64 (.bool false), Ty.val 65 (.bool false), Ty.val 66 (.agg #[.slice a9 l9 c9]), Ty.val 67 (.slice a7 ta c7), Ty.val 68 (.slice a8 tb c8), Ty.bytes 69 (Nt.dg (x + y)), Ty.val 70 (.bool true), Ty.val 71 (.bool false), Ty.val 72 (.bool false), Ty.val 73 (.bool false), Ty.val 74 (.agg #[.slice a11 l11 c11]), Ty.val 75 (.slice a7 ta c7), Ty.val 76 (.slice a8 tb c8), Ty.bytes 77 (Nt.dg (x * y)), Ty.val 78 (.bool true), Ty.val 79 (.bool false), Ty.val 80 (.bool false)] (by kernel_rfl) (hC_b W13) (hCH_b W13) (drew_b W13) ⟨trivial, trivial, trivial, trivial, trivial, trivial, trivial, trivial, trivial, trivial, trivial, trivial, trivial, trivial, trivial, trivial, trivial, trivial, trivial, trivial, trivial, trivial, trivial⟩ (by kernel_rfl) ?_ ?_
  · refine ⟨?_, ?_, ?_, ?_, ?_, ?_, ?_, ?_, ?_, ?_, ?_, ?_, ?_, ?_, ?_, ?_, ?_, ?_, ?_, ?_, ?_, ?_, trivial⟩
    · intro ac wc hC hsz hfr hd hpr
      have d10 : ac.eval (.tmp 10) = (.int .i64 0) := hfr 10 rfl
      rw [if_pos (wanted_none rfl)]
      exact ob_copy rfl rfl rfl (Nat.lt_of_lt_of_eq (by decide : 59 < 127) hsz.symm) (Or.inl rfl) (Below.refl _ _) d10
    · intro ac wc hC hsz hfr hd hpr
      have d59 : ac.eval (.tmp 59) = (.int .i64 0) := hd 0 rfl
      rw [if_pos (wanted_none rfl)]
      exact ob_bin _ rfl rfl rfl (Nat.lt_of_lt_of_eq (by decide : 60 < 127) hsz.symm) rfl d59 rfl (neq_err (by simp)) (Below.refl _ _) rfl
    · intro ac wc hC hsz hfr hd hpr
      have d60 : ac.eval (.tmp 60) = (.bool false) := hd 1 rfl
      rw [if_pos (wanted_none rfl)]
      exact ob_copy rfl rfl rfl (Nat.lt_of_lt_of_eq (by decide : 61 < 127) hsz.symm) (Or.inl rfl) (Below.refl _ _) d60
    · intro ac wc hC hsz hfr hd hpr
      have d61 : ac.eval (.tmp 61) = (.bool false) := hd 2 rfl
      have d12 : ac.eval (.tmp 12) = (.int .i64 0) := hfr 12 rfl
      rw [if_pos (wanted_some rfl (yielded_of rfl d61))]
      exact ob_copy rfl rfl rfl (Nat.lt_of_lt_of_eq (by decide : 62 < 127) hsz.symm) (Or.inl rfl) (Below.refl _ _) d12
    · intro ac wc hC hsz hfr hd hpr
      have d61 : ac.eval (.tmp 61) = (.bool false) := hd 2 rfl
      have d62 : ac.eval (.tmp 62) = (.int .i64 0) := hd 3 rfl
      rw [if_pos (wanted_some rfl (yielded_of rfl d61))]
      exact ob_bin _ rfl rfl rfl (Nat.lt_of_lt_of_eq (by decide : 63 < 127) hsz.symm) rfl d62 rfl (neq_err (by simp)) (Below.refl _ _) rfl
    · intro ac wc hC hsz hfr hd hpr
      have d61 : ac.eval (.tmp 61) = (.bool false) := hd 2 rfl
      have d63 : ac.eval (.tmp 63) = (.bool false) := hd 4 rfl
      rw [if_pos (wanted_none rfl)]
      exact ob_pick rfl rfl rfl (Nat.lt_of_lt_of_eq (by decide : 64 < 127) hsz.symm) rfl d61 (Below.refl _ _) d63
    · intro ac wc hC hsz hfr hd hpr
      have d64 : ac.eval (.tmp 64) = (.bool false) := hd 5 rfl
      rw [if_pos (wanted_none rfl)]
      exact ob_copy rfl rfl rfl (Nat.lt_of_lt_of_eq (by decide : 65 < 127) hsz.symm) (Or.inl rfl) (Below.refl _ _) d64
    · intro ac wc hC hsz hfr hd hpr
      have d65 : ac.eval (.tmp 65) = (.bool false) := hd 6 rfl
      have d9 : ac.eval (.tmp 9) = (.pointer (some ⟨g9, 0, none⟩)) := hfr 9 rfl
      rw [if_pos (wanted_some rfl (yielded_of rfl d65))]
      exact ob_load _ rfl rfl rfl (Nat.lt_of_lt_of_eq (by decide : 66 < 127) hsz.symm) rfl d9 (load_nat ((K9.out.go hC).cell 0)) (Below.refl _ _) rfl
    · intro ac wc hC hsz hfr hd hpr
      have d65 : ac.eval (.tmp 65) = (.bool false) := hd 6 rfl
      have d7 : ac.eval (.tmp 7) = (.slice a7 ta c7) := hfr 7 rfl
      rw [if_pos (wanted_some rfl (yielded_of rfl d65))]
      exact ob_copy rfl rfl rfl (Nat.lt_of_lt_of_eq (by decide : 67 < 127) hsz.symm) (Or.inl rfl) (Below.refl _ _) d7
    · intro ac wc hC hsz hfr hd hpr
      have d65 : ac.eval (.tmp 65) = (.bool false) := hd 6 rfl
      have d8 : ac.eval (.tmp 8) = (.slice a8 tb c8) := hfr 8 rfl
      rw [if_pos (wanted_some rfl (yielded_of rfl d65))]
      exact ob_copy rfl rfl rfl (Nat.lt_of_lt_of_eq (by decide : 68 < 127) hsz.symm) (Or.inl rfl) (Below.refl _ _) d8
    · intro ac wc hC hsz hfr hd hpr
      have d65 : ac.eval (.tmp 65) = (.bool false) := hd 6 rfl
      have d67 : ac.eval (.tmp 67) = (.slice a7 ta c7) := hd 8 rfl
      have d68 : ac.eval (.tmp 68) = (.slice a8 tb c8) := hd 9 rfl
      rw [if_pos (wanted_some rfl (yielded_of rfl d65))]
      refine ob_call rfl rfl rfl (Nat.lt_of_lt_of_eq (by decide : 69 < 127) hsz.symm) rfl (enter_of Try.func39 (by kernel_rfl) rfl) ?_
      show Calls Try.prog 39 #[ac.eval (.tmp 67), ac.eval (.tmp 68)] wc _
      rw [d67, d68]
      exact HADD.out _ _ wc (HTRA.out.go hC) (HTRB.out.go hC)
    · intro ac wc hC hsz hfr hd hpr
      have d65 : ac.eval (.tmp 65) = (.bool false) := hd 6 rfl
      have d66 : ac.eval (.tmp 66) = (.agg #[.slice a9 l9 c9]) := hd 7 rfl
      have d69 : Bytes wc (ac.eval (.tmp 69)) (Nt.dg (x + y)) := hd 10 rfl
      rw [if_pos (wanted_some rfl (yielded_of rfl d65))]
      refine ob_call rfl rfl rfl (Nat.lt_of_lt_of_eq (by decide : 70 < 127) hsz.symm) rfl (enter_of Try.func31 (by kernel_rfl) rfl) ?_
      show Calls Try.prog 31 #[ac.eval (.tmp 66), ac.eval (.tmp 69)] wc _
      rw [d66]
      exact (is_true _ _ _ _ wc HSG.out HDS.out (Nt.val_dg _).symm (HU9.out.go hC) d69).mono fun _ _ ⟨he, hb⟩ => ⟨_, he, rfl, hb⟩
    · intro ac wc hC hsz hfr hd hpr
      have d65 : ac.eval (.tmp 65) = (.bool false) := hd 6 rfl
      have d70 : ac.eval (.tmp 70) = (.bool true) := hd 11 rfl
      rw [if_pos (wanted_some rfl (yielded_of rfl d65))]
      exact ob_not rfl rfl rfl (Nat.lt_of_lt_of_eq (by decide : 71 < 127) hsz.symm) rfl d70 (Below.refl _ _) rfl
    · intro ac wc hC hsz hfr hd hpr
      have d65 : ac.eval (.tmp 65) = (.bool false) := hd 6 rfl
      have d71 : ac.eval (.tmp 71) = (.bool false) := hd 12 rfl
      rw [if_pos (wanted_none rfl)]
      exact ob_pick rfl rfl rfl (Nat.lt_of_lt_of_eq (by decide : 72 < 127) hsz.symm) rfl d65 (Below.refl _ _) d71
    · intro ac wc hC hsz hfr hd hpr
      have d72 : ac.eval (.tmp 72) = (.bool false) := hd 13 rfl
      rw [if_pos (wanted_none rfl)]
      exact ob_copy rfl rfl rfl (Nat.lt_of_lt_of_eq (by decide : 73 < 127) hsz.symm) (Or.inl rfl) (Below.refl _ _) d72
    · intro ac wc hC hsz hfr hd hpr
      have d73 : ac.eval (.tmp 73) = (.bool false) := hd 14 rfl
      have d11 : ac.eval (.tmp 11) = (.pointer (some ⟨g11, 0, none⟩)) := hfr 11 rfl
      rw [if_pos (wanted_some rfl (yielded_of rfl d73))]
      exact ob_load _ rfl rfl rfl (Nat.lt_of_lt_of_eq (by decide : 74 < 127) hsz.symm) rfl d11 (load_nat ((K11.out.go hC).cell 0)) (Below.refl _ _) rfl
    · intro ac wc hC hsz hfr hd hpr
      have d73 : ac.eval (.tmp 73) = (.bool false) := hd 14 rfl
      have d7 : ac.eval (.tmp 7) = (.slice a7 ta c7) := hfr 7 rfl
      rw [if_pos (wanted_some rfl (yielded_of rfl d73))]
      exact ob_copy rfl rfl rfl (Nat.lt_of_lt_of_eq (by decide : 75 < 127) hsz.symm) (Or.inl rfl) (Below.refl _ _) d7
    · intro ac wc hC hsz hfr hd hpr
      have d73 : ac.eval (.tmp 73) = (.bool false) := hd 14 rfl
      have d8 : ac.eval (.tmp 8) = (.slice a8 tb c8) := hfr 8 rfl
      rw [if_pos (wanted_some rfl (yielded_of rfl d73))]
      exact ob_copy rfl rfl rfl (Nat.lt_of_lt_of_eq (by decide : 76 < 127) hsz.symm) (Or.inl rfl) (Below.refl _ _) d8
    · intro ac wc hC hsz hfr hd hpr
      have d73 : ac.eval (.tmp 73) = (.bool false) := hd 14 rfl
      have d75 : ac.eval (.tmp 75) = (.slice a7 ta c7) := hd 16 rfl
      have d76 : ac.eval (.tmp 76) = (.slice a8 tb c8) := hd 17 rfl
      rw [if_pos (wanted_some rfl (yielded_of rfl d73))]
      refine ob_call rfl rfl rfl (Nat.lt_of_lt_of_eq (by decide : 77 < 127) hsz.symm) rfl (enter_of Try.func40 (by kernel_rfl) rfl) ?_
      show Calls Try.prog 40 #[ac.eval (.tmp 75), ac.eval (.tmp 76)] wc _
      rw [d75, d76]
      exact HMUL.out _ _ wc (HTRA.out.go hC) (HTRB.out.go hC)
    · intro ac wc hC hsz hfr hd hpr
      have d73 : ac.eval (.tmp 73) = (.bool false) := hd 14 rfl
      have d74 : ac.eval (.tmp 74) = (.agg #[.slice a11 l11 c11]) := hd 15 rfl
      have d77 : Bytes wc (ac.eval (.tmp 77)) (Nt.dg (x * y)) := hd 18 rfl
      rw [if_pos (wanted_some rfl (yielded_of rfl d73))]
      refine ob_call rfl rfl rfl (Nat.lt_of_lt_of_eq (by decide : 78 < 127) hsz.symm) rfl (enter_of Try.func31 (by kernel_rfl) rfl) ?_
      show Calls Try.prog 31 #[ac.eval (.tmp 74), ac.eval (.tmp 77)] wc _
      rw [d74]
      exact (is_true _ _ _ _ wc HPG.out HDP.out (Nt.val_dg _).symm (HU11.out.go hC) d77).mono fun _ _ ⟨he, hb⟩ => ⟨_, he, rfl, hb⟩
    · intro ac wc hC hsz hfr hd hpr
      have d73 : ac.eval (.tmp 73) = (.bool false) := hd 14 rfl
      have d78 : ac.eval (.tmp 78) = (.bool true) := hd 19 rfl
      rw [if_pos (wanted_some rfl (yielded_of rfl d73))]
      exact ob_not rfl rfl rfl (Nat.lt_of_lt_of_eq (by decide : 79 < 127) hsz.symm) rfl d78 (Below.refl _ _) rfl
    · intro ac wc hC hsz hfr hd hpr
      have d73 : ac.eval (.tmp 73) = (.bool false) := hd 14 rfl
      have d79 : ac.eval (.tmp 79) = (.bool false) := hd 20 rfl
      rw [if_pos (wanted_none rfl)]
      exact ob_pick rfl rfl rfl (Nat.lt_of_lt_of_eq (by decide : 80 < 127) hsz.symm) rfl d73 (Below.refl _ _) d79
  intro a' W14 hC hdef hsz hfr hd
  have e59 : a'.eval (.tmp 59) = (.int .i64 0) := hd 0 (by decide)
  have e60 : a'.eval (.tmp 60) = (.bool false) := hd 1 (by decide)
  have e61 : a'.eval (.tmp 61) = (.bool false) := hd 2 (by decide)
  have e62 : a'.eval (.tmp 62) = (.int .i64 0) := hd 3 (by decide)
  have e63 : a'.eval (.tmp 63) = (.bool false) := hd 4 (by decide)
  have e64 : a'.eval (.tmp 64) = (.bool false) := hd 5 (by decide)
  have e65 : a'.eval (.tmp 65) = (.bool false) := hd 6 (by decide)
  have e66 : a'.eval (.tmp 66) = (.agg #[.slice a9 l9 c9]) := hd 7 (by decide)
  have e67 : a'.eval (.tmp 67) = (.slice a7 ta c7) := hd 8 (by decide)
  have e68 : a'.eval (.tmp 68) = (.slice a8 tb c8) := hd 9 (by decide)
  obtain ⟨x69, e69, r69⟩ : ∃ xq_, a'.eval (.tmp 69) = xq_ ∧ Bytes W14 (xq_) (Nt.dg (x + y)) := ⟨_, rfl, hd 10 (by decide)⟩
  replace r69 := Lib.hid r69
  have e70 : a'.eval (.tmp 70) = (.bool true) := hd 11 (by decide)
  have e71 : a'.eval (.tmp 71) = (.bool false) := hd 12 (by decide)
  have e72 : a'.eval (.tmp 72) = (.bool false) := hd 13 (by decide)
  have e73 : a'.eval (.tmp 73) = (.bool false) := hd 14 (by decide)
  have e74 : a'.eval (.tmp 74) = (.agg #[.slice a11 l11 c11]) := hd 15 (by decide)
  have e75 : a'.eval (.tmp 75) = (.slice a7 ta c7) := hd 16 (by decide)
  have e76 : a'.eval (.tmp 76) = (.slice a8 tb c8) := hd 17 (by decide)
  obtain ⟨x77, e77, r77⟩ : ∃ xq_, a'.eval (.tmp 77) = xq_ ∧ Bytes W14 (xq_) (Nt.dg (x * y)) := ⟨_, rfl, hd 18 (by decide)⟩
  replace r77 := Lib.hid r77
  have e78 : a'.eval (.tmp 78) = (.bool true) := hd 19 (by decide)
  have e79 : a'.eval (.tmp 79) = (.bool false) := hd 20 (by decide)
  have e80 : a'.eval (.tmp 80) = (.bool false) := hd 21 (by decide)
  have hact := act_puts hdef hsz hfr
  simp only [dstsOf, List.filterMap, putAll, Act.put, List.setIfInBounds_toArray, List.set_cons_succ, List.set_cons_zero, e59, e60, e61, e62, e63, e64, e65, e66, e67, e68, e69, e70, e71, e72, e73, e74, e75, e76, e77, e78, e79, e80] at hact
  clear hd hfr hsz hdef e59 e60 e61 e62 e63 e64 e65 e66 e67 e68 e69 e70 e71 e72 e73 e74 e75 e76 e77 e78 e79 e80
  subst hact
  replace HA := Lib.hid (HA.out.go hC)
  replace HB := Lib.hid (HB.out.go hC)
  replace HTRA := Lib.hid (HTRA.out.go hC)
  replace HTRB := Lib.hid (HTRB.out.go hC)
  replace K13 := Lib.hid (K13.out.go hC)
  replace HU13 := Lib.hid (HU13.out.go hC)
  replace B := B.trans (hC.mono B.size)
  clear hC
  have K13c : W14.cell? ⟨g13, 0, none⟩ = some (.slice a13 l13 c13) := K13.out.cell 0
  go_wp2_with fail
  by_cases hxy : x < y
  · have HCX := Lib.hid (Nt.cmp_lt hxy)
    have HS2 := Lib.hid (show se = 2 by rw [← HSE.out, if_pos hxy])
    have HD00 := Lib.hid (show x - y = 0 by omega)
    rw [HS2.out]
    clear hxy HSE
    refine (HCMP.out _ _ W14 HTRA.out HTRB.out).mono ?_
    rintro e w15 ⟨rfl, hb⟩
    replace HA := Lib.hid (HA.out.go hb)
    replace HB := Lib.hid (HB.out.go hb)
    replace HTRA := Lib.hid (HTRA.out.go hb)
    replace HTRB := Lib.hid (HTRB.out.go hb)
    replace K13 := Lib.hid (K13.out.go hb)
    replace HU13 := Lib.hid (HU13.out.go hb)
    replace B := B.trans (hb.mono B.size)
    clear hb
    rw [HCX.out]
    clear K13c
    have K13c : w15.cell? ⟨g13, 0, none⟩ = some (.slice a13 l13 c13) := K13.out.cell 0
    go_wp2_with fail
    refine (natlen_any _ (x - y) w15 (words_small HDG.out) HU13.out).mono ?_
    rintro e W15 ⟨rfl, hb⟩
    replace HA := Lib.hid (HA.out.go hb)
    replace HB := Lib.hid (HB.out.go hb)
    replace HTRA := Lib.hid (HTRA.out.go hb)
    replace HTRB := Lib.hid (HTRB.out.go hb)
    replace B := B.trans (hb.mono B.size)
    clear hb
    have HLZ := Lib.hid (show ((Nt.dg (x - y)).length : Int) = 0 by rw [HD00.out, Nt.dg_zero]; rfl)
    rw [HLZ.out]
    clear K13c K13 HU13
    -- the power
    go_wp2_with fail
    rw [HKI.out]
    have HD0 := Lib.hid (show Nt.dg (x ^ 0) = [1] by rw [Nat.pow_zero, Nt.dg_pos (by decide)]; simp [Nt.dg_zero])
    have HWB := Lib.hid (show Bytes (W15.alloc (.cells #[.int .u8 1] 5)) (.slice (some ⟨W15.heap.size, 0, none⟩) 1 1) (Nt.dg (x ^ 0)) by
      rw [HD0.out]; exact bytes_new W15 [1] 5 (by simp) (by decide))
    have hbs := (blocks1 W15 #[.int .u8 1] 5).1
    replace HA := Lib.hid (HA.out.go hbs)
    replace HB := Lib.hid (HB.out.go hbs)
    replace HTRA := Lib.hid (HTRA.out.go hbs)
    replace HTRB := Lib.hid (HTRB.out.go hbs)
    replace B := B.trans (hbs.mono B.size)
    clear hbs
    generalize W15.alloc (.cells #[.int .u8 1] 5) = W16 at *
    have hkk := hk20
    have HK20 := Lib.hid hk20
    clear hk20
    go_loopw [16, 107] (fun v i wr => ∃ j : Nat, j ≤ k ∧ i = .int .i64 j ∧ Bytes wr v (Nt.dg (x ^ j)) ∧ Below W16.heap.size W16 wr) (fun _ i _ => k - (intOf i).toNat)
    case atStart => exact ⟨0, by omega, rfl, HWB.out, Below.refl _ _⟩
    case round =>
      obtain ⟨j, hj, rfl, hwb, hbel⟩ := hrel
      have HW2 := Lib.hid hwb
      obtain ⟨aw, cw, rfl, _⟩ := hwb
      have hz := hbel.size
      by_cases hlt : j < k
      · have HJ := Lib.hid hlt
        have HRA := Lib.hid (HTRA.out.go hbel)
        go_wp2_with fail
        refine (HPOW.out _ _ wr j (by have := HK20.out; omega) HW2.out HRA.out).mono ?_
        rintro e w16 ⟨v16, rfl, hv, hb⟩
        have HV := Lib.hid hv
        obtain ⟨a16, c16, rfl, _⟩ := hv
        have hb2 := hbel.trans (hb.mono hz)
        clear hb hbel
        go_wp2_with fail
        have h9 := HJ.out
        exact ⟨⟨j + 1, h9, by go_num, HV.out, hb2⟩, by simp [intOf]; omega⟩
      · obtain rfl : j = k := by omega
        replace HA := Lib.hid (HA.out.go hbel)
        replace B := B.trans (hbel.mono B.size)
        clear hbel
        go_wp2_with fail
        refine (HTA.out wr HA.out).mono ?_
        rintro e w17 ⟨u1, rfl, hu, hb⟩
        have HU1 := Lib.hid hu
        obtain ⟨a1, c1, rfl, _⟩ := hu.shape
        replace HW2 := Lib.hid (HW2.out.go hb)
        replace B := B.trans (hb.mono B.size)
        clear hb hu
        generalize hll : (Wt.dg x).length = lx4 at *
        clear hll
        go_wp2_with fail
        refine (pow_ok _ x j w17 (Nat.le_trans HK20.out (by decide)) HXG.out (HPW.out j HK20.out) HU1.out).mono ?_
        rintro e w18 ⟨u17, rfl, hu, hb⟩
        have HU17 := Lib.hid hu
        obtain ⟨a17, c17, rfl, _⟩ := hu.shape
        replace HW2 := Lib.hid (HW2.out.go hb)
        replace B := B.trans (hb.mono B.size)
        clear hb hu
        clear HU1
        have HPG2 := Lib.hid (HPW.out j HK20.out j (Nat.le_refl _))
        generalize hll : (Wt.dg (x ^ j)).length = l17 at *
        clear hll
        go_upto_region 23 with fail
        obtain ⟨hb, hk, hs⟩ := blocks1 w18 #[.slice a17 l17 c17] 47
        generalize w18.alloc (.cells #[.slice a17 l17 c17] 47) = W19 at *
        have K17 := Lib.hid hk
        replace HW2 := Lib.hid (HW2.out.go hb)
        replace HU17 := Lib.hid (HU17.out.go hb)
        replace B := B.trans (hb.mono B.size)
        have hzW19 := B.size
        clear hb hk hs
        have k17 : W19.cell? ⟨w18.heap.size, 0, none⟩ = some (.slice a17 l17 c17) := K17.out.cell 0
        go_wp2_with fail
        refine (is_true _ _ (x ^ j) _ W19 HPG2.out (HDW.out j HK20.out) (Nt.val_dg _).symm HU17.out HW2.out).mono ?_
        rintro e w20 ⟨rfl, hb⟩
        replace B := B.trans (hb.mono B.size)
        clear hb
        go_wp2_with fail
        go_ret
        exact ⟨rfl, B⟩
  · have HCX := Lib.hid (show decide (Nt.cmp x y < 0) = false by
      rcases Nat.lt_or_eq_of_le (Nat.le_of_not_lt hxy) with h | h
      · rw [Nt.cmp_gt h]; decide
      · rw [Nt.cmp_eq h.symm]; decide)
    have HS2 := Lib.hid (show se = 0 by rw [← HSE.out, if_neg hxy])
    have HLE := Lib.hid (Nat.le_of_not_lt hxy)
    rw [HS2.out]
    clear hxy HSE
    refine (HCMP.out _ _ W14 HTRA.out HTRB.out).mono ?_
    rintro e w15 ⟨rfl, hb⟩
    replace HA := Lib.hid (HA.out.go hb)
    replace HB := Lib.hid (HB.out.go hb)
    replace HTRA := Lib.hid (HTRA.out.go hb)
    replace HTRB := Lib.hid (HTRB.out.go hb)
    replace K13 := Lib.hid (K13.out.go hb)
    replace HU13 := Lib.hid (HU13.out.go hb)
    replace B := B.trans (hb.mono B.size)
    clear hb
    have hcx := HCX.out
    generalize Nt.cmp x y = cm at *
    clear K13c
    go_upto_region 14 with fail
    refine wp_region_mono (C := Cb w15) (R := Rb) (H := fun _ => Hb w15) [Ty.val 92 (.int .i64 0), Ty.val 93 (.bool false), Ty.val 94 (.bool false), Ty.val 95 (.agg #[.slice a13 l13 c13]), Ty.val 96 (.slice a7 ta c7), Ty.val 97 (.slice a8 tb c8), Ty.bytes 98 (Nt.dg (x - y)), Ty.val 99 (.bool true), Ty.val 100 (.bool false), Ty.val 101 (.bool false)] (by kernel_rfl) (hC_b w15) (hCH_b w15) (drew_b w15) ⟨trivial, trivial, trivial, trivial, trivial, trivial, trivial, trivial, trivial, trivial, trivial⟩ (by kernel_rfl) ?_ ?_
    · refine ⟨?_, ?_, ?_, ?_, ?_, ?_, ?_, ?_, ?_, ?_, trivial⟩
      · intro ac wc hC hsz hfr hd hpr
        have d14 : ac.eval (.tmp 14) = (.int .i64 0) := hfr 14 rfl
        rw [if_pos (wanted_none rfl)]
        exact ob_copy rfl rfl rfl (Nat.lt_of_lt_of_eq (by decide : 92 < 127) hsz.symm) (Or.inl rfl) (Below.refl _ _) d14
      · intro ac wc hC hsz hfr hd hpr
        have d92 : ac.eval (.tmp 92) = (.int .i64 0) := hd 0 rfl
        rw [if_pos (wanted_none rfl)]
        exact ob_bin _ rfl rfl rfl (Nat.lt_of_lt_of_eq (by decide : 93 < 127) hsz.symm) rfl d92 rfl (neq_err (by simp)) (Below.refl _ _) rfl
      · intro ac wc hC hsz hfr hd hpr
        have d93 : ac.eval (.tmp 93) = (.bool false) := hd 1 rfl
        rw [if_pos (wanted_none rfl)]
        exact ob_copy rfl rfl rfl (Nat.lt_of_lt_of_eq (by decide : 94 < 127) hsz.symm) (Or.inl rfl) (Below.refl _ _) d93
      · intro ac wc hC hsz hfr hd hpr
        have d94 : ac.eval (.tmp 94) = (.bool false) := hd 2 rfl
        have d13 : ac.eval (.tmp 13) = (.pointer (some ⟨g13, 0, none⟩)) := hfr 13 rfl
        rw [if_pos (wanted_some rfl (yielded_of rfl d94))]
        exact ob_load _ rfl rfl rfl (Nat.lt_of_lt_of_eq (by decide : 95 < 127) hsz.symm) rfl d13 (load_nat ((K13.out.go hC).cell 0)) (Below.refl _ _) rfl
      · intro ac wc hC hsz hfr hd hpr
        have d94 : ac.eval (.tmp 94) = (.bool false) := hd 2 rfl
        have d7 : ac.eval (.tmp 7) = (.slice a7 ta c7) := hfr 7 rfl
        rw [if_pos (wanted_some rfl (yielded_of rfl d94))]
        exact ob_copy rfl rfl rfl (Nat.lt_of_lt_of_eq (by decide : 96 < 127) hsz.symm) (Or.inl rfl) (Below.refl _ _) d7
      · intro ac wc hC hsz hfr hd hpr
        have d94 : ac.eval (.tmp 94) = (.bool false) := hd 2 rfl
        have d8 : ac.eval (.tmp 8) = (.slice a8 tb c8) := hfr 8 rfl
        rw [if_pos (wanted_some rfl (yielded_of rfl d94))]
        exact ob_copy rfl rfl rfl (Nat.lt_of_lt_of_eq (by decide : 97 < 127) hsz.symm) (Or.inl rfl) (Below.refl _ _) d8
      · intro ac wc hC hsz hfr hd hpr
        have d94 : ac.eval (.tmp 94) = (.bool false) := hd 2 rfl
        have d96 : ac.eval (.tmp 96) = (.slice a7 ta c7) := hd 4 rfl
        have d97 : ac.eval (.tmp 97) = (.slice a8 tb c8) := hd 5 rfl
        rw [if_pos (wanted_some rfl (yielded_of rfl d94))]
        refine ob_call rfl rfl rfl (Nat.lt_of_lt_of_eq (by decide : 98 < 127) hsz.symm) rfl (enter_of Try.func41 (by kernel_rfl) rfl) ?_
        show Calls Try.prog 41 #[ac.eval (.tmp 96), ac.eval (.tmp 97)] wc _
        rw [d96, d97]
        exact HSUB.out _ _ wc HLE.out (HTRA.out.go hC) (HTRB.out.go hC)
      · intro ac wc hC hsz hfr hd hpr
        have d94 : ac.eval (.tmp 94) = (.bool false) := hd 2 rfl
        have d95 : ac.eval (.tmp 95) = (.agg #[.slice a13 l13 c13]) := hd 3 rfl
        have d98 : Bytes wc (ac.eval (.tmp 98)) (Nt.dg (x - y)) := hd 6 rfl
        rw [if_pos (wanted_some rfl (yielded_of rfl d94))]
        refine ob_call rfl rfl rfl (Nat.lt_of_lt_of_eq (by decide : 99 < 127) hsz.symm) rfl (enter_of Try.func31 (by kernel_rfl) rfl) ?_
        show Calls Try.prog 31 #[ac.eval (.tmp 95), ac.eval (.tmp 98)] wc _
        rw [d95]
        exact (is_true _ _ _ _ wc HDG.out HDD.out (Nt.val_dg _).symm (HU13.out.go hC) d98).mono fun _ _ ⟨he, hb⟩ => ⟨_, he, rfl, hb⟩
      · intro ac wc hC hsz hfr hd hpr
        have d94 : ac.eval (.tmp 94) = (.bool false) := hd 2 rfl
        have d99 : ac.eval (.tmp 99) = (.bool true) := hd 7 rfl
        rw [if_pos (wanted_some rfl (yielded_of rfl d94))]
        exact ob_not rfl rfl rfl (Nat.lt_of_lt_of_eq (by decide : 100 < 127) hsz.symm) rfl d99 (Below.refl _ _) rfl
      · intro ac wc hC hsz hfr hd hpr
        have d94 : ac.eval (.tmp 94) = (.bool false) := hd 2 rfl
        have d100 : ac.eval (.tmp 100) = (.bool false) := hd 8 rfl
        rw [if_pos (wanted_none rfl)]
        exact ob_pick rfl rfl rfl (Nat.lt_of_lt_of_eq (by decide : 101 < 127) hsz.symm) rfl d94 (Below.refl _ _) d100
    intro a' W15 hC hdef hsz hfr hd
    have e92 : a'.eval (.tmp 92) = (.int .i64 0) := hd 0 (by decide)
    have e93 : a'.eval (.tmp 93) = (.bool false) := hd 1 (by decide)
    have e94 : a'.eval (.tmp 94) = (.bool false) := hd 2 (by decide)
    have e95 : a'.eval (.tmp 95) = (.agg #[.slice a13 l13 c13]) := hd 3 (by decide)
    have e96 : a'.eval (.tmp 96) = (.slice a7 ta c7) := hd 4 (by decide)
    have e97 : a'.eval (.tmp 97) = (.slice a8 tb c8) := hd 5 (by decide)
    obtain ⟨x98, e98, r98⟩ : ∃ xq_, a'.eval (.tmp 98) = xq_ ∧ Bytes W15 (xq_) (Nt.dg (x - y)) := ⟨_, rfl, hd 6 (by decide)⟩
    replace r98 := Lib.hid r98
    have e99 : a'.eval (.tmp 99) = (.bool true) := hd 7 (by decide)
    have e100 : a'.eval (.tmp 100) = (.bool false) := hd 8 (by decide)
    have e101 : a'.eval (.tmp 101) = (.bool false) := hd 9 (by decide)
    have hact := act_puts hdef hsz hfr
    simp only [dstsOf, List.filterMap, putAll, Act.put, List.setIfInBounds_toArray, List.set_cons_succ, List.set_cons_zero, e92, e93, e94, e95, e96, e97, e98, e99, e100, e101] at hact
    clear hd hfr hsz hdef e92 e93 e94 e95 e96 e97 e98 e99 e100 e101
    subst hact
    replace HA := Lib.hid (HA.out.go hC)
    replace HB := Lib.hid (HB.out.go hC)
    replace HTRA := Lib.hid (HTRA.out.go hC)
    replace HTRB := Lib.hid (HTRB.out.go hC)
    replace B := B.trans (hC.mono B.size)
    clear hC
    clear K13 HU13
    -- the power
    go_wp2_with fail
    rw [HKI.out]
    have HD0 := Lib.hid (show Nt.dg (x ^ 0) = [1] by rw [Nat.pow_zero, Nt.dg_pos (by decide)]; simp [Nt.dg_zero])
    have HWB := Lib.hid (show Bytes (W15.alloc (.cells #[.int .u8 1] 5)) (.slice (some ⟨W15.heap.size, 0, none⟩) 1 1) (Nt.dg (x ^ 0)) by
      rw [HD0.out]; exact bytes_new W15 [1] 5 (by simp) (by decide))
    have hbs := (blocks1 W15 #[.int .u8 1] 5).1
    replace HA := Lib.hid (HA.out.go hbs)
    replace HB := Lib.hid (HB.out.go hbs)
    replace HTRA := Lib.hid (HTRA.out.go hbs)
    replace HTRB := Lib.hid (HTRB.out.go hbs)
    replace B := B.trans (hbs.mono B.size)
    clear hbs
    generalize W15.alloc (.cells #[.int .u8 1] 5) = W16 at *
    have hkk := hk20
    have HK20 := Lib.hid hk20
    clear hk20
    go_loopw [16, 107] (fun v i wr => ∃ j : Nat, j ≤ k ∧ i = .int .i64 j ∧ Bytes wr v (Nt.dg (x ^ j)) ∧ Below W16.heap.size W16 wr) (fun _ i _ => k - (intOf i).toNat)
    case atStart => exact ⟨0, by omega, rfl, HWB.out, Below.refl _ _⟩
    case round =>
      obtain ⟨j, hj, rfl, hwb, hbel⟩ := hrel
      have HW2 := Lib.hid hwb
      obtain ⟨aw, cw, rfl, _⟩ := hwb
      have hz := hbel.size
      by_cases hlt : j < k
      · have HJ := Lib.hid hlt
        have HRA := Lib.hid (HTRA.out.go hbel)
        go_wp2_with fail
        refine (HPOW.out _ _ wr j (by have := HK20.out; omega) HW2.out HRA.out).mono ?_
        rintro e w16 ⟨v16, rfl, hv, hb⟩
        have HV := Lib.hid hv
        obtain ⟨a16, c16, rfl, _⟩ := hv
        have hb2 := hbel.trans (hb.mono hz)
        clear hb hbel
        go_wp2_with fail
        have h9 := HJ.out
        exact ⟨⟨j + 1, h9, by go_num, HV.out, hb2⟩, by simp [intOf]; omega⟩
      · obtain rfl : j = k := by omega
        replace HA := Lib.hid (HA.out.go hbel)
        replace B := B.trans (hbel.mono B.size)
        clear hbel
        go_wp2_with fail
        refine (HTA.out wr HA.out).mono ?_
        rintro e w17 ⟨u1, rfl, hu, hb⟩
        have HU1 := Lib.hid hu
        obtain ⟨a1, c1, rfl, _⟩ := hu.shape
        replace HW2 := Lib.hid (HW2.out.go hb)
        replace B := B.trans (hb.mono B.size)
        clear hb hu
        generalize hll : (Wt.dg x).length = lx4 at *
        clear hll
        go_wp2_with fail
        refine (pow_ok _ x j w17 (Nat.le_trans HK20.out (by decide)) HXG.out (HPW.out j HK20.out) HU1.out).mono ?_
        rintro e w18 ⟨u17, rfl, hu, hb⟩
        have HU17 := Lib.hid hu
        obtain ⟨a17, c17, rfl, _⟩ := hu.shape
        replace HW2 := Lib.hid (HW2.out.go hb)
        replace B := B.trans (hb.mono B.size)
        clear hb hu
        clear HU1
        have HPG2 := Lib.hid (HPW.out j HK20.out j (Nat.le_refl _))
        generalize hll : (Wt.dg (x ^ j)).length = l17 at *
        clear hll
        go_upto_region 23 with fail
        obtain ⟨hb, hk, hs⟩ := blocks1 w18 #[.slice a17 l17 c17] 47
        generalize w18.alloc (.cells #[.slice a17 l17 c17] 47) = W19 at *
        have K17 := Lib.hid hk
        replace HW2 := Lib.hid (HW2.out.go hb)
        replace HU17 := Lib.hid (HU17.out.go hb)
        replace B := B.trans (hb.mono B.size)
        have hzW19 := B.size
        clear hb hk hs
        have k17 : W19.cell? ⟨w18.heap.size, 0, none⟩ = some (.slice a17 l17 c17) := K17.out.cell 0
        go_wp2_with fail
        refine (is_true _ _ (x ^ j) _ W19 HPG2.out (HDW.out j HK20.out) (Nt.val_dg _).symm HU17.out HW2.out).mono ?_
        rintro e w20 ⟨rfl, hb⟩
        replace B := B.trans (hb.mono B.size)
        clear hb
        go_wp2_with fail
        go_ret
        exact ⟨rfl, B⟩

set_option maxHeartbeats 400000 in
theorem natreckons_many (n m k : Nat) (pa pb : Option Addr) (ca cb : Nat) (w : World) (h : 60 < m ∨ (m ≤ 60 ∧ 60 < k)) :
    Calls Try.prog 8 #[.slice pa m ca, .slice pb k cb, U8 n] w (Yea w) := by
  have B : Below w.heap.size w w := Below.refl _ _
  rcases h with h | ⟨h1, h⟩
  all_goals
    go_enter Try.func8, Try.ntmps8
    go_wp2_with fail
    refine (awake6_any _).mono ?_
    rintro e w1 ⟨rfl, hb⟩
    replace B := B.trans (hb.mono B.size)
    clear hb
    go_wp2_with fail
    go_ret
    exact ⟨rfl, B⟩

theorem natreckons_any (v0 : Value) (a : List Nat) (v1 : Value) (b : List Nat) (n : Nat) (w : World) (hA : Bytes w v0 a) (hB : Bytes w v1 b) (hn : n < 256) :
    Calls Try.prog 8 #[v0, v1, U8 n] w (Yea w) := by
  by_cases h : a.length ≤ 60 ∧ b.length ≤ 60
  · exact natreckons_few v0 v1 a b n w h.1 h.2 hn hA hB
  · obtain ⟨pa, ca, rfl, _⟩ := hA
    obtain ⟨pb, cb, rfl, _⟩ := hB
    exact natreckons_many n _ _ pa pb ca cb w (by omega)

end Go.Proofs.Ytobhlfkmdhoncaa
