/-
  The program's numbers (layer 6): 'Sub'.
-/
import Derived.Test.YtobhlfkmdhoncaaNatD
set_option maxRecDepth 100000
namespace Go.Proofs.Ytobhlfkmdhoncaa
open Go.RowKit

theorem borrow_hd {p q c d : Nat} (hp : p < 18446744073709551616) (hq : q < 18446744073709551616) (hc : c ≤ 1) (hd : d = (p + 18446744073709551616 - q - c) % 18446744073709551616) : p + 18446744073709551616 * borrowed p q c = q + c + d ∧ borrowed p q c ≤ 1 ∧ d < 18446744073709551616 := by
  unfold borrowed
  split <;> omega

theorem nat_zero (w : World) : IsNat w (.agg #[.slice none 0 0]) 0 := ⟨_, rfl, none, 0, by rw [Wt.dg_zero]; rfl, by rw [Wt.dg_zero]; exact Nat.le_refl _, by decide, by rw [Wt.dg_zero]; intro x hx; simp at hx, fun h => absurd Wt.dg_zero h⟩

set_option maxHeartbeats 2000000 in
theorem natsub_less (u v : Value) (m n : Nat) (w : World) (hlt : m < n) (hU : IsNat w u m) (hV : IsNat w v n) :
    Calls Try.prog 38 #[u, v] w (NatE w 0 2) := by
  have HU := Lib.hid hU
  have HV := Lib.hid hV
  have HC := Lib.hid (Nt.cmp_lt hlt)
  obtain ⟨pa, ca, rfl, _⟩ := hU.shape
  obtain ⟨pb, cb, rfl, _⟩ := hV.shape
  clear hU hV hlt
  generalize (Wt.dg m).length = xl at *
  generalize (Wt.dg n).length = yl at *
  go_enter Try.func38, Try.ntmps38
  go_upto_region 1 with fail
  obtain ⟨B, hk1, hk2, hk3, hs⟩ := blocks3 w #[.slice pa xl ca] 47 #[.slice pb yl cb] 47 #[.slice none 0 0] 47
  generalize (((w.alloc (.cells #[.slice pa xl ca] 47)).alloc (.cells #[.slice pb yl cb] 47)).alloc (.cells #[.slice none 0 0] 47)) = W at *
  have K1 := Lib.hid hk1
  have K2 := Lib.hid hk2
  have K3 := Lib.hid hk3
  have HS := Lib.hid hs
  clear hs hk1 hk2 hk3
  replace HU := Lib.hid (HU.out.go B)
  replace HV := Lib.hid (HV.out.go B)
  have hzW := B.size
  have k10 : W.cell? ⟨w.heap.size, 0, none⟩ = some (.slice pa xl ca) := K1.out.cell 0
  have k20 : W.cell? ⟨w.heap.size + 1, 0, none⟩ = some (.slice pb yl cb) := K2.out.cell 0
  go_wp2_with fail
  refine (natcmp_any _ _ m n W HU.out HV.out).mono ?_
  rintro e w2 ⟨rfl, hb⟩
  rw [HC.out]
  have k3 := K3.out.go hb
  have hf0 := k3.free 0
  have h0 : w2.cell? ⟨w.heap.size + 1 + 1, 0, none⟩ = some (.slice none 0 0) := k3.cell 0
  have B2 := B.trans (hb.mono B.size)
  clear hb k10 k20 k3
  go_wp2_with fail
  exact bodyPost_ret (v := .tuple #[.agg #[.slice none 0 0], I64 2]) (by simp [results, Try.results38, go_sem, h0]) rfl ⟨_, rfl, nat_zero _, B2.setCell (by show w.heap.size ≤ w.heap.size + 1 + 1; omega) _⟩

set_option maxHeartbeats 2000000 in
theorem natsub_more (u v : Value) (m n : Nat) (w : World) (hle : n ≤ m) (hm : (Wt.dg m).length ≤ 100000) (hU : IsNat w u m) (hV : IsNat w v n) :
    Calls Try.prog 38 #[u, v] w (NatE w (m - n) 0) := by
  have HU := Lib.hid hU
  have HV := Lib.hid hV
  have HCM := Lib.hid (show decide (Nt.cmp m n < 0) = false by
    rcases Nat.lt_or_eq_of_le hle with h | h
    · rw [Nt.cmp_gt h]; decide
    · rw [Nt.cmp_eq h.symm]; decide)
  obtain ⟨pa, ca, rfl, hx, _, ha⟩ := hU.shape
  obtain ⟨pb, cb, rfl, hy, _, hb⟩ := hV.shape
  have HX := Lib.hid hx.lt
  have HWX := Lib.hid hx
  have HY := Lib.hid hy.lt
  have HPA := Lib.hid (show ∀ b off, pa = some ⟨b, off, none⟩ → (Wt.dg m).length ≠ 0 → b < w.heap.size from fun b off e hne => by
    subst e
    exact World.block_lt_of_cell? w _ (hx.cell 0 (by omega)))
  have HPB := Lib.hid (show ∀ b off, pb = some ⟨b, off, none⟩ → (Wt.dg n).length ≠ 0 → b < w.heap.size from fun b off e hne => by
    subst e
    exact World.block_lt_of_cell? w _ (hy.cell 0 (by omega)))
  have HM := Lib.hid (Wt.val_dg m)
  have HN := Lib.hid (Wt.val_dg n)
  have HAA := Lib.hid ha
  have HLE := Lib.hid hle
  clear hx hy hU hV ha hb hle
  generalize hgx : Wt.dg m = x at *
  generalize hgy : Wt.dg n = y at *
  have HGX := Lib.hid hgx
  have HGY := Lib.hid hgy
  clear hgx hgy
  have hmk := make_words x.length (by omega)
  go_enter Try.func38, Try.ntmps38
  go_upto_region 1 with fail
  obtain ⟨B, hk1, hk2, hk3, hs⟩ := blocks3 w #[.slice pa x.length ca] 47 #[.slice pb y.length cb] 47 #[.slice none 0 0] 47
  generalize (((w.alloc (.cells #[.slice pa x.length ca] 47)).alloc (.cells #[.slice pb y.length cb] 47)).alloc (.cells #[.slice none 0 0] 47)) = W0 at *
  have K1 := Lib.hid hk1
  have K2 := Lib.hid hk2
  have K3 := Lib.hid hk3
  have HS := Lib.hid hs
  clear hs hk1 hk2 hk3
  replace HU := Lib.hid (HU.out.go B)
  replace HV := Lib.hid (HV.out.go B)
  replace HWX := Lib.hid (HWX.out.go B)
  have hzW0 := B.size
  have k10 : W0.cell? ⟨w.heap.size, 0, none⟩ = some (.slice pa x.length ca) := K1.out.cell 0
  have k20 : W0.cell? ⟨w.heap.size + 1, 0, none⟩ = some (.slice pb y.length cb) := K2.out.cell 0
  go_wp2_with fail
  refine (natcmp_any _ _ m n W0 HU.out HV.out).mono ?_
  rintro e W ⟨rfl, hb⟩
  replace HU := Lib.hid (HU.out.go hb)
  replace HV := Lib.hid (HV.out.go hb)
  replace HWX := Lib.hid (HWX.out.go hb)
  replace K1 := Lib.hid (K1.out.go hb)
  replace K2 := Lib.hid (K2.out.go hb)
  replace K3 := Lib.hid (K3.out.go hb)
  have BW := B.trans (hb.mono B.size)
  have hcm := HCM.out
  generalize Nt.cmp m n = cm at *
  have hzs := hb.size
  clear k10 k20 hb B
  have B := BW
  clear BW
  have k10 : W.cell? ⟨w.heap.size, 0, none⟩ = some (.slice pa x.length ca) := K1.out.cell 0
  go_wp2_with fail
  obtain ⟨g, hg⟩ : ∃ g, g = W.heap.size := ⟨_, rfl⟩
  obtain ⟨L, hL⟩ : ∃ L, L = x.length := ⟨_, rfl⟩
  have HO0 := Lib.hid (show OwnW (W.alloc (wordsObj (List.replicate x.length 0))) g (padW [] x.length) by rw [hg, padW_nil]; exact OwnW.new W _)
  have HG := Lib.hid hg
  have HB0 := Lib.hid ((Below.refl W.heap.size W).alloc (Nat.le_refl _) (wordsObj (List.replicate x.length 0)))
  have HGE := Lib.hid (show w.heap.size + 1 + 1 + 1 ≤ g by rw [hg, ← HS.out]; exact hzs)
  have HNA := Lib.hid (show ∀ b off, pa = some ⟨b, off, none⟩ → (Wt.dg m).length ≠ 0 → b ≠ g from fun b off e hh => by have := HPA.out b off e (by rw [← HGX.out]; exact hh); have := HGE.out; omega)
  have HNB := Lib.hid (show ∀ b off, pb = some ⟨b, off, none⟩ → (Wt.dg n).length ≠ 0 → b ≠ g from fun b off e hh => by have := HPB.out b off e (by rw [← HGY.out]; exact hh); have := HGE.out; omega)
  rw [← hg]
  clear hg hmk k10 hL
  go_loopw [7, 8, 20] (fun cy _ i wr => ∃ (k c : Nat) (o : List Nat), k ≤ x.length ∧ i = .int .i64 k ∧ cy = U64 c ∧ c ≤ 1 ∧ o.length = k ∧ (∀ z, z ∈ o → z < 18446744073709551616) ∧ Wt.val o + Wt.low y k + 0 = Wt.low x k + 18446744073709551616 ^ k * c ∧ OwnW wr g (padW o x.length) ∧ Below W.heap.size W wr) (fun _ _ i _ => x.length - (intOf i).toNat)
  case atStart => exact ⟨0, 0, [], by omega, rfl, rfl, by omega, rfl, by simp, by rw [Wt.low_zero, Wt.low_zero]; rfl, HO0.out, HB0.out⟩
  case round =>
    obtain ⟨k, c, o, hk, rfl, rfl, hc, hol, hob, hval, hown, hbel⟩ := hrel
    have HOL := Lib.hid hol
    have HOB := Lib.hid hob
    have HVAL := Lib.hid hval
    have HO := Lib.hid hown
    have hz := hbel.size
    have HVr := Lib.hid (HV.out.go hbel)
    have HK1 := Lib.hid (K1.out.go hbel)
    have HK2 := Lib.hid (K2.out.go hbel)
    have HWr := Lib.hid (HWX.out.go hbel)
    clear hol hob hval hown
    by_cases hlt : k < x.length
    · have hkL := hlt
      obtain ⟨b, off, rfl⟩ := HAA.out (by omega)
      have hxl := nth_ltW HX.out k
      have hyl := nth_ltW HY.out k
      have HXC := Lib.hid (HWr.out.cell k hlt)
      have HST := Lib.hid (fun d c' h => Wt.sub_step (d := d) (c' := c') HOL.out HVAL.out h)
      obtain ⟨p, hp⟩ : ∃ p, p = nth x k := ⟨_, rfl⟩
      obtain ⟨q, hq⟩ : ∃ q, q = nth y k := ⟨_, rfl⟩
      rw [← hp] at hxl HXC
      rw [← hq] at hyl
      rw [← hp, ← hq] at HST
      have HQQ := Lib.hid hq
      clear hp hq
      obtain ⟨sm, hsm⟩ : ∃ sm, sm = (p + 18446744073709551616 - q - c) % 18446744073709551616 := ⟨_, rfl⟩
      have HHD := Lib.hid (borrow_hd hxl hyl hc hsm)
      obtain ⟨cc, hcc⟩ : ∃ cc, cc = borrowed p q c := ⟨_, rfl⟩
      rw [← hcc] at HHD
      have HSUB := Lib.hid (show ∀ w : World, (callFunc 55 #[U64 p, U64 q, U64 c]).run Try.prog w = .ok (.value (.tuple #[U64 sm, U64 cc])) w from fun w => by rw [hsm, hcc]; exact run_sub p q c hc w)
      have HNE := Lib.hid (show b ≠ g from HNA.out b off rfl (by rw [HGX.out]; omega))
      clear hsm hcc
      go_wp2_with fail
      have hpl := padW_length (o := o) (L := x.length) (by rw [HOL.out]; exact hk)
      refine wp_region_mono (C := Cg wr g) (R := Rb) (H := Hg g) [Ty.val 24 (whole g x.length), Ty.val 25 (.int .i64 k), Ty.val 26 (.pointer (some ⟨w.heap.size, 0, none⟩)), Ty.val 27 (.slice (some ⟨b, off, none⟩) x.length ca), Ty.val 28 (.int .i64 k), Ty.val 29 (.pointer (some ⟨b, off + k, none⟩)), Ty.val 30 (U64 p), Ty.val 31 (.agg #[.slice pb y.length cb]), Ty.val 32 (.int .i64 k), Ty.val 33 (U64 q), Ty.val 34 (U64 c), Ty.val 35 (.tuple #[U64 sm, U64 cc]), Ty.val 23 (.tuple #[U64 sm, U64 cc]), Ty.val 36 (U64 sm), Ty.val 37 (U64 cc), Ty.val 38 (.pointer (some ⟨g, k, none⟩)), (Ty.storesW (padW o x.length) (padW (o ++ [sm]) x.length)), Ty.val 7 (U64 cc)] (by kernel_rfl) (hC_g wr g) (hCH_g wr g) (drew_g wr g) ⟨trivial, trivial, trivial, trivial, trivial, trivial, trivial, trivial, trivial, trivial, trivial, trivial, trivial, trivial, trivial, trivial, (HO.out), trivial, trivial⟩ (by kernel_rfl) ?_ ?_
      · refine ⟨?_, ?_, ?_, ?_, ?_, ?_, ?_, ?_, ?_, ?_, ?_, ?_, ?_, ?_, ?_, ?_, ?_, ?_, trivial⟩
        · intro ac wc hC hsz hfr hd hpr
          have d6 : ac.eval (.tmp 6) = (whole g x.length) := hfr 6 rfl
          rw [if_pos (wanted_none rfl)]
          exact ob_copy rfl rfl rfl (Nat.lt_of_lt_of_eq (by decide : 24 < 42) hsz.symm) (Or.inl rfl) (Below.refl _ _) d6
        · intro ac wc hC hsz hfr hd hpr
          have d8 : ac.eval (.tmp 8) = (.int .i64 k) := hfr 8 rfl
          rw [if_pos (wanted_none rfl)]
          exact ob_copy rfl rfl rfl (Nat.lt_of_lt_of_eq (by decide : 25 < 42) hsz.symm) (Or.inl rfl) (Below.refl _ _) d8
        · intro ac wc hC hsz hfr hd hpr
          have d2 : ac.eval (.tmp 2) = (.pointer (some ⟨w.heap.size, 0, none⟩)) := hfr 2 rfl
          rw [if_pos (wanted_none rfl)]
          exact ob_field _ rfl rfl rfl (Nat.lt_of_lt_of_eq (by decide : 26 < 42) hsz.symm) rfl d2 (field_nat _) (Below.refl _ _) rfl
        · intro ac wc hC hsz hfr hd hpr
          have d26 : ac.eval (.tmp 26) = (.pointer (some ⟨w.heap.size, 0, none⟩)) := hd 2 rfl
          rw [if_pos (wanted_none rfl)]
          exact ob_load _ rfl rfl rfl (Nat.lt_of_lt_of_eq (by decide : 27 < 42) hsz.symm) rfl d26 (load_words ((HK1.out.cg hC (by have := HGE.out; omega)).cell 0)) (Below.refl _ _) rfl
        · intro ac wc hC hsz hfr hd hpr
          have d8 : ac.eval (.tmp 8) = (.int .i64 k) := hfr 8 rfl
          rw [if_pos (wanted_none rfl)]
          exact ob_copy rfl rfl rfl (Nat.lt_of_lt_of_eq (by decide : 28 < 42) hsz.symm) (Or.inl rfl) (Below.refl _ _) d8
        · intro ac wc hC hsz hfr hd hpr
          have d27 : ac.eval (.tmp 27) = (.slice (some ⟨b, off, none⟩) x.length ca) := hd 3 rfl
          have d28 : ac.eval (.tmp 28) = (.int .i64 k) := hd 4 rfl
          rw [if_pos (wanted_none rfl)]
          have hlt : 29 < ac.tmps.size := (Nat.lt_of_lt_of_eq (by decide : 29 < 42) hsz.symm)
          exact ob_index _ rfl rfl rfl hlt rfl d27 d28 (index_words _ hkL) (Below.refl _ _) rfl
        · intro ac wc hC hsz hfr hd hpr
          have d29 : ac.eval (.tmp 29) = (.pointer (some ⟨b, off + k, none⟩)) := hd 5 rfl
          rw [if_pos (wanted_none rfl)]
          exact ob_load _ rfl rfl rfl (Nat.lt_of_lt_of_eq (by decide : 30 < 42) hsz.symm) rfl d29 (load_u64 (World.grownBy.cell hC HXC.out (by simp; exact HNE.out))) (Below.refl _ _) rfl
        · intro ac wc hC hsz hfr hd hpr
          have d3 : ac.eval (.tmp 3) = (.pointer (some ⟨w.heap.size + 1, 0, none⟩)) := hfr 3 rfl
          rw [if_pos (wanted_none rfl)]
          exact ob_load _ rfl rfl rfl (Nat.lt_of_lt_of_eq (by decide : 31 < 42) hsz.symm) rfl d3 (load_nat ((HK2.out.cg hC (by have := HGE.out; omega)).cell 0)) (Below.refl _ _) rfl
        · intro ac wc hC hsz hfr hd hpr
          have d8 : ac.eval (.tmp 8) = (.int .i64 k) := hfr 8 rfl
          rw [if_pos (wanted_none rfl)]
          exact ob_copy rfl rfl rfl (Nat.lt_of_lt_of_eq (by decide : 32 < 42) hsz.symm) (Or.inl rfl) (Below.refl _ _) d8
        · intro ac wc hC hsz hfr hd hpr
          have d31 : ac.eval (.tmp 31) = (.agg #[.slice pb y.length cb]) := hd 7 rfl
          have d32 : ac.eval (.tmp 32) = (.int .i64 k) := hd 8 rfl
          rw [if_pos (wanted_none rfl)]
          refine ob_call rfl rfl rfl (Nat.lt_of_lt_of_eq (by decide : 33 < 42) hsz.symm) rfl (enter_of Try.func56 (by kernel_rfl) rfl) ?_
          show Calls Try.prog 56 #[ac.eval (.tmp 31), ac.eval (.tmp 32)] wc _
          rw [d31, d32]
          exact (word_pq HQQ.out HGY.out (HVr.out.cg hC HNB.out)).mono fun _ _ ⟨he, hb⟩ => ⟨_, he, rfl, hb⟩
        · intro ac wc hC hsz hfr hd hpr
          have d7 : ac.eval (.tmp 7) = (U64 c) := hfr 7 rfl
          rw [if_pos (wanted_none rfl)]
          exact ob_copy rfl rfl rfl (Nat.lt_of_lt_of_eq (by decide : 34 < 42) hsz.symm) (Or.inl rfl) (Below.refl _ _) d7
        · intro ac wc hC hsz hfr hd hpr
          have d30 : ac.eval (.tmp 30) = (U64 p) := hd 6 rfl
          have d33 : ac.eval (.tmp 33) = (U64 q) := hd 9 rfl
          have d34 : ac.eval (.tmp 34) = (U64 c) := hd 10 rfl
          rw [if_pos (wanted_none rfl)]
          have hlt : 35 < ac.tmps.size := (Nat.lt_of_lt_of_eq (by decide : 35 < 42) hsz.symm)
          exact ob_ext rfl rfl rfl hlt rfl (by show (callFunc _ #[ac.eval (.tmp 30), ac.eval (.tmp 33), ac.eval (.tmp 34)]).run _ _ = _; rw [d30, d33, d34]; exact HSUB.out wc) (Below.refl _ _) rfl
        · intro ac wc hC hsz hfr hd hpr
          have d35 : ac.eval (.tmp 35) = (.tuple #[U64 sm, U64 cc]) := hd 11 rfl
          rw [if_pos (wanted_none rfl)]
          exact ob_copy rfl rfl rfl (Nat.lt_of_lt_of_eq (by decide : 23 < 42) hsz.symm) (Or.inl rfl) (Below.refl _ _) d35
        · intro ac wc hC hsz hfr hd hpr
          have d23 : ac.eval (.tmp 23) = (.tuple #[U64 sm, U64 cc]) := hd 12 rfl
          rw [if_pos (wanted_none rfl)]
          have hlt : 36 < ac.tmps.size := (Nat.lt_of_lt_of_eq (by decide : 36 < 42) hsz.symm)
          exact ob_extract _ rfl rfl rfl hlt rfl d23 (extract0 _ _) (Below.refl _ _) rfl
        · intro ac wc hC hsz hfr hd hpr
          have d23 : ac.eval (.tmp 23) = (.tuple #[U64 sm, U64 cc]) := hd 12 rfl
          rw [if_pos (wanted_none rfl)]
          have hlt : 37 < ac.tmps.size := (Nat.lt_of_lt_of_eq (by decide : 37 < 42) hsz.symm)
          exact ob_extract _ rfl rfl rfl hlt rfl d23 (extract1 _ _) (Below.refl _ _) rfl
        · intro ac wc hC hsz hfr hd hpr
          have d24 : ac.eval (.tmp 24) = (whole g x.length) := hd 0 rfl
          have d25 : ac.eval (.tmp 25) = (.int .i64 k) := hd 1 rfl
          rw [if_pos (wanted_none rfl)]
          have hlt : 38 < ac.tmps.size := (Nat.lt_of_lt_of_eq (by decide : 38 < 42) hsz.symm)
          exact ob_index _ rfl rfl rfl hlt rfl d24 d25 (index_whole _ hkL) (Below.refl _ _) rfl
        · intro ac wc hC hsz hfr hd hpr
          have d38 : ac.eval (.tmp 38) = (.pointer (some ⟨g, k, none⟩)) := hd 15 rfl
          have d36 : ac.eval (.tmp 36) = (U64 sm) := hd 13 rfl
          rw [if_pos (wanted_none rfl)]
          have hlt : 0 < ac.tmps.size := (Nat.lt_of_lt_of_eq (by decide : 0 < 42) hsz.symm)
          exact ob_store0 _ rfl rfl rfl d38 d36 (store_u64 (OwnW.cell hpr k (by rw [hpl]; exact hkL)) (OwnW.free hpr k)) (grown_setCell wc ⟨g, k, none⟩ _) (show OwnW _ g (padW (o ++ [sm]) x.length) by rw [← padW_set HOL.out hkL]; exact OwnW.set hpr k _)
        · intro ac wc hC hsz hfr hd hpr
          have d37 : ac.eval (.tmp 37) = (U64 cc) := hd 14 rfl
          rw [if_pos (wanted_none rfl)]
          exact ob_copy rfl rfl rfl (Nat.lt_of_lt_of_eq (by decide : 7 < 42) hsz.symm) (Or.inr rfl) (Below.refl _ _) d37
      intro a' W6 hC hdef hsz hfr hd
      have e24 : a'.eval (.tmp 24) = (whole g x.length) := hd 0 (by decide)
      have e25 : a'.eval (.tmp 25) = (.int .i64 k) := hd 1 (by decide)
      have e26 : a'.eval (.tmp 26) = (.pointer (some ⟨w.heap.size, 0, none⟩)) := hd 2 (by decide)
      have e27 : a'.eval (.tmp 27) = (.slice (some ⟨b, off, none⟩) x.length ca) := hd 3 (by decide)
      have e28 : a'.eval (.tmp 28) = (.int .i64 k) := hd 4 (by decide)
      have e29 : a'.eval (.tmp 29) = (.pointer (some ⟨b, off + k, none⟩)) := hd 5 (by decide)
      have e30 : a'.eval (.tmp 30) = (U64 p) := hd 6 (by decide)
      have e31 : a'.eval (.tmp 31) = (.agg #[.slice pb y.length cb]) := hd 7 (by decide)
      have e32 : a'.eval (.tmp 32) = (.int .i64 k) := hd 8 (by decide)
      have e33 : a'.eval (.tmp 33) = (U64 q) := hd 9 (by decide)
      have e34 : a'.eval (.tmp 34) = (U64 c) := hd 10 (by decide)
      have e35 : a'.eval (.tmp 35) = (.tuple #[U64 sm, U64 cc]) := hd 11 (by decide)
      have e23 : a'.eval (.tmp 23) = (.tuple #[U64 sm, U64 cc]) := hd 12 (by decide)
      have e36 : a'.eval (.tmp 36) = (U64 sm) := hd 13 (by decide)
      have e37 : a'.eval (.tmp 37) = (U64 cc) := hd 14 (by decide)
      have e38 : a'.eval (.tmp 38) = (.pointer (some ⟨g, k, none⟩)) := hd 15 (by decide)
      have st16 : OwnW W6 g (padW (o ++ [sm]) x.length) := hd 16 (by decide)
      replace st16 := Lib.hid st16
      have e7 : a'.eval (.tmp 7) = (U64 cc) := hd 17 (by decide)
      have hact := act_puts hdef hsz hfr
      simp only [dstsOf, List.filterMap, putAll, Act.put, List.setIfInBounds_toArray, List.set_cons_succ, List.set_cons_zero, e24, e25, e26, e27, e28, e29, e30, e31, e32, e33, e34, e35, e23, e36, e37, e38, e7] at hact
      clear hd hfr hsz hdef e24 e25 e26 e27 e28 e29 e30 e31 e32 e33 e34 e35 e23 e36 e37 e38 e7
      subst hact
      have HO6 := Lib.hid (st16.out)
      have hb6 := below_grown hbel hC hz (Nat.le_of_eq HG.out.symm)
      have HB6 := Lib.hid hb6
      clear hC hb6 hbel hk hlt
      go_wp2_with fail
      refine ⟨⟨k + 1, cc, o ++ [sm], hkL, by go_num, rfl, HHD.out.2.1, by rw [List.length_append, HOL.out]; rfl, ?_, HST.out _ _ HHD.out.1, HO6.out, HB6.out⟩, by simp [intOf]; omega⟩
      intro z hz'
      rcases List.mem_append.1 hz' with h | h
      · exact HOB.out z h
      · simp at h; rw [h]; exact HHD.out.2.2
    · obtain rfl : k = x.length := by omega
      have HK3 := Lib.hid (K3.out.go hbel)
      have HVL := Lib.hid (show Wt.val o = m - n by
        have h := Wt.sub_end HVAL.out HOB.out HOL.out (by rw [HM.out, HN.out]; exact HLE.out) HX.out
        rw [h, HM.out, HN.out])
      have hw := HO.out
      rw [padW_all HOL.out] at hw
      have HW := Lib.hid (show Words wr (whole g x.length) o by have h := hw.words HOB.out (by rw [HOL.out]; omega); rw [HOL.out] at h; exact h)
      have hbw := B.trans (hbel.mono B.size)
      clear hw hbel hk hlt
      go_wp2_with fail
      refine (trimmed_any _ _ _ HW.out).mono ?_
      rintro e w2 ⟨u2, rfl, hu, hb⟩
      rw [HVL.out] at hu
      obtain ⟨a2, c2, rfl, hv, _⟩ := hu.shape
      have k3 := HK3.out.go hb
      have hf0 := k3.free 0
      have h0 : w2.cell? ⟨w.heap.size + 1 + 1, 0, none⟩ = some (.slice none 0 0) := k3.cell 0
      have HS2 := Lib.hid (nat_store k3 hv)
      have HB2 := Lib.hid (hbw.trans (hb.mono hbw.size))
      clear hv hu k3 hb hbw
      generalize (Wt.dg (m - n)).length = M at *
      go_wp2_with fail
      exact bodyPost_ret (v := .tuple #[.agg #[.slice a2 M c2], I64 0]) (by simp [results, Try.results38, go_sem, HS2.out.1]) rfl ⟨_, rfl, ⟨_, rfl, HS2.out.2⟩, HB2.out.setCell (by show w.heap.size ≤ w.heap.size + 1 + 1; omega) _⟩

theorem natsub_any (u v : Value) (m n : Nat) (w : World) (hm : (Wt.dg m).length ≤ 100000) (hU : IsNat w u m) (hV : IsNat w v n) :
    Calls Try.prog 38 #[u, v] w (NatE w (m - n) (if m < n then 2 else 0)) := by
  by_cases h : m < n
  · rw [if_pos h, show m - n = 0 from by omega]; exact natsub_less u v m n w h hU hV
  · rw [if_neg h]; exact natsub_more u v m n w (by omega) hm hU hV

end Go.Proofs.Ytobhlfkmdhoncaa
