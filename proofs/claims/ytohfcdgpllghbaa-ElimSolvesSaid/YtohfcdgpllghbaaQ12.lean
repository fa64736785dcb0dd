/- Texts of one seat, laid together: RefGrid, RefGridB. -/
import Derived.Test.YtohfcdgpllghbaaQ11

/-
  The document's answer for grids (wellspringref07), in the program: 'Rest'.
-/
set_option maxRecDepth 100000
namespace Go.Proofs.Ytohfcdgpllghbaa
open Go.RowKit

/-- 'Less' by as much as the row has where the other one leads. -/
theorem refless_step (x r : Rw) {k t : Nat} (u v : Value) (w : World) (hx : Ro.Dim k t x) (hr : Ro.Dim k t r) (hk : k ≤ 10000000) (ht : t ≤ 10000000) (hc : nth x.1 (lead r.1) < 256) (hu : IsRow w u x.1 x.2) (hv : IsRow w v r.1 r.2) :
    Calls Try.prog 70 #[u, U8 (nth x.1 (lead r.1)), v] w (RowsE w (Ro.step x r).1 (Ro.step x r).2 0) := by
  have h := refless_any u v _ _ _ _ _ w hc hu hv (by rw [hx.1]; exact hk) (by rw [hx.2.1]; exact ht)
  have e : lessE x.1 x.2 r.1 r.2 = 0 := if_pos ⟨by rw [hx.1, hr.1], by rw [hx.2.1, hr.2.1]⟩
  rwa [e] at h

set_option maxHeartbeats 1000000 in
theorem refrest7_some (b off cap : Nat) (L : List Rw) (a0 a1 : Option Addr) (c0 c1 k t : Nat) (x : Rw) (w : World) (hL : IsRL w (.slice (some ⟨b, off, none⟩) L.length cap) L) (hx0 : Bytes w (.slice a0 x.1.length c0) x.1) (hx1 : Bytes w (.slice a1 x.2.length c1) x.2) (hD : Ro.Dims k t L) (hE : Ro.Leads L) (hd : Ro.Dim k t x)
    (hk : k ≤ 10000000) (ht : t ≤ 10000000) (hne : L ≠ []) :
    Calls Try.prog 81 #[.slice (some ⟨b, off, none⟩) L.length cap, .agg #[.slice a0 x.1.length c0, .slice a1 x.2.length c1]] w (RowsV w (Ro.rest L x).1 (Ro.rest L x).2) := by
  have hcap : L.length ≤ 9223372036854775807 := by obtain ⟨_, _, _, h1, h2, _⟩ := hL; omega
  have HBW := Lib.hid (hL.block_lt rfl hne)
  clear hne
  have HL := Lib.hid hL
  have HP := Lib.hid hx0
  have HQ := Lib.hid hx1
  have HD := Lib.hid hD
  have HE := Lib.hid hE
  have HX := Lib.hid hd
  clear hL hx0 hx1 hD hE hd
  go_enter Try.func81, Try.ntmps81
  go_wp2_with fail
  obtain ⟨B, hk1, hk2, hs⟩ := blocks2 w #[.slice a0 x.1.length c0, .slice a1 x.2.length c1] 68 #[.slice none 0 0, .slice none 0 0] 68
  generalize ((w.alloc (.cells #[.slice a0 x.1.length c0, .slice a1 x.2.length c1] 68)).alloc (.cells #[.slice none 0 0, .slice none 0 0] 68)) = W at *
  have K1 := Lib.hid hk1
  have K2 := Lib.hid hk2
  have HS := Lib.hid hs
  clear hs hk1 hk2
  replace HP := Lib.hid (HP.out.go B)
  replace HQ := Lib.hid (HQ.out.go B)
  replace HL := Lib.hid (HL.out.go B)
  have hzW := B.size
  have HW := Lib.hid (show w.heap.size + 1 < W.heap.size from K2.out.lt)
  go_wp2_with fail
  go_loopw [6, 7, 10] (fun _ _ i wr => ∃ k : Nat, k ≤ L.length ∧ i = .int .i64 k ∧ Below w.heap.size w wr ∧ ERow wr w.heap.size 68 (Ro.rest (L.take k) x).1 (Ro.rest (L.take k) x).2 ∧ Blk wr (w.heap.size + 1) #[.slice none 0 0, .slice none 0 0] 68 ∧ IsRL wr (.slice (some ⟨b, off, none⟩) L.length cap) L) (fun _ _ i _ => L.length - (intOf i).toNat)
  case atStart => exact ⟨0, by omega, rfl, B, ⟨a0, c0, a1, c1, K1.out, _, _, rfl, HP.out, HQ.out⟩, K2.out, HL.out⟩
  case round =>
    obtain ⟨i, hi, rfl, B, hER, hK2, hLr⟩ := hrel
    by_cases hlt : i < L.length
    · obtain ⟨p0, q0, z0, z1, hb1, hb2⟩ := hLr.cells i hlt
      have HLr := Lib.hid hLr
      have HK2 := Lib.hid hK2
      have HER := Lib.hid hER
      have HB1 := Lib.hid hb1
      have HB2 := Lib.hid hb2
      obtain ⟨pa, pc, rfl, _⟩ := hb1
      obtain ⟨qa, qc, rfl, _⟩ := hb2
      clear hLr hK2 hER
      have HNE := Lib.hid (show wr.heap.size ≠ w.heap.size by have := HK2.out.lt; omega)
      have HLD := Lib.hid (HE.out.at hlt)
      have HDI := Lib.hid (HD.out.at hlt)
      have HLI := Lib.hid (show leadI (rwAt L i).1 = (lead (rwAt L i).1 : Int) from if_pos HLD.out)
      obtain ⟨y, hy⟩ : ∃ y, y = Ro.rest (L.take i) x := ⟨_, rfl⟩
      have HY := Lib.hid hy
      rw [← hy] at HER
      have HYD := Lib.hid (show Ro.Dim k t y by rw [hy]; exact Ro.rest_dim (HD.out.take i) HX.out)
      clear hy
      go_wp2_with fail
      obtain ⟨hb, hk, hs⟩ := blocks1 wr #[.slice pa (rwAt L i).1.length pc, .slice qa (rwAt L i).2.length qc] 68
      generalize wr.alloc (.cells #[.slice pa (rwAt L i).1.length pc, .slice qa (rwAt L i).2.length qc] 68) = W5 at *
      have K3 := Lib.hid hk
      replace HLr := Lib.hid (HLr.out.go hb)
      replace HK2 := Lib.hid (HK2.out.go hb)
      replace HER := Lib.hid (HER.out.go hb)
      replace HB1 := Lib.hid (HB1.out.go hb)
      replace HB2 := Lib.hid (HB2.out.go hb)
      replace B := B.trans (hb.mono B.size)
      have hzW5 := B.size
      clear hb hk hs
      obtain ⟨k30, k31⟩ := K3.out.two
      have k3l := K3.out.lt
      refine (reflead_any _ _ _ HB1.out).mono ?_
      rintro e w' ⟨rfl, rfl⟩
      rw [HLI.out]
      go_wp2_with fail
      obtain ⟨ya, yc, za, zc, hk, hr⟩ := HER.out
      obtain ⟨_, _, er, hyb, hzb⟩ := hr
      simp only [Value.agg.injEq, Array.mk.injEq, List.cons.injEq, and_true] at er
      obtain ⟨rfl, rfl⟩ := er
      have HK := Lib.hid hk
      have HYB := Lib.hid hyb
      have HZB := Lib.hid hzb
      have hlt2 : lead (rwAt L i).1 < y.1.length := by rw [HYD.out.1, ← HDI.out.1]; exact HLD.out
      obtain ⟨yb, yo, rfl⟩ : ∃ yb yo, ya = some ⟨yb, yo, none⟩ := by
        obtain ⟨a', c', e, _, _, _, h4⟩ := hyb
        obtain ⟨b', off', rfl, _⟩ := h4 (by intro e; rw [e] at hlt2; simp at hlt2)
        simp only [Value.slice.injEq] at e
        exact ⟨b', off', e.1⟩
      have HN := Lib.hid (show NoU8 #[.slice (some ⟨yb, yo, none⟩) y.1.length yc, .slice za y.2.length zc] from noU8_two _ _ (slice_ne _ _ _) (slice_ne _ _ _))
      have HG := Lib.hid (show w.heap.size < W5.heap.size from HK.out.lt)
      have l0 : (0 : Int) ≤ (lead (rwAt L i).1 : Int) := Int.natCast_nonneg _
      have l1 : (lead (rwAt L i).1 : Int) < (y.1.length : Int) := by omega
      have HCC := Lib.hid (show nth y.1 (lead (rwAt L i).1) < 256 from nth_lt HYD.out.2.2.1 _)
      clear hk hyb hzb hlt2
      refine wp_region_mono (C := Ce W5 w.heap.size) (R := Rb) (H := He W5 w.heap.size) [TyE.reads HG.out 18 (.agg #[.slice (some ⟨yb, yo, none⟩) y.1.length yc, .slice za y.2.length zc]) #[.slice (some ⟨yb, yo, none⟩) y.1.length yc, .slice za y.2.length zc] 68, TyE.val 19 (.pointer (some ⟨w.heap.size, 0, none⟩)), TyE.reads HG.out 20 (.slice (some ⟨yb, yo, none⟩) y.1.length yc) #[.slice (some ⟨yb, yo, none⟩) y.1.length yc, .slice za y.2.length zc] 68, TyE.val 21 (.int .i64 (lead (rwAt L i).1 : Int)), TyE.val 22 (.pointer (some ⟨yb, yo + lead (rwAt L i).1, none⟩)), TyE.val 23 (U8 (nth y.1 (lead (rwAt L i).1))), TyE.row 24 (rwAt L i).1 (rwAt L i).2, TyE.rowE 25 (Ro.step y (rwAt L i)).1 (Ro.step y (rwAt L i)).2 0, TyE.rowE 17 (Ro.step y (rwAt L i)).1 (Ro.step y (rwAt L i)).2 0, TyE.row 26 (Ro.step y (rwAt L i)).1 (Ro.step y (rwAt L i)).2, TyE.val 27 (.int .i64 0), (TyE.storesRow HG.out #[.slice (some ⟨yb, yo, none⟩) y.1.length yc, .slice za y.2.length zc] 68 (Ro.step y (rwAt L i)).1 (Ro.step y (rwAt L i)).2)] (by kernel_rfl) (hC_e W5 w.heap.size) (hCH_e W5 w.heap.size) (drew_e W5 w.heap.size) ⟨(HK.out), trivial, (HK.out), trivial, trivial, trivial, trivial, trivial, trivial, trivial, trivial, (HK.out), trivial⟩ (by kernel_rfl) ?_ ?_
      · refine ⟨?_, ?_, ?_, ?_, ?_, ?_, ?_, ?_, ?_, ?_, ?_, ?_, trivial⟩
        · intro ac wc hC hsz hfr hd hpr
          have d3 : ac.eval (.tmp 3) = (.pointer (some ⟨w.heap.size, 0, none⟩)) := hfr 3 rfl
          rw [if_pos (wanted_none rfl)]
          have hlt : 18 < ac.tmps.size := (Nat.lt_of_lt_of_eq (by decide : 18 < 30) hsz.symm)
          exact ob_load _ rfl rfl rfl hlt rfl d3 (load_refrow hpr) (Below.refl _ _) rfl
        · intro ac wc hC hsz hfr hd hpr
          have d3 : ac.eval (.tmp 3) = (.pointer (some ⟨w.heap.size, 0, none⟩)) := hfr 3 rfl
          rw [if_pos (wanted_none rfl)]
          exact ob_field _ rfl rfl rfl (Nat.lt_of_lt_of_eq (by decide : 19 < 30) hsz.symm) rfl d3 (fun w => by go_simp) (Below.refl _ _) rfl
        · intro ac wc hC hsz hfr hd hpr
          have d19 : ac.eval (.tmp 19) = (.pointer (some ⟨w.heap.size, 0, none⟩)) := hd 1 rfl
          rw [if_pos (wanted_none rfl)]
          have hlt : 20 < ac.tmps.size := (Nat.lt_of_lt_of_eq (by decide : 20 < 30) hsz.symm)
          exact ob_load _ rfl rfl rfl hlt rfl d19 (load_blk0 hpr) (Below.refl _ _) rfl
        · intro ac wc hC hsz hfr hd hpr
          have d7 : ac.eval (.tmp 7) = (.int .i64 (lead (rwAt L i).1 : Int)) := hfr 7 rfl
          rw [if_pos (wanted_none rfl)]
          exact ob_copy rfl rfl rfl (Nat.lt_of_lt_of_eq (by decide : 21 < 30) hsz.symm) (Or.inl rfl) (Below.refl _ _) d7
        · intro ac wc hC hsz hfr hd hpr
          have d20 : ac.eval (.tmp 20) = (.slice (some ⟨yb, yo, none⟩) y.1.length yc) := hd 2 rfl
          have d21 : ac.eval (.tmp 21) = (.int .i64 (lead (rwAt L i).1 : Int)) := hd 3 rfl
          rw [if_pos (wanted_none rfl)]
          exact ob_index _ rfl rfl rfl (Nat.lt_of_lt_of_eq (by decide : 22 < 30) hsz.symm) rfl d20 d21 (by go_simp) (Below.refl _ _) rfl
        · intro ac wc hC hsz hfr hd hpr
          have d22 : ac.eval (.tmp 22) = (.pointer (some ⟨yb, yo + lead (rwAt L i).1, none⟩)) := hd 4 rfl
          rw [if_pos (wanted_none rfl)]
          exact ob_load _ rfl rfl rfl (Nat.lt_of_lt_of_eq (by decide : 23 < 30) hsz.symm) rfl d22 (load_u8 ((HYB.out.ce hC).cell _ (by omega))) (Below.refl _ _) rfl
        · intro ac wc hC hsz hfr hd hpr
          have d6 : ac.eval (.tmp 6) = (.pointer (some ⟨wr.heap.size, 0, none⟩)) := hfr 6 rfl
          rw [if_pos (wanted_none rfl)]
          exact ob_load _ rfl rfl rfl (Nat.lt_of_lt_of_eq (by decide : 24 < 30) hsz.symm) rfl d6 (load_refrow (K3.out.ce hC HNE.out)) (Below.refl _ _) (⟨_, _, rfl, HB1.out.ce hC, HB2.out.ce hC⟩)
        · intro ac wc hC hsz hfr hd hpr
          have d18 : ac.eval (.tmp 18) = (.agg #[.slice (some ⟨yb, yo, none⟩) y.1.length yc, .slice za y.2.length zc]) := hd 0 rfl
          have d23 : ac.eval (.tmp 23) = (U8 (nth y.1 (lead (rwAt L i).1))) := hd 5 rfl
          have d24 : IsRow wc (ac.eval (.tmp 24)) (rwAt L i).1 (rwAt L i).2 := hd 6 rfl
          rw [if_pos (wanted_none rfl)]
          refine ob_call rfl rfl rfl (Nat.lt_of_lt_of_eq (by decide : 25 < 30) hsz.symm) rfl (enter_of Try.func70 (by kernel_rfl) rfl) ?_
          show Calls Try.prog 70 #[ac.eval (.tmp 18), ac.eval (.tmp 23), ac.eval (.tmp 24)] wc _
          rw [d18, d23]
          exact (refless_step y (rwAt L i) _ _ wc HYD.out HDI.out hk ht HCC.out ⟨_, _, rfl, HYB.out.ce hC, HZB.out.ce hC⟩ d24).mono fun _ _ ⟨u, he, hu, hb⟩ => ⟨_, he, ⟨u, rfl, hu⟩, hb⟩
        · intro ac wc hC hsz hfr hd hpr
          have d25 : ∃ u, ac.eval (.tmp 25) = .tuple #[u, .int .i64 0] ∧ IsRow wc (u) (Ro.step y (rwAt L i)).1 (Ro.step y (rwAt L i)).2 := hd 7 rfl
          rw [if_pos (wanted_none rfl)]
          exact ob_copy rfl rfl rfl (Nat.lt_of_lt_of_eq (by decide : 17 < 30) hsz.symm) (Or.inl rfl) (Below.refl _ _) d25
        · intro ac wc hC hsz hfr hd hpr
          have d17 : ∃ u, ac.eval (.tmp 17) = .tuple #[u, .int .i64 0] ∧ IsRow wc (u) (Ro.step y (rwAt L i)).1 (Ro.step y (rwAt L i)).2 := hd 8 rfl
          rw [if_pos (wanted_none rfl)]
          obtain ⟨u, eu, hu⟩ := d17
          exact ob_extract _ rfl rfl rfl (Nat.lt_of_lt_of_eq (by decide : 26 < 30) hsz.symm) rfl eu (extract0 _ _) (Below.refl _ _) hu
        · intro ac wc hC hsz hfr hd hpr
          have d17 : ∃ u, ac.eval (.tmp 17) = .tuple #[u, .int .i64 0] ∧ IsRow wc (u) (Ro.step y (rwAt L i)).1 (Ro.step y (rwAt L i)).2 := hd 8 rfl
          rw [if_pos (wanted_none rfl)]
          obtain ⟨u, eu, hu⟩ := d17
          exact ob_extract _ rfl rfl rfl (Nat.lt_of_lt_of_eq (by decide : 27 < 30) hsz.symm) rfl eu (extract1 _ _) (Below.refl _ _) rfl
        · intro ac wc hC hsz hfr hd hpr
          have d3 : ac.eval (.tmp 3) = (.pointer (some ⟨w.heap.size, 0, none⟩)) := hfr 3 rfl
          have d26 : IsRow wc (ac.eval (.tmp 26)) (Ro.step y (rwAt L i)).1 (Ro.step y (rwAt L i)).2 := hd 9 rfl
          rw [if_pos (wanted_none rfl)]
          have hlt : 0 < ac.tmps.size := (Nat.lt_of_lt_of_eq (by decide : 0 < 30) hsz.symm)
          exact ob_storesRow_ref HG.out rfl d3 d26 hpr HN.out
      intro a' W6 hC hdef hsz hfr hd
      have e18 : a'.eval (.tmp 18) = (.agg #[.slice (some ⟨yb, yo, none⟩) y.1.length yc, .slice za y.2.length zc]) := hd 0 (by decide)
      have e19 : a'.eval (.tmp 19) = (.pointer (some ⟨w.heap.size, 0, none⟩)) := hd 1 (by decide)
      have e20 : a'.eval (.tmp 20) = (.slice (some ⟨yb, yo, none⟩) y.1.length yc) := hd 2 (by decide)
      have e21 : a'.eval (.tmp 21) = (.int .i64 (lead (rwAt L i).1 : Int)) := hd 3 (by decide)
      have e22 : a'.eval (.tmp 22) = (.pointer (some ⟨yb, yo + lead (rwAt L i).1, none⟩)) := hd 4 (by decide)
      have e23 : a'.eval (.tmp 23) = (U8 (nth y.1 (lead (rwAt L i).1))) := hd 5 (by decide)
      obtain ⟨x24, e24, r24⟩ : ∃ xq_, a'.eval (.tmp 24) = xq_ ∧ IsRow W6 (xq_) (rwAt L i).1 (rwAt L i).2 := ⟨_, rfl, hd 6 (by decide)⟩
      replace r24 := Lib.hid r24
      obtain ⟨x25, e25, r25⟩ : ∃ u, a'.eval (.tmp 25) = .tuple #[u, .int .i64 0] ∧ IsRow W6 (u) (Ro.step y (rwAt L i)).1 (Ro.step y (rwAt L i)).2 := hd 7 (by decide)
      replace r25 := Lib.hid r25
      obtain ⟨x17, e17, r17⟩ : ∃ u, a'.eval (.tmp 17) = .tuple #[u, .int .i64 0] ∧ IsRow W6 (u) (Ro.step y (rwAt L i)).1 (Ro.step y (rwAt L i)).2 := hd 8 (by decide)
      replace r17 := Lib.hid r17
      obtain ⟨x26, e26, r26⟩ : ∃ xq_, a'.eval (.tmp 26) = xq_ ∧ IsRow W6 (xq_) (Ro.step y (rwAt L i)).1 (Ro.step y (rwAt L i)).2 := ⟨_, rfl, hd 9 (by decide)⟩
      replace r26 := Lib.hid r26
      have e27 : a'.eval (.tmp 27) = (.int .i64 0) := hd 10 (by decide)
      have st11 : ERow W6 w.heap.size 68 (Ro.step y (rwAt L i)).1 (Ro.step y (rwAt L i)).2 := hd 11 (by decide)
      replace st11 := Lib.hid st11
      have hact := act_puts hdef hsz hfr
      simp only [dstsOf, List.filterMap, putAll, Act.put, List.setIfInBounds_toArray, List.set_cons_succ, List.set_cons_zero, e18, e19, e20, e21, e22, e23, e24, e25, e17, e26, e27] at hact
      clear hd hfr hsz hdef e18 e19 e20 e21 e22 e23 e24 e25 e17 e26 e27
      subst hact
      have hz5 := B.size
      have HBN := Lib.hid (below_grown B hC.1 hz5 (Nat.le_refl _))
      have HK2N := Lib.hid (HK2.out.ce hC (by omega))
      have HLN := Lib.hid (HLr.out.keep hC.2 fun b' e hne => hC.1.block b' (HLr.out.block_lt e hne) (by
        simp only [Value.ownBlock, Option.some.injEq] at e
        have := HBW.out
        simp; omega))
      have HST := Lib.hid (show Ro.rest (L.take (i + 1)) x = Ro.step y (rwAt L i) by rw [Ro.rest_take_succ L x i hlt, ← HY.out])
      clear hC
      go_wp2_with fail
      go_roundw
      case rel => exact ⟨i + 1, by omega, by go_num, HBN.out, by rw [HST.out]; exact st11.out, HK2N.out, HLN.out⟩
      case measure => simp [intOf]; omega
    · obtain rfl : i = L.length := by omega
      rw [List.take_length] at hER
      obtain ⟨ya, yc, za, zc, hk3, hr⟩ := hER
      have HR := Lib.hid hr
      have HK2 := Lib.hid hK2
      have HK3 := Lib.hid hk3
      clear hLr hr hK2 hk3
      obtain ⟨k30, k31⟩ := HK3.out.two
      obtain ⟨k20, k21⟩ := HK2.out.two
      obtain ⟨f20, f21⟩ := HK2.out.fre2
      go_wp2_with fail
      obtain ⟨e0, e1, hB, hS⟩ := store2 HK2.out (Nat.le_succ _) B (slice_ne _ _ _) (slice_ne _ _ _) (.slice ya (Ro.rest L x).1.length yc) (.slice za (Ro.rest L x).2.length zc)
      obtain ⟨_, _, er, hyb, hzb⟩ := HR.out
      simp only [Value.agg.injEq, Array.mk.injEq, List.cons.injEq, and_true] at er
      obtain ⟨rfl, rfl⟩ := er
      exact bodyPost_ret (v := .agg #[.slice ya (Ro.rest L x).1.length yc, .slice za (Ro.rest L x).2.length zc]) (by simp [results, Try.results81, go_sem, e0, e1]) rfl
        ⟨_, rfl, ⟨_, _, rfl, hS _ _ hyb, hS _ _ hzb⟩, hB⟩

set_option maxHeartbeats 400000 in
theorem refrest7_empty (a : Option Addr) (cap : Nat) (a0 a1 : Option Addr) (c0 c1 : Nat) (x : Rw) (w : World) (hx0 : Bytes w (.slice a0 x.1.length c0) x.1) (hx1 : Bytes w (.slice a1 x.2.length c1) x.2) :
    Calls Try.prog 81 #[.slice a 0 cap, .agg #[.slice a0 x.1.length c0, .slice a1 x.2.length c1]] w (RowsV w x.1 x.2) := by
  have HP := Lib.hid hx0
  have HQ := Lib.hid hx1
  clear hx0 hx1
  go_enter Try.func81, Try.ntmps81
  go_wp2_with fail
  obtain ⟨B, hk1, hk2, hs⟩ := blocks2 w #[.slice a0 x.1.length c0, .slice a1 x.2.length c1] 68 #[.slice none 0 0, .slice none 0 0] 68
  generalize ((w.alloc (.cells #[.slice a0 x.1.length c0, .slice a1 x.2.length c1] 68)).alloc (.cells #[.slice none 0 0, .slice none 0 0] 68)) = W at *
  have K1 := Lib.hid hk1
  have K2 := Lib.hid hk2
  have HS := Lib.hid hs
  clear hs hk1 hk2
  replace HP := Lib.hid (HP.out.go B)
  replace HQ := Lib.hid (HQ.out.go B)
  have hzW := B.size
  obtain ⟨k10, k11⟩ := K1.out.two
  have k1l := K1.out.lt
  obtain ⟨k20, k21⟩ := K2.out.two
  have k2l := K2.out.lt
  obtain ⟨k2f0, k2f1⟩ := K2.out.fre2
  go_wp2_with fail
  refine wp_loop_rounds 1 ?_
  rw [rounds_succ]
  go_wp2_with fail
  obtain ⟨e0, e1, hB, hS⟩ := store2 K2.out (Nat.le_succ _) B (slice_ne _ _ _) (slice_ne _ _ _) (.slice a0 x.1.length c0) (.slice a1 x.2.length c1)
  exact bodyPost_ret (v := .agg #[.slice a0 x.1.length c0, .slice a1 x.2.length c1]) (by simp [results, Try.results81, go_sem, e0, e1]) rfl
    ⟨_, rfl, ⟨_, _, rfl, hS _ _ HP.out, hS _ _ HQ.out⟩, hB⟩

theorem refrest7_any (v u : Value) (L : List Rw) (k t : Nat) (x : Rw) (w : World) (hL : IsRL w v L) (hx : IsRow w u x.1 x.2) (hD : Ro.Dims k t L) (hE : Ro.Leads L) (hd : Ro.Dim k t x) (hk : k ≤ 10000000) (ht : t ≤ 10000000) :
    Calls Try.prog 81 #[v, u] w (RowsV w (Ro.rest L x).1 (Ro.rest L x).2) := by
  obtain ⟨v0, d0, rfl, h0, h1⟩ := hx
  have g0 := h0
  have g1 := h1
  obtain ⟨a0, c0, rfl, _⟩ := h0
  obtain ⟨a1, c1, rfl, _⟩ := h1
  by_cases hne : L = []
  · subst hne
    obtain ⟨a, c, rfl⟩ := hL.shape
    exact refrest7_empty a c a0 a1 c0 c1 x w g0 g1
  · obtain ⟨b, off, c, rfl, _⟩ := hL.addr (List.length_pos_iff.2 hne)
    exact refrest7_some b off c L a0 a1 c0 c1 k t x w hL g0 g1 hD hE hd hk ht hne

end Go.Proofs.Ytohfcdgpllghbaa

/-
  The document's answer for grids (wellspringref07), in the program: 'Insert'.
-/
set_option maxRecDepth 100000
namespace Go.Proofs.Ytohfcdgpllghbaa
open Go.RowKit

theorem reflead_lt (v : Value) (l : List Nat) (w : World) (hB : Bytes w v l) (h : lead l < l.length) :
    Calls Try.prog 71 #[v] w fun e w' => e = .returned (.int .i64 (lead l : Int)) ∧ w = w' := by
  have h1 := reflead_any v l w hB
  rwa [show leadI l = (lead l : Int) from if_pos h] at h1

/-- What Insert answers: the list itself, where nothing is left; else a new one. -/
def InsV (w : World) (v : Value) (L : List Rw) (x : Rw) (e : Ending) (w' : World) : Prop := ∃ v', e = .returned v' ∧ Below w.heap.size w w' ∧ ((v' = v ∧ Ro.insert L x = L) ∨ (OwnL w' w.heap.size 68 v' (Ro.insert L x) ∧ Ro.insert L x ≠ []))


set_option maxHeartbeats 1000000 in
theorem refinsert7_some (b off cap : Nat) (L : List Rw) (a0 a1 : Option Addr) (c0 c1 k t : Nat) (x : Rw) (w : World) (hL : IsRL w (.slice (some ⟨b, off, none⟩) L.length cap) L) (hx0 : Bytes w (.slice a0 x.1.length c0) x.1) (hx1 : Bytes w (.slice a1 x.2.length c1) x.2) (hD : Ro.Dims k t L) (hE : Ro.Leads L) (hd : Ro.Dim k t x)
    (hk : k ≤ 10000000) (ht : t ≤ 10000000) (hne : L ≠ []) (hlen : L.length ≤ 1000000000) :
    Calls Try.prog 60 #[.slice (some ⟨b, off, none⟩) L.length cap, .agg #[.slice a0 x.1.length c0, .slice a1 x.2.length c1]] w (InsV w (.slice (some ⟨b, off, none⟩) L.length cap) L x) := by
  have hcap : L.length ≤ 9223372036854775807 := by omega
  obtain ⟨hcl, hcm⟩ : L.length ≤ cap ∧ cap ≤ 9223372036854775807 := by
    obtain ⟨_, _, e, h1, h2, _⟩ := hL
    simp only [Value.slice.injEq] at e
    rw [e.2.2]; exact ⟨h1, h2⟩
  have HBW := Lib.hid (hL.block_lt rfl hne)
  have HNE := Lib.hid hne
  have HL := Lib.hid hL
  have HP := Lib.hid hx0
  have HQ := Lib.hid hx1
  have HD := Lib.hid hD
  have HE := Lib.hid hE
  have HX := Lib.hid hd
  obtain ⟨y, hy⟩ : ∃ y, y = Ro.norm (Ro.rest L x) := ⟨_, rfl⟩
  have HY := Lib.hid hy
  have HYD := Lib.hid (show Ro.Dim k t y by rw [hy]; exact Ro.norm_dim (Ro.rest_dim hD hd))
  have HRD := Lib.hid (Ro.rest_dim hD hd)
  clear hL hx0 hx1 hD hE hd hne hy
  go_enter Try.func60, Try.ntmps60
  go_wp2_with fail
  obtain ⟨B, hk1, hs⟩ := blocks1 w #[.slice a0 x.1.length c0, .slice a1 x.2.length c1] 68
  generalize (w.alloc (.cells #[.slice a0 x.1.length c0, .slice a1 x.2.length c1] 68)) = W at *
  have K1 := Lib.hid hk1
  have HS := Lib.hid hs
  clear hs hk1
  replace HP := Lib.hid (HP.out.go B)
  replace HQ := Lib.hid (HQ.out.go B)
  replace HL := Lib.hid (HL.out.go B)
  have hzW := B.size
  obtain ⟨k10, k11⟩ := K1.out.two
  have k1l := K1.out.lt
  go_wp2_with fail
  refine (refrest7_any _ _ L k t x _ HL.out ⟨_, _, rfl, HP.out, HQ.out⟩ HD.out HE.out HX.out hk ht).mono ?_
  rintro e w1 ⟨u1, rfl, hu1, hb⟩
  replace HL := Lib.hid (HL.out.go hb)
  replace K1 := Lib.hid (K1.out.go hb)
  replace B := B.trans (hb.mono B.size)
  have hzw1 := B.size
  clear hb
  have HU := Lib.hid hu1
  clear hu1
  go_wp2_with fail
  refine (refnorm_any _ _ _ _ HU.out (by rw [HRD.out.1]; exact hk) (by rw [HRD.out.2.1]; exact ht)).mono ?_
  rintro e w2 ⟨u2, rfl, hu2, hb⟩
  replace HL := Lib.hid (HL.out.go hb)
  replace K1 := Lib.hid (K1.out.go hb)
  replace B := B.trans (hb.mono B.size)
  have hzw2 := B.size
  clear hb
  replace hu2 : IsRow w2 u2 y.1 y.2 := by rw [HY.out]; exact hu2
  obtain ⟨ya, yc, za, zc, rfl⟩ := hu2.shape
  have HU2 := Lib.hid hu2
  clear hu2
  obtain ⟨k10, k11⟩ := K1.out.two
  have k1l := K1.out.lt
  obtain ⟨k1f0, k1f1⟩ := K1.out.fre2
  go_wp2_with fail
  obtain ⟨g4, s4, h4⟩ := store_row (x' := .slice ya y.1.length yc) (y' := .slice za y.2.length zc) K1.out (noU8_two _ _ (slice_ne _ _ _) (slice_ne _ _ _)) HU2.out (fun _ _ _ _ e => by
    simp only [Value.agg.injEq, Array.mk.injEq, List.cons.injEq, and_true] at e
    exact ⟨_, _, rfl, rfl, e.1, e.2⟩)
  have HK := Lib.hid (K1.out.set2 (.slice ya y.1.length yc) (.slice za y.2.length zc))
  have HR := Lib.hid (HU2.out.soft s4)
  have HL4 := Lib.hid (HL.out.keep s4 fun b' e hne => g4.block b' (HL.out.block_lt e hne) (by
    simp only [Value.ownBlock, Option.some.injEq] at e
    have := HBW.out
    simp; omega))
  replace B := below_grown B g4 B.size (Nat.le_refl _)
  clear g4 s4 h4 HL K1 HU2 HU
  generalize hW4 : ((w2.setCell ⟨w.heap.size, 0, none⟩ (.slice ya y.1.length yc)).setCell ⟨w.heap.size, 1, none⟩ (.slice za y.2.length zc)) = W4 at *
  clear hW4
  obtain ⟨_, _, er, hyb, hzb⟩ := HR.out
  simp only [Value.agg.injEq, Array.mk.injEq, List.cons.injEq, and_true] at er
  obtain ⟨rfl, rfl⟩ := er
  have HYB := Lib.hid hyb
  have HZB := Lib.hid hzb
  clear hyb hzb
  obtain ⟨hk0, hk1⟩ := HK.out.two
  have hkl := HK.out.lt
  go_wp2_with fail
  refine (reflead_any _ _ _ HYB.out).mono ?_
  rintro e w' ⟨rfl, rfl⟩
  by_cases hl : lead y.1 < y.1.length
  · have HLI := Lib.hid (show leadI y.1 = (lead y.1 : Int) from if_pos hl)
    have HLY := Lib.hid hl
    have l0 : (0 : Int) ≤ (lead y.1 : Int) := Int.natCast_nonneg _
    rw [HLI.out]
    clear hl
    go_wp2_with fail
    have hz4 := B.size
    obtain ⟨w0, hw0⟩ : ∃ w0 : World, w0 = W4 := ⟨_, rfl⟩
    subst hw0
    go_loopw [5] (fun i wr => ∃ j : Nat, j ≤ L.length ∧ i = .int .i64 j ∧ (∀ i, i < j → lead (rwAt L i).1 < lead y.1) ∧ Below w0.heap.size w0 wr) (fun i _ => L.length - (intOf i).toNat)
    case atStart => exact ⟨0, by omega, rfl, fun i hi => by omega, Below.refl _ _⟩
    case round =>
      obtain ⟨j, hj, rfl, hno, hb⟩ := hrel
      have HN := Lib.hid hno
      have HLr := Lib.hid (HL4.out.go hb)
      have HKr := Lib.hid (HK.out.go hb)
      have HYr := Lib.hid (HYB.out.go hb)
      have HZr := Lib.hid (HZB.out.go hb)
      have HBB := Lib.hid hb
      replace B := B.trans (hb.mono hz4)
      clear hb hno hk0 hk1 hkl
      obtain ⟨hkr0, hkr1⟩ := HKr.out.two
      have hkrl := HKr.out.lt
      have j0 : (0 : Int) ≤ (j : Int) := Int.natCast_nonneg _
      have jc : (j : Int) ≤ (cap : Int) := by omega
      have jl : (j : Int) ≤ (L.length : Int) := by omega
      have lc : (L.length : Int) ≤ (cap : Int) := by omega
      by_cases hgo : j < L.length ∧ lead (rwAt L j).1 < lead y.1
      · obtain ⟨hlt, hll⟩ := hgo
        obtain ⟨p0, q0, z0, z1, hb1, hb2⟩ := HLr.out.cells j hlt
        have HB1 := Lib.hid hb1
        obtain ⟨pa, pc, rfl, _⟩ := hb1
        obtain ⟨qa, qc, rfl, _⟩ := hb2
        have HLD := Lib.hid (HE.out.at hlt)
        have j1 : decide ((j : Int) < (L.length : Int)) = true := by simpa using hlt
        have j2 : decide ((lead (rwAt L j).1 : Int) < (lead y.1 : Int)) = true := by simpa using hll
        have HLL := Lib.hid hll
        have jj1 : (j : Int) < (L.length : Int) := by omega
        clear hll
        go_wp2_with fail
        go_quiet ((go_at_call 71; first | exact quiet_eq (reflead_lt _ (rwAt L j).1 _ (HB1.out.drewN _) HLD.out) | exact quiet_eq (reflead_lt _ y.1 _ (HYr.out.drewN _) HLY.out)))
        go_wp2_with fail
        go_roundw
        case rel => exact ⟨j + 1, by omega, by go_num, fun i hi => by
          by_cases h : i = j
          · rw [h]; exact HLL.out
          · exact HN.out i (by omega), below_drewN HBB.out _⟩
        case measure => simp [intOf]; omega
      · have HA := Lib.hid (show Ro.ahead L y = j from Ro.ahead_eq hj HN.out (by
          by_cases h : j < L.length
          · exact .inr fun h' => hgo ⟨h, h'⟩
          · exact .inl (by omega)))
        have HIN := Lib.hid (show Ro.insert L x = L.take j ++ y :: L.drop j by
          unfold Ro.insert
          rw [← HY.out, if_pos HLY.out]
          unfold Ro.put
          rw [HA.out])
        rcases (show (j < L.length ∧ decide ((lead (rwAt L j).1 : Int) < (lead y.1 : Int)) = false) ∨ decide ((j : Int) < (L.length : Int)) = false from by
          by_cases h : j < L.length
          · left; exact ⟨h, by simp only [decide_eq_false_iff_not]; intro h'; exact hgo ⟨h, by omega⟩⟩
          · right; simp; omega) with ⟨gb, go2⟩ | go2
        · clear hgo
          obtain ⟨p0, q0, z0, z1, hb1, hb2⟩ := HLr.out.cells j gb
          have HB1 := Lib.hid hb1
          obtain ⟨pa, pc, rfl, _⟩ := hb1
          obtain ⟨qa, qc, rfl, _⟩ := hb2
          have HLD := Lib.hid (HE.out.at gb)
          have j1 : decide ((j : Int) < (L.length : Int)) = true := by simpa using gb
          have jj1 : (j : Int) < (L.length : Int) := by omega
          have j3 : ¬ lead (rwAt L j).1 < lead y.1 := by
            simp only [decide_eq_false_iff_not] at go2; omega
          go_wp2_with fail
          go_quiet ((go_at_call 71; first | exact quiet_eq (reflead_lt _ (rwAt L j).1 _ (HB1.out.drewN _) HLD.out) | exact quiet_eq (reflead_lt _ y.1 _ (HYr.out.drewN _) HLY.out)))
          go_wp2_with (at_builtin; refine wpList_append_rows rfl (.tmp 34) (.tmp 37) rfl wr.heap.size _ _ [] (L.take j) rfl rfl (OwnL.nil _ _ _) ((HLr.out.go (below_drews wr _)).take hj) ?c1 ?c2 ?_)
          case c1 => exact (below_drews wr _).size
          case c2 => simp; omega
          intro v5 w5 ho5 hg5 hs5
          have HO5 := Lib.hid (show OwnL w5 wr.heap.size 68 v5 (L.take j) by simpa using ho5)
          have HB5 := Lib.hid (show Below wr.heap.size wr w5 from (below_drews wr _).grown hg5 (below_drews wr _).size (fun k e => by cases e))
          clear ho5 hg5 hs5
          have hkr0 : w5.cell? ⟨w.heap.size, 0, none⟩ = some (.slice ya y.1.length yc) := (HKr.out.go HB5.out).cell 0
          have hkr1 : w5.cell? ⟨w.heap.size, 1, none⟩ = some (.slice za y.2.length zc) := (HKr.out.go HB5.out).cell 1
          have hkrl : w.heap.size < w5.heap.size := (HKr.out.go HB5.out).lt
          go_wp2_with (at_builtin; refine wpList_append_rows rfl (.tmp 39) (.tmp 41) rfl wr.heap.size _ _ (L.take j) [y] rfl rfl (HO5.out.go ((Below.refl _ _).alloc (Nat.le_refl _) _)) (IsRL.one w5.heap.size rfl (HYr.out.go HB5.out) (HZr.out.go HB5.out)) ?c3 ?c4 ?_)
          case c3 => have := HB5.out.size; simp; omega
          case c4 => simp; omega
          intro v6 w6 ho6 hg6 hs6
          have HO6 := Lib.hid (show OwnL w6 wr.heap.size 68 v6 (L.take j ++ [y]) by simpa using ho6)
          have HB6 := Lib.hid (show Below wr.heap.size wr w6 from (HB5.out.alloc HB5.out.size _).grown hg6 (by have := HB5.out.size; simp; omega) HO5.out.from)
          clear ho6 hg6 hs6
          go_wp2_with (at_builtin; refine wpList_append_rows rfl (.tmp 43) (.tmp 46) rfl wr.heap.size _ _ (L.take j ++ [y]) (L.drop j) rfl rfl HO6.out ((HLr.out.go HB6.out).drop hj _ (by intro h; first | rfl | (exact absurd h (by omega))) (cap - j) (by omega) (by omega)) ?c5 ?c6 ?_)
          case c5 => have := HB6.out.size; omega
          case c6 => simp; omega
          intro v7 w7 ho7 hg7 hs7
          have HO7 := Lib.hid ho7
          have HB7 := Lib.hid (show Below wr.heap.size wr w7 from HB6.out.grown hg7 HB6.out.size HO6.out.from)
          clear ho7 hg7 hs7
          have hzr := B.size
          go_wp2_with fail
          go_ret
          exact ⟨_, rfl, B.trans (HB7.out.mono hzr), .inr (by rw [HIN.out]; have h := HO7.out.mono hzr; exact ⟨by simpa using h, by simp⟩)⟩
        · clear hgo
          obtain rfl : j = L.length := by simp only [decide_eq_false_iff_not] at go2; omega
          clear go2
          by_cases hcq : cap = L.length
          · subst hcq
            clear jc lc jl
            go_wp2_with fail
            go_quiet (fail)
            go_wp2_with (at_builtin; refine wpList_append_rows rfl (.tmp 34) (.tmp 37) rfl wr.heap.size _ _ [] (L.take L.length) rfl rfl (OwnL.nil _ _ _) ((HLr.out.go (below_drews wr _)).take hj) ?c1 ?c2 ?_)
            case c1 => exact (below_drews wr _).size
            case c2 => simp; omega
            intro v5 w5 ho5 hg5 hs5
            have HO5 := Lib.hid (show OwnL w5 wr.heap.size 68 v5 (L.take L.length) by simpa using ho5)
            have HB5 := Lib.hid (show Below wr.heap.size wr w5 from (below_drews wr _).grown hg5 (below_drews wr _).size (fun k e => by cases e))
            clear ho5 hg5 hs5
            have hkr0 : w5.cell? ⟨w.heap.size, 0, none⟩ = some (.slice ya y.1.length yc) := (HKr.out.go HB5.out).cell 0
            have hkr1 : w5.cell? ⟨w.heap.size, 1, none⟩ = some (.slice za y.2.length zc) := (HKr.out.go HB5.out).cell 1
            have hkrl : w.heap.size < w5.heap.size := (HKr.out.go HB5.out).lt
            go_wp2_with (at_builtin; refine wpList_append_rows rfl (.tmp 39) (.tmp 41) rfl wr.heap.size _ _ (L.take L.length) [y] rfl rfl (HO5.out.go ((Below.refl _ _).alloc (Nat.le_refl _) _)) (IsRL.one w5.heap.size rfl (HYr.out.go HB5.out) (HZr.out.go HB5.out)) ?c3 ?c4 ?_)
            case c3 => have := HB5.out.size; simp; omega
            case c4 => simp; omega
            intro v6 w6 ho6 hg6 hs6
            have HO6 := Lib.hid (show OwnL w6 wr.heap.size 68 v6 (L.take L.length ++ [y]) by simpa using ho6)
            have HB6 := Lib.hid (show Below wr.heap.size wr w6 from (HB5.out.alloc HB5.out.size _).grown hg6 (by have := HB5.out.size; simp; omega) HO5.out.from)
            clear ho6 hg6 hs6
            go_wp2_with (at_builtin; refine wpList_append_rows rfl (.tmp 43) (.tmp 46) rfl wr.heap.size _ _ (L.take L.length ++ [y]) [] rfl rfl HO6.out (isRL_none _ _ _ (by omega)) ?c5 ?c6 ?_)
            case c5 => have := HB6.out.size; omega
            case c6 => simp; omega
            intro v7 w7 ho7 hg7 hs7
            have HO7 := Lib.hid ho7
            have HB7 := Lib.hid (show Below wr.heap.size wr w7 from HB6.out.grown hg7 HB6.out.size HO6.out.from)
            clear ho7 hg7 hs7
            have hzr := B.size
            go_wp2_with fail
            go_ret
            exact ⟨_, rfl, B.trans (HB7.out.mono hzr), .inr (by rw [HIN.out]; have h := HO7.out.mono hzr; exact ⟨by simpa using h, by simp⟩)⟩
          · have hcq2 : ¬ L.length = cap := fun h => hcq h.symm
            go_wp2_with fail
            go_quiet (fail)
            go_wp2_with (at_builtin; refine wpList_append_rows rfl (.tmp 34) (.tmp 37) rfl wr.heap.size _ _ [] (L.take L.length) rfl rfl (OwnL.nil _ _ _) ((HLr.out.go (below_drews wr _)).take hj) ?c1 ?c2 ?_)
            case c1 => exact (below_drews wr _).size
            case c2 => simp; omega
            intro v5 w5 ho5 hg5 hs5
            have HO5 := Lib.hid (show OwnL w5 wr.heap.size 68 v5 (L.take L.length) by simpa using ho5)
            have HB5 := Lib.hid (show Below wr.heap.size wr w5 from (below_drews wr _).grown hg5 (below_drews wr _).size (fun k e => by cases e))
            clear ho5 hg5 hs5
            have hkr0 : w5.cell? ⟨w.heap.size, 0, none⟩ = some (.slice ya y.1.length yc) := (HKr.out.go HB5.out).cell 0
            have hkr1 : w5.cell? ⟨w.heap.size, 1, none⟩ = some (.slice za y.2.length zc) := (HKr.out.go HB5.out).cell 1
            have hkrl : w.heap.size < w5.heap.size := (HKr.out.go HB5.out).lt
            go_wp2_with (at_builtin; refine wpList_append_rows rfl (.tmp 39) (.tmp 41) rfl wr.heap.size _ _ (L.take L.length) [y] rfl rfl (HO5.out.go ((Below.refl _ _).alloc (Nat.le_refl _) _)) (IsRL.one w5.heap.size rfl (HYr.out.go HB5.out) (HZr.out.go HB5.out)) ?c3 ?c4 ?_)
            case c3 => have := HB5.out.size; simp; omega
            case c4 => simp; omega
            intro v6 w6 ho6 hg6 hs6
            have HO6 := Lib.hid (show OwnL w6 wr.heap.size 68 v6 (L.take L.length ++ [y]) by simpa using ho6)
            have HB6 := Lib.hid (show Below wr.heap.size wr w6 from (HB5.out.alloc HB5.out.size _).grown hg6 (by have := HB5.out.size; simp; omega) HO5.out.from)
            clear ho6 hg6 hs6
            go_wp2_with (at_builtin; refine wpList_append_rows rfl (.tmp 43) (.tmp 46) rfl wr.heap.size _ _ (L.take L.length ++ [y]) [] rfl rfl HO6.out (isRL_none _ _ _ (by omega)) ?c5 ?c6 ?_)
            case c5 => have := HB6.out.size; omega
            case c6 => simp; omega
            intro v7 w7 ho7 hg7 hs7
            have HO7 := Lib.hid ho7
            have HB7 := Lib.hid (show Below wr.heap.size wr w7 from HB6.out.grown hg7 HB6.out.size HO6.out.from)
            clear ho7 hg7 hs7
            have hzr := B.size
            go_wp2_with fail
            go_ret
            exact ⟨_, rfl, B.trans (HB7.out.mono hzr), .inr (by rw [HIN.out]; have h := HO7.out.mono hzr; exact ⟨by simpa using h, by simp⟩)⟩
  · have HLI := Lib.hid (show leadI y.1 = -1 from if_neg hl)
    rw [HLI.out]
    go_wp2_with fail
    go_ret
    refine ⟨_, rfl, B, .inl ⟨rfl, ?_⟩⟩
    unfold Ro.insert
    rw [← HY.out, if_neg hl]

set_option maxHeartbeats 1000000 in
theorem refinsert7_empty (a0 a1 : Option Addr) (c0 c1 k t : Nat) (x : Rw) (w : World) (hx0 : Bytes w (.slice a0 x.1.length c0) x.1) (hx1 : Bytes w (.slice a1 x.2.length c1) x.2) (hd : Ro.Dim k t x) (hk : k ≤ 10000000) (ht : t ≤ 10000000) :
    Calls Try.prog 60 #[.slice none 0 0, .agg #[.slice a0 x.1.length c0, .slice a1 x.2.length c1]] w (InsV w (.slice none 0 0) [] x) := by
  have HP := Lib.hid hx0
  have HQ := Lib.hid hx1
  have HX := Lib.hid hd
  obtain ⟨y, hy⟩ : ∃ y, y = Ro.norm (Ro.rest [] x) := ⟨_, rfl⟩
  have HY := Lib.hid hy
  have HYD := Lib.hid (show Ro.Dim k t y by rw [hy]; exact Ro.norm_dim hd)
  clear hx0 hx1 hd hy
  go_enter Try.func60, Try.ntmps60
  go_wp2_with fail
  obtain ⟨B, hk1, hs⟩ := blocks1 w #[.slice a0 x.1.length c0, .slice a1 x.2.length c1] 68
  generalize (w.alloc (.cells #[.slice a0 x.1.length c0, .slice a1 x.2.length c1] 68)) = W at *
  have K1 := Lib.hid hk1
  have HS := Lib.hid hs
  clear hs hk1
  replace HP := Lib.hid (HP.out.go B)
  replace HQ := Lib.hid (HQ.out.go B)
  have hzW := B.size
  obtain ⟨k10, k11⟩ := K1.out.two
  have k1l := K1.out.lt
  go_wp2_with fail
  refine (refrest7_any _ _ [] k t x _ (IsRL.nil _) ⟨_, _, rfl, HP.out, HQ.out⟩ (fun r h => by cases h) (fun r h => by cases h) HX.out hk ht).mono ?_
  rintro e w1 ⟨u1, rfl, hu1, hb⟩
  replace K1 := Lib.hid (K1.out.go hb)
  replace B := B.trans (hb.mono B.size)
  have hzw1 := B.size
  clear hb
  have HU := Lib.hid hu1
  clear hu1
  go_wp2_with fail
  refine (refnorm_any _ _ _ _ HU.out (by show x.1.length ≤ _; rw [HX.out.1]; exact hk) (by show x.2.length ≤ _; rw [HX.out.2.1]; exact ht)).mono ?_
  rintro e w2 ⟨u2, rfl, hu2, hb⟩
  replace K1 := Lib.hid (K1.out.go hb)
  replace B := B.trans (hb.mono B.size)
  have hzw2 := B.size
  clear hb
  replace hu2 : IsRow w2 u2 y.1 y.2 := by rw [HY.out]; exact hu2
  obtain ⟨ya, yc, za, zc, rfl⟩ := hu2.shape
  have HU2 := Lib.hid hu2
  clear hu2
  obtain ⟨k10, k11⟩ := K1.out.two
  have k1l := K1.out.lt
  obtain ⟨k1f0, k1f1⟩ := K1.out.fre2
  go_wp2_with fail
  obtain ⟨g4, s4, h4⟩ := store_row (x' := .slice ya y.1.length yc) (y' := .slice za y.2.length zc) K1.out (noU8_two _ _ (slice_ne _ _ _) (slice_ne _ _ _)) HU2.out (fun _ _ _ _ e => by
    simp only [Value.agg.injEq, Array.mk.injEq, List.cons.injEq, and_true] at e
    exact ⟨_, _, rfl, rfl, e.1, e.2⟩)
  have HK := Lib.hid (K1.out.set2 (.slice ya y.1.length yc) (.slice za y.2.length zc))
  have HR := Lib.hid (HU2.out.soft s4)
  replace B := below_grown B g4 B.size (Nat.le_refl _)
  clear g4 s4 h4 K1 HU2 HU
  generalize hW4 : ((w2.setCell ⟨w.heap.size, 0, none⟩ (.slice ya y.1.length yc)).setCell ⟨w.heap.size, 1, none⟩ (.slice za y.2.length zc)) = W4 at *
  clear hW4
  obtain ⟨_, _, er, hyb, hzb⟩ := HR.out
  simp only [Value.agg.injEq, Array.mk.injEq, List.cons.injEq, and_true] at er
  obtain ⟨rfl, rfl⟩ := er
  have HYB := Lib.hid hyb
  have HZB := Lib.hid hzb
  clear hyb hzb
  obtain ⟨hk0, hk1⟩ := HK.out.two
  have hkl := HK.out.lt
  go_wp2_with fail
  refine (reflead_any _ _ _ HYB.out).mono ?_
  rintro e w' ⟨rfl, rfl⟩
  by_cases hl : lead y.1 < y.1.length
  · have HLI := Lib.hid (show leadI y.1 = (lead y.1 : Int) from if_pos hl)
    have HIN := Lib.hid (show Ro.insert [] x = [y] by
      unfold Ro.insert
      rw [← HY.out, if_pos hl]
      rfl)
    have l0 : (0 : Int) ≤ (lead y.1 : Int) := Int.natCast_nonneg _
    rw [HLI.out]
    clear hl
    go_wp2_with fail
    have hz4 := B.size
    refine wp_loop_rounds 1 ?_
    rw [rounds_succ]
    go_wp2_with fail
    go_quiet (fail)
    go_wp2_with (at_builtin; refine wpList_append_rows rfl (.tmp 34) (.tmp 37) rfl W4.heap.size _ _ [] [] rfl rfl (OwnL.nil _ _ _) (isRL_none _ _ _ (by omega)) ?c1 ?c2 ?_)
    case c1 => exact (below_drews W4 _).size
    case c2 => simp
    intro v5 w5 ho5 hg5 hs5
    have HO5 := Lib.hid (show OwnL w5 W4.heap.size 68 v5 [] by simpa using ho5)
    have HB5 := Lib.hid (show Below W4.heap.size W4 w5 from (below_drews W4 _).grown hg5 (below_drews W4 _).size (fun k e => by cases e))
    clear ho5 hg5 hs5
    have hkr0 : w5.cell? ⟨w.heap.size, 0, none⟩ = some (.slice ya y.1.length yc) := (HK.out.go HB5.out).cell 0
    have hkr1 : w5.cell? ⟨w.heap.size, 1, none⟩ = some (.slice za y.2.length zc) := (HK.out.go HB5.out).cell 1
    have hkrl : w.heap.size < w5.heap.size := (HK.out.go HB5.out).lt
    go_wp2_with (at_builtin; refine wpList_append_rows rfl (.tmp 39) (.tmp 41) rfl W4.heap.size _ _ [] [y] rfl rfl (HO5.out.go ((Below.refl _ _).alloc (Nat.le_refl _) _)) (IsRL.one w5.heap.size rfl (HYB.out.go HB5.out) (HZB.out.go HB5.out)) ?c3 ?c4 ?_)
    case c3 => have := HB5.out.size; simp; omega
    case c4 => simp
    intro v6 w6 ho6 hg6 hs6
    have HO6 := Lib.hid (show OwnL w6 W4.heap.size 68 v6 [y] by simpa using ho6)
    have HB6 := Lib.hid (show Below W4.heap.size W4 w6 from (HB5.out.alloc HB5.out.size _).grown hg6 (by have := HB5.out.size; simp; omega) HO5.out.from)
    clear ho6 hg6 hs6
    go_wp2_with (at_builtin; refine wpList_append_rows rfl (.tmp 43) (.tmp 46) rfl W4.heap.size _ _ [y] [] rfl rfl HO6.out (isRL_none _ _ _ (by omega)) ?c5 ?c6 ?_)
    case c5 => have := HB6.out.size; omega
    case c6 => simp
    intro v7 w7 ho7 hg7 hs7
    have HO7 := Lib.hid ho7
    have HB7 := Lib.hid (show Below W4.heap.size W4 w7 from HB6.out.grown hg7 HB6.out.size HO6.out.from)
    clear ho7 hg7 hs7
    go_wp2_with fail
    go_ret
    exact ⟨_, rfl, B.trans (HB7.out.mono hz4), .inr (by rw [HIN.out]; have h := HO7.out.mono hz4; exact ⟨by simpa using h, by simp⟩)⟩
  · have HLI := Lib.hid (show leadI y.1 = -1 from if_neg hl)
    rw [HLI.out]
    go_wp2_with fail
    go_ret
    refine ⟨_, rfl, B, .inl ⟨rfl, ?_⟩⟩
    unfold Ro.insert
    rw [← HY.out, if_neg hl]

theorem refinsert7_any (v u : Value) (L : List Rw) (k t : Nat) (x : Rw) (w : World) (hL : IsRL w v L) (hnil : L = [] → v = .slice none 0 0) (hx : IsRow w u x.1 x.2) (hD : Ro.Dims k t L) (hE : Ro.Leads L) (hd : Ro.Dim k t x) (hk : k ≤ 10000000) (ht : t ≤ 10000000) (hlen : L.length ≤ 1000000000) :
    Calls Try.prog 60 #[v, u] w (InsV w v L x) := by
  obtain ⟨v0, d0, rfl, h0, h1⟩ := hx
  have g0 := h0
  have g1 := h1
  obtain ⟨a0, c0, rfl, _⟩ := h0
  obtain ⟨a1, c1, rfl, _⟩ := h1
  by_cases hne : L = []
  · subst hne
    rw [hnil rfl]
    exact refinsert7_empty a0 a1 c0 c1 k t x w g0 g1 hd hk ht
  · obtain ⟨b, off, c, rfl, _⟩ := hL.addr (List.length_pos_iff.2 hne)
    exact refinsert7_some b off c L a0 a1 c0 c1 k t x w hL g0 g1 hD hE hd hk ht hne hlen

/-- A list that the caller owns, and nil, if it has none. -/
def OwnL0 (w : World) (B : Nat) (v : Value) (L : List Rw) : Prop := OwnL w B 68 v L ∧ (L = [] → v = .slice none 0 0)
theorem OwnL0.go {w w' : World} {B : Nat} {v : Value} {L : List Rw} (h : OwnL0 w B v L) (hb : Below w.heap.size w w') : OwnL0 w' B v L := ⟨h.1.go hb, h.2⟩
theorem OwnL0.nil (w : World) (B : Nat) : OwnL0 w B (.slice none 0 0) [] := ⟨OwnL.nil _ _ _, fun _ => rfl⟩

theorem refinsert7_own (v u : Value) (L : List Rw) (B k t : Nat) (x : Rw) (w : World) (hL : OwnL0 w B v L) (hB : B ≤ w.heap.size) (hx : IsRow w u x.1 x.2) (hD : Ro.Dims k t L) (hE : Ro.Leads L) (hd : Ro.Dim k t x) (hk : k ≤ 10000000) (ht : t ≤ 10000000) (hlen : L.length ≤ 1000000000) :
    Calls Try.prog 60 #[v, u] w fun e w' => ∃ v', e = .returned v' ∧ OwnL0 w' B v' (Ro.insert L x) ∧ Below w.heap.size w w' := by
  refine (refinsert7_any v u L k t x w hL.1.list hL.2 hx hD hE hd hk ht hlen).mono ?_
  rintro e w' ⟨v', rfl, hb, h⟩
  refine ⟨v', rfl, ?_, hb⟩
  rcases h with ⟨rfl, e⟩ | ⟨h, hne⟩
  · rw [e]; exact hL.go hb
  · exact ⟨h.mono hB, fun e => absurd e hne⟩

end Go.Proofs.Ytohfcdgpllghbaa
