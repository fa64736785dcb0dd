/- Texts of one seat, laid together: LawTenB. -/
import Derived.Test.YtphdadibfeencaaDoorPlanChecksQ4

/-
  The laws of plans (layer 10): PlanChecks.
-/
set_option maxRecDepth 100000
namespace Go.Proofs.YtphdadibfeencaaDoor
open Go.RowKit

theorem load_ref10 {w : World} {g : Nat} {l s k n : Value} {T : TypeId} (h : Blk w g #[l, s, k, n] T) : (Instr.loadAt 26 (.pointer (some ⟨g, 0, none⟩))).run Tryd.prog w = .ok (.agg #[l, s, k, n]) w := by
  obtain ⟨k0, k1, k2, k3⟩ := h.four
  go_simp
theorem eql_str10 {x y : Operand} (S : ByteArray) (w : World) : (do eqGuard .eql 9 x y (.string S) (.string S); binOp .eql 9 (.string S) (.string S) : Sem Value).run Tryd.prog w = .ok (.bool true) w := by
  go_simp
theorem eql_plan10 {x y : Operand} (a b c d : Int) (w : World) : (do eqGuard .eql 26 x y (.agg #[.int .i64 a, .int .i64 b, .int .i64 c, .int .u32 d]) (.agg #[.int .i64 a, .int .i64 b, .int .i64 c, .int .u32 d]); binOp .eql 26 (.agg #[.int .i64 a, .int .i64 b, .int .i64 c, .int .u32 d]) (.agg #[.int .i64 a, .int .i64 b, .int .i64 c, .int .u32 d]) : Sem Value).run Tryd.prog w = .ok (.bool true) w := by
  go_simp
theorem mul_int10 {x y : Operand} {a b : Int} {c : Nat} (h : a * b = (c : Int)) (hc : c ≤ 9223372036854775807) (w : World) : (do eqGuard .mul 3 x y (.int .i64 a) (.int .i64 b); binOp .mul 3 (.int .i64 a) (.int .i64 b) : Sem Value).run Tryd.prog w = .ok (.int .i64 c) w := by
  go_simp
  rw [IntKind.wrap_i64]; omega
theorem sub_intZ {x y : Operand} {a b : Int} {c : Nat} (h : a - b = (c : Int)) (hc : c ≤ 9223372036854775807) (w : World) : (do eqGuard .sub 3 x y (.int .i64 a) (.int .i64 b); binOp .sub 3 (.int .i64 a) (.int .i64 b) : Sem Value).run Tryd.prog w = .ok (.int .i64 c) w := by
  go_simp
  rw [IntKind.wrap_i64]; omega
theorem set4 {w : World} {g : Nat} {a b c d : Value} {T : TypeId} (h : Blk w g #[a, b, c, d] T) (x y z u : Value) :
    Blk ((((w.setCell ⟨g, 0, none⟩ x).setCell ⟨g, 1, none⟩ y).setCell ⟨g, 2, none⟩ z).setCell ⟨g, 3, none⟩ u) g #[x, y, z, u] T ∧ w.grownBy ((((w.setCell ⟨g, 0, none⟩ x).setCell ⟨g, 1, none⟩ y).setCell ⟨g, 2, none⟩ z).setCell ⟨g, 3, none⟩ u) (some g) :=
  ⟨(((h.set 0 x).set 1 y).set 2 z).set 3 u, grown_trans (grown_trans (grown_trans (grown_setCell w ⟨g, 0, none⟩ x) (grown_setCell _ ⟨g, 1, none⟩ y)) (grown_setCell _ ⟨g, 2, none⟩ z)) (grown_setCell _ ⟨g, 3, none⟩ u)⟩
set_option maxHeartbeats 4000000 in
theorem planChecks_walk (l s k : Int) (n : Nat) (w : World) (hl0 : -9223372036854775808 ≤ l) (hl : l ≤ 9223372036854775807) (hs0 : -9223372036854775808 ≤ s) (hs : s ≤ 9223372036854775807) (hk0 : -9223372036854775808 ≤ k) (hk : k ≤ 9223372036854775807) (hn : n < 4294967296) (hT : PowTab w) :
    Calls Tryd.prog 3 #[planV l s k (n : Int)] w fun e w' => e = .returned (.bool true) ∧ Below w.heap.size w w' := by
  have HT := Lib.hid hT
  have HT0 := Lib.hid hT
  have HOF := Lib.hid (fun w => of10_any l s (n : Int) w hl0 hl hs)
  clear hT
  obtain ⟨m, hm⟩ : ∃ m, m = needI l s := ⟨_, rfl⟩
  obtain ⟨f, hf⟩ : ∃ f, f = checkE l s (needI l s) := ⟨_, rfl⟩
  rw [← hf, ← hm] at HOF
  have HM := Lib.hid hm
  have HF := Lib.hid hf
  clear hm hf
  unfold PlanE at HOF
  unfold planV at HOF ⊢
  by_cases hA : 0 ≤ l ∧ 1 ≤ s
  · obtain ⟨hA1, hA2⟩ := hA
    go_enter Tryd.func3, Tryd.ntmps3
    go_wp2_with fail
    obtain ⟨B, hk1, hs⟩ := blocks1 w #[.int .i64 l, .int .i64 s, .int .i64 k, .int .u32 (n : Int)] 24
    generalize (w.alloc (.cells #[.int .i64 l, .int .i64 s, .int .i64 k, .int .u32 (n : Int)] 24)) = W at *
    have K1 := Lib.hid hk1
    have HS := Lib.hid hs
    clear hs hk1
    replace HT := Lib.hid (HT.out.go B)
    have hzW := B.size
    refine (awake10_any _).mono ?_
    rintro e w1 ⟨rfl, hb⟩
    replace K1 := Lib.hid (K1.out.go hb)
    replace HT := Lib.hid (HT.out.go hb)
    replace B := B.trans (hb.mono B.size)
    have hzw1 := B.size
    clear hb
    obtain ⟨p0, p1, p2, p3⟩ := K1.out.four
    have pl := K1.out.lt
    go_wp2_with fail
    clear p0 p1 p2 p3 pl
    obtain ⟨gr, hgr⟩ : ∃ g : Nat, g = w1.heap.size := ⟨_, rfl⟩
    have HGR := Lib.hid (show w.heap.size < gr by rw [hgr]; exact K1.out.lt)
    obtain ⟨hb, hk, hs⟩ := blocks1 w1 #[.int .i64 l, .int .i64 s, .int .i64 k, .int .u32 (n : Int)] 26
    generalize w1.alloc (.cells #[.int .i64 l, .int .i64 s, .int .i64 k, .int .u32 (n : Int)] 26) = W2 at *
    have KR := Lib.hid hk
    replace K1 := Lib.hid (K1.out.go hb)
    replace HT := Lib.hid (HT.out.go hb)
    replace B := B.trans (hb.mono B.size)
    have hzW2 := B.size
    clear hb hk hs
    rw [← hgr] at KR
    simp only [← hgr]
    clear hgr
    refine (HOF.out _).mono ?_
    rintro e w3 ⟨rfl, hb⟩
    replace K1 := Lib.hid (K1.out.go hb)
    replace KR := Lib.hid (KR.out.go hb)
    replace HT := Lib.hid (HT.out.go hb)
    replace B := B.trans (hb.mono B.size)
    have hzw3 := B.size
    clear hb
    obtain ⟨p0, p1, p2, p3⟩ := KR.out.four
    have pl := KR.out.lt
    go_upto_region 6 with fail
    clear p0 p1 p2 p3 pl
    have KP := K1
    have B1 := B
    have HG4 := Lib.hid (show gr < w3.heap.size from KR.out.lt)
    clear B K1
    obtain ⟨B, hk1, hk2, hs⟩ := blocks2 w3 #[.int .i64 (okV f l), .int .i64 (okV f s), .int .i64 (okV f m), .int .u32 (okV f (n : Int))] 24 #[.int .i64 l, .int .i64 s, .int .i64 k, .int .u32 (n : Int)] 26
    generalize ((w3.alloc (.cells #[.int .i64 (okV f l), .int .i64 (okV f s), .int .i64 (okV f m), .int .u32 (okV f (n : Int))] 24)).alloc (.cells #[.int .i64 l, .int .i64 s, .int .i64 k, .int .u32 (n : Int)] 26)) = W4 at *
    have K1 := Lib.hid hk1
    have K2 := Lib.hid hk2
    have HS := Lib.hid hs
    clear hs hk1 hk2
    replace KP := Lib.hid (KP.out.go B)
    replace KR := Lib.hid (KR.out.go B)
    replace HT := Lib.hid (HT.out.go B)
    have hzW4 := B.size
    replace B := B1.trans (B.mono B1.size)
    obtain ⟨gq, hgq⟩ : ∃ g : Nat, g = w3.heap.size := ⟨_, rfl⟩
    rw [← hgq] at K1 K2 HG4
    simp only [← hgq]
    obtain ⟨gk, hgk⟩ : ∃ g : Nat, g = gq + 1 := ⟨_, rfl⟩
    rw [← hgk] at K2
    simp only [← hgk]
    have HGK := Lib.hid hgk
    clear hgq hgk HS B1
    obtain ⟨l', hl'⟩ : ∃ l' : Nat, l = l' := ⟨l.toNat, by omega⟩
    obtain ⟨s', hs'⟩ : ∃ s' : Nat, s = s' := ⟨s.toNat, by omega⟩
    subst hl'
    subst hs'
    obtain ⟨p0, p1, p2, p3⟩ := KR.out.four
    have pl := KR.out.lt
    go_wp2_with fail
    have HS2 := Lib.hid (check_made (l := (l' : Int)) (s := (s' : Int)) (by omega) (by omega))
    have HS3 := Lib.hid (made_same (l := (l' : Int)) (s := (s' : Int)))
    simp only [Int.toNat_natCast] at HS2 HS3
    obtain ⟨q0, q1, q2, q3⟩ := K2.out.four
    have ql := K2.out.lt
    have r2 := K2.out.free 2
    refine (refneeds_any l' s' _ (by omega) (by omega) (by omega)).mono ?_
    rintro e w' ⟨rfl, rfl⟩
    obtain ⟨nn, hnn⟩ : ∃ nn, nn = needsN l' s' := ⟨_, rfl⟩
    rw [← hnn] at HS2 HS3 ⊢
    clear hnn
    have KS := Lib.hid (show Blk (W4.setCell ⟨gk, 2, none⟩ (.int .i64 (nn : Int))) gk #[.int .i64 (l' : Int), .int .i64 (s' : Int), .int .i64 (nn : Int), .int .u32 (n : Int)] 26 from K2.out.set 2 (.int .i64 (nn : Int)))
    obtain ⟨s0, s1, s2, s3⟩ := KS.out.four
    have hgs := grown_setCell W4 ⟨gk, 2, none⟩ (.int .i64 (nn : Int))
    have HGS := Lib.hid hgs
    have BS := Lib.hid (B.setCell (p := ⟨gk, 2, none⟩) (by have := HGK.out; have := HG4.out; have := HGR.out; show w.heap.size ≤ gk; omega) (.int .i64 (nn : Int)))
    have HP5 := Lib.hid (KP.out.grown hgs (by have := HGK.out; have := HG4.out; have := HGR.out; simp; omega))
    have HR5 := Lib.hid (KR.out.grown hgs (by have := HGK.out; have := HG4.out; simp; omega))
    have HQ5 := Lib.hid (K1.out.grown hgs (by have := HGK.out; simp; omega))
    have HT5 := Lib.hid (HT0.out.go BS.out)
    clear hgs
    go_wp2_with fail
    clear p0 p1 p2 p3 pl q0 q1 q2 q3 ql r2 s0 s1 s2 s3 KP KR K1 K2 HT B hzW4 hzw3 hzw1 hzW HGS
    generalize W4.setCell ⟨gk, 2, none⟩ (.int .i64 (nn : Int)) = W5 at *
    have B := BS.out
    have hzW5 := B.size
    clear BS
    refine (refcheck_any (l' : Int) (s' : Int) (nn : Int) _ _ (by omega) ⟨n, rfl⟩).mono ?_
    rintro e w6 ⟨rfl, hb⟩
    replace KS := Lib.hid (KS.out.go hb)
    replace HP5 := Lib.hid (HP5.out.go hb)
    replace HR5 := Lib.hid (HR5.out.go hb)
    replace HQ5 := Lib.hid (HQ5.out.go hb)
    replace HT5 := Lib.hid (HT5.out.go hb)
    replace B := B.trans (hb.mono B.size)
    have hzw6 := B.size
    clear hb
    rw [HS2.out, ← HF.out]
    obtain ⟨gp, hgp⟩ : ∃ g : Nat, g = w.heap.size := ⟨_, rfl⟩
    have HGP := Lib.hid hgp
    rw [← hgp] at HP5
    simp only [← hgp]
    clear hgp
    have KP := HP5
    have KR := HR5
    have HT := HT5
    by_cases hf0 : f = 0
    · have hfe : (f != (0 : Int)) = false := by rw [hf0]; rfl
      have KQ := Lib.hid (show Blk w6 gq #[.int .i64 (l' : Int), .int .i64 (s' : Int), .int .i64 (nn : Int), .int .u32 (n : Int)] 24 by
        have h := HQ5.out
        rw [HS3.out (by rw [← HF.out, hf0]), ← HM.out]
        simpa [okV, hf0] using h)
      have KK := KS
      clear HP5 HR5 HQ5 HT5 KS hf0
      go_upto_region 12 with fail
      obtain ⟨p0, p1, p2, p3⟩ := KR.out.four
      have pl := KR.out.lt
      have HCK := Lib.hid (fun w => check_any (l' : Int) (s' : Int) k (n : Int) w (by omega) (by omega) (by omega))
      have HRC := Lib.hid (fun w => refcheck_any (l' : Int) (s' : Int) k _ w (by omega) ⟨n, rfl⟩)
      have HTX := Lib.hid (fun w hT => text10_any (l' : Int) (s' : Int) k n w (by omega) (by omega) (by omega) hn hT)
      have HRT := Lib.hid (fun w hT => reftext10_any (l' : Int) (s' : Int) k n w (by omega) hn hT)
      have HRM := Lib.hid (fun w => room_any (l' : Int) (s' : Int) k (n : Int) w (by omega) (by omega) (by omega))
      have HPD := Lib.hid (fun w => pad_any (l' : Int) (s' : Int) k (n : Int) w (by omega) (by omega) (by omega))
      unfold roomI at HRM
      unfold padI at HPD
      unfold planV at HTX HRM HPD
      obtain ⟨TX, hTX⟩ : ∃ TX, TX = strOf (textL (l' : Int) (s' : Int) k (n : Int)) := ⟨_, rfl⟩
      rw [← hTX] at HTX HRT
      clear hTX
      by_cases hc0 : checkE (l' : Int) (s' : Int) k = 0
      · obtain ⟨c1, c2, c3, c4, c5, -, c6⟩ := check_ok10 hc0
        rw [hc0] at HCK HRC
        rw [if_pos hc0] at HRM HPD
        obtain ⟨c, hc⟩ : ∃ c : Int, c = 0 := ⟨_, rfl⟩
        have HZ := Lib.hid hc
        rw [← hc] at HCK HRC
        obtain ⟨ll, hll⟩ : ∃ ll : Nat, ll = ((l' : Int)).toNat := ⟨_, rfl⟩
        obtain ⟨ss, hss⟩ : ∃ ss : Nat, ss = ((s' : Int)).toNat := ⟨_, rfl⟩
        obtain ⟨kk, hkk⟩ : ∃ kk : Nat, kk = k.toNat := ⟨_, rfl⟩
        have e1 : (l' : Int) = (ll : Int) := by omega
        have e2 : (s' : Int) = (ss : Int) := by omega
        have e3 : k = (kk : Int) := by omega
        obtain ⟨r, hr⟩ : ∃ r, r = kk * ss := ⟨_, rfl⟩
        have hri : (ss : Int) * (kk : Int) = (r : Int) := by rw [hr, Int.mul_comm]; simp
        have hri2 : k * (s' : Int) = (r : Int) := by rw [e2, e3, Int.mul_comm]; exact hri
        have hr2 : r ≤ 4096 * 65535 := by rw [hr]; exact Nat.mul_le_mul (by omega) (by omega)
        rw [hri2] at HRM HPD c6
        have HRI := Lib.hid (show (s' : Int) * k = (r : Int) by rw [e2, e3]; exact hri)
        obtain ⟨pd, hpd⟩ : ∃ pd, pd = r - ll := ⟨_, rfl⟩
        have hpdi : (r : Int) - (l' : Int) = (pd : Int) := by omega
        rw [hpdi] at HPD
        have HPI := Lib.hid hpdi
        have hpd2 : pd ≤ r := by omega
        clear e1 e2 e3 hr hri hri2 hll hss hkk hpd hpdi hc0 c6
        go_wp2_with fail
        refine (HRC.out _).mono ?_
        rintro e w21 ⟨rfl, hb21⟩
        replace KP := Lib.hid (KP.out.go hb21)
        replace KR := Lib.hid (KR.out.go hb21)
        replace KQ := Lib.hid (KQ.out.go hb21)
        replace KK := Lib.hid (KK.out.go hb21)
        replace HT := Lib.hid (HT.out.go hb21)
        replace B := B.trans (hb21.mono B.size)
        have hce : (c == (0 : Int)) = true := by rw [hc]; rfl
        clear hb21 p0 p1 p2 p3 pl hc
        go_upto_region 13 with fail
        refine wp_region_mono (C := Cb w21) (R := Rb) (H := fun _ => Hb w21) [Ty.val 46 (.pointer (some ⟨gr, 1, none⟩)), Ty.val 47 (.int .i64 (s' : Int)), Ty.val 48 (.pointer (some ⟨gr, 2, none⟩)), Ty.val 49 (.int .i64 k), Ty.val 50 (.int .i64 (r : Int)), Ty.val 51 (.pointer (some ⟨gr, 1, none⟩)), Ty.val 52 (.int .i64 (s' : Int)), Ty.val 53 (.pointer (some ⟨gr, 2, none⟩)), Ty.val 54 (.int .i64 k), Ty.val 55 (.int .i64 (r : Int)), Ty.val 56 (.pointer (some ⟨gr, 0, none⟩)), Ty.val 57 (.int .i64 (l' : Int)), Ty.val 58 (.int .i64 (pd : Int)), Ty.val 8 (.int .i64 (r : Int)), Ty.val 9 (.int .i64 (pd : Int))] (by kernel_rfl) (hC_b w21) (hCH_b w21) (drew_b w21) ⟨trivial, trivial, trivial, trivial, trivial, trivial, trivial, trivial, trivial, trivial, trivial, trivial, trivial, trivial, trivial, trivial⟩ (by kernel_rfl) ?_ ?_
        · refine ⟨?_, ?_, ?_, ?_, ?_, ?_, ?_, ?_, ?_, ?_, ?_, ?_, ?_, ?_, ?_, trivial⟩
          · intro ac wc hC hsz hfr hd hpr
            have d3 : ac.eval (.tmp 3) = (.pointer (some ⟨gr, 0, none⟩)) := hfr 3 rfl
            rw [if_pos (wanted_none rfl)]
            exact ob_field _ rfl rfl rfl (Nat.lt_of_lt_of_eq (by decide : 46 < 93) hsz.symm) rfl d3 (fun w => by go_simp) (Below.refl _ _) rfl
          · intro ac wc hC hsz hfr hd hpr
            have d46 : ac.eval (.tmp 46) = (.pointer (some ⟨gr, 1, none⟩)) := hd 0 rfl
            rw [if_pos (wanted_none rfl)]
            exact ob_load _ rfl rfl rfl (Nat.lt_of_lt_of_eq (by decide : 47 < 93) hsz.symm) rfl d46 (load_int ((KR.out.go hC).cell 1)) (Below.refl _ _) rfl
          · intro ac wc hC hsz hfr hd hpr
            have d3 : ac.eval (.tmp 3) = (.pointer (some ⟨gr, 0, none⟩)) := hfr 3 rfl
            rw [if_pos (wanted_none rfl)]
            exact ob_field _ rfl rfl rfl (Nat.lt_of_lt_of_eq (by decide : 48 < 93) hsz.symm) rfl d3 (fun w => by go_simp) (Below.refl _ _) rfl
          · intro ac wc hC hsz hfr hd hpr
            have d48 : ac.eval (.tmp 48) = (.pointer (some ⟨gr, 2, none⟩)) := hd 2 rfl
            rw [if_pos (wanted_none rfl)]
            exact ob_load _ rfl rfl rfl (Nat.lt_of_lt_of_eq (by decide : 49 < 93) hsz.symm) rfl d48 (load_int ((KR.out.go hC).cell 2)) (Below.refl _ _) rfl
          · intro ac wc hC hsz hfr hd hpr
            have d47 : ac.eval (.tmp 47) = (.int .i64 (s' : Int)) := hd 1 rfl
            have d49 : ac.eval (.tmp 49) = (.int .i64 k) := hd 3 rfl
            rw [if_pos (wanted_none rfl)]
            exact ob_bin _ rfl rfl rfl (Nat.lt_of_lt_of_eq (by decide : 50 < 93) hsz.symm) rfl d47 d49 (mul_int10 HRI.out (by omega)) (Below.refl _ _) rfl
          · intro ac wc hC hsz hfr hd hpr
            have d3 : ac.eval (.tmp 3) = (.pointer (some ⟨gr, 0, none⟩)) := hfr 3 rfl
            rw [if_pos (wanted_none rfl)]
            exact ob_field _ rfl rfl rfl (Nat.lt_of_lt_of_eq (by decide : 51 < 93) hsz.symm) rfl d3 (fun w => by go_simp) (Below.refl _ _) rfl
          · intro ac wc hC hsz hfr hd hpr
            have d51 : ac.eval (.tmp 51) = (.pointer (some ⟨gr, 1, none⟩)) := hd 5 rfl
            rw [if_pos (wanted_none rfl)]
            exact ob_load _ rfl rfl rfl (Nat.lt_of_lt_of_eq (by decide : 52 < 93) hsz.symm) rfl d51 (load_int ((KR.out.go hC).cell 1)) (Below.refl _ _) rfl
          · intro ac wc hC hsz hfr hd hpr
            have d3 : ac.eval (.tmp 3) = (.pointer (some ⟨gr, 0, none⟩)) := hfr 3 rfl
            rw [if_pos (wanted_none rfl)]
            exact ob_field _ rfl rfl rfl (Nat.lt_of_lt_of_eq (by decide : 53 < 93) hsz.symm) rfl d3 (fun w => by go_simp) (Below.refl _ _) rfl
          · intro ac wc hC hsz hfr hd hpr
            have d53 : ac.eval (.tmp 53) = (.pointer (some ⟨gr, 2, none⟩)) := hd 7 rfl
            rw [if_pos (wanted_none rfl)]
            exact ob_load _ rfl rfl rfl (Nat.lt_of_lt_of_eq (by decide : 54 < 93) hsz.symm) rfl d53 (load_int ((KR.out.go hC).cell 2)) (Below.refl _ _) rfl
          · intro ac wc hC hsz hfr hd hpr
            have d52 : ac.eval (.tmp 52) = (.int .i64 (s' : Int)) := hd 6 rfl
            have d54 : ac.eval (.tmp 54) = (.int .i64 k) := hd 8 rfl
            rw [if_pos (wanted_none rfl)]
            exact ob_bin _ rfl rfl rfl (Nat.lt_of_lt_of_eq (by decide : 55 < 93) hsz.symm) rfl d52 d54 (mul_int10 HRI.out (by omega)) (Below.refl _ _) rfl
          · intro ac wc hC hsz hfr hd hpr
            have d3 : ac.eval (.tmp 3) = (.pointer (some ⟨gr, 0, none⟩)) := hfr 3 rfl
            rw [if_pos (wanted_none rfl)]
            exact ob_field _ rfl rfl rfl (Nat.lt_of_lt_of_eq (by decide : 56 < 93) hsz.symm) rfl d3 (fun w => by go_simp) (Below.refl _ _) rfl
          · intro ac wc hC hsz hfr hd hpr
            have d56 : ac.eval (.tmp 56) = (.pointer (some ⟨gr, 0, none⟩)) := hd 10 rfl
            rw [if_pos (wanted_none rfl)]
            exact ob_load _ rfl rfl rfl (Nat.lt_of_lt_of_eq (by decide : 57 < 93) hsz.symm) rfl d56 (load_int ((KR.out.go hC).cell 0)) (Below.refl _ _) rfl
          · intro ac wc hC hsz hfr hd hpr
            have d55 : ac.eval (.tmp 55) = (.int .i64 (r : Int)) := hd 9 rfl
            have d57 : ac.eval (.tmp 57) = (.int .i64 (l' : Int)) := hd 11 rfl
            rw [if_pos (wanted_none rfl)]
            exact ob_bin _ rfl rfl rfl (Nat.lt_of_lt_of_eq (by decide : 58 < 93) hsz.symm) rfl d55 d57 (sub_intZ HPI.out (by omega)) (Below.refl _ _) rfl
          · intro ac wc hC hsz hfr hd hpr
            have d50 : ac.eval (.tmp 50) = (.int .i64 (r : Int)) := hd 4 rfl
            rw [if_pos (wanted_none rfl)]
            exact ob_copy rfl rfl rfl (Nat.lt_of_lt_of_eq (by decide : 8 < 93) hsz.symm) (Or.inr rfl) (Below.refl _ _) d50
          · intro ac wc hC hsz hfr hd hpr
            have d58 : ac.eval (.tmp 58) = (.int .i64 (pd : Int)) := hd 12 rfl
            rw [if_pos (wanted_none rfl)]
            exact ob_copy rfl rfl rfl (Nat.lt_of_lt_of_eq (by decide : 9 < 93) hsz.symm) (Or.inr rfl) (Below.refl _ _) d58
        intro a' w22 hC hdef hsz hfr hd
        have e46 : a'.eval (.tmp 46) = (.pointer (some ⟨gr, 1, none⟩)) := hd 0 (by decide)
        have e47 : a'.eval (.tmp 47) = (.int .i64 (s' : Int)) := hd 1 (by decide)
        have e48 : a'.eval (.tmp 48) = (.pointer (some ⟨gr, 2, none⟩)) := hd 2 (by decide)
        have e49 : a'.eval (.tmp 49) = (.int .i64 k) := hd 3 (by decide)
        have e50 : a'.eval (.tmp 50) = (.int .i64 (r : Int)) := hd 4 (by decide)
        have e51 : a'.eval (.tmp 51) = (.pointer (some ⟨gr, 1, none⟩)) := hd 5 (by decide)
        have e52 : a'.eval (.tmp 52) = (.int .i64 (s' : Int)) := hd 6 (by decide)
        have e53 : a'.eval (.tmp 53) = (.pointer (some ⟨gr, 2, none⟩)) := hd 7 (by decide)
        have e54 : a'.eval (.tmp 54) = (.int .i64 k) := hd 8 (by decide)
        have e55 : a'.eval (.tmp 55) = (.int .i64 (r : Int)) := hd 9 (by decide)
        have e56 : a'.eval (.tmp 56) = (.pointer (some ⟨gr, 0, none⟩)) := hd 10 (by decide)
        have e57 : a'.eval (.tmp 57) = (.int .i64 (l' : Int)) := hd 11 (by decide)
        have e58 : a'.eval (.tmp 58) = (.int .i64 (pd : Int)) := hd 12 (by decide)
        have e8 : a'.eval (.tmp 8) = (.int .i64 (r : Int)) := hd 13 (by decide)
        have e9 : a'.eval (.tmp 9) = (.int .i64 (pd : Int)) := hd 14 (by decide)
        have hact := act_puts hdef hsz hfr
        simp only [dstsOf, List.filterMap, putAll, Act.put, List.setIfInBounds_toArray, List.set_cons_succ, List.set_cons_zero, e46, e47, e48, e49, e50, e51, e52, e53, e54, e55, e56, e57, e58, e8, e9] at hact
        clear hd hfr hsz hdef e46 e47 e48 e49 e50 e51 e52 e53 e54 e55 e56 e57 e58 e8 e9
        subst hact
        replace KP := Lib.hid (KP.out.go hC)
        replace KR := Lib.hid (KR.out.go hC)
        replace KQ := Lib.hid (KQ.out.go hC)
        replace KK := Lib.hid (KK.out.go hC)
        replace HT := Lib.hid (HT.out.go hC)
        replace B := B.trans (hC.mono B.size)
        clear hC
        go_upto_region 14 with fail
        refine wp_region_mono (C := Cb w22) (R := Rb) (H := fun _ => Hb w22) [Ty.val 59 (.agg #[.int .i64 (l' : Int), .int .i64 (s' : Int), .int .i64 k, .int .u32 (n : Int)]), Ty.val 60 (.int .i64 c), Ty.val 61 (.agg #[.int .i64 (l' : Int), .int .i64 (s' : Int), .int .i64 k, .int .u32 (n : Int)]), Ty.val 62 (.int .i64 c), Ty.val 63 (.bool true), Ty.val 64 (.bool true), Ty.val 65 (.agg #[.int .i64 (l' : Int), .int .i64 (s' : Int), .int .i64 k, .int .u32 (n : Int)]), Ty.val 66 (.string TX), Ty.val 67 (.agg #[.int .i64 (l' : Int), .int .i64 (s' : Int), .int .i64 k, .int .u32 (n : Int)]), Ty.val 68 (.string TX), Ty.val 69 (.bool true), Ty.val 70 (.bool true), Ty.val 71 (.bool true), Ty.val 72 (.agg #[.int .i64 (l' : Int), .int .i64 (s' : Int), .int .i64 k, .int .u32 (n : Int)]), Ty.val 73 (.int .i64 (r : Int)), Ty.val 74 (.int .i64 (r : Int)), Ty.val 75 (.bool true), Ty.val 76 (.bool true), Ty.val 77 (.bool true), Ty.val 78 (.agg #[.int .i64 (l' : Int), .int .i64 (s' : Int), .int .i64 k, .int .u32 (n : Int)]), Ty.val 79 (.int .i64 (pd : Int)), Ty.val 80 (.int .i64 (pd : Int)), Ty.val 81 (.bool true), Ty.val 82 (.bool true), Ty.val 83 (.bool true), Ty.val 84 (.agg #[.int .i64 (l' : Int), .int .i64 (s' : Int), .int .i64 (nn : Int), .int .u32 (n : Int)]), Ty.val 85 (.agg #[.int .i64 (l' : Int), .int .i64 (s' : Int), .int .i64 (nn : Int), .int .u32 (n : Int)]), Ty.val 86 (.bool true), Ty.val 87 (.bool true), Ty.val 88 (.bool true), Ty.val 89 (.int .i64 f), Ty.val 90 (.int .i64 f), Ty.val 91 (.bool true), Ty.val 92 (.bool true), Ty.val 2 (.bool true)] (by kernel_rfl) (hC_b w22) (hCH_b w22) (drew_b w22) ⟨trivial, trivial, trivial, trivial, trivial, trivial, trivial, trivial, trivial, trivial, trivial, trivial, trivial, trivial, trivial, trivial, trivial, trivial, trivial, trivial, trivial, trivial, trivial, trivial, trivial, trivial, trivial, trivial, trivial, trivial, trivial, trivial, trivial, trivial, trivial, trivial⟩ (by kernel_rfl) ?_ ?_
        · refine ⟨?_, ?_, ?_, ?_, ?_, ?_, ?_, ?_, ?_, ?_, ?_, ?_, ?_, ?_, ?_, ?_, ?_, ?_, ?_, ?_, ?_, ?_, ?_, ?_, ?_, ?_, ?_, ?_, ?_, ?_, ?_, ?_, ?_, ?_, ?_, trivial⟩
          · intro ac wc hC hsz hfr hd hpr
            have d1 : ac.eval (.tmp 1) = (.pointer (some ⟨gp, 0, none⟩)) := hfr 1 rfl
            rw [if_pos (wanted_none rfl)]
            exact ob_load _ rfl rfl rfl (Nat.lt_of_lt_of_eq (by decide : 59 < 93) hsz.symm) rfl d1 (load_plan10 (KP.out.go hC)) (Below.refl _ _) rfl
          · intro ac wc hC hsz hfr hd hpr
            have d59 : ac.eval (.tmp 59) = (.agg #[.int .i64 (l' : Int), .int .i64 (s' : Int), .int .i64 k, .int .u32 (n : Int)]) := hd 0 rfl
            rw [if_pos (wanted_none rfl)]
            refine ob_call rfl rfl rfl (Nat.lt_of_lt_of_eq (by decide : 60 < 93) hsz.symm) rfl (enter_of Tryd.func10 (by kernel_rfl) rfl) ?_
            show Calls Tryd.prog 10 #[ac.eval (.tmp 59)] wc _
            rw [d59]
            exact (HCK.out wc).mono fun _ _ ⟨he, hb⟩ => ⟨_, he, rfl, hb⟩
          · intro ac wc hC hsz hfr hd hpr
            have d3 : ac.eval (.tmp 3) = (.pointer (some ⟨gr, 0, none⟩)) := hfr 3 rfl
            rw [if_pos (wanted_none rfl)]
            exact ob_load _ rfl rfl rfl (Nat.lt_of_lt_of_eq (by decide : 61 < 93) hsz.symm) rfl d3 (load_ref10 (KR.out.go hC)) (Below.refl _ _) rfl
          · intro ac wc hC hsz hfr hd hpr
            have d61 : ac.eval (.tmp 61) = (.agg #[.int .i64 (l' : Int), .int .i64 (s' : Int), .int .i64 k, .int .u32 (n : Int)]) := hd 2 rfl
            rw [if_pos (wanted_none rfl)]
            refine ob_call rfl rfl rfl (Nat.lt_of_lt_of_eq (by decide : 62 < 93) hsz.symm) rfl (enter_of Tryd.func9 (by kernel_rfl) rfl) ?_
            show Calls Tryd.prog 9 #[ac.eval (.tmp 61)] wc _
            rw [d61]
            exact (HRC.out wc).mono fun _ _ ⟨he, hb⟩ => ⟨_, he, rfl, hb⟩
          · intro ac wc hC hsz hfr hd hpr
            have d60 : ac.eval (.tmp 60) = (.int .i64 c) := hd 1 rfl
            have d62 : ac.eval (.tmp 62) = (.int .i64 c) := hd 3 rfl
            rw [if_pos (wanted_none rfl)]
            exact ob_bin _ rfl rfl rfl (Nat.lt_of_lt_of_eq (by decide : 63 < 93) hsz.symm) rfl d60 d62 (eql_int (by simp)) (Below.refl _ _) rfl
          · intro ac wc hC hsz hfr hd hpr
            have d63 : ac.eval (.tmp 63) = (.bool true) := hd 4 rfl
            rw [if_pos (wanted_none rfl)]
            exact ob_copy rfl rfl rfl (Nat.lt_of_lt_of_eq (by decide : 64 < 93) hsz.symm) (Or.inl rfl) (Below.refl _ _) d63
          · intro ac wc hC hsz hfr hd hpr
            have d64 : ac.eval (.tmp 64) = (.bool true) := hd 5 rfl
            have d1 : ac.eval (.tmp 1) = (.pointer (some ⟨gp, 0, none⟩)) := hfr 1 rfl
            rw [if_pos (wanted_some rfl (yielded_of rfl d64))]
            exact ob_load _ rfl rfl rfl (Nat.lt_of_lt_of_eq (by decide : 65 < 93) hsz.symm) rfl d1 (load_plan10 (KP.out.go hC)) (Below.refl _ _) rfl
          · intro ac wc hC hsz hfr hd hpr
            have d64 : ac.eval (.tmp 64) = (.bool true) := hd 5 rfl
            have d65 : ac.eval (.tmp 65) = (.agg #[.int .i64 (l' : Int), .int .i64 (s' : Int), .int .i64 k, .int .u32 (n : Int)]) := hd 6 rfl
            rw [if_pos (wanted_some rfl (yielded_of rfl d64))]
            refine ob_call rfl rfl rfl (Nat.lt_of_lt_of_eq (by decide : 66 < 93) hsz.symm) rfl (enter_of Tryd.func11 (by kernel_rfl) rfl) ?_
            show Calls Tryd.prog 11 #[ac.eval (.tmp 65)] wc _
            rw [d65]
            exact (HTX.out wc (HT.out.go hC)).mono fun _ _ ⟨he, hb⟩ => ⟨_, he, rfl, hb⟩
          · intro ac wc hC hsz hfr hd hpr
            have d64 : ac.eval (.tmp 64) = (.bool true) := hd 5 rfl
            have d3 : ac.eval (.tmp 3) = (.pointer (some ⟨gr, 0, none⟩)) := hfr 3 rfl
            rw [if_pos (wanted_some rfl (yielded_of rfl d64))]
            exact ob_load _ rfl rfl rfl (Nat.lt_of_lt_of_eq (by decide : 67 < 93) hsz.symm) rfl d3 (load_ref10 (KR.out.go hC)) (Below.refl _ _) rfl
          · intro ac wc hC hsz hfr hd hpr
            have d64 : ac.eval (.tmp 64) = (.bool true) := hd 5 rfl
            have d67 : ac.eval (.tmp 67) = (.agg #[.int .i64 (l' : Int), .int .i64 (s' : Int), .int .i64 k, .int .u32 (n : Int)]) := hd 8 rfl
            rw [if_pos (wanted_some rfl (yielded_of rfl d64))]
            refine ob_call rfl rfl rfl (Nat.lt_of_lt_of_eq (by decide : 68 < 93) hsz.symm) rfl (enter_of Tryd.func12 (by kernel_rfl) rfl) ?_
            show Calls Tryd.prog 12 #[ac.eval (.tmp 67)] wc _
            rw [d67]
            exact (HRT.out wc (HT.out.go hC)).mono fun _ _ ⟨he, hb⟩ => ⟨_, he, rfl, hb⟩
          · intro ac wc hC hsz hfr hd hpr
            have d64 : ac.eval (.tmp 64) = (.bool true) := hd 5 rfl
            have d66 : ac.eval (.tmp 66) = (.string TX) := hd 7 rfl
            have d68 : ac.eval (.tmp 68) = (.string TX) := hd 9 rfl
            rw [if_pos (wanted_some rfl (yielded_of rfl d64))]
            exact ob_bin _ rfl rfl rfl (Nat.lt_of_lt_of_eq (by decide : 69 < 93) hsz.symm) rfl d66 d68 (eql_str10 TX) (Below.refl _ _) rfl
          · intro ac wc hC hsz hfr hd hpr
            have d64 : ac.eval (.tmp 64) = (.bool true) := hd 5 rfl
            have d69 : ac.eval (.tmp 69) = (.bool true) := hd 10 rfl
            rw [if_pos (wanted_none rfl)]
            exact ob_pick rfl rfl rfl (Nat.lt_of_lt_of_eq (by decide : 70 < 93) hsz.symm) rfl d64 (Below.refl _ _) d69
          · intro ac wc hC hsz hfr hd hpr
            have d70 : ac.eval (.tmp 70) = (.bool true) := hd 11 rfl
            rw [if_pos (wanted_none rfl)]
            exact ob_copy rfl rfl rfl (Nat.lt_of_lt_of_eq (by decide : 71 < 93) hsz.symm) (Or.inl rfl) (Below.refl _ _) d70
          · intro ac wc hC hsz hfr hd hpr
            have d71 : ac.eval (.tmp 71) = (.bool true) := hd 12 rfl
            have d1 : ac.eval (.tmp 1) = (.pointer (some ⟨gp, 0, none⟩)) := hfr 1 rfl
            rw [if_pos (wanted_some rfl (yielded_of rfl d71))]
            exact ob_load _ rfl rfl rfl (Nat.lt_of_lt_of_eq (by decide : 72 < 93) hsz.symm) rfl d1 (load_plan10 (KP.out.go hC)) (Below.refl _ _) rfl
          · intro ac wc hC hsz hfr hd hpr
            have d71 : ac.eval (.tmp 71) = (.bool true) := hd 12 rfl
            have d72 : ac.eval (.tmp 72) = (.agg #[.int .i64 (l' : Int), .int .i64 (s' : Int), .int .i64 k, .int .u32 (n : Int)]) := hd 13 rfl
            rw [if_pos (wanted_some rfl (yielded_of rfl d71))]
            refine ob_call rfl rfl rfl (Nat.lt_of_lt_of_eq (by decide : 73 < 93) hsz.symm) rfl (enter_of Tryd.func13 (by kernel_rfl) rfl) ?_
            show Calls Tryd.prog 13 #[ac.eval (.tmp 72)] wc _
            rw [d72]
            exact (HRM.out wc).mono fun _ _ ⟨he, hb⟩ => ⟨_, he, rfl, hb⟩
          · intro ac wc hC hsz hfr hd hpr
            have d71 : ac.eval (.tmp 71) = (.bool true) := hd 12 rfl
            have d8 : ac.eval (.tmp 8) = (.int .i64 (r : Int)) := hfr 8 rfl
            rw [if_pos (wanted_some rfl (yielded_of rfl d71))]
            exact ob_copy rfl rfl rfl (Nat.lt_of_lt_of_eq (by decide : 74 < 93) hsz.symm) (Or.inl rfl) (Below.refl _ _) d8
          · intro ac wc hC hsz hfr hd hpr
            have d71 : ac.eval (.tmp 71) = (.bool true) := hd 12 rfl
            have d73 : ac.eval (.tmp 73) = (.int .i64 (r : Int)) := hd 14 rfl
            have d74 : ac.eval (.tmp 74) = (.int .i64 (r : Int)) := hd 15 rfl
            rw [if_pos (wanted_some rfl (yielded_of rfl d71))]
            exact ob_bin _ rfl rfl rfl (Nat.lt_of_lt_of_eq (by decide : 75 < 93) hsz.symm) rfl d73 d74 (eql_int (by simp)) (Below.refl _ _) rfl
          · intro ac wc hC hsz hfr hd hpr
            have d71 : ac.eval (.tmp 71) = (.bool true) := hd 12 rfl
            have d75 : ac.eval (.tmp 75) = (.bool true) := hd 16 rfl
            rw [if_pos (wanted_none rfl)]
            exact ob_pick rfl rfl rfl (Nat.lt_of_lt_of_eq (by decide : 76 < 93) hsz.symm) rfl d71 (Below.refl _ _) d75
          · intro ac wc hC hsz hfr hd hpr
            have d76 : ac.eval (.tmp 76) = (.bool true) := hd 17 rfl
            rw [if_pos (wanted_none rfl)]
            exact ob_copy rfl rfl rfl (Nat.lt_of_lt_of_eq (by decide : 77 < 93) hsz.symm) (Or.inl rfl) (Below.refl _ _) d76
          · intro ac wc hC hsz hfr hd hpr
            have d77 : ac.eval (.tmp 77) = (.bool true) := hd 18 rfl
            have d1 : ac.eval (.tmp 1) = (.pointer (some ⟨gp, 0, none⟩)) := hfr 1 rfl
            rw [if_pos (wanted_some rfl (yielded_of rfl d77))]
            exact ob_load _ rfl rfl rfl (Nat.lt_of_lt_of_eq (by decide : 78 < 93) hsz.symm) rfl d1 (load_plan10 (KP.out.go hC)) (Below.refl _ _) rfl
          · intro ac wc hC hsz hfr hd hpr
            have d77 : ac.eval (.tmp 77) = (.bool true) := hd 18 rfl
            have d78 : ac.eval (.tmp 78) = (.agg #[.int .i64 (l' : Int), .int .i64 (s' : Int), .int .i64 k, .int .u32 (n : Int)]) := hd 19 rfl
            rw [if_pos (wanted_some rfl (yielded_of rfl d77))]
            refine ob_call rfl rfl rfl (Nat.lt_of_lt_of_eq (by decide : 79 < 93) hsz.symm) rfl (enter_of Tryd.func14 (by kernel_rfl) rfl) ?_
            show Calls Tryd.prog 14 #[ac.eval (.tmp 78)] wc _
            rw [d78]
            exact (HPD.out wc).mono fun _ _ ⟨he, hb⟩ => ⟨_, he, rfl, hb⟩
          · intro ac wc hC hsz hfr hd hpr
            have d77 : ac.eval (.tmp 77) = (.bool true) := hd 18 rfl
            have d9 : ac.eval (.tmp 9) = (.int .i64 (pd : Int)) := hfr 9 rfl
            rw [if_pos (wanted_some rfl (yielded_of rfl d77))]
            exact ob_copy rfl rfl rfl (Nat.lt_of_lt_of_eq (by decide : 80 < 93) hsz.symm) (Or.inl rfl) (Below.refl _ _) d9
          · intro ac wc hC hsz hfr hd hpr
            have d77 : ac.eval (.tmp 77) = (.bool true) := hd 18 rfl
            have d79 : ac.eval (.tmp 79) = (.int .i64 (pd : Int)) := hd 20 rfl
            have d80 : ac.eval (.tmp 80) = (.int .i64 (pd : Int)) := hd 21 rfl
            rw [if_pos (wanted_some rfl (yielded_of rfl d77))]
            exact ob_bin _ rfl rfl rfl (Nat.lt_of_lt_of_eq (by decide : 81 < 93) hsz.symm) rfl d79 d80 (eql_int (by simp)) (Below.refl _ _) rfl
          · intro ac wc hC hsz hfr hd hpr
            have d77 : ac.eval (.tmp 77) = (.bool true) := hd 18 rfl
            have d81 : ac.eval (.tmp 81) = (.bool true) := hd 22 rfl
            rw [if_pos (wanted_none rfl)]
            exact ob_pick rfl rfl rfl (Nat.lt_of_lt_of_eq (by decide : 82 < 93) hsz.symm) rfl d77 (Below.refl _ _) d81
          · intro ac wc hC hsz hfr hd hpr
            have d82 : ac.eval (.tmp 82) = (.bool true) := hd 23 rfl
            rw [if_pos (wanted_none rfl)]
            exact ob_copy rfl rfl rfl (Nat.lt_of_lt_of_eq (by decide : 83 < 93) hsz.symm) (Or.inl rfl) (Below.refl _ _) d82
          · intro ac wc hC hsz hfr hd hpr
            have d83 : ac.eval (.tmp 83) = (.bool true) := hd 24 rfl
            have d4 : ac.eval (.tmp 4) = (.pointer (some ⟨gq, 0, none⟩)) := hfr 4 rfl
            rw [if_pos (wanted_some rfl (yielded_of rfl d83))]
            exact ob_load _ rfl rfl rfl (Nat.lt_of_lt_of_eq (by decide : 84 < 93) hsz.symm) rfl d4 (load_plan10 (KQ.out.go hC)) (Below.refl _ _) rfl
          · intro ac wc hC hsz hfr hd hpr
            have d83 : ac.eval (.tmp 83) = (.bool true) := hd 24 rfl
            have d6 : ac.eval (.tmp 6) = (.pointer (some ⟨gk, 0, none⟩)) := hfr 6 rfl
            rw [if_pos (wanted_some rfl (yielded_of rfl d83))]
            exact ob_load _ rfl rfl rfl (Nat.lt_of_lt_of_eq (by decide : 85 < 93) hsz.symm) rfl d6 (load_ref10 (KK.out.go hC)) (Below.refl _ _) rfl
          · intro ac wc hC hsz hfr hd hpr
            have d83 : ac.eval (.tmp 83) = (.bool true) := hd 24 rfl
            have d84 : ac.eval (.tmp 84) = (.agg #[.int .i64 (l' : Int), .int .i64 (s' : Int), .int .i64 (nn : Int), .int .u32 (n : Int)]) := hd 25 rfl
            have d85 : ac.eval (.tmp 85) = (.agg #[.int .i64 (l' : Int), .int .i64 (s' : Int), .int .i64 (nn : Int), .int .u32 (n : Int)]) := hd 26 rfl
            rw [if_pos (wanted_some rfl (yielded_of rfl d83))]
            exact ob_bin _ rfl rfl rfl (Nat.lt_of_lt_of_eq (by decide : 86 < 93) hsz.symm) rfl d84 d85 (eql_plan10 _ _ _ _) (Below.refl _ _) rfl
          · intro ac wc hC hsz hfr hd hpr
            have d83 : ac.eval (.tmp 83) = (.bool true) := hd 24 rfl
            have d86 : ac.eval (.tmp 86) = (.bool true) := hd 27 rfl
            rw [if_pos (wanted_none rfl)]
            exact ob_pick rfl rfl rfl (Nat.lt_of_lt_of_eq (by decide : 87 < 93) hsz.symm) rfl d83 (Below.refl _ _) d86
          · intro ac wc hC hsz hfr hd hpr
            have d87 : ac.eval (.tmp 87) = (.bool true) := hd 28 rfl
            rw [if_pos (wanted_none rfl)]
            exact ob_copy rfl rfl rfl (Nat.lt_of_lt_of_eq (by decide : 88 < 93) hsz.symm) (Or.inl rfl) (Below.refl _ _) d87
          · intro ac wc hC hsz hfr hd hpr
            have d88 : ac.eval (.tmp 88) = (.bool true) := hd 29 rfl
            have d5 : ac.eval (.tmp 5) = (.int .i64 f) := hfr 5 rfl
            rw [if_pos (wanted_some rfl (yielded_of rfl d88))]
            exact ob_copy rfl rfl rfl (Nat.lt_of_lt_of_eq (by decide : 89 < 93) hsz.symm) (Or.inl rfl) (Below.refl _ _) d5
          · intro ac wc hC hsz hfr hd hpr
            have d88 : ac.eval (.tmp 88) = (.bool true) := hd 29 rfl
            have d7 : ac.eval (.tmp 7) = (.int .i64 f) := hfr 7 rfl
            rw [if_pos (wanted_some rfl (yielded_of rfl d88))]
            exact ob_copy rfl rfl rfl (Nat.lt_of_lt_of_eq (by decide : 90 < 93) hsz.symm) (Or.inl rfl) (Below.refl _ _) d7
          · intro ac wc hC hsz hfr hd hpr
            have d88 : ac.eval (.tmp 88) = (.bool true) := hd 29 rfl
            have d89 : ac.eval (.tmp 89) = (.int .i64 f) := hd 30 rfl
            have d90 : ac.eval (.tmp 90) = (.int .i64 f) := hd 31 rfl
            rw [if_pos (wanted_some rfl (yielded_of rfl d88))]
            exact ob_bin _ rfl rfl rfl (Nat.lt_of_lt_of_eq (by decide : 91 < 93) hsz.symm) rfl d89 d90 (eql_int (by simp)) (Below.refl _ _) rfl
          · intro ac wc hC hsz hfr hd hpr
            have d88 : ac.eval (.tmp 88) = (.bool true) := hd 29 rfl
            have d91 : ac.eval (.tmp 91) = (.bool true) := hd 32 rfl
            rw [if_pos (wanted_none rfl)]
            exact ob_pick rfl rfl rfl (Nat.lt_of_lt_of_eq (by decide : 92 < 93) hsz.symm) rfl d88 (Below.refl _ _) d91
          · intro ac wc hC hsz hfr hd hpr
            have d92 : ac.eval (.tmp 92) = (.bool true) := hd 33 rfl
            rw [if_pos (wanted_none rfl)]
            exact ob_copy rfl rfl rfl (Nat.lt_of_lt_of_eq (by decide : 2 < 93) hsz.symm) (Or.inr rfl) (Below.refl _ _) d92
        intro a' W20 hC hdef hsz hfr hd
        have e59 : a'.eval (.tmp 59) = (.agg #[.int .i64 (l' : Int), .int .i64 (s' : Int), .int .i64 k, .int .u32 (n : Int)]) := hd 0 (by decide)
        have e60 : a'.eval (.tmp 60) = (.int .i64 c) := hd 1 (by decide)
        have e61 : a'.eval (.tmp 61) = (.agg #[.int .i64 (l' : Int), .int .i64 (s' : Int), .int .i64 k, .int .u32 (n : Int)]) := hd 2 (by decide)
        have e62 : a'.eval (.tmp 62) = (.int .i64 c) := hd 3 (by decide)
        have e63 : a'.eval (.tmp 63) = (.bool true) := hd 4 (by decide)
        have e64 : a'.eval (.tmp 64) = (.bool true) := hd 5 (by decide)
        have e65 : a'.eval (.tmp 65) = (.agg #[.int .i64 (l' : Int), .int .i64 (s' : Int), .int .i64 k, .int .u32 (n : Int)]) := hd 6 (by decide)
        have e66 : a'.eval (.tmp 66) = (.string TX) := hd 7 (by decide)
        have e67 : a'.eval (.tmp 67) = (.agg #[.int .i64 (l' : Int), .int .i64 (s' : Int), .int .i64 k, .int .u32 (n : Int)]) := hd 8 (by decide)
        have e68 : a'.eval (.tmp 68) = (.string TX) := hd 9 (by decide)
        have e69 : a'.eval (.tmp 69) = (.bool true) := hd 10 (by decide)
        have e70 : a'.eval (.tmp 70) = (.bool true) := hd 11 (by decide)
        have e71 : a'.eval (.tmp 71) = (.bool true) := hd 12 (by decide)
        have e72 : a'.eval (.tmp 72) = (.agg #[.int .i64 (l' : Int), .int .i64 (s' : Int), .int .i64 k, .int .u32 (n : Int)]) := hd 13 (by decide)
        have e73 : a'.eval (.tmp 73) = (.int .i64 (r : Int)) := hd 14 (by decide)
        have e74 : a'.eval (.tmp 74) = (.int .i64 (r : Int)) := hd 15 (by decide)
        have e75 : a'.eval (.tmp 75) = (.bool true) := hd 16 (by decide)
        have e76 : a'.eval (.tmp 76) = (.bool true) := hd 17 (by decide)
        have e77 : a'.eval (.tmp 77) = (.bool true) := hd 18 (by decide)
        have e78 : a'.eval (.tmp 78) = (.agg #[.int .i64 (l' : Int), .int .i64 (s' : Int), .int .i64 k, .int .u32 (n : Int)]) := hd 19 (by decide)
        have e79 : a'.eval (.tmp 79) = (.int .i64 (pd : Int)) := hd 20 (by decide)
        have e80 : a'.eval (.tmp 80) = (.int .i64 (pd : Int)) := hd 21 (by decide)
        have e81 : a'.eval (.tmp 81) = (.bool true) := hd 22 (by decide)
        have e82 : a'.eval (.tmp 82) = (.bool true) := hd 23 (by decide)
        have e83 : a'.eval (.tmp 83) = (.bool true) := hd 24 (by decide)
        have e84 : a'.eval (.tmp 84) = (.agg #[.int .i64 (l' : Int), .int .i64 (s' : Int), .int .i64 (nn : Int), .int .u32 (n : Int)]) := hd 25 (by decide)
        have e85 : a'.eval (.tmp 85) = (.agg #[.int .i64 (l' : Int), .int .i64 (s' : Int), .int .i64 (nn : Int), .int .u32 (n : Int)]) := hd 26 (by decide)
        have e86 : a'.eval (.tmp 86) = (.bool true) := hd 27 (by decide)
        have e87 : a'.eval (.tmp 87) = (.bool true) := hd 28 (by decide)
        have e88 : a'.eval (.tmp 88) = (.bool true) := hd 29 (by decide)
        have e89 : a'.eval (.tmp 89) = (.int .i64 f) := hd 30 (by decide)
        have e90 : a'.eval (.tmp 90) = (.int .i64 f) := hd 31 (by decide)
        have e91 : a'.eval (.tmp 91) = (.bool true) := hd 32 (by decide)
        have e92 : a'.eval (.tmp 92) = (.bool true) := hd 33 (by decide)
        have e2 : a'.eval (.tmp 2) = (.bool true) := hd 34 (by decide)
        have hact := act_puts hdef hsz hfr
        simp only [dstsOf, List.filterMap, putAll, Act.put, List.setIfInBounds_toArray, List.set_cons_succ, List.set_cons_zero, e59, e60, e61, e62, e63, e64, e65, e66, e67, e68, e69, e70, e71, e72, e73, e74, e75, e76, e77, e78, e79, e80, e81, e82, e83, e84, e85, e86, e87, e88, e89, e90, e91, e92, e2] at hact
        clear hd hfr hsz hdef e59 e60 e61 e62 e63 e64 e65 e66 e67 e68 e69 e70 e71 e72 e73 e74 e75 e76 e77 e78 e79 e80 e81 e82 e83 e84 e85 e86 e87 e88 e89 e90 e91 e92 e2
        subst hact
        replace B := B.trans (hC.mono B.size)
        clear hC
        go_wp2_with fail
        go_ret
        exact ⟨rfl, B⟩
      · rw [if_neg hc0] at HRM HPD
        obtain ⟨c, hc⟩ : ∃ c : Int, c = checkE (l' : Int) (s' : Int) k := ⟨_, rfl⟩
        rw [← hc] at HCK HRC hc0
        clear hc
        go_wp2_with fail
        refine (HRC.out _).mono ?_
        rintro e w21 ⟨rfl, hb21⟩
        replace KP := Lib.hid (KP.out.go hb21)
        replace KR := Lib.hid (KR.out.go hb21)
        replace KQ := Lib.hid (KQ.out.go hb21)
        replace KK := Lib.hid (KK.out.go hb21)
        replace HT := Lib.hid (HT.out.go hb21)
        replace B := B.trans (hb21.mono B.size)
        have hce : (c == (0 : Int)) = false := by rw [beq_eq_false_iff_ne]; exact hc0
        clear hb21 p0 p1 p2 p3 pl
        go_upto_region 14 with fail
        refine wp_region_mono (C := Cb w21) (R := Rb) (H := fun _ => Hb w21) [Ty.val 59 (.agg #[.int .i64 (l' : Int), .int .i64 (s' : Int), .int .i64 k, .int .u32 (n : Int)]), Ty.val 60 (.int .i64 c), Ty.val 61 (.agg #[.int .i64 (l' : Int), .int .i64 (s' : Int), .int .i64 k, .int .u32 (n : Int)]), Ty.val 62 (.int .i64 c), Ty.val 63 (.bool true), Ty.val 64 (.bool true), Ty.val 65 (.agg #[.int .i64 (l' : Int), .int .i64 (s' : Int), .int .i64 k, .int .u32 (n : Int)]), Ty.val 66 (.string TX), Ty.val 67 (.agg #[.int .i64 (l' : Int), .int .i64 (s' : Int), .int .i64 k, .int .u32 (n : Int)]), Ty.val 68 (.string TX), Ty.val 69 (.bool true), Ty.val 70 (.bool true), Ty.val 71 (.bool true), Ty.val 72 (.agg #[.int .i64 (l' : Int), .int .i64 (s' : Int), .int .i64 k, .int .u32 (n : Int)]), Ty.val 73 (.int .i64 0), Ty.val 74 (.int .i64 0), Ty.val 75 (.bool true), Ty.val 76 (.bool true), Ty.val 77 (.bool true), Ty.val 78 (.agg #[.int .i64 (l' : Int), .int .i64 (s' : Int), .int .i64 k, .int .u32 (n : Int)]), Ty.val 79 (.int .i64 0), Ty.val 80 (.int .i64 0), Ty.val 81 (.bool true), Ty.val 82 (.bool true), Ty.val 83 (.bool true), Ty.val 84 (.agg #[.int .i64 (l' : Int), .int .i64 (s' : Int), .int .i64 (nn : Int), .int .u32 (n : Int)]), Ty.val 85 (.agg #[.int .i64 (l' : Int), .int .i64 (s' : Int), .int .i64 (nn : Int), .int .u32 (n : Int)]), Ty.val 86 (.bool true), Ty.val 87 (.bool true), Ty.val 88 (.bool true), Ty.val 89 (.int .i64 f), Ty.val 90 (.int .i64 f), Ty.val 91 (.bool true), Ty.val 92 (.bool true), Ty.val 2 (.bool true)] (by kernel_rfl) (hC_b w21) (hCH_b w21) (drew_b w21) ⟨trivial, trivial, trivial, trivial, trivial, trivial, trivial, trivial, trivial, trivial, trivial, trivial, trivial, trivial, trivial, trivial, trivial, trivial, trivial, trivial, trivial, trivial, trivial, trivial, trivial, trivial, trivial, trivial, trivial, trivial, trivial, trivial, trivial, trivial, trivial, trivial⟩ (by kernel_rfl) ?_ ?_
        · refine ⟨?_, ?_, ?_, ?_, ?_, ?_, ?_, ?_, ?_, ?_, ?_, ?_, ?_, ?_, ?_, ?_, ?_, ?_, ?_, ?_, ?_, ?_, ?_, ?_, ?_, ?_, ?_, ?_, ?_, ?_, ?_, ?_, ?_, ?_, ?_, trivial⟩
          · intro ac wc hC hsz hfr hd hpr
            have d1 : ac.eval (.tmp 1) = (.pointer (some ⟨gp, 0, none⟩)) := hfr 1 rfl
            rw [if_pos (wanted_none rfl)]
            exact ob_load _ rfl rfl rfl (Nat.lt_of_lt_of_eq (by decide : 59 < 93) hsz.symm) rfl d1 (load_plan10 (KP.out.go hC)) (Below.refl _ _) rfl
          · intro ac wc hC hsz hfr hd hpr
            have d59 : ac.eval (.tmp 59) = (.agg #[.int .i64 (l' : Int), .int .i64 (s' : Int), .int .i64 k, .int .u32 (n : Int)]) := hd 0 rfl
            rw [if_pos (wanted_none rfl)]
            refine ob_call rfl rfl rfl (Nat.lt_of_lt_of_eq (by decide : 60 < 93) hsz.symm) rfl (enter_of Tryd.func10 (by kernel_rfl) rfl) ?_
            show Calls Tryd.prog 10 #[ac.eval (.tmp 59)] wc _
            rw [d59]
            exact (HCK.out wc).mono fun _ _ ⟨he, hb⟩ => ⟨_, he, rfl, hb⟩
          · intro ac wc hC hsz hfr hd hpr
            have d3 : ac.eval (.tmp 3) = (.pointer (some ⟨gr, 0, none⟩)) := hfr 3 rfl
            rw [if_pos (wanted_none rfl)]
            exact ob_load _ rfl rfl rfl (Nat.lt_of_lt_of_eq (by decide : 61 < 93) hsz.symm) rfl d3 (load_ref10 (KR.out.go hC)) (Below.refl _ _) rfl
          · intro ac wc hC hsz hfr hd hpr
            have d61 : ac.eval (.tmp 61) = (.agg #[.int .i64 (l' : Int), .int .i64 (s' : Int), .int .i64 k, .int .u32 (n : Int)]) := hd 2 rfl
            rw [if_pos (wanted_none rfl)]
            refine ob_call rfl rfl rfl (Nat.lt_of_lt_of_eq (by decide : 62 < 93) hsz.symm) rfl (enter_of Tryd.func9 (by kernel_rfl) rfl) ?_
            show Calls Tryd.prog 9 #[ac.eval (.tmp 61)] wc _
            rw [d61]
            exact (HRC.out wc).mono fun _ _ ⟨he, hb⟩ => ⟨_, he, rfl, hb⟩
          · intro ac wc hC hsz hfr hd hpr
            have d60 : ac.eval (.tmp 60) = (.int .i64 c) := hd 1 rfl
            have d62 : ac.eval (.tmp 62) = (.int .i64 c) := hd 3 rfl
            rw [if_pos (wanted_none rfl)]
            exact ob_bin _ rfl rfl rfl (Nat.lt_of_lt_of_eq (by decide : 63 < 93) hsz.symm) rfl d60 d62 (eql_int (by simp)) (Below.refl _ _) rfl
          · intro ac wc hC hsz hfr hd hpr
            have d63 : ac.eval (.tmp 63) = (.bool true) := hd 4 rfl
            rw [if_pos (wanted_none rfl)]
            exact ob_copy rfl rfl rfl (Nat.lt_of_lt_of_eq (by decide : 64 < 93) hsz.symm) (Or.inl rfl) (Below.refl _ _) d63
          · intro ac wc hC hsz hfr hd hpr
            have d64 : ac.eval (.tmp 64) = (.bool true) := hd 5 rfl
            have d1 : ac.eval (.tmp 1) = (.pointer (some ⟨gp, 0, none⟩)) := hfr 1 rfl
            rw [if_pos (wanted_some rfl (yielded_of rfl d64))]
            exact ob_load _ rfl rfl rfl (Nat.lt_of_lt_of_eq (by decide : 65 < 93) hsz.symm) rfl d1 (load_plan10 (KP.out.go hC)) (Below.refl _ _) rfl
          · intro ac wc hC hsz hfr hd hpr
            have d64 : ac.eval (.tmp 64) = (.bool true) := hd 5 rfl
            have d65 : ac.eval (.tmp 65) = (.agg #[.int .i64 (l' : Int), .int .i64 (s' : Int), .int .i64 k, .int .u32 (n : Int)]) := hd 6 rfl
            rw [if_pos (wanted_some rfl (yielded_of rfl d64))]
            refine ob_call rfl rfl rfl (Nat.lt_of_lt_of_eq (by decide : 66 < 93) hsz.symm) rfl (enter_of Tryd.func11 (by kernel_rfl) rfl) ?_
            show Calls Tryd.prog 11 #[ac.eval (.tmp 65)] wc _
            rw [d65]
            exact (HTX.out wc (HT.out.go hC)).mono fun _ _ ⟨he, hb⟩ => ⟨_, he, rfl, hb⟩
          · intro ac wc hC hsz hfr hd hpr
            have d64 : ac.eval (.tmp 64) = (.bool true) := hd 5 rfl
            have d3 : ac.eval (.tmp 3) = (.pointer (some ⟨gr, 0, none⟩)) := hfr 3 rfl
            rw [if_pos (wanted_some rfl (yielded_of rfl d64))]
            exact ob_load _ rfl rfl rfl (Nat.lt_of_lt_of_eq (by decide : 67 < 93) hsz.symm) rfl d3 (load_ref10 (KR.out.go hC)) (Below.refl _ _) rfl
          · intro ac wc hC hsz hfr hd hpr
            have d64 : ac.eval (.tmp 64) = (.bool true) := hd 5 rfl
            have d67 : ac.eval (.tmp 67) = (.agg #[.int .i64 (l' : Int), .int .i64 (s' : Int), .int .i64 k, .int .u32 (n : Int)]) := hd 8 rfl
            rw [if_pos (wanted_some rfl (yielded_of rfl d64))]
            refine ob_call rfl rfl rfl (Nat.lt_of_lt_of_eq (by decide : 68 < 93) hsz.symm) rfl (enter_of Tryd.func12 (by kernel_rfl) rfl) ?_
            show Calls Tryd.prog 12 #[ac.eval (.tmp 67)] wc _
            rw [d67]
            exact (HRT.out wc (HT.out.go hC)).mono fun _ _ ⟨he, hb⟩ => ⟨_, he, rfl, hb⟩
          · intro ac wc hC hsz hfr hd hpr
            have d64 : ac.eval (.tmp 64) = (.bool true) := hd 5 rfl
            have d66 : ac.eval (.tmp 66) = (.string TX) := hd 7 rfl
            have d68 : ac.eval (.tmp 68) = (.string TX) := hd 9 rfl
            rw [if_pos (wanted_some rfl (yielded_of rfl d64))]
            exact ob_bin _ rfl rfl rfl (Nat.lt_of_lt_of_eq (by decide : 69 < 93) hsz.symm) rfl d66 d68 (eql_str10 TX) (Below.refl _ _) rfl
          · intro ac wc hC hsz hfr hd hpr
            have d64 : ac.eval (.tmp 64) = (.bool true) := hd 5 rfl
            have d69 : ac.eval (.tmp 69) = (.bool true) := hd 10 rfl
            rw [if_pos (wanted_none rfl)]
            exact ob_pick rfl rfl rfl (Nat.lt_of_lt_of_eq (by decide : 70 < 93) hsz.symm) rfl d64 (Below.refl _ _) d69
          · intro ac wc hC hsz hfr hd hpr
            have d70 : ac.eval (.tmp 70) = (.bool true) := hd 11 rfl
            rw [if_pos (wanted_none rfl)]
            exact ob_copy rfl rfl rfl (Nat.lt_of_lt_of_eq (by decide : 71 < 93) hsz.symm) (Or.inl rfl) (Below.refl _ _) d70
          · intro ac wc hC hsz hfr hd hpr
            have d71 : ac.eval (.tmp 71) = (.bool true) := hd 12 rfl
            have d1 : ac.eval (.tmp 1) = (.pointer (some ⟨gp, 0, none⟩)) := hfr 1 rfl
            rw [if_pos (wanted_some rfl (yielded_of rfl d71))]
            exact ob_load _ rfl rfl rfl (Nat.lt_of_lt_of_eq (by decide : 72 < 93) hsz.symm) rfl d1 (load_plan10 (KP.out.go hC)) (Below.refl _ _) rfl
          · intro ac wc hC hsz hfr hd hpr
            have d71 : ac.eval (.tmp 71) = (.bool true) := hd 12 rfl
            have d72 : ac.eval (.tmp 72) = (.agg #[.int .i64 (l' : Int), .int .i64 (s' : Int), .int .i64 k, .int .u32 (n : Int)]) := hd 13 rfl
            rw [if_pos (wanted_some rfl (yielded_of rfl d71))]
            refine ob_call rfl rfl rfl (Nat.lt_of_lt_of_eq (by decide : 73 < 93) hsz.symm) rfl (enter_of Tryd.func13 (by kernel_rfl) rfl) ?_
            show Calls Tryd.prog 13 #[ac.eval (.tmp 72)] wc _
            rw [d72]
            exact (HRM.out wc).mono fun _ _ ⟨he, hb⟩ => ⟨_, he, rfl, hb⟩
          · intro ac wc hC hsz hfr hd hpr
            have d71 : ac.eval (.tmp 71) = (.bool true) := hd 12 rfl
            have d8 : ac.eval (.tmp 8) = (.int .i64 0) := hfr 8 rfl
            rw [if_pos (wanted_some rfl (yielded_of rfl d71))]
            exact ob_copy rfl rfl rfl (Nat.lt_of_lt_of_eq (by decide : 74 < 93) hsz.symm) (Or.inl rfl) (Below.refl _ _) d8
          · intro ac wc hC hsz hfr hd hpr
            have d71 : ac.eval (.tmp 71) = (.bool true) := hd 12 rfl
            have d73 : ac.eval (.tmp 73) = (.int .i64 0) := hd 14 rfl
            have d74 : ac.eval (.tmp 74) = (.int .i64 0) := hd 15 rfl
            rw [if_pos (wanted_some rfl (yielded_of rfl d71))]
            exact ob_bin _ rfl rfl rfl (Nat.lt_of_lt_of_eq (by decide : 75 < 93) hsz.symm) rfl d73 d74 (eql_int (by simp)) (Below.refl _ _) rfl
          · intro ac wc hC hsz hfr hd hpr
            have d71 : ac.eval (.tmp 71) = (.bool true) := hd 12 rfl
            have d75 : ac.eval (.tmp 75) = (.bool true) := hd 16 rfl
            rw [if_pos (wanted_none rfl)]
            exact ob_pick rfl rfl rfl (Nat.lt_of_lt_of_eq (by decide : 76 < 93) hsz.symm) rfl d71 (Below.refl _ _) d75
          · intro ac wc hC hsz hfr hd hpr
            have d76 : ac.eval (.tmp 76) = (.bool true) := hd 17 rfl
            rw [if_pos (wanted_none rfl)]
            exact ob_copy rfl rfl rfl (Nat.lt_of_lt_of_eq (by decide : 77 < 93) hsz.symm) (Or.inl rfl) (Below.refl _ _) d76
          · intro ac wc hC hsz hfr hd hpr
            have d77 : ac.eval (.tmp 77) = (.bool true) := hd 18 rfl
            have d1 : ac.eval (.tmp 1) = (.pointer (some ⟨gp, 0, none⟩)) := hfr 1 rfl
            rw [if_pos (wanted_some rfl (yielded_of rfl d77))]
            exact ob_load _ rfl rfl rfl (Nat.lt_of_lt_of_eq (by decide : 78 < 93) hsz.symm) rfl d1 (load_plan10 (KP.out.go hC)) (Below.refl _ _) rfl
          · intro ac wc hC hsz hfr hd hpr
            have d77 : ac.eval (.tmp 77) = (.bool true) := hd 18 rfl
            have d78 : ac.eval (.tmp 78) = (.agg #[.int .i64 (l' : Int), .int .i64 (s' : Int), .int .i64 k, .int .u32 (n : Int)]) := hd 19 rfl
            rw [if_pos (wanted_some rfl (yielded_of rfl d77))]
            refine ob_call rfl rfl rfl (Nat.lt_of_lt_of_eq (by decide : 79 < 93) hsz.symm) rfl (enter_of Tryd.func14 (by kernel_rfl) rfl) ?_
            show Calls Tryd.prog 14 #[ac.eval (.tmp 78)] wc _
            rw [d78]
            exact (HPD.out wc).mono fun _ _ ⟨he, hb⟩ => ⟨_, he, rfl, hb⟩
          · intro ac wc hC hsz hfr hd hpr
            have d77 : ac.eval (.tmp 77) = (.bool true) := hd 18 rfl
            have d9 : ac.eval (.tmp 9) = (.int .i64 0) := hfr 9 rfl
            rw [if_pos (wanted_some rfl (yielded_of rfl d77))]
            exact ob_copy rfl rfl rfl (Nat.lt_of_lt_of_eq (by decide : 80 < 93) hsz.symm) (Or.inl rfl) (Below.refl _ _) d9
          · intro ac wc hC hsz hfr hd hpr
            have d77 : ac.eval (.tmp 77) = (.bool true) := hd 18 rfl
            have d79 : ac.eval (.tmp 79) = (.int .i64 0) := hd 20 rfl
            have d80 : ac.eval (.tmp 80) = (.int .i64 0) := hd 21 rfl
            rw [if_pos (wanted_some rfl (yielded_of rfl d77))]
            exact ob_bin _ rfl rfl rfl (Nat.lt_of_lt_of_eq (by decide : 81 < 93) hsz.symm) rfl d79 d80 (eql_int (by simp)) (Below.refl _ _) rfl
          · intro ac wc hC hsz hfr hd hpr
            have d77 : ac.eval (.tmp 77) = (.bool true) := hd 18 rfl
            have d81 : ac.eval (.tmp 81) = (.bool true) := hd 22 rfl
            rw [if_pos (wanted_none rfl)]
            exact ob_pick rfl rfl rfl (Nat.lt_of_lt_of_eq (by decide : 82 < 93) hsz.symm) rfl d77 (Below.refl _ _) d81
          · intro ac wc hC hsz hfr hd hpr
            have d82 : ac.eval (.tmp 82) = (.bool true) := hd 23 rfl
            rw [if_pos (wanted_none rfl)]
            exact ob_copy rfl rfl rfl (Nat.lt_of_lt_of_eq (by decide : 83 < 93) hsz.symm) (Or.inl rfl) (Below.refl _ _) d82
          · intro ac wc hC hsz hfr hd hpr
            have d83 : ac.eval (.tmp 83) = (.bool true) := hd 24 rfl
            have d4 : ac.eval (.tmp 4) = (.pointer (some ⟨gq, 0, none⟩)) := hfr 4 rfl
            rw [if_pos (wanted_some rfl (yielded_of rfl d83))]
            exact ob_load _ rfl rfl rfl (Nat.lt_of_lt_of_eq (by decide : 84 < 93) hsz.symm) rfl d4 (load_plan10 (KQ.out.go hC)) (Below.refl _ _) rfl
          · intro ac wc hC hsz hfr hd hpr
            have d83 : ac.eval (.tmp 83) = (.bool true) := hd 24 rfl
            have d6 : ac.eval (.tmp 6) = (.pointer (some ⟨gk, 0, none⟩)) := hfr 6 rfl
            rw [if_pos (wanted_some rfl (yielded_of rfl d83))]
            exact ob_load _ rfl rfl rfl (Nat.lt_of_lt_of_eq (by decide : 85 < 93) hsz.symm) rfl d6 (load_ref10 (KK.out.go hC)) (Below.refl _ _) rfl
          · intro ac wc hC hsz hfr hd hpr
            have d83 : ac.eval (.tmp 83) = (.bool true) := hd 24 rfl
            have d84 : ac.eval (.tmp 84) = (.agg #[.int .i64 (l' : Int), .int .i64 (s' : Int), .int .i64 (nn : Int), .int .u32 (n : Int)]) := hd 25 rfl
            have d85 : ac.eval (.tmp 85) = (.agg #[.int .i64 (l' : Int), .int .i64 (s' : Int), .int .i64 (nn : Int), .int .u32 (n : Int)]) := hd 26 rfl
            rw [if_pos (wanted_some rfl (yielded_of rfl d83))]
            exact ob_bin _ rfl rfl rfl (Nat.lt_of_lt_of_eq (by decide : 86 < 93) hsz.symm) rfl d84 d85 (eql_plan10 _ _ _ _) (Below.refl _ _) rfl
          · intro ac wc hC hsz hfr hd hpr
            have d83 : ac.eval (.tmp 83) = (.bool true) := hd 24 rfl
            have d86 : ac.eval (.tmp 86) = (.bool true) := hd 27 rfl
            rw [if_pos (wanted_none rfl)]
            exact ob_pick rfl rfl rfl (Nat.lt_of_lt_of_eq (by decide : 87 < 93) hsz.symm) rfl d83 (Below.refl _ _) d86
          · intro ac wc hC hsz hfr hd hpr
            have d87 : ac.eval (.tmp 87) = (.bool true) := hd 28 rfl
            rw [if_pos (wanted_none rfl)]
            exact ob_copy rfl rfl rfl (Nat.lt_of_lt_of_eq (by decide : 88 < 93) hsz.symm) (Or.inl rfl) (Below.refl _ _) d87
          · intro ac wc hC hsz hfr hd hpr
            have d88 : ac.eval (.tmp 88) = (.bool true) := hd 29 rfl
            have d5 : ac.eval (.tmp 5) = (.int .i64 f) := hfr 5 rfl
            rw [if_pos (wanted_some rfl (yielded_of rfl d88))]
            exact ob_copy rfl rfl rfl (Nat.lt_of_lt_of_eq (by decide : 89 < 93) hsz.symm) (Or.inl rfl) (Below.refl _ _) d5
          · intro ac wc hC hsz hfr hd hpr
            have d88 : ac.eval (.tmp 88) = (.bool true) := hd 29 rfl
            have d7 : ac.eval (.tmp 7) = (.int .i64 f) := hfr 7 rfl
            rw [if_pos (wanted_some rfl (yielded_of rfl d88))]
            exact ob_copy rfl rfl rfl (Nat.lt_of_lt_of_eq (by decide : 90 < 93) hsz.symm) (Or.inl rfl) (Below.refl _ _) d7
          · intro ac wc hC hsz hfr hd hpr
            have d88 : ac.eval (.tmp 88) = (.bool true) := hd 29 rfl
            have d89 : ac.eval (.tmp 89) = (.int .i64 f) := hd 30 rfl
            have d90 : ac.eval (.tmp 90) = (.int .i64 f) := hd 31 rfl
            rw [if_pos (wanted_some rfl (yielded_of rfl d88))]
            exact ob_bin _ rfl rfl rfl (Nat.lt_of_lt_of_eq (by decide : 91 < 93) hsz.symm) rfl d89 d90 (eql_int (by simp)) (Below.refl _ _) rfl
          · intro ac wc hC hsz hfr hd hpr
            have d88 : ac.eval (.tmp 88) = (.bool true) := hd 29 rfl
            have d91 : ac.eval (.tmp 91) = (.bool true) := hd 32 rfl
            rw [if_pos (wanted_none rfl)]
            exact ob_pick rfl rfl rfl (Nat.lt_of_lt_of_eq (by decide : 92 < 93) hsz.symm) rfl d88 (Below.refl _ _) d91
          · intro ac wc hC hsz hfr hd hpr
            have d92 : ac.eval (.tmp 92) = (.bool true) := hd 33 rfl
            rw [if_pos (wanted_none rfl)]
            exact ob_copy rfl rfl rfl (Nat.lt_of_lt_of_eq (by decide : 2 < 93) hsz.symm) (Or.inr rfl) (Below.refl _ _) d92
        intro a' W20 hC hdef hsz hfr hd
        have e59 : a'.eval (.tmp 59) = (.agg #[.int .i64 (l' : Int), .int .i64 (s' : Int), .int .i64 k, .int .u32 (n : Int)]) := hd 0 (by decide)
        have e60 : a'.eval (.tmp 60) = (.int .i64 c) := hd 1 (by decide)
        have e61 : a'.eval (.tmp 61) = (.agg #[.int .i64 (l' : Int), .int .i64 (s' : Int), .int .i64 k, .int .u32 (n : Int)]) := hd 2 (by decide)
        have e62 : a'.eval (.tmp 62) = (.int .i64 c) := hd 3 (by decide)
        have e63 : a'.eval (.tmp 63) = (.bool true) := hd 4 (by decide)
        have e64 : a'.eval (.tmp 64) = (.bool true) := hd 5 (by decide)
        have e65 : a'.eval (.tmp 65) = (.agg #[.int .i64 (l' : Int), .int .i64 (s' : Int), .int .i64 k, .int .u32 (n : Int)]) := hd 6 (by decide)
        have e66 : a'.eval (.tmp 66) = (.string TX) := hd 7 (by decide)
        have e67 : a'.eval (.tmp 67) = (.agg #[.int .i64 (l' : Int), .int .i64 (s' : Int), .int .i64 k, .int .u32 (n : Int)]) := hd 8 (by decide)
        have e68 : a'.eval (.tmp 68) = (.string TX) := hd 9 (by decide)
        have e69 : a'.eval (.tmp 69) = (.bool true) := hd 10 (by decide)
        have e70 : a'.eval (.tmp 70) = (.bool true) := hd 11 (by decide)
        have e71 : a'.eval (.tmp 71) = (.bool true) := hd 12 (by decide)
        have e72 : a'.eval (.tmp 72) = (.agg #[.int .i64 (l' : Int), .int .i64 (s' : Int), .int .i64 k, .int .u32 (n : Int)]) := hd 13 (by decide)
        have e73 : a'.eval (.tmp 73) = (.int .i64 0) := hd 14 (by decide)
        have e74 : a'.eval (.tmp 74) = (.int .i64 0) := hd 15 (by decide)
        have e75 : a'.eval (.tmp 75) = (.bool true) := hd 16 (by decide)
        have e76 : a'.eval (.tmp 76) = (.bool true) := hd 17 (by decide)
        have e77 : a'.eval (.tmp 77) = (.bool true) := hd 18 (by decide)
        have e78 : a'.eval (.tmp 78) = (.agg #[.int .i64 (l' : Int), .int .i64 (s' : Int), .int .i64 k, .int .u32 (n : Int)]) := hd 19 (by decide)
        have e79 : a'.eval (.tmp 79) = (.int .i64 0) := hd 20 (by decide)
        have e80 : a'.eval (.tmp 80) = (.int .i64 0) := hd 21 (by decide)
        have e81 : a'.eval (.tmp 81) = (.bool true) := hd 22 (by decide)
        have e82 : a'.eval (.tmp 82) = (.bool true) := hd 23 (by decide)
        have e83 : a'.eval (.tmp 83) = (.bool true) := hd 24 (by decide)
        have e84 : a'.eval (.tmp 84) = (.agg #[.int .i64 (l' : Int), .int .i64 (s' : Int), .int .i64 (nn : Int), .int .u32 (n : Int)]) := hd 25 (by decide)
        have e85 : a'.eval (.tmp 85) = (.agg #[.int .i64 (l' : Int), .int .i64 (s' : Int), .int .i64 (nn : Int), .int .u32 (n : Int)]) := hd 26 (by decide)
        have e86 : a'.eval (.tmp 86) = (.bool true) := hd 27 (by decide)
        have e87 : a'.eval (.tmp 87) = (.bool true) := hd 28 (by decide)
        have e88 : a'.eval (.tmp 88) = (.bool true) := hd 29 (by decide)
        have e89 : a'.eval (.tmp 89) = (.int .i64 f) := hd 30 (by decide)
        have e90 : a'.eval (.tmp 90) = (.int .i64 f) := hd 31 (by decide)
        have e91 : a'.eval (.tmp 91) = (.bool true) := hd 32 (by decide)
        have e92 : a'.eval (.tmp 92) = (.bool true) := hd 33 (by decide)
        have e2 : a'.eval (.tmp 2) = (.bool true) := hd 34 (by decide)
        have hact := act_puts hdef hsz hfr
        simp only [dstsOf, List.filterMap, putAll, Act.put, List.setIfInBounds_toArray, List.set_cons_succ, List.set_cons_zero, e59, e60, e61, e62, e63, e64, e65, e66, e67, e68, e69, e70, e71, e72, e73, e74, e75, e76, e77, e78, e79, e80, e81, e82, e83, e84, e85, e86, e87, e88, e89, e90, e91, e92, e2] at hact
        clear hd hfr hsz hdef e59 e60 e61 e62 e63 e64 e65 e66 e67 e68 e69 e70 e71 e72 e73 e74 e75 e76 e77 e78 e79 e80 e81 e82 e83 e84 e85 e86 e87 e88 e89 e90 e91 e92 e2
        subst hact
        replace B := B.trans (hC.mono B.size)
        clear hC
        go_wp2_with fail
        go_ret
        exact ⟨rfl, B⟩
    · have hfe : (f != (0 : Int)) = true := by rw [bne_iff_ne]; exact hf0
      have KQ := Lib.hid (show Blk w6 gq #[.int .i64 0, .int .i64 0, .int .i64 0, .int .u32 0] 24 by
        have h := HQ5.out
        simpa [okV, hf0] using h)
      clear HP5 HR5 HQ5 HT5 hf0
      obtain ⟨q0, q1, q2, q3⟩ := KS.out.four
      have ql := KS.out.lt
      have r0 := KS.out.free 0
      have r1 := KS.out.free 1
      have r2 := KS.out.free 2
      have r3 := KS.out.free 3
      go_upto_region 12 with fail
      clear q0 q1 q2 q3 ql r0 r1 r2 r3
      obtain ⟨hk7, hg7⟩ := set4 KS.out (.int .i64 0) (.int .i64 0) (.int .i64 0) (.int .u32 0)
      have hle1 : gp < gr := by have := HGR.out; have := HGP.out; omega
      have hle2 := HG4.out
      have hle3 := HGK.out
      have HB7 := Lib.hid (below_grown B hg7 B.size (by have := HGP.out; omega))
      have KP7 := Lib.hid (KP.out.grown hg7 (by simp; omega))
      have KR7 := Lib.hid (KR.out.grown hg7 (by simp; omega))
      have KQ7 := Lib.hid (KQ.out.grown hg7 (by simp; omega))
      have HT7 := Lib.hid (HT0.out.go HB7.out)
      have KK := Lib.hid hk7
      clear hk7 hg7 hle1 hle2 hle3 KS KP KR KQ HT B
      generalize (((w6.setCell ⟨gk, 0, none⟩ (.int .i64 0)).setCell ⟨gk, 1, none⟩ (.int .i64 0)).setCell ⟨gk, 2, none⟩ (.int .i64 0)).setCell ⟨gk, 3, none⟩ (.int .u32 0) = W7 at *
      have KP := KP7
      have KR := KR7
      have KQ := KQ7
      have HT := HT7
      have B := HB7.out
      clear KP7 KR7 KQ7 HT7 HB7
      obtain ⟨p0, p1, p2, p3⟩ := KR.out.four
      have pl := KR.out.lt
      have HCK := Lib.hid (fun w => check_any (l' : Int) (s' : Int) k (n : Int) w (by omega) (by omega) (by omega))
      have HRC := Lib.hid (fun w => refcheck_any (l' : Int) (s' : Int) k _ w (by omega) ⟨n, rfl⟩)
      have HTX := Lib.hid (fun w hT => text10_any (l' : Int) (s' : Int) k n w (by omega) (by omega) (by omega) hn hT)
      have HRT := Lib.hid (fun w hT => reftext10_any (l' : Int) (s' : Int) k n w (by omega) hn hT)
      have HRM := Lib.hid (fun w => room_any (l' : Int) (s' : Int) k (n : Int) w (by omega) (by omega) (by omega))
      have HPD := Lib.hid (fun w => pad_any (l' : Int) (s' : Int) k (n : Int) w (by omega) (by omega) (by omega))
      unfold roomI at HRM
      unfold padI at HPD
      unfold planV at HTX HRM HPD
      obtain ⟨TX, hTX⟩ : ∃ TX, TX = strOf (textL (l' : Int) (s' : Int) k (n : Int)) := ⟨_, rfl⟩
      rw [← hTX] at HTX HRT
      clear hTX
      by_cases hc0 : checkE (l' : Int) (s' : Int) k = 0
      · obtain ⟨c1, c2, c3, c4, c5, -, c6⟩ := check_ok10 hc0
        rw [hc0] at HCK HRC
        rw [if_pos hc0] at HRM HPD
        obtain ⟨c, hc⟩ : ∃ c : Int, c = 0 := ⟨_, rfl⟩
        have HZ := Lib.hid hc
        rw [← hc] at HCK HRC
        obtain ⟨ll, hll⟩ : ∃ ll : Nat, ll = ((l' : Int)).toNat := ⟨_, rfl⟩
        obtain ⟨ss, hss⟩ : ∃ ss : Nat, ss = ((s' : Int)).toNat := ⟨_, rfl⟩
        obtain ⟨kk, hkk⟩ : ∃ kk : Nat, kk = k.toNat := ⟨_, rfl⟩
        have e1 : (l' : Int) = (ll : Int) := by omega
        have e2 : (s' : Int) = (ss : Int) := by omega
        have e3 : k = (kk : Int) := by omega
        obtain ⟨r, hr⟩ : ∃ r, r = kk * ss := ⟨_, rfl⟩
        have hri : (ss : Int) * (kk : Int) = (r : Int) := by rw [hr, Int.mul_comm]; simp
        have hri2 : k * (s' : Int) = (r : Int) := by rw [e2, e3, Int.mul_comm]; exact hri
        have hr2 : r ≤ 4096 * 65535 := by rw [hr]; exact Nat.mul_le_mul (by omega) (by omega)
        rw [hri2] at HRM HPD c6
        have HRI := Lib.hid (show (s' : Int) * k = (r : Int) by rw [e2, e3]; exact hri)
        obtain ⟨pd, hpd⟩ : ∃ pd, pd = r - ll := ⟨_, rfl⟩
        have hpdi : (r : Int) - (l' : Int) = (pd : Int) := by omega
        rw [hpdi] at HPD
        have HPI := Lib.hid hpdi
        have hpd2 : pd ≤ r := by omega
        clear e1 e2 e3 hr hri hri2 hll hss hkk hpd hpdi hc0 c6
        go_wp2_with fail
        refine (HRC.out _).mono ?_
        rintro e w21 ⟨rfl, hb21⟩
        replace KP := Lib.hid (KP.out.go hb21)
        replace KR := Lib.hid (KR.out.go hb21)
        replace KQ := Lib.hid (KQ.out.go hb21)
        replace KK := Lib.hid (KK.out.go hb21)
        replace HT := Lib.hid (HT.out.go hb21)
        replace B := B.trans (hb21.mono B.size)
        have hce : (c == (0 : Int)) = true := by rw [hc]; rfl
        clear hb21 p0 p1 p2 p3 pl hc
        go_upto_region 13 with fail
        refine wp_region_mono (C := Cb w21) (R := Rb) (H := fun _ => Hb w21) [Ty.val 46 (.pointer (some ⟨gr, 1, none⟩)), Ty.val 47 (.int .i64 (s' : Int)), Ty.val 48 (.pointer (some ⟨gr, 2, none⟩)), Ty.val 49 (.int .i64 k), Ty.val 50 (.int .i64 (r : Int)), Ty.val 51 (.pointer (some ⟨gr, 1, none⟩)), Ty.val 52 (.int .i64 (s' : Int)), Ty.val 53 (.pointer (some ⟨gr, 2, none⟩)), Ty.val 54 (.int .i64 k), Ty.val 55 (.int .i64 (r : Int)), Ty.val 56 (.pointer (some ⟨gr, 0, none⟩)), Ty.val 57 (.int .i64 (l' : Int)), Ty.val 58 (.int .i64 (pd : Int)), Ty.val 8 (.int .i64 (r : Int)), Ty.val 9 (.int .i64 (pd : Int))] (by kernel_rfl) (hC_b w21) (hCH_b w21) (drew_b w21) ⟨trivial, trivial, trivial, trivial, trivial, trivial, trivial, trivial, trivial, trivial, trivial, trivial, trivial, trivial, trivial, trivial⟩ (by kernel_rfl) ?_ ?_
        · refine ⟨?_, ?_, ?_, ?_, ?_, ?_, ?_, ?_, ?_, ?_, ?_, ?_, ?_, ?_, ?_, trivial⟩
          · intro ac wc hC hsz hfr hd hpr
            have d3 : ac.eval (.tmp 3) = (.pointer (some ⟨gr, 0, none⟩)) := hfr 3 rfl
            rw [if_pos (wanted_none rfl)]
            exact ob_field _ rfl rfl rfl (Nat.lt_of_lt_of_eq (by decide : 46 < 93) hsz.symm) rfl d3 (fun w => by go_simp) (Below.refl _ _) rfl
          · intro ac wc hC hsz hfr hd hpr
            have d46 : ac.eval (.tmp 46) = (.pointer (some ⟨gr, 1, none⟩)) := hd 0 rfl
            rw [if_pos (wanted_none rfl)]
            exact ob_load _ rfl rfl rfl (Nat.lt_of_lt_of_eq (by decide : 47 < 93) hsz.symm) rfl d46 (load_int ((KR.out.go hC).cell 1)) (Below.refl _ _) rfl
          · intro ac wc hC hsz hfr hd hpr
            have d3 : ac.eval (.tmp 3) = (.pointer (some ⟨gr, 0, none⟩)) := hfr 3 rfl
            rw [if_pos (wanted_none rfl)]
            exact ob_field _ rfl rfl rfl (Nat.lt_of_lt_of_eq (by decide : 48 < 93) hsz.symm) rfl d3 (fun w => by go_simp) (Below.refl _ _) rfl
          · intro ac wc hC hsz hfr hd hpr
            have d48 : ac.eval (.tmp 48) = (.pointer (some ⟨gr, 2, none⟩)) := hd 2 rfl
            rw [if_pos (wanted_none rfl)]
            exact ob_load _ rfl rfl rfl (Nat.lt_of_lt_of_eq (by decide : 49 < 93) hsz.symm) rfl d48 (load_int ((KR.out.go hC).cell 2)) (Below.refl _ _) rfl
          · intro ac wc hC hsz hfr hd hpr
            have d47 : ac.eval (.tmp 47) = (.int .i64 (s' : Int)) := hd 1 rfl
            have d49 : ac.eval (.tmp 49) = (.int .i64 k) := hd 3 rfl
            rw [if_pos (wanted_none rfl)]
            exact ob_bin _ rfl rfl rfl (Nat.lt_of_lt_of_eq (by decide : 50 < 93) hsz.symm) rfl d47 d49 (mul_int10 HRI.out (by omega)) (Below.refl _ _) rfl
          · intro ac wc hC hsz hfr hd hpr
            have d3 : ac.eval (.tmp 3) = (.pointer (some ⟨gr, 0, none⟩)) := hfr 3 rfl
            rw [if_pos (wanted_none rfl)]
            exact ob_field _ rfl rfl rfl (Nat.lt_of_lt_of_eq (by decide : 51 < 93) hsz.symm) rfl d3 (fun w => by go_simp) (Below.refl _ _) rfl
          · intro ac wc hC hsz hfr hd hpr
            have d51 : ac.eval (.tmp 51) = (.pointer (some ⟨gr, 1, none⟩)) := hd 5 rfl
            rw [if_pos (wanted_none rfl)]
            exact ob_load _ rfl rfl rfl (Nat.lt_of_lt_of_eq (by decide : 52 < 93) hsz.symm) rfl d51 (load_int ((KR.out.go hC).cell 1)) (Below.refl _ _) rfl
          · intro ac wc hC hsz hfr hd hpr
            have d3 : ac.eval (.tmp 3) = (.pointer (some ⟨gr, 0, none⟩)) := hfr 3 rfl
            rw [if_pos (wanted_none rfl)]
            exact ob_field _ rfl rfl rfl (Nat.lt_of_lt_of_eq (by decide : 53 < 93) hsz.symm) rfl d3 (fun w => by go_simp) (Below.refl _ _) rfl
          · intro ac wc hC hsz hfr hd hpr
            have d53 : ac.eval (.tmp 53) = (.pointer (some ⟨gr, 2, none⟩)) := hd 7 rfl
            rw [if_pos (wanted_none rfl)]
            exact ob_load _ rfl rfl rfl (Nat.lt_of_lt_of_eq (by decide : 54 < 93) hsz.symm) rfl d53 (load_int ((KR.out.go hC).cell 2)) (Below.refl _ _) rfl
          · intro ac wc hC hsz hfr hd hpr
            have d52 : ac.eval (.tmp 52) = (.int .i64 (s' : Int)) := hd 6 rfl
            have d54 : ac.eval (.tmp 54) = (.int .i64 k) := hd 8 rfl
            rw [if_pos (wanted_none rfl)]
            exact ob_bin _ rfl rfl rfl (Nat.lt_of_lt_of_eq (by decide : 55 < 93) hsz.symm) rfl d52 d54 (mul_int10 HRI.out (by omega)) (Below.refl _ _) rfl
          · intro ac wc hC hsz hfr hd hpr
            have d3 : ac.eval (.tmp 3) = (.pointer (some ⟨gr, 0, none⟩)) := hfr 3 rfl
            rw [if_pos (wanted_none rfl)]
            exact ob_field _ rfl rfl rfl (Nat.lt_of_lt_of_eq (by decide : 56 < 93) hsz.symm) rfl d3 (fun w => by go_simp) (Below.refl _ _) rfl
          · intro ac wc hC hsz hfr hd hpr
            have d56 : ac.eval (.tmp 56) = (.pointer (some ⟨gr, 0, none⟩)) := hd 10 rfl
            rw [if_pos (wanted_none rfl)]
            exact ob_load _ rfl rfl rfl (Nat.lt_of_lt_of_eq (by decide : 57 < 93) hsz.symm) rfl d56 (load_int ((KR.out.go hC).cell 0)) (Below.refl _ _) rfl
          · intro ac wc hC hsz hfr hd hpr
            have d55 : ac.eval (.tmp 55) = (.int .i64 (r : Int)) := hd 9 rfl
            have d57 : ac.eval (.tmp 57) = (.int .i64 (l' : Int)) := hd 11 rfl
            rw [if_pos (wanted_none rfl)]
            exact ob_bin _ rfl rfl rfl (Nat.lt_of_lt_of_eq (by decide : 58 < 93) hsz.symm) rfl d55 d57 (sub_intZ HPI.out (by omega)) (Below.refl _ _) rfl
          · intro ac wc hC hsz hfr hd hpr
            have d50 : ac.eval (.tmp 50) = (.int .i64 (r : Int)) := hd 4 rfl
            rw [if_pos (wanted_none rfl)]
            exact ob_copy rfl rfl rfl (Nat.lt_of_lt_of_eq (by decide : 8 < 93) hsz.symm) (Or.inr rfl) (Below.refl _ _) d50
          · intro ac wc hC hsz hfr hd hpr
            have d58 : ac.eval (.tmp 58) = (.int .i64 (pd : Int)) := hd 12 rfl
            rw [if_pos (wanted_none rfl)]
            exact ob_copy rfl rfl rfl (Nat.lt_of_lt_of_eq (by decide : 9 < 93) hsz.symm) (Or.inr rfl) (Below.refl _ _) d58
        intro a' w22 hC hdef hsz hfr hd
        have e46 : a'.eval (.tmp 46) = (.pointer (some ⟨gr, 1, none⟩)) := hd 0 (by decide)
        have e47 : a'.eval (.tmp 47) = (.int .i64 (s' : Int)) := hd 1 (by decide)
        have e48 : a'.eval (.tmp 48) = (.pointer (some ⟨gr, 2, none⟩)) := hd 2 (by decide)
        have e49 : a'.eval (.tmp 49) = (.int .i64 k) := hd 3 (by decide)
        have e50 : a'.eval (.tmp 50) = (.int .i64 (r : Int)) := hd 4 (by decide)
        have e51 : a'.eval (.tmp 51) = (.pointer (some ⟨gr, 1, none⟩)) := hd 5 (by decide)
        have e52 : a'.eval (.tmp 52) = (.int .i64 (s' : Int)) := hd 6 (by decide)
        have e53 : a'.eval (.tmp 53) = (.pointer (some ⟨gr, 2, none⟩)) := hd 7 (by decide)
        have e54 : a'.eval (.tmp 54) = (.int .i64 k) := hd 8 (by decide)
        have e55 : a'.eval (.tmp 55) = (.int .i64 (r : Int)) := hd 9 (by decide)
        have e56 : a'.eval (.tmp 56) = (.pointer (some ⟨gr, 0, none⟩)) := hd 10 (by decide)
        have e57 : a'.eval (.tmp 57) = (.int .i64 (l' : Int)) := hd 11 (by decide)
        have e58 : a'.eval (.tmp 58) = (.int .i64 (pd : Int)) := hd 12 (by decide)
        have e8 : a'.eval (.tmp 8) = (.int .i64 (r : Int)) := hd 13 (by decide)
        have e9 : a'.eval (.tmp 9) = (.int .i64 (pd : Int)) := hd 14 (by decide)
        have hact := act_puts hdef hsz hfr
        simp only [dstsOf, List.filterMap, putAll, Act.put, List.setIfInBounds_toArray, List.set_cons_succ, List.set_cons_zero, e46, e47, e48, e49, e50, e51, e52, e53, e54, e55, e56, e57, e58, e8, e9] at hact
        clear hd hfr hsz hdef e46 e47 e48 e49 e50 e51 e52 e53 e54 e55 e56 e57 e58 e8 e9
        subst hact
        replace KP := Lib.hid (KP.out.go hC)
        replace KR := Lib.hid (KR.out.go hC)
        replace KQ := Lib.hid (KQ.out.go hC)
        replace KK := Lib.hid (KK.out.go hC)
        replace HT := Lib.hid (HT.out.go hC)
        replace B := B.trans (hC.mono B.size)
        clear hC
        go_upto_region 14 with fail
        refine wp_region_mono (C := Cb w22) (R := Rb) (H := fun _ => Hb w22) [Ty.val 59 (.agg #[.int .i64 (l' : Int), .int .i64 (s' : Int), .int .i64 k, .int .u32 (n : Int)]), Ty.val 60 (.int .i64 c), Ty.val 61 (.agg #[.int .i64 (l' : Int), .int .i64 (s' : Int), .int .i64 k, .int .u32 (n : Int)]), Ty.val 62 (.int .i64 c), Ty.val 63 (.bool true), Ty.val 64 (.bool true), Ty.val 65 (.agg #[.int .i64 (l' : Int), .int .i64 (s' : Int), .int .i64 k, .int .u32 (n : Int)]), Ty.val 66 (.string TX), Ty.val 67 (.agg #[.int .i64 (l' : Int), .int .i64 (s' : Int), .int .i64 k, .int .u32 (n : Int)]), Ty.val 68 (.string TX), Ty.val 69 (.bool true), Ty.val 70 (.bool true), Ty.val 71 (.bool true), Ty.val 72 (.agg #[.int .i64 (l' : Int), .int .i64 (s' : Int), .int .i64 k, .int .u32 (n : Int)]), Ty.val 73 (.int .i64 (r : Int)), Ty.val 74 (.int .i64 (r : Int)), Ty.val 75 (.bool true), Ty.val 76 (.bool true), Ty.val 77 (.bool true), Ty.val 78 (.agg #[.int .i64 (l' : Int), .int .i64 (s' : Int), .int .i64 k, .int .u32 (n : Int)]), Ty.val 79 (.int .i64 (pd : Int)), Ty.val 80 (.int .i64 (pd : Int)), Ty.val 81 (.bool true), Ty.val 82 (.bool true), Ty.val 83 (.bool true), Ty.val 84 (.agg #[.int .i64 0, .int .i64 0, .int .i64 0, .int .u32 0]), Ty.val 85 (.agg #[.int .i64 0, .int .i64 0, .int .i64 0, .int .u32 0]), Ty.val 86 (.bool true), Ty.val 87 (.bool true), Ty.val 88 (.bool true), Ty.val 89 (.int .i64 f), Ty.val 90 (.int .i64 f), Ty.val 91 (.bool true), Ty.val 92 (.bool true), Ty.val 2 (.bool true)] (by kernel_rfl) (hC_b w22) (hCH_b w22) (drew_b w22) ⟨trivial, trivial, trivial, trivial, trivial, trivial, trivial, trivial, trivial, trivial, trivial, trivial, trivial, trivial, trivial, trivial, trivial, trivial, trivial, trivial, trivial, trivial, trivial, trivial, trivial, trivial, trivial, trivial, trivial, trivial, trivial, trivial, trivial, trivial, trivial, trivial⟩ (by kernel_rfl) ?_ ?_
        · refine ⟨?_, ?_, ?_, ?_, ?_, ?_, ?_, ?_, ?_, ?_, ?_, ?_, ?_, ?_, ?_, ?_, ?_, ?_, ?_, ?_, ?_, ?_, ?_, ?_, ?_, ?_, ?_, ?_, ?_, ?_, ?_, ?_, ?_, ?_, ?_, trivial⟩
          · intro ac wc hC hsz hfr hd hpr
            have d1 : ac.eval (.tmp 1) = (.pointer (some ⟨gp, 0, none⟩)) := hfr 1 rfl
            rw [if_pos (wanted_none rfl)]
            exact ob_load _ rfl rfl rfl (Nat.lt_of_lt_of_eq (by decide : 59 < 93) hsz.symm) rfl d1 (load_plan10 (KP.out.go hC)) (Below.refl _ _) rfl
          · intro ac wc hC hsz hfr hd hpr
            have d59 : ac.eval (.tmp 59) = (.agg #[.int .i64 (l' : Int), .int .i64 (s' : Int), .int .i64 k, .int .u32 (n : Int)]) := hd 0 rfl
            rw [if_pos (wanted_none rfl)]
            refine ob_call rfl rfl rfl (Nat.lt_of_lt_of_eq (by decide : 60 < 93) hsz.symm) rfl (enter_of Tryd.func10 (by kernel_rfl) rfl) ?_
            show Calls Tryd.prog 10 #[ac.eval (.tmp 59)] wc _
            rw [d59]
            exact (HCK.out wc).mono fun _ _ ⟨he, hb⟩ => ⟨_, he, rfl, hb⟩
          · intro ac wc hC hsz hfr hd hpr
            have d3 : ac.eval (.tmp 3) = (.pointer (some ⟨gr, 0, none⟩)) := hfr 3 rfl
            rw [if_pos (wanted_none rfl)]
            exact ob_load _ rfl rfl rfl (Nat.lt_of_lt_of_eq (by decide : 61 < 93) hsz.symm) rfl d3 (load_ref10 (KR.out.go hC)) (Below.refl _ _) rfl
          · intro ac wc hC hsz hfr hd hpr
            have d61 : ac.eval (.tmp 61) = (.agg #[.int .i64 (l' : Int), .int .i64 (s' : Int), .int .i64 k, .int .u32 (n : Int)]) := hd 2 rfl
            rw [if_pos (wanted_none rfl)]
            refine ob_call rfl rfl rfl (Nat.lt_of_lt_of_eq (by decide : 62 < 93) hsz.symm) rfl (enter_of Tryd.func9 (by kernel_rfl) rfl) ?_
            show Calls Tryd.prog 9 #[ac.eval (.tmp 61)] wc _
            rw [d61]
            exact (HRC.out wc).mono fun _ _ ⟨he, hb⟩ => ⟨_, he, rfl, hb⟩
          · intro ac wc hC hsz hfr hd hpr
            have d60 : ac.eval (.tmp 60) = (.int .i64 c) := hd 1 rfl
            have d62 : ac.eval (.tmp 62) = (.int .i64 c) := hd 3 rfl
            rw [if_pos (wanted_none rfl)]
            exact ob_bin _ rfl rfl rfl (Nat.lt_of_lt_of_eq (by decide : 63 < 93) hsz.symm) rfl d60 d62 (eql_int (by simp)) (Below.refl _ _) rfl
          · intro ac wc hC hsz hfr hd hpr
            have d63 : ac.eval (.tmp 63) = (.bool true) := hd 4 rfl
            rw [if_pos (wanted_none rfl)]
            exact ob_copy rfl rfl rfl (Nat.lt_of_lt_of_eq (by decide : 64 < 93) hsz.symm) (Or.inl rfl) (Below.refl _ _) d63
          · intro ac wc hC hsz hfr hd hpr
            have d64 : ac.eval (.tmp 64) = (.bool true) := hd 5 rfl
            have d1 : ac.eval (.tmp 1) = (.pointer (some ⟨gp, 0, none⟩)) := hfr 1 rfl
            rw [if_pos (wanted_some rfl (yielded_of rfl d64))]
            exact ob_load _ rfl rfl rfl (Nat.lt_of_lt_of_eq (by decide : 65 < 93) hsz.symm) rfl d1 (load_plan10 (KP.out.go hC)) (Below.refl _ _) rfl
          · intro ac wc hC hsz hfr hd hpr
            have d64 : ac.eval (.tmp 64) = (.bool true) := hd 5 rfl
            have d65 : ac.eval (.tmp 65) = (.agg #[.int .i64 (l' : Int), .int .i64 (s' : Int), .int .i64 k, .int .u32 (n : Int)]) := hd 6 rfl
            rw [if_pos (wanted_some rfl (yielded_of rfl d64))]
            refine ob_call rfl rfl rfl (Nat.lt_of_lt_of_eq (by decide : 66 < 93) hsz.symm) rfl (enter_of Tryd.func11 (by kernel_rfl) rfl) ?_
            show Calls Tryd.prog 11 #[ac.eval (.tmp 65)] wc _
            rw [d65]
            exact (HTX.out wc (HT.out.go hC)).mono fun _ _ ⟨he, hb⟩ => ⟨_, he, rfl, hb⟩
          · intro ac wc hC hsz hfr hd hpr
            have d64 : ac.eval (.tmp 64) = (.bool true) := hd 5 rfl
            have d3 : ac.eval (.tmp 3) = (.pointer (some ⟨gr, 0, none⟩)) := hfr 3 rfl
            rw [if_pos (wanted_some rfl (yielded_of rfl d64))]
            exact ob_load _ rfl rfl rfl (Nat.lt_of_lt_of_eq (by decide : 67 < 93) hsz.symm) rfl d3 (load_ref10 (KR.out.go hC)) (Below.refl _ _) rfl
          · intro ac wc hC hsz hfr hd hpr
            have d64 : ac.eval (.tmp 64) = (.bool true) := hd 5 rfl
            have d67 : ac.eval (.tmp 67) = (.agg #[.int .i64 (l' : Int), .int .i64 (s' : Int), .int .i64 k, .int .u32 (n : Int)]) := hd 8 rfl
            rw [if_pos (wanted_some rfl (yielded_of rfl d64))]
            refine ob_call rfl rfl rfl (Nat.lt_of_lt_of_eq (by decide : 68 < 93) hsz.symm) rfl (enter_of Tryd.func12 (by kernel_rfl) rfl) ?_
            show Calls Tryd.prog 12 #[ac.eval (.tmp 67)] wc _
            rw [d67]
            exact (HRT.out wc (HT.out.go hC)).mono fun _ _ ⟨he, hb⟩ => ⟨_, he, rfl, hb⟩
          · intro ac wc hC hsz hfr hd hpr
            have d64 : ac.eval (.tmp 64) = (.bool true) := hd 5 rfl
            have d66 : ac.eval (.tmp 66) = (.string TX) := hd 7 rfl
            have d68 : ac.eval (.tmp 68) = (.string TX) := hd 9 rfl
            rw [if_pos (wanted_some rfl (yielded_of rfl d64))]
            exact ob_bin _ rfl rfl rfl (Nat.lt_of_lt_of_eq (by decide : 69 < 93) hsz.symm) rfl d66 d68 (eql_str10 TX) (Below.refl _ _) rfl
          · intro ac wc hC hsz hfr hd hpr
            have d64 : ac.eval (.tmp 64) = (.bool true) := hd 5 rfl
            have d69 : ac.eval (.tmp 69) = (.bool true) := hd 10 rfl
            rw [if_pos (wanted_none rfl)]
            exact ob_pick rfl rfl rfl (Nat.lt_of_lt_of_eq (by decide : 70 < 93) hsz.symm) rfl d64 (Below.refl _ _) d69
          · intro ac wc hC hsz hfr hd hpr
            have d70 : ac.eval (.tmp 70) = (.bool true) := hd 11 rfl
            rw [if_pos (wanted_none rfl)]
            exact ob_copy rfl rfl rfl (Nat.lt_of_lt_of_eq (by decide : 71 < 93) hsz.symm) (Or.inl rfl) (Below.refl _ _) d70
          · intro ac wc hC hsz hfr hd hpr
            have d71 : ac.eval (.tmp 71) = (.bool true) := hd 12 rfl
            have d1 : ac.eval (.tmp 1) = (.pointer (some ⟨gp, 0, none⟩)) := hfr 1 rfl
            rw [if_pos (wanted_some rfl (yielded_of rfl d71))]
            exact ob_load _ rfl rfl rfl (Nat.lt_of_lt_of_eq (by decide : 72 < 93) hsz.symm) rfl d1 (load_plan10 (KP.out.go hC)) (Below.refl _ _) rfl
          · intro ac wc hC hsz hfr hd hpr
            have d71 : ac.eval (.tmp 71) = (.bool true) := hd 12 rfl
            have d72 : ac.eval (.tmp 72) = (.agg #[.int .i64 (l' : Int), .int .i64 (s' : Int), .int .i64 k, .int .u32 (n : Int)]) := hd 13 rfl
            rw [if_pos (wanted_some rfl (yielded_of rfl d71))]
            refine ob_call rfl rfl rfl (Nat.lt_of_lt_of_eq (by decide : 73 < 93) hsz.symm) rfl (enter_of Tryd.func13 (by kernel_rfl) rfl) ?_
            show Calls Tryd.prog 13 #[ac.eval (.tmp 72)] wc _
            rw [d72]
            exact (HRM.out wc).mono fun _ _ ⟨he, hb⟩ => ⟨_, he, rfl, hb⟩
          · intro ac wc hC hsz hfr hd hpr
            have d71 : ac.eval (.tmp 71) = (.bool true) := hd 12 rfl
            have d8 : ac.eval (.tmp 8) = (.int .i64 (r : Int)) := hfr 8 rfl
            rw [if_pos (wanted_some rfl (yielded_of rfl d71))]
            exact ob_copy rfl rfl rfl (Nat.lt_of_lt_of_eq (by decide : 74 < 93) hsz.symm) (Or.inl rfl) (Below.refl _ _) d8
          · intro ac wc hC hsz hfr hd hpr
            have d71 : ac.eval (.tmp 71) = (.bool true) := hd 12 rfl
            have d73 : ac.eval (.tmp 73) = (.int .i64 (r : Int)) := hd 14 rfl
            have d74 : ac.eval (.tmp 74) = (.int .i64 (r : Int)) := hd 15 rfl
            rw [if_pos (wanted_some rfl (yielded_of rfl d71))]
            exact ob_bin _ rfl rfl rfl (Nat.lt_of_lt_of_eq (by decide : 75 < 93) hsz.symm) rfl d73 d74 (eql_int (by simp)) (Below.refl _ _) rfl
          · intro ac wc hC hsz hfr hd hpr
            have d71 : ac.eval (.tmp 71) = (.bool true) := hd 12 rfl
            have d75 : ac.eval (.tmp 75) = (.bool true) := hd 16 rfl
            rw [if_pos (wanted_none rfl)]
            exact ob_pick rfl rfl rfl (Nat.lt_of_lt_of_eq (by decide : 76 < 93) hsz.symm) rfl d71 (Below.refl _ _) d75
          · intro ac wc hC hsz hfr hd hpr
            have d76 : ac.eval (.tmp 76) = (.bool true) := hd 17 rfl
            rw [if_pos (wanted_none rfl)]
            exact ob_copy rfl rfl rfl (Nat.lt_of_lt_of_eq (by decide : 77 < 93) hsz.symm) (Or.inl rfl) (Below.refl _ _) d76
          · intro ac wc hC hsz hfr hd hpr
            have d77 : ac.eval (.tmp 77) = (.bool true) := hd 18 rfl
            have d1 : ac.eval (.tmp 1) = (.pointer (some ⟨gp, 0, none⟩)) := hfr 1 rfl
            rw [if_pos (wanted_some rfl (yielded_of rfl d77))]
            exact ob_load _ rfl rfl rfl (Nat.lt_of_lt_of_eq (by decide : 78 < 93) hsz.symm) rfl d1 (load_plan10 (KP.out.go hC)) (Below.refl _ _) rfl
          · intro ac wc hC hsz hfr hd hpr
            have d77 : ac.eval (.tmp 77) = (.bool true) := hd 18 rfl
            have d78 : ac.eval (.tmp 78) = (.agg #[.int .i64 (l' : Int), .int .i64 (s' : Int), .int .i64 k, .int .u32 (n : Int)]) := hd 19 rfl
            rw [if_pos (wanted_some rfl (yielded_of rfl d77))]
            refine ob_call rfl rfl rfl (Nat.lt_of_lt_of_eq (by decide : 79 < 93) hsz.symm) rfl (enter_of Tryd.func14 (by kernel_rfl) rfl) ?_
            show Calls Tryd.prog 14 #[ac.eval (.tmp 78)] wc _
            rw [d78]
            exact (HPD.out wc).mono fun _ _ ⟨he, hb⟩ => ⟨_, he, rfl, hb⟩
          · intro ac wc hC hsz hfr hd hpr
            have d77 : ac.eval (.tmp 77) = (.bool true) := hd 18 rfl
            have d9 : ac.eval (.tmp 9) = (.int .i64 (pd : Int)) := hfr 9 rfl
            rw [if_pos (wanted_some rfl (yielded_of rfl d77))]
            exact ob_copy rfl rfl rfl (Nat.lt_of_lt_of_eq (by decide : 80 < 93) hsz.symm) (Or.inl rfl) (Below.refl _ _) d9
          · intro ac wc hC hsz hfr hd hpr
            have d77 : ac.eval (.tmp 77) = (.bool true) := hd 18 rfl
            have d79 : ac.eval (.tmp 79) = (.int .i64 (pd : Int)) := hd 20 rfl
            have d80 : ac.eval (.tmp 80) = (.int .i64 (pd : Int)) := hd 21 rfl
            rw [if_pos (wanted_some rfl (yielded_of rfl d77))]
            exact ob_bin _ rfl rfl rfl (Nat.lt_of_lt_of_eq (by decide : 81 < 93) hsz.symm) rfl d79 d80 (eql_int (by simp)) (Below.refl _ _) rfl
          · intro ac wc hC hsz hfr hd hpr
            have d77 : ac.eval (.tmp 77) = (.bool true) := hd 18 rfl
            have d81 : ac.eval (.tmp 81) = (.bool true) := hd 22 rfl
            rw [if_pos (wanted_none rfl)]
            exact ob_pick rfl rfl rfl (Nat.lt_of_lt_of_eq (by decide : 82 < 93) hsz.symm) rfl d77 (Below.refl _ _) d81
          · intro ac wc hC hsz hfr hd hpr
            have d82 : ac.eval (.tmp 82) = (.bool true) := hd 23 rfl
            rw [if_pos (wanted_none rfl)]
            exact ob_copy rfl rfl rfl (Nat.lt_of_lt_of_eq (by decide : 83 < 93) hsz.symm) (Or.inl rfl) (Below.refl _ _) d82
          · intro ac wc hC hsz hfr hd hpr
            have d83 : ac.eval (.tmp 83) = (.bool true) := hd 24 rfl
            have d4 : ac.eval (.tmp 4) = (.pointer (some ⟨gq, 0, none⟩)) := hfr 4 rfl
            rw [if_pos (wanted_some rfl (yielded_of rfl d83))]
            exact ob_load _ rfl rfl rfl (Nat.lt_of_lt_of_eq (by decide : 84 < 93) hsz.symm) rfl d4 (load_plan10 (KQ.out.go hC)) (Below.refl _ _) rfl
          · intro ac wc hC hsz hfr hd hpr
            have d83 : ac.eval (.tmp 83) = (.bool true) := hd 24 rfl
            have d6 : ac.eval (.tmp 6) = (.pointer (some ⟨gk, 0, none⟩)) := hfr 6 rfl
            rw [if_pos (wanted_some rfl (yielded_of rfl d83))]
            exact ob_load _ rfl rfl rfl (Nat.lt_of_lt_of_eq (by decide : 85 < 93) hsz.symm) rfl d6 (load_ref10 (KK.out.go hC)) (Below.refl _ _) rfl
          · intro ac wc hC hsz hfr hd hpr
            have d83 : ac.eval (.tmp 83) = (.bool true) := hd 24 rfl
            have d84 : ac.eval (.tmp 84) = (.agg #[.int .i64 0, .int .i64 0, .int .i64 0, .int .u32 0]) := hd 25 rfl
            have d85 : ac.eval (.tmp 85) = (.agg #[.int .i64 0, .int .i64 0, .int .i64 0, .int .u32 0]) := hd 26 rfl
            rw [if_pos (wanted_some rfl (yielded_of rfl d83))]
            exact ob_bin _ rfl rfl rfl (Nat.lt_of_lt_of_eq (by decide : 86 < 93) hsz.symm) rfl d84 d85 (eql_plan10 _ _ _ _) (Below.refl _ _) rfl
          · intro ac wc hC hsz hfr hd hpr
            have d83 : ac.eval (.tmp 83) = (.bool true) := hd 24 rfl
            have d86 : ac.eval (.tmp 86) = (.bool true) := hd 27 rfl
            rw [if_pos (wanted_none rfl)]
            exact ob_pick rfl rfl rfl (Nat.lt_of_lt_of_eq (by decide : 87 < 93) hsz.symm) rfl d83 (Below.refl _ _) d86
          · intro ac wc hC hsz hfr hd hpr
            have d87 : ac.eval (.tmp 87) = (.bool true) := hd 28 rfl
            rw [if_pos (wanted_none rfl)]
            exact ob_copy rfl rfl rfl (Nat.lt_of_lt_of_eq (by decide : 88 < 93) hsz.symm) (Or.inl rfl) (Below.refl _ _) d87
          · intro ac wc hC hsz hfr hd hpr
            have d88 : ac.eval (.tmp 88) = (.bool true) := hd 29 rfl
            have d5 : ac.eval (.tmp 5) = (.int .i64 f) := hfr 5 rfl
            rw [if_pos (wanted_some rfl (yielded_of rfl d88))]
            exact ob_copy rfl rfl rfl (Nat.lt_of_lt_of_eq (by decide : 89 < 93) hsz.symm) (Or.inl rfl) (Below.refl _ _) d5
          · intro ac wc hC hsz hfr hd hpr
            have d88 : ac.eval (.tmp 88) = (.bool true) := hd 29 rfl
            have d7 : ac.eval (.tmp 7) = (.int .i64 f) := hfr 7 rfl
            rw [if_pos (wanted_some rfl (yielded_of rfl d88))]
            exact ob_copy rfl rfl rfl (Nat.lt_of_lt_of_eq (by decide : 90 < 93) hsz.symm) (Or.inl rfl) (Below.refl _ _) d7
          · intro ac wc hC hsz hfr hd hpr
            have d88 : ac.eval (.tmp 88) = (.bool true) := hd 29 rfl
            have d89 : ac.eval (.tmp 89) = (.int .i64 f) := hd 30 rfl
            have d90 : ac.eval (.tmp 90) = (.int .i64 f) := hd 31 rfl
            rw [if_pos (wanted_some rfl (yielded_of rfl d88))]
            exact ob_bin _ rfl rfl rfl (Nat.lt_of_lt_of_eq (by decide : 91 < 93) hsz.symm) rfl d89 d90 (eql_int (by simp)) (Below.refl _ _) rfl
          · intro ac wc hC hsz hfr hd hpr
            have d88 : ac.eval (.tmp 88) = (.bool true) := hd 29 rfl
            have d91 : ac.eval (.tmp 91) = (.bool true) := hd 32 rfl
            rw [if_pos (wanted_none rfl)]
            exact ob_pick rfl rfl rfl (Nat.lt_of_lt_of_eq (by decide : 92 < 93) hsz.symm) rfl d88 (Below.refl _ _) d91
          · intro ac wc hC hsz hfr hd hpr
            have d92 : ac.eval (.tmp 92) = (.bool true) := hd 33 rfl
            rw [if_pos (wanted_none rfl)]
            exact ob_copy rfl rfl rfl (Nat.lt_of_lt_of_eq (by decide : 2 < 93) hsz.symm) (Or.inr rfl) (Below.refl _ _) d92
        intro a' W20 hC hdef hsz hfr hd
        have e59 : a'.eval (.tmp 59) = (.agg #[.int .i64 (l' : Int), .int .i64 (s' : Int), .int .i64 k, .int .u32 (n : Int)]) := hd 0 (by decide)
        have e60 : a'.eval (.tmp 60) = (.int .i64 c) := hd 1 (by decide)
        have e61 : a'.eval (.tmp 61) = (.agg #[.int .i64 (l' : Int), .int .i64 (s' : Int), .int .i64 k, .int .u32 (n : Int)]) := hd 2 (by decide)
        have e62 : a'.eval (.tmp 62) = (.int .i64 c) := hd 3 (by decide)
        have e63 : a'.eval (.tmp 63) = (.bool true) := hd 4 (by decide)
        have e64 : a'.eval (.tmp 64) = (.bool true) := hd 5 (by decide)
        have e65 : a'.eval (.tmp 65) = (.agg #[.int .i64 (l' : Int), .int .i64 (s' : Int), .int .i64 k, .int .u32 (n : Int)]) := hd 6 (by decide)
        have e66 : a'.eval (.tmp 66) = (.string TX) := hd 7 (by decide)
        have e67 : a'.eval (.tmp 67) = (.agg #[.int .i64 (l' : Int), .int .i64 (s' : Int), .int .i64 k, .int .u32 (n : Int)]) := hd 8 (by decide)
        have e68 : a'.eval (.tmp 68) = (.string TX) := hd 9 (by decide)
        have e69 : a'.eval (.tmp 69) = (.bool true) := hd 10 (by decide)
        have e70 : a'.eval (.tmp 70) = (.bool true) := hd 11 (by decide)
        have e71 : a'.eval (.tmp 71) = (.bool true) := hd 12 (by decide)
        have e72 : a'.eval (.tmp 72) = (.agg #[.int .i64 (l' : Int), .int .i64 (s' : Int), .int .i64 k, .int .u32 (n : Int)]) := hd 13 (by decide)
        have e73 : a'.eval (.tmp 73) = (.int .i64 (r : Int)) := hd 14 (by decide)
        have e74 : a'.eval (.tmp 74) = (.int .i64 (r : Int)) := hd 15 (by decide)
        have e75 : a'.eval (.tmp 75) = (.bool true) := hd 16 (by decide)
        have e76 : a'.eval (.tmp 76) = (.bool true) := hd 17 (by decide)
        have e77 : a'.eval (.tmp 77) = (.bool true) := hd 18 (by decide)
        have e78 : a'.eval (.tmp 78) = (.agg #[.int .i64 (l' : Int), .int .i64 (s' : Int), .int .i64 k, .int .u32 (n : Int)]) := hd 19 (by decide)
        have e79 : a'.eval (.tmp 79) = (.int .i64 (pd : Int)) := hd 20 (by decide)
        have e80 : a'.eval (.tmp 80) = (.int .i64 (pd : Int)) := hd 21 (by decide)
        have e81 : a'.eval (.tmp 81) = (.bool true) := hd 22 (by decide)
        have e82 : a'.eval (.tmp 82) = (.bool true) := hd 23 (by decide)
        have e83 : a'.eval (.tmp 83) = (.bool true) := hd 24 (by decide)
        have e84 : a'.eval (.tmp 84) = (.agg #[.int .i64 0, .int .i64 0, .int .i64 0, .int .u32 0]) := hd 25 (by decide)
        have e85 : a'.eval (.tmp 85) = (.agg #[.int .i64 0, .int .i64 0, .int .i64 0, .int .u32 0]) := hd 26 (by decide)
        have e86 : a'.eval (.tmp 86) = (.bool true) := hd 27 (by decide)
        have e87 : a'.eval (.tmp 87) = (.bool true) := hd 28 (by decide)
        have e88 : a'.eval (.tmp 88) = (.bool true) := hd 29 (by decide)
        have e89 : a'.eval (.tmp 89) = (.int .i64 f) := hd 30 (by decide)
        have e90 : a'.eval (.tmp 90) = (.int .i64 f) := hd 31 (by decide)
        have e91 : a'.eval (.tmp 91) = (.bool true) := hd 32 (by decide)
        have e92 : a'.eval (.tmp 92) = (.bool true) := hd 33 (by decide)
        have e2 : a'.eval (.tmp 2) = (.bool true) := hd 34 (by decide)
        have hact := act_puts hdef hsz hfr
        simp only [dstsOf, List.filterMap, putAll, Act.put, List.setIfInBounds_toArray, List.set_cons_succ, List.set_cons_zero, e59, e60, e61, e62, e63, e64, e65, e66, e67, e68, e69, e70, e71, e72, e73, e74, e75, e76, e77, e78, e79, e80, e81, e82, e83, e84, e85, e86, e87, e88, e89, e90, e91, e92, e2] at hact
        clear hd hfr hsz hdef e59 e60 e61 e62 e63 e64 e65 e66 e67 e68 e69 e70 e71 e72 e73 e74 e75 e76 e77 e78 e79 e80 e81 e82 e83 e84 e85 e86 e87 e88 e89 e90 e91 e92 e2
        subst hact
        replace B := B.trans (hC.mono B.size)
        clear hC
        go_wp2_with fail
        go_ret
        exact ⟨rfl, B⟩
      · rw [if_neg hc0] at HRM HPD
        obtain ⟨c, hc⟩ : ∃ c : Int, c = checkE (l' : Int) (s' : Int) k := ⟨_, rfl⟩
        rw [← hc] at HCK HRC hc0
        clear hc
        go_wp2_with fail
        refine (HRC.out _).mono ?_
        rintro e w21 ⟨rfl, hb21⟩
        replace KP := Lib.hid (KP.out.go hb21)
        replace KR := Lib.hid (KR.out.go hb21)
        replace KQ := Lib.hid (KQ.out.go hb21)
        replace KK := Lib.hid (KK.out.go hb21)
        replace HT := Lib.hid (HT.out.go hb21)
        replace B := B.trans (hb21.mono B.size)
        have hce : (c == (0 : Int)) = false := by rw [beq_eq_false_iff_ne]; exact hc0
        clear hb21 p0 p1 p2 p3 pl
        go_upto_region 14 with fail
        refine wp_region_mono (C := Cb w21) (R := Rb) (H := fun _ => Hb w21) [Ty.val 59 (.agg #[.int .i64 (l' : Int), .int .i64 (s' : Int), .int .i64 k, .int .u32 (n : Int)]), Ty.val 60 (.int .i64 c), Ty.val 61 (.agg #[.int .i64 (l' : Int), .int .i64 (s' : Int), .int .i64 k, .int .u32 (n : Int)]), Ty.val 62 (.int .i64 c), Ty.val 63 (.bool true), Ty.val 64 (.bool true), Ty.val 65 (.agg #[.int .i64 (l' : Int), .int .i64 (s' : Int), .int .i64 k, .int .u32 (n : Int)]), Ty.val 66 (.string TX), Ty.val 67 (.agg #[.int .i64 (l' : Int), .int .i64 (s' : Int), .int .i64 k, .int .u32 (n : Int)]), Ty.val 68 (.string TX), Ty.val 69 (.bool true), Ty.val 70 (.bool true), Ty.val 71 (.bool true), Ty.val 72 (.agg #[.int .i64 (l' : Int), .int .i64 (s' : Int), .int .i64 k, .int .u32 (n : Int)]), Ty.val 73 (.int .i64 0), Ty.val 74 (.int .i64 0), Ty.val 75 (.bool true), Ty.val 76 (.bool true), Ty.val 77 (.bool true), Ty.val 78 (.agg #[.int .i64 (l' : Int), .int .i64 (s' : Int), .int .i64 k, .int .u32 (n : Int)]), Ty.val 79 (.int .i64 0), Ty.val 80 (.int .i64 0), Ty.val 81 (.bool true), Ty.val 82 (.bool true), Ty.val 83 (.bool true), Ty.val 84 (.agg #[.int .i64 0, .int .i64 0, .int .i64 0, .int .u32 0]), Ty.val 85 (.agg #[.int .i64 0, .int .i64 0, .int .i64 0, .int .u32 0]), Ty.val 86 (.bool true), Ty.val 87 (.bool true), Ty.val 88 (.bool true), Ty.val 89 (.int .i64 f), Ty.val 90 (.int .i64 f), Ty.val 91 (.bool true), Ty.val 92 (.bool true), Ty.val 2 (.bool true)] (by kernel_rfl) (hC_b w21) (hCH_b w21) (drew_b w21) ⟨trivial, trivial, trivial, trivial, trivial, trivial, trivial, trivial, trivial, trivial, trivial, trivial, trivial, trivial, trivial, trivial, trivial, trivial, trivial, trivial, trivial, trivial, trivial, trivial, trivial, trivial, trivial, trivial, trivial, trivial, trivial, trivial, trivial, trivial, trivial, trivial⟩ (by kernel_rfl) ?_ ?_
        · refine ⟨?_, ?_, ?_, ?_, ?_, ?_, ?_, ?_, ?_, ?_, ?_, ?_, ?_, ?_, ?_, ?_, ?_, ?_, ?_, ?_, ?_, ?_, ?_, ?_, ?_, ?_, ?_, ?_, ?_, ?_, ?_, ?_, ?_, ?_, ?_, trivial⟩
          · intro ac wc hC hsz hfr hd hpr
            have d1 : ac.eval (.tmp 1) = (.pointer (some ⟨gp, 0, none⟩)) := hfr 1 rfl
            rw [if_pos (wanted_none rfl)]
            exact ob_load _ rfl rfl rfl (Nat.lt_of_lt_of_eq (by decide : 59 < 93) hsz.symm) rfl d1 (load_plan10 (KP.out.go hC)) (Below.refl _ _) rfl
          · intro ac wc hC hsz hfr hd hpr
            have d59 : ac.eval (.tmp 59) = (.agg #[.int .i64 (l' : Int), .int .i64 (s' : Int), .int .i64 k, .int .u32 (n : Int)]) := hd 0 rfl
            rw [if_pos (wanted_none rfl)]
            refine ob_call rfl rfl rfl (Nat.lt_of_lt_of_eq (by decide : 60 < 93) hsz.symm) rfl (enter_of Tryd.func10 (by kernel_rfl) rfl) ?_
            show Calls Tryd.prog 10 #[ac.eval (.tmp 59)] wc _
            rw [d59]
            exact (HCK.out wc).mono fun _ _ ⟨he, hb⟩ => ⟨_, he, rfl, hb⟩
          · intro ac wc hC hsz hfr hd hpr
            have d3 : ac.eval (.tmp 3) = (.pointer (some ⟨gr, 0, none⟩)) := hfr 3 rfl
            rw [if_pos (wanted_none rfl)]
            exact ob_load _ rfl rfl rfl (Nat.lt_of_lt_of_eq (by decide : 61 < 93) hsz.symm) rfl d3 (load_ref10 (KR.out.go hC)) (Below.refl _ _) rfl
          · intro ac wc hC hsz hfr hd hpr
            have d61 : ac.eval (.tmp 61) = (.agg #[.int .i64 (l' : Int), .int .i64 (s' : Int), .int .i64 k, .int .u32 (n : Int)]) := hd 2 rfl
            rw [if_pos (wanted_none rfl)]
            refine ob_call rfl rfl rfl (Nat.lt_of_lt_of_eq (by decide : 62 < 93) hsz.symm) rfl (enter_of Tryd.func9 (by kernel_rfl) rfl) ?_
            show Calls Tryd.prog 9 #[ac.eval (.tmp 61)] wc _
            rw [d61]
            exact (HRC.out wc).mono fun _ _ ⟨he, hb⟩ => ⟨_, he, rfl, hb⟩
          · intro ac wc hC hsz hfr hd hpr
            have d60 : ac.eval (.tmp 60) = (.int .i64 c) := hd 1 rfl
            have d62 : ac.eval (.tmp 62) = (.int .i64 c) := hd 3 rfl
            rw [if_pos (wanted_none rfl)]
            exact ob_bin _ rfl rfl rfl (Nat.lt_of_lt_of_eq (by decide : 63 < 93) hsz.symm) rfl d60 d62 (eql_int (by simp)) (Below.refl _ _) rfl
          · intro ac wc hC hsz hfr hd hpr
            have d63 : ac.eval (.tmp 63) = (.bool true) := hd 4 rfl
            rw [if_pos (wanted_none rfl)]
            exact ob_copy rfl rfl rfl (Nat.lt_of_lt_of_eq (by decide : 64 < 93) hsz.symm) (Or.inl rfl) (Below.refl _ _) d63
          · intro ac wc hC hsz hfr hd hpr
            have d64 : ac.eval (.tmp 64) = (.bool true) := hd 5 rfl
            have d1 : ac.eval (.tmp 1) = (.pointer (some ⟨gp, 0, none⟩)) := hfr 1 rfl
            rw [if_pos (wanted_some rfl (yielded_of rfl d64))]
            exact ob_load _ rfl rfl rfl (Nat.lt_of_lt_of_eq (by decide : 65 < 93) hsz.symm) rfl d1 (load_plan10 (KP.out.go hC)) (Below.refl _ _) rfl
          · intro ac wc hC hsz hfr hd hpr
            have d64 : ac.eval (.tmp 64) = (.bool true) := hd 5 rfl
            have d65 : ac.eval (.tmp 65) = (.agg #[.int .i64 (l' : Int), .int .i64 (s' : Int), .int .i64 k, .int .u32 (n : Int)]) := hd 6 rfl
            rw [if_pos (wanted_some rfl (yielded_of rfl d64))]
            refine ob_call rfl rfl rfl (Nat.lt_of_lt_of_eq (by decide : 66 < 93) hsz.symm) rfl (enter_of Tryd.func11 (by kernel_rfl) rfl) ?_
            show Calls Tryd.prog 11 #[ac.eval (.tmp 65)] wc _
            rw [d65]
            exact (HTX.out wc (HT.out.go hC)).mono fun _ _ ⟨he, hb⟩ => ⟨_, he, rfl, hb⟩
          · intro ac wc hC hsz hfr hd hpr
            have d64 : ac.eval (.tmp 64) = (.bool true) := hd 5 rfl
            have d3 : ac.eval (.tmp 3) = (.pointer (some ⟨gr, 0, none⟩)) := hfr 3 rfl
            rw [if_pos (wanted_some rfl (yielded_of rfl d64))]
            exact ob_load _ rfl rfl rfl (Nat.lt_of_lt_of_eq (by decide : 67 < 93) hsz.symm) rfl d3 (load_ref10 (KR.out.go hC)) (Below.refl _ _) rfl
          · intro ac wc hC hsz hfr hd hpr
            have d64 : ac.eval (.tmp 64) = (.bool true) := hd 5 rfl
            have d67 : ac.eval (.tmp 67) = (.agg #[.int .i64 (l' : Int), .int .i64 (s' : Int), .int .i64 k, .int .u32 (n : Int)]) := hd 8 rfl
            rw [if_pos (wanted_some rfl (yielded_of rfl d64))]
            refine ob_call rfl rfl rfl (Nat.lt_of_lt_of_eq (by decide : 68 < 93) hsz.symm) rfl (enter_of Tryd.func12 (by kernel_rfl) rfl) ?_
            show Calls Tryd.prog 12 #[ac.eval (.tmp 67)] wc _
            rw [d67]
            exact (HRT.out wc (HT.out.go hC)).mono fun _ _ ⟨he, hb⟩ => ⟨_, he, rfl, hb⟩
          · intro ac wc hC hsz hfr hd hpr
            have d64 : ac.eval (.tmp 64) = (.bool true) := hd 5 rfl
            have d66 : ac.eval (.tmp 66) = (.string TX) := hd 7 rfl
            have d68 : ac.eval (.tmp 68) = (.string TX) := hd 9 rfl
            rw [if_pos (wanted_some rfl (yielded_of rfl d64))]
            exact ob_bin _ rfl rfl rfl (Nat.lt_of_lt_of_eq (by decide : 69 < 93) hsz.symm) rfl d66 d68 (eql_str10 TX) (Below.refl _ _) rfl
          · intro ac wc hC hsz hfr hd hpr
            have d64 : ac.eval (.tmp 64) = (.bool true) := hd 5 rfl
            have d69 : ac.eval (.tmp 69) = (.bool true) := hd 10 rfl
            rw [if_pos (wanted_none rfl)]
            exact ob_pick rfl rfl rfl (Nat.lt_of_lt_of_eq (by decide : 70 < 93) hsz.symm) rfl d64 (Below.refl _ _) d69
          · intro ac wc hC hsz hfr hd hpr
            have d70 : ac.eval (.tmp 70) = (.bool true) := hd 11 rfl
            rw [if_pos (wanted_none rfl)]
            exact ob_copy rfl rfl rfl (Nat.lt_of_lt_of_eq (by decide : 71 < 93) hsz.symm) (Or.inl rfl) (Below.refl _ _) d70
          · intro ac wc hC hsz hfr hd hpr
            have d71 : ac.eval (.tmp 71) = (.bool true) := hd 12 rfl
            have d1 : ac.eval (.tmp 1) = (.pointer (some ⟨gp, 0, none⟩)) := hfr 1 rfl
            rw [if_pos (wanted_some rfl (yielded_of rfl d71))]
            exact ob_load _ rfl rfl rfl (Nat.lt_of_lt_of_eq (by decide : 72 < 93) hsz.symm) rfl d1 (load_plan10 (KP.out.go hC)) (Below.refl _ _) rfl
          · intro ac wc hC hsz hfr hd hpr
            have d71 : ac.eval (.tmp 71) = (.bool true) := hd 12 rfl
            have d72 : ac.eval (.tmp 72) = (.agg #[.int .i64 (l' : Int), .int .i64 (s' : Int), .int .i64 k, .int .u32 (n : Int)]) := hd 13 rfl
            rw [if_pos (wanted_some rfl (yielded_of rfl d71))]
            refine ob_call rfl rfl rfl (Nat.lt_of_lt_of_eq (by decide : 73 < 93) hsz.symm) rfl (enter_of Tryd.func13 (by kernel_rfl) rfl) ?_
            show Calls Tryd.prog 13 #[ac.eval (.tmp 72)] wc _
            rw [d72]
            exact (HRM.out wc).mono fun _ _ ⟨he, hb⟩ => ⟨_, he, rfl, hb⟩
          · intro ac wc hC hsz hfr hd hpr
            have d71 : ac.eval (.tmp 71) = (.bool true) := hd 12 rfl
            have d8 : ac.eval (.tmp 8) = (.int .i64 0) := hfr 8 rfl
            rw [if_pos (wanted_some rfl (yielded_of rfl d71))]
            exact ob_copy rfl rfl rfl (Nat.lt_of_lt_of_eq (by decide : 74 < 93) hsz.symm) (Or.inl rfl) (Below.refl _ _) d8
          · intro ac wc hC hsz hfr hd hpr
            have d71 : ac.eval (.tmp 71) = (.bool true) := hd 12 rfl
            have d73 : ac.eval (.tmp 73) = (.int .i64 0) := hd 14 rfl
            have d74 : ac.eval (.tmp 74) = (.int .i64 0) := hd 15 rfl
            rw [if_pos (wanted_some rfl (yielded_of rfl d71))]
            exact ob_bin _ rfl rfl rfl (Nat.lt_of_lt_of_eq (by decide : 75 < 93) hsz.symm) rfl d73 d74 (eql_int (by simp)) (Below.refl _ _) rfl
          · intro ac wc hC hsz hfr hd hpr
            have d71 : ac.eval (.tmp 71) = (.bool true) := hd 12 rfl
            have d75 : ac.eval (.tmp 75) = (.bool true) := hd 16 rfl
            rw [if_pos (wanted_none rfl)]
            exact ob_pick rfl rfl rfl (Nat.lt_of_lt_of_eq (by decide : 76 < 93) hsz.symm) rfl d71 (Below.refl _ _) d75
          · intro ac wc hC hsz hfr hd hpr
            have d76 : ac.eval (.tmp 76) = (.bool true) := hd 17 rfl
            rw [if_pos (wanted_none rfl)]
            exact ob_copy rfl rfl rfl (Nat.lt_of_lt_of_eq (by decide : 77 < 93) hsz.symm) (Or.inl rfl) (Below.refl _ _) d76
          · intro ac wc hC hsz hfr hd hpr
            have d77 : ac.eval (.tmp 77) = (.bool true) := hd 18 rfl
            have d1 : ac.eval (.tmp 1) = (.pointer (some ⟨gp, 0, none⟩)) := hfr 1 rfl
            rw [if_pos (wanted_some rfl (yielded_of rfl d77))]
            exact ob_load _ rfl rfl rfl (Nat.lt_of_lt_of_eq (by decide : 78 < 93) hsz.symm) rfl d1 (load_plan10 (KP.out.go hC)) (Below.refl _ _) rfl
          · intro ac wc hC hsz hfr hd hpr
            have d77 : ac.eval (.tmp 77) = (.bool true) := hd 18 rfl
            have d78 : ac.eval (.tmp 78) = (.agg #[.int .i64 (l' : Int), .int .i64 (s' : Int), .int .i64 k, .int .u32 (n : Int)]) := hd 19 rfl
            rw [if_pos (wanted_some rfl (yielded_of rfl d77))]
            refine ob_call rfl rfl rfl (Nat.lt_of_lt_of_eq (by decide : 79 < 93) hsz.symm) rfl (enter_of Tryd.func14 (by kernel_rfl) rfl) ?_
            show Calls Tryd.prog 14 #[ac.eval (.tmp 78)] wc _
            rw [d78]
            exact (HPD.out wc).mono fun _ _ ⟨he, hb⟩ => ⟨_, he, rfl, hb⟩
          · intro ac wc hC hsz hfr hd hpr
            have d77 : ac.eval (.tmp 77) = (.bool true) := hd 18 rfl
            have d9 : ac.eval (.tmp 9) = (.int .i64 0) := hfr 9 rfl
            rw [if_pos (wanted_some rfl (yielded_of rfl d77))]
            exact ob_copy rfl rfl rfl (Nat.lt_of_lt_of_eq (by decide : 80 < 93) hsz.symm) (Or.inl rfl) (Below.refl _ _) d9
          · intro ac wc hC hsz hfr hd hpr
            have d77 : ac.eval (.tmp 77) = (.bool true) := hd 18 rfl
            have d79 : ac.eval (.tmp 79) = (.int .i64 0) := hd 20 rfl
            have d80 : ac.eval (.tmp 80) = (.int .i64 0) := hd 21 rfl
            rw [if_pos (wanted_some rfl (yielded_of rfl d77))]
            exact ob_bin _ rfl rfl rfl (Nat.lt_of_lt_of_eq (by decide : 81 < 93) hsz.symm) rfl d79 d80 (eql_int (by simp)) (Below.refl _ _) rfl
          · intro ac wc hC hsz hfr hd hpr
            have d77 : ac.eval (.tmp 77) = (.bool true) := hd 18 rfl
            have d81 : ac.eval (.tmp 81) = (.bool true) := hd 22 rfl
            rw [if_pos (wanted_none rfl)]
            exact ob_pick rfl rfl rfl (Nat.lt_of_lt_of_eq (by decide : 82 < 93) hsz.symm) rfl d77 (Below.refl _ _) d81
          · intro ac wc hC hsz hfr hd hpr
            have d82 : ac.eval (.tmp 82) = (.bool true) := hd 23 rfl
            rw [if_pos (wanted_none rfl)]
            exact ob_copy rfl rfl rfl (Nat.lt_of_lt_of_eq (by decide : 83 < 93) hsz.symm) (Or.inl rfl) (Below.refl _ _) d82
          · intro ac wc hC hsz hfr hd hpr
            have d83 : ac.eval (.tmp 83) = (.bool true) := hd 24 rfl
            have d4 : ac.eval (.tmp 4) = (.pointer (some ⟨gq, 0, none⟩)) := hfr 4 rfl
            rw [if_pos (wanted_some rfl (yielded_of rfl d83))]
            exact ob_load _ rfl rfl rfl (Nat.lt_of_lt_of_eq (by decide : 84 < 93) hsz.symm) rfl d4 (load_plan10 (KQ.out.go hC)) (Below.refl _ _) rfl
          · intro ac wc hC hsz hfr hd hpr
            have d83 : ac.eval (.tmp 83) = (.bool true) := hd 24 rfl
            have d6 : ac.eval (.tmp 6) = (.pointer (some ⟨gk, 0, none⟩)) := hfr 6 rfl
            rw [if_pos (wanted_some rfl (yielded_of rfl d83))]
            exact ob_load _ rfl rfl rfl (Nat.lt_of_lt_of_eq (by decide : 85 < 93) hsz.symm) rfl d6 (load_ref10 (KK.out.go hC)) (Below.refl _ _) rfl
          · intro ac wc hC hsz hfr hd hpr
            have d83 : ac.eval (.tmp 83) = (.bool true) := hd 24 rfl
            have d84 : ac.eval (.tmp 84) = (.agg #[.int .i64 0, .int .i64 0, .int .i64 0, .int .u32 0]) := hd 25 rfl
            have d85 : ac.eval (.tmp 85) = (.agg #[.int .i64 0, .int .i64 0, .int .i64 0, .int .u32 0]) := hd 26 rfl
            rw [if_pos (wanted_some rfl (yielded_of rfl d83))]
            exact ob_bin _ rfl rfl rfl (Nat.lt_of_lt_of_eq (by decide : 86 < 93) hsz.symm) rfl d84 d85 (eql_plan10 _ _ _ _) (Below.refl _ _) rfl
          · intro ac wc hC hsz hfr hd hpr
            have d83 : ac.eval (.tmp 83) = (.bool true) := hd 24 rfl
            have d86 : ac.eval (.tmp 86) = (.bool true) := hd 27 rfl
            rw [if_pos (wanted_none rfl)]
            exact ob_pick rfl rfl rfl (Nat.lt_of_lt_of_eq (by decide : 87 < 93) hsz.symm) rfl d83 (Below.refl _ _) d86
          · intro ac wc hC hsz hfr hd hpr
            have d87 : ac.eval (.tmp 87) = (.bool true) := hd 28 rfl
            rw [if_pos (wanted_none rfl)]
            exact ob_copy rfl rfl rfl (Nat.lt_of_lt_of_eq (by decide : 88 < 93) hsz.symm) (Or.inl rfl) (Below.refl _ _) d87
          · intro ac wc hC hsz hfr hd hpr
            have d88 : ac.eval (.tmp 88) = (.bool true) := hd 29 rfl
            have d5 : ac.eval (.tmp 5) = (.int .i64 f) := hfr 5 rfl
            rw [if_pos (wanted_some rfl (yielded_of rfl d88))]
            exact ob_copy rfl rfl rfl (Nat.lt_of_lt_of_eq (by decide : 89 < 93) hsz.symm) (Or.inl rfl) (Below.refl _ _) d5
          · intro ac wc hC hsz hfr hd hpr
            have d88 : ac.eval (.tmp 88) = (.bool true) := hd 29 rfl
            have d7 : ac.eval (.tmp 7) = (.int .i64 f) := hfr 7 rfl
            rw [if_pos (wanted_some rfl (yielded_of rfl d88))]
            exact ob_copy rfl rfl rfl (Nat.lt_of_lt_of_eq (by decide : 90 < 93) hsz.symm) (Or.inl rfl) (Below.refl _ _) d7
          · intro ac wc hC hsz hfr hd hpr
            have d88 : ac.eval (.tmp 88) = (.bool true) := hd 29 rfl
            have d89 : ac.eval (.tmp 89) = (.int .i64 f) := hd 30 rfl
            have d90 : ac.eval (.tmp 90) = (.int .i64 f) := hd 31 rfl
            rw [if_pos (wanted_some rfl (yielded_of rfl d88))]
            exact ob_bin _ rfl rfl rfl (Nat.lt_of_lt_of_eq (by decide : 91 < 93) hsz.symm) rfl d89 d90 (eql_int (by simp)) (Below.refl _ _) rfl
          · intro ac wc hC hsz hfr hd hpr
            have d88 : ac.eval (.tmp 88) = (.bool true) := hd 29 rfl
            have d91 : ac.eval (.tmp 91) = (.bool true) := hd 32 rfl
            rw [if_pos (wanted_none rfl)]
            exact ob_pick rfl rfl rfl (Nat.lt_of_lt_of_eq (by decide : 92 < 93) hsz.symm) rfl d88 (Below.refl _ _) d91
          · intro ac wc hC hsz hfr hd hpr
            have d92 : ac.eval (.tmp 92) = (.bool true) := hd 33 rfl
            rw [if_pos (wanted_none rfl)]
            exact ob_copy rfl rfl rfl (Nat.lt_of_lt_of_eq (by decide : 2 < 93) hsz.symm) (Or.inr rfl) (Below.refl _ _) d92
        intro a' W20 hC hdef hsz hfr hd
        have e59 : a'.eval (.tmp 59) = (.agg #[.int .i64 (l' : Int), .int .i64 (s' : Int), .int .i64 k, .int .u32 (n : Int)]) := hd 0 (by decide)
        have e60 : a'.eval (.tmp 60) = (.int .i64 c) := hd 1 (by decide)
        have e61 : a'.eval (.tmp 61) = (.agg #[.int .i64 (l' : Int), .int .i64 (s' : Int), .int .i64 k, .int .u32 (n : Int)]) := hd 2 (by decide)
        have e62 : a'.eval (.tmp 62) = (.int .i64 c) := hd 3 (by decide)
        have e63 : a'.eval (.tmp 63) = (.bool true) := hd 4 (by decide)
        have e64 : a'.eval (.tmp 64) = (.bool true) := hd 5 (by decide)
        have e65 : a'.eval (.tmp 65) = (.agg #[.int .i64 (l' : Int), .int .i64 (s' : Int), .int .i64 k, .int .u32 (n : Int)]) := hd 6 (by decide)
        have e66 : a'.eval (.tmp 66) = (.string TX) := hd 7 (by decide)
        have e67 : a'.eval (.tmp 67) = (.agg #[.int .i64 (l' : Int), .int .i64 (s' : Int), .int .i64 k, .int .u32 (n : Int)]) := hd 8 (by decide)
        have e68 : a'.eval (.tmp 68) = (.string TX) := hd 9 (by decide)
        have e69 : a'.eval (.tmp 69) = (.bool true) := hd 10 (by decide)
        have e70 : a'.eval (.tmp 70) = (.bool true) := hd 11 (by decide)
        have e71 : a'.eval (.tmp 71) = (.bool true) := hd 12 (by decide)
        have e72 : a'.eval (.tmp 72) = (.agg #[.int .i64 (l' : Int), .int .i64 (s' : Int), .int .i64 k, .int .u32 (n : Int)]) := hd 13 (by decide)
        have e73 : a'.eval (.tmp 73) = (.int .i64 0) := hd 14 (by decide)
        have e74 : a'.eval (.tmp 74) = (.int .i64 0) := hd 15 (by decide)
        have e75 : a'.eval (.tmp 75) = (.bool true) := hd 16 (by decide)
        have e76 : a'.eval (.tmp 76) = (.bool true) := hd 17 (by decide)
        have e77 : a'.eval (.tmp 77) = (.bool true) := hd 18 (by decide)
        have e78 : a'.eval (.tmp 78) = (.agg #[.int .i64 (l' : Int), .int .i64 (s' : Int), .int .i64 k, .int .u32 (n : Int)]) := hd 19 (by decide)
        have e79 : a'.eval (.tmp 79) = (.int .i64 0) := hd 20 (by decide)
        have e80 : a'.eval (.tmp 80) = (.int .i64 0) := hd 21 (by decide)
        have e81 : a'.eval (.tmp 81) = (.bool true) := hd 22 (by decide)
        have e82 : a'.eval (.tmp 82) = (.bool true) := hd 23 (by decide)
        have e83 : a'.eval (.tmp 83) = (.bool true) := hd 24 (by decide)
        have e84 : a'.eval (.tmp 84) = (.agg #[.int .i64 0, .int .i64 0, .int .i64 0, .int .u32 0]) := hd 25 (by decide)
        have e85 : a'.eval (.tmp 85) = (.agg #[.int .i64 0, .int .i64 0, .int .i64 0, .int .u32 0]) := hd 26 (by decide)
        have e86 : a'.eval (.tmp 86) = (.bool true) := hd 27 (by decide)
        have e87 : a'.eval (.tmp 87) = (.bool true) := hd 28 (by decide)
        have e88 : a'.eval (.tmp 88) = (.bool true) := hd 29 (by decide)
        have e89 : a'.eval (.tmp 89) = (.int .i64 f) := hd 30 (by decide)
        have e90 : a'.eval (.tmp 90) = (.int .i64 f) := hd 31 (by decide)
        have e91 : a'.eval (.tmp 91) = (.bool true) := hd 32 (by decide)
        have e92 : a'.eval (.tmp 92) = (.bool true) := hd 33 (by decide)
        have e2 : a'.eval (.tmp 2) = (.bool true) := hd 34 (by decide)
        have hact := act_puts hdef hsz hfr
        simp only [dstsOf, List.filterMap, putAll, Act.put, List.setIfInBounds_toArray, List.set_cons_succ, List.set_cons_zero, e59, e60, e61, e62, e63, e64, e65, e66, e67, e68, e69, e70, e71, e72, e73, e74, e75, e76, e77, e78, e79, e80, e81, e82, e83, e84, e85, e86, e87, e88, e89, e90, e91, e92, e2] at hact
        clear hd hfr hsz hdef e59 e60 e61 e62 e63 e64 e65 e66 e67 e68 e69 e70 e71 e72 e73 e74 e75 e76 e77 e78 e79 e80 e81 e82 e83 e84 e85 e86 e87 e88 e89 e90 e91 e92 e2
        subst hact
        replace B := B.trans (hC.mono B.size)
        clear hC
        go_wp2_with fail
        go_ret
        exact ⟨rfl, B⟩
  · have HCU := Lib.hid (check_unmade (k := k) hA)
    have hf0 : f ≠ 0 := by rw [HF.out]; exact unmade_ne hA
    have HFZ := Lib.hid hf0
    have hA2 : l < 0 ∨ (0 ≤ l ∧ s < 1) := by omega
    clear hA
    rcases hA2 with hA3 | ⟨hA3, hA4⟩
    · have hA5 : ¬ 0 ≤ l := by omega
      go_enter Tryd.func3, Tryd.ntmps3
      go_wp2_with fail
      obtain ⟨B, hk1, hs⟩ := blocks1 w #[.int .i64 l, .int .i64 s, .int .i64 k, .int .u32 (n : Int)] 24
      generalize (w.alloc (.cells #[.int .i64 l, .int .i64 s, .int .i64 k, .int .u32 (n : Int)] 24)) = W at *
      have K1 := Lib.hid hk1
      have HS := Lib.hid hs
      clear hs hk1
      replace HT := Lib.hid (HT.out.go B)
      have hzW := B.size
      refine (awake10_any _).mono ?_
      rintro e w1 ⟨rfl, hb⟩
      replace K1 := Lib.hid (K1.out.go hb)
      replace HT := Lib.hid (HT.out.go hb)
      replace B := B.trans (hb.mono B.size)
      have hzw1 := B.size
      clear hb
      obtain ⟨p0, p1, p2, p3⟩ := K1.out.four
      have pl := K1.out.lt
      go_wp2_with fail
      clear p0 p1 p2 p3 pl
      obtain ⟨gr, hgr⟩ : ∃ g : Nat, g = w1.heap.size := ⟨_, rfl⟩
      have HGR := Lib.hid (show w.heap.size < gr by rw [hgr]; exact K1.out.lt)
      obtain ⟨hb, hk, hs⟩ := blocks1 w1 #[.int .i64 l, .int .i64 s, .int .i64 k, .int .u32 (n : Int)] 26
      generalize w1.alloc (.cells #[.int .i64 l, .int .i64 s, .int .i64 k, .int .u32 (n : Int)] 26) = W2 at *
      have KR := Lib.hid hk
      replace K1 := Lib.hid (K1.out.go hb)
      replace HT := Lib.hid (HT.out.go hb)
      replace B := B.trans (hb.mono B.size)
      have hzW2 := B.size
      clear hb hk hs
      rw [← hgr] at KR
      simp only [← hgr]
      clear hgr
      refine (HOF.out _).mono ?_
      rintro e w3 ⟨rfl, hb⟩
      replace K1 := Lib.hid (K1.out.go hb)
      replace KR := Lib.hid (KR.out.go hb)
      replace HT := Lib.hid (HT.out.go hb)
      replace B := B.trans (hb.mono B.size)
      have hzw3 := B.size
      clear hb
      obtain ⟨p0, p1, p2, p3⟩ := KR.out.four
      have pl := KR.out.lt
      go_upto_region 6 with fail
      clear p0 p1 p2 p3 pl
      have KP := K1
      have B1 := B
      have HG4 := Lib.hid (show gr < w3.heap.size from KR.out.lt)
      clear B K1
      obtain ⟨B, hk1, hk2, hs⟩ := blocks2 w3 #[.int .i64 (okV f l), .int .i64 (okV f s), .int .i64 (okV f m), .int .u32 (okV f (n : Int))] 24 #[.int .i64 l, .int .i64 s, .int .i64 k, .int .u32 (n : Int)] 26
      generalize ((w3.alloc (.cells #[.int .i64 (okV f l), .int .i64 (okV f s), .int .i64 (okV f m), .int .u32 (okV f (n : Int))] 24)).alloc (.cells #[.int .i64 l, .int .i64 s, .int .i64 k, .int .u32 (n : Int)] 26)) = W4 at *
      have K1 := Lib.hid hk1
      have K2 := Lib.hid hk2
      have HS := Lib.hid hs
      clear hs hk1 hk2
      replace KP := Lib.hid (KP.out.go B)
      replace KR := Lib.hid (KR.out.go B)
      replace HT := Lib.hid (HT.out.go B)
      have hzW4 := B.size
      replace B := B1.trans (B.mono B1.size)
      obtain ⟨gq, hgq⟩ : ∃ g : Nat, g = w3.heap.size := ⟨_, rfl⟩
      rw [← hgq] at K1 K2 HG4
      simp only [← hgq]
      obtain ⟨gk, hgk⟩ : ∃ g : Nat, g = gq + 1 := ⟨_, rfl⟩
      rw [← hgk] at K2
      simp only [← hgk]
      have HGK := Lib.hid hgk
      clear hgq hgk HS B1
      obtain ⟨gp, hgp⟩ : ∃ g : Nat, g = w.heap.size := ⟨_, rfl⟩
      have HGP := Lib.hid hgp
      rw [← hgp] at KP HGR
      simp only [← hgp]
      clear hgp
      obtain ⟨p0, p1, p2, p3⟩ := KR.out.four
      have pl := KR.out.lt
      obtain ⟨q0, q1, q2, q3⟩ := K2.out.four
      have ql := K2.out.lt
      go_wp2_with fail
      clear p0 p1 p2 p3 pl q0 q1 q2 q3 ql
      refine (refcheck_any l s k _ _ (by omega) ⟨n, rfl⟩).mono ?_
      rintro e w6 ⟨rfl, hb⟩
      replace KP := Lib.hid (KP.out.go hb)
      replace KR := Lib.hid (KR.out.go hb)
      replace K1 := Lib.hid (K1.out.go hb)
      replace K2 := Lib.hid (K2.out.go hb)
      replace HT := Lib.hid (HT.out.go hb)
      replace B := B.trans (hb.mono B.size)
      have hzw6 := B.size
      clear hb
      rw [HCU.out, ← HF.out]
      have hf0 := HFZ.out
      have hfe : (f != (0 : Int)) = true := by rw [bne_iff_ne]; exact hf0
      have KQ := Lib.hid (show Blk w6 gq #[.int .i64 0, .int .i64 0, .int .i64 0, .int .u32 0] 24 by
        have h := K1.out
        simpa [okV, hf0] using h)
      have KS := K2
      clear hf0 K1 K2
      obtain ⟨q0, q1, q2, q3⟩ := KS.out.four
      have ql := KS.out.lt
      have r0 := KS.out.free 0
      have r1 := KS.out.free 1
      have r2 := KS.out.free 2
      have r3 := KS.out.free 3
      go_upto_region 12 with fail
      clear q0 q1 q2 q3 ql r0 r1 r2 r3
      obtain ⟨hk7, hg7⟩ := set4 KS.out (.int .i64 0) (.int .i64 0) (.int .i64 0) (.int .u32 0)
      have hle1 : gp < gr := by have := HGR.out; have := HGP.out; omega
      have hle2 := HG4.out
      have hle3 := HGK.out
      have HB7 := Lib.hid (below_grown B hg7 B.size (by have := HGP.out; omega))
      have KP7 := Lib.hid (KP.out.grown hg7 (by simp; omega))
      have KR7 := Lib.hid (KR.out.grown hg7 (by simp; omega))
      have KQ7 := Lib.hid (KQ.out.grown hg7 (by simp; omega))
      have HT7 := Lib.hid (HT0.out.go HB7.out)
      have KK := Lib.hid hk7
      clear hk7 hg7 hle1 hle2 hle3 KS KP KR KQ HT B
      generalize (((w6.setCell ⟨gk, 0, none⟩ (.int .i64 0)).setCell ⟨gk, 1, none⟩ (.int .i64 0)).setCell ⟨gk, 2, none⟩ (.int .i64 0)).setCell ⟨gk, 3, none⟩ (.int .u32 0) = W7 at *
      have KP := KP7
      have KR := KR7
      have KQ := KQ7
      have HT := HT7
      have B := HB7.out
      clear KP7 KR7 KQ7 HT7 HB7
      obtain ⟨p0, p1, p2, p3⟩ := KR.out.four
      have pl := KR.out.lt
      have HCK := Lib.hid (fun w => check_any l s k (n : Int) w (by omega) (by omega) (by omega))
      have HRC := Lib.hid (fun w => refcheck_any l s k _ w (by omega) ⟨n, rfl⟩)
      have HTX := Lib.hid (fun w hT => text10_any l s k n w (by omega) (by omega) (by omega) hn hT)
      have HRT := Lib.hid (fun w hT => reftext10_any l s k n w (by omega) hn hT)
      have HRM := Lib.hid (fun w => room_any l s k (n : Int) w (by omega) (by omega) (by omega))
      have HPD := Lib.hid (fun w => pad_any l s k (n : Int) w (by omega) (by omega) (by omega))
      unfold roomI at HRM
      unfold padI at HPD
      unfold planV at HTX HRM HPD
      obtain ⟨TX, hTX⟩ : ∃ TX, TX = strOf (textL l s k (n : Int)) := ⟨_, rfl⟩
      rw [← hTX] at HTX HRT
      clear hTX
      by_cases hc0 : checkE l s k = 0
      · obtain ⟨c1, c2, c3, c4, c5, -, c6⟩ := check_ok10 hc0
        rw [hc0] at HCK HRC
        rw [if_pos hc0] at HRM HPD
        obtain ⟨c, hc⟩ : ∃ c : Int, c = 0 := ⟨_, rfl⟩
        have HZ := Lib.hid hc
        rw [← hc] at HCK HRC
        obtain ⟨ll, hll⟩ : ∃ ll : Nat, ll = (l).toNat := ⟨_, rfl⟩
        obtain ⟨ss, hss⟩ : ∃ ss : Nat, ss = (s).toNat := ⟨_, rfl⟩
        obtain ⟨kk, hkk⟩ : ∃ kk : Nat, kk = k.toNat := ⟨_, rfl⟩
        have e1 : l = (ll : Int) := by omega
        have e2 : s = (ss : Int) := by omega
        have e3 : k = (kk : Int) := by omega
        obtain ⟨r, hr⟩ : ∃ r, r = kk * ss := ⟨_, rfl⟩
        have hri : (ss : Int) * (kk : Int) = (r : Int) := by rw [hr, Int.mul_comm]; simp
        have hri2 : k * s = (r : Int) := by rw [e2, e3, Int.mul_comm]; exact hri
        have hr2 : r ≤ 4096 * 65535 := by rw [hr]; exact Nat.mul_le_mul (by omega) (by omega)
        rw [hri2] at HRM HPD c6
        have HRI := Lib.hid (show s * k = (r : Int) by rw [e2, e3]; exact hri)
        obtain ⟨pd, hpd⟩ : ∃ pd, pd = r - ll := ⟨_, rfl⟩
        have hpdi : (r : Int) - l = (pd : Int) := by omega
        rw [hpdi] at HPD
        have HPI := Lib.hid hpdi
        have hpd2 : pd ≤ r := by omega
        clear e1 e2 e3 hr hri hri2 hll hss hkk hpd hpdi hc0 c6
        go_wp2_with fail
        refine (HRC.out _).mono ?_
        rintro e w21 ⟨rfl, hb21⟩
        replace KP := Lib.hid (KP.out.go hb21)
        replace KR := Lib.hid (KR.out.go hb21)
        replace KQ := Lib.hid (KQ.out.go hb21)
        replace KK := Lib.hid (KK.out.go hb21)
        replace HT := Lib.hid (HT.out.go hb21)
        replace B := B.trans (hb21.mono B.size)
        have hce : (c == (0 : Int)) = true := by rw [hc]; rfl
        clear hb21 p0 p1 p2 p3 pl hc
        go_upto_region 13 with fail
        refine wp_region_mono (C := Cb w21) (R := Rb) (H := fun _ => Hb w21) [Ty.val 46 (.pointer (some ⟨gr, 1, none⟩)), Ty.val 47 (.int .i64 s), Ty.val 48 (.pointer (some ⟨gr, 2, none⟩)), Ty.val 49 (.int .i64 k), Ty.val 50 (.int .i64 (r : Int)), Ty.val 51 (.pointer (some ⟨gr, 1, none⟩)), Ty.val 52 (.int .i64 s), Ty.val 53 (.pointer (some ⟨gr, 2, none⟩)), Ty.val 54 (.int .i64 k), Ty.val 55 (.int .i64 (r : Int)), Ty.val 56 (.pointer (some ⟨gr, 0, none⟩)), Ty.val 57 (.int .i64 l), Ty.val 58 (.int .i64 (pd : Int)), Ty.val 8 (.int .i64 (r : Int)), Ty.val 9 (.int .i64 (pd : Int))] (by kernel_rfl) (hC_b w21) (hCH_b w21) (drew_b w21) ⟨trivial, trivial, trivial, trivial, trivial, trivial, trivial, trivial, trivial, trivial, trivial, trivial, trivial, trivial, trivial, trivial⟩ (by kernel_rfl) ?_ ?_
        · refine ⟨?_, ?_, ?_, ?_, ?_, ?_, ?_, ?_, ?_, ?_, ?_, ?_, ?_, ?_, ?_, trivial⟩
          · intro ac wc hC hsz hfr hd hpr
            have d3 : ac.eval (.tmp 3) = (.pointer (some ⟨gr, 0, none⟩)) := hfr 3 rfl
            rw [if_pos (wanted_none rfl)]
            exact ob_field _ rfl rfl rfl (Nat.lt_of_lt_of_eq (by decide : 46 < 93) hsz.symm) rfl d3 (fun w => by go_simp) (Below.refl _ _) rfl
          · intro ac wc hC hsz hfr hd hpr
            have d46 : ac.eval (.tmp 46) = (.pointer (some ⟨gr, 1, none⟩)) := hd 0 rfl
            rw [if_pos (wanted_none rfl)]
            exact ob_load _ rfl rfl rfl (Nat.lt_of_lt_of_eq (by decide : 47 < 93) hsz.symm) rfl d46 (load_int ((KR.out.go hC).cell 1)) (Below.refl _ _) rfl
          · intro ac wc hC hsz hfr hd hpr
            have d3 : ac.eval (.tmp 3) = (.pointer (some ⟨gr, 0, none⟩)) := hfr 3 rfl
            rw [if_pos (wanted_none rfl)]
            exact ob_field _ rfl rfl rfl (Nat.lt_of_lt_of_eq (by decide : 48 < 93) hsz.symm) rfl d3 (fun w => by go_simp) (Below.refl _ _) rfl
          · intro ac wc hC hsz hfr hd hpr
            have d48 : ac.eval (.tmp 48) = (.pointer (some ⟨gr, 2, none⟩)) := hd 2 rfl
            rw [if_pos (wanted_none rfl)]
            exact ob_load _ rfl rfl rfl (Nat.lt_of_lt_of_eq (by decide : 49 < 93) hsz.symm) rfl d48 (load_int ((KR.out.go hC).cell 2)) (Below.refl _ _) rfl
          · intro ac wc hC hsz hfr hd hpr
            have d47 : ac.eval (.tmp 47) = (.int .i64 s) := hd 1 rfl
            have d49 : ac.eval (.tmp 49) = (.int .i64 k) := hd 3 rfl
            rw [if_pos (wanted_none rfl)]
            exact ob_bin _ rfl rfl rfl (Nat.lt_of_lt_of_eq (by decide : 50 < 93) hsz.symm) rfl d47 d49 (mul_int10 HRI.out (by omega)) (Below.refl _ _) rfl
          · intro ac wc hC hsz hfr hd hpr
            have d3 : ac.eval (.tmp 3) = (.pointer (some ⟨gr, 0, none⟩)) := hfr 3 rfl
            rw [if_pos (wanted_none rfl)]
            exact ob_field _ rfl rfl rfl (Nat.lt_of_lt_of_eq (by decide : 51 < 93) hsz.symm) rfl d3 (fun w => by go_simp) (Below.refl _ _) rfl
          · intro ac wc hC hsz hfr hd hpr
            have d51 : ac.eval (.tmp 51) = (.pointer (some ⟨gr, 1, none⟩)) := hd 5 rfl
            rw [if_pos (wanted_none rfl)]
            exact ob_load _ rfl rfl rfl (Nat.lt_of_lt_of_eq (by decide : 52 < 93) hsz.symm) rfl d51 (load_int ((KR.out.go hC).cell 1)) (Below.refl _ _) rfl
          · intro ac wc hC hsz hfr hd hpr
            have d3 : ac.eval (.tmp 3) = (.pointer (some ⟨gr, 0, none⟩)) := hfr 3 rfl
            rw [if_pos (wanted_none rfl)]
            exact ob_field _ rfl rfl rfl (Nat.lt_of_lt_of_eq (by decide : 53 < 93) hsz.symm) rfl d3 (fun w => by go_simp) (Below.refl _ _) rfl
          · intro ac wc hC hsz hfr hd hpr
            have d53 : ac.eval (.tmp 53) = (.pointer (some ⟨gr, 2, none⟩)) := hd 7 rfl
            rw [if_pos (wanted_none rfl)]
            exact ob_load _ rfl rfl rfl (Nat.lt_of_lt_of_eq (by decide : 54 < 93) hsz.symm) rfl d53 (load_int ((KR.out.go hC).cell 2)) (Below.refl _ _) rfl
          · intro ac wc hC hsz hfr hd hpr
            have d52 : ac.eval (.tmp 52) = (.int .i64 s) := hd 6 rfl
            have d54 : ac.eval (.tmp 54) = (.int .i64 k) := hd 8 rfl
            rw [if_pos (wanted_none rfl)]
            exact ob_bin _ rfl rfl rfl (Nat.lt_of_lt_of_eq (by decide : 55 < 93) hsz.symm) rfl d52 d54 (mul_int10 HRI.out (by omega)) (Below.refl _ _) rfl
          · intro ac wc hC hsz hfr hd hpr
            have d3 : ac.eval (.tmp 3) = (.pointer (some ⟨gr, 0, none⟩)) := hfr 3 rfl
            rw [if_pos (wanted_none rfl)]
            exact ob_field _ rfl rfl rfl (Nat.lt_of_lt_of_eq (by decide : 56 < 93) hsz.symm) rfl d3 (fun w => by go_simp) (Below.refl _ _) rfl
          · intro ac wc hC hsz hfr hd hpr
            have d56 : ac.eval (.tmp 56) = (.pointer (some ⟨gr, 0, none⟩)) := hd 10 rfl
            rw [if_pos (wanted_none rfl)]
            exact ob_load _ rfl rfl rfl (Nat.lt_of_lt_of_eq (by decide : 57 < 93) hsz.symm) rfl d56 (load_int ((KR.out.go hC).cell 0)) (Below.refl _ _) rfl
          · intro ac wc hC hsz hfr hd hpr
            have d55 : ac.eval (.tmp 55) = (.int .i64 (r : Int)) := hd 9 rfl
            have d57 : ac.eval (.tmp 57) = (.int .i64 l) := hd 11 rfl
            rw [if_pos (wanted_none rfl)]
            exact ob_bin _ rfl rfl rfl (Nat.lt_of_lt_of_eq (by decide : 58 < 93) hsz.symm) rfl d55 d57 (sub_intZ HPI.out (by omega)) (Below.refl _ _) rfl
          · intro ac wc hC hsz hfr hd hpr
            have d50 : ac.eval (.tmp 50) = (.int .i64 (r : Int)) := hd 4 rfl
            rw [if_pos (wanted_none rfl)]
            exact ob_copy rfl rfl rfl (Nat.lt_of_lt_of_eq (by decide : 8 < 93) hsz.symm) (Or.inr rfl) (Below.refl _ _) d50
          · intro ac wc hC hsz hfr hd hpr
            have d58 : ac.eval (.tmp 58) = (.int .i64 (pd : Int)) := hd 12 rfl
            rw [if_pos (wanted_none rfl)]
            exact ob_copy rfl rfl rfl (Nat.lt_of_lt_of_eq (by decide : 9 < 93) hsz.symm) (Or.inr rfl) (Below.refl _ _) d58
        intro a' w22 hC hdef hsz hfr hd
        have e46 : a'.eval (.tmp 46) = (.pointer (some ⟨gr, 1, none⟩)) := hd 0 (by decide)
        have e47 : a'.eval (.tmp 47) = (.int .i64 s) := hd 1 (by decide)
        have e48 : a'.eval (.tmp 48) = (.pointer (some ⟨gr, 2, none⟩)) := hd 2 (by decide)
        have e49 : a'.eval (.tmp 49) = (.int .i64 k) := hd 3 (by decide)
        have e50 : a'.eval (.tmp 50) = (.int .i64 (r : Int)) := hd 4 (by decide)
        have e51 : a'.eval (.tmp 51) = (.pointer (some ⟨gr, 1, none⟩)) := hd 5 (by decide)
        have e52 : a'.eval (.tmp 52) = (.int .i64 s) := hd 6 (by decide)
        have e53 : a'.eval (.tmp 53) = (.pointer (some ⟨gr, 2, none⟩)) := hd 7 (by decide)
        have e54 : a'.eval (.tmp 54) = (.int .i64 k) := hd 8 (by decide)
        have e55 : a'.eval (.tmp 55) = (.int .i64 (r : Int)) := hd 9 (by decide)
        have e56 : a'.eval (.tmp 56) = (.pointer (some ⟨gr, 0, none⟩)) := hd 10 (by decide)
        have e57 : a'.eval (.tmp 57) = (.int .i64 l) := hd 11 (by decide)
        have e58 : a'.eval (.tmp 58) = (.int .i64 (pd : Int)) := hd 12 (by decide)
        have e8 : a'.eval (.tmp 8) = (.int .i64 (r : Int)) := hd 13 (by decide)
        have e9 : a'.eval (.tmp 9) = (.int .i64 (pd : Int)) := hd 14 (by decide)
        have hact := act_puts hdef hsz hfr
        simp only [dstsOf, List.filterMap, putAll, Act.put, List.setIfInBounds_toArray, List.set_cons_succ, List.set_cons_zero, e46, e47, e48, e49, e50, e51, e52, e53, e54, e55, e56, e57, e58, e8, e9] at hact
        clear hd hfr hsz hdef e46 e47 e48 e49 e50 e51 e52 e53 e54 e55 e56 e57 e58 e8 e9
        subst hact
        replace KP := Lib.hid (KP.out.go hC)
        replace KR := Lib.hid (KR.out.go hC)
        replace KQ := Lib.hid (KQ.out.go hC)
        replace KK := Lib.hid (KK.out.go hC)
        replace HT := Lib.hid (HT.out.go hC)
        replace B := B.trans (hC.mono B.size)
        clear hC
        go_upto_region 14 with fail
        refine wp_region_mono (C := Cb w22) (R := Rb) (H := fun _ => Hb w22) [Ty.val 59 (.agg #[.int .i64 l, .int .i64 s, .int .i64 k, .int .u32 (n : Int)]), Ty.val 60 (.int .i64 c), Ty.val 61 (.agg #[.int .i64 l, .int .i64 s, .int .i64 k, .int .u32 (n : Int)]), Ty.val 62 (.int .i64 c), Ty.val 63 (.bool true), Ty.val 64 (.bool true), Ty.val 65 (.agg #[.int .i64 l, .int .i64 s, .int .i64 k, .int .u32 (n : Int)]), Ty.val 66 (.string TX), Ty.val 67 (.agg #[.int .i64 l, .int .i64 s, .int .i64 k, .int .u32 (n : Int)]), Ty.val 68 (.string TX), Ty.val 69 (.bool true), Ty.val 70 (.bool true), Ty.val 71 (.bool true), Ty.val 72 (.agg #[.int .i64 l, .int .i64 s, .int .i64 k, .int .u32 (n : Int)]), Ty.val 73 (.int .i64 (r : Int)), Ty.val 74 (.int .i64 (r : Int)), Ty.val 75 (.bool true), Ty.val 76 (.bool true), Ty.val 77 (.bool true), Ty.val 78 (.agg #[.int .i64 l, .int .i64 s, .int .i64 k, .int .u32 (n : Int)]), Ty.val 79 (.int .i64 (pd : Int)), Ty.val 80 (.int .i64 (pd : Int)), Ty.val 81 (.bool true), Ty.val 82 (.bool true), Ty.val 83 (.bool true), Ty.val 84 (.agg #[.int .i64 0, .int .i64 0, .int .i64 0, .int .u32 0]), Ty.val 85 (.agg #[.int .i64 0, .int .i64 0, .int .i64 0, .int .u32 0]), Ty.val 86 (.bool true), Ty.val 87 (.bool true), Ty.val 88 (.bool true), Ty.val 89 (.int .i64 f), Ty.val 90 (.int .i64 f), Ty.val 91 (.bool true), Ty.val 92 (.bool true), Ty.val 2 (.bool true)] (by kernel_rfl) (hC_b w22) (hCH_b w22) (drew_b w22) ⟨trivial, trivial, trivial, trivial, trivial, trivial, trivial, trivial, trivial, trivial, trivial, trivial, trivial, trivial, trivial, trivial, trivial, trivial, trivial, trivial, trivial, trivial, trivial, trivial, trivial, trivial, trivial, trivial, trivial, trivial, trivial, trivial, trivial, trivial, trivial, trivial⟩ (by kernel_rfl) ?_ ?_
        · refine ⟨?_, ?_, ?_, ?_, ?_, ?_, ?_, ?_, ?_, ?_, ?_, ?_, ?_, ?_, ?_, ?_, ?_, ?_, ?_, ?_, ?_, ?_, ?_, ?_, ?_, ?_, ?_, ?_, ?_, ?_, ?_, ?_, ?_, ?_, ?_, trivial⟩
          · intro ac wc hC hsz hfr hd hpr
            have d1 : ac.eval (.tmp 1) = (.pointer (some ⟨gp, 0, none⟩)) := hfr 1 rfl
            rw [if_pos (wanted_none rfl)]
            exact ob_load _ rfl rfl rfl (Nat.lt_of_lt_of_eq (by decide : 59 < 93) hsz.symm) rfl d1 (load_plan10 (KP.out.go hC)) (Below.refl _ _) rfl
          · intro ac wc hC hsz hfr hd hpr
            have d59 : ac.eval (.tmp 59) = (.agg #[.int .i64 l, .int .i64 s, .int .i64 k, .int .u32 (n : Int)]) := hd 0 rfl
            rw [if_pos (wanted_none rfl)]
            refine ob_call rfl rfl rfl (Nat.lt_of_lt_of_eq (by decide : 60 < 93) hsz.symm) rfl (enter_of Tryd.func10 (by kernel_rfl) rfl) ?_
            show Calls Tryd.prog 10 #[ac.eval (.tmp 59)] wc _
            rw [d59]
            exact (HCK.out wc).mono fun _ _ ⟨he, hb⟩ => ⟨_, he, rfl, hb⟩
          · intro ac wc hC hsz hfr hd hpr
            have d3 : ac.eval (.tmp 3) = (.pointer (some ⟨gr, 0, none⟩)) := hfr 3 rfl
            rw [if_pos (wanted_none rfl)]
            exact ob_load _ rfl rfl rfl (Nat.lt_of_lt_of_eq (by decide : 61 < 93) hsz.symm) rfl d3 (load_ref10 (KR.out.go hC)) (Below.refl _ _) rfl
          · intro ac wc hC hsz hfr hd hpr
            have d61 : ac.eval (.tmp 61) = (.agg #[.int .i64 l, .int .i64 s, .int .i64 k, .int .u32 (n : Int)]) := hd 2 rfl
            rw [if_pos (wanted_none rfl)]
            refine ob_call rfl rfl rfl (Nat.lt_of_lt_of_eq (by decide : 62 < 93) hsz.symm) rfl (enter_of Tryd.func9 (by kernel_rfl) rfl) ?_
            show Calls Tryd.prog 9 #[ac.eval (.tmp 61)] wc _
            rw [d61]
            exact (HRC.out wc).mono fun _ _ ⟨he, hb⟩ => ⟨_, he, rfl, hb⟩
          · intro ac wc hC hsz hfr hd hpr
            have d60 : ac.eval (.tmp 60) = (.int .i64 c) := hd 1 rfl
            have d62 : ac.eval (.tmp 62) = (.int .i64 c) := hd 3 rfl
            rw [if_pos (wanted_none rfl)]
            exact ob_bin _ rfl rfl rfl (Nat.lt_of_lt_of_eq (by decide : 63 < 93) hsz.symm) rfl d60 d62 (eql_int (by simp)) (Below.refl _ _) rfl
          · intro ac wc hC hsz hfr hd hpr
            have d63 : ac.eval (.tmp 63) = (.bool true) := hd 4 rfl
            rw [if_pos (wanted_none rfl)]
            exact ob_copy rfl rfl rfl (Nat.lt_of_lt_of_eq (by decide : 64 < 93) hsz.symm) (Or.inl rfl) (Below.refl _ _) d63
          · intro ac wc hC hsz hfr hd hpr
            have d64 : ac.eval (.tmp 64) = (.bool true) := hd 5 rfl
            have d1 : ac.eval (.tmp 1) = (.pointer (some ⟨gp, 0, none⟩)) := hfr 1 rfl
            rw [if_pos (wanted_some rfl (yielded_of rfl d64))]
            exact ob_load _ rfl rfl rfl (Nat.lt_of_lt_of_eq (by decide : 65 < 93) hsz.symm) rfl d1 (load_plan10 (KP.out.go hC)) (Below.refl _ _) rfl
          · intro ac wc hC hsz hfr hd hpr
            have d64 : ac.eval (.tmp 64) = (.bool true) := hd 5 rfl
            have d65 : ac.eval (.tmp 65) = (.agg #[.int .i64 l, .int .i64 s, .int .i64 k, .int .u32 (n : Int)]) := hd 6 rfl
            rw [if_pos (wanted_some rfl (yielded_of rfl d64))]
            refine ob_call rfl rfl rfl (Nat.lt_of_lt_of_eq (by decide : 66 < 93) hsz.symm) rfl (enter_of Tryd.func11 (by kernel_rfl) rfl) ?_
            show Calls Tryd.prog 11 #[ac.eval (.tmp 65)] wc _
            rw [d65]
            exact (HTX.out wc (HT.out.go hC)).mono fun _ _ ⟨he, hb⟩ => ⟨_, he, rfl, hb⟩
          · intro ac wc hC hsz hfr hd hpr
            have d64 : ac.eval (.tmp 64) = (.bool true) := hd 5 rfl
            have d3 : ac.eval (.tmp 3) = (.pointer (some ⟨gr, 0, none⟩)) := hfr 3 rfl
            rw [if_pos (wanted_some rfl (yielded_of rfl d64))]
            exact ob_load _ rfl rfl rfl (Nat.lt_of_lt_of_eq (by decide : 67 < 93) hsz.symm) rfl d3 (load_ref10 (KR.out.go hC)) (Below.refl _ _) rfl
          · intro ac wc hC hsz hfr hd hpr
            have d64 : ac.eval (.tmp 64) = (.bool true) := hd 5 rfl
            have d67 : ac.eval (.tmp 67) = (.agg #[.int .i64 l, .int .i64 s, .int .i64 k, .int .u32 (n : Int)]) := hd 8 rfl
            rw [if_pos (wanted_some rfl (yielded_of rfl d64))]
            refine ob_call rfl rfl rfl (Nat.lt_of_lt_of_eq (by decide : 68 < 93) hsz.symm) rfl (enter_of Tryd.func12 (by kernel_rfl) rfl) ?_
            show Calls Tryd.prog 12 #[ac.eval (.tmp 67)] wc _
            rw [d67]
            exact (HRT.out wc (HT.out.go hC)).mono fun _ _ ⟨he, hb⟩ => ⟨_, he, rfl, hb⟩
          · intro ac wc hC hsz hfr hd hpr
            have d64 : ac.eval (.tmp 64) = (.bool true) := hd 5 rfl
            have d66 : ac.eval (.tmp 66) = (.string TX) := hd 7 rfl
            have d68 : ac.eval (.tmp 68) = (.string TX) := hd 9 rfl
            rw [if_pos (wanted_some rfl (yielded_of rfl d64))]
            exact ob_bin _ rfl rfl rfl (Nat.lt_of_lt_of_eq (by decide : 69 < 93) hsz.symm) rfl d66 d68 (eql_str10 TX) (Below.refl _ _) rfl
          · intro ac wc hC hsz hfr hd hpr
            have d64 : ac.eval (.tmp 64) = (.bool true) := hd 5 rfl
            have d69 : ac.eval (.tmp 69) = (.bool true) := hd 10 rfl
            rw [if_pos (wanted_none rfl)]
            exact ob_pick rfl rfl rfl (Nat.lt_of_lt_of_eq (by decide : 70 < 93) hsz.symm) rfl d64 (Below.refl _ _) d69
          · intro ac wc hC hsz hfr hd hpr
            have d70 : ac.eval (.tmp 70) = (.bool true) := hd 11 rfl
            rw [if_pos (wanted_none rfl)]
            exact ob_copy rfl rfl rfl (Nat.lt_of_lt_of_eq (by decide : 71 < 93) hsz.symm) (Or.inl rfl) (Below.refl _ _) d70
          · intro ac wc hC hsz hfr hd hpr
            have d71 : ac.eval (.tmp 71) = (.bool true) := hd 12 rfl
            have d1 : ac.eval (.tmp 1) = (.pointer (some ⟨gp, 0, none⟩)) := hfr 1 rfl
            rw [if_pos (wanted_some rfl (yielded_of rfl d71))]
            exact ob_load _ rfl rfl rfl (Nat.lt_of_lt_of_eq (by decide : 72 < 93) hsz.symm) rfl d1 (load_plan10 (KP.out.go hC)) (Below.refl _ _) rfl
          · intro ac wc hC hsz hfr hd hpr
            have d71 : ac.eval (.tmp 71) = (.bool true) := hd 12 rfl
            have d72 : ac.eval (.tmp 72) = (.agg #[.int .i64 l, .int .i64 s, .int .i64 k, .int .u32 (n : Int)]) := hd 13 rfl
            rw [if_pos (wanted_some rfl (yielded_of rfl d71))]
            refine ob_call rfl rfl rfl (Nat.lt_of_lt_of_eq (by decide : 73 < 93) hsz.symm) rfl (enter_of Tryd.func13 (by kernel_rfl) rfl) ?_
            show Calls Tryd.prog 13 #[ac.eval (.tmp 72)] wc _
            rw [d72]
            exact (HRM.out wc).mono fun _ _ ⟨he, hb⟩ => ⟨_, he, rfl, hb⟩
          · intro ac wc hC hsz hfr hd hpr
            have d71 : ac.eval (.tmp 71) = (.bool true) := hd 12 rfl
            have d8 : ac.eval (.tmp 8) = (.int .i64 (r : Int)) := hfr 8 rfl
            rw [if_pos (wanted_some rfl (yielded_of rfl d71))]
            exact ob_copy rfl rfl rfl (Nat.lt_of_lt_of_eq (by decide : 74 < 93) hsz.symm) (Or.inl rfl) (Below.refl _ _) d8
          · intro ac wc hC hsz hfr hd hpr
            have d71 : ac.eval (.tmp 71) = (.bool true) := hd 12 rfl
            have d73 : ac.eval (.tmp 73) = (.int .i64 (r : Int)) := hd 14 rfl
            have d74 : ac.eval (.tmp 74) = (.int .i64 (r : Int)) := hd 15 rfl
            rw [if_pos (wanted_some rfl (yielded_of rfl d71))]
            exact ob_bin _ rfl rfl rfl (Nat.lt_of_lt_of_eq (by decide : 75 < 93) hsz.symm) rfl d73 d74 (eql_int (by simp)) (Below.refl _ _) rfl
          · intro ac wc hC hsz hfr hd hpr
            have d71 : ac.eval (.tmp 71) = (.bool true) := hd 12 rfl
            have d75 : ac.eval (.tmp 75) = (.bool true) := hd 16 rfl
            rw [if_pos (wanted_none rfl)]
            exact ob_pick rfl rfl rfl (Nat.lt_of_lt_of_eq (by decide : 76 < 93) hsz.symm) rfl d71 (Below.refl _ _) d75
          · intro ac wc hC hsz hfr hd hpr
            have d76 : ac.eval (.tmp 76) = (.bool true) := hd 17 rfl
            rw [if_pos (wanted_none rfl)]
            exact ob_copy rfl rfl rfl (Nat.lt_of_lt_of_eq (by decide : 77 < 93) hsz.symm) (Or.inl rfl) (Below.refl _ _) d76
          · intro ac wc hC hsz hfr hd hpr
            have d77 : ac.eval (.tmp 77) = (.bool true) := hd 18 rfl
            have d1 : ac.eval (.tmp 1) = (.pointer (some ⟨gp, 0, none⟩)) := hfr 1 rfl
            rw [if_pos (wanted_some rfl (yielded_of rfl d77))]
            exact ob_load _ rfl rfl rfl (Nat.lt_of_lt_of_eq (by decide : 78 < 93) hsz.symm) rfl d1 (load_plan10 (KP.out.go hC)) (Below.refl _ _) rfl
          · intro ac wc hC hsz hfr hd hpr
            have d77 : ac.eval (.tmp 77) = (.bool true) := hd 18 rfl
            have d78 : ac.eval (.tmp 78) = (.agg #[.int .i64 l, .int .i64 s, .int .i64 k, .int .u32 (n : Int)]) := hd 19 rfl
            rw [if_pos (wanted_some rfl (yielded_of rfl d77))]
            refine ob_call rfl rfl rfl (Nat.lt_of_lt_of_eq (by decide : 79 < 93) hsz.symm) rfl (enter_of Tryd.func14 (by kernel_rfl) rfl) ?_
            show Calls Tryd.prog 14 #[ac.eval (.tmp 78)] wc _
            rw [d78]
            exact (HPD.out wc).mono fun _ _ ⟨he, hb⟩ => ⟨_, he, rfl, hb⟩
          · intro ac wc hC hsz hfr hd hpr
            have d77 : ac.eval (.tmp 77) = (.bool true) := hd 18 rfl
            have d9 : ac.eval (.tmp 9) = (.int .i64 (pd : Int)) := hfr 9 rfl
            rw [if_pos (wanted_some rfl (yielded_of rfl d77))]
            exact ob_copy rfl rfl rfl (Nat.lt_of_lt_of_eq (by decide : 80 < 93) hsz.symm) (Or.inl rfl) (Below.refl _ _) d9
          · intro ac wc hC hsz hfr hd hpr
            have d77 : ac.eval (.tmp 77) = (.bool true) := hd 18 rfl
            have d79 : ac.eval (.tmp 79) = (.int .i64 (pd : Int)) := hd 20 rfl
            have d80 : ac.eval (.tmp 80) = (.int .i64 (pd : Int)) := hd 21 rfl
            rw [if_pos (wanted_some rfl (yielded_of rfl d77))]
            exact ob_bin _ rfl rfl rfl (Nat.lt_of_lt_of_eq (by decide : 81 < 93) hsz.symm) rfl d79 d80 (eql_int (by simp)) (Below.refl _ _) rfl
          · intro ac wc hC hsz hfr hd hpr
            have d77 : ac.eval (.tmp 77) = (.bool true) := hd 18 rfl
            have d81 : ac.eval (.tmp 81) = (.bool true) := hd 22 rfl
            rw [if_pos (wanted_none rfl)]
            exact ob_pick rfl rfl rfl (Nat.lt_of_lt_of_eq (by decide : 82 < 93) hsz.symm) rfl d77 (Below.refl _ _) d81
          · intro ac wc hC hsz hfr hd hpr
            have d82 : ac.eval (.tmp 82) = (.bool true) := hd 23 rfl
            rw [if_pos (wanted_none rfl)]
            exact ob_copy rfl rfl rfl (Nat.lt_of_lt_of_eq (by decide : 83 < 93) hsz.symm) (Or.inl rfl) (Below.refl _ _) d82
          · intro ac wc hC hsz hfr hd hpr
            have d83 : ac.eval (.tmp 83) = (.bool true) := hd 24 rfl
            have d4 : ac.eval (.tmp 4) = (.pointer (some ⟨gq, 0, none⟩)) := hfr 4 rfl
            rw [if_pos (wanted_some rfl (yielded_of rfl d83))]
            exact ob_load _ rfl rfl rfl (Nat.lt_of_lt_of_eq (by decide : 84 < 93) hsz.symm) rfl d4 (load_plan10 (KQ.out.go hC)) (Below.refl _ _) rfl
          · intro ac wc hC hsz hfr hd hpr
            have d83 : ac.eval (.tmp 83) = (.bool true) := hd 24 rfl
            have d6 : ac.eval (.tmp 6) = (.pointer (some ⟨gk, 0, none⟩)) := hfr 6 rfl
            rw [if_pos (wanted_some rfl (yielded_of rfl d83))]
            exact ob_load _ rfl rfl rfl (Nat.lt_of_lt_of_eq (by decide : 85 < 93) hsz.symm) rfl d6 (load_ref10 (KK.out.go hC)) (Below.refl _ _) rfl
          · intro ac wc hC hsz hfr hd hpr
            have d83 : ac.eval (.tmp 83) = (.bool true) := hd 24 rfl
            have d84 : ac.eval (.tmp 84) = (.agg #[.int .i64 0, .int .i64 0, .int .i64 0, .int .u32 0]) := hd 25 rfl
            have d85 : ac.eval (.tmp 85) = (.agg #[.int .i64 0, .int .i64 0, .int .i64 0, .int .u32 0]) := hd 26 rfl
            rw [if_pos (wanted_some rfl (yielded_of rfl d83))]
            exact ob_bin _ rfl rfl rfl (Nat.lt_of_lt_of_eq (by decide : 86 < 93) hsz.symm) rfl d84 d85 (eql_plan10 _ _ _ _) (Below.refl _ _) rfl
          · intro ac wc hC hsz hfr hd hpr
            have d83 : ac.eval (.tmp 83) = (.bool true) := hd 24 rfl
            have d86 : ac.eval (.tmp 86) = (.bool true) := hd 27 rfl
            rw [if_pos (wanted_none rfl)]
            exact ob_pick rfl rfl rfl (Nat.lt_of_lt_of_eq (by decide : 87 < 93) hsz.symm) rfl d83 (Below.refl _ _) d86
          · intro ac wc hC hsz hfr hd hpr
            have d87 : ac.eval (.tmp 87) = (.bool true) := hd 28 rfl
            rw [if_pos (wanted_none rfl)]
            exact ob_copy rfl rfl rfl (Nat.lt_of_lt_of_eq (by decide : 88 < 93) hsz.symm) (Or.inl rfl) (Below.refl _ _) d87
          · intro ac wc hC hsz hfr hd hpr
            have d88 : ac.eval (.tmp 88) = (.bool true) := hd 29 rfl
            have d5 : ac.eval (.tmp 5) = (.int .i64 f) := hfr 5 rfl
            rw [if_pos (wanted_some rfl (yielded_of rfl d88))]
            exact ob_copy rfl rfl rfl (Nat.lt_of_lt_of_eq (by decide : 89 < 93) hsz.symm) (Or.inl rfl) (Below.refl _ _) d5
          · intro ac wc hC hsz hfr hd hpr
            have d88 : ac.eval (.tmp 88) = (.bool true) := hd 29 rfl
            have d7 : ac.eval (.tmp 7) = (.int .i64 f) := hfr 7 rfl
            rw [if_pos (wanted_some rfl (yielded_of rfl d88))]
            exact ob_copy rfl rfl rfl (Nat.lt_of_lt_of_eq (by decide : 90 < 93) hsz.symm) (Or.inl rfl) (Below.refl _ _) d7
          · intro ac wc hC hsz hfr hd hpr
            have d88 : ac.eval (.tmp 88) = (.bool true) := hd 29 rfl
            have d89 : ac.eval (.tmp 89) = (.int .i64 f) := hd 30 rfl
            have d90 : ac.eval (.tmp 90) = (.int .i64 f) := hd 31 rfl
            rw [if_pos (wanted_some rfl (yielded_of rfl d88))]
            exact ob_bin _ rfl rfl rfl (Nat.lt_of_lt_of_eq (by decide : 91 < 93) hsz.symm) rfl d89 d90 (eql_int (by simp)) (Below.refl _ _) rfl
          · intro ac wc hC hsz hfr hd hpr
            have d88 : ac.eval (.tmp 88) = (.bool true) := hd 29 rfl
            have d91 : ac.eval (.tmp 91) = (.bool true) := hd 32 rfl
            rw [if_pos (wanted_none rfl)]
            exact ob_pick rfl rfl rfl (Nat.lt_of_lt_of_eq (by decide : 92 < 93) hsz.symm) rfl d88 (Below.refl _ _) d91
          · intro ac wc hC hsz hfr hd hpr
            have d92 : ac.eval (.tmp 92) = (.bool true) := hd 33 rfl
            rw [if_pos (wanted_none rfl)]
            exact ob_copy rfl rfl rfl (Nat.lt_of_lt_of_eq (by decide : 2 < 93) hsz.symm) (Or.inr rfl) (Below.refl _ _) d92
        intro a' W20 hC hdef hsz hfr hd
        have e59 : a'.eval (.tmp 59) = (.agg #[.int .i64 l, .int .i64 s, .int .i64 k, .int .u32 (n : Int)]) := hd 0 (by decide)
        have e60 : a'.eval (.tmp 60) = (.int .i64 c) := hd 1 (by decide)
        have e61 : a'.eval (.tmp 61) = (.agg #[.int .i64 l, .int .i64 s, .int .i64 k, .int .u32 (n : Int)]) := hd 2 (by decide)
        have e62 : a'.eval (.tmp 62) = (.int .i64 c) := hd 3 (by decide)
        have e63 : a'.eval (.tmp 63) = (.bool true) := hd 4 (by decide)
        have e64 : a'.eval (.tmp 64) = (.bool true) := hd 5 (by decide)
        have e65 : a'.eval (.tmp 65) = (.agg #[.int .i64 l, .int .i64 s, .int .i64 k, .int .u32 (n : Int)]) := hd 6 (by decide)
        have e66 : a'.eval (.tmp 66) = (.string TX) := hd 7 (by decide)
        have e67 : a'.eval (.tmp 67) = (.agg #[.int .i64 l, .int .i64 s, .int .i64 k, .int .u32 (n : Int)]) := hd 8 (by decide)
        have e68 : a'.eval (.tmp 68) = (.string TX) := hd 9 (by decide)
        have e69 : a'.eval (.tmp 69) = (.bool true) := hd 10 (by decide)
        have e70 : a'.eval (.tmp 70) = (.bool true) := hd 11 (by decide)
        have e71 : a'.eval (.tmp 71) = (.bool true) := hd 12 (by decide)
        have e72 : a'.eval (.tmp 72) = (.agg #[.int .i64 l, .int .i64 s, .int .i64 k, .int .u32 (n : Int)]) := hd 13 (by decide)
        have e73 : a'.eval (.tmp 73) = (.int .i64 (r : Int)) := hd 14 (by decide)
        have e74 : a'.eval (.tmp 74) = (.int .i64 (r : Int)) := hd 15 (by decide)
        have e75 : a'.eval (.tmp 75) = (.bool true) := hd 16 (by decide)
        have e76 : a'.eval (.tmp 76) = (.bool true) := hd 17 (by decide)
        have e77 : a'.eval (.tmp 77) = (.bool true) := hd 18 (by decide)
        have e78 : a'.eval (.tmp 78) = (.agg #[.int .i64 l, .int .i64 s, .int .i64 k, .int .u32 (n : Int)]) := hd 19 (by decide)
        have e79 : a'.eval (.tmp 79) = (.int .i64 (pd : Int)) := hd 20 (by decide)
        have e80 : a'.eval (.tmp 80) = (.int .i64 (pd : Int)) := hd 21 (by decide)
        have e81 : a'.eval (.tmp 81) = (.bool true) := hd 22 (by decide)
        have e82 : a'.eval (.tmp 82) = (.bool true) := hd 23 (by decide)
        have e83 : a'.eval (.tmp 83) = (.bool true) := hd 24 (by decide)
        have e84 : a'.eval (.tmp 84) = (.agg #[.int .i64 0, .int .i64 0, .int .i64 0, .int .u32 0]) := hd 25 (by decide)
        have e85 : a'.eval (.tmp 85) = (.agg #[.int .i64 0, .int .i64 0, .int .i64 0, .int .u32 0]) := hd 26 (by decide)
        have e86 : a'.eval (.tmp 86) = (.bool true) := hd 27 (by decide)
        have e87 : a'.eval (.tmp 87) = (.bool true) := hd 28 (by decide)
        have e88 : a'.eval (.tmp 88) = (.bool true) := hd 29 (by decide)
        have e89 : a'.eval (.tmp 89) = (.int .i64 f) := hd 30 (by decide)
        have e90 : a'.eval (.tmp 90) = (.int .i64 f) := hd 31 (by decide)
        have e91 : a'.eval (.tmp 91) = (.bool true) := hd 32 (by decide)
        have e92 : a'.eval (.tmp 92) = (.bool true) := hd 33 (by decide)
        have e2 : a'.eval (.tmp 2) = (.bool true) := hd 34 (by decide)
        have hact := act_puts hdef hsz hfr
        simp only [dstsOf, List.filterMap, putAll, Act.put, List.setIfInBounds_toArray, List.set_cons_succ, List.set_cons_zero, e59, e60, e61, e62, e63, e64, e65, e66, e67, e68, e69, e70, e71, e72, e73, e74, e75, e76, e77, e78, e79, e80, e81, e82, e83, e84, e85, e86, e87, e88, e89, e90, e91, e92, e2] at hact
        clear hd hfr hsz hdef e59 e60 e61 e62 e63 e64 e65 e66 e67 e68 e69 e70 e71 e72 e73 e74 e75 e76 e77 e78 e79 e80 e81 e82 e83 e84 e85 e86 e87 e88 e89 e90 e91 e92 e2
        subst hact
        replace B := B.trans (hC.mono B.size)
        clear hC
        go_wp2_with fail
        go_ret
        exact ⟨rfl, B⟩
      · rw [if_neg hc0] at HRM HPD
        obtain ⟨c, hc⟩ : ∃ c : Int, c = checkE l s k := ⟨_, rfl⟩
        rw [← hc] at HCK HRC hc0
        clear hc
        go_wp2_with fail
        refine (HRC.out _).mono ?_
        rintro e w21 ⟨rfl, hb21⟩
        replace KP := Lib.hid (KP.out.go hb21)
        replace KR := Lib.hid (KR.out.go hb21)
        replace KQ := Lib.hid (KQ.out.go hb21)
        replace KK := Lib.hid (KK.out.go hb21)
        replace HT := Lib.hid (HT.out.go hb21)
        replace B := B.trans (hb21.mono B.size)
        have hce : (c == (0 : Int)) = false := by rw [beq_eq_false_iff_ne]; exact hc0
        clear hb21 p0 p1 p2 p3 pl
        go_upto_region 14 with fail
        refine wp_region_mono (C := Cb w21) (R := Rb) (H := fun _ => Hb w21) [Ty.val 59 (.agg #[.int .i64 l, .int .i64 s, .int .i64 k, .int .u32 (n : Int)]), Ty.val 60 (.int .i64 c), Ty.val 61 (.agg #[.int .i64 l, .int .i64 s, .int .i64 k, .int .u32 (n : Int)]), Ty.val 62 (.int .i64 c), Ty.val 63 (.bool true), Ty.val 64 (.bool true), Ty.val 65 (.agg #[.int .i64 l, .int .i64 s, .int .i64 k, .int .u32 (n : Int)]), Ty.val 66 (.string TX), Ty.val 67 (.agg #[.int .i64 l, .int .i64 s, .int .i64 k, .int .u32 (n : Int)]), Ty.val 68 (.string TX), Ty.val 69 (.bool true), Ty.val 70 (.bool true), Ty.val 71 (.bool true), Ty.val 72 (.agg #[.int .i64 l, .int .i64 s, .int .i64 k, .int .u32 (n : Int)]), Ty.val 73 (.int .i64 0), Ty.val 74 (.int .i64 0), Ty.val 75 (.bool true), Ty.val 76 (.bool true), Ty.val 77 (.bool true), Ty.val 78 (.agg #[.int .i64 l, .int .i64 s, .int .i64 k, .int .u32 (n : Int)]), Ty.val 79 (.int .i64 0), Ty.val 80 (.int .i64 0), Ty.val 81 (.bool true), Ty.val 82 (.bool true), Ty.val 83 (.bool true), Ty.val 84 (.agg #[.int .i64 0, .int .i64 0, .int .i64 0, .int .u32 0]), Ty.val 85 (.agg #[.int .i64 0, .int .i64 0, .int .i64 0, .int .u32 0]), Ty.val 86 (.bool true), Ty.val 87 (.bool true), Ty.val 88 (.bool true), Ty.val 89 (.int .i64 f), Ty.val 90 (.int .i64 f), Ty.val 91 (.bool true), Ty.val 92 (.bool true), Ty.val 2 (.bool true)] (by kernel_rfl) (hC_b w21) (hCH_b w21) (drew_b w21) ⟨trivial, trivial, trivial, trivial, trivial, trivial, trivial, trivial, trivial, trivial, trivial, trivial, trivial, trivial, trivial, trivial, trivial, trivial, trivial, trivial, trivial, trivial, trivial, trivial, trivial, trivial, trivial, trivial, trivial, trivial, trivial, trivial, trivial, trivial, trivial, trivial⟩ (by kernel_rfl) ?_ ?_
        · refine ⟨?_, ?_, ?_, ?_, ?_, ?_, ?_, ?_, ?_, ?_, ?_, ?_, ?_, ?_, ?_, ?_, ?_, ?_, ?_, ?_, ?_, ?_, ?_, ?_, ?_, ?_, ?_, ?_, ?_, ?_, ?_, ?_, ?_, ?_, ?_, trivial⟩
          · intro ac wc hC hsz hfr hd hpr
            have d1 : ac.eval (.tmp 1) = (.pointer (some ⟨gp, 0, none⟩)) := hfr 1 rfl
            rw [if_pos (wanted_none rfl)]
            exact ob_load _ rfl rfl rfl (Nat.lt_of_lt_of_eq (by decide : 59 < 93) hsz.symm) rfl d1 (load_plan10 (KP.out.go hC)) (Below.refl _ _) rfl
          · intro ac wc hC hsz hfr hd hpr
            have d59 : ac.eval (.tmp 59) = (.agg #[.int .i64 l, .int .i64 s, .int .i64 k, .int .u32 (n : Int)]) := hd 0 rfl
            rw [if_pos (wanted_none rfl)]
            refine ob_call rfl rfl rfl (Nat.lt_of_lt_of_eq (by decide : 60 < 93) hsz.symm) rfl (enter_of Tryd.func10 (by kernel_rfl) rfl) ?_
            show Calls Tryd.prog 10 #[ac.eval (.tmp 59)] wc _
            rw [d59]
            exact (HCK.out wc).mono fun _ _ ⟨he, hb⟩ => ⟨_, he, rfl, hb⟩
          · intro ac wc hC hsz hfr hd hpr
            have d3 : ac.eval (.tmp 3) = (.pointer (some ⟨gr, 0, none⟩)) := hfr 3 rfl
            rw [if_pos (wanted_none rfl)]
            exact ob_load _ rfl rfl rfl (Nat.lt_of_lt_of_eq (by decide : 61 < 93) hsz.symm) rfl d3 (load_ref10 (KR.out.go hC)) (Below.refl _ _) rfl
          · intro ac wc hC hsz hfr hd hpr
            have d61 : ac.eval (.tmp 61) = (.agg #[.int .i64 l, .int .i64 s, .int .i64 k, .int .u32 (n : Int)]) := hd 2 rfl
            rw [if_pos (wanted_none rfl)]
            refine ob_call rfl rfl rfl (Nat.lt_of_lt_of_eq (by decide : 62 < 93) hsz.symm) rfl (enter_of Tryd.func9 (by kernel_rfl) rfl) ?_
            show Calls Tryd.prog 9 #[ac.eval (.tmp 61)] wc _
            rw [d61]
            exact (HRC.out wc).mono fun _ _ ⟨he, hb⟩ => ⟨_, he, rfl, hb⟩
          · intro ac wc hC hsz hfr hd hpr
            have d60 : ac.eval (.tmp 60) = (.int .i64 c) := hd 1 rfl
            have d62 : ac.eval (.tmp 62) = (.int .i64 c) := hd 3 rfl
            rw [if_pos (wanted_none rfl)]
            exact ob_bin _ rfl rfl rfl (Nat.lt_of_lt_of_eq (by decide : 63 < 93) hsz.symm) rfl d60 d62 (eql_int (by simp)) (Below.refl _ _) rfl
          · intro ac wc hC hsz hfr hd hpr
            have d63 : ac.eval (.tmp 63) = (.bool true) := hd 4 rfl
            rw [if_pos (wanted_none rfl)]
            exact ob_copy rfl rfl rfl (Nat.lt_of_lt_of_eq (by decide : 64 < 93) hsz.symm) (Or.inl rfl) (Below.refl _ _) d63
          · intro ac wc hC hsz hfr hd hpr
            have d64 : ac.eval (.tmp 64) = (.bool true) := hd 5 rfl
            have d1 : ac.eval (.tmp 1) = (.pointer (some ⟨gp, 0, none⟩)) := hfr 1 rfl
            rw [if_pos (wanted_some rfl (yielded_of rfl d64))]
            exact ob_load _ rfl rfl rfl (Nat.lt_of_lt_of_eq (by decide : 65 < 93) hsz.symm) rfl d1 (load_plan10 (KP.out.go hC)) (Below.refl _ _) rfl
          · intro ac wc hC hsz hfr hd hpr
            have d64 : ac.eval (.tmp 64) = (.bool true) := hd 5 rfl
            have d65 : ac.eval (.tmp 65) = (.agg #[.int .i64 l, .int .i64 s, .int .i64 k, .int .u32 (n : Int)]) := hd 6 rfl
            rw [if_pos (wanted_some rfl (yielded_of rfl d64))]
            refine ob_call rfl rfl rfl (Nat.lt_of_lt_of_eq (by decide : 66 < 93) hsz.symm) rfl (enter_of Tryd.func11 (by kernel_rfl) rfl) ?_
            show Calls Tryd.prog 11 #[ac.eval (.tmp 65)] wc _
            rw [d65]
            exact (HTX.out wc (HT.out.go hC)).mono fun _ _ ⟨he, hb⟩ => ⟨_, he, rfl, hb⟩
          · intro ac wc hC hsz hfr hd hpr
            have d64 : ac.eval (.tmp 64) = (.bool true) := hd 5 rfl
            have d3 : ac.eval (.tmp 3) = (.pointer (some ⟨gr, 0, none⟩)) := hfr 3 rfl
            rw [if_pos (wanted_some rfl (yielded_of rfl d64))]
            exact ob_load _ rfl rfl rfl (Nat.lt_of_lt_of_eq (by decide : 67 < 93) hsz.symm) rfl d3 (load_ref10 (KR.out.go hC)) (Below.refl _ _) rfl
          · intro ac wc hC hsz hfr hd hpr
            have d64 : ac.eval (.tmp 64) = (.bool true) := hd 5 rfl
            have d67 : ac.eval (.tmp 67) = (.agg #[.int .i64 l, .int .i64 s, .int .i64 k, .int .u32 (n : Int)]) := hd 8 rfl
            rw [if_pos (wanted_some rfl (yielded_of rfl d64))]
            refine ob_call rfl rfl rfl (Nat.lt_of_lt_of_eq (by decide : 68 < 93) hsz.symm) rfl (enter_of Tryd.func12 (by kernel_rfl) rfl) ?_
            show Calls Tryd.prog 12 #[ac.eval (.tmp 67)] wc _
            rw [d67]
            exact (HRT.out wc (HT.out.go hC)).mono fun _ _ ⟨he, hb⟩ => ⟨_, he, rfl, hb⟩
          · intro ac wc hC hsz hfr hd hpr
            have d64 : ac.eval (.tmp 64) = (.bool true) := hd 5 rfl
            have d66 : ac.eval (.tmp 66) = (.string TX) := hd 7 rfl
            have d68 : ac.eval (.tmp 68) = (.string TX) := hd 9 rfl
            rw [if_pos (wanted_some rfl (yielded_of rfl d64))]
            exact ob_bin _ rfl rfl rfl (Nat.lt_of_lt_of_eq (by decide : 69 < 93) hsz.symm) rfl d66 d68 (eql_str10 TX) (Below.refl _ _) rfl
          · intro ac wc hC hsz hfr hd hpr
            have d64 : ac.eval (.tmp 64) = (.bool true) := hd 5 rfl
            have d69 : ac.eval (.tmp 69) = (.bool true) := hd 10 rfl
            rw [if_pos (wanted_none rfl)]
            exact ob_pick rfl rfl rfl (Nat.lt_of_lt_of_eq (by decide : 70 < 93) hsz.symm) rfl d64 (Below.refl _ _) d69
          · intro ac wc hC hsz hfr hd hpr
            have d70 : ac.eval (.tmp 70) = (.bool true) := hd 11 rfl
            rw [if_pos (wanted_none rfl)]
            exact ob_copy rfl rfl rfl (Nat.lt_of_lt_of_eq (by decide : 71 < 93) hsz.symm) (Or.inl rfl) (Below.refl _ _) d70
          · intro ac wc hC hsz hfr hd hpr
            have d71 : ac.eval (.tmp 71) = (.bool true) := hd 12 rfl
            have d1 : ac.eval (.tmp 1) = (.pointer (some ⟨gp, 0, none⟩)) := hfr 1 rfl
            rw [if_pos (wanted_some rfl (yielded_of rfl d71))]
            exact ob_load _ rfl rfl rfl (Nat.lt_of_lt_of_eq (by decide : 72 < 93) hsz.symm) rfl d1 (load_plan10 (KP.out.go hC)) (Below.refl _ _) rfl
          · intro ac wc hC hsz hfr hd hpr
            have d71 : ac.eval (.tmp 71) = (.bool true) := hd 12 rfl
            have d72 : ac.eval (.tmp 72) = (.agg #[.int .i64 l, .int .i64 s, .int .i64 k, .int .u32 (n : Int)]) := hd 13 rfl
            rw [if_pos (wanted_some rfl (yielded_of rfl d71))]
            refine ob_call rfl rfl rfl (Nat.lt_of_lt_of_eq (by decide : 73 < 93) hsz.symm) rfl (enter_of Tryd.func13 (by kernel_rfl) rfl) ?_
            show Calls Tryd.prog 13 #[ac.eval (.tmp 72)] wc _
            rw [d72]
            exact (HRM.out wc).mono fun _ _ ⟨he, hb⟩ => ⟨_, he, rfl, hb⟩
          · intro ac wc hC hsz hfr hd hpr
            have d71 : ac.eval (.tmp 71) = (.bool true) := hd 12 rfl
            have d8 : ac.eval (.tmp 8) = (.int .i64 0) := hfr 8 rfl
            rw [if_pos (wanted_some rfl (yielded_of rfl d71))]
            exact ob_copy rfl rfl rfl (Nat.lt_of_lt_of_eq (by decide : 74 < 93) hsz.symm) (Or.inl rfl) (Below.refl _ _) d8
          · intro ac wc hC hsz hfr hd hpr
            have d71 : ac.eval (.tmp 71) = (.bool true) := hd 12 rfl
            have d73 : ac.eval (.tmp 73) = (.int .i64 0) := hd 14 rfl
            have d74 : ac.eval (.tmp 74) = (.int .i64 0) := hd 15 rfl
            rw [if_pos (wanted_some rfl (yielded_of rfl d71))]
            exact ob_bin _ rfl rfl rfl (Nat.lt_of_lt_of_eq (by decide : 75 < 93) hsz.symm) rfl d73 d74 (eql_int (by simp)) (Below.refl _ _) rfl
          · intro ac wc hC hsz hfr hd hpr
            have d71 : ac.eval (.tmp 71) = (.bool true) := hd 12 rfl
            have d75 : ac.eval (.tmp 75) = (.bool true) := hd 16 rfl
            rw [if_pos (wanted_none rfl)]
            exact ob_pick rfl rfl rfl (Nat.lt_of_lt_of_eq (by decide : 76 < 93) hsz.symm) rfl d71 (Below.refl _ _) d75
          · intro ac wc hC hsz hfr hd hpr
            have d76 : ac.eval (.tmp 76) = (.bool true) := hd 17 rfl
            rw [if_pos (wanted_none rfl)]
            exact ob_copy rfl rfl rfl (Nat.lt_of_lt_of_eq (by decide : 77 < 93) hsz.symm) (Or.inl rfl) (Below.refl _ _) d76
          · intro ac wc hC hsz hfr hd hpr
            have d77 : ac.eval (.tmp 77) = (.bool true) := hd 18 rfl
            have d1 : ac.eval (.tmp 1) = (.pointer (some ⟨gp, 0, none⟩)) := hfr 1 rfl
            rw [if_pos (wanted_some rfl (yielded_of rfl d77))]
            exact ob_load _ rfl rfl rfl (Nat.lt_of_lt_of_eq (by decide : 78 < 93) hsz.symm) rfl d1 (load_plan10 (KP.out.go hC)) (Below.refl _ _) rfl
          · intro ac wc hC hsz hfr hd hpr
            have d77 : ac.eval (.tmp 77) = (.bool true) := hd 18 rfl
            have d78 : ac.eval (.tmp 78) = (.agg #[.int .i64 l, .int .i64 s, .int .i64 k, .int .u32 (n : Int)]) := hd 19 rfl
            rw [if_pos (wanted_some rfl (yielded_of rfl d77))]
            refine ob_call rfl rfl rfl (Nat.lt_of_lt_of_eq (by decide : 79 < 93) hsz.symm) rfl (enter_of Tryd.func14 (by kernel_rfl) rfl) ?_
            show Calls Tryd.prog 14 #[ac.eval (.tmp 78)] wc _
            rw [d78]
            exact (HPD.out wc).mono fun _ _ ⟨he, hb⟩ => ⟨_, he, rfl, hb⟩
          · intro ac wc hC hsz hfr hd hpr
            have d77 : ac.eval (.tmp 77) = (.bool true) := hd 18 rfl
            have d9 : ac.eval (.tmp 9) = (.int .i64 0) := hfr 9 rfl
            rw [if_pos (wanted_some rfl (yielded_of rfl d77))]
            exact ob_copy rfl rfl rfl (Nat.lt_of_lt_of_eq (by decide : 80 < 93) hsz.symm) (Or.inl rfl) (Below.refl _ _) d9
          · intro ac wc hC hsz hfr hd hpr
            have d77 : ac.eval (.tmp 77) = (.bool true) := hd 18 rfl
            have d79 : ac.eval (.tmp 79) = (.int .i64 0) := hd 20 rfl
            have d80 : ac.eval (.tmp 80) = (.int .i64 0) := hd 21 rfl
            rw [if_pos (wanted_some rfl (yielded_of rfl d77))]
            exact ob_bin _ rfl rfl rfl (Nat.lt_of_lt_of_eq (by decide : 81 < 93) hsz.symm) rfl d79 d80 (eql_int (by simp)) (Below.refl _ _) rfl
          · intro ac wc hC hsz hfr hd hpr
            have d77 : ac.eval (.tmp 77) = (.bool true) := hd 18 rfl
            have d81 : ac.eval (.tmp 81) = (.bool true) := hd 22 rfl
            rw [if_pos (wanted_none rfl)]
            exact ob_pick rfl rfl rfl (Nat.lt_of_lt_of_eq (by decide : 82 < 93) hsz.symm) rfl d77 (Below.refl _ _) d81
          · intro ac wc hC hsz hfr hd hpr
            have d82 : ac.eval (.tmp 82) = (.bool true) := hd 23 rfl
            rw [if_pos (wanted_none rfl)]
            exact ob_copy rfl rfl rfl (Nat.lt_of_lt_of_eq (by decide : 83 < 93) hsz.symm) (Or.inl rfl) (Below.refl _ _) d82
          · intro ac wc hC hsz hfr hd hpr
            have d83 : ac.eval (.tmp 83) = (.bool true) := hd 24 rfl
            have d4 : ac.eval (.tmp 4) = (.pointer (some ⟨gq, 0, none⟩)) := hfr 4 rfl
            rw [if_pos (wanted_some rfl (yielded_of rfl d83))]
            exact ob_load _ rfl rfl rfl (Nat.lt_of_lt_of_eq (by decide : 84 < 93) hsz.symm) rfl d4 (load_plan10 (KQ.out.go hC)) (Below.refl _ _) rfl
          · intro ac wc hC hsz hfr hd hpr
            have d83 : ac.eval (.tmp 83) = (.bool true) := hd 24 rfl
            have d6 : ac.eval (.tmp 6) = (.pointer (some ⟨gk, 0, none⟩)) := hfr 6 rfl
            rw [if_pos (wanted_some rfl (yielded_of rfl d83))]
            exact ob_load _ rfl rfl rfl (Nat.lt_of_lt_of_eq (by decide : 85 < 93) hsz.symm) rfl d6 (load_ref10 (KK.out.go hC)) (Below.refl _ _) rfl
          · intro ac wc hC hsz hfr hd hpr
            have d83 : ac.eval (.tmp 83) = (.bool true) := hd 24 rfl
            have d84 : ac.eval (.tmp 84) = (.agg #[.int .i64 0, .int .i64 0, .int .i64 0, .int .u32 0]) := hd 25 rfl
            have d85 : ac.eval (.tmp 85) = (.agg #[.int .i64 0, .int .i64 0, .int .i64 0, .int .u32 0]) := hd 26 rfl
            rw [if_pos (wanted_some rfl (yielded_of rfl d83))]
            exact ob_bin _ rfl rfl rfl (Nat.lt_of_lt_of_eq (by decide : 86 < 93) hsz.symm) rfl d84 d85 (eql_plan10 _ _ _ _) (Below.refl _ _) rfl
          · intro ac wc hC hsz hfr hd hpr
            have d83 : ac.eval (.tmp 83) = (.bool true) := hd 24 rfl
            have d86 : ac.eval (.tmp 86) = (.bool true) := hd 27 rfl
            rw [if_pos (wanted_none rfl)]
            exact ob_pick rfl rfl rfl (Nat.lt_of_lt_of_eq (by decide : 87 < 93) hsz.symm) rfl d83 (Below.refl _ _) d86
          · intro ac wc hC hsz hfr hd hpr
            have d87 : ac.eval (.tmp 87) = (.bool true) := hd 28 rfl
            rw [if_pos (wanted_none rfl)]
            exact ob_copy rfl rfl rfl (Nat.lt_of_lt_of_eq (by decide : 88 < 93) hsz.symm) (Or.inl rfl) (Below.refl _ _) d87
          · intro ac wc hC hsz hfr hd hpr
            have d88 : ac.eval (.tmp 88) = (.bool true) := hd 29 rfl
            have d5 : ac.eval (.tmp 5) = (.int .i64 f) := hfr 5 rfl
            rw [if_pos (wanted_some rfl (yielded_of rfl d88))]
            exact ob_copy rfl rfl rfl (Nat.lt_of_lt_of_eq (by decide : 89 < 93) hsz.symm) (Or.inl rfl) (Below.refl _ _) d5
          · intro ac wc hC hsz hfr hd hpr
            have d88 : ac.eval (.tmp 88) = (.bool true) := hd 29 rfl
            have d7 : ac.eval (.tmp 7) = (.int .i64 f) := hfr 7 rfl
            rw [if_pos (wanted_some rfl (yielded_of rfl d88))]
            exact ob_copy rfl rfl rfl (Nat.lt_of_lt_of_eq (by decide : 90 < 93) hsz.symm) (Or.inl rfl) (Below.refl _ _) d7
          · intro ac wc hC hsz hfr hd hpr
            have d88 : ac.eval (.tmp 88) = (.bool true) := hd 29 rfl
            have d89 : ac.eval (.tmp 89) = (.int .i64 f) := hd 30 rfl
            have d90 : ac.eval (.tmp 90) = (.int .i64 f) := hd 31 rfl
            rw [if_pos (wanted_some rfl (yielded_of rfl d88))]
            exact ob_bin _ rfl rfl rfl (Nat.lt_of_lt_of_eq (by decide : 91 < 93) hsz.symm) rfl d89 d90 (eql_int (by simp)) (Below.refl _ _) rfl
          · intro ac wc hC hsz hfr hd hpr
            have d88 : ac.eval (.tmp 88) = (.bool true) := hd 29 rfl
            have d91 : ac.eval (.tmp 91) = (.bool true) := hd 32 rfl
            rw [if_pos (wanted_none rfl)]
            exact ob_pick rfl rfl rfl (Nat.lt_of_lt_of_eq (by decide : 92 < 93) hsz.symm) rfl d88 (Below.refl _ _) d91
          · intro ac wc hC hsz hfr hd hpr
            have d92 : ac.eval (.tmp 92) = (.bool true) := hd 33 rfl
            rw [if_pos (wanted_none rfl)]
            exact ob_copy rfl rfl rfl (Nat.lt_of_lt_of_eq (by decide : 2 < 93) hsz.symm) (Or.inr rfl) (Below.refl _ _) d92
        intro a' W20 hC hdef hsz hfr hd
        have e59 : a'.eval (.tmp 59) = (.agg #[.int .i64 l, .int .i64 s, .int .i64 k, .int .u32 (n : Int)]) := hd 0 (by decide)
        have e60 : a'.eval (.tmp 60) = (.int .i64 c) := hd 1 (by decide)
        have e61 : a'.eval (.tmp 61) = (.agg #[.int .i64 l, .int .i64 s, .int .i64 k, .int .u32 (n : Int)]) := hd 2 (by decide)
        have e62 : a'.eval (.tmp 62) = (.int .i64 c) := hd 3 (by decide)
        have e63 : a'.eval (.tmp 63) = (.bool true) := hd 4 (by decide)
        have e64 : a'.eval (.tmp 64) = (.bool true) := hd 5 (by decide)
        have e65 : a'.eval (.tmp 65) = (.agg #[.int .i64 l, .int .i64 s, .int .i64 k, .int .u32 (n : Int)]) := hd 6 (by decide)
        have e66 : a'.eval (.tmp 66) = (.string TX) := hd 7 (by decide)
        have e67 : a'.eval (.tmp 67) = (.agg #[.int .i64 l, .int .i64 s, .int .i64 k, .int .u32 (n : Int)]) := hd 8 (by decide)
        have e68 : a'.eval (.tmp 68) = (.string TX) := hd 9 (by decide)
        have e69 : a'.eval (.tmp 69) = (.bool true) := hd 10 (by decide)
        have e70 : a'.eval (.tmp 70) = (.bool true) := hd 11 (by decide)
        have e71 : a'.eval (.tmp 71) = (.bool true) := hd 12 (by decide)
        have e72 : a'.eval (.tmp 72) = (.agg #[.int .i64 l, .int .i64 s, .int .i64 k, .int .u32 (n : Int)]) := hd 13 (by decide)
        have e73 : a'.eval (.tmp 73) = (.int .i64 0) := hd 14 (by decide)
        have e74 : a'.eval (.tmp 74) = (.int .i64 0) := hd 15 (by decide)
        have e75 : a'.eval (.tmp 75) = (.bool true) := hd 16 (by decide)
        have e76 : a'.eval (.tmp 76) = (.bool true) := hd 17 (by decide)
        have e77 : a'.eval (.tmp 77) = (.bool true) := hd 18 (by decide)
        have e78 : a'.eval (.tmp 78) = (.agg #[.int .i64 l, .int .i64 s, .int .i64 k, .int .u32 (n : Int)]) := hd 19 (by decide)
        have e79 : a'.eval (.tmp 79) = (.int .i64 0) := hd 20 (by decide)
        have e80 : a'.eval (.tmp 80) = (.int .i64 0) := hd 21 (by decide)
        have e81 : a'.eval (.tmp 81) = (.bool true) := hd 22 (by decide)
        have e82 : a'.eval (.tmp 82) = (.bool true) := hd 23 (by decide)
        have e83 : a'.eval (.tmp 83) = (.bool true) := hd 24 (by decide)
        have e84 : a'.eval (.tmp 84) = (.agg #[.int .i64 0, .int .i64 0, .int .i64 0, .int .u32 0]) := hd 25 (by decide)
        have e85 : a'.eval (.tmp 85) = (.agg #[.int .i64 0, .int .i64 0, .int .i64 0, .int .u32 0]) := hd 26 (by decide)
        have e86 : a'.eval (.tmp 86) = (.bool true) := hd 27 (by decide)
        have e87 : a'.eval (.tmp 87) = (.bool true) := hd 28 (by decide)
        have e88 : a'.eval (.tmp 88) = (.bool true) := hd 29 (by decide)
        have e89 : a'.eval (.tmp 89) = (.int .i64 f) := hd 30 (by decide)
        have e90 : a'.eval (.tmp 90) = (.int .i64 f) := hd 31 (by decide)
        have e91 : a'.eval (.tmp 91) = (.bool true) := hd 32 (by decide)
        have e92 : a'.eval (.tmp 92) = (.bool true) := hd 33 (by decide)
        have e2 : a'.eval (.tmp 2) = (.bool true) := hd 34 (by decide)
        have hact := act_puts hdef hsz hfr
        simp only [dstsOf, List.filterMap, putAll, Act.put, List.setIfInBounds_toArray, List.set_cons_succ, List.set_cons_zero, e59, e60, e61, e62, e63, e64, e65, e66, e67, e68, e69, e70, e71, e72, e73, e74, e75, e76, e77, e78, e79, e80, e81, e82, e83, e84, e85, e86, e87, e88, e89, e90, e91, e92, e2] at hact
        clear hd hfr hsz hdef e59 e60 e61 e62 e63 e64 e65 e66 e67 e68 e69 e70 e71 e72 e73 e74 e75 e76 e77 e78 e79 e80 e81 e82 e83 e84 e85 e86 e87 e88 e89 e90 e91 e92 e2
        subst hact
        replace B := B.trans (hC.mono B.size)
        clear hC
        go_wp2_with fail
        go_ret
        exact ⟨rfl, B⟩
    · skip
      go_enter Tryd.func3, Tryd.ntmps3
      go_wp2_with fail
      obtain ⟨B, hk1, hs⟩ := blocks1 w #[.int .i64 l, .int .i64 s, .int .i64 k, .int .u32 (n : Int)] 24
      generalize (w.alloc (.cells #[.int .i64 l, .int .i64 s, .int .i64 k, .int .u32 (n : Int)] 24)) = W at *
      have K1 := Lib.hid hk1
      have HS := Lib.hid hs
      clear hs hk1
      replace HT := Lib.hid (HT.out.go B)
      have hzW := B.size
      refine (awake10_any _).mono ?_
      rintro e w1 ⟨rfl, hb⟩
      replace K1 := Lib.hid (K1.out.go hb)
      replace HT := Lib.hid (HT.out.go hb)
      replace B := B.trans (hb.mono B.size)
      have hzw1 := B.size
      clear hb
      obtain ⟨p0, p1, p2, p3⟩ := K1.out.four
      have pl := K1.out.lt
      go_wp2_with fail
      clear p0 p1 p2 p3 pl
      obtain ⟨gr, hgr⟩ : ∃ g : Nat, g = w1.heap.size := ⟨_, rfl⟩
      have HGR := Lib.hid (show w.heap.size < gr by rw [hgr]; exact K1.out.lt)
      obtain ⟨hb, hk, hs⟩ := blocks1 w1 #[.int .i64 l, .int .i64 s, .int .i64 k, .int .u32 (n : Int)] 26
      generalize w1.alloc (.cells #[.int .i64 l, .int .i64 s, .int .i64 k, .int .u32 (n : Int)] 26) = W2 at *
      have KR := Lib.hid hk
      replace K1 := Lib.hid (K1.out.go hb)
      replace HT := Lib.hid (HT.out.go hb)
      replace B := B.trans (hb.mono B.size)
      have hzW2 := B.size
      clear hb hk hs
      rw [← hgr] at KR
      simp only [← hgr]
      clear hgr
      refine (HOF.out _).mono ?_
      rintro e w3 ⟨rfl, hb⟩
      replace K1 := Lib.hid (K1.out.go hb)
      replace KR := Lib.hid (KR.out.go hb)
      replace HT := Lib.hid (HT.out.go hb)
      replace B := B.trans (hb.mono B.size)
      have hzw3 := B.size
      clear hb
      obtain ⟨p0, p1, p2, p3⟩ := KR.out.four
      have pl := KR.out.lt
      go_upto_region 6 with fail
      clear p0 p1 p2 p3 pl
      have KP := K1
      have B1 := B
      have HG4 := Lib.hid (show gr < w3.heap.size from KR.out.lt)
      clear B K1
      obtain ⟨B, hk1, hk2, hs⟩ := blocks2 w3 #[.int .i64 (okV f l), .int .i64 (okV f s), .int .i64 (okV f m), .int .u32 (okV f (n : Int))] 24 #[.int .i64 l, .int .i64 s, .int .i64 k, .int .u32 (n : Int)] 26
      generalize ((w3.alloc (.cells #[.int .i64 (okV f l), .int .i64 (okV f s), .int .i64 (okV f m), .int .u32 (okV f (n : Int))] 24)).alloc (.cells #[.int .i64 l, .int .i64 s, .int .i64 k, .int .u32 (n : Int)] 26)) = W4 at *
      have K1 := Lib.hid hk1
      have K2 := Lib.hid hk2
      have HS := Lib.hid hs
      clear hs hk1 hk2
      replace KP := Lib.hid (KP.out.go B)
      replace KR := Lib.hid (KR.out.go B)
      replace HT := Lib.hid (HT.out.go B)
      have hzW4 := B.size
      replace B := B1.trans (B.mono B1.size)
      obtain ⟨gq, hgq⟩ : ∃ g : Nat, g = w3.heap.size := ⟨_, rfl⟩
      rw [← hgq] at K1 K2 HG4
      simp only [← hgq]
      obtain ⟨gk, hgk⟩ : ∃ g : Nat, g = gq + 1 := ⟨_, rfl⟩
      rw [← hgk] at K2
      simp only [← hgk]
      have HGK := Lib.hid hgk
      clear hgq hgk HS B1
      obtain ⟨gp, hgp⟩ : ∃ g : Nat, g = w.heap.size := ⟨_, rfl⟩
      have HGP := Lib.hid hgp
      rw [← hgp] at KP HGR
      simp only [← hgp]
      clear hgp
      obtain ⟨p0, p1, p2, p3⟩ := KR.out.four
      have pl := KR.out.lt
      obtain ⟨q0, q1, q2, q3⟩ := K2.out.four
      have ql := K2.out.lt
      go_wp2_with fail
      clear p0 p1 p2 p3 pl q0 q1 q2 q3 ql
      refine (refcheck_any l s k _ _ (by omega) ⟨n, rfl⟩).mono ?_
      rintro e w6 ⟨rfl, hb⟩
      replace KP := Lib.hid (KP.out.go hb)
      replace KR := Lib.hid (KR.out.go hb)
      replace K1 := Lib.hid (K1.out.go hb)
      replace K2 := Lib.hid (K2.out.go hb)
      replace HT := Lib.hid (HT.out.go hb)
      replace B := B.trans (hb.mono B.size)
      have hzw6 := B.size
      clear hb
      rw [HCU.out, ← HF.out]
      have hf0 := HFZ.out
      have hfe : (f != (0 : Int)) = true := by rw [bne_iff_ne]; exact hf0
      have KQ := Lib.hid (show Blk w6 gq #[.int .i64 0, .int .i64 0, .int .i64 0, .int .u32 0] 24 by
        have h := K1.out
        simpa [okV, hf0] using h)
      have KS := K2
      clear hf0 K1 K2
      obtain ⟨q0, q1, q2, q3⟩ := KS.out.four
      have ql := KS.out.lt
      have r0 := KS.out.free 0
      have r1 := KS.out.free 1
      have r2 := KS.out.free 2
      have r3 := KS.out.free 3
      go_upto_region 12 with fail
      clear q0 q1 q2 q3 ql r0 r1 r2 r3
      obtain ⟨hk7, hg7⟩ := set4 KS.out (.int .i64 0) (.int .i64 0) (.int .i64 0) (.int .u32 0)
      have hle1 : gp < gr := by have := HGR.out; have := HGP.out; omega
      have hle2 := HG4.out
      have hle3 := HGK.out
      have HB7 := Lib.hid (below_grown B hg7 B.size (by have := HGP.out; omega))
      have KP7 := Lib.hid (KP.out.grown hg7 (by simp; omega))
      have KR7 := Lib.hid (KR.out.grown hg7 (by simp; omega))
      have KQ7 := Lib.hid (KQ.out.grown hg7 (by simp; omega))
      have HT7 := Lib.hid (HT0.out.go HB7.out)
      have KK := Lib.hid hk7
      clear hk7 hg7 hle1 hle2 hle3 KS KP KR KQ HT B
      generalize (((w6.setCell ⟨gk, 0, none⟩ (.int .i64 0)).setCell ⟨gk, 1, none⟩ (.int .i64 0)).setCell ⟨gk, 2, none⟩ (.int .i64 0)).setCell ⟨gk, 3, none⟩ (.int .u32 0) = W7 at *
      have KP := KP7
      have KR := KR7
      have KQ := KQ7
      have HT := HT7
      have B := HB7.out
      clear KP7 KR7 KQ7 HT7 HB7
      obtain ⟨p0, p1, p2, p3⟩ := KR.out.four
      have pl := KR.out.lt
      have HCK := Lib.hid (fun w => check_any l s k (n : Int) w (by omega) (by omega) (by omega))
      have HRC := Lib.hid (fun w => refcheck_any l s k _ w (by omega) ⟨n, rfl⟩)
      have HTX := Lib.hid (fun w hT => text10_any l s k n w (by omega) (by omega) (by omega) hn hT)
      have HRT := Lib.hid (fun w hT => reftext10_any l s k n w (by omega) hn hT)
      have HRM := Lib.hid (fun w => room_any l s k (n : Int) w (by omega) (by omega) (by omega))
      have HPD := Lib.hid (fun w => pad_any l s k (n : Int) w (by omega) (by omega) (by omega))
      unfold roomI at HRM
      unfold padI at HPD
      unfold planV at HTX HRM HPD
      obtain ⟨TX, hTX⟩ : ∃ TX, TX = strOf (textL l s k (n : Int)) := ⟨_, rfl⟩
      rw [← hTX] at HTX HRT
      clear hTX
      by_cases hc0 : checkE l s k = 0
      · obtain ⟨c1, c2, c3, c4, c5, -, c6⟩ := check_ok10 hc0
        rw [hc0] at HCK HRC
        rw [if_pos hc0] at HRM HPD
        obtain ⟨c, hc⟩ : ∃ c : Int, c = 0 := ⟨_, rfl⟩
        have HZ := Lib.hid hc
        rw [← hc] at HCK HRC
        obtain ⟨ll, hll⟩ : ∃ ll : Nat, ll = (l).toNat := ⟨_, rfl⟩
        obtain ⟨ss, hss⟩ : ∃ ss : Nat, ss = (s).toNat := ⟨_, rfl⟩
        obtain ⟨kk, hkk⟩ : ∃ kk : Nat, kk = k.toNat := ⟨_, rfl⟩
        have e1 : l = (ll : Int) := by omega
        have e2 : s = (ss : Int) := by omega
        have e3 : k = (kk : Int) := by omega
        obtain ⟨r, hr⟩ : ∃ r, r = kk * ss := ⟨_, rfl⟩
        have hri : (ss : Int) * (kk : Int) = (r : Int) := by rw [hr, Int.mul_comm]; simp
        have hri2 : k * s = (r : Int) := by rw [e2, e3, Int.mul_comm]; exact hri
        have hr2 : r ≤ 4096 * 65535 := by rw [hr]; exact Nat.mul_le_mul (by omega) (by omega)
        rw [hri2] at HRM HPD c6
        have HRI := Lib.hid (show s * k = (r : Int) by rw [e2, e3]; exact hri)
        obtain ⟨pd, hpd⟩ : ∃ pd, pd = r - ll := ⟨_, rfl⟩
        have hpdi : (r : Int) - l = (pd : Int) := by omega
        rw [hpdi] at HPD
        have HPI := Lib.hid hpdi
        have hpd2 : pd ≤ r := by omega
        clear e1 e2 e3 hr hri hri2 hll hss hkk hpd hpdi hc0 c6
        go_wp2_with fail
        refine (HRC.out _).mono ?_
        rintro e w21 ⟨rfl, hb21⟩
        replace KP := Lib.hid (KP.out.go hb21)
        replace KR := Lib.hid (KR.out.go hb21)
        replace KQ := Lib.hid (KQ.out.go hb21)
        replace KK := Lib.hid (KK.out.go hb21)
        replace HT := Lib.hid (HT.out.go hb21)
        replace B := B.trans (hb21.mono B.size)
        have hce : (c == (0 : Int)) = true := by rw [hc]; rfl
        clear hb21 p0 p1 p2 p3 pl hc
        go_upto_region 13 with fail
        refine wp_region_mono (C := Cb w21) (R := Rb) (H := fun _ => Hb w21) [Ty.val 46 (.pointer (some ⟨gr, 1, none⟩)), Ty.val 47 (.int .i64 s), Ty.val 48 (.pointer (some ⟨gr, 2, none⟩)), Ty.val 49 (.int .i64 k), Ty.val 50 (.int .i64 (r : Int)), Ty.val 51 (.pointer (some ⟨gr, 1, none⟩)), Ty.val 52 (.int .i64 s), Ty.val 53 (.pointer (some ⟨gr, 2, none⟩)), Ty.val 54 (.int .i64 k), Ty.val 55 (.int .i64 (r : Int)), Ty.val 56 (.pointer (some ⟨gr, 0, none⟩)), Ty.val 57 (.int .i64 l), Ty.val 58 (.int .i64 (pd : Int)), Ty.val 8 (.int .i64 (r : Int)), Ty.val 9 (.int .i64 (pd : Int))] (by kernel_rfl) (hC_b w21) (hCH_b w21) (drew_b w21) ⟨trivial, trivial, trivial, trivial, trivial, trivial, trivial, trivial, trivial, trivial, trivial, trivial, trivial, trivial, trivial, trivial⟩ (by kernel_rfl) ?_ ?_
        · refine ⟨?_, ?_, ?_, ?_, ?_, ?_, ?_, ?_, ?_, ?_, ?_, ?_, ?_, ?_, ?_, trivial⟩
          · intro ac wc hC hsz hfr hd hpr
            have d3 : ac.eval (.tmp 3) = (.pointer (some ⟨gr, 0, none⟩)) := hfr 3 rfl
            rw [if_pos (wanted_none rfl)]
            exact ob_field _ rfl rfl rfl (Nat.lt_of_lt_of_eq (by decide : 46 < 93) hsz.symm) rfl d3 (fun w => by go_simp) (Below.refl _ _) rfl
          · intro ac wc hC hsz hfr hd hpr
            have d46 : ac.eval (.tmp 46) = (.pointer (some ⟨gr, 1, none⟩)) := hd 0 rfl
            rw [if_pos (wanted_none rfl)]
            exact ob_load _ rfl rfl rfl (Nat.lt_of_lt_of_eq (by decide : 47 < 93) hsz.symm) rfl d46 (load_int ((KR.out.go hC).cell 1)) (Below.refl _ _) rfl
          · intro ac wc hC hsz hfr hd hpr
            have d3 : ac.eval (.tmp 3) = (.pointer (some ⟨gr, 0, none⟩)) := hfr 3 rfl
            rw [if_pos (wanted_none rfl)]
            exact ob_field _ rfl rfl rfl (Nat.lt_of_lt_of_eq (by decide : 48 < 93) hsz.symm) rfl d3 (fun w => by go_simp) (Below.refl _ _) rfl
          · intro ac wc hC hsz hfr hd hpr
            have d48 : ac.eval (.tmp 48) = (.pointer (some ⟨gr, 2, none⟩)) := hd 2 rfl
            rw [if_pos (wanted_none rfl)]
            exact ob_load _ rfl rfl rfl (Nat.lt_of_lt_of_eq (by decide : 49 < 93) hsz.symm) rfl d48 (load_int ((KR.out.go hC).cell 2)) (Below.refl _ _) rfl
          · intro ac wc hC hsz hfr hd hpr
            have d47 : ac.eval (.tmp 47) = (.int .i64 s) := hd 1 rfl
            have d49 : ac.eval (.tmp 49) = (.int .i64 k) := hd 3 rfl
            rw [if_pos (wanted_none rfl)]
            exact ob_bin _ rfl rfl rfl (Nat.lt_of_lt_of_eq (by decide : 50 < 93) hsz.symm) rfl d47 d49 (mul_int10 HRI.out (by omega)) (Below.refl _ _) rfl
          · intro ac wc hC hsz hfr hd hpr
            have d3 : ac.eval (.tmp 3) = (.pointer (some ⟨gr, 0, none⟩)) := hfr 3 rfl
            rw [if_pos (wanted_none rfl)]
            exact ob_field _ rfl rfl rfl (Nat.lt_of_lt_of_eq (by decide : 51 < 93) hsz.symm) rfl d3 (fun w => by go_simp) (Below.refl _ _) rfl
          · intro ac wc hC hsz hfr hd hpr
            have d51 : ac.eval (.tmp 51) = (.pointer (some ⟨gr, 1, none⟩)) := hd 5 rfl
            rw [if_pos (wanted_none rfl)]
            exact ob_load _ rfl rfl rfl (Nat.lt_of_lt_of_eq (by decide : 52 < 93) hsz.symm) rfl d51 (load_int ((KR.out.go hC).cell 1)) (Below.refl _ _) rfl
          · intro ac wc hC hsz hfr hd hpr
            have d3 : ac.eval (.tmp 3) = (.pointer (some ⟨gr, 0, none⟩)) := hfr 3 rfl
            rw [if_pos (wanted_none rfl)]
            exact ob_field _ rfl rfl rfl (Nat.lt_of_lt_of_eq (by decide : 53 < 93) hsz.symm) rfl d3 (fun w => by go_simp) (Below.refl _ _) rfl
          · intro ac wc hC hsz hfr hd hpr
            have d53 : ac.eval (.tmp 53) = (.pointer (some ⟨gr, 2, none⟩)) := hd 7 rfl
            rw [if_pos (wanted_none rfl)]
            exact ob_load _ rfl rfl rfl (Nat.lt_of_lt_of_eq (by decide : 54 < 93) hsz.symm) rfl d53 (load_int ((KR.out.go hC).cell 2)) (Below.refl _ _) rfl
          · intro ac wc hC hsz hfr hd hpr
            have d52 : ac.eval (.tmp 52) = (.int .i64 s) := hd 6 rfl
            have d54 : ac.eval (.tmp 54) = (.int .i64 k) := hd 8 rfl
            rw [if_pos (wanted_none rfl)]
            exact ob_bin _ rfl rfl rfl (Nat.lt_of_lt_of_eq (by decide : 55 < 93) hsz.symm) rfl d52 d54 (mul_int10 HRI.out (by omega)) (Below.refl _ _) rfl
          · intro ac wc hC hsz hfr hd hpr
            have d3 : ac.eval (.tmp 3) = (.pointer (some ⟨gr, 0, none⟩)) := hfr 3 rfl
            rw [if_pos (wanted_none rfl)]
            exact ob_field _ rfl rfl rfl (Nat.lt_of_lt_of_eq (by decide : 56 < 93) hsz.symm) rfl d3 (fun w => by go_simp) (Below.refl _ _) rfl
          · intro ac wc hC hsz hfr hd hpr
            have d56 : ac.eval (.tmp 56) = (.pointer (some ⟨gr, 0, none⟩)) := hd 10 rfl
            rw [if_pos (wanted_none rfl)]
            exact ob_load _ rfl rfl rfl (Nat.lt_of_lt_of_eq (by decide : 57 < 93) hsz.symm) rfl d56 (load_int ((KR.out.go hC).cell 0)) (Below.refl _ _) rfl
          · intro ac wc hC hsz hfr hd hpr
            have d55 : ac.eval (.tmp 55) = (.int .i64 (r : Int)) := hd 9 rfl
            have d57 : ac.eval (.tmp 57) = (.int .i64 l) := hd 11 rfl
            rw [if_pos (wanted_none rfl)]
            exact ob_bin _ rfl rfl rfl (Nat.lt_of_lt_of_eq (by decide : 58 < 93) hsz.symm) rfl d55 d57 (sub_intZ HPI.out (by omega)) (Below.refl _ _) rfl
          · intro ac wc hC hsz hfr hd hpr
            have d50 : ac.eval (.tmp 50) = (.int .i64 (r : Int)) := hd 4 rfl
            rw [if_pos (wanted_none rfl)]
            exact ob_copy rfl rfl rfl (Nat.lt_of_lt_of_eq (by decide : 8 < 93) hsz.symm) (Or.inr rfl) (Below.refl _ _) d50
          · intro ac wc hC hsz hfr hd hpr
            have d58 : ac.eval (.tmp 58) = (.int .i64 (pd : Int)) := hd 12 rfl
            rw [if_pos (wanted_none rfl)]
            exact ob_copy rfl rfl rfl (Nat.lt_of_lt_of_eq (by decide : 9 < 93) hsz.symm) (Or.inr rfl) (Below.refl _ _) d58
        intro a' w22 hC hdef hsz hfr hd
        have e46 : a'.eval (.tmp 46) = (.pointer (some ⟨gr, 1, none⟩)) := hd 0 (by decide)
        have e47 : a'.eval (.tmp 47) = (.int .i64 s) := hd 1 (by decide)
        have e48 : a'.eval (.tmp 48) = (.pointer (some ⟨gr, 2, none⟩)) := hd 2 (by decide)
        have e49 : a'.eval (.tmp 49) = (.int .i64 k) := hd 3 (by decide)
        have e50 : a'.eval (.tmp 50) = (.int .i64 (r : Int)) := hd 4 (by decide)
        have e51 : a'.eval (.tmp 51) = (.pointer (some ⟨gr, 1, none⟩)) := hd 5 (by decide)
        have e52 : a'.eval (.tmp 52) = (.int .i64 s) := hd 6 (by decide)
        have e53 : a'.eval (.tmp 53) = (.pointer (some ⟨gr, 2, none⟩)) := hd 7 (by decide)
        have e54 : a'.eval (.tmp 54) = (.int .i64 k) := hd 8 (by decide)
        have e55 : a'.eval (.tmp 55) = (.int .i64 (r : Int)) := hd 9 (by decide)
        have e56 : a'.eval (.tmp 56) = (.pointer (some ⟨gr, 0, none⟩)) := hd 10 (by decide)
        have e57 : a'.eval (.tmp 57) = (.int .i64 l) := hd 11 (by decide)
        have e58 : a'.eval (.tmp 58) = (.int .i64 (pd : Int)) := hd 12 (by decide)
        have e8 : a'.eval (.tmp 8) = (.int .i64 (r : Int)) := hd 13 (by decide)
        have e9 : a'.eval (.tmp 9) = (.int .i64 (pd : Int)) := hd 14 (by decide)
        have hact := act_puts hdef hsz hfr
        simp only [dstsOf, List.filterMap, putAll, Act.put, List.setIfInBounds_toArray, List.set_cons_succ, List.set_cons_zero, e46, e47, e48, e49, e50, e51, e52, e53, e54, e55, e56, e57, e58, e8, e9] at hact
        clear hd hfr hsz hdef e46 e47 e48 e49 e50 e51 e52 e53 e54 e55 e56 e57 e58 e8 e9
        subst hact
        replace KP := Lib.hid (KP.out.go hC)
        replace KR := Lib.hid (KR.out.go hC)
        replace KQ := Lib.hid (KQ.out.go hC)
        replace KK := Lib.hid (KK.out.go hC)
        replace HT := Lib.hid (HT.out.go hC)
        replace B := B.trans (hC.mono B.size)
        clear hC
        go_upto_region 14 with fail
        refine wp_region_mono (C := Cb w22) (R := Rb) (H := fun _ => Hb w22) [Ty.val 59 (.agg #[.int .i64 l, .int .i64 s, .int .i64 k, .int .u32 (n : Int)]), Ty.val 60 (.int .i64 c), Ty.val 61 (.agg #[.int .i64 l, .int .i64 s, .int .i64 k, .int .u32 (n : Int)]), Ty.val 62 (.int .i64 c), Ty.val 63 (.bool true), Ty.val 64 (.bool true), Ty.val 65 (.agg #[.int .i64 l, .int .i64 s, .int .i64 k, .int .u32 (n : Int)]), Ty.val 66 (.string TX), Ty.val 67 (.agg #[.int .i64 l, .int .i64 s, .int .i64 k, .int .u32 (n : Int)]), Ty.val 68 (.string TX), Ty.val 69 (.bool true), Ty.val 70 (.bool true), Ty.val 71 (.bool true), Ty.val 72 (.agg #[.int .i64 l, .int .i64 s, .int .i64 k, .int .u32 (n : Int)]), Ty.val 73 (.int .i64 (r : Int)), Ty.val 74 (.int .i64 (r : Int)), Ty.val 75 (.bool true), Ty.val 76 (.bool true), Ty.val 77 (.bool true), Ty.val 78 (.agg #[.int .i64 l, .int .i64 s, .int .i64 k, .int .u32 (n : Int)]), Ty.val 79 (.int .i64 (pd : Int)), Ty.val 80 (.int .i64 (pd : Int)), Ty.val 81 (.bool true), Ty.val 82 (.bool true), Ty.val 83 (.bool true), Ty.val 84 (.agg #[.int .i64 0, .int .i64 0, .int .i64 0, .int .u32 0]), Ty.val 85 (.agg #[.int .i64 0, .int .i64 0, .int .i64 0, .int .u32 0]), Ty.val 86 (.bool true), Ty.val 87 (.bool true), Ty.val 88 (.bool true), Ty.val 89 (.int .i64 f), Ty.val 90 (.int .i64 f), Ty.val 91 (.bool true), Ty.val 92 (.bool true), Ty.val 2 (.bool true)] (by kernel_rfl) (hC_b w22) (hCH_b w22) (drew_b w22) ⟨trivial, trivial, trivial, trivial, trivial, trivial, trivial, trivial, trivial, trivial, trivial, trivial, trivial, trivial, trivial, trivial, trivial, trivial, trivial, trivial, trivial, trivial, trivial, trivial, trivial, trivial, trivial, trivial, trivial, trivial, trivial, trivial, trivial, trivial, trivial, trivial⟩ (by kernel_rfl) ?_ ?_
        · refine ⟨?_, ?_, ?_, ?_, ?_, ?_, ?_, ?_, ?_, ?_, ?_, ?_, ?_, ?_, ?_, ?_, ?_, ?_, ?_, ?_, ?_, ?_, ?_, ?_, ?_, ?_, ?_, ?_, ?_, ?_, ?_, ?_, ?_, ?_, ?_, trivial⟩
          · intro ac wc hC hsz hfr hd hpr
            have d1 : ac.eval (.tmp 1) = (.pointer (some ⟨gp, 0, none⟩)) := hfr 1 rfl
            rw [if_pos (wanted_none rfl)]
            exact ob_load _ rfl rfl rfl (Nat.lt_of_lt_of_eq (by decide : 59 < 93) hsz.symm) rfl d1 (load_plan10 (KP.out.go hC)) (Below.refl _ _) rfl
          · intro ac wc hC hsz hfr hd hpr
            have d59 : ac.eval (.tmp 59) = (.agg #[.int .i64 l, .int .i64 s, .int .i64 k, .int .u32 (n : Int)]) := hd 0 rfl
            rw [if_pos (wanted_none rfl)]
            refine ob_call rfl rfl rfl (Nat.lt_of_lt_of_eq (by decide : 60 < 93) hsz.symm) rfl (enter_of Tryd.func10 (by kernel_rfl) rfl) ?_
            show Calls Tryd.prog 10 #[ac.eval (.tmp 59)] wc _
            rw [d59]
            exact (HCK.out wc).mono fun _ _ ⟨he, hb⟩ => ⟨_, he, rfl, hb⟩
          · intro ac wc hC hsz hfr hd hpr
            have d3 : ac.eval (.tmp 3) = (.pointer (some ⟨gr, 0, none⟩)) := hfr 3 rfl
            rw [if_pos (wanted_none rfl)]
            exact ob_load _ rfl rfl rfl (Nat.lt_of_lt_of_eq (by decide : 61 < 93) hsz.symm) rfl d3 (load_ref10 (KR.out.go hC)) (Below.refl _ _) rfl
          · intro ac wc hC hsz hfr hd hpr
            have d61 : ac.eval (.tmp 61) = (.agg #[.int .i64 l, .int .i64 s, .int .i64 k, .int .u32 (n : Int)]) := hd 2 rfl
            rw [if_pos (wanted_none rfl)]
            refine ob_call rfl rfl rfl (Nat.lt_of_lt_of_eq (by decide : 62 < 93) hsz.symm) rfl (enter_of Tryd.func9 (by kernel_rfl) rfl) ?_
            show Calls Tryd.prog 9 #[ac.eval (.tmp 61)] wc _
            rw [d61]
            exact (HRC.out wc).mono fun _ _ ⟨he, hb⟩ => ⟨_, he, rfl, hb⟩
          · intro ac wc hC hsz hfr hd hpr
            have d60 : ac.eval (.tmp 60) = (.int .i64 c) := hd 1 rfl
            have d62 : ac.eval (.tmp 62) = (.int .i64 c) := hd 3 rfl
            rw [if_pos (wanted_none rfl)]
            exact ob_bin _ rfl rfl rfl (Nat.lt_of_lt_of_eq (by decide : 63 < 93) hsz.symm) rfl d60 d62 (eql_int (by simp)) (Below.refl _ _) rfl
          · intro ac wc hC hsz hfr hd hpr
            have d63 : ac.eval (.tmp 63) = (.bool true) := hd 4 rfl
            rw [if_pos (wanted_none rfl)]
            exact ob_copy rfl rfl rfl (Nat.lt_of_lt_of_eq (by decide : 64 < 93) hsz.symm) (Or.inl rfl) (Below.refl _ _) d63
          · intro ac wc hC hsz hfr hd hpr
            have d64 : ac.eval (.tmp 64) = (.bool true) := hd 5 rfl
            have d1 : ac.eval (.tmp 1) = (.pointer (some ⟨gp, 0, none⟩)) := hfr 1 rfl
            rw [if_pos (wanted_some rfl (yielded_of rfl d64))]
            exact ob_load _ rfl rfl rfl (Nat.lt_of_lt_of_eq (by decide : 65 < 93) hsz.symm) rfl d1 (load_plan10 (KP.out.go hC)) (Below.refl _ _) rfl
          · intro ac wc hC hsz hfr hd hpr
            have d64 : ac.eval (.tmp 64) = (.bool true) := hd 5 rfl
            have d65 : ac.eval (.tmp 65) = (.agg #[.int .i64 l, .int .i64 s, .int .i64 k, .int .u32 (n : Int)]) := hd 6 rfl
            rw [if_pos (wanted_some rfl (yielded_of rfl d64))]
            refine ob_call rfl rfl rfl (Nat.lt_of_lt_of_eq (by decide : 66 < 93) hsz.symm) rfl (enter_of Tryd.func11 (by kernel_rfl) rfl) ?_
            show Calls Tryd.prog 11 #[ac.eval (.tmp 65)] wc _
            rw [d65]
            exact (HTX.out wc (HT.out.go hC)).mono fun _ _ ⟨he, hb⟩ => ⟨_, he, rfl, hb⟩
          · intro ac wc hC hsz hfr hd hpr
            have d64 : ac.eval (.tmp 64) = (.bool true) := hd 5 rfl
            have d3 : ac.eval (.tmp 3) = (.pointer (some ⟨gr, 0, none⟩)) := hfr 3 rfl
            rw [if_pos (wanted_some rfl (yielded_of rfl d64))]
            exact ob_load _ rfl rfl rfl (Nat.lt_of_lt_of_eq (by decide : 67 < 93) hsz.symm) rfl d3 (load_ref10 (KR.out.go hC)) (Below.refl _ _) rfl
          · intro ac wc hC hsz hfr hd hpr
            have d64 : ac.eval (.tmp 64) = (.bool true) := hd 5 rfl
            have d67 : ac.eval (.tmp 67) = (.agg #[.int .i64 l, .int .i64 s, .int .i64 k, .int .u32 (n : Int)]) := hd 8 rfl
            rw [if_pos (wanted_some rfl (yielded_of rfl d64))]
            refine ob_call rfl rfl rfl (Nat.lt_of_lt_of_eq (by decide : 68 < 93) hsz.symm) rfl (enter_of Tryd.func12 (by kernel_rfl) rfl) ?_
            show Calls Tryd.prog 12 #[ac.eval (.tmp 67)] wc _
            rw [d67]
            exact (HRT.out wc (HT.out.go hC)).mono fun _ _ ⟨he, hb⟩ => ⟨_, he, rfl, hb⟩
          · intro ac wc hC hsz hfr hd hpr
            have d64 : ac.eval (.tmp 64) = (.bool true) := hd 5 rfl
            have d66 : ac.eval (.tmp 66) = (.string TX) := hd 7 rfl
            have d68 : ac.eval (.tmp 68) = (.string TX) := hd 9 rfl
            rw [if_pos (wanted_some rfl (yielded_of rfl d64))]
            exact ob_bin _ rfl rfl rfl (Nat.lt_of_lt_of_eq (by decide : 69 < 93) hsz.symm) rfl d66 d68 (eql_str10 TX) (Below.refl _ _) rfl
          · intro ac wc hC hsz hfr hd hpr
            have d64 : ac.eval (.tmp 64) = (.bool true) := hd 5 rfl
            have d69 : ac.eval (.tmp 69) = (.bool true) := hd 10 rfl
            rw [if_pos (wanted_none rfl)]
            exact ob_pick rfl rfl rfl (Nat.lt_of_lt_of_eq (by decide : 70 < 93) hsz.symm) rfl d64 (Below.refl _ _) d69
          · intro ac wc hC hsz hfr hd hpr
            have d70 : ac.eval (.tmp 70) = (.bool true) := hd 11 rfl
            rw [if_pos (wanted_none rfl)]
            exact ob_copy rfl rfl rfl (Nat.lt_of_lt_of_eq (by decide : 71 < 93) hsz.symm) (Or.inl rfl) (Below.refl _ _) d70
          · intro ac wc hC hsz hfr hd hpr
            have d71 : ac.eval (.tmp 71) = (.bool true) := hd 12 rfl
            have d1 : ac.eval (.tmp 1) = (.pointer (some ⟨gp, 0, none⟩)) := hfr 1 rfl
            rw [if_pos (wanted_some rfl (yielded_of rfl d71))]
            exact ob_load _ rfl rfl rfl (Nat.lt_of_lt_of_eq (by decide : 72 < 93) hsz.symm) rfl d1 (load_plan10 (KP.out.go hC)) (Below.refl _ _) rfl
          · intro ac wc hC hsz hfr hd hpr
            have d71 : ac.eval (.tmp 71) = (.bool true) := hd 12 rfl
            have d72 : ac.eval (.tmp 72) = (.agg #[.int .i64 l, .int .i64 s, .int .i64 k, .int .u32 (n : Int)]) := hd 13 rfl
            rw [if_pos (wanted_some rfl (yielded_of rfl d71))]
            refine ob_call rfl rfl rfl (Nat.lt_of_lt_of_eq (by decide : 73 < 93) hsz.symm) rfl (enter_of Tryd.func13 (by kernel_rfl) rfl) ?_
            show Calls Tryd.prog 13 #[ac.eval (.tmp 72)] wc _
            rw [d72]
            exact (HRM.out wc).mono fun _ _ ⟨he, hb⟩ => ⟨_, he, rfl, hb⟩
          · intro ac wc hC hsz hfr hd hpr
            have d71 : ac.eval (.tmp 71) = (.bool true) := hd 12 rfl
            have d8 : ac.eval (.tmp 8) = (.int .i64 (r : Int)) := hfr 8 rfl
            rw [if_pos (wanted_some rfl (yielded_of rfl d71))]
            exact ob_copy rfl rfl rfl (Nat.lt_of_lt_of_eq (by decide : 74 < 93) hsz.symm) (Or.inl rfl) (Below.refl _ _) d8
          · intro ac wc hC hsz hfr hd hpr
            have d71 : ac.eval (.tmp 71) = (.bool true) := hd 12 rfl
            have d73 : ac.eval (.tmp 73) = (.int .i64 (r : Int)) := hd 14 rfl
            have d74 : ac.eval (.tmp 74) = (.int .i64 (r : Int)) := hd 15 rfl
            rw [if_pos (wanted_some rfl (yielded_of rfl d71))]
            exact ob_bin _ rfl rfl rfl (Nat.lt_of_lt_of_eq (by decide : 75 < 93) hsz.symm) rfl d73 d74 (eql_int (by simp)) (Below.refl _ _) rfl
          · intro ac wc hC hsz hfr hd hpr
            have d71 : ac.eval (.tmp 71) = (.bool true) := hd 12 rfl
            have d75 : ac.eval (.tmp 75) = (.bool true) := hd 16 rfl
            rw [if_pos (wanted_none rfl)]
            exact ob_pick rfl rfl rfl (Nat.lt_of_lt_of_eq (by decide : 76 < 93) hsz.symm) rfl d71 (Below.refl _ _) d75
          · intro ac wc hC hsz hfr hd hpr
            have d76 : ac.eval (.tmp 76) = (.bool true) := hd 17 rfl
            rw [if_pos (wanted_none rfl)]
            exact ob_copy rfl rfl rfl (Nat.lt_of_lt_of_eq (by decide : 77 < 93) hsz.symm) (Or.inl rfl) (Below.refl _ _) d76
          · intro ac wc hC hsz hfr hd hpr
            have d77 : ac.eval (.tmp 77) = (.bool true) := hd 18 rfl
            have d1 : ac.eval (.tmp 1) = (.pointer (some ⟨gp, 0, none⟩)) := hfr 1 rfl
            rw [if_pos (wanted_some rfl (yielded_of rfl d77))]
            exact ob_load _ rfl rfl rfl (Nat.lt_of_lt_of_eq (by decide : 78 < 93) hsz.symm) rfl d1 (load_plan10 (KP.out.go hC)) (Below.refl _ _) rfl
          · intro ac wc hC hsz hfr hd hpr
            have d77 : ac.eval (.tmp 77) = (.bool true) := hd 18 rfl
            have d78 : ac.eval (.tmp 78) = (.agg #[.int .i64 l, .int .i64 s, .int .i64 k, .int .u32 (n : Int)]) := hd 19 rfl
            rw [if_pos (wanted_some rfl (yielded_of rfl d77))]
            refine ob_call rfl rfl rfl (Nat.lt_of_lt_of_eq (by decide : 79 < 93) hsz.symm) rfl (enter_of Tryd.func14 (by kernel_rfl) rfl) ?_
            show Calls Tryd.prog 14 #[ac.eval (.tmp 78)] wc _
            rw [d78]
            exact (HPD.out wc).mono fun _ _ ⟨he, hb⟩ => ⟨_, he, rfl, hb⟩
          · intro ac wc hC hsz hfr hd hpr
            have d77 : ac.eval (.tmp 77) = (.bool true) := hd 18 rfl
            have d9 : ac.eval (.tmp 9) = (.int .i64 (pd : Int)) := hfr 9 rfl
            rw [if_pos (wanted_some rfl (yielded_of rfl d77))]
            exact ob_copy rfl rfl rfl (Nat.lt_of_lt_of_eq (by decide : 80 < 93) hsz.symm) (Or.inl rfl) (Below.refl _ _) d9
          · intro ac wc hC hsz hfr hd hpr
            have d77 : ac.eval (.tmp 77) = (.bool true) := hd 18 rfl
            have d79 : ac.eval (.tmp 79) = (.int .i64 (pd : Int)) := hd 20 rfl
            have d80 : ac.eval (.tmp 80) = (.int .i64 (pd : Int)) := hd 21 rfl
            rw [if_pos (wanted_some rfl (yielded_of rfl d77))]
            exact ob_bin _ rfl rfl rfl (Nat.lt_of_lt_of_eq (by decide : 81 < 93) hsz.symm) rfl d79 d80 (eql_int (by simp)) (Below.refl _ _) rfl
          · intro ac wc hC hsz hfr hd hpr
            have d77 : ac.eval (.tmp 77) = (.bool true) := hd 18 rfl
            have d81 : ac.eval (.tmp 81) = (.bool true) := hd 22 rfl
            rw [if_pos (wanted_none rfl)]
            exact ob_pick rfl rfl rfl (Nat.lt_of_lt_of_eq (by decide : 82 < 93) hsz.symm) rfl d77 (Below.refl _ _) d81
          · intro ac wc hC hsz hfr hd hpr
            have d82 : ac.eval (.tmp 82) = (.bool true) := hd 23 rfl
            rw [if_pos (wanted_none rfl)]
            exact ob_copy rfl rfl rfl (Nat.lt_of_lt_of_eq (by decide : 83 < 93) hsz.symm) (Or.inl rfl) (Below.refl _ _) d82
          · intro ac wc hC hsz hfr hd hpr
            have d83 : ac.eval (.tmp 83) = (.bool true) := hd 24 rfl
            have d4 : ac.eval (.tmp 4) = (.pointer (some ⟨gq, 0, none⟩)) := hfr 4 rfl
            rw [if_pos (wanted_some rfl (yielded_of rfl d83))]
            exact ob_load _ rfl rfl rfl (Nat.lt_of_lt_of_eq (by decide : 84 < 93) hsz.symm) rfl d4 (load_plan10 (KQ.out.go hC)) (Below.refl _ _) rfl
          · intro ac wc hC hsz hfr hd hpr
            have d83 : ac.eval (.tmp 83) = (.bool true) := hd 24 rfl
            have d6 : ac.eval (.tmp 6) = (.pointer (some ⟨gk, 0, none⟩)) := hfr 6 rfl
            rw [if_pos (wanted_some rfl (yielded_of rfl d83))]
            exact ob_load _ rfl rfl rfl (Nat.lt_of_lt_of_eq (by decide : 85 < 93) hsz.symm) rfl d6 (load_ref10 (KK.out.go hC)) (Below.refl _ _) rfl
          · intro ac wc hC hsz hfr hd hpr
            have d83 : ac.eval (.tmp 83) = (.bool true) := hd 24 rfl
            have d84 : ac.eval (.tmp 84) = (.agg #[.int .i64 0, .int .i64 0, .int .i64 0, .int .u32 0]) := hd 25 rfl
            have d85 : ac.eval (.tmp 85) = (.agg #[.int .i64 0, .int .i64 0, .int .i64 0, .int .u32 0]) := hd 26 rfl
            rw [if_pos (wanted_some rfl (yielded_of rfl d83))]
            exact ob_bin _ rfl rfl rfl (Nat.lt_of_lt_of_eq (by decide : 86 < 93) hsz.symm) rfl d84 d85 (eql_plan10 _ _ _ _) (Below.refl _ _) rfl
          · intro ac wc hC hsz hfr hd hpr
            have d83 : ac.eval (.tmp 83) = (.bool true) := hd 24 rfl
            have d86 : ac.eval (.tmp 86) = (.bool true) := hd 27 rfl
            rw [if_pos (wanted_none rfl)]
            exact ob_pick rfl rfl rfl (Nat.lt_of_lt_of_eq (by decide : 87 < 93) hsz.symm) rfl d83 (Below.refl _ _) d86
          · intro ac wc hC hsz hfr hd hpr
            have d87 : ac.eval (.tmp 87) = (.bool true) := hd 28 rfl
            rw [if_pos (wanted_none rfl)]
            exact ob_copy rfl rfl rfl (Nat.lt_of_lt_of_eq (by decide : 88 < 93) hsz.symm) (Or.inl rfl) (Below.refl _ _) d87
          · intro ac wc hC hsz hfr hd hpr
            have d88 : ac.eval (.tmp 88) = (.bool true) := hd 29 rfl
            have d5 : ac.eval (.tmp 5) = (.int .i64 f) := hfr 5 rfl
            rw [if_pos (wanted_some rfl (yielded_of rfl d88))]
            exact ob_copy rfl rfl rfl (Nat.lt_of_lt_of_eq (by decide : 89 < 93) hsz.symm) (Or.inl rfl) (Below.refl _ _) d5
          · intro ac wc hC hsz hfr hd hpr
            have d88 : ac.eval (.tmp 88) = (.bool true) := hd 29 rfl
            have d7 : ac.eval (.tmp 7) = (.int .i64 f) := hfr 7 rfl
            rw [if_pos (wanted_some rfl (yielded_of rfl d88))]
            exact ob_copy rfl rfl rfl (Nat.lt_of_lt_of_eq (by decide : 90 < 93) hsz.symm) (Or.inl rfl) (Below.refl _ _) d7
          · intro ac wc hC hsz hfr hd hpr
            have d88 : ac.eval (.tmp 88) = (.bool true) := hd 29 rfl
            have d89 : ac.eval (.tmp 89) = (.int .i64 f) := hd 30 rfl
            have d90 : ac.eval (.tmp 90) = (.int .i64 f) := hd 31 rfl
            rw [if_pos (wanted_some rfl (yielded_of rfl d88))]
            exact ob_bin _ rfl rfl rfl (Nat.lt_of_lt_of_eq (by decide : 91 < 93) hsz.symm) rfl d89 d90 (eql_int (by simp)) (Below.refl _ _) rfl
          · intro ac wc hC hsz hfr hd hpr
            have d88 : ac.eval (.tmp 88) = (.bool true) := hd 29 rfl
            have d91 : ac.eval (.tmp 91) = (.bool true) := hd 32 rfl
            rw [if_pos (wanted_none rfl)]
            exact ob_pick rfl rfl rfl (Nat.lt_of_lt_of_eq (by decide : 92 < 93) hsz.symm) rfl d88 (Below.refl _ _) d91
          · intro ac wc hC hsz hfr hd hpr
            have d92 : ac.eval (.tmp 92) = (.bool true) := hd 33 rfl
            rw [if_pos (wanted_none rfl)]
            exact ob_copy rfl rfl rfl (Nat.lt_of_lt_of_eq (by decide : 2 < 93) hsz.symm) (Or.inr rfl) (Below.refl _ _) d92
        intro a' W20 hC hdef hsz hfr hd
        have e59 : a'.eval (.tmp 59) = (.agg #[.int .i64 l, .int .i64 s, .int .i64 k, .int .u32 (n : Int)]) := hd 0 (by decide)
        have e60 : a'.eval (.tmp 60) = (.int .i64 c) := hd 1 (by decide)
        have e61 : a'.eval (.tmp 61) = (.agg #[.int .i64 l, .int .i64 s, .int .i64 k, .int .u32 (n : Int)]) := hd 2 (by decide)
        have e62 : a'.eval (.tmp 62) = (.int .i64 c) := hd 3 (by decide)
        have e63 : a'.eval (.tmp 63) = (.bool true) := hd 4 (by decide)
        have e64 : a'.eval (.tmp 64) = (.bool true) := hd 5 (by decide)
        have e65 : a'.eval (.tmp 65) = (.agg #[.int .i64 l, .int .i64 s, .int .i64 k, .int .u32 (n : Int)]) := hd 6 (by decide)
        have e66 : a'.eval (.tmp 66) = (.string TX) := hd 7 (by decide)
        have e67 : a'.eval (.tmp 67) = (.agg #[.int .i64 l, .int .i64 s, .int .i64 k, .int .u32 (n : Int)]) := hd 8 (by decide)
        have e68 : a'.eval (.tmp 68) = (.string TX) := hd 9 (by decide)
        have e69 : a'.eval (.tmp 69) = (.bool true) := hd 10 (by decide)
        have e70 : a'.eval (.tmp 70) = (.bool true) := hd 11 (by decide)
        have e71 : a'.eval (.tmp 71) = (.bool true) := hd 12 (by decide)
        have e72 : a'.eval (.tmp 72) = (.agg #[.int .i64 l, .int .i64 s, .int .i64 k, .int .u32 (n : Int)]) := hd 13 (by decide)
        have e73 : a'.eval (.tmp 73) = (.int .i64 (r : Int)) := hd 14 (by decide)
        have e74 : a'.eval (.tmp 74) = (.int .i64 (r : Int)) := hd 15 (by decide)
        have e75 : a'.eval (.tmp 75) = (.bool true) := hd 16 (by decide)
        have e76 : a'.eval (.tmp 76) = (.bool true) := hd 17 (by decide)
        have e77 : a'.eval (.tmp 77) = (.bool true) := hd 18 (by decide)
        have e78 : a'.eval (.tmp 78) = (.agg #[.int .i64 l, .int .i64 s, .int .i64 k, .int .u32 (n : Int)]) := hd 19 (by decide)
        have e79 : a'.eval (.tmp 79) = (.int .i64 (pd : Int)) := hd 20 (by decide)
        have e80 : a'.eval (.tmp 80) = (.int .i64 (pd : Int)) := hd 21 (by decide)
        have e81 : a'.eval (.tmp 81) = (.bool true) := hd 22 (by decide)
        have e82 : a'.eval (.tmp 82) = (.bool true) := hd 23 (by decide)
        have e83 : a'.eval (.tmp 83) = (.bool true) := hd 24 (by decide)
        have e84 : a'.eval (.tmp 84) = (.agg #[.int .i64 0, .int .i64 0, .int .i64 0, .int .u32 0]) := hd 25 (by decide)
        have e85 : a'.eval (.tmp 85) = (.agg #[.int .i64 0, .int .i64 0, .int .i64 0, .int .u32 0]) := hd 26 (by decide)
        have e86 : a'.eval (.tmp 86) = (.bool true) := hd 27 (by decide)
        have e87 : a'.eval (.tmp 87) = (.bool true) := hd 28 (by decide)
        have e88 : a'.eval (.tmp 88) = (.bool true) := hd 29 (by decide)
        have e89 : a'.eval (.tmp 89) = (.int .i64 f) := hd 30 (by decide)
        have e90 : a'.eval (.tmp 90) = (.int .i64 f) := hd 31 (by decide)
        have e91 : a'.eval (.tmp 91) = (.bool true) := hd 32 (by decide)
        have e92 : a'.eval (.tmp 92) = (.bool true) := hd 33 (by decide)
        have e2 : a'.eval (.tmp 2) = (.bool true) := hd 34 (by decide)
        have hact := act_puts hdef hsz hfr
        simp only [dstsOf, List.filterMap, putAll, Act.put, List.setIfInBounds_toArray, List.set_cons_succ, List.set_cons_zero, e59, e60, e61, e62, e63, e64, e65, e66, e67, e68, e69, e70, e71, e72, e73, e74, e75, e76, e77, e78, e79, e80, e81, e82, e83, e84, e85, e86, e87, e88, e89, e90, e91, e92, e2] at hact
        clear hd hfr hsz hdef e59 e60 e61 e62 e63 e64 e65 e66 e67 e68 e69 e70 e71 e72 e73 e74 e75 e76 e77 e78 e79 e80 e81 e82 e83 e84 e85 e86 e87 e88 e89 e90 e91 e92 e2
        subst hact
        replace B := B.trans (hC.mono B.size)
        clear hC
        go_wp2_with fail
        go_ret
        exact ⟨rfl, B⟩
      · rw [if_neg hc0] at HRM HPD
        obtain ⟨c, hc⟩ : ∃ c : Int, c = checkE l s k := ⟨_, rfl⟩
        rw [← hc] at HCK HRC hc0
        clear hc
        go_wp2_with fail
        refine (HRC.out _).mono ?_
        rintro e w21 ⟨rfl, hb21⟩
        replace KP := Lib.hid (KP.out.go hb21)
        replace KR := Lib.hid (KR.out.go hb21)
        replace KQ := Lib.hid (KQ.out.go hb21)
        replace KK := Lib.hid (KK.out.go hb21)
        replace HT := Lib.hid (HT.out.go hb21)
        replace B := B.trans (hb21.mono B.size)
        have hce : (c == (0 : Int)) = false := by rw [beq_eq_false_iff_ne]; exact hc0
        clear hb21 p0 p1 p2 p3 pl
        go_upto_region 14 with fail
        refine wp_region_mono (C := Cb w21) (R := Rb) (H := fun _ => Hb w21) [Ty.val 59 (.agg #[.int .i64 l, .int .i64 s, .int .i64 k, .int .u32 (n : Int)]), Ty.val 60 (.int .i64 c), Ty.val 61 (.agg #[.int .i64 l, .int .i64 s, .int .i64 k, .int .u32 (n : Int)]), Ty.val 62 (.int .i64 c), Ty.val 63 (.bool true), Ty.val 64 (.bool true), Ty.val 65 (.agg #[.int .i64 l, .int .i64 s, .int .i64 k, .int .u32 (n : Int)]), Ty.val 66 (.string TX), Ty.val 67 (.agg #[.int .i64 l, .int .i64 s, .int .i64 k, .int .u32 (n : Int)]), Ty.val 68 (.string TX), Ty.val 69 (.bool true), Ty.val 70 (.bool true), Ty.val 71 (.bool true), Ty.val 72 (.agg #[.int .i64 l, .int .i64 s, .int .i64 k, .int .u32 (n : Int)]), Ty.val 73 (.int .i64 0), Ty.val 74 (.int .i64 0), Ty.val 75 (.bool true), Ty.val 76 (.bool true), Ty.val 77 (.bool true), Ty.val 78 (.agg #[.int .i64 l, .int .i64 s, .int .i64 k, .int .u32 (n : Int)]), Ty.val 79 (.int .i64 0), Ty.val 80 (.int .i64 0), Ty.val 81 (.bool true), Ty.val 82 (.bool true), Ty.val 83 (.bool true), Ty.val 84 (.agg #[.int .i64 0, .int .i64 0, .int .i64 0, .int .u32 0]), Ty.val 85 (.agg #[.int .i64 0, .int .i64 0, .int .i64 0, .int .u32 0]), Ty.val 86 (.bool true), Ty.val 87 (.bool true), Ty.val 88 (.bool true), Ty.val 89 (.int .i64 f), Ty.val 90 (.int .i64 f), Ty.val 91 (.bool true), Ty.val 92 (.bool true), Ty.val 2 (.bool true)] (by kernel_rfl) (hC_b w21) (hCH_b w21) (drew_b w21) ⟨trivial, trivial, trivial, trivial, trivial, trivial, trivial, trivial, trivial, trivial, trivial, trivial, trivial, trivial, trivial, trivial, trivial, trivial, trivial, trivial, trivial, trivial, trivial, trivial, trivial, trivial, trivial, trivial, trivial, trivial, trivial, trivial, trivial, trivial, trivial, trivial⟩ (by kernel_rfl) ?_ ?_
        · refine ⟨?_, ?_, ?_, ?_, ?_, ?_, ?_, ?_, ?_, ?_, ?_, ?_, ?_, ?_, ?_, ?_, ?_, ?_, ?_, ?_, ?_, ?_, ?_, ?_, ?_, ?_, ?_, ?_, ?_, ?_, ?_, ?_, ?_, ?_, ?_, trivial⟩
          · intro ac wc hC hsz hfr hd hpr
            have d1 : ac.eval (.tmp 1) = (.pointer (some ⟨gp, 0, none⟩)) := hfr 1 rfl
            rw [if_pos (wanted_none rfl)]
            exact ob_load _ rfl rfl rfl (Nat.lt_of_lt_of_eq (by decide : 59 < 93) hsz.symm) rfl d1 (load_plan10 (KP.out.go hC)) (Below.refl _ _) rfl
          · intro ac wc hC hsz hfr hd hpr
            have d59 : ac.eval (.tmp 59) = (.agg #[.int .i64 l, .int .i64 s, .int .i64 k, .int .u32 (n : Int)]) := hd 0 rfl
            rw [if_pos (wanted_none rfl)]
            refine ob_call rfl rfl rfl (Nat.lt_of_lt_of_eq (by decide : 60 < 93) hsz.symm) rfl (enter_of Tryd.func10 (by kernel_rfl) rfl) ?_
            show Calls Tryd.prog 10 #[ac.eval (.tmp 59)] wc _
            rw [d59]
            exact (HCK.out wc).mono fun _ _ ⟨he, hb⟩ => ⟨_, he, rfl, hb⟩
          · intro ac wc hC hsz hfr hd hpr
            have d3 : ac.eval (.tmp 3) = (.pointer (some ⟨gr, 0, none⟩)) := hfr 3 rfl
            rw [if_pos (wanted_none rfl)]
            exact ob_load _ rfl rfl rfl (Nat.lt_of_lt_of_eq (by decide : 61 < 93) hsz.symm) rfl d3 (load_ref10 (KR.out.go hC)) (Below.refl _ _) rfl
          · intro ac wc hC hsz hfr hd hpr
            have d61 : ac.eval (.tmp 61) = (.agg #[.int .i64 l, .int .i64 s, .int .i64 k, .int .u32 (n : Int)]) := hd 2 rfl
            rw [if_pos (wanted_none rfl)]
            refine ob_call rfl rfl rfl (Nat.lt_of_lt_of_eq (by decide : 62 < 93) hsz.symm) rfl (enter_of Tryd.func9 (by kernel_rfl) rfl) ?_
            show Calls Tryd.prog 9 #[ac.eval (.tmp 61)] wc _
            rw [d61]
            exact (HRC.out wc).mono fun _ _ ⟨he, hb⟩ => ⟨_, he, rfl, hb⟩
          · intro ac wc hC hsz hfr hd hpr
            have d60 : ac.eval (.tmp 60) = (.int .i64 c) := hd 1 rfl
            have d62 : ac.eval (.tmp 62) = (.int .i64 c) := hd 3 rfl
            rw [if_pos (wanted_none rfl)]
            exact ob_bin _ rfl rfl rfl (Nat.lt_of_lt_of_eq (by decide : 63 < 93) hsz.symm) rfl d60 d62 (eql_int (by simp)) (Below.refl _ _) rfl
          · intro ac wc hC hsz hfr hd hpr
            have d63 : ac.eval (.tmp 63) = (.bool true) := hd 4 rfl
            rw [if_pos (wanted_none rfl)]
            exact ob_copy rfl rfl rfl (Nat.lt_of_lt_of_eq (by decide : 64 < 93) hsz.symm) (Or.inl rfl) (Below.refl _ _) d63
          · intro ac wc hC hsz hfr hd hpr
            have d64 : ac.eval (.tmp 64) = (.bool true) := hd 5 rfl
            have d1 : ac.eval (.tmp 1) = (.pointer (some ⟨gp, 0, none⟩)) := hfr 1 rfl
            rw [if_pos (wanted_some rfl (yielded_of rfl d64))]
            exact ob_load _ rfl rfl rfl (Nat.lt_of_lt_of_eq (by decide : 65 < 93) hsz.symm) rfl d1 (load_plan10 (KP.out.go hC)) (Below.refl _ _) rfl
          · intro ac wc hC hsz hfr hd hpr
            have d64 : ac.eval (.tmp 64) = (.bool true) := hd 5 rfl
            have d65 : ac.eval (.tmp 65) = (.agg #[.int .i64 l, .int .i64 s, .int .i64 k, .int .u32 (n : Int)]) := hd 6 rfl
            rw [if_pos (wanted_some rfl (yielded_of rfl d64))]
            refine ob_call rfl rfl rfl (Nat.lt_of_lt_of_eq (by decide : 66 < 93) hsz.symm) rfl (enter_of Tryd.func11 (by kernel_rfl) rfl) ?_
            show Calls Tryd.prog 11 #[ac.eval (.tmp 65)] wc _
            rw [d65]
            exact (HTX.out wc (HT.out.go hC)).mono fun _ _ ⟨he, hb⟩ => ⟨_, he, rfl, hb⟩
          · intro ac wc hC hsz hfr hd hpr
            have d64 : ac.eval (.tmp 64) = (.bool true) := hd 5 rfl
            have d3 : ac.eval (.tmp 3) = (.pointer (some ⟨gr, 0, none⟩)) := hfr 3 rfl
            rw [if_pos (wanted_some rfl (yielded_of rfl d64))]
            exact ob_load _ rfl rfl rfl (Nat.lt_of_lt_of_eq (by decide : 67 < 93) hsz.symm) rfl d3 (load_ref10 (KR.out.go hC)) (Below.refl _ _) rfl
          · intro ac wc hC hsz hfr hd hpr
            have d64 : ac.eval (.tmp 64) = (.bool true) := hd 5 rfl
            have d67 : ac.eval (.tmp 67) = (.agg #[.int .i64 l, .int .i64 s, .int .i64 k, .int .u32 (n : Int)]) := hd 8 rfl
            rw [if_pos (wanted_some rfl (yielded_of rfl d64))]
            refine ob_call rfl rfl rfl (Nat.lt_of_lt_of_eq (by decide : 68 < 93) hsz.symm) rfl (enter_of Tryd.func12 (by kernel_rfl) rfl) ?_
            show Calls Tryd.prog 12 #[ac.eval (.tmp 67)] wc _
            rw [d67]
            exact (HRT.out wc (HT.out.go hC)).mono fun _ _ ⟨he, hb⟩ => ⟨_, he, rfl, hb⟩
          · intro ac wc hC hsz hfr hd hpr
            have d64 : ac.eval (.tmp 64) = (.bool true) := hd 5 rfl
            have d66 : ac.eval (.tmp 66) = (.string TX) := hd 7 rfl
            have d68 : ac.eval (.tmp 68) = (.string TX) := hd 9 rfl
            rw [if_pos (wanted_some rfl (yielded_of rfl d64))]
            exact ob_bin _ rfl rfl rfl (Nat.lt_of_lt_of_eq (by decide : 69 < 93) hsz.symm) rfl d66 d68 (eql_str10 TX) (Below.refl _ _) rfl
          · intro ac wc hC hsz hfr hd hpr
            have d64 : ac.eval (.tmp 64) = (.bool true) := hd 5 rfl
            have d69 : ac.eval (.tmp 69) = (.bool true) := hd 10 rfl
            rw [if_pos (wanted_none rfl)]
            exact ob_pick rfl rfl rfl (Nat.lt_of_lt_of_eq (by decide : 70 < 93) hsz.symm) rfl d64 (Below.refl _ _) d69
          · intro ac wc hC hsz hfr hd hpr
            have d70 : ac.eval (.tmp 70) = (.bool true) := hd 11 rfl
            rw [if_pos (wanted_none rfl)]
            exact ob_copy rfl rfl rfl (Nat.lt_of_lt_of_eq (by decide : 71 < 93) hsz.symm) (Or.inl rfl) (Below.refl _ _) d70
          · intro ac wc hC hsz hfr hd hpr
            have d71 : ac.eval (.tmp 71) = (.bool true) := hd 12 rfl
            have d1 : ac.eval (.tmp 1) = (.pointer (some ⟨gp, 0, none⟩)) := hfr 1 rfl
            rw [if_pos (wanted_some rfl (yielded_of rfl d71))]
            exact ob_load _ rfl rfl rfl (Nat.lt_of_lt_of_eq (by decide : 72 < 93) hsz.symm) rfl d1 (load_plan10 (KP.out.go hC)) (Below.refl _ _) rfl
          · intro ac wc hC hsz hfr hd hpr
            have d71 : ac.eval (.tmp 71) = (.bool true) := hd 12 rfl
            have d72 : ac.eval (.tmp 72) = (.agg #[.int .i64 l, .int .i64 s, .int .i64 k, .int .u32 (n : Int)]) := hd 13 rfl
            rw [if_pos (wanted_some rfl (yielded_of rfl d71))]
            refine ob_call rfl rfl rfl (Nat.lt_of_lt_of_eq (by decide : 73 < 93) hsz.symm) rfl (enter_of Tryd.func13 (by kernel_rfl) rfl) ?_
            show Calls Tryd.prog 13 #[ac.eval (.tmp 72)] wc _
            rw [d72]
            exact (HRM.out wc).mono fun _ _ ⟨he, hb⟩ => ⟨_, he, rfl, hb⟩
          · intro ac wc hC hsz hfr hd hpr
            have d71 : ac.eval (.tmp 71) = (.bool true) := hd 12 rfl
            have d8 : ac.eval (.tmp 8) = (.int .i64 0) := hfr 8 rfl
            rw [if_pos (wanted_some rfl (yielded_of rfl d71))]
            exact ob_copy rfl rfl rfl (Nat.lt_of_lt_of_eq (by decide : 74 < 93) hsz.symm) (Or.inl rfl) (Below.refl _ _) d8
          · intro ac wc hC hsz hfr hd hpr
            have d71 : ac.eval (.tmp 71) = (.bool true) := hd 12 rfl
            have d73 : ac.eval (.tmp 73) = (.int .i64 0) := hd 14 rfl
            have d74 : ac.eval (.tmp 74) = (.int .i64 0) := hd 15 rfl
            rw [if_pos (wanted_some rfl (yielded_of rfl d71))]
            exact ob_bin _ rfl rfl rfl (Nat.lt_of_lt_of_eq (by decide : 75 < 93) hsz.symm) rfl d73 d74 (eql_int (by simp)) (Below.refl _ _) rfl
          · intro ac wc hC hsz hfr hd hpr
            have d71 : ac.eval (.tmp 71) = (.bool true) := hd 12 rfl
            have d75 : ac.eval (.tmp 75) = (.bool true) := hd 16 rfl
            rw [if_pos (wanted_none rfl)]
            exact ob_pick rfl rfl rfl (Nat.lt_of_lt_of_eq (by decide : 76 < 93) hsz.symm) rfl d71 (Below.refl _ _) d75
          · intro ac wc hC hsz hfr hd hpr
            have d76 : ac.eval (.tmp 76) = (.bool true) := hd 17 rfl
            rw [if_pos (wanted_none rfl)]
            exact ob_copy rfl rfl rfl (Nat.lt_of_lt_of_eq (by decide : 77 < 93) hsz.symm) (Or.inl rfl) (Below.refl _ _) d76
          · intro ac wc hC hsz hfr hd hpr
            have d77 : ac.eval (.tmp 77) = (.bool true) := hd 18 rfl
            have d1 : ac.eval (.tmp 1) = (.pointer (some ⟨gp, 0, none⟩)) := hfr 1 rfl
            rw [if_pos (wanted_some rfl (yielded_of rfl d77))]
            exact ob_load _ rfl rfl rfl (Nat.lt_of_lt_of_eq (by decide : 78 < 93) hsz.symm) rfl d1 (load_plan10 (KP.out.go hC)) (Below.refl _ _) rfl
          · intro ac wc hC hsz hfr hd hpr
            have d77 : ac.eval (.tmp 77) = (.bool true) := hd 18 rfl
            have d78 : ac.eval (.tmp 78) = (.agg #[.int .i64 l, .int .i64 s, .int .i64 k, .int .u32 (n : Int)]) := hd 19 rfl
            rw [if_pos (wanted_some rfl (yielded_of rfl d77))]
            refine ob_call rfl rfl rfl (Nat.lt_of_lt_of_eq (by decide : 79 < 93) hsz.symm) rfl (enter_of Tryd.func14 (by kernel_rfl) rfl) ?_
            show Calls Tryd.prog 14 #[ac.eval (.tmp 78)] wc _
            rw [d78]
            exact (HPD.out wc).mono fun _ _ ⟨he, hb⟩ => ⟨_, he, rfl, hb⟩
          · intro ac wc hC hsz hfr hd hpr
            have d77 : ac.eval (.tmp 77) = (.bool true) := hd 18 rfl
            have d9 : ac.eval (.tmp 9) = (.int .i64 0) := hfr 9 rfl
            rw [if_pos (wanted_some rfl (yielded_of rfl d77))]
            exact ob_copy rfl rfl rfl (Nat.lt_of_lt_of_eq (by decide : 80 < 93) hsz.symm) (Or.inl rfl) (Below.refl _ _) d9
          · intro ac wc hC hsz hfr hd hpr
            have d77 : ac.eval (.tmp 77) = (.bool true) := hd 18 rfl
            have d79 : ac.eval (.tmp 79) = (.int .i64 0) := hd 20 rfl
            have d80 : ac.eval (.tmp 80) = (.int .i64 0) := hd 21 rfl
            rw [if_pos (wanted_some rfl (yielded_of rfl d77))]
            exact ob_bin _ rfl rfl rfl (Nat.lt_of_lt_of_eq (by decide : 81 < 93) hsz.symm) rfl d79 d80 (eql_int (by simp)) (Below.refl _ _) rfl
          · intro ac wc hC hsz hfr hd hpr
            have d77 : ac.eval (.tmp 77) = (.bool true) := hd 18 rfl
            have d81 : ac.eval (.tmp 81) = (.bool true) := hd 22 rfl
            rw [if_pos (wanted_none rfl)]
            exact ob_pick rfl rfl rfl (Nat.lt_of_lt_of_eq (by decide : 82 < 93) hsz.symm) rfl d77 (Below.refl _ _) d81
          · intro ac wc hC hsz hfr hd hpr
            have d82 : ac.eval (.tmp 82) = (.bool true) := hd 23 rfl
            rw [if_pos (wanted_none rfl)]
            exact ob_copy rfl rfl rfl (Nat.lt_of_lt_of_eq (by decide : 83 < 93) hsz.symm) (Or.inl rfl) (Below.refl _ _) d82
          · intro ac wc hC hsz hfr hd hpr
            have d83 : ac.eval (.tmp 83) = (.bool true) := hd 24 rfl
            have d4 : ac.eval (.tmp 4) = (.pointer (some ⟨gq, 0, none⟩)) := hfr 4 rfl
            rw [if_pos (wanted_some rfl (yielded_of rfl d83))]
            exact ob_load _ rfl rfl rfl (Nat.lt_of_lt_of_eq (by decide : 84 < 93) hsz.symm) rfl d4 (load_plan10 (KQ.out.go hC)) (Below.refl _ _) rfl
          · intro ac wc hC hsz hfr hd hpr
            have d83 : ac.eval (.tmp 83) = (.bool true) := hd 24 rfl
            have d6 : ac.eval (.tmp 6) = (.pointer (some ⟨gk, 0, none⟩)) := hfr 6 rfl
            rw [if_pos (wanted_some rfl (yielded_of rfl d83))]
            exact ob_load _ rfl rfl rfl (Nat.lt_of_lt_of_eq (by decide : 85 < 93) hsz.symm) rfl d6 (load_ref10 (KK.out.go hC)) (Below.refl _ _) rfl
          · intro ac wc hC hsz hfr hd hpr
            have d83 : ac.eval (.tmp 83) = (.bool true) := hd 24 rfl
            have d84 : ac.eval (.tmp 84) = (.agg #[.int .i64 0, .int .i64 0, .int .i64 0, .int .u32 0]) := hd 25 rfl
            have d85 : ac.eval (.tmp 85) = (.agg #[.int .i64 0, .int .i64 0, .int .i64 0, .int .u32 0]) := hd 26 rfl
            rw [if_pos (wanted_some rfl (yielded_of rfl d83))]
            exact ob_bin _ rfl rfl rfl (Nat.lt_of_lt_of_eq (by decide : 86 < 93) hsz.symm) rfl d84 d85 (eql_plan10 _ _ _ _) (Below.refl _ _) rfl
          · intro ac wc hC hsz hfr hd hpr
            have d83 : ac.eval (.tmp 83) = (.bool true) := hd 24 rfl
            have d86 : ac.eval (.tmp 86) = (.bool true) := hd 27 rfl
            rw [if_pos (wanted_none rfl)]
            exact ob_pick rfl rfl rfl (Nat.lt_of_lt_of_eq (by decide : 87 < 93) hsz.symm) rfl d83 (Below.refl _ _) d86
          · intro ac wc hC hsz hfr hd hpr
            have d87 : ac.eval (.tmp 87) = (.bool true) := hd 28 rfl
            rw [if_pos (wanted_none rfl)]
            exact ob_copy rfl rfl rfl (Nat.lt_of_lt_of_eq (by decide : 88 < 93) hsz.symm) (Or.inl rfl) (Below.refl _ _) d87
          · intro ac wc hC hsz hfr hd hpr
            have d88 : ac.eval (.tmp 88) = (.bool true) := hd 29 rfl
            have d5 : ac.eval (.tmp 5) = (.int .i64 f) := hfr 5 rfl
            rw [if_pos (wanted_some rfl (yielded_of rfl d88))]
            exact ob_copy rfl rfl rfl (Nat.lt_of_lt_of_eq (by decide : 89 < 93) hsz.symm) (Or.inl rfl) (Below.refl _ _) d5
          · intro ac wc hC hsz hfr hd hpr
            have d88 : ac.eval (.tmp 88) = (.bool true) := hd 29 rfl
            have d7 : ac.eval (.tmp 7) = (.int .i64 f) := hfr 7 rfl
            rw [if_pos (wanted_some rfl (yielded_of rfl d88))]
            exact ob_copy rfl rfl rfl (Nat.lt_of_lt_of_eq (by decide : 90 < 93) hsz.symm) (Or.inl rfl) (Below.refl _ _) d7
          · intro ac wc hC hsz hfr hd hpr
            have d88 : ac.eval (.tmp 88) = (.bool true) := hd 29 rfl
            have d89 : ac.eval (.tmp 89) = (.int .i64 f) := hd 30 rfl
            have d90 : ac.eval (.tmp 90) = (.int .i64 f) := hd 31 rfl
            rw [if_pos (wanted_some rfl (yielded_of rfl d88))]
            exact ob_bin _ rfl rfl rfl (Nat.lt_of_lt_of_eq (by decide : 91 < 93) hsz.symm) rfl d89 d90 (eql_int (by simp)) (Below.refl _ _) rfl
          · intro ac wc hC hsz hfr hd hpr
            have d88 : ac.eval (.tmp 88) = (.bool true) := hd 29 rfl
            have d91 : ac.eval (.tmp 91) = (.bool true) := hd 32 rfl
            rw [if_pos (wanted_none rfl)]
            exact ob_pick rfl rfl rfl (Nat.lt_of_lt_of_eq (by decide : 92 < 93) hsz.symm) rfl d88 (Below.refl _ _) d91
          · intro ac wc hC hsz hfr hd hpr
            have d92 : ac.eval (.tmp 92) = (.bool true) := hd 33 rfl
            rw [if_pos (wanted_none rfl)]
            exact ob_copy rfl rfl rfl (Nat.lt_of_lt_of_eq (by decide : 2 < 93) hsz.symm) (Or.inr rfl) (Below.refl _ _) d92
        intro a' W20 hC hdef hsz hfr hd
        have e59 : a'.eval (.tmp 59) = (.agg #[.int .i64 l, .int .i64 s, .int .i64 k, .int .u32 (n : Int)]) := hd 0 (by decide)
        have e60 : a'.eval (.tmp 60) = (.int .i64 c) := hd 1 (by decide)
        have e61 : a'.eval (.tmp 61) = (.agg #[.int .i64 l, .int .i64 s, .int .i64 k, .int .u32 (n : Int)]) := hd 2 (by decide)
        have e62 : a'.eval (.tmp 62) = (.int .i64 c) := hd 3 (by decide)
        have e63 : a'.eval (.tmp 63) = (.bool true) := hd 4 (by decide)
        have e64 : a'.eval (.tmp 64) = (.bool true) := hd 5 (by decide)
        have e65 : a'.eval (.tmp 65) = (.agg #[.int .i64 l, .int .i64 s, .int .i64 k, .int .u32 (n : Int)]) := hd 6 (by decide)
        have e66 : a'.eval (.tmp 66) = (.string TX) := hd 7 (by decide)
        have e67 : a'.eval (.tmp 67) = (.agg #[.int .i64 l, .int .i64 s, .int .i64 k, .int .u32 (n : Int)]) := hd 8 (by decide)
        have e68 : a'.eval (.tmp 68) = (.string TX) := hd 9 (by decide)
        have e69 : a'.eval (.tmp 69) = (.bool true) := hd 10 (by decide)
        have e70 : a'.eval (.tmp 70) = (.bool true) := hd 11 (by decide)
        have e71 : a'.eval (.tmp 71) = (.bool true) := hd 12 (by decide)
        have e72 : a'.eval (.tmp 72) = (.agg #[.int .i64 l, .int .i64 s, .int .i64 k, .int .u32 (n : Int)]) := hd 13 (by decide)
        have e73 : a'.eval (.tmp 73) = (.int .i64 0) := hd 14 (by decide)
        have e74 : a'.eval (.tmp 74) = (.int .i64 0) := hd 15 (by decide)
        have e75 : a'.eval (.tmp 75) = (.bool true) := hd 16 (by decide)
        have e76 : a'.eval (.tmp 76) = (.bool true) := hd 17 (by decide)
        have e77 : a'.eval (.tmp 77) = (.bool true) := hd 18 (by decide)
        have e78 : a'.eval (.tmp 78) = (.agg #[.int .i64 l, .int .i64 s, .int .i64 k, .int .u32 (n : Int)]) := hd 19 (by decide)
        have e79 : a'.eval (.tmp 79) = (.int .i64 0) := hd 20 (by decide)
        have e80 : a'.eval (.tmp 80) = (.int .i64 0) := hd 21 (by decide)
        have e81 : a'.eval (.tmp 81) = (.bool true) := hd 22 (by decide)
        have e82 : a'.eval (.tmp 82) = (.bool true) := hd 23 (by decide)
        have e83 : a'.eval (.tmp 83) = (.bool true) := hd 24 (by decide)
        have e84 : a'.eval (.tmp 84) = (.agg #[.int .i64 0, .int .i64 0, .int .i64 0, .int .u32 0]) := hd 25 (by decide)
        have e85 : a'.eval (.tmp 85) = (.agg #[.int .i64 0, .int .i64 0, .int .i64 0, .int .u32 0]) := hd 26 (by decide)
        have e86 : a'.eval (.tmp 86) = (.bool true) := hd 27 (by decide)
        have e87 : a'.eval (.tmp 87) = (.bool true) := hd 28 (by decide)
        have e88 : a'.eval (.tmp 88) = (.bool true) := hd 29 (by decide)
        have e89 : a'.eval (.tmp 89) = (.int .i64 f) := hd 30 (by decide)
        have e90 : a'.eval (.tmp 90) = (.int .i64 f) := hd 31 (by decide)
        have e91 : a'.eval (.tmp 91) = (.bool true) := hd 32 (by decide)
        have e92 : a'.eval (.tmp 92) = (.bool true) := hd 33 (by decide)
        have e2 : a'.eval (.tmp 2) = (.bool true) := hd 34 (by decide)
        have hact := act_puts hdef hsz hfr
        simp only [dstsOf, List.filterMap, putAll, Act.put, List.setIfInBounds_toArray, List.set_cons_succ, List.set_cons_zero, e59, e60, e61, e62, e63, e64, e65, e66, e67, e68, e69, e70, e71, e72, e73, e74, e75, e76, e77, e78, e79, e80, e81, e82, e83, e84, e85, e86, e87, e88, e89, e90, e91, e92, e2] at hact
        clear hd hfr hsz hdef e59 e60 e61 e62 e63 e64 e65 e66 e67 e68 e69 e70 e71 e72 e73 e74 e75 e76 e77 e78 e79 e80 e81 e82 e83 e84 e85 e86 e87 e88 e89 e90 e91 e92 e2
        subst hact
        replace B := B.trans (hC.mono B.size)
        clear hC
        go_wp2_with fail
        go_ret
        exact ⟨rfl, B⟩

theorem planChecks_all (l s k : Int) (n : Nat) (w : World) (h : -9223372036854775808 ≤ l ∧ l ≤ 9223372036854775807 ∧ -9223372036854775808 ≤ s ∧ s ≤ 9223372036854775807 ∧ -9223372036854775808 ≤ k ∧ k ≤ 9223372036854775807 ∧ n < 4294967296) (hT : PowTab w) :
    Calls Tryd.prog 3 #[.agg #[.int .i64 l, .int .i64 s, .int .i64 k, .int .u32 (n : Int)]] w fun e w' => e = .returned (.bool true) ∧ Below w.heap.size w w' := by
  obtain ⟨h0, h1, h2, h3, h4, h5, h6⟩ := h
  exact planChecks_walk l s k n w h0 h1 h2 h3 h4 h5 h6 hT

end Go.Proofs.YtphdadibfeencaaDoor
