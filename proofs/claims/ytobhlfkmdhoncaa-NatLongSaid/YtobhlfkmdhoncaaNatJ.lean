/-
  The program's numbers (layer 6): 'Pow'.
-/
import Derived.Test.YtobhlfkmdhoncaaNatH
set_option maxRecDepth 100000
namespace Go.Proofs.Ytobhlfkmdhoncaa
open Go.RowKit


set_option maxHeartbeats 400000 in
theorem natadd_any (v : Value) (ns : List Nat) (w : World) (hns : ∀ i, i < ns.length → ¬ Great (nth ns i)) (hV : IsNats w v ns) :
    Calls Try.prog 36 #[v] w (NatE w (foldN (foldG (· + ·) 0 ns)) (foldE (foldG (· + ·) 0 ns))) := by
  have HV := Lib.hid hV
  have HNS := Lib.hid hns
  obtain ⟨a, cap, rfl, _⟩ := hV
  have HC := Lib.hid (fun W h => foldplus_any (.agg #[.slice none 0 0]) (.slice a ns.length cap) 0 ns W (not_great_small (by decide)) HNS.out (nat_zero W) h)
  clear hns
  generalize foldG (· + ·) 0 ns = r at *
  go_enter Try.func36, Try.ntmps36
  go_upto_region 1 with fail
  obtain ⟨B, hk1, hs⟩ := blocks1 w #[.slice none 0 0] 47
  generalize (w.alloc (.cells #[.slice none 0 0] 47)) = W at *
  have K1 := Lib.hid hk1
  have HS := Lib.hid hs
  clear hs hk1
  replace HV := Lib.hid (HV.out.go B)
  have hzW := B.size
  go_wp2_with fail
  refine (HC.out W HV.out).mono ?_
  rintro e w2 ⟨u2, rfl, hu, hb⟩
  obtain ⟨a2, c2, rfl, hv, _⟩ := hu.shape
  have k3 := K1.out.go hb
  have hf0 := k3.free 0
  have h0 : w2.cell? ⟨w.heap.size, 0, none⟩ = some (.slice none 0 0) := k3.cell 0
  have HS2 := Lib.hid (nat_store k3 hv)
  have HB2 := Lib.hid (B.trans (hb.mono B.size))
  clear hv hu k3 hb
  generalize foldN r = n at *
  generalize foldE r = er at *
  generalize (Wt.dg n).length = M at *
  go_wp2_with fail
  exact bodyPost_ret (v := .tuple #[.agg #[.slice a2 M c2], I64 er]) (by simp [results, Try.results36, go_sem, HS2.out.1]) rfl ⟨_, rfl, ⟨_, rfl, HS2.out.2⟩, HB2.out.setCell (Nat.le_refl _) _⟩

set_option maxHeartbeats 400000 in
theorem natmul_any (v : Value) (ns : List Nat) (w : World) (hns : ∀ i, i < ns.length → ¬ Great (nth ns i)) (hV : IsNats w v ns) :
    Calls Try.prog 37 #[v] w (NatE w (foldN (foldG (· * ·) 1 ns)) (foldE (foldG (· * ·) 1 ns))) := by
  have HV := Lib.hid hV
  have HNS := Lib.hid hns
  obtain ⟨a, cap, rfl, _⟩ := hV
  have HC := Lib.hid (fun u W h1 h => foldtimes_any u (.slice a ns.length cap) 1 ns W (not_great_small (by decide)) HNS.out h1 h)
  clear hns
  generalize foldG (· * ·) 1 ns = r at *
  go_enter Try.func37, Try.ntmps37
  go_upto_region 1 with fail
  obtain ⟨B, hk1, hs⟩ := blocks1 w #[.slice none 0 0] 47
  generalize (w.alloc (.cells #[.slice none 0 0] 47)) = W at *
  have K1 := Lib.hid hk1
  have HS := Lib.hid hs
  clear hs hk1
  replace HV := Lib.hid (HV.out.go B)
  have hzW := B.size
  go_wp2_with fail
  refine (natof_any 1 W (by decide)).mono ?_
  rintro e w1 ⟨u1, rfl, hu, hb⟩
  have HU := Lib.hid hu
  obtain ⟨a1, c1, rfl, _⟩ := hu.shape
  replace HV := Lib.hid (HV.out.go hb)
  replace K1 := Lib.hid (K1.out.go hb)
  replace B := B.trans (hb.mono B.size)
  clear hu hb
  generalize (Wt.dg 1).length = l1 at *
  go_wp2_with fail
  refine (HC.out _ w1 HU.out HV.out).mono ?_
  rintro e w2 ⟨u2, rfl, hu, hb⟩
  obtain ⟨a2, c2, rfl, hv, _⟩ := hu.shape
  have k3 := K1.out.go hb
  have hf0 := k3.free 0
  have h0 : w2.cell? ⟨w.heap.size, 0, none⟩ = some (.slice none 0 0) := k3.cell 0
  have HS2 := Lib.hid (nat_store k3 hv)
  have HB2 := Lib.hid (B.trans (hb.mono B.size))
  clear hv hu k3 hb
  generalize foldN r = n at *
  generalize foldE r = er at *
  generalize (Wt.dg n).length = M at *
  go_wp2_with fail
  exact bodyPost_ret (v := .tuple #[.agg #[.slice a2 M c2], I64 er]) (by simp [results, Try.results37, go_sem, HS2.out.1]) rfl ⟨_, rfl, ⟨_, rfl, HS2.out.2⟩, HB2.out.setCell (Nat.le_refl _) _⟩


/-- A power, so many times; none from the first on that is too great. -/
def powG (a k : Nat) : Option Nat := foldG (· * ·) 1 (List.replicate k a)
theorem powG_zero (a : Nat) : powG a 0 = some 1 := rfl
theorem powG_succ (a k : Nat) : powG a (k + 1) = (powG a k).bind fun v => if Great (v * a) then none else some (v * a) := by
  unfold powG; rw [List.replicate_succ', foldG_snoc]
theorem powG_none {a k n : Nat} (hk : k ≤ n) (h : powG a k = none) : powG a n = none := by
  unfold powG at h ⊢
  refine foldG_none (k := k) ?_
  rw [List.take_replicate, Nat.min_eq_left hk]; exact h

set_option maxHeartbeats 400000 in
theorem natpow_no (u : Value) (a : Nat) (n : Int) (w : World) (h : n < 0 ∨ (0 ≤ n ∧ 65536 < n)) (hU : IsNat w u a) :
    Calls Try.prog 42 #[u, .int .i64 n] w (NatE w 0 2) := by
  obtain ⟨pa, ca, rfl, _⟩ := hU.shape
  clear hU
  generalize (Wt.dg a).length = ml at *
  rcases h with h | ⟨h0, h⟩
  · go_enter Try.func42, Try.ntmps42
    go_upto_region 1 with fail
    obtain ⟨B, hk1, hk2, hs⟩ := blocks2 w #[.slice pa ml ca] 47 #[.slice none 0 0] 47
    generalize ((w.alloc (.cells #[.slice pa ml ca] 47)).alloc (.cells #[.slice none 0 0] 47)) = W at *
    have K1 := Lib.hid hk1
    have K2 := Lib.hid hk2
    have HS := Lib.hid hs
    clear hs hk1 hk2
    have hzW := B.size
    have hf0 := K2.out.free 0
    have h0 : W.cell? ⟨w.heap.size + 1, 0, none⟩ = some (.slice none 0 0) := K2.out.cell 0
    have e0 : ∀ v, (W.setCell ⟨w.heap.size + 1, 0, none⟩ v).cell? ⟨w.heap.size + 1, 0, none⟩ = some v := fun v => (K2.out.set 0 v).cell 0
    go_wp2_with fail
    exact bodyPost_ret (v := .tuple #[.agg #[.slice none 0 0], I64 2]) (by simp [results, Try.results42, go_sem, e0]) rfl ⟨_, rfl, nat_zero _, B.setCell (by show w.heap.size ≤ w.heap.size + 1; omega) _⟩
  · have h2 : ¬ n < 0 := by omega
    go_enter Try.func42, Try.ntmps42
    go_upto_region 1 with fail
    obtain ⟨B, hk1, hk2, hs⟩ := blocks2 w #[.slice pa ml ca] 47 #[.slice none 0 0] 47
    generalize ((w.alloc (.cells #[.slice pa ml ca] 47)).alloc (.cells #[.slice none 0 0] 47)) = W at *
    have K1 := Lib.hid hk1
    have K2 := Lib.hid hk2
    have HS := Lib.hid hs
    clear hs hk1 hk2
    have hzW := B.size
    have hf0 := K2.out.free 0
    have h0 : W.cell? ⟨w.heap.size + 1, 0, none⟩ = some (.slice none 0 0) := K2.out.cell 0
    have e0 : ∀ v, (W.setCell ⟨w.heap.size + 1, 0, none⟩ v).cell? ⟨w.heap.size + 1, 0, none⟩ = some v := fun v => (K2.out.set 0 v).cell 0
    go_wp2_with fail
    exact bodyPost_ret (v := .tuple #[.agg #[.slice none 0 0], I64 2]) (by simp [results, Try.results42, go_sem, e0]) rfl ⟨_, rfl, nat_zero _, B.setCell (by show w.heap.size ≤ w.heap.size + 1; omega) _⟩

set_option maxHeartbeats 2000000 in
theorem natpow_yes (u : Value) (x n : Nat) (w : World) (hn : n ≤ 65536) (hx : ¬ Great x) (hU : IsNat w u x) :
    Calls Try.prog 42 #[u, .int .i64 n] w (NatE w (foldN (powG x n)) (foldE (powG x n))) := by
  have HU := Lib.hid hU
  obtain ⟨pa, ca, rfl, _⟩ := hU.shape
  have HSM := Lib.hid (show ∀ v, ¬ Great v → (Wt.dg v).length ≤ 100000 from fun v h => Nat.le_trans (small_of h) (by decide))
  have HGX := Lib.hid hx
  have HP0 := Lib.hid (powG_zero x)
  have HPS := Lib.hid (powG_succ x)
  have HPN := Lib.hid (fun k h1 h2 => powG_none (a := x) (k := k) (n := n) h1 h2)
  have HG1 := Lib.hid (not_great_small (n := 1) (by decide))
  clear hU hx
  generalize powG x = pg at *
  generalize hlx : (Wt.dg x).length = lx at *
  clear hlx
  have h2 : ¬ (n : Int) < 0 := by omega
  have h3 : ¬ 65536 < (n : Int) := by omega
  go_enter Try.func42, Try.ntmps42
  go_upto_region 1 with fail
  obtain ⟨B, hk1, hk2, hs⟩ := blocks2 w #[.slice pa lx ca] 47 #[.slice none 0 0] 47
  generalize ((w.alloc (.cells #[.slice pa lx ca] 47)).alloc (.cells #[.slice none 0 0] 47)) = W at *
  have K1 := Lib.hid hk1
  have K2 := Lib.hid hk2
  have HS := Lib.hid hs
  clear hs hk1 hk2
  replace HU := Lib.hid (HU.out.go B)
  have hzW := B.size
  go_wp2_with fail
  refine (natof_any 1 W (by decide)).mono ?_
  rintro e w1 ⟨u1, rfl, hu, hb⟩
  have HV1 := Lib.hid hu
  obtain ⟨a1, c1, rfl, _⟩ := hu.shape
  replace HU := Lib.hid (HU.out.go hb)
  replace K1 := Lib.hid (K1.out.go hb)
  replace K2 := Lib.hid (K2.out.go hb)
  replace B := B.trans (hb.mono B.size)
  have hz1 := hb.size
  clear hu hb
  generalize hl1 : (Wt.dg 1).length = l1 at *
  have HL1 := Lib.hid hl1
  clear hl1
  go_upto_region 4 with fail
  obtain ⟨gp, hgp⟩ : ∃ gp, gp = w1.heap.size := ⟨_, rfl⟩
  obtain ⟨hb, hk, hs⟩ := blocks1 w1 #[.slice a1 l1 c1] 47
  generalize w1.alloc (.cells #[.slice a1 l1 c1] 47) = W2 at *
  have KP := Lib.hid hk
  replace HU := Lib.hid (HU.out.go hb)
  replace K1 := Lib.hid (K1.out.go hb)
  replace K2 := Lib.hid (K2.out.go hb)
  replace HV1 := Lib.hid (HV1.out.go hb)
  replace B := B.trans (hb.mono B.size)
  have hzW2 := B.size
  clear hb hk hs
  rw [← hgp] at KP ⊢
  have hgp2 : w.heap.size + 2 ≤ gp := by have := HS.out; omega
  clear hgp
  go_wp2_with fail
  go_loopw [16] (fun i wr => ∃ (k v : Nat) (a : Option Addr) (c : Nat), k ≤ n ∧ i = .int .i64 k ∧ pg k = some v ∧ ¬ Great v ∧ Blk wr gp #[.slice a (Wt.dg v).length c] 47 ∧ IsNat wr (.agg #[.slice a (Wt.dg v).length c]) v ∧ Blk wr w.heap.size #[.slice pa lx ca] 47 ∧ IsNat wr (.agg #[.slice pa lx ca]) x ∧ Blk wr (w.heap.size + 1) #[.slice none 0 0] 47 ∧ Below w.heap.size w wr) (fun i _ => n - (intOf i).toNat)
  case atStart => exact ⟨0, 1, a1, c1, by omega, rfl, HP0.out, HG1.out, by rw [HL1.out]; exact KP.out, by rw [HL1.out]; exact HV1.out, K1.out, HU.out, K2.out, B⟩
  case round =>
    obtain ⟨k, v, a, c, hk, rfl, hf, hg, hkp, hv, hk1, hx, hk2, B⟩ := hrel
    have HF := Lib.hid hf
    have HG := Lib.hid hg
    have HKP := Lib.hid hkp
    have HVV := Lib.hid hv
    have HK1 := Lib.hid hk1
    have HX := Lib.hid hx
    have HK2 := Lib.hid hk2
    clear hf hg hkp hv hk1 hx hk2
    by_cases hlt : k < n
    · have HKL := Lib.hid hlt
      have HS3 := Lib.hid (show pg (k + 1) = if Great (v * x) then none else some (v * x) by rw [HPS.out, HF.out]; rfl)
      generalize hln : (Wt.dg v).length = ln at *
      clear hln
      have kp0 : wr.cell? ⟨gp, 0, none⟩ = some (.slice a ln c) := HKP.out.cell 0
      have k10 : wr.cell? ⟨w.heap.size, 0, none⟩ = some (.slice pa lx ca) := HK1.out.cell 0
      obtain ⟨wo, hwo⟩ : ∃ wo : World, wo = wr := ⟨_, rfl⟩
      subst hwo
      go_wp2_with fail
      refine (nattimes_any _ _ v x wo (HSM.out _ HG.out) (HSM.out _ HGX.out) HVV.out HX.out).mono ?_
      rintro e w6 ⟨u6, rfl, hu, hb⟩
      obtain ⟨a6, c6, rfl, hw6, _⟩ := hu.shape
      have k8 := HKP.out.go hb
      have h80 : w6.cell? ⟨gp, 0, none⟩ = some (.slice a ln c) := k8.cell 0
      have h8f := k8.free 0
      have hgs := grown_setCell w6 ⟨gp, 0, none⟩ (.slice a6 (Wt.dg (v * x)).length c6)
      have HN6 := Lib.hid (hu.box k8 hgs)
      have HKP6 := Lib.hid (k8.set 0 (.slice a6 (Wt.dg (v * x)).length c6))
      have HK16 := Lib.hid ((HK1.out.go hb).grown hgs (by simp; omega))
      have HK26 := Lib.hid ((HK2.out.go hb).grown hgs (by simp; omega))
      have HX6 := Lib.hid ((HX.out.go hb).box k8 hgs)
      have B6 := (B.trans (hb.mono B.size)).setCell (p := ⟨gp, 0, none⟩) (show w.heap.size ≤ gp by omega) (.slice a6 (Wt.dg (v * x)).length c6)
      have HTG := Lib.hid (fun W h => toogreat_any (.agg #[.slice a6 (Wt.dg (v * x)).length c6]) (v * x) W h)
      have HLG := Lib.hid (show decide (512 < ((Wt.dg (v * x)).length : Int)) = decide (Great (v * x)) from decide_eq_decide.2 ⟨fun h => by unfold Great; omega, fun h => by unfold Great at h; omega⟩)
      rw [HLG.out] at HTG
      clear hu hw6 hb k8 kp0 k10 HLG
      generalize hsum : v * x = sm at *
      generalize hl6 : (Wt.dg sm).length = l6 at *
      have HL6 := Lib.hid hl6
      have e80 : (w6.setCell ⟨gp, 0, none⟩ (.slice a6 l6 c6)).cell? ⟨gp, 0, none⟩ = some (.slice a6 l6 c6) := HKP6.out.cell 0
      clear hsum hl6 hgs
      go_wp2_with fail
      generalize w6.setCell ⟨gp, 0, none⟩ (.slice a6 l6 c6) = w7 at *
      refine (HTG.out w7 HN6.out).mono ?_
      rintro e w8 ⟨rfl, hb⟩
      by_cases hgr : Great sm
      · have hd : decide (Great sm) = true := decide_eq_true hgr
        have HR := Lib.hid (show pg n = none from HPN.out (k + 1) HKL.out (by rw [HS3.out, if_pos hgr]))
        rw [hd]
        have k6 := HK26.out.go hb
        have hf6 := k6.free 0
        have h60 : w8.cell? ⟨w.heap.size + 1, 0, none⟩ = some (.slice none 0 0) := k6.cell 0
        have B8 := B6.trans (hb.mono B6.size)
        have k60 : ∀ u, (w8.setCell ⟨w.heap.size + 1, 0, none⟩ u).cell? ⟨w.heap.size + 1, 0, none⟩ = some u := fun u => (k6.set 0 u).cell 0
        clear hb hgr hd k6
        go_wp2_with fail
        rw [HR.out]
        exact bodyPost_ret (v := .tuple #[.agg #[.slice none 0 0], I64 16]) (by simp [results, Try.results42, go_sem, k60]) rfl ⟨_, rfl, nat_zero _, B8.setCell (by show w.heap.size ≤ w.heap.size + 1; omega) _⟩
      · have hd : decide (Great sm) = false := decide_eq_false hgr
        rw [hd]
        have HKP8 := Lib.hid (HKP6.out.go hb)
        have HN8 := Lib.hid (HN6.out.go hb)
        have HK18 := Lib.hid (HK16.out.go hb)
        have HK28 := Lib.hid (HK26.out.go hb)
        have HX8 := Lib.hid (HX6.out.go hb)
        have B8 := Lib.hid (B6.trans (hb.mono B6.size))
        have HNG := Lib.hid hgr
        clear hb hgr hd B6
        go_wp2_with fail
        have h9 := HKL.out
        refine ⟨⟨k + 1, sm, a6, c6, h9, by go_num, by rw [HS3.out, if_neg HNG.out], HNG.out, by rw [HL6.out]; exact HKP8.out, by rw [HL6.out]; exact HN8.out, HK18.out, HX8.out, HK28.out, B8.out⟩, by simp [intOf]; omega⟩
    · obtain rfl : k = n := by omega
      have h80 : wr.cell? ⟨gp, 0, none⟩ = some (.slice a (Wt.dg v).length c) := HKP.out.cell 0
      have hf6 := HK2.out.free 0
      have h60 : wr.cell? ⟨w.heap.size + 1, 0, none⟩ = some (.slice none 0 0) := HK2.out.cell 0
      have hgs := grown_setCell wr ⟨w.heap.size + 1, 0, none⟩ (.slice a (Wt.dg v).length c)
      have HN8 := Lib.hid (HVV.out.box HK2.out hgs)
      have HKE := Lib.hid ((HK2.out.set 0 (.slice a (Wt.dg v).length c)).cell 0)
      clear hgs
      generalize (Wt.dg v).length = lv at *
      go_wp2_with fail
      rw [HF.out]
      exact bodyPost_ret (v := .tuple #[.agg #[.slice a lv c], I64 0]) (by have h := HKE.out; simp at h; simp [results, Try.results42, go_sem, h]) rfl ⟨_, rfl, HN8.out, B.setCell (by show w.heap.size ≤ w.heap.size + 1; omega) _⟩

end Go.Proofs.Ytobhlfkmdhoncaa
