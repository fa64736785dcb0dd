/-
  The laws of numbers (layer 6), walked: NatLaws.
-/
import Derived.Test.YtobhlfkmdhoncaaLawSixB
import Derived.Test.YtobhlfkmdhoncaaMonoW
set_option maxRecDepth 100000
namespace Go.Proofs.Ytobhlfkmdhoncaa
open Go.RowKit

theorem pow_bound' {x k : Nat} (h : x < 256 ^ 60) : ∀ j, j ≤ k → x ^ j < 256 ^ (60 * k + 1) := fun j hj => by
  have h1 : x ^ j ≤ (256 ^ 60) ^ j := Nat.pow_le_pow_left (Nat.le_of_lt h) j
  rw [← Nat.pow_mul] at h1
  refine Nat.lt_of_le_of_lt h1 ((Nat.pow_lt_pow_iff_right (by decide)).2 ?_)
  have := Nat.mul_le_mul_left 60 hj
  omega
theorem cmp_self (n : Nat) : Nt.cmp n n = 0 := Nt.cmp_eq rfl
theorem cmp_neg (m n : Nat) : Nt.cmp m n = -Nt.cmp n m := by
  rcases Nat.lt_trichotomy m n with h | h | h
  · rw [Nt.cmp_lt h, Nt.cmp_gt h]
  · subst h; rw [cmp_self]; rfl
  · rw [Nt.cmp_gt h, Nt.cmp_lt h]; rfl
/-- Two numbers that are the same. -/
theorem cmp_same (u v : Value) (m n : Nat) (w : World) (h : m = n) (hU : IsNat w u m) (hV : IsNat w v n) :
    Calls Try.prog 34 #[u, v] w fun e w' => e = .returned (.int .i64 0) ∧ Below w.heap.size w w' := by
  have h1 := natcmp_any u v m n w hU hV
  subst h
  rw [cmp_self] at h1
  exact h1

theorem cmp_small (m n : Nat) : -1 ≤ Nt.cmp m n ∧ Nt.cmp m n ≤ 1 := by unfold Nt.cmp; split <;> (try split) <;> decide
/-- What is added is taken away again. -/
theorem sub_back (u v : Value) (y z : Nat) (w : World) (h : ¬ Great (y + z)) (hU : IsNat w u (y + z)) (hV : IsNat w v z) :
    Calls Try.prog 38 #[u, v] w (NatE w y 0) := by
  have h1 := natsub_any u v (y + z) z w (words_small h) hU hV
  rw [if_neg (by omega), Nat.add_sub_cancel] at h1
  exact h1
section
variable {P : Program} {C : World → Prop} {R : World → World → Prop} {H : Nat → World → World → Prop} {a : Act} {w : World} {o : Oper} {Q : Exit → Act → World → Prop}
theorem ob_neg {T : Ty C R H} {t : Tmp} {x : Operand} {c : Int} (d : Int) (hS : T.S = [t]) (hh : T.kind = none) (hd : o.dst = some t) (hlt : t < a.tmps.size) (hop : o.op = .unOp .neg 3 x) (hx : a.eval x = .int .i64 c)
    (hrun : (Op.intArith BinOp.sub IntKind.i64 0 c).run P w = .ok (.int .i64 d) w) (hR : R w w) (hF : T.F [.int .i64 d] w) : Done P T Q o a w := by
  refine ob_value (.int .i64 d) w hS hh hd hlt ?_ hR hF
  simp [execOp, hop, hx, Op.unary, hrun]
end

theorem neg_run {c : Int} (h : -1 ≤ c ∧ c ≤ 1) (w : World) : (Op.intArith BinOp.sub IntKind.i64 0 (-c)).run Try.prog w = .ok (.int .i64 c) w := by
  rcases (show c = -1 ∨ c = 0 ∨ c = 1 by omega) with rfl | rfl | rfl <;> rfl

set_option maxHeartbeats 16000000 in
theorem natlaws_few (v0 v1 v2 : Value) (a b c : List Nat) (m n : Nat) (w : World) (h0 : a.length ≤ 60) (h1 : b.length ≤ 60) (h2 : c.length ≤ 60) (hm : m < 256) (hn : n < 256) (hA : Bytes w v0 a) (hB : Bytes w v1 b) (hC : Bytes w v2 c) :
    Calls Try.prog 9 #[v0, v1, v2, U8 m, U8 n] w (Yea w) := by
  have B : Below w.heap.size w w := Below.refl _ _
  have HA := Lib.hid hA
  have HB := Lib.hid hB
  have HC := Lib.hid hC
  have hxs := val_small hA.lt h0
  have hys := val_small hB.lt h1
  have hzs := val_small hC.lt h2
  have HTA := Lib.hid (fun w h => to_any v0 a w (Nat.le_trans h0 (by decide)) h)
  have HTB := Lib.hid (fun w h => to_any v1 b w (Nat.le_trans h1 (by decide)) h)
  have HTC := Lib.hid (fun w h => to_any v2 c w (Nat.le_trans h2 (by decide)) h)
  obtain ⟨pa, ca, rfl, _⟩ := hA
  obtain ⟨pb, cb, rfl, _⟩ := hB
  obtain ⟨pc, cc, rfl, _⟩ := hC
  generalize hvx : Nt.val a = x at *
  generalize hvy : Nt.val b = y at *
  generalize hvz : Nt.val c = z at *
  clear hvx hvy hvz
  have HXG := Lib.hid (not_great hxs (by decide))
  have HYG := Lib.hid (not_great hys (by decide))
  have HZG := Lib.hid (not_great hzs (by decide))
  have hxy : x * y < 256 ^ (60 + 60) := by rw [Nat.pow_add]; exact Nat.mul_lt_mul'' hxs hys
  have hxz : x * z < 256 ^ (60 + 60) := by rw [Nat.pow_add]; exact Nat.mul_lt_mul'' hxs hzs
  have hzx : z * x < 256 ^ (60 + 60) := by rw [Nat.pow_add]; exact Nat.mul_lt_mul'' hzs hxs
  have HS1 := Lib.hid (not_great (n := x + y + z) (k := 61) (by rw [Nat.pow_succ]; omega) (by decide))
  have HS2 := Lib.hid (not_great (n := z + y + x) (k := 61) (by rw [Nat.pow_succ]; omega) (by decide))
  have HYZ := Lib.hid (not_great (n := y + z) (k := 61) (by rw [Nat.pow_succ]; omega) (by decide))
  have HXY := Lib.hid (not_great hxy (by decide))
  have HXZ := Lib.hid (not_great hxz (by decide))
  have HZX := Lib.hid (not_great hzx (by decide))
  have HP1 := Lib.hid (not_great (n := x * y * z) (k := 60 + 60 + 60) (by rw [Nat.pow_add]; exact Nat.mul_lt_mul'' hxy hzs) (by decide))
  have HP2 := Lib.hid (not_great (n := z * x * y) (k := 60 + 60 + 60) (by rw [Nat.pow_add]; exact Nat.mul_lt_mul'' hzx hys) (by decide))
  have HLE := Lib.hid (not_great (n := x * (y + z)) (k := 60 + 61) (by rw [Nat.pow_add]; exact Nat.mul_lt_mul'' hxs (by rw [Nat.pow_succ]; omega)) (by decide))
  have HRI := Lib.hid (not_great (n := x * y + x * z) (k := 60 + 61) (by rw [← Nat.mul_add, Nat.pow_add]; exact Nat.mul_lt_mul'' hxs (by rw [Nat.pow_succ]; omega)) (by decide))
  have HPW := Lib.hid (show ∀ k, k ≤ 18 → ∀ j, j ≤ k → ¬ Great (x ^ j) from fun k hk j hj => not_great (pow_bound' hxs j hj) (by omega))
  clear hxs hys hzs hxy hxz hzx
  obtain ⟨i, hi⟩ : ∃ i : Nat, i = m % 10 := ⟨_, rfl⟩
  obtain ⟨k, hk⟩ : ∃ k : Nat, k = n % 10 := ⟨_, rfl⟩
  have HII := Lib.hid (show (m : Int) % 10 = (i : Int) by omega)
  have HKI := Lib.hid (show (n : Int) % 10 = (k : Int) by omega)
  have HI9 := Lib.hid (show i ≤ 9 by omega)
  have HK9 := Lib.hid (show k ≤ 9 by omega)
  clear hi hk
  go_enter Try.func9, Try.ntmps9
  go_wp2_with fail
  refine (awake6_any _).mono ?_
  rintro e w1 ⟨rfl, hb⟩
  replace HA := Lib.hid (HA.out.go hb)
  replace HB := Lib.hid (HB.out.go hb)
  replace HC := Lib.hid (HC.out.go hb)
  replace B := B.trans (hb.mono B.size)
  clear hb
  go_wp2_with fail
  refine (HTA.out w1 HA.out).mono ?_
  rintro e w2 ⟨u11, rfl, hu, hb⟩
  have HU11 := Lib.hid hu
  obtain ⟨a11, c11, rfl, _⟩ := hu.shape
  replace HA := Lib.hid (HA.out.go hb)
  replace HB := Lib.hid (HB.out.go hb)
  replace HC := Lib.hid (HC.out.go hb)
  replace B := B.trans (hb.mono B.size)
  clear hb hu
  generalize hll : (Wt.dg x).length = l11 at *
  clear hll
  go_wp2_with fail
  refine (HTB.out w2 HB.out).mono ?_
  rintro e w3 ⟨u12, rfl, hu, hb⟩
  have HU12 := Lib.hid hu
  obtain ⟨a12, c12, rfl, _⟩ := hu.shape
  replace HA := Lib.hid (HA.out.go hb)
  replace HB := Lib.hid (HB.out.go hb)
  replace HC := Lib.hid (HC.out.go hb)
  replace HU11 := Lib.hid (HU11.out.go hb)
  replace B := B.trans (hb.mono B.size)
  clear hb hu
  generalize hll : (Wt.dg y).length = l12 at *
  clear hll
  go_wp2_with fail
  refine (HTC.out w3 HC.out).mono ?_
  rintro e w4 ⟨u13, rfl, hu, hb⟩
  have HU13 := Lib.hid hu
  obtain ⟨a13, c13, rfl, _⟩ := hu.shape
  replace HA := Lib.hid (HA.out.go hb)
  replace HB := Lib.hid (HB.out.go hb)
  replace HC := Lib.hid (HC.out.go hb)
  replace HU11 := Lib.hid (HU11.out.go hb)
  replace HU12 := Lib.hid (HU12.out.go hb)
  replace B := B.trans (hb.mono B.size)
  clear hb hu
  generalize hll : (Wt.dg z).length = l13 at *
  clear hll HA HB HC
  go_upto_region 6 with fail
  obtain ⟨hb, hk1, hk2, hk3, hs⟩ := blocks3 w4 #[.slice a11 l11 c11] 47 #[.slice a12 l12 c12] 47 #[.slice a13 l13 c13] 47
  generalize ((w4.alloc (.cells #[.slice a11 l11 c11] 47)).alloc (.cells #[.slice a12 l12 c12] 47)).alloc (.cells #[.slice a13 l13 c13] 47) = W5 at *
  have N11 := Lib.hid (show BoxN W5 w4.heap.size x from ⟨_, _, _, hk1.cell 0, HU11.out.go hb⟩)
  have N12 := Lib.hid (show BoxN W5 (w4.heap.size + 1) y from ⟨_, _, _, hk2.cell 0, HU12.out.go hb⟩)
  have N13 := Lib.hid (show BoxN W5 (w4.heap.size + 1 + 1) z from ⟨_, _, _, hk3.cell 0, HU13.out.go hb⟩)
  replace B := B.trans (hb.mono B.size)
  clear hb hk1 hk2 hk3 hs HU11 HU12 HU13
  obtain ⟨g11, hg11⟩ : ∃ g, g = w4.heap.size := ⟨_, rfl⟩
  obtain ⟨g12, hg12⟩ : ∃ g, g = w4.heap.size + 1 := ⟨_, rfl⟩
  obtain ⟨g13, hg13⟩ : ∃ g, g = w4.heap.size + 1 + 1 := ⟨_, rfl⟩
  rw [← hg13] at N13 ⊢
  rw [← hg12] at N12 ⊢
  rw [← hg11] at N11 ⊢
  clear hg11 hg12 hg13
  obtain ⟨a1, l1, c1, hc1, hn1⟩ := N11.out
  obtain ⟨a2, l2, c2, hc2, hn2⟩ := N12.out
  obtain ⟨a3, l3, c3, hc3, hn3⟩ := N13.out
  go_wp2_with fail
  have HNS := Lib.hid (isNats3 47 hn1 hn2 hn3)
  have hbs := (blocks1 W5 #[.slice a1 l1 c1, .slice a2 l2 c2, .slice a3 l3 c3] 47).1
  replace N11 := Lib.hid (N11.out.go hbs)
  replace N12 := Lib.hid (N12.out.go hbs)
  replace N13 := Lib.hid (N13.out.go hbs)
  replace B := B.trans (hbs.mono B.size)
  clear hbs hc1 hc2 hc3 hn1 hn2 hn3
  refine (add_three _ x y z _ HS1.out HNS.out).mono ?_
  rintro e v14 ⟨u, rfl, hu, hb⟩
  have HUX := Lib.hid hu
  obtain ⟨ax, cx, rfl, _⟩ := hu.shape
  replace N11 := Lib.hid (N11.out.go hb)
  replace N12 := Lib.hid (N12.out.go hb)
  replace N13 := Lib.hid (N13.out.go hb)
  replace B := B.trans (hb.mono B.size)
  clear hb hu
  generalize hll : (Wt.dg (x + y + z)).length = lx' at *
  clear hll
  clear HNS
  go_upto_region 7 with fail
  have HBX := Lib.hid (BoxN.new 47 rfl HUX.out)
  have hb := (blocks1 v14 #[.slice ax lx' cx] 47).1
  replace N11 := Lib.hid (N11.out.go hb)
  replace N12 := Lib.hid (N12.out.go hb)
  replace N13 := Lib.hid (N13.out.go hb)
  replace B := B.trans (hb.mono B.size)
  obtain ⟨g14, hg⟩ : ∃ g14, g14 = v14.heap.size := ⟨_, rfl⟩
  rw [← hg] at HBX ⊢
  generalize v14.alloc (.cells #[.slice ax lx' cx] 47) = W14 at *
  have N14 := HBX
  clear hb hg HBX HUX
  obtain ⟨a1, l1, c1, hc1, hn1⟩ := N13.out
  obtain ⟨a2, l2, c2, hc2, hn2⟩ := N12.out
  obtain ⟨a3, l3, c3, hc3, hn3⟩ := N11.out
  go_wp2_with fail
  have HNS := Lib.hid (isNats3 47 hn1 hn2 hn3)
  have hbs := (blocks1 W14 #[.slice a1 l1 c1, .slice a2 l2 c2, .slice a3 l3 c3] 47).1
  replace N11 := Lib.hid (N11.out.go hbs)
  replace N12 := Lib.hid (N12.out.go hbs)
  replace N13 := Lib.hid (N13.out.go hbs)
  replace N14 := Lib.hid (N14.out.go hbs)
  replace B := B.trans (hbs.mono B.size)
  clear hbs hc1 hc2 hc3 hn1 hn2 hn3
  refine (add_three _ z y x _ HS2.out HNS.out).mono ?_
  rintro e v16 ⟨u, rfl, hu, hb⟩
  have HUX := Lib.hid hu
  obtain ⟨ax, cx, rfl, _⟩ := hu.shape
  replace N11 := Lib.hid (N11.out.go hb)
  replace N12 := Lib.hid (N12.out.go hb)
  replace N13 := Lib.hid (N13.out.go hb)
  replace N14 := Lib.hid (N14.out.go hb)
  replace B := B.trans (hb.mono B.size)
  clear hb hu
  generalize hll : (Wt.dg (z + y + x)).length = lx' at *
  clear hll
  clear HNS
  go_upto_region 8 with fail
  have HBX := Lib.hid (BoxN.new 47 rfl HUX.out)
  have hb := (blocks1 v16 #[.slice ax lx' cx] 47).1
  replace N11 := Lib.hid (N11.out.go hb)
  replace N12 := Lib.hid (N12.out.go hb)
  replace N13 := Lib.hid (N13.out.go hb)
  replace N14 := Lib.hid (N14.out.go hb)
  replace B := B.trans (hb.mono B.size)
  obtain ⟨g16, hg⟩ : ∃ g16, g16 = v16.heap.size := ⟨_, rfl⟩
  rw [← hg] at HBX ⊢
  generalize v16.alloc (.cells #[.slice ax lx' cx] 47) = W16 at *
  have N16 := HBX
  clear hb hg HBX HUX
  obtain ⟨a1, l1, c1, hc1, hn1⟩ := N11.out
  obtain ⟨a2, l2, c2, hc2, hn2⟩ := N12.out
  obtain ⟨a3, l3, c3, hc3, hn3⟩ := N13.out
  go_wp2_with fail
  have HNS := Lib.hid (isNats3 47 hn1 hn2 hn3)
  have hbs := (blocks1 W16 #[.slice a1 l1 c1, .slice a2 l2 c2, .slice a3 l3 c3] 47).1
  replace N11 := Lib.hid (N11.out.go hbs)
  replace N12 := Lib.hid (N12.out.go hbs)
  replace N13 := Lib.hid (N13.out.go hbs)
  replace N14 := Lib.hid (N14.out.go hbs)
  replace N16 := Lib.hid (N16.out.go hbs)
  replace B := B.trans (hbs.mono B.size)
  clear hbs hc1 hc2 hc3 hn1 hn2 hn3
  refine (mul_three _ x y z _ HXG.out HYG.out HZG.out HXY.out HP1.out HNS.out).mono ?_
  rintro e v18 ⟨u, rfl, hu, hb⟩
  have HUX := Lib.hid hu
  obtain ⟨ax, cx, rfl, _⟩ := hu.shape
  replace N11 := Lib.hid (N11.out.go hb)
  replace N12 := Lib.hid (N12.out.go hb)
  replace N13 := Lib.hid (N13.out.go hb)
  replace N14 := Lib.hid (N14.out.go hb)
  replace N16 := Lib.hid (N16.out.go hb)
  replace B := B.trans (hb.mono B.size)
  clear hb hu
  generalize hll : (Wt.dg (x * y * z)).length = lx' at *
  clear hll
  clear HNS
  go_upto_region 9 with fail
  have HBX := Lib.hid (BoxN.new 47 rfl HUX.out)
  have hb := (blocks1 v18 #[.slice ax lx' cx] 47).1
  replace N11 := Lib.hid (N11.out.go hb)
  replace N12 := Lib.hid (N12.out.go hb)
  replace N13 := Lib.hid (N13.out.go hb)
  replace N14 := Lib.hid (N14.out.go hb)
  replace N16 := Lib.hid (N16.out.go hb)
  replace B := B.trans (hb.mono B.size)
  obtain ⟨g18, hg⟩ : ∃ g18, g18 = v18.heap.size := ⟨_, rfl⟩
  rw [← hg] at HBX ⊢
  generalize v18.alloc (.cells #[.slice ax lx' cx] 47) = W18 at *
  have N18 := HBX
  clear hb hg HBX HUX
  obtain ⟨a1, l1, c1, hc1, hn1⟩ := N13.out
  obtain ⟨a2, l2, c2, hc2, hn2⟩ := N11.out
  obtain ⟨a3, l3, c3, hc3, hn3⟩ := N12.out
  go_wp2_with fail
  have HNS := Lib.hid (isNats3 47 hn1 hn2 hn3)
  have hbs := (blocks1 W18 #[.slice a1 l1 c1, .slice a2 l2 c2, .slice a3 l3 c3] 47).1
  replace N11 := Lib.hid (N11.out.go hbs)
  replace N12 := Lib.hid (N12.out.go hbs)
  replace N13 := Lib.hid (N13.out.go hbs)
  replace N14 := Lib.hid (N14.out.go hbs)
  replace N16 := Lib.hid (N16.out.go hbs)
  replace N18 := Lib.hid (N18.out.go hbs)
  replace B := B.trans (hbs.mono B.size)
  clear hbs hc1 hc2 hc3 hn1 hn2 hn3
  refine (mul_three _ z x y _ HZG.out HXG.out HYG.out HZX.out HP2.out HNS.out).mono ?_
  rintro e v20 ⟨u, rfl, hu, hb⟩
  have HUX := Lib.hid hu
  obtain ⟨ax, cx, rfl, _⟩ := hu.shape
  replace N11 := Lib.hid (N11.out.go hb)
  replace N12 := Lib.hid (N12.out.go hb)
  replace N13 := Lib.hid (N13.out.go hb)
  replace N14 := Lib.hid (N14.out.go hb)
  replace N16 := Lib.hid (N16.out.go hb)
  replace N18 := Lib.hid (N18.out.go hb)
  replace B := B.trans (hb.mono B.size)
  clear hb hu
  generalize hll : (Wt.dg (z * x * y)).length = lx' at *
  clear hll
  clear HNS
  go_upto_region 10 with fail
  have HBX := Lib.hid (BoxN.new 47 rfl HUX.out)
  have hb := (blocks1 v20 #[.slice ax lx' cx] 47).1
  replace N11 := Lib.hid (N11.out.go hb)
  replace N12 := Lib.hid (N12.out.go hb)
  replace N13 := Lib.hid (N13.out.go hb)
  replace N14 := Lib.hid (N14.out.go hb)
  replace N16 := Lib.hid (N16.out.go hb)
  replace N18 := Lib.hid (N18.out.go hb)
  replace B := B.trans (hb.mono B.size)
  obtain ⟨g20, hg⟩ : ∃ g20, g20 = v20.heap.size := ⟨_, rfl⟩
  rw [← hg] at HBX ⊢
  generalize v20.alloc (.cells #[.slice ax lx' cx] 47) = W20 at *
  have N20 := HBX
  clear hb hg HBX HUX
  obtain ⟨a1, l1, c1, hc1, hn1⟩ := N12.out
  obtain ⟨a2, l2, c2, hc2, hn2⟩ := N13.out
  go_wp2_with fail
  have HNS := Lib.hid (isNats2 47 hn1 hn2)
  have hbs := (blocks1 W20 #[.slice a1 l1 c1, .slice a2 l2 c2] 47).1
  replace N11 := Lib.hid (N11.out.go hbs)
  replace N12 := Lib.hid (N12.out.go hbs)
  replace N13 := Lib.hid (N13.out.go hbs)
  replace N14 := Lib.hid (N14.out.go hbs)
  replace N16 := Lib.hid (N16.out.go hbs)
  replace N18 := Lib.hid (N18.out.go hbs)
  replace N20 := Lib.hid (N20.out.go hbs)
  replace B := B.trans (hbs.mono B.size)
  clear hbs hc1 hc2 hn1 hn2
  refine (add_two _ y z _ HYG.out HZG.out HYZ.out HNS.out).mono ?_
  rintro e v22 ⟨u, rfl, hu, hb⟩
  have HUX := Lib.hid hu
  obtain ⟨ax, cx, rfl, _⟩ := hu.shape
  replace N11 := Lib.hid (N11.out.go hb)
  replace N12 := Lib.hid (N12.out.go hb)
  replace N13 := Lib.hid (N13.out.go hb)
  replace N14 := Lib.hid (N14.out.go hb)
  replace N16 := Lib.hid (N16.out.go hb)
  replace N18 := Lib.hid (N18.out.go hb)
  replace N20 := Lib.hid (N20.out.go hb)
  replace B := B.trans (hb.mono B.size)
  clear hb hu
  generalize hll : (Wt.dg (y + z)).length = lx' at *
  clear hll
  clear HNS
  go_upto_region 11 with fail
  have HBX := Lib.hid (BoxN.new 47 rfl HUX.out)
  have hb := (blocks1 v22 #[.slice ax lx' cx] 47).1
  replace N11 := Lib.hid (N11.out.go hb)
  replace N12 := Lib.hid (N12.out.go hb)
  replace N13 := Lib.hid (N13.out.go hb)
  replace N14 := Lib.hid (N14.out.go hb)
  replace N16 := Lib.hid (N16.out.go hb)
  replace N18 := Lib.hid (N18.out.go hb)
  replace N20 := Lib.hid (N20.out.go hb)
  replace B := B.trans (hb.mono B.size)
  obtain ⟨g22, hg⟩ : ∃ g22, g22 = v22.heap.size := ⟨_, rfl⟩
  rw [← hg] at HBX ⊢
  generalize v22.alloc (.cells #[.slice ax lx' cx] 47) = W22 at *
  have N22 := HBX
  clear hb hg HBX HUX
  obtain ⟨a1, l1, c1, hc1, hn1⟩ := N11.out
  obtain ⟨a2, l2, c2, hc2, hn2⟩ := N22.out
  go_wp2_with fail
  have HNS := Lib.hid (isNats2 47 hn1 hn2)
  have hbs := (blocks1 W22 #[.slice a1 l1 c1, .slice a2 l2 c2] 47).1
  replace N11 := Lib.hid (N11.out.go hbs)
  replace N12 := Lib.hid (N12.out.go hbs)
  replace N13 := Lib.hid (N13.out.go hbs)
  replace N14 := Lib.hid (N14.out.go hbs)
  replace N16 := Lib.hid (N16.out.go hbs)
  replace N18 := Lib.hid (N18.out.go hbs)
  replace N20 := Lib.hid (N20.out.go hbs)
  replace N22 := Lib.hid (N22.out.go hbs)
  replace B := B.trans (hbs.mono B.size)
  clear hbs hc1 hc2 hn1 hn2
  refine (mul_two _ x (y + z) _ HXG.out HYZ.out HLE.out HNS.out).mono ?_
  rintro e v24 ⟨u, rfl, hu, hb⟩
  have HUX := Lib.hid hu
  obtain ⟨ax, cx, rfl, _⟩ := hu.shape
  replace N11 := Lib.hid (N11.out.go hb)
  replace N12 := Lib.hid (N12.out.go hb)
  replace N13 := Lib.hid (N13.out.go hb)
  replace N14 := Lib.hid (N14.out.go hb)
  replace N16 := Lib.hid (N16.out.go hb)
  replace N18 := Lib.hid (N18.out.go hb)
  replace N20 := Lib.hid (N20.out.go hb)
  replace N22 := Lib.hid (N22.out.go hb)
  replace B := B.trans (hb.mono B.size)
  clear hb hu
  generalize hll : (Wt.dg (x * (y + z))).length = lx' at *
  clear hll
  clear HNS
  go_upto_region 12 with fail
  have HBX := Lib.hid (BoxN.new 47 rfl HUX.out)
  have hb := (blocks1 v24 #[.slice ax lx' cx] 47).1
  replace N11 := Lib.hid (N11.out.go hb)
  replace N12 := Lib.hid (N12.out.go hb)
  replace N13 := Lib.hid (N13.out.go hb)
  replace N14 := Lib.hid (N14.out.go hb)
  replace N16 := Lib.hid (N16.out.go hb)
  replace N18 := Lib.hid (N18.out.go hb)
  replace N20 := Lib.hid (N20.out.go hb)
  replace N22 := Lib.hid (N22.out.go hb)
  replace B := B.trans (hb.mono B.size)
  obtain ⟨g24, hg⟩ : ∃ g24, g24 = v24.heap.size := ⟨_, rfl⟩
  rw [← hg] at HBX ⊢
  generalize v24.alloc (.cells #[.slice ax lx' cx] 47) = W24 at *
  have N24 := HBX
  clear hb hg HBX HUX
  obtain ⟨a1, l1, c1, hc1, hn1⟩ := N11.out
  obtain ⟨a2, l2, c2, hc2, hn2⟩ := N12.out
  go_wp2_with fail
  have HNS := Lib.hid (isNats2 47 hn1 hn2)
  have hbs := (blocks1 W24 #[.slice a1 l1 c1, .slice a2 l2 c2] 47).1
  replace N11 := Lib.hid (N11.out.go hbs)
  replace N12 := Lib.hid (N12.out.go hbs)
  replace N13 := Lib.hid (N13.out.go hbs)
  replace N14 := Lib.hid (N14.out.go hbs)
  replace N16 := Lib.hid (N16.out.go hbs)
  replace N18 := Lib.hid (N18.out.go hbs)
  replace N20 := Lib.hid (N20.out.go hbs)
  replace N22 := Lib.hid (N22.out.go hbs)
  replace N24 := Lib.hid (N24.out.go hbs)
  replace B := B.trans (hbs.mono B.size)
  clear hbs hc1 hc2 hn1 hn2
  refine (mul_two _ x y _ HXG.out HYG.out HXY.out HNS.out).mono ?_
  rintro e v26 ⟨u, rfl, hu, hb⟩
  have HUX := Lib.hid hu
  obtain ⟨ax, cx, rfl, _⟩ := hu.shape
  replace N11 := Lib.hid (N11.out.go hb)
  replace N12 := Lib.hid (N12.out.go hb)
  replace N13 := Lib.hid (N13.out.go hb)
  replace N14 := Lib.hid (N14.out.go hb)
  replace N16 := Lib.hid (N16.out.go hb)
  replace N18 := Lib.hid (N18.out.go hb)
  replace N20 := Lib.hid (N20.out.go hb)
  replace N22 := Lib.hid (N22.out.go hb)
  replace N24 := Lib.hid (N24.out.go hb)
  replace B := B.trans (hb.mono B.size)
  clear hb hu
  generalize hll : (Wt.dg (x * y)).length = lx' at *
  clear hll
  clear HNS
  go_upto_region 13 with fail
  have HBX := Lib.hid (BoxN.new 47 rfl HUX.out)
  have hb := (blocks1 v26 #[.slice ax lx' cx] 47).1
  replace N11 := Lib.hid (N11.out.go hb)
  replace N12 := Lib.hid (N12.out.go hb)
  replace N13 := Lib.hid (N13.out.go hb)
  replace N14 := Lib.hid (N14.out.go hb)
  replace N16 := Lib.hid (N16.out.go hb)
  replace N18 := Lib.hid (N18.out.go hb)
  replace N20 := Lib.hid (N20.out.go hb)
  replace N22 := Lib.hid (N22.out.go hb)
  replace N24 := Lib.hid (N24.out.go hb)
  replace B := B.trans (hb.mono B.size)
  obtain ⟨g26, hg⟩ : ∃ g26, g26 = v26.heap.size := ⟨_, rfl⟩
  rw [← hg] at HBX ⊢
  generalize v26.alloc (.cells #[.slice ax lx' cx] 47) = W26 at *
  have N26 := HBX
  clear hb hg HBX HUX
  obtain ⟨a1, l1, c1, hc1, hn1⟩ := N11.out
  obtain ⟨a2, l2, c2, hc2, hn2⟩ := N13.out
  go_wp2_with fail
  have HNS := Lib.hid (isNats2 47 hn1 hn2)
  have hbs := (blocks1 W26 #[.slice a1 l1 c1, .slice a2 l2 c2] 47).1
  replace N11 := Lib.hid (N11.out.go hbs)
  replace N12 := Lib.hid (N12.out.go hbs)
  replace N13 := Lib.hid (N13.out.go hbs)
  replace N14 := Lib.hid (N14.out.go hbs)
  replace N16 := Lib.hid (N16.out.go hbs)
  replace N18 := Lib.hid (N18.out.go hbs)
  replace N20 := Lib.hid (N20.out.go hbs)
  replace N22 := Lib.hid (N22.out.go hbs)
  replace N24 := Lib.hid (N24.out.go hbs)
  replace N26 := Lib.hid (N26.out.go hbs)
  replace B := B.trans (hbs.mono B.size)
  clear hbs hc1 hc2 hn1 hn2
  refine (mul_two _ x z _ HXG.out HZG.out HXZ.out HNS.out).mono ?_
  rintro e v28 ⟨u, rfl, hu, hb⟩
  have HUX := Lib.hid hu
  obtain ⟨ax, cx, rfl, _⟩ := hu.shape
  replace N11 := Lib.hid (N11.out.go hb)
  replace N12 := Lib.hid (N12.out.go hb)
  replace N13 := Lib.hid (N13.out.go hb)
  replace N14 := Lib.hid (N14.out.go hb)
  replace N16 := Lib.hid (N16.out.go hb)
  replace N18 := Lib.hid (N18.out.go hb)
  replace N20 := Lib.hid (N20.out.go hb)
  replace N22 := Lib.hid (N22.out.go hb)
  replace N24 := Lib.hid (N24.out.go hb)
  replace N26 := Lib.hid (N26.out.go hb)
  replace B := B.trans (hb.mono B.size)
  clear hb hu
  generalize hll : (Wt.dg (x * z)).length = lx' at *
  clear hll
  clear HNS
  go_upto_region 14 with fail
  have HBX := Lib.hid (BoxN.new 47 rfl HUX.out)
  have hb := (blocks1 v28 #[.slice ax lx' cx] 47).1
  replace N11 := Lib.hid (N11.out.go hb)
  replace N12 := Lib.hid (N12.out.go hb)
  replace N13 := Lib.hid (N13.out.go hb)
  replace N14 := Lib.hid (N14.out.go hb)
  replace N16 := Lib.hid (N16.out.go hb)
  replace N18 := Lib.hid (N18.out.go hb)
  replace N20 := Lib.hid (N20.out.go hb)
  replace N22 := Lib.hid (N22.out.go hb)
  replace N24 := Lib.hid (N24.out.go hb)
  replace N26 := Lib.hid (N26.out.go hb)
  replace B := B.trans (hb.mono B.size)
  obtain ⟨g28, hg⟩ : ∃ g28, g28 = v28.heap.size := ⟨_, rfl⟩
  rw [← hg] at HBX ⊢
  generalize v28.alloc (.cells #[.slice ax lx' cx] 47) = W28 at *
  have N28 := HBX
  clear hb hg HBX HUX
  obtain ⟨a1, l1, c1, hc1, hn1⟩ := N26.out
  obtain ⟨a2, l2, c2, hc2, hn2⟩ := N28.out
  go_wp2_with fail
  have HNS := Lib.hid (isNats2 47 hn1 hn2)
  have hbs := (blocks1 W28 #[.slice a1 l1 c1, .slice a2 l2 c2] 47).1
  replace N11 := Lib.hid (N11.out.go hbs)
  replace N12 := Lib.hid (N12.out.go hbs)
  replace N13 := Lib.hid (N13.out.go hbs)
  replace N14 := Lib.hid (N14.out.go hbs)
  replace N16 := Lib.hid (N16.out.go hbs)
  replace N18 := Lib.hid (N18.out.go hbs)
  replace N20 := Lib.hid (N20.out.go hbs)
  replace N22 := Lib.hid (N22.out.go hbs)
  replace N24 := Lib.hid (N24.out.go hbs)
  replace N26 := Lib.hid (N26.out.go hbs)
  replace N28 := Lib.hid (N28.out.go hbs)
  replace B := B.trans (hbs.mono B.size)
  clear hbs hc1 hc2 hn1 hn2
  refine (add_two _ (x * y) (x * z) _ HXY.out HXZ.out HRI.out HNS.out).mono ?_
  rintro e v30 ⟨u, rfl, hu, hb⟩
  have HUX := Lib.hid hu
  obtain ⟨ax, cx, rfl, _⟩ := hu.shape
  replace N11 := Lib.hid (N11.out.go hb)
  replace N12 := Lib.hid (N12.out.go hb)
  replace N13 := Lib.hid (N13.out.go hb)
  replace N14 := Lib.hid (N14.out.go hb)
  replace N16 := Lib.hid (N16.out.go hb)
  replace N18 := Lib.hid (N18.out.go hb)
  replace N20 := Lib.hid (N20.out.go hb)
  replace N22 := Lib.hid (N22.out.go hb)
  replace N24 := Lib.hid (N24.out.go hb)
  replace N26 := Lib.hid (N26.out.go hb)
  replace N28 := Lib.hid (N28.out.go hb)
  replace B := B.trans (hb.mono B.size)
  clear hb hu
  generalize hll : (Wt.dg (x * y + x * z)).length = lx' at *
  clear hll
  clear HNS
  go_upto_region 15 with fail
  have HBX := Lib.hid (BoxN.new 47 rfl HUX.out)
  have hb := (blocks1 v30 #[.slice ax lx' cx] 47).1
  replace N11 := Lib.hid (N11.out.go hb)
  replace N12 := Lib.hid (N12.out.go hb)
  replace N13 := Lib.hid (N13.out.go hb)
  replace N14 := Lib.hid (N14.out.go hb)
  replace N16 := Lib.hid (N16.out.go hb)
  replace N18 := Lib.hid (N18.out.go hb)
  replace N20 := Lib.hid (N20.out.go hb)
  replace N22 := Lib.hid (N22.out.go hb)
  replace N24 := Lib.hid (N24.out.go hb)
  replace N26 := Lib.hid (N26.out.go hb)
  replace N28 := Lib.hid (N28.out.go hb)
  replace B := B.trans (hb.mono B.size)
  obtain ⟨g30, hg⟩ : ∃ g30, g30 = v30.heap.size := ⟨_, rfl⟩
  rw [← hg] at HBX ⊢
  generalize v30.alloc (.cells #[.slice ax lx' cx] 47) = W30 at *
  have N30 := HBX
  clear hb hg HBX HUX
  obtain ⟨a1, l1, c1, hc1, hn1⟩ := N22.out
  obtain ⟨a2, l2, c2, hc2, hn2⟩ := N13.out
  go_wp2_with fail
  have HBK := Lib.hid (sub_back _ _ y z W30 HYZ.out hn1 hn2)
  clear hc1 hc2 hn1 hn2
  refine (HBK.out).mono ?_
  rintro e v32 ⟨u, rfl, hu, hb⟩
  have HUX := Lib.hid hu
  obtain ⟨ax, cx, rfl, _⟩ := hu.shape
  replace N11 := Lib.hid (N11.out.go hb)
  replace N12 := Lib.hid (N12.out.go hb)
  replace N13 := Lib.hid (N13.out.go hb)
  replace N14 := Lib.hid (N14.out.go hb)
  replace N16 := Lib.hid (N16.out.go hb)
  replace N18 := Lib.hid (N18.out.go hb)
  replace N20 := Lib.hid (N20.out.go hb)
  replace N22 := Lib.hid (N22.out.go hb)
  replace N24 := Lib.hid (N24.out.go hb)
  replace N26 := Lib.hid (N26.out.go hb)
  replace N28 := Lib.hid (N28.out.go hb)
  replace N30 := Lib.hid (N30.out.go hb)
  replace B := B.trans (hb.mono B.size)
  clear hb hu
  generalize hll : (Wt.dg (y)).length = lx' at *
  clear hll
  go_upto_region 16 with fail
  have HBX := Lib.hid (BoxN.new 47 rfl HUX.out)
  have hb := (blocks1 v32 #[.slice ax lx' cx] 47).1
  replace N11 := Lib.hid (N11.out.go hb)
  replace N12 := Lib.hid (N12.out.go hb)
  replace N13 := Lib.hid (N13.out.go hb)
  replace N14 := Lib.hid (N14.out.go hb)
  replace N16 := Lib.hid (N16.out.go hb)
  replace N18 := Lib.hid (N18.out.go hb)
  replace N20 := Lib.hid (N20.out.go hb)
  replace N22 := Lib.hid (N22.out.go hb)
  replace N24 := Lib.hid (N24.out.go hb)
  replace N26 := Lib.hid (N26.out.go hb)
  replace N28 := Lib.hid (N28.out.go hb)
  replace N30 := Lib.hid (N30.out.go hb)
  replace B := B.trans (hb.mono B.size)
  obtain ⟨g32, hg⟩ : ∃ g32, g32 = v32.heap.size := ⟨_, rfl⟩
  rw [← hg] at HBX ⊢
  generalize v32.alloc (.cells #[.slice ax lx' cx] 47) = W32 at *
  have N32 := HBX
  clear hb hg HBX HUX
  have E1 := Lib.hid (show x + y + z = z + y + x by omega)
  have E2 := Lib.hid (show x * y * z = z * x * y by rw [Nat.mul_comm z x, Nat.mul_assoc, Nat.mul_assoc, Nat.mul_comm y z])
  have E3 := Lib.hid (Nat.mul_add x y z)
  have HCS := Lib.hid (cmp_small x y)
  have HCX := Lib.hid (fun u v w h h' => natcmp_any u v x y w h h')
  have HCY := Lib.hid (show ∀ u v w, IsNat w u y → IsNat w v x → Calls Try.prog 34 #[u, v] w (fun e w' => e = .returned (.int .i64 (-(Nt.cmp x y))) ∧ Below w.heap.size w w') from fun u v w h h' => by
    have := natcmp_any u v y x w h h'
    rwa [cmp_neg y x] at this)
  generalize Nt.cmp x y = cm at *
  obtain ⟨p11, q11, r11, hc11, hn11⟩ := N11.out
  obtain ⟨p12, q12, r12, hc12, hn12⟩ := N12.out
  obtain ⟨p14, q14, r14, hc14, hn14⟩ := N14.out
  obtain ⟨p16, q16, r16, hc16, hn16⟩ := N16.out
  obtain ⟨p18, q18, r18, hc18, hn18⟩ := N18.out
  obtain ⟨p20, q20, r20, hc20, hn20⟩ := N20.out
  obtain ⟨p24, q24, r24, hc24, hn24⟩ := N24.out
  obtain ⟨p30, q30, r30, hc30, hn30⟩ := N30.out
  obtain ⟨p32, q32, r32, hc32, hn32⟩ := N32.out
  refine wp_region_mono (C := Cb W32) (R := Rb) (H := fun _ => Hb W32) [Ty.val 138 (.agg #[.slice p14 q14 r14]), Ty.val 139 (.agg #[.slice p16 q16 r16]), Ty.val 140 (.int .i64 0), Ty.val 141 (.bool false), Ty.val 142 (.bool false), Ty.val 143 (.agg #[.slice p18 q18 r18]), Ty.val 144 (.agg #[.slice p20 q20 r20]), Ty.val 145 (.int .i64 0), Ty.val 146 (.bool false), Ty.val 147 (.bool false), Ty.val 148 (.bool false), Ty.val 149 (.agg #[.slice p24 q24 r24]), Ty.val 150 (.agg #[.slice p30 q30 r30]), Ty.val 151 (.int .i64 0), Ty.val 152 (.bool false), Ty.val 153 (.bool false), Ty.val 154 (.bool false), Ty.val 155 (.int .i64 0), Ty.val 156 (.bool false), Ty.val 157 (.bool false), Ty.val 158 (.bool false), Ty.val 159 (.agg #[.slice p32 q32 r32]), Ty.val 160 (.agg #[.slice p12 q12 r12]), Ty.val 161 (.int .i64 0), Ty.val 162 (.bool false), Ty.val 163 (.bool false), Ty.val 164 (.bool false), Ty.val 165 (.agg #[.slice p11 q11 r11]), Ty.val 166 (.agg #[.slice p12 q12 r12]), Ty.val 167 (.int .i64 cm), Ty.val 168 (.agg #[.slice p12 q12 r12]), Ty.val 169 (.agg #[.slice p11 q11 r11]), Ty.val 170 (.int .i64 (-cm)), Ty.val 171 (.int .i64 cm), Ty.val 172 (.bool false), Ty.val 173 (.bool false)] (by kernel_rfl) (hC_b W32) (hCH_b W32) (drew_b W32) ⟨trivial, trivial, trivial, trivial, trivial, trivial, trivial, trivial, trivial, trivial, trivial, trivial, trivial, trivial, trivial, trivial, trivial, trivial, trivial, trivial, trivial, trivial, trivial, trivial, trivial, trivial, trivial, trivial, trivial, trivial, trivial, trivial, trivial, trivial, trivial, trivial, trivial⟩ (by kernel_rfl) ?_ ?_
  · refine ⟨?_, ?_, ?_, ?_, ?_, ?_, ?_, ?_, ?_, ?_, ?_, ?_, ?_, ?_, ?_, ?_, ?_, ?_, ?_, ?_, ?_, ?_, ?_, ?_, ?_, ?_, ?_, ?_, ?_, ?_, ?_, ?_, ?_, ?_, ?_, ?_, trivial⟩
    · intro ac wc hC hsz hfr hd hpr
      have d14 : ac.eval (.tmp 14) = (.pointer (some ⟨g14, 0, none⟩)) := hfr 14 rfl
      rw [if_pos (wanted_none rfl)]
      exact ob_load _ rfl rfl rfl (Nat.lt_of_lt_of_eq (by decide : 138 < 227) hsz.symm) rfl d14 (load_nat (cell_keep hc14 hC)) (Below.refl _ _) rfl
    · intro ac wc hC hsz hfr hd hpr
      have d16 : ac.eval (.tmp 16) = (.pointer (some ⟨g16, 0, none⟩)) := hfr 16 rfl
      rw [if_pos (wanted_none rfl)]
      exact ob_load _ rfl rfl rfl (Nat.lt_of_lt_of_eq (by decide : 139 < 227) hsz.symm) rfl d16 (load_nat (cell_keep hc16 hC)) (Below.refl _ _) rfl
    · intro ac wc hC hsz hfr hd hpr
      have d138 : ac.eval (.tmp 138) = (.agg #[.slice p14 q14 r14]) := hd 0 rfl
      have d139 : ac.eval (.tmp 139) = (.agg #[.slice p16 q16 r16]) := hd 1 rfl
      rw [if_pos (wanted_none rfl)]
      refine ob_call rfl rfl rfl (Nat.lt_of_lt_of_eq (by decide : 140 < 227) hsz.symm) rfl (enter_of Try.func34 (by kernel_rfl) rfl) ?_
      show Calls Try.prog 34 #[ac.eval (.tmp 138), ac.eval (.tmp 139)] wc _
      rw [d138, d139]
      exact (cmp_same _ _ _ _ wc E1.out (hn14.go hC) (hn16.go hC)).mono fun _ _ ⟨he, hb⟩ => ⟨_, he, rfl, hb⟩
    · intro ac wc hC hsz hfr hd hpr
      have d140 : ac.eval (.tmp 140) = (.int .i64 0) := hd 2 rfl
      rw [if_pos (wanted_none rfl)]
      exact ob_bin _ rfl rfl rfl (Nat.lt_of_lt_of_eq (by decide : 141 < 227) hsz.symm) rfl d140 rfl (neq_int (by simp)) (Below.refl _ _) rfl
    · intro ac wc hC hsz hfr hd hpr
      have d141 : ac.eval (.tmp 141) = (.bool false) := hd 3 rfl
      rw [if_pos (wanted_none rfl)]
      exact ob_copy rfl rfl rfl (Nat.lt_of_lt_of_eq (by decide : 142 < 227) hsz.symm) (Or.inl rfl) (Below.refl _ _) d141
    · intro ac wc hC hsz hfr hd hpr
      have d142 : ac.eval (.tmp 142) = (.bool false) := hd 4 rfl
      have d18 : ac.eval (.tmp 18) = (.pointer (some ⟨g18, 0, none⟩)) := hfr 18 rfl
      rw [if_pos (wanted_some rfl (yielded_of rfl d142))]
      exact ob_load _ rfl rfl rfl (Nat.lt_of_lt_of_eq (by decide : 143 < 227) hsz.symm) rfl d18 (load_nat (cell_keep hc18 hC)) (Below.refl _ _) rfl
    · intro ac wc hC hsz hfr hd hpr
      have d142 : ac.eval (.tmp 142) = (.bool false) := hd 4 rfl
      have d20 : ac.eval (.tmp 20) = (.pointer (some ⟨g20, 0, none⟩)) := hfr 20 rfl
      rw [if_pos (wanted_some rfl (yielded_of rfl d142))]
      exact ob_load _ rfl rfl rfl (Nat.lt_of_lt_of_eq (by decide : 144 < 227) hsz.symm) rfl d20 (load_nat (cell_keep hc20 hC)) (Below.refl _ _) rfl
    · intro ac wc hC hsz hfr hd hpr
      have d142 : ac.eval (.tmp 142) = (.bool false) := hd 4 rfl
      have d143 : ac.eval (.tmp 143) = (.agg #[.slice p18 q18 r18]) := hd 5 rfl
      have d144 : ac.eval (.tmp 144) = (.agg #[.slice p20 q20 r20]) := hd 6 rfl
      rw [if_pos (wanted_some rfl (yielded_of rfl d142))]
      refine ob_call rfl rfl rfl (Nat.lt_of_lt_of_eq (by decide : 145 < 227) hsz.symm) rfl (enter_of Try.func34 (by kernel_rfl) rfl) ?_
      show Calls Try.prog 34 #[ac.eval (.tmp 143), ac.eval (.tmp 144)] wc _
      rw [d143, d144]
      exact (cmp_same _ _ _ _ wc E2.out (hn18.go hC) (hn20.go hC)).mono fun _ _ ⟨he, hb⟩ => ⟨_, he, rfl, hb⟩
    · intro ac wc hC hsz hfr hd hpr
      have d142 : ac.eval (.tmp 142) = (.bool false) := hd 4 rfl
      have d145 : ac.eval (.tmp 145) = (.int .i64 0) := hd 7 rfl
      rw [if_pos (wanted_some rfl (yielded_of rfl d142))]
      exact ob_bin _ rfl rfl rfl (Nat.lt_of_lt_of_eq (by decide : 146 < 227) hsz.symm) rfl d145 rfl (neq_int (by simp)) (Below.refl _ _) rfl
    · intro ac wc hC hsz hfr hd hpr
      have d142 : ac.eval (.tmp 142) = (.bool false) := hd 4 rfl
      have d146 : ac.eval (.tmp 146) = (.bool false) := hd 8 rfl
      rw [if_pos (wanted_none rfl)]
      exact ob_pick rfl rfl rfl (Nat.lt_of_lt_of_eq (by decide : 147 < 227) hsz.symm) rfl d142 (Below.refl _ _) d146
    · intro ac wc hC hsz hfr hd hpr
      have d147 : ac.eval (.tmp 147) = (.bool false) := hd 9 rfl
      rw [if_pos (wanted_none rfl)]
      exact ob_copy rfl rfl rfl (Nat.lt_of_lt_of_eq (by decide : 148 < 227) hsz.symm) (Or.inl rfl) (Below.refl _ _) d147
    · intro ac wc hC hsz hfr hd hpr
      have d148 : ac.eval (.tmp 148) = (.bool false) := hd 10 rfl
      have d24 : ac.eval (.tmp 24) = (.pointer (some ⟨g24, 0, none⟩)) := hfr 24 rfl
      rw [if_pos (wanted_some rfl (yielded_of rfl d148))]
      exact ob_load _ rfl rfl rfl (Nat.lt_of_lt_of_eq (by decide : 149 < 227) hsz.symm) rfl d24 (load_nat (cell_keep hc24 hC)) (Below.refl _ _) rfl
    · intro ac wc hC hsz hfr hd hpr
      have d148 : ac.eval (.tmp 148) = (.bool false) := hd 10 rfl
      have d30 : ac.eval (.tmp 30) = (.pointer (some ⟨g30, 0, none⟩)) := hfr 30 rfl
      rw [if_pos (wanted_some rfl (yielded_of rfl d148))]
      exact ob_load _ rfl rfl rfl (Nat.lt_of_lt_of_eq (by decide : 150 < 227) hsz.symm) rfl d30 (load_nat (cell_keep hc30 hC)) (Below.refl _ _) rfl
    · intro ac wc hC hsz hfr hd hpr
      have d148 : ac.eval (.tmp 148) = (.bool false) := hd 10 rfl
      have d149 : ac.eval (.tmp 149) = (.agg #[.slice p24 q24 r24]) := hd 11 rfl
      have d150 : ac.eval (.tmp 150) = (.agg #[.slice p30 q30 r30]) := hd 12 rfl
      rw [if_pos (wanted_some rfl (yielded_of rfl d148))]
      refine ob_call rfl rfl rfl (Nat.lt_of_lt_of_eq (by decide : 151 < 227) hsz.symm) rfl (enter_of Try.func34 (by kernel_rfl) rfl) ?_
      show Calls Try.prog 34 #[ac.eval (.tmp 149), ac.eval (.tmp 150)] wc _
      rw [d149, d150]
      exact (cmp_same _ _ _ _ wc E3.out (hn24.go hC) (hn30.go hC)).mono fun _ _ ⟨he, hb⟩ => ⟨_, he, rfl, hb⟩
    · intro ac wc hC hsz hfr hd hpr
      have d148 : ac.eval (.tmp 148) = (.bool false) := hd 10 rfl
      have d151 : ac.eval (.tmp 151) = (.int .i64 0) := hd 13 rfl
      rw [if_pos (wanted_some rfl (yielded_of rfl d148))]
      exact ob_bin _ rfl rfl rfl (Nat.lt_of_lt_of_eq (by decide : 152 < 227) hsz.symm) rfl d151 rfl (neq_int (by simp)) (Below.refl _ _) rfl
    · intro ac wc hC hsz hfr hd hpr
      have d148 : ac.eval (.tmp 148) = (.bool false) := hd 10 rfl
      have d152 : ac.eval (.tmp 152) = (.bool false) := hd 14 rfl
      rw [if_pos (wanted_none rfl)]
      exact ob_pick rfl rfl rfl (Nat.lt_of_lt_of_eq (by decide : 153 < 227) hsz.symm) rfl d148 (Below.refl _ _) d152
    · intro ac wc hC hsz hfr hd hpr
      have d153 : ac.eval (.tmp 153) = (.bool false) := hd 15 rfl
      rw [if_pos (wanted_none rfl)]
      exact ob_copy rfl rfl rfl (Nat.lt_of_lt_of_eq (by decide : 154 < 227) hsz.symm) (Or.inl rfl) (Below.refl _ _) d153
    · intro ac wc hC hsz hfr hd hpr
      have d154 : ac.eval (.tmp 154) = (.bool false) := hd 16 rfl
      have d33 : ac.eval (.tmp 33) = (.int .i64 0) := hfr 33 rfl
      rw [if_pos (wanted_some rfl (yielded_of rfl d154))]
      exact ob_copy rfl rfl rfl (Nat.lt_of_lt_of_eq (by decide : 155 < 227) hsz.symm) (Or.inl rfl) (Below.refl _ _) d33
    · intro ac wc hC hsz hfr hd hpr
      have d154 : ac.eval (.tmp 154) = (.bool false) := hd 16 rfl
      have d155 : ac.eval (.tmp 155) = (.int .i64 0) := hd 17 rfl
      rw [if_pos (wanted_some rfl (yielded_of rfl d154))]
      exact ob_bin _ rfl rfl rfl (Nat.lt_of_lt_of_eq (by decide : 156 < 227) hsz.symm) rfl d155 rfl (neq_err (by simp)) (Below.refl _ _) rfl
    · intro ac wc hC hsz hfr hd hpr
      have d154 : ac.eval (.tmp 154) = (.bool false) := hd 16 rfl
      have d156 : ac.eval (.tmp 156) = (.bool false) := hd 18 rfl
      rw [if_pos (wanted_none rfl)]
      exact ob_pick rfl rfl rfl (Nat.lt_of_lt_of_eq (by decide : 157 < 227) hsz.symm) rfl d154 (Below.refl _ _) d156
    · intro ac wc hC hsz hfr hd hpr
      have d157 : ac.eval (.tmp 157) = (.bool false) := hd 19 rfl
      rw [if_pos (wanted_none rfl)]
      exact ob_copy rfl rfl rfl (Nat.lt_of_lt_of_eq (by decide : 158 < 227) hsz.symm) (Or.inl rfl) (Below.refl _ _) d157
    · intro ac wc hC hsz hfr hd hpr
      have d158 : ac.eval (.tmp 158) = (.bool false) := hd 20 rfl
      have d32 : ac.eval (.tmp 32) = (.pointer (some ⟨g32, 0, none⟩)) := hfr 32 rfl
      rw [if_pos (wanted_some rfl (yielded_of rfl d158))]
      exact ob_load _ rfl rfl rfl (Nat.lt_of_lt_of_eq (by decide : 159 < 227) hsz.symm) rfl d32 (load_nat (cell_keep hc32 hC)) (Below.refl _ _) rfl
    · intro ac wc hC hsz hfr hd hpr
      have d158 : ac.eval (.tmp 158) = (.bool false) := hd 20 rfl
      have d12 : ac.eval (.tmp 12) = (.pointer (some ⟨g12, 0, none⟩)) := hfr 12 rfl
      rw [if_pos (wanted_some rfl (yielded_of rfl d158))]
      exact ob_load _ rfl rfl rfl (Nat.lt_of_lt_of_eq (by decide : 160 < 227) hsz.symm) rfl d12 (load_nat (cell_keep hc12 hC)) (Below.refl _ _) rfl
    · intro ac wc hC hsz hfr hd hpr
      have d158 : ac.eval (.tmp 158) = (.bool false) := hd 20 rfl
      have d159 : ac.eval (.tmp 159) = (.agg #[.slice p32 q32 r32]) := hd 21 rfl
      have d160 : ac.eval (.tmp 160) = (.agg #[.slice p12 q12 r12]) := hd 22 rfl
      rw [if_pos (wanted_some rfl (yielded_of rfl d158))]
      refine ob_call rfl rfl rfl (Nat.lt_of_lt_of_eq (by decide : 161 < 227) hsz.symm) rfl (enter_of Try.func34 (by kernel_rfl) rfl) ?_
      show Calls Try.prog 34 #[ac.eval (.tmp 159), ac.eval (.tmp 160)] wc _
      rw [d159, d160]
      exact (cmp_same _ _ _ _ wc rfl (hn32.go hC) (hn12.go hC)).mono fun _ _ ⟨he, hb⟩ => ⟨_, he, rfl, hb⟩
    · intro ac wc hC hsz hfr hd hpr
      have d158 : ac.eval (.tmp 158) = (.bool false) := hd 20 rfl
      have d161 : ac.eval (.tmp 161) = (.int .i64 0) := hd 23 rfl
      rw [if_pos (wanted_some rfl (yielded_of rfl d158))]
      exact ob_bin _ rfl rfl rfl (Nat.lt_of_lt_of_eq (by decide : 162 < 227) hsz.symm) rfl d161 rfl (neq_int (by simp)) (Below.refl _ _) rfl
    · intro ac wc hC hsz hfr hd hpr
      have d158 : ac.eval (.tmp 158) = (.bool false) := hd 20 rfl
      have d162 : ac.eval (.tmp 162) = (.bool false) := hd 24 rfl
      rw [if_pos (wanted_none rfl)]
      exact ob_pick rfl rfl rfl (Nat.lt_of_lt_of_eq (by decide : 163 < 227) hsz.symm) rfl d158 (Below.refl _ _) d162
    · intro ac wc hC hsz hfr hd hpr
      have d163 : ac.eval (.tmp 163) = (.bool false) := hd 25 rfl
      rw [if_pos (wanted_none rfl)]
      exact ob_copy rfl rfl rfl (Nat.lt_of_lt_of_eq (by decide : 164 < 227) hsz.symm) (Or.inl rfl) (Below.refl _ _) d163
    · intro ac wc hC hsz hfr hd hpr
      have d164 : ac.eval (.tmp 164) = (.bool false) := hd 26 rfl
      have d11 : ac.eval (.tmp 11) = (.pointer (some ⟨g11, 0, none⟩)) := hfr 11 rfl
      rw [if_pos (wanted_some rfl (yielded_of rfl d164))]
      exact ob_load _ rfl rfl rfl (Nat.lt_of_lt_of_eq (by decide : 165 < 227) hsz.symm) rfl d11 (load_nat (cell_keep hc11 hC)) (Below.refl _ _) rfl
    · intro ac wc hC hsz hfr hd hpr
      have d164 : ac.eval (.tmp 164) = (.bool false) := hd 26 rfl
      have d12 : ac.eval (.tmp 12) = (.pointer (some ⟨g12, 0, none⟩)) := hfr 12 rfl
      rw [if_pos (wanted_some rfl (yielded_of rfl d164))]
      exact ob_load _ rfl rfl rfl (Nat.lt_of_lt_of_eq (by decide : 166 < 227) hsz.symm) rfl d12 (load_nat (cell_keep hc12 hC)) (Below.refl _ _) rfl
    · intro ac wc hC hsz hfr hd hpr
      have d164 : ac.eval (.tmp 164) = (.bool false) := hd 26 rfl
      have d165 : ac.eval (.tmp 165) = (.agg #[.slice p11 q11 r11]) := hd 27 rfl
      have d166 : ac.eval (.tmp 166) = (.agg #[.slice p12 q12 r12]) := hd 28 rfl
      rw [if_pos (wanted_some rfl (yielded_of rfl d164))]
      refine ob_call rfl rfl rfl (Nat.lt_of_lt_of_eq (by decide : 167 < 227) hsz.symm) rfl (enter_of Try.func34 (by kernel_rfl) rfl) ?_
      show Calls Try.prog 34 #[ac.eval (.tmp 165), ac.eval (.tmp 166)] wc _
      rw [d165, d166]
      exact (HCX.out _ _ wc (hn11.go hC) (hn12.go hC)).mono fun _ _ ⟨he, hb⟩ => ⟨_, he, rfl, hb⟩
    · intro ac wc hC hsz hfr hd hpr
      have d164 : ac.eval (.tmp 164) = (.bool false) := hd 26 rfl
      have d12 : ac.eval (.tmp 12) = (.pointer (some ⟨g12, 0, none⟩)) := hfr 12 rfl
      rw [if_pos (wanted_some rfl (yielded_of rfl d164))]
      exact ob_load _ rfl rfl rfl (Nat.lt_of_lt_of_eq (by decide : 168 < 227) hsz.symm) rfl d12 (load_nat (cell_keep hc12 hC)) (Below.refl _ _) rfl
    · intro ac wc hC hsz hfr hd hpr
      have d164 : ac.eval (.tmp 164) = (.bool false) := hd 26 rfl
      have d11 : ac.eval (.tmp 11) = (.pointer (some ⟨g11, 0, none⟩)) := hfr 11 rfl
      rw [if_pos (wanted_some rfl (yielded_of rfl d164))]
      exact ob_load _ rfl rfl rfl (Nat.lt_of_lt_of_eq (by decide : 169 < 227) hsz.symm) rfl d11 (load_nat (cell_keep hc11 hC)) (Below.refl _ _) rfl
    · intro ac wc hC hsz hfr hd hpr
      have d164 : ac.eval (.tmp 164) = (.bool false) := hd 26 rfl
      have d168 : ac.eval (.tmp 168) = (.agg #[.slice p12 q12 r12]) := hd 30 rfl
      have d169 : ac.eval (.tmp 169) = (.agg #[.slice p11 q11 r11]) := hd 31 rfl
      rw [if_pos (wanted_some rfl (yielded_of rfl d164))]
      refine ob_call rfl rfl rfl (Nat.lt_of_lt_of_eq (by decide : 170 < 227) hsz.symm) rfl (enter_of Try.func34 (by kernel_rfl) rfl) ?_
      show Calls Try.prog 34 #[ac.eval (.tmp 168), ac.eval (.tmp 169)] wc _
      rw [d168, d169]
      exact (HCY.out _ _ wc (hn12.go hC) (hn11.go hC)).mono fun _ _ ⟨he, hb⟩ => ⟨_, he, rfl, hb⟩
    · intro ac wc hC hsz hfr hd hpr
      have d164 : ac.eval (.tmp 164) = (.bool false) := hd 26 rfl
      have d170 : ac.eval (.tmp 170) = (.int .i64 (-cm)) := hd 32 rfl
      rw [if_pos (wanted_some rfl (yielded_of rfl d164))]
      have hlt : 171 < ac.tmps.size := (Nat.lt_of_lt_of_eq (by decide : 171 < 227) hsz.symm)
      exact ob_neg cm rfl rfl rfl hlt rfl d170 (neg_run HCS.out wc) (Below.refl _ _) rfl
    · intro ac wc hC hsz hfr hd hpr
      have d164 : ac.eval (.tmp 164) = (.bool false) := hd 26 rfl
      have d167 : ac.eval (.tmp 167) = (.int .i64 cm) := hd 29 rfl
      have d171 : ac.eval (.tmp 171) = (.int .i64 cm) := hd 33 rfl
      rw [if_pos (wanted_some rfl (yielded_of rfl d164))]
      exact ob_bin _ rfl rfl rfl (Nat.lt_of_lt_of_eq (by decide : 172 < 227) hsz.symm) rfl d167 d171 (neq_int (by simp)) (Below.refl _ _) rfl
    · intro ac wc hC hsz hfr hd hpr
      have d164 : ac.eval (.tmp 164) = (.bool false) := hd 26 rfl
      have d172 : ac.eval (.tmp 172) = (.bool false) := hd 34 rfl
      rw [if_pos (wanted_none rfl)]
      exact ob_pick rfl rfl rfl (Nat.lt_of_lt_of_eq (by decide : 173 < 227) hsz.symm) rfl d164 (Below.refl _ _) d172
  intro a' W33 hC hdef hsz hfr hd
  have e138 : a'.eval (.tmp 138) = (.agg #[.slice p14 q14 r14]) := hd 0 (by decide)
  have e139 : a'.eval (.tmp 139) = (.agg #[.slice p16 q16 r16]) := hd 1 (by decide)
  have e140 : a'.eval (.tmp 140) = (.int .i64 0) := hd 2 (by decide)
  have e141 : a'.eval (.tmp 141) = (.bool false) := hd 3 (by decide)
  have e142 : a'.eval (.tmp 142) = (.bool false) := hd 4 (by decide)
  have e143 : a'.eval (.tmp 143) = (.agg #[.slice p18 q18 r18]) := hd 5 (by decide)
  have e144 : a'.eval (.tmp 144) = (.agg #[.slice p20 q20 r20]) := hd 6 (by decide)
  have e145 : a'.eval (.tmp 145) = (.int .i64 0) := hd 7 (by decide)
  have e146 : a'.eval (.tmp 146) = (.bool false) := hd 8 (by decide)
  have e147 : a'.eval (.tmp 147) = (.bool false) := hd 9 (by decide)
  have e148 : a'.eval (.tmp 148) = (.bool false) := hd 10 (by decide)
  have e149 : a'.eval (.tmp 149) = (.agg #[.slice p24 q24 r24]) := hd 11 (by decide)
  have e150 : a'.eval (.tmp 150) = (.agg #[.slice p30 q30 r30]) := hd 12 (by decide)
  have e151 : a'.eval (.tmp 151) = (.int .i64 0) := hd 13 (by decide)
  have e152 : a'.eval (.tmp 152) = (.bool false) := hd 14 (by decide)
  have e153 : a'.eval (.tmp 153) = (.bool false) := hd 15 (by decide)
  have e154 : a'.eval (.tmp 154) = (.bool false) := hd 16 (by decide)
  have e155 : a'.eval (.tmp 155) = (.int .i64 0) := hd 17 (by decide)
  have e156 : a'.eval (.tmp 156) = (.bool false) := hd 18 (by decide)
  have e157 : a'.eval (.tmp 157) = (.bool false) := hd 19 (by decide)
  have e158 : a'.eval (.tmp 158) = (.bool false) := hd 20 (by decide)
  have e159 : a'.eval (.tmp 159) = (.agg #[.slice p32 q32 r32]) := hd 21 (by decide)
  have e160 : a'.eval (.tmp 160) = (.agg #[.slice p12 q12 r12]) := hd 22 (by decide)
  have e161 : a'.eval (.tmp 161) = (.int .i64 0) := hd 23 (by decide)
  have e162 : a'.eval (.tmp 162) = (.bool false) := hd 24 (by decide)
  have e163 : a'.eval (.tmp 163) = (.bool false) := hd 25 (by decide)
  have e164 : a'.eval (.tmp 164) = (.bool false) := hd 26 (by decide)
  have e165 : a'.eval (.tmp 165) = (.agg #[.slice p11 q11 r11]) := hd 27 (by decide)
  have e166 : a'.eval (.tmp 166) = (.agg #[.slice p12 q12 r12]) := hd 28 (by decide)
  have e167 : a'.eval (.tmp 167) = (.int .i64 cm) := hd 29 (by decide)
  have e168 : a'.eval (.tmp 168) = (.agg #[.slice p12 q12 r12]) := hd 30 (by decide)
  have e169 : a'.eval (.tmp 169) = (.agg #[.slice p11 q11 r11]) := hd 31 (by decide)
  have e170 : a'.eval (.tmp 170) = (.int .i64 (-cm)) := hd 32 (by decide)
  have e171 : a'.eval (.tmp 171) = (.int .i64 cm) := hd 33 (by decide)
  have e172 : a'.eval (.tmp 172) = (.bool false) := hd 34 (by decide)
  have e173 : a'.eval (.tmp 173) = (.bool false) := hd 35 (by decide)
  have hact := act_puts hdef hsz hfr
  simp only [dstsOf, List.filterMap, putAll, Act.put, List.setIfInBounds_toArray, List.set_cons_succ, List.set_cons_zero, e138, e139, e140, e141, e142, e143, e144, e145, e146, e147, e148, e149, e150, e151, e152, e153, e154, e155, e156, e157, e158, e159, e160, e161, e162, e163, e164, e165, e166, e167, e168, e169, e170, e171, e172, e173] at hact
  clear hd hfr hsz hdef e138 e139 e140 e141 e142 e143 e144 e145 e146 e147 e148 e149 e150 e151 e152 e153 e154 e155 e156 e157 e158 e159 e160 e161 e162 e163 e164 e165 e166 e167 e168 e169 e170 e171 e172 e173
  subst hact
  replace N11 := Lib.hid (N11.out.go hC)
  replace N12 := Lib.hid (N12.out.go hC)
  replace B := B.trans (hC.mono B.size)
  clear hC
  clear N13 N14 N16 N18 N20 N22 N24 N26 N28 N30 N32 hc11 hn11 hc12 hn12 hc14 hn14 hc16 hn16 hc18 hn18 hc20 hn20 hc24 hn24 hc30 hn30 hc32 hn32
  clear N12
  obtain ⟨s, hs⟩ : ∃ s : Nat, s = i + k := ⟨_, rfl⟩
  have HSI := Lib.hid (show (i : Int) + (k : Int) = (s : Int) by omega)
  have HS18 := Lib.hid (show s ≤ 18 by have := HI9.out; have := HK9.out; omega)
  have HI18 := Lib.hid (show i ≤ 18 by have := HI9.out; omega)
  have HK18 := Lib.hid (show k ≤ 18 by have := HK9.out; omega)
  have HUV := Lib.hid (show x ^ i * x ^ k = x ^ s by rw [hs, Nat.pow_add])
  have HUG := Lib.hid (HPW.out i HI18.out i (Nat.le_refl _))
  have HVG := Lib.hid (HPW.out k HK18.out k (Nat.le_refl _))
  have HWG := Lib.hid (show ¬ Great (x ^ i * x ^ k) by rw [HUV.out]; exact HPW.out s HS18.out s (Nat.le_refl _))
  clear hs
  go_upto_region 19 with fail
  rw [HII.out, HKI.out]
  obtain ⟨a1, l1, c1, hc1, hn1⟩ := N11.out
  go_wp2_with fail
  have HPP := Lib.hid (pow_ok _ x i W33 (Nat.le_trans HI18.out (by decide)) HXG.out (HPW.out i HI18.out) hn1)
  clear hc1 hn1
  refine (HPP.out).mono ?_
  rintro e v36 ⟨u, rfl, hu, hb⟩
  have HUX := Lib.hid hu
  obtain ⟨ax, cx, rfl, _⟩ := hu.shape
  replace N11 := Lib.hid (N11.out.go hb)
  replace B := B.trans (hb.mono B.size)
  clear hb hu
  generalize hll : (Wt.dg (x ^ i)).length = lx' at *
  clear hll
  go_upto_region 20 with fail
  have HBX := Lib.hid (BoxN.new 47 rfl HUX.out)
  have hb := (blocks1 v36 #[.slice ax lx' cx] 47).1
  replace N11 := Lib.hid (N11.out.go hb)
  replace B := B.trans (hb.mono B.size)
  obtain ⟨g36, hg⟩ : ∃ g36, g36 = v36.heap.size := ⟨_, rfl⟩
  rw [← hg] at HBX ⊢
  generalize v36.alloc (.cells #[.slice ax lx' cx] 47) = W36 at *
  have N36 := HBX
  clear hb hg HBX HUX
  obtain ⟨a1, l1, c1, hc1, hn1⟩ := N11.out
  go_wp2_with fail
  have HPP := Lib.hid (pow_ok _ x k W36 (Nat.le_trans HK18.out (by decide)) HXG.out (HPW.out k HK18.out) hn1)
  clear hc1 hn1
  refine (HPP.out).mono ?_
  rintro e v38 ⟨u, rfl, hu, hb⟩
  have HUX := Lib.hid hu
  obtain ⟨ax, cx, rfl, _⟩ := hu.shape
  replace N11 := Lib.hid (N11.out.go hb)
  replace N36 := Lib.hid (N36.out.go hb)
  replace B := B.trans (hb.mono B.size)
  clear hb hu
  generalize hll : (Wt.dg (x ^ k)).length = lx' at *
  clear hll
  go_upto_region 21 with fail
  have HBX := Lib.hid (BoxN.new 47 rfl HUX.out)
  have hb := (blocks1 v38 #[.slice ax lx' cx] 47).1
  replace N11 := Lib.hid (N11.out.go hb)
  replace N36 := Lib.hid (N36.out.go hb)
  replace B := B.trans (hb.mono B.size)
  obtain ⟨g38, hg⟩ : ∃ g38, g38 = v38.heap.size := ⟨_, rfl⟩
  rw [← hg] at HBX ⊢
  generalize v38.alloc (.cells #[.slice ax lx' cx] 47) = W38 at *
  have N38 := HBX
  clear hb hg HBX HUX
  obtain ⟨a1, l1, c1, hc1, hn1⟩ := N11.out
  have hi9 := HI9.out
  have hk9 := HK9.out
  go_wp2_with fail
  rw [HSI.out]
  have HPP := Lib.hid (pow_ok _ x s W38 (Nat.le_trans HS18.out (by decide)) HXG.out (HPW.out s HS18.out) hn1)
  clear hc1 hn1 hi9 hk9
  refine (HPP.out).mono ?_
  rintro e v40 ⟨u, rfl, hu, hb⟩
  have HUX := Lib.hid hu
  obtain ⟨ax, cx, rfl, _⟩ := hu.shape
  replace N36 := Lib.hid (N36.out.go hb)
  replace N38 := Lib.hid (N38.out.go hb)
  replace B := B.trans (hb.mono B.size)
  clear hb hu
  generalize hll : (Wt.dg (x ^ s)).length = lx' at *
  clear hll
  go_upto_region 22 with fail
  have HBX := Lib.hid (BoxN.new 47 rfl HUX.out)
  have hb := (blocks1 v40 #[.slice ax lx' cx] 47).1
  replace N36 := Lib.hid (N36.out.go hb)
  replace N38 := Lib.hid (N38.out.go hb)
  replace B := B.trans (hb.mono B.size)
  obtain ⟨g40, hg⟩ : ∃ g40, g40 = v40.heap.size := ⟨_, rfl⟩
  rw [← hg] at HBX ⊢
  generalize v40.alloc (.cells #[.slice ax lx' cx] 47) = W40 at *
  have N40 := HBX
  clear hb hg HBX HUX
  obtain ⟨a1, l1, c1, hc1, hn1⟩ := N36.out
  obtain ⟨a2, l2, c2, hc2, hn2⟩ := N38.out
  go_wp2_with fail
  have HNS := Lib.hid (isNats2 47 hn1 hn2)
  have hbs := (blocks1 W40 #[.slice a1 l1 c1, .slice a2 l2 c2] 47).1
  replace N40 := Lib.hid (N40.out.go hbs)
  replace B := B.trans (hbs.mono B.size)
  clear hbs hc1 hc2 hn1 hn2
  refine (mul_two _ (x ^ i) (x ^ k) _ HUG.out HVG.out HWG.out HNS.out).mono ?_
  rintro e v42 ⟨u, rfl, hu, hb⟩
  have HUX := Lib.hid hu
  obtain ⟨ax, cx, rfl, _⟩ := hu.shape
  replace N40 := Lib.hid (N40.out.go hb)
  replace B := B.trans (hb.mono B.size)
  clear hb hu
  generalize hll : (Wt.dg (x ^ i * x ^ k)).length = lx' at *
  clear hll
  clear HNS
  go_upto_region 23 with fail
  have HBX := Lib.hid (BoxN.new 47 rfl HUX.out)
  have hb := (blocks1 v42 #[.slice ax lx' cx] 47).1
  replace N40 := Lib.hid (N40.out.go hb)
  replace B := B.trans (hb.mono B.size)
  obtain ⟨g42, hg⟩ : ∃ g42, g42 = v42.heap.size := ⟨_, rfl⟩
  rw [← hg] at HBX ⊢
  generalize v42.alloc (.cells #[.slice ax lx' cx] 47) = W42 at *
  have N42 := HBX
  clear hb hg HBX HUX
  obtain ⟨a1, l1, c1, hc1, hn1⟩ := N42.out
  obtain ⟨a2, l2, c2, hc2, hn2⟩ := N40.out
  go_wp2_with fail
  have HCC := Lib.hid (cmp_same _ _ _ _ W42 HUV.out hn1 hn2)
  clear hc1 hc2 hn1 hn2
  refine (HCC.out).mono ?_
  rintro e w43 ⟨rfl, hb⟩
  replace B := B.trans (hb.mono B.size)
  clear hb
  go_wp2_with fail
  go_ret
  exact ⟨rfl, B⟩

set_option maxHeartbeats 400000 in
theorem natlaws_many (m n p q r : Nat) (pa pb pc : Option Addr) (ca cb cc : Nat) (w : World) (h : 60 < p ∨ (p ≤ 60 ∧ 60 < q) ∨ (p ≤ 60 ∧ q ≤ 60 ∧ 60 < r)) :
    Calls Try.prog 9 #[.slice pa p ca, .slice pb q cb, .slice pc r cc, U8 m, U8 n] w (Yea w) := by
  have B : Below w.heap.size w w := Below.refl _ _
  rcases h with h | ⟨h1, h⟩ | ⟨h1, h2, h⟩
  all_goals
    go_enter Try.func9, Try.ntmps9
    go_wp2_with fail
    refine (awake6_any _).mono ?_
    rintro e w1 ⟨rfl, hb⟩
    replace B := B.trans (hb.mono B.size)
    clear hb
    go_wp2_with fail
    go_ret
    exact ⟨rfl, B⟩

theorem natlaws_any (v0 : Value) (a : List Nat) (v1 : Value) (b : List Nat) (v2 : Value) (c : List Nat) (m n : Nat) (w : World) (hA : Bytes w v0 a) (hB : Bytes w v1 b) (hC : Bytes w v2 c) (hm : m < 256) (hn : n < 256) :
    Calls Try.prog 9 #[v0, v1, v2, U8 m, U8 n] w (Yea w) := by
  by_cases h : a.length ≤ 60 ∧ b.length ≤ 60 ∧ c.length ≤ 60
  · exact natlaws_few v0 v1 v2 a b c m n w h.1 h.2.1 h.2.2 hm hn hA hB hC
  · obtain ⟨pa, ca, rfl, _⟩ := hA
    obtain ⟨pb, cb, rfl, _⟩ := hB
    obtain ⟨pc, cc, rfl, _⟩ := hC
    exact natlaws_many m n _ _ _ pa pb pc ca cb cc w (by omega)

end Go.Proofs.Ytobhlfkmdhoncaa
