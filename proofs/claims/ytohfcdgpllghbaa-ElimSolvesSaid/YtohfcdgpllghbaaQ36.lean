/- Texts of one seat, laid together: LawEightG. -/
import Derived.Test.YtohfcdgpllghbaaQ35

/-
  The laws of equations (layer 8): ElimPuts, equation by equation.
-/
set_option maxRecDepth 100000
namespace Go.Proofs.Ytohfcdgpllghbaa
open Go.RowKit

theorem load_vecrow2 {w : World} {g : Nat} {x y : Value} (h : Blk w g #[x, y] 61) : (Instr.loadAt 61 (.pointer (some ⟨g, 0, none⟩))).run Try.prog w = .ok (.agg #[x, y]) w := by
  obtain ⟨k0, k1⟩ := h.two
  go_simp
theorem load_refrow2 {w : World} {g : Nat} {x y : Value} (h : Blk w g #[x, y] 68) : (Instr.loadAt 68 (.pointer (some ⟨g, 0, none⟩))).run Try.prog w = .ok (.agg #[x, y]) w := by
  obtain ⟨k0, k1⟩ := h.two
  go_simp
theorem few8_at {L : List Rw} (h : few8 L = true) {j : Nat} (hj : j < L.length) : (rwAt L j).1.length ≤ 20 ∧ (rwAt L j).2.length ≤ 20 := by
  unfold few8 at h
  rw [Bool.and_eq_true, List.all_eq_true] at h
  have := h.1 _ (rwAt_mem hj)
  simpa using this
theorem few8_len {L : List Rw} (h : few8 L = true) : L.length ≤ 30 := by
  unfold few8 at h
  rw [Bool.and_eq_true] at h
  simpa using h.2
theorem fit_dim {p q : List Nat} (k t : Nat) (hp : ∀ x, x ∈ p → x < 256) (hq : ∀ x, x ∈ q → x < 256) : Ro.Dim k t (fitR k p, fitR t q) := ⟨fitR_length _ _, fitR_length _ _, fitR_lt hp, fitR_lt hq⟩


set_option maxHeartbeats 4000000 in
theorem elimPuts_loop (k t : Nat) (i : Int) (v : Value) (L : List Rw) (w : World) (hL : IsRL w v L) (hf : few8 L = true) (hk1 : 1 ≤ k) (hk : k ≤ 20) (ht : t ≤ 20) :
    Calls Try.prog 6 #[.int .i64 (k : Int), .int .i64 (t : Int), v, .int .i64 i] w fun e w' => e = .returned (.bool true) ∧ Below w.heap.size w w' := by
  have HL := Lib.hid hL
  have HL0 := Lib.hid hL
  obtain ⟨a, c, rfl⟩ := hL.shape
  have HF := Lib.hid hf
  have HN := Lib.hid (show newOk (k : Int) (t : Int) by unfold newOk; omega)
  have hlen := few8_len hf
  have m1 : ¬ (k : Int) < 1 := by omega
  have m2 : ¬ 4096 < (k : Int) := by omega
  have m3 : ¬ (t : Int) < 0 := by omega
  have m4 : ¬ 65535 < (t : Int) := by omega
  have m5 : ¬ (20 : Int) < (k : Int) := by omega
  have m6 : ¬ (20 : Int) < (t : Int) := by omega
  clear hL hf
  go_enter Try.func6, Try.ntmps6
  go_wp2_with fail
  have B : Below w.heap.size w w := Below.refl _ _
  refine (awake8_any _).mono ?_
  rintro e w1 ⟨rfl, hb⟩
  replace HL := Lib.hid (HL.out.go hb)
  replace B := B.trans (hb.mono B.size)
  have hzw1 := B.size
  clear hb
  go_wp2_with fail
  refine (few8_any _ L _ HL.out).mono ?_
  rintro e w2 ⟨rfl, hb⟩
  replace HL := Lib.hid (HL.out.go hb)
  replace B := B.trans (hb.mono B.size)
  have hzw2 := B.size
  clear hb
  rw [HF.out]
  go_wp2_with fail
  refine (enew_yes k t _ HN.out).mono ?_
  rintro e w3 ⟨g, rfl, hE, hb⟩
  replace HL := Lib.hid (HL.out.go hb)
  replace B := B.trans (hb.mono B.size)
  have hzw3 := B.size
  clear hb
  have HE := Lib.hid (hE.mono (show w.heap.size ≤ _ from hzw2))
  clear hE
  go_wp2_with fail
  refine (esize_any g w.heap.size k t _ [] _ HE.out).mono ?_
  rintro e w4 ⟨rfl, hb⟩
  replace HL := Lib.hid (HL.out.go hb)
  replace HE := Lib.hid (HE.out.go hb)
  replace B := B.trans (hb.mono B.size)
  have hzw4 := B.size
  clear hb
  go_wp2_with fail
  clear HL
  have HG := Lib.hid HE.out.2.2
  go_loopw [13, 15, 16, 17, 18, 19, 20, 21, 22, 23, 24, 25, 26, 27, 89] (fun dv _ _ _ _ _ _ _ _ _ _ _ _ _ x wr => ∃ (j : Nat) (E D : List Rw) (ve : Value), j ≤ L.length ∧ x = .int .i64 j ∧ Below w.heap.size w wr ∧ IsE wr w.heap.size g ve k t E ∧ OwnL wr w.heap.size 68 dv D ∧ Same8 k t E D ∧ D.length ≤ j) (fun _ _ _ _ _ _ _ _ _ _ _ _ _ _ x _ => L.length - (intOf x).toNat)
  case atStart => exact ⟨0, [], [], _, by omega, rfl, B, HE.out, OwnL.nil _ _ _, Same8.nil k t, Nat.le_refl _⟩
  case round =>
    clear B HE hzw1 hzw2 hzw3 hzw4
    obtain ⟨j, E, D, ve, hj, rfl, B, hE, hO, hS, hDj⟩ := hrel
    have HE := Lib.hid hE
    have HO := Lib.hid hO
    have HS := Lib.hid hS
    have hEk := hS.length_le
    have HEL := Lib.hid hS.len
    obtain ⟨da, dc, rfl⟩ := hO.shape
    clear hE hO hS
    by_cases hjl : j < L.length
    · obtain ⟨b, off, c', er, hbl⟩ := HL0.out.addr (by omega)
      simp only [Value.slice.injEq] at er
      obtain ⟨rfl, -, rfl⟩ := er
      obtain ⟨x0, y0, hx0, hy0, hxb, hyb⟩ := (HL0.out.go B).cells j hjl
      obtain ⟨r, hr⟩ : ∃ r, r = rwAt L j := ⟨_, rfl⟩
      rw [← hr] at hxb hyb
      have HX := Lib.hid hxb
      have HY := Lib.hid hyb
      obtain ⟨hr1, hr2⟩ := few8_at HF.out hjl
      rw [← hr] at hr1 hr2
      obtain ⟨xa, xc, rfl, _⟩ := hxb
      obtain ⟨ya, yc, rfl, _⟩ := hyb
      have j1 : (j : Int) < (L.length : Int) := by omega
      have j0 : (0 : Int) ≤ (j : Int) := Int.natCast_nonneg _
      have HR1 := Lib.hid hr1
      have HR2 := Lib.hid hr2
      clear hr hr1 hr2 hbl
      go_wp2_with fail
      obtain ⟨gx, hgx⟩ : ∃ gx : Nat, gx = wr.heap.size := ⟨_, rfl⟩
      obtain ⟨hb, hk, hs⟩ := blocks1 wr #[.slice xa r.1.length xc, .slice ya r.2.length yc] 57
      generalize wr.alloc (.cells #[.slice xa r.1.length xc, .slice ya r.2.length yc] 57) = W15 at *
      have KX := Lib.hid hk
      replace HE := Lib.hid (HE.out.go hb)
      replace HO := Lib.hid (HO.out.go hb)
      replace HX := Lib.hid (HX.out.go hb)
      replace HY := Lib.hid (HY.out.go hb)
      replace B := B.trans (hb.mono B.size)
      have hzW15 := B.size
      clear hb hk hs
      rw [← hgx] at KX
      simp only [← hgx]
      clear hx0 hy0 hgx
      obtain ⟨gc0, hgc0⟩ : ∃ n : Nat, n = W15.heap.size := ⟨_, rfl⟩
      have HGC := Lib.hid (show w.heap.size ≤ gc0 by rw [hgc0]; exact B.size)
      have HV0 := Lib.hid (show ∀ b, ve.ownBlock = some b → b < gc0 by rw [hgc0]; exact HE.out.2.1.lt)
      have HG0 := Lib.hid (show g < gc0 by rw [hgc0]; exact HE.out.1.lt)
      refine (eclone_any g w.heap.size k t ve E _ HE.out HS.out.red.up.dims (by omega) (by omega) (by omega)).mono ?_
      rintro e w16 ⟨gc, vc, rfl, hC, hb⟩
      replace HE := Lib.hid (HE.out.go hb)
      replace HO := Lib.hid (HO.out.go hb)
      replace HX := Lib.hid (HX.out.go hb)
      replace HY := Lib.hid (HY.out.go hb)
      replace KX := Lib.hid (KX.out.go hb)
      replace B := B.trans (hb.mono B.size)
      have hzw16 := B.size
      clear hb
      rw [← hgc0] at hC
      have HC := Lib.hid hC
      clear hC hgc0
      obtain ⟨kx0, kx1⟩ := KX.out.two
      have kxl := KX.out.lt
      go_wp2_with fail
      clear kx0 kx1 kxl
      refine (make3_any _ r.1 r.2 _ ⟨_, _, rfl, HX.out, HY.out⟩ (by have := HR1.out; omega) (by have := HR2.out; omega)).mono ?_
      rintro e w17 ⟨u17, rfl, hu17, hb⟩
      replace HE := Lib.hid (HE.out.go hb)
      replace HO := Lib.hid (HO.out.go hb)
      replace HX := Lib.hid (HX.out.go hb)
      replace HY := Lib.hid (HY.out.go hb)
      replace KX := Lib.hid (KX.out.go hb)
      replace HC := Lib.hid (HC.out.go hb)
      replace B := B.trans (hb.mono B.size)
      have hzw17 := B.size
      clear hb
      have HU17 := Lib.hid hu17
      clear hu17
      go_wp2_with fail
      by_cases hfit : r.1.length = k ∧ r.2.length = t
      · have HD := Lib.hid (show Ro.Dim k t r from ⟨hfit.1, hfit.2, HX.out.lt, HY.out.lt⟩)
        have hb1 : ((r.1.length : Int) != (k : Int)) = false := by rw [hfit.1]; simp
        have hb2 : ((r.2.length : Int) != (t : Int)) = false := by rw [hfit.2]; simp
        clear hfit
        obtain ⟨y, hy⟩ : ∃ y, y = Ro.rest E r := ⟨_, rfl⟩
        have HYQ := Lib.hid hy
        refine (erest_any g w.heap.size k t ve u17 E r _ HE.out HU17.out HD.out HS.out.red.up.dims HS.out.red.up.leads (by omega) (by omega) (by omega)).mono ?_
        rintro e w18 ⟨u18, rfl, hu18, hb⟩
        replace HE := Lib.hid (HE.out.go hb)
        replace HO := Lib.hid (HO.out.go hb)
        replace HX := Lib.hid (HX.out.go hb)
        replace HY := Lib.hid (HY.out.go hb)
        replace KX := Lib.hid (KX.out.go hb)
        replace HC := Lib.hid (HC.out.go hb)
        replace B := B.trans (hb.mono B.size)
        have hzw18 := B.size
        clear hb
        rw [← hy] at hu18
        obtain ⟨za, zc, zb, zd, rfl⟩ := hu18.shape
        have HRB := Lib.hid hu18
        clear hu18 HU17 hy
        obtain ⟨kx0, kx1⟩ := KX.out.two
        have kxl := KX.out.lt
        go_wp2_with fail
        clear kx0 kx1 kxl
        obtain ⟨gr, hgr⟩ : ∃ gr : Nat, gr = w18.heap.size := ⟨_, rfl⟩
        obtain ⟨hb, hk, hs⟩ := blocks1 w18 #[.slice za y.1.length zc, .slice zb y.2.length zd] 61
        generalize w18.alloc (.cells #[.slice za y.1.length zc, .slice zb y.2.length zd] 61) = W18 at *
        have KR := Lib.hid hk
        replace HE := Lib.hid (HE.out.go hb)
        replace HO := Lib.hid (HO.out.go hb)
        replace HX := Lib.hid (HX.out.go hb)
        replace HY := Lib.hid (HY.out.go hb)
        replace KX := Lib.hid (KX.out.go hb)
        replace HC := Lib.hid (HC.out.go hb)
        replace HRB := Lib.hid (HRB.out.go hb)
        replace B := B.trans (hb.mono B.size)
        have hzW18 := B.size
        clear hb hk hs
        rw [← hgr] at KR
        simp only [← hgr]
        clear hgr
        refine (make3_any _ r.1 r.2 _ ⟨_, _, rfl, HX.out, HY.out⟩ (by have := HR1.out; omega) (by have := HR2.out; omega)).mono ?_
        rintro e w19 ⟨u19, rfl, hu19, hb⟩
        replace HE := Lib.hid (HE.out.go hb)
        replace HO := Lib.hid (HO.out.go hb)
        replace HX := Lib.hid (HX.out.go hb)
        replace HY := Lib.hid (HY.out.go hb)
        replace KX := Lib.hid (KX.out.go hb)
        replace HC := Lib.hid (HC.out.go hb)
        replace KR := Lib.hid (KR.out.go hb)
        replace HRB := Lib.hid (HRB.out.go hb)
        replace B := B.trans (hb.mono B.size)
        have hzw19 := B.size
        clear hb
        have HU19 := Lib.hid hu19
        clear hu19
        go_wp2_with fail
        refine (eput_any g w.heap.size k t ve u19 E r w19 HE.out HU19.out HS.out.red HD.out (by omega) (by omega) (by omega)).mono ?_
        rintro e wp ⟨vn, rfl, q1, q2, q3⟩
        replace B := q2.under B B.size HG.out HE.out.2.1.from
        have HGG := Lib.hid (show g ≠ gc by have := HC.out.2.2; have := HG0.out; omega)
        have HAP := Lib.hid (near_apart q3 HV0.out HC.out.2.1.from HC.out.2.1.lt)
        replace HC := Lib.hid (HC.out.beside HE.out q2 (fun e => HGG.out e.symm) (fun b e e' => by have := HV0.out b e'; have := HC.out.2.1.from b e; omega))
        replace KX := Lib.hid (HE.out.keeps q2 KX.out (by decide) (by decide))
        replace KR := Lib.hid (HE.out.keeps q2 KR.out (by decide) (by decide))
        replace HO := Lib.hid (HE.out.keepsL q2 HO.out (by decide) (by decide))
        replace HX := Lib.hid (HX.out.soft q2.soft)
        replace HY := Lib.hid (HY.out.soft q2.soft)
        replace HRB := Lib.hid (HRB.out.soft q2.soft)
        replace HE := Lib.hid q1
        have HP8 := HS.out.put HD.out
        obtain ⟨m0, hm0⟩ : ∃ m, m = putC E r := ⟨_, rfl⟩
        obtain ⟨E2, hE2⟩ : ∃ x, x = Ro.take1 E r := ⟨_, rfl⟩
        rw [← hE2] at HE HP8
        rw [← hm0] at HP8 ⊢
        have HS2 := Lib.hid HP8.1
        have HM2 := Lib.hid HP8.2
        have hE2k := HP8.1.length_le
        have HEL2 := Lib.hid HP8.1.len
        have HDL2 := Lib.hid (show (Ro.put8 D r).1.length ≤ j + 1 by
          unfold Ro.put8
          split
          · simp; omega
          · split
            · simp; omega
            · simp; omega)
        clear q1 q2 q3 HU19 hE2 hm0 HP8 HV0 HG0
        go_wp2_with fail
        -- the clone takes an equation of its own
        obtain ⟨hb, hk, hs⟩ := blocks1 wp #[.int .u8 0, .int .u8 7] 5
        generalize wp.alloc (.cells #[.int .u8 0, .int .u8 7] 5) = W20 at *
        have K20 := Lib.hid hk
        replace HE := Lib.hid (HE.out.go hb)
        replace HC := Lib.hid (HC.out.go hb)
        replace KX := Lib.hid (KX.out.go hb)
        replace KR := Lib.hid (KR.out.go hb)
        replace HO := Lib.hid (HO.out.go hb)
        replace HX := Lib.hid (HX.out.go hb)
        replace HY := Lib.hid (HY.out.go hb)
        replace HRB := Lib.hid (HRB.out.go hb)
        replace B := B.trans (hb.mono B.size)
        have hzW20 := B.size
        clear hb hk hs
        have HL7 := Lib.hid (K20.out.bytes2 0 7 rfl rfl (by omega) (by omega))
        refine (fit8_any _ [0, 7] [] k t _ ⟨_, _, rfl, HL7.out, Bytes.nil _⟩ (by omega) (by omega)).mono ?_
        rintro e w21 ⟨u21, rfl, hu21, hb⟩
        replace HE := Lib.hid (HE.out.go hb)
        replace HC := Lib.hid (HC.out.go hb)
        replace KX := Lib.hid (KX.out.go hb)
        replace KR := Lib.hid (KR.out.go hb)
        replace HO := Lib.hid (HO.out.go hb)
        replace HX := Lib.hid (HX.out.go hb)
        replace HY := Lib.hid (HY.out.go hb)
        replace HRB := Lib.hid (HRB.out.go hb)
        replace B := B.trans (hb.mono B.size)
        have hzw21 := B.size
        clear hb
        have HF7 := Lib.hid hu21
        clear hu21 HL7 K20
        go_wp2_with fail
        refine (make3_any _ _ _ _ HF7.out (by rw [fitR_length]; omega) (by rw [fitR_length]; omega)).mono ?_
        rintro e w22 ⟨u22, rfl, hu22, hb⟩
        replace HE := Lib.hid (HE.out.go hb)
        replace HC := Lib.hid (HC.out.go hb)
        replace KX := Lib.hid (KX.out.go hb)
        replace KR := Lib.hid (KR.out.go hb)
        replace HO := Lib.hid (HO.out.go hb)
        replace HX := Lib.hid (HX.out.go hb)
        replace HY := Lib.hid (HY.out.go hb)
        replace HRB := Lib.hid (HRB.out.go hb)
        replace B := B.trans (hb.mono B.size)
        have hzw22 := B.size
        clear hb
        have HF8 := Lib.hid hu22
        clear hu22 HF7
        go_wp2_with fail
        refine (eput_any gc gc0 k t _ u22 E (fitR k [0, 7], fitR t []) w22 HC.out HF8.out HS.out.red (fit_dim k t (by decide) (fun x hx => by cases hx)) (by omega) (by omega) (by omega)).mono ?_
        rintro e w23 ⟨v23, rfl, q1, q2, q3⟩
        have HB23 := Lib.hid (q2.under B B.size (Nat.le_trans HGC.out HC.out.2.2) (fun b e => Nat.le_trans HGC.out (HC.out.2.1.from b e)))
        have HE23 := Lib.hid (HE.out.beside HC.out q2 HGG.out HAP.out)
        have KX23 := Lib.hid (HC.out.keeps q2 KX.out (by decide) (by decide))
        have KR23 := Lib.hid (HC.out.keeps q2 KR.out (by decide) (by decide))
        have HO23 := Lib.hid (HC.out.keepsL q2 HO.out (by decide) (by decide))
        have HSO23 := Lib.hid q2.soft
        clear q1 q2 q3 HE HC KX KR HO B HF8
        obtain ⟨kx230, kx231⟩ := KX23.out.two
        have kx23l := KX23.out.lt
        obtain ⟨kr230, kr231⟩ := KR23.out.two
        have kr23l := KR23.out.lt
        go_wp2_with fail
        have HX := Lib.hid (HX.out.soft HSO23.out)
        have HY := Lib.hid (HY.out.soft HSO23.out)
        have HRB := Lib.hid (HRB.out.soft HSO23.out)
        have B := HB23.out
        clear HB23 HSO23 kx230 kx231 kx23l kr230 kr231 kr23l
        have hzz := B.size
        refine (ref3_any _ r.1 r.2 _ ⟨_, _, rfl, HX.out, HY.out⟩).mono ?_
        rintro e w24 ⟨u24, rfl, hu24, hb⟩
        replace HE23 := Lib.hid (HE23.out.go hb)
        replace KX23 := Lib.hid (KX23.out.go hb)
        replace KR23 := Lib.hid (KR23.out.go hb)
        replace HO23 := Lib.hid (HO23.out.go hb)
        replace HX := Lib.hid (HX.out.go hb)
        replace HY := Lib.hid (HY.out.go hb)
        replace HRB := Lib.hid (HRB.out.go hb)
        replace B := B.trans (hb.mono B.size)
        have hzw24 := B.size
        clear hb
        have HU24 := Lib.hid hu24
        clear hu24
        go_wp2_with fail
        refine (refrest8_any _ u24 D k t r _ HO23.out.list HU24.out HS.out.dims HD.out (by omega) (by omega) (by omega)).mono ?_
        rintro e w25 ⟨u25, rfl, hu25, hb⟩
        replace HE23 := Lib.hid (HE23.out.go hb)
        replace KX23 := Lib.hid (KX23.out.go hb)
        replace KR23 := Lib.hid (KR23.out.go hb)
        replace HO23 := Lib.hid (HO23.out.go hb)
        replace HX := Lib.hid (HX.out.go hb)
        replace HY := Lib.hid (HY.out.go hb)
        replace HRB := Lib.hid (HRB.out.go hb)
        replace B := B.trans (hb.mono B.size)
        have hzw25 := B.size
        clear hb
        rw [HS.out.rest r, ← HYQ.out] at hu25
        obtain ⟨ta, tc, tb, td, rfl⟩ := hu25.shape
        have HWB := Lib.hid hu25
        clear hu25 HU24
        obtain ⟨kx230, kx231⟩ := KX23.out.two
        have kx23l := KX23.out.lt
        go_wp2_with fail
        clear kx230 kx231 kx23l
        obtain ⟨gw, hgw⟩ : ∃ gw : Nat, gw = w25.heap.size := ⟨_, rfl⟩
        obtain ⟨hb, hk, hs⟩ := blocks1 w25 #[.slice ta y.1.length tc, .slice tb y.2.length td] 68
        generalize w25.alloc (.cells #[.slice ta y.1.length tc, .slice tb y.2.length td] 68) = W25 at *
        have KW := Lib.hid hk
        replace HE23 := Lib.hid (HE23.out.go hb)
        replace KR23 := Lib.hid (KR23.out.go hb)
        replace HO23 := Lib.hid (HO23.out.go hb)
        replace HX := Lib.hid (HX.out.go hb)
        replace HY := Lib.hid (HY.out.go hb)
        replace HRB := Lib.hid (HRB.out.go hb)
        replace HWB := Lib.hid (HWB.out.go hb)
        replace B := B.trans (hb.mono B.size)
        have hzW25 := B.size
        clear hb hk hs
        rw [← hgw] at KW
        simp only [← hgw]
        clear hgw KX23
        refine (ref3_any _ r.1 r.2 _ ⟨_, _, rfl, HX.out, HY.out⟩).mono ?_
        rintro e w26 ⟨u26, rfl, hu26, hb⟩
        replace HE23 := Lib.hid (HE23.out.go hb)
        replace KR23 := Lib.hid (KR23.out.go hb)
        replace HO23 := Lib.hid (HO23.out.go hb)
        replace HRB := Lib.hid (HRB.out.go hb)
        replace HWB := Lib.hid (HWB.out.go hb)
        replace KW := Lib.hid (KW.out.go hb)
        replace B := B.trans (hb.mono B.size)
        have hzw26 := B.size
        clear hb
        have HU26 := Lib.hid hu26
        clear hu26 HX HY
        go_wp2_with fail
        have HOO := Lib.hid HO23.out.list
        refine (refput8_any _ u26 D k t r _ HOO.out HU26.out HS.out.dims HD.out (by omega) (by omega) (by omega)).mono ?_
        rintro e w27 ⟨v27, rfl, hl27, ho27, hb⟩
        replace HE23 := Lib.hid (HE23.out.go hb)
        replace KR23 := Lib.hid (KR23.out.go hb)
        replace HO23 := Lib.hid (HO23.out.go hb)
        replace HRB := Lib.hid (HRB.out.go hb)
        replace HWB := Lib.hid (HWB.out.go hb)
        replace KW := Lib.hid (KW.out.go hb)
        replace B := B.trans (hb.mono B.size)
        have hzw27 := B.size
        clear hb
        obtain ⟨D2, hD2⟩ : ∃ x, x = (Ro.put8 D r).1 := ⟨_, rfl⟩
        rw [← hD2] at HS2 HEL2 HDL2 hl27 ho27
        rw [← HM2.out]
        have HO2 := Lib.hid (show OwnL w27 w.heap.size 68 v27 D2 by
          rcases ho27 with ⟨e1, e2⟩ | h
          · rw [e1, e2]; exact HO23.out
          · exact h.mono (by omega))
        clear hl27 ho27 hD2 HO23 HU26 HM2 HOO
        obtain ⟨d2a, d2c, rfl⟩ := HO2.out.shape
        go_wp2_with fail
        refine wp_region_mono (C := Cb w27) (R := Rb) (H := Hz) [TyZ.val 160 (I64 0), TyZ.val 161 (.bool false), TyZ.val 162 (.bool false), TyZ.val 163 (I64 0), TyZ.val 164 (.bool false), TyZ.val 165 (.bool false), TyZ.val 166 (.bool false), TyZ.val 167 (.int .i64 m0), TyZ.val 168 (.int .i64 m0), TyZ.val 169 (.bool false), TyZ.val 170 (.bool false), TyZ.val 171 (.bool false), TyZ.row 172 y.1 y.2, TyZ.row 173 y.1 y.2, TyZ.row 174 y.1 y.2, TyZ.val 175 (.bool true), TyZ.val 176 (.bool false), TyZ.val 177 (.bool false)] (by kernel_rfl) (hC_b w27) (hCH_z w27) (drew_b w27) ⟨trivial, trivial, trivial, trivial, trivial, trivial, trivial, trivial, trivial, trivial, trivial, trivial, trivial, trivial, trivial, trivial, trivial, trivial, trivial⟩ (by kernel_rfl) ?_ ?_
        · refine ⟨?_, ?_, ?_, ?_, ?_, ?_, ?_, ?_, ?_, ?_, ?_, ?_, ?_, ?_, ?_, ?_, ?_, ?_, trivial⟩
          · intro ac wc hC hsz hfr hd hpr
            have d18 : ac.eval (.tmp 18) = I64 0 := hfr 18 rfl
            rw [if_pos (wanted_none rfl)]
            exact ob_copy rfl rfl rfl (Nat.lt_of_lt_of_eq (by decide : 160 < 262) hsz.symm) (Or.inl rfl) (Below.refl _ _) d18
          · intro ac wc hC hsz hfr hd hpr
            have d160 : ac.eval (.tmp 160) = I64 0 := hd 0 rfl
            rw [if_pos (wanted_none rfl)]
            exact ob_bin _ rfl rfl rfl (Nat.lt_of_lt_of_eq (by decide : 161 < 262) hsz.symm) rfl d160 rfl (neq_err rfl) (Below.refl _ _) rfl
          · intro ac wc hC hsz hfr hd hpr
            have d161 : ac.eval (.tmp 161) = (.bool false) := hd 1 rfl
            rw [if_pos (wanted_none rfl)]
            exact ob_copy rfl rfl rfl (Nat.lt_of_lt_of_eq (by decide : 162 < 262) hsz.symm) (Or.inl rfl) (Below.refl _ _) d161
          · intro ac wc hC hsz hfr hd hpr
            have d162 : ac.eval (.tmp 162) = (.bool false) := hd 2 rfl
            have d20 : ac.eval (.tmp 20) = I64 0 := hfr 20 rfl
            rw [if_pos (wanted_some rfl (yielded_of rfl d162))]
            exact ob_copy rfl rfl rfl (Nat.lt_of_lt_of_eq (by decide : 163 < 262) hsz.symm) (Or.inl rfl) (Below.refl _ _) d20
          · intro ac wc hC hsz hfr hd hpr
            have d162 : ac.eval (.tmp 162) = (.bool false) := hd 2 rfl
            have d163 : ac.eval (.tmp 163) = I64 0 := hd 3 rfl
            rw [if_pos (wanted_some rfl (yielded_of rfl d162))]
            exact ob_bin _ rfl rfl rfl (Nat.lt_of_lt_of_eq (by decide : 164 < 262) hsz.symm) rfl d163 rfl (neq_err rfl) (Below.refl _ _) rfl
          · intro ac wc hC hsz hfr hd hpr
            have d162 : ac.eval (.tmp 162) = (.bool false) := hd 2 rfl
            have d164 : ac.eval (.tmp 164) = (.bool false) := hd 4 rfl
            rw [if_pos (wanted_none rfl)]
            exact ob_pick rfl rfl rfl (Nat.lt_of_lt_of_eq (by decide : 165 < 262) hsz.symm) rfl d162 (Below.refl _ _) d164
          · intro ac wc hC hsz hfr hd hpr
            have d165 : ac.eval (.tmp 165) = (.bool false) := hd 5 rfl
            rw [if_pos (wanted_none rfl)]
            exact ob_copy rfl rfl rfl (Nat.lt_of_lt_of_eq (by decide : 166 < 262) hsz.symm) (Or.inl rfl) (Below.refl _ _) d165
          · intro ac wc hC hsz hfr hd hpr
            have d166 : ac.eval (.tmp 166) = (.bool false) := hd 6 rfl
            have d19 : ac.eval (.tmp 19) = (.int .i64 m0) := hfr 19 rfl
            rw [if_pos (wanted_some rfl (yielded_of rfl d166))]
            exact ob_copy rfl rfl rfl (Nat.lt_of_lt_of_eq (by decide : 167 < 262) hsz.symm) (Or.inl rfl) (Below.refl _ _) d19
          · intro ac wc hC hsz hfr hd hpr
            have d166 : ac.eval (.tmp 166) = (.bool false) := hd 6 rfl
            have d23 : ac.eval (.tmp 23) = (.int .i64 m0) := hfr 23 rfl
            rw [if_pos (wanted_some rfl (yielded_of rfl d166))]
            exact ob_copy rfl rfl rfl (Nat.lt_of_lt_of_eq (by decide : 168 < 262) hsz.symm) (Or.inl rfl) (Below.refl _ _) d23
          · intro ac wc hC hsz hfr hd hpr
            have d166 : ac.eval (.tmp 166) = (.bool false) := hd 6 rfl
            have d167 : ac.eval (.tmp 167) = (.int .i64 m0) := hd 7 rfl
            have d168 : ac.eval (.tmp 168) = (.int .i64 m0) := hd 8 rfl
            rw [if_pos (wanted_some rfl (yielded_of rfl d166))]
            exact ob_bin _ rfl rfl rfl (Nat.lt_of_lt_of_eq (by decide : 169 < 262) hsz.symm) rfl d167 d168 (neq_int (by simp)) (Below.refl _ _) rfl
          · intro ac wc hC hsz hfr hd hpr
            have d166 : ac.eval (.tmp 166) = (.bool false) := hd 6 rfl
            have d169 : ac.eval (.tmp 169) = (.bool false) := hd 9 rfl
            rw [if_pos (wanted_none rfl)]
            exact ob_pick rfl rfl rfl (Nat.lt_of_lt_of_eq (by decide : 170 < 262) hsz.symm) rfl d166 (Below.refl _ _) d169
          · intro ac wc hC hsz hfr hd hpr
            have d170 : ac.eval (.tmp 170) = (.bool false) := hd 10 rfl
            rw [if_pos (wanted_none rfl)]
            exact ob_copy rfl rfl rfl (Nat.lt_of_lt_of_eq (by decide : 171 < 262) hsz.symm) (Or.inl rfl) (Below.refl _ _) d170
          · intro ac wc hC hsz hfr hd hpr
            have d171 : ac.eval (.tmp 171) = (.bool false) := hd 11 rfl
            have d17 : ac.eval (.tmp 17) = (.pointer (some ⟨gr, 0, none⟩)) := hfr 17 rfl
            rw [if_pos (wanted_some rfl (yielded_of rfl d171))]
            exact ob_load _ rfl rfl rfl (Nat.lt_of_lt_of_eq (by decide : 172 < 262) hsz.symm) rfl d17 (load_vecrow2 (KR23.out.go hC)) (Below.refl _ _) (HRB.out.go hC)
          · intro ac wc hC hsz hfr hd hpr
            have d171 : ac.eval (.tmp 171) = (.bool false) := hd 11 rfl
            have d172 : IsRow wc (ac.eval (.tmp 172)) y.1 y.2 := hd 12 rfl
            rw [if_pos (wanted_some rfl (yielded_of rfl d171))]
            refine ob_call rfl rfl rfl (Nat.lt_of_lt_of_eq (by decide : 173 < 262) hsz.symm) rfl (enter_of Try.func41 (by kernel_rfl) rfl) ?_
            show Calls Try.prog 41 #[ac.eval (.tmp 172)] wc _
            exact of3_any _ y.1 y.2 wc d172
          · intro ac wc hC hsz hfr hd hpr
            have d171 : ac.eval (.tmp 171) = (.bool false) := hd 11 rfl
            have d21 : ac.eval (.tmp 21) = (.pointer (some ⟨gw, 0, none⟩)) := hfr 21 rfl
            rw [if_pos (wanted_some rfl (yielded_of rfl d171))]
            exact ob_load _ rfl rfl rfl (Nat.lt_of_lt_of_eq (by decide : 174 < 262) hsz.symm) rfl d21 (load_refrow2 (KW.out.go hC)) (Below.refl _ _) (HWB.out.go hC)
          · intro ac wc hC hsz hfr hd hpr
            have d171 : ac.eval (.tmp 171) = (.bool false) := hd 11 rfl
            have d173 : IsRow wc (ac.eval (.tmp 173)) y.1 y.2 := hd 13 rfl
            have d174 : IsRow wc (ac.eval (.tmp 174)) y.1 y.2 := hd 14 rfl
            rw [if_pos (wanted_some rfl (yielded_of rfl d171))]
            refine ob_call rfl rfl rfl (Nat.lt_of_lt_of_eq (by decide : 175 < 262) hsz.symm) rfl (enter_of Try.func40 (by kernel_rfl) rfl) ?_
            show Calls Try.prog 40 #[ac.eval (.tmp 173), ac.eval (.tmp 174)] wc _
            exact (refrowsame_yes _ _ y.1 y.2 wc d173 d174).mono fun _ _ ⟨he, hb⟩ => ⟨_, he, rfl, hb⟩
          · intro ac wc hC hsz hfr hd hpr
            have d171 : ac.eval (.tmp 171) = (.bool false) := hd 11 rfl
            have d175 : ac.eval (.tmp 175) = (.bool true) := hd 15 rfl
            rw [if_pos (wanted_some rfl (yielded_of rfl d171))]
            exact ob_not rfl rfl rfl (Nat.lt_of_lt_of_eq (by decide : 176 < 262) hsz.symm) rfl d175 (Below.refl _ _) rfl
          · intro ac wc hC hsz hfr hd hpr
            have d171 : ac.eval (.tmp 171) = (.bool false) := hd 11 rfl
            have d176 : ac.eval (.tmp 176) = (.bool false) := hd 16 rfl
            rw [if_pos (wanted_none rfl)]
            exact ob_pick rfl rfl rfl (Nat.lt_of_lt_of_eq (by decide : 177 < 262) hsz.symm) rfl d171 (Below.refl _ _) d176
        intro a' W30 hC hdef hsz hfr hd
        have e160 : a'.eval (.tmp 160) = I64 0 := hd 0 (by decide)
        have e161 : a'.eval (.tmp 161) = (.bool false) := hd 1 (by decide)
        have e162 : a'.eval (.tmp 162) = (.bool false) := hd 2 (by decide)
        have e163 : a'.eval (.tmp 163) = I64 0 := hd 3 (by decide)
        have e164 : a'.eval (.tmp 164) = (.bool false) := hd 4 (by decide)
        have e165 : a'.eval (.tmp 165) = (.bool false) := hd 5 (by decide)
        have e166 : a'.eval (.tmp 166) = (.bool false) := hd 6 (by decide)
        have e167 : a'.eval (.tmp 167) = (.int .i64 m0) := hd 7 (by decide)
        have e168 : a'.eval (.tmp 168) = (.int .i64 m0) := hd 8 (by decide)
        have e169 : a'.eval (.tmp 169) = (.bool false) := hd 9 (by decide)
        have e170 : a'.eval (.tmp 170) = (.bool false) := hd 10 (by decide)
        have e171 : a'.eval (.tmp 171) = (.bool false) := hd 11 (by decide)
        obtain ⟨x172, e172, r172⟩ : ∃ xq_, a'.eval (.tmp 172) = xq_ ∧ IsRow W30 (xq_) y.1 y.2 := ⟨_, rfl, hd 12 (by decide)⟩
        replace r172 := Lib.hid r172
        obtain ⟨x173, e173, r173⟩ : ∃ xq_, a'.eval (.tmp 173) = xq_ ∧ IsRow W30 (xq_) y.1 y.2 := ⟨_, rfl, hd 13 (by decide)⟩
        replace r173 := Lib.hid r173
        obtain ⟨x174, e174, r174⟩ : ∃ xq_, a'.eval (.tmp 174) = xq_ ∧ IsRow W30 (xq_) y.1 y.2 := ⟨_, rfl, hd 14 (by decide)⟩
        replace r174 := Lib.hid r174
        have e175 : a'.eval (.tmp 175) = (.bool true) := hd 15 (by decide)
        have e176 : a'.eval (.tmp 176) = (.bool false) := hd 16 (by decide)
        have e177 : a'.eval (.tmp 177) = (.bool false) := hd 17 (by decide)
        have hact := act_puts hdef hsz hfr
        simp only [dstsOf, List.filterMap, putAll, Act.put, List.setIfInBounds_toArray, List.set_cons_succ, List.set_cons_zero, e160, e161, e162, e163, e164, e165, e166, e167, e168, e169, e170, e171, e172, e173, e174, e175, e176, e177] at hact
        clear hd hfr hsz hdef e160 e161 e162 e163 e164 e165 e166 e167 e168 e169 e170 e171 e172 e173 e174 e175 e176 e177
        subst hact
        replace HE23 := Lib.hid (HE23.out.go hC)
        replace HRB := Lib.hid (HRB.out.go hC)
        replace HWB := Lib.hid (HWB.out.go hC)
        replace HO2 := Lib.hid (HO2.out.go hC)
        replace B := B.trans (hC.mono B.size)
        clear KW KR23 HRB HWB
        have hzz2 := B.size
        go_wp2_with fail
        refine (eknown_any g w.heap.size k t vn E2 i _ HE23.out HS2.out.red.up (by omega) (by omega) (by omega)).mono ?_
        rintro e w31 ⟨u31, rfl, hu31, hb⟩
        replace HE23 := Lib.hid (HE23.out.go hb)
        replace HO2 := Lib.hid (HO2.out.go hb)
        replace B := B.trans (hb.mono B.size)
        have hzw31 := B.size
        clear hb
        have HK1 := Lib.hid hu31
        clear hu31
        go_wp2_with fail
        refine (refknown8_any _ D2 k t i _ HO2.out.list HS2.out.dims (by omega) (by omega) (by have := HEL2.out; omega)).mono ?_
        rintro e w32 ⟨u32, rfl, hu32, hb⟩
        replace HE23 := Lib.hid (HE23.out.go hb)
        replace HO2 := Lib.hid (HO2.out.go hb)
        replace HK1 := Lib.hid (HK1.out.go hb)
        replace B := B.trans (hb.mono B.size)
        have hzw32 := B.size
        clear hb
        rw [HS2.out.rows] at hu32 ⊢
        have HK2 := Lib.hid hu32
        clear hu32
        go_wp2_with fail
        refine (erank_any g w.heap.size k t vn E2 _ HE23.out).mono ?_
        rintro e w' ⟨rfl, rfl⟩
        have hel : ((E2.length : Int) != (D2.length : Int)) = false := by rw [HEL2.out]; simp
        go_wp2_with fail
        refine (erows_any g w.heap.size k t vn E2 _ HE23.out HS2.out.red.up.dims (by omega) (by omega) (by omega)).mono ?_
        rintro e w33 ⟨u33, rfl, hu33, hb⟩
        replace HE23 := Lib.hid (HE23.out.go hb)
        replace HO2 := Lib.hid (HO2.out.go hb)
        replace HK1 := Lib.hid (HK1.out.go hb)
        replace HK2 := Lib.hid (HK2.out.go hb)
        replace B := B.trans (hb.mono B.size)
        have hzw33 := B.size
        clear hb
        have HR3 := Lib.hid hu33.list
        clear hu33
        go_wp2_with fail
        refine (refrows8_any _ D2 k t _ HO2.out.list HS2.out.dims (by omega) (by omega) (by have := HEL2.out; omega)).mono ?_
        rintro e w34 ⟨u34, rfl, hu34, hb⟩
        replace HE23 := Lib.hid (HE23.out.go hb)
        replace HO2 := Lib.hid (HO2.out.go hb)
        replace HK1 := Lib.hid (HK1.out.go hb)
        replace HK2 := Lib.hid (HK2.out.go hb)
        replace HR3 := Lib.hid (HR3.out.go hb)
        replace B := B.trans (hb.mono B.size)
        have hzw34 := B.size
        clear hb
        rw [HS2.out.rows] at hu34
        have HR4 := Lib.hid hu34.1.list
        clear hu34
        go_wp2_with fail
        refine (same8_any _ _ E2 E2 _ HR3.out HR4.out (by omega)).mono ?_
        rintro e w35 ⟨rfl, hb⟩
        replace HE23 := Lib.hid (HE23.out.go hb)
        replace HO2 := Lib.hid (HO2.out.go hb)
        replace HK1 := Lib.hid (HK1.out.go hb)
        replace HK2 := Lib.hid (HK2.out.go hb)
        replace B := B.trans (hb.mono B.size)
        have hzw35 := B.size
        clear hb
        go_wp2_with fail
        refine (same_any _ _ _ _ _ HK1.out HK2.out).mono ?_
        rintro e w36 ⟨rfl, hb⟩
        replace HE23 := Lib.hid (HE23.out.go hb)
        replace HO2 := Lib.hid (HO2.out.go hb)
        replace B := B.trans (hb.mono B.size)
        have hzw36 := B.size
        clear hb
        go_wp2_with fail
        go_roundw
        case rel => exact ⟨j + 1, E2, D2, vn, by omega, by go_num, B, HE23.out, HO2.out, HS2.out, HDL2.out⟩
        case measure => simp [intOf]; omega
      · have hno : r.1.length ≠ k ∨ (r.1.length = k ∧ r.2.length ≠ t) := by omega
        have HNO := Lib.hid hno
        refine (erest_size g w.heap.size k t ve u17 E r.1 r.2 _ HE.out HU17.out HNO.out).mono ?_
        rintro e w18 ⟨u18, rfl, hu18, hb⟩
        replace HE := Lib.hid (HE.out.go hb)
        replace HO := Lib.hid (HO.out.go hb)
        replace HX := Lib.hid (HX.out.go hb)
        replace HY := Lib.hid (HY.out.go hb)
        replace KX := Lib.hid (KX.out.go hb)
        replace HC := Lib.hid (HC.out.go hb)
        replace B := B.trans (hb.mono B.size)
        have hzw18 := B.size
        clear hb
        obtain ⟨za, zc, zb, zd, rfl⟩ := hu18.shape
        clear hu18 HU17 hno hfit
        obtain ⟨kx0, kx1⟩ := KX.out.two
        have kxl := KX.out.lt
        go_wp2_with fail
        clear kx0 kx1 kxl
        obtain ⟨gr, hgr⟩ : ∃ gr : Nat, gr = w18.heap.size := ⟨_, rfl⟩
        obtain ⟨hb, hk, hs⟩ := blocks1 w18 #[.slice za ([] : List Nat).length zc, .slice zb ([] : List Nat).length zd] 61
        generalize w18.alloc (.cells #[.slice za ([] : List Nat).length zc, .slice zb ([] : List Nat).length zd] 61) = W18 at *
        have KR := Lib.hid hk
        replace HE := Lib.hid (HE.out.go hb)
        replace HO := Lib.hid (HO.out.go hb)
        replace HX := Lib.hid (HX.out.go hb)
        replace HY := Lib.hid (HY.out.go hb)
        replace KX := Lib.hid (KX.out.go hb)
        replace HC := Lib.hid (HC.out.go hb)
        replace B := B.trans (hb.mono B.size)
        have hzW18 := B.size
        clear hb hk hs
        rw [← hgr] at KR
        simp only [← hgr]
        clear hgr
        refine (make3_any _ r.1 r.2 _ ⟨_, _, rfl, HX.out, HY.out⟩ (by have := HR1.out; omega) (by have := HR2.out; omega)).mono ?_
        rintro e w19 ⟨u19, rfl, hu19, hb⟩
        replace HE := Lib.hid (HE.out.go hb)
        replace HO := Lib.hid (HO.out.go hb)
        replace KX := Lib.hid (KX.out.go hb)
        replace HC := Lib.hid (HC.out.go hb)
        replace KR := Lib.hid (KR.out.go hb)
        replace B := B.trans (hb.mono B.size)
        have hzw19 := B.size
        clear hb
        have HU19 := Lib.hid hu19
        clear hu19
        go_wp2_with fail
        refine (eput_size g w.heap.size k t ve u19 E r.1 r.2 _ HE.out HU19.out HNO.out).mono ?_
        rintro e wp ⟨rfl, hb⟩
        replace HE := Lib.hid (HE.out.go hb)
        replace HO := Lib.hid (HO.out.go hb)
        replace KX := Lib.hid (KX.out.go hb)
        replace HC := Lib.hid (HC.out.go hb)
        replace KR := Lib.hid (KR.out.go hb)
        replace B := B.trans (hb.mono B.size)
        have hzwp := B.size
        clear hb
        clear HU19
        go_wp2_with fail
        have HGG := Lib.hid (show g ≠ gc by have := HC.out.2.2; have := HG0.out; omega)
        have HAP := Lib.hid (show ∀ b, ve.ownBlock = some b → vc.ownBlock ≠ some b from fun b e e' => by have := HV0.out b e; have := HC.out.2.1.from b e'; omega)
        rcases HNO.out with h1 | ⟨h1, h2⟩
        · have hb1 : ((r.1.length : Int) != (k : Int)) = true := by rw [bne_iff_ne]; omega
          clear h1
          -- the clone takes an equation of its own
          obtain ⟨hb, hk, hs⟩ := blocks1 wp #[.int .u8 0, .int .u8 7] 5
          generalize wp.alloc (.cells #[.int .u8 0, .int .u8 7] 5) = W20 at *
          have K20 := Lib.hid hk
          replace HE := Lib.hid (HE.out.go hb)
          replace HC := Lib.hid (HC.out.go hb)
          replace KX := Lib.hid (KX.out.go hb)
          replace KR := Lib.hid (KR.out.go hb)
          replace HO := Lib.hid (HO.out.go hb)
          replace B := B.trans (hb.mono B.size)
          have hzW20 := B.size
          clear hb hk hs
          have HL7 := Lib.hid (K20.out.bytes2 0 7 rfl rfl (by omega) (by omega))
          refine (fit8_any _ [0, 7] [] k t _ ⟨_, _, rfl, HL7.out, Bytes.nil _⟩ (by omega) (by omega)).mono ?_
          rintro e w21 ⟨u21, rfl, hu21, hb⟩
          replace HE := Lib.hid (HE.out.go hb)
          replace HC := Lib.hid (HC.out.go hb)
          replace KX := Lib.hid (KX.out.go hb)
          replace KR := Lib.hid (KR.out.go hb)
          replace HO := Lib.hid (HO.out.go hb)
          replace B := B.trans (hb.mono B.size)
          have hzw21 := B.size
          clear hb
          have HF7 := Lib.hid hu21
          clear hu21 HL7 K20
          go_wp2_with fail
          refine (make3_any _ _ _ _ HF7.out (by rw [fitR_length]; omega) (by rw [fitR_length]; omega)).mono ?_
          rintro e w22 ⟨u22, rfl, hu22, hb⟩
          replace HE := Lib.hid (HE.out.go hb)
          replace HC := Lib.hid (HC.out.go hb)
          replace KX := Lib.hid (KX.out.go hb)
          replace KR := Lib.hid (KR.out.go hb)
          replace HO := Lib.hid (HO.out.go hb)
          replace B := B.trans (hb.mono B.size)
          have hzw22 := B.size
          clear hb
          have HF8 := Lib.hid hu22
          clear hu22 HF7
          go_wp2_with fail
          refine (eput_any gc gc0 k t _ u22 E (fitR k [0, 7], fitR t []) w22 HC.out HF8.out HS.out.red (fit_dim k t (by decide) (fun x hx => by cases hx)) (by omega) (by omega) (by omega)).mono ?_
          rintro e w23 ⟨v23, rfl, q1, q2, q3⟩
          have HB23 := Lib.hid (q2.under B B.size (Nat.le_trans HGC.out HC.out.2.2) (fun b e => Nat.le_trans HGC.out (HC.out.2.1.from b e)))
          have HE23 := Lib.hid (HE.out.beside HC.out q2 HGG.out HAP.out)
          have KX23 := Lib.hid (HC.out.keeps q2 KX.out (by decide) (by decide))
          have KR23 := Lib.hid (HC.out.keeps q2 KR.out (by decide) (by decide))
          have HO23 := Lib.hid (HC.out.keepsL q2 HO.out (by decide) (by decide))
          have HSO23 := Lib.hid q2.soft
          clear q1 q2 q3 HE HC KX KR HO B HF8
          obtain ⟨kx230, kx231⟩ := KX23.out.two
          have kx23l := KX23.out.lt
          obtain ⟨kr230, kr231⟩ := KR23.out.two
          have kr23l := KR23.out.lt
          go_wp2_with fail
          go_roundw
          case rel => exact ⟨j + 1, E, D, ve, by omega, by go_num, HB23.out, HE23.out, HO23.out, HS.out, by omega⟩
          case measure => simp [intOf]; omega
        · have hb1 : ((r.1.length : Int) != (k : Int)) = false := by rw [h1]; simp
          have hb2 : ((r.2.length : Int) != (t : Int)) = true := by rw [bne_iff_ne]; omega
          clear h1 h2
          -- the clone takes an equation of its own
          obtain ⟨hb, hk, hs⟩ := blocks1 wp #[.int .u8 0, .int .u8 7] 5
          generalize wp.alloc (.cells #[.int .u8 0, .int .u8 7] 5) = W20 at *
          have K20 := Lib.hid hk
          replace HE := Lib.hid (HE.out.go hb)
          replace HC := Lib.hid (HC.out.go hb)
          replace KX := Lib.hid (KX.out.go hb)
          replace KR := Lib.hid (KR.out.go hb)
          replace HO := Lib.hid (HO.out.go hb)
          replace B := B.trans (hb.mono B.size)
          have hzW20 := B.size
          clear hb hk hs
          have HL7 := Lib.hid (K20.out.bytes2 0 7 rfl rfl (by omega) (by omega))
          refine (fit8_any _ [0, 7] [] k t _ ⟨_, _, rfl, HL7.out, Bytes.nil _⟩ (by omega) (by omega)).mono ?_
          rintro e w21 ⟨u21, rfl, hu21, hb⟩
          replace HE := Lib.hid (HE.out.go hb)
          replace HC := Lib.hid (HC.out.go hb)
          replace KX := Lib.hid (KX.out.go hb)
          replace KR := Lib.hid (KR.out.go hb)
          replace HO := Lib.hid (HO.out.go hb)
          replace B := B.trans (hb.mono B.size)
          have hzw21 := B.size
          clear hb
          have HF7 := Lib.hid hu21
          clear hu21 HL7 K20
          go_wp2_with fail
          refine (make3_any _ _ _ _ HF7.out (by rw [fitR_length]; omega) (by rw [fitR_length]; omega)).mono ?_
          rintro e w22 ⟨u22, rfl, hu22, hb⟩
          replace HE := Lib.hid (HE.out.go hb)
          replace HC := Lib.hid (HC.out.go hb)
          replace KX := Lib.hid (KX.out.go hb)
          replace KR := Lib.hid (KR.out.go hb)
          replace HO := Lib.hid (HO.out.go hb)
          replace B := B.trans (hb.mono B.size)
          have hzw22 := B.size
          clear hb
          have HF8 := Lib.hid hu22
          clear hu22 HF7
          go_wp2_with fail
          refine (eput_any gc gc0 k t _ u22 E (fitR k [0, 7], fitR t []) w22 HC.out HF8.out HS.out.red (fit_dim k t (by decide) (fun x hx => by cases hx)) (by omega) (by omega) (by omega)).mono ?_
          rintro e w23 ⟨v23, rfl, q1, q2, q3⟩
          have HB23 := Lib.hid (q2.under B B.size (Nat.le_trans HGC.out HC.out.2.2) (fun b e => Nat.le_trans HGC.out (HC.out.2.1.from b e)))
          have HE23 := Lib.hid (HE.out.beside HC.out q2 HGG.out HAP.out)
          have KX23 := Lib.hid (HC.out.keeps q2 KX.out (by decide) (by decide))
          have KR23 := Lib.hid (HC.out.keeps q2 KR.out (by decide) (by decide))
          have HO23 := Lib.hid (HC.out.keepsL q2 HO.out (by decide) (by decide))
          have HSO23 := Lib.hid q2.soft
          clear q1 q2 q3 HE HC KX KR HO B HF8
          obtain ⟨kx230, kx231⟩ := KX23.out.two
          have kx23l := KX23.out.lt
          obtain ⟨kr230, kr231⟩ := KR23.out.two
          have kr23l := KR23.out.lt
          go_wp2_with fail
          go_roundw
          case rel => exact ⟨j + 1, E, D, ve, by omega, by go_num, HB23.out, HE23.out, HO23.out, HS.out, by omega⟩
          case measure => simp [intOf]; omega
    · obtain rfl : j = L.length := by omega
      have hkn := HS.out.red
      by_cases hek : E.length < k
      · have hdk : (D.length : Int) < (k : Int) := by have := HEL.out; omega
        clear hkn
        go_wp2_with fail
        refine (esolve_pending g w.heap.size k t ve E _ HE.out hek).mono ?_
        rintro e w40 ⟨rfl, hb⟩
        replace B := B.trans (hb.mono B.size)
        have hzw40 := B.size
        clear hb
        go_wp2_with fail
        go_ret
        exact ⟨rfl, B⟩
      · have hekk : E.length = k := by omega
        have HEK := Lib.hid hekk
        have hdk : ¬ (D.length : Int) < (k : Int) := by have := HEL.out; omega
        have hdk2 : ¬ D.length < k := by have := HEL.out; omega
        clear hkn hekk hek
        go_wp2_with fail
        refine (esolve_any g w.heap.size k t ve E _ HE.out HS.out.red.up.dims (by have := HEK.out; omega) (by omega) (by omega)).mono ?_
        rintro e w40 ⟨u40, rfl, hu40, hb⟩
        replace HE := Lib.hid (HE.out.go hb)
        replace B := B.trans (hb.mono B.size)
        have hzw40 := B.size
        clear hb
        have HM := Lib.hid hu40
        obtain ⟨ma, mc, rfl⟩ := hu40.shape
        have hml : (dataM E).length = k := by rw [dataM_length]; exact HEK.out
        rw [hml] at HM ⊢
        have HML := Lib.hid hml
        clear hu40 hml
        go_wp2_with fail
        obtain ⟨wo, hwo⟩ : ∃ wo : World, wo = w40 := ⟨_, rfl⟩
        go_loopw [30, 31, 32, 233] (fun _ _ _ x wr => ∃ n : Nat, n ≤ k ∧ x = .int .i64 n ∧ Below w.heap.size w wr ∧ IsE wr w.heap.size g ve k t E ∧ IsRows wr (.slice ma k mc) (dataM E)) (fun _ _ _ x _ => k - (intOf x).toNat)
        case atStart => exact ⟨0, by omega, rfl, B, HE.out, HM.out.rows⟩
        case round =>
          obtain ⟨n, hn, rfl, B', hE', hM'⟩ := hrel
          clear B HE HM
          have B := B'
          have HE := Lib.hid hE'
          have HM := Lib.hid hM'
          clear B' hE' hM' hwo
          by_cases hnk : n < k
          · have HKF := Lib.hid (known_full HS.out.red HEK.out hnk)
            have n1 : (n : Int) < (k : Int) := by omega
            have n0 : (0 : Int) ≤ (n : Int) := Int.natCast_nonneg _
            have hzz := B.size
            go_wp2_with fail
            refine (eknown_any g w.heap.size k t ve E (n : Int) _ HE.out HS.out.red.up (by omega) (by omega) (by omega)).mono ?_
            rintro e w41 ⟨u41, rfl, hu41, hb⟩
            replace HE := Lib.hid (HE.out.go hb)
            replace HM := Lib.hid (HM.out.go hb)
            replace B := B.trans (hb.mono B.size)
            have hzw41 := B.size
            clear hb
            rw [HKF.out.2] at hu41
            rw [HKF.out.1]
            have HK := Lib.hid hu41
            clear hu41
            obtain ⟨mb, mo, um, er, hum, hbm⟩ := HM.out.row0 (Below.refl _ _) n (by have := HML.out; omega)
            subst er
            have HBM := Lib.hid hbm
            obtain ⟨ba, bc, rfl, _⟩ := hbm
            go_wp2_with fail
            refine (same_any _ _ _ _ _ HK.out HBM.out).mono ?_
            rintro e w42 ⟨rfl, hb⟩
            replace HE := Lib.hid (HE.out.go hb)
            replace HM := Lib.hid (HM.out.go hb)
            replace B := B.trans (hb.mono B.size)
            have hzw42 := B.size
            clear hb
            go_wp2_with fail
            go_roundw
            case rel => exact ⟨n + 1, by omega, by go_num, B, HE.out, HM.out⟩
            case measure => simp [intOf]; omega
          · obtain rfl : n = k := by omega
            go_wp2_with fail
            go_ret
            exact ⟨rfl, B⟩

end Go.Proofs.Ytohfcdgpllghbaa
