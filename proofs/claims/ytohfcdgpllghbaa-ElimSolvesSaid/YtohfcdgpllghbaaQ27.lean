/- Texts of one seat, laid together: LawSevenD. -/
import Derived.Test.YtohfcdgpllghbaaQ25
import Derived.Test.YtohfcdgpllghbaaQ13

/-
  The laws of grids (layer 7), walked: GridReckons.
-/
set_option maxRecDepth 100000
namespace Go.Proofs.Ytohfcdgpllghbaa
open Go.RowKit

theorem few7_len {ll : List (List Nat)} (h : few7 ll = true) : ll.length ≤ 30 := by
  unfold few7 at h
  rw [Bool.and_eq_true, decide_eq_true_eq] at h
  exact h.2
theorem wide_at {M : List (List Nat)} {n : Nat} (h : ∀ r ∈ M, r.length = n) : ∀ j, j < M.length → (rowAt M j).length = n := fun j hj => by rw [rowAt_eq M j hj]; exact h _ (List.getElem_mem hj)

set_option maxHeartbeats 2000000 in
theorem gridReckons_out (v0 v1 : Value) (x0 x1 : Nat) (ll kk : List (List Nat)) (w : World) (hR0 : IsRows w v0 ll) (hR1 : IsRows w v1 kk) (hf : few7 ll = false ∨ (few7 ll = true ∧ few7 kk = false)) :
    Calls Try.prog 4 #[U8 x0, v0, U8 x1, v1] w fun e w' => e = .returned (.bool true) ∧ Below w.heap.size w w' := by
  have H0 := Lib.hid hR0
  have H1 := Lib.hid hR1
  obtain ⟨a0, c0, rfl⟩ := hR0.shape
  obtain ⟨a1, c1, rfl⟩ := hR1.shape
  clear hR0 hR1
  rcases hf with hf | ⟨hf, hg⟩
  · have HF := Lib.hid hf
    clear hf
    go_enter Try.func4, Try.ntmps4
    go_wp2_with fail
    have B : Below w.heap.size w w := Below.refl _ _
    refine (awake7_any _).mono ?_
    rintro e w1 ⟨rfl, hb⟩
    replace H0 := Lib.hid (H0.out.go hb)
    replace B := B.trans (hb.mono B.size)
    have hzw1 := B.size
    clear hb
    go_wp2_with fail
    refine (few7_any _ ll _ H0.out).mono ?_
    rintro e w2 ⟨rfl, hb⟩
    replace B := B.trans (hb.mono B.size)
    have hzw2 := B.size
    clear hb
    rw [HF.out]
    go_wp2_with fail
    go_ret
    exact ⟨rfl, B⟩
  · have HF := Lib.hid hf
    have HG := Lib.hid hg
    clear hf hg
    go_enter Try.func4, Try.ntmps4
    go_wp2_with fail
    have B : Below w.heap.size w w := Below.refl _ _
    refine (awake7_any _).mono ?_
    rintro e w1 ⟨rfl, hb⟩
    replace H0 := Lib.hid (H0.out.go hb)
    replace H1 := Lib.hid (H1.out.go hb)
    replace B := B.trans (hb.mono B.size)
    have hzw1 := B.size
    clear hb
    go_wp2_with fail
    refine (few7_any _ ll _ H0.out).mono ?_
    rintro e w2 ⟨rfl, hb⟩
    replace H1 := Lib.hid (H1.out.go hb)
    replace B := B.trans (hb.mono B.size)
    have hzw2 := B.size
    clear hb
    rw [HF.out]
    go_wp2_with fail
    refine (few7_any _ kk _ H1.out).mono ?_
    rintro e w3 ⟨rfl, hb⟩
    replace B := B.trans (hb.mono B.size)
    have hzw3 := B.size
    clear hb
    rw [HG.out]
    go_wp2_with fail
    go_ret
    exact ⟨rfl, B⟩

/-- The inverse. -/
def invL (ll : List (List Nat)) : List (List Nat) := datas (Ro.redOf (carry ll))
theorem invL_length {n : Nat} {ll : List (List Nat)} (hn : ll.length = n) (hO : OctM ll) (hk : ∀ r ∈ ll, r.length = n) (h : rankL n ll = n) : (invL ll).length = n := by
  subst hn
  unfold invL
  rw [datas_length, carry_rank hO hk, h]
theorem invL_full {ll : List (List Nat)} (hO : OctM ll) (hk : ∀ r ∈ ll, r.length = ll.length) (h : rankL ll.length ll = ll.length) : (Ro.redOf (carry ll)).length = ll.length := by rw [carry_rank hO hk, h]
theorem invL_oct {n : Nat} {ll : List (List Nat)} (hn : ll.length = n) (hO : OctM ll) (hk : ∀ r ∈ ll, r.length = n) : OctM (invL ll) := by subst hn; exact datas_oct hO hk
theorem invL_wide {n : Nat} {ll : List (List Nat)} (hn : ll.length = n) (hO : OctM ll) (hk : ∀ r ∈ ll, r.length = n) : ∀ r ∈ invL ll, r.length = n := by subst hn; exact datas_wide hO hk
theorem invL_right {n : Nat} {ll : List (List Nat)} (hn : ll.length = n) (hO : OctM ll) (hk : ∀ r ∈ ll, r.length = n) (h : rankL n ll = n) : mulL ll (invL ll) n = unitG n := by
  subst hn
  have hf := invL_full hO hk h
  exact mulL_unit hO (datas_oct hO hk) rfl (by unfold invL; rw [datas_length, hf]) (wide_at (datas_wide hO hk)) fun i hi => inv_right hO hk hf hi
theorem invL_left {n : Nat} {ll : List (List Nat)} (hn : ll.length = n) (hO : OctM ll) (hk : ∀ r ∈ ll, r.length = n) (h : rankL n ll = n) : mulL (invL ll) ll n = unitG n := by
  subst hn
  have hf := invL_full hO hk h
  exact mulL_unit (datas_oct hO hk) hO (by unfold invL; rw [datas_length, hf]) rfl (wide_at hk) fun i hi => inv_left hO hk hf hi
theorem rankL_le (k : Nat) (ll : List (List Nat)) : rankL k ll ≤ k := La.rk_le _ _
theorem ginv_lack (u : Value) (n : Nat) (ll : List (List Nat)) (w : World) (hG : IsGrid w u (n : Int) ll) (hn : ll.length = n) (hO : OctM ll) (hk : ∀ r ∈ ll, r.length = n) (hn256 : n ≤ 256) (h : rankL n ll < n) :
    Calls Try.prog 26 #[u] w (GridE w 0 [] 19) := by
  refine (ginv_yes u n ll w hG hn hO hk hn256).mono fun e w' hp => ?_
  subst hn
  rw [if_pos (by rw [carry_rank hO hk]; exact h)] at hp
  exact hp
theorem ginv_full (u : Value) (n : Nat) (ll : List (List Nat)) (w : World) (hG : IsGrid w u (n : Int) ll) (hn : ll.length = n) (hO : OctM ll) (hk : ∀ r ∈ ll, r.length = n) (hn256 : n ≤ 256) (h : rankL n ll = n) :
    Calls Try.prog 26 #[u] w (GridE w (n : Int) (invL ll) 0) := by
  refine (ginv_yes u n ll w hG hn hO hk hn256).mono fun e w' hp => ?_
  subst hn
  rw [if_neg (by rw [carry_rank hO hk, h]; omega)] at hp
  exact hp

set_option maxHeartbeats 16000000 in
theorem gridReckons_some (v0 v1 : Value) (x0 x1 : Nat) (ll kk : List (List Nat)) (w : World) (hx0 : x0 < 256) (hx1 : x1 < 256) (hR0 : IsRows w v0 ll) (hR1 : IsRows w v1 kk) (hf : few7 ll = true) (hg : few7 kk = true) :
    Calls Try.prog 4 #[U8 x0, v0, U8 x1, v1] w fun e w' => e = .returned (.bool true) ∧ Below w.heap.size w w' := by
  have H0 := Lib.hid hR0
  have H1 := Lib.hid hR1
  have HF := Lib.hid hf
  have HG := Lib.hid hg
  have hl30 := few7_len hf
  have hk30 := few7_len hg
  obtain ⟨m, hm⟩ : ∃ m, m = x0 % 31 := ⟨_, rfl⟩
  obtain ⟨k, hk⟩ : ∃ k, k = x1 % 31 := ⟨_, rfl⟩
  obtain ⟨A, hA⟩ : ∃ A, A = fitL m ll := ⟨_, rfl⟩
  obtain ⟨C, hC⟩ : ∃ C, C = fitL k kk := ⟨_, rfl⟩
  have hm30 : m ≤ 30 := by omega
  have hkk30 : k ≤ 30 := by omega
  have hAl : A.length ≤ 30 := by rw [hA, fitL_length]; exact hl30
  have hCl : C.length ≤ 30 := by rw [hC, fitL_length]; exact hk30
  have HAW := Lib.hid (show ∀ r ∈ A, r.length = m by rw [hA]; exact fitL_wide m ll)
  have HCW := Lib.hid (show ∀ r ∈ C, r.length = k by rw [hC]; exact fitL_wide k kk)
  have HAO := Lib.hid (show OctM A by rw [hA]; exact fitL_oct hR0.oct)
  have HCO := Lib.hid (show OctM C by rw [hC]; exact fitL_oct hR1.oct)
  obtain ⟨r, hr⟩ : ∃ r, r = rankL m A := ⟨_, rfl⟩
  have HM := Lib.hid hm
  have HK := Lib.hid hk
  have HA := Lib.hid hA
  have HC := Lib.hid hC
  have HRK := Lib.hid hr
  have hrr : ((r : Int) != (r : Int)) = false := by simp
  have hAA : ((A.length : Int) != (A.length : Int)) = false := by simp
  have hmm : ((m : Int) != (m : Int)) = false := by simp
  obtain ⟨a0, c0, rfl⟩ := hR0.shape
  obtain ⟨a1, c1, rfl⟩ := hR1.shape
  clear hR0 hR1 hf hg hm hk hA hC hr
  have hcase : m ≠ A.length ∨ (m = A.length ∧ r < m) ∨ (m = A.length ∧ r = m) := by
    have := rankL_le m A
    have := HRK.out
    omega
  have HTL := Lib.hid (turnedL_length A m)
  have HTW := Lib.hid (show ∀ j, j < (turnedL A m).length → (rowAt (turnedL A m) j).length ≤ 1000000000 from fun j hj => by rw [turnedL_length] at hj; rw [turnedL_at A hj, colL_length]; omega)
  have HAK := Lib.hid (show A.length * k ≤ 65536 by
    have := Nat.mul_le_mul hAl hkk30
    omega)
  by_cases hp : m = C.length
  · have HMC := Lib.hid (show mulC m C = 0 from if_pos hp)
    have HMM := Lib.hid (show mulM m C k = (k : Int) from if_pos hp)
    have HMR := Lib.hid (show mulR m A C k = mulL A C k from if_pos hp)
    have HML := Lib.hid (mulL_length A C k)
    have HMCL := Lib.hid hp
    have HMW := Lib.hid (show ∀ j, j < (mulL A C k).length → (rowAt (mulL A C k) j).length ≤ 1000000000 from fun j hj => by rw [mulL_length] at hj; rw [mulL_at hj, combT_length]; omega)
    have hmC : ((m : Int) != (C.length : Int)) = false := by rw [hp]; simp
    have hkk : ((k : Int) != (k : Int)) = false := by simp
    clear hp
    go_enter Try.func4, Try.ntmps4
    go_wp2_with fail
    have B : Below w.heap.size w w := Below.refl _ _
    refine (awake7_any _).mono ?_
    rintro e w1 ⟨rfl, hb⟩
    replace H0 := Lib.hid (H0.out.go hb)
    replace H1 := Lib.hid (H1.out.go hb)
    replace B := B.trans (hb.mono B.size)
    have hzw1 := B.size
    clear hb
    go_wp2_with fail
    refine (few7_any _ ll _ H0.out).mono ?_
    rintro e w2 ⟨rfl, hb⟩
    replace H0 := Lib.hid (H0.out.go hb)
    replace H1 := Lib.hid (H1.out.go hb)
    replace B := B.trans (hb.mono B.size)
    have hzw2 := B.size
    clear hb
    rw [HF.out]
    go_wp2_with fail
    refine (few7_any _ kk _ H1.out).mono ?_
    rintro e w3 ⟨rfl, hb⟩
    replace H0 := Lib.hid (H0.out.go hb)
    replace H1 := Lib.hid (H1.out.go hb)
    replace B := B.trans (hb.mono B.size)
    have hzw3 := B.size
    clear hb
    rw [HG.out]
    go_wp2_with fail
    refine (made7_any x0 _ ll _ hx0 H0.out (by omega)).mono ?_
    rintro e w4 ⟨u4, v4, rfl, hu4, hv4, hb⟩
    replace H1 := Lib.hid (H1.out.go hb)
    replace B := B.trans (hb.mono B.size)
    have hzw4 := B.size
    clear hb
    rw [← HM.out, ← HA.out] at hu4
    rw [← HM.out]
    rw [← HM.out, ← HA.out] at hv4
    obtain ⟨ga, gc, rfl, hq⟩ := hu4
    have HGA := Lib.hid hq
    obtain ⟨ra, rc, rfl⟩ := hv4.shape
    have HRA := Lib.hid hv4
    clear hq hv4
    go_wp2_with fail
    obtain ⟨hb, hk, hs⟩ := blocks1 w4 #[.int .i64 (m : Int), .slice ga A.length gc] 26
    generalize w4.alloc (.cells #[.int .i64 (m : Int), .slice ga A.length gc] 26) = W5 at *
    have KG := Lib.hid hk
    replace H1 := Lib.hid (H1.out.go hb)
    replace HGA := Lib.hid (HGA.out.go hb)
    replace HRA := Lib.hid (HRA.out.go hb)
    replace B := B.trans (hb.mono B.size)
    have hzW5 := B.size
    clear hb hk hs
    refine (made7_any x1 _ kk _ hx1 H1.out (by omega)).mono ?_
    rintro e w6 ⟨u6, v6, rfl, hu6, hv6, hb⟩
    replace HGA := Lib.hid (HGA.out.go hb)
    replace HRA := Lib.hid (HRA.out.go hb)
    replace KG := Lib.hid (KG.out.go hb)
    replace B := B.trans (hb.mono B.size)
    have hzw6 := B.size
    clear hb
    rw [← HK.out, ← HC.out] at hu6
    rw [← HK.out]
    rw [← HK.out, ← HC.out] at hv6
    obtain ⟨oa, oc, rfl, hq⟩ := hu6
    have HGC := Lib.hid hq
    obtain ⟨sa, sc, rfl⟩ := hv6.shape
    have HRC := Lib.hid hv6
    clear hq hv6
    go_wp2_with fail
    obtain ⟨hb, hk, hs⟩ := blocks1 w6 #[.int .i64 (k : Int), .slice oa C.length oc] 26
    generalize w6.alloc (.cells #[.int .i64 (k : Int), .slice oa C.length oc] 26) = W7 at *
    have KO := Lib.hid hk
    replace HGA := Lib.hid (HGA.out.go hb)
    replace HRA := Lib.hid (HRA.out.go hb)
    replace HGC := Lib.hid (HGC.out.go hb)
    replace HRC := Lib.hid (HRC.out.go hb)
    replace KG := Lib.hid (KG.out.go hb)
    replace B := B.trans (hb.mono B.size)
    have hzW7 := B.size
    clear hb hk hs
    refine (refrank7_any _ m A _ HRA.out (bare_dims HAO.out HAW.out) (by omega) (by omega)).mono ?_
    rintro e w8 ⟨rfl, hb⟩
    replace HGA := Lib.hid (HGA.out.go hb)
    replace HRA := Lib.hid (HRA.out.go hb)
    replace HGC := Lib.hid (HGC.out.go hb)
    replace HRC := Lib.hid (HRC.out.go hb)
    replace KG := Lib.hid (KG.out.go hb)
    replace KO := Lib.hid (KO.out.go hb)
    replace B := B.trans (hb.mono B.size)
    have hzw8 := B.size
    clear hb
    rw [refrank_eq HAO.out HAW.out, ← HRK.out]
    obtain ⟨kg0, kg1⟩ := KG.out.two
    have kgl := KG.out.lt
    obtain ⟨ko0, ko1⟩ := KO.out.two
    have kol := KO.out.lt
    go_wp2_with fail
    refine (rank_any _ m m A _ ⟨ga, gc, rfl, HGA.out⟩ HAO.out HAW.out (by omega) (by omega)).mono ?_
    rintro e w9 ⟨rfl, hb⟩
    replace HGA := Lib.hid (HGA.out.go hb)
    replace HRA := Lib.hid (HRA.out.go hb)
    replace HGC := Lib.hid (HGC.out.go hb)
    replace HRC := Lib.hid (HRC.out.go hb)
    replace KG := Lib.hid (KG.out.go hb)
    replace KO := Lib.hid (KO.out.go hb)
    replace B := B.trans (hb.mono B.size)
    have hzw9 := B.size
    clear hb
    rw [← HRK.out]
    obtain ⟨kg0, kg1⟩ := KG.out.two
    have kgl := KG.out.lt
    obtain ⟨ko0, ko1⟩ := KO.out.two
    have kol := KO.out.lt
    go_wp2_with fail
    refine (gturned_any _ m A _ ⟨ga, gc, rfl, HGA.out⟩ HAO.out HAW.out (by omega) (by omega)).mono ?_
    rintro e w10 ⟨uq, rfl, huq, hb⟩
    replace HGA := Lib.hid (HGA.out.go hb)
    replace HRA := Lib.hid (HRA.out.go hb)
    replace HGC := Lib.hid (HGC.out.go hb)
    replace HRC := Lib.hid (HRC.out.go hb)
    replace KG := Lib.hid (KG.out.go hb)
    replace KO := Lib.hid (KO.out.go hb)
    replace B := B.trans (hb.mono B.size)
    have hzw10 := B.size
    clear hb
    obtain ⟨v10, rfl, hqq⟩ := huq
    obtain ⟨ta, tc, rfl⟩ := hqq.shape
    have HT := Lib.hid hqq.rows
    clear hqq
    go_wp2_with fail
    refine (gridrows_any _ (A.length : Int) (turnedL A m) _ ⟨ta, tc, rfl, HT.out⟩ (by have := HTL.out; omega) HTW.out).mono ?_
    rintro e w11 ⟨v11, rfl, hv11, hb⟩
    replace HGA := Lib.hid (HGA.out.go hb)
    replace HRA := Lib.hid (HRA.out.go hb)
    replace HGC := Lib.hid (HGC.out.go hb)
    replace HRC := Lib.hid (HRC.out.go hb)
    replace KG := Lib.hid (KG.out.go hb)
    replace KO := Lib.hid (KO.out.go hb)
    replace B := B.trans (hb.mono B.size)
    have hzw11 := B.size
    clear hb
    have HT1 := Lib.hid hv11.rows
    obtain ⟨ya, yc, rfl⟩ := hv11.shape
    clear hv11 HT
    go_wp2_with fail
    refine (refturned_any _ A m _ HRA.out (wide_at HAW.out) (by omega) (by omega)).mono ?_
    rintro e w12 ⟨v12, rfl, hv12, hb⟩
    replace HT1 := Lib.hid (HT1.out.go hb)
    replace HGA := Lib.hid (HGA.out.go hb)
    replace HRA := Lib.hid (HRA.out.go hb)
    replace HGC := Lib.hid (HGC.out.go hb)
    replace HRC := Lib.hid (HRC.out.go hb)
    replace KG := Lib.hid (KG.out.go hb)
    replace KO := Lib.hid (KO.out.go hb)
    replace B := B.trans (hb.mono B.size)
    have hzw12 := B.size
    clear hb
    have HT2 := Lib.hid hv12.rows
    obtain ⟨za, zc, rfl⟩ := hv12.shape
    clear hv12
    go_wp2_with fail
    refine (refsame7_any _ _ (turnedL A m) (turnedL A m) _ HT1.out HT2.out (by have := HTL.out; omega)).mono ?_
    rintro e w13 ⟨rfl, hb⟩
    replace HGA := Lib.hid (HGA.out.go hb)
    replace HRA := Lib.hid (HRA.out.go hb)
    replace HGC := Lib.hid (HGC.out.go hb)
    replace HRC := Lib.hid (HRC.out.go hb)
    replace KG := Lib.hid (KG.out.go hb)
    replace KO := Lib.hid (KO.out.go hb)
    replace B := B.trans (hb.mono B.size)
    have hzw13 := B.size
    clear hb
    rw [decide_eq_true (rfl : turnedL A m = turnedL A m)]
    clear HT1 HT2
    obtain ⟨kg0, kg1⟩ := KG.out.two
    have kgl := KG.out.lt
    obtain ⟨ko0, ko1⟩ := KO.out.two
    have kol := KO.out.lt
    go_wp2_with fail
    refine (gturned_any _ m A _ ⟨ga, gc, rfl, HGA.out⟩ HAO.out HAW.out (by omega) (by omega)).mono ?_
    rintro e w14 ⟨uq, rfl, huq, hb⟩
    replace HGA := Lib.hid (HGA.out.go hb)
    replace HRA := Lib.hid (HRA.out.go hb)
    replace HGC := Lib.hid (HGC.out.go hb)
    replace HRC := Lib.hid (HRC.out.go hb)
    replace KG := Lib.hid (KG.out.go hb)
    replace KO := Lib.hid (KO.out.go hb)
    replace B := B.trans (hb.mono B.size)
    have hzw14 := B.size
    clear hb
    obtain ⟨v14, rfl, hqq⟩ := huq
    obtain ⟨tb, td, rfl⟩ := hqq.shape
    have HT := Lib.hid hqq.rows
    clear hqq
    go_wp2_with fail
    refine (width_any _ (A.length : Int) (turnedL A m) _ ⟨tb, td, rfl, HT.out⟩).mono ?_
    rintro e w15 ⟨rfl, hb⟩
    replace HGA := Lib.hid (HGA.out.go hb)
    replace HRA := Lib.hid (HRA.out.go hb)
    replace HGC := Lib.hid (HGC.out.go hb)
    replace HRC := Lib.hid (HRC.out.go hb)
    replace KG := Lib.hid (KG.out.go hb)
    replace KO := Lib.hid (KO.out.go hb)
    replace B := B.trans (hb.mono B.size)
    have hzw15 := B.size
    clear hb
    clear HT
    obtain ⟨kg0, kg1⟩ := KG.out.two
    have kgl := KG.out.lt
    obtain ⟨ko0, ko1⟩ := KO.out.two
    have kol := KO.out.lt
    go_wp2_with fail
    refine (gturned_any _ m A _ ⟨ga, gc, rfl, HGA.out⟩ HAO.out HAW.out (by omega) (by omega)).mono ?_
    rintro e w16 ⟨uq, rfl, huq, hb⟩
    replace HGA := Lib.hid (HGA.out.go hb)
    replace HRA := Lib.hid (HRA.out.go hb)
    replace HGC := Lib.hid (HGC.out.go hb)
    replace HRC := Lib.hid (HRC.out.go hb)
    replace KG := Lib.hid (KG.out.go hb)
    replace KO := Lib.hid (KO.out.go hb)
    replace B := B.trans (hb.mono B.size)
    have hzw16 := B.size
    clear hb
    obtain ⟨v16, rfl, hqq⟩ := huq
    obtain ⟨te, tf, rfl⟩ := hqq.shape
    have HT := Lib.hid hqq.rows
    clear hqq
    go_wp2_with fail
    refine (height_any _ (A.length : Int) (turnedL A m) _ ⟨te, tf, rfl, HT.out⟩).mono ?_
    rintro e w17 ⟨rfl, hb⟩
    replace HGA := Lib.hid (HGA.out.go hb)
    replace HRA := Lib.hid (HRA.out.go hb)
    replace HGC := Lib.hid (HGC.out.go hb)
    replace HRC := Lib.hid (HRC.out.go hb)
    replace KG := Lib.hid (KG.out.go hb)
    replace KO := Lib.hid (KO.out.go hb)
    replace B := B.trans (hb.mono B.size)
    have hzw17 := B.size
    clear hb
    rw [HTL.out]
    clear HT
    obtain ⟨kg0, kg1⟩ := KG.out.two
    have kgl := KG.out.lt
    obtain ⟨ko0, ko1⟩ := KO.out.two
    have kol := KO.out.lt
    go_wp2_with fail
    refine (gmul_any _ _ m k A C _ ⟨ga, gc, rfl, HGA.out⟩ ⟨oa, oc, rfl, HGC.out⟩ (wide_at HAW.out) (wide_at HCW.out) (by omega) (by omega) HAK.out).mono ?_
    rintro e w18 ⟨u18, rfl, hu18, hb⟩
    replace HGA := Lib.hid (HGA.out.go hb)
    replace HRA := Lib.hid (HRA.out.go hb)
    replace HRC := Lib.hid (HRC.out.go hb)
    replace KG := Lib.hid (KG.out.go hb)
    replace B := B.trans (hb.mono B.size)
    have hzw18 := B.size
    clear hb
    rw [HMC.out]
    rw [HMM.out, HMR.out] at hu18
    obtain ⟨v18, rfl, hq18⟩ := hu18
    obtain ⟨pa, pc, rfl⟩ := hq18.shape
    have HP := Lib.hid hq18.rows
    clear hq18
    go_wp2_with fail
    obtain ⟨hb, hk, hs⟩ := blocks1 w18 #[.int .i64 (k : Int), .slice pa (mulL A C k).length pc] 26
    generalize w18.alloc (.cells #[.int .i64 (k : Int), .slice pa (mulL A C k).length pc] 26) = W19 at *
    have KP := Lib.hid hk
    replace HGA := Lib.hid (HGA.out.go hb)
    replace HRA := Lib.hid (HRA.out.go hb)
    replace HRC := Lib.hid (HRC.out.go hb)
    replace KG := Lib.hid (KG.out.go hb)
    replace HP := Lib.hid (HP.out.go hb)
    replace B := B.trans (hb.mono B.size)
    have hzW19 := B.size
    clear hb hk hs
    refine (gridrows_any _ (k : Int) (mulL A C k) _ ⟨pa, pc, rfl, HP.out⟩ (by have := HML.out; omega) HMW.out).mono ?_
    rintro e w20 ⟨v20, rfl, hv20, hb⟩
    replace HGA := Lib.hid (HGA.out.go hb)
    replace HRA := Lib.hid (HRA.out.go hb)
    replace HRC := Lib.hid (HRC.out.go hb)
    replace KG := Lib.hid (KG.out.go hb)
    replace HP := Lib.hid (HP.out.go hb)
    replace KP := Lib.hid (KP.out.go hb)
    replace B := B.trans (hb.mono B.size)
    have hzw20 := B.size
    clear hb
    have HQ1 := Lib.hid hv20.rows
    obtain ⟨qa, qc, rfl⟩ := hv20.shape
    clear hv20
    go_wp2_with fail
    refine (refmulL_any _ _ A C k _ HRA.out HRC.out (fun j hj => by rw [wide_at HAW.out j hj, HMCL.out]) (wide_at HCW.out) (by omega) (by omega) (by omega)).mono ?_
    rintro e w21 ⟨v21, rfl, hv21, hb⟩
    replace HQ1 := Lib.hid (HQ1.out.go hb)
    replace HGA := Lib.hid (HGA.out.go hb)
    replace HRA := Lib.hid (HRA.out.go hb)
    replace KG := Lib.hid (KG.out.go hb)
    replace HP := Lib.hid (HP.out.go hb)
    replace KP := Lib.hid (KP.out.go hb)
    replace B := B.trans (hb.mono B.size)
    have hzw21 := B.size
    clear hb
    have HQ2 := Lib.hid hv21.rows
    obtain ⟨qb, qd, rfl⟩ := hv21.shape
    clear hv21
    go_wp2_with fail
    refine (refsame7_any _ _ (mulL A C k) (mulL A C k) _ HQ1.out HQ2.out (by have := HML.out; omega)).mono ?_
    rintro e w22 ⟨rfl, hb⟩
    replace HGA := Lib.hid (HGA.out.go hb)
    replace HRA := Lib.hid (HRA.out.go hb)
    replace KG := Lib.hid (KG.out.go hb)
    replace HP := Lib.hid (HP.out.go hb)
    replace KP := Lib.hid (KP.out.go hb)
    replace B := B.trans (hb.mono B.size)
    have hzw22 := B.size
    clear hb
    rw [decide_eq_true (rfl : mulL A C k = mulL A C k)]
    clear HQ1 HQ2
    obtain ⟨kp0, kp1⟩ := KP.out.two
    have kpl := KP.out.lt
    go_wp2_with fail
    refine (width_any _ (k : Int) (mulL A C k) _ ⟨pa, pc, rfl, HP.out⟩).mono ?_
    rintro e w23 ⟨rfl, hb⟩
    replace HGA := Lib.hid (HGA.out.go hb)
    replace HRA := Lib.hid (HRA.out.go hb)
    replace KG := Lib.hid (KG.out.go hb)
    replace B := B.trans (hb.mono B.size)
    have hzw23 := B.size
    clear hb
    obtain ⟨kg0, kg1⟩ := KG.out.two
    have kgl := KG.out.lt
    go_wp2_with fail
    rcases hcase with hsq | ⟨hsq, hrm⟩ | ⟨hsq, hrm⟩
    · have HSQ := Lib.hid hsq
      have hsq2 : ((m : Int) != (A.length : Int)) = true := by rw [bne_iff_ne]; omega
      clear hsq
      refine (ginv_no _ m A _ ⟨ga, gc, rfl, HGA.out⟩ HSQ.out).mono ?_
      rintro e w30 ⟨u30, rfl, hu30, hb⟩
      replace HRA := Lib.hid (HRA.out.go hb)
      replace B := B.trans (hb.mono B.size)
      have hzw30 := B.size
      clear hb
      obtain ⟨v30, rfl, hq30⟩ := hu30
      obtain ⟨ia, ic, rfl⟩ := hq30.shape
      have HI := Lib.hid hq30.rows
      clear hq30
      go_wp2_with fail
      obtain ⟨hb, hk, hs⟩ := blocks1 w30 #[.int .i64 0, .slice ia 0 ic] 26
      generalize w30.alloc (.cells #[.int .i64 0, .slice ia 0 ic] 26) = W31 at *
      have KI := Lib.hid hk
      replace HI := Lib.hid (HI.out.go hb)
      replace B := B.trans (hb.mono B.size)
      have hzW31 := B.size
      clear hb hk hs
      refine (height_any _ 0 [] _ ⟨ia, ic, rfl, HI.out⟩).mono ?_
      rintro e w32 ⟨rfl, hb⟩
      replace B := B.trans (hb.mono B.size)
      have hzw32 := B.size
      clear hb
      go_wp2_with fail
      go_ret
      exact ⟨rfl, B⟩
    · have HSQ := Lib.hid hsq.symm
      have hsq2 : ((m : Int) != (A.length : Int)) = false := by rw [hsq]; simp
      have hrm2 : (r : Int) < (m : Int) := by omega
      clear hsq
      refine (ginv_lack _ m A _ ⟨ga, gc, rfl, HGA.out⟩ HSQ.out HAO.out HAW.out (by omega) (by rw [← HRK.out]; exact hrm)).mono ?_
      rintro e w30 ⟨u30, rfl, hu30, hb⟩
      replace HRA := Lib.hid (HRA.out.go hb)
      replace B := B.trans (hb.mono B.size)
      have hzw30 := B.size
      clear hb
      obtain ⟨v30, rfl, hq30⟩ := hu30
      obtain ⟨ia, ic, rfl⟩ := hq30.shape
      have HI := Lib.hid hq30.rows
      clear hq30
      go_wp2_with fail
      obtain ⟨hb, hk, hs⟩ := blocks1 w30 #[.int .i64 0, .slice ia 0 ic] 26
      generalize w30.alloc (.cells #[.int .i64 0, .slice ia 0 ic] 26) = W31 at *
      have KI := Lib.hid hk
      replace HI := Lib.hid (HI.out.go hb)
      replace B := B.trans (hb.mono B.size)
      have hzW31 := B.size
      clear hb hk hs
      refine (height_any _ 0 [] _ ⟨ia, ic, rfl, HI.out⟩).mono ?_
      rintro e w32 ⟨rfl, hb⟩
      replace B := B.trans (hb.mono B.size)
      have hzw32 := B.size
      clear hb
      go_wp2_with fail
      go_ret
      exact ⟨rfl, B⟩
    · have HSQ := Lib.hid hsq.symm
      have hsq2 : ((m : Int) != (A.length : Int)) = false := by rw [hsq]; simp
      have hrm2 : ¬ (r : Int) < (m : Int) := by omega
      have HFU := Lib.hid (show rankL m A = m by rw [← HRK.out]; exact hrm)
      have HIL := Lib.hid (invL_length HSQ.out HAO.out HAW.out HFU.out)
      have HIW := Lib.hid (invL_wide HSQ.out HAO.out HAW.out)
      have HNC := Lib.hid (show mulC m (invL A) = 0 from if_pos HIL.out.symm)
      have HNM := Lib.hid (show mulM m (invL A) m = (m : Int) from if_pos HIL.out.symm)
      have HNR := Lib.hid (show mulR m A (invL A) m = unitG m by unfold mulR; rw [if_pos HIL.out.symm]; exact invL_right HSQ.out HAO.out HAW.out HFU.out)
      have HAM := Lib.hid (show A.length * m ≤ 65536 by
        have := Nat.mul_le_mul hAl hm30
        omega)
      have HUN := Lib.hid (unitG_length m)
      clear hsq hrm
      refine (ginv_full _ m A _ ⟨ga, gc, rfl, HGA.out⟩ HSQ.out HAO.out HAW.out (by omega) HFU.out).mono ?_
      rintro e w30 ⟨u30, rfl, hu30, hb⟩
      replace HGA := Lib.hid (HGA.out.go hb)
      replace KG := Lib.hid (KG.out.go hb)
      replace B := B.trans (hb.mono B.size)
      have hzw30 := B.size
      clear hb
      obtain ⟨v30, rfl, hq30⟩ := hu30
      obtain ⟨ia, ic, rfl⟩ := hq30.shape
      have HI := Lib.hid hq30.rows
      clear hq30
      obtain ⟨kg0, kg1⟩ := KG.out.two
      have kgl := KG.out.lt
      go_wp2_with fail
      clear kg0 kg1 kgl
      obtain ⟨hb, hk, hs⟩ := blocks1 w30 #[.int .i64 (m : Int), .slice ia (invL A).length ic] 26
      generalize w30.alloc (.cells #[.int .i64 (m : Int), .slice ia (invL A).length ic] 26) = W31 at *
      have KI := Lib.hid hk
      replace HI := Lib.hid (HI.out.go hb)
      replace HGA := Lib.hid (HGA.out.go hb)
      replace B := B.trans (hb.mono B.size)
      have hzW31 := B.size
      clear hb hk hs
      refine (gmul_any _ _ m m A (invL A) _ ⟨ga, gc, rfl, HGA.out⟩ ⟨ia, ic, rfl, HI.out⟩ (wide_at HAW.out) (wide_at HIW.out) (by omega) (by omega) HAM.out).mono ?_
      rintro e w32 ⟨u32, rfl, hu32, hb⟩
      replace B := B.trans (hb.mono B.size)
      have hzw32 := B.size
      clear hb
      rw [HNC.out]
      rw [HNM.out, HNR.out] at hu32
      obtain ⟨v32, rfl, hq32⟩ := hu32
      obtain ⟨ja, jc, rfl⟩ := hq32.shape
      have HJ := Lib.hid hq32.rows
      clear hq32
      go_wp2_with fail
      obtain ⟨hb, hk, hs⟩ := blocks1 w32 #[.int .i64 (m : Int), .slice ja (unitG m).length jc] 26
      generalize w32.alloc (.cells #[.int .i64 (m : Int), .slice ja (unitG m).length jc] 26) = W33 at *
      have KJ := Lib.hid hk
      replace HJ := Lib.hid (HJ.out.go hb)
      replace B := B.trans (hb.mono B.size)
      have hzW33 := B.size
      clear hb hk hs
      refine (gunit_in m _ (by omega)).mono ?_
      rintro e w34 ⟨u34, rfl, hu34, hb⟩
      replace HJ := Lib.hid (HJ.out.go hb)
      replace KJ := Lib.hid (KJ.out.go hb)
      replace B := B.trans (hb.mono B.size)
      have hzw34 := B.size
      clear hb
      obtain ⟨v34, rfl, hq34⟩ := hu34
      obtain ⟨ea, ec, rfl⟩ := hq34.shape
      have HU := Lib.hid hq34.rows
      clear hq34
      obtain ⟨kj0, kj1⟩ := KJ.out.two
      have kjl := KJ.out.lt
      go_wp2_with fail
      clear kj0 kj1 kjl
      obtain ⟨hb, hk, hs⟩ := blocks1 w34 #[.int .i64 (m : Int), .slice ea (unitG m).length ec] 26
      generalize w34.alloc (.cells #[.int .i64 (m : Int), .slice ea (unitG m).length ec] 26) = W35 at *
      have KU := Lib.hid hk
      replace HJ := Lib.hid (HJ.out.go hb)
      replace HU := Lib.hid (HU.out.go hb)
      replace B := B.trans (hb.mono B.size)
      have hzW35 := B.size
      clear hb hk hs
      refine (gridsame_any _ _ (m : Int) (m : Int) (unitG m) (unitG m) _ ⟨ja, jc, rfl, HJ.out⟩ ⟨ea, ec, rfl, HU.out⟩ (by have := HUN.out; omega)).mono ?_
      rintro e w36 ⟨rfl, hb⟩
      replace B := B.trans (hb.mono B.size)
      have hzw36 := B.size
      clear hb
      rw [show decide ((m : Int) = (m : Int) ∧ unitG m = unitG m) = true from decide_eq_true ⟨rfl, rfl⟩]
      go_wp2_with fail
      go_ret
      exact ⟨rfl, B⟩
  · have HMC := Lib.hid (show mulC m C = 4 from if_neg hp)
    have HMM := Lib.hid (show mulM m C k = 0 from if_neg hp)
    have HMR := Lib.hid (show mulR m A C k = [] from if_neg hp)
    have hmC : ((m : Int) != (C.length : Int)) = true := by rw [bne_iff_ne]; omega
    clear hp
    go_enter Try.func4, Try.ntmps4
    go_wp2_with fail
    have B : Below w.heap.size w w := Below.refl _ _
    refine (awake7_any _).mono ?_
    rintro e w1 ⟨rfl, hb⟩
    replace H0 := Lib.hid (H0.out.go hb)
    replace H1 := Lib.hid (H1.out.go hb)
    replace B := B.trans (hb.mono B.size)
    have hzw1 := B.size
    clear hb
    go_wp2_with fail
    refine (few7_any _ ll _ H0.out).mono ?_
    rintro e w2 ⟨rfl, hb⟩
    replace H0 := Lib.hid (H0.out.go hb)
    replace H1 := Lib.hid (H1.out.go hb)
    replace B := B.trans (hb.mono B.size)
    have hzw2 := B.size
    clear hb
    rw [HF.out]
    go_wp2_with fail
    refine (few7_any _ kk _ H1.out).mono ?_
    rintro e w3 ⟨rfl, hb⟩
    replace H0 := Lib.hid (H0.out.go hb)
    replace H1 := Lib.hid (H1.out.go hb)
    replace B := B.trans (hb.mono B.size)
    have hzw3 := B.size
    clear hb
    rw [HG.out]
    go_wp2_with fail
    refine (made7_any x0 _ ll _ hx0 H0.out (by omega)).mono ?_
    rintro e w4 ⟨u4, v4, rfl, hu4, hv4, hb⟩
    replace H1 := Lib.hid (H1.out.go hb)
    replace B := B.trans (hb.mono B.size)
    have hzw4 := B.size
    clear hb
    rw [← HM.out, ← HA.out] at hu4
    rw [← HM.out]
    rw [← HM.out, ← HA.out] at hv4
    obtain ⟨ga, gc, rfl, hq⟩ := hu4
    have HGA := Lib.hid hq
    obtain ⟨ra, rc, rfl⟩ := hv4.shape
    have HRA := Lib.hid hv4
    clear hq hv4
    go_wp2_with fail
    obtain ⟨hb, hk, hs⟩ := blocks1 w4 #[.int .i64 (m : Int), .slice ga A.length gc] 26
    generalize w4.alloc (.cells #[.int .i64 (m : Int), .slice ga A.length gc] 26) = W5 at *
    have KG := Lib.hid hk
    replace H1 := Lib.hid (H1.out.go hb)
    replace HGA := Lib.hid (HGA.out.go hb)
    replace HRA := Lib.hid (HRA.out.go hb)
    replace B := B.trans (hb.mono B.size)
    have hzW5 := B.size
    clear hb hk hs
    refine (made7_any x1 _ kk _ hx1 H1.out (by omega)).mono ?_
    rintro e w6 ⟨u6, v6, rfl, hu6, hv6, hb⟩
    replace HGA := Lib.hid (HGA.out.go hb)
    replace HRA := Lib.hid (HRA.out.go hb)
    replace KG := Lib.hid (KG.out.go hb)
    replace B := B.trans (hb.mono B.size)
    have hzw6 := B.size
    clear hb
    rw [← HK.out, ← HC.out] at hu6
    rw [← HK.out]
    rw [← HK.out, ← HC.out] at hv6
    obtain ⟨oa, oc, rfl, hq⟩ := hu6
    have HGC := Lib.hid hq
    obtain ⟨sa, sc, rfl⟩ := hv6.shape
    have HRC := Lib.hid hv6
    clear hq hv6
    go_wp2_with fail
    obtain ⟨hb, hk, hs⟩ := blocks1 w6 #[.int .i64 (k : Int), .slice oa C.length oc] 26
    generalize w6.alloc (.cells #[.int .i64 (k : Int), .slice oa C.length oc] 26) = W7 at *
    have KO := Lib.hid hk
    replace HGA := Lib.hid (HGA.out.go hb)
    replace HRA := Lib.hid (HRA.out.go hb)
    replace HGC := Lib.hid (HGC.out.go hb)
    replace HRC := Lib.hid (HRC.out.go hb)
    replace KG := Lib.hid (KG.out.go hb)
    replace B := B.trans (hb.mono B.size)
    have hzW7 := B.size
    clear hb hk hs
    refine (refrank7_any _ m A _ HRA.out (bare_dims HAO.out HAW.out) (by omega) (by omega)).mono ?_
    rintro e w8 ⟨rfl, hb⟩
    replace HGA := Lib.hid (HGA.out.go hb)
    replace HRA := Lib.hid (HRA.out.go hb)
    replace HGC := Lib.hid (HGC.out.go hb)
    replace HRC := Lib.hid (HRC.out.go hb)
    replace KG := Lib.hid (KG.out.go hb)
    replace KO := Lib.hid (KO.out.go hb)
    replace B := B.trans (hb.mono B.size)
    have hzw8 := B.size
    clear hb
    rw [refrank_eq HAO.out HAW.out, ← HRK.out]
    obtain ⟨kg0, kg1⟩ := KG.out.two
    have kgl := KG.out.lt
    obtain ⟨ko0, ko1⟩ := KO.out.two
    have kol := KO.out.lt
    go_wp2_with fail
    refine (rank_any _ m m A _ ⟨ga, gc, rfl, HGA.out⟩ HAO.out HAW.out (by omega) (by omega)).mono ?_
    rintro e w9 ⟨rfl, hb⟩
    replace HGA := Lib.hid (HGA.out.go hb)
    replace HRA := Lib.hid (HRA.out.go hb)
    replace HGC := Lib.hid (HGC.out.go hb)
    replace HRC := Lib.hid (HRC.out.go hb)
    replace KG := Lib.hid (KG.out.go hb)
    replace KO := Lib.hid (KO.out.go hb)
    replace B := B.trans (hb.mono B.size)
    have hzw9 := B.size
    clear hb
    rw [← HRK.out]
    obtain ⟨kg0, kg1⟩ := KG.out.two
    have kgl := KG.out.lt
    obtain ⟨ko0, ko1⟩ := KO.out.two
    have kol := KO.out.lt
    go_wp2_with fail
    refine (gturned_any _ m A _ ⟨ga, gc, rfl, HGA.out⟩ HAO.out HAW.out (by omega) (by omega)).mono ?_
    rintro e w10 ⟨uq, rfl, huq, hb⟩
    replace HGA := Lib.hid (HGA.out.go hb)
    replace HRA := Lib.hid (HRA.out.go hb)
    replace HGC := Lib.hid (HGC.out.go hb)
    replace HRC := Lib.hid (HRC.out.go hb)
    replace KG := Lib.hid (KG.out.go hb)
    replace KO := Lib.hid (KO.out.go hb)
    replace B := B.trans (hb.mono B.size)
    have hzw10 := B.size
    clear hb
    obtain ⟨v10, rfl, hqq⟩ := huq
    obtain ⟨ta, tc, rfl⟩ := hqq.shape
    have HT := Lib.hid hqq.rows
    clear hqq
    go_wp2_with fail
    refine (gridrows_any _ (A.length : Int) (turnedL A m) _ ⟨ta, tc, rfl, HT.out⟩ (by have := HTL.out; omega) HTW.out).mono ?_
    rintro e w11 ⟨v11, rfl, hv11, hb⟩
    replace HGA := Lib.hid (HGA.out.go hb)
    replace HRA := Lib.hid (HRA.out.go hb)
    replace HGC := Lib.hid (HGC.out.go hb)
    replace HRC := Lib.hid (HRC.out.go hb)
    replace KG := Lib.hid (KG.out.go hb)
    replace KO := Lib.hid (KO.out.go hb)
    replace B := B.trans (hb.mono B.size)
    have hzw11 := B.size
    clear hb
    have HT1 := Lib.hid hv11.rows
    obtain ⟨ya, yc, rfl⟩ := hv11.shape
    clear hv11 HT
    go_wp2_with fail
    refine (refturned_any _ A m _ HRA.out (wide_at HAW.out) (by omega) (by omega)).mono ?_
    rintro e w12 ⟨v12, rfl, hv12, hb⟩
    replace HT1 := Lib.hid (HT1.out.go hb)
    replace HGA := Lib.hid (HGA.out.go hb)
    replace HRA := Lib.hid (HRA.out.go hb)
    replace HGC := Lib.hid (HGC.out.go hb)
    replace HRC := Lib.hid (HRC.out.go hb)
    replace KG := Lib.hid (KG.out.go hb)
    replace KO := Lib.hid (KO.out.go hb)
    replace B := B.trans (hb.mono B.size)
    have hzw12 := B.size
    clear hb
    have HT2 := Lib.hid hv12.rows
    obtain ⟨za, zc, rfl⟩ := hv12.shape
    clear hv12
    go_wp2_with fail
    refine (refsame7_any _ _ (turnedL A m) (turnedL A m) _ HT1.out HT2.out (by have := HTL.out; omega)).mono ?_
    rintro e w13 ⟨rfl, hb⟩
    replace HGA := Lib.hid (HGA.out.go hb)
    replace HRA := Lib.hid (HRA.out.go hb)
    replace HGC := Lib.hid (HGC.out.go hb)
    replace HRC := Lib.hid (HRC.out.go hb)
    replace KG := Lib.hid (KG.out.go hb)
    replace KO := Lib.hid (KO.out.go hb)
    replace B := B.trans (hb.mono B.size)
    have hzw13 := B.size
    clear hb
    rw [decide_eq_true (rfl : turnedL A m = turnedL A m)]
    clear HT1 HT2
    obtain ⟨kg0, kg1⟩ := KG.out.two
    have kgl := KG.out.lt
    obtain ⟨ko0, ko1⟩ := KO.out.two
    have kol := KO.out.lt
    go_wp2_with fail
    refine (gturned_any _ m A _ ⟨ga, gc, rfl, HGA.out⟩ HAO.out HAW.out (by omega) (by omega)).mono ?_
    rintro e w14 ⟨uq, rfl, huq, hb⟩
    replace HGA := Lib.hid (HGA.out.go hb)
    replace HRA := Lib.hid (HRA.out.go hb)
    replace HGC := Lib.hid (HGC.out.go hb)
    replace HRC := Lib.hid (HRC.out.go hb)
    replace KG := Lib.hid (KG.out.go hb)
    replace KO := Lib.hid (KO.out.go hb)
    replace B := B.trans (hb.mono B.size)
    have hzw14 := B.size
    clear hb
    obtain ⟨v14, rfl, hqq⟩ := huq
    obtain ⟨tb, td, rfl⟩ := hqq.shape
    have HT := Lib.hid hqq.rows
    clear hqq
    go_wp2_with fail
    refine (width_any _ (A.length : Int) (turnedL A m) _ ⟨tb, td, rfl, HT.out⟩).mono ?_
    rintro e w15 ⟨rfl, hb⟩
    replace HGA := Lib.hid (HGA.out.go hb)
    replace HRA := Lib.hid (HRA.out.go hb)
    replace HGC := Lib.hid (HGC.out.go hb)
    replace HRC := Lib.hid (HRC.out.go hb)
    replace KG := Lib.hid (KG.out.go hb)
    replace KO := Lib.hid (KO.out.go hb)
    replace B := B.trans (hb.mono B.size)
    have hzw15 := B.size
    clear hb
    clear HT
    obtain ⟨kg0, kg1⟩ := KG.out.two
    have kgl := KG.out.lt
    obtain ⟨ko0, ko1⟩ := KO.out.two
    have kol := KO.out.lt
    go_wp2_with fail
    refine (gturned_any _ m A _ ⟨ga, gc, rfl, HGA.out⟩ HAO.out HAW.out (by omega) (by omega)).mono ?_
    rintro e w16 ⟨uq, rfl, huq, hb⟩
    replace HGA := Lib.hid (HGA.out.go hb)
    replace HRA := Lib.hid (HRA.out.go hb)
    replace HGC := Lib.hid (HGC.out.go hb)
    replace HRC := Lib.hid (HRC.out.go hb)
    replace KG := Lib.hid (KG.out.go hb)
    replace KO := Lib.hid (KO.out.go hb)
    replace B := B.trans (hb.mono B.size)
    have hzw16 := B.size
    clear hb
    obtain ⟨v16, rfl, hqq⟩ := huq
    obtain ⟨te, tf, rfl⟩ := hqq.shape
    have HT := Lib.hid hqq.rows
    clear hqq
    go_wp2_with fail
    refine (height_any _ (A.length : Int) (turnedL A m) _ ⟨te, tf, rfl, HT.out⟩).mono ?_
    rintro e w17 ⟨rfl, hb⟩
    replace HGA := Lib.hid (HGA.out.go hb)
    replace HRA := Lib.hid (HRA.out.go hb)
    replace HGC := Lib.hid (HGC.out.go hb)
    replace HRC := Lib.hid (HRC.out.go hb)
    replace KG := Lib.hid (KG.out.go hb)
    replace KO := Lib.hid (KO.out.go hb)
    replace B := B.trans (hb.mono B.size)
    have hzw17 := B.size
    clear hb
    rw [HTL.out]
    clear HT
    obtain ⟨kg0, kg1⟩ := KG.out.two
    have kgl := KG.out.lt
    obtain ⟨ko0, ko1⟩ := KO.out.two
    have kol := KO.out.lt
    go_wp2_with fail
    refine (gmul_any _ _ m k A C _ ⟨ga, gc, rfl, HGA.out⟩ ⟨oa, oc, rfl, HGC.out⟩ (wide_at HAW.out) (wide_at HCW.out) (by omega) (by omega) HAK.out).mono ?_
    rintro e w18 ⟨u18, rfl, hu18, hb⟩
    replace HGA := Lib.hid (HGA.out.go hb)
    replace HRA := Lib.hid (HRA.out.go hb)
    replace HRC := Lib.hid (HRC.out.go hb)
    replace KG := Lib.hid (KG.out.go hb)
    replace B := B.trans (hb.mono B.size)
    have hzw18 := B.size
    clear hb
    rw [HMC.out]
    rw [HMM.out, HMR.out] at hu18
    obtain ⟨v18, rfl, hq18⟩ := hu18
    obtain ⟨pa, pc, rfl⟩ := hq18.shape
    have HP := Lib.hid hq18.rows
    clear hq18
    go_wp2_with fail
    obtain ⟨hb, hk, hs⟩ := blocks1 w18 #[.int .i64 0, .slice pa 0 pc] 26
    generalize w18.alloc (.cells #[.int .i64 0, .slice pa 0 pc] 26) = W19 at *
    have KP := Lib.hid hk
    replace HGA := Lib.hid (HGA.out.go hb)
    replace HRA := Lib.hid (HRA.out.go hb)
    replace HRC := Lib.hid (HRC.out.go hb)
    replace KG := Lib.hid (KG.out.go hb)
    replace HP := Lib.hid (HP.out.go hb)
    replace B := B.trans (hb.mono B.size)
    have hzW19 := B.size
    clear hb hk hs
    refine (height_any _ 0 [] _ ⟨pa, pc, rfl, HP.out⟩).mono ?_
    rintro e w20 ⟨rfl, hb⟩
    replace HGA := Lib.hid (HGA.out.go hb)
    replace HRA := Lib.hid (HRA.out.go hb)
    replace KG := Lib.hid (KG.out.go hb)
    replace B := B.trans (hb.mono B.size)
    have hzw20 := B.size
    clear hb
    obtain ⟨kg0, kg1⟩ := KG.out.two
    have kgl := KG.out.lt
    go_wp2_with fail
    rcases hcase with hsq | ⟨hsq, hrm⟩ | ⟨hsq, hrm⟩
    · have HSQ := Lib.hid hsq
      have hsq2 : ((m : Int) != (A.length : Int)) = true := by rw [bne_iff_ne]; omega
      clear hsq
      refine (ginv_no _ m A _ ⟨ga, gc, rfl, HGA.out⟩ HSQ.out).mono ?_
      rintro e w30 ⟨u30, rfl, hu30, hb⟩
      replace HRA := Lib.hid (HRA.out.go hb)
      replace B := B.trans (hb.mono B.size)
      have hzw30 := B.size
      clear hb
      obtain ⟨v30, rfl, hq30⟩ := hu30
      obtain ⟨ia, ic, rfl⟩ := hq30.shape
      have HI := Lib.hid hq30.rows
      clear hq30
      go_wp2_with fail
      obtain ⟨hb, hk, hs⟩ := blocks1 w30 #[.int .i64 0, .slice ia 0 ic] 26
      generalize w30.alloc (.cells #[.int .i64 0, .slice ia 0 ic] 26) = W31 at *
      have KI := Lib.hid hk
      replace HI := Lib.hid (HI.out.go hb)
      replace B := B.trans (hb.mono B.size)
      have hzW31 := B.size
      clear hb hk hs
      refine (height_any _ 0 [] _ ⟨ia, ic, rfl, HI.out⟩).mono ?_
      rintro e w32 ⟨rfl, hb⟩
      replace B := B.trans (hb.mono B.size)
      have hzw32 := B.size
      clear hb
      go_wp2_with fail
      go_ret
      exact ⟨rfl, B⟩
    · have HSQ := Lib.hid hsq.symm
      have hsq2 : ((m : Int) != (A.length : Int)) = false := by rw [hsq]; simp
      have hrm2 : (r : Int) < (m : Int) := by omega
      clear hsq
      refine (ginv_lack _ m A _ ⟨ga, gc, rfl, HGA.out⟩ HSQ.out HAO.out HAW.out (by omega) (by rw [← HRK.out]; exact hrm)).mono ?_
      rintro e w30 ⟨u30, rfl, hu30, hb⟩
      replace HRA := Lib.hid (HRA.out.go hb)
      replace B := B.trans (hb.mono B.size)
      have hzw30 := B.size
      clear hb
      obtain ⟨v30, rfl, hq30⟩ := hu30
      obtain ⟨ia, ic, rfl⟩ := hq30.shape
      have HI := Lib.hid hq30.rows
      clear hq30
      go_wp2_with fail
      obtain ⟨hb, hk, hs⟩ := blocks1 w30 #[.int .i64 0, .slice ia 0 ic] 26
      generalize w30.alloc (.cells #[.int .i64 0, .slice ia 0 ic] 26) = W31 at *
      have KI := Lib.hid hk
      replace HI := Lib.hid (HI.out.go hb)
      replace B := B.trans (hb.mono B.size)
      have hzW31 := B.size
      clear hb hk hs
      refine (height_any _ 0 [] _ ⟨ia, ic, rfl, HI.out⟩).mono ?_
      rintro e w32 ⟨rfl, hb⟩
      replace B := B.trans (hb.mono B.size)
      have hzw32 := B.size
      clear hb
      go_wp2_with fail
      go_ret
      exact ⟨rfl, B⟩
    · have HSQ := Lib.hid hsq.symm
      have hsq2 : ((m : Int) != (A.length : Int)) = false := by rw [hsq]; simp
      have hrm2 : ¬ (r : Int) < (m : Int) := by omega
      have HFU := Lib.hid (show rankL m A = m by rw [← HRK.out]; exact hrm)
      have HIL := Lib.hid (invL_length HSQ.out HAO.out HAW.out HFU.out)
      have HIW := Lib.hid (invL_wide HSQ.out HAO.out HAW.out)
      have HNC := Lib.hid (show mulC m (invL A) = 0 from if_pos HIL.out.symm)
      have HNM := Lib.hid (show mulM m (invL A) m = (m : Int) from if_pos HIL.out.symm)
      have HNR := Lib.hid (show mulR m A (invL A) m = unitG m by unfold mulR; rw [if_pos HIL.out.symm]; exact invL_right HSQ.out HAO.out HAW.out HFU.out)
      have HAM := Lib.hid (show A.length * m ≤ 65536 by
        have := Nat.mul_le_mul hAl hm30
        omega)
      have HUN := Lib.hid (unitG_length m)
      clear hsq hrm
      refine (ginv_full _ m A _ ⟨ga, gc, rfl, HGA.out⟩ HSQ.out HAO.out HAW.out (by omega) HFU.out).mono ?_
      rintro e w30 ⟨u30, rfl, hu30, hb⟩
      replace HGA := Lib.hid (HGA.out.go hb)
      replace KG := Lib.hid (KG.out.go hb)
      replace B := B.trans (hb.mono B.size)
      have hzw30 := B.size
      clear hb
      obtain ⟨v30, rfl, hq30⟩ := hu30
      obtain ⟨ia, ic, rfl⟩ := hq30.shape
      have HI := Lib.hid hq30.rows
      clear hq30
      obtain ⟨kg0, kg1⟩ := KG.out.two
      have kgl := KG.out.lt
      go_wp2_with fail
      clear kg0 kg1 kgl
      obtain ⟨hb, hk, hs⟩ := blocks1 w30 #[.int .i64 (m : Int), .slice ia (invL A).length ic] 26
      generalize w30.alloc (.cells #[.int .i64 (m : Int), .slice ia (invL A).length ic] 26) = W31 at *
      have KI := Lib.hid hk
      replace HI := Lib.hid (HI.out.go hb)
      replace HGA := Lib.hid (HGA.out.go hb)
      replace B := B.trans (hb.mono B.size)
      have hzW31 := B.size
      clear hb hk hs
      refine (gmul_any _ _ m m A (invL A) _ ⟨ga, gc, rfl, HGA.out⟩ ⟨ia, ic, rfl, HI.out⟩ (wide_at HAW.out) (wide_at HIW.out) (by omega) (by omega) HAM.out).mono ?_
      rintro e w32 ⟨u32, rfl, hu32, hb⟩
      replace B := B.trans (hb.mono B.size)
      have hzw32 := B.size
      clear hb
      rw [HNC.out]
      rw [HNM.out, HNR.out] at hu32
      obtain ⟨v32, rfl, hq32⟩ := hu32
      obtain ⟨ja, jc, rfl⟩ := hq32.shape
      have HJ := Lib.hid hq32.rows
      clear hq32
      go_wp2_with fail
      obtain ⟨hb, hk, hs⟩ := blocks1 w32 #[.int .i64 (m : Int), .slice ja (unitG m).length jc] 26
      generalize w32.alloc (.cells #[.int .i64 (m : Int), .slice ja (unitG m).length jc] 26) = W33 at *
      have KJ := Lib.hid hk
      replace HJ := Lib.hid (HJ.out.go hb)
      replace B := B.trans (hb.mono B.size)
      have hzW33 := B.size
      clear hb hk hs
      refine (gunit_in m _ (by omega)).mono ?_
      rintro e w34 ⟨u34, rfl, hu34, hb⟩
      replace HJ := Lib.hid (HJ.out.go hb)
      replace KJ := Lib.hid (KJ.out.go hb)
      replace B := B.trans (hb.mono B.size)
      have hzw34 := B.size
      clear hb
      obtain ⟨v34, rfl, hq34⟩ := hu34
      obtain ⟨ea, ec, rfl⟩ := hq34.shape
      have HU := Lib.hid hq34.rows
      clear hq34
      obtain ⟨kj0, kj1⟩ := KJ.out.two
      have kjl := KJ.out.lt
      go_wp2_with fail
      clear kj0 kj1 kjl
      obtain ⟨hb, hk, hs⟩ := blocks1 w34 #[.int .i64 (m : Int), .slice ea (unitG m).length ec] 26
      generalize w34.alloc (.cells #[.int .i64 (m : Int), .slice ea (unitG m).length ec] 26) = W35 at *
      have KU := Lib.hid hk
      replace HJ := Lib.hid (HJ.out.go hb)
      replace HU := Lib.hid (HU.out.go hb)
      replace B := B.trans (hb.mono B.size)
      have hzW35 := B.size
      clear hb hk hs
      refine (gridsame_any _ _ (m : Int) (m : Int) (unitG m) (unitG m) _ ⟨ja, jc, rfl, HJ.out⟩ ⟨ea, ec, rfl, HU.out⟩ (by have := HUN.out; omega)).mono ?_
      rintro e w36 ⟨rfl, hb⟩
      replace B := B.trans (hb.mono B.size)
      have hzw36 := B.size
      clear hb
      rw [show decide ((m : Int) = (m : Int) ∧ unitG m = unitG m) = true from decide_eq_true ⟨rfl, rfl⟩]
      go_wp2_with fail
      go_ret
      exact ⟨rfl, B⟩

theorem gridReckons_walk (x0 : Nat) (v0 : Value) (ll : List (List Nat)) (x1 : Nat) (v1 : Value) (kk : List (List Nat)) (w : World) (hx0 : x0 < 256) (hR0 : IsRows w v0 ll) (hx1 : x1 < 256) (hR1 : IsRows w v1 kk) :
    Calls Try.prog 4 #[U8 x0, v0, U8 x1, v1] w fun e w' => e = .returned (.bool true) ∧ Below w.heap.size w w' := by
  cases hf : few7 ll with
  | false => exact gridReckons_out v0 v1 x0 x1 ll kk w hR0 hR1 (.inl hf)
  | true =>
    cases hg : few7 kk with
    | false => exact gridReckons_out v0 v1 x0 x1 ll kk w hR0 hR1 (.inr ⟨hf, hg⟩)
    | true => exact gridReckons_some v0 v1 x0 x1 ll kk w hx0 hx1 hR0 hR1 hf hg

end Go.Proofs.Ytohfcdgpllghbaa
