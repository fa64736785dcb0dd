/- Texts of one seat, laid together: LawNineC, LawNineD. -/
import Derived.Test.YtphdadibfeencaaSolveJudgesQ20

/-
  The laws of what equations say together (layer 9): SolveJudges.
-/
set_option maxRecDepth 100000
namespace Go.Proofs.Ytphdadibfeencaa
open Go.RowKit

theorem IsRL.oct {w : World} {v : Value} {L : List Rw} (h : IsRL w v L) : ∀ r, r ∈ L → (∀ x, x ∈ r.1 → x < 256) ∧ ∀ x, x ∈ r.2 → x < 256 := by
  intro r hr
  obtain ⟨i, hi, rfl⟩ := List.mem_iff_getElem.1 hr
  obtain ⟨b, off, c, rfl, _⟩ := h.addr (by omega)
  obtain ⟨x0, y0, _, _, hx, hy⟩ := h.cells i hi
  rw [rwAt_eq L i hi] at hx hy
  exact ⟨hx.lt, hy.lt⟩
theorem IsRL.dims {w : World} {v : Value} {L : List Rw} (h : IsRL w v L) {k t : Nat} (hf : L.all (fitB (k : Int) (t : Int)) = true) : Ro.Dims k t L := by
  intro r hr
  rw [List.all_eq_true] at hf
  have h1 := hf r hr
  unfold fitB at h1
  simp only [Bool.and_eq_true, decide_eq_true_eq] at h1
  exact ⟨by omega, by omega, (h.oct r hr).1, (h.oct r hr).2⟩

set_option maxHeartbeats 1000000 in
theorem solveJudges_out (k t : Int) (v : Value) (L : List Rw) (w : World) (hL : IsRL w v L) (h : few8 L = false ∨ (few8 L = true ∧ 20 < k ∧ k ≤ 4096) ∨ (few8 L = true ∧ (k ≤ 20 ∨ 4096 < k) ∧ 20 < t ∧ t ≤ 65535)) :
    Calls Try.prog 3 #[.int .i64 k, .int .i64 t, v] w fun e w' => e = .returned (.bool true) ∧ Below w.heap.size w w' := by
  have HL := Lib.hid hL
  obtain ⟨a, c, rfl⟩ := hL.shape
  clear hL
  rcases h with h | ⟨h, h1, h2⟩ | ⟨h, h0 | h0, h1, h2⟩
  · have HF := Lib.hid h
    clear h
    go_enter Try.func3, Try.ntmps3
    go_wp2_with fail
    have B : Below w.heap.size w w := Below.refl _ _
    refine (awake9_any _).mono ?_
    rintro e w1 ⟨rfl, hb⟩
    replace HL := Lib.hid (HL.out.go hb)
    replace B := B.trans (hb.mono B.size)
    have hzw1 := B.size
    clear hb
    go_wp2_with fail
    refine (few8_any _ L _ HL.out).mono ?_
    rintro e w2 ⟨rfl, hb⟩
    replace B := B.trans (hb.mono B.size)
    have hzw2 := B.size
    clear hb
    rw [HF.out]
    go_wp2_with fail
    go_ret
    exact ⟨rfl, B⟩
  · have HF := Lib.hid h
    clear h
    go_enter Try.func3, Try.ntmps3
    go_wp2_with fail
    have B : Below w.heap.size w w := Below.refl _ _
    refine (awake9_any _).mono ?_
    rintro e w1 ⟨rfl, hb⟩
    replace HL := Lib.hid (HL.out.go hb)
    replace B := B.trans (hb.mono B.size)
    have hzw1 := B.size
    clear hb
    go_wp2_with fail
    refine (few8_any _ L _ HL.out).mono ?_
    rintro e w2 ⟨rfl, hb⟩
    replace B := B.trans (hb.mono B.size)
    have hzw2 := B.size
    clear hb
    rw [HF.out]
    go_wp2_with fail
    go_ret
    exact ⟨rfl, B⟩
  · have HF := Lib.hid h
    have h3 : ¬ 20 < k := by omega
    clear h
    go_enter Try.func3, Try.ntmps3
    go_wp2_with fail
    have B : Below w.heap.size w w := Below.refl _ _
    refine (awake9_any _).mono ?_
    rintro e w1 ⟨rfl, hb⟩
    replace HL := Lib.hid (HL.out.go hb)
    replace B := B.trans (hb.mono B.size)
    have hzw1 := B.size
    clear hb
    go_wp2_with fail
    refine (few8_any _ L _ HL.out).mono ?_
    rintro e w2 ⟨rfl, hb⟩
    replace B := B.trans (hb.mono B.size)
    have hzw2 := B.size
    clear hb
    rw [HF.out]
    go_wp2_with fail
    go_ret
    exact ⟨rfl, B⟩
  · have HF := Lib.hid h
    have h3 : ¬ k ≤ 4096 := by omega
    have h4 : 20 < k := by omega
    clear h
    go_enter Try.func3, Try.ntmps3
    go_wp2_with fail
    have B : Below w.heap.size w w := Below.refl _ _
    refine (awake9_any _).mono ?_
    rintro e w1 ⟨rfl, hb⟩
    replace HL := Lib.hid (HL.out.go hb)
    replace B := B.trans (hb.mono B.size)
    have hzw1 := B.size
    clear hb
    go_wp2_with fail
    refine (few8_any _ L _ HL.out).mono ?_
    rintro e w2 ⟨rfl, hb⟩
    replace B := B.trans (hb.mono B.size)
    have hzw2 := B.size
    clear hb
    rw [HF.out]
    go_wp2_with fail
    go_ret
    exact ⟨rfl, B⟩

theorem len_zero : ((Nt.dg 0).length : Int) = 0 := by decide +kernel
theorem zero_small : (Wt.dg 0).length ≤ 100000 := by decide +kernel
set_option maxHeartbeats 1000000 in
theorem solveJudges_bad (k t : Int) (v : Value) (L : List Rw) (w : World) (hL : IsRL w v L) (hf : few8 L = true) (hk : k < 1 ∨ 4096 < k ∨ (1 ≤ k ∧ k ≤ 20 ∧ (t < 0 ∨ 65535 < t))) (ht : t ≤ 20 ∨ 65535 < t) :
    Calls Try.prog 3 #[.int .i64 k, .int .i64 t, v] w fun e w' => e = .returned (.bool true) ∧ Below w.heap.size w w' := by
  have HL := Lib.hid hL
  obtain ⟨a, c, rfl⟩ := hL.shape
  have HF := Lib.hid hf
  have hlen := few8_len hf
  have HWD := Lib.hid (show ∀ j, j < L.length → (rwAt L j).1.length ≤ 10000000 ∧ (rwAt L j).2.length ≤ 10000000 from fun j hj => by have := few8_at hf hj; omega)
  have hno : ¬ newOk k t := by unfold newOk; omega
  have HJ := Lib.hid (fun (v : Value) (w : World) (h : IsRL w v L) => judge_no k t v L w h hno)
  have HC := Lib.hid (fun (v : Value) (w : World) (h : IsRL w v L) => count_no k t v L w h hno)
  clear hL hf hno
  rcases hk with h1 | h1 | ⟨h1, h2, h3⟩
  · have m0 : ¬ 20 < k := by omega
    rcases ht with h4 | h4
    · have m1 : ¬ 20 < t := by omega
      go_enter Try.func3, Try.ntmps3
      go_wp2_with fail
      have B : Below w.heap.size w w := Below.refl _ _
      refine (awake9_any _).mono ?_
      rintro e w1 ⟨rfl, hb⟩
      replace HL := Lib.hid (HL.out.go hb)
      replace B := B.trans (hb.mono B.size)
      have hzw1 := B.size
      clear hb
      go_wp2_with fail
      refine (few8_any _ L _ HL.out).mono ?_
      rintro e w2 ⟨rfl, hb⟩
      replace HL := Lib.hid (HL.out.go hb)
      replace B := B.trans (hb.mono B.size)
      have hzw2 := B.size
      clear hb
      rw [HF.out]
      go_wp2_with fail
      refine (rows9_any _ L _ HL.out (by omega) HWD.out).mono ?_
      rintro e w3 ⟨u3, d3, rfl, hu3, hd3, hb⟩
      replace B := B.trans (hb.mono B.size)
      have hzw3 := B.size
      clear hb
      have HU := Lib.hid hu3
      have HDL := Lib.hid hd3
      obtain ⟨ua, uc, rfl⟩ := hu3.shape
      obtain ⟨da, dc, rfl⟩ := hd3.shape
      clear hu3 hd3
      go_wp2_with fail
      refine (HJ.out _ _ HU.out.list).mono ?_
      rintro e w4 ⟨rfl, hb⟩
      replace HU := Lib.hid (HU.out.go hb)
      replace B := B.trans (hb.mono B.size)
      have hzw4 := B.size
      clear hb
      go_wp2_with fail
      obtain ⟨hb, hk, hs⟩ := blocks1 w4 #[.int .i64 0, .int .i64 0] 30
      generalize w4.alloc (.cells #[.int .i64 0, .int .i64 0] 30) = W5 at *
      have K5 := Lib.hid hk
      replace HU := Lib.hid (HU.out.go hb)
      replace B := B.trans (hb.mono B.size)
      have hzW5 := B.size
      clear hb hk hs
      refine (HC.out _ _ HU.out.list).mono ?_
      rintro e w6 ⟨u6, rfl, hu6, hb⟩
      replace K5 := Lib.hid (K5.out.go hb)
      replace B := B.trans (hb.mono B.size)
      have hzw6 := B.size
      clear hb
      have HN6 := Lib.hid hu6
      obtain ⟨na, nc, rfl, _⟩ := hu6.shape
      clear hu6
      obtain ⟨k50, k51⟩ := K5.out.two
      have k5l := K5.out.lt
      go_upto_region 8 with fail
      obtain ⟨hb, hk, hs⟩ := blocks1 w6 #[.slice na (Wt.dg 0).length nc] 36
      generalize w6.alloc (.cells #[.slice na (Wt.dg 0).length nc] 36) = W7 at *
      have K7 := Lib.hid hk
      replace K5 := Lib.hid (K5.out.go hb)
      replace HN6 := Lib.hid (HN6.out.go hb)
      replace B := B.trans (hb.mono B.size)
      have hzW7 := B.size
      clear hb hk hs
      obtain ⟨k50, k51⟩ := K5.out.two
      have k5l := K5.out.lt
      have c7 := K7.out.cell 0
      go_wp2_with fail
      refine (natlen_any _ 0 _ zero_small HN6.out).mono ?_
      rintro e w8 ⟨rfl, hb⟩
      replace B := B.trans (hb.mono B.size)
      have hzw8 := B.size
      clear hb
      rw [len_zero]
      go_wp2_with fail
      go_ret
      exact ⟨rfl, B⟩
    · have m1 : 20 < t := by omega
      have m2 : ¬ t ≤ 65535 := by omega
      go_enter Try.func3, Try.ntmps3
      go_wp2_with fail
      have B : Below w.heap.size w w := Below.refl _ _
      refine (awake9_any _).mono ?_
      rintro e w1 ⟨rfl, hb⟩
      replace HL := Lib.hid (HL.out.go hb)
      replace B := B.trans (hb.mono B.size)
      have hzw1 := B.size
      clear hb
      go_wp2_with fail
      refine (few8_any _ L _ HL.out).mono ?_
      rintro e w2 ⟨rfl, hb⟩
      replace HL := Lib.hid (HL.out.go hb)
      replace B := B.trans (hb.mono B.size)
      have hzw2 := B.size
      clear hb
      rw [HF.out]
      go_wp2_with fail
      refine (rows9_any _ L _ HL.out (by omega) HWD.out).mono ?_
      rintro e w3 ⟨u3, d3, rfl, hu3, hd3, hb⟩
      replace B := B.trans (hb.mono B.size)
      have hzw3 := B.size
      clear hb
      have HU := Lib.hid hu3
      have HDL := Lib.hid hd3
      obtain ⟨ua, uc, rfl⟩ := hu3.shape
      obtain ⟨da, dc, rfl⟩ := hd3.shape
      clear hu3 hd3
      go_wp2_with fail
      refine (HJ.out _ _ HU.out.list).mono ?_
      rintro e w4 ⟨rfl, hb⟩
      replace HU := Lib.hid (HU.out.go hb)
      replace B := B.trans (hb.mono B.size)
      have hzw4 := B.size
      clear hb
      go_wp2_with fail
      obtain ⟨hb, hk, hs⟩ := blocks1 w4 #[.int .i64 0, .int .i64 0] 30
      generalize w4.alloc (.cells #[.int .i64 0, .int .i64 0] 30) = W5 at *
      have K5 := Lib.hid hk
      replace HU := Lib.hid (HU.out.go hb)
      replace B := B.trans (hb.mono B.size)
      have hzW5 := B.size
      clear hb hk hs
      refine (HC.out _ _ HU.out.list).mono ?_
      rintro e w6 ⟨u6, rfl, hu6, hb⟩
      replace K5 := Lib.hid (K5.out.go hb)
      replace B := B.trans (hb.mono B.size)
      have hzw6 := B.size
      clear hb
      have HN6 := Lib.hid hu6
      obtain ⟨na, nc, rfl, _⟩ := hu6.shape
      clear hu6
      obtain ⟨k50, k51⟩ := K5.out.two
      have k5l := K5.out.lt
      go_upto_region 8 with fail
      obtain ⟨hb, hk, hs⟩ := blocks1 w6 #[.slice na (Wt.dg 0).length nc] 36
      generalize w6.alloc (.cells #[.slice na (Wt.dg 0).length nc] 36) = W7 at *
      have K7 := Lib.hid hk
      replace K5 := Lib.hid (K5.out.go hb)
      replace HN6 := Lib.hid (HN6.out.go hb)
      replace B := B.trans (hb.mono B.size)
      have hzW7 := B.size
      clear hb hk hs
      obtain ⟨k50, k51⟩ := K5.out.two
      have k5l := K5.out.lt
      have c7 := K7.out.cell 0
      go_wp2_with fail
      refine (natlen_any _ 0 _ zero_small HN6.out).mono ?_
      rintro e w8 ⟨rfl, hb⟩
      replace B := B.trans (hb.mono B.size)
      have hzw8 := B.size
      clear hb
      rw [len_zero]
      go_wp2_with fail
      go_ret
      exact ⟨rfl, B⟩
  · have m0 : 20 < k := by omega
    have m3 : ¬ k ≤ 4096 := by omega
    have m4 : ¬ k < 1 := by omega
    rcases ht with h4 | h4
    · have m1 : ¬ 20 < t := by omega
      go_enter Try.func3, Try.ntmps3
      go_wp2_with fail
      have B : Below w.heap.size w w := Below.refl _ _
      refine (awake9_any _).mono ?_
      rintro e w1 ⟨rfl, hb⟩
      replace HL := Lib.hid (HL.out.go hb)
      replace B := B.trans (hb.mono B.size)
      have hzw1 := B.size
      clear hb
      go_wp2_with fail
      refine (few8_any _ L _ HL.out).mono ?_
      rintro e w2 ⟨rfl, hb⟩
      replace HL := Lib.hid (HL.out.go hb)
      replace B := B.trans (hb.mono B.size)
      have hzw2 := B.size
      clear hb
      rw [HF.out]
      go_wp2_with fail
      refine (rows9_any _ L _ HL.out (by omega) HWD.out).mono ?_
      rintro e w3 ⟨u3, d3, rfl, hu3, hd3, hb⟩
      replace B := B.trans (hb.mono B.size)
      have hzw3 := B.size
      clear hb
      have HU := Lib.hid hu3
      have HDL := Lib.hid hd3
      obtain ⟨ua, uc, rfl⟩ := hu3.shape
      obtain ⟨da, dc, rfl⟩ := hd3.shape
      clear hu3 hd3
      go_wp2_with fail
      refine (HJ.out _ _ HU.out.list).mono ?_
      rintro e w4 ⟨rfl, hb⟩
      replace HU := Lib.hid (HU.out.go hb)
      replace B := B.trans (hb.mono B.size)
      have hzw4 := B.size
      clear hb
      go_wp2_with fail
      obtain ⟨hb, hk, hs⟩ := blocks1 w4 #[.int .i64 0, .int .i64 0] 30
      generalize w4.alloc (.cells #[.int .i64 0, .int .i64 0] 30) = W5 at *
      have K5 := Lib.hid hk
      replace HU := Lib.hid (HU.out.go hb)
      replace B := B.trans (hb.mono B.size)
      have hzW5 := B.size
      clear hb hk hs
      refine (HC.out _ _ HU.out.list).mono ?_
      rintro e w6 ⟨u6, rfl, hu6, hb⟩
      replace K5 := Lib.hid (K5.out.go hb)
      replace B := B.trans (hb.mono B.size)
      have hzw6 := B.size
      clear hb
      have HN6 := Lib.hid hu6
      obtain ⟨na, nc, rfl, _⟩ := hu6.shape
      clear hu6
      obtain ⟨k50, k51⟩ := K5.out.two
      have k5l := K5.out.lt
      go_upto_region 8 with fail
      obtain ⟨hb, hk, hs⟩ := blocks1 w6 #[.slice na (Wt.dg 0).length nc] 36
      generalize w6.alloc (.cells #[.slice na (Wt.dg 0).length nc] 36) = W7 at *
      have K7 := Lib.hid hk
      replace K5 := Lib.hid (K5.out.go hb)
      replace HN6 := Lib.hid (HN6.out.go hb)
      replace B := B.trans (hb.mono B.size)
      have hzW7 := B.size
      clear hb hk hs
      obtain ⟨k50, k51⟩ := K5.out.two
      have k5l := K5.out.lt
      have c7 := K7.out.cell 0
      go_wp2_with fail
      refine (natlen_any _ 0 _ zero_small HN6.out).mono ?_
      rintro e w8 ⟨rfl, hb⟩
      replace B := B.trans (hb.mono B.size)
      have hzw8 := B.size
      clear hb
      rw [len_zero]
      go_wp2_with fail
      go_ret
      exact ⟨rfl, B⟩
    · have m1 : 20 < t := by omega
      have m2 : ¬ t ≤ 65535 := by omega
      go_enter Try.func3, Try.ntmps3
      go_wp2_with fail
      have B : Below w.heap.size w w := Below.refl _ _
      refine (awake9_any _).mono ?_
      rintro e w1 ⟨rfl, hb⟩
      replace HL := Lib.hid (HL.out.go hb)
      replace B := B.trans (hb.mono B.size)
      have hzw1 := B.size
      clear hb
      go_wp2_with fail
      refine (few8_any _ L _ HL.out).mono ?_
      rintro e w2 ⟨rfl, hb⟩
      replace HL := Lib.hid (HL.out.go hb)
      replace B := B.trans (hb.mono B.size)
      have hzw2 := B.size
      clear hb
      rw [HF.out]
      go_wp2_with fail
      refine (rows9_any _ L _ HL.out (by omega) HWD.out).mono ?_
      rintro e w3 ⟨u3, d3, rfl, hu3, hd3, hb⟩
      replace B := B.trans (hb.mono B.size)
      have hzw3 := B.size
      clear hb
      have HU := Lib.hid hu3
      have HDL := Lib.hid hd3
      obtain ⟨ua, uc, rfl⟩ := hu3.shape
      obtain ⟨da, dc, rfl⟩ := hd3.shape
      clear hu3 hd3
      go_wp2_with fail
      refine (HJ.out _ _ HU.out.list).mono ?_
      rintro e w4 ⟨rfl, hb⟩
      replace HU := Lib.hid (HU.out.go hb)
      replace B := B.trans (hb.mono B.size)
      have hzw4 := B.size
      clear hb
      go_wp2_with fail
      obtain ⟨hb, hk, hs⟩ := blocks1 w4 #[.int .i64 0, .int .i64 0] 30
      generalize w4.alloc (.cells #[.int .i64 0, .int .i64 0] 30) = W5 at *
      have K5 := Lib.hid hk
      replace HU := Lib.hid (HU.out.go hb)
      replace B := B.trans (hb.mono B.size)
      have hzW5 := B.size
      clear hb hk hs
      refine (HC.out _ _ HU.out.list).mono ?_
      rintro e w6 ⟨u6, rfl, hu6, hb⟩
      replace K5 := Lib.hid (K5.out.go hb)
      replace B := B.trans (hb.mono B.size)
      have hzw6 := B.size
      clear hb
      have HN6 := Lib.hid hu6
      obtain ⟨na, nc, rfl, _⟩ := hu6.shape
      clear hu6
      obtain ⟨k50, k51⟩ := K5.out.two
      have k5l := K5.out.lt
      go_upto_region 8 with fail
      obtain ⟨hb, hk, hs⟩ := blocks1 w6 #[.slice na (Wt.dg 0).length nc] 36
      generalize w6.alloc (.cells #[.slice na (Wt.dg 0).length nc] 36) = W7 at *
      have K7 := Lib.hid hk
      replace K5 := Lib.hid (K5.out.go hb)
      replace HN6 := Lib.hid (HN6.out.go hb)
      replace B := B.trans (hb.mono B.size)
      have hzW7 := B.size
      clear hb hk hs
      obtain ⟨k50, k51⟩ := K5.out.two
      have k5l := K5.out.lt
      have c7 := K7.out.cell 0
      go_wp2_with fail
      refine (natlen_any _ 0 _ zero_small HN6.out).mono ?_
      rintro e w8 ⟨rfl, hb⟩
      replace B := B.trans (hb.mono B.size)
      have hzw8 := B.size
      clear hb
      rw [len_zero]
      go_wp2_with fail
      go_ret
      exact ⟨rfl, B⟩
  · have m0 : ¬ 20 < k := by omega
    have m4 : ¬ k < 1 := by omega
    have m5 : ¬ 4096 < k := by omega
    rcases h3 with h3 | h3
    · have m1 : ¬ 20 < t := by omega
      go_enter Try.func3, Try.ntmps3
      go_wp2_with fail
      have B : Below w.heap.size w w := Below.refl _ _
      refine (awake9_any _).mono ?_
      rintro e w1 ⟨rfl, hb⟩
      replace HL := Lib.hid (HL.out.go hb)
      replace B := B.trans (hb.mono B.size)
      have hzw1 := B.size
      clear hb
      go_wp2_with fail
      refine (few8_any _ L _ HL.out).mono ?_
      rintro e w2 ⟨rfl, hb⟩
      replace HL := Lib.hid (HL.out.go hb)
      replace B := B.trans (hb.mono B.size)
      have hzw2 := B.size
      clear hb
      rw [HF.out]
      go_wp2_with fail
      refine (rows9_any _ L _ HL.out (by omega) HWD.out).mono ?_
      rintro e w3 ⟨u3, d3, rfl, hu3, hd3, hb⟩
      replace B := B.trans (hb.mono B.size)
      have hzw3 := B.size
      clear hb
      have HU := Lib.hid hu3
      have HDL := Lib.hid hd3
      obtain ⟨ua, uc, rfl⟩ := hu3.shape
      obtain ⟨da, dc, rfl⟩ := hd3.shape
      clear hu3 hd3
      go_wp2_with fail
      refine (HJ.out _ _ HU.out.list).mono ?_
      rintro e w4 ⟨rfl, hb⟩
      replace HU := Lib.hid (HU.out.go hb)
      replace B := B.trans (hb.mono B.size)
      have hzw4 := B.size
      clear hb
      go_wp2_with fail
      obtain ⟨hb, hk, hs⟩ := blocks1 w4 #[.int .i64 0, .int .i64 0] 30
      generalize w4.alloc (.cells #[.int .i64 0, .int .i64 0] 30) = W5 at *
      have K5 := Lib.hid hk
      replace HU := Lib.hid (HU.out.go hb)
      replace B := B.trans (hb.mono B.size)
      have hzW5 := B.size
      clear hb hk hs
      refine (HC.out _ _ HU.out.list).mono ?_
      rintro e w6 ⟨u6, rfl, hu6, hb⟩
      replace K5 := Lib.hid (K5.out.go hb)
      replace B := B.trans (hb.mono B.size)
      have hzw6 := B.size
      clear hb
      have HN6 := Lib.hid hu6
      obtain ⟨na, nc, rfl, _⟩ := hu6.shape
      clear hu6
      obtain ⟨k50, k51⟩ := K5.out.two
      have k5l := K5.out.lt
      go_upto_region 8 with fail
      obtain ⟨hb, hk, hs⟩ := blocks1 w6 #[.slice na (Wt.dg 0).length nc] 36
      generalize w6.alloc (.cells #[.slice na (Wt.dg 0).length nc] 36) = W7 at *
      have K7 := Lib.hid hk
      replace K5 := Lib.hid (K5.out.go hb)
      replace HN6 := Lib.hid (HN6.out.go hb)
      replace B := B.trans (hb.mono B.size)
      have hzW7 := B.size
      clear hb hk hs
      obtain ⟨k50, k51⟩ := K5.out.two
      have k5l := K5.out.lt
      have c7 := K7.out.cell 0
      go_wp2_with fail
      refine (natlen_any _ 0 _ zero_small HN6.out).mono ?_
      rintro e w8 ⟨rfl, hb⟩
      replace B := B.trans (hb.mono B.size)
      have hzw8 := B.size
      clear hb
      rw [len_zero]
      go_wp2_with fail
      go_ret
      exact ⟨rfl, B⟩
    · have m1 : 20 < t := by omega
      have m2 : ¬ t ≤ 65535 := by omega
      have m6 : ¬ t < 0 := by omega
      go_enter Try.func3, Try.ntmps3
      go_wp2_with fail
      have B : Below w.heap.size w w := Below.refl _ _
      refine (awake9_any _).mono ?_
      rintro e w1 ⟨rfl, hb⟩
      replace HL := Lib.hid (HL.out.go hb)
      replace B := B.trans (hb.mono B.size)
      have hzw1 := B.size
      clear hb
      go_wp2_with fail
      refine (few8_any _ L _ HL.out).mono ?_
      rintro e w2 ⟨rfl, hb⟩
      replace HL := Lib.hid (HL.out.go hb)
      replace B := B.trans (hb.mono B.size)
      have hzw2 := B.size
      clear hb
      rw [HF.out]
      go_wp2_with fail
      refine (rows9_any _ L _ HL.out (by omega) HWD.out).mono ?_
      rintro e w3 ⟨u3, d3, rfl, hu3, hd3, hb⟩
      replace B := B.trans (hb.mono B.size)
      have hzw3 := B.size
      clear hb
      have HU := Lib.hid hu3
      have HDL := Lib.hid hd3
      obtain ⟨ua, uc, rfl⟩ := hu3.shape
      obtain ⟨da, dc, rfl⟩ := hd3.shape
      clear hu3 hd3
      go_wp2_with fail
      refine (HJ.out _ _ HU.out.list).mono ?_
      rintro e w4 ⟨rfl, hb⟩
      replace HU := Lib.hid (HU.out.go hb)
      replace B := B.trans (hb.mono B.size)
      have hzw4 := B.size
      clear hb
      go_wp2_with fail
      obtain ⟨hb, hk, hs⟩ := blocks1 w4 #[.int .i64 0, .int .i64 0] 30
      generalize w4.alloc (.cells #[.int .i64 0, .int .i64 0] 30) = W5 at *
      have K5 := Lib.hid hk
      replace HU := Lib.hid (HU.out.go hb)
      replace B := B.trans (hb.mono B.size)
      have hzW5 := B.size
      clear hb hk hs
      refine (HC.out _ _ HU.out.list).mono ?_
      rintro e w6 ⟨u6, rfl, hu6, hb⟩
      replace K5 := Lib.hid (K5.out.go hb)
      replace B := B.trans (hb.mono B.size)
      have hzw6 := B.size
      clear hb
      have HN6 := Lib.hid hu6
      obtain ⟨na, nc, rfl, _⟩ := hu6.shape
      clear hu6
      obtain ⟨k50, k51⟩ := K5.out.two
      have k5l := K5.out.lt
      go_upto_region 8 with fail
      obtain ⟨hb, hk, hs⟩ := blocks1 w6 #[.slice na (Wt.dg 0).length nc] 36
      generalize w6.alloc (.cells #[.slice na (Wt.dg 0).length nc] 36) = W7 at *
      have K7 := Lib.hid hk
      replace K5 := Lib.hid (K5.out.go hb)
      replace HN6 := Lib.hid (HN6.out.go hb)
      replace B := B.trans (hb.mono B.size)
      have hzW7 := B.size
      clear hb hk hs
      obtain ⟨k50, k51⟩ := K5.out.two
      have k5l := K5.out.lt
      have c7 := K7.out.cell 0
      go_wp2_with fail
      refine (natlen_any _ 0 _ zero_small HN6.out).mono ?_
      rintro e w8 ⟨rfl, hb⟩
      replace B := B.trans (hb.mono B.size)
      have hzw8 := B.size
      clear hb
      rw [len_zero]
      go_wp2_with fail
      go_ret
      exact ⟨rfl, B⟩

set_option maxHeartbeats 4000000 in
theorem solveJudges_unfit (k t : Nat) (v : Value) (L : List Rw) (w : World) (hL : IsRL w v L) (hf : few8 L = true) (hk1 : 1 ≤ k) (hk : k ≤ 20) (ht : t ≤ 20) (hff : L.all (fitB (k : Int) (t : Int)) = false) :
    Calls Try.prog 3 #[.int .i64 (k : Int), .int .i64 (t : Int), v] w fun e w' => e = .returned (.bool true) ∧ Below w.heap.size w w' := by
  have HL := Lib.hid hL
  have HL0 := Lib.hid hL
  obtain ⟨a, c, rfl⟩ := hL.shape
  have HF := Lib.hid hf
  have hlen := few8_len hf
  have HWD := Lib.hid (show ∀ j, j < L.length → (rwAt L j).1.length ≤ 10000000 ∧ (rwAt L j).2.length ≤ 10000000 from fun j hj => by have := few8_at hf hj; omega)
  have hno : newOk (k : Int) (t : Int) := by unfold newOk; omega
  have HJ := Lib.hid (fun (v : Value) (w : World) (h : IsRL w v L) => judge_size k t v L w h (by omega) hno hff)
  have HC := Lib.hid (fun (v : Value) (w : World) (h : IsRL w v L) => count_size k t v L w h (by omega) hno hff)
  have HFF := Lib.hid hff
  have m0 : ¬ (20 : Int) < (k : Int) := by omega
  have m1 : ¬ (20 : Int) < (t : Int) := by omega
  have m2 : ¬ (k : Int) < 1 := by omega
  have m3 : ¬ 4096 < (k : Int) := by omega
  have m4 : ¬ (t : Int) < 0 := by omega
  have m5 : ¬ 65535 < (t : Int) := by omega
  clear hL hf hno hff
  go_enter Try.func3, Try.ntmps3
  go_wp2_with fail
  have B : Below w.heap.size w w := Below.refl _ _
  refine (awake9_any _).mono ?_
  rintro e w1 ⟨rfl, hb⟩
  replace HL := Lib.hid (HL.out.go hb)
  replace B := B.trans (hb.mono B.size)
  have hzw1 := B.size
  clear hb
  go_wp2_with fail
  refine (few8_any _ L _ HL.out).mono ?_
  rintro e w2 ⟨rfl, hb⟩
  replace HL := Lib.hid (HL.out.go hb)
  replace B := B.trans (hb.mono B.size)
  have hzw2 := B.size
  clear hb
  rw [HF.out]
  go_wp2_with fail
  refine (rows9_any _ L _ HL.out (by omega) HWD.out).mono ?_
  rintro e w3 ⟨u3, d3, rfl, hu3, hd3, hb⟩
  replace B := B.trans (hb.mono B.size)
  have hzw3 := B.size
  clear hb
  have HU := Lib.hid hu3
  have HDL := Lib.hid hd3
  obtain ⟨ua, uc, rfl⟩ := hu3.shape
  obtain ⟨da, dc, rfl⟩ := hd3.shape
  clear hu3 hd3
  go_wp2_with fail
  refine (HJ.out _ _ HU.out.list).mono ?_
  rintro e w4 ⟨rfl, hb⟩
  replace HU := Lib.hid (HU.out.go hb)
  replace B := B.trans (hb.mono B.size)
  have hzw4 := B.size
  clear hb
  go_wp2_with fail
  obtain ⟨hb, hk, hs⟩ := blocks1 w4 #[.int .i64 0, .int .i64 0] 30
  generalize w4.alloc (.cells #[.int .i64 0, .int .i64 0] 30) = W5 at *
  have K5 := Lib.hid hk
  replace HU := Lib.hid (HU.out.go hb)
  replace B := B.trans (hb.mono B.size)
  have hzW5 := B.size
  clear hb hk hs
  refine (HC.out _ _ HU.out.list).mono ?_
  rintro e w6 ⟨u6, rfl, hu6, hb⟩
  replace K5 := Lib.hid (K5.out.go hb)
  replace B := B.trans (hb.mono B.size)
  have hzw6 := B.size
  clear hb
  have HN6 := Lib.hid hu6
  obtain ⟨na, nc, rfl, _⟩ := hu6.shape
  clear hu6
  obtain ⟨k50, k51⟩ := K5.out.two
  have k5l := K5.out.lt
  go_upto_region 8 with fail
  obtain ⟨g7, hg7⟩ : ∃ g : Nat, g = w6.heap.size := ⟨_, rfl⟩
  obtain ⟨g5, hg5⟩ : ∃ g : Nat, g = w4.heap.size := ⟨_, rfl⟩
  obtain ⟨hb, hk, hs⟩ := blocks1 w6 #[.slice na (Wt.dg 0).length nc] 36
  generalize w6.alloc (.cells #[.slice na (Wt.dg 0).length nc] 36) = W7 at *
  have K7 := Lib.hid hk
  replace K5 := Lib.hid (K5.out.go hb)
  replace HN6 := Lib.hid (HN6.out.go hb)
  replace B := B.trans (hb.mono B.size)
  have hzW7 := B.size
  clear hb hk hs
  rw [← hg7] at K7
  rw [← hg5] at K5
  simp only [← hg7, ← hg5]
  have HB7 := Lib.hid B
  clear hg7 hg5 k50 k51 k5l B
  go_wp2_with fail
  go_loopw [14, 90] (fun _ x wr => ∃ j : Nat, j ≤ L.length ∧ x = .int .i64 j ∧ Below W7.heap.size W7 wr ∧ ∀ i, i < j → fitB (k : Int) (t : Int) (rwAt L i) = true) (fun _ x _ => L.length - (intOf x).toNat)
  case atStart => exact ⟨0, by omega, rfl, Below.refl _ _, fun i hi => by omega⟩
  case round =>
    obtain ⟨j, hj, rfl, hb, hno⟩ := hrel
    have HNO := Lib.hid hno
    have B := HB7.out.trans (hb.mono HB7.out.size)
    have HBW := Lib.hid hb
    clear hno hb
    by_cases hjl : j < L.length
    · obtain ⟨b, off, c', er, hbl⟩ := HL0.out.addr (by omega)
      simp only [Value.slice.injEq] at er
      obtain ⟨rfl, -, rfl⟩ := er
      obtain ⟨x0, y0, hx0, hy0, hxb, hyb⟩ := (HL0.out.go B).cells j hjl
      obtain ⟨r, hr⟩ : ∃ r, r = rwAt L j := ⟨_, rfl⟩
      rw [← hr] at hxb hyb
      have HRR := Lib.hid hr
      obtain ⟨xa, xc, rfl, _⟩ := hxb
      obtain ⟨ya, yc, rfl, _⟩ := hyb
      have j1 : (j : Int) < (L.length : Int) := by omega
      have j0 : (0 : Int) ≤ (j : Int) := Int.natCast_nonneg _
      obtain ⟨m, hm⟩ : ∃ m, m = r.1.length := ⟨_, rfl⟩
      obtain ⟨n, hn⟩ : ∃ n, n = r.2.length := ⟨_, rfl⟩
      have HFB := Lib.hid (show fitB (k : Int) (t : Int) r = (decide ((m : Int) = (k : Int)) && decide ((n : Int) = (t : Int))) by unfold fitB; rw [hm, hn])
      rw [← hm] at hx0
      rw [← hn] at hy0
      clear hr hbl hm hn
      by_cases h1 : (m : Int) = (k : Int)
      · have b1 : ((m : Int) != (k : Int)) = false := by rw [h1]; simp
        by_cases h2 : (n : Int) = (t : Int)
        · have b2 : ((n : Int) != (t : Int)) = false := by rw [h2]; simp
          have HY := Lib.hid (show fitB (k : Int) (t : Int) (rwAt L j) = true by rw [← HRR.out, HFB.out]; simp [h1, h2])
          clear h1 h2 HFB HRR
          go_wp2_with fail
          have hb8 : Below W7.heap.size W7 (wr.alloc (.cells #[.slice xa m xc, .slice ya n yc] 42)) := HBW.out.alloc HBW.out.size _
          go_roundw
          case rel => exact ⟨j + 1, by omega, by go_num, hb8, fun i hi => by
            by_cases h : i = j
            · rw [h]; exact HY.out
            · exact HNO.out i (by omega)⟩
          case measure => simp [intOf]; omega
        · have b2 : ((n : Int) != (t : Int)) = true := by rw [bne_iff_ne]; exact h2
          clear h1 h2 HFB HRR
          replace K5 := Lib.hid (K5.out.go HBW.out)
          replace K7 := Lib.hid (K7.out.go HBW.out)
          replace HN6 := Lib.hid (HN6.out.go HBW.out)
          obtain ⟨k50, k51⟩ := K5.out.two
          have k5l := K5.out.lt
          have c7 := K7.out.cell 0
          have l7 := K7.out.lt
          go_wp2_with fail
          obtain ⟨hb, hk, hs⟩ := blocks1 wr #[.slice xa m xc, .slice ya n yc] 42
          generalize wr.alloc (.cells #[.slice xa m xc, .slice ya n yc] 42) = W9 at *
          have K9 := Lib.hid hk
          replace HN6 := Lib.hid (HN6.out.go hb)
          replace B := B.trans (hb.mono B.size)
          have hzW9 := B.size
          clear hb hk hs
          refine (natlen_any _ 0 _ zero_small HN6.out).mono ?_
          rintro e w8 ⟨rfl, hb⟩
          replace B := B.trans (hb.mono B.size)
          have hzw8 := B.size
          clear hb
          rw [len_zero]
          go_wp2_with fail
          go_ret
          exact ⟨rfl, B⟩
      · have b1 : ((m : Int) != (k : Int)) = true := by rw [bne_iff_ne]; exact h1
        clear h1 HFB HRR
        replace K5 := Lib.hid (K5.out.go HBW.out)
        replace K7 := Lib.hid (K7.out.go HBW.out)
        replace HN6 := Lib.hid (HN6.out.go HBW.out)
        obtain ⟨k50, k51⟩ := K5.out.two
        have k5l := K5.out.lt
        have c7 := K7.out.cell 0
        have l7 := K7.out.lt
        go_wp2_with fail
        obtain ⟨hb, hk, hs⟩ := blocks1 wr #[.slice xa m xc, .slice ya n yc] 42
        generalize wr.alloc (.cells #[.slice xa m xc, .slice ya n yc] 42) = W9 at *
        have K9 := Lib.hid hk
        replace HN6 := Lib.hid (HN6.out.go hb)
        replace B := B.trans (hb.mono B.size)
        have hzW9 := B.size
        clear hb hk hs
        refine (natlen_any _ 0 _ zero_small HN6.out).mono ?_
        rintro e w8 ⟨rfl, hb⟩
        replace B := B.trans (hb.mono B.size)
        have hzw8 := B.size
        clear hb
        rw [len_zero]
        go_wp2_with fail
        go_ret
        exact ⟨rfl, B⟩
    · exfalso
      have := all_true (p := fitB (k : Int) (t : Int)) (L := L) fun i hi => HNO.out i (by omega)
      rw [HFF.out] at this
      cases this

end Go.Proofs.Ytphdadibfeencaa

/-
  The laws of what equations say together (layer 9): SolveJudges, of equations that fit.
-/
set_option maxRecDepth 100000
namespace Go.Proofs.Ytphdadibfeencaa
open Go.RowKit


theorem val_unit (q : Nat) : Nt.val ((zeros (q + 1)).set q 1) = 256 ^ q := by
  have e : (zeros (q + 1)).set q 1 = zeros q ++ [1] := by
    unfold zeros
    rw [List.replicate_succ', List.set_append_right _ _ (by simp)]
    simp
  have hz : ∀ n, Nt.val (zeros n) = 0 := by
    intro n
    induction n with
    | zero => rfl
    | succ n ih => show 0 + 256 * Nt.val (zeros n) = 0; rw [ih]
  rw [e, Nt.val_append, hz, zeros_length]
  show 0 + 256 ^ q * (1 + 256 * 0) = _
  omega
set_option maxHeartbeats 4000000 in
theorem solveJudges_fit (k t : Nat) (v : Value) (L : List Rw) (w : World) (hL : IsRL w v L) (hf : few8 L = true) (hk1 : 1 ≤ k) (hk : k ≤ 20) (ht : t ≤ 20) (hff : L.all (fitB (k : Int) (t : Int)) = true) :
    Calls Try.prog 3 #[.int .i64 (k : Int), .int .i64 (t : Int), v] w fun e w' => e = .returned (.bool true) ∧ Below w.heap.size w w' := by
  have HL := Lib.hid hL
  have HL0 := Lib.hid hL
  obtain ⟨a, c, rfl⟩ := hL.shape
  have HF := Lib.hid hf
  have hlen := few8_len hf
  have HWD := Lib.hid (show ∀ j, j < L.length → (rwAt L j).1.length ≤ 10000000 ∧ (rwAt L j).2.length ≤ 10000000 from fun j hj => by have := few8_at hf hj; omega)
  have hno : newOk (k : Int) (t : Int) := by unfold newOk; omega
  have hD := hL.dims hff
  have HD := Lib.hid hD
  have hkt : t * k ≤ 4000 := Nat.le_trans (Nat.mul_le_mul ht hk) (by decide)
  have hje := judge_eq hD
  have hrk : rkV L ≤ k := by
    rw [← hje.2]
    have := (redOf_red hD L.length (Nat.le_refl _)).1
    rw [List.take_length] at this
    rw [red_rank1 this]; exact La.rk_le _ _
  have hN : countN k t L = if 0 ≤ clashI L then 0 else 256 ^ (t * (k - rkV L)) := by unfold countN; rw [hje.1, hje.2]
  have HJ := Lib.hid (fun (v : Value) (w : World) (h : IsRL w v L) => judge_yes k t v L w h (by omega) hno hD)
  have HC := Lib.hid (fun (v : Value) (w : World) (h : IsRL w v L) => count_yes k t v L w h (by omega) hno hD hkt)
  have HRJ := Lib.hid (fun (v : Value) (w : World) (h : IsRL w v L) => refjudge_any v L k t w h hD (by omega) (by omega) (by omega))
  rw [hje.1, hje.2] at HJ
  obtain ⟨N, hN0⟩ : ∃ N, N = countN k t L := ⟨_, rfl⟩
  obtain ⟨rk, hrk0⟩ : ∃ r, r = rkV L := ⟨_, rfl⟩
  obtain ⟨f, hf0⟩ : ∃ f, f = clashI L := ⟨_, rfl⟩
  rw [← hN0] at HC hN
  rw [← hrk0, ← hf0] at HJ HRJ hN
  rw [← hrk0] at hrk
  have HNN := Lib.hid hN
  have hsm : (Wt.dg N).length ≤ 100000 := by
    rw [hN]; split
    · exact zero_small
    · exact words_small (pow256 (n := t * k) hkt (Nat.mul_le_mul_left t (by omega)))
  have HSM := Lib.hid hsm
  have HFF := Lib.hid hff
  have m0 : ¬ (20 : Int) < (k : Int) := by omega
  have m1 : ¬ (20 : Int) < (t : Int) := by omega
  have m2 : ¬ (k : Int) < 1 := by omega
  have m3 : ¬ 4096 < (k : Int) := by omega
  have m4 : ¬ (t : Int) < 0 := by omega
  have m5 : ¬ 65535 < (t : Int) := by omega
  clear hL hf hno hff hD hje hN hN0 hrk0 hf0 hsm
  obtain ⟨ml, hml⟩ : ∃ ml, ml = (Wt.dg N).length := ⟨_, rfl⟩
  go_enter Try.func3, Try.ntmps3
  go_wp2_with fail
  have B : Below w.heap.size w w := Below.refl _ _
  refine (awake9_any _).mono ?_
  rintro e w1 ⟨rfl, hb⟩
  replace HL := Lib.hid (HL.out.go hb)
  replace B := B.trans (hb.mono B.size)
  have hzw1 := B.size
  clear hb
  go_wp2_with fail
  refine (few8_any _ L _ HL.out).mono ?_
  rintro e w2 ⟨rfl, hb⟩
  replace HL := Lib.hid (HL.out.go hb)
  replace B := B.trans (hb.mono B.size)
  have hzw2 := B.size
  clear hb
  rw [HF.out]
  go_wp2_with fail
  refine (rows9_any _ L _ HL.out (by omega) HWD.out).mono ?_
  rintro e w3 ⟨u3, d3, rfl, hu3, hd3, hb⟩
  replace B := B.trans (hb.mono B.size)
  have hzw3 := B.size
  clear hb
  have HU := Lib.hid hu3
  have HDL := Lib.hid hd3
  obtain ⟨ua, uc, rfl⟩ := hu3.shape
  obtain ⟨da, dc, rfl⟩ := hd3.shape
  clear hu3 hd3
  go_wp2_with fail
  refine (HJ.out _ _ HU.out.list).mono ?_
  rintro e w4 ⟨rfl, hb⟩
  replace HU := Lib.hid (HU.out.go hb)
  replace HDL := Lib.hid (HDL.out.go hb)
  replace B := B.trans (hb.mono B.size)
  have hzw4 := B.size
  clear hb
  go_wp2_with fail
  obtain ⟨hb, hk, hs⟩ := blocks1 w4 #[.int .i64 (rk : Int), .int .i64 f] 30
  generalize w4.alloc (.cells #[.int .i64 (rk : Int), .int .i64 f] 30) = W5 at *
  have K5 := Lib.hid hk
  replace HU := Lib.hid (HU.out.go hb)
  replace HDL := Lib.hid (HDL.out.go hb)
  replace B := B.trans (hb.mono B.size)
  have hzW5 := B.size
  clear hb hk hs
  refine (HC.out _ _ HU.out.list).mono ?_
  rintro e w6 ⟨u6, rfl, hu6, hb⟩
  replace K5 := Lib.hid (K5.out.go hb)
  replace HDL := Lib.hid (HDL.out.go hb)
  replace B := B.trans (hb.mono B.size)
  have hzw6 := B.size
  clear hb
  have HN6 := Lib.hid hu6
  obtain ⟨na, nc, rfl, _⟩ := hu6.shape
  rw [← hml] at HN6
  simp only [← hml]
  clear hu6 hml
  obtain ⟨k50, k51⟩ := K5.out.two
  have k5l := K5.out.lt
  go_upto_region 8 with fail
  obtain ⟨g7, hg7⟩ : ∃ g : Nat, g = w6.heap.size := ⟨_, rfl⟩
  obtain ⟨g5, hg5⟩ : ∃ g : Nat, g = w4.heap.size := ⟨_, rfl⟩
  obtain ⟨hb, hk, hs⟩ := blocks1 w6 #[.slice na ml nc] 36
  generalize w6.alloc (.cells #[.slice na ml nc] 36) = W7 at *
  have K7 := Lib.hid hk
  replace K5 := Lib.hid (K5.out.go hb)
  replace HN6 := Lib.hid (HN6.out.go hb)
  replace HDL := Lib.hid (HDL.out.go hb)
  replace B := B.trans (hb.mono B.size)
  have hzW7 := B.size
  clear hb hk hs
  rw [← hg7] at K7
  rw [← hg5] at K5
  simp only [← hg7, ← hg5]
  have HB7 := Lib.hid B
  clear hg7 hg5 k50 k51 k5l B
  go_wp2_with fail
  go_loopw [14, 90] (fun _ x wr => ∃ j : Nat, j ≤ L.length ∧ x = .int .i64 j ∧ Below W7.heap.size W7 wr ∧ ∀ i, i < j → fitB (k : Int) (t : Int) (rwAt L i) = true) (fun _ x _ => L.length - (intOf x).toNat)
  case atStart => exact ⟨0, by omega, rfl, Below.refl _ _, fun i hi => by omega⟩
  case round =>
    obtain ⟨j, hj, rfl, hb, hno⟩ := hrel
    have HNO := Lib.hid hno
    have B := HB7.out.trans (hb.mono HB7.out.size)
    have HBW := Lib.hid hb
    clear hno hb
    by_cases hjl : j < L.length
    · obtain ⟨b, off, c', er, hbl⟩ := HL0.out.addr (by omega)
      simp only [Value.slice.injEq] at er
      obtain ⟨rfl, -, rfl⟩ := er
      obtain ⟨x0, y0, hx0, hy0, hxb, hyb⟩ := (HL0.out.go B).cells j hjl
      obtain ⟨r, hr⟩ : ∃ r, r = rwAt L j := ⟨_, rfl⟩
      rw [← hr] at hxb hyb
      have HRR := Lib.hid hr
      obtain ⟨xa, xc, rfl, _⟩ := hxb
      obtain ⟨ya, yc, rfl, _⟩ := hyb
      have j1 : (j : Int) < (L.length : Int) := by omega
      have j0 : (0 : Int) ≤ (j : Int) := Int.natCast_nonneg _
      obtain ⟨m, hm⟩ : ∃ m, m = r.1.length := ⟨_, rfl⟩
      obtain ⟨n, hn⟩ : ∃ n, n = r.2.length := ⟨_, rfl⟩
      have HFB := Lib.hid (show fitB (k : Int) (t : Int) r = (decide ((m : Int) = (k : Int)) && decide ((n : Int) = (t : Int))) by unfold fitB; rw [hm, hn])
      rw [← hm] at hx0
      rw [← hn] at hy0
      clear hr hbl hm hn
      by_cases h1 : (m : Int) = (k : Int)
      · have b1 : ((m : Int) != (k : Int)) = false := by rw [h1]; simp
        by_cases h2 : (n : Int) = (t : Int)
        · have b2 : ((n : Int) != (t : Int)) = false := by rw [h2]; simp
          have HY := Lib.hid (show fitB (k : Int) (t : Int) (rwAt L j) = true by rw [← HRR.out, HFB.out]; simp [h1, h2])
          clear h1 h2 HFB HRR
          go_wp2_with fail
          have hb8 : Below W7.heap.size W7 (wr.alloc (.cells #[.slice xa m xc, .slice ya n yc] 42)) := HBW.out.alloc HBW.out.size _
          go_roundw
          case rel => exact ⟨j + 1, by omega, by go_num, hb8, fun i hi => by
            by_cases h : i = j
            · rw [h]; exact HY.out
            · exact HNO.out i (by omega)⟩
          case measure => simp [intOf]; omega
        · exfalso
          have h3 := HFF.out
          rw [List.all_eq_true] at h3
          have h4 := h3 _ (rwAt_mem hjl)
          rw [← HRR.out, HFB.out] at h4
          simp [h2] at h4
      · exfalso
        have h3 := HFF.out
        rw [List.all_eq_true] at h3
        have h4 := h3 _ (rwAt_mem hjl)
        rw [← HRR.out, HFB.out] at h4
        simp [h1] at h4
    · obtain rfl : j = L.length := by omega
      replace K5 := Lib.hid (K5.out.go HBW.out)
      replace K7 := Lib.hid (K7.out.go HBW.out)
      replace HN6 := Lib.hid (HN6.out.go HBW.out)
      replace HDL := Lib.hid (HDL.out.go HBW.out)
      by_cases h0 : 0 ≤ f
      · have HZ := Lib.hid (show N = 0 by rw [HNN.out, if_pos h0])
        go_wp2_with fail
        refine (HRJ.out _ _ HDL.out.list).mono ?_
        rintro e w10 ⟨rfl, hb⟩
        replace K5 := Lib.hid (K5.out.go hb)
        replace K7 := Lib.hid (K7.out.go hb)
        replace HN6 := Lib.hid (HN6.out.go hb)
        replace B := B.trans (hb.mono B.size)
        have hzw10 := B.size
        clear hb
        obtain ⟨k50, k51⟩ := K5.out.two
        have k5l := K5.out.lt
        have c7 := K7.out.cell 0
        go_wp2_with fail
        refine (natlen_any _ N _ HSM.out HN6.out).mono ?_
        rintro e w8 ⟨rfl, hb⟩
        replace B := B.trans (hb.mono B.size)
        have hzw8 := B.size
        clear hb
        rw [HZ.out, len_zero]
        go_wp2_with fail
        go_ret
        exact ⟨rfl, B⟩
      · obtain ⟨m, hm⟩ : ∃ m, m = k - rk := ⟨_, rfl⟩
        have hm2 : (k : Int) - (rk : Int) = (m : Int) := by omega
        obtain ⟨q, hq⟩ : ∃ q, q = t * m := ⟨_, rfl⟩
        have hq2 : (t : Int) * (m : Int) = (q : Int) := by rw [hq]; simp
        have hq3 : q ≤ 400 := by rw [hq]; exact Nat.le_trans (Nat.mul_le_mul ht (by omega : m ≤ 20)) (by decide)
        have HZ := Lib.hid (show N = 256 ^ q by rw [HNN.out, if_neg h0, hq, hm])
        obtain ⟨p, hp⟩ : ∃ p, p = q + 1 := ⟨_, rfl⟩
        have hp2 : (q : Int) + 1 = (p : Int) := by omega
        have hp3 : (p : Int) - 1 = (q : Int) := by omega
        have hmm : m ≤ 20 := by omega
        have HP := Lib.hid hp
        have hql : (q : Int) < (p : Int) := by omega
        have hmk := make_bytes p (by omega)
        clear hm hq hp
        go_wp2_with fail
        refine (HRJ.out _ _ HDL.out.list).mono ?_
        rintro e w10 ⟨rfl, hb⟩
        replace K5 := Lib.hid (K5.out.go hb)
        replace K7 := Lib.hid (K7.out.go hb)
        replace HN6 := Lib.hid (HN6.out.go hb)
        replace B := B.trans (hb.mono B.size)
        have hzw10 := B.size
        clear hb
        obtain ⟨k50, k51⟩ := K5.out.two
        have k5l := K5.out.lt
        have c7 := K7.out.cell 0
        have l7 := K7.out.lt
        have hO := Own.new w10 (zeros p)
        have hfz := hO.free q
        have hl : q < (zeros p).length := by rw [zeros_length]; have := HP.out; omega
        have hc := hO.cell q hl
        have hO2 := hO.set q 1
        have HO := Lib.hid hO2
        have hb2 : Below w10.heap.size w10 ((w10.alloc (bytesObj (zeros p))).setCell ⟨w10.heap.size, q, none⟩ (.int .u8 1)) := ((Below.refl w10.heap.size w10).alloc (Nat.le_refl _) (bytesObj (zeros p))).setCell (p := ⟨w10.heap.size, q, none⟩) (Nat.le_refl _) (.int .u8 1)
        have HB2 := Lib.hid hb2
        clear hO hl hO2 hb2
        unfold zeros at hc hfz
        go_wp2_with fail
        have HBY := Lib.hid (Own.bytes HO.out (fun x hx => by
          rcases List.mem_or_eq_of_mem_set hx with h | h
          · exact zeros_lt p x h
          · omega) (by simp [zeros]; have := HP.out; omega))
        rw [show ((zeros p).set q 1).length = p from by simp [zeros]] at HBY
        refine (is_any _ _ N ((zeros p).set q 1) _ HSM.out (by rw [show ((zeros p).set q 1).length = p from by simp [zeros]]; have := HP.out; omega) (HN6.out.go HB2.out) HBY.out).mono ?_
        rintro e w12 ⟨rfl, hb12⟩
        have HB12 := Lib.hid (B.trans ((HB2.out.trans (hb12.mono HB2.out.size)).mono B.size))
        rw [show decide (N = Nt.val ((zeros p).set q 1)) = true by rw [decide_eq_true_eq, HZ.out, HP.out, val_unit]]
        clear hb12 hc hfz
        go_wp2_with fail
        go_ret
        exact ⟨rfl, HB12.out⟩

theorem solveJudges_walk (k t : Int) (v : Value) (L : List Rw) (w : World) (_k0 : -9223372036854775808 ≤ k) (_k1 : k ≤ 9223372036854775807) (_t0 : -9223372036854775808 ≤ t) (_t1 : t ≤ 9223372036854775807) (hL : IsRL w v L) :
    Calls Try.prog 3 #[.int .i64 k, .int .i64 t, v] w fun e w' => e = .returned (.bool true) ∧ Below w.heap.size w w' := by
  cases hf : few8 L with
  | false => exact solveJudges_out k t v L w hL (.inl hf)
  | true =>
    by_cases h1 : 20 < k ∧ k ≤ 4096
    · exact solveJudges_out k t v L w hL (.inr (.inl ⟨hf, h1⟩))
    · by_cases h2 : 20 < t ∧ t ≤ 65535
      · exact solveJudges_out k t v L w hL (.inr (.inr ⟨hf, by omega, h2⟩))
      · by_cases h3 : 1 ≤ k ∧ k ≤ 20 ∧ 0 ≤ t ∧ t ≤ 20
        · obtain ⟨h4, h5, h6, h7⟩ := h3
          obtain ⟨k', rfl⟩ : ∃ k' : Nat, k = k' := ⟨k.toNat, by omega⟩
          obtain ⟨t', rfl⟩ : ∃ t' : Nat, t = t' := ⟨t.toNat, by omega⟩
          cases hff : L.all (fitB (k' : Int) (t' : Int)) with
          | false => exact solveJudges_unfit k' t' v L w hL hf (by omega) (by omega) (by omega) hff
          | true => exact solveJudges_fit k' t' v L w hL hf (by omega) (by omega) (by omega) hff
        · exact solveJudges_bad k t v L w hL hf (by omega) (by omega)

end Go.Proofs.Ytphdadibfeencaa
