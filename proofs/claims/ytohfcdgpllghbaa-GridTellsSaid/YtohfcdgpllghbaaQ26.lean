/- Texts of one seat, laid together: LawSevenC. -/
import Derived.Test.YtohfcdgpllghbaaQ25

/-
  The laws of grids (layer 7), walked: GridTells.
-/
set_option maxRecDepth 100000
namespace Go.Proofs.Ytohfcdgpllghbaa
open Go.RowKit

theorem few7_true {ll : List (List Nat)} (h : few7 ll = true) : ll.length ≤ 30 ∧ ∀ j, j < ll.length → (rowAt ll j).length ≤ 30 := by
  unfold few7 at h
  rw [Bool.and_eq_true, List.all_eq_true, decide_eq_true_eq] at h
  exact ⟨h.2, fun j hj => by
    have := h.1 _ (show rowAt ll j ∈ ll by rw [rowAt_eq ll j hj]; exact List.getElem_mem hj)
    simpa using this⟩

set_option maxHeartbeats 2000000 in
theorem gridTells_out (v : Value) (m n : Int) (ll : List (List Nat)) (w : World) (hR : IsRows w v ll) (hf : few7 ll = false) :
    Calls Try.prog 3 #[.int .i64 m, v, .int .i64 n] w fun e w' => e = .returned (.bool true) ∧ Below w.heap.size w w' := by
  have HR := Lib.hid hR
  have HF := Lib.hid hf
  clear hf
  obtain ⟨a, c, rfl⟩ := hR.shape
  clear hR
  go_enter Try.func3, Try.ntmps3
  go_wp2_with fail
  have B : Below w.heap.size w w := Below.refl _ _
  refine (awake7_any _).mono ?_
  rintro e w1 ⟨rfl, hb⟩
  replace HR := Lib.hid (HR.out.go hb)
  replace B := B.trans (hb.mono B.size)
  have hzw1 := B.size
  clear hb
  go_wp2_with fail
  refine (few7_any _ ll _ HR.out).mono ?_
  rintro e w2 ⟨rfl, hb⟩
  replace B := B.trans (hb.mono B.size)
  have hzw2 := B.size
  clear hb
  rw [HF.out]
  go_wp2_with fail
  go_ret
  exact ⟨rfl, B⟩
set_option maxHeartbeats 2000000 in
theorem gridTells_wide (v : Value) (m n : Int) (ll : List (List Nat)) (w : World) (hR : IsRows w v ll) (hf : few7 ll = true) (h0 : 40 < n) (h1 : n ≤ 256) :
    Calls Try.prog 3 #[.int .i64 m, v, .int .i64 n] w fun e w' => e = .returned (.bool true) ∧ Below w.heap.size w w' := by
  have HR := Lib.hid hR
  have HF := Lib.hid hf
  clear hf
  obtain ⟨a, c, rfl⟩ := hR.shape
  clear hR
  go_enter Try.func3, Try.ntmps3
  go_wp2_with fail
  have B : Below w.heap.size w w := Below.refl _ _
  refine (awake7_any _).mono ?_
  rintro e w1 ⟨rfl, hb⟩
  replace HR := Lib.hid (HR.out.go hb)
  replace B := B.trans (hb.mono B.size)
  have hzw1 := B.size
  clear hb
  go_wp2_with fail
  refine (few7_any _ ll _ HR.out).mono ?_
  rintro e w2 ⟨rfl, hb⟩
  replace B := B.trans (hb.mono B.size)
  have hzw2 := B.size
  clear hb
  rw [HF.out]
  go_wp2_with fail
  go_ret
  exact ⟨rfl, B⟩

set_option maxHeartbeats 8000000 in
theorem gridTells_two (v : Value) (m n : Int) (ll : List (List Nat)) (w : World) (hR : IsRows w v ll) (hf : few7 ll = true) (hn : n < 0 ∨ 256 < n) :
    Calls Try.prog 3 #[.int .i64 m, v, .int .i64 n] w fun e w' => e = .returned (.bool true) ∧ Below w.heap.size w w' := by
  have HR := Lib.hid hR
  have HF := Lib.hid hf
  obtain ⟨hl30, hw30⟩ := few7_true hf
  have HW := Lib.hid (show ∀ j, j < ll.length → (rowAt ll j).length ≤ 1000000000 from fun j hj => by have := hw30 j hj; omega)
  clear hf hw30
  obtain ⟨a, c, rfl⟩ := hR.shape
  clear hR
  have HUM := Lib.hid (show unitM n = 0 from if_pos hn)
  have HUL := Lib.hid (show unitR n = [] from if_pos hn)
  have HUC := Lib.hid (show unitC n = 2 from if_pos hn)
  obtain ⟨E, hE⟩ : ∃ E, ofE m ll = E := ⟨_, rfl⟩
  have HEQ := Lib.hid hE
  by_cases h0 : E = 0
  · have HM := Lib.hid (show ofM m ll = m from if_pos (hE.trans h0))
    have HL := Lib.hid (show ofL m ll = ll from if_pos (hE.trans h0))
    have hmm : (m != m) = false := by simp
    have hlnn : ((ll.length : Int) != (ll.length : Int)) = false := by simp
    clear hE
    subst h0
    rcases hn with hn | hn
    · have hn4 : ¬ 40 < n := by omega
      go_enter Try.func3, Try.ntmps3
      go_wp2_with fail
      have B : Below w.heap.size w w := Below.refl _ _
      refine (awake7_any _).mono ?_
      rintro e w1 ⟨rfl, hb⟩
      replace HR := Lib.hid (HR.out.go hb)
      replace B := B.trans (hb.mono B.size)
      have hzw1 := B.size
      clear hb
      go_wp2_with fail
      refine (few7_any _ ll _ HR.out).mono ?_
      rintro e w2 ⟨rfl, hb⟩
      replace HR := Lib.hid (HR.out.go hb)
      replace B := B.trans (hb.mono B.size)
      have hzw2 := B.size
      clear hb
      rw [HF.out]
      go_wp2_with fail
      refine (gof_any _ m ll _ HR.out (by omega)).mono ?_
      rintro e w3 ⟨u3, rfl, hu3, hb⟩
      replace HR := Lib.hid (HR.out.go hb)
      replace B := B.trans (hb.mono B.size)
      have hzw3 := B.size
      clear hb
      rw [HEQ.out]
      rw [HM.out, HL.out] at hu3
      obtain ⟨v3, rfl, hq3⟩ := hu3
      obtain ⟨a3, c3, rfl⟩ := hq3.shape
      have HQ3 := Lib.hid hq3.rows
      clear hq3
      go_wp2_with fail
      obtain ⟨hb, hk, hs⟩ := blocks1 w3 #[.int .i64 m, .slice a3 (ll).length c3] 26
      generalize w3.alloc (.cells #[.int .i64 m, .slice a3 (ll).length c3] 26) = W4 at *
      have K7 := Lib.hid hk
      replace HR := Lib.hid (HR.out.go hb)
      replace HQ3 := Lib.hid (HQ3.out.go hb)
      replace B := B.trans (hb.mono B.size)
      have hzW4 := B.size
      clear hb hk hs
      refine (gunit_any n _).mono ?_
      rintro e w5 ⟨u5, rfl, hu5, hb⟩
      replace HR := Lib.hid (HR.out.go hb)
      replace HQ3 := Lib.hid (HQ3.out.go hb)
      replace K7 := Lib.hid (K7.out.go hb)
      replace B := B.trans (hb.mono B.size)
      have hzw5 := B.size
      clear hb
      rw [HUM.out, HUL.out] at hu5
      rw [HUC.out]
      obtain ⟨v5, rfl, hq5⟩ := hu5
      obtain ⟨a5, c5, rfl⟩ := hq5.shape
      have HQ5 := Lib.hid hq5.rows
      clear hq5
      go_wp2_with fail
      obtain ⟨hb, hk, hs⟩ := blocks1 w5 #[.int .i64 0, .slice a5 (([] : List (List Nat))).length c5] 26
      generalize w5.alloc (.cells #[.int .i64 0, .slice a5 (([] : List (List Nat))).length c5] 26) = W6 at *
      have K9 := Lib.hid hk
      replace HR := Lib.hid (HR.out.go hb)
      replace HQ3 := Lib.hid (HQ3.out.go hb)
      replace HQ5 := Lib.hid (HQ5.out.go hb)
      replace K7 := Lib.hid (K7.out.go hb)
      replace B := B.trans (hb.mono B.size)
      have hzW6 := B.size
      clear hb hk hs
      refine (refof7_any _ m ll _ HR.out (by omega)).mono ?_
      rintro e w7 ⟨rfl, hb⟩
      replace HR := Lib.hid (HR.out.go hb)
      replace HQ3 := Lib.hid (HQ3.out.go hb)
      replace HQ5 := Lib.hid (HQ5.out.go hb)
      replace K7 := Lib.hid (K7.out.go hb)
      replace K9 := Lib.hid (K9.out.go hb)
      replace B := B.trans (hb.mono B.size)
      have hzw7 := B.size
      clear hb
      rw [HEQ.out]
      obtain ⟨k70, k71⟩ := K7.out.two
      have k7l := K7.out.lt
      obtain ⟨k90, k91⟩ := K9.out.two
      have k9l := K9.out.lt
      go_wp2_with fail
      refine (width_any _ m ll _ ⟨a3, c3, rfl, HQ3.out⟩).mono ?_
      rintro e w8 ⟨rfl, hb⟩
      replace HR := Lib.hid (HR.out.go hb)
      replace HQ3 := Lib.hid (HQ3.out.go hb)
      replace HQ5 := Lib.hid (HQ5.out.go hb)
      replace K7 := Lib.hid (K7.out.go hb)
      replace K9 := Lib.hid (K9.out.go hb)
      replace B := B.trans (hb.mono B.size)
      have hzw8 := B.size
      clear hb
      obtain ⟨k70, k71⟩ := K7.out.two
      have k7l := K7.out.lt
      obtain ⟨k90, k91⟩ := K9.out.two
      have k9l := K9.out.lt
      go_wp2_with fail
      refine (height_any _ m ll _ ⟨a3, c3, rfl, HQ3.out⟩).mono ?_
      rintro e w9 ⟨rfl, hb⟩
      replace HR := Lib.hid (HR.out.go hb)
      replace HQ3 := Lib.hid (HQ3.out.go hb)
      replace HQ5 := Lib.hid (HQ5.out.go hb)
      replace K7 := Lib.hid (K7.out.go hb)
      replace K9 := Lib.hid (K9.out.go hb)
      replace B := B.trans (hb.mono B.size)
      have hzw9 := B.size
      clear hb
      obtain ⟨k70, k71⟩ := K7.out.two
      have k7l := K7.out.lt
      obtain ⟨k90, k91⟩ := K9.out.two
      have k9l := K9.out.lt
      go_wp2_with fail
      refine (gridrows_any _ m ll _ ⟨a3, c3, rfl, HQ3.out⟩ (by omega) HW.out).mono ?_
      rintro e w10 ⟨v10, rfl, hv10, hb⟩
      replace HR := Lib.hid (HR.out.go hb)
      replace HQ3 := Lib.hid (HQ3.out.go hb)
      replace HQ5 := Lib.hid (HQ5.out.go hb)
      replace K7 := Lib.hid (K7.out.go hb)
      replace K9 := Lib.hid (K9.out.go hb)
      replace B := B.trans (hb.mono B.size)
      have hzw10 := B.size
      clear hb
      obtain ⟨aa, ca, rfl⟩ := hv10.shape
      have HV10 := Lib.hid hv10.rows
      clear hv10
      go_wp2_with fail
      refine (refsame7_any _ _ ll ll _ HV10.out HR.out (by omega)).mono ?_
      rintro e w11 ⟨rfl, hb⟩
      replace HR := Lib.hid (HR.out.go hb)
      replace HQ3 := Lib.hid (HQ3.out.go hb)
      replace HQ5 := Lib.hid (HQ5.out.go hb)
      replace K7 := Lib.hid (K7.out.go hb)
      replace K9 := Lib.hid (K9.out.go hb)
      replace B := B.trans (hb.mono B.size)
      have hzw11 := B.size
      clear hb
      rw [decide_eq_true (rfl : ll = ll)]
      clear HV10
      obtain ⟨k70, k71⟩ := K7.out.two
      have k7l := K7.out.lt
      obtain ⟨k90, k91⟩ := K9.out.two
      have k9l := K9.out.lt
      go_wp2_with fail
      refine (height_any _ 0 [] _ ⟨a5, c5, rfl, HQ5.out⟩).mono ?_
      rintro e w12 ⟨rfl, hb⟩
      replace B := B.trans (hb.mono B.size)
      have hzw12 := B.size
      clear hb
      go_wp2_with fail
      go_ret
      exact ⟨rfl, B⟩
    · have hn4 : 40 < n := by omega
      have hn5 : ¬ n ≤ 256 := by omega
      have hn6 : ¬ n < 0 := by omega
      go_enter Try.func3, Try.ntmps3
      go_wp2_with fail
      have B : Below w.heap.size w w := Below.refl _ _
      refine (awake7_any _).mono ?_
      rintro e w1 ⟨rfl, hb⟩
      replace HR := Lib.hid (HR.out.go hb)
      replace B := B.trans (hb.mono B.size)
      have hzw1 := B.size
      clear hb
      go_wp2_with fail
      refine (few7_any _ ll _ HR.out).mono ?_
      rintro e w2 ⟨rfl, hb⟩
      replace HR := Lib.hid (HR.out.go hb)
      replace B := B.trans (hb.mono B.size)
      have hzw2 := B.size
      clear hb
      rw [HF.out]
      go_wp2_with fail
      refine (gof_any _ m ll _ HR.out (by omega)).mono ?_
      rintro e w3 ⟨u3, rfl, hu3, hb⟩
      replace HR := Lib.hid (HR.out.go hb)
      replace B := B.trans (hb.mono B.size)
      have hzw3 := B.size
      clear hb
      rw [HEQ.out]
      rw [HM.out, HL.out] at hu3
      obtain ⟨v3, rfl, hq3⟩ := hu3
      obtain ⟨a3, c3, rfl⟩ := hq3.shape
      have HQ3 := Lib.hid hq3.rows
      clear hq3
      go_wp2_with fail
      obtain ⟨hb, hk, hs⟩ := blocks1 w3 #[.int .i64 m, .slice a3 (ll).length c3] 26
      generalize w3.alloc (.cells #[.int .i64 m, .slice a3 (ll).length c3] 26) = W4 at *
      have K7 := Lib.hid hk
      replace HR := Lib.hid (HR.out.go hb)
      replace HQ3 := Lib.hid (HQ3.out.go hb)
      replace B := B.trans (hb.mono B.size)
      have hzW4 := B.size
      clear hb hk hs
      refine (gunit_any n _).mono ?_
      rintro e w5 ⟨u5, rfl, hu5, hb⟩
      replace HR := Lib.hid (HR.out.go hb)
      replace HQ3 := Lib.hid (HQ3.out.go hb)
      replace K7 := Lib.hid (K7.out.go hb)
      replace B := B.trans (hb.mono B.size)
      have hzw5 := B.size
      clear hb
      rw [HUM.out, HUL.out] at hu5
      rw [HUC.out]
      obtain ⟨v5, rfl, hq5⟩ := hu5
      obtain ⟨a5, c5, rfl⟩ := hq5.shape
      have HQ5 := Lib.hid hq5.rows
      clear hq5
      go_wp2_with fail
      obtain ⟨hb, hk, hs⟩ := blocks1 w5 #[.int .i64 0, .slice a5 (([] : List (List Nat))).length c5] 26
      generalize w5.alloc (.cells #[.int .i64 0, .slice a5 (([] : List (List Nat))).length c5] 26) = W6 at *
      have K9 := Lib.hid hk
      replace HR := Lib.hid (HR.out.go hb)
      replace HQ3 := Lib.hid (HQ3.out.go hb)
      replace HQ5 := Lib.hid (HQ5.out.go hb)
      replace K7 := Lib.hid (K7.out.go hb)
      replace B := B.trans (hb.mono B.size)
      have hzW6 := B.size
      clear hb hk hs
      refine (refof7_any _ m ll _ HR.out (by omega)).mono ?_
      rintro e w7 ⟨rfl, hb⟩
      replace HR := Lib.hid (HR.out.go hb)
      replace HQ3 := Lib.hid (HQ3.out.go hb)
      replace HQ5 := Lib.hid (HQ5.out.go hb)
      replace K7 := Lib.hid (K7.out.go hb)
      replace K9 := Lib.hid (K9.out.go hb)
      replace B := B.trans (hb.mono B.size)
      have hzw7 := B.size
      clear hb
      rw [HEQ.out]
      obtain ⟨k70, k71⟩ := K7.out.two
      have k7l := K7.out.lt
      obtain ⟨k90, k91⟩ := K9.out.two
      have k9l := K9.out.lt
      go_wp2_with fail
      refine (width_any _ m ll _ ⟨a3, c3, rfl, HQ3.out⟩).mono ?_
      rintro e w8 ⟨rfl, hb⟩
      replace HR := Lib.hid (HR.out.go hb)
      replace HQ3 := Lib.hid (HQ3.out.go hb)
      replace HQ5 := Lib.hid (HQ5.out.go hb)
      replace K7 := Lib.hid (K7.out.go hb)
      replace K9 := Lib.hid (K9.out.go hb)
      replace B := B.trans (hb.mono B.size)
      have hzw8 := B.size
      clear hb
      obtain ⟨k70, k71⟩ := K7.out.two
      have k7l := K7.out.lt
      obtain ⟨k90, k91⟩ := K9.out.two
      have k9l := K9.out.lt
      go_wp2_with fail
      refine (height_any _ m ll _ ⟨a3, c3, rfl, HQ3.out⟩).mono ?_
      rintro e w9 ⟨rfl, hb⟩
      replace HR := Lib.hid (HR.out.go hb)
      replace HQ3 := Lib.hid (HQ3.out.go hb)
      replace HQ5 := Lib.hid (HQ5.out.go hb)
      replace K7 := Lib.hid (K7.out.go hb)
      replace K9 := Lib.hid (K9.out.go hb)
      replace B := B.trans (hb.mono B.size)
      have hzw9 := B.size
      clear hb
      obtain ⟨k70, k71⟩ := K7.out.two
      have k7l := K7.out.lt
      obtain ⟨k90, k91⟩ := K9.out.two
      have k9l := K9.out.lt
      go_wp2_with fail
      refine (gridrows_any _ m ll _ ⟨a3, c3, rfl, HQ3.out⟩ (by omega) HW.out).mono ?_
      rintro e w10 ⟨v10, rfl, hv10, hb⟩
      replace HR := Lib.hid (HR.out.go hb)
      replace HQ3 := Lib.hid (HQ3.out.go hb)
      replace HQ5 := Lib.hid (HQ5.out.go hb)
      replace K7 := Lib.hid (K7.out.go hb)
      replace K9 := Lib.hid (K9.out.go hb)
      replace B := B.trans (hb.mono B.size)
      have hzw10 := B.size
      clear hb
      obtain ⟨aa, ca, rfl⟩ := hv10.shape
      have HV10 := Lib.hid hv10.rows
      clear hv10
      go_wp2_with fail
      refine (refsame7_any _ _ ll ll _ HV10.out HR.out (by omega)).mono ?_
      rintro e w11 ⟨rfl, hb⟩
      replace HR := Lib.hid (HR.out.go hb)
      replace HQ3 := Lib.hid (HQ3.out.go hb)
      replace HQ5 := Lib.hid (HQ5.out.go hb)
      replace K7 := Lib.hid (K7.out.go hb)
      replace K9 := Lib.hid (K9.out.go hb)
      replace B := B.trans (hb.mono B.size)
      have hzw11 := B.size
      clear hb
      rw [decide_eq_true (rfl : ll = ll)]
      clear HV10
      obtain ⟨k70, k71⟩ := K7.out.two
      have k7l := K7.out.lt
      obtain ⟨k90, k91⟩ := K9.out.two
      have k9l := K9.out.lt
      go_wp2_with fail
      refine (height_any _ 0 [] _ ⟨a5, c5, rfl, HQ5.out⟩).mono ?_
      rintro e w12 ⟨rfl, hb⟩
      replace B := B.trans (hb.mono B.size)
      have hzw12 := B.size
      clear hb
      go_wp2_with fail
      go_ret
      exact ⟨rfl, B⟩
  · have HM := Lib.hid (show ofM m ll = 0 from if_neg (by rw [hE]; exact h0))
    have HL := Lib.hid (show ofL m ll = [] from if_neg (by rw [hE]; exact h0))
    have hb0 : (E == 0) = false := beq_eq_false_iff_ne.2 h0
    have hb1 : (E != 0) = true := by rw [bne_iff_ne]; exact h0
    have hb2 : (E != E) = false := by simp
    clear hE h0
    rcases hn with hn | hn
    · have hn4 : ¬ 40 < n := by omega
      go_enter Try.func3, Try.ntmps3
      go_wp2_with fail
      have B : Below w.heap.size w w := Below.refl _ _
      refine (awake7_any _).mono ?_
      rintro e w1 ⟨rfl, hb⟩
      replace HR := Lib.hid (HR.out.go hb)
      replace B := B.trans (hb.mono B.size)
      have hzw1 := B.size
      clear hb
      go_wp2_with fail
      refine (few7_any _ ll _ HR.out).mono ?_
      rintro e w2 ⟨rfl, hb⟩
      replace HR := Lib.hid (HR.out.go hb)
      replace B := B.trans (hb.mono B.size)
      have hzw2 := B.size
      clear hb
      rw [HF.out]
      go_wp2_with fail
      refine (gof_any _ m ll _ HR.out (by omega)).mono ?_
      rintro e w3 ⟨u3, rfl, hu3, hb⟩
      replace HR := Lib.hid (HR.out.go hb)
      replace B := B.trans (hb.mono B.size)
      have hzw3 := B.size
      clear hb
      rw [HEQ.out]
      rw [HM.out, HL.out] at hu3
      obtain ⟨v3, rfl, hq3⟩ := hu3
      obtain ⟨a3, c3, rfl⟩ := hq3.shape
      have HQ3 := Lib.hid hq3.rows
      clear hq3
      go_wp2_with fail
      obtain ⟨hb, hk, hs⟩ := blocks1 w3 #[.int .i64 0, .slice a3 (([] : List (List Nat))).length c3] 26
      generalize w3.alloc (.cells #[.int .i64 0, .slice a3 (([] : List (List Nat))).length c3] 26) = W4 at *
      have K7 := Lib.hid hk
      replace HR := Lib.hid (HR.out.go hb)
      replace HQ3 := Lib.hid (HQ3.out.go hb)
      replace B := B.trans (hb.mono B.size)
      have hzW4 := B.size
      clear hb hk hs
      refine (gunit_any n _).mono ?_
      rintro e w5 ⟨u5, rfl, hu5, hb⟩
      replace HR := Lib.hid (HR.out.go hb)
      replace HQ3 := Lib.hid (HQ3.out.go hb)
      replace K7 := Lib.hid (K7.out.go hb)
      replace B := B.trans (hb.mono B.size)
      have hzw5 := B.size
      clear hb
      rw [HUM.out, HUL.out] at hu5
      rw [HUC.out]
      obtain ⟨v5, rfl, hq5⟩ := hu5
      obtain ⟨a5, c5, rfl⟩ := hq5.shape
      have HQ5 := Lib.hid hq5.rows
      clear hq5
      go_wp2_with fail
      obtain ⟨hb, hk, hs⟩ := blocks1 w5 #[.int .i64 0, .slice a5 (([] : List (List Nat))).length c5] 26
      generalize w5.alloc (.cells #[.int .i64 0, .slice a5 (([] : List (List Nat))).length c5] 26) = W6 at *
      have K9 := Lib.hid hk
      replace HR := Lib.hid (HR.out.go hb)
      replace HQ3 := Lib.hid (HQ3.out.go hb)
      replace HQ5 := Lib.hid (HQ5.out.go hb)
      replace K7 := Lib.hid (K7.out.go hb)
      replace B := B.trans (hb.mono B.size)
      have hzW6 := B.size
      clear hb hk hs
      refine (refof7_any _ m ll _ HR.out (by omega)).mono ?_
      rintro e w7 ⟨rfl, hb⟩
      replace HR := Lib.hid (HR.out.go hb)
      replace HQ3 := Lib.hid (HQ3.out.go hb)
      replace HQ5 := Lib.hid (HQ5.out.go hb)
      replace K7 := Lib.hid (K7.out.go hb)
      replace K9 := Lib.hid (K9.out.go hb)
      replace B := B.trans (hb.mono B.size)
      have hzw7 := B.size
      clear hb
      rw [HEQ.out]
      obtain ⟨k70, k71⟩ := K7.out.two
      have k7l := K7.out.lt
      obtain ⟨k90, k91⟩ := K9.out.two
      have k9l := K9.out.lt
      go_wp2_with fail
      refine (width_any _ 0 [] _ ⟨a3, c3, rfl, HQ3.out⟩).mono ?_
      rintro e w8 ⟨rfl, hb⟩
      replace HR := Lib.hid (HR.out.go hb)
      replace HQ3 := Lib.hid (HQ3.out.go hb)
      replace HQ5 := Lib.hid (HQ5.out.go hb)
      replace K7 := Lib.hid (K7.out.go hb)
      replace K9 := Lib.hid (K9.out.go hb)
      replace B := B.trans (hb.mono B.size)
      have hzw8 := B.size
      clear hb
      obtain ⟨k70, k71⟩ := K7.out.two
      have k7l := K7.out.lt
      obtain ⟨k90, k91⟩ := K9.out.two
      have k9l := K9.out.lt
      go_wp2_with fail
      refine (height_any _ 0 [] _ ⟨a3, c3, rfl, HQ3.out⟩).mono ?_
      rintro e w9 ⟨rfl, hb⟩
      replace HR := Lib.hid (HR.out.go hb)
      replace HQ3 := Lib.hid (HQ3.out.go hb)
      replace HQ5 := Lib.hid (HQ5.out.go hb)
      replace K7 := Lib.hid (K7.out.go hb)
      replace K9 := Lib.hid (K9.out.go hb)
      replace B := B.trans (hb.mono B.size)
      have hzw9 := B.size
      clear hb
      obtain ⟨k70, k71⟩ := K7.out.two
      have k7l := K7.out.lt
      obtain ⟨k90, k91⟩ := K9.out.two
      have k9l := K9.out.lt
      go_wp2_with fail
      refine (height_any _ 0 [] _ ⟨a5, c5, rfl, HQ5.out⟩).mono ?_
      rintro e w12 ⟨rfl, hb⟩
      replace B := B.trans (hb.mono B.size)
      have hzw12 := B.size
      clear hb
      go_wp2_with fail
      go_ret
      exact ⟨rfl, B⟩
    · have hn4 : 40 < n := by omega
      have hn5 : ¬ n ≤ 256 := by omega
      have hn6 : ¬ n < 0 := by omega
      go_enter Try.func3, Try.ntmps3
      go_wp2_with fail
      have B : Below w.heap.size w w := Below.refl _ _
      refine (awake7_any _).mono ?_
      rintro e w1 ⟨rfl, hb⟩
      replace HR := Lib.hid (HR.out.go hb)
      replace B := B.trans (hb.mono B.size)
      have hzw1 := B.size
      clear hb
      go_wp2_with fail
      refine (few7_any _ ll _ HR.out).mono ?_
      rintro e w2 ⟨rfl, hb⟩
      replace HR := Lib.hid (HR.out.go hb)
      replace B := B.trans (hb.mono B.size)
      have hzw2 := B.size
      clear hb
      rw [HF.out]
      go_wp2_with fail
      refine (gof_any _ m ll _ HR.out (by omega)).mono ?_
      rintro e w3 ⟨u3, rfl, hu3, hb⟩
      replace HR := Lib.hid (HR.out.go hb)
      replace B := B.trans (hb.mono B.size)
      have hzw3 := B.size
      clear hb
      rw [HEQ.out]
      rw [HM.out, HL.out] at hu3
      obtain ⟨v3, rfl, hq3⟩ := hu3
      obtain ⟨a3, c3, rfl⟩ := hq3.shape
      have HQ3 := Lib.hid hq3.rows
      clear hq3
      go_wp2_with fail
      obtain ⟨hb, hk, hs⟩ := blocks1 w3 #[.int .i64 0, .slice a3 (([] : List (List Nat))).length c3] 26
      generalize w3.alloc (.cells #[.int .i64 0, .slice a3 (([] : List (List Nat))).length c3] 26) = W4 at *
      have K7 := Lib.hid hk
      replace HR := Lib.hid (HR.out.go hb)
      replace HQ3 := Lib.hid (HQ3.out.go hb)
      replace B := B.trans (hb.mono B.size)
      have hzW4 := B.size
      clear hb hk hs
      refine (gunit_any n _).mono ?_
      rintro e w5 ⟨u5, rfl, hu5, hb⟩
      replace HR := Lib.hid (HR.out.go hb)
      replace HQ3 := Lib.hid (HQ3.out.go hb)
      replace K7 := Lib.hid (K7.out.go hb)
      replace B := B.trans (hb.mono B.size)
      have hzw5 := B.size
      clear hb
      rw [HUM.out, HUL.out] at hu5
      rw [HUC.out]
      obtain ⟨v5, rfl, hq5⟩ := hu5
      obtain ⟨a5, c5, rfl⟩ := hq5.shape
      have HQ5 := Lib.hid hq5.rows
      clear hq5
      go_wp2_with fail
      obtain ⟨hb, hk, hs⟩ := blocks1 w5 #[.int .i64 0, .slice a5 (([] : List (List Nat))).length c5] 26
      generalize w5.alloc (.cells #[.int .i64 0, .slice a5 (([] : List (List Nat))).length c5] 26) = W6 at *
      have K9 := Lib.hid hk
      replace HR := Lib.hid (HR.out.go hb)
      replace HQ3 := Lib.hid (HQ3.out.go hb)
      replace HQ5 := Lib.hid (HQ5.out.go hb)
      replace K7 := Lib.hid (K7.out.go hb)
      replace B := B.trans (hb.mono B.size)
      have hzW6 := B.size
      clear hb hk hs
      refine (refof7_any _ m ll _ HR.out (by omega)).mono ?_
      rintro e w7 ⟨rfl, hb⟩
      replace HR := Lib.hid (HR.out.go hb)
      replace HQ3 := Lib.hid (HQ3.out.go hb)
      replace HQ5 := Lib.hid (HQ5.out.go hb)
      replace K7 := Lib.hid (K7.out.go hb)
      replace K9 := Lib.hid (K9.out.go hb)
      replace B := B.trans (hb.mono B.size)
      have hzw7 := B.size
      clear hb
      rw [HEQ.out]
      obtain ⟨k70, k71⟩ := K7.out.two
      have k7l := K7.out.lt
      obtain ⟨k90, k91⟩ := K9.out.two
      have k9l := K9.out.lt
      go_wp2_with fail
      refine (width_any _ 0 [] _ ⟨a3, c3, rfl, HQ3.out⟩).mono ?_
      rintro e w8 ⟨rfl, hb⟩
      replace HR := Lib.hid (HR.out.go hb)
      replace HQ3 := Lib.hid (HQ3.out.go hb)
      replace HQ5 := Lib.hid (HQ5.out.go hb)
      replace K7 := Lib.hid (K7.out.go hb)
      replace K9 := Lib.hid (K9.out.go hb)
      replace B := B.trans (hb.mono B.size)
      have hzw8 := B.size
      clear hb
      obtain ⟨k70, k71⟩ := K7.out.two
      have k7l := K7.out.lt
      obtain ⟨k90, k91⟩ := K9.out.two
      have k9l := K9.out.lt
      go_wp2_with fail
      refine (height_any _ 0 [] _ ⟨a3, c3, rfl, HQ3.out⟩).mono ?_
      rintro e w9 ⟨rfl, hb⟩
      replace HR := Lib.hid (HR.out.go hb)
      replace HQ3 := Lib.hid (HQ3.out.go hb)
      replace HQ5 := Lib.hid (HQ5.out.go hb)
      replace K7 := Lib.hid (K7.out.go hb)
      replace K9 := Lib.hid (K9.out.go hb)
      replace B := B.trans (hb.mono B.size)
      have hzw9 := B.size
      clear hb
      obtain ⟨k70, k71⟩ := K7.out.two
      have k7l := K7.out.lt
      obtain ⟨k90, k91⟩ := K9.out.two
      have k9l := K9.out.lt
      go_wp2_with fail
      refine (height_any _ 0 [] _ ⟨a5, c5, rfl, HQ5.out⟩).mono ?_
      rintro e w12 ⟨rfl, hb⟩
      replace B := B.trans (hb.mono B.size)
      have hzw12 := B.size
      clear hb
      go_wp2_with fail
      go_ret
      exact ⟨rfl, B⟩

set_option maxHeartbeats 8000000 in
theorem gridTells_in (v : Value) (m : Int) (N : Nat) (ll : List (List Nat)) (w : World) (hR : IsRows w v ll) (hf : few7 ll = true) (hn : N ≤ 40) :
    Calls Try.prog 3 #[.int .i64 m, v, .int .i64 (N : Int)] w fun e w' => e = .returned (.bool true) ∧ Below w.heap.size w w' := by
  have HR := Lib.hid hR
  have HF := Lib.hid hf
  obtain ⟨hl30, hw30⟩ := few7_true hf
  have HW := Lib.hid (show ∀ j, j < ll.length → (rowAt ll j).length ≤ 1000000000 from fun j hj => by have := hw30 j hj; omega)
  clear hf hw30
  obtain ⟨a, c, rfl⟩ := hR.shape
  clear hR
  have hnn : ¬ ((N : Int) < 0 ∨ 256 < (N : Int)) := by omega
  have HUM := Lib.hid (show unitM (N : Int) = (N : Int) from if_neg hnn)
  have HUL := Lib.hid (show unitR (N : Int) = unitG N by unfold unitR; rw [if_neg hnn, Int.toNat_natCast])
  have HUC := Lib.hid (show unitC (N : Int) = 0 from if_neg hnn)
  have HNL := Lib.hid (unitG_length N)
  have HUW := Lib.hid (show ∀ j, j < (unitG N).length → (rowAt (unitG N) j).length ≤ 1000000000 from fun j hj => by rw [unitG_length] at hj; rw [unitG_at hj, unitL_length]; omega)
  have hn4 : ¬ 40 < (N : Int) := by omega
  have hn5 : ¬ (N : Int) < 0 := by omega
  have hn6 : ¬ 256 < (N : Int) := by omega
  clear hnn
  obtain ⟨E, hE⟩ : ∃ E, ofE m ll = E := ⟨_, rfl⟩
  have HEQ := Lib.hid hE
  by_cases h0 : E = 0
  · have HM := Lib.hid (show ofM m ll = m from if_pos (hE.trans h0))
    have HL := Lib.hid (show ofL m ll = ll from if_pos (hE.trans h0))
    have hmm : (m != m) = false := by simp
    have hlnn : ((ll.length : Int) != (ll.length : Int)) = false := by simp
    clear hE
    subst h0
    go_enter Try.func3, Try.ntmps3
    go_wp2_with fail
    have B : Below w.heap.size w w := Below.refl _ _
    refine (awake7_any _).mono ?_
    rintro e w1 ⟨rfl, hb⟩
    replace HR := Lib.hid (HR.out.go hb)
    replace B := B.trans (hb.mono B.size)
    have hzw1 := B.size
    clear hb
    go_wp2_with fail
    refine (few7_any _ ll _ HR.out).mono ?_
    rintro e w2 ⟨rfl, hb⟩
    replace HR := Lib.hid (HR.out.go hb)
    replace B := B.trans (hb.mono B.size)
    have hzw2 := B.size
    clear hb
    rw [HF.out]
    go_wp2_with fail
    refine (gof_any _ m ll _ HR.out (by omega)).mono ?_
    rintro e w3 ⟨u3, rfl, hu3, hb⟩
    replace HR := Lib.hid (HR.out.go hb)
    replace B := B.trans (hb.mono B.size)
    have hzw3 := B.size
    clear hb
    rw [HEQ.out]
    rw [HM.out, HL.out] at hu3
    obtain ⟨v3, rfl, hq3⟩ := hu3
    obtain ⟨a3, c3, rfl⟩ := hq3.shape
    have HQ3 := Lib.hid hq3.rows
    clear hq3
    go_wp2_with fail
    obtain ⟨hb, hk, hs⟩ := blocks1 w3 #[.int .i64 m, .slice a3 (ll).length c3] 26
    generalize w3.alloc (.cells #[.int .i64 m, .slice a3 (ll).length c3] 26) = W4 at *
    have K7 := Lib.hid hk
    replace HR := Lib.hid (HR.out.go hb)
    replace HQ3 := Lib.hid (HQ3.out.go hb)
    replace B := B.trans (hb.mono B.size)
    have hzW4 := B.size
    clear hb hk hs
    refine (gunit_any (N : Int) _).mono ?_
    rintro e w5 ⟨u5, rfl, hu5, hb⟩
    replace HR := Lib.hid (HR.out.go hb)
    replace HQ3 := Lib.hid (HQ3.out.go hb)
    replace K7 := Lib.hid (K7.out.go hb)
    replace B := B.trans (hb.mono B.size)
    have hzw5 := B.size
    clear hb
    rw [HUM.out, HUL.out] at hu5
    rw [HUC.out]
    obtain ⟨v5, rfl, hq5⟩ := hu5
    obtain ⟨a5, c5, rfl⟩ := hq5.shape
    have HQ5 := Lib.hid hq5.rows
    clear hq5
    go_wp2_with fail
    obtain ⟨hb, hk, hs⟩ := blocks1 w5 #[.int .i64 (N : Int), .slice a5 ((unitG N)).length c5] 26
    generalize w5.alloc (.cells #[.int .i64 (N : Int), .slice a5 ((unitG N)).length c5] 26) = W6 at *
    have K9 := Lib.hid hk
    replace HR := Lib.hid (HR.out.go hb)
    replace HQ3 := Lib.hid (HQ3.out.go hb)
    replace HQ5 := Lib.hid (HQ5.out.go hb)
    replace K7 := Lib.hid (K7.out.go hb)
    replace B := B.trans (hb.mono B.size)
    have hzW6 := B.size
    clear hb hk hs
    refine (refof7_any _ m ll _ HR.out (by omega)).mono ?_
    rintro e w7 ⟨rfl, hb⟩
    replace HR := Lib.hid (HR.out.go hb)
    replace HQ3 := Lib.hid (HQ3.out.go hb)
    replace HQ5 := Lib.hid (HQ5.out.go hb)
    replace K7 := Lib.hid (K7.out.go hb)
    replace K9 := Lib.hid (K9.out.go hb)
    replace B := B.trans (hb.mono B.size)
    have hzw7 := B.size
    clear hb
    rw [HEQ.out]
    obtain ⟨k70, k71⟩ := K7.out.two
    have k7l := K7.out.lt
    obtain ⟨k90, k91⟩ := K9.out.two
    have k9l := K9.out.lt
    go_wp2_with fail
    refine (width_any _ m ll _ ⟨a3, c3, rfl, HQ3.out⟩).mono ?_
    rintro e w8 ⟨rfl, hb⟩
    replace HR := Lib.hid (HR.out.go hb)
    replace HQ3 := Lib.hid (HQ3.out.go hb)
    replace HQ5 := Lib.hid (HQ5.out.go hb)
    replace K7 := Lib.hid (K7.out.go hb)
    replace K9 := Lib.hid (K9.out.go hb)
    replace B := B.trans (hb.mono B.size)
    have hzw8 := B.size
    clear hb
    obtain ⟨k70, k71⟩ := K7.out.two
    have k7l := K7.out.lt
    obtain ⟨k90, k91⟩ := K9.out.two
    have k9l := K9.out.lt
    go_wp2_with fail
    refine (height_any _ m ll _ ⟨a3, c3, rfl, HQ3.out⟩).mono ?_
    rintro e w9 ⟨rfl, hb⟩
    replace HR := Lib.hid (HR.out.go hb)
    replace HQ3 := Lib.hid (HQ3.out.go hb)
    replace HQ5 := Lib.hid (HQ5.out.go hb)
    replace K7 := Lib.hid (K7.out.go hb)
    replace K9 := Lib.hid (K9.out.go hb)
    replace B := B.trans (hb.mono B.size)
    have hzw9 := B.size
    clear hb
    obtain ⟨k70, k71⟩ := K7.out.two
    have k7l := K7.out.lt
    obtain ⟨k90, k91⟩ := K9.out.two
    have k9l := K9.out.lt
    go_wp2_with fail
    refine (gridrows_any _ m ll _ ⟨a3, c3, rfl, HQ3.out⟩ (by omega) HW.out).mono ?_
    rintro e w10 ⟨v10, rfl, hv10, hb⟩
    replace HR := Lib.hid (HR.out.go hb)
    replace HQ3 := Lib.hid (HQ3.out.go hb)
    replace HQ5 := Lib.hid (HQ5.out.go hb)
    replace K7 := Lib.hid (K7.out.go hb)
    replace K9 := Lib.hid (K9.out.go hb)
    replace B := B.trans (hb.mono B.size)
    have hzw10 := B.size
    clear hb
    obtain ⟨aa, ca, rfl⟩ := hv10.shape
    have HV10 := Lib.hid hv10.rows
    clear hv10
    go_wp2_with fail
    refine (refsame7_any _ _ ll ll _ HV10.out HR.out (by omega)).mono ?_
    rintro e w11 ⟨rfl, hb⟩
    replace HR := Lib.hid (HR.out.go hb)
    replace HQ3 := Lib.hid (HQ3.out.go hb)
    replace HQ5 := Lib.hid (HQ5.out.go hb)
    replace K7 := Lib.hid (K7.out.go hb)
    replace K9 := Lib.hid (K9.out.go hb)
    replace B := B.trans (hb.mono B.size)
    have hzw11 := B.size
    clear hb
    rw [decide_eq_true (rfl : ll = ll)]
    clear HV10
    obtain ⟨k70, k71⟩ := K7.out.two
    have k7l := K7.out.lt
    obtain ⟨k90, k91⟩ := K9.out.two
    have k9l := K9.out.lt
    go_wp2_with fail
    refine (gridrows_any _ (N : Int) (unitG N) _ ⟨a5, c5, rfl, HQ5.out⟩ (by have := HNL.out; omega) HUW.out).mono ?_
    rintro e w12 ⟨v12, rfl, hv12, hb⟩
    replace HR := Lib.hid (HR.out.go hb)
    replace HQ3 := Lib.hid (HQ3.out.go hb)
    replace HQ5 := Lib.hid (HQ5.out.go hb)
    replace K7 := Lib.hid (K7.out.go hb)
    replace K9 := Lib.hid (K9.out.go hb)
    replace B := B.trans (hb.mono B.size)
    have hzw12 := B.size
    clear hb
    obtain ⟨ab, cb, rfl⟩ := hv12.shape
    have HV12 := Lib.hid hv12.rows
    clear hv12
    obtain ⟨k70, k71⟩ := K7.out.two
    have k7l := K7.out.lt
    obtain ⟨k90, k91⟩ := K9.out.two
    have k9l := K9.out.lt
    have hNl : ¬ ((N : Int) < ((unitG N).length : Int)) := by rw [HNL.out]; omega
    go_wp2_with fail
    go_loop [11, 12, 13, 14, 96] (fun _ _ _ _ i => ∃ k : Nat, k ≤ N ∧ i = .int .i64 k) (fun _ _ _ _ i => N - (intOf i).toNat)
    case atStart => exact ⟨0, by omega, rfl⟩
    case round =>
      obtain ⟨i, hi, rfl⟩ := hrel
      by_cases hlt : i < N
      · obtain ⟨b0, off0, x0, rfl, hx0, hbx⟩ := HV12.out.row (Below.refl _ _) i (by rw [HNL.out]; exact hlt)
        rw [unitG_at hlt] at hbx
        have HBX := Lib.hid hbx
        obtain ⟨xa, xc, rfl, _⟩ := hbx
        have i0 : (0 : Int) ≤ (i : Int) := Int.natCast_nonneg _
        have i1 : (i : Int) < ((unitG N).length : Int) := by rw [HNL.out]; omega
        have hul := unitL_length N i
        go_wp2_with fail
        go_loop [13, 14, 103] (fun _ _ x => ∃ k : Nat, k ≤ N ∧ x = .int .i64 k) (fun _ _ x => N - (intOf x).toNat)
        case atStart => exact ⟨0, by omega, rfl⟩
        case round =>
          obtain ⟨k, hk, rfl⟩ := hrel
          by_cases hkl : k < N
          · obtain ⟨bx, ox, rfl, hcc⟩ := HBX.out.at k (by rw [hul]; exact hkl)
            have k0 : (0 : Int) ≤ (k : Int) := Int.natCast_nonneg _
            have k1 : (k : Int) < ((unitL N i).length : Int) := by rw [hul]; omega
            rw [nth_unitL] at hcc
            by_cases hik : i = k
            · rw [if_pos ⟨hik, hlt⟩] at hcc
              have hik2 : ((i : Int) == (k : Int)) = true := beq_iff_eq.2 (by omega)
              clear hik
              go_wp2_with fail
              go_round
              case rel => exact ⟨k + 1, by omega, by go_num⟩
              case measure => simp [intOf]; omega
            · rw [if_neg fun h => hik h.1] at hcc
              have hik2 : ((i : Int) == (k : Int)) = false := beq_eq_false_iff_ne.2 (by omega)
              clear hik
              go_wp2_with fail
              go_round
              case rel => exact ⟨k + 1, by omega, by go_num⟩
              case measure => simp [intOf]; omega
          · obtain rfl : k = N := by omega
            go_wp2_with fail
            go_round
            case rel => exact ⟨i + 1, by omega, by go_num⟩
            case measure => simp [intOf]; omega
      · obtain rfl : i = N := by omega
        go_wp2_with fail
        clear k70 k71 k7l k90 k91 k9l
        refine (height_any _ (i : Int) (unitG i) _ ⟨a5, c5, rfl, HQ5.out⟩).mono ?_
        rintro e w13 ⟨rfl, hb⟩
        replace HR := Lib.hid (HR.out.go hb)
        replace HQ3 := Lib.hid (HQ3.out.go hb)
        replace HQ5 := Lib.hid (HQ5.out.go hb)
        replace K7 := Lib.hid (K7.out.go hb)
        replace K9 := Lib.hid (K9.out.go hb)
        replace B := B.trans (hb.mono B.size)
        have hzw13 := B.size
        clear hb
        rw [HNL.out]
        obtain ⟨k70, k71⟩ := K7.out.two
        have k7l := K7.out.lt
        obtain ⟨k90, k91⟩ := K9.out.two
        have k9l := K9.out.lt
        go_wp2_with fail
        clear k70 k71 k7l k90 k91 k9l
        refine (width_any _ (i : Int) (unitG i) _ ⟨a5, c5, rfl, HQ5.out⟩).mono ?_
        rintro e w14 ⟨rfl, hb⟩
        replace HR := Lib.hid (HR.out.go hb)
        replace HQ3 := Lib.hid (HQ3.out.go hb)
        replace HQ5 := Lib.hid (HQ5.out.go hb)
        replace K7 := Lib.hid (K7.out.go hb)
        replace K9 := Lib.hid (K9.out.go hb)
        replace B := B.trans (hb.mono B.size)
        have hzw14 := B.size
        clear hb
        obtain ⟨k70, k71⟩ := K7.out.two
        have k7l := K7.out.lt
        obtain ⟨k90, k91⟩ := K9.out.two
        have k9l := K9.out.lt
        go_wp2_with fail
        clear k70 k71 k7l k90 k91 k9l
        refine (gridsame_any _ _ (i : Int) (i : Int) (unitG i) (unitG i) _ ⟨a5, c5, rfl, HQ5.out⟩ ⟨a5, c5, rfl, HQ5.out⟩ (by have := HNL.out; omega)).mono ?_
        rintro e w15 ⟨rfl, hb⟩
        replace HR := Lib.hid (HR.out.go hb)
        replace HQ3 := Lib.hid (HQ3.out.go hb)
        replace HQ5 := Lib.hid (HQ5.out.go hb)
        replace K7 := Lib.hid (K7.out.go hb)
        replace K9 := Lib.hid (K9.out.go hb)
        replace B := B.trans (hb.mono B.size)
        have hzw15 := B.size
        clear hb
        rw [show decide ((i : Int) = (i : Int) ∧ unitG i = unitG i) = true from decide_eq_true ⟨rfl, rfl⟩]
        obtain ⟨k70, k71⟩ := K7.out.two
        have k7l := K7.out.lt
        obtain ⟨k90, k91⟩ := K9.out.two
        have k9l := K9.out.lt
        go_wp2_with fail
        clear k70 k71 k7l k90 k91 k9l
        refine (gridsame_any _ _ m (i : Int) ll (unitG i) _ ⟨a3, c3, rfl, HQ3.out⟩ ⟨a5, c5, rfl, HQ5.out⟩ (by omega)).mono ?_
        rintro e w16 ⟨rfl, hb⟩
        replace HR := Lib.hid (HR.out.go hb)
        replace HQ5 := Lib.hid (HQ5.out.go hb)
        replace K7 := Lib.hid (K7.out.go hb)
        replace K9 := Lib.hid (K9.out.go hb)
        replace B := B.trans (hb.mono B.size)
        have hzw16 := B.size
        clear hb
        by_cases hmi : m = (i : Int)
        · have hbm : (m == (i : Int)) = true := beq_iff_eq.2 hmi
          have hd : decide (m = (i : Int) ∧ ll = unitG i) = decide (ll = unitG i) := by rw [decide_eq_decide]; exact ⟨fun h => h.2, fun h => ⟨hmi, h⟩⟩
          rw [hd]
          clear hmi hd
          obtain ⟨k90, k91⟩ := K9.out.two
          have k9l := K9.out.lt
          go_wp2_with fail
          refine (gridrows_any _ (i : Int) (unitG i) _ ⟨a5, c5, rfl, HQ5.out⟩ (by have := HNL.out; omega) HUW.out).mono ?_
          rintro e w17 ⟨v17, rfl, hv17, hb⟩
          replace HR := Lib.hid (HR.out.go hb)
          replace B := B.trans (hb.mono B.size)
          have hzw17 := B.size
          clear hb
          have HV17 := Lib.hid hv17.rows
          obtain ⟨ac, cc, rfl⟩ := hv17.shape
          clear hv17
          go_wp2_with fail
          refine (refsame7_any _ _ ll (unitG i) _ HR.out HV17.out (by omega)).mono ?_
          rintro e w18 ⟨rfl, hb⟩
          replace B := B.trans (hb.mono B.size)
          have hzw18 := B.size
          clear hb
          cases hdd : decide (ll = unitG i)
          · go_wp2_with fail
            go_ret
            exact ⟨rfl, B⟩
          · go_wp2_with fail
            go_ret
            exact ⟨rfl, B⟩
        · have hbm : (m == (i : Int)) = false := beq_eq_false_iff_ne.2 hmi
          rw [show decide (m = (i : Int) ∧ ll = unitG i) = false from decide_eq_false fun h => hmi h.1]
          clear hmi
          go_wp2_with fail
          go_ret
          exact ⟨rfl, B⟩
  · have HM := Lib.hid (show ofM m ll = 0 from if_neg (by rw [hE]; exact h0))
    have HL := Lib.hid (show ofL m ll = [] from if_neg (by rw [hE]; exact h0))
    have hb0 : (E == 0) = false := beq_eq_false_iff_ne.2 h0
    have hb1 : (E != 0) = true := by rw [bne_iff_ne]; exact h0
    have hb2 : (E != E) = false := by simp
    clear hE h0
    go_enter Try.func3, Try.ntmps3
    go_wp2_with fail
    have B : Below w.heap.size w w := Below.refl _ _
    refine (awake7_any _).mono ?_
    rintro e w1 ⟨rfl, hb⟩
    replace HR := Lib.hid (HR.out.go hb)
    replace B := B.trans (hb.mono B.size)
    have hzw1 := B.size
    clear hb
    go_wp2_with fail
    refine (few7_any _ ll _ HR.out).mono ?_
    rintro e w2 ⟨rfl, hb⟩
    replace HR := Lib.hid (HR.out.go hb)
    replace B := B.trans (hb.mono B.size)
    have hzw2 := B.size
    clear hb
    rw [HF.out]
    go_wp2_with fail
    refine (gof_any _ m ll _ HR.out (by omega)).mono ?_
    rintro e w3 ⟨u3, rfl, hu3, hb⟩
    replace HR := Lib.hid (HR.out.go hb)
    replace B := B.trans (hb.mono B.size)
    have hzw3 := B.size
    clear hb
    rw [HEQ.out]
    rw [HM.out, HL.out] at hu3
    obtain ⟨v3, rfl, hq3⟩ := hu3
    obtain ⟨a3, c3, rfl⟩ := hq3.shape
    have HQ3 := Lib.hid hq3.rows
    clear hq3
    go_wp2_with fail
    obtain ⟨hb, hk, hs⟩ := blocks1 w3 #[.int .i64 0, .slice a3 (([] : List (List Nat))).length c3] 26
    generalize w3.alloc (.cells #[.int .i64 0, .slice a3 (([] : List (List Nat))).length c3] 26) = W4 at *
    have K7 := Lib.hid hk
    replace HR := Lib.hid (HR.out.go hb)
    replace HQ3 := Lib.hid (HQ3.out.go hb)
    replace B := B.trans (hb.mono B.size)
    have hzW4 := B.size
    clear hb hk hs
    refine (gunit_any (N : Int) _).mono ?_
    rintro e w5 ⟨u5, rfl, hu5, hb⟩
    replace HR := Lib.hid (HR.out.go hb)
    replace HQ3 := Lib.hid (HQ3.out.go hb)
    replace K7 := Lib.hid (K7.out.go hb)
    replace B := B.trans (hb.mono B.size)
    have hzw5 := B.size
    clear hb
    rw [HUM.out, HUL.out] at hu5
    rw [HUC.out]
    obtain ⟨v5, rfl, hq5⟩ := hu5
    obtain ⟨a5, c5, rfl⟩ := hq5.shape
    have HQ5 := Lib.hid hq5.rows
    clear hq5
    go_wp2_with fail
    obtain ⟨hb, hk, hs⟩ := blocks1 w5 #[.int .i64 (N : Int), .slice a5 ((unitG N)).length c5] 26
    generalize w5.alloc (.cells #[.int .i64 (N : Int), .slice a5 ((unitG N)).length c5] 26) = W6 at *
    have K9 := Lib.hid hk
    replace HR := Lib.hid (HR.out.go hb)
    replace HQ3 := Lib.hid (HQ3.out.go hb)
    replace HQ5 := Lib.hid (HQ5.out.go hb)
    replace K7 := Lib.hid (K7.out.go hb)
    replace B := B.trans (hb.mono B.size)
    have hzW6 := B.size
    clear hb hk hs
    refine (refof7_any _ m ll _ HR.out (by omega)).mono ?_
    rintro e w7 ⟨rfl, hb⟩
    replace HR := Lib.hid (HR.out.go hb)
    replace HQ3 := Lib.hid (HQ3.out.go hb)
    replace HQ5 := Lib.hid (HQ5.out.go hb)
    replace K7 := Lib.hid (K7.out.go hb)
    replace K9 := Lib.hid (K9.out.go hb)
    replace B := B.trans (hb.mono B.size)
    have hzw7 := B.size
    clear hb
    rw [HEQ.out]
    obtain ⟨k70, k71⟩ := K7.out.two
    have k7l := K7.out.lt
    obtain ⟨k90, k91⟩ := K9.out.two
    have k9l := K9.out.lt
    go_wp2_with fail
    refine (width_any _ 0 [] _ ⟨a3, c3, rfl, HQ3.out⟩).mono ?_
    rintro e w8 ⟨rfl, hb⟩
    replace HR := Lib.hid (HR.out.go hb)
    replace HQ3 := Lib.hid (HQ3.out.go hb)
    replace HQ5 := Lib.hid (HQ5.out.go hb)
    replace K7 := Lib.hid (K7.out.go hb)
    replace K9 := Lib.hid (K9.out.go hb)
    replace B := B.trans (hb.mono B.size)
    have hzw8 := B.size
    clear hb
    obtain ⟨k70, k71⟩ := K7.out.two
    have k7l := K7.out.lt
    obtain ⟨k90, k91⟩ := K9.out.two
    have k9l := K9.out.lt
    go_wp2_with fail
    refine (height_any _ 0 [] _ ⟨a3, c3, rfl, HQ3.out⟩).mono ?_
    rintro e w9 ⟨rfl, hb⟩
    replace HR := Lib.hid (HR.out.go hb)
    replace HQ3 := Lib.hid (HQ3.out.go hb)
    replace HQ5 := Lib.hid (HQ5.out.go hb)
    replace K7 := Lib.hid (K7.out.go hb)
    replace K9 := Lib.hid (K9.out.go hb)
    replace B := B.trans (hb.mono B.size)
    have hzw9 := B.size
    clear hb
    obtain ⟨k70, k71⟩ := K7.out.two
    have k7l := K7.out.lt
    obtain ⟨k90, k91⟩ := K9.out.two
    have k9l := K9.out.lt
    go_wp2_with fail
    refine (gridrows_any _ (N : Int) (unitG N) _ ⟨a5, c5, rfl, HQ5.out⟩ (by have := HNL.out; omega) HUW.out).mono ?_
    rintro e w12 ⟨v12, rfl, hv12, hb⟩
    replace HR := Lib.hid (HR.out.go hb)
    replace HQ3 := Lib.hid (HQ3.out.go hb)
    replace HQ5 := Lib.hid (HQ5.out.go hb)
    replace K7 := Lib.hid (K7.out.go hb)
    replace K9 := Lib.hid (K9.out.go hb)
    replace B := B.trans (hb.mono B.size)
    have hzw12 := B.size
    clear hb
    obtain ⟨ab, cb, rfl⟩ := hv12.shape
    have HV12 := Lib.hid hv12.rows
    clear hv12
    obtain ⟨k70, k71⟩ := K7.out.two
    have k7l := K7.out.lt
    obtain ⟨k90, k91⟩ := K9.out.two
    have k9l := K9.out.lt
    have hNl : ¬ ((N : Int) < ((unitG N).length : Int)) := by rw [HNL.out]; omega
    go_wp2_with fail
    go_loop [11, 12, 13, 14, 96] (fun _ _ _ _ i => ∃ k : Nat, k ≤ N ∧ i = .int .i64 k) (fun _ _ _ _ i => N - (intOf i).toNat)
    case atStart => exact ⟨0, by omega, rfl⟩
    case round =>
      obtain ⟨i, hi, rfl⟩ := hrel
      by_cases hlt : i < N
      · obtain ⟨b0, off0, x0, rfl, hx0, hbx⟩ := HV12.out.row (Below.refl _ _) i (by rw [HNL.out]; exact hlt)
        rw [unitG_at hlt] at hbx
        have HBX := Lib.hid hbx
        obtain ⟨xa, xc, rfl, _⟩ := hbx
        have i0 : (0 : Int) ≤ (i : Int) := Int.natCast_nonneg _
        have i1 : (i : Int) < ((unitG N).length : Int) := by rw [HNL.out]; omega
        have hul := unitL_length N i
        go_wp2_with fail
        go_loop [13, 14, 103] (fun _ _ x => ∃ k : Nat, k ≤ N ∧ x = .int .i64 k) (fun _ _ x => N - (intOf x).toNat)
        case atStart => exact ⟨0, by omega, rfl⟩
        case round =>
          obtain ⟨k, hk, rfl⟩ := hrel
          by_cases hkl : k < N
          · obtain ⟨bx, ox, rfl, hcc⟩ := HBX.out.at k (by rw [hul]; exact hkl)
            have k0 : (0 : Int) ≤ (k : Int) := Int.natCast_nonneg _
            have k1 : (k : Int) < ((unitL N i).length : Int) := by rw [hul]; omega
            rw [nth_unitL] at hcc
            by_cases hik : i = k
            · rw [if_pos ⟨hik, hlt⟩] at hcc
              have hik2 : ((i : Int) == (k : Int)) = true := beq_iff_eq.2 (by omega)
              clear hik
              go_wp2_with fail
              go_round
              case rel => exact ⟨k + 1, by omega, by go_num⟩
              case measure => simp [intOf]; omega
            · rw [if_neg fun h => hik h.1] at hcc
              have hik2 : ((i : Int) == (k : Int)) = false := beq_eq_false_iff_ne.2 (by omega)
              clear hik
              go_wp2_with fail
              go_round
              case rel => exact ⟨k + 1, by omega, by go_num⟩
              case measure => simp [intOf]; omega
          · obtain rfl : k = N := by omega
            go_wp2_with fail
            go_round
            case rel => exact ⟨i + 1, by omega, by go_num⟩
            case measure => simp [intOf]; omega
      · obtain rfl : i = N := by omega
        go_wp2_with fail
        clear k70 k71 k7l k90 k91 k9l
        refine (height_any _ (i : Int) (unitG i) _ ⟨a5, c5, rfl, HQ5.out⟩).mono ?_
        rintro e w13 ⟨rfl, hb⟩
        replace HR := Lib.hid (HR.out.go hb)
        replace HQ3 := Lib.hid (HQ3.out.go hb)
        replace HQ5 := Lib.hid (HQ5.out.go hb)
        replace K7 := Lib.hid (K7.out.go hb)
        replace K9 := Lib.hid (K9.out.go hb)
        replace B := B.trans (hb.mono B.size)
        have hzw13 := B.size
        clear hb
        rw [HNL.out]
        obtain ⟨k70, k71⟩ := K7.out.two
        have k7l := K7.out.lt
        obtain ⟨k90, k91⟩ := K9.out.two
        have k9l := K9.out.lt
        go_wp2_with fail
        clear k70 k71 k7l k90 k91 k9l
        refine (width_any _ (i : Int) (unitG i) _ ⟨a5, c5, rfl, HQ5.out⟩).mono ?_
        rintro e w14 ⟨rfl, hb⟩
        replace HR := Lib.hid (HR.out.go hb)
        replace HQ3 := Lib.hid (HQ3.out.go hb)
        replace HQ5 := Lib.hid (HQ5.out.go hb)
        replace K7 := Lib.hid (K7.out.go hb)
        replace K9 := Lib.hid (K9.out.go hb)
        replace B := B.trans (hb.mono B.size)
        have hzw14 := B.size
        clear hb
        obtain ⟨k70, k71⟩ := K7.out.two
        have k7l := K7.out.lt
        obtain ⟨k90, k91⟩ := K9.out.two
        have k9l := K9.out.lt
        go_wp2_with fail
        clear k70 k71 k7l k90 k91 k9l
        refine (gridsame_any _ _ (i : Int) (i : Int) (unitG i) (unitG i) _ ⟨a5, c5, rfl, HQ5.out⟩ ⟨a5, c5, rfl, HQ5.out⟩ (by have := HNL.out; omega)).mono ?_
        rintro e w15 ⟨rfl, hb⟩
        replace HR := Lib.hid (HR.out.go hb)
        replace HQ3 := Lib.hid (HQ3.out.go hb)
        replace HQ5 := Lib.hid (HQ5.out.go hb)
        replace K7 := Lib.hid (K7.out.go hb)
        replace K9 := Lib.hid (K9.out.go hb)
        replace B := B.trans (hb.mono B.size)
        have hzw15 := B.size
        clear hb
        rw [show decide ((i : Int) = (i : Int) ∧ unitG i = unitG i) = true from decide_eq_true ⟨rfl, rfl⟩]
        obtain ⟨k70, k71⟩ := K7.out.two
        have k7l := K7.out.lt
        obtain ⟨k90, k91⟩ := K9.out.two
        have k9l := K9.out.lt
        go_wp2_with fail
        go_ret
        exact ⟨rfl, B⟩

theorem gridTells_walk (m : Int) (v : Value) (ll : List (List Nat)) (n : Int) (w : World) (_ : -9223372036854775808 ≤ m) (_ : m ≤ 9223372036854775807) (hR : IsRows w v ll) (_ : -9223372036854775808 ≤ n) (_ : n ≤ 9223372036854775807) :
    Calls Try.prog 3 #[.int .i64 m, v, .int .i64 n] w fun e w' => e = .returned (.bool true) ∧ Below w.heap.size w w' := by
  cases hf : few7 ll with
  | false => exact gridTells_out v m n ll w hR hf
  | true =>
    by_cases h1 : n < 0 ∨ 256 < n
    · exact gridTells_two v m n ll w hR hf h1
    · by_cases h2 : 40 < n
      · exact gridTells_wide v m n ll w hR hf h2 (by omega)
      · obtain ⟨N, rfl⟩ : ∃ N : Nat, n = (N : Int) := ⟨n.toNat, by omega⟩
        exact gridTells_in v m N ll w hR hf (by omega)

end Go.Proofs.Ytohfcdgpllghbaa
