/- Texts of one seat, laid together: LawElevenB. -/
import Derived.Test.YtfefkchjhooloaaCutCutsQ5

/-
  The laws of cuts (layer 11): CutCuts.
-/
set_option maxRecDepth 100000
namespace Go.Proofs.Ytfefkchjhooloaa
open Go.RowKit

def Cut11 (L : List (List Nat)) (E : Int) (X : List Nat) (G : Int) (l s k : Int) (n : Nat) (o : List Nat) (i : Int) : Prop :=
  (∀ v w, Bytes w v o → Calls Try.prog 9 #[.agg #[.int .i64 l, .int .i64 s, .int .i64 k, .int .u32 (n : Int)], v] w (CutV w L E)) ∧
  (∀ v w, Bytes w v o → Calls Try.prog 10 #[.agg #[.int .i64 l, .int .i64 s, .int .i64 k, .int .u32 (n : Int)], v] w (CutV w L E)) ∧
  (∀ v w, Bytes w v o → Calls Try.prog 11 #[.agg #[.int .i64 l, .int .i64 s, .int .i64 k, .int .u32 (n : Int)], v, .int .i64 i] w (SymE w X G)) ∧ L.length ≤ 1000000000
set_option maxHeartbeats 2000000 in
theorem cutCuts_bad (l s k : Int) (n : Nat) (v : Value) (o : List Nat) (i : Int) (w : World) (E : Int) (hE : E ≠ 0) (hc : Cut11 [] E [] E l s k n o i) (ho : Bytes w v o) (ho2 : o.length ≤ 2000) (hs : s ≤ 2000 ∨ 65535 < s) :
    Calls Try.prog 3 #[.agg #[.int .i64 l, .int .i64 s, .int .i64 k, .int .u32 (n : Int)], v, .int .i64 i] w fun e w' => e = .returned (.bool true) ∧ Below w.heap.size w w' := by
  have hb : (E != 0) = true := by rw [bne_iff_ne]; exact hE
  obtain ⟨L, hL⟩ : ∃ L : List (List Nat), L = [] := ⟨_, rfl⟩
  rw [← hL] at hc
  clear hL
  obtain ⟨hC, hR, hY, hLL⟩ := hc
  have HC := Lib.hid hC
  have HR := Lib.hid hR
  have HY := Lib.hid hY
  have HLL := Lib.hid hLL
  have HO := Lib.hid ho
  obtain ⟨a, c, rfl, _⟩ := ho
  clear hC hR hY hLL
  have hb1 : ¬ (2000 : Int) < (o.length : Int) := by omega
  rcases hs with hs | hs
  · have hs1 : ¬ 2000 < s := by omega
    go_enter Try.func3, Try.ntmps3
    go_wp2_with fail
    obtain ⟨B, hk1, hs⟩ := blocks1 w #[.int .i64 l, .int .i64 s, .int .i64 k, .int .u32 (n : Int)] 24
    generalize (w.alloc (.cells #[.int .i64 l, .int .i64 s, .int .i64 k, .int .u32 (n : Int)] 24)) = W at *
    have K1 := Lib.hid hk1
    have HS := Lib.hid hs
    clear hs hk1
    replace HO := Lib.hid (HO.out.go B)
    have hzW := B.size
    refine (awake11_any _).mono ?_
    rintro e w1 ⟨rfl, hb⟩
    replace K1 := Lib.hid (K1.out.go hb)
    replace HO := Lib.hid (HO.out.go hb)
    replace B := B.trans (hb.mono B.size)
    have hzw1 := B.size
    clear hb
    obtain ⟨p0, p1, p2, p3⟩ := K1.out.four
    have pl := K1.out.lt
    go_wp2_with fail
    clear p0 p1 p2 p3 pl
    refine (HC.out _ _ HO.out).mono ?_
    rintro e w2 ⟨u2, rfl, hu2, hb⟩
    replace K1 := Lib.hid (K1.out.go hb)
    replace HO := Lib.hid (HO.out.go hb)
    replace B := B.trans (hb.mono B.size)
    have hzw2 := B.size
    clear hb
    obtain ⟨ua, uc, rfl⟩ := hu2.shape
    have HU2 := Lib.hid hu2.rows
    clear hu2
    obtain ⟨p0, p1, p2, p3⟩ := K1.out.four
    have pl := K1.out.lt
    go_wp2_with fail
    clear p0 p1 p2 p3 pl
    refine (HR.out _ _ HO.out).mono ?_
    rintro e w3 ⟨u3, rfl, hu3, hb⟩
    replace K1 := Lib.hid (K1.out.go hb)
    replace HO := Lib.hid (HO.out.go hb)
    replace HU2 := Lib.hid (HU2.out.go hb)
    replace B := B.trans (hb.mono B.size)
    have hzw3 := B.size
    clear hb
    obtain ⟨va, vc, rfl⟩ := hu3.shape
    have HU3 := Lib.hid hu3
    clear hu3
    obtain ⟨p0, p1, p2, p3⟩ := K1.out.four
    have pl := K1.out.lt
    go_wp2_with fail
    clear p0 p1 p2 p3 pl
    refine (HY.out _ _ HO.out).mono ?_
    rintro e w4 ⟨u4, rfl, hu4, hb⟩
    replace HU2 := Lib.hid (HU2.out.go hb)
    replace HU3 := Lib.hid (HU3.out.go hb)
    replace B := B.trans (hb.mono B.size)
    have hzw4 := B.size
    clear hb
    have HX := Lib.hid hu4
    obtain ⟨xa, xc, rfl, _⟩ := hu4
    go_wp2_with fail
    refine (refsame7_any _ _ L L _ HU2.out HU3.out.rows HLL.out).mono ?_
    rintro e w5 ⟨rfl, hb⟩
    replace HU3 := Lib.hid (HU3.out.go hb)
    replace HX := Lib.hid (HX.out.go hb)
    replace B := B.trans (hb.mono B.size)
    have hzw5 := B.size
    clear hb
    rw [show decide (L = L) = true by simp]
    go_wp2_with fail
    go_ret
    exact ⟨rfl, B⟩
  · have hs1 : ¬ s ≤ 65535 := by omega
    have hs2 : 2000 < s := by omega
    go_enter Try.func3, Try.ntmps3
    go_wp2_with fail
    obtain ⟨B, hk1, hs⟩ := blocks1 w #[.int .i64 l, .int .i64 s, .int .i64 k, .int .u32 (n : Int)] 24
    generalize (w.alloc (.cells #[.int .i64 l, .int .i64 s, .int .i64 k, .int .u32 (n : Int)] 24)) = W at *
    have K1 := Lib.hid hk1
    have HS := Lib.hid hs
    clear hs hk1
    replace HO := Lib.hid (HO.out.go B)
    have hzW := B.size
    refine (awake11_any _).mono ?_
    rintro e w1 ⟨rfl, hb⟩
    replace K1 := Lib.hid (K1.out.go hb)
    replace HO := Lib.hid (HO.out.go hb)
    replace B := B.trans (hb.mono B.size)
    have hzw1 := B.size
    clear hb
    obtain ⟨p0, p1, p2, p3⟩ := K1.out.four
    have pl := K1.out.lt
    go_wp2_with fail
    clear p0 p1 p2 p3 pl
    refine (HC.out _ _ HO.out).mono ?_
    rintro e w2 ⟨u2, rfl, hu2, hb⟩
    replace K1 := Lib.hid (K1.out.go hb)
    replace HO := Lib.hid (HO.out.go hb)
    replace B := B.trans (hb.mono B.size)
    have hzw2 := B.size
    clear hb
    obtain ⟨ua, uc, rfl⟩ := hu2.shape
    have HU2 := Lib.hid hu2.rows
    clear hu2
    obtain ⟨p0, p1, p2, p3⟩ := K1.out.four
    have pl := K1.out.lt
    go_wp2_with fail
    clear p0 p1 p2 p3 pl
    refine (HR.out _ _ HO.out).mono ?_
    rintro e w3 ⟨u3, rfl, hu3, hb⟩
    replace K1 := Lib.hid (K1.out.go hb)
    replace HO := Lib.hid (HO.out.go hb)
    replace HU2 := Lib.hid (HU2.out.go hb)
    replace B := B.trans (hb.mono B.size)
    have hzw3 := B.size
    clear hb
    obtain ⟨va, vc, rfl⟩ := hu3.shape
    have HU3 := Lib.hid hu3
    clear hu3
    obtain ⟨p0, p1, p2, p3⟩ := K1.out.four
    have pl := K1.out.lt
    go_wp2_with fail
    clear p0 p1 p2 p3 pl
    refine (HY.out _ _ HO.out).mono ?_
    rintro e w4 ⟨u4, rfl, hu4, hb⟩
    replace HU2 := Lib.hid (HU2.out.go hb)
    replace HU3 := Lib.hid (HU3.out.go hb)
    replace B := B.trans (hb.mono B.size)
    have hzw4 := B.size
    clear hb
    have HX := Lib.hid hu4
    obtain ⟨xa, xc, rfl, _⟩ := hu4
    go_wp2_with fail
    refine (refsame7_any _ _ L L _ HU2.out HU3.out.rows HLL.out).mono ?_
    rintro e w5 ⟨rfl, hb⟩
    replace HU3 := Lib.hid (HU3.out.go hb)
    replace HX := Lib.hid (HX.out.go hb)
    replace B := B.trans (hb.mono B.size)
    have hzw5 := B.size
    clear hb
    rw [show decide (L = L) = true by simp]
    go_wp2_with fail
    go_ret
    exact ⟨rfl, B⟩
set_option maxHeartbeats 2000000 in
theorem cutCuts_out (l s k : Int) (n : Nat) (v : Value) (o : List Nat) (i : Int) (w : World) (L : List (List Nat)) (hi : i < 0 ∨ (0 ≤ i ∧ (L.length : Int) ≤ i)) (hc : Cut11 L 0 [] 2 l s k n o i) (ho : Bytes w v o) (ho2 : o.length ≤ 2000) (hs : s ≤ 2000 ∨ 65535 < s) :
    Calls Try.prog 3 #[.agg #[.int .i64 l, .int .i64 s, .int .i64 k, .int .u32 (n : Int)], v, .int .i64 i] w fun e w' => e = .returned (.bool true) ∧ Below w.heap.size w w' := by
  obtain ⟨hC, hR, hY, hLL⟩ := hc
  have HC := Lib.hid hC
  have HR := Lib.hid hR
  have HY := Lib.hid hY
  have HLL := Lib.hid hLL
  have HO := Lib.hid ho
  obtain ⟨a, c, rfl, _⟩ := ho
  clear hC hR hY hLL
  have hb1 : ¬ (2000 : Int) < (o.length : Int) := by omega
  rcases hi with hi | ⟨hi0, hi⟩
  · skip
    rcases hs with hs | hs
    · have hs1 : ¬ 2000 < s := by omega
      go_enter Try.func3, Try.ntmps3
      go_wp2_with fail
      obtain ⟨B, hk1, hs⟩ := blocks1 w #[.int .i64 l, .int .i64 s, .int .i64 k, .int .u32 (n : Int)] 24
      generalize (w.alloc (.cells #[.int .i64 l, .int .i64 s, .int .i64 k, .int .u32 (n : Int)] 24)) = W at *
      have K1 := Lib.hid hk1
      have HS := Lib.hid hs
      clear hs hk1
      replace HO := Lib.hid (HO.out.go B)
      have hzW := B.size
      refine (awake11_any _).mono ?_
      rintro e w1 ⟨rfl, hb⟩
      replace K1 := Lib.hid (K1.out.go hb)
      replace HO := Lib.hid (HO.out.go hb)
      replace B := B.trans (hb.mono B.size)
      have hzw1 := B.size
      clear hb
      obtain ⟨p0, p1, p2, p3⟩ := K1.out.four
      have pl := K1.out.lt
      go_wp2_with fail
      clear p0 p1 p2 p3 pl
      refine (HC.out _ _ HO.out).mono ?_
      rintro e w2 ⟨u2, rfl, hu2, hb⟩
      replace K1 := Lib.hid (K1.out.go hb)
      replace HO := Lib.hid (HO.out.go hb)
      replace B := B.trans (hb.mono B.size)
      have hzw2 := B.size
      clear hb
      obtain ⟨ua, uc, rfl⟩ := hu2.shape
      have HU2 := Lib.hid hu2.rows
      clear hu2
      obtain ⟨p0, p1, p2, p3⟩ := K1.out.four
      have pl := K1.out.lt
      go_wp2_with fail
      clear p0 p1 p2 p3 pl
      refine (HR.out _ _ HO.out).mono ?_
      rintro e w3 ⟨u3, rfl, hu3, hb⟩
      replace K1 := Lib.hid (K1.out.go hb)
      replace HO := Lib.hid (HO.out.go hb)
      replace HU2 := Lib.hid (HU2.out.go hb)
      replace B := B.trans (hb.mono B.size)
      have hzw3 := B.size
      clear hb
      obtain ⟨va, vc, rfl⟩ := hu3.shape
      have HU3 := Lib.hid hu3
      clear hu3
      obtain ⟨p0, p1, p2, p3⟩ := K1.out.four
      have pl := K1.out.lt
      go_wp2_with fail
      clear p0 p1 p2 p3 pl
      refine (HY.out _ _ HO.out).mono ?_
      rintro e w4 ⟨u4, rfl, hu4, hb⟩
      replace HU2 := Lib.hid (HU2.out.go hb)
      replace HU3 := Lib.hid (HU3.out.go hb)
      replace B := B.trans (hb.mono B.size)
      have hzw4 := B.size
      clear hb
      have HX := Lib.hid hu4
      obtain ⟨xa, xc, rfl, _⟩ := hu4
      go_wp2_with fail
      refine (refsame7_any _ _ L L _ HU2.out HU3.out.rows HLL.out).mono ?_
      rintro e w5 ⟨rfl, hb⟩
      replace HU3 := Lib.hid (HU3.out.go hb)
      replace HX := Lib.hid (HX.out.go hb)
      replace B := B.trans (hb.mono B.size)
      have hzw5 := B.size
      clear hb
      rw [show decide (L = L) = true by simp]
      go_wp2_with fail
      go_ret
      exact ⟨rfl, B⟩
    · have hs1 : ¬ s ≤ 65535 := by omega
      have hs2 : 2000 < s := by omega
      go_enter Try.func3, Try.ntmps3
      go_wp2_with fail
      obtain ⟨B, hk1, hs⟩ := blocks1 w #[.int .i64 l, .int .i64 s, .int .i64 k, .int .u32 (n : Int)] 24
      generalize (w.alloc (.cells #[.int .i64 l, .int .i64 s, .int .i64 k, .int .u32 (n : Int)] 24)) = W at *
      have K1 := Lib.hid hk1
      have HS := Lib.hid hs
      clear hs hk1
      replace HO := Lib.hid (HO.out.go B)
      have hzW := B.size
      refine (awake11_any _).mono ?_
      rintro e w1 ⟨rfl, hb⟩
      replace K1 := Lib.hid (K1.out.go hb)
      replace HO := Lib.hid (HO.out.go hb)
      replace B := B.trans (hb.mono B.size)
      have hzw1 := B.size
      clear hb
      obtain ⟨p0, p1, p2, p3⟩ := K1.out.four
      have pl := K1.out.lt
      go_wp2_with fail
      clear p0 p1 p2 p3 pl
      refine (HC.out _ _ HO.out).mono ?_
      rintro e w2 ⟨u2, rfl, hu2, hb⟩
      replace K1 := Lib.hid (K1.out.go hb)
      replace HO := Lib.hid (HO.out.go hb)
      replace B := B.trans (hb.mono B.size)
      have hzw2 := B.size
      clear hb
      obtain ⟨ua, uc, rfl⟩ := hu2.shape
      have HU2 := Lib.hid hu2.rows
      clear hu2
      obtain ⟨p0, p1, p2, p3⟩ := K1.out.four
      have pl := K1.out.lt
      go_wp2_with fail
      clear p0 p1 p2 p3 pl
      refine (HR.out _ _ HO.out).mono ?_
      rintro e w3 ⟨u3, rfl, hu3, hb⟩
      replace K1 := Lib.hid (K1.out.go hb)
      replace HO := Lib.hid (HO.out.go hb)
      replace HU2 := Lib.hid (HU2.out.go hb)
      replace B := B.trans (hb.mono B.size)
      have hzw3 := B.size
      clear hb
      obtain ⟨va, vc, rfl⟩ := hu3.shape
      have HU3 := Lib.hid hu3
      clear hu3
      obtain ⟨p0, p1, p2, p3⟩ := K1.out.four
      have pl := K1.out.lt
      go_wp2_with fail
      clear p0 p1 p2 p3 pl
      refine (HY.out _ _ HO.out).mono ?_
      rintro e w4 ⟨u4, rfl, hu4, hb⟩
      replace HU2 := Lib.hid (HU2.out.go hb)
      replace HU3 := Lib.hid (HU3.out.go hb)
      replace B := B.trans (hb.mono B.size)
      have hzw4 := B.size
      clear hb
      have HX := Lib.hid hu4
      obtain ⟨xa, xc, rfl, _⟩ := hu4
      go_wp2_with fail
      refine (refsame7_any _ _ L L _ HU2.out HU3.out.rows HLL.out).mono ?_
      rintro e w5 ⟨rfl, hb⟩
      replace HU3 := Lib.hid (HU3.out.go hb)
      replace HX := Lib.hid (HX.out.go hb)
      replace B := B.trans (hb.mono B.size)
      have hzw5 := B.size
      clear hb
      rw [show decide (L = L) = true by simp]
      go_wp2_with fail
      go_ret
      exact ⟨rfl, B⟩
  · have hi1 : ¬ i < 0 := by omega
    rcases hs with hs | hs
    · have hs1 : ¬ 2000 < s := by omega
      go_enter Try.func3, Try.ntmps3
      go_wp2_with fail
      obtain ⟨B, hk1, hs⟩ := blocks1 w #[.int .i64 l, .int .i64 s, .int .i64 k, .int .u32 (n : Int)] 24
      generalize (w.alloc (.cells #[.int .i64 l, .int .i64 s, .int .i64 k, .int .u32 (n : Int)] 24)) = W at *
      have K1 := Lib.hid hk1
      have HS := Lib.hid hs
      clear hs hk1
      replace HO := Lib.hid (HO.out.go B)
      have hzW := B.size
      refine (awake11_any _).mono ?_
      rintro e w1 ⟨rfl, hb⟩
      replace K1 := Lib.hid (K1.out.go hb)
      replace HO := Lib.hid (HO.out.go hb)
      replace B := B.trans (hb.mono B.size)
      have hzw1 := B.size
      clear hb
      obtain ⟨p0, p1, p2, p3⟩ := K1.out.four
      have pl := K1.out.lt
      go_wp2_with fail
      clear p0 p1 p2 p3 pl
      refine (HC.out _ _ HO.out).mono ?_
      rintro e w2 ⟨u2, rfl, hu2, hb⟩
      replace K1 := Lib.hid (K1.out.go hb)
      replace HO := Lib.hid (HO.out.go hb)
      replace B := B.trans (hb.mono B.size)
      have hzw2 := B.size
      clear hb
      obtain ⟨ua, uc, rfl⟩ := hu2.shape
      have HU2 := Lib.hid hu2.rows
      clear hu2
      obtain ⟨p0, p1, p2, p3⟩ := K1.out.four
      have pl := K1.out.lt
      go_wp2_with fail
      clear p0 p1 p2 p3 pl
      refine (HR.out _ _ HO.out).mono ?_
      rintro e w3 ⟨u3, rfl, hu3, hb⟩
      replace K1 := Lib.hid (K1.out.go hb)
      replace HO := Lib.hid (HO.out.go hb)
      replace HU2 := Lib.hid (HU2.out.go hb)
      replace B := B.trans (hb.mono B.size)
      have hzw3 := B.size
      clear hb
      obtain ⟨va, vc, rfl⟩ := hu3.shape
      have HU3 := Lib.hid hu3
      clear hu3
      obtain ⟨p0, p1, p2, p3⟩ := K1.out.four
      have pl := K1.out.lt
      go_wp2_with fail
      clear p0 p1 p2 p3 pl
      refine (HY.out _ _ HO.out).mono ?_
      rintro e w4 ⟨u4, rfl, hu4, hb⟩
      replace HU2 := Lib.hid (HU2.out.go hb)
      replace HU3 := Lib.hid (HU3.out.go hb)
      replace B := B.trans (hb.mono B.size)
      have hzw4 := B.size
      clear hb
      have HX := Lib.hid hu4
      obtain ⟨xa, xc, rfl, _⟩ := hu4
      go_wp2_with fail
      refine (refsame7_any _ _ L L _ HU2.out HU3.out.rows HLL.out).mono ?_
      rintro e w5 ⟨rfl, hb⟩
      replace HU3 := Lib.hid (HU3.out.go hb)
      replace HX := Lib.hid (HX.out.go hb)
      replace B := B.trans (hb.mono B.size)
      have hzw5 := B.size
      clear hb
      rw [show decide (L = L) = true by simp]
      go_wp2_with fail
      go_ret
      exact ⟨rfl, B⟩
    · have hs1 : ¬ s ≤ 65535 := by omega
      have hs2 : 2000 < s := by omega
      go_enter Try.func3, Try.ntmps3
      go_wp2_with fail
      obtain ⟨B, hk1, hs⟩ := blocks1 w #[.int .i64 l, .int .i64 s, .int .i64 k, .int .u32 (n : Int)] 24
      generalize (w.alloc (.cells #[.int .i64 l, .int .i64 s, .int .i64 k, .int .u32 (n : Int)] 24)) = W at *
      have K1 := Lib.hid hk1
      have HS := Lib.hid hs
      clear hs hk1
      replace HO := Lib.hid (HO.out.go B)
      have hzW := B.size
      refine (awake11_any _).mono ?_
      rintro e w1 ⟨rfl, hb⟩
      replace K1 := Lib.hid (K1.out.go hb)
      replace HO := Lib.hid (HO.out.go hb)
      replace B := B.trans (hb.mono B.size)
      have hzw1 := B.size
      clear hb
      obtain ⟨p0, p1, p2, p3⟩ := K1.out.four
      have pl := K1.out.lt
      go_wp2_with fail
      clear p0 p1 p2 p3 pl
      refine (HC.out _ _ HO.out).mono ?_
      rintro e w2 ⟨u2, rfl, hu2, hb⟩
      replace K1 := Lib.hid (K1.out.go hb)
      replace HO := Lib.hid (HO.out.go hb)
      replace B := B.trans (hb.mono B.size)
      have hzw2 := B.size
      clear hb
      obtain ⟨ua, uc, rfl⟩ := hu2.shape
      have HU2 := Lib.hid hu2.rows
      clear hu2
      obtain ⟨p0, p1, p2, p3⟩ := K1.out.four
      have pl := K1.out.lt
      go_wp2_with fail
      clear p0 p1 p2 p3 pl
      refine (HR.out _ _ HO.out).mono ?_
      rintro e w3 ⟨u3, rfl, hu3, hb⟩
      replace K1 := Lib.hid (K1.out.go hb)
      replace HO := Lib.hid (HO.out.go hb)
      replace HU2 := Lib.hid (HU2.out.go hb)
      replace B := B.trans (hb.mono B.size)
      have hzw3 := B.size
      clear hb
      obtain ⟨va, vc, rfl⟩ := hu3.shape
      have HU3 := Lib.hid hu3
      clear hu3
      obtain ⟨p0, p1, p2, p3⟩ := K1.out.four
      have pl := K1.out.lt
      go_wp2_with fail
      clear p0 p1 p2 p3 pl
      refine (HY.out _ _ HO.out).mono ?_
      rintro e w4 ⟨u4, rfl, hu4, hb⟩
      replace HU2 := Lib.hid (HU2.out.go hb)
      replace HU3 := Lib.hid (HU3.out.go hb)
      replace B := B.trans (hb.mono B.size)
      have hzw4 := B.size
      clear hb
      have HX := Lib.hid hu4
      obtain ⟨xa, xc, rfl, _⟩ := hu4
      go_wp2_with fail
      refine (refsame7_any _ _ L L _ HU2.out HU3.out.rows HLL.out).mono ?_
      rintro e w5 ⟨rfl, hb⟩
      replace HU3 := Lib.hid (HU3.out.go hb)
      replace HX := Lib.hid (HX.out.go hb)
      replace B := B.trans (hb.mono B.size)
      have hzw5 := B.size
      clear hb
      rw [show decide (L = L) = true by simp]
      go_wp2_with fail
      go_ret
      exact ⟨rfl, B⟩
set_option maxHeartbeats 2000000 in
theorem cutCuts_in (l s k : Int) (n : Nat) (v : Value) (o : List Nat) (i' : Nat) (w : World) (L : List (List Nat)) (hi : i' < L.length) (hc : Cut11 L 0 (rowAt L i') 0 l s k n o i') (ho : Bytes w v o) (ho2 : o.length ≤ 2000) (hs : s ≤ 2000 ∨ 65535 < s) :
    Calls Try.prog 3 #[.agg #[.int .i64 l, .int .i64 s, .int .i64 k, .int .u32 (n : Int)], v, .int .i64 i'] w fun e w' => e = .returned (.bool true) ∧ Below w.heap.size w w' := by
  obtain ⟨hC, hR, hY, hLL⟩ := hc
  have HC := Lib.hid hC
  have HR := Lib.hid hR
  have HY := Lib.hid hY
  have HLL := Lib.hid hLL
  have HO := Lib.hid ho
  obtain ⟨a, c, rfl, _⟩ := ho
  clear hC hR hY hLL
  have hb1 : ¬ (2000 : Int) < (o.length : Int) := by omega
  have i0 : (0 : Int) ≤ (i' : Int) := Int.natCast_nonneg _
  have i1 : ¬ (i' : Int) < 0 := by omega
  have i2 : (i' : Int) < (L.length : Int) := by omega
  have i3 : ¬ (L.length : Int) ≤ (i' : Int) := by omega
  have HI := Lib.hid hi
  clear hi
  rcases hs with hs | hs
  · have hs1 : ¬ 2000 < s := by omega
    go_enter Try.func3, Try.ntmps3
    go_wp2_with fail
    obtain ⟨B, hk1, hs⟩ := blocks1 w #[.int .i64 l, .int .i64 s, .int .i64 k, .int .u32 (n : Int)] 24
    generalize (w.alloc (.cells #[.int .i64 l, .int .i64 s, .int .i64 k, .int .u32 (n : Int)] 24)) = W at *
    have K1 := Lib.hid hk1
    have HS := Lib.hid hs
    clear hs hk1
    replace HO := Lib.hid (HO.out.go B)
    have hzW := B.size
    refine (awake11_any _).mono ?_
    rintro e w1 ⟨rfl, hb⟩
    replace K1 := Lib.hid (K1.out.go hb)
    replace HO := Lib.hid (HO.out.go hb)
    replace B := B.trans (hb.mono B.size)
    have hzw1 := B.size
    clear hb
    obtain ⟨p0, p1, p2, p3⟩ := K1.out.four
    have pl := K1.out.lt
    go_wp2_with fail
    clear p0 p1 p2 p3 pl
    refine (HC.out _ _ HO.out).mono ?_
    rintro e w2 ⟨u2, rfl, hu2, hb⟩
    replace K1 := Lib.hid (K1.out.go hb)
    replace HO := Lib.hid (HO.out.go hb)
    replace B := B.trans (hb.mono B.size)
    have hzw2 := B.size
    clear hb
    obtain ⟨ua, uc, rfl⟩ := hu2.shape
    have HU2 := Lib.hid hu2.rows
    clear hu2
    obtain ⟨p0, p1, p2, p3⟩ := K1.out.four
    have pl := K1.out.lt
    go_wp2_with fail
    clear p0 p1 p2 p3 pl
    refine (HR.out _ _ HO.out).mono ?_
    rintro e w3 ⟨u3, rfl, hu3, hb⟩
    replace K1 := Lib.hid (K1.out.go hb)
    replace HO := Lib.hid (HO.out.go hb)
    replace HU2 := Lib.hid (HU2.out.go hb)
    replace B := B.trans (hb.mono B.size)
    have hzw3 := B.size
    clear hb
    obtain ⟨va, vc, rfl⟩ := hu3.shape
    have HU3 := Lib.hid hu3
    clear hu3
    obtain ⟨p0, p1, p2, p3⟩ := K1.out.four
    have pl := K1.out.lt
    go_wp2_with fail
    clear p0 p1 p2 p3 pl
    refine (HY.out _ _ HO.out).mono ?_
    rintro e w4 ⟨u4, rfl, hu4, hb⟩
    replace HU2 := Lib.hid (HU2.out.go hb)
    replace HU3 := Lib.hid (HU3.out.go hb)
    replace B := B.trans (hb.mono B.size)
    have hzw4 := B.size
    clear hb
    have HX := Lib.hid hu4
    obtain ⟨xa, xc, rfl, _⟩ := hu4
    go_wp2_with fail
    refine (refsame7_any _ _ L L _ HU2.out HU3.out.rows HLL.out).mono ?_
    rintro e w5 ⟨rfl, hb⟩
    replace HU3 := Lib.hid (HU3.out.go hb)
    replace HX := Lib.hid (HX.out.go hb)
    replace B := B.trans (hb.mono B.size)
    have hzw5 := B.size
    clear hb
    rw [show decide (L = L) = true by simp]
    obtain ⟨b9, o9, u9, rfl, c9, hB9⟩ := HU3.out.rows.row (Below.refl _ _) i' HI.out
    have HB9 := Lib.hid hB9
    obtain ⟨ra, rc, rfl, _⟩ := id hB9
    clear hB9
    go_wp2_with fail
    refine (same_any _ _ (rowAt L i') (rowAt L i') _ HX.out HB9.out).mono ?_
    rintro e w6 ⟨rfl, hb⟩
    replace B := B.trans (hb.mono B.size)
    have hzw6 := B.size
    clear hb
    rw [show decide (rowAt L i' = rowAt L i') = true by simp]
    go_wp2_with fail
    go_ret
    exact ⟨rfl, B⟩
  · have hs1 : ¬ s ≤ 65535 := by omega
    have hs2 : 2000 < s := by omega
    go_enter Try.func3, Try.ntmps3
    go_wp2_with fail
    obtain ⟨B, hk1, hs⟩ := blocks1 w #[.int .i64 l, .int .i64 s, .int .i64 k, .int .u32 (n : Int)] 24
    generalize (w.alloc (.cells #[.int .i64 l, .int .i64 s, .int .i64 k, .int .u32 (n : Int)] 24)) = W at *
    have K1 := Lib.hid hk1
    have HS := Lib.hid hs
    clear hs hk1
    replace HO := Lib.hid (HO.out.go B)
    have hzW := B.size
    refine (awake11_any _).mono ?_
    rintro e w1 ⟨rfl, hb⟩
    replace K1 := Lib.hid (K1.out.go hb)
    replace HO := Lib.hid (HO.out.go hb)
    replace B := B.trans (hb.mono B.size)
    have hzw1 := B.size
    clear hb
    obtain ⟨p0, p1, p2, p3⟩ := K1.out.four
    have pl := K1.out.lt
    go_wp2_with fail
    clear p0 p1 p2 p3 pl
    refine (HC.out _ _ HO.out).mono ?_
    rintro e w2 ⟨u2, rfl, hu2, hb⟩
    replace K1 := Lib.hid (K1.out.go hb)
    replace HO := Lib.hid (HO.out.go hb)
    replace B := B.trans (hb.mono B.size)
    have hzw2 := B.size
    clear hb
    obtain ⟨ua, uc, rfl⟩ := hu2.shape
    have HU2 := Lib.hid hu2.rows
    clear hu2
    obtain ⟨p0, p1, p2, p3⟩ := K1.out.four
    have pl := K1.out.lt
    go_wp2_with fail
    clear p0 p1 p2 p3 pl
    refine (HR.out _ _ HO.out).mono ?_
    rintro e w3 ⟨u3, rfl, hu3, hb⟩
    replace K1 := Lib.hid (K1.out.go hb)
    replace HO := Lib.hid (HO.out.go hb)
    replace HU2 := Lib.hid (HU2.out.go hb)
    replace B := B.trans (hb.mono B.size)
    have hzw3 := B.size
    clear hb
    obtain ⟨va, vc, rfl⟩ := hu3.shape
    have HU3 := Lib.hid hu3
    clear hu3
    obtain ⟨p0, p1, p2, p3⟩ := K1.out.four
    have pl := K1.out.lt
    go_wp2_with fail
    clear p0 p1 p2 p3 pl
    refine (HY.out _ _ HO.out).mono ?_
    rintro e w4 ⟨u4, rfl, hu4, hb⟩
    replace HU2 := Lib.hid (HU2.out.go hb)
    replace HU3 := Lib.hid (HU3.out.go hb)
    replace B := B.trans (hb.mono B.size)
    have hzw4 := B.size
    clear hb
    have HX := Lib.hid hu4
    obtain ⟨xa, xc, rfl, _⟩ := hu4
    go_wp2_with fail
    refine (refsame7_any _ _ L L _ HU2.out HU3.out.rows HLL.out).mono ?_
    rintro e w5 ⟨rfl, hb⟩
    replace HU3 := Lib.hid (HU3.out.go hb)
    replace HX := Lib.hid (HX.out.go hb)
    replace B := B.trans (hb.mono B.size)
    have hzw5 := B.size
    clear hb
    rw [show decide (L = L) = true by simp]
    obtain ⟨b9, o9, u9, rfl, c9, hB9⟩ := HU3.out.rows.row (Below.refl _ _) i' HI.out
    have HB9 := Lib.hid hB9
    obtain ⟨ra, rc, rfl, _⟩ := id hB9
    clear hB9
    go_wp2_with fail
    refine (same_any _ _ (rowAt L i') (rowAt L i') _ HX.out HB9.out).mono ?_
    rintro e w6 ⟨rfl, hb⟩
    replace B := B.trans (hb.mono B.size)
    have hzw6 := B.size
    clear hb
    rw [show decide (rowAt L i' = rowAt L i') = true by simp]
    go_wp2_with fail
    go_ret
    exact ⟨rfl, B⟩

set_option maxHeartbeats 2000000 in
theorem cutCuts_walk (l s k : Int) (n : Nat) (v : Value) (o : List Nat) (i : Int) (w : World) (h : -9223372036854775808 ≤ l ∧ l ≤ 9223372036854775807 ∧ -9223372036854775808 ≤ s ∧ s ≤ 9223372036854775807 ∧ -9223372036854775808 ≤ k ∧ k ≤ 9223372036854775807 ∧ n < 4294967296) (ho : Bytes w v o) (_ : -9223372036854775808 ≤ i) (_ : i ≤ 9223372036854775807) :
    Calls Try.prog 3 #[.agg #[.int .i64 l, .int .i64 s, .int .i64 k, .int .u32 (n : Int)], v, .int .i64 i] w fun e w' => e = .returned (.bool true) ∧ Below w.heap.size w w' := by
  obtain ⟨h0, h1, h2, h3, h4, h5, h6⟩ := h
  by_cases hbig : 2000 < o.length
  · have hb1 : (2000 : Int) < (o.length : Int) := by omega
    have HO := Lib.hid ho
    obtain ⟨a, c, rfl, _⟩ := ho
    go_enter Try.func3, Try.ntmps3
    go_wp2_with fail
    obtain ⟨B, hk1, hs⟩ := blocks1 w #[.int .i64 l, .int .i64 s, .int .i64 k, .int .u32 (n : Int)] 24
    generalize (w.alloc (.cells #[.int .i64 l, .int .i64 s, .int .i64 k, .int .u32 (n : Int)] 24)) = W at *
    have K1 := Lib.hid hk1
    have HS := Lib.hid hs
    clear hs hk1
    replace HO := Lib.hid (HO.out.go B)
    have hzW := B.size
    refine (awake11_any _).mono ?_
    rintro e w1 ⟨rfl, hb⟩
    replace K1 := Lib.hid (K1.out.go hb)
    replace HO := Lib.hid (HO.out.go hb)
    replace B := B.trans (hb.mono B.size)
    have hzw1 := B.size
    clear hb
    obtain ⟨p0, p1, p2, p3⟩ := K1.out.four
    have pl := K1.out.lt
    go_wp2_with fail
    go_ret
    exact ⟨rfl, B⟩
  · by_cases hs : 2000 < s ∧ s ≤ 65535
    · have hb1 : ¬ (2000 : Int) < (o.length : Int) := by omega
      have HO := Lib.hid ho
      obtain ⟨a, c, rfl, _⟩ := ho
      obtain ⟨hs1, hs2⟩ := hs
      go_enter Try.func3, Try.ntmps3
      go_wp2_with fail
      obtain ⟨B, hk1, hs⟩ := blocks1 w #[.int .i64 l, .int .i64 s, .int .i64 k, .int .u32 (n : Int)] 24
      generalize (w.alloc (.cells #[.int .i64 l, .int .i64 s, .int .i64 k, .int .u32 (n : Int)] 24)) = W at *
      have K1 := Lib.hid hk1
      have HS := Lib.hid hs
      clear hs hk1
      replace HO := Lib.hid (HO.out.go B)
      have hzW := B.size
      refine (awake11_any _).mono ?_
      rintro e w1 ⟨rfl, hb⟩
      replace K1 := Lib.hid (K1.out.go hb)
      replace HO := Lib.hid (HO.out.go hb)
      replace B := B.trans (hb.mono B.size)
      have hzw1 := B.size
      clear hb
      obtain ⟨p0, p1, p2, p3⟩ := K1.out.four
      have pl := K1.out.lt
      go_wp2_with fail
      go_ret
      exact ⟨rfl, B⟩
    · have hs' : s ≤ 2000 ∨ 65535 < s := by omega
      have ho2 : o.length ≤ 2000 := by omega
      have HC := fun v w ho => cutCut_any l s k (n : Int) v o w h0 h1 h3 ho
      have HR := fun v w ho => refcut_any l s k n v o w h1 ho
      have HY := fun v w ho => cutSymbol_any l s k (n : Int) i v o w h0 h1 h3 ho
      by_cases hE : cutE l s k o = 0
      · have e1 : cutS l s k o = cutL o s.toNat k.toNat := by unfold cutS; rw [if_pos hE]
        obtain ⟨_, q2, q3, q4, q5, _⟩ := check_ok (cut_fits hE).1
        rw [hE, e1] at HC HR
        have hll : (cutL o s.toNat k.toNat).length = k.toNat := cutL_length _ _ _
        by_cases hi : i < 0 ∨ k ≤ i
        · have e2 : symE l s k o i = 2 := by unfold symE; rw [if_pos hE, if_pos hi]
          have e3 : symS l s k o i = [] := by unfold symS; rw [e2, if_neg (by decide)]
          rw [e2, e3] at HY
          exact cutCuts_out l s k n v o i w _ (by rw [hll]; omega) ⟨HC, HR, HY, by rw [hll]; omega⟩ ho ho2 hs'
        · obtain ⟨i', rfl⟩ : ∃ i' : Nat, i = i' := ⟨i.toNat, by omega⟩
          have e2 : symE l s k o i' = 0 := by unfold symE; rw [if_pos hE, if_neg hi]
          have e3 : symS l s k o i' = rowAt (cutL o s.toNat k.toNat) i' := by
            unfold symS; rw [e2, if_pos rfl, cutL_at (by omega)]; rfl
          rw [e2, e3] at HY
          exact cutCuts_in l s k n v o i' w _ (by rw [hll]; omega) ⟨HC, HR, HY, by rw [hll]; omega⟩ ho ho2 hs'
      · have e1 : cutS l s k o = [] := by unfold cutS; rw [if_neg hE]
        have e2 : symE l s k o i = cutE l s k o := by unfold symE; rw [if_neg hE]
        have e3 : symS l s k o i = [] := by unfold symS; rw [e2, if_neg hE]
        rw [e1] at HC HR
        rw [e2, e3] at HY
        exact cutCuts_bad l s k n v o i w _ hE ⟨HC, HR, HY, by simp⟩ ho ho2 hs'

end Go.Proofs.Ytfefkchjhooloaa
