/- Texts of one seat, laid together: LawTwelveA, OpenPlan, LawTwelveB. -/
import Derived.Test.YtfefkchjhooloaaGlueJoinsQ5
import Derived.Test.YtfefkchjhooloaaGlueJoinsQ1
import Derived.Lib.SmallJoins

/-
  The laws of glue (layer 12): the example; what is gone through.
-/
set_option maxRecDepth 100000
namespace Go.Proofs.Ytfefkchjhooloaa
open Go.RowKit

/-- An answer, whichever. -/
def SomeB (w : World) (e : Ending) (w' : World) : Prop := ∃ t : Bool, e = .returned (.bool t) ∧ Below w.heap.size w w'
set_option maxHeartbeats 2000000 in
theorem few12_any (l s k n : Int) (v : Value) (ll : List (List Nat)) (w : World) (hl0 : -9223372036854775808 ≤ l) (hl : l ≤ 9223372036854775807) (hs2 : s ≤ 9223372036854775807) (hr : IsRows w v ll) :
    Calls Try.prog 19 #[.agg #[.int .i64 l, .int .i64 s, .int .i64 k, .int .u32 n], v] w (SomeB w) := by
  have HC := Lib.hid (fun w => check_any l s k n w hl0 hl hs2)
  obtain ⟨ce, hce⟩ : ∃ x, x = checkE l s k := ⟨_, rfl⟩
  rw [← hce] at HC
  have HR := Lib.hid hr
  have hlen : ll.length ≤ 9223372036854775807 := by obtain ⟨_, _, _, h1, h2, _⟩ := hr; omega
  obtain ⟨a, c, rfl⟩ := hr.shape
  clear hr hce
  go_enter Try.func19, Try.ntmps19
  go_wp2_with fail
  obtain ⟨B, hk1, hs⟩ := blocks1 w #[.int .i64 l, .int .i64 s, .int .i64 k, .int .u32 n] 24
  generalize (w.alloc (.cells #[.int .i64 l, .int .i64 s, .int .i64 k, .int .u32 n] 24)) = W at *
  have K1 := Lib.hid hk1
  have HS := Lib.hid hs
  clear hs hk1
  have hzW := B.size
  go_loopw [5, 7, 10] (fun m _ i wr => ∃ j : Nat, j ≤ ll.length ∧ i = .int .i64 j ∧ (∃ z : Int, m = .int .i64 z) ∧ Below w.heap.size w wr ∧ Blk wr w.heap.size #[.int .i64 l, .int .i64 s, .int .i64 k, .int .u32 n] 24) (fun _ _ i _ => ll.length - (intOf i).toNat)
  case atStart => exact ⟨0, by omega, rfl, ⟨0, rfl⟩, B, K1.out⟩
  case round =>
    clear B K1 HS hzW
    obtain ⟨j, hj, rfl, ⟨z, rfl⟩, B, hK⟩ := hrel
    have K1 := Lib.hid hK
    clear hK
    by_cases hlt : j < ll.length
    · obtain ⟨b, off, u, rfl, hu, hB⟩ := HR.out.row B j hlt
      obtain ⟨ra, rc, rfl, _⟩ := hB
      have i0 : (0 : Int) ≤ (j : Int) := Int.natCast_nonneg _
      have i1 : (j : Int) < (ll.length : Int) := by omega
      go_wp2_with fail
      go_roundw
      case rel => exact ⟨j + 1, by omega, by go_num, ⟨_, rfl⟩, B, K1.out⟩
      case measure => simp [intOf]; omega
    · obtain rfl : j = ll.length := by omega
      obtain ⟨k0, k1, k2, k3⟩ := K1.out.four
      have kl := K1.out.lt
      by_cases h1 : z ≤ 4000
      · by_cases h2 : (ll.length : Int) ≤ 200
        · by_cases h3 : l ≤ 4000
          · skip
            go_wp2_with fail
            go_ret
            exact ⟨_, rfl, B⟩
          · skip
            go_wp2_with fail
            refine (HC.out _).mono ?_
            rintro e w1 ⟨rfl, hb⟩
            replace B := B.trans (hb.mono B.size)
            have hzw1 := B.size
            clear hb
            go_wp2_with fail
            go_ret
            exact ⟨_, rfl, B⟩
        · skip
          go_wp2_with fail
          go_ret
          exact ⟨_, rfl, B⟩
      · skip
        go_wp2_with fail
        go_ret
        exact ⟨_, rfl, B⟩

theorem ex12 : allE 5 2 3 [[1, 2], [3, 4], [5, 9]] = 0 ∧ joinS 5 2 3 [[1, 2], [3, 4], [5, 9]] = [1, 2, 3, 4, 5] ∧ cleanB 5 2 3 [[1, 2], [3, 4], [5, 9]] = false := by decide +kernel
theorem ex12_join (v : Value) (w : World) (hr : IsRows w v [[1, 2], [3, 4], [5, 9]]) : Calls Try.prog 20 #[.agg #[.int .i64 5, .int .i64 2, .int .i64 3, .int .u32 0], v] w (BytesE w [1, 2, 3, 4, 5] 0) := by
  have h := join_any 5 2 3 0 v _ w (by omega) (by omega) (by omega) hr
  rw [ex12.1, ex12.2.1] at h
  exact h
theorem ex12_clean (v : Value) (w : World) (hr : IsRows w v [[1, 2], [3, 4], [5, 9]]) : Calls Try.prog 22 #[.agg #[.int .i64 5, .int .i64 2, .int .i64 3, .int .u32 0], v] w fun e w' => e = .returned (.bool false) ∧ Below w.heap.size w w' := by
  have h := clean_any 5 2 3 0 v _ w (by omega) (by omega) (by omega) hr
  rw [ex12.2.2] at h
  exact h
set_option maxHeartbeats 2000000 in
theorem awake12_any (w : World) :
    Calls Try.prog 18 #[] w fun e w' => e = .returned (.bool true) ∧ Below w.heap.size w w' := by
  have H1 := Lib.hid (fun w => of10_any 5 2 0 w (by omega) (by omega) (by omega))
  have HJ := Lib.hid ex12_join
  have HC := Lib.hid ex12_clean
  rw [ex11_of.1, ex11_of.2] at H1
  unfold PlanE okV at H1
  simp only [if_true] at H1
  unfold planV at H1
  go_enter Try.func18, Try.ntmps18
  go_wp2_with fail
  have B : Below w.heap.size w w := Below.refl _ _
  refine (H1.out _).mono ?_
  rintro e w1 ⟨rfl, hb⟩
  replace B := B.trans (hb.mono B.size)
  have hzw1 := B.size
  clear hb
  go_wp2_with fail
  have B1 := B
  clear B
  obtain ⟨Wp, hWp⟩ : ∃ Wp, Wp = w1.alloc (.cells #[.int .i64 5, .int .i64 2, .int .i64 3, .int .u32 0] 24) := ⟨_, rfl⟩
  have hzp : Wp.heap.size = w1.heap.size + 1 := by rw [hWp]; simp
  have KP := Lib.hid (show Blk Wp w1.heap.size #[.int .i64 5, .int .i64 2, .int .i64 3, .int .u32 0] 24 by rw [hWp]; exact Blk.new _ _ _ _ rfl)
  have BP := Lib.hid (show Below w.heap.size w Wp by rw [hWp]; exact B1.alloc B1.size _)
  rw [← hWp]
  simp only [← hzp]
  clear hWp hzp B1 hzw1
  obtain ⟨B, hk1, hk2, hk3, hk4, hs⟩ := blocks4 Wp #[.int .u8 1, .int .u8 2] 5 #[.int .u8 3, .int .u8 4] 5 #[.int .u8 5, .int .u8 9] 5 #[.slice (some ⟨Wp.heap.size, 0, none⟩) 2 2, .slice (some ⟨Wp.heap.size + 1, 0, none⟩) 2 2, .slice (some ⟨Wp.heap.size + 1 + 1, 0, none⟩) 2 2] 25
  generalize ((((Wp.alloc (.cells #[.int .u8 1, .int .u8 2] 5)).alloc (.cells #[.int .u8 3, .int .u8 4] 5)).alloc (.cells #[.int .u8 5, .int .u8 9] 5)).alloc (.cells #[.slice (some ⟨Wp.heap.size, 0, none⟩) 2 2, .slice (some ⟨Wp.heap.size + 1, 0, none⟩) 2 2, .slice (some ⟨Wp.heap.size + 1 + 1, 0, none⟩) 2 2] 25)) = W5 at *
  have K1 := Lib.hid hk1
  have K2 := Lib.hid hk2
  have K3 := Lib.hid hk3
  have K4 := Lib.hid hk4
  have HS := Lib.hid hs
  clear hs hk1 hk2 hk3 hk4
  replace KP := Lib.hid (KP.out.go B)
  have hzW5 := B.size
  replace B := BP.out.trans (B.mono BP.out.size)
  have HL := Lib.hid (K4.out.rows3 (K1.out.bytesK (n := 2) (L := [1, 2]) rfl (two_vals 1 2) (by decide) (by decide)) (K2.out.bytesK (n := 2) (L := [3, 4]) rfl (two_vals 3 4) (by decide) (by decide)) (K3.out.bytesK (n := 2) (L := [5, 9]) rfl (two_vals 5 9) (by decide) (by decide)))
  clear BP K1 K2 K3 K4 HS hzW5
  refine (HJ.out _ _ HL.out).mono ?_
  rintro e w6 ⟨u6, rfl, hu6, hb⟩
  replace KP := Lib.hid (KP.out.go hb)
  replace HL := Lib.hid (HL.out.go hb)
  replace B := B.trans (hb.mono B.size)
  have hzw6 := B.size
  clear hb
  have HU := Lib.hid hu6
  obtain ⟨ua, uc, rfl, _⟩ := hu6
  obtain ⟨p0, p1, p2, p3⟩ := KP.out.four
  have pl := KP.out.lt
  go_wp2_with fail
  clear p0 p1 p2 p3 pl
  obtain ⟨hb, hk, hs⟩ := blocks1 w6 #[.int .u8 1, .int .u8 2, .int .u8 3, .int .u8 4, .int .u8 5] 5
  generalize w6.alloc (.cells #[.int .u8 1, .int .u8 2, .int .u8 3, .int .u8 4, .int .u8 5] 5) = W7 at *
  have K7 := Lib.hid hk
  replace KP := Lib.hid (KP.out.go hb)
  replace HL := Lib.hid (HL.out.go hb)
  replace HU := Lib.hid (HU.out.go hb)
  replace B := B.trans (hb.mono B.size)
  have hzW7 := B.size
  clear hb hk hs
  have HB7 := Lib.hid (K7.out.bytesK (n := 5) (L := [1, 2, 3, 4, 5]) rfl five_vals (by decide) (by decide))
  refine (same_any _ _ [1, 2, 3, 4, 5] [1, 2, 3, 4, 5] _ HU.out HB7.out).mono ?_
  rintro e w8 ⟨rfl, hb⟩
  replace KP := Lib.hid (KP.out.go hb)
  replace HL := Lib.hid (HL.out.go hb)
  replace B := B.trans (hb.mono B.size)
  have hzw8 := B.size
  clear hb
  rw [show decide ([1, 2, 3, 4, 5] = [1, 2, 3, 4, 5]) = true by decide]
  obtain ⟨p0, p1, p2, p3⟩ := KP.out.four
  have pl := KP.out.lt
  go_wp2_with fail
  refine (HC.out _ _ HL.out).mono ?_
  rintro e w9 ⟨rfl, hb⟩
  replace B := B.trans (hb.mono B.size)
  have hzw9 := B.size
  clear hb
  go_wp2_with fail
  go_ret
  exact ⟨rfl, B⟩

end Go.Proofs.Ytfefkchjhooloaa

/-
  A plan that came in.
-/
set_option maxRecDepth 100000
namespace Go.Proofs.Ytfefkchjhooloaa
open Go.ChangeShapes Go.WideShapes Go.ChangeAt Go.RowKit Go.Deep

/-- A plan that came in. -/
theorem open_plan {H : Type} {enc : TypeId × Value → H} {P : Program} {t I U : TypeId} {f0 f1 f2 f3 : Field} (hs : P.underlying t = some (.struct #[f0, f1, f2, f3])) (hone : oneCellFields P #[f0, f1, f2, f3] = true) (hC : P.cellsOf t = 4)
    (e0 : f0.type = I) (e1 : f1.type = I) (e2 : f2.type = I) (e3 : f3.type = U) (hI : P.underlying I = some (.int .i64)) (hU : P.underlying U = some (.int .u32)) {W : World} {base : Nat} {v : Value} {d : DataW H} {p : List MemPlace}
    (hok : Value.okWide P W .any base t v) (h : DataW.Trod enc P W 0 (fun _ => true) true t v d p) :
    ∃ (l s k : Int) (n : Nat), v = .agg #[.int .i64 l, .int .i64 s, .int .i64 k, .int .u32 (n : Int)] ∧ (-9223372036854775808 ≤ l ∧ l ≤ 9223372036854775807 ∧ -9223372036854775808 ≤ s ∧ s ≤ 9223372036854775807 ∧ -9223372036854775808 ≤ k ∧ k ≤ 9223372036854775807 ∧ n < 4294967296) := by
  obtain ⟨v0, v1, v2, v3, y0, y1, y2, y3, m, rfl, _, _, h0, h1, h2, h3⟩ := Joins.open_agg4 hs hone hC hok h
  rw [e0] at h0
  rw [e1] at h1
  rw [e2] at h2
  rw [e3] at h3
  obtain ⟨l, c0, _, w0⟩ := DataW.trod_int hI h0
  obtain ⟨s, c1, _, w1⟩ := DataW.trod_int hI h1
  obtain ⟨k, c2, _, w2⟩ := DataW.trod_int hI h2
  obtain ⟨n, c3, _, w3⟩ := DataW.trod_int hU h3
  simp only [List.cons.injEq, and_true] at c0 c1 c2 c3
  subst c0
  subst c1
  subst c2
  subst c3
  obtain ⟨n', rfl, hn⟩ := u32_of w3
  obtain ⟨a0, a1⟩ := int_of w0
  obtain ⟨b0, b1⟩ := int_of w1
  obtain ⟨d0, d1⟩ := int_of w2
  exact ⟨l, s, k, n', rfl, a0, a1, b0, b1, d0, d1, hn⟩

end Go.Proofs.Ytfefkchjhooloaa

/-
  The laws of glue (layer 12): GlueJoins.
-/
set_option maxRecDepth 100000
namespace Go.Proofs.Ytfefkchjhooloaa
open Go.RowKit

theorem slice_head8 {a : Option Addr} {n c m : Nat} {l : Int} (hl : l = (m : Int)) (h : m ≤ c) (w : World) : (Instr.sliceAt 25 (.slice a n c) none (some (.int .i64 l)) none).run Try.prog w = .ok (.slice a m c) w := by
  subst hl
  have h1 : (m : Int) ≤ (c : Int) := by omega
  have h0 : (0 : Int) ≤ (m : Int) := Int.natCast_nonneg _
  cases a <;> go_simp
theorem same_self (v0 v1 : Value) (x : List Nat) (w : World) (h0 : Bytes w v0 x) (h1 : Bytes w v1 x) :
    Calls Try.prog 13 #[v0, v1] w fun e w' => e = .returned (.bool true) ∧ Below w.heap.size w w' := by
  have h := same_any v0 v1 x x w h0 h1
  rwa [show decide (x = x) = true by simp] at h
def Glue12 (l s k : Int) (n : Nat) (ll : List (List Nat)) (J A : List Nat) (E : Int) (C : Bool) : Prop :=
  (∀ v w, IsRows w v ll → Calls Try.prog 20 #[.agg #[.int .i64 l, .int .i64 s, .int .i64 k, .int .u32 (n : Int)], v] w (BytesE w J E)) ∧
  (∀ v w, IsRows w v ll → Calls Try.prog 21 #[.agg #[.int .i64 l, .int .i64 s, .int .i64 k, .int .u32 (n : Int)], v] w (BytesE w A E)) ∧
  (∀ v w, IsRows w v ll → Calls Try.prog 22 #[.agg #[.int .i64 l, .int .i64 s, .int .i64 k, .int .u32 (n : Int)], v] w fun e w' => e = .returned (.bool C) ∧ Below w.heap.size w w') ∧
  (∀ v w, IsRows w v ll → Calls Try.prog 19 #[.agg #[.int .i64 l, .int .i64 s, .int .i64 k, .int .u32 (n : Int)], v] w (SomeB w))
set_option maxHeartbeats 2000000 in
theorem glueJoins_bad (l s k : Int) (n : Nat) (v : Value) (ll : List (List Nat)) (w : World) (E : Int) (hE : E ≠ 0) (hg : Glue12 l s k n ll [] [] E false) (hr : IsRows w v ll) :
    Calls Try.prog 5 #[.agg #[.int .i64 l, .int .i64 s, .int .i64 k, .int .u32 (n : Int)], v] w fun e w' => e = .returned (.bool true) ∧ Below w.heap.size w w' := by
  have hb : (E != 0) = true := by rw [bne_iff_ne]; exact hE
  obtain ⟨hJ, hA, hC, hF⟩ := hg
  have HJ := Lib.hid hJ
  have HA := Lib.hid hA
  have HC := Lib.hid hC
  have HF := Lib.hid hF
  have HR := Lib.hid hr
  obtain ⟨a, c, rfl⟩ := hr.shape
  clear hJ hA hC hF hr
  go_enter Try.func5, Try.ntmps5
  go_wp2_with fail
  obtain ⟨B, hk1, hs⟩ := blocks1 w #[.int .i64 l, .int .i64 s, .int .i64 k, .int .u32 (n : Int)] 24
  generalize (w.alloc (.cells #[.int .i64 l, .int .i64 s, .int .i64 k, .int .u32 (n : Int)] 24)) = W at *
  have K1 := Lib.hid hk1
  have HS := Lib.hid hs
  clear hs hk1
  replace HR := Lib.hid (HR.out.go B)
  have hzW := B.size
  obtain ⟨g, hg⟩ : ∃ g : Nat, g = w.heap.size := ⟨_, rfl⟩
  rw [← hg] at K1
  simp only [← hg]
  clear hg HS
  refine (awake12_any _).mono ?_
  rintro e w1 ⟨rfl, hb⟩
  replace K1 := Lib.hid (K1.out.go hb)
  replace HR := Lib.hid (HR.out.go hb)
  replace B := B.trans (hb.mono B.size)
  have hzw1 := B.size
  clear hb
  obtain ⟨p0, p1, p2, p3⟩ := K1.out.four
  have pl := K1.out.lt
  go_wp2_with fail
  clear p0 p1 p2 p3 pl
  refine (HF.out _ _ HR.out).mono ?_
  rintro e w2 ⟨t, rfl, hb⟩
  replace K1 := Lib.hid (K1.out.go hb)
  replace HR := Lib.hid (HR.out.go hb)
  replace B := B.trans (hb.mono B.size)
  have hzw2 := B.size
  clear hb
  cases t with
  | false =>
    go_wp2_with fail
    go_ret
    exact ⟨rfl, B⟩
  | true =>
    obtain ⟨p0, p1, p2, p3⟩ := K1.out.four
    have pl := K1.out.lt
    go_wp2_with fail
    clear p0 p1 p2 p3 pl
    refine (HJ.out _ _ HR.out).mono ?_
    rintro e w3 ⟨u3, rfl, hu3, hb⟩
    replace K1 := Lib.hid (K1.out.go hb)
    replace HR := Lib.hid (HR.out.go hb)
    replace B := B.trans (hb.mono B.size)
    have hzw3 := B.size
    clear hb
    have HU3 := Lib.hid hu3
    obtain ⟨ja, jc, rfl, _⟩ := hu3
    obtain ⟨p0, p1, p2, p3⟩ := K1.out.four
    have pl := K1.out.lt
    go_wp2_with fail
    clear p0 p1 p2 p3 pl
    refine (HA.out _ _ HR.out).mono ?_
    rintro e w4 ⟨u4, rfl, hu4, hb⟩
    replace K1 := Lib.hid (K1.out.go hb)
    replace HR := Lib.hid (HR.out.go hb)
    replace HU3 := Lib.hid (HU3.out.go hb)
    replace B := B.trans (hb.mono B.size)
    have hzw4 := B.size
    clear hb
    have HU4 := Lib.hid hu4
    obtain ⟨aa, aq, rfl, _⟩ := id hu4
    clear hu4
    obtain ⟨p0, p1, p2, p3⟩ := K1.out.four
    have pl := K1.out.lt
    go_wp2_with fail
    refine (HC.out _ _ HR.out).mono ?_
    rintro e w5 ⟨rfl, hb⟩
    replace B := B.trans (hb.mono B.size)
    have hzw5 := B.size
    clear hb
    go_wp2_with fail
    go_ret
    exact ⟨rfl, B⟩
set_option maxHeartbeats 2000000 in
theorem glueJoins_good (l' : Nat) (s k : Int) (n : Nat) (v : Value) (ll : List (List Nat)) (w : World) (A J : List Nat) (hJ : J = A.take l') (hl : l' ≤ A.length) (hg : Glue12 (l' : Int) s k n ll J A 0 (zeroB (A.drop l'))) (hr : IsRows w v ll) :
    Calls Try.prog 5 #[.agg #[.int .i64 (l' : Int), .int .i64 s, .int .i64 k, .int .u32 (n : Int)], v] w fun e w' => e = .returned (.bool true) ∧ Below w.heap.size w w' := by
  obtain ⟨l, hlI⟩ : ∃ l : Int, l = (l' : Int) := ⟨_, rfl⟩
  rw [← hlI] at hg ⊢
  have HLI := Lib.hid hlI
  have HJ0 := Lib.hid hJ
  clear hlI hJ
  obtain ⟨hJ, hA, hC, hF⟩ := hg
  have HJ := Lib.hid hJ
  have HA := Lib.hid hA
  have HC := Lib.hid hC
  have HF := Lib.hid hF
  have HR := Lib.hid hr
  obtain ⟨a, c, rfl⟩ := hr.shape
  clear hJ hA hC hF hr
  go_enter Try.func5, Try.ntmps5
  go_wp2_with fail
  obtain ⟨B, hk1, hs⟩ := blocks1 w #[.int .i64 l, .int .i64 s, .int .i64 k, .int .u32 (n : Int)] 24
  generalize (w.alloc (.cells #[.int .i64 l, .int .i64 s, .int .i64 k, .int .u32 (n : Int)] 24)) = W at *
  have K1 := Lib.hid hk1
  have HS := Lib.hid hs
  clear hs hk1
  replace HR := Lib.hid (HR.out.go B)
  have hzW := B.size
  obtain ⟨g, hg⟩ : ∃ g : Nat, g = w.heap.size := ⟨_, rfl⟩
  rw [← hg] at K1
  simp only [← hg]
  clear hg HS
  refine (awake12_any _).mono ?_
  rintro e w1 ⟨rfl, hb⟩
  replace K1 := Lib.hid (K1.out.go hb)
  replace HR := Lib.hid (HR.out.go hb)
  replace B := B.trans (hb.mono B.size)
  have hzw1 := B.size
  clear hb
  obtain ⟨p0, p1, p2, p3⟩ := K1.out.four
  have pl := K1.out.lt
  go_wp2_with fail
  clear p0 p1 p2 p3 pl
  refine (HF.out _ _ HR.out).mono ?_
  rintro e w2 ⟨t, rfl, hb⟩
  replace K1 := Lib.hid (K1.out.go hb)
  replace HR := Lib.hid (HR.out.go hb)
  replace B := B.trans (hb.mono B.size)
  have hzw2 := B.size
  clear hb
  cases t with
  | false =>
    go_wp2_with fail
    go_ret
    exact ⟨rfl, B⟩
  | true =>
    obtain ⟨p0, p1, p2, p3⟩ := K1.out.four
    have pl := K1.out.lt
    go_wp2_with fail
    clear p0 p1 p2 p3 pl
    refine (HJ.out _ _ HR.out).mono ?_
    rintro e w3 ⟨u3, rfl, hu3, hb⟩
    replace K1 := Lib.hid (K1.out.go hb)
    replace HR := Lib.hid (HR.out.go hb)
    replace B := B.trans (hb.mono B.size)
    have hzw3 := B.size
    clear hb
    have HU3 := Lib.hid hu3
    obtain ⟨ja, jc, rfl, _⟩ := hu3
    obtain ⟨p0, p1, p2, p3⟩ := K1.out.four
    have pl := K1.out.lt
    go_wp2_with fail
    clear p0 p1 p2 p3 pl
    refine (HA.out _ _ HR.out).mono ?_
    rintro e w4 ⟨u4, rfl, hu4, hb⟩
    replace K1 := Lib.hid (K1.out.go hb)
    replace HR := Lib.hid (HR.out.go hb)
    replace HU3 := Lib.hid (HU3.out.go hb)
    replace B := B.trans (hb.mono B.size)
    have hzw4 := B.size
    clear hb
    have HU4 := Lib.hid hu4
    obtain ⟨aa, aq, rfl, _⟩ := id hu4
    clear hu4
    obtain ⟨b5, d5, c5, hsl, hbr⟩ := slice_rest HU4.out hl
    rw [← HLI.out] at hsl
    have HBR := Lib.hid hbr
    have HBT := Lib.hid (HU4.out.take hl)
    rw [← HJ0.out] at HBT
    have hac : l' ≤ aq := by
      obtain ⟨_, c', e, h', _⟩ := HU4.out
      simp only [Value.slice.injEq] at e
      rw [e.2.2]
      omega
    have hsh := slice_head8 (a := aa) (n := A.length) HLI.out hac
    have HSM := Lib.hid (fun (v0 v1 : Value) (w : World) (h0 : Bytes w v0 J) (h1 : Bytes w v1 J) => same_self v0 v1 J w h0 h1)
    clear hl hac
    obtain ⟨Z, hZ⟩ : ∃ Z, Z = zeroB (A.drop l') := ⟨_, rfl⟩
    have HRZ := Lib.hid (fun (v : Value) (w : World) (h : Bytes w v (A.drop l')) => refzero_any v (A.drop l') w h)
    rw [← hZ] at HC HRZ
    clear hbr hZ
    go_wp2_with fail
    refine wp_region_mono (C := Cb w4) (R := Rb) (H := fun _ => Hb w4) [Ty.val 43 (.int .i64 0), Ty.val 44 (.bool true), Ty.val 45 (.bool true), Ty.val 46 (.slice ja J.length jc), Ty.val 47 (.slice aa A.length aq), Ty.val 48 (.pointer (some ⟨g, 0, none⟩)), Ty.val 49 (.int .i64 l), Ty.val 50 (.slice aa l' aq), Ty.val 51 (.bool true), Ty.val 52 (.bool true), Ty.val 53 (.bool true), Ty.val 54 (.agg #[.int .i64 l, .int .i64 s, .int .i64 k, .int .u32 (n : Int)]), Ty.val 55 (.slice a ll.length c), Ty.val 56 (.bool Z), Ty.val 57 (.slice aa A.length aq), Ty.val 58 (.pointer (some ⟨g, 0, none⟩)), Ty.val 59 (.int .i64 l), Ty.val 60 (.slice b5 d5 c5), Ty.val 61 (.bool Z), Ty.val 62 (.bool true), Ty.val 63 (.bool true), Ty.val 4 (.bool true)] (by kernel_rfl) (hC_b w4) (hCH_b w4) (drew_b w4) ⟨trivial, trivial, trivial, trivial, trivial, trivial, trivial, trivial, trivial, trivial, trivial, trivial, trivial, trivial, trivial, trivial, trivial, trivial, trivial, trivial, trivial, trivial, trivial⟩ (by kernel_rfl) ?_ ?_
    · refine ⟨?_, ?_, ?_, ?_, ?_, ?_, ?_, ?_, ?_, ?_, ?_, ?_, ?_, ?_, ?_, ?_, ?_, ?_, ?_, ?_, ?_, ?_, trivial⟩
      · intro ac wc hC hsz hfr hd hpr
        have d6 : ac.eval (.tmp 6) = (.int .i64 0) := hfr 6 rfl
        rw [if_pos (wanted_none rfl)]
        exact ob_copy rfl rfl rfl (Nat.lt_of_lt_of_eq (by decide : 43 < 64) hsz.symm) (Or.inl rfl) (Below.refl _ _) d6
      · intro ac wc hC hsz hfr hd hpr
        have d43 : ac.eval (.tmp 43) = (.int .i64 0) := hd 0 rfl
        rw [if_pos (wanted_none rfl)]
        exact ob_bin _ rfl rfl rfl (Nat.lt_of_lt_of_eq (by decide : 44 < 64) hsz.symm) rfl d43 rfl (eql_err (x := .tmp 43) (y := .const (.int .i64 0)) (by simp)) (Below.refl _ _) rfl
      · intro ac wc hC hsz hfr hd hpr
        have d44 : ac.eval (.tmp 44) = (.bool true) := hd 1 rfl
        rw [if_pos (wanted_none rfl)]
        exact ob_copy rfl rfl rfl (Nat.lt_of_lt_of_eq (by decide : 45 < 64) hsz.symm) (Or.inl rfl) (Below.refl _ _) d44
      · intro ac wc hC hsz hfr hd hpr
        have d45 : ac.eval (.tmp 45) = (.bool true) := hd 2 rfl
        have d5 : ac.eval (.tmp 5) = (.slice ja J.length jc) := hfr 5 rfl
        rw [if_pos (wanted_some rfl (yielded_of rfl d45))]
        exact ob_copy rfl rfl rfl (Nat.lt_of_lt_of_eq (by decide : 46 < 64) hsz.symm) (Or.inl rfl) (Below.refl _ _) d5
      · intro ac wc hC hsz hfr hd hpr
        have d45 : ac.eval (.tmp 45) = (.bool true) := hd 2 rfl
        have d7 : ac.eval (.tmp 7) = (.slice aa A.length aq) := hfr 7 rfl
        rw [if_pos (wanted_some rfl (yielded_of rfl d45))]
        exact ob_copy rfl rfl rfl (Nat.lt_of_lt_of_eq (by decide : 47 < 64) hsz.symm) (Or.inl rfl) (Below.refl _ _) d7
      · intro ac wc hC hsz hfr hd hpr
        have d45 : ac.eval (.tmp 45) = (.bool true) := hd 2 rfl
        have d2 : ac.eval (.tmp 2) = (.pointer (some ⟨g, 0, none⟩)) := hfr 2 rfl
        rw [if_pos (wanted_some rfl (yielded_of rfl d45))]
        exact ob_field _ rfl rfl rfl (Nat.lt_of_lt_of_eq (by decide : 48 < 64) hsz.symm) rfl d2 (fun w => by go_simp) (Below.refl _ _) rfl
      · intro ac wc hC hsz hfr hd hpr
        have d45 : ac.eval (.tmp 45) = (.bool true) := hd 2 rfl
        have d48 : ac.eval (.tmp 48) = (.pointer (some ⟨g, 0, none⟩)) := hd 5 rfl
        rw [if_pos (wanted_some rfl (yielded_of rfl d45))]
        exact ob_load _ rfl rfl rfl (Nat.lt_of_lt_of_eq (by decide : 49 < 64) hsz.symm) rfl d48 (load_int ((K1.out.go hC).cell 0)) (Below.refl _ _) rfl
      · intro ac wc hC hsz hfr hd hpr
        have d45 : ac.eval (.tmp 45) = (.bool true) := hd 2 rfl
        have d47 : ac.eval (.tmp 47) = (.slice aa A.length aq) := hd 4 rfl
        have d49 : ac.eval (.tmp 49) = (.int .i64 l) := hd 6 rfl
        rw [if_pos (wanted_some rfl (yielded_of rfl d45))]
        exact ob_sliceTo _ rfl rfl rfl (Nat.lt_of_lt_of_eq (by decide : 50 < 64) hsz.symm) rfl d47 d49 (hsh wc) (Below.refl _ _) rfl
      · intro ac wc hC hsz hfr hd hpr
        have d45 : ac.eval (.tmp 45) = (.bool true) := hd 2 rfl
        have d46 : ac.eval (.tmp 46) = (.slice ja J.length jc) := hd 3 rfl
        have d50 : ac.eval (.tmp 50) = (.slice aa l' aq) := hd 7 rfl
        rw [if_pos (wanted_some rfl (yielded_of rfl d45))]
        refine ob_call rfl rfl rfl (Nat.lt_of_lt_of_eq (by decide : 51 < 64) hsz.symm) rfl (enter_of Try.func13 (by kernel_rfl) rfl) ?_
        show Calls Try.prog 13 #[ac.eval (.tmp 46), ac.eval (.tmp 50)] wc _
        rw [d46, d50]
        exact (HSM.out _ _ wc (HU3.out.go hC) (HBT.out.go hC)).mono fun _ _ ⟨he, hb⟩ => ⟨_, he, rfl, hb⟩
      · intro ac wc hC hsz hfr hd hpr
        have d45 : ac.eval (.tmp 45) = (.bool true) := hd 2 rfl
        have d51 : ac.eval (.tmp 51) = (.bool true) := hd 8 rfl
        rw [if_pos (wanted_none rfl)]
        exact ob_pick rfl rfl rfl (Nat.lt_of_lt_of_eq (by decide : 52 < 64) hsz.symm) rfl d45 (Below.refl _ _) d51
      · intro ac wc hC hsz hfr hd hpr
        have d52 : ac.eval (.tmp 52) = (.bool true) := hd 9 rfl
        rw [if_pos (wanted_none rfl)]
        exact ob_copy rfl rfl rfl (Nat.lt_of_lt_of_eq (by decide : 53 < 64) hsz.symm) (Or.inl rfl) (Below.refl _ _) d52
      · intro ac wc hC hsz hfr hd hpr
        have d53 : ac.eval (.tmp 53) = (.bool true) := hd 10 rfl
        have d2 : ac.eval (.tmp 2) = (.pointer (some ⟨g, 0, none⟩)) := hfr 2 rfl
        rw [if_pos (wanted_some rfl (yielded_of rfl d53))]
        exact ob_load _ rfl rfl rfl (Nat.lt_of_lt_of_eq (by decide : 54 < 64) hsz.symm) rfl d2 (load_plan10 (K1.out.go hC)) (Below.refl _ _) rfl
      · intro ac wc hC hsz hfr hd hpr
        have d53 : ac.eval (.tmp 53) = (.bool true) := hd 10 rfl
        have d1 : ac.eval (.tmp 1) = (.slice a ll.length c) := hfr 1 rfl
        rw [if_pos (wanted_some rfl (yielded_of rfl d53))]
        exact ob_copy rfl rfl rfl (Nat.lt_of_lt_of_eq (by decide : 55 < 64) hsz.symm) (Or.inl rfl) (Below.refl _ _) d1
      · intro ac wc hC hsz hfr hd hpr
        have d53 : ac.eval (.tmp 53) = (.bool true) := hd 10 rfl
        have d54 : ac.eval (.tmp 54) = (.agg #[.int .i64 l, .int .i64 s, .int .i64 k, .int .u32 (n : Int)]) := hd 11 rfl
        have d55 : ac.eval (.tmp 55) = (.slice a ll.length c) := hd 12 rfl
        rw [if_pos (wanted_some rfl (yielded_of rfl d53))]
        refine ob_call rfl rfl rfl (Nat.lt_of_lt_of_eq (by decide : 56 < 64) hsz.symm) rfl (enter_of Try.func22 (by kernel_rfl) rfl) ?_
        show Calls Try.prog 22 #[ac.eval (.tmp 54), ac.eval (.tmp 55)] wc _
        rw [d54, d55]
        exact (HC.out _ wc (HR.out.go hC)).mono fun _ _ ⟨he, hb⟩ => ⟨_, he, rfl, hb⟩
      · intro ac wc hC hsz hfr hd hpr
        have d53 : ac.eval (.tmp 53) = (.bool true) := hd 10 rfl
        have d7 : ac.eval (.tmp 7) = (.slice aa A.length aq) := hfr 7 rfl
        rw [if_pos (wanted_some rfl (yielded_of rfl d53))]
        exact ob_copy rfl rfl rfl (Nat.lt_of_lt_of_eq (by decide : 57 < 64) hsz.symm) (Or.inl rfl) (Below.refl _ _) d7
      · intro ac wc hC hsz hfr hd hpr
        have d53 : ac.eval (.tmp 53) = (.bool true) := hd 10 rfl
        have d2 : ac.eval (.tmp 2) = (.pointer (some ⟨g, 0, none⟩)) := hfr 2 rfl
        rw [if_pos (wanted_some rfl (yielded_of rfl d53))]
        exact ob_field _ rfl rfl rfl (Nat.lt_of_lt_of_eq (by decide : 58 < 64) hsz.symm) rfl d2 (fun w => by go_simp) (Below.refl _ _) rfl
      · intro ac wc hC hsz hfr hd hpr
        have d53 : ac.eval (.tmp 53) = (.bool true) := hd 10 rfl
        have d58 : ac.eval (.tmp 58) = (.pointer (some ⟨g, 0, none⟩)) := hd 15 rfl
        rw [if_pos (wanted_some rfl (yielded_of rfl d53))]
        exact ob_load _ rfl rfl rfl (Nat.lt_of_lt_of_eq (by decide : 59 < 64) hsz.symm) rfl d58 (load_int ((K1.out.go hC).cell 0)) (Below.refl _ _) rfl
      · intro ac wc hC hsz hfr hd hpr
        have d53 : ac.eval (.tmp 53) = (.bool true) := hd 10 rfl
        have d57 : ac.eval (.tmp 57) = (.slice aa A.length aq) := hd 14 rfl
        have d59 : ac.eval (.tmp 59) = (.int .i64 l) := hd 16 rfl
        rw [if_pos (wanted_some rfl (yielded_of rfl d53))]
        exact ob_sliceFrom _ rfl rfl rfl (Nat.lt_of_lt_of_eq (by decide : 60 < 64) hsz.symm) rfl d57 d59 (hsl wc) (Below.refl _ _) rfl
      · intro ac wc hC hsz hfr hd hpr
        have d53 : ac.eval (.tmp 53) = (.bool true) := hd 10 rfl
        have d60 : ac.eval (.tmp 60) = (.slice b5 d5 c5) := hd 17 rfl
        rw [if_pos (wanted_some rfl (yielded_of rfl d53))]
        refine ob_call rfl rfl rfl (Nat.lt_of_lt_of_eq (by decide : 61 < 64) hsz.symm) rfl (enter_of Try.func16 (by kernel_rfl) rfl) ?_
        show Calls Try.prog 16 #[ac.eval (.tmp 60)] wc _
        rw [d60]
        exact (HRZ.out _ wc (HBR.out.go hC)).mono fun _ _ ⟨he, hw⟩ => ⟨_, he, rfl, hw ▸ Below.refl _ _⟩
      · intro ac wc hC hsz hfr hd hpr
        have d53 : ac.eval (.tmp 53) = (.bool true) := hd 10 rfl
        have d56 : ac.eval (.tmp 56) = (.bool Z) := hd 13 rfl
        have d61 : ac.eval (.tmp 61) = (.bool Z) := hd 18 rfl
        rw [if_pos (wanted_some rfl (yielded_of rfl d53))]
        exact ob_bin _ rfl rfl rfl (Nat.lt_of_lt_of_eq (by decide : 62 < 64) hsz.symm) rfl d56 d61 (eql_bool (by simp)) (Below.refl _ _) rfl
      · intro ac wc hC hsz hfr hd hpr
        have d53 : ac.eval (.tmp 53) = (.bool true) := hd 10 rfl
        have d62 : ac.eval (.tmp 62) = (.bool true) := hd 19 rfl
        rw [if_pos (wanted_none rfl)]
        exact ob_pick rfl rfl rfl (Nat.lt_of_lt_of_eq (by decide : 63 < 64) hsz.symm) rfl d53 (Below.refl _ _) d62
      · intro ac wc hC hsz hfr hd hpr
        have d63 : ac.eval (.tmp 63) = (.bool true) := hd 20 rfl
        rw [if_pos (wanted_none rfl)]
        exact ob_copy rfl rfl rfl (Nat.lt_of_lt_of_eq (by decide : 4 < 64) hsz.symm) (Or.inr rfl) (Below.refl _ _) d63
    intro a' W5 hC hdef hsz hfr hd
    have e43 : a'.eval (.tmp 43) = (.int .i64 0) := hd 0 (by decide)
    have e44 : a'.eval (.tmp 44) = (.bool true) := hd 1 (by decide)
    have e45 : a'.eval (.tmp 45) = (.bool true) := hd 2 (by decide)
    have e46 : a'.eval (.tmp 46) = (.slice ja J.length jc) := hd 3 (by decide)
    have e47 : a'.eval (.tmp 47) = (.slice aa A.length aq) := hd 4 (by decide)
    have e48 : a'.eval (.tmp 48) = (.pointer (some ⟨g, 0, none⟩)) := hd 5 (by decide)
    have e49 : a'.eval (.tmp 49) = (.int .i64 l) := hd 6 (by decide)
    have e50 : a'.eval (.tmp 50) = (.slice aa l' aq) := hd 7 (by decide)
    have e51 : a'.eval (.tmp 51) = (.bool true) := hd 8 (by decide)
    have e52 : a'.eval (.tmp 52) = (.bool true) := hd 9 (by decide)
    have e53 : a'.eval (.tmp 53) = (.bool true) := hd 10 (by decide)
    have e54 : a'.eval (.tmp 54) = (.agg #[.int .i64 l, .int .i64 s, .int .i64 k, .int .u32 (n : Int)]) := hd 11 (by decide)
    have e55 : a'.eval (.tmp 55) = (.slice a ll.length c) := hd 12 (by decide)
    have e56 : a'.eval (.tmp 56) = (.bool Z) := hd 13 (by decide)
    have e57 : a'.eval (.tmp 57) = (.slice aa A.length aq) := hd 14 (by decide)
    have e58 : a'.eval (.tmp 58) = (.pointer (some ⟨g, 0, none⟩)) := hd 15 (by decide)
    have e59 : a'.eval (.tmp 59) = (.int .i64 l) := hd 16 (by decide)
    have e60 : a'.eval (.tmp 60) = (.slice b5 d5 c5) := hd 17 (by decide)
    have e61 : a'.eval (.tmp 61) = (.bool Z) := hd 18 (by decide)
    have e62 : a'.eval (.tmp 62) = (.bool true) := hd 19 (by decide)
    have e63 : a'.eval (.tmp 63) = (.bool true) := hd 20 (by decide)
    have e4 : a'.eval (.tmp 4) = (.bool true) := hd 21 (by decide)
    have hact := act_puts hdef hsz hfr
    simp only [dstsOf, List.filterMap, putAll, Act.put, List.setIfInBounds_toArray, List.set_cons_succ, List.set_cons_zero, e43, e44, e45, e46, e47, e48, e49, e50, e51, e52, e53, e54, e55, e56, e57, e58, e59, e60, e61, e62, e63, e4] at hact
    clear hd hfr hsz hdef e43 e44 e45 e46 e47 e48 e49 e50 e51 e52 e53 e54 e55 e56 e57 e58 e59 e60 e61 e62 e63 e4
    subst hact
    replace B := B.trans (hC.mono B.size)
    clear hC
    go_wp2_with fail
    go_ret
    exact ⟨rfl, B⟩

theorem all_long {l s k : Int} {ll : List (List Nat)} (h : allE l s k ll = 0) : l.toNat ≤ (joinL ll).length := by
  obtain ⟨hc, hk, hrow⟩ := all_fits h
  obtain ⟨p1, p2, p3, p4, p5, -, q7⟩ := check_ok10 hc
  have h1 := joinL_len (ll := ll) (s := s.toNat) ll.length (Nat.le_refl _) (fun i hi => by have := hrow i hi; omega)
  rw [List.take_length] at h1
  rw [h1]
  obtain ⟨s', rfl⟩ : ∃ s' : Nat, s = s' := ⟨s.toNat, by omega⟩
  rw [← hk, ← Int.natCast_mul] at q7
  rw [Int.toNat_natCast]
  omega
theorem glueJoins_walk (l s k : Int) (n : Nat) (v : Value) (ll : List (List Nat)) (w : World) (h : -9223372036854775808 ≤ l ∧ l ≤ 9223372036854775807 ∧ -9223372036854775808 ≤ s ∧ s ≤ 9223372036854775807 ∧ -9223372036854775808 ≤ k ∧ k ≤ 9223372036854775807 ∧ n < 4294967296) (hr : IsRows w v ll) :
    Calls Try.prog 5 #[.agg #[.int .i64 l, .int .i64 s, .int .i64 k, .int .u32 (n : Int)], v] w fun e w' => e = .returned (.bool true) ∧ Below w.heap.size w w' := by
  obtain ⟨h0, h1, h2, h3, h4, h5, h6⟩ := h
  have hJ := fun v w hr => join_any l s k (n : Int) v ll w h0 h1 h3 hr
  have hA := fun v w hr => refall_any l s k n v ll w h1 hr
  have hC := fun v w hr => clean_any l s k (n : Int) v ll w h0 h1 h3 hr
  have hF := fun v w hr => few12_any l s k (n : Int) v ll w h0 h1 h3 hr
  by_cases hE : allE l s k ll = 0
  · have hlen := all_long hE
    have e1 : joinS l s k ll = (joinL ll).take l.toNat := by unfold joinS; rw [if_pos hE]
    have e2 : allL l s k ll = joinL ll := by unfold allL; rw [if_pos hE]
    have e3 : cleanB l s k ll = zeroB ((joinL ll).drop l.toNat) := by unfold cleanB; rw [if_pos hE]
    rw [e1, hE] at hJ
    rw [e2, hE] at hA
    rw [e3] at hC
    obtain ⟨p1, _⟩ := check_ok10 (all_fits hE).1
    obtain ⟨l', rfl⟩ : ∃ l' : Nat, l = l' := ⟨l.toNat, by omega⟩
    rw [Int.toNat_natCast] at *
    exact glueJoins_good l' s k n v ll w _ _ rfl hlen ⟨hJ, hA, hC, hF⟩ hr
  · have e1 : joinS l s k ll = [] := by unfold joinS; rw [if_neg hE]
    have e2 : allL l s k ll = [] := by unfold allL; rw [if_neg hE]
    have e3 : cleanB l s k ll = false := by unfold cleanB; rw [if_neg hE]
    rw [e1] at hJ
    rw [e2] at hA
    rw [e3] at hC
    exact glueJoins_bad l s k n v ll w _ hE ⟨hJ, hA, hC, hF⟩ hr

end Go.Proofs.Ytfefkchjhooloaa
