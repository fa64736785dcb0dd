/- Texts of one seat, laid together: LawNineF. -/
import Derived.Test.YtphdadibfeencaaSolveCountsQ16

/-
  The laws of what equations say together (layer 9): SolveCounts.
-/
set_option maxRecDepth 100000
namespace Go.Proofs.Ytphdadibfeencaa
open Go.RowKit

set_option maxHeartbeats 2000000 in
theorem solveCounts_out (v0 v1 u : Value) (S V : List (List Nat)) (x : Nat) (p q : List Nat) (w : World) (h0 : IsRows w v0 S) (h1 : IsRows w v1 V) (hu : IsRow w u p q) (hb : S.length < 1 ∨ (1 ≤ S.length ∧ 20 < S.length) ∨ (1 ≤ S.length ∧ S.length ≤ 20 ∧ 20 < V.length)) :
    Calls Try.prog 4 #[v0, v1, U8 x, u] w fun e w' => e = .returned (.bool true) ∧ Below w.heap.size w w' := by
  obtain ⟨a0, c0, rfl⟩ := h0.shape
  obtain ⟨a1, c1, rfl⟩ := h1.shape
  obtain ⟨ma, mc, na, nc, rfl⟩ := hu.shape
  clear h0 h1 hu
  rcases hb with h | ⟨h, h'⟩ | ⟨h, h', h''⟩
  · have m1 : (S.length : Int) < 1 := by omega
    clear h
    go_enter Try.func4, Try.ntmps4
    go_wp2_with fail
    have B : Below w.heap.size w w := Below.refl _ _
    have hb0 : Below w.heap.size w (w.alloc (.cells #[.slice ma p.length mc, .slice na q.length nc] 42)) := (Below.refl _ _).alloc (Nat.le_refl _) _
    refine (awake9_any _).mono ?_
    rintro e w1 ⟨rfl, hb1⟩
    have HB := Lib.hid (hb0.trans (hb1.mono hb0.size))
    clear hb0 hb1 B
    go_wp2_with fail
    go_ret
    exact ⟨rfl, HB.out⟩
  · have m1 : ¬ (S.length : Int) < 1 := by omega
    have m2 : (20 : Int) < (S.length : Int) := by omega
    clear h h'
    go_enter Try.func4, Try.ntmps4
    go_wp2_with fail
    have B : Below w.heap.size w w := Below.refl _ _
    have hb0 : Below w.heap.size w (w.alloc (.cells #[.slice ma p.length mc, .slice na q.length nc] 42)) := (Below.refl _ _).alloc (Nat.le_refl _) _
    refine (awake9_any _).mono ?_
    rintro e w1 ⟨rfl, hb1⟩
    have HB := Lib.hid (hb0.trans (hb1.mono hb0.size))
    clear hb0 hb1 B
    go_wp2_with fail
    go_ret
    exact ⟨rfl, HB.out⟩
  · have m1 : ¬ (S.length : Int) < 1 := by omega
    have m2 : ¬ (20 : Int) < (S.length : Int) := by omega
    have m3 : (20 : Int) < (V.length : Int) := by omega
    clear h h' h''
    go_enter Try.func4, Try.ntmps4
    go_wp2_with fail
    have B : Below w.heap.size w w := Below.refl _ _
    have hb0 : Below w.heap.size w (w.alloc (.cells #[.slice ma p.length mc, .slice na q.length nc] 42)) := (Below.refl _ _).alloc (Nat.le_refl _) _
    refine (awake9_any _).mono ?_
    rintro e w1 ⟨rfl, hb1⟩
    have HB := Lib.hid (hb0.trans (hb1.mono hb0.size))
    clear hb0 hb1 B
    go_wp2_with fail
    go_ret
    exact ⟨rfl, HB.out⟩

set_option maxHeartbeats 4000000 in
theorem solveCounts_some (v0 v1 u : Value) (S V : List (List Nat)) (x : Nat) (p q : List Nat) (w : World) (hx : x < 256) (h0 : IsRows w v0 S) (h1 : IsRows w v1 V) (hu : IsRow w u p q) (hs1 : 1 ≤ S.length) (hs2 : S.length ≤ 20) (hv : V.length ≤ 20) :
    Calls Try.prog 4 #[v0, v1, U8 x, u] w fun e w' => e = .returned (.bool true) ∧ Below w.heap.size w w' := by
  have H0 := Lib.hid h0
  have H1 := Lib.hid h1
  have HMR := Lib.hid hu
  have HPL := Lib.hid (show ∀ z, z ∈ p → z < 256 from by obtain ⟨_, _, _, h, _⟩ := hu; exact h.lt)
  have HQL9 := Lib.hid (show ∀ z, z ∈ q → z < 256 from by obtain ⟨_, _, _, _, h⟩ := hu; exact h.lt)
  obtain ⟨a0, c0, rfl⟩ := h0.shape
  obtain ⟨a1, c1, rfl⟩ := h1.shape
  obtain ⟨ma, mc, na, nc, rfl⟩ := hu.shape
  have HO0 := Lib.hid (show OctM S from h0.oct)
  have HO1 := Lib.hid (show OctM V from h1.oct)
  obtain ⟨n, hn⟩ : ∃ n, n = x % 21 := ⟨_, rfl⟩
  have hn21 : n < 21 := by omega
  have hnn : (x : Int) % 21 = (n : Int) := by omega
  have hmb := make_bytes n (by omega)
  have hmk := make_bytes S.length (by omega)
  have m1 : ¬ (S.length : Int) < 1 := by omega
  have m2 : ¬ (20 : Int) < (S.length : Int) := by omega
  have m3 : ¬ (20 : Int) < (V.length : Int) := by omega
  clear h0 h1 hn hu
  go_enter Try.func4, Try.ntmps4
  go_wp2_with fail
  obtain ⟨B, hk1, hs⟩ := blocks1 w #[.slice ma p.length mc, .slice na q.length nc] 42
  generalize (w.alloc (.cells #[.slice ma p.length mc, .slice na q.length nc] 42)) = W0 at *
  have K1 := Lib.hid hk1
  have HS := Lib.hid hs
  clear hs hk1
  replace H0 := Lib.hid (H0.out.go B)
  replace H1 := Lib.hid (H1.out.go B)
  replace HMR := Lib.hid (HMR.out.go B)
  have hzW0 := B.size
  have HB0 := Lib.hid B
  obtain ⟨gm, hgm⟩ : ∃ g : Nat, g = w.heap.size := ⟨_, rfl⟩
  rw [← hgm] at K1
  simp only [← hgm]
  clear hgm B
  have B : Below W0.heap.size W0 W0 := Below.refl _ _
  refine (awake9_any _).mono ?_
  rintro e w1 ⟨rfl, hb⟩
  replace B := B.trans (hb.mono B.size)
  have hzw1 := B.size
  clear hb
  go_wp2_with fail
  simp only [hnn]
  go_loopw [11, 13, 14, 49] (fun o _ _ i wr => ∃ j : Nat, j ≤ S.length ∧ i = .int .i64 j ∧ Below W0.heap.size W0 wr ∧ OwnM wr W0.heap.size 40 o (fitL n (S.take j))) (fun _ _ _ i _ => S.length - (intOf i).toNat)
  case atStart => exact ⟨0, by omega, rfl, B, OwnM.nil _ _ _⟩
  case round =>
    clear B hzw1
    obtain ⟨j, hj, rfl, B, hO⟩ := hrel
    have HM := Lib.hid hO
    obtain ⟨oa, oc, rfl⟩ := hO.shape
    have HFL := Lib.hid (show (fitL n (S.take j)).length = j by rw [fitL_length, List.length_take, Nat.min_eq_left hj])
    obtain ⟨L, hL⟩ : ∃ L, L = fitL n (S.take j) := ⟨_, rfl⟩
    rw [← hL] at HM HFL
    simp only [← hL]
    have HLQ := Lib.hid hL
    clear hO hL
    by_cases hlt : j < S.length
    · obtain ⟨b, off, u, rfl, hu, hBr⟩ := H0.out.row B j hlt
      have HBR := Lib.hid (hBr.below (Nat.le_refl _) ((Below.refl _ _).alloc (Nat.le_refl _) (bytesObj (List.replicate n 0))))
      have HBO := Lib.hid hBr.lt
      obtain ⟨ra, rc, rfl, _⟩ := hBr
      have k0 : (0 : Int) ≤ (j : Int) := Int.natCast_nonneg _
      have k1 : (j : Int) < (S.length : Int) := by omega
      obtain ⟨W2, hcp, hO2, hgr⟩ := copy_fit (m := n) (Own.new wr (zeros n)) HBR.out
      have hBW : Below wr.heap.size wr W2 := below_grown ((Below.refl _ _).alloc (Nat.le_refl _) (bytesObj (zeros n))) hgr (by simp) (Nat.le_refl _)
      have HBW := Lib.hid hBW
      have HBY := Lib.hid (hO2.bytes (fitR_lt HBO.out) (by rw [fitR_length]; omega))
      rw [fitR_length] at HBY
      have HM2 := Lib.hid (HM.out.go hBW)
      have hz := B.size
      have hz2 := hBW.size
      have HB2 := Lib.hid (B.trans (hBW.mono hz))
      have hcp2 : ∀ ty, (Builtin.copy_ #[40, 40] ty #[whole wr.heap.size n, .slice ra (rowAt S j).length rc]).run Try.prog (wr.alloc (bytesObj (List.replicate n 0))) = .ok (goInt ((min (rowAt S j).length n : Nat) : Int)) W2 := hcp
      have hb1 : Below W2.heap.size W2 (W2.alloc (.cells #[whole wr.heap.size n] 40)) := (Below.refl _ _).alloc (Nat.le_refl _) _
      have HST := Lib.hid (show fitL n (S.take (j + 1)) = L ++ [fitR n (rowAt S j)] by rw [fitL_take hlt, HLQ.out])
      clear hBW hO2 hgr hcp
      go_wp2_with (at_builtin; refine wpList_append_m rfl (.tmp 58) (.tmp 60) rfl W0.heap.size W2.heap.size _ _ L (fitR n (rowAt S j)) 40 rfl rfl rfl HBY.out HM2.out ?c3 ?c4 ?_)
      case c3 => omega
      case c4 => rw [HFL.out]; omega
      intro v' w2 hown2 hgr2 hs2
      rw [← HST.out] at hown2
      have HOW := Lib.hid hown2
      have HB3 := Lib.hid (below_grownO (HB2.out.trans (hb1.mono HB2.out.size)) hgr2 (Nat.le_trans HB2.out.size hb1.size) (fun g e => HM2.out.from g e))
      clear hown2 hgr2 hs2
      go_wp2_with fail
      go_roundw
      case rel => exact ⟨j + 1, by omega, by go_num, HB3.out, HOW.out⟩
      case measure => simp [intOf]; omega
    · obtain rfl : j = S.length := by omega
      rw [List.take_length] at HLQ
      have hz := B.size
      obtain ⟨k, hk⟩ : ∃ k, k = S.length := ⟨_, rfl⟩
      have HWT := Lib.hid (show ∀ q, q < L.length → (rowAt L q).length = n by rw [HLQ.out]; exact fit_at)
      have HLO := Lib.hid (show OctM L by rw [HLQ.out]; exact fitL_oct HO0.out)
      have HLK := Lib.hid (show L.length = k by rw [hk]; exact HFL.out)
      have hk1 : 1 ≤ k := by omega
      have hk2 : k ≤ 20 := by omega
      rw [← hk] at hmk m1 m2 ⊢
      clear HFL HLQ hk hs1 hs2 HO0 H0 hmb
      have HMK := Lib.hid hmk
      clear hmk
      go_wp2_with fail
      go_loopw [15, 17, 18, 19, 20, 65] (fun lv _ _ _ _ x wr => ∃ j : Nat, j ≤ V.length ∧ x = .int .i64 j ∧ Below W0.heap.size W0 wr ∧ OwnM wr W0.heap.size 40 (.slice oa L.length oc) L ∧ OwnLW wr W0.heap.size 52 lv (eqs L n k (V.take j))) (fun _ _ _ _ _ x _ => V.length - (intOf x).toNat)
      case atStart => exact ⟨0, by omega, rfl, B, HM.out, OwnL.nil _ _ _, NoW.nil _⟩
      case round =>
        clear B HM hz
        obtain ⟨j, hj, rfl, B, hM, hLV⟩ := hrel
        have HM := Lib.hid hM
        have HLV := Lib.hid hLV
        obtain ⟨la, lc, rfl⟩ := hLV.1.shape
        have hl1 : (eqs L n k (V.take j)).length = j := by rw [eqs_length, List.length_take, Nat.min_eq_left hj]
        have HL1 := Lib.hid hl1
        clear hM hLV hl1
        by_cases hlt : j < V.length
        · obtain ⟨X, hX⟩ : ∃ X, X = eqs L n k (V.take j) := ⟨_, rfl⟩
          obtain ⟨q9, hq⟩ : ∃ q, q = fitR k (rowAt V j) := ⟨_, rfl⟩
          have HX1 := Lib.hid (show eqs L n k (V.take (j + 1)) = X ++ [eqOf L n q9] by rw [hX, hq]; exact eqs_take L n k V hlt)
          rw [← hX] at HLV HL1
          simp only [← hX]
          obtain ⟨b, off, u, rfl, hu, hBr⟩ := H1.out.row B j hlt
          have HBR := Lib.hid (hBr.below (Nat.le_refl _) ((Below.refl _ _).alloc (Nat.le_refl _) (bytesObj (List.replicate k 0))))
          have HBO := Lib.hid hBr.lt
          obtain ⟨ra, rc, rfl, _⟩ := hBr
          have k0 : (0 : Int) ≤ (j : Int) := Int.natCast_nonneg _
          have k1 : (j : Int) < (V.length : Int) := by omega
          obtain ⟨W2, hcp, hO2, hgr⟩ := copy_fit (m := k) (Own.new wr (zeros k)) HBR.out
          have hBW : Below wr.heap.size wr W2 := below_grown ((Below.refl _ _).alloc (Nat.le_refl _) (bytesObj (zeros k))) hgr (by simp) (Nat.le_refl _)
          have HBW := Lib.hid hBW
          have HBY := Lib.hid (hO2.bytes (fitR_lt HBO.out) (by rw [fitR_length]; omega))
          rw [fitR_length] at HBY
          rw [← hq] at HBY hO2
          have HQO := Lib.hid (show Oct q9 by rw [hq]; exact fitR_lt HBO.out)
          have HQL := Lib.hid (show q9.length = k by rw [hq]; exact fitR_length _ _)
          replace HM := Lib.hid (HM.out.go hBW)
          replace HLV := Lib.hid (HLV.out.go hBW)
          have hz := B.size
          have hz2 := hBW.size
          replace B := B.trans (hBW.mono hz)
          have hcp2 : ∀ ty, (Builtin.copy_ #[40, 40] ty #[whole wr.heap.size k, .slice ra (rowAt V j).length rc]).run Try.prog (wr.alloc (bytesObj (List.replicate k 0))) = .ok (goInt ((min (rowAt V j).length k : Nat) : Int)) W2 := hcp
          obtain ⟨gq, hgq⟩ : ∃ gq : Nat, gq = wr.heap.size := ⟨_, rfl⟩
          have hmk := HMK.out
          clear hBW hO2 hgr hcp hX hq HBW HBR HBO
          go_wp2_with fail
          clear hmk hcp2 hu
          rw [← hgq] at HBY
          simp only [← hgq]
          clear hgq hz2
          have hzz := B.size
          refine (comb_any _ _ q9 L _ (by rw [HWT.out 0 (by have := HLK.out; omega)]; omega) HBY.out HM.out.rows).mono ?_
          rintro e w4 ⟨u4, rfl, hu4, hb⟩
          replace HBY := Lib.hid (HBY.out.go hb)
          replace HM := Lib.hid (HM.out.go hb)
          replace HLV := Lib.hid (HLV.out.go hb)
          replace B := B.trans (hb.mono B.size)
          have hzw4 := B.size
          clear hb
          rw [(comb_fit HLK.out HWT.out hk1 HQL.out).1] at hu4
          rw [(comb_fit HLK.out HWT.out hk1 HQL.out).2]
          have hd4 : Bytes w4 u4 (combT q9 L n) := hu4.bytes (combT_lt HQO.out L n) (by rw [combT_length]; omega)
          have HD4 := Lib.hid hd4
          obtain ⟨da, dc, rfl, _⟩ := hd4
          clear hu4
          go_wp2_with fail
          refine (of_any _ _ q9 (combT q9 L n) _ HBY.out HD4.out (by rw [HQL.out]; omega) (by rw [combT_length]; omega)).mono ?_
          rintro e w5 ⟨u5, rfl, hu5, hb⟩
          replace HM := Lib.hid (HM.out.go hb)
          replace HLV := Lib.hid (HLV.out.go hb)
          replace B := B.trans (hb.mono B.size)
          have hzw5 := B.size
          clear hb
          obtain ⟨_, _, rfl, hp5, hq5⟩ := hu5
          have HP5 := Lib.hid hp5
          have HQ5 := Lib.hid hq5
          obtain ⟨pa, pc, rfl, _⟩ := hp5
          obtain ⟨qa, qc, rfl, _⟩ := hq5
          have hsz5 := B.size
          have hb5 : Below w5.heap.size w5 (w5.alloc (.cells #[.slice pa q9.length pc, .slice qa (combT q9 L n).length qc] 52)) := (Below.refl _ _).alloc (Nat.le_refl _) _
          go_wp2_with (at_builtin; refine wpList_append_vrowW rfl (.tmp 82) (.tmp 86) rfl W0.heap.size w5.heap.size 1 _ _ _ X (eqOf L n q9) rfl rfl (HLV.out.go hb5).1 (HLV.out.go hb5).2 (Blk.new w5 _ _ _ rfl) (HP5.out.go hb5) (HQ5.out.go hb5) ?c1 ?c2 ?_)
          case c1 => exact Nat.le_trans hsz5 hb5.size
          case c2 => have := HL1.out; omega
          intro v6 w6 ho6 hg6 hs6 _ hnw6
          replace B := below_grownO (B.trans (hb5.mono hsz5)) hg6 (Nat.le_trans hsz5 hb5.size) HLV.out.1.from
          have HLVG := Lib.hid (HLV.out.1.go hb5)
          replace HM := Lib.hid ((HM.out.go hb5).keepO hg6 hs6 ((HM.out.go hb5).typed.apart HLVG.out.typed (by decide)))
          rw [← HX1.out] at ho6
          have HOW := Lib.hid (show OwnLW w6 W0.heap.size 52 v6 (eqs L n k (V.take (j + 1))) from ⟨ho6, hnw6⟩)
          have HB6 := Lib.hid B
          clear ho6 hg6 hs6 hb5 hnw6 HLVG HP5 HQ5 hsz5
          go_wp2_with fail
          go_roundw
          case rel => exact ⟨j + 1, by omega, by go_num, HB6.out, HM.out, HOW.out⟩
          case measure => simp [intOf]; omega
        · obtain rfl : j = V.length := by omega
          rw [List.take_length] at HLV HL1 ⊢
          have hX := eqs_ok HLK.out HLO.out HWT.out HO1.out
          have HHD := Lib.hid (eqs_holds (V := V) HLK.out hk1 HWT.out)
          obtain ⟨X, hXe⟩ : ∃ X, X = eqs L n k V := ⟨_, rfl⟩
          rw [← hXe] at hX HHD HLV HL1 ⊢
          have HXX := Lib.hid hX
          have hD : Ro.Dims k n X := fun r hr => (hX r hr).1
          have HD := Lib.hid hD
          have hno : newOk (k : Int) (n : Int) := by unfold newOk; omega
          have hkn : n * k ≤ 4000 := Nat.le_trans (Nat.mul_le_mul (by omega : n ≤ 20) hk2) (by decide)
          have hf1 := sol_first hX X.length (Nat.le_refl _)
          have hrk := sol_rank_le hX
          have h1 := count_one hX
          have hcn := sol_count hX
          have HJ := Lib.hid (fun (v : Value) (w : World) (h : IsRL w v X) => judge_yes k n v X w h (by have := HL1.out; omega) hno hD)
          have HC := Lib.hid (fun (v : Value) (w : World) (h : IsRL w v X) => count_yes k n v X w h (by have := HL1.out; omega) hno hD hkn)
          rw [hf1] at HJ
          obtain ⟨rk, hrk0⟩ : ∃ r, r = (Ro.redOf X).length := ⟨_, rfl⟩
          obtain ⟨N, hN0⟩ : ∃ N, N = countN k n X := ⟨_, rfl⟩
          rw [← hrk0] at HJ hrk h1 hcn
          rw [← hN0] at HC h1 hcn
          have hsm : (Wt.dg N).length ≤ 100000 := by rw [hcn]; exact words_small (pow256 (n := n * k) hkn (Nat.mul_le_mul_left n (by omega)))
          have hNz : N ≠ 0 := by rw [hcn]; exact Nat.ne_of_gt (Nat.pow_pos (by decide))
          have HSM := Lib.hid hsm
          have HNZ := Lib.hid hNz
          have H1N := Lib.hid h1
          have HMORE := Lib.hid (fun y => hN0 ▸ count_more hX y)
          have HNO := Lib.hid hno
          have HKN := Lib.hid hkn
          clear hX hD hno hkn hf1 h1 hcn hrk0 hN0 hsm hNz hXe
          obtain ⟨xl, hxl⟩ : ∃ xl, xl = X.length := ⟨_, rfl⟩
          have hxl2 : xl ≤ 20 := by rw [hxl]; have := HL1.out; omega
          rw [← hxl] at HLV ⊢
          have HXLN := Lib.hid hxl
          clear hxl HL1
          go_wp2_with fail
          refine (HJ.out _ _ HLV.out.1.list).mono ?_
          rintro e w2 ⟨rfl, hb⟩
          replace HM := Lib.hid (HM.out.go hb)
          replace HLV := Lib.hid (HLV.out.go hb)
          replace B := B.trans (hb.mono B.size)
          have hzw2 := B.size
          clear hb
          go_wp2_with fail
          obtain ⟨g3, hg3⟩ : ∃ g : Nat, g = w2.heap.size := ⟨_, rfl⟩
          obtain ⟨hb, hk, hs⟩ := blocks1 w2 #[.int .i64 (rk : Int), .int .i64 (-1)] 30
          generalize w2.alloc (.cells #[.int .i64 (rk : Int), .int .i64 (-1)] 30) = W3 at *
          have K3 := Lib.hid hk
          replace HM := Lib.hid (HM.out.go hb)
          replace HLV := Lib.hid (HLV.out.go hb)
          replace B := B.trans (hb.mono B.size)
          have hzW3 := B.size
          clear hb hk hs
          rw [← hg3] at K3
          simp only [← hg3]
          clear hg3
          refine (HC.out _ _ HLV.out.1.list).mono ?_
          rintro e w4 ⟨u4, rfl, hu4, hb⟩
          replace HM := Lib.hid (HM.out.go hb)
          replace HLV := Lib.hid (HLV.out.go hb)
          replace K3 := Lib.hid (K3.out.go hb)
          replace B := B.trans (hb.mono B.size)
          have hzw4 := B.size
          clear hb
          have HN4 := Lib.hid hu4
          obtain ⟨sa, sc, rfl, _⟩ := hu4.shape
          obtain ⟨ml, hml⟩ : ∃ ml, ml = (Wt.dg N).length := ⟨_, rfl⟩
          rw [← hml] at HN4
          simp only [← hml]
          clear hu4 hml
          go_upto_region 27 with fail
          obtain ⟨g5, hg5⟩ : ∃ g : Nat, g = w4.heap.size := ⟨_, rfl⟩
          obtain ⟨hb, hk, hs⟩ := blocks1 w4 #[.slice sa ml sc] 36
          generalize w4.alloc (.cells #[.slice sa ml sc] 36) = W5 at *
          have K5 := Lib.hid hk
          replace HM := Lib.hid (HM.out.go hb)
          replace HLV := Lib.hid (HLV.out.go hb)
          replace K3 := Lib.hid (K3.out.go hb)
          replace HN4 := Lib.hid (HN4.out.go hb)
          replace B := B.trans (hb.mono B.size)
          have hzW5 := B.size
          clear hb hk hs
          rw [← hg5] at K5
          simp only [← hg5]
          clear hg5
          have HHO := Lib.hid (fun (v0 v1 : Value) (w : World) (h0 : IsRows w v0 L) (h1 : IsRL w v1 X) => (show Calls Try.prog 15 #[v0, v1] w fun e w' => e = .returned (.bool true) ∧ Below w.heap.size w w' by
            have h := holds_any v0 v1 L X w h0 h1 (by rw [HWT.out 0 (by have := HLK.out; omega)]; omega) (by have := HXLN.out; omega)
            rwa [HHD.out] at h))
          obtain ⟨ln, hln⟩ : ∃ ln : Int, ln = ((Nt.dg N).length : Int) := ⟨_, rfl⟩
          have HLN := Lib.hid (fun (u : Value) (w : World) (h : IsNat w u N) => (show Calls Try.prog 10 #[u] w fun e w' => e = .returned (.int .i64 ln) ∧ Below w.heap.size w w' by rw [hln]; exact natlen_any u N w HSM.out h))
          have HLN0 := Lib.hid (show (ln == (0 : Int)) = false by
            rw [beq_eq_false_iff_ne, hln]
            intro h
            have h2 : (Nt.dg N).length ≤ 0 := by omega
            rw [Nt.dg_length_iff] at h2
            exact HNZ.out (by omega))
          have hcmp : (Nt.cmp N 1 == (0 : Int)) = decide (N = 1) := by
            unfold Nt.cmp
            by_cases h : N = 1
            · subst h; rfl
            · rw [decide_eq_false h]
              by_cases h2 : N < 1
              · rw [if_pos h2]; rfl
              · rw [if_neg h2, if_neg h]; rfl
          by_cases hrk1 : rk = k
          · have HBB := Lib.hid (show (Nt.cmp N 1 == (0 : Int)) = true by rw [hcmp, decide_eq_true_eq]; exact H1N.out.2 (.inl hrk1))
            have HPP := Lib.hid (show ((rk : Int) == (k : Int)) = true by rw [hrk1]; simp)
            clear hln hcmp hrk1

            refine wp_region_mono (C := Cb W5) (R := Rb) (H := Hn W5) [Ty.val 103 (.int .i64 0), Ty.val 104 (.bool false), Ty.val 105 (.bool false), Ty.val 106 (.int .i64 0), Ty.val 107 (.bool false), Ty.val 108 (.bool false), Ty.val 109 (.bool false), Ty.val 110 (.pointer (some ⟨g3, 1, none⟩)), Ty.val 111 (.int .i64 (-1)), Ty.val 112 (.bool false), Ty.val 113 (.bool false), Ty.val 114 (.bool false), Ty.val 115 (.slice oa L.length oc), Ty.val 116 (.slice la xl lc), Ty.val 117 (.bool true), Ty.val 118 (.bool false), Ty.val 119 (.bool false), Ty.val 120 (.bool false), Ty.val 121 (.agg #[.slice sa ml sc]), Ty.val 122 (.int .i64 ln), Ty.val 123 (.bool false), Ty.val 124 (.bool false), Ty.val 125 (.bool false), Ty.val 126 (.agg #[.slice sa ml sc]), Ty.nat 127 1, Ty.val 128 (.int .i64 (Nt.cmp N 1)), Ty.val 129 (.bool true), Ty.val 130 (.pointer (some ⟨g3, 0, none⟩)), Ty.val 131 (.int .i64 (rk : Int)), Ty.val 132 (.int .i64 (k : Int)), Ty.val 133 (.bool true), Ty.val 134 (.bool true), Ty.any, Ty.any, Ty.val 137 (.bool true), Ty.val 138 (.bool false), Ty.val 139 (.bool false)] (by kernel_rfl) (hC_b W5) (hCH_n W5) (drew_b W5) ⟨trivial, trivial, trivial, trivial, trivial, trivial, trivial, trivial, trivial, trivial, trivial, trivial, trivial, trivial, trivial, trivial, trivial, trivial, trivial, trivial, trivial, trivial, trivial, trivial, trivial, trivial, trivial, trivial, trivial, trivial, trivial, trivial, trivial, trivial, trivial, trivial, trivial, trivial⟩ (by kernel_rfl) ?_ ?_
            · refine ⟨?_, ?_, ?_, ?_, ?_, ?_, ?_, ?_, ?_, ?_, ?_, ?_, ?_, ?_, ?_, ?_, ?_, ?_, ?_, ?_, ?_, ?_, ?_, ?_, ?_, ?_, ?_, ?_, ?_, ?_, ?_, ?_, ?_, ?_, ?_, ?_, ?_, trivial⟩
              · intro ac wc hC hsz hfr hd hpr
                have d22 : ac.eval (.tmp 22) = (.int .i64 0) := hfr 22 rfl
                rw [if_pos (wanted_none rfl)]
                exact ob_copy rfl rfl rfl (Nat.lt_of_lt_of_eq (by decide : 103 < 162) hsz.symm) (Or.inl rfl) (Below.refl _ _) d22
              · intro ac wc hC hsz hfr hd hpr
                have d103 : ac.eval (.tmp 103) = (.int .i64 0) := hd 0 rfl
                rw [if_pos (wanted_none rfl)]
                exact ob_bin _ rfl rfl rfl (Nat.lt_of_lt_of_eq (by decide : 104 < 162) hsz.symm) rfl d103 rfl (neq_err (by simp)) (Below.refl _ _) rfl
              · intro ac wc hC hsz hfr hd hpr
                have d104 : ac.eval (.tmp 104) = (.bool false) := hd 1 rfl
                rw [if_pos (wanted_none rfl)]
                exact ob_copy rfl rfl rfl (Nat.lt_of_lt_of_eq (by decide : 105 < 162) hsz.symm) (Or.inl rfl) (Below.refl _ _) d104
              · intro ac wc hC hsz hfr hd hpr
                have d105 : ac.eval (.tmp 105) = (.bool false) := hd 2 rfl
                have d24 : ac.eval (.tmp 24) = (.int .i64 0) := hfr 24 rfl
                rw [if_pos (wanted_some rfl (yielded_of rfl d105))]
                exact ob_copy rfl rfl rfl (Nat.lt_of_lt_of_eq (by decide : 106 < 162) hsz.symm) (Or.inl rfl) (Below.refl _ _) d24
              · intro ac wc hC hsz hfr hd hpr
                have d105 : ac.eval (.tmp 105) = (.bool false) := hd 2 rfl
                have d106 : ac.eval (.tmp 106) = (.int .i64 0) := hd 3 rfl
                rw [if_pos (wanted_some rfl (yielded_of rfl d105))]
                exact ob_bin _ rfl rfl rfl (Nat.lt_of_lt_of_eq (by decide : 107 < 162) hsz.symm) rfl d106 rfl (neq_err (by simp)) (Below.refl _ _) rfl
              · intro ac wc hC hsz hfr hd hpr
                have d105 : ac.eval (.tmp 105) = (.bool false) := hd 2 rfl
                have d107 : ac.eval (.tmp 107) = (.bool false) := hd 4 rfl
                rw [if_pos (wanted_none rfl)]
                exact ob_pick rfl rfl rfl (Nat.lt_of_lt_of_eq (by decide : 108 < 162) hsz.symm) rfl d105 (Below.refl _ _) d107
              · intro ac wc hC hsz hfr hd hpr
                have d108 : ac.eval (.tmp 108) = (.bool false) := hd 5 rfl
                rw [if_pos (wanted_none rfl)]
                exact ob_copy rfl rfl rfl (Nat.lt_of_lt_of_eq (by decide : 109 < 162) hsz.symm) (Or.inl rfl) (Below.refl _ _) d108
              · intro ac wc hC hsz hfr hd hpr
                have d109 : ac.eval (.tmp 109) = (.bool false) := hd 6 rfl
                have d21 : ac.eval (.tmp 21) = (.pointer (some ⟨g3, 0, none⟩)) := hfr 21 rfl
                rw [if_pos (wanted_some rfl (yielded_of rfl d109))]
                exact ob_field _ rfl rfl rfl (Nat.lt_of_lt_of_eq (by decide : 110 < 162) hsz.symm) rfl d21 (fun w => by go_simp) (Below.refl _ _) rfl
              · intro ac wc hC hsz hfr hd hpr
                have d109 : ac.eval (.tmp 109) = (.bool false) := hd 6 rfl
                have d110 : ac.eval (.tmp 110) = (.pointer (some ⟨g3, 1, none⟩)) := hd 7 rfl
                rw [if_pos (wanted_some rfl (yielded_of rfl d109))]
                exact ob_load _ rfl rfl rfl (Nat.lt_of_lt_of_eq (by decide : 111 < 162) hsz.symm) rfl d110 (load_int ((K3.out.go hC).cell 1)) (Below.refl _ _) rfl
              · intro ac wc hC hsz hfr hd hpr
                have d109 : ac.eval (.tmp 109) = (.bool false) := hd 6 rfl
                have d111 : ac.eval (.tmp 111) = (.int .i64 (-1)) := hd 8 rfl
                rw [if_pos (wanted_some rfl (yielded_of rfl d109))]
                exact ob_bin _ rfl rfl rfl (Nat.lt_of_lt_of_eq (by decide : 112 < 162) hsz.symm) rfl d111 rfl (geq_int (by decide)) (Below.refl _ _) rfl
              · intro ac wc hC hsz hfr hd hpr
                have d109 : ac.eval (.tmp 109) = (.bool false) := hd 6 rfl
                have d112 : ac.eval (.tmp 112) = (.bool false) := hd 9 rfl
                rw [if_pos (wanted_none rfl)]
                exact ob_pick rfl rfl rfl (Nat.lt_of_lt_of_eq (by decide : 113 < 162) hsz.symm) rfl d109 (Below.refl _ _) d112
              · intro ac wc hC hsz hfr hd hpr
                have d113 : ac.eval (.tmp 113) = (.bool false) := hd 10 rfl
                rw [if_pos (wanted_none rfl)]
                exact ob_copy rfl rfl rfl (Nat.lt_of_lt_of_eq (by decide : 114 < 162) hsz.symm) (Or.inl rfl) (Below.refl _ _) d113
              · intro ac wc hC hsz hfr hd hpr
                have d114 : ac.eval (.tmp 114) = (.bool false) := hd 11 rfl
                have d11 : ac.eval (.tmp 11) = (.slice oa L.length oc) := hfr 11 rfl
                rw [if_pos (wanted_some rfl (yielded_of rfl d114))]
                exact ob_copy rfl rfl rfl (Nat.lt_of_lt_of_eq (by decide : 115 < 162) hsz.symm) (Or.inl rfl) (Below.refl _ _) d11
              · intro ac wc hC hsz hfr hd hpr
                have d114 : ac.eval (.tmp 114) = (.bool false) := hd 11 rfl
                have d15 : ac.eval (.tmp 15) = (.slice la xl lc) := hfr 15 rfl
                rw [if_pos (wanted_some rfl (yielded_of rfl d114))]
                exact ob_copy rfl rfl rfl (Nat.lt_of_lt_of_eq (by decide : 116 < 162) hsz.symm) (Or.inl rfl) (Below.refl _ _) d15
              · intro ac wc hC hsz hfr hd hpr
                have d114 : ac.eval (.tmp 114) = (.bool false) := hd 11 rfl
                have d115 : ac.eval (.tmp 115) = (.slice oa L.length oc) := hd 12 rfl
                have d116 : ac.eval (.tmp 116) = (.slice la xl lc) := hd 13 rfl
                rw [if_pos (wanted_some rfl (yielded_of rfl d114))]
                refine ob_call rfl rfl rfl (Nat.lt_of_lt_of_eq (by decide : 117 < 162) hsz.symm) rfl (enter_of Try.func15 (by kernel_rfl) rfl) ?_
                show Calls Try.prog 15 #[ac.eval (.tmp 115), ac.eval (.tmp 116)] wc _
                rw [d115, d116]
                exact (HHO.out _ _ wc (HM.out.rows.go hC) (HLV.out.1.list.go hC)).mono fun _ _ ⟨he, hb⟩ => ⟨_, he, rfl, hb⟩
              · intro ac wc hC hsz hfr hd hpr
                have d114 : ac.eval (.tmp 114) = (.bool false) := hd 11 rfl
                have d117 : ac.eval (.tmp 117) = (.bool true) := hd 14 rfl
                rw [if_pos (wanted_some rfl (yielded_of rfl d114))]
                exact ob_not rfl rfl rfl (Nat.lt_of_lt_of_eq (by decide : 118 < 162) hsz.symm) rfl d117 (Below.refl _ _) rfl
              · intro ac wc hC hsz hfr hd hpr
                have d114 : ac.eval (.tmp 114) = (.bool false) := hd 11 rfl
                have d118 : ac.eval (.tmp 118) = (.bool false) := hd 15 rfl
                rw [if_pos (wanted_none rfl)]
                exact ob_pick rfl rfl rfl (Nat.lt_of_lt_of_eq (by decide : 119 < 162) hsz.symm) rfl d114 (Below.refl _ _) d118
              · intro ac wc hC hsz hfr hd hpr
                have d119 : ac.eval (.tmp 119) = (.bool false) := hd 16 rfl
                rw [if_pos (wanted_none rfl)]
                exact ob_copy rfl rfl rfl (Nat.lt_of_lt_of_eq (by decide : 120 < 162) hsz.symm) (Or.inl rfl) (Below.refl _ _) d119
              · intro ac wc hC hsz hfr hd hpr
                have d120 : ac.eval (.tmp 120) = (.bool false) := hd 17 rfl
                have d23 : ac.eval (.tmp 23) = (.pointer (some ⟨g5, 0, none⟩)) := hfr 23 rfl
                rw [if_pos (wanted_some rfl (yielded_of rfl d120))]
                exact ob_load _ rfl rfl rfl (Nat.lt_of_lt_of_eq (by decide : 121 < 162) hsz.symm) rfl d23 (load_nat ((K5.out.go hC).cell 0)) (Below.refl _ _) rfl
              · intro ac wc hC hsz hfr hd hpr
                have d120 : ac.eval (.tmp 120) = (.bool false) := hd 17 rfl
                have d121 : ac.eval (.tmp 121) = (.agg #[.slice sa ml sc]) := hd 18 rfl
                rw [if_pos (wanted_some rfl (yielded_of rfl d120))]
                refine ob_call rfl rfl rfl (Nat.lt_of_lt_of_eq (by decide : 122 < 162) hsz.symm) rfl (enter_of Try.func10 (by kernel_rfl) rfl) ?_
                show Calls Try.prog 10 #[ac.eval (.tmp 121)] wc _
                rw [d121]
                exact (HLN.out _ wc (HN4.out.go hC)).mono fun _ _ ⟨he, hb⟩ => ⟨_, he, rfl, hb⟩
              · intro ac wc hC hsz hfr hd hpr
                have d120 : ac.eval (.tmp 120) = (.bool false) := hd 17 rfl
                have d122 : ac.eval (.tmp 122) = (.int .i64 ln) := hd 19 rfl
                rw [if_pos (wanted_some rfl (yielded_of rfl d120))]
                exact ob_bin _ rfl rfl rfl (Nat.lt_of_lt_of_eq (by decide : 123 < 162) hsz.symm) rfl d122 rfl (eql_int HLN0.out) (Below.refl _ _) rfl
              · intro ac wc hC hsz hfr hd hpr
                have d120 : ac.eval (.tmp 120) = (.bool false) := hd 17 rfl
                have d123 : ac.eval (.tmp 123) = (.bool false) := hd 20 rfl
                rw [if_pos (wanted_none rfl)]
                exact ob_pick rfl rfl rfl (Nat.lt_of_lt_of_eq (by decide : 124 < 162) hsz.symm) rfl d120 (Below.refl _ _) d123
              · intro ac wc hC hsz hfr hd hpr
                have d124 : ac.eval (.tmp 124) = (.bool false) := hd 21 rfl
                rw [if_pos (wanted_none rfl)]
                exact ob_copy rfl rfl rfl (Nat.lt_of_lt_of_eq (by decide : 125 < 162) hsz.symm) (Or.inl rfl) (Below.refl _ _) d124
              · intro ac wc hC hsz hfr hd hpr
                have d125 : ac.eval (.tmp 125) = (.bool false) := hd 22 rfl
                have d23 : ac.eval (.tmp 23) = (.pointer (some ⟨g5, 0, none⟩)) := hfr 23 rfl
                rw [if_pos (wanted_some rfl (yielded_of rfl d125))]
                exact ob_load _ rfl rfl rfl (Nat.lt_of_lt_of_eq (by decide : 126 < 162) hsz.symm) rfl d23 (load_nat ((K5.out.go hC).cell 0)) (Below.refl _ _) rfl
              · intro ac wc hC hsz hfr hd hpr
                have d125 : ac.eval (.tmp 125) = (.bool false) := hd 22 rfl
                rw [if_pos (wanted_some rfl (yielded_of rfl d125))]
                refine ob_call rfl rfl rfl (Nat.lt_of_lt_of_eq (by decide : 127 < 162) hsz.symm) rfl (enter_of Try.func17 (by kernel_rfl) rfl) ?_
                show Calls Try.prog 17 #[.int .u64 1] wc _
                exact natof_any 1 wc (by decide)
              · intro ac wc hC hsz hfr hd hpr
                have d125 : ac.eval (.tmp 125) = (.bool false) := hd 22 rfl
                have d126 : ac.eval (.tmp 126) = (.agg #[.slice sa ml sc]) := hd 23 rfl
                have d127 : IsNat wc (ac.eval (.tmp 127)) 1 := hd 24 rfl
                rw [if_pos (wanted_some rfl (yielded_of rfl d125))]
                refine ob_call rfl rfl rfl (Nat.lt_of_lt_of_eq (by decide : 128 < 162) hsz.symm) rfl (enter_of Try.func16 (by kernel_rfl) rfl) ?_
                show Calls Try.prog 16 #[ac.eval (.tmp 126), ac.eval (.tmp 127)] wc _
                rw [d126]
                exact (natcmp_any _ _ N 1 wc (HN4.out.go hC) d127).mono fun _ _ ⟨he, hb⟩ => ⟨_, he, rfl, hb⟩
              · intro ac wc hC hsz hfr hd hpr
                have d125 : ac.eval (.tmp 125) = (.bool false) := hd 22 rfl
                have d128 : ac.eval (.tmp 128) = (.int .i64 (Nt.cmp N 1)) := hd 25 rfl
                rw [if_pos (wanted_some rfl (yielded_of rfl d125))]
                exact ob_bin _ rfl rfl rfl (Nat.lt_of_lt_of_eq (by decide : 129 < 162) hsz.symm) rfl d128 rfl (eql_int HBB.out) (Below.refl _ _) rfl
              · intro ac wc hC hsz hfr hd hpr
                have d125 : ac.eval (.tmp 125) = (.bool false) := hd 22 rfl
                have d21 : ac.eval (.tmp 21) = (.pointer (some ⟨g3, 0, none⟩)) := hfr 21 rfl
                rw [if_pos (wanted_some rfl (yielded_of rfl d125))]
                exact ob_field _ rfl rfl rfl (Nat.lt_of_lt_of_eq (by decide : 130 < 162) hsz.symm) rfl d21 (fun w => by go_simp) (Below.refl _ _) rfl
              · intro ac wc hC hsz hfr hd hpr
                have d125 : ac.eval (.tmp 125) = (.bool false) := hd 22 rfl
                have d130 : ac.eval (.tmp 130) = (.pointer (some ⟨g3, 0, none⟩)) := hd 27 rfl
                rw [if_pos (wanted_some rfl (yielded_of rfl d125))]
                exact ob_load _ rfl rfl rfl (Nat.lt_of_lt_of_eq (by decide : 131 < 162) hsz.symm) rfl d130 (load_int ((K3.out.go hC).cell 0)) (Below.refl _ _) rfl
              · intro ac wc hC hsz hfr hd hpr
                have d125 : ac.eval (.tmp 125) = (.bool false) := hd 22 rfl
                have d9 : ac.eval (.tmp 9) = (.int .i64 (k : Int)) := hfr 9 rfl
                rw [if_pos (wanted_some rfl (yielded_of rfl d125))]
                exact ob_copy rfl rfl rfl (Nat.lt_of_lt_of_eq (by decide : 132 < 162) hsz.symm) (Or.inl rfl) (Below.refl _ _) d9
              · intro ac wc hC hsz hfr hd hpr
                have d125 : ac.eval (.tmp 125) = (.bool false) := hd 22 rfl
                have d131 : ac.eval (.tmp 131) = (.int .i64 (rk : Int)) := hd 28 rfl
                have d132 : ac.eval (.tmp 132) = (.int .i64 (k : Int)) := hd 29 rfl
                rw [if_pos (wanted_some rfl (yielded_of rfl d125))]
                exact ob_bin _ rfl rfl rfl (Nat.lt_of_lt_of_eq (by decide : 133 < 162) hsz.symm) rfl d131 d132 (eql_int HPP.out) (Below.refl _ _) rfl
              · intro ac wc hC hsz hfr hd hpr
                have d125 : ac.eval (.tmp 125) = (.bool false) := hd 22 rfl
                have d133 : ac.eval (.tmp 133) = (.bool true) := hd 30 rfl
                rw [if_pos (wanted_some rfl (yielded_of rfl d125))]
                exact ob_copy rfl rfl rfl (Nat.lt_of_lt_of_eq (by decide : 134 < 162) hsz.symm) (Or.inl rfl) (Below.refl _ _) d133
              · intro ac wc hC hsz hfr hd hpr
                have d134 : ac.eval (.tmp 134) = (.bool true) := hd 31 rfl
                have d10 : ac.eval (.tmp 10) = (.int .i64 (n : Int)) := hfr 10 rfl
                rw [if_neg (unwanted_some rfl (yielded_of rfl d134) (by decide))]
                exact ⟨Below.refl _ _, trivial⟩
              · intro ac wc hC hsz hfr hd hpr
                have d134 : ac.eval (.tmp 134) = (.bool true) := hd 31 rfl
                rw [if_neg (unwanted_some rfl (yielded_of rfl d134) (by decide))]
                exact ⟨Below.refl _ _, trivial⟩
              · intro ac wc hC hsz hfr hd hpr
                have d125 : ac.eval (.tmp 125) = (.bool false) := hd 22 rfl
                have d134 : ac.eval (.tmp 134) = (.bool true) := hd 31 rfl
                rw [if_pos (wanted_some rfl (yielded_of rfl d125))]
                exact ob_pick rfl rfl rfl (Nat.lt_of_lt_of_eq (by decide : 137 < 162) hsz.symm) rfl d134 (Below.refl _ _) rfl
              · intro ac wc hC hsz hfr hd hpr
                have d125 : ac.eval (.tmp 125) = (.bool false) := hd 22 rfl
                have d129 : ac.eval (.tmp 129) = (.bool true) := hd 26 rfl
                have d137 : ac.eval (.tmp 137) = (.bool true) := hd 34 rfl
                rw [if_pos (wanted_some rfl (yielded_of rfl d125))]
                exact ob_bin _ rfl rfl rfl (Nat.lt_of_lt_of_eq (by decide : 138 < 162) hsz.symm) rfl d129 d137 (neq_bool (by simp)) (Below.refl _ _) rfl
              · intro ac wc hC hsz hfr hd hpr
                have d125 : ac.eval (.tmp 125) = (.bool false) := hd 22 rfl
                have d138 : ac.eval (.tmp 138) = (.bool false) := hd 35 rfl
                rw [if_pos (wanted_none rfl)]
                exact ob_pick rfl rfl rfl (Nat.lt_of_lt_of_eq (by decide : 139 < 162) hsz.symm) rfl d125 (Below.refl _ _) d138
            intro a' W6 hC hdef hsz hfr hd
            have e103 : a'.eval (.tmp 103) = (.int .i64 0) := hd 0 (by decide)
            have e104 : a'.eval (.tmp 104) = (.bool false) := hd 1 (by decide)
            have e105 : a'.eval (.tmp 105) = (.bool false) := hd 2 (by decide)
            have e106 : a'.eval (.tmp 106) = (.int .i64 0) := hd 3 (by decide)
            have e107 : a'.eval (.tmp 107) = (.bool false) := hd 4 (by decide)
            have e108 : a'.eval (.tmp 108) = (.bool false) := hd 5 (by decide)
            have e109 : a'.eval (.tmp 109) = (.bool false) := hd 6 (by decide)
            have e110 : a'.eval (.tmp 110) = (.pointer (some ⟨g3, 1, none⟩)) := hd 7 (by decide)
            have e111 : a'.eval (.tmp 111) = (.int .i64 (-1)) := hd 8 (by decide)
            have e112 : a'.eval (.tmp 112) = (.bool false) := hd 9 (by decide)
            have e113 : a'.eval (.tmp 113) = (.bool false) := hd 10 (by decide)
            have e114 : a'.eval (.tmp 114) = (.bool false) := hd 11 (by decide)
            have e115 : a'.eval (.tmp 115) = (.slice oa L.length oc) := hd 12 (by decide)
            have e116 : a'.eval (.tmp 116) = (.slice la xl lc) := hd 13 (by decide)
            have e117 : a'.eval (.tmp 117) = (.bool true) := hd 14 (by decide)
            have e118 : a'.eval (.tmp 118) = (.bool false) := hd 15 (by decide)
            have e119 : a'.eval (.tmp 119) = (.bool false) := hd 16 (by decide)
            have e120 : a'.eval (.tmp 120) = (.bool false) := hd 17 (by decide)
            have e121 : a'.eval (.tmp 121) = (.agg #[.slice sa ml sc]) := hd 18 (by decide)
            have e122 : a'.eval (.tmp 122) = (.int .i64 ln) := hd 19 (by decide)
            have e123 : a'.eval (.tmp 123) = (.bool false) := hd 20 (by decide)
            have e124 : a'.eval (.tmp 124) = (.bool false) := hd 21 (by decide)
            have e125 : a'.eval (.tmp 125) = (.bool false) := hd 22 (by decide)
            have e126 : a'.eval (.tmp 126) = (.agg #[.slice sa ml sc]) := hd 23 (by decide)
            obtain ⟨x127, e127, r127⟩ : ∃ xq_, a'.eval (.tmp 127) = xq_ ∧ IsNat W6 (xq_) 1 := ⟨_, rfl, hd 24 (by decide)⟩
            replace r127 := Lib.hid r127
            have e128 : a'.eval (.tmp 128) = (.int .i64 (Nt.cmp N 1)) := hd 25 (by decide)
            have e129 : a'.eval (.tmp 129) = (.bool true) := hd 26 (by decide)
            have e130 : a'.eval (.tmp 130) = (.pointer (some ⟨g3, 0, none⟩)) := hd 27 (by decide)
            have e131 : a'.eval (.tmp 131) = (.int .i64 (rk : Int)) := hd 28 (by decide)
            have e132 : a'.eval (.tmp 132) = (.int .i64 (k : Int)) := hd 29 (by decide)
            have e133 : a'.eval (.tmp 133) = (.bool true) := hd 30 (by decide)
            have e134 : a'.eval (.tmp 134) = (.bool true) := hd 31 (by decide)
            obtain ⟨x135, e135⟩ : ∃ x, a'.eval (.tmp 135) = x := ⟨_, rfl⟩
            obtain ⟨x136, e136⟩ : ∃ x, a'.eval (.tmp 136) = x := ⟨_, rfl⟩
            have e137 : a'.eval (.tmp 137) = (.bool true) := hd 34 (by decide)
            have e138 : a'.eval (.tmp 138) = (.bool false) := hd 35 (by decide)
            have e139 : a'.eval (.tmp 139) = (.bool false) := hd 36 (by decide)
            have hact := act_puts hdef hsz hfr
            simp only [dstsOf, List.filterMap, putAll, Act.put, List.setIfInBounds_toArray, List.set_cons_succ, List.set_cons_zero, e103, e104, e105, e106, e107, e108, e109, e110, e111, e112, e113, e114, e115, e116, e117, e118, e119, e120, e121, e122, e123, e124, e125, e126, e127, e128, e129, e130, e131, e132, e133, e134, e135, e136, e137, e138, e139] at hact
            clear hd hfr hsz hdef e103 e104 e105 e106 e107 e108 e109 e110 e111 e112 e113 e114 e115 e116 e117 e118 e119 e120 e121 e122 e123 e124 e125 e126 e127 e128 e129 e130 e131 e132 e133 e134 e135 e136 e137 e138 e139
            subst hact
            replace HM := Lib.hid (HM.out.go hC)
            replace HLV := Lib.hid (HLV.out.go hC)
            replace K3 := Lib.hid (K3.out.go hC)
            replace K5 := Lib.hid (K5.out.go hC)
            replace HN4 := Lib.hid (HN4.out.go hC)
            replace B := B.trans (hC.mono B.size)
            clear hC
            have KM := Lib.hid (K1.out.go B)
            obtain ⟨km0, km1⟩ := KM.out.two
            have kml := KM.out.lt
            go_upto_region 29 with fail
            have HFR := HMR.out.go B
            go_wp2_with fail
            refine (fit8_any _ p q k n _ HFR (by omega) (by omega)).mono ?_
            rintro e w7 ⟨u7, rfl, hu7, hb⟩
            replace HM := Lib.hid (HM.out.go hb)
            replace HLV := Lib.hid (HLV.out.go hb)
            replace K5 := Lib.hid (K5.out.go hb)
            replace HN4 := Lib.hid (HN4.out.go hb)
            replace B := B.trans (hb.mono B.size)
            have hzw7 := B.size
            clear hb
            have HF7 := Lib.hid hu7
            clear hu7 HFR
            go_wp2_with fail
            refine (make3_any _ _ _ _ HF7.out (by rw [fitR_length]; omega) (by rw [fitR_length]; omega)).mono ?_
            rintro e w8 ⟨u8, rfl, hu8, hb⟩
            replace HM := Lib.hid (HM.out.go hb)
            replace HLV := Lib.hid (HLV.out.go hb)
            replace K5 := Lib.hid (K5.out.go hb)
            replace HN4 := Lib.hid (HN4.out.go hb)
            replace B := B.trans (hb.mono B.size)
            have hzw8 := B.size
            clear hb
            obtain ⟨_, _, rfl, hp8, hq8⟩ := hu8
            have HP8 := Lib.hid hp8
            have HQ8 := Lib.hid hq8
            obtain ⟨pa, pc, rfl, _⟩ := hp8
            obtain ⟨qa, qc, rfl, _⟩ := hq8
            have hsz8 := B.size
            have hb8 : Below w8.heap.size w8 (w8.alloc (.cells #[.slice pa (fitR k p).length pc, .slice qa (fitR n q).length qc] 52)) := (Below.refl _ _).alloc (Nat.le_refl _) _
            go_wp2_with (at_builtin; refine wpList_append_vrowW rfl (.tmp 143) (.tmp 149) rfl W0.heap.size w8.heap.size 1 _ _ _ X (fitR k p, fitR n q) rfl rfl (HLV.out.go hb8).1 (HLV.out.go hb8).2 (Blk.new w8 _ _ _ rfl) (HP8.out.go hb8) (HQ8.out.go hb8) ?c1 ?c2 ?_)
            case c1 => exact Nat.le_trans hsz8 hb8.size
            case c2 => have := HXLN.out; omega
            intro v9 w9 ho9 hg9 hs9 hsw9 hnw9
            replace B := below_grownO (B.trans (hb8.mono hsz8)) hg9 (Nat.le_trans hsz8 hb8.size) HLV.out.1.from
            have HLVG := Lib.hid (HLV.out.1.go hb8)
            replace K5 := Lib.hid ((K5.out.go hb8).grown hg9 (fun e => HLVG.out.typed.box (K5.out.go hb8) (by decide) e.symm))
            replace HN4 := Lib.hid ((HN4.out.go hb8).softW hsw9)
            have HO9 := Lib.hid ho9
            clear ho9 hg9 hs9 hsw9 hnw9 hb8 HLVG HP8 HQ8 hsz8
            obtain ⟨l9, d9, e9⟩ := HO9.out.shape
            rw [List.length_append, List.length_singleton] at e9
            subst e9
            have HM9 := Lib.hid (HMORE.out (fitR k p, fitR n q))
            have HC9 := Lib.hid (fun (v : Value) (w : World) (h : IsRL w v (X ++ [(fitR k p, fitR n q)])) => count_yes k n v (X ++ [(fitR k p, fitR n q)]) w h (by have := HXLN.out; rw [List.length_append, List.length_singleton]; omega) HNO.out (dims_snoc HD.out (fit_dim k n HPL.out HQL9.out)) HKN.out)
            obtain ⟨M, hM⟩ : ∃ M, M = countN k n (X ++ [(fitR k p, fitR n q)]) := ⟨_, rfl⟩
            rw [← hM] at HM9 HC9
            clear hM
            go_wp2_with fail
            refine (HC9.out _ _ HO9.out.list).mono ?_
            rintro e w10 ⟨u10, rfl, hu10, hb⟩
            replace K5 := Lib.hid (K5.out.go hb)
            replace HN4 := Lib.hid (HN4.out.go hb)
            replace B := B.trans (hb.mono B.size)
            have hzw10 := B.size
            clear hb
            have HN10 := Lib.hid hu10
            obtain ⟨ta, tc, rfl, _⟩ := hu10.shape
            obtain ⟨mm, hmm⟩ : ∃ ml, ml = (Wt.dg M).length := ⟨_, rfl⟩
            rw [← hmm] at HN10
            simp only [← hmm]
            clear hu10 hmm HC9
            go_upto_region 30 with fail
            obtain ⟨g10, hg10⟩ : ∃ g : Nat, g = w10.heap.size := ⟨_, rfl⟩
            obtain ⟨hb, hk, hs⟩ := blocks1 w10 #[.slice ta mm tc] 36
            generalize w10.alloc (.cells #[.slice ta mm tc] 36) = W11 at *
            have K11 := Lib.hid hk
            replace K5 := Lib.hid (K5.out.go hb)
            replace HN4 := Lib.hid (HN4.out.go hb)
            replace HN10 := Lib.hid (HN10.out.go hb)
            replace B := B.trans (hb.mono B.size)
            have hzW11 := B.size
            clear hb hk hs
            rw [← hg10] at K11
            simp only [← hg10]
            clear hg10
            have c11 : W11.cell? ⟨g10, 0, none⟩ = some (.slice ta mm tc) := K11.out.cell 0
            have c5 : W11.cell? ⟨g5, 0, none⟩ = some (.slice sa ml sc) := K5.out.cell 0
            go_wp2_with fail
            refine (natcmp_any _ _ M N _ HN10.out HN4.out).mono ?_
            rintro e w12 ⟨rfl, hb⟩
            replace B := B.trans (hb.mono B.size)
            have hzw12 := B.size
            clear hb
            have hle : Nt.cmp M N ≤ 0 := by
              have := HM9.out
              unfold Nt.cmp
              by_cases h : M < N
              · rw [if_pos h]; decide
              · rw [if_neg h, if_pos (by omega)]; decide
            obtain ⟨cc, hcc⟩ : ∃ c, c = Nt.cmp M N := ⟨_, rfl⟩
            rw [← hcc] at hle ⊢
            clear hcc c11 c5
            have HBF := Lib.hid (HB0.out.trans (B.mono HB0.out.size))
            go_wp2_with fail
            go_ret
            exact ⟨rfl, HBF.out⟩
          · obtain ⟨bz, hbz⟩ : ∃ bz, bz = ((n : Int) == (0 : Int)) := ⟨_, rfl⟩
            have HBB := Lib.hid (show (Nt.cmp N 1 == (0 : Int)) = bz by
              rw [hcmp, hbz, Bool.eq_iff_iff, decide_eq_true_eq, H1N.out, beq_iff_eq]
              constructor
              · rintro (h | h)
                · exact absurd h hrk1
                · omega
              · intro h; exact .inr (by omega))
            have HPP := Lib.hid (show ((rk : Int) == (k : Int)) = false by rw [beq_eq_false_iff_ne]; omega)
            have HBZ := Lib.hid hbz.symm
            clear hln hcmp hrk1 hbz

            refine wp_region_mono (C := Cb W5) (R := Rb) (H := Hn W5) [Ty.val 103 (.int .i64 0), Ty.val 104 (.bool false), Ty.val 105 (.bool false), Ty.val 106 (.int .i64 0), Ty.val 107 (.bool false), Ty.val 108 (.bool false), Ty.val 109 (.bool false), Ty.val 110 (.pointer (some ⟨g3, 1, none⟩)), Ty.val 111 (.int .i64 (-1)), Ty.val 112 (.bool false), Ty.val 113 (.bool false), Ty.val 114 (.bool false), Ty.val 115 (.slice oa L.length oc), Ty.val 116 (.slice la xl lc), Ty.val 117 (.bool true), Ty.val 118 (.bool false), Ty.val 119 (.bool false), Ty.val 120 (.bool false), Ty.val 121 (.agg #[.slice sa ml sc]), Ty.val 122 (.int .i64 ln), Ty.val 123 (.bool false), Ty.val 124 (.bool false), Ty.val 125 (.bool false), Ty.val 126 (.agg #[.slice sa ml sc]), Ty.nat 127 1, Ty.val 128 (.int .i64 (Nt.cmp N 1)), Ty.val 129 (.bool bz), Ty.val 130 (.pointer (some ⟨g3, 0, none⟩)), Ty.val 131 (.int .i64 (rk : Int)), Ty.val 132 (.int .i64 (k : Int)), Ty.val 133 (.bool false), Ty.val 134 (.bool false), Ty.val 135 (.int .i64 (n : Int)), Ty.val 136 (.bool bz), Ty.val 137 (.bool bz), Ty.val 138 (.bool false), Ty.val 139 (.bool false)] (by kernel_rfl) (hC_b W5) (hCH_n W5) (drew_b W5) ⟨trivial, trivial, trivial, trivial, trivial, trivial, trivial, trivial, trivial, trivial, trivial, trivial, trivial, trivial, trivial, trivial, trivial, trivial, trivial, trivial, trivial, trivial, trivial, trivial, trivial, trivial, trivial, trivial, trivial, trivial, trivial, trivial, trivial, trivial, trivial, trivial, trivial, trivial⟩ (by kernel_rfl) ?_ ?_
            · refine ⟨?_, ?_, ?_, ?_, ?_, ?_, ?_, ?_, ?_, ?_, ?_, ?_, ?_, ?_, ?_, ?_, ?_, ?_, ?_, ?_, ?_, ?_, ?_, ?_, ?_, ?_, ?_, ?_, ?_, ?_, ?_, ?_, ?_, ?_, ?_, ?_, ?_, trivial⟩
              · intro ac wc hC hsz hfr hd hpr
                have d22 : ac.eval (.tmp 22) = (.int .i64 0) := hfr 22 rfl
                rw [if_pos (wanted_none rfl)]
                exact ob_copy rfl rfl rfl (Nat.lt_of_lt_of_eq (by decide : 103 < 162) hsz.symm) (Or.inl rfl) (Below.refl _ _) d22
              · intro ac wc hC hsz hfr hd hpr
                have d103 : ac.eval (.tmp 103) = (.int .i64 0) := hd 0 rfl
                rw [if_pos (wanted_none rfl)]
                exact ob_bin _ rfl rfl rfl (Nat.lt_of_lt_of_eq (by decide : 104 < 162) hsz.symm) rfl d103 rfl (neq_err (by simp)) (Below.refl _ _) rfl
              · intro ac wc hC hsz hfr hd hpr
                have d104 : ac.eval (.tmp 104) = (.bool false) := hd 1 rfl
                rw [if_pos (wanted_none rfl)]
                exact ob_copy rfl rfl rfl (Nat.lt_of_lt_of_eq (by decide : 105 < 162) hsz.symm) (Or.inl rfl) (Below.refl _ _) d104
              · intro ac wc hC hsz hfr hd hpr
                have d105 : ac.eval (.tmp 105) = (.bool false) := hd 2 rfl
                have d24 : ac.eval (.tmp 24) = (.int .i64 0) := hfr 24 rfl
                rw [if_pos (wanted_some rfl (yielded_of rfl d105))]
                exact ob_copy rfl rfl rfl (Nat.lt_of_lt_of_eq (by decide : 106 < 162) hsz.symm) (Or.inl rfl) (Below.refl _ _) d24
              · intro ac wc hC hsz hfr hd hpr
                have d105 : ac.eval (.tmp 105) = (.bool false) := hd 2 rfl
                have d106 : ac.eval (.tmp 106) = (.int .i64 0) := hd 3 rfl
                rw [if_pos (wanted_some rfl (yielded_of rfl d105))]
                exact ob_bin _ rfl rfl rfl (Nat.lt_of_lt_of_eq (by decide : 107 < 162) hsz.symm) rfl d106 rfl (neq_err (by simp)) (Below.refl _ _) rfl
              · intro ac wc hC hsz hfr hd hpr
                have d105 : ac.eval (.tmp 105) = (.bool false) := hd 2 rfl
                have d107 : ac.eval (.tmp 107) = (.bool false) := hd 4 rfl
                rw [if_pos (wanted_none rfl)]
                exact ob_pick rfl rfl rfl (Nat.lt_of_lt_of_eq (by decide : 108 < 162) hsz.symm) rfl d105 (Below.refl _ _) d107
              · intro ac wc hC hsz hfr hd hpr
                have d108 : ac.eval (.tmp 108) = (.bool false) := hd 5 rfl
                rw [if_pos (wanted_none rfl)]
                exact ob_copy rfl rfl rfl (Nat.lt_of_lt_of_eq (by decide : 109 < 162) hsz.symm) (Or.inl rfl) (Below.refl _ _) d108
              · intro ac wc hC hsz hfr hd hpr
                have d109 : ac.eval (.tmp 109) = (.bool false) := hd 6 rfl
                have d21 : ac.eval (.tmp 21) = (.pointer (some ⟨g3, 0, none⟩)) := hfr 21 rfl
                rw [if_pos (wanted_some rfl (yielded_of rfl d109))]
                exact ob_field _ rfl rfl rfl (Nat.lt_of_lt_of_eq (by decide : 110 < 162) hsz.symm) rfl d21 (fun w => by go_simp) (Below.refl _ _) rfl
              · intro ac wc hC hsz hfr hd hpr
                have d109 : ac.eval (.tmp 109) = (.bool false) := hd 6 rfl
                have d110 : ac.eval (.tmp 110) = (.pointer (some ⟨g3, 1, none⟩)) := hd 7 rfl
                rw [if_pos (wanted_some rfl (yielded_of rfl d109))]
                exact ob_load _ rfl rfl rfl (Nat.lt_of_lt_of_eq (by decide : 111 < 162) hsz.symm) rfl d110 (load_int ((K3.out.go hC).cell 1)) (Below.refl _ _) rfl
              · intro ac wc hC hsz hfr hd hpr
                have d109 : ac.eval (.tmp 109) = (.bool false) := hd 6 rfl
                have d111 : ac.eval (.tmp 111) = (.int .i64 (-1)) := hd 8 rfl
                rw [if_pos (wanted_some rfl (yielded_of rfl d109))]
                exact ob_bin _ rfl rfl rfl (Nat.lt_of_lt_of_eq (by decide : 112 < 162) hsz.symm) rfl d111 rfl (geq_int (by decide)) (Below.refl _ _) rfl
              · intro ac wc hC hsz hfr hd hpr
                have d109 : ac.eval (.tmp 109) = (.bool false) := hd 6 rfl
                have d112 : ac.eval (.tmp 112) = (.bool false) := hd 9 rfl
                rw [if_pos (wanted_none rfl)]
                exact ob_pick rfl rfl rfl (Nat.lt_of_lt_of_eq (by decide : 113 < 162) hsz.symm) rfl d109 (Below.refl _ _) d112
              · intro ac wc hC hsz hfr hd hpr
                have d113 : ac.eval (.tmp 113) = (.bool false) := hd 10 rfl
                rw [if_pos (wanted_none rfl)]
                exact ob_copy rfl rfl rfl (Nat.lt_of_lt_of_eq (by decide : 114 < 162) hsz.symm) (Or.inl rfl) (Below.refl _ _) d113
              · intro ac wc hC hsz hfr hd hpr
                have d114 : ac.eval (.tmp 114) = (.bool false) := hd 11 rfl
                have d11 : ac.eval (.tmp 11) = (.slice oa L.length oc) := hfr 11 rfl
                rw [if_pos (wanted_some rfl (yielded_of rfl d114))]
                exact ob_copy rfl rfl rfl (Nat.lt_of_lt_of_eq (by decide : 115 < 162) hsz.symm) (Or.inl rfl) (Below.refl _ _) d11
              · intro ac wc hC hsz hfr hd hpr
                have d114 : ac.eval (.tmp 114) = (.bool false) := hd 11 rfl
                have d15 : ac.eval (.tmp 15) = (.slice la xl lc) := hfr 15 rfl
                rw [if_pos (wanted_some rfl (yielded_of rfl d114))]
                exact ob_copy rfl rfl rfl (Nat.lt_of_lt_of_eq (by decide : 116 < 162) hsz.symm) (Or.inl rfl) (Below.refl _ _) d15
              · intro ac wc hC hsz hfr hd hpr
                have d114 : ac.eval (.tmp 114) = (.bool false) := hd 11 rfl
                have d115 : ac.eval (.tmp 115) = (.slice oa L.length oc) := hd 12 rfl
                have d116 : ac.eval (.tmp 116) = (.slice la xl lc) := hd 13 rfl
                rw [if_pos (wanted_some rfl (yielded_of rfl d114))]
                refine ob_call rfl rfl rfl (Nat.lt_of_lt_of_eq (by decide : 117 < 162) hsz.symm) rfl (enter_of Try.func15 (by kernel_rfl) rfl) ?_
                show Calls Try.prog 15 #[ac.eval (.tmp 115), ac.eval (.tmp 116)] wc _
                rw [d115, d116]
                exact (HHO.out _ _ wc (HM.out.rows.go hC) (HLV.out.1.list.go hC)).mono fun _ _ ⟨he, hb⟩ => ⟨_, he, rfl, hb⟩
              · intro ac wc hC hsz hfr hd hpr
                have d114 : ac.eval (.tmp 114) = (.bool false) := hd 11 rfl
                have d117 : ac.eval (.tmp 117) = (.bool true) := hd 14 rfl
                rw [if_pos (wanted_some rfl (yielded_of rfl d114))]
                exact ob_not rfl rfl rfl (Nat.lt_of_lt_of_eq (by decide : 118 < 162) hsz.symm) rfl d117 (Below.refl _ _) rfl
              · intro ac wc hC hsz hfr hd hpr
                have d114 : ac.eval (.tmp 114) = (.bool false) := hd 11 rfl
                have d118 : ac.eval (.tmp 118) = (.bool false) := hd 15 rfl
                rw [if_pos (wanted_none rfl)]
                exact ob_pick rfl rfl rfl (Nat.lt_of_lt_of_eq (by decide : 119 < 162) hsz.symm) rfl d114 (Below.refl _ _) d118
              · intro ac wc hC hsz hfr hd hpr
                have d119 : ac.eval (.tmp 119) = (.bool false) := hd 16 rfl
                rw [if_pos (wanted_none rfl)]
                exact ob_copy rfl rfl rfl (Nat.lt_of_lt_of_eq (by decide : 120 < 162) hsz.symm) (Or.inl rfl) (Below.refl _ _) d119
              · intro ac wc hC hsz hfr hd hpr
                have d120 : ac.eval (.tmp 120) = (.bool false) := hd 17 rfl
                have d23 : ac.eval (.tmp 23) = (.pointer (some ⟨g5, 0, none⟩)) := hfr 23 rfl
                rw [if_pos (wanted_some rfl (yielded_of rfl d120))]
                exact ob_load _ rfl rfl rfl (Nat.lt_of_lt_of_eq (by decide : 121 < 162) hsz.symm) rfl d23 (load_nat ((K5.out.go hC).cell 0)) (Below.refl _ _) rfl
              · intro ac wc hC hsz hfr hd hpr
                have d120 : ac.eval (.tmp 120) = (.bool false) := hd 17 rfl
                have d121 : ac.eval (.tmp 121) = (.agg #[.slice sa ml sc]) := hd 18 rfl
                rw [if_pos (wanted_some rfl (yielded_of rfl d120))]
                refine ob_call rfl rfl rfl (Nat.lt_of_lt_of_eq (by decide : 122 < 162) hsz.symm) rfl (enter_of Try.func10 (by kernel_rfl) rfl) ?_
                show Calls Try.prog 10 #[ac.eval (.tmp 121)] wc _
                rw [d121]
                exact (HLN.out _ wc (HN4.out.go hC)).mono fun _ _ ⟨he, hb⟩ => ⟨_, he, rfl, hb⟩
              · intro ac wc hC hsz hfr hd hpr
                have d120 : ac.eval (.tmp 120) = (.bool false) := hd 17 rfl
                have d122 : ac.eval (.tmp 122) = (.int .i64 ln) := hd 19 rfl
                rw [if_pos (wanted_some rfl (yielded_of rfl d120))]
                exact ob_bin _ rfl rfl rfl (Nat.lt_of_lt_of_eq (by decide : 123 < 162) hsz.symm) rfl d122 rfl (eql_int HLN0.out) (Below.refl _ _) rfl
              · intro ac wc hC hsz hfr hd hpr
                have d120 : ac.eval (.tmp 120) = (.bool false) := hd 17 rfl
                have d123 : ac.eval (.tmp 123) = (.bool false) := hd 20 rfl
                rw [if_pos (wanted_none rfl)]
                exact ob_pick rfl rfl rfl (Nat.lt_of_lt_of_eq (by decide : 124 < 162) hsz.symm) rfl d120 (Below.refl _ _) d123
              · intro ac wc hC hsz hfr hd hpr
                have d124 : ac.eval (.tmp 124) = (.bool false) := hd 21 rfl
                rw [if_pos (wanted_none rfl)]
                exact ob_copy rfl rfl rfl (Nat.lt_of_lt_of_eq (by decide : 125 < 162) hsz.symm) (Or.inl rfl) (Below.refl _ _) d124
              · intro ac wc hC hsz hfr hd hpr
                have d125 : ac.eval (.tmp 125) = (.bool false) := hd 22 rfl
                have d23 : ac.eval (.tmp 23) = (.pointer (some ⟨g5, 0, none⟩)) := hfr 23 rfl
                rw [if_pos (wanted_some rfl (yielded_of rfl d125))]
                exact ob_load _ rfl rfl rfl (Nat.lt_of_lt_of_eq (by decide : 126 < 162) hsz.symm) rfl d23 (load_nat ((K5.out.go hC).cell 0)) (Below.refl _ _) rfl
              · intro ac wc hC hsz hfr hd hpr
                have d125 : ac.eval (.tmp 125) = (.bool false) := hd 22 rfl
                rw [if_pos (wanted_some rfl (yielded_of rfl d125))]
                refine ob_call rfl rfl rfl (Nat.lt_of_lt_of_eq (by decide : 127 < 162) hsz.symm) rfl (enter_of Try.func17 (by kernel_rfl) rfl) ?_
                show Calls Try.prog 17 #[.int .u64 1] wc _
                exact natof_any 1 wc (by decide)
              · intro ac wc hC hsz hfr hd hpr
                have d125 : ac.eval (.tmp 125) = (.bool false) := hd 22 rfl
                have d126 : ac.eval (.tmp 126) = (.agg #[.slice sa ml sc]) := hd 23 rfl
                have d127 : IsNat wc (ac.eval (.tmp 127)) 1 := hd 24 rfl
                rw [if_pos (wanted_some rfl (yielded_of rfl d125))]
                refine ob_call rfl rfl rfl (Nat.lt_of_lt_of_eq (by decide : 128 < 162) hsz.symm) rfl (enter_of Try.func16 (by kernel_rfl) rfl) ?_
                show Calls Try.prog 16 #[ac.eval (.tmp 126), ac.eval (.tmp 127)] wc _
                rw [d126]
                exact (natcmp_any _ _ N 1 wc (HN4.out.go hC) d127).mono fun _ _ ⟨he, hb⟩ => ⟨_, he, rfl, hb⟩
              · intro ac wc hC hsz hfr hd hpr
                have d125 : ac.eval (.tmp 125) = (.bool false) := hd 22 rfl
                have d128 : ac.eval (.tmp 128) = (.int .i64 (Nt.cmp N 1)) := hd 25 rfl
                rw [if_pos (wanted_some rfl (yielded_of rfl d125))]
                exact ob_bin _ rfl rfl rfl (Nat.lt_of_lt_of_eq (by decide : 129 < 162) hsz.symm) rfl d128 rfl (eql_int HBB.out) (Below.refl _ _) rfl
              · intro ac wc hC hsz hfr hd hpr
                have d125 : ac.eval (.tmp 125) = (.bool false) := hd 22 rfl
                have d21 : ac.eval (.tmp 21) = (.pointer (some ⟨g3, 0, none⟩)) := hfr 21 rfl
                rw [if_pos (wanted_some rfl (yielded_of rfl d125))]
                exact ob_field _ rfl rfl rfl (Nat.lt_of_lt_of_eq (by decide : 130 < 162) hsz.symm) rfl d21 (fun w => by go_simp) (Below.refl _ _) rfl
              · intro ac wc hC hsz hfr hd hpr
                have d125 : ac.eval (.tmp 125) = (.bool false) := hd 22 rfl
                have d130 : ac.eval (.tmp 130) = (.pointer (some ⟨g3, 0, none⟩)) := hd 27 rfl
                rw [if_pos (wanted_some rfl (yielded_of rfl d125))]
                exact ob_load _ rfl rfl rfl (Nat.lt_of_lt_of_eq (by decide : 131 < 162) hsz.symm) rfl d130 (load_int ((K3.out.go hC).cell 0)) (Below.refl _ _) rfl
              · intro ac wc hC hsz hfr hd hpr
                have d125 : ac.eval (.tmp 125) = (.bool false) := hd 22 rfl
                have d9 : ac.eval (.tmp 9) = (.int .i64 (k : Int)) := hfr 9 rfl
                rw [if_pos (wanted_some rfl (yielded_of rfl d125))]
                exact ob_copy rfl rfl rfl (Nat.lt_of_lt_of_eq (by decide : 132 < 162) hsz.symm) (Or.inl rfl) (Below.refl _ _) d9
              · intro ac wc hC hsz hfr hd hpr
                have d125 : ac.eval (.tmp 125) = (.bool false) := hd 22 rfl
                have d131 : ac.eval (.tmp 131) = (.int .i64 (rk : Int)) := hd 28 rfl
                have d132 : ac.eval (.tmp 132) = (.int .i64 (k : Int)) := hd 29 rfl
                rw [if_pos (wanted_some rfl (yielded_of rfl d125))]
                exact ob_bin _ rfl rfl rfl (Nat.lt_of_lt_of_eq (by decide : 133 < 162) hsz.symm) rfl d131 d132 (eql_int HPP.out) (Below.refl _ _) rfl
              · intro ac wc hC hsz hfr hd hpr
                have d125 : ac.eval (.tmp 125) = (.bool false) := hd 22 rfl
                have d133 : ac.eval (.tmp 133) = (.bool false) := hd 30 rfl
                rw [if_pos (wanted_some rfl (yielded_of rfl d125))]
                exact ob_copy rfl rfl rfl (Nat.lt_of_lt_of_eq (by decide : 134 < 162) hsz.symm) (Or.inl rfl) (Below.refl _ _) d133
              · intro ac wc hC hsz hfr hd hpr
                have d134 : ac.eval (.tmp 134) = (.bool false) := hd 31 rfl
                have d10 : ac.eval (.tmp 10) = (.int .i64 (n : Int)) := hfr 10 rfl
                rw [if_pos (wanted_some rfl (yielded_of rfl d134))]
                exact ob_copy rfl rfl rfl (Nat.lt_of_lt_of_eq (by decide : 135 < 162) hsz.symm) (Or.inl rfl) (Below.refl _ _) d10
              · intro ac wc hC hsz hfr hd hpr
                have d134 : ac.eval (.tmp 134) = (.bool false) := hd 31 rfl
                have d135 : ac.eval (.tmp 135) = (.int .i64 (n : Int)) := hd 32 rfl
                rw [if_pos (wanted_some rfl (yielded_of rfl d134))]
                exact ob_bin _ rfl rfl rfl (Nat.lt_of_lt_of_eq (by decide : 136 < 162) hsz.symm) rfl d135 rfl (eql_int HBZ.out) (Below.refl _ _) rfl
              · intro ac wc hC hsz hfr hd hpr
                have d125 : ac.eval (.tmp 125) = (.bool false) := hd 22 rfl
                have d134 : ac.eval (.tmp 134) = (.bool false) := hd 31 rfl
                have d136 : ac.eval (.tmp 136) = (.bool bz) := hd 33 rfl
                rw [if_pos (wanted_some rfl (yielded_of rfl d125))]
                exact ob_pick rfl rfl rfl (Nat.lt_of_lt_of_eq (by decide : 137 < 162) hsz.symm) rfl d134 (Below.refl _ _) d136
              · intro ac wc hC hsz hfr hd hpr
                have d125 : ac.eval (.tmp 125) = (.bool false) := hd 22 rfl
                have d129 : ac.eval (.tmp 129) = (.bool bz) := hd 26 rfl
                have d137 : ac.eval (.tmp 137) = (.bool bz) := hd 34 rfl
                rw [if_pos (wanted_some rfl (yielded_of rfl d125))]
                exact ob_bin _ rfl rfl rfl (Nat.lt_of_lt_of_eq (by decide : 138 < 162) hsz.symm) rfl d129 d137 (neq_bool (by simp)) (Below.refl _ _) rfl
              · intro ac wc hC hsz hfr hd hpr
                have d125 : ac.eval (.tmp 125) = (.bool false) := hd 22 rfl
                have d138 : ac.eval (.tmp 138) = (.bool false) := hd 35 rfl
                rw [if_pos (wanted_none rfl)]
                exact ob_pick rfl rfl rfl (Nat.lt_of_lt_of_eq (by decide : 139 < 162) hsz.symm) rfl d125 (Below.refl _ _) d138
            intro a' W6 hC hdef hsz hfr hd
            have e103 : a'.eval (.tmp 103) = (.int .i64 0) := hd 0 (by decide)
            have e104 : a'.eval (.tmp 104) = (.bool false) := hd 1 (by decide)
            have e105 : a'.eval (.tmp 105) = (.bool false) := hd 2 (by decide)
            have e106 : a'.eval (.tmp 106) = (.int .i64 0) := hd 3 (by decide)
            have e107 : a'.eval (.tmp 107) = (.bool false) := hd 4 (by decide)
            have e108 : a'.eval (.tmp 108) = (.bool false) := hd 5 (by decide)
            have e109 : a'.eval (.tmp 109) = (.bool false) := hd 6 (by decide)
            have e110 : a'.eval (.tmp 110) = (.pointer (some ⟨g3, 1, none⟩)) := hd 7 (by decide)
            have e111 : a'.eval (.tmp 111) = (.int .i64 (-1)) := hd 8 (by decide)
            have e112 : a'.eval (.tmp 112) = (.bool false) := hd 9 (by decide)
            have e113 : a'.eval (.tmp 113) = (.bool false) := hd 10 (by decide)
            have e114 : a'.eval (.tmp 114) = (.bool false) := hd 11 (by decide)
            have e115 : a'.eval (.tmp 115) = (.slice oa L.length oc) := hd 12 (by decide)
            have e116 : a'.eval (.tmp 116) = (.slice la xl lc) := hd 13 (by decide)
            have e117 : a'.eval (.tmp 117) = (.bool true) := hd 14 (by decide)
            have e118 : a'.eval (.tmp 118) = (.bool false) := hd 15 (by decide)
            have e119 : a'.eval (.tmp 119) = (.bool false) := hd 16 (by decide)
            have e120 : a'.eval (.tmp 120) = (.bool false) := hd 17 (by decide)
            have e121 : a'.eval (.tmp 121) = (.agg #[.slice sa ml sc]) := hd 18 (by decide)
            have e122 : a'.eval (.tmp 122) = (.int .i64 ln) := hd 19 (by decide)
            have e123 : a'.eval (.tmp 123) = (.bool false) := hd 20 (by decide)
            have e124 : a'.eval (.tmp 124) = (.bool false) := hd 21 (by decide)
            have e125 : a'.eval (.tmp 125) = (.bool false) := hd 22 (by decide)
            have e126 : a'.eval (.tmp 126) = (.agg #[.slice sa ml sc]) := hd 23 (by decide)
            obtain ⟨x127, e127, r127⟩ : ∃ xq_, a'.eval (.tmp 127) = xq_ ∧ IsNat W6 (xq_) 1 := ⟨_, rfl, hd 24 (by decide)⟩
            replace r127 := Lib.hid r127
            have e128 : a'.eval (.tmp 128) = (.int .i64 (Nt.cmp N 1)) := hd 25 (by decide)
            have e129 : a'.eval (.tmp 129) = (.bool bz) := hd 26 (by decide)
            have e130 : a'.eval (.tmp 130) = (.pointer (some ⟨g3, 0, none⟩)) := hd 27 (by decide)
            have e131 : a'.eval (.tmp 131) = (.int .i64 (rk : Int)) := hd 28 (by decide)
            have e132 : a'.eval (.tmp 132) = (.int .i64 (k : Int)) := hd 29 (by decide)
            have e133 : a'.eval (.tmp 133) = (.bool false) := hd 30 (by decide)
            have e134 : a'.eval (.tmp 134) = (.bool false) := hd 31 (by decide)
            have e135 : a'.eval (.tmp 135) = (.int .i64 (n : Int)) := hd 32 (by decide)
            have e136 : a'.eval (.tmp 136) = (.bool bz) := hd 33 (by decide)
            have e137 : a'.eval (.tmp 137) = (.bool bz) := hd 34 (by decide)
            have e138 : a'.eval (.tmp 138) = (.bool false) := hd 35 (by decide)
            have e139 : a'.eval (.tmp 139) = (.bool false) := hd 36 (by decide)
            have hact := act_puts hdef hsz hfr
            simp only [dstsOf, List.filterMap, putAll, Act.put, List.setIfInBounds_toArray, List.set_cons_succ, List.set_cons_zero, e103, e104, e105, e106, e107, e108, e109, e110, e111, e112, e113, e114, e115, e116, e117, e118, e119, e120, e121, e122, e123, e124, e125, e126, e127, e128, e129, e130, e131, e132, e133, e134, e135, e136, e137, e138, e139] at hact
            clear hd hfr hsz hdef e103 e104 e105 e106 e107 e108 e109 e110 e111 e112 e113 e114 e115 e116 e117 e118 e119 e120 e121 e122 e123 e124 e125 e126 e127 e128 e129 e130 e131 e132 e133 e134 e135 e136 e137 e138 e139
            subst hact
            replace HM := Lib.hid (HM.out.go hC)
            replace HLV := Lib.hid (HLV.out.go hC)
            replace K3 := Lib.hid (K3.out.go hC)
            replace K5 := Lib.hid (K5.out.go hC)
            replace HN4 := Lib.hid (HN4.out.go hC)
            replace B := B.trans (hC.mono B.size)
            clear hC
            have KM := Lib.hid (K1.out.go B)
            obtain ⟨km0, km1⟩ := KM.out.two
            have kml := KM.out.lt
            go_upto_region 29 with fail
            have HFR := HMR.out.go B
            go_wp2_with fail
            refine (fit8_any _ p q k n _ HFR (by omega) (by omega)).mono ?_
            rintro e w7 ⟨u7, rfl, hu7, hb⟩
            replace HM := Lib.hid (HM.out.go hb)
            replace HLV := Lib.hid (HLV.out.go hb)
            replace K5 := Lib.hid (K5.out.go hb)
            replace HN4 := Lib.hid (HN4.out.go hb)
            replace B := B.trans (hb.mono B.size)
            have hzw7 := B.size
            clear hb
            have HF7 := Lib.hid hu7
            clear hu7 HFR
            go_wp2_with fail
            refine (make3_any _ _ _ _ HF7.out (by rw [fitR_length]; omega) (by rw [fitR_length]; omega)).mono ?_
            rintro e w8 ⟨u8, rfl, hu8, hb⟩
            replace HM := Lib.hid (HM.out.go hb)
            replace HLV := Lib.hid (HLV.out.go hb)
            replace K5 := Lib.hid (K5.out.go hb)
            replace HN4 := Lib.hid (HN4.out.go hb)
            replace B := B.trans (hb.mono B.size)
            have hzw8 := B.size
            clear hb
            obtain ⟨_, _, rfl, hp8, hq8⟩ := hu8
            have HP8 := Lib.hid hp8
            have HQ8 := Lib.hid hq8
            obtain ⟨pa, pc, rfl, _⟩ := hp8
            obtain ⟨qa, qc, rfl, _⟩ := hq8
            have hsz8 := B.size
            have hb8 : Below w8.heap.size w8 (w8.alloc (.cells #[.slice pa (fitR k p).length pc, .slice qa (fitR n q).length qc] 52)) := (Below.refl _ _).alloc (Nat.le_refl _) _
            go_wp2_with (at_builtin; refine wpList_append_vrowW rfl (.tmp 143) (.tmp 149) rfl W0.heap.size w8.heap.size 1 _ _ _ X (fitR k p, fitR n q) rfl rfl (HLV.out.go hb8).1 (HLV.out.go hb8).2 (Blk.new w8 _ _ _ rfl) (HP8.out.go hb8) (HQ8.out.go hb8) ?c1 ?c2 ?_)
            case c1 => exact Nat.le_trans hsz8 hb8.size
            case c2 => have := HXLN.out; omega
            intro v9 w9 ho9 hg9 hs9 hsw9 hnw9
            replace B := below_grownO (B.trans (hb8.mono hsz8)) hg9 (Nat.le_trans hsz8 hb8.size) HLV.out.1.from
            have HLVG := Lib.hid (HLV.out.1.go hb8)
            replace K5 := Lib.hid ((K5.out.go hb8).grown hg9 (fun e => HLVG.out.typed.box (K5.out.go hb8) (by decide) e.symm))
            replace HN4 := Lib.hid ((HN4.out.go hb8).softW hsw9)
            have HO9 := Lib.hid ho9
            clear ho9 hg9 hs9 hsw9 hnw9 hb8 HLVG HP8 HQ8 hsz8
            obtain ⟨l9, d9, e9⟩ := HO9.out.shape
            rw [List.length_append, List.length_singleton] at e9
            subst e9
            have HM9 := Lib.hid (HMORE.out (fitR k p, fitR n q))
            have HC9 := Lib.hid (fun (v : Value) (w : World) (h : IsRL w v (X ++ [(fitR k p, fitR n q)])) => count_yes k n v (X ++ [(fitR k p, fitR n q)]) w h (by have := HXLN.out; rw [List.length_append, List.length_singleton]; omega) HNO.out (dims_snoc HD.out (fit_dim k n HPL.out HQL9.out)) HKN.out)
            obtain ⟨M, hM⟩ : ∃ M, M = countN k n (X ++ [(fitR k p, fitR n q)]) := ⟨_, rfl⟩
            rw [← hM] at HM9 HC9
            clear hM
            go_wp2_with fail
            refine (HC9.out _ _ HO9.out.list).mono ?_
            rintro e w10 ⟨u10, rfl, hu10, hb⟩
            replace K5 := Lib.hid (K5.out.go hb)
            replace HN4 := Lib.hid (HN4.out.go hb)
            replace B := B.trans (hb.mono B.size)
            have hzw10 := B.size
            clear hb
            have HN10 := Lib.hid hu10
            obtain ⟨ta, tc, rfl, _⟩ := hu10.shape
            obtain ⟨mm, hmm⟩ : ∃ ml, ml = (Wt.dg M).length := ⟨_, rfl⟩
            rw [← hmm] at HN10
            simp only [← hmm]
            clear hu10 hmm HC9
            go_upto_region 30 with fail
            obtain ⟨g10, hg10⟩ : ∃ g : Nat, g = w10.heap.size := ⟨_, rfl⟩
            obtain ⟨hb, hk, hs⟩ := blocks1 w10 #[.slice ta mm tc] 36
            generalize w10.alloc (.cells #[.slice ta mm tc] 36) = W11 at *
            have K11 := Lib.hid hk
            replace K5 := Lib.hid (K5.out.go hb)
            replace HN4 := Lib.hid (HN4.out.go hb)
            replace HN10 := Lib.hid (HN10.out.go hb)
            replace B := B.trans (hb.mono B.size)
            have hzW11 := B.size
            clear hb hk hs
            rw [← hg10] at K11
            simp only [← hg10]
            clear hg10
            have c11 : W11.cell? ⟨g10, 0, none⟩ = some (.slice ta mm tc) := K11.out.cell 0
            have c5 : W11.cell? ⟨g5, 0, none⟩ = some (.slice sa ml sc) := K5.out.cell 0
            go_wp2_with fail
            refine (natcmp_any _ _ M N _ HN10.out HN4.out).mono ?_
            rintro e w12 ⟨rfl, hb⟩
            replace B := B.trans (hb.mono B.size)
            have hzw12 := B.size
            clear hb
            have hle : Nt.cmp M N ≤ 0 := by
              have := HM9.out
              unfold Nt.cmp
              by_cases h : M < N
              · rw [if_pos h]; decide
              · rw [if_neg h, if_pos (by omega)]; decide
            obtain ⟨cc, hcc⟩ : ∃ c, c = Nt.cmp M N := ⟨_, rfl⟩
            rw [← hcc] at hle ⊢
            clear hcc c11 c5
            have HBF := Lib.hid (HB0.out.trans (B.mono HB0.out.size))
            go_wp2_with fail
            go_ret
            exact ⟨rfl, HBF.out⟩

theorem solveCounts_walk (v0 : Value) (S : List (List Nat)) (v1 : Value) (V : List (List Nat)) (x : Nat) (u : Value) (p q : List Nat) (w : World) (h0 : IsRows w v0 S) (h1 : IsRows w v1 V) (hx : x < 256) (hu : IsRow w u p q) :
    Calls Try.prog 4 #[v0, v1, U8 x, u] w fun e w' => e = .returned (.bool true) ∧ Below w.heap.size w w' := by
  by_cases a : 1 ≤ S.length
  · by_cases b : S.length ≤ 20
    · by_cases c : V.length ≤ 20
      · exact solveCounts_some v0 v1 u S V x p q w hx h0 h1 hu a b c
      · exact solveCounts_out v0 v1 u S V x p q w h0 h1 hu (.inr (.inr ⟨a, b, by omega⟩))
    · exact solveCounts_out v0 v1 u S V x p q w h0 h1 hu (.inr (.inl ⟨a, by omega⟩))
  · exact solveCounts_out v0 v1 u S V x p q w h0 h1 hu (.inl (by omega))

end Go.Proofs.Ytphdadibfeencaa
