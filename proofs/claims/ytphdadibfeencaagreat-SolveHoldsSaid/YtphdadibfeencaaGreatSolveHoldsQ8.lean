/- Texts of one seat, laid together: RefGridB, RefGridC, RowsM, RefGridD, LibBytes. -/
import Derived.Test.YtphdadibfeencaaGreatSolveHoldsQ7
import Derived.Test.YtphdadibfeencaaGreatSolveHoldsQ5
import Derived.Test.YtphdadibfeencaaGreatSolveHoldsQ2
import Derived.Test.YtphdadibfeencaaGreatSolveHoldsQ3
import Derived.Test.YtphdadibfeencaaGreatSolveHoldsQ4
import Derived.Laws.BytesArg
import Derived.Lib.SliceRun

/-
  The document's answer for grids (wellspringref07), in the program: 'Insert'.
-/
set_option maxRecDepth 100000
namespace Go.Proofs.YtphdadibfeencaaGreat
open Go.RowKit

theorem reflead_lt (v : Value) (l : List Nat) (w : World) (hB : Bytes w v l) (h : lead l < l.length) :
    Calls Tryz.prog 46 #[v] w fun e w' => e = .returned (.int .i64 (lead l : Int)) ∧ w = w' := by
  have h1 := reflead_any v l w hB
  rwa [show leadI l = (lead l : Int) from if_pos h] at h1

/-- What Insert answers: the list itself, where nothing is left; else a new one. -/
def InsV (w : World) (v : Value) (L : List Rw) (x : Rw) (e : Ending) (w' : World) : Prop := ∃ v', e = .returned v' ∧ Below w.heap.size w w' ∧ ((v' = v ∧ Ro.insert L x = L) ∨ (OwnL w' w.heap.size 50 v' (Ro.insert L x) ∧ Ro.insert L x ≠ []))


set_option maxHeartbeats 1000000 in
theorem refinsert7_some (b off cap : Nat) (L : List Rw) (a0 a1 : Option Addr) (c0 c1 k t : Nat) (x : Rw) (w : World) (hL : IsRL w (.slice (some ⟨b, off, none⟩) L.length cap) L) (hx0 : Bytes w (.slice a0 x.1.length c0) x.1) (hx1 : Bytes w (.slice a1 x.2.length c1) x.2) (hD : Ro.Dims k t L) (hE : Ro.Leads L) (hd : Ro.Dim k t x)
    (hk : k ≤ 10000000) (ht : t ≤ 10000000) (hne : L ≠ []) (hlen : L.length ≤ 1000000000) :
    Calls Tryz.prog 25 #[.slice (some ⟨b, off, none⟩) L.length cap, .agg #[.slice a0 x.1.length c0, .slice a1 x.2.length c1]] w (InsV w (.slice (some ⟨b, off, none⟩) L.length cap) L x) := by
  have hcap : L.length ≤ 9223372036854775807 := by omega
  obtain ⟨hcl, hcm⟩ : L.length ≤ cap ∧ cap ≤ 9223372036854775807 := by
    obtain ⟨_, _, e, h1, h2, _⟩ := hL
    simp only [Value.slice.injEq] at e
    rw [e.2.2]; exact ⟨h1, h2⟩
  have HBW := Lib.hid (hL.block_lt rfl hne)
  have HNE := Lib.hid hne
  have HL := Lib.hid hL
  have HP := Lib.hid hx0
  have HQ := Lib.hid hx1
  have HD := Lib.hid hD
  have HE := Lib.hid hE
  have HX := Lib.hid hd
  obtain ⟨y, hy⟩ : ∃ y, y = Ro.norm (Ro.rest L x) := ⟨_, rfl⟩
  have HY := Lib.hid hy
  have HYD := Lib.hid (show Ro.Dim k t y by rw [hy]; exact Ro.norm_dim (Ro.rest_dim hD hd))
  have HRD := Lib.hid (Ro.rest_dim hD hd)
  clear hL hx0 hx1 hD hE hd hne hy
  go_enter Tryz.func25, Tryz.ntmps25
  go_wp2_with fail
  obtain ⟨B, hk1, hs⟩ := blocks1 w #[.slice a0 x.1.length c0, .slice a1 x.2.length c1] 50
  generalize (w.alloc (.cells #[.slice a0 x.1.length c0, .slice a1 x.2.length c1] 50)) = W at *
  have K1 := Lib.hid hk1
  have HS := Lib.hid hs
  clear hs hk1
  replace HP := Lib.hid (HP.out.go B)
  replace HQ := Lib.hid (HQ.out.go B)
  replace HL := Lib.hid (HL.out.go B)
  have hzW := B.size
  obtain ⟨k10, k11⟩ := K1.out.two
  have k1l := K1.out.lt
  go_wp2_with fail
  refine (refrest7_any _ _ L k t x _ HL.out ⟨_, _, rfl, HP.out, HQ.out⟩ HD.out HE.out HX.out hk ht).mono ?_
  rintro e w1 ⟨u1, rfl, hu1, hb⟩
  replace HL := Lib.hid (HL.out.go hb)
  replace K1 := Lib.hid (K1.out.go hb)
  replace B := B.trans (hb.mono B.size)
  have hzw1 := B.size
  clear hb
  have HU := Lib.hid hu1
  clear hu1
  go_wp2_with fail
  refine (refnorm_any _ _ _ _ HU.out (by rw [HRD.out.1]; exact hk) (by rw [HRD.out.2.1]; exact ht)).mono ?_
  rintro e w2 ⟨u2, rfl, hu2, hb⟩
  replace HL := Lib.hid (HL.out.go hb)
  replace K1 := Lib.hid (K1.out.go hb)
  replace B := B.trans (hb.mono B.size)
  have hzw2 := B.size
  clear hb
  replace hu2 : IsRow w2 u2 y.1 y.2 := by rw [HY.out]; exact hu2
  obtain ⟨ya, yc, za, zc, rfl⟩ := hu2.shape
  have HU2 := Lib.hid hu2
  clear hu2
  obtain ⟨k10, k11⟩ := K1.out.two
  have k1l := K1.out.lt
  obtain ⟨k1f0, k1f1⟩ := K1.out.fre2
  go_wp2_with fail
  obtain ⟨g4, s4, h4⟩ := store_row (x' := .slice ya y.1.length yc) (y' := .slice za y.2.length zc) K1.out (noU8_two _ _ (slice_ne _ _ _) (slice_ne _ _ _)) HU2.out (fun _ _ _ _ e => by
    simp only [Value.agg.injEq, Array.mk.injEq, List.cons.injEq, and_true] at e
    exact ⟨_, _, rfl, rfl, e.1, e.2⟩)
  have HK := Lib.hid (K1.out.set2 (.slice ya y.1.length yc) (.slice za y.2.length zc))
  have HR := Lib.hid (HU2.out.soft s4)
  have HL4 := Lib.hid (HL.out.keep s4 fun b' e hne => g4.block b' (HL.out.block_lt e hne) (by
    simp only [Value.ownBlock, Option.some.injEq] at e
    have := HBW.out
    simp; omega))
  replace B := below_grown B g4 B.size (Nat.le_refl _)
  clear g4 s4 h4 HL K1 HU2 HU
  generalize hW4 : ((w2.setCell ⟨w.heap.size, 0, none⟩ (.slice ya y.1.length yc)).setCell ⟨w.heap.size, 1, none⟩ (.slice za y.2.length zc)) = W4 at *
  clear hW4
  obtain ⟨_, _, er, hyb, hzb⟩ := HR.out
  simp only [Value.agg.injEq, Array.mk.injEq, List.cons.injEq, and_true] at er
  obtain ⟨rfl, rfl⟩ := er
  have HYB := Lib.hid hyb
  have HZB := Lib.hid hzb
  clear hyb hzb
  obtain ⟨hk0, hk1⟩ := HK.out.two
  have hkl := HK.out.lt
  go_wp2_with fail
  refine (reflead_any _ _ _ HYB.out).mono ?_
  rintro e w' ⟨rfl, rfl⟩
  by_cases hl : lead y.1 < y.1.length
  · have HLI := Lib.hid (show leadI y.1 = (lead y.1 : Int) from if_pos hl)
    have HLY := Lib.hid hl
    have l0 : (0 : Int) ≤ (lead y.1 : Int) := Int.natCast_nonneg _
    rw [HLI.out]
    clear hl
    go_wp2_with fail
    have hz4 := B.size
    obtain ⟨w0, hw0⟩ : ∃ w0 : World, w0 = W4 := ⟨_, rfl⟩
    subst hw0
    go_loopw [5] (fun i wr => ∃ j : Nat, j ≤ L.length ∧ i = .int .i64 j ∧ (∀ i, i < j → lead (rwAt L i).1 < lead y.1) ∧ Below w0.heap.size w0 wr) (fun i _ => L.length - (intOf i).toNat)
    case atStart => exact ⟨0, by omega, rfl, fun i hi => by omega, Below.refl _ _⟩
    case round =>
      obtain ⟨j, hj, rfl, hno, hb⟩ := hrel
      have HN := Lib.hid hno
      have HLr := Lib.hid (HL4.out.go hb)
      have HKr := Lib.hid (HK.out.go hb)
      have HYr := Lib.hid (HYB.out.go hb)
      have HZr := Lib.hid (HZB.out.go hb)
      have HBB := Lib.hid hb
      replace B := B.trans (hb.mono hz4)
      clear hb hno hk0 hk1 hkl
      obtain ⟨hkr0, hkr1⟩ := HKr.out.two
      have hkrl := HKr.out.lt
      have j0 : (0 : Int) ≤ (j : Int) := Int.natCast_nonneg _
      have jc : (j : Int) ≤ (cap : Int) := by omega
      have jl : (j : Int) ≤ (L.length : Int) := by omega
      have lc : (L.length : Int) ≤ (cap : Int) := by omega
      by_cases hgo : j < L.length ∧ lead (rwAt L j).1 < lead y.1
      · obtain ⟨hlt, hll⟩ := hgo
        obtain ⟨p0, q0, z0, z1, hb1, hb2⟩ := HLr.out.cells j hlt
        have HB1 := Lib.hid hb1
        obtain ⟨pa, pc, rfl, _⟩ := hb1
        obtain ⟨qa, qc, rfl, _⟩ := hb2
        have HLD := Lib.hid (HE.out.at hlt)
        have j1 : decide ((j : Int) < (L.length : Int)) = true := by simpa using hlt
        have j2 : decide ((lead (rwAt L j).1 : Int) < (lead y.1 : Int)) = true := by simpa using hll
        have HLL := Lib.hid hll
        have jj1 : (j : Int) < (L.length : Int) := by omega
        clear hll
        go_wp2_with fail
        go_quiet ((go_at_call 46; first | exact quiet_eq (reflead_lt _ (rwAt L j).1 _ (HB1.out.drewN _) HLD.out) | exact quiet_eq (reflead_lt _ y.1 _ (HYr.out.drewN _) HLY.out)))
        go_wp2_with fail
        go_roundw
        case rel => exact ⟨j + 1, by omega, by go_num, fun i hi => by
          by_cases h : i = j
          · rw [h]; exact HLL.out
          · exact HN.out i (by omega), below_drewN HBB.out _⟩
        case measure => simp [intOf]; omega
      · have HA := Lib.hid (show Ro.ahead L y = j from Ro.ahead_eq hj HN.out (by
          by_cases h : j < L.length
          · exact .inr fun h' => hgo ⟨h, h'⟩
          · exact .inl (by omega)))
        have HIN := Lib.hid (show Ro.insert L x = L.take j ++ y :: L.drop j by
          unfold Ro.insert
          rw [← HY.out, if_pos HLY.out]
          unfold Ro.put
          rw [HA.out])
        rcases (show (j < L.length ∧ decide ((lead (rwAt L j).1 : Int) < (lead y.1 : Int)) = false) ∨ decide ((j : Int) < (L.length : Int)) = false from by
          by_cases h : j < L.length
          · left; exact ⟨h, by simp only [decide_eq_false_iff_not]; intro h'; exact hgo ⟨h, by omega⟩⟩
          · right; simp; omega) with ⟨gb, go2⟩ | go2
        · clear hgo
          obtain ⟨p0, q0, z0, z1, hb1, hb2⟩ := HLr.out.cells j gb
          have HB1 := Lib.hid hb1
          obtain ⟨pa, pc, rfl, _⟩ := hb1
          obtain ⟨qa, qc, rfl, _⟩ := hb2
          have HLD := Lib.hid (HE.out.at gb)
          have j1 : decide ((j : Int) < (L.length : Int)) = true := by simpa using gb
          have jj1 : (j : Int) < (L.length : Int) := by omega
          have j3 : ¬ lead (rwAt L j).1 < lead y.1 := by
            simp only [decide_eq_false_iff_not] at go2; omega
          go_wp2_with fail
          go_quiet ((go_at_call 46; first | exact quiet_eq (reflead_lt _ (rwAt L j).1 _ (HB1.out.drewN _) HLD.out) | exact quiet_eq (reflead_lt _ y.1 _ (HYr.out.drewN _) HLY.out)))
          go_wp2_with (at_builtin; refine wpList_append_rows rfl (.tmp 34) (.tmp 37) rfl wr.heap.size _ _ [] (L.take j) rfl rfl (OwnL.nil _ _ _) ((HLr.out.go (below_drews wr _)).take hj) ?c1 ?c2 ?_)
          case c1 => exact (below_drews wr _).size
          case c2 => simp; omega
          intro v5 w5 ho5 hg5 hs5
          have HO5 := Lib.hid (show OwnL w5 wr.heap.size 50 v5 (L.take j) by simpa using ho5)
          have HB5 := Lib.hid (show Below wr.heap.size wr w5 from (below_drews wr _).grown hg5 (below_drews wr _).size (fun k e => by cases e))
          clear ho5 hg5 hs5
          have hkr0 : w5.cell? ⟨w.heap.size, 0, none⟩ = some (.slice ya y.1.length yc) := (HKr.out.go HB5.out).cell 0
          have hkr1 : w5.cell? ⟨w.heap.size, 1, none⟩ = some (.slice za y.2.length zc) := (HKr.out.go HB5.out).cell 1
          have hkrl : w.heap.size < w5.heap.size := (HKr.out.go HB5.out).lt
          go_wp2_with (at_builtin; refine wpList_append_rows rfl (.tmp 39) (.tmp 41) rfl wr.heap.size _ _ (L.take j) [y] rfl rfl (HO5.out.go ((Below.refl _ _).alloc (Nat.le_refl _) _)) (IsRL.one w5.heap.size rfl (HYr.out.go HB5.out) (HZr.out.go HB5.out)) ?c3 ?c4 ?_)
          case c3 => have := HB5.out.size; simp; omega
          case c4 => simp; omega
          intro v6 w6 ho6 hg6 hs6
          have HO6 := Lib.hid (show OwnL w6 wr.heap.size 50 v6 (L.take j ++ [y]) by simpa using ho6)
          have HB6 := Lib.hid (show Below wr.heap.size wr w6 from (HB5.out.alloc HB5.out.size _).grown hg6 (by have := HB5.out.size; simp; omega) HO5.out.from)
          clear ho6 hg6 hs6
          go_wp2_with (at_builtin; refine wpList_append_rows rfl (.tmp 43) (.tmp 46) rfl wr.heap.size _ _ (L.take j ++ [y]) (L.drop j) rfl rfl HO6.out ((HLr.out.go HB6.out).drop hj _ (by intro h; first | rfl | (exact absurd h (by omega))) (cap - j) (by omega) (by omega)) ?c5 ?c6 ?_)
          case c5 => have := HB6.out.size; omega
          case c6 => simp; omega
          intro v7 w7 ho7 hg7 hs7
          have HO7 := Lib.hid ho7
          have HB7 := Lib.hid (show Below wr.heap.size wr w7 from HB6.out.grown hg7 HB6.out.size HO6.out.from)
          clear ho7 hg7 hs7
          have hzr := B.size
          go_wp2_with fail
          go_ret
          exact ⟨_, rfl, B.trans (HB7.out.mono hzr), .inr (by rw [HIN.out]; have h := HO7.out.mono hzr; exact ⟨by simpa using h, by simp⟩)⟩
        · clear hgo
          obtain rfl : j = L.length := by simp only [decide_eq_false_iff_not] at go2; omega
          clear go2
          by_cases hcq : cap = L.length
          · subst hcq
            clear jc lc jl
            go_wp2_with fail
            go_quiet (fail)
            go_wp2_with (at_builtin; refine wpList_append_rows rfl (.tmp 34) (.tmp 37) rfl wr.heap.size _ _ [] (L.take L.length) rfl rfl (OwnL.nil _ _ _) ((HLr.out.go (below_drews wr _)).take hj) ?c1 ?c2 ?_)
            case c1 => exact (below_drews wr _).size
            case c2 => simp; omega
            intro v5 w5 ho5 hg5 hs5
            have HO5 := Lib.hid (show OwnL w5 wr.heap.size 50 v5 (L.take L.length) by simpa using ho5)
            have HB5 := Lib.hid (show Below wr.heap.size wr w5 from (below_drews wr _).grown hg5 (below_drews wr _).size (fun k e => by cases e))
            clear ho5 hg5 hs5
            have hkr0 : w5.cell? ⟨w.heap.size, 0, none⟩ = some (.slice ya y.1.length yc) := (HKr.out.go HB5.out).cell 0
            have hkr1 : w5.cell? ⟨w.heap.size, 1, none⟩ = some (.slice za y.2.length zc) := (HKr.out.go HB5.out).cell 1
            have hkrl : w.heap.size < w5.heap.size := (HKr.out.go HB5.out).lt
            go_wp2_with (at_builtin; refine wpList_append_rows rfl (.tmp 39) (.tmp 41) rfl wr.heap.size _ _ (L.take L.length) [y] rfl rfl (HO5.out.go ((Below.refl _ _).alloc (Nat.le_refl _) _)) (IsRL.one w5.heap.size rfl (HYr.out.go HB5.out) (HZr.out.go HB5.out)) ?c3 ?c4 ?_)
            case c3 => have := HB5.out.size; simp; omega
            case c4 => simp; omega
            intro v6 w6 ho6 hg6 hs6
            have HO6 := Lib.hid (show OwnL w6 wr.heap.size 50 v6 (L.take L.length ++ [y]) by simpa using ho6)
            have HB6 := Lib.hid (show Below wr.heap.size wr w6 from (HB5.out.alloc HB5.out.size _).grown hg6 (by have := HB5.out.size; simp; omega) HO5.out.from)
            clear ho6 hg6 hs6
            go_wp2_with (at_builtin; refine wpList_append_rows rfl (.tmp 43) (.tmp 46) rfl wr.heap.size _ _ (L.take L.length ++ [y]) [] rfl rfl HO6.out (isRL_none _ _ _ (by omega)) ?c5 ?c6 ?_)
            case c5 => have := HB6.out.size; omega
            case c6 => simp; omega
            intro v7 w7 ho7 hg7 hs7
            have HO7 := Lib.hid ho7
            have HB7 := Lib.hid (show Below wr.heap.size wr w7 from HB6.out.grown hg7 HB6.out.size HO6.out.from)
            clear ho7 hg7 hs7
            have hzr := B.size
            go_wp2_with fail
            go_ret
            exact ⟨_, rfl, B.trans (HB7.out.mono hzr), .inr (by rw [HIN.out]; have h := HO7.out.mono hzr; exact ⟨by simpa using h, by simp⟩)⟩
          · have hcq2 : ¬ L.length = cap := fun h => hcq h.symm
            go_wp2_with fail
            go_quiet (fail)
            go_wp2_with (at_builtin; refine wpList_append_rows rfl (.tmp 34) (.tmp 37) rfl wr.heap.size _ _ [] (L.take L.length) rfl rfl (OwnL.nil _ _ _) ((HLr.out.go (below_drews wr _)).take hj) ?c1 ?c2 ?_)
            case c1 => exact (below_drews wr _).size
            case c2 => simp; omega
            intro v5 w5 ho5 hg5 hs5
            have HO5 := Lib.hid (show OwnL w5 wr.heap.size 50 v5 (L.take L.length) by simpa using ho5)
            have HB5 := Lib.hid (show Below wr.heap.size wr w5 from (below_drews wr _).grown hg5 (below_drews wr _).size (fun k e => by cases e))
            clear ho5 hg5 hs5
            have hkr0 : w5.cell? ⟨w.heap.size, 0, none⟩ = some (.slice ya y.1.length yc) := (HKr.out.go HB5.out).cell 0
            have hkr1 : w5.cell? ⟨w.heap.size, 1, none⟩ = some (.slice za y.2.length zc) := (HKr.out.go HB5.out).cell 1
            have hkrl : w.heap.size < w5.heap.size := (HKr.out.go HB5.out).lt
            go_wp2_with (at_builtin; refine wpList_append_rows rfl (.tmp 39) (.tmp 41) rfl wr.heap.size _ _ (L.take L.length) [y] rfl rfl (HO5.out.go ((Below.refl _ _).alloc (Nat.le_refl _) _)) (IsRL.one w5.heap.size rfl (HYr.out.go HB5.out) (HZr.out.go HB5.out)) ?c3 ?c4 ?_)
            case c3 => have := HB5.out.size; simp; omega
            case c4 => simp; omega
            intro v6 w6 ho6 hg6 hs6
            have HO6 := Lib.hid (show OwnL w6 wr.heap.size 50 v6 (L.take L.length ++ [y]) by simpa using ho6)
            have HB6 := Lib.hid (show Below wr.heap.size wr w6 from (HB5.out.alloc HB5.out.size _).grown hg6 (by have := HB5.out.size; simp; omega) HO5.out.from)
            clear ho6 hg6 hs6
            go_wp2_with (at_builtin; refine wpList_append_rows rfl (.tmp 43) (.tmp 46) rfl wr.heap.size _ _ (L.take L.length ++ [y]) [] rfl rfl HO6.out (isRL_none _ _ _ (by omega)) ?c5 ?c6 ?_)
            case c5 => have := HB6.out.size; omega
            case c6 => simp; omega
            intro v7 w7 ho7 hg7 hs7
            have HO7 := Lib.hid ho7
            have HB7 := Lib.hid (show Below wr.heap.size wr w7 from HB6.out.grown hg7 HB6.out.size HO6.out.from)
            clear ho7 hg7 hs7
            have hzr := B.size
            go_wp2_with fail
            go_ret
            exact ⟨_, rfl, B.trans (HB7.out.mono hzr), .inr (by rw [HIN.out]; have h := HO7.out.mono hzr; exact ⟨by simpa using h, by simp⟩)⟩
  · have HLI := Lib.hid (show leadI y.1 = -1 from if_neg hl)
    rw [HLI.out]
    go_wp2_with fail
    go_ret
    refine ⟨_, rfl, B, .inl ⟨rfl, ?_⟩⟩
    unfold Ro.insert
    rw [← HY.out, if_neg hl]

set_option maxHeartbeats 1000000 in
theorem refinsert7_empty (a0 a1 : Option Addr) (c0 c1 k t : Nat) (x : Rw) (w : World) (hx0 : Bytes w (.slice a0 x.1.length c0) x.1) (hx1 : Bytes w (.slice a1 x.2.length c1) x.2) (hd : Ro.Dim k t x) (hk : k ≤ 10000000) (ht : t ≤ 10000000) :
    Calls Tryz.prog 25 #[.slice none 0 0, .agg #[.slice a0 x.1.length c0, .slice a1 x.2.length c1]] w (InsV w (.slice none 0 0) [] x) := by
  have HP := Lib.hid hx0
  have HQ := Lib.hid hx1
  have HX := Lib.hid hd
  obtain ⟨y, hy⟩ : ∃ y, y = Ro.norm (Ro.rest [] x) := ⟨_, rfl⟩
  have HY := Lib.hid hy
  have HYD := Lib.hid (show Ro.Dim k t y by rw [hy]; exact Ro.norm_dim hd)
  clear hx0 hx1 hd hy
  go_enter Tryz.func25, Tryz.ntmps25
  go_wp2_with fail
  obtain ⟨B, hk1, hs⟩ := blocks1 w #[.slice a0 x.1.length c0, .slice a1 x.2.length c1] 50
  generalize (w.alloc (.cells #[.slice a0 x.1.length c0, .slice a1 x.2.length c1] 50)) = W at *
  have K1 := Lib.hid hk1
  have HS := Lib.hid hs
  clear hs hk1
  replace HP := Lib.hid (HP.out.go B)
  replace HQ := Lib.hid (HQ.out.go B)
  have hzW := B.size
  obtain ⟨k10, k11⟩ := K1.out.two
  have k1l := K1.out.lt
  go_wp2_with fail
  refine (refrest7_any _ _ [] k t x _ (IsRL.nil _) ⟨_, _, rfl, HP.out, HQ.out⟩ (fun r h => by cases h) (fun r h => by cases h) HX.out hk ht).mono ?_
  rintro e w1 ⟨u1, rfl, hu1, hb⟩
  replace K1 := Lib.hid (K1.out.go hb)
  replace B := B.trans (hb.mono B.size)
  have hzw1 := B.size
  clear hb
  have HU := Lib.hid hu1
  clear hu1
  go_wp2_with fail
  refine (refnorm_any _ _ _ _ HU.out (by show x.1.length ≤ _; rw [HX.out.1]; exact hk) (by show x.2.length ≤ _; rw [HX.out.2.1]; exact ht)).mono ?_
  rintro e w2 ⟨u2, rfl, hu2, hb⟩
  replace K1 := Lib.hid (K1.out.go hb)
  replace B := B.trans (hb.mono B.size)
  have hzw2 := B.size
  clear hb
  replace hu2 : IsRow w2 u2 y.1 y.2 := by rw [HY.out]; exact hu2
  obtain ⟨ya, yc, za, zc, rfl⟩ := hu2.shape
  have HU2 := Lib.hid hu2
  clear hu2
  obtain ⟨k10, k11⟩ := K1.out.two
  have k1l := K1.out.lt
  obtain ⟨k1f0, k1f1⟩ := K1.out.fre2
  go_wp2_with fail
  obtain ⟨g4, s4, h4⟩ := store_row (x' := .slice ya y.1.length yc) (y' := .slice za y.2.length zc) K1.out (noU8_two _ _ (slice_ne _ _ _) (slice_ne _ _ _)) HU2.out (fun _ _ _ _ e => by
    simp only [Value.agg.injEq, Array.mk.injEq, List.cons.injEq, and_true] at e
    exact ⟨_, _, rfl, rfl, e.1, e.2⟩)
  have HK := Lib.hid (K1.out.set2 (.slice ya y.1.length yc) (.slice za y.2.length zc))
  have HR := Lib.hid (HU2.out.soft s4)
  replace B := below_grown B g4 B.size (Nat.le_refl _)
  clear g4 s4 h4 K1 HU2 HU
  generalize hW4 : ((w2.setCell ⟨w.heap.size, 0, none⟩ (.slice ya y.1.length yc)).setCell ⟨w.heap.size, 1, none⟩ (.slice za y.2.length zc)) = W4 at *
  clear hW4
  obtain ⟨_, _, er, hyb, hzb⟩ := HR.out
  simp only [Value.agg.injEq, Array.mk.injEq, List.cons.injEq, and_true] at er
  obtain ⟨rfl, rfl⟩ := er
  have HYB := Lib.hid hyb
  have HZB := Lib.hid hzb
  clear hyb hzb
  obtain ⟨hk0, hk1⟩ := HK.out.two
  have hkl := HK.out.lt
  go_wp2_with fail
  refine (reflead_any _ _ _ HYB.out).mono ?_
  rintro e w' ⟨rfl, rfl⟩
  by_cases hl : lead y.1 < y.1.length
  · have HLI := Lib.hid (show leadI y.1 = (lead y.1 : Int) from if_pos hl)
    have HIN := Lib.hid (show Ro.insert [] x = [y] by
      unfold Ro.insert
      rw [← HY.out, if_pos hl]
      rfl)
    have l0 : (0 : Int) ≤ (lead y.1 : Int) := Int.natCast_nonneg _
    rw [HLI.out]
    clear hl
    go_wp2_with fail
    have hz4 := B.size
    refine wp_loop_rounds 1 ?_
    rw [rounds_succ]
    go_wp2_with fail
    go_quiet (fail)
    go_wp2_with (at_builtin; refine wpList_append_rows rfl (.tmp 34) (.tmp 37) rfl W4.heap.size _ _ [] [] rfl rfl (OwnL.nil _ _ _) (isRL_none _ _ _ (by omega)) ?c1 ?c2 ?_)
    case c1 => exact (below_drews W4 _).size
    case c2 => simp
    intro v5 w5 ho5 hg5 hs5
    have HO5 := Lib.hid (show OwnL w5 W4.heap.size 50 v5 [] by simpa using ho5)
    have HB5 := Lib.hid (show Below W4.heap.size W4 w5 from (below_drews W4 _).grown hg5 (below_drews W4 _).size (fun k e => by cases e))
    clear ho5 hg5 hs5
    have hkr0 : w5.cell? ⟨w.heap.size, 0, none⟩ = some (.slice ya y.1.length yc) := (HK.out.go HB5.out).cell 0
    have hkr1 : w5.cell? ⟨w.heap.size, 1, none⟩ = some (.slice za y.2.length zc) := (HK.out.go HB5.out).cell 1
    have hkrl : w.heap.size < w5.heap.size := (HK.out.go HB5.out).lt
    go_wp2_with (at_builtin; refine wpList_append_rows rfl (.tmp 39) (.tmp 41) rfl W4.heap.size _ _ [] [y] rfl rfl (HO5.out.go ((Below.refl _ _).alloc (Nat.le_refl _) _)) (IsRL.one w5.heap.size rfl (HYB.out.go HB5.out) (HZB.out.go HB5.out)) ?c3 ?c4 ?_)
    case c3 => have := HB5.out.size; simp; omega
    case c4 => simp
    intro v6 w6 ho6 hg6 hs6
    have HO6 := Lib.hid (show OwnL w6 W4.heap.size 50 v6 [y] by simpa using ho6)
    have HB6 := Lib.hid (show Below W4.heap.size W4 w6 from (HB5.out.alloc HB5.out.size _).grown hg6 (by have := HB5.out.size; simp; omega) HO5.out.from)
    clear ho6 hg6 hs6
    go_wp2_with (at_builtin; refine wpList_append_rows rfl (.tmp 43) (.tmp 46) rfl W4.heap.size _ _ [y] [] rfl rfl HO6.out (isRL_none _ _ _ (by omega)) ?c5 ?c6 ?_)
    case c5 => have := HB6.out.size; omega
    case c6 => simp
    intro v7 w7 ho7 hg7 hs7
    have HO7 := Lib.hid ho7
    have HB7 := Lib.hid (show Below W4.heap.size W4 w7 from HB6.out.grown hg7 HB6.out.size HO6.out.from)
    clear ho7 hg7 hs7
    go_wp2_with fail
    go_ret
    exact ⟨_, rfl, B.trans (HB7.out.mono hz4), .inr (by rw [HIN.out]; have h := HO7.out.mono hz4; exact ⟨by simpa using h, by simp⟩)⟩
  · have HLI := Lib.hid (show leadI y.1 = -1 from if_neg hl)
    rw [HLI.out]
    go_wp2_with fail
    go_ret
    refine ⟨_, rfl, B, .inl ⟨rfl, ?_⟩⟩
    unfold Ro.insert
    rw [← HY.out, if_neg hl]

theorem refinsert7_any (v u : Value) (L : List Rw) (k t : Nat) (x : Rw) (w : World) (hL : IsRL w v L) (hnil : L = [] → v = .slice none 0 0) (hx : IsRow w u x.1 x.2) (hD : Ro.Dims k t L) (hE : Ro.Leads L) (hd : Ro.Dim k t x) (hk : k ≤ 10000000) (ht : t ≤ 10000000) (hlen : L.length ≤ 1000000000) :
    Calls Tryz.prog 25 #[v, u] w (InsV w v L x) := by
  obtain ⟨v0, d0, rfl, h0, h1⟩ := hx
  have g0 := h0
  have g1 := h1
  obtain ⟨a0, c0, rfl, _⟩ := h0
  obtain ⟨a1, c1, rfl, _⟩ := h1
  by_cases hne : L = []
  · subst hne
    rw [hnil rfl]
    exact refinsert7_empty a0 a1 c0 c1 k t x w g0 g1 hd hk ht
  · obtain ⟨b, off, c, rfl, _⟩ := hL.addr (List.length_pos_iff.2 hne)
    exact refinsert7_some b off c L a0 a1 c0 c1 k t x w hL g0 g1 hD hE hd hk ht hne hlen

/-- A list that the caller owns, and nil, if it has none. -/
def OwnL0 (w : World) (B : Nat) (v : Value) (L : List Rw) : Prop := OwnL w B 50 v L ∧ (L = [] → v = .slice none 0 0)
theorem OwnL0.go {w w' : World} {B : Nat} {v : Value} {L : List Rw} (h : OwnL0 w B v L) (hb : Below w.heap.size w w') : OwnL0 w' B v L := ⟨h.1.go hb, h.2⟩
theorem OwnL0.nil (w : World) (B : Nat) : OwnL0 w B (.slice none 0 0) [] := ⟨OwnL.nil _ _ _, fun _ => rfl⟩

theorem refinsert7_own (v u : Value) (L : List Rw) (B k t : Nat) (x : Rw) (w : World) (hL : OwnL0 w B v L) (hB : B ≤ w.heap.size) (hx : IsRow w u x.1 x.2) (hD : Ro.Dims k t L) (hE : Ro.Leads L) (hd : Ro.Dim k t x) (hk : k ≤ 10000000) (ht : t ≤ 10000000) (hlen : L.length ≤ 1000000000) :
    Calls Tryz.prog 25 #[v, u] w fun e w' => ∃ v', e = .returned v' ∧ OwnL0 w' B v' (Ro.insert L x) ∧ Below w.heap.size w w' := by
  refine (refinsert7_any v u L k t x w hL.1.list hL.2 hx hD hE hd hk ht hlen).mono ?_
  rintro e w' ⟨v', rfl, hb, h⟩
  refine ⟨v', rfl, ?_, hb⟩
  rcases h with ⟨rfl, e⟩ | ⟨h, hne⟩
  · rw [e]; exact hL.go hb
  · exact ⟨h.mono hB, fun e => absurd e hne⟩

end Go.Proofs.YtphdadibfeencaaGreat

/-
  The document's answer for grids (wellspringref07), in the program: 'Rank', 'Turned', 'Mul', 'Of', 'Same'.
-/
set_option maxRecDepth 100000
namespace Go.Proofs.YtphdadibfeencaaGreat
open Go.RowKit

namespace Ro
/-- Rows without data. -/
def bare (ll : List (List Nat)) : List Rw := ll.map fun l => (l, [])
theorem put_mem {L : List Rw} {y r : Rw} (h : r ∈ put L y) : r ∈ L ∨ r = y := by
  unfold put at h
  rw [List.mem_append, List.mem_cons] at h
  rcases h with h | rfl | h
  · exact .inl (List.mem_of_mem_take h)
  · exact .inr rfl
  · exact .inl (List.mem_of_mem_drop h)
theorem insert_ok {k t : Nat} {L : List Rw} {x : Rw} (hD : Dims k t L) (hE : Leads L) (hx : Dim k t x) : Dims k t (insert L x) ∧ Leads (insert L x) := by
  have hy := norm_dim (rest_dim hD hx)
  unfold insert
  split
  · rename_i hl
    exact ⟨fun r hr => by
      rcases put_mem hr with h | rfl
      · exact hD r h
      · exact hy, fun r hr => by
      rcases put_mem hr with h | rfl
      · exact hE r h
      · exact hl⟩
  · exact ⟨hD, hE⟩
theorem put_length (L : List Rw) (y : Rw) : (put L y).length = L.length + 1 := by
  unfold put
  have := ahead_le L y
  simp; omega
theorem insert_length (L : List Rw) (x : Rw) : (insert L x).length ≤ L.length + 1 := by
  unfold insert; split
  · rw [put_length]; omega
  · omega
theorem all_take_succ (L : List Rw) (k : Nat) (h : k < L.length) : all (L.take (k + 1)) = insert (all (L.take k)) (rwAt L k) := by
  unfold all
  rw [take_rwAt L k h, List.foldl_append]; rfl
theorem all_ok {k t : Nat} {L : List Rw} (hD : Dims k t L) : ∀ n, n ≤ L.length → Dims k t (all (L.take n)) ∧ Leads (all (L.take n)) ∧ (all (L.take n)).length ≤ n
  | 0, _ => ⟨fun r h => (by cases h), fun r h => (by cases h), Nat.le_refl _⟩
  | n + 1, hn => by
    obtain ⟨h1, h2, h3⟩ := all_ok hD n (by omega)
    rw [all_take_succ L n (by omega)]
    obtain ⟨g1, g2⟩ := insert_ok h1 h2 (hD.at (show n < L.length by omega))
    exact ⟨g1, g2, Nat.le_trans (insert_length _ _) (by omega)⟩
theorem bare_length (ll : List (List Nat)) : (bare ll).length = ll.length := by simp [bare]
theorem bare_at (ll : List (List Nat)) (i : Nat) (h : i < ll.length) : rwAt (bare ll) i = (rowAt ll i, []) := by
  rw [rwAt_eq _ _ (by rw [bare_length]; exact h), rowAt_eq ll i h]; simp [bare]
end Ro

set_option maxHeartbeats 1000000 in
theorem refrank7_some (b off cap k : Nat) (ll : List (List Nat)) (w : World) (hR : IsRows w (.slice (some ⟨b, off, none⟩) ll.length cap) ll) (hD : Ro.Dims k 0 (Ro.bare ll)) (hk : k ≤ 10000000) (hlen : ll.length ≤ 1000000) :
    Calls Tryz.prog 10 #[.slice (some ⟨b, off, none⟩) ll.length cap] w fun e w' => e = .returned (.int .i64 ((Ro.all (Ro.bare ll)).length : Int)) ∧ Below w.heap.size w w' := by
  have hcap : ll.length ≤ 9223372036854775807 := by omega
  have HR := Lib.hid hR
  have HD := Lib.hid hD
  clear hR hD
  go_enter Tryz.func10, Tryz.ntmps10
  go_wp2_with fail
  go_loopw [3, 5, 8] (fun v _ i wr => ∃ n : Nat, n ≤ ll.length ∧ i = .int .i64 n ∧ OwnL0 wr w.heap.size v (Ro.all ((Ro.bare ll).take n)) ∧ Below w.heap.size w wr) (fun _ _ i _ => ll.length - (intOf i).toNat)
  case atStart => exact ⟨0, by omega, rfl, OwnL0.nil _ _, Below.refl _ _⟩
  case round =>
    obtain ⟨n, hn, rfl, hO, B⟩ := hrel
    have HO := Lib.hid hO
    obtain ⟨va, vc, rfl⟩ := hO.1.shape
    clear hO
    by_cases hlt : n < ll.length
    · obtain ⟨u, hu, hB1⟩ := HR.out.at B n hlt
      have HB1 := Lib.hid (hB1.go B)
      obtain ⟨ua, uc, rfl, _⟩ := hB1
      have hz := B.size
      have HAT := Lib.hid (Ro.bare_at ll n hlt)
      have hbl : n < (Ro.bare ll).length := by rw [Ro.bare_length]; exact hlt
      have HOK := Lib.hid (Ro.all_ok HD.out n (by omega))
      have HST := Lib.hid (Ro.all_take_succ (Ro.bare ll) n hbl)
      have HDN := Lib.hid (show Ro.Dim k 0 (rowAt ll n, []) by rw [← HAT.out]; exact HD.out.at hbl)
      rw [HAT.out] at HST
      go_wp2_with fail
      refine (refinsert7_own _ _ _ w.heap.size k 0 (rowAt ll n, []) _ HO.out hz ⟨_, _, rfl, HB1.out, Bytes.nil _⟩ HOK.out.1 HOK.out.2.1 HDN.out hk (by omega) (by have := HOK.out.2.2; omega)).mono ?_
      rintro e w2 ⟨v2, rfl, hO2, hb⟩
      replace B := B.trans (hb.mono B.size)
      have hzw2 := B.size
      clear hb
      rw [← HST.out] at hO2
      have HO2 := Lib.hid hO2
      clear hO2
      go_wp2_with fail
      go_roundw
      case rel => exact ⟨n + 1, by omega, by go_num, HO2.out, B⟩
      case measure => simp [intOf]; omega
    · obtain rfl : n = ll.length := by omega
      have HL := Lib.hid (show (Ro.bare ll).take ll.length = Ro.bare ll by rw [List.take_of_length_le (by rw [Ro.bare_length]; omega)])
      rw [HL.out] at HO
      go_wp2_with fail
      go_ret
      exact ⟨by rw [HL.out]; rfl, B⟩

set_option maxHeartbeats 400000 in
theorem refrank7_empty (a : Option Addr) (cap : Nat) (w : World) :
    Calls Tryz.prog 10 #[.slice a 0 cap] w fun e w' => e = .returned (.int .i64 0) ∧ Below w.heap.size w w' := by
  go_enter Tryz.func10, Tryz.ntmps10
  go_wp2_with fail
  refine wp_loop_rounds 1 ?_
  rw [rounds_succ]
  go_wp2_with fail
  go_ret
  exact ⟨rfl, Below.refl _ _⟩

theorem refrank7_any (v : Value) (k : Nat) (ll : List (List Nat)) (w : World) (hR : IsRows w v ll) (hD : Ro.Dims k 0 (Ro.bare ll)) (hk : k ≤ 10000000) (hlen : ll.length ≤ 1000000) :
    Calls Tryz.prog 10 #[v] w fun e w' => e = .returned (.int .i64 ((Ro.all (Ro.bare ll)).length : Int)) ∧ Below w.heap.size w w' := by
  have hR0 := hR
  obtain ⟨a, cap, rfl, _, _, h4⟩ := hR
  cases ll with
  | nil => exact refrank7_empty a cap w
  | cons x ll =>
    obtain ⟨b, off, rfl, _⟩ := h4 (by simp)
    exact refrank7_some b off cap k _ w hR0 hD hk hlen

end Go.Proofs.YtphdadibfeencaaGreat

/-
  Lists of slices of bytes that a call makes and appends to.
-/
set_option maxRecDepth 100000
namespace Go.Proofs.YtphdadibfeencaaGreat
open Go.RowKit

/-- Each value reads as its row. -/
structure EachB (w : World) (us : List Value) (ll : List (List Nat)) : Prop where
  len : us.length = ll.length
  row : ∀ i u, us[i]? = some u → Bytes w u (rowAt ll i)
theorem EachB.nil (w : World) : EachB w [] [] := ⟨rfl, fun i u h => by simp at h⟩
theorem EachB.soft {w w' : World} {us : List Value} {ll : List (List Nat)} (h : EachB w us ll) (hs : Soft w w') : EachB w' us ll := ⟨h.len, fun i u hu => (h.row i u hu).soft hs⟩
theorem EachB.append {w : World} {us vs : List Value} {L M : List (List Nat)} (h : EachB w us L) (k : EachB w vs M) : EachB w (us ++ vs) (L ++ M) := by
  refine ⟨by simp [h.len, k.len], fun i u hu => ?_⟩
  by_cases hi : i < us.length
  · rw [List.getElem?_append_left hi] at hu
    have := h.row i u hu
    rw [show rowAt (L ++ M) i = rowAt L i from by unfold rowAt; rw [List.getD_eq_getElem?_getD, List.getElem?_append_left (by rw [← h.len]; exact hi), ← List.getD_eq_getElem?_getD]]
    exact this
  · rw [List.getElem?_append_right (by omega)] at hu
    have := k.row _ u hu
    rw [show rowAt (L ++ M) i = rowAt M (i - us.length) from by unfold rowAt; rw [List.getD_eq_getElem?_getD, List.getElem?_append_right (by rw [← h.len]; omega), ← List.getD_eq_getElem?_getD, h.len]]
    exact this
theorem EachB.one {w : World} {u : Value} {l : List Nat} (h : Bytes w u l) : EachB w [u] [l] := ⟨rfl, fun i v hv => by
  cases i with
  | zero => simp at hv; subst hv; exact h
  | succ i => simp at hv⟩
theorem EachB.noU8 {w : World} {us : List Value} {ll : List (List Nat)} (h : EachB w us ll) : ∀ x ∈ us, (∀ k : Nat, x ≠ U8 k) ∧ x.oneCell' = true := by
  intro x hx
  obtain ⟨i, hi⟩ := List.mem_iff_getElem?.1 hx
  obtain ⟨a, c, rfl, _⟩ := h.row i x hi
  exact ⟨slice_ne _ _ _, rfl⟩

/-- The value is a list of slices of bytes whose block, from B on, the call made itself, or none yet. -/
def OwnM (w : World) (B : Nat) (T : TypeId) (v : Value) (ll : List (List Nat)) : Prop := ∃ us, OwnN w B T 1 v ll.length us ∧ EachB w us ll

theorem OwnM.nil (w : World) (B : Nat) (T : TypeId) : OwnM w B T (.slice none 0 0) [] := ⟨[], OwnN.nil _ _ _ _, EachB.nil _⟩
theorem OwnM.mono {w : World} {B C : Nat} {T : TypeId} {v : Value} {L : List (List Nat)} (h : OwnM w B T v L) (hC : C ≤ B) : OwnM w C T v L := by
  obtain ⟨us, h1, h2⟩ := h; exact ⟨us, h1.mono hC, h2⟩
theorem OwnM.go {w w' : World} {B : Nat} {T : TypeId} {v : Value} {L : List (List Nat)} (h : OwnM w B T v L) (hb : Below w.heap.size w w') : OwnM w' B T v L := by
  obtain ⟨us, h1, h2⟩ := h; exact ⟨us, h1.go hb, h2.soft (Soft.of_below hb)⟩
theorem OwnM.from {w : World} {B : Nat} {T : TypeId} {v : Value} {L : List (List Nat)} (h : OwnM w B T v L) : ∀ k, v.ownBlock = some k → B ≤ k := by obtain ⟨us, h1, _⟩ := h; exact h1.from
theorem OwnM.lt {w : World} {B : Nat} {T : TypeId} {v : Value} {L : List (List Nat)} (h : OwnM w B T v L) : ∀ k, v.ownBlock = some k → k < w.heap.size := by obtain ⟨us, h1, _⟩ := h; exact fun k hk => (World.ownsRow.lt h1.1 k hk).2
/-- A block that isn't its own was written, and no byte but there. -/
theorem OwnM.other {w w' : World} {B : Nat} {T : TypeId} {v : Value} {L : List (List Nat)} {row : Option Nat} (h : OwnM w B T v L) (hg : w.grownBy w' row) (hs : Soft w w') (hne : v.ownBlock = none ∨ v.ownBlock ≠ row) : OwnM w' B T v L := by
  obtain ⟨us, h1, h2⟩ := h
  exact ⟨us, h1.keep hg hne, h2.soft hs⟩
theorem OwnM.shape {w : World} {B : Nat} {T : TypeId} {v : Value} {L : List (List Nat)} (h : OwnM w B T v L) : ∃ a c, v = .slice a L.length c := by
  obtain ⟨us, ⟨⟨_, h1⟩, _⟩, _⟩ := h
  rcases h1 with ⟨rfl, h0⟩ | ⟨g, cap, cur, rfl, _⟩
  · rw [h0]; exact ⟨_, _, rfl⟩
  · exact ⟨_, _, rfl⟩
theorem rows_add (b o j : Nat) : (⟨b, o, none⟩ : Addr).add j = ⟨b, o + j, none⟩ := by unfold Addr.add; split <;> simp_all
theorem OwnM.rows {w : World} {B : Nat} {T : TypeId} {v : Value} {L : List (List Nat)} (h : OwnM w B T v L) : IsRows w v L := by
  obtain ⟨us, ⟨h1, _⟩, h2⟩ := h
  have h1' := h1
  rcases h1.2 with ⟨rfl, h0⟩ | ⟨g, cap, cur, rfl, hB, hg, hn, hc, hsz, ht⟩
  · have e : L = [] := List.length_eq_zero_iff.1 h0
    subst e
    exact ⟨none, 0, rfl, by simp, by omega, fun h => absurd rfl h⟩
  · refine ⟨_, cap, rfl, hn, by simpa [maxLen] using hc, fun _ => ⟨g, 0, rfl, (Array.getElem?_eq_some_iff.1 hg).1, fun i hi => ?_⟩⟩
    have hi' : i < us.length := by rw [h2.len]; exact hi
    have c1 := World.ownsRow.cells h1' (g := g) rfl _ _ (List.getElem?_eq_getElem hi')
    rw [rows_add] at c1
    exact ⟨us[i], c1, h2.row i us[i] (List.getElem?_eq_getElem hi')⟩

/-- 'out = append(out, u)', of one slice of bytes. -/
theorem wpList_append_m {ops : Array Oper} {rest : List Oper} {o : Oper} {a : Act} {Q : Exit → Act → World → Prop} {w : World} (hgd : o.guard = none) (s x : Operand) (ho : o.op = .call { callee := .builtin .append, args := #[s, x], argTypes := #[22, 22] })
    (B k : Nat) (v u : Value) (ll : List (List Nat)) (l : List Nat) (T : TypeId) (hs : a.eval s = v) (hx : a.eval x = .slice (some ⟨k, 0, none⟩) 1 1) (hk : k = w.heap.size) (hu : Bytes w u l) (hown : OwnM w B 23 v ll) (hB : B ≤ w.heap.size) (hn : ll.length + 1 ≤ 1000000000000)
    (h : ∀ v' w', OwnM w' B 23 v' (ll ++ [l]) → (w.alloc (.cells #[u] T)).grownBy w' v.ownBlock → Soft (w.alloc (.cells #[u] T)) w' → wpList Tryz.prog ops Q rest (a.put o.dst v') w') :
    wpList Tryz.prog ops Q (o :: rest) a (w.alloc (.cells #[u] T)) := by
  subst hk
  obtain ⟨i0, hi, hz0, hz1, hz2⟩ := info_parts infoRow
  have hb : Below w.heap.size w (w.alloc (.cells #[u] T)) := (Below.refl _ _).alloc (Nat.le_refl _) _
  obtain ⟨us, h1, h2⟩ := hown
  have hE := (EachB.one hu).soft (Soft.of_below hb)
  refine wpList_append_soft hgd s x 22 ho B 23 i0 (.slice none 0 0) 1 24 Tryz.underlying22 hi hz0 hz1 hz2 rfl (by decide) v ll.length us hs (h1.go hb)
    ⟨w.heap.size, 0, none⟩ 1 1 [u] hx rfl ?_ (fun y hy => (hE.noU8 y hy).2) (fun y hy => by simp [Value.cells] at hy; subst hy; exact slice_ne _ _ _) (fun y hy => (hE.noU8 y hy).1) ?_ ?_ (Nat.le_trans hB (by simp)) ?_
  · intro j y hj
    match j, hj with
    | 0, hj => simp at hj; subst hj; simp [Addr.add]
  · unfold maxLen; omega
  · omega
  · intro v' w' k1 k2 k3
    refine h v' w' ⟨us ++ [u], ?_, ?_⟩ k2 k3
    · rw [List.length_append]; exact k1
    · exact ((h2.soft (Soft.of_below hb)).append hE).soft k3

end Go.Proofs.YtphdadibfeencaaGreat

/-
  The document's answer for grids (wellspringref07), in the program: 'Of', 'Same', 'Turned'.
-/
set_option maxRecDepth 100000
namespace Go.Proofs.YtphdadibfeencaaGreat
open Go.RowKit

/-- A row of whatever slice of slices, at a world behind; its address. -/
theorem IsRows.row {w w' : World} {a : Option Addr} {n c : Nat} {ll : List (List Nat)} (h : IsRows w (.slice a n c) ll) (hb : Below w.heap.size w w') (k : Nat) (hk : k < ll.length) : ∃ b off u, a = some ⟨b, off, none⟩ ∧ w'.cell? ⟨b, off + k, none⟩ = some u ∧ Bytes w' u (rowAt ll k) := by
  have h0 := h
  obtain ⟨a', cap, e, _, _, h4⟩ := h
  simp only [Value.slice.injEq] at e
  obtain ⟨rfl, rfl, rfl⟩ := e
  obtain ⟨b, off, rfl, _, _⟩ := h4 (by intro e; rw [e] at hk; simp at hk)
  obtain ⟨u, hu, hB⟩ := h0.at hb k hk
  exact ⟨b, off, u, rfl, hu, hB.go hb⟩
theorem IsRows.shape {w : World} {v : Value} {ll : List (List Nat)} (h : IsRows w v ll) : ∃ a c, v = .slice a ll.length c := by obtain ⟨a, cap, rfl, _⟩ := h; exact ⟨a, cap, rfl⟩
/-- What Of's code is. -/
def ofE (width : Int) (ll : List (List Nat)) : Int := if width < 0 ∨ 65536 < width then 2 else if 65536 < ll.length ∨ 65536 < ll.length * width then 5 else if ∀ i, i < ll.length → ((rowAt ll i).length : Int) = width then 0 else 4

end Go.Proofs.YtphdadibfeencaaGreat

/-
  The library's Clone and Equal, of bytes.
-/
set_option maxRecDepth 100000
namespace Go.Proofs.YtphdadibfeencaaGreat
open Go.RowKit

/-- The bytes as a string's. -/
def strOf (l : List Nat) : ByteArray := strOfNums (l.map Int.ofNat)

theorem strOf_inj {x y : List Nat} (hx : ∀ z, z ∈ x → z < 256) (hy : ∀ z, z ∈ y → z < 256) (h : strOf x = strOf y) : x = y := by
  have e : ∀ l : List Nat, (∀ z, z ∈ l → z < 256) → (strOf l).data.toList.map UInt8.toNat = l := by
    intro l hl
    unfold strOf
    rw [strOfNums_data, List.map_map, List.map_map]
    conv => rhs; rw [← List.map_id l]
    refine List.map_congr_left fun z hz => ?_
    have := hl z hz
    simp [Nat.mod_eq_of_lt this]
  rw [← e x hx, ← e y hy, h]

theorem strOf_dec {x y : List Nat} (hx : ∀ z, z ∈ x → z < 256) (hy : ∀ z, z ∈ y → z < 256) : ((strOf x).toList == (strOf y).toList) = decide (x = y) := by
  rw [ByteArray.toList_eq, ByteArray.toList_eq]
  by_cases h : x = y
  · subst h; simp
  · rw [decide_eq_false h, beq_eq_false_iff_ne]
    refine fun e => h (strOf_inj hx hy ?_)
    cases hx' : strOf x; cases hy' : strOf y
    rw [hx', hy'] at e
    simpa using e

theorem convert_empty (w : World) (p : Option Addr) (c : Nat) : (convert 23 9 (.slice p 0 c)).run Tryz.prog w = .ok (.string ByteArray.empty) w := by
  rw [run_convert_bytes_string w 23 9 5 _ 0 c Tryz.underlying23 Tryz.underlying5 Tryz.underlying9]
  cases p <;> simp [Conv.bytesToString, loadCells]
  all_goals rfl

/-- 'string(b)'. -/
theorem convert_bytes {w : World} {v : Value} {l : List Nat} (h : Bytes w v l) : (convert 23 9 v).run Tryz.prog w = .ok (.string (strOf l)) w := by
  obtain ⟨a, cap, rfl, h1, h2, h3, h4⟩ := h
  cases l with
  | nil =>
    exact convert_empty w a cap
  | cons x l =>
    obtain ⟨b, off, rfl, hlt, hc⟩ := h4 (by simp)
    refine run_convert_bytes_arg (P := Tryz.prog) w 23 5 Tryz.underlying23 Tryz.underlying5 b off _ cap ((x :: l).map Int.ofNat) (by simp) (fun i hi => ?_) 9 Tryz.underlying9
    rw [hc i hi, nth_eq _ i hi]
    simp only [List.getD_eq_getElem?_getD, List.getElem?_map, List.getElem?_eq_getElem hi]
    rfl

set_option maxHeartbeats 400000 in
theorem equal_any (v0 v1 : Value) (x y : List Nat) (w : World) (h0 : Bytes w v0 x) (h1 : Bytes w v1 y) :
    Calls Tryz.prog 19 #[v0, v1] w fun e w' => e = .returned (.bool (decide (x = y))) ∧ w = w' := by
  have c0 := convert_bytes h0
  have c1 := convert_bytes h1
  have HD := Lib.hid (strOf_dec h0.lt h1.lt)
  obtain ⟨a0, k0, rfl, _⟩ := h0
  obtain ⟨a1, k1, rfl, _⟩ := h1
  go_enter Tryz.func19, Tryz.ntmps19
  go_wp2_with fail
  go_ret
  exact ⟨by rw [← HD.out]; rfl, rfl⟩

set_option maxHeartbeats 400000 in
theorem clone_nil (cap : Nat) (w : World) :
    Calls Tryz.prog 29 #[.slice none 0 cap] w (BytesV w []) := by
  have hq := Lib.run_eql_slice_nil (P := Tryz.prog) w 23 5 none 0 cap 0 0 Tryz.underlying23
  go_enter Tryz.func29, Tryz.ntmps29
  go_wp2_with fail
  go_ret
  exact ⟨_, rfl, ⟨none, 0, rfl, by simp, by simp, by simp, fun h => absurd rfl h⟩, Below.refl _ _⟩

set_option maxHeartbeats 400000 in
theorem clone_some (a : Addr) (cap : Nat) (l : List Nat) (w : World) (hm : l.length ≤ 1000000000) (hB : Bytes w (.slice (some a) l.length cap) l) :
    Calls Tryz.prog 29 #[.slice (some a) l.length cap] w (BytesV w l) := by
  have hq := Lib.run_eql_slice_nil (P := Tryz.prog) w 23 5 (some a) l.length cap 0 0 Tryz.underlying23
  have hbe : Below w.heap.size w (w.alloc (.cells #[] 5)) := (Below.refl _ _).alloc (Nat.le_refl _) _
  have HBE := Lib.hid (hB.go hbe)
  clear hB
  go_enter Tryz.func29, Tryz.ntmps29
  go_wp2_with (at_builtin; refine wpList_append_bytes rfl (.tmp 5) (.tmp 6) rfl w.heap.size _ _ [] l rfl rfl (Owns.empty w w.heap.size (Nat.le_refl _)) HBE.out ?c1 ?c2 ?_)
  case c1 => simp
  case c2 => simp; omega
  intro v3 w3 hown3 hgr3
  have hgr : w.grownBy w3 (some w.heap.size) := grown_trans (grown_of_below hbe _) hgr3
  have hbel : Below w.heap.size w w3 := (Below.refl _ _).grown hgr (Nat.le_refl _) (fun k e => by cases e; exact Nat.le_refl _)
  have HO3 := Lib.hid hown3
  have HB := Lib.hid HBE.out.lt
  obtain ⟨av, nv, cv, rfl⟩ := hown3.shape
  clear hown3 hgr3 hgr hbe HBE
  go_wp2_with fail
  go_ret
  exact ⟨_, rfl, HO3.out.bytes HB.out, hbel⟩

theorem clone_any (v : Value) (l : List Nat) (w : World) (hm : l.length ≤ 1000000000) (hB : Bytes w v l) :
    Calls Tryz.prog 29 #[v] w (BytesV w l) := by
  have hB0 := hB
  obtain ⟨a, cap, rfl, _, _, _, h4⟩ := hB
  cases a with
  | some a => exact clone_some a cap l w hm hB0
  | none =>
    cases l with
    | nil => exact clone_nil cap w
    | cons x l => obtain ⟨b, off, e, _⟩ := h4 (by simp); exact absurd e (by simp)

end Go.Proofs.YtphdadibfeencaaGreat
