/- Texts of one seat, laid together: GridD, ElimB, ElimC. -/
import Derived.Test.YtphdadibfeencaaGreatSolveHoldsQ13
import Derived.Test.YtphdadibfeencaaGreatSolveHoldsQ14

/-
  Grids in the program (layer 7): 'reduced'.
-/
set_option maxRecDepth 100000
namespace Go.Proofs.YtphdadibfeencaaGreat
open Go.RowKit

theorem below_grownO {B : Nat} {a b c : World} {row : Option Nat} (h : Below B a b) (hg : b.grownBy c row) (hB : B ≤ b.heap.size) (hr : ∀ g, row = some g → B ≤ g) : Below B a c := by
  cases row with
  | some g => exact below_grown h hg hB (hr g rfl)
  | none => exact below_grown (g := b.heap.size) h ⟨hg.os, hg.tape, hg.output, hg.size, fun k hk _ => hg.block k hk (by simp)⟩ hB hB
theorem OwnL.lit (w : World) (B g : Nat) (T : TypeId) (h : Blk w g #[] T) (hB : B ≤ g) : OwnL w B T (.slice (some ⟨g, 0, none⟩) 0 0) [] :=
  ⟨[], ⟨⟨rfl, .inr ⟨g, 0, #[], rfl, hB, h, Nat.le_refl _, Nat.zero_le _, rfl, rfl⟩⟩, fun _ e => by
    simp only [Value.ownBlock, Option.some.injEq] at e
    subst e
    exact Loose.of_blk h fun i n => by simp⟩, Each.nil _⟩
/-- A row stored into its box. -/
theorem store_box {w : World} {g : Nat} {x y : Value} {T : TypeId} (hk : Blk w g #[x, y] T) (hn : NoU8 #[x, y]) {a a' : Option Addr} {c c' : Nat} {p q : List Nat} (h1 : Bytes w (.slice a p.length c) p) (h2 : Bytes w (.slice a' q.length c') q) :
    w.grownBy ((w.setCell ⟨g, 0, none⟩ (.slice a p.length c)).setCell ⟨g, 1, none⟩ (.slice a' q.length c')) (some g) ∧ Soft w ((w.setCell ⟨g, 0, none⟩ (.slice a p.length c)).setCell ⟨g, 1, none⟩ (.slice a' q.length c')) ∧
      ERow ((w.setCell ⟨g, 0, none⟩ (.slice a p.length c)).setCell ⟨g, 1, none⟩ (.slice a' q.length c')) g T p q :=
  store_row (p := p) (q := q) hk hn (v := .agg #[.slice a p.length c, .slice a' q.length c']) ⟨_, _, rfl, h1, h2⟩ fun b d b' d' e => by
    simp only [Value.agg.injEq, Array.mk.injEq, List.cons.injEq, and_true] at e
    exact ⟨_, _, rfl, rfl, e.1, e.2⟩

theorem load_vecs {w : World} {g : Nat} {v : Value} (h : w.cell? ⟨g, 0, none⟩ = some v) : (Instr.loadAt 27 (.pointer (some ⟨g, 0, none⟩))).run Tryz.prog w = .ok v w := by
  go_simp
theorem store_one {w : World} {g : Nat} {a a' : Option Addr} {n n' c c' : Nat} {T : TypeId} (hk : Blk w g #[.slice a n c] T) : w.grownBy (w.setCell ⟨g, 0, none⟩ (.slice a' n' c')) (some g) ∧ Soft w (w.setCell ⟨g, 0, none⟩ (.slice a' n' c')) ∧ Blk (w.setCell ⟨g, 0, none⟩ (.slice a' n' c')) g #[.slice a' n' c'] T := by
  have hgr := grown_setCell w ⟨g, 0, none⟩ (.slice a' n' c')
  have h2 := hk.set 0 (.slice a' n' c')
  have no : ∀ (a : Option Addr) (n c i k : Nat), (#[.slice a n c] : Array Value)[i]? ≠ some (U8 k) := fun a n c i k e => by
    cases i with
    | zero => simp at e
    | succ i => simp at e
  exact ⟨hgr, Soft.of_box hgr hk (fun i k => no _ _ _ i k) h2 (fun i k => no _ _ _ i k), h2⟩

set_option maxHeartbeats 4000000 in
theorem reduced_any (v : Value) (L : List Rw) (k t : Nat) (w : World) (hL : IsRL w v L) (hD : Ro.Dims k t L) (hk : k ≤ 10000000) (ht : t ≤ 10000000) (hlen : L.length ≤ 1000000) :
    Calls Tryz.prog 43 #[v] w fun e w' => ∃ v', e = .returned v' ∧ OwnL w' w.heap.size 46 v' (Ro.redOf L) ∧ Below w.heap.size w w' := by
  have HL := Lib.hid hL
  have HD := Lib.hid hD
  obtain ⟨a, c, rfl⟩ := hL.shape
  clear hL hD
  go_enter Tryz.func43, Tryz.ntmps43
  go_wp2_with fail
  obtain ⟨B, hk1, hk2, hs⟩ := blocks2 w #[] 46 #[.slice (some ⟨w.heap.size, 0, none⟩) 0 0] 27
  generalize ((w.alloc (.cells #[] 46)).alloc (.cells #[.slice (some ⟨w.heap.size, 0, none⟩) 0 0] 27)) = W at *
  have K1 := Lib.hid hk1
  have K2 := Lib.hid hk2
  have HS := Lib.hid hs
  clear hs hk1 hk2
  have hzW := B.size
  go_loopw [5, 7, 8, 9, 10, 11, 15] (fun _ _ _ _ _ _ i wr => ∃ n : Nat, n ≤ L.length ∧ i = .int .i64 n ∧ Below w.heap.size w wr ∧ ∃ vb, Blk wr (w.heap.size + 1) #[vb] 27 ∧ OwnL wr w.heap.size 46 vb (Ro.redOf (L.take n))) (fun _ _ _ _ _ _ i _ => L.length - (intOf i).toNat)
  case atStart => exact ⟨0, by omega, rfl, B, _, K2.out, OwnL.lit _ _ _ _ K1.out (Nat.le_refl _)⟩
  case round =>
    clear K1 K2 HS B hzW
    obtain ⟨n, hn, rfl, B, vb, hK, hO⟩ := hrel
    obtain ⟨E, hE⟩ : ∃ E, E = Ro.redOf (L.take n) := ⟨_, rfl⟩
    rw [← hE] at hO
    have HEQ := Lib.hid hE
    have HR := Lib.hid (show RedR k t E by rw [hE]; exact (redOf_red HD.out n hn).1)
    have hEl : E.length ≤ 1000000 := by rw [hE]; exact Nat.le_trans (Ro.redOf_length L n hn) (by omega)
    clear hE
    obtain ⟨va, vc, rfl⟩ := hO.shape
    have HK := Lib.hid hK
    have HO := Lib.hid hO
    have HVA := Lib.hid hO.lt
    have k0 : wr.cell? ⟨w.heap.size + 1, 0, none⟩ = some (.slice va E.length vc) := hK.cell 0
    have kl := hK.lt
    have hz := B.size
    clear hK hO
    by_cases hlt : n < L.length
    · obtain ⟨b, off, c', er, _⟩ := HL.out.addr (by omega)
      simp only [Value.slice.injEq, true_and] at er
      obtain ⟨rfl, rfl⟩ := er
      obtain ⟨p0, q0, z0, z1, hb1, hb2⟩ := (HL.out.go B).cells n hlt
      have HB1 := Lib.hid hb1
      have HB2 := Lib.hid hb2
      obtain ⟨pa, pc, rfl, _⟩ := hb1
      obtain ⟨qa, qc, rfl, _⟩ := hb2
      have HX := Lib.hid (HD.out.at hlt)
      have HST := Lib.hid (Ro.redOf_take L n hlt)
      rw [← HEQ.out] at HST
      obtain ⟨x, hx⟩ : ∃ x, x = rwAt L n := ⟨_, rfl⟩
      rw [← hx] at HST HX HB1 HB2 z0 z1
      clear hx
      have j0 : (0 : Int) ≤ (n : Int) := Int.natCast_nonneg _
      go_wp2_with fail
      obtain ⟨g5, hg5⟩ : ∃ g5 : Nat, g5 = wr.heap.size := ⟨_, rfl⟩
      have HG5 := Lib.hid (show w.heap.size ≤ g5 by omega)
      have HVN := Lib.hid (show (Value.slice va E.length vc).ownBlock ≠ some g5 from fun e => by have := HVA.out _ e; omega)
      have HKN := Lib.hid (show w.heap.size + 1 ≠ g5 by omega)
      have HK5 := Lib.hid hg5
      obtain ⟨hb, hk, hs⟩ := blocks1 wr #[.slice pa x.1.length pc, .slice qa x.2.length qc] 46
      generalize wr.alloc (.cells #[.slice pa x.1.length pc, .slice qa x.2.length qc] 46) = W5 at *
      have K5 := Lib.hid hk
      replace HK := Lib.hid (HK.out.go hb)
      replace HO := Lib.hid (HO.out.go hb)
      replace HB1 := Lib.hid (HB1.out.go hb)
      replace HB2 := Lib.hid (HB2.out.go hb)
      replace B := B.trans (hb.mono B.size)
      have hzW5 := B.size
      clear hb hk hs
      rw [← hg5] at K5
      simp only [← hg5]
      clear k0 kl z0 z1 hg5 HVA HK5
      go_loopw [7, 21] (fun _ i wr => ∃ j : Nat, j ≤ E.length ∧ i = .int .i64 j ∧ Below w.heap.size w wr ∧ ERow wr g5 46 (Ro.rest (E.take j) x).1 (Ro.rest (E.take j) x).2 ∧ Blk wr (w.heap.size + 1) #[.slice va E.length vc] 27 ∧ OwnL wr w.heap.size 46 (.slice va E.length vc) E) (fun _ i _ => E.length - (intOf i).toNat)
      case atStart => exact ⟨0, by omega, rfl, B, ⟨pa, pc, qa, qc, K5.out, _, _, rfl, HB1.out, HB2.out⟩, HK.out, HO.out⟩
      case round =>
        clear K5 HB1 HB2 HK HO B hzW5 hz
        obtain ⟨j, hj, rfl, B, hER, hK, hO⟩ := hrel
        have HK := Lib.hid hK
        have HO := Lib.hid hO
        have hz := B.size
        obtain ⟨ya, yc, za, zc, hk5, hr5⟩ := hER
        obtain ⟨_, _, er5, hyb, hzb⟩ := hr5
        simp only [Value.agg.injEq, Array.mk.injEq, List.cons.injEq, and_true] at er5
        obtain ⟨rfl, rfl⟩ := er5
        obtain ⟨y, hy⟩ : ∃ y, y = Ro.rest (E.take j) x := ⟨_, rfl⟩
        rw [← hy] at hk5 hyb hzb
        have HYD := Lib.hid (show Ro.Dim k t y by rw [hy]; exact Ro.rest_dim (HR.out.up.dims.take j) HX.out)
        have HY := Lib.hid hy
        have K5 := Lib.hid hk5
        have HYB := Lib.hid hyb
        have HZB := Lib.hid hzb
        clear hy hk5 hyb hzb hK hO
        have k0 : wr.cell? ⟨w.heap.size + 1, 0, none⟩ = some (.slice va E.length vc) := HK.out.cell 0
        have kl := HK.out.lt
        obtain ⟨k50, k51⟩ := K5.out.two
        have k5l := K5.out.lt
        obtain ⟨k5f0, k5f1⟩ := K5.out.fre2
        by_cases hjl : j < E.length
        · obtain ⟨g, c', er, hBg, hgl⟩ := HO.out.addr (by omega)
          simp only [Value.slice.injEq] at er
          obtain ⟨rfl, -, rfl⟩ := er
          obtain ⟨ra, rc, sa, sc, hr0, hr1, hrb, hsb⟩ := HO.out.cells j hjl
          have HRB := Lib.hid hrb
          have HSB := Lib.hid hsb
          have HDJ := Lib.hid (HR.out.up.dims.at hjl)
          have HLJ := Lib.hid (HR.out.up.leads.at hjl)
          have HNX := Lib.hid (show Ro.rest (E.take (j + 1)) x = Ro.step y (rwAt E j) by rw [Ro.rest_take_succ E x j hjl, ← HY.out])
          have j1 : (j : Int) < (E.length : Int) := by omega
          have j0 : (0 : Int) ≤ (j : Int) := Int.natCast_nonneg _
          clear hrb hsb
          go_wp2_with fail
          obtain ⟨hb, hk, hs⟩ := blocks1 wr #[.slice ra (rwAt E j).1.length rc, .slice sa (rwAt E j).2.length sc] 46
          generalize wr.alloc (.cells #[.slice ra (rwAt E j).1.length rc, .slice sa (rwAt E j).2.length sc] 46) = W6 at *
          have K7 := Lib.hid hk
          replace HK := Lib.hid (HK.out.go hb)
          replace HO := Lib.hid (HO.out.go hb)
          replace K5 := Lib.hid (K5.out.go hb)
          replace HYB := Lib.hid (HYB.out.go hb)
          replace HZB := Lib.hid (HZB.out.go hb)
          replace HRB := Lib.hid (HRB.out.go hb)
          replace HSB := Lib.hid (HSB.out.go hb)
          replace B := B.trans (hb.mono B.size)
          have hzW6 := B.size
          clear hb hk hs
          clear k0 kl k50 k51 k5l k5f0 k5f1 hr0 hr1
          obtain ⟨k50, k51⟩ := K5.out.two
          have k5l := K5.out.lt
          obtain ⟨k70, k71⟩ := K7.out.two
          have k7l := K7.out.lt
          go_wp2_with fail
          refine (gwithout_any _ _ y (rwAt E j) k t _ ⟨_, _, rfl, HYB.out, HZB.out⟩ ⟨_, _, rfl, HRB.out, HSB.out⟩ HYD.out HDJ.out hk ht HLJ.out).mono ?_
          rintro e w7 ⟨u7, rfl, hu7, hb⟩
          replace HK := Lib.hid (HK.out.go hb)
          replace HO := Lib.hid (HO.out.go hb)
          replace K5 := Lib.hid (K5.out.go hb)
          replace B := B.trans (hb.mono B.size)
          have hzw7 := B.size
          clear hb
          obtain ⟨ua, uc, va', vc', rfl⟩ := hu7.shape
          obtain ⟨_, _, er7, hub, hvb⟩ := hu7
          simp only [Value.agg.injEq, Array.mk.injEq, List.cons.injEq, and_true] at er7
          obtain ⟨rfl, rfl⟩ := er7
          have HUB := Lib.hid hub
          have HVB := Lib.hid hvb
          clear hub hvb k50 k51 k5l
          obtain ⟨k50, k51⟩ := K5.out.two
          have k5l := K5.out.lt
          obtain ⟨k5f0, k5f1⟩ := K5.out.fre2
          go_wp2_with fail
          obtain ⟨hg, hs, hER⟩ := store_box K5.out (noU8_two _ _ (slice_ne _ _ _) (slice_ne _ _ _)) HUB.out HVB.out
          have HE2 := Lib.hid hER
          have HB2 := Lib.hid (below_grown B hg B.size HG5.out)
          have HK2 := Lib.hid (HK.out.grown hg (by simpa using HKN.out))
          have HO2 := Lib.hid (HO.out.other hg hs HVN.out)
          clear hg hs hER
          go_roundw
          case rel => exact ⟨j + 1, by omega, by go_num, HB2.out, by rw [HNX.out]; exact HE2.out, HK2.out, HO2.out⟩
          case measure => simp [intOf]; omega
        · obtain rfl : j = E.length := by omega
          have hyr : y = Ro.rest E x := by rw [HY.out, List.take_length]
          have HYR := Lib.hid hyr
          clear hyr HY
          have hl1 : y.1.length ≤ 10000000 := by rw [HYD.out.1]; exact hk
          have hl2 : y.2.length ≤ 10000000 := by rw [HYD.out.2.1]; exact ht
          go_wp2_with fail
          refine (vzero_any _ y.1 _ HYB.out).mono ?_
          rintro e w' ⟨rfl, rfl⟩
          cases hzy : zeroB y.1 with
          | true =>
            have HT := Lib.hid (show Ro.take1 E x = E by unfold Ro.take1; rw [← HYR.out, if_pos hzy])
            go_wp2_with fail
            go_roundw
            case rel => exact ⟨n + 1, by omega, by go_num, B, _, HK.out, by rw [HST.out, HT.out]; exact HO.out⟩
            case measure => simp [intOf]; omega
          | false =>
            obtain ⟨y2, hy2⟩ : ∃ y2, y2 = Ro.norm y := ⟨_, rfl⟩
            have HN := Lib.hid (show Newr k t E y2 by rw [hy2, HYR.out]; exact newr_rest HR.out HX.out (by rw [← HYR.out]; exact hzy))
            have HT := Lib.hid (show Ro.take1 E x = Ro.put (Ro.clean E y2) y2 by unfold Ro.take1; rw [← HYR.out, if_neg (by rw [hzy]; simp), ← hy2])
            have HY2 := Lib.hid hy2
            clear hy2
            go_wp2_with fail
            refine (norm_any _ y.1 y.2 _ ⟨_, _, rfl, HYB.out, HZB.out⟩ (by omega) (by omega)).mono ?_
            rintro e w8 ⟨u8, rfl, hu8', hb⟩
            replace HK := Lib.hid (HK.out.go hb)
            replace HO := Lib.hid (HO.out.go hb)
            replace K5 := Lib.hid (K5.out.go hb)
            replace B := B.trans (hb.mono B.size)
            have hzw8 := B.size
            clear hb
            have hu8 : IsRow w8 u8 y2.1 y2.2 := by rw [HY2.out]; exact hu8'
            clear hu8' k0 kl k50 k51 k5l k5f0 k5f1
            obtain ⟨ua, uc, va', vc', rfl⟩ := hu8.shape
            obtain ⟨_, _, er7, hub, hvb⟩ := hu8
            simp only [Value.agg.injEq, Array.mk.injEq, List.cons.injEq, and_true] at er7
            obtain ⟨rfl, rfl⟩ := er7
            have HUB := Lib.hid hub
            have HVB := Lib.hid hvb
            clear hub hvb
            have k0 : w8.cell? ⟨w.heap.size + 1, 0, none⟩ = some (.slice va E.length vc) := HK.out.cell 0
            have kl := HK.out.lt
            obtain ⟨k50, k51⟩ := K5.out.two
            have k5l := K5.out.lt
            obtain ⟨k5f0, k5f1⟩ := K5.out.fre2
            have kne : ¬ (w.heap.size + 1 = g5) := HKN.out
            go_wp2_with fail
            obtain ⟨hg, hs, hER⟩ := store_box K5.out (noU8_two _ _ (slice_ne _ _ _) (slice_ne _ _ _)) HUB.out HVB.out
            have HE2 := Lib.hid hER
            have HB2 := Lib.hid (below_grown B hg B.size HG5.out)
            have HK2 := Lib.hid (HK.out.grown hg (by simpa using HKN.out))
            have HO2 := Lib.hid (HO.out.other hg hs HVN.out)
            clear hg hs hER k0 kl k50 k51 k5l k5f0 k5f1 HK HO B K5 HYB HZB
            generalize (w8.setCell ⟨g5, 0, none⟩ (.slice ua y2.1.length uc)).setCell ⟨g5, 1, none⟩ (.slice va' y2.2.length vc') = w9 at *
            go_loopw [8, 9, 36] (fun _ _ i wr => ∃ j : Nat, j ≤ E.length ∧ i = .int .i64 j ∧ Below w.heap.size w wr ∧ ERow wr g5 46 y2.1 y2.2 ∧ Blk wr (w.heap.size + 1) #[.slice va E.length vc] 27 ∧ OwnL wr w.heap.size 46 (.slice va E.length vc) (Ro.cleanK E y2 j)) (fun _ _ i _ => E.length - (intOf i).toNat)
            case atStart => exact ⟨0, by omega, rfl, HB2.out, HE2.out, HK2.out, by rw [Ro.cleanK_zero]; exact HO2.out⟩
            case round =>
              clear HB2 HE2 HK2 HO2 hz HUB HVB hl1 hl2 HYD HYR HY2 hzy
              obtain ⟨j, hj, rfl, B, hER, hK, hO⟩ := hrel
              have HK := Lib.hid hK
              have hz := B.size
              obtain ⟨ya, yc, za, zc, hk5, hr5⟩ := hER
              obtain ⟨_, _, er5, hyb, hzb⟩ := hr5
              simp only [Value.agg.injEq, Array.mk.injEq, List.cons.injEq, and_true] at er5
              obtain ⟨rfl, rfl⟩ := er5
              have K5 := Lib.hid hk5
              have HYB := Lib.hid hyb
              have HZB := Lib.hid hzb
              clear hk5 hyb hzb hK
              have k0 : wr.cell? ⟨w.heap.size + 1, 0, none⟩ = some (.slice va E.length vc) := HK.out.cell 0
              have kl := HK.out.lt
              obtain ⟨k50, k51⟩ := K5.out.two
              have k5l := K5.out.lt
              obtain ⟨k5f0, k5f1⟩ := K5.out.fre2
              by_cases hjl : j < E.length
              · obtain ⟨F, hF⟩ : ∃ F, F = Ro.cleanK E y2 j := ⟨_, rfl⟩
                have hFl : F.length = E.length := by rw [hF]; exact Ro.cleanK_length E y2 j
                have hFj : rwAt F j = rwAt E j := by rw [hF]; exact Ro.cleanK_at E y2 j
                have HNX := Lib.hid (show F.set j (Ro.step (rwAt E j) y2) = Ro.cleanK E y2 (j + 1) by rw [hF]; exact Ro.cleanK_set E y2 j hjl)
                rw [← hF] at hO
                have HO := Lib.hid hO
                have HFL := Lib.hid (show j < F.length by rw [hFl]; exact hjl)
                obtain ⟨g, c', er, hBg, hgl⟩ := hO.addr (Nat.lt_of_le_of_lt (Nat.zero_le _) HFL.out)
                simp only [Value.slice.injEq] at er
                obtain ⟨rfl, -, rfl⟩ := er
                obtain ⟨ra, rc, sa, sc, hr0, hr1, hrb, hsb⟩ := hO.cells j HFL.out
                rw [hFj] at hr0 hr1 hrb hsb
                have HRB := Lib.hid hrb
                have HSB := Lib.hid hsb
                have HDJ := Lib.hid (HR.out.up.dims.at hjl)
                have j1 : (j : Int) < (E.length : Int) := by omega
                have j0 : (0 : Int) ≤ (j : Int) := Int.natCast_nonneg _
                have hgg5 : g5 ≠ g := fun e => HVN.out (by rw [e]; rfl)
                have hgk : w.heap.size + 1 ≠ g := fun e => HO.out.ne_box HK.out (by decide) (by rw [e]; rfl)
                clear hrb hsb hF hFl hFj hO
                go_wp2_with fail
                obtain ⟨g9, hg9⟩ : ∃ g9 : Nat, g9 = wr.heap.size := ⟨_, rfl⟩
                have hg9g : g9 ≠ g := by omega
                have hkg : ∀ k, (Value.slice (some ⟨g, 0, none⟩) E.length vc).ownBlock = some k → k < wr.heap.size := fun k e => by
                  simp only [Value.ownBlock, Option.some.injEq] at e
                  omega
                obtain ⟨hb, hk, hs⟩ := blocks1 wr #[.slice ra (rwAt E j).1.length rc, .slice sa (rwAt E j).2.length sc] 46
                generalize wr.alloc (.cells #[.slice ra (rwAt E j).1.length rc, .slice sa (rwAt E j).2.length sc] 46) = W6 at *
                have K9 := Lib.hid hk
                replace HK := Lib.hid (HK.out.go hb)
                replace HO := Lib.hid (HO.out.go hb)
                replace K5 := Lib.hid (K5.out.go hb)
                replace HYB := Lib.hid (HYB.out.go hb)
                replace HZB := Lib.hid (HZB.out.go hb)
                replace HRB := Lib.hid (HRB.out.go hb)
                replace HSB := Lib.hid (HSB.out.go hb)
                replace B := B.trans (hb.mono B.size)
                have hzW6 := B.size
                clear hb hk hs
                rw [← hg9] at K9
                simp only [← hg9]
                have HKG := Lib.hid (show ∀ k, (Value.slice (some ⟨g, 0, none⟩) E.length vc).ownBlock = some k → k < W6.heap.size from HO.out.lt)
                clear k0 kl k50 k51 k5l k5f0 k5f1 hr0 hr1 hg9 hkg
                have hpr0 : OwnL W6.drew w.heap.size 46 (.slice (some ⟨g, 0, none⟩) E.length vc) F := HO.out.go (Below.refl _ _).drew
                refine wp_region_mono (C := Ce W6 (g)) (R := Rb) (H := He W6 (g)) [TyE.val 41 (.slice (some ⟨g, 0, none⟩) E.length vc), TyE.val 42 (.int .i64 (j : Int)), TyE.row 43 (rwAt E j).1 (rwAt E j).2, TyE.row 44 y2.1 y2.2, TyE.row 45 (Ro.step (rwAt E j) y2).1 (Ro.step (rwAt E j) y2).2, TyE.val 46 (.pointer (some ⟨g, j * 2, none⟩)), (TyE.storesL (W := W6) (g := g) (.slice (some ⟨g, 0, none⟩) E.length vc) HKG.out w.heap.size 46 F (F.set j (Ro.step (rwAt E j) y2)))] (by kernel_rfl) (hC_e W6 (g)) (hCH_e W6 (g)) (drew_e W6 (g)) ⟨trivial, trivial, trivial, trivial, trivial, trivial, (hpr0), trivial⟩ (by kernel_rfl) ?_ ?_
                · refine ⟨?_, ?_, ?_, ?_, ?_, ?_, ?_, trivial⟩
                  · intro ac wc hC hsz hfr hd hpr
                    have d3 : ac.eval (.tmp 3) = (.pointer (some ⟨w.heap.size + 1, 0, none⟩)) := hfr 3 rfl
                    rw [if_pos (wanted_none rfl)]
                    exact ob_load _ rfl rfl rfl (Nat.lt_of_lt_of_eq (by decide : 41 < 62) hsz.symm) rfl d3 (load_vecs ((HK.out.ce hC hgk).cell 0)) (Below.refl _ _) rfl
                  · intro ac wc hC hsz hfr hd hpr
                    have d8 : ac.eval (.tmp 8) = (.int .i64 (j : Int)) := hfr 8 rfl
                    rw [if_pos (wanted_none rfl)]
                    exact ob_copy rfl rfl rfl (Nat.lt_of_lt_of_eq (by decide : 42 < 62) hsz.symm) (Or.inl rfl) (Below.refl _ _) d8
                  · intro ac wc hC hsz hfr hd hpr
                    have d9 : ac.eval (.tmp 9) = (.pointer (some ⟨g9, 0, none⟩)) := hfr 9 rfl
                    rw [if_pos (wanted_none rfl)]
                    exact ob_load _ rfl rfl rfl (Nat.lt_of_lt_of_eq (by decide : 43 < 62) hsz.symm) rfl d9 (load_vecrow (K9.out.ce hC hg9g)) (Below.refl _ _) (⟨_, _, rfl, HRB.out.ce hC, HSB.out.ce hC⟩)
                  · intro ac wc hC hsz hfr hd hpr
                    have d5 : ac.eval (.tmp 5) = (.pointer (some ⟨g5, 0, none⟩)) := hfr 5 rfl
                    rw [if_pos (wanted_none rfl)]
                    exact ob_load _ rfl rfl rfl (Nat.lt_of_lt_of_eq (by decide : 44 < 62) hsz.symm) rfl d5 (load_vecrow (K5.out.ce hC hgg5)) (Below.refl _ _) (⟨_, _, rfl, HYB.out.ce hC, HZB.out.ce hC⟩)
                  · intro ac wc hC hsz hfr hd hpr
                    have d43 : IsRow wc (ac.eval (.tmp 43)) (rwAt E j).1 (rwAt E j).2 := hd 2 rfl
                    have d44 : IsRow wc (ac.eval (.tmp 44)) y2.1 y2.2 := hd 3 rfl
                    rw [if_pos (wanted_none rfl)]
                    refine ob_call rfl rfl rfl (Nat.lt_of_lt_of_eq (by decide : 45 < 62) hsz.symm) rfl (enter_of Tryz.func62 (by kernel_rfl) rfl) ?_
                    show Calls Tryz.prog 62 #[ac.eval (.tmp 43), ac.eval (.tmp 44)] wc _
                    exact gwithout_any _ _ (rwAt E j) y2 k t wc d43 d44 HDJ.out HN.out.dim hk ht HN.out.lead
                  · intro ac wc hC hsz hfr hd hpr
                    have d41 : ac.eval (.tmp 41) = (.slice (some ⟨g, 0, none⟩) E.length vc) := hd 0 rfl
                    have d42 : ac.eval (.tmp 42) = (.int .i64 (j : Int)) := hd 1 rfl
                    rw [if_pos (wanted_none rfl)]
                    exact ob_index _ rfl rfl rfl (Nat.lt_of_lt_of_eq (by decide : 46 < 62) hsz.symm) rfl d41 d42 (by go_simp) (Below.refl _ _) rfl
                  · intro ac wc hC hsz hfr hd hpr
                    have d46 : ac.eval (.tmp 46) = (.pointer (some ⟨g, j * 2, none⟩)) := hd 5 rfl
                    have d45 : IsRow wc (ac.eval (.tmp 45)) (Ro.step (rwAt E j) y2).1 (Ro.step (rwAt E j) y2).2 := hd 4 rfl
                    rw [if_pos (wanted_none rfl)]
                    have hlt : 0 < ac.tmps.size := (Nat.lt_of_lt_of_eq (by decide : 0 < 62) hsz.symm)
                    exact ob_storesL HKG.out rfl d46 d45 HFL.out hpr
                intro a' W7 hC hdef hsz hfr hd
                have e41 : a'.eval (.tmp 41) = (.slice (some ⟨g, 0, none⟩) E.length vc) := hd 0 (by decide)
                have e42 : a'.eval (.tmp 42) = (.int .i64 (j : Int)) := hd 1 (by decide)
                obtain ⟨x43, e43, r43⟩ : ∃ xq_, a'.eval (.tmp 43) = xq_ ∧ IsRow W7 (xq_) (rwAt E j).1 (rwAt E j).2 := ⟨_, rfl, hd 2 (by decide)⟩
                replace r43 := Lib.hid r43
                obtain ⟨x44, e44, r44⟩ : ∃ xq_, a'.eval (.tmp 44) = xq_ ∧ IsRow W7 (xq_) y2.1 y2.2 := ⟨_, rfl, hd 3 (by decide)⟩
                replace r44 := Lib.hid r44
                obtain ⟨x45, e45, r45⟩ : ∃ xq_, a'.eval (.tmp 45) = xq_ ∧ IsRow W7 (xq_) (Ro.step (rwAt E j) y2).1 (Ro.step (rwAt E j) y2).2 := ⟨_, rfl, hd 4 (by decide)⟩
                replace r45 := Lib.hid r45
                have e46 : a'.eval (.tmp 46) = (.pointer (some ⟨g, j * 2, none⟩)) := hd 5 (by decide)
                have st6 : OwnL W7 w.heap.size 46 (.slice (some ⟨g, 0, none⟩) E.length vc) (F.set j (Ro.step (rwAt E j) y2)) := hd 6 (by decide)
                replace st6 := Lib.hid st6
                have hact := act_puts hdef hsz hfr
                simp only [dstsOf, List.filterMap, putAll, Act.put, List.setIfInBounds_toArray, List.set_cons_succ, List.set_cons_zero, e41, e42, e43, e44, e45, e46] at hact
                clear hd hfr hsz hdef e41 e42 e43 e44 e45 e46
                subst hact
                have HB7 := Lib.hid (below_grown B hC.1 B.size hBg)
                have HK7 := Lib.hid (HK.out.ce hC hgk)
                have HE7 := Lib.hid (show ERow W7 g5 46 y2.1 y2.2 from ⟨_, _, _, _, K5.out.ce hC hgg5, _, _, rfl, HYB.out.ce hC, HZB.out.ce hC⟩)
                clear hC
                go_wp2_with fail
                go_roundw
                case rel => exact ⟨j + 1, by omega, by go_num, HB7.out, HE7.out, HK7.out, by rw [← HNX.out]; exact st6.out⟩
                case measure => simp [intOf]; omega
              · obtain rfl : j = E.length := by omega
                rw [Ro.cleanK_all] at hO
                have HO := Lib.hid hO
                clear hO
                have HLI := Lib.hid (show leadI y2.1 = (lead y2.1 : Int) from if_pos HN.out.lead)
                obtain ⟨M, hM⟩ : ∃ M, M = Ro.clean E y2 := ⟨_, rfl⟩
                have hMl : M.length = E.length := by rw [hM]; exact Ro.clean_length E y2
                have HMU := Lib.hid (show Ro.Up k t M by rw [hM]; exact clean_up HR.out HN.out)
                have HMN := Lib.hid (show ∀ s, s ∈ M → lead s.1 ≠ lead y2.1 by
                  rw [hM]
                  intro s hs
                  obtain ⟨o, ho, rfl⟩ := Ro.clean_mem hs
                  rw [clean_lead HR.out HN.out ho]; exact HN.out.ne ho)
                rw [← hM] at HO
                have HM := Lib.hid hM
                have HML := Lib.hid hMl
                clear hM hMl
                go_wp2_with fail
                refine (lead_any _ y2.1 _ HYB.out).mono ?_
                rintro e w' ⟨rfl, rfl⟩
                rw [HLI.out]
                go_wp2_with fail
                obtain ⟨gl, hgl⟩ : ∃ gl : Nat, gl = wr.heap.size := ⟨_, rfl⟩
                obtain ⟨hb, hk, hs⟩ := blocks1 wr #[.int .i64 (lead y2.1 : Int)] 3
                generalize wr.alloc (.cells #[.int .i64 (lead y2.1 : Int)] 3) = W6 at *
                have K10 := Lib.hid hk
                replace HK := Lib.hid (HK.out.go hb)
                replace HO := Lib.hid (HO.out.go hb)
                replace K5 := Lib.hid (K5.out.go hb)
                replace HYB := Lib.hid (HYB.out.go hb)
                replace HZB := Lib.hid (HZB.out.go hb)
                replace B := B.trans (hb.mono B.size)
                have hzW6 := B.size
                clear hb hk hs
                rw [← hgl] at K10
                simp only [← hgl]
                clear k0 kl k50 k51 k5l k5f0 k5f1 hgl
                have HCB := Lib.hid (show W6.cell? ⟨w.heap.size + 1, 0, none⟩ = some (.slice va E.length vc) from HK.out.cell 0)
                have HCL := Lib.hid (show W6.cell? ⟨gl, 0, none⟩ = some (.int .i64 (lead y2.1 : Int)) from K10.out.cell 0)
                refine (searchRed_any (.pointer (some ⟨w.heap.size + 1, 0, none⟩)) (.pointer (some ⟨gl, 0, none⟩)) E.length (fun i => decide ((lead y2.1 : Int) < leadI (rwAt M i).1)) _ (by omega) (fun wq hb i hi => redpred_any _ _ _ M i _ wq (cell_keep HCB.out hb) (cell_keep HCL.out hb) (HO.out.list.go hb) (by have := HML.out; omega))).mono ?_
                rintro e w7 ⟨r, rfl, hrn, hr0, hr1, hb⟩
                replace HK := Lib.hid (HK.out.go hb)
                replace HO := Lib.hid (HO.out.go hb)
                replace K5 := Lib.hid (K5.out.go hb)
                replace HYB := Lib.hid (HYB.out.go hb)
                replace HZB := Lib.hid (HZB.out.go hb)
                replace B := B.trans (hb.mono B.size)
                have hzw7 := B.size
                clear hb
                have HA := Lib.hid (show Ro.ahead M y2 = r from ahead_found HMU.out HMN.out (by have := HML.out; omega) (fun h => by
                    have h2 := hr0 h
                    dsimp only at h2
                    have h3 := HMU.out.leads.at (show r - 1 < M.length by have := HML.out; omega)
                    rw [show leadI (rwAt M (r - 1)).1 = (lead (rwAt M (r - 1)).1 : Int) from if_pos h3] at h2
                    simp only [decide_eq_false_iff_not] at h2
                    omega) (fun h => by
                    have h2 := hr1 (by have := HML.out; omega)
                    dsimp only at h2
                    have h3 := HMU.out.leads.at h
                    rw [show leadI (rwAt M r).1 = (lead (rwAt M r).1 : Int) from if_pos h3] at h2
                    simp only [decide_eq_true_eq] at h2
                    omega))
                clear HCB HCL K10 hr0 hr1
                have k0 : w7.cell? ⟨w.heap.size + 1, 0, none⟩ = some (.slice va E.length vc) := HK.out.cell 0
                have kl := HK.out.lt
                obtain ⟨k50, k51⟩ := K5.out.two
                have k5l := K5.out.lt
                go_wp2_with fail
                obtain ⟨gv, hgv⟩ : ∃ gv : Nat, gv = w7.heap.size := ⟨_, rfl⟩
                have HVL := Lib.hid (show (Value.slice va E.length vc).ownBlock ≠ some gv from fun e => by have := HO.out.lt _ e; omega)
                obtain ⟨hb, hk, hs⟩ := blocks1 w7 #[.slice ya y2.1.length yc, .slice za y2.2.length zc] 46
                generalize w7.alloc (.cells #[.slice ya y2.1.length yc, .slice za y2.2.length zc] 46) = W8 at *
                have KV := Lib.hid hk
                replace HK := Lib.hid (HK.out.go hb)
                replace HO := Lib.hid (HO.out.go hb)
                replace K5 := Lib.hid (K5.out.go hb)
                replace HYB := Lib.hid (HYB.out.go hb)
                replace HZB := Lib.hid (HZB.out.go hb)
                replace B := B.trans (hb.mono B.size)
                have hzW8 := B.size
                clear hb hk hs
                rw [← hgv] at KV
                simp only [← hgv]
                clear k0 kl k50 k51 k5l hgv
                refine (insrow_any _ _ _ M r gv w.heap.size y2 W8 HO.out (by have := HML.out; omega) KV.out HYB.out HZB.out HVL.out B.size (by have := HML.out; omega)).mono ?_
                rintro e w9 ⟨v9, rfl, q1, q2, q3⟩
                obtain ⟨P, hP⟩ : ∃ P, P = M.take r ++ y2 :: M.drop r := ⟨_, rfl⟩
                rw [← hP] at q1
                have HPQ := Lib.hid hP
                clear hP
                obtain ⟨a9, c9, rfl⟩ := q1.shape
                have HQ := Lib.hid q1
                have HK9 := Lib.hid (HK.out.grown q2 fun e => HO.out.ne_box HK.out (by decide) e.symm)
                have HB9 := Lib.hid (below_grownO B q2 B.size fun g e => HO.out.from g e)
                clear q1 q2 q3
                have k0 : w9.cell? ⟨w.heap.size + 1, 0, none⟩ = some (.slice va E.length vc) := HK9.out.cell 0
                have kf := HK9.out.free 0
                go_wp2_with fail
                obtain ⟨s1, s2, s3⟩ := store_one (a' := a9) (n' := P.length) (c' := c9) HK9.out
                have HBA := Lib.hid (below_grown HB9.out s1 HB9.out.size (Nat.le_succ _))
                have HKA := Lib.hid s3
                have HQA := Lib.hid (HQ.out.other s1 s2 (HQ.out.ne_box HK9.out (by decide)))
                have HPE := Lib.hid (show Ro.redOf (L.take (n + 1)) = P by rw [HST.out, HT.out, ← HM.out, HPQ.out]; unfold Ro.put; rw [HA.out])
                clear s1 s2 s3
                go_roundw
                case rel => exact ⟨n + 1, by omega, by go_num, HBA.out, _, HKA.out, by rw [HPE.out]; exact HQA.out⟩
                case measure => simp [intOf]; omega
    · obtain rfl : n = L.length := by omega
      rw [List.take_length] at HEQ
      go_wp2_with fail
      go_ret
      exact ⟨_, rfl, by rw [← HEQ.out]; exact HO.out, B⟩

end Go.Proofs.YtphdadibfeencaaGreat

/-
  Systems of equations in the program (layer 8): 'without', 'place'.
-/
set_option maxRecDepth 100000
namespace Go.Proofs.YtphdadibfeencaaGreat
open Go.RowKit

/-- A row, and where it leads. -/
def IsLed (w : World) (v : Value) (r : Rw) : Prop := ∃ a b, v = .agg #[a, b, .int .i64 (lead r.1 : Int)] ∧ Bytes w a r.1 ∧ Bytes w b r.2
theorem IsLed.go {w w' : World} {v : Value} {r : Rw} (h : IsLed w v r) (hb : Below w.heap.size w w') : IsLed w' v r := by
  obtain ⟨a, b, e, h1, h2⟩ := h; exact ⟨a, b, e, h1.go hb, h2.go hb⟩

set_option maxHeartbeats 1000000 in
theorem ewithout_any (u v : Value) (x r : Rw) (k t : Nat) (w : World) (hu : IsRow w u x.1 x.2) (hv : IsLed w v r) (hx : Ro.Dim k t x) (hr : Ro.Dim k t r) (hk : k ≤ 10000000) (ht : t ≤ 10000000) (hl : lead r.1 < r.1.length) :
    Calls Tryz.prog 84 #[u, v] w (RowsV w (Ro.step x r).1 (Ro.step x r).2) := by
  obtain ⟨v0, d0, rfl, hp, hq⟩ := hu
  obtain ⟨v1, d1, rfl, hp', hq'⟩ := hv
  have HP := Lib.hid hp
  have HQ := Lib.hid hq
  have HP' := Lib.hid hp'
  have HQ' := Lib.hid hq'
  obtain ⟨a0, c0, rfl, _⟩ := hp
  obtain ⟨a1, c1, rfl, _⟩ := hq
  obtain ⟨a2, c2, rfl, _⟩ := hp'
  obtain ⟨a3, c3, rfl, _⟩ := hq'
  have HAT := Lib.hid (show atI x.1 (lead r.1 : Int) = nth x.1 (lead r.1) by unfold atI; rw [if_pos ⟨by omega, by have := hx.1; have := hr.1; omega⟩]; rfl)
  have HC := nth_lt hx.2.2.1 (lead r.1)
  have HX := Lib.hid hx
  have HR := Lib.hid hr
  have hl1 := hx.1
  have hl2 := hx.2.1
  have hl3 := hr.1
  have hl4 := hr.2.1
  have L1 : r.1.length ≤ 10000000 := by omega
  have L2 : r.2.length ≤ 10000000 := by omega
  have E1 := Lib.hid (show r.1.length = x.1.length by omega)
  have E2 := Lib.hid (show r.2.length = x.2.length by omega)
  clear hx hr hl hl1 hl2 hl3 hl4
  by_cases h0 : nth x.1 (lead r.1) = 0
  · have hb : ((nth x.1 (lead r.1) : Int) == 0) = true := by rw [h0]; rfl
    have HST := Lib.hid (step_same HX.out HR.out h0)
    clear h0
    go_enter Tryz.func84, Tryz.ntmps84
    go_wp2_with fail
    obtain ⟨B, hk1, hk2, hk3, hs⟩ := blocks3 w #[.slice a0 x.1.length c0, .slice a1 x.2.length c1] 46 #[.slice a2 r.1.length c2, .slice a3 r.2.length c3, .int .i64 (lead r.1 : Int)] 125 #[.slice none 0 0, .slice none 0 0] 46
    generalize (((w.alloc (.cells #[.slice a0 x.1.length c0, .slice a1 x.2.length c1] 46)).alloc (.cells #[.slice a2 r.1.length c2, .slice a3 r.2.length c3, .int .i64 (lead r.1 : Int)] 125)).alloc (.cells #[.slice none 0 0, .slice none 0 0] 46)) = W at *
    have K1 := Lib.hid hk1
    have K2 := Lib.hid hk2
    have K3 := Lib.hid hk3
    have HS := Lib.hid hs
    clear hs hk1 hk2 hk3
    replace HP := Lib.hid (HP.out.go B)
    replace HQ := Lib.hid (HQ.out.go B)
    replace HP' := Lib.hid (HP'.out.go B)
    replace HQ' := Lib.hid (HQ'.out.go B)
    have hzW := B.size
    obtain ⟨k10, k11⟩ := K1.out.two
    have k1l := K1.out.lt
    have k20 := K2.out.cell 0
    have k21 := K2.out.cell 1
    have k22 := K2.out.cell 2
    have k2l := K2.out.lt
    go_wp2_with fail
    refine (at_any _ x.1 _ _ HP.out).mono ?_
    rintro e w' ⟨rfl, rfl⟩
    rw [HAT.out]
    obtain ⟨k30, k31⟩ := K3.out.two
    have k3l := K3.out.lt
    obtain ⟨k3f0, k3f1⟩ := K3.out.fre2
    go_wp2_with fail
    obtain ⟨e0, e1, hB, hS⟩ := store2 K3.out (by omega) B (slice_ne _ _ _) (slice_ne _ _ _) (.slice a0 x.1.length c0) (.slice a1 x.2.length c1)
    exact bodyPost_ret (v := .agg #[.slice a0 x.1.length c0, .slice a1 x.2.length c1]) (by simp [results, Tryz.results84, go_sem, e0, e1]) rfl
      ⟨_, rfl, ⟨_, _, rfl, by rw [HST.out]; exact hS _ _ HP.out, by rw [HST.out]; exact hS _ _ HQ.out⟩, hB⟩
  · have hb : ((nth x.1 (lead r.1) : Int) == 0) = false := beq_eq_false_iff_ne.2 (by omega)
    have HST := Lib.hid (step_pair HX.out HR.out)
    clear h0
    go_enter Tryz.func84, Tryz.ntmps84
    go_wp2_with fail
    obtain ⟨B, hk1, hk2, hk3, hs⟩ := blocks3 w #[.slice a0 x.1.length c0, .slice a1 x.2.length c1] 46 #[.slice a2 r.1.length c2, .slice a3 r.2.length c3, .int .i64 (lead r.1 : Int)] 125 #[.slice none 0 0, .slice none 0 0] 46
    generalize (((w.alloc (.cells #[.slice a0 x.1.length c0, .slice a1 x.2.length c1] 46)).alloc (.cells #[.slice a2 r.1.length c2, .slice a3 r.2.length c3, .int .i64 (lead r.1 : Int)] 125)).alloc (.cells #[.slice none 0 0, .slice none 0 0] 46)) = W at *
    have K1 := Lib.hid hk1
    have K2 := Lib.hid hk2
    have K3 := Lib.hid hk3
    have HS := Lib.hid hs
    clear hs hk1 hk2 hk3
    replace HP := Lib.hid (HP.out.go B)
    replace HQ := Lib.hid (HQ.out.go B)
    replace HP' := Lib.hid (HP'.out.go B)
    replace HQ' := Lib.hid (HQ'.out.go B)
    have hzW := B.size
    obtain ⟨k10, k11⟩ := K1.out.two
    have k1l := K1.out.lt
    have k20 := K2.out.cell 0
    have k21 := K2.out.cell 1
    have k22 := K2.out.cell 2
    have k2l := K2.out.lt
    go_wp2_with fail
    refine (at_any _ x.1 _ _ HP.out).mono ?_
    rintro e w' ⟨rfl, rfl⟩
    rw [HAT.out]
    go_wp2_with fail
    refine (vecless_yes _ _ _ _ _ _ _ _ (nth x.1 (lead r.1)) x.1 x.2 r.1 r.2 _ HC HP.out HQ.out HP'.out HQ'.out L1 L2 E1.out E2.out).mono ?_
    rintro e w4 ⟨u4, rfl, hu4, hb⟩
    replace K3 := Lib.hid (K3.out.go hb)
    replace B := B.trans (hb.mono B.size)
    have hzw4 := B.size
    clear hb
    obtain ⟨y0, y1, rfl, V1, V2⟩ := hu4
    have H1 := Lib.hid V1
    have H2 := Lib.hid V2
    obtain ⟨a4, c4, rfl, _⟩ := V1
    obtain ⟨a5, c5, rfl, _⟩ := V2
    obtain ⟨k30, k31⟩ := K3.out.two
    have k3l := K3.out.lt
    obtain ⟨k3f0, k3f1⟩ := K3.out.fre2
    go_wp2_with fail
    obtain ⟨e0, e1, hB, hS⟩ := store2 K3.out (by omega) B (slice_ne _ _ _) (slice_ne _ _ _) (.slice a4 (Gf.add (Gf.scale (nth x.1 (lead r.1)) r.1) x.1).length c4) (.slice a5 (Gf.add (Gf.scale (nth x.1 (lead r.1)) r.2) x.2).length c5)
    have H3 := Lib.hid (hS _ _ H1.out)
    have H4 := Lib.hid (hS _ _ H2.out)
    clear hS k30 k31 k3l k3f0 k3f1
    generalize (w4.setCell ⟨w.heap.size + 1 + 1, 0, none⟩ (.slice a4 (Gf.add (Gf.scale (nth x.1 (lead r.1)) r.1) x.1).length c4)).setCell ⟨w.heap.size + 1 + 1, 1, none⟩ (.slice a5 (Gf.add (Gf.scale (nth x.1 (lead r.1)) r.2) x.2).length c5) = W5 at *
    obtain ⟨hb, hk, hs⟩ := blocks1 W5 #[.slice a4 (Gf.add (Gf.scale (nth x.1 (lead r.1)) r.1) x.1).length c4, .slice a5 (Gf.add (Gf.scale (nth x.1 (lead r.1)) r.2) x.2).length c5] 46
    replace e0 := cell_keep e0 hb
    replace e1 := cell_keep e1 hb
    have hB2 := hB.trans (hb.mono hB.size)
    have G3 := H3.out.go hb
    have G4 := H4.out.go hb
    clear hk hs hb
    generalize W5.alloc (.cells #[.slice a4 (Gf.add (Gf.scale (nth x.1 (lead r.1)) r.1) x.1).length c4, .slice a5 (Gf.add (Gf.scale (nth x.1 (lead r.1)) r.2) x.2).length c5] 46) = W6 at *
    exact bodyPost_ret (v := .agg #[.slice a4 (Gf.add (Gf.scale (nth x.1 (lead r.1)) r.1) x.1).length c4, .slice a5 (Gf.add (Gf.scale (nth x.1 (lead r.1)) r.2) x.2).length c5]) (by simp [results, Tryz.results84, go_sem, e0, e1]) rfl
      ⟨_, rfl, ⟨_, _, rfl, by rw [HST.out]; exact G3, by rw [HST.out]; exact G4⟩, hB2⟩

/-- A system: of k symbols, of t bytes; its rows. -/
def IsE (w : World) (B g : Nat) (v : Value) (k t : Nat) (E : List Rw) : Prop := Blk w g #[.int .i64 (k : Int), .int .i64 (t : Int), v] 110 ∧ OwnE w B v E ∧ B ≤ g
theorem IsE.go {w w' : World} {B g k t : Nat} {v : Value} {E : List Rw} (h : IsE w B g v k t E) (hb : Below w.heap.size w w') : IsE w' B g v k t E := ⟨h.1.go hb, h.2.1.go hb, h.2.2⟩

set_option maxHeartbeats 1000000 in
theorem placepred_any (bx lx g B k t : Nat) (v : Value) (E : List Rw) (i : Nat) (ld : Int) (w : World) (hbx : w.cell? ⟨bx, 0, none⟩ = some (.pointer (some ⟨g, 0, none⟩))) (hlx : w.cell? ⟨lx, 0, none⟩ = some (.int .i64 ld)) (hE : IsE w B g v k t E) (hi : i < E.length) :
    Calls Tryz.prog 95 #[.int .i64 (i : Int), .pointer (some ⟨bx, 0, none⟩), .pointer (some ⟨lx, 0, none⟩)] w fun e w' => e = .returned (.bool (decide (ld ≤ (lead (rwAt E i).1 : Int)))) ∧ Below w.heap.size w w' := by
  obtain ⟨h1, h2, h3⟩ := hE
  obtain ⟨b, c, rfl, _, _⟩ := h2.addr (by omega)
  obtain ⟨a1, b1, a2, b2, c1, c2, c3, _, _⟩ := h2.cells i hi
  have k0 := h1.cell 2
  have k1 : (0 : Int) ≤ (i : Int) := Int.natCast_nonneg _
  have k2 : (i : Int) < (E.length : Int) := by omega
  clear h1 h2 hi c1 c2
  go_enter Tryz.func95, Tryz.ntmps95
  go_wp2_with fail
  go_quiet (skip)
  go_wp2_with fail
  go_ret
  exact ⟨rfl, below_drews _ _⟩

end Go.Proofs.YtphdadibfeencaaGreat

/-
  Systems of equations in the program (layer 8): 'place', 'New', 'Size', 'Rank'.
-/
set_option maxRecDepth 100000
namespace Go.Proofs.YtphdadibfeencaaGreat
open Go.RowKit

/-- What place answers. -/
def PlaceV (w : World) (E : List Rw) (ld : Int) (e : Ending) (w' : World) : Prop := ∃ r : Nat, e = .returned (.int .i64 (r : Int)) ∧ (r ≤ E.length ∧ (0 < r → ¬ ld ≤ (lead (rwAt E (r - 1)).1 : Int)) ∧ (r < E.length → ld ≤ (lead (rwAt E r).1 : Int))) ∧ Below w.heap.size w w'

set_option maxHeartbeats 1000000 in
theorem place_any (g B0 k t : Nat) (v : Value) (E : List Rw) (ld : Int) (w : World) (hE : IsE w B0 g v k t E) (hlen : E.length ≤ 1000000) :
    Calls Tryz.prog 86 #[.pointer (some ⟨g, 0, none⟩), .int .i64 ld] w (PlaceV w E ld) := by
  have HE := Lib.hid hE
  obtain ⟨va, vc, rfl⟩ := hE.2.1.shape
  have k0 : w.cell? ⟨g, 2, none⟩ = some (.slice va E.length vc) := hE.1.cell 2
  have kl := hE.1.lt
  have hmf : ∀ (fn : Fn) (first cap : Array Value) (w : World), (Instr.makeFunc fn first cap).run Tryz.prog w = .ok (.func fn first cap) w := fun _ _ _ _ => rfl
  clear hE
  go_enter Tryz.func86, Tryz.ntmps86
  go_wp2_with fail
  obtain ⟨B, hk1, hk2, hs⟩ := blocks2 w #[.pointer (some ⟨g, 0, none⟩)] 89 #[.int .i64 ld] 3
  generalize ((w.alloc (.cells #[.pointer (some ⟨g, 0, none⟩)] 89)).alloc (.cells #[.int .i64 ld] 3)) = W at *
  have K1 := Lib.hid hk1
  have K2 := Lib.hid hk2
  have HS := Lib.hid hs
  clear hs hk1 hk2
  replace HE := Lib.hid (HE.out.go B)
  have hzW := B.size
  have HCB := Lib.hid (show W.cell? ⟨w.heap.size, 0, none⟩ = some (.pointer (some ⟨g, 0, none⟩)) from K1.out.cell 0)
  have HCL := Lib.hid (show W.cell? ⟨w.heap.size + 1, 0, none⟩ = some (.int .i64 ld) from K2.out.cell 0)
  clear k0 kl
  refine (searchPlace_any (.pointer (some ⟨w.heap.size, 0, none⟩)) (.pointer (some ⟨w.heap.size + 1, 0, none⟩)) E.length (fun i => decide (ld ≤ (lead (rwAt E i).1 : Int))) _ (by omega) (fun wq hb i hi => placepred_any _ _ g B0 k t _ E i ld wq (cell_keep HCB.out hb) (cell_keep HCL.out hb) (HE.out.go hb) hi)).mono ?_
  rintro e w7 ⟨r, rfl, hrl, hr0, hr1, hb⟩
  replace B := B.trans (hb.mono B.size)
  have hzw7 := B.size
  clear hb
  go_wp2_with fail
  go_ret
  exact ⟨r, rfl, ⟨hrl, fun h => by simpa using hr0 h, fun h => by simpa using hr1 h⟩, B⟩

theorem IsE.c0 {w : World} {B g k t : Nat} {v : Value} {E : List Rw} (h : IsE w B g v k t E) : w.cell? ⟨g, 0, none⟩ = some (.int .i64 (k : Int)) := h.1.cell 0
theorem IsE.c1 {w : World} {B g k t : Nat} {v : Value} {E : List Rw} (h : IsE w B g v k t E) : w.cell? ⟨g, 1, none⟩ = some (.int .i64 (t : Int)) := h.1.cell 1
theorem IsE.c2 {w : World} {B g k t : Nat} {v : Value} {E : List Rw} (h : IsE w B g v k t E) : w.cell? ⟨g, 2, none⟩ = some v := h.1.cell 2

set_option maxHeartbeats 1000000 in
theorem erank_any (g B0 k t : Nat) (v : Value) (E : List Rw) (w : World) (hE : IsE w B0 g v k t E) :
    Calls Tryz.prog 50 #[.pointer (some ⟨g, 0, none⟩)] w fun e w' => e = .returned (.int .i64 (E.length : Int)) ∧ w = w' := by
  obtain ⟨va, vc, rfl⟩ := hE.2.1.shape
  have k0 := hE.c2
  clear hE
  go_enter Tryz.func50, Tryz.ntmps50
  go_wp2_with fail
  go_ret
  exact ⟨rfl, rfl⟩
/-- Is a system of this size made? -/
def newOk (k t : Int) : Prop := 1 ≤ k ∧ k ≤ 4096 ∧ 0 ≤ t ∧ t ≤ 65535
theorem enew_no (k t : Int) (w : World) (h : ¬ newOk k t) :
    Calls Tryz.prog 47 #[.int .i64 k, .int .i64 t] w fun e w' => e = .returned (.tuple #[.pointer none, I64 2]) ∧ Below w.heap.size w w' := by
  unfold newOk at h
  have h4 : k < 1 ∨ (¬ k < 1 ∧ 4096 < k) ∨ (¬ k < 1 ∧ ¬ 4096 < k ∧ t < 0) ∨ (¬ k < 1 ∧ ¬ 4096 < k ∧ ¬ t < 0 ∧ 65535 < t) := by omega
  clear h
  rcases h4 with h1 | ⟨h1, h2⟩ | ⟨h1, h2, h3⟩ | ⟨h1, h2, h3, h4⟩
  all_goals
    go_enter Tryz.func47, Tryz.ntmps47
    go_wp2_with fail
    go_ret2
    exact ⟨rfl, Below.refl _ _⟩
theorem enew_yes (k t : Nat) (w : World) (h : newOk (k : Int) (t : Int)) :
    Calls Tryz.prog 47 #[.int .i64 (k : Int), .int .i64 (t : Int)] w fun e w' => ∃ g, e = .returned (.tuple #[.pointer (some ⟨g, 0, none⟩), I64 0]) ∧ IsE w' w.heap.size g (.slice none 0 0) k t [] ∧ Below w.heap.size w w' := by
  obtain ⟨h1, h2, h3, h4⟩ := h
  have h5 : ¬ (k : Int) < 1 := by omega
  have h6 : ¬ 4096 < (k : Int) := by omega
  have h7 : ¬ (t : Int) < 0 := by omega
  have h8 : ¬ 65535 < (t : Int) := by omega
  clear h1 h2 h3 h4
  go_enter Tryz.func47, Tryz.ntmps47
  go_wp2_with fail
  go_ret2
  exact ⟨_, rfl, ⟨Blk.new _ _ _ _ rfl, OwnE.nil _ _, Nat.le_refl _⟩, (Below.refl _ _).alloc (Nat.le_refl _) _⟩

end Go.Proofs.YtphdadibfeencaaGreat
