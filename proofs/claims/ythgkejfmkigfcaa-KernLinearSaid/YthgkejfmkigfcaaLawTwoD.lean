/-
  The statements of layer 2 (kern), walked: KernLinear.
-/
import Derived.Test.YthgkejfmkigfcaaLawTwoC
import Derived.Test.YthgkejfmkigfcaaLinear
import Derived.Test.YthgkejfmkigfcaaGrowS
set_option maxRecDepth 100000
namespace Go.Proofs.Ythgkejfmkigfcaa
open Go.RowKit

set_option maxHeartbeats 1000000 in
theorem kernLinear_out (c : Nat) (a0 a1 a2 : Option Addr) (n0 n1 n2 c0 c1 c2 : Nat) (ll : List (List Nat)) (w : World) (h : fewB ll = false ∨ (fewB ll = true ∧ (n0 ≠ n2 ∨ (n0 = n2 ∧ (n1 ≠ n2 ∨ (n1 = n2 ∧ n2 = 0)))))) (hR : IsRows w (.slice a2 n2 c2) ll) :
    Calls Try.prog 9 #[U8 c, .slice a0 n0 c0, .slice a1 n1 c1, .slice a2 n2 c2] w fun e w' => e = .returned (.bool true) ∧ Below w.heap.size w w' := by
  have HR := Lib.hid hR
  clear hR
  rcases h with hf | ⟨hf, hr⟩
  · have HF := Lib.hid hf
    clear hf
    go_enter Try.func9, Try.ntmps9
    go_wp2_with fail
    refine (awake2_any _).mono ?_
    rintro e w1 ⟨rfl, hb1⟩
    go_wp2_with fail
    refine (few_any _ ll _ (HR.out.below (Nat.le_refl _) hb1)).mono ?_
    rintro e w2 ⟨rfl, rfl⟩
    rw [HF.out]
    go_wp2_with fail
    go_ret
    exact ⟨rfl, hb1⟩
  · have HF := Lib.hid hf
    clear hf
    rcases hr with hr | ⟨rfl, hr⟩
    · have hb : ((n0 : Int) != (n2 : Int)) = true := by rw [bne_iff_ne]; omega
      clear hr
      go_enter Try.func9, Try.ntmps9
      go_wp2_with fail
      refine (awake2_any _).mono ?_
      rintro e w1 ⟨rfl, hb1⟩
      go_wp2_with fail
      refine (few_any _ ll _ (HR.out.below (Nat.le_refl _) hb1)).mono ?_
      rintro e w2 ⟨rfl, rfl⟩
      rw [HF.out]
      go_wp2_with fail
      go_ret
      exact ⟨rfl, hb1⟩
    · rcases hr with hr | ⟨rfl, rfl⟩
      · have hb : ((n1 : Int) != (n0 : Int)) = true := by rw [bne_iff_ne]; omega
        clear hr
        go_enter Try.func9, Try.ntmps9
        go_wp2_with fail
        refine (awake2_any _).mono ?_
        rintro e w1 ⟨rfl, hb1⟩
        go_wp2_with fail
        refine (few_any _ ll _ (HR.out.below (Nat.le_refl _) hb1)).mono ?_
        rintro e w2 ⟨rfl, rfl⟩
        rw [HF.out]
        go_wp2_with fail
        go_ret
        exact ⟨rfl, hb1⟩
      · go_enter Try.func9, Try.ntmps9
        go_wp2_with fail
        refine (awake2_any _).mono ?_
        rintro e w1 ⟨rfl, hb1⟩
        go_wp2_with fail
        refine (few_any _ ll _ (HR.out.below (Nat.le_refl _) hb1)).mono ?_
        rintro e w2 ⟨rfl, rfl⟩
        rw [HF.out]
        go_wp2_with fail
        go_ret
        exact ⟨rfl, hb1⟩

set_option maxHeartbeats 4000000 in
theorem kernLinear_some (c b0 off0 c0 b1 off1 c1 b off cap : Nat) (x y : List Nat) (ll : List (List Nat)) (w : World) (hc : c < 256) (hf : fewB ll = true) (hn : 1 ≤ ll.length) (hlx : x.length = ll.length) (hly : y.length = ll.length)
    (hx : Bytes w (.slice (some ⟨b0, off0, none⟩) ll.length c0) x) (hy : Bytes w (.slice (some ⟨b1, off1, none⟩) ll.length c1) y) (hR : IsRows w (.slice (some ⟨b, off, none⟩) ll.length cap) ll) :
    Calls Try.prog 9 #[U8 c, .slice (some ⟨b0, off0, none⟩) ll.length c0, .slice (some ⟨b1, off1, none⟩) ll.length c1, .slice (some ⟨b, off, none⟩) ll.length cap] w fun e w' => e = .returned (.bool true) ∧ Below w.heap.size w w' := by
  obtain ⟨hn40, hm⟩ := few_rows hf
  have hbz : ((ll.length : Int) == 0) = false := beq_eq_false_iff_ne.2 (by omega)
  have HF := Lib.hid hf
  have HX := Lib.hid hx
  have HY := Lib.hid hy
  have HR := Lib.hid hR
  have HLX := Lib.hid hlx
  have HLY := Lib.hid hly
  have i0 : (0 : Int) < (ll.length : Int) := by omega
  clear hf hx hy hR hlx hly
  go_enter Try.func9, Try.ntmps9
  go_wp2_with fail
  refine (awake2_any _).mono ?_
  rintro e w1 ⟨rfl, hb1⟩
  have HR1 := Lib.hid (HR.out.below (Nat.le_refl _) hb1)
  have hz1 := hb1.size
  go_wp2_with fail
  refine (few_any _ ll _ HR1.out).mono ?_
  rintro e w2 ⟨rfl, rfl⟩
  rw [HF.out]
  go_wp2_with fail
  go_loopw [9, 11, 53] (fun v _ i wr => ∃ us : List Value, us.length ≤ ll.length ∧ i = .int .i64 (us.length : Int) ∧ (∀ j, j < us.length → (rowAt ll j).length = (rowAt ll 0).length) ∧ Copied wr w1.heap.size v us (rowAt ll) ∧ Below w1.heap.size w1 wr) (fun _ _ i _ => ll.length - (intOf i).toNat)
  case atStart => exact ⟨[], by simp, rfl, fun j hj => by simp at hj, Copied.nil _ _ _, Below.refl _ _⟩
  case round =>
    obtain ⟨us, hk, rfl, hall, hcop, hbel⟩ := hrel
    have HCOP := Lib.hid hcop
    have HALL := Lib.hid hall
    clear hcop hall
    have hz := hbel.size
    by_cases hlt : us.length < ll.length
    · obtain ⟨u0, hu0, hB0⟩ := HR1.out.at hbel 0 (by omega)
      obtain ⟨a0', c0', rfl, _⟩ := hB0
      rw [Nat.add_zero] at hu0
      obtain ⟨u, hu, hB⟩ := HR1.out.at hbel us.length hlt
      have HB := Lib.hid (hB.below (Nat.le_refl _) hbel)
      clear hB
      obtain ⟨ak, ck, rfl, _⟩ := HB.out
      by_cases hq : (rowAt ll us.length).length = (rowAt ll 0).length
      · have hbq : (((rowAt ll us.length).length : Int) != ((rowAt ll 0).length : Int)) = false := by rw [hq]; simp
        have HQ := Lib.hid hq
        have hq2 : (rowAt ll us.length).length ≤ 100 := by omega
        clear hq
        have hbe : Below wr.heap.size wr (wr.alloc (.cells #[] 5)) := (Below.refl _ _).alloc (Nat.le_refl _) _
        have HBE := Lib.hid (HB.out.below (Nat.le_refl _) hbe)
        go_wp2_with (at_builtin; refine wpList_append_bytes rfl (.tmp 65) (.tmp 66) rfl w1.heap.size _ _ [] (rowAt ll us.length) rfl rfl (Owns.empty wr w1.heap.size hz) HBE.out ?c1 ?c2 ?_)
        case c1 => simp; omega
        case c2 => simp; omega
        intro v3 w3 hown3 hgr3
        have hgr : wr.grownBy w3 (some wr.heap.size) := grown_trans (grown_of_below hbe _) hgr3
        have HCOP3 := Lib.hid (HCOP.out.fresh hgr)
        have hbel3 : Below w1.heap.size w1 w3 := hbel.grown hgr hz (fun k e => by cases e; exact hz)
        have hz3 := hbel3.size
        have HO3 := Lib.hid hown3
        obtain ⟨av, nv, cv, rfl⟩ := hown3.shape
        clear hown3 hgr3 hgr hbe
        go_wp2_with (at_builtin; refine wpList_append_row rfl (.tmp 64) (.tmp 68) rfl w1.heap.size w3.heap.size _ (.slice av nv cv) us 22 (by rfl) (by rfl) rfl rfl HCOP3.out.row hz3 ?c1 ?_)
        case c1 => omega
        intro v4 w4 hos4 hgr4
        have HCOP4 := Lib.hid (HCOP3.out.more HO3.out hos4 hgr4)
        have hbel4 : Below w1.heap.size w1 w4 := hbel3.grown hgr4 hz3 HCOP3.out.row.from
        clear hos4 hgr4
        go_wp2_with fail
        refine ⟨⟨us ++ [.slice av nv cv], by simp; omega, by simp, fun j hj => ?_, HCOP4.out, hbel4⟩, by simp [intOf]; omega⟩
        simp at hj
        by_cases h : j = us.length
        · rw [h]; exact HQ.out
        · exact HALL.out j (by omega)
      · have hbq : (((rowAt ll us.length).length : Int) != ((rowAt ll 0).length : Int)) = true := by rw [bne_iff_ne]; omega
        clear hq
        go_wp2_with fail
        go_ret
        exact ⟨rfl, hb1.trans (hbel.mono hz1)⟩
    · have hul : us.length = ll.length := by omega
      have HUL := Lib.hid hul
      have hA : alikeB ll = true := by
        have h := alikeB_eq ll
        rw [show decide (∃ i, i < ll.length ∧ (rowAt ll i).length ≠ (rowAt ll 0).length) = false from by
          rw [decide_eq_false_iff_not]; rintro ⟨i, hi, hne⟩; exact hne (HALL.out i (by omega))] at h
        simpa using h
      have hxl := HX.out.lt
      have hyl := HY.out.lt
      have hxy : x.length = y.length := by rw [HLX.out, HLY.out]
      have h40x : x.length ≤ 40 := by rw [HLX.out]; exact hn40
      have EX := Lib.hid (combE_of HLX.out hA)
      have EY := Lib.hid (combE_of HLY.out hA)
      have EB := Lib.hid (combE_of (cs := Gf.add x y) (ll := ll) (by rw [Gf.add_length _ _ hxy]; exact HLX.out) hA)
      have EC := Lib.hid (combE_of (cs := Gf.scale c x) (ll := ll) (by rw [Gf.scale_length]; exact HLX.out) hA)
      have LB := Lib.hid (linear_add hxl hyl HLX.out HLY.out hA hn)
      have LC := Lib.hid (linear_scale (c := c) hc hxl HLX.out hA hn)
      have S1L := Lib.hid (sum2_L hxy)
      have S1E := Lib.hid (sum2_E hxy)
      have hXY : (combL x ll).length = (combL y ll).length := by rw [combL_of HLX.out hA hn, combL_of HLY.out hA hn, combT_length, combT_length]
      have hXm : (combL x ll).length ≤ 100 := Nat.le_trans (combL_length x ll) hm
      have S2L := Lib.hid (sum2_L hXY)
      have S2E := Lib.hid (sum2_E hXY)
      have HXL := Lib.hid (combL_lt hxl ll)
      clear hA hxl hyl hxy hXY hul
      obtain ⟨w2, hw2⟩ : ∃ w2 : World, w2 = wr := ⟨_, rfl⟩
      subst hw2
      have B2 := hb1.trans (hbel.mono hz1)
      have hz2 := B2.size
      have HX2 := Lib.hid (HX.out.below (Nat.le_refl _) B2)
      have HY2 := Lib.hid (HY.out.below (Nat.le_refl _) B2)
      have HR2 := Lib.hid (HR.out.below (Nat.le_refl _) B2)
      clear hbel hz
      go_wp2_with fail
      refine (comb_b _ _ _ _ _ (by omega) HX2.out HR2.out).mono ?_
      rintro e w3 ⟨v3, rfl, hv3, hb3⟩
      rw [EX.out]
      have B3 := B2.trans (hb3.mono hz2)
      have hz3 := B3.size
      have HX3 := Lib.hid (HX2.out.below (Nat.le_refl _) hb3)
      have HY3 := Lib.hid (HY2.out.below (Nat.le_refl _) hb3)
      have HR3 := Lib.hid (HR2.out.below (Nat.le_refl _) hb3)
      have HC3 := Lib.hid (HCOP.out.below (Nat.le_refl _) hb3)
      have P3 := Lib.hid hv3
      obtain ⟨av3, cv3, rfl, _⟩ := hv3
      clear hb3
      go_wp2_with fail
      refine (comb_b _ _ _ _ _ (by omega) HY3.out HR3.out).mono ?_
      rintro e w4 ⟨v4, rfl, hv4, hb4⟩
      rw [EY.out]
      have B4 := B3.trans (hb4.mono hz3)
      have hz4 := B4.size
      have HX4 := Lib.hid (HX3.out.below (Nat.le_refl _) hb4)
      have HY4 := Lib.hid (HY3.out.below (Nat.le_refl _) hb4)
      have HR4 := Lib.hid (HR3.out.below (Nat.le_refl _) hb4)
      have HC4 := Lib.hid (HC3.out.below (Nat.le_refl _) hb4)
      have P4 := Lib.hid (P3.out.below (Nat.le_refl _) hb4)
      have Q4 := Lib.hid hv4
      obtain ⟨av4, cv4, rfl, _⟩ := hv4
      clear hb4
      go_wp2_with fail
      refine (sum_b _ [x, y] _ (by show x.length ≤ 10000000; omega) (rows_new2 w4 _ _ x y _ _ rfl HX4.out HY4.out)).mono ?_
      rintro e w5 ⟨v5, rfl, hv5, hb5⟩
      rw [S1E.out]
      rw [S1L.out] at hv5
      have hb5' : Below w4.heap.size w4 w5 := ((Below.refl _ _).alloc (Nat.le_refl _) _).trans (hb5.mono (by simp))
      have B5 := B4.trans (hb5'.mono hz4)
      have hz5 := B5.size
      have HX5 := Lib.hid (HX4.out.below (Nat.le_refl _) hb5')
      have HR5 := Lib.hid (HR4.out.below (Nat.le_refl _) hb5')
      have HC5 := Lib.hid (HC4.out.below (Nat.le_refl _) hb5')
      have P5 := Lib.hid (P4.out.below (Nat.le_refl _) hb5')
      have Q5 := Lib.hid (Q4.out.below (Nat.le_refl _) hb5')
      have T5 := Lib.hid hv5
      clear hv5 hb5 hb5'
      go_wp2_with fail
      refine (comb_b _ _ _ _ _ (by omega) T5.out HR5.out).mono ?_
      rintro e w6 ⟨v6, rfl, hv6, hb6⟩
      rw [EB.out]
      rw [LB.out] at hv6
      have B6 := B5.trans (hb6.mono hz5)
      have hz6 := B6.size
      have HX6 := Lib.hid (HX5.out.below (Nat.le_refl _) hb6)
      have HR6 := Lib.hid (HR5.out.below (Nat.le_refl _) hb6)
      have HC6 := Lib.hid (HC5.out.below (Nat.le_refl _) hb6)
      have P6 := Lib.hid (P5.out.below (Nat.le_refl _) hb6)
      have Q6 := Lib.hid (Q5.out.below (Nat.le_refl _) hb6)
      have Z6 := Lib.hid hv6
      clear hv6 hb6
      go_wp2_with fail
      refine (sum_b _ [combL x ll, combL y ll] _ (by show (combL x ll).length ≤ 10000000; omega) (rows_new2 w6 _ _ _ _ _ _ rfl P6.out Q6.out)).mono ?_
      rintro e w7 ⟨v7, rfl, hv7, hb7⟩
      rw [S2E.out]
      rw [S2L.out] at hv7
      have hb7' : Below w6.heap.size w6 w7 := ((Below.refl _ _).alloc (Nat.le_refl _) _).trans (hb7.mono (by simp))
      have B7 := B6.trans (hb7'.mono hz6)
      have hz7 := B7.size
      have HX7 := Lib.hid (HX6.out.below (Nat.le_refl _) hb7')
      have HR7 := Lib.hid (HR6.out.below (Nat.le_refl _) hb7')
      have HC7 := Lib.hid (HC6.out.below (Nat.le_refl _) hb7')
      have P7 := Lib.hid (P6.out.below (Nat.le_refl _) hb7')
      have Z7 := Lib.hid (Z6.out.below (Nat.le_refl _) hb7')
      have U7 := Lib.hid hv7
      clear hv7 hb7 hb7'
      go_wp2_with fail
      refine (scale_b _ _ _ _ hc (by omega) HX7.out).mono ?_
      rintro e w8 ⟨v8, rfl, hv8, hb8⟩
      have B8 := B7.trans (hb8.mono hz7)
      have hz8 := B8.size
      have HR8 := Lib.hid (HR7.out.below (Nat.le_refl _) hb8)
      have HC8 := Lib.hid (HC7.out.below (Nat.le_refl _) hb8)
      have P8 := Lib.hid (P7.out.below (Nat.le_refl _) hb8)
      have Z8 := Lib.hid (Z7.out.below (Nat.le_refl _) hb8)
      have U8' := Lib.hid (U7.out.below (Nat.le_refl _) hb8)
      have W8 := Lib.hid hv8
      clear hv8 hb8
      go_wp2_with fail
      refine (comb_b _ _ _ _ _ (by omega) W8.out HR8.out).mono ?_
      rintro e w9 ⟨v9, rfl, hv9, hb9⟩
      rw [EC.out]
      rw [LC.out] at hv9
      have B9 := B8.trans (hb9.mono hz8)
      have hz9 := B9.size
      have HR9 := Lib.hid (HR8.out.below (Nat.le_refl _) hb9)
      have HC9 := Lib.hid (HC8.out.below (Nat.le_refl _) hb9)
      have P9 := Lib.hid (P8.out.below (Nat.le_refl _) hb9)
      have Z9 := Lib.hid (Z8.out.below (Nat.le_refl _) hb9)
      have U9' := Lib.hid (U8'.out.below (Nat.le_refl _) hb9)
      have W9 := Lib.hid hv9
      clear hv9 hb9
      go_wp2_with fail
      refine (same_yes _ _ _ _ Z9.out U9'.out).mono ?_
      rintro e w10 ⟨rfl, hb10⟩
      have B10 := B9.trans (hb10.mono hz9)
      have hz10 := B10.size
      have HR10 := Lib.hid (HR9.out.below (Nat.le_refl _) hb10)
      have HC10 := Lib.hid (HC9.out.below (Nat.le_refl _) hb10)
      have P10 := Lib.hid (P9.out.below (Nat.le_refl _) hb10)
      have W10 := Lib.hid (W9.out.below (Nat.le_refl _) hb10)
      clear hb10
      go_wp2_with fail
      refine (scale_b _ _ _ _ hc (by omega) P10.out).mono ?_
      rintro e w11 ⟨v11, rfl, hv11, hb11⟩
      have B11 := B10.trans (hb11.mono hz10)
      have hz11 := B11.size
      have HR11 := Lib.hid (HR10.out.below (Nat.le_refl _) hb11)
      have HC11 := Lib.hid (HC10.out.below (Nat.le_refl _) hb11)
      have P11 := Lib.hid (P10.out.below (Nat.le_refl _) hb11)
      have W11 := Lib.hid (W10.out.below (Nat.le_refl _) hb11)
      have V11 := Lib.hid hv11
      clear hb11 hv11
      go_wp2_with fail
      refine (same_yes _ _ _ _ W11.out V11.out).mono ?_
      rintro e w12 ⟨rfl, hb12⟩
      have B12 := B11.trans (hb12.mono hz11)
      have hz12 := B12.size
      have HR12 := Lib.hid (HR11.out.below (Nat.le_refl _) hb12)
      have HC12 := Lib.hid (HC11.out.below (Nat.le_refl _) hb12)
      have P12 := Lib.hid (P11.out.below (Nat.le_refl _) hb12)
      clear hb12
      obtain ⟨g9, c9, rfl, _⟩ := HC12.out.row.cell 0 (by rw [HUL.out]; omega)
      rw [HUL.out]
      go_wp2_with fail
      go_loopw [24, 149] (fun _ i wr => ∃ k : Nat, k ≤ ll.length ∧ i = .int .i64 k ∧ Below w12.heap.size w12 wr) (fun _ i _ => ll.length - (intOf i).toNat)
      case atStart => exact ⟨0, by omega, rfl, Below.refl _ _⟩
      case round =>
        obtain ⟨k, hk, rfl, hbel⟩ := hrel
        have hz := hbel.size
        by_cases hlt : k < ll.length
        · obtain ⟨u, hu, hBu⟩ := HR12.out.at hbel k hlt
          have hk' : k < us.length := by rw [HUL.out]; exact hlt
          obtain ⟨g', c', e', hv⟩ := (HC12.out.row.below (Nat.le_refl _) hbel).cell k hk'
          simp only [Value.slice.injEq, Option.some.injEq, Addr.mk.injEq, and_true, true_and] at e'
          obtain ⟨rfl, rfl⟩ := e'
          have HU := Lib.hid (hBu.below (Nat.le_refl _) hbel.drew)
          have HV := Lib.hid (((HC12.out.each k hk').bytes hBu.lt).below (Nat.le_refl _) hbel.drew)
          have k0 : (0 : Int) ≤ (k : Int) := Int.natCast_nonneg _
          have k1 : (k : Int) < (ll.length : Int) := by omega
          clear hBu hk'
          go_wp2_with fail
          go_region_held3 (fun w' => w'.cell? ⟨b, off + k, none⟩ = some u ∧ w'.cell? ⟨g9, k, none⟩ = some (rowOf us k))
            (first | go_keep | exact ⟨cell_keep hu (by assumption), cell_keep hv (by assumption)⟩)
            (first | (go_at_call 27; refine (same_yes _ _ _ _ HU.out HV.out).mono ?_; rintro e w13 ⟨rfl, hb13'⟩; have hb13 : Below wr.heap.size wr w13 := Below.trans (Below.drew (Below.refl _ _)) hb13'))
          go_wp2_with fail
          exact ⟨⟨k + 1, by omega, by go_num, hbel.trans (hb13.mono hz)⟩, by simp [intOf]; omega⟩
        · obtain rfl : k = ll.length := by omega
          have B13 := B12.trans (hbel.mono hz12)
          have hz13 := B13.size
          have P13 := Lib.hid (P12.out.below (Nat.le_refl _) hbel)
          obtain ⟨w13, hw13⟩ : ∃ w13 : World, w13 = wr := ⟨_, rfl⟩
          subst hw13
          clear hbel hz
          by_cases hc0 : c = 0
          · have HZ := Lib.hid (show zeroE c = 3 by rw [hc0]; rfl)
            clear hc0
            go_wp2_with fail
            refine (inv_any _ _ hc).mono ?_
            rintro e w' ⟨rfl, rfl⟩
            rw [HZ.out]
            go_wp2_with fail
            go_ret
            exact ⟨rfl, B13⟩
          · have HZ := Lib.hid (zeroE_ne hc0)
            have HSB := Lib.hid (scale_back hc hc0 HXL.out)
            have hic := Gf.inv_lt c
            clear hc0
            go_wp2_with fail
            refine (inv_any _ _ hc).mono ?_
            rintro e w' ⟨rfl, rfl⟩
            rw [HZ.out]
            go_wp2_with fail
            refine (scale_b _ _ _ _ hc (by omega) P13.out).mono ?_
            rintro e w14 ⟨v14, rfl, hv14, hb14⟩
            have B14 := B13.trans (hb14.mono hz13)
            have hz14 := B14.size
            have P14 := Lib.hid (P13.out.below (Nat.le_refl _) hb14)
            have V14 := Lib.hid hv14
            clear hb14 hv14
            go_wp2_with fail
            refine (scale_b _ _ _ _ hic (by rw [Gf.scale_length]; omega) V14.out).mono ?_
            rintro e w15 ⟨v15, rfl, hv15, hb15⟩
            rw [HSB.out] at hv15
            have B15 := B14.trans (hb15.mono hz14)
            have hz15 := B15.size
            have P15 := Lib.hid (P14.out.below (Nat.le_refl _) hb15)
            have V15 := Lib.hid hv15
            clear hb15 hv15
            go_wp2_with fail
            refine (same_yes _ _ _ _ V15.out P15.out).mono ?_
            rintro e w16 ⟨rfl, hb16⟩
            have B16 := B15.trans (hb16.mono hz15)
            go_wp2_with fail
            go_ret
            exact ⟨rfl, B16⟩

theorem kernLinear_walk (c : Nat) (v0 : Value) (x : List Nat) (v1 : Value) (y : List Nat) (v2 : Value) (ll : List (List Nat)) (w : World) (hc : c < 256) (hx : Bytes w v0 x) (hy : Bytes w v1 y) (hR : IsRows w v2 ll) :
    Calls Try.prog 9 #[U8 c, v0, v1, v2] w fun e w' => e = .returned (.bool true) ∧ Below w.heap.size w w' := by
  have hx0 := hx
  have hy0 := hy
  have hR0 := hR
  obtain ⟨a0, c0, rfl, _, _, _, g4⟩ := hx
  obtain ⟨a1, c1, rfl, _, _, _, h4⟩ := hy
  obtain ⟨a2, c2, rfl, _, _, r4⟩ := hR
  by_cases hf : fewB ll = true
  · by_cases hlx : x.length = ll.length
    · by_cases hly : y.length = ll.length
      · by_cases hn : 1 ≤ ll.length
        · obtain ⟨b0, off0, rfl, _, _⟩ := g4 (by intro h; rw [h] at hlx; simp at hlx; omega)
          obtain ⟨b1, off1, rfl, _, _⟩ := h4 (by intro h; rw [h] at hly; simp at hly; omega)
          obtain ⟨b, off, rfl, _, _⟩ := r4 (by intro h; rw [h] at hn; simp at hn)
          rw [hlx] at hx0 ⊢
          rw [hly] at hy0 ⊢
          exact kernLinear_some c b0 off0 c0 b1 off1 c1 b off c2 x y ll w hc hf hn hlx hly hx0 hy0 hR0
        · exact kernLinear_out c a0 a1 a2 _ _ _ c0 c1 c2 ll w (Or.inr ⟨hf, Or.inr ⟨hlx, Or.inr ⟨hly, by omega⟩⟩⟩) hR0
      · exact kernLinear_out c a0 a1 a2 _ _ _ c0 c1 c2 ll w (Or.inr ⟨hf, Or.inr ⟨hlx, Or.inl hly⟩⟩) hR0
    · exact kernLinear_out c a0 a1 a2 _ _ _ c0 c1 c2 ll w (Or.inr ⟨hf, Or.inl hlx⟩) hR0
  · exact kernLinear_out c a0 a1 a2 _ _ _ c0 c1 c2 ll w (Or.inl (by simpa using hf)) hR0

end Go.Proofs.Ythgkejfmkigfcaa
