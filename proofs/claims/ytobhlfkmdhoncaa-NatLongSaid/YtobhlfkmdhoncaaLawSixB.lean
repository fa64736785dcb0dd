/-
  The laws of numbers (layer 6), walked: the example, NatTells.
-/
import Derived.Test.YtobhlfkmdhoncaaLawSix
set_option maxRecDepth 100000
namespace Go.Proofs.Ytobhlfkmdhoncaa
open Go.RowKit

theorem txt_fe01 : Nt.txt 65025 = [102, 101, 48, 49] := by
  rw [← Nt.strip_full (n := 65025) (k := 4) (by decide) (Nt.digits_le (by decide) (by decide))]
  decide
theorem txt_ff : Nt.txt 255 = [102, 102] := by
  rw [← Nt.strip_full (n := 255) (k := 2) (by decide) (Nt.digits_le (by decide) (by decide))]
  decide
theorem str_fe01 : ((strOf (Nt.txt 65025)).toList == [102, 101, 48, 49]) = true := by rw [txt_fe01]; decide +kernel
theorem str_ff : ((strOf (Nt.txt 255)).toList == [102, 102]) = true := by rw [txt_ff]; decide +kernel

set_option maxHeartbeats 400000 in
theorem awake6_any (w : World) :
    Calls Try.prog 23 #[] w fun e w' => e = .returned (.bool true) ∧ Below w.heap.size w w' := by
  have B : Below w.heap.size w w := Below.refl _ _
  have HG255 := Lib.hid (not_great_small (n := 255) (by decide))
  have HGM := Lib.hid (not_great_small (n := 255 * 255) (by decide))
  go_enter Try.func23, Try.ntmps23
  go_wp2_with fail
  refine (natof_any 255 _ (by decide)).mono ?_
  rintro e w1 ⟨u1, rfl, hu, hb⟩
  have HU1 := Lib.hid hu
  replace B := B.trans (hb.mono B.size)
  obtain ⟨a1, c1, rfl, _⟩ := hu.shape
  clear hb hu
  generalize (Wt.dg 255).length = l1 at *
  go_wp2_with fail
  refine (natof_any 255 _ (by decide)).mono ?_
  rintro e w2 ⟨u2, rfl, hu, hb⟩
  have HU2 := Lib.hid hu
  replace HU1 := Lib.hid (HU1.out.go hb)
  replace B := B.trans (hb.mono B.size)
  obtain ⟨a2, c2, rfl, _⟩ := hu.shape
  clear hb hu
  generalize (Wt.dg 255).length = l2 at *
  go_wp2_with fail
  have hbs := (blocks1 w2 #[.slice a1 l1 c1, .slice a2 l2 c2] 47).1
  have HNS := Lib.hid (isNats2 47 HU1.out HU2.out)
  replace B := B.trans (hbs.mono B.size)
  refine (mul_two _ 255 255 _ HG255.out HG255.out HGM.out HNS.out).mono ?_
  rintro e w3 ⟨u3, rfl, hu, hb⟩
  have HU3 := Lib.hid hu
  replace B := B.trans (hb.mono B.size)
  obtain ⟨a3, c3, rfl, _⟩ := hu.shape
  clear hb hu hbs
  generalize (Wt.dg (255 * 255)).length = l3 at *
  go_upto_region 2 with fail
  obtain ⟨hb, hk, hs⟩ := blocks1 w3 #[.slice a3 l3 c3] 47
  generalize w3.alloc (.cells #[.slice a3 l3 c3] 47) = W4 at *
  have K4 := Lib.hid hk
  replace HU3 := Lib.hid (HU3.out.go hb)
  replace B := B.trans (hb.mono B.size)
  have hzW4 := B.size
  clear hb hk hs
  have h4 : W4.cell? ⟨w3.heap.size, 0, none⟩ = some (.slice a3 l3 c3) := K4.out.cell 0
  have hst := str_fe01
  go_wp2_with fail
  refine (nattext_any _ 65025 W4 (words_small HGM.out) HU3.out).mono ?_
  rintro e w5 ⟨rfl, hb⟩
  replace B := B.trans (hb.mono B.size)
  clear hb h4
  generalize strOf (Nt.txt 65025) = S at *
  go_wp2_with fail
  refine (natof_any 255 _ (by decide)).mono ?_
  rintro e w6 ⟨u6, rfl, hu, hb⟩
  have HU6 := Lib.hid hu
  replace B := B.trans (hb.mono B.size)
  obtain ⟨a6, c6, rfl, _⟩ := hu.shape
  clear hb hu
  generalize (Wt.dg 255).length = l6 at *
  have hst2 := str_ff
  go_wp2_with fail
  refine (nattext_any _ 255 w6 (words_small HG255.out) HU6.out).mono ?_
  rintro e w7 ⟨rfl, hb⟩
  replace B := B.trans (hb.mono B.size)
  clear hb
  generalize strOf (Nt.txt 255) = S2 at *
  go_wp2_with fail
  go_ret
  exact ⟨rfl, B⟩

end Go.Proofs.Ytobhlfkmdhoncaa
