/-
  The program's numbers (layer 6): 'Add', 'Mul', 'Pow'.
-/
import Derived.Test.YtobhlfkmdhoncaaNatH
set_option maxRecDepth 100000
namespace Go.Proofs.Ytobhlfkmdhoncaa
open Go.RowKit

set_option maxHeartbeats 400000 in
theorem natadd_any (v : Value) (ns : List Nat) (w : World) (hns : ∀ i, i < ns.length → ¬ Great (nth ns i)) (hV : IsNats w v ns) :
    Calls Try.prog 36 #[v] w (NatE w (foldN (foldG (· + ·) 0 ns)) (foldE (foldG (· + ·) 0 ns))) := by
  have HV := Lib.hid hV
  have HNS := Lib.hid hns
  obtain ⟨a, cap, rfl, _⟩ := hV
  have HC := Lib.hid (fun W h => foldplus_any (.agg #[.slice none 0 0]) (.slice a ns.length cap) 0 ns W (not_great_small (by decide)) HNS.out (nat_zero W) h)
  clear hns
  generalize foldG (· + ·) 0 ns = r at *
  go_enter Try.func36, Try.ntmps36
  go_upto_region 1 with fail
  obtain ⟨B, hk1, hs⟩ := blocks1 w #[.slice none 0 0] 47
  generalize (w.alloc (.cells #[.slice none 0 0] 47)) = W at *
  have K1 := Lib.hid hk1
  have HS := Lib.hid hs
  clear hs hk1
  replace HV := Lib.hid (HV.out.go B)
  have hzW := B.size
  go_wp2_with fail
  refine (HC.out W HV.out).mono ?_
  rintro e w2 ⟨u2, rfl, hu, hb⟩
  obtain ⟨a2, c2, rfl, hv, _⟩ := hu.shape
  have k3 := K1.out.go hb
  have hf0 := k3.free 0
  have h0 : w2.cell? ⟨w.heap.size, 0, none⟩ = some (.slice none 0 0) := k3.cell 0
  have HS2 := Lib.hid (nat_store k3 hv)
  have HB2 := Lib.hid (B.trans (hb.mono B.size))
  clear hv hu k3 hb
  generalize foldN r = n at *
  generalize foldE r = er at *
  generalize (Wt.dg n).length = M at *
  go_wp2_with fail
  exact bodyPost_ret (v := .tuple #[.agg #[.slice a2 M c2], I64 er]) (by simp [results, Try.results36, go_sem, HS2.out.1]) rfl ⟨_, rfl, ⟨_, rfl, HS2.out.2⟩, HB2.out.setCell (Nat.le_refl _) _⟩

set_option maxHeartbeats 400000 in
theorem natmul_any (v : Value) (ns : List Nat) (w : World) (hns : ∀ i, i < ns.length → ¬ Great (nth ns i)) (hV : IsNats w v ns) :
    Calls Try.prog 37 #[v] w (NatE w (foldN (foldG (· * ·) 1 ns)) (foldE (foldG (· * ·) 1 ns))) := by
  have HV := Lib.hid hV
  have HNS := Lib.hid hns
  obtain ⟨a, cap, rfl, _⟩ := hV
  have HC := Lib.hid (fun u W h1 h => foldtimes_any u (.slice a ns.length cap) 1 ns W (not_great_small (by decide)) HNS.out h1 h)
  clear hns
  generalize foldG (· * ·) 1 ns = r at *
  go_enter Try.func37, Try.ntmps37
  go_upto_region 1 with fail
  obtain ⟨B, hk1, hs⟩ := blocks1 w #[.slice none 0 0] 47
  generalize (w.alloc (.cells #[.slice none 0 0] 47)) = W at *
  have K1 := Lib.hid hk1
  have HS := Lib.hid hs
  clear hs hk1
  replace HV := Lib.hid (HV.out.go B)
  have hzW := B.size
  go_wp2_with fail
  refine (natof_any 1 W (by decide)).mono ?_
  rintro e w1 ⟨u1, rfl, hu, hb⟩
  have HU := Lib.hid hu
  obtain ⟨a1, c1, rfl, _⟩ := hu.shape
  replace HV := Lib.hid (HV.out.go hb)
  replace K1 := Lib.hid (K1.out.go hb)
  replace B := B.trans (hb.mono B.size)
  clear hu hb
  generalize (Wt.dg 1).length = l1 at *
  go_wp2_with fail
  refine (HC.out _ w1 HU.out HV.out).mono ?_
  rintro e w2 ⟨u2, rfl, hu, hb⟩
  obtain ⟨a2, c2, rfl, hv, _⟩ := hu.shape
  have k3 := K1.out.go hb
  have hf0 := k3.free 0
  have h0 : w2.cell? ⟨w.heap.size, 0, none⟩ = some (.slice none 0 0) := k3.cell 0
  have HS2 := Lib.hid (nat_store k3 hv)
  have HB2 := Lib.hid (B.trans (hb.mono B.size))
  clear hv hu k3 hb
  generalize foldN r = n at *
  generalize foldE r = er at *
  generalize (Wt.dg n).length = M at *
  go_wp2_with fail
  exact bodyPost_ret (v := .tuple #[.agg #[.slice a2 M c2], I64 er]) (by simp [results, Try.results37, go_sem, HS2.out.1]) rfl ⟨_, rfl, ⟨_, rfl, HS2.out.2⟩, HB2.out.setCell (Nat.le_refl _) _⟩

end Go.Proofs.Ytobhlfkmdhoncaa
