/-
  The program's numbers (layer 6): 'Text', 'isText'.
-/
import Derived.Test.YtobhlfkmdhoncaaTextMath
import Derived.Test.YtobhlfkmdhoncaaNatC
set_option maxRecDepth 100000
namespace Go.Proofs.Ytobhlfkmdhoncaa
open Go.RowKit

/-- What stands in the text behind i digits. -/
def textPart (n L i : Nat) : List Nat := List.replicate (L - i) 0 ++ Nt.fullT n i
theorem textPart_length {n L i : Nat} (h : i ≤ L) : (textPart n L i).length = L := by unfold textPart; simp [Nt.fullT_length]; omega
theorem textPart_succ {n L i : Nat} (h : i < L) : (textPart n L i).set (L - 1 - i) (Nt.chr (n / 16 ^ i % 16)) = textPart n L (i + 1) := by
  unfold textPart
  rw [show L - i = (L - 1 - i) + 1 from by omega, List.replicate_succ', List.append_assoc, List.set_append_right _ _ (by simp), List.length_replicate, Nat.sub_self,
    show L - (i + 1) = L - 1 - i from by omega]
  rfl
theorem digits_small (n : Nat) : Nt.digits n ≤ 16 * (Wt.dg n).length + 1 := by
  refine Nt.digits_le ?_ (by omega)
  have h := Wt.val_lt (Wt.dg_lt n)
  rw [Wt.val_dg] at h
  refine Nat.lt_of_lt_of_le h ?_
  rw [show (18446744073709551616 : Nat) = 16 ^ 16 from by decide, ← Nat.pow_mul]
  exact Nat.pow_le_pow_right (by decide) (by omega)

theorem fig_at : ∀ d : Fin 16, ((⟨#[48, 49, 50, 51, 52, 53, 54, 55, 56, 57, 97, 98, 99, 100, 101, 102]⟩ : ByteArray)[d.val]'d.isLt).toNat = Nt.chr d.val := by decide +kernel
theorem fig_index (d : Nat) (hd : d < 16) (w : World) : (Instr.index 9 figures (U64 d)).run Try.prog w = .ok (U8 (Nt.chr d)) w := by
  have h0 : (0 : Int) ≤ (d : Int) := Int.natCast_nonneg _
  have h1 : (d : Int) < 16 := by omega
  have hs : (⟨#[48, 49, 50, 51, 52, 53, 54, 55, 56, 57, 97, 98, 99, 100, 101, 102]⟩ : ByteArray).size = 16 := rfl
  have H := Lib.hid (fig_at ⟨d, hd⟩)
  go_simp
  exact congrArg (fun k : Nat => (k : Int)) H.out

set_option maxHeartbeats 2000000 in
theorem nattext_any (u : Value) (n : Nat) (w : World) (hm : (Wt.dg n).length ≤ 100000) (hU : IsNat w u n) :
    Calls Try.prog 28 #[u] w fun e w' => e = .returned (.string (strOf (Nt.txt n))) ∧ Below w.heap.size w w' := by
  have HU := Lib.hid hU
  obtain ⟨pa, ca, rfl, _⟩ := hU.shape
  have hds := digits_small n
  obtain ⟨L, hL⟩ : ∃ L, L = Nt.digits n := ⟨_, rfl⟩
  have HLI := Lib.hid (show max (1 : Int) (partsN n 4 : Int) = (L : Int) by rw [hL]; unfold Nt.digits; omega)
  have hL1 : L ≤ 1600001 := by omega
  have HTX := Lib.hid (show Nt.fullT n L = Nt.txt n by rw [hL]; rfl)
  have HPT := Lib.hid (fun W h => parts_any (.agg #[.slice pa (Wt.dg n).length ca]) n 4 W (.inl rfl) hm h)
  clear hU hm hds hL
  generalize (Wt.dg n).length = ml at *
  have hmk := fun w => make_bytes L (by omega) w
  go_enter Try.func28, Try.ntmps28
  go_upto_region 1 with fail
  obtain ⟨B, hk1, hs⟩ := blocks1 w #[.slice pa ml ca] 47
  generalize (w.alloc (.cells #[.slice pa ml ca] 47)) = W at *
  have K1 := Lib.hid hk1
  have HS := Lib.hid hs
  clear hs hk1
  replace HU := Lib.hid (HU.out.go B)
  have hzW := B.size
  have k10 : W.cell? ⟨w.heap.size, 0, none⟩ = some (.slice pa ml ca) := K1.out.cell 0
  go_wp2_with fail
  refine (HPT.out W HU.out).mono ?_
  rintro e w1 ⟨rfl, hb⟩
  replace HU := Lib.hid (HU.out.go hb)
  replace K1 := Lib.hid (K1.out.go hb)
  replace B := B.trans (hb.mono B.size)
  have hli := HLI.out
  clear hb k10
  go_upto_region 2 with fail
  obtain ⟨g, hg⟩ : ∃ g, g = w1.heap.size := ⟨_, rfl⟩
  have HO0 := Lib.hid (show Own (w1.alloc (bytesObj (List.replicate L 0))) g (textPart n L 0) by
    rw [hg]
    have : textPart n L 0 = List.replicate L 0 := by unfold textPart; simp [Nt.fullT]
    rw [this]; exact Own.new w1 _)
  have HG := Lib.hid hg
  have HB0 := Lib.hid ((Below.refl w1.heap.size w1).alloc (Nat.le_refl _) (bytesObj (List.replicate L 0)))
  rw [← hg]
  clear hg hmk hli
  generalize w1.alloc (bytesObj (List.replicate L 0)) = W1 at *
  go_wp2_with fail
  go_loopw [4, 11] (fun _ i wr => ∃ k : Nat, k ≤ L ∧ i = .int .i64 k ∧ Own wr g (textPart n L k) ∧ Below w1.heap.size w1 wr) (fun _ i _ => L - (intOf i).toNat)
  case atStart => exact ⟨0, by omega, rfl, HO0.out, HB0.out⟩
  case round =>
    obtain ⟨k, hk, rfl, hown, hbel⟩ := hrel
    have HO := Lib.hid hown
    have hz := hbel.size
    clear hown
    by_cases hlt : k < L
    · have k1 : wr.cell? ⟨w.heap.size, 0, none⟩ = some (.slice pa ml ca) := (K1.out.go hbel).cell 0
      have HUr := Lib.hid (HU.out.go hbel)
      have HD := Lib.hid (Nat.mod_lt (n / 16 ^ k) (show 0 < 16 by decide))
      have HKL := Lib.hid hlt
      have HTS := Lib.hid (textPart_succ (n := n) hlt)
      have HTL := Lib.hid (textPart_length (n := n) hk)
      obtain ⟨j, hj⟩ : ∃ j, j = L - 1 - k := ⟨_, rfl⟩
      have hjI : (L : Int) - 1 - (k : Int) = (j : Int) := by omega
      have hjL : j < L := by omega
      rw [← hj] at HTS
      clear hj
      obtain ⟨wo, hwo⟩ : ∃ wo : World, wo = wr := ⟨_, rfl⟩
      subst hwo
      go_wp2_with fail
      refine (natdigit_any _ n k wo (by omega) HUr.out).mono ?_
      rintro e w2 ⟨rfl, hb⟩
      have HO2 := Lib.hid (HO.out.go hb)
      have hb2 := hbel.trans (hb.mono hz)
      have hfg := fig_index (n / 16 ^ k % 16) HD.out
      have hd16 := HD.out
      generalize n / 16 ^ k % 16 = d at *
      have hcell := HO2.out.cell j (by rw [HTL.out]; exact hjL)
      have hfree := HO2.out.free j
      clear hb hbel k1
      go_wp2_with fail
      have h9 := HKL.out
      refine ⟨⟨k + 1, h9, by go_num, ?_, hb2.setCell (by rw [HG.out]; exact Nat.le_refl _) _⟩, by simp [intOf]; omega⟩
      rw [← HTS.out]
      exact HO2.out.set j _
    · obtain rfl : k = L := by omega
      have HOE := Lib.hid (show Own wr g (Nt.txt n) by have h := HO.out; unfold textPart at h; rw [Nat.sub_self, HTX.out] at h; exact h)
      have HBY := Lib.hid (show Bytes wr (whole g k) (Nt.txt n) by
        have h := HOE.out.bytes (Nt.txt_lt n) (by rw [← HTX.out, Nt.fullT_length]; omega)
        rw [← HTX.out, Nt.fullT_length] at h
        rw [← HTX.out]; exact h)
      have hcv := convert_bytes HBY.out
      have hbw := B.trans (hbel.mono B.size)
      go_wp2_with fail
      go_ret
      exact ⟨rfl, hbw⟩

end Go.Proofs.Ytobhlfkmdhoncaa
