/-
  Many bytes at once (layer 2) in the program: 'Comb'.
-/
import Derived.Test.YthgkejfmkigfcaaKernC
set_option maxRecDepth 100000
namespace Go.Proofs.Ythgkejfmkigfcaa
open Go.RowKit

set_option maxHeartbeats 400000 in
theorem comb_many (a0 a1 : Option Addr) (n0 n1 c0 c1 : Nat) (w : World) (hne : n0 ≠ n1) :
    Calls Try.prog 24 #[.slice a0 n0 c0, .slice a1 n1 c1] w (RowE w [] 4) := by
  have hb : ((n0 : Int) != (n1 : Int)) = true := by rw [bne_iff_ne]; omega
  clear hne
  go_enter Try.func24, Try.ntmps24
  go_wp2_with fail
  go_ret2
  exact ⟨_, rfl, Or.inl ⟨rfl, rfl⟩, Below.refl _ _⟩

set_option maxHeartbeats 400000 in
theorem comb_unlike (a0 a1 : Option Addr) (n c0 c1 : Nat) (ll : List (List Nat)) (w : World) (hl : n = ll.length) (hR : IsRows w (.slice a1 ll.length c1) ll) (hA : alikeB ll = false) :
    Calls Try.prog 24 #[.slice a0 n c0, .slice a1 ll.length c1] w (RowE w [] 4) := by
  have hb : ((n : Int) != (ll.length : Int)) = false := by rw [hl]; simp
  have H := Lib.hid (alike_any _ ll w hR)
  have HA := Lib.hid hA
  clear hR hA hl
  go_enter Try.func24, Try.ntmps24
  go_wp2_with fail
  refine H.out.mono ?_
  rintro e w1 ⟨rfl, hb1⟩
  rw [HA.out]
  go_wp2_with fail
  go_ret2
  exact ⟨_, rfl, Or.inl ⟨rfl, rfl⟩, hb1⟩

set_option maxHeartbeats 400000 in
theorem comb_empty (a0 a1 : Option Addr) (c0 c1 : Nat) (w : World) :
    Calls Try.prog 24 #[.slice a0 0 c0, .slice a1 0 c1] w (RowE w [] 0) := by
  go_enter Try.func24, Try.ntmps24
  go_wp2_with fail
  refine (alike_empty a1 c1 w).mono ?_
  rintro e w1 ⟨rfl, hb1⟩
  go_wp2_with fail
  refine (blank_empty a1 c1 _).mono ?_
  rintro e w2 ⟨rfl, rfl⟩
  go_wp2_with fail
  refine wp_loop_rounds 1 ?_
  rw [rounds_succ]
  go_wp2_with fail
  go_ret2
  exact ⟨_, rfl, Or.inl ⟨rfl, rfl⟩, hb1⟩

set_option maxHeartbeats 400000 in
theorem comb_some (b0 off0 c0 b off cap : Nat) (cs : List Nat) (ll : List (List Nat)) (w : World) (hl : cs.length = ll.length) (hn : 1 ≤ ll.length) (hm : (rowAt ll 0).length ≤ 281474976710656) (hC : Bytes w (.slice (some ⟨b0, off0, none⟩) cs.length c0) cs) (hR : IsRows w (.slice (some ⟨b, off, none⟩) ll.length cap) ll) (hA : alikeB ll = true) :
    Calls Try.prog 24 #[.slice (some ⟨b0, off0, none⟩) cs.length c0, .slice (some ⟨b, off, none⟩) ll.length cap] w (RowE w (combK cs ll ll.length) 0) := by
  have hb : ((cs.length : Int) != (ll.length : Int)) = false := by rw [hl]; simp
  have hcap : ll.length ≤ 9223372036854775807 := by obtain ⟨_, _, _, h1, h2, _⟩ := hR; omega
  have hcl : ll.length ≤ cs.length := by omega
  have HR := Lib.hid hR
  have HC := Lib.hid hC
  have HA := Lib.hid hA
  clear hR hA hC hl
  go_enter Try.func24, Try.ntmps24
  go_wp2_with fail
  refine (alike_any _ ll w HR.out).mono ?_
  rintro e w1 ⟨rfl, hb1⟩
  rw [HA.out]
  have HR1 := Lib.hid (HR.out.below (Nat.le_refl _) hb1)
  have HC1 := Lib.hid (HC.out.below (Nat.le_refl _) hb1)
  obtain ⟨u0, hu0, hB0⟩ := HR1.out.cell 0 (by omega)
  obtain ⟨a0, c0', rfl, _⟩ := hB0
  rw [Nat.add_zero] at hu0
  go_wp2_with fail
  refine (blank_some b off _ _ c0' cap a0 _ hn hcap hm hu0).mono ?_
  rintro e w2 ⟨rfl, hO2, hb2⟩
  have HO2 := Lib.hid hO2
  clear hO2 hu0
  go_wp2_with fail
  go_loopw [7, 8, 23] (fun _ _ i wr => ∃ k : Nat, k ≤ ll.length ∧ i = .int .i64 k ∧ Own wr w1.heap.size (combK cs ll k) ∧ Below w1.heap.size w1 wr) (fun _ _ i _ => ll.length - (intOf i).toNat)
  case atStart => exact ⟨0, by omega, rfl, HO2.out, hb2⟩
  case round =>
    obtain ⟨k, hk, rfl, hown, hbel⟩ := hrel
    have HO := Lib.hid hown
    clear hown
    have HL := Lib.hid (combK_length (cs := cs) HA.out k hk)
    have HCLT := Lib.hid HC1.out.lt
    by_cases hlt : k < ll.length
    · obtain ⟨u, hu, hB⟩ := HR1.out.at hbel k hlt
      have HB := Lib.hid (hB.below (Nat.le_refl _) hbel)
      have hcr := (HC1.out.below (Nat.le_refl _) hbel).cell k (by omega)
      have x1 := nth_lt HCLT.out k
      have HK := Lib.hid (alike_at HA.out hlt)
      have hgs : w1.heap.size < wr.heap.size := HO.out.lt
      clear hB
      go_wp2_with fail
      refine (scale_any _ _ _ _ x1 (by rw [HK.out]; exact hm) HB.out).mono ?_
      rintro e w3 ⟨g, rfl, hg, hOg, hb3⟩
      have HOg := Lib.hid (hOg.bytes (Gf.scale_lt x1 _) (by rw [Gf.scale_length, HK.out]; omega))
      have HO3 := Lib.hid (HO.out.below hgs hb3)
      clear hOg
      go_wp2_with fail
      refine (addTo_any _ _ _ _ _ _ HL.out (combK_lt HCLT.out k hk) (by omega) HO3.out (fun _ => by simp [Value.ownBlock]; omega) HOg.out (by rw [Gf.scale_length, HK.out])).mono ?_
      rintro e w4 ⟨rfl, hO4, hgr⟩
      have HO4 := Lib.hid hO4
      clear hO4
      go_wp2_with fail
      go_roundw
      case rel => exact ⟨k + 1, by omega, by go_num, HO4.out, below_grown (hbel.trans (hb3.mono (by omega))) hgr (by have := hb3.size; omega) (Nat.le_refl _)⟩
      case measure => simp [intOf]; omega
    · obtain rfl : k = ll.length := by omega
      go_wp2_with fail
      go_ret2
      exact ⟨_, rfl, Or.inr ⟨w1.heap.size, by rw [HL.out]; rfl, hb1.size, HO.out⟩, hb1.trans (hbel.mono hb1.size)⟩

/-- What Comb answers. -/
def combL (cs : List Nat) (ll : List (List Nat)) : List Nat := if cs.length = ll.length ∧ alikeB ll = true ∧ ll ≠ [] then combK cs ll ll.length else []
def combE (cs : List Nat) (ll : List (List Nat)) : Int := if cs.length = ll.length ∧ alikeB ll = true then 0 else 4

theorem comb_any (v0 v : Value) (cs : List Nat) (ll : List (List Nat)) (w : World) (hm : (rowAt ll 0).length ≤ 281474976710656) (hC : Bytes w v0 cs) (hR : IsRows w v ll) :
    Calls Try.prog 24 #[v0, v] w (RowE w (combL cs ll) (combE cs ll)) := by
  have hC0 := hC
  have hR0 := hR
  obtain ⟨a0, c0, rfl, _, _, _, g4⟩ := hC
  obtain ⟨a, cap, rfl, h1, h2, h4⟩ := hR
  unfold combL combE
  by_cases hl : cs.length = ll.length
  · by_cases hA : alikeB ll = true
    · cases ll with
      | nil =>
        rw [if_neg (by simp), if_pos ⟨hl, hA⟩]
        have e : cs.length = 0 := hl
        rw [e]
        exact comb_empty a0 a c0 cap w
      | cons x ll =>
        obtain ⟨b, off, rfl, _, _⟩ := h4 (by simp)
        obtain ⟨b0, off0, rfl, _, _⟩ := g4 (by intro h; rw [h] at hl; simp at hl)
        rw [if_pos ⟨hl, hA, by simp⟩, if_pos ⟨hl, hA⟩]
        exact comb_some b0 off0 c0 b off cap cs _ w hl (by simp) hm hC0 hR0 hA
    · rw [if_neg (by simp [hA]), if_neg (by simp [hA])]
      exact comb_unlike a0 a _ c0 cap ll w hl hR0 (by simpa using hA)
  · rw [if_neg (by simp [hl]), if_neg (by simp [hl])]
    exact comb_many a0 a _ _ c0 cap w hl

end Go.Proofs.Ythgkejfmkigfcaa
