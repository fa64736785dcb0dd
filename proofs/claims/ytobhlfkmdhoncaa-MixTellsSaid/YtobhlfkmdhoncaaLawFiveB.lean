/-
  The laws of bytes out of a seed (layer 5): unlike seeds tell unlike numbers.
-/
import Derived.Test.YtobhlfkmdhoncaaLawFive
set_option maxRecDepth 100000
namespace Go.Proofs.Ytobhlfkmdhoncaa
open Go.RowKit

theorem part_of {s m i : Nat} (h : i < m) : ((Mx.bytesL s (8 * m)).drop (8 * i)).take 8 = Mx.bytesL (Mx.st s i) 8 := by
  apply List.ext_getElem
  · simp [Mx.bytesL_length]; omega
  · intro j h1 h2
    rw [Mx.bytesL_length] at h2
    simp only [List.getElem_take, List.getElem_drop, Mx.bytesL, List.getElem_map, List.getElem_range]
    exact Mx.gen_shift s i j

/-- A stretch of bytes, as a slice of its own. -/
theorem Bytes.part {w : World} {g n c d : Nat} {l : List Nat} (h : Bytes w (.slice (some ⟨g, 0, none⟩) n c) l) (lo m : Nat) (hm : lo + m ≤ l.length) (hd : m ≤ d) (hd2 : d ≤ 9223372036854775807) : Bytes w (.slice (some ⟨g, lo, none⟩) m d) ((l.drop lo).take m) := by
  have hlen : ((l.drop lo).take m).length = m := by simp; omega
  refine ⟨_, d, by rw [hlen], by rw [hlen]; exact hd, hd2, fun x hx => h.lt x (List.mem_of_mem_drop (List.mem_of_mem_take hx)), fun hne => ⟨g, lo, rfl, ?_, fun i hi => ?_⟩⟩
  · obtain ⟨a, cap, e, _, _, _, h4⟩ := h
    obtain ⟨b, off, rfl, hlt, _⟩ := h4 (by intro e; rw [e] at hne; simp at hne)
    simp only [Value.slice.injEq, Option.some.injEq, Addr.mk.injEq] at e
    rw [e.1.1]; exact hlt
  · rw [hlen] at hi
    have h1 := h.cell (lo + i) (by omega)
    rw [Nat.zero_add] at h1
    rw [h1, nth_eq _ _ (by omega), nth_eq _ _ (by rw [hlen]; exact hi)]
    simp

set_option maxHeartbeats 2000000 in
theorem mixapart_any (a b n : Nat) (w : World) (ha : a < 18446744073709551616) (hb : b < 18446744073709551616) (hn : n < 256) :
    Calls Try.prog 5 #[U64 a, U64 b, U8 n] w (Yea w) := by
  have B : Below w.heap.size w w := Below.refl _ _
  have HINJ := Lib.hid (show ((Mx.mixed (Mx.step a) : Int) == (Mx.mixed (Mx.step b) : Int)) = ((a : Int) == (b : Int)) by
    by_cases h : a = b
    · subst h; simp
    · rw [show ((a : Int) == (b : Int)) = false from beq_eq_false_iff_ne.2 (fun e => h (Int.ofNat.inj e)), beq_eq_false_iff_ne]
      exact fun e => h (Mx.told_inj ha hb (Int.ofNat.inj e)))
  go_enter Try.func5, Try.ntmps5
  go_wp2_with fail
  refine (awake5_any _).mono ?_
  rintro e w1 ⟨rfl, hb⟩
  replace B := B.trans (hb.mono B.size)
  have hzw1 := B.size
  clear hb
  go_wp2_with fail
  refine (mixmake_any a _).mono ?_
  rintro e w2 ⟨⟨rfl, hk⟩, hb⟩
  replace B := B.trans (hb.mono B.size)
  have hzw2 := B.size
  clear hb
  have K1 := Lib.hid hk
  clear hk
  obtain ⟨g1, hg1⟩ : ∃ g1, g1 = w1.heap.size := ⟨_, rfl⟩
  rw [← hg1] at K1 ⊢
  have hg1w : w.heap.size ≤ g1 := by omega
  clear hg1
  go_wp2_with fail
  have hg1l := K1.out.lt
  refine (mixmake_any a _).mono ?_
  rintro e w3 ⟨⟨rfl, hk⟩, hb⟩
  replace K1 := Lib.hid (K1.out.go hb)
  replace B := B.trans (hb.mono B.size)
  have hzw3 := B.size
  clear hb
  have K2 := Lib.hid hk
  clear hk
  obtain ⟨g2, hg2⟩ : ∃ g2, g2 = w2.heap.size := ⟨_, rfl⟩
  rw [← hg2] at K2 hg1l ⊢
  have hg2w : w.heap.size ≤ g2 := by omega
  have hg12 : g1 ≠ g2 := by omega
  clear hg2 hg1l
  obtain ⟨k, hk⟩ : ∃ k : Nat, k = n % 60 := ⟨_, rfl⟩
  have hkI : ((n : Int) % 60) = (k : Int) := by omega
  have hk60 : k < 60 := by omega
  obtain ⟨m, hm⟩ : ∃ m : Nat, m = 8 * k := ⟨_, rfl⟩
  have hmI : 8 * (k : Int) = (m : Int) := by omega
  have HKI := Lib.hid hkI
  have HMI := Lib.hid hmI
  have HM := Lib.hid hm
  have hm65 : m ≤ 65536 := by omega
  clear hk hkI hmI hm
  go_wp2_with fail
  rw [HKI.out, HMI.out]
  have hg2l := K2.out.lt
  refine (mixbytes_ok g2 a m w3 K2.out hm65).mono ?_
  rintro e w4 ⟨rfl, h1, h2, h3⟩
  have hb4 : Below w.heap.size w w4 := below_grown B h3 B.size hg2w
  replace K1 := Lib.hid (K1.out.grown h3 (by simp [hg12]))
  have HA := Lib.hid (h1.bytes (Mx.bytesL_lt a m) (by rw [Mx.bytesL_length]; omega))
  rw [Mx.bytesL_length] at HA
  replace K2 := Lib.hid (show Blk w4 g2 #[U64 (Mx.st a k)] 69 by rw [show k = (m + 7) / 8 by have := HM.out; omega]; exact h2)
  obtain ⟨ga, hga⟩ : ∃ ga, ga = w3.heap.size := ⟨_, rfl⟩
  rw [← hga] at HA ⊢
  clear h1 h2 h3 B hga hg2l
  have HL := Lib.hid (Mx.bytesL_length a m)
  go_wp2_with fail
  go_loopw [12, 13, 14, 32] (fun _ _ _ i wr => ∃ j : Nat, j ≤ k ∧ i = .int .i64 j ∧ Bytes wr (whole ga m) (Mx.bytesL a m) ∧ Blk wr g1 #[U64 (Mx.st a j)] 69 ∧ Blk wr g2 #[U64 (Mx.st a k)] 69 ∧ Below w.heap.size w wr) (fun _ _ _ i _ => k - (intOf i).toNat)
  case atStart => exact ⟨0, by omega, rfl, HA.out, K1.out, K2.out, hb4⟩
  case round =>
    obtain ⟨j, hj, rfl, ha', hk1, hk2, hbel⟩ := hrel
    have HA' := Lib.hid ha'
    have HK1 := Lib.hid hk1
    have HK2 := Lib.hid hk2
    have hzr := hbel.size
    clear ha' hk1 hk2
    by_cases hlt : j < k
    · have HP := Lib.hid (part_of (s := a) (m := k) (i := j) hlt)
      have h1 := HK1.out.lt
      obtain ⟨wo, hwo⟩ : ∃ wo : World, wo = wr := ⟨_, rfl⟩
      subst hwo
      go_wp2_with fail
      refine (mixbytes_ok g1 (Mx.st a j) 8 wo HK1.out (by decide)).mono ?_
      rintro e w5 ⟨rfl, h1, h2, h3⟩
      have HX := Lib.hid (h1.bytes (Mx.bytesL_lt _ _) (by rw [Mx.bytesL_length]; omega))
      rw [Mx.bytesL_length] at HX
      have HA5 := Lib.hid (HA'.out.other HK1.out (u64_no8 _) h3)
      replace HK2 := Lib.hid (HK2.out.grown h3 (by simp; omega))
      have HB5 := Lib.hid (below_grown hbel h3 hzr hg1w)
      have hp1 : Bytes w5 (.slice (some ⟨ga, 8 * j, none⟩) 8 (m - 8 * j)) (Mx.bytesL (Mx.st a j) 8) := by
        rw [← HP.out, ← HM.out]
        exact HA5.out.part (8 * j) 8 (by rw [HL.out]; have := HM.out; omega) (by have := HM.out; omega) (by omega)
      have HP1 := Lib.hid hp1
      replace HK1 := Lib.hid (show Blk w5 g1 #[U64 (Mx.st a (j + 1))] 69 from h2)
      have hm8 : 8 * j + 8 ≤ m := by have := HM.out; omega
      have HLT := Lib.hid hlt
      clear h1 h2 h3 hp1 hbel hlt
      go_wp2_with fail
      refine (same_any _ _ _ _ _ HX.out HP1.out).mono ?_
      rintro e w6 ⟨rfl, hb6⟩
      rw [decide_eq_true rfl]
      have HA6 := Lib.hid (HA5.out.go hb6)
      have HK16 := Lib.hid (HK1.out.go hb6)
      have HK26 := Lib.hid (HK2.out.go hb6)
      have HB6 := Lib.hid (HB5.out.trans (hb6.mono HB5.out.size))
      clear hb6
      go_wp2_with fail
      have h9 := HLT.out
      exact ⟨⟨j + 1, h9, by go_num, HA6.out, HK16.out, HK26.out, HB6.out⟩, by simp [intOf]; omega⟩
    · obtain rfl : j = k := by omega
      go_wp2_with fail
      refine (mixnext_any g1 _ _ HK1.out).mono ?_
      rintro e w5 ⟨rfl, h2, h3⟩
      have HK25 := Lib.hid (HK2.out.grown h3 (by simp; omega))
      have hb5 := below_grown hbel h3 hzr hg1w
      clear h2 h3 hbel HK1
      go_wp2_with fail
      refine (mixnext_any g2 _ _ HK25.out).mono ?_
      rintro e w6 ⟨rfl, h2, h3⟩
      have B := below_grown hb5 h3 hb5.size hg2w
      clear h2 h3 hb5
      go_wp2_with fail
      have hz6 := B.size
      refine (mixmake_any a _).mono ?_
      rintro e w7 ⟨⟨rfl, hk⟩, hb⟩
      replace B := B.trans (hb.mono B.size)
      have hzw7 := B.size
      clear hb
      have K7 := Lib.hid hk
      clear hk
      go_wp2_with fail
      refine (mixnext_any _ _ _ K7.out).mono ?_
      rintro e w8 ⟨rfl, h2, h3⟩
      have B8 := below_grown B h3 B.size (by omega)
      clear h2 h3 B
      have B := B8
      clear B8
      go_wp2_with fail
      have hz8 := B.size
      refine (mixmake_any b _).mono ?_
      rintro e w9 ⟨⟨rfl, hk⟩, hb⟩
      replace B := B.trans (hb.mono B.size)
      have hzw9 := B.size
      clear hb
      have K9 := Lib.hid hk
      clear hk
      go_wp2_with fail
      refine (mixnext_any _ _ _ K9.out).mono ?_
      rintro e w10 ⟨rfl, h2, h3⟩
      have HB10 := Lib.hid (below_grown B h3 B.size (by omega))
      clear h2 h3 B
      have hinj := HINJ.out
      go_wp2_with fail
      go_ret
      exact ⟨rfl, HB10.out⟩

end Go.Proofs.Ytobhlfkmdhoncaa
