/-
  The laws of bytes out of a seed (layer 5): rows, seeds written and read.
-/
import Derived.Test.YtobhlfkmdhoncaaLawFiveB
set_option maxRecDepth 100000
namespace Go.Proofs.Ytobhlfkmdhoncaa
open Go.RowKit

theorem sd_of_put {s : Nat} (hs : s < 18446744073709551616) : sd 0 (putB s 8) = s := by
  rw [sd_put, Nat.zero_mul, Nat.zero_add]
  exact Nat.mod_eq_of_lt hs
theorem seed_of_put {s : Nat} (hs : s < 18446744073709551616) : seedN (putB s 8) = s ∧ seedE (putB s 8) = 0 := by
  unfold seedN seedE
  rw [if_pos (putB_length s 8), if_pos (putB_length s 8), sd_of_put hs]
  exact ⟨rfl, rfl⟩
theorem seedN_lt {l : List Nat} (h : ∀ x, x ∈ l → x < 256) : seedN l < 18446744073709551616 := by
  unfold seedN
  split
  · rename_i h8
    have := sd_lt h 0
    rw [h8] at this
    exact this
  · decide

set_option maxHeartbeats 2000000 in
theorem mixrows_any (s : Nat) (n : Int) (v : Value) (l : List Nat) (w : World) (hs : s < 18446744073709551616) (h0 : -9223372036854775808 ≤ n) (h1 : n ≤ 9223372036854775807) (hB : Bytes w v l) :
    Calls Try.prog 4 #[U64 s, .int .i64 n, v] w (Yea w) := by
  have B : Below w.heap.size w w := Below.refl _ _
  have HB := Lib.hid hB
  obtain ⟨a, cap, rfl, hl1, hl2, _⟩ := hB
  have HSP := Lib.hid (seed_of_put hs)
  have HSL := Lib.hid (seedN_lt HB.out.lt)
  have HS := Lib.hid hs
  clear hs
  by_cases hbig : 500 < n ∧ n ≤ 65536
  · obtain ⟨hb1, hb2⟩ := hbig
    go_enter Try.func4, Try.ntmps4
    go_wp2_with fail
    refine (awake5_any _).mono ?_
    rintro e w1 ⟨rfl, hb⟩
    replace B := B.trans (hb.mono B.size)
    have hzw1 := B.size
    clear hb
    go_wp2_with fail
    go_ret
    exact ⟨rfl, B⟩
  · by_cases hlong : 100 < l.length
    · by_cases hb1 : 500 < n
      · have hb2 : ¬ n ≤ 65536 := by omega
        have hb3 : 65536 < n := by omega
        clear hbig
        go_enter Try.func4, Try.ntmps4
        go_wp2_with fail
        refine (awake5_any _).mono ?_
        rintro e w1 ⟨rfl, hb⟩
        replace B := B.trans (hb.mono B.size)
        have hzw1 := B.size
        clear hb
        go_wp2_with fail
        go_ret
        exact ⟨rfl, B⟩
      · clear hbig
        go_enter Try.func4, Try.ntmps4
        go_wp2_with fail
        refine (awake5_any _).mono ?_
        rintro e w1 ⟨rfl, hb⟩
        replace B := B.trans (hb.mono B.size)
        have hzw1 := B.size
        clear hb
        go_wp2_with fail
        go_ret
        exact ⟨rfl, B⟩
    · go_enter Try.func4, Try.ntmps4
      go_wp2_with fail
      refine (awake5_any _).mono ?_
      rintro e w1 ⟨rfl, hb⟩
      replace HB := Lib.hid (HB.out.go hb)
      replace B := B.trans (hb.mono B.size)
      have hzw1 := B.size
      clear hb
      rcases (show n < 0 ∨ (0 ≤ n ∧ 65536 < n) ∨ (0 ≤ n ∧ n ≤ 500) by omega) with h | h | h
      · have HNO := Lib.hid (show n < 0 ∨ (0 ≤ n ∧ 65536 < n) from .inl h)
        go_wp2_with fail
        refine (mixrow_no s n _ HNO.out).mono ?_
        rintro e w2 ⟨rfl, hb⟩
        replace HB := Lib.hid (HB.out.go hb)
        replace B := B.trans (hb.mono B.size)
        have hzw2 := B.size
        clear hb
        go_wp2_with fail
        refine (mixput_any s _).mono ?_
        rintro e w5 ⟨v5, rfl, hp, hb⟩
        replace HB := Lib.hid (HB.out.go hb)
        replace B := B.trans (hb.mono B.size)
        have hzw5 := B.size
        clear hb
        have HP := Lib.hid hp
        clear hp
        go_wp2_with fail
        refine (mixseed_any _ _ _ HP.out).mono ?_
        rintro e w' ⟨rfl, rfl⟩
        rw [HSP.out.1, HSP.out.2]
        go_wp2_with fail
        refine (mixseed_any _ _ _ HB.out).mono ?_
        rintro e w' ⟨rfl, rfl⟩
        go_wp2_with fail
        refine (mixput_any s _).mono ?_
        rintro e w6 ⟨v6, rfl, hp, hb⟩
        replace HB := Lib.hid (HB.out.go hb)
        replace B := B.trans (hb.mono B.size)
        have hzw6 := B.size
        clear hb
        replace HP := Lib.hid hp
        clear hp
        go_wp2_with fail
        refine (refput_any s _ HS.out).mono ?_
        rintro e w7 ⟨v7, rfl, hp, hb⟩
        replace HB := Lib.hid (HB.out.go hb)
        replace HP := Lib.hid (HP.out.go hb)
        replace B := B.trans (hb.mono B.size)
        have hzw7 := B.size
        clear hb
        have HQ := Lib.hid hp
        clear hp
        go_wp2_with fail
        refine (same_any _ _ _ _ _ HP.out HQ.out).mono ?_
        rintro e w8 ⟨rfl, hb⟩
        rw [decide_eq_true rfl]
        replace HB := Lib.hid (HB.out.go hb)
        replace B := B.trans (hb.mono B.size)
        clear hb HP HQ
        by_cases h8 : l.length = 8
        · have h8b : ((l.length : Int) != 8) = false := by rw [bne_eq_false_iff_eq]; omega
          have HN := Lib.hid (show seedN l = sd 0 l by unfold seedN; rw [if_pos h8])
          have HE := Lib.hid (show seedE l = 0 by unfold seedE; rw [if_pos h8])
          have HL := Lib.hid (show putB (sd 0 l) 8 = l by rw [← h8]; exact put_sd HB.out.lt 0)
          rw [HN.out, HE.out]
          have hsl := HSL.out
          rw [HN.out] at hsl
          have HSL2 := Lib.hid hsl
          clear h8 hsl
          go_wp2_with fail
          refine (refput_any (sd 0 l) _ HSL2.out).mono ?_
          rintro e w9 ⟨v9, rfl, hp, hb⟩
          replace HB := Lib.hid (HB.out.go hb)
          replace B := B.trans (hb.mono B.size)
          have hzw9 := B.size
          clear hb
          rw [HL.out] at hp
          have HP := Lib.hid hp
          clear hp
          go_wp2_with fail
          refine (same_any _ _ _ _ _ HP.out HB.out).mono ?_
          rintro e w10 ⟨rfl, hb⟩
          rw [decide_eq_true rfl]
          replace B := B.trans (hb.mono B.size)
          clear hb
          go_wp2_with fail
          go_ret
          exact ⟨rfl, B⟩
        · have h8b : ((l.length : Int) != 8) = true := by rw [bne_iff_ne]; omega
          have HN := Lib.hid (show seedN l = 0 by unfold seedN; rw [if_neg h8])
          have HE := Lib.hid (show seedE l = 4 by unfold seedE; rw [if_neg h8])
          rw [HN.out, HE.out]
          clear h8
          go_wp2_with fail
          go_ret
          exact ⟨rfl, B⟩
      · have HNO := Lib.hid (show n < 0 ∨ (0 ≤ n ∧ 65536 < n) from .inr h)
        obtain ⟨h2, h3⟩ := h
        have h4 : ¬ n < 0 := by omega
        have h5 : ¬ n ≤ 65536 := by omega
        go_wp2_with fail
        refine (mixrow_no s n _ HNO.out).mono ?_
        rintro e w2 ⟨rfl, hb⟩
        replace HB := Lib.hid (HB.out.go hb)
        replace B := B.trans (hb.mono B.size)
        have hzw2 := B.size
        clear hb
        go_wp2_with fail
        refine (mixput_any s _).mono ?_
        rintro e w5 ⟨v5, rfl, hp, hb⟩
        replace HB := Lib.hid (HB.out.go hb)
        replace B := B.trans (hb.mono B.size)
        have hzw5 := B.size
        clear hb
        have HP := Lib.hid hp
        clear hp
        go_wp2_with fail
        refine (mixseed_any _ _ _ HP.out).mono ?_
        rintro e w' ⟨rfl, rfl⟩
        rw [HSP.out.1, HSP.out.2]
        go_wp2_with fail
        refine (mixseed_any _ _ _ HB.out).mono ?_
        rintro e w' ⟨rfl, rfl⟩
        go_wp2_with fail
        refine (mixput_any s _).mono ?_
        rintro e w6 ⟨v6, rfl, hp, hb⟩
        replace HB := Lib.hid (HB.out.go hb)
        replace B := B.trans (hb.mono B.size)
        have hzw6 := B.size
        clear hb
        replace HP := Lib.hid hp
        clear hp
        go_wp2_with fail
        refine (refput_any s _ HS.out).mono ?_
        rintro e w7 ⟨v7, rfl, hp, hb⟩
        replace HB := Lib.hid (HB.out.go hb)
        replace HP := Lib.hid (HP.out.go hb)
        replace B := B.trans (hb.mono B.size)
        have hzw7 := B.size
        clear hb
        have HQ := Lib.hid hp
        clear hp
        go_wp2_with fail
        refine (same_any _ _ _ _ _ HP.out HQ.out).mono ?_
        rintro e w8 ⟨rfl, hb⟩
        rw [decide_eq_true rfl]
        replace HB := Lib.hid (HB.out.go hb)
        replace B := B.trans (hb.mono B.size)
        clear hb HP HQ
        by_cases h8 : l.length = 8
        · have h8b : ((l.length : Int) != 8) = false := by rw [bne_eq_false_iff_eq]; omega
          have HN := Lib.hid (show seedN l = sd 0 l by unfold seedN; rw [if_pos h8])
          have HE := Lib.hid (show seedE l = 0 by unfold seedE; rw [if_pos h8])
          have HL := Lib.hid (show putB (sd 0 l) 8 = l by rw [← h8]; exact put_sd HB.out.lt 0)
          rw [HN.out, HE.out]
          have hsl := HSL.out
          rw [HN.out] at hsl
          have HSL2 := Lib.hid hsl
          clear h8 hsl
          go_wp2_with fail
          refine (refput_any (sd 0 l) _ HSL2.out).mono ?_
          rintro e w9 ⟨v9, rfl, hp, hb⟩
          replace HB := Lib.hid (HB.out.go hb)
          replace B := B.trans (hb.mono B.size)
          have hzw9 := B.size
          clear hb
          rw [HL.out] at hp
          have HP := Lib.hid hp
          clear hp
          go_wp2_with fail
          refine (same_any _ _ _ _ _ HP.out HB.out).mono ?_
          rintro e w10 ⟨rfl, hb⟩
          rw [decide_eq_true rfl]
          replace B := B.trans (hb.mono B.size)
          clear hb
          go_wp2_with fail
          go_ret
          exact ⟨rfl, B⟩
        · have h8b : ((l.length : Int) != 8) = true := by rw [bne_iff_ne]; omega
          have HN := Lib.hid (show seedN l = 0 by unfold seedN; rw [if_neg h8])
          have HE := Lib.hid (show seedE l = 4 by unfold seedE; rw [if_neg h8])
          rw [HN.out, HE.out]
          clear h8
          go_wp2_with fail
          go_ret
          exact ⟨rfl, B⟩
      · obtain ⟨N, rfl⟩ := Int.eq_ofNat_of_zero_le h.1
        have hN5 : N ≤ 500 := by omega
        have h5 : ¬ (500 : Int) < (N : Int) := by omega
        clear h h0 h1 hbig
        go_wp2_with fail
        refine (mixrow_ok s N _ (by omega)).mono ?_
        rintro e w2 ⟨g, rfl, ho, hge, hb⟩
        have HR := Lib.hid (ho.bytes (Mx.bytesL_lt s N) (by rw [Mx.bytesL_length]; omega))
        rw [Mx.bytesL_length] at HR
        replace HB := Lib.hid (HB.out.go hb)
        replace B := B.trans (hb.mono B.size)
        clear ho hge hb
        go_wp2_with fail
        refine (refbytes_any s N _ HS.out (by omega)).mono ?_
        rintro e w3 ⟨u, rfl, hou, hb⟩
        have HU := Lib.hid (hou.bytes (Mx.bytesL_lt s _))
        rw [Int.toNat_natCast] at HU
        replace HB := Lib.hid (HB.out.go hb)
        replace HR := Lib.hid (HR.out.go hb)
        replace B := B.trans (hb.mono B.size)
        clear hou hb
        go_wp2_with fail
        refine (same_any _ _ _ _ _ HR.out HU.out).mono ?_
        rintro e w4 ⟨rfl, hb⟩
        rw [decide_eq_true rfl]
        replace HB := Lib.hid (HB.out.go hb)
        replace B := B.trans (hb.mono B.size)
        clear hb HR HU
        go_wp2_with fail
        refine (mixput_any s _).mono ?_
        rintro e w5 ⟨v5, rfl, hp, hb⟩
        replace HB := Lib.hid (HB.out.go hb)
        replace B := B.trans (hb.mono B.size)
        have hzw5 := B.size
        clear hb
        have HP := Lib.hid hp
        clear hp
        go_wp2_with fail
        refine (mixseed_any _ _ _ HP.out).mono ?_
        rintro e w' ⟨rfl, rfl⟩
        rw [HSP.out.1, HSP.out.2]
        go_wp2_with fail
        refine (mixseed_any _ _ _ HB.out).mono ?_
        rintro e w' ⟨rfl, rfl⟩
        go_wp2_with fail
        refine (mixput_any s _).mono ?_
        rintro e w6 ⟨v6, rfl, hp, hb⟩
        replace HB := Lib.hid (HB.out.go hb)
        replace B := B.trans (hb.mono B.size)
        have hzw6 := B.size
        clear hb
        replace HP := Lib.hid hp
        clear hp
        go_wp2_with fail
        refine (refput_any s _ HS.out).mono ?_
        rintro e w7 ⟨v7, rfl, hp, hb⟩
        replace HB := Lib.hid (HB.out.go hb)
        replace HP := Lib.hid (HP.out.go hb)
        replace B := B.trans (hb.mono B.size)
        have hzw7 := B.size
        clear hb
        have HQ := Lib.hid hp
        clear hp
        go_wp2_with fail
        refine (same_any _ _ _ _ _ HP.out HQ.out).mono ?_
        rintro e w8 ⟨rfl, hb⟩
        rw [decide_eq_true rfl]
        replace HB := Lib.hid (HB.out.go hb)
        replace B := B.trans (hb.mono B.size)
        clear hb HP HQ
        by_cases h8 : l.length = 8
        · have h8b : ((l.length : Int) != 8) = false := by rw [bne_eq_false_iff_eq]; omega
          have HN := Lib.hid (show seedN l = sd 0 l by unfold seedN; rw [if_pos h8])
          have HE := Lib.hid (show seedE l = 0 by unfold seedE; rw [if_pos h8])
          have HL := Lib.hid (show putB (sd 0 l) 8 = l by rw [← h8]; exact put_sd HB.out.lt 0)
          rw [HN.out, HE.out]
          have hsl := HSL.out
          rw [HN.out] at hsl
          have HSL2 := Lib.hid hsl
          clear h8 hsl
          go_wp2_with fail
          refine (refput_any (sd 0 l) _ HSL2.out).mono ?_
          rintro e w9 ⟨v9, rfl, hp, hb⟩
          replace HB := Lib.hid (HB.out.go hb)
          replace B := B.trans (hb.mono B.size)
          have hzw9 := B.size
          clear hb
          rw [HL.out] at hp
          have HP := Lib.hid hp
          clear hp
          go_wp2_with fail
          refine (same_any _ _ _ _ _ HP.out HB.out).mono ?_
          rintro e w10 ⟨rfl, hb⟩
          rw [decide_eq_true rfl]
          replace B := B.trans (hb.mono B.size)
          clear hb
          go_wp2_with fail
          go_ret
          exact ⟨rfl, B⟩
        · have h8b : ((l.length : Int) != 8) = true := by rw [bne_iff_ne]; omega
          have HN := Lib.hid (show seedN l = 0 by unfold seedN; rw [if_neg h8])
          have HE := Lib.hid (show seedE l = 4 by unfold seedE; rw [if_neg h8])
          rw [HN.out, HE.out]
          clear h8
          go_wp2_with fail
          go_ret
          exact ⟨rfl, B⟩

end Go.Proofs.Ytobhlfkmdhoncaa
