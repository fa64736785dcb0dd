/-
  The laws of numbers (layer 6), walked: NatTells.
-/
import Derived.Test.YtobhlfkmdhoncaaLawSixB
import Derived.Test.YtobhlfkmdhoncaaRefNatC
set_option maxRecDepth 100000
namespace Go.Proofs.Ytobhlfkmdhoncaa
open Go.RowKit

theorem parsed_val (t : List Nat) : parseN t = Nt.val (Nt.parsed t) := by
  unfold parseN Nt.parsed
  split
  · rw [Nt.val_dg]
  · rfl
theorem parse_small {t : List Nat} {k : Nat} (h : t.length ≤ 2 * k) : parseN t < 256 ^ k := by
  unfold parseN
  split
  · rename_i ht
    have h1 := Nt.pv_lt (t := t) (j := t.length) ht.2.2
    have h2 : (16 : Nat) ^ (2 * k) = 256 ^ k := by rw [Nat.pow_mul]
    rw [← h2]
    exact Nat.lt_of_lt_of_le h1 (Nat.pow_le_pow_right (by decide) h)
  · exact Nat.pow_pos (by decide)

/-- The document's text of a small number. -/
theorem oftext_any (v : Value) (n : Nat) (w : World) (hn : n < 18446744073709551616) (hB : Bytes w v (Nt.dg n)) :
    Calls Try.prog 29 #[v] w fun e w' => e = .returned (.string (strOf (Nt.txt n))) ∧ Below w.heap.size w w' := by
  have h := reftext_any v (Nt.dg n) w (Nat.le_trans (Nt.dg_length_le (k := 8) hn) (by decide)) hB
  rw [Nt.val_hex hB.lt, Nt.val_dg] at h
  exact h

set_option maxHeartbeats 4000000 in
theorem nattells_few (n : Nat) (t : List Nat) (v2 v3 : Value) (a b : List Nat) (w : World) (hn : n < 18446744073709551616) (ht : ∀ x, x ∈ t → x < 256) (h1 : t.length ≤ 400) (h2 : a.length ≤ 200) (h3 : b.length ≤ 200) (hA : Bytes w v2 a) (hB : Bytes w v3 b) :
    Calls Try.prog 7 #[U64 n, .string (strOf t), v2, v3] w (Yea w) := by
  have B : Below w.heap.size w w := Below.refl _ _
  have HA := Lib.hid hA
  have HB := Lib.hid hB
  have HN := Lib.hid hn
  have HP := Lib.hid (fun w => parse_any t w ht (by omega))
  have HQ := Lib.hid (fun w => refparse_any t w ht (by omega))
  have HPV := Lib.hid (parsed_val t)
  have HPG := Lib.hid (not_great (parse_small (k := 200) h1) (by decide))
  have HPL := Lib.hid (show (Nt.parsed t).length ≤ 100000 by
    have h := Nt.dg_length_le (k := 200) (parse_small (k := 200) h1)
    rw [parsed_val] at h
    unfold Nt.parsed at h ⊢
    split
    · rename_i hi; rw [if_pos hi, Nt.val_dg] at h; omega
    · simp)
  have HAG := Lib.hid (not_great (val_small hA.lt h2) (by decide))
  have HBG := Lib.hid (not_great (val_small hB.lt h3) (by decide))
  have HNG := Lib.hid (not_great_small hn)
  obtain ⟨pa, ca, rfl, _⟩ := hA
  obtain ⟨pb, cb, rfl, _⟩ := hB
  have hsz : (strOf t).size ≤ 400 := by rw [strOf_size]; exact h1
  have HLA := Lib.hid h2
  have HLB := Lib.hid h3
  generalize strOf t = S at *
  generalize parseN t = pn at *
  clear ht h1 hn
  go_enter Try.func7, Try.ntmps7
  go_wp2_with fail
  refine (awake6_any _).mono ?_
  rintro e w1 ⟨rfl, hb⟩
  replace HA := Lib.hid (HA.out.go hb)
  replace HB := Lib.hid (HB.out.go hb)
  replace B := B.trans (hb.mono B.size)
  clear hb
  go_wp2_with fail
  refine (HP.out w1).mono ?_
  rintro e w2 ⟨u9, rfl, hu, hb⟩
  have HU9 := Lib.hid hu
  obtain ⟨a9, c9, rfl, _⟩ := hu.shape
  replace HA := Lib.hid (HA.out.go hb)
  replace HB := Lib.hid (HB.out.go hb)
  replace B := B.trans (hb.mono B.size)
  clear hb hu
  generalize (Wt.dg pn).length = l9 at *
  go_upto_region 6 with fail
  obtain ⟨hb, hk, hs⟩ := blocks1 w2 #[.slice a9 l9 c9] 47
  generalize w2.alloc (.cells #[.slice a9 l9 c9] 47) = W3 at *
  have K9 := Lib.hid hk
  replace HA := Lib.hid (HA.out.go hb)
  replace HB := Lib.hid (HB.out.go hb)
  replace HU9 := Lib.hid (HU9.out.go hb)
  replace B := B.trans (hb.mono B.size)
  have hzW3 := B.size
  clear hb hk hs
  go_wp2_with fail
  refine (HQ.out W3).mono ?_
  rintro e w4 ⟨v4, rfl, hp, hb⟩
  have HPB := Lib.hid hp
  obtain ⟨a4, c4, rfl, _⟩ := hp
  replace HA := Lib.hid (HA.out.go hb)
  replace HB := Lib.hid (HB.out.go hb)
  replace HU9 := Lib.hid (HU9.out.go hb)
  replace K9 := Lib.hid (K9.out.go hb)
  replace B := B.trans (hb.mono B.size)
  clear hb
  go_wp2_with fail
  refine (to_any _ a w4 (Nat.le_trans HLA.out (by decide)) HA.out).mono ?_
  rintro e w5 ⟨u13, rfl, hu, hb⟩
  have HU13 := Lib.hid hu
  obtain ⟨a13, c13, rfl, _⟩ := hu.shape
  replace HA := Lib.hid (HA.out.go hb)
  replace HB := Lib.hid (HB.out.go hb)
  replace HU9 := Lib.hid (HU9.out.go hb)
  replace K9 := Lib.hid (K9.out.go hb)
  replace HPB := Lib.hid (HPB.out.go hb)
  replace B := B.trans (hb.mono B.size)
  clear hb hu
  generalize (Wt.dg (Nt.val a)).length = l13 at *
  go_wp2_with fail
  refine (to_any _ b w5 (Nat.le_trans HLB.out (by decide)) HB.out).mono ?_
  rintro e w6 ⟨u14, rfl, hu, hb⟩
  have HU14 := Lib.hid hu
  obtain ⟨a14, c14, rfl, _⟩ := hu.shape
  replace HA := Lib.hid (HA.out.go hb)
  replace HB := Lib.hid (HB.out.go hb)
  replace HU9 := Lib.hid (HU9.out.go hb)
  replace K9 := Lib.hid (K9.out.go hb)
  replace HPB := Lib.hid (HPB.out.go hb)
  replace HU13 := Lib.hid (HU13.out.go hb)
  replace B := B.trans (hb.mono B.size)
  clear hb hu
  generalize (Wt.dg (Nt.val b)).length = l14 at *
  go_upto_region 8 with fail
  obtain ⟨hb, hk1, hk2, hs⟩ := blocks2 w6 #[.slice a13 l13 c13] 47 #[.slice a14 l14 c14] 47
  generalize (w6.alloc (.cells #[.slice a13 l13 c13] 47)).alloc (.cells #[.slice a14 l14 c14] 47) = W8 at *
  have K13 := Lib.hid hk1
  have K14 := Lib.hid hk2
  replace HA := Lib.hid (HA.out.go hb)
  replace HB := Lib.hid (HB.out.go hb)
  replace HU9 := Lib.hid (HU9.out.go hb)
  replace K9 := Lib.hid (K9.out.go hb)
  replace HPB := Lib.hid (HPB.out.go hb)
  replace HU13 := Lib.hid (HU13.out.go hb)
  replace HU14 := Lib.hid (HU14.out.go hb)
  replace B := B.trans (hb.mono B.size)
  clear hb hk1 hk2 hs
  go_wp2_with fail
  -- the small number's text
  refine (natof_any n W8 HN.out).mono ?_
  rintro e w9 ⟨u1, rfl, hu, hb⟩
  have HU1 := Lib.hid hu
  obtain ⟨a1, c1, rfl, _⟩ := hu.shape
  replace HA := Lib.hid (HA.out.go hb)
  replace HB := Lib.hid (HB.out.go hb)
  replace HU9 := Lib.hid (HU9.out.go hb)
  replace K9 := Lib.hid (K9.out.go hb)
  replace HPB := Lib.hid (HPB.out.go hb)
  replace HU13 := Lib.hid (HU13.out.go hb)
  replace HU14 := Lib.hid (HU14.out.go hb)
  replace K13 := Lib.hid (K13.out.go hb)
  replace K14 := Lib.hid (K14.out.go hb)
  replace B := B.trans (hb.mono B.size)
  clear hb hu
  generalize (Wt.dg n).length = l1 at *
  go_wp2_with fail
  refine (nattext_any _ n w9 (words_small HNG.out) HU1.out).mono ?_
  rintro e w10 ⟨rfl, hb⟩
  replace HA := Lib.hid (HA.out.go hb)
  replace HB := Lib.hid (HB.out.go hb)
  replace HU9 := Lib.hid (HU9.out.go hb)
  replace K9 := Lib.hid (K9.out.go hb)
  replace HPB := Lib.hid (HPB.out.go hb)
  replace HU13 := Lib.hid (HU13.out.go hb)
  replace HU14 := Lib.hid (HU14.out.go hb)
  replace K13 := Lib.hid (K13.out.go hb)
  replace K14 := Lib.hid (K14.out.go hb)
  replace B := B.trans (hb.mono B.size)
  clear hb
  clear HU1
  have HTE := Lib.hid (show ((strOf (Nt.txt n)).toList == (strOf (Nt.txt n)).toList) = true by simp)
  go_wp2_with fail
  refine (refof_any n w10 HN.out).mono ?_
  rintro e w11 ⟨v11, rfl, ho, hb⟩
  have HO := Lib.hid (ho.bytes (Nt.dg_lt n))
  obtain ⟨a11, c11, rfl, _⟩ := HO.out
  replace HA := Lib.hid (HA.out.go hb)
  replace HB := Lib.hid (HB.out.go hb)
  replace HU9 := Lib.hid (HU9.out.go hb)
  replace K9 := Lib.hid (K9.out.go hb)
  replace HPB := Lib.hid (HPB.out.go hb)
  replace HU13 := Lib.hid (HU13.out.go hb)
  replace HU14 := Lib.hid (HU14.out.go hb)
  replace K13 := Lib.hid (K13.out.go hb)
  replace K14 := Lib.hid (K14.out.go hb)
  replace B := B.trans (hb.mono B.size)
  clear hb ho
  generalize hdl : (Nt.dg n).length = dl at *
  have HDL := Lib.hid hdl
  clear hdl
  go_wp2_with fail
  refine (oftext_any _ n w11 HN.out HO.out).mono ?_
  rintro e w12 ⟨rfl, hb⟩
  replace HA := Lib.hid (HA.out.go hb)
  replace HB := Lib.hid (HB.out.go hb)
  replace HU9 := Lib.hid (HU9.out.go hb)
  replace K9 := Lib.hid (K9.out.go hb)
  replace HPB := Lib.hid (HPB.out.go hb)
  replace HU13 := Lib.hid (HU13.out.go hb)
  replace HU14 := Lib.hid (HU14.out.go hb)
  replace K13 := Lib.hid (K13.out.go hb)
  replace K14 := Lib.hid (K14.out.go hb)
  replace B := B.trans (hb.mono B.size)
  clear hb
  have hte := HTE.out
  have k9 : w12.cell? ⟨w2.heap.size, 0, none⟩ = some (.slice a9 l9 c9) := K9.out.cell 0
  clear HO
  generalize strOf (Nt.txt n) = S1 at *
  go_wp2_with fail
  -- what is parsed
  refine (is_any _ _ pn (Nt.parsed t) w12 (words_small HPG.out) HPL.out HU9.out HPB.out).mono ?_
  rintro e w13 ⟨rfl, hb⟩
  replace HA := Lib.hid (HA.out.go hb)
  replace HB := Lib.hid (HB.out.go hb)
  replace HU13 := Lib.hid (HU13.out.go hb)
  replace HU14 := Lib.hid (HU14.out.go hb)
  replace K13 := Lib.hid (K13.out.go hb)
  replace K14 := Lib.hid (K14.out.go hb)
  replace B := B.trans (hb.mono B.size)
  clear hb
  rw [decide_eq_true HPV.out]
  clear HPB HU9 K9 k9 hte
  have k13 : w13.cell? ⟨w6.heap.size, 0, none⟩ = some (.slice a13 l13 c13) := K13.out.cell 0
  generalize Nt.parseE t = pe at *
  go_wp2_with fail
  refine (is_any _ _ (Nt.val a) a w13 (words_small HAG.out) (Nat.le_trans HLA.out (by decide)) HU13.out HA.out).mono ?_
  rintro e w14 ⟨rfl, hb⟩
  replace HA := Lib.hid (HA.out.go hb)
  replace HB := Lib.hid (HB.out.go hb)
  replace HU13 := Lib.hid (HU13.out.go hb)
  replace HU14 := Lib.hid (HU14.out.go hb)
  replace K13 := Lib.hid (K13.out.go hb)
  replace K14 := Lib.hid (K14.out.go hb)
  replace B := B.trans (hb.mono B.size)
  clear hb
  rw [decide_eq_true rfl]
  clear k13
  have k13 : w14.cell? ⟨w6.heap.size, 0, none⟩ = some (.slice a13 l13 c13) := K13.out.cell 0
  go_wp2_with fail
  -- lengths
  refine (natlen_any _ (Nt.val a) w14 (words_small HAG.out) HU13.out).mono ?_
  rintro e w15 ⟨rfl, hb⟩
  replace HA := Lib.hid (HA.out.go hb)
  replace HB := Lib.hid (HB.out.go hb)
  replace HU13 := Lib.hid (HU13.out.go hb)
  replace HU14 := Lib.hid (HU14.out.go hb)
  replace K13 := Lib.hid (K13.out.go hb)
  replace K14 := Lib.hid (K14.out.go hb)
  replace B := B.trans (hb.mono B.size)
  clear hb
  clear k13
  go_wp2_with fail
  refine (reftrim_any _ _ w15 HA.out).mono ?_
  rintro e w' ⟨⟨v16, rfl, hv⟩, rfl⟩
  have HTA := Lib.hid hv
  obtain ⟨a16, c16, rfl, _⟩ := hv
  have HLQ := Lib.hid (show (((Nt.dg (Nt.val a)).length : Int) == ((Nt.tidied a).length : Int)) = true from by rw [beq_iff_eq]; rfl)
  have k13 : w15.cell? ⟨w6.heap.size, 0, none⟩ = some (.slice a13 l13 c13) := K13.out.cell 0
  have k14 : w15.cell? ⟨w6.heap.size + 1, 0, none⟩ = some (.slice a14 l14 c14) := K14.out.cell 0
  have hlq := HLQ.out
  go_wp2_with fail
  -- which is greater
  refine (natcmp_any _ _ (Nt.val a) (Nt.val b) w15 HU13.out HU14.out).mono ?_
  rintro e w17 ⟨rfl, hb⟩
  replace HA := Lib.hid (HA.out.go hb)
  replace HB := Lib.hid (HB.out.go hb)
  replace B := B.trans (hb.mono B.size)
  clear hb
  clear k13 k14 hlq
  go_wp2_with fail
  refine (reftrim_any _ _ w17 HA.out).mono ?_
  rintro e w' ⟨⟨v18, rfl, hv⟩, rfl⟩
  have HTA := Lib.hid hv
  obtain ⟨a18, c18, rfl, _⟩ := hv
  go_wp2_with fail
  refine (reftrim_any _ _ w17 HB.out).mono ?_
  rintro e w' ⟨⟨v19, rfl, hv⟩, rfl⟩
  have HTB := Lib.hid hv
  obtain ⟨a19, c19, rfl, _⟩ := hv
  have HCM := Lib.hid (show Nt.cmp (Nt.val (Nt.tidied a)) (Nt.val (Nt.tidied b)) = Nt.cmp (Nt.val a) (Nt.val b) by rw [tidied_val, tidied_val])
  go_wp2_with fail
  refine (refcmp_any _ _ (Nt.tidied a) (Nt.tidied b) w17 HTA.out HTB.out (Nt.dg_tidy _) (Nt.dg_tidy _)).mono ?_
  rintro e w20 ⟨rfl, hb⟩
  replace HA := Lib.hid (HA.out.go hb)
  replace HB := Lib.hid (HB.out.go hb)
  replace B := B.trans (hb.mono B.size)
  clear hb
  rw [HCM.out]
  generalize Nt.cmp (Nt.val a) (Nt.val b) = cm at *
  go_wp2_with fail
  -- the small number's length
  refine (natof_any n w20 HN.out).mono ?_
  rintro e w21 ⟨u2, rfl, hu, hb⟩
  have HU2 := Lib.hid hu
  obtain ⟨a2, c2, rfl, _⟩ := hu.shape
  replace HA := Lib.hid (HA.out.go hb)
  replace HB := Lib.hid (HB.out.go hb)
  replace B := B.trans (hb.mono B.size)
  clear hb hu
  generalize (Wt.dg n).length = l2 at *
  go_wp2_with fail
  refine (natlen_any _ n w21 (words_small HNG.out) HU2.out).mono ?_
  rintro e w22 ⟨rfl, hb⟩
  replace HA := Lib.hid (HA.out.go hb)
  replace HB := Lib.hid (HB.out.go hb)
  replace B := B.trans (hb.mono B.size)
  clear hb
  go_wp2_with fail
  refine (refof_any n w22 HN.out).mono ?_
  rintro e w23 ⟨v23, rfl, ho, hb⟩
  have HO := Lib.hid (ho.bytes (Nt.dg_lt n))
  obtain ⟨a23, c23, rfl, _⟩ := HO.out
  replace B := B.trans (hb.mono B.size)
  clear hb ho
  go_wp2_with fail
  go_ret
  exact ⟨rfl, B⟩

set_option maxHeartbeats 400000 in
theorem nattells_many (n : Nat) (S : ByteArray) (m k : Nat) (pa pb : Option Addr) (ca cb : Nat) (w : World) (h : 400 < S.size ∨ (S.size ≤ 400 ∧ 200 < m) ∨ (S.size ≤ 400 ∧ m ≤ 200 ∧ 200 < k)) :
    Calls Try.prog 7 #[U64 n, .string S, .slice pa m ca, .slice pb k cb] w (Yea w) := by
  have B : Below w.heap.size w w := Below.refl _ _
  rcases h with h | ⟨h1, h⟩ | ⟨h1, h2, h⟩
  all_goals
    go_enter Try.func7, Try.ntmps7
    go_wp2_with fail
    refine (awake6_any _).mono ?_
    rintro e w1 ⟨rfl, hb⟩
    replace B := B.trans (hb.mono B.size)
    clear hb
    go_wp2_with fail
    go_ret
    exact ⟨rfl, B⟩

theorem nattells_any (n : Nat) (S : ByteArray) (v2 : Value) (a : List Nat) (v3 : Value) (b : List Nat) (w : World) (hn : n < 18446744073709551616) (hA : Bytes w v2 a) (hB : Bytes w v3 b) :
    Calls Try.prog 7 #[U64 n, .string S, v2, v3] w (Yea w) := by
  obtain ⟨t, rfl, ht, hl⟩ := strOf_of S
  by_cases h : t.length ≤ 400 ∧ a.length ≤ 200 ∧ b.length ≤ 200
  · exact nattells_few n t v2 v3 a b w hn ht h.1 h.2.1 h.2.2 hA hB
  · obtain ⟨pa, ca, rfl, _⟩ := hA
    obtain ⟨pb, cb, rfl, _⟩ := hB
    exact nattells_many n (strOf t) _ _ pa pb ca cb w (by rw [← hl]; omega)

end Go.Proofs.Ytobhlfkmdhoncaa
