/-
  The program's numbers (layer 6): 'isText'.
-/
import Derived.Test.YtobhlfkmdhoncaaTextMath
import Derived.Test.YtobhlfkmdhoncaaNatC
set_option maxRecDepth 100000
namespace Go.Proofs.Ytobhlfkmdhoncaa
open Go.RowKit


/-- What stands in the text behind i digits. -/
def textPart (n L i : Nat) : List Nat := List.replicate (L - i) 0 ++ Nt.fullT n i
theorem textPart_length {n L i : Nat} (h : i ≤ L) : (textPart n L i).length = L := by unfold textPart; simp [Nt.fullT_length]; omega
theorem textPart_succ {n L i : Nat} (h : i < L) : (textPart n L i).set (L - 1 - i) (Nt.chr (n / 16 ^ i % 16)) = textPart n L (i + 1) := by
  unfold textPart
  rw [show L - i = (L - 1 - i) + 1 from by omega, List.replicate_succ', List.append_assoc, List.set_append_right _ _ (by simp), List.length_replicate, Nat.sub_self,
    show L - (i + 1) = L - 1 - i from by omega]
  rfl
theorem digits_small (n : Nat) : Nt.digits n ≤ 16 * (Wt.dg n).length + 1 := by
  refine Nt.digits_le ?_ (by omega)
  have h := Wt.val_lt (Wt.dg_lt n)
  rw [Wt.val_dg] at h
  refine Nat.lt_of_lt_of_le h ?_
  rw [show (18446744073709551616 : Nat) = 16 ^ 16 from by decide, ← Nat.pow_mul]
  exact Nat.pow_le_pow_right (by decide) (by omega)

theorem fig_at : ∀ d : Fin 16, ((⟨#[48, 49, 50, 51, 52, 53, 54, 55, 56, 57, 97, 98, 99, 100, 101, 102]⟩ : ByteArray)[d.val]'d.isLt).toNat = Nt.chr d.val := by decide +kernel
theorem fig_index (d : Nat) (hd : d < 16) (w : World) : (Instr.index 9 figures (U64 d)).run Try.prog w = .ok (U8 (Nt.chr d)) w := by
  have h0 : (0 : Int) ≤ (d : Int) := Int.natCast_nonneg _
  have h1 : (d : Int) < 16 := by omega
  have hs : (⟨#[48, 49, 50, 51, 52, 53, 54, 55, 56, 57, 97, 98, 99, 100, 101, 102]⟩ : ByteArray).size = 16 := rfl
  have H := Lib.hid (fig_at ⟨d, hd⟩)
  go_simp
  exact congrArg (fun k : Nat => (k : Int)) H.out

set_option maxHeartbeats 2000000 in
theorem nattext_any (u : Value) (n : Nat) (w : World) (hm : (Wt.dg n).length ≤ 100000) (hU : IsNat w u n) :
    Calls Try.prog 28 #[u] w fun e w' => e = .returned (.string (strOf (Nt.txt n))) ∧ Below w.heap.size w w' := by
  have HU := Lib.hid hU
  obtain ⟨pa, ca, rfl, _⟩ := hU.shape
  have hds := digits_small n
  obtain ⟨L, hL⟩ : ∃ L, L = Nt.digits n := ⟨_, rfl⟩
  have HLI := Lib.hid (show max (1 : Int) (partsN n 4 : Int) = (L : Int) by rw [hL]; unfold Nt.digits; omega)
  have hL1 : L ≤ 1600001 := by omega
  have HTX := Lib.hid (show Nt.fullT n L = Nt.txt n by rw [hL]; rfl)
  have HPT := Lib.hid (fun W h => parts_any (.agg #[.slice pa (Wt.dg n).length ca]) n 4 W (.inl rfl) hm h)
  clear hU hm hds hL
  generalize (Wt.dg n).length = ml at *
  have hmk := fun w => make_bytes L (by omega) w
  go_enter Try.func28, Try.ntmps28
  go_upto_region 1 with fail
  obtain ⟨B, hk1, hs⟩ := blocks1 w #[.slice pa ml ca] 47
  generalize (w.alloc (.cells #[.slice pa ml ca] 47)) = W at *
  have K1 := Lib.hid hk1
  have HS := Lib.hid hs
  clear hs hk1
  replace HU := Lib.hid (HU.out.go B)
  have hzW := B.size
  have k10 : W.cell? ⟨w.heap.size, 0, none⟩ = some (.slice pa ml ca) := K1.out.cell 0
  go_wp2_with fail
  refine (HPT.out W HU.out).mono ?_
  rintro e w1 ⟨rfl, hb⟩
  replace HU := Lib.hid (HU.out.go hb)
  replace K1 := Lib.hid (K1.out.go hb)
  replace B := B.trans (hb.mono B.size)
  have hli := HLI.out
  clear hb k10
  go_upto_region 2 with fail
  obtain ⟨g, hg⟩ : ∃ g, g = w1.heap.size := ⟨_, rfl⟩
  have HO0 := Lib.hid (show Own (w1.alloc (bytesObj (List.replicate L 0))) g (textPart n L 0) by
    rw [hg]
    have : textPart n L 0 = List.replicate L 0 := by unfold textPart; simp [Nt.fullT]
    rw [this]; exact Own.new w1 _)
  have HG := Lib.hid hg
  have HB0 := Lib.hid ((Below.refl w1.heap.size w1).alloc (Nat.le_refl _) (bytesObj (List.replicate L 0)))
  rw [← hg]
  clear hg hmk hli
  generalize w1.alloc (bytesObj (List.replicate L 0)) = W1 at *
  go_wp2_with fail
  go_loopw [4, 11] (fun _ i wr => ∃ k : Nat, k ≤ L ∧ i = .int .i64 k ∧ Own wr g (textPart n L k) ∧ Below w1.heap.size w1 wr) (fun _ i _ => L - (intOf i).toNat)
  case atStart => exact ⟨0, by omega, rfl, HO0.out, HB0.out⟩
  case round =>
    obtain ⟨k, hk, rfl, hown, hbel⟩ := hrel
    have HO := Lib.hid hown
    have hz := hbel.size
    clear hown
    by_cases hlt : k < L
    · have k1 : wr.cell? ⟨w.heap.size, 0, none⟩ = some (.slice pa ml ca) := (K1.out.go hbel).cell 0
      have HUr := Lib.hid (HU.out.go hbel)
      have HD := Lib.hid (Nat.mod_lt (n / 16 ^ k) (show 0 < 16 by decide))
      have HKL := Lib.hid hlt
      have HTS := Lib.hid (textPart_succ (n := n) hlt)
      have HTL := Lib.hid (textPart_length (n := n) hk)
      obtain ⟨j, hj⟩ : ∃ j, j = L - 1 - k := ⟨_, rfl⟩
      have hjI : (L : Int) - 1 - (k : Int) = (j : Int) := by omega
      have hjL : j < L := by omega
      rw [← hj] at HTS
      clear hj
      obtain ⟨wo, hwo⟩ : ∃ wo : World, wo = wr := ⟨_, rfl⟩
      subst hwo
      go_wp2_with fail
      refine (natdigit_any _ n k wo (by omega) HUr.out).mono ?_
      rintro e w2 ⟨rfl, hb⟩
      have HO2 := Lib.hid (HO.out.go hb)
      have hb2 := hbel.trans (hb.mono hz)
      have hfg := fig_index (n / 16 ^ k % 16) HD.out
      have hd16 := HD.out
      generalize n / 16 ^ k % 16 = d at *
      have hcell := HO2.out.cell j (by rw [HTL.out]; exact hjL)
      have hfree := HO2.out.free j
      clear hb hbel k1
      go_wp2_with fail
      have h9 := HKL.out
      refine ⟨⟨k + 1, h9, by go_num, ?_, hb2.setCell (by rw [HG.out]; exact Nat.le_refl _) _⟩, by simp [intOf]; omega⟩
      rw [← HTS.out]
      exact HO2.out.set j _
    · obtain rfl : k = L := by omega
      have HOE := Lib.hid (show Own wr g (Nt.txt n) by have h := HO.out; unfold textPart at h; rw [Nat.sub_self, HTX.out] at h; exact h)
      have HBY := Lib.hid (show Bytes wr (whole g k) (Nt.txt n) by
        have h := HOE.out.bytes (Nt.txt_lt n) (by rw [← HTX.out, Nt.fullT_length]; omega)
        rw [← HTX.out, Nt.fullT_length] at h
        rw [← HTX.out]; exact h)
      have hcv := convert_bytes HBY.out
      have hbw := B.trans (hbel.mono B.size)
      go_wp2_with fail
      go_ret
      exact ⟨rfl, hbw⟩


theorem strOf_listLen (t : List Nat) : (strOf t).toList.length = t.length := by
  rw [ByteArray.toList_eq]; unfold strOf; rw [strOfNums_data]; simp
theorem strOf_notZero {t : List Nat} (h : t.length ≠ 1) : ((strOf t).toList == [48]) = false := by
  rw [beq_eq_false_iff_ne]
  intro e
  have := congrArg List.length e
  rw [strOf_listLen] at this
  exact h this
theorem strOf_zero : ((strOf [48]).toList == [48]) = true := by decide +kernel

set_option maxHeartbeats 400000 in
theorem istext_none (w : World) :
    Calls Try.prog 45 #[.string (strOf [])] w fun e w' => e = .returned (.bool false) ∧ w = w' := by
  have he0 : (strOf []).toList.isEmpty = true := strOf_isEmpty []
  go_enter Try.func45, Try.ntmps45
  go_wp2_with fail
  go_ret
  exact ⟨rfl, rfl⟩

set_option maxHeartbeats 400000 in
theorem istext_zero (t : List Nat) (w : World) (ht : ∀ x, x ∈ t → x < 256) (h1 : 1 < t.length) (h0 : nth t 0 = 48) :
    Calls Try.prog 45 #[.string (strOf t)] w fun e w' => e = .returned (.bool false) ∧ w = w' := by
  obtain ⟨S, hS⟩ : ∃ S, S = strOf t := ⟨_, rfl⟩
  rw [← hS]
  obtain ⟨m, hm⟩ : ∃ m, m = t.length := ⟨_, rfl⟩
  have hsz : S.size = m := by rw [hS, strOf_size, hm]
  have he : S.toList.isEmpty = false := by rw [hS, strOf_isEmpty]; cases t with | nil => simp at h1 | cons _ _ => rfl
  have hp : 0 < S.size := by omega
  have hb : (((S[0]'hp).toNat : Int) == 48) = true := by rw [strOf_at ht hS 0 hp, h0]; rfl
  have hm1 : (1 : Int) < (m : Int) := by omega
  have hnz : (S.toList == [48]) = false := by rw [hS]; exact strOf_notZero (by omega)
  clear hS h0 hm
  go_enter Try.func45, Try.ntmps45
  go_wp2_with fail
  go_ret
  exact ⟨rfl, rfl⟩

set_option maxHeartbeats 2000000 in
theorem istext_some (t : List Nat) (w : World) (ht : ∀ x, x ∈ t → x < 256) (hm0 : t.length ≤ 1000000) (h0 : t ≠ []) (hz0 : ¬ (1 < t.length ∧ nth t 0 = 48)) :
    Calls Try.prog 45 #[.string (strOf t)] w fun e w' => e = .returned (.bool (decide (Nt.IsText t))) ∧ w = w' := by
  obtain ⟨S, hS⟩ : ∃ S, S = strOf t := ⟨_, rfl⟩
  rw [← hS]
  obtain ⟨m, hm⟩ : ∃ m, m = t.length := ⟨_, rfl⟩
  have hl0 : 0 < t.length := List.length_pos_iff.2 h0
  have hsz : S.size = m := by rw [hS, strOf_size, hm]
  have he : S.toList.isEmpty = false := by rw [hS, strOf_isEmpty]; cases t with | nil => simp at hl0 | cons _ _ => rfl
  have hp : 0 < S.size := by omega
  have HSA := Lib.hid (fun i h => strOf_at ht hS i h)
  have HMT := Lib.hid hm
  have HNOT := Lib.hid (show ∀ i, i < m → ¬ Nt.IsHex (nth t i) → decide (Nt.IsText t) = false from fun i hi h => decide_eq_false fun ⟨_, _, h3⟩ => h (by
    have := h3 (m - 1 - i) (by omega)
    unfold Nt.ch at this
    rwa [← hm, show m - 1 - (m - 1 - i) = i from by omega] at this))
  have HYES := Lib.hid (show (∀ i, i < m → Nt.IsHex (nth t i)) → decide (Nt.IsText t) = true from fun h => decide_eq_true ⟨h0, hz0, fun j hj => by
    unfold Nt.ch
    exact h _ (by omega)⟩)
  have HLT := Lib.hid (fun i => nth_lt ht i)
  have hm1 : (m : Int) ≤ 1000000 := by omega
  have hwho : (((S[0]'hp).toNat : Int) == 48) = false ∨ ((((S[0]'hp).toNat : Int) == 48) = true ∧ (S.toList == [48]) = true) := by
    rw [strOf_at ht hS 0 hp]
    by_cases h : nth t 0 = 48
    · right
      have hl1 : t.length = 1 := by
        rcases Nat.lt_or_ge 1 t.length with h1 | h1
        · exact absurd ⟨h1, h⟩ hz0
        · omega
      refine ⟨by rw [h]; rfl, ?_⟩
      obtain ⟨c, rfl⟩ : ∃ c, t = [c] := by
        cases t with
        | nil => simp at hl1
        | cons c r => cases r with
          | nil => exact ⟨c, rfl⟩
          | cons _ _ => simp at hl1
      have hc : c = 48 := h
      subst hc
      rw [hS]; exact strOf_zero
    · left
      rw [beq_eq_false_iff_ne]; omega
  generalize decide (Nt.IsText t) = yes at *
  clear hS h0 hz0 hl0 hm hm0
  go_enter Try.func45, Try.ntmps45
  rcases hwho with hb | ⟨hb, hbz⟩
  all_goals
    go_wp2_with fail
    go_loop [3, 17] (fun _ i => ∃ k : Nat, k ≤ m ∧ i = .int .i64 k ∧ ∀ q, q < k → Nt.IsHex (nth t q)) (fun _ i => m - (intOf i).toNat)
    case atStart => exact ⟨0, by omega, rfl, fun q hq => by omega⟩
    case round =>
      obtain ⟨k, hk, rfl, hall⟩ := hrel
      have HA := Lib.hid hall
      clear hall
      by_cases hlt : k < m
      · have hks : k < S.size := by omega
        have hSc : (S[k]'hks).toNat = nth t k := HSA.out k hks
        have hc1 := HLT.out k
        have HN := Lib.hid (HNOT.out k hlt)
        have HX := Lib.hid (show Nt.IsHex (nth t k) → ∀ q, q < k + 1 → Nt.IsHex (nth t q) from fun h q hq => by
          by_cases e : q = k
          · rw [e]; exact h
          · exact HA.out q (by omega))
        generalize nth t k = c at *
        have HKL := Lib.hid hlt
        by_cases hh : Nt.IsHex c
        · have HX2 := Lib.hid (HX.out hh)
          have hv : ¬ hvI c < 0 := by unfold hvI; rw [if_pos hh]; omega
          clear hh
          go_wp2_with fail
          refine (index_any c _ hc1).mono ?_
          rintro e w' ⟨rfl, rfl⟩
          go_wp2_with fail
          have h9 := HKL.out
          exact ⟨⟨k + 1, h9, by go_num, HX2.out⟩, by simp [intOf]; omega⟩
        · have HN2 := Lib.hid (HN.out hh)
          have hv : hvI c < 0 := by unfold hvI; rw [if_neg hh]; decide
          clear hh
          go_wp2_with fail
          refine (index_any c _ hc1).mono ?_
          rintro e w' ⟨rfl, rfl⟩
          go_wp2_with fail
          go_ret
          exact ⟨by rw [HN2.out]; rfl, rfl⟩
      · obtain rfl : k = m := by omega
        have HY := Lib.hid (HYES.out HA.out)
        go_wp2_with fail
        go_ret
        exact ⟨by rw [HY.out]; rfl, rfl⟩

/-- Is it a number's text? -/
theorem istext_any (t : List Nat) (w : World) (ht : ∀ x, x ∈ t → x < 256) (hm0 : t.length ≤ 1000000) :
    Calls Try.prog 45 #[.string (strOf t)] w fun e w' => e = .returned (.bool (decide (Nt.IsText t))) ∧ w = w' := by
  by_cases h0 : t = []
  · subst h0
    rw [decide_eq_false (fun ⟨h, _⟩ => h rfl)]
    exact istext_none w
  · by_cases hz : 1 < t.length ∧ nth t 0 = 48
    · rw [decide_eq_false (fun ⟨_, h, _⟩ => h hz)]
      exact istext_zero t w ht hz.1 hz.2
    · exact istext_some t w ht hm0 h0 hz

end Go.Proofs.Ytobhlfkmdhoncaa
