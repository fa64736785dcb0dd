/- Texts of one seat, laid together: LawElevenC. -/
import Derived.Test.YtfefkchjhooloaaCutJoinsQ5

/-
  The laws of cuts (layer 11): CutJoins.
-/
set_option maxRecDepth 100000
namespace Go.Proofs.Ytfefkchjhooloaa
open Go.RowKit

theorem cut_join (o : List Nat) (s : Nat) : ∀ k, joinL (cutL o s k) = (List.range (k * s)).map (nth o)
  | 0 => by simp [joinL, cutL]
  | k + 1 => by
    unfold joinL
    rw [cutL_succ, List.flatten_append, Nat.succ_mul, List.range_add, List.map_append]
    have h := cut_join o s k
    unfold joinL at h
    rw [h]
    simp [cutP]
theorem cut_joined (o : List Nat) {N : Nat} (h : o.length ≤ N) : (List.range N).map (nth o) = o ++ zeros (N - o.length) := by
  have h1 := cutP_fit o N 0
  rw [Nat.zero_mul, List.drop_zero] at h1
  have h2 : cutP o N 0 N = (List.range N).map (nth o) := by
    unfold cutP
    apply List.map_congr_left
    intro j _
    rw [Nat.zero_mul, Nat.zero_add]
  rw [← h2, ← h1]
  unfold fitR
  rw [List.take_of_length_le h]
theorem zeroB_zeros (n : Nat) : zeroB (zeros n) = true := by
  unfold zeroB zeros
  rw [List.all_eq_true]
  intro x hx
  rw [List.mem_replicate] at hx
  simp [hx.2]
theorem cutL_row {o : List Nat} {s k : Nat} : ∀ i, i < (cutL o s k).length → (rowAt (cutL o s k) i).length = s := by
  intro i hi
  rw [cutL_length] at hi
  rw [cutL_at hi, cutP_length]
theorem cutL_nth {o : List Nat} {s k p : Nat} (hs : 1 ≤ s) (hp : p < k * s) : nth (rowAt (cutL o s k) (p / s)) (p % s) = nth o p := by
  have h1 : p / s < k := Nat.div_lt_of_lt_mul (by rw [Nat.mul_comm]; exact hp)
  have h2 : p % s < s := Nat.mod_lt _ hs
  rw [cutL_at h1, nth_eq _ _ (by rw [cutP_length]; exact h2)]
  unfold cutP
  rw [List.getElem_map, List.getElem_range, Nat.mul_comm, Nat.div_add_mod]

theorem of_made {l s : Nat} (hl : l ≤ 2000) (hs : 1 ≤ s) (hs2 : s ≤ 2000) : checkE (l : Int) (s : Int) (needI (l : Int) (s : Int)) = 0 := by
  have hn : needI (l : Int) (s : Int) = (needT l s : Int) := by
    unfold needI
    rw [if_neg (by omega), if_neg (by omega)]
    rfl
  have h1 : needT l s ≤ 2000 := by
    unfold needT
    split
    · omega
    · have : (l - 1) / s ≤ l - 1 := Nat.div_le_self _ _
      omega
  rw [check_spell, if_neg (by omega), if_neg (by omega), hn, if_neg (by omega), if_pos rfl]
theorem of_none {l s : Int} (hl : 0 ≤ l) (hs : s < 1) : checkE l s (needI l s) = 4 := by
  rw [check_spell, if_neg (by omega), if_pos (.inl hs)]
set_option maxHeartbeats 2000000 in
theorem cutJoins_early (v : Value) (o : List Nat) (s p : Int) (n : Nat) (w : World) (ho : Bytes w v o) (hs0 : -9223372036854775808 ≤ s) (hs9 : s ≤ 9223372036854775807) (hb : 2000 < o.length ∨ (o.length ≤ 2000 ∧ 2000 < s) ∨ (o.length ≤ 2000 ∧ s < 1)) :
    Calls Try.prog 4 #[v, .int .i64 s, .int .i64 p, .int .u32 (n : Int)] w fun e w' => e = .returned (.bool true) ∧ Below w.heap.size w w' := by
  have HO := Lib.hid ho
  obtain ⟨a, c, rfl, _⟩ := ho
  rcases hb with hb | ⟨hb, hb2⟩ | ⟨hb, hb2⟩
  · have hb1 : (2000 : Int) < (o.length : Int) := by omega
    go_enter Try.func4, Try.ntmps4
    go_wp2_with fail
    have B : Below w.heap.size w w := Below.refl _ _
    refine (awake11_any _).mono ?_
    rintro e w1 ⟨rfl, hb⟩
    replace HO := Lib.hid (HO.out.go hb)
    replace B := B.trans (hb.mono B.size)
    have hzw1 := B.size
    clear hb
    go_wp2_with fail
    go_ret
    exact ⟨rfl, B⟩
  · have hb1 : ¬ (2000 : Int) < (o.length : Int) := by omega
    go_enter Try.func4, Try.ntmps4
    go_wp2_with fail
    have B : Below w.heap.size w w := Below.refl _ _
    refine (awake11_any _).mono ?_
    rintro e w1 ⟨rfl, hb⟩
    replace HO := Lib.hid (HO.out.go hb)
    replace B := B.trans (hb.mono B.size)
    have hzw1 := B.size
    clear hb
    go_wp2_with fail
    go_ret
    exact ⟨rfl, B⟩
  · have hb1 : ¬ (2000 : Int) < (o.length : Int) := by omega
    have hb3 : ¬ 2000 < s := by omega
    have HOF := Lib.hid (fun w => of10_any (o.length : Int) s (n : Int) w (by omega) (by omega) (by omega))
    rw [of_none (by omega) hb2] at HOF
    unfold PlanE okV at HOF
    simp only [if_neg (show ¬ (4 : Int) = 0 by decide)] at HOF
    unfold planV at HOF
    go_enter Try.func4, Try.ntmps4
    go_wp2_with fail
    have B : Below w.heap.size w w := Below.refl _ _
    refine (awake11_any _).mono ?_
    rintro e w1 ⟨rfl, hb⟩
    replace HO := Lib.hid (HO.out.go hb)
    replace B := B.trans (hb.mono B.size)
    have hzw1 := B.size
    clear hb
    go_wp2_with fail
    refine (HOF.out _).mono ?_
    rintro e w2 ⟨rfl, hb⟩
    replace B := B.trans (hb.mono B.size)
    have hzw2 := B.size
    clear hb
    go_wp2_with fail
    obtain ⟨hb, hk, hs⟩ := blocks1 w2 #[.int .i64 0, .int .i64 0, .int .i64 0, .int .u32 0] 24
    generalize w2.alloc (.cells #[.int .i64 0, .int .i64 0, .int .i64 0, .int .u32 0] 24) = W3 at *
    have K1 := Lib.hid hk
    replace B := B.trans (hb.mono B.size)
    have hzW3 := B.size
    clear hb hk hs
    go_wp2_with fail
    go_ret
    exact ⟨rfl, B⟩

/-- What the plan of an object gives. -/
structure Made11 (o : List Nat) (s k : Nat) : Prop where
  ok : checkE (o.length : Int) (s : Int) (k : Int) = 0
  k9 : k ≤ 4096
  k1 : 1 ≤ k
  s1 : 1 ≤ s
  s2 : s ≤ 2000
  o9 : o.length ≤ 2000
  room : o.length ≤ k * s

set_option maxHeartbeats 4000000 in
theorem cutJoins_main (v : Value) (o : List Nat) (s' k' : Nat) (p : Int) (n : Nat) (w : World) (ho : Bytes w v o) (hM : Made11 o s' k')
    (hOF : ∀ w, Calls Try.prog 14 #[.int .i64 (o.length : Int), .int .i64 (s' : Int), .int .u32 (n : Int)] w (PlanE w o.length s' k' n 0)) :
    Calls Try.prog 4 #[v, .int .i64 s', .int .i64 p, .int .u32 (n : Int)] w fun e w' => e = .returned (.bool true) ∧ Below w.heap.size w w' := by
  have HM := Lib.hid hM
  obtain ⟨m1, m2, m3, m4, m5, m6, m7⟩ := hM
  obtain ⟨R, hR⟩ : ∃ R, R = cutL o s' k' := ⟨_, rfl⟩
  obtain ⟨N, hN⟩ : ∃ N, N = k' * s' := ⟨_, rfl⟩
  have HC := Lib.hid (fun v w ho => cutCut_any (o.length : Int) (s' : Int) (k' : Int) (n : Int) v o w (by omega) (by omega) (by omega) ho)
  have hce : cutE (o.length : Int) (s' : Int) (k' : Int) o = 0 := by unfold cutE; rw [if_pos m1, if_pos rfl]
  have hcs : cutS (o.length : Int) (s' : Int) (k' : Int) o = R := by unfold cutS; rw [if_pos hce, hR]; rfl
  rw [hce, hcs] at HC
  have HLL := Lib.hid (show R.length = k' by rw [hR]; exact cutL_length _ _ _)
  have HRW := Lib.hid (show ∀ i, i < R.length → (rowAt R i).length = s' by rw [hR]; exact cutL_row)
  have HJ := Lib.hid (show joinL R = o ++ zeros (N - o.length) by rw [hR, cut_join, ← hN, cut_joined o (by omega)])
  have HN := Lib.hid (show o.length ≤ N by omega)
  have HRM := Lib.hid (fun w => room_any (o.length : Int) (s' : Int) (k' : Int) (n : Int) w (by omega) (by omega) (by omega))
  rw [show roomI (o.length : Int) (s' : Int) (k' : Int) = (N : Int) by unfold roomI; rw [if_pos m1, hN]; simp] at HRM
  unfold planV at HRM
  have HSP := Lib.hid (fun w => spread_any (o.length : Int) (s' : Int) (k' : Int) (n : Int) p w (by omega) (by omega) (by omega))
  have HOF := Lib.hid hOF
  unfold PlanE planV at HOF
  have HO := Lib.hid ho
  obtain ⟨a, c, rfl, _⟩ := ho
  have hb1 : ¬ (2000 : Int) < (o.length : Int) := by omega
  have hb2 : ¬ (2000 : Int) < (s' : Int) := by omega
  have HNT := Lib.hid (show ∀ q, q < N → nth (rowAt R (q / s')) (q % s') = nth o q by
    intro q hq; rw [hR]; exact cutL_nth m4 (by rw [← hN]; exact hq))
  have HNK := Lib.hid (show ∀ q, q < N → q / s' < k' by
    intro q hq; exact Nat.div_lt_of_lt_mul (by rw [Nat.mul_comm, ← hN]; exact hq))
  clear hce hcs hOF hR hN m7
  by_cases hp : p < 0 ∨ (o.length : Int) ≤ p
  · have he : sprE (o.length : Int) (s' : Int) (k' : Int) p = 2 := by unfold sprE; rw [if_pos m1, if_pos hp]
    obtain ⟨e1, e2⟩ := spr_none (show sprE (o.length : Int) (s' : Int) (k' : Int) p ≠ 0 by rw [he]; decide)
    rw [he, e1, e2] at HSP
    clear he e1 e2
    rcases hp with hp | hp
    · skip
      go_enter Try.func4, Try.ntmps4
      go_wp2_with fail
      have B : Below w.heap.size w w := Below.refl _ _
      refine (awake11_any _).mono ?_
      rintro e w1 ⟨rfl, hb⟩
      replace HO := Lib.hid (HO.out.go hb)
      replace B := B.trans (hb.mono B.size)
      have hzw1 := B.size
      clear hb
      go_wp2_with fail
      refine (HOF.out _).mono ?_
      rintro e w2 ⟨rfl, hb⟩
      replace HO := Lib.hid (HO.out.go hb)
      replace B := B.trans (hb.mono B.size)
      have hzw2 := B.size
      clear hb
      go_wp2_with fail
      obtain ⟨hb, hk, hs⟩ := blocks1 w2 #[.int .i64 (o.length : Int), .int .i64 (s' : Int), .int .i64 (k' : Int), .int .u32 (n : Int)] 24
      generalize w2.alloc (.cells #[.int .i64 (o.length : Int), .int .i64 (s' : Int), .int .i64 (k' : Int), .int .u32 (n : Int)] 24) = W3 at *
      have K1 := Lib.hid hk
      replace HO := Lib.hid (HO.out.go hb)
      replace B := B.trans (hb.mono B.size)
      have hzW3 := B.size
      clear hb hk hs
      obtain ⟨p0, p1, p2, p3⟩ := K1.out.four
      have pl := K1.out.lt
      go_wp2_with fail
      clear p0 p1 p2 p3 pl
      refine (HC.out _ _ HO.out).mono ?_
      rintro e w4 ⟨u4, rfl, hu4, hb⟩
      replace K1 := Lib.hid (K1.out.go hb)
      replace HO := Lib.hid (HO.out.go hb)
      replace B := B.trans (hb.mono B.size)
      have hzw4 := B.size
      clear hb
      obtain ⟨ua, uc, rfl⟩ := hu4.shape
      have HU := Lib.hid hu4.rows
      simp only [HLL.out]
      clear hu4
      go_wp2_with fail
      obtain ⟨g1, hg1⟩ : ∃ g1 : Nat, g1 = w2.heap.size := ⟨_, rfl⟩
      rw [← hg1] at K1
      simp only [← hg1]
      clear hg1
      go_loopw [13, 15, 55] (fun out _ i wr => ∃ j : Nat, j ≤ k' ∧ i = .int .i64 j ∧ Since w4 wr ∧ Owns wr w4.heap.size out (joinL (R.take j))) (fun _ _ i _ => k' - (intOf i).toNat)
      case atStart => exact ⟨0, by omega, rfl, Below.refl _ _, Owns.nil _ _⟩
      case round =>
        obtain ⟨j, hj, rfl, hS, hO⟩ := hrel
        have HS4 := Lib.hid hS
        have HOW := Lib.hid hO
        obtain ⟨oa, on, oc, rfl⟩ := hO.shape
        have HFL := Lib.hid (joinL_len (ll := R) (s := s') j (by rw [HLL.out]; exact hj) (fun i hi => HRW.out i (by rw [HLL.out]; omega)))
        clear hS hO
        by_cases hlt : j < k'
        · obtain ⟨b, off, u, rfl, hu, hB⟩ := HU.out.row HS4.out j (by rw [HLL.out]; exact hlt)
          have HRB := Lib.hid hB
          obtain ⟨ra, rc, rfl, _⟩ := hB
          have i0 : (0 : Int) ≤ (j : Int) := Int.natCast_nonneg _
          have i1 : (j : Int) < (k' : Int) := by omega
          have hb : (((rowAt R j).length : Int) != (s' : Int)) = false := by rw [HRW.out j (by rw [HLL.out]; exact hlt)]; simp
          have HST := Lib.hid (joinL_take R (j := j) (by rw [HLL.out]; exact hlt))
          go_wp2_with (at_builtin; refine wpList_append_bytes rfl (.tmp 63) (.tmp 64) rfl w4.heap.size _ _ (joinL (R.take j)) (rowAt R j) rfl rfl HOW.out HRB.out (Below.size HS4.out) ?c1 ?_)
          case c1 =>
            have e1 := HFL.out
            have e2 := HRW.out j (by rw [HLL.out]; exact hlt)
            have : j * s' ≤ 4096 * 2000 := Nat.mul_le_mul (by have := HM.out.k9; omega) HM.out.s2
            have := HM.out.s2
            omega
          intro v5 w5 ho5 hg5
          rw [← HST.out] at ho5
          have HO5 := Lib.hid ho5
          have HS5 := Lib.hid (show Since w4 w5 from Below.grown HS4.out hg5 (Below.size HS4.out) (fun b e => by have := HOW.out.from b e; omega))
          clear ho5 hg5
          go_wp2_with fail
          go_roundw
          case rel => exact ⟨j + 1, by omega, by go_num, HS5.out, HO5.out⟩
          case measure => simp [intOf]; omega
        · obtain rfl : j = k' := by omega
          have HBY := Lib.hid (show Bytes wr (.slice oa on oc) (o ++ zeros (N - o.length)) by
            have h := HOW.out
            rw [show R.take j = R from List.take_of_length_le (by rw [HLL.out]; exact Nat.le_refl _), HJ.out] at h
            exact h.bytes (fun x hx => by
              rcases List.mem_append.1 hx with hx | hx
              · exact HO.out.lt x hx
              · exact zeros_lt _ x hx))
          have HON := Lib.hid (show on = N by
            obtain ⟨_, _, e, _⟩ := HBY.out
            simp only [Value.slice.injEq] at e
            rw [e.2.1, List.length_append]
            have := HN.out
            simp [zeros]; omega)
          have B5 := B.trans ((HS4.out).mono B.size)
          have hsz := Below.size HS4.out
          have K5 := Lib.hid (K1.out.go HS4.out)
          have HO5 := Lib.hid (HO.out.go HS4.out)
          have HU5 := Lib.hid (HU.out.go HS4.out)
          clear B K1 HO HU HOW HFL hj
          have hon := HON.out
          subst hon
          have hcp : (o.length : Int) ≤ (oc : Int) := by
            obtain ⟨_, c', e, h', _⟩ := HBY.out
            simp only [Value.slice.injEq] at e
            rw [e.2.2]
            rw [List.length_append] at h'
            omega
          have HBT := Lib.hid (HBY.out.take (i := o.length) (by simp))
          rw [List.take_left' rfl] at HBT
          obtain ⟨b5, d5, c5, hsl, hbr⟩ := slice_rest HBY.out (i := o.length) (by simp)
          rw [List.drop_left' rfl] at hbr
          have HBR := Lib.hid hbr
          obtain ⟨p0, p1, p2, p3⟩ := K5.out.four
          have pl := K5.out.lt
          have hol : (0 : Int) ≤ (o.length : Int) := Int.natCast_nonneg _
          clear hbr HON
          have B := B5
          clear B5
          go_wp2_with fail
          clear p0 p1 p2 p3 pl
          refine (HRM.out _).mono ?_
          rintro e w6 ⟨rfl, hb⟩
          replace K5 := Lib.hid (K5.out.go hb)
          replace HO5 := Lib.hid (HO5.out.go hb)
          replace HU5 := Lib.hid (HU5.out.go hb)
          replace HBT := Lib.hid (HBT.out.go hb)
          replace HBR := Lib.hid (HBR.out.go hb)
          replace B := B.trans (hb.mono B.size)
          have hzw6 := B.size
          clear hb
          obtain ⟨p0, p1, p2, p3⟩ := K5.out.four
          have pl := K5.out.lt
          go_wp2_with fail
          clear p0 p1 p2 p3 pl
          refine (same_any _ _ o o _ HBT.out HO5.out).mono ?_
          rintro e w7 ⟨rfl, hb⟩
          replace K5 := Lib.hid (K5.out.go hb)
          replace HO5 := Lib.hid (HO5.out.go hb)
          replace HU5 := Lib.hid (HU5.out.go hb)
          replace HBR := Lib.hid (HBR.out.go hb)
          replace B := B.trans (hb.mono B.size)
          have hzw7 := B.size
          clear hb
          rw [show decide (o = o) = true by simp]
          obtain ⟨p0, p1, p2, p3⟩ := K5.out.four
          have pl := K5.out.lt
          go_wp2_with fail
          refine (refzero_any _ (zeros (on - o.length)) _ HBR.out).mono ?_
          rintro e w' ⟨rfl, rfl⟩
          rw [zeroB_zeros]
          go_wp2_with fail
          refine (HSP.out _).mono ?_
          rintro e w8 ⟨rfl, hb⟩
          replace B := B.trans (hb.mono B.size)
          have hzw8 := B.size
          clear hb
          go_wp2_with fail
          go_ret
          exact ⟨rfl, B⟩
    · have hp0 : ¬ p < 0 := by omega
      go_enter Try.func4, Try.ntmps4
      go_wp2_with fail
      have B : Below w.heap.size w w := Below.refl _ _
      refine (awake11_any _).mono ?_
      rintro e w1 ⟨rfl, hb⟩
      replace HO := Lib.hid (HO.out.go hb)
      replace B := B.trans (hb.mono B.size)
      have hzw1 := B.size
      clear hb
      go_wp2_with fail
      refine (HOF.out _).mono ?_
      rintro e w2 ⟨rfl, hb⟩
      replace HO := Lib.hid (HO.out.go hb)
      replace B := B.trans (hb.mono B.size)
      have hzw2 := B.size
      clear hb
      go_wp2_with fail
      obtain ⟨hb, hk, hs⟩ := blocks1 w2 #[.int .i64 (o.length : Int), .int .i64 (s' : Int), .int .i64 (k' : Int), .int .u32 (n : Int)] 24
      generalize w2.alloc (.cells #[.int .i64 (o.length : Int), .int .i64 (s' : Int), .int .i64 (k' : Int), .int .u32 (n : Int)] 24) = W3 at *
      have K1 := Lib.hid hk
      replace HO := Lib.hid (HO.out.go hb)
      replace B := B.trans (hb.mono B.size)
      have hzW3 := B.size
      clear hb hk hs
      obtain ⟨p0, p1, p2, p3⟩ := K1.out.four
      have pl := K1.out.lt
      go_wp2_with fail
      clear p0 p1 p2 p3 pl
      refine (HC.out _ _ HO.out).mono ?_
      rintro e w4 ⟨u4, rfl, hu4, hb⟩
      replace K1 := Lib.hid (K1.out.go hb)
      replace HO := Lib.hid (HO.out.go hb)
      replace B := B.trans (hb.mono B.size)
      have hzw4 := B.size
      clear hb
      obtain ⟨ua, uc, rfl⟩ := hu4.shape
      have HU := Lib.hid hu4.rows
      simp only [HLL.out]
      clear hu4
      go_wp2_with fail
      obtain ⟨g1, hg1⟩ : ∃ g1 : Nat, g1 = w2.heap.size := ⟨_, rfl⟩
      rw [← hg1] at K1
      simp only [← hg1]
      clear hg1
      go_loopw [13, 15, 55] (fun out _ i wr => ∃ j : Nat, j ≤ k' ∧ i = .int .i64 j ∧ Since w4 wr ∧ Owns wr w4.heap.size out (joinL (R.take j))) (fun _ _ i _ => k' - (intOf i).toNat)
      case atStart => exact ⟨0, by omega, rfl, Below.refl _ _, Owns.nil _ _⟩
      case round =>
        obtain ⟨j, hj, rfl, hS, hO⟩ := hrel
        have HS4 := Lib.hid hS
        have HOW := Lib.hid hO
        obtain ⟨oa, on, oc, rfl⟩ := hO.shape
        have HFL := Lib.hid (joinL_len (ll := R) (s := s') j (by rw [HLL.out]; exact hj) (fun i hi => HRW.out i (by rw [HLL.out]; omega)))
        clear hS hO
        by_cases hlt : j < k'
        · obtain ⟨b, off, u, rfl, hu, hB⟩ := HU.out.row HS4.out j (by rw [HLL.out]; exact hlt)
          have HRB := Lib.hid hB
          obtain ⟨ra, rc, rfl, _⟩ := hB
          have i0 : (0 : Int) ≤ (j : Int) := Int.natCast_nonneg _
          have i1 : (j : Int) < (k' : Int) := by omega
          have hb : (((rowAt R j).length : Int) != (s' : Int)) = false := by rw [HRW.out j (by rw [HLL.out]; exact hlt)]; simp
          have HST := Lib.hid (joinL_take R (j := j) (by rw [HLL.out]; exact hlt))
          go_wp2_with (at_builtin; refine wpList_append_bytes rfl (.tmp 63) (.tmp 64) rfl w4.heap.size _ _ (joinL (R.take j)) (rowAt R j) rfl rfl HOW.out HRB.out (Below.size HS4.out) ?c1 ?_)
          case c1 =>
            have e1 := HFL.out
            have e2 := HRW.out j (by rw [HLL.out]; exact hlt)
            have : j * s' ≤ 4096 * 2000 := Nat.mul_le_mul (by have := HM.out.k9; omega) HM.out.s2
            have := HM.out.s2
            omega
          intro v5 w5 ho5 hg5
          rw [← HST.out] at ho5
          have HO5 := Lib.hid ho5
          have HS5 := Lib.hid (show Since w4 w5 from Below.grown HS4.out hg5 (Below.size HS4.out) (fun b e => by have := HOW.out.from b e; omega))
          clear ho5 hg5
          go_wp2_with fail
          go_roundw
          case rel => exact ⟨j + 1, by omega, by go_num, HS5.out, HO5.out⟩
          case measure => simp [intOf]; omega
        · obtain rfl : j = k' := by omega
          have HBY := Lib.hid (show Bytes wr (.slice oa on oc) (o ++ zeros (N - o.length)) by
            have h := HOW.out
            rw [show R.take j = R from List.take_of_length_le (by rw [HLL.out]; exact Nat.le_refl _), HJ.out] at h
            exact h.bytes (fun x hx => by
              rcases List.mem_append.1 hx with hx | hx
              · exact HO.out.lt x hx
              · exact zeros_lt _ x hx))
          have HON := Lib.hid (show on = N by
            obtain ⟨_, _, e, _⟩ := HBY.out
            simp only [Value.slice.injEq] at e
            rw [e.2.1, List.length_append]
            have := HN.out
            simp [zeros]; omega)
          have B5 := B.trans ((HS4.out).mono B.size)
          have hsz := Below.size HS4.out
          have K5 := Lib.hid (K1.out.go HS4.out)
          have HO5 := Lib.hid (HO.out.go HS4.out)
          have HU5 := Lib.hid (HU.out.go HS4.out)
          clear B K1 HO HU HOW HFL hj
          have hon := HON.out
          subst hon
          have hcp : (o.length : Int) ≤ (oc : Int) := by
            obtain ⟨_, c', e, h', _⟩ := HBY.out
            simp only [Value.slice.injEq] at e
            rw [e.2.2]
            rw [List.length_append] at h'
            omega
          have HBT := Lib.hid (HBY.out.take (i := o.length) (by simp))
          rw [List.take_left' rfl] at HBT
          obtain ⟨b5, d5, c5, hsl, hbr⟩ := slice_rest HBY.out (i := o.length) (by simp)
          rw [List.drop_left' rfl] at hbr
          have HBR := Lib.hid hbr
          obtain ⟨p0, p1, p2, p3⟩ := K5.out.four
          have pl := K5.out.lt
          have hol : (0 : Int) ≤ (o.length : Int) := Int.natCast_nonneg _
          clear hbr HON
          have B := B5
          clear B5
          go_wp2_with fail
          clear p0 p1 p2 p3 pl
          refine (HRM.out _).mono ?_
          rintro e w6 ⟨rfl, hb⟩
          replace K5 := Lib.hid (K5.out.go hb)
          replace HO5 := Lib.hid (HO5.out.go hb)
          replace HU5 := Lib.hid (HU5.out.go hb)
          replace HBT := Lib.hid (HBT.out.go hb)
          replace HBR := Lib.hid (HBR.out.go hb)
          replace B := B.trans (hb.mono B.size)
          have hzw6 := B.size
          clear hb
          obtain ⟨p0, p1, p2, p3⟩ := K5.out.four
          have pl := K5.out.lt
          go_wp2_with fail
          clear p0 p1 p2 p3 pl
          refine (same_any _ _ o o _ HBT.out HO5.out).mono ?_
          rintro e w7 ⟨rfl, hb⟩
          replace K5 := Lib.hid (K5.out.go hb)
          replace HO5 := Lib.hid (HO5.out.go hb)
          replace HU5 := Lib.hid (HU5.out.go hb)
          replace HBR := Lib.hid (HBR.out.go hb)
          replace B := B.trans (hb.mono B.size)
          have hzw7 := B.size
          clear hb
          rw [show decide (o = o) = true by simp]
          obtain ⟨p0, p1, p2, p3⟩ := K5.out.four
          have pl := K5.out.lt
          go_wp2_with fail
          refine (refzero_any _ (zeros (on - o.length)) _ HBR.out).mono ?_
          rintro e w' ⟨rfl, rfl⟩
          rw [zeroB_zeros]
          go_wp2_with fail
          refine (HSP.out _).mono ?_
          rintro e w8 ⟨rfl, hb⟩
          replace B := B.trans (hb.mono B.size)
          have hzw8 := B.size
          clear hb
          go_wp2_with fail
          go_ret
          exact ⟨rfl, B⟩
  · obtain ⟨p', hpp⟩ : ∃ p' : Nat, p = p' := ⟨p.toNat, by omega⟩
    have hpt : p.toNat = p' := by omega
    have HPP := Lib.hid hpp
    have he : sprE (o.length : Int) (s' : Int) (k' : Int) p = 0 := by unfold sprE; rw [if_pos m1, if_neg hp]
    have e1 : sprI (o.length : Int) (s' : Int) (k' : Int) p = ((p' / s' : Nat) : Int) := by unfold sprI; rw [if_pos he, hpt]; rfl
    have e2 : sprK (o.length : Int) (s' : Int) (k' : Int) p = ((p' % s' : Nat) : Int) := by unfold sprK; rw [if_pos he, hpt]; rfl
    rw [he, e1, e2] at HSP
    clear he e1 e2
    have hpN : p' < N := by have := HN.out; omega
    have HP := Lib.hid (show p' < o.length by omega)
    have HNJ := Lib.hid (HNT.out p' hpN)
    have HIK := Lib.hid (HNK.out p' hpN)
    have HJS := Lib.hid (show p' % s' < s' from Nat.mod_lt _ m4)
    have hdm := Nat.div_add_mod p' s'
    obtain ⟨I, hI⟩ : ∃ I, I = p' / s' := ⟨_, rfl⟩
    obtain ⟨J, hJ⟩ : ∃ J, J = p' % s' := ⟨_, rfl⟩
    rw [← hI, ← hJ] at HNJ hdm HSP
    rw [← hI] at HIK
    rw [← hJ] at HJS
    have HNP := Lib.hid (show ¬ (p < 0 ∨ (o.length : Int) ≤ p) from hp)
    clear hI hJ hpN hp hpp
    obtain ⟨M, hM⟩ : ∃ M, M = s' * I := ⟨_, rfl⟩
    rw [← hM] at hdm
    have hMi : (I : Int) * (s' : Int) = (M : Int) := by rw [hM, Nat.mul_comm]; simp
    have HW1 := Lib.hid (show wrap64 ((I : Int) * (s' : Int)) = (M : Int) by rw [hMi]; have := HP.out; unfold wrap64; omega)
    have HW2 := Lib.hid (show wrap64 ((M : Int) + (J : Int)) = p by have := HP.out; have := HPP.out; unfold wrap64; omega)
    clear hM hdm hMi
    go_enter Try.func4, Try.ntmps4
    go_wp2_with fail
    have B : Below w.heap.size w w := Below.refl _ _
    refine (awake11_any _).mono ?_
    rintro e w1 ⟨rfl, hb⟩
    replace HO := Lib.hid (HO.out.go hb)
    replace B := B.trans (hb.mono B.size)
    have hzw1 := B.size
    clear hb
    go_wp2_with fail
    refine (HOF.out _).mono ?_
    rintro e w2 ⟨rfl, hb⟩
    replace HO := Lib.hid (HO.out.go hb)
    replace B := B.trans (hb.mono B.size)
    have hzw2 := B.size
    clear hb
    go_wp2_with fail
    obtain ⟨hb, hk, hs⟩ := blocks1 w2 #[.int .i64 (o.length : Int), .int .i64 (s' : Int), .int .i64 (k' : Int), .int .u32 (n : Int)] 24
    generalize w2.alloc (.cells #[.int .i64 (o.length : Int), .int .i64 (s' : Int), .int .i64 (k' : Int), .int .u32 (n : Int)] 24) = W3 at *
    have K1 := Lib.hid hk
    replace HO := Lib.hid (HO.out.go hb)
    replace B := B.trans (hb.mono B.size)
    have hzW3 := B.size
    clear hb hk hs
    obtain ⟨p0, p1, p2, p3⟩ := K1.out.four
    have pl := K1.out.lt
    go_wp2_with fail
    clear p0 p1 p2 p3 pl
    refine (HC.out _ _ HO.out).mono ?_
    rintro e w4 ⟨u4, rfl, hu4, hb⟩
    replace K1 := Lib.hid (K1.out.go hb)
    replace HO := Lib.hid (HO.out.go hb)
    replace B := B.trans (hb.mono B.size)
    have hzw4 := B.size
    clear hb
    obtain ⟨ua, uc, rfl⟩ := hu4.shape
    have HU := Lib.hid hu4.rows
    simp only [HLL.out]
    clear hu4
    go_wp2_with fail
    obtain ⟨g1, hg1⟩ : ∃ g1 : Nat, g1 = w2.heap.size := ⟨_, rfl⟩
    rw [← hg1] at K1
    simp only [← hg1]
    clear hg1
    go_loopw [13, 15, 55] (fun out _ i wr => ∃ j : Nat, j ≤ k' ∧ i = .int .i64 j ∧ Since w4 wr ∧ Owns wr w4.heap.size out (joinL (R.take j))) (fun _ _ i _ => k' - (intOf i).toNat)
    case atStart => exact ⟨0, by omega, rfl, Below.refl _ _, Owns.nil _ _⟩
    case round =>
      obtain ⟨j, hj, rfl, hS, hO⟩ := hrel
      have HS4 := Lib.hid hS
      have HOW := Lib.hid hO
      obtain ⟨oa, on, oc, rfl⟩ := hO.shape
      have HFL := Lib.hid (joinL_len (ll := R) (s := s') j (by rw [HLL.out]; exact hj) (fun i hi => HRW.out i (by rw [HLL.out]; omega)))
      clear hS hO
      by_cases hlt : j < k'
      · obtain ⟨b, off, u, rfl, hu, hB⟩ := HU.out.row HS4.out j (by rw [HLL.out]; exact hlt)
        have HRB := Lib.hid hB
        obtain ⟨ra, rc, rfl, _⟩ := hB
        have i0 : (0 : Int) ≤ (j : Int) := Int.natCast_nonneg _
        have i1 : (j : Int) < (k' : Int) := by omega
        have hb : (((rowAt R j).length : Int) != (s' : Int)) = false := by rw [HRW.out j (by rw [HLL.out]; exact hlt)]; simp
        have HST := Lib.hid (joinL_take R (j := j) (by rw [HLL.out]; exact hlt))
        go_wp2_with (at_builtin; refine wpList_append_bytes rfl (.tmp 63) (.tmp 64) rfl w4.heap.size _ _ (joinL (R.take j)) (rowAt R j) rfl rfl HOW.out HRB.out (Below.size HS4.out) ?c1 ?_)
        case c1 =>
          have e1 := HFL.out
          have e2 := HRW.out j (by rw [HLL.out]; exact hlt)
          have : j * s' ≤ 4096 * 2000 := Nat.mul_le_mul (by have := HM.out.k9; omega) HM.out.s2
          have := HM.out.s2
          omega
        intro v5 w5 ho5 hg5
        rw [← HST.out] at ho5
        have HO5 := Lib.hid ho5
        have HS5 := Lib.hid (show Since w4 w5 from Below.grown HS4.out hg5 (Below.size HS4.out) (fun b e => by have := HOW.out.from b e; omega))
        clear ho5 hg5
        go_wp2_with fail
        go_roundw
        case rel => exact ⟨j + 1, by omega, by go_num, HS5.out, HO5.out⟩
        case measure => simp [intOf]; omega
      · obtain rfl : j = k' := by omega
        have HBY := Lib.hid (show Bytes wr (.slice oa on oc) (o ++ zeros (N - o.length)) by
          have h := HOW.out
          rw [show R.take j = R from List.take_of_length_le (by rw [HLL.out]; exact Nat.le_refl _), HJ.out] at h
          exact h.bytes (fun x hx => by
            rcases List.mem_append.1 hx with hx | hx
            · exact HO.out.lt x hx
            · exact zeros_lt _ x hx))
        have HON := Lib.hid (show on = N by
          obtain ⟨_, _, e, _⟩ := HBY.out
          simp only [Value.slice.injEq] at e
          rw [e.2.1, List.length_append]
          have := HN.out
          simp [zeros]; omega)
        have B5 := B.trans ((HS4.out).mono B.size)
        have hsz := Below.size HS4.out
        have K5 := Lib.hid (K1.out.go HS4.out)
        have HO5 := Lib.hid (HO.out.go HS4.out)
        have HU5 := Lib.hid (HU.out.go HS4.out)
        clear B K1 HO HU HOW HFL hj
        have hon := HON.out
        subst hon
        have hcp : (o.length : Int) ≤ (oc : Int) := by
          obtain ⟨_, c', e, h', _⟩ := HBY.out
          simp only [Value.slice.injEq] at e
          rw [e.2.2]
          rw [List.length_append] at h'
          omega
        have HBT := Lib.hid (HBY.out.take (i := o.length) (by simp))
        rw [List.take_left' rfl] at HBT
        obtain ⟨b5, d5, c5, hsl, hbr⟩ := slice_rest HBY.out (i := o.length) (by simp)
        rw [List.drop_left' rfl] at hbr
        have HBR := Lib.hid hbr
        obtain ⟨p0, p1, p2, p3⟩ := K5.out.four
        have pl := K5.out.lt
        have hol : (0 : Int) ≤ (o.length : Int) := Int.natCast_nonneg _
        clear hbr HON
        have B := B5
        clear B5
        go_wp2_with fail
        clear p0 p1 p2 p3 pl
        refine (HRM.out _).mono ?_
        rintro e w6 ⟨rfl, hb⟩
        replace K5 := Lib.hid (K5.out.go hb)
        replace HO5 := Lib.hid (HO5.out.go hb)
        replace HU5 := Lib.hid (HU5.out.go hb)
        replace HBT := Lib.hid (HBT.out.go hb)
        replace HBR := Lib.hid (HBR.out.go hb)
        replace B := B.trans (hb.mono B.size)
        have hzw6 := B.size
        clear hb
        obtain ⟨p0, p1, p2, p3⟩ := K5.out.four
        have pl := K5.out.lt
        go_wp2_with fail
        clear p0 p1 p2 p3 pl
        refine (same_any _ _ o o _ HBT.out HO5.out).mono ?_
        rintro e w7 ⟨rfl, hb⟩
        replace K5 := Lib.hid (K5.out.go hb)
        replace HO5 := Lib.hid (HO5.out.go hb)
        replace HU5 := Lib.hid (HU5.out.go hb)
        replace HBR := Lib.hid (HBR.out.go hb)
        replace B := B.trans (hb.mono B.size)
        have hzw7 := B.size
        clear hb
        rw [show decide (o = o) = true by simp]
        obtain ⟨p0, p1, p2, p3⟩ := K5.out.four
        have pl := K5.out.lt
        go_wp2_with fail
        refine (refzero_any _ (zeros (on - o.length)) _ HBR.out).mono ?_
        rintro e w' ⟨rfl, rfl⟩
        rw [zeroB_zeros]
        go_wp2_with fail
        refine (HSP.out _).mono ?_
        rintro e w8 ⟨rfl, hb⟩
        replace HU5 := Lib.hid (HU5.out.go hb)
        replace HO5 := Lib.hid (HO5.out.go hb)
        replace B := B.trans (hb.mono B.size)
        have hzw8 := B.size
        clear hb
        obtain ⟨bI, oI, uI, rfl, cI, hBI⟩ := HU5.out.row (Below.refl _ _) I (by rw [HLL.out]; exact HIK.out)
        obtain ⟨ra, rc, rfl, _⟩ := id hBI
        have hJL : J < (rowAt R I).length := by rw [HRW.out I (by rw [HLL.out]; exact HIK.out)]; exact HJS.out
        obtain ⟨bJ, oJ, rfl, cJ⟩ := hBI.at J hJL
        obtain ⟨bP, oP, rfl, cP⟩ := HO5.out.at p' HP.out
        rw [HNJ.out] at cJ
        obtain ⟨y, hy⟩ : ∃ y, y = nth o p' := ⟨_, rfl⟩
        rw [← hy] at cJ cP
        have i0 : (0 : Int) ≤ (I : Int) := Int.natCast_nonneg _
        have i1 : (I : Int) < (j : Int) := by have := HIK.out; omega
        have i2 : (0 : Int) ≤ (J : Int) := Int.natCast_nonneg _
        have i3 : (J : Int) < ((rowAt R I).length : Int) := by omega
        have i4 : (0 : Int) ≤ p := by have := HPP.out; omega
        have i5 : p < (o.length : Int) := by have := HP.out; have := HPP.out; omega
        have i6 : (J : Int) < (s' : Int) := by have := HJS.out; omega
        have e1 := HW1.out
        have e2 := HW2.out
        clear hJL hy hBI
        go_wp2_with fail
        go_quiet (fail)
        have B2 := B.trans ((below_drews w8 nq).mono B.size)
        generalize w8.drewN nq = w9 at *
        go_wp2_with fail
        go_ret
        exact ⟨rfl, B2⟩
        done

theorem cutJoins_walk (v : Value) (o : List Nat) (s p : Int) (n : Nat) (w : World) (ho : Bytes w v o) (hs0 : -9223372036854775808 ≤ s) (hs9 : s ≤ 9223372036854775807) (_ : -9223372036854775808 ≤ p) (_ : p ≤ 9223372036854775807) (_ : n < 4294967296) :
    Calls Try.prog 4 #[v, .int .i64 s, .int .i64 p, .int .u32 (n : Int)] w fun e w' => e = .returned (.bool true) ∧ Below w.heap.size w w' := by
  by_cases hb : 2000 < o.length ∨ (o.length ≤ 2000 ∧ 2000 < s) ∨ (o.length ≤ 2000 ∧ s < 1)
  · exact cutJoins_early v o s p n w ho hs0 hs9 hb
  · obtain ⟨s', rfl⟩ : ∃ s' : Nat, s = s' := ⟨s.toNat, by omega⟩
    have ho2 : o.length ≤ 2000 := by omega
    have hs1 : 1 ≤ s' := by omega
    have hs2 : s' ≤ 2000 := by omega
    have hc := of_made ho2 hs1 hs2
    obtain ⟨q1, q2, q3, q4, q5, q6, q7⟩ := check_ok10 hc
    obtain ⟨k', hk⟩ : ∃ k' : Nat, needI (o.length : Int) (s' : Int) = k' := ⟨(needI (o.length : Int) (s' : Int)).toNat, by omega⟩
    rw [hk] at hc q4 q5 q7
    refine cutJoins_main v o s' k' p n w ho ⟨hc, by omega, by omega, hs1, hs2, ho2, by rw [← Int.natCast_mul] at q7; omega⟩ fun w => ?_
    have h := of10_any (o.length : Int) (s' : Int) (n : Int) w (by omega) (by omega) (by omega)
    rw [hk, hc] at h
    exact h

end Go.Proofs.Ytfefkchjhooloaa
