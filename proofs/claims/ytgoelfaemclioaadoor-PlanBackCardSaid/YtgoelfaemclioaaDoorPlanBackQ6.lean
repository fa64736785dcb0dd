/- Texts of one seat, laid together: PlanD. -/
import Derived.Test.YtgoelfaemclioaaDoorPlanBackQ4
import Derived.Test.YtgoelfaemclioaaDoorPlanBackQ3
import Derived.Test.YtgoelfaemclioaaDoorPlanBackQ5

/-
  The program's numbers of a plan's text: what the document's Parse reads.
-/
set_option maxRecDepth 100000
namespace Go.Proofs.YtgoelfaemclioaaDoor
open Go.RowKit

def SomeMax (w : World) : Prop := ∃ m, w.cell? ⟨5, 0, none⟩ = some (.int .i64 m)
theorem SomeMax.go {w w' : World} (h : SomeMax w) (hb : Below w.heap.size w w') : SomeMax w' := by
  obtain ⟨m, h1⟩ := h
  exact ⟨m, by rw [hb.cell (show (⟨5, 0, none⟩ : Addr).block < w.heap.size from Lib.lt_of_cell h1)]; exact h1⟩
def numsV (o : Option (List Int)) : Value := match o with
  | some a => .tuple #[.agg #[.int .u64 (a.getD 0 0), .int .u64 (a.getD 1 0), .int .u64 (a.getD 2 0), .int .u64 (a.getD 3 0)], .bool true]
  | none => .tuple #[.agg #[.int .u64 0, .int .u64 0, .int .u64 0, .int .u64 0], .bool false]
def NumsV (w : World) (o : Option (List Int)) (e : Ending) (w' : World) : Prop := e = .returned (numsV o) ∧ Below w.heap.size w w'
theorem split_any (t : List Nat) (w : World) (ht : ∀ x, x ∈ t → x < 256) (hlen : t.length ≤ 1000) (hM : SomeMax w) :
    Calls Tryd.prog 26 #[.string (strOf t), .string blank] w fun e w' => (e = .returned (.slice (some ⟨w.heap.size, 0, none⟩) (cntN t + 1) (cntN t + 1)) ∧ Blk w' w.heap.size ((words (cntN t) t).map fun v => Value.string (strOf v)).toArray 9) ∧ Below w.heap.size w w' := by
  obtain ⟨m, hm⟩ := hM
  refine (Tryd.strings_Split (strOf t) blank m w (by rw [strOf_size]; omega) hm (by decide)).mono ?_
  rintro e w' ⟨rfl, rfl⟩
  refine ⟨⟨rfl, ?_⟩, (Below.refl _ _).alloc (Nat.le_refl _) _⟩
  have h := split_words (cntN t) t ht
  unfold cntN at *
  rw [h, List.map_map]
  exact Blk.new w _ _ _ rfl

def cellsJ (t : List Nat) (j : Nat) : Array Value := #[.int .u64 (if 0 < j then (numN (wd1 t) : Int) else 0), .int .u64 (if 1 < j then (numN (wd2 t) : Int) else 0), .int .u64 (if 2 < j then (numN (wd3 t) : Int) else 0), .int .u64 (if 3 < j then (numN (wd4 t) : Int) else 0)]
def preJ (t : List Nat) (j : Nat) : Prop := (0 < j → numB (wd1 t) 4294967296 = true) ∧ (1 < j → numB (wd2 t) 2147483648 = true) ∧ (2 < j → numB (wd3 t) 2147483648 = true) ∧ (3 < j → numB (wd4 t) 2147483648 = true)
theorem preJ_zero (t : List Nat) : preJ t 0 := ⟨fun h => by omega, fun h => by omega, fun h => by omega, fun h => by omega⟩
theorem wd_lt {t : List Nat} (ht : ∀ x, x ∈ t → x < 256) : (∀ x, x ∈ wd1 t → x < 256) ∧ (∀ x, x ∈ wd2 t → x < 256) ∧ (∀ x, x ∈ wd3 t → x < 256) ∧ (∀ x, x ∈ wd4 t → x < 256) :=
  ⟨wordW_lt (wordR_lt ht), wordW_lt (wordR_lt (wordR_lt ht)), wordW_lt (wordR_lt (wordR_lt (wordR_lt ht))), wordW_lt (wordR_lt (wordR_lt (wordR_lt (wordR_lt ht))))⟩
theorem wd_len (t : List Nat) : (wd1 t).length ≤ t.length ∧ (wd2 t).length ≤ t.length ∧ (wd3 t).length ≤ t.length ∧ (wd4 t).length ≤ t.length := by
  have h1 := word_len t
  have h2 := word_len (wordR t)
  have h3 := word_len (wordR (wordR t))
  have h4 := word_len (wordR (wordR (wordR t)))
  have h5 := word_len (wordR (wordR (wordR (wordR t))))
  unfold wd1 wd2 wd3 wd4
  omega
theorem num_of {t : List Nat} {n : Nat} {b : Int} (hd : decL (n : Int) = t) (hn : (n : Int) < b) (hn2 : n < 4294967296) : numB t b = true ∧ numN t = n := by
  subst hd
  have hv := dec_val n
  have hV := numV_val (decL (n : Int))
  rw [hv] at hV
  have hok : NumOk (decL (n : Int)) := ⟨dec_ne n, by
    rintro ⟨h1, h2⟩
    by_cases hn0 : 0 < n
    · exact dec_head n hn0 h2
    · obtain rfl : n = 0 := by omega
      rw [dec_one (by omega)] at h1
      simp at h1, dig_all.2 (dec_dig n)⟩
  have e : numV (decL (n : Int)) = n := by omega
  exact ⟨by unfold numB; rw [decide_eq_true_iff, e]; exact ⟨hok, hn⟩, by unfold numN; rw [if_pos hok, e]⟩
theorem Blk.off {w : World} {g g' : Nat} {vs : Array Value} {T : TypeId} (h : Blk w g vs T) (hg : g ≠ g') (k : Nat) (v : Value) : Blk (w.setCell ⟨g', k, none⟩ v) g vs T := by
  unfold Blk; rw [Below.heap_setCell w _ v g hg]; exact h
theorem puO_le {M : Nat} {t : List Nat} {n : Nat} (h : some n = puO M t) : n ≤ M := by
  unfold puO at h
  by_cases h0 : t = []
  · rw [if_pos h0] at h; cases h
  rw [if_neg h0, puM_iff t 0 (Nat.zero_le _)] at h
  split at h
  · next h' => obtain rfl := Option.some.inj h; exact h'.2
  · cases h
set_option maxHeartbeats 2000000 in
theorem numbers_any (t : List Nat) (w : World) (ht : ∀ x, x ∈ t → x < 256) (hlen : t.length ≤ 1000) (hM : SomeMax w) (hS : Sents w) (hT : PowTab w) :
    Calls Tryd.prog 21 #[.string (strOf t)] w (NumsV w (plRead t)) := by
  have HSP := Lib.hid (fun w hm => split_any t w ht hlen hm)
  have HM := Lib.hid hM
  have HSN := Lib.hid hS
  have HS0 := Lib.hid hS
  have HT0 := Lib.hid hT
  have HT := Lib.hid hT
  have HTL := Lib.hid ht
  obtain ⟨P, hP⟩ : ∃ P, P = plRead t := ⟨_, rfl⟩
  have HP := Lib.hid hP
  rw [← hP]
  clear hP hM hS hT ht
  obtain ⟨n, hn⟩ : ∃ n, n = cntN t := ⟨_, rfl⟩
  have HN := Lib.hid hn
  rw [← hn] at HSP
  clear hn
  have HNL : (n : Int) ≤ 1000 := by
    have h := Lib.countB_le blank (by decide) t.length (strOf t) (by rw [strOf_size]; exact Nat.le_refl _)
    have e := HN.out
    unfold cntN at e
    rw [strOf_size] at h
    omega
  generalize strOf t = S at *
  go_enter Tryd.func21, Tryd.ntmps21
  go_wp2_with fail
  obtain ⟨B, hk1, hs⟩ := blocks1 w #[.int .u64 0, .int .u64 0, .int .u64 0, .int .u64 0] 47
  generalize (w.alloc (.cells #[.int .u64 0, .int .u64 0, .int .u64 0, .int .u64 0] 47)) = W at *
  have K1 := Lib.hid hk1
  have HS := Lib.hid hs
  clear hs hk1
  replace HM := Lib.hid (HM.out.go B)
  replace HSN := Lib.hid (HSN.out.go B)
  replace HT := Lib.hid (HT.out.go B)
  have hzW := B.size
  refine (HSP.out _ HM.out).mono ?_
  rintro e w1 ⟨⟨rfl, hk⟩, hb⟩
  replace K1 := Lib.hid (K1.out.go hb)
  replace HM := Lib.hid (HM.out.go hb)
  replace HSN := Lib.hid (HSN.out.go hb)
  replace HT := Lib.hid (HT.out.go hb)
  replace B := B.trans (hb.mono B.size)
  have hzw1 := B.size
  clear hb
  have KW := Lib.hid hk
  have HW0 : W.heap.size < w1.heap.size := hk.lt
  clear hk
  go_upto_region 3 with fail
  have hs2 : (w1.alloc (.cells #[.int .u64 0, .int .u64 0, .int .u64 0, .int .u64 0] 47)).heap.size = w1.heap.size + 1 := by simp
  have HS2 := Lib.hid hs2
  clear hs2
  obtain ⟨hb, hk, hs⟩ := blocks1 w1 #[.int .u64 0, .int .u64 0, .int .u64 0, .int .u64 0] 47
  generalize w1.alloc (.cells #[.int .u64 0, .int .u64 0, .int .u64 0, .int .u64 0] 47) = W2 at *
  have K2 := Lib.hid hk
  replace K1 := Lib.hid (K1.out.go hb)
  replace KW := Lib.hid (KW.out.go hb)
  replace HM := Lib.hid (HM.out.go hb)
  replace HSN := Lib.hid (HSN.out.go hb)
  replace HT := Lib.hid (HT.out.go hb)
  replace B := B.trans (hb.mono B.size)
  have hzW2 := B.size
  clear hb hk hs
  obtain ⟨hb, hk, hs⟩ := blocks1 W2 #[.int .i64 32, .int .i64 31, .int .i64 31, .int .i64 31] 57
  generalize W2.alloc (.cells #[.int .i64 32, .int .i64 31, .int .i64 31, .int .i64 31] 57) = W3 at *
  have K3 := Lib.hid hk
  replace K1 := Lib.hid (K1.out.go hb)
  replace KW := Lib.hid (KW.out.go hb)
  replace K2 := Lib.hid (K2.out.go hb)
  replace HM := Lib.hid (HM.out.go hb)
  replace HSN := Lib.hid (HSN.out.go hb)
  replace HT := Lib.hid (HT.out.go hb)
  replace B := B.trans (hb.mono B.size)
  have hzW3 := B.size
  clear hb hk hs
  by_cases h4 : n = 4
  · subst h4
    have hw4 := words_four HTL.out HN.out.symm
    rw [← HN.out] at hw4
    have hkw := KW.out
    rw [hw4] at hkw
    have KV : Hid (Blk W3 W.heap.size #[.string (strOf (wordW t)), .string (strOf (wd1 t)), .string (strOf (wd2 t)), .string (strOf (wd3 t)), .string (strOf (wd4 t))] 9) := Lib.hid hkw
    have HPF := Lib.hid (HP.out.trans (plRead_four HTL.out HN.out.symm))
    clear hw4 hkw KW HP HN HSP
    have HW := Lib.hid (show ((strOf (wordW t)).toList == [111, 98, 106, 101, 99, 116]) = decide (wordW t = objL) from by
      have h := strOf_dec (y := objL) (wordW_lt HTL.out) (by decide)
      rwa [show (strOf objL).toList = [111, 98, 106, 101, 99, 116] by decide +kernel] at h)
    have kv0 := KV.out.cell 0
    have kvl := KV.out.lt
    by_cases hobj : wordW t = objL
    · have hb1 : ((strOf (wordW t)).toList == [111, 98, 106, 101, 99, 116]) = true := by rw [HW.out]; simp [hobj]
      generalize strOf (wordW t) = S0 at *
      go_upto_region 5 with fail
      have KB : Hid (Blk W3 (w1.heap.size + 1) #[.int .i64 32, .int .i64 31, .int .i64 31, .int .i64 31] 57) := Lib.hid (by have := K3.out; rw [HS2.out] at this; exact this)
      clear K3 HW kvl kv0
      simp only [Nat.reduceAdd]
      go_wp2_with fail
      go_loopw [3, 7, 8, 9, 10, 28, 33] (fun _ _ _ _ _ x _ wr => ∃ j : Nat, j ≤ 4 ∧ x = .int .i64 j ∧ Below w.heap.size w wr ∧ Sents wr ∧ PowTab wr ∧ Blk wr w.heap.size #[.int .u64 0, .int .u64 0, .int .u64 0, .int .u64 0] 47 ∧ Blk wr W.heap.size #[.string S0, .string (strOf (wd1 t)), .string (strOf (wd2 t)), .string (strOf (wd3 t)), .string (strOf (wd4 t))] 9 ∧ Blk wr w1.heap.size (cellsJ t j) 47 ∧ Blk wr (w1.heap.size + 1) #[.int .i64 32, .int .i64 31, .int .i64 31, .int .i64 31] 57 ∧ Hid (preJ t j)) (fun _ _ _ _ _ x _ _ => 4 - (intOf x).toNat)
      case atStart => exact ⟨0, by omega, rfl, B, HSN.out, HT.out, K1.out, KV.out, K2.out, KB.out, Lib.hid (preJ_zero t)⟩
      case round =>
        clear B HSN HT K1 KV K2 HM HS2
        clear KB
        obtain ⟨j, hj, rfl, B, hsn, ht2, hk1, hkv, hk2, hkb, HPJ⟩ := hrel
        have HSN := Lib.hid hsn
        have HT := Lib.hid ht2
        have K1 := Lib.hid hk1
        have KV := Lib.hid hkv
        have K2 := Lib.hid hk2
        have KB := Lib.hid hkb
        have hjj : j = 0 ∨ j = 1 ∨ j = 2 ∨ j = 3 ∨ j = 4 := by omega
        clear hj hsn ht2 hk1 hkv hk2 hkb
        rcases hjj with rfl | rfl | rfl | rfl | rfl
        · skip
          have kvi := KV.out.cell 1
          have kvl := KV.out.lt
          have kbi := KB.out.cell 0
          have kbl := KB.out.lt
          obtain ⟨y1, y2, y3, y4⟩ := wd_lt HTL.out
          obtain ⟨x1, x2, x3, x4⟩ := wd_len t
          have HC := Lib.hid (fun w hs => parseuint32 (wd1 t) w (by assumption) (by omega) hs)
          have HNI := Lib.hid (num_iff (t := wd1 t) (M := 4294967295) (b := 4294967296) (by decide) (by decide))
          have HDC := Lib.hid (fun n : Nat => strOf_dec (x := decL (n : Int)) (y := wd1 t) (fun x hx => by have := (dec_dig n x hx).2; omega) (by assumption))
          clear y1 y2 y3 y4 x1 x2 x3 x4
          obtain ⟨o, ho⟩ : ∃ o, o = puO 4294967295 (wd1 t) := ⟨_, rfl⟩
          rw [← ho] at HC
          have HO := Lib.hid ho
          clear ho
          go_wp2_with fail
          refine (HC.out _ HSN.out).mono ?_
          rintro e w5 ⟨he, hb⟩
          replace K1 := Lib.hid (K1.out.go hb)
          replace KV := Lib.hid (KV.out.go hb)
          replace K2 := Lib.hid (K2.out.go hb)
          replace KB := Lib.hid (KB.out.go hb)
          replace HSN := Lib.hid (HSN.out.go hb)
          replace HT := Lib.hid (HT.out.go hb)
          replace B := B.trans (hb.mono B.size)
          have hzw5 := B.size
          clear hb
          cases o with
          | none =>
            obtain ⟨x, g, rfl⟩ := he
            have HE := Lib.hid (show P = none by rw [HPF.out]; exact if_neg (fun h => by obtain ⟨n, h1, -, -⟩ := HNI.out.1 h.2.1; rw [← HO.out] at h1; cases h1))
            have z0 := K1.out.cell 0
            have z1 := K1.out.cell 1
            have z2 := K1.out.cell 2
            have z3 := K1.out.cell 3
            have zl := K1.out.lt
            have zf0 := K1.out.free 0
            have zf1 := K1.out.free 1
            have zf2 := K1.out.free 2
            have zf3 := K1.out.free 3
            go_wp2_with fail
            have hst := (((K1.out.set 0 (.int .u64 (0))).set 1 (.int .u64 (0))).set 2 (.int .u64 (0))).set 3 (.int .u64 (0))
            have BZ := (((B.setCell (p := ⟨w.heap.size, 0, none⟩) (Nat.le_refl _) (.int .u64 (0))).setCell (p := ⟨w.heap.size, 1, none⟩) (Nat.le_refl _) (.int .u64 (0))).setCell (p := ⟨w.heap.size, 2, none⟩) (Nat.le_refl _) (.int .u64 (0))).setCell (p := ⟨w.heap.size, 3, none⟩) (Nat.le_refl _) (.int .u64 (0))
            have e0 := hst.cell 0
            have e1 := hst.cell 1
            have e2 := hst.cell 2
            have e3 := hst.cell 3
            have hB : NumsV w P (.returned (.tuple #[.agg #[.int .u64 (0), .int .u64 (0), .int .u64 (0), .int .u64 (0)], .bool (false)])) _ := ⟨by rw [HE.out]; rfl, BZ⟩
            clear hst BZ z0 z1 z2 z3 zl zf0 zf1 zf2 zf3
            refine bodyPost_ret (v := .tuple #[.agg #[.int .u64 (0), .int .u64 (0), .int .u64 (0), .int .u64 (0)], .bool (false)]) ?_ rfl hB
            simp [results, Tryd.results21, go_sem, e0, e1, e2, e3]
          | some n =>
            obtain rfl : e = _ := he
            have HNM := Lib.hid (puO_le HO.out)
            go_wp2_with fail
            refine (formatuint_any n _ (by have := HNM.out; omega) HT.out).mono ?_
            rintro e w6 ⟨rfl, hb⟩
            replace K1 := Lib.hid (K1.out.go hb)
            replace KV := Lib.hid (KV.out.go hb)
            replace K2 := Lib.hid (K2.out.go hb)
            replace KB := Lib.hid (KB.out.go hb)
            replace HSN := Lib.hid (HSN.out.go hb)
            replace HT := Lib.hid (HT.out.go hb)
            replace B := B.trans (hb.mono B.size)
            have hzw6 := B.size
            clear hb
            by_cases hdc : decL (n : Int) = wd1 t
            · have hbq : ((strOf (decL (n : Int))).toList == (strOf (wd1 t)).toList) = true := by rw [HDC.out]; exact decide_eq_true hdc
              have HNN := Lib.hid (num_of (b := 4294967296) hdc (by have := HNM.out; omega) (by have := HNM.out; omega))
              have HP2 : Hid (preJ t (0 + 1)) := Lib.hid (by
                obtain ⟨q1, q2, q3, q4⟩ := HPJ.out
                have hnb := HNN.out.1
                exact ⟨fun h => by first | exact hnb | exact q1 (by omega) | omega, fun h => by first | exact hnb | exact q2 (by omega) | omega, fun h => by first | exact hnb | exact q3 (by omega) | omega, fun h => by first | exact hnb | exact q4 (by omega) | omega⟩)
              have HCJ : Hid ((cellsJ t 0).setIfInBounds 0 (.int .u64 n) = cellsJ t (0 + 1)) := Lib.hid (by have := HNN.out.2; unfold cellsJ; simp [this])
              have k2c := K2.out.cell 0
              have k2l := K2.out.lt
              have k2f := K2.out.free 0
              clear hdc
              go_wp2_with fail
              go_roundw
              case rel =>
                have hB2 := B.setCell (p := ⟨w1.heap.size, 0, none⟩) (show w.heap.size ≤ w1.heap.size from hzw1) (.int .u64 n)
                refine ⟨0 + 1, by omega, by first | rfl | go_num, hB2, HS0.out.go hB2, HT0.out.go hB2, K1.out.off (by omega) _ _, KV.out.off (by omega) _ _, ?_, KB.out.off (by omega) _ _, HP2⟩
                have := K2.out.set 0 (.int .u64 n)
                rw [HCJ.out] at this
                exact this
              case measure => simp [intOf]
            · have hbq : ((strOf (decL (n : Int))).toList == (strOf (wd1 t)).toList) = false := by rw [HDC.out]; exact decide_eq_false hdc
              have HE := Lib.hid (show P = none by rw [HPF.out]; exact if_neg (fun h => by obtain ⟨n', h1, h2, -⟩ := HNI.out.1 h.2.1; rw [← HO.out] at h1; obtain rfl := Option.some.inj h1; exact hdc h2))
              clear hdc
              have z0 := K1.out.cell 0
              have z1 := K1.out.cell 1
              have z2 := K1.out.cell 2
              have z3 := K1.out.cell 3
              have zl := K1.out.lt
              have zf0 := K1.out.free 0
              have zf1 := K1.out.free 1
              have zf2 := K1.out.free 2
              have zf3 := K1.out.free 3
              go_wp2_with fail
              have hst := (((K1.out.set 0 (.int .u64 (0))).set 1 (.int .u64 (0))).set 2 (.int .u64 (0))).set 3 (.int .u64 (0))
              have BZ := (((B.setCell (p := ⟨w.heap.size, 0, none⟩) (Nat.le_refl _) (.int .u64 (0))).setCell (p := ⟨w.heap.size, 1, none⟩) (Nat.le_refl _) (.int .u64 (0))).setCell (p := ⟨w.heap.size, 2, none⟩) (Nat.le_refl _) (.int .u64 (0))).setCell (p := ⟨w.heap.size, 3, none⟩) (Nat.le_refl _) (.int .u64 (0))
              have e0 := hst.cell 0
              have e1 := hst.cell 1
              have e2 := hst.cell 2
              have e3 := hst.cell 3
              have hB : NumsV w P (.returned (.tuple #[.agg #[.int .u64 (0), .int .u64 (0), .int .u64 (0), .int .u64 (0)], .bool (false)])) _ := ⟨by rw [HE.out]; rfl, BZ⟩
              clear hst BZ z0 z1 z2 z3 zl zf0 zf1 zf2 zf3
              refine bodyPost_ret (v := .tuple #[.agg #[.int .u64 (0), .int .u64 (0), .int .u64 (0), .int .u64 (0)], .bool (false)]) ?_ rfl hB
              simp [results, Tryd.results21, go_sem, e0, e1, e2, e3]
        · skip
          have kvi := KV.out.cell 2
          have kvl := KV.out.lt
          have kbi := KB.out.cell 1
          have kbl := KB.out.lt
          obtain ⟨y1, y2, y3, y4⟩ := wd_lt HTL.out
          obtain ⟨x1, x2, x3, x4⟩ := wd_len t
          have HC := Lib.hid (fun w hs => parseuint31 (wd2 t) w (by assumption) (by omega) hs)
          have HNI := Lib.hid (num_iff (t := wd2 t) (M := 2147483647) (b := 2147483648) (by decide) (by decide))
          have HDC := Lib.hid (fun n : Nat => strOf_dec (x := decL (n : Int)) (y := wd2 t) (fun x hx => by have := (dec_dig n x hx).2; omega) (by assumption))
          clear y1 y2 y3 y4 x1 x2 x3 x4
          obtain ⟨o, ho⟩ : ∃ o, o = puO 2147483647 (wd2 t) := ⟨_, rfl⟩
          rw [← ho] at HC
          have HO := Lib.hid ho
          clear ho
          go_wp2_with fail
          refine (HC.out _ HSN.out).mono ?_
          rintro e w5 ⟨he, hb⟩
          replace K1 := Lib.hid (K1.out.go hb)
          replace KV := Lib.hid (KV.out.go hb)
          replace K2 := Lib.hid (K2.out.go hb)
          replace KB := Lib.hid (KB.out.go hb)
          replace HSN := Lib.hid (HSN.out.go hb)
          replace HT := Lib.hid (HT.out.go hb)
          replace B := B.trans (hb.mono B.size)
          have hzw5 := B.size
          clear hb
          cases o with
          | none =>
            obtain ⟨x, g, rfl⟩ := he
            have HE := Lib.hid (show P = none by rw [HPF.out]; exact if_neg (fun h => by obtain ⟨n, h1, -, -⟩ := HNI.out.1 h.2.2.1; rw [← HO.out] at h1; cases h1))
            have z0 := K1.out.cell 0
            have z1 := K1.out.cell 1
            have z2 := K1.out.cell 2
            have z3 := K1.out.cell 3
            have zl := K1.out.lt
            have zf0 := K1.out.free 0
            have zf1 := K1.out.free 1
            have zf2 := K1.out.free 2
            have zf3 := K1.out.free 3
            go_wp2_with fail
            have hst := (((K1.out.set 0 (.int .u64 (0))).set 1 (.int .u64 (0))).set 2 (.int .u64 (0))).set 3 (.int .u64 (0))
            have BZ := (((B.setCell (p := ⟨w.heap.size, 0, none⟩) (Nat.le_refl _) (.int .u64 (0))).setCell (p := ⟨w.heap.size, 1, none⟩) (Nat.le_refl _) (.int .u64 (0))).setCell (p := ⟨w.heap.size, 2, none⟩) (Nat.le_refl _) (.int .u64 (0))).setCell (p := ⟨w.heap.size, 3, none⟩) (Nat.le_refl _) (.int .u64 (0))
            have e0 := hst.cell 0
            have e1 := hst.cell 1
            have e2 := hst.cell 2
            have e3 := hst.cell 3
            have hB : NumsV w P (.returned (.tuple #[.agg #[.int .u64 (0), .int .u64 (0), .int .u64 (0), .int .u64 (0)], .bool (false)])) _ := ⟨by rw [HE.out]; rfl, BZ⟩
            clear hst BZ z0 z1 z2 z3 zl zf0 zf1 zf2 zf3
            refine bodyPost_ret (v := .tuple #[.agg #[.int .u64 (0), .int .u64 (0), .int .u64 (0), .int .u64 (0)], .bool (false)]) ?_ rfl hB
            simp [results, Tryd.results21, go_sem, e0, e1, e2, e3]
          | some n =>
            obtain rfl : e = _ := he
            have HNM := Lib.hid (puO_le HO.out)
            go_wp2_with fail
            refine (formatuint_any n _ (by have := HNM.out; omega) HT.out).mono ?_
            rintro e w6 ⟨rfl, hb⟩
            replace K1 := Lib.hid (K1.out.go hb)
            replace KV := Lib.hid (KV.out.go hb)
            replace K2 := Lib.hid (K2.out.go hb)
            replace KB := Lib.hid (KB.out.go hb)
            replace HSN := Lib.hid (HSN.out.go hb)
            replace HT := Lib.hid (HT.out.go hb)
            replace B := B.trans (hb.mono B.size)
            have hzw6 := B.size
            clear hb
            by_cases hdc : decL (n : Int) = wd2 t
            · have hbq : ((strOf (decL (n : Int))).toList == (strOf (wd2 t)).toList) = true := by rw [HDC.out]; exact decide_eq_true hdc
              have HNN := Lib.hid (num_of (b := 2147483648) hdc (by have := HNM.out; omega) (by have := HNM.out; omega))
              have HP2 : Hid (preJ t (1 + 1)) := Lib.hid (by
                obtain ⟨q1, q2, q3, q4⟩ := HPJ.out
                have hnb := HNN.out.1
                exact ⟨fun h => by first | exact hnb | exact q1 (by omega) | omega, fun h => by first | exact hnb | exact q2 (by omega) | omega, fun h => by first | exact hnb | exact q3 (by omega) | omega, fun h => by first | exact hnb | exact q4 (by omega) | omega⟩)
              have HCJ : Hid ((cellsJ t 1).setIfInBounds 1 (.int .u64 n) = cellsJ t (1 + 1)) := Lib.hid (by have := HNN.out.2; unfold cellsJ; simp [this])
              have k2c := K2.out.cell 1
              have k2l := K2.out.lt
              have k2f := K2.out.free 1
              clear hdc
              go_wp2_with fail
              go_roundw
              case rel =>
                have hB2 := B.setCell (p := ⟨w1.heap.size, 1, none⟩) (show w.heap.size ≤ w1.heap.size from hzw1) (.int .u64 n)
                refine ⟨1 + 1, by omega, by first | rfl | go_num, hB2, HS0.out.go hB2, HT0.out.go hB2, K1.out.off (by omega) _ _, KV.out.off (by omega) _ _, ?_, KB.out.off (by omega) _ _, HP2⟩
                have := K2.out.set 1 (.int .u64 n)
                rw [HCJ.out] at this
                exact this
              case measure => simp [intOf]
            · have hbq : ((strOf (decL (n : Int))).toList == (strOf (wd2 t)).toList) = false := by rw [HDC.out]; exact decide_eq_false hdc
              have HE := Lib.hid (show P = none by rw [HPF.out]; exact if_neg (fun h => by obtain ⟨n', h1, h2, -⟩ := HNI.out.1 h.2.2.1; rw [← HO.out] at h1; obtain rfl := Option.some.inj h1; exact hdc h2))
              clear hdc
              have z0 := K1.out.cell 0
              have z1 := K1.out.cell 1
              have z2 := K1.out.cell 2
              have z3 := K1.out.cell 3
              have zl := K1.out.lt
              have zf0 := K1.out.free 0
              have zf1 := K1.out.free 1
              have zf2 := K1.out.free 2
              have zf3 := K1.out.free 3
              go_wp2_with fail
              have hst := (((K1.out.set 0 (.int .u64 (0))).set 1 (.int .u64 (0))).set 2 (.int .u64 (0))).set 3 (.int .u64 (0))
              have BZ := (((B.setCell (p := ⟨w.heap.size, 0, none⟩) (Nat.le_refl _) (.int .u64 (0))).setCell (p := ⟨w.heap.size, 1, none⟩) (Nat.le_refl _) (.int .u64 (0))).setCell (p := ⟨w.heap.size, 2, none⟩) (Nat.le_refl _) (.int .u64 (0))).setCell (p := ⟨w.heap.size, 3, none⟩) (Nat.le_refl _) (.int .u64 (0))
              have e0 := hst.cell 0
              have e1 := hst.cell 1
              have e2 := hst.cell 2
              have e3 := hst.cell 3
              have hB : NumsV w P (.returned (.tuple #[.agg #[.int .u64 (0), .int .u64 (0), .int .u64 (0), .int .u64 (0)], .bool (false)])) _ := ⟨by rw [HE.out]; rfl, BZ⟩
              clear hst BZ z0 z1 z2 z3 zl zf0 zf1 zf2 zf3
              refine bodyPost_ret (v := .tuple #[.agg #[.int .u64 (0), .int .u64 (0), .int .u64 (0), .int .u64 (0)], .bool (false)]) ?_ rfl hB
              simp [results, Tryd.results21, go_sem, e0, e1, e2, e3]
        · skip
          have kvi := KV.out.cell 3
          have kvl := KV.out.lt
          have kbi := KB.out.cell 2
          have kbl := KB.out.lt
          obtain ⟨y1, y2, y3, y4⟩ := wd_lt HTL.out
          obtain ⟨x1, x2, x3, x4⟩ := wd_len t
          have HC := Lib.hid (fun w hs => parseuint31 (wd3 t) w (by assumption) (by omega) hs)
          have HNI := Lib.hid (num_iff (t := wd3 t) (M := 2147483647) (b := 2147483648) (by decide) (by decide))
          have HDC := Lib.hid (fun n : Nat => strOf_dec (x := decL (n : Int)) (y := wd3 t) (fun x hx => by have := (dec_dig n x hx).2; omega) (by assumption))
          clear y1 y2 y3 y4 x1 x2 x3 x4
          obtain ⟨o, ho⟩ : ∃ o, o = puO 2147483647 (wd3 t) := ⟨_, rfl⟩
          rw [← ho] at HC
          have HO := Lib.hid ho
          clear ho
          go_wp2_with fail
          refine (HC.out _ HSN.out).mono ?_
          rintro e w5 ⟨he, hb⟩
          replace K1 := Lib.hid (K1.out.go hb)
          replace KV := Lib.hid (KV.out.go hb)
          replace K2 := Lib.hid (K2.out.go hb)
          replace KB := Lib.hid (KB.out.go hb)
          replace HSN := Lib.hid (HSN.out.go hb)
          replace HT := Lib.hid (HT.out.go hb)
          replace B := B.trans (hb.mono B.size)
          have hzw5 := B.size
          clear hb
          cases o with
          | none =>
            obtain ⟨x, g, rfl⟩ := he
            have HE := Lib.hid (show P = none by rw [HPF.out]; exact if_neg (fun h => by obtain ⟨n, h1, -, -⟩ := HNI.out.1 h.2.2.2.1; rw [← HO.out] at h1; cases h1))
            have z0 := K1.out.cell 0
            have z1 := K1.out.cell 1
            have z2 := K1.out.cell 2
            have z3 := K1.out.cell 3
            have zl := K1.out.lt
            have zf0 := K1.out.free 0
            have zf1 := K1.out.free 1
            have zf2 := K1.out.free 2
            have zf3 := K1.out.free 3
            go_wp2_with fail
            have hst := (((K1.out.set 0 (.int .u64 (0))).set 1 (.int .u64 (0))).set 2 (.int .u64 (0))).set 3 (.int .u64 (0))
            have BZ := (((B.setCell (p := ⟨w.heap.size, 0, none⟩) (Nat.le_refl _) (.int .u64 (0))).setCell (p := ⟨w.heap.size, 1, none⟩) (Nat.le_refl _) (.int .u64 (0))).setCell (p := ⟨w.heap.size, 2, none⟩) (Nat.le_refl _) (.int .u64 (0))).setCell (p := ⟨w.heap.size, 3, none⟩) (Nat.le_refl _) (.int .u64 (0))
            have e0 := hst.cell 0
            have e1 := hst.cell 1
            have e2 := hst.cell 2
            have e3 := hst.cell 3
            have hB : NumsV w P (.returned (.tuple #[.agg #[.int .u64 (0), .int .u64 (0), .int .u64 (0), .int .u64 (0)], .bool (false)])) _ := ⟨by rw [HE.out]; rfl, BZ⟩
            clear hst BZ z0 z1 z2 z3 zl zf0 zf1 zf2 zf3
            refine bodyPost_ret (v := .tuple #[.agg #[.int .u64 (0), .int .u64 (0), .int .u64 (0), .int .u64 (0)], .bool (false)]) ?_ rfl hB
            simp [results, Tryd.results21, go_sem, e0, e1, e2, e3]
          | some n =>
            obtain rfl : e = _ := he
            have HNM := Lib.hid (puO_le HO.out)
            go_wp2_with fail
            refine (formatuint_any n _ (by have := HNM.out; omega) HT.out).mono ?_
            rintro e w6 ⟨rfl, hb⟩
            replace K1 := Lib.hid (K1.out.go hb)
            replace KV := Lib.hid (KV.out.go hb)
            replace K2 := Lib.hid (K2.out.go hb)
            replace KB := Lib.hid (KB.out.go hb)
            replace HSN := Lib.hid (HSN.out.go hb)
            replace HT := Lib.hid (HT.out.go hb)
            replace B := B.trans (hb.mono B.size)
            have hzw6 := B.size
            clear hb
            by_cases hdc : decL (n : Int) = wd3 t
            · have hbq : ((strOf (decL (n : Int))).toList == (strOf (wd3 t)).toList) = true := by rw [HDC.out]; exact decide_eq_true hdc
              have HNN := Lib.hid (num_of (b := 2147483648) hdc (by have := HNM.out; omega) (by have := HNM.out; omega))
              have HP2 : Hid (preJ t (2 + 1)) := Lib.hid (by
                obtain ⟨q1, q2, q3, q4⟩ := HPJ.out
                have hnb := HNN.out.1
                exact ⟨fun h => by first | exact hnb | exact q1 (by omega) | omega, fun h => by first | exact hnb | exact q2 (by omega) | omega, fun h => by first | exact hnb | exact q3 (by omega) | omega, fun h => by first | exact hnb | exact q4 (by omega) | omega⟩)
              have HCJ : Hid ((cellsJ t 2).setIfInBounds 2 (.int .u64 n) = cellsJ t (2 + 1)) := Lib.hid (by have := HNN.out.2; unfold cellsJ; simp [this])
              have k2c := K2.out.cell 2
              have k2l := K2.out.lt
              have k2f := K2.out.free 2
              clear hdc
              go_wp2_with fail
              go_roundw
              case rel =>
                have hB2 := B.setCell (p := ⟨w1.heap.size, 2, none⟩) (show w.heap.size ≤ w1.heap.size from hzw1) (.int .u64 n)
                refine ⟨2 + 1, by omega, by first | rfl | go_num, hB2, HS0.out.go hB2, HT0.out.go hB2, K1.out.off (by omega) _ _, KV.out.off (by omega) _ _, ?_, KB.out.off (by omega) _ _, HP2⟩
                have := K2.out.set 2 (.int .u64 n)
                rw [HCJ.out] at this
                exact this
              case measure => simp [intOf]
            · have hbq : ((strOf (decL (n : Int))).toList == (strOf (wd3 t)).toList) = false := by rw [HDC.out]; exact decide_eq_false hdc
              have HE := Lib.hid (show P = none by rw [HPF.out]; exact if_neg (fun h => by obtain ⟨n', h1, h2, -⟩ := HNI.out.1 h.2.2.2.1; rw [← HO.out] at h1; obtain rfl := Option.some.inj h1; exact hdc h2))
              clear hdc
              have z0 := K1.out.cell 0
              have z1 := K1.out.cell 1
              have z2 := K1.out.cell 2
              have z3 := K1.out.cell 3
              have zl := K1.out.lt
              have zf0 := K1.out.free 0
              have zf1 := K1.out.free 1
              have zf2 := K1.out.free 2
              have zf3 := K1.out.free 3
              go_wp2_with fail
              have hst := (((K1.out.set 0 (.int .u64 (0))).set 1 (.int .u64 (0))).set 2 (.int .u64 (0))).set 3 (.int .u64 (0))
              have BZ := (((B.setCell (p := ⟨w.heap.size, 0, none⟩) (Nat.le_refl _) (.int .u64 (0))).setCell (p := ⟨w.heap.size, 1, none⟩) (Nat.le_refl _) (.int .u64 (0))).setCell (p := ⟨w.heap.size, 2, none⟩) (Nat.le_refl _) (.int .u64 (0))).setCell (p := ⟨w.heap.size, 3, none⟩) (Nat.le_refl _) (.int .u64 (0))
              have e0 := hst.cell 0
              have e1 := hst.cell 1
              have e2 := hst.cell 2
              have e3 := hst.cell 3
              have hB : NumsV w P (.returned (.tuple #[.agg #[.int .u64 (0), .int .u64 (0), .int .u64 (0), .int .u64 (0)], .bool (false)])) _ := ⟨by rw [HE.out]; rfl, BZ⟩
              clear hst BZ z0 z1 z2 z3 zl zf0 zf1 zf2 zf3
              refine bodyPost_ret (v := .tuple #[.agg #[.int .u64 (0), .int .u64 (0), .int .u64 (0), .int .u64 (0)], .bool (false)]) ?_ rfl hB
              simp [results, Tryd.results21, go_sem, e0, e1, e2, e3]
        · skip
          have kvi := KV.out.cell 4
          have kvl := KV.out.lt
          have kbi := KB.out.cell 3
          have kbl := KB.out.lt
          obtain ⟨y1, y2, y3, y4⟩ := wd_lt HTL.out
          obtain ⟨x1, x2, x3, x4⟩ := wd_len t
          have HC := Lib.hid (fun w hs => parseuint31 (wd4 t) w (by assumption) (by omega) hs)
          have HNI := Lib.hid (num_iff (t := wd4 t) (M := 2147483647) (b := 2147483648) (by decide) (by decide))
          have HDC := Lib.hid (fun n : Nat => strOf_dec (x := decL (n : Int)) (y := wd4 t) (fun x hx => by have := (dec_dig n x hx).2; omega) (by assumption))
          clear y1 y2 y3 y4 x1 x2 x3 x4
          obtain ⟨o, ho⟩ : ∃ o, o = puO 2147483647 (wd4 t) := ⟨_, rfl⟩
          rw [← ho] at HC
          have HO := Lib.hid ho
          clear ho
          go_wp2_with fail
          refine (HC.out _ HSN.out).mono ?_
          rintro e w5 ⟨he, hb⟩
          replace K1 := Lib.hid (K1.out.go hb)
          replace KV := Lib.hid (KV.out.go hb)
          replace K2 := Lib.hid (K2.out.go hb)
          replace KB := Lib.hid (KB.out.go hb)
          replace HSN := Lib.hid (HSN.out.go hb)
          replace HT := Lib.hid (HT.out.go hb)
          replace B := B.trans (hb.mono B.size)
          have hzw5 := B.size
          clear hb
          cases o with
          | none =>
            obtain ⟨x, g, rfl⟩ := he
            have HE := Lib.hid (show P = none by rw [HPF.out]; exact if_neg (fun h => by obtain ⟨n, h1, -, -⟩ := HNI.out.1 h.2.2.2.2; rw [← HO.out] at h1; cases h1))
            have z0 := K1.out.cell 0
            have z1 := K1.out.cell 1
            have z2 := K1.out.cell 2
            have z3 := K1.out.cell 3
            have zl := K1.out.lt
            have zf0 := K1.out.free 0
            have zf1 := K1.out.free 1
            have zf2 := K1.out.free 2
            have zf3 := K1.out.free 3
            go_wp2_with fail
            have hst := (((K1.out.set 0 (.int .u64 (0))).set 1 (.int .u64 (0))).set 2 (.int .u64 (0))).set 3 (.int .u64 (0))
            have BZ := (((B.setCell (p := ⟨w.heap.size, 0, none⟩) (Nat.le_refl _) (.int .u64 (0))).setCell (p := ⟨w.heap.size, 1, none⟩) (Nat.le_refl _) (.int .u64 (0))).setCell (p := ⟨w.heap.size, 2, none⟩) (Nat.le_refl _) (.int .u64 (0))).setCell (p := ⟨w.heap.size, 3, none⟩) (Nat.le_refl _) (.int .u64 (0))
            have e0 := hst.cell 0
            have e1 := hst.cell 1
            have e2 := hst.cell 2
            have e3 := hst.cell 3
            have hB : NumsV w P (.returned (.tuple #[.agg #[.int .u64 (0), .int .u64 (0), .int .u64 (0), .int .u64 (0)], .bool (false)])) _ := ⟨by rw [HE.out]; rfl, BZ⟩
            clear hst BZ z0 z1 z2 z3 zl zf0 zf1 zf2 zf3
            refine bodyPost_ret (v := .tuple #[.agg #[.int .u64 (0), .int .u64 (0), .int .u64 (0), .int .u64 (0)], .bool (false)]) ?_ rfl hB
            simp [results, Tryd.results21, go_sem, e0, e1, e2, e3]
          | some n =>
            obtain rfl : e = _ := he
            have HNM := Lib.hid (puO_le HO.out)
            go_wp2_with fail
            refine (formatuint_any n _ (by have := HNM.out; omega) HT.out).mono ?_
            rintro e w6 ⟨rfl, hb⟩
            replace K1 := Lib.hid (K1.out.go hb)
            replace KV := Lib.hid (KV.out.go hb)
            replace K2 := Lib.hid (K2.out.go hb)
            replace KB := Lib.hid (KB.out.go hb)
            replace HSN := Lib.hid (HSN.out.go hb)
            replace HT := Lib.hid (HT.out.go hb)
            replace B := B.trans (hb.mono B.size)
            have hzw6 := B.size
            clear hb
            by_cases hdc : decL (n : Int) = wd4 t
            · have hbq : ((strOf (decL (n : Int))).toList == (strOf (wd4 t)).toList) = true := by rw [HDC.out]; exact decide_eq_true hdc
              have HNN := Lib.hid (num_of (b := 2147483648) hdc (by have := HNM.out; omega) (by have := HNM.out; omega))
              have HP2 : Hid (preJ t (3 + 1)) := Lib.hid (by
                obtain ⟨q1, q2, q3, q4⟩ := HPJ.out
                have hnb := HNN.out.1
                exact ⟨fun h => by first | exact hnb | exact q1 (by omega) | omega, fun h => by first | exact hnb | exact q2 (by omega) | omega, fun h => by first | exact hnb | exact q3 (by omega) | omega, fun h => by first | exact hnb | exact q4 (by omega) | omega⟩)
              have HCJ : Hid ((cellsJ t 3).setIfInBounds 3 (.int .u64 n) = cellsJ t (3 + 1)) := Lib.hid (by have := HNN.out.2; unfold cellsJ; simp [this])
              have k2c := K2.out.cell 3
              have k2l := K2.out.lt
              have k2f := K2.out.free 3
              clear hdc
              go_wp2_with fail
              go_roundw
              case rel =>
                have hB2 := B.setCell (p := ⟨w1.heap.size, 3, none⟩) (show w.heap.size ≤ w1.heap.size from hzw1) (.int .u64 n)
                refine ⟨3 + 1, by omega, by first | rfl | go_num, hB2, HS0.out.go hB2, HT0.out.go hB2, K1.out.off (by omega) _ _, KV.out.off (by omega) _ _, ?_, KB.out.off (by omega) _ _, HP2⟩
                have := K2.out.set 3 (.int .u64 n)
                rw [HCJ.out] at this
                exact this
              case measure => simp [intOf]
            · have hbq : ((strOf (decL (n : Int))).toList == (strOf (wd4 t)).toList) = false := by rw [HDC.out]; exact decide_eq_false hdc
              have HE := Lib.hid (show P = none by rw [HPF.out]; exact if_neg (fun h => by obtain ⟨n', h1, h2, -⟩ := HNI.out.1 h.2.2.2.2; rw [← HO.out] at h1; obtain rfl := Option.some.inj h1; exact hdc h2))
              clear hdc
              have z0 := K1.out.cell 0
              have z1 := K1.out.cell 1
              have z2 := K1.out.cell 2
              have z3 := K1.out.cell 3
              have zl := K1.out.lt
              have zf0 := K1.out.free 0
              have zf1 := K1.out.free 1
              have zf2 := K1.out.free 2
              have zf3 := K1.out.free 3
              go_wp2_with fail
              have hst := (((K1.out.set 0 (.int .u64 (0))).set 1 (.int .u64 (0))).set 2 (.int .u64 (0))).set 3 (.int .u64 (0))
              have BZ := (((B.setCell (p := ⟨w.heap.size, 0, none⟩) (Nat.le_refl _) (.int .u64 (0))).setCell (p := ⟨w.heap.size, 1, none⟩) (Nat.le_refl _) (.int .u64 (0))).setCell (p := ⟨w.heap.size, 2, none⟩) (Nat.le_refl _) (.int .u64 (0))).setCell (p := ⟨w.heap.size, 3, none⟩) (Nat.le_refl _) (.int .u64 (0))
              have e0 := hst.cell 0
              have e1 := hst.cell 1
              have e2 := hst.cell 2
              have e3 := hst.cell 3
              have hB : NumsV w P (.returned (.tuple #[.agg #[.int .u64 (0), .int .u64 (0), .int .u64 (0), .int .u64 (0)], .bool (false)])) _ := ⟨by rw [HE.out]; rfl, BZ⟩
              clear hst BZ z0 z1 z2 z3 zl zf0 zf1 zf2 zf3
              refine bodyPost_ret (v := .tuple #[.agg #[.int .u64 (0), .int .u64 (0), .int .u64 (0), .int .u64 (0)], .bool (false)]) ?_ rfl hB
              simp [results, Tryd.results21, go_sem, e0, e1, e2, e3]
        · obtain ⟨q1, q2, q3, q4⟩ := HPJ.out
          have HE := Lib.hid (show P = some [(numN (wd1 t) : Int), (numN (wd2 t) : Int), (numN (wd3 t) : Int), (numN (wd4 t) : Int)] by rw [HPF.out]; exact if_pos ⟨hobj, q1 (by omega), q2 (by omega), q3 (by omega), q4 (by omega)⟩)
          clear q1 q2 q3 q4
          have hk2 := K2.out
          rw [show cellsJ t 4 = #[.int .u64 (numN (wd1 t)), .int .u64 (numN (wd2 t)), .int .u64 (numN (wd3 t)), .int .u64 (numN (wd4 t))] from rfl] at hk2
          obtain ⟨y0, y1, y2, y3⟩ := hk2.four
          have yl := hk2.lt
          clear hk2
          have z0 := K1.out.cell 0
          have z1 := K1.out.cell 1
          have z2 := K1.out.cell 2
          have z3 := K1.out.cell 3
          have zl := K1.out.lt
          have zf0 := K1.out.free 0
          have zf1 := K1.out.free 1
          have zf2 := K1.out.free 2
          have zf3 := K1.out.free 3
          go_wp2_with fail
          have hst := (((K1.out.set 0 (.int .u64 ((numN (wd1 t) : Int)))).set 1 (.int .u64 ((numN (wd2 t) : Int)))).set 2 (.int .u64 ((numN (wd3 t) : Int)))).set 3 (.int .u64 ((numN (wd4 t) : Int)))
          have BZ := (((B.setCell (p := ⟨w.heap.size, 0, none⟩) (Nat.le_refl _) (.int .u64 ((numN (wd1 t) : Int)))).setCell (p := ⟨w.heap.size, 1, none⟩) (Nat.le_refl _) (.int .u64 ((numN (wd2 t) : Int)))).setCell (p := ⟨w.heap.size, 2, none⟩) (Nat.le_refl _) (.int .u64 ((numN (wd3 t) : Int)))).setCell (p := ⟨w.heap.size, 3, none⟩) (Nat.le_refl _) (.int .u64 ((numN (wd4 t) : Int)))
          have e0 := hst.cell 0
          have e1 := hst.cell 1
          have e2 := hst.cell 2
          have e3 := hst.cell 3
          have hB : NumsV w P (.returned (.tuple #[.agg #[.int .u64 ((numN (wd1 t) : Int)), .int .u64 ((numN (wd2 t) : Int)), .int .u64 ((numN (wd3 t) : Int)), .int .u64 ((numN (wd4 t) : Int))], .bool (true)])) _ := ⟨by rw [HE.out]; rfl, BZ⟩
          clear hst BZ z0 z1 z2 z3 zl zf0 zf1 zf2 zf3
          refine bodyPost_ret (v := .tuple #[.agg #[.int .u64 ((numN (wd1 t) : Int)), .int .u64 ((numN (wd2 t) : Int)), .int .u64 ((numN (wd3 t) : Int)), .int .u64 ((numN (wd4 t) : Int))], .bool (true)]) ?_ rfl hB
          simp [results, Tryd.results21, go_sem, e0, e1, e2, e3]
    · have hb1 : ((strOf (wordW t)).toList == [111, 98, 106, 101, 99, 116]) = false := by rw [HW.out]; simp [hobj]
      have HE := Lib.hid (show P = none by rw [HPF.out]; exact if_neg (fun h' => hobj h'.1))
      generalize strOf (wordW t) = S0 at *
      have z0 := K1.out.cell 0
      have z1 := K1.out.cell 1
      have z2 := K1.out.cell 2
      have z3 := K1.out.cell 3
      have zl := K1.out.lt
      have zf0 := K1.out.free 0
      have zf1 := K1.out.free 1
      have zf2 := K1.out.free 2
      have zf3 := K1.out.free 3
      go_wp2_with fail
      have hst := (((K1.out.set 0 (.int .u64 (0))).set 1 (.int .u64 (0))).set 2 (.int .u64 (0))).set 3 (.int .u64 (0))
      have BZ := (((B.setCell (p := ⟨w.heap.size, 0, none⟩) (Nat.le_refl _) (.int .u64 (0))).setCell (p := ⟨w.heap.size, 1, none⟩) (Nat.le_refl _) (.int .u64 (0))).setCell (p := ⟨w.heap.size, 2, none⟩) (Nat.le_refl _) (.int .u64 (0))).setCell (p := ⟨w.heap.size, 3, none⟩) (Nat.le_refl _) (.int .u64 (0))
      have e0 := hst.cell 0
      have e1 := hst.cell 1
      have e2 := hst.cell 2
      have e3 := hst.cell 3
      have hB : NumsV w P (.returned (.tuple #[.agg #[.int .u64 (0), .int .u64 (0), .int .u64 (0), .int .u64 (0)], .bool (false)])) _ := ⟨by rw [HE.out]; rfl, BZ⟩
      clear hst BZ z0 z1 z2 z3 zl zf0 zf1 zf2 zf3
      refine bodyPost_ret (v := .tuple #[.agg #[.int .u64 (0), .int .u64 (0), .int .u64 (0), .int .u64 (0)], .bool (false)]) ?_ rfl hB
      simp [results, Tryd.results21, go_sem, e0, e1, e2, e3]
  · have HE := Lib.hid (show P = none by rw [HP.out]; exact cnt_not HTL.out (by rw [← HN.out]; exact h4))
    have h5 : (((n : Int) + 1) != 5) = true := by rw [bne_iff_ne]; omega
    have z0 := K1.out.cell 0
    have z1 := K1.out.cell 1
    have z2 := K1.out.cell 2
    have z3 := K1.out.cell 3
    have zl := K1.out.lt
    have zf0 := K1.out.free 0
    have zf1 := K1.out.free 1
    have zf2 := K1.out.free 2
    have zf3 := K1.out.free 3
    go_wp2_with fail
    have hst := (((K1.out.set 0 (.int .u64 (0))).set 1 (.int .u64 (0))).set 2 (.int .u64 (0))).set 3 (.int .u64 (0))
    have BZ := (((B.setCell (p := ⟨w.heap.size, 0, none⟩) (Nat.le_refl _) (.int .u64 (0))).setCell (p := ⟨w.heap.size, 1, none⟩) (Nat.le_refl _) (.int .u64 (0))).setCell (p := ⟨w.heap.size, 2, none⟩) (Nat.le_refl _) (.int .u64 (0))).setCell (p := ⟨w.heap.size, 3, none⟩) (Nat.le_refl _) (.int .u64 (0))
    have e0 := hst.cell 0
    have e1 := hst.cell 1
    have e2 := hst.cell 2
    have e3 := hst.cell 3
    have hB : NumsV w P (.returned (.tuple #[.agg #[.int .u64 (0), .int .u64 (0), .int .u64 (0), .int .u64 (0)], .bool (false)])) _ := ⟨by rw [HE.out]; rfl, BZ⟩
    clear hst BZ z0 z1 z2 z3 zl zf0 zf1 zf2 zf3
    refine bodyPost_ret (v := .tuple #[.agg #[.int .u64 (0), .int .u64 (0), .int .u64 (0), .int .u64 (0)], .bool (false)]) ?_ rfl hB
    simp [results, Tryd.results21, go_sem, e0, e1, e2, e3]

end Go.Proofs.YtgoelfaemclioaaDoor
