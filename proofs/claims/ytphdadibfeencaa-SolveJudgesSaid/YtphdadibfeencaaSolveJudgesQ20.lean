/- Texts of one seat, laid together: NatJ, LawSix, MonoN, SolveD, LawSeven, LawEightC, LawNineB, LawEightG. -/
import Derived.Test.YtphdadibfeencaaSolveJudgesQ19
import Derived.Deep.DeepCutAuto
import Derived.Test.YtphdadibfeencaaSolveJudgesQ18
import Derived.Test.YtphdadibfeencaaSolveJudgesQ16
import Derived.Test.YtphdadibfeencaaSolveJudgesQ13
import Derived.Test.YtphdadibfeencaaSolveJudgesQ15
import Derived.Test.YtphdadibfeencaaSolveJudgesQ14
import Derived.Test.YtphdadibfeencaaSolveJudgesQ10
import Derived.Test.YtphdadibfeencaaSolveJudgesQ7
import Derived.Test.YtphdadibfeencaaSolveJudgesQ8
import Derived.Test.YtphdadibfeencaaSolveJudgesQ11
import Derived.Test.YtphdadibfeencaaSolveJudgesQ2
import Derived.Test.YtphdadibfeencaaSolveJudgesQ3

/-
  The program's numbers (layer 6): 'Pow'.
-/
set_option maxRecDepth 100000
namespace Go.Proofs.Ytphdadibfeencaa
open Go.RowKit


/-- A power, so many times; none from the first on that is too great. -/
def powG (a k : Nat) : Option Nat := foldG (· * ·) 1 (List.replicate k a)
theorem powG_zero (a : Nat) : powG a 0 = some 1 := rfl
theorem powG_succ (a k : Nat) : powG a (k + 1) = (powG a k).bind fun v => if Great (v * a) then none else some (v * a) := by
  unfold powG; rw [List.replicate_succ', foldG_snoc]
theorem powG_none {a k n : Nat} (hk : k ≤ n) (h : powG a k = none) : powG a n = none := by
  unfold powG at h ⊢
  refine foldG_none (k := k) ?_
  rw [List.take_replicate, Nat.min_eq_left hk]; exact h

set_option maxHeartbeats 400000 in
theorem natpow_no (u : Value) (a : Nat) (n : Int) (w : World) (h : n < 0 ∨ (0 ≤ n ∧ 65536 < n)) (hU : IsNat w u a) :
    Calls Try.prog 27 #[u, .int .i64 n] w (NatE w 0 2) := by
  obtain ⟨pa, ca, rfl, _⟩ := hU.shape
  clear hU
  generalize (Wt.dg a).length = ml at *
  rcases h with h | ⟨h0, h⟩
  · go_enter Try.func27, Try.ntmps27
    go_upto_region 1 with fail
    obtain ⟨B, hk1, hk2, hs⟩ := blocks2 w #[.slice pa ml ca] 36 #[.slice none 0 0] 36
    generalize ((w.alloc (.cells #[.slice pa ml ca] 36)).alloc (.cells #[.slice none 0 0] 36)) = W at *
    have K1 := Lib.hid hk1
    have K2 := Lib.hid hk2
    have HS := Lib.hid hs
    clear hs hk1 hk2
    have hzW := B.size
    have hf0 := K2.out.free 0
    have h0 : W.cell? ⟨w.heap.size + 1, 0, none⟩ = some (.slice none 0 0) := K2.out.cell 0
    have e0 : ∀ v, (W.setCell ⟨w.heap.size + 1, 0, none⟩ v).cell? ⟨w.heap.size + 1, 0, none⟩ = some v := fun v => (K2.out.set 0 v).cell 0
    go_wp2_with fail
    exact bodyPost_ret (v := .tuple #[.agg #[.slice none 0 0], I64 2]) (by simp [results, Try.results27, go_sem, e0]) rfl ⟨_, rfl, nat_zero _, B.setCell (by show w.heap.size ≤ w.heap.size + 1; omega) _⟩
  · have h2 : ¬ n < 0 := by omega
    go_enter Try.func27, Try.ntmps27
    go_upto_region 1 with fail
    obtain ⟨B, hk1, hk2, hs⟩ := blocks2 w #[.slice pa ml ca] 36 #[.slice none 0 0] 36
    generalize ((w.alloc (.cells #[.slice pa ml ca] 36)).alloc (.cells #[.slice none 0 0] 36)) = W at *
    have K1 := Lib.hid hk1
    have K2 := Lib.hid hk2
    have HS := Lib.hid hs
    clear hs hk1 hk2
    have hzW := B.size
    have hf0 := K2.out.free 0
    have h0 : W.cell? ⟨w.heap.size + 1, 0, none⟩ = some (.slice none 0 0) := K2.out.cell 0
    have e0 : ∀ v, (W.setCell ⟨w.heap.size + 1, 0, none⟩ v).cell? ⟨w.heap.size + 1, 0, none⟩ = some v := fun v => (K2.out.set 0 v).cell 0
    go_wp2_with fail
    exact bodyPost_ret (v := .tuple #[.agg #[.slice none 0 0], I64 2]) (by simp [results, Try.results27, go_sem, e0]) rfl ⟨_, rfl, nat_zero _, B.setCell (by show w.heap.size ≤ w.heap.size + 1; omega) _⟩

set_option maxHeartbeats 2000000 in
theorem natpow_yes (u : Value) (x n : Nat) (w : World) (hn : n ≤ 65536) (hx : ¬ Great x) (hU : IsNat w u x) :
    Calls Try.prog 27 #[u, .int .i64 n] w (NatE w (foldN (powG x n)) (foldE (powG x n))) := by
  have HU := Lib.hid hU
  obtain ⟨pa, ca, rfl, _⟩ := hU.shape
  have HSM := Lib.hid (show ∀ v, ¬ Great v → (Wt.dg v).length ≤ 100000 from fun v h => Nat.le_trans (small_of h) (by decide))
  have HGX := Lib.hid hx
  have HP0 := Lib.hid (powG_zero x)
  have HPS := Lib.hid (powG_succ x)
  have HPN := Lib.hid (fun k h1 h2 => powG_none (a := x) (k := k) (n := n) h1 h2)
  have HG1 := Lib.hid (not_great_small (n := 1) (by decide))
  clear hU hx
  generalize powG x = pg at *
  generalize hlx : (Wt.dg x).length = lx at *
  clear hlx
  have h2 : ¬ (n : Int) < 0 := by omega
  have h3 : ¬ 65536 < (n : Int) := by omega
  go_enter Try.func27, Try.ntmps27
  go_upto_region 1 with fail
  obtain ⟨B, hk1, hk2, hs⟩ := blocks2 w #[.slice pa lx ca] 36 #[.slice none 0 0] 36
  generalize ((w.alloc (.cells #[.slice pa lx ca] 36)).alloc (.cells #[.slice none 0 0] 36)) = W at *
  have K1 := Lib.hid hk1
  have K2 := Lib.hid hk2
  have HS := Lib.hid hs
  clear hs hk1 hk2
  replace HU := Lib.hid (HU.out.go B)
  have hzW := B.size
  go_wp2_with fail
  refine (natof_any 1 W (by decide)).mono ?_
  rintro e w1 ⟨u1, rfl, hu, hb⟩
  have HV1 := Lib.hid hu
  obtain ⟨a1, c1, rfl, _⟩ := hu.shape
  replace HU := Lib.hid (HU.out.go hb)
  replace K1 := Lib.hid (K1.out.go hb)
  replace K2 := Lib.hid (K2.out.go hb)
  replace B := B.trans (hb.mono B.size)
  have hz1 := hb.size
  clear hu hb
  generalize hl1 : (Wt.dg 1).length = l1 at *
  have HL1 := Lib.hid hl1
  clear hl1
  go_upto_region 4 with fail
  obtain ⟨gp, hgp⟩ : ∃ gp, gp = w1.heap.size := ⟨_, rfl⟩
  obtain ⟨hb, hk, hs⟩ := blocks1 w1 #[.slice a1 l1 c1] 36
  generalize w1.alloc (.cells #[.slice a1 l1 c1] 36) = W2 at *
  have KP := Lib.hid hk
  replace HU := Lib.hid (HU.out.go hb)
  replace K1 := Lib.hid (K1.out.go hb)
  replace K2 := Lib.hid (K2.out.go hb)
  replace HV1 := Lib.hid (HV1.out.go hb)
  replace B := B.trans (hb.mono B.size)
  have hzW2 := B.size
  clear hb hk hs
  rw [← hgp] at KP ⊢
  have hgp2 : w.heap.size + 2 ≤ gp := by have := HS.out; omega
  clear hgp
  go_wp2_with fail
  go_loopw [16] (fun i wr => ∃ (k v : Nat) (a : Option Addr) (c : Nat), k ≤ n ∧ i = .int .i64 k ∧ pg k = some v ∧ ¬ Great v ∧ Blk wr gp #[.slice a (Wt.dg v).length c] 36 ∧ IsNat wr (.agg #[.slice a (Wt.dg v).length c]) v ∧ Blk wr w.heap.size #[.slice pa lx ca] 36 ∧ IsNat wr (.agg #[.slice pa lx ca]) x ∧ Blk wr (w.heap.size + 1) #[.slice none 0 0] 36 ∧ Below w.heap.size w wr) (fun i _ => n - (intOf i).toNat)
  case atStart => exact ⟨0, 1, a1, c1, by omega, rfl, HP0.out, HG1.out, by rw [HL1.out]; exact KP.out, by rw [HL1.out]; exact HV1.out, K1.out, HU.out, K2.out, B⟩
  case round =>
    obtain ⟨k, v, a, c, hk, rfl, hf, hg, hkp, hv, hk1, hx, hk2, B⟩ := hrel
    have HF := Lib.hid hf
    have HG := Lib.hid hg
    have HKP := Lib.hid hkp
    have HVV := Lib.hid hv
    have HK1 := Lib.hid hk1
    have HX := Lib.hid hx
    have HK2 := Lib.hid hk2
    clear hf hg hkp hv hk1 hx hk2
    by_cases hlt : k < n
    · have HKL := Lib.hid hlt
      have HS3 := Lib.hid (show pg (k + 1) = if Great (v * x) then none else some (v * x) by rw [HPS.out, HF.out]; rfl)
      generalize hln : (Wt.dg v).length = ln at *
      clear hln
      have kp0 : wr.cell? ⟨gp, 0, none⟩ = some (.slice a ln c) := HKP.out.cell 0
      have k10 : wr.cell? ⟨w.heap.size, 0, none⟩ = some (.slice pa lx ca) := HK1.out.cell 0
      obtain ⟨wo, hwo⟩ : ∃ wo : World, wo = wr := ⟨_, rfl⟩
      subst hwo
      go_wp2_with fail
      refine (nattimes_any _ _ v x wo (HSM.out _ HG.out) (HSM.out _ HGX.out) HVV.out HX.out).mono ?_
      rintro e w6 ⟨u6, rfl, hu, hb⟩
      obtain ⟨a6, c6, rfl, hw6, _⟩ := hu.shape
      have k8 := HKP.out.go hb
      have h80 : w6.cell? ⟨gp, 0, none⟩ = some (.slice a ln c) := k8.cell 0
      have h8f := k8.free 0
      have hgs := grown_setCell w6 ⟨gp, 0, none⟩ (.slice a6 (Wt.dg (v * x)).length c6)
      have HN6 := Lib.hid (hu.box k8 hgs)
      have HKP6 := Lib.hid (k8.set 0 (.slice a6 (Wt.dg (v * x)).length c6))
      have HK16 := Lib.hid ((HK1.out.go hb).grown hgs (by simp; omega))
      have HK26 := Lib.hid ((HK2.out.go hb).grown hgs (by simp; omega))
      have HX6 := Lib.hid ((HX.out.go hb).box k8 hgs)
      have B6 := (B.trans (hb.mono B.size)).setCell (p := ⟨gp, 0, none⟩) (show w.heap.size ≤ gp by omega) (.slice a6 (Wt.dg (v * x)).length c6)
      have HTG := Lib.hid (fun W h => toogreat_any (.agg #[.slice a6 (Wt.dg (v * x)).length c6]) (v * x) W h)
      have HLG := Lib.hid (show decide (512 < ((Wt.dg (v * x)).length : Int)) = decide (Great (v * x)) from decide_eq_decide.2 ⟨fun h => by unfold Great; omega, fun h => by unfold Great at h; omega⟩)
      rw [HLG.out] at HTG
      clear hu hw6 hb k8 kp0 k10 HLG
      generalize hsum : v * x = sm at *
      generalize hl6 : (Wt.dg sm).length = l6 at *
      have HL6 := Lib.hid hl6
      have e80 : (w6.setCell ⟨gp, 0, none⟩ (.slice a6 l6 c6)).cell? ⟨gp, 0, none⟩ = some (.slice a6 l6 c6) := HKP6.out.cell 0
      clear hsum hl6 hgs
      go_wp2_with fail
      generalize w6.setCell ⟨gp, 0, none⟩ (.slice a6 l6 c6) = w7 at *
      refine (HTG.out w7 HN6.out).mono ?_
      rintro e w8 ⟨rfl, hb⟩
      by_cases hgr : Great sm
      · have hd : decide (Great sm) = true := decide_eq_true hgr
        have HR := Lib.hid (show pg n = none from HPN.out (k + 1) HKL.out (by rw [HS3.out, if_pos hgr]))
        rw [hd]
        have k6 := HK26.out.go hb
        have hf6 := k6.free 0
        have h60 : w8.cell? ⟨w.heap.size + 1, 0, none⟩ = some (.slice none 0 0) := k6.cell 0
        have B8 := B6.trans (hb.mono B6.size)
        have k60 : ∀ u, (w8.setCell ⟨w.heap.size + 1, 0, none⟩ u).cell? ⟨w.heap.size + 1, 0, none⟩ = some u := fun u => (k6.set 0 u).cell 0
        clear hb hgr hd k6
        go_wp2_with fail
        rw [HR.out]
        exact bodyPost_ret (v := .tuple #[.agg #[.slice none 0 0], I64 16]) (by simp [results, Try.results27, go_sem, k60]) rfl ⟨_, rfl, nat_zero _, B8.setCell (by show w.heap.size ≤ w.heap.size + 1; omega) _⟩
      · have hd : decide (Great sm) = false := decide_eq_false hgr
        rw [hd]
        have HKP8 := Lib.hid (HKP6.out.go hb)
        have HN8 := Lib.hid (HN6.out.go hb)
        have HK18 := Lib.hid (HK16.out.go hb)
        have HK28 := Lib.hid (HK26.out.go hb)
        have HX8 := Lib.hid (HX6.out.go hb)
        have B8 := Lib.hid (B6.trans (hb.mono B6.size))
        have HNG := Lib.hid hgr
        clear hb hgr hd B6
        go_wp2_with fail
        have h9 := HKL.out
        refine ⟨⟨k + 1, sm, a6, c6, h9, by go_num, by rw [HS3.out, if_neg HNG.out], HNG.out, by rw [HL6.out]; exact HKP8.out, by rw [HL6.out]; exact HN8.out, HK18.out, HX8.out, HK28.out, B8.out⟩, by simp [intOf]; omega⟩
    · obtain rfl : k = n := by omega
      have h80 : wr.cell? ⟨gp, 0, none⟩ = some (.slice a (Wt.dg v).length c) := HKP.out.cell 0
      have hf6 := HK2.out.free 0
      have h60 : wr.cell? ⟨w.heap.size + 1, 0, none⟩ = some (.slice none 0 0) := HK2.out.cell 0
      have hgs := grown_setCell wr ⟨w.heap.size + 1, 0, none⟩ (.slice a (Wt.dg v).length c)
      have HN8 := Lib.hid (HVV.out.box HK2.out hgs)
      have HKE := Lib.hid ((HK2.out.set 0 (.slice a (Wt.dg v).length c)).cell 0)
      clear hgs
      generalize (Wt.dg v).length = lv at *
      go_wp2_with fail
      rw [HF.out]
      exact bodyPost_ret (v := .tuple #[.agg #[.slice a lv c], I64 0]) (by have h := HKE.out; simp at h; simp [results, Try.results27, go_sem, h]) rfl ⟨_, rfl, HN8.out, B.setCell (by show w.heap.size ≤ w.heap.size + 1; omega) _⟩

end Go.Proofs.Ytphdadibfeencaa

/-
  The laws of numbers (layer 6): what is asked through 'To' and 'Is', the example; numbers in boxes and in lists.
-/
set_option maxRecDepth 100000
namespace Go.Proofs.Ytphdadibfeencaa
open Go.RowKit

/-! ### How great a number may be -/

theorem great_gen (k n : Nat) : k < (Wt.dg n).length ↔ 256 ^ (8 * k) ≤ n := by
  have h := Wt.dg_length_iff (n := n) (k := k)
  have e : (18446744073709551616 : Nat) ^ k = 256 ^ (8 * k) := by
    rw [Nat.pow_mul, show (256 : Nat) ^ 8 = 18446744073709551616 from by decide]
  rw [e] at h
  generalize 256 ^ (8 * k) = P at h ⊢
  omega
theorem not_great_gen {n k m : Nat} (h : n < 256 ^ k) (hk : k ≤ 8 * m) : ¬ m < (Wt.dg n).length := fun hg =>
  absurd (Nat.lt_of_lt_of_le h (Nat.le_trans (Nat.pow_le_pow_right (by decide) hk) ((great_gen m n).1 hg))) (Nat.lt_irrefl _)
theorem not_great {n k : Nat} (h : n < 256 ^ k) (hk : k ≤ 4096) : ¬ Great n := not_great_gen (m := 512) h hk
theorem words_small {n : Nat} (h : ¬ Great n) : (Wt.dg n).length ≤ 100000 := Nat.le_trans (small_of h) (by decide)

/-! ### Sums and products of two, and of three -/

/-- Powers. -/
theorem powG_some {x : Nat} : ∀ {k : Nat}, (∀ j, j ≤ k → ¬ Great (x ^ j)) → powG x k = some (x ^ k)
  | 0, _ => rfl
  | k + 1, h => by
    rw [powG_succ, powG_some (fun j hj => h j (by omega))]
    have := h (k + 1) (Nat.le_refl _)
    rw [Nat.pow_succ] at this
    simp [this, Nat.pow_succ]
theorem pow_ok (u : Value) (x n : Nat) (w : World) (hn : n ≤ 65536) (hx : ¬ Great x) (h : ∀ j, j ≤ n → ¬ Great (x ^ j)) (hU : IsNat w u x) :
    Calls Try.prog 27 #[u, .int .i64 n] w (NatE w (x ^ n) 0) := by
  have h1 := natpow_yes u x n w hn hx hU
  rw [powG_some h] at h1
  exact h1
/-! ### Numbers in boxes and in lists -/

/-! ### To, Is -/

theorem tidied_val (l : List Nat) : Nt.val (Nt.tidied l) = Nt.val l := Nt.val_dg _
/-- The document's text of bytes, through Trim. -/
theorem doctext_any (v : Value) (l : List Nat) (w : World) (hx : ∀ x, x ∈ l → x < 256) (hl : l.length ≤ 100000) (hB : Bytes w v (Nt.tidied l)) :
    Calls Try.prog 32 #[v] w fun e w' => e = .returned (.string (strOf (Nt.txt (Nt.val l)))) ∧ Below w.heap.size w w' := by
  have h := reftext_any v (Nt.tidied l) w (Nat.le_trans (Nt.tidied_le hx) (Nat.le_trans hl (by decide))) hB
  rw [Nt.val_hex hB.lt, tidied_val] at h
  exact h

theorem text_eq (m n : Nat) : ((strOf (Nt.txt m)).toList == (strOf (Nt.txt n)).toList) = decide (m = n) := by
  by_cases h : m = n
  · subst h; simp
  · rw [decide_eq_false h, beq_eq_false_iff_ne]
    intro e
    refine h (Nt.txt_inj (strOf_inj (Nt.txt_lt m) (Nt.txt_lt n) ?_))
    rw [ByteArray.toList_eq, ByteArray.toList_eq] at e
    have : ∀ x y : ByteArray, x.data.toList = y.data.toList → x = y := by
      intro x y h
      cases x; cases y
      simp only [ByteArray.mk.injEq]
      exact Array.toList_inj.1 h
    exact this _ _ e

set_option maxHeartbeats 400000 in
theorem is_any (u v : Value) (n : Nat) (l : List Nat) (w : World) (hn : (Wt.dg n).length ≤ 100000) (hl : l.length ≤ 100000) (hU : IsNat w u n) (hB : Bytes w v l) :
    Calls Try.prog 12 #[u, v] w fun e w' => e = .returned (.bool (decide (n = Nt.val l))) ∧ Below w.heap.size w w' := by
  have HB := Lib.hid hB
  have HU := Lib.hid hU
  have HL := Lib.hid hl
  have HN := Lib.hid (fun u w h => nattext_any u n w hn h)
  obtain ⟨a, c, rfl, _⟩ := hB
  obtain ⟨pa, ca, rfl, _⟩ := hU.shape
  clear hl hU hn
  generalize (Wt.dg n).length = m at *
  go_enter Try.func12, Try.ntmps12
  go_upto_region 1 with fail
  obtain ⟨B, hk1, hs⟩ := blocks1 w #[.slice pa m ca] 36
  generalize (w.alloc (.cells #[.slice pa m ca] 36)) = W at *
  have K1 := Lib.hid hk1
  have HS := Lib.hid hs
  clear hs hk1
  replace HB := Lib.hid (HB.out.go B)
  replace HU := Lib.hid (HU.out.go B)
  have hzW := B.size
  have h0 : W.cell? ⟨w.heap.size, 0, none⟩ = some (.slice pa m ca) := K1.out.cell 0
  go_wp2_with fail
  refine (HN.out _ W HU.out).mono ?_
  rintro e w2 ⟨rfl, hb⟩
  replace HB := Lib.hid (HB.out.go hb)
  replace B := B.trans (hb.mono B.size)
  clear hb h0
  go_wp2_with fail
  refine (reftrim_any _ _ w2 HB.out).mono ?_
  rintro e w' ⟨⟨v1, rfl, h1⟩, rfl⟩
  have HB1 := Lib.hid h1
  obtain ⟨a1, c1, rfl, _⟩ := h1
  go_wp2_with fail
  refine (doctext_any _ l w2 HB.out.lt HL.out HB1.out).mono ?_
  rintro e w3 ⟨rfl, hb⟩
  replace B := B.trans (hb.mono B.size)
  clear hb
  have HE := Lib.hid (text_eq n (Nt.val l))
  go_wp2_with fail
  go_ret
  exact ⟨congrArg (fun b => Ending.returned (.bool b)) HE.out, B⟩

end Go.Proofs.Ytphdadibfeencaa

/-
  A region that draws its order, makes a list of numbers and a box for a result, and writes the box.
-/
set_option maxRecDepth 100000
namespace Go.Proofs.Ytphdadibfeencaa
open Go.RowKit

/-- A step that writes a box of one number which was made behind W. -/
def Hn (W : World) (_ : Nat) (w w' : World) : Prop := ∃ g a n c a' n' c', W.heap.size ≤ g ∧ Blk w g #[.slice a n c] 36 ∧ w.grownBy w' (some g) ∧ Blk w' g #[.slice a' n' c'] 36
theorem hCH_n (W : World) : ∀ (c : Nat) w w', Cb W w → Hn W c w w' → Cb W w' := fun _ _ _ h ⟨_, _, _, _, _, _, _, hg, _, hw, _⟩ => below_grown h hw h.size hg
theorem IsNat.hn {W w w' : World} {c : Nat} {u : Value} {n : Nat} (h : IsNat w u n) (hh : Hn W c w w') : IsNat w' u n := by
  obtain ⟨g, a, m, c, _, _, _, _, hk, hg, _⟩ := hh
  exact h.box hk hg

variable {W : World}
/-- A number. -/
def Ty.nat (t : Tmp) (n : Nat) : Ty (Cb W) Rb (Hn W) := Ty.one t (fun v w => IsNat w v n) (fun _ _ _ _ hR h => h.go hR) (fun _ _ _ _ _ hH h => h.hn hH)
/-- A number and an error's. -/
def Ty.natE (t : Tmp) (n : Nat) (err : Int) : Ty (Cb W) Rb (Hn W) := Ty.one t (fun v w => ∃ u, v = .tuple #[u, .int .i64 err] ∧ IsNat w u n) (fun _ _ _ _ hR ⟨u, e, h⟩ => ⟨u, e, h.go hR⟩) (fun _ _ _ _ _ hH ⟨u, e, h⟩ => ⟨u, e, h.hn hH⟩)
/-- A box for a number, made anew. -/
def Made (W w : World) (v : Value) : Prop := ∃ g a n c, v = .pointer (some ⟨g, 0, none⟩) ∧ W.heap.size ≤ g ∧ Blk w g #[.slice a n c] 36
theorem Made.hn {w w' : World} {c : Nat} {v : Value} (h : Made W w v) (hh : Hn W c w w') : Made W w' v := by
  obtain ⟨g, a, n, c, e, hg, hk⟩ := h
  obtain ⟨g', a', n', c', a2, n2, c2, _, hk', hw, hk2⟩ := hh
  by_cases h : g = g'
  · subst h; exact ⟨g, a2, n2, c2, e, hg, hk2⟩
  · exact ⟨g, a, n, c, e, hg, hk.grown hw (by simpa using h)⟩
def Ty.made (t : Tmp) : Ty (Cb W) Rb (Hn W) := Ty.one t (fun v w => Made W w v) (fun _ _ _ _ hR ⟨g, a, n, c, e, hg, hk⟩ => ⟨g, a, n, c, e, hg, hk.go hR⟩) (fun _ _ _ _ _ hH h => h.hn hH)
/-- What the box holds at last. -/
def Filled (W w : World) (v : Value) (x : Nat) : Prop := ∃ g a n c, v = .pointer (some ⟨g, 0, none⟩) ∧ W.heap.size ≤ g ∧ Blk w g #[.slice a n c] 36 ∧ IsNat w (.agg #[.slice a n c]) x
def Ty.filled (t : Tmp) (x : Nat) : Ty (Cb W) Rb (Hn W) :=
  ⟨[t], fun vs w => Filled W w (vs.headD undef) x, some 0, fun _ => false, fun _ _ _ _ hR ⟨g, a, n, c, e, hg, hk, hn⟩ => ⟨g, a, n, c, e, hg, hk.go hR, hn.go hR⟩, (fun _ e => by cases e), fun _ => True, fun _ => true, fun _ _ _ _ _ => trivial, (fun _ _ _ _ _ _ _ => trivial)⟩

section
variable {P : Program} {C : World → Prop} {R : World → World → Prop} {H : Nat → World → World → Prop} {a : Act} {w : World} {o : Oper} {Q : Exit → Act → World → Prop}
/-- A store by a temporary of which is told. -/
theorem ob_store1 {T : Ty C R H} {t : Tmp} {c : Nat} {E : TypeId} {y : Operand} {p q : Value} (w1 : World) (hS : T.S = [t]) (hh : T.kind = some c) (hd : o.dst = none) (hop : o.op = .store E (.tmp t) y) (hx : a.eval (.tmp t) = p) (hy : a.eval y = q)
    (hrun : (Instr.storeAt E p q).run P w = .ok () w1) (hH : H c w w1) (hF : T.F [p] w1) : Done P T Q o a w := by
  unfold Done Oper.wp
  have e : (execOp a.eval o).run P w = .ok .skip w1 := by simp [execOp, hop, hx, hy, hrun]
  rw [e]
  refine ⟨undef, rfl, by unfold stepR; rw [hh]; exact hH, ?_⟩
  rw [hS, List.map_cons, List.map_nil, hd]
  show T.F [a.eval (.tmp t)] w1
  rw [hx]
  exact hF
end

theorem store_nat {w : World} {g : Nat} {a0 a1 : Option Addr} {n0 n1 c0 c1 : Nat} {T : TypeId} (hk : Blk w g #[.slice a0 n0 c0] T) : (Instr.storeAt 36 (.pointer (some ⟨g, 0, none⟩)) (.agg #[.slice a1 n1 c1])).run Try.prog w = .ok () (w.setCell ⟨g, 0, none⟩ (.slice a1 n1 c1)) := by
  have h0 : w.cell? ⟨g, 0, none⟩ = some (.slice a0 n0 c0) := hk.cell 0
  have hf := hk.free 0
  go_simp

/-- The store of a result. -/
theorem ob_store_nat {Q : Exit → Act → World → Prop} {a : Act} {w : World} {o : Oper} {t : Tmp} {y : Operand} {x : Nat} (hd : o.dst = none) (hop : o.op = .store 36 (.tmp t) y) (hm : Made W w (a.eval (.tmp t))) (hy : IsNat w (a.eval y) x) :
    Done Try.prog (Ty.filled (W := W) t x) Q o a w := by
  obtain ⟨g, a0, n0, c0, e, hg, hk⟩ := hm
  obtain ⟨a1, c1, e1, hw, _⟩ := hy.shape
  have hgs := grown_setCell w ⟨g, 0, none⟩ (.slice a1 (Wt.dg x).length c1)
  have hn : IsNat w (.agg #[.slice a1 (Wt.dg x).length c1]) x := ⟨_, rfl, hw⟩
  refine ob_store1 _ rfl rfl hd hop e e1 (store_nat hk) ⟨g, a0, n0, c0, _, _, _, hg, hk, hgs, hk.set 0 _⟩ ⟨g, _, _, _, rfl, hg, hk.set 0 _, hn.box hk hgs⟩

/-- The box. -/
theorem ob_made {Q : Exit → Act → World → Prop} {a : Act} {w : World} {o : Oper} {t : Tmp} (hd : o.dst = some t) (hlt : t < a.tmps.size) (hop : o.op = .alloc 36) (hC : Cb W w)
    (hrun : (execOp a.eval o).run Try.prog w = .ok (.value (.pointer (some ⟨w.heap.size, 0, none⟩))) (w.alloc (.cells #[.slice none 0 0] 36))) : Done Try.prog (Ty.made (W := W) t) Q o a w := by
  have _ := hop
  refine ob_value _ _ rfl rfl hd hlt hrun ((Below.refl _ _).alloc (Nat.le_refl _) _) ⟨_, _, _, _, rfl, hC.size, Blk.new _ _ _ _ rfl⟩

end Go.Proofs.Ytphdadibfeencaa

/-
  What equations say together (layer 9) in the program: 'Count'.
-/
set_option maxRecDepth 100000
namespace Go.Proofs.Ytphdadibfeencaa
open Go.RowKit

theorem pow256 {n j : Nat} (h : n ≤ 4000) (hj : j ≤ n) : ¬ Great (256 ^ j) := not_great (k := j + 1) (Nat.pow_lt_pow_right (by decide) (Nat.lt_succ_self _)) (by omega)
theorem pow256_any (u : Value) (n : Nat) (w : World) (hn : n ≤ 4000) (hU : IsNat w u 256) :
    Calls Try.prog 27 #[u, .int .i64 (n : Int)] w (NatE w (256 ^ n) 0) :=
  pow_ok u 256 n w (by omega) (by have := pow256 (n := 1) (j := 1) (by decide) (by decide); simpa using this) (fun _ hj => pow256 hn hj) hU
theorem sub_int {x y : Operand} {a b c : Nat} (h : (a : Int) - (b : Int) = (c : Int)) (hc : c ≤ 9223372036854775807) (w : World) : (do eqGuard .sub 3 x y (.int .i64 a) (.int .i64 b); binOp .sub 3 (.int .i64 a) (.int .i64 b) : Sem Value).run Try.prog w = .ok (.int .i64 c) w := by
  go_simp
  rw [IntKind.wrap_i64]; omega
theorem mul_int {x y : Operand} {a b c : Nat} (h : (a : Int) * (b : Int) = (c : Int)) (hc : c ≤ 9223372036854775807) (w : World) : (do eqGuard .mul 3 x y (.int .i64 a) (.int .i64 b); binOp .mul 3 (.int .i64 a) (.int .i64 b) : Sem Value).run Try.prog w = .ok (.int .i64 c) w := by
  go_simp
  rw [IntKind.wrap_i64]; omega
/-- How many solutions there are. -/
def countN (k t : Nat) (L : List Rw) : Nat := if 0 ≤ firstC L L.length then 0 else 256 ^ (t * (k - (Ro.redOf L).length))

set_option maxHeartbeats 1000000 in
theorem count_no (k t : Int) (v : Value) (L : List Rw) (w : World) (hL : IsRL w v L) (h : ¬ newOk k t) :
    Calls Try.prog 9 #[.int .i64 k, .int .i64 t, v] w (NatE w 0 2) := by
  have HL := Lib.hid hL
  obtain ⟨a, c, rfl⟩ := hL.shape
  clear hL
  go_enter Try.func9, Try.ntmps9
  go_wp2_with fail
  obtain ⟨B, hk1, hs⟩ := blocks1 w #[.slice none 0 0] 36
  generalize (w.alloc (.cells #[.slice none 0 0] 36)) = W at *
  have K1 := Lib.hid hk1
  have HS := Lib.hid hs
  clear hs hk1
  replace HL := Lib.hid (HL.out.go B)
  have hzW := B.size
  refine (judge_no k t _ L _ HL.out h).mono ?_
  rintro e w1 ⟨rfl, hb⟩
  replace K1 := Lib.hid (K1.out.go hb)
  replace B := B.trans (hb.mono B.size)
  have hzw1 := B.size
  clear hb
  have f0 := K1.out.free 0
  have c0 : w1.cell? ⟨w.heap.size, 0, none⟩ = some (.slice none 0 0) := K1.out.cell 0
  have l0 := K1.out.lt
  go_wp2_with fail
  have hbs := B.setCell (p := ⟨w.heap.size, 0, none⟩) (Nat.le_refl _) (.slice none 0 0)
  have hB := hbs.alloc hbs.size (.cells #[.int .i64 0, .int .i64 0] 30)
  have e0 := ((K1.out.set 0 (.slice none 0 0)).go ((Below.refl _ _).alloc (Nat.le_refl _) (.cells #[.int .i64 0, .int .i64 0] 30))).cell 0
  exact bodyPost_ret (v := .tuple #[.agg #[.slice none 0 0], .int .i64 2]) (by simp [results, Try.results9, go_sem, e0]) rfl ⟨_, rfl, nat_zero _, hB⟩
set_option maxHeartbeats 1000000 in
theorem count_size (k t : Nat) (v : Value) (L : List Rw) (w : World) (hL : IsRL w v L) (hlen : L.length ≤ 1000000) (h : newOk (k : Int) (t : Int)) (hf : L.all (fitB (k : Int) (t : Int)) = false) :
    Calls Try.prog 9 #[.int .i64 (k : Int), .int .i64 (t : Int), v] w (NatE w 0 4) := by
  have HL := Lib.hid hL
  obtain ⟨a, c, rfl⟩ := hL.shape
  clear hL
  go_enter Try.func9, Try.ntmps9
  go_wp2_with fail
  obtain ⟨B, hk1, hs⟩ := blocks1 w #[.slice none 0 0] 36
  generalize (w.alloc (.cells #[.slice none 0 0] 36)) = W at *
  have K1 := Lib.hid hk1
  have HS := Lib.hid hs
  clear hs hk1
  replace HL := Lib.hid (HL.out.go B)
  have hzW := B.size
  refine (judge_size k t _ L _ HL.out hlen h hf).mono ?_
  rintro e w1 ⟨rfl, hb⟩
  replace K1 := Lib.hid (K1.out.go hb)
  replace B := B.trans (hb.mono B.size)
  have hzw1 := B.size
  clear hb
  have f0 := K1.out.free 0
  have c0 : w1.cell? ⟨w.heap.size, 0, none⟩ = some (.slice none 0 0) := K1.out.cell 0
  have l0 := K1.out.lt
  go_wp2_with fail
  have hbs := B.setCell (p := ⟨w.heap.size, 0, none⟩) (Nat.le_refl _) (.slice none 0 0)
  have hB := hbs.alloc hbs.size (.cells #[.int .i64 0, .int .i64 0] 30)
  have e0 := ((K1.out.set 0 (.slice none 0 0)).go ((Below.refl _ _).alloc (Nat.le_refl _) (.cells #[.int .i64 0, .int .i64 0] 30))).cell 0
  exact bodyPost_ret (v := .tuple #[.agg #[.slice none 0 0], .int .i64 4]) (by simp [results, Try.results9, go_sem, e0]) rfl ⟨_, rfl, nat_zero _, hB⟩

set_option maxHeartbeats 2000000 in
theorem count_yes (k t : Nat) (v : Value) (L : List Rw) (w : World) (hL : IsRL w v L) (hlen : L.length ≤ 1000000) (h : newOk (k : Int) (t : Int)) (hD : Ro.Dims k t L) (hkt : t * k ≤ 4000) :
    Calls Try.prog 9 #[.int .i64 (k : Int), .int .i64 (t : Int), v] w (NatE w (countN k t L) 0) := by
  have HL := Lib.hid hL
  obtain ⟨a, c, rfl⟩ := hL.shape
  have HJ := Lib.hid (fun (w : World) (hh : IsRL w (.slice a L.length c) L) => judge_yes k t _ L w hh hlen h hD)
  have hrk : (Ro.redOf L).length ≤ k := by
    have := (redOf_red hD L.length (Nat.le_refl _)).1
    rw [List.take_length] at this
    rw [red_rank1 this]; exact La.rk_le _ _
  obtain ⟨rk, hr⟩ : ∃ rk, rk = (Ro.redOf L).length := ⟨_, rfl⟩
  obtain ⟨f, hf⟩ : ∃ f, f = firstC L L.length := ⟨_, rfl⟩
  have HC := Lib.hid (show countN k t L = if 0 ≤ f then 0 else 256 ^ (t * (k - rk)) by unfold countN; rw [hr, hf])
  rw [← hr] at hrk HJ
  rw [← hf] at HJ
  obtain ⟨N, hN⟩ : ∃ N, N = countN k t L := ⟨_, rfl⟩
  rw [← hN] at HC ⊢
  have hb2 : k ≤ 4096 ∧ t ≤ 65535 := by unfold newOk at h; omega
  clear hL hr hf hD h hN
  by_cases h0 : 0 ≤ f
  · have HC2 := Lib.hid (show N = 0 by rw [HC.out, if_pos h0])
    clear HC
    go_enter Try.func9, Try.ntmps9
    go_wp2_with fail
    obtain ⟨B, hk1, hs⟩ := blocks1 w #[.slice none 0 0] 36
    generalize (w.alloc (.cells #[.slice none 0 0] 36)) = W at *
    have K1 := Lib.hid hk1
    have HS := Lib.hid hs
    clear hs hk1
    replace HL := Lib.hid (HL.out.go B)
    have hzW := B.size
    refine (HJ.out _ HL.out).mono ?_
    rintro e w1 ⟨rfl, hb⟩
    replace K1 := Lib.hid (K1.out.go hb)
    replace B := B.trans (hb.mono B.size)
    have hzw1 := B.size
    clear hb
    clear HJ HL
    have f0 := K1.out.free 0
    have c0 : w1.cell? ⟨w.heap.size, 0, none⟩ = some (.slice none 0 0) := K1.out.cell 0
    have l0 := K1.out.lt
    go_wp2_with fail
    have hbs := B.setCell (p := ⟨w.heap.size, 0, none⟩) (Nat.le_refl _) (.slice none 0 0)
    have hB := hbs.alloc hbs.size (.cells #[.int .i64 (rk : Int), .int .i64 f] 30)
    have e0 := ((K1.out.set 0 (.slice none 0 0)).go ((Below.refl _ _).alloc (Nat.le_refl _) (.cells #[.int .i64 (rk : Int), .int .i64 f] 30))).cell 0
    exact bodyPost_ret (v := .tuple #[.agg #[.slice none 0 0], .int .i64 0]) (by simp [results, Try.results9, go_sem, e0]) rfl ⟨_, rfl, by rw [HC2.out]; exact nat_zero _, hB⟩
  · have HC2 := Lib.hid (show N = 256 ^ (t * (k - rk)) by rw [HC.out, if_neg h0])
    obtain ⟨m, hm⟩ : ∃ m, m = k - rk := ⟨_, rfl⟩
    have hm2 : (k : Int) - (rk : Int) = (m : Int) := by omega
    have htm : t * m ≤ 4000 := Nat.le_trans (Nat.mul_le_mul_left t (by omega)) hkt
    obtain ⟨q, hq⟩ : ∃ q, q = t * m := ⟨_, rfl⟩
    have hq2 : (t : Int) * (m : Int) = (q : Int) := by rw [hq]; simp
    rw [← hm, ← hq] at HC2
    rw [← hq] at htm
    have HM := Lib.hid hm2
    have HQ := Lib.hid hq2
    clear hm hq hm2 hq2 hkt HC
    go_enter Try.func9, Try.ntmps9
    go_wp2_with fail
    obtain ⟨B, hk1, hs⟩ := blocks1 w #[.slice none 0 0] 36
    generalize (w.alloc (.cells #[.slice none 0 0] 36)) = W at *
    have K1 := Lib.hid hk1
    have HS := Lib.hid hs
    clear hs hk1
    replace HL := Lib.hid (HL.out.go B)
    have hzW := B.size
    refine (HJ.out _ HL.out).mono ?_
    rintro e w1 ⟨rfl, hb⟩
    replace K1 := Lib.hid (K1.out.go hb)
    replace B := B.trans (hb.mono B.size)
    have hzw1 := B.size
    clear hb
    clear HJ HL
    go_upto_region 6 with fail
    obtain ⟨hb, hk, hs⟩ := blocks1 w1 #[.int .i64 (rk : Int), .int .i64 f] 30
    generalize w1.alloc (.cells #[.int .i64 (rk : Int), .int .i64 f] 30) = W2 at *
    have K2 := Lib.hid hk
    replace K1 := Lib.hid (K1.out.go hb)
    replace B := B.trans (hb.mono B.size)
    have hzW2 := B.size
    clear hb hk hs
    have hmk : m ≤ k := by have := HM.out; omega
    obtain ⟨g, hg⟩ : ∃ g : Nat, g = w1.heap.size := ⟨_, rfl⟩
    rw [← hg] at K2
    simp only [← hg]
    clear hg
    have l0 := K1.out.lt
    refine wp_region_mono (C := Cb W2) (R := Rb) (H := Hn W2) [Ty.nat 27 256, Ty.val 28 (.int .i64 (t : Int)), Ty.val 29 (.int .i64 (k : Int)), Ty.val 30 (.pointer (some ⟨g, 0, none⟩)), Ty.val 31 (.int .i64 (rk : Int)), Ty.val 32 (.int .i64 (m : Int)), Ty.val 33 (.int .i64 (q : Int)), Ty.natE 34 (256 ^ q) 0, Ty.natE 26 (256 ^ q) 0, Ty.nat 35 (256 ^ q), Ty.val 36 (.int .i64 0), Ty.made 10 , Ty.filled 10 (256 ^ q), Ty.val 9 (.int .i64 0)] (by kernel_rfl) (hC_b W2) (hCH_n W2) (drew_b W2) ⟨trivial, trivial, trivial, trivial, trivial, trivial, trivial, trivial, trivial, trivial, trivial, trivial, trivial, trivial, trivial⟩ (by kernel_rfl) ?_ ?_
    · refine ⟨?_, ?_, ?_, ?_, ?_, ?_, ?_, ?_, ?_, ?_, ?_, ?_, ?_, ?_, trivial⟩
      · intro ac wc hC hsz hfr hd hpr
        rw [if_pos (wanted_none rfl)]
        refine ob_call rfl rfl rfl (Nat.lt_of_lt_of_eq (by decide : 27 < 41) hsz.symm) rfl (enter_of Try.func17 (by kernel_rfl) rfl) ?_
        show Calls Try.prog 17 #[.int .u64 256] wc _
        exact natof_any 256 wc (by decide)
      · intro ac wc hC hsz hfr hd hpr
        have d1 : ac.eval (.tmp 1) = (.int .i64 (t : Int)) := hfr 1 rfl
        rw [if_pos (wanted_none rfl)]
        exact ob_copy rfl rfl rfl (Nat.lt_of_lt_of_eq (by decide : 28 < 41) hsz.symm) (Or.inl rfl) (Below.refl _ _) d1
      · intro ac wc hC hsz hfr hd hpr
        have d0 : ac.eval (.tmp 0) = (.int .i64 (k : Int)) := hfr 0 rfl
        rw [if_pos (wanted_none rfl)]
        exact ob_copy rfl rfl rfl (Nat.lt_of_lt_of_eq (by decide : 29 < 41) hsz.symm) (Or.inl rfl) (Below.refl _ _) d0
      · intro ac wc hC hsz hfr hd hpr
        have d8 : ac.eval (.tmp 8) = (.pointer (some ⟨g, 0, none⟩)) := hfr 8 rfl
        rw [if_pos (wanted_none rfl)]
        exact ob_field _ rfl rfl rfl (Nat.lt_of_lt_of_eq (by decide : 30 < 41) hsz.symm) rfl d8 (fun w => by go_simp) (Below.refl _ _) rfl
      · intro ac wc hC hsz hfr hd hpr
        have d30 : ac.eval (.tmp 30) = (.pointer (some ⟨g, 0, none⟩)) := hd 3 rfl
        rw [if_pos (wanted_none rfl)]
        exact ob_load _ rfl rfl rfl (Nat.lt_of_lt_of_eq (by decide : 31 < 41) hsz.symm) rfl d30 (load_int ((K2.out.go hC).cell 0)) (Below.refl _ _) rfl
      · intro ac wc hC hsz hfr hd hpr
        have d29 : ac.eval (.tmp 29) = (.int .i64 (k : Int)) := hd 2 rfl
        have d31 : ac.eval (.tmp 31) = (.int .i64 (rk : Int)) := hd 4 rfl
        rw [if_pos (wanted_none rfl)]
        exact ob_bin _ rfl rfl rfl (Nat.lt_of_lt_of_eq (by decide : 32 < 41) hsz.symm) rfl d29 d31 (sub_int HM.out (by omega)) (Below.refl _ _) rfl
      · intro ac wc hC hsz hfr hd hpr
        have d28 : ac.eval (.tmp 28) = (.int .i64 (t : Int)) := hd 1 rfl
        have d32 : ac.eval (.tmp 32) = (.int .i64 (m : Int)) := hd 5 rfl
        rw [if_pos (wanted_none rfl)]
        exact ob_bin _ rfl rfl rfl (Nat.lt_of_lt_of_eq (by decide : 33 < 41) hsz.symm) rfl d28 d32 (mul_int HQ.out (by omega)) (Below.refl _ _) rfl
      · intro ac wc hC hsz hfr hd hpr
        have d27 : IsNat wc (ac.eval (.tmp 27)) 256 := hd 0 rfl
        have d33 : ac.eval (.tmp 33) = (.int .i64 (q : Int)) := hd 6 rfl
        rw [if_pos (wanted_none rfl)]
        refine ob_call rfl rfl rfl (Nat.lt_of_lt_of_eq (by decide : 34 < 41) hsz.symm) rfl (enter_of Try.func27 (by kernel_rfl) rfl) ?_
        show Calls Try.prog 27 #[ac.eval (.tmp 27), ac.eval (.tmp 33)] wc _
        rw [d33]
        exact (pow256_any _ q wc htm d27).mono fun _ _ ⟨u, he, hu, hb⟩ => ⟨_, he, ⟨u, rfl, hu⟩, hb⟩
      · intro ac wc hC hsz hfr hd hpr
        have d34 : ∃ u, ac.eval (.tmp 34) = .tuple #[u, .int .i64 0] ∧ IsNat wc (u) (256 ^ q) := hd 7 rfl
        rw [if_pos (wanted_none rfl)]
        exact ob_copy rfl rfl rfl (Nat.lt_of_lt_of_eq (by decide : 26 < 41) hsz.symm) (Or.inl rfl) (Below.refl _ _) d34
      · intro ac wc hC hsz hfr hd hpr
        have d26 : ∃ u, ac.eval (.tmp 26) = .tuple #[u, .int .i64 0] ∧ IsNat wc (u) (256 ^ q) := hd 8 rfl
        rw [if_pos (wanted_none rfl)]
        obtain ⟨u, eu, hu⟩ := d26
        exact ob_extract _ rfl rfl rfl (Nat.lt_of_lt_of_eq (by decide : 35 < 41) hsz.symm) rfl eu (extract0 _ _) (Below.refl _ _) hu
      · intro ac wc hC hsz hfr hd hpr
        have d26 : ∃ u, ac.eval (.tmp 26) = .tuple #[u, .int .i64 0] ∧ IsNat wc (u) (256 ^ q) := hd 8 rfl
        rw [if_pos (wanted_none rfl)]
        obtain ⟨u, eu, hu⟩ := d26
        exact ob_extract _ rfl rfl rfl (Nat.lt_of_lt_of_eq (by decide : 36 < 41) hsz.symm) rfl eu (extract1 _ _) (Below.refl _ _) rfl
      · intro ac wc hC hsz hfr hd hpr
        rw [if_pos (wanted_none rfl)]
        have hlt : 10 < ac.tmps.size := (Nat.lt_of_lt_of_eq (by decide : 10 < 41) hsz.symm)
        exact ob_made rfl hlt rfl hC (by go_simp)
      · intro ac wc hC hsz hfr hd hpr
        have d10 : Made W2 wc (ac.eval (.tmp 10)) := hd 11 rfl
        have d35 : IsNat wc (ac.eval (.tmp 35)) (256 ^ q) := hd 9 rfl
        rw [if_pos (wanted_none rfl)]
        show Done _ (Ty.filled 10 (256 ^ q)) _ _ _ _
        exact ob_store_nat rfl rfl d10 d35
      · intro ac wc hC hsz hfr hd hpr
        have d36 : ac.eval (.tmp 36) = (.int .i64 0) := hd 10 rfl
        rw [if_pos (wanted_none rfl)]
        exact ob_copy rfl rfl rfl (Nat.lt_of_lt_of_eq (by decide : 9 < 41) hsz.symm) (Or.inr rfl) (Below.refl _ _) d36
    intro a' W3 hC hdef hsz hfr hd
    obtain ⟨x27, e27, r27⟩ : ∃ xq_, a'.eval (.tmp 27) = xq_ ∧ IsNat W3 (xq_) 256 := ⟨_, rfl, hd 0 (by decide)⟩
    replace r27 := Lib.hid r27
    have e28 : a'.eval (.tmp 28) = (.int .i64 (t : Int)) := hd 1 (by decide)
    have e29 : a'.eval (.tmp 29) = (.int .i64 (k : Int)) := hd 2 (by decide)
    have e30 : a'.eval (.tmp 30) = (.pointer (some ⟨g, 0, none⟩)) := hd 3 (by decide)
    have e31 : a'.eval (.tmp 31) = (.int .i64 (rk : Int)) := hd 4 (by decide)
    have e32 : a'.eval (.tmp 32) = (.int .i64 (m : Int)) := hd 5 (by decide)
    have e33 : a'.eval (.tmp 33) = (.int .i64 (q : Int)) := hd 6 (by decide)
    obtain ⟨x34, e34, r34⟩ : ∃ u, a'.eval (.tmp 34) = .tuple #[u, .int .i64 0] ∧ IsNat W3 (u) (256 ^ q) := hd 7 (by decide)
    replace r34 := Lib.hid r34
    obtain ⟨x26, e26, r26⟩ : ∃ u, a'.eval (.tmp 26) = .tuple #[u, .int .i64 0] ∧ IsNat W3 (u) (256 ^ q) := hd 8 (by decide)
    replace r26 := Lib.hid r26
    obtain ⟨x35, e35, r35⟩ : ∃ xq_, a'.eval (.tmp 35) = xq_ ∧ IsNat W3 (xq_) (256 ^ q) := ⟨_, rfl, hd 9 (by decide)⟩
    replace r35 := Lib.hid r35
    have e36 : a'.eval (.tmp 36) = (.int .i64 0) := hd 10 (by decide)
    obtain ⟨g10, x10, y10, z10, e10, hg10, kb10, r10⟩ : Filled W2 W3 (a'.eval (.tmp 10)) (256 ^ q) := hd 12 (by decide)
    replace r10 := Lib.hid r10
    replace kb10 := Lib.hid kb10
    have e9 : a'.eval (.tmp 9) = (.int .i64 0) := hd 13 (by decide)
    have hact := act_puts hdef hsz hfr
    simp only [dstsOf, List.filterMap, putAll, Act.put, List.setIfInBounds_toArray, List.set_cons_succ, List.set_cons_zero, e27, e28, e29, e30, e31, e32, e33, e34, e26, e35, e36, e10, e9] at hact
    clear hd hfr hsz hdef e27 e28 e29 e30 e31 e32 e33 e34 e26 e35 e36 e10 e9
    subst hact
    replace K1 := Lib.hid (K1.out.go hC)
    replace B := B.trans (hC.mono B.size)
    clear hC
    have f0 := K1.out.free 0
    have c0 : W3.cell? ⟨w.heap.size, 0, none⟩ = some (.slice none 0 0) := K1.out.cell 0
    have l3 := K1.out.lt
    have c3 : W3.cell? ⟨g10, 0, none⟩ = some (.slice x10 y10 z10) := kb10.out.cell 0
    go_wp2_with fail
    have e0 := (K1.out.set 0 (.slice x10 y10 z10)).cell 0
    have hB := B.setCell (p := ⟨w.heap.size, 0, none⟩) (Nat.le_refl _) (.slice x10 y10 z10)
    have HN := r10.out.hn (c := 0) (W := w) ⟨w.heap.size, _, _, _, _, _, _, Nat.le_refl _, K1.out, grown_setCell _ ⟨w.heap.size, 0, none⟩ _, K1.out.set 0 (.slice x10 y10 z10)⟩
    exact bodyPost_ret (v := .tuple #[.agg #[.slice x10 y10 z10], .int .i64 0]) (by simp [results, Try.results9, go_sem, e0]) rfl ⟨_, rfl, by rw [HC2.out]; exact HN, hB⟩

end Go.Proofs.Ytphdadibfeencaa

/-
  The laws of grids (layer 7): the example, and the grid of cut rows.
-/
set_option maxRecDepth 100000
namespace Go.Proofs.Ytphdadibfeencaa
open Go.RowKit

theorem Blk.bytes2 {W : World} {g : Nat} {x y : Int} {T : TypeId} (h : Blk W g #[.int .u8 x, .int .u8 y] T) (a b : Nat) (hx : x = a) (hy : y = b) (ha : a < 256) (hb : b < 256) : Bytes W (.slice (some ⟨g, 0, none⟩) 2 2) [a, b] := by
  subst hx; subst hy
  refine ⟨_, 2, rfl, Nat.le_refl _, by omega, by simp [ha, hb], fun _ => ⟨g, 0, rfl, h.lt, fun i hi => ?_⟩⟩
  rw [Nat.zero_add, h.cell i]
  match i, hi with
  | 0, _ => rfl
  | 1, _ => rfl
end Go.Proofs.Ytphdadibfeencaa

/-
  The laws of equations (layer 8): the example.
-/
set_option maxRecDepth 100000
namespace Go.Proofs.Ytphdadibfeencaa
open Go.RowKit

def eq1 : Rw := ([1, 1], [3])
theorem dim_1 : Ro.Dim 2 1 eq1 := ⟨rfl, rfl, by decide, by decide⟩
theorem Blk.bytes1 {W : World} {g : Nat} {x : Int} {T : TypeId} (h : Blk W g #[.int .u8 x] T) (a : Nat) (hx : x = a) (ha : a < 256) : Bytes W (.slice (some ⟨g, 0, none⟩) 1 1) [a] := by
  subst hx
  refine ⟨_, 1, rfl, Nat.le_refl _, by omega, by simp [ha], fun _ => ⟨g, 0, rfl, h.lt, fun i hi => ?_⟩⟩
  rw [Nat.zero_add, h.cell i]
  match i, hi with
  | 0, _ => rfl

end Go.Proofs.Ytphdadibfeencaa

/-
  The laws of what equations say together (layer 9): the example.
-/
set_option maxRecDepth 100000
namespace Go.Proofs.Ytphdadibfeencaa
open Go.RowKit

theorem count_awake : countN 2 1 [eq1] = 256 := by decide +kernel
theorem dims_awake : Ro.Dims 2 1 [eq1] := fun r hr => by rw [List.mem_singleton.1 hr]; exact dim_1
theorem not_great256 : ¬ Great 256 := by have := pow256 (n := 1) (j := 1) (by decide) (by decide); simpa using this
theorem str_100 : (strOf (Nt.txt 256)).toList == [49, 48, 48] := by decide +kernel
set_option maxHeartbeats 1000000 in
theorem awake9_any (w : World) :
    Calls Try.prog 5 #[] w fun e w' => e = .returned (.bool true) ∧ Below w.heap.size w w' := by
  have HCN := Lib.hid (fun (v : Value) (w : World) (h : IsRL w v [eq1]) => count_yes 2 1 v [eq1] w h (by simp) (by unfold newOk; omega) dims_awake (by decide))
  rw [count_awake] at HCN
  have HGM := Lib.hid not_great256
  go_enter Try.func5, Try.ntmps5
  go_wp2_with fail
  obtain ⟨B, hk1, hk2, hs⟩ := blocks2 w #[.int .u8 1, .int .u8 1] 5 #[.int .u8 3] 5
  generalize ((w.alloc (.cells #[.int .u8 1, .int .u8 1] 5)).alloc (.cells #[.int .u8 3] 5)) = W at *
  have K1 := Lib.hid hk1
  have K2 := Lib.hid hk2
  have HS := Lib.hid hs
  clear hs hk1 hk2
  have hzW := B.size
  have HL1 := Lib.hid (K1.out.bytes2 1 1 rfl rfl (by omega) (by omega))
  have HL2 := Lib.hid (K2.out.bytes1 3 rfl (by omega))
  refine (of_any _ _ [1, 1] [3] _ HL1.out HL2.out (by simp) (by simp)).mono ?_
  rintro e w3 ⟨u3, rfl, hu3, hb⟩
  replace B := B.trans (hb.mono B.size)
  have hzw3 := B.size
  clear hb
  obtain ⟨_, _, rfl, hp, hq⟩ := hu3
  have HP := Lib.hid hp
  have HQ := Lib.hid hq
  obtain ⟨pa, pc, rfl, _⟩ := hp
  obtain ⟨qa, qc, rfl, _⟩ := hq
  clear HL1 HL2 K1 K2 HS
  go_wp2_with fail
  have HL := Lib.hid (IsRL.one (T := 52) (r := eq1) w3.heap.size rfl HP.out HQ.out)
  have hb4 : Below w3.heap.size w3 (w3.alloc (.cells #[.slice pa 2 pc, .slice qa 1 qc] 52)) := (Below.refl _ _).alloc (Nat.le_refl _) _
  replace B := B.trans (hb4.mono B.size)
  have hb4 := B.size
  refine (HCN.out _ _ HL.out).mono ?_
  rintro e w5 ⟨u5, rfl, hu, hb⟩
  have HU5 := Lib.hid hu
  replace B := B.trans (hb.mono B.size)
  obtain ⟨a3, c3, rfl, _⟩ := hu.shape
  clear hb hu HL HP HQ HCN hb4
  generalize (Wt.dg 256).length = l3 at *
  go_upto_region 2 with fail
  obtain ⟨hb, hk, hs⟩ := blocks1 w5 #[.slice a3 l3 c3] 36
  generalize w5.alloc (.cells #[.slice a3 l3 c3] 36) = W4 at *
  have K4 := Lib.hid hk
  replace HU5 := Lib.hid (HU5.out.go hb)
  replace B := B.trans (hb.mono B.size)
  have hzW4 := B.size
  clear hb hk hs
  have h4 : W4.cell? ⟨w5.heap.size, 0, none⟩ = some (.slice a3 l3 c3) := K4.out.cell 0
  have hst := str_100
  go_wp2_with fail
  refine (nattext_any _ 256 W4 (words_small HGM.out) HU5.out).mono ?_
  rintro e w6 ⟨rfl, hb⟩
  replace B := B.trans (hb.mono B.size)
  clear hb h4
  generalize strOf (Nt.txt 256) = S at *
  go_wp2_with fail
  go_ret
  exact ⟨rfl, B⟩

end Go.Proofs.Ytphdadibfeencaa

/-
  The laws of equations (layer 8): ElimPuts, equation by equation.
-/
set_option maxRecDepth 100000
namespace Go.Proofs.Ytphdadibfeencaa
open Go.RowKit

theorem few8_at {L : List Rw} (h : few8 L = true) {j : Nat} (hj : j < L.length) : (rwAt L j).1.length ≤ 20 ∧ (rwAt L j).2.length ≤ 20 := by
  unfold few8 at h
  rw [Bool.and_eq_true, List.all_eq_true] at h
  have := h.1 _ (rwAt_mem hj)
  simpa using this
theorem few8_len {L : List Rw} (h : few8 L = true) : L.length ≤ 30 := by
  unfold few8 at h
  rw [Bool.and_eq_true] at h
  simpa using h.2
end Go.Proofs.Ytphdadibfeencaa
