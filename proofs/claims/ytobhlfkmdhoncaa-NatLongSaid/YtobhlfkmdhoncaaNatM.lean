/-
  The program's numbers (layer 6): 'Parse'.
-/
import Derived.Test.YtobhlfkmdhoncaaNatL
import Derived.Test.YtobhlfkmdhoncaaNatE
import Derived.Deep.DeepCutAuto
set_option maxRecDepth 100000
namespace Go.Proofs.Ytobhlfkmdhoncaa
open Go.RowKit

/-- What Parse answers of a text: the number, and the error's. -/
def parseN (t : List Nat) : Nat := if Nt.IsText t then Nt.pv t t.length else 0

theorem or_spell {x d r : Nat} (hx : x < 16 ^ r) (hs : x + 16 ^ r * d < 18446744073709551616) :
    Go.bits BinOp.or IntKind.u64 (x : Int) (IntKind.u64.wrap ((d : Int) * 2 ^ (4 * r))) = ((x + 16 ^ r * d : Nat) : Int) := by
  have e : (16 : Nat) ^ r = 2 ^ (4 * r) := by rw [Nat.pow_mul]
  rw [e] at hx hs ⊢
  have h1 : IntKind.u64.wrap ((d : Int) * 2 ^ (4 * r)) = ((2 ^ (4 * r) * d : Nat) : Int) := by
    rw [IntKind.wrap_u64]
    rw [show ((d : Int) * 2 ^ (4 * r)) = ((2 ^ (4 * r) * d : Nat) : Int) by push_cast; exact Int.mul_comm _ _]
    generalize 2 ^ (4 * r) * d = z at *
    omega
  rw [h1, u64_or_nat _ _ (by omega) (by omega), Nat.or_comm, ← Nat.two_pow_add_eq_or_of_lt hx d, Nat.add_comm]

set_option maxHeartbeats 400000 in
theorem parse_no (t : List Nat) (w : World) (ht : ∀ x, x ∈ t → x < 256) (hm0 : t.length ≤ 1000000) (h : ¬ Nt.IsText t) :
    Calls Try.prog 24 #[.string (strOf t)] w (NatE w 0 14) := by
  have HT := Lib.hid (istext_any t w ht hm0)
  have hd : decide (Nt.IsText t) = false := decide_eq_false h
  have HT2 := Lib.hid (fun w => istext_any t w ht hm0)
  rw [hd] at HT2
  generalize strOf t = S at *
  clear HT h hd
  go_enter Try.func24, Try.ntmps24
  go_upto_region 1 with fail
  obtain ⟨B, hk1, hs⟩ := blocks1 w #[.slice none 0 0] 47
  generalize (w.alloc (.cells #[.slice none 0 0] 47)) = W at *
  have K1 := Lib.hid hk1
  have HS := Lib.hid hs
  clear hs hk1
  have hzW := B.size
  have hf0 := K1.out.free 0
  have h0 : W.cell? ⟨w.heap.size, 0, none⟩ = some (.slice none 0 0) := K1.out.cell 0
  have e0 : ∀ v, (W.setCell ⟨w.heap.size, 0, none⟩ v).cell? ⟨w.heap.size, 0, none⟩ = some v := fun v => (K1.out.set 0 v).cell 0
  go_wp2_with fail
  refine (HT2.out _).mono ?_
  rintro e w' ⟨rfl, rfl⟩
  go_wp2_with fail
  exact bodyPost_ret (v := .tuple #[.agg #[.slice none 0 0], I64 14]) (by simp [results, Try.results24, go_sem, e0]) rfl ⟨_, rfl, nat_zero _, B.setCell (Nat.le_refl _) _⟩

set_option maxHeartbeats 2000000 in
theorem parse_yes (t : List Nat) (w : World) (ht : ∀ x, x ∈ t → x < 256) (hm0 : t.length ≤ 8192) (h : Nt.IsText t) :
    Calls Try.prog 24 #[.string (strOf t)] w (NatE w (Nt.pv t t.length) 0) := by
  have hd : decide (Nt.IsText t) = true := decide_eq_true h
  have HT2 := Lib.hid (fun w => istext_any t w ht (by omega))
  rw [hd] at HT2
  obtain ⟨S, hS⟩ : ∃ S, S = strOf t := ⟨_, rfl⟩
  rw [← hS] at HT2 ⊢
  obtain ⟨m, hm⟩ : ∃ m, m = t.length := ⟨_, rfl⟩
  rw [← hm]
  have hsz : S.size = m := by rw [hS, strOf_size, hm]
  have HSA := Lib.hid (fun i h => strOf_at ht hS i h)
  have HHX := Lib.hid (show ∀ q, q < m → Nt.IsHex (Nt.ch t q) from fun q hq => h.2.2 q (by omega))
  have HCH := Lib.hid (show ∀ q, Nt.ch t q = nth t (m - 1 - q) from fun q => by rw [hm]; rfl)
  have HPV := Lib.hid (fun j h => Nt.pv_lt (t := t) (j := j) h)
  have HPS := Lib.hid (show ∀ j, Nt.pv t (j + 1) = Nt.pv t j + 16 ^ j * Nt.hv (Nt.ch t j) from fun _ => rfl)
  have HLT := Lib.hid (fun i => nth_lt ht i)
  have hm1 : m ≤ 8192 := by omega
  have hm2 : (m : Int) ≤ 8192 := by omega
  have hmpos : 0 < m := by have := List.length_pos_iff.2 h.1; omega
  obtain ⟨L, hL⟩ : ∃ L, L = (m + 15) / 16 := ⟨_, rfl⟩
  have hLI : ((m : Int) + 16 - 1) / 16 = (L : Int) := by omega
  have hmk := make_words L (by omega)
  have HLB := Lib.hid (show ∀ j, j < m → j / 16 < L from fun j hj => by omega)
  have hL1 : L ≤ 513 := by omega
  clear hS hd h hm hm0 hL
  go_enter Try.func24, Try.ntmps24
  go_upto_region 1 with fail
  obtain ⟨B, hk1, hs⟩ := blocks1 w #[.slice none 0 0] 47
  generalize (w.alloc (.cells #[.slice none 0 0] 47)) = W at *
  have K1 := Lib.hid hk1
  have HS := Lib.hid hs
  clear hs hk1
  have hzW := B.size
  go_wp2_with fail
  refine (HT2.out _).mono ?_
  rintro e w' ⟨rfl, rfl⟩
  go_upto_region 6 with fail
  obtain ⟨g, hg⟩ : ∃ g, g = W.heap.size := ⟨_, rfl⟩
  have HO0 := Lib.hid (show OwnW (W.alloc (wordsObj (List.replicate L 0))) g (List.replicate L 0) by rw [hg]; exact OwnW.new W _)
  have HG := Lib.hid hg
  have HB0 := Lib.hid ((Below.refl W.heap.size W).alloc (Nat.le_refl _) (wordsObj (List.replicate L 0)))
  rw [← hg, hLI]
  clear hg hmk hLI
  generalize W.alloc (wordsObj (List.replicate L 0)) = W1 at *
  go_wp2_with fail
  go_loopw [5, 6, 23] (fun _ _ i wr => ∃ (k : Nat) (o : List Nat), k ≤ m ∧ i = .int .i64 k ∧ o.length = L ∧ (∀ z, z ∈ o → z < 18446744073709551616) ∧ Wt.val o = Nt.pv t k ∧ OwnW wr g o ∧ Below W.heap.size W wr) (fun _ _ i _ => m - (intOf i).toNat)
  case atStart => exact ⟨0, _, by omega, rfl, by simp, fun z hz => by rw [List.eq_of_mem_replicate hz]; decide, Wt.val_replicate L, HO0.out, HB0.out⟩
  case round =>
    obtain ⟨k, o, hk, rfl, hol, hob, hval, hown, hbel⟩ := hrel
    have HOL := Lib.hid hol
    have HOB := Lib.hid hob
    have HVAL := Lib.hid hval
    have HO := Lib.hid hown
    have hz := hbel.size
    clear hol hob hval hown
    by_cases hlt : k < m
    · obtain ⟨p, hp⟩ : ∃ p, p = m - 1 - k := ⟨_, rfl⟩
      have hpI : (m : Int) - 1 - (k : Int) = (p : Int) := by omega
      have hps : p < S.size := by omega
      have hSc : (S[p]'hps).toNat = Nt.ch t k := by rw [HSA.out p hps, HCH.out k, hp]
      have hc1 : Nt.ch t k < 256 := by rw [HCH.out k]; exact HLT.out _
      have hx := HHX.out k hlt
      have hd := Nt.hv_lt hx
      have HHV := Lib.hid (show hvI (Nt.ch t k) = (Nt.hv (Nt.ch t k) : Int) by unfold hvI; rw [if_pos hx])
      have HPK := Lib.hid (HPV.out k (fun q hq => HHX.out q (by omega)))
      have HPN := Lib.hid (HPS.out k)
      generalize Nt.ch t k = c at *
      generalize Nt.hv c = d at *
      obtain ⟨q, hq⟩ : ∃ q : Nat, q = k / 16 := ⟨_, rfl⟩
      obtain ⟨r, hr⟩ : ∃ r : Nat, r = k % 16 := ⟨_, rfl⟩
      have hqI : (k : Int) / 16 = (q : Int) := by omega
      have hrI : (k : Int) % 16 = (r : Int) := by omega
      have hr16 : r < 16 := by omega
      have hqL : q < L := by rw [hq]; exact HLB.out k hlt
      have HST := Lib.hid (Nt.parse_step (o := o) (t := t) (q := q) (r := r) (d := d) HOB.out hr16 (by rw [HOL.out]; exact hqL) hd (by rw [show 16 * q + r = k by omega]; exact HVAL.out) (by rw [show 16 * q + r = k by omega]; exact HPK.out))
      rw [show 16 * q + r = k by omega] at HST
      have hcell := HO.out.cell q (by rw [HOL.out]; exact hqL)
      have hfree := HO.out.free q
      have hxl := nth_ltW HOB.out q
      generalize hxx : nth o q = x at *
      have HXX := Lib.hid hxx
      have HOR := Lib.hid (or_spell HST.out.1 HST.out.2.1)
      have HKL := Lib.hid hlt
      have q0 : (0 : Int) ≤ (q : Int) := Int.natCast_nonneg _
      have q1 : (q : Int) < (L : Int) := by omega
      have r0 : (0 : Int) ≤ (r : Int) := Int.natCast_nonneg _
      have r1 : (0 : Int) ≤ 4 * (r : Int) := by omega
      clear hq hr hx hp hxx
      obtain ⟨wo, hwo⟩ : ∃ wo : World, wo = wr := ⟨_, rfl⟩
      subst hwo
      go_wp2_with fail
      refine (index_any c _ hc1).mono ?_
      rintro e w' ⟨rfl, rfl⟩
      rw [HHV.out]
      go_upto_region 10 with fail
      go_region
      go_wp2_with fail
      rw [HOR.out]
      have h9 := HKL.out
      refine ⟨⟨k + 1, o.set q (x + 16 ^ r * d), h9, by go_num, by rw [List.length_set]; exact HOL.out, Wt.set_lt HOB.out q HST.out.2.1, by rw [HST.out.2.2]; exact HPN.out.symm, HO.out.set q _, ?_⟩, by simp [intOf]; omega⟩
      exact (hbel.setCell (by rw [HG.out]; exact Nat.le_refl _) _).drew
    · obtain rfl : k = m := by omega
      have HK3 := Lib.hid (K1.out.go hbel)
      have HW := Lib.hid (show Words wr (whole g L) o by have h := HO.out.words HOB.out (by rw [HOL.out]; omega); rw [HOL.out] at h; exact h)
      have hbw := B.trans (hbel.mono B.size)
      have HVL := Lib.hid HVAL.out
      clear hbel hk hlt
      go_wp2_with fail
      refine (trimmed_any _ _ _ HW.out).mono ?_
      rintro e w2 ⟨u2, rfl, hu, hb⟩
      rw [HVL.out] at hu
      obtain ⟨a2, c2, rfl, hv, _⟩ := hu.shape
      have k3 := HK3.out.go hb
      have hf0 := k3.free 0
      have h0 : w2.cell? ⟨w.heap.size, 0, none⟩ = some (.slice none 0 0) := k3.cell 0
      have HS2 := Lib.hid (nat_store k3 hv)
      have HB2 := Lib.hid (hbw.trans (hb.mono hbw.size))
      clear hv hu k3 hb hbw
      generalize (Wt.dg (Nt.pv t k)).length = M at *
      go_wp2_with fail
      exact bodyPost_ret (v := .tuple #[.agg #[.slice a2 M c2], I64 0]) (by simp [results, Try.results24, go_sem, HS2.out.1]) rfl ⟨_, rfl, ⟨_, rfl, HS2.out.2⟩, HB2.out.setCell (Nat.le_refl _) _⟩

theorem parse_any (t : List Nat) (w : World) (ht : ∀ x, x ∈ t → x < 256) (hm0 : t.length ≤ 8192) :
    Calls Try.prog 24 #[.string (strOf t)] w (NatE w (parseN t) (Nt.parseE t)) := by
  unfold parseN Nt.parseE
  by_cases h : Nt.IsText t
  · rw [if_pos h, if_pos h]; exact parse_yes t w ht hm0 h
  · rw [if_neg h, if_neg h]; exact parse_no t w ht (by omega) h

end Go.Proofs.Ytobhlfkmdhoncaa
