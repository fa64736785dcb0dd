/-
  The program's numbers (layer 6): 'plus'.
-/
import Derived.Test.YtobhlfkmdhoncaaMonoW
import Derived.Test.YtobhlfkmdhoncaaNatC
set_option maxRecDepth 100000
namespace Go.Proofs.Ytobhlfkmdhoncaa
open Go.RowKit

theorem add_fin {A B M o c D : Nat} (hA : A < M) (hB : B < M) (hD : 2 ≤ D) (h : o + M * D * c = A + B) : o = A + B := by
  have hc : c = 0 := by
    rcases Nat.eq_zero_or_pos c with h0 | h0
    · exact h0
    · have h1 := Nat.mul_le_mul_left (M * D) h0
      have h2 := Nat.mul_le_mul_left M hD
      omega
  rw [hc, Nat.mul_zero] at h
  exact h
theorem add_done {a b o : List Nat} {k c : Nat} (ha : ∀ x, x ∈ a → x < 18446744073709551616) (hb : ∀ x, x ∈ b → x < 18446744073709551616) (hla : a.length ≤ k) (hlb : b.length ≤ k)
    (h : Wt.val o + 18446744073709551616 ^ (k + 1) * c = Wt.low a (k + 1) + Wt.low b (k + 1)) : Wt.val o = Wt.val a + Wt.val b := by
  rw [Wt.low_all (Nat.le_succ_of_le hla), Wt.low_all (Nat.le_succ_of_le hlb), Nat.pow_succ] at h
  exact add_fin (Nat.lt_of_lt_of_le (Wt.val_lt ha) (Nat.pow_le_pow_right (by decide) hla)) (Nat.lt_of_lt_of_le (Wt.val_lt hb) (Nat.pow_le_pow_right (by decide) hlb)) (by decide) h

/-- The first k of L words, and noughts. -/
def padW (o : List Nat) (L : Nat) : List Nat := o ++ List.replicate (L - o.length) 0
theorem padW_nil (L : Nat) : padW [] L = List.replicate L 0 := by simp [padW]
theorem padW_length {o : List Nat} {L : Nat} (h : o.length ≤ L) : (padW o L).length = L := by simp [padW]; omega
theorem padW_set {o : List Nat} {L k d : Nat} (hk : o.length = k) (h : k < L) : (padW o L).set k d = padW (o ++ [d]) L := by
  subst hk
  unfold padW
  rw [show L - o.length = (L - (o ++ [d]).length) + 1 from by simp; omega, List.replicate_succ, List.set_append_right _ _ (Nat.le_refl _), Nat.sub_self, List.set_cons_zero]
  simp
theorem padW_all {o : List Nat} {L : Nat} (h : o.length = L) : padW o L = o := by simp [padW, h]

theorem word_pq {u : Value} {m k p : Nat} {x : List Nat} {w : World} (hp : p = nth x k) (hx : Wt.dg m = x) (hU : IsNat w u m) :
    Calls Try.prog 56 #[u, .int .i64 k] w fun e w' => e = .returned (U64 p) ∧ Below w.heap.size w w' := by
  subst hp hx
  exact word_any u m k w hU

set_option maxHeartbeats 2000000 in
theorem plus_any (u v : Value) (m n : Nat) (w : World) (hm : (Wt.dg m).length ≤ 100000) (hn : (Wt.dg n).length ≤ 100000) (hU : IsNat w u m) (hV : IsNat w v n) :
    Calls Try.prog 53 #[u, v] w (NatV w (m + n)) := by
  have HU := Lib.hid hU
  have HV := Lib.hid hV
  obtain ⟨pa, ca, rfl, hx, _, ha⟩ := hU.shape
  obtain ⟨pb, cb, rfl, hy, _, hb⟩ := hV.shape
  have HX := Lib.hid hx.lt
  have HY := Lib.hid hy.lt
  have HPA := Lib.hid (show ∀ b off, pa = some ⟨b, off, none⟩ → (Wt.dg m).length ≠ 0 → b < w.heap.size from fun b off e hne => by
    subst e
    exact World.block_lt_of_cell? w _ (hx.cell 0 (by omega)))
  have HPB := Lib.hid (show ∀ b off, pb = some ⟨b, off, none⟩ → (Wt.dg n).length ≠ 0 → b < w.heap.size from fun b off e hne => by
    subst e
    exact World.block_lt_of_cell? w _ (hy.cell 0 (by omega)))
  have HM := Lib.hid (Wt.val_dg m)
  have HN := Lib.hid (Wt.val_dg n)
  clear hx hy hU hV ha hb
  generalize hgx : Wt.dg m = x at *
  generalize hgy : Wt.dg n = y at *
  have HGX := Lib.hid hgx
  have HGY := Lib.hid hgy
  clear hgx hgy
  obtain ⟨L, hL⟩ : ∃ L, L = max x.length y.length + 1 := ⟨_, rfl⟩
  have hLI : (max (x.length : Int) (y.length : Int)) + 1 = (L : Int) := by omega
  have hL1 : x.length + 1 ≤ L := by omega
  have hL2 : y.length + 1 ≤ L := by omega
  have hL3 : L ≤ 100001 := by omega
  have hmk := make_words L (by omega)
  clear hL
  go_enter Try.func53, Try.ntmps53
  go_upto_region 1 with fail
  obtain ⟨B, hk1, hk2, hk3, hs⟩ := blocks3 w #[.slice pa x.length ca] 47 #[.slice pb y.length cb] 47 #[.slice none 0 0] 47
  generalize (((w.alloc (.cells #[.slice pa x.length ca] 47)).alloc (.cells #[.slice pb y.length cb] 47)).alloc (.cells #[.slice none 0 0] 47)) = W at *
  have K1 := Lib.hid hk1
  have K2 := Lib.hid hk2
  have K3 := Lib.hid hk3
  have HS := Lib.hid hs
  clear hs hk1 hk2 hk3
  replace HU := Lib.hid (HU.out.go B)
  replace HV := Lib.hid (HV.out.go B)
  have hzW := B.size
  have k10 : W.cell? ⟨w.heap.size, 0, none⟩ = some (.slice pa x.length ca) := K1.out.cell 0
  have k20 : W.cell? ⟨w.heap.size + 1, 0, none⟩ = some (.slice pb y.length cb) := K2.out.cell 0
  go_wp2_with fail
  obtain ⟨g, hg⟩ : ∃ g, g = W.heap.size := ⟨_, rfl⟩
  have HO0 := Lib.hid (show OwnW (W.alloc (wordsObj (List.replicate L 0))) g (padW [] L) by rw [hg, padW_nil]; exact OwnW.new W _)
  have HG := Lib.hid hg
  have HB0 := Lib.hid ((Below.refl W.heap.size W).alloc (Nat.le_refl _) (wordsObj (List.replicate L 0)))
  have HNA := Lib.hid (show ∀ b off, pa = some ⟨b, off, none⟩ → (Wt.dg m).length ≠ 0 → b ≠ g from fun b off e hh => by have := HPA.out b off e (by rw [← HGX.out]; exact hh); omega)
  have HNB := Lib.hid (show ∀ b off, pb = some ⟨b, off, none⟩ → (Wt.dg n).length ≠ 0 → b ≠ g from fun b off e hh => by have := HPB.out b off e (by rw [← HGY.out]; exact hh); omega)
  rw [← hg]
  clear hg hmk k10 k20
  go_loopw [6, 7, 19] (fun cy _ i wr => ∃ (k c : Nat) (o : List Nat), k ≤ L ∧ i = .int .i64 k ∧ cy = U64 c ∧ c ≤ 1 ∧ o.length = k ∧ (∀ z, z ∈ o → z < 18446744073709551616) ∧ Wt.val o + 18446744073709551616 ^ k * c = Wt.low x k + Wt.low y k ∧ OwnW wr g (padW o L) ∧ Below W.heap.size W wr) (fun _ _ i _ => L - (intOf i).toNat)
  case atStart => exact ⟨0, 0, [], by omega, rfl, rfl, by omega, rfl, by simp, by rw [Wt.low_zero, Wt.low_zero]; rfl, HO0.out, HB0.out⟩
  case round =>
    obtain ⟨k, c, o, hk, rfl, rfl, hc, hol, hob, hval, hown, hbel⟩ := hrel
    have HOL := Lib.hid hol
    have HOB := Lib.hid hob
    have HVAL := Lib.hid hval
    have HO := Lib.hid hown
    have hz := hbel.size
    have HUr := Lib.hid (HU.out.go hbel)
    have HVr := Lib.hid (HV.out.go hbel)
    have HK1 := Lib.hid (K1.out.go hbel)
    have HK2 := Lib.hid (K2.out.go hbel)
    clear hol hob hval hown
    by_cases hlt : k < L
    · have hkL := hlt
      have hxl := nth_ltW HX.out k
      have hyl := nth_ltW HY.out k
      have HST := Lib.hid (Wt.add_step HOL.out HVAL.out)
      obtain ⟨p, hp⟩ : ∃ p, p = nth x k := ⟨_, rfl⟩
      obtain ⟨q, hq⟩ : ∃ q, q = nth y k := ⟨_, rfl⟩
      rw [← hp] at hxl
      rw [← hq] at hyl
      rw [← hp, ← hq] at HST
      have HPP := Lib.hid hp
      have HQQ := Lib.hid hq
      clear hp hq
      obtain ⟨sm, hsm⟩ : ∃ sm, sm = (p + q + c) % 18446744073709551616 := ⟨_, rfl⟩
      obtain ⟨cc, hcc⟩ : ∃ cc, cc = (p + q + c) / 18446744073709551616 := ⟨_, rfl⟩
      rw [← hsm, ← hcc] at HST
      have hsl : sm < 18446744073709551616 := by omega
      have hcl : cc ≤ 1 := by omega
      have HADD := Lib.hid (show ∀ w : World, (callFunc 63 #[U64 p, U64 q, U64 c]).run Try.prog w = .ok (.value (.tuple #[U64 sm, U64 cc])) w from fun w => by rw [hsm, hcc]; exact run_add p q c hc w)
      have HSL := Lib.hid hsl
      clear hsm hcc hsl
      go_wp2_with fail
      have hpl := padW_length (o := o) (L := L) (by rw [HOL.out]; exact hk)
      refine wp_region_mono (C := Cg wr g) (R := Rb) (H := Hg g) [Ty.val 23 (whole g L), Ty.val 24 (.int .i64 k), Ty.val 25 (.agg #[.slice pa x.length ca]), Ty.val 26 (.int .i64 k), Ty.val 27 (U64 p), Ty.val 28 (.agg #[.slice pb y.length cb]), Ty.val 29 (.int .i64 k), Ty.val 30 (U64 q), Ty.val 31 (U64 c), Ty.val 32 (.tuple #[U64 sm, U64 cc]), Ty.val 22 (.tuple #[U64 sm, U64 cc]), Ty.val 33 (U64 sm), Ty.val 34 (U64 cc), Ty.val 35 (.pointer (some ⟨g, k, none⟩)), (Ty.storesW (padW o L) (padW (o ++ [sm]) L)), Ty.val 6 (U64 cc)] (by kernel_rfl) (hC_g wr g) (hCH_g wr g) (drew_g wr g) ⟨trivial, trivial, trivial, trivial, trivial, trivial, trivial, trivial, trivial, trivial, trivial, trivial, trivial, trivial, (HO.out), trivial, trivial⟩ (by kernel_rfl) ?_ ?_
      · refine ⟨?_, ?_, ?_, ?_, ?_, ?_, ?_, ?_, ?_, ?_, ?_, ?_, ?_, ?_, ?_, ?_, trivial⟩
        · intro ac wc hC hsz hfr hd hpr
          have d5 : ac.eval (.tmp 5) = (whole g L) := hfr 5 rfl
          rw [if_pos (wanted_none rfl)]
          exact ob_copy rfl rfl rfl (Nat.lt_of_lt_of_eq (by decide : 23 < 39) hsz.symm) (Or.inl rfl) (Below.refl _ _) d5
        · intro ac wc hC hsz hfr hd hpr
          have d7 : ac.eval (.tmp 7) = (.int .i64 k) := hfr 7 rfl
          rw [if_pos (wanted_none rfl)]
          exact ob_copy rfl rfl rfl (Nat.lt_of_lt_of_eq (by decide : 24 < 39) hsz.symm) (Or.inl rfl) (Below.refl _ _) d7
        · intro ac wc hC hsz hfr hd hpr
          have d2 : ac.eval (.tmp 2) = (.pointer (some ⟨w.heap.size, 0, none⟩)) := hfr 2 rfl
          rw [if_pos (wanted_none rfl)]
          exact ob_load _ rfl rfl rfl (Nat.lt_of_lt_of_eq (by decide : 25 < 39) hsz.symm) rfl d2 (load_nat ((HK1.out.cg hC (by rw [HG.out]; have := K1.out.lt; omega)).cell 0)) (Below.refl _ _) rfl
        · intro ac wc hC hsz hfr hd hpr
          have d7 : ac.eval (.tmp 7) = (.int .i64 k) := hfr 7 rfl
          rw [if_pos (wanted_none rfl)]
          exact ob_copy rfl rfl rfl (Nat.lt_of_lt_of_eq (by decide : 26 < 39) hsz.symm) (Or.inl rfl) (Below.refl _ _) d7
        · intro ac wc hC hsz hfr hd hpr
          have d25 : ac.eval (.tmp 25) = (.agg #[.slice pa x.length ca]) := hd 2 rfl
          have d26 : ac.eval (.tmp 26) = (.int .i64 k) := hd 3 rfl
          rw [if_pos (wanted_none rfl)]
          refine ob_call rfl rfl rfl (Nat.lt_of_lt_of_eq (by decide : 27 < 39) hsz.symm) rfl (enter_of Try.func56 (by kernel_rfl) rfl) ?_
          show Calls Try.prog 56 #[ac.eval (.tmp 25), ac.eval (.tmp 26)] wc _
          rw [d25, d26]
          exact (word_pq HPP.out HGX.out (HUr.out.cg hC HNA.out)).mono fun _ _ ⟨he, hb⟩ => ⟨_, he, rfl, hb⟩
        · intro ac wc hC hsz hfr hd hpr
          have d3 : ac.eval (.tmp 3) = (.pointer (some ⟨w.heap.size + 1, 0, none⟩)) := hfr 3 rfl
          rw [if_pos (wanted_none rfl)]
          exact ob_load _ rfl rfl rfl (Nat.lt_of_lt_of_eq (by decide : 28 < 39) hsz.symm) rfl d3 (load_nat ((HK2.out.cg hC (by rw [HG.out]; have := K2.out.lt; omega)).cell 0)) (Below.refl _ _) rfl
        · intro ac wc hC hsz hfr hd hpr
          have d7 : ac.eval (.tmp 7) = (.int .i64 k) := hfr 7 rfl
          rw [if_pos (wanted_none rfl)]
          exact ob_copy rfl rfl rfl (Nat.lt_of_lt_of_eq (by decide : 29 < 39) hsz.symm) (Or.inl rfl) (Below.refl _ _) d7
        · intro ac wc hC hsz hfr hd hpr
          have d28 : ac.eval (.tmp 28) = (.agg #[.slice pb y.length cb]) := hd 5 rfl
          have d29 : ac.eval (.tmp 29) = (.int .i64 k) := hd 6 rfl
          rw [if_pos (wanted_none rfl)]
          refine ob_call rfl rfl rfl (Nat.lt_of_lt_of_eq (by decide : 30 < 39) hsz.symm) rfl (enter_of Try.func56 (by kernel_rfl) rfl) ?_
          show Calls Try.prog 56 #[ac.eval (.tmp 28), ac.eval (.tmp 29)] wc _
          rw [d28, d29]
          exact (word_pq HQQ.out HGY.out (HVr.out.cg hC HNB.out)).mono fun _ _ ⟨he, hb⟩ => ⟨_, he, rfl, hb⟩
        · intro ac wc hC hsz hfr hd hpr
          have d6 : ac.eval (.tmp 6) = (U64 c) := hfr 6 rfl
          rw [if_pos (wanted_none rfl)]
          exact ob_copy rfl rfl rfl (Nat.lt_of_lt_of_eq (by decide : 31 < 39) hsz.symm) (Or.inl rfl) (Below.refl _ _) d6
        · intro ac wc hC hsz hfr hd hpr
          have d27 : ac.eval (.tmp 27) = (U64 p) := hd 4 rfl
          have d30 : ac.eval (.tmp 30) = (U64 q) := hd 7 rfl
          have d31 : ac.eval (.tmp 31) = (U64 c) := hd 8 rfl
          rw [if_pos (wanted_none rfl)]
          have hlt : 32 < ac.tmps.size := (Nat.lt_of_lt_of_eq (by decide : 32 < 39) hsz.symm)
          exact ob_ext rfl rfl rfl hlt rfl (by show (callFunc _ #[ac.eval (.tmp 27), ac.eval (.tmp 30), ac.eval (.tmp 31)]).run _ _ = _; rw [d27, d30, d31]; exact HADD.out wc) (Below.refl _ _) rfl
        · intro ac wc hC hsz hfr hd hpr
          have d32 : ac.eval (.tmp 32) = (.tuple #[U64 sm, U64 cc]) := hd 9 rfl
          rw [if_pos (wanted_none rfl)]
          exact ob_copy rfl rfl rfl (Nat.lt_of_lt_of_eq (by decide : 22 < 39) hsz.symm) (Or.inl rfl) (Below.refl _ _) d32
        · intro ac wc hC hsz hfr hd hpr
          have d22 : ac.eval (.tmp 22) = (.tuple #[U64 sm, U64 cc]) := hd 10 rfl
          rw [if_pos (wanted_none rfl)]
          have hlt : 33 < ac.tmps.size := (Nat.lt_of_lt_of_eq (by decide : 33 < 39) hsz.symm)
          exact ob_extract _ rfl rfl rfl hlt rfl d22 (extract0 _ _) (Below.refl _ _) rfl
        · intro ac wc hC hsz hfr hd hpr
          have d22 : ac.eval (.tmp 22) = (.tuple #[U64 sm, U64 cc]) := hd 10 rfl
          rw [if_pos (wanted_none rfl)]
          have hlt : 34 < ac.tmps.size := (Nat.lt_of_lt_of_eq (by decide : 34 < 39) hsz.symm)
          exact ob_extract _ rfl rfl rfl hlt rfl d22 (extract1 _ _) (Below.refl _ _) rfl
        · intro ac wc hC hsz hfr hd hpr
          have d23 : ac.eval (.tmp 23) = (whole g L) := hd 0 rfl
          have d24 : ac.eval (.tmp 24) = (.int .i64 k) := hd 1 rfl
          rw [if_pos (wanted_none rfl)]
          have hlt : 35 < ac.tmps.size := (Nat.lt_of_lt_of_eq (by decide : 35 < 39) hsz.symm)
          exact ob_index _ rfl rfl rfl hlt rfl d23 d24 (index_whole _ hkL) (Below.refl _ _) rfl
        · intro ac wc hC hsz hfr hd hpr
          have d35 : ac.eval (.tmp 35) = (.pointer (some ⟨g, k, none⟩)) := hd 13 rfl
          have d33 : ac.eval (.tmp 33) = (U64 sm) := hd 11 rfl
          rw [if_pos (wanted_none rfl)]
          have hlt : 0 < ac.tmps.size := (Nat.lt_of_lt_of_eq (by decide : 0 < 39) hsz.symm)
          exact ob_store0 _ rfl rfl rfl d35 d33 (store_u64 (OwnW.cell hpr k (by rw [hpl]; exact hkL)) (OwnW.free hpr k)) (grown_setCell wc ⟨g, k, none⟩ _) (show OwnW _ g (padW (o ++ [sm]) L) by rw [← padW_set HOL.out hkL]; exact OwnW.set hpr k _)
        · intro ac wc hC hsz hfr hd hpr
          have d34 : ac.eval (.tmp 34) = (U64 cc) := hd 12 rfl
          rw [if_pos (wanted_none rfl)]
          exact ob_copy rfl rfl rfl (Nat.lt_of_lt_of_eq (by decide : 6 < 39) hsz.symm) (Or.inr rfl) (Below.refl _ _) d34
      intro a' W6 hC hdef hsz hfr hd
      have e23 : a'.eval (.tmp 23) = (whole g L) := hd 0 (by decide)
      have e24 : a'.eval (.tmp 24) = (.int .i64 k) := hd 1 (by decide)
      have e25 : a'.eval (.tmp 25) = (.agg #[.slice pa x.length ca]) := hd 2 (by decide)
      have e26 : a'.eval (.tmp 26) = (.int .i64 k) := hd 3 (by decide)
      have e27 : a'.eval (.tmp 27) = (U64 p) := hd 4 (by decide)
      have e28 : a'.eval (.tmp 28) = (.agg #[.slice pb y.length cb]) := hd 5 (by decide)
      have e29 : a'.eval (.tmp 29) = (.int .i64 k) := hd 6 (by decide)
      have e30 : a'.eval (.tmp 30) = (U64 q) := hd 7 (by decide)
      have e31 : a'.eval (.tmp 31) = (U64 c) := hd 8 (by decide)
      have e32 : a'.eval (.tmp 32) = (.tuple #[U64 sm, U64 cc]) := hd 9 (by decide)
      have e22 : a'.eval (.tmp 22) = (.tuple #[U64 sm, U64 cc]) := hd 10 (by decide)
      have e33 : a'.eval (.tmp 33) = (U64 sm) := hd 11 (by decide)
      have e34 : a'.eval (.tmp 34) = (U64 cc) := hd 12 (by decide)
      have e35 : a'.eval (.tmp 35) = (.pointer (some ⟨g, k, none⟩)) := hd 13 (by decide)
      have st14 : OwnW W6 g (padW (o ++ [sm]) L) := hd 14 (by decide)
      replace st14 := Lib.hid st14
      have e6 : a'.eval (.tmp 6) = (U64 cc) := hd 15 (by decide)
      have hact := act_puts hdef hsz hfr
      simp only [dstsOf, List.filterMap, putAll, Act.put, List.setIfInBounds_toArray, List.set_cons_succ, List.set_cons_zero, e23, e24, e25, e26, e27, e28, e29, e30, e31, e32, e22, e33, e34, e35, e6] at hact
      clear hd hfr hsz hdef e23 e24 e25 e26 e27 e28 e29 e30 e31 e32 e22 e33 e34 e35 e6
      subst hact
      have HO6 := Lib.hid (st14.out)
      have hb6 := below_grown hbel hC hz (Nat.le_of_eq HG.out.symm)
      have HB6 := Lib.hid hb6
      clear hC hb6 hbel hk hlt
      go_wp2_with fail
      refine ⟨⟨k + 1, cc, o ++ [sm], hkL, by go_num, rfl, hcl, by rw [List.length_append, HOL.out]; rfl, ?_, HST.out, HO6.out, HB6.out⟩, by simp [intOf]; omega⟩
      intro z hz'
      rcases List.mem_append.1 hz' with h | h
      · exact HOB.out z h
      · simp at h; rw [h]; exact HSL.out
    · obtain rfl : k = L := by omega
      have HK3 := Lib.hid (K3.out.go hbel)
      have HVL := Lib.hid (show Wt.val o = m + n by
        obtain ⟨j, hj⟩ : ∃ j, k = j + 1 := ⟨k - 1, by omega⟩
        have h := HVAL.out
        rw [hj] at h
        rw [add_done HX.out HY.out (by omega) (by omega) h, HM.out, HN.out])
      have hw := HO.out
      rw [padW_all HOL.out] at hw
      have HW := Lib.hid (show Words wr (whole g k) o by have h := hw.words HOB.out (by rw [HOL.out]; omega); rw [HOL.out] at h; exact h)
      have hbw := B.trans (hbel.mono B.size)
      clear hw hbel hLI hL1 hL2 hk hlt
      go_wp2_with fail
      refine (trimmed_any _ _ _ HW.out).mono ?_
      rintro e w2 ⟨u2, rfl, hu, hb⟩
      rw [HVL.out] at hu
      obtain ⟨a2, c2, rfl, hv, _⟩ := hu.shape
      have k3 := HK3.out.go hb
      have hf0 := k3.free 0
      have h0 : w2.cell? ⟨w.heap.size + 1 + 1, 0, none⟩ = some (.slice none 0 0) := k3.cell 0
      have HS2 := Lib.hid (nat_store k3 hv)
      have HB2 := Lib.hid (hbw.trans (hb.mono hbw.size))
      clear hv hu k3 hb hbw
      generalize (Wt.dg (m + n)).length = M at *
      go_wp2_with fail
      exact bodyPost_ret (v := .agg #[.slice a2 M c2]) (by simp [results, Try.results53, go_sem, HS2.out.1]) rfl ⟨_, rfl, ⟨_, rfl, HS2.out.2⟩, HB2.out.setCell (by show w.heap.size ≤ w.heap.size + 1 + 1; omega) _⟩

end Go.Proofs.Ytobhlfkmdhoncaa
