/- Texts of one seat, laid together: FillC, FillM, BoolL. -/
import Derived.Test.YtfefkchjhooloaaGlueFillsQ6
import Derived.Test.YtfefkchjhooloaaGlueFillsQ4

/-
  An object as far as its symbols are known (package glue): Fill.
-/
set_option maxRecDepth 100000
namespace Go.Proofs.Ytfefkchjhooloaa
open Go.RowKit Go.Maps

def fillE (l s k : Int) (f : Int → List Nat) (K : List Int) : Int := if checkE l s k = 0 then numE s k f K else checkE l s k
def fillS (l s k : Int) (f : Int → List Nat) (K : List Int) : List Nat := if fillE l s k f K = 0 then fillO l.toNat s.toNat f K else []
def fillB (l s k : Int) (f : Int → List Nat) (K : List Int) : List Bool := if fillE l s k f K = 0 then fillT l.toNat s.toNat K else []
/-- The keys of what was put, rising. -/
def KeysOf (ps : List (Int × Value)) (K : List Int) : Prop := K.Pairwise (· < ·) ∧ ∀ x, x ∈ K ↔ hasR ps x = true
/-- What Fill answers. -/
def FillV (w : World) (l s k : Int) (ps : List (Int × Value)) (f : Int → List Nat) (e : Ending) (w' : World) : Prop :=
  ∃ (K : List Int) (u v : Value), KeysOf ps K ∧ e = .returned (.tuple #[u, v, .int .i64 (fillE l s k f K)]) ∧ Bytes w' u (fillS l s k f K) ∧ Bools w' v (fillB l s k f K) ∧ Below w.heap.size w w'
/-- A made block. -/
def MadeY (g0 n : Nat) (v : Value) (w : World) : Prop := ∃ g, v = whole g n ∧ g0 ≤ g ∧ Own w g (zeros n)
def MadeT (g0 n : Nat) (v : Value) (w : World) : Prop := ∃ g, v = whole g n ∧ g0 ≤ g ∧ BoolO w g (List.replicate n false)
theorem MadeY.go (g0 n : Nat) : ∀ v w w', Below w.heap.size w w' → MadeY g0 n v w → MadeY g0 n v w' := fun _ _ _ hb ⟨g, e, h, ho⟩ => ⟨g, e, h, ho.go hb⟩
theorem MadeT.go (g0 n : Nat) : ∀ v w w', Below w.heap.size w w' → MadeT g0 n v w → MadeT g0 n v w' := fun _ _ _ hb ⟨g, e, h, ho⟩ => ⟨g, e, h, ho.go hb⟩
theorem ints_own {w : World} {B : Nat} {v : Value} {K : List Int} (h : w.ownsRow B 3 1 v K.length (K.map fun x => .int .i64 x)) (hr : ∀ x, x ∈ K → -9223372036854775808 ≤ x ∧ x ≤ 9223372036854775807) : Ints w v K := by
  have h' := h
  rcases h.2 with ⟨rfl, h0⟩ | ⟨g, cap, cur, rfl, hB, hg, hn, hc, hsz, ht⟩
  · have e : K = [] := List.length_eq_zero_iff.1 h0
    subst e
    exact ⟨none, 0, rfl, Nat.le_refl _, by omega, hr, fun h => absurd rfl h⟩
  · refine ⟨_, cap, rfl, hn, by simpa [maxLen] using hc, hr, fun _ => ⟨g, 0, rfl, (Array.getElem?_eq_some_iff.1 hg).1, fun i hi => ?_⟩⟩
    have c1 := World.ownsRow.cells h' (g := g) rfl i (.int .i64 (nthI K i)) (by rw [List.getElem?_map, List.getElem?_eq_getElem hi, nthI_eq K i hi]; rfl)
    rw [rows_add] at c1
    exact c1
theorem keys_there {w : World} {b : Nat} {ps : List (Int × Value)} {f : Int → List Nat} (h : KMap w b ps f) : ∃ K, KeysOf ps K := by
  obtain ⟨n, _, ho⟩ := h.own
  obtain ⟨h1, h2⟩ := keys_putR ho (List.Perm.refl _)
  obtain ⟨h3, h4⟩ := sort_rising h1
  exact ⟨_, h3, fun x => by rw [h4, h2]⟩
set_option maxHeartbeats 2000000 in
theorem fill_any (l s k n : Int) (b : Nat) (ps : List (Int × Value)) (f : Int → List Nat) (w : World) (hl0 : -9223372036854775808 ≤ l) (hl : l ≤ 9223372036854775807) (hs2 : s ≤ 9223372036854775807) (hM : KMap w b ps f) :
    Calls Try.prog 23 #[.agg #[.int .i64 l, .int .i64 s, .int .i64 k, .int .u32 n], .map (some b)] w (FillV w l s k ps f) := by
  have HC := Lib.hid (fun w => check_any l s k n w hl0 hl hs2)
  have HM := Lib.hid hM
  by_cases hc0 : checkE l s k = 0
  · obtain ⟨p1, p2, p3, p4, p5, -, q7⟩ := check_ok10 hc0
    have HROOM := Lib.hid (fun (i : Nat) (h : (i : Int) < k) => cut_room2 hc0 h)
    have HFE := Lib.hid (show ∀ K, fillE l s k f K = numE s k f K from fun K => by unfold fillE; rw [if_pos hc0])
    have HFS := Lib.hid (show ∀ K, numE s k f K = 0 → fillS l s k f K = fillO l.toNat s.toNat f K ∧ fillB l s k f K = fillT l.toNat s.toNat K from fun K h => by unfold fillS fillB; rw [HFE.out K, if_pos h, if_pos h]; exact ⟨rfl, rfl⟩)
    have HFN := Lib.hid (show ∀ K, numE s k f K ≠ 0 → fillS l s k f K = [] ∧ fillB l s k f K = [] from fun K h => by unfold fillS fillB; rw [HFE.out K, if_neg h, if_neg h]; exact ⟨rfl, rfl⟩)
    rw [hc0] at HC
    obtain ⟨l', hl'⟩ : ∃ l' : Nat, l = l' := ⟨l.toNat, by omega⟩
    obtain ⟨s', hs'⟩ : ∃ s' : Nat, s = s' := ⟨s.toNat, by omega⟩
    obtain ⟨k', hk'⟩ : ∃ k' : Nat, k = k' := ⟨k.toNat, by omega⟩
    subst hl'
    subst hs'
    subst hk'
    simp only [Int.toNat_natCast] at HROOM HFS
    have hl48 : l' ≤ 4096 * 65535 := by
      have : (k' : Int) * (s' : Int) ≤ 4096 * 65535 := Int.mul_le_mul p5 p3 (by omega) (by omega)
      omega
    have hmb := make_bytes l' (by omega)
    have hmt := make_bools l' (by omega)
    have hs1 : 0 < s' := by omega
    have hs9 : s' ≤ 65535 := by omega
    have hk9 : k' ≤ 4096 := by omega
    clear hc0 q7
    go_enter Try.func23, Try.ntmps23
    go_wp2_with fail
    obtain ⟨B, hk1, hs⟩ := blocks1 w #[.int .i64 ((l':Int)), .int .i64 ((s':Int)), .int .i64 ((k':Int)), .int .u32 n] 24
    generalize (w.alloc (.cells #[.int .i64 ((l':Int)), .int .i64 ((s':Int)), .int .i64 ((k':Int)), .int .u32 n] 24)) = W at *
    have K1 := Lib.hid hk1
    have HS := Lib.hid hs
    clear hs hk1
    replace HM := Lib.hid (HM.out.go B)
    have hzW := B.size
    refine (HC.out _).mono ?_
    rintro e w1 ⟨rfl, hb⟩
    replace K1 := Lib.hid (K1.out.go hb)
    replace HM := Lib.hid (HM.out.go hb)
    replace B := B.trans (hb.mono B.size)
    have hzw1 := B.size
    clear hb
    go_wp2_with fail
    obtain ⟨nn, hnn, hown⟩ := HM.out.own
    refine (keys_any (some b) w1).mono ?_
    rintro e w2 ⟨rfl, rfl⟩
    have HS2 := Lib.hid (sorted_any b nn ps w1 hown hnn)
    clear hown hnn
    go_wp2_with fail
    refine HS2.out.mono ?_
    rintro e w3 ⟨v, Kl, rfl, hrow, hpw, hmem, hb3⟩
    have hb1 : Below w1.heap.size w1 w3 := ((Below.refl w1.heap.size w1).alloc (Nat.le_refl _) _).trans (hb3.mono (by simp))
    have HKI := Lib.hid (ints_own hrow (fun x hx => HM.out.num x ((hmem x).1 hx)))
    have HKO := Lib.hid (show KeysOf ps Kl from ⟨hpw, hmem⟩)
    replace K1 := Lib.hid (K1.out.go hb1)
    replace HM := Lib.hid (HM.out.go hb1)
    replace B := B.trans (hb1.mono B.size)
    obtain ⟨va, vc, rfl, _⟩ := HKI.out
    clear hrow hpw hmem hb3 hb1 HS2
    obtain ⟨p0, p1, p2, p3⟩ := K1.out.four
    have pl := K1.out.lt
    go_wp2_with fail
    clear p0 p1 p2 p3 pl
    refine (fitnum_any (l' : Int) (s' : Int) (k' : Int) n _ Kl b ps f _ HKI.out HM.out).mono ?_
    rintro e w4 ⟨rfl, hb⟩
    replace K1 := Lib.hid (K1.out.go hb)
    replace HM := Lib.hid (HM.out.go hb)
    replace HKI := Lib.hid (HKI.out.go hb)
    replace B := B.trans (hb.mono B.size)
    have hzw4 := B.size
    clear hb
    by_cases hz : numE (s' : Int) (k' : Int) f Kl = 0
    · have HZ := Lib.hid (numE_zero hz)
      have HF1 := Lib.hid (HFS.out Kl hz)
      have HF2 := Lib.hid (show fillE (l' : Int) (s' : Int) (k' : Int) f Kl = 0 by rw [HFE.out, hz])
      rw [hz]
      clear hz HFS HFN HFE
      obtain ⟨g, hg⟩ : ∃ g : Nat, g = w.heap.size := ⟨_, rfl⟩
      rw [← hg] at K1
      simp only [← hg]
      clear hg HS hzW hzw1 hzw4
      go_wp2_with fail
      have HS4 := Lib.hid (show Since w4 w4 from Below.refl _ _)
      have B4 := Lib.hid B
      refine wp_region_mono (C := Cb w4) (R := Rb) (H := Hz) [TyZ.val 30 (.pointer (some ⟨g, 0, none⟩)), TyZ.val 31 (.int .i64 (l' : Int)), (TyZ.fact 32 (MadeY w4.heap.size l') (MadeY.go w4.heap.size l')), TyZ.val 33 (.pointer (some ⟨g, 0, none⟩)), TyZ.val 34 (.int .i64 (l' : Int)), (TyZ.fact 35 (MadeT w4.heap.size l') (MadeT.go w4.heap.size l')), (TyZ.fact 10 (MadeY w4.heap.size l') (MadeY.go w4.heap.size l')), (TyZ.fact 11 (MadeT w4.heap.size l') (MadeT.go w4.heap.size l'))] (by kernel_rfl) (hC_b w4) (hCH_z w4) (drew_b w4) ⟨trivial, trivial, trivial, trivial, trivial, trivial, trivial, trivial, trivial⟩ (by kernel_rfl) ?_ ?_
      · refine ⟨?_, ?_, ?_, ?_, ?_, ?_, ?_, ?_, trivial⟩
        · intro ac wc hC hsz hfr hd hpr
          have d2 : ac.eval (.tmp 2) = (.pointer (some ⟨g, 0, none⟩)) := hfr 2 rfl
          rw [if_pos (wanted_none rfl)]
          exact ob_field _ rfl rfl rfl (Nat.lt_of_lt_of_eq (by decide : 30 < 64) hsz.symm) rfl d2 (fun w => by go_simp) (Below.refl _ _) rfl
        · intro ac wc hC hsz hfr hd hpr
          have d30 : ac.eval (.tmp 30) = (.pointer (some ⟨g, 0, none⟩)) := hd 0 rfl
          rw [if_pos (wanted_none rfl)]
          exact ob_load _ rfl rfl rfl (Nat.lt_of_lt_of_eq (by decide : 31 < 64) hsz.symm) rfl d30 (load_int ((K1.out.go hC).cell 0)) (Below.refl _ _) rfl
        · intro ac wc hC hsz hfr hd hpr
          have d31 : ac.eval (.tmp 31) = (.int .i64 (l' : Int)) := hd 1 rfl
          rw [if_pos (wanted_none rfl)]
          have hlt : 32 < ac.tmps.size := (Nat.lt_of_lt_of_eq (by decide : 32 < 64) hsz.symm)
          refine ob_value (whole wc.heap.size l') (wc.alloc (bytesObj (List.replicate l' 0))) rfl rfl rfl hlt ?_ ((Below.refl _ _).alloc (Nat.le_refl _) _) ⟨_, rfl, hC.size, Own.new _ _⟩
          have hmk := hmb wc
          simp [execOp, d31, hmk]
        · intro ac wc hC hsz hfr hd hpr
          have d2 : ac.eval (.tmp 2) = (.pointer (some ⟨g, 0, none⟩)) := hfr 2 rfl
          rw [if_pos (wanted_none rfl)]
          exact ob_field _ rfl rfl rfl (Nat.lt_of_lt_of_eq (by decide : 33 < 64) hsz.symm) rfl d2 (fun w => by go_simp) (Below.refl _ _) rfl
        · intro ac wc hC hsz hfr hd hpr
          have d33 : ac.eval (.tmp 33) = (.pointer (some ⟨g, 0, none⟩)) := hd 3 rfl
          rw [if_pos (wanted_none rfl)]
          exact ob_load _ rfl rfl rfl (Nat.lt_of_lt_of_eq (by decide : 34 < 64) hsz.symm) rfl d33 (load_int ((K1.out.go hC).cell 0)) (Below.refl _ _) rfl
        · intro ac wc hC hsz hfr hd hpr
          have d34 : ac.eval (.tmp 34) = (.int .i64 (l' : Int)) := hd 4 rfl
          rw [if_pos (wanted_none rfl)]
          have hlt : 35 < ac.tmps.size := (Nat.lt_of_lt_of_eq (by decide : 35 < 64) hsz.symm)
          refine ob_value (whole wc.heap.size l') (wc.alloc (.cells (bolls (List.replicate l' false)) 4)) rfl rfl rfl hlt ?_ ((Below.refl _ _).alloc (Nat.le_refl _) _) ⟨_, rfl, hC.size, Blk.new _ _ _ _ rfl⟩
          have hmk := hmt wc
          simp [execOp, d34, hmk]
        · intro ac wc hC hsz hfr hd hpr
          have d32 : MadeY w4.heap.size l' (ac.eval (.tmp 32)) wc := hd 2 rfl
          rw [if_pos (wanted_none rfl)]
          have hlt : 10 < ac.tmps.size := (Nat.lt_of_lt_of_eq (by decide : 10 < 64) hsz.symm)
          exact ob_copy rfl rfl rfl hlt (Or.inr rfl) (Below.refl _ _) d32
        · intro ac wc hC hsz hfr hd hpr
          have d35 : MadeT w4.heap.size l' (ac.eval (.tmp 35)) wc := hd 5 rfl
          rw [if_pos (wanted_none rfl)]
          have hlt : 11 < ac.tmps.size := (Nat.lt_of_lt_of_eq (by decide : 11 < 64) hsz.symm)
          exact ob_copy rfl rfl rfl hlt (Or.inr rfl) (Below.refl _ _) d35
      intro a' w5 hC hdef hsz hfr hd
      have e30 : a'.eval (.tmp 30) = (.pointer (some ⟨g, 0, none⟩)) := hd 0 (by decide)
      have e31 : a'.eval (.tmp 31) = (.int .i64 (l' : Int)) := hd 1 (by decide)
      obtain ⟨x32, e32, r32⟩ : ∃ xq_, a'.eval (.tmp 32) = xq_ ∧ MadeY w4.heap.size l' (xq_) w5 := ⟨_, rfl, hd 2 (by decide)⟩
      replace r32 := Lib.hid r32
      have e33 : a'.eval (.tmp 33) = (.pointer (some ⟨g, 0, none⟩)) := hd 3 (by decide)
      have e34 : a'.eval (.tmp 34) = (.int .i64 (l' : Int)) := hd 4 (by decide)
      obtain ⟨x35, e35, r35⟩ : ∃ xq_, a'.eval (.tmp 35) = xq_ ∧ MadeT w4.heap.size l' (xq_) w5 := ⟨_, rfl, hd 5 (by decide)⟩
      replace r35 := Lib.hid r35
      obtain ⟨x10, e10, r10⟩ : ∃ xq_, a'.eval (.tmp 10) = xq_ ∧ MadeY w4.heap.size l' (xq_) w5 := ⟨_, rfl, hd 6 (by decide)⟩
      replace r10 := Lib.hid r10
      obtain ⟨x11, e11, r11⟩ : ∃ xq_, a'.eval (.tmp 11) = xq_ ∧ MadeT w4.heap.size l' (xq_) w5 := ⟨_, rfl, hd 7 (by decide)⟩
      replace r11 := Lib.hid r11
      have hact := act_puts hdef hsz hfr
      simp only [dstsOf, List.filterMap, putAll, Act.put, List.setIfInBounds_toArray, List.set_cons_succ, List.set_cons_zero, e30, e31, e32, e33, e34, e35, e10, e11] at hact
      clear hd hfr hsz hdef e30 e31 e32 e33 e34 e35 e10 e11
      subst hact
      replace HS4 := Lib.hid (HS4.out.go hC)
      replace B := B.trans (hC.mono B.size)
      obtain ⟨g1, rfl, hg1, ho1⟩ := r10.out
      obtain ⟨g2, rfl, hg2, ho2⟩ := r11.out
      have HNE := Lib.hid (show g1 ≠ g2 from BoolO.ne ho2 ho1)
      have HG1 := Lib.hid hg1
      have HG2 := Lib.hid hg2
      have HO1 := Lib.hid ho1
      have HO2 := Lib.hid ho2
      have HLAY := Lib.hid (fun (i' : Nat) (v : Value) (S : List Int) (w : World) (hi : i' < k') (hf : (f (i' : Int)).length = s') (hg : Own w g1 (fillO l' s' f S)) (hx : Bytes w v (f (i' : Int))) => by
        have h := lay_any (l' : Int) (k' : Int) n s' i' g1 v (fillO l' s' f S) (f (i' : Int)) w hs9 (by omega) (by rw [fillO_length]; exact HROOM.out i' (by omega)) hg hx
        rw [fillO_length, fillO_step hs1 hf (by have := HROOM.out i' (by omega); omega), hf] at h
        exact h)
      clear r10 r11 r32 r35 hg1 hg2 ho1 ho2 hmb hmt B
      go_wp2_with fail
      go_loopw [13, 14, 38, 49] (fun _ _ i _ wr => ∃ j : Nat, j ≤ Kl.length ∧ i = .int .i64 j ∧ Since w4 wr ∧ Own wr g1 (fillO l' s' f (Kl.take j)) ∧ BoolO wr g2 (fillT l' s' (Kl.take j))) (fun _ _ i _ _ => Kl.length - (Go.RowKit.intOf i).toNat)
      case atStart => exact ⟨0, by omega, rfl, HS4.out, by rw [List.take_zero, fillO_nil]; exact HO1.out, by rw [List.take_zero, fillT_nil]; exact HO2.out⟩
      case round =>
        clear HS4 HO1 HO2
        obtain ⟨j, hj, rfl, hS, hO, hT⟩ := hrel
        have HSR := Lib.hid hS
        have HO := Lib.hid hO
        have HT := Lib.hid hT
        have K5 := Lib.hid (K1.out.go hS)
        have HM5 := Lib.hid (HM.out.since hS)
        have HK5 := Lib.hid (HKI.out.go hS)
        clear hS hO hT
        obtain ⟨p0, p1, p2, p3⟩ := K5.out.four
        have pl := K5.out.lt
        by_cases hlt : j < Kl.length
        · obtain ⟨x, hx⟩ : ∃ x, x = nthI Kl j := ⟨_, rfl⟩
          have hrng := HKI.out.range hlt
          obtain ⟨ab, ao, rfl, hcell⟩ : ∃ ab ao, va = some ⟨ab, ao, none⟩ ∧ wr.cell? ⟨ab, ao + j, none⟩ = some (.int .i64 (nthI Kl j)) := by
            obtain ⟨a', c', e, _, _, _, h4⟩ := HK5.out
            obtain ⟨b', off', rfl, _, hc⟩ := h4 (by intro h; rw [h] at hlt; simp at hlt)
            simp only [Value.slice.injEq] at e
            exact ⟨b', off', e.1, hc j hlt⟩
          obtain ⟨hz1, hz2, hz3⟩ := HZ.out (nthI Kl j) (by rw [nthI_eq Kl j hlt]; exact List.getElem_mem hlt)
          have htake : Kl.take (j + 1) = Kl.take j ++ [nthI Kl j] := by rw [nthI_eq Kl j hlt]; exact (List.take_append_getElem hlt).symm
          rw [← hx] at hrng hcell hz1 hz2 hz3 htake
          obtain ⟨i', hi'⟩ : ∃ i' : Nat, x = i' := ⟨x.toNat, by omega⟩
          subst hi'
          have HTK := Lib.hid htake
          have hfl : (f (i' : Int)).length = s' := by omega
          have hik : i' < k' := by omega
          obtain ⟨ra, rc, hlk, hvb⟩ := HM5.out.look hrng
          have HVB := Lib.hid hvb
          have HFL := Lib.hid hfl
          have HIK := Lib.hid hik
          have i0 : (0 : Int) ≤ (j : Int) := Int.natCast_nonneg _
          have i1 : (j : Int) < (Kl.length : Int) := by omega
          clear hx hz1 hz2 hz3 htake hvb hfl hik hrng
          go_wp2_with fail
          clear p0 p1 p2 p3 pl hlk hcell
          refine (HLAY.out i' _ (Kl.take j) _ HIK.out HFL.out HO.out HVB.out).mono ?_
          rintro e w7 ⟨rfl, ho7, hg7⟩
          rw [← HTK.out] at ho7
          obtain ⟨off, hoff⟩ : ∃ off, off = i' * s' := ⟨_, rfl⟩
          obtain ⟨m, hm⟩ : ∃ m, m = min s' (l' - i' * s') := ⟨_, rfl⟩
          have hmul : IntKind.i64.wrap ((i' : Int) * (s' : Int)) = (off : Int) := by
            have e : (i' : Int) * (s' : Int) = (off : Int) := by rw [hoff]; simp
            have h1 := HROOM.out i' (by have := HIK.out; omega)
            have : off ≤ 4096 * 65535 := by omega
            rw [e, IntKind.wrap_i64]; omega
          have HALL := Lib.hid (show tellT l' s' (Kl.take j) off m = fillT l' s' (Kl.take (j + 1)) by
            rw [HTK.out, hoff, hm]
            exact tellT_all hs1 (by have := HROOM.out i' (by have := HIK.out; omega); omega))
          have hm9 : m ≤ 65535 := by omega
          have HOM := Lib.hid (show ∀ t, t < m → off + t < l' by intro t ht; omega)
          have HS7 := Lib.hid (show Since w4 w7 from Below.grown HSR.out hg7 (Below.size HSR.out) (fun b e => by cases e; exact HG1.out))
          have HO7 := Lib.hid ho7
          have HT7 := Lib.hid (show BoolO w7 g2 (tellT l' s' (Kl.take j) off 0) by rw [tellT_zero]; exact Blk.grown HT.out hg7 (fun e => HNE.out (Option.some.inj e).symm))
          rw [← hm]
          clear ho7 hg7 hoff hm HO HT HSR K5 HM5 HK5 HVB
          go_wp2_with fail
          obtain ⟨wo, hwo⟩ : ∃ wo : World, wo = w7 := ⟨_, rfl⟩
          subst hwo
          go_loopw [14, 49] (fun _ t wq => ∃ u : Nat, u ≤ m ∧ t = .int .i64 u ∧ Since w4 wq ∧ Own wq g1 (fillO l' s' f (Kl.take (j + 1))) ∧ BoolO wq g2 (tellT l' s' (Kl.take j) off u)) (fun _ t _ => m - (Go.RowKit.intOf t).toNat)
          case atStart => exact ⟨0, by omega, rfl, HS7.out, HO7.out, HT7.out⟩
          case round =>
            clear HS7 HO7 HT7
            obtain ⟨u, hu, rfl, hS, hO, hT⟩ := hrel
            have HSQ := Lib.hid hS
            have HOQ := Lib.hid hO
            have HTQ := Lib.hid hT
            have K7 := Lib.hid (K1.out.go hS)
            clear hS hO hT
            by_cases hul : u < m
            · obtain ⟨p0, p1, p2, p3⟩ := K7.out.four
              have pl := K7.out.lt
              have hlo := HOM.out u hul
              obtain ⟨q, hq⟩ : ∃ q, q = off + u := ⟨_, rfl⟩
              have hadd : IntKind.i64.wrap ((off : Int) + (u : Int)) = (q : Int) := by rw [IntKind.wrap_i64]; omega
              have HQL := Lib.hid (show q < l' by omega)
              have HSET := Lib.hid (show (tellT l' s' (Kl.take j) off u).set q true = tellT l' s' (Kl.take j) off (u + 1) by rw [hq]; exact tellT_set hlo)
              have u0 : (0 : Int) ≤ (u : Int) := Int.natCast_nonneg _
              have u1 : (u : Int) < (m : Int) := by omega
              have q0 : (0 : Int) ≤ (q : Int) := Int.natCast_nonneg _
              have q1 : (q : Int) < (l' : Int) := by have := HQL.out; omega
              obtain ⟨z, c9⟩ : ∃ z, wr.cell? ⟨g2, q, none⟩ = some (.bool z) := by
                refine ⟨(tellT l' s' (Kl.take j) off u).getD q false, ?_⟩
                rw [Blk.cell HTQ.out q]
                have h := HQL.out
                unfold bolls
                rw [List.getElem?_toArray, List.getElem?_map, List.getElem?_eq_getElem (by rw [tellT_length]; exact h), List.getD_eq_getElem?_getD, List.getElem?_eq_getElem (by rw [tellT_length]; exact h)]
                rfl
              have f9 := Blk.free HTQ.out q
              clear hq hlo
              go_wp2_with fail
              have hgs : wr.grownBy (wr.setCell ⟨g2, q, none⟩ (.bool true)) (some g2) := grown_setCell wr ⟨g2, q, none⟩ _
              have HT8 := Lib.hid (BoolO.set HTQ.out q true)
              rw [HSET.out] at HT8
              have HO8 := Lib.hid (HOQ.out.grown hgs (fun e => HNE.out (Option.some.inj e)))
              have HS8 := Lib.hid (show Since w4 (wr.setCell ⟨g2, q, none⟩ (.bool true)) from Below.grown HSQ.out hgs (Below.size HSQ.out) (fun b e => by cases e; exact HG2.out))
              clear hgs c9 f9
              go_roundw
              case rel => exact ⟨u + 1, by omega, by go_num, HS8.out, HO8.out, HT8.out⟩
              case measure => simp [Go.RowKit.intOf]; omega
            · obtain rfl : u = m := by omega
              have HTN := Lib.hid HTQ.out
              rw [HALL.out] at HTN
              go_wp2_with fail
              go_roundw
              case rel => exact ⟨j + 1, by omega, by go_num, HSQ.out, HOQ.out, HTN.out⟩
              case measure => simp [Go.RowKit.intOf]; omega
        · obtain rfl : j = Kl.length := by omega
          rw [List.take_length] at HO HT
          have HBO := Lib.hid (HO.out.bytes (fillO_lt (fun k => (HM.out.val k).lt) l' s' Kl) (by rw [fillO_length]; omega))
          have HBT := Lib.hid (HT.out.bools (by rw [fillT_length]; omega))
          rw [fillO_length] at HBO
          rw [fillT_length] at HBT
          go_wp2_with fail
          exact bodyPost_ret (v := .tuple #[whole g1 l', whole g2 l', .int .i64 0]) (by simp [results, Try.results23, go_sem]) rfl ⟨Kl, _, _, HKO.out, by rw [HF2.out], by rw [HF1.out.1]; exact HBO.out, by rw [HF1.out.2]; exact HBT.out, B4.out.trans (HSR.out.mono B4.out.size)⟩
    · have HF1 := Lib.hid (HFN.out Kl hz)
      have HF2 := Lib.hid (HFE.out Kl)
      obtain ⟨ne, hne⟩ : ∃ x, x = numE (s' : Int) (k' : Int) f Kl := ⟨_, rfl⟩
      rw [← hne] at hz HF2 ⊢
      have hb : (ne != 0) = true := by rw [bne_iff_ne]; exact hz
      clear hz hne HFS HFN HFE
      go_wp2_with fail
      exact bodyPost_ret (v := .tuple #[.slice none 0 0, .slice none 0 0, .int .i64 ne]) (by simp [results, Try.results23, go_sem]) rfl ⟨Kl, _, _, HKO.out, by rw [HF2.out], by rw [HF1.out.1]; exact Bytes.nil _, by rw [HF1.out.2]; exact Bools.nil _, B⟩
  · obtain ⟨K, hK⟩ := keys_there hM
    have h1 : fillE l s k f K = checkE l s k := by unfold fillE; rw [if_neg hc0]
    have HKO := Lib.hid hK
    have H1 := Lib.hid h1
    have H2 := Lib.hid (show fillS l s k f K = [] by unfold fillS; rw [h1, if_neg hc0])
    have H3 := Lib.hid (show fillB l s k f K = [] by unfold fillB; rw [h1, if_neg hc0])
    obtain ⟨ce, hce⟩ : ∃ x, x = checkE l s k := ⟨_, rfl⟩
    rw [← hce] at HC hc0 H1
    have hb : (ce != 0) = true := by rw [bne_iff_ne]; exact hc0
    clear hce h1 hK hM
    go_enter Try.func23, Try.ntmps23
    go_wp2_with fail
    obtain ⟨B, hk1, hs⟩ := blocks1 w #[.int .i64 (l), .int .i64 (s), .int .i64 (k), .int .u32 n] 24
    generalize (w.alloc (.cells #[.int .i64 (l), .int .i64 (s), .int .i64 (k), .int .u32 n] 24)) = W at *
    have K1 := Lib.hid hk1
    have HS := Lib.hid hs
    clear hs hk1
    replace HM := Lib.hid (HM.out.go B)
    have hzW := B.size
    refine (HC.out _).mono ?_
    rintro e w1 ⟨rfl, hb⟩
    replace K1 := Lib.hid (K1.out.go hb)
    replace HM := Lib.hid (HM.out.go hb)
    replace B := B.trans (hb.mono B.size)
    have hzw1 := B.size
    clear hb
    go_wp2_with fail
    exact bodyPost_ret (v := .tuple #[.slice none 0 0, .slice none 0 0, .int .i64 ce]) (by simp [results, Try.results23, go_sem]) rfl ⟨K, _, _, HKO.out, by rw [H1.out], by rw [H2.out]; exact Bytes.nil _, by rw [H3.out]; exact Bools.nil _, B⟩

end Go.Proofs.Ytfefkchjhooloaa

/-
  Known symbols by two lists, numbers and symbols (the document's Fill): of one number the last one counts.
-/
set_option maxRecDepth 100000
namespace Go.Proofs.Ytfefkchjhooloaa
open Go.RowKit Go.Maps

/-- What was put: number i with value i, the newest first; how a number reads. -/
def psN (U : Nat → Value) (NL : List Int) : Nat → List (Int × Value)
  | 0 => []
  | j + 1 => (nthI NL j, U j) :: psN U NL j
def fN (NL : List Int) (ll : List (List Nat)) : Nat → Int → List Nat
  | 0, _ => []
  | j + 1, x => if nthI NL j = x then rowAt ll j else fN NL ll j x
def hasN (NL : List Int) (j : Nat) (x : Int) : Prop := ∃ i, i < j ∧ nthI NL i = x
theorem hasR_psN {U : Nat → Value} {NL : List Int} (x : Int) : ∀ j, hasR (psN U NL j) x = true ↔ hasN NL j x
  | 0 => by unfold psN hasR hasN; simp
  | j + 1 => by
    have h := hasR_psN (U := U) (NL := NL) x j
    have e0 : hasR (psN U NL (j + 1)) x = ((nthI NL j == x) || hasR (psN U NL j) x) := rfl
    rw [e0, Bool.or_eq_true, h, beq_iff_eq]
    unfold hasN
    constructor
    · rintro (e | ⟨i, hi, e⟩)
      · exact ⟨j, by omega, e⟩
      · exact ⟨i, by omega, e⟩
    · rintro ⟨i, hi, e⟩
      by_cases hij : i = j
      · subst hij; exact .inl e
      · exact .inr ⟨i, by omega, e⟩
/-- Number i doesn't come again ahead of m. -/
def lastN (NL : List Int) (m i : Nat) : Prop := ∀ j, i < j → j < m → nthI NL j ≠ nthI NL i
theorem fN_last {NL : List Int} {ll : List (List Nat)} {i : Nat} : ∀ {m : Nat}, i < m → lastN NL m i → fN NL ll m (nthI NL i) = rowAt ll i
  | 0, h, _ => absurd h (by omega)
  | m + 1, h, hl => by
    unfold fN
    by_cases e : i = m
    · subst e; rw [if_pos rfl]
    · rw [if_neg (hl m (by omega) (by omega))]
      exact fN_last (by omega) (fun j h1 h2 => hl j h1 (by omega))
theorem last_of {NL : List Int} {x : Int} : ∀ {m : Nat}, hasN NL m x → ∃ i, i < m ∧ nthI NL i = x ∧ lastN NL m i
  | 0, ⟨i, h, _⟩ => absurd h (by omega)
  | m + 1, ⟨i, h, e⟩ => by
    by_cases hm : nthI NL m = x
    · exact ⟨m, by omega, hm, fun j h1 h2 => by omega⟩
    · have hi : i < m := by
        rcases Nat.lt_or_ge i m with h1 | h1
        · exact h1
        · exfalso
          have : i = m := by omega
          subst this; exact hm e
      obtain ⟨j, hj, ej, hl⟩ := last_of (m := m) ⟨i, hi, e⟩
      exact ⟨j, by omega, ej, fun q h1 h2 => by
        by_cases hq : q = m
        · subst hq; rw [ej]; exact hm
        · exact hl q h1 (by omega)⟩
/-- What is wrong with a number. -/
def badN (s k : Int) (f : Int → List Nat) (x : Int) : Int := if x < 0 ∨ k ≤ x then 2 else if ((f x).length : Int) ≠ s then 4 else 0
theorem numE_bad {s k : Int} {f : Int → List Nat} {i : Int} {r : List Int} : numE s k f (i :: r) = if badN s k f i ≠ 0 then badN s k f i else numE s k f r := by
  show (if i < 0 ∨ k ≤ i then 2 else if ((f i).length : Int) ≠ s then 4 else numE s k f r) = _
  unfold badN
  by_cases h1 : i < 0 ∨ k ≤ i
  · rw [if_pos h1, if_pos h1, if_pos (by decide)]
  · rw [if_neg h1, if_neg h1]
    by_cases h2 : ((f i).length : Int) ≠ s
    · rw [if_pos h2, if_pos h2, if_pos (by decide)]
    · rw [if_neg h2, if_neg h2, if_neg (by simp)]
theorem numE_none {s k : Int} {f : Int → List Nat} : ∀ {K : List Int}, (∀ x ∈ K, badN s k f x = 0) → numE s k f K = 0
  | [], _ => rfl
  | i :: r, h => by
    rw [numE_bad, if_neg (by rw [h i (by simp)]; simp)]
    exact numE_none (fun x hx => h x (by simp [hx]))
theorem numE_first {s k : Int} {f : Int → List Nat} {y : Int} (hy : badN s k f y ≠ 0) : ∀ {K : List Int}, K.Pairwise (· < ·) → y ∈ K → (∀ x ∈ K, badN s k f x ≠ 0 → y ≤ x) → numE s k f K = badN s k f y
  | [], _, h, _ => by simp at h
  | i :: r, hp, hm, hl => by
    rw [numE_bad]
    obtain ⟨h1, h2⟩ := List.pairwise_cons.1 hp
    by_cases hb : badN s k f i ≠ 0
    · rw [if_pos hb]
      have h3 := hl i (by simp) hb
      rcases List.mem_cons.1 hm with e | hm
      · rw [e]
      · have := h1 y hm
        omega
    · rw [if_neg hb]
      rcases List.mem_cons.1 hm with e | hm
      · rw [e] at hy; exact absurd hy hb
      · exact numE_first hy h2 hm (fun x hx => hl x (by simp [hx]))

/-- The document's search for what is wrong: the least bad number so far, and its code. -/
def Worst (NL : List Int) (s k : Int) (f : Int → List Nat) (m i : Nat) (worst code : Int) : Prop :=
  (code = 0 ∧ ∀ j, j < i → lastN NL m j → badN s k f (nthI NL j) = 0) ∨
  (code ≠ 0 ∧ code = badN s k f worst ∧ hasN NL m worst ∧ ∀ j, j < i → lastN NL m j → badN s k f (nthI NL j) ≠ 0 → worst ≤ nthI NL j)
theorem Worst.skip {NL : List Int} {s k : Int} {f : Int → List Nat} {m i : Nat} {worst code : Int} (h : Worst NL s k f m i worst code)
    (hs : ¬ lastN NL m i ∨ badN s k f (nthI NL i) = 0 ∨ (code ≠ 0 ∧ worst ≤ nthI NL i)) : Worst NL s k f m (i + 1) worst code := by
  rcases h with ⟨h1, h2⟩ | ⟨h1, h2, h3, h4⟩
  · refine .inl ⟨h1, fun j hj hl => ?_⟩
    by_cases e : j = i
    · subst e
      rcases hs with hs | hs | hs
      · exact absurd hl hs
      · exact hs
      · exact absurd h1 hs.1
    · exact h2 j (by omega) hl
  · refine .inr ⟨h1, h2, h3, fun j hj hl hb => ?_⟩
    by_cases e : j = i
    · subst e
      rcases hs with hs | hs | hs
      · exact absurd hl hs
      · exact absurd hs hb
      · exact hs.2
    · exact h4 j (by omega) hl hb
theorem Worst.take {NL : List Int} {s k : Int} {f : Int → List Nat} {m i : Nat} {worst code : Int} (h : Worst NL s k f m i worst code) (hi : i < m)
    (hb : badN s k f (nthI NL i) ≠ 0) (hc : code = 0 ∨ nthI NL i < worst) : Worst NL s k f m (i + 1) (nthI NL i) (badN s k f (nthI NL i)) := by
  refine .inr ⟨hb, rfl, ⟨i, hi, rfl⟩, fun j hj hl hbj => ?_⟩
  by_cases e : j = i
  · subst e; exact Int.le_refl _
  · rcases h with ⟨h1, h2⟩ | ⟨h1, h2, h3, h4⟩
    · exact absurd (h2 j (by omega) hl) hbj
    · have := h4 j (by omega) hl hbj
      rcases hc with hc | hc
      · exact absurd hc h1
      · omega
theorem Worst.done {NL : List Int} {s k : Int} {f : Int → List Nat} {m : Nat} {worst code : Int} {K : List Int} (h : Worst NL s k f m m worst code) (hp : K.Pairwise (· < ·)) (hK : ∀ x, x ∈ K ↔ hasN NL m x) : numE s k f K = code := by
  rcases h with ⟨h1, h2⟩ | ⟨h1, h2, h3, h4⟩
  · rw [h1]
    refine numE_none fun x hx => ?_
    obtain ⟨i, hi, e, hl⟩ := last_of ((hK x).1 hx)
    rw [← e]; exact h2 i hi hl
  · rw [h2]
    refine numE_first (by rw [← h2]; exact h1) hp ((hK _).2 h3) fun x hx hb => ?_
    obtain ⟨i, hi, e, hl⟩ := last_of ((hK x).1 hx)
    rw [← e] at hb ⊢
    exact h4 i hi hl hb

/-- The document's byte at a place, and whether it is known, of the first j pairs. -/
def inN (NL : List Int) (ll : List (List Nat)) (q r : Nat) : Nat → Nat × Bool
  | 0 => (0, false)
  | j + 1 => if nthI NL j = (q : Int) ∧ r < (rowAt ll j).length then (nth (rowAt ll j) r, true) else inN NL ll q r j
theorem inN_none {NL : List Int} {ll : List (List Nat)} {q r : Nat} : ∀ {m : Nat}, ¬ hasN NL m (q : Int) → inN NL ll q r m = (0, false)
  | 0, _ => rfl
  | m + 1, h => by
    unfold inN
    rw [if_neg (fun e => h ⟨m, by omega, e.1⟩)]
    exact inN_none (fun ⟨i, hi, e⟩ => h ⟨i, by omega, e⟩)
theorem inN_some {NL : List Int} {ll : List (List Nat)} {q r : Nat} : ∀ {m : Nat}, hasN NL m (q : Int) → r < (fN NL ll m (q : Int)).length → inN NL ll q r m = (nth (fN NL ll m (q : Int)) r, true)
  | 0, ⟨i, h, _⟩, _ => absurd h (by omega)
  | m + 1, h, hr => by
    unfold inN
    unfold fN at hr ⊢
    by_cases e : nthI NL m = (q : Int)
    · rw [if_pos e] at hr ⊢
      rw [if_pos ⟨e, hr⟩]
    · rw [if_neg e] at hr ⊢
      rw [if_neg (fun h => e h.1)]
      refine inN_some ?_ hr
      obtain ⟨i, hi, ei⟩ := h
      refine ⟨i, ?_, ei⟩
      rcases Nat.lt_or_ge i m with h1 | h1
      · exact h1
      · exfalso
        have : i = m := by omega
        subst this; exact e ei
def outN (NL : List Int) (ll : List (List Nat)) (s m a : Nat) : List Nat := (List.range a).map fun x => (inN NL ll (x / s) (x % s) m).1
def isN (NL : List Int) (ll : List (List Nat)) (s m a : Nat) : List Bool := (List.range a).map fun x => (inN NL ll (x / s) (x % s) m).2
theorem outN_succ (NL : List Int) (ll : List (List Nat)) (s m a : Nat) : outN NL ll s m (a + 1) = outN NL ll s m a ++ [(inN NL ll (a / s) (a % s) m).1] := by
  unfold outN; rw [List.range_succ, List.map_append]; rfl
theorem isN_succ (NL : List Int) (ll : List (List Nat)) (s m a : Nat) : isN NL ll s m (a + 1) = isN NL ll s m a ++ [(inN NL ll (a / s) (a % s) m).2] := by
  unfold isN; rw [List.range_succ, List.map_append]; rfl
theorem out_fill {NL : List Int} {ll : List (List Nat)} {s m l : Nat} {K : List Int} (hs : 0 < s) (hK : ∀ x, x ∈ K ↔ hasN NL m x) (hf : ∀ x ∈ K, (fN NL ll m x).length = s) :
    outN NL ll s m l = fillO l s (fN NL ll m) K ∧ isN NL ll s m l = fillT l s K := by
  unfold outN isN fillO fillT
  refine ⟨List.map_congr_left fun x _ => ?_, List.map_congr_left fun x _ => ?_⟩
  · by_cases h : ((x / s : Nat) : Int) ∈ K
    · rw [if_pos h, inN_some ((hK _).1 h) (by rw [hf _ h]; exact Nat.mod_lt _ hs)]
    · rw [if_neg h, inN_none (fun e => h ((hK _).2 e))]
  · by_cases h : ((x / s : Nat) : Int) ∈ K
    · rw [inN_some ((hK _).1 h) (by rw [hf _ h]; exact Nat.mod_lt _ hs)]
      exact (decide_eq_true h).symm
    · rw [inN_none (fun e => h ((hK _).2 e))]
      exact (decide_eq_false h).symm

end Go.Proofs.Ytfefkchjhooloaa

/-
  A slice of bools that a call appends to; a slice of ints from a place on.
-/
set_option maxRecDepth 100000
namespace Go.Proofs.Ytfefkchjhooloaa
open Go.RowKit Go.Maps

def OwnT (w : World) (B : Nat) (v : Value) (L : List Bool) : Prop := OwnN w B 4 1 v L.length (L.map fun x => .bool x)
theorem OwnT.nil (w : World) (B : Nat) : OwnT w B (.slice none 0 0) [] := OwnN.nil _ _ _ _
theorem OwnT.go {w w' : World} {B : Nat} {v : Value} {L : List Bool} (h : OwnT w B v L) (hb : Below w.heap.size w w') : OwnT w' B v L := OwnN.go h hb
theorem OwnT.from {w : World} {B : Nat} {v : Value} {L : List Bool} (h : OwnT w B v L) : ∀ k, v.ownBlock = some k → B ≤ k := OwnN.from h
theorem OwnT.shape {w : World} {B : Nat} {v : Value} {L : List Bool} (h : OwnT w B v L) : ∃ a c, v = .slice a L.length c := by
  obtain ⟨⟨_, h1⟩, _⟩ := h
  rcases h1 with ⟨rfl, h0⟩ | ⟨g, cap, cur, rfl, _⟩
  · rw [h0]; exact ⟨_, _, rfl⟩
  · exact ⟨_, _, rfl⟩
theorem OwnT.bools {w : World} {B : Nat} {v : Value} {L : List Bool} (h : OwnT w B v L) : Bools w v L := by
  have h1' := h.1
  obtain ⟨⟨_, h1⟩, _⟩ := h
  rcases h1 with ⟨rfl, h2⟩ | ⟨g, cap, cur, rfl, hB, hg, hn, hc, hsz, ht⟩
  · have e : L = [] := List.length_eq_zero_iff.1 h2
    subst e; exact Bools.nil w
  · refine ⟨_, cap, rfl, hn, by simpa [maxLen] using hc, fun _ => ⟨g, 0, rfl, (Array.getElem?_eq_some_iff.1 hg).1, fun i hi => ?_⟩⟩
    have c1 := World.ownsRow.cells h1' (g := g) rfl i (.bool (L.getD i false)) (by rw [List.getElem?_map, List.getElem?_eq_getElem hi, List.getD_eq_getElem?_getD, List.getElem?_eq_getElem hi]; rfl)
    rw [rows_add] at c1
    exact c1
/-- A list of bytes and one of bools don't share a block. -/
theorem owns_apartT {w : World} {B C : Nat} {u v : Value} {l : List Nat} {L : List Bool} (h : Owns w B u l) (k : OwnT w C v L) : u.ownBlock = none ∨ u.ownBlock ≠ v.ownBlock := by
  rcases h.2 with ⟨rfl, _⟩ | ⟨g, cap, cur, rfl, _, hg, _⟩
  · exact .inl rfl
  · refine .inr fun e => ?_
    rcases k.1.2 with ⟨rfl, _⟩ | ⟨g', cap', cur', rfl, _, hg', _⟩
    · cases e
    · simp only [Value.ownBlock, Option.some.injEq] at e
      subst e
      rw [hg] at hg'
      simp at hg'
theorem bool_ne (x : Bool) (k : Nat) : (.bool x : Value) ≠ U8 k := by intro h; cases h
/-- 'out = append(out, x)', of one bool. -/
theorem wpList_append_bool {ops : Array Oper} {rest : List Oper} {o : Oper} {a : Act} {Q : Exit → Act → World → Prop} {w : World} (hgd : o.guard = none) (s x : Operand) (ho : o.op = .call { callee := .builtin .append, args := #[s, x], argTypes := #[53, 53] })
    (B k : Nat) (v : Value) (u : Bool) (L : List Bool) (hs : a.eval s = v) (hx : a.eval x = .slice (some ⟨k, 0, none⟩) 1 1) (hk : k = w.heap.size) (hown : OwnT w B v L) (hB : B ≤ w.heap.size) (hn : L.length + 1 ≤ 1000000000000)
    (h : ∀ v' w', OwnT w' B v' (L ++ [u]) → (w.alloc (.cells #[.bool u] 4)).grownBy w' v.ownBlock → Soft (w.alloc (.cells #[.bool u] 4)) w' → wpList Try.prog ops Q rest (a.put o.dst v') w') :
    wpList Try.prog ops Q (o :: rest) a (w.alloc (.cells #[.bool u] 4)) := by
  subst hk
  obtain ⟨i0, hi, hz0, hz1, hz2⟩ := info_parts infoBool
  have hb : Below w.heap.size w (w.alloc (.cells #[.bool u] 4)) := (Below.refl _ _).alloc (Nat.le_refl _) _
  refine wpList_append_soft hgd s x 53 ho B 4 i0 (.bool false) 1 1 Try.underlying53 hi hz0 hz1 hz2 rfl (by decide) v L.length _ hs (OwnN.go hown hb)
    ⟨w.heap.size, 0, none⟩ 1 1 [.bool u] hx rfl ?_ (fun y hy => by simp at hy; subst hy; rfl) (fun y hy => by simp [Value.cells] at hy; subst hy; exact bool_ne _) (fun y hy => by simp at hy; subst hy; exact bool_ne _) ?_ ?_ (Nat.le_trans hB (by simp)) ?_
  · intro j y hj
    match j, hj with
    | 0, hj => simp at hj; subst hj; simp [Addr.add]
  · unfold maxLen; omega
  · omega
  · intro v' w' k1 k2 k3
    refine h v' w' ?_ k2 k3
    unfold OwnT
    rw [List.length_append, List.map_append]
    exact k1
theorem nthI_drop (l : List Int) (i j : Nat) : nthI (l.drop i) j = nthI l (i + j) := by
  unfold nthI; rw [List.getD_eq_getElem?_getD, List.getElem?_drop, ← List.getD_eq_getElem?_getD]
/-- 'l[i:]', of ints. -/
theorem slice_restI {w : World} {a : Option Addr} {n c i : Nat} {l : List Int} (h : Ints w (.slice a n c) l) (hi : i ≤ l.length) :
    ∃ b d, (∀ w' : World, (Instr.sliceAt 51 (.slice a n c) (some (.int .i64 (i : Int))) none none).run Try.prog w' = .ok (.slice b (l.drop i).length d) w') ∧ Ints w (.slice b (l.drop i).length d) (l.drop i) := by
  have h' := h
  obtain ⟨a', c', e, h1, h2, h3, h4⟩ := h'
  simp only [Value.slice.injEq] at e
  obtain ⟨rfl, rfl, rfl⟩ := e
  have i1 : (i : Int) ≤ (l.length : Int) := by omega
  have i0 : (0 : Int) ≤ (i : Int) := Int.natCast_nonneg _
  have i2 : (l.length : Int) ≤ (c : Int) := by omega
  have i3 : (i : Int) ≤ (c : Int) := by omega
  by_cases hl : i < l.length
  · obtain ⟨b, off, rfl, hlt, hc⟩ := h4 (by intro e; rw [e] at hl; simp at hl)
    have hci : ¬ c = i := by omega
    refine ⟨some ⟨b, off + i, none⟩, c - i, fun w' => ?_, _, _, rfl, by simp; omega, by omega, fun x hx => h3 x (List.mem_of_mem_drop hx), fun _ => ⟨b, off + i, rfl, hlt, fun j hj => ?_⟩⟩
    · rw [List.length_drop]
      go_simp
    · rw [List.length_drop] at hj
      rw [Nat.add_assoc, hc (i + j) (by omega), nthI_drop]
  · have hie : i = l.length := by omega
    subst hie
    have hd : l.drop l.length = [] := List.drop_length
    rw [hd]
    cases a with
    | none =>
      refine ⟨none, c - l.length, fun w' => ?_, _, _, rfl, by simp, by omega, by simp, fun e => absurd rfl e⟩
      by_cases hc0 : c = l.length
      · go_simp
      · go_simp
    | some p =>
      by_cases hc0 : c = l.length
      · refine ⟨some p, 0, fun w' => ?_, _, _, rfl, by simp, by omega, by simp, fun e => absurd rfl e⟩
        go_simp
      · refine ⟨some (p.add l.length), c - l.length, fun w' => ?_, _, _, rfl, by simp, by omega, by simp, fun e => absurd rfl e⟩
        go_simp

end Go.Proofs.Ytfefkchjhooloaa
