/- Texts of one seat, laid together: FillC, LawTwelveC, LawTwelveB. -/
import Derived.Test.YtfefkchjhooloaaGlueBackQ6
import Derived.Test.YtfefkchjhooloaaGlueBackQ3
import Derived.Test.YtfefkchjhooloaaGlueBackQ5
import Derived.Test.YtfefkchjhooloaaGlueBackQ1
import Derived.Lib.SmallJoins

/-
  An object as far as its symbols are known (package glue): Fill.
-/
set_option maxRecDepth 100000
namespace Go.Proofs.Ytfefkchjhooloaa
open Go.RowKit Go.Maps

def fillE (l s k : Int) (f : Int → List Nat) (K : List Int) : Int := if checkE l s k = 0 then numE s k f K else checkE l s k
def fillS (l s k : Int) (f : Int → List Nat) (K : List Int) : List Nat := if fillE l s k f K = 0 then fillO l.toNat s.toNat f K else []
def fillB (l s k : Int) (f : Int → List Nat) (K : List Int) : List Bool := if fillE l s k f K = 0 then fillT l.toNat s.toNat K else []
/-- The keys of what was put, rising. -/
def KeysOf (ps : List (Int × Value)) (K : List Int) : Prop := K.Pairwise (· < ·) ∧ ∀ x, x ∈ K ↔ hasR ps x = true
/-- What Fill answers. -/
def FillV (w : World) (l s k : Int) (ps : List (Int × Value)) (f : Int → List Nat) (e : Ending) (w' : World) : Prop :=
  ∃ (K : List Int) (u v : Value), KeysOf ps K ∧ e = .returned (.tuple #[u, v, .int .i64 (fillE l s k f K)]) ∧ Bytes w' u (fillS l s k f K) ∧ Bools w' v (fillB l s k f K) ∧ Below w.heap.size w w'
/-- A made block. -/
def MadeY (g0 n : Nat) (v : Value) (w : World) : Prop := ∃ g, v = whole g n ∧ g0 ≤ g ∧ Own w g (zeros n)
def MadeT (g0 n : Nat) (v : Value) (w : World) : Prop := ∃ g, v = whole g n ∧ g0 ≤ g ∧ BoolO w g (List.replicate n false)
theorem MadeY.go (g0 n : Nat) : ∀ v w w', Below w.heap.size w w' → MadeY g0 n v w → MadeY g0 n v w' := fun _ _ _ hb ⟨g, e, h, ho⟩ => ⟨g, e, h, ho.go hb⟩
theorem MadeT.go (g0 n : Nat) : ∀ v w w', Below w.heap.size w w' → MadeT g0 n v w → MadeT g0 n v w' := fun _ _ _ hb ⟨g, e, h, ho⟩ => ⟨g, e, h, ho.go hb⟩
theorem ints_own {w : World} {B : Nat} {v : Value} {K : List Int} (h : w.ownsRow B 3 1 v K.length (K.map fun x => .int .i64 x)) (hr : ∀ x, x ∈ K → -9223372036854775808 ≤ x ∧ x ≤ 9223372036854775807) : Ints w v K := by
  have h' := h
  rcases h.2 with ⟨rfl, h0⟩ | ⟨g, cap, cur, rfl, hB, hg, hn, hc, hsz, ht⟩
  · have e : K = [] := List.length_eq_zero_iff.1 h0
    subst e
    exact ⟨none, 0, rfl, Nat.le_refl _, by omega, hr, fun h => absurd rfl h⟩
  · refine ⟨_, cap, rfl, hn, by simpa [maxLen] using hc, hr, fun _ => ⟨g, 0, rfl, (Array.getElem?_eq_some_iff.1 hg).1, fun i hi => ?_⟩⟩
    have c1 := World.ownsRow.cells h' (g := g) rfl i (.int .i64 (nthI K i)) (by rw [List.getElem?_map, List.getElem?_eq_getElem hi, nthI_eq K i hi]; rfl)
    rw [rows_add] at c1
    exact c1
theorem keys_there {w : World} {b : Nat} {ps : List (Int × Value)} {f : Int → List Nat} (h : KMap w b ps f) : ∃ K, KeysOf ps K := by
  obtain ⟨n, _, ho⟩ := h.own
  obtain ⟨h1, h2⟩ := keys_putR ho (List.Perm.refl _)
  obtain ⟨h3, h4⟩ := sort_rising h1
  exact ⟨_, h3, fun x => by rw [h4, h2]⟩
set_option maxHeartbeats 2000000 in
theorem fill_any (l s k n : Int) (b : Nat) (ps : List (Int × Value)) (f : Int → List Nat) (w : World) (hl0 : -9223372036854775808 ≤ l) (hl : l ≤ 9223372036854775807) (hs2 : s ≤ 9223372036854775807) (hM : KMap w b ps f) :
    Calls Try.prog 23 #[.agg #[.int .i64 l, .int .i64 s, .int .i64 k, .int .u32 n], .map (some b)] w (FillV w l s k ps f) := by
  have HC := Lib.hid (fun w => check_any l s k n w hl0 hl hs2)
  have HM := Lib.hid hM
  by_cases hc0 : checkE l s k = 0
  · obtain ⟨p1, p2, p3, p4, p5, -, q7⟩ := check_ok10 hc0
    have HROOM := Lib.hid (fun (i : Nat) (h : (i : Int) < k) => cut_room2 hc0 h)
    have HFE := Lib.hid (show ∀ K, fillE l s k f K = numE s k f K from fun K => by unfold fillE; rw [if_pos hc0])
    have HFS := Lib.hid (show ∀ K, numE s k f K = 0 → fillS l s k f K = fillO l.toNat s.toNat f K ∧ fillB l s k f K = fillT l.toNat s.toNat K from fun K h => by unfold fillS fillB; rw [HFE.out K, if_pos h, if_pos h]; exact ⟨rfl, rfl⟩)
    have HFN := Lib.hid (show ∀ K, numE s k f K ≠ 0 → fillS l s k f K = [] ∧ fillB l s k f K = [] from fun K h => by unfold fillS fillB; rw [HFE.out K, if_neg h, if_neg h]; exact ⟨rfl, rfl⟩)
    rw [hc0] at HC
    obtain ⟨l', hl'⟩ : ∃ l' : Nat, l = l' := ⟨l.toNat, by omega⟩
    obtain ⟨s', hs'⟩ : ∃ s' : Nat, s = s' := ⟨s.toNat, by omega⟩
    obtain ⟨k', hk'⟩ : ∃ k' : Nat, k = k' := ⟨k.toNat, by omega⟩
    subst hl'
    subst hs'
    subst hk'
    simp only [Int.toNat_natCast] at HROOM HFS
    have hl48 : l' ≤ 4096 * 65535 := by
      have : (k' : Int) * (s' : Int) ≤ 4096 * 65535 := Int.mul_le_mul p5 p3 (by omega) (by omega)
      omega
    have hmb := make_bytes l' (by omega)
    have hmt := make_bools l' (by omega)
    have hs1 : 0 < s' := by omega
    have hs9 : s' ≤ 65535 := by omega
    have hk9 : k' ≤ 4096 := by omega
    clear hc0 q7
    go_enter Try.func23, Try.ntmps23
    go_wp2_with fail
    obtain ⟨B, hk1, hs⟩ := blocks1 w #[.int .i64 ((l':Int)), .int .i64 ((s':Int)), .int .i64 ((k':Int)), .int .u32 n] 24
    generalize (w.alloc (.cells #[.int .i64 ((l':Int)), .int .i64 ((s':Int)), .int .i64 ((k':Int)), .int .u32 n] 24)) = W at *
    have K1 := Lib.hid hk1
    have HS := Lib.hid hs
    clear hs hk1
    replace HM := Lib.hid (HM.out.go B)
    have hzW := B.size
    refine (HC.out _).mono ?_
    rintro e w1 ⟨rfl, hb⟩
    replace K1 := Lib.hid (K1.out.go hb)
    replace HM := Lib.hid (HM.out.go hb)
    replace B := B.trans (hb.mono B.size)
    have hzw1 := B.size
    clear hb
    go_wp2_with fail
    obtain ⟨nn, hnn, hown⟩ := HM.out.own
    refine (keys_any (some b) w1).mono ?_
    rintro e w2 ⟨rfl, rfl⟩
    have HS2 := Lib.hid (sorted_any b nn ps w1 hown hnn)
    clear hown hnn
    go_wp2_with fail
    refine HS2.out.mono ?_
    rintro e w3 ⟨v, Kl, rfl, hrow, hpw, hmem, hb3⟩
    have hb1 : Below w1.heap.size w1 w3 := ((Below.refl w1.heap.size w1).alloc (Nat.le_refl _) _).trans (hb3.mono (by simp))
    have HKI := Lib.hid (ints_own hrow (fun x hx => HM.out.num x ((hmem x).1 hx)))
    have HKO := Lib.hid (show KeysOf ps Kl from ⟨hpw, hmem⟩)
    replace K1 := Lib.hid (K1.out.go hb1)
    replace HM := Lib.hid (HM.out.go hb1)
    replace B := B.trans (hb1.mono B.size)
    obtain ⟨va, vc, rfl, _⟩ := HKI.out
    clear hrow hpw hmem hb3 hb1 HS2
    obtain ⟨p0, p1, p2, p3⟩ := K1.out.four
    have pl := K1.out.lt
    go_wp2_with fail
    clear p0 p1 p2 p3 pl
    refine (fitnum_any (l' : Int) (s' : Int) (k' : Int) n _ Kl b ps f _ HKI.out HM.out).mono ?_
    rintro e w4 ⟨rfl, hb⟩
    replace K1 := Lib.hid (K1.out.go hb)
    replace HM := Lib.hid (HM.out.go hb)
    replace HKI := Lib.hid (HKI.out.go hb)
    replace B := B.trans (hb.mono B.size)
    have hzw4 := B.size
    clear hb
    by_cases hz : numE (s' : Int) (k' : Int) f Kl = 0
    · have HZ := Lib.hid (numE_zero hz)
      have HF1 := Lib.hid (HFS.out Kl hz)
      have HF2 := Lib.hid (show fillE (l' : Int) (s' : Int) (k' : Int) f Kl = 0 by rw [HFE.out, hz])
      rw [hz]
      clear hz HFS HFN HFE
      obtain ⟨g, hg⟩ : ∃ g : Nat, g = w.heap.size := ⟨_, rfl⟩
      rw [← hg] at K1
      simp only [← hg]
      clear hg HS hzW hzw1 hzw4
      go_wp2_with fail
      have HS4 := Lib.hid (show Since w4 w4 from Below.refl _ _)
      have B4 := Lib.hid B
      refine wp_region_mono (C := Cb w4) (R := Rb) (H := Hz) [TyZ.val 30 (.pointer (some ⟨g, 0, none⟩)), TyZ.val 31 (.int .i64 (l' : Int)), (TyZ.fact 32 (MadeY w4.heap.size l') (MadeY.go w4.heap.size l')), TyZ.val 33 (.pointer (some ⟨g, 0, none⟩)), TyZ.val 34 (.int .i64 (l' : Int)), (TyZ.fact 35 (MadeT w4.heap.size l') (MadeT.go w4.heap.size l')), (TyZ.fact 10 (MadeY w4.heap.size l') (MadeY.go w4.heap.size l')), (TyZ.fact 11 (MadeT w4.heap.size l') (MadeT.go w4.heap.size l'))] (by kernel_rfl) (hC_b w4) (hCH_z w4) (drew_b w4) ⟨trivial, trivial, trivial, trivial, trivial, trivial, trivial, trivial, trivial⟩ (by kernel_rfl) ?_ ?_
      · refine ⟨?_, ?_, ?_, ?_, ?_, ?_, ?_, ?_, trivial⟩
        · intro ac wc hC hsz hfr hd hpr
          have d2 : ac.eval (.tmp 2) = (.pointer (some ⟨g, 0, none⟩)) := hfr 2 rfl
          rw [if_pos (wanted_none rfl)]
          exact ob_field _ rfl rfl rfl (Nat.lt_of_lt_of_eq (by decide : 30 < 64) hsz.symm) rfl d2 (fun w => by go_simp) (Below.refl _ _) rfl
        · intro ac wc hC hsz hfr hd hpr
          have d30 : ac.eval (.tmp 30) = (.pointer (some ⟨g, 0, none⟩)) := hd 0 rfl
          rw [if_pos (wanted_none rfl)]
          exact ob_load _ rfl rfl rfl (Nat.lt_of_lt_of_eq (by decide : 31 < 64) hsz.symm) rfl d30 (load_int ((K1.out.go hC).cell 0)) (Below.refl _ _) rfl
        · intro ac wc hC hsz hfr hd hpr
          have d31 : ac.eval (.tmp 31) = (.int .i64 (l' : Int)) := hd 1 rfl
          rw [if_pos (wanted_none rfl)]
          have hlt : 32 < ac.tmps.size := (Nat.lt_of_lt_of_eq (by decide : 32 < 64) hsz.symm)
          refine ob_value (whole wc.heap.size l') (wc.alloc (bytesObj (List.replicate l' 0))) rfl rfl rfl hlt ?_ ((Below.refl _ _).alloc (Nat.le_refl _) _) ⟨_, rfl, hC.size, Own.new _ _⟩
          have hmk := hmb wc
          simp [execOp, d31, hmk]
        · intro ac wc hC hsz hfr hd hpr
          have d2 : ac.eval (.tmp 2) = (.pointer (some ⟨g, 0, none⟩)) := hfr 2 rfl
          rw [if_pos (wanted_none rfl)]
          exact ob_field _ rfl rfl rfl (Nat.lt_of_lt_of_eq (by decide : 33 < 64) hsz.symm) rfl d2 (fun w => by go_simp) (Below.refl _ _) rfl
        · intro ac wc hC hsz hfr hd hpr
          have d33 : ac.eval (.tmp 33) = (.pointer (some ⟨g, 0, none⟩)) := hd 3 rfl
          rw [if_pos (wanted_none rfl)]
          exact ob_load _ rfl rfl rfl (Nat.lt_of_lt_of_eq (by decide : 34 < 64) hsz.symm) rfl d33 (load_int ((K1.out.go hC).cell 0)) (Below.refl _ _) rfl
        · intro ac wc hC hsz hfr hd hpr
          have d34 : ac.eval (.tmp 34) = (.int .i64 (l' : Int)) := hd 4 rfl
          rw [if_pos (wanted_none rfl)]
          have hlt : 35 < ac.tmps.size := (Nat.lt_of_lt_of_eq (by decide : 35 < 64) hsz.symm)
          refine ob_value (whole wc.heap.size l') (wc.alloc (.cells (bolls (List.replicate l' false)) 4)) rfl rfl rfl hlt ?_ ((Below.refl _ _).alloc (Nat.le_refl _) _) ⟨_, rfl, hC.size, Blk.new _ _ _ _ rfl⟩
          have hmk := hmt wc
          simp [execOp, d34, hmk]
        · intro ac wc hC hsz hfr hd hpr
          have d32 : MadeY w4.heap.size l' (ac.eval (.tmp 32)) wc := hd 2 rfl
          rw [if_pos (wanted_none rfl)]
          have hlt : 10 < ac.tmps.size := (Nat.lt_of_lt_of_eq (by decide : 10 < 64) hsz.symm)
          exact ob_copy rfl rfl rfl hlt (Or.inr rfl) (Below.refl _ _) d32
        · intro ac wc hC hsz hfr hd hpr
          have d35 : MadeT w4.heap.size l' (ac.eval (.tmp 35)) wc := hd 5 rfl
          rw [if_pos (wanted_none rfl)]
          have hlt : 11 < ac.tmps.size := (Nat.lt_of_lt_of_eq (by decide : 11 < 64) hsz.symm)
          exact ob_copy rfl rfl rfl hlt (Or.inr rfl) (Below.refl _ _) d35
      intro a' w5 hC hdef hsz hfr hd
      have e30 : a'.eval (.tmp 30) = (.pointer (some ⟨g, 0, none⟩)) := hd 0 (by decide)
      have e31 : a'.eval (.tmp 31) = (.int .i64 (l' : Int)) := hd 1 (by decide)
      obtain ⟨x32, e32, r32⟩ : ∃ xq_, a'.eval (.tmp 32) = xq_ ∧ MadeY w4.heap.size l' (xq_) w5 := ⟨_, rfl, hd 2 (by decide)⟩
      replace r32 := Lib.hid r32
      have e33 : a'.eval (.tmp 33) = (.pointer (some ⟨g, 0, none⟩)) := hd 3 (by decide)
      have e34 : a'.eval (.tmp 34) = (.int .i64 (l' : Int)) := hd 4 (by decide)
      obtain ⟨x35, e35, r35⟩ : ∃ xq_, a'.eval (.tmp 35) = xq_ ∧ MadeT w4.heap.size l' (xq_) w5 := ⟨_, rfl, hd 5 (by decide)⟩
      replace r35 := Lib.hid r35
      obtain ⟨x10, e10, r10⟩ : ∃ xq_, a'.eval (.tmp 10) = xq_ ∧ MadeY w4.heap.size l' (xq_) w5 := ⟨_, rfl, hd 6 (by decide)⟩
      replace r10 := Lib.hid r10
      obtain ⟨x11, e11, r11⟩ : ∃ xq_, a'.eval (.tmp 11) = xq_ ∧ MadeT w4.heap.size l' (xq_) w5 := ⟨_, rfl, hd 7 (by decide)⟩
      replace r11 := Lib.hid r11
      have hact := act_puts hdef hsz hfr
      simp only [dstsOf, List.filterMap, putAll, Act.put, List.setIfInBounds_toArray, List.set_cons_succ, List.set_cons_zero, e30, e31, e32, e33, e34, e35, e10, e11] at hact
      clear hd hfr hsz hdef e30 e31 e32 e33 e34 e35 e10 e11
      subst hact
      replace HS4 := Lib.hid (HS4.out.go hC)
      replace B := B.trans (hC.mono B.size)
      obtain ⟨g1, rfl, hg1, ho1⟩ := r10.out
      obtain ⟨g2, rfl, hg2, ho2⟩ := r11.out
      have HNE := Lib.hid (show g1 ≠ g2 from BoolO.ne ho2 ho1)
      have HG1 := Lib.hid hg1
      have HG2 := Lib.hid hg2
      have HO1 := Lib.hid ho1
      have HO2 := Lib.hid ho2
      have HLAY := Lib.hid (fun (i' : Nat) (v : Value) (S : List Int) (w : World) (hi : i' < k') (hf : (f (i' : Int)).length = s') (hg : Own w g1 (fillO l' s' f S)) (hx : Bytes w v (f (i' : Int))) => by
        have h := lay_any (l' : Int) (k' : Int) n s' i' g1 v (fillO l' s' f S) (f (i' : Int)) w hs9 (by omega) (by rw [fillO_length]; exact HROOM.out i' (by omega)) hg hx
        rw [fillO_length, fillO_step hs1 hf (by have := HROOM.out i' (by omega); omega), hf] at h
        exact h)
      clear r10 r11 r32 r35 hg1 hg2 ho1 ho2 hmb hmt B
      go_wp2_with fail
      go_loopw [13, 14, 38, 49] (fun _ _ i _ wr => ∃ j : Nat, j ≤ Kl.length ∧ i = .int .i64 j ∧ Since w4 wr ∧ Own wr g1 (fillO l' s' f (Kl.take j)) ∧ BoolO wr g2 (fillT l' s' (Kl.take j))) (fun _ _ i _ _ => Kl.length - (intOf i).toNat)
      case atStart => exact ⟨0, by omega, rfl, HS4.out, by rw [List.take_zero, fillO_nil]; exact HO1.out, by rw [List.take_zero, fillT_nil]; exact HO2.out⟩
      case round =>
        clear HS4 HO1 HO2
        obtain ⟨j, hj, rfl, hS, hO, hT⟩ := hrel
        have HSR := Lib.hid hS
        have HO := Lib.hid hO
        have HT := Lib.hid hT
        have K5 := Lib.hid (K1.out.go hS)
        have HM5 := Lib.hid (HM.out.since hS)
        have HK5 := Lib.hid (HKI.out.go hS)
        clear hS hO hT
        obtain ⟨p0, p1, p2, p3⟩ := K5.out.four
        have pl := K5.out.lt
        by_cases hlt : j < Kl.length
        · obtain ⟨x, hx⟩ : ∃ x, x = nthI Kl j := ⟨_, rfl⟩
          have hrng := HKI.out.range hlt
          obtain ⟨ab, ao, rfl, hcell⟩ : ∃ ab ao, va = some ⟨ab, ao, none⟩ ∧ wr.cell? ⟨ab, ao + j, none⟩ = some (.int .i64 (nthI Kl j)) := by
            obtain ⟨a', c', e, _, _, _, h4⟩ := HK5.out
            obtain ⟨b', off', rfl, _, hc⟩ := h4 (by intro h; rw [h] at hlt; simp at hlt)
            simp only [Value.slice.injEq] at e
            exact ⟨b', off', e.1, hc j hlt⟩
          obtain ⟨hz1, hz2, hz3⟩ := HZ.out (nthI Kl j) (by rw [nthI_eq Kl j hlt]; exact List.getElem_mem hlt)
          have htake : Kl.take (j + 1) = Kl.take j ++ [nthI Kl j] := by rw [nthI_eq Kl j hlt]; exact (List.take_append_getElem hlt).symm
          rw [← hx] at hrng hcell hz1 hz2 hz3 htake
          obtain ⟨i', hi'⟩ : ∃ i' : Nat, x = i' := ⟨x.toNat, by omega⟩
          subst hi'
          have HTK := Lib.hid htake
          have hfl : (f (i' : Int)).length = s' := by omega
          have hik : i' < k' := by omega
          obtain ⟨ra, rc, hlk, hvb⟩ := HM5.out.look hrng
          have HVB := Lib.hid hvb
          have HFL := Lib.hid hfl
          have HIK := Lib.hid hik
          have i0 : (0 : Int) ≤ (j : Int) := Int.natCast_nonneg _
          have i1 : (j : Int) < (Kl.length : Int) := by omega
          clear hx hz1 hz2 hz3 htake hvb hfl hik hrng
          go_wp2_with fail
          clear p0 p1 p2 p3 pl hlk hcell
          refine (HLAY.out i' _ (Kl.take j) _ HIK.out HFL.out HO.out HVB.out).mono ?_
          rintro e w7 ⟨rfl, ho7, hg7⟩
          rw [← HTK.out] at ho7
          obtain ⟨off, hoff⟩ : ∃ off, off = i' * s' := ⟨_, rfl⟩
          obtain ⟨m, hm⟩ : ∃ m, m = min s' (l' - i' * s') := ⟨_, rfl⟩
          have hmul : IntKind.i64.wrap ((i' : Int) * (s' : Int)) = (off : Int) := by
            have e : (i' : Int) * (s' : Int) = (off : Int) := by rw [hoff]; simp
            have h1 := HROOM.out i' (by have := HIK.out; omega)
            have : off ≤ 4096 * 65535 := by omega
            rw [e, IntKind.wrap_i64]; omega
          have HALL := Lib.hid (show tellT l' s' (Kl.take j) off m = fillT l' s' (Kl.take (j + 1)) by
            rw [HTK.out, hoff, hm]
            exact tellT_all hs1 (by have := HROOM.out i' (by have := HIK.out; omega); omega))
          have hm9 : m ≤ 65535 := by omega
          have HOM := Lib.hid (show ∀ t, t < m → off + t < l' by intro t ht; omega)
          have HS7 := Lib.hid (show Since w4 w7 from Below.grown HSR.out hg7 (Below.size HSR.out) (fun b e => by cases e; exact HG1.out))
          have HO7 := Lib.hid ho7
          have HT7 := Lib.hid (show BoolO w7 g2 (tellT l' s' (Kl.take j) off 0) by rw [tellT_zero]; exact Blk.grown HT.out hg7 (fun e => HNE.out (Option.some.inj e).symm))
          rw [← hm]
          clear ho7 hg7 hoff hm HO HT HSR K5 HM5 HK5 HVB
          go_wp2_with fail
          obtain ⟨wo, hwo⟩ : ∃ wo : World, wo = w7 := ⟨_, rfl⟩
          subst hwo
          go_loopw [14, 49] (fun _ t wq => ∃ u : Nat, u ≤ m ∧ t = .int .i64 u ∧ Since w4 wq ∧ Own wq g1 (fillO l' s' f (Kl.take (j + 1))) ∧ BoolO wq g2 (tellT l' s' (Kl.take j) off u)) (fun _ t _ => m - (intOf t).toNat)
          case atStart => exact ⟨0, by omega, rfl, HS7.out, HO7.out, HT7.out⟩
          case round =>
            clear HS7 HO7 HT7
            obtain ⟨u, hu, rfl, hS, hO, hT⟩ := hrel
            have HSQ := Lib.hid hS
            have HOQ := Lib.hid hO
            have HTQ := Lib.hid hT
            have K7 := Lib.hid (K1.out.go hS)
            clear hS hO hT
            by_cases hul : u < m
            · obtain ⟨p0, p1, p2, p3⟩ := K7.out.four
              have pl := K7.out.lt
              have hlo := HOM.out u hul
              obtain ⟨q, hq⟩ : ∃ q, q = off + u := ⟨_, rfl⟩
              have hadd : IntKind.i64.wrap ((off : Int) + (u : Int)) = (q : Int) := by rw [IntKind.wrap_i64]; omega
              have HQL := Lib.hid (show q < l' by omega)
              have HSET := Lib.hid (show (tellT l' s' (Kl.take j) off u).set q true = tellT l' s' (Kl.take j) off (u + 1) by rw [hq]; exact tellT_set hlo)
              have u0 : (0 : Int) ≤ (u : Int) := Int.natCast_nonneg _
              have u1 : (u : Int) < (m : Int) := by omega
              have q0 : (0 : Int) ≤ (q : Int) := Int.natCast_nonneg _
              have q1 : (q : Int) < (l' : Int) := by have := HQL.out; omega
              obtain ⟨z, c9⟩ : ∃ z, wr.cell? ⟨g2, q, none⟩ = some (.bool z) := by
                refine ⟨(tellT l' s' (Kl.take j) off u).getD q false, ?_⟩
                rw [Blk.cell HTQ.out q]
                have h := HQL.out
                unfold bolls
                rw [List.getElem?_toArray, List.getElem?_map, List.getElem?_eq_getElem (by rw [tellT_length]; exact h), List.getD_eq_getElem?_getD, List.getElem?_eq_getElem (by rw [tellT_length]; exact h)]
                rfl
              have f9 := Blk.free HTQ.out q
              clear hq hlo
              go_wp2_with fail
              have hgs : wr.grownBy (wr.setCell ⟨g2, q, none⟩ (.bool true)) (some g2) := grown_setCell wr ⟨g2, q, none⟩ _
              have HT8 := Lib.hid (BoolO.set HTQ.out q true)
              rw [HSET.out] at HT8
              have HO8 := Lib.hid (HOQ.out.grown hgs (fun e => HNE.out (Option.some.inj e)))
              have HS8 := Lib.hid (show Since w4 (wr.setCell ⟨g2, q, none⟩ (.bool true)) from Below.grown HSQ.out hgs (Below.size HSQ.out) (fun b e => by cases e; exact HG2.out))
              clear hgs c9 f9
              go_roundw
              case rel => exact ⟨u + 1, by omega, by go_num, HS8.out, HO8.out, HT8.out⟩
              case measure => simp [intOf]; omega
            · obtain rfl : u = m := by omega
              have HTN := Lib.hid HTQ.out
              rw [HALL.out] at HTN
              go_wp2_with fail
              go_roundw
              case rel => exact ⟨j + 1, by omega, by go_num, HSQ.out, HOQ.out, HTN.out⟩
              case measure => simp [intOf]; omega
        · obtain rfl : j = Kl.length := by omega
          rw [List.take_length] at HO HT
          have HBO := Lib.hid (HO.out.bytes (fillO_lt (fun k => (HM.out.val k).lt) l' s' Kl) (by rw [fillO_length]; omega))
          have HBT := Lib.hid (HT.out.bools (by rw [fillT_length]; omega))
          rw [fillO_length] at HBO
          rw [fillT_length] at HBT
          go_wp2_with fail
          exact bodyPost_ret (v := .tuple #[whole g1 l', whole g2 l', .int .i64 0]) (by simp [results, Try.results23, go_sem]) rfl ⟨Kl, _, _, HKO.out, by rw [HF2.out], by rw [HF1.out.1]; exact HBO.out, by rw [HF1.out.2]; exact HBT.out, B4.out.trans (HSR.out.mono B4.out.size)⟩
    · have HF1 := Lib.hid (HFN.out Kl hz)
      have HF2 := Lib.hid (HFE.out Kl)
      obtain ⟨ne, hne⟩ : ∃ x, x = numE (s' : Int) (k' : Int) f Kl := ⟨_, rfl⟩
      rw [← hne] at hz HF2 ⊢
      have hb : (ne != 0) = true := by rw [bne_iff_ne]; exact hz
      clear hz hne HFS HFN HFE
      go_wp2_with fail
      exact bodyPost_ret (v := .tuple #[.slice none 0 0, .slice none 0 0, .int .i64 ne]) (by simp [results, Try.results23, go_sem]) rfl ⟨Kl, _, _, HKO.out, by rw [HF2.out], by rw [HF1.out.1]; exact Bytes.nil _, by rw [HF1.out.2]; exact Bools.nil _, B⟩
  · obtain ⟨K, hK⟩ := keys_there hM
    have h1 : fillE l s k f K = checkE l s k := by unfold fillE; rw [if_neg hc0]
    have HKO := Lib.hid hK
    have H1 := Lib.hid h1
    have H2 := Lib.hid (show fillS l s k f K = [] by unfold fillS; rw [h1, if_neg hc0])
    have H3 := Lib.hid (show fillB l s k f K = [] by unfold fillB; rw [h1, if_neg hc0])
    obtain ⟨ce, hce⟩ : ∃ x, x = checkE l s k := ⟨_, rfl⟩
    rw [← hce] at HC hc0 H1
    have hb : (ce != 0) = true := by rw [bne_iff_ne]; exact hc0
    clear hce h1 hK hM
    go_enter Try.func23, Try.ntmps23
    go_wp2_with fail
    obtain ⟨B, hk1, hs⟩ := blocks1 w #[.int .i64 (l), .int .i64 (s), .int .i64 (k), .int .u32 n] 24
    generalize (w.alloc (.cells #[.int .i64 (l), .int .i64 (s), .int .i64 (k), .int .u32 n] 24)) = W at *
    have K1 := Lib.hid hk1
    have HS := Lib.hid hs
    clear hs hk1
    replace HM := Lib.hid (HM.out.go B)
    have hzW := B.size
    refine (HC.out _).mono ?_
    rintro e w1 ⟨rfl, hb⟩
    replace K1 := Lib.hid (K1.out.go hb)
    replace HM := Lib.hid (HM.out.go hb)
    replace B := B.trans (hb.mono B.size)
    have hzw1 := B.size
    clear hb
    go_wp2_with fail
    exact bodyPost_ret (v := .tuple #[.slice none 0 0, .slice none 0 0, .int .i64 ce]) (by simp [results, Try.results23, go_sem]) rfl ⟨K, _, _, HKO.out, by rw [H1.out], by rw [H2.out]; exact Bytes.nil _, by rw [H3.out]; exact Bools.nil _, B⟩

end Go.Proofs.Ytfefkchjhooloaa

/-
  The laws of glue (layer 12): GlueBack: what isn't gone through; what the parts answer of an object that was cut.
-/
set_option maxRecDepth 100000
namespace Go.Proofs.Ytfefkchjhooloaa
open Go.RowKit

set_option maxHeartbeats 2000000 in
theorem glueBack_early (v v3 : Value) (o wl : List Nat) (s : Int) (n : Nat) (w : World) (ho : Bytes w v o) (hw : Bytes w v3 wl) (hs0 : -9223372036854775808 ≤ s) (hs9 : s ≤ 9223372036854775807) (hb : 2000 < o.length ∨ (o.length ≤ 2000 ∧ 2000 < s) ∨ (o.length ≤ 2000 ∧ s ≤ 2000 ∧ 100 < wl.length) ∨ (o.length ≤ 2000 ∧ s < 1 ∧ wl.length ≤ 100)) :
    Calls Try.prog 7 #[v, .int .i64 s, .int .u32 (n : Int), v3] w fun e w' => e = .returned (.bool true) ∧ Below w.heap.size w w' := by
  have HO := Lib.hid ho
  have HW := Lib.hid hw
  obtain ⟨a, c, rfl, _⟩ := ho
  obtain ⟨a3, c3, rfl, _⟩ := hw
  rcases hb with hb | ⟨hb, hb2⟩ | ⟨hb, hb2, hb3⟩ | ⟨hb, hb2, hb4⟩
  · have hb1 : (2000 : Int) < (o.length : Int) := by omega
    go_enter Try.func7, Try.ntmps7
    go_wp2_with fail
    have B : Below w.heap.size w w := Below.refl _ _
    refine (awake12_any _).mono ?_
    rintro e w1 ⟨rfl, hb⟩
    replace HO := Lib.hid (HO.out.go hb)
    replace HW := Lib.hid (HW.out.go hb)
    replace B := B.trans (hb.mono B.size)
    have hzw1 := B.size
    clear hb
    go_wp2_with fail
    go_ret
    exact ⟨rfl, B⟩
  · have hb1 : ¬ (2000 : Int) < (o.length : Int) := by omega
    go_enter Try.func7, Try.ntmps7
    go_wp2_with fail
    have B : Below w.heap.size w w := Below.refl _ _
    refine (awake12_any _).mono ?_
    rintro e w1 ⟨rfl, hb⟩
    replace HO := Lib.hid (HO.out.go hb)
    replace HW := Lib.hid (HW.out.go hb)
    replace B := B.trans (hb.mono B.size)
    have hzw1 := B.size
    clear hb
    go_wp2_with fail
    go_ret
    exact ⟨rfl, B⟩
  · have hb1 : ¬ (2000 : Int) < (o.length : Int) := by omega
    have hb4 : ¬ 2000 < s := by omega
    have hb5 : (100 : Int) < (wl.length : Int) := by omega
    go_enter Try.func7, Try.ntmps7
    go_wp2_with fail
    have B : Below w.heap.size w w := Below.refl _ _
    refine (awake12_any _).mono ?_
    rintro e w1 ⟨rfl, hb⟩
    replace HO := Lib.hid (HO.out.go hb)
    replace HW := Lib.hid (HW.out.go hb)
    replace B := B.trans (hb.mono B.size)
    have hzw1 := B.size
    clear hb
    go_wp2_with fail
    go_ret
    exact ⟨rfl, B⟩
  · have hb1 : ¬ (2000 : Int) < (o.length : Int) := by omega
    have hb3 : ¬ 2000 < s := by omega
    have hb5 : ¬ (100 : Int) < (wl.length : Int) := by omega
    have HOF := Lib.hid (fun w => of10_any (o.length : Int) s (n : Int) w (by omega) (by omega) (by omega))
    rw [of_none (by omega) hb2] at HOF
    unfold PlanE okV at HOF
    simp only [if_neg (show ¬ (4 : Int) = 0 by decide)] at HOF
    unfold planV at HOF
    go_enter Try.func7, Try.ntmps7
    go_wp2_with fail
    have B : Below w.heap.size w w := Below.refl _ _
    refine (awake12_any _).mono ?_
    rintro e w1 ⟨rfl, hb⟩
    replace HO := Lib.hid (HO.out.go hb)
    replace HW := Lib.hid (HW.out.go hb)
    replace B := B.trans (hb.mono B.size)
    have hzw1 := B.size
    clear hb
    go_wp2_with fail
    refine (HOF.out _).mono ?_
    rintro e w2 ⟨rfl, hb⟩
    replace B := B.trans (hb.mono B.size)
    have hzw2 := B.size
    clear hb
    go_wp2_with fail
    obtain ⟨hb, hk, hs⟩ := blocks1 w2 #[.int .i64 0, .int .i64 0, .int .i64 0, .int .u32 0] 24
    generalize w2.alloc (.cells #[.int .i64 0, .int .i64 0, .int .i64 0, .int .u32 0] 24) = W3 at *
    have K1 := Lib.hid hk
    replace B := B.trans (hb.mono B.size)
    have hzW3 := B.size
    clear hb hk hs
    go_wp2_with fail
    go_ret
    exact ⟨rfl, B⟩

/-- What is cut is joined, and clean. -/
theorem cut_all {o : List Nat} {s k : Nat} (h : Made11 o s k) : allE (o.length : Int) (s : Int) (k : Int) (cutL o s k) = 0 := by
  obtain ⟨-, -, -, h4⟩ := @all_of (o.length : Int) (s : Int) (k : Int) (cutL o s k)
  exact (h4 h.ok (by rw [cutL_length]) (fun i hi => by rw [cutL_row i hi])).1
theorem cut_back {o : List Nat} {s k : Nat} (h : Made11 o s k) : joinS (o.length : Int) (s : Int) (k : Int) (cutL o s k) = o ∧ cleanB (o.length : Int) (s : Int) (k : Int) (cutL o s k) = true := by
  have h0 := cut_all h
  unfold joinS cleanB
  rw [if_pos h0, if_pos h0, Int.toNat_natCast, cut_join, cut_joined o h.room, List.take_left' rfl, List.drop_left' rfl]
  exact ⟨rfl, zeroB_zeros _⟩

end Go.Proofs.Ytfefkchjhooloaa

/-
  The laws of glue (layer 12): GlueJoins.
-/
set_option maxRecDepth 100000
namespace Go.Proofs.Ytfefkchjhooloaa
open Go.RowKit

theorem same_self (v0 v1 : Value) (x : List Nat) (w : World) (h0 : Bytes w v0 x) (h1 : Bytes w v1 x) :
    Calls Try.prog 13 #[v0, v1] w fun e w' => e = .returned (.bool true) ∧ Below w.heap.size w w' := by
  have h := same_any v0 v1 x x w h0 h1
  rwa [show decide (x = x) = true by simp] at h
end Go.Proofs.Ytfefkchjhooloaa
