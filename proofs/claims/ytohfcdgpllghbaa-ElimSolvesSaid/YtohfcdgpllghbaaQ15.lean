/- Texts of one seat, laid together: RefElimC, RefElimD, LaL. -/
import Derived.Test.YtohfcdgpllghbaaQ14
import Derived.Test.YtohfcdgpllghbaaQ10

/-
  The document's answer for equations (wellspringref08), in the program: 'Rest', 'Put'.
-/
set_option maxRecDepth 100000
namespace Go.Proofs.Ytohfcdgpllghbaa
open Go.RowKit

namespace Ro
theorem rows8_fine {k t : Nat} {L : List Rw} (hD : Dims k t L) : Fine k t (rows8 L) := clrI_fine (all_fine hD) _ (Nat.le_refl _)
theorem rows8_length (L : List Rw) : (rows8 L).length ≤ L.length := by
  unfold rows8
  rw [clrI_length]
  have := all_length_le L L.length (Nat.le_refl _)
  rwa [List.take_length] at this
def rest8 (L : List Rw) (x : Rw) : Rw := rest (rows8 L) x
theorem rest8_dim {k t : Nat} {L : List Rw} {x : Rw} (hD : Dims k t L) (hx : Dim k t x) : Dim k t (rest8 L x) := rest_dim (rows8_fine hD).dims hx
/-- The equations taken then, and what came of it. -/
def put8 (L : List Rw) (x : Rw) : List Rw × Int := if zeroB (rest8 L x).1 = false then (L ++ [x], 0) else if zeroB (rest8 L x).2 = true then (L, 1) else (L, 2)
end Ro

set_option maxHeartbeats 2000000 in
theorem refrest8_any (v u : Value) (L : List Rw) (k t : Nat) (x : Rw) (w : World) (hL : IsRL w v L) (hx : IsRow w u x.1 x.2) (hD : Ro.Dims k t L) (hd : Ro.Dim k t x) (hk : k ≤ 10000000) (ht : t ≤ 10000000) (hlen : L.length ≤ 1000000) :
    Calls Try.prog 37 #[v, u] w (RowsV w (Ro.rest8 L x).1 (Ro.rest8 L x).2) := by
  obtain ⟨v0, d0, rfl, hx0, hx1⟩ := hx
  have HL := Lib.hid hL
  have HP := Lib.hid hx0
  have HQ := Lib.hid hx1
  have HD := Lib.hid hD
  have HX := Lib.hid hd
  obtain ⟨a0, c0, rfl, _⟩ := hx0
  obtain ⟨a1, c1, rfl, _⟩ := hx1
  obtain ⟨al, cl, rfl⟩ := hL.shape
  obtain ⟨E, hE⟩ : ∃ E, E = Ro.rows8 L := ⟨_, rfl⟩
  have HEQ := Lib.hid hE
  have HF := Lib.hid (show Ro.Fine k t E by rw [hE]; exact Ro.rows8_fine hD)
  have HR8 := Lib.hid (show Ro.rest8 L x = Ro.rest E x by unfold Ro.rest8; rw [hE])
  have hEl : E.length ≤ 1000000 := by rw [hE]; exact Nat.le_trans (Ro.rows8_length L) hlen
  rw [HR8.out]
  clear hL hD hd hE
  go_enter Try.func37, Try.ntmps37
  go_wp2_with fail
  obtain ⟨B, hk1, hk2, hs⟩ := blocks2 w #[.slice a0 x.1.length c0, .slice a1 x.2.length c1] 68 #[.slice none 0 0, .slice none 0 0] 68
  generalize ((w.alloc (.cells #[.slice a0 x.1.length c0, .slice a1 x.2.length c1] 68)).alloc (.cells #[.slice none 0 0, .slice none 0 0] 68)) = W at *
  have K1 := Lib.hid hk1
  have K2 := Lib.hid hk2
  have HS := Lib.hid hs
  clear hs hk1 hk2
  replace HP := Lib.hid (HP.out.go B)
  replace HQ := Lib.hid (HQ.out.go B)
  replace HL := Lib.hid (HL.out.go B)
  have hzW := B.size
  have HW := Lib.hid (show w.heap.size + 1 < W.heap.size from K2.out.lt)
  go_wp2_with fail
  refine (refrows8_any _ L k t _ HL.out HD.out hk ht hlen).mono ?_
  rintro e w2 ⟨v2, rfl, hO2, hb⟩
  replace K1 := Lib.hid (K1.out.go hb)
  replace K2 := Lib.hid (K2.out.go hb)
  replace HP := Lib.hid (HP.out.go hb)
  replace HQ := Lib.hid (HQ.out.go hb)
  replace B := B.trans (hb.mono B.size)
  have hzw2 := B.size
  clear hb
  rw [← HEQ.out] at hO2
  have HO := Lib.hid hO2.1
  obtain ⟨va, vc, rfl⟩ := hO2.1.shape
  clear hO2
  go_wp2_with fail
  go_loopw [6, 7, 8, 12] (fun _ _ _ i wr => ∃ n : Nat, n ≤ E.length ∧ i = .int .i64 n ∧ Below w.heap.size w wr ∧ ERow wr w.heap.size 68 (Ro.rest (E.take n) x).1 (Ro.rest (E.take n) x).2 ∧ Blk wr (w.heap.size + 1) #[.slice none 0 0, .slice none 0 0] 68 ∧ OwnL wr W.heap.size 68 (.slice va E.length vc) E) (fun _ _ _ i _ => E.length - (intOf i).toNat)
  case atStart => exact ⟨0, by omega, rfl, B, ⟨a0, c0, a1, c1, K1.out, _, _, rfl, HP.out, HQ.out⟩, K2.out, HO.out⟩
  case round =>
    obtain ⟨i, hi, rfl, B, hER, hK2, hOr⟩ := hrel
    by_cases hlt : i < E.length
    · obtain ⟨g, c', er, hBg, hgl⟩ := hOr.addr (by omega)
      simp only [Value.slice.injEq, true_and] at er
      obtain ⟨rfl, rfl⟩ := er
      obtain ⟨pa, pc, qa, qc, hc0, hc1, hb1, hb2⟩ := hOr.cells i hlt
      have HOr := Lib.hid hOr
      have HK2 := Lib.hid hK2
      have HER := Lib.hid hER
      have HB1 := Lib.hid hb1
      have HB2 := Lib.hid hb2
      have HNE := Lib.hid (show wr.heap.size ≠ w.heap.size by have := HK2.out.lt; omega)
      have HGN := Lib.hid (show g ≠ w.heap.size by have := HW.out; omega)
      clear hOr hK2 hER hb1 hb2
      have HLD := Lib.hid (HF.out.leads.at hlt)
      have HDI := Lib.hid (HF.out.dims.at hlt)
      obtain ⟨y, hy⟩ : ∃ y, y = Ro.rest (E.take i) x := ⟨_, rfl⟩
      have HY := Lib.hid hy
      rw [← hy] at HER
      have HYD := Lib.hid (show Ro.Dim k t y by rw [hy]; exact Ro.rest_dim (HF.out.dims.take i) HX.out)
      clear hy
      go_wp2_with fail
      obtain ⟨hb, hk, hs⟩ := blocks1 wr #[.slice pa (rwAt E i).1.length pc, .slice qa (rwAt E i).2.length qc] 68
      generalize wr.alloc (.cells #[.slice pa (rwAt E i).1.length pc, .slice qa (rwAt E i).2.length qc] 68) = W5 at *
      have K3 := Lib.hid hk
      replace HOr := Lib.hid (HOr.out.go hb)
      replace HK2 := Lib.hid (HK2.out.go hb)
      replace HER := Lib.hid (HER.out.go hb)
      replace HB1 := Lib.hid (HB1.out.go hb)
      replace HB2 := Lib.hid (HB2.out.go hb)
      replace B := B.trans (hb.mono B.size)
      have hzW5 := B.size
      clear hb hk hs
      obtain ⟨ya, yc, za, zc, hk3, hr⟩ := HER.out
      obtain ⟨_, _, er, hyb, hzb⟩ := hr
      simp only [Value.agg.injEq, Array.mk.injEq, List.cons.injEq, and_true] at er
      obtain ⟨rfl, rfl⟩ := er
      have HK := Lib.hid hk3
      have HYB := Lib.hid hyb
      have HZB := Lib.hid hzb
      have hlt2 : lead (rwAt E i).1 < y.1.length := by rw [HYD.out.1, ← HDI.out.1]; exact HLD.out
      obtain ⟨yb, yo, rfl, hcc⟩ := hyb.at (lead (rwAt E i).1) hlt2
      have HCL := Lib.hid hcc
      have HCC := Lib.hid (show nth y.1 (lead (rwAt E i).1) < 256 from nth_lt HYD.out.2.2.1 _)
      clear hk3 hyb hzb hcc
      go_wp2_with fail
      refine wp_region_mono (C := Cb W5) (R := Rb) (H := fun _ => Hb W5) [Ty.val 17 (.agg #[.slice (some ⟨yb, yo, none⟩) y.1.length yc, .slice za y.2.length zc]), Ty.val 18 (.pointer (some ⟨w.heap.size, 0, none⟩)), Ty.val 19 (.slice (some ⟨yb, yo, none⟩) y.1.length yc), Ty.val 20 (.pointer (some ⟨wr.heap.size, 0, none⟩)), Ty.val 21 (.slice pa (rwAt E i).1.length pc), Ty.val 22 (.int .i64 (lead (rwAt E i).1 : Int)), Ty.val 23 (.pointer (some ⟨yb, yo + lead (rwAt E i).1, none⟩)), Ty.val 24 (U8 (nth y.1 (lead (rwAt E i).1))), Ty.val 25 (.agg #[.slice pa (rwAt E i).1.length pc, .slice qa (rwAt E i).2.length qc]), Ty.rowE 26 (Ro.step y (rwAt E i)).1 (Ro.step y (rwAt E i)).2 0, Ty.rowE 16 (Ro.step y (rwAt E i)).1 (Ro.step y (rwAt E i)).2 0, Ty.row 27 (Ro.step y (rwAt E i)).1 (Ro.step y (rwAt E i)).2, Ty.val 28 (.int .i64 0), Ty.box 7 2 68, Ty.rowIn 7 (Ro.step y (rwAt E i)).1 (Ro.step y (rwAt E i)).2 68, Ty.val 8 (.int .i64 0)] (by kernel_rfl) (hC_b W5) (hCH_b W5) (drew_b W5) ⟨trivial, trivial, trivial, trivial, trivial, trivial, trivial, trivial, trivial, trivial, trivial, trivial, trivial, trivial, trivial, trivial, trivial⟩ (by kernel_rfl) ?_ ?_
      · refine ⟨?_, ?_, ?_, ?_, ?_, ?_, ?_, ?_, ?_, ?_, ?_, ?_, ?_, ?_, ?_, ?_, trivial⟩
        · intro ac wc hC hsz hfr hd hpr
          have d3 : ac.eval (.tmp 3) = (.pointer (some ⟨w.heap.size, 0, none⟩)) := hfr 3 rfl
          rw [if_pos (wanted_none rfl)]
          exact ob_load _ rfl rfl rfl (Nat.lt_of_lt_of_eq (by decide : 17 < 32) hsz.symm) rfl d3 (load_refrow (HK.out.go hC)) (Below.refl _ _) rfl
        · intro ac wc hC hsz hfr hd hpr
          have d3 : ac.eval (.tmp 3) = (.pointer (some ⟨w.heap.size, 0, none⟩)) := hfr 3 rfl
          rw [if_pos (wanted_none rfl)]
          exact ob_field _ rfl rfl rfl (Nat.lt_of_lt_of_eq (by decide : 18 < 32) hsz.symm) rfl d3 (fun w => by go_simp) (Below.refl _ _) rfl
        · intro ac wc hC hsz hfr hd hpr
          have d18 : ac.eval (.tmp 18) = (.pointer (some ⟨w.heap.size, 0, none⟩)) := hd 1 rfl
          rw [if_pos (wanted_none rfl)]
          exact ob_load _ rfl rfl rfl (Nat.lt_of_lt_of_eq (by decide : 19 < 32) hsz.symm) rfl d18 (load_blk0 (HK.out.go hC)) (Below.refl _ _) rfl
        · intro ac wc hC hsz hfr hd hpr
          have d6 : ac.eval (.tmp 6) = (.pointer (some ⟨wr.heap.size, 0, none⟩)) := hfr 6 rfl
          rw [if_pos (wanted_none rfl)]
          exact ob_field _ rfl rfl rfl (Nat.lt_of_lt_of_eq (by decide : 20 < 32) hsz.symm) rfl d6 (fun w => by go_simp) (Below.refl _ _) rfl
        · intro ac wc hC hsz hfr hd hpr
          have d20 : ac.eval (.tmp 20) = (.pointer (some ⟨wr.heap.size, 0, none⟩)) := hd 3 rfl
          rw [if_pos (wanted_none rfl)]
          exact ob_load _ rfl rfl rfl (Nat.lt_of_lt_of_eq (by decide : 21 < 32) hsz.symm) rfl d20 (load_blk0 (K3.out.go hC)) (Below.refl _ _) rfl
        · intro ac wc hC hsz hfr hd hpr
          have d21 : ac.eval (.tmp 21) = (.slice pa (rwAt E i).1.length pc) := hd 4 rfl
          rw [if_pos (wanted_none rfl)]
          refine ob_call rfl rfl rfl (Nat.lt_of_lt_of_eq (by decide : 22 < 32) hsz.symm) rfl (enter_of Try.func71 (by kernel_rfl) rfl) ?_
          show Calls Try.prog 71 #[ac.eval (.tmp 21)] wc _
          rw [d21]
          exact (reflead_lt _ (rwAt E i).1 wc (HB1.out.go hC) HLD.out).mono fun _ _ ⟨he, hw⟩ => ⟨_, he, rfl, hw ▸ Below.refl _ _⟩
        · intro ac wc hC hsz hfr hd hpr
          have d19 : ac.eval (.tmp 19) = (.slice (some ⟨yb, yo, none⟩) y.1.length yc) := hd 2 rfl
          have d22 : ac.eval (.tmp 22) = (.int .i64 (lead (rwAt E i).1 : Int)) := hd 5 rfl
          rw [if_pos (wanted_none rfl)]
          exact ob_index _ rfl rfl rfl (Nat.lt_of_lt_of_eq (by decide : 23 < 32) hsz.symm) rfl d19 d22 (index_bytes _ hlt2) (Below.refl _ _) rfl
        · intro ac wc hC hsz hfr hd hpr
          have d23 : ac.eval (.tmp 23) = (.pointer (some ⟨yb, yo + lead (rwAt E i).1, none⟩)) := hd 6 rfl
          rw [if_pos (wanted_none rfl)]
          exact ob_load _ rfl rfl rfl (Nat.lt_of_lt_of_eq (by decide : 24 < 32) hsz.symm) rfl d23 (load_u8 (cell_keep HCL.out hC)) (Below.refl _ _) rfl
        · intro ac wc hC hsz hfr hd hpr
          have d6 : ac.eval (.tmp 6) = (.pointer (some ⟨wr.heap.size, 0, none⟩)) := hfr 6 rfl
          rw [if_pos (wanted_none rfl)]
          exact ob_load _ rfl rfl rfl (Nat.lt_of_lt_of_eq (by decide : 25 < 32) hsz.symm) rfl d6 (load_refrow (K3.out.go hC)) (Below.refl _ _) rfl
        · intro ac wc hC hsz hfr hd hpr
          have d17 : ac.eval (.tmp 17) = (.agg #[.slice (some ⟨yb, yo, none⟩) y.1.length yc, .slice za y.2.length zc]) := hd 0 rfl
          have d24 : ac.eval (.tmp 24) = (U8 (nth y.1 (lead (rwAt E i).1))) := hd 7 rfl
          have d25 : ac.eval (.tmp 25) = (.agg #[.slice pa (rwAt E i).1.length pc, .slice qa (rwAt E i).2.length qc]) := hd 8 rfl
          rw [if_pos (wanted_none rfl)]
          refine ob_call rfl rfl rfl (Nat.lt_of_lt_of_eq (by decide : 26 < 32) hsz.symm) rfl (enter_of Try.func70 (by kernel_rfl) rfl) ?_
          show Calls Try.prog 70 #[ac.eval (.tmp 17), ac.eval (.tmp 24), ac.eval (.tmp 25)] wc _
          rw [d17, d24, d25]
          exact (refless_step y (rwAt E i) _ _ wc HYD.out HDI.out hk ht HCC.out ⟨_, _, rfl, HYB.out.go hC, HZB.out.go hC⟩ ⟨_, _, rfl, HB1.out.go hC, HB2.out.go hC⟩).mono fun _ _ ⟨u, he, hu, hb⟩ => ⟨_, he, ⟨u, rfl, hu⟩, hb⟩
        · intro ac wc hC hsz hfr hd hpr
          have d26 : ∃ u, ac.eval (.tmp 26) = .tuple #[u, .int .i64 0] ∧ IsRow wc (u) (Ro.step y (rwAt E i)).1 (Ro.step y (rwAt E i)).2 := hd 9 rfl
          rw [if_pos (wanted_none rfl)]
          exact ob_copy rfl rfl rfl (Nat.lt_of_lt_of_eq (by decide : 16 < 32) hsz.symm) (Or.inl rfl) (Below.refl _ _) d26
        · intro ac wc hC hsz hfr hd hpr
          have d16 : ∃ u, ac.eval (.tmp 16) = .tuple #[u, .int .i64 0] ∧ IsRow wc (u) (Ro.step y (rwAt E i)).1 (Ro.step y (rwAt E i)).2 := hd 10 rfl
          rw [if_pos (wanted_none rfl)]
          obtain ⟨u, eu, hu⟩ := d16
          exact ob_extract _ rfl rfl rfl (Nat.lt_of_lt_of_eq (by decide : 27 < 32) hsz.symm) rfl eu (extract0 _ _) (Below.refl _ _) hu
        · intro ac wc hC hsz hfr hd hpr
          have d16 : ∃ u, ac.eval (.tmp 16) = .tuple #[u, .int .i64 0] ∧ IsRow wc (u) (Ro.step y (rwAt E i)).1 (Ro.step y (rwAt E i)).2 := hd 10 rfl
          rw [if_pos (wanted_none rfl)]
          obtain ⟨u, eu, hu⟩ := d16
          exact ob_extract _ rfl rfl rfl (Nat.lt_of_lt_of_eq (by decide : 28 < 32) hsz.symm) rfl eu (extract1 _ _) (Below.refl _ _) rfl
        · intro ac wc hC hsz hfr hd hpr
          rw [if_pos (wanted_none rfl)]
          refine ob_value (.pointer (some ⟨wc.heap.size, 0, none⟩)) (wc.alloc (.cells #[.slice none 0 0, .slice none 0 0] 68)) rfl rfl rfl (Nat.lt_of_lt_of_eq (by decide : 7 < 32) hsz.symm) ?_ ((Below.refl _ _).alloc (Nat.le_refl _) _) ⟨_, _, rfl, hC.size, Blk.new _ _ _ _ rfl, rfl, noU8_two _ _ (slice_ne _ _ _) (slice_ne _ _ _)⟩
          go_simp
        · intro ac wc hC hsz hfr hd hpr
          have d7 : IsBox W5 wc (ac.eval (.tmp 7)) 2 68 := hd 13 rfl
          have d27 : IsRow wc (ac.eval (.tmp 27)) (Ro.step y (rwAt E i)).1 (Ro.step y (rwAt E i)).2 := hd 11 rfl
          rw [if_pos (wanted_none rfl)]
          show Done _ (Ty.rowIn 7 (Ro.step y (rwAt E i)).1 (Ro.step y (rwAt E i)).2 68) _ _ _ _
          exact ob_store_refrow rfl rfl d7 d27
        · intro ac wc hC hsz hfr hd hpr
          have d28 : ac.eval (.tmp 28) = (.int .i64 0) := hd 12 rfl
          rw [if_pos (wanted_none rfl)]
          exact ob_copy rfl rfl rfl (Nat.lt_of_lt_of_eq (by decide : 8 < 32) hsz.symm) (Or.inr rfl) (Below.refl _ _) d28
      intro a' W6 hC hdef hsz hfr hd
      have e17 : a'.eval (.tmp 17) = (.agg #[.slice (some ⟨yb, yo, none⟩) y.1.length yc, .slice za y.2.length zc]) := hd 0 (by decide)
      have e18 : a'.eval (.tmp 18) = (.pointer (some ⟨w.heap.size, 0, none⟩)) := hd 1 (by decide)
      have e19 : a'.eval (.tmp 19) = (.slice (some ⟨yb, yo, none⟩) y.1.length yc) := hd 2 (by decide)
      have e20 : a'.eval (.tmp 20) = (.pointer (some ⟨wr.heap.size, 0, none⟩)) := hd 3 (by decide)
      have e21 : a'.eval (.tmp 21) = (.slice pa (rwAt E i).1.length pc) := hd 4 (by decide)
      have e22 : a'.eval (.tmp 22) = (.int .i64 (lead (rwAt E i).1 : Int)) := hd 5 (by decide)
      have e23 : a'.eval (.tmp 23) = (.pointer (some ⟨yb, yo + lead (rwAt E i).1, none⟩)) := hd 6 (by decide)
      have e24 : a'.eval (.tmp 24) = (U8 (nth y.1 (lead (rwAt E i).1))) := hd 7 (by decide)
      have e25 : a'.eval (.tmp 25) = (.agg #[.slice pa (rwAt E i).1.length pc, .slice qa (rwAt E i).2.length qc]) := hd 8 (by decide)
      obtain ⟨x26, e26, r26⟩ : ∃ u, a'.eval (.tmp 26) = .tuple #[u, .int .i64 0] ∧ IsRow W6 (u) (Ro.step y (rwAt E i)).1 (Ro.step y (rwAt E i)).2 := hd 9 (by decide)
      replace r26 := Lib.hid r26
      obtain ⟨x16, e16, r16⟩ : ∃ u, a'.eval (.tmp 16) = .tuple #[u, .int .i64 0] ∧ IsRow W6 (u) (Ro.step y (rwAt E i)).1 (Ro.step y (rwAt E i)).2 := hd 10 (by decide)
      replace r16 := Lib.hid r16
      obtain ⟨x27, e27, r27⟩ : ∃ xq_, a'.eval (.tmp 27) = xq_ ∧ IsRow W6 (xq_) (Ro.step y (rwAt E i)).1 (Ro.step y (rwAt E i)).2 := ⟨_, rfl, hd 11 (by decide)⟩
      replace r27 := Lib.hid r27
      have e28 : a'.eval (.tmp 28) = (.int .i64 0) := hd 12 (by decide)
      obtain ⟨g7, x7, y7, z7, u7, e7, hg7, kb7, r7⟩ : RowIn W5 W6 (a'.eval (.tmp 7)) (Ro.step y (rwAt E i)).1 (Ro.step y (rwAt E i)).2 68 := hd 14 (by decide)
      replace r7 := Lib.hid r7
      replace kb7 := Lib.hid kb7
      have e8 : a'.eval (.tmp 8) = (.int .i64 0) := hd 15 (by decide)
      have hact := act_puts hdef hsz hfr
      simp only [dstsOf, List.filterMap, putAll, Act.put, List.setIfInBounds_toArray, List.set_cons_succ, List.set_cons_zero, e17, e18, e19, e20, e21, e22, e23, e24, e25, e26, e16, e27, e28, e7, e8] at hact
      clear hd hfr hsz hdef e17 e18 e19 e20 e21 e22 e23 e24 e25 e26 e16 e27 e28 e7 e8
      subst hact
      replace HOr := Lib.hid (HOr.out.go hC)
      replace HK2 := Lib.hid (HK2.out.go hC)
      replace HER := Lib.hid (HER.out.go hC)
      replace HK := Lib.hid (HK.out.go hC)
      replace HYB := Lib.hid (HYB.out.go hC)
      replace HZB := Lib.hid (HZB.out.go hC)
      replace B := B.trans (hC.mono B.size)
      clear hC
      have hsz5 := B.size
      obtain ⟨kb70, kb71⟩ := kb7.out.two
      have kb7l := kb7.out.lt
      obtain ⟨hk0, hk1⟩ := HK.out.two
      have hkl := HK.out.lt
      obtain ⟨hkf0, hkf1⟩ := HK.out.fre2
      go_wp2_with fail
      obtain ⟨g9, s9, h9⟩ := store_row (x' := .slice x7 (Ro.step y (rwAt E i)).1.length y7) (y' := .slice z7 (Ro.step y (rwAt E i)).2.length u7) HK.out (noU8_two _ _ (slice_ne _ _ _) (slice_ne _ _ _)) r7.out (fun _ _ _ _ e => by
        simp only [Value.agg.injEq, Array.mk.injEq, List.cons.injEq, and_true] at e
        exact ⟨_, _, rfl, rfl, e.1, e.2⟩)
      have HBN := Lib.hid (below_grown B g9 B.size (Nat.le_refl _))
      have HKN := Lib.hid (HK2.out.grown g9 (by simp))
      have HON := Lib.hid (HOr.out.other g9 s9 (by simpa [Value.ownBlock] using HGN.out))
      have HEN := Lib.hid h9
      have HST := Lib.hid (show Ro.rest (E.take (i + 1)) x = Ro.step y (rwAt E i) by rw [Ro.rest_take_succ E x i hlt, ← HY.out])
      go_roundw
      case rel => exact ⟨i + 1, by omega, by go_num, HBN.out, by rw [HST.out]; exact HEN.out, HKN.out, HON.out⟩
      case measure => simp [intOf]; omega
    · obtain rfl : i = E.length := by omega
      rw [List.take_length] at hER
      obtain ⟨ya, yc, za, zc, hk3, hr⟩ := hER
      have HR := Lib.hid hr
      have HK2 := Lib.hid hK2
      have HK3 := Lib.hid hk3
      clear hOr hr hK2 hk3
      obtain ⟨hk30, hk31⟩ := HK3.out.two
      have hk3l := HK3.out.lt
      obtain ⟨hk20, hk21⟩ := HK2.out.two
      have hk2l := HK2.out.lt
      obtain ⟨hk2f0, hk2f1⟩ := HK2.out.fre2
      go_wp2_with fail
      obtain ⟨e0, e1, hB, hS⟩ := store2 HK2.out (Nat.le_succ _) B (slice_ne _ _ _) (slice_ne _ _ _) (.slice ya (Ro.rest E x).1.length yc) (.slice za (Ro.rest E x).2.length zc)
      obtain ⟨_, _, er, hyb, hzb⟩ := HR.out
      simp only [Value.agg.injEq, Array.mk.injEq, List.cons.injEq, and_true] at er
      obtain ⟨rfl, rfl⟩ := er
      exact bodyPost_ret (v := .agg #[.slice ya (Ro.rest E x).1.length yc, .slice za (Ro.rest E x).2.length zc]) (by simp [results, Try.results37, go_sem, e0, e1]) rfl
        ⟨_, rfl, ⟨_, _, rfl, hS _ _ hyb, hS _ _ hzb⟩, hB⟩

/-- What Put answers: a list, and what came of it. -/
def PutV (w : World) (v0 : Value) (L : List Rw) (r : List Rw × Int) (e : Ending) (w' : World) : Prop := ∃ v, e = .returned (.tuple #[v, I64 r.2]) ∧ IsRL w' v r.1 ∧ ((v = v0 ∧ r.1 = L) ∨ OwnL w' w.heap.size 68 v r.1) ∧ Below w.heap.size w w'

set_option maxHeartbeats 2000000 in
theorem refput8_any (v u : Value) (L : List Rw) (k t : Nat) (x : Rw) (w : World) (hL : IsRL w v L) (hx : IsRow w u x.1 x.2) (hD : Ro.Dims k t L) (hd : Ro.Dim k t x) (hk : k ≤ 10000000) (ht : t ≤ 10000000) (hlen : L.length ≤ 1000000) :
    Calls Try.prog 39 #[v, u] w (PutV w v L (Ro.put8 L x)) := by
  obtain ⟨v0, d0, rfl, hx0, hx1⟩ := hx
  have HL := Lib.hid hL
  have HP := Lib.hid hx0
  have HQ := Lib.hid hx1
  have HD := Lib.hid hD
  have HX := Lib.hid hd
  obtain ⟨a0, c0, rfl, _⟩ := hx0
  obtain ⟨a1, c1, rfl, _⟩ := hx1
  obtain ⟨al, cl, rfl⟩ := hL.shape
  obtain ⟨y, hy⟩ : ∃ y, y = Ro.rest8 L x := ⟨_, rfl⟩
  have HY := Lib.hid hy
  have HPUT := Lib.hid (show Ro.put8 L x = if zeroB y.1 = false then (L ++ [x], 0) else if zeroB y.2 = true then (L, 1) else (L, 2) by rw [hy]; rfl)
  clear hL hD hd hy
  go_enter Try.func39, Try.ntmps39
  go_wp2_with fail
  obtain ⟨B, hk1, hs⟩ := blocks1 w #[.slice a0 x.1.length c0, .slice a1 x.2.length c1] 68
  generalize (w.alloc (.cells #[.slice a0 x.1.length c0, .slice a1 x.2.length c1] 68)) = W at *
  have K1 := Lib.hid hk1
  have HS := Lib.hid hs
  clear hs hk1
  replace HP := Lib.hid (HP.out.go B)
  replace HQ := Lib.hid (HQ.out.go B)
  replace HL := Lib.hid (HL.out.go B)
  have hzW := B.size
  obtain ⟨k10, k11⟩ := K1.out.two
  have k1l := K1.out.lt
  go_wp2_with fail
  refine (refrest8_any _ _ L k t x _ HL.out ⟨_, _, rfl, HP.out, HQ.out⟩ HD.out HX.out hk ht hlen).mono ?_
  rintro e w1 ⟨u1, rfl, hu1, hb⟩
  replace HL := Lib.hid (HL.out.go hb)
  replace K1 := Lib.hid (K1.out.go hb)
  replace HP := Lib.hid (HP.out.go hb)
  replace HQ := Lib.hid (HQ.out.go hb)
  replace B := B.trans (hb.mono B.size)
  have hzw1 := B.size
  clear hb
  replace hu1 : IsRow w1 u1 y.1 y.2 := by rw [HY.out]; exact hu1
  obtain ⟨ya, yc, za, zc, rfl⟩ := hu1.shape
  obtain ⟨_, _, er, hyb, hzb⟩ := hu1
  simp only [Value.agg.injEq, Array.mk.injEq, List.cons.injEq, and_true] at er
  obtain ⟨rfl, rfl⟩ := er
  have HYB := Lib.hid hyb
  have HZB := Lib.hid hzb
  clear hyb hzb
  go_wp2_with fail
  obtain ⟨hb, hk, hs⟩ := blocks1 w1 #[.slice ya y.1.length yc, .slice za y.2.length zc] 68
  generalize w1.alloc (.cells #[.slice ya y.1.length yc, .slice za y.2.length zc] 68) = W5 at *
  have K3 := Lib.hid hk
  replace HYB := Lib.hid (HYB.out.go hb)
  replace HZB := Lib.hid (HZB.out.go hb)
  replace HL := Lib.hid (HL.out.go hb)
  replace K1 := Lib.hid (K1.out.go hb)
  replace HP := Lib.hid (HP.out.go hb)
  replace HQ := Lib.hid (HQ.out.go hb)
  replace B := B.trans (hb.mono B.size)
  have hzW5 := B.size
  clear hb hk hs
  obtain ⟨k30, k31⟩ := K3.out.two
  have k3l := K3.out.lt
  go_wp2_with fail
  refine (refzero_any _ y.1 _ HYB.out).mono ?_
  rintro e w' ⟨rfl, rfl⟩
  cases hz1 : zeroB y.1 with
  | false =>
    have HPT := Lib.hid (show Ro.put8 L x = (L ++ [x], 0) by rw [HPUT.out, if_pos hz1])
    have HZ := Lib.hid hz1
    clear hz1
    go_wp2_with (at_builtin; refine wpList_append_rows rfl (.tmp 15) (.tmp 16) rfl W5.heap.size _ _ [] L rfl rfl (OwnL.nil _ _ _) HL.out (Nat.le_refl _) ?c1 ?_)
    case c1 => simp; omega
    intro v5 w5 ho5 hg5 hs5
    have HO5 := Lib.hid (show OwnL w5 W5.heap.size 68 v5 L by simpa using ho5)
    have HB5 := Lib.hid (show Below W5.heap.size W5 w5 from (Below.refl _ _).grown hg5 (Nat.le_refl _) (fun k e => by cases e))
    clear ho5 hg5 hs5
    have K5 := Lib.hid (K1.out.go HB5.out)
    obtain ⟨k50, k51⟩ := K5.out.two
    have k5l := K5.out.lt
    go_wp2_with (at_builtin; refine wpList_append_rows rfl (.tmp 18) (.tmp 20) rfl W5.heap.size _ _ L [x] rfl rfl (HO5.out.go ((Below.refl _ _).alloc (Nat.le_refl _) _)) (IsRL.one w5.heap.size rfl (HP.out.go HB5.out) (HQ.out.go HB5.out)) ?c3 ?c4 ?_)
    case c3 => have := HB5.out.size; simp; omega
    case c4 => simp; omega
    intro v6 w6 ho6 hg6 hs6
    have HO6 := Lib.hid ho6
    have HB6 := Lib.hid (show Below W5.heap.size W5 w6 from (HB5.out.alloc HB5.out.size _).grown hg6 (by have := HB5.out.size; simp; omega) HO5.out.from)
    clear ho6 hg6 hs6
    go_wp2_with fail
    go_ret2
    rw [HPT.out]
    exact ⟨_, rfl, HO6.out.list, .inr (HO6.out.mono B.size), B.trans (HB6.out.mono B.size)⟩
  | true =>
    obtain ⟨k30, k31⟩ := K3.out.two
    have k3l := K3.out.lt
    go_wp2_with fail
    refine (refzero_any _ y.2 _ HZB.out).mono ?_
    rintro e w' ⟨rfl, rfl⟩
    cases hz2 : zeroB y.2 with
    | true =>
      have HPT := Lib.hid (show Ro.put8 L x = (L, 1) by rw [HPUT.out, if_neg (by rw [hz1]; decide), if_pos hz2])
      clear hz1 hz2
      go_wp2_with fail
      go_ret2
      rw [HPT.out]
      exact ⟨_, rfl, HL.out, .inl ⟨rfl, rfl⟩, B⟩
    | false =>
      have HPT := Lib.hid (show Ro.put8 L x = (L, 2) by rw [HPUT.out, if_neg (by rw [hz1]; decide), if_neg (by rw [hz2]; decide)])
      clear hz1 hz2
      go_wp2_with fail
      go_ret2
      rw [HPT.out]
      exact ⟨_, rfl, HL.out, .inl ⟨rfl, rfl⟩, B⟩

end Go.Proofs.Ytohfcdgpllghbaa

/-
  The document's answer for equations (wellspringref08), in the program: 'Known'.
-/
set_option maxRecDepth 100000
namespace Go.Proofs.Ytohfcdgpllghbaa
open Go.RowKit

namespace Ro
/-- How many bytes aren't 0. -/
def nz (l : List Nat) : Nat := l.countP fun x => x != 0
theorem nz_take (l : List Nat) (k : Nat) (h : k < l.length) : nz (l.take (k + 1)) = nz (l.take k) + if nth l k = 0 then 0 else 1 := by
  unfold nz
  rw [take_nth l k h, List.countP_append]
  by_cases e : nth l k = 0
  · simp [e]
  · simp [e]
theorem nz_le (l : List Nat) : nz l ≤ l.length := List.countP_le_length
/-- Does the row tell this symbol? -/
def tells (i : Int) (r : Rw) : Bool := nz r.1 == 1 && leadI r.1 == i
def knownR (E : List Rw) (i : Int) : Option Rw := E.find? (tells i)
def knownV (E : List Rw) (i : Int) : List Nat := match knownR E i with
  | some r => r.2
  | none => []
def knownB (E : List Rw) (i : Int) : Bool := (knownR E i).isSome
theorem known_some {E : List Rw} {i : Int} {n : Nat} (hn : n < E.length) (h0 : ∀ j, j < n → tells i (rwAt E j) = false) (h1 : tells i (rwAt E n) = true) : knownR E i = some (rwAt E n) := by
  unfold knownR
  induction E generalizing n with
  | nil => simp at hn
  | cons r E ih =>
    cases n with
    | zero => rw [List.find?_cons_of_pos (by exact h1)]; rfl
    | succ n =>
      have h2 : tells i r = false := h0 0 (by omega)
      rw [List.find?_cons_of_neg (by rw [h2]; decide)]
      exact ih (n := n) (by simpa using hn) (fun j hj => h0 (j + 1) (by omega)) h1
theorem known_none {E : List Rw} {i : Int} (h0 : ∀ j, j < E.length → tells i (rwAt E j) = false) : knownR E i = none := by
  unfold knownR
  rw [List.find?_eq_none]
  intro r hr
  obtain ⟨j, hj, rfl⟩ := List.mem_iff_getElem.1 hr
  rw [← rwAt_eq E j hj, h0 j hj]; decide
end Ro

set_option maxHeartbeats 2000000 in
theorem refknown8_any (v : Value) (L : List Rw) (k t : Nat) (i : Int) (w : World) (hL : IsRL w v L) (hD : Ro.Dims k t L) (hk : k ≤ 10000000) (ht : t ≤ 10000000) (hlen : L.length ≤ 1000000) :
    Calls Try.prog 43 #[v, .int .i64 i] w fun e w' => ∃ u, e = .returned (.tuple #[u, .bool (Ro.knownB (Ro.rows8 L) i)]) ∧ Bytes w' u (Ro.knownV (Ro.rows8 L) i) ∧ Below w.heap.size w w' := by
  have HL := Lib.hid hL
  have HD := Lib.hid hD
  obtain ⟨al, cl, rfl⟩ := hL.shape
  obtain ⟨E, hE⟩ : ∃ E, E = Ro.rows8 L := ⟨_, rfl⟩
  have HEQ := Lib.hid hE
  have HF := Lib.hid (show Ro.Fine k t E by rw [hE]; exact Ro.rows8_fine hD)
  have hEl : E.length ≤ 1000000 := by rw [hE]; exact Nat.le_trans (Ro.rows8_length L) hlen
  rw [← hE]
  clear hL hD hE
  go_enter Try.func43, Try.ntmps43
  go_wp2_with fail
  have B := Below.refl w.heap.size w
  refine (refrows8_any _ L k t w HL.out HD.out hk ht hlen).mono ?_
  rintro e w2 ⟨v2, rfl, hO2, hb⟩
  replace B := B.trans (hb.mono B.size)
  have hzw2 := B.size
  clear hb
  rw [← HEQ.out] at hO2
  have HO := Lib.hid hO2.1.list
  obtain ⟨va, vc, rfl⟩ := hO2.1.shape
  clear hO2
  go_wp2_with fail
  go_loopw [7, 8, 9, 13] (fun _ _ _ x wr => ∃ n : Nat, n ≤ E.length ∧ x = .int .i64 n ∧ Below w.heap.size w wr ∧ IsRL wr (.slice va E.length vc) E ∧ ∀ j, j < n → Ro.tells i (rwAt E j) = false) (fun _ _ _ x _ => E.length - (intOf x).toNat)
  case atStart => exact ⟨0, by omega, rfl, B, HO.out, fun j hj => by omega⟩
  case round =>
    obtain ⟨n, hn, rfl, B, hOr, hno⟩ := hrel
    have HNO := Lib.hid hno
    clear hno
    by_cases hlt : n < E.length
    · obtain ⟨b, off, c', er, _⟩ := hOr.addr (by omega)
      simp only [Value.slice.injEq, true_and] at er
      obtain ⟨rfl, rfl⟩ := er
      obtain ⟨p0, q0, hc0, hc1, hb1, hb2⟩ := hOr.cells n hlt
      have HOr := Lib.hid hOr
      have HB1 := Lib.hid hb1
      have HB2 := Lib.hid hb2
      obtain ⟨pa, pc, rfl, _⟩ := hb1
      obtain ⟨qa, qc, rfl, _⟩ := hb2
      have HDI := Lib.hid (HF.out.dims.at hlt)
      have HLD := Lib.hid (HF.out.leads.at hlt)
      have HPL := Lib.hid (show (rwAt E n).1.length ≤ 10000000 by rw [HDI.out.1]; exact hk)
      have hpl := HPL.out
      clear hOr
      go_wp2_with fail
      obtain ⟨hb, hk, hs⟩ := blocks1 wr #[.slice pa (rwAt E n).1.length pc, .slice qa (rwAt E n).2.length qc] 68
      generalize wr.alloc (.cells #[.slice pa (rwAt E n).1.length pc, .slice qa (rwAt E n).2.length qc] 68) = W5 at *
      have K3 := Lib.hid hk
      replace HOr := Lib.hid (HOr.out.go hb)
      replace HB1 := Lib.hid (HB1.out.go hb)
      replace HB2 := Lib.hid (HB2.out.go hb)
      replace B := B.trans (hb.mono B.size)
      have hzW5 := B.size
      clear hb hk hs
      obtain ⟨k30, k31⟩ := K3.out.two
      have k3l := K3.out.lt
      go_wp2_with fail
      obtain ⟨w0, hw0⟩ : ∃ w0 : World, w0 = W5 := ⟨_, rfl⟩
      subst hw0
      go_loop [8, 9, 20] (fun c _ x => ∃ m : Nat, m ≤ (rwAt E n).1.length ∧ x = .int .i64 m ∧ c = .int .i64 (Ro.nz ((rwAt E n).1.take m))) (fun _ _ x => (rwAt E n).1.length - (intOf x).toNat)
      case atStart => exact ⟨0, by omega, rfl, rfl⟩
      case round =>
        obtain ⟨m, hm, rfl, rfl⟩ := hrel
        by_cases hml : m < (rwAt E n).1.length
        · obtain ⟨pb, po, rfl, hcc⟩ := HB1.out.at m hml
          have m0 : (0 : Int) ≤ (m : Int) := Int.natCast_nonneg _
          have HNT := Lib.hid (Ro.nz_take (rwAt E n).1 m hml)
          have HNL := Lib.hid (Nat.le_trans (Ro.nz_le ((rwAt E n).1.take m)) (by simp; omega : ((rwAt E n).1.take m).length ≤ 10000000))
          have hnl := HNL.out
          by_cases hz : nth (rwAt E n).1 m = 0
          · have hb : ((nth (rwAt E n).1 m : Int) != 0) = false := by rw [hz]; rfl
            have HN2 := Lib.hid (show Ro.nz ((rwAt E n).1.take (m + 1)) = Ro.nz ((rwAt E n).1.take m) by rw [HNT.out, if_pos hz]; omega)
            clear hz
            go_wp2_with fail
            go_round
            case rel => exact ⟨m + 1, by omega, by go_num, by rw [HN2.out]⟩
            case measure => simp [intOf]; omega
          · have hb : ((nth (rwAt E n).1 m : Int) != 0) = true := by rw [bne_iff_ne]; omega
            have HN2 := Lib.hid (show Ro.nz ((rwAt E n).1.take (m + 1)) = Ro.nz ((rwAt E n).1.take m) + 1 by rw [HNT.out, if_neg hz])
            clear hz
            go_wp2_with fail
            go_round
            case rel => exact ⟨m + 1, by omega, by go_num, by rw [HN2.out]; go_num⟩
            case measure => simp [intOf]; omega
        · obtain rfl : m = (rwAt E n).1.length := by omega
          rw [List.take_length]
          have HLI := Lib.hid (show leadI (rwAt E n).1 = (lead (rwAt E n).1 : Int) from if_pos HLD.out)
          by_cases h1 : Ro.nz (rwAt E n).1 = 1
          · have hb1 : ((Ro.nz (rwAt E n).1 : Int) == 1) = true := by rw [h1]; rfl
            by_cases h2 : (lead (rwAt E n).1 : Int) = i
            · have hb2 : ((lead (rwAt E n).1 : Int) == i) = true := by rw [h2]; simp
              have HT := Lib.hid (Ro.known_some hlt HNO.out (show Ro.tells i (rwAt E n) = true by unfold Ro.tells; rw [h1, HLI.out, h2]; simp))
              have HKB := Lib.hid (show Ro.knownB E i = true by unfold Ro.knownB; rw [HT.out]; rfl)
              have HKV := Lib.hid (show Ro.knownV E i = (rwAt E n).2 by unfold Ro.knownV; rw [HT.out])
              clear h1 h2
              go_wp2_with fail
              refine (reflead_lt _ _ _ HB1.out HLD.out).mono ?_
              rintro e w' ⟨rfl, rfl⟩
              go_wp2_with fail
              go_ret2
              rw [HKB.out, HKV.out]
              exact ⟨_, rfl, HB2.out, B⟩
            · have hb2 : ((lead (rwAt E n).1 : Int) == i) = false := by rw [beq_eq_false_iff_ne]; exact h2
              have HT := Lib.hid (show Ro.tells i (rwAt E n) = false by unfold Ro.tells; rw [h1, HLI.out]; simpa using h2)
              clear h1 h2
              go_wp2_with fail
              refine (reflead_lt _ _ _ HB1.out HLD.out).mono ?_
              rintro e w' ⟨rfl, rfl⟩
              go_wp2_with fail
              go_roundw
              case rel => exact ⟨n + 1, by omega, by go_num, B, HOr.out, fun j hj => by
                by_cases h : j = n
                · rw [h]; exact HT.out
                · exact HNO.out j (by omega)⟩
              case measure => simp [intOf]; omega
          · have hb1 : ((Ro.nz (rwAt E n).1 : Int) == 1) = false := by rw [beq_eq_false_iff_ne]; omega
            have HT := Lib.hid (show Ro.tells i (rwAt E n) = false by unfold Ro.tells; simp [h1])
            clear h1
            go_wp2_with fail
            go_roundw
            case rel => exact ⟨n + 1, by omega, by go_num, B, HOr.out, fun j hj => by
              by_cases h : j = n
              · rw [h]; exact HT.out
              · exact HNO.out j (by omega)⟩
            case measure => simp [intOf]; omega
    · obtain rfl : n = E.length := by omega
      have HT := Lib.hid (Ro.known_none HNO.out)
      have HKB := Lib.hid (show Ro.knownB E i = false by unfold Ro.knownB; rw [HT.out]; rfl)
      have HKV := Lib.hid (show Ro.knownV E i = [] by unfold Ro.knownV; rw [HT.out])
      go_wp2_with fail
      go_ret2
      rw [HKB.out, HKV.out]
      exact ⟨_, rfl, Bytes.nil _, B⟩

end Go.Proofs.Ytohfcdgpllghbaa

/-
  Rows of bytes as vectors: what the document's answers of layers 7 and 8 reckon, said of spans, ranks and determinants. No program in this text.
-/
set_option maxRecDepth 100000
namespace Go.Proofs.Ytohfcdgpllghbaa
open La

def Oct (l : List Nat) : Prop := ∀ z, z ∈ l → z < 256
/-- A byte, as an element of the field. -/
def bt (n : Nat) : B := ⟨n % 256, Nat.mod_lt _ (by decide)⟩
/-- Bytes, as a vector. -/
def fv (l : List Nat) : Vc := fun i => bt (nth l i)

theorem bt_val {n : Nat} (h : n < 256) : (bt n).val = n := Nat.mod_eq_of_lt h
theorem bt_zero : bt 0 = 0 := rfl
theorem bt_one : bt 1 = 1 := rfl
theorem bt_inj {m n : Nat} (hm : m < 256) (hn : n < 256) (h : bt m = bt n) : m = n := by
  have := congrArg B.val h
  rwa [bt_val hm, bt_val hn] at this
theorem bt_ne {n : Nat} (h : n < 256) : bt n ≠ 0 ↔ n ≠ 0 := by
  constructor
  · intro h1 h2; subst h2; exact h1 rfl
  · intro h1 h2; exact h1 (bt_inj h (by decide) h2)
theorem bt_xor {m n : Nat} (hm : m < 256) (hn : n < 256) : bt (m ^^^ n) = bt m + bt n := B.ext (by
  rw [bt_val (Gf.xor_lt hm hn), val_add, bt_val hm, bt_val hn])
theorem bt_mul {m n : Nat} (hm : m < 256) (hn : n < 256) : bt (Gf.mul m n) = bt m * bt n := B.ext (by
  rw [bt_val (Gf.mul_lt hm n), val_mul, bt_val hm, bt_val hn])

theorem nth_out {l : List Nat} {i : Nat} (h : l.length ≤ i) : nth l i = 0 := by
  unfold nth; rw [List.getD_eq_getElem?_getD, List.getElem?_eq_none h]; rfl
theorem fv_short (l : List Nat) : Short l.length (fv l) := fun i hi => by show bt (nth l i) = 0; rw [nth_out hi]; rfl
theorem fv_short' {l : List Nat} {n : Nat} (h : l.length = n) : Short n (fv l) := h ▸ fv_short l
theorem fv_add {x y : List Nat} (hx : Oct x) (hy : Oct y) (hl : x.length = y.length) : fv (Gf.add x y) = va (fv x) (fv y) := funext fun i => by
  show bt (nth (Gf.add x y) i) = bt (nth x i) + bt (nth y i)
  by_cases hi : i < x.length
  · rw [nth_add x y i hi (by omega), bt_xor (nth_lt hx i) (nth_lt hy i)]
  · rw [nth_out (by rw [Gf.add_length _ _ hl]; omega), nth_out (by omega), nth_out (by omega)]; rfl
theorem fv_scale {c : Nat} {x : List Nat} (hc : c < 256) (hx : Oct x) : fv (Gf.scale c x) = vs (bt c) (fv x) := funext fun i => by
  show bt (nth (Gf.scale c x) i) = bt c * bt (nth x i)
  by_cases hi : i < x.length
  · rw [nth_scale c x i hi, bt_mul hc (nth_lt hx i)]
  · rw [nth_out (by rw [Gf.scale_length]; omega), nth_out (by omega)]; exact (bmul_zero _).symm
theorem fv_inj {x y : List Nat} (hx : Oct x) (hy : Oct y) (hl : x.length = y.length) (h : fv x = fv y) : x = y :=
  ext_nth hl fun j _ => bt_inj (nth_lt hx j) (nth_lt hy j) (congrFun h j)
theorem fv_lead {l : List Nat} (h : Oct l) {i : Nat} : Lead (fv l) i ↔ i < l.length ∧ lead l = i := by
  constructor
  · rintro ⟨h1, h2⟩
    have hi : i < l.length := by
      by_cases hi : i < l.length
      · exact hi
      · exact absurd (fv_short l i (by omega)) h1
    exact ⟨hi, lead_eq (fun j hj => bt_inj (nth_lt h j) (by decide) (h2 j hj)) hi ((bt_ne (nth_lt h i)).1 h1)⟩
  · rintro ⟨hi, rfl⟩
    exact ⟨(bt_ne (nth_lt h _)).2 (lead_ne l hi), fun j hj => by show bt (nth l j) = 0; rw [lead_zero l j hj]; rfl⟩
theorem fv_zero {l : List Nat} (h : Oct l) : fv l = v0 ↔ zeroB l = true := by
  constructor
  · intro e
    unfold zeroB
    rw [List.all_eq_true]
    intro x hx
    obtain ⟨i, hi, rfl⟩ := List.mem_iff_getElem.1 hx
    have := congrFun e i
    have h2 : bt (nth l i) = bt 0 := this
    have h3 := bt_inj (nth_lt h i) (by decide) h2
    rw [nth_eq l i hi] at h3
    simp [h3]
  · intro e
    unfold zeroB at e
    rw [List.all_eq_true] at e
    exact funext fun i => by
      show bt (nth l i) = 0
      by_cases hi : i < l.length
      · have := e _ (List.getElem_mem hi)
        rw [nth_eq l i hi, beq_iff_eq.1 this]; rfl
      · rw [nth_out (by omega)]; rfl

/-! ### Rows: vector and data, one behind the other -/

def jn (x : Rw) : List Nat := x.1 ++ x.2
def fj (x : Rw) : Vc := fv (jn x)
/-- The vector alone. -/
def f1 (x : Rw) : Vc := fv x.1

theorem nth_append {a b : List Nat} {i : Nat} : nth (a ++ b) i = if i < a.length then nth a i else nth b (i - a.length) := by
  unfold nth
  rw [List.getD_eq_getElem?_getD, List.getD_eq_getElem?_getD, List.getD_eq_getElem?_getD]
  split
  · rename_i h; rw [List.getElem?_append_left h]
  · rename_i h; rw [List.getElem?_append_right (by omega)]
theorem Ro.Dim.oct {k t : Nat} {x : Rw} (h : Ro.Dim k t x) : Oct (jn x) := fun z hz => by
  rcases List.mem_append.1 hz with h1 | h1
  · exact h.2.2.1 z h1
  · exact h.2.2.2 z h1
theorem Ro.Dim.len {k t : Nat} {x : Rw} (h : Ro.Dim k t x) : (jn x).length = k + t := by unfold jn; rw [List.length_append, h.1, h.2.1]
theorem Ro.Dim.short {k t : Nat} {x : Rw} (h : Ro.Dim k t x) : Short (k + t) (fj x) := fv_short' h.len
theorem Ro.Dim.short1 {k t : Nat} {x : Rw} (h : Ro.Dim k t x) : Short k (f1 x) := fv_short' h.1
theorem jn_nth1 {k t : Nat} {x : Rw} (h : Ro.Dim k t x) {i : Nat} (hi : i < k) : nth (jn x) i = nth x.1 i := by unfold jn; rw [nth_append, if_pos (by rw [h.1]; exact hi)]
theorem fj_at {k t : Nat} {x : Rw} (h : Ro.Dim k t x) {i : Nat} (hi : i < k) : fj x i = bt (nth x.1 i) := by show bt (nth (jn x) i) = _; rw [jn_nth1 h hi]
theorem fj_inj {k t : Nat} {x y : Rw} (hx : Ro.Dim k t x) (hy : Ro.Dim k t y) (h : fj x = fj y) : x = y := by
  have e := fv_inj hx.oct hy.oct (by rw [hx.len, hy.len]) h
  unfold jn at e
  obtain ⟨e1, e2⟩ := List.append_inj e (by rw [hx.1, hy.1])
  exact Prod.ext e1 e2
/-- A row that leads by its vector. -/
theorem fj_lead {k t : Nat} {x : Rw} (h : Ro.Dim k t x) (hl : lead x.1 < x.1.length) : Lead (fj x) (lead x.1) := by
  refine (fv_lead h.oct).2 ⟨by rw [h.len]; rw [h.1] at hl; omega, ?_⟩
  rw [h.1] at hl
  exact lead_eq (fun j hj => by rw [jn_nth1 h (by omega)]; exact lead_zero _ _ hj) (by rw [h.len]; omega) (by rw [jn_nth1 h hl]; exact lead_ne _ (by rw [h.1]; exact hl))
theorem f1_lead {k t : Nat} {x : Rw} (h : Ro.Dim k t x) (hl : lead x.1 < x.1.length) : Lead (f1 x) (lead x.1) := (fv_lead h.2.2.1).2 ⟨hl, rfl⟩
theorem jn_add {a b c d : List Nat} (h1 : a.length = c.length) : Gf.add (a ++ b) (c ++ d) = Gf.add a c ++ Gf.add b d := by
  unfold Gf.add; exact List.zipWith_append h1
theorem jn_scale (c : Nat) (a b : List Nat) : Gf.scale c (a ++ b) = Gf.scale c a ++ Gf.scale c b := by unfold Gf.scale; rw [List.map_append]
theorem fj_less {k t c : Nat} {x r : Rw} (hc : c < 256) (hx : Ro.Dim k t x) (hr : Ro.Dim k t r) : fj (Ro.less x c r) = va (vs (bt c) (fj r)) (fj x) := by
  obtain ⟨_, e⟩ := Ro.less_dim hc hx hr
  rw [e]
  show fv (Gf.add (Gf.scale c r.1) x.1 ++ Gf.add (Gf.scale c r.2) x.2) = _
  rw [← jn_add (by rw [Gf.scale_length, hr.1, hx.1]), ← jn_scale]
  show fv (Gf.add (Gf.scale c (jn r)) (jn x)) = _
  rw [fv_add (Ro.scale_lt256 hc _) hx.oct (by rw [Gf.scale_length]; exact (hr.len).trans hx.len.symm), fv_scale hc hr.oct]
  rfl
theorem f1_less {k t c : Nat} {x r : Rw} (hc : c < 256) (hx : Ro.Dim k t x) (hr : Ro.Dim k t r) : f1 (Ro.less x c r) = va (vs (bt c) (f1 r)) (f1 x) := by
  obtain ⟨_, e⟩ := Ro.less_dim hc hx hr
  rw [e]
  show fv (Gf.add (Gf.scale c r.1) x.1) = _
  rw [fv_add (Ro.scale_lt256 hc _) hx.2.2.1 (by rw [Gf.scale_length, hr.1, hx.1]), fv_scale hc hr.2.2.1]
  rfl
theorem fj_norm {k t : Nat} {x : Rw} (hx : Ro.Dim k t x) : fj (Ro.norm x) = vs (bt (normC x.1)) (fj x) := by
  show fv (Gf.scale _ x.1 ++ Gf.scale _ x.2) = _
  rw [← jn_scale]; exact fv_scale (normC_lt _) hx.oct
theorem f1_norm {k t : Nat} {x : Rw} (hx : Ro.Dim k t x) : f1 (Ro.norm x) = vs (bt (normC x.1)) (f1 x) := fv_scale (normC_lt _) hx.2.2.1

theorem va_mid (s a b : Vc) : va (va (va s a) b) s = va a b := funext fun i => by
  show s i + a i + b i + s i = a i + b i
  rw [badd_comm _ (s i), badd_assoc (s i), badd_cancel]

/-- What is left differs from the row by what the others span. -/
theorem rest_span {k t : Nat} {L : List Rw} (hD : Ro.Dims k t L) {x : Rw} (hx : Ro.Dim k t x) : Sp (L.map fj) (va (fj x) (fj (Ro.rest L x))) ∧ Sp (L.map f1) (va (f1 x) (f1 (Ro.rest L x))) := by
  induction L generalizing x with
  | nil => exact ⟨by show Sp _ (va (fj x) (fj x)); rw [va_self]; exact Sp.zero, by show Sp _ (va (f1 x) (f1 x)); rw [va_self]; exact Sp.zero⟩
  | cons r L ih =>
    have hr := hD r List.mem_cons_self
    have hc : nth x.1 (lead r.1) < 256 := nth_lt hx.2.2.1 _
    obtain ⟨h1, h2⟩ := ih (fun y hy => hD y (List.mem_cons_of_mem _ hy)) (Ro.step_dim hx hr)
    show Sp _ (va (fj x) (fj (Ro.rest L (Ro.step x r)))) ∧ Sp _ (va (f1 x) (f1 (Ro.rest L (Ro.step x r))))
    have up : ∀ {f : Rw → Vc} {v : Vc}, Sp (L.map f) v → Sp ((r :: L).map f) v := fun h => h.sub fun y hy => by rw [List.map_cons]; exact List.mem_cons_of_mem _ hy
    constructor
    · have e := fj_less hc hx hr
      rw [← va_mid (vs (bt (nth x.1 (lead r.1))) (fj r)) (fj x), ← e]
      exact (up h1).add ((Sp.mem (by simp)).smul _)
    · have e := f1_less hc hx hr
      rw [← va_mid (vs (bt (nth x.1 (lead r.1))) (f1 r)) (f1 x), ← e]
      exact (up h2).add ((Sp.mem (by simp)).smul _)

end Go.Proofs.Ytohfcdgpllghbaa
