/- Texts of one seat, laid together: RefElimB. -/
import Derived.Test.YtohfcdgpllghbaaQ13

/-
  The document's answer for equations (wellspringref08), in the program: 'Rows', walked.
-/
set_option maxRecDepth 100000
namespace Go.Proofs.Ytohfcdgpllghbaa
open Go.RowKit

set_option maxHeartbeats 2000000 in
theorem refrows8_any (v : Value) (L : List Rw) (k t : Nat) (w : World) (hL : IsRL w v L) (hD : Ro.Dims k t L) (hk : k ≤ 10000000) (ht : t ≤ 10000000) (hlen : L.length ≤ 1000000) :
    Calls Try.prog 47 #[v] w fun e w' => ∃ v', e = .returned v' ∧ OwnL0 w' w.heap.size v' (Ro.rows8 L) ∧ Below w.heap.size w w' := by
  have HL := Lib.hid hL
  have HD := Lib.hid hD
  obtain ⟨a, c, rfl⟩ := hL.shape
  clear hL hD
  go_enter Try.func47, Try.ntmps47
  go_wp2_with fail
  go_loopw [3, 5, 12] (fun v _ i wr => ∃ n : Nat, n ≤ L.length ∧ i = .int .i64 n ∧ OwnL0 wr w.heap.size v (Ro.all (L.take n)) ∧ Below w.heap.size w wr) (fun _ _ i _ => L.length - (intOf i).toNat)
  case atStart => exact ⟨0, by omega, rfl, OwnL0.nil _ _, Below.refl _ _⟩
  case round =>
    obtain ⟨n, hn, rfl, hO, B⟩ := hrel
    have HO := Lib.hid hO
    obtain ⟨va, vc, rfl⟩ := hO.1.shape
    clear hO
    have hz := B.size
    by_cases hlt : n < L.length
    · obtain ⟨b, off, c', er, _⟩ := HL.out.addr (by omega)
      simp only [Value.slice.injEq, true_and] at er
      obtain ⟨rfl, rfl⟩ := er
      obtain ⟨p0, q0, z0, z1, hb1, hb2⟩ := (HL.out.go B).cells n hlt
      have HB1 := Lib.hid hb1
      have HB2 := Lib.hid hb2
      obtain ⟨pa, pc, rfl, _⟩ := hb1
      obtain ⟨qa, qc, rfl, _⟩ := hb2
      have HOK := Lib.hid (Ro.all_up HD.out n hn)
      have HLE := Lib.hid (Ro.all_length_le L n hn)
      have HST := Lib.hid (Ro.all_take_succ L n hlt)
      have HDN := Lib.hid (HD.out.at hlt)
      go_wp2_with fail
      obtain ⟨hb, hk, hs⟩ := blocks1 wr #[.slice pa (rwAt L n).1.length pc, .slice qa (rwAt L n).2.length qc] 68
      generalize wr.alloc (.cells #[.slice pa (rwAt L n).1.length pc, .slice qa (rwAt L n).2.length qc] 68) = W5 at *
      have K3 := Lib.hid hk
      replace HO := Lib.hid (HO.out.go hb)
      replace HB1 := Lib.hid (HB1.out.go hb)
      replace HB2 := Lib.hid (HB2.out.go hb)
      replace B := B.trans (hb.mono B.size)
      have hzW5 := B.size
      clear hb hk hs
      obtain ⟨k30, k31⟩ := K3.out.two
      have k3l := K3.out.lt
      go_wp2_with fail
      refine (refinsert7_own _ _ _ w.heap.size k t (rwAt L n) _ HO.out B.size ⟨_, _, rfl, HB1.out, HB2.out⟩ HOK.out.dims HOK.out.leads HDN.out hk ht (by have := HLE.out; omega)).mono ?_
      rintro e w2 ⟨v2, rfl, hO2, hb⟩
      replace B := B.trans (hb.mono B.size)
      have hzw2 := B.size
      clear hb
      rw [← HST.out] at hO2
      have HO2 := Lib.hid hO2
      clear hO2
      go_wp2_with fail
      go_roundw
      case rel => exact ⟨n + 1, by omega, by go_num, HO2.out, B⟩
      case measure => simp [intOf]; omega
    · obtain rfl : n = L.length := by omega
      rw [List.take_length] at HO ⊢
      obtain ⟨E, hE⟩ : ∃ E, E = Ro.all L := ⟨_, rfl⟩
      have HEQ := Lib.hid hE
      have HF := Lib.hid (show Ro.Fine k t E by rw [hE]; exact Ro.all_fine HD.out)
      have hEl : E.length ≤ 1000000 := by
        rw [hE]; have := Ro.all_length_le L L.length (Nat.le_refl _); rw [List.take_length] at this; omega
      rw [← hE] at HO ⊢
      have HNIL := Lib.hid HO.out.2
      have HOL := Lib.hid HO.out.1
      clear hE hlt hn HO
      go_wp2_with fail
      go_loopw [6, 7, 8, 9, 22, 27] (fun _ _ _ _ i _ wr => ∃ n : Nat, n ≤ E.length ∧ i = .int .i64 n ∧ OwnL wr w.heap.size 68 (.slice va E.length vc) (Ro.clrI E n) ∧ Below w.heap.size w wr) (fun _ _ _ _ i _ _ => E.length - (intOf i).toNat)
      case atStart => exact ⟨0, by omega, rfl, HOL.out, B⟩
      case round =>
        obtain ⟨i, hi, rfl, hO, B⟩ := hrel
        have HO := Lib.hid hO
        clear hO
        by_cases hil : i < E.length
        · go_wp2_with fail
          go_loopw [7, 8, 9, 27] (fun _ _ _ x wr => ∃ j : Nat, j ≤ E.length ∧ x = .int .i64 j ∧ OwnL wr w.heap.size 68 (.slice va E.length vc) (Ro.clrK (Ro.clrI E i) i j) ∧ Below w.heap.size w wr) (fun _ _ _ x _ => E.length - (intOf x).toNat)
          case atStart => exact ⟨0, by omega, rfl, HO.out, B⟩
          case round =>
            obtain ⟨j, hj, rfl, hO2, B⟩ := hrel
            have HO2 := Lib.hid hO2
            clear hO2
            obtain ⟨F, hF⟩ : ∃ F, F = Ro.clrK (Ro.clrI E i) i j := ⟨_, rfl⟩
            have HFQ := Lib.hid hF
            have hFl : F.length = E.length := by rw [hF, Ro.clrK_length, Ro.clrI_length]
            have HFF := Lib.hid (show Ro.Fine k t F by
              rw [hF]
              exact Ro.clrK_fine (Ro.clrI_fine HF.out i hi) (by rw [Ro.clrI_length]; exact hil) j (by rw [Ro.clrI_length]; exact hj))
            have HNX := Lib.hid (show Ro.clrK (Ro.clrI E i) i (j + 1) = Ro.clr1 F i j by rw [Ro.clrK_succ, ← hF])
            rw [← hF] at HO2
            clear hF
            by_cases hjl : j < E.length
            · by_cases hji : j = i
              · have hb : ((j : Int) != (i : Int)) = false := by rw [hji]; simp
                have HN2 := Lib.hid (show Ro.clr1 F i j = F by unfold Ro.clr1; rw [if_pos hji])
                clear hji
                go_wp2_with fail
                go_roundw
                case rel => exact ⟨j + 1, by omega, by go_num, by rw [HNX.out, HN2.out]; exact HO2.out, B⟩
                case measure => simp [intOf]; omega
              · have hb : ((j : Int) != (i : Int)) = true := by rw [bne_iff_ne]; omega
                have HN2 := Lib.hid (show Ro.clr1 F i j = F.set i (Ro.step (rwAt F i) (rwAt F j)) by unfold Ro.clr1; rw [if_neg hji])
                clear hji
                obtain ⟨g, c', er, hBg, hgl⟩ := HO2.out.addr (by omega)
                simp only [Value.slice.injEq] at er
                obtain ⟨rfl, -, rfl⟩ := er
                obtain ⟨xa, xc, ya, yc, hx0, hx1, hxb, hyb⟩ := HO2.out.cells i (by omega)
                obtain ⟨ra, rc, sa, sc, hr0, hr1, hrb, hsb⟩ := HO2.out.cells j (by omega)
                have HDI := Lib.hid (HFF.out.dims.at (show i < F.length by omega))
                have HDJ := Lib.hid (HFF.out.dims.at (show j < F.length by omega))
                have HLJ := Lib.hid (HFF.out.leads.at (show j < F.length by omega))
                have hlt2 : lead (rwAt F j).1 < (rwAt F i).1.length := by rw [HDI.out.1, ← HDJ.out.1]; exact HLJ.out
                obtain ⟨xb, xo, rfl, hcc⟩ := hxb.at (lead (rwAt F j).1) hlt2
                have HXB := Lib.hid hxb
                have HYB := Lib.hid hyb
                have HRB := Lib.hid hrb
                have HSB := Lib.hid hsb
                have HX0 := Lib.hid hx0
                have HX1 := Lib.hid hx1
                have HR0 := Lib.hid hr0
                have HR1 := Lib.hid hr1
                have HCC := Lib.hid hcc
                have HQ := Lib.hid (show nth (rwAt F i).1 (lead (rwAt F j).1) < 256 from nth_lt HDI.out.2.2.1 _)
                have i0 : (0 : Int) ≤ (i : Int) := Int.natCast_nonneg _
                have i1 : (i : Int) < (E.length : Int) := by omega
                have j0 : (0 : Int) ≤ (j : Int) := Int.natCast_nonneg _
                have j1 : (j : Int) < (E.length : Int) := by omega
                clear hx0 hx1 hxb hyb hr0 hr1 hrb hsb hcc
                go_wp2_with fail
                refine wp_region_mono (C := Cb wr) (R := Rb) (H := fun _ => Hb wr) [Ty.val 34 (.slice (some ⟨g, 0, none⟩) E.length vc), Ty.val 35 (.int .i64 (i : Int)), Ty.val 36 (.pointer (some ⟨g, i * 2, none⟩)), Ty.val 37 (.agg #[.slice (some ⟨xb, xo, none⟩) (rwAt F i).1.length xc, .slice ya (rwAt F i).2.length yc]), Ty.val 38 (.slice (some ⟨g, 0, none⟩) E.length vc), Ty.val 39 (.int .i64 (i : Int)), Ty.val 40 (.pointer (some ⟨g, i * 2, none⟩)), Ty.val 41 (.pointer (some ⟨g, i * 2, none⟩)), Ty.val 42 (.slice (some ⟨xb, xo, none⟩) (rwAt F i).1.length xc), Ty.val 43 (.slice (some ⟨g, 0, none⟩) E.length vc), Ty.val 44 (.int .i64 (j : Int)), Ty.val 45 (.pointer (some ⟨g, j * 2, none⟩)), Ty.val 46 (.pointer (some ⟨g, j * 2, none⟩)), Ty.val 47 (.slice ra (rwAt F j).1.length rc), Ty.val 48 (.int .i64 (lead (rwAt F j).1 : Int)), Ty.val 49 (.pointer (some ⟨xb, xo + lead (rwAt F j).1, none⟩)), Ty.val 50 (U8 (nth (rwAt F i).1 (lead (rwAt F j).1))), Ty.val 51 (.slice (some ⟨g, 0, none⟩) E.length vc), Ty.val 52 (.int .i64 (j : Int)), Ty.val 53 (.pointer (some ⟨g, j * 2, none⟩)), Ty.val 54 (.agg #[.slice ra (rwAt F j).1.length rc, .slice sa (rwAt F j).2.length sc]), Ty.rowE 55 (Ro.step (rwAt F i) (rwAt F j)).1 (Ro.step (rwAt F i) (rwAt F j)).2 0, Ty.rowE 33 (Ro.step (rwAt F i) (rwAt F j)).1 (Ro.step (rwAt F i) (rwAt F j)).2 0, Ty.row 56 (Ro.step (rwAt F i) (rwAt F j)).1 (Ro.step (rwAt F i) (rwAt F j)).2, Ty.val 57 (.int .i64 0), Ty.box 8 2 68, Ty.rowIn 8 (Ro.step (rwAt F i) (rwAt F j)).1 (Ro.step (rwAt F i) (rwAt F j)).2 68, Ty.val 9 (.int .i64 0)] (by kernel_rfl) (hC_b wr) (hCH_b wr) (drew_b wr) ⟨trivial, trivial, trivial, trivial, trivial, trivial, trivial, trivial, trivial, trivial, trivial, trivial, trivial, trivial, trivial, trivial, trivial, trivial, trivial, trivial, trivial, trivial, trivial, trivial, trivial, trivial, trivial, trivial, trivial⟩ (by kernel_rfl) ?_ ?_
                · refine ⟨?_, ?_, ?_, ?_, ?_, ?_, ?_, ?_, ?_, ?_, ?_, ?_, ?_, ?_, ?_, ?_, ?_, ?_, ?_, ?_, ?_, ?_, ?_, ?_, ?_, ?_, ?_, ?_, trivial⟩
                  · intro ac wc hC hsz hfr hd hpr
                    have d3 : ac.eval (.tmp 3) = (.slice (some ⟨g, 0, none⟩) E.length vc) := hfr 3 rfl
                    rw [if_pos (wanted_none rfl)]
                    exact ob_copy rfl rfl rfl (Nat.lt_of_lt_of_eq (by decide : 34 < 65) hsz.symm) (Or.inl rfl) (Below.refl _ _) d3
                  · intro ac wc hC hsz hfr hd hpr
                    have d6 : ac.eval (.tmp 6) = (.int .i64 (i : Int)) := hfr 6 rfl
                    rw [if_pos (wanted_none rfl)]
                    exact ob_copy rfl rfl rfl (Nat.lt_of_lt_of_eq (by decide : 35 < 65) hsz.symm) (Or.inl rfl) (Below.refl _ _) d6
                  · intro ac wc hC hsz hfr hd hpr
                    have d34 : ac.eval (.tmp 34) = (.slice (some ⟨g, 0, none⟩) E.length vc) := hd 0 rfl
                    have d35 : ac.eval (.tmp 35) = (.int .i64 (i : Int)) := hd 1 rfl
                    rw [if_pos (wanted_none rfl)]
                    exact ob_index _ rfl rfl rfl (Nat.lt_of_lt_of_eq (by decide : 36 < 65) hsz.symm) rfl d34 d35 (by go_simp) (Below.refl _ _) rfl
                  · intro ac wc hC hsz hfr hd hpr
                    have d36 : ac.eval (.tmp 36) = (.pointer (some ⟨g, i * 2, none⟩)) := hd 2 rfl
                    rw [if_pos (wanted_none rfl)]
                    exact ob_load _ rfl rfl rfl (Nat.lt_of_lt_of_eq (by decide : 37 < 65) hsz.symm) rfl d36 (load_refrow_at (cell_keep HX0.out hC) (cell_keep HX1.out hC)) (Below.refl _ _) rfl
                  · intro ac wc hC hsz hfr hd hpr
                    have d3 : ac.eval (.tmp 3) = (.slice (some ⟨g, 0, none⟩) E.length vc) := hfr 3 rfl
                    rw [if_pos (wanted_none rfl)]
                    exact ob_copy rfl rfl rfl (Nat.lt_of_lt_of_eq (by decide : 38 < 65) hsz.symm) (Or.inl rfl) (Below.refl _ _) d3
                  · intro ac wc hC hsz hfr hd hpr
                    have d6 : ac.eval (.tmp 6) = (.int .i64 (i : Int)) := hfr 6 rfl
                    rw [if_pos (wanted_none rfl)]
                    exact ob_copy rfl rfl rfl (Nat.lt_of_lt_of_eq (by decide : 39 < 65) hsz.symm) (Or.inl rfl) (Below.refl _ _) d6
                  · intro ac wc hC hsz hfr hd hpr
                    have d38 : ac.eval (.tmp 38) = (.slice (some ⟨g, 0, none⟩) E.length vc) := hd 4 rfl
                    have d39 : ac.eval (.tmp 39) = (.int .i64 (i : Int)) := hd 5 rfl
                    rw [if_pos (wanted_none rfl)]
                    exact ob_index _ rfl rfl rfl (Nat.lt_of_lt_of_eq (by decide : 40 < 65) hsz.symm) rfl d38 d39 (by go_simp) (Below.refl _ _) rfl
                  · intro ac wc hC hsz hfr hd hpr
                    have d40 : ac.eval (.tmp 40) = (.pointer (some ⟨g, i * 2, none⟩)) := hd 6 rfl
                    rw [if_pos (wanted_none rfl)]
                    exact ob_field _ rfl rfl rfl (Nat.lt_of_lt_of_eq (by decide : 41 < 65) hsz.symm) rfl d40 (fun w => by go_simp) (Below.refl _ _) rfl
                  · intro ac wc hC hsz hfr hd hpr
                    have d41 : ac.eval (.tmp 41) = (.pointer (some ⟨g, i * 2, none⟩)) := hd 7 rfl
                    rw [if_pos (wanted_none rfl)]
                    exact ob_load _ rfl rfl rfl (Nat.lt_of_lt_of_eq (by decide : 42 < 65) hsz.symm) rfl d41 (load_bytes (cell_keep HX0.out hC)) (Below.refl _ _) rfl
                  · intro ac wc hC hsz hfr hd hpr
                    have d3 : ac.eval (.tmp 3) = (.slice (some ⟨g, 0, none⟩) E.length vc) := hfr 3 rfl
                    rw [if_pos (wanted_none rfl)]
                    exact ob_copy rfl rfl rfl (Nat.lt_of_lt_of_eq (by decide : 43 < 65) hsz.symm) (Or.inl rfl) (Below.refl _ _) d3
                  · intro ac wc hC hsz hfr hd hpr
                    have d7 : ac.eval (.tmp 7) = (.int .i64 (j : Int)) := hfr 7 rfl
                    rw [if_pos (wanted_none rfl)]
                    exact ob_copy rfl rfl rfl (Nat.lt_of_lt_of_eq (by decide : 44 < 65) hsz.symm) (Or.inl rfl) (Below.refl _ _) d7
                  · intro ac wc hC hsz hfr hd hpr
                    have d43 : ac.eval (.tmp 43) = (.slice (some ⟨g, 0, none⟩) E.length vc) := hd 9 rfl
                    have d44 : ac.eval (.tmp 44) = (.int .i64 (j : Int)) := hd 10 rfl
                    rw [if_pos (wanted_none rfl)]
                    exact ob_index _ rfl rfl rfl (Nat.lt_of_lt_of_eq (by decide : 45 < 65) hsz.symm) rfl d43 d44 (by go_simp) (Below.refl _ _) rfl
                  · intro ac wc hC hsz hfr hd hpr
                    have d45 : ac.eval (.tmp 45) = (.pointer (some ⟨g, j * 2, none⟩)) := hd 11 rfl
                    rw [if_pos (wanted_none rfl)]
                    exact ob_field _ rfl rfl rfl (Nat.lt_of_lt_of_eq (by decide : 46 < 65) hsz.symm) rfl d45 (fun w => by go_simp) (Below.refl _ _) rfl
                  · intro ac wc hC hsz hfr hd hpr
                    have d46 : ac.eval (.tmp 46) = (.pointer (some ⟨g, j * 2, none⟩)) := hd 12 rfl
                    rw [if_pos (wanted_none rfl)]
                    exact ob_load _ rfl rfl rfl (Nat.lt_of_lt_of_eq (by decide : 47 < 65) hsz.symm) rfl d46 (load_bytes (cell_keep HR0.out hC)) (Below.refl _ _) rfl
                  · intro ac wc hC hsz hfr hd hpr
                    have d47 : ac.eval (.tmp 47) = (.slice ra (rwAt F j).1.length rc) := hd 13 rfl
                    rw [if_pos (wanted_none rfl)]
                    refine ob_call rfl rfl rfl (Nat.lt_of_lt_of_eq (by decide : 48 < 65) hsz.symm) rfl (enter_of Try.func71 (by kernel_rfl) rfl) ?_
                    show Calls Try.prog 71 #[ac.eval (.tmp 47)] wc _
                    rw [d47]
                    exact (reflead_lt _ (rwAt F j).1 wc (HRB.out.go hC) HLJ.out).mono fun _ _ ⟨he, hw⟩ => ⟨_, he, rfl, hw ▸ Below.refl _ _⟩
                  · intro ac wc hC hsz hfr hd hpr
                    have d42 : ac.eval (.tmp 42) = (.slice (some ⟨xb, xo, none⟩) (rwAt F i).1.length xc) := hd 8 rfl
                    have d48 : ac.eval (.tmp 48) = (.int .i64 (lead (rwAt F j).1 : Int)) := hd 14 rfl
                    rw [if_pos (wanted_none rfl)]
                    exact ob_index _ rfl rfl rfl (Nat.lt_of_lt_of_eq (by decide : 49 < 65) hsz.symm) rfl d42 d48 (index_bytes _ hlt2) (Below.refl _ _) rfl
                  · intro ac wc hC hsz hfr hd hpr
                    have d49 : ac.eval (.tmp 49) = (.pointer (some ⟨xb, xo + lead (rwAt F j).1, none⟩)) := hd 15 rfl
                    rw [if_pos (wanted_none rfl)]
                    exact ob_load _ rfl rfl rfl (Nat.lt_of_lt_of_eq (by decide : 50 < 65) hsz.symm) rfl d49 (load_u8 (cell_keep HCC.out hC)) (Below.refl _ _) rfl
                  · intro ac wc hC hsz hfr hd hpr
                    have d3 : ac.eval (.tmp 3) = (.slice (some ⟨g, 0, none⟩) E.length vc) := hfr 3 rfl
                    rw [if_pos (wanted_none rfl)]
                    exact ob_copy rfl rfl rfl (Nat.lt_of_lt_of_eq (by decide : 51 < 65) hsz.symm) (Or.inl rfl) (Below.refl _ _) d3
                  · intro ac wc hC hsz hfr hd hpr
                    have d7 : ac.eval (.tmp 7) = (.int .i64 (j : Int)) := hfr 7 rfl
                    rw [if_pos (wanted_none rfl)]
                    exact ob_copy rfl rfl rfl (Nat.lt_of_lt_of_eq (by decide : 52 < 65) hsz.symm) (Or.inl rfl) (Below.refl _ _) d7
                  · intro ac wc hC hsz hfr hd hpr
                    have d51 : ac.eval (.tmp 51) = (.slice (some ⟨g, 0, none⟩) E.length vc) := hd 17 rfl
                    have d52 : ac.eval (.tmp 52) = (.int .i64 (j : Int)) := hd 18 rfl
                    rw [if_pos (wanted_none rfl)]
                    exact ob_index _ rfl rfl rfl (Nat.lt_of_lt_of_eq (by decide : 53 < 65) hsz.symm) rfl d51 d52 (by go_simp) (Below.refl _ _) rfl
                  · intro ac wc hC hsz hfr hd hpr
                    have d53 : ac.eval (.tmp 53) = (.pointer (some ⟨g, j * 2, none⟩)) := hd 19 rfl
                    rw [if_pos (wanted_none rfl)]
                    exact ob_load _ rfl rfl rfl (Nat.lt_of_lt_of_eq (by decide : 54 < 65) hsz.symm) rfl d53 (load_refrow_at (cell_keep HR0.out hC) (cell_keep HR1.out hC)) (Below.refl _ _) rfl
                  · intro ac wc hC hsz hfr hd hpr
                    have d37 : ac.eval (.tmp 37) = (.agg #[.slice (some ⟨xb, xo, none⟩) (rwAt F i).1.length xc, .slice ya (rwAt F i).2.length yc]) := hd 3 rfl
                    have d50 : ac.eval (.tmp 50) = (U8 (nth (rwAt F i).1 (lead (rwAt F j).1))) := hd 16 rfl
                    have d54 : ac.eval (.tmp 54) = (.agg #[.slice ra (rwAt F j).1.length rc, .slice sa (rwAt F j).2.length sc]) := hd 20 rfl
                    rw [if_pos (wanted_none rfl)]
                    refine ob_call rfl rfl rfl (Nat.lt_of_lt_of_eq (by decide : 55 < 65) hsz.symm) rfl (enter_of Try.func70 (by kernel_rfl) rfl) ?_
                    show Calls Try.prog 70 #[ac.eval (.tmp 37), ac.eval (.tmp 50), ac.eval (.tmp 54)] wc _
                    rw [d37, d50, d54]
                    exact (refless_step (rwAt F i) (rwAt F j) _ _ wc HDI.out HDJ.out hk ht HQ.out ⟨_, _, rfl, HXB.out.go hC, HYB.out.go hC⟩ ⟨_, _, rfl, HRB.out.go hC, HSB.out.go hC⟩).mono fun _ _ ⟨u, he, hu, hb⟩ => ⟨_, he, ⟨u, rfl, hu⟩, hb⟩
                  · intro ac wc hC hsz hfr hd hpr
                    have d55 : ∃ u, ac.eval (.tmp 55) = .tuple #[u, .int .i64 0] ∧ IsRow wc (u) (Ro.step (rwAt F i) (rwAt F j)).1 (Ro.step (rwAt F i) (rwAt F j)).2 := hd 21 rfl
                    rw [if_pos (wanted_none rfl)]
                    exact ob_copy rfl rfl rfl (Nat.lt_of_lt_of_eq (by decide : 33 < 65) hsz.symm) (Or.inl rfl) (Below.refl _ _) d55
                  · intro ac wc hC hsz hfr hd hpr
                    have d33 : ∃ u, ac.eval (.tmp 33) = .tuple #[u, .int .i64 0] ∧ IsRow wc (u) (Ro.step (rwAt F i) (rwAt F j)).1 (Ro.step (rwAt F i) (rwAt F j)).2 := hd 22 rfl
                    rw [if_pos (wanted_none rfl)]
                    obtain ⟨u, eu, hu⟩ := d33
                    exact ob_extract _ rfl rfl rfl (Nat.lt_of_lt_of_eq (by decide : 56 < 65) hsz.symm) rfl eu (extract0 _ _) (Below.refl _ _) hu
                  · intro ac wc hC hsz hfr hd hpr
                    have d33 : ∃ u, ac.eval (.tmp 33) = .tuple #[u, .int .i64 0] ∧ IsRow wc (u) (Ro.step (rwAt F i) (rwAt F j)).1 (Ro.step (rwAt F i) (rwAt F j)).2 := hd 22 rfl
                    rw [if_pos (wanted_none rfl)]
                    obtain ⟨u, eu, hu⟩ := d33
                    exact ob_extract _ rfl rfl rfl (Nat.lt_of_lt_of_eq (by decide : 57 < 65) hsz.symm) rfl eu (extract1 _ _) (Below.refl _ _) rfl
                  · intro ac wc hC hsz hfr hd hpr
                    rw [if_pos (wanted_none rfl)]
                    refine ob_value (.pointer (some ⟨wc.heap.size, 0, none⟩)) (wc.alloc (.cells #[.slice none 0 0, .slice none 0 0] 68)) rfl rfl rfl (Nat.lt_of_lt_of_eq (by decide : 8 < 65) hsz.symm) ?_ ((Below.refl _ _).alloc (Nat.le_refl _) _) ⟨_, _, rfl, hC.size, Blk.new _ _ _ _ rfl, rfl, noU8_two _ _ (slice_ne _ _ _) (slice_ne _ _ _)⟩
                    go_simp
                  · intro ac wc hC hsz hfr hd hpr
                    have d8 : IsBox wr wc (ac.eval (.tmp 8)) 2 68 := hd 25 rfl
                    have d56 : IsRow wc (ac.eval (.tmp 56)) (Ro.step (rwAt F i) (rwAt F j)).1 (Ro.step (rwAt F i) (rwAt F j)).2 := hd 23 rfl
                    rw [if_pos (wanted_none rfl)]
                    show Done _ (Ty.rowIn 8 (Ro.step (rwAt F i) (rwAt F j)).1 (Ro.step (rwAt F i) (rwAt F j)).2 68) _ _ _ _
                    exact ob_store_refrow rfl rfl d8 d56
                  · intro ac wc hC hsz hfr hd hpr
                    have d57 : ac.eval (.tmp 57) = (.int .i64 0) := hd 24 rfl
                    rw [if_pos (wanted_none rfl)]
                    exact ob_copy rfl rfl rfl (Nat.lt_of_lt_of_eq (by decide : 9 < 65) hsz.symm) (Or.inr rfl) (Below.refl _ _) d57
                intro a' w6 hC hdef hsz hfr hd
                have e34 : a'.eval (.tmp 34) = (.slice (some ⟨g, 0, none⟩) E.length vc) := hd 0 (by decide)
                have e35 : a'.eval (.tmp 35) = (.int .i64 (i : Int)) := hd 1 (by decide)
                have e36 : a'.eval (.tmp 36) = (.pointer (some ⟨g, i * 2, none⟩)) := hd 2 (by decide)
                have e37 : a'.eval (.tmp 37) = (.agg #[.slice (some ⟨xb, xo, none⟩) (rwAt F i).1.length xc, .slice ya (rwAt F i).2.length yc]) := hd 3 (by decide)
                have e38 : a'.eval (.tmp 38) = (.slice (some ⟨g, 0, none⟩) E.length vc) := hd 4 (by decide)
                have e39 : a'.eval (.tmp 39) = (.int .i64 (i : Int)) := hd 5 (by decide)
                have e40 : a'.eval (.tmp 40) = (.pointer (some ⟨g, i * 2, none⟩)) := hd 6 (by decide)
                have e41 : a'.eval (.tmp 41) = (.pointer (some ⟨g, i * 2, none⟩)) := hd 7 (by decide)
                have e42 : a'.eval (.tmp 42) = (.slice (some ⟨xb, xo, none⟩) (rwAt F i).1.length xc) := hd 8 (by decide)
                have e43 : a'.eval (.tmp 43) = (.slice (some ⟨g, 0, none⟩) E.length vc) := hd 9 (by decide)
                have e44 : a'.eval (.tmp 44) = (.int .i64 (j : Int)) := hd 10 (by decide)
                have e45 : a'.eval (.tmp 45) = (.pointer (some ⟨g, j * 2, none⟩)) := hd 11 (by decide)
                have e46 : a'.eval (.tmp 46) = (.pointer (some ⟨g, j * 2, none⟩)) := hd 12 (by decide)
                have e47 : a'.eval (.tmp 47) = (.slice ra (rwAt F j).1.length rc) := hd 13 (by decide)
                have e48 : a'.eval (.tmp 48) = (.int .i64 (lead (rwAt F j).1 : Int)) := hd 14 (by decide)
                have e49 : a'.eval (.tmp 49) = (.pointer (some ⟨xb, xo + lead (rwAt F j).1, none⟩)) := hd 15 (by decide)
                have e50 : a'.eval (.tmp 50) = (U8 (nth (rwAt F i).1 (lead (rwAt F j).1))) := hd 16 (by decide)
                have e51 : a'.eval (.tmp 51) = (.slice (some ⟨g, 0, none⟩) E.length vc) := hd 17 (by decide)
                have e52 : a'.eval (.tmp 52) = (.int .i64 (j : Int)) := hd 18 (by decide)
                have e53 : a'.eval (.tmp 53) = (.pointer (some ⟨g, j * 2, none⟩)) := hd 19 (by decide)
                have e54 : a'.eval (.tmp 54) = (.agg #[.slice ra (rwAt F j).1.length rc, .slice sa (rwAt F j).2.length sc]) := hd 20 (by decide)
                obtain ⟨x55, e55, r55⟩ : ∃ u, a'.eval (.tmp 55) = .tuple #[u, .int .i64 0] ∧ IsRow w6 (u) (Ro.step (rwAt F i) (rwAt F j)).1 (Ro.step (rwAt F i) (rwAt F j)).2 := hd 21 (by decide)
                replace r55 := Lib.hid r55
                obtain ⟨x33, e33, r33⟩ : ∃ u, a'.eval (.tmp 33) = .tuple #[u, .int .i64 0] ∧ IsRow w6 (u) (Ro.step (rwAt F i) (rwAt F j)).1 (Ro.step (rwAt F i) (rwAt F j)).2 := hd 22 (by decide)
                replace r33 := Lib.hid r33
                obtain ⟨x56, e56, r56⟩ : ∃ xq_, a'.eval (.tmp 56) = xq_ ∧ IsRow w6 (xq_) (Ro.step (rwAt F i) (rwAt F j)).1 (Ro.step (rwAt F i) (rwAt F j)).2 := ⟨_, rfl, hd 23 (by decide)⟩
                replace r56 := Lib.hid r56
                have e57 : a'.eval (.tmp 57) = (.int .i64 0) := hd 24 (by decide)
                obtain ⟨g8, x8, y8, z8, u8, e8, hg8, kb8, r8⟩ : RowIn wr w6 (a'.eval (.tmp 8)) (Ro.step (rwAt F i) (rwAt F j)).1 (Ro.step (rwAt F i) (rwAt F j)).2 68 := hd 26 (by decide)
                replace r8 := Lib.hid r8
                replace kb8 := Lib.hid kb8
                have e9 : a'.eval (.tmp 9) = (.int .i64 0) := hd 27 (by decide)
                have hact := act_puts hdef hsz hfr
                simp only [dstsOf, List.filterMap, putAll, Act.put, List.setIfInBounds_toArray, List.set_cons_succ, List.set_cons_zero, e34, e35, e36, e37, e38, e39, e40, e41, e42, e43, e44, e45, e46, e47, e48, e49, e50, e51, e52, e53, e54, e55, e33, e56, e57, e8, e9] at hact
                clear hd hfr hsz hdef e34 e35 e36 e37 e38 e39 e40 e41 e42 e43 e44 e45 e46 e47 e48 e49 e50 e51 e52 e53 e54 e55 e33 e56 e57 e8 e9
                subst hact
                replace HO2 := Lib.hid (HO2.out.go hC)
                replace B := B.trans (hC.mono B.size)
                clear hC
                have HI2 := Lib.hid (show i < F.length by omega)
                obtain ⟨c1, c2, c3, c4, hs0, hs1, _, _⟩ := HO2.out.cells i HI2.out
                have hf0 := HO2.out.free (i * 2)
                have hf1 := HO2.out.free (i * 2 + 1)
                obtain ⟨kb80, kb81⟩ := kb8.out.two
                have kb8l := kb8.out.lt
                go_wp2_with fail
                obtain ⟨o9, s9, g9⟩ := HO2.out.set i HI2.out (r := Ro.step (rwAt F i) (rwAt F j)) (x := .slice x8 (Ro.step (rwAt F i) (rwAt F j)).1.length y8) (y := .slice z8 (Ro.step (rwAt F i) (rwAt F j)).2.length u8) (by
                  obtain ⟨_, _, e, h, _⟩ := r8.out
                  simp only [Value.agg.injEq, Array.mk.injEq, List.cons.injEq, and_true] at e
                  rw [e.1]; exact h) (by
                  obtain ⟨_, _, e, _, h⟩ := r8.out
                  simp only [Value.agg.injEq, Array.mk.injEq, List.cons.injEq, and_true] at e
                  rw [e.2]; exact h)
                have HO9 := Lib.hid o9
                have HB9 := Lib.hid (below_grown B g9 B.size hBg)
                go_roundw
                case rel => exact ⟨j + 1, by omega, by go_num, by rw [HNX.out, HN2.out]; exact HO9.out, HB9.out⟩
                case measure => simp [intOf]; omega
            · obtain rfl : j = E.length := by omega
              have HNX := Lib.hid (show Ro.clrI E (i + 1) = Ro.clrK (Ro.clrI E i) i E.length by rw [Ro.clrI_succ, Ro.clrI_length])
              rw [HFQ.out] at HO2
              go_wp2_with fail
              go_roundw
              case rel => exact ⟨i + 1, by omega, by go_num, by rw [HNX.out]; exact HO2.out, B⟩
              case measure => simp [intOf]; omega
        · obtain rfl : i = E.length := by omega
          have HE8 := Lib.hid (show Ro.rows8 L = Ro.clrI E E.length by unfold Ro.rows8; rw [← HEQ.out])
          have HLN := Lib.hid (Ro.clrI_length E E.length)
          go_wp2_with fail
          go_ret
          exact ⟨_, rfl, ⟨by rw [HE8.out]; exact HO.out, fun e => by
            rw [HE8.out] at e
            have h := HLN.out
            rw [e] at h
            exact HNIL.out (List.length_eq_zero_iff.1 h.symm)⟩, B⟩

end Go.Proofs.Ytohfcdgpllghbaa
