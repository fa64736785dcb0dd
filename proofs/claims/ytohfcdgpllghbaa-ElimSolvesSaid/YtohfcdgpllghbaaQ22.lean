/- Texts of one seat, laid together: RefGridF. -/
import Derived.Test.YtohfcdgpllghbaaQ21

/-
  The document's answer for grids (wellspringref07), in the program: 'Mul'.
-/
set_option maxRecDepth 100000
namespace Go.Proofs.Ytohfcdgpllghbaa
open Go.RowKit

/-- The product: row by row the combination. -/
def mulL (A bb : List (List Nat)) (m : Nat) : List (List Nat) := A.map fun r => combT r bb m
theorem mulL_length (A bb : List (List Nat)) (m : Nat) : (mulL A bb m).length = A.length := by simp [mulL]
theorem mulL_take (A bb : List (List Nat)) (m n : Nat) (h : n < A.length) : mulL (A.take (n + 1)) bb m = mulL (A.take n) bb m ++ [combT (rowAt A n) bb m] := by
  unfold mulL; rw [take_rowAt A n h, List.map_append]; rfl

/-- A row of the product, as far as it is. -/
def padC (r : List Nat) (bb : List (List Nat)) (m i k : Nat) : List Nat := combT r bb i ++ combAt r bb i k :: zeros (m - i - 1)
theorem padC_length {r : List Nat} {bb : List (List Nat)} {m i k : Nat} (h : i < m) : (padC r bb m i k).length = m := by simp [padC, combT_length, zeros]; omega
theorem padC_nth {r : List Nat} {bb : List (List Nat)} {m i k : Nat} (h : i < m) : nth (padC r bb m i k) i = combAt r bb i k := by
  rw [nth_eq _ _ (by rw [padC_length h]; exact h)]
  unfold padC
  rw [List.getElem_append_right (by rw [combT_length]; exact Nat.le_refl _)]
  simp [combT_length]
theorem padC_set {r : List Nat} {bb : List (List Nat)} {m i k k' : Nat} : (padC r bb m i k).set i (combAt r bb i k') = padC r bb m i k' := by
  unfold padC
  rw [List.set_append_right _ _ (by rw [combT_length]; exact Nat.le_refl _)]
  simp [combT_length]
/-- What the block holds ahead of place i. -/
def headC (r : List Nat) (bb : List (List Nat)) (m i : Nat) : List Nat := combT r bb i ++ zeros (m - i)
theorem headC_pad {r : List Nat} {bb : List (List Nat)} {m i : Nat} (h : i < m) : headC r bb m i = padC r bb m i 0 := by
  unfold headC padC
  obtain ⟨d, hd⟩ : ∃ d, m - i = d + 1 := ⟨m - i - 1, by omega⟩
  rw [hd]
  rfl
theorem padC_head {r : List Nat} {bb : List (List Nat)} {m i : Nat} : padC r bb m i bb.length = headC r bb m (i + 1) := by
  unfold headC padC
  rw [combT_succ, List.append_assoc, show m - (i + 1) = m - i - 1 by omega]
  rfl
theorem headC_end (r : List Nat) (bb : List (List Nat)) (m : Nat) : headC r bb m m = combT r bb m := by unfold headC; simp [zeros]
theorem headC_zero (r : List Nat) (bb : List (List Nat)) (m : Nat) : headC r bb m 0 = zeros m := by unfold headC; simp [combT]
theorem padC_lt {r : List Nat} {bb : List (List Nat)} {m i k : Nat} (hr : ∀ x, x ∈ r → x < 256) : ∀ x, x ∈ padC r bb m i k → x < 256 := by
  intro x hx
  unfold padC at hx
  rw [List.mem_append, List.mem_cons] at hx
  rcases hx with h | rfl | h
  · exact combT_lt hr bb i x h
  · exact combAt_lt hr bb i k
  · exact zeros_lt _ x h

set_option maxHeartbeats 2000000 in
theorem refmulL_any (v0 v1 : Value) (A bb : List (List Nat)) (m : Nat) (w : World) (h0 : IsRows w v0 A) (h1 : IsRows w v1 bb) (hA : ∀ j, j < A.length → (rowAt A j).length = bb.length) (hW : ∀ j, j < bb.length → (rowAt bb j).length = m) (hm : m ≤ 1000000) (hlen : A.length ≤ 1000000) (hlen1 : bb.length ≤ 1000000) :
    Calls Try.prog 25 #[v0, v1, .int .i64 (m : Int)] w fun e w' => ∃ v', e = .returned v' ∧ OwnM w' w.heap.size 35 v' (mulL A bb m) ∧ Below w.heap.size w w' := by
  have hmk := make_bytes m (by omega)
  have HA := Lib.hid h0
  have HB := Lib.hid h1
  have HO := Lib.hid h0.oct
  have HO1 := Lib.hid h1.oct
  have HWA := Lib.hid hA
  have HWB := Lib.hid hW
  obtain ⟨a0, c0, rfl⟩ := h0.shape
  obtain ⟨a1, c1, rfl⟩ := h1.shape
  clear h0 h1 hA hW
  go_enter Try.func25, Try.ntmps25
  go_wp2_with fail
  go_loopw [7, 9, 10, 11, 12, 15] (fun v _ _ _ _ i wr => ∃ n : Nat, n ≤ A.length ∧ i = .int .i64 n ∧ OwnM wr w.heap.size 35 v (mulL (A.take n) bb m) ∧ Below w.heap.size w wr) (fun _ _ _ _ _ i _ => A.length - (intOf i).toNat)
  case atStart => exact ⟨0, by omega, rfl, OwnM.nil _ _ _, Below.refl _ _⟩
  case round =>
    obtain ⟨n, hn, rfl, hM, B⟩ := hrel
    have HM := Lib.hid hM
    obtain ⟨va, vc, rfl⟩ := hM.shape
    clear hM
    have hz := B.size
    by_cases hlt : n < A.length
    · obtain ⟨rb, ro, u, rfl, hu, hBr⟩ := HA.out.row0 B n hlt
      have HR := Lib.hid hBr
      obtain ⟨ua, uc, rfl, _⟩ := id hBr
      have hrl := HWA.out n hlt
      have HRA := Lib.hid (hBr.apart hz)
      have HRL := Lib.hid hrl
      have HRO := Lib.hid hBr.lt
      clear hBr hrl
      obtain ⟨w1, hw1⟩ : ∃ w1 : World, w1 = wr := ⟨_, rfl⟩
      subst hw1
      go_wp2_with fail
      have HN := Lib.hid (show Own (w1.alloc (bytesObj (zeros m))) w1.heap.size (headC (rowAt A n) bb m 0) by rw [headC_zero]; exact Own.new w1 (zeros m))
      have HB1 := Lib.hid ((Below.refl w1.heap.size w1).alloc (Nat.le_refl _) (bytesObj (zeros m)))
      have HZ := Lib.hid (show List.replicate m 0 = zeros m from rfl)
      rw [HZ.out]
      generalize w1.alloc (bytesObj (zeros m)) = w2 at *
      go_loopw [11, 12] (fun i _ wr => ∃ k : Nat, k ≤ m ∧ i = .int .i64 k ∧ Own wr w1.heap.size (headC (rowAt A n) bb m k) ∧ Below w1.heap.size w1 wr) (fun i _ _ => m - (intOf i).toNat)
      case atStart => exact ⟨0, by omega, rfl, HN.out, HB1.out⟩
      case round =>
        obtain ⟨i, hi, rfl, hO, B1⟩ := hrel
        have HOW := Lib.hid hO
        clear hO
        by_cases hil : i < m
        · rw [headC_pad hil] at HOW
          go_wp2_with fail
          go_loopw [12] (fun k wr => ∃ k' : Nat, k' ≤ bb.length ∧ k = .int .i64 k' ∧ Own wr w1.heap.size (padC (rowAt A n) bb m i k') ∧ Below w1.heap.size w1 wr) (fun k _ => bb.length - (intOf k).toNat)
          case atStart => exact ⟨0, by omega, rfl, HOW.out, B1⟩
          case round =>
            obtain ⟨k, hk, rfl, hO, B2⟩ := hrel
            have HOK := Lib.hid hO
            clear hO
            by_cases hkl : k < bb.length
            · obtain ⟨bb', bo, u', rfl, hu', hBb⟩ := HB.out.row0 (B.trans (B2.mono hz)) k hkl
              obtain ⟨ua', uc', rfl, _⟩ := id hBb
              have hbl := HWB.out k hkl
              obtain ⟨cb, co, rfl, hcc⟩ := hBb.at i (by omega)
              have HRW := Lib.hid ((HR.out.go B).go B2)
              obtain ⟨db, dO, rfl, hdc⟩ := HRW.out.at k (by rw [HRL.out]; exact hkl)
              have hrl := HRL.out
              have hne : rowAt A n ≠ [] := by intro e; rw [e] at hrl; simp at hrl; omega
              have hdn : db ≠ w1.heap.size := by
                have := HRA.out hne
                simpa [Value.ownBlock] using this
              have hbne : rowAt bb k ≠ [] := by intro e; rw [e] at hbl; simp at hbl; omega
              have hcn : cb ≠ w1.heap.size := by
                have := hBb.apart hz hbne
                simpa [Value.ownBlock] using this
              have HC2 := Lib.hid (cell_keep hcc (B.trans (B2.mono hz)))
              have HDC := Lib.hid hdc
              have HUP := Lib.hid hu'
              have i0 : (0 : Int) ≤ (i : Int) := Int.natCast_nonneg _
              have i1 : (i : Int) < (m : Int) := by omega
              have k0 : (0 : Int) ≤ (k : Int) := Int.natCast_nonneg _
              have k1 : (k : Int) < (bb.length : Int) := by omega
              have k2 : (k : Int) < ((rowAt A n).length : Int) := by omega
              have i2 : (i : Int) < ((rowAt bb k).length : Int) := by omega
              have q1 : nth (rowAt A n) k < 256 := nth_lt HRO.out k
              have HS := Lib.hid (show bits BinOp.xor IntKind.u8 (combAt (rowAt A n) bb i k : Int) (Gf.mul (nth (rowAt A n) k) (nth (rowAt bb k) i) : Int) = (combAt (rowAt A n) bb i (k + 1) : Int) by
                rw [u8_xor_nat _ _ (combAt_lt HRO.out bb i k) (Gf.mul_lt q1 _)]; rfl)
              have HPL := Lib.hid (padC_length (r := rowAt A n) (bb := bb) (k := k) hil)
              have HPN := Lib.hid (padC_nth (r := rowAt A n) (bb := bb) (k := k) hil)
              have hb2 := HB.out.block_lt' k hkl
              go_wp2_with fail
              refine wp_region_mono (C := Cgo wr w1.heap.size) (R := Rb) (H := Hgo w1.heap.size) [Ty.val 32 (whole w1.heap.size m), Ty.val 33 (.int .i64 (i : Int)), Ty.val 34 (whole w1.heap.size m), Ty.val 35 (.int .i64 (i : Int)), Ty.val 36 (.pointer (some ⟨w1.heap.size, i, none⟩)), TyG.reads 37 (U8 (combAt (rowAt A n) bb i k)) (padC (rowAt A n) bb m i k), Ty.val 38 (.slice (some ⟨db, dO, none⟩) (rowAt A n).length uc), Ty.val 39 (.int .i64 (k : Int)), Ty.val 40 (.pointer (some ⟨db, dO + k, none⟩)), Ty.val 41 (U8 (nth (rowAt A n) k)), Ty.val 42 (.slice (some ⟨bb', bo, none⟩) bb.length c1), Ty.val 43 (.int .i64 (k : Int)), Ty.val 44 (.pointer (some ⟨bb', bo + k, none⟩)), Ty.val 45 (.slice (some ⟨cb, co, none⟩) (rowAt bb k).length uc'), Ty.val 46 (.int .i64 (i : Int)), Ty.val 47 (.pointer (some ⟨cb, co + i, none⟩)), Ty.val 48 (U8 (nth (rowAt bb k) i)), Ty.val 49 (U8 (Gf.mul (nth (rowAt A n) k) (nth (rowAt bb k) i))), Ty.val 50 (U8 (combAt (rowAt A n) bb i (k + 1))), Ty.val 51 (.pointer (some ⟨w1.heap.size, i, none⟩)), (TyG.stores (padC (rowAt A n) bb m i k) (padC (rowAt A n) bb m i (k + 1)))] (by kernel_rfl) (hC_go wr w1.heap.size) (hCH_go wr w1.heap.size) (drew_go wr w1.heap.size) ⟨trivial, trivial, trivial, trivial, trivial, (HOK.out), trivial, trivial, trivial, trivial, trivial, trivial, trivial, trivial, trivial, trivial, trivial, trivial, trivial, trivial, (HOK.out), trivial⟩ (by kernel_rfl) ?_ ?_
              · refine ⟨?_, ?_, ?_, ?_, ?_, ?_, ?_, ?_, ?_, ?_, ?_, ?_, ?_, ?_, ?_, ?_, ?_, ?_, ?_, ?_, ?_, trivial⟩
                · intro ac wc hC hsz hfr hd hpr
                  have d10 : ac.eval (.tmp 10) = (whole w1.heap.size m) := hfr 10 rfl
                  rw [if_pos (wanted_none rfl)]
                  exact ob_copy rfl rfl rfl (Nat.lt_of_lt_of_eq (by decide : 32 < 58) hsz.symm) (Or.inl rfl) (Below.refl _ _) d10
                · intro ac wc hC hsz hfr hd hpr
                  have d11 : ac.eval (.tmp 11) = (.int .i64 (i : Int)) := hfr 11 rfl
                  rw [if_pos (wanted_none rfl)]
                  exact ob_copy rfl rfl rfl (Nat.lt_of_lt_of_eq (by decide : 33 < 58) hsz.symm) (Or.inl rfl) (Below.refl _ _) d11
                · intro ac wc hC hsz hfr hd hpr
                  have d10 : ac.eval (.tmp 10) = (whole w1.heap.size m) := hfr 10 rfl
                  rw [if_pos (wanted_none rfl)]
                  exact ob_copy rfl rfl rfl (Nat.lt_of_lt_of_eq (by decide : 34 < 58) hsz.symm) (Or.inl rfl) (Below.refl _ _) d10
                · intro ac wc hC hsz hfr hd hpr
                  have d11 : ac.eval (.tmp 11) = (.int .i64 (i : Int)) := hfr 11 rfl
                  rw [if_pos (wanted_none rfl)]
                  exact ob_copy rfl rfl rfl (Nat.lt_of_lt_of_eq (by decide : 35 < 58) hsz.symm) (Or.inl rfl) (Below.refl _ _) d11
                · intro ac wc hC hsz hfr hd hpr
                  have d34 : ac.eval (.tmp 34) = (whole w1.heap.size m) := hd 2 rfl
                  have d35 : ac.eval (.tmp 35) = (.int .i64 (i : Int)) := hd 3 rfl
                  rw [if_pos (wanted_none rfl)]
                  exact ob_index _ rfl rfl rfl (Nat.lt_of_lt_of_eq (by decide : 36 < 58) hsz.symm) rfl d34 d35 (index_own _ hil) (Below.refl _ _) rfl
                · intro ac wc hC hsz hfr hd hpr
                  have d36 : ac.eval (.tmp 36) = (.pointer (some ⟨w1.heap.size, i, none⟩)) := hd 4 rfl
                  rw [if_pos (wanted_none rfl)]
                  have hlt : 37 < ac.tmps.size := (Nat.lt_of_lt_of_eq (by decide : 37 < 58) hsz.symm)
                  exact ob_load _ rfl rfl rfl hlt rfl d36 (load_u8 (by rw [Own.cell hpr i (by rw [HPL.out]; exact hil), HPN.out])) (Below.refl _ _) rfl
                · intro ac wc hC hsz hfr hd hpr
                  have d9 : ac.eval (.tmp 9) = (.slice (some ⟨db, dO, none⟩) (rowAt A n).length uc) := hfr 9 rfl
                  rw [if_pos (wanted_none rfl)]
                  exact ob_copy rfl rfl rfl (Nat.lt_of_lt_of_eq (by decide : 38 < 58) hsz.symm) (Or.inl rfl) (Below.refl _ _) d9
                · intro ac wc hC hsz hfr hd hpr
                  have d12 : ac.eval (.tmp 12) = (.int .i64 (k : Int)) := hfr 12 rfl
                  rw [if_pos (wanted_none rfl)]
                  exact ob_copy rfl rfl rfl (Nat.lt_of_lt_of_eq (by decide : 39 < 58) hsz.symm) (Or.inl rfl) (Below.refl _ _) d12
                · intro ac wc hC hsz hfr hd hpr
                  have d38 : ac.eval (.tmp 38) = (.slice (some ⟨db, dO, none⟩) (rowAt A n).length uc) := hd 6 rfl
                  have d39 : ac.eval (.tmp 39) = (.int .i64 (k : Int)) := hd 7 rfl
                  rw [if_pos (wanted_none rfl)]
                  exact ob_index _ rfl rfl rfl (Nat.lt_of_lt_of_eq (by decide : 40 < 58) hsz.symm) rfl d38 d39 (index_bytes _ (by rw [HRL.out]; exact hkl)) (Below.refl _ _) rfl
                · intro ac wc hC hsz hfr hd hpr
                  have d40 : ac.eval (.tmp 40) = (.pointer (some ⟨db, dO + k, none⟩)) := hd 8 rfl
                  rw [if_pos (wanted_none rfl)]
                  exact ob_load _ rfl rfl rfl (Nat.lt_of_lt_of_eq (by decide : 41 < 58) hsz.symm) rfl d40 (load_u8 (hC.cell HDC.out (by simpa using hdn))) (Below.refl _ _) rfl
                · intro ac wc hC hsz hfr hd hpr
                  have d1 : ac.eval (.tmp 1) = (.slice (some ⟨bb', bo, none⟩) bb.length c1) := hfr 1 rfl
                  rw [if_pos (wanted_none rfl)]
                  exact ob_copy rfl rfl rfl (Nat.lt_of_lt_of_eq (by decide : 42 < 58) hsz.symm) (Or.inl rfl) (Below.refl _ _) d1
                · intro ac wc hC hsz hfr hd hpr
                  have d12 : ac.eval (.tmp 12) = (.int .i64 (k : Int)) := hfr 12 rfl
                  rw [if_pos (wanted_none rfl)]
                  exact ob_copy rfl rfl rfl (Nat.lt_of_lt_of_eq (by decide : 43 < 58) hsz.symm) (Or.inl rfl) (Below.refl _ _) d12
                · intro ac wc hC hsz hfr hd hpr
                  have d42 : ac.eval (.tmp 42) = (.slice (some ⟨bb', bo, none⟩) bb.length c1) := hd 10 rfl
                  have d43 : ac.eval (.tmp 43) = (.int .i64 (k : Int)) := hd 11 rfl
                  rw [if_pos (wanted_none rfl)]
                  exact ob_index _ rfl rfl rfl (Nat.lt_of_lt_of_eq (by decide : 44 < 58) hsz.symm) rfl d42 d43 (by go_simp) (Below.refl _ _) rfl
                · intro ac wc hC hsz hfr hd hpr
                  have d44 : ac.eval (.tmp 44) = (.pointer (some ⟨bb', bo + k, none⟩)) := hd 12 rfl
                  rw [if_pos (wanted_none rfl)]
                  exact ob_load _ rfl rfl rfl (Nat.lt_of_lt_of_eq (by decide : 45 < 58) hsz.symm) rfl d44 (load_bytes (hC.cell HUP.out (by simp; omega))) (Below.refl _ _) rfl
                · intro ac wc hC hsz hfr hd hpr
                  have d11 : ac.eval (.tmp 11) = (.int .i64 (i : Int)) := hfr 11 rfl
                  rw [if_pos (wanted_none rfl)]
                  exact ob_copy rfl rfl rfl (Nat.lt_of_lt_of_eq (by decide : 46 < 58) hsz.symm) (Or.inl rfl) (Below.refl _ _) d11
                · intro ac wc hC hsz hfr hd hpr
                  have d45 : ac.eval (.tmp 45) = (.slice (some ⟨cb, co, none⟩) (rowAt bb k).length uc') := hd 13 rfl
                  have d46 : ac.eval (.tmp 46) = (.int .i64 (i : Int)) := hd 14 rfl
                  rw [if_pos (wanted_none rfl)]
                  exact ob_index _ rfl rfl rfl (Nat.lt_of_lt_of_eq (by decide : 47 < 58) hsz.symm) rfl d45 d46 (index_bytes _ (by rw [HWB.out k hkl]; exact hil)) (Below.refl _ _) rfl
                · intro ac wc hC hsz hfr hd hpr
                  have d47 : ac.eval (.tmp 47) = (.pointer (some ⟨cb, co + i, none⟩)) := hd 15 rfl
                  rw [if_pos (wanted_none rfl)]
                  exact ob_load _ rfl rfl rfl (Nat.lt_of_lt_of_eq (by decide : 48 < 58) hsz.symm) rfl d47 (load_u8 (hC.cell HC2.out (by simpa using hcn))) (Below.refl _ _) rfl
                · intro ac wc hC hsz hfr hd hpr
                  have d41 : ac.eval (.tmp 41) = (U8 (nth (rowAt A n) k)) := hd 9 rfl
                  have d48 : ac.eval (.tmp 48) = (U8 (nth (rowAt bb k) i)) := hd 16 rfl
                  rw [if_pos (wanted_none rfl)]
                  refine ob_call rfl rfl rfl (Nat.lt_of_lt_of_eq (by decide : 49 < 58) hsz.symm) rfl (enter_of Try.func63 (by kernel_rfl) rfl) ?_
                  show Calls Try.prog 63 #[ac.eval (.tmp 41), ac.eval (.tmp 48)] wc _
                  rw [d41, d48]
                  exact (refmul_any _ _ wc q1).mono fun _ _ ⟨he, hw⟩ => ⟨_, he, rfl, hw ▸ Below.refl _ _⟩
                · intro ac wc hC hsz hfr hd hpr
                  have d37 : ac.eval (.tmp 37) = (U8 (combAt (rowAt A n) bb i k)) := hd 5 rfl
                  have d49 : ac.eval (.tmp 49) = (U8 (Gf.mul (nth (rowAt A n) k) (nth (rowAt bb k) i))) := hd 17 rfl
                  rw [if_pos (wanted_none rfl)]
                  exact ob_bin _ rfl rfl rfl (Nat.lt_of_lt_of_eq (by decide : 50 < 58) hsz.symm) rfl d37 d49 (xor_u8 HS.out) (Below.refl _ _) rfl
                · intro ac wc hC hsz hfr hd hpr
                  have d32 : ac.eval (.tmp 32) = (whole w1.heap.size m) := hd 0 rfl
                  have d33 : ac.eval (.tmp 33) = (.int .i64 (i : Int)) := hd 1 rfl
                  rw [if_pos (wanted_none rfl)]
                  exact ob_index _ rfl rfl rfl (Nat.lt_of_lt_of_eq (by decide : 51 < 58) hsz.symm) rfl d32 d33 (index_own _ hil) (Below.refl _ _) rfl
                · intro ac wc hC hsz hfr hd hpr
                  have d51 : ac.eval (.tmp 51) = (.pointer (some ⟨w1.heap.size, i, none⟩)) := hd 19 rfl
                  have d50 : ac.eval (.tmp 50) = (U8 (combAt (rowAt A n) bb i (k + 1))) := hd 18 rfl
                  rw [if_pos (wanted_none rfl)]
                  have hlt : 0 < ac.tmps.size := (Nat.lt_of_lt_of_eq (by decide : 0 < 58) hsz.symm)
                  exact ob_store0 _ rfl rfl rfl d51 d50 (store_u8 (Own.cell hpr i (by rw [HPL.out]; exact hil)) (Own.free hpr i)) (grown_setCell wc ⟨w1.heap.size, i, none⟩ _) (show Own _ w1.heap.size (padC (rowAt A n) bb m i (k + 1)) by rw [← padC_set (k := k)]; exact Own.set hpr i _)
              intro a' w6 hC hdef hsz hfr hd
              have e32 : a'.eval (.tmp 32) = (whole w1.heap.size m) := hd 0 (by decide)
              have e33 : a'.eval (.tmp 33) = (.int .i64 (i : Int)) := hd 1 (by decide)
              have e34 : a'.eval (.tmp 34) = (whole w1.heap.size m) := hd 2 (by decide)
              have e35 : a'.eval (.tmp 35) = (.int .i64 (i : Int)) := hd 3 (by decide)
              have e36 : a'.eval (.tmp 36) = (.pointer (some ⟨w1.heap.size, i, none⟩)) := hd 4 (by decide)
              have e37 : a'.eval (.tmp 37) = (U8 (combAt (rowAt A n) bb i k)) := hd 5 (by decide)
              have e38 : a'.eval (.tmp 38) = (.slice (some ⟨db, dO, none⟩) (rowAt A n).length uc) := hd 6 (by decide)
              have e39 : a'.eval (.tmp 39) = (.int .i64 (k : Int)) := hd 7 (by decide)
              have e40 : a'.eval (.tmp 40) = (.pointer (some ⟨db, dO + k, none⟩)) := hd 8 (by decide)
              have e41 : a'.eval (.tmp 41) = (U8 (nth (rowAt A n) k)) := hd 9 (by decide)
              have e42 : a'.eval (.tmp 42) = (.slice (some ⟨bb', bo, none⟩) bb.length c1) := hd 10 (by decide)
              have e43 : a'.eval (.tmp 43) = (.int .i64 (k : Int)) := hd 11 (by decide)
              have e44 : a'.eval (.tmp 44) = (.pointer (some ⟨bb', bo + k, none⟩)) := hd 12 (by decide)
              have e45 : a'.eval (.tmp 45) = (.slice (some ⟨cb, co, none⟩) (rowAt bb k).length uc') := hd 13 (by decide)
              have e46 : a'.eval (.tmp 46) = (.int .i64 (i : Int)) := hd 14 (by decide)
              have e47 : a'.eval (.tmp 47) = (.pointer (some ⟨cb, co + i, none⟩)) := hd 15 (by decide)
              have e48 : a'.eval (.tmp 48) = (U8 (nth (rowAt bb k) i)) := hd 16 (by decide)
              have e49 : a'.eval (.tmp 49) = (U8 (Gf.mul (nth (rowAt A n) k) (nth (rowAt bb k) i))) := hd 17 (by decide)
              have e50 : a'.eval (.tmp 50) = (U8 (combAt (rowAt A n) bb i (k + 1))) := hd 18 (by decide)
              have e51 : a'.eval (.tmp 51) = (.pointer (some ⟨w1.heap.size, i, none⟩)) := hd 19 (by decide)
              have st20 : Own w6 w1.heap.size (padC (rowAt A n) bb m i (k + 1)) := hd 20 (by decide)
              replace st20 := Lib.hid st20
              have hact := act_puts hdef hsz hfr
              simp only [dstsOf, List.filterMap, putAll, Act.put, List.setIfInBounds_toArray, List.set_cons_succ, List.set_cons_zero, e32, e33, e34, e35, e36, e37, e38, e39, e40, e41, e42, e43, e44, e45, e46, e47, e48, e49, e50, e51] at hact
              clear hd hfr hsz hdef e32 e33 e34 e35 e36 e37 e38 e39 e40 e41 e42 e43 e44 e45 e46 e47 e48 e49 e50 e51
              subst hact
              have HBN := Lib.hid (below_grown B2 hC B2.size (Nat.le_refl _))
              clear hC
              go_wp2_with fail
              go_roundw
              case rel => exact ⟨k + 1, by omega, by go_num, st20.out, HBN.out⟩
              case measure => simp [intOf]; omega
            · obtain rfl : k = bb.length := by omega
              rw [padC_head] at HOK
              go_wp2_with fail
              go_roundw
              case rel => exact ⟨i + 1, by omega, by go_num, HOK.out, B2⟩
              case measure => simp [intOf]; omega
        · obtain rfl : i = m := by omega
          rw [headC_end] at HOW
          have HBY := Lib.hid (show Bytes _ (whole w1.heap.size i) (combT (rowAt A n) bb i) by
            have h := HOW.out.bytes (combT_lt HRO.out bb i) (by rw [combT_length]; omega)
            rwa [combT_length] at h)
          replace HM := Lib.hid (HM.out.go B1)
          have HST := Lib.hid (mulL_take A bb i n hlt)
          have HML := Lib.hid (mulL_length (A.take n) bb i)
          replace B := B.trans (B1.mono hz)
          have hzr := B.size
          go_wp2_with (at_builtin; refine wpList_append_m rfl (.tmp 52) (.tmp 54) rfl w.heap.size wr.heap.size _ _ (mulL (A.take n) bb i) (combT (rowAt A n) bb i) 35 rfl rfl rfl HBY.out HM.out ?c3 ?c4 ?_)
          case c3 => exact hzr
          case c4 => rw [HML.out]; simp; omega
          intro v' w2 hown2 hgr hs2
          rw [← HST.out] at hown2
          have HO2 := Lib.hid hown2
          have HG := Lib.hid ((B.alloc hzr _).grown hgr (by simp; omega) HM.out.from)
          clear hown2 hgr hs2
          go_wp2_with fail
          go_roundw
          case rel => exact ⟨n + 1, by omega, by go_num, HO2.out, HG.out⟩
          case measure => simp [intOf]; omega
    · obtain rfl : n = A.length := by omega
      rw [List.take_length] at HM ⊢
      go_wp2_with fail
      go_ret
      exact ⟨_, rfl, HM.out, B⟩

end Go.Proofs.Ytohfcdgpllghbaa
