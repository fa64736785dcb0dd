/- Texts of one seat, laid together: GridH, GridL, GridG, MonoL, ElimE0, ElimF. -/
import Derived.Test.YtphdadibfeencaaGreatSolveHoldsQ16
import Derived.Test.YtphdadibfeencaaGreatSolveHoldsQ9
import Derived.Test.YtphdadibfeencaaGreatSolveHoldsQ7
import Derived.Test.YtphdadibfeencaaGreatSolveHoldsQ10
import Derived.Test.YtphdadibfeencaaGreatSolveHoldsQ8
import Derived.Test.YtphdadibfeencaaGreatSolveHoldsQ5
import Derived.Test.YtphdadibfeencaaGreatSolveHoldsQ4
import Derived.Test.YtphdadibfeencaaGreatSolveHoldsQ15
import Derived.Test.YtphdadibfeencaaGreatSolveHoldsQ6

/-
  Grids in the program (layer 7): 'Of', 'Unit'.
-/
set_option maxRecDepth 100000
namespace Go.Proofs.YtphdadibfeencaaGreat
open Go.RowKit

set_option maxHeartbeats 400000 in
theorem of1_any (bx n c : Nat) (a : Option Addr) (m : Int) (w : World) (hbx : w.cell? ⟨bx, 0, none⟩ = some (.int .i64 m)) :
    Calls Tryz.prog 40 #[.slice a n c, .pointer (some ⟨bx, 0, none⟩)] w fun e w' => e = .returned (.bool ((n : Int) != m)) ∧ w = w' := by
  go_enter Tryz.func40, Tryz.ntmps40
  go_wp2_with fail
  go_ret
  exact ⟨rfl, rfl⟩

/-- Has each row this length? -/
def wideB (m : Int) (ll : List (List Nat)) : Bool := decide (∀ i, i < ll.length → ((rowAt ll i).length : Int) = m)

set_option maxHeartbeats 400000 in
theorem idxOf_some (bx b off cap : Nat) (m : Int) (ll : List (List Nat)) (w : World) (hbx : w.cell? ⟨bx, 0, none⟩ = some (.int .i64 m)) (hR : IsRows w (.slice (some ⟨b, off, none⟩) ll.length cap) ll) :
    Calls Tryz.prog 59 #[.slice (some ⟨b, off, none⟩) ll.length cap, .func (Fn.func 40) #[] #[.pointer (some ⟨bx, 0, none⟩)]] w (Found (!wideB m ll) w) := by
  have hcap : ll.length ≤ 9223372036854775807 := by obtain ⟨_, _, _, h1, h2, _⟩ := hR; omega
  have HR := Lib.hid hR
  clear hR
  go_enter Tryz.func59, Tryz.ntmps59
  go_wp2
  go_loop [5, 8] (fun _ i => ∃ k : Nat, k ≤ ll.length ∧ i = .int .i64 k ∧ ∀ j, j < k → ((rowAt ll j).length : Int) = m) (fun _ i => ll.length - (intOf i).toNat)
  case atStart => exact ⟨0, by omega, rfl, fun j hj => by omega⟩
  case round =>
    obtain ⟨k, hk, rfl, hno⟩ := hrel
    have HN := Lib.hid hno
    clear hno
    by_cases hlt : k < ll.length
    · obtain ⟨u, hu, hB⟩ := HR.out.cell k hlt
      obtain ⟨a1, c1, rfl, _⟩ := hB
      by_cases hq : ((rowAt ll k).length : Int) = m
      · have hb : (((rowAt ll k).length : Int) != m) = false := by rw [hq]; simp
        have HQ := Lib.hid hq
        clear hq
        go_wp2_with fail
        refine (of1_any _ _ _ _ _ _ hbx).mono ?_
        rintro e w' ⟨rfl, rfl⟩
        rw [hb]
        go_wp2_with fail
        go_round
        case rel => exact ⟨k + 1, by omega, by go_num, fun j hj => by
          by_cases h : j = k
          · rw [h]; exact HQ.out
          · exact HN.out j (by omega)⟩
        case measure => simp [intOf]; omega
      · have hb : (((rowAt ll k).length : Int) != m) = true := by rw [bne_iff_ne]; exact hq
        have HF := Lib.hid (show (!wideB m ll) = true by
          unfold wideB
          rw [Bool.not_eq_true', decide_eq_false_iff_not]
          exact fun h => hq (h k hlt))
        clear hq
        go_wp2_with fail
        refine (of1_any _ _ _ _ _ _ hbx).mono ?_
        rintro e w' ⟨rfl, rfl⟩
        rw [hb]
        go_wp2_with fail
        go_ret
        exact ⟨k, rfl, by rw [HF.out]; simp, rfl⟩
    · have HF := Lib.hid (show (!wideB m ll) = false by
        unfold wideB
        rw [Bool.not_eq_false', decide_eq_true_eq]
        exact fun i hi => HN.out i (by omega))
      go_wp2_with fail
      go_ret
      exact ⟨-1, rfl, by rw [HF.out]; decide, rfl⟩
theorem idxOf_any (bx : Nat) (m : Int) (v : Value) (ll : List (List Nat)) (w : World) (hbx : w.cell? ⟨bx, 0, none⟩ = some (.int .i64 m)) (hR : IsRows w v ll) :
    Calls Tryz.prog 39 #[v, .func (Fn.func 40) #[] #[.pointer (some ⟨bx, 0, none⟩)]] w fun e w' => e = .returned (.bool (!wideB m ll)) ∧ w = w' := by
  refine hasAlike_any _ _ _ _ ?_
  by_cases hl : ll.length = 0
  · obtain ⟨a, c, rfl⟩ := hR.shape
    rw [hl]
    have : (!wideB m ll) = false := by
      unfold wideB
      rw [Bool.not_eq_false', decide_eq_true_eq]
      intro i hi; omega
    rw [this]
    exact idxAlike_empty _ _ _ _
  · obtain ⟨a, c, rfl⟩ := hR.shape
    obtain ⟨b, off, u, rfl, _⟩ := hR.row (Below.refl _ _) 0 (by omega)
    exact idxOf_some bx b off c m ll w hbx hR

/-- The rows of what Of answers, and its width. -/
def ofL (m : Int) (ll : List (List Nat)) : List (List Nat) := if ofE m ll = 0 then ll else []
def ofM (m : Int) (ll : List (List Nat)) : Int := if ofE m ll = 0 then m else 0

set_option maxHeartbeats 2000000 in
theorem gof_any (v : Value) (m : Int) (ll : List (List Nat)) (w : World) (hR : IsRows w v ll) (hlen : ll.length ≤ 1000000) :
    Calls Tryz.prog 22 #[.int .i64 m, v] w (GridE w (ofM m ll) (ofL m ll) (ofE m ll)) := by
  have HR := Lib.hid hR
  obtain ⟨a, c, rfl⟩ := hR.shape
  clear hR
  have fin : ∀ (W : World) (e : Int), e ≠ 0 → ofE m ll = e → Below w.heap.size w W → GridE w (ofM m ll) (ofL m ll) (ofE m ll) (.returned (.tuple #[.agg #[.int .i64 0, .slice none 0 0], I64 e])) W := fun W e he h hb => by
    unfold ofM ofL
    rw [h, if_neg he, if_neg he]
    exact ⟨_, rfl, GridO.zero W _, hb⟩
  have FIN := Lib.hid fin
  clear fin
  by_cases hm : m < 0 ∨ 65536 < m
  · have HE := Lib.hid (show ofE m ll = 2 from if_pos hm)
    rcases hm with hm | hm
    · go_enter Tryz.func22, Tryz.ntmps22
      go_wp2_with fail
      obtain ⟨B, hk1, hk2, hs⟩ := blocks2 w #[.int .i64 m] 3 #[.int .i64 0, .slice none 0 0] 60
      generalize ((w.alloc (.cells #[.int .i64 m] 3)).alloc (.cells #[.int .i64 0, .slice none 0 0] 60)) = W at *
      have K1 := Lib.hid hk1
      have K2 := Lib.hid hk2
      have HS := Lib.hid hs
      clear hs hk1 hk2
      have hzW := B.size
      obtain ⟨k20, k21⟩ := K2.out.two
      have k2l := K2.out.lt
      obtain ⟨k2f0, k2f1⟩ := K2.out.fre2
      go_wp2_with fail
      exact bodyPost_ret (v := .tuple #[.agg #[.int .i64 0, .slice none 0 0], I64 2]) (by simp [results, Tryz.results22, go_sem, k20, k21]) rfl (FIN.out _ 2 (by decide) HE.out B)
    · have hm0 : ¬ m < 0 := by omega
      go_enter Tryz.func22, Tryz.ntmps22
      go_wp2_with fail
      obtain ⟨B, hk1, hk2, hs⟩ := blocks2 w #[.int .i64 m] 3 #[.int .i64 0, .slice none 0 0] 60
      generalize ((w.alloc (.cells #[.int .i64 m] 3)).alloc (.cells #[.int .i64 0, .slice none 0 0] 60)) = W at *
      have K1 := Lib.hid hk1
      have K2 := Lib.hid hk2
      have HS := Lib.hid hs
      clear hs hk1 hk2
      have hzW := B.size
      have c0 : W.cell? ⟨w.heap.size, 0, none⟩ = some (.int .i64 m) := K1.out.cell 0
      obtain ⟨k20, k21⟩ := K2.out.two
      have k2l := K2.out.lt
      obtain ⟨k2f0, k2f1⟩ := K2.out.fre2
      go_wp2_with fail
      exact bodyPost_ret (v := .tuple #[.agg #[.int .i64 0, .slice none 0 0], I64 2]) (by simp [results, Tryz.results22, go_sem, k20, k21]) rfl (FIN.out _ 2 (by decide) HE.out B)
  · have hm0 : ¬ m < 0 := by omega
    have hm1 : ¬ 65536 < m := by omega
    by_cases hmany : (65536 < (ll.length : Int) ∨ 65536 < (ll.length : Int) * m)
    · have HE := Lib.hid (show ofE m ll = 5 by
        unfold ofE
        rw [if_neg hm, if_pos (by omega)])
      have HT := Lib.hid (decide_eq_true hmany)
      clear hm hmany
      go_enter Tryz.func22, Tryz.ntmps22
      go_wp2_with fail
      obtain ⟨B, hk1, hk2, hs⟩ := blocks2 w #[.int .i64 m] 3 #[.int .i64 0, .slice none 0 0] 60
      generalize ((w.alloc (.cells #[.int .i64 m] 3)).alloc (.cells #[.int .i64 0, .slice none 0 0] 60)) = W at *
      have K1 := Lib.hid hk1
      have K2 := Lib.hid hk2
      have HS := Lib.hid hs
      clear hs hk1 hk2
      have hzW := B.size
      have c0 : W.cell? ⟨w.heap.size, 0, none⟩ = some (.int .i64 m) := K1.out.cell 0
      obtain ⟨k20, k21⟩ := K2.out.two
      have k2l := K2.out.lt
      obtain ⟨k2f0, k2f1⟩ := K2.out.fre2
      go_wp2_with fail
      refine (many_any (ll.length : Int) m _ (by omega) (by omega) (by omega)).mono ?_
      rintro e w' ⟨rfl, rfl⟩
      rw [HT.out]
      go_wp2_with fail
      obtain ⟨e0, e1, hB, _⟩ := store2 K2.out (Nat.le_succ _) B (int_ne _ _ (by decide)) (slice_ne _ _ _) (.int .i64 0) (.slice none 0 0)
      exact bodyPost_ret (v := .tuple #[.agg #[.int .i64 0, .slice none 0 0], I64 5]) (by simp [results, Tryz.results22, go_sem, e0, e1]) rfl (FIN.out _ 5 (by decide) HE.out hB)
    · have HT := Lib.hid (decide_eq_false hmany)
      cases hw : wideB m ll with
      | false =>
        have HE := Lib.hid (show ofE m ll = 4 by
          unfold ofE
          rw [if_neg hm, if_neg (by omega), if_neg]
          unfold wideB at hw
          exact of_decide_eq_false hw)
        have HWD := Lib.hid (show (!wideB m ll) = true by rw [hw]; rfl)
        clear hm hmany hw
        go_enter Tryz.func22, Tryz.ntmps22
        go_wp2_with fail
        obtain ⟨B, hk1, hk2, hs⟩ := blocks2 w #[.int .i64 m] 3 #[.int .i64 0, .slice none 0 0] 60
        generalize ((w.alloc (.cells #[.int .i64 m] 3)).alloc (.cells #[.int .i64 0, .slice none 0 0] 60)) = W at *
        have K1 := Lib.hid hk1
        have K2 := Lib.hid hk2
        have HS := Lib.hid hs
        clear hs hk1 hk2
        replace HR := Lib.hid (HR.out.go B)
        have hzW := B.size
        have c0 : W.cell? ⟨w.heap.size, 0, none⟩ = some (.int .i64 m) := K1.out.cell 0
        obtain ⟨k20, k21⟩ := K2.out.two
        have k2l := K2.out.lt
        obtain ⟨k2f0, k2f1⟩ := K2.out.fre2
        go_wp2_with fail
        refine (many_any (ll.length : Int) m _ (by omega) (by omega) (by omega)).mono ?_
        rintro e w' ⟨rfl, rfl⟩
        rw [HT.out]
        go_wp2_with fail
        refine (idxOf_any _ m _ ll _ c0 HR.out).mono ?_
        rintro e w' ⟨rfl, rfl⟩
        rw [HWD.out]
        go_wp2_with fail
        obtain ⟨e0, e1, hB, _⟩ := store2 K2.out (Nat.le_succ _) B (int_ne _ _ (by decide)) (slice_ne _ _ _) (.int .i64 0) (.slice none 0 0)
        exact bodyPost_ret (v := .tuple #[.agg #[.int .i64 0, .slice none 0 0], I64 4]) (by simp [results, Tryz.results22, go_sem, e0, e1]) rfl (FIN.out _ 4 (by decide) HE.out hB)
      | true =>
        have hw2 : ∀ i, i < ll.length → ((rowAt ll i).length : Int) = m := by
          unfold wideB at hw
          exact of_decide_eq_true hw
        have HE := Lib.hid (show ofE m ll = 0 by
          unfold ofE
          rw [if_neg hm, if_neg (by omega), if_pos hw2])
        have HWD := Lib.hid (show (!wideB m ll) = false by rw [hw]; rfl)
        have HLN := Lib.hid (show ∀ i, i < ll.length → (rowAt ll i).length ≤ 1000000000 from fun i hi => by have := hw2 i hi; omega)
        clear hm hmany hw hw2
        go_enter Tryz.func22, Tryz.ntmps22
        go_wp2_with fail
        have HR0 := HR
        obtain ⟨B, hk1, hk2, hs⟩ := blocks2 w #[.int .i64 m] 3 #[.int .i64 0, .slice none 0 0] 60
        generalize ((w.alloc (.cells #[.int .i64 m] 3)).alloc (.cells #[.int .i64 0, .slice none 0 0] 60)) = W at *
        have K1 := Lib.hid hk1
        have K2 := Lib.hid hk2
        have HS := Lib.hid hs
        clear hs hk1 hk2
        replace HR := Lib.hid (HR.out.go B)
        have hzW := B.size
        have c0 : W.cell? ⟨w.heap.size, 0, none⟩ = some (.int .i64 m) := K1.out.cell 0
        go_wp2_with fail
        refine (many_any (ll.length : Int) m _ (by omega) (by omega) (by omega)).mono ?_
        rintro e w' ⟨rfl, rfl⟩
        rw [HT.out]
        go_wp2_with fail
        refine (idxOf_any _ m _ ll _ c0 HR.out).mono ?_
        rintro e w' ⟨rfl, rfl⟩
        rw [HWD.out]
        go_wp2_with fail
        have hgW : w.heap.size + 1 < W.heap.size := K2.out.lt
        have hpr0 : Blk W.drew (w.heap.size + 1) #[.int .i64 0, .slice none 0 0] 60 := K2.out
        refine wp_region_mono (C := Ce W (w.heap.size + 1)) (R := Rb) (H := He W (w.heap.size + 1)) [TyE.val 22 (.int .i64 m), TyE.val 23 (.slice a ll.length c), (TyE.rowsm 24 W.heap.size hgW ll), (TyE.grido 25 W.heap.size hgW m ll), (TyE.storesGrid (.int .i64 0) (.slice none 0 0) W.heap.size m ll), TyE.val 5 (.int .i64 0)] (by kernel_rfl) (hC_e W (w.heap.size + 1)) (hCH_e W (w.heap.size + 1)) (drew_e W (w.heap.size + 1)) ⟨trivial, trivial, trivial, trivial, (hpr0), trivial, trivial⟩ (by kernel_rfl) ?_ ?_
        · refine ⟨?_, ?_, ?_, ?_, ?_, ?_, trivial⟩
          · intro ac wc hC hsz hfr hd hpr
            have d2 : ac.eval (.tmp 2) = (.pointer (some ⟨w.heap.size, 0, none⟩)) := hfr 2 rfl
            rw [if_pos (wanted_none rfl)]
            exact ob_load _ rfl rfl rfl (Nat.lt_of_lt_of_eq (by decide : 22 < 26) hsz.symm) rfl d2 (load_int (hC.1.cell c0 (by simp))) (Below.refl _ _) rfl
          · intro ac wc hC hsz hfr hd hpr
            have d1 : ac.eval (.tmp 1) = (.slice a ll.length c) := hfr 1 rfl
            rw [if_pos (wanted_none rfl)]
            exact ob_copy rfl rfl rfl (Nat.lt_of_lt_of_eq (by decide : 23 < 26) hsz.symm) (Or.inl rfl) (Below.refl _ _) d1
          · intro ac wc hC hsz hfr hd hpr
            have d23 : ac.eval (.tmp 23) = (.slice a ll.length c) := hd 1 rfl
            rw [if_pos (wanted_none rfl)]
            refine ob_call rfl rfl rfl (Nat.lt_of_lt_of_eq (by decide : 24 < 26) hsz.symm) rfl (enter_of Tryz.func41 (by kernel_rfl) rfl) ?_
            show Calls Tryz.prog 41 #[ac.eval (.tmp 23)] wc _
            rw [d23]
            exact (cloned_any _ ll wc (HR0.out.below (Nat.le_refl _) (below_grown B hC.1 B.size (Nat.le_succ _))) (by omega) HLN.out).mono fun e w' ⟨v', he, ho, hb⟩ => ⟨v', he, ho.mono hC.1.size, hb⟩
          · intro ac wc hC hsz hfr hd hpr
            have d22 : ac.eval (.tmp 22) = (.int .i64 m) := hd 0 rfl
            have d24 : OwnM wc W.heap.size 23 (ac.eval (.tmp 24)) ll := hd 2 rfl
            rw [if_pos (wanted_none rfl)]
            have hlt : 25 < ac.tmps.size := (Nat.lt_of_lt_of_eq (by decide : 25 < 26) hsz.symm)
            obtain ⟨pa, pc, e24⟩ := d24.shape
            rw [e24] at d24
            exact ob_build2 _ rfl rfl rfl hlt rfl d22 e24 build_grid (Below.refl _ _) ⟨_, rfl, d24⟩
          · intro ac wc hC hsz hfr hd hpr
            have d4 : ac.eval (.tmp 4) = (.pointer (some ⟨w.heap.size + 1, 0, none⟩)) := hfr 4 rfl
            have d25 : GridO wc W.heap.size (ac.eval (.tmp 25)) m ll := hd 3 rfl
            rw [if_pos (wanted_none rfl)]
            have hlt : 0 < ac.tmps.size := (Nat.lt_of_lt_of_eq (by decide : 0 < 26) hsz.symm)
            exact ob_storesGrid rfl d4 d25 hpr (int_ne _ _ (by decide)) (slice_ne _ _ _) hgW
          · intro ac wc hC hsz hfr hd hpr
            rw [if_pos (wanted_none rfl)]
            exact ob_copy rfl rfl rfl (Nat.lt_of_lt_of_eq (by decide : 5 < 26) hsz.symm) (Or.inr rfl) (Below.refl _ _) rfl
        intro a' W2 hC hdef hsz hfr hd
        have e22 : a'.eval (.tmp 22) = (.int .i64 m) := hd 0 (by decide)
        have e23 : a'.eval (.tmp 23) = (.slice a ll.length c) := hd 1 (by decide)
        obtain ⟨x24, e24, r24⟩ : ∃ xq_, a'.eval (.tmp 24) = xq_ ∧ OwnM W2 W.heap.size 23 (xq_) ll := ⟨_, rfl, hd 2 (by decide)⟩
        replace r24 := Lib.hid r24
        obtain ⟨x25, e25, r25⟩ : ∃ xq_, a'.eval (.tmp 25) = xq_ ∧ GridO W2 W.heap.size (xq_) m ll := ⟨_, rfl, hd 3 (by decide)⟩
        replace r25 := Lib.hid r25
        have st4 : GridIn W2 (w.heap.size + 1) W.heap.size m ll := hd 4 (by decide)
        replace st4 := Lib.hid st4
        have e5 : a'.eval (.tmp 5) = (.int .i64 0) := hd 5 (by decide)
        have hact := act_puts hdef hsz hfr
        simp only [dstsOf, List.filterMap, putAll, Act.put, List.setIfInBounds_toArray, List.set_cons_succ, List.set_cons_zero, e22, e23, e24, e25, e5] at hact
        clear hd hfr hsz hdef e22 e23 e24 e25 e5
        subst hact
        have HB2 := Lib.hid (below_grown B hC.1 B.size (Nat.le_succ _))
        obtain ⟨xa, xc, hx, hxo⟩ := st4.out
        obtain ⟨x0, x1⟩ := hx.two
        have HXO := Lib.hid hxo
        clear hC hx hxo
        go_wp2_with fail
        exact bodyPost_ret (v := .tuple #[.agg #[.int .i64 m, .slice xa ll.length xc], I64 0]) (by simp [results, Tryz.results22, go_sem, x0, x1]) rfl (by
          unfold ofM ofL
          rw [HE.out, if_pos rfl, if_pos rfl]
          exact ⟨_, rfl, ⟨_, rfl, HXO.out.mono B.size⟩, HB2.out⟩)

end Go.Proofs.YtphdadibfeencaaGreat

/-
  Grids in the program (layer 7): 'Inverse'.
-/
set_option maxRecDepth 100000
namespace Go.Proofs.YtphdadibfeencaaGreat
open Go.RowKit

/-- Rows that carry the unit's. -/
def carry (ll : List (List Nat)) : List Rw := (List.range ll.length).map fun i => (rowAt ll i, unitL ll.length i)
end Go.Proofs.YtphdadibfeencaaGreat

/-
  Grids in the program (layer 7): 'Rank', 'Of', 'Unit'.
-/
set_option maxRecDepth 100000
namespace Go.Proofs.YtphdadibfeencaaGreat
open Go.RowKit

theorem redOf_rank {k t : Nat} {L : List Rw} (hD : Ro.Dims k t L) : (Ro.redOf L).length = La.rk k (La.Sp (L.map f1)) := by
  obtain ⟨h1, h2⟩ := redOf_red hD L.length (Nat.le_refl _)
  rw [List.take_length] at h1 h2
  rw [← up_rank h1.up]
  exact La.rk_congr h2
theorem bare_fill (ll : List (List Nat)) (k : Nat) (h : k < ll.length) : rwAt (Ro.bare ll) k = (rowAt ll k, []) := Ro.bare_at ll k h

/-- The rank of a grid. -/
theorem rank_any (u : Value) (m : Int) (k : Nat) (ll : List (List Nat)) (w : World) (hG : IsGrid w u m ll) (hO : OctM ll) (hk : ∀ r ∈ ll, r.length = k) (hkk : k ≤ 10000000) (hlen : ll.length ≤ 1000000) :
    Calls Tryz.prog 24 #[u] w fun e w' => e = .returned (.int .i64 (rankL k ll : Int)) ∧ Below w.heap.size w w' := by
  obtain ⟨a, c, rfl, hR⟩ := hG
  have HR := Lib.hid hR
  have HD := Lib.hid (bare_dims hO hk)
  have HRK := Lib.hid (show (Ro.redOf (Ro.bare ll)).length = rankL k ll by rw [redOf_rank (bare_dims hO hk), bare_map]; rfl)
  have hbl := Ro.bare_length ll
  have HBL := Lib.hid hbl
  have hmk := make_vrows ll.length (by omega)
  clear hR hO hk hbl
  go_enter Tryz.func24, Tryz.ntmps24
  go_wp2_with fail
  obtain ⟨B, hk1, hk, hs⟩ := blocks2 w #[.int .i64 m, .slice a ll.length c] 60 (Array.replicate (ll.length * 2) (.slice none 0 0)) 46
  generalize (w.alloc (.cells #[.int .i64 m, .slice a ll.length c] 60)).alloc (.cells (Array.replicate (ll.length * 2) (.slice none 0 0)) 46) = W2 at *
  obtain ⟨g, hg⟩ : ∃ g : Nat, g = w.heap.size + 1 := ⟨_, rfl⟩
  rw [← hg] at hk
  simp only [← hg]
  have HM := Lib.hid (OwnL.made hk (Nat.le_refl g) (by omega : ll.length ≤ 1000000000))
  have HGW := Lib.hid (show w.heap.size ≤ g by omega)
  clear hk1 hk hs hmk hg
  go_loopw [4, 5, 13] (fun _ _ i wr => ∃ n : Nat, n ≤ ll.length ∧ i = .int .i64 n ∧ Below w.heap.size w wr ∧ OwnL wr g 46 (whole g ll.length) (fillL (Ro.bare ll) n)) (fun _ _ i _ => ll.length - (intOf i).toNat)
  case atStart => exact ⟨0, by omega, rfl, B, by rw [fillL_zero, HBL.out]; exact HM.out⟩
  case round =>
    clear B HM
    obtain ⟨n, hn, rfl, B, hO⟩ := hrel
    have HO := Lib.hid hO
    clear hO
    by_cases hlt : n < ll.length
    · obtain ⟨b, off, u, rfl, hu, hBr⟩ := HR.out.row B n hlt
      have HBR := Lib.hid hBr
      obtain ⟨ua, uc, rfl, _⟩ := hBr
      have k0 : (0 : Int) ≤ (n : Int) := Int.natCast_nonneg _
      have k1 : (n : Int) < (ll.length : Int) := by omega
      have HK := Lib.hid (show n < (fillL (Ro.bare ll) n).length by rw [fillL_length (by rw [HBL.out]; exact hn), HBL.out]; exact hlt)
      have HS := Lib.hid (fillL_set (R := Ro.bare ll) (k := n) (by rw [HBL.out]; exact hlt))
      rw [bare_fill ll n hlt] at HS
      obtain ⟨b1, d1, b2, d2, e0, e1, _, _⟩ := HO.out.cells n HK.out
      have f0 := HO.out.free (n * 2)
      have f1 := HO.out.free (n * 2 + 1)
      go_wp2_with fail
      obtain ⟨o1, s1, g1⟩ := HO.out.set n HK.out (r := (rowAt ll n, [])) HBR.out (Bytes.nil _)
      rw [HS.out] at o1
      have HO1 := Lib.hid o1
      have HB1 := Lib.hid (below_grown B g1 B.size HGW.out)
      clear o1 s1 g1
      go_roundw
      case rel => exact ⟨n + 1, by omega, by go_num, HB1.out, HO1.out⟩
      case measure => simp [intOf]; omega
    · obtain rfl : n = ll.length := by omega
      rw [show fillL (Ro.bare ll) ll.length = Ro.bare ll by rw [← HBL.out, fillL_all]] at HO
      go_wp2_with fail
      refine (reduced_any _ (Ro.bare ll) k 0 _ HO.out.list HD.out hkk (by omega) (by rw [HBL.out]; exact hlen)).mono ?_
      rintro e w2 ⟨v2, rfl, hv2, hb⟩
      replace B := B.trans (hb.mono B.size)
      have hzw2 := B.size
      clear hb
      obtain ⟨a2, c2, rfl⟩ := hv2.shape
      rw [HRK.out]
      go_wp2_with fail
      go_ret
      exact ⟨rfl, B⟩

end Go.Proofs.YtphdadibfeencaaGreat

/-
  A region in any order: rows and where they lead, in boxes and in lists.
-/
set_option maxRecDepth 100000
namespace Go.Proofs.YtphdadibfeencaaGreat
open Go.RowKit

section
variable {P : Program} {C : World → Prop} {R : World → World → Prop} {H : Nat → World → World → Prop} {a : Act} {w : World} {o : Oper} {Q : Exit → Act → World → Prop}
theorem ob_nil {T : Ty C R H} {t : Tmp} {x : Operand} {ad : Addr} (hS : T.S = [t]) (hh : T.kind = none) (hd : o.dst = some t) (hlt : t < a.tmps.size) (hop : o.op = .nilCheck x) (hx : a.eval x = .pointer (some ad))
    (hR : R w w) (hF : T.F [.pointer (some ad)] w) : Done P T Q o a w := by
  refine ob_value (.pointer (some ad)) w hS hh hd hlt ?_ hR hF
  simp [execOp, hop, hx]
end
theorem noU8_led (a a' : Option Addr) (n c n' c' : Nat) (i : Int) : NoU8 #[.slice a n c, .slice a' n' c', .int .i64 i] := fun j k => by
  match j with
  | 0 => simp
  | 1 => simp
  | 2 => intro e; simp at e
  | j + 3 => intro e; simp at e
section
variable {W : World}
theorem IsLed.hard {w w' : World} {v : Value} {r : Rw} (h : IsLed w v r) (hh : Hb W w w') : IsLed w' v r := by
  obtain ⟨a, b, e, h1, h2⟩ := h; exact ⟨a, b, e, h1.hard hh, h2.hard hh⟩
theorem IsLed.shape {w : World} {v : Value} {r : Rw} (h : IsLed w v r) : ∃ a c a' c', v = .agg #[.slice a r.1.length c, .slice a' r.2.length c', .int .i64 (lead r.1 : Int)] := by
  obtain ⟨_, _, rfl, ⟨a, c, rfl, _⟩, ⟨a', c', rfl, _⟩⟩ := h
  exact ⟨_, _, _, _, rfl⟩
def Ty.led (t : Tmp) (r : Rw) : TyB W := Ty.one t (fun v w => IsLed w v r) (fun _ _ _ _ hR h => h.go hR) (fun _ _ _ _ _ hH h => h.hard hH)
/-- A box made in the region holds the row at last. -/
def LedIn (W w : World) (v : Value) (r : Rw) : Prop := ∃ g a c a' c', v = .pointer (some ⟨g, 0, none⟩) ∧ W.heap.size ≤ g ∧ Blk w g #[.slice a r.1.length c, .slice a' r.2.length c', .int .i64 (lead r.1 : Int)] 125 ∧ IsLed w (.agg #[.slice a r.1.length c, .slice a' r.2.length c', .int .i64 (lead r.1 : Int)]) r
theorem LedIn.go {w w' : World} {v : Value} {r : Rw} (h : LedIn W w v r) (hb : Below w.heap.size w w') : LedIn W w' v r := by
  obtain ⟨g, a, c, a', c', e, hg, hk, hr⟩ := h
  exact ⟨g, a, c, a', c', e, hg, hk.go hb, hr.go hb⟩
def Ty.ledIn (t : Tmp) (r : Rw) : TyB W := Ty.writes t (fun v w => LedIn W w v r) (fun _ _ _ _ hR h => h.go hR)
end
theorem Blk.set3 {w : World} {g : Nat} {x y z : Value} {T : TypeId} (h : Blk w g #[x, y, z] T) (x' y' z' : Value) : Blk (((w.setCell ⟨g, 0, none⟩ x').setCell ⟨g, 1, none⟩ y').setCell ⟨g, 2, none⟩ z') g #[x', y', z'] T := ((h.set 0 x').set 1 y').set 2 z'
theorem Blk.three {w : World} {g : Nat} {x y z : Value} {T : TypeId} (h : Blk w g #[x, y, z] T) : w.cell? ⟨g, 0, none⟩ = some x ∧ w.cell? ⟨g, 1, none⟩ = some y ∧ w.cell? ⟨g, 2, none⟩ = some z := ⟨h.cell 0, h.cell 1, h.cell 2⟩
theorem load_led0 {w : World} {g : Nat} {x y z : Value} {T : TypeId} (h : Blk w g #[x, y, z] T) : (Instr.loadAt 125 (.pointer (some ⟨g, 0, none⟩))).run Tryz.prog w = .ok (.agg #[x, y, z]) w := by
  obtain ⟨k0, k1, k2⟩ := h.three
  go_simp
set_option maxHeartbeats 400000 in
theorem ob_store_led {W : World} {a : Act} {w : World} {o : Oper} {Q : Exit → Act → World → Prop} {t s : Tmp} {r : Rw} (hd : o.dst = none) (hop : o.op = .store 125 (.tmp t) (.tmp s)) (hA : IsBox W w (a.eval (.tmp t)) 3 125) (hV : IsLed w (a.eval (.tmp s)) r) :
    Done Tryz.prog (Ty.ledIn (W := W) t r) Q o a w := by
  obtain ⟨g, vs, eA, hg, hk, hs, hn⟩ := hA
  obtain ⟨a1, c1, a2, c2, eV⟩ := hV.shape
  obtain ⟨x, y, z, rfl⟩ : ∃ x y z, vs = #[x, y, z] := by
    obtain ⟨l⟩ := vs
    match l, hs with
    | [x, y, z], _ => exact ⟨x, y, z, rfl⟩
  obtain ⟨k0, k1, k2⟩ := hk.three
  have f0 := hk.free 0
  have f1 := hk.free 1
  have f2 := hk.free 2
  have hst := hk.set3 (.slice a1 r.1.length c1) (.slice a2 r.2.length c2) (.int .i64 (lead r.1 : Int))
  have hgr : w.grownBy (((w.setCell ⟨g, 0, none⟩ (.slice a1 r.1.length c1)).setCell ⟨g, 1, none⟩ (.slice a2 r.2.length c2)).setCell ⟨g, 2, none⟩ (.int .i64 (lead r.1 : Int))) (some g) := grown_trans (grown_trans (grown_setCell w ⟨g, 0, none⟩ _) (grown_setCell _ ⟨g, 1, none⟩ _)) (grown_setCell _ ⟨g, 2, none⟩ _)
  have hn2 : NoU8 #[.slice a1 r.1.length c1, .slice a2 r.2.length c2, .int .i64 (lead r.1 : Int)] := noU8_led _ _ _ _ _ _ _
  have hh : Hb W w (((w.setCell ⟨g, 0, none⟩ (.slice a1 r.1.length c1)).setCell ⟨g, 1, none⟩ (.slice a2 r.2.length c2)).setCell ⟨g, 2, none⟩ (.int .i64 (lead r.1 : Int))) := ⟨g, _, _, _, hg, hk, hn, hgr, hst, rfl, hn2⟩
  rw [eV] at hV
  refine ob_store (((w.setCell ⟨g, 0, none⟩ (.slice a1 r.1.length c1)).setCell ⟨g, 1, none⟩ (.slice a2 r.2.length c2)).setCell ⟨g, 2, none⟩ (.int .i64 (lead r.1 : Int))) rfl rfl hd ?_ hh ?_
  · have HH := Lib.hid hh
    have HV := Lib.hid hV
    clear hh hV hgr hst hn hn2 hk hs hg
    simp only [execOp, hop, eA, eV]
    go_simp
  · exact ⟨g, a1, c1, a2, c2, eA, hg, hst, hV.hard hh⟩

section
variable {W : World} {g : Nat}
def TyE.led (t : Tmp) (r : Rw) : Ty (Ce W g) Rb (He W g) := TyE.soft t (fun v w => IsLed w v r) fun _ _ _ hs ⟨a, b, e, h1, h2⟩ => ⟨a, b, e, h1.soft hs, h2.soft hs⟩
theorem IsLed.ce {w : World} {v : Value} {r : Rw} (h : IsLed W v r) (hC : Ce W g w) : IsLed w v r := by
  obtain ⟨a, b, e, h1, h2⟩ := h; exact ⟨a, b, e, h1.ce hC, h2.ce hC⟩
theorem OwnE.he {w w' : World} {c B : Nat} {v : Value} {E : List Rw} (hg : ∀ k, v.ownBlock = some k → k < W.heap.size) (h : OwnE w B v E) (hc : not0 c = true) (hH : He W g c w w') : OwnE w' B v E := by
  have hs := hH.soft
  unfold He at hH
  rw [if_neg (by simpa [not0] using hc)] at hH
  obtain ⟨g', vs, vs', T', hg', hk, hn, hw, _⟩ := hH
  refine h.other hw hs fun e => ?_
  have := hg g' e
  omega
/-- The store of a row into a system's list. -/
def TyE.storesE (v : Value) (hg : ∀ k, v.ownBlock = some k → k < W.heap.size) (B : Nat) (L L' : List Rw) : Ty (Ce W g) Rb (He W g) :=
  ⟨[], fun _ w => OwnE w B v L', some 0, not0, fun _ _ _ _ hR h => h.go hR, fun _ hc _ _ _ _ hH h => h.he hg hc hH,
    fun w => OwnE w B v L, not0, fun _ _ _ hR h => h.go hR, fun _ hc _ _ _ hH h => h.he hg hc hH⟩
end

set_option maxHeartbeats 400000 in
theorem ob_storesE {W : World} {g n cap B k : Nat} {L : List Rw} (hg : ∀ k, (Value.slice (some ⟨g, 0, none⟩) n cap).ownBlock = some k → k < W.heap.size) {a : Act} {w : World} {o : Oper} {Q : Exit → Act → World → Prop} {x y : Operand} {r : Rw} (hop : o.op = .store 46 x y) (hx : a.eval x = .pointer (some ⟨g, k * 3, none⟩)) (hV : IsRow w (a.eval y) r.1 r.2)
    (hk : k < L.length) (hld : lead r.1 = lead (rwAt L k).1) (hO : OwnE w B (.slice (some ⟨g, 0, none⟩) n cap) L) : Done Tryz.prog (TyE.storesE (W := W) (g := g) (.slice (some ⟨g, 0, none⟩) n cap) hg B L (L.set k r)) Q o a w := by
  obtain ⟨a1, c1, a2, c2, e⟩ := hV.shape
  rw [e] at hV
  obtain ⟨_, _, er, hb1, hb2⟩ := hV
  simp only [Value.agg.injEq, Array.mk.injEq, List.cons.injEq, and_true] at er
  obtain ⟨rfl, rfl⟩ := er
  obtain ⟨k1, k2, k3⟩ := hO.set k hk hb1 hb2 hld
  obtain ⟨b1, d1, b2, d2, e0, e1, _, _, _⟩ := hO.cells k hk
  have f0 := hO.free (k * 3)
  have f1 := hO.free (k * 3 + 1)
  refine ob_store0 ((w.setCell ⟨g, k * 3, none⟩ (.slice a1 r.1.length c1)).setCell ⟨g, k * 3 + 1, none⟩ (.slice a2 r.2.length c2)) rfl rfl hop hx e ?_ (by unfold He; rw [if_pos rfl]; exact ⟨k3, k2⟩) k1
  clear k1 k2 k3 hO hb1 hb2
  go_simp

end Go.Proofs.YtphdadibfeencaaGreat

/-
  Systems of equations in the program (layer 8): what 'grow' turns; its rows cleared of the new one.
-/
set_option maxRecDepth 100000
namespace Go.Proofs.YtphdadibfeencaaGreat
open Go.RowKit

/-- Of what was there, the system's own two blocks alone may have turned, and no byte. -/
structure Past (w w' : World) (g : Nat) (v : Value) : Prop where
  os : w'.os = w.os
  tape : w'.tape = w.tape
  output : w'.output = w.output
  size : w.heap.size ≤ w'.heap.size
  block : ∀ k, k < w.heap.size → k ≠ g → some k ≠ v.ownBlock → w'.heap[k]? = w.heap[k]?
  soft : Soft w w'
theorem Past.of_below {w w' : World} (g : Nat) (v : Value) (h : Below w.heap.size w w') : Past w w' g v := by
  have hg := grown_of_below h none
  exact ⟨hg.os, hg.tape, hg.output, hg.size, fun k hk _ _ => h.block k hk, Soft.of_below h⟩
theorem Past.grown {w a b : World} {g : Nat} {v : Value} {row : Option Nat} (h : Past w a g v) (hg : a.grownBy b row) (hs : Soft a b) (hr : ∀ k, row = some k → k < w.heap.size → k = g ∨ some k = v.ownBlock) : Past w b g v := by
  refine ⟨hg.os.trans h.os, hg.tape.trans h.tape, hg.output.trans h.output, Nat.le_trans h.size hg.size, fun k hk h1 h2 => ?_, h.soft.trans hs⟩
  rw [hg.block k (Nat.lt_of_lt_of_le hk h.size) fun e => by
    rcases hr k e.symm hk with e1 | e1
    · exact h1 e1
    · exact h2 e1]
  exact h.block k hk h1 h2
theorem Past.below {w a b : World} {g : Nat} {v : Value} (h : Past w a g v) (hb : Below a.heap.size a b) : Past w b g v := h.grown (grown_of_below hb none) (Soft.of_below hb) fun k e => by cases e
/-- Seen from a world ahead of both blocks: nothing turned. -/
theorem Past.under {n : Nat} {w0 w w' : World} {g : Nat} {v : Value} (h : Past w w' g v) (h0 : Below n w0 w) (hn : n ≤ w.heap.size) (hg : n ≤ g) (hv : ∀ k, v.ownBlock = some k → n ≤ k) : Below n w0 w' := by
  exact h0.trans ⟨h.os, h.tape, h.output, h.size, fun k hk => h.block k (by omega) (by omega) (fun e => by have := hv k e.symm; omega)⟩

theorem load_leds {w : World} {g k : Nat} {v : Value} (h : w.cell? ⟨g, k, none⟩ = some v) : (Instr.loadAt 108 (.pointer (some ⟨g, k, none⟩))).run Tryz.prog w = .ok v w := by
  go_simp
theorem load_vecrow3 {w : World} {g : Nat} {x y z : Value} {T : TypeId} (h : Blk w g #[x, y, z] T) : (Instr.loadAt 46 (.pointer (some ⟨g, 0, none⟩))).run Tryz.prog w = .ok (.agg #[x, y]) w := by
  obtain ⟨k0, k1, _⟩ := h.three
  go_simp
theorem build_led {a a' : Option Addr} {n c n' c' : Nat} {i : Int} {w : World} : (Instr.build 125 #[(0, .agg #[.slice a n c, .slice a' n' c']), (1, .int .i64 i)]).run Tryz.prog w = .ok (.agg #[.slice a n c, .slice a' n' c', .int .i64 i]) w := by
  go_simp
theorem lead_to (v : Value) (l : List Nat) (t : Int) (w : World) (hB : Bytes w v l) (ht : leadI l = t) :
    Calls Tryz.prog 64 #[v] w fun e w' => e = .returned (.int .i64 t) ∧ w = w' := by subst ht; exact lead_any v l w hB
/-- The box holds the row, and where it leads. -/
def ELed (w : World) (g : Nat) (r : Rw) : Prop := ∃ a c a' c', Blk w g #[.slice a r.1.length c, .slice a' r.2.length c', .int .i64 (lead r.1 : Int)] 125 ∧ IsLed w (.agg #[.slice a r.1.length c, .slice a' r.2.length c', .int .i64 (lead r.1 : Int)]) r

end Go.Proofs.YtphdadibfeencaaGreat

/-
  Systems of equations in the program (layer 8): the region of 'grow' that puts the new row in.
-/
set_option maxRecDepth 100000
namespace Go.Proofs.YtphdadibfeencaaGreat
open Go.RowKit

/-- The worlds behind W in which of what was there only the system's two blocks have turned. -/
def Cf (W : World) (g k t : Nat) (v : Value) (w : World) : Prop := Past W w g v ∧ ∃ a n c, Blk w g #[.int .i64 (k : Int), .int .i64 (t : Int), .slice a n c] 110
/-- A step that turns the system's box (kind 0), or its list. -/
def Hf (g k t : Nat) (v : Value) (c : Nat) (w w' : World) : Prop :=
  if c = 0 then (w.grownBy w' (some g) ∧ Soft w w' ∧ ∃ a n c, Blk w' g #[.int .i64 (k : Int), .int .i64 (t : Int), .slice a n c] 110) else (w.grownBy w' v.ownBlock ∧ Soft w w')
theorem Hf.soft {g k t c : Nat} {v : Value} {w w' : World} (h : Hf g k t v c w w') : Soft w w' := by
  unfold Hf at h; split at h
  · exact h.2.1
  · exact h.2
theorem hC_f (W : World) (g k t : Nat) (v : Value) : ∀ w w', Cf W g k t v w → Rb w w' → Cf W g k t v w' := fun _ _ ⟨h1, a, n, c, h2⟩ hb => ⟨h1.below hb, a, n, c, h2.go hb⟩
theorem hCH_f (W : World) (g k t : Nat) (v : Value) (hgv : v.ownBlock ≠ some g) : ∀ c w w', Cf W g k t v w → Hf g k t v c w w' → Cf W g k t v w' := by
  intro c w w' ⟨h1, a, n, cc, h2⟩ hH
  unfold Hf at hH; split at hH
  · exact ⟨h1.grown hH.1 hH.2.1 fun k e _ => by cases e; exact .inl rfl, hH.2.2⟩
  · exact ⟨h1.grown hH.1 hH.2 fun k e _ => .inr e.symm, a, n, cc, h2.grown hH.1 fun e => hgv e.symm⟩

section
variable {W : World} {g k t : Nat} {v : Value}
def TyF.val (s : Tmp) (x : Value) : Ty (Cf W g k t v) Rb (Hf g k t v) := Ty.val s x
/-- What is read of the system, ahead of any turn. -/
def TyF.reads (B0 : Nat) (M : List Rw) (s : Tmp) (x : Value) : Ty (Cf W g k t v) Rb (Hf g k t v) :=
  { TyF.val (W := W) (g := g) (k := k) (t := t) (v := v) s x with Pre := fun w => IsE w B0 g v k t M, okP := fun _ => false, preUp := fun _ _ _ hR h => h.go hR, preH := fun _ hc _ _ _ _ _ => by cases hc }
/-- A list of one. -/
def One1 (W w : World) (u : Value) (r : Rw) : Prop := ∃ vb a c a' c', u = .slice (some ⟨vb, 0, none⟩) 1 1 ∧ W.heap.size ≤ vb ∧ Blk w vb #[.slice a r.1.length c, .slice a' r.2.length c', .int .i64 (lead r.1 : Int)] 125 ∧ Bytes w (.slice a r.1.length c) r.1 ∧ Bytes w (.slice a' r.2.length c') r.2
def TyF.one1 (hg : g < W.heap.size) (hv : ∀ j, v.ownBlock = some j → j < W.heap.size) (s : Tmp) (r : Rw) : Ty (Cf W g k t v) Rb (Hf g k t v) :=
  Ty.one s (fun u w => One1 W w u r) (fun _ _ _ _ hR ⟨vb, a, c, a', c', e, h1, h2, h3, h4⟩ => ⟨vb, a, c, a', c', e, h1, h2.go hR, h3.go hR, h4.go hR⟩)
    fun _ _ _ _ _ hH ⟨vb, a, c, a', c', e, h1, h2, h3, h4⟩ => ⟨vb, a, c, a', c', e, h1, by
      unfold Hf at hH; split at hH
      · exact h2.grown hH.1 (by simp; omega)
      · exact h2.grown hH.1 fun e => by have := hv vb e.symm; omega, h3.soft hH.soft, h4.soft hH.soft⟩
/-- The list with the row in. -/
def Newl (W w : World) (B0 : Nat) (v : Value) (L : List Rw) (u : Value) : Prop := OwnE w B0 u L ∧ Near W v u
def TyF.newl (B0 : Nat) (M L : List Rw) (s : Tmp) : Ty (Cf W g k t v) Rb (Hf g k t v) :=
  ⟨[s], fun vs w => Newl W w B0 v L (vs.headD undef), some 1, fun c => decide (c = 0), fun _ _ _ _ hR ⟨h1, h2⟩ => ⟨h1.go hR, h2⟩, fun c hc _ w w' hCw hH ⟨h1, h2⟩ => ⟨by
      obtain rfl : c = 0 := by simpa using hc
      obtain ⟨_, a, n, cc, hk⟩ := hCw
      unfold Hf at hH
      rw [if_pos rfl] at hH
      exact h1.other hH.1 hH.2.1 (h1.ne_box hk (by decide)), h2⟩,
    fun w => IsE w B0 g v k t M, fun _ => false, fun _ _ _ hR h => h.go hR, fun _ hc _ _ _ _ _ => by cases hc⟩
/-- At last. -/
def TyF.done (B0 : Nat) (L : List Rw) : Ty (Cf W g k t v) Rb (Hf g k t v) :=
  ⟨[], fun _ w => ∃ u, IsE w B0 g u k t L ∧ Near W v u, some 0, fun _ => false, fun _ _ _ _ hR ⟨u, h, h2⟩ => ⟨u, h.go hR, h2⟩, (fun _ hc _ _ _ _ _ => by cases hc), fun _ => True, fun _ => true, fun _ _ _ _ _ => trivial, fun _ _ _ _ _ _ _ => trivial⟩
end

theorem build_sl1 {a a' : Option Addr} {n c n' c' : Nat} {i : Int} {w : World} : (Instr.buildSlice 108 1 #[(0, .agg #[.slice a n c, .slice a' n' c', .int .i64 i])]).run Tryz.prog w = .ok (.slice (some ⟨w.heap.size, 0, none⟩) 1 1) (w.alloc (.cells #[.slice a n c, .slice a' n' c', .int .i64 i] 125)) := by
  go_simp
section
variable {P : Program} {C : World → Prop} {R : World → World → Prop} {H : Nat → World → World → Prop} {a : Act} {w : World} {o : Oper} {Q : Exit → Act → World → Prop}
/-- A call that steps as a kind. -/
theorem ob_callH {T : Ty C R H} {t : Tmp} {f : FuncId} {args : Array Operand} {ats : Array TypeId} {c : Nat} (hS : T.S = [t]) (hh : T.kind = some c) (hd : o.dst = some t) (hlt : t < a.tmps.size)
    (hop : o.op = .call { callee := .value (.func f), args := args, argTypes := ats }) (hen : ∀ (vs : Array Value) (w : World), (callFunc f vs).run P w = .ok (.enter f vs) w)
    (hc : Calls P f (args.toList.map a.eval).toArray w fun e w' => ∃ v, e = .returned v ∧ T.F [v] w' ∧ H c w w') : Done P T Q o a w := by
  have e0 : args.map a.eval = (args.toList.map a.eval).toArray := by rw [← Array.toList_map, Array.toArray_toList]
  have hrun : (execOp a.eval o).run P w = .ok (.enter f (args.toList.map a.eval).toArray) w := by
    rw [← e0]
    simp [execOp, hop, resolve, invoke, Act.eval, Deferred.ofValue, hen]
  unfold Done Oper.wp
  rw [hrun]
  refine hc.mono ?_
  rintro e w' ⟨v, rfl, hF, hR⟩
  refine ⟨v, rfl, by unfold stepR; rw [hh]; exact hR, ?_⟩
  rw [hS, List.map_cons, List.map_nil, hd, eval_put_eq hlt]
  exact hF
end
/-- The list is stored into the system. -/
theorem ob_store_sys {W : World} {g k t B0 : Nat} {v : Value} {L : List Rw} {a : Act} {w : World} {o : Oper} {Q : Exit → Act → World → Prop} {x y : Operand} (hop : o.op = .store 108 x y) (hx : a.eval x = .pointer (some ⟨g, 2, none⟩)) (hV : Newl W w B0 v L (a.eval y)) (hC : Cf W g k t v w) (hB : B0 ≤ g) :
    Done Tryz.prog (TyF.done (W := W) (g := g) (k := k) (t := t) (v := v) B0 L) Q o a w := by
  obtain ⟨h1, h2⟩ := hV
  obtain ⟨_, b, n, c, hk⟩ := hC
  obtain ⟨xa, xc, ex⟩ := h1.shape
  rw [ex] at h1 h2
  have hset := hk.set 2 (.slice xa L.length xc)
  have hgr := grown_setCell w ⟨g, 2, none⟩ (.slice xa L.length xc)
  have no : ∀ (a : Option Addr) (n c i j : Nat), (#[.int .i64 (k : Int), .int .i64 (t : Int), .slice a n c] : Array Value)[i]? ≠ some (U8 j) := fun a n c i j e => by
    match i, e with
    | 0, e => simp at e
    | 1, e => simp at e
    | 2, e => simp at e
    | i + 3, e => simp at e
  have hs : Soft w (w.setCell ⟨g, 2, none⟩ (.slice xa L.length xc)) := Soft.of_box hgr hk (fun i j => no _ _ _ i j) hset (fun i j => no _ _ _ i j)
  have hO := h1.other hgr hs (h1.ne_box hk (by decide))
  have k2 : w.cell? ⟨g, 2, none⟩ = some (.slice b n c) := hk.cell 2
  have f2 := hk.free 2
  refine ob_store0 (w.setCell ⟨g, 2, none⟩ (.slice xa L.length xc)) rfl rfl hop hx ex ?_ (by unfold Hf; rw [if_pos rfl]; exact ⟨hgr, hs, _, _, _, hset⟩) ⟨_, ⟨hset, hO, hB⟩, h2⟩
  clear hset hgr no hs hO h1 h2 hk
  go_simp

end Go.Proofs.YtphdadibfeencaaGreat
