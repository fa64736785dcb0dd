/- Texts of one seat, laid together: ElimE, ElimG, ElimM, SolveMath, ElimN, ElimQ. -/
import Derived.Test.YtphdadibfeencaaGreatSolveHoldsQ17
import Derived.Test.YtphdadibfeencaaGreatSolveHoldsQ11
import Derived.Test.YtphdadibfeencaaGreatSolveHoldsQ9
import Derived.Test.YtphdadibfeencaaGreatSolveHoldsQ15
import Derived.Test.YtphdadibfeencaaGreatSolveHoldsQ10
import Derived.Test.YtphdadibfeencaaGreatSolveHoldsQ16
import Derived.Test.YtphdadibfeencaaGreatSolveHoldsQ7
import Derived.Test.YtphdadibfeencaaGreatSolveHoldsQ8
import Derived.Test.YtphdadibfeencaaGreatSolveHoldsQ5
import Derived.Test.YtphdadibfeencaaGreatSolveHoldsQ4

/-
  Systems of equations in the program (layer 8): 'grow'.
-/
set_option maxRecDepth 100000
namespace Go.Proofs.YtphdadibfeencaaGreat
open Go.RowKit

theorem Past.trans {w a b : World} {g : Nat} {v : Value} (h : Past w a g v) (k : Past a b g v) : Past w b g v :=
  ⟨k.os.trans h.os, k.tape.trans h.tape, k.output.trans h.output, Nat.le_trans h.size k.size, fun i hi h1 h2 => (k.block i (Nat.lt_of_lt_of_le hi h.size) h1 h2).trans (h.block i hi h1 h2), h.soft.trans k.soft⟩

set_option maxHeartbeats 4000000 in
theorem grow_any (g B0 k t : Nat) (v u : Value) (E : List Rw) (y : Rw) (w : World) (hE : IsE w B0 g v k t E) (hu : IsRow w u y.1 y.2) (hR : RedR k t E) (hN : Newr k t E y) (hk : k ≤ 10000000) (ht : t ≤ 10000000) (hlen : E.length ≤ 1000000) :
    Calls Tryz.prog 72 #[.pointer (some ⟨g, 0, none⟩), u] w fun e w' => ∃ v', e = .returned (.tuple #[]) ∧ IsE w' B0 g v' k t (Ro.put (Ro.clean E y) y) ∧ Past w w' g v ∧ Near w v v' := by
  obtain ⟨v0, d0, rfl, hp, hq⟩ := hu
  have HP := Lib.hid hp
  have HQ := Lib.hid hq
  obtain ⟨a0, c0, rfl, _⟩ := hp
  obtain ⟨a1, c1, rfl, _⟩ := hq
  have HE := Lib.hid hE
  obtain ⟨va, vc, rfl⟩ := hE.2.1.shape
  have HR := Lib.hid hR
  have HN := Lib.hid hN
  have HVL := Lib.hid hE.2.1.lt
  have HLI := Lib.hid (show leadI y.1 = (lead y.1 : Int) from if_pos hN.lead)
  clear hE hR hN
  go_enter Tryz.func72, Tryz.ntmps72
  go_wp2_with fail
  obtain ⟨B, hk1, hs⟩ := blocks1 w #[.slice a0 y.1.length c0, .slice a1 y.2.length c1] 46
  generalize (w.alloc (.cells #[.slice a0 y.1.length c0, .slice a1 y.2.length c1] 46)) = W at *
  have K1 := Lib.hid hk1
  have HS := Lib.hid hs
  clear hs hk1
  replace HP := Lib.hid (HP.out.go B)
  replace HQ := Lib.hid (HQ.out.go B)
  replace HE := Lib.hid (HE.out.go B)
  have hzW := B.size
  refine wp_region_mono (C := Cb W) (R := Rb) (H := fun _ => Hb W) [Ty.val 7 (.agg #[.slice a0 y.1.length c0, .slice a1 y.2.length c1]), Ty.val 8 (.pointer (some ⟨w.heap.size, 0, none⟩)), Ty.val 9 (.slice a0 y.1.length c0), Ty.val 10 (.int .i64 (lead y.1 : Int)), (Ty.led 11 y), Ty.box 4 3 125, Ty.ledIn 4 y] (by kernel_rfl) (hC_b W) (hCH_b W) (drew_b W) ⟨trivial, trivial, trivial, trivial, trivial, trivial, trivial, trivial⟩ (by kernel_rfl) ?_ ?_
  · refine ⟨?_, ?_, ?_, ?_, ?_, ?_, ?_, trivial⟩
    · intro ac wc hC hsz hfr hd hpr
      have d3 : ac.eval (.tmp 3) = (.pointer (some ⟨w.heap.size, 0, none⟩)) := hfr 3 rfl
      rw [if_pos (wanted_none rfl)]
      exact ob_load _ rfl rfl rfl (Nat.lt_of_lt_of_eq (by decide : 7 < 48) hsz.symm) rfl d3 (load_vecrow (K1.out.go hC)) (Below.refl _ _) rfl
    · intro ac wc hC hsz hfr hd hpr
      have d3 : ac.eval (.tmp 3) = (.pointer (some ⟨w.heap.size, 0, none⟩)) := hfr 3 rfl
      rw [if_pos (wanted_none rfl)]
      exact ob_field _ rfl rfl rfl (Nat.lt_of_lt_of_eq (by decide : 8 < 48) hsz.symm) rfl d3 (fun w => by go_simp) (Below.refl _ _) rfl
    · intro ac wc hC hsz hfr hd hpr
      have d8 : ac.eval (.tmp 8) = (.pointer (some ⟨w.heap.size, 0, none⟩)) := hd 1 rfl
      rw [if_pos (wanted_none rfl)]
      exact ob_load _ rfl rfl rfl (Nat.lt_of_lt_of_eq (by decide : 9 < 48) hsz.symm) rfl d8 (load_vec ((K1.out.go hC).cell 0)) (Below.refl _ _) rfl
    · intro ac wc hC hsz hfr hd hpr
      have d9 : ac.eval (.tmp 9) = (.slice a0 y.1.length c0) := hd 2 rfl
      rw [if_pos (wanted_none rfl)]
      refine ob_call rfl rfl rfl (Nat.lt_of_lt_of_eq (by decide : 10 < 48) hsz.symm) rfl (enter_of Tryz.func64 (by kernel_rfl) rfl) ?_
      show Calls Tryz.prog 64 #[ac.eval (.tmp 9)] wc _
      rw [d9]
      exact (lead_to _ y.1 _ wc (HP.out.go hC) HLI.out).mono fun _ _ ⟨he, hw⟩ => ⟨_, he, rfl, hw ▸ Below.refl _ _⟩
    · intro ac wc hC hsz hfr hd hpr
      have d7 : ac.eval (.tmp 7) = (.agg #[.slice a0 y.1.length c0, .slice a1 y.2.length c1]) := hd 0 rfl
      have d10 : ac.eval (.tmp 10) = (.int .i64 (lead y.1 : Int)) := hd 3 rfl
      rw [if_pos (wanted_none rfl)]
      have hlt : 11 < ac.tmps.size := (Nat.lt_of_lt_of_eq (by decide : 11 < 48) hsz.symm)
      exact ob_build2 _ rfl rfl rfl hlt rfl d7 d10 build_led (Below.refl _ _) ⟨_, _, rfl, HP.out.go hC, HQ.out.go hC⟩
    · intro ac wc hC hsz hfr hd hpr
      rw [if_pos (wanted_none rfl)]
      refine ob_value (.pointer (some ⟨wc.heap.size, 0, none⟩)) (wc.alloc (.cells #[.slice none 0 0, .slice none 0 0, .int .i64 0] 125)) rfl rfl rfl (Nat.lt_of_lt_of_eq (by decide : 4 < 48) hsz.symm) ?_ ((Below.refl _ _).alloc (Nat.le_refl _) _) ⟨_, _, rfl, hC.size, Blk.new _ _ _ _ rfl, rfl, noU8_led _ _ _ _ _ _ _⟩
      go_simp
    · intro ac wc hC hsz hfr hd hpr
      have d4 : IsBox W wc (ac.eval (.tmp 4)) 3 125 := hd 5 rfl
      have d11 : IsLed wc (ac.eval (.tmp 11)) y := hd 4 rfl
      rw [if_pos (wanted_none rfl)]
      show Done _ (Ty.ledIn 4 y) _ _ _ _
      exact ob_store_led rfl rfl d4 d11
  intro a' W1 hC hdef hsz hfr hd
  have e7 : a'.eval (.tmp 7) = (.agg #[.slice a0 y.1.length c0, .slice a1 y.2.length c1]) := hd 0 (by decide)
  have e8 : a'.eval (.tmp 8) = (.pointer (some ⟨w.heap.size, 0, none⟩)) := hd 1 (by decide)
  have e9 : a'.eval (.tmp 9) = (.slice a0 y.1.length c0) := hd 2 (by decide)
  have e10 : a'.eval (.tmp 10) = (.int .i64 (lead y.1 : Int)) := hd 3 (by decide)
  obtain ⟨x11, e11, r11⟩ : ∃ xq_, a'.eval (.tmp 11) = xq_ ∧ IsLed W1 (xq_) y := ⟨_, rfl, hd 4 (by decide)⟩
  replace r11 := Lib.hid r11
  obtain ⟨g4, x4, y4, z4, u4, e4, hg4, kb4, r4⟩ : LedIn W W1 (a'.eval (.tmp 4)) y := hd 6 (by decide)
  replace r4 := Lib.hid r4
  replace kb4 := Lib.hid kb4
  have hact := act_puts hdef hsz hfr
  simp only [dstsOf, List.filterMap, putAll, Act.put, List.setIfInBounds_toArray, List.set_cons_succ, List.set_cons_zero, e7, e8, e9, e10, e11, e4] at hact
  clear hd hfr hsz hdef e7 e8 e9 e10 e11 e4
  subst hact
  replace HP := Lib.hid (HP.out.go hC)
  replace HQ := Lib.hid (HQ.out.go hC)
  replace HE := Lib.hid (HE.out.go hC)
  replace B := B.trans (hC.mono B.size)
  clear hC
  have hz4 := Lib.hid (show w.heap.size ≤ g4 by omega)
  have k2 := HE.out.c2
  have kl := HE.out.lt
  go_wp2_with fail
  go_loopw [5, 6, 17] (fun _ _ i wr => ∃ j : Nat, j ≤ E.length ∧ i = .int .i64 j ∧ Past w wr g (.slice va E.length vc) ∧ ELed wr g4 y ∧ IsE wr B0 g (.slice va E.length vc) k t (Ro.cleanK E y j)) (fun _ _ i _ => E.length - (intOf i).toNat)
  case atStart => exact ⟨0, by omega, rfl, Past.of_below _ _ B, ⟨_, _, _, _, kb4.out, r4.out⟩, by rw [Ro.cleanK_zero]; exact HE.out⟩
  case round =>
    clear HP HQ K1 kb4 r4 B k2 kl
    obtain ⟨j, hj, rfl, hPA, hL4, hE⟩ := hrel
    have HPA := Lib.hid hPA
    obtain ⟨x4, y4, z4, u4, hk4, hr4⟩ := hL4
    have K4 := Lib.hid hk4
    have R4 := Lib.hid hr4
    have RB := Lib.hid (show Bytes wr (.slice x4 y.1.length y4) y.1 ∧ Bytes wr (.slice z4 y.2.length u4) y.2 by
      obtain ⟨_, _, e, h1, h2⟩ := hr4
      simp only [Value.agg.injEq, Array.mk.injEq, List.cons.injEq, and_true] at e
      obtain ⟨rfl, rfl⟩ := e
      exact ⟨h1, h2⟩)
    clear hPA hk4 hr4
    by_cases hjl : j < E.length
    · obtain ⟨F, hF⟩ : ∃ F, F = Ro.cleanK E y j := ⟨_, rfl⟩
      have hFl : F.length = E.length := by rw [hF]; exact Ro.cleanK_length E y j
      have hFj : rwAt F j = rwAt E j := by rw [hF]; exact Ro.cleanK_at E y j
      have HNX := Lib.hid (show F.set j (Ro.step (rwAt E j) y) = Ro.cleanK E y (j + 1) by rw [hF]; exact Ro.cleanK_set E y j hjl)
      rw [← hF] at hE
      have HE := Lib.hid hE
      have HFL := Lib.hid (show j < F.length by rw [hFl]; exact hjl)
      have HFJ := Lib.hid hFj
      obtain ⟨gl, c', er, hBg, hgl⟩ := hE.2.1.addr (Nat.lt_of_le_of_lt (Nat.zero_le _) HFL.out)
      simp only [Value.slice.injEq] at er
      obtain ⟨rfl, -, rfl⟩ := er
      obtain ⟨ra, rc, sa, sc, hr0, hr1, hr2, hrb, hsb⟩ := hE.2.1.cells j HFL.out
      rw [hFj] at hr0 hr1 hr2 hrb hsb
      have HRB := Lib.hid hrb
      have HSB := Lib.hid hsb
      have HDJ := Lib.hid (HR.out.up.dims.at hjl)
      have HLD := Lib.hid (show lead (Ro.step (rwAt E j) y).1 = lead (rwAt F j).1 by rw [HFJ.out]; exact clean_lead HR.out HN.out (rwAt_mem hjl))
      have j1 : (j : Int) < (E.length : Int) := by omega
      have j0 : (0 : Int) ≤ (j : Int) := Int.natCast_nonneg _
      have hgg : g ≠ gl := fun e => hE.2.1.ne_box hE.1 (by decide) (by rw [e]; rfl)
      clear hrb hsb hF hFl hFj hE
      go_wp2_with fail
      obtain ⟨g6, hg6⟩ : ∃ g6 : Nat, g6 = wr.heap.size := ⟨_, rfl⟩
      have h6 : g6 ≠ gl := by omega
      have h4 : g4 ≠ gl := fun e => by
        have h1 := HVL.out gl rfl
        have h2 := hz4.out
        omega
      have B : Below wr.heap.size wr wr := Below.refl _ _
      obtain ⟨hb, hk, hs⟩ := blocks1 wr #[.slice ra (rwAt E j).1.length rc, .slice sa (rwAt E j).2.length sc, .int .i64 (lead (rwAt E j).1 : Int)] 125
      generalize wr.alloc (.cells #[.slice ra (rwAt E j).1.length rc, .slice sa (rwAt E j).2.length sc, .int .i64 (lead (rwAt E j).1 : Int)] 125) = W6 at *
      have K6 := Lib.hid hk
      replace HE := Lib.hid (HE.out.go hb)
      replace K4 := Lib.hid (K4.out.go hb)
      replace R4 := Lib.hid (R4.out.go hb)
      replace HRB := Lib.hid (HRB.out.go hb)
      replace HSB := Lib.hid (HSB.out.go hb)
      replace B := B.trans (hb.mono B.size)
      have hzW6 := B.size
      clear hb hk hs
      rw [← hg6] at K6
      simp only [← hg6]
      have HKG := Lib.hid (show ∀ k, (Value.slice (some ⟨gl, 0, none⟩) E.length vc).ownBlock = some k → k < W6.heap.size from HE.out.2.1.lt)
      have hpr0 : OwnE W6.drew B0 (.slice (some ⟨gl, 0, none⟩) E.length vc) F := HE.out.2.1.go (Below.refl _ _).drew
      clear hr0 hr1 hr2 hg6
      refine wp_region_mono (C := Ce W6 (gl)) (R := Rb) (H := He W6 (gl)) [TyE.val 22 (.pointer (some ⟨g, 0, none⟩)), TyE.val 23 (.pointer (some ⟨g, 0, none⟩)), TyE.val 24 (.pointer (some ⟨g, 2, none⟩)), TyE.val 25 (.slice (some ⟨gl, 0, none⟩) E.length vc), TyE.val 26 (.int .i64 (j : Int)), TyE.val 27 (.pointer (some ⟨g6, 0, none⟩)), TyE.row 28 (rwAt E j).1 (rwAt E j).2, TyE.led 29 y, TyE.row 30 (Ro.step (rwAt E j) y).1 (Ro.step (rwAt E j) y).2, TyE.val 31 (.pointer (some ⟨gl, j * 3, none⟩)), TyE.val 32 (.pointer (some ⟨gl, j * 3, none⟩)), (TyE.storesE (W := W6) (g := gl) (.slice (some ⟨gl, 0, none⟩) E.length vc) HKG.out B0 F (F.set j (Ro.step (rwAt E j) y)))] (by kernel_rfl) (hC_e W6 (gl)) (hCH_e W6 (gl)) (drew_e W6 (gl)) ⟨trivial, trivial, trivial, trivial, trivial, trivial, trivial, trivial, trivial, trivial, trivial, (hpr0), trivial⟩ (by kernel_rfl) ?_ ?_
      · refine ⟨?_, ?_, ?_, ?_, ?_, ?_, ?_, ?_, ?_, ?_, ?_, ?_, trivial⟩
        · intro ac wc hC hsz hfr hd hpr
          have d0 : ac.eval (.tmp 0) = (.pointer (some ⟨g, 0, none⟩)) := hfr 0 rfl
          rw [if_pos (wanted_none rfl)]
          exact ob_copy rfl rfl rfl (Nat.lt_of_lt_of_eq (by decide : 22 < 48) hsz.symm) (Or.inl rfl) (Below.refl _ _) d0
        · intro ac wc hC hsz hfr hd hpr
          have d22 : ac.eval (.tmp 22) = (.pointer (some ⟨g, 0, none⟩)) := hd 0 rfl
          rw [if_pos (wanted_none rfl)]
          exact ob_nil rfl rfl rfl (Nat.lt_of_lt_of_eq (by decide : 23 < 48) hsz.symm) rfl d22 (Below.refl _ _) rfl
        · intro ac wc hC hsz hfr hd hpr
          have d23 : ac.eval (.tmp 23) = (.pointer (some ⟨g, 0, none⟩)) := hd 1 rfl
          rw [if_pos (wanted_none rfl)]
          exact ob_field _ rfl rfl rfl (Nat.lt_of_lt_of_eq (by decide : 24 < 48) hsz.symm) rfl d23 (fun w => by go_simp) (Below.refl _ _) rfl
        · intro ac wc hC hsz hfr hd hpr
          have d24 : ac.eval (.tmp 24) = (.pointer (some ⟨g, 2, none⟩)) := hd 2 rfl
          rw [if_pos (wanted_none rfl)]
          exact ob_load _ rfl rfl rfl (Nat.lt_of_lt_of_eq (by decide : 25 < 48) hsz.symm) rfl d24 (load_leds ((HE.out.1.ce hC hgg).cell 2)) (Below.refl _ _) rfl
        · intro ac wc hC hsz hfr hd hpr
          have d5 : ac.eval (.tmp 5) = (.int .i64 (j : Int)) := hfr 5 rfl
          rw [if_pos (wanted_none rfl)]
          exact ob_copy rfl rfl rfl (Nat.lt_of_lt_of_eq (by decide : 26 < 48) hsz.symm) (Or.inl rfl) (Below.refl _ _) d5
        · intro ac wc hC hsz hfr hd hpr
          have d6 : ac.eval (.tmp 6) = (.pointer (some ⟨g6, 0, none⟩)) := hfr 6 rfl
          rw [if_pos (wanted_none rfl)]
          exact ob_field _ rfl rfl rfl (Nat.lt_of_lt_of_eq (by decide : 27 < 48) hsz.symm) rfl d6 (fun w => by go_simp) (Below.refl _ _) rfl
        · intro ac wc hC hsz hfr hd hpr
          have d27 : ac.eval (.tmp 27) = (.pointer (some ⟨g6, 0, none⟩)) := hd 5 rfl
          rw [if_pos (wanted_none rfl)]
          exact ob_load _ rfl rfl rfl (Nat.lt_of_lt_of_eq (by decide : 28 < 48) hsz.symm) rfl d27 (load_vecrow3 (K6.out.ce hC h6)) (Below.refl _ _) (⟨_, _, rfl, HRB.out.ce hC, HSB.out.ce hC⟩)
        · intro ac wc hC hsz hfr hd hpr
          have d4 : ac.eval (.tmp 4) = (.pointer (some ⟨g4, 0, none⟩)) := hfr 4 rfl
          rw [if_pos (wanted_none rfl)]
          exact ob_load _ rfl rfl rfl (Nat.lt_of_lt_of_eq (by decide : 29 < 48) hsz.symm) rfl d4 (load_led0 (K4.out.ce hC h4)) (Below.refl _ _) (R4.out.ce hC)
        · intro ac wc hC hsz hfr hd hpr
          have d28 : IsRow wc (ac.eval (.tmp 28)) (rwAt E j).1 (rwAt E j).2 := hd 6 rfl
          have d29 : IsLed wc (ac.eval (.tmp 29)) y := hd 7 rfl
          rw [if_pos (wanted_none rfl)]
          refine ob_call rfl rfl rfl (Nat.lt_of_lt_of_eq (by decide : 30 < 48) hsz.symm) rfl (enter_of Tryz.func84 (by kernel_rfl) rfl) ?_
          show Calls Tryz.prog 84 #[ac.eval (.tmp 28), ac.eval (.tmp 29)] wc _
          exact ewithout_any _ _ (rwAt E j) y k t wc d28 d29 HDJ.out HN.out.dim hk ht HN.out.lead
        · intro ac wc hC hsz hfr hd hpr
          have d25 : ac.eval (.tmp 25) = (.slice (some ⟨gl, 0, none⟩) E.length vc) := hd 3 rfl
          have d26 : ac.eval (.tmp 26) = (.int .i64 (j : Int)) := hd 4 rfl
          rw [if_pos (wanted_none rfl)]
          exact ob_index _ rfl rfl rfl (Nat.lt_of_lt_of_eq (by decide : 31 < 48) hsz.symm) rfl d25 d26 (by go_simp) (Below.refl _ _) rfl
        · intro ac wc hC hsz hfr hd hpr
          have d31 : ac.eval (.tmp 31) = (.pointer (some ⟨gl, j * 3, none⟩)) := hd 9 rfl
          rw [if_pos (wanted_none rfl)]
          exact ob_field _ rfl rfl rfl (Nat.lt_of_lt_of_eq (by decide : 32 < 48) hsz.symm) rfl d31 (fun w => by go_simp) (Below.refl _ _) rfl
        · intro ac wc hC hsz hfr hd hpr
          have d32 : ac.eval (.tmp 32) = (.pointer (some ⟨gl, j * 3, none⟩)) := hd 10 rfl
          have d30 : IsRow wc (ac.eval (.tmp 30)) (Ro.step (rwAt E j) y).1 (Ro.step (rwAt E j) y).2 := hd 8 rfl
          rw [if_pos (wanted_none rfl)]
          have hlt : 0 < ac.tmps.size := (Nat.lt_of_lt_of_eq (by decide : 0 < 48) hsz.symm)
          exact ob_storesE HKG.out rfl d32 d30 HFL.out HLD.out hpr
      intro a' W7 hC hdef hsz hfr hd
      have e22 : a'.eval (.tmp 22) = (.pointer (some ⟨g, 0, none⟩)) := hd 0 (by decide)
      have e23 : a'.eval (.tmp 23) = (.pointer (some ⟨g, 0, none⟩)) := hd 1 (by decide)
      have e24 : a'.eval (.tmp 24) = (.pointer (some ⟨g, 2, none⟩)) := hd 2 (by decide)
      have e25 : a'.eval (.tmp 25) = (.slice (some ⟨gl, 0, none⟩) E.length vc) := hd 3 (by decide)
      have e26 : a'.eval (.tmp 26) = (.int .i64 (j : Int)) := hd 4 (by decide)
      have e27 : a'.eval (.tmp 27) = (.pointer (some ⟨g6, 0, none⟩)) := hd 5 (by decide)
      obtain ⟨x28, e28, r28⟩ : ∃ xq_, a'.eval (.tmp 28) = xq_ ∧ IsRow W7 (xq_) (rwAt E j).1 (rwAt E j).2 := ⟨_, rfl, hd 6 (by decide)⟩
      replace r28 := Lib.hid r28
      obtain ⟨x29, e29, r29⟩ : ∃ xq_, a'.eval (.tmp 29) = xq_ ∧ IsLed W7 (xq_) y := ⟨_, rfl, hd 7 (by decide)⟩
      replace r29 := Lib.hid r29
      obtain ⟨x30, e30, r30⟩ : ∃ xq_, a'.eval (.tmp 30) = xq_ ∧ IsRow W7 (xq_) (Ro.step (rwAt E j) y).1 (Ro.step (rwAt E j) y).2 := ⟨_, rfl, hd 8 (by decide)⟩
      replace r30 := Lib.hid r30
      have e31 : a'.eval (.tmp 31) = (.pointer (some ⟨gl, j * 3, none⟩)) := hd 9 (by decide)
      have e32 : a'.eval (.tmp 32) = (.pointer (some ⟨gl, j * 3, none⟩)) := hd 10 (by decide)
      have st11 : OwnE W7 B0 (.slice (some ⟨gl, 0, none⟩) E.length vc) (F.set j (Ro.step (rwAt E j) y)) := hd 11 (by decide)
      replace st11 := Lib.hid st11
      have hact := act_puts hdef hsz hfr
      simp only [dstsOf, List.filterMap, putAll, Act.put, List.setIfInBounds_toArray, List.set_cons_succ, List.set_cons_zero, e22, e23, e24, e25, e26, e27, e28, e29, e30, e31, e32] at hact
      clear hd hfr hsz hdef e22 e23 e24 e25 e26 e27 e28 e29 e30 e31 e32
      subst hact
      have HPB := Lib.hid ((HPA.out.below B).grown hC.1 hC.2 fun k e _ => by cases e; exact .inr rfl)
      have HE7 := Lib.hid (show IsE W7 B0 g (.slice (some ⟨gl, 0, none⟩) E.length vc) k t (Ro.cleanK E y (j + 1)) from ⟨HE.out.1.ce hC hgg, by rw [← HNX.out]; exact st11.out, HE.out.2.2⟩)
      have HL7 := Lib.hid (show ELed W7 g4 y from ⟨_, _, _, _, K4.out.ce hC h4, R4.out.ce hC⟩)
      clear hC st11
      go_wp2_with fail
      go_roundw
      case rel => exact ⟨j + 1, by omega, by go_num, HPB.out, HL7.out, HE7.out⟩
      case measure => simp [intOf]; omega
    · obtain rfl : j = E.length := by omega
      rw [Ro.cleanK_all] at hE
      obtain ⟨M, hM⟩ : ∃ M, M = Ro.clean E y := ⟨_, rfl⟩
      rw [← hM] at hE
      have hMl : M.length = E.length := by rw [hM]; exact Ro.clean_length E y
      have HML := Lib.hid hMl
      have HMU := Lib.hid (show Ro.Up k t M by rw [hM]; exact clean_up HR.out HN.out)
      have HMN := Lib.hid (show ∀ s, s ∈ M → lead s.1 ≠ lead y.1 by
        rw [hM]
        intro s hs
        obtain ⟨o, ho, rfl⟩ := Ro.clean_mem hs
        rw [clean_lead HR.out HN.out ho]; exact HN.out.ne ho)
      have HM := Lib.hid hM
      have HE := Lib.hid hE
      have hgv : (Value.slice va E.length vc).ownBlock ≠ some g := hE.2.1.ne_box hE.1 (by decide)
      have hgl := hE.1.lt
      have hvl := hE.2.1.lt
      have h4g : g4 ≠ g := fun e => K4.out.ne hE.1 (by decide) e
      have h4v : some g4 ≠ (Value.slice va E.length vc).ownBlock := fun e => by
        have h1 := HVL.out g4 e.symm
        have h2 := hz4.out
        omega
      have HPL := Lib.hid (show ∀ wc, IsE wc B0 g (.slice va E.length vc) k t M → Calls Tryz.prog 86 #[.pointer (some ⟨g, 0, none⟩), .int .i64 (lead y.1 : Int)] wc fun e w' => e = .returned (.int .i64 (Ro.ahead M y : Int)) ∧ Below wc.heap.size wc w' from fun wc h => (place_any g B0 k t _ M _ wc h (by rw [HML.out]; exact hlen)).mono fun e w' ⟨r, he, ⟨h1, h2, h3⟩, hb⟩ => ⟨by
          rw [he, ahead_found HMU.out HMN.out h1 (fun h0 => fun h4 => by have := h2 h0; omega) (fun h0 => by have := h3 h0; omega)], hb⟩)
      have hal : Ro.ahead M y ≤ M.length := Ro.ahead_le M y
      clear hE hM hMl
      go_wp2_with fail
      have hC0 : Cf wr g k t (.slice va E.length vc) wr.drew := ⟨Past.of_below _ _ (Below.refl _ _).drew, _, _, _, HE.out.1.go (Below.refl _ _).drew⟩
      have hpr0 : IsE wr.drew B0 g (.slice va E.length vc) k t M := HE.out.go (Below.refl _ _).drew
      have k4 : ∀ wc, Cf wr g k t (.slice va E.length vc) wc → Blk wc g4 #[.slice x4 y.1.length y4, .slice z4 y.2.length u4, .int .i64 (lead y.1 : Int)] 125 := fun wc hc => by
        have h1 := K4.out
        unfold Blk at h1 ⊢
        rw [hc.1.block g4 K4.out.lt h4g h4v]; exact h1
      refine wp_region_mono (C := Cf wr g k t (.slice va E.length vc)) (R := Rb) (H := Hf g k t (.slice va E.length vc)) [TyF.val 34 (.pointer (some ⟨g, 0, none⟩)), TyF.val 35 (.pointer (some ⟨g, 0, none⟩)), TyF.val 36 (.pointer (some ⟨g, 0, none⟩)), TyF.val 37 (.pointer (some ⟨g, 2, none⟩)), (TyF.reads B0 M 38 (.slice va E.length vc)), TyF.val 39 (.pointer (some ⟨g, 0, none⟩)), TyF.val 40 (.pointer (some ⟨g4, 2, none⟩)), TyF.val 41 (.int .i64 (lead y.1 : Int)), (TyF.reads B0 M 42 (.int .i64 (Ro.ahead M y : Int))), TyF.val 43 (.agg #[.slice x4 y.1.length y4, .slice z4 y.2.length u4, .int .i64 (lead y.1 : Int)]), (TyF.one1 hgl hvl 44 y), (TyF.newl B0 M (M.take (Ro.ahead M y) ++ y :: M.drop (Ro.ahead M y)) 45), TyF.val 46 (.pointer (some ⟨g, 0, none⟩)), TyF.val 47 (.pointer (some ⟨g, 2, none⟩)), (TyF.done B0 (M.take (Ro.ahead M y) ++ y :: M.drop (Ro.ahead M y)))] (by kernel_rfl) (hC_f wr g k t (.slice va E.length vc)) (hCH_f wr g k t (.slice va E.length vc) hgv) (hC0) ⟨trivial, trivial, trivial, trivial, (hpr0), trivial, trivial, trivial, (hpr0), trivial, trivial, (hpr0), trivial, trivial, trivial, trivial⟩ (by kernel_rfl) ?_ ?_
      · refine ⟨?_, ?_, ?_, ?_, ?_, ?_, ?_, ?_, ?_, ?_, ?_, ?_, ?_, ?_, ?_, trivial⟩
        · intro ac wc hC hsz hfr hd hpr
          have d0 : ac.eval (.tmp 0) = (.pointer (some ⟨g, 0, none⟩)) := hfr 0 rfl
          rw [if_pos (wanted_none rfl)]
          exact ob_copy rfl rfl rfl (Nat.lt_of_lt_of_eq (by decide : 34 < 48) hsz.symm) (Or.inl rfl) (Below.refl _ _) d0
        · intro ac wc hC hsz hfr hd hpr
          have d0 : ac.eval (.tmp 0) = (.pointer (some ⟨g, 0, none⟩)) := hfr 0 rfl
          rw [if_pos (wanted_none rfl)]
          exact ob_copy rfl rfl rfl (Nat.lt_of_lt_of_eq (by decide : 35 < 48) hsz.symm) (Or.inl rfl) (Below.refl _ _) d0
        · intro ac wc hC hsz hfr hd hpr
          have d35 : ac.eval (.tmp 35) = (.pointer (some ⟨g, 0, none⟩)) := hd 1 rfl
          rw [if_pos (wanted_none rfl)]
          exact ob_nil rfl rfl rfl (Nat.lt_of_lt_of_eq (by decide : 36 < 48) hsz.symm) rfl d35 (Below.refl _ _) rfl
        · intro ac wc hC hsz hfr hd hpr
          have d36 : ac.eval (.tmp 36) = (.pointer (some ⟨g, 0, none⟩)) := hd 2 rfl
          rw [if_pos (wanted_none rfl)]
          exact ob_field _ rfl rfl rfl (Nat.lt_of_lt_of_eq (by decide : 37 < 48) hsz.symm) rfl d36 (fun w => by go_simp) (Below.refl _ _) rfl
        · intro ac wc hC hsz hfr hd hpr
          have d37 : ac.eval (.tmp 37) = (.pointer (some ⟨g, 2, none⟩)) := hd 3 rfl
          rw [if_pos (wanted_none rfl)]
          have hlt : 38 < ac.tmps.size := (Nat.lt_of_lt_of_eq (by decide : 38 < 48) hsz.symm)
          exact ob_load _ rfl rfl rfl hlt rfl d37 (load_leds hpr.c2) (Below.refl _ _) rfl
        · intro ac wc hC hsz hfr hd hpr
          have d0 : ac.eval (.tmp 0) = (.pointer (some ⟨g, 0, none⟩)) := hfr 0 rfl
          rw [if_pos (wanted_none rfl)]
          exact ob_copy rfl rfl rfl (Nat.lt_of_lt_of_eq (by decide : 39 < 48) hsz.symm) (Or.inl rfl) (Below.refl _ _) d0
        · intro ac wc hC hsz hfr hd hpr
          have d4 : ac.eval (.tmp 4) = (.pointer (some ⟨g4, 0, none⟩)) := hfr 4 rfl
          rw [if_pos (wanted_none rfl)]
          exact ob_field _ rfl rfl rfl (Nat.lt_of_lt_of_eq (by decide : 40 < 48) hsz.symm) rfl d4 (fun w => by go_simp) (Below.refl _ _) rfl
        · intro ac wc hC hsz hfr hd hpr
          have d40 : ac.eval (.tmp 40) = (.pointer (some ⟨g4, 2, none⟩)) := hd 6 rfl
          rw [if_pos (wanted_none rfl)]
          exact ob_load _ rfl rfl rfl (Nat.lt_of_lt_of_eq (by decide : 41 < 48) hsz.symm) rfl d40 (load_int ((k4 wc hC).cell 2)) (Below.refl _ _) rfl
        · intro ac wc hC hsz hfr hd hpr
          have d39 : ac.eval (.tmp 39) = (.pointer (some ⟨g, 0, none⟩)) := hd 5 rfl
          have d41 : ac.eval (.tmp 41) = (.int .i64 (lead y.1 : Int)) := hd 7 rfl
          rw [if_pos (wanted_none rfl)]
          have hlt : 42 < ac.tmps.size := (Nat.lt_of_lt_of_eq (by decide : 42 < 48) hsz.symm)
          refine ob_call rfl rfl rfl hlt rfl (enter_of Tryz.func86 (by kernel_rfl) rfl) ?_
          show Calls Tryz.prog 86 #[ac.eval (.tmp 39), ac.eval (.tmp 41)] wc _
          rw [d39, d41]
          exact (HPL.out wc hpr).mono fun _ _ ⟨he, hb⟩ => ⟨_, he, rfl, hb⟩
        · intro ac wc hC hsz hfr hd hpr
          have d4 : ac.eval (.tmp 4) = (.pointer (some ⟨g4, 0, none⟩)) := hfr 4 rfl
          rw [if_pos (wanted_none rfl)]
          exact ob_load _ rfl rfl rfl (Nat.lt_of_lt_of_eq (by decide : 43 < 48) hsz.symm) rfl d4 (load_led0 (k4 wc hC)) (Below.refl _ _) rfl
        · intro ac wc hC hsz hfr hd hpr
          have d43 : ac.eval (.tmp 43) = (.agg #[.slice x4 y.1.length y4, .slice z4 y.2.length u4, .int .i64 (lead y.1 : Int)]) := hd 9 rfl
          rw [if_pos (wanted_none rfl)]
          have hlt : 44 < ac.tmps.size := (Nat.lt_of_lt_of_eq (by decide : 44 < 48) hsz.symm)
          exact ob_slice1 _ _ rfl rfl rfl hlt rfl d43 build_sl1 ((Below.refl _ _).alloc (Nat.le_refl _) _) ⟨_, _, _, _, _, rfl, hC.1.size, Blk.new _ _ _ _ rfl, (RB.out.1.soft hC.1.soft).go ((Below.refl _ _).alloc (Nat.le_refl _) _), (RB.out.2.soft hC.1.soft).go ((Below.refl _ _).alloc (Nat.le_refl _) _)⟩
        · intro ac wc hC hsz hfr hd hpr
          have d38 : (ac.eval (.tmp 38)) = (.slice va E.length vc) := hd 4 rfl
          have d42 : (ac.eval (.tmp 42)) = (.int .i64 (Ro.ahead M y : Int)) := hd 8 rfl
          have d44 : One1 wr wc (ac.eval (.tmp 44)) y := hd 10 rfl
          rw [if_pos (wanted_none rfl)]
          have hlt : 45 < ac.tmps.size := (Nat.lt_of_lt_of_eq (by decide : 45 < 48) hsz.symm)
          obtain ⟨vb, xa, xc, ya, yc, e44, hvb, hkb, hb1, hb2⟩ := d44
          refine ob_callH rfl rfl rfl hlt rfl (enter_of Tryz.func85 (by kernel_rfl) rfl) ?_
          show Calls Tryz.prog 85 #[ac.eval (.tmp 38), ac.eval (.tmp 42), ac.eval (.tmp 44)] wc _
          rw [d38, d42, e44]
          exact (insled_any _ _ _ M (Ro.ahead M y) vb B0 y wc hpr.2.1 hal hkb hb1 hb2 (fun e => absurd (hvl vb e) (by omega)) (Nat.le_trans hpr.2.2 (Nat.le_of_lt hpr.1.lt)) (by have := HML.out; omega)).mono fun e w' ⟨v', he, ho, hg, hs, hn⟩ => ⟨v', he, ⟨ho, Near.trans (Near.same _ rfl) hn hC.1.size⟩, (by unfold Hf; rw [if_neg (by decide)]; exact ⟨hg, hs⟩)⟩
        · intro ac wc hC hsz hfr hd hpr
          have d34 : ac.eval (.tmp 34) = (.pointer (some ⟨g, 0, none⟩)) := hd 0 rfl
          rw [if_pos (wanted_none rfl)]
          exact ob_nil rfl rfl rfl (Nat.lt_of_lt_of_eq (by decide : 46 < 48) hsz.symm) rfl d34 (Below.refl _ _) rfl
        · intro ac wc hC hsz hfr hd hpr
          have d46 : ac.eval (.tmp 46) = (.pointer (some ⟨g, 0, none⟩)) := hd 12 rfl
          rw [if_pos (wanted_none rfl)]
          exact ob_field _ rfl rfl rfl (Nat.lt_of_lt_of_eq (by decide : 47 < 48) hsz.symm) rfl d46 (fun w => by go_simp) (Below.refl _ _) rfl
        · intro ac wc hC hsz hfr hd hpr
          have d47 : ac.eval (.tmp 47) = (.pointer (some ⟨g, 2, none⟩)) := hd 13 rfl
          have d45 : Newl wr wc B0 (.slice va E.length vc) (M.take (Ro.ahead M y) ++ y :: M.drop (Ro.ahead M y)) (ac.eval (.tmp 45)) := hd 11 rfl
          rw [if_pos (wanted_none rfl)]
          have hlt : 0 < ac.tmps.size := (Nat.lt_of_lt_of_eq (by decide : 0 < 48) hsz.symm)
          exact ob_store_sys rfl d47 d45 hC hpr0.2.2
      intro a' W7 hC hdef hsz hfr hd
      have e34 : a'.eval (.tmp 34) = (.pointer (some ⟨g, 0, none⟩)) := hd 0 (by decide)
      have e35 : a'.eval (.tmp 35) = (.pointer (some ⟨g, 0, none⟩)) := hd 1 (by decide)
      have e36 : a'.eval (.tmp 36) = (.pointer (some ⟨g, 0, none⟩)) := hd 2 (by decide)
      have e37 : a'.eval (.tmp 37) = (.pointer (some ⟨g, 2, none⟩)) := hd 3 (by decide)
      obtain ⟨x38, e38, r38⟩ : ∃ xq_, a'.eval (.tmp 38) = xq_ ∧ (xq_) = (.slice va E.length vc) := ⟨_, rfl, hd 4 (by decide)⟩
      replace r38 := Lib.hid r38
      have e39 : a'.eval (.tmp 39) = (.pointer (some ⟨g, 0, none⟩)) := hd 5 (by decide)
      have e40 : a'.eval (.tmp 40) = (.pointer (some ⟨g4, 2, none⟩)) := hd 6 (by decide)
      have e41 : a'.eval (.tmp 41) = (.int .i64 (lead y.1 : Int)) := hd 7 (by decide)
      obtain ⟨x42, e42, r42⟩ : ∃ xq_, a'.eval (.tmp 42) = xq_ ∧ (xq_) = (.int .i64 (Ro.ahead M y : Int)) := ⟨_, rfl, hd 8 (by decide)⟩
      replace r42 := Lib.hid r42
      have e43 : a'.eval (.tmp 43) = (.agg #[.slice x4 y.1.length y4, .slice z4 y.2.length u4, .int .i64 (lead y.1 : Int)]) := hd 9 (by decide)
      obtain ⟨x44, e44, r44⟩ : ∃ xq_, a'.eval (.tmp 44) = xq_ ∧ One1 wr W7 (xq_) y := ⟨_, rfl, hd 10 (by decide)⟩
      replace r44 := Lib.hid r44
      obtain ⟨x45, e45, r45⟩ : ∃ xq_, a'.eval (.tmp 45) = xq_ ∧ Newl wr W7 B0 (.slice va E.length vc) (M.take (Ro.ahead M y) ++ y :: M.drop (Ro.ahead M y)) (xq_) := ⟨_, rfl, hd 11 (by decide)⟩
      replace r45 := Lib.hid r45
      have e46 : a'.eval (.tmp 46) = (.pointer (some ⟨g, 0, none⟩)) := hd 12 (by decide)
      have e47 : a'.eval (.tmp 47) = (.pointer (some ⟨g, 2, none⟩)) := hd 13 (by decide)
      have st14 : ∃ u, IsE W7 B0 g u k t (M.take (Ro.ahead M y) ++ y :: M.drop (Ro.ahead M y)) ∧ Near wr (.slice va E.length vc) u := hd 14 (by decide)
      replace st14 := Lib.hid st14
      have hact := act_puts hdef hsz hfr
      simp only [dstsOf, List.filterMap, putAll, Act.put, List.setIfInBounds_toArray, List.set_cons_succ, List.set_cons_zero, e34, e35, e36, e37, e38, e39, e40, e41, e42, e43, e44, e45, e46, e47] at hact
      clear hd hfr hsz hdef e34 e35 e36 e37 e38 e39 e40 e41 e42 e43 e44 e45 e46 e47
      subst hact
      obtain ⟨ur, hur, hnr⟩ := st14.out
      have HFIN := Lib.hid (show IsE W7 B0 g ur k t (Ro.put (Ro.clean E y) y) by unfold Ro.put; rw [← HM.out]; exact hur)
      have HPQ := Lib.hid (HPA.out.trans hC.1)
      have HNR := Lib.hid (Near.trans (Near.same w rfl) hnr HPA.out.size)
      clear hur hnr st14 hC
      go_wp2_with fail
      go_end0
      exact ⟨ur, rfl, HFIN.out, HPQ.out, HNR.out⟩


end Go.Proofs.YtphdadibfeencaaGreat

/-
  Systems of equations in the program (layer 8): 'Put'.
-/
set_option maxRecDepth 100000
namespace Go.Proofs.YtphdadibfeencaaGreat
open Go.RowKit

/-- What comes of an equation. -/
def putC (E : List Rw) (x : Rw) : Int := if zeroB (Ro.rest E x).1 = false then 0 else if zeroB (Ro.rest E x).2 = true then 1 else 2
def PutE (w : World) (B0 g k t : Nat) (v : Value) (E : List Rw) (x : Rw) (e : Ending) (w' : World) : Prop := ∃ v', e = .returned (.tuple #[.int .i64 (putC E x), I64 0]) ∧ IsE w' B0 g v' k t (Ro.take1 E x) ∧ Past w w' g v ∧ Near w v v'

set_option maxHeartbeats 2000000 in
theorem eput_any (g B0 k t : Nat) (v u : Value) (E : List Rw) (x : Rw) (w : World) (hE : IsE w B0 g v k t E) (hu : IsRow w u x.1 x.2) (hR : RedR k t E) (hx : Ro.Dim k t x) (hk : k ≤ 10000000) (ht : t ≤ 10000000) (hlen : E.length ≤ 1000000) :
    Calls Tryz.prog 49 #[.pointer (some ⟨g, 0, none⟩), u] w (PutE w B0 g k t v E x) := by
  obtain ⟨v0, d0, rfl, hp, hq⟩ := hu
  have HP := Lib.hid hp
  have HQ := Lib.hid hq
  obtain ⟨a0, c0, rfl, _⟩ := hp
  obtain ⟨a1, c1, rfl, _⟩ := hq
  have HE := Lib.hid hE
  have HX := Lib.hid hx
  have HR := Lib.hid hR
  obtain ⟨y, hy⟩ : ∃ y, y = Ro.rest E x := ⟨_, rfl⟩
  have HY := Lib.hid hy
  have HYD := Lib.hid (show Ro.Dim k t y by rw [hy]; exact Ro.rest_dim hR.up.dims hx)
  have l1 : y.1.length ≤ 10000000 := by have := HYD.out.1; omega
  have l2 : y.2.length ≤ 10000000 := by have := HYD.out.2.1; omega
  cases hz : zeroB y.1 with
  | false =>
    have HZ := Lib.hid hz
    have HN := Lib.hid (show Newr k t E (Ro.norm y) by rw [hy]; exact newr_rest hR hx (by rw [← hy]; exact hz))
    have HT := Lib.hid (show Ro.take1 E x = Ro.put (Ro.clean E (Ro.norm y)) (Ro.norm y) by unfold Ro.take1; rw [← hy, if_neg (by rw [hz]; simp)])
    have HC := Lib.hid (show putC E x = 0 by unfold putC; rw [← hy, if_pos hz])
    clear hz hy hE hx hR
    unfold PutE
    rw [HC.out]
    go_enter Tryz.func49, Tryz.ntmps49
    go_wp2_with fail
    obtain ⟨B, hk1, hs⟩ := blocks1 w #[.slice a0 x.1.length c0, .slice a1 x.2.length c1] 46
    generalize (w.alloc (.cells #[.slice a0 x.1.length c0, .slice a1 x.2.length c1] 46)) = W at *
    have K1 := Lib.hid hk1
    have HS := Lib.hid hs
    clear hs hk1
    replace HP := Lib.hid (HP.out.go B)
    replace HQ := Lib.hid (HQ.out.go B)
    replace HE := Lib.hid (HE.out.go B)
    have hzW := B.size
    refine (erest_any g B0 k t _ _ E x _ HE.out ⟨_, _, rfl, HP.out, HQ.out⟩ HX.out HR.out.up.dims HR.out.up.leads hk ht hlen).mono ?_
    rintro e w1 ⟨u1, rfl, hu1, hb⟩
    replace HE := Lib.hid (HE.out.go hb)
    replace B := B.trans (hb.mono B.size)
    have hzw1 := B.size
    clear hb
    rw [← HY.out] at hu1
    obtain ⟨_, _, rfl, hp1, hq1⟩ := hu1
    have HP1 := Lib.hid hp1
    have HQ1 := Lib.hid hq1
    obtain ⟨a2, c2, rfl, _⟩ := hp1
    obtain ⟨a3, c3, rfl, _⟩ := hq1
    go_wp2_with fail
    obtain ⟨hb, hk, hs⟩ := blocks1 w1 #[.slice a2 y.1.length c2, .slice a3 y.2.length c3] 46
    generalize w1.alloc (.cells #[.slice a2 y.1.length c2, .slice a3 y.2.length c3] 46) = W2 at *
    have K2 := Lib.hid hk
    replace HE := Lib.hid (HE.out.go hb)
    replace HP1 := Lib.hid (HP1.out.go hb)
    replace HQ1 := Lib.hid (HQ1.out.go hb)
    replace B := B.trans (hb.mono B.size)
    have hzW2 := B.size
    clear hb hk hs
    refine (vzero_any _ y.1 _ HP1.out).mono ?_
    rintro e w' ⟨rfl, rfl⟩
    rw [HZ.out]
    obtain ⟨k20, k21⟩ := K2.out.two
    have k2l := K2.out.lt
    go_wp2_with fail
    refine (norm_any _ y.1 y.2 _ ⟨_, _, rfl, HP1.out, HQ1.out⟩ l1 l2).mono ?_
    rintro e w3 ⟨u3, rfl, hu3, hb⟩
    replace HE := Lib.hid (HE.out.go hb)
    replace B := B.trans (hb.mono B.size)
    have hzw3 := B.size
    clear hb
    go_wp2_with fail
    refine (grow_any g B0 k t v u3 E (Ro.norm y) w3 HE.out hu3 HR.out HN.out hk ht hlen).mono ?_
    rintro e w4 ⟨v4, rfl, q1, q2, q3⟩
    have HQ1' := Lib.hid q1
    have HQ2' := Lib.hid ((Past.of_below g v B).trans q2)
    have HQ3' := Lib.hid (Near.trans (Near.same w rfl) q3 B.size)
    clear q1 q2 q3
    go_wp2_with fail
    go_ret2
    exact ⟨v4, rfl, by rw [HT.out]; exact HQ1'.out, HQ2'.out, HQ3'.out⟩
  | true =>
    have HZ := Lib.hid hz
    have HT := Lib.hid (show Ro.take1 E x = E by unfold Ro.take1; rw [← hy, if_pos hz])
    cases hz2 : zeroB y.2 with
    | true =>
      have HZ2 := Lib.hid hz2
      have HC := Lib.hid (show putC E x = 1 by unfold putC; rw [← hy, if_neg (by rw [hz]; simp), if_pos hz2])
      clear hz hz2 hy hE hx hR
      unfold PutE
      rw [HC.out, HT.out]
      go_enter Tryz.func49, Tryz.ntmps49
      go_wp2_with fail
      obtain ⟨B, hk1, hs⟩ := blocks1 w #[.slice a0 x.1.length c0, .slice a1 x.2.length c1] 46
      generalize (w.alloc (.cells #[.slice a0 x.1.length c0, .slice a1 x.2.length c1] 46)) = W at *
      have K1 := Lib.hid hk1
      have HS := Lib.hid hs
      clear hs hk1
      replace HP := Lib.hid (HP.out.go B)
      replace HQ := Lib.hid (HQ.out.go B)
      replace HE := Lib.hid (HE.out.go B)
      have hzW := B.size
      refine (erest_any g B0 k t _ _ E x _ HE.out ⟨_, _, rfl, HP.out, HQ.out⟩ HX.out HR.out.up.dims HR.out.up.leads hk ht hlen).mono ?_
      rintro e w1 ⟨u1, rfl, hu1, hb⟩
      replace HE := Lib.hid (HE.out.go hb)
      replace B := B.trans (hb.mono B.size)
      have hzw1 := B.size
      clear hb
      rw [← HY.out] at hu1
      obtain ⟨_, _, rfl, hp1, hq1⟩ := hu1
      have HP1 := Lib.hid hp1
      have HQ1 := Lib.hid hq1
      obtain ⟨a2, c2, rfl, _⟩ := hp1
      obtain ⟨a3, c3, rfl, _⟩ := hq1
      go_wp2_with fail
      obtain ⟨hb, hk, hs⟩ := blocks1 w1 #[.slice a2 y.1.length c2, .slice a3 y.2.length c3] 46
      generalize w1.alloc (.cells #[.slice a2 y.1.length c2, .slice a3 y.2.length c3] 46) = W2 at *
      have K2 := Lib.hid hk
      replace HE := Lib.hid (HE.out.go hb)
      replace HP1 := Lib.hid (HP1.out.go hb)
      replace HQ1 := Lib.hid (HQ1.out.go hb)
      replace B := B.trans (hb.mono B.size)
      have hzW2 := B.size
      clear hb hk hs
      refine (vzero_any _ y.1 _ HP1.out).mono ?_
      rintro e w' ⟨rfl, rfl⟩
      rw [HZ.out]
      obtain ⟨k20, k21⟩ := K2.out.two
      have k2l := K2.out.lt
      go_wp2_with fail
      refine (vzero_any _ y.2 _ HQ1.out).mono ?_
      rintro e w' ⟨rfl, rfl⟩
      rw [HZ2.out]
      go_wp2_with fail
      go_ret2
      exact ⟨v, rfl, HE.out, Past.of_below _ _ B, Near.same _ rfl⟩
    | false =>
      have HZ2 := Lib.hid hz2
      have HC := Lib.hid (show putC E x = 2 by unfold putC; rw [← hy, if_neg (by rw [hz]; simp), if_neg (by rw [hz2]; simp)])
      clear hz hz2 hy hE hx hR
      unfold PutE
      rw [HC.out, HT.out]
      go_enter Tryz.func49, Tryz.ntmps49
      go_wp2_with fail
      obtain ⟨B, hk1, hs⟩ := blocks1 w #[.slice a0 x.1.length c0, .slice a1 x.2.length c1] 46
      generalize (w.alloc (.cells #[.slice a0 x.1.length c0, .slice a1 x.2.length c1] 46)) = W at *
      have K1 := Lib.hid hk1
      have HS := Lib.hid hs
      clear hs hk1
      replace HP := Lib.hid (HP.out.go B)
      replace HQ := Lib.hid (HQ.out.go B)
      replace HE := Lib.hid (HE.out.go B)
      have hzW := B.size
      refine (erest_any g B0 k t _ _ E x _ HE.out ⟨_, _, rfl, HP.out, HQ.out⟩ HX.out HR.out.up.dims HR.out.up.leads hk ht hlen).mono ?_
      rintro e w1 ⟨u1, rfl, hu1, hb⟩
      replace HE := Lib.hid (HE.out.go hb)
      replace B := B.trans (hb.mono B.size)
      have hzw1 := B.size
      clear hb
      rw [← HY.out] at hu1
      obtain ⟨_, _, rfl, hp1, hq1⟩ := hu1
      have HP1 := Lib.hid hp1
      have HQ1 := Lib.hid hq1
      obtain ⟨a2, c2, rfl, _⟩ := hp1
      obtain ⟨a3, c3, rfl, _⟩ := hq1
      go_wp2_with fail
      obtain ⟨hb, hk, hs⟩ := blocks1 w1 #[.slice a2 y.1.length c2, .slice a3 y.2.length c3] 46
      generalize w1.alloc (.cells #[.slice a2 y.1.length c2, .slice a3 y.2.length c3] 46) = W2 at *
      have K2 := Lib.hid hk
      replace HE := Lib.hid (HE.out.go hb)
      replace HP1 := Lib.hid (HP1.out.go hb)
      replace HQ1 := Lib.hid (HQ1.out.go hb)
      replace B := B.trans (hb.mono B.size)
      have hzW2 := B.size
      clear hb hk hs
      refine (vzero_any _ y.1 _ HP1.out).mono ?_
      rintro e w' ⟨rfl, rfl⟩
      rw [HZ.out]
      obtain ⟨k20, k21⟩ := K2.out.two
      have k2l := K2.out.lt
      go_wp2_with fail
      refine (vzero_any _ y.2 _ HQ1.out).mono ?_
      rintro e w' ⟨rfl, rfl⟩
      rw [HZ2.out]
      go_wp2_with fail
      go_ret2
      exact ⟨v, rfl, HE.out, Past.of_below _ _ B, Near.same _ rfl⟩

end Go.Proofs.YtphdadibfeencaaGreat

/-
  Systems of equations (layer 8): the program's rows are the document's. No program in this text.
-/
set_option maxRecDepth 100000
namespace Go.Proofs.YtphdadibfeencaaGreat
open Go.RowKit
open La

theorem red_rank1 {k t : Nat} {E : List Rw} (h : RedR k t E) : E.length = rk k (Sp (E.map f1)) := (up_rank h.up).symm
theorem put_length (L : List Rw) (y : Rw) : (Ro.put L y).length = L.length + 1 := by
  have := Ro.ahead_le L y
  simp [Ro.put]; omega
end Go.Proofs.YtphdadibfeencaaGreat

/-
  What equations say together (layer 9): what the program finds by putting them into a system is what the ranks say. No program in this text.
-/
set_option maxRecDepth 100000
namespace Go.Proofs.YtphdadibfeencaaGreat
open Go.RowKit
open La

/-- The program's clash behind so many. -/
def firstC (L : List Rw) : Nat → Int
  | 0 => -1
  | n + 1 => if putC (Ro.redOf (L.take n)) (rwAt L n) = 2 ∧ firstC L n < 0 then (n : Int) else firstC L n
theorem first_succ (L : List Rw) (n : Nat) : firstC L (n + 1) = if putC (Ro.redOf (L.take n)) (rwAt L n) = 2 ∧ firstC L n < 0 then (n : Int) else firstC L n := rfl
theorem first_ge (L : List Rw) : ∀ n : Nat, -1 ≤ firstC L n ∧ firstC L n ≤ (n : Int)
  | 0 => by show (-1 : Int) ≤ -1 ∧ (-1 : Int) ≤ ((0 : Nat) : Int); omega
  | n + 1 => by
    have h := first_ge L n
    rw [first_succ]
    by_cases hc : putC (Ro.redOf (L.take n)) (rwAt L n) = 2 ∧ firstC L n < 0
    · rw [if_pos hc]; omega
    · rw [if_neg hc]; omega

end Go.Proofs.YtphdadibfeencaaGreat

/-
  Systems of equations in the program (layer 8): what stays while a system takes an equation.
-/
set_option maxRecDepth 100000
namespace Go.Proofs.YtphdadibfeencaaGreat
open Go.RowKit

theorem IsE.mono {w : World} {B C g k t : Nat} {v : Value} {E : List Rw} (h : IsE w B g v k t E) (hC : C ≤ B) : IsE w C g v k t E := ⟨h.1, h.2.1.mono hC, Nat.le_trans hC h.2.2⟩
/-- A box of something else. -/
theorem IsE.keeps {w w' : World} {B g b k t : Nat} {v : Value} {E : List Rw} {us : Array Value} {T : TypeId} (h : IsE w B g v k t E) (hp : Past w w' g v) (hk : Blk w b us T) (h1 : 110 ≠ T) (h2 : 125 ≠ T) : Blk w' b us T := by
  have := hp.block b hk.lt (fun e => h.1.ne hk h1 e.symm) (fun e => h.2.1.ne_box hk h2 e.symm)
  unfold Blk at hk ⊢
  rw [this]; exact hk
end Go.Proofs.YtphdadibfeencaaGreat

/-
  Lists of unlike elements lie apart: what stays while one of them grows, or a system takes an equation.
-/
set_option maxRecDepth 100000
namespace Go.Proofs.YtphdadibfeencaaGreat
open Go.RowKit

/-- The value's own block, if it has one, is of such elements. -/
def Typed (w : World) (v : Value) (T : TypeId) : Prop := ∀ b, v.ownBlock = some b → ∃ cur fr, w.heap[b]? = some (.cells cur T fr)
theorem OwnN.typed {w : World} {B sz n : Nat} {T : TypeId} {v : Value} {xs : List Value} (h : OwnN w B T sz v n xs) : Typed w v T := by
  intro b e
  rcases h.1.2 with ⟨rfl, _⟩ | ⟨g, cap, cur, rfl, _, hgg, _⟩
  · cases e
  · simp only [Value.ownBlock, Option.some.injEq] at e
    subst e
    exact ⟨_, _, hgg⟩
theorem OwnL.typed {w : World} {B : Nat} {T : TypeId} {v : Value} {L : List Rw} (h : OwnL w B T v L) : Typed w v T := by obtain ⟨us, h1, _⟩ := h; exact h1.typed
theorem Typed.apart {w : World} {v u : Value} {T T' : TypeId} (h : Typed w v T) (k : Typed w u T') (hT : T ≠ T') : ∀ b, v.ownBlock = some b → u.ownBlock ≠ some b := by
  intro b e e'
  obtain ⟨c, f, h1⟩ := h b e
  obtain ⟨c', f', h2⟩ := k b e'
  rw [h1] at h2
  simp only [Option.some.injEq, Obj.cells.injEq] at h2
  exact hT h2.2.1
theorem Typed.box {w : World} {v : Value} {g : Nat} {vs : Array Value} {T T' : TypeId} (h : Typed w v T) (k : Blk w g vs T') (hT : T ≠ T') : v.ownBlock ≠ some g := by
  intro e
  obtain ⟨c, f, h1⟩ := h g e
  unfold Blk at k
  rw [h1] at k
  simp only [Option.some.injEq, Obj.cells.injEq] at k
  exact hT k.2.1
theorem none_or {v : Value} {row : Option Nat} (h : ∀ b, v.ownBlock = some b → row ≠ some b) : v.ownBlock = none ∨ v.ownBlock ≠ row := by
  cases e : v.ownBlock with
  | none => exact .inl rfl
  | some b => exact .inr fun e' => h b e e'.symm
theorem OwnL.keepO {w w' : World} {B : Nat} {T : TypeId} {v : Value} {L : List Rw} {row : Option Nat} (h : OwnL w B T v L) (hg : w.grownBy w' row) (hs : Soft w w') (hne : ∀ b, v.ownBlock = some b → row ≠ some b) : OwnL w' B T v L := by
  obtain ⟨us, h1, h2⟩ := h
  exact ⟨us, h1.keep hg (none_or hne), h2.soft hs⟩
end Go.Proofs.YtphdadibfeencaaGreat
