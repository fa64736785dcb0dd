/-
  The laws of rows (layer 3), walked: VecRows.
-/
import Derived.Test.YtgjjkiebfekkjaaLawThreeB
set_option maxRecDepth 100000
namespace Go.Proofs.Ytgjjkiebfekkjaa
open Go.RowKit

theorem few3_true {p q : List Nat} (h : few3 p q = true) : p.length ≤ 100 ∧ q.length ≤ 100 := by
  unfold few3 at h
  simp at h
  omega

set_option maxHeartbeats 1000000 in
theorem vecRows_in (v0 d0 v1 d1 : Value) (c : Nat) (p q p' q' : List Nat) (w : World) (hc : c < 256) (hp : Bytes w v0 p) (hq : Bytes w d0 q) (hp' : Bytes w v1 p') (hq' : Bytes w d1 q') (hf0 : few3 p q = true) (hf1 : few3 p' q' = true) :
    Calls Try.prog 4 #[.agg #[v0, d0], .agg #[v1, d1], U8 c] w fun e w' => e = .returned (.bool true) ∧ Below w.heap.size w w' := by
  obtain ⟨hlp, hlq⟩ := few3_true hf0
  obtain ⟨hlp', hlq'⟩ := few3_true hf1
  have HP := Lib.hid hp
  have HQ := Lib.hid hq
  have HP' := Lib.hid hp'
  have HQ' := Lib.hid hq'
  have HF0 := Lib.hid hf0
  have HF1 := Lib.hid hf1
  obtain ⟨a0, c0, rfl, _⟩ := hp
  obtain ⟨a1, c1, rfl, _⟩ := hq
  obtain ⟨a2, c2, rfl, _⟩ := hp'
  obtain ⟨a3, c3, rfl, _⟩ := hq'
  clear hf0 hf1
  go_enter Try.func4, Try.ntmps4
  go_wp2_with fail
  obtain ⟨B, hk1, hk2, hs⟩ := blocks2 w #[.slice a0 p.length c0, .slice a1 q.length c1] 33 #[.slice a2 p'.length c2, .slice a3 q'.length c3] 33
  generalize ((w.alloc (.cells #[.slice a0 p.length c0, .slice a1 q.length c1] 33)).alloc (.cells #[.slice a2 p'.length c2, .slice a3 q'.length c3] 33)) = W at *
  have K1 := Lib.hid hk1
  have K2 := Lib.hid hk2
  have HS := Lib.hid hs
  clear hs hk1 hk2
  replace HP := Lib.hid (HP.out.go B)
  replace HQ := Lib.hid (HQ.out.go B)
  replace HP' := Lib.hid (HP'.out.go B)
  replace HQ' := Lib.hid (HQ'.out.go B)
  have hzW := B.size
  refine (awake3_any _).mono ?_
  rintro e w1 ⟨rfl, hb⟩
  replace HP := Lib.hid (HP.out.go hb)
  replace HQ := Lib.hid (HQ.out.go hb)
  replace HP' := Lib.hid (HP'.out.go hb)
  replace HQ' := Lib.hid (HQ'.out.go hb)
  replace K1 := Lib.hid (K1.out.go hb)
  replace K2 := Lib.hid (K2.out.go hb)
  replace B := B.trans (hb.mono B.size)
  have hzw1 := B.size
  clear hb
  obtain ⟨k10, k11⟩ := K1.out.two
  have k1l := K1.out.lt
  obtain ⟨k20, k21⟩ := K2.out.two
  have k2l := K2.out.lt
  go_wp2_with fail
  refine (few3_any _ p q _ ⟨_, _, rfl, HP.out, HQ.out⟩).mono ?_
  rintro e w2 ⟨rfl, hb⟩
  replace HP := Lib.hid (HP.out.go hb)
  replace HQ := Lib.hid (HQ.out.go hb)
  replace HP' := Lib.hid (HP'.out.go hb)
  replace HQ' := Lib.hid (HQ'.out.go hb)
  replace K1 := Lib.hid (K1.out.go hb)
  replace K2 := Lib.hid (K2.out.go hb)
  replace B := B.trans (hb.mono B.size)
  have hzw2 := B.size
  clear hb
  rw [HF0.out]
  obtain ⟨k10, k11⟩ := K1.out.two
  have k1l := K1.out.lt
  obtain ⟨k20, k21⟩ := K2.out.two
  have k2l := K2.out.lt
  go_wp2_with fail
  refine (few3_any _ p' q' _ ⟨_, _, rfl, HP'.out, HQ'.out⟩).mono ?_
  rintro e w3 ⟨rfl, hb⟩
  replace HP := Lib.hid (HP.out.go hb)
  replace HQ := Lib.hid (HQ.out.go hb)
  replace HP' := Lib.hid (HP'.out.go hb)
  replace HQ' := Lib.hid (HQ'.out.go hb)
  replace K1 := Lib.hid (K1.out.go hb)
  replace K2 := Lib.hid (K2.out.go hb)
  replace B := B.trans (hb.mono B.size)
  have hzw3 := B.size
  clear hb
  rw [HF1.out]
  obtain ⟨k10, k11⟩ := K1.out.two
  have k1l := K1.out.lt
  obtain ⟨k20, k21⟩ := K2.out.two
  have k2l := K2.out.lt
  go_wp2_with fail
  refine (make3_any _ p q _ ⟨_, _, rfl, HP.out, HQ.out⟩ (by omega) (by omega)).mono ?_
  rintro e w4 ⟨u4, rfl, hu4, hb⟩
  replace HP := Lib.hid (HP.out.go hb)
  replace HQ := Lib.hid (HQ.out.go hb)
  replace HP' := Lib.hid (HP'.out.go hb)
  replace HQ' := Lib.hid (HQ'.out.go hb)
  replace K1 := Lib.hid (K1.out.go hb)
  replace K2 := Lib.hid (K2.out.go hb)
  replace B := B.trans (hb.mono B.size)
  have hzw4 := B.size
  clear hb
  have U4 := Lib.hid hu4
  obtain ⟨x4, y4, x4', y4', rfl⟩ := hu4.shape
  clear hu4
  obtain ⟨k10, k11⟩ := K1.out.two
  have k1l := K1.out.lt
  obtain ⟨k20, k21⟩ := K2.out.two
  have k2l := K2.out.lt
  go_wp2_with fail
  obtain ⟨hb5, hk3, hs5⟩ := blocks1 w4 #[.slice x4 p.length y4, .slice x4' q.length y4'] 35
  generalize w4.alloc (.cells #[.slice x4 p.length y4, .slice x4' q.length y4'] 35) = W5 at *
  replace B := B.trans (hb5.mono B.size)
  replace HP := Lib.hid (HP.out.go hb5)
  replace HQ := Lib.hid (HQ.out.go hb5)
  replace HP' := Lib.hid (HP'.out.go hb5)
  replace HQ' := Lib.hid (HQ'.out.go hb5)
  replace K1 := Lib.hid (K1.out.go hb5)
  replace K2 := Lib.hid (K2.out.go hb5)
  replace U4 := Lib.hid (U4.out.go hb5)
  have K3 := Lib.hid hk3
  clear hb5 hk3 hs5 k10 k11 k20 k21
  obtain ⟨k10, k11⟩ := K1.out.two
  have k1l := K1.out.lt
  obtain ⟨k20, k21⟩ := K2.out.two
  have k2l := K2.out.lt
  obtain ⟨k30, k31⟩ := K3.out.two
  have k3l := K3.out.lt
  refine wp_region_mono (C := Cb W5) (R := Rb) (H := Hb W5) [Ty.row 25 p q, Ty.val 26 (U8 c), Ty.row 27 p' q', Ty.row 28 p' q', Ty.rowE 29 (lessV c p q p' q') (lessD c p q p' q') (lessE p q p' q'), Ty.rowE 24 (lessV c p q p' q') (lessD c p q p' q') (lessE p q p' q'), Ty.row 30 (lessV c p q p' q') (lessD c p q p' q'), Ty.val 31 (.int .i64 (lessE p q p' q')), Ty.box 8 2 35, Ty.rowIn 8 (lessV c p q p' q') (lessD c p q p' q') 35, Ty.val 9 (.int .i64 (lessE p q p' q'))] (by kernel_rfl) (hC_b W5) (hCH_b W5) (drew_b W5) (by kernel_rfl) ?_ ?_
  · refine ⟨?_, ?_, ?_, ?_, ?_, ?_, ?_, ?_, ?_, ?_, ?_, trivial⟩
    · intro ac wc hC hsz hfr hd
      have d7 : ac.eval (.tmp 7) = (.pointer (some ⟨w4.heap.size, 0, none⟩)) := hfr 7 rfl
      rw [if_pos (wanted_none rfl)]
      exact ob_load _ rfl rfl rfl (Nat.lt_of_lt_of_eq (by decide : 25 < 86) hsz.symm) rfl d7 (load_vecrow (K3.out.go hC)) (Below.refl _ _) (U4.out.go hC)
    · intro ac wc hC hsz hfr hd
      have d2 : ac.eval (.tmp 2) = U8 c := hfr 2 rfl
      rw [if_pos (wanted_none rfl)]
      exact ob_copy rfl rfl rfl (Nat.lt_of_lt_of_eq (by decide : 26 < 86) hsz.symm) (Or.inl rfl) (Below.refl _ _) d2
    · intro ac wc hC hsz hfr hd
      have d4 : ac.eval (.tmp 4) = (.pointer (some ⟨w.heap.size + 1, 0, none⟩)) := hfr 4 rfl
      rw [if_pos (wanted_none rfl)]
      exact ob_load _ rfl rfl rfl (Nat.lt_of_lt_of_eq (by decide : 27 < 86) hsz.symm) rfl d4 (load_one (K2.out.go hC)) (Below.refl _ _) (⟨_, _, rfl, HP'.out.go hC, HQ'.out.go hC⟩)
    · intro ac wc hC hsz hfr hd
      have d27 : IsRow wc (ac.eval (.tmp 27)) p' q' := hd 2 rfl
      rw [if_pos (wanted_none rfl)]
      refine ob_call rfl rfl rfl (Nat.lt_of_lt_of_eq (by decide : 28 < 86) hsz.symm) rfl (enter_of Try.func13 (by kernel_rfl) rfl) ?_
      show Calls Try.prog 13 #[ac.eval (.tmp 27)] wc _
      exact make3_any _ p' q' wc d27 (by omega) (by omega)
    · intro ac wc hC hsz hfr hd
      have d25 : IsRow wc (ac.eval (.tmp 25)) p q := hd 0 rfl
      have d26 : ac.eval (.tmp 26) = U8 c := hd 1 rfl
      have d28 : IsRow wc (ac.eval (.tmp 28)) p' q' := hd 3 rfl
      rw [if_pos (wanted_none rfl)]
      refine ob_call rfl rfl rfl (Nat.lt_of_lt_of_eq (by decide : 29 < 86) hsz.symm) rfl (enter_of Try.func14 (by kernel_rfl) rfl) ?_
      show Calls Try.prog 14 #[ac.eval (.tmp 25), ac.eval (.tmp 26), ac.eval (.tmp 28)] wc _
      rw [d26]
      exact (vecless_any _ _ c p q p' q' wc hc d25 d28 (by omega) (by omega)).mono fun _ _ ⟨u, he, hu, hb⟩ => ⟨_, he, ⟨u, rfl, hu⟩, hb⟩
    · intro ac wc hC hsz hfr hd
      have d29 : ∃ u, ac.eval (.tmp 29) = .tuple #[u, .int .i64 (lessE p q p' q')] ∧ IsRow wc (u) (lessV c p q p' q') (lessD c p q p' q') := hd 4 rfl
      rw [if_pos (wanted_none rfl)]
      exact ob_copy rfl rfl rfl (Nat.lt_of_lt_of_eq (by decide : 24 < 86) hsz.symm) (Or.inl rfl) (Below.refl _ _) d29
    · intro ac wc hC hsz hfr hd
      have d24 : ∃ u, ac.eval (.tmp 24) = .tuple #[u, .int .i64 (lessE p q p' q')] ∧ IsRow wc (u) (lessV c p q p' q') (lessD c p q p' q') := hd 5 rfl
      rw [if_pos (wanted_none rfl)]
      obtain ⟨u, eu, hu⟩ := d24
      exact ob_extract _ rfl rfl rfl (Nat.lt_of_lt_of_eq (by decide : 30 < 86) hsz.symm) rfl eu (extract0 _ _) (Below.refl _ _) hu
    · intro ac wc hC hsz hfr hd
      have d24 : ∃ u, ac.eval (.tmp 24) = .tuple #[u, .int .i64 (lessE p q p' q')] ∧ IsRow wc (u) (lessV c p q p' q') (lessD c p q p' q') := hd 5 rfl
      rw [if_pos (wanted_none rfl)]
      obtain ⟨u, eu, hu⟩ := d24
      exact ob_extract _ rfl rfl rfl (Nat.lt_of_lt_of_eq (by decide : 31 < 86) hsz.symm) rfl eu (extract1 _ _) (Below.refl _ _) rfl
    · intro ac wc hC hsz hfr hd
      rw [if_pos (wanted_none rfl)]
      refine ob_value (.pointer (some ⟨wc.heap.size, 0, none⟩)) (wc.alloc (.cells #[.slice none 0 0, .slice none 0 0] 35)) rfl rfl rfl (Nat.lt_of_lt_of_eq (by decide : 8 < 86) hsz.symm) ?_ ((Below.refl _ _).alloc (Nat.le_refl _) _) ⟨_, _, rfl, hC.size, Blk.new _ _ _ _ rfl, rfl, noU8_two _ _ (slice_ne _ _ _) (slice_ne _ _ _)⟩
      go_simp
    · intro ac wc hC hsz hfr hd
      have d8 : IsBox W5 wc (ac.eval (.tmp 8)) 2 35 := hd 8 rfl
      have d30 : IsRow wc (ac.eval (.tmp 30)) (lessV c p q p' q') (lessD c p q p' q') := hd 6 rfl
      rw [if_pos (wanted_none rfl)]
      show Done _ (Ty.rowIn 8 (lessV c p q p' q') (lessD c p q p' q') 35) _ _ _ _
      exact ob_store_vecrow rfl rfl d8 d30
    · intro ac wc hC hsz hfr hd
      have d31 : ac.eval (.tmp 31) = (.int .i64 (lessE p q p' q')) := hd 7 rfl
      rw [if_pos (wanted_none rfl)]
      exact ob_copy rfl rfl rfl (Nat.lt_of_lt_of_eq (by decide : 9 < 86) hsz.symm) (Or.inr rfl) (Below.refl _ _) d31
  intro a' W6 hC hdef hsz hfr hd
  obtain ⟨x25, e25, r25⟩ : ∃ x, a'.eval (.tmp 25) = x ∧ IsRow W6 (x) p q := ⟨_, rfl, hd 0 (by decide)⟩
  replace r25 := Lib.hid r25
  have e26 : a'.eval (.tmp 26) = U8 c := hd 1 (by decide)
  obtain ⟨x27, e27, r27⟩ : ∃ x, a'.eval (.tmp 27) = x ∧ IsRow W6 (x) p' q' := ⟨_, rfl, hd 2 (by decide)⟩
  replace r27 := Lib.hid r27
  obtain ⟨x28, e28, r28⟩ : ∃ x, a'.eval (.tmp 28) = x ∧ IsRow W6 (x) p' q' := ⟨_, rfl, hd 3 (by decide)⟩
  replace r28 := Lib.hid r28
  obtain ⟨x29, e29, r29⟩ : ∃ u, a'.eval (.tmp 29) = .tuple #[u, .int .i64 (lessE p q p' q')] ∧ IsRow W6 (u) (lessV c p q p' q') (lessD c p q p' q') := hd 4 (by decide)
  replace r29 := Lib.hid r29
  obtain ⟨x24, e24, r24⟩ : ∃ u, a'.eval (.tmp 24) = .tuple #[u, .int .i64 (lessE p q p' q')] ∧ IsRow W6 (u) (lessV c p q p' q') (lessD c p q p' q') := hd 5 (by decide)
  replace r24 := Lib.hid r24
  obtain ⟨x30, e30, r30⟩ : ∃ x, a'.eval (.tmp 30) = x ∧ IsRow W6 (x) (lessV c p q p' q') (lessD c p q p' q') := ⟨_, rfl, hd 6 (by decide)⟩
  replace r30 := Lib.hid r30
  have e31 : a'.eval (.tmp 31) = (.int .i64 (lessE p q p' q')) := hd 7 (by decide)
  obtain ⟨g8, x8, y8, z8, u8, e8, hg8, kb8, r8⟩ : RowIn W5 W6 (a'.eval (.tmp 8)) (lessV c p q p' q') (lessD c p q p' q') 35 := hd 9 (by decide)
  replace r8 := Lib.hid r8
  replace kb8 := Lib.hid kb8
  have e9 : a'.eval (.tmp 9) = (.int .i64 (lessE p q p' q')) := hd 10 (by decide)
  have hact := act_puts hdef hsz hfr
  simp only [dstsOf, List.filterMap, putAll, Act.put, List.setIfInBounds_toArray, List.set_cons_succ, List.set_cons_zero, e25, e26, e27, e28, e29, e24, e30, e31, e8, e9] at hact
  clear hd hfr hsz hdef e25 e26 e27 e28 e29 e24 e30 e31 e8 e9
  subst hact
  replace HP := Lib.hid (HP.out.go hC)
  replace HQ := Lib.hid (HQ.out.go hC)
  replace HP' := Lib.hid (HP'.out.go hC)
  replace HQ' := Lib.hid (HQ'.out.go hC)
  replace K1 := Lib.hid (K1.out.go hC)
  replace K2 := Lib.hid (K2.out.go hC)
  replace K3 := Lib.hid (K3.out.go hC)
  replace U4 := Lib.hid (U4.out.go hC)
  replace B := B.trans (hC.mono B.size)
  clear hC
  go_wp2_with fail
  refine wp_region_mono (C := Cb W6) (R := Rb) (H := Hb W6) [Ty.row 33 p q, Ty.row 34 p q, Ty.val 35 (U8 c), Ty.row 36 p' q', Ty.row 37 p' q', Ty.rowE 38 (lessV c p q p' q') (lessD c p q p' q') (lessE p q p' q'), Ty.rowE 32 (lessV c p q p' q') (lessD c p q p' q') (lessE p q p' q'), Ty.row 39 (lessV c p q p' q') (lessD c p q p' q'), Ty.val 40 (.int .i64 (lessE p q p' q')), Ty.box 10 2 39, Ty.rowIn 10 (lessV c p q p' q') (lessD c p q p' q') 39, Ty.val 11 (.int .i64 (lessE p q p' q'))] (by kernel_rfl) (hC_b W6) (hCH_b W6) (drew_b W6) (by kernel_rfl) ?_ ?_
  · refine ⟨?_, ?_, ?_, ?_, ?_, ?_, ?_, ?_, ?_, ?_, ?_, ?_, trivial⟩
    · intro ac wc hC hsz hfr hd
      have d3 : ac.eval (.tmp 3) = (.pointer (some ⟨w.heap.size, 0, none⟩)) := hfr 3 rfl
      rw [if_pos (wanted_none rfl)]
      exact ob_load _ rfl rfl rfl (Nat.lt_of_lt_of_eq (by decide : 33 < 86) hsz.symm) rfl d3 (load_one (K1.out.go hC)) (Below.refl _ _) (⟨_, _, rfl, HP.out.go hC, HQ.out.go hC⟩)
    · intro ac wc hC hsz hfr hd
      have d33 : IsRow wc (ac.eval (.tmp 33)) p q := hd 0 rfl
      rw [if_pos (wanted_none rfl)]
      refine ob_call rfl rfl rfl (Nat.lt_of_lt_of_eq (by decide : 34 < 86) hsz.symm) rfl (enter_of Try.func16 (by kernel_rfl) rfl) ?_
      show Calls Try.prog 16 #[ac.eval (.tmp 33)] wc _
      exact ref3_any _ p q wc d33
    · intro ac wc hC hsz hfr hd
      have d2 : ac.eval (.tmp 2) = U8 c := hfr 2 rfl
      rw [if_pos (wanted_none rfl)]
      exact ob_copy rfl rfl rfl (Nat.lt_of_lt_of_eq (by decide : 35 < 86) hsz.symm) (Or.inl rfl) (Below.refl _ _) d2
    · intro ac wc hC hsz hfr hd
      have d4 : ac.eval (.tmp 4) = (.pointer (some ⟨w.heap.size + 1, 0, none⟩)) := hfr 4 rfl
      rw [if_pos (wanted_none rfl)]
      exact ob_load _ rfl rfl rfl (Nat.lt_of_lt_of_eq (by decide : 36 < 86) hsz.symm) rfl d4 (load_one (K2.out.go hC)) (Below.refl _ _) (⟨_, _, rfl, HP'.out.go hC, HQ'.out.go hC⟩)
    · intro ac wc hC hsz hfr hd
      have d36 : IsRow wc (ac.eval (.tmp 36)) p' q' := hd 3 rfl
      rw [if_pos (wanted_none rfl)]
      refine ob_call rfl rfl rfl (Nat.lt_of_lt_of_eq (by decide : 37 < 86) hsz.symm) rfl (enter_of Try.func16 (by kernel_rfl) rfl) ?_
      show Calls Try.prog 16 #[ac.eval (.tmp 36)] wc _
      exact ref3_any _ p' q' wc d36
    · intro ac wc hC hsz hfr hd
      have d34 : IsRow wc (ac.eval (.tmp 34)) p q := hd 1 rfl
      have d35 : ac.eval (.tmp 35) = U8 c := hd 2 rfl
      have d37 : IsRow wc (ac.eval (.tmp 37)) p' q' := hd 4 rfl
      rw [if_pos (wanted_none rfl)]
      refine ob_call rfl rfl rfl (Nat.lt_of_lt_of_eq (by decide : 38 < 86) hsz.symm) rfl (enter_of Try.func15 (by kernel_rfl) rfl) ?_
      show Calls Try.prog 15 #[ac.eval (.tmp 34), ac.eval (.tmp 35), ac.eval (.tmp 37)] wc _
      rw [d35]
      exact (refless_any _ _ c p q p' q' wc hc d34 d37 (by omega) (by omega)).mono fun _ _ ⟨u, he, hu, hb⟩ => ⟨_, he, ⟨u, rfl, hu⟩, hb⟩
    · intro ac wc hC hsz hfr hd
      have d38 : ∃ u, ac.eval (.tmp 38) = .tuple #[u, .int .i64 (lessE p q p' q')] ∧ IsRow wc (u) (lessV c p q p' q') (lessD c p q p' q') := hd 5 rfl
      rw [if_pos (wanted_none rfl)]
      exact ob_copy rfl rfl rfl (Nat.lt_of_lt_of_eq (by decide : 32 < 86) hsz.symm) (Or.inl rfl) (Below.refl _ _) d38
    · intro ac wc hC hsz hfr hd
      have d32 : ∃ u, ac.eval (.tmp 32) = .tuple #[u, .int .i64 (lessE p q p' q')] ∧ IsRow wc (u) (lessV c p q p' q') (lessD c p q p' q') := hd 6 rfl
      rw [if_pos (wanted_none rfl)]
      obtain ⟨u, eu, hu⟩ := d32
      exact ob_extract _ rfl rfl rfl (Nat.lt_of_lt_of_eq (by decide : 39 < 86) hsz.symm) rfl eu (extract0 _ _) (Below.refl _ _) hu
    · intro ac wc hC hsz hfr hd
      have d32 : ∃ u, ac.eval (.tmp 32) = .tuple #[u, .int .i64 (lessE p q p' q')] ∧ IsRow wc (u) (lessV c p q p' q') (lessD c p q p' q') := hd 6 rfl
      rw [if_pos (wanted_none rfl)]
      obtain ⟨u, eu, hu⟩ := d32
      exact ob_extract _ rfl rfl rfl (Nat.lt_of_lt_of_eq (by decide : 40 < 86) hsz.symm) rfl eu (extract1 _ _) (Below.refl _ _) rfl
    · intro ac wc hC hsz hfr hd
      rw [if_pos (wanted_none rfl)]
      refine ob_value (.pointer (some ⟨wc.heap.size, 0, none⟩)) (wc.alloc (.cells #[.slice none 0 0, .slice none 0 0] 39)) rfl rfl rfl (Nat.lt_of_lt_of_eq (by decide : 10 < 86) hsz.symm) ?_ ((Below.refl _ _).alloc (Nat.le_refl _) _) ⟨_, _, rfl, hC.size, Blk.new _ _ _ _ rfl, rfl, noU8_two _ _ (slice_ne _ _ _) (slice_ne _ _ _)⟩
      go_simp
    · intro ac wc hC hsz hfr hd
      have d10 : IsBox W6 wc (ac.eval (.tmp 10)) 2 39 := hd 9 rfl
      have d39 : IsRow wc (ac.eval (.tmp 39)) (lessV c p q p' q') (lessD c p q p' q') := hd 7 rfl
      rw [if_pos (wanted_none rfl)]
      show Done _ (Ty.rowIn 10 (lessV c p q p' q') (lessD c p q p' q') 39) _ _ _ _
      exact ob_store_refrow rfl rfl d10 d39
    · intro ac wc hC hsz hfr hd
      have d40 : ac.eval (.tmp 40) = (.int .i64 (lessE p q p' q')) := hd 8 rfl
      rw [if_pos (wanted_none rfl)]
      exact ob_copy rfl rfl rfl (Nat.lt_of_lt_of_eq (by decide : 11 < 86) hsz.symm) (Or.inr rfl) (Below.refl _ _) d40
  intro a' W7 hC hdef hsz hfr hd
  obtain ⟨x33, e33, r33⟩ : ∃ x, a'.eval (.tmp 33) = x ∧ IsRow W7 (x) p q := ⟨_, rfl, hd 0 (by decide)⟩
  replace r33 := Lib.hid r33
  obtain ⟨x34, e34, r34⟩ : ∃ x, a'.eval (.tmp 34) = x ∧ IsRow W7 (x) p q := ⟨_, rfl, hd 1 (by decide)⟩
  replace r34 := Lib.hid r34
  have e35 : a'.eval (.tmp 35) = U8 c := hd 2 (by decide)
  obtain ⟨x36, e36, r36⟩ : ∃ x, a'.eval (.tmp 36) = x ∧ IsRow W7 (x) p' q' := ⟨_, rfl, hd 3 (by decide)⟩
  replace r36 := Lib.hid r36
  obtain ⟨x37, e37, r37⟩ : ∃ x, a'.eval (.tmp 37) = x ∧ IsRow W7 (x) p' q' := ⟨_, rfl, hd 4 (by decide)⟩
  replace r37 := Lib.hid r37
  obtain ⟨x38, e38, r38⟩ : ∃ u, a'.eval (.tmp 38) = .tuple #[u, .int .i64 (lessE p q p' q')] ∧ IsRow W7 (u) (lessV c p q p' q') (lessD c p q p' q') := hd 5 (by decide)
  replace r38 := Lib.hid r38
  obtain ⟨x32, e32, r32⟩ : ∃ u, a'.eval (.tmp 32) = .tuple #[u, .int .i64 (lessE p q p' q')] ∧ IsRow W7 (u) (lessV c p q p' q') (lessD c p q p' q') := hd 6 (by decide)
  replace r32 := Lib.hid r32
  obtain ⟨x39, e39, r39⟩ : ∃ x, a'.eval (.tmp 39) = x ∧ IsRow W7 (x) (lessV c p q p' q') (lessD c p q p' q') := ⟨_, rfl, hd 7 (by decide)⟩
  replace r39 := Lib.hid r39
  have e40 : a'.eval (.tmp 40) = (.int .i64 (lessE p q p' q')) := hd 8 (by decide)
  obtain ⟨g10, x10, y10, z10, u10, e10, hg10, kb10, r10⟩ : RowIn W6 W7 (a'.eval (.tmp 10)) (lessV c p q p' q') (lessD c p q p' q') 39 := hd 10 (by decide)
  replace r10 := Lib.hid r10
  replace kb10 := Lib.hid kb10
  have e11 : a'.eval (.tmp 11) = (.int .i64 (lessE p q p' q')) := hd 11 (by decide)
  have hact := act_puts hdef hsz hfr
  simp only [dstsOf, List.filterMap, putAll, Act.put, List.setIfInBounds_toArray, List.set_cons_succ, List.set_cons_zero, e33, e34, e35, e36, e37, e38, e32, e39, e40, e10, e11] at hact
  clear hd hfr hsz hdef e33 e34 e35 e36 e37 e38 e32 e39 e40 e10 e11
  subst hact
  replace HP := Lib.hid (HP.out.go hC)
  replace HQ := Lib.hid (HQ.out.go hC)
  replace HP' := Lib.hid (HP'.out.go hC)
  replace HQ' := Lib.hid (HQ'.out.go hC)
  replace K1 := Lib.hid (K1.out.go hC)
  replace K2 := Lib.hid (K2.out.go hC)
  replace K3 := Lib.hid (K3.out.go hC)
  replace U4 := Lib.hid (U4.out.go hC)
  replace kb8 := Lib.hid (kb8.out.go hC)
  replace r8 := Lib.hid (r8.out.go hC)
  replace B := B.trans (hC.mono B.size)
  clear hC
  go_wp2_with fail
  refine wp_region_mono (C := Cb W7) (R := Rb) (H := Hb W7) [Ty.row 41 p q, Ty.row 42 (Gf.scale (normC p) p) (Gf.scale (normC p) q), Ty.row 43 (Gf.scale (normC p) p) (Gf.scale (normC p) q), Ty.row 44 p q, Ty.row 45 p q, Ty.row 46 (Gf.scale (normC p) p) (Gf.scale (normC p) q), Ty.val 47 (.bool true), Ty.val 48 (.bool true), Ty.row 49 (lessV c p q p' q') (lessD c p q p' q'), Ty.row 50 (lessV c p q p' q') (lessD c p q p' q'), Ty.row 51 (lessV c p q p' q') (lessD c p q p' q'), Ty.val 52 (.bool true), Ty.val 53 (.bool true), Ty.val 54 (.bool true), Ty.val 55 (.int .i64 (lessE p q p' q')), Ty.val 56 (.int .i64 (lessE p q p' q')), Ty.val 57 (.bool true), Ty.val 58 (.bool true), Ty.val 59 (.bool true), Ty.row 60 p q, Ty.row 61 p' q', Ty.row 62 p' q', Ty.val 63 (.bool (decide (p = p') && decide (q = q'))), Ty.row 64 p q, Ty.row 65 p q, Ty.row 66 p' q', Ty.row 67 p' q', Ty.val 68 (.bool (decide (p = p') && decide (q = q'))), Ty.val 69 (.bool true), Ty.val 70 (.bool true), Ty.val 71 (.bool true), Ty.row 72 p q, Ty.row 73 p q, Ty.row 74 p q, Ty.row 75 p q, Ty.val 76 (.bool true), Ty.val 77 (.bool true), Ty.val 78 (.bool true), Ty.row 79 p q, Ty.row 80 p q, Ty.row 81 p q, Ty.row 82 p q, Ty.row 83 p q, Ty.val 84 (.bool true), Ty.val 85 (.bool true), Ty.val 6 (.bool true)] (by kernel_rfl) (hC_b W7) (hCH_b W7) (drew_b W7) (by kernel_rfl) ?_ ?_
  · refine ⟨?_, ?_, ?_, ?_, ?_, ?_, ?_, ?_, ?_, ?_, ?_, ?_, ?_, ?_, ?_, ?_, ?_, ?_, ?_, ?_, ?_, ?_, ?_, ?_, ?_, ?_, ?_, ?_, ?_, ?_, ?_, ?_, ?_, ?_, ?_, ?_, ?_, ?_, ?_, ?_, ?_, ?_, ?_, ?_, ?_, ?_, trivial⟩
    · intro ac wc hC hsz hfr hd
      have d7 : ac.eval (.tmp 7) = (.pointer (some ⟨w4.heap.size, 0, none⟩)) := hfr 7 rfl
      rw [if_pos (wanted_none rfl)]
      exact ob_load _ rfl rfl rfl (Nat.lt_of_lt_of_eq (by decide : 41 < 86) hsz.symm) rfl d7 (load_vecrow (K3.out.go hC)) (Below.refl _ _) (U4.out.go hC)
    · intro ac wc hC hsz hfr hd
      have d41 : IsRow wc (ac.eval (.tmp 41)) p q := hd 0 rfl
      rw [if_pos (wanted_none rfl)]
      refine ob_call rfl rfl rfl (Nat.lt_of_lt_of_eq (by decide : 42 < 86) hsz.symm) rfl (enter_of Try.func19 (by kernel_rfl) rfl) ?_
      show Calls Try.prog 19 #[ac.eval (.tmp 41)] wc _
      exact norm_any _ p q wc d41 (by omega) (by omega)
    · intro ac wc hC hsz hfr hd
      have d42 : IsRow wc (ac.eval (.tmp 42)) (Gf.scale (normC p) p) (Gf.scale (normC p) q) := hd 1 rfl
      rw [if_pos (wanted_none rfl)]
      refine ob_call rfl rfl rfl (Nat.lt_of_lt_of_eq (by decide : 43 < 86) hsz.symm) rfl (enter_of Try.func18 (by kernel_rfl) rfl) ?_
      show Calls Try.prog 18 #[ac.eval (.tmp 42)] wc _
      exact of3_any _ _ _ wc d42
    · intro ac wc hC hsz hfr hd
      have d3 : ac.eval (.tmp 3) = (.pointer (some ⟨w.heap.size, 0, none⟩)) := hfr 3 rfl
      rw [if_pos (wanted_none rfl)]
      exact ob_load _ rfl rfl rfl (Nat.lt_of_lt_of_eq (by decide : 44 < 86) hsz.symm) rfl d3 (load_one (K1.out.go hC)) (Below.refl _ _) (⟨_, _, rfl, HP.out.go hC, HQ.out.go hC⟩)
    · intro ac wc hC hsz hfr hd
      have d44 : IsRow wc (ac.eval (.tmp 44)) p q := hd 3 rfl
      rw [if_pos (wanted_none rfl)]
      refine ob_call rfl rfl rfl (Nat.lt_of_lt_of_eq (by decide : 45 < 86) hsz.symm) rfl (enter_of Try.func16 (by kernel_rfl) rfl) ?_
      show Calls Try.prog 16 #[ac.eval (.tmp 44)] wc _
      exact ref3_any _ p q wc d44
    · intro ac wc hC hsz hfr hd
      have d45 : IsRow wc (ac.eval (.tmp 45)) p q := hd 4 rfl
      rw [if_pos (wanted_none rfl)]
      refine ob_call rfl rfl rfl (Nat.lt_of_lt_of_eq (by decide : 46 < 86) hsz.symm) rfl (enter_of Try.func20 (by kernel_rfl) rfl) ?_
      show Calls Try.prog 20 #[ac.eval (.tmp 45)] wc _
      exact refnorm_any _ p q wc d45 (by omega) (by omega)
    · intro ac wc hC hsz hfr hd
      have d43 : IsRow wc (ac.eval (.tmp 43)) (Gf.scale (normC p) p) (Gf.scale (normC p) q) := hd 2 rfl
      have d46 : IsRow wc (ac.eval (.tmp 46)) (Gf.scale (normC p) p) (Gf.scale (normC p) q) := hd 5 rfl
      rw [if_pos (wanted_none rfl)]
      refine ob_call rfl rfl rfl (Nat.lt_of_lt_of_eq (by decide : 47 < 86) hsz.symm) rfl (enter_of Try.func17 (by kernel_rfl) rfl) ?_
      show Calls Try.prog 17 #[ac.eval (.tmp 43), ac.eval (.tmp 46)] wc _
      exact (refrowsame_yes _ _ _ _ wc d43 d46).mono fun _ _ ⟨he, hb⟩ => ⟨_, he, rfl, hb⟩
    · intro ac wc hC hsz hfr hd
      have d47 : ac.eval (.tmp 47) = (.bool true) := hd 6 rfl
      rw [if_pos (wanted_none rfl)]
      exact ob_copy rfl rfl rfl (Nat.lt_of_lt_of_eq (by decide : 48 < 86) hsz.symm) (Or.inl rfl) (Below.refl _ _) d47
    · intro ac wc hC hsz hfr hd
      have d48 : ac.eval (.tmp 48) = (.bool true) := hd 7 rfl
      have d8 : ac.eval (.tmp 8) = (.pointer (some ⟨g8, 0, none⟩)) := hfr 8 rfl
      rw [if_pos (wanted_some rfl (yielded_of rfl d48))]
      exact ob_load _ rfl rfl rfl (Nat.lt_of_lt_of_eq (by decide : 49 < 86) hsz.symm) rfl d8 (load_vecrow (kb8.out.go hC)) (Below.refl _ _) (r8.out.go hC)
    · intro ac wc hC hsz hfr hd
      have d48 : ac.eval (.tmp 48) = (.bool true) := hd 7 rfl
      have d49 : IsRow wc (ac.eval (.tmp 49)) (lessV c p q p' q') (lessD c p q p' q') := hd 8 rfl
      rw [if_pos (wanted_some rfl (yielded_of rfl d48))]
      refine ob_call rfl rfl rfl (Nat.lt_of_lt_of_eq (by decide : 50 < 86) hsz.symm) rfl (enter_of Try.func18 (by kernel_rfl) rfl) ?_
      show Calls Try.prog 18 #[ac.eval (.tmp 49)] wc _
      exact of3_any _ _ _ wc d49
    · intro ac wc hC hsz hfr hd
      have d48 : ac.eval (.tmp 48) = (.bool true) := hd 7 rfl
      have d10 : ac.eval (.tmp 10) = (.pointer (some ⟨g10, 0, none⟩)) := hfr 10 rfl
      rw [if_pos (wanted_some rfl (yielded_of rfl d48))]
      exact ob_load _ rfl rfl rfl (Nat.lt_of_lt_of_eq (by decide : 51 < 86) hsz.symm) rfl d10 (load_refrow (kb10.out.go hC)) (Below.refl _ _) (r10.out.go hC)
    · intro ac wc hC hsz hfr hd
      have d48 : ac.eval (.tmp 48) = (.bool true) := hd 7 rfl
      have d50 : IsRow wc (ac.eval (.tmp 50)) (lessV c p q p' q') (lessD c p q p' q') := hd 9 rfl
      have d51 : IsRow wc (ac.eval (.tmp 51)) (lessV c p q p' q') (lessD c p q p' q') := hd 10 rfl
      rw [if_pos (wanted_some rfl (yielded_of rfl d48))]
      refine ob_call rfl rfl rfl (Nat.lt_of_lt_of_eq (by decide : 52 < 86) hsz.symm) rfl (enter_of Try.func17 (by kernel_rfl) rfl) ?_
      show Calls Try.prog 17 #[ac.eval (.tmp 50), ac.eval (.tmp 51)] wc _
      exact (refrowsame_yes _ _ _ _ wc d50 d51).mono fun _ _ ⟨he, hb⟩ => ⟨_, he, rfl, hb⟩
    · intro ac wc hC hsz hfr hd
      have d48 : ac.eval (.tmp 48) = (.bool true) := hd 7 rfl
      have d52 : ac.eval (.tmp 52) = (.bool true) := hd 11 rfl
      rw [if_pos (wanted_none rfl)]
      exact ob_pick rfl rfl rfl (Nat.lt_of_lt_of_eq (by decide : 53 < 86) hsz.symm) rfl d48 (Below.refl _ _) d52
    · intro ac wc hC hsz hfr hd
      have d53 : ac.eval (.tmp 53) = (.bool true) := hd 12 rfl
      rw [if_pos (wanted_none rfl)]
      exact ob_copy rfl rfl rfl (Nat.lt_of_lt_of_eq (by decide : 54 < 86) hsz.symm) (Or.inl rfl) (Below.refl _ _) d53
    · intro ac wc hC hsz hfr hd
      have d54 : ac.eval (.tmp 54) = (.bool true) := hd 13 rfl
      have d9 : ac.eval (.tmp 9) = (.int .i64 (lessE p q p' q')) := hfr 9 rfl
      rw [if_pos (wanted_some rfl (yielded_of rfl d54))]
      exact ob_copy rfl rfl rfl (Nat.lt_of_lt_of_eq (by decide : 55 < 86) hsz.symm) (Or.inl rfl) (Below.refl _ _) d9
    · intro ac wc hC hsz hfr hd
      have d54 : ac.eval (.tmp 54) = (.bool true) := hd 13 rfl
      have d11 : ac.eval (.tmp 11) = (.int .i64 (lessE p q p' q')) := hfr 11 rfl
      rw [if_pos (wanted_some rfl (yielded_of rfl d54))]
      exact ob_copy rfl rfl rfl (Nat.lt_of_lt_of_eq (by decide : 56 < 86) hsz.symm) (Or.inl rfl) (Below.refl _ _) d11
    · intro ac wc hC hsz hfr hd
      have d54 : ac.eval (.tmp 54) = (.bool true) := hd 13 rfl
      have d55 : ac.eval (.tmp 55) = (.int .i64 (lessE p q p' q')) := hd 14 rfl
      have d56 : ac.eval (.tmp 56) = (.int .i64 (lessE p q p' q')) := hd 15 rfl
      rw [if_pos (wanted_some rfl (yielded_of rfl d54))]
      exact ob_bin _ rfl rfl rfl (Nat.lt_of_lt_of_eq (by decide : 57 < 86) hsz.symm) rfl d55 d56 (eql_int (by simp)) (Below.refl _ _) rfl
    · intro ac wc hC hsz hfr hd
      have d54 : ac.eval (.tmp 54) = (.bool true) := hd 13 rfl
      have d57 : ac.eval (.tmp 57) = (.bool true) := hd 16 rfl
      rw [if_pos (wanted_none rfl)]
      exact ob_pick rfl rfl rfl (Nat.lt_of_lt_of_eq (by decide : 58 < 86) hsz.symm) rfl d54 (Below.refl _ _) d57
    · intro ac wc hC hsz hfr hd
      have d58 : ac.eval (.tmp 58) = (.bool true) := hd 17 rfl
      rw [if_pos (wanted_none rfl)]
      exact ob_copy rfl rfl rfl (Nat.lt_of_lt_of_eq (by decide : 59 < 86) hsz.symm) (Or.inl rfl) (Below.refl _ _) d58
    · intro ac wc hC hsz hfr hd
      have d59 : ac.eval (.tmp 59) = (.bool true) := hd 18 rfl
      have d7 : ac.eval (.tmp 7) = (.pointer (some ⟨w4.heap.size, 0, none⟩)) := hfr 7 rfl
      rw [if_pos (wanted_some rfl (yielded_of rfl d59))]
      exact ob_load _ rfl rfl rfl (Nat.lt_of_lt_of_eq (by decide : 60 < 86) hsz.symm) rfl d7 (load_vecrow (K3.out.go hC)) (Below.refl _ _) (U4.out.go hC)
    · intro ac wc hC hsz hfr hd
      have d59 : ac.eval (.tmp 59) = (.bool true) := hd 18 rfl
      have d4 : ac.eval (.tmp 4) = (.pointer (some ⟨w.heap.size + 1, 0, none⟩)) := hfr 4 rfl
      rw [if_pos (wanted_some rfl (yielded_of rfl d59))]
      exact ob_load _ rfl rfl rfl (Nat.lt_of_lt_of_eq (by decide : 61 < 86) hsz.symm) rfl d4 (load_one (K2.out.go hC)) (Below.refl _ _) (⟨_, _, rfl, HP'.out.go hC, HQ'.out.go hC⟩)
    · intro ac wc hC hsz hfr hd
      have d59 : ac.eval (.tmp 59) = (.bool true) := hd 18 rfl
      have d61 : IsRow wc (ac.eval (.tmp 61)) p' q' := hd 20 rfl
      rw [if_pos (wanted_some rfl (yielded_of rfl d59))]
      refine ob_call rfl rfl rfl (Nat.lt_of_lt_of_eq (by decide : 62 < 86) hsz.symm) rfl (enter_of Try.func13 (by kernel_rfl) rfl) ?_
      show Calls Try.prog 13 #[ac.eval (.tmp 61)] wc _
      exact make3_any _ p' q' wc d61 (by omega) (by omega)
    · intro ac wc hC hsz hfr hd
      have d59 : ac.eval (.tmp 59) = (.bool true) := hd 18 rfl
      have d60 : IsRow wc (ac.eval (.tmp 60)) p q := hd 19 rfl
      have d62 : IsRow wc (ac.eval (.tmp 62)) p' q' := hd 21 rfl
      rw [if_pos (wanted_some rfl (yielded_of rfl d59))]
      refine ob_call rfl rfl rfl (Nat.lt_of_lt_of_eq (by decide : 63 < 86) hsz.symm) rfl (enter_of Try.func21 (by kernel_rfl) rfl) ?_
      show Calls Try.prog 21 #[ac.eval (.tmp 60), ac.eval (.tmp 62)] wc _
      exact (vecsame_any _ _ p q p' q' wc d60 d62).mono fun _ _ ⟨he, hb⟩ => ⟨_, he, rfl, hb⟩
    · intro ac wc hC hsz hfr hd
      have d59 : ac.eval (.tmp 59) = (.bool true) := hd 18 rfl
      have d3 : ac.eval (.tmp 3) = (.pointer (some ⟨w.heap.size, 0, none⟩)) := hfr 3 rfl
      rw [if_pos (wanted_some rfl (yielded_of rfl d59))]
      exact ob_load _ rfl rfl rfl (Nat.lt_of_lt_of_eq (by decide : 64 < 86) hsz.symm) rfl d3 (load_one (K1.out.go hC)) (Below.refl _ _) (⟨_, _, rfl, HP.out.go hC, HQ.out.go hC⟩)
    · intro ac wc hC hsz hfr hd
      have d59 : ac.eval (.tmp 59) = (.bool true) := hd 18 rfl
      have d64 : IsRow wc (ac.eval (.tmp 64)) p q := hd 23 rfl
      rw [if_pos (wanted_some rfl (yielded_of rfl d59))]
      refine ob_call rfl rfl rfl (Nat.lt_of_lt_of_eq (by decide : 65 < 86) hsz.symm) rfl (enter_of Try.func16 (by kernel_rfl) rfl) ?_
      show Calls Try.prog 16 #[ac.eval (.tmp 64)] wc _
      exact ref3_any _ p q wc d64
    · intro ac wc hC hsz hfr hd
      have d59 : ac.eval (.tmp 59) = (.bool true) := hd 18 rfl
      have d4 : ac.eval (.tmp 4) = (.pointer (some ⟨w.heap.size + 1, 0, none⟩)) := hfr 4 rfl
      rw [if_pos (wanted_some rfl (yielded_of rfl d59))]
      exact ob_load _ rfl rfl rfl (Nat.lt_of_lt_of_eq (by decide : 66 < 86) hsz.symm) rfl d4 (load_one (K2.out.go hC)) (Below.refl _ _) (⟨_, _, rfl, HP'.out.go hC, HQ'.out.go hC⟩)
    · intro ac wc hC hsz hfr hd
      have d59 : ac.eval (.tmp 59) = (.bool true) := hd 18 rfl
      have d66 : IsRow wc (ac.eval (.tmp 66)) p' q' := hd 25 rfl
      rw [if_pos (wanted_some rfl (yielded_of rfl d59))]
      refine ob_call rfl rfl rfl (Nat.lt_of_lt_of_eq (by decide : 67 < 86) hsz.symm) rfl (enter_of Try.func16 (by kernel_rfl) rfl) ?_
      show Calls Try.prog 16 #[ac.eval (.tmp 66)] wc _
      exact ref3_any _ p' q' wc d66
    · intro ac wc hC hsz hfr hd
      have d59 : ac.eval (.tmp 59) = (.bool true) := hd 18 rfl
      have d65 : IsRow wc (ac.eval (.tmp 65)) p q := hd 24 rfl
      have d67 : IsRow wc (ac.eval (.tmp 67)) p' q' := hd 26 rfl
      rw [if_pos (wanted_some rfl (yielded_of rfl d59))]
      refine ob_call rfl rfl rfl (Nat.lt_of_lt_of_eq (by decide : 68 < 86) hsz.symm) rfl (enter_of Try.func17 (by kernel_rfl) rfl) ?_
      show Calls Try.prog 17 #[ac.eval (.tmp 65), ac.eval (.tmp 67)] wc _
      exact (refrowsame_any _ _ p q p' q' wc d65 d67).mono fun _ _ ⟨he, hb⟩ => ⟨_, he, rfl, hb⟩
    · intro ac wc hC hsz hfr hd
      have d59 : ac.eval (.tmp 59) = (.bool true) := hd 18 rfl
      have d63 : ac.eval (.tmp 63) = (.bool (decide (p = p') && decide (q = q'))) := hd 22 rfl
      have d68 : ac.eval (.tmp 68) = (.bool (decide (p = p') && decide (q = q'))) := hd 27 rfl
      rw [if_pos (wanted_some rfl (yielded_of rfl d59))]
      exact ob_bin _ rfl rfl rfl (Nat.lt_of_lt_of_eq (by decide : 69 < 86) hsz.symm) rfl d63 d68 (eql_bool (by simp)) (Below.refl _ _) rfl
    · intro ac wc hC hsz hfr hd
      have d59 : ac.eval (.tmp 59) = (.bool true) := hd 18 rfl
      have d69 : ac.eval (.tmp 69) = (.bool true) := hd 28 rfl
      rw [if_pos (wanted_none rfl)]
      exact ob_pick rfl rfl rfl (Nat.lt_of_lt_of_eq (by decide : 70 < 86) hsz.symm) rfl d59 (Below.refl _ _) d69
    · intro ac wc hC hsz hfr hd
      have d70 : ac.eval (.tmp 70) = (.bool true) := hd 29 rfl
      rw [if_pos (wanted_none rfl)]
      exact ob_copy rfl rfl rfl (Nat.lt_of_lt_of_eq (by decide : 71 < 86) hsz.symm) (Or.inl rfl) (Below.refl _ _) d70
    · intro ac wc hC hsz hfr hd
      have d71 : ac.eval (.tmp 71) = (.bool true) := hd 30 rfl
      have d7 : ac.eval (.tmp 7) = (.pointer (some ⟨w4.heap.size, 0, none⟩)) := hfr 7 rfl
      rw [if_pos (wanted_some rfl (yielded_of rfl d71))]
      exact ob_load _ rfl rfl rfl (Nat.lt_of_lt_of_eq (by decide : 72 < 86) hsz.symm) rfl d7 (load_vecrow (K3.out.go hC)) (Below.refl _ _) (U4.out.go hC)
    · intro ac wc hC hsz hfr hd
      have d71 : ac.eval (.tmp 71) = (.bool true) := hd 30 rfl
      have d72 : IsRow wc (ac.eval (.tmp 72)) p q := hd 31 rfl
      rw [if_pos (wanted_some rfl (yielded_of rfl d71))]
      refine ob_call rfl rfl rfl (Nat.lt_of_lt_of_eq (by decide : 73 < 86) hsz.symm) rfl (enter_of Try.func18 (by kernel_rfl) rfl) ?_
      show Calls Try.prog 18 #[ac.eval (.tmp 72)] wc _
      exact of3_any _ _ _ wc d72
    · intro ac wc hC hsz hfr hd
      have d71 : ac.eval (.tmp 71) = (.bool true) := hd 30 rfl
      have d3 : ac.eval (.tmp 3) = (.pointer (some ⟨w.heap.size, 0, none⟩)) := hfr 3 rfl
      rw [if_pos (wanted_some rfl (yielded_of rfl d71))]
      exact ob_load _ rfl rfl rfl (Nat.lt_of_lt_of_eq (by decide : 74 < 86) hsz.symm) rfl d3 (load_one (K1.out.go hC)) (Below.refl _ _) (⟨_, _, rfl, HP.out.go hC, HQ.out.go hC⟩)
    · intro ac wc hC hsz hfr hd
      have d71 : ac.eval (.tmp 71) = (.bool true) := hd 30 rfl
      have d74 : IsRow wc (ac.eval (.tmp 74)) p q := hd 33 rfl
      rw [if_pos (wanted_some rfl (yielded_of rfl d71))]
      refine ob_call rfl rfl rfl (Nat.lt_of_lt_of_eq (by decide : 75 < 86) hsz.symm) rfl (enter_of Try.func16 (by kernel_rfl) rfl) ?_
      show Calls Try.prog 16 #[ac.eval (.tmp 74)] wc _
      exact ref3_any _ p q wc d74
    · intro ac wc hC hsz hfr hd
      have d71 : ac.eval (.tmp 71) = (.bool true) := hd 30 rfl
      have d73 : IsRow wc (ac.eval (.tmp 73)) p q := hd 32 rfl
      have d75 : IsRow wc (ac.eval (.tmp 75)) p q := hd 34 rfl
      rw [if_pos (wanted_some rfl (yielded_of rfl d71))]
      refine ob_call rfl rfl rfl (Nat.lt_of_lt_of_eq (by decide : 76 < 86) hsz.symm) rfl (enter_of Try.func17 (by kernel_rfl) rfl) ?_
      show Calls Try.prog 17 #[ac.eval (.tmp 73), ac.eval (.tmp 75)] wc _
      exact (refrowsame_yes _ _ _ _ wc d73 d75).mono fun _ _ ⟨he, hb⟩ => ⟨_, he, rfl, hb⟩
    · intro ac wc hC hsz hfr hd
      have d71 : ac.eval (.tmp 71) = (.bool true) := hd 30 rfl
      have d76 : ac.eval (.tmp 76) = (.bool true) := hd 35 rfl
      rw [if_pos (wanted_none rfl)]
      exact ob_pick rfl rfl rfl (Nat.lt_of_lt_of_eq (by decide : 77 < 86) hsz.symm) rfl d71 (Below.refl _ _) d76
    · intro ac wc hC hsz hfr hd
      have d77 : ac.eval (.tmp 77) = (.bool true) := hd 36 rfl
      rw [if_pos (wanted_none rfl)]
      exact ob_copy rfl rfl rfl (Nat.lt_of_lt_of_eq (by decide : 78 < 86) hsz.symm) (Or.inl rfl) (Below.refl _ _) d77
    · intro ac wc hC hsz hfr hd
      have d78 : ac.eval (.tmp 78) = (.bool true) := hd 37 rfl
      have d7 : ac.eval (.tmp 7) = (.pointer (some ⟨w4.heap.size, 0, none⟩)) := hfr 7 rfl
      rw [if_pos (wanted_some rfl (yielded_of rfl d78))]
      exact ob_load _ rfl rfl rfl (Nat.lt_of_lt_of_eq (by decide : 79 < 86) hsz.symm) rfl d7 (load_vecrow (K3.out.go hC)) (Below.refl _ _) (U4.out.go hC)
    · intro ac wc hC hsz hfr hd
      have d78 : ac.eval (.tmp 78) = (.bool true) := hd 37 rfl
      have d79 : IsRow wc (ac.eval (.tmp 79)) p q := hd 38 rfl
      rw [if_pos (wanted_some rfl (yielded_of rfl d78))]
      refine ob_call rfl rfl rfl (Nat.lt_of_lt_of_eq (by decide : 80 < 86) hsz.symm) rfl (enter_of Try.func22 (by kernel_rfl) rfl) ?_
      show Calls Try.prog 22 #[ac.eval (.tmp 79)] wc _
      exact rowclone_any _ p q wc d79 (by omega) (by omega)
    · intro ac wc hC hsz hfr hd
      have d78 : ac.eval (.tmp 78) = (.bool true) := hd 37 rfl
      have d80 : IsRow wc (ac.eval (.tmp 80)) p q := hd 39 rfl
      rw [if_pos (wanted_some rfl (yielded_of rfl d78))]
      refine ob_call rfl rfl rfl (Nat.lt_of_lt_of_eq (by decide : 81 < 86) hsz.symm) rfl (enter_of Try.func18 (by kernel_rfl) rfl) ?_
      show Calls Try.prog 18 #[ac.eval (.tmp 80)] wc _
      exact of3_any _ _ _ wc d80
    · intro ac wc hC hsz hfr hd
      have d78 : ac.eval (.tmp 78) = (.bool true) := hd 37 rfl
      have d3 : ac.eval (.tmp 3) = (.pointer (some ⟨w.heap.size, 0, none⟩)) := hfr 3 rfl
      rw [if_pos (wanted_some rfl (yielded_of rfl d78))]
      exact ob_load _ rfl rfl rfl (Nat.lt_of_lt_of_eq (by decide : 82 < 86) hsz.symm) rfl d3 (load_one (K1.out.go hC)) (Below.refl _ _) (⟨_, _, rfl, HP.out.go hC, HQ.out.go hC⟩)
    · intro ac wc hC hsz hfr hd
      have d78 : ac.eval (.tmp 78) = (.bool true) := hd 37 rfl
      have d82 : IsRow wc (ac.eval (.tmp 82)) p q := hd 41 rfl
      rw [if_pos (wanted_some rfl (yielded_of rfl d78))]
      refine ob_call rfl rfl rfl (Nat.lt_of_lt_of_eq (by decide : 83 < 86) hsz.symm) rfl (enter_of Try.func16 (by kernel_rfl) rfl) ?_
      show Calls Try.prog 16 #[ac.eval (.tmp 82)] wc _
      exact ref3_any _ p q wc d82
    · intro ac wc hC hsz hfr hd
      have d78 : ac.eval (.tmp 78) = (.bool true) := hd 37 rfl
      have d81 : IsRow wc (ac.eval (.tmp 81)) p q := hd 40 rfl
      have d83 : IsRow wc (ac.eval (.tmp 83)) p q := hd 42 rfl
      rw [if_pos (wanted_some rfl (yielded_of rfl d78))]
      refine ob_call rfl rfl rfl (Nat.lt_of_lt_of_eq (by decide : 84 < 86) hsz.symm) rfl (enter_of Try.func17 (by kernel_rfl) rfl) ?_
      show Calls Try.prog 17 #[ac.eval (.tmp 81), ac.eval (.tmp 83)] wc _
      exact (refrowsame_yes _ _ _ _ wc d81 d83).mono fun _ _ ⟨he, hb⟩ => ⟨_, he, rfl, hb⟩
    · intro ac wc hC hsz hfr hd
      have d78 : ac.eval (.tmp 78) = (.bool true) := hd 37 rfl
      have d84 : ac.eval (.tmp 84) = (.bool true) := hd 43 rfl
      rw [if_pos (wanted_none rfl)]
      exact ob_pick rfl rfl rfl (Nat.lt_of_lt_of_eq (by decide : 85 < 86) hsz.symm) rfl d78 (Below.refl _ _) d84
    · intro ac wc hC hsz hfr hd
      have d85 : ac.eval (.tmp 85) = (.bool true) := hd 44 rfl
      rw [if_pos (wanted_none rfl)]
      exact ob_copy rfl rfl rfl (Nat.lt_of_lt_of_eq (by decide : 6 < 86) hsz.symm) (Or.inr rfl) (Below.refl _ _) d85
  intro a' W8 hC hdef hsz hfr hd
  obtain ⟨x41, e41, r41⟩ : ∃ x, a'.eval (.tmp 41) = x ∧ IsRow W8 (x) p q := ⟨_, rfl, hd 0 (by decide)⟩
  replace r41 := Lib.hid r41
  obtain ⟨x42, e42, r42⟩ : ∃ x, a'.eval (.tmp 42) = x ∧ IsRow W8 (x) (Gf.scale (normC p) p) (Gf.scale (normC p) q) := ⟨_, rfl, hd 1 (by decide)⟩
  replace r42 := Lib.hid r42
  obtain ⟨x43, e43, r43⟩ : ∃ x, a'.eval (.tmp 43) = x ∧ IsRow W8 (x) (Gf.scale (normC p) p) (Gf.scale (normC p) q) := ⟨_, rfl, hd 2 (by decide)⟩
  replace r43 := Lib.hid r43
  obtain ⟨x44, e44, r44⟩ : ∃ x, a'.eval (.tmp 44) = x ∧ IsRow W8 (x) p q := ⟨_, rfl, hd 3 (by decide)⟩
  replace r44 := Lib.hid r44
  obtain ⟨x45, e45, r45⟩ : ∃ x, a'.eval (.tmp 45) = x ∧ IsRow W8 (x) p q := ⟨_, rfl, hd 4 (by decide)⟩
  replace r45 := Lib.hid r45
  obtain ⟨x46, e46, r46⟩ : ∃ x, a'.eval (.tmp 46) = x ∧ IsRow W8 (x) (Gf.scale (normC p) p) (Gf.scale (normC p) q) := ⟨_, rfl, hd 5 (by decide)⟩
  replace r46 := Lib.hid r46
  have e47 : a'.eval (.tmp 47) = (.bool true) := hd 6 (by decide)
  have e48 : a'.eval (.tmp 48) = (.bool true) := hd 7 (by decide)
  obtain ⟨x49, e49, r49⟩ : ∃ x, a'.eval (.tmp 49) = x ∧ IsRow W8 (x) (lessV c p q p' q') (lessD c p q p' q') := ⟨_, rfl, hd 8 (by decide)⟩
  replace r49 := Lib.hid r49
  obtain ⟨x50, e50, r50⟩ : ∃ x, a'.eval (.tmp 50) = x ∧ IsRow W8 (x) (lessV c p q p' q') (lessD c p q p' q') := ⟨_, rfl, hd 9 (by decide)⟩
  replace r50 := Lib.hid r50
  obtain ⟨x51, e51, r51⟩ : ∃ x, a'.eval (.tmp 51) = x ∧ IsRow W8 (x) (lessV c p q p' q') (lessD c p q p' q') := ⟨_, rfl, hd 10 (by decide)⟩
  replace r51 := Lib.hid r51
  have e52 : a'.eval (.tmp 52) = (.bool true) := hd 11 (by decide)
  have e53 : a'.eval (.tmp 53) = (.bool true) := hd 12 (by decide)
  have e54 : a'.eval (.tmp 54) = (.bool true) := hd 13 (by decide)
  have e55 : a'.eval (.tmp 55) = (.int .i64 (lessE p q p' q')) := hd 14 (by decide)
  have e56 : a'.eval (.tmp 56) = (.int .i64 (lessE p q p' q')) := hd 15 (by decide)
  have e57 : a'.eval (.tmp 57) = (.bool true) := hd 16 (by decide)
  have e58 : a'.eval (.tmp 58) = (.bool true) := hd 17 (by decide)
  have e59 : a'.eval (.tmp 59) = (.bool true) := hd 18 (by decide)
  obtain ⟨x60, e60, r60⟩ : ∃ x, a'.eval (.tmp 60) = x ∧ IsRow W8 (x) p q := ⟨_, rfl, hd 19 (by decide)⟩
  replace r60 := Lib.hid r60
  obtain ⟨x61, e61, r61⟩ : ∃ x, a'.eval (.tmp 61) = x ∧ IsRow W8 (x) p' q' := ⟨_, rfl, hd 20 (by decide)⟩
  replace r61 := Lib.hid r61
  obtain ⟨x62, e62, r62⟩ : ∃ x, a'.eval (.tmp 62) = x ∧ IsRow W8 (x) p' q' := ⟨_, rfl, hd 21 (by decide)⟩
  replace r62 := Lib.hid r62
  have e63 : a'.eval (.tmp 63) = (.bool (decide (p = p') && decide (q = q'))) := hd 22 (by decide)
  obtain ⟨x64, e64, r64⟩ : ∃ x, a'.eval (.tmp 64) = x ∧ IsRow W8 (x) p q := ⟨_, rfl, hd 23 (by decide)⟩
  replace r64 := Lib.hid r64
  obtain ⟨x65, e65, r65⟩ : ∃ x, a'.eval (.tmp 65) = x ∧ IsRow W8 (x) p q := ⟨_, rfl, hd 24 (by decide)⟩
  replace r65 := Lib.hid r65
  obtain ⟨x66, e66, r66⟩ : ∃ x, a'.eval (.tmp 66) = x ∧ IsRow W8 (x) p' q' := ⟨_, rfl, hd 25 (by decide)⟩
  replace r66 := Lib.hid r66
  obtain ⟨x67, e67, r67⟩ : ∃ x, a'.eval (.tmp 67) = x ∧ IsRow W8 (x) p' q' := ⟨_, rfl, hd 26 (by decide)⟩
  replace r67 := Lib.hid r67
  have e68 : a'.eval (.tmp 68) = (.bool (decide (p = p') && decide (q = q'))) := hd 27 (by decide)
  have e69 : a'.eval (.tmp 69) = (.bool true) := hd 28 (by decide)
  have e70 : a'.eval (.tmp 70) = (.bool true) := hd 29 (by decide)
  have e71 : a'.eval (.tmp 71) = (.bool true) := hd 30 (by decide)
  obtain ⟨x72, e72, r72⟩ : ∃ x, a'.eval (.tmp 72) = x ∧ IsRow W8 (x) p q := ⟨_, rfl, hd 31 (by decide)⟩
  replace r72 := Lib.hid r72
  obtain ⟨x73, e73, r73⟩ : ∃ x, a'.eval (.tmp 73) = x ∧ IsRow W8 (x) p q := ⟨_, rfl, hd 32 (by decide)⟩
  replace r73 := Lib.hid r73
  obtain ⟨x74, e74, r74⟩ : ∃ x, a'.eval (.tmp 74) = x ∧ IsRow W8 (x) p q := ⟨_, rfl, hd 33 (by decide)⟩
  replace r74 := Lib.hid r74
  obtain ⟨x75, e75, r75⟩ : ∃ x, a'.eval (.tmp 75) = x ∧ IsRow W8 (x) p q := ⟨_, rfl, hd 34 (by decide)⟩
  replace r75 := Lib.hid r75
  have e76 : a'.eval (.tmp 76) = (.bool true) := hd 35 (by decide)
  have e77 : a'.eval (.tmp 77) = (.bool true) := hd 36 (by decide)
  have e78 : a'.eval (.tmp 78) = (.bool true) := hd 37 (by decide)
  obtain ⟨x79, e79, r79⟩ : ∃ x, a'.eval (.tmp 79) = x ∧ IsRow W8 (x) p q := ⟨_, rfl, hd 38 (by decide)⟩
  replace r79 := Lib.hid r79
  obtain ⟨x80, e80, r80⟩ : ∃ x, a'.eval (.tmp 80) = x ∧ IsRow W8 (x) p q := ⟨_, rfl, hd 39 (by decide)⟩
  replace r80 := Lib.hid r80
  obtain ⟨x81, e81, r81⟩ : ∃ x, a'.eval (.tmp 81) = x ∧ IsRow W8 (x) p q := ⟨_, rfl, hd 40 (by decide)⟩
  replace r81 := Lib.hid r81
  obtain ⟨x82, e82, r82⟩ : ∃ x, a'.eval (.tmp 82) = x ∧ IsRow W8 (x) p q := ⟨_, rfl, hd 41 (by decide)⟩
  replace r82 := Lib.hid r82
  obtain ⟨x83, e83, r83⟩ : ∃ x, a'.eval (.tmp 83) = x ∧ IsRow W8 (x) p q := ⟨_, rfl, hd 42 (by decide)⟩
  replace r83 := Lib.hid r83
  have e84 : a'.eval (.tmp 84) = (.bool true) := hd 43 (by decide)
  have e85 : a'.eval (.tmp 85) = (.bool true) := hd 44 (by decide)
  have e6 : a'.eval (.tmp 6) = (.bool true) := hd 45 (by decide)
  have hact := act_puts hdef hsz hfr
  simp only [dstsOf, List.filterMap, putAll, Act.put, List.setIfInBounds_toArray, List.set_cons_succ, List.set_cons_zero, e41, e42, e43, e44, e45, e46, e47, e48, e49, e50, e51, e52, e53, e54, e55, e56, e57, e58, e59, e60, e61, e62, e63, e64, e65, e66, e67, e68, e69, e70, e71, e72, e73, e74, e75, e76, e77, e78, e79, e80, e81, e82, e83, e84, e85, e6] at hact
  clear hd hfr hsz hdef e41 e42 e43 e44 e45 e46 e47 e48 e49 e50 e51 e52 e53 e54 e55 e56 e57 e58 e59 e60 e61 e62 e63 e64 e65 e66 e67 e68 e69 e70 e71 e72 e73 e74 e75 e76 e77 e78 e79 e80 e81 e82 e83 e84 e85 e6
  subst hact
  replace B := B.trans (hC.mono B.size)
  clear hC
  go_wp2_with fail
  go_ret
  exact ⟨rfl, B⟩

set_option maxHeartbeats 400000 in
theorem vecRows_out (v0 d0 v1 d1 : Value) (c : Nat) (p q p' q' : List Nat) (w : World) (hp : Bytes w v0 p) (hq : Bytes w d0 q) (hp' : Bytes w v1 p') (hq' : Bytes w d1 q') (hf : few3 p q = false ∨ (few3 p q = true ∧ few3 p' q' = false)) :
    Calls Try.prog 4 #[.agg #[v0, d0], .agg #[v1, d1], U8 c] w fun e w' => e = .returned (.bool true) ∧ Below w.heap.size w w' := by
  have HP := Lib.hid hp
  have HQ := Lib.hid hq
  have HP' := Lib.hid hp'
  have HQ' := Lib.hid hq'
  obtain ⟨a0, c0, rfl, _⟩ := hp
  obtain ⟨a1, c1, rfl, _⟩ := hq
  obtain ⟨a2, c2, rfl, _⟩ := hp'
  obtain ⟨a3, c3, rfl, _⟩ := hq'
  rcases hf with hf | ⟨hf, hf1⟩
  · have HF0 := Lib.hid hf
    clear hf
    go_enter Try.func4, Try.ntmps4
    go_wp2_with fail
    obtain ⟨B, hk1, hk2, hs⟩ := blocks2 w #[.slice a0 p.length c0, .slice a1 q.length c1] 33 #[.slice a2 p'.length c2, .slice a3 q'.length c3] 33
    generalize ((w.alloc (.cells #[.slice a0 p.length c0, .slice a1 q.length c1] 33)).alloc (.cells #[.slice a2 p'.length c2, .slice a3 q'.length c3] 33)) = W at *
    have K1 := Lib.hid hk1
    have K2 := Lib.hid hk2
    have HS := Lib.hid hs
    clear hs hk1 hk2
    replace HP := Lib.hid (HP.out.go B)
    replace HQ := Lib.hid (HQ.out.go B)
    have hzW := B.size
    refine (awake3_any _).mono ?_
    rintro e w1 ⟨rfl, hb⟩
    replace HP := Lib.hid (HP.out.go hb)
    replace HQ := Lib.hid (HQ.out.go hb)
    replace K1 := Lib.hid (K1.out.go hb)
    replace B := B.trans (hb.mono B.size)
    have hzw1 := B.size
    clear hb
    obtain ⟨k10, k11⟩ := K1.out.two
    have k1l := K1.out.lt
    go_wp2_with fail
    refine (few3_any _ p q _ ⟨_, _, rfl, HP.out, HQ.out⟩).mono ?_
    rintro e w2 ⟨rfl, hb⟩
    replace B := B.trans (hb.mono B.size)
    have hzw2 := B.size
    clear hb
    rw [HF0.out]
    go_wp2_with fail
    go_ret
    exact ⟨rfl, B⟩
  · have HF0 := Lib.hid hf
    have HF1 := Lib.hid hf1
    clear hf hf1
    go_enter Try.func4, Try.ntmps4
    go_wp2_with fail
    obtain ⟨B, hk1, hk2, hs⟩ := blocks2 w #[.slice a0 p.length c0, .slice a1 q.length c1] 33 #[.slice a2 p'.length c2, .slice a3 q'.length c3] 33
    generalize ((w.alloc (.cells #[.slice a0 p.length c0, .slice a1 q.length c1] 33)).alloc (.cells #[.slice a2 p'.length c2, .slice a3 q'.length c3] 33)) = W at *
    have K1 := Lib.hid hk1
    have K2 := Lib.hid hk2
    have HS := Lib.hid hs
    clear hs hk1 hk2
    replace HP := Lib.hid (HP.out.go B)
    replace HQ := Lib.hid (HQ.out.go B)
    replace HP' := Lib.hid (HP'.out.go B)
    replace HQ' := Lib.hid (HQ'.out.go B)
    have hzW := B.size
    refine (awake3_any _).mono ?_
    rintro e w1 ⟨rfl, hb⟩
    replace HP := Lib.hid (HP.out.go hb)
    replace HQ := Lib.hid (HQ.out.go hb)
    replace HP' := Lib.hid (HP'.out.go hb)
    replace HQ' := Lib.hid (HQ'.out.go hb)
    replace K1 := Lib.hid (K1.out.go hb)
    replace K2 := Lib.hid (K2.out.go hb)
    replace B := B.trans (hb.mono B.size)
    have hzw1 := B.size
    clear hb
    obtain ⟨k10, k11⟩ := K1.out.two
    have k1l := K1.out.lt
    obtain ⟨k20, k21⟩ := K2.out.two
    have k2l := K2.out.lt
    go_wp2_with fail
    refine (few3_any _ p q _ ⟨_, _, rfl, HP.out, HQ.out⟩).mono ?_
    rintro e w2 ⟨rfl, hb⟩
    replace HP' := Lib.hid (HP'.out.go hb)
    replace HQ' := Lib.hid (HQ'.out.go hb)
    replace K2 := Lib.hid (K2.out.go hb)
    replace B := B.trans (hb.mono B.size)
    have hzw2 := B.size
    clear hb
    rw [HF0.out]
    obtain ⟨k20, k21⟩ := K2.out.two
    have k2l := K2.out.lt
    go_wp2_with fail
    refine (few3_any _ p' q' _ ⟨_, _, rfl, HP'.out, HQ'.out⟩).mono ?_
    rintro e w3 ⟨rfl, hb⟩
    replace B := B.trans (hb.mono B.size)
    have hzw3 := B.size
    clear hb
    rw [HF1.out]
    go_wp2_with fail
    go_ret
    exact ⟨rfl, B⟩

theorem vecRows_walk (u0 : Value) (p q : List Nat) (u1 : Value) (p' q' : List Nat) (c : Nat) (w : World) (h0 : IsRow w u0 p q) (h1 : IsRow w u1 p' q') (hc : c < 256) :
    Calls Try.prog 4 #[u0, u1, U8 c] w fun e w' => e = .returned (.bool true) ∧ Below w.heap.size w w' := by
  obtain ⟨v0, d0, rfl, hp, hq⟩ := h0
  obtain ⟨v1, d1, rfl, hp', hq'⟩ := h1
  by_cases hf : few3 p q = true
  · by_cases hf1 : few3 p' q' = true
    · exact vecRows_in v0 d0 v1 d1 c p q p' q' w hc hp hq hp' hq' hf hf1
    · exact vecRows_out v0 d0 v1 d1 c p q p' q' w hp hq hp' hq' (Or.inr ⟨hf, by simpa using hf1⟩)
  · exact vecRows_out v0 d0 v1 d1 c p q p' q' w hp hq hp' hq' (Or.inl (by simpa using hf))

end Go.Proofs.Ytgjjkiebfekkjaa
