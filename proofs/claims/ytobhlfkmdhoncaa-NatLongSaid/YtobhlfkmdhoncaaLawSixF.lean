/-
  The laws of numbers (layer 6), walked: NatLong.
-/
import Derived.Test.YtobhlfkmdhoncaaLawSixB
import Derived.Test.YtobhlfkmdhoncaaMonoN
set_option maxRecDepth 100000
namespace Go.Proofs.Ytobhlfkmdhoncaa
open Go.RowKit

theorem great_gen' {m k n : Nat} (hk : 8 * m ≤ k) (h : 256 ^ k ≤ n) : m < (Wt.dg n).length := (great_gen m n).2 (Nat.le_trans (Nat.pow_le_pow_right (by decide) hk) h)
theorem great_of {k n : Nat} (hk : 8 * 512 ≤ k) (h : 256 ^ k ≤ n) : Great n := great_gen' (m := 512) hk h
theorem dg_len {k n : Nat} (h1 : 256 ^ k ≤ n) (h2 : n < 256 ^ (k + 1)) : (Nt.dg n).length = k + 1 := by
  have h3 := Nt.dg_length_lt h1
  have h4 := Nt.dg_length_le h2
  omega
/-- What is asked of the greatest numbers. -/
structure Long (n T : Nat) : Prop where
  pows : ∀ j, j ≤ n → ¬ Great (256 ^ j)
  top : 256 ^ n = T
  topG : ¬ Great T
  half : ¬ Great (128 * T)
  sum : Great (128 * T + 128 * T)
  more : Great (256 * T)
  next : Great (256 ^ (n + 1))
  topL : (Nt.dg T).length = n + 1
  halfL : (Nt.dg (128 * T)).length = n + 1
theorem long_ok (n : Nat) (hn : n + 1 = 4096) : Long n (256 ^ n) := by
  have hp : 0 < 256 ^ n := Nat.pow_pos (by decide)
  have hs : 256 ^ (n + 1) = 256 ^ n * 256 := Nat.pow_succ ..
  have hg : 8 * 512 ≤ n + 1 := by omega
  have hle : n + 1 ≤ 4096 := by omega
  have hpows : ∀ j, j ≤ n → ¬ Great (256 ^ j) := fun j hj => not_great (k := j + 1) ((Nat.pow_lt_pow_iff_right (by decide)).2 (by omega)) (by omega)
  clear hn
  refine ⟨hpows, rfl, hpows n (Nat.le_refl _), not_great (k := n + 1) ?_ hle, great_of hg ?_, great_of hg ?_, great_of hg (Nat.le_refl _), dg_len (Nat.le_refl _) ?_, dg_len ?_ ?_⟩
  all_goals (try rw [hs])
  all_goals (generalize 256 ^ n = T at *; omega)
theorem cmp_alike (u v : Value) (n : Nat) (w : World) (hU : IsNat w u n) (hV : IsNat w v n) :
    Calls Try.prog 34 #[u, v] w fun e w' => e = .returned (.int .i64 0) ∧ Below w.heap.size w w' := by
  have h1 := natcmp_any u v n n w hU hV
  rw [Nt.cmp_eq rfl] at h1
  exact h1
theorem one_pow_small (j : Nat) : ¬ Great (1 ^ j) := by rw [Nat.one_pow]; exact not_great_small (by decide)

set_option maxHeartbeats 16000000 in
theorem natlong_any (w : World) : Calls Try.prog 10 #[] w (Yea w) := by
  obtain ⟨n, hn⟩ : ∃ n : Nat, n + 1 = 4096 := ⟨4095, rfl⟩
  have hl := long_ok n hn
  have HNI := Lib.hid (show (n : Int) = 4095 by omega)
  have HN1 := Lib.hid (show ((n + 1 : Nat) : Int) = 4096 by omega)
  have HNS := Lib.hid (show n + 1 ≤ 65536 by omega)
  clear hn
  generalize hT : 256 ^ n = T at hl
  have HL := Lib.hid hl
  clear hl hT
  have B : Below w.heap.size w w := Below.refl _ _
  have HG256 := Lib.hid (not_great_small (n := 256) (by decide))
  have HG128 := Lib.hid (not_great_small (n := 128) (by decide))
  have HG1 := Lib.hid (not_great_small (n := 1) (by decide))
  have HP1 := Lib.hid (show ∀ u w, IsNat w u 256 → Calls Try.prog 42 #[u, .int .i64 4095] w (NatE w T 0) from fun u w h => by
    have := pow_ok u 256 n w (by have := HNS.out; omega) HG256.out HL.out.pows h
    rwa [HL.out.top, HNI.out] at this)
  have HP2 := Lib.hid (show ∀ u w, IsNat w u 256 → Calls Try.prog 42 #[u, .int .i64 4096] w (NatE w 0 16) from fun u w h => by
    have := pow_great u 256 n w HNS.out HG256.out HL.out.pows HL.out.next h
    rwa [HN1.out] at this)
  have HP3 := Lib.hid (show ∀ u w, IsNat w u 1 → Calls Try.prog 42 #[u, .int .i64 65536] w (NatE w 1 0) from fun u w h => by
    obtain ⟨e, he⟩ : ∃ e : Nat, e = 65536 := ⟨_, rfl⟩
    have h1 := pow_ok u 1 e w (Nat.le_of_eq he) HG1.out (fun j _ => one_pow_small j) h
    rw [Nat.one_pow, show (e : Int) = 65536 by omega] at h1
    exact h1)
  have HLT := Lib.hid (show ((Nt.dg T).length : Int) = 4096 by rw [HL.out.topL]; exact HN1.out)
  have HLH := Lib.hid (show ((Nt.dg (128 * T)).length : Int) = 4096 by rw [HL.out.halfL]; exact HN1.out)
  have HTG := Lib.hid HL.out.topG
  have HHG := Lib.hid HL.out.half
  have HSG := Lib.hid HL.out.sum
  have HMG := Lib.hid HL.out.more
  clear HNI HN1 HNS HL
  have HMU := Lib.hid (fun u w => mul_two u 128 T w HG128.out HTG.out HHG.out)
  have HMX := Lib.hid (fun u w => mul_two_great u 256 T w HG256.out HTG.out HMG.out)
  have HAD := Lib.hid (fun u w => add_two_great u (128 * T) (128 * T) w HHG.out HHG.out HSG.out)
  have HLN := Lib.hid (show ∀ u w, IsNat w u T → Calls Try.prog 32 #[u] w (fun e w' => e = .returned (.int .i64 4096) ∧ Below w.heap.size w w') from fun u w h => by
    have := natlen_any u T w (words_small HTG.out) h
    rwa [HLT.out] at this)
  have HLK := Lib.hid (show ∀ u w, IsNat w u (128 * T) → Calls Try.prog 32 #[u] w (fun e w' => e = .returned (.int .i64 4096) ∧ Below w.heap.size w w') from fun u w h => by
    have := natlen_any u (128 * T) w (words_small HHG.out) h
    rwa [HLH.out] at this)
  clear HLT HLH HTG HHG HSG HMG HG256 HG128 HG1
  generalize hH : 128 * T = h at *
  clear hH
  go_enter Try.func10, Try.ntmps10
  go_wp2_with fail
  refine (natof_any 256 w (by decide)).mono ?_
  rintro e v0 ⟨u, rfl, hu, hb⟩
  have HUX := Lib.hid hu
  obtain ⟨ax, cx, rfl, _⟩ := hu.shape
  replace B := B.trans (hb.mono B.size)
  clear hb hu
  generalize hll : (Wt.dg (256)).length = lx' at *
  clear hll
  have HO := HUX
  clear HUX
  go_wp2_with fail
  refine (HP1.out _ v0 HO.out).mono ?_
  rintro e v1 ⟨u, rfl, hu, hb⟩
  have HUX := Lib.hid hu
  obtain ⟨ax, cx, rfl, _⟩ := hu.shape
  replace B := B.trans (hb.mono B.size)
  clear hb hu
  generalize hll : (Wt.dg (T)).length = lx' at *
  clear hll
  clear HO
  go_upto_region 2 with fail
  have HBX := Lib.hid (BoxN.new 47 rfl HUX.out)
  have hb := (blocks1 v1 #[.slice ax lx' cx] 47).1
  replace B := B.trans (hb.mono B.size)
  obtain ⟨g1, hg⟩ : ∃ g1, g1 = v1.heap.size := ⟨_, rfl⟩
  rw [← hg] at HBX ⊢
  generalize v1.alloc (.cells #[.slice ax lx' cx] 47) = W1 at *
  have N1 := HBX
  clear hb hg HBX HUX
  obtain ⟨p1, q1, r1, hc1, hn1⟩ := N1.out
  refine wp_region_mono (C := Cb W1) (R := Rb) (H := Hn W1) [Ty.nat 23 128, Ty.val 24 (.agg #[.slice p1 q1 r1]), Ty.pair 25 128 T, Ty.natE 26 h 0, Ty.natE 22 h 0, Ty.nat 27 h, Ty.val 28 (.int .i64 0), Ty.made 3 , Ty.filled 3 h, Ty.val 4 (.int .i64 0)] (by kernel_rfl) (hC_b W1) (hCH_n W1) (drew_b W1) ⟨trivial, trivial, trivial, trivial, trivial, trivial, trivial, trivial, trivial, trivial, trivial⟩ (by kernel_rfl) ?_ ?_
  · refine ⟨?_, ?_, ?_, ?_, ?_, ?_, ?_, ?_, ?_, ?_, trivial⟩
    · intro ac wc hC hsz hfr hd hpr
      rw [if_pos (wanted_none rfl)]
      refine ob_call rfl rfl rfl (Nat.lt_of_lt_of_eq (by decide : 23 < 112) hsz.symm) rfl (enter_of Try.func27 (by kernel_rfl) rfl) ?_
      show Calls Try.prog 27 #[.int .u64 128] wc _
      exact natof_any 128 wc (by decide)
    · intro ac wc hC hsz hfr hd hpr
      have d1 : ac.eval (.tmp 1) = (.pointer (some ⟨g1, 0, none⟩)) := hfr 1 rfl
      rw [if_pos (wanted_none rfl)]
      exact ob_load _ rfl rfl rfl (Nat.lt_of_lt_of_eq (by decide : 24 < 112) hsz.symm) rfl d1 (load_nat (cell_keep hc1 hC)) (Below.refl _ _) rfl
    · intro ac wc hC hsz hfr hd hpr
      have d23 : IsNat wc (ac.eval (.tmp 23)) 128 := hd 0 rfl
      have d24 : ac.eval (.tmp 24) = (.agg #[.slice p1 q1 r1]) := hd 1 rfl
      rw [if_pos (wanted_none rfl)]
      have hlt : 25 < ac.tmps.size := (Nat.lt_of_lt_of_eq (by decide : 25 < 112) hsz.symm)
      exact ob_pair rfl hlt rfl d23 (by rw [d24]; exact hn1.go hC)
    · intro ac wc hC hsz hfr hd hpr
      have d25 : IsPair wc (ac.eval (.tmp 25)) 128 T := hd 2 rfl
      rw [if_pos (wanted_none rfl)]
      refine ob_call rfl rfl rfl (Nat.lt_of_lt_of_eq (by decide : 26 < 112) hsz.symm) rfl (enter_of Try.func37 (by kernel_rfl) rfl) ?_
      show Calls Try.prog 37 #[ac.eval (.tmp 25)] wc _
      exact (HMU.out _ wc d25.nats).mono fun _ _ ⟨u, he, hu, hb⟩ => ⟨_, he, ⟨u, rfl, hu⟩, hb⟩
    · intro ac wc hC hsz hfr hd hpr
      have d26 : ∃ u, ac.eval (.tmp 26) = .tuple #[u, .int .i64 0] ∧ IsNat wc (u) h := hd 3 rfl
      rw [if_pos (wanted_none rfl)]
      exact ob_copy rfl rfl rfl (Nat.lt_of_lt_of_eq (by decide : 22 < 112) hsz.symm) (Or.inl rfl) (Below.refl _ _) d26
    · intro ac wc hC hsz hfr hd hpr
      have d22 : ∃ u, ac.eval (.tmp 22) = .tuple #[u, .int .i64 0] ∧ IsNat wc (u) h := hd 4 rfl
      rw [if_pos (wanted_none rfl)]
      obtain ⟨u, eu, hu⟩ := d22
      exact ob_extract _ rfl rfl rfl (Nat.lt_of_lt_of_eq (by decide : 27 < 112) hsz.symm) rfl eu (extract0 _ _) (Below.refl _ _) hu
    · intro ac wc hC hsz hfr hd hpr
      have d22 : ∃ u, ac.eval (.tmp 22) = .tuple #[u, .int .i64 0] ∧ IsNat wc (u) h := hd 4 rfl
      rw [if_pos (wanted_none rfl)]
      obtain ⟨u, eu, hu⟩ := d22
      exact ob_extract _ rfl rfl rfl (Nat.lt_of_lt_of_eq (by decide : 28 < 112) hsz.symm) rfl eu (extract1 _ _) (Below.refl _ _) rfl
    · intro ac wc hC hsz hfr hd hpr
      rw [if_pos (wanted_none rfl)]
      have hlt : 3 < ac.tmps.size := (Nat.lt_of_lt_of_eq (by decide : 3 < 112) hsz.symm)
      exact ob_made rfl hlt rfl hC (by go_simp)
    · intro ac wc hC hsz hfr hd hpr
      have d3 : Made W1 wc (ac.eval (.tmp 3)) := hd 7 rfl
      have d27 : IsNat wc (ac.eval (.tmp 27)) h := hd 5 rfl
      rw [if_pos (wanted_none rfl)]
      show Done _ (Ty.filled 3 h) _ _ _ _
      exact ob_store_nat rfl rfl d3 d27
    · intro ac wc hC hsz hfr hd hpr
      have d28 : ac.eval (.tmp 28) = (.int .i64 0) := hd 6 rfl
      rw [if_pos (wanted_none rfl)]
      exact ob_copy rfl rfl rfl (Nat.lt_of_lt_of_eq (by decide : 4 < 112) hsz.symm) (Or.inr rfl) (Below.refl _ _) d28
  intro a' W2 hC hdef hsz hfr hd
  obtain ⟨x23, e23, r23⟩ : ∃ xq_, a'.eval (.tmp 23) = xq_ ∧ IsNat W2 (xq_) 128 := ⟨_, rfl, hd 0 (by decide)⟩
  replace r23 := Lib.hid r23
  have e24 : a'.eval (.tmp 24) = (.agg #[.slice p1 q1 r1]) := hd 1 (by decide)
  obtain ⟨x25, e25, r25⟩ : ∃ xq_, a'.eval (.tmp 25) = xq_ ∧ IsPair W2 (xq_) 128 T := ⟨_, rfl, hd 2 (by decide)⟩
  replace r25 := Lib.hid r25
  obtain ⟨x26, e26, r26⟩ : ∃ u, a'.eval (.tmp 26) = .tuple #[u, .int .i64 0] ∧ IsNat W2 (u) h := hd 3 (by decide)
  replace r26 := Lib.hid r26
  obtain ⟨x22, e22, r22⟩ : ∃ u, a'.eval (.tmp 22) = .tuple #[u, .int .i64 0] ∧ IsNat W2 (u) h := hd 4 (by decide)
  replace r22 := Lib.hid r22
  obtain ⟨x27, e27, r27⟩ : ∃ xq_, a'.eval (.tmp 27) = xq_ ∧ IsNat W2 (xq_) h := ⟨_, rfl, hd 5 (by decide)⟩
  replace r27 := Lib.hid r27
  have e28 : a'.eval (.tmp 28) = (.int .i64 0) := hd 6 (by decide)
  obtain ⟨g3, x3, y3, z3, e3, hg3, kb3, r3⟩ : Filled W1 W2 (a'.eval (.tmp 3)) h := hd 8 (by decide)
  replace r3 := Lib.hid r3
  replace kb3 := Lib.hid kb3
  have e4 : a'.eval (.tmp 4) = (.int .i64 0) := hd 9 (by decide)
  have hact := act_puts hdef hsz hfr
  simp only [dstsOf, List.filterMap, putAll, Act.put, List.setIfInBounds_toArray, List.set_cons_succ, List.set_cons_zero, e23, e24, e25, e26, e22, e27, e28, e3, e4] at hact
  clear hd hfr hsz hdef e23 e24 e25 e26 e22 e27 e28 e3 e4
  subst hact
  replace N1 := Lib.hid (N1.out.go hC)
  replace B := B.trans (hC.mono B.size)
  clear hC
  have N3 := Lib.hid (show BoxN W2 g3 h from ⟨_, _, _, kb3.out.cell 0, r3.out⟩)
  clear kb3 r3 hg3 hc1 hn1
  go_upto_region 3 with fail
  obtain ⟨p3, q3, r3, hc3, hn3⟩ := N3.out
  go_wp2_with fail
  have HNS := Lib.hid (isNats2 47 hn3 hn3)
  have hbs := (blocks1 W2 #[.slice p3 q3 r3, .slice p3 q3 r3] 47).1
  replace N1 := Lib.hid (N1.out.go hbs)
  replace N3 := Lib.hid (N3.out.go hbs)
  replace B := B.trans (hbs.mono B.size)
  clear hbs hc3 hn3
  refine (HAD.out _ _ HNS.out).mono ?_
  rintro e v5 ⟨u, rfl, hu, hb⟩
  have HUX := Lib.hid hu
  obtain ⟨ax, cx, rfl, _⟩ := hu.shape
  replace N1 := Lib.hid (N1.out.go hb)
  replace N3 := Lib.hid (N3.out.go hb)
  replace B := B.trans (hb.mono B.size)
  clear hb hu
  generalize hll : (Wt.dg (0)).length = lx' at *
  clear hll
  clear HNS
  go_upto_region 4 with fail
  have HBX := Lib.hid (BoxN.new 47 rfl HUX.out)
  have hb := (blocks1 v5 #[.slice ax lx' cx] 47).1
  replace N1 := Lib.hid (N1.out.go hb)
  replace N3 := Lib.hid (N3.out.go hb)
  replace B := B.trans (hb.mono B.size)
  obtain ⟨g5, hg⟩ : ∃ g5, g5 = v5.heap.size := ⟨_, rfl⟩
  rw [← hg] at HBX ⊢
  generalize v5.alloc (.cells #[.slice ax lx' cx] 47) = W5 at *
  have N5 := HBX
  clear hb hg HBX HUX
  clear N5
  obtain ⟨p1, q1, r1, hc1, hn1⟩ := N1.out
  refine wp_region_mono (C := Cb W5) (R := Rb) (H := Hn W5) [Ty.nat 37 256, Ty.val 38 (.agg #[.slice p1 q1 r1]), Ty.pair 39 256 T, Ty.natE 40 0 16, Ty.natE 36 0 16, Ty.nat 41 0, Ty.val 42 (.int .i64 16), Ty.made 7 , Ty.filled 7 0, Ty.val 8 (.int .i64 16)] (by kernel_rfl) (hC_b W5) (hCH_n W5) (drew_b W5) ⟨trivial, trivial, trivial, trivial, trivial, trivial, trivial, trivial, trivial, trivial, trivial⟩ (by kernel_rfl) ?_ ?_
  · refine ⟨?_, ?_, ?_, ?_, ?_, ?_, ?_, ?_, ?_, ?_, trivial⟩
    · intro ac wc hC hsz hfr hd hpr
      rw [if_pos (wanted_none rfl)]
      refine ob_call rfl rfl rfl (Nat.lt_of_lt_of_eq (by decide : 37 < 112) hsz.symm) rfl (enter_of Try.func27 (by kernel_rfl) rfl) ?_
      show Calls Try.prog 27 #[.int .u64 256] wc _
      exact natof_any 256 wc (by decide)
    · intro ac wc hC hsz hfr hd hpr
      have d1 : ac.eval (.tmp 1) = (.pointer (some ⟨g1, 0, none⟩)) := hfr 1 rfl
      rw [if_pos (wanted_none rfl)]
      exact ob_load _ rfl rfl rfl (Nat.lt_of_lt_of_eq (by decide : 38 < 112) hsz.symm) rfl d1 (load_nat (cell_keep hc1 hC)) (Below.refl _ _) rfl
    · intro ac wc hC hsz hfr hd hpr
      have d37 : IsNat wc (ac.eval (.tmp 37)) 256 := hd 0 rfl
      have d38 : ac.eval (.tmp 38) = (.agg #[.slice p1 q1 r1]) := hd 1 rfl
      rw [if_pos (wanted_none rfl)]
      have hlt : 39 < ac.tmps.size := (Nat.lt_of_lt_of_eq (by decide : 39 < 112) hsz.symm)
      exact ob_pair rfl hlt rfl d37 (by rw [d38]; exact hn1.go hC)
    · intro ac wc hC hsz hfr hd hpr
      have d39 : IsPair wc (ac.eval (.tmp 39)) 256 T := hd 2 rfl
      rw [if_pos (wanted_none rfl)]
      refine ob_call rfl rfl rfl (Nat.lt_of_lt_of_eq (by decide : 40 < 112) hsz.symm) rfl (enter_of Try.func37 (by kernel_rfl) rfl) ?_
      show Calls Try.prog 37 #[ac.eval (.tmp 39)] wc _
      exact (HMX.out _ wc d39.nats).mono fun _ _ ⟨u, he, hu, hb⟩ => ⟨_, he, ⟨u, rfl, hu⟩, hb⟩
    · intro ac wc hC hsz hfr hd hpr
      have d40 : ∃ u, ac.eval (.tmp 40) = .tuple #[u, .int .i64 16] ∧ IsNat wc (u) 0 := hd 3 rfl
      rw [if_pos (wanted_none rfl)]
      exact ob_copy rfl rfl rfl (Nat.lt_of_lt_of_eq (by decide : 36 < 112) hsz.symm) (Or.inl rfl) (Below.refl _ _) d40
    · intro ac wc hC hsz hfr hd hpr
      have d36 : ∃ u, ac.eval (.tmp 36) = .tuple #[u, .int .i64 16] ∧ IsNat wc (u) 0 := hd 4 rfl
      rw [if_pos (wanted_none rfl)]
      obtain ⟨u, eu, hu⟩ := d36
      exact ob_extract _ rfl rfl rfl (Nat.lt_of_lt_of_eq (by decide : 41 < 112) hsz.symm) rfl eu (extract0 _ _) (Below.refl _ _) hu
    · intro ac wc hC hsz hfr hd hpr
      have d36 : ∃ u, ac.eval (.tmp 36) = .tuple #[u, .int .i64 16] ∧ IsNat wc (u) 0 := hd 4 rfl
      rw [if_pos (wanted_none rfl)]
      obtain ⟨u, eu, hu⟩ := d36
      exact ob_extract _ rfl rfl rfl (Nat.lt_of_lt_of_eq (by decide : 42 < 112) hsz.symm) rfl eu (extract1 _ _) (Below.refl _ _) rfl
    · intro ac wc hC hsz hfr hd hpr
      rw [if_pos (wanted_none rfl)]
      have hlt : 7 < ac.tmps.size := (Nat.lt_of_lt_of_eq (by decide : 7 < 112) hsz.symm)
      exact ob_made rfl hlt rfl hC (by go_simp)
    · intro ac wc hC hsz hfr hd hpr
      have d7 : Made W5 wc (ac.eval (.tmp 7)) := hd 7 rfl
      have d41 : IsNat wc (ac.eval (.tmp 41)) 0 := hd 5 rfl
      rw [if_pos (wanted_none rfl)]
      show Done _ (Ty.filled 7 0) _ _ _ _
      exact ob_store_nat rfl rfl d7 d41
    · intro ac wc hC hsz hfr hd hpr
      have d42 : ac.eval (.tmp 42) = (.int .i64 16) := hd 6 rfl
      rw [if_pos (wanted_none rfl)]
      exact ob_copy rfl rfl rfl (Nat.lt_of_lt_of_eq (by decide : 8 < 112) hsz.symm) (Or.inr rfl) (Below.refl _ _) d42
  intro a' W6 hC hdef hsz hfr hd
  obtain ⟨x37, e37, r37⟩ : ∃ xq_, a'.eval (.tmp 37) = xq_ ∧ IsNat W6 (xq_) 256 := ⟨_, rfl, hd 0 (by decide)⟩
  replace r37 := Lib.hid r37
  have e38 : a'.eval (.tmp 38) = (.agg #[.slice p1 q1 r1]) := hd 1 (by decide)
  obtain ⟨x39, e39, r39⟩ : ∃ xq_, a'.eval (.tmp 39) = xq_ ∧ IsPair W6 (xq_) 256 T := ⟨_, rfl, hd 2 (by decide)⟩
  replace r39 := Lib.hid r39
  obtain ⟨x40, e40, r40⟩ : ∃ u, a'.eval (.tmp 40) = .tuple #[u, .int .i64 16] ∧ IsNat W6 (u) 0 := hd 3 (by decide)
  replace r40 := Lib.hid r40
  obtain ⟨x36, e36, r36⟩ : ∃ u, a'.eval (.tmp 36) = .tuple #[u, .int .i64 16] ∧ IsNat W6 (u) 0 := hd 4 (by decide)
  replace r36 := Lib.hid r36
  obtain ⟨x41, e41, r41⟩ : ∃ xq_, a'.eval (.tmp 41) = xq_ ∧ IsNat W6 (xq_) 0 := ⟨_, rfl, hd 5 (by decide)⟩
  replace r41 := Lib.hid r41
  have e42 : a'.eval (.tmp 42) = (.int .i64 16) := hd 6 (by decide)
  obtain ⟨g7, x7, y7, z7, e7, hg7, kb7, r7⟩ : Filled W5 W6 (a'.eval (.tmp 7)) 0 := hd 8 (by decide)
  replace r7 := Lib.hid r7
  replace kb7 := Lib.hid kb7
  have e8 : a'.eval (.tmp 8) = (.int .i64 16) := hd 9 (by decide)
  have hact := act_puts hdef hsz hfr
  simp only [dstsOf, List.filterMap, putAll, Act.put, List.setIfInBounds_toArray, List.set_cons_succ, List.set_cons_zero, e37, e38, e39, e40, e36, e41, e42, e7, e8] at hact
  clear hd hfr hsz hdef e37 e38 e39 e40 e36 e41 e42 e7 e8
  subst hact
  replace N1 := Lib.hid (N1.out.go hC)
  replace N3 := Lib.hid (N3.out.go hC)
  replace B := B.trans (hC.mono B.size)
  clear hC
  clear kb7 r7 hg7 hc1 hn1
  go_upto_region 5 with fail
  go_wp2_with fail
  refine (natof_any 256 _ (by decide)).mono ?_
  rintro e v8 ⟨u, rfl, hu, hb⟩
  have HUX := Lib.hid hu
  obtain ⟨ax, cx, rfl, _⟩ := hu.shape
  replace N1 := Lib.hid (N1.out.go hb)
  replace N3 := Lib.hid (N3.out.go hb)
  replace B := B.trans (hb.mono B.size)
  clear hb hu
  generalize hll : (Wt.dg (256)).length = lx' at *
  clear hll
  have HO := HUX
  clear HUX
  go_wp2_with fail
  refine (HP2.out _ v8 HO.out).mono ?_
  rintro e v9 ⟨u, rfl, hu, hb⟩
  have HUX := Lib.hid hu
  obtain ⟨ax, cx, rfl, _⟩ := hu.shape
  replace N1 := Lib.hid (N1.out.go hb)
  replace N3 := Lib.hid (N3.out.go hb)
  replace B := B.trans (hb.mono B.size)
  clear hb hu
  generalize hll : (Wt.dg (0)).length = lx' at *
  clear hll
  clear HO
  go_upto_region 6 with fail
  have HBX := Lib.hid (BoxN.new 47 rfl HUX.out)
  have hb := (blocks1 v9 #[.slice ax lx' cx] 47).1
  replace N1 := Lib.hid (N1.out.go hb)
  replace N3 := Lib.hid (N3.out.go hb)
  replace B := B.trans (hb.mono B.size)
  obtain ⟨g9, hg⟩ : ∃ g9, g9 = v9.heap.size := ⟨_, rfl⟩
  rw [← hg] at HBX ⊢
  generalize v9.alloc (.cells #[.slice ax lx' cx] 47) = W9 at *
  have N9 := HBX
  clear hb hg HBX HUX
  clear N9
  go_wp2_with fail
  refine (natof_any 2 _ (by decide)).mono ?_
  rintro e v10 ⟨u, rfl, hu, hb⟩
  have HUX := Lib.hid hu
  obtain ⟨ax, cx, rfl, _⟩ := hu.shape
  replace N1 := Lib.hid (N1.out.go hb)
  replace N3 := Lib.hid (N3.out.go hb)
  replace B := B.trans (hb.mono B.size)
  clear hb hu
  generalize hll : (Wt.dg (2)).length = lx' at *
  clear hll
  have HO := HUX
  clear HUX
  go_wp2_with fail
  refine (natpow_no _ 2 (-1) v10 (.inl (by decide)) HO.out).mono ?_
  rintro e v11 ⟨u, rfl, hu, hb⟩
  have HUX := Lib.hid hu
  obtain ⟨ax, cx, rfl, _⟩ := hu.shape
  replace N1 := Lib.hid (N1.out.go hb)
  replace N3 := Lib.hid (N3.out.go hb)
  replace B := B.trans (hb.mono B.size)
  clear hb hu
  generalize hll : (Wt.dg (0)).length = lx' at *
  clear hll
  clear HO
  go_upto_region 7 with fail
  have HBX := Lib.hid (BoxN.new 47 rfl HUX.out)
  have hb := (blocks1 v11 #[.slice ax lx' cx] 47).1
  replace N1 := Lib.hid (N1.out.go hb)
  replace N3 := Lib.hid (N3.out.go hb)
  replace B := B.trans (hb.mono B.size)
  obtain ⟨g11, hg⟩ : ∃ g11, g11 = v11.heap.size := ⟨_, rfl⟩
  rw [← hg] at HBX ⊢
  generalize v11.alloc (.cells #[.slice ax lx' cx] 47) = W11 at *
  have N11 := HBX
  clear hb hg HBX HUX
  clear N11
  go_wp2_with fail
  refine (natof_any 1 _ (by decide)).mono ?_
  rintro e v12 ⟨u, rfl, hu, hb⟩
  have HUX := Lib.hid hu
  obtain ⟨ax, cx, rfl, _⟩ := hu.shape
  replace N1 := Lib.hid (N1.out.go hb)
  replace N3 := Lib.hid (N3.out.go hb)
  replace B := B.trans (hb.mono B.size)
  clear hb hu
  generalize hll : (Wt.dg (1)).length = lx' at *
  clear hll
  have HO := HUX
  clear HUX
  go_wp2_with fail
  refine (HP3.out _ v12 HO.out).mono ?_
  rintro e v13 ⟨u, rfl, hu, hb⟩
  have HUX := Lib.hid hu
  obtain ⟨ax, cx, rfl, _⟩ := hu.shape
  replace N1 := Lib.hid (N1.out.go hb)
  replace N3 := Lib.hid (N3.out.go hb)
  replace B := B.trans (hb.mono B.size)
  clear hb hu
  generalize hll : (Wt.dg (1)).length = lx' at *
  clear hll
  clear HO
  go_upto_region 8 with fail
  have HBX := Lib.hid (BoxN.new 47 rfl HUX.out)
  have hb := (blocks1 v13 #[.slice ax lx' cx] 47).1
  replace N1 := Lib.hid (N1.out.go hb)
  replace N3 := Lib.hid (N3.out.go hb)
  replace B := B.trans (hb.mono B.size)
  obtain ⟨g13, hg⟩ : ∃ g13, g13 = v13.heap.size := ⟨_, rfl⟩
  rw [← hg] at HBX ⊢
  generalize v13.alloc (.cells #[.slice ax lx' cx] 47) = W13 at *
  have N13 := HBX
  clear hb hg HBX HUX
  go_wp2_with fail
  refine (natof_any 1 _ (by decide)).mono ?_
  rintro e v14 ⟨u, rfl, hu, hb⟩
  have HUX := Lib.hid hu
  obtain ⟨ax, cx, rfl, _⟩ := hu.shape
  replace N1 := Lib.hid (N1.out.go hb)
  replace N3 := Lib.hid (N3.out.go hb)
  replace N13 := Lib.hid (N13.out.go hb)
  replace B := B.trans (hb.mono B.size)
  clear hb hu
  generalize hll : (Wt.dg (1)).length = lx' at *
  clear hll
  have HO := HUX
  clear HUX
  go_wp2_with fail
  refine (natpow_no _ 1 65537 v14 (.inr ⟨by decide, by decide⟩) HO.out).mono ?_
  rintro e v15 ⟨u, rfl, hu, hb⟩
  have HUX := Lib.hid hu
  obtain ⟨ax, cx, rfl, _⟩ := hu.shape
  replace N1 := Lib.hid (N1.out.go hb)
  replace N3 := Lib.hid (N3.out.go hb)
  replace N13 := Lib.hid (N13.out.go hb)
  replace B := B.trans (hb.mono B.size)
  clear hb hu
  generalize hll : (Wt.dg (0)).length = lx' at *
  clear hll
  clear HO
  go_upto_region 9 with fail
  have HBX := Lib.hid (BoxN.new 47 rfl HUX.out)
  have hb := (blocks1 v15 #[.slice ax lx' cx] 47).1
  replace N1 := Lib.hid (N1.out.go hb)
  replace N3 := Lib.hid (N3.out.go hb)
  replace N13 := Lib.hid (N13.out.go hb)
  replace B := B.trans (hb.mono B.size)
  obtain ⟨g15, hg⟩ : ∃ g15, g15 = v15.heap.size := ⟨_, rfl⟩
  rw [← hg] at HBX ⊢
  generalize v15.alloc (.cells #[.slice ax lx' cx] 47) = W15 at *
  have N15 := HBX
  clear hb hg HBX HUX
  clear N15
  obtain ⟨p1, q1, r1, hc1, hn1⟩ := N1.out
  obtain ⟨p3, q3, r3, hc3, hn3⟩ := N3.out
  obtain ⟨p13, q13, r13, hc13, hn13⟩ := N13.out
  refine wp_region_mono (C := Cb W15) (R := Rb) (H := Hn W15) [Ty.val 63 (.bool true), Ty.val 64 (.bool true), Ty.val 65 (.int .i64 0), Ty.val 66 (.bool true), Ty.val 67 (.bool true), Ty.val 68 (.bool true), Ty.val 69 (.agg #[.slice p1 q1 r1]), Ty.val 70 (.int .i64 4096), Ty.val 71 (.bool true), Ty.val 72 (.bool true), Ty.val 73 (.bool true), Ty.val 74 (.int .i64 0), Ty.val 75 (.bool true), Ty.val 76 (.bool true), Ty.val 77 (.bool true), Ty.val 78 (.agg #[.slice p3 q3 r3]), Ty.val 79 (.int .i64 4096), Ty.val 80 (.bool true), Ty.val 81 (.bool true), Ty.val 82 (.bool true), Ty.val 83 (.int .i64 16), Ty.val 84 (.bool true), Ty.val 85 (.bool true), Ty.val 86 (.bool true), Ty.val 87 (.int .i64 16), Ty.val 88 (.bool true), Ty.val 89 (.bool true), Ty.val 90 (.bool true), Ty.val 91 (.int .i64 16), Ty.val 92 (.bool true), Ty.val 93 (.bool true), Ty.val 94 (.bool true), Ty.val 95 (.int .i64 2), Ty.val 96 (.bool true), Ty.val 97 (.bool true), Ty.val 98 (.bool true), Ty.val 99 (.int .i64 0), Ty.val 100 (.bool true), Ty.val 101 (.bool true), Ty.val 102 (.bool true), Ty.val 103 (.agg #[.slice p13 q13 r13]), Ty.nat 104 1, Ty.val 105 (.int .i64 0), Ty.val 106 (.bool true), Ty.val 107 (.bool true), Ty.val 108 (.bool true), Ty.val 109 (.int .i64 2), Ty.val 110 (.bool true), Ty.val 111 (.bool true), Ty.val 0 (.bool true)] (by kernel_rfl) (hC_b W15) (hCH_n W15) (drew_b W15) ⟨trivial, trivial, trivial, trivial, trivial, trivial, trivial, trivial, trivial, trivial, trivial, trivial, trivial, trivial, trivial, trivial, trivial, trivial, trivial, trivial, trivial, trivial, trivial, trivial, trivial, trivial, trivial, trivial, trivial, trivial, trivial, trivial, trivial, trivial, trivial, trivial, trivial, trivial, trivial, trivial, trivial, trivial, trivial, trivial, trivial, trivial, trivial, trivial, trivial, trivial, trivial⟩ (by kernel_rfl) ?_ ?_
  · refine ⟨?_, ?_, ?_, ?_, ?_, ?_, ?_, ?_, ?_, ?_, ?_, ?_, ?_, ?_, ?_, ?_, ?_, ?_, ?_, ?_, ?_, ?_, ?_, ?_, ?_, ?_, ?_, ?_, ?_, ?_, ?_, ?_, ?_, ?_, ?_, ?_, ?_, ?_, ?_, ?_, ?_, ?_, ?_, ?_, ?_, ?_, ?_, ?_, ?_, ?_, trivial⟩
    · intro ac wc hC hsz hfr hd hpr
      rw [if_pos (wanted_none rfl)]
      refine ob_call rfl rfl rfl (Nat.lt_of_lt_of_eq (by decide : 63 < 112) hsz.symm) rfl (enter_of Try.func23 (by kernel_rfl) rfl) ?_
      show Calls Try.prog 23 #[] wc _
      exact (awake6_any wc).mono fun _ _ ⟨he, hb⟩ => ⟨_, he, rfl, hb⟩
    · intro ac wc hC hsz hfr hd hpr
      have d63 : ac.eval (.tmp 63) = (.bool true) := hd 0 rfl
      rw [if_pos (wanted_none rfl)]
      exact ob_copy rfl rfl rfl (Nat.lt_of_lt_of_eq (by decide : 64 < 112) hsz.symm) (Or.inl rfl) (Below.refl _ _) d63
    · intro ac wc hC hsz hfr hd hpr
      have d64 : ac.eval (.tmp 64) = (.bool true) := hd 1 rfl
      have d2 : ac.eval (.tmp 2) = (.int .i64 0) := hfr 2 rfl
      rw [if_pos (wanted_some rfl (yielded_of rfl d64))]
      exact ob_copy rfl rfl rfl (Nat.lt_of_lt_of_eq (by decide : 65 < 112) hsz.symm) (Or.inl rfl) (Below.refl _ _) d2
    · intro ac wc hC hsz hfr hd hpr
      have d64 : ac.eval (.tmp 64) = (.bool true) := hd 1 rfl
      have d65 : ac.eval (.tmp 65) = (.int .i64 0) := hd 2 rfl
      rw [if_pos (wanted_some rfl (yielded_of rfl d64))]
      exact ob_bin _ rfl rfl rfl (Nat.lt_of_lt_of_eq (by decide : 66 < 112) hsz.symm) rfl d65 rfl (eql_err (by simp)) (Below.refl _ _) rfl
    · intro ac wc hC hsz hfr hd hpr
      have d64 : ac.eval (.tmp 64) = (.bool true) := hd 1 rfl
      have d66 : ac.eval (.tmp 66) = (.bool true) := hd 3 rfl
      rw [if_pos (wanted_none rfl)]
      exact ob_pick rfl rfl rfl (Nat.lt_of_lt_of_eq (by decide : 67 < 112) hsz.symm) rfl d64 (Below.refl _ _) d66
    · intro ac wc hC hsz hfr hd hpr
      have d67 : ac.eval (.tmp 67) = (.bool true) := hd 4 rfl
      rw [if_pos (wanted_none rfl)]
      exact ob_copy rfl rfl rfl (Nat.lt_of_lt_of_eq (by decide : 68 < 112) hsz.symm) (Or.inl rfl) (Below.refl _ _) d67
    · intro ac wc hC hsz hfr hd hpr
      have d68 : ac.eval (.tmp 68) = (.bool true) := hd 5 rfl
      have d1 : ac.eval (.tmp 1) = (.pointer (some ⟨g1, 0, none⟩)) := hfr 1 rfl
      rw [if_pos (wanted_some rfl (yielded_of rfl d68))]
      exact ob_load _ rfl rfl rfl (Nat.lt_of_lt_of_eq (by decide : 69 < 112) hsz.symm) rfl d1 (load_nat (cell_keep hc1 hC)) (Below.refl _ _) rfl
    · intro ac wc hC hsz hfr hd hpr
      have d68 : ac.eval (.tmp 68) = (.bool true) := hd 5 rfl
      have d69 : ac.eval (.tmp 69) = (.agg #[.slice p1 q1 r1]) := hd 6 rfl
      rw [if_pos (wanted_some rfl (yielded_of rfl d68))]
      refine ob_call rfl rfl rfl (Nat.lt_of_lt_of_eq (by decide : 70 < 112) hsz.symm) rfl (enter_of Try.func32 (by kernel_rfl) rfl) ?_
      show Calls Try.prog 32 #[ac.eval (.tmp 69)] wc _
      rw [d69]
      exact (HLN.out _ wc (hn1.go hC)).mono fun _ _ ⟨he, hb⟩ => ⟨_, he, rfl, hb⟩
    · intro ac wc hC hsz hfr hd hpr
      have d68 : ac.eval (.tmp 68) = (.bool true) := hd 5 rfl
      have d70 : ac.eval (.tmp 70) = (.int .i64 4096) := hd 7 rfl
      rw [if_pos (wanted_some rfl (yielded_of rfl d68))]
      exact ob_bin _ rfl rfl rfl (Nat.lt_of_lt_of_eq (by decide : 71 < 112) hsz.symm) rfl d70 rfl (eql_int (by simp)) (Below.refl _ _) rfl
    · intro ac wc hC hsz hfr hd hpr
      have d68 : ac.eval (.tmp 68) = (.bool true) := hd 5 rfl
      have d71 : ac.eval (.tmp 71) = (.bool true) := hd 8 rfl
      rw [if_pos (wanted_none rfl)]
      exact ob_pick rfl rfl rfl (Nat.lt_of_lt_of_eq (by decide : 72 < 112) hsz.symm) rfl d68 (Below.refl _ _) d71
    · intro ac wc hC hsz hfr hd hpr
      have d72 : ac.eval (.tmp 72) = (.bool true) := hd 9 rfl
      rw [if_pos (wanted_none rfl)]
      exact ob_copy rfl rfl rfl (Nat.lt_of_lt_of_eq (by decide : 73 < 112) hsz.symm) (Or.inl rfl) (Below.refl _ _) d72
    · intro ac wc hC hsz hfr hd hpr
      have d73 : ac.eval (.tmp 73) = (.bool true) := hd 10 rfl
      have d4 : ac.eval (.tmp 4) = (.int .i64 0) := hfr 4 rfl
      rw [if_pos (wanted_some rfl (yielded_of rfl d73))]
      exact ob_copy rfl rfl rfl (Nat.lt_of_lt_of_eq (by decide : 74 < 112) hsz.symm) (Or.inl rfl) (Below.refl _ _) d4
    · intro ac wc hC hsz hfr hd hpr
      have d73 : ac.eval (.tmp 73) = (.bool true) := hd 10 rfl
      have d74 : ac.eval (.tmp 74) = (.int .i64 0) := hd 11 rfl
      rw [if_pos (wanted_some rfl (yielded_of rfl d73))]
      exact ob_bin _ rfl rfl rfl (Nat.lt_of_lt_of_eq (by decide : 75 < 112) hsz.symm) rfl d74 rfl (eql_err (by simp)) (Below.refl _ _) rfl
    · intro ac wc hC hsz hfr hd hpr
      have d73 : ac.eval (.tmp 73) = (.bool true) := hd 10 rfl
      have d75 : ac.eval (.tmp 75) = (.bool true) := hd 12 rfl
      rw [if_pos (wanted_none rfl)]
      exact ob_pick rfl rfl rfl (Nat.lt_of_lt_of_eq (by decide : 76 < 112) hsz.symm) rfl d73 (Below.refl _ _) d75
    · intro ac wc hC hsz hfr hd hpr
      have d76 : ac.eval (.tmp 76) = (.bool true) := hd 13 rfl
      rw [if_pos (wanted_none rfl)]
      exact ob_copy rfl rfl rfl (Nat.lt_of_lt_of_eq (by decide : 77 < 112) hsz.symm) (Or.inl rfl) (Below.refl _ _) d76
    · intro ac wc hC hsz hfr hd hpr
      have d77 : ac.eval (.tmp 77) = (.bool true) := hd 14 rfl
      have d3 : ac.eval (.tmp 3) = (.pointer (some ⟨g3, 0, none⟩)) := hfr 3 rfl
      rw [if_pos (wanted_some rfl (yielded_of rfl d77))]
      exact ob_load _ rfl rfl rfl (Nat.lt_of_lt_of_eq (by decide : 78 < 112) hsz.symm) rfl d3 (load_nat (cell_keep hc3 hC)) (Below.refl _ _) rfl
    · intro ac wc hC hsz hfr hd hpr
      have d77 : ac.eval (.tmp 77) = (.bool true) := hd 14 rfl
      have d78 : ac.eval (.tmp 78) = (.agg #[.slice p3 q3 r3]) := hd 15 rfl
      rw [if_pos (wanted_some rfl (yielded_of rfl d77))]
      refine ob_call rfl rfl rfl (Nat.lt_of_lt_of_eq (by decide : 79 < 112) hsz.symm) rfl (enter_of Try.func32 (by kernel_rfl) rfl) ?_
      show Calls Try.prog 32 #[ac.eval (.tmp 78)] wc _
      rw [d78]
      exact (HLK.out _ wc (hn3.go hC)).mono fun _ _ ⟨he, hb⟩ => ⟨_, he, rfl, hb⟩
    · intro ac wc hC hsz hfr hd hpr
      have d77 : ac.eval (.tmp 77) = (.bool true) := hd 14 rfl
      have d79 : ac.eval (.tmp 79) = (.int .i64 4096) := hd 16 rfl
      rw [if_pos (wanted_some rfl (yielded_of rfl d77))]
      exact ob_bin _ rfl rfl rfl (Nat.lt_of_lt_of_eq (by decide : 80 < 112) hsz.symm) rfl d79 rfl (eql_int (by simp)) (Below.refl _ _) rfl
    · intro ac wc hC hsz hfr hd hpr
      have d77 : ac.eval (.tmp 77) = (.bool true) := hd 14 rfl
      have d80 : ac.eval (.tmp 80) = (.bool true) := hd 17 rfl
      rw [if_pos (wanted_none rfl)]
      exact ob_pick rfl rfl rfl (Nat.lt_of_lt_of_eq (by decide : 81 < 112) hsz.symm) rfl d77 (Below.refl _ _) d80
    · intro ac wc hC hsz hfr hd hpr
      have d81 : ac.eval (.tmp 81) = (.bool true) := hd 18 rfl
      rw [if_pos (wanted_none rfl)]
      exact ob_copy rfl rfl rfl (Nat.lt_of_lt_of_eq (by decide : 82 < 112) hsz.symm) (Or.inl rfl) (Below.refl _ _) d81
    · intro ac wc hC hsz hfr hd hpr
      have d82 : ac.eval (.tmp 82) = (.bool true) := hd 19 rfl
      have d6 : ac.eval (.tmp 6) = (.int .i64 16) := hfr 6 rfl
      rw [if_pos (wanted_some rfl (yielded_of rfl d82))]
      exact ob_copy rfl rfl rfl (Nat.lt_of_lt_of_eq (by decide : 83 < 112) hsz.symm) (Or.inl rfl) (Below.refl _ _) d6
    · intro ac wc hC hsz hfr hd hpr
      have d82 : ac.eval (.tmp 82) = (.bool true) := hd 19 rfl
      have d83 : ac.eval (.tmp 83) = (.int .i64 16) := hd 20 rfl
      rw [if_pos (wanted_some rfl (yielded_of rfl d82))]
      exact ob_bin _ rfl rfl rfl (Nat.lt_of_lt_of_eq (by decide : 84 < 112) hsz.symm) rfl d83 rfl (eql_err (by simp)) (Below.refl _ _) rfl
    · intro ac wc hC hsz hfr hd hpr
      have d82 : ac.eval (.tmp 82) = (.bool true) := hd 19 rfl
      have d84 : ac.eval (.tmp 84) = (.bool true) := hd 21 rfl
      rw [if_pos (wanted_none rfl)]
      exact ob_pick rfl rfl rfl (Nat.lt_of_lt_of_eq (by decide : 85 < 112) hsz.symm) rfl d82 (Below.refl _ _) d84
    · intro ac wc hC hsz hfr hd hpr
      have d85 : ac.eval (.tmp 85) = (.bool true) := hd 22 rfl
      rw [if_pos (wanted_none rfl)]
      exact ob_copy rfl rfl rfl (Nat.lt_of_lt_of_eq (by decide : 86 < 112) hsz.symm) (Or.inl rfl) (Below.refl _ _) d85
    · intro ac wc hC hsz hfr hd hpr
      have d86 : ac.eval (.tmp 86) = (.bool true) := hd 23 rfl
      have d8 : ac.eval (.tmp 8) = (.int .i64 16) := hfr 8 rfl
      rw [if_pos (wanted_some rfl (yielded_of rfl d86))]
      exact ob_copy rfl rfl rfl (Nat.lt_of_lt_of_eq (by decide : 87 < 112) hsz.symm) (Or.inl rfl) (Below.refl _ _) d8
    · intro ac wc hC hsz hfr hd hpr
      have d86 : ac.eval (.tmp 86) = (.bool true) := hd 23 rfl
      have d87 : ac.eval (.tmp 87) = (.int .i64 16) := hd 24 rfl
      rw [if_pos (wanted_some rfl (yielded_of rfl d86))]
      exact ob_bin _ rfl rfl rfl (Nat.lt_of_lt_of_eq (by decide : 88 < 112) hsz.symm) rfl d87 rfl (eql_err (by simp)) (Below.refl _ _) rfl
    · intro ac wc hC hsz hfr hd hpr
      have d86 : ac.eval (.tmp 86) = (.bool true) := hd 23 rfl
      have d88 : ac.eval (.tmp 88) = (.bool true) := hd 25 rfl
      rw [if_pos (wanted_none rfl)]
      exact ob_pick rfl rfl rfl (Nat.lt_of_lt_of_eq (by decide : 89 < 112) hsz.symm) rfl d86 (Below.refl _ _) d88
    · intro ac wc hC hsz hfr hd hpr
      have d89 : ac.eval (.tmp 89) = (.bool true) := hd 26 rfl
      rw [if_pos (wanted_none rfl)]
      exact ob_copy rfl rfl rfl (Nat.lt_of_lt_of_eq (by decide : 90 < 112) hsz.symm) (Or.inl rfl) (Below.refl _ _) d89
    · intro ac wc hC hsz hfr hd hpr
      have d90 : ac.eval (.tmp 90) = (.bool true) := hd 27 rfl
      have d10 : ac.eval (.tmp 10) = (.int .i64 16) := hfr 10 rfl
      rw [if_pos (wanted_some rfl (yielded_of rfl d90))]
      exact ob_copy rfl rfl rfl (Nat.lt_of_lt_of_eq (by decide : 91 < 112) hsz.symm) (Or.inl rfl) (Below.refl _ _) d10
    · intro ac wc hC hsz hfr hd hpr
      have d90 : ac.eval (.tmp 90) = (.bool true) := hd 27 rfl
      have d91 : ac.eval (.tmp 91) = (.int .i64 16) := hd 28 rfl
      rw [if_pos (wanted_some rfl (yielded_of rfl d90))]
      exact ob_bin _ rfl rfl rfl (Nat.lt_of_lt_of_eq (by decide : 92 < 112) hsz.symm) rfl d91 rfl (eql_err (by simp)) (Below.refl _ _) rfl
    · intro ac wc hC hsz hfr hd hpr
      have d90 : ac.eval (.tmp 90) = (.bool true) := hd 27 rfl
      have d92 : ac.eval (.tmp 92) = (.bool true) := hd 29 rfl
      rw [if_pos (wanted_none rfl)]
      exact ob_pick rfl rfl rfl (Nat.lt_of_lt_of_eq (by decide : 93 < 112) hsz.symm) rfl d90 (Below.refl _ _) d92
    · intro ac wc hC hsz hfr hd hpr
      have d93 : ac.eval (.tmp 93) = (.bool true) := hd 30 rfl
      rw [if_pos (wanted_none rfl)]
      exact ob_copy rfl rfl rfl (Nat.lt_of_lt_of_eq (by decide : 94 < 112) hsz.symm) (Or.inl rfl) (Below.refl _ _) d93
    · intro ac wc hC hsz hfr hd hpr
      have d94 : ac.eval (.tmp 94) = (.bool true) := hd 31 rfl
      have d12 : ac.eval (.tmp 12) = (.int .i64 2) := hfr 12 rfl
      rw [if_pos (wanted_some rfl (yielded_of rfl d94))]
      exact ob_copy rfl rfl rfl (Nat.lt_of_lt_of_eq (by decide : 95 < 112) hsz.symm) (Or.inl rfl) (Below.refl _ _) d12
    · intro ac wc hC hsz hfr hd hpr
      have d94 : ac.eval (.tmp 94) = (.bool true) := hd 31 rfl
      have d95 : ac.eval (.tmp 95) = (.int .i64 2) := hd 32 rfl
      rw [if_pos (wanted_some rfl (yielded_of rfl d94))]
      exact ob_bin _ rfl rfl rfl (Nat.lt_of_lt_of_eq (by decide : 96 < 112) hsz.symm) rfl d95 rfl (eql_err (by simp)) (Below.refl _ _) rfl
    · intro ac wc hC hsz hfr hd hpr
      have d94 : ac.eval (.tmp 94) = (.bool true) := hd 31 rfl
      have d96 : ac.eval (.tmp 96) = (.bool true) := hd 33 rfl
      rw [if_pos (wanted_none rfl)]
      exact ob_pick rfl rfl rfl (Nat.lt_of_lt_of_eq (by decide : 97 < 112) hsz.symm) rfl d94 (Below.refl _ _) d96
    · intro ac wc hC hsz hfr hd hpr
      have d97 : ac.eval (.tmp 97) = (.bool true) := hd 34 rfl
      rw [if_pos (wanted_none rfl)]
      exact ob_copy rfl rfl rfl (Nat.lt_of_lt_of_eq (by decide : 98 < 112) hsz.symm) (Or.inl rfl) (Below.refl _ _) d97
    · intro ac wc hC hsz hfr hd hpr
      have d98 : ac.eval (.tmp 98) = (.bool true) := hd 35 rfl
      have d14 : ac.eval (.tmp 14) = (.int .i64 0) := hfr 14 rfl
      rw [if_pos (wanted_some rfl (yielded_of rfl d98))]
      exact ob_copy rfl rfl rfl (Nat.lt_of_lt_of_eq (by decide : 99 < 112) hsz.symm) (Or.inl rfl) (Below.refl _ _) d14
    · intro ac wc hC hsz hfr hd hpr
      have d98 : ac.eval (.tmp 98) = (.bool true) := hd 35 rfl
      have d99 : ac.eval (.tmp 99) = (.int .i64 0) := hd 36 rfl
      rw [if_pos (wanted_some rfl (yielded_of rfl d98))]
      exact ob_bin _ rfl rfl rfl (Nat.lt_of_lt_of_eq (by decide : 100 < 112) hsz.symm) rfl d99 rfl (eql_err (by simp)) (Below.refl _ _) rfl
    · intro ac wc hC hsz hfr hd hpr
      have d98 : ac.eval (.tmp 98) = (.bool true) := hd 35 rfl
      have d100 : ac.eval (.tmp 100) = (.bool true) := hd 37 rfl
      rw [if_pos (wanted_none rfl)]
      exact ob_pick rfl rfl rfl (Nat.lt_of_lt_of_eq (by decide : 101 < 112) hsz.symm) rfl d98 (Below.refl _ _) d100
    · intro ac wc hC hsz hfr hd hpr
      have d101 : ac.eval (.tmp 101) = (.bool true) := hd 38 rfl
      rw [if_pos (wanted_none rfl)]
      exact ob_copy rfl rfl rfl (Nat.lt_of_lt_of_eq (by decide : 102 < 112) hsz.symm) (Or.inl rfl) (Below.refl _ _) d101
    · intro ac wc hC hsz hfr hd hpr
      have d102 : ac.eval (.tmp 102) = (.bool true) := hd 39 rfl
      have d13 : ac.eval (.tmp 13) = (.pointer (some ⟨g13, 0, none⟩)) := hfr 13 rfl
      rw [if_pos (wanted_some rfl (yielded_of rfl d102))]
      exact ob_load _ rfl rfl rfl (Nat.lt_of_lt_of_eq (by decide : 103 < 112) hsz.symm) rfl d13 (load_nat (cell_keep hc13 hC)) (Below.refl _ _) rfl
    · intro ac wc hC hsz hfr hd hpr
      have d102 : ac.eval (.tmp 102) = (.bool true) := hd 39 rfl
      rw [if_pos (wanted_some rfl (yielded_of rfl d102))]
      refine ob_call rfl rfl rfl (Nat.lt_of_lt_of_eq (by decide : 104 < 112) hsz.symm) rfl (enter_of Try.func27 (by kernel_rfl) rfl) ?_
      show Calls Try.prog 27 #[.int .u64 1] wc _
      exact natof_any 1 wc (by decide)
    · intro ac wc hC hsz hfr hd hpr
      have d102 : ac.eval (.tmp 102) = (.bool true) := hd 39 rfl
      have d103 : ac.eval (.tmp 103) = (.agg #[.slice p13 q13 r13]) := hd 40 rfl
      have d104 : IsNat wc (ac.eval (.tmp 104)) 1 := hd 41 rfl
      rw [if_pos (wanted_some rfl (yielded_of rfl d102))]
      refine ob_call rfl rfl rfl (Nat.lt_of_lt_of_eq (by decide : 105 < 112) hsz.symm) rfl (enter_of Try.func34 (by kernel_rfl) rfl) ?_
      show Calls Try.prog 34 #[ac.eval (.tmp 103), ac.eval (.tmp 104)] wc _
      rw [d103]
      exact (cmp_alike _ _ 1 wc (hn13.go hC) d104).mono fun _ _ ⟨he, hb⟩ => ⟨_, he, rfl, hb⟩
    · intro ac wc hC hsz hfr hd hpr
      have d102 : ac.eval (.tmp 102) = (.bool true) := hd 39 rfl
      have d105 : ac.eval (.tmp 105) = (.int .i64 0) := hd 42 rfl
      rw [if_pos (wanted_some rfl (yielded_of rfl d102))]
      exact ob_bin _ rfl rfl rfl (Nat.lt_of_lt_of_eq (by decide : 106 < 112) hsz.symm) rfl d105 rfl (eql_int (by simp)) (Below.refl _ _) rfl
    · intro ac wc hC hsz hfr hd hpr
      have d102 : ac.eval (.tmp 102) = (.bool true) := hd 39 rfl
      have d106 : ac.eval (.tmp 106) = (.bool true) := hd 43 rfl
      rw [if_pos (wanted_none rfl)]
      exact ob_pick rfl rfl rfl (Nat.lt_of_lt_of_eq (by decide : 107 < 112) hsz.symm) rfl d102 (Below.refl _ _) d106
    · intro ac wc hC hsz hfr hd hpr
      have d107 : ac.eval (.tmp 107) = (.bool true) := hd 44 rfl
      rw [if_pos (wanted_none rfl)]
      exact ob_copy rfl rfl rfl (Nat.lt_of_lt_of_eq (by decide : 108 < 112) hsz.symm) (Or.inl rfl) (Below.refl _ _) d107
    · intro ac wc hC hsz hfr hd hpr
      have d108 : ac.eval (.tmp 108) = (.bool true) := hd 45 rfl
      have d16 : ac.eval (.tmp 16) = (.int .i64 2) := hfr 16 rfl
      rw [if_pos (wanted_some rfl (yielded_of rfl d108))]
      exact ob_copy rfl rfl rfl (Nat.lt_of_lt_of_eq (by decide : 109 < 112) hsz.symm) (Or.inl rfl) (Below.refl _ _) d16
    · intro ac wc hC hsz hfr hd hpr
      have d108 : ac.eval (.tmp 108) = (.bool true) := hd 45 rfl
      have d109 : ac.eval (.tmp 109) = (.int .i64 2) := hd 46 rfl
      rw [if_pos (wanted_some rfl (yielded_of rfl d108))]
      exact ob_bin _ rfl rfl rfl (Nat.lt_of_lt_of_eq (by decide : 110 < 112) hsz.symm) rfl d109 rfl (eql_err (by simp)) (Below.refl _ _) rfl
    · intro ac wc hC hsz hfr hd hpr
      have d108 : ac.eval (.tmp 108) = (.bool true) := hd 45 rfl
      have d110 : ac.eval (.tmp 110) = (.bool true) := hd 47 rfl
      rw [if_pos (wanted_none rfl)]
      exact ob_pick rfl rfl rfl (Nat.lt_of_lt_of_eq (by decide : 111 < 112) hsz.symm) rfl d108 (Below.refl _ _) d110
    · intro ac wc hC hsz hfr hd hpr
      have d111 : ac.eval (.tmp 111) = (.bool true) := hd 48 rfl
      rw [if_pos (wanted_none rfl)]
      exact ob_copy rfl rfl rfl (Nat.lt_of_lt_of_eq (by decide : 0 < 112) hsz.symm) (Or.inr rfl) (Below.refl _ _) d111
  intro a' W16 hC hdef hsz hfr hd
  have e63 : a'.eval (.tmp 63) = (.bool true) := hd 0 (by decide)
  have e64 : a'.eval (.tmp 64) = (.bool true) := hd 1 (by decide)
  have e65 : a'.eval (.tmp 65) = (.int .i64 0) := hd 2 (by decide)
  have e66 : a'.eval (.tmp 66) = (.bool true) := hd 3 (by decide)
  have e67 : a'.eval (.tmp 67) = (.bool true) := hd 4 (by decide)
  have e68 : a'.eval (.tmp 68) = (.bool true) := hd 5 (by decide)
  have e69 : a'.eval (.tmp 69) = (.agg #[.slice p1 q1 r1]) := hd 6 (by decide)
  have e70 : a'.eval (.tmp 70) = (.int .i64 4096) := hd 7 (by decide)
  have e71 : a'.eval (.tmp 71) = (.bool true) := hd 8 (by decide)
  have e72 : a'.eval (.tmp 72) = (.bool true) := hd 9 (by decide)
  have e73 : a'.eval (.tmp 73) = (.bool true) := hd 10 (by decide)
  have e74 : a'.eval (.tmp 74) = (.int .i64 0) := hd 11 (by decide)
  have e75 : a'.eval (.tmp 75) = (.bool true) := hd 12 (by decide)
  have e76 : a'.eval (.tmp 76) = (.bool true) := hd 13 (by decide)
  have e77 : a'.eval (.tmp 77) = (.bool true) := hd 14 (by decide)
  have e78 : a'.eval (.tmp 78) = (.agg #[.slice p3 q3 r3]) := hd 15 (by decide)
  have e79 : a'.eval (.tmp 79) = (.int .i64 4096) := hd 16 (by decide)
  have e80 : a'.eval (.tmp 80) = (.bool true) := hd 17 (by decide)
  have e81 : a'.eval (.tmp 81) = (.bool true) := hd 18 (by decide)
  have e82 : a'.eval (.tmp 82) = (.bool true) := hd 19 (by decide)
  have e83 : a'.eval (.tmp 83) = (.int .i64 16) := hd 20 (by decide)
  have e84 : a'.eval (.tmp 84) = (.bool true) := hd 21 (by decide)
  have e85 : a'.eval (.tmp 85) = (.bool true) := hd 22 (by decide)
  have e86 : a'.eval (.tmp 86) = (.bool true) := hd 23 (by decide)
  have e87 : a'.eval (.tmp 87) = (.int .i64 16) := hd 24 (by decide)
  have e88 : a'.eval (.tmp 88) = (.bool true) := hd 25 (by decide)
  have e89 : a'.eval (.tmp 89) = (.bool true) := hd 26 (by decide)
  have e90 : a'.eval (.tmp 90) = (.bool true) := hd 27 (by decide)
  have e91 : a'.eval (.tmp 91) = (.int .i64 16) := hd 28 (by decide)
  have e92 : a'.eval (.tmp 92) = (.bool true) := hd 29 (by decide)
  have e93 : a'.eval (.tmp 93) = (.bool true) := hd 30 (by decide)
  have e94 : a'.eval (.tmp 94) = (.bool true) := hd 31 (by decide)
  have e95 : a'.eval (.tmp 95) = (.int .i64 2) := hd 32 (by decide)
  have e96 : a'.eval (.tmp 96) = (.bool true) := hd 33 (by decide)
  have e97 : a'.eval (.tmp 97) = (.bool true) := hd 34 (by decide)
  have e98 : a'.eval (.tmp 98) = (.bool true) := hd 35 (by decide)
  have e99 : a'.eval (.tmp 99) = (.int .i64 0) := hd 36 (by decide)
  have e100 : a'.eval (.tmp 100) = (.bool true) := hd 37 (by decide)
  have e101 : a'.eval (.tmp 101) = (.bool true) := hd 38 (by decide)
  have e102 : a'.eval (.tmp 102) = (.bool true) := hd 39 (by decide)
  have e103 : a'.eval (.tmp 103) = (.agg #[.slice p13 q13 r13]) := hd 40 (by decide)
  obtain ⟨x104, e104, r104⟩ : ∃ xq_, a'.eval (.tmp 104) = xq_ ∧ IsNat W16 (xq_) 1 := ⟨_, rfl, hd 41 (by decide)⟩
  replace r104 := Lib.hid r104
  have e105 : a'.eval (.tmp 105) = (.int .i64 0) := hd 42 (by decide)
  have e106 : a'.eval (.tmp 106) = (.bool true) := hd 43 (by decide)
  have e107 : a'.eval (.tmp 107) = (.bool true) := hd 44 (by decide)
  have e108 : a'.eval (.tmp 108) = (.bool true) := hd 45 (by decide)
  have e109 : a'.eval (.tmp 109) = (.int .i64 2) := hd 46 (by decide)
  have e110 : a'.eval (.tmp 110) = (.bool true) := hd 47 (by decide)
  have e111 : a'.eval (.tmp 111) = (.bool true) := hd 48 (by decide)
  have e0 : a'.eval (.tmp 0) = (.bool true) := hd 49 (by decide)
  have hact := act_puts hdef hsz hfr
  simp only [dstsOf, List.filterMap, putAll, Act.put, List.setIfInBounds_toArray, List.set_cons_succ, List.set_cons_zero, e63, e64, e65, e66, e67, e68, e69, e70, e71, e72, e73, e74, e75, e76, e77, e78, e79, e80, e81, e82, e83, e84, e85, e86, e87, e88, e89, e90, e91, e92, e93, e94, e95, e96, e97, e98, e99, e100, e101, e102, e103, e104, e105, e106, e107, e108, e109, e110, e111, e0] at hact
  clear hd hfr hsz hdef e63 e64 e65 e66 e67 e68 e69 e70 e71 e72 e73 e74 e75 e76 e77 e78 e79 e80 e81 e82 e83 e84 e85 e86 e87 e88 e89 e90 e91 e92 e93 e94 e95 e96 e97 e98 e99 e100 e101 e102 e103 e104 e105 e106 e107 e108 e109 e110 e111 e0
  subst hact
  replace B := B.trans (hC.mono B.size)
  clear hC
  go_wp2_with fail
  go_ret
  exact ⟨rfl, B⟩

end Go.Proofs.Ytobhlfkmdhoncaa
