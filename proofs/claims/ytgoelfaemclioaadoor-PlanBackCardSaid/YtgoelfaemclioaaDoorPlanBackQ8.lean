/- Texts of one seat, laid together: LawTenD. -/
import Derived.Test.YtgoelfaemclioaaDoorPlanBackQ7

/-
  The laws of plans (layer 10): PlanBack.
-/
set_option maxRecDepth 100000
namespace Go.Proofs.YtgoelfaemclioaaDoor
open Go.RowKit

theorem neq_plan10 {x y : Operand} (a b c d : Int) (w : World) : (do eqGuard .neq 24 x y (.agg #[.int .i64 a, .int .i64 b, .int .i64 c, .int .u32 d]) (.agg #[.int .i64 a, .int .i64 b, .int .i64 c, .int .u32 d]); binOp .neq 24 (.agg #[.int .i64 a, .int .i64 b, .int .i64 c, .int .u32 d]) (.agg #[.int .i64 a, .int .i64 b, .int .i64 c, .int .u32 d]) : Sem Value).run Tryd.prog w = .ok (.bool false) w := by
  go_simp
theorem add_int10 {x y : Operand} {a b : Int} {c : Nat} (h : a + b = (c : Int)) (hc : c ≤ 9223372036854775807) (w : World) : (do eqGuard .add 3 x y (.int .i64 a) (.int .i64 b); binOp .add 3 (.int .i64 a) (.int .i64 b) : Sem Value).run Tryd.prog w = .ok (.int .i64 c) w := by
  go_simp
  rw [IntKind.wrap_i64]; omega
theorem text_none : textL 0 0 0 0 = [] := by decide
theorem text_len {l s k n : Nat} (hl : l < 9223372036854775807) (hs : s < 9223372036854775807) (hk : k < 9223372036854775807) (hn : n < 9223372036854775807) : (textL (l : Int) (s : Int) (k : Int) (n : Int)).length ≤ 1000 := by
  unfold textL
  have h1 := decL_len (n := (l : Int)) (by omega) (by omega)
  have h2 := decL_len (n := (s : Int)) (by omega) (by omega)
  have h3 := decL_len (n := (k : Int)) (by omega) (by omega)
  have h4 := decL_len (n := (n : Int)) (by omega) (by omega)
  split
  · simp only [List.length_append, List.length_cons, List.length_nil]; omega
  · exact Nat.zero_le _
theorem text_lt (l s k n : Nat) : ∀ x, x ∈ textL (l : Int) (s : Int) (k : Int) (n : Int) → x < 256 := by
  intro x hx
  have hd : ∀ (m : Nat) x, x ∈ decL (m : Int) → x < 256 := fun m x h => by have := dec_dig m x h; unfold IsDig at this; omega
  unfold textL at hx
  split at hx
  · simp only [List.mem_append] at hx
    rcases hx with ((((((h | h) | h) | h) | h) | h) | h) | h
    · revert h; revert x; decide
    · exact hd _ _ h
    · rw [List.mem_singleton] at h; omega
    · exact hd _ _ h
    · rw [List.mem_singleton] at h; omega
    · exact hd _ _ h
    · rw [List.mem_singleton] at h; omega
    · exact hd _ _ h
  · cases hx

set_option maxHeartbeats 4000000 in
theorem planBack_walk (l s : Int) (n : Nat) (w : World) (hl0 : -9223372036854775808 ≤ l) (hl : l ≤ 9223372036854775807) (hs0 : -9223372036854775808 ≤ s) (hs : s ≤ 9223372036854775807) (hn : n < 4294967296) (hF : PlanFacts w) :
    Calls Tryd.prog 5 #[.int .i64 l, .int .i64 s, .int .u32 (n : Int)] w fun e w' => e = .returned (.bool true) ∧ Below w.heap.size w w' := by
  have HF := Lib.hid hF
  clear hF
  have HOF := Lib.hid (fun w => of10_any l s (n : Int) w hl0 hl hs)
  obtain ⟨k, hk⟩ : ∃ k, k = needI l s := ⟨_, rfl⟩
  rw [← hk] at HOF
  unfold PlanE at HOF
  by_cases hc : checkE l s k = 0
  · obtain ⟨c1, c2, c3, c4, c5, -, c6⟩ := check_ok10 hc
    obtain ⟨l', rfl⟩ : ∃ l' : Nat, l = l' := ⟨l.toNat, by omega⟩
    obtain ⟨s', rfl⟩ : ∃ s' : Nat, s = s' := ⟨s.toNat, by omega⟩
    obtain ⟨k', rfl⟩ : ∃ k' : Nat, k = k' := ⟨k.toNat, by omega⟩
    have hl2 : l' ≤ 4096 * 65535 := by
      have h7 : (k' : Int) * (s' : Int) ≤ 4096 * 65535 := Int.mul_le_mul c5 c3 (by omega) (by omega)
      omega
    have HRD := Lib.hid (plRead_text (n := n) hc hn)
    have hkn : k' = needT l' s' := by
      unfold needI at hk
      rw [if_neg (by omega), if_neg (by omega)] at hk
      simp only [Int.toNat_natCast] at hk
      omega
    rw [hc] at HOF
    simp only [okV, if_true] at HOF
    have HCK := Lib.hid (fun w => check_any (l' : Int) (s' : Int) (k' : Int) (n : Int) w (by omega) (by omega) (by omega))
    have HTX := Lib.hid (fun w hT => text10_any (l' : Int) (s' : Int) (k' : Int) n w (by omega) (by omega) (by omega) hn hT)
    have HRM := Lib.hid (fun w => room_any (l' : Int) (s' : Int) (k' : Int) (n : Int) w (by omega) (by omega) (by omega))
    have HPD := Lib.hid (fun w => pad_any (l' : Int) (s' : Int) (k' : Int) (n : Int) w (by omega) (by omega) (by omega))
    have HPR := Lib.hid (fun w (h : PlanFacts w) => parse10_any (textL (l' : Int) (s' : Int) (k' : Int) (n : Int)) w (text_lt l' s' k' n) (text_len (by omega) (by omega) (by omega) (by omega)) h.1 h.2.1 h.2.2)
    rw [HRD.out] at HPR
    unfold PlanRd at HPR
    rw [plV_some, show plE (some [(n : Int), (l' : Int), (s' : Int), (k' : Int)]) = 0 from hc] at HPR
    simp only [okV, if_true, List.getD_cons_zero, List.getD_cons_succ] at HPR
    rw [hc] at HCK
    unfold roomI at HRM
    unfold padI at HPD
    rw [if_pos hc] at HRM HPD
    generalize strOf (textL (l' : Int) (s' : Int) (k' : Int) (n : Int)) = TX at *
    have hpd : 1 ≤ l' → k' * s' < l' + s' ∧ (k' - 1) * s' < l' := fun h => by rw [hkn]; exact pad_small h (by omega)
    have hpz : l' = 0 → k' = 1 := fun h => by rw [hkn, h]; unfold needT; rw [if_pos (Nat.zero_le _)]
    obtain ⟨r, hr⟩ : ∃ r, r = k' * s' := ⟨_, rfl⟩
    have hri : (k' : Int) * (s' : Int) = (r : Int) := by rw [hr]; simp
    have hr2 : r ≤ 4096 * 65535 := by rw [hr]; exact Nat.mul_le_mul (by omega) (by omega)
    rw [hri] at HRM HPD c6
    rw [← hr] at hpd
    obtain ⟨d, hd⟩ : ∃ d, d = r - l' := ⟨_, rfl⟩
    have hdi : (r : Int) - (l' : Int) = (d : Int) := by omega
    rw [hdi] at HPD
    have HD := Lib.hid (show (l' : Int) + (d : Int) = (r : Int) by omega)
    unfold planV at HOF HTX HRM HPD HPR
    have hq : (l' = 0 ∧ d = s') ∨ (1 ≤ l' ∧ d < s' ∧ ∃ j : Nat, (k' : Int) - 1 = (j : Int) ∧ ∃ q : Nat, (j : Int) * (s' : Int) = (q : Int) ∧ q < l') := by
      rcases Nat.eq_zero_or_pos l' with h0 | h0
      · left
        have := hpz h0
        subst this
        rw [Nat.one_mul] at hr
        omega
      · right
        obtain ⟨g1, g2⟩ := hpd h0
        exact ⟨h0, by omega, k' - 1, by omega, (k' - 1) * s', by simp, g2⟩
    clear hc hk hkn hr hri hd hdi hpd hpz HRD c6
    go_enter Tryd.func5, Tryd.ntmps5
    go_wp2_with fail
    have B : Below w.heap.size w w := Below.refl _ _
    refine (awake10_any _).mono ?_
    rintro e w1 ⟨rfl, hb⟩
    replace HF := Lib.hid (HF.out.go hb)
    replace B := B.trans (hb.mono B.size)
    have hzw1 := B.size
    clear hb
    go_wp2_with fail
    refine (HOF.out _).mono ?_
    rintro e w2 ⟨rfl, hb⟩
    replace HF := Lib.hid (HF.out.go hb)
    replace B := B.trans (hb.mono B.size)
    have hzw2 := B.size
    clear hb
    go_upto_region 4 with fail
    obtain ⟨hb, hk, hs⟩ := blocks1 w2 #[.int .i64 (l' : Int), .int .i64 (s' : Int), .int .i64 (k' : Int), .int .u32 (n : Int)] 24
    generalize w2.alloc (.cells #[.int .i64 (l' : Int), .int .i64 (s' : Int), .int .i64 (k' : Int), .int .u32 (n : Int)] 24) = W3 at *
    have K1 := Lib.hid hk
    replace HF := Lib.hid (HF.out.go hb)
    replace B := B.trans (hb.mono B.size)
    have hzW3 := B.size
    clear hb hk hs
    obtain ⟨gp, hgp⟩ : ∃ g : Nat, g = w2.heap.size := ⟨_, rfl⟩
    rw [← hgp] at K1
    simp only [← hgp]
    clear hgp
    obtain ⟨p0, p1, p2, p3⟩ := K1.out.four
    go_wp2_with fail
    clear p0 p1 p2 p3
    refine (HTX.out _ HF.out.2.2).mono ?_
    rintro e w4 ⟨rfl, hb⟩
    replace HF := Lib.hid (HF.out.go hb)
    replace K1 := Lib.hid (K1.out.go hb)
    replace B := B.trans (hb.mono B.size)
    have hzw4 := B.size
    clear hb
    go_wp2_with fail
    refine (HPR.out _ HF.out).mono ?_
    rintro e w5 ⟨rfl, hb⟩
    replace HF := Lib.hid (HF.out.go hb)
    replace K1 := Lib.hid (K1.out.go hb)
    replace B := B.trans (hb.mono B.size)
    have hzw5 := B.size
    clear hb
    go_upto_region 7 with fail
    obtain ⟨hb, hk, hs⟩ := blocks1 w5 #[.int .i64 (l' : Int), .int .i64 (s' : Int), .int .i64 (k' : Int), .int .u32 (n : Int)] 24
    generalize w5.alloc (.cells #[.int .i64 (l' : Int), .int .i64 (s' : Int), .int .i64 (k' : Int), .int .u32 (n : Int)] 24) = W6 at *
    have K2 := Lib.hid hk
    replace HF := Lib.hid (HF.out.go hb)
    replace K1 := Lib.hid (K1.out.go hb)
    replace B := B.trans (hb.mono B.size)
    have hzW6 := B.size
    clear hb hk hs
    obtain ⟨gq, hgq⟩ : ∃ g : Nat, g = w5.heap.size := ⟨_, rfl⟩
    rw [← hgq] at K2
    simp only [← hgq]
    clear hgq
    refine wp_region_mono (C := Cb W6) (R := Rb) (H := fun _ => Hb W6) [Ty.val 36 (.agg #[.int .i64 (l' : Int), .int .i64 (s' : Int), .int .i64 (k' : Int), .int .u32 (n : Int)]), Ty.val 37 (.int .i64 0), Ty.val 38 (.bool false), Ty.val 39 (.bool false), Ty.val 40 (.int .i64 0), Ty.val 41 (.bool false), Ty.val 42 (.bool false), Ty.val 43 (.bool false), Ty.val 44 (.agg #[.int .i64 (l' : Int), .int .i64 (s' : Int), .int .i64 (k' : Int), .int .u32 (n : Int)]), Ty.val 45 (.agg #[.int .i64 (l' : Int), .int .i64 (s' : Int), .int .i64 (k' : Int), .int .u32 (n : Int)]), Ty.val 46 (.bool false), Ty.val 47 (.bool false), Ty.val 48 (.bool false), Ty.val 49 (.agg #[.int .i64 (l' : Int), .int .i64 (s' : Int), .int .i64 (k' : Int), .int .u32 (n : Int)]), Ty.val 50 (.int .i64 (r : Int)), Ty.val 51 (.int .i64 (l' : Int)), Ty.val 52 (.agg #[.int .i64 (l' : Int), .int .i64 (s' : Int), .int .i64 (k' : Int), .int .u32 (n : Int)]), Ty.val 53 (.int .i64 (d : Int)), Ty.val 54 (.int .i64 (r : Int)), Ty.val 55 (.bool false), Ty.val 56 (.bool false)] (by kernel_rfl) (hC_b W6) (hCH_b W6) (drew_b W6) ⟨trivial, trivial, trivial, trivial, trivial, trivial, trivial, trivial, trivial, trivial, trivial, trivial, trivial, trivial, trivial, trivial, trivial, trivial, trivial, trivial, trivial, trivial⟩ (by kernel_rfl) ?_ ?_
    · refine ⟨?_, ?_, ?_, ?_, ?_, ?_, ?_, ?_, ?_, ?_, ?_, ?_, ?_, ?_, ?_, ?_, ?_, ?_, ?_, ?_, ?_, trivial⟩
      · intro ac wc hC hsz hfr hd hpr
        have d7 : ac.eval (.tmp 7) = (.pointer (some ⟨gp, 0, none⟩)) := hfr 7 rfl
        rw [if_pos (wanted_none rfl)]
        exact ob_load _ rfl rfl rfl (Nat.lt_of_lt_of_eq (by decide : 36 < 85) hsz.symm) rfl d7 (load_plan10 (K1.out.go hC)) (Below.refl _ _) rfl
      · intro ac wc hC hsz hfr hd hpr
        have d36 : ac.eval (.tmp 36) = (.agg #[.int .i64 (l' : Int), .int .i64 (s' : Int), .int .i64 (k' : Int), .int .u32 (n : Int)]) := hd 0 rfl
        rw [if_pos (wanted_none rfl)]
        refine ob_call rfl rfl rfl (Nat.lt_of_lt_of_eq (by decide : 37 < 85) hsz.symm) rfl (enter_of Tryd.func10 (by kernel_rfl) rfl) ?_
        show Calls Tryd.prog 10 #[ac.eval (.tmp 36)] wc _
        rw [d36]
        exact (HCK.out wc).mono fun _ _ ⟨he, hb⟩ => ⟨_, he, rfl, hb⟩
      · intro ac wc hC hsz hfr hd hpr
        have d37 : ac.eval (.tmp 37) = (.int .i64 0) := hd 1 rfl
        rw [if_pos (wanted_none rfl)]
        exact ob_bin _ rfl rfl rfl (Nat.lt_of_lt_of_eq (by decide : 38 < 85) hsz.symm) rfl d37 rfl (neq_int (x := .tmp 37) (y := .const (.int .i64 0)) (by simp)) (Below.refl _ _) rfl
      · intro ac wc hC hsz hfr hd hpr
        have d38 : ac.eval (.tmp 38) = (.bool false) := hd 2 rfl
        rw [if_pos (wanted_none rfl)]
        exact ob_copy rfl rfl rfl (Nat.lt_of_lt_of_eq (by decide : 39 < 85) hsz.symm) (Or.inl rfl) (Below.refl _ _) d38
      · intro ac wc hC hsz hfr hd hpr
        have d39 : ac.eval (.tmp 39) = (.bool false) := hd 3 rfl
        have d10 : ac.eval (.tmp 10) = (.int .i64 0) := hfr 10 rfl
        rw [if_pos (wanted_some rfl (yielded_of rfl d39))]
        exact ob_copy rfl rfl rfl (Nat.lt_of_lt_of_eq (by decide : 40 < 85) hsz.symm) (Or.inl rfl) (Below.refl _ _) d10
      · intro ac wc hC hsz hfr hd hpr
        have d39 : ac.eval (.tmp 39) = (.bool false) := hd 3 rfl
        have d40 : ac.eval (.tmp 40) = (.int .i64 0) := hd 4 rfl
        rw [if_pos (wanted_some rfl (yielded_of rfl d39))]
        exact ob_bin _ rfl rfl rfl (Nat.lt_of_lt_of_eq (by decide : 41 < 85) hsz.symm) rfl d40 rfl (neq_int (x := .tmp 40) (y := .const (.int .i64 0)) (by simp)) (Below.refl _ _) rfl
      · intro ac wc hC hsz hfr hd hpr
        have d39 : ac.eval (.tmp 39) = (.bool false) := hd 3 rfl
        have d41 : ac.eval (.tmp 41) = (.bool false) := hd 5 rfl
        rw [if_pos (wanted_none rfl)]
        exact ob_pick rfl rfl rfl (Nat.lt_of_lt_of_eq (by decide : 42 < 85) hsz.symm) rfl d39 (Below.refl _ _) d41
      · intro ac wc hC hsz hfr hd hpr
        have d42 : ac.eval (.tmp 42) = (.bool false) := hd 6 rfl
        rw [if_pos (wanted_none rfl)]
        exact ob_copy rfl rfl rfl (Nat.lt_of_lt_of_eq (by decide : 43 < 85) hsz.symm) (Or.inl rfl) (Below.refl _ _) d42
      · intro ac wc hC hsz hfr hd hpr
        have d43 : ac.eval (.tmp 43) = (.bool false) := hd 7 rfl
        have d9 : ac.eval (.tmp 9) = (.pointer (some ⟨gq, 0, none⟩)) := hfr 9 rfl
        rw [if_pos (wanted_some rfl (yielded_of rfl d43))]
        exact ob_load _ rfl rfl rfl (Nat.lt_of_lt_of_eq (by decide : 44 < 85) hsz.symm) rfl d9 (load_plan10 (K2.out.go hC)) (Below.refl _ _) rfl
      · intro ac wc hC hsz hfr hd hpr
        have d43 : ac.eval (.tmp 43) = (.bool false) := hd 7 rfl
        have d7 : ac.eval (.tmp 7) = (.pointer (some ⟨gp, 0, none⟩)) := hfr 7 rfl
        rw [if_pos (wanted_some rfl (yielded_of rfl d43))]
        exact ob_load _ rfl rfl rfl (Nat.lt_of_lt_of_eq (by decide : 45 < 85) hsz.symm) rfl d7 (load_plan10 (K1.out.go hC)) (Below.refl _ _) rfl
      · intro ac wc hC hsz hfr hd hpr
        have d43 : ac.eval (.tmp 43) = (.bool false) := hd 7 rfl
        have d44 : ac.eval (.tmp 44) = (.agg #[.int .i64 (l' : Int), .int .i64 (s' : Int), .int .i64 (k' : Int), .int .u32 (n : Int)]) := hd 8 rfl
        have d45 : ac.eval (.tmp 45) = (.agg #[.int .i64 (l' : Int), .int .i64 (s' : Int), .int .i64 (k' : Int), .int .u32 (n : Int)]) := hd 9 rfl
        rw [if_pos (wanted_some rfl (yielded_of rfl d43))]
        exact ob_bin _ rfl rfl rfl (Nat.lt_of_lt_of_eq (by decide : 46 < 85) hsz.symm) rfl d44 d45 (neq_plan10 _ _ _ _) (Below.refl _ _) rfl
      · intro ac wc hC hsz hfr hd hpr
        have d43 : ac.eval (.tmp 43) = (.bool false) := hd 7 rfl
        have d46 : ac.eval (.tmp 46) = (.bool false) := hd 10 rfl
        rw [if_pos (wanted_none rfl)]
        exact ob_pick rfl rfl rfl (Nat.lt_of_lt_of_eq (by decide : 47 < 85) hsz.symm) rfl d43 (Below.refl _ _) d46
      · intro ac wc hC hsz hfr hd hpr
        have d47 : ac.eval (.tmp 47) = (.bool false) := hd 11 rfl
        rw [if_pos (wanted_none rfl)]
        exact ob_copy rfl rfl rfl (Nat.lt_of_lt_of_eq (by decide : 48 < 85) hsz.symm) (Or.inl rfl) (Below.refl _ _) d47
      · intro ac wc hC hsz hfr hd hpr
        have d48 : ac.eval (.tmp 48) = (.bool false) := hd 12 rfl
        have d7 : ac.eval (.tmp 7) = (.pointer (some ⟨gp, 0, none⟩)) := hfr 7 rfl
        rw [if_pos (wanted_some rfl (yielded_of rfl d48))]
        exact ob_load _ rfl rfl rfl (Nat.lt_of_lt_of_eq (by decide : 49 < 85) hsz.symm) rfl d7 (load_plan10 (K1.out.go hC)) (Below.refl _ _) rfl
      · intro ac wc hC hsz hfr hd hpr
        have d48 : ac.eval (.tmp 48) = (.bool false) := hd 12 rfl
        have d49 : ac.eval (.tmp 49) = (.agg #[.int .i64 (l' : Int), .int .i64 (s' : Int), .int .i64 (k' : Int), .int .u32 (n : Int)]) := hd 13 rfl
        rw [if_pos (wanted_some rfl (yielded_of rfl d48))]
        refine ob_call rfl rfl rfl (Nat.lt_of_lt_of_eq (by decide : 50 < 85) hsz.symm) rfl (enter_of Tryd.func13 (by kernel_rfl) rfl) ?_
        show Calls Tryd.prog 13 #[ac.eval (.tmp 49)] wc _
        rw [d49]
        exact (HRM.out wc).mono fun _ _ ⟨he, hb⟩ => ⟨_, he, rfl, hb⟩
      · intro ac wc hC hsz hfr hd hpr
        have d48 : ac.eval (.tmp 48) = (.bool false) := hd 12 rfl
        have d0 : ac.eval (.tmp 0) = (.int .i64 (l' : Int)) := hfr 0 rfl
        rw [if_pos (wanted_some rfl (yielded_of rfl d48))]
        exact ob_copy rfl rfl rfl (Nat.lt_of_lt_of_eq (by decide : 51 < 85) hsz.symm) (Or.inl rfl) (Below.refl _ _) d0
      · intro ac wc hC hsz hfr hd hpr
        have d48 : ac.eval (.tmp 48) = (.bool false) := hd 12 rfl
        have d7 : ac.eval (.tmp 7) = (.pointer (some ⟨gp, 0, none⟩)) := hfr 7 rfl
        rw [if_pos (wanted_some rfl (yielded_of rfl d48))]
        exact ob_load _ rfl rfl rfl (Nat.lt_of_lt_of_eq (by decide : 52 < 85) hsz.symm) rfl d7 (load_plan10 (K1.out.go hC)) (Below.refl _ _) rfl
      · intro ac wc hC hsz hfr hd hpr
        have d48 : ac.eval (.tmp 48) = (.bool false) := hd 12 rfl
        have d52 : ac.eval (.tmp 52) = (.agg #[.int .i64 (l' : Int), .int .i64 (s' : Int), .int .i64 (k' : Int), .int .u32 (n : Int)]) := hd 16 rfl
        rw [if_pos (wanted_some rfl (yielded_of rfl d48))]
        refine ob_call rfl rfl rfl (Nat.lt_of_lt_of_eq (by decide : 53 < 85) hsz.symm) rfl (enter_of Tryd.func14 (by kernel_rfl) rfl) ?_
        show Calls Tryd.prog 14 #[ac.eval (.tmp 52)] wc _
        rw [d52]
        exact (HPD.out wc).mono fun _ _ ⟨he, hb⟩ => ⟨_, he, rfl, hb⟩
      · intro ac wc hC hsz hfr hd hpr
        have d48 : ac.eval (.tmp 48) = (.bool false) := hd 12 rfl
        have d51 : ac.eval (.tmp 51) = (.int .i64 (l' : Int)) := hd 15 rfl
        have d53 : ac.eval (.tmp 53) = (.int .i64 (d : Int)) := hd 17 rfl
        rw [if_pos (wanted_some rfl (yielded_of rfl d48))]
        exact ob_bin _ rfl rfl rfl (Nat.lt_of_lt_of_eq (by decide : 54 < 85) hsz.symm) rfl d51 d53 (add_int10 HD.out (by omega)) (Below.refl _ _) rfl
      · intro ac wc hC hsz hfr hd hpr
        have d48 : ac.eval (.tmp 48) = (.bool false) := hd 12 rfl
        have d50 : ac.eval (.tmp 50) = (.int .i64 (r : Int)) := hd 14 rfl
        have d54 : ac.eval (.tmp 54) = (.int .i64 (r : Int)) := hd 18 rfl
        rw [if_pos (wanted_some rfl (yielded_of rfl d48))]
        exact ob_bin _ rfl rfl rfl (Nat.lt_of_lt_of_eq (by decide : 55 < 85) hsz.symm) rfl d50 d54 (neq_int (by simp)) (Below.refl _ _) rfl
      · intro ac wc hC hsz hfr hd hpr
        have d48 : ac.eval (.tmp 48) = (.bool false) := hd 12 rfl
        have d55 : ac.eval (.tmp 55) = (.bool false) := hd 19 rfl
        rw [if_pos (wanted_none rfl)]
        exact ob_pick rfl rfl rfl (Nat.lt_of_lt_of_eq (by decide : 56 < 85) hsz.symm) rfl d48 (Below.refl _ _) d55
    intro a' w7 hC hdef hsz hfr hd
    have e36 : a'.eval (.tmp 36) = (.agg #[.int .i64 (l' : Int), .int .i64 (s' : Int), .int .i64 (k' : Int), .int .u32 (n : Int)]) := hd 0 (by decide)
    have e37 : a'.eval (.tmp 37) = (.int .i64 0) := hd 1 (by decide)
    have e38 : a'.eval (.tmp 38) = (.bool false) := hd 2 (by decide)
    have e39 : a'.eval (.tmp 39) = (.bool false) := hd 3 (by decide)
    have e40 : a'.eval (.tmp 40) = (.int .i64 0) := hd 4 (by decide)
    have e41 : a'.eval (.tmp 41) = (.bool false) := hd 5 (by decide)
    have e42 : a'.eval (.tmp 42) = (.bool false) := hd 6 (by decide)
    have e43 : a'.eval (.tmp 43) = (.bool false) := hd 7 (by decide)
    have e44 : a'.eval (.tmp 44) = (.agg #[.int .i64 (l' : Int), .int .i64 (s' : Int), .int .i64 (k' : Int), .int .u32 (n : Int)]) := hd 8 (by decide)
    have e45 : a'.eval (.tmp 45) = (.agg #[.int .i64 (l' : Int), .int .i64 (s' : Int), .int .i64 (k' : Int), .int .u32 (n : Int)]) := hd 9 (by decide)
    have e46 : a'.eval (.tmp 46) = (.bool false) := hd 10 (by decide)
    have e47 : a'.eval (.tmp 47) = (.bool false) := hd 11 (by decide)
    have e48 : a'.eval (.tmp 48) = (.bool false) := hd 12 (by decide)
    have e49 : a'.eval (.tmp 49) = (.agg #[.int .i64 (l' : Int), .int .i64 (s' : Int), .int .i64 (k' : Int), .int .u32 (n : Int)]) := hd 13 (by decide)
    have e50 : a'.eval (.tmp 50) = (.int .i64 (r : Int)) := hd 14 (by decide)
    have e51 : a'.eval (.tmp 51) = (.int .i64 (l' : Int)) := hd 15 (by decide)
    have e52 : a'.eval (.tmp 52) = (.agg #[.int .i64 (l' : Int), .int .i64 (s' : Int), .int .i64 (k' : Int), .int .u32 (n : Int)]) := hd 16 (by decide)
    have e53 : a'.eval (.tmp 53) = (.int .i64 (d : Int)) := hd 17 (by decide)
    have e54 : a'.eval (.tmp 54) = (.int .i64 (r : Int)) := hd 18 (by decide)
    have e55 : a'.eval (.tmp 55) = (.bool false) := hd 19 (by decide)
    have e56 : a'.eval (.tmp 56) = (.bool false) := hd 20 (by decide)
    have hact := act_puts hdef hsz hfr
    simp only [dstsOf, List.filterMap, putAll, Act.put, List.setIfInBounds_toArray, List.set_cons_succ, List.set_cons_zero, e36, e37, e38, e39, e40, e41, e42, e43, e44, e45, e46, e47, e48, e49, e50, e51, e52, e53, e54, e55, e56] at hact
    clear hd hfr hsz hdef e36 e37 e38 e39 e40 e41 e42 e43 e44 e45 e46 e47 e48 e49 e50 e51 e52 e53 e54 e55 e56
    subst hact
    replace HF := Lib.hid (HF.out.go hC)
    replace K1 := Lib.hid (K1.out.go hC)
    replace K2 := Lib.hid (K2.out.go hC)
    replace B := B.trans (hC.mono B.size)
    clear hC
    rcases hq with ⟨h0, h1⟩ | ⟨h0, h1, j, hj, q, hqq, hql⟩
    · subst h0
      subst h1
      obtain ⟨p0, p1, p2, p3⟩ := K1.out.four
      go_wp2_with fail
      refine (HPD.out _).mono ?_
      rintro e w8 ⟨rfl, hb⟩
      replace K1 := Lib.hid (K1.out.go hb)
      replace B := B.trans (hb.mono B.size)
      have hzw8 := B.size
      clear hb
      go_wp2_with fail
      go_ret
      exact ⟨rfl, B⟩
    · have hb0 : ((l' : Int) == (0 : Int)) = false := by rw [beq_eq_false_iff_ne]; omega
      have hb1 : decide ((0 : Int) ≤ (d : Int)) = true := by rw [decide_eq_true_eq]; omega
      have hb2 : decide ((d : Int) < (s' : Int)) = true := by rw [decide_eq_true_eq]; omega
      have hb3 : decide ((q : Int) < (l' : Int)) = true := by rw [decide_eq_true_eq]; omega
      obtain ⟨p0, p1, p2, p3⟩ := K1.out.four
      go_wp2_with fail
      refine (HPD.out _).mono ?_
      rintro e w8 ⟨rfl, hb⟩
      replace K1 := Lib.hid (K1.out.go hb)
      replace B := B.trans (hb.mono B.size)
      have hzw8 := B.size
      clear hb
      clear p0 p1 p2 p3
      obtain ⟨p0, p1, p2, p3⟩ := K1.out.four
      go_wp2_with fail
      refine (HPD.out _).mono ?_
      rintro e w9 ⟨rfl, hb⟩
      replace K1 := Lib.hid (K1.out.go hb)
      replace B := B.trans (hb.mono B.size)
      have hzw9 := B.size
      clear hb
      clear p0 p1 p2 p3
      obtain ⟨p0, p1, p2, p3⟩ := K1.out.four
      go_wp2_with fail
      go_ret
      exact ⟨rfl, B⟩
  · obtain ⟨f, hf⟩ : ∃ f, f = checkE l s k := ⟨_, rfl⟩
    rw [← hf] at HOF hc
    have e : ∀ x, okV f x = 0 := fun x => if_neg hc
    rw [e, e, e, e] at HOF
    have hb : (f != (0 : Int)) = true := by rw [bne_iff_ne]; exact hc
    clear hk hf e hc
    unfold planV at HOF
    have HTX := Lib.hid (fun w hT => text10_any 0 0 0 0 w (by decide) (by decide) (by decide) (by decide) hT)
    have hbe : ((strOf (textL 0 0 0 0)).toList == ([] : List UInt8)) = true := by rw [text_none]; decide +kernel
    unfold planV at HTX
    go_enter Tryd.func5, Tryd.ntmps5
    go_wp2_with fail
    have B : Below w.heap.size w w := Below.refl _ _
    refine (awake10_any _).mono ?_
    rintro e w1 ⟨rfl, hb⟩
    replace HF := Lib.hid (HF.out.go hb)
    replace B := B.trans (hb.mono B.size)
    have hzw1 := B.size
    clear hb
    go_wp2_with fail
    refine (HOF.out _).mono ?_
    rintro e w2 ⟨rfl, hb⟩
    replace HF := Lib.hid (HF.out.go hb)
    replace B := B.trans (hb.mono B.size)
    have hzw2 := B.size
    clear hb
    go_upto_region 4 with fail
    obtain ⟨hb, hk, hs⟩ := blocks1 w2 #[.int .i64 0, .int .i64 0, .int .i64 0, .int .u32 0] 24
    generalize w2.alloc (.cells #[.int .i64 0, .int .i64 0, .int .i64 0, .int .u32 0] 24) = W3 at *
    have K1 := Lib.hid hk
    replace HF := Lib.hid (HF.out.go hb)
    replace B := B.trans (hb.mono B.size)
    have hzW3 := B.size
    clear hb hk hs
    obtain ⟨p0, p1, p2, p3⟩ := K1.out.four
    go_wp2_with fail
    refine (HTX.out _ HF.out.2.2).mono ?_
    rintro e w4 ⟨rfl, hb⟩
    replace B := B.trans (hb.mono B.size)
    have hzw4 := B.size
    clear hb
    go_wp2_with fail
    go_ret
    exact ⟨rfl, B⟩

end Go.Proofs.YtgoelfaemclioaaDoor
