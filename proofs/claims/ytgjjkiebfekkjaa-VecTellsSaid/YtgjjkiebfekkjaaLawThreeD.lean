/-
  The laws of rows (layer 3), walked: VecLeads.
-/
import Derived.Test.YtgjjkiebfekkjaaLawThreeC
import Derived.Test.YtgjjkiebfekkjaaVecMath
set_option maxRecDepth 100000
namespace Go.Proofs.Ytgjjkiebfekkjaa
open Go.RowKit

theorem field_row0 (g : Nat) (w : World) : (Instr.fieldAt 35 (.pointer (some ⟨g, 0, none⟩)) 0).run Try.prog w = .ok (.pointer (some ⟨g, 0, none⟩)) w := by go_simp
theorem field_row1 (g : Nat) (w : World) : (Instr.fieldAt 35 (.pointer (some ⟨g, 0, none⟩)) 1).run Try.prog w = .ok (.pointer (some ⟨g, 1, none⟩)) w := by go_simp

theorem lead_any' (v : Value) (l : List Nat) (t : Int) (w : World) (hB : Bytes w v l) (ht : leadI l = t) :
    Calls Try.prog 7 #[v] w fun e w' => e = .returned (.int .i64 t) ∧ w = w' := by subst ht; exact lead_any v l w hB
theorem at_any' (v : Value) (l : List Nat) (i : Int) (t : Nat) (w : World) (hB : Bytes w v l) (ht : atI l i = t) :
    Calls Try.prog 10 #[v, .int .i64 i] w fun e w' => e = .returned (U8 t) ∧ w = w' := by subst ht; exact at_any v l i w hB

theorem IsRow.parts {w : World} {x y : Value} {p q : List Nat} (h : IsRow w (.agg #[x, y]) p q) : Bytes w x p ∧ Bytes w y q := by
  obtain ⟨v, d, e, h1, h2⟩ := h
  simp only [Value.agg.injEq, Array.mk.injEq, List.cons.injEq, and_true] at e
  obtain ⟨rfl, rfl⟩ := e
  exact ⟨h1, h2⟩
theorem norm_yes (u : Value) (p q p' q' : List Nat) (w : World) (hu : IsRow w u p q) (hlp : p.length ≤ 10000000) (hlq : q.length ≤ 10000000) (h : Gf.scale (normC p) p = p' ∧ Gf.scale (normC p) q = q') :
    Calls Try.prog 19 #[u] w (RowsV w p' q') := by
  obtain ⟨rfl, rfl⟩ := h
  exact norm_any u p q w hu hlp hlq
theorem atI_norm {p : List Nat} (hp : ∀ x, x ∈ p → x < 256) (hl : lead p < p.length) : atI (Gf.scale (normC p) p) (lead p : Int) = 1 := by
  unfold atI; rw [if_pos ⟨by omega, by rw [Gf.scale_length]; omega⟩]; exact norm_at hp hl

theorem leadI_norm {p : List Nat} (hp : ∀ x, x ∈ p → x < 256) : leadI (Gf.scale (normC p) p) = leadI p := leadI_scale (normC_lt p) normC_ne hp

theorem norm_same (p q : List Nat) (hp : ∀ x, x ∈ p → x < 256) :
    Gf.scale (normC (Gf.scale (normC p) p)) (Gf.scale (normC p) p) = Gf.scale (normC p) p ∧ Gf.scale (normC (Gf.scale (normC p) p)) (Gf.scale (normC p) q) = Gf.scale (normC p) q := by
  rw [norm_norm hp, scale_one (Gf.scale_lt (normC_lt p) p), scale_one (Gf.scale_lt (normC_lt p) q)]
  exact ⟨rfl, rfl⟩

theorem vecless_no' (u0 u1 : Value) (c : Nat) (p q p' q' : List Nat) (w : World) (hc : c < 256) (h0 : IsRow w u0 p q) (h1 : IsRow w u1 p' q') (hlp : p'.length ≤ 10000000) (hlq : q'.length ≤ 10000000) (h : ¬ (p'.length = p.length ∧ q'.length = q.length)) :
    Calls Try.prog 14 #[u0, U8 c, u1] w (RowsE w [] [] 4) := by
  have e := vecless_any u0 u1 c p q p' q' w hc h0 h1 hlp hlq
  unfold lessV lessD lessE at e
  rwa [if_neg h, if_neg h, if_neg h] at e
theorem vecless_yes' (u0 u1 : Value) (c : Nat) (p q p' q' x y : List Nat) (w : World) (hc : c < 256) (h0 : IsRow w u0 p q) (h1 : IsRow w u1 p' q') (hlp : p'.length ≤ 10000000) (hlq : q'.length ≤ 10000000) (h : p'.length = p.length ∧ q'.length = q.length)
    (hx : Gf.add (Gf.scale c p') p = x) (hy : Gf.add (Gf.scale c q') q = y) :
    Calls Try.prog 14 #[u0, U8 c, u1] w (RowsE w x y 0) := by
  subst hx; subst hy
  have e := vecless_any u0 u1 c p q p' q' w hc h0 h1 hlp hlq
  unfold lessV lessD lessE at e
  rwa [if_pos h, if_pos h, if_pos h] at e

set_option maxHeartbeats 2000000 in
theorem vecLeads_none (v0 d0 v1 d1 : Value) (p q p' q' : List Nat) (w : World) (hp : Bytes w v0 p) (hq : Bytes w d0 q) (hp' : Bytes w v1 p') (hq' : Bytes w d1 q') (hf0 : few3 p q = true) (hf1 : few3 p' q' = true) (hl : ¬ lead p < p.length) :
    Calls Try.prog 5 #[.agg #[v0, d0], .agg #[v1, d1]] w fun e w' => e = .returned (.bool true) ∧ Below w.heap.size w w' := by
  obtain ⟨hlp, hlq⟩ := few3_true hf0
  obtain ⟨hlp', hlq'⟩ := few3_true hf1
  have HP := Lib.hid hp
  have HQ := Lib.hid hq
  have HP' := Lib.hid hp'
  have HQ' := Lib.hid hq'
  have HF0 := Lib.hid hf0
  have HF1 := Lib.hid hf1
  have hspl : (Gf.scale (normC p) p).length ≤ 100 := by rw [Gf.scale_length]; exact hlp
  have hsql : (Gf.scale (normC p) q).length ≤ 100 := by rw [Gf.scale_length]; exact hlq
  have HI := Lib.hid (show leadI p = -1 from if_neg hl)
  have HIN := Lib.hid (show leadI (Gf.scale (normC p) p) = -1 from (leadI_norm hp.lt).trans (if_neg hl))
  have HNN := Lib.hid (norm_same p q hp.lt)
  obtain ⟨a0, c0, rfl, _⟩ := hp
  obtain ⟨a1, c1, rfl, _⟩ := hq
  obtain ⟨a2, c2, rfl, _⟩ := hp'
  obtain ⟨a3, c3, rfl, _⟩ := hq'
  clear hf0 hf1 hl
  obtain ⟨sp, hsp⟩ : ∃ sp, sp = Gf.scale (normC p) p := ⟨_, rfl⟩
  obtain ⟨sq, hsq⟩ : ∃ sq, sq = Gf.scale (normC p) q := ⟨_, rfl⟩
  rw [← hsp] at hspl HIN HNN
  rw [← hsq] at hsql HNN
  have HSP := Lib.hid hsp
  have HSQ := Lib.hid hsq
  clear hsp hsq
  go_enter Try.func5, Try.ntmps5
  go_wp2_with fail
  obtain ⟨B, hk1, hk2, hs⟩ := blocks2 w #[.slice a0 p.length c0, .slice a1 q.length c1] 33 #[.slice a2 p'.length c2, .slice a3 q'.length c3] 33
  generalize ((w.alloc (.cells #[.slice a0 p.length c0, .slice a1 q.length c1] 33)).alloc (.cells #[.slice a2 p'.length c2, .slice a3 q'.length c3] 33)) = W at *
  have K1 := Lib.hid hk1
  have K2 := Lib.hid hk2
  have HS := Lib.hid hs
  clear hs hk1 hk2
  replace HP := Lib.hid (HP.out.go B)
  replace HQ := Lib.hid (HQ.out.go B)
  replace HP' := Lib.hid (HP'.out.go B)
  replace HQ' := Lib.hid (HQ'.out.go B)
  have hzW := B.size
  refine (awake3_any _).mono ?_
  rintro e w1 ⟨rfl, hb⟩
  replace HP := Lib.hid (HP.out.go hb)
  replace HQ := Lib.hid (HQ.out.go hb)
  replace HP' := Lib.hid (HP'.out.go hb)
  replace HQ' := Lib.hid (HQ'.out.go hb)
  replace K1 := Lib.hid (K1.out.go hb)
  replace K2 := Lib.hid (K2.out.go hb)
  replace B := B.trans (hb.mono B.size)
  have hzw1 := B.size
  clear hb
  obtain ⟨k10, k11⟩ := K1.out.two
  have k1l := K1.out.lt
  obtain ⟨k20, k21⟩ := K2.out.two
  have k2l := K2.out.lt
  go_wp2_with fail
  refine (few3_any _ p q _ ⟨_, _, rfl, HP.out, HQ.out⟩).mono ?_
  rintro e w2 ⟨rfl, hb⟩
  replace HP := Lib.hid (HP.out.go hb)
  replace HQ := Lib.hid (HQ.out.go hb)
  replace HP' := Lib.hid (HP'.out.go hb)
  replace HQ' := Lib.hid (HQ'.out.go hb)
  replace K1 := Lib.hid (K1.out.go hb)
  replace K2 := Lib.hid (K2.out.go hb)
  replace B := B.trans (hb.mono B.size)
  have hzw2 := B.size
  clear hb
  rw [HF0.out]
  obtain ⟨k10, k11⟩ := K1.out.two
  have k1l := K1.out.lt
  obtain ⟨k20, k21⟩ := K2.out.two
  have k2l := K2.out.lt
  go_wp2_with fail
  refine (few3_any _ p' q' _ ⟨_, _, rfl, HP'.out, HQ'.out⟩).mono ?_
  rintro e w3 ⟨rfl, hb⟩
  replace HP := Lib.hid (HP.out.go hb)
  replace HQ := Lib.hid (HQ.out.go hb)
  replace HP' := Lib.hid (HP'.out.go hb)
  replace HQ' := Lib.hid (HQ'.out.go hb)
  replace K1 := Lib.hid (K1.out.go hb)
  replace K2 := Lib.hid (K2.out.go hb)
  replace B := B.trans (hb.mono B.size)
  have hzw3 := B.size
  clear hb
  rw [HF1.out]
  obtain ⟨k10, k11⟩ := K1.out.two
  have k1l := K1.out.lt
  obtain ⟨k20, k21⟩ := K2.out.two
  have k2l := K2.out.lt
  go_wp2_with fail
  refine (make3_any _ p q _ ⟨_, _, rfl, HP.out, HQ.out⟩ (by omega) (by omega)).mono ?_
  rintro e w4 ⟨u4, rfl, hu4, hb⟩
  replace HP' := Lib.hid (HP'.out.go hb)
  replace HQ' := Lib.hid (HQ'.out.go hb)
  replace K2 := Lib.hid (K2.out.go hb)
  replace B := B.trans (hb.mono B.size)
  have hzw4 := B.size
  clear hb
  have U4 := Lib.hid hu4
  obtain ⟨x4, y4, x4', y4', rfl⟩ := hu4.shape
  clear hu4
  obtain ⟨k20, k21⟩ := K2.out.two
  have k2l := K2.out.lt
  go_wp2_with fail
  obtain ⟨hb, hk, hs⟩ := blocks1 w4 #[.slice x4 p.length y4, .slice x4' q.length y4'] 35
  generalize w4.alloc (.cells #[.slice x4 p.length y4, .slice x4' q.length y4'] 35) = W5 at *
  have K3 := Lib.hid hk
  replace HP' := Lib.hid (HP'.out.go hb)
  replace HQ' := Lib.hid (HQ'.out.go hb)
  replace K2 := Lib.hid (K2.out.go hb)
  replace U4 := Lib.hid (U4.out.go hb)
  replace B := B.trans (hb.mono B.size)
  have hzW5 := B.size
  clear hb hk hs
  refine (norm_any _ p q _ U4.out (by omega) (by omega)).mono ?_
  rintro e w6 ⟨u6, rfl, hu6, hb⟩
  replace HP' := Lib.hid (HP'.out.go hb)
  replace HQ' := Lib.hid (HQ'.out.go hb)
  replace K2 := Lib.hid (K2.out.go hb)
  replace K3 := Lib.hid (K3.out.go hb)
  replace U4 := Lib.hid (U4.out.go hb)
  replace B := B.trans (hb.mono B.size)
  have hzw6 := B.size
  clear hb
  rw [← HSP.out, ← HSQ.out] at hu6
  have U6 := Lib.hid hu6
  obtain ⟨x6, y6, x6', y6', rfl⟩ := hu6.shape
  clear hu6
  obtain ⟨k20, k21⟩ := K2.out.two
  have k2l := K2.out.lt
  obtain ⟨k30, k31⟩ := K3.out.two
  have k3l := K3.out.lt
  go_wp2_with fail
  obtain ⟨hb, hk, hs⟩ := blocks1 w6 #[.slice x6 sp.length y6, .slice x6' sq.length y6'] 35
  generalize w6.alloc (.cells #[.slice x6 sp.length y6, .slice x6' sq.length y6'] 35) = W7 at *
  have K4 := Lib.hid hk
  replace HP' := Lib.hid (HP'.out.go hb)
  replace HQ' := Lib.hid (HQ'.out.go hb)
  replace K2 := Lib.hid (K2.out.go hb)
  replace K3 := Lib.hid (K3.out.go hb)
  replace U4 := Lib.hid (U4.out.go hb)
  replace U6 := Lib.hid (U6.out.go hb)
  replace B := B.trans (hb.mono B.size)
  have hzW7 := B.size
  clear hb hk hs
  refine (lead_any' _ p _ _ U4.out.parts.1 HI.out).mono ?_
  rintro e w' ⟨rfl, rfl⟩
  go_wp2_with fail
  refine wp_region_mono (C := Cb W7) (R := Rb) (H := Hb W7) [Ty.val 30 (.pointer (some ⟨w6.heap.size, 0, none⟩)), Ty.bytes 31 sp, Ty.val 32 (.int .i64 (-1)), Ty.val 33 (.int .i64 (-1)), Ty.val 34 (.bool false), Ty.val 35 (.bool false), Ty.val 36 (.int .i64 (-1)), Ty.val 37 (.bool false), Ty.val 38 (.bool false), Ty.any, Ty.any, Ty.any, Ty.any, Ty.any, Ty.val 44 (.bool false), Ty.val 45 (.bool false), Ty.val 46 (.bool false), Ty.row 47 sp sq, Ty.row 48 sp sq, Ty.row 49 sp sq, Ty.val 50 (.bool true), Ty.val 51 (.bool false), Ty.val 52 (.bool false)] (by kernel_rfl) (hC_b W7) (hCH_b W7) (drew_b W7) (by kernel_rfl) ?_ ?_
  · refine ⟨?_, ?_, ?_, ?_, ?_, ?_, ?_, ?_, ?_, ?_, ?_, ?_, ?_, ?_, ?_, ?_, ?_, ?_, ?_, ?_, ?_, ?_, ?_, trivial⟩
    · intro ac wc hC hsz hfr hd
      have d6 : ac.eval (.tmp 6) = (.pointer (some ⟨w6.heap.size, 0, none⟩)) := hfr 6 rfl
      rw [if_pos (wanted_none rfl)]
      exact ob_field _ rfl rfl rfl (Nat.lt_of_lt_of_eq (by decide : 30 < 128) hsz.symm) rfl d6 (field_row0 _) (Below.refl _ _) rfl
    · intro ac wc hC hsz hfr hd
      have d30 : ac.eval (.tmp 30) = (.pointer (some ⟨w6.heap.size, 0, none⟩)) := hd 0 rfl
      rw [if_pos (wanted_none rfl)]
      exact ob_load _ rfl rfl rfl (Nat.lt_of_lt_of_eq (by decide : 31 < 128) hsz.symm) rfl d30 (load_vec (K4.out.go hC).two.1) (Below.refl _ _) (U6.out.parts.1.go hC)
    · intro ac wc hC hsz hfr hd
      have d31 : Bytes wc (ac.eval (.tmp 31)) sp := hd 1 rfl
      rw [if_pos (wanted_none rfl)]
      refine ob_call rfl rfl rfl (Nat.lt_of_lt_of_eq (by decide : 32 < 128) hsz.symm) rfl (enter_of Try.func7 (by kernel_rfl) rfl) ?_
      show Calls Try.prog 7 #[ac.eval (.tmp 31)] wc _
      exact (lead_any' _ sp _ wc d31 HIN.out).mono fun _ _ ⟨he, hw⟩ => ⟨_, he, rfl, hw ▸ Below.refl _ _⟩
    · intro ac wc hC hsz hfr hd
      have d7 : ac.eval (.tmp 7) = (.int .i64 (-1)) := hfr 7 rfl
      rw [if_pos (wanted_none rfl)]
      exact ob_copy rfl rfl rfl (Nat.lt_of_lt_of_eq (by decide : 33 < 128) hsz.symm) (Or.inl rfl) (Below.refl _ _) d7
    · intro ac wc hC hsz hfr hd
      have d32 : ac.eval (.tmp 32) = (.int .i64 (-1)) := hd 2 rfl
      have d33 : ac.eval (.tmp 33) = (.int .i64 (-1)) := hd 3 rfl
      rw [if_pos (wanted_none rfl)]
      exact ob_bin _ rfl rfl rfl (Nat.lt_of_lt_of_eq (by decide : 34 < 128) hsz.symm) rfl d32 d33 (neq_int (by simp)) (Below.refl _ _) rfl
    · intro ac wc hC hsz hfr hd
      have d34 : ac.eval (.tmp 34) = (.bool false) := hd 4 rfl
      rw [if_pos (wanted_none rfl)]
      exact ob_copy rfl rfl rfl (Nat.lt_of_lt_of_eq (by decide : 35 < 128) hsz.symm) (Or.inl rfl) (Below.refl _ _) d34
    · intro ac wc hC hsz hfr hd
      have d35 : ac.eval (.tmp 35) = (.bool false) := hd 5 rfl
      have d7 : ac.eval (.tmp 7) = (.int .i64 (-1)) := hfr 7 rfl
      rw [if_pos (wanted_some rfl (yielded_of rfl d35))]
      exact ob_copy rfl rfl rfl (Nat.lt_of_lt_of_eq (by decide : 36 < 128) hsz.symm) (Or.inl rfl) (Below.refl _ _) d7
    · intro ac wc hC hsz hfr hd
      have d35 : ac.eval (.tmp 35) = (.bool false) := hd 5 rfl
      have d36 : ac.eval (.tmp 36) = (.int .i64 (-1)) := hd 6 rfl
      rw [if_pos (wanted_some rfl (yielded_of rfl d35))]
      exact ob_bin _ rfl rfl rfl (Nat.lt_of_lt_of_eq (by decide : 37 < 128) hsz.symm) rfl d36 rfl (geq_int (by decide)) (Below.refl _ _) rfl
    · intro ac wc hC hsz hfr hd
      have d35 : ac.eval (.tmp 35) = (.bool false) := hd 5 rfl
      have d37 : ac.eval (.tmp 37) = (.bool false) := hd 7 rfl
      rw [if_pos (wanted_some rfl (yielded_of rfl d35))]
      exact ob_copy rfl rfl rfl (Nat.lt_of_lt_of_eq (by decide : 38 < 128) hsz.symm) (Or.inl rfl) (Below.refl _ _) d37
    · intro ac wc hC hsz hfr hd
      have d38 : ac.eval (.tmp 38) = (.bool false) := hd 8 rfl
      have d6 : ac.eval (.tmp 6) = (.pointer (some ⟨w6.heap.size, 0, none⟩)) := hfr 6 rfl
      rw [if_neg (unwanted_some rfl (yielded_of rfl d38) (by decide))]
      exact ⟨Below.refl _ _, trivial⟩
    · intro ac wc hC hsz hfr hd
      have d38 : ac.eval (.tmp 38) = (.bool false) := hd 8 rfl
      rw [if_neg (unwanted_some rfl (yielded_of rfl d38) (by decide))]
      exact ⟨Below.refl _ _, trivial⟩
    · intro ac wc hC hsz hfr hd
      have d38 : ac.eval (.tmp 38) = (.bool false) := hd 8 rfl
      have d7 : ac.eval (.tmp 7) = (.int .i64 (-1)) := hfr 7 rfl
      rw [if_neg (unwanted_some rfl (yielded_of rfl d38) (by decide))]
      exact ⟨Below.refl _ _, trivial⟩
    · intro ac wc hC hsz hfr hd
      have d38 : ac.eval (.tmp 38) = (.bool false) := hd 8 rfl
      rw [if_neg (unwanted_some rfl (yielded_of rfl d38) (by decide))]
      exact ⟨Below.refl _ _, trivial⟩
    · intro ac wc hC hsz hfr hd
      have d38 : ac.eval (.tmp 38) = (.bool false) := hd 8 rfl
      rw [if_neg (unwanted_some rfl (yielded_of rfl d38) (by decide))]
      exact ⟨Below.refl _ _, trivial⟩
    · intro ac wc hC hsz hfr hd
      have d35 : ac.eval (.tmp 35) = (.bool false) := hd 5 rfl
      have d38 : ac.eval (.tmp 38) = (.bool false) := hd 8 rfl
      rw [if_pos (wanted_some rfl (yielded_of rfl d35))]
      exact ob_pick rfl rfl rfl (Nat.lt_of_lt_of_eq (by decide : 44 < 128) hsz.symm) rfl d38 (Below.refl _ _) rfl
    · intro ac wc hC hsz hfr hd
      have d35 : ac.eval (.tmp 35) = (.bool false) := hd 5 rfl
      have d44 : ac.eval (.tmp 44) = (.bool false) := hd 14 rfl
      rw [if_pos (wanted_none rfl)]
      exact ob_pick rfl rfl rfl (Nat.lt_of_lt_of_eq (by decide : 45 < 128) hsz.symm) rfl d35 (Below.refl _ _) d44
    · intro ac wc hC hsz hfr hd
      have d45 : ac.eval (.tmp 45) = (.bool false) := hd 15 rfl
      rw [if_pos (wanted_none rfl)]
      exact ob_copy rfl rfl rfl (Nat.lt_of_lt_of_eq (by decide : 46 < 128) hsz.symm) (Or.inl rfl) (Below.refl _ _) d45
    · intro ac wc hC hsz hfr hd
      have d46 : ac.eval (.tmp 46) = (.bool false) := hd 16 rfl
      have d6 : ac.eval (.tmp 6) = (.pointer (some ⟨w6.heap.size, 0, none⟩)) := hfr 6 rfl
      rw [if_pos (wanted_some rfl (yielded_of rfl d46))]
      exact ob_load _ rfl rfl rfl (Nat.lt_of_lt_of_eq (by decide : 47 < 128) hsz.symm) rfl d6 (load_vecrow (K4.out.go hC)) (Below.refl _ _) (U6.out.go hC)
    · intro ac wc hC hsz hfr hd
      have d46 : ac.eval (.tmp 46) = (.bool false) := hd 16 rfl
      have d47 : IsRow wc (ac.eval (.tmp 47)) sp sq := hd 17 rfl
      rw [if_pos (wanted_some rfl (yielded_of rfl d46))]
      refine ob_call rfl rfl rfl (Nat.lt_of_lt_of_eq (by decide : 48 < 128) hsz.symm) rfl (enter_of Try.func19 (by kernel_rfl) rfl) ?_
      show Calls Try.prog 19 #[ac.eval (.tmp 47)] wc _
      exact norm_yes _ sp sq _ _ wc d47 (by omega) (by omega) HNN.out
    · intro ac wc hC hsz hfr hd
      have d46 : ac.eval (.tmp 46) = (.bool false) := hd 16 rfl
      have d6 : ac.eval (.tmp 6) = (.pointer (some ⟨w6.heap.size, 0, none⟩)) := hfr 6 rfl
      rw [if_pos (wanted_some rfl (yielded_of rfl d46))]
      exact ob_load _ rfl rfl rfl (Nat.lt_of_lt_of_eq (by decide : 49 < 128) hsz.symm) rfl d6 (load_vecrow (K4.out.go hC)) (Below.refl _ _) (U6.out.go hC)
    · intro ac wc hC hsz hfr hd
      have d46 : ac.eval (.tmp 46) = (.bool false) := hd 16 rfl
      have d48 : IsRow wc (ac.eval (.tmp 48)) sp sq := hd 18 rfl
      have d49 : IsRow wc (ac.eval (.tmp 49)) sp sq := hd 19 rfl
      rw [if_pos (wanted_some rfl (yielded_of rfl d46))]
      refine ob_call rfl rfl rfl (Nat.lt_of_lt_of_eq (by decide : 50 < 128) hsz.symm) rfl (enter_of Try.func21 (by kernel_rfl) rfl) ?_
      show Calls Try.prog 21 #[ac.eval (.tmp 48), ac.eval (.tmp 49)] wc _
      exact (vecsame_yes _ _ _ _ wc d48 d49).mono fun _ _ ⟨he, hb⟩ => ⟨_, he, rfl, hb⟩
    · intro ac wc hC hsz hfr hd
      have d46 : ac.eval (.tmp 46) = (.bool false) := hd 16 rfl
      have d50 : ac.eval (.tmp 50) = (.bool true) := hd 20 rfl
      rw [if_pos (wanted_some rfl (yielded_of rfl d46))]
      exact ob_not rfl rfl rfl (Nat.lt_of_lt_of_eq (by decide : 51 < 128) hsz.symm) rfl d50 (Below.refl _ _) rfl
    · intro ac wc hC hsz hfr hd
      have d46 : ac.eval (.tmp 46) = (.bool false) := hd 16 rfl
      have d51 : ac.eval (.tmp 51) = (.bool false) := hd 21 rfl
      rw [if_pos (wanted_none rfl)]
      exact ob_pick rfl rfl rfl (Nat.lt_of_lt_of_eq (by decide : 52 < 128) hsz.symm) rfl d46 (Below.refl _ _) d51
  intro a' W8 hC hdef hsz hfr hd
  have e30 : a'.eval (.tmp 30) = (.pointer (some ⟨w6.heap.size, 0, none⟩)) := hd 0 (by decide)
  obtain ⟨x31, e31, r31⟩ : ∃ x, a'.eval (.tmp 31) = x ∧ Bytes W8 (x) sp := ⟨_, rfl, hd 1 (by decide)⟩
  replace r31 := Lib.hid r31
  have e32 : a'.eval (.tmp 32) = (.int .i64 (-1)) := hd 2 (by decide)
  have e33 : a'.eval (.tmp 33) = (.int .i64 (-1)) := hd 3 (by decide)
  have e34 : a'.eval (.tmp 34) = (.bool false) := hd 4 (by decide)
  have e35 : a'.eval (.tmp 35) = (.bool false) := hd 5 (by decide)
  have e36 : a'.eval (.tmp 36) = (.int .i64 (-1)) := hd 6 (by decide)
  have e37 : a'.eval (.tmp 37) = (.bool false) := hd 7 (by decide)
  have e38 : a'.eval (.tmp 38) = (.bool false) := hd 8 (by decide)
  obtain ⟨x39, e39⟩ : ∃ x, a'.eval (.tmp 39) = x := ⟨_, rfl⟩
  obtain ⟨x40, e40⟩ : ∃ x, a'.eval (.tmp 40) = x := ⟨_, rfl⟩
  obtain ⟨x41, e41⟩ : ∃ x, a'.eval (.tmp 41) = x := ⟨_, rfl⟩
  obtain ⟨x42, e42⟩ : ∃ x, a'.eval (.tmp 42) = x := ⟨_, rfl⟩
  obtain ⟨x43, e43⟩ : ∃ x, a'.eval (.tmp 43) = x := ⟨_, rfl⟩
  have e44 : a'.eval (.tmp 44) = (.bool false) := hd 14 (by decide)
  have e45 : a'.eval (.tmp 45) = (.bool false) := hd 15 (by decide)
  have e46 : a'.eval (.tmp 46) = (.bool false) := hd 16 (by decide)
  obtain ⟨x47, e47, r47⟩ : ∃ x, a'.eval (.tmp 47) = x ∧ IsRow W8 (x) sp sq := ⟨_, rfl, hd 17 (by decide)⟩
  replace r47 := Lib.hid r47
  obtain ⟨x48, e48, r48⟩ : ∃ x, a'.eval (.tmp 48) = x ∧ IsRow W8 (x) sp sq := ⟨_, rfl, hd 18 (by decide)⟩
  replace r48 := Lib.hid r48
  obtain ⟨x49, e49, r49⟩ : ∃ x, a'.eval (.tmp 49) = x ∧ IsRow W8 (x) sp sq := ⟨_, rfl, hd 19 (by decide)⟩
  replace r49 := Lib.hid r49
  have e50 : a'.eval (.tmp 50) = (.bool true) := hd 20 (by decide)
  have e51 : a'.eval (.tmp 51) = (.bool false) := hd 21 (by decide)
  have e52 : a'.eval (.tmp 52) = (.bool false) := hd 22 (by decide)
  have hact := act_puts hdef hsz hfr
  simp only [dstsOf, List.filterMap, putAll, Act.put, List.setIfInBounds_toArray, List.set_cons_succ, List.set_cons_zero, e30, e31, e32, e33, e34, e35, e36, e37, e38, e39, e40, e41, e42, e43, e44, e45, e46, e47, e48, e49, e50, e51, e52] at hact
  clear hd hfr hsz hdef e30 e31 e32 e33 e34 e35 e36 e37 e38 e39 e40 e41 e42 e43 e44 e45 e46 e47 e48 e49 e50 e51 e52
  subst hact
  replace HP' := Lib.hid (HP'.out.go hC)
  replace HQ' := Lib.hid (HQ'.out.go hC)
  replace K2 := Lib.hid (K2.out.go hC)
  replace K3 := Lib.hid (K3.out.go hC)
  replace K4 := Lib.hid (K4.out.go hC)
  replace U4 := Lib.hid (U4.out.go hC)
  replace U6 := Lib.hid (U6.out.go hC)
  replace B := B.trans (hC.mono B.size)
  clear hC
  obtain ⟨k20, k21⟩ := K2.out.two
  have k2l := K2.out.lt
  go_wp2_with fail
  refine (make3_any _ p' q' _ ⟨_, _, rfl, HP'.out, HQ'.out⟩ (by omega) (by omega)).mono ?_
  rintro e w9 ⟨u9, rfl, hu9, hb⟩
  replace B := B.trans (hb.mono B.size)
  have hzw9 := B.size
  clear hb
  obtain ⟨x9, y9, x9', y9', rfl⟩ := hu9.shape
  clear hu9
  go_wp2_with fail
  go_ret
  exact ⟨rfl, B.trans ((blocks1 w9 #[.slice x9 p'.length y9, .slice x9' q'.length y9'] 35).1.mono B.size)⟩

set_option maxHeartbeats 2000000 in
theorem vecLeads_some (v0 d0 v1 d1 : Value) (p q p' q' : List Nat) (w : World) (hp : Bytes w v0 p) (hq : Bytes w d0 q) (hp' : Bytes w v1 p') (hq' : Bytes w d1 q') (hf0 : few3 p q = true) (hf1 : few3 p' q' = true) (hl : lead p < p.length) :
    Calls Try.prog 5 #[.agg #[v0, d0], .agg #[v1, d1]] w fun e w' => e = .returned (.bool true) ∧ Below w.heap.size w w' := by
  obtain ⟨hlp, hlq⟩ := few3_true hf0
  obtain ⟨hlp', hlq'⟩ := few3_true hf1
  have HP := Lib.hid hp
  have HQ := Lib.hid hq
  have HP' := Lib.hid hp'
  have HQ' := Lib.hid hq'
  have HF0 := Lib.hid hf0
  have HF1 := Lib.hid hf1
  have hspl : (Gf.scale (normC p) p).length ≤ 100 := by rw [Gf.scale_length]; exact hlp
  have hsql : (Gf.scale (normC p) q).length ≤ 100 := by rw [Gf.scale_length]; exact hlq
  have HI := Lib.hid (show leadI p = (lead p : Int) from if_pos hl)
  have HIN := Lib.hid (show leadI (Gf.scale (normC p) p) = (lead p : Int) from (leadI_norm hp.lt).trans (if_pos hl))
  have HAN := Lib.hid (atI_norm hp.lt hl)
  have HSZ := Lib.hid (show ∀ j, j < lead p → nth (Gf.scale (normC p) p) j = 0 from fun j hj => lead_zero _ j (by rw [lead_scale (normC_lt p) normC_ne hp.lt]; exact hj))
  have HSO := Lib.hid (norm_at hp.lt hl)
  have HSLT := Lib.hid (Gf.scale_lt (normC_lt p) p)
  have HSQT := Lib.hid (Gf.scale_lt (normC_lt p) q)
  have HSL := Lib.hid (Gf.scale_length (normC p) p)
  have HSQL := Lib.hid (Gf.scale_length (normC p) q)
  have HPL := Lib.hid hp'.lt
  have HQL := Lib.hid hq'.lt
  have HNN := Lib.hid (norm_same p q hp.lt)
  obtain ⟨a0, c0, rfl, _⟩ := hp
  obtain ⟨a1, c1, rfl, _⟩ := hq
  obtain ⟨a2, c2, rfl, _⟩ := hp'
  obtain ⟨a3, c3, rfl, _⟩ := hq'
  have HL := Lib.hid hl
  clear hf0 hf1 hl
  obtain ⟨i, hi⟩ : ∃ i, i = lead p := ⟨_, rfl⟩
  rw [← hi] at HI HIN HAN HSZ HSO HL
  clear hi
  obtain ⟨sp, hsp⟩ : ∃ sp, sp = Gf.scale (normC p) p := ⟨_, rfl⟩
  obtain ⟨sq, hsq⟩ : ∃ sq, sq = Gf.scale (normC p) q := ⟨_, rfl⟩
  rw [← hsp] at hspl HIN HNN HAN HSZ HSO HSLT HSL
  rw [← hsq] at hsql HNN HSQT HSQL
  have HSP := Lib.hid hsp
  have HSQ := Lib.hid hsq
  clear hsp hsq
  go_enter Try.func5, Try.ntmps5
  go_wp2_with fail
  obtain ⟨B, hk1, hk2, hs⟩ := blocks2 w #[.slice a0 p.length c0, .slice a1 q.length c1] 33 #[.slice a2 p'.length c2, .slice a3 q'.length c3] 33
  generalize ((w.alloc (.cells #[.slice a0 p.length c0, .slice a1 q.length c1] 33)).alloc (.cells #[.slice a2 p'.length c2, .slice a3 q'.length c3] 33)) = W at *
  have K1 := Lib.hid hk1
  have K2 := Lib.hid hk2
  have HS := Lib.hid hs
  clear hs hk1 hk2
  replace HP := Lib.hid (HP.out.go B)
  replace HQ := Lib.hid (HQ.out.go B)
  replace HP' := Lib.hid (HP'.out.go B)
  replace HQ' := Lib.hid (HQ'.out.go B)
  have hzW := B.size
  refine (awake3_any _).mono ?_
  rintro e w1 ⟨rfl, hb⟩
  replace HP := Lib.hid (HP.out.go hb)
  replace HQ := Lib.hid (HQ.out.go hb)
  replace HP' := Lib.hid (HP'.out.go hb)
  replace HQ' := Lib.hid (HQ'.out.go hb)
  replace K1 := Lib.hid (K1.out.go hb)
  replace K2 := Lib.hid (K2.out.go hb)
  replace B := B.trans (hb.mono B.size)
  have hzw1 := B.size
  clear hb
  obtain ⟨k10, k11⟩ := K1.out.two
  have k1l := K1.out.lt
  obtain ⟨k20, k21⟩ := K2.out.two
  have k2l := K2.out.lt
  go_wp2_with fail
  refine (few3_any _ p q _ ⟨_, _, rfl, HP.out, HQ.out⟩).mono ?_
  rintro e w2 ⟨rfl, hb⟩
  replace HP := Lib.hid (HP.out.go hb)
  replace HQ := Lib.hid (HQ.out.go hb)
  replace HP' := Lib.hid (HP'.out.go hb)
  replace HQ' := Lib.hid (HQ'.out.go hb)
  replace K1 := Lib.hid (K1.out.go hb)
  replace K2 := Lib.hid (K2.out.go hb)
  replace B := B.trans (hb.mono B.size)
  have hzw2 := B.size
  clear hb
  rw [HF0.out]
  obtain ⟨k10, k11⟩ := K1.out.two
  have k1l := K1.out.lt
  obtain ⟨k20, k21⟩ := K2.out.two
  have k2l := K2.out.lt
  go_wp2_with fail
  refine (few3_any _ p' q' _ ⟨_, _, rfl, HP'.out, HQ'.out⟩).mono ?_
  rintro e w3 ⟨rfl, hb⟩
  replace HP := Lib.hid (HP.out.go hb)
  replace HQ := Lib.hid (HQ.out.go hb)
  replace HP' := Lib.hid (HP'.out.go hb)
  replace HQ' := Lib.hid (HQ'.out.go hb)
  replace K1 := Lib.hid (K1.out.go hb)
  replace K2 := Lib.hid (K2.out.go hb)
  replace B := B.trans (hb.mono B.size)
  have hzw3 := B.size
  clear hb
  rw [HF1.out]
  obtain ⟨k10, k11⟩ := K1.out.two
  have k1l := K1.out.lt
  obtain ⟨k20, k21⟩ := K2.out.two
  have k2l := K2.out.lt
  go_wp2_with fail
  refine (make3_any _ p q _ ⟨_, _, rfl, HP.out, HQ.out⟩ (by omega) (by omega)).mono ?_
  rintro e w4 ⟨u4, rfl, hu4, hb⟩
  replace HP' := Lib.hid (HP'.out.go hb)
  replace HQ' := Lib.hid (HQ'.out.go hb)
  replace K1 := Lib.hid (K1.out.go hb)
  replace K2 := Lib.hid (K2.out.go hb)
  replace B := B.trans (hb.mono B.size)
  have hzw4 := B.size
  clear hb
  have U4 := Lib.hid hu4
  obtain ⟨x4, y4, x4', y4', rfl⟩ := hu4.shape
  clear hu4
  obtain ⟨k20, k21⟩ := K2.out.two
  have k2l := K2.out.lt
  go_wp2_with fail
  obtain ⟨hb, hk, hs⟩ := blocks1 w4 #[.slice x4 p.length y4, .slice x4' q.length y4'] 35
  generalize w4.alloc (.cells #[.slice x4 p.length y4, .slice x4' q.length y4'] 35) = W5 at *
  have K3 := Lib.hid hk
  replace HP' := Lib.hid (HP'.out.go hb)
  replace HQ' := Lib.hid (HQ'.out.go hb)
  replace K1 := Lib.hid (K1.out.go hb)
  replace K2 := Lib.hid (K2.out.go hb)
  replace U4 := Lib.hid (U4.out.go hb)
  replace B := B.trans (hb.mono B.size)
  have hzW5 := B.size
  clear hb hk hs
  refine (norm_any _ p q _ U4.out (by omega) (by omega)).mono ?_
  rintro e w6 ⟨u6, rfl, hu6, hb⟩
  replace HP' := Lib.hid (HP'.out.go hb)
  replace HQ' := Lib.hid (HQ'.out.go hb)
  replace K1 := Lib.hid (K1.out.go hb)
  replace K2 := Lib.hid (K2.out.go hb)
  replace K3 := Lib.hid (K3.out.go hb)
  replace U4 := Lib.hid (U4.out.go hb)
  replace B := B.trans (hb.mono B.size)
  have hzw6 := B.size
  clear hb
  rw [← HSP.out, ← HSQ.out] at hu6
  have U6 := Lib.hid hu6
  obtain ⟨x6, y6, x6', y6', rfl⟩ := hu6.shape
  clear hu6
  obtain ⟨k20, k21⟩ := K2.out.two
  have k2l := K2.out.lt
  obtain ⟨k30, k31⟩ := K3.out.two
  have k3l := K3.out.lt
  go_wp2_with fail
  obtain ⟨hb, hk, hs⟩ := blocks1 w6 #[.slice x6 sp.length y6, .slice x6' sq.length y6'] 35
  generalize w6.alloc (.cells #[.slice x6 sp.length y6, .slice x6' sq.length y6'] 35) = W7 at *
  have K4 := Lib.hid hk
  replace HP' := Lib.hid (HP'.out.go hb)
  replace HQ' := Lib.hid (HQ'.out.go hb)
  replace K1 := Lib.hid (K1.out.go hb)
  replace K2 := Lib.hid (K2.out.go hb)
  replace K3 := Lib.hid (K3.out.go hb)
  replace U4 := Lib.hid (U4.out.go hb)
  replace U6 := Lib.hid (U6.out.go hb)
  replace B := B.trans (hb.mono B.size)
  have hzW7 := B.size
  clear hb hk hs
  refine (lead_any' _ p _ _ U4.out.parts.1 HI.out).mono ?_
  rintro e w' ⟨rfl, rfl⟩
  go_wp2_with fail
  have i0 : (0 : Int) ≤ (i : Int) := Int.natCast_nonneg _
  refine wp_region_mono (C := Cb W7) (R := Rb) (H := Hb W7) [Ty.val 30 (.pointer (some ⟨w6.heap.size, 0, none⟩)), Ty.bytes 31 sp, Ty.val 32 (.int .i64 (i : Int)), Ty.val 33 (.int .i64 (i : Int)), Ty.val 34 (.bool false), Ty.val 35 (.bool false), Ty.val 36 (.int .i64 (i : Int)), Ty.val 37 (.bool true), Ty.val 38 (.bool true), Ty.val 39 (.pointer (some ⟨w6.heap.size, 0, none⟩)), Ty.bytes 40 sp, Ty.val 41 (.int .i64 (i : Int)), Ty.val 42 (.int .u8 1), Ty.val 43 (.bool false), Ty.val 44 (.bool false), Ty.val 45 (.bool false), Ty.val 46 (.bool false), Ty.row 47 sp sq, Ty.row 48 sp sq, Ty.row 49 sp sq, Ty.val 50 (.bool true), Ty.val 51 (.bool false), Ty.val 52 (.bool false)] (by kernel_rfl) (hC_b W7) (hCH_b W7) (drew_b W7) (by kernel_rfl) ?_ ?_
  · refine ⟨?_, ?_, ?_, ?_, ?_, ?_, ?_, ?_, ?_, ?_, ?_, ?_, ?_, ?_, ?_, ?_, ?_, ?_, ?_, ?_, ?_, ?_, ?_, trivial⟩
    · intro ac wc hC hsz hfr hd
      have d6 : ac.eval (.tmp 6) = (.pointer (some ⟨w6.heap.size, 0, none⟩)) := hfr 6 rfl
      rw [if_pos (wanted_none rfl)]
      exact ob_field _ rfl rfl rfl (Nat.lt_of_lt_of_eq (by decide : 30 < 128) hsz.symm) rfl d6 (field_row0 _) (Below.refl _ _) rfl
    · intro ac wc hC hsz hfr hd
      have d30 : ac.eval (.tmp 30) = (.pointer (some ⟨w6.heap.size, 0, none⟩)) := hd 0 rfl
      rw [if_pos (wanted_none rfl)]
      exact ob_load _ rfl rfl rfl (Nat.lt_of_lt_of_eq (by decide : 31 < 128) hsz.symm) rfl d30 (load_vec (K4.out.go hC).two.1) (Below.refl _ _) (U6.out.parts.1.go hC)
    · intro ac wc hC hsz hfr hd
      have d31 : Bytes wc (ac.eval (.tmp 31)) sp := hd 1 rfl
      rw [if_pos (wanted_none rfl)]
      refine ob_call rfl rfl rfl (Nat.lt_of_lt_of_eq (by decide : 32 < 128) hsz.symm) rfl (enter_of Try.func7 (by kernel_rfl) rfl) ?_
      show Calls Try.prog 7 #[ac.eval (.tmp 31)] wc _
      exact (lead_any' _ sp _ wc d31 HIN.out).mono fun _ _ ⟨he, hw⟩ => ⟨_, he, rfl, hw ▸ Below.refl _ _⟩
    · intro ac wc hC hsz hfr hd
      have d7 : ac.eval (.tmp 7) = (.int .i64 (i : Int)) := hfr 7 rfl
      rw [if_pos (wanted_none rfl)]
      exact ob_copy rfl rfl rfl (Nat.lt_of_lt_of_eq (by decide : 33 < 128) hsz.symm) (Or.inl rfl) (Below.refl _ _) d7
    · intro ac wc hC hsz hfr hd
      have d32 : ac.eval (.tmp 32) = (.int .i64 (i : Int)) := hd 2 rfl
      have d33 : ac.eval (.tmp 33) = (.int .i64 (i : Int)) := hd 3 rfl
      rw [if_pos (wanted_none rfl)]
      exact ob_bin _ rfl rfl rfl (Nat.lt_of_lt_of_eq (by decide : 34 < 128) hsz.symm) rfl d32 d33 (neq_int (by simp)) (Below.refl _ _) rfl
    · intro ac wc hC hsz hfr hd
      have d34 : ac.eval (.tmp 34) = (.bool false) := hd 4 rfl
      rw [if_pos (wanted_none rfl)]
      exact ob_copy rfl rfl rfl (Nat.lt_of_lt_of_eq (by decide : 35 < 128) hsz.symm) (Or.inl rfl) (Below.refl _ _) d34
    · intro ac wc hC hsz hfr hd
      have d35 : ac.eval (.tmp 35) = (.bool false) := hd 5 rfl
      have d7 : ac.eval (.tmp 7) = (.int .i64 (i : Int)) := hfr 7 rfl
      rw [if_pos (wanted_some rfl (yielded_of rfl d35))]
      exact ob_copy rfl rfl rfl (Nat.lt_of_lt_of_eq (by decide : 36 < 128) hsz.symm) (Or.inl rfl) (Below.refl _ _) d7
    · intro ac wc hC hsz hfr hd
      have d35 : ac.eval (.tmp 35) = (.bool false) := hd 5 rfl
      have d36 : ac.eval (.tmp 36) = (.int .i64 (i : Int)) := hd 6 rfl
      rw [if_pos (wanted_some rfl (yielded_of rfl d35))]
      exact ob_bin _ rfl rfl rfl (Nat.lt_of_lt_of_eq (by decide : 37 < 128) hsz.symm) rfl d36 rfl (geq_int (by simp)) (Below.refl _ _) rfl
    · intro ac wc hC hsz hfr hd
      have d35 : ac.eval (.tmp 35) = (.bool false) := hd 5 rfl
      have d37 : ac.eval (.tmp 37) = (.bool true) := hd 7 rfl
      rw [if_pos (wanted_some rfl (yielded_of rfl d35))]
      exact ob_copy rfl rfl rfl (Nat.lt_of_lt_of_eq (by decide : 38 < 128) hsz.symm) (Or.inl rfl) (Below.refl _ _) d37
    · intro ac wc hC hsz hfr hd
      have d38 : ac.eval (.tmp 38) = (.bool true) := hd 8 rfl
      have d6 : ac.eval (.tmp 6) = (.pointer (some ⟨w6.heap.size, 0, none⟩)) := hfr 6 rfl
      rw [if_pos (wanted_some rfl (yielded_of rfl d38))]
      exact ob_field _ rfl rfl rfl (Nat.lt_of_lt_of_eq (by decide : 39 < 128) hsz.symm) rfl d6 (field_row0 _) (Below.refl _ _) rfl
    · intro ac wc hC hsz hfr hd
      have d38 : ac.eval (.tmp 38) = (.bool true) := hd 8 rfl
      have d39 : ac.eval (.tmp 39) = (.pointer (some ⟨w6.heap.size, 0, none⟩)) := hd 9 rfl
      rw [if_pos (wanted_some rfl (yielded_of rfl d38))]
      exact ob_load _ rfl rfl rfl (Nat.lt_of_lt_of_eq (by decide : 40 < 128) hsz.symm) rfl d39 (load_vec (K4.out.go hC).two.1) (Below.refl _ _) (U6.out.parts.1.go hC)
    · intro ac wc hC hsz hfr hd
      have d38 : ac.eval (.tmp 38) = (.bool true) := hd 8 rfl
      have d7 : ac.eval (.tmp 7) = (.int .i64 (i : Int)) := hfr 7 rfl
      rw [if_pos (wanted_some rfl (yielded_of rfl d38))]
      exact ob_copy rfl rfl rfl (Nat.lt_of_lt_of_eq (by decide : 41 < 128) hsz.symm) (Or.inl rfl) (Below.refl _ _) d7
    · intro ac wc hC hsz hfr hd
      have d38 : ac.eval (.tmp 38) = (.bool true) := hd 8 rfl
      have d40 : Bytes wc (ac.eval (.tmp 40)) sp := hd 10 rfl
      have d41 : ac.eval (.tmp 41) = (.int .i64 (i : Int)) := hd 11 rfl
      rw [if_pos (wanted_some rfl (yielded_of rfl d38))]
      refine ob_call rfl rfl rfl (Nat.lt_of_lt_of_eq (by decide : 42 < 128) hsz.symm) rfl (enter_of Try.func10 (by kernel_rfl) rfl) ?_
      show Calls Try.prog 10 #[ac.eval (.tmp 40), ac.eval (.tmp 41)] wc _
      rw [d41]
      exact (at_any' _ sp _ _ wc d40 HAN.out).mono fun _ _ ⟨he, hw⟩ => ⟨_, he, rfl, hw ▸ Below.refl _ _⟩
    · intro ac wc hC hsz hfr hd
      have d38 : ac.eval (.tmp 38) = (.bool true) := hd 8 rfl
      have d42 : ac.eval (.tmp 42) = (.int .u8 1) := hd 12 rfl
      rw [if_pos (wanted_some rfl (yielded_of rfl d38))]
      exact ob_bin _ rfl rfl rfl (Nat.lt_of_lt_of_eq (by decide : 43 < 128) hsz.symm) rfl d42 rfl (neq_u8 (by decide)) (Below.refl _ _) rfl
    · intro ac wc hC hsz hfr hd
      have d35 : ac.eval (.tmp 35) = (.bool false) := hd 5 rfl
      have d38 : ac.eval (.tmp 38) = (.bool true) := hd 8 rfl
      have d43 : ac.eval (.tmp 43) = (.bool false) := hd 13 rfl
      rw [if_pos (wanted_some rfl (yielded_of rfl d35))]
      exact ob_pick rfl rfl rfl (Nat.lt_of_lt_of_eq (by decide : 44 < 128) hsz.symm) rfl d38 (Below.refl _ _) d43
    · intro ac wc hC hsz hfr hd
      have d35 : ac.eval (.tmp 35) = (.bool false) := hd 5 rfl
      have d44 : ac.eval (.tmp 44) = (.bool false) := hd 14 rfl
      rw [if_pos (wanted_none rfl)]
      exact ob_pick rfl rfl rfl (Nat.lt_of_lt_of_eq (by decide : 45 < 128) hsz.symm) rfl d35 (Below.refl _ _) d44
    · intro ac wc hC hsz hfr hd
      have d45 : ac.eval (.tmp 45) = (.bool false) := hd 15 rfl
      rw [if_pos (wanted_none rfl)]
      exact ob_copy rfl rfl rfl (Nat.lt_of_lt_of_eq (by decide : 46 < 128) hsz.symm) (Or.inl rfl) (Below.refl _ _) d45
    · intro ac wc hC hsz hfr hd
      have d46 : ac.eval (.tmp 46) = (.bool false) := hd 16 rfl
      have d6 : ac.eval (.tmp 6) = (.pointer (some ⟨w6.heap.size, 0, none⟩)) := hfr 6 rfl
      rw [if_pos (wanted_some rfl (yielded_of rfl d46))]
      exact ob_load _ rfl rfl rfl (Nat.lt_of_lt_of_eq (by decide : 47 < 128) hsz.symm) rfl d6 (load_vecrow (K4.out.go hC)) (Below.refl _ _) (U6.out.go hC)
    · intro ac wc hC hsz hfr hd
      have d46 : ac.eval (.tmp 46) = (.bool false) := hd 16 rfl
      have d47 : IsRow wc (ac.eval (.tmp 47)) sp sq := hd 17 rfl
      rw [if_pos (wanted_some rfl (yielded_of rfl d46))]
      refine ob_call rfl rfl rfl (Nat.lt_of_lt_of_eq (by decide : 48 < 128) hsz.symm) rfl (enter_of Try.func19 (by kernel_rfl) rfl) ?_
      show Calls Try.prog 19 #[ac.eval (.tmp 47)] wc _
      exact norm_yes _ sp sq _ _ wc d47 (by omega) (by omega) HNN.out
    · intro ac wc hC hsz hfr hd
      have d46 : ac.eval (.tmp 46) = (.bool false) := hd 16 rfl
      have d6 : ac.eval (.tmp 6) = (.pointer (some ⟨w6.heap.size, 0, none⟩)) := hfr 6 rfl
      rw [if_pos (wanted_some rfl (yielded_of rfl d46))]
      exact ob_load _ rfl rfl rfl (Nat.lt_of_lt_of_eq (by decide : 49 < 128) hsz.symm) rfl d6 (load_vecrow (K4.out.go hC)) (Below.refl _ _) (U6.out.go hC)
    · intro ac wc hC hsz hfr hd
      have d46 : ac.eval (.tmp 46) = (.bool false) := hd 16 rfl
      have d48 : IsRow wc (ac.eval (.tmp 48)) sp sq := hd 18 rfl
      have d49 : IsRow wc (ac.eval (.tmp 49)) sp sq := hd 19 rfl
      rw [if_pos (wanted_some rfl (yielded_of rfl d46))]
      refine ob_call rfl rfl rfl (Nat.lt_of_lt_of_eq (by decide : 50 < 128) hsz.symm) rfl (enter_of Try.func21 (by kernel_rfl) rfl) ?_
      show Calls Try.prog 21 #[ac.eval (.tmp 48), ac.eval (.tmp 49)] wc _
      exact (vecsame_yes _ _ _ _ wc d48 d49).mono fun _ _ ⟨he, hb⟩ => ⟨_, he, rfl, hb⟩
    · intro ac wc hC hsz hfr hd
      have d46 : ac.eval (.tmp 46) = (.bool false) := hd 16 rfl
      have d50 : ac.eval (.tmp 50) = (.bool true) := hd 20 rfl
      rw [if_pos (wanted_some rfl (yielded_of rfl d46))]
      exact ob_not rfl rfl rfl (Nat.lt_of_lt_of_eq (by decide : 51 < 128) hsz.symm) rfl d50 (Below.refl _ _) rfl
    · intro ac wc hC hsz hfr hd
      have d46 : ac.eval (.tmp 46) = (.bool false) := hd 16 rfl
      have d51 : ac.eval (.tmp 51) = (.bool false) := hd 21 rfl
      rw [if_pos (wanted_none rfl)]
      exact ob_pick rfl rfl rfl (Nat.lt_of_lt_of_eq (by decide : 52 < 128) hsz.symm) rfl d46 (Below.refl _ _) d51
  intro a' W8 hC hdef hsz hfr hd
  have e30 : a'.eval (.tmp 30) = (.pointer (some ⟨w6.heap.size, 0, none⟩)) := hd 0 (by decide)
  obtain ⟨x31, e31, r31⟩ : ∃ x, a'.eval (.tmp 31) = x ∧ Bytes W8 (x) sp := ⟨_, rfl, hd 1 (by decide)⟩
  replace r31 := Lib.hid r31
  have e32 : a'.eval (.tmp 32) = (.int .i64 (i : Int)) := hd 2 (by decide)
  have e33 : a'.eval (.tmp 33) = (.int .i64 (i : Int)) := hd 3 (by decide)
  have e34 : a'.eval (.tmp 34) = (.bool false) := hd 4 (by decide)
  have e35 : a'.eval (.tmp 35) = (.bool false) := hd 5 (by decide)
  have e36 : a'.eval (.tmp 36) = (.int .i64 (i : Int)) := hd 6 (by decide)
  have e37 : a'.eval (.tmp 37) = (.bool true) := hd 7 (by decide)
  have e38 : a'.eval (.tmp 38) = (.bool true) := hd 8 (by decide)
  have e39 : a'.eval (.tmp 39) = (.pointer (some ⟨w6.heap.size, 0, none⟩)) := hd 9 (by decide)
  obtain ⟨x40, e40, r40⟩ : ∃ x, a'.eval (.tmp 40) = x ∧ Bytes W8 (x) sp := ⟨_, rfl, hd 10 (by decide)⟩
  replace r40 := Lib.hid r40
  have e41 : a'.eval (.tmp 41) = (.int .i64 (i : Int)) := hd 11 (by decide)
  have e42 : a'.eval (.tmp 42) = (.int .u8 1) := hd 12 (by decide)
  have e43 : a'.eval (.tmp 43) = (.bool false) := hd 13 (by decide)
  have e44 : a'.eval (.tmp 44) = (.bool false) := hd 14 (by decide)
  have e45 : a'.eval (.tmp 45) = (.bool false) := hd 15 (by decide)
  have e46 : a'.eval (.tmp 46) = (.bool false) := hd 16 (by decide)
  obtain ⟨x47, e47, r47⟩ : ∃ x, a'.eval (.tmp 47) = x ∧ IsRow W8 (x) sp sq := ⟨_, rfl, hd 17 (by decide)⟩
  replace r47 := Lib.hid r47
  obtain ⟨x48, e48, r48⟩ : ∃ x, a'.eval (.tmp 48) = x ∧ IsRow W8 (x) sp sq := ⟨_, rfl, hd 18 (by decide)⟩
  replace r48 := Lib.hid r48
  obtain ⟨x49, e49, r49⟩ : ∃ x, a'.eval (.tmp 49) = x ∧ IsRow W8 (x) sp sq := ⟨_, rfl, hd 19 (by decide)⟩
  replace r49 := Lib.hid r49
  have e50 : a'.eval (.tmp 50) = (.bool true) := hd 20 (by decide)
  have e51 : a'.eval (.tmp 51) = (.bool false) := hd 21 (by decide)
  have e52 : a'.eval (.tmp 52) = (.bool false) := hd 22 (by decide)
  have hact := act_puts hdef hsz hfr
  simp only [dstsOf, List.filterMap, putAll, Act.put, List.setIfInBounds_toArray, List.set_cons_succ, List.set_cons_zero, e30, e31, e32, e33, e34, e35, e36, e37, e38, e39, e40, e41, e42, e43, e44, e45, e46, e47, e48, e49, e50, e51, e52] at hact
  clear hd hfr hsz hdef e30 e31 e32 e33 e34 e35 e36 e37 e38 e39 e40 e41 e42 e43 e44 e45 e46 e47 e48 e49 e50 e51 e52
  subst hact
  replace HP' := Lib.hid (HP'.out.go hC)
  replace HQ' := Lib.hid (HQ'.out.go hC)
  replace K1 := Lib.hid (K1.out.go hC)
  replace K2 := Lib.hid (K2.out.go hC)
  replace K3 := Lib.hid (K3.out.go hC)
  replace K4 := Lib.hid (K4.out.go hC)
  replace U4 := Lib.hid (U4.out.go hC)
  replace U6 := Lib.hid (U6.out.go hC)
  replace B := B.trans (hC.mono B.size)
  clear hC
  obtain ⟨k20, k21⟩ := K2.out.two
  have k2l := K2.out.lt
  go_wp2_with fail
  refine (make3_any _ p' q' _ ⟨_, _, rfl, HP'.out, HQ'.out⟩ (by omega) (by omega)).mono ?_
  rintro e w9 ⟨u9, rfl, hu9, hb⟩
  replace K1 := Lib.hid (K1.out.go hb)
  replace K2 := Lib.hid (K2.out.go hb)
  replace K3 := Lib.hid (K3.out.go hb)
  replace K4 := Lib.hid (K4.out.go hb)
  replace U6 := Lib.hid (U6.out.go hb)
  replace B := B.trans (hb.mono B.size)
  have hzw9 := B.size
  clear hb
  have U9 := Lib.hid hu9
  obtain ⟨xq, yq, xq', yq', rfl⟩ := hu9.shape
  clear hu9
  go_wp2_with fail
  obtain ⟨hb, hk, hs⟩ := blocks1 w9 #[.slice xq p'.length yq, .slice xq' q'.length yq'] 35
  generalize w9.alloc (.cells #[.slice xq p'.length yq, .slice xq' q'.length yq'] 35) = W10 at *
  have K5 := Lib.hid hk
  replace K1 := Lib.hid (K1.out.go hb)
  replace K2 := Lib.hid (K2.out.go hb)
  replace K3 := Lib.hid (K3.out.go hb)
  replace K4 := Lib.hid (K4.out.go hb)
  replace U6 := Lib.hid (U6.out.go hb)
  replace U9 := Lib.hid (U9.out.go hb)
  replace B := B.trans (hb.mono B.size)
  have hzW10 := B.size
  clear hb hk hs
  by_cases hle : leadI p' = (i : Int)
  · have HLE := Lib.hid hle
    clear hle
    refine (lead_any' _ p' _ _ U9.out.parts.1 HLE.out).mono ?_
    rintro e w' ⟨rfl, rfl⟩
    go_wp2_with fail
    obtain ⟨c, hc⟩ : ∃ c, c = atI p' (i : Int) := ⟨_, rfl⟩
    have hcl : c < 256 := by rw [hc]; exact atI_lt HPL.out _
    have HC := Lib.hid hc.symm
    clear hc
    by_cases hll : sp.length = p'.length ∧ sq.length = q'.length
    · obtain ⟨hl1, hl2⟩ := hll
      have hip : i < p'.length := by have := HL.out; rw [← hl1, HSL.out]; exact this
      have hlead : lead p' = i := by
        have h := HLE.out
        unfold leadI at h
        split at h <;> omega
      have hcn : c = nth p' i := by
        rw [← HC.out]; unfold atI; rw [if_pos (by omega)]; simp
      have HZ := Lib.hid (less_zero HPL.out hcn hl1 hip HSZ.out HSO.out (fun j hj => lead_zero p' j (by omega)))
      have hLl : (Gf.add (Gf.scale c sp) p').length = p'.length := by rw [Gf.add_length _ _ (by rw [Gf.scale_length]; exact hl1), Gf.scale_length, hl1]
      have hLl' : (Gf.add (Gf.scale c sq) q').length = q'.length := by rw [Gf.add_length _ _ (by rw [Gf.scale_length]; exact hl2), Gf.scale_length, hl2]
      have HB1 := Lib.hid (add_self_back (s := Gf.scale c sp) (x := p') (by rw [Gf.scale_length]; exact hl1))
      have HB2 := Lib.hid (add_self_back (s := Gf.scale c sq) (x := q') (by rw [Gf.scale_length]; exact hl2))
      obtain ⟨L, hL⟩ : ∃ L, Gf.add (Gf.scale c sp) p' = L := ⟨_, rfl⟩
      obtain ⟨L', hL'⟩ : ∃ L', Gf.add (Gf.scale c sq) q' = L' := ⟨_, rfl⟩
      rw [hL] at HZ hLl HB1
      rw [hL'] at hLl' HB2
      have HL1 := Lib.hid hL
      have HL2 := Lib.hid hL'
      have HAT := Lib.hid (show atI L (i : Int) = 0 by
        unfold atI; rw [if_pos (by omega)]; exact HZ.out _ (by simp))
      have hmore := lead_more HZ.out (by omega)
      have HA1 := Lib.hid (show sp.length = p'.length ∧ sq.length = q'.length from ⟨hl1, hl2⟩)
      have HA2 := Lib.hid (show sp.length = L.length ∧ sq.length = L'.length from ⟨by omega, by omega⟩)
      have hLe : L.length ≤ p'.length := by omega
      have hLe' : L'.length ≤ q'.length := by omega
      clear hL hL' hcn hlead hl1 hl2 hLl hLl'
      refine wp_region_mono (C := Cb W10) (R := Rb) (H := Hb W10) [Ty.row 65 p' q', Ty.val 66 (.pointer (some ⟨w9.heap.size, 0, none⟩)), Ty.bytes 67 p', Ty.val 68 (.int .i64 (i : Int)), Ty.val 69 (U8 c), Ty.row 70 sp sq, Ty.rowE 71 L L' 0, Ty.rowE 64 L L' 0, Ty.row 72 L L', Ty.val 73 (.int .i64 0), Ty.box 9 2 35, Ty.rowIn 9 L L' 35, Ty.val 10 (.int .i64 0)] (by kernel_rfl) (hC_b W10) (hCH_b W10) (drew_b W10) (by kernel_rfl) ?_ ?_
      · refine ⟨?_, ?_, ?_, ?_, ?_, ?_, ?_, ?_, ?_, ?_, ?_, ?_, ?_, trivial⟩
        · intro ac wc hC hsz hfr hd
          have d8 : ac.eval (.tmp 8) = (.pointer (some ⟨w9.heap.size, 0, none⟩)) := hfr 8 rfl
          rw [if_pos (wanted_none rfl)]
          exact ob_load _ rfl rfl rfl (Nat.lt_of_lt_of_eq (by decide : 65 < 128) hsz.symm) rfl d8 (load_vecrow (K5.out.go hC)) (Below.refl _ _) (U9.out.go hC)
        · intro ac wc hC hsz hfr hd
          have d8 : ac.eval (.tmp 8) = (.pointer (some ⟨w9.heap.size, 0, none⟩)) := hfr 8 rfl
          rw [if_pos (wanted_none rfl)]
          exact ob_field _ rfl rfl rfl (Nat.lt_of_lt_of_eq (by decide : 66 < 128) hsz.symm) rfl d8 (field_row0 _) (Below.refl _ _) rfl
        · intro ac wc hC hsz hfr hd
          have d66 : ac.eval (.tmp 66) = (.pointer (some ⟨w9.heap.size, 0, none⟩)) := hd 1 rfl
          rw [if_pos (wanted_none rfl)]
          exact ob_load _ rfl rfl rfl (Nat.lt_of_lt_of_eq (by decide : 67 < 128) hsz.symm) rfl d66 (load_vec (K5.out.go hC).two.1) (Below.refl _ _) (U9.out.parts.1.go hC)
        · intro ac wc hC hsz hfr hd
          have d7 : ac.eval (.tmp 7) = (.int .i64 (i : Int)) := hfr 7 rfl
          rw [if_pos (wanted_none rfl)]
          exact ob_copy rfl rfl rfl (Nat.lt_of_lt_of_eq (by decide : 68 < 128) hsz.symm) (Or.inl rfl) (Below.refl _ _) d7
        · intro ac wc hC hsz hfr hd
          have d67 : Bytes wc (ac.eval (.tmp 67)) p' := hd 2 rfl
          have d68 : ac.eval (.tmp 68) = (.int .i64 (i : Int)) := hd 3 rfl
          rw [if_pos (wanted_none rfl)]
          refine ob_call rfl rfl rfl (Nat.lt_of_lt_of_eq (by decide : 69 < 128) hsz.symm) rfl (enter_of Try.func10 (by kernel_rfl) rfl) ?_
          show Calls Try.prog 10 #[ac.eval (.tmp 67), ac.eval (.tmp 68)] wc _
          rw [d68]
          exact (at_any' _ p' _ _ wc d67 HC.out).mono fun _ _ ⟨he, hw⟩ => ⟨_, he, rfl, hw ▸ Below.refl _ _⟩
        · intro ac wc hC hsz hfr hd
          have d6 : ac.eval (.tmp 6) = (.pointer (some ⟨w6.heap.size, 0, none⟩)) := hfr 6 rfl
          rw [if_pos (wanted_none rfl)]
          exact ob_load _ rfl rfl rfl (Nat.lt_of_lt_of_eq (by decide : 70 < 128) hsz.symm) rfl d6 (load_vecrow (K4.out.go hC)) (Below.refl _ _) (U6.out.go hC)
        · intro ac wc hC hsz hfr hd
          have d65 : IsRow wc (ac.eval (.tmp 65)) p' q' := hd 0 rfl
          have d69 : ac.eval (.tmp 69) = (U8 c) := hd 4 rfl
          have d70 : IsRow wc (ac.eval (.tmp 70)) sp sq := hd 5 rfl
          rw [if_pos (wanted_none rfl)]
          refine ob_call rfl rfl rfl (Nat.lt_of_lt_of_eq (by decide : 71 < 128) hsz.symm) rfl (enter_of Try.func14 (by kernel_rfl) rfl) ?_
          show Calls Try.prog 14 #[ac.eval (.tmp 65), ac.eval (.tmp 69), ac.eval (.tmp 70)] wc _
          rw [d69]
          exact (vecless_yes' _ _ c p' q' sp sq L L' wc hcl d65 d70 (by omega) (by omega) HA1.out HL1.out HL2.out).mono fun _ _ ⟨u, he, hu, hb⟩ => ⟨_, he, ⟨u, rfl, hu⟩, hb⟩
        · intro ac wc hC hsz hfr hd
          have d71 : ∃ u, ac.eval (.tmp 71) = .tuple #[u, .int .i64 0] ∧ IsRow wc (u) L L' := hd 6 rfl
          rw [if_pos (wanted_none rfl)]
          exact ob_copy rfl rfl rfl (Nat.lt_of_lt_of_eq (by decide : 64 < 128) hsz.symm) (Or.inl rfl) (Below.refl _ _) d71
        · intro ac wc hC hsz hfr hd
          have d64 : ∃ u, ac.eval (.tmp 64) = .tuple #[u, .int .i64 0] ∧ IsRow wc (u) L L' := hd 7 rfl
          rw [if_pos (wanted_none rfl)]
          obtain ⟨u, eu, hu⟩ := d64
          exact ob_extract _ rfl rfl rfl (Nat.lt_of_lt_of_eq (by decide : 72 < 128) hsz.symm) rfl eu (extract0 _ _) (Below.refl _ _) hu
        · intro ac wc hC hsz hfr hd
          have d64 : ∃ u, ac.eval (.tmp 64) = .tuple #[u, .int .i64 0] ∧ IsRow wc (u) L L' := hd 7 rfl
          rw [if_pos (wanted_none rfl)]
          obtain ⟨u, eu, hu⟩ := d64
          exact ob_extract _ rfl rfl rfl (Nat.lt_of_lt_of_eq (by decide : 73 < 128) hsz.symm) rfl eu (extract1 _ _) (Below.refl _ _) rfl
        · intro ac wc hC hsz hfr hd
          rw [if_pos (wanted_none rfl)]
          refine ob_value (.pointer (some ⟨wc.heap.size, 0, none⟩)) (wc.alloc (.cells #[.slice none 0 0, .slice none 0 0] 35)) rfl rfl rfl (Nat.lt_of_lt_of_eq (by decide : 9 < 128) hsz.symm) ?_ ((Below.refl _ _).alloc (Nat.le_refl _) _) ⟨_, _, rfl, hC.size, Blk.new _ _ _ _ rfl, rfl, noU8_two _ _ (slice_ne _ _ _) (slice_ne _ _ _)⟩
          go_simp
        · intro ac wc hC hsz hfr hd
          have d9 : IsBox W10 wc (ac.eval (.tmp 9)) 2 35 := hd 10 rfl
          have d72 : IsRow wc (ac.eval (.tmp 72)) L L' := hd 8 rfl
          rw [if_pos (wanted_none rfl)]
          show Done _ (Ty.rowIn 9 L L' 35) _ _ _ _
          exact ob_store_vecrow rfl rfl d9 d72
        · intro ac wc hC hsz hfr hd
          have d73 : ac.eval (.tmp 73) = (.int .i64 0) := hd 9 rfl
          rw [if_pos (wanted_none rfl)]
          exact ob_copy rfl rfl rfl (Nat.lt_of_lt_of_eq (by decide : 10 < 128) hsz.symm) (Or.inr rfl) (Below.refl _ _) d73
      intro a' W11 hC hdef hsz hfr hd
      obtain ⟨x65, e65, r65⟩ : ∃ x, a'.eval (.tmp 65) = x ∧ IsRow W11 (x) p' q' := ⟨_, rfl, hd 0 (by decide)⟩
      replace r65 := Lib.hid r65
      have e66 : a'.eval (.tmp 66) = (.pointer (some ⟨w9.heap.size, 0, none⟩)) := hd 1 (by decide)
      obtain ⟨x67, e67, r67⟩ : ∃ x, a'.eval (.tmp 67) = x ∧ Bytes W11 (x) p' := ⟨_, rfl, hd 2 (by decide)⟩
      replace r67 := Lib.hid r67
      have e68 : a'.eval (.tmp 68) = (.int .i64 (i : Int)) := hd 3 (by decide)
      have e69 : a'.eval (.tmp 69) = (U8 c) := hd 4 (by decide)
      obtain ⟨x70, e70, r70⟩ : ∃ x, a'.eval (.tmp 70) = x ∧ IsRow W11 (x) sp sq := ⟨_, rfl, hd 5 (by decide)⟩
      replace r70 := Lib.hid r70
      obtain ⟨x71, e71, r71⟩ : ∃ u, a'.eval (.tmp 71) = .tuple #[u, .int .i64 0] ∧ IsRow W11 (u) L L' := hd 6 (by decide)
      replace r71 := Lib.hid r71
      obtain ⟨x64, e64, r64⟩ : ∃ u, a'.eval (.tmp 64) = .tuple #[u, .int .i64 0] ∧ IsRow W11 (u) L L' := hd 7 (by decide)
      replace r64 := Lib.hid r64
      obtain ⟨x72, e72, r72⟩ : ∃ x, a'.eval (.tmp 72) = x ∧ IsRow W11 (x) L L' := ⟨_, rfl, hd 8 (by decide)⟩
      replace r72 := Lib.hid r72
      have e73 : a'.eval (.tmp 73) = (.int .i64 0) := hd 9 (by decide)
      obtain ⟨g9, x9, y9, z9, u9, e9, hg9, kb9, r9⟩ : RowIn W10 W11 (a'.eval (.tmp 9)) L L' 35 := hd 11 (by decide)
      replace r9 := Lib.hid r9
      replace kb9 := Lib.hid kb9
      have e10 : a'.eval (.tmp 10) = (.int .i64 0) := hd 12 (by decide)
      have hact := act_puts hdef hsz hfr
      simp only [dstsOf, List.filterMap, putAll, Act.put, List.setIfInBounds_toArray, List.set_cons_succ, List.set_cons_zero, e65, e66, e67, e68, e69, e70, e71, e64, e72, e73, e9, e10] at hact
      clear hd hfr hsz hdef e65 e66 e67 e68 e69 e70 e71 e64 e72 e73 e9 e10
      subst hact
      replace K4 := Lib.hid (K4.out.go hC)
      replace K5 := Lib.hid (K5.out.go hC)
      replace U6 := Lib.hid (U6.out.go hC)
      replace U9 := Lib.hid (U9.out.go hC)
      replace B := B.trans (hC.mono B.size)
      clear hC
      go_wp2_with fail
      refine wp_region_mono (C := Cb W11) (R := Rb) (H := Hb W11) [Ty.row 93 L L', Ty.val 94 (.pointer (some ⟨w9.heap.size, 0, none⟩)), Ty.bytes 95 p', Ty.val 96 (.int .i64 (i : Int)), Ty.val 97 (U8 c), Ty.row 98 sp sq, Ty.rowE 99 p' q' 0, Ty.rowE 92 p' q' 0, Ty.row 100 p' q', Ty.val 101 (.int .i64 0), Ty.box 11 2 35, Ty.rowIn 11 p' q' 35, Ty.val 12 (.int .i64 0)] (by kernel_rfl) (hC_b W11) (hCH_b W11) (drew_b W11) (by kernel_rfl) ?_ ?_
      · refine ⟨?_, ?_, ?_, ?_, ?_, ?_, ?_, ?_, ?_, ?_, ?_, ?_, ?_, trivial⟩
        · intro ac wc hC hsz hfr hd
          have d9 : ac.eval (.tmp 9) = (.pointer (some ⟨g9, 0, none⟩)) := hfr 9 rfl
          rw [if_pos (wanted_none rfl)]
          exact ob_load _ rfl rfl rfl (Nat.lt_of_lt_of_eq (by decide : 93 < 128) hsz.symm) rfl d9 (load_vecrow (kb9.out.go hC)) (Below.refl _ _) (r9.out.go hC)
        · intro ac wc hC hsz hfr hd
          have d8 : ac.eval (.tmp 8) = (.pointer (some ⟨w9.heap.size, 0, none⟩)) := hfr 8 rfl
          rw [if_pos (wanted_none rfl)]
          exact ob_field _ rfl rfl rfl (Nat.lt_of_lt_of_eq (by decide : 94 < 128) hsz.symm) rfl d8 (field_row0 _) (Below.refl _ _) rfl
        · intro ac wc hC hsz hfr hd
          have d94 : ac.eval (.tmp 94) = (.pointer (some ⟨w9.heap.size, 0, none⟩)) := hd 1 rfl
          rw [if_pos (wanted_none rfl)]
          exact ob_load _ rfl rfl rfl (Nat.lt_of_lt_of_eq (by decide : 95 < 128) hsz.symm) rfl d94 (load_vec (K5.out.go hC).two.1) (Below.refl _ _) (U9.out.parts.1.go hC)
        · intro ac wc hC hsz hfr hd
          have d7 : ac.eval (.tmp 7) = (.int .i64 (i : Int)) := hfr 7 rfl
          rw [if_pos (wanted_none rfl)]
          exact ob_copy rfl rfl rfl (Nat.lt_of_lt_of_eq (by decide : 96 < 128) hsz.symm) (Or.inl rfl) (Below.refl _ _) d7
        · intro ac wc hC hsz hfr hd
          have d95 : Bytes wc (ac.eval (.tmp 95)) p' := hd 2 rfl
          have d96 : ac.eval (.tmp 96) = (.int .i64 (i : Int)) := hd 3 rfl
          rw [if_pos (wanted_none rfl)]
          refine ob_call rfl rfl rfl (Nat.lt_of_lt_of_eq (by decide : 97 < 128) hsz.symm) rfl (enter_of Try.func10 (by kernel_rfl) rfl) ?_
          show Calls Try.prog 10 #[ac.eval (.tmp 95), ac.eval (.tmp 96)] wc _
          rw [d96]
          exact (at_any' _ p' _ _ wc d95 HC.out).mono fun _ _ ⟨he, hw⟩ => ⟨_, he, rfl, hw ▸ Below.refl _ _⟩
        · intro ac wc hC hsz hfr hd
          have d6 : ac.eval (.tmp 6) = (.pointer (some ⟨w6.heap.size, 0, none⟩)) := hfr 6 rfl
          rw [if_pos (wanted_none rfl)]
          exact ob_load _ rfl rfl rfl (Nat.lt_of_lt_of_eq (by decide : 98 < 128) hsz.symm) rfl d6 (load_vecrow (K4.out.go hC)) (Below.refl _ _) (U6.out.go hC)
        · intro ac wc hC hsz hfr hd
          have d93 : IsRow wc (ac.eval (.tmp 93)) L L' := hd 0 rfl
          have d97 : ac.eval (.tmp 97) = (U8 c) := hd 4 rfl
          have d98 : IsRow wc (ac.eval (.tmp 98)) sp sq := hd 5 rfl
          rw [if_pos (wanted_none rfl)]
          refine ob_call rfl rfl rfl (Nat.lt_of_lt_of_eq (by decide : 99 < 128) hsz.symm) rfl (enter_of Try.func14 (by kernel_rfl) rfl) ?_
          show Calls Try.prog 14 #[ac.eval (.tmp 93), ac.eval (.tmp 97), ac.eval (.tmp 98)] wc _
          rw [d97]
          exact (vecless_yes' _ _ c L L' sp sq p' q' wc hcl d93 d98 (by omega) (by omega) HA2.out HB1.out HB2.out).mono fun _ _ ⟨u, he, hu, hb⟩ => ⟨_, he, ⟨u, rfl, hu⟩, hb⟩
        · intro ac wc hC hsz hfr hd
          have d99 : ∃ u, ac.eval (.tmp 99) = .tuple #[u, .int .i64 0] ∧ IsRow wc (u) p' q' := hd 6 rfl
          rw [if_pos (wanted_none rfl)]
          exact ob_copy rfl rfl rfl (Nat.lt_of_lt_of_eq (by decide : 92 < 128) hsz.symm) (Or.inl rfl) (Below.refl _ _) d99
        · intro ac wc hC hsz hfr hd
          have d92 : ∃ u, ac.eval (.tmp 92) = .tuple #[u, .int .i64 0] ∧ IsRow wc (u) p' q' := hd 7 rfl
          rw [if_pos (wanted_none rfl)]
          obtain ⟨u, eu, hu⟩ := d92
          exact ob_extract _ rfl rfl rfl (Nat.lt_of_lt_of_eq (by decide : 100 < 128) hsz.symm) rfl eu (extract0 _ _) (Below.refl _ _) hu
        · intro ac wc hC hsz hfr hd
          have d92 : ∃ u, ac.eval (.tmp 92) = .tuple #[u, .int .i64 0] ∧ IsRow wc (u) p' q' := hd 7 rfl
          rw [if_pos (wanted_none rfl)]
          obtain ⟨u, eu, hu⟩ := d92
          exact ob_extract _ rfl rfl rfl (Nat.lt_of_lt_of_eq (by decide : 101 < 128) hsz.symm) rfl eu (extract1 _ _) (Below.refl _ _) rfl
        · intro ac wc hC hsz hfr hd
          rw [if_pos (wanted_none rfl)]
          refine ob_value (.pointer (some ⟨wc.heap.size, 0, none⟩)) (wc.alloc (.cells #[.slice none 0 0, .slice none 0 0] 35)) rfl rfl rfl (Nat.lt_of_lt_of_eq (by decide : 11 < 128) hsz.symm) ?_ ((Below.refl _ _).alloc (Nat.le_refl _) _) ⟨_, _, rfl, hC.size, Blk.new _ _ _ _ rfl, rfl, noU8_two _ _ (slice_ne _ _ _) (slice_ne _ _ _)⟩
          go_simp
        · intro ac wc hC hsz hfr hd
          have d11 : IsBox W11 wc (ac.eval (.tmp 11)) 2 35 := hd 10 rfl
          have d100 : IsRow wc (ac.eval (.tmp 100)) p' q' := hd 8 rfl
          rw [if_pos (wanted_none rfl)]
          show Done _ (Ty.rowIn 11 p' q' 35) _ _ _ _
          exact ob_store_vecrow rfl rfl d11 d100
        · intro ac wc hC hsz hfr hd
          have d101 : ac.eval (.tmp 101) = (.int .i64 0) := hd 9 rfl
          rw [if_pos (wanted_none rfl)]
          exact ob_copy rfl rfl rfl (Nat.lt_of_lt_of_eq (by decide : 12 < 128) hsz.symm) (Or.inr rfl) (Below.refl _ _) d101
      intro a' W12 hC hdef hsz hfr hd
      obtain ⟨x93, e93, r93⟩ : ∃ x, a'.eval (.tmp 93) = x ∧ IsRow W12 (x) L L' := ⟨_, rfl, hd 0 (by decide)⟩
      replace r93 := Lib.hid r93
      have e94 : a'.eval (.tmp 94) = (.pointer (some ⟨w9.heap.size, 0, none⟩)) := hd 1 (by decide)
      obtain ⟨x95, e95, r95⟩ : ∃ x, a'.eval (.tmp 95) = x ∧ Bytes W12 (x) p' := ⟨_, rfl, hd 2 (by decide)⟩
      replace r95 := Lib.hid r95
      have e96 : a'.eval (.tmp 96) = (.int .i64 (i : Int)) := hd 3 (by decide)
      have e97 : a'.eval (.tmp 97) = (U8 c) := hd 4 (by decide)
      obtain ⟨x98, e98, r98⟩ : ∃ x, a'.eval (.tmp 98) = x ∧ IsRow W12 (x) sp sq := ⟨_, rfl, hd 5 (by decide)⟩
      replace r98 := Lib.hid r98
      obtain ⟨x99, e99, r99⟩ : ∃ u, a'.eval (.tmp 99) = .tuple #[u, .int .i64 0] ∧ IsRow W12 (u) p' q' := hd 6 (by decide)
      replace r99 := Lib.hid r99
      obtain ⟨x92, e92, r92⟩ : ∃ u, a'.eval (.tmp 92) = .tuple #[u, .int .i64 0] ∧ IsRow W12 (u) p' q' := hd 7 (by decide)
      replace r92 := Lib.hid r92
      obtain ⟨x100, e100, r100⟩ : ∃ x, a'.eval (.tmp 100) = x ∧ IsRow W12 (x) p' q' := ⟨_, rfl, hd 8 (by decide)⟩
      replace r100 := Lib.hid r100
      have e101 : a'.eval (.tmp 101) = (.int .i64 0) := hd 9 (by decide)
      obtain ⟨g11, x11, y11, z11, u11, e11, hg11, kb11, r11⟩ : RowIn W11 W12 (a'.eval (.tmp 11)) p' q' 35 := hd 11 (by decide)
      replace r11 := Lib.hid r11
      replace kb11 := Lib.hid kb11
      have e12 : a'.eval (.tmp 12) = (.int .i64 0) := hd 12 (by decide)
      have hact := act_puts hdef hsz hfr
      simp only [dstsOf, List.filterMap, putAll, Act.put, List.setIfInBounds_toArray, List.set_cons_succ, List.set_cons_zero, e93, e94, e95, e96, e97, e98, e99, e92, e100, e101, e11, e12] at hact
      clear hd hfr hsz hdef e93 e94 e95 e96 e97 e98 e99 e92 e100 e101 e11 e12
      subst hact
      replace K4 := Lib.hid (K4.out.go hC)
      replace K5 := Lib.hid (K5.out.go hC)
      replace U6 := Lib.hid (U6.out.go hC)
      replace U9 := Lib.hid (U9.out.go hC)
      replace kb9 := Lib.hid (kb9.out.go hC)
      replace r9 := Lib.hid (r9.out.go hC)
      replace B := B.trans (hC.mono B.size)
      clear hC
      obtain ⟨k50, k51⟩ := K5.out.two
      have k5l := K5.out.lt
      obtain ⟨kb110, kb111⟩ := kb11.out.two
      have kb11l := kb11.out.lt
      go_wp2_with fail
      refine (vecsame_yes _ _ p' q' _ r11.out U9.out).mono ?_
      rintro e w13 ⟨rfl, hb⟩
      replace kb9 := Lib.hid (kb9.out.go hb)
      replace r9 := Lib.hid (r9.out.go hb)
      replace B := B.trans (hb.mono B.size)
      have hzw13 := B.size
      clear hb
      obtain ⟨kb90, kb91⟩ := kb9.out.two
      have kb9l := kb9.out.lt
      by_cases hlL : lead L < L.length
      · have HLL := Lib.hid (show leadI L = (lead L : Int) from if_pos hlL)
        have hgt : (i : Int) < (lead L : Int) := by omega
        clear hlL
        go_wp2_with fail
        refine (lead_any' _ L _ _ r9.out.parts.1 HLL.out).mono ?_
        rintro e w' ⟨rfl, rfl⟩
        go_wp2_with fail
        refine (at_any' _ L _ _ _ r9.out.parts.1 HAT.out).mono ?_
        rintro e w' ⟨rfl, rfl⟩
        go_wp2_with fail
        go_ret
        exact ⟨rfl, B⟩
      · have HLL := Lib.hid (show leadI L = -1 from if_neg hlL)
        have HZB := Lib.hid (zeroB_lead.2 hlL)
        have hgt : decide ((i : Int) < -1) = false := by simp
        clear hlL
        go_wp2_with fail
        refine (lead_any' _ L _ _ r9.out.parts.1 HLL.out).mono ?_
        rintro e w' ⟨rfl, rfl⟩
        go_wp2_with fail
        refine (vzero_any _ L _ r9.out.parts.1).mono ?_
        rintro e w' ⟨rfl, rfl⟩
        rw [HZB.out]
        go_wp2_with fail
        refine (at_any' _ L _ _ _ r9.out.parts.1 HAT.out).mono ?_
        rintro e w' ⟨rfl, rfl⟩
        go_wp2_with fail
        go_ret
        exact ⟨rfl, B⟩
    · have HLL := Lib.hid hll
      refine wp_region_mono (C := Cb W10) (R := Rb) (H := Hb W10) [Ty.row 65 p' q', Ty.val 66 (.pointer (some ⟨w9.heap.size, 0, none⟩)), Ty.bytes 67 p', Ty.val 68 (.int .i64 (i : Int)), Ty.val 69 (U8 c), Ty.row 70 sp sq, Ty.rowE 71 [] [] 4, Ty.rowE 64 [] [] 4, Ty.row 72 [] [], Ty.val 73 (.int .i64 4), Ty.box 9 2 35, Ty.rowIn 9 [] [] 35, Ty.val 10 (.int .i64 4)] (by kernel_rfl) (hC_b W10) (hCH_b W10) (drew_b W10) (by kernel_rfl) ?_ ?_
      · refine ⟨?_, ?_, ?_, ?_, ?_, ?_, ?_, ?_, ?_, ?_, ?_, ?_, ?_, trivial⟩
        · intro ac wc hC hsz hfr hd
          have d8 : ac.eval (.tmp 8) = (.pointer (some ⟨w9.heap.size, 0, none⟩)) := hfr 8 rfl
          rw [if_pos (wanted_none rfl)]
          exact ob_load _ rfl rfl rfl (Nat.lt_of_lt_of_eq (by decide : 65 < 128) hsz.symm) rfl d8 (load_vecrow (K5.out.go hC)) (Below.refl _ _) (U9.out.go hC)
        · intro ac wc hC hsz hfr hd
          have d8 : ac.eval (.tmp 8) = (.pointer (some ⟨w9.heap.size, 0, none⟩)) := hfr 8 rfl
          rw [if_pos (wanted_none rfl)]
          exact ob_field _ rfl rfl rfl (Nat.lt_of_lt_of_eq (by decide : 66 < 128) hsz.symm) rfl d8 (field_row0 _) (Below.refl _ _) rfl
        · intro ac wc hC hsz hfr hd
          have d66 : ac.eval (.tmp 66) = (.pointer (some ⟨w9.heap.size, 0, none⟩)) := hd 1 rfl
          rw [if_pos (wanted_none rfl)]
          exact ob_load _ rfl rfl rfl (Nat.lt_of_lt_of_eq (by decide : 67 < 128) hsz.symm) rfl d66 (load_vec (K5.out.go hC).two.1) (Below.refl _ _) (U9.out.parts.1.go hC)
        · intro ac wc hC hsz hfr hd
          have d7 : ac.eval (.tmp 7) = (.int .i64 (i : Int)) := hfr 7 rfl
          rw [if_pos (wanted_none rfl)]
          exact ob_copy rfl rfl rfl (Nat.lt_of_lt_of_eq (by decide : 68 < 128) hsz.symm) (Or.inl rfl) (Below.refl _ _) d7
        · intro ac wc hC hsz hfr hd
          have d67 : Bytes wc (ac.eval (.tmp 67)) p' := hd 2 rfl
          have d68 : ac.eval (.tmp 68) = (.int .i64 (i : Int)) := hd 3 rfl
          rw [if_pos (wanted_none rfl)]
          refine ob_call rfl rfl rfl (Nat.lt_of_lt_of_eq (by decide : 69 < 128) hsz.symm) rfl (enter_of Try.func10 (by kernel_rfl) rfl) ?_
          show Calls Try.prog 10 #[ac.eval (.tmp 67), ac.eval (.tmp 68)] wc _
          rw [d68]
          exact (at_any' _ p' _ _ wc d67 HC.out).mono fun _ _ ⟨he, hw⟩ => ⟨_, he, rfl, hw ▸ Below.refl _ _⟩
        · intro ac wc hC hsz hfr hd
          have d6 : ac.eval (.tmp 6) = (.pointer (some ⟨w6.heap.size, 0, none⟩)) := hfr 6 rfl
          rw [if_pos (wanted_none rfl)]
          exact ob_load _ rfl rfl rfl (Nat.lt_of_lt_of_eq (by decide : 70 < 128) hsz.symm) rfl d6 (load_vecrow (K4.out.go hC)) (Below.refl _ _) (U6.out.go hC)
        · intro ac wc hC hsz hfr hd
          have d65 : IsRow wc (ac.eval (.tmp 65)) p' q' := hd 0 rfl
          have d69 : ac.eval (.tmp 69) = (U8 c) := hd 4 rfl
          have d70 : IsRow wc (ac.eval (.tmp 70)) sp sq := hd 5 rfl
          rw [if_pos (wanted_none rfl)]
          refine ob_call rfl rfl rfl (Nat.lt_of_lt_of_eq (by decide : 71 < 128) hsz.symm) rfl (enter_of Try.func14 (by kernel_rfl) rfl) ?_
          show Calls Try.prog 14 #[ac.eval (.tmp 65), ac.eval (.tmp 69), ac.eval (.tmp 70)] wc _
          rw [d69]
          exact (vecless_no' _ _ c p' q' sp sq wc hcl d65 d70 (by omega) (by omega) HLL.out).mono fun _ _ ⟨u, he, hu, hb⟩ => ⟨_, he, ⟨u, rfl, hu⟩, hb⟩
        · intro ac wc hC hsz hfr hd
          have d71 : ∃ u, ac.eval (.tmp 71) = .tuple #[u, .int .i64 4] ∧ IsRow wc (u) [] [] := hd 6 rfl
          rw [if_pos (wanted_none rfl)]
          exact ob_copy rfl rfl rfl (Nat.lt_of_lt_of_eq (by decide : 64 < 128) hsz.symm) (Or.inl rfl) (Below.refl _ _) d71
        · intro ac wc hC hsz hfr hd
          have d64 : ∃ u, ac.eval (.tmp 64) = .tuple #[u, .int .i64 4] ∧ IsRow wc (u) [] [] := hd 7 rfl
          rw [if_pos (wanted_none rfl)]
          obtain ⟨u, eu, hu⟩ := d64
          exact ob_extract _ rfl rfl rfl (Nat.lt_of_lt_of_eq (by decide : 72 < 128) hsz.symm) rfl eu (extract0 _ _) (Below.refl _ _) hu
        · intro ac wc hC hsz hfr hd
          have d64 : ∃ u, ac.eval (.tmp 64) = .tuple #[u, .int .i64 4] ∧ IsRow wc (u) [] [] := hd 7 rfl
          rw [if_pos (wanted_none rfl)]
          obtain ⟨u, eu, hu⟩ := d64
          exact ob_extract _ rfl rfl rfl (Nat.lt_of_lt_of_eq (by decide : 73 < 128) hsz.symm) rfl eu (extract1 _ _) (Below.refl _ _) rfl
        · intro ac wc hC hsz hfr hd
          rw [if_pos (wanted_none rfl)]
          refine ob_value (.pointer (some ⟨wc.heap.size, 0, none⟩)) (wc.alloc (.cells #[.slice none 0 0, .slice none 0 0] 35)) rfl rfl rfl (Nat.lt_of_lt_of_eq (by decide : 9 < 128) hsz.symm) ?_ ((Below.refl _ _).alloc (Nat.le_refl _) _) ⟨_, _, rfl, hC.size, Blk.new _ _ _ _ rfl, rfl, noU8_two _ _ (slice_ne _ _ _) (slice_ne _ _ _)⟩
          go_simp
        · intro ac wc hC hsz hfr hd
          have d9 : IsBox W10 wc (ac.eval (.tmp 9)) 2 35 := hd 10 rfl
          have d72 : IsRow wc (ac.eval (.tmp 72)) [] [] := hd 8 rfl
          rw [if_pos (wanted_none rfl)]
          show Done _ (Ty.rowIn 9 [] [] 35) _ _ _ _
          exact ob_store_vecrow rfl rfl d9 d72
        · intro ac wc hC hsz hfr hd
          have d73 : ac.eval (.tmp 73) = (.int .i64 4) := hd 9 rfl
          rw [if_pos (wanted_none rfl)]
          exact ob_copy rfl rfl rfl (Nat.lt_of_lt_of_eq (by decide : 10 < 128) hsz.symm) (Or.inr rfl) (Below.refl _ _) d73
      intro a' W11 hC hdef hsz hfr hd
      obtain ⟨x65, e65, r65⟩ : ∃ x, a'.eval (.tmp 65) = x ∧ IsRow W11 (x) p' q' := ⟨_, rfl, hd 0 (by decide)⟩
      replace r65 := Lib.hid r65
      have e66 : a'.eval (.tmp 66) = (.pointer (some ⟨w9.heap.size, 0, none⟩)) := hd 1 (by decide)
      obtain ⟨x67, e67, r67⟩ : ∃ x, a'.eval (.tmp 67) = x ∧ Bytes W11 (x) p' := ⟨_, rfl, hd 2 (by decide)⟩
      replace r67 := Lib.hid r67
      have e68 : a'.eval (.tmp 68) = (.int .i64 (i : Int)) := hd 3 (by decide)
      have e69 : a'.eval (.tmp 69) = (U8 c) := hd 4 (by decide)
      obtain ⟨x70, e70, r70⟩ : ∃ x, a'.eval (.tmp 70) = x ∧ IsRow W11 (x) sp sq := ⟨_, rfl, hd 5 (by decide)⟩
      replace r70 := Lib.hid r70
      obtain ⟨x71, e71, r71⟩ : ∃ u, a'.eval (.tmp 71) = .tuple #[u, .int .i64 4] ∧ IsRow W11 (u) [] [] := hd 6 (by decide)
      replace r71 := Lib.hid r71
      obtain ⟨x64, e64, r64⟩ : ∃ u, a'.eval (.tmp 64) = .tuple #[u, .int .i64 4] ∧ IsRow W11 (u) [] [] := hd 7 (by decide)
      replace r64 := Lib.hid r64
      obtain ⟨x72, e72, r72⟩ : ∃ x, a'.eval (.tmp 72) = x ∧ IsRow W11 (x) [] [] := ⟨_, rfl, hd 8 (by decide)⟩
      replace r72 := Lib.hid r72
      have e73 : a'.eval (.tmp 73) = (.int .i64 4) := hd 9 (by decide)
      obtain ⟨g9, x9, y9, z9, u9, e9, hg9, kb9, r9⟩ : RowIn W10 W11 (a'.eval (.tmp 9)) [] [] 35 := hd 11 (by decide)
      replace r9 := Lib.hid r9
      replace kb9 := Lib.hid kb9
      have e10 : a'.eval (.tmp 10) = (.int .i64 4) := hd 12 (by decide)
      have hact := act_puts hdef hsz hfr
      simp only [dstsOf, List.filterMap, putAll, Act.put, List.setIfInBounds_toArray, List.set_cons_succ, List.set_cons_zero, e65, e66, e67, e68, e69, e70, e71, e64, e72, e73, e9, e10] at hact
      clear hd hfr hsz hdef e65 e66 e67 e68 e69 e70 e71 e64 e72 e73 e9 e10
      subst hact
      replace K1 := Lib.hid (K1.out.go hC)
      replace K2 := Lib.hid (K2.out.go hC)
      replace B := B.trans (hC.mono B.size)
      clear hC
      obtain ⟨k10, k11⟩ := K1.out.two
      have k1l := K1.out.lt
      obtain ⟨k20, k21⟩ := K2.out.two
      have k2l := K2.out.lt
      clear hll
      by_cases h1 : p.length = p'.length
      · have b1 : ((p.length : Int) != (p'.length : Int)) = false := by rw [h1]; simp
        have b2 : ((q.length : Int) != (q'.length : Int)) = true := by
          rw [bne_iff_ne]; intro e; exact HLL.out ⟨by rw [HSL.out]; exact h1, by rw [HSQL.out]; omega⟩
        clear h1
        go_wp2_with fail
        go_ret
        exact ⟨rfl, B⟩
      · have b1 : ((p.length : Int) != (p'.length : Int)) = true := by rw [bne_iff_ne]; omega
        clear h1
        go_wp2_with fail
        go_ret
        exact ⟨rfl, B⟩
  · have hbn : (leadI p' != (i : Int)) = true := by rw [bne_iff_ne]; exact hle
    clear hle
    refine (lead_any _ p' _ U9.out.parts.1).mono ?_
    rintro e w' ⟨rfl, rfl⟩
    go_wp2_with fail
    go_ret
    exact ⟨rfl, B⟩

set_option maxHeartbeats 400000 in
theorem vecLeads_out (v0 d0 v1 d1 : Value) (p q p' q' : List Nat) (w : World) (hp : Bytes w v0 p) (hq : Bytes w d0 q) (hp' : Bytes w v1 p') (hq' : Bytes w d1 q') (hf : few3 p q = false ∨ (few3 p q = true ∧ few3 p' q' = false)) :
    Calls Try.prog 5 #[.agg #[v0, d0], .agg #[v1, d1]] w fun e w' => e = .returned (.bool true) ∧ Below w.heap.size w w' := by
  have HP := Lib.hid hp
  have HQ := Lib.hid hq
  have HP' := Lib.hid hp'
  have HQ' := Lib.hid hq'
  obtain ⟨a0, c0, rfl, _⟩ := hp
  obtain ⟨a1, c1, rfl, _⟩ := hq
  obtain ⟨a2, c2, rfl, _⟩ := hp'
  obtain ⟨a3, c3, rfl, _⟩ := hq'
  rcases hf with hf | ⟨hf, hf1⟩
  · have HF0 := Lib.hid hf
    clear hf
    go_enter Try.func5, Try.ntmps5
    go_wp2_with fail
    obtain ⟨B, hk1, hk2, hs⟩ := blocks2 w #[.slice a0 p.length c0, .slice a1 q.length c1] 33 #[.slice a2 p'.length c2, .slice a3 q'.length c3] 33
    generalize ((w.alloc (.cells #[.slice a0 p.length c0, .slice a1 q.length c1] 33)).alloc (.cells #[.slice a2 p'.length c2, .slice a3 q'.length c3] 33)) = W at *
    have K1 := Lib.hid hk1
    have K2 := Lib.hid hk2
    have HS := Lib.hid hs
    clear hs hk1 hk2
    replace HP := Lib.hid (HP.out.go B)
    replace HQ := Lib.hid (HQ.out.go B)
    have hzW := B.size
    refine (awake3_any _).mono ?_
    rintro e w1 ⟨rfl, hb⟩
    replace HP := Lib.hid (HP.out.go hb)
    replace HQ := Lib.hid (HQ.out.go hb)
    replace K1 := Lib.hid (K1.out.go hb)
    replace B := B.trans (hb.mono B.size)
    have hzw1 := B.size
    clear hb
    obtain ⟨k10, k11⟩ := K1.out.two
    have k1l := K1.out.lt
    go_wp2_with fail
    refine (few3_any _ p q _ ⟨_, _, rfl, HP.out, HQ.out⟩).mono ?_
    rintro e w2 ⟨rfl, hb⟩
    replace B := B.trans (hb.mono B.size)
    have hzw2 := B.size
    clear hb
    rw [HF0.out]
    go_wp2_with fail
    go_ret
    exact ⟨rfl, B⟩
  · have HF0 := Lib.hid hf
    have HF1 := Lib.hid hf1
    clear hf hf1
    go_enter Try.func5, Try.ntmps5
    go_wp2_with fail
    obtain ⟨B, hk1, hk2, hs⟩ := blocks2 w #[.slice a0 p.length c0, .slice a1 q.length c1] 33 #[.slice a2 p'.length c2, .slice a3 q'.length c3] 33
    generalize ((w.alloc (.cells #[.slice a0 p.length c0, .slice a1 q.length c1] 33)).alloc (.cells #[.slice a2 p'.length c2, .slice a3 q'.length c3] 33)) = W at *
    have K1 := Lib.hid hk1
    have K2 := Lib.hid hk2
    have HS := Lib.hid hs
    clear hs hk1 hk2
    replace HP := Lib.hid (HP.out.go B)
    replace HQ := Lib.hid (HQ.out.go B)
    replace HP' := Lib.hid (HP'.out.go B)
    replace HQ' := Lib.hid (HQ'.out.go B)
    have hzW := B.size
    refine (awake3_any _).mono ?_
    rintro e w1 ⟨rfl, hb⟩
    replace HP := Lib.hid (HP.out.go hb)
    replace HQ := Lib.hid (HQ.out.go hb)
    replace HP' := Lib.hid (HP'.out.go hb)
    replace HQ' := Lib.hid (HQ'.out.go hb)
    replace K1 := Lib.hid (K1.out.go hb)
    replace K2 := Lib.hid (K2.out.go hb)
    replace B := B.trans (hb.mono B.size)
    have hzw1 := B.size
    clear hb
    obtain ⟨k10, k11⟩ := K1.out.two
    have k1l := K1.out.lt
    obtain ⟨k20, k21⟩ := K2.out.two
    have k2l := K2.out.lt
    go_wp2_with fail
    refine (few3_any _ p q _ ⟨_, _, rfl, HP.out, HQ.out⟩).mono ?_
    rintro e w2 ⟨rfl, hb⟩
    replace HP' := Lib.hid (HP'.out.go hb)
    replace HQ' := Lib.hid (HQ'.out.go hb)
    replace K2 := Lib.hid (K2.out.go hb)
    replace B := B.trans (hb.mono B.size)
    have hzw2 := B.size
    clear hb
    rw [HF0.out]
    obtain ⟨k20, k21⟩ := K2.out.two
    have k2l := K2.out.lt
    go_wp2_with fail
    refine (few3_any _ p' q' _ ⟨_, _, rfl, HP'.out, HQ'.out⟩).mono ?_
    rintro e w3 ⟨rfl, hb⟩
    replace B := B.trans (hb.mono B.size)
    have hzw3 := B.size
    clear hb
    rw [HF1.out]
    go_wp2_with fail
    go_ret
    exact ⟨rfl, B⟩

theorem vecLeads_walk (u0 : Value) (p q : List Nat) (u1 : Value) (p' q' : List Nat) (w : World) (h0 : IsRow w u0 p q) (h1 : IsRow w u1 p' q') :
    Calls Try.prog 5 #[u0, u1] w fun e w' => e = .returned (.bool true) ∧ Below w.heap.size w w' := by
  obtain ⟨v0, d0, rfl, hp, hq⟩ := h0
  obtain ⟨v1, d1, rfl, hp', hq'⟩ := h1
  by_cases hf : few3 p q = true
  · by_cases hf1 : few3 p' q' = true
    · by_cases hl : lead p < p.length
      · exact vecLeads_some v0 d0 v1 d1 p q p' q' w hp hq hp' hq' hf hf1 hl
      · exact vecLeads_none v0 d0 v1 d1 p q p' q' w hp hq hp' hq' hf hf1 hl
    · exact vecLeads_out v0 d0 v1 d1 p q p' q' w hp hq hp' hq' (Or.inr ⟨hf, by simpa using hf1⟩)
  · exact vecLeads_out v0 d0 v1 d1 p q p' q' w hp hq hp' hq' (Or.inl (by simpa using hf))

end Go.Proofs.Ytgjjkiebfekkjaa
