/- Texts of one seat, laid together: VecB. -/
import Derived.Test.YtohfcdgpllghbaaQ7
import Derived.Test.YtohfcdgpllghbaaQ5
import Derived.Deep.QuietTactic
import Derived.BigQuiet

/-
  Rows with a beginning (layer 3) in the program: 'Of', 'Clone', 'Same', 'Norm', 'Less'.
-/
set_option maxRecDepth 100000
namespace Go.Proofs.Ytohfcdgpllghbaa
open Go.RowKit

set_option maxHeartbeats 400000 in
theorem of_any (v d : Value) (p q : List Nat) (w : World) (hp : Bytes w v p) (hq : Bytes w d q) (hlp : p.length ≤ 1000000000) (hlq : q.length ≤ 1000000000) :
    Calls Try.prog 51 #[v, d] w (RowsV w p q) := by
  have HP := Lib.hid hp
  have HQ := Lib.hid hq
  clear hp hq
  go_enter Try.func51, Try.ntmps51
  go_wp2_with fail
  obtain ⟨B, hk1, hs⟩ := blocks1 w #[.slice none 0 0, .slice none 0 0] 61
  generalize (w.alloc (.cells #[.slice none 0 0, .slice none 0 0] 61)) = W at *
  have K1 := Lib.hid hk1
  have HS := Lib.hid hs
  clear hs hk1
  replace HP := Lib.hid (HP.out.go B)
  replace HQ := Lib.hid (HQ.out.go B)
  have hzW := B.size
  refine (clone_any _ _ _ hlp HP.out).mono ?_
  rintro e w1 ⟨v1, rfl, hv1, hb⟩
  replace HQ := Lib.hid (HQ.out.go hb)
  replace K1 := Lib.hid (K1.out.go hb)
  replace B := B.trans (hb.mono B.size)
  have hzw1 := B.size
  clear hb
  have V1 := Lib.hid hv1
  obtain ⟨a1, c1, rfl, _⟩ := hv1
  go_wp2_with fail
  refine (clone_any _ _ _ hlq HQ.out).mono ?_
  rintro e w2 ⟨v2, rfl, hv2, hb⟩
  replace V1 := Lib.hid (V1.out.go hb)
  replace K1 := Lib.hid (K1.out.go hb)
  replace B := B.trans (hb.mono B.size)
  have hzw2 := B.size
  clear hb
  have V2 := Lib.hid hv2
  obtain ⟨a2, c2, rfl, _⟩ := hv2
  obtain ⟨k10, k11⟩ := K1.out.two
  have k1l := K1.out.lt
  obtain ⟨k1f0, k1f1⟩ := K1.out.fre2
  go_wp2_with fail
  obtain ⟨e0, e1, hB, hS⟩ := store2 K1.out (Nat.le_refl _) B (slice_ne _ _ _) (slice_ne _ _ _) (.slice a1 p.length c1) (.slice a2 q.length c2)
  exact bodyPost_ret (v := .agg #[.slice a1 p.length c1, .slice a2 q.length c2]) (by simp [results, Try.results51, go_sem, e0, e1]) rfl
    ⟨_, rfl, ⟨_, _, rfl, hS _ _ V1.out, hS _ _ V2.out⟩, hB⟩

set_option maxHeartbeats 400000 in
theorem rowclone_any (u : Value) (p q : List Nat) (w : World) (hu : IsRow w u p q) (hlp : p.length ≤ 1000000000) (hlq : q.length ≤ 1000000000) :
    Calls Try.prog 65 #[u] w (RowsV w p q) := by
  obtain ⟨v, d, rfl, hp, hq⟩ := hu
  have HP := Lib.hid hp
  have HQ := Lib.hid hq
  clear hp hq
  go_enter Try.func65, Try.ntmps65
  go_wp2_with fail
  obtain ⟨B, hk1, hk2, hs⟩ := blocks2 w #[v, d] 61 #[.slice none 0 0, .slice none 0 0] 61
  generalize ((w.alloc (.cells #[v, d] 61)).alloc (.cells #[.slice none 0 0, .slice none 0 0] 61)) = W at *
  have K1 := Lib.hid hk1
  have K2 := Lib.hid hk2
  have HS := Lib.hid hs
  clear hs hk1 hk2
  replace HP := Lib.hid (HP.out.go B)
  replace HQ := Lib.hid (HQ.out.go B)
  have hzW := B.size
  obtain ⟨k10, k11⟩ := K1.out.two
  have k1l := K1.out.lt
  go_wp2_with fail
  refine (of_any _ _ _ _ _ HP.out HQ.out hlp hlq).mono ?_
  rintro e w1 ⟨v1, rfl, hv1, hb⟩
  replace K2 := Lib.hid (K2.out.go hb)
  replace B := B.trans (hb.mono B.size)
  have hzw1 := B.size
  clear hb
  obtain ⟨y0, y1, rfl, V1, V2⟩ := hv1
  have H1 := Lib.hid V1
  have H2 := Lib.hid V2
  obtain ⟨a1, c1, rfl, _⟩ := V1
  obtain ⟨a2, c2, rfl, _⟩ := V2
  obtain ⟨k20, k21⟩ := K2.out.two
  have k2l := K2.out.lt
  obtain ⟨k2f0, k2f1⟩ := K2.out.fre2
  go_wp2_with fail
  obtain ⟨e0, e1, hB, hS⟩ := store2 K2.out (Nat.le_succ _) B (slice_ne _ _ _) (slice_ne _ _ _) (.slice a1 p.length c1) (.slice a2 q.length c2)
  exact bodyPost_ret (v := .agg #[.slice a1 p.length c1, .slice a2 q.length c2]) (by simp [results, Try.results65, go_sem, e0, e1]) rfl
    ⟨_, rfl, ⟨_, _, rfl, hS _ _ H1.out, hS _ _ H2.out⟩, hB⟩

set_option maxHeartbeats 400000 in
theorem vecsame_any (u0 u1 : Value) (p q p' q' : List Nat) (w : World) (h0 : IsRow w u0 p q) (h1 : IsRow w u1 p' q') :
    Calls Try.prog 52 #[u0, u1] w fun e w' => e = .returned (.bool (decide (p = p') && decide (q = q'))) ∧ Below w.heap.size w w' := by
  obtain ⟨v0, d0, rfl, hp0, hq0⟩ := h0
  obtain ⟨v1, d1, rfl, hp1, hq1⟩ := h1
  obtain ⟨t, ht⟩ : ∃ t, t = (decide (p = p') && decide (q = q')) := ⟨_, rfl⟩
  rw [← ht]
  have HT := Lib.hid ht
  have HP0 := Lib.hid hp0
  have HQ0 := Lib.hid hq0
  have HP1 := Lib.hid hp1
  have HQ1 := Lib.hid hq1
  clear ht hp0 hq0 hp1 hq1
  go_enter Try.func52, Try.ntmps52
  go_wp2_with fail
  obtain ⟨B, hk1, hk2, hs⟩ := blocks2 w #[v0, d0] 61 #[v1, d1] 61
  generalize ((w.alloc (.cells #[v0, d0] 61)).alloc (.cells #[v1, d1] 61)) = W at *
  have K1 := Lib.hid hk1
  have K2 := Lib.hid hk2
  have HS := Lib.hid hs
  clear hs hk1 hk2
  replace HP0 := Lib.hid (HP0.out.go B)
  replace HQ0 := Lib.hid (HQ0.out.go B)
  replace HP1 := Lib.hid (HP1.out.go B)
  replace HQ1 := Lib.hid (HQ1.out.go B)
  have hzW := B.size
  obtain ⟨k10, k11⟩ := K1.out.two
  have k1l := K1.out.lt
  obtain ⟨k20, k21⟩ := K2.out.two
  have k2l := K2.out.lt
  go_wp2_with fail
  refine (equal_any v0 v1 p p' _ HP0.out HP1.out).mono ?_
  rintro e w' ⟨rfl, rfl⟩
  by_cases hpp : p = p'
  · have HE : Hid (t = decide (q = q')) := Lib.hid (by rw [HT.out, decide_eq_true hpp, Bool.true_and])
    have HD := Lib.hid (decide_eq_true hpp)
    rw [HD.out]
    clear hpp
    go_wp2_with fail
    refine (equal_any d0 d1 q q' _ HQ0.out HQ1.out).mono ?_
    rintro e w' ⟨rfl, rfl⟩
    go_wp2_with fail
    go_ret
    exact ⟨by rw [HE.out]; rfl, B⟩
  · have HE : Hid (t = false) := Lib.hid (by rw [HT.out, decide_eq_false hpp, Bool.false_and])
    have HD := Lib.hid (decide_eq_false hpp)
    rw [HD.out]
    clear hpp
    go_wp2_with fail
    go_ret
    exact ⟨by rw [HE.out]; rfl, B⟩

theorem atI_lead {p : List Nat} (h : lead p < p.length) : atI p (leadI p) = nth p (lead p) := by
  unfold leadI atI; rw [if_pos h, if_pos (by omega)]; simp
theorem atI_none {p : List Nat} (h : ¬ lead p < p.length) : atI p (leadI p) = 0 := by
  unfold leadI atI; rw [if_neg h, if_neg (by omega)]

set_option maxHeartbeats 1000000 in
theorem norm_some (v d : Value) (p q : List Nat) (w : World) (hp : Bytes w v p) (hq : Bytes w d q) (hlp : p.length ≤ 10000000) (hlq : q.length ≤ 10000000) (hl : lead p < p.length) :
    Calls Try.prog 69 #[.agg #[v, d]] w (RowsV w (Gf.scale (normC p) p) (Gf.scale (normC p) q)) := by
  have HP := Lib.hid hp
  have HQ := Lib.hid hq
  have HL := Lib.hid (atI_lead hl)
  have HC := Lib.hid (show normC p = Gf.inv (nth p (lead p)) from if_pos hl)
  have HZ := Lib.hid (zeroE_ne (lead_ne p hl))
  have hx := nth_lt hp.lt (lead p)
  have hc := normC_lt p
  obtain ⟨v0, p0, rfl, _⟩ := hp
  obtain ⟨d0, q0, rfl, _⟩ := hq
  clear hl
  go_enter Try.func69, Try.ntmps69
  go_wp2_with fail
  obtain ⟨B, hk1, hk2, hs⟩ := blocks2 w #[.slice v0 p.length p0, .slice d0 q.length q0] 61 #[.slice none 0 0, .slice none 0 0] 61
  generalize ((w.alloc (.cells #[.slice v0 p.length p0, .slice d0 q.length q0] 61)).alloc (.cells #[.slice none 0 0, .slice none 0 0] 61)) = W at *
  have K1 := Lib.hid hk1
  have K2 := Lib.hid hk2
  have HS := Lib.hid hs
  clear hs hk1 hk2
  replace HP := Lib.hid (HP.out.go B)
  replace HQ := Lib.hid (HQ.out.go B)
  have hzW := B.size
  obtain ⟨k10, k11⟩ := K1.out.two
  have k1l := K1.out.lt
  go_quiet ((first | (go_at_call 83; exact quiet_eq (lead_any _ p _ (HP.out.drewN _))) | (go_at_call 87; exact quiet_eq (at_any _ p _ _ (HP.out.drewN _))) | (go_at_call 91; rw [HL.out]; exact quiet_eq (inv_any _ _ hx))))
  rw [HZ.out, ← HC.out]
  go_wp2_with fail
  have hdn := below_drews W nq
  replace HP := Lib.hid (HP.out.go hdn)
  replace HQ := Lib.hid (HQ.out.go hdn)
  replace K1 := Lib.hid (K1.out.go hdn)
  replace K2 := Lib.hid (K2.out.go hdn)
  replace B := B.trans (hdn.mono B.size)
  clear hdn k10 k11
  generalize W.drewN nq = W3 at *
  have D3 : Below W3.heap.size W3 W3.drew := (Below.refl _ _).drew
  replace HP := Lib.hid (HP.out.go D3)
  obtain ⟨hx0, hx1⟩ := K1.out.two
  have tok1 : True := trivial
  go_region_held3 (fun w' => w'.cell? ⟨w.heap.size, 0, none⟩ = some (.slice v0 p.length p0) ∧ w'.cell? ⟨w.heap.size, 1, none⟩ = some (.slice d0 q.length q0))
    (first | go_keep | exact ⟨cell_keep hx0 (by assumption), cell_keep hx1 (by assumption)⟩)
    (first | (go_at_call 78; have _t := tok1; refine (scale_b _ _ p _ hc hlp HP.out).mono ?_; rintro e w3 ⟨v3, rfl, hv3, hb3'⟩; have hb3 : Below W3.heap.size W3 w3 := D3.trans hb3'; have V3 := Lib.hid hv3; obtain ⟨a3, c3, rfl, _⟩ := hv3; clear tok1 _t) | (go_at_call 78; refine (scale_b _ _ q _ hc hlq (HQ.out.go hb3)).mono ?_; rintro e w4 ⟨v4, rfl, hv4, hb4'⟩; have hb4 : Below W3.heap.size W3 w4 := hb3.trans (hb4'.mono hb3.size); have V4 := Lib.hid hv4; replace V3 := Lib.hid (V3.out.go hb4'); obtain ⟨a4, c4, rfl, _⟩ := hv4; have hr := (K2.out.go hb4).two; have hf := (K2.out.go hb4).fre2; obtain ⟨hr0, hr1⟩ := hr; obtain ⟨hf0, hf1⟩ := hf))
  go_wp2_with fail
  obtain ⟨e0, e1, hB, hS⟩ := store2 (K2.out.go hb4) (Nat.le_succ _) (B.trans (hb4.mono B.size)) (slice_ne _ _ _) (slice_ne _ _ _) (.slice a3 (Gf.scale (normC p) p).length c3) (.slice a4 (Gf.scale (normC p) q).length c4)
  exact bodyPost_ret (v := .agg #[.slice a3 (Gf.scale (normC p) p).length c3, .slice a4 (Gf.scale (normC p) q).length c4]) (by simp [results, Try.results69, go_sem, e0, e1]) rfl
    ⟨_, rfl, ⟨_, _, rfl, hS _ _ V3.out, hS _ _ V4.out⟩, hB⟩

set_option maxHeartbeats 1000000 in
theorem norm_none (v d : Value) (p q : List Nat) (w : World) (hp : Bytes w v p) (hq : Bytes w d q) (hlp : p.length ≤ 10000000) (hlq : q.length ≤ 10000000) (hl : ¬ lead p < p.length) :
    Calls Try.prog 69 #[.agg #[v, d]] w (RowsV w p q) := by
  have HP := Lib.hid hp
  have HQ := Lib.hid hq
  have HL := Lib.hid (atI_none hl)
  have HZ := Lib.hid zeroE_zero
  obtain ⟨v0, p0, rfl, _⟩ := hp
  obtain ⟨d0, q0, rfl, _⟩ := hq
  clear hl
  go_enter Try.func69, Try.ntmps69
  go_wp2_with fail
  obtain ⟨B, hk1, hk2, hs⟩ := blocks2 w #[.slice v0 p.length p0, .slice d0 q.length q0] 61 #[.slice none 0 0, .slice none 0 0] 61
  generalize ((w.alloc (.cells #[.slice v0 p.length p0, .slice d0 q.length q0] 61)).alloc (.cells #[.slice none 0 0, .slice none 0 0] 61)) = W at *
  have K1 := Lib.hid hk1
  have K2 := Lib.hid hk2
  have HS := Lib.hid hs
  clear hs hk1 hk2
  replace HP := Lib.hid (HP.out.go B)
  replace HQ := Lib.hid (HQ.out.go B)
  have hzW := B.size
  obtain ⟨k10, k11⟩ := K1.out.two
  have k1l := K1.out.lt
  go_quiet ((first | (go_at_call 83; exact quiet_eq (lead_any _ p _ (HP.out.drewN _))) | (go_at_call 87; exact quiet_eq (at_any _ p _ _ (HP.out.drewN _))) | (go_at_call 91; rw [HL.out]; exact quiet_eq (inv_any _ _ (by decide)))))
  rw [HZ.out]
  go_wp2_with fail
  have hdn := below_drews W nq
  replace HP := Lib.hid (HP.out.go hdn)
  replace HQ := Lib.hid (HQ.out.go hdn)
  replace K1 := Lib.hid (K1.out.go hdn)
  replace K2 := Lib.hid (K2.out.go hdn)
  replace B := B.trans (hdn.mono B.size)
  clear hdn k10 k11
  generalize W.drewN nq = W3 at *
  refine (rowclone_any _ p q _ ⟨_, _, rfl, HP.out, HQ.out⟩ (by omega) (by omega)).mono ?_
  rintro e w4 ⟨u4, rfl, hu4, hb⟩
  replace K2 := Lib.hid (K2.out.go hb)
  replace B := B.trans (hb.mono B.size)
  have hzw4 := B.size
  clear hb
  obtain ⟨y0, y1, rfl, V1, V2⟩ := hu4
  have H1 := Lib.hid V1
  have H2 := Lib.hid V2
  obtain ⟨a1, c1, rfl, _⟩ := V1
  obtain ⟨a2, c2, rfl, _⟩ := V2
  obtain ⟨k20, k21⟩ := K2.out.two
  have k2l := K2.out.lt
  obtain ⟨k2f0, k2f1⟩ := K2.out.fre2
  go_wp2_with fail
  obtain ⟨e0, e1, hB, hS⟩ := store2 K2.out (Nat.le_succ _) B (slice_ne _ _ _) (slice_ne _ _ _) (.slice a1 p.length c1) (.slice a2 q.length c2)
  exact bodyPost_ret (v := .agg #[.slice a1 p.length c1, .slice a2 q.length c2]) (by simp [results, Try.results69, go_sem, e0, e1]) rfl
    ⟨_, rfl, ⟨_, _, rfl, hS _ _ H1.out, hS _ _ H2.out⟩, hB⟩

theorem norm_any (u : Value) (p q : List Nat) (w : World) (hu : IsRow w u p q) (hlp : p.length ≤ 10000000) (hlq : q.length ≤ 10000000) :
    Calls Try.prog 69 #[u] w (RowsV w (Gf.scale (normC p) p) (Gf.scale (normC p) q)) := by
  obtain ⟨v, d, rfl, hp, hq⟩ := hu
  by_cases hl : lead p < p.length
  · exact norm_some v d p q w hp hq hlp hlq hl
  · have h1 : normC p = 1 := if_neg hl
    rw [h1, scale_one hp.lt, scale_one hq.lt]
    exact norm_none v d p q w hp hq hlp hlq hl

set_option maxHeartbeats 1000000 in
theorem vecless_no (a0 a1 a2 a3 : Option Addr) (n0 n1 n2 n3 c0 c1 c2 c3 : Nat) (c : Nat) (w : World) (h : n0 ≠ n2 ∨ (n0 = n2 ∧ n1 ≠ n3)) :
    Calls Try.prog 88 #[.agg #[.slice a0 n0 c0, .slice a1 n1 c1], U8 c, .agg #[.slice a2 n2 c2, .slice a3 n3 c3]] w (RowsE w [] [] 4) := by
  rcases h with h | ⟨rfl, h⟩
  · have hb : ((n0 : Int) != (n2 : Int)) = true := by rw [bne_iff_ne]; omega
    clear h
    go_enter Try.func88, Try.ntmps88
    go_wp2_with fail
    obtain ⟨B, hk1, hk2, hk3, hs⟩ := blocks3 w #[.slice a0 n0 c0, .slice a1 n1 c1] 61 #[.slice a2 n2 c2, .slice a3 n3 c3] 61 #[.slice none 0 0, .slice none 0 0] 61
    generalize (((w.alloc (.cells #[.slice a0 n0 c0, .slice a1 n1 c1] 61)).alloc (.cells #[.slice a2 n2 c2, .slice a3 n3 c3] 61)).alloc (.cells #[.slice none 0 0, .slice none 0 0] 61)) = W at *
    have K1 := Lib.hid hk1
    have K2 := Lib.hid hk2
    have K3 := Lib.hid hk3
    have HS := Lib.hid hs
    clear hs hk1 hk2 hk3
    have hzW := B.size
    obtain ⟨k10, k11⟩ := K1.out.two
    have k1l := K1.out.lt
    obtain ⟨k20, k21⟩ := K2.out.two
    have k2l := K2.out.lt
    obtain ⟨k30, k31⟩ := K3.out.two
    have k3l := K3.out.lt
    obtain ⟨k3f0, k3f1⟩ := K3.out.fre2
    go_wp2_with fail
    exact bodyPost_ret (v := .tuple #[.agg #[.slice none 0 0, .slice none 0 0], I64 4]) (by simp [results, Try.results88, go_sem, k30, k31]) rfl
      ⟨_, rfl, ⟨_, _, rfl, Bytes.nil _, Bytes.nil _⟩, B⟩
  · have hb : ((n1 : Int) != (n3 : Int)) = true := by rw [bne_iff_ne]; omega
    have hb0 : ((n0 : Int) != (n0 : Int)) = false := by simp
    clear h
    go_enter Try.func88, Try.ntmps88
    go_wp2_with fail
    obtain ⟨B, hk1, hk2, hk3, hs⟩ := blocks3 w #[.slice a0 n0 c0, .slice a1 n1 c1] 61 #[.slice a2 n0 c2, .slice a3 n3 c3] 61 #[.slice none 0 0, .slice none 0 0] 61
    generalize (((w.alloc (.cells #[.slice a0 n0 c0, .slice a1 n1 c1] 61)).alloc (.cells #[.slice a2 n0 c2, .slice a3 n3 c3] 61)).alloc (.cells #[.slice none 0 0, .slice none 0 0] 61)) = W at *
    have K1 := Lib.hid hk1
    have K2 := Lib.hid hk2
    have K3 := Lib.hid hk3
    have HS := Lib.hid hs
    clear hs hk1 hk2 hk3
    have hzW := B.size
    obtain ⟨k10, k11⟩ := K1.out.two
    have k1l := K1.out.lt
    obtain ⟨k20, k21⟩ := K2.out.two
    have k2l := K2.out.lt
    obtain ⟨k30, k31⟩ := K3.out.two
    have k3l := K3.out.lt
    obtain ⟨k3f0, k3f1⟩ := K3.out.fre2
    go_wp2_with fail
    exact bodyPost_ret (v := .tuple #[.agg #[.slice none 0 0, .slice none 0 0], I64 4]) (by simp [results, Try.results88, go_sem, k30, k31]) rfl
      ⟨_, rfl, ⟨_, _, rfl, Bytes.nil _, Bytes.nil _⟩, B⟩

set_option maxHeartbeats 1000000 in
theorem vecless_yes (a0 a1 a2 a3 : Option Addr) (c0 c1 c2 c3 : Nat) (c : Nat) (p q p' q' : List Nat) (w : World) (hc : c < 256) (hp : Bytes w (.slice a0 p.length c0) p) (hq : Bytes w (.slice a1 q.length c1) q) (hp' : Bytes w (.slice a2 p'.length c2) p') (hq' : Bytes w (.slice a3 q'.length c3) q')
    (hlp : p'.length ≤ 10000000) (hlq : q'.length ≤ 10000000) (h1 : p'.length = p.length) (h2 : q'.length = q.length) :
    Calls Try.prog 88 #[.agg #[.slice a0 p.length c0, .slice a1 q.length c1], U8 c, .agg #[.slice a2 p'.length c2, .slice a3 q'.length c3]] w (RowsE w (Gf.add (Gf.scale c p') p) (Gf.add (Gf.scale c q') q) 0) := by
  have HP := Lib.hid hp
  have HQ := Lib.hid hq
  have HP' := Lib.hid hp'
  have HQ' := Lib.hid hq'
  have b0 : ((p.length : Int) != (p'.length : Int)) = false := by rw [h1]; simp
  have b1 : ((q.length : Int) != (q'.length : Int)) = false := by rw [h2]; simp
  have L1 := Lib.hid (show axpyL c p' p = Gf.add (Gf.scale c p') p from if_pos h1)
  have L2 := Lib.hid (show axpyL c q' q = Gf.add (Gf.scale c q') q from if_pos h2)
  have E1 := Lib.hid (show axpyE p' p = 0 from if_pos h1)
  have E2 := Lib.hid (show axpyE q' q = 0 from if_pos h2)
  clear hp hq hp' hq' h1 h2
  go_enter Try.func88, Try.ntmps88
  go_wp2_with fail
  obtain ⟨B, hk1, hk2, hk3, hs⟩ := blocks3 w #[.slice a0 p.length c0, .slice a1 q.length c1] 61 #[.slice a2 p'.length c2, .slice a3 q'.length c3] 61 #[.slice none 0 0, .slice none 0 0] 61
  generalize (((w.alloc (.cells #[.slice a0 p.length c0, .slice a1 q.length c1] 61)).alloc (.cells #[.slice a2 p'.length c2, .slice a3 q'.length c3] 61)).alloc (.cells #[.slice none 0 0, .slice none 0 0] 61)) = W at *
  have K1 := Lib.hid hk1
  have K2 := Lib.hid hk2
  have K3 := Lib.hid hk3
  have HS := Lib.hid hs
  clear hs hk1 hk2 hk3
  replace HP := Lib.hid (HP.out.go B)
  replace HQ := Lib.hid (HQ.out.go B)
  replace HP' := Lib.hid (HP'.out.go B)
  replace HQ' := Lib.hid (HQ'.out.go B)
  have hzW := B.size
  obtain ⟨k10, k11⟩ := K1.out.two
  have k1l := K1.out.lt
  obtain ⟨k20, k21⟩ := K2.out.two
  have k2l := K2.out.lt
  go_wp2_with fail
  refine (axpy_b _ _ _ p' p _ hc hlp HP'.out HP.out).mono ?_
  rintro e w1 ⟨v1, rfl, hv1, hb⟩
  replace HQ := Lib.hid (HQ.out.go hb)
  replace HQ' := Lib.hid (HQ'.out.go hb)
  replace K1 := Lib.hid (K1.out.go hb)
  replace K2 := Lib.hid (K2.out.go hb)
  replace K3 := Lib.hid (K3.out.go hb)
  replace B := B.trans (hb.mono B.size)
  have hzw1 := B.size
  clear hb
  rw [E1.out]
  rw [L1.out] at hv1
  have V1 := Lib.hid hv1
  obtain ⟨x1, y1, rfl, _⟩ := hv1
  obtain ⟨k10, k11⟩ := K1.out.two
  have k1l := K1.out.lt
  obtain ⟨k20, k21⟩ := K2.out.two
  have k2l := K2.out.lt
  go_wp2_with fail
  refine (axpy_b _ _ _ q' q _ hc hlq HQ'.out HQ.out).mono ?_
  rintro e w2 ⟨v2, rfl, hv2, hb⟩
  replace V1 := Lib.hid (V1.out.go hb)
  replace K3 := Lib.hid (K3.out.go hb)
  replace B := B.trans (hb.mono B.size)
  have hzw2 := B.size
  clear hb
  rw [E2.out]
  rw [L2.out] at hv2
  have V2 := Lib.hid hv2
  obtain ⟨x2, y2, rfl, _⟩ := hv2
  obtain ⟨k30, k31⟩ := K3.out.two
  have k3l := K3.out.lt
  obtain ⟨k3f0, k3f1⟩ := K3.out.fre2
  go_wp2_with fail
  obtain ⟨e0, e1, hB, hS⟩ := store2 K3.out (by omega) B (slice_ne _ _ _) (slice_ne _ _ _) (.slice x1 (Gf.add (Gf.scale c p') p).length y1) (.slice x2 (Gf.add (Gf.scale c q') q).length y2)
  exact bodyPost_ret (v := .tuple #[.agg #[.slice x1 (Gf.add (Gf.scale c p') p).length y1, .slice x2 (Gf.add (Gf.scale c q') q).length y2], I64 0]) (by simp [results, Try.results88, go_sem, e0, e1]) rfl
    ⟨_, rfl, ⟨_, _, rfl, hS _ _ V1.out, hS _ _ V2.out⟩, hB⟩

theorem vecless_any (u0 u1 : Value) (c : Nat) (p q p' q' : List Nat) (w : World) (hc : c < 256) (h0 : IsRow w u0 p q) (h1 : IsRow w u1 p' q') (hlp : p'.length ≤ 10000000) (hlq : q'.length ≤ 10000000) :
    Calls Try.prog 88 #[u0, U8 c, u1] w (RowsE w (lessV c p q p' q') (lessD c p q p' q') (lessE p q p' q')) := by
  obtain ⟨v0, d0, rfl, hp0, hq0⟩ := h0
  obtain ⟨v1, d1, rfl, hp1, hq1⟩ := h1
  have g0 := hp0
  have g1 := hq0
  have g2 := hp1
  have g3 := hq1
  obtain ⟨a0, c0, rfl, _⟩ := hp0
  obtain ⟨a1, c1, rfl, _⟩ := hq0
  obtain ⟨a2, c2, rfl, _⟩ := hp1
  obtain ⟨a3, c3, rfl, _⟩ := hq1
  unfold lessV lessD lessE
  by_cases h : p'.length = p.length ∧ q'.length = q.length
  · rw [if_pos h, if_pos h, if_pos h]
    exact vecless_yes a0 a1 a2 a3 c0 c1 c2 c3 c p q p' q' w hc g0 g1 g2 g3 hlp hlq h.1 h.2
  · rw [if_neg h, if_neg h, if_neg h]
    exact vecless_no a0 a1 a2 a3 _ _ _ _ c0 c1 c2 c3 c w (by omega)

end Go.Proofs.Ytohfcdgpllghbaa
