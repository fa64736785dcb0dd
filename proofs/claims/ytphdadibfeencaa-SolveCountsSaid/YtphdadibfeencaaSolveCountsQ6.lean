/- Texts of one seat, laid together: VecB, VecMath, RefElim, La, LaB, LaC, RefElimD. -/
import Derived.Test.YtphdadibfeencaaSolveCountsQ5
import Derived.Test.YtphdadibfeencaaSolveCountsQ3
import Derived.Deep.QuietTactic
import Derived.BigQuiet
import Derived.Test.YtphdadibfeencaaSolveCountsQ4
import Derived.Test.YtphdadibfeencaaSolveCountsQ1

/-
  Rows with a beginning (layer 3) in the program: 'Of', 'Clone', 'Same', 'Norm', 'Less'.
-/
set_option maxRecDepth 100000
namespace Go.Proofs.Ytphdadibfeencaa
open Go.RowKit

set_option maxHeartbeats 400000 in
theorem of_any (v d : Value) (p q : List Nat) (w : World) (hp : Bytes w v p) (hq : Bytes w d q) (hlp : p.length ≤ 1000000000) (hlq : q.length ≤ 1000000000) :
    Calls Try.prog 14 #[v, d] w (RowsV w p q) := by
  have HP := Lib.hid hp
  have HQ := Lib.hid hq
  clear hp hq
  go_enter Try.func14, Try.ntmps14
  go_wp2_with fail
  obtain ⟨B, hk1, hs⟩ := blocks1 w #[.slice none 0 0, .slice none 0 0] 52
  generalize (w.alloc (.cells #[.slice none 0 0, .slice none 0 0] 52)) = W at *
  have K1 := Lib.hid hk1
  have HS := Lib.hid hs
  clear hs hk1
  replace HP := Lib.hid (HP.out.go B)
  replace HQ := Lib.hid (HQ.out.go B)
  have hzW := B.size
  refine (clone_any _ _ _ hlp HP.out).mono ?_
  rintro e w1 ⟨v1, rfl, hv1, hb⟩
  replace HQ := Lib.hid (HQ.out.go hb)
  replace K1 := Lib.hid (K1.out.go hb)
  replace B := B.trans (hb.mono B.size)
  have hzw1 := B.size
  clear hb
  have V1 := Lib.hid hv1
  obtain ⟨a1, c1, rfl, _⟩ := hv1
  go_wp2_with fail
  refine (clone_any _ _ _ hlq HQ.out).mono ?_
  rintro e w2 ⟨v2, rfl, hv2, hb⟩
  replace V1 := Lib.hid (V1.out.go hb)
  replace K1 := Lib.hid (K1.out.go hb)
  replace B := B.trans (hb.mono B.size)
  have hzw2 := B.size
  clear hb
  have V2 := Lib.hid hv2
  obtain ⟨a2, c2, rfl, _⟩ := hv2
  obtain ⟨k10, k11⟩ := K1.out.two
  have k1l := K1.out.lt
  obtain ⟨k1f0, k1f1⟩ := K1.out.fre2
  go_wp2_with fail
  obtain ⟨e0, e1, hB, hS⟩ := store2 K1.out (Nat.le_refl _) B (slice_ne _ _ _) (slice_ne _ _ _) (.slice a1 p.length c1) (.slice a2 q.length c2)
  exact bodyPost_ret (v := .agg #[.slice a1 p.length c1, .slice a2 q.length c2]) (by simp [results, Try.results14, go_sem, e0, e1]) rfl
    ⟨_, rfl, ⟨_, _, rfl, hS _ _ V1.out, hS _ _ V2.out⟩, hB⟩

set_option maxHeartbeats 400000 in
theorem rowclone_any (u : Value) (p q : List Nat) (w : World) (hu : IsRow w u p q) (hlp : p.length ≤ 1000000000) (hlq : q.length ≤ 1000000000) :
    Calls Try.prog 61 #[u] w (RowsV w p q) := by
  obtain ⟨v, d, rfl, hp, hq⟩ := hu
  have HP := Lib.hid hp
  have HQ := Lib.hid hq
  clear hp hq
  go_enter Try.func61, Try.ntmps61
  go_wp2_with fail
  obtain ⟨B, hk1, hk2, hs⟩ := blocks2 w #[v, d] 52 #[.slice none 0 0, .slice none 0 0] 52
  generalize ((w.alloc (.cells #[v, d] 52)).alloc (.cells #[.slice none 0 0, .slice none 0 0] 52)) = W at *
  have K1 := Lib.hid hk1
  have K2 := Lib.hid hk2
  have HS := Lib.hid hs
  clear hs hk1 hk2
  replace HP := Lib.hid (HP.out.go B)
  replace HQ := Lib.hid (HQ.out.go B)
  have hzW := B.size
  obtain ⟨k10, k11⟩ := K1.out.two
  have k1l := K1.out.lt
  go_wp2_with fail
  refine (of_any _ _ _ _ _ HP.out HQ.out hlp hlq).mono ?_
  rintro e w1 ⟨v1, rfl, hv1, hb⟩
  replace K2 := Lib.hid (K2.out.go hb)
  replace B := B.trans (hb.mono B.size)
  have hzw1 := B.size
  clear hb
  obtain ⟨y0, y1, rfl, V1, V2⟩ := hv1
  have H1 := Lib.hid V1
  have H2 := Lib.hid V2
  obtain ⟨a1, c1, rfl, _⟩ := V1
  obtain ⟨a2, c2, rfl, _⟩ := V2
  obtain ⟨k20, k21⟩ := K2.out.two
  have k2l := K2.out.lt
  obtain ⟨k2f0, k2f1⟩ := K2.out.fre2
  go_wp2_with fail
  obtain ⟨e0, e1, hB, hS⟩ := store2 K2.out (Nat.le_succ _) B (slice_ne _ _ _) (slice_ne _ _ _) (.slice a1 p.length c1) (.slice a2 q.length c2)
  exact bodyPost_ret (v := .agg #[.slice a1 p.length c1, .slice a2 q.length c2]) (by simp [results, Try.results61, go_sem, e0, e1]) rfl
    ⟨_, rfl, ⟨_, _, rfl, hS _ _ H1.out, hS _ _ H2.out⟩, hB⟩

theorem atI_lead {p : List Nat} (h : lead p < p.length) : atI p (leadI p) = nth p (lead p) := by
  unfold leadI atI; rw [if_pos h, if_pos (by omega)]; simp
theorem atI_none {p : List Nat} (h : ¬ lead p < p.length) : atI p (leadI p) = 0 := by
  unfold leadI atI; rw [if_neg h, if_neg (by omega)]

set_option maxHeartbeats 1000000 in
theorem norm_some (v d : Value) (p q : List Nat) (w : World) (hp : Bytes w v p) (hq : Bytes w d q) (hlp : p.length ≤ 10000000) (hlq : q.length ≤ 10000000) (hl : lead p < p.length) :
    Calls Try.prog 49 #[.agg #[v, d]] w (RowsV w (Gf.scale (normC p) p) (Gf.scale (normC p) q)) := by
  have HP := Lib.hid hp
  have HQ := Lib.hid hq
  have HL := Lib.hid (atI_lead hl)
  have HC := Lib.hid (show normC p = Gf.inv (nth p (lead p)) from if_pos hl)
  have HZ := Lib.hid (zeroE_ne (lead_ne p hl))
  have hx := nth_lt hp.lt (lead p)
  have hc := normC_lt p
  obtain ⟨v0, p0, rfl, _⟩ := hp
  obtain ⟨d0, q0, rfl, _⟩ := hq
  clear hl
  go_enter Try.func49, Try.ntmps49
  go_wp2_with fail
  obtain ⟨B, hk1, hk2, hs⟩ := blocks2 w #[.slice v0 p.length p0, .slice d0 q.length q0] 52 #[.slice none 0 0, .slice none 0 0] 52
  generalize ((w.alloc (.cells #[.slice v0 p.length p0, .slice d0 q.length q0] 52)).alloc (.cells #[.slice none 0 0, .slice none 0 0] 52)) = W at *
  have K1 := Lib.hid hk1
  have K2 := Lib.hid hk2
  have HS := Lib.hid hs
  clear hs hk1 hk2
  replace HP := Lib.hid (HP.out.go B)
  replace HQ := Lib.hid (HQ.out.go B)
  have hzW := B.size
  obtain ⟨k10, k11⟩ := K1.out.two
  have k1l := K1.out.lt
  go_quiet ((first | (go_at_call 64; exact quiet_eq (lead_any _ p _ (HP.out.drewN _))) | (go_at_call 68; exact quiet_eq (at_any _ p _ _ (HP.out.drewN _))) | (go_at_call 67; rw [HL.out]; exact quiet_eq (inv_any _ _ hx))))
  rw [HZ.out, ← HC.out]
  go_wp2_with fail
  have hdn := below_drews W nq
  replace HP := Lib.hid (HP.out.go hdn)
  replace HQ := Lib.hid (HQ.out.go hdn)
  replace K1 := Lib.hid (K1.out.go hdn)
  replace K2 := Lib.hid (K2.out.go hdn)
  replace B := B.trans (hdn.mono B.size)
  clear hdn k10 k11
  generalize W.drewN nq = W3 at *
  have D3 : Below W3.heap.size W3 W3.drew := (Below.refl _ _).drew
  replace HP := Lib.hid (HP.out.go D3)
  obtain ⟨hx0, hx1⟩ := K1.out.two
  have tok1 : True := trivial
  go_region_held3 (fun w' => w'.cell? ⟨w.heap.size, 0, none⟩ = some (.slice v0 p.length p0) ∧ w'.cell? ⟨w.heap.size, 1, none⟩ = some (.slice d0 q.length q0))
    (first | go_keep | exact ⟨cell_keep hx0 (by assumption), cell_keep hx1 (by assumption)⟩)
    (first | (go_at_call 37; have _t := tok1; refine (scale_b _ _ p _ hc hlp HP.out).mono ?_; rintro e w3 ⟨v3, rfl, hv3, hb3'⟩; have hb3 : Below W3.heap.size W3 w3 := D3.trans hb3'; have V3 := Lib.hid hv3; obtain ⟨a3, c3, rfl, _⟩ := hv3; clear tok1 _t) | (go_at_call 37; refine (scale_b _ _ q _ hc hlq (HQ.out.go hb3)).mono ?_; rintro e w4 ⟨v4, rfl, hv4, hb4'⟩; have hb4 : Below W3.heap.size W3 w4 := hb3.trans (hb4'.mono hb3.size); have V4 := Lib.hid hv4; replace V3 := Lib.hid (V3.out.go hb4'); obtain ⟨a4, c4, rfl, _⟩ := hv4; have hr := (K2.out.go hb4).two; have hf := (K2.out.go hb4).fre2; obtain ⟨hr0, hr1⟩ := hr; obtain ⟨hf0, hf1⟩ := hf))
  go_wp2_with fail
  obtain ⟨e0, e1, hB, hS⟩ := store2 (K2.out.go hb4) (Nat.le_succ _) (B.trans (hb4.mono B.size)) (slice_ne _ _ _) (slice_ne _ _ _) (.slice a3 (Gf.scale (normC p) p).length c3) (.slice a4 (Gf.scale (normC p) q).length c4)
  exact bodyPost_ret (v := .agg #[.slice a3 (Gf.scale (normC p) p).length c3, .slice a4 (Gf.scale (normC p) q).length c4]) (by simp [results, Try.results49, go_sem, e0, e1]) rfl
    ⟨_, rfl, ⟨_, _, rfl, hS _ _ V3.out, hS _ _ V4.out⟩, hB⟩

set_option maxHeartbeats 1000000 in
theorem norm_none (v d : Value) (p q : List Nat) (w : World) (hp : Bytes w v p) (hq : Bytes w d q) (hlp : p.length ≤ 10000000) (hlq : q.length ≤ 10000000) (hl : ¬ lead p < p.length) :
    Calls Try.prog 49 #[.agg #[v, d]] w (RowsV w p q) := by
  have HP := Lib.hid hp
  have HQ := Lib.hid hq
  have HL := Lib.hid (atI_none hl)
  have HZ := Lib.hid zeroE_zero
  obtain ⟨v0, p0, rfl, _⟩ := hp
  obtain ⟨d0, q0, rfl, _⟩ := hq
  clear hl
  go_enter Try.func49, Try.ntmps49
  go_wp2_with fail
  obtain ⟨B, hk1, hk2, hs⟩ := blocks2 w #[.slice v0 p.length p0, .slice d0 q.length q0] 52 #[.slice none 0 0, .slice none 0 0] 52
  generalize ((w.alloc (.cells #[.slice v0 p.length p0, .slice d0 q.length q0] 52)).alloc (.cells #[.slice none 0 0, .slice none 0 0] 52)) = W at *
  have K1 := Lib.hid hk1
  have K2 := Lib.hid hk2
  have HS := Lib.hid hs
  clear hs hk1 hk2
  replace HP := Lib.hid (HP.out.go B)
  replace HQ := Lib.hid (HQ.out.go B)
  have hzW := B.size
  obtain ⟨k10, k11⟩ := K1.out.two
  have k1l := K1.out.lt
  go_quiet ((first | (go_at_call 64; exact quiet_eq (lead_any _ p _ (HP.out.drewN _))) | (go_at_call 68; exact quiet_eq (at_any _ p _ _ (HP.out.drewN _))) | (go_at_call 67; rw [HL.out]; exact quiet_eq (inv_any _ _ (by decide)))))
  rw [HZ.out]
  go_wp2_with fail
  have hdn := below_drews W nq
  replace HP := Lib.hid (HP.out.go hdn)
  replace HQ := Lib.hid (HQ.out.go hdn)
  replace K1 := Lib.hid (K1.out.go hdn)
  replace K2 := Lib.hid (K2.out.go hdn)
  replace B := B.trans (hdn.mono B.size)
  clear hdn k10 k11
  generalize W.drewN nq = W3 at *
  refine (rowclone_any _ p q _ ⟨_, _, rfl, HP.out, HQ.out⟩ (by omega) (by omega)).mono ?_
  rintro e w4 ⟨u4, rfl, hu4, hb⟩
  replace K2 := Lib.hid (K2.out.go hb)
  replace B := B.trans (hb.mono B.size)
  have hzw4 := B.size
  clear hb
  obtain ⟨y0, y1, rfl, V1, V2⟩ := hu4
  have H1 := Lib.hid V1
  have H2 := Lib.hid V2
  obtain ⟨a1, c1, rfl, _⟩ := V1
  obtain ⟨a2, c2, rfl, _⟩ := V2
  obtain ⟨k20, k21⟩ := K2.out.two
  have k2l := K2.out.lt
  obtain ⟨k2f0, k2f1⟩ := K2.out.fre2
  go_wp2_with fail
  obtain ⟨e0, e1, hB, hS⟩ := store2 K2.out (Nat.le_succ _) B (slice_ne _ _ _) (slice_ne _ _ _) (.slice a1 p.length c1) (.slice a2 q.length c2)
  exact bodyPost_ret (v := .agg #[.slice a1 p.length c1, .slice a2 q.length c2]) (by simp [results, Try.results49, go_sem, e0, e1]) rfl
    ⟨_, rfl, ⟨_, _, rfl, hS _ _ H1.out, hS _ _ H2.out⟩, hB⟩

theorem norm_any (u : Value) (p q : List Nat) (w : World) (hu : IsRow w u p q) (hlp : p.length ≤ 10000000) (hlq : q.length ≤ 10000000) :
    Calls Try.prog 49 #[u] w (RowsV w (Gf.scale (normC p) p) (Gf.scale (normC p) q)) := by
  obtain ⟨v, d, rfl, hp, hq⟩ := hu
  by_cases hl : lead p < p.length
  · exact norm_some v d p q w hp hq hlp hlq hl
  · have h1 : normC p = 1 := if_neg hl
    rw [h1, scale_one hp.lt, scale_one hq.lt]
    exact norm_none v d p q w hp hq hlp hlq hl

set_option maxHeartbeats 1000000 in
theorem vecless_yes (a0 a1 a2 a3 : Option Addr) (c0 c1 c2 c3 : Nat) (c : Nat) (p q p' q' : List Nat) (w : World) (hc : c < 256) (hp : Bytes w (.slice a0 p.length c0) p) (hq : Bytes w (.slice a1 q.length c1) q) (hp' : Bytes w (.slice a2 p'.length c2) p') (hq' : Bytes w (.slice a3 q'.length c3) q')
    (hlp : p'.length ≤ 10000000) (hlq : q'.length ≤ 10000000) (h1 : p'.length = p.length) (h2 : q'.length = q.length) :
    Calls Try.prog 75 #[.agg #[.slice a0 p.length c0, .slice a1 q.length c1], U8 c, .agg #[.slice a2 p'.length c2, .slice a3 q'.length c3]] w (RowsE w (Gf.add (Gf.scale c p') p) (Gf.add (Gf.scale c q') q) 0) := by
  have HP := Lib.hid hp
  have HQ := Lib.hid hq
  have HP' := Lib.hid hp'
  have HQ' := Lib.hid hq'
  have b0 : ((p.length : Int) != (p'.length : Int)) = false := by rw [h1]; simp
  have b1 : ((q.length : Int) != (q'.length : Int)) = false := by rw [h2]; simp
  have L1 := Lib.hid (show axpyL c p' p = Gf.add (Gf.scale c p') p from if_pos h1)
  have L2 := Lib.hid (show axpyL c q' q = Gf.add (Gf.scale c q') q from if_pos h2)
  have E1 := Lib.hid (show axpyE p' p = 0 from if_pos h1)
  have E2 := Lib.hid (show axpyE q' q = 0 from if_pos h2)
  clear hp hq hp' hq' h1 h2
  go_enter Try.func75, Try.ntmps75
  go_wp2_with fail
  obtain ⟨B, hk1, hk2, hk3, hs⟩ := blocks3 w #[.slice a0 p.length c0, .slice a1 q.length c1] 52 #[.slice a2 p'.length c2, .slice a3 q'.length c3] 52 #[.slice none 0 0, .slice none 0 0] 52
  generalize (((w.alloc (.cells #[.slice a0 p.length c0, .slice a1 q.length c1] 52)).alloc (.cells #[.slice a2 p'.length c2, .slice a3 q'.length c3] 52)).alloc (.cells #[.slice none 0 0, .slice none 0 0] 52)) = W at *
  have K1 := Lib.hid hk1
  have K2 := Lib.hid hk2
  have K3 := Lib.hid hk3
  have HS := Lib.hid hs
  clear hs hk1 hk2 hk3
  replace HP := Lib.hid (HP.out.go B)
  replace HQ := Lib.hid (HQ.out.go B)
  replace HP' := Lib.hid (HP'.out.go B)
  replace HQ' := Lib.hid (HQ'.out.go B)
  have hzW := B.size
  obtain ⟨k10, k11⟩ := K1.out.two
  have k1l := K1.out.lt
  obtain ⟨k20, k21⟩ := K2.out.two
  have k2l := K2.out.lt
  go_wp2_with fail
  refine (axpy_b _ _ _ p' p _ hc hlp HP'.out HP.out).mono ?_
  rintro e w1 ⟨v1, rfl, hv1, hb⟩
  replace HQ := Lib.hid (HQ.out.go hb)
  replace HQ' := Lib.hid (HQ'.out.go hb)
  replace K1 := Lib.hid (K1.out.go hb)
  replace K2 := Lib.hid (K2.out.go hb)
  replace K3 := Lib.hid (K3.out.go hb)
  replace B := B.trans (hb.mono B.size)
  have hzw1 := B.size
  clear hb
  rw [E1.out]
  rw [L1.out] at hv1
  have V1 := Lib.hid hv1
  obtain ⟨x1, y1, rfl, _⟩ := hv1
  obtain ⟨k10, k11⟩ := K1.out.two
  have k1l := K1.out.lt
  obtain ⟨k20, k21⟩ := K2.out.two
  have k2l := K2.out.lt
  go_wp2_with fail
  refine (axpy_b _ _ _ q' q _ hc hlq HQ'.out HQ.out).mono ?_
  rintro e w2 ⟨v2, rfl, hv2, hb⟩
  replace V1 := Lib.hid (V1.out.go hb)
  replace K3 := Lib.hid (K3.out.go hb)
  replace B := B.trans (hb.mono B.size)
  have hzw2 := B.size
  clear hb
  rw [E2.out]
  rw [L2.out] at hv2
  have V2 := Lib.hid hv2
  obtain ⟨x2, y2, rfl, _⟩ := hv2
  obtain ⟨k30, k31⟩ := K3.out.two
  have k3l := K3.out.lt
  obtain ⟨k3f0, k3f1⟩ := K3.out.fre2
  go_wp2_with fail
  obtain ⟨e0, e1, hB, hS⟩ := store2 K3.out (by omega) B (slice_ne _ _ _) (slice_ne _ _ _) (.slice x1 (Gf.add (Gf.scale c p') p).length y1) (.slice x2 (Gf.add (Gf.scale c q') q).length y2)
  exact bodyPost_ret (v := .tuple #[.agg #[.slice x1 (Gf.add (Gf.scale c p') p).length y1, .slice x2 (Gf.add (Gf.scale c q') q).length y2], I64 0]) (by simp [results, Try.results75, go_sem, e0, e1]) rfl
    ⟨_, rfl, ⟨_, _, rfl, hS _ _ V1.out, hS _ _ V2.out⟩, hB⟩

end Go.Proofs.Ytphdadibfeencaa

/-
  Rows that lead (layer 3), in plain lists.
-/
set_option maxRecDepth 100000
namespace Go.Proofs.Ytphdadibfeencaa
open Go.RowKit

theorem lead_scale {c : Nat} {p : List Nat} (hc : c < 256) (h0 : c ≠ 0) (hp : ∀ x, x ∈ p → x < 256) : lead (Gf.scale c p) = lead p := by
  by_cases hl : lead p < p.length
  · refine lead_eq (fun j hj => ?_) (by rw [Gf.scale_length]; exact hl) ?_
    · rw [nth_scale c p j (by omega), lead_zero p j hj, Gf.mul_zero]
    · rw [nth_scale c p _ hl]
      exact Gf.mul_ne hc (nth_lt hp _) h0 (lead_ne p hl)
  · have e : lead p = p.length := by have := lead_le p; omega
    rw [e, ← Gf.scale_length c p]
    refine lead_none fun j hj => ?_
    rw [Gf.scale_length] at hj
    rw [nth_scale c p j hj, lead_zero p j (by omega), Gf.mul_zero]

theorem normC_ne {p : List Nat} : normC p ≠ 0 := by
  unfold normC
  split
  · rename_i h; exact Gf.inv_ne (lead_ne p h)
  · decide

theorem norm_at {p : List Nat} (hp : ∀ x, x ∈ p → x < 256) (hl : lead p < p.length) : nth (Gf.scale (normC p) p) (lead p) = 1 := by
  rw [nth_scale _ p _ hl]
  unfold normC
  rw [if_pos hl, Gf.inv_mul (nth_lt hp _) (lead_ne p hl)]

theorem zeroB_lead {l : List Nat} : zeroB l = true ↔ ¬ lead l < l.length := by
  have h := zeroB_eq l
  constructor
  · intro hz hl
    rw [hz] at h
    have := of_decide_eq_false h.symm
    exact this ⟨_, hl, lead_ne l hl⟩
  · intro hl
    have e : decide (∃ i, i < l.length ∧ nth l i ≠ 0) = false := by
      rw [decide_eq_false_iff_not]
      rintro ⟨i, hi, hne⟩
      exact hne (lead_zero l i (by omega))
    rw [e] at h
    simpa using h

end Go.Proofs.Ytphdadibfeencaa

/-
  The document's answer for equations (wellspringref08), in the program: 'Rows'.
-/
set_option maxRecDepth 100000
namespace Go.Proofs.Ytphdadibfeencaa
open Go.RowKit

namespace Ro
/-- A step keeps where the rows lead: the row cleared leads where it did. -/
theorem step_lead {k t : Nat} {x r : Rw} (hx : Dim k t x) (hr : Dim k t r) (hlx : lead x.1 < x.1.length) (hne : lead x.1 ≠ lead r.1) : lead (step x r).1 = lead x.1 := by
  obtain ⟨_, e⟩ := less_dim (nth_lt hx.2.2.1 (lead r.1)) hx hr
  have e1 : (step x r).1 = Gf.add (Gf.scale (nth x.1 (lead r.1)) r.1) x.1 := by unfold step; rw [e]
  have hl : r.1.length = x.1.length := by rw [hr.1, hx.1]
  have hn : ∀ j, j < x.1.length → nth (step x r).1 j = Gf.mul (nth x.1 (lead r.1)) (nth r.1 j) ^^^ nth x.1 j := fun j hj => by
    rw [e1, nth_add _ _ _ (by rw [Gf.scale_length]; omega) hj, nth_scale _ _ _ (by omega)]
  apply lead_eq
  · intro j hj
    rw [hn j (by omega), lead_zero x.1 j hj, Nat.xor_zero]
    by_cases hlt : lead r.1 < lead x.1
    · rw [lead_zero x.1 _ hlt, Gf.zero_mul]
    · rw [lead_zero r.1 j (by omega), Gf.mul_zero]
  · rw [show (step x r).1.length = x.1.length by rw [(step_dim hx hr).1, hx.1]]; exact hlx
  · rw [hn _ hlx]
    by_cases hlt : lead r.1 < lead x.1
    · rw [lead_zero x.1 _ hlt, Gf.zero_mul, Nat.zero_xor]; exact lead_ne x.1 hlx
    · rw [lead_zero r.1 (lead x.1) (by omega), Gf.mul_zero, Nat.zero_xor]; exact lead_ne x.1 hlx
/-- Rows of k and t bytes that lead, no two at one place. -/
structure Fine (k t : Nat) (E : List Rw) : Prop where
  dims : Dims k t E
  leads : Leads E
  apart : ∀ i j, i < E.length → j < E.length → i ≠ j → lead (rwAt E i).1 ≠ lead (rwAt E j).1
/-! ### Rows put in, one by one: they rise, and lead with a 1 -/

/-- By rising places; each leads with a 1. -/
structure Up (k t : Nat) (L : List Rw) : Prop where
  dims : Dims k t L
  leads : Leads L
  rise : L.Pairwise fun a b => lead a.1 < lead b.1
  one : ∀ r ∈ L, nth r.1 (lead r.1) = 1

theorem Up.nil (k t : Nat) : Up k t [] := ⟨fun r h => (by cases h), fun r h => (by cases h), List.Pairwise.nil, fun r h => (by cases h)⟩
theorem step_nth {k t : Nat} {x r : Rw} (hx : Dim k t x) (hr : Dim k t r) {j : Nat} (hj : j < k) : nth (step x r).1 j = Gf.mul (nth x.1 (lead r.1)) (nth r.1 j) ^^^ nth x.1 j := by
  obtain ⟨_, e⟩ := less_dim (nth_lt hx.2.2.1 (lead r.1)) hx hr
  have e1 : (step x r).1 = Gf.add (Gf.scale (nth x.1 (lead r.1)) r.1) x.1 := by unfold step; rw [e]
  rw [e1, nth_add _ _ _ (by rw [Gf.scale_length, hr.1]; exact hj) (by rw [hx.1]; exact hj), nth_scale _ _ _ (by rw [hr.1]; exact hj)]
/-- What is left has a 0 wherever one of the rows leads. -/
theorem rest_zero {k t : Nat} {L : List Rw} (h : Up k t L) {x : Rw} (hx : Dim k t x) : ∀ n, n ≤ L.length → ∀ i, i < n → nth (rest (L.take n) x).1 (lead (rwAt L i).1) = 0
  | 0, _, i, hi => by omega
  | n + 1, hn, i, hi => by
    have hlt : n < L.length := by omega
    have hd := rest_dim (h.dims.take n) hx
    have hdn := h.dims.at hlt
    have hln : lead (rwAt L i).1 < k := by rw [← (h.dims.at (show i < L.length by omega)).1]; exact h.leads.at (by omega)
    rw [rest_take_succ L x n hlt, step_nth hd hdn hln]
    by_cases e : i = n
    · subst e
      rw [h.one _ (rwAt_mem hlt), Gf.mul_one (nth_lt hd.2.2.1 _), Nat.xor_self]
    · have hlt2 : lead (rwAt L i).1 < lead (rwAt L n).1 := by
        have := List.pairwise_iff_getElem.1 h.rise i n (by omega) hlt (by omega)
        rwa [← rwAt_eq L i (by omega), ← rwAt_eq L n hlt] at this
      rw [lead_zero _ _ hlt2, Gf.mul_zero, Nat.zero_xor]
      exact rest_zero h hx n (by omega) i (by omega)
theorem take_ahead (L : List Rw) (y : Rw) : L.take (ahead L y) = L.takeWhile (fun r => decide (lead r.1 < lead y.1)) ∧ L.drop (ahead L y) = L.dropWhile (fun r => decide (lead r.1 < lead y.1)) := by
  unfold ahead
  induction L with
  | nil => exact ⟨rfl, rfl⟩
  | cons r L ih =>
    by_cases h : lead r.1 < lead y.1
    · rw [List.takeWhile_cons_of_pos (by simpa using h), List.dropWhile_cons_of_pos (by simpa using h), List.length_cons, List.take_succ_cons, List.drop_succ_cons, ih.1, ih.2]
      exact ⟨rfl, rfl⟩
    · rw [List.takeWhile_cons_of_neg (by simpa using h), List.dropWhile_cons_of_neg (by simpa using h)]
      exact ⟨rfl, rfl⟩
theorem takeWhile_lt {L : List Rw} {y r : Rw} (h : r ∈ L.takeWhile (fun r => decide (lead r.1 < lead y.1))) : lead r.1 < lead y.1 := by
  induction L with
  | nil => simp at h
  | cons a L ih =>
    by_cases ha : lead a.1 < lead y.1
    · rw [List.takeWhile_cons_of_pos (by simpa using ha), List.mem_cons] at h
      rcases h with rfl | h
      · exact ha
      · exact ih h
    · rw [List.takeWhile_cons_of_neg (by simpa using ha)] at h; cases h
theorem dropWhile_ge {L : List Rw} (hr : L.Pairwise fun a b => lead a.1 < lead b.1) {y r : Rw} (h : r ∈ L.dropWhile (fun r => decide (lead r.1 < lead y.1))) : lead y.1 ≤ lead r.1 := by
  induction L with
  | nil => simp at h
  | cons a L ih =>
    rw [List.pairwise_cons] at hr
    by_cases ha : lead a.1 < lead y.1
    · rw [List.dropWhile_cons_of_pos (by simpa using ha)] at h
      exact ih hr.2 h
    · rw [List.dropWhile_cons_of_neg (by simpa using ha), List.mem_cons] at h
      rcases h with rfl | h
      · omega
      · have := hr.1 r h; omega
theorem put_up {k t : Nat} {L : List Rw} (h : Up k t L) {y : Rw} (hy : Dim k t y) (hl : lead y.1 < y.1.length) (h1 : nth y.1 (lead y.1) = 1) (hne : ∀ r ∈ L, lead r.1 ≠ lead y.1) : Up k t (put L y) := by
  have hm : ∀ r, r ∈ put L y → r ∈ L ∨ r = y := fun r hr => by
    unfold put at hr
    rw [List.mem_append, List.mem_cons] at hr
    rcases hr with hr | rfl | hr
    · exact .inl (List.mem_of_mem_take hr)
    · exact .inr rfl
    · exact .inl (List.mem_of_mem_drop hr)
  refine ⟨fun r hr => ?_, fun r hr => ?_, ?_, fun r hr => ?_⟩
  · rcases hm r hr with h2 | rfl
    · exact h.dims r h2
    · exact hy
  · rcases hm r hr with h2 | rfl
    · exact h.leads r h2
    · exact hl
  · unfold put
    obtain ⟨e1, e2⟩ := take_ahead L y
    have hsplit := h.rise
    rw [← List.take_append_drop (ahead L y) L, List.pairwise_append] at hsplit
    rw [List.pairwise_append, List.pairwise_cons]
    refine ⟨hsplit.1, ⟨fun z hz => ?_, hsplit.2.1⟩, fun a ha b hb => ?_⟩
    · have h3 := dropWhile_ge h.rise (e2 ▸ hz)
      have h4 := hne z (List.mem_of_mem_drop hz)
      omega
    · rcases List.mem_cons.1 hb with rfl | hb
      · exact takeWhile_lt (e1 ▸ ha)
      · exact hsplit.2.2 a ha b hb
  · rcases hm r hr with h2 | rfl
    · exact h.one r h2
    · exact h1
theorem norm_lead {k t : Nat} {x : Rw} (hx : Dim k t x) : lead (norm x).1 = lead x.1 := lead_scale (normC_lt _) normC_ne hx.2.2.1
theorem Up.fine {k t : Nat} {L : List Rw} (h : Up k t L) : Fine k t L := ⟨h.dims, h.leads, fun i j hi hj hij => by
  rcases Nat.lt_or_gt_of_ne hij with hlt | hlt
  · have := List.pairwise_iff_getElem.1 h.rise i j hi hj hlt
    rw [← rwAt_eq L i hi, ← rwAt_eq L j hj] at this; omega
  · have := List.pairwise_iff_getElem.1 h.rise j i hj hi hlt
    rw [← rwAt_eq L i hi, ← rwAt_eq L j hj] at this; omega⟩
end Ro

end Go.Proofs.Ytphdadibfeencaa

/-
  Linear algebra over bytes (layers 7 to 9), first part: the field as a type, sums, vectors, spans, where they lead, ranks. No program in this text.
-/
set_option maxRecDepth 100000
namespace Go.Proofs.Ytphdadibfeencaa
namespace La

/-- A byte, as an element of the field. -/
structure B where
  val : Nat
  lt : val < 256

theorem B.ext {a b : B} (h : a.val = b.val) : a = b := by
  cases a; cases b; cases h; rfl

instance : OfNat B 0 := ⟨⟨0, by decide⟩⟩
instance : OfNat B 1 := ⟨⟨1, by decide⟩⟩
instance : Add B := ⟨fun a b => ⟨a.val ^^^ b.val, Gf.xor_lt a.lt b.lt⟩⟩
instance : Mul B := ⟨fun a b => ⟨Gf.mul a.val b.val, Gf.mul_lt a.lt b.val⟩⟩
instance : DecidableEq B := fun a b => if h : a.val = b.val then isTrue (B.ext h) else isFalse (fun e => h (by rw [e]))

/-- The inverse, and 0 of 0. -/
def iv (a : B) : B := ⟨Gf.inv a.val, Gf.inv_lt a.val⟩

theorem val_add (a b : B) : (a + b).val = a.val ^^^ b.val := rfl
theorem val_mul (a b : B) : (a * b).val = Gf.mul a.val b.val := rfl
theorem ne_val {a : B} (h : a ≠ 0) : a.val ≠ 0 := fun e => h (B.ext e)

theorem badd_comm (a b : B) : a + b = b + a := B.ext (Nat.xor_comm _ _)
theorem badd_assoc (a b c : B) : a + b + c = a + (b + c) := B.ext (Nat.xor_assoc _ _ _)
theorem badd_zero (a : B) : a + 0 = a := B.ext (Nat.xor_zero _)
theorem bzero_add (a : B) : 0 + a = a := B.ext (Nat.zero_xor _)
theorem badd_self (a : B) : a + a = 0 := B.ext (Nat.xor_self _)
theorem bmul_comm (a b : B) : a * b = b * a := B.ext (Gf.mul_comm a.lt b.lt)
theorem bmul_assoc (a b c : B) : a * b * c = a * (b * c) := B.ext (Gf.mul_assoc a.lt b.lt c.val)
theorem bmul_zero (a : B) : a * 0 = 0 := B.ext (Gf.mul_zero _)
theorem bzero_mul (a : B) : 0 * a = 0 := B.ext (Gf.zero_mul _)
theorem bone_mul (a : B) : 1 * a = a := B.ext (Gf.one_mul a.lt)
theorem bmul_add (a b c : B) : a * (b + c) = a * b + a * c := B.ext (Gf.mul_xor_right _ _ _)
theorem badd_mul (a b c : B) : (a + b) * c = a * c + b * c := B.ext (Gf.mul_xor_left a.lt b.lt _)
theorem iv_mul {a : B} (h : a ≠ 0) : iv a * a = 1 := B.ext (Gf.inv_mul a.lt (ne_val h))
theorem bmul_ne {a b : B} (h : a ≠ 0) (k : b ≠ 0) : a * b ≠ 0 := fun e => by
  have h1 : iv a * (a * b) = 0 := by rw [e, bmul_zero]
  rw [← bmul_assoc, iv_mul h, bone_mul] at h1
  exact k h1

instance : Std.Associative (α := B) (· + ·) := ⟨badd_assoc⟩
instance : Std.Commutative (α := B) (· + ·) := ⟨badd_comm⟩
instance : Std.Associative (α := B) (· * ·) := ⟨bmul_assoc⟩
instance : Std.Commutative (α := B) (· * ·) := ⟨bmul_comm⟩

theorem badd_cancel (a b : B) : a + (a + b) = b := by rw [← badd_assoc, badd_self, bzero_add]
/-! ### Sums -/

/-- The sum of the first n. -/
def sm (f : Nat → B) : Nat → B
  | 0 => 0
  | n + 1 => sm f n + f n

theorem sm_congr {f g : Nat → B} : ∀ {n : Nat}, (∀ i, i < n → f i = g i) → sm f n = sm g n
  | 0, _ => rfl
  | n + 1, h => by
    show sm f n + f n = sm g n + g n
    rw [sm_congr fun i hi => h i (by omega), h n (by omega)]
theorem sm_zero {f : Nat → B} {n : Nat} (h : ∀ i, i < n → f i = 0) : sm f n = 0 := by
  induction n with
  | zero => rfl
  | succ n ih => show sm f n + f n = 0; rw [ih fun i hi => h i (by omega), h n (by omega), badd_zero]
theorem sm_add (f g : Nat → B) : ∀ n : Nat, sm (fun i => f i + g i) n = sm f n + sm g n
  | 0 => (badd_zero 0).symm
  | n + 1 => by
    show sm (fun i => f i + g i) n + (f n + g n) = (sm f n + f n) + (sm g n + g n)
    rw [sm_add f g n]; ac_rfl
theorem sm_mul (c : B) (f : Nat → B) : ∀ n : Nat, sm (fun i => c * f i) n = c * sm f n
  | 0 => (bmul_zero c).symm
  | n + 1 => by
    show sm (fun i => c * f i) n + c * f n = c * (sm f n + f n)
    rw [sm_mul c f n, bmul_add]
/-- A sum of which only one isn't 0. -/
theorem sm_one {f : Nat → B} {n k : Nat} (hk : k < n) (h : ∀ i, i < n → i ≠ k → f i = 0) : sm f n = f k := by
  induction n with
  | zero => omega
  | succ n ih =>
    show sm f n + f n = f k
    by_cases e : k = n
    · subst e
      rw [sm_zero fun i hi => h i (by omega) (by omega), bzero_add]
    · rw [ih (by omega) fun i hi hn => h i (by omega) hn, h n (by omega) (fun e' => e e'.symm), badd_zero]
/-! ### Vectors -/

abbrev Vc := Nat → B

def v0 : Vc := fun _ => 0
def va (x y : Vc) : Vc := fun i => x i + y i
def vs (c : B) (x : Vc) : Vc := fun i => c * x i

theorem va_comm (x y : Vc) : va x y = va y x := funext fun _ => badd_comm _ _
theorem va_assoc (x y z : Vc) : va (va x y) z = va x (va y z) := funext fun _ => badd_assoc _ _ _
theorem va_zero (x : Vc) : va x v0 = x := funext fun _ => badd_zero _
theorem v0_va (x : Vc) : va v0 x = x := funext fun _ => bzero_add _
theorem va_self (x : Vc) : va x x = v0 := funext fun _ => badd_self _
theorem va_cancel (x y : Vc) : va x (va x y) = y := funext fun _ => badd_cancel _ _
theorem vs_va (c : B) (x y : Vc) : vs c (va x y) = va (vs c x) (vs c y) := funext fun _ => bmul_add _ _ _
theorem vs_add (c d : B) (x : Vc) : vs (c + d) x = va (vs c x) (vs d x) := funext fun _ => badd_mul _ _ _
theorem vs_vs (c d : B) (x : Vc) : vs c (vs d x) = vs (c * d) x := funext fun _ => (bmul_assoc _ _ _).symm
theorem vs_zero (c : B) : vs c v0 = v0 := funext fun _ => bmul_zero _
theorem zero_vs (x : Vc) : vs 0 x = v0 := funext fun _ => bzero_mul _
theorem one_vs (x : Vc) : vs 1 x = x := funext fun _ => bone_mul _

/-- A set of vectors that is closed: 0, sums, multiples. -/
structure Lin (W : Vc → Prop) : Prop where
  zero : W v0
  add : ∀ {x y}, W x → W y → W (va x y)
  smul : ∀ {x} (c : B), W x → W (vs c x)

theorem Lin.of_sum {W : Vc → Prop} (h : Lin W) {x y : Vc} (hx : W x) (hs : W (va x y)) : W y := by
  have := h.add hx hs
  rwa [va_cancel] at this
theorem Lin.of_sum' {W : Vc → Prop} (h : Lin W) {x y : Vc} (hy : W y) (hs : W (va x y)) : W x := h.of_sum hy (by rwa [va_comm])

/-- The span of a list. -/
inductive Sp (L : List Vc) : Vc → Prop
  | zero : Sp L v0
  | more {v w : Vc} (c : B) (hv : v ∈ L) (hw : Sp L w) : Sp L (va (vs c v) w)

theorem Sp.mem {L : List Vc} {v : Vc} (h : v ∈ L) : Sp L v := by
  have := Sp.more 1 h Sp.zero
  rwa [va_zero, one_vs] at this
theorem Sp.add {L : List Vc} {x y : Vc} (hx : Sp L x) (hy : Sp L y) : Sp L (va x y) := by
  induction hx with
  | zero => rwa [v0_va]
  | more c hv _ ih => rw [va_assoc]; exact Sp.more c hv ih
theorem Sp.smul {L : List Vc} {x : Vc} (c : B) (hx : Sp L x) : Sp L (vs c x) := by
  induction hx with
  | zero => rw [vs_zero]; exact Sp.zero
  | more d hv _ ih => rw [vs_va, vs_vs]; exact Sp.more _ hv ih
theorem Sp.lin (L : List Vc) : Lin (Sp L) := ⟨Sp.zero, Sp.add, Sp.smul⟩
/-- What is closed and has the list's vectors has their span. -/
theorem Sp.within {L : List Vc} {W : Vc → Prop} (hW : Lin W) (h : ∀ v ∈ L, W v) {x : Vc} (hx : Sp L x) : W x := by
  induction hx with
  | zero => exact hW.zero
  | more c hv _ ih => exact hW.add (hW.smul c (h _ hv)) ih
theorem Sp.mono {L M : List Vc} (h : ∀ v ∈ L, Sp M v) {x : Vc} (hx : Sp L x) : Sp M x := hx.within (Sp.lin M) h
theorem Sp.sub {L M : List Vc} (h : ∀ v ∈ L, v ∈ M) {x : Vc} (hx : Sp L x) : Sp M x := hx.mono fun v hv => Sp.mem (h v hv)
theorem Sp.nil {x : Vc} (h : Sp [] x) : x = v0 := by
  cases h with
  | zero => rfl
  | more c hv _ => cases hv
theorem Sp.cons {e : Vc} {L : List Vc} {x : Vc} : Sp (e :: L) x ↔ ∃ c w, Sp L w ∧ x = va (vs c e) w := by
  constructor
  · intro h
    induction h with
    | zero => exact ⟨0, v0, Sp.zero, by rw [zero_vs, va_zero]⟩
    | more c hv _ ih =>
      obtain ⟨d, w, hw, rfl⟩ := ih
      rcases List.mem_cons.1 hv with rfl | hm
      · exact ⟨c + d, w, hw, by rw [vs_add, va_assoc]⟩
      · exact ⟨d, va (vs c _) w, Sp.more c hm hw, by rw [← va_assoc, va_comm (vs c _), va_assoc]⟩
  · rintro ⟨c, w, hw, rfl⟩
    exact Sp.more c (List.mem_cons_self) (hw.sub fun v hv => List.mem_cons_of_mem _ hv)
/-! ### Where vectors lead -/

def Lead (v : Vc) (i : Nat) : Prop := v i ≠ 0 ∧ ∀ j, j < i → v j = 0

theorem Lead.unique {v : Vc} {i j : Nat} (h : Lead v i) (k : Lead v j) : i = j := by
  rcases Nat.lt_trichotomy i j with hl | he | hl
  · exact absurd (k.2 i hl) h.1
  · exact he
  · exact absurd (h.2 j hl) k.1
/-- Nothing stands at n or behind. -/
def Short (n : Nat) (v : Vc) : Prop := ∀ i, n ≤ i → v i = 0
theorem Short.lead {n i : Nat} {v : Vc} (h : Short n v) (hl : Lead v i) : i < n := by
  by_cases hi : i < n
  · exact hi
  · exact absurd (h i (by omega)) hl.1

/-- Rows that lead, no two at one place. -/
structure Ech (E : List Vc) : Prop where
  ne : ∀ e ∈ E, ∃ i, Lead e i
  apart : E.Pairwise fun x y => ∀ i, Lead x i → ¬ Lead y i

theorem Ech.tail {e : Vc} {E : List Vc} (h : Ech (e :: E)) : Ech E := ⟨fun x hx => h.ne x (List.mem_cons_of_mem _ hx), (List.pairwise_cons.1 h.apart).2⟩

/-- What such rows span leads where one of them does. -/
theorem Ech.lead {E : List Vc} (h : Ech E) : ∀ {v : Vc} {i : Nat}, Sp E v → Lead v i → ∃ e ∈ E, Lead e i := by
  induction E with
  | nil => intro v i hv hl; rw [hv.nil] at hl; exact absurd rfl hl.1
  | cons e E ih =>
    intro v i hv hl
    obtain ⟨c, w, hw, rfl⟩ := Sp.cons.1 hv
    obtain ⟨a, ha⟩ := h.ne e List.mem_cons_self
    have hl1 : c * e i + w i ≠ 0 := hl.1
    have hl2 : ∀ j, j < i → c * e j + w j = 0 := hl.2
    rcases Nat.lt_trichotomy i a with hia | rfl | hia
    · have hw' : Lead w i := ⟨by rw [ha.2 i hia, bmul_zero, bzero_add] at hl1; exact hl1, fun j hj => by
        have := hl2 j hj
        rwa [ha.2 j (by omega), bmul_zero, bzero_add] at this⟩
      obtain ⟨x, hx, hxl⟩ := ih h.tail hw hw'
      exact ⟨x, List.mem_cons_of_mem _ hx, hxl⟩
    · exact ⟨e, List.mem_cons_self, ha⟩
    · by_cases hc : c = 0
      · subst hc
        have hw' : Lead w i := ⟨by rwa [bzero_mul, bzero_add] at hl1, fun j hj => by
          have := hl2 j hj
          rwa [bzero_mul, bzero_add] at this⟩
        obtain ⟨x, hx, hxl⟩ := ih h.tail hw hw'
        exact ⟨x, List.mem_cons_of_mem _ hx, hxl⟩
      · have hw' : Lead w a := ⟨fun hz => by
          have := hl2 a hia
          rw [hz, badd_zero] at this
          exact bmul_ne hc ha.1 this, fun j hj => by
          have := hl2 j (by omega)
          rwa [ha.2 j hj, bmul_zero, bzero_add] at this⟩
        obtain ⟨x, hx, hxl⟩ := ih h.tail hw hw'
        exact absurd hxl ((List.pairwise_cons.1 h.apart).1 x hx a ha)

/-! ### Ranks -/

/-- Does some vector of these lead there? -/
def Ld (W : Vc → Prop) (i : Nat) : Prop := ∃ v, W v ∧ Lead v i

open Classical in
/-- At how many of the first n places some vector leads. -/
noncomputable def rk (n : Nat) (W : Vc → Prop) : Nat := (List.range n).countP fun i => decide (Ld W i)

open Classical in
theorem rk_le (n : Nat) (W : Vc → Prop) : rk n W ≤ n := by
  have := List.countP_le_length (p := fun i => @decide (Ld W i) (Classical.propDecidable _)) (l := List.range n)
  rwa [List.length_range] at this

theorem countP_or {p q r : Nat → Bool} (l : List Nat) (h : ∀ i ∈ l, r i = (p i || q i)) (hd : ∀ i ∈ l, ¬ (p i = true ∧ q i = true)) : l.countP r = l.countP p + l.countP q := by
  induction l with
  | nil => rfl
  | cons x l ih =>
    have h1 := h x List.mem_cons_self
    have h2 := hd x List.mem_cons_self
    rw [List.countP_cons, List.countP_cons, List.countP_cons, ih (fun i hi => h i (List.mem_cons_of_mem _ hi)) (fun i hi => hd i (List.mem_cons_of_mem _ hi)), h1]
    cases hp : p x <;> cases hq : q x <;> simp_all <;> omega
theorem countP_eq_one {n k : Nat} (hk : k < n) : (List.range n).countP (fun i => decide (i = k)) = 1 := by
  induction n with
  | zero => omega
  | succ n ih =>
    rw [List.range_succ, List.countP_append]
    by_cases e : k = n
    · subst e
      have : (List.range k).countP (fun i => decide (i = k)) = 0 := by
        rw [List.countP_eq_zero]; intro i hi; rw [List.mem_range] at hi; simp; omega
      rw [this]; simp
    · rw [ih (by omega)]
      have : ¬ n = k := fun h => e h.symm
      simp [this]

/-- Does one of these rows lead there? -/
def Led (E : List Vc) (i : Nat) : Prop := ∃ e ∈ E, Lead e i

open Classical in
theorem rk_ech {n : Nat} {E : List Vc} (h : Ech E) (hs : ∀ e ∈ E, Short n e) : rk n (Sp E) = E.length := by
  have key : ∀ i, Ld (Sp E) i ↔ ∃ e ∈ E, Lead e i := fun i => ⟨fun ⟨v, hv, hl⟩ => h.lead hv hl, fun ⟨e, he, hl⟩ => ⟨e, Sp.mem he, hl⟩⟩
  have e1 : rk n (Sp E) = (List.range n).countP fun i => @decide (Led E i) (Classical.propDecidable _) := by
    unfold rk
    apply List.countP_congr
    intro i _
    rw [decide_eq_true_eq, decide_eq_true_eq]
    exact key i
  rw [e1]
  clear e1 key
  induction E with
  | nil => simp [Led]
  | cons e E ih =>
    obtain ⟨a, ha⟩ := h.ne e List.mem_cons_self
    have hlt : a < n := (hs e List.mem_cons_self).lead ha
    rw [countP_or (p := fun i => decide (i = a)) (q := fun i => @decide (Led E i) (Classical.propDecidable _)), countP_eq_one hlt, ih h.tail (fun x hx => hs x (List.mem_cons_of_mem _ hx)), List.length_cons, Nat.add_comm]
    · intro i _
      rw [Bool.eq_iff_iff, Bool.or_eq_true, decide_eq_true_eq, decide_eq_true_eq, decide_eq_true_eq]
      constructor
      · rintro ⟨x, hx, hl⟩
        rcases List.mem_cons.1 hx with rfl | hx
        · exact Or.inl (hl.unique ha)
        · exact Or.inr ⟨x, hx, hl⟩
      · rintro (rfl | ⟨x, hx, hl⟩)
        · exact ⟨e, List.mem_cons_self, ha⟩
        · exact ⟨x, List.mem_cons_of_mem _ hx, hl⟩
    · rintro i _ ⟨h1, h2⟩
      rw [decide_eq_true_eq] at h1 h2
      subst h1
      obtain ⟨x, hx, hl⟩ := h2
      exact (List.pairwise_cons.1 h.apart).1 x hx i ha hl

open Classical in
/-! ### Reduced rows: there is one list of them alone -/

/-- Rows by rising places; each leads with a 1, where all others have a 0. -/
structure Red (E : List Vc) : Prop where
  rise : E.Pairwise fun x y => ∀ i j, Lead x i → Lead y j → i < j
  one : ∀ e ∈ E, ∃ i, Lead e i ∧ e i = 1
  clear : E.Pairwise fun x y => ∀ i, (Lead x i → y i = 0) ∧ (Lead y i → x i = 0)

end La
end Go.Proofs.Ytphdadibfeencaa

/-
  Linear algebra over bytes, second part: combinations by their coefficients, matrices turned and multiplied, inverses. No program in this text.
-/
set_option maxRecDepth 100000
namespace Go.Proofs.Ytphdadibfeencaa
namespace La

/-- The first m rows of a matrix. -/
def rows (A : Nat → Vc) (m : Nat) : List Vc := (List.range m).map A

/-- The combination of the first k vectors by these coefficients. -/
def lc (cs : Nat → B) (A : Nat → Vc) (k : Nat) : Vc := fun j => sm (fun t => cs t * A t j) k

/-! ### Turned -/

/-! ### Products -/

/-- The product: row by row the combination. -/
def mm (A C : Nat → Vc) (k : Nat) : Nat → Vc := fun i => lc (A i) C k

end La
end Go.Proofs.Ytphdadibfeencaa

/-
  Linear algebra over bytes, third part: determinants by the first row (two is 0 here: no signs), and that one isn't 0 just where the rank is full. No program in this text.
-/
set_option maxRecDepth 100000
namespace Go.Proofs.Ytphdadibfeencaa
namespace La

/-- The sum over all ways to take one of a list: of it, and of what is left. -/
def P (f : Nat → List Nat → B) : List Nat → B
  | [] => 0
  | x :: xs => f x xs + P (fun y ys => f y (x :: ys)) xs

/-- The determinant of rows, at these columns. -/
def D : List Vc → List Nat → B
  | [], _ => 1
  | r :: rs, cols => P (fun x rest => r x * D rs rest) cols

end La
end Go.Proofs.Ytphdadibfeencaa

/-
  The document's answer for equations (wellspringref08), in the program: 'Known'.
-/
set_option maxRecDepth 100000
namespace Go.Proofs.Ytphdadibfeencaa
open Go.RowKit

namespace Ro
/-- How many bytes aren't 0. -/
def nz (l : List Nat) : Nat := l.countP fun x => x != 0
/-- Does the row tell this symbol? -/
def tells (i : Int) (r : Rw) : Bool := nz r.1 == 1 && leadI r.1 == i
end Ro

end Go.Proofs.Ytphdadibfeencaa
