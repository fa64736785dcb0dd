/- Texts of one seat, laid together: VecA, VecB, VecMath, RefElim. -/
import Derived.Test.YtphdadibfeencaaGreatSolveHoldsQ4
import Derived.Test.YtphdadibfeencaaGreatSolveHoldsQ8
import Derived.Test.YtphdadibfeencaaGreatSolveHoldsQ6
import Derived.Deep.QuietTactic
import Derived.BigQuiet
import Derived.Test.YtphdadibfeencaaGreatSolveHoldsQ7
import Derived.Test.YtphdadibfeencaaGreatSolveHoldsQ5

/-
  Rows with a beginning (layer 3) in the program: 'Lead', 'At', 'Zero', 'Unit'.
-/
set_option maxRecDepth 100000
namespace Go.Proofs.YtphdadibfeencaaGreat
open Go.RowKit


set_option maxHeartbeats 400000 in
theorem lead1_any (x : Nat) (w : World) :
    Calls Tryz.prog 81 #[U8 x] w fun e w' => e = .returned (.bool ((x : Int) != 0)) ∧ w = w' := by
  go_enter Tryz.func81, Tryz.ntmps81
  go_wp2_with fail
  go_ret
  exact ⟨rfl, rfl⟩

set_option maxHeartbeats 400000 in
theorem idxLead_empty (f : Value) (a : Option Addr) (cap : Nat) (w : World) :
    Calls Tryz.prog 80 #[.slice a 0 cap, f] w fun e w' => e = .returned (.int .i64 (leadI [])) ∧ w = w' := by
  go_enter Tryz.func80, Tryz.ntmps80
  go_wp2
  refine wp_loop_rounds 1 ?_
  rw [rounds_succ]
  go_wp2
  go_ret
  exact ⟨rfl, rfl⟩

set_option maxHeartbeats 400000 in
theorem idxLead_some (b off cap : Nat) (l : List Nat) (w : World) (hB : Bytes w (.slice (some ⟨b, off, none⟩) l.length cap) l) :
    Calls Tryz.prog 80 #[.slice (some ⟨b, off, none⟩) l.length cap, .func (Fn.func 81) #[] #[]] w fun e w' => e = .returned (.int .i64 (leadI l)) ∧ w = w' := by
  have hcap : l.length ≤ 9223372036854775807 := by obtain ⟨_, _, _, h1, h2, _⟩ := hB; omega
  obtain ⟨t, ht⟩ : ∃ t, t = leadI l := ⟨_, rfl⟩
  rw [← ht]
  have HT := Lib.hid ht
  have HB := Lib.hid hB
  clear hB ht
  go_enter Tryz.func80, Tryz.ntmps80
  go_wp2
  go_loop [5, 8] (fun _ i => ∃ k : Nat, k ≤ l.length ∧ i = .int .i64 k ∧ ∀ j, j < k → nth l j = 0) (fun _ i => l.length - (intOf i).toNat)
  case atStart => exact ⟨0, by omega, rfl, fun j hj => by omega⟩
  case round =>
    obtain ⟨k, hk, rfl, hno⟩ := hrel
    have HN := Lib.hid hno
    clear hno
    by_cases hlt : k < l.length
    · have hu := HB.out.cell k hlt
      by_cases hq : nth l k = 0
      · have hb : ((nth l k : Int) != 0) = false := by rw [hq]; rfl
        have HQ := Lib.hid hq
        clear hq
        go_wp2_with fail
        refine (lead1_any _ _).mono ?_
        rintro e w' ⟨rfl, rfl⟩
        rw [hb]
        go_wp2_with fail
        go_round
        case rel => exact ⟨k + 1, by omega, by go_num, fun j hj => by
          by_cases h : j = k
          · rw [h]; exact HQ.out
          · exact HN.out j (by omega)⟩
        case measure => simp [intOf]; omega
      · have hb : ((nth l k : Int) != 0) = true := by rw [bne_iff_ne]; omega
        have HF : Hid (t = (k : Int)) := Lib.hid (by rw [HT.out]; unfold leadI; rw [lead_eq HN.out hlt hq, if_pos hlt])
        clear hq
        go_wp2_with fail
        refine (lead1_any _ _).mono ?_
        rintro e w' ⟨rfl, rfl⟩
        rw [hb]
        go_wp2_with fail
        go_ret
        exact ⟨by rw [HF.out]; rfl, rfl⟩
    · have HF : Hid (t = -1) := Lib.hid (by
        rw [HT.out]; unfold leadI
        rw [lead_none (fun j hj => HN.out j (by omega)), if_neg (by omega)])
      go_wp2_with fail
      go_ret
      exact ⟨by rw [HF.out]; rfl, rfl⟩

theorem idxLead_any (v : Value) (l : List Nat) (w : World) (hB : Bytes w v l) :
    Calls Tryz.prog 80 #[v, .func (Fn.func 81) #[] #[]] w fun e w' => e = .returned (.int .i64 (leadI l)) ∧ w = w' := by
  have hB0 := hB
  obtain ⟨a, cap, rfl, _, _, _, h4⟩ := hB
  cases l with
  | nil => exact idxLead_empty _ a cap w
  | cons x l =>
    obtain ⟨b, off, rfl, _, _⟩ := h4 (by simp)
    exact idxLead_some b off cap _ w hB0

set_option maxHeartbeats 400000 in
theorem lead_any (v : Value) (l : List Nat) (w : World) (hB : Bytes w v l) :
    Calls Tryz.prog 64 #[v] w fun e w' => e = .returned (.int .i64 (leadI l)) ∧ w = w' := by
  have hmf : ∀ (fn : Fn) (first cap : Array Value) (w : World), (Instr.makeFunc fn first cap).run Tryz.prog w = .ok (.func fn first cap) w := fun _ _ _ _ => rfl
  have H := Lib.hid (idxLead_any v l w hB)
  clear hB
  go_enter Tryz.func64, Tryz.ntmps64
  go_wp2_with fail
  refine (H.out).mono ?_
  rintro e w' ⟨rfl, rfl⟩
  go_wp2_with fail
  go_ret
  exact ⟨rfl, rfl⟩

set_option maxHeartbeats 400000 in
theorem vzero_any (v : Value) (l : List Nat) (w : World) (hB : Bytes w v l) :
    Calls Tryz.prog 23 #[v] w fun e w' => e = .returned (.bool (zeroB l)) ∧ w = w' := by
  have H := Lib.hid (zero_any v l w hB)
  clear hB
  go_enter Tryz.func23, Tryz.ntmps23
  go_wp2_with fail
  refine (H.out).mono ?_
  rintro e w' ⟨rfl, rfl⟩
  go_wp2_with fail
  go_ret
  exact ⟨rfl, rfl⟩

/-- The byte at a place, and 0 where there is none. -/
def atI (l : List Nat) (i : Int) : Nat := if 0 ≤ i ∧ i < l.length then nth l i.toNat else 0
set_option maxHeartbeats 400000 in
theorem at_out (a : Option Addr) (n cap : Nat) (i : Int) (w : World) (h : i < 0 ∨ (0 ≤ i ∧ (n : Int) ≤ i)) :
    Calls Tryz.prog 76 #[.slice a n cap, .int .i64 i] w fun e w' => e = .returned (.int .u8 0) ∧ w = w' := by
  rcases h with h | ⟨h0, h⟩
  · go_enter Tryz.func76, Tryz.ntmps76
    go_wp2_with fail
    go_ret
    exact ⟨rfl, rfl⟩
  · go_enter Tryz.func76, Tryz.ntmps76
    go_wp2_with fail
    go_ret
    exact ⟨rfl, rfl⟩

set_option maxHeartbeats 400000 in
theorem at_in (b off n cap : Nat) (l : List Nat) (k : Nat) (w : World) (hk : k < n) (hu : w.cell? ⟨b, off + k, none⟩ = some (U8 (nth l k))) :
    Calls Tryz.prog 76 #[.slice (some ⟨b, off, none⟩) n cap, .int .i64 k] w fun e w' => e = .returned (U8 (nth l k)) ∧ w = w' := by
  go_enter Tryz.func76, Tryz.ntmps76
  go_wp2_with fail
  go_ret
  exact ⟨rfl, rfl⟩

theorem at_any (v : Value) (l : List Nat) (i : Int) (w : World) (hB : Bytes w v l) :
    Calls Tryz.prog 76 #[v, .int .i64 i] w fun e w' => e = .returned (U8 (atI l i)) ∧ w = w' := by
  have hB0 := hB
  obtain ⟨a, cap, rfl, h1, h2, _, h4⟩ := hB
  unfold atI
  by_cases h : 0 ≤ i ∧ i < l.length
  · rw [if_pos h]
    obtain ⟨k, rfl⟩ := Int.eq_ofNat_of_zero_le h.1
    have hk : k < l.length := by omega
    obtain ⟨b, off, rfl, _, _⟩ := h4 (by intro e; rw [e] at hk; simp at hk)
    exact at_in b off _ cap l k w hk (hB0.cell k hk)
  · rw [if_neg h]
    exact at_out a _ cap i w (by omega)

/-- A unit. -/
def unitL (n k : Nat) : List Nat := (zeros n).set k 1

end Go.Proofs.YtphdadibfeencaaGreat

/-
  Rows with a beginning (layer 3) in the program: 'Of', 'Clone', 'Same', 'Norm', 'Less'.
-/
set_option maxRecDepth 100000
namespace Go.Proofs.YtphdadibfeencaaGreat
open Go.RowKit

set_option maxHeartbeats 400000 in
theorem of_any (v d : Value) (p q : List Nat) (w : World) (hp : Bytes w v p) (hq : Bytes w d q) (hlp : p.length ≤ 1000000000) (hlq : q.length ≤ 1000000000) :
    Calls Tryz.prog 12 #[v, d] w (RowsV w p q) := by
  have HP := Lib.hid hp
  have HQ := Lib.hid hq
  clear hp hq
  go_enter Tryz.func12, Tryz.ntmps12
  go_wp2_with fail
  obtain ⟨B, hk1, hs⟩ := blocks1 w #[.slice none 0 0, .slice none 0 0] 46
  generalize (w.alloc (.cells #[.slice none 0 0, .slice none 0 0] 46)) = W at *
  have K1 := Lib.hid hk1
  have HS := Lib.hid hs
  clear hs hk1
  replace HP := Lib.hid (HP.out.go B)
  replace HQ := Lib.hid (HQ.out.go B)
  have hzW := B.size
  refine (clone_any _ _ _ hlp HP.out).mono ?_
  rintro e w1 ⟨v1, rfl, hv1, hb⟩
  replace HQ := Lib.hid (HQ.out.go hb)
  replace K1 := Lib.hid (K1.out.go hb)
  replace B := B.trans (hb.mono B.size)
  have hzw1 := B.size
  clear hb
  have V1 := Lib.hid hv1
  obtain ⟨a1, c1, rfl, _⟩ := hv1
  go_wp2_with fail
  refine (clone_any _ _ _ hlq HQ.out).mono ?_
  rintro e w2 ⟨v2, rfl, hv2, hb⟩
  replace V1 := Lib.hid (V1.out.go hb)
  replace K1 := Lib.hid (K1.out.go hb)
  replace B := B.trans (hb.mono B.size)
  have hzw2 := B.size
  clear hb
  have V2 := Lib.hid hv2
  obtain ⟨a2, c2, rfl, _⟩ := hv2
  obtain ⟨k10, k11⟩ := K1.out.two
  have k1l := K1.out.lt
  obtain ⟨k1f0, k1f1⟩ := K1.out.fre2
  go_wp2_with fail
  obtain ⟨e0, e1, hB, hS⟩ := store2 K1.out (Nat.le_refl _) B (slice_ne _ _ _) (slice_ne _ _ _) (.slice a1 p.length c1) (.slice a2 q.length c2)
  exact bodyPost_ret (v := .agg #[.slice a1 p.length c1, .slice a2 q.length c2]) (by simp [results, Tryz.results12, go_sem, e0, e1]) rfl
    ⟨_, rfl, ⟨_, _, rfl, hS _ _ V1.out, hS _ _ V2.out⟩, hB⟩

set_option maxHeartbeats 400000 in
theorem rowclone_any (u : Value) (p q : List Nat) (w : World) (hu : IsRow w u p q) (hlp : p.length ≤ 1000000000) (hlq : q.length ≤ 1000000000) :
    Calls Tryz.prog 79 #[u] w (RowsV w p q) := by
  obtain ⟨v, d, rfl, hp, hq⟩ := hu
  have HP := Lib.hid hp
  have HQ := Lib.hid hq
  clear hp hq
  go_enter Tryz.func79, Tryz.ntmps79
  go_wp2_with fail
  obtain ⟨B, hk1, hk2, hs⟩ := blocks2 w #[v, d] 46 #[.slice none 0 0, .slice none 0 0] 46
  generalize ((w.alloc (.cells #[v, d] 46)).alloc (.cells #[.slice none 0 0, .slice none 0 0] 46)) = W at *
  have K1 := Lib.hid hk1
  have K2 := Lib.hid hk2
  have HS := Lib.hid hs
  clear hs hk1 hk2
  replace HP := Lib.hid (HP.out.go B)
  replace HQ := Lib.hid (HQ.out.go B)
  have hzW := B.size
  obtain ⟨k10, k11⟩ := K1.out.two
  have k1l := K1.out.lt
  go_wp2_with fail
  refine (of_any _ _ _ _ _ HP.out HQ.out hlp hlq).mono ?_
  rintro e w1 ⟨v1, rfl, hv1, hb⟩
  replace K2 := Lib.hid (K2.out.go hb)
  replace B := B.trans (hb.mono B.size)
  have hzw1 := B.size
  clear hb
  obtain ⟨y0, y1, rfl, V1, V2⟩ := hv1
  have H1 := Lib.hid V1
  have H2 := Lib.hid V2
  obtain ⟨a1, c1, rfl, _⟩ := V1
  obtain ⟨a2, c2, rfl, _⟩ := V2
  obtain ⟨k20, k21⟩ := K2.out.two
  have k2l := K2.out.lt
  obtain ⟨k2f0, k2f1⟩ := K2.out.fre2
  go_wp2_with fail
  obtain ⟨e0, e1, hB, hS⟩ := store2 K2.out (Nat.le_succ _) B (slice_ne _ _ _) (slice_ne _ _ _) (.slice a1 p.length c1) (.slice a2 q.length c2)
  exact bodyPost_ret (v := .agg #[.slice a1 p.length c1, .slice a2 q.length c2]) (by simp [results, Tryz.results79, go_sem, e0, e1]) rfl
    ⟨_, rfl, ⟨_, _, rfl, hS _ _ H1.out, hS _ _ H2.out⟩, hB⟩

theorem atI_lead {p : List Nat} (h : lead p < p.length) : atI p (leadI p) = nth p (lead p) := by
  unfold leadI atI; rw [if_pos h, if_pos (by omega)]; simp
theorem atI_none {p : List Nat} (h : ¬ lead p < p.length) : atI p (leadI p) = 0 := by
  unfold leadI atI; rw [if_neg h, if_neg (by omega)]

set_option maxHeartbeats 1000000 in
theorem norm_some (v d : Value) (p q : List Nat) (w : World) (hp : Bytes w v p) (hq : Bytes w d q) (hlp : p.length ≤ 10000000) (hlq : q.length ≤ 10000000) (hl : lead p < p.length) :
    Calls Tryz.prog 63 #[.agg #[v, d]] w (RowsV w (Gf.scale (normC p) p) (Gf.scale (normC p) q)) := by
  have HP := Lib.hid hp
  have HQ := Lib.hid hq
  have HL := Lib.hid (atI_lead hl)
  have HC := Lib.hid (show normC p = Gf.inv (nth p (lead p)) from if_pos hl)
  have HZ := Lib.hid (zeroE_ne (lead_ne p hl))
  have hx := nth_lt hp.lt (lead p)
  have hc := normC_lt p
  obtain ⟨v0, p0, rfl, _⟩ := hp
  obtain ⟨d0, q0, rfl, _⟩ := hq
  clear hl
  go_enter Tryz.func63, Tryz.ntmps63
  go_wp2_with fail
  obtain ⟨B, hk1, hk2, hs⟩ := blocks2 w #[.slice v0 p.length p0, .slice d0 q.length q0] 46 #[.slice none 0 0, .slice none 0 0] 46
  generalize ((w.alloc (.cells #[.slice v0 p.length p0, .slice d0 q.length q0] 46)).alloc (.cells #[.slice none 0 0, .slice none 0 0] 46)) = W at *
  have K1 := Lib.hid hk1
  have K2 := Lib.hid hk2
  have HS := Lib.hid hs
  clear hs hk1 hk2
  replace HP := Lib.hid (HP.out.go B)
  replace HQ := Lib.hid (HQ.out.go B)
  have hzW := B.size
  obtain ⟨k10, k11⟩ := K1.out.two
  have k1l := K1.out.lt
  go_quiet ((first | (go_at_call 64; exact quiet_eq (lead_any _ p _ (HP.out.drewN _))) | (go_at_call 76; exact quiet_eq (at_any _ p _ _ (HP.out.drewN _))) | (go_at_call 78; rw [HL.out]; exact quiet_eq (inv_any _ _ hx))))
  rw [HZ.out, ← HC.out]
  go_wp2_with fail
  have hdn := below_drews W nq
  replace HP := Lib.hid (HP.out.go hdn)
  replace HQ := Lib.hid (HQ.out.go hdn)
  replace K1 := Lib.hid (K1.out.go hdn)
  replace K2 := Lib.hid (K2.out.go hdn)
  replace B := B.trans (hdn.mono B.size)
  clear hdn k10 k11
  generalize W.drewN nq = W3 at *
  have D3 : Below W3.heap.size W3 W3.drew := (Below.refl _ _).drew
  replace HP := Lib.hid (HP.out.go D3)
  obtain ⟨hx0, hx1⟩ := K1.out.two
  have tok1 : True := trivial
  go_region_held3 (fun w' => w'.cell? ⟨w.heap.size, 0, none⟩ = some (.slice v0 p.length p0) ∧ w'.cell? ⟨w.heap.size, 1, none⟩ = some (.slice d0 q.length q0))
    (first | go_keep | exact ⟨cell_keep hx0 (by assumption), cell_keep hx1 (by assumption)⟩)
    (first | (go_at_call 36; have _t := tok1; refine (scale_b _ _ p _ hc hlp HP.out).mono ?_; rintro e w3 ⟨v3, rfl, hv3, hb3'⟩; have hb3 : Below W3.heap.size W3 w3 := D3.trans hb3'; have V3 := Lib.hid hv3; obtain ⟨a3, c3, rfl, _⟩ := hv3; clear tok1 _t) | (go_at_call 36; refine (scale_b _ _ q _ hc hlq (HQ.out.go hb3)).mono ?_; rintro e w4 ⟨v4, rfl, hv4, hb4'⟩; have hb4 : Below W3.heap.size W3 w4 := hb3.trans (hb4'.mono hb3.size); have V4 := Lib.hid hv4; replace V3 := Lib.hid (V3.out.go hb4'); obtain ⟨a4, c4, rfl, _⟩ := hv4; have hr := (K2.out.go hb4).two; have hf := (K2.out.go hb4).fre2; obtain ⟨hr0, hr1⟩ := hr; obtain ⟨hf0, hf1⟩ := hf))
  go_wp2_with fail
  obtain ⟨e0, e1, hB, hS⟩ := store2 (K2.out.go hb4) (Nat.le_succ _) (B.trans (hb4.mono B.size)) (slice_ne _ _ _) (slice_ne _ _ _) (.slice a3 (Gf.scale (normC p) p).length c3) (.slice a4 (Gf.scale (normC p) q).length c4)
  exact bodyPost_ret (v := .agg #[.slice a3 (Gf.scale (normC p) p).length c3, .slice a4 (Gf.scale (normC p) q).length c4]) (by simp [results, Tryz.results63, go_sem, e0, e1]) rfl
    ⟨_, rfl, ⟨_, _, rfl, hS _ _ V3.out, hS _ _ V4.out⟩, hB⟩

set_option maxHeartbeats 1000000 in
theorem norm_none (v d : Value) (p q : List Nat) (w : World) (hp : Bytes w v p) (hq : Bytes w d q) (hlp : p.length ≤ 10000000) (hlq : q.length ≤ 10000000) (hl : ¬ lead p < p.length) :
    Calls Tryz.prog 63 #[.agg #[v, d]] w (RowsV w p q) := by
  have HP := Lib.hid hp
  have HQ := Lib.hid hq
  have HL := Lib.hid (atI_none hl)
  have HZ := Lib.hid zeroE_zero
  obtain ⟨v0, p0, rfl, _⟩ := hp
  obtain ⟨d0, q0, rfl, _⟩ := hq
  clear hl
  go_enter Tryz.func63, Tryz.ntmps63
  go_wp2_with fail
  obtain ⟨B, hk1, hk2, hs⟩ := blocks2 w #[.slice v0 p.length p0, .slice d0 q.length q0] 46 #[.slice none 0 0, .slice none 0 0] 46
  generalize ((w.alloc (.cells #[.slice v0 p.length p0, .slice d0 q.length q0] 46)).alloc (.cells #[.slice none 0 0, .slice none 0 0] 46)) = W at *
  have K1 := Lib.hid hk1
  have K2 := Lib.hid hk2
  have HS := Lib.hid hs
  clear hs hk1 hk2
  replace HP := Lib.hid (HP.out.go B)
  replace HQ := Lib.hid (HQ.out.go B)
  have hzW := B.size
  obtain ⟨k10, k11⟩ := K1.out.two
  have k1l := K1.out.lt
  go_quiet ((first | (go_at_call 64; exact quiet_eq (lead_any _ p _ (HP.out.drewN _))) | (go_at_call 76; exact quiet_eq (at_any _ p _ _ (HP.out.drewN _))) | (go_at_call 78; rw [HL.out]; exact quiet_eq (inv_any _ _ (by decide)))))
  rw [HZ.out]
  go_wp2_with fail
  have hdn := below_drews W nq
  replace HP := Lib.hid (HP.out.go hdn)
  replace HQ := Lib.hid (HQ.out.go hdn)
  replace K1 := Lib.hid (K1.out.go hdn)
  replace K2 := Lib.hid (K2.out.go hdn)
  replace B := B.trans (hdn.mono B.size)
  clear hdn k10 k11
  generalize W.drewN nq = W3 at *
  refine (rowclone_any _ p q _ ⟨_, _, rfl, HP.out, HQ.out⟩ (by omega) (by omega)).mono ?_
  rintro e w4 ⟨u4, rfl, hu4, hb⟩
  replace K2 := Lib.hid (K2.out.go hb)
  replace B := B.trans (hb.mono B.size)
  have hzw4 := B.size
  clear hb
  obtain ⟨y0, y1, rfl, V1, V2⟩ := hu4
  have H1 := Lib.hid V1
  have H2 := Lib.hid V2
  obtain ⟨a1, c1, rfl, _⟩ := V1
  obtain ⟨a2, c2, rfl, _⟩ := V2
  obtain ⟨k20, k21⟩ := K2.out.two
  have k2l := K2.out.lt
  obtain ⟨k2f0, k2f1⟩ := K2.out.fre2
  go_wp2_with fail
  obtain ⟨e0, e1, hB, hS⟩ := store2 K2.out (Nat.le_succ _) B (slice_ne _ _ _) (slice_ne _ _ _) (.slice a1 p.length c1) (.slice a2 q.length c2)
  exact bodyPost_ret (v := .agg #[.slice a1 p.length c1, .slice a2 q.length c2]) (by simp [results, Tryz.results63, go_sem, e0, e1]) rfl
    ⟨_, rfl, ⟨_, _, rfl, hS _ _ H1.out, hS _ _ H2.out⟩, hB⟩

theorem norm_any (u : Value) (p q : List Nat) (w : World) (hu : IsRow w u p q) (hlp : p.length ≤ 10000000) (hlq : q.length ≤ 10000000) :
    Calls Tryz.prog 63 #[u] w (RowsV w (Gf.scale (normC p) p) (Gf.scale (normC p) q)) := by
  obtain ⟨v, d, rfl, hp, hq⟩ := hu
  by_cases hl : lead p < p.length
  · exact norm_some v d p q w hp hq hlp hlq hl
  · have h1 : normC p = 1 := if_neg hl
    rw [h1, scale_one hp.lt, scale_one hq.lt]
    exact norm_none v d p q w hp hq hlp hlq hl

set_option maxHeartbeats 1000000 in
theorem vecless_yes (a0 a1 a2 a3 : Option Addr) (c0 c1 c2 c3 : Nat) (c : Nat) (p q p' q' : List Nat) (w : World) (hc : c < 256) (hp : Bytes w (.slice a0 p.length c0) p) (hq : Bytes w (.slice a1 q.length c1) q) (hp' : Bytes w (.slice a2 p'.length c2) p') (hq' : Bytes w (.slice a3 q'.length c3) q')
    (hlp : p'.length ≤ 10000000) (hlq : q'.length ≤ 10000000) (h1 : p'.length = p.length) (h2 : q'.length = q.length) :
    Calls Tryz.prog 77 #[.agg #[.slice a0 p.length c0, .slice a1 q.length c1], U8 c, .agg #[.slice a2 p'.length c2, .slice a3 q'.length c3]] w (RowsE w (Gf.add (Gf.scale c p') p) (Gf.add (Gf.scale c q') q) 0) := by
  have HP := Lib.hid hp
  have HQ := Lib.hid hq
  have HP' := Lib.hid hp'
  have HQ' := Lib.hid hq'
  have b0 : ((p.length : Int) != (p'.length : Int)) = false := by rw [h1]; simp
  have b1 : ((q.length : Int) != (q'.length : Int)) = false := by rw [h2]; simp
  have L1 := Lib.hid (show axpyL c p' p = Gf.add (Gf.scale c p') p from if_pos h1)
  have L2 := Lib.hid (show axpyL c q' q = Gf.add (Gf.scale c q') q from if_pos h2)
  have E1 := Lib.hid (show axpyE p' p = 0 from if_pos h1)
  have E2 := Lib.hid (show axpyE q' q = 0 from if_pos h2)
  clear hp hq hp' hq' h1 h2
  go_enter Tryz.func77, Tryz.ntmps77
  go_wp2_with fail
  obtain ⟨B, hk1, hk2, hk3, hs⟩ := blocks3 w #[.slice a0 p.length c0, .slice a1 q.length c1] 46 #[.slice a2 p'.length c2, .slice a3 q'.length c3] 46 #[.slice none 0 0, .slice none 0 0] 46
  generalize (((w.alloc (.cells #[.slice a0 p.length c0, .slice a1 q.length c1] 46)).alloc (.cells #[.slice a2 p'.length c2, .slice a3 q'.length c3] 46)).alloc (.cells #[.slice none 0 0, .slice none 0 0] 46)) = W at *
  have K1 := Lib.hid hk1
  have K2 := Lib.hid hk2
  have K3 := Lib.hid hk3
  have HS := Lib.hid hs
  clear hs hk1 hk2 hk3
  replace HP := Lib.hid (HP.out.go B)
  replace HQ := Lib.hid (HQ.out.go B)
  replace HP' := Lib.hid (HP'.out.go B)
  replace HQ' := Lib.hid (HQ'.out.go B)
  have hzW := B.size
  obtain ⟨k10, k11⟩ := K1.out.two
  have k1l := K1.out.lt
  obtain ⟨k20, k21⟩ := K2.out.two
  have k2l := K2.out.lt
  go_wp2_with fail
  refine (axpy_b _ _ _ p' p _ hc hlp HP'.out HP.out).mono ?_
  rintro e w1 ⟨v1, rfl, hv1, hb⟩
  replace HQ := Lib.hid (HQ.out.go hb)
  replace HQ' := Lib.hid (HQ'.out.go hb)
  replace K1 := Lib.hid (K1.out.go hb)
  replace K2 := Lib.hid (K2.out.go hb)
  replace K3 := Lib.hid (K3.out.go hb)
  replace B := B.trans (hb.mono B.size)
  have hzw1 := B.size
  clear hb
  rw [E1.out]
  rw [L1.out] at hv1
  have V1 := Lib.hid hv1
  obtain ⟨x1, y1, rfl, _⟩ := hv1
  obtain ⟨k10, k11⟩ := K1.out.two
  have k1l := K1.out.lt
  obtain ⟨k20, k21⟩ := K2.out.two
  have k2l := K2.out.lt
  go_wp2_with fail
  refine (axpy_b _ _ _ q' q _ hc hlq HQ'.out HQ.out).mono ?_
  rintro e w2 ⟨v2, rfl, hv2, hb⟩
  replace V1 := Lib.hid (V1.out.go hb)
  replace K3 := Lib.hid (K3.out.go hb)
  replace B := B.trans (hb.mono B.size)
  have hzw2 := B.size
  clear hb
  rw [E2.out]
  rw [L2.out] at hv2
  have V2 := Lib.hid hv2
  obtain ⟨x2, y2, rfl, _⟩ := hv2
  obtain ⟨k30, k31⟩ := K3.out.two
  have k3l := K3.out.lt
  obtain ⟨k3f0, k3f1⟩ := K3.out.fre2
  go_wp2_with fail
  obtain ⟨e0, e1, hB, hS⟩ := store2 K3.out (by omega) B (slice_ne _ _ _) (slice_ne _ _ _) (.slice x1 (Gf.add (Gf.scale c p') p).length y1) (.slice x2 (Gf.add (Gf.scale c q') q).length y2)
  exact bodyPost_ret (v := .tuple #[.agg #[.slice x1 (Gf.add (Gf.scale c p') p).length y1, .slice x2 (Gf.add (Gf.scale c q') q).length y2], I64 0]) (by simp [results, Tryz.results77, go_sem, e0, e1]) rfl
    ⟨_, rfl, ⟨_, _, rfl, hS _ _ V1.out, hS _ _ V2.out⟩, hB⟩

end Go.Proofs.YtphdadibfeencaaGreat

/-
  Rows that lead (layer 3), in plain lists.
-/
set_option maxRecDepth 100000
namespace Go.Proofs.YtphdadibfeencaaGreat
open Go.RowKit

theorem lead_scale {c : Nat} {p : List Nat} (hc : c < 256) (h0 : c ≠ 0) (hp : ∀ x, x ∈ p → x < 256) : lead (Gf.scale c p) = lead p := by
  by_cases hl : lead p < p.length
  · refine lead_eq (fun j hj => ?_) (by rw [Gf.scale_length]; exact hl) ?_
    · rw [nth_scale c p j (by omega), lead_zero p j hj, Gf.mul_zero]
    · rw [nth_scale c p _ hl]
      exact Gf.mul_ne hc (nth_lt hp _) h0 (lead_ne p hl)
  · have e : lead p = p.length := by have := lead_le p; omega
    rw [e, ← Gf.scale_length c p]
    refine lead_none fun j hj => ?_
    rw [Gf.scale_length] at hj
    rw [nth_scale c p j hj, lead_zero p j (by omega), Gf.mul_zero]

theorem normC_ne {p : List Nat} : normC p ≠ 0 := by
  unfold normC
  split
  · rename_i h; exact Gf.inv_ne (lead_ne p h)
  · decide

theorem norm_at {p : List Nat} (hp : ∀ x, x ∈ p → x < 256) (hl : lead p < p.length) : nth (Gf.scale (normC p) p) (lead p) = 1 := by
  rw [nth_scale _ p _ hl]
  unfold normC
  rw [if_pos hl, Gf.inv_mul (nth_lt hp _) (lead_ne p hl)]

theorem zeroB_lead {l : List Nat} : zeroB l = true ↔ ¬ lead l < l.length := by
  have h := zeroB_eq l
  constructor
  · intro hz hl
    rw [hz] at h
    have := of_decide_eq_false h.symm
    exact this ⟨_, hl, lead_ne l hl⟩
  · intro hl
    have e : decide (∃ i, i < l.length ∧ nth l i ≠ 0) = false := by
      rw [decide_eq_false_iff_not]
      rintro ⟨i, hi, hne⟩
      exact hne (lead_zero l i (by omega))
    rw [e] at h
    simpa using h

end Go.Proofs.YtphdadibfeencaaGreat

/-
  The document's answer for equations (wellspringref08), in the program: 'Rows'.
-/
set_option maxRecDepth 100000
namespace Go.Proofs.YtphdadibfeencaaGreat
open Go.RowKit

namespace Ro
/-- Row i, less as much of row k as it has where that leads. -/
def clr1 (E : List Rw) (i k : Nat) : List Rw := if k = i then E else E.set i (step (rwAt E i) (rwAt E k))
def clrK (E : List Rw) (i k : Nat) : List Rw := (List.range k).foldl (fun E k => clr1 E i k) E
def clrI (E : List Rw) (i : Nat) : List Rw := (List.range i).foldl (fun E i => clrK E i E.length) E
theorem clrK_succ (E : List Rw) (i k : Nat) : clrK E i (k + 1) = clr1 (clrK E i k) i k := by unfold clrK; rw [List.range_succ, List.foldl_append]; rfl
theorem clrI_succ (E : List Rw) (i : Nat) : clrI E (i + 1) = clrK (clrI E i) i (clrI E i).length := by unfold clrI; rw [List.range_succ, List.foldl_append]; rfl
theorem clr1_length (E : List Rw) (i k : Nat) : (clr1 E i k).length = E.length := by unfold clr1; split <;> simp
theorem clrK_length (E : List Rw) (i : Nat) : ∀ k, (clrK E i k).length = E.length
  | 0 => rfl
  | k + 1 => by rw [clrK_succ, clr1_length, clrK_length E i k]
theorem clrI_length (E : List Rw) : ∀ i, (clrI E i).length = E.length
  | 0 => rfl
  | i + 1 => by rw [clrI_succ, clrK_length, clrI_length E i]
theorem rwAt_set {E : List Rw} {i j : Nat} {r : Rw} : rwAt (E.set i r) j = if i = j ∧ j < E.length then r else rwAt E j := by
  unfold rwAt
  rw [List.getD_eq_getElem?_getD, List.getElem?_set]
  by_cases h : i = j
  · subst h
    by_cases hi : i < E.length
    · simp [hi]
    · simp [hi]
  · simp [h, List.getD_eq_getElem?_getD]
/-- A step keeps where the rows lead: the row cleared leads where it did. -/
theorem step_lead {k t : Nat} {x r : Rw} (hx : Dim k t x) (hr : Dim k t r) (hlx : lead x.1 < x.1.length) (hne : lead x.1 ≠ lead r.1) : lead (step x r).1 = lead x.1 := by
  obtain ⟨_, e⟩ := less_dim (nth_lt hx.2.2.1 (lead r.1)) hx hr
  have e1 : (step x r).1 = Gf.add (Gf.scale (nth x.1 (lead r.1)) r.1) x.1 := by unfold step; rw [e]
  have hl : r.1.length = x.1.length := by rw [hr.1, hx.1]
  have hn : ∀ j, j < x.1.length → nth (step x r).1 j = Gf.mul (nth x.1 (lead r.1)) (nth r.1 j) ^^^ nth x.1 j := fun j hj => by
    rw [e1, nth_add _ _ _ (by rw [Gf.scale_length]; omega) hj, nth_scale _ _ _ (by omega)]
  apply lead_eq
  · intro j hj
    rw [hn j (by omega), lead_zero x.1 j hj, Nat.xor_zero]
    by_cases hlt : lead r.1 < lead x.1
    · rw [lead_zero x.1 _ hlt, Gf.zero_mul]
    · rw [lead_zero r.1 j (by omega), Gf.mul_zero]
  · rw [show (step x r).1.length = x.1.length by rw [(step_dim hx hr).1, hx.1]]; exact hlx
  · rw [hn _ hlx]
    by_cases hlt : lead r.1 < lead x.1
    · rw [lead_zero x.1 _ hlt, Gf.zero_mul, Nat.zero_xor]; exact lead_ne x.1 hlx
    · rw [lead_zero r.1 (lead x.1) (by omega), Gf.mul_zero, Nat.zero_xor]; exact lead_ne x.1 hlx
/-- Rows of k and t bytes that lead, no two at one place. -/
structure Fine (k t : Nat) (E : List Rw) : Prop where
  dims : Dims k t E
  leads : Leads E
  apart : ∀ i j, i < E.length → j < E.length → i ≠ j → lead (rwAt E i).1 ≠ lead (rwAt E j).1
theorem dims_of {k t : Nat} {E : List Rw} (h : ∀ i, i < E.length → Dim k t (rwAt E i)) : Dims k t E := fun r hr => by
  obtain ⟨i, hi, rfl⟩ := List.mem_iff_getElem.1 hr
  rw [← rwAt_eq E i hi]; exact h i hi
theorem leads_of {E : List Rw} (h : ∀ i, i < E.length → lead (rwAt E i).1 < (rwAt E i).1.length) : Leads E := fun r hr => by
  obtain ⟨i, hi, rfl⟩ := List.mem_iff_getElem.1 hr
  rw [← rwAt_eq E i hi]; exact h i hi
theorem clr1_fine {k t : Nat} {E : List Rw} (h : Fine k t E) {i j : Nat} (hi : i < E.length) (hj : j < E.length) : Fine k t (clr1 E i j) ∧ ∀ m, lead (rwAt (clr1 E i j) m).1 = lead (rwAt E m).1 := by
  unfold clr1
  split
  · exact ⟨h, fun m => rfl⟩
  · rename_i hij
    have hs := step_dim (h.dims.at hi) (h.dims.at hj)
    have hl := step_lead (h.dims.at hi) (h.dims.at hj) (h.leads.at hi) (h.apart i j hi hj fun e => hij e.symm)
    have hlead : ∀ m, lead (rwAt (E.set i (step (rwAt E i) (rwAt E j))) m).1 = lead (rwAt E m).1 := fun m => by
      rw [rwAt_set]; split
      · rename_i hm; rw [← hm.1]; exact hl
      · rfl
    refine ⟨⟨dims_of fun m hm => ?_, leads_of fun m hm => ?_, fun a b ha hb hab => ?_⟩, hlead⟩
    · rw [List.length_set] at hm
      rw [rwAt_set]; split
      · exact hs
      · exact h.dims.at hm
    · rw [List.length_set] at hm
      rw [hlead m, rwAt_set]; split
      · rename_i e; rw [← e.1, hs.1, ← (h.dims.at hi).1]; exact h.leads.at hi
      · exact h.leads.at hm
    · rw [List.length_set] at ha hb
      rw [hlead a, hlead b]; exact h.apart a b ha hb hab
theorem clrK_fine {k t : Nat} {E : List Rw} (h : Fine k t E) {i : Nat} (hi : i < E.length) : ∀ n, n ≤ E.length → Fine k t (clrK E i n)
  | 0, _ => h
  | n + 1, hn => by
    rw [clrK_succ]
    exact (clr1_fine (clrK_fine h hi n (by omega)) (by rw [clrK_length]; exact hi) (by rw [clrK_length]; omega)).1
theorem clrI_fine {k t : Nat} {E : List Rw} (h : Fine k t E) : ∀ n, n ≤ E.length → Fine k t (clrI E n)
  | 0, _ => h
  | n + 1, hn => by
    rw [clrI_succ]
    exact clrK_fine (clrI_fine h n (by omega)) (by rw [clrI_length]; omega) _ (Nat.le_refl _)

/-! ### Rows put in, one by one: they rise, and lead with a 1 -/

/-- By rising places; each leads with a 1. -/
structure Up (k t : Nat) (L : List Rw) : Prop where
  dims : Dims k t L
  leads : Leads L
  rise : L.Pairwise fun a b => lead a.1 < lead b.1
  one : ∀ r ∈ L, nth r.1 (lead r.1) = 1

theorem Up.nil (k t : Nat) : Up k t [] := ⟨fun r h => (by cases h), fun r h => (by cases h), List.Pairwise.nil, fun r h => (by cases h)⟩
theorem step_nth {k t : Nat} {x r : Rw} (hx : Dim k t x) (hr : Dim k t r) {j : Nat} (hj : j < k) : nth (step x r).1 j = Gf.mul (nth x.1 (lead r.1)) (nth r.1 j) ^^^ nth x.1 j := by
  obtain ⟨_, e⟩ := less_dim (nth_lt hx.2.2.1 (lead r.1)) hx hr
  have e1 : (step x r).1 = Gf.add (Gf.scale (nth x.1 (lead r.1)) r.1) x.1 := by unfold step; rw [e]
  rw [e1, nth_add _ _ _ (by rw [Gf.scale_length, hr.1]; exact hj) (by rw [hx.1]; exact hj), nth_scale _ _ _ (by rw [hr.1]; exact hj)]
/-- What is left has a 0 wherever one of the rows leads. -/
theorem rest_zero {k t : Nat} {L : List Rw} (h : Up k t L) {x : Rw} (hx : Dim k t x) : ∀ n, n ≤ L.length → ∀ i, i < n → nth (rest (L.take n) x).1 (lead (rwAt L i).1) = 0
  | 0, _, i, hi => by omega
  | n + 1, hn, i, hi => by
    have hlt : n < L.length := by omega
    have hd := rest_dim (h.dims.take n) hx
    have hdn := h.dims.at hlt
    have hln : lead (rwAt L i).1 < k := by rw [← (h.dims.at (show i < L.length by omega)).1]; exact h.leads.at (by omega)
    rw [rest_take_succ L x n hlt, step_nth hd hdn hln]
    by_cases e : i = n
    · subst e
      rw [h.one _ (rwAt_mem hlt), Gf.mul_one (nth_lt hd.2.2.1 _), Nat.xor_self]
    · have hlt2 : lead (rwAt L i).1 < lead (rwAt L n).1 := by
        have := List.pairwise_iff_getElem.1 h.rise i n (by omega) hlt (by omega)
        rwa [← rwAt_eq L i (by omega), ← rwAt_eq L n hlt] at this
      rw [lead_zero _ _ hlt2, Gf.mul_zero, Nat.zero_xor]
      exact rest_zero h hx n (by omega) i (by omega)
theorem take_ahead (L : List Rw) (y : Rw) : L.take (ahead L y) = L.takeWhile (fun r => decide (lead r.1 < lead y.1)) ∧ L.drop (ahead L y) = L.dropWhile (fun r => decide (lead r.1 < lead y.1)) := by
  unfold ahead
  induction L with
  | nil => exact ⟨rfl, rfl⟩
  | cons r L ih =>
    by_cases h : lead r.1 < lead y.1
    · rw [List.takeWhile_cons_of_pos (by simpa using h), List.dropWhile_cons_of_pos (by simpa using h), List.length_cons, List.take_succ_cons, List.drop_succ_cons, ih.1, ih.2]
      exact ⟨rfl, rfl⟩
    · rw [List.takeWhile_cons_of_neg (by simpa using h), List.dropWhile_cons_of_neg (by simpa using h)]
      exact ⟨rfl, rfl⟩
theorem takeWhile_lt {L : List Rw} {y r : Rw} (h : r ∈ L.takeWhile (fun r => decide (lead r.1 < lead y.1))) : lead r.1 < lead y.1 := by
  induction L with
  | nil => simp at h
  | cons a L ih =>
    by_cases ha : lead a.1 < lead y.1
    · rw [List.takeWhile_cons_of_pos (by simpa using ha), List.mem_cons] at h
      rcases h with rfl | h
      · exact ha
      · exact ih h
    · rw [List.takeWhile_cons_of_neg (by simpa using ha)] at h; cases h
theorem dropWhile_ge {L : List Rw} (hr : L.Pairwise fun a b => lead a.1 < lead b.1) {y r : Rw} (h : r ∈ L.dropWhile (fun r => decide (lead r.1 < lead y.1))) : lead y.1 ≤ lead r.1 := by
  induction L with
  | nil => simp at h
  | cons a L ih =>
    rw [List.pairwise_cons] at hr
    by_cases ha : lead a.1 < lead y.1
    · rw [List.dropWhile_cons_of_pos (by simpa using ha)] at h
      exact ih hr.2 h
    · rw [List.dropWhile_cons_of_neg (by simpa using ha), List.mem_cons] at h
      rcases h with rfl | h
      · omega
      · have := hr.1 r h; omega
theorem put_up {k t : Nat} {L : List Rw} (h : Up k t L) {y : Rw} (hy : Dim k t y) (hl : lead y.1 < y.1.length) (h1 : nth y.1 (lead y.1) = 1) (hne : ∀ r ∈ L, lead r.1 ≠ lead y.1) : Up k t (put L y) := by
  have hm : ∀ r, r ∈ put L y → r ∈ L ∨ r = y := fun r hr => by
    unfold put at hr
    rw [List.mem_append, List.mem_cons] at hr
    rcases hr with hr | rfl | hr
    · exact .inl (List.mem_of_mem_take hr)
    · exact .inr rfl
    · exact .inl (List.mem_of_mem_drop hr)
  refine ⟨fun r hr => ?_, fun r hr => ?_, ?_, fun r hr => ?_⟩
  · rcases hm r hr with h2 | rfl
    · exact h.dims r h2
    · exact hy
  · rcases hm r hr with h2 | rfl
    · exact h.leads r h2
    · exact hl
  · unfold put
    obtain ⟨e1, e2⟩ := take_ahead L y
    have hsplit := h.rise
    rw [← List.take_append_drop (ahead L y) L, List.pairwise_append] at hsplit
    rw [List.pairwise_append, List.pairwise_cons]
    refine ⟨hsplit.1, ⟨fun z hz => ?_, hsplit.2.1⟩, fun a ha b hb => ?_⟩
    · have h3 := dropWhile_ge h.rise (e2 ▸ hz)
      have h4 := hne z (List.mem_of_mem_drop hz)
      omega
    · rcases List.mem_cons.1 hb with rfl | hb
      · exact takeWhile_lt (e1 ▸ ha)
      · exact hsplit.2.2 a ha b hb
  · rcases hm r hr with h2 | rfl
    · exact h.one r h2
    · exact h1
theorem norm_lead {k t : Nat} {x : Rw} (hx : Dim k t x) : lead (norm x).1 = lead x.1 := lead_scale (normC_lt _) normC_ne hx.2.2.1
theorem insert_up {k t : Nat} {L : List Rw} (h : Up k t L) {x : Rw} (hx : Dim k t x) : Up k t (insert L x) := by
  have hr := rest_dim h.dims hx
  unfold insert
  split
  · rename_i hl
    have hle := norm_lead hr
    have hl' : lead (rest L x).1 < (rest L x).1.length := by
      rw [hle] at hl
      have : (norm (rest L x)).1.length = (rest L x).1.length := by show (Gf.scale _ _).length = _; rw [Gf.scale_length]
      rwa [this] at hl
    refine put_up h (norm_dim hr) hl ?_ fun r hrL => ?_
    · rw [hle]; exact norm_at hr.2.2.1 hl'
    · rw [hle]
      intro e
      obtain ⟨i, hi, rfl⟩ := List.mem_iff_getElem.1 hrL
      have h0 := rest_zero h hx L.length (Nat.le_refl _) i hi
      rw [List.take_length, rwAt_eq L i hi, e] at h0
      exact lead_ne _ hl' h0
  · exact h
theorem all_up {k t : Nat} {L : List Rw} (hD : Dims k t L) : ∀ n, n ≤ L.length → Up k t (all (L.take n))
  | 0, _ => Up.nil k t
  | n + 1, hn => by rw [all_take_succ L n (by omega)]; exact insert_up (all_up hD n (by omega)) (hD.at (by omega))
theorem Up.fine {k t : Nat} {L : List Rw} (h : Up k t L) : Fine k t L := ⟨h.dims, h.leads, fun i j hi hj hij => by
  rcases Nat.lt_or_gt_of_ne hij with hlt | hlt
  · have := List.pairwise_iff_getElem.1 h.rise i j hi hj hlt
    rw [← rwAt_eq L i hi, ← rwAt_eq L j hj] at this; omega
  · have := List.pairwise_iff_getElem.1 h.rise j i hj hi hlt
    rw [← rwAt_eq L i hi, ← rwAt_eq L j hj] at this; omega⟩
end Ro

end Go.Proofs.YtphdadibfeencaaGreat
