/- Texts of one seat, laid together: GridD, ElimB, ElimC, RefGridE, ElimD, MonoH, LaO, GridL, GridM, MonoL, ElimE0. -/
import Derived.Test.YtphdadibfeencaaSolveCountsQ8
import Derived.Test.YtphdadibfeencaaSolveCountsQ5
import Derived.Test.YtphdadibfeencaaSolveCountsQ7
import Derived.Test.YtphdadibfeencaaSolveCountsQ4
import Derived.Test.YtphdadibfeencaaSolveCountsQ3

/-
  Grids in the program (layer 7): 'reduced'.
-/
set_option maxRecDepth 100000
namespace Go.Proofs.Ytphdadibfeencaa
open Go.RowKit

theorem below_grownO {B : Nat} {a b c : World} {row : Option Nat} (h : Below B a b) (hg : b.grownBy c row) (hB : B ≤ b.heap.size) (hr : ∀ g, row = some g → B ≤ g) : Below B a c := by
  cases row with
  | some g => exact below_grown h hg hB (hr g rfl)
  | none => exact below_grown (g := b.heap.size) h ⟨hg.os, hg.tape, hg.output, hg.size, fun k hk _ => hg.block k hk (by simp)⟩ hB hB
/-- A row stored into its box. -/
theorem store_box {w : World} {g : Nat} {x y : Value} {T : TypeId} (hk : Blk w g #[x, y] T) (hn : NoU8 #[x, y]) {a a' : Option Addr} {c c' : Nat} {p q : List Nat} (h1 : Bytes w (.slice a p.length c) p) (h2 : Bytes w (.slice a' q.length c') q) :
    w.grownBy ((w.setCell ⟨g, 0, none⟩ (.slice a p.length c)).setCell ⟨g, 1, none⟩ (.slice a' q.length c')) (some g) ∧ Soft w ((w.setCell ⟨g, 0, none⟩ (.slice a p.length c)).setCell ⟨g, 1, none⟩ (.slice a' q.length c')) ∧
      ERow ((w.setCell ⟨g, 0, none⟩ (.slice a p.length c)).setCell ⟨g, 1, none⟩ (.slice a' q.length c')) g T p q :=
  store_row (p := p) (q := q) hk hn (v := .agg #[.slice a p.length c, .slice a' q.length c']) ⟨_, _, rfl, h1, h2⟩ fun b d b' d' e => by
    simp only [Value.agg.injEq, Array.mk.injEq, List.cons.injEq, and_true] at e
    exact ⟨_, _, rfl, rfl, e.1, e.2⟩

end Go.Proofs.Ytphdadibfeencaa

/-
  Systems of equations in the program (layer 8): 'without', 'place'.
-/
set_option maxRecDepth 100000
namespace Go.Proofs.Ytphdadibfeencaa
open Go.RowKit

/-- A row, and where it leads. -/
def IsLed (w : World) (v : Value) (r : Rw) : Prop := ∃ a b, v = .agg #[a, b, .int .i64 (lead r.1 : Int)] ∧ Bytes w a r.1 ∧ Bytes w b r.2
theorem IsLed.go {w w' : World} {v : Value} {r : Rw} (h : IsLed w v r) (hb : Below w.heap.size w w') : IsLed w' v r := by
  obtain ⟨a, b, e, h1, h2⟩ := h; exact ⟨a, b, e, h1.go hb, h2.go hb⟩

set_option maxHeartbeats 1000000 in
theorem ewithout_any (u v : Value) (x r : Rw) (k t : Nat) (w : World) (hu : IsRow w u x.1 x.2) (hv : IsLed w v r) (hx : Ro.Dim k t x) (hr : Ro.Dim k t r) (hk : k ≤ 10000000) (ht : t ≤ 10000000) (hl : lead r.1 < r.1.length) :
    Calls Try.prog 62 #[u, v] w (RowsV w (Ro.step x r).1 (Ro.step x r).2) := by
  obtain ⟨v0, d0, rfl, hp, hq⟩ := hu
  obtain ⟨v1, d1, rfl, hp', hq'⟩ := hv
  have HP := Lib.hid hp
  have HQ := Lib.hid hq
  have HP' := Lib.hid hp'
  have HQ' := Lib.hid hq'
  obtain ⟨a0, c0, rfl, _⟩ := hp
  obtain ⟨a1, c1, rfl, _⟩ := hq
  obtain ⟨a2, c2, rfl, _⟩ := hp'
  obtain ⟨a3, c3, rfl, _⟩ := hq'
  have HAT := Lib.hid (show atI x.1 (lead r.1 : Int) = nth x.1 (lead r.1) by unfold atI; rw [if_pos ⟨by omega, by have := hx.1; have := hr.1; omega⟩]; rfl)
  have HC := nth_lt hx.2.2.1 (lead r.1)
  have HX := Lib.hid hx
  have HR := Lib.hid hr
  have hl1 := hx.1
  have hl2 := hx.2.1
  have hl3 := hr.1
  have hl4 := hr.2.1
  have L1 : r.1.length ≤ 10000000 := by omega
  have L2 : r.2.length ≤ 10000000 := by omega
  have E1 := Lib.hid (show r.1.length = x.1.length by omega)
  have E2 := Lib.hid (show r.2.length = x.2.length by omega)
  clear hx hr hl hl1 hl2 hl3 hl4
  by_cases h0 : nth x.1 (lead r.1) = 0
  · have hb : ((nth x.1 (lead r.1) : Int) == 0) = true := by rw [h0]; rfl
    have HST := Lib.hid (step_same HX.out HR.out h0)
    clear h0
    go_enter Try.func62, Try.ntmps62
    go_wp2_with fail
    obtain ⟨B, hk1, hk2, hk3, hs⟩ := blocks3 w #[.slice a0 x.1.length c0, .slice a1 x.2.length c1] 52 #[.slice a2 r.1.length c2, .slice a3 r.2.length c3, .int .i64 (lead r.1 : Int)] 102 #[.slice none 0 0, .slice none 0 0] 52
    generalize (((w.alloc (.cells #[.slice a0 x.1.length c0, .slice a1 x.2.length c1] 52)).alloc (.cells #[.slice a2 r.1.length c2, .slice a3 r.2.length c3, .int .i64 (lead r.1 : Int)] 102)).alloc (.cells #[.slice none 0 0, .slice none 0 0] 52)) = W at *
    have K1 := Lib.hid hk1
    have K2 := Lib.hid hk2
    have K3 := Lib.hid hk3
    have HS := Lib.hid hs
    clear hs hk1 hk2 hk3
    replace HP := Lib.hid (HP.out.go B)
    replace HQ := Lib.hid (HQ.out.go B)
    replace HP' := Lib.hid (HP'.out.go B)
    replace HQ' := Lib.hid (HQ'.out.go B)
    have hzW := B.size
    obtain ⟨k10, k11⟩ := K1.out.two
    have k1l := K1.out.lt
    have k20 := K2.out.cell 0
    have k21 := K2.out.cell 1
    have k22 := K2.out.cell 2
    have k2l := K2.out.lt
    go_wp2_with fail
    refine (at_any _ x.1 _ _ HP.out).mono ?_
    rintro e w' ⟨rfl, rfl⟩
    rw [HAT.out]
    obtain ⟨k30, k31⟩ := K3.out.two
    have k3l := K3.out.lt
    obtain ⟨k3f0, k3f1⟩ := K3.out.fre2
    go_wp2_with fail
    obtain ⟨e0, e1, hB, hS⟩ := store2 K3.out (by omega) B (slice_ne _ _ _) (slice_ne _ _ _) (.slice a0 x.1.length c0) (.slice a1 x.2.length c1)
    exact bodyPost_ret (v := .agg #[.slice a0 x.1.length c0, .slice a1 x.2.length c1]) (by simp [results, Try.results62, go_sem, e0, e1]) rfl
      ⟨_, rfl, ⟨_, _, rfl, by rw [HST.out]; exact hS _ _ HP.out, by rw [HST.out]; exact hS _ _ HQ.out⟩, hB⟩
  · have hb : ((nth x.1 (lead r.1) : Int) == 0) = false := beq_eq_false_iff_ne.2 (by omega)
    have HST := Lib.hid (step_pair HX.out HR.out)
    clear h0
    go_enter Try.func62, Try.ntmps62
    go_wp2_with fail
    obtain ⟨B, hk1, hk2, hk3, hs⟩ := blocks3 w #[.slice a0 x.1.length c0, .slice a1 x.2.length c1] 52 #[.slice a2 r.1.length c2, .slice a3 r.2.length c3, .int .i64 (lead r.1 : Int)] 102 #[.slice none 0 0, .slice none 0 0] 52
    generalize (((w.alloc (.cells #[.slice a0 x.1.length c0, .slice a1 x.2.length c1] 52)).alloc (.cells #[.slice a2 r.1.length c2, .slice a3 r.2.length c3, .int .i64 (lead r.1 : Int)] 102)).alloc (.cells #[.slice none 0 0, .slice none 0 0] 52)) = W at *
    have K1 := Lib.hid hk1
    have K2 := Lib.hid hk2
    have K3 := Lib.hid hk3
    have HS := Lib.hid hs
    clear hs hk1 hk2 hk3
    replace HP := Lib.hid (HP.out.go B)
    replace HQ := Lib.hid (HQ.out.go B)
    replace HP' := Lib.hid (HP'.out.go B)
    replace HQ' := Lib.hid (HQ'.out.go B)
    have hzW := B.size
    obtain ⟨k10, k11⟩ := K1.out.two
    have k1l := K1.out.lt
    have k20 := K2.out.cell 0
    have k21 := K2.out.cell 1
    have k22 := K2.out.cell 2
    have k2l := K2.out.lt
    go_wp2_with fail
    refine (at_any _ x.1 _ _ HP.out).mono ?_
    rintro e w' ⟨rfl, rfl⟩
    rw [HAT.out]
    go_wp2_with fail
    refine (vecless_yes _ _ _ _ _ _ _ _ (nth x.1 (lead r.1)) x.1 x.2 r.1 r.2 _ HC HP.out HQ.out HP'.out HQ'.out L1 L2 E1.out E2.out).mono ?_
    rintro e w4 ⟨u4, rfl, hu4, hb⟩
    replace K3 := Lib.hid (K3.out.go hb)
    replace B := B.trans (hb.mono B.size)
    have hzw4 := B.size
    clear hb
    obtain ⟨y0, y1, rfl, V1, V2⟩ := hu4
    have H1 := Lib.hid V1
    have H2 := Lib.hid V2
    obtain ⟨a4, c4, rfl, _⟩ := V1
    obtain ⟨a5, c5, rfl, _⟩ := V2
    obtain ⟨k30, k31⟩ := K3.out.two
    have k3l := K3.out.lt
    obtain ⟨k3f0, k3f1⟩ := K3.out.fre2
    go_wp2_with fail
    obtain ⟨e0, e1, hB, hS⟩ := store2 K3.out (by omega) B (slice_ne _ _ _) (slice_ne _ _ _) (.slice a4 (Gf.add (Gf.scale (nth x.1 (lead r.1)) r.1) x.1).length c4) (.slice a5 (Gf.add (Gf.scale (nth x.1 (lead r.1)) r.2) x.2).length c5)
    have H3 := Lib.hid (hS _ _ H1.out)
    have H4 := Lib.hid (hS _ _ H2.out)
    clear hS k30 k31 k3l k3f0 k3f1
    generalize (w4.setCell ⟨w.heap.size + 1 + 1, 0, none⟩ (.slice a4 (Gf.add (Gf.scale (nth x.1 (lead r.1)) r.1) x.1).length c4)).setCell ⟨w.heap.size + 1 + 1, 1, none⟩ (.slice a5 (Gf.add (Gf.scale (nth x.1 (lead r.1)) r.2) x.2).length c5) = W5 at *
    obtain ⟨hb, hk, hs⟩ := blocks1 W5 #[.slice a4 (Gf.add (Gf.scale (nth x.1 (lead r.1)) r.1) x.1).length c4, .slice a5 (Gf.add (Gf.scale (nth x.1 (lead r.1)) r.2) x.2).length c5] 52
    replace e0 := cell_keep e0 hb
    replace e1 := cell_keep e1 hb
    have hB2 := hB.trans (hb.mono hB.size)
    have G3 := H3.out.go hb
    have G4 := H4.out.go hb
    clear hk hs hb
    generalize W5.alloc (.cells #[.slice a4 (Gf.add (Gf.scale (nth x.1 (lead r.1)) r.1) x.1).length c4, .slice a5 (Gf.add (Gf.scale (nth x.1 (lead r.1)) r.2) x.2).length c5] 52) = W6 at *
    exact bodyPost_ret (v := .agg #[.slice a4 (Gf.add (Gf.scale (nth x.1 (lead r.1)) r.1) x.1).length c4, .slice a5 (Gf.add (Gf.scale (nth x.1 (lead r.1)) r.2) x.2).length c5]) (by simp [results, Try.results62, go_sem, e0, e1]) rfl
      ⟨_, rfl, ⟨_, _, rfl, by rw [HST.out]; exact G3, by rw [HST.out]; exact G4⟩, hB2⟩

/-- A system: of k symbols, of t bytes; its rows. -/
def IsE (w : World) (B g : Nat) (v : Value) (k t : Nat) (E : List Rw) : Prop := Blk w g #[.int .i64 (k : Int), .int .i64 (t : Int), v] 88 ∧ OwnE w B v E ∧ B ≤ g
theorem IsE.go {w w' : World} {B g k t : Nat} {v : Value} {E : List Rw} (h : IsE w B g v k t E) (hb : Below w.heap.size w w') : IsE w' B g v k t E := ⟨h.1.go hb, h.2.1.go hb, h.2.2⟩

set_option maxHeartbeats 1000000 in
theorem placepred_any (bx lx g B k t : Nat) (v : Value) (E : List Rw) (i : Nat) (ld : Int) (w : World) (hbx : w.cell? ⟨bx, 0, none⟩ = some (.pointer (some ⟨g, 0, none⟩))) (hlx : w.cell? ⟨lx, 0, none⟩ = some (.int .i64 ld)) (hE : IsE w B g v k t E) (hi : i < E.length) :
    Calls Try.prog 83 #[.int .i64 (i : Int), .pointer (some ⟨bx, 0, none⟩), .pointer (some ⟨lx, 0, none⟩)] w fun e w' => e = .returned (.bool (decide (ld ≤ (lead (rwAt E i).1 : Int)))) ∧ Below w.heap.size w w' := by
  obtain ⟨h1, h2, h3⟩ := hE
  obtain ⟨b, c, rfl, _, _⟩ := h2.addr (by omega)
  obtain ⟨a1, b1, a2, b2, c1, c2, c3, _, _⟩ := h2.cells i hi
  have k0 := h1.cell 2
  have k1 : (0 : Int) ≤ (i : Int) := Int.natCast_nonneg _
  have k2 : (i : Int) < (E.length : Int) := by omega
  clear h1 h2 hi c1 c2
  go_enter Try.func83, Try.ntmps83
  go_wp2_with fail
  go_quiet (skip)
  go_wp2_with fail
  go_ret
  exact ⟨rfl, below_drews _ _⟩

end Go.Proofs.Ytphdadibfeencaa

/-
  Systems of equations in the program (layer 8): 'place', 'New', 'Size', 'Rank'.
-/
set_option maxRecDepth 100000
namespace Go.Proofs.Ytphdadibfeencaa
open Go.RowKit

/-- What place answers. -/
def PlaceV (w : World) (E : List Rw) (ld : Int) (e : Ending) (w' : World) : Prop := ∃ r : Nat, e = .returned (.int .i64 (r : Int)) ∧ (r ≤ E.length ∧ (0 < r → ¬ ld ≤ (lead (rwAt E (r - 1)).1 : Int)) ∧ (r < E.length → ld ≤ (lead (rwAt E r).1 : Int))) ∧ Below w.heap.size w w'

set_option maxHeartbeats 1000000 in
theorem place_any (g B0 k t : Nat) (v : Value) (E : List Rw) (ld : Int) (w : World) (hE : IsE w B0 g v k t E) (hlen : E.length ≤ 1000000) :
    Calls Try.prog 66 #[.pointer (some ⟨g, 0, none⟩), .int .i64 ld] w (PlaceV w E ld) := by
  have HE := Lib.hid hE
  obtain ⟨va, vc, rfl⟩ := hE.2.1.shape
  have k0 : w.cell? ⟨g, 2, none⟩ = some (.slice va E.length vc) := hE.1.cell 2
  have kl := hE.1.lt
  have hmf : ∀ (fn : Fn) (first cap : Array Value) (w : World), (Instr.makeFunc fn first cap).run Try.prog w = .ok (.func fn first cap) w := fun _ _ _ _ => rfl
  clear hE
  go_enter Try.func66, Try.ntmps66
  go_wp2_with fail
  obtain ⟨B, hk1, hk2, hs⟩ := blocks2 w #[.pointer (some ⟨g, 0, none⟩)] 64 #[.int .i64 ld] 3
  generalize ((w.alloc (.cells #[.pointer (some ⟨g, 0, none⟩)] 64)).alloc (.cells #[.int .i64 ld] 3)) = W at *
  have K1 := Lib.hid hk1
  have K2 := Lib.hid hk2
  have HS := Lib.hid hs
  clear hs hk1 hk2
  replace HE := Lib.hid (HE.out.go B)
  have hzW := B.size
  have HCB := Lib.hid (show W.cell? ⟨w.heap.size, 0, none⟩ = some (.pointer (some ⟨g, 0, none⟩)) from K1.out.cell 0)
  have HCL := Lib.hid (show W.cell? ⟨w.heap.size + 1, 0, none⟩ = some (.int .i64 ld) from K2.out.cell 0)
  clear k0 kl
  refine (searchPlace_any (.pointer (some ⟨w.heap.size, 0, none⟩)) (.pointer (some ⟨w.heap.size + 1, 0, none⟩)) E.length (fun i => decide (ld ≤ (lead (rwAt E i).1 : Int))) _ (by omega) (fun wq hb i hi => placepred_any _ _ g B0 k t _ E i ld wq (cell_keep HCB.out hb) (cell_keep HCL.out hb) (HE.out.go hb) hi)).mono ?_
  rintro e w7 ⟨r, rfl, hrl, hr0, hr1, hb⟩
  replace B := B.trans (hb.mono B.size)
  have hzw7 := B.size
  clear hb
  go_wp2_with fail
  go_ret
  exact ⟨r, rfl, ⟨hrl, fun h => by simpa using hr0 h, fun h => by simpa using hr1 h⟩, B⟩

theorem IsE.c0 {w : World} {B g k t : Nat} {v : Value} {E : List Rw} (h : IsE w B g v k t E) : w.cell? ⟨g, 0, none⟩ = some (.int .i64 (k : Int)) := h.1.cell 0
theorem IsE.c1 {w : World} {B g k t : Nat} {v : Value} {E : List Rw} (h : IsE w B g v k t E) : w.cell? ⟨g, 1, none⟩ = some (.int .i64 (t : Int)) := h.1.cell 1
theorem IsE.c2 {w : World} {B g k t : Nat} {v : Value} {E : List Rw} (h : IsE w B g v k t E) : w.cell? ⟨g, 2, none⟩ = some v := h.1.cell 2

set_option maxHeartbeats 1000000 in
theorem erank_any (g B0 k t : Nat) (v : Value) (E : List Rw) (w : World) (hE : IsE w B0 g v k t E) :
    Calls Try.prog 26 #[.pointer (some ⟨g, 0, none⟩)] w fun e w' => e = .returned (.int .i64 (E.length : Int)) ∧ w = w' := by
  obtain ⟨va, vc, rfl⟩ := hE.2.1.shape
  have k0 := hE.c2
  clear hE
  go_enter Try.func26, Try.ntmps26
  go_wp2_with fail
  go_ret
  exact ⟨rfl, rfl⟩
/-- Is a system of this size made? -/
def newOk (k t : Int) : Prop := 1 ≤ k ∧ k ≤ 4096 ∧ 0 ≤ t ∧ t ≤ 65535
theorem enew_no (k t : Int) (w : World) (h : ¬ newOk k t) :
    Calls Try.prog 22 #[.int .i64 k, .int .i64 t] w fun e w' => e = .returned (.tuple #[.pointer none, I64 2]) ∧ Below w.heap.size w w' := by
  unfold newOk at h
  have h4 : k < 1 ∨ (¬ k < 1 ∧ 4096 < k) ∨ (¬ k < 1 ∧ ¬ 4096 < k ∧ t < 0) ∨ (¬ k < 1 ∧ ¬ 4096 < k ∧ ¬ t < 0 ∧ 65535 < t) := by omega
  clear h
  rcases h4 with h1 | ⟨h1, h2⟩ | ⟨h1, h2, h3⟩ | ⟨h1, h2, h3, h4⟩
  all_goals
    go_enter Try.func22, Try.ntmps22
    go_wp2_with fail
    go_ret2
    exact ⟨rfl, Below.refl _ _⟩
theorem enew_yes (k t : Nat) (w : World) (h : newOk (k : Int) (t : Int)) :
    Calls Try.prog 22 #[.int .i64 (k : Int), .int .i64 (t : Int)] w fun e w' => ∃ g, e = .returned (.tuple #[.pointer (some ⟨g, 0, none⟩), I64 0]) ∧ IsE w' w.heap.size g (.slice none 0 0) k t [] ∧ Below w.heap.size w w' := by
  obtain ⟨h1, h2, h3, h4⟩ := h
  have h5 : ¬ (k : Int) < 1 := by omega
  have h6 : ¬ 4096 < (k : Int) := by omega
  have h7 : ¬ (t : Int) < 0 := by omega
  have h8 : ¬ 65535 < (t : Int) := by omega
  clear h1 h2 h3 h4
  go_enter Try.func22, Try.ntmps22
  go_wp2_with fail
  go_ret2
  exact ⟨_, rfl, ⟨Blk.new _ _ _ _ rfl, OwnE.nil _ _, Nat.le_refl _⟩, (Below.refl _ _).alloc (Nat.le_refl _) _⟩

end Go.Proofs.Ytphdadibfeencaa

/-
  The document's answer for grids (wellspringref07), in the program: 'Turned', 'Mul'.
-/
set_option maxRecDepth 100000
namespace Go.Proofs.Ytphdadibfeencaa
open Go.RowKit

/-- Rows of bytes. -/
def OctM (ll : List (List Nat)) : Prop := ∀ r ∈ ll, ∀ x, x ∈ r → x < 256
theorem IsRows.oct {w : World} {v : Value} {ll : List (List Nat)} (h : IsRows w v ll) : OctM ll := by
  obtain ⟨a, cap, rfl, _, _, h4⟩ := h
  intro r hr x hx
  obtain ⟨i, hi, rfl⟩ := List.mem_iff_getElem.1 hr
  obtain ⟨b, off, _, _, hc⟩ := h4 (by intro e; rw [e] at hi; simp at hi)
  obtain ⟨u, _, hB⟩ := hc i hi
  rw [rowAt_eq ll i hi] at hB
  exact hB.lt x hx
end Go.Proofs.Ytphdadibfeencaa

/-
  Systems of equations in the program (layer 8): 'Rest'.
-/
set_option maxRecDepth 100000
namespace Go.Proofs.Ytphdadibfeencaa
open Go.RowKit

theorem Blk.ne {w : World} {g b : Nat} {vs us : Array Value} {T T' : TypeId} (h : Blk w g vs T) (k : Blk w b us T') (hT : T ≠ T') : g ≠ b := fun e => by
  subst e
  unfold Blk at h k
  rw [h] at k
  simp only [Option.some.injEq, Obj.cells.injEq] at k
  exact hT k.2.1
/-- Another box was written. -/
theorem IsE.other {w w' : World} {B g b k t : Nat} {v : Value} {E : List Rw} {us : Array Value} {T' : TypeId} (h : IsE w B g v k t E) (hg : w.grownBy w' (some b)) (hs : Soft w w') (hk : Blk w b us T') (h1 : 88 ≠ T') (h2 : 102 ≠ T') : IsE w' B g v k t E :=
  ⟨h.1.grown hg (by simpa using h.1.ne hk h1), h.2.1.other hg hs (h.2.1.ne_box hk h2), h.2.2⟩
theorem IsE.lt {w : World} {B g k t : Nat} {v : Value} {E : List Rw} (h : IsE w B g v k t E) : g < w.heap.size := h.1.lt

set_option maxHeartbeats 2000000 in
theorem erest_any (g B0 k t : Nat) (v u : Value) (E : List Rw) (x : Rw) (w : World) (hE : IsE w B0 g v k t E) (hu : IsRow w u x.1 x.2) (hx : Ro.Dim k t x) (hD : Ro.Dims k t E) (hL : Ro.Leads E) (hk : k ≤ 10000000) (ht : t ≤ 10000000) (hlen : E.length ≤ 1000000) :
    Calls Try.prog 46 #[.pointer (some ⟨g, 0, none⟩), u] w (RowsE w (Ro.rest E x).1 (Ro.rest E x).2 0) := by
  obtain ⟨v0, d0, rfl, hp, hq⟩ := hu
  have HP := Lib.hid hp
  have HQ := Lib.hid hq
  obtain ⟨a0, c0, rfl, _⟩ := hp
  obtain ⟨a1, c1, rfl, _⟩ := hq
  have HE := Lib.hid hE
  obtain ⟨va, vc, rfl⟩ := hE.2.1.shape
  have HX := Lib.hid hx
  have HD := Lib.hid hD
  have HL := Lib.hid hL
  have hb1 : ((x.1.length : Int) != (k : Int)) = false := by rw [hx.1]; simp
  have hb2 : ((x.2.length : Int) != (t : Int)) = false := by rw [hx.2.1]; simp
  have L1 : x.1.length ≤ 10000000 := by have := hx.1; omega
  have L2 : x.2.length ≤ 10000000 := by have := hx.2.1; omega
  clear hE hx hD hL
  go_enter Try.func46, Try.ntmps46
  go_wp2_with fail
  obtain ⟨B, hk1, hk2, hs⟩ := blocks2 w #[.slice a0 x.1.length c0, .slice a1 x.2.length c1] 52 #[.slice none 0 0, .slice none 0 0] 52
  generalize ((w.alloc (.cells #[.slice a0 x.1.length c0, .slice a1 x.2.length c1] 52)).alloc (.cells #[.slice none 0 0, .slice none 0 0] 52)) = W at *
  have K1 := Lib.hid hk1
  have K2 := Lib.hid hk2
  have HS := Lib.hid hs
  clear hs hk1 hk2
  replace HP := Lib.hid (HP.out.go B)
  replace HQ := Lib.hid (HQ.out.go B)
  replace HE := Lib.hid (HE.out.go B)
  have hzW := B.size
  obtain ⟨k10, k11⟩ := K1.out.two
  have k1l := K1.out.lt
  have k0 := HE.out.c0
  have k1 := HE.out.c1
  have kl := HE.out.lt
  go_quiet (skip)
  have hdn := below_drews W nq
  replace HP := Lib.hid (HP.out.go hdn)
  replace HQ := Lib.hid (HQ.out.go hdn)
  replace HE := Lib.hid (HE.out.go hdn)
  replace K1 := Lib.hid (K1.out.go hdn)
  replace K2 := Lib.hid (K2.out.go hdn)
  replace B := B.trans (hdn.mono B.size)
  clear hdn k10 k11 k0 k1 kl k1l
  generalize W.drewN nq = W3 at *
  obtain ⟨k10, k11⟩ := K1.out.two
  have k1l := K1.out.lt
  go_wp2_with fail
  refine (rowclone_any _ x.1 x.2 _ ⟨_, _, rfl, HP.out, HQ.out⟩ (by omega) (by omega)).mono ?_
  rintro e w4 ⟨u4, rfl, hu4, hb⟩
  replace HE := Lib.hid (HE.out.go hb)
  replace K2 := Lib.hid (K2.out.go hb)
  replace B := B.trans (hb.mono B.size)
  have hzw4 := B.size
  clear hb
  clear HP HQ K1 k10 k11 k1l
  obtain ⟨y0, y1, rfl, hp4, hq4⟩ := hu4
  have HP := Lib.hid hp4
  have HQ := Lib.hid hq4
  obtain ⟨a4, c4, rfl, _⟩ := hp4
  obtain ⟨a5, c5, rfl, _⟩ := hq4
  have k2 := HE.out.c2
  have kl := HE.out.lt
  go_wp2_with fail
  obtain ⟨g6, hg6⟩ : ∃ g6 : Nat, g6 = w4.heap.size := ⟨_, rfl⟩
  have HG6 := Lib.hid (show w.heap.size + 1 < g6 by have := K2.out.lt; omega)
  obtain ⟨hb, hk, hs⟩ := blocks1 w4 #[.slice a4 x.1.length c4, .slice a5 x.2.length c5] 52
  generalize w4.alloc (.cells #[.slice a4 x.1.length c4, .slice a5 x.2.length c5] 52) = W5 at *
  have K6 := Lib.hid hk
  replace HE := Lib.hid (HE.out.go hb)
  replace K2 := Lib.hid (K2.out.go hb)
  replace HP := Lib.hid (HP.out.go hb)
  replace HQ := Lib.hid (HQ.out.go hb)
  replace B := B.trans (hb.mono B.size)
  have hzW5 := B.size
  clear hb hk hs
  rw [← hg6] at K6
  simp only [← hg6]
  clear k2 kl hg6
  go_loopw [8, 38] (fun _ i wr => ∃ j : Nat, j ≤ E.length ∧ i = .int .i64 j ∧ Below w.heap.size w wr ∧ ERow wr g6 52 (Ro.rest (E.take j) x).1 (Ro.rest (E.take j) x).2 ∧ IsE wr B0 g (.slice va E.length vc) k t E ∧ Blk wr (w.heap.size + 1) #[.slice none 0 0, .slice none 0 0] 52) (fun _ i _ => E.length - (intOf i).toNat)
  case atStart => exact ⟨0, by omega, rfl, B, ⟨a4, c4, a5, c5, K6.out, _, _, rfl, HP.out, HQ.out⟩, HE.out, K2.out⟩
  case round =>
    clear K6 HP HQ HE K2 B hzW5
    obtain ⟨j, hj, rfl, B, hER, hE, hK⟩ := hrel
    have HE := Lib.hid hE
    have K2 := Lib.hid hK
    obtain ⟨ya, yc, za, zc, hk5, hr5⟩ := hER
    obtain ⟨_, _, er5, hyb, hzb⟩ := hr5
    simp only [Value.agg.injEq, Array.mk.injEq, List.cons.injEq, and_true] at er5
    obtain ⟨rfl, rfl⟩ := er5
    obtain ⟨y, hy⟩ : ∃ y, y = Ro.rest (E.take j) x := ⟨_, rfl⟩
    rw [← hy] at hk5 hyb hzb
    have HYD := Lib.hid (show Ro.Dim k t y by rw [hy]; exact Ro.rest_dim (HD.out.take j) HX.out)
    have HY := Lib.hid hy
    have K6 := Lib.hid hk5
    have HYB := Lib.hid hyb
    have HZB := Lib.hid hzb
    clear hy hk5 hyb hzb hE hK
    by_cases hjl : j < E.length
    · obtain ⟨g', c', er, hBg, hgl⟩ := HE.out.2.1.addr (by omega)
      simp only [Value.slice.injEq] at er
      obtain ⟨rfl, -, rfl⟩ := er
      obtain ⟨ra, rc, sa, sc, hr0, hr1, hr2, hrb, hsb⟩ := HE.out.2.1.cells j hjl
      have HRB := Lib.hid hrb
      have HSB := Lib.hid hsb
      have HDJ := Lib.hid (HD.out.at hjl)
      have HLJ := Lib.hid (HL.out.at hjl)
      have HNX := Lib.hid (show Ro.rest (E.take (j + 1)) x = Ro.step y (rwAt E j) by rw [Ro.rest_take_succ E x j hjl, ← HY.out])
      have j1 : (j : Int) < (E.length : Int) := by omega
      have j0 : (0 : Int) ≤ (j : Int) := Int.natCast_nonneg _
      clear hrb hsb
      obtain ⟨k60, k61⟩ := K6.out.two
      have k6l := K6.out.lt
      go_wp2_with fail
      clear k60 k61 k6l
      obtain ⟨hb, hk, hs⟩ := blocks1 wr #[.slice ra (rwAt E j).1.length rc, .slice sa (rwAt E j).2.length sc, .int .i64 (lead (rwAt E j).1 : Int)] 102
      generalize wr.alloc (.cells #[.slice ra (rwAt E j).1.length rc, .slice sa (rwAt E j).2.length sc, .int .i64 (lead (rwAt E j).1 : Int)] 102) = W6 at *
      have K8 := Lib.hid hk
      replace HE := Lib.hid (HE.out.go hb)
      replace K2 := Lib.hid (K2.out.go hb)
      replace K6 := Lib.hid (K6.out.go hb)
      replace HYB := Lib.hid (HYB.out.go hb)
      replace HZB := Lib.hid (HZB.out.go hb)
      replace HRB := Lib.hid (HRB.out.go hb)
      replace HSB := Lib.hid (HSB.out.go hb)
      replace B := B.trans (hb.mono B.size)
      have hzW6 := B.size
      clear hb hk hs
      clear hr0 hr1 hr2
      refine (ewithout_any _ _ y (rwAt E j) k t _ ⟨_, _, rfl, HYB.out, HZB.out⟩ ⟨_, _, rfl, HRB.out, HSB.out⟩ HYD.out HDJ.out hk ht HLJ.out).mono ?_
      rintro e w7 ⟨u7, rfl, hu7, hb⟩
      replace HE := Lib.hid (HE.out.go hb)
      replace K2 := Lib.hid (K2.out.go hb)
      replace K6 := Lib.hid (K6.out.go hb)
      replace B := B.trans (hb.mono B.size)
      have hzw7 := B.size
      clear hb
      obtain ⟨ua, uc, va', vc', rfl⟩ := hu7.shape
      obtain ⟨_, _, er7, hub, hvb⟩ := hu7
      simp only [Value.agg.injEq, Array.mk.injEq, List.cons.injEq, and_true] at er7
      obtain ⟨rfl, rfl⟩ := er7
      have HUB := Lib.hid hub
      have HVB := Lib.hid hvb
      clear hub hvb
      obtain ⟨k60, k61⟩ := K6.out.two
      have k6l := K6.out.lt
      obtain ⟨k6f0, k6f1⟩ := K6.out.fre2
      go_wp2_with fail
      obtain ⟨hg, hs, hER⟩ := store_box K6.out (noU8_two _ _ (slice_ne _ _ _) (slice_ne _ _ _)) HUB.out HVB.out
      have HE2 := Lib.hid hER
      have HB2 := Lib.hid (below_grown B hg B.size (by have := HG6.out; omega))
      have HK2 := Lib.hid (K2.out.grown hg (by have := HG6.out; simp; omega))
      have HO2 := Lib.hid (HE.out.other hg hs K6.out (by decide) (by decide))
      clear hg hs hER
      go_roundw
      case rel => exact ⟨j + 1, by omega, by go_num, HB2.out, by rw [HNX.out]; exact HE2.out, HO2.out, HK2.out⟩
      case measure => simp [intOf]; omega
    · obtain rfl : j = E.length := by omega
      rw [List.take_length] at HY
      obtain ⟨k60, k61⟩ := K6.out.two
      have k6l := K6.out.lt
      obtain ⟨k20, k21⟩ := K2.out.two
      have k2l := K2.out.lt
      obtain ⟨k2f0, k2f1⟩ := K2.out.fre2
      go_wp2_with fail
      obtain ⟨e0, e1, hB, hS⟩ := store2 K2.out (by omega) B (slice_ne _ _ _) (slice_ne _ _ _) (.slice ya y.1.length yc) (.slice za y.2.length zc)
      exact bodyPost_ret (v := .tuple #[.agg #[.slice ya y.1.length yc, .slice za y.2.length zc], I64 0]) (by simp [results, Try.results46, go_sem, e0, e1]) rfl
        ⟨_, rfl, ⟨_, _, rfl, by rw [← HY.out]; exact hS _ _ HYB.out, by rw [← HY.out]; exact hS _ _ HZB.out⟩, hB⟩

end Go.Proofs.Ytphdadibfeencaa

/-
  A region that draws its order, makes a grid, and stores it at last into a box that was there.
-/
set_option maxRecDepth 100000
namespace Go.Proofs.Ytphdadibfeencaa
open Go.RowKit

section
variable {P : Program} {C : World → Prop} {R : World → World → Prop} {H : Nat → World → World → Prop} {a : Act} {w : World} {o : Oper} {Q : Exit → Act → World → Prop}
/-- A struct of two. -/
theorem ob_build2 {T : Ty C R H} {t : Tmp} {x y : Operand} {E : TypeId} {p q : Value} (v : Value) (hS : T.S = [t]) (hh : T.kind = none) (hd : o.dst = some t) (hlt : t < a.tmps.size) (hop : o.op = .build E #[(0, x), (1, y)]) (hx : a.eval x = p) (hy : a.eval y = q)
    (hrun : (Instr.build E #[(0, p), (1, q)]).run P w = .ok v w) (hR : R w w) (hF : T.F [v] w) : Done P T Q o a w := by
  refine ob_value v w hS hh hd hlt ?_ hR hF
  simp [execOp, hop, hx, hy, hrun]
end
section
variable {W : World} {g : Nat}
end

end Go.Proofs.Ytphdadibfeencaa

/-
  Grids as matrices (layer 7): turned, multiplied, and their determinants. No program in this text.
-/
set_option maxRecDepth 100000
namespace Go.Proofs.Ytphdadibfeencaa
open La

/-- A grid as a matrix. -/
def mat (ll : List (List Nat)) : Nat → Vc := fun i => fv (rowAt ll i)
theorem rowAt_oct {ll : List (List Nat)} (h : OctM ll) (i : Nat) : Oct (rowAt ll i) := by
  by_cases hi : i < ll.length
  · rw [rowAt_eq ll i hi]; exact h _ (List.getElem_mem hi)
  · have : rowAt ll i = [] := by unfold rowAt; rw [List.getD_eq_getElem?_getD, List.getElem?_eq_none (by omega)]; rfl
    rw [this]; intro z hz; cases hz
theorem mat_short {ll : List (List Nat)} {k : Nat} (hk : ∀ j, j < ll.length → (rowAt ll j).length = k) {i : Nat} (hi : i < ll.length) : Short k (mat ll i) := fv_short' (hk i hi)

/-- A combination, as one of vectors. -/
theorem combAt_sm {cs : List Nat} {ll : List (List Nat)} (hc : Oct cs) (hO : OctM ll) (j : Nat) : ∀ n, bt (combAt cs ll j n) = sm (fun t => bt (nth cs t) * mat ll t j) n
  | 0 => rfl
  | n + 1 => by
    show bt (combAt cs ll j n ^^^ Gf.mul (nth cs n) (nth (rowAt ll n) j)) = sm _ n + bt (nth cs n) * bt (nth (rowAt ll n) j)
    rw [bt_xor (combAt_lt hc ll j n) (Gf.mul_lt (nth_lt hc n) _), bt_mul (nth_lt hc n) (nth_lt (rowAt_oct hO n) j), combAt_sm hc hO j n]
theorem combT_nth (cs : List Nat) (ll : List (List Nat)) {m j : Nat} (h : j < m) : nth (combT cs ll m) j = combAt cs ll j ll.length := by
  rw [nth_eq _ _ (by rw [combT_length]; exact h)]; simp [combT]
theorem combT_fv {cs : List Nat} {ll : List (List Nat)} {m : Nat} (hc : Oct cs) (hO : OctM ll) (hk : ∀ j, j < ll.length → (rowAt ll j).length = m) : fv (combT cs ll m) = lc (fun t => bt (nth cs t)) (mat ll) ll.length := funext fun j => by
  show bt (nth (combT cs ll m) j) = sm (fun t => bt (nth cs t) * mat ll t j) ll.length
  by_cases hj : j < m
  · rw [combT_nth cs ll hj, combAt_sm hc hO]
  · rw [nth_out (by rw [combT_length]; omega)]
    exact (sm_zero fun t ht => by rw [mat_short hk ht j (by omega), bmul_zero]).symm
/-! ### Determinants -/

end Go.Proofs.Ytphdadibfeencaa

/-
  Grids in the program (layer 7): 'Inverse'.
-/
set_option maxRecDepth 100000
namespace Go.Proofs.Ytphdadibfeencaa
open Go.RowKit

/-- Rows that carry the unit's. -/
def carry (ll : List (List Nat)) : List Rw := (List.range ll.length).map fun i => (rowAt ll i, unitL ll.length i)
end Go.Proofs.Ytphdadibfeencaa

/-
  What the rows that are reduced with a unit beside them carry is the inverse (layer 7). No program in this text.
-/
set_option maxRecDepth 100000
namespace Go.Proofs.Ytphdadibfeencaa
open La

/-- What is closed, and has the rows that come in, has the rows that are kept. -/
theorem take1_within {k t : Nat} {W : Vc → Prop} (hW : Lin W) {E : List Rw} (h : RedR k t E) {x : Rw} (hx : Ro.Dim k t x) (hE : ∀ r, r ∈ E → W (fj r)) (hwx : W (fj x)) : ∀ r, r ∈ Ro.take1 E x → W (fj r) := by
  have hr := Ro.rest_dim h.up.dims hx
  have hrest : W (fj (Ro.rest E x)) := by
    have hs := (rest_span h.up.dims hx).1.within hW (fun v hv => by
      obtain ⟨o, ho, rfl⟩ := List.mem_map.1 hv
      exact hE o ho)
    exact hW.of_sum hwx hs
  have hy : W (fj (Ro.norm (Ro.rest E x))) := by rw [fj_norm hr]; exact hW.smul _ hrest
  intro r hmem
  unfold Ro.take1 at hmem
  split at hmem
  · exact hE r hmem
  · rw [put_mem_iff, List.mem_cons] at hmem
    rcases hmem with rfl | hmem
    · exact hy
    · obtain ⟨o, ho, rfl⟩ := Ro.clean_mem hmem
      obtain ⟨c, hc⟩ := clean_j h.up.dims (Ro.norm_dim hr) o ho
      rw [hc]
      exact hW.add (hW.smul _ hy) (hE o ho)
theorem fj_left {k t : Nat} {x : Rw} (hx : Ro.Dim k t x) {i : Nat} (hi : i < k) : fj x i = fv x.1 i := by rw [fj_at hx hi]; rfl
theorem fj_right {k t : Nat} {x : Rw} (hx : Ro.Dim k t x) (i : Nat) : fj x (k + i) = fv x.2 i := by
  show bt (nth (x.1 ++ x.2) (k + i)) = bt (nth x.2 i)
  rw [nth_append, if_neg (by rw [hx.1]; omega), hx.1, Nat.add_sub_cancel_left]
section
variable {ll : List (List Nat)} (hO : OctM ll) (hk : ∀ r ∈ ll, r.length = ll.length)
include hO hk

variable (hf : (Ro.redOf (carry ll)).length = ll.length)
include hf

end

end Go.Proofs.Ytphdadibfeencaa

/-
  A region in any order: rows and where they lead, in boxes and in lists.
-/
set_option maxRecDepth 100000
namespace Go.Proofs.Ytphdadibfeencaa
open Go.RowKit

section
variable {P : Program} {C : World → Prop} {R : World → World → Prop} {H : Nat → World → World → Prop} {a : Act} {w : World} {o : Oper} {Q : Exit → Act → World → Prop}
theorem ob_nil {T : Ty C R H} {t : Tmp} {x : Operand} {ad : Addr} (hS : T.S = [t]) (hh : T.kind = none) (hd : o.dst = some t) (hlt : t < a.tmps.size) (hop : o.op = .nilCheck x) (hx : a.eval x = .pointer (some ad))
    (hR : R w w) (hF : T.F [.pointer (some ad)] w) : Done P T Q o a w := by
  refine ob_value (.pointer (some ad)) w hS hh hd hlt ?_ hR hF
  simp [execOp, hop, hx]
end
theorem noU8_led (a a' : Option Addr) (n c n' c' : Nat) (i : Int) : NoU8 #[.slice a n c, .slice a' n' c', .int .i64 i] := fun j k => by
  match j with
  | 0 => simp
  | 1 => simp
  | 2 => intro e; simp at e
  | j + 3 => intro e; simp at e
section
variable {W : World}
theorem IsLed.hard {w w' : World} {v : Value} {r : Rw} (h : IsLed w v r) (hh : Hb W w w') : IsLed w' v r := by
  obtain ⟨a, b, e, h1, h2⟩ := h; exact ⟨a, b, e, h1.hard hh, h2.hard hh⟩
theorem IsLed.shape {w : World} {v : Value} {r : Rw} (h : IsLed w v r) : ∃ a c a' c', v = .agg #[.slice a r.1.length c, .slice a' r.2.length c', .int .i64 (lead r.1 : Int)] := by
  obtain ⟨_, _, rfl, ⟨a, c, rfl, _⟩, ⟨a', c', rfl, _⟩⟩ := h
  exact ⟨_, _, _, _, rfl⟩
def Ty.led (t : Tmp) (r : Rw) : TyB W := Ty.one t (fun v w => IsLed w v r) (fun _ _ _ _ hR h => h.go hR) (fun _ _ _ _ _ hH h => h.hard hH)
/-- A box made in the region holds the row at last. -/
def LedIn (W w : World) (v : Value) (r : Rw) : Prop := ∃ g a c a' c', v = .pointer (some ⟨g, 0, none⟩) ∧ W.heap.size ≤ g ∧ Blk w g #[.slice a r.1.length c, .slice a' r.2.length c', .int .i64 (lead r.1 : Int)] 102 ∧ IsLed w (.agg #[.slice a r.1.length c, .slice a' r.2.length c', .int .i64 (lead r.1 : Int)]) r
theorem LedIn.go {w w' : World} {v : Value} {r : Rw} (h : LedIn W w v r) (hb : Below w.heap.size w w') : LedIn W w' v r := by
  obtain ⟨g, a, c, a', c', e, hg, hk, hr⟩ := h
  exact ⟨g, a, c, a', c', e, hg, hk.go hb, hr.go hb⟩
def Ty.ledIn (t : Tmp) (r : Rw) : TyB W := Ty.writes t (fun v w => LedIn W w v r) (fun _ _ _ _ hR h => h.go hR)
end
theorem Blk.set3 {w : World} {g : Nat} {x y z : Value} {T : TypeId} (h : Blk w g #[x, y, z] T) (x' y' z' : Value) : Blk (((w.setCell ⟨g, 0, none⟩ x').setCell ⟨g, 1, none⟩ y').setCell ⟨g, 2, none⟩ z') g #[x', y', z'] T := ((h.set 0 x').set 1 y').set 2 z'
theorem Blk.three {w : World} {g : Nat} {x y z : Value} {T : TypeId} (h : Blk w g #[x, y, z] T) : w.cell? ⟨g, 0, none⟩ = some x ∧ w.cell? ⟨g, 1, none⟩ = some y ∧ w.cell? ⟨g, 2, none⟩ = some z := ⟨h.cell 0, h.cell 1, h.cell 2⟩
theorem load_led0 {w : World} {g : Nat} {x y z : Value} {T : TypeId} (h : Blk w g #[x, y, z] T) : (Instr.loadAt 102 (.pointer (some ⟨g, 0, none⟩))).run Try.prog w = .ok (.agg #[x, y, z]) w := by
  obtain ⟨k0, k1, k2⟩ := h.three
  go_simp
set_option maxHeartbeats 400000 in
theorem ob_store_led {W : World} {a : Act} {w : World} {o : Oper} {Q : Exit → Act → World → Prop} {t s : Tmp} {r : Rw} (hd : o.dst = none) (hop : o.op = .store 102 (.tmp t) (.tmp s)) (hA : IsBox W w (a.eval (.tmp t)) 3 102) (hV : IsLed w (a.eval (.tmp s)) r) :
    Done Try.prog (Ty.ledIn (W := W) t r) Q o a w := by
  obtain ⟨g, vs, eA, hg, hk, hs, hn⟩ := hA
  obtain ⟨a1, c1, a2, c2, eV⟩ := hV.shape
  obtain ⟨x, y, z, rfl⟩ : ∃ x y z, vs = #[x, y, z] := by
    obtain ⟨l⟩ := vs
    match l, hs with
    | [x, y, z], _ => exact ⟨x, y, z, rfl⟩
  obtain ⟨k0, k1, k2⟩ := hk.three
  have f0 := hk.free 0
  have f1 := hk.free 1
  have f2 := hk.free 2
  have hst := hk.set3 (.slice a1 r.1.length c1) (.slice a2 r.2.length c2) (.int .i64 (lead r.1 : Int))
  have hgr : w.grownBy (((w.setCell ⟨g, 0, none⟩ (.slice a1 r.1.length c1)).setCell ⟨g, 1, none⟩ (.slice a2 r.2.length c2)).setCell ⟨g, 2, none⟩ (.int .i64 (lead r.1 : Int))) (some g) := grown_trans (grown_trans (grown_setCell w ⟨g, 0, none⟩ _) (grown_setCell _ ⟨g, 1, none⟩ _)) (grown_setCell _ ⟨g, 2, none⟩ _)
  have hn2 : NoU8 #[.slice a1 r.1.length c1, .slice a2 r.2.length c2, .int .i64 (lead r.1 : Int)] := noU8_led _ _ _ _ _ _ _
  have hh : Hb W w (((w.setCell ⟨g, 0, none⟩ (.slice a1 r.1.length c1)).setCell ⟨g, 1, none⟩ (.slice a2 r.2.length c2)).setCell ⟨g, 2, none⟩ (.int .i64 (lead r.1 : Int))) := ⟨g, _, _, _, hg, hk, hn, hgr, hst, rfl, hn2⟩
  rw [eV] at hV
  refine ob_store (((w.setCell ⟨g, 0, none⟩ (.slice a1 r.1.length c1)).setCell ⟨g, 1, none⟩ (.slice a2 r.2.length c2)).setCell ⟨g, 2, none⟩ (.int .i64 (lead r.1 : Int))) rfl rfl hd ?_ hh ?_
  · have HH := Lib.hid hh
    have HV := Lib.hid hV
    clear hh hV hgr hst hn hn2 hk hs hg
    simp only [execOp, hop, eA, eV]
    go_simp
  · exact ⟨g, a1, c1, a2, c2, eA, hg, hst, hV.hard hh⟩

section
variable {W : World} {g : Nat}
def TyE.led (t : Tmp) (r : Rw) : Ty (Ce W g) Rb (He W g) := TyE.soft t (fun v w => IsLed w v r) fun _ _ _ hs ⟨a, b, e, h1, h2⟩ => ⟨a, b, e, h1.soft hs, h2.soft hs⟩
theorem IsLed.ce {w : World} {v : Value} {r : Rw} (h : IsLed W v r) (hC : Ce W g w) : IsLed w v r := by
  obtain ⟨a, b, e, h1, h2⟩ := h; exact ⟨a, b, e, h1.ce hC, h2.ce hC⟩
theorem OwnE.he {w w' : World} {c B : Nat} {v : Value} {E : List Rw} (hg : ∀ k, v.ownBlock = some k → k < W.heap.size) (h : OwnE w B v E) (hc : not0 c = true) (hH : He W g c w w') : OwnE w' B v E := by
  have hs := hH.soft
  unfold He at hH
  rw [if_neg (by simpa [not0] using hc)] at hH
  obtain ⟨g', vs, vs', T', hg', hk, hn, hw, _⟩ := hH
  refine h.other hw hs fun e => ?_
  have := hg g' e
  omega
/-- The store of a row into a system's list. -/
def TyE.storesE (v : Value) (hg : ∀ k, v.ownBlock = some k → k < W.heap.size) (B : Nat) (L L' : List Rw) : Ty (Ce W g) Rb (He W g) :=
  ⟨[], fun _ w => OwnE w B v L', some 0, not0, fun _ _ _ _ hR h => h.go hR, fun _ hc _ _ _ _ hH h => h.he hg hc hH,
    fun w => OwnE w B v L, not0, fun _ _ _ hR h => h.go hR, fun _ hc _ _ _ hH h => h.he hg hc hH⟩
end

set_option maxHeartbeats 400000 in
theorem ob_storesE {W : World} {g n cap B k : Nat} {L : List Rw} (hg : ∀ k, (Value.slice (some ⟨g, 0, none⟩) n cap).ownBlock = some k → k < W.heap.size) {a : Act} {w : World} {o : Oper} {Q : Exit → Act → World → Prop} {x y : Operand} {r : Rw} (hop : o.op = .store 52 x y) (hx : a.eval x = .pointer (some ⟨g, k * 3, none⟩)) (hV : IsRow w (a.eval y) r.1 r.2)
    (hk : k < L.length) (hld : lead r.1 = lead (rwAt L k).1) (hO : OwnE w B (.slice (some ⟨g, 0, none⟩) n cap) L) : Done Try.prog (TyE.storesE (W := W) (g := g) (.slice (some ⟨g, 0, none⟩) n cap) hg B L (L.set k r)) Q o a w := by
  obtain ⟨a1, c1, a2, c2, e⟩ := hV.shape
  rw [e] at hV
  obtain ⟨_, _, er, hb1, hb2⟩ := hV
  simp only [Value.agg.injEq, Array.mk.injEq, List.cons.injEq, and_true] at er
  obtain ⟨rfl, rfl⟩ := er
  obtain ⟨k1, k2, k3⟩ := hO.set k hk hb1 hb2 hld
  obtain ⟨b1, d1, b2, d2, e0, e1, _, _, _⟩ := hO.cells k hk
  have f0 := hO.free (k * 3)
  have f1 := hO.free (k * 3 + 1)
  refine ob_store0 ((w.setCell ⟨g, k * 3, none⟩ (.slice a1 r.1.length c1)).setCell ⟨g, k * 3 + 1, none⟩ (.slice a2 r.2.length c2)) rfl rfl hop hx e ?_ (by unfold He; rw [if_pos rfl]; exact ⟨k3, k2⟩) k1
  clear k1 k2 k3 hO hb1 hb2
  go_simp

end Go.Proofs.Ytphdadibfeencaa

/-
  Systems of equations in the program (layer 8): what 'grow' turns; its rows cleared of the new one.
-/
set_option maxRecDepth 100000
namespace Go.Proofs.Ytphdadibfeencaa
open Go.RowKit

/-- Of what was there, the system's own two blocks alone may have turned, and no byte. -/
structure Past (w w' : World) (g : Nat) (v : Value) : Prop where
  os : w'.os = w.os
  tape : w'.tape = w.tape
  output : w'.output = w.output
  size : w.heap.size ≤ w'.heap.size
  block : ∀ k, k < w.heap.size → k ≠ g → some k ≠ v.ownBlock → w'.heap[k]? = w.heap[k]?
  soft : Soft w w'
theorem Past.of_below {w w' : World} (g : Nat) (v : Value) (h : Below w.heap.size w w') : Past w w' g v := by
  have hg := grown_of_below h none
  exact ⟨hg.os, hg.tape, hg.output, hg.size, fun k hk _ _ => h.block k hk, Soft.of_below h⟩
theorem Past.grown {w a b : World} {g : Nat} {v : Value} {row : Option Nat} (h : Past w a g v) (hg : a.grownBy b row) (hs : Soft a b) (hr : ∀ k, row = some k → k < w.heap.size → k = g ∨ some k = v.ownBlock) : Past w b g v := by
  refine ⟨hg.os.trans h.os, hg.tape.trans h.tape, hg.output.trans h.output, Nat.le_trans h.size hg.size, fun k hk h1 h2 => ?_, h.soft.trans hs⟩
  rw [hg.block k (Nat.lt_of_lt_of_le hk h.size) fun e => by
    rcases hr k e.symm hk with e1 | e1
    · exact h1 e1
    · exact h2 e1]
  exact h.block k hk h1 h2
theorem Past.below {w a b : World} {g : Nat} {v : Value} (h : Past w a g v) (hb : Below a.heap.size a b) : Past w b g v := h.grown (grown_of_below hb none) (Soft.of_below hb) fun k e => by cases e
/-- Seen from a world ahead of both blocks: nothing turned. -/
theorem Past.under {n : Nat} {w0 w w' : World} {g : Nat} {v : Value} (h : Past w w' g v) (h0 : Below n w0 w) (hn : n ≤ w.heap.size) (hg : n ≤ g) (hv : ∀ k, v.ownBlock = some k → n ≤ k) : Below n w0 w' := by
  exact h0.trans ⟨h.os, h.tape, h.output, h.size, fun k hk => h.block k (by omega) (by omega) (fun e => by have := hv k e.symm; omega)⟩

theorem load_leds {w : World} {g k : Nat} {v : Value} (h : w.cell? ⟨g, k, none⟩ = some v) : (Instr.loadAt 86 (.pointer (some ⟨g, k, none⟩))).run Try.prog w = .ok v w := by
  go_simp
theorem load_vecrow3 {w : World} {g : Nat} {x y z : Value} {T : TypeId} (h : Blk w g #[x, y, z] T) : (Instr.loadAt 52 (.pointer (some ⟨g, 0, none⟩))).run Try.prog w = .ok (.agg #[x, y]) w := by
  obtain ⟨k0, k1, _⟩ := h.three
  go_simp
theorem build_led {a a' : Option Addr} {n c n' c' : Nat} {i : Int} {w : World} : (Instr.build 102 #[(0, .agg #[.slice a n c, .slice a' n' c']), (1, .int .i64 i)]).run Try.prog w = .ok (.agg #[.slice a n c, .slice a' n' c', .int .i64 i]) w := by
  go_simp
theorem lead_to (v : Value) (l : List Nat) (t : Int) (w : World) (hB : Bytes w v l) (ht : leadI l = t) :
    Calls Try.prog 64 #[v] w fun e w' => e = .returned (.int .i64 t) ∧ w = w' := by subst ht; exact lead_any v l w hB
/-- The box holds the row, and where it leads. -/
def ELed (w : World) (g : Nat) (r : Rw) : Prop := ∃ a c a' c', Blk w g #[.slice a r.1.length c, .slice a' r.2.length c', .int .i64 (lead r.1 : Int)] 102 ∧ IsLed w (.agg #[.slice a r.1.length c, .slice a' r.2.length c', .int .i64 (lead r.1 : Int)]) r

end Go.Proofs.Ytphdadibfeencaa
