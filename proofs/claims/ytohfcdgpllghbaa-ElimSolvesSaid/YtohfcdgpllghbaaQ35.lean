/- Texts of one seat, laid together: LawEightD, LawThree, LawThreeB, LawEightB, ElimM, ElimN, LawEightF. -/
import Derived.Test.YtohfcdgpllghbaaQ33
import Derived.Test.YtohfcdgpllghbaaQ25
import Derived.Test.YtohfcdgpllghbaaQ5
import Derived.Test.YtohfcdgpllghbaaQ2
import Derived.Lib.SmallJoins
import Derived.Test.YtohfcdgpllghbaaQ8
import Derived.Test.YtohfcdgpllghbaaQ7
import Derived.Test.YtohfcdgpllghbaaQ18
import Derived.Test.YtohfcdgpllghbaaQ15
import Derived.Test.YtohfcdgpllghbaaQ34
import Derived.Test.YtohfcdgpllghbaaQ24
import Derived.Test.YtohfcdgpllghbaaQ28

/-
  The laws of equations (layer 8): an equation that fits.
-/
set_option maxRecDepth 100000
namespace Go.Proofs.Ytohfcdgpllghbaa
open Go.RowKit

theorem two_own (W : World) (k t : Nat) : ∃ (W1 : World) (g1 g2 : Nat), Own W1 g1 (zeros k) ∧ Own W1 g2 (zeros t) ∧ g1 ≠ g2 ∧ Below W.heap.size W W1 ∧ W.heap.size ≤ g1 ∧ W.heap.size ≤ g2 ∧ W1 = ((W.alloc (bytesObj (List.replicate k 0))).alloc (bytesObj (List.replicate t 0))).drew ∧ g1 = W.heap.size ∧ g2 = W.heap.size + 1 := by
  have b1 : Below W.heap.size W (W.alloc (bytesObj (List.replicate k 0))) := (Below.refl _ _).alloc (Nat.le_refl _) _
  have b2 : Below (W.alloc (bytesObj (List.replicate k 0))).heap.size (W.alloc (bytesObj (List.replicate k 0))) ((W.alloc (bytesObj (List.replicate k 0))).alloc (bytesObj (List.replicate t 0))) := (Below.refl _ _).alloc (Nat.le_refl _) _
  have hs : (W.alloc (bytesObj (List.replicate k 0))).heap.size = W.heap.size + 1 := by simp
  have b3 : Below ((W.alloc (bytesObj (List.replicate k 0))).alloc (bytesObj (List.replicate t 0))).heap.size ((W.alloc (bytesObj (List.replicate k 0))).alloc (bytesObj (List.replicate t 0))) ((W.alloc (bytesObj (List.replicate k 0))).alloc (bytesObj (List.replicate t 0))).drew := (Below.refl _ _).drew
  refine ⟨_, _, _, ?_, ?_, ?_, ?_, Nat.le_refl _, Nat.le_succ _, rfl, rfl, rfl⟩
  · exact ((Own.new W (zeros k)).go b2).go b3
  · have := (Own.new (W.alloc (bytesObj (List.replicate k 0))) (zeros t)).go b3
    rw [hs] at this; exact this
  · omega
  · exact (b1.trans (b2.mono b1.size)).trans (b3.mono (b1.trans (b2.mono b1.size)).size)

set_option maxHeartbeats 2000000 in
theorem fit8_any (u : Value) (p q : List Nat) (k t : Nat) (w : World) (hu : IsRow w u p q) (hk : k ≤ 1000000) (ht : t ≤ 1000000) :
    Calls Try.prog 36 #[u, .int .i64 (k : Int), .int .i64 (t : Int)] w (RowsV w (fitR k p) (fitR t q)) := by
  obtain ⟨v0, d0, rfl, hp, hq⟩ := hu
  have HP := Lib.hid hp
  have HQ := Lib.hid hq
  obtain ⟨a0, c0, rfl, _⟩ := hp
  obtain ⟨a1, c1, rfl, _⟩ := hq
  have hmk : ∀ w : World, (Instr.makeSlice 35 (.int .i64 (k : Int)) (.int .i64 (k : Int))).run Try.prog w = .ok (.slice (some ⟨w.heap.size, 0, none⟩) k k) (w.alloc (bytesObj (List.replicate k 0))) := make_bytes k (by omega)
  have hmt : ∀ w : World, (Instr.makeSlice 35 (.int .i64 (t : Int)) (.int .i64 (t : Int))).run Try.prog w = .ok (.slice (some ⟨w.heap.size, 0, none⟩) t t) (w.alloc (bytesObj (List.replicate t 0))) := make_bytes t (by omega)
  go_enter Try.func36, Try.ntmps36
  go_wp2_with fail
  obtain ⟨B, hk1, hk2, hs⟩ := blocks2 w #[.slice a0 p.length c0, .slice a1 q.length c1] 57 #[.slice none 0 0, .slice none 0 0] 57
  generalize ((w.alloc (.cells #[.slice a0 p.length c0, .slice a1 q.length c1] 57)).alloc (.cells #[.slice none 0 0, .slice none 0 0] 57)) = W at *
  have K1 := Lib.hid hk1
  have K2 := Lib.hid hk2
  have HS := Lib.hid hs
  clear hs hk1 hk2
  have hzW := B.size
  go_region
  · obtain ⟨W1, g1, g2, h1, h2, n12, hbW, hn1, hn2, eW, e1, e2⟩ : ∃ (W1 : World) (g1 g2 : Nat), Own W1 g1 (zeros k) ∧ Own W1 g2 (zeros t) ∧ g1 ≠ g2 ∧ Below W.heap.size W W1 ∧ W.heap.size ≤ g1 ∧ W.heap.size ≤ g2 ∧ W1 = ((W.alloc (bytesObj (List.replicate k 0))).alloc (bytesObj (List.replicate t 0))).drew ∧ g1 = W.heap.size ∧ g2 = W.heap.size + 1 := two_own W k t
    rw [← eW, ← e2, ← e1]
    clear eW e1 e2 hmk hmt
    have hg1 : w.heap.size + 1 < g1 := by have := K2.out.lt; omega
    have hg2 : w.heap.size + 1 < g2 := by have := K2.out.lt; omega
    replace K1 := Lib.hid (K1.out.go hbW)
    replace K2 := Lib.hid (K2.out.go hbW)
    replace B := B.trans (hbW.mono B.size)
    clear hn1 hn2 hbW hzW HS
    obtain ⟨W2, hcp, hO1, hgr⟩ := copy_fit (m := k) h1 (HP.out.go B)
    have B2 := below_grown B hgr B.size (by omega)
    obtain ⟨W3, hcp2, hO2, hgr2⟩ := copy_fit (m := t) (h2.grown hgr (by simpa using n12.symm)) (HQ.out.go B2)
    have B3 := below_grown B2 hgr2 B2.size (by omega)
    replace hO1 := hO1.grown hgr2 (by simpa using n12)
    have KQ1 := Lib.hid ((K1.out.grown hgr (by simp; omega)).grown hgr2 (by simp; omega))
    have KQ2 := Lib.hid ((K2.out.grown hgr (by simp; omega)).grown hgr2 (by simp; omega))
    have KP1 := Lib.hid (K1.out.grown hgr (by simp; omega))
    have HB1 := Lib.hid (hO1.bytes (fitR_lt HP.out.lt) (by rw [fitR_length]; omega))
    have HB2 := Lib.hid (hO2.bytes (fitR_lt HQ.out.lt) (by rw [fitR_length]; omega))
    have hb3 := Lib.hid B3
    rw [fitR_length] at HB1 HB2
    obtain ⟨k10, k11⟩ := K1.out.two
    have k1l := K1.out.lt
    have kp0 := KP1.out.cell 0
    have kp1 := KP1.out.cell 1
    have kpl := KP1.out.lt
    obtain ⟨kq20, kq21⟩ := KQ2.out.two
    have kq2l := KQ2.out.lt
    obtain ⟨kq2f0, kq2f1⟩ := KQ2.out.fre2
    clear h1 h2 hgr hgr2 hO1 hO2 B2 B3 B n12
    go_wp2_with fail
    obtain ⟨e0, e1, hB, hS⟩ := store2 KQ2.out (by omega) hb3.out (slice_ne _ _ _) (slice_ne _ _ _) (.slice (some ⟨g1, 0, none⟩) k k) (.slice (some ⟨g2, 0, none⟩) t t)
    have hS1 := hS _ _ HB1.out
    have hS2 := hS _ _ HB2.out
    exact bodyPost_ret (v := .agg #[.slice (some ⟨g1, 0, none⟩) k k, .slice (some ⟨g2, 0, none⟩) t t]) (by simp [results, Try.results36, go_sem, e0, e1]) rfl
      ⟨_, rfl, ⟨_, _, rfl, hS1, hS2⟩, hB⟩
  · obtain ⟨W1, g2, g1, h2, h1, n12, hbW, hn2, hn1, eW, e2, e1⟩ : ∃ (W1 : World) (g1 g2 : Nat), Own W1 g1 (zeros t) ∧ Own W1 g2 (zeros k) ∧ g1 ≠ g2 ∧ Below W.heap.size W W1 ∧ W.heap.size ≤ g1 ∧ W.heap.size ≤ g2 ∧ W1 = ((W.alloc (bytesObj (List.replicate t 0))).alloc (bytesObj (List.replicate k 0))).drew ∧ g1 = W.heap.size ∧ g2 = W.heap.size + 1 := two_own W t k
    rw [← eW, ← e1, ← e2]
    replace n12 := n12.symm
    clear eW e1 e2 hmk hmt
    have hg1 : w.heap.size + 1 < g1 := by have := K2.out.lt; omega
    have hg2 : w.heap.size + 1 < g2 := by have := K2.out.lt; omega
    replace K1 := Lib.hid (K1.out.go hbW)
    replace K2 := Lib.hid (K2.out.go hbW)
    replace B := B.trans (hbW.mono B.size)
    clear hn1 hn2 hbW hzW HS
    obtain ⟨W2, hcp, hO1, hgr⟩ := copy_fit (m := k) h1 (HP.out.go B)
    have B2 := below_grown B hgr B.size (by omega)
    obtain ⟨W3, hcp2, hO2, hgr2⟩ := copy_fit (m := t) (h2.grown hgr (by simpa using n12.symm)) (HQ.out.go B2)
    have B3 := below_grown B2 hgr2 B2.size (by omega)
    replace hO1 := hO1.grown hgr2 (by simpa using n12)
    have KQ1 := Lib.hid ((K1.out.grown hgr (by simp; omega)).grown hgr2 (by simp; omega))
    have KQ2 := Lib.hid ((K2.out.grown hgr (by simp; omega)).grown hgr2 (by simp; omega))
    have KP1 := Lib.hid (K1.out.grown hgr (by simp; omega))
    have HB1 := Lib.hid (hO1.bytes (fitR_lt HP.out.lt) (by rw [fitR_length]; omega))
    have HB2 := Lib.hid (hO2.bytes (fitR_lt HQ.out.lt) (by rw [fitR_length]; omega))
    have hb3 := Lib.hid B3
    rw [fitR_length] at HB1 HB2
    obtain ⟨k10, k11⟩ := K1.out.two
    have k1l := K1.out.lt
    have kp0 := KP1.out.cell 0
    have kp1 := KP1.out.cell 1
    have kpl := KP1.out.lt
    obtain ⟨kq20, kq21⟩ := KQ2.out.two
    have kq2l := KQ2.out.lt
    obtain ⟨kq2f0, kq2f1⟩ := KQ2.out.fre2
    clear h1 h2 hgr hgr2 hO1 hO2 B2 B3 B n12
    go_wp2_with fail
    obtain ⟨e0, e1, hB, hS⟩ := store2 KQ2.out (by omega) hb3.out (slice_ne _ _ _) (slice_ne _ _ _) (.slice (some ⟨g1, 0, none⟩) k k) (.slice (some ⟨g2, 0, none⟩) t t)
    have hS1 := hS _ _ HB1.out
    have hS2 := hS _ _ HB2.out
    exact bodyPost_ret (v := .agg #[.slice (some ⟨g1, 0, none⟩) k k, .slice (some ⟨g2, 0, none⟩) t t]) (by simp [results, Try.results36, go_sem, e0, e1]) rfl
      ⟨_, rfl, ⟨_, _, rfl, hS1, hS2⟩, hB⟩

end Go.Proofs.Ytohfcdgpllghbaa

/-
  The laws of rows (layer 3): which are gone through, and the document's form of one.
-/
set_option maxRecDepth 100000
namespace Go.Proofs.Ytohfcdgpllghbaa
open Go.ChangeShapes Go.WideShapes Go.ChangeAt Go.RowKit Go.Deep

set_option maxHeartbeats 400000 in
theorem ref3_any (u : Value) (p q : List Nat) (w : World) (h : IsRow w u p q) :
    Calls Try.prog 38 #[u] w (RowsV w p q) := by
  obtain ⟨v, d, rfl, hv, hd⟩ := h
  have HP := Lib.hid hv
  have HQ := Lib.hid hd
  obtain ⟨a0, c0, rfl, _⟩ := hv
  obtain ⟨a1, c1, rfl, _⟩ := hd
  go_enter Try.func38, Try.ntmps38
  go_wp2_with fail
  have B2 := ((Below.refl w.heap.size w).alloc (Nat.le_refl _) (.cells #[.slice a0 p.length c0, .slice a1 q.length c1] 57)).alloc (by simp) (.cells #[.slice a0 p.length c0, .slice a1 q.length c1] 68)
  exact bodyPost_ret (v := .agg #[.slice a0 p.length c0, .slice a1 q.length c1]) (by simp [results, Try.results38, go_sem]) rfl
    ⟨_, rfl, ⟨_, _, rfl, HP.out.below (Nat.le_refl _) B2, HQ.out.below (Nat.le_refl _) B2⟩, B2⟩

/-- A struct of two slices of bytes that came in. -/
theorem open_pair {H : Type} {enc : TypeId × Value → H} {P : Program} {t T E : TypeId} {f0 f1 : Field} (hs : P.underlying t = some (.struct #[f0, f1])) (hone : oneCellFields P #[f0, f1] = true) (hC : P.cellsOf t = 2)
    (e0 : f0.type = T) (e1 : f1.type = T) (hT : P.underlying T = some (.slice E)) (hE : P.underlying E = some (.int .u8)) (hc : P.cellsOf E = 1) {W : World} {base : Nat} {v : Value} {d : DataW H} {p : List MemPlace}
    (hok : Value.okWide P W .any base t v) (h : DataW.Trod enc P W 0 (fun _ => true) true t v d p) (hlt : ∀ x ∈ p, x.block < W.heap.size) : ∃ l r, IsRow W v l r := by
  obtain ⟨v0, v1, y0, y1, n, rfl, _, rfl, h0, h1⟩ := Joins.open_agg2 hs hone hC hok h
  rw [e0] at h0
  rw [e1] at h1
  obtain ⟨l, hl⟩ := bytes_of_trod hT hE hc h0 fun y hy => hlt y (List.mem_append_left _ hy)
  obtain ⟨r, hr⟩ := bytes_of_trod hT hE hc h1 fun y hy => hlt y (List.mem_append_right _ hy)
  exact ⟨l, r, v0, v1, rfl, hl, hr⟩

end Go.Proofs.Ytohfcdgpllghbaa

/-
  The laws of rows (layer 3): the example, 'Make', 'Of'.
-/
set_option maxRecDepth 100000
namespace Go.Proofs.Ytohfcdgpllghbaa
open Go.RowKit

theorem refrowsame_yes (u0 u1 : Value) (p q : List Nat) (w : World) (h0 : IsRow w u0 p q) (h1 : IsRow w u1 p q) :
    Calls Try.prog 40 #[u0, u1] w fun e w' => e = .returned (.bool true) ∧ Below w.heap.size w w' := by
  have h := refrowsame_any u0 u1 p q p q w h0 h1
  rwa [show (decide (p = p) && decide (q = q)) = true from by simp] at h
theorem vecsame_yes (u0 u1 : Value) (p q : List Nat) (w : World) (h0 : IsRow w u0 p q) (h1 : IsRow w u1 p q) :
    Calls Try.prog 52 #[u0, u1] w fun e w' => e = .returned (.bool true) ∧ Below w.heap.size w w' := by
  have h := vecsame_any u0 u1 p q p q w h0 h1
  rwa [show (decide (p = p) && decide (q = q)) = true from by simp] at h

theorem bytes_new3 (w : World) (x y z : Int) (a b c : Nat) (T : TypeId) (k : Nat) (hk : k = w.heap.size) (hx : x = a) (hy : y = b) (hz : z = c) (ha : a < 256) (hb : b < 256) (hc : c < 256) :
    Bytes (w.alloc (.cells #[.int .u8 x, .int .u8 y, .int .u8 z] T)) (.slice (some ⟨k, 0, none⟩) 3 3) [a, b, c] := by
  subst hx; subst hy; subst hz; subst hk
  exact bytes_new w [a, b, c] T (by simp [ha, hb, hc]) (by simp)
theorem bytes_new1 (w : World) (x : Int) (a : Nat) (T : TypeId) (k : Nat) (hk : k = w.heap.size) (hx : x = a) (ha : a < 256) :
    Bytes (w.alloc (.cells #[.int .u8 x] T)) (.slice (some ⟨k, 0, none⟩) 1 1) [a] := by
  subst hx; subst hk
  exact bytes_new w [a] T (by simp [ha]) (by simp)

theorem awake3_norm : Gf.scale (normC [0, 2, 4]) [0, 2, 4] = [0, 1, 2] ∧ Gf.scale (normC [0, 2, 4]) [6] = [3] := by decide +kernel

set_option maxHeartbeats 400000 in
theorem make3_any (u : Value) (p q : List Nat) (w : World) (hu : IsRow w u p q) (hlp : p.length ≤ 1000000000) (hlq : q.length ≤ 1000000000) :
    Calls Try.prog 34 #[u] w (RowsV w p q) := by
  obtain ⟨v, d, rfl, hp, hq⟩ := hu
  have HP := Lib.hid hp
  have HQ := Lib.hid hq
  clear hp hq
  go_enter Try.func34, Try.ntmps34
  go_wp2_with fail
  obtain ⟨B, hk1, hk2, hs⟩ := blocks2 w #[v, d] 57 #[.slice none 0 0, .slice none 0 0] 61
  generalize ((w.alloc (.cells #[v, d] 57)).alloc (.cells #[.slice none 0 0, .slice none 0 0] 61)) = W at *
  have K1 := Lib.hid hk1
  have K2 := Lib.hid hk2
  have HS := Lib.hid hs
  clear hs hk1 hk2
  replace HP := Lib.hid (HP.out.go B)
  replace HQ := Lib.hid (HQ.out.go B)
  have hzW := B.size
  obtain ⟨k10, k11⟩ := K1.out.two
  have k1l := K1.out.lt
  go_wp2_with fail
  refine (of_any _ _ _ _ _ HP.out HQ.out hlp hlq).mono ?_
  rintro e w1 ⟨v1, rfl, hv1, hb⟩
  replace K2 := Lib.hid (K2.out.go hb)
  replace B := B.trans (hb.mono B.size)
  have hzw1 := B.size
  clear hb
  obtain ⟨y0, y1, rfl, V1, V2⟩ := hv1
  have H1 := Lib.hid V1
  have H2 := Lib.hid V2
  obtain ⟨a1, c1, rfl, _⟩ := V1
  obtain ⟨a2, c2, rfl, _⟩ := V2
  obtain ⟨k20, k21⟩ := K2.out.two
  have k2l := K2.out.lt
  obtain ⟨k2f0, k2f1⟩ := K2.out.fre2
  go_wp2_with fail
  obtain ⟨e0, e1, hB, hS⟩ := store2 K2.out (Nat.le_succ _) B (slice_ne _ _ _) (slice_ne _ _ _) (.slice a1 p.length c1) (.slice a2 q.length c2)
  exact bodyPost_ret (v := .agg #[.slice a1 p.length c1, .slice a2 q.length c2]) (by simp [results, Try.results34, go_sem, e0, e1]) rfl
    ⟨_, rfl, ⟨_, _, rfl, hS _ _ H1.out, hS _ _ H2.out⟩, hB⟩

set_option maxHeartbeats 400000 in
theorem of3_any (u : Value) (p q : List Nat) (w : World) (hu : IsRow w u p q) :
    Calls Try.prog 41 #[u] w (RowsV w p q) := by
  obtain ⟨v, d, rfl, hp, hq⟩ := hu
  have HP := Lib.hid hp
  have HQ := Lib.hid hq
  obtain ⟨a0, c0, rfl, _⟩ := hp
  obtain ⟨a1, c1, rfl, _⟩ := hq
  go_enter Try.func41, Try.ntmps41
  go_wp2_with fail
  have B2 := two_blocks w (.cells #[.slice a0 p.length c0, .slice a1 q.length c1] 61) (.cells #[.slice a0 p.length c0, .slice a1 q.length c1] 68)
  exact bodyPost_ret (v := .agg #[.slice a0 p.length c0, .slice a1 q.length c1]) (by simp [results, Try.results41, go_sem]) rfl
    ⟨_, rfl, ⟨_, _, rfl, HP.out.go B2, HQ.out.go B2⟩, B2⟩

end Go.Proofs.Ytohfcdgpllghbaa

/-
  The law of equations (layer 8): are rows the document's?
-/
set_option maxRecDepth 100000
namespace Go.Proofs.Ytohfcdgpllghbaa
open Go.RowKit

theorem load_vecrow_at {w : World} {g k : Nat} {x y : Value} (h0 : w.cell? ⟨g, k, none⟩ = some x) (h1 : w.cell? ⟨g, k + 1, none⟩ = some y) : (Instr.loadAt 61 (.pointer (some ⟨g, k, none⟩))).run Try.prog w = .ok (.agg #[x, y]) w := by
  go_simp
theorem ext_rwAt {A C : List Rw} (hl : A.length = C.length) (h : ∀ j, j < A.length → rwAt A j = rwAt C j) : A = C := by
  apply List.ext_getElem hl
  intro i h1 h2
  have := h i h1
  rwa [rwAt_eq A i h1, rwAt_eq C i h2] at this
theorem pair_dec (p q p' q' : List Nat) : (decide (p = p') && decide (q = q')) = decide ((p, q) = (p', q')) := by
  by_cases h : p = p' <;> by_cases h2 : q = q' <;> simp [h, h2]

set_option maxHeartbeats 1000000 in
theorem same8_any (v0 v1 : Value) (A C : List Rw) (w : World) (h0 : IsRL w v0 A) (h1 : IsRL w v1 C) (hlen : A.length ≤ 1000000000) :
    Calls Try.prog 45 #[v0, v1] w fun e w' => e = .returned (.bool (decide (A = C))) ∧ Below w.heap.size w w' := by
  have HA := Lib.hid h0
  have HC := Lib.hid h1
  obtain ⟨a0, c0, rfl⟩ := h0.shape
  obtain ⟨a1, c1, rfl⟩ := h1.shape
  clear h0 h1
  obtain ⟨t, ht⟩ : ∃ t, t = decide (A = C) := ⟨_, rfl⟩
  rw [← ht]
  by_cases hl : A.length = C.length
  · have HT := Lib.hid ht
    have HL := Lib.hid hl
    have hb0 : ((A.length : Int) != (C.length : Int)) = false := by rw [hl]; simp
    clear ht hl
    go_enter Try.func45, Try.ntmps45
    go_wp2_with fail
    go_loopw [5, 13] (fun _ i wr => ∃ n : Nat, n ≤ A.length ∧ i = .int .i64 n ∧ (∀ j, j < n → rwAt A j = rwAt C j) ∧ Below w.heap.size w wr) (fun _ i _ => A.length - (intOf i).toNat)
    case atStart => exact ⟨0, by omega, rfl, fun j hj => by omega, Below.refl _ _⟩
    case round =>
      obtain ⟨n, hn, rfl, hno, B⟩ := hrel
      have HN := Lib.hid hno
      clear hno
      by_cases hlt : n < A.length
      · have hlt' : n < C.length := by rw [← HL.out]; exact hlt
        obtain ⟨b, off, c', er, _⟩ := HA.out.addr (by omega)
        simp only [Value.slice.injEq, true_and] at er
        obtain ⟨rfl, rfl⟩ := er
        obtain ⟨b', off', c'', er, _⟩ := HC.out.addr (by omega)
        simp only [Value.slice.injEq, true_and] at er
        obtain ⟨rfl, rfl⟩ := er
        obtain ⟨p0, q0, e0, e1, hb1, hb2⟩ := (HA.out.go B).cells n hlt
        obtain ⟨r0, s0, f0, f1, hb3, hb4⟩ := (HC.out.go B).cells n hlt'
        have HB1 := Lib.hid hb1
        have HB2 := Lib.hid hb2
        have HB3 := Lib.hid hb3
        have HB4 := Lib.hid hb4
        obtain ⟨pa, pc, rfl, _⟩ := hb1
        obtain ⟨qa, qc, rfl, _⟩ := hb2
        obtain ⟨ra, rc, rfl, _⟩ := hb3
        obtain ⟨sa, sc, rfl, _⟩ := hb4
        have E0 := Lib.hid e0
        have E1 := Lib.hid e1
        have F0 := Lib.hid f0
        have F1 := Lib.hid f1
        clear e0 e1 f0 f1
        have n0 : (0 : Int) ≤ (n : Int) := Int.natCast_nonneg _
        have n1 : (n : Int) < (A.length : Int) := by omega
        have n2 : (n : Int) < (C.length : Int) := by omega
        go_wp2_with fail
        refine wp_region_mono (C := Cb wr) (R := Rb) (H := Hz) [TyZ.val 16 (.slice (some ⟨b, off, none⟩) A.length c0), TyZ.val 17 (.int .i64 (n : Int)), TyZ.val 18 (.pointer (some ⟨b, off + n * 2, none⟩)), TyZ.val 19 (.agg #[.slice pa (rwAt A n).1.length pc, .slice qa (rwAt A n).2.length qc]), TyZ.row 20 (rwAt A n).1 (rwAt A n).2, TyZ.val 21 (.slice (some ⟨b', off', none⟩) C.length c1), TyZ.val 22 (.int .i64 (n : Int)), TyZ.val 23 (.pointer (some ⟨b', off' + n * 2, none⟩)), TyZ.val 24 (.agg #[.slice ra (rwAt C n).1.length rc, .slice sa (rwAt C n).2.length sc]), TyZ.val 25 (.bool (decide ((rwAt A n).1 = (rwAt C n).1) && decide ((rwAt A n).2 = (rwAt C n).2))), TyZ.val 26 (.bool (!(decide ((rwAt A n).1 = (rwAt C n).1) && decide ((rwAt A n).2 = (rwAt C n).2))))] (by kernel_rfl) (hC_b wr) (hCH_z wr) (drew_b wr) ⟨trivial, trivial, trivial, trivial, trivial, trivial, trivial, trivial, trivial, trivial, trivial, trivial⟩ (by kernel_rfl) ?_ ?_
        · refine ⟨?_, ?_, ?_, ?_, ?_, ?_, ?_, ?_, ?_, ?_, ?_, trivial⟩
          · intro ac wc hC hsz hfr hd hpr
            have d0 : ac.eval (.tmp 0) = (.slice (some ⟨b, off, none⟩) A.length c0) := hfr 0 rfl
            rw [if_pos (wanted_none rfl)]
            exact ob_copy rfl rfl rfl (Nat.lt_of_lt_of_eq (by decide : 16 < 28) hsz.symm) (Or.inl rfl) (Below.refl _ _) d0
          · intro ac wc hC hsz hfr hd hpr
            have d5 : ac.eval (.tmp 5) = (.int .i64 (n : Int)) := hfr 5 rfl
            rw [if_pos (wanted_none rfl)]
            exact ob_copy rfl rfl rfl (Nat.lt_of_lt_of_eq (by decide : 17 < 28) hsz.symm) (Or.inl rfl) (Below.refl _ _) d5
          · intro ac wc hC hsz hfr hd hpr
            have d16 : ac.eval (.tmp 16) = (.slice (some ⟨b, off, none⟩) A.length c0) := hd 0 rfl
            have d17 : ac.eval (.tmp 17) = (.int .i64 (n : Int)) := hd 1 rfl
            rw [if_pos (wanted_none rfl)]
            exact ob_index _ rfl rfl rfl (Nat.lt_of_lt_of_eq (by decide : 18 < 28) hsz.symm) rfl d16 d17 (by go_simp) (Below.refl _ _) rfl
          · intro ac wc hC hsz hfr hd hpr
            have d18 : ac.eval (.tmp 18) = (.pointer (some ⟨b, off + n * 2, none⟩)) := hd 2 rfl
            rw [if_pos (wanted_none rfl)]
            exact ob_load _ rfl rfl rfl (Nat.lt_of_lt_of_eq (by decide : 19 < 28) hsz.symm) rfl d18 (load_vecrow_at (cell_keep E0.out hC) (cell_keep E1.out hC)) (Below.refl _ _) rfl
          · intro ac wc hC hsz hfr hd hpr
            have d19 : ac.eval (.tmp 19) = (.agg #[.slice pa (rwAt A n).1.length pc, .slice qa (rwAt A n).2.length qc]) := hd 3 rfl
            rw [if_pos (wanted_none rfl)]
            refine ob_call rfl rfl rfl (Nat.lt_of_lt_of_eq (by decide : 20 < 28) hsz.symm) rfl (enter_of Try.func41 (by kernel_rfl) rfl) ?_
            show Calls Try.prog 41 #[ac.eval (.tmp 19)] wc _
            rw [d19]
            exact of3_any _ _ _ wc ⟨_, _, rfl, HB1.out.go hC, HB2.out.go hC⟩
          · intro ac wc hC hsz hfr hd hpr
            have d1 : ac.eval (.tmp 1) = (.slice (some ⟨b', off', none⟩) C.length c1) := hfr 1 rfl
            rw [if_pos (wanted_none rfl)]
            exact ob_copy rfl rfl rfl (Nat.lt_of_lt_of_eq (by decide : 21 < 28) hsz.symm) (Or.inl rfl) (Below.refl _ _) d1
          · intro ac wc hC hsz hfr hd hpr
            have d5 : ac.eval (.tmp 5) = (.int .i64 (n : Int)) := hfr 5 rfl
            rw [if_pos (wanted_none rfl)]
            exact ob_copy rfl rfl rfl (Nat.lt_of_lt_of_eq (by decide : 22 < 28) hsz.symm) (Or.inl rfl) (Below.refl _ _) d5
          · intro ac wc hC hsz hfr hd hpr
            have d21 : ac.eval (.tmp 21) = (.slice (some ⟨b', off', none⟩) C.length c1) := hd 5 rfl
            have d22 : ac.eval (.tmp 22) = (.int .i64 (n : Int)) := hd 6 rfl
            rw [if_pos (wanted_none rfl)]
            exact ob_index _ rfl rfl rfl (Nat.lt_of_lt_of_eq (by decide : 23 < 28) hsz.symm) rfl d21 d22 (by go_simp) (Below.refl _ _) rfl
          · intro ac wc hC hsz hfr hd hpr
            have d23 : ac.eval (.tmp 23) = (.pointer (some ⟨b', off' + n * 2, none⟩)) := hd 7 rfl
            rw [if_pos (wanted_none rfl)]
            exact ob_load _ rfl rfl rfl (Nat.lt_of_lt_of_eq (by decide : 24 < 28) hsz.symm) rfl d23 (load_refrow_at (cell_keep F0.out hC) (cell_keep F1.out hC)) (Below.refl _ _) rfl
          · intro ac wc hC hsz hfr hd hpr
            have d20 : IsRow wc (ac.eval (.tmp 20)) (rwAt A n).1 (rwAt A n).2 := hd 4 rfl
            have d24 : ac.eval (.tmp 24) = (.agg #[.slice ra (rwAt C n).1.length rc, .slice sa (rwAt C n).2.length sc]) := hd 8 rfl
            rw [if_pos (wanted_none rfl)]
            refine ob_call rfl rfl rfl (Nat.lt_of_lt_of_eq (by decide : 25 < 28) hsz.symm) rfl (enter_of Try.func40 (by kernel_rfl) rfl) ?_
            show Calls Try.prog 40 #[ac.eval (.tmp 20), ac.eval (.tmp 24)] wc _
            rw [d24]
            exact (refrowsame_any _ _ _ _ _ _ wc d20 ⟨_, _, rfl, HB3.out.go hC, HB4.out.go hC⟩).mono fun _ _ ⟨he, hb⟩ => ⟨_, he, rfl, hb⟩
          · intro ac wc hC hsz hfr hd hpr
            have d25 : ac.eval (.tmp 25) = (.bool (decide ((rwAt A n).1 = (rwAt C n).1) && decide ((rwAt A n).2 = (rwAt C n).2))) := hd 9 rfl
            rw [if_pos (wanted_none rfl)]
            exact ob_not rfl rfl rfl (Nat.lt_of_lt_of_eq (by decide : 26 < 28) hsz.symm) rfl d25 (Below.refl _ _) rfl
        intro a' w6 hC hdef hsz hfr hd
        have e16 : a'.eval (.tmp 16) = (.slice (some ⟨b, off, none⟩) A.length c0) := hd 0 (by decide)
        have e17 : a'.eval (.tmp 17) = (.int .i64 (n : Int)) := hd 1 (by decide)
        have e18 : a'.eval (.tmp 18) = (.pointer (some ⟨b, off + n * 2, none⟩)) := hd 2 (by decide)
        have e19 : a'.eval (.tmp 19) = (.agg #[.slice pa (rwAt A n).1.length pc, .slice qa (rwAt A n).2.length qc]) := hd 3 (by decide)
        obtain ⟨x20, e20, r20⟩ : ∃ xq_, a'.eval (.tmp 20) = xq_ ∧ IsRow w6 (xq_) (rwAt A n).1 (rwAt A n).2 := ⟨_, rfl, hd 4 (by decide)⟩
        replace r20 := Lib.hid r20
        have e21 : a'.eval (.tmp 21) = (.slice (some ⟨b', off', none⟩) C.length c1) := hd 5 (by decide)
        have e22 : a'.eval (.tmp 22) = (.int .i64 (n : Int)) := hd 6 (by decide)
        have e23 : a'.eval (.tmp 23) = (.pointer (some ⟨b', off' + n * 2, none⟩)) := hd 7 (by decide)
        have e24 : a'.eval (.tmp 24) = (.agg #[.slice ra (rwAt C n).1.length rc, .slice sa (rwAt C n).2.length sc]) := hd 8 (by decide)
        have e25 : a'.eval (.tmp 25) = (.bool (decide ((rwAt A n).1 = (rwAt C n).1) && decide ((rwAt A n).2 = (rwAt C n).2))) := hd 9 (by decide)
        have e26 : a'.eval (.tmp 26) = (.bool (!(decide ((rwAt A n).1 = (rwAt C n).1) && decide ((rwAt A n).2 = (rwAt C n).2)))) := hd 10 (by decide)
        have hact := act_puts hdef hsz hfr
        simp only [dstsOf, List.filterMap, putAll, Act.put, List.setIfInBounds_toArray, List.set_cons_succ, List.set_cons_zero, e16, e17, e18, e19, e20, e21, e22, e23, e24, e25, e26] at hact
        clear hd hfr hsz hdef e16 e17 e18 e19 e20 e21 e22 e23 e24 e25 e26
        subst hact
        replace B := B.trans (hC.mono B.size)
        rw [pair_dec]
        by_cases hq : rwAt A n = rwAt C n
        · have hd1 : decide (((rwAt A n).1, (rwAt A n).2) = ((rwAt C n).1, (rwAt C n).2)) = true := decide_eq_true hq
          have HQ := Lib.hid hq
          rw [hd1]
          clear hq hd1
          go_wp2_with fail
          go_roundw
          case rel => exact ⟨n + 1, by omega, by go_num, fun j hj => by
            by_cases h : j = n
            · rw [h]; exact HQ.out
            · exact HN.out j (by omega), B⟩
          case measure => simp [intOf]; omega
        · have hd1 : decide (((rwAt A n).1, (rwAt A n).2) = ((rwAt C n).1, (rwAt C n).2)) = false := decide_eq_false hq
          have HQ := Lib.hid (show t = false by rw [HT.out]; exact decide_eq_false fun e => hq (by rw [e]))
          rw [hd1]
          clear hq hd1
          go_wp2_with fail
          go_ret
          exact ⟨by rw [HQ.out]; rfl, B⟩
      · have HQ := Lib.hid (show t = true by rw [HT.out]; exact decide_eq_true (ext_rwAt HL.out fun j hj => HN.out j (by omega)))
        go_wp2_with fail
        go_ret
        exact ⟨by rw [HQ.out]; rfl, B⟩
  · have HT := Lib.hid (show t = false by rw [ht]; exact decide_eq_false fun e => hl (by rw [e]))
    have hb0 : ((A.length : Int) != (C.length : Int)) = true := by rw [bne_iff_ne]; omega
    clear ht hl
    go_enter Try.func45, Try.ntmps45
    go_wp2_with fail
    go_ret
    exact ⟨by rw [HT.out]; rfl, Below.refl _ _⟩

end Go.Proofs.Ytohfcdgpllghbaa

/-
  Systems of equations (layer 8): the program's rows are the document's. No program in this text.
-/
set_option maxRecDepth 100000
namespace Go.Proofs.Ytohfcdgpllghbaa
open Go.RowKit
open La

/-- The program's rows and the equations that the document has taken. -/
structure Same8 (k t : Nat) (E D : List Rw) : Prop where
  red : RedR k t E
  dims : Ro.Dims k t D
  sp1 : ∀ v, Sp (E.map f1) v ↔ Sp (D.map f1) v
  spj : ∀ v, Sp (E.map fj) v ↔ Sp ((Ro.all D).map fj) v
  len : E.length = D.length
theorem Same8.nil (k t : Nat) : Same8 k t [] [] := ⟨RedR.nil k t, fun r h => (by cases h), fun _ => Iff.rfl, fun _ => Iff.rfl, rfl⟩
theorem Same8.rows {k t : Nat} {E D : List Rw} (h : Same8 k t E D) : Ro.rows8 D = E := by
  obtain ⟨h1, h2⟩ := rows8_red h.dims
  exact h1.eq h.red fun v => (h2 v).trans (h.spj v).symm
theorem Same8.rest {k t : Nat} {E D : List Rw} (h : Same8 k t E D) (x : Rw) : Ro.rest8 D x = Ro.rest E x := by unfold Ro.rest8; rw [h.rows]
theorem red_rank1 {k t : Nat} {E : List Rw} (h : RedR k t E) : E.length = rk k (Sp (E.map f1)) := (up_rank h.up).symm
theorem put_length (L : List Rw) (y : Rw) : (Ro.put L y).length = L.length + 1 := by
  have := Ro.ahead_le L y
  simp [Ro.put]; omega
theorem insert_none {k t : Nat} {L : List Rw} (hD : Ro.Dims k t L) {x : Rw} (hx : Ro.Dim k t x) (hz : zeroB (Ro.rest L x).1 = true) : Ro.insert L x = L := by
  have hr := Ro.rest_dim hD hx
  have hn : ¬ lead (Ro.norm (Ro.rest L x)).1 < (Ro.norm (Ro.rest L x)).1.length := by
    rw [Ro.norm_lead hr]
    have : (Ro.norm (Ro.rest L x)).1.length = (Ro.rest L x).1.length := by show (Gf.scale _ _).length = _; rw [Gf.scale_length]
    rw [this]; exact zeroB_lead.1 hz
  unfold Ro.insert
  rw [if_neg hn]
theorem Same8.grow {k t : Nat} {E D : List Rw} (h : Same8 k t E D) {x : Rw} (hx : Ro.Dim k t x) (hz : zeroB (Ro.rest E x).1 = false) : Same8 k t (Ro.take1 E x) (D ++ [x]) := by
  have hz' : ¬ zeroB (Ro.rest E x).1 = true := by rw [hz]; decide
  have hred := take1_red h.red hx
  have hl : (Ro.take1 E x).length = E.length + 1 := by
    unfold Ro.take1
    rw [if_neg hz', put_length, Ro.clean_length]
  have hd : Ro.Dims k t (D ++ [x]) := fun r hr => by
    rcases List.mem_append.1 hr with h1 | h1
    · exact h.dims r h1
    · rw [List.mem_singleton.1 h1]; exact hx
  have hs1 : ∀ v, Sp ((Ro.take1 E x).map f1) v ↔ Sp ((D ++ [x]).map f1) v := fun v => by
    rw [take1_span1 h.red hx, sp_snoc]
    exact sp_cons_congr h.sp1
  refine ⟨hred, hd, hs1, fun v => ?_, by rw [hl, h.len]; simp⟩
  have hA := (all_dims h.dims).dims
  rw [take1_span h.red hx (fun e => absurd e hz'), all_snoc, insert_span hA hx (fun e => absurd ?_ (Nat.succ_ne_self E.length))]
  · exact sp_cons_congr h.spj
  · have e1 : (Ro.all (D ++ [x])).length = E.length + 1 := by
      rw [all_rank hd, ← rk_congr hs1, ← red_rank1 hred, hl]
    have e2 : (Ro.all D).length = E.length := by
      rw [all_rank h.dims, ← rk_congr h.sp1, ← red_rank1 h.red]
    rw [all_snoc, insert_none hA hx e, e2] at e1
    exact e1.symm
theorem Same8.put {k t : Nat} {E D : List Rw} (h : Same8 k t E D) {x : Rw} (hx : Ro.Dim k t x) : Same8 k t (Ro.take1 E x) (Ro.put8 D x).1 ∧ putC E x = (Ro.put8 D x).2 := by
  unfold putC Ro.put8
  rw [h.rest x]
  cases hz : zeroB (Ro.rest E x).1 with
  | false => exact ⟨h.grow hx hz, rfl⟩
  | true =>
    have e : Ro.take1 E x = E := by unfold Ro.take1; rw [if_pos hz]
    rw [e]
    simp only [Bool.true_eq_false, if_false]
    split
    · exact ⟨h, rfl⟩
    · exact ⟨h, rfl⟩
theorem Same8.length_le {k t : Nat} {E D : List Rw} (h : Same8 k t E D) : E.length ≤ k := by rw [red_rank1 h.red]; exact rk_le _ _
/-- As many rows as symbols: all are known. -/
theorem known_full {k t : Nat} {E : List Rw} (h : RedR k t E) (hl : E.length = k) {n : Nat} (hn : n < k) : Ro.knownB E (n : Int) = true ∧ Ro.knownV E (n : Int) = rowAt (dataM E) n := by
  have h1 := full_lead h hl n hn
  have hy := known_yes h.up (show n < E.length by omega) (by
    rw [h1, full_unit h hl hn]
    unfold zeroB
    rw [List.all_eq_true]
    intro z hz
    obtain ⟨i, hi, rfl⟩ := List.mem_iff_getElem.1 hz
    have hi' : n + 1 + i < (unitL k n).length := by simpa [List.length_drop, Nat.lt_sub_iff_add_lt, Nat.add_comm] using hi
    have e : (List.drop (n + 1) (unitL k n))[i] = nth (unitL k n) (n + 1 + i) := by
      rw [nth_eq _ _ hi', List.getElem_drop]
    rw [e, nth_unitL, if_neg (by omega)]; rfl)
  rw [h1] at hy
  obtain ⟨e1, e2⟩ := knownV_some hy
  exact ⟨e2, by rw [e1, dataM_at (by omega)]⟩

end Go.Proofs.Ytohfcdgpllghbaa

/-
  Systems of equations in the program (layer 8): what stays while a system takes an equation.
-/
set_option maxRecDepth 100000
namespace Go.Proofs.Ytohfcdgpllghbaa
open Go.RowKit

theorem IsE.mono {w : World} {B C g k t : Nat} {v : Value} {E : List Rw} (h : IsE w B g v k t E) (hC : C ≤ B) : IsE w C g v k t E := ⟨h.1, h.2.1.mono hC, Nat.le_trans hC h.2.2⟩
/-- Another system takes an equation. -/
theorem IsE.beside {w w' : World} {B B' g g' k t k' t' : Nat} {v v' : Value} {E E' : List Rw} (h : IsE w B g v k t E) (h' : IsE w B' g' v' k' t' E') (hp : Past w w' g' v') (h1 : g ≠ g') (h2 : ∀ b, v.ownBlock = some b → v'.ownBlock ≠ some b) : IsE w' B g v k t E := by
  refine ⟨?_, h.2.1.same hp.soft fun b e => hp.block b (h.2.1.lt b e) (fun e1 => ?_) (fun e1 => h2 b e e1.symm), h.2.2⟩
  · have := hp.block g h.1.lt h1 (fun e => h'.2.1.ne_box h.1 (by decide) e.symm)
    have hk := h.1
    unfold Blk at hk ⊢
    rw [this]; exact hk
  · exact h.2.1.ne_box h'.1 (by decide) (by rw [e, e1])
/-- A box of something else. -/
theorem IsE.keeps {w w' : World} {B g b k t : Nat} {v : Value} {E : List Rw} {us : Array Value} {T : TypeId} (h : IsE w B g v k t E) (hp : Past w w' g v) (hk : Blk w b us T) (h1 : 104 ≠ T) (h2 : 106 ≠ T) : Blk w' b us T := by
  have := hp.block b hk.lt (fun e => h.1.ne hk h1 e.symm) (fun e => h.2.1.ne_box hk h2 e.symm)
  unfold Blk at hk ⊢
  rw [this]; exact hk
/-- A list of other elements. -/
theorem IsE.keepsL {w w' : World} {B C g k t : Nat} {v u : Value} {E L : List Rw} {T : TypeId} (h : IsE w B g v k t E) (hp : Past w w' g v) (hk : OwnL w C T u L) (h1 : T ≠ 104) (h2 : 106 ≠ T) : OwnL w' C T u L := by
  obtain ⟨us, h3, h4⟩ := id hk
  refine ⟨us, h3.same fun b e => hp.block b (hk.lt b e) (fun e1 => hk.ne_box h.1 h1 (by rw [e, e1])) (fun e1 => ?_), h4.soft hp.soft⟩
  obtain ⟨a, c, rfl⟩ := hk.shape
  cases a with
  | none => cases e
  | some a =>
    have e' := e
    simp only [Value.ownBlock, Option.some.injEq] at e'
    obtain ⟨g9, c9, e9, _⟩ | e0 : (∃ g9 c9, (Value.slice (some a) L.length c) = .slice (some ⟨g9, 0, none⟩) L.length c9 ∧ True) ∨ False := by
      rcases h3.1.2 with ⟨e5, _⟩ | ⟨g5, cap, cur, e5, _⟩
      · cases e5
      · exact .inl ⟨g5, _, e5, trivial⟩
    · simp only [Value.slice.injEq, Option.some.injEq] at e9
      obtain ⟨rfl, _, rfl⟩ := e9
      simp only at e'
      subst e'
      exact OwnE.apart h.2.1 hk h2 e1.symm
    · exact e0.elim
/-- The system that was cloned lies elsewhere, also behind an equation. -/
theorem near_apart {w : World} {n : Nat} {v v' u : Value} (h : Near w v v') (hv : ∀ b, v.ownBlock = some b → b < n) (hu : ∀ b, u.ownBlock = some b → n ≤ b) (hul : ∀ b, u.ownBlock = some b → b < w.heap.size) : ∀ b, v'.ownBlock = some b → u.ownBlock ≠ some b := by
  intro b e e'
  rcases h with h1 | h1
  · rw [h1] at e
    have := hv b e
    have := hu b e'
    omega
  · have := h1 b e
    have := hul b e'
    omega

end Go.Proofs.Ytohfcdgpllghbaa

/-
  The laws of equations (layer 8): ElimPuts.
-/
set_option maxRecDepth 100000
namespace Go.Proofs.Ytohfcdgpllghbaa
open Go.RowKit

set_option maxHeartbeats 2000000 in
theorem elimPuts_out (k t i : Int) (v : Value) (L : List Rw) (w : World) (hL : IsRL w v L) (hf : few8 L = false) :
    Calls Try.prog 6 #[.int .i64 k, .int .i64 t, v, .int .i64 i] w fun e w' => e = .returned (.bool true) ∧ Below w.heap.size w w' := by
  have HL := Lib.hid hL
  obtain ⟨a, c, rfl⟩ := hL.shape
  have HF := Lib.hid hf
  clear hL hf
  go_enter Try.func6, Try.ntmps6
  go_wp2_with fail
  have B : Below w.heap.size w w := Below.refl _ _
  refine (awake8_any _).mono ?_
  rintro e w1 ⟨rfl, hb⟩
  replace HL := Lib.hid (HL.out.go hb)
  replace B := B.trans (hb.mono B.size)
  have hzw1 := B.size
  clear hb
  go_wp2_with fail
  refine (few8_any _ L _ HL.out).mono ?_
  rintro e w2 ⟨rfl, hb⟩
  replace B := B.trans (hb.mono B.size)
  have hzw2 := B.size
  clear hb
  rw [HF.out]
  go_wp2_with fail
  go_ret
  exact ⟨rfl, B⟩

set_option maxHeartbeats 2000000 in
theorem elimPuts_bad (k t i : Int) (v : Value) (L : List Rw) (w : World) (hL : IsRL w v L) (hf : few8 L = true) (hn : ¬ newOk k t) :
    Calls Try.prog 6 #[.int .i64 k, .int .i64 t, v, .int .i64 i] w fun e w' => e = .returned (.bool true) ∧ Below w.heap.size w w' := by
  have HL := Lib.hid hL
  obtain ⟨a, c, rfl⟩ := hL.shape
  have HF := Lib.hid hf
  have HN := Lib.hid hn
  clear hL hf
  unfold newOk at hn
  have h4 : k < 1 ∨ (¬ k < 1 ∧ 4096 < k) ∨ (¬ k < 1 ∧ ¬ 4096 < k ∧ t < 0) ∨ (¬ k < 1 ∧ ¬ 4096 < k ∧ ¬ t < 0 ∧ 65535 < t) := by omega
  clear hn
  rcases h4 with h1 | ⟨h1, h2⟩ | ⟨h1, h2, h3⟩ | ⟨h1, h2, h3, h4⟩
  all_goals
    go_enter Try.func6, Try.ntmps6
    go_wp2_with fail
    have B : Below w.heap.size w w := Below.refl _ _
    refine (awake8_any _).mono ?_
    rintro e w1 ⟨rfl, hb⟩
    replace HL := Lib.hid (HL.out.go hb)
    replace B := B.trans (hb.mono B.size)
    have hzw1 := B.size
    clear hb
    go_wp2_with fail
    refine (few8_any _ L _ HL.out).mono ?_
    rintro e w2 ⟨rfl, hb⟩
    replace B := B.trans (hb.mono B.size)
    have hzw2 := B.size
    clear hb
    rw [HF.out]
    go_wp2_with fail
    refine (enew_no k t _ HN.out).mono ?_
    rintro e w3 ⟨rfl, hb⟩
    replace B := B.trans (hb.mono B.size)
    have hzw3 := B.size
    clear hb
    go_wp2_with fail
    go_ret
    exact ⟨rfl, B⟩

set_option maxHeartbeats 2000000 in
theorem elimPuts_big (k t : Nat) (i : Int) (v : Value) (L : List Rw) (w : World) (hL : IsRL w v L) (hf : few8 L = true) (hn : newOk (k : Int) (t : Int)) (hb : 20 < k ∨ (k ≤ 20 ∧ 20 < t)) :
    Calls Try.prog 6 #[.int .i64 (k : Int), .int .i64 (t : Int), v, .int .i64 i] w fun e w' => e = .returned (.bool true) ∧ Below w.heap.size w w' := by
  have HL := Lib.hid hL
  obtain ⟨a, c, rfl⟩ := hL.shape
  have HF := Lib.hid hf
  have HN := Lib.hid hn
  clear hL hf
  obtain ⟨n1, n2, n3, n4⟩ := hn
  have m1 : ¬ (k : Int) < 1 := by omega
  have m2 : ¬ 4096 < (k : Int) := by omega
  have m3 : ¬ (t : Int) < 0 := by omega
  have m4 : ¬ 65535 < (t : Int) := by omega
  clear n1 n2 n3 n4
  rcases hb with hb | ⟨hb, hb2⟩
  · have m5 : (20 : Int) < (k : Int) := by omega
    clear hb
    go_enter Try.func6, Try.ntmps6
    go_wp2_with fail
    have B : Below w.heap.size w w := Below.refl _ _
    refine (awake8_any _).mono ?_
    rintro e w1 ⟨rfl, hb⟩
    replace HL := Lib.hid (HL.out.go hb)
    replace B := B.trans (hb.mono B.size)
    have hzw1 := B.size
    clear hb
    go_wp2_with fail
    refine (few8_any _ L _ HL.out).mono ?_
    rintro e w2 ⟨rfl, hb⟩
    replace HL := Lib.hid (HL.out.go hb)
    replace B := B.trans (hb.mono B.size)
    have hzw2 := B.size
    clear hb
    rw [HF.out]
    go_wp2_with fail
    refine (enew_yes k t _ HN.out).mono ?_
    rintro e w3 ⟨g, rfl, hE, hb⟩
    replace HL := Lib.hid (HL.out.go hb)
    replace B := B.trans (hb.mono B.size)
    have hzw3 := B.size
    clear hb
    have HE := Lib.hid (hE.mono (show w.heap.size ≤ _ from hzw2))
    clear hE
    go_wp2_with fail
    refine (esize_any g w.heap.size k t _ [] _ HE.out).mono ?_
    rintro e w4 ⟨rfl, hb⟩
    replace HL := Lib.hid (HL.out.go hb)
    replace HE := Lib.hid (HE.out.go hb)
    replace B := B.trans (hb.mono B.size)
    have hzw4 := B.size
    clear hb
    go_wp2_with fail
    go_ret
    exact ⟨rfl, B⟩
  · have m5 : ¬ (20 : Int) < (k : Int) := by omega
    have m6 : (20 : Int) < (t : Int) := by omega
    clear hb hb2
    go_enter Try.func6, Try.ntmps6
    go_wp2_with fail
    have B : Below w.heap.size w w := Below.refl _ _
    refine (awake8_any _).mono ?_
    rintro e w1 ⟨rfl, hb⟩
    replace HL := Lib.hid (HL.out.go hb)
    replace B := B.trans (hb.mono B.size)
    have hzw1 := B.size
    clear hb
    go_wp2_with fail
    refine (few8_any _ L _ HL.out).mono ?_
    rintro e w2 ⟨rfl, hb⟩
    replace HL := Lib.hid (HL.out.go hb)
    replace B := B.trans (hb.mono B.size)
    have hzw2 := B.size
    clear hb
    rw [HF.out]
    go_wp2_with fail
    refine (enew_yes k t _ HN.out).mono ?_
    rintro e w3 ⟨g, rfl, hE, hb⟩
    replace HL := Lib.hid (HL.out.go hb)
    replace B := B.trans (hb.mono B.size)
    have hzw3 := B.size
    clear hb
    have HE := Lib.hid (hE.mono (show w.heap.size ≤ _ from hzw2))
    clear hE
    go_wp2_with fail
    refine (esize_any g w.heap.size k t _ [] _ HE.out).mono ?_
    rintro e w4 ⟨rfl, hb⟩
    replace HL := Lib.hid (HL.out.go hb)
    replace HE := Lib.hid (HE.out.go hb)
    replace B := B.trans (hb.mono B.size)
    have hzw4 := B.size
    clear hb
    go_wp2_with fail
    go_ret
    exact ⟨rfl, B⟩

end Go.Proofs.Ytohfcdgpllghbaa
