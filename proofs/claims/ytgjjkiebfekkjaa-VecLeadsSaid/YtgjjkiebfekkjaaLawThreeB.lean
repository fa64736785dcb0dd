/-
  The laws of rows (layer 3): the example, 'Make', 'Of'.
-/
import Derived.Test.YtgjjkiebfekkjaaLawThree
import Derived.Test.YtgjjkiebfekkjaaVecB
import Derived.Test.YtgjjkiebfekkjaaMonoC
set_option maxRecDepth 100000
namespace Go.Proofs.Ytgjjkiebfekkjaa
open Go.RowKit

theorem IsRow.shape {w : World} {u : Value} {p q : List Nat} (h : IsRow w u p q) : ∃ a c a' c', u = .agg #[.slice a p.length c, .slice a' q.length c'] := by
  obtain ⟨v, d, rfl, ⟨a, c, rfl, _⟩, ⟨a', c', rfl, _⟩⟩ := h
  exact ⟨a, c, a', c', rfl⟩
theorem IsRow.hard {W w w' : World} {u : Value} {p q : List Nat} (h : IsRow w u p q) (hh : Hb W w w') : IsRow w' u p q := by
  obtain ⟨v, d, e, h1, h2⟩ := h
  exact ⟨v, d, e, h1.hard hh, h2.hard hh⟩

section
variable {W : World}
def Ty.row (t : Tmp) (p q : List Nat) : TyB W := Ty.one t (fun v w => IsRow w v p q) (fun _ _ _ _ hR h => h.go hR) (fun _ _ _ _ hH h => h.hard hH)
def Ty.rowE (t : Tmp) (p q : List Nat) (n : Int) : TyB W := Ty.one t (fun v w => ∃ u, v = .tuple #[u, .int .i64 n] ∧ IsRow w u p q) (fun _ _ _ _ hR ⟨u, e, h⟩ => ⟨u, e, h.go hR⟩) (fun _ _ _ _ hH ⟨u, e, h⟩ => ⟨u, e, h.hard hH⟩)
/-- A row stored into a box that was made anew. -/
def RowIn (W w : World) (v : Value) (p q : List Nat) (T : TypeId) : Prop := ∃ g a c a' c', v = .pointer (some ⟨g, 0, none⟩) ∧ W.heap.size ≤ g ∧ Blk w g #[.slice a p.length c, .slice a' q.length c'] T ∧ IsRow w (.agg #[.slice a p.length c, .slice a' q.length c']) p q
theorem RowIn.go {w w' : World} {v : Value} {p q : List Nat} {T : TypeId} (h : RowIn W w v p q T) (hb : Below w.heap.size w w') : RowIn W w' v p q T := by
  obtain ⟨g, a, c, a', c', e, hg, hk, hr⟩ := h
  exact ⟨g, a, c, a', c', e, hg, hk.go hb, hr.go hb⟩
def Ty.rowIn (t : Tmp) (p q : List Nat) (T : TypeId) : TyB W := Ty.writes t (fun v w => RowIn W w v p q T) (fun _ _ _ _ hR h => h.go hR)
end

/-- A row out of its box. -/
theorem load_vecrow {w : World} {g : Nat} {x y : Value} {T : TypeId} (h : Blk w g #[x, y] T) : (Instr.loadAt 35 (.pointer (some ⟨g, 0, none⟩))).run Try.prog w = .ok (.agg #[x, y]) w := by
  obtain ⟨k0, k1⟩ := h.two
  go_simp
theorem load_refrow {w : World} {g : Nat} {x y : Value} {T : TypeId} (h : Blk w g #[x, y] T) : (Instr.loadAt 39 (.pointer (some ⟨g, 0, none⟩))).run Try.prog w = .ok (.agg #[x, y]) w := by
  obtain ⟨k0, k1⟩ := h.two
  go_simp
theorem load_one {w : World} {g : Nat} {x y : Value} {T : TypeId} (h : Blk w g #[x, y] T) : (Instr.loadAt 33 (.pointer (some ⟨g, 0, none⟩))).run Try.prog w = .ok (.agg #[x, y]) w := by
  obtain ⟨k0, k1⟩ := h.two
  go_simp

set_option maxHeartbeats 400000 in
theorem ob_store_vecrow {W : World} {a : Act} {w : World} {o : Oper} {Q : Exit → Act → World → Prop} {t s : Tmp} {p q : List Nat} (hd : o.dst = none) (hop : o.op = .store 35 (.tmp t) (.tmp s)) (hA : IsBox W w (a.eval (.tmp t)) 2 35) (hV : IsRow w (a.eval (.tmp s)) p q) :
    Done Try.prog (Ty.rowIn (W := W) t p q 35) Q o a w := by
  obtain ⟨g, vs, eA, hg, hk, hs, hn⟩ := hA
  obtain ⟨a1, c1, a2, c2, eV⟩ := hV.shape
  obtain ⟨x, y, rfl⟩ : ∃ x y, vs = #[x, y] := by
    obtain ⟨l⟩ := vs
    match l, hs with
    | [x, y], _ => exact ⟨x, y, rfl⟩
  obtain ⟨k0, k1⟩ := hk.two
  obtain ⟨f0, f1⟩ := hk.fre2
  have hst := hk.set2 (.slice a1 p.length c1) (.slice a2 q.length c2)
  have hgr : w.grownBy ((w.setCell ⟨g, 0, none⟩ (.slice a1 p.length c1)).setCell ⟨g, 1, none⟩ (.slice a2 q.length c2)) (some g) := grown_trans (grown_setCell w ⟨g, 0, none⟩ _) (grown_setCell _ ⟨g, 1, none⟩ _)
  have hn2 : NoU8 #[.slice a1 p.length c1, .slice a2 q.length c2] := noU8_two _ _ (slice_ne _ _ _) (slice_ne _ _ _)
  have hh : Hb W w ((w.setCell ⟨g, 0, none⟩ (.slice a1 p.length c1)).setCell ⟨g, 1, none⟩ (.slice a2 q.length c2)) := ⟨g, _, _, _, hg, hk, hn, hgr, hst, rfl, hn2⟩
  rw [eV] at hV
  refine ob_store ((w.setCell ⟨g, 0, none⟩ (.slice a1 p.length c1)).setCell ⟨g, 1, none⟩ (.slice a2 q.length c2)) rfl rfl hd ?_ hh ?_
  · have HH := Lib.hid hh
    have HV := Lib.hid hV
    clear hh hV hgr hst hn hn2 hk hs hg
    simp only [execOp, hop, eA, eV]
    go_simp
  · exact ⟨g, a1, c1, a2, c2, eA, hg, hst, hV.hard hh⟩

set_option maxHeartbeats 400000 in
theorem ob_store_refrow {W : World} {a : Act} {w : World} {o : Oper} {Q : Exit → Act → World → Prop} {t s : Tmp} {p q : List Nat} (hd : o.dst = none) (hop : o.op = .store 39 (.tmp t) (.tmp s)) (hA : IsBox W w (a.eval (.tmp t)) 2 39) (hV : IsRow w (a.eval (.tmp s)) p q) :
    Done Try.prog (Ty.rowIn (W := W) t p q 39) Q o a w := by
  obtain ⟨g, vs, eA, hg, hk, hs, hn⟩ := hA
  obtain ⟨a1, c1, a2, c2, eV⟩ := hV.shape
  obtain ⟨x, y, rfl⟩ : ∃ x y, vs = #[x, y] := by
    obtain ⟨l⟩ := vs
    match l, hs with
    | [x, y], _ => exact ⟨x, y, rfl⟩
  obtain ⟨k0, k1⟩ := hk.two
  obtain ⟨f0, f1⟩ := hk.fre2
  have hst := hk.set2 (.slice a1 p.length c1) (.slice a2 q.length c2)
  have hgr : w.grownBy ((w.setCell ⟨g, 0, none⟩ (.slice a1 p.length c1)).setCell ⟨g, 1, none⟩ (.slice a2 q.length c2)) (some g) := grown_trans (grown_setCell w ⟨g, 0, none⟩ _) (grown_setCell _ ⟨g, 1, none⟩ _)
  have hn2 : NoU8 #[.slice a1 p.length c1, .slice a2 q.length c2] := noU8_two _ _ (slice_ne _ _ _) (slice_ne _ _ _)
  have hh : Hb W w ((w.setCell ⟨g, 0, none⟩ (.slice a1 p.length c1)).setCell ⟨g, 1, none⟩ (.slice a2 q.length c2)) := ⟨g, _, _, _, hg, hk, hn, hgr, hst, rfl, hn2⟩
  rw [eV] at hV
  refine ob_store ((w.setCell ⟨g, 0, none⟩ (.slice a1 p.length c1)).setCell ⟨g, 1, none⟩ (.slice a2 q.length c2)) rfl rfl hd ?_ hh ?_
  · have HH := Lib.hid hh
    have HV := Lib.hid hV
    clear hh hV hgr hst hn hn2 hk hs hg
    simp only [execOp, hop, eA, eV]
    go_simp
  · exact ⟨g, a1, c1, a2, c2, eA, hg, hst, hV.hard hh⟩

theorem refless_any (u0 u1 : Value) (c : Nat) (p q p' q' : List Nat) (w : World) (hc : c < 256) (h0 : IsRow w u0 p q) (h1 : IsRow w u1 p' q') (hlp : p.length ≤ 10000000) (hlq : q.length ≤ 10000000) :
    Calls Try.prog 15 #[u0, U8 c, u1] w (RowsE w (lessV c p q p' q') (lessD c p q p' q') (lessE p q p' q')) := by
  obtain ⟨v0, d0, rfl, hp0, hq0⟩ := h0
  obtain ⟨v1, d1, rfl, hp1, hq1⟩ := h1
  have g0 := hp0
  have g1 := hq0
  have g2 := hp1
  have g3 := hq1
  obtain ⟨a0, c0, rfl, _⟩ := hp0
  obtain ⟨a1, c1, rfl, _⟩ := hq0
  obtain ⟨a2, c2, rfl, _⟩ := hp1
  obtain ⟨a3, c3, rfl, _⟩ := hq1
  by_cases h : p'.length = p.length ∧ q'.length = q.length
  · exact refless_all c a0 a1 a2 a3 _ _ _ _ c0 c1 c2 c3 p q p' q' w hc hlp hlq g0 g1 g2 g3 true (Or.inl ⟨rfl, h⟩)
  · exact refless_all c a0 a1 a2 a3 _ _ _ _ c0 c1 c2 c3 p q p' q' w hc hlp hlq g0 g1 g2 g3 false (Or.inr ⟨rfl, h⟩)

theorem refrowsame_yes (u0 u1 : Value) (p q : List Nat) (w : World) (h0 : IsRow w u0 p q) (h1 : IsRow w u1 p q) :
    Calls Try.prog 17 #[u0, u1] w fun e w' => e = .returned (.bool true) ∧ Below w.heap.size w w' := by
  have h := refrowsame_any u0 u1 p q p q w h0 h1
  rwa [show (decide (p = p) && decide (q = q)) = true from by simp] at h
theorem vecsame_yes (u0 u1 : Value) (p q : List Nat) (w : World) (h0 : IsRow w u0 p q) (h1 : IsRow w u1 p q) :
    Calls Try.prog 21 #[u0, u1] w fun e w' => e = .returned (.bool true) ∧ Below w.heap.size w w' := by
  have h := vecsame_any u0 u1 p q p q w h0 h1
  rwa [show (decide (p = p) && decide (q = q)) = true from by simp] at h

theorem bytes_new3 (w : World) (x y z : Int) (a b c : Nat) (T : TypeId) (k : Nat) (hk : k = w.heap.size) (hx : x = a) (hy : y = b) (hz : z = c) (ha : a < 256) (hb : b < 256) (hc : c < 256) :
    Bytes (w.alloc (.cells #[.int .u8 x, .int .u8 y, .int .u8 z] T)) (.slice (some ⟨k, 0, none⟩) 3 3) [a, b, c] := by
  subst hx; subst hy; subst hz; subst hk
  exact bytes_new w [a, b, c] T (by simp [ha, hb, hc]) (by simp)
theorem bytes_new1 (w : World) (x : Int) (a : Nat) (T : TypeId) (k : Nat) (hk : k = w.heap.size) (hx : x = a) (ha : a < 256) :
    Bytes (w.alloc (.cells #[.int .u8 x] T)) (.slice (some ⟨k, 0, none⟩) 1 1) [a] := by
  subst hx; subst hk
  exact bytes_new w [a] T (by simp [ha]) (by simp)

theorem awake3_norm : Gf.scale (normC [0, 2, 4]) [0, 2, 4] = [0, 1, 2] ∧ Gf.scale (normC [0, 2, 4]) [6] = [3] := by decide +kernel

set_option maxHeartbeats 400000 in
theorem awake3_any (w : World) :
    Calls Try.prog 6 #[] w fun e w' => e = .returned (.bool true) ∧ Below w.heap.size w w' := by
  have HN := Lib.hid awake3_norm
  go_enter Try.func6, Try.ntmps6
  go_wp2_with fail
  have hx := Lib.hid ((bytes_new3 w 0 2 4 0 2 4 5 _ rfl rfl rfl rfl (by omega) (by omega) (by omega)).go ((Below.refl _ _).alloc (Nat.le_refl _) (.cells #[.int .u8 6] 5)))
  have hy := Lib.hid (bytes_new1 (w.alloc (.cells #[.int .u8 0, .int .u8 2, .int .u8 4] 5)) 6 6 5 (w.heap.size + 1) (by simp) rfl (by omega))
  have B := two_blocks w (.cells #[.int .u8 0, .int .u8 2, .int .u8 4] 5) (.cells #[.int .u8 6] 5)
  refine (of_any _ _ [0, 2, 4] [6] _ hx.out hy.out (by simp) (by simp)).mono ?_
  rintro e w1 ⟨u1, rfl, hu1, hb⟩
  replace B := B.trans (hb.mono B.size)
  have hzw1 := B.size
  clear hb
  have U1 := Lib.hid hu1
  clear hu1 hx hy
  go_wp2_with fail
  refine (norm_any _ _ _ _ U1.out (by simp) (by simp)).mono ?_
  rintro e w2 ⟨u2, rfl, hu2, hb⟩
  replace B := B.trans (hb.mono B.size)
  have hzw2 := B.size
  clear hb
  rw [HN.out.1, HN.out.2] at hu2
  have U2 := Lib.hid hu2
  clear hu2 U1
  go_wp2_with fail
  have hx := Lib.hid ((bytes_new3 w2 0 1 2 0 1 2 5 _ rfl rfl rfl rfl (by omega) (by omega) (by omega)).go ((Below.refl _ _).alloc (Nat.le_refl _) (.cells #[.int .u8 3] 5)))
  have hy := Lib.hid (bytes_new1 (w2.alloc (.cells #[.int .u8 0, .int .u8 1, .int .u8 2] 5)) 3 3 5 (w2.heap.size + 1) (by simp) rfl (by omega))
  have B' := two_blocks w2 (.cells #[.int .u8 0, .int .u8 1, .int .u8 2] 5) (.cells #[.int .u8 3] 5)
  replace U2 := Lib.hid (U2.out.go B')
  replace B := B.trans (B'.mono B.size)
  clear B'
  refine (of_any _ _ [0, 1, 2] [3] _ hx.out hy.out (by simp) (by simp)).mono ?_
  rintro e w3 ⟨u3, rfl, hu3, hb⟩
  replace U2 := Lib.hid (U2.out.go hb)
  replace B := B.trans (hb.mono B.size)
  have hzw3 := B.size
  clear hb
  have U3 := Lib.hid hu3
  clear hu3 hx hy
  go_wp2_with fail
  refine (vecsame_any _ _ _ _ _ _ _ U2.out U3.out).mono ?_
  rintro e w4 ⟨rfl, hb⟩
  replace B := B.trans (hb.mono B.size)
  have hzw4 := B.size
  clear hb
  go_wp2_with fail
  go_ret
  exact ⟨by simp, B⟩

set_option maxHeartbeats 400000 in
theorem make3_any (u : Value) (p q : List Nat) (w : World) (hu : IsRow w u p q) (hlp : p.length ≤ 1000000000) (hlq : q.length ≤ 1000000000) :
    Calls Try.prog 13 #[u] w (RowsV w p q) := by
  obtain ⟨v, d, rfl, hp, hq⟩ := hu
  have HP := Lib.hid hp
  have HQ := Lib.hid hq
  clear hp hq
  go_enter Try.func13, Try.ntmps13
  go_wp2_with fail
  obtain ⟨B, hk1, hk2, hs⟩ := blocks2 w #[v, d] 33 #[.slice none 0 0, .slice none 0 0] 35
  generalize ((w.alloc (.cells #[v, d] 33)).alloc (.cells #[.slice none 0 0, .slice none 0 0] 35)) = W at *
  have K1 := Lib.hid hk1
  have K2 := Lib.hid hk2
  have HS := Lib.hid hs
  clear hs hk1 hk2
  replace HP := Lib.hid (HP.out.go B)
  replace HQ := Lib.hid (HQ.out.go B)
  have hzW := B.size
  obtain ⟨k10, k11⟩ := K1.out.two
  have k1l := K1.out.lt
  go_wp2_with fail
  refine (of_any _ _ _ _ _ HP.out HQ.out hlp hlq).mono ?_
  rintro e w1 ⟨v1, rfl, hv1, hb⟩
  replace K2 := Lib.hid (K2.out.go hb)
  replace B := B.trans (hb.mono B.size)
  have hzw1 := B.size
  clear hb
  obtain ⟨y0, y1, rfl, V1, V2⟩ := hv1
  have H1 := Lib.hid V1
  have H2 := Lib.hid V2
  obtain ⟨a1, c1, rfl, _⟩ := V1
  obtain ⟨a2, c2, rfl, _⟩ := V2
  obtain ⟨k20, k21⟩ := K2.out.two
  have k2l := K2.out.lt
  obtain ⟨k2f0, k2f1⟩ := K2.out.fre2
  go_wp2_with fail
  obtain ⟨e0, e1, hB, hS⟩ := store2 K2.out (Nat.le_succ _) B (slice_ne _ _ _) (slice_ne _ _ _) (.slice a1 p.length c1) (.slice a2 q.length c2)
  exact bodyPost_ret (v := .agg #[.slice a1 p.length c1, .slice a2 q.length c2]) (by simp [results, Try.results13, go_sem, e0, e1]) rfl
    ⟨_, rfl, ⟨_, _, rfl, hS _ _ H1.out, hS _ _ H2.out⟩, hB⟩

set_option maxHeartbeats 400000 in
theorem of3_any (u : Value) (p q : List Nat) (w : World) (hu : IsRow w u p q) :
    Calls Try.prog 18 #[u] w (RowsV w p q) := by
  obtain ⟨v, d, rfl, hp, hq⟩ := hu
  have HP := Lib.hid hp
  have HQ := Lib.hid hq
  obtain ⟨a0, c0, rfl, _⟩ := hp
  obtain ⟨a1, c1, rfl, _⟩ := hq
  go_enter Try.func18, Try.ntmps18
  go_wp2_with fail
  have B2 := two_blocks w (.cells #[.slice a0 p.length c0, .slice a1 q.length c1] 35) (.cells #[.slice a0 p.length c0, .slice a1 q.length c1] 39)
  exact bodyPost_ret (v := .agg #[.slice a0 p.length c0, .slice a1 q.length c1]) (by simp [results, Try.results18, go_sem]) rfl
    ⟨_, rfl, ⟨_, _, rfl, HP.out.go B2, HQ.out.go B2⟩, B2⟩

end Go.Proofs.Ytgjjkiebfekkjaa
