/- Texts of one seat, laid together: MonoE, RefGrid. -/
import Derived.Test.YtphdadibfeencaaGreatSolveHoldsQ6
import Derived.Test.YtphdadibfeencaaGreatSolveHoldsQ5

/-
  A region that draws its order, reads a box that was there ahead of it, and writes it.
-/
set_option maxRecDepth 100000
namespace Go.Proofs.YtphdadibfeencaaGreat
open Go.RowKit

/-- The worlds behind W in which of what was there only block g has turned, and no byte. -/
abbrev Ce (W : World) (g : Nat) : World → Prop := fun w => W.grownBy w (some g) ∧ Soft W w
/-- A step that writes block g (kind 0), or a box made anew. -/
def He (W : World) (g : Nat) (c : Nat) (w w' : World) : Prop := if c = 0 then w.grownBy w' (some g) ∧ Soft w w' else Hb W w w'

theorem Hb.soft {W w w' : World} (h : Hb W w w') : Soft w w' := by
  obtain ⟨g, vs, vs', T, _, hk, hn, hg, hk', _, hn'⟩ := h
  exact Soft.of_box hg hk hn hk' hn'
theorem He.soft {W : World} {g c : Nat} {w w' : World} (h : He W g c w w') : Soft w w' := by
  unfold He at h; split at h
  · exact h.2
  · exact h.soft
theorem hC_e (W : World) (g : Nat) : ∀ w w', Ce W g w → Rb w w' → Ce W g w' := fun _ _ h h' => ⟨grown_trans h.1 (grown_of_below h' _), h.2.trans (Soft.of_below h')⟩
theorem hCH_e (W : World) (g : Nat) : ∀ (c : Nat) w w', Ce W g w → He W g c w w' → Ce W g w' := by
  intro c w w' h hH
  refine ⟨?_, h.2.trans hH.soft⟩
  unfold He at hH; split at hH
  · exact grown_trans h.1 hH.1
  · obtain ⟨g', vs, vs', T, hg', hk, hn, hw, _⟩ := hH
    refine ⟨hw.os.trans h.1.os, hw.tape.trans h.1.tape, hw.output.trans h.1.output, Nat.le_trans h.1.size hw.size, fun k hk hne => ?_⟩
    rw [hw.block k (Nat.lt_of_lt_of_le hk h.1.size) (by simp; omega)]
    exact h.1.block k hk hne
theorem drew_e (W : World) (g : Nat) : Ce W g W.drew := ⟨grown_of_below ((Below.refl _ _).drew) _, Soft.of_below ((Below.refl _ _).drew)⟩

theorem Blk.ce {W w : World} {g b : Nat} {vs : Array Value} {T : TypeId} (h : Blk W b vs T) (hC : Ce W g w) (hne : b ≠ g) : Blk w b vs T := h.grown hC.1 (by simpa using hne)
theorem Bytes.ce {W w : World} {g : Nat} {v : Value} {l : List Nat} (h : Bytes W v l) (hC : Ce W g w) : Bytes w v l := h.soft hC.2
section
variable {W : World} {g : Nat}
/-- Of one temporary, kept where bytes are. -/
def TyE.soft (t : Tmp) (F : Value → World → Prop) (h : ∀ v w w', Soft w w' → F v w → F v w') : Ty (Ce W g) Rb (He W g) :=
  Ty.one t F (fun v w w' _ hR hF => h v w w' (Soft.of_below hR) hF) (fun _ v w w' _ hH hF => h v w w' hH.soft hF)
def TyE.val (t : Tmp) (v : Value) : Ty (Ce W g) Rb (He W g) := Ty.val t v
def TyE.row (t : Tmp) (p q : List Nat) : Ty (Ce W g) Rb (He W g) := TyE.soft t (fun v w => IsRow w v p q) fun _ _ _ hs h => h.soft hs
def TyE.rowE (t : Tmp) (p q : List Nat) (n : Int) : Ty (Ce W g) Rb (He W g) := TyE.soft t (fun v w => ∃ u, v = .tuple #[u, .int .i64 n] ∧ IsRow w u p q) fun _ _ _ hs ⟨u, e, h⟩ => ⟨u, e, h.soft hs⟩

def not0 : Nat → Bool := fun c => decide (c ≠ 0)
theorem Blk.he {w w' : World} {c : Nat} {vs : Array Value} {T : TypeId} (hg : g < W.heap.size) (h : Blk w g vs T) (hc : not0 c = true) (hH : He W g c w w') : Blk w' g vs T := by
  unfold He at hH
  rw [if_neg (by simpa [not0] using hc)] at hH
  exact h.hard hg hH
/-- A load from the box: ahead, the box holds this. -/
def TyE.reads (hg : g < W.heap.size) (t : Tmp) (v : Value) (vs : Array Value) (T : TypeId) : Ty (Ce W g) Rb (He W g) :=
  { TyE.val (W := W) (g := g) t v with Pre := fun w => Blk w g vs T, okP := not0, preUp := fun _ _ _ hR h => h.go hR, preH := fun _ hc _ _ _ hH h => h.he hg hc hH }
/-- The box holds a row. -/
def ERow (w : World) (g : Nat) (T : TypeId) (p q : List Nat) : Prop := ∃ a c a' c', Blk w g #[.slice a p.length c, .slice a' q.length c'] T ∧ IsRow w (.agg #[.slice a p.length c, .slice a' q.length c']) p q
theorem ERow.go {w w' : World} {T : TypeId} {p q : List Nat} (h : ERow w g T p q) (hb : Below w.heap.size w w') : ERow w' g T p q := by
  obtain ⟨a, c, a', c', h1, h2⟩ := h; exact ⟨a, c, a', c', h1.go hb, h2.go hb⟩
/-- The store of a row into the box. -/
def TyE.storesRow (hg : g < W.heap.size) (vs : Array Value) (T : TypeId) (p q : List Nat) : Ty (Ce W g) Rb (He W g) :=
  ⟨[], fun _ w => ERow w g T p q, some 0, not0, fun _ _ _ _ hR h => h.go hR, fun _ hc _ _ _ _ hH ⟨a, c, a', c', h1, h2⟩ => ⟨a, c, a', c', h1.he hg hc hH, h2.soft hH.soft⟩,
    fun w => Blk w g vs T, not0, fun _ _ _ hR h => h.go hR, fun _ hc _ _ _ hH h => h.he hg hc hH⟩
end

theorem load_blk0 {w : World} {g : Nat} {x y : Value} {T : TypeId} (h : Blk w g #[x, y] T) : (Instr.loadAt 23 (.pointer (some ⟨g, 0, none⟩))).run Tryz.prog w = .ok x w := load_bytes h.two.1
theorem load_u8 {w : World} {g k : Nat} {v : Value} (h : w.cell? ⟨g, k, none⟩ = some v) : (Instr.loadAt 5 (.pointer (some ⟨g, k, none⟩))).run Tryz.prog w = .ok v w := by
  go_simp

theorem store_row {w : World} {g : Nat} {x y x' y' : Value} {T : TypeId} (hk : Blk w g #[x, y] T) (hn : NoU8 #[x, y]) {v : Value} {p q : List Nat} (hV : IsRow w v p q) (hst : ∀ a c a' c', v = .agg #[.slice a p.length c, .slice a' q.length c'] → ∃ u0 u1, (.slice a p.length c) = u0 ∧ (.slice a' q.length c') = u1 ∧ x' = u0 ∧ y' = u1) :
    w.grownBy ((w.setCell ⟨g, 0, none⟩ x').setCell ⟨g, 1, none⟩ y') (some g) ∧ Soft w ((w.setCell ⟨g, 0, none⟩ x').setCell ⟨g, 1, none⟩ y') ∧ ERow ((w.setCell ⟨g, 0, none⟩ x').setCell ⟨g, 1, none⟩ y') g T p q := by
  obtain ⟨a, c, a', c', e⟩ := hV.shape
  obtain ⟨_, _, rfl, rfl, rfl, rfl⟩ := hst a c a' c' e
  have hgr : w.grownBy ((w.setCell ⟨g, 0, none⟩ (.slice a p.length c)).setCell ⟨g, 1, none⟩ (.slice a' q.length c')) (some g) := grown_trans (grown_setCell w ⟨g, 0, none⟩ _) (grown_setCell _ ⟨g, 1, none⟩ _)
  have h2 := hk.set2 (.slice a p.length c) (.slice a' q.length c')
  have hs := Soft.of_box hgr hk hn h2 (noU8_two _ _ (slice_ne _ _ _) (slice_ne _ _ _))
  rw [e] at hV
  exact ⟨hgr, hs, a, c, a', c', h2, hV.soft hs⟩

set_option maxHeartbeats 400000 in
theorem ob_storesRow_ref {W : World} {g : Nat} (hg : g < W.heap.size) {a : Act} {w : World} {o : Oper} {Q : Exit → Act → World → Prop} {x y : Operand} {u v : Value} {T : TypeId} {p q : List Nat} (hop : o.op = .store 50 x y) (hx : a.eval x = .pointer (some ⟨g, 0, none⟩)) (hV : IsRow w (a.eval y) p q)
    (hk : Blk w g #[u, v] T) (hn : NoU8 #[u, v]) : Done Tryz.prog (TyE.storesRow (W := W) hg #[u, v] T p q) Q o a w := by
  obtain ⟨a1, c1, a2, c2, e⟩ := hV.shape
  obtain ⟨k1, k2, k3⟩ := store_row (x' := .slice a1 p.length c1) (y' := .slice a2 q.length c2) hk hn hV (fun b c b' c' e' => by
    rw [e] at e'
    simp only [Value.agg.injEq, Array.mk.injEq, List.cons.injEq, and_true] at e'
    exact ⟨_, _, rfl, rfl, e'.1, e'.2⟩)
  obtain ⟨c0, c1'⟩ := hk.two
  obtain ⟨f0, f1⟩ := hk.fre2
  refine ob_store0 ((w.setCell ⟨g, 0, none⟩ (.slice a1 p.length c1)).setCell ⟨g, 1, none⟩ (.slice a2 q.length c2)) rfl rfl hop hx e ?_ (by unfold He; rw [if_pos rfl]; exact ⟨k1, k2⟩) k3
  clear k1 k2 k3 hV hn hk
  go_simp

end Go.Proofs.YtphdadibfeencaaGreat

/-
  The document's answer for grids (wellspringref07), in the program: 'Rest'.
-/
set_option maxRecDepth 100000
namespace Go.Proofs.YtphdadibfeencaaGreat
open Go.RowKit

/-- 'Less' by as much as the row has where the other one leads. -/
theorem refless_step (x r : Rw) {k t : Nat} (u v : Value) (w : World) (hx : Ro.Dim k t x) (hr : Ro.Dim k t r) (hk : k ≤ 10000000) (ht : t ≤ 10000000) (hc : nth x.1 (lead r.1) < 256) (hu : IsRow w u x.1 x.2) (hv : IsRow w v r.1 r.2) :
    Calls Tryz.prog 70 #[u, U8 (nth x.1 (lead r.1)), v] w (RowsE w (Ro.step x r).1 (Ro.step x r).2 0) := by
  have h := refless_any u v _ _ _ _ _ w hc hu hv (by rw [hx.1]; exact hk) (by rw [hx.2.1]; exact ht)
  have e : lessE x.1 x.2 r.1 r.2 = 0 := if_pos ⟨by rw [hx.1, hr.1], by rw [hx.2.1, hr.2.1]⟩
  rwa [e] at h

set_option maxHeartbeats 1000000 in
theorem refrest7_some (b off cap : Nat) (L : List Rw) (a0 a1 : Option Addr) (c0 c1 k t : Nat) (x : Rw) (w : World) (hL : IsRL w (.slice (some ⟨b, off, none⟩) L.length cap) L) (hx0 : Bytes w (.slice a0 x.1.length c0) x.1) (hx1 : Bytes w (.slice a1 x.2.length c1) x.2) (hD : Ro.Dims k t L) (hE : Ro.Leads L) (hd : Ro.Dim k t x)
    (hk : k ≤ 10000000) (ht : t ≤ 10000000) (hne : L ≠ []) :
    Calls Tryz.prog 45 #[.slice (some ⟨b, off, none⟩) L.length cap, .agg #[.slice a0 x.1.length c0, .slice a1 x.2.length c1]] w (RowsV w (Ro.rest L x).1 (Ro.rest L x).2) := by
  have hcap : L.length ≤ 9223372036854775807 := by obtain ⟨_, _, _, h1, h2, _⟩ := hL; omega
  have HBW := Lib.hid (hL.block_lt rfl hne)
  clear hne
  have HL := Lib.hid hL
  have HP := Lib.hid hx0
  have HQ := Lib.hid hx1
  have HD := Lib.hid hD
  have HE := Lib.hid hE
  have HX := Lib.hid hd
  clear hL hx0 hx1 hD hE hd
  go_enter Tryz.func45, Tryz.ntmps45
  go_wp2_with fail
  obtain ⟨B, hk1, hk2, hs⟩ := blocks2 w #[.slice a0 x.1.length c0, .slice a1 x.2.length c1] 50 #[.slice none 0 0, .slice none 0 0] 50
  generalize ((w.alloc (.cells #[.slice a0 x.1.length c0, .slice a1 x.2.length c1] 50)).alloc (.cells #[.slice none 0 0, .slice none 0 0] 50)) = W at *
  have K1 := Lib.hid hk1
  have K2 := Lib.hid hk2
  have HS := Lib.hid hs
  clear hs hk1 hk2
  replace HP := Lib.hid (HP.out.go B)
  replace HQ := Lib.hid (HQ.out.go B)
  replace HL := Lib.hid (HL.out.go B)
  have hzW := B.size
  have HW := Lib.hid (show w.heap.size + 1 < W.heap.size from K2.out.lt)
  go_wp2_with fail
  go_loopw [6, 7, 10] (fun _ _ i wr => ∃ k : Nat, k ≤ L.length ∧ i = .int .i64 k ∧ Below w.heap.size w wr ∧ ERow wr w.heap.size 50 (Ro.rest (L.take k) x).1 (Ro.rest (L.take k) x).2 ∧ Blk wr (w.heap.size + 1) #[.slice none 0 0, .slice none 0 0] 50 ∧ IsRL wr (.slice (some ⟨b, off, none⟩) L.length cap) L) (fun _ _ i _ => L.length - (intOf i).toNat)
  case atStart => exact ⟨0, by omega, rfl, B, ⟨a0, c0, a1, c1, K1.out, _, _, rfl, HP.out, HQ.out⟩, K2.out, HL.out⟩
  case round =>
    obtain ⟨i, hi, rfl, B, hER, hK2, hLr⟩ := hrel
    by_cases hlt : i < L.length
    · obtain ⟨p0, q0, z0, z1, hb1, hb2⟩ := hLr.cells i hlt
      have HLr := Lib.hid hLr
      have HK2 := Lib.hid hK2
      have HER := Lib.hid hER
      have HB1 := Lib.hid hb1
      have HB2 := Lib.hid hb2
      obtain ⟨pa, pc, rfl, _⟩ := hb1
      obtain ⟨qa, qc, rfl, _⟩ := hb2
      clear hLr hK2 hER
      have HNE := Lib.hid (show wr.heap.size ≠ w.heap.size by have := HK2.out.lt; omega)
      have HLD := Lib.hid (HE.out.at hlt)
      have HDI := Lib.hid (HD.out.at hlt)
      have HLI := Lib.hid (show leadI (rwAt L i).1 = (lead (rwAt L i).1 : Int) from if_pos HLD.out)
      obtain ⟨y, hy⟩ : ∃ y, y = Ro.rest (L.take i) x := ⟨_, rfl⟩
      have HY := Lib.hid hy
      rw [← hy] at HER
      have HYD := Lib.hid (show Ro.Dim k t y by rw [hy]; exact Ro.rest_dim (HD.out.take i) HX.out)
      clear hy
      go_wp2_with fail
      obtain ⟨hb, hk, hs⟩ := blocks1 wr #[.slice pa (rwAt L i).1.length pc, .slice qa (rwAt L i).2.length qc] 50
      generalize wr.alloc (.cells #[.slice pa (rwAt L i).1.length pc, .slice qa (rwAt L i).2.length qc] 50) = W5 at *
      have K3 := Lib.hid hk
      replace HLr := Lib.hid (HLr.out.go hb)
      replace HK2 := Lib.hid (HK2.out.go hb)
      replace HER := Lib.hid (HER.out.go hb)
      replace HB1 := Lib.hid (HB1.out.go hb)
      replace HB2 := Lib.hid (HB2.out.go hb)
      replace B := B.trans (hb.mono B.size)
      have hzW5 := B.size
      clear hb hk hs
      obtain ⟨k30, k31⟩ := K3.out.two
      have k3l := K3.out.lt
      refine (reflead_any _ _ _ HB1.out).mono ?_
      rintro e w' ⟨rfl, rfl⟩
      rw [HLI.out]
      go_wp2_with fail
      obtain ⟨ya, yc, za, zc, hk, hr⟩ := HER.out
      obtain ⟨_, _, er, hyb, hzb⟩ := hr
      simp only [Value.agg.injEq, Array.mk.injEq, List.cons.injEq, and_true] at er
      obtain ⟨rfl, rfl⟩ := er
      have HK := Lib.hid hk
      have HYB := Lib.hid hyb
      have HZB := Lib.hid hzb
      have hlt2 : lead (rwAt L i).1 < y.1.length := by rw [HYD.out.1, ← HDI.out.1]; exact HLD.out
      obtain ⟨yb, yo, rfl⟩ : ∃ yb yo, ya = some ⟨yb, yo, none⟩ := by
        obtain ⟨a', c', e, _, _, _, h4⟩ := hyb
        obtain ⟨b', off', rfl, _⟩ := h4 (by intro e; rw [e] at hlt2; simp at hlt2)
        simp only [Value.slice.injEq] at e
        exact ⟨b', off', e.1⟩
      have HN := Lib.hid (show NoU8 #[.slice (some ⟨yb, yo, none⟩) y.1.length yc, .slice za y.2.length zc] from noU8_two _ _ (slice_ne _ _ _) (slice_ne _ _ _))
      have HG := Lib.hid (show w.heap.size < W5.heap.size from HK.out.lt)
      have l0 : (0 : Int) ≤ (lead (rwAt L i).1 : Int) := Int.natCast_nonneg _
      have l1 : (lead (rwAt L i).1 : Int) < (y.1.length : Int) := by omega
      have HCC := Lib.hid (show nth y.1 (lead (rwAt L i).1) < 256 from nth_lt HYD.out.2.2.1 _)
      clear hk hyb hzb hlt2
      refine wp_region_mono (C := Ce W5 w.heap.size) (R := Rb) (H := He W5 w.heap.size) [TyE.reads HG.out 18 (.agg #[.slice (some ⟨yb, yo, none⟩) y.1.length yc, .slice za y.2.length zc]) #[.slice (some ⟨yb, yo, none⟩) y.1.length yc, .slice za y.2.length zc] 50, TyE.val 19 (.pointer (some ⟨w.heap.size, 0, none⟩)), TyE.reads HG.out 20 (.slice (some ⟨yb, yo, none⟩) y.1.length yc) #[.slice (some ⟨yb, yo, none⟩) y.1.length yc, .slice za y.2.length zc] 50, TyE.val 21 (.int .i64 (lead (rwAt L i).1 : Int)), TyE.val 22 (.pointer (some ⟨yb, yo + lead (rwAt L i).1, none⟩)), TyE.val 23 (U8 (nth y.1 (lead (rwAt L i).1))), TyE.row 24 (rwAt L i).1 (rwAt L i).2, TyE.rowE 25 (Ro.step y (rwAt L i)).1 (Ro.step y (rwAt L i)).2 0, TyE.rowE 17 (Ro.step y (rwAt L i)).1 (Ro.step y (rwAt L i)).2 0, TyE.row 26 (Ro.step y (rwAt L i)).1 (Ro.step y (rwAt L i)).2, TyE.val 27 (.int .i64 0), (TyE.storesRow HG.out #[.slice (some ⟨yb, yo, none⟩) y.1.length yc, .slice za y.2.length zc] 50 (Ro.step y (rwAt L i)).1 (Ro.step y (rwAt L i)).2)] (by kernel_rfl) (hC_e W5 w.heap.size) (hCH_e W5 w.heap.size) (drew_e W5 w.heap.size) ⟨(HK.out), trivial, (HK.out), trivial, trivial, trivial, trivial, trivial, trivial, trivial, trivial, (HK.out), trivial⟩ (by kernel_rfl) ?_ ?_
      · refine ⟨?_, ?_, ?_, ?_, ?_, ?_, ?_, ?_, ?_, ?_, ?_, ?_, trivial⟩
        · intro ac wc hC hsz hfr hd hpr
          have d3 : ac.eval (.tmp 3) = (.pointer (some ⟨w.heap.size, 0, none⟩)) := hfr 3 rfl
          rw [if_pos (wanted_none rfl)]
          have hlt : 18 < ac.tmps.size := (Nat.lt_of_lt_of_eq (by decide : 18 < 30) hsz.symm)
          exact ob_load _ rfl rfl rfl hlt rfl d3 (load_refrow hpr) (Below.refl _ _) rfl
        · intro ac wc hC hsz hfr hd hpr
          have d3 : ac.eval (.tmp 3) = (.pointer (some ⟨w.heap.size, 0, none⟩)) := hfr 3 rfl
          rw [if_pos (wanted_none rfl)]
          exact ob_field _ rfl rfl rfl (Nat.lt_of_lt_of_eq (by decide : 19 < 30) hsz.symm) rfl d3 (fun w => by go_simp) (Below.refl _ _) rfl
        · intro ac wc hC hsz hfr hd hpr
          have d19 : ac.eval (.tmp 19) = (.pointer (some ⟨w.heap.size, 0, none⟩)) := hd 1 rfl
          rw [if_pos (wanted_none rfl)]
          have hlt : 20 < ac.tmps.size := (Nat.lt_of_lt_of_eq (by decide : 20 < 30) hsz.symm)
          exact ob_load _ rfl rfl rfl hlt rfl d19 (load_blk0 hpr) (Below.refl _ _) rfl
        · intro ac wc hC hsz hfr hd hpr
          have d7 : ac.eval (.tmp 7) = (.int .i64 (lead (rwAt L i).1 : Int)) := hfr 7 rfl
          rw [if_pos (wanted_none rfl)]
          exact ob_copy rfl rfl rfl (Nat.lt_of_lt_of_eq (by decide : 21 < 30) hsz.symm) (Or.inl rfl) (Below.refl _ _) d7
        · intro ac wc hC hsz hfr hd hpr
          have d20 : ac.eval (.tmp 20) = (.slice (some ⟨yb, yo, none⟩) y.1.length yc) := hd 2 rfl
          have d21 : ac.eval (.tmp 21) = (.int .i64 (lead (rwAt L i).1 : Int)) := hd 3 rfl
          rw [if_pos (wanted_none rfl)]
          exact ob_index _ rfl rfl rfl (Nat.lt_of_lt_of_eq (by decide : 22 < 30) hsz.symm) rfl d20 d21 (by go_simp) (Below.refl _ _) rfl
        · intro ac wc hC hsz hfr hd hpr
          have d22 : ac.eval (.tmp 22) = (.pointer (some ⟨yb, yo + lead (rwAt L i).1, none⟩)) := hd 4 rfl
          rw [if_pos (wanted_none rfl)]
          exact ob_load _ rfl rfl rfl (Nat.lt_of_lt_of_eq (by decide : 23 < 30) hsz.symm) rfl d22 (load_u8 ((HYB.out.ce hC).cell _ (by omega))) (Below.refl _ _) rfl
        · intro ac wc hC hsz hfr hd hpr
          have d6 : ac.eval (.tmp 6) = (.pointer (some ⟨wr.heap.size, 0, none⟩)) := hfr 6 rfl
          rw [if_pos (wanted_none rfl)]
          exact ob_load _ rfl rfl rfl (Nat.lt_of_lt_of_eq (by decide : 24 < 30) hsz.symm) rfl d6 (load_refrow (K3.out.ce hC HNE.out)) (Below.refl _ _) (⟨_, _, rfl, HB1.out.ce hC, HB2.out.ce hC⟩)
        · intro ac wc hC hsz hfr hd hpr
          have d18 : ac.eval (.tmp 18) = (.agg #[.slice (some ⟨yb, yo, none⟩) y.1.length yc, .slice za y.2.length zc]) := hd 0 rfl
          have d23 : ac.eval (.tmp 23) = (U8 (nth y.1 (lead (rwAt L i).1))) := hd 5 rfl
          have d24 : IsRow wc (ac.eval (.tmp 24)) (rwAt L i).1 (rwAt L i).2 := hd 6 rfl
          rw [if_pos (wanted_none rfl)]
          refine ob_call rfl rfl rfl (Nat.lt_of_lt_of_eq (by decide : 25 < 30) hsz.symm) rfl (enter_of Tryz.func70 (by kernel_rfl) rfl) ?_
          show Calls Tryz.prog 70 #[ac.eval (.tmp 18), ac.eval (.tmp 23), ac.eval (.tmp 24)] wc _
          rw [d18, d23]
          exact (refless_step y (rwAt L i) _ _ wc HYD.out HDI.out hk ht HCC.out ⟨_, _, rfl, HYB.out.ce hC, HZB.out.ce hC⟩ d24).mono fun _ _ ⟨u, he, hu, hb⟩ => ⟨_, he, ⟨u, rfl, hu⟩, hb⟩
        · intro ac wc hC hsz hfr hd hpr
          have d25 : ∃ u, ac.eval (.tmp 25) = .tuple #[u, .int .i64 0] ∧ IsRow wc (u) (Ro.step y (rwAt L i)).1 (Ro.step y (rwAt L i)).2 := hd 7 rfl
          rw [if_pos (wanted_none rfl)]
          exact ob_copy rfl rfl rfl (Nat.lt_of_lt_of_eq (by decide : 17 < 30) hsz.symm) (Or.inl rfl) (Below.refl _ _) d25
        · intro ac wc hC hsz hfr hd hpr
          have d17 : ∃ u, ac.eval (.tmp 17) = .tuple #[u, .int .i64 0] ∧ IsRow wc (u) (Ro.step y (rwAt L i)).1 (Ro.step y (rwAt L i)).2 := hd 8 rfl
          rw [if_pos (wanted_none rfl)]
          obtain ⟨u, eu, hu⟩ := d17
          exact ob_extract _ rfl rfl rfl (Nat.lt_of_lt_of_eq (by decide : 26 < 30) hsz.symm) rfl eu (extract0 _ _) (Below.refl _ _) hu
        · intro ac wc hC hsz hfr hd hpr
          have d17 : ∃ u, ac.eval (.tmp 17) = .tuple #[u, .int .i64 0] ∧ IsRow wc (u) (Ro.step y (rwAt L i)).1 (Ro.step y (rwAt L i)).2 := hd 8 rfl
          rw [if_pos (wanted_none rfl)]
          obtain ⟨u, eu, hu⟩ := d17
          exact ob_extract _ rfl rfl rfl (Nat.lt_of_lt_of_eq (by decide : 27 < 30) hsz.symm) rfl eu (extract1 _ _) (Below.refl _ _) rfl
        · intro ac wc hC hsz hfr hd hpr
          have d3 : ac.eval (.tmp 3) = (.pointer (some ⟨w.heap.size, 0, none⟩)) := hfr 3 rfl
          have d26 : IsRow wc (ac.eval (.tmp 26)) (Ro.step y (rwAt L i)).1 (Ro.step y (rwAt L i)).2 := hd 9 rfl
          rw [if_pos (wanted_none rfl)]
          have hlt : 0 < ac.tmps.size := (Nat.lt_of_lt_of_eq (by decide : 0 < 30) hsz.symm)
          exact ob_storesRow_ref HG.out rfl d3 d26 hpr HN.out
      intro a' W6 hC hdef hsz hfr hd
      have e18 : a'.eval (.tmp 18) = (.agg #[.slice (some ⟨yb, yo, none⟩) y.1.length yc, .slice za y.2.length zc]) := hd 0 (by decide)
      have e19 : a'.eval (.tmp 19) = (.pointer (some ⟨w.heap.size, 0, none⟩)) := hd 1 (by decide)
      have e20 : a'.eval (.tmp 20) = (.slice (some ⟨yb, yo, none⟩) y.1.length yc) := hd 2 (by decide)
      have e21 : a'.eval (.tmp 21) = (.int .i64 (lead (rwAt L i).1 : Int)) := hd 3 (by decide)
      have e22 : a'.eval (.tmp 22) = (.pointer (some ⟨yb, yo + lead (rwAt L i).1, none⟩)) := hd 4 (by decide)
      have e23 : a'.eval (.tmp 23) = (U8 (nth y.1 (lead (rwAt L i).1))) := hd 5 (by decide)
      obtain ⟨x24, e24, r24⟩ : ∃ xq_, a'.eval (.tmp 24) = xq_ ∧ IsRow W6 (xq_) (rwAt L i).1 (rwAt L i).2 := ⟨_, rfl, hd 6 (by decide)⟩
      replace r24 := Lib.hid r24
      obtain ⟨x25, e25, r25⟩ : ∃ u, a'.eval (.tmp 25) = .tuple #[u, .int .i64 0] ∧ IsRow W6 (u) (Ro.step y (rwAt L i)).1 (Ro.step y (rwAt L i)).2 := hd 7 (by decide)
      replace r25 := Lib.hid r25
      obtain ⟨x17, e17, r17⟩ : ∃ u, a'.eval (.tmp 17) = .tuple #[u, .int .i64 0] ∧ IsRow W6 (u) (Ro.step y (rwAt L i)).1 (Ro.step y (rwAt L i)).2 := hd 8 (by decide)
      replace r17 := Lib.hid r17
      obtain ⟨x26, e26, r26⟩ : ∃ xq_, a'.eval (.tmp 26) = xq_ ∧ IsRow W6 (xq_) (Ro.step y (rwAt L i)).1 (Ro.step y (rwAt L i)).2 := ⟨_, rfl, hd 9 (by decide)⟩
      replace r26 := Lib.hid r26
      have e27 : a'.eval (.tmp 27) = (.int .i64 0) := hd 10 (by decide)
      have st11 : ERow W6 w.heap.size 50 (Ro.step y (rwAt L i)).1 (Ro.step y (rwAt L i)).2 := hd 11 (by decide)
      replace st11 := Lib.hid st11
      have hact := act_puts hdef hsz hfr
      simp only [dstsOf, List.filterMap, putAll, Act.put, List.setIfInBounds_toArray, List.set_cons_succ, List.set_cons_zero, e18, e19, e20, e21, e22, e23, e24, e25, e17, e26, e27] at hact
      clear hd hfr hsz hdef e18 e19 e20 e21 e22 e23 e24 e25 e17 e26 e27
      subst hact
      have hz5 := B.size
      have HBN := Lib.hid (below_grown B hC.1 hz5 (Nat.le_refl _))
      have HK2N := Lib.hid (HK2.out.ce hC (by omega))
      have HLN := Lib.hid (HLr.out.keep hC.2 fun b' e hne => hC.1.block b' (HLr.out.block_lt e hne) (by
        simp only [Value.ownBlock, Option.some.injEq] at e
        have := HBW.out
        simp; omega))
      have HST := Lib.hid (show Ro.rest (L.take (i + 1)) x = Ro.step y (rwAt L i) by rw [Ro.rest_take_succ L x i hlt, ← HY.out])
      clear hC
      go_wp2_with fail
      go_roundw
      case rel => exact ⟨i + 1, by omega, by go_num, HBN.out, by rw [HST.out]; exact st11.out, HK2N.out, HLN.out⟩
      case measure => simp [intOf]; omega
    · obtain rfl : i = L.length := by omega
      rw [List.take_length] at hER
      obtain ⟨ya, yc, za, zc, hk3, hr⟩ := hER
      have HR := Lib.hid hr
      have HK2 := Lib.hid hK2
      have HK3 := Lib.hid hk3
      clear hLr hr hK2 hk3
      obtain ⟨k30, k31⟩ := HK3.out.two
      obtain ⟨k20, k21⟩ := HK2.out.two
      obtain ⟨f20, f21⟩ := HK2.out.fre2
      go_wp2_with fail
      obtain ⟨e0, e1, hB, hS⟩ := store2 HK2.out (Nat.le_succ _) B (slice_ne _ _ _) (slice_ne _ _ _) (.slice ya (Ro.rest L x).1.length yc) (.slice za (Ro.rest L x).2.length zc)
      obtain ⟨_, _, er, hyb, hzb⟩ := HR.out
      simp only [Value.agg.injEq, Array.mk.injEq, List.cons.injEq, and_true] at er
      obtain ⟨rfl, rfl⟩ := er
      exact bodyPost_ret (v := .agg #[.slice ya (Ro.rest L x).1.length yc, .slice za (Ro.rest L x).2.length zc]) (by simp [results, Tryz.results45, go_sem, e0, e1]) rfl
        ⟨_, rfl, ⟨_, _, rfl, hS _ _ hyb, hS _ _ hzb⟩, hB⟩

set_option maxHeartbeats 400000 in
theorem refrest7_empty (a : Option Addr) (cap : Nat) (a0 a1 : Option Addr) (c0 c1 : Nat) (x : Rw) (w : World) (hx0 : Bytes w (.slice a0 x.1.length c0) x.1) (hx1 : Bytes w (.slice a1 x.2.length c1) x.2) :
    Calls Tryz.prog 45 #[.slice a 0 cap, .agg #[.slice a0 x.1.length c0, .slice a1 x.2.length c1]] w (RowsV w x.1 x.2) := by
  have HP := Lib.hid hx0
  have HQ := Lib.hid hx1
  clear hx0 hx1
  go_enter Tryz.func45, Tryz.ntmps45
  go_wp2_with fail
  obtain ⟨B, hk1, hk2, hs⟩ := blocks2 w #[.slice a0 x.1.length c0, .slice a1 x.2.length c1] 50 #[.slice none 0 0, .slice none 0 0] 50
  generalize ((w.alloc (.cells #[.slice a0 x.1.length c0, .slice a1 x.2.length c1] 50)).alloc (.cells #[.slice none 0 0, .slice none 0 0] 50)) = W at *
  have K1 := Lib.hid hk1
  have K2 := Lib.hid hk2
  have HS := Lib.hid hs
  clear hs hk1 hk2
  replace HP := Lib.hid (HP.out.go B)
  replace HQ := Lib.hid (HQ.out.go B)
  have hzW := B.size
  obtain ⟨k10, k11⟩ := K1.out.two
  have k1l := K1.out.lt
  obtain ⟨k20, k21⟩ := K2.out.two
  have k2l := K2.out.lt
  obtain ⟨k2f0, k2f1⟩ := K2.out.fre2
  go_wp2_with fail
  refine wp_loop_rounds 1 ?_
  rw [rounds_succ]
  go_wp2_with fail
  obtain ⟨e0, e1, hB, hS⟩ := store2 K2.out (Nat.le_succ _) B (slice_ne _ _ _) (slice_ne _ _ _) (.slice a0 x.1.length c0) (.slice a1 x.2.length c1)
  exact bodyPost_ret (v := .agg #[.slice a0 x.1.length c0, .slice a1 x.2.length c1]) (by simp [results, Tryz.results45, go_sem, e0, e1]) rfl
    ⟨_, rfl, ⟨_, _, rfl, hS _ _ HP.out, hS _ _ HQ.out⟩, hB⟩

theorem refrest7_any (v u : Value) (L : List Rw) (k t : Nat) (x : Rw) (w : World) (hL : IsRL w v L) (hx : IsRow w u x.1 x.2) (hD : Ro.Dims k t L) (hE : Ro.Leads L) (hd : Ro.Dim k t x) (hk : k ≤ 10000000) (ht : t ≤ 10000000) :
    Calls Tryz.prog 45 #[v, u] w (RowsV w (Ro.rest L x).1 (Ro.rest L x).2) := by
  obtain ⟨v0, d0, rfl, h0, h1⟩ := hx
  have g0 := h0
  have g1 := h1
  obtain ⟨a0, c0, rfl, _⟩ := h0
  obtain ⟨a1, c1, rfl, _⟩ := h1
  by_cases hne : L = []
  · subst hne
    obtain ⟨a, c, rfl⟩ := hL.shape
    exact refrest7_empty a c a0 a1 c0 c1 x w g0 g1
  · obtain ⟨b, off, c, rfl, _⟩ := hL.addr (List.length_pos_iff.2 hne)
    exact refrest7_some b off c L a0 a1 c0 c1 k t x w hL g0 g1 hD hE hd hk ht hne

end Go.Proofs.YtphdadibfeencaaGreat
