/- Texts of one seat, laid together: LawNineA, SolveA, SolveB, Words. -/
import Derived.Test.YtphdadibfeencaaSolveJudgesQ15
import Derived.Test.YtphdadibfeencaaSolveJudgesQ12
import Derived.Deep.DeepCutAuto
import Derived.Test.YtphdadibfeencaaSolveJudgesQ3
import Derived.Test.YtphdadibfeencaaSolveJudgesQ2

/-
  The laws of what equations say together (layer 9): equations as the program's rows, and as the document's.
-/
set_option maxRecDepth 100000
namespace Go.Proofs.Ytphdadibfeencaa
open Go.RowKit

theorem slice1_vrow (a a' : Option Addr) (n n' c c' : Nat) (w : World) : (Instr.buildSlice 25 1 #[(0, .agg #[.slice a n c, .slice a' n' c'])]).run Try.prog w = .ok (.slice (some ⟨w.heap.size, 0, none⟩) 1 1) (w.alloc (.cells #[.slice a n c, .slice a' n' c'] 52)) := by go_simp
theorem slice1_rrow (a a' : Option Addr) (n n' c c' : Nat) (w : World) : (Instr.buildSlice 26 1 #[(0, .agg #[.slice a n c, .slice a' n' c'])]).run Try.prog w = .ok (.slice (some ⟨w.heap.size, 0, none⟩) 1 1) (w.alloc (.cells #[.slice a n c, .slice a' n' c'] 62)) := by go_simp
section
variable {z : Two} {a : Act} {w : World} {o : Oper} {Q : Exit → Act → World → Prop} {t s x : Tmp} {r : Rw}
theorem ob_fresh_v (hz : z.Fit) (hd : o.dst = some t) (hlt : t < a.tmps.size) (hop : o.op = .buildSlice 25 1 #[(0, .tmp s)]) (hC : z.C w) (hV : IsRow w (a.eval (.tmp s)) r.1 r.2) : Done Try.prog (TyT.fresh hz t r 52) Q o a w := by
  obtain ⟨x1, y1, e, hx, hy⟩ := hV
  have hb : ∀ (cs : Array Value) (T : TypeId), Below w.heap.size w (w.alloc (.cells cs T)) := fun cs T => (Below.refl _ _).alloc (Nat.le_refl _) _
  have hx' := fun cs T => hx.go (hb cs T)
  have hy' := fun cs T => hy.go (hb cs T)
  obtain ⟨a1, c1, rfl, _⟩ := hx
  obtain ⟨a2, c2, rfl, _⟩ := hy
  exact ob_slice1 _ _ rfl rfl hd hlt hop e (slice1_vrow _ _ _ _ _ _ _) (hb _ _) ⟨_, _, _, rfl, hC.2.1, Blk.new _ _ _ _ rfl, hx' _ _, hy' _ _⟩
theorem ob_fresh_r (hz : z.Fit) (hd : o.dst = some t) (hlt : t < a.tmps.size) (hop : o.op = .buildSlice 26 1 #[(0, .tmp s)]) (hC : z.C w) (hV : IsRow w (a.eval (.tmp s)) r.1 r.2) : Done Try.prog (TyT.fresh hz t r 62) Q o a w := by
  obtain ⟨x1, y1, e, hx, hy⟩ := hV
  have hb : ∀ (cs : Array Value) (T : TypeId), Below w.heap.size w (w.alloc (.cells cs T)) := fun cs T => (Below.refl _ _).alloc (Nat.le_refl _) _
  have hx' := fun cs T => hx.go (hb cs T)
  have hy' := fun cs T => hy.go (hb cs T)
  obtain ⟨a1, c1, rfl, _⟩ := hx
  obtain ⟨a2, c2, rfl, _⟩ := hy
  exact ob_slice1 _ _ rfl rfl hd hlt hop e (slice1_rrow _ _ _ _ _ _ _) (hb _ _) ⟨_, _, _, rfl, hC.2.1, Blk.new _ _ _ _ rfl, hx' _ _, hy' _ _⟩
variable {P : Program} {tt : TypeId} {B : Nat} {L : List Rw}
theorem ob_appA (hz : z.Fit) (ht : P.underlying tt = some (.slice z.T1)) (hinfo : (P.info? z.T1).map (fun i => (i.zero, i.size, i.bytes)) = some (some (.agg #[.slice none 0 0, .slice none 0 0]), 2, 48)) (hB : B ≤ w.heap.size) (hn : L.length ≤ 1000000000)
    (hd : o.dst = some t) (hlt : t < a.tmps.size) (hop : o.op = .call { callee := .builtin .append, args := #[.tmp s, .tmp x], argTypes := #[tt, tt] }) (hs : a.eval (.tmp s) = z.v1) (hx : FreshRow z.W w (a.eval (.tmp x)) r z.T1) (hown : OwnL w B z.T1 z.v1 L) :
    Done P (TyT.appA hz t (lstL B z.T1 L) (lstL B z.T1 (L ++ [r]))) Q o a w := by
  obtain ⟨i0, hi, hz0, hz1, hz2⟩ := info_parts hinfo
  obtain ⟨g, x', y', e, _, hk, h1, h2⟩ := hx
  obtain ⟨v9, w9, r9, o9, g9, s9, t9⟩ := run_append_row1 (ty := o.type) ht hi hz0 hz1 hz2 hown hk h1 h2 hB hn
  exact ob_hard v9 w9 rfl rfl hd hlt (run_ob_append hop hs e r9) (by unfold Two.H; rw [if_pos rfl]; exact ⟨g9, s9, t9⟩) o9
theorem ob_appB (hz : z.Fit) (ht : P.underlying tt = some (.slice z.T2)) (hinfo : (P.info? z.T2).map (fun i => (i.zero, i.size, i.bytes)) = some (some (.agg #[.slice none 0 0, .slice none 0 0]), 2, 48)) (hB : B ≤ w.heap.size) (hn : L.length ≤ 1000000000)
    (hd : o.dst = some t) (hlt : t < a.tmps.size) (hop : o.op = .call { callee := .builtin .append, args := #[.tmp s, .tmp x], argTypes := #[tt, tt] }) (hs : a.eval (.tmp s) = z.v2) (hx : FreshRow z.W w (a.eval (.tmp x)) r z.T2) (hown : OwnL w B z.T2 z.v2 L) :
    Done P (TyT.appB hz t (lstL B z.T2 L) (lstL B z.T2 (L ++ [r]))) Q o a w := by
  obtain ⟨i0, hi, hz0, hz1, hz2⟩ := info_parts hinfo
  obtain ⟨g, x', y', e, _, hk, h1, h2⟩ := hx
  obtain ⟨v9, w9, r9, o9, g9, s9, t9⟩ := run_append_row1 (ty := o.type) ht hi hz0 hz1 hz2 hown hk h1 h2 hB hn
  exact ob_hard v9 w9 rfl rfl hd hlt (run_ob_append hop hs e r9) (by unfold Two.H; rw [if_neg (by decide)]; exact ⟨g9, s9, t9⟩) o9
end

/-- What Rows answers. -/
def BothL (w : World) (L : List Rw) (e : Ending) (w' : World) : Prop := ∃ v u, e = .returned (.tuple #[v, u]) ∧ OwnL w' w.heap.size 52 v L ∧ OwnL w' w.heap.size 62 u L ∧ Below w.heap.size w w'
set_option maxHeartbeats 1000000 in
theorem rows9_any (v : Value) (L : List Rw) (w : World) (hL : IsRL w v L) (hlen : L.length ≤ 1000000) (hw : ∀ j, j < L.length → (rwAt L j).1.length ≤ 10000000 ∧ (rwAt L j).2.length ≤ 10000000) :
    Calls Try.prog 7 #[v] w (BothL w L) := by
  have HL0 := Lib.hid hL
  obtain ⟨a, c, rfl⟩ := hL.shape
  have HW := Lib.hid hw
  clear hL hw
  go_enter Try.func7, Try.ntmps7
  go_wp2_with fail
  go_loopw [4, 5, 7, 10] (fun lv lu _ x wr => ∃ j : Nat, j ≤ L.length ∧ x = .int .i64 j ∧ Below w.heap.size w wr ∧ OwnL wr w.heap.size 52 lv (L.take j) ∧ OwnL wr w.heap.size 62 lu (L.take j)) (fun _ _ _ x _ => L.length - (intOf x).toNat)
  case atStart => exact ⟨0, by omega, rfl, Below.refl _ _, OwnL.nil _ _ _, OwnL.nil _ _ _⟩
  case round =>
    obtain ⟨j, hj, rfl, B, hA, hB⟩ := hrel
    have HA := Lib.hid hA
    have HB := Lib.hid hB
    obtain ⟨va, vc, e1⟩ := hA.shape
    obtain ⟨da, dc, e2⟩ := hB.shape
    have htl : (L.take j).length = j := by rw [List.length_take, Nat.min_eq_left hj]
    rw [htl] at e1 e2
    subst e1
    subst e2
    clear hA hB
    by_cases hjl : j < L.length
    · obtain ⟨b, off, c', er, hbl⟩ := HL0.out.addr (by omega)
      simp only [Value.slice.injEq] at er
      obtain ⟨rfl, -, rfl⟩ := er
      obtain ⟨x0, y0, hx0, hy0, hxb, hyb⟩ := HL0.out.cells j hjl
      replace hx0 := (Below.cell B (p := ⟨b, _, none⟩) hbl).trans hx0
      replace hy0 := (Below.cell B (p := ⟨b, _, none⟩) hbl).trans hy0
      have HLN := Lib.hid (HW.out j hjl)
      have HTK := Lib.hid (take_rwAt L j hjl)
      obtain ⟨r, hr⟩ : ∃ r, r = rwAt L j := ⟨_, rfl⟩
      rw [← hr] at hxb hyb HLN HTK
      have HXR := Lib.hid (show IsRow w (.agg #[x0, y0]) r.1 r.2 from ⟨_, _, rfl, hxb, hyb⟩)
      obtain ⟨xa, xc, rfl, _⟩ := hxb
      obtain ⟨ya, yc, rfl, _⟩ := hyb
      have j1 : (j : Int) < (L.length : Int) := by omega
      have j0 : (0 : Int) ≤ (j : Int) := Int.natCast_nonneg _
      clear hr hbl htl
      go_upto_region 6 with fail
      obtain ⟨gx, hgx⟩ : ∃ gx : Nat, gx = wr.heap.size := ⟨_, rfl⟩
      obtain ⟨hb, hk, hs⟩ := blocks1 wr #[.slice xa r.1.length xc, .slice ya r.2.length yc] 42
      generalize wr.alloc (.cells #[.slice xa r.1.length xc, .slice ya r.2.length yc] 42) = W6 at *
      have KX := Lib.hid hk
      replace HA := Lib.hid (HA.out.go hb)
      replace HB := Lib.hid (HB.out.go hb)
      replace B := B.trans (hb.mono B.size)
      have hzW6 := B.size
      clear hb hk hs
      rw [← hgx] at KX
      simp only [← hgx]
      obtain ⟨M, hM⟩ : ∃ M, M = L.take j := ⟨_, rfl⟩
      have HML := Lib.hid (show M.length ≤ 1000000000 by rw [hM, List.length_take]; omega)
      rw [← hM] at HA HB HTK
      have HZ := Lib.hid (show (Two.mk w W6 (.slice va j vc) 52 (.slice da j dc) 62 gx #[.slice xa r.1.length xc, .slice ya r.2.length yc] 42).Fit from ⟨fun g e => ⟨HA.out.from g e, HA.out.lt g e⟩, fun g e => ⟨HB.out.from g e, HB.out.lt g e⟩, (by decide : 52 ≠ 62), (by decide : 52 ≠ 42), (by decide : 62 ≠ 42)⟩)
      have HR := Lib.hid hM
      have HBW := Lib.hid B
      clear hx0 hy0 hM hgx B
      refine wp_region_mono (C := (Two.mk w W6 (.slice va j vc) 52 (.slice da j dc) 62 gx #[.slice xa r.1.length xc, .slice ya r.2.length yc] 42).C) (R := Rb) (H := (Two.mk w W6 (.slice va j vc) 52 (.slice da j dc) 62 gx #[.slice xa r.1.length xc, .slice ya r.2.length yc] 42).H) [TyT.val 14 (.slice va j vc), TyT.row 15 r.1 r.2, TyT.row 16 r.1 r.2, (TyT.fresh HZ.out 17 r 52), (TyT.appA HZ.out 18 (lstL w.heap.size 52 M) (lstL w.heap.size 52 (M ++ [r]))), TyT.val 19 (.slice da j dc), TyT.row 20 r.1 r.2, TyT.row 21 r.1 r.2, (TyT.fresh HZ.out 22 r 62), (TyT.appB HZ.out 23 (lstL w.heap.size 62 M) (lstL w.heap.size 62 (M ++ [r]))), (TyT.isA HZ.out 4 (lstL w.heap.size 52 (M ++ [r]))), (TyT.isB HZ.out 5 (lstL w.heap.size 62 (M ++ [r])))] (by kernel_rfl) (Two.hC _) (Two.hCH HZ.out) (Two.drew HBW.out KX.out HA.out.typed HB.out.typed) ⟨trivial, trivial, trivial, trivial, (HA.out.go (drew_b W6)), trivial, trivial, trivial, trivial, (HB.out.go (drew_b W6)), trivial, trivial, trivial⟩ (by kernel_rfl) ?_ ?_
      · refine ⟨?_, ?_, ?_, ?_, ?_, ?_, ?_, ?_, ?_, ?_, ?_, ?_, trivial⟩
        · intro ac wc hC hsz hfr hd hpr
          have d4 : ac.eval (.tmp 4) = (.slice va j vc) := hfr 4 rfl
          rw [if_pos (wanted_none rfl)]
          exact ob_copy rfl rfl rfl (Nat.lt_of_lt_of_eq (by decide : 14 < 27) hsz.symm) (Or.inl rfl) (Below.refl _ _) d4
        · intro ac wc hC hsz hfr hd hpr
          have d7 : ac.eval (.tmp 7) = (.pointer (some ⟨gx, 0, none⟩)) := hfr 7 rfl
          rw [if_pos (wanted_none rfl)]
          exact ob_load _ rfl rfl rfl (Nat.lt_of_lt_of_eq (by decide : 15 < 27) hsz.symm) rfl d7 (load_one hC.2.2.1) (Below.refl _ _) (HXR.out.below (Nat.le_refl _) hC.1)
        · intro ac wc hC hsz hfr hd hpr
          have d15 : IsRow wc (ac.eval (.tmp 15)) r.1 r.2 := hd 1 rfl
          rw [if_pos (wanted_none rfl)]
          refine ob_call rfl rfl rfl (Nat.lt_of_lt_of_eq (by decide : 16 < 27) hsz.symm) rfl (enter_of Try.func19 (by kernel_rfl) rfl) ?_
          show Calls Try.prog 19 #[ac.eval (.tmp 15)] wc _
          exact make3_any _ r.1 r.2 wc d15 (by have := HLN.out.1; omega) (by have := HLN.out.2; omega)
        · intro ac wc hC hsz hfr hd hpr
          have d16 : IsRow wc (ac.eval (.tmp 16)) r.1 r.2 := hd 2 rfl
          rw [if_pos (wanted_none rfl)]
          have hlt : 17 < ac.tmps.size := (Nat.lt_of_lt_of_eq (by decide : 17 < 27) hsz.symm)
          exact ob_fresh_v HZ.out rfl hlt rfl hC d16
        · intro ac wc hC hsz hfr hd hpr
          have d14 : ac.eval (.tmp 14) = (.slice va j vc) := hd 0 rfl
          have d17 : FreshRow W6 wc (ac.eval (.tmp 17)) r 52 := hd 3 rfl
          rw [if_pos (wanted_none rfl)]
          have hlt : 18 < ac.tmps.size := (Nat.lt_of_lt_of_eq (by decide : 18 < 27) hsz.symm)
          exact ob_appA HZ.out Try.underlying25 infoVec hC.1.size HML.out rfl hlt rfl d14 d17 hpr
        · intro ac wc hC hsz hfr hd hpr
          have d5 : ac.eval (.tmp 5) = (.slice da j dc) := hfr 5 rfl
          rw [if_pos (wanted_none rfl)]
          exact ob_copy rfl rfl rfl (Nat.lt_of_lt_of_eq (by decide : 19 < 27) hsz.symm) (Or.inl rfl) (Below.refl _ _) d5
        · intro ac wc hC hsz hfr hd hpr
          have d7 : ac.eval (.tmp 7) = (.pointer (some ⟨gx, 0, none⟩)) := hfr 7 rfl
          rw [if_pos (wanted_none rfl)]
          exact ob_load _ rfl rfl rfl (Nat.lt_of_lt_of_eq (by decide : 20 < 27) hsz.symm) rfl d7 (load_one hC.2.2.1) (Below.refl _ _) (HXR.out.below (Nat.le_refl _) hC.1)
        · intro ac wc hC hsz hfr hd hpr
          have d20 : IsRow wc (ac.eval (.tmp 20)) r.1 r.2 := hd 6 rfl
          rw [if_pos (wanted_none rfl)]
          refine ob_call rfl rfl rfl (Nat.lt_of_lt_of_eq (by decide : 21 < 27) hsz.symm) rfl (enter_of Try.func21 (by kernel_rfl) rfl) ?_
          show Calls Try.prog 21 #[ac.eval (.tmp 20)] wc _
          exact ref3_any _ r.1 r.2 wc d20
        · intro ac wc hC hsz hfr hd hpr
          have d21 : IsRow wc (ac.eval (.tmp 21)) r.1 r.2 := hd 7 rfl
          rw [if_pos (wanted_none rfl)]
          have hlt : 22 < ac.tmps.size := (Nat.lt_of_lt_of_eq (by decide : 22 < 27) hsz.symm)
          exact ob_fresh_r HZ.out rfl hlt rfl hC d21
        · intro ac wc hC hsz hfr hd hpr
          have d19 : ac.eval (.tmp 19) = (.slice da j dc) := hd 5 rfl
          have d22 : FreshRow W6 wc (ac.eval (.tmp 22)) r 62 := hd 8 rfl
          rw [if_pos (wanted_none rfl)]
          have hlt : 23 < ac.tmps.size := (Nat.lt_of_lt_of_eq (by decide : 23 < 27) hsz.symm)
          exact ob_appB HZ.out Try.underlying26 infoRefRow hC.1.size HML.out rfl hlt rfl d19 d22 hpr
        · intro ac wc hC hsz hfr hd hpr
          have d18 : OwnL wc w.heap.size 52 (ac.eval (.tmp 18)) (M ++ [r]) := hd 4 rfl
          rw [if_pos (wanted_none rfl)]
          have hlt : 4 < ac.tmps.size := (Nat.lt_of_lt_of_eq (by decide : 4 < 27) hsz.symm)
          exact ob_copy rfl rfl rfl hlt (Or.inr rfl) (Below.refl _ _) d18
        · intro ac wc hC hsz hfr hd hpr
          have d23 : OwnL wc w.heap.size 62 (ac.eval (.tmp 23)) (M ++ [r]) := hd 9 rfl
          rw [if_pos (wanted_none rfl)]
          have hlt : 5 < ac.tmps.size := (Nat.lt_of_lt_of_eq (by decide : 5 < 27) hsz.symm)
          exact ob_copy rfl rfl rfl hlt (Or.inr rfl) (Below.refl _ _) d23
      intro a' W7 hC hdef hsz hfr hd
      have e14 : a'.eval (.tmp 14) = (.slice va j vc) := hd 0 (by decide)
      obtain ⟨x15, e15, r15⟩ : ∃ xq_, a'.eval (.tmp 15) = xq_ ∧ IsRow W7 (xq_) r.1 r.2 := ⟨_, rfl, hd 1 (by decide)⟩
      replace r15 := Lib.hid r15
      obtain ⟨x16, e16, r16⟩ : ∃ xq_, a'.eval (.tmp 16) = xq_ ∧ IsRow W7 (xq_) r.1 r.2 := ⟨_, rfl, hd 2 (by decide)⟩
      replace r16 := Lib.hid r16
      obtain ⟨x17, e17, r17⟩ : ∃ xq_, a'.eval (.tmp 17) = xq_ ∧ FreshRow W6 W7 (xq_) r 52 := ⟨_, rfl, hd 3 (by decide)⟩
      replace r17 := Lib.hid r17
      obtain ⟨x18, e18, r18⟩ : ∃ xq_, a'.eval (.tmp 18) = xq_ ∧ OwnL W7 w.heap.size 52 (xq_) (M ++ [r]) := ⟨_, rfl, hd 4 (by decide)⟩
      replace r18 := Lib.hid r18
      have e19 : a'.eval (.tmp 19) = (.slice da j dc) := hd 5 (by decide)
      obtain ⟨x20, e20, r20⟩ : ∃ xq_, a'.eval (.tmp 20) = xq_ ∧ IsRow W7 (xq_) r.1 r.2 := ⟨_, rfl, hd 6 (by decide)⟩
      replace r20 := Lib.hid r20
      obtain ⟨x21, e21, r21⟩ : ∃ xq_, a'.eval (.tmp 21) = xq_ ∧ IsRow W7 (xq_) r.1 r.2 := ⟨_, rfl, hd 7 (by decide)⟩
      replace r21 := Lib.hid r21
      obtain ⟨x22, e22, r22⟩ : ∃ xq_, a'.eval (.tmp 22) = xq_ ∧ FreshRow W6 W7 (xq_) r 62 := ⟨_, rfl, hd 8 (by decide)⟩
      replace r22 := Lib.hid r22
      obtain ⟨x23, e23, r23⟩ : ∃ xq_, a'.eval (.tmp 23) = xq_ ∧ OwnL W7 w.heap.size 62 (xq_) (M ++ [r]) := ⟨_, rfl, hd 9 (by decide)⟩
      replace r23 := Lib.hid r23
      obtain ⟨x4, e4, r4⟩ : ∃ xq_, a'.eval (.tmp 4) = xq_ ∧ OwnL W7 w.heap.size 52 (xq_) (M ++ [r]) := ⟨_, rfl, hd 10 (by decide)⟩
      replace r4 := Lib.hid r4
      obtain ⟨x5, e5, r5⟩ : ∃ xq_, a'.eval (.tmp 5) = xq_ ∧ OwnL W7 w.heap.size 62 (xq_) (M ++ [r]) := ⟨_, rfl, hd 11 (by decide)⟩
      replace r5 := Lib.hid r5
      have hact := act_puts hdef hsz hfr
      simp only [dstsOf, List.filterMap, putAll, Act.put, List.setIfInBounds_toArray, List.set_cons_succ, List.set_cons_zero, e14, e15, e16, e17, e18, e19, e20, e21, e22, e23, e4, e5] at hact
      clear hd hfr hsz hdef e14 e15 e16 e17 e18 e19 e20 e21 e22 e23 e4 e5
      subst hact
      have HB7 := Lib.hid hC.1
      rw [← HTK.out] at r4 r5
      clear hC HA HB HZ
      go_wp2_with fail
      go_roundw
      case rel => exact ⟨j + 1, by omega, by go_num, HB7.out, r4.out, r5.out⟩
      case measure => simp [intOf]; omega
    · obtain rfl : j = L.length := by omega
      rw [List.take_length] at HA HB
      go_wp2_with fail
      go_ret2
      exact ⟨_, _, rfl, HA.out, HB.out, B⟩

end Go.Proofs.Ytphdadibfeencaa

/-
  What equations say together (layer 9) in the program: do they fit, and 'Judge'.
-/
set_option maxRecDepth 100000
namespace Go.Proofs.Ytphdadibfeencaa
open Go.RowKit

/-- A place was found, or none: which, it doesn't say; the look may make memory. -/
def FoundB (t : Bool) (w : World) (e : Ending) (w' : World) : Prop := ∃ r : Int, e = .returned (.int .i64 r) ∧ decide (0 ≤ r) = t ∧ Below w.heap.size w w'
/-- Have all rows these lengths? -/
def fitB (k t : Int) (x : Rw) : Bool := decide ((x.1.length : Int) = k) && decide ((x.2.length : Int) = t)
theorem all_false {p : Rw → Bool} {L : List Rw} {n : Nat} (hn : n < L.length) (h : p (rwAt L n) = false) : L.all p = false := by
  rw [List.all_eq_false]
  exact ⟨_, rwAt_mem hn, by rw [h]; decide⟩
theorem all_true {p : Rw → Bool} {L : List Rw} (h : ∀ j, j < L.length → p (rwAt L j) = true) : L.all p = true := by
  rw [List.all_eq_true]
  intro x hx
  obtain ⟨i, hi, rfl⟩ := List.mem_iff_getElem.1 hx
  have := h i hi
  rwa [rwAt_eq L i hi] at this
theorem hasRow_any (v f : Value) (t : Bool) (w : World) (h : Calls Try.prog 45 #[v, f] w (FoundB t w)) :
    Calls Try.prog 23 #[v, f] w fun e w' => e = .returned (.bool t) ∧ Below w.heap.size w w' := by
  have H := Lib.hid h
  clear h
  go_enter Try.func23, Try.ntmps23
  go_wp2_with fail
  refine H.out.mono ?_
  rintro e w' ⟨r, rfl, ht, hb⟩
  have HB := Lib.hid hb
  clear hb
  go_wp2_with fail
  go_ret
  exact ⟨rfl, HB.out⟩

set_option maxHeartbeats 1000000 in
theorem judge1_any (gk gt : Nat) (k t : Int) (u : Value) (p q : List Nat) (w : World) (hk : Blk w gk #[.int .i64 k] 3) (ht : Blk w gt #[.int .i64 t] 3) (hu : IsRow w u p q) :
    Calls Try.prog 24 #[u, .pointer (some ⟨gk, 0, none⟩), .pointer (some ⟨gt, 0, none⟩)] w fun e w' => e = .returned (.bool (!fitB k t (p, q))) ∧ Below w.heap.size w w' := by
  obtain ⟨a, c, a', c', rfl⟩ := hu.shape
  have c0 : w.cell? ⟨gk, 0, none⟩ = some (.int .i64 k) := hk.cell 0
  have c1 : w.cell? ⟨gt, 0, none⟩ = some (.int .i64 t) := ht.cell 0
  have l0 := hk.lt
  have l1 := ht.lt
  obtain ⟨m, hm⟩ : ∃ m, m = p.length := ⟨_, rfl⟩
  obtain ⟨n, hn⟩ : ∃ n, n = q.length := ⟨_, rfl⟩
  have HF := Lib.hid (show fitB k t (p, q) = (decide ((m : Int) = k) && decide ((n : Int) = t)) by unfold fitB; rw [hm, hn])
  rw [← hm, ← hn]
  clear hk ht hu hm hn
  by_cases h1 : (m : Int) = k
  · by_cases h2 : (n : Int) = t
    · have b1 : ((m : Int) != k) = false := by rw [h1]; simp
      have b2 : ((n : Int) != t) = false := by rw [h2]; simp
      have HR := Lib.hid (show fitB k t (p, q) = true by rw [HF.out]; simp [h1, h2])
      clear h1 h2
      go_enter Try.func24, Try.ntmps24
      go_wp2_with fail
      go_ret
      exact ⟨by rw [HR.out]; rfl, (Below.refl _ _).alloc (Nat.le_refl _) _⟩
    · have b1 : ((m : Int) != k) = false := by rw [h1]; simp
      have b2 : ((n : Int) != t) = true := by rw [bne_iff_ne]; exact h2
      have HR := Lib.hid (show fitB k t (p, q) = false by rw [HF.out]; simp [h2])
      clear h1 h2
      go_enter Try.func24, Try.ntmps24
      go_wp2_with fail
      go_ret
      exact ⟨by rw [HR.out]; rfl, (Below.refl _ _).alloc (Nat.le_refl _) _⟩
  · have b1 : ((m : Int) != k) = true := by rw [bne_iff_ne]; exact h1
    have HR := Lib.hid (show fitB k t (p, q) = false by rw [HF.out]; simp [h1])
    clear h1
    go_enter Try.func24, Try.ntmps24
    go_wp2_with fail
    go_ret
    exact ⟨by rw [HR.out]; rfl, (Below.refl _ _).alloc (Nat.le_refl _) _⟩

set_option maxHeartbeats 1000000 in
theorem idxJudge_any (gk gt : Nat) (k t : Int) (v : Value) (L : List Rw) (w : World) (hk : Blk w gk #[.int .i64 k] 3) (ht : Blk w gt #[.int .i64 t] 3) (hL : IsRL w v L) (hlen : L.length ≤ 1000000000) :
    Calls Try.prog 45 #[v, .func (Fn.func 24) #[] #[.pointer (some ⟨gk, 0, none⟩), .pointer (some ⟨gt, 0, none⟩)]] w (FoundB (!L.all (fitB k t)) w) := by
  have HL0 := Lib.hid hL
  have KK := Lib.hid hk
  have KT := Lib.hid ht
  clear hk ht
  obtain ⟨a, c, rfl⟩ := hL.shape
  clear hL
  go_enter Try.func45, Try.ntmps45
  go_wp2_with fail
  go_loopw [5, 8] (fun _ x wr => ∃ j : Nat, j ≤ L.length ∧ x = .int .i64 j ∧ Below w.heap.size w wr ∧ ∀ i, i < j → (fitB k t) (rwAt L i) = true) (fun _ x _ => L.length - (intOf x).toNat)
  case atStart => exact ⟨0, by omega, rfl, Below.refl _ _, fun i hi => by omega⟩
  case round =>
    obtain ⟨j, hj, rfl, B, hno⟩ := hrel
    have HN := Lib.hid hno
    clear hno
    by_cases hjl : j < L.length
    · obtain ⟨b, off, c', er, hbl⟩ := HL0.out.addr (by omega)
      simp only [Value.slice.injEq] at er
      obtain ⟨rfl, -, rfl⟩ := er
      obtain ⟨x0, y0, hx0, hy0, hxb, hyb⟩ := (HL0.out.go B).cells j hjl
      obtain ⟨r, hr⟩ : ∃ r, r = rwAt L j := ⟨_, rfl⟩
      rw [← hr] at hxb hyb
      have HRR := Lib.hid hr
      have HXR := Lib.hid (show IsRow wr (.agg #[x0, y0]) r.1 r.2 from ⟨_, _, rfl, hxb, hyb⟩)
      obtain ⟨xa, xc, rfl, _⟩ := hxb
      obtain ⟨ya, yc, rfl, _⟩ := hyb
      have j1 : (j : Int) < (L.length : Int) := by omega
      have j0 : (0 : Int) ≤ (j : Int) := Int.natCast_nonneg _
      clear hr hbl
      go_wp2_with fail
      have KK2 := KK.out.go B
      have KT2 := KT.out.go B
      refine (judge1_any gk gt k t _ r.1 r.2 wr KK2 KT2 HXR.out).mono ?_
      rintro e w2 ⟨rfl, hb2⟩
      replace B := B.trans (hb2.mono B.size)
      clear hb2 hx0 hy0 HXR
      cases hp : (fitB k t) (r.1, r.2) with
      | true =>
        have HP := Lib.hid (show (fitB k t) (rwAt L j) = true by rw [← HRR.out]; exact hp)
        clear hp
        simp only [Bool.not_true]
        go_wp2_with fail
        go_roundw
        case rel => exact ⟨j + 1, by omega, by go_num, B, fun i hi => by
          by_cases h : i = j
          · rw [h]; exact HP.out
          · exact HN.out i (by omega)⟩
        case measure => simp [intOf]; omega
      | false =>
        have HP := Lib.hid (all_false (p := fitB k t) hjl (by rw [← HRR.out]; exact hp))
        clear hp
        simp only [Bool.not_false]
        go_wp2_with fail
        go_ret
        exact ⟨j, rfl, by rw [HP.out]; simp, B⟩
    · have HF := Lib.hid (all_true (p := fitB k t) (L := L) fun i hi => HN.out i (by omega))
      go_wp2_with fail
      go_ret
      exact ⟨-1, rfl, by rw [HF.out]; decide, B⟩

end Go.Proofs.Ytphdadibfeencaa

/-
  What equations say together (layer 9) in the program: 'Judge'.
-/
set_option maxRecDepth 100000
namespace Go.Proofs.Ytphdadibfeencaa
open Go.RowKit

/-- What Judge answers. -/
def VerdictV (w : World) (r c n : Int) (e : Ending) (w' : World) : Prop := e = .returned (.tuple #[.agg #[.int .i64 r, .int .i64 c], .int .i64 n]) ∧ Below w.heap.size w w'
theorem hmf9 (fn : Fn) (first cap : Array Value) (w : World) : (Instr.makeFunc fn first cap).run Try.prog w = .ok (.func fn first cap) w := rfl
set_option maxHeartbeats 1000000 in
theorem judge_no (k t : Int) (v : Value) (L : List Rw) (w : World) (hL : IsRL w v L) (h : ¬ newOk k t) :
    Calls Try.prog 8 #[.int .i64 k, .int .i64 t, v] w (VerdictV w 0 0 2) := by
  obtain ⟨a, c, rfl⟩ := hL.shape
  have HN := Lib.hid (fun (w : World) => enew_no k t w h)
  clear hL h
  go_enter Try.func8, Try.ntmps8
  go_wp2_with fail
  obtain ⟨B, hk1, hk2, hk3, hs⟩ := blocks3 w #[.int .i64 k] 3 #[.int .i64 t] 3 #[.int .i64 0, .int .i64 0] 30
  generalize (((w.alloc (.cells #[.int .i64 k] 3)).alloc (.cells #[.int .i64 t] 3)).alloc (.cells #[.int .i64 0, .int .i64 0] 30)) = W at *
  have K1 := Lib.hid hk1
  have K2 := Lib.hid hk2
  have K3 := Lib.hid hk3
  have HS := Lib.hid hs
  clear hs hk1 hk2 hk3
  have hzW := B.size
  refine (HN.out _).mono ?_
  rintro e w1 ⟨rfl, hb⟩
  replace K1 := Lib.hid (K1.out.go hb)
  replace K2 := Lib.hid (K2.out.go hb)
  replace K3 := Lib.hid (K3.out.go hb)
  replace B := B.trans (hb.mono B.size)
  have hzw1 := B.size
  clear hb
  obtain ⟨k30, k31⟩ := K3.out.two
  have k3l := K3.out.lt
  obtain ⟨k3f0, k3f1⟩ := K3.out.fre2
  go_wp2_with fail
  obtain ⟨e0, e1, hB, _⟩ := store2 K3.out (by omega) B (fun n e => by cases e) (fun n e => by cases e) (.int .i64 0) (.int .i64 0)
  exact bodyPost_ret (v := .tuple #[.agg #[.int .i64 0, .int .i64 0], .int .i64 2]) (by simp [results, Try.results8, go_sem, e0, e1]) rfl ⟨rfl, hB⟩
set_option maxHeartbeats 1000000 in
theorem judge_size (k t : Nat) (v : Value) (L : List Rw) (w : World) (hL : IsRL w v L) (hlen : L.length ≤ 1000000) (h : newOk (k : Int) (t : Int)) (hf : L.all (fitB (k : Int) (t : Int)) = false) :
    Calls Try.prog 8 #[.int .i64 (k : Int), .int .i64 (t : Int), v] w (VerdictV w 0 0 4) := by
  have HL := Lib.hid hL
  obtain ⟨a, c, rfl⟩ := hL.shape
  have HN := Lib.hid (fun (w : World) => enew_yes k t w h)
  have HF := Lib.hid hf
  clear hL h hf
  go_enter Try.func8, Try.ntmps8
  go_wp2_with fail
  obtain ⟨B, hk1, hk2, hk3, hs⟩ := blocks3 w #[.int .i64 (k : Int)] 3 #[.int .i64 (t : Int)] 3 #[.int .i64 0, .int .i64 0] 30
  generalize (((w.alloc (.cells #[.int .i64 (k : Int)] 3)).alloc (.cells #[.int .i64 (t : Int)] 3)).alloc (.cells #[.int .i64 0, .int .i64 0] 30)) = W at *
  have K1 := Lib.hid hk1
  have K2 := Lib.hid hk2
  have K3 := Lib.hid hk3
  have HS := Lib.hid hs
  clear hs hk1 hk2 hk3
  replace HL := Lib.hid (HL.out.go B)
  have hzW := B.size
  refine (HN.out _).mono ?_
  rintro e w1 ⟨gs, rfl, _, hb⟩
  replace K1 := Lib.hid (K1.out.go hb)
  replace K2 := Lib.hid (K2.out.go hb)
  replace K3 := Lib.hid (K3.out.go hb)
  replace HL := Lib.hid (HL.out.go hb)
  replace B := B.trans (hb.mono B.size)
  have hzw1 := B.size
  clear hb
  have hmf := hmf9
  go_wp2_with fail
  refine (hasRow_any _ _ _ _ (idxJudge_any w.heap.size (w.heap.size + 1) (k : Int) (t : Int) _ L _ K1.out K2.out HL.out (by omega))).mono ?_
  rintro e w2 ⟨rfl, hb⟩
  replace K3 := Lib.hid (K3.out.go hb)
  replace B := B.trans (hb.mono B.size)
  have hzw2 := B.size
  clear hb
  rw [HF.out]
  simp only [Bool.not_false]
  obtain ⟨k30, k31⟩ := K3.out.two
  have k3l := K3.out.lt
  obtain ⟨k3f0, k3f1⟩ := K3.out.fre2
  clear hmf
  go_wp2_with fail
  obtain ⟨e0, e1, hB, _⟩ := store2 K3.out (by omega) B (fun n e => by cases e) (fun n e => by cases e) (.int .i64 0) (.int .i64 0)
  exact bodyPost_ret (v := .tuple #[.agg #[.int .i64 0, .int .i64 0], .int .i64 4]) (by simp [results, Try.results8, go_sem, e0, e1]) rfl ⟨rfl, hB⟩
theorem fits_dims {k t : Nat} {L : List Rw} (hD : Ro.Dims k t L) : L.all (fitB (k : Int) (t : Int)) = true := by
  rw [List.all_eq_true]
  intro x hx
  unfold fitB
  rw [(hD x hx).1, (hD x hx).2.1]
  simp
set_option maxHeartbeats 4000000 in
theorem judge_yes (k t : Nat) (v : Value) (L : List Rw) (w : World) (hL : IsRL w v L) (hlen : L.length ≤ 1000000) (h : newOk (k : Int) (t : Int)) (hD : Ro.Dims k t L) :
    Calls Try.prog 8 #[.int .i64 (k : Int), .int .i64 (t : Int), v] w (VerdictV w ((Ro.redOf L).length : Int) (firstC L L.length) 0) := by
  have HL := Lib.hid hL
  have HL0 := Lib.hid hL
  obtain ⟨a, c, rfl⟩ := hL.shape
  have HN := Lib.hid (fun (w : World) => enew_yes k t w h)
  have HD := Lib.hid hD
  have HF := Lib.hid (fits_dims hD)
  have hk2 : k ≤ 4096 := by unfold newOk at h; omega
  have ht2 : t ≤ 65535 := by unfold newOk at h; omega
  clear hL h hD
  go_enter Try.func8, Try.ntmps8
  go_wp2_with fail
  obtain ⟨B, hk1, hk2, hk3, hs⟩ := blocks3 w #[.int .i64 (k : Int)] 3 #[.int .i64 (t : Int)] 3 #[.int .i64 0, .int .i64 0] 30
  generalize (((w.alloc (.cells #[.int .i64 (k : Int)] 3)).alloc (.cells #[.int .i64 (t : Int)] 3)).alloc (.cells #[.int .i64 0, .int .i64 0] 30)) = W at *
  have K1 := Lib.hid hk1
  have K2 := Lib.hid hk2
  have K3 := Lib.hid hk3
  have HS := Lib.hid hs
  clear hs hk1 hk2 hk3
  replace HL := Lib.hid (HL.out.go B)
  have hzW := B.size
  have hz := B.size
  refine (HN.out _).mono ?_
  rintro e w1 ⟨gs, rfl, hE, hb⟩
  replace K1 := Lib.hid (K1.out.go hb)
  replace K2 := Lib.hid (K2.out.go hb)
  replace K3 := Lib.hid (K3.out.go hb)
  replace HL := Lib.hid (HL.out.go hb)
  replace B := B.trans (hb.mono B.size)
  have hzw1 := B.size
  clear hb
  have HE := Lib.hid (hE.mono hz)
  clear hE
  have hmf := hmf9
  go_wp2_with fail
  refine (hasRow_any _ _ _ _ (idxJudge_any w.heap.size (w.heap.size + 1) (k : Int) (t : Int) _ L _ K1.out K2.out HL.out (by omega))).mono ?_
  rintro e w2 ⟨rfl, hb⟩
  replace K3 := Lib.hid (K3.out.go hb)
  replace HE := Lib.hid (HE.out.go hb)
  replace B := B.trans (hb.mono B.size)
  have hzw2 := B.size
  clear hb
  rw [HF.out]
  simp only [Bool.not_true]
  clear hmf HL
  go_wp2_with fail
  have HG := Lib.hid HE.out.2.2
  go_loopw [10, 11, 12, 13, 14, 31] (fun cl _ _ _ _ x wr => ∃ (j : Nat) (ve : Value), j ≤ L.length ∧ x = .int .i64 j ∧ cl = .int .i64 (firstC L j) ∧ Below w.heap.size w wr ∧ IsE wr w.heap.size gs ve k t (Ro.redOf (L.take j)) ∧ Blk wr (w.heap.size + 1 + 1) #[.int .i64 0, .int .i64 0] 30) (fun _ _ _ _ _ x _ => L.length - (intOf x).toNat)
  case atStart => exact ⟨0, _, by omega, rfl, rfl, B, HE.out, K3.out⟩
  case round =>
    clear B HE K1 K2 K3 hz hzw1 hzw2
    obtain ⟨j, ve, hj, rfl, rfl, B, hE, hK⟩ := hrel
    have HE := Lib.hid hE
    have KV := Lib.hid hK
    clear hE hK
    by_cases hjl : j < L.length
    · obtain ⟨b, off, c', er, hbl⟩ := HL0.out.addr (by omega)
      simp only [Value.slice.injEq] at er
      obtain ⟨rfl, -, rfl⟩ := er
      obtain ⟨x0, y0, hx0, hy0, hxb, hyb⟩ := (HL0.out.go B).cells j hjl
      have HX := Lib.hid (HD.out.at hjl)
      have HRT := Lib.hid (Ro.redOf_take L j hjl)
      have HRR := Lib.hid (redOf_red HD.out j hj).1
      have HRL := Lib.hid (Ro.redOf_length L j hj)
      have HFS := Lib.hid (first_succ L j)
      obtain ⟨E, hE⟩ : ∃ E, E = Ro.redOf (L.take j) := ⟨_, rfl⟩
      obtain ⟨r, hr⟩ : ∃ r, r = rwAt L j := ⟨_, rfl⟩
      rw [← hE] at HE HRT HRR HRL HFS
      rw [← hr] at hxb hyb HX HRT HFS
      have HXB := Lib.hid hxb
      have HYB := Lib.hid hyb
      obtain ⟨xa, xc, rfl, _⟩ := hxb
      obtain ⟨ya, yc, rfl, _⟩ := hyb
      have j1 : (j : Int) < (L.length : Int) := by omega
      have j0 : (0 : Int) ≤ (j : Int) := Int.natCast_nonneg _
      have hge := first_ge L j
      obtain ⟨f, hf⟩ : ∃ f, f = firstC L j := ⟨_, rfl⟩
      rw [← hf] at HFS hge ⊢
      clear hr hbl hE hf
      go_wp2_with fail
      obtain ⟨hb, hk, hs⟩ := blocks1 wr #[.slice xa r.1.length xc, .slice ya r.2.length yc] 52
      generalize wr.alloc (.cells #[.slice xa r.1.length xc, .slice ya r.2.length yc] 52) = W5 at *
      have KX := Lib.hid hk
      replace HE := Lib.hid (HE.out.go hb)
      replace KV := Lib.hid (KV.out.go hb)
      replace HXB := Lib.hid (HXB.out.go hb)
      replace HYB := Lib.hid (HYB.out.go hb)
      replace B := B.trans (hb.mono B.size)
      have hzW5 := B.size
      clear hb hk hs
      clear hx0 hy0
      have HBV := Lib.hid B
      refine (eput_any gs w.heap.size k t ve _ E r W5 HE.out ⟨_, _, rfl, HXB.out, HYB.out⟩ HRR.out HX.out (by omega) (by omega) (by have := HRL.out; omega)).mono ?_
      rintro e w9 ⟨ve9, rfl, q1, q2, q3⟩
      replace B := q2.under HBV.out HBV.out.size HG.out HE.out.2.1.from
      replace KV := Lib.hid (HE.out.keeps q2 KV.out (by decide) (by decide))
      replace HE := Lib.hid q1
      rw [← HRT.out] at HE
      clear q1 q2 q3 HBV KX HXB HYB HRT HRR
      obtain ⟨m, hm⟩ : ∃ m, m = putC E r := ⟨_, rfl⟩
      rw [← hm] at HFS ⊢
      clear hm
      by_cases h2 : m = 2
      · by_cases h3 : f < 0
        · have HF2 := Lib.hid (show firstC L (j + 1) = (j : Int) by rw [HFS.out, if_pos ⟨h2, h3⟩])
          clear HFS
          go_wp2_with fail
          go_roundw
          case rel => exact ⟨j + 1, _, by omega, by go_num, by rw [HF2.out], B, HE.out, KV.out⟩
          case measure => simp [intOf]; omega
        · have HF2 := Lib.hid (show firstC L (j + 1) = f by rw [HFS.out, if_neg fun h => h3 h.2])
          clear HFS
          go_wp2_with fail
          go_roundw
          case rel => exact ⟨j + 1, _, by omega, by go_num, by rw [HF2.out], B, HE.out, KV.out⟩
          case measure => simp [intOf]; omega
      · have HF2 := Lib.hid (show firstC L (j + 1) = f by rw [HFS.out, if_neg fun h => h2 h.1])
        have h4 : (m == (2 : Int)) = false := by rw [beq_eq_false_iff_ne]; exact h2
        clear HFS
        go_wp2_with fail
        go_roundw
        case rel => exact ⟨j + 1, _, by omega, by go_num, by rw [HF2.out], B, HE.out, KV.out⟩
        case measure => simp [intOf]; omega
    · obtain rfl : j = L.length := by omega
      rw [List.take_length] at HE
      obtain ⟨f, hf⟩ : ∃ f, f = firstC L L.length := ⟨_, rfl⟩
      rw [← hf]
      have HFF := Lib.hid hf
      clear hf
      go_wp2_with fail
      refine (erank_any gs w.heap.size k t ve (Ro.redOf L) _ HE.out).mono ?_
      rintro e w' ⟨rfl, rfl⟩
      obtain ⟨kv0, kv1⟩ := KV.out.two
      have kvl := KV.out.lt
      obtain ⟨kvf0, kvf1⟩ := KV.out.fre2
      go_wp2_with fail
      obtain ⟨e0, e1, hB, _⟩ := store2 KV.out (by omega) B (fun n e => by cases e) (fun n e => by cases e) (.int .i64 ((Ro.redOf L).length : Int)) (.int .i64 f)
      exact bodyPost_ret (v := .tuple #[.agg #[.int .i64 ((Ro.redOf L).length : Int), .int .i64 f], .int .i64 0]) (by simp [results, Try.results8, go_sem, e0, e1]) rfl ⟨by rw [HFF.out], hB⟩

end Go.Proofs.Ytphdadibfeencaa

/-
  Slices of words of 64 bits in memory: what is said of one that is read, and of a block that a call made itself.
-/
set_option maxRecDepth 100000
namespace Go.Proofs.Ytphdadibfeencaa
open Go.RowKit

theorem u64_eq {a : Int} {b : Nat} (h : a = b) : Value.int .u64 a = U64 b := by rw [h]

/-- The value is a slice that reads as these words. -/
def Words (w : World) (v : Value) (l : List Nat) : Prop :=
  ∃ a cap, v = .slice a l.length cap ∧ l.length ≤ cap ∧ cap ≤ 9223372036854775807 ∧ (∀ x, x ∈ l → x < 18446744073709551616) ∧
    (l ≠ [] → ∃ b off, a = some ⟨b, off, none⟩ ∧ b < w.heap.size ∧ ∀ i, i < l.length → w.cell? ⟨b, off + i, none⟩ = some (U64 (nth l i)))

theorem Words.lt {w : World} {v : Value} {l : List Nat} (h : Words w v l) : ∀ x, x ∈ l → x < 18446744073709551616 := by
  obtain ⟨a, cap, _, _, _, h, _⟩ := h; exact h

theorem Words.below {w w' : World} {v : Value} {l : List Nat} {B : Nat} (h : Words w v l) (hB : w.heap.size ≤ B) (hb : Below B w w') : Words w' v l := by
  obtain ⟨a, cap, rfl, h1, h2, h3, h4⟩ := h
  refine ⟨a, cap, rfl, h1, h2, h3, fun hne => ?_⟩
  obtain ⟨b, off, rfl, hlt, hc⟩ := h4 hne
  exact ⟨b, off, rfl, Nat.lt_of_lt_of_le hlt hb.size, fun i hi => by rw [hb.cell (p := ⟨b, off + i, none⟩) (by show b < B; omega)]; exact hc i hi⟩

theorem nth_ltW {l : List Nat} (h : ∀ x, x ∈ l → x < 18446744073709551616) (i : Nat) : nth l i < 18446744073709551616 := by
  unfold nth
  rw [List.getD_eq_getElem?_getD]
  by_cases hi : i < l.length
  · rw [List.getElem?_eq_getElem hi]; exact h _ (List.getElem_mem hi)
  · rw [List.getElem?_eq_none (by omega)]; show 0 < 18446744073709551616; decide

theorem Words.cell {w : World} {b off n cap : Nat} {l : List Nat} (h : Words w (.slice (some ⟨b, off, none⟩) n cap) l) (k : Nat) (hk : k < l.length) : w.cell? ⟨b, off + k, none⟩ = some (U64 (nth l k)) := by
  obtain ⟨a, cap', e, _, _, _, h4⟩ := h
  obtain ⟨b', off', rfl, _, hc⟩ := h4 (by intro h; rw [h] at hk; simp at hk)
  simp only [Value.slice.injEq, Option.some.injEq, Addr.mk.injEq] at e
  obtain ⟨⟨rfl, rfl, _⟩, _, _⟩ := e
  exact hc k hk

/-- A block of words. -/
def wordsObj (l : List Nat) : Obj := .cells (l.map U64).toArray 57

/-- Block g holds these words, and isn't frozen. -/
def OwnW (w : World) (g : Nat) (l : List Nat) : Prop := w.heap[g]? = some (wordsObj l)


theorem OwnW.lt {w : World} {g : Nat} {l : List Nat} (h : OwnW w g l) : g < w.heap.size := (Array.getElem?_eq_some_iff.1 h).1

theorem OwnW.cell {w : World} {g : Nat} {l : List Nat} (h : OwnW w g l) (k : Nat) (hk : k < l.length) : w.cell? ⟨g, k, none⟩ = some (U64 (nth l k)) := by
  rw [cell_of_row w g k _ _ (0, 0) h, nth_eq l k hk]; simp [hk]

theorem OwnW.free {w : World} {g : Nat} {l : List Nat} (h : OwnW w g l) (k : Nat) : w.frozen? ⟨g, k, none⟩ = false := frozen_of_row w g k _ _ h

theorem OwnW.below {w w' : World} {g B : Nat} {l : List Nat} (h : OwnW w g l) (hB : g < B) (hb : Below B w w') : OwnW w' g l := by
  unfold OwnW; rw [hb.block g hB]; exact h

theorem OwnW.new (w : World) (l : List Nat) : OwnW (w.alloc (wordsObj l)) w.heap.size l := heap_alloc_new w _

theorem OwnW.set {w : World} {g : Nat} {l : List Nat} (h : OwnW w g l) (k x : Nat) : OwnW (w.setCell ⟨g, k, none⟩ (U64 x)) g (l.set k x) := by
  unfold OwnW World.setCell
  have e : w.heap[g]? = some (.cells (l.map U64).toArray 57) := h
  simp [Array.getElem?_modify, e, wordsObj, List.map_set]

theorem OwnW.words {w : World} {g : Nat} {l : List Nat} (h : OwnW w g l) (hl : ∀ x, x ∈ l → x < 18446744073709551616) (hm : l.length ≤ 9223372036854775807) : Words w (whole g l.length) l :=
  ⟨_, l.length, rfl, Nat.le_refl _, hm, hl, fun _ => ⟨g, 0, rfl, h.lt, fun i hi => by rw [Nat.zero_add]; exact h.cell i hi⟩⟩

/-- What one row's being written leaves of another slice. -/
theorem Words.grown {w w' : World} {v : Value} {l : List Nat} {row : Option Nat} (h : Words w v l) (hg : w.grownBy w' row) (hne : v.ownBlock = none ∨ v.ownBlock ≠ row) : Words w' v l := by
  obtain ⟨a, cap, rfl, h1, h2, h3, h4⟩ := h
  refine ⟨a, cap, rfl, h1, h2, h3, fun hn => ?_⟩
  obtain ⟨b, off, rfl, hlt, hc⟩ := h4 hn
  have hb : some b ≠ row := by simpa [Value.ownBlock] using hne
  exact ⟨b, off, rfl, Nat.lt_of_lt_of_le hlt hg.size, fun i hi => hg.cell (hc i hi) hb⟩

theorem madeZerosW (n : Nat) : madeCells #[Value.int .u64 0] n = ((List.replicate n 0).map U64).toArray := by
  apply Array.ext
  · simp [size_madeCells]
  · intro i h1 h2
    simp [madeCells, Nat.mod_one]

/-- 'make([]byte, n)': noughts, in a new block. -/
theorem make_words (n : Nat) (hn : n ≤ 35184372088832) (w : World) :
    (Instr.makeSlice 34 (.int .i64 (n : Int)) (.int .i64 (n : Int))).run Try.prog w = .ok (whole w.heap.size n) (w.alloc (wordsObj (List.replicate n 0))) := by
  have hi : (Try.prog.info? 57).map (fun i => (i.zero, i.size, i.bytes)) = some (some (.int .u64 0), 1, 8) := by kernel_rfl
  obtain ⟨i0, hi, hz0, hz1, hz2⟩ := info_parts hi
  have h := run_make (P := Try.prog) w 34 57 i0 (.int .u64 0) Try.underlying34 hi hz0 .i64 .i64 n n (by omega) (by omega) (by rw [hz2]; omega) (by omega)
  rw [h, hz1]
  simp only [Int.toNat_natCast, Nat.mul_one]
  show _ = Result.ok (whole w.heap.size n) (w.alloc (.cells _ _))
  rw [← madeZerosW]
  rfl

end Go.Proofs.Ytphdadibfeencaa
