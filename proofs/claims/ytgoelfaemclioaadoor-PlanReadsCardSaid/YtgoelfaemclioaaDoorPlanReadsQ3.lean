/- Texts of one seat, laid together: MonoB, MonoC, MonoP, RefPlanP. -/
import Derived.Test.YtgoelfaemclioaaDoorPlanReadsQ2
import Derived.Test.YtgoelfaemclioaaDoorPlanReadsQ1

/-
  What is said of operations in a region that draws its order: slices of bytes, rows, boxes.
-/
set_option maxRecDepth 100000
namespace Go.Proofs.YtgoelfaemclioaaDoor
open Go.RowKit

/-- The worlds behind W in which of what was there nothing has turned. -/
abbrev Cb (W : World) : World → Prop := fun w => Below W.heap.size W w
/-- A step that turns nothing of what is there. -/
abbrev Rb : World → World → Prop := fun w w' => Below w.heap.size w w'
/-- No bytes are among them. -/
def NoU8 (vs : Array Value) : Prop := ∀ (i n : Nat), vs[i]? ≠ some (U8 n)
/-- A step that writes a box which was made behind W, and holds no bytes. -/
def Hb (W : World) (w w' : World) : Prop := ∃ g vs vs' T, W.heap.size ≤ g ∧ Blk w g vs T ∧ NoU8 vs ∧ w.grownBy w' (some g) ∧ Blk w' g vs' T ∧ vs'.size = vs.size ∧ NoU8 vs'

theorem hC_b (W : World) : ∀ w w', Cb W w → Rb w w' → Cb W w' := fun _ _ h h' => h.trans (h'.mono h.size)
theorem hCH_b (W : World) : ∀ (_ : Nat) w w', Cb W w → Hb W w w' → Cb W w' := fun _ _ _ h ⟨_, _, _, _, hg, _, _, hw, _⟩ => below_grown h hw h.size hg
theorem drew_b (W : World) : Cb W W.drew := (Below.refl _ _).drew

variable {W : World}

abbrev TyB (W : World) := Ty (Cb W) Rb (fun _ => Hb W)

/-- A box made anew. -/
def IsBox (W w : World) (v : Value) (n : Nat) (T : TypeId) : Prop := ∃ g vs, v = .pointer (some ⟨g, 0, none⟩) ∧ W.heap.size ≤ g ∧ Blk w g vs T ∧ vs.size = n ∧ NoU8 vs
theorem IsBox.go {w w' : World} {v : Value} {n : Nat} {T : TypeId} (h : IsBox W w v n T) (hb : Below w.heap.size w w') : IsBox W w' v n T := by
  obtain ⟨g, vs, e, hg, hk, hs, hn⟩ := h
  exact ⟨g, vs, e, hg, hk.go hb, hs, hn⟩
theorem IsBox.hard {w w' : World} {v : Value} {n : Nat} {T : TypeId} (h : IsBox W w v n T) (hh : Hb W w w') : IsBox W w' v n T := by
  obtain ⟨g, vs, e, hg, hk, hs, hn⟩ := h
  obtain ⟨g', us, us', T', hg', hb, hn', hw, hb', hs', hn''⟩ := hh
  by_cases hgg : g = g'
  · subst hgg
    have hk' : w.heap[g]? = some (.cells vs T) := hk
    have hb0 : w.heap[g]? = some (.cells us T') := hb
    rw [hk'] at hb0
    simp only [Option.some.injEq, Obj.cells.injEq, and_true] at hb0
    obtain ⟨rfl, rfl⟩ := hb0
    exact ⟨g, us', e, hg, hb', by rw [hs', hs], hn''⟩
  · exact ⟨g, vs, e, hg, hk.grown hw (by simpa using hgg), hs, hn⟩
def Ty.box (t : Tmp) (n : Nat) (T : TypeId) : TyB W := Ty.one t (fun v w => IsBox W w v n T) (fun _ _ _ _ hR h => h.go hR) (fun _ _ _ _ _ hH h => h.hard hH)

end Go.Proofs.YtgoelfaemclioaaDoor

/-
  What the plain operations of a region answer: comparisons, loads, lengths.
-/
set_option maxRecDepth 100000
namespace Go.Proofs.YtgoelfaemclioaaDoor
open Go.RowKit

theorem load_int {w : World} {g k : Nat} {v : Value} (h : w.cell? ⟨g, k, none⟩ = some v) : (Instr.loadAt 3 (.pointer (some ⟨g, k, none⟩))).run Tryd.prog w = .ok v w := by
  go_simp

section
variable {P : Program} {C : World → Prop} {R : World → World → Prop} {H : Nat → World → World → Prop} {a : Act} {w : World} {o : Oper} {Q : Exit → Act → World → Prop}
/-- A field's address. -/
theorem ob_field {T : Ty C R H} {t : Tmp} {x : Operand} {E i : Nat} {p : Value} (v : Value) (hS : T.S = [t]) (hh : T.kind = none) (hd : o.dst = some t) (hlt : t < a.tmps.size) (hop : o.op = .fieldAddr E x i) (hx : a.eval x = p)
    (hrun : ∀ w, (Instr.fieldAt E p i).run P w = .ok v w) (hR : R w w) (hF : T.F [v] w) : Done P T Q o a w := by
  refine ob_value v w hS hh hd hlt ?_ hR hF
  simp [execOp, hop, hx, hrun]
/-- An element's address. -/
theorem ob_index {T : Ty C R H} {t : Tmp} {x y : Operand} {E : TypeId} {p q : Value} (v : Value) (hS : T.S = [t]) (hh : T.kind = none) (hd : o.dst = some t) (hlt : t < a.tmps.size) (hop : o.op = .indexAddr E x y) (hx : a.eval x = p) (hy : a.eval y = q)
    (hrun : (Instr.indexAt E p q).run P w = .ok v w) (hR : R w w) (hF : T.F [v] w) : Done P T Q o a w := by
  refine ob_value v w hS hh hd hlt ?_ hR hF
  simp [execOp, hop, hx, hy, hrun]
end

end Go.Proofs.YtgoelfaemclioaaDoor

/-
  A region in any order: a plan of four numbers into a box that was made there.
-/
set_option maxRecDepth 100000
namespace Go.Proofs.YtgoelfaemclioaaDoor
open Go.RowKit

section
variable {P : Program} {C : World → Prop} {R : World → World → Prop} {H : Nat → World → World → Prop} {a : Act} {w : World} {o : Oper} {Q : Exit → Act → World → Prop}
/-- A struct of four. -/
theorem ob_four {T : Ty C R H} {t : Tmp} {x y z u : Operand} {E : TypeId} {p q r s : Value} (v : Value) (hS : T.S = [t]) (hh : T.kind = none) (hd : o.dst = some t) (hlt : t < a.tmps.size) (hop : o.op = .build E #[(0, x), (1, y), (2, z), (3, u)]) (hx : a.eval x = p) (hy : a.eval y = q) (hz : a.eval z = r) (hu : a.eval u = s)
    (hrun : (Instr.build E #[(0, p), (1, q), (2, r), (3, s)]).run P w = .ok v w) (hR : R w w) (hF : T.F [v] w) : Done P T Q o a w := by
  refine ob_value v w hS hh hd hlt ?_ hR hF
  simp [execOp, hop, hx, hy, hz, hu, hrun]
theorem ob_convert {T : Ty C R H} {t : Tmp} {x : Operand} {A B : TypeId} {p : Value} (v : Value) (hS : T.S = [t]) (hh : T.kind = none) (hd : o.dst = some t) (hlt : t < a.tmps.size) (hop : o.op = .convert A B x) (hx : a.eval x = p)
    (hrun : (convert A B p).run P w = .ok v w) (hR : R w w) (hF : T.F [v] w) : Done P T Q o a w := by
  refine ob_value v w hS hh hd hlt ?_ hR hF
  simp [execOp, hop, hx, hrun]
end
theorem noU8_plan (a b c d : Int) : NoU8 #[.int .i64 a, .int .i64 b, .int .i64 c, .int .u32 d] := fun j k => by
  match j with
  | 0 => simp
  | 1 => simp
  | 2 => simp
  | 3 => simp
  | j + 4 => intro e; simp at e
section
variable {W : World}
/-- A box made in the region holds the plan at last. -/
def PlanIn (W w : World) (v : Value) (l s k d : Int) : Prop := ∃ g, v = .pointer (some ⟨g, 0, none⟩) ∧ W.heap.size ≤ g ∧ Blk w g #[.int .i64 l, .int .i64 s, .int .i64 k, .int .u32 d] 26
theorem PlanIn.go {w w' : World} {v : Value} {l s k d : Int} (h : PlanIn W w v l s k d) (hb : Below w.heap.size w w') : PlanIn W w' v l s k d := by
  obtain ⟨g, e, hg, hk⟩ := h; exact ⟨g, e, hg, hk.go hb⟩
def Ty.planIn (t : Tmp) (l s k d : Int) : TyB W := Ty.writes t (fun v w => PlanIn W w v l s k d) (fun _ _ _ _ hR h => h.go hR)
end
set_option maxHeartbeats 400000 in
theorem ob_store_plan {W : World} {a : Act} {w : World} {o : Oper} {Q : Exit → Act → World → Prop} {t s : Tmp} {l z k d : Int} (hd : o.dst = none) (hop : o.op = .store 26 (.tmp t) (.tmp s)) (hA : IsBox W w (a.eval (.tmp t)) 4 26) (eV : a.eval (.tmp s) = .agg #[.int .i64 l, .int .i64 z, .int .i64 k, .int .u32 d]) :
    Done Tryd.prog (Ty.planIn (W := W) t l z k d) Q o a w := by
  obtain ⟨g, vs, eA, hg, hk, hs, hn⟩ := hA
  obtain ⟨x, y, z', u, rfl⟩ : ∃ x y z u, vs = #[x, y, z, u] := by
    obtain ⟨l⟩ := vs
    match l, hs with
    | [x, y, z, u], _ => exact ⟨x, y, z, u, rfl⟩
  have k0 := hk.cell 0
  have k1 := hk.cell 1
  have k2 := hk.cell 2
  have k3 := hk.cell 3
  have f0 := hk.free 0
  have f1 := hk.free 1
  have f2 := hk.free 2
  have f3 := hk.free 3
  have hst : Blk ((((w.setCell ⟨g, 0, none⟩ (.int .i64 l)).setCell ⟨g, 1, none⟩ (.int .i64 z)).setCell ⟨g, 2, none⟩ (.int .i64 k)).setCell ⟨g, 3, none⟩ (.int .u32 d)) g #[.int .i64 l, .int .i64 z, .int .i64 k, .int .u32 d] 26 := (((hk.set 0 (.int .i64 l)).set 1 (.int .i64 z)).set 2 (.int .i64 k)).set 3 (.int .u32 d)
  have hgr : w.grownBy ((((w.setCell ⟨g, 0, none⟩ (.int .i64 l)).setCell ⟨g, 1, none⟩ (.int .i64 z)).setCell ⟨g, 2, none⟩ (.int .i64 k)).setCell ⟨g, 3, none⟩ (.int .u32 d)) (some g) := grown_trans (grown_trans (grown_trans (grown_setCell w ⟨g, 0, none⟩ _) (grown_setCell _ ⟨g, 1, none⟩ _)) (grown_setCell _ ⟨g, 2, none⟩ _)) (grown_setCell _ ⟨g, 3, none⟩ _)
  have hn2 : NoU8 #[.int .i64 l, .int .i64 z, .int .i64 k, .int .u32 d] := noU8_plan _ _ _ _
  have hh : Hb W w ((((w.setCell ⟨g, 0, none⟩ (.int .i64 l)).setCell ⟨g, 1, none⟩ (.int .i64 z)).setCell ⟨g, 2, none⟩ (.int .i64 k)).setCell ⟨g, 3, none⟩ (.int .u32 d)) := ⟨g, _, _, _, hg, hk, hn, hgr, hst, rfl, hn2⟩
  refine ob_store ((((w.setCell ⟨g, 0, none⟩ (.int .i64 l)).setCell ⟨g, 1, none⟩ (.int .i64 z)).setCell ⟨g, 2, none⟩ (.int .i64 k)).setCell ⟨g, 3, none⟩ (.int .u32 d)) rfl rfl hd ?_ hh ?_
  · have HH := Lib.hid hh
    clear hh hgr hst hn hn2 hk hs hg
    simp only [execOp, hop, eA, eV]
    go_simp
  · exact ⟨g, eA, hg, hst⟩

end Go.Proofs.YtgoelfaemclioaaDoor

/-
  The document's answer for a plan's text (wellspringref10), in the program: 'Parse'.
-/
set_option maxRecDepth 100000
namespace Go.Proofs.YtgoelfaemclioaaDoor
open Go.RowKit

def objL : List Nat := [111, 98, 106, 101, 99, 116]
/-- What the next words tell, behind what was told already, and whether there is more. -/
def plK : Nat → Int → List Nat → Bool → List Int → Option (List Int × Bool)
  | 0, _, _, m, acc => some (acc, m)
  | k + 1, b, r, m, acc => if m = true then (if numB (wordW r) b = true then plK k 2147483648 (wordR r) (wordM r) (acc ++ [(numN (wordW r) : Int)]) else none) else none
def plOf (o : Option (List Int × Bool)) : Option (List Int) := match o with | some (acc, false) => some acc | _ => none
/-- The four numbers of a plan's text. -/
def plRead (t : List Nat) : Option (List Int) := if wordW t = objL then plOf (plK 4 4294967296 (wordR t) (wordM t) []) else none
def plE (o : Option (List Int)) : Int := match o with | none => 14 | some a => checkE (a.getD 1 0) (a.getD 2 0) (a.getD 3 0)
def plV (o : Option (List Int)) : Value := if plE o = 0 then (match o with | none => .bool false | some a => .agg #[.int .i64 (a.getD 1 0), .int .i64 (a.getD 2 0), .int .i64 (a.getD 3 0), .int .u32 (a.getD 0 0)]) else .agg #[.int .i64 0, .int .i64 0, .int .i64 0, .int .u32 0]
def PlanRd (w : World) (o : Option (List Int)) (e : Ending) (w' : World) : Prop := e = .returned (.tuple #[plV o, .int .i64 (plE o)]) ∧ Below w.heap.size w w'
theorem planRd_bad {w w' : World} {o : Option (List Int)} (h : o = none) (hb : Below w.heap.size w w') : PlanRd w o (.returned (.tuple #[.agg #[.int .i64 0, .int .i64 0, .int .i64 0, .int .u32 0], .int .i64 14])) w' := by
  subst h; exact ⟨rfl, hb⟩
theorem numB_lt {t : List Nat} {b : Int} (h : numB t b = true) : (numN t : Int) < b := by
  obtain ⟨h1, h2⟩ := of_decide_eq_true h
  unfold numN; rw [if_pos h1]; exact h2

set_option maxHeartbeats 4000000 in
theorem refparse10_any (t : List Nat) (w : World) (ht : ∀ x, x ∈ t → x < 256) (hm0 : t.length ≤ 9223372036854775807) :
    Calls Tryd.prog 16 #[.string (strOf t)] w (PlanRd w (plRead t)) := by
  have HTL := Lib.hid ht
  have HW := Lib.hid (show ((strOf (wordW t)).toList == [111, 98, 106, 101, 99, 116]) = decide (wordW t = objL) from by
    have h := strOf_dec (y := objL) (wordW_lt ht) (by decide)
    rwa [show (strOf objL).toList = [111, 98, 106, 101, 99, 116] by decide +kernel] at h)
  have HRL := Lib.hid (wordR_lt ht)
  have HRN : (wordR t).length ≤ t.length := by have := word_len t; omega
  obtain ⟨P, hP⟩ : ∃ P, P = plRead t := ⟨_, rfl⟩
  rw [← hP]
  have HP := Lib.hid hP
  clear hP
  go_enter Tryd.func16, Tryd.ntmps16
  go_wp2_with fail
  obtain ⟨B, hk1, hs⟩ := blocks1 w #[.int .i64 0, .int .i64 0, .int .i64 0, .int .u32 0] 26
  generalize (w.alloc (.cells #[.int .i64 0, .int .i64 0, .int .i64 0, .int .u32 0] 26)) = W at *
  have K1 := Lib.hid hk1
  have HS := Lib.hid hs
  clear hs hk1
  have hzW := B.size
  refine (refword_any t _ HTL.out hm0).mono ?_
  rintro e w1 ⟨rfl, hb⟩
  replace K1 := Lib.hid (K1.out.go hb)
  replace B := B.trans (hb.mono B.size)
  have hzw1 := B.size
  clear hb
  by_cases hw : wordW t = objL
  · have hb1 : ((strOf (wordW t)).toList == [111, 98, 106, 101, 99, 116]) = true := by rw [HW.out]; simp [hw]
    have HP2 := Lib.hid (show P = plOf (plK 4 4294967296 (wordR t) (wordM t) []) by rw [HP.out]; exact if_pos hw)
    clear HP HW hw ht
    generalize strOf (wordW t) = S at *
    generalize hR0 : wordR t = R0 at *
    generalize hM0 : wordM t = M0 at *
    clear hR0 hM0
    go_wp2_with fail
    go_loopw [4, 6, 7, 8] (fun n r m i wr => ∃ (j : Nat) (R : List Nat) (M : Bool) (acc : List Int), j ≤ 4 ∧ Hid (acc.length = j) ∧ i = .int .i64 j ∧ r = .string (strOf R) ∧ m = .bool M ∧ OwnI wr (w.heap.size + 1) n acc ∧ Below w.heap.size w wr ∧ Blk wr w.heap.size #[.int .i64 0, .int .i64 0, .int .i64 0, .int .u32 0] 26 ∧ Hid (P = plOf (plK (4 - j) (if j = 0 then 4294967296 else 2147483648) R M acc)) ∧ Hid (∀ x, x ∈ R → x < 256) ∧ Hid (R.length ≤ t.length) ∧ Hid (∀ x, x ∈ acc → 0 ≤ x ∧ x < 4294967296)) (fun _ _ _ i _ => 4 - (intOf i).toNat)
    case atStart => exact ⟨0, R0, M0, [], by omega, Lib.hid rfl, rfl, rfl, rfl, OwnI.nil _ _, B, K1.out, HP2, HRL, Lib.hid HRN, Lib.hid (fun x hx => by simp at hx)⟩
    case round =>
      clear B K1 HS hzW hzw1
      obtain ⟨j, R, M, acc, hj, HAL, rfl, rfl, rfl, hO, B, hK, HPR, HRT, HRN2, HAB⟩ := hrel
      have K1 := Lib.hid hK
      have HO := Lib.hid hO
      obtain ⟨oa, oc, rfl⟩ := hO.shape
      clear hK hO
      by_cases hlt : j < 4
      · cases M with
        | false =>
          have HE := Lib.hid (show P = none by rw [HPR.out, show 4 - j = (3 - j) + 1 by omega]; simp [plK, plOf])
          have z0 := K1.out.cell 0
          have z1 := K1.out.cell 1
          have z2 := K1.out.cell 2
          have z3 := K1.out.cell 3
          have zl := K1.out.lt
          have zf0 := K1.out.free 0
          have zf1 := K1.out.free 1
          have zf2 := K1.out.free 2
          have zf3 := K1.out.free 3
          go_wp2_with fail
          have hst := (((K1.out.set 0 (.int .i64 0)).set 1 (.int .i64 0)).set 2 (.int .i64 0)).set 3 (.int .u32 0)
          have BZ := (((B.setCell (p := ⟨w.heap.size, 0, none⟩) (Nat.le_refl _) (.int .i64 0)).setCell (p := ⟨w.heap.size, 1, none⟩) (Nat.le_refl _) (.int .i64 0)).setCell (p := ⟨w.heap.size, 2, none⟩) (Nat.le_refl _) (.int .i64 0)).setCell (p := ⟨w.heap.size, 3, none⟩) (Nat.le_refl _) (.int .u32 0)
          have e0 := hst.cell 0
          have e1 := hst.cell 1
          have e2 := hst.cell 2
          have e3 := hst.cell 3
          have hB := planRd_bad HE.out BZ
          clear hst BZ z0 z1 z2 z3 zl zf0 zf1 zf2 zf3
          refine bodyPost_ret (v := .tuple #[.agg #[.int .i64 0, .int .i64 0, .int .i64 0, .int .u32 0], .int .i64 14]) ?_ rfl hB
          simp [results, Tryd.results16, go_sem, e0, e1, e2, e3]
        | true =>
          by_cases hj0 : j = 0
          · have hbj : ((j : Int) == 0) = true := by rw [hj0]; rfl
            have HBD := Lib.hid (show (if j = 0 then (4294967296 : Int) else 2147483648) = 4294967296 from if_pos hj0)
            clear hj0
            rw [HBD.out] at HPR
            have HPR2 := Lib.hid (show P = plOf (if numB (wordW R) 4294967296 = true then plK (3 - j) 2147483648 (wordR R) (wordM R) (acc ++ [(numN (wordW R) : Int)]) else none) by rw [HPR.out, show 4 - j = (3 - j) + 1 by omega]; simp [plK])
            have HNB := Lib.hid (show numB (wordW R) 4294967296 = true → (numN (wordW R) : Int) < 4294967296 from fun h => by have := numB_lt h; omega)
            have HWL := Lib.hid (wordW_lt HRT.out)
            have HR2T := Lib.hid (wordR_lt HRT.out)
            have hwl := word_len R
            have HR2N := Lib.hid (show (wordR R).length ≤ t.length by have := HRN2.out; omega)
            have HWN := Lib.hid (show (wordW R).length ≤ 9223372036854775807 by have := HRN2.out; omega)
            clear hwl HPR HBD
            go_wp2_with fail
            refine (refword_any R _ HRT.out (by have := HRN2.out; omega)).mono ?_
            rintro e w2 ⟨rfl, hb⟩
            replace K1 := Lib.hid (K1.out.go hb)
            replace HO := Lib.hid (HO.out.go hb)
            replace B := B.trans (hb.mono B.size)
            have hzw2 := B.size
            clear hb
            go_wp2_with fail
            refine (refnum_any (wordW R) 4294967296 _ HWL.out HWN.out).mono ?_
            rintro e w3 ⟨rfl, hb⟩
            replace K1 := Lib.hid (K1.out.go hb)
            replace HO := Lib.hid (HO.out.go hb)
            replace B := B.trans (hb.mono B.size)
            have hzw3 := B.size
            clear hb
            generalize numB (wordW R) 4294967296 = ok at *
            generalize numN (wordW R) = nv at *
            clear HWL HWN
            generalize wordR R = R2 at *
            generalize wordM R = M2 at *
            generalize strOf (wordW R) = SW at *
            cases ok with
            | false =>
              have HE := Lib.hid (show P = none by rw [HPR2.out]; rfl)
              have z0 := K1.out.cell 0
              have z1 := K1.out.cell 1
              have z2 := K1.out.cell 2
              have z3 := K1.out.cell 3
              have zl := K1.out.lt
              have zf0 := K1.out.free 0
              have zf1 := K1.out.free 1
              have zf2 := K1.out.free 2
              have zf3 := K1.out.free 3
              go_wp2_with fail
              have hst := (((K1.out.set 0 (.int .i64 0)).set 1 (.int .i64 0)).set 2 (.int .i64 0)).set 3 (.int .u32 0)
              have BZ := (((B.setCell (p := ⟨w.heap.size, 0, none⟩) (Nat.le_refl _) (.int .i64 0)).setCell (p := ⟨w.heap.size, 1, none⟩) (Nat.le_refl _) (.int .i64 0)).setCell (p := ⟨w.heap.size, 2, none⟩) (Nat.le_refl _) (.int .i64 0)).setCell (p := ⟨w.heap.size, 3, none⟩) (Nat.le_refl _) (.int .u32 0)
              have e0 := hst.cell 0
              have e1 := hst.cell 1
              have e2 := hst.cell 2
              have e3 := hst.cell 3
              have hB := planRd_bad HE.out BZ
              clear hst BZ z0 z1 z2 z3 zl zf0 zf1 zf2 zf3
              refine bodyPost_ret (v := .tuple #[.agg #[.int .i64 0, .int .i64 0, .int .i64 0, .int .u32 0], .int .i64 14]) ?_ rfl hB
              simp [results, Tryd.results16, go_sem, e0, e1, e2, e3]
            | true =>
              have HNV := Lib.hid (HNB.out rfl)
              have kl := K1.out.lt
              have hj3 := hlt
              go_wp2_with (at_builtin; refine wpList_append_int rfl (.tmp 47) (.tmp 49) rfl (w.heap.size + 1) _ _ _ acc rfl rfl rfl HO.out kl ?c1 ?_)
              case c1 => have := HAL.out; omega
              intro v5 w5 ho5 hg5 hs5
              have hb5 : Below w3.heap.size w3 (w3.alloc (.cells #[.int .i64 (nv : Int)] 3)) := (Below.refl _ _).alloc (Nat.le_refl _) _
              have HO5 := Lib.hid ho5
              have HK5 := Lib.hid ((K1.out.go hb5).grown hg5 (fun e => by have := HO.out.from _ e.symm; omega))
              have HB5 := Lib.hid ((B.alloc B.size _).grown hg5 (by simp; omega) (fun b e => by have := HO.out.from b e; omega))
              clear ho5 hg5 hs5 hb5 kl
              go_wp2_with fail
              go_roundw
              case rel =>
                refine ⟨j + 1, R2, M2, acc ++ [(nv : Int)], by omega, Lib.hid (by rw [List.length_append, HAL.out]; rfl), by go_num, rfl, rfl, HO5.out, HB5.out, HK5.out, Lib.hid ?_, HR2T, HR2N, Lib.hid ?_⟩
                · rw [HPR2.out, show 4 - (j + 1) = 3 - j by omega, if_neg (show ¬ j + 1 = 0 by omega)]; rfl
                · intro x hx
                  rcases List.mem_append.1 hx with hx | hx
                  · exact HAB.out x hx
                  · rw [List.mem_singleton] at hx; subst hx; have := HNV.out; omega
              case measure => simp [intOf]; omega
          · have hbj : ((j : Int) == 0) = false := by rw [beq_eq_false_iff_ne]; omega
            have HBD := Lib.hid (show (if j = 0 then (4294967296 : Int) else 2147483648) = 2147483648 from if_neg hj0)
            clear hj0
            rw [HBD.out] at HPR
            have HPR2 := Lib.hid (show P = plOf (if numB (wordW R) 2147483648 = true then plK (3 - j) 2147483648 (wordR R) (wordM R) (acc ++ [(numN (wordW R) : Int)]) else none) by rw [HPR.out, show 4 - j = (3 - j) + 1 by omega]; simp [plK])
            have HNB := Lib.hid (show numB (wordW R) 2147483648 = true → (numN (wordW R) : Int) < 4294967296 from fun h => by have := numB_lt h; omega)
            have HWL := Lib.hid (wordW_lt HRT.out)
            have HR2T := Lib.hid (wordR_lt HRT.out)
            have hwl := word_len R
            have HR2N := Lib.hid (show (wordR R).length ≤ t.length by have := HRN2.out; omega)
            have HWN := Lib.hid (show (wordW R).length ≤ 9223372036854775807 by have := HRN2.out; omega)
            clear hwl HPR HBD
            go_wp2_with fail
            refine (refword_any R _ HRT.out (by have := HRN2.out; omega)).mono ?_
            rintro e w2 ⟨rfl, hb⟩
            replace K1 := Lib.hid (K1.out.go hb)
            replace HO := Lib.hid (HO.out.go hb)
            replace B := B.trans (hb.mono B.size)
            have hzw2 := B.size
            clear hb
            go_wp2_with fail
            refine (refnum_any (wordW R) 2147483648 _ HWL.out HWN.out).mono ?_
            rintro e w3 ⟨rfl, hb⟩
            replace K1 := Lib.hid (K1.out.go hb)
            replace HO := Lib.hid (HO.out.go hb)
            replace B := B.trans (hb.mono B.size)
            have hzw3 := B.size
            clear hb
            generalize numB (wordW R) 2147483648 = ok at *
            generalize numN (wordW R) = nv at *
            clear HWL HWN
            generalize wordR R = R2 at *
            generalize wordM R = M2 at *
            generalize strOf (wordW R) = SW at *
            cases ok with
            | false =>
              have HE := Lib.hid (show P = none by rw [HPR2.out]; rfl)
              have z0 := K1.out.cell 0
              have z1 := K1.out.cell 1
              have z2 := K1.out.cell 2
              have z3 := K1.out.cell 3
              have zl := K1.out.lt
              have zf0 := K1.out.free 0
              have zf1 := K1.out.free 1
              have zf2 := K1.out.free 2
              have zf3 := K1.out.free 3
              go_wp2_with fail
              have hst := (((K1.out.set 0 (.int .i64 0)).set 1 (.int .i64 0)).set 2 (.int .i64 0)).set 3 (.int .u32 0)
              have BZ := (((B.setCell (p := ⟨w.heap.size, 0, none⟩) (Nat.le_refl _) (.int .i64 0)).setCell (p := ⟨w.heap.size, 1, none⟩) (Nat.le_refl _) (.int .i64 0)).setCell (p := ⟨w.heap.size, 2, none⟩) (Nat.le_refl _) (.int .i64 0)).setCell (p := ⟨w.heap.size, 3, none⟩) (Nat.le_refl _) (.int .u32 0)
              have e0 := hst.cell 0
              have e1 := hst.cell 1
              have e2 := hst.cell 2
              have e3 := hst.cell 3
              have hB := planRd_bad HE.out BZ
              clear hst BZ z0 z1 z2 z3 zl zf0 zf1 zf2 zf3
              refine bodyPost_ret (v := .tuple #[.agg #[.int .i64 0, .int .i64 0, .int .i64 0, .int .u32 0], .int .i64 14]) ?_ rfl hB
              simp [results, Tryd.results16, go_sem, e0, e1, e2, e3]
            | true =>
              have HNV := Lib.hid (HNB.out rfl)
              have kl := K1.out.lt
              have hj3 := hlt
              go_wp2_with (at_builtin; refine wpList_append_int rfl (.tmp 47) (.tmp 49) rfl (w.heap.size + 1) _ _ _ acc rfl rfl rfl HO.out kl ?c1 ?_)
              case c1 => have := HAL.out; omega
              intro v5 w5 ho5 hg5 hs5
              have hb5 : Below w3.heap.size w3 (w3.alloc (.cells #[.int .i64 (nv : Int)] 3)) := (Below.refl _ _).alloc (Nat.le_refl _) _
              have HO5 := Lib.hid ho5
              have HK5 := Lib.hid ((K1.out.go hb5).grown hg5 (fun e => by have := HO.out.from _ e.symm; omega))
              have HB5 := Lib.hid ((B.alloc B.size _).grown hg5 (by simp; omega) (fun b e => by have := HO.out.from b e; omega))
              clear ho5 hg5 hs5 hb5 kl
              go_wp2_with fail
              go_roundw
              case rel =>
                refine ⟨j + 1, R2, M2, acc ++ [(nv : Int)], by omega, Lib.hid (by rw [List.length_append, HAL.out]; rfl), by go_num, rfl, rfl, HO5.out, HB5.out, HK5.out, Lib.hid ?_, HR2T, HR2N, Lib.hid ?_⟩
                · rw [HPR2.out, show 4 - (j + 1) = 3 - j by omega, if_neg (show ¬ j + 1 = 0 by omega)]; rfl
                · intro x hx
                  rcases List.mem_append.1 hx with hx | hx
                  · exact HAB.out x hx
                  · rw [List.mem_singleton] at hx; subst hx; have := HNV.out; omega
              case measure => simp [intOf]; omega
      · obtain rfl : j = 4 := by omega
        cases M with
        | true =>
          have HE := Lib.hid (show P = none by rw [HPR.out]; rfl)
          have z0 := K1.out.cell 0
          have z1 := K1.out.cell 1
          have z2 := K1.out.cell 2
          have z3 := K1.out.cell 3
          have zl := K1.out.lt
          have zf0 := K1.out.free 0
          have zf1 := K1.out.free 1
          have zf2 := K1.out.free 2
          have zf3 := K1.out.free 3
          go_wp2_with fail
          have hst := (((K1.out.set 0 (.int .i64 0)).set 1 (.int .i64 0)).set 2 (.int .i64 0)).set 3 (.int .u32 0)
          have BZ := (((B.setCell (p := ⟨w.heap.size, 0, none⟩) (Nat.le_refl _) (.int .i64 0)).setCell (p := ⟨w.heap.size, 1, none⟩) (Nat.le_refl _) (.int .i64 0)).setCell (p := ⟨w.heap.size, 2, none⟩) (Nat.le_refl _) (.int .i64 0)).setCell (p := ⟨w.heap.size, 3, none⟩) (Nat.le_refl _) (.int .u32 0)
          have e0 := hst.cell 0
          have e1 := hst.cell 1
          have e2 := hst.cell 2
          have e3 := hst.cell 3
          have hB := planRd_bad HE.out BZ
          clear hst BZ z0 z1 z2 z3 zl zf0 zf1 zf2 zf3
          refine bodyPost_ret (v := .tuple #[.agg #[.int .i64 0, .int .i64 0, .int .i64 0, .int .u32 0], .int .i64 14]) ?_ rfl hB
          simp [results, Tryd.results16, go_sem, e0, e1, e2, e3]
        | false =>
          have HPS := Lib.hid (show P = some acc by rw [HPR.out]; rfl)
          have HO4 := HO.out
          rw [HAL.out] at HO4 ⊢
          obtain ⟨a0, a1, a2, a3, rfl⟩ : ∃ a0 a1 a2 a3, acc = [a0, a1, a2, a3] := by
            have := HAL.out
            match acc, this with
            | [a, b, c, d], _ => exact ⟨a, b, c, d, rfl⟩
          obtain ⟨g, c, e, hgB, hgl, hcell⟩ := HO4.cells (by simp)
          simp only [Value.slice.injEq] at e
          obtain ⟨rfl, -, rfl⟩ := e
          have C0 := Lib.hid (hcell 0 a0 rfl)
          have C1 := Lib.hid (hcell 1 a1 rfl)
          have C2 := Lib.hid (hcell 2 a2 rfl)
          have C3 := Lib.hid (hcell 3 a3 rfl)
          obtain ⟨n0, rfl⟩ := Int.eq_ofNat_of_zero_le (HAB.out a0 (by simp)).1
          have HA0 := Lib.hid (HAB.out (n0 : Int) (by simp))
          have hkz := K1.out.lt
          have hu : IntKind.u32.wrap (n0 : Int) = (n0 : Int) := by have := HA0.out; rw [IntKind.wrap_u32]; omega
          have HA1 := Lib.hid (HAB.out a1 (by simp))
          clear hcell HO4 HO HAB HAL hgB hgl HRT HRN2 HPR hj
          go_wp2_with fail
          refine wp_region_mono (C := Cb wr) (R := Rb) (H := fun _ => Hb wr) [Ty.val 53 (.slice (some ⟨g, 0, none⟩) 4 oc), Ty.val 54 (.pointer (some ⟨g, 1, none⟩)), Ty.val 55 (.int .i64 a1), Ty.val 56 (.slice (some ⟨g, 0, none⟩) 4 oc), Ty.val 57 (.pointer (some ⟨g, 2, none⟩)), Ty.val 58 (.int .i64 a2), Ty.val 59 (.slice (some ⟨g, 0, none⟩) 4 oc), Ty.val 60 (.pointer (some ⟨g, 3, none⟩)), Ty.val 61 (.int .i64 a3), Ty.val 62 (.slice (some ⟨g, 0, none⟩) 4 oc), Ty.val 63 (.pointer (some ⟨g, 0, none⟩)), Ty.val 64 (.int .i64 (n0 : Int)), Ty.val 65 (.int .u32 (n0 : Int)), Ty.val 66 (.agg #[.int .i64 a1, .int .i64 a2, .int .i64 a3, .int .u32 (n0 : Int)]), Ty.box 12 4 26, Ty.planIn 12 a1 a2 a3 (n0 : Int)] (by kernel_rfl) (hC_b wr) (hCH_b wr) (drew_b wr) ⟨trivial, trivial, trivial, trivial, trivial, trivial, trivial, trivial, trivial, trivial, trivial, trivial, trivial, trivial, trivial, trivial, trivial⟩ (by kernel_rfl) ?_ ?_
          · refine ⟨?_, ?_, ?_, ?_, ?_, ?_, ?_, ?_, ?_, ?_, ?_, ?_, ?_, ?_, ?_, ?_, trivial⟩
            · intro ac wc hC hsz hfr hd hpr
              have d4 : ac.eval (.tmp 4) = (.slice (some ⟨g, 0, none⟩) 4 oc) := hfr 4 rfl
              rw [if_pos (wanted_none rfl)]
              exact ob_copy rfl rfl rfl (Nat.lt_of_lt_of_eq (by decide : 53 < 74) hsz.symm) (Or.inl rfl) (Below.refl _ _) d4
            · intro ac wc hC hsz hfr hd hpr
              have d53 : ac.eval (.tmp 53) = (.slice (some ⟨g, 0, none⟩) 4 oc) := hd 0 rfl
              rw [if_pos (wanted_none rfl)]
              exact ob_index _ rfl rfl rfl (Nat.lt_of_lt_of_eq (by decide : 54 < 74) hsz.symm) rfl d53 rfl (by go_simp) (Below.refl _ _) rfl
            · intro ac wc hC hsz hfr hd hpr
              have d54 : ac.eval (.tmp 54) = (.pointer (some ⟨g, 1, none⟩)) := hd 1 rfl
              rw [if_pos (wanted_none rfl)]
              exact ob_load _ rfl rfl rfl (Nat.lt_of_lt_of_eq (by decide : 55 < 74) hsz.symm) rfl d54 (load_int (cell_keep C1.out hC)) (Below.refl _ _) rfl
            · intro ac wc hC hsz hfr hd hpr
              have d4 : ac.eval (.tmp 4) = (.slice (some ⟨g, 0, none⟩) 4 oc) := hfr 4 rfl
              rw [if_pos (wanted_none rfl)]
              exact ob_copy rfl rfl rfl (Nat.lt_of_lt_of_eq (by decide : 56 < 74) hsz.symm) (Or.inl rfl) (Below.refl _ _) d4
            · intro ac wc hC hsz hfr hd hpr
              have d56 : ac.eval (.tmp 56) = (.slice (some ⟨g, 0, none⟩) 4 oc) := hd 3 rfl
              rw [if_pos (wanted_none rfl)]
              exact ob_index _ rfl rfl rfl (Nat.lt_of_lt_of_eq (by decide : 57 < 74) hsz.symm) rfl d56 rfl (by go_simp) (Below.refl _ _) rfl
            · intro ac wc hC hsz hfr hd hpr
              have d57 : ac.eval (.tmp 57) = (.pointer (some ⟨g, 2, none⟩)) := hd 4 rfl
              rw [if_pos (wanted_none rfl)]
              exact ob_load _ rfl rfl rfl (Nat.lt_of_lt_of_eq (by decide : 58 < 74) hsz.symm) rfl d57 (load_int (cell_keep C2.out hC)) (Below.refl _ _) rfl
            · intro ac wc hC hsz hfr hd hpr
              have d4 : ac.eval (.tmp 4) = (.slice (some ⟨g, 0, none⟩) 4 oc) := hfr 4 rfl
              rw [if_pos (wanted_none rfl)]
              exact ob_copy rfl rfl rfl (Nat.lt_of_lt_of_eq (by decide : 59 < 74) hsz.symm) (Or.inl rfl) (Below.refl _ _) d4
            · intro ac wc hC hsz hfr hd hpr
              have d59 : ac.eval (.tmp 59) = (.slice (some ⟨g, 0, none⟩) 4 oc) := hd 6 rfl
              rw [if_pos (wanted_none rfl)]
              exact ob_index _ rfl rfl rfl (Nat.lt_of_lt_of_eq (by decide : 60 < 74) hsz.symm) rfl d59 rfl (by go_simp) (Below.refl _ _) rfl
            · intro ac wc hC hsz hfr hd hpr
              have d60 : ac.eval (.tmp 60) = (.pointer (some ⟨g, 3, none⟩)) := hd 7 rfl
              rw [if_pos (wanted_none rfl)]
              exact ob_load _ rfl rfl rfl (Nat.lt_of_lt_of_eq (by decide : 61 < 74) hsz.symm) rfl d60 (load_int (cell_keep C3.out hC)) (Below.refl _ _) rfl
            · intro ac wc hC hsz hfr hd hpr
              have d4 : ac.eval (.tmp 4) = (.slice (some ⟨g, 0, none⟩) 4 oc) := hfr 4 rfl
              rw [if_pos (wanted_none rfl)]
              exact ob_copy rfl rfl rfl (Nat.lt_of_lt_of_eq (by decide : 62 < 74) hsz.symm) (Or.inl rfl) (Below.refl _ _) d4
            · intro ac wc hC hsz hfr hd hpr
              have d62 : ac.eval (.tmp 62) = (.slice (some ⟨g, 0, none⟩) 4 oc) := hd 9 rfl
              rw [if_pos (wanted_none rfl)]
              exact ob_index _ rfl rfl rfl (Nat.lt_of_lt_of_eq (by decide : 63 < 74) hsz.symm) rfl d62 rfl (by go_simp) (Below.refl _ _) rfl
            · intro ac wc hC hsz hfr hd hpr
              have d63 : ac.eval (.tmp 63) = (.pointer (some ⟨g, 0, none⟩)) := hd 10 rfl
              rw [if_pos (wanted_none rfl)]
              exact ob_load _ rfl rfl rfl (Nat.lt_of_lt_of_eq (by decide : 64 < 74) hsz.symm) rfl d63 (load_int (cell_keep C0.out hC)) (Below.refl _ _) rfl
            · intro ac wc hC hsz hfr hd hpr
              have d64 : ac.eval (.tmp 64) = (.int .i64 (n0 : Int)) := hd 11 rfl
              rw [if_pos (wanted_none rfl)]
              exact ob_convert _ rfl rfl rfl (Nat.lt_of_lt_of_eq (by decide : 65 < 74) hsz.symm) rfl d64 (by go_simp) (Below.refl _ _) rfl
            · intro ac wc hC hsz hfr hd hpr
              have d55 : ac.eval (.tmp 55) = (.int .i64 a1) := hd 2 rfl
              have d58 : ac.eval (.tmp 58) = (.int .i64 a2) := hd 5 rfl
              have d61 : ac.eval (.tmp 61) = (.int .i64 a3) := hd 8 rfl
              have d65 : ac.eval (.tmp 65) = (.int .u32 (n0 : Int)) := hd 12 rfl
              rw [if_pos (wanted_none rfl)]
              exact ob_four _ rfl rfl rfl (Nat.lt_of_lt_of_eq (by decide : 66 < 74) hsz.symm) rfl d55 d58 d61 d65 (by go_simp) (Below.refl _ _) rfl
            · intro ac wc hC hsz hfr hd hpr
              rw [if_pos (wanted_none rfl)]
              refine ob_value (.pointer (some ⟨wc.heap.size, 0, none⟩)) (wc.alloc (.cells #[.int .i64 0, .int .i64 0, .int .i64 0, .int .u32 0] 26)) rfl rfl rfl (Nat.lt_of_lt_of_eq (by decide : 12 < 74) hsz.symm) ?_ ((Below.refl _ _).alloc (Nat.le_refl _) _) ⟨_, _, rfl, hC.size, Blk.new _ _ _ _ rfl, rfl, noU8_plan _ _ _ _⟩
              go_simp
            · intro ac wc hC hsz hfr hd hpr
              have d12 : IsBox wr wc (ac.eval (.tmp 12)) 4 26 := hd 14 rfl
              have d66 : ac.eval (.tmp 66) = (.agg #[.int .i64 a1, .int .i64 a2, .int .i64 a3, .int .u32 (n0 : Int)]) := hd 13 rfl
              rw [if_pos (wanted_none rfl)]
              show Done _ (Ty.planIn 12 a1 a2 a3 (n0 : Int)) _ _ _ _
              exact ob_store_plan rfl rfl d12 d66
          intro a' W6 hC hdef hsz hfr hd
          have e53 : a'.eval (.tmp 53) = (.slice (some ⟨g, 0, none⟩) 4 oc) := hd 0 (by decide)
          have e54 : a'.eval (.tmp 54) = (.pointer (some ⟨g, 1, none⟩)) := hd 1 (by decide)
          have e55 : a'.eval (.tmp 55) = (.int .i64 a1) := hd 2 (by decide)
          have e56 : a'.eval (.tmp 56) = (.slice (some ⟨g, 0, none⟩) 4 oc) := hd 3 (by decide)
          have e57 : a'.eval (.tmp 57) = (.pointer (some ⟨g, 2, none⟩)) := hd 4 (by decide)
          have e58 : a'.eval (.tmp 58) = (.int .i64 a2) := hd 5 (by decide)
          have e59 : a'.eval (.tmp 59) = (.slice (some ⟨g, 0, none⟩) 4 oc) := hd 6 (by decide)
          have e60 : a'.eval (.tmp 60) = (.pointer (some ⟨g, 3, none⟩)) := hd 7 (by decide)
          have e61 : a'.eval (.tmp 61) = (.int .i64 a3) := hd 8 (by decide)
          have e62 : a'.eval (.tmp 62) = (.slice (some ⟨g, 0, none⟩) 4 oc) := hd 9 (by decide)
          have e63 : a'.eval (.tmp 63) = (.pointer (some ⟨g, 0, none⟩)) := hd 10 (by decide)
          have e64 : a'.eval (.tmp 64) = (.int .i64 (n0 : Int)) := hd 11 (by decide)
          have e65 : a'.eval (.tmp 65) = (.int .u32 (n0 : Int)) := hd 12 (by decide)
          have e66 : a'.eval (.tmp 66) = (.agg #[.int .i64 a1, .int .i64 a2, .int .i64 a3, .int .u32 (n0 : Int)]) := hd 13 (by decide)
          obtain ⟨g12, e12, hg12, kb12⟩ : PlanIn wr W6 (a'.eval (.tmp 12)) a1 a2 a3 (n0 : Int) := hd 15 (by decide)
          replace kb12 := Lib.hid kb12
          have hact := act_puts hdef hsz hfr
          simp only [dstsOf, List.filterMap, putAll, Act.put, List.setIfInBounds_toArray, List.set_cons_succ, List.set_cons_zero, e53, e54, e55, e56, e57, e58, e59, e60, e61, e62, e63, e64, e65, e66, e12] at hact
          clear hd hfr hsz hdef e53 e54 e55 e56 e57 e58 e59 e60 e61 e62 e63 e64 e65 e66 e12
          subst hact
          replace K1 := Lib.hid (K1.out.go hC)
          replace B := B.trans (hC.mono B.size)
          clear hC
          have hgk : w.heap.size < g12 := by have := hkz; omega
          clear hg12 hkz hu C0 C1 C2 C3 HA0
          have k0 := kb12.out.cell 0
          have k1 := kb12.out.cell 1
          have k2 := kb12.out.cell 2
          have k3 := kb12.out.cell 3
          have kl := kb12.out.lt
          go_wp2_with fail
          clear k0 k1 k2 k3 kl
          refine (refcheck_any a1 a2 a3 _ _ (by have := HA1.out; omega) ⟨n0, rfl⟩).mono ?_
          rintro e w7 ⟨rfl, hb⟩
          replace K1 := Lib.hid (K1.out.go hb)
          replace kb12 := Lib.hid (kb12.out.go hb)
          replace B := B.trans (hb.mono B.size)
          have hzw7 := B.size
          clear hb
          have HSE := Lib.hid (show plE P = checkE a1 a2 a3 by rw [HPS.out]; rfl)
          obtain ⟨ce, hce⟩ : ∃ x, x = checkE a1 a2 a3 := ⟨_, rfl⟩
          rw [← hce]
          have HCE := Lib.hid hce
          clear hce
          have h12 : ¬ w.heap.size = g12 := by omega
          have h21 : ¬ g12 = w.heap.size := by omega
          by_cases hc0 : ce = 0
          · have hb : (ce != 0) = false := by rw [hc0]; rfl
            have HV := Lib.hid (show plV P = .agg #[.int .i64 a1, .int .i64 a2, .int .i64 a3, .int .u32 n0] by
              unfold plV; rw [if_pos (by rw [HSE.out, ← HCE.out, hc0]), HPS.out]; rfl)
            have HE0 := Lib.hid (show plE P = 0 by rw [HSE.out, ← HCE.out, hc0])
            clear hc0
            have k0 := kb12.out.cell 0
            have k1 := kb12.out.cell 1
            have k2 := kb12.out.cell 2
            have k3 := kb12.out.cell 3
            have kl := kb12.out.lt
            have z0 := K1.out.cell 0
            have z1 := K1.out.cell 1
            have z2 := K1.out.cell 2
            have z3 := K1.out.cell 3
            have zl := K1.out.lt
            have zf0 := K1.out.free 0
            have zf1 := K1.out.free 1
            have zf2 := K1.out.free 2
            have zf3 := K1.out.free 3
            go_wp2_with fail
            clear k0 k1 k2 k3 kl
            have hst := (((K1.out.set 0 (.int .i64 a1)).set 1 (.int .i64 a2)).set 2 (.int .i64 a3)).set 3 (.int .u32 n0)
            have BZ := (((B.setCell (p := ⟨w.heap.size, 0, none⟩) (Nat.le_refl _) (.int .i64 a1)).setCell (p := ⟨w.heap.size, 1, none⟩) (Nat.le_refl _) (.int .i64 a2)).setCell (p := ⟨w.heap.size, 2, none⟩) (Nat.le_refl _) (.int .i64 a3)).setCell (p := ⟨w.heap.size, 3, none⟩) (Nat.le_refl _) (.int .u32 n0)
            have e0 := hst.cell 0
            have e1 := hst.cell 1
            have e2 := hst.cell 2
            have e3 := hst.cell 3
            have hB : PlanRd w P (.returned (.tuple #[.agg #[.int .i64 a1, .int .i64 a2, .int .i64 a3, .int .u32 n0], .int .i64 (0)])) _ := ⟨by rw [HV.out, HE0.out], BZ⟩
            clear hst BZ z0 z1 z2 z3 zl zf0 zf1 zf2 zf3
            refine bodyPost_ret (v := .tuple #[.agg #[.int .i64 a1, .int .i64 a2, .int .i64 a3, .int .u32 n0], .int .i64 (0)]) ?_ rfl hB
            simp [results, Tryd.results16, go_sem, e0, e1, e2, e3]
          · have hb : (ce != 0) = true := by rw [bne_iff_ne]; exact hc0
            have HV := Lib.hid (show plV P = .agg #[.int .i64 0, .int .i64 0, .int .i64 0, .int .u32 0] by
              unfold plV; rw [if_neg (by rw [HSE.out, ← HCE.out]; exact hc0)])
            have HE0 := Lib.hid (show plE P = ce by rw [HSE.out, ← HCE.out])
            clear hc0
            have z0 := K1.out.cell 0
            have z1 := K1.out.cell 1
            have z2 := K1.out.cell 2
            have z3 := K1.out.cell 3
            have zl := K1.out.lt
            have zf0 := K1.out.free 0
            have zf1 := K1.out.free 1
            have zf2 := K1.out.free 2
            have zf3 := K1.out.free 3
            go_wp2_with fail
            have hst := (((K1.out.set 0 (.int .i64 0)).set 1 (.int .i64 0)).set 2 (.int .i64 0)).set 3 (.int .u32 0)
            have BZ := (((B.setCell (p := ⟨w.heap.size, 0, none⟩) (Nat.le_refl _) (.int .i64 0)).setCell (p := ⟨w.heap.size, 1, none⟩) (Nat.le_refl _) (.int .i64 0)).setCell (p := ⟨w.heap.size, 2, none⟩) (Nat.le_refl _) (.int .i64 0)).setCell (p := ⟨w.heap.size, 3, none⟩) (Nat.le_refl _) (.int .u32 0)
            have e0 := hst.cell 0
            have e1 := hst.cell 1
            have e2 := hst.cell 2
            have e3 := hst.cell 3
            have hB : PlanRd w P (.returned (.tuple #[.agg #[.int .i64 0, .int .i64 0, .int .i64 0, .int .u32 0], .int .i64 (ce)])) _ := ⟨by rw [HV.out, HE0.out], BZ⟩
            clear hst BZ z0 z1 z2 z3 zl zf0 zf1 zf2 zf3
            refine bodyPost_ret (v := .tuple #[.agg #[.int .i64 0, .int .i64 0, .int .i64 0, .int .u32 0], .int .i64 (ce)]) ?_ rfl hB
            simp [results, Tryd.results16, go_sem, e0, e1, e2, e3]
  · have hb1 : ((strOf (wordW t)).toList == [111, 98, 106, 101, 99, 116]) = false := by rw [HW.out]; simp [hw]
    have HE := Lib.hid (show P = none by rw [HP.out]; exact if_neg hw)
    clear HP HW hw ht
    generalize strOf (wordW t) = S at *
    generalize wordR t = R0 at *
    generalize wordM t = M0 at *
    have z0 := K1.out.cell 0
    have z1 := K1.out.cell 1
    have z2 := K1.out.cell 2
    have z3 := K1.out.cell 3
    have zl := K1.out.lt
    have zf0 := K1.out.free 0
    have zf1 := K1.out.free 1
    have zf2 := K1.out.free 2
    have zf3 := K1.out.free 3
    go_wp2_with fail
    have hst := (((K1.out.set 0 (.int .i64 0)).set 1 (.int .i64 0)).set 2 (.int .i64 0)).set 3 (.int .u32 0)
    have BZ := (((B.setCell (p := ⟨w.heap.size, 0, none⟩) (Nat.le_refl _) (.int .i64 0)).setCell (p := ⟨w.heap.size, 1, none⟩) (Nat.le_refl _) (.int .i64 0)).setCell (p := ⟨w.heap.size, 2, none⟩) (Nat.le_refl _) (.int .i64 0)).setCell (p := ⟨w.heap.size, 3, none⟩) (Nat.le_refl _) (.int .u32 0)
    have e0 := hst.cell 0
    have e1 := hst.cell 1
    have e2 := hst.cell 2
    have e3 := hst.cell 3
    have hB := planRd_bad HE.out BZ
    clear hst BZ z0 z1 z2 z3 zl zf0 zf1 zf2 zf3
    refine bodyPost_ret (v := .tuple #[.agg #[.int .i64 0, .int .i64 0, .int .i64 0, .int .u32 0], .int .i64 14]) ?_ rfl hB
    simp [results, Tryd.results16, go_sem, e0, e1, e2, e3]

end Go.Proofs.YtgoelfaemclioaaDoor
