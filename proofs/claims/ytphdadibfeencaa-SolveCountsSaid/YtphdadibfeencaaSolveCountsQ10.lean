/- Texts of one seat, laid together: ElimF, ElimE. -/
import Derived.Test.YtphdadibfeencaaSolveCountsQ9

/-
  Systems of equations in the program (layer 8): the region of 'grow' that puts the new row in.
-/
set_option maxRecDepth 100000
namespace Go.Proofs.Ytphdadibfeencaa
open Go.RowKit

/-- The worlds behind W in which of what was there only the system's two blocks have turned. -/
def Cf (W : World) (g k t : Nat) (v : Value) (w : World) : Prop := Past W w g v ∧ ∃ a n c, Blk w g #[.int .i64 (k : Int), .int .i64 (t : Int), .slice a n c] 88
/-- A step that turns the system's box (kind 0), or its list. -/
def Hf (g k t : Nat) (v : Value) (c : Nat) (w w' : World) : Prop :=
  if c = 0 then (w.grownBy w' (some g) ∧ Soft w w' ∧ ∃ a n c, Blk w' g #[.int .i64 (k : Int), .int .i64 (t : Int), .slice a n c] 88) else (w.grownBy w' v.ownBlock ∧ Soft w w')
theorem Hf.soft {g k t c : Nat} {v : Value} {w w' : World} (h : Hf g k t v c w w') : Soft w w' := by
  unfold Hf at h; split at h
  · exact h.2.1
  · exact h.2
theorem hC_f (W : World) (g k t : Nat) (v : Value) : ∀ w w', Cf W g k t v w → Rb w w' → Cf W g k t v w' := fun _ _ ⟨h1, a, n, c, h2⟩ hb => ⟨h1.below hb, a, n, c, h2.go hb⟩
theorem hCH_f (W : World) (g k t : Nat) (v : Value) (hgv : v.ownBlock ≠ some g) : ∀ c w w', Cf W g k t v w → Hf g k t v c w w' → Cf W g k t v w' := by
  intro c w w' ⟨h1, a, n, cc, h2⟩ hH
  unfold Hf at hH; split at hH
  · exact ⟨h1.grown hH.1 hH.2.1 fun k e _ => by cases e; exact .inl rfl, hH.2.2⟩
  · exact ⟨h1.grown hH.1 hH.2 fun k e _ => .inr e.symm, a, n, cc, h2.grown hH.1 fun e => hgv e.symm⟩

section
variable {W : World} {g k t : Nat} {v : Value}
def TyF.val (s : Tmp) (x : Value) : Ty (Cf W g k t v) Rb (Hf g k t v) := Ty.val s x
/-- What is read of the system, ahead of any turn. -/
def TyF.reads (B0 : Nat) (M : List Rw) (s : Tmp) (x : Value) : Ty (Cf W g k t v) Rb (Hf g k t v) :=
  { TyF.val (W := W) (g := g) (k := k) (t := t) (v := v) s x with Pre := fun w => IsE w B0 g v k t M, okP := fun _ => false, preUp := fun _ _ _ hR h => h.go hR, preH := fun _ hc _ _ _ _ _ => by cases hc }
/-- A list of one. -/
def One1 (W w : World) (u : Value) (r : Rw) : Prop := ∃ vb a c a' c', u = .slice (some ⟨vb, 0, none⟩) 1 1 ∧ W.heap.size ≤ vb ∧ Blk w vb #[.slice a r.1.length c, .slice a' r.2.length c', .int .i64 (lead r.1 : Int)] 102 ∧ Bytes w (.slice a r.1.length c) r.1 ∧ Bytes w (.slice a' r.2.length c') r.2
def TyF.one1 (hg : g < W.heap.size) (hv : ∀ j, v.ownBlock = some j → j < W.heap.size) (s : Tmp) (r : Rw) : Ty (Cf W g k t v) Rb (Hf g k t v) :=
  Ty.one s (fun u w => One1 W w u r) (fun _ _ _ _ hR ⟨vb, a, c, a', c', e, h1, h2, h3, h4⟩ => ⟨vb, a, c, a', c', e, h1, h2.go hR, h3.go hR, h4.go hR⟩)
    fun _ _ _ _ _ hH ⟨vb, a, c, a', c', e, h1, h2, h3, h4⟩ => ⟨vb, a, c, a', c', e, h1, by
      unfold Hf at hH; split at hH
      · exact h2.grown hH.1 (by simp; omega)
      · exact h2.grown hH.1 fun e => by have := hv vb e.symm; omega, h3.soft hH.soft, h4.soft hH.soft⟩
/-- The list with the row in. -/
def Newl (W w : World) (B0 : Nat) (v : Value) (L : List Rw) (u : Value) : Prop := OwnE w B0 u L ∧ Near W v u
def TyF.newl (B0 : Nat) (M L : List Rw) (s : Tmp) : Ty (Cf W g k t v) Rb (Hf g k t v) :=
  ⟨[s], fun vs w => Newl W w B0 v L (vs.headD undef), some 1, fun c => decide (c = 0), fun _ _ _ _ hR ⟨h1, h2⟩ => ⟨h1.go hR, h2⟩, fun c hc _ w w' hCw hH ⟨h1, h2⟩ => ⟨by
      obtain rfl : c = 0 := by simpa using hc
      obtain ⟨_, a, n, cc, hk⟩ := hCw
      unfold Hf at hH
      rw [if_pos rfl] at hH
      exact h1.other hH.1 hH.2.1 (h1.ne_box hk (by decide)), h2⟩,
    fun w => IsE w B0 g v k t M, fun _ => false, fun _ _ _ hR h => h.go hR, fun _ hc _ _ _ _ _ => by cases hc⟩
/-- At last. -/
def TyF.done (B0 : Nat) (L : List Rw) : Ty (Cf W g k t v) Rb (Hf g k t v) :=
  ⟨[], fun _ w => ∃ u, IsE w B0 g u k t L ∧ Near W v u, some 0, fun _ => false, fun _ _ _ _ hR ⟨u, h, h2⟩ => ⟨u, h.go hR, h2⟩, (fun _ hc _ _ _ _ _ => by cases hc), fun _ => True, fun _ => true, fun _ _ _ _ _ => trivial, fun _ _ _ _ _ _ _ => trivial⟩
end

theorem build_sl1 {a a' : Option Addr} {n c n' c' : Nat} {i : Int} {w : World} : (Instr.buildSlice 86 1 #[(0, .agg #[.slice a n c, .slice a' n' c', .int .i64 i])]).run Try.prog w = .ok (.slice (some ⟨w.heap.size, 0, none⟩) 1 1) (w.alloc (.cells #[.slice a n c, .slice a' n' c', .int .i64 i] 102)) := by
  go_simp
section
variable {P : Program} {C : World → Prop} {R : World → World → Prop} {H : Nat → World → World → Prop} {a : Act} {w : World} {o : Oper} {Q : Exit → Act → World → Prop}
/-- A call that steps as a kind. -/
theorem ob_callH {T : Ty C R H} {t : Tmp} {f : FuncId} {args : Array Operand} {ats : Array TypeId} {c : Nat} (hS : T.S = [t]) (hh : T.kind = some c) (hd : o.dst = some t) (hlt : t < a.tmps.size)
    (hop : o.op = .call { callee := .value (.func f), args := args, argTypes := ats }) (hen : ∀ (vs : Array Value) (w : World), (callFunc f vs).run P w = .ok (.enter f vs) w)
    (hc : Calls P f (args.toList.map a.eval).toArray w fun e w' => ∃ v, e = .returned v ∧ T.F [v] w' ∧ H c w w') : Done P T Q o a w := by
  have e0 : args.map a.eval = (args.toList.map a.eval).toArray := by rw [← Array.toList_map, Array.toArray_toList]
  have hrun : (execOp a.eval o).run P w = .ok (.enter f (args.toList.map a.eval).toArray) w := by
    rw [← e0]
    simp [execOp, hop, resolve, invoke, Act.eval, Deferred.ofValue, hen]
  unfold Done Oper.wp
  rw [hrun]
  refine hc.mono ?_
  rintro e w' ⟨v, rfl, hF, hR⟩
  refine ⟨v, rfl, by unfold stepR; rw [hh]; exact hR, ?_⟩
  rw [hS, List.map_cons, List.map_nil, hd, eval_put_eq hlt]
  exact hF
end
/-- The list is stored into the system. -/
theorem ob_store_sys {W : World} {g k t B0 : Nat} {v : Value} {L : List Rw} {a : Act} {w : World} {o : Oper} {Q : Exit → Act → World → Prop} {x y : Operand} (hop : o.op = .store 86 x y) (hx : a.eval x = .pointer (some ⟨g, 2, none⟩)) (hV : Newl W w B0 v L (a.eval y)) (hC : Cf W g k t v w) (hB : B0 ≤ g) :
    Done Try.prog (TyF.done (W := W) (g := g) (k := k) (t := t) (v := v) B0 L) Q o a w := by
  obtain ⟨h1, h2⟩ := hV
  obtain ⟨_, b, n, c, hk⟩ := hC
  obtain ⟨xa, xc, ex⟩ := h1.shape
  rw [ex] at h1 h2
  have hset := hk.set 2 (.slice xa L.length xc)
  have hgr := grown_setCell w ⟨g, 2, none⟩ (.slice xa L.length xc)
  have no : ∀ (a : Option Addr) (n c i j : Nat), (#[.int .i64 (k : Int), .int .i64 (t : Int), .slice a n c] : Array Value)[i]? ≠ some (U8 j) := fun a n c i j e => by
    match i, e with
    | 0, e => simp at e
    | 1, e => simp at e
    | 2, e => simp at e
    | i + 3, e => simp at e
  have hs : Soft w (w.setCell ⟨g, 2, none⟩ (.slice xa L.length xc)) := Soft.of_box hgr hk (fun i j => no _ _ _ i j) hset (fun i j => no _ _ _ i j)
  have hO := h1.other hgr hs (h1.ne_box hk (by decide))
  have k2 : w.cell? ⟨g, 2, none⟩ = some (.slice b n c) := hk.cell 2
  have f2 := hk.free 2
  refine ob_store0 (w.setCell ⟨g, 2, none⟩ (.slice xa L.length xc)) rfl rfl hop hx ex ?_ (by unfold Hf; rw [if_pos rfl]; exact ⟨hgr, hs, _, _, _, hset⟩) ⟨_, ⟨hset, hO, hB⟩, h2⟩
  clear hset hgr no hs hO h1 h2 hk
  go_simp

end Go.Proofs.Ytphdadibfeencaa

/-
  Systems of equations in the program (layer 8): 'grow'.
-/
set_option maxRecDepth 100000
namespace Go.Proofs.Ytphdadibfeencaa
open Go.RowKit

theorem Past.trans {w a b : World} {g : Nat} {v : Value} (h : Past w a g v) (k : Past a b g v) : Past w b g v :=
  ⟨k.os.trans h.os, k.tape.trans h.tape, k.output.trans h.output, Nat.le_trans h.size k.size, fun i hi h1 h2 => (k.block i (Nat.lt_of_lt_of_le hi h.size) h1 h2).trans (h.block i hi h1 h2), h.soft.trans k.soft⟩

set_option maxHeartbeats 4000000 in
theorem grow_any (g B0 k t : Nat) (v u : Value) (E : List Rw) (y : Rw) (w : World) (hE : IsE w B0 g v k t E) (hu : IsRow w u y.1 y.2) (hR : RedR k t E) (hN : Newr k t E y) (hk : k ≤ 10000000) (ht : t ≤ 10000000) (hlen : E.length ≤ 1000000) :
    Calls Try.prog 48 #[.pointer (some ⟨g, 0, none⟩), u] w fun e w' => ∃ v', e = .returned (.tuple #[]) ∧ IsE w' B0 g v' k t (Ro.put (Ro.clean E y) y) ∧ Past w w' g v ∧ Near w v v' := by
  obtain ⟨v0, d0, rfl, hp, hq⟩ := hu
  have HP := Lib.hid hp
  have HQ := Lib.hid hq
  obtain ⟨a0, c0, rfl, _⟩ := hp
  obtain ⟨a1, c1, rfl, _⟩ := hq
  have HE := Lib.hid hE
  obtain ⟨va, vc, rfl⟩ := hE.2.1.shape
  have HR := Lib.hid hR
  have HN := Lib.hid hN
  have HVL := Lib.hid hE.2.1.lt
  have HLI := Lib.hid (show leadI y.1 = (lead y.1 : Int) from if_pos hN.lead)
  clear hE hR hN
  go_enter Try.func48, Try.ntmps48
  go_wp2_with fail
  obtain ⟨B, hk1, hs⟩ := blocks1 w #[.slice a0 y.1.length c0, .slice a1 y.2.length c1] 52
  generalize (w.alloc (.cells #[.slice a0 y.1.length c0, .slice a1 y.2.length c1] 52)) = W at *
  have K1 := Lib.hid hk1
  have HS := Lib.hid hs
  clear hs hk1
  replace HP := Lib.hid (HP.out.go B)
  replace HQ := Lib.hid (HQ.out.go B)
  replace HE := Lib.hid (HE.out.go B)
  have hzW := B.size
  refine wp_region_mono (C := Cb W) (R := Rb) (H := fun _ => Hb W) [Ty.val 7 (.agg #[.slice a0 y.1.length c0, .slice a1 y.2.length c1]), Ty.val 8 (.pointer (some ⟨w.heap.size, 0, none⟩)), Ty.val 9 (.slice a0 y.1.length c0), Ty.val 10 (.int .i64 (lead y.1 : Int)), (Ty.led 11 y), Ty.box 4 3 102, Ty.ledIn 4 y] (by kernel_rfl) (hC_b W) (hCH_b W) (drew_b W) ⟨trivial, trivial, trivial, trivial, trivial, trivial, trivial, trivial⟩ (by kernel_rfl) ?_ ?_
  · refine ⟨?_, ?_, ?_, ?_, ?_, ?_, ?_, trivial⟩
    · intro ac wc hC hsz hfr hd hpr
      have d3 : ac.eval (.tmp 3) = (.pointer (some ⟨w.heap.size, 0, none⟩)) := hfr 3 rfl
      rw [if_pos (wanted_none rfl)]
      exact ob_load _ rfl rfl rfl (Nat.lt_of_lt_of_eq (by decide : 7 < 48) hsz.symm) rfl d3 (load_vecrow (K1.out.go hC)) (Below.refl _ _) rfl
    · intro ac wc hC hsz hfr hd hpr
      have d3 : ac.eval (.tmp 3) = (.pointer (some ⟨w.heap.size, 0, none⟩)) := hfr 3 rfl
      rw [if_pos (wanted_none rfl)]
      exact ob_field _ rfl rfl rfl (Nat.lt_of_lt_of_eq (by decide : 8 < 48) hsz.symm) rfl d3 (fun w => by go_simp) (Below.refl _ _) rfl
    · intro ac wc hC hsz hfr hd hpr
      have d8 : ac.eval (.tmp 8) = (.pointer (some ⟨w.heap.size, 0, none⟩)) := hd 1 rfl
      rw [if_pos (wanted_none rfl)]
      exact ob_load _ rfl rfl rfl (Nat.lt_of_lt_of_eq (by decide : 9 < 48) hsz.symm) rfl d8 (load_vec ((K1.out.go hC).cell 0)) (Below.refl _ _) rfl
    · intro ac wc hC hsz hfr hd hpr
      have d9 : ac.eval (.tmp 9) = (.slice a0 y.1.length c0) := hd 2 rfl
      rw [if_pos (wanted_none rfl)]
      refine ob_call rfl rfl rfl (Nat.lt_of_lt_of_eq (by decide : 10 < 48) hsz.symm) rfl (enter_of Try.func64 (by kernel_rfl) rfl) ?_
      show Calls Try.prog 64 #[ac.eval (.tmp 9)] wc _
      rw [d9]
      exact (lead_to _ y.1 _ wc (HP.out.go hC) HLI.out).mono fun _ _ ⟨he, hw⟩ => ⟨_, he, rfl, hw ▸ Below.refl _ _⟩
    · intro ac wc hC hsz hfr hd hpr
      have d7 : ac.eval (.tmp 7) = (.agg #[.slice a0 y.1.length c0, .slice a1 y.2.length c1]) := hd 0 rfl
      have d10 : ac.eval (.tmp 10) = (.int .i64 (lead y.1 : Int)) := hd 3 rfl
      rw [if_pos (wanted_none rfl)]
      have hlt : 11 < ac.tmps.size := (Nat.lt_of_lt_of_eq (by decide : 11 < 48) hsz.symm)
      exact ob_build2 _ rfl rfl rfl hlt rfl d7 d10 build_led (Below.refl _ _) ⟨_, _, rfl, HP.out.go hC, HQ.out.go hC⟩
    · intro ac wc hC hsz hfr hd hpr
      rw [if_pos (wanted_none rfl)]
      refine ob_value (.pointer (some ⟨wc.heap.size, 0, none⟩)) (wc.alloc (.cells #[.slice none 0 0, .slice none 0 0, .int .i64 0] 102)) rfl rfl rfl (Nat.lt_of_lt_of_eq (by decide : 4 < 48) hsz.symm) ?_ ((Below.refl _ _).alloc (Nat.le_refl _) _) ⟨_, _, rfl, hC.size, Blk.new _ _ _ _ rfl, rfl, noU8_led _ _ _ _ _ _ _⟩
      go_simp
    · intro ac wc hC hsz hfr hd hpr
      have d4 : IsBox W wc (ac.eval (.tmp 4)) 3 102 := hd 5 rfl
      have d11 : IsLed wc (ac.eval (.tmp 11)) y := hd 4 rfl
      rw [if_pos (wanted_none rfl)]
      show Done _ (Ty.ledIn 4 y) _ _ _ _
      exact ob_store_led rfl rfl d4 d11
  intro a' W1 hC hdef hsz hfr hd
  have e7 : a'.eval (.tmp 7) = (.agg #[.slice a0 y.1.length c0, .slice a1 y.2.length c1]) := hd 0 (by decide)
  have e8 : a'.eval (.tmp 8) = (.pointer (some ⟨w.heap.size, 0, none⟩)) := hd 1 (by decide)
  have e9 : a'.eval (.tmp 9) = (.slice a0 y.1.length c0) := hd 2 (by decide)
  have e10 : a'.eval (.tmp 10) = (.int .i64 (lead y.1 : Int)) := hd 3 (by decide)
  obtain ⟨x11, e11, r11⟩ : ∃ xq_, a'.eval (.tmp 11) = xq_ ∧ IsLed W1 (xq_) y := ⟨_, rfl, hd 4 (by decide)⟩
  replace r11 := Lib.hid r11
  obtain ⟨g4, x4, y4, z4, u4, e4, hg4, kb4, r4⟩ : LedIn W W1 (a'.eval (.tmp 4)) y := hd 6 (by decide)
  replace r4 := Lib.hid r4
  replace kb4 := Lib.hid kb4
  have hact := act_puts hdef hsz hfr
  simp only [dstsOf, List.filterMap, putAll, Act.put, List.setIfInBounds_toArray, List.set_cons_succ, List.set_cons_zero, e7, e8, e9, e10, e11, e4] at hact
  clear hd hfr hsz hdef e7 e8 e9 e10 e11 e4
  subst hact
  replace HP := Lib.hid (HP.out.go hC)
  replace HQ := Lib.hid (HQ.out.go hC)
  replace HE := Lib.hid (HE.out.go hC)
  replace B := B.trans (hC.mono B.size)
  clear hC
  have hz4 := Lib.hid (show w.heap.size ≤ g4 by omega)
  have k2 := HE.out.c2
  have kl := HE.out.lt
  go_wp2_with fail
  go_loopw [5, 6, 17] (fun _ _ i wr => ∃ j : Nat, j ≤ E.length ∧ i = .int .i64 j ∧ Past w wr g (.slice va E.length vc) ∧ ELed wr g4 y ∧ IsE wr B0 g (.slice va E.length vc) k t (Ro.cleanK E y j)) (fun _ _ i _ => E.length - (intOf i).toNat)
  case atStart => exact ⟨0, by omega, rfl, Past.of_below _ _ B, ⟨_, _, _, _, kb4.out, r4.out⟩, by rw [Ro.cleanK_zero]; exact HE.out⟩
  case round =>
    clear HP HQ K1 kb4 r4 B k2 kl
    obtain ⟨j, hj, rfl, hPA, hL4, hE⟩ := hrel
    have HPA := Lib.hid hPA
    obtain ⟨x4, y4, z4, u4, hk4, hr4⟩ := hL4
    have K4 := Lib.hid hk4
    have R4 := Lib.hid hr4
    have RB := Lib.hid (show Bytes wr (.slice x4 y.1.length y4) y.1 ∧ Bytes wr (.slice z4 y.2.length u4) y.2 by
      obtain ⟨_, _, e, h1, h2⟩ := hr4
      simp only [Value.agg.injEq, Array.mk.injEq, List.cons.injEq, and_true] at e
      obtain ⟨rfl, rfl⟩ := e
      exact ⟨h1, h2⟩)
    clear hPA hk4 hr4
    by_cases hjl : j < E.length
    · obtain ⟨F, hF⟩ : ∃ F, F = Ro.cleanK E y j := ⟨_, rfl⟩
      have hFl : F.length = E.length := by rw [hF]; exact Ro.cleanK_length E y j
      have hFj : rwAt F j = rwAt E j := by rw [hF]; exact Ro.cleanK_at E y j
      have HNX := Lib.hid (show F.set j (Ro.step (rwAt E j) y) = Ro.cleanK E y (j + 1) by rw [hF]; exact Ro.cleanK_set E y j hjl)
      rw [← hF] at hE
      have HE := Lib.hid hE
      have HFL := Lib.hid (show j < F.length by rw [hFl]; exact hjl)
      have HFJ := Lib.hid hFj
      obtain ⟨gl, c', er, hBg, hgl⟩ := hE.2.1.addr (Nat.lt_of_le_of_lt (Nat.zero_le _) HFL.out)
      simp only [Value.slice.injEq] at er
      obtain ⟨rfl, -, rfl⟩ := er
      obtain ⟨ra, rc, sa, sc, hr0, hr1, hr2, hrb, hsb⟩ := hE.2.1.cells j HFL.out
      rw [hFj] at hr0 hr1 hr2 hrb hsb
      have HRB := Lib.hid hrb
      have HSB := Lib.hid hsb
      have HDJ := Lib.hid (HR.out.up.dims.at hjl)
      have HLD := Lib.hid (show lead (Ro.step (rwAt E j) y).1 = lead (rwAt F j).1 by rw [HFJ.out]; exact clean_lead HR.out HN.out (rwAt_mem hjl))
      have j1 : (j : Int) < (E.length : Int) := by omega
      have j0 : (0 : Int) ≤ (j : Int) := Int.natCast_nonneg _
      have hgg : g ≠ gl := fun e => hE.2.1.ne_box hE.1 (by decide) (by rw [e]; rfl)
      clear hrb hsb hF hFl hFj hE
      go_wp2_with fail
      obtain ⟨g6, hg6⟩ : ∃ g6 : Nat, g6 = wr.heap.size := ⟨_, rfl⟩
      have h6 : g6 ≠ gl := by omega
      have h4 : g4 ≠ gl := fun e => by
        have h1 := HVL.out gl rfl
        have h2 := hz4.out
        omega
      have B : Below wr.heap.size wr wr := Below.refl _ _
      obtain ⟨hb, hk, hs⟩ := blocks1 wr #[.slice ra (rwAt E j).1.length rc, .slice sa (rwAt E j).2.length sc, .int .i64 (lead (rwAt E j).1 : Int)] 102
      generalize wr.alloc (.cells #[.slice ra (rwAt E j).1.length rc, .slice sa (rwAt E j).2.length sc, .int .i64 (lead (rwAt E j).1 : Int)] 102) = W6 at *
      have K6 := Lib.hid hk
      replace HE := Lib.hid (HE.out.go hb)
      replace K4 := Lib.hid (K4.out.go hb)
      replace R4 := Lib.hid (R4.out.go hb)
      replace HRB := Lib.hid (HRB.out.go hb)
      replace HSB := Lib.hid (HSB.out.go hb)
      replace B := B.trans (hb.mono B.size)
      have hzW6 := B.size
      clear hb hk hs
      rw [← hg6] at K6
      simp only [← hg6]
      have HKG := Lib.hid (show ∀ k, (Value.slice (some ⟨gl, 0, none⟩) E.length vc).ownBlock = some k → k < W6.heap.size from HE.out.2.1.lt)
      have hpr0 : OwnE W6.drew B0 (.slice (some ⟨gl, 0, none⟩) E.length vc) F := HE.out.2.1.go (Below.refl _ _).drew
      clear hr0 hr1 hr2 hg6
      refine wp_region_mono (C := Ce W6 (gl)) (R := Rb) (H := He W6 (gl)) [TyE.val 22 (.pointer (some ⟨g, 0, none⟩)), TyE.val 23 (.pointer (some ⟨g, 0, none⟩)), TyE.val 24 (.pointer (some ⟨g, 2, none⟩)), TyE.val 25 (.slice (some ⟨gl, 0, none⟩) E.length vc), TyE.val 26 (.int .i64 (j : Int)), TyE.val 27 (.pointer (some ⟨g6, 0, none⟩)), TyE.row 28 (rwAt E j).1 (rwAt E j).2, TyE.led 29 y, TyE.row 30 (Ro.step (rwAt E j) y).1 (Ro.step (rwAt E j) y).2, TyE.val 31 (.pointer (some ⟨gl, j * 3, none⟩)), TyE.val 32 (.pointer (some ⟨gl, j * 3, none⟩)), (TyE.storesE (W := W6) (g := gl) (.slice (some ⟨gl, 0, none⟩) E.length vc) HKG.out B0 F (F.set j (Ro.step (rwAt E j) y)))] (by kernel_rfl) (hC_e W6 (gl)) (hCH_e W6 (gl)) (drew_e W6 (gl)) ⟨trivial, trivial, trivial, trivial, trivial, trivial, trivial, trivial, trivial, trivial, trivial, (hpr0), trivial⟩ (by kernel_rfl) ?_ ?_
      · refine ⟨?_, ?_, ?_, ?_, ?_, ?_, ?_, ?_, ?_, ?_, ?_, ?_, trivial⟩
        · intro ac wc hC hsz hfr hd hpr
          have d0 : ac.eval (.tmp 0) = (.pointer (some ⟨g, 0, none⟩)) := hfr 0 rfl
          rw [if_pos (wanted_none rfl)]
          exact ob_copy rfl rfl rfl (Nat.lt_of_lt_of_eq (by decide : 22 < 48) hsz.symm) (Or.inl rfl) (Below.refl _ _) d0
        · intro ac wc hC hsz hfr hd hpr
          have d22 : ac.eval (.tmp 22) = (.pointer (some ⟨g, 0, none⟩)) := hd 0 rfl
          rw [if_pos (wanted_none rfl)]
          exact ob_nil rfl rfl rfl (Nat.lt_of_lt_of_eq (by decide : 23 < 48) hsz.symm) rfl d22 (Below.refl _ _) rfl
        · intro ac wc hC hsz hfr hd hpr
          have d23 : ac.eval (.tmp 23) = (.pointer (some ⟨g, 0, none⟩)) := hd 1 rfl
          rw [if_pos (wanted_none rfl)]
          exact ob_field _ rfl rfl rfl (Nat.lt_of_lt_of_eq (by decide : 24 < 48) hsz.symm) rfl d23 (fun w => by go_simp) (Below.refl _ _) rfl
        · intro ac wc hC hsz hfr hd hpr
          have d24 : ac.eval (.tmp 24) = (.pointer (some ⟨g, 2, none⟩)) := hd 2 rfl
          rw [if_pos (wanted_none rfl)]
          exact ob_load _ rfl rfl rfl (Nat.lt_of_lt_of_eq (by decide : 25 < 48) hsz.symm) rfl d24 (load_leds ((HE.out.1.ce hC hgg).cell 2)) (Below.refl _ _) rfl
        · intro ac wc hC hsz hfr hd hpr
          have d5 : ac.eval (.tmp 5) = (.int .i64 (j : Int)) := hfr 5 rfl
          rw [if_pos (wanted_none rfl)]
          exact ob_copy rfl rfl rfl (Nat.lt_of_lt_of_eq (by decide : 26 < 48) hsz.symm) (Or.inl rfl) (Below.refl _ _) d5
        · intro ac wc hC hsz hfr hd hpr
          have d6 : ac.eval (.tmp 6) = (.pointer (some ⟨g6, 0, none⟩)) := hfr 6 rfl
          rw [if_pos (wanted_none rfl)]
          exact ob_field _ rfl rfl rfl (Nat.lt_of_lt_of_eq (by decide : 27 < 48) hsz.symm) rfl d6 (fun w => by go_simp) (Below.refl _ _) rfl
        · intro ac wc hC hsz hfr hd hpr
          have d27 : ac.eval (.tmp 27) = (.pointer (some ⟨g6, 0, none⟩)) := hd 5 rfl
          rw [if_pos (wanted_none rfl)]
          exact ob_load _ rfl rfl rfl (Nat.lt_of_lt_of_eq (by decide : 28 < 48) hsz.symm) rfl d27 (load_vecrow3 (K6.out.ce hC h6)) (Below.refl _ _) (⟨_, _, rfl, HRB.out.ce hC, HSB.out.ce hC⟩)
        · intro ac wc hC hsz hfr hd hpr
          have d4 : ac.eval (.tmp 4) = (.pointer (some ⟨g4, 0, none⟩)) := hfr 4 rfl
          rw [if_pos (wanted_none rfl)]
          exact ob_load _ rfl rfl rfl (Nat.lt_of_lt_of_eq (by decide : 29 < 48) hsz.symm) rfl d4 (load_led0 (K4.out.ce hC h4)) (Below.refl _ _) (R4.out.ce hC)
        · intro ac wc hC hsz hfr hd hpr
          have d28 : IsRow wc (ac.eval (.tmp 28)) (rwAt E j).1 (rwAt E j).2 := hd 6 rfl
          have d29 : IsLed wc (ac.eval (.tmp 29)) y := hd 7 rfl
          rw [if_pos (wanted_none rfl)]
          refine ob_call rfl rfl rfl (Nat.lt_of_lt_of_eq (by decide : 30 < 48) hsz.symm) rfl (enter_of Try.func62 (by kernel_rfl) rfl) ?_
          show Calls Try.prog 62 #[ac.eval (.tmp 28), ac.eval (.tmp 29)] wc _
          exact ewithout_any _ _ (rwAt E j) y k t wc d28 d29 HDJ.out HN.out.dim hk ht HN.out.lead
        · intro ac wc hC hsz hfr hd hpr
          have d25 : ac.eval (.tmp 25) = (.slice (some ⟨gl, 0, none⟩) E.length vc) := hd 3 rfl
          have d26 : ac.eval (.tmp 26) = (.int .i64 (j : Int)) := hd 4 rfl
          rw [if_pos (wanted_none rfl)]
          exact ob_index _ rfl rfl rfl (Nat.lt_of_lt_of_eq (by decide : 31 < 48) hsz.symm) rfl d25 d26 (by go_simp) (Below.refl _ _) rfl
        · intro ac wc hC hsz hfr hd hpr
          have d31 : ac.eval (.tmp 31) = (.pointer (some ⟨gl, j * 3, none⟩)) := hd 9 rfl
          rw [if_pos (wanted_none rfl)]
          exact ob_field _ rfl rfl rfl (Nat.lt_of_lt_of_eq (by decide : 32 < 48) hsz.symm) rfl d31 (fun w => by go_simp) (Below.refl _ _) rfl
        · intro ac wc hC hsz hfr hd hpr
          have d32 : ac.eval (.tmp 32) = (.pointer (some ⟨gl, j * 3, none⟩)) := hd 10 rfl
          have d30 : IsRow wc (ac.eval (.tmp 30)) (Ro.step (rwAt E j) y).1 (Ro.step (rwAt E j) y).2 := hd 8 rfl
          rw [if_pos (wanted_none rfl)]
          have hlt : 0 < ac.tmps.size := (Nat.lt_of_lt_of_eq (by decide : 0 < 48) hsz.symm)
          exact ob_storesE HKG.out rfl d32 d30 HFL.out HLD.out hpr
      intro a' W7 hC hdef hsz hfr hd
      have e22 : a'.eval (.tmp 22) = (.pointer (some ⟨g, 0, none⟩)) := hd 0 (by decide)
      have e23 : a'.eval (.tmp 23) = (.pointer (some ⟨g, 0, none⟩)) := hd 1 (by decide)
      have e24 : a'.eval (.tmp 24) = (.pointer (some ⟨g, 2, none⟩)) := hd 2 (by decide)
      have e25 : a'.eval (.tmp 25) = (.slice (some ⟨gl, 0, none⟩) E.length vc) := hd 3 (by decide)
      have e26 : a'.eval (.tmp 26) = (.int .i64 (j : Int)) := hd 4 (by decide)
      have e27 : a'.eval (.tmp 27) = (.pointer (some ⟨g6, 0, none⟩)) := hd 5 (by decide)
      obtain ⟨x28, e28, r28⟩ : ∃ xq_, a'.eval (.tmp 28) = xq_ ∧ IsRow W7 (xq_) (rwAt E j).1 (rwAt E j).2 := ⟨_, rfl, hd 6 (by decide)⟩
      replace r28 := Lib.hid r28
      obtain ⟨x29, e29, r29⟩ : ∃ xq_, a'.eval (.tmp 29) = xq_ ∧ IsLed W7 (xq_) y := ⟨_, rfl, hd 7 (by decide)⟩
      replace r29 := Lib.hid r29
      obtain ⟨x30, e30, r30⟩ : ∃ xq_, a'.eval (.tmp 30) = xq_ ∧ IsRow W7 (xq_) (Ro.step (rwAt E j) y).1 (Ro.step (rwAt E j) y).2 := ⟨_, rfl, hd 8 (by decide)⟩
      replace r30 := Lib.hid r30
      have e31 : a'.eval (.tmp 31) = (.pointer (some ⟨gl, j * 3, none⟩)) := hd 9 (by decide)
      have e32 : a'.eval (.tmp 32) = (.pointer (some ⟨gl, j * 3, none⟩)) := hd 10 (by decide)
      have st11 : OwnE W7 B0 (.slice (some ⟨gl, 0, none⟩) E.length vc) (F.set j (Ro.step (rwAt E j) y)) := hd 11 (by decide)
      replace st11 := Lib.hid st11
      have hact := act_puts hdef hsz hfr
      simp only [dstsOf, List.filterMap, putAll, Act.put, List.setIfInBounds_toArray, List.set_cons_succ, List.set_cons_zero, e22, e23, e24, e25, e26, e27, e28, e29, e30, e31, e32] at hact
      clear hd hfr hsz hdef e22 e23 e24 e25 e26 e27 e28 e29 e30 e31 e32
      subst hact
      have HPB := Lib.hid ((HPA.out.below B).grown hC.1 hC.2 fun k e _ => by cases e; exact .inr rfl)
      have HE7 := Lib.hid (show IsE W7 B0 g (.slice (some ⟨gl, 0, none⟩) E.length vc) k t (Ro.cleanK E y (j + 1)) from ⟨HE.out.1.ce hC hgg, by rw [← HNX.out]; exact st11.out, HE.out.2.2⟩)
      have HL7 := Lib.hid (show ELed W7 g4 y from ⟨_, _, _, _, K4.out.ce hC h4, R4.out.ce hC⟩)
      clear hC st11
      go_wp2_with fail
      go_roundw
      case rel => exact ⟨j + 1, by omega, by go_num, HPB.out, HL7.out, HE7.out⟩
      case measure => simp [intOf]; omega
    · obtain rfl : j = E.length := by omega
      rw [Ro.cleanK_all] at hE
      obtain ⟨M, hM⟩ : ∃ M, M = Ro.clean E y := ⟨_, rfl⟩
      rw [← hM] at hE
      have hMl : M.length = E.length := by rw [hM]; exact Ro.clean_length E y
      have HML := Lib.hid hMl
      have HMU := Lib.hid (show Ro.Up k t M by rw [hM]; exact clean_up HR.out HN.out)
      have HMN := Lib.hid (show ∀ s, s ∈ M → lead s.1 ≠ lead y.1 by
        rw [hM]
        intro s hs
        obtain ⟨o, ho, rfl⟩ := Ro.clean_mem hs
        rw [clean_lead HR.out HN.out ho]; exact HN.out.ne ho)
      have HM := Lib.hid hM
      have HE := Lib.hid hE
      have hgv : (Value.slice va E.length vc).ownBlock ≠ some g := hE.2.1.ne_box hE.1 (by decide)
      have hgl := hE.1.lt
      have hvl := hE.2.1.lt
      have h4g : g4 ≠ g := fun e => K4.out.ne hE.1 (by decide) e
      have h4v : some g4 ≠ (Value.slice va E.length vc).ownBlock := fun e => by
        have h1 := HVL.out g4 e.symm
        have h2 := hz4.out
        omega
      have HPL := Lib.hid (show ∀ wc, IsE wc B0 g (.slice va E.length vc) k t M → Calls Try.prog 66 #[.pointer (some ⟨g, 0, none⟩), .int .i64 (lead y.1 : Int)] wc fun e w' => e = .returned (.int .i64 (Ro.ahead M y : Int)) ∧ Below wc.heap.size wc w' from fun wc h => (place_any g B0 k t _ M _ wc h (by rw [HML.out]; exact hlen)).mono fun e w' ⟨r, he, ⟨h1, h2, h3⟩, hb⟩ => ⟨by
          rw [he, ahead_found HMU.out HMN.out h1 (fun h0 => fun h4 => by have := h2 h0; omega) (fun h0 => by have := h3 h0; omega)], hb⟩)
      have hal : Ro.ahead M y ≤ M.length := Ro.ahead_le M y
      clear hE hM hMl
      go_wp2_with fail
      have hC0 : Cf wr g k t (.slice va E.length vc) wr.drew := ⟨Past.of_below _ _ (Below.refl _ _).drew, _, _, _, HE.out.1.go (Below.refl _ _).drew⟩
      have hpr0 : IsE wr.drew B0 g (.slice va E.length vc) k t M := HE.out.go (Below.refl _ _).drew
      have k4 : ∀ wc, Cf wr g k t (.slice va E.length vc) wc → Blk wc g4 #[.slice x4 y.1.length y4, .slice z4 y.2.length u4, .int .i64 (lead y.1 : Int)] 102 := fun wc hc => by
        have h1 := K4.out
        unfold Blk at h1 ⊢
        rw [hc.1.block g4 K4.out.lt h4g h4v]; exact h1
      refine wp_region_mono (C := Cf wr g k t (.slice va E.length vc)) (R := Rb) (H := Hf g k t (.slice va E.length vc)) [TyF.val 34 (.pointer (some ⟨g, 0, none⟩)), TyF.val 35 (.pointer (some ⟨g, 0, none⟩)), TyF.val 36 (.pointer (some ⟨g, 0, none⟩)), TyF.val 37 (.pointer (some ⟨g, 2, none⟩)), (TyF.reads B0 M 38 (.slice va E.length vc)), TyF.val 39 (.pointer (some ⟨g, 0, none⟩)), TyF.val 40 (.pointer (some ⟨g4, 2, none⟩)), TyF.val 41 (.int .i64 (lead y.1 : Int)), (TyF.reads B0 M 42 (.int .i64 (Ro.ahead M y : Int))), TyF.val 43 (.agg #[.slice x4 y.1.length y4, .slice z4 y.2.length u4, .int .i64 (lead y.1 : Int)]), (TyF.one1 hgl hvl 44 y), (TyF.newl B0 M (M.take (Ro.ahead M y) ++ y :: M.drop (Ro.ahead M y)) 45), TyF.val 46 (.pointer (some ⟨g, 0, none⟩)), TyF.val 47 (.pointer (some ⟨g, 2, none⟩)), (TyF.done B0 (M.take (Ro.ahead M y) ++ y :: M.drop (Ro.ahead M y)))] (by kernel_rfl) (hC_f wr g k t (.slice va E.length vc)) (hCH_f wr g k t (.slice va E.length vc) hgv) (hC0) ⟨trivial, trivial, trivial, trivial, (hpr0), trivial, trivial, trivial, (hpr0), trivial, trivial, (hpr0), trivial, trivial, trivial, trivial⟩ (by kernel_rfl) ?_ ?_
      · refine ⟨?_, ?_, ?_, ?_, ?_, ?_, ?_, ?_, ?_, ?_, ?_, ?_, ?_, ?_, ?_, trivial⟩
        · intro ac wc hC hsz hfr hd hpr
          have d0 : ac.eval (.tmp 0) = (.pointer (some ⟨g, 0, none⟩)) := hfr 0 rfl
          rw [if_pos (wanted_none rfl)]
          exact ob_copy rfl rfl rfl (Nat.lt_of_lt_of_eq (by decide : 34 < 48) hsz.symm) (Or.inl rfl) (Below.refl _ _) d0
        · intro ac wc hC hsz hfr hd hpr
          have d0 : ac.eval (.tmp 0) = (.pointer (some ⟨g, 0, none⟩)) := hfr 0 rfl
          rw [if_pos (wanted_none rfl)]
          exact ob_copy rfl rfl rfl (Nat.lt_of_lt_of_eq (by decide : 35 < 48) hsz.symm) (Or.inl rfl) (Below.refl _ _) d0
        · intro ac wc hC hsz hfr hd hpr
          have d35 : ac.eval (.tmp 35) = (.pointer (some ⟨g, 0, none⟩)) := hd 1 rfl
          rw [if_pos (wanted_none rfl)]
          exact ob_nil rfl rfl rfl (Nat.lt_of_lt_of_eq (by decide : 36 < 48) hsz.symm) rfl d35 (Below.refl _ _) rfl
        · intro ac wc hC hsz hfr hd hpr
          have d36 : ac.eval (.tmp 36) = (.pointer (some ⟨g, 0, none⟩)) := hd 2 rfl
          rw [if_pos (wanted_none rfl)]
          exact ob_field _ rfl rfl rfl (Nat.lt_of_lt_of_eq (by decide : 37 < 48) hsz.symm) rfl d36 (fun w => by go_simp) (Below.refl _ _) rfl
        · intro ac wc hC hsz hfr hd hpr
          have d37 : ac.eval (.tmp 37) = (.pointer (some ⟨g, 2, none⟩)) := hd 3 rfl
          rw [if_pos (wanted_none rfl)]
          have hlt : 38 < ac.tmps.size := (Nat.lt_of_lt_of_eq (by decide : 38 < 48) hsz.symm)
          exact ob_load _ rfl rfl rfl hlt rfl d37 (load_leds hpr.c2) (Below.refl _ _) rfl
        · intro ac wc hC hsz hfr hd hpr
          have d0 : ac.eval (.tmp 0) = (.pointer (some ⟨g, 0, none⟩)) := hfr 0 rfl
          rw [if_pos (wanted_none rfl)]
          exact ob_copy rfl rfl rfl (Nat.lt_of_lt_of_eq (by decide : 39 < 48) hsz.symm) (Or.inl rfl) (Below.refl _ _) d0
        · intro ac wc hC hsz hfr hd hpr
          have d4 : ac.eval (.tmp 4) = (.pointer (some ⟨g4, 0, none⟩)) := hfr 4 rfl
          rw [if_pos (wanted_none rfl)]
          exact ob_field _ rfl rfl rfl (Nat.lt_of_lt_of_eq (by decide : 40 < 48) hsz.symm) rfl d4 (fun w => by go_simp) (Below.refl _ _) rfl
        · intro ac wc hC hsz hfr hd hpr
          have d40 : ac.eval (.tmp 40) = (.pointer (some ⟨g4, 2, none⟩)) := hd 6 rfl
          rw [if_pos (wanted_none rfl)]
          exact ob_load _ rfl rfl rfl (Nat.lt_of_lt_of_eq (by decide : 41 < 48) hsz.symm) rfl d40 (load_int ((k4 wc hC).cell 2)) (Below.refl _ _) rfl
        · intro ac wc hC hsz hfr hd hpr
          have d39 : ac.eval (.tmp 39) = (.pointer (some ⟨g, 0, none⟩)) := hd 5 rfl
          have d41 : ac.eval (.tmp 41) = (.int .i64 (lead y.1 : Int)) := hd 7 rfl
          rw [if_pos (wanted_none rfl)]
          have hlt : 42 < ac.tmps.size := (Nat.lt_of_lt_of_eq (by decide : 42 < 48) hsz.symm)
          refine ob_call rfl rfl rfl hlt rfl (enter_of Try.func66 (by kernel_rfl) rfl) ?_
          show Calls Try.prog 66 #[ac.eval (.tmp 39), ac.eval (.tmp 41)] wc _
          rw [d39, d41]
          exact (HPL.out wc hpr).mono fun _ _ ⟨he, hb⟩ => ⟨_, he, rfl, hb⟩
        · intro ac wc hC hsz hfr hd hpr
          have d4 : ac.eval (.tmp 4) = (.pointer (some ⟨g4, 0, none⟩)) := hfr 4 rfl
          rw [if_pos (wanted_none rfl)]
          exact ob_load _ rfl rfl rfl (Nat.lt_of_lt_of_eq (by decide : 43 < 48) hsz.symm) rfl d4 (load_led0 (k4 wc hC)) (Below.refl _ _) rfl
        · intro ac wc hC hsz hfr hd hpr
          have d43 : ac.eval (.tmp 43) = (.agg #[.slice x4 y.1.length y4, .slice z4 y.2.length u4, .int .i64 (lead y.1 : Int)]) := hd 9 rfl
          rw [if_pos (wanted_none rfl)]
          have hlt : 44 < ac.tmps.size := (Nat.lt_of_lt_of_eq (by decide : 44 < 48) hsz.symm)
          exact ob_slice1 _ _ rfl rfl rfl hlt rfl d43 build_sl1 ((Below.refl _ _).alloc (Nat.le_refl _) _) ⟨_, _, _, _, _, rfl, hC.1.size, Blk.new _ _ _ _ rfl, (RB.out.1.soft hC.1.soft).go ((Below.refl _ _).alloc (Nat.le_refl _) _), (RB.out.2.soft hC.1.soft).go ((Below.refl _ _).alloc (Nat.le_refl _) _)⟩
        · intro ac wc hC hsz hfr hd hpr
          have d38 : (ac.eval (.tmp 38)) = (.slice va E.length vc) := hd 4 rfl
          have d42 : (ac.eval (.tmp 42)) = (.int .i64 (Ro.ahead M y : Int)) := hd 8 rfl
          have d44 : One1 wr wc (ac.eval (.tmp 44)) y := hd 10 rfl
          rw [if_pos (wanted_none rfl)]
          have hlt : 45 < ac.tmps.size := (Nat.lt_of_lt_of_eq (by decide : 45 < 48) hsz.symm)
          obtain ⟨vb, xa, xc, ya, yc, e44, hvb, hkb, hb1, hb2⟩ := d44
          refine ob_callH rfl rfl rfl hlt rfl (enter_of Try.func65 (by kernel_rfl) rfl) ?_
          show Calls Try.prog 65 #[ac.eval (.tmp 38), ac.eval (.tmp 42), ac.eval (.tmp 44)] wc _
          rw [d38, d42, e44]
          exact (insled_any _ _ _ M (Ro.ahead M y) vb B0 y wc hpr.2.1 hal hkb hb1 hb2 (fun e => absurd (hvl vb e) (by omega)) (Nat.le_trans hpr.2.2 (Nat.le_of_lt hpr.1.lt)) (by have := HML.out; omega)).mono fun e w' ⟨v', he, ho, hg, hs, hn⟩ => ⟨v', he, ⟨ho, Near.trans (Near.same _ rfl) hn hC.1.size⟩, (by unfold Hf; rw [if_neg (by decide)]; exact ⟨hg, hs⟩)⟩
        · intro ac wc hC hsz hfr hd hpr
          have d34 : ac.eval (.tmp 34) = (.pointer (some ⟨g, 0, none⟩)) := hd 0 rfl
          rw [if_pos (wanted_none rfl)]
          exact ob_nil rfl rfl rfl (Nat.lt_of_lt_of_eq (by decide : 46 < 48) hsz.symm) rfl d34 (Below.refl _ _) rfl
        · intro ac wc hC hsz hfr hd hpr
          have d46 : ac.eval (.tmp 46) = (.pointer (some ⟨g, 0, none⟩)) := hd 12 rfl
          rw [if_pos (wanted_none rfl)]
          exact ob_field _ rfl rfl rfl (Nat.lt_of_lt_of_eq (by decide : 47 < 48) hsz.symm) rfl d46 (fun w => by go_simp) (Below.refl _ _) rfl
        · intro ac wc hC hsz hfr hd hpr
          have d47 : ac.eval (.tmp 47) = (.pointer (some ⟨g, 2, none⟩)) := hd 13 rfl
          have d45 : Newl wr wc B0 (.slice va E.length vc) (M.take (Ro.ahead M y) ++ y :: M.drop (Ro.ahead M y)) (ac.eval (.tmp 45)) := hd 11 rfl
          rw [if_pos (wanted_none rfl)]
          have hlt : 0 < ac.tmps.size := (Nat.lt_of_lt_of_eq (by decide : 0 < 48) hsz.symm)
          exact ob_store_sys rfl d47 d45 hC hpr0.2.2
      intro a' W7 hC hdef hsz hfr hd
      have e34 : a'.eval (.tmp 34) = (.pointer (some ⟨g, 0, none⟩)) := hd 0 (by decide)
      have e35 : a'.eval (.tmp 35) = (.pointer (some ⟨g, 0, none⟩)) := hd 1 (by decide)
      have e36 : a'.eval (.tmp 36) = (.pointer (some ⟨g, 0, none⟩)) := hd 2 (by decide)
      have e37 : a'.eval (.tmp 37) = (.pointer (some ⟨g, 2, none⟩)) := hd 3 (by decide)
      obtain ⟨x38, e38, r38⟩ : ∃ xq_, a'.eval (.tmp 38) = xq_ ∧ (xq_) = (.slice va E.length vc) := ⟨_, rfl, hd 4 (by decide)⟩
      replace r38 := Lib.hid r38
      have e39 : a'.eval (.tmp 39) = (.pointer (some ⟨g, 0, none⟩)) := hd 5 (by decide)
      have e40 : a'.eval (.tmp 40) = (.pointer (some ⟨g4, 2, none⟩)) := hd 6 (by decide)
      have e41 : a'.eval (.tmp 41) = (.int .i64 (lead y.1 : Int)) := hd 7 (by decide)
      obtain ⟨x42, e42, r42⟩ : ∃ xq_, a'.eval (.tmp 42) = xq_ ∧ (xq_) = (.int .i64 (Ro.ahead M y : Int)) := ⟨_, rfl, hd 8 (by decide)⟩
      replace r42 := Lib.hid r42
      have e43 : a'.eval (.tmp 43) = (.agg #[.slice x4 y.1.length y4, .slice z4 y.2.length u4, .int .i64 (lead y.1 : Int)]) := hd 9 (by decide)
      obtain ⟨x44, e44, r44⟩ : ∃ xq_, a'.eval (.tmp 44) = xq_ ∧ One1 wr W7 (xq_) y := ⟨_, rfl, hd 10 (by decide)⟩
      replace r44 := Lib.hid r44
      obtain ⟨x45, e45, r45⟩ : ∃ xq_, a'.eval (.tmp 45) = xq_ ∧ Newl wr W7 B0 (.slice va E.length vc) (M.take (Ro.ahead M y) ++ y :: M.drop (Ro.ahead M y)) (xq_) := ⟨_, rfl, hd 11 (by decide)⟩
      replace r45 := Lib.hid r45
      have e46 : a'.eval (.tmp 46) = (.pointer (some ⟨g, 0, none⟩)) := hd 12 (by decide)
      have e47 : a'.eval (.tmp 47) = (.pointer (some ⟨g, 2, none⟩)) := hd 13 (by decide)
      have st14 : ∃ u, IsE W7 B0 g u k t (M.take (Ro.ahead M y) ++ y :: M.drop (Ro.ahead M y)) ∧ Near wr (.slice va E.length vc) u := hd 14 (by decide)
      replace st14 := Lib.hid st14
      have hact := act_puts hdef hsz hfr
      simp only [dstsOf, List.filterMap, putAll, Act.put, List.setIfInBounds_toArray, List.set_cons_succ, List.set_cons_zero, e34, e35, e36, e37, e38, e39, e40, e41, e42, e43, e44, e45, e46, e47] at hact
      clear hd hfr hsz hdef e34 e35 e36 e37 e38 e39 e40 e41 e42 e43 e44 e45 e46 e47
      subst hact
      obtain ⟨ur, hur, hnr⟩ := st14.out
      have HFIN := Lib.hid (show IsE W7 B0 g ur k t (Ro.put (Ro.clean E y) y) by unfold Ro.put; rw [← HM.out]; exact hur)
      have HPQ := Lib.hid (HPA.out.trans hC.1)
      have HNR := Lib.hid (Near.trans (Near.same w rfl) hnr HPA.out.size)
      clear hur hnr st14 hC
      go_wp2_with fail
      go_end0
      exact ⟨ur, rfl, HFIN.out, HPQ.out, HNR.out⟩


end Go.Proofs.Ytphdadibfeencaa
