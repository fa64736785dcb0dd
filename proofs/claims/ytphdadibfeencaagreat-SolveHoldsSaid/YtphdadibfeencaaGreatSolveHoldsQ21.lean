/- Texts of one seat, laid together: NatA, MonoW, NatB, TextMath, NatL, NatE. -/
import Derived.Test.YtphdadibfeencaaGreatSolveHoldsQ20
import Derived.Test.YtphdadibfeencaaGreatSolveHoldsQ6
import Derived.Lib.ItoaNum
import Derived.BigQuiet

/-
  The program's numbers (layer 6): 'trimmed', 'Of', 'word', 'tooGreat', 'digit', 'parts', 'Len'.
-/
set_option maxRecDepth 100000
namespace Go.Proofs.YtphdadibfeencaaGreat
open Go.RowKit

/-- The value is a number of the program's. -/
def IsNat (w : World) (u : Value) (n : Nat) : Prop := ∃ v, u = .agg #[v] ∧ Words w v (Wt.dg n)
theorem Words.go {w w' : World} {v : Value} {l : List Nat} (h : Words w v l) (hb : Below w.heap.size w w') : Words w' v l := h.below (Nat.le_refl _) hb
theorem IsNat.go {w w' : World} {u : Value} {n : Nat} (h : IsNat w u n) (hb : Below w.heap.size w w') : IsNat w' u n := by
  obtain ⟨v, e, h⟩ := h
  exact ⟨v, e, h.go hb⟩
theorem OwnW.go {w w' : World} {g : Nat} {l : List Nat} (h : OwnW w g l) (hb : Below w.heap.size w w') : OwnW w' g l := h.below h.lt hb
/-- What a call answers: a number; a number and an error's. -/
def NatV (w : World) (n : Nat) (e : Ending) (w' : World) : Prop := ∃ u, e = .returned u ∧ IsNat w' u n ∧ Below w.heap.size w w'
def NatE (w : World) (n : Nat) (err : Int) (e : Ending) (w' : World) : Prop := ∃ u, e = .returned (.tuple #[u, I64 err]) ∧ IsNat w' u n ∧ Below w.heap.size w w'

/-- The words lie elsewhere than a block that holds none. -/
theorem Words.other {w w' : World} {v : Value} {l : List Nat} {g : Nat} {vs : Array Value} {T : TypeId} (h : Words w v l) (k : Blk w g vs T) (hno : ∀ (i x : Nat), vs[i]? ≠ some (U64 x)) (hg : w.grownBy w' (some g)) : Words w' v l := by
  have h0 := h
  obtain ⟨a, cap, rfl, h1, h2, h3, h4⟩ := h
  by_cases hl : l = []
  · subst hl
    exact ⟨a, cap, rfl, h1, h2, h3, fun e => absurd rfl e⟩
  · obtain ⟨b, off, rfl, hlt, hc⟩ := h4 hl
    refine h0.grown hg (Or.inr ?_)
    simp only [Value.ownBlock, ne_eq, Option.some.injEq]
    intro e
    subst e
    have hpos : 0 < l.length := List.length_pos_iff.2 hl
    have h5 := hc 0 hpos
    rw [k.cell] at h5
    exact hno _ _ h5

theorem no_words1 (a : Option Addr) (n c : Nat) : ∀ (i x : Nat), (#[.slice a n c] : Array Value)[i]? ≠ some (U64 x)
  | 0, _ => fun e => by simp at e
  | i + 1, _ => fun e => by simp at e

set_option maxHeartbeats 400000 in
theorem trimmed_none (a : Option Addr) (cap : Nat) (w : World) :
    Calls Tryz.prog 51 #[.slice a 0 cap] w fun e w' => e = .returned (.agg #[.slice a 0 cap]) ∧ Below w.heap.size w w' := by
  go_enter Tryz.func51, Tryz.ntmps51
  go_wp2_with fail
  obtain ⟨B, hk1, hs⟩ := blocks1 w #[.slice none 0 0] 40
  generalize (w.alloc (.cells #[.slice none 0 0] 40)) = W at *
  have K1 := Lib.hid hk1
  have HS := Lib.hid hs
  clear hs hk1
  have hzW := B.size
  refine wp_loop_rounds 1 ?_
  rw [rounds_succ]
  have hf0 := K1.out.free 0
  have h0 : W.cell? ⟨w.heap.size, 0, none⟩ = some (.slice none 0 0) := K1.out.cell 0
  go_wp2_with fail
  have e0 : ∀ v, (W.setCell ⟨w.heap.size, 0, none⟩ v).cell? ⟨w.heap.size, 0, none⟩ = some v := fun v => (K1.out.set 0 v).cell 0
  exact bodyPost_ret (v := .agg #[.slice a 0 cap]) (by simp [results, Tryz.results51, go_sem, e0]) rfl ⟨rfl, B.setCell (Nat.le_refl _) _⟩

set_option maxHeartbeats 400000 in
theorem trimmed_some (b off cap : Nat) (l : List Nat) (w : World) (hB : Words w (.slice (some ⟨b, off, none⟩) l.length cap) l) :
    Calls Tryz.prog 51 #[.slice (some ⟨b, off, none⟩) l.length cap] w fun e w' => e = .returned (.agg #[.slice (some ⟨b, off, none⟩) (Wt.tidied l).length cap]) ∧ (∃ k, k ≤ l.length ∧ l.take k = Wt.tidied l) ∧ Below w.heap.size w w' := by
  have HB := Lib.hid hB
  have HL := Lib.hid hB.lt
  obtain ⟨_, _, e, hc, hc2, _, _⟩ := hB
  cases e
  have HT := Lib.hid (fun k => Wt.tidied_of_take (k := k) HL.out)
  have HSV := Lib.hid (fun k => Wt.val_take_drop0 (l := l) k)
  go_enter Tryz.func51, Tryz.ntmps51
  go_wp2_with fail
  obtain ⟨B, hk1, hs⟩ := blocks1 w #[.slice none 0 0] 40
  generalize (w.alloc (.cells #[.slice none 0 0] 40)) = W at *
  have K1 := Lib.hid hk1
  have HS := Lib.hid hs
  clear hs hk1
  replace HB := Lib.hid (HB.out.go B)
  have hzW := B.size
  have hf0 := K1.out.free 0
  have h0 : W.cell? ⟨w.heap.size, 0, none⟩ = some (.slice none 0 0) := K1.out.cell 0
  have HE0 := Lib.hid (show ∀ v, (W.setCell ⟨w.heap.size, 0, none⟩ v).cell? ⟨w.heap.size, 0, none⟩ = some v from fun v => (K1.out.set 0 v).cell 0)
  go_loopw [3] (fun v wr => ∃ k : Nat, k ≤ l.length ∧ v = .int .i64 k ∧ Wt.val (l.take k) = Wt.val l ∧ wr = W) (fun v _ => (intOf v).toNat)
  case atStart => exact ⟨l.length, by omega, rfl, by rw [List.take_length], rfl⟩
  case round =>
    obtain ⟨k, hk, rfl, hv, rfl⟩ := hrel
    have HV := Lib.hid hv
    clear hv
    by_cases hk0 : k = 0
    · subst hk0
      have HE := Lib.hid (HT.out 0 HV.out (.inl rfl) hk)
      go_wp2_with fail
      refine bodyPost_ret (v := .agg #[.slice (some ⟨b, off, none⟩) 0 cap]) (by simp [results, Tryz.results51, go_sem, HE0.out]) rfl ⟨by rw [← HE.out]; rfl, ⟨0, by omega, HE.out⟩, B.setCell (Nat.le_refl _) _⟩
    · have hjl : k - 1 < l.length := by omega
      have hcell := HB.out.cell (k - 1) hjl
      have x1 := nth_ltW HL.out (k - 1)
      have HX := Lib.hid (show nth l (k - 1) = nth l (k - 1) from rfl)
      obtain ⟨x, hx⟩ : ∃ x, x = nth l (k - 1) := ⟨_, rfl⟩
      rw [← hx] at hcell x1
      replace HX := Lib.hid hx
      clear hx
      have hkI : (k : Int) ≤ 9223372036854775807 := by omega
      by_cases hx0 : x = 0
      · subst hx0
        have HV2 := Lib.hid (HSV.out (k - 1) hjl HX.out.symm (by rw [show k - 1 + 1 = k from by omega]; exact HV.out))
        go_wp2_with fail
        exact ⟨⟨k - 1, by omega, by go_num, HV2.out, by trivial⟩, by simp [intOf]; omega⟩
      · have HE := Lib.hid (HT.out k HV.out (.inr (by rw [← HX.out]; exact hx0)) hk)
        have hlen : (Wt.tidied l).length = k := by rw [← HE.out, List.length_take]; omega
        have HLN := Lib.hid hlen
        clear hlen
        go_wp2_with fail
        refine bodyPost_ret (v := .agg #[.slice (some ⟨b, off, none⟩) k cap]) (by simp [results, Tryz.results51, go_sem, HE0.out]) rfl ⟨by rw [HLN.out], ⟨k, hk, HE.out⟩, B.setCell (Nat.le_refl _) _⟩

/-- The number of words that may end with noughts. -/
theorem trimmed_any (v : Value) (l : List Nat) (w : World) (hB : Words w v l) :
    Calls Tryz.prog 51 #[v] w (NatV w (Wt.val l)) := by
  have hB0 := hB
  obtain ⟨a, cap, rfl, h1, h2, h3, h4⟩ := hB
  cases l with
  | nil =>
    refine (trimmed_none a cap w).mono ?_
    rintro e w' ⟨rfl, hb⟩
    refine ⟨_, rfl, ⟨_, rfl, ?_⟩, hb⟩
    rw [show Wt.dg (Wt.val []) = [] from Wt.dg_zero]
    exact hB0.go hb
  | cons x l =>
    obtain ⟨b, off, rfl, hlt, hc⟩ := h4 (by simp)
    refine (trimmed_some b off cap (x :: l) w hB0).mono ?_
    rintro e w' ⟨rfl, ⟨k, hk, ht⟩, hb⟩
    have hlen : (Wt.tidied (x :: l)).length = k := by rw [← ht, List.length_take]; omega
    refine ⟨_, rfl, ⟨_, rfl, Words.go (w := w) ⟨_, cap, rfl, by rw [show (Wt.dg (Wt.val (x :: l))).length = k from hlen]; omega, h2, fun y hy => h3 y (List.mem_of_mem_take (show y ∈ (x :: l).take k by rw [ht]; exact hy)), fun _ => ⟨b, off, rfl, hlt, fun i hi => ?_⟩⟩ hb⟩, hb⟩
    rw [hc i (by rw [show (Wt.dg (Wt.val (x :: l))).length = k from hlen] at hi; omega), show Wt.dg (Wt.val (x :: l)) = Wt.tidied (x :: l) from rfl, ← ht]
    rw [show (Wt.dg (Wt.val (x :: l))).length = k from hlen] at hi
    unfold nth
    rw [List.getD_eq_getElem?_getD, List.getD_eq_getElem?_getD, List.getElem?_take_of_lt (by omega)]

/-- A result's cell, stored: it holds the number then. -/
theorem nat_store {w2 : World} {g : Nat} {l : List Nat} {a : Option Addr} {n c : Nat} {T : TypeId} (k : Blk w2 g #[.slice none 0 0] T) (hv : Words w2 (.slice a n c) l) :
    (w2.setCell ⟨g, 0, none⟩ (.slice a n c)).cell? ⟨g, 0, none⟩ = some (.slice a n c) ∧ Words (w2.setCell ⟨g, 0, none⟩ (.slice a n c)) (.slice a n c) l :=
  ⟨(k.set 0 (.slice a n c)).cell 0, hv.other k (no_words1 none 0 0) (grown_setCell w2 ⟨g, 0, none⟩ _)⟩

/-- What a number's value looks like. -/
theorem IsNat.shape {w : World} {u : Value} {n : Nat} (h : IsNat w u n) : ∃ a c, u = .agg #[.slice a (Wt.dg n).length c] ∧ Words w (.slice a (Wt.dg n).length c) (Wt.dg n) ∧ (Wt.dg n).length ≤ 9223372036854775807 ∧ ((Wt.dg n).length ≠ 0 → ∃ b off, a = some ⟨b, off, none⟩) := by
  obtain ⟨v, rfl, hv⟩ := h
  have hv0 := hv
  obtain ⟨a, c, rfl, h1, h2, _, h4⟩ := hv
  refine ⟨a, c, rfl, hv0, by omega, fun hne => ?_⟩
  obtain ⟨b, off, e, _⟩ := h4 (by intro e; rw [e] at hne; exact hne rfl)
  exact ⟨b, off, e⟩

theorem val_single (n : Nat) : Wt.val [n] = n := by simp [Wt.val]

set_option maxHeartbeats 400000 in
theorem natof_any (n : Nat) (w : World) (hn : n < 18446744073709551616) :
    Calls Tryz.prog 27 #[U64 n] w (NatV w n) := by
  have HN := Lib.hid (show ∀ x, x ∈ [n] → x < 18446744073709551616 by intro x hx; simp at hx; omega)
  clear hn
  go_enter Tryz.func27, Tryz.ntmps27
  go_wp2_with fail
  obtain ⟨B, hk1, hk2, hs⟩ := blocks2 w #[.slice none 0 0] 40 #[U64 n] 70
  generalize ((w.alloc (.cells #[.slice none 0 0] 40)).alloc (.cells #[U64 n] 70)) = W at *
  have K1 := Lib.hid hk1
  have K2 := Lib.hid hk2
  have HS := Lib.hid hs
  clear hs hk1 hk2
  have hzW := B.size
  have HW := Lib.hid (show Words W (.slice (some ⟨w.heap.size + 1, 0, none⟩) 1 1) [n] from OwnW.words (g := w.heap.size + 1) (l := [n]) K2.out HN.out (by show 1 ≤ 9223372036854775807; decide))
  refine (trimmed_any _ _ _ HW.out).mono ?_
  rintro e w2 ⟨u, rfl, hu, hb⟩
  rw [val_single] at hu
  have HU := Lib.hid hu
  have B2 := B.trans (hb.mono B.size)
  have k1 := K1.out.go hb
  obtain ⟨a, c, rfl, hv, _⟩ := hu.shape
  have hf0 := k1.free 0
  have h0 : w2.cell? ⟨w.heap.size, 0, none⟩ = some (.slice none 0 0) := k1.cell 0
  have HS2 := Lib.hid (nat_store k1 hv)
  clear hv hb hu HU
  generalize (Wt.dg n).length = m at *
  go_wp2_with fail
  exact bodyPost_ret (v := .agg #[.slice a m c]) (by simp [results, Tryz.results27, go_sem, HS2.out.1]) rfl ⟨_, rfl, ⟨_, rfl, HS2.out.2⟩, B2.setCell (Nat.le_refl _) _⟩

set_option maxHeartbeats 400000 in
theorem word_any (u : Value) (n i : Nat) (w : World) (hU : IsNat w u n) :
    Calls Tryz.prog 55 #[u, .int .i64 i] w fun e w' => e = .returned (U64 (nth (Wt.dg n) i)) ∧ Below w.heap.size w w' := by
  obtain ⟨a, c, rfl, hw, hl, ha⟩ := hU.shape
  have HW := Lib.hid hw
  have HO := Lib.hid (Wt.nth_over (Wt.dg n) i)
  have HL := Lib.hid (nth_ltW hw.lt i)
  clear hw hU
  generalize Wt.dg n = l at *
  by_cases hi : i < l.length
  · obtain ⟨b, off, rfl⟩ := ha (by omega)
    have hiI : ¬ (l.length : Int) ≤ (i : Int) := by omega
    clear ha
    have hcell := HW.out.cell i hi
    have hbl : b < w.heap.size := World.block_lt_of_cell? w _ hcell
    go_enter Tryz.func55, Tryz.ntmps55
    go_wp2_with fail
    go_ret
    exact ⟨rfl, (Below.refl _ _).alloc (Nat.le_refl _) _⟩
  · have HZ := Lib.hid (HO.out (by omega))
    have hiI : (l.length : Int) ≤ (i : Int) := by omega
    clear ha
    go_enter Tryz.func55, Tryz.ntmps55
    go_wp2_with fail
    go_ret
    exact ⟨by rw [HZ.out]; rfl, (Below.refl _ _).alloc (Nat.le_refl _) _⟩

set_option maxHeartbeats 400000 in
theorem toogreat_any (u : Value) (n : Nat) (w : World) (hU : IsNat w u n) :
    Calls Tryz.prog 53 #[u] w fun e w' => e = .returned (.bool (decide (512 < ((Wt.dg n).length : Int)))) ∧ Below w.heap.size w w' := by
  obtain ⟨a, c, rfl, hw, hl, ha⟩ := hU.shape
  clear hw hU ha
  generalize Wt.dg n = l at *
  go_enter Tryz.func53, Tryz.ntmps53
  go_wp2_with fail
  go_ret
  exact ⟨rfl, (Below.refl _ _).alloc (Nat.le_refl _) _⟩

end Go.Proofs.YtphdadibfeencaaGreat

/-
  A region that draws its order and writes one block of words that the call made itself.
-/
set_option maxRecDepth 100000
namespace Go.Proofs.YtphdadibfeencaaGreat
open Go.RowKit

/-- The worlds behind W in which of what was there nothing has turned but block g. -/
abbrev Cg (W : World) (g : Nat) : World → Prop := fun w => W.grownBy w (some g)
theorem hC_g (W : World) (g : Nat) : ∀ w w', Cg W g w → Rb w w' → Cg W g w' := fun _ _ h h' => grown_trans h (grown_of_below h' _)
theorem drew_g (W : World) (g : Nat) : Cg W g W.drew := grown_of_below ((Below.refl _ _).drew) _

variable {W : World} {g : Nat}
/-- Words elsewhere than block g are as they were. -/
theorem Words.cg {w : World} {v : Value} {l : List Nat} (h : Words W v l) (hC : Cg W g w) (hg : l = [] ∨ v.ownBlock ≠ some g) : Words w v l := by
  rcases hg with rfl | hg
  · obtain ⟨a, cap, rfl, h1, h2, h3, h4⟩ := h
    exact ⟨a, cap, rfl, h1, h2, h3, fun e => absurd rfl e⟩
  · exact h.grown hC (.inr hg)
theorem Words.cg' {w : World} {a : Option Addr} {n c : Nat} {l : List Nat} (h : Words W (.slice a n c) l) (hC : Cg W g w) (hg : ∀ b off, a = some ⟨b, off, none⟩ → l.length ≠ 0 → b ≠ g) : Words w (.slice a n c) l := by
  refine h.cg hC ?_
  by_cases hl : l = []
  · exact .inl hl
  · obtain ⟨a', c', e, _, _, _, h4⟩ := h
    obtain ⟨b, off, rfl, _⟩ := h4 hl
    simp only [Value.slice.injEq] at e
    obtain ⟨rfl, _⟩ := e
    right
    have := hg b off rfl (by simp [hl])
    simp [Value.ownBlock]; exact this
theorem Blk.cg {w : World} {b : Nat} {vs : Array Value} {T : TypeId} (h : Blk W b vs T) (hC : Cg W g w) (hg : b ≠ g) : Blk w b vs T := h.grown hC (by simpa using hg)

section
variable {P : Program} {C : World → Prop} {R : World → World → Prop} {H : Nat → World → World → Prop} {a : Act} {w : World} {o : Oper} {Q : Exit → Act → World → Prop}
/-- A slice of a slice, from a place on. -/
theorem ob_slice {T : Ty C R H} {t : Tmp} {x y : Operand} {E : TypeId} {p q : Value} (v : Value) (hS : T.S = [t]) (hh : T.kind = none) (hd : o.dst = some t) (hlt : t < a.tmps.size) (hop : o.op = .slice E x (some y) none none) (hx : a.eval x = p) (hy : a.eval y = q)
    (hrun : (Instr.sliceAt E p (some q) none none).run P w = .ok v w) (hR : R w w) (hF : T.F [v] w) : Done P T Q o a w := by
  refine ob_value v w hS hh hd hlt ?_ hR hF
  simp [execOp, hop, hx, hy, hrun]
/-- A call that writes. -/
theorem ob_callW {T : Ty C R H} {t : Tmp} {c : Nat} {f : FuncId} {args : Array Operand} {ats : Array TypeId} (hS : T.S = [t]) (hh : T.kind = some c) (hd : o.dst = some t) (hlt : t < a.tmps.size)
    (hop : o.op = .call { callee := .value (.func f), args := args, argTypes := ats }) (hen : ∀ (vs : Array Value) (w : World), (callFunc f vs).run P w = .ok (.enter f vs) w)
    (hc : Calls P f (args.toList.map a.eval).toArray w fun e w' => ∃ v, e = .returned v ∧ T.F [v] w' ∧ H c w w') : Done P T Q o a w := by
  have e0 : args.map a.eval = (args.toList.map a.eval).toArray := by rw [← Array.toList_map, Array.toArray_toList]
  have hrun : (execOp a.eval o).run P w = .ok (.enter f (args.toList.map a.eval).toArray) w := by
    rw [← e0]
    simp [execOp, hop, resolve, invoke, Act.eval, Deferred.ofValue, hen]
  unfold Done Oper.wp
  rw [hrun]
  refine hc.mono ?_
  rintro e w' ⟨v, rfl, hF, hH⟩
  refine ⟨v, rfl, by unfold stepR; rw [hh]; exact hH, ?_⟩
  rw [hS, List.map_cons, List.map_nil, hd, eval_put_eq hlt]
  exact hF
end

/-- A step of a region that writes block g twice, first by a call. -/
abbrev H2 (g : Nat) (o1 o2 : List Nat) : Nat → World → World → Prop := fun c w w' => w.grownBy w' (some g) ∧ OwnW w' g (if c = 0 then o1 else o2)
theorem hCH_2 (W : World) (g : Nat) (o1 o2 : List Nat) : ∀ (c : Nat) w w', Cg W g w → H2 g o1 o2 c w w' → Cg W g w' := fun _ _ _ h h' => grown_trans h h'.1
section
variable {W : World} {g : Nat} {o1 o2 : List Nat}
/-- The call: its value, and what the block holds from then on. -/
def Ty.callsW (t : Tmp) (v : Value) (o0 : List Nat) : Ty (Cg W g) Rb (H2 g o1 o2) :=
  ⟨[t], fun vs w => vs.headD undef = v ∧ (OwnW w g o1 ∨ OwnW w g o2), some 0, fun _ => true, fun _ _ _ _ h2 h3 => ⟨h3.1, h3.2.imp (fun h => OwnW.go h h2) (fun h => OwnW.go h h2)⟩,
    (fun c _ _ _ _ _ h2 h3 => ⟨h3.1, by
      have h := h2.2
      by_cases hc : c = 0
      · rw [if_pos hc] at h; exact .inl h
      · rw [if_neg hc] at h; exact .inr h⟩), fun w => OwnW w g o0, fun _ => false, fun _ _ _ h2 h3 => OwnW.go h3 h2, (fun _ e => by cases e)⟩
/-- The store behind it. -/
def Ty.store2W : Ty (Cg W g) Rb (H2 g o1 o2) :=
  ⟨[], fun _ w => OwnW w g o2, some 1, fun _ => false, fun _ _ _ _ h2 h3 => OwnW.go h3 h2, (fun _ e => by cases e), fun _ => True, fun _ => true, fun _ _ _ _ _ => trivial, (fun _ _ _ _ _ _ _ => trivial)⟩
end

theorem slice_from {g n i : Nat} (w : World) (hi : i < n) : (Instr.sliceAt 38 (whole g n) (some (.int .i64 (i : Int))) none none).run Tryz.prog w = .ok (.slice (some ⟨g, i, none⟩) (n - i) (n - i)) w := by
  have h1 : (i : Int) ≤ (n : Int) := by omega
  have h0 : (0 : Int) ≤ (i : Int) := Int.natCast_nonneg _
  have h2 : ¬ n = i := by omega
  go_simp
theorem add_int {x y : Operand} {a b c : Nat} (h : a + b = c) (hc : c ≤ 9223372036854775807) (w : World) : (do eqGuard .add 3 x y (.int .i64 a) (.int .i64 b); binOp .add 3 (.int .i64 a) (.int .i64 b) : Sem Value).run Tryz.prog w = .ok (.int .i64 c) w := by
  have h1 : (a : Int) + (b : Int) = (c : Int) := by omega
  have h2 : (c : Int) ≤ 9223372036854775807 := by omega
  go_simp
  rw [IntKind.wrap_i64]; omega

theorem index_words {g off n c k : Nat} (w : World) (hk : k < n) : (Instr.indexAt 38 (.slice (some ⟨g, off, none⟩) n c) (.int .i64 (k : Int))).run Tryz.prog w = .ok (.pointer (some ⟨g, off + k, none⟩)) w := by
  have h1 : (k : Int) < (n : Int) := by omega
  have h0 : (0 : Int) ≤ (k : Int) := Int.natCast_nonneg _
  go_simp
theorem index_whole {g n k : Nat} (w : World) (hk : k < n) : (Instr.indexAt 38 (whole g n) (.int .i64 (k : Int))).run Tryz.prog w = .ok (.pointer (some ⟨g, k, none⟩)) w := by
  have h := index_words (g := g) (off := 0) (n := n) (c := n) (k := k) w hk
  rw [Nat.zero_add] at h
  exact h
theorem field_nat (g : Nat) (w : World) : (Instr.fieldAt 40 (.pointer (some ⟨g, 0, none⟩)) 0).run Tryz.prog w = .ok (.pointer (some ⟨g, 0, none⟩)) w := by
  go_simp
theorem load_words {w : World} {g k : Nat} {v : Value} (h : w.cell? ⟨g, k, none⟩ = some v) : (Instr.loadAt 38 (.pointer (some ⟨g, k, none⟩))).run Tryz.prog w = .ok v w := by
  go_simp
theorem store_u64 {w : World} {g k x y : Nat} (h : w.cell? ⟨g, k, none⟩ = some (U64 y)) (hf : w.frozen? ⟨g, k, none⟩ = false) : (Instr.storeAt 70 (.pointer (some ⟨g, k, none⟩)) (U64 x)).run Tryz.prog w = .ok () (w.setCell ⟨g, k, none⟩ (U64 x)) := by
  go_simp
theorem len_words {ty : TypeId} (ad : Option Addr) (n c : Nat) (w : World) : (Builtin.len_ #[38] ty #[.slice ad n c]).run Tryz.prog w = .ok (.int .i64 n) w := by go_simp

end Go.Proofs.YtphdadibfeencaaGreat

/-
  The program's numbers (layer 6): 'digit', 'parts', 'Len'.
-/
set_option maxRecDepth 100000
namespace Go.Proofs.YtphdadibfeencaaGreat
open Go.RowKit

theorem word_at {l : List Nat} (hl : ∀ x, x ∈ l → x < 18446744073709551616) (i : Nat) : Wt.val l / 18446744073709551616 ^ i % 18446744073709551616 = nth l i := by
  induction l generalizing i with
  | nil => simp [Wt.val, nth]
  | cons x l ih =>
    have hx := hl x (by simp)
    cases i with
    | zero => show (x + 18446744073709551616 * Wt.val l) / 18446744073709551616 ^ 0 % 18446744073709551616 = x; simp; omega
    | succ i =>
      rw [Wt.nth_cons, ← ih (fun y hy => hl y (by simp [hy])) i, Nat.pow_succ, Nat.mul_comm, ← Nat.div_div_eq_div_mul]
      show (x + 18446744073709551616 * Wt.val l) / 18446744073709551616 / 18446744073709551616 ^ i % 18446744073709551616 = _
      rw [show (x + 18446744073709551616 * Wt.val l) / 18446744073709551616 = Wt.val l from by omega]

theorem word_of (n i : Nat) : nth (Wt.dg n) i = n / 18446744073709551616 ^ i % 18446744073709551616 := by
  rw [← word_at (Wt.dg_lt n) i, Wt.val_dg]

theorem digit_math (n q r : Nat) (hr : r < 16) : nth (Wt.dg n) q / 2 ^ (4 * r) % 16 = n / 16 ^ (16 * q + r) % 16 := by
  rw [word_of, Nat.pow_add, ← Nat.div_div_eq_div_mul, Nat.pow_mul 16 16 q, show (16 : Nat) ^ 16 = 18446744073709551616 from by decide, Nat.pow_mul 2 4 r]
  show _ / 16 ^ r % 16 = _ / 16 ^ r % 16
  generalize n / 18446744073709551616 ^ q = m
  have e : (18446744073709551616 : Nat) = 16 ^ r * 16 ^ (16 - r) := by rw [← Nat.pow_add, show r + (16 - r) = 16 from by omega]
  rw [e, Nat.mod_mul_right_div_self, Nat.mod_mod_of_dvd]
  exact ⟨16 ^ (15 - r), by rw [show 16 - r = (15 - r) + 1 from by omega, Nat.pow_succ, Nat.mul_comm]⟩

theorem and15_spell (x k : Nat) (hx : x < 18446744073709551616) : Go.bits BinOp.and IntKind.u64 ((x : Int) / 2 ^ k) 15 = ((x / 2 ^ k % 16 : Nat) : Int) := by
  rw [show ((x : Int) / 2 ^ k) = ((x / 2 ^ k : Nat) : Int) by simp, show (15 : Int) = ((15 : Nat) : Int) from rfl, u64_and_nat _ _ (Nat.lt_of_le_of_lt (Nat.div_le_self _ _) hx) (by decide), show (15 : Nat) = 2 ^ 4 - 1 from rfl, Nat.and_two_pow_sub_one_eq_mod]

set_option maxHeartbeats 400000 in
theorem natdigit_any (u : Value) (n i : Nat) (w : World) (hi : i ≤ 9223372036854775807) (hU : IsNat w u n) :
    Calls Tryz.prog 31 #[u, .int .i64 i] w fun e w' => e = .returned (U64 (n / 16 ^ i % 16)) ∧ Below w.heap.size w w' := by
  obtain ⟨q, hq⟩ : ∃ q : Nat, q = i / 16 := ⟨_, rfl⟩
  obtain ⟨r, hr⟩ : ∃ r : Nat, r = i % 16 := ⟨_, rfl⟩
  have HD := Lib.hid (show nth (Wt.dg n) q / 2 ^ (4 * r) % 16 = n / 16 ^ i % 16 by
    rw [digit_math n q r (by omega), show 16 * q + r = i from by omega])
  have hqI : (i : Int) / 16 = (q : Int) := by omega
  have hrI : (i : Int) % 16 = (r : Int) := by omega
  have hr16 : r < 16 := by omega
  have HL := Lib.hid (nth_ltW (Wt.dg_lt n) q)
  have HU := Lib.hid hU
  obtain ⟨a, c, rfl, hw, hl, ha⟩ := hU.shape
  have HB := Lib.hid (blocks1 w #[.slice a (Wt.dg n).length c] 40).1
  clear hq hr hU hw ha
  go_enter Tryz.func31, Tryz.ntmps31
  go_wp2_with fail
  refine (word_any _ n q _ (HU.out.go HB.out)).mono ?_
  rintro e w2 ⟨rfl, hb⟩
  have B2 := HB.out.trans (hb.mono HB.out.size)
  have HX := Lib.hid (and15_spell (nth (Wt.dg n) q) (4 * r) HL.out)
  have hl0 := HL.out
  generalize nth (Wt.dg n) q = x at *
  clear hb
  go_wp2_with fail
  go_ret
  exact ⟨ret_u64 (by rw [HX.out, HD.out]), B2⟩

/-- How many bits a number has. -/
def bitsN (n : Nat) : Nat := if (Wt.dg n).length = 0 then 0 else 64 * ((Wt.dg n).length - 1) + Lib.bitLen (nth (Wt.dg n) ((Wt.dg n).length - 1))
def partsN (n k : Nat) : Nat := (bitsN n + k - 1) / k

theorem top_split {n m : Nat} (hm : (Wt.dg n).length = m + 1) : n = Wt.low (Wt.dg n) m + 18446744073709551616 ^ m * nth (Wt.dg n) m ∧ nth (Wt.dg n) m ≠ 0 := by
  have h := Wt.low_succ (Wt.dg n) m
  rw [Wt.low_all (show (Wt.dg n).length ≤ m + 1 by omega), Wt.val_dg] at h
  refine ⟨h, ?_⟩
  rcases Wt.dg_tidy n with h1 | h1
  · rw [h1] at hm; simp at hm
  · rw [hm] at h1; exact h1

theorem bits_bounds (n : Nat) : n < 2 ^ bitsN n ∧ (n ≠ 0 → 2 ^ (bitsN n - 1) ≤ n ∧ 1 ≤ bitsN n) := by
  by_cases h0 : (Wt.dg n).length = 0
  · have : n = 0 := Wt.dg_nil (List.length_eq_zero_iff.1 h0)
    subst this
    exact ⟨by unfold bitsN; rw [if_pos h0]; decide, fun h => absurd rfl h⟩
  · obtain ⟨m, hm⟩ : ∃ m, (Wt.dg n).length = m + 1 := ⟨(Wt.dg n).length - 1, by omega⟩
    obtain ⟨hs, ht⟩ := top_split hm
    have hlt := nth_ltW (Wt.dg_lt n) m
    have hlow := Wt.low_lt (Wt.dg_lt n) m
    have hb : bitsN n = 64 * m + Lib.bitLen (nth (Wt.dg n) m) := by unfold bitsN; rw [if_neg h0, hm, Nat.add_sub_cancel]
    obtain ⟨b1, b2, b3⟩ := Lib.bitLenAux_bounds 64 (nth (Wt.dg n) m) hlt ht
    have hb' : Lib.bitLenAux 64 (nth (Wt.dg n) m) = Lib.bitLen (nth (Wt.dg n) m) := rfl
    rw [hb'] at b1 b2 b3
    have e : (18446744073709551616 : Nat) ^ m = 2 ^ (64 * m) := by rw [Nat.pow_mul]
    rw [e] at hs hlow
    rw [hb]
    generalize nth (Wt.dg n) m = t at *
    generalize Wt.low (Wt.dg n) m = L at *
    generalize Lib.bitLen t = b at *
    refine ⟨?_, fun _ => ⟨?_, by omega⟩⟩
    · rw [Nat.pow_add]
      have := Nat.mul_le_mul_left (2 ^ (64 * m)) (show t + 1 ≤ 2 ^ b from b3)
      rw [Nat.mul_add] at this
      omega
    · rw [show 64 * m + b - 1 = 64 * m + (b - 1) from by omega, Nat.pow_add]
      have := Nat.mul_le_mul_left (2 ^ (64 * m)) b2
      omega

theorem parts_bounds (n k : Nat) (hk : 0 < k) : n < (2 ^ k) ^ partsN n k ∧ (n ≠ 0 → (2 ^ k) ^ (partsN n k - 1) ≤ n ∧ 1 ≤ partsN n k) := by
  obtain ⟨h1, h2⟩ := bits_bounds n
  have hd := Nat.div_add_mod (bitsN n + k - 1) k
  have hm := Nat.mod_lt (bitsN n + k - 1) hk
  have e : partsN n k = (bitsN n + k - 1) / k := rfl
  rw [← e] at hd
  refine ⟨?_, fun h0 => ?_⟩
  · rw [← Nat.pow_mul]
    exact Nat.lt_of_lt_of_le h1 (Nat.pow_le_pow_right (by decide) (by omega))
  · obtain ⟨h3, h4⟩ := h2 h0
    have hp : 1 ≤ partsN n k := by rw [e]; exact (Nat.le_div_iff_mul_le hk).2 (by omega)
    refine ⟨?_, hp⟩
    rw [← Nat.pow_mul]
    refine Nat.le_trans (Nat.pow_le_pow_right (by decide) ?_) h3
    rw [Nat.mul_sub]
    omega

theorem parts_zero (k : Nat) (hk : 0 < k) : partsN 0 k = 0 := by
  unfold partsN
  rw [show bitsN 0 = 0 from by unfold bitsN; rw [Wt.dg_zero]; rfl, Nat.zero_add]
  exact Nat.div_eq_of_lt (by omega)

set_option maxHeartbeats 1000000 in
theorem parts_any (u : Value) (n k : Nat) (w : World) (hk : k = 4 ∨ k = 8) (hm : (Wt.dg n).length ≤ 100000) (hU : IsNat w u n) :
    Calls Tryz.prog 30 #[u, .int .i64 k] w fun e w' => e = .returned (.int .i64 (partsN n k)) ∧ Below w.heap.size w w' := by
  obtain ⟨a, c, rfl, hw, hl, ha⟩ := hU.shape
  have HW := Lib.hid hw
  have HL := Lib.hid (nth_ltW hw.lt ((Wt.dg n).length - 1))
  have HP := Lib.hid (show partsN n k = (bitsN n + k - 1) / k from rfl)
  have HB0 := Lib.hid (show (Wt.dg n).length = 0 → bitsN n = 0 from fun h => by unfold bitsN; rw [if_pos h])
  have HB1 := Lib.hid (show (Wt.dg n).length ≠ 0 → bitsN n = 64 * ((Wt.dg n).length - 1) + Lib.bitLen (nth (Wt.dg n) ((Wt.dg n).length - 1)) from fun h => by unfold bitsN; rw [if_neg h])
  clear hw hU
  generalize Wt.dg n = l at *
  by_cases h0 : l.length = 0
  · have h0b : ((l.length : Int) == 0) = true := by rw [beq_iff_eq]; omega
    have HR := Lib.hid (show partsN n k = 0 by rw [HP.out, HB0.out h0, Nat.zero_add]; exact Nat.div_eq_of_lt (by omega))
    clear ha h0 hk
    go_enter Tryz.func30, Tryz.ntmps30
    go_wp2_with fail
    go_ret
    exact ⟨by rw [HR.out]; rfl, (Below.refl _ _).alloc (Nat.le_refl _) _⟩
  · have h0b : ((l.length : Int) == 0) = false := by rw [beq_eq_false_iff_ne]; omega
    obtain ⟨b, off, rfl⟩ := ha h0
    obtain ⟨m, hmm⟩ : ∃ m : Nat, m = l.length - 1 := ⟨_, rfl⟩
    have hmI : (l.length : Int) - 1 = (m : Int) := by omega
    have hml : m < l.length := by omega
    have hBB := HB1.out h0
    rw [← hmm] at hBB HL
    have hcell := HW.out.cell m hml
    have hbl : b < w.heap.size := World.block_lt_of_cell? w _ hcell
    have hx := HL.out
    have HLN := Lib.hid (fun w => len64_any (nth l m : Int) w (by omega) (by omega))
    have hle : Lib.bitLen (nth l m) ≤ 64 := Lib.bitLen_le _ 64 (by omega) hx
    rw [show ((nth l m : Nat) : Int).toNat = nth l m from rfl] at HLN
    generalize nth l m = x at *
    generalize Lib.bitLen x = y at *
    have HR := Lib.hid (show ((64 * (m : Int) + y + k - 1) / k) = (partsN n k : Int) by rw [HP.out, hBB]; rcases hk with rfl | rfl <;> omega)
    have hk0 : (k : Int) ≠ 0 := by omega
    have hk1 : (k : Int) ≤ 8 := by omega
    have hk2 : 0 < (k : Int) := by omega
    clear ha h0 hk HP hBB HB0 HB1 hmm
    go_enter Tryz.func30, Tryz.ntmps30
    go_wp2_with fail
    refine (HLN.out _).mono ?_
    rintro e w' ⟨rfl, rfl⟩
    go_wp2_with fail
    go_ret
    exact ⟨ret_i64 HR.out, (Below.refl _ _).alloc (Nat.le_refl _) _⟩

end Go.Proofs.YtphdadibfeencaaGreat

/-
  Numbers' texts (layer 6), in plain numbers.
-/
set_option maxRecDepth 100000
namespace Go.Proofs.YtphdadibfeencaaGreat
open Go.RowKit

namespace Nt
/-- How many digits a number has, one at least. -/
def digits (n : Nat) : Nat := max 1 (partsN n 4)
/-- A number's text. -/
def txt (n : Nat) : List Nat := fullT n (digits n)
theorem txt_lt (n : Nat) : ∀ x, x ∈ txt n → x < 256 := fullT_lt _ _
theorem digits_le {n k : Nat} (h : n < 16 ^ k) (hk : 1 ≤ k) : digits n ≤ k := by
  unfold digits
  refine Nat.max_le.2 ⟨hk, ?_⟩
  by_cases h0 : n = 0
  · subst h0; rw [parts_zero 4 (by decide)]; omega
  · obtain ⟨h1, h2⟩ := (parts_bounds n 4 (by decide)).2 h0
    have h3 : 16 ^ (partsN n 4 - 1) ≤ n := h1
    have h4 := (Nat.pow_lt_pow_iff_right (show 1 < 16 by decide)).1 (Nat.lt_of_le_of_lt h3 h)
    omega
end Nt

end Go.Proofs.YtphdadibfeencaaGreat

/-
  The program's numbers (layer 6): 'isText'.
-/
set_option maxRecDepth 100000
namespace Go.Proofs.YtphdadibfeencaaGreat
open Go.RowKit


/-- What stands in the text behind i digits. -/
def textPart (n L i : Nat) : List Nat := List.replicate (L - i) 0 ++ Nt.fullT n i
theorem textPart_length {n L i : Nat} (h : i ≤ L) : (textPart n L i).length = L := by unfold textPart; simp [Nt.fullT_length]; omega
theorem textPart_succ {n L i : Nat} (h : i < L) : (textPart n L i).set (L - 1 - i) (Nt.chr (n / 16 ^ i % 16)) = textPart n L (i + 1) := by
  unfold textPart
  rw [show L - i = (L - 1 - i) + 1 from by omega, List.replicate_succ', List.append_assoc, List.set_append_right _ _ (by simp), List.length_replicate, Nat.sub_self,
    show L - (i + 1) = L - 1 - i from by omega]
  rfl
theorem digits_small (n : Nat) : Nt.digits n ≤ 16 * (Wt.dg n).length + 1 := by
  refine Nt.digits_le ?_ (by omega)
  have h := Wt.val_lt (Wt.dg_lt n)
  rw [Wt.val_dg] at h
  refine Nat.lt_of_lt_of_le h ?_
  rw [show (18446744073709551616 : Nat) = 16 ^ 16 from by decide, ← Nat.pow_mul]
  exact Nat.pow_le_pow_right (by decide) (by omega)

theorem fig_at : ∀ d : Fin 16, ((⟨#[48, 49, 50, 51, 52, 53, 54, 55, 56, 57, 97, 98, 99, 100, 101, 102]⟩ : ByteArray)[d.val]'d.isLt).toNat = Nt.chr d.val := by decide +kernel
theorem fig_index (d : Nat) (hd : d < 16) (w : World) : (Instr.index 9 figures (U64 d)).run Tryz.prog w = .ok (U8 (Nt.chr d)) w := by
  have h0 : (0 : Int) ≤ (d : Int) := Int.natCast_nonneg _
  have h1 : (d : Int) < 16 := by omega
  have hs : (⟨#[48, 49, 50, 51, 52, 53, 54, 55, 56, 57, 97, 98, 99, 100, 101, 102]⟩ : ByteArray).size = 16 := rfl
  have H := Lib.hid (fig_at ⟨d, hd⟩)
  go_simp
  exact congrArg (fun k : Nat => (k : Int)) H.out

set_option maxHeartbeats 2000000 in
theorem nattext_any (u : Value) (n : Nat) (w : World) (hm : (Wt.dg n).length ≤ 100000) (hU : IsNat w u n) :
    Calls Tryz.prog 13 #[u] w fun e w' => e = .returned (.string (strOf (Nt.txt n))) ∧ Below w.heap.size w w' := by
  have HU := Lib.hid hU
  obtain ⟨pa, ca, rfl, _⟩ := hU.shape
  have hds := digits_small n
  obtain ⟨L, hL⟩ : ∃ L, L = Nt.digits n := ⟨_, rfl⟩
  have HLI := Lib.hid (show max (1 : Int) (partsN n 4 : Int) = (L : Int) by rw [hL]; unfold Nt.digits; omega)
  have hL1 : L ≤ 1600001 := by omega
  have HTX := Lib.hid (show Nt.fullT n L = Nt.txt n by rw [hL]; rfl)
  have HPT := Lib.hid (fun W h => parts_any (.agg #[.slice pa (Wt.dg n).length ca]) n 4 W (.inl rfl) hm h)
  clear hU hm hds hL
  generalize (Wt.dg n).length = ml at *
  have hmk := fun w => make_bytes L (by omega) w
  go_enter Tryz.func13, Tryz.ntmps13
  go_upto_region 1 with fail
  obtain ⟨B, hk1, hs⟩ := blocks1 w #[.slice pa ml ca] 40
  generalize (w.alloc (.cells #[.slice pa ml ca] 40)) = W at *
  have K1 := Lib.hid hk1
  have HS := Lib.hid hs
  clear hs hk1
  replace HU := Lib.hid (HU.out.go B)
  have hzW := B.size
  have k10 : W.cell? ⟨w.heap.size, 0, none⟩ = some (.slice pa ml ca) := K1.out.cell 0
  go_wp2_with fail
  refine (HPT.out W HU.out).mono ?_
  rintro e w1 ⟨rfl, hb⟩
  replace HU := Lib.hid (HU.out.go hb)
  replace K1 := Lib.hid (K1.out.go hb)
  replace B := B.trans (hb.mono B.size)
  have hli := HLI.out
  clear hb k10
  go_upto_region 2 with fail
  obtain ⟨g, hg⟩ : ∃ g, g = w1.heap.size := ⟨_, rfl⟩
  have HO0 := Lib.hid (show Own (w1.alloc (bytesObj (List.replicate L 0))) g (textPart n L 0) by
    rw [hg]
    have : textPart n L 0 = List.replicate L 0 := by unfold textPart; simp [Nt.fullT]
    rw [this]; exact Own.new w1 _)
  have HG := Lib.hid hg
  have HB0 := Lib.hid ((Below.refl w1.heap.size w1).alloc (Nat.le_refl _) (bytesObj (List.replicate L 0)))
  rw [← hg]
  clear hg hmk hli
  generalize w1.alloc (bytesObj (List.replicate L 0)) = W1 at *
  go_wp2_with fail
  go_loopw [4, 11] (fun _ i wr => ∃ k : Nat, k ≤ L ∧ i = .int .i64 k ∧ Own wr g (textPart n L k) ∧ Below w1.heap.size w1 wr) (fun _ i _ => L - (intOf i).toNat)
  case atStart => exact ⟨0, by omega, rfl, HO0.out, HB0.out⟩
  case round =>
    obtain ⟨k, hk, rfl, hown, hbel⟩ := hrel
    have HO := Lib.hid hown
    have hz := hbel.size
    clear hown
    by_cases hlt : k < L
    · have k1 : wr.cell? ⟨w.heap.size, 0, none⟩ = some (.slice pa ml ca) := (K1.out.go hbel).cell 0
      have HUr := Lib.hid (HU.out.go hbel)
      have HD := Lib.hid (Nat.mod_lt (n / 16 ^ k) (show 0 < 16 by decide))
      have HKL := Lib.hid hlt
      have HTS := Lib.hid (textPart_succ (n := n) hlt)
      have HTL := Lib.hid (textPart_length (n := n) hk)
      obtain ⟨j, hj⟩ : ∃ j, j = L - 1 - k := ⟨_, rfl⟩
      have hjI : (L : Int) - 1 - (k : Int) = (j : Int) := by omega
      have hjL : j < L := by omega
      rw [← hj] at HTS
      clear hj
      obtain ⟨wo, hwo⟩ : ∃ wo : World, wo = wr := ⟨_, rfl⟩
      subst hwo
      go_wp2_with fail
      refine (natdigit_any _ n k wo (by omega) HUr.out).mono ?_
      rintro e w2 ⟨rfl, hb⟩
      have HO2 := Lib.hid (HO.out.go hb)
      have hb2 := hbel.trans (hb.mono hz)
      have hfg := fig_index (n / 16 ^ k % 16) HD.out
      have hd16 := HD.out
      generalize n / 16 ^ k % 16 = d at *
      have hcell := HO2.out.cell j (by rw [HTL.out]; exact hjL)
      have hfree := HO2.out.free j
      clear hb hbel k1
      go_wp2_with fail
      have h9 := HKL.out
      refine ⟨⟨k + 1, h9, by go_num, ?_, hb2.setCell (by rw [HG.out]; exact Nat.le_refl _) _⟩, by simp [intOf]; omega⟩
      rw [← HTS.out]
      exact HO2.out.set j _
    · obtain rfl : k = L := by omega
      have HOE := Lib.hid (show Own wr g (Nt.txt n) by have h := HO.out; unfold textPart at h; rw [Nat.sub_self, HTX.out] at h; exact h)
      have HBY := Lib.hid (show Bytes wr (whole g k) (Nt.txt n) by
        have h := HOE.out.bytes (Nt.txt_lt n) (by rw [← HTX.out, Nt.fullT_length]; omega)
        rw [← HTX.out, Nt.fullT_length] at h
        rw [← HTX.out]; exact h)
      have hcv := convert_bytes HBY.out
      have hbw := B.trans (hbel.mono B.size)
      go_wp2_with fail
      go_ret
      exact ⟨rfl, hbw⟩


end Go.Proofs.YtphdadibfeencaaGreat

/-
  The program's numbers (layer 6): 'Sub'.
-/
set_option maxRecDepth 100000
namespace Go.Proofs.YtphdadibfeencaaGreat
open Go.RowKit

theorem nat_zero (w : World) : IsNat w (.agg #[.slice none 0 0]) 0 := ⟨_, rfl, none, 0, by rw [Wt.dg_zero]; rfl, by rw [Wt.dg_zero]; exact Nat.le_refl _, by decide, by rw [Wt.dg_zero]; intro x hx; simp at hx, fun h => absurd Wt.dg_zero h⟩

end Go.Proofs.YtphdadibfeencaaGreat
