/-
  A region that draws its order, makes a list of numbers and a box for a result, and writes the box.
-/
import Derived.Test.YtobhlfkmdhoncaaMonoW
import Derived.Test.YtobhlfkmdhoncaaLawSix
set_option maxRecDepth 100000
namespace Go.Proofs.Ytobhlfkmdhoncaa
open Go.RowKit

/-- A step that writes a box of one number which was made behind W. -/
def Hn (W : World) (_ : Nat) (w w' : World) : Prop := ∃ g a n c a' n' c', W.heap.size ≤ g ∧ Blk w g #[.slice a n c] 47 ∧ w.grownBy w' (some g) ∧ Blk w' g #[.slice a' n' c'] 47
theorem hCH_n (W : World) : ∀ (c : Nat) w w', Cb W w → Hn W c w w' → Cb W w' := fun _ _ _ h ⟨_, _, _, _, _, _, _, hg, _, hw, _⟩ => below_grown h hw h.size hg
theorem IsNat.hn {W w w' : World} {c : Nat} {u : Value} {n : Nat} (h : IsNat w u n) (hh : Hn W c w w') : IsNat w' u n := by
  obtain ⟨g, a, m, c, _, _, _, _, hk, hg, _⟩ := hh
  exact h.box hk hg

variable {W : World}
/-- A number. -/
def Ty.nat (t : Tmp) (n : Nat) : Ty (Cb W) Rb (Hn W) := Ty.one t (fun v w => IsNat w v n) (fun _ _ _ _ hR h => h.go hR) (fun _ _ _ _ _ hH h => h.hn hH)
/-- A list of two numbers. -/
def IsPair (w : World) (v : Value) (x y : Nat) : Prop := ∃ b u0 u1, v = .slice (some ⟨b, 0, none⟩) 2 2 ∧ Blk w b #[u0, u1] 47 ∧ IsNat w (.agg #[u0]) x ∧ IsNat w (.agg #[u1]) y
theorem IsPair.nats {w : World} {v : Value} {x y : Nat} (h : IsPair w v x y) : IsNats w v [x, y] := by
  obtain ⟨b, u0, u1, rfl, hk, h0, h1⟩ := h
  refine ⟨_, 2, rfl, Nat.le_refl _, by decide, fun _ => ⟨b, 0, rfl, hk.lt, fun i hi => ?_⟩⟩
  match i, hi with
  | 0, _ => exact ⟨u0, hk.cell 0, h0⟩
  | 1, _ => exact ⟨u1, hk.cell 1, h1⟩
theorem IsPair.hn {w w' : World} {c : Nat} {v : Value} {x y : Nat} (h : IsPair w v x y) (hh : Hn W c w w') : IsPair w' v x y := by
  obtain ⟨b, u0, u1, rfl, hk, h0, h1⟩ := h
  refine ⟨b, u0, u1, rfl, ?_, h0.hn hh, h1.hn hh⟩
  obtain ⟨g, a, m, c, _, _, _, _, hkg, hg, _⟩ := hh
  refine hk.grown hg ?_
  intro e
  simp only [Option.some.injEq] at e
  subst e
  have e1 : w.heap[b]? = some (.cells #[u0, u1] 47) := hk
  have e2 : w.heap[b]? = some (.cells #[.slice a m c] 47) := hkg
  rw [e1] at e2
  simp at e2
def Ty.pair (t : Tmp) (x y : Nat) : Ty (Cb W) Rb (Hn W) := Ty.one t (fun v w => IsPair w v x y) (fun _ _ _ _ hR ⟨b, u0, u1, e, hk, h0, h1⟩ => ⟨b, u0, u1, e, hk.go hR, h0.go hR, h1.go hR⟩) (fun _ _ _ _ _ hH h => h.hn hH)
/-- A number and an error's. -/
def Ty.natE (t : Tmp) (n : Nat) (err : Int) : Ty (Cb W) Rb (Hn W) := Ty.one t (fun v w => ∃ u, v = .tuple #[u, .int .i64 err] ∧ IsNat w u n) (fun _ _ _ _ hR ⟨u, e, h⟩ => ⟨u, e, h.go hR⟩) (fun _ _ _ _ _ hH ⟨u, e, h⟩ => ⟨u, e, h.hn hH⟩)
/-- A box for a number, made anew. -/
def Made (W w : World) (v : Value) : Prop := ∃ g a n c, v = .pointer (some ⟨g, 0, none⟩) ∧ W.heap.size ≤ g ∧ Blk w g #[.slice a n c] 47
theorem Made.hn {w w' : World} {c : Nat} {v : Value} (h : Made W w v) (hh : Hn W c w w') : Made W w' v := by
  obtain ⟨g, a, n, c, e, hg, hk⟩ := h
  obtain ⟨g', a', n', c', a2, n2, c2, _, hk', hw, hk2⟩ := hh
  by_cases h : g = g'
  · subst h; exact ⟨g, a2, n2, c2, e, hg, hk2⟩
  · exact ⟨g, a, n, c, e, hg, hk.grown hw (by simpa using h)⟩
def Ty.made (t : Tmp) : Ty (Cb W) Rb (Hn W) := Ty.one t (fun v w => Made W w v) (fun _ _ _ _ hR ⟨g, a, n, c, e, hg, hk⟩ => ⟨g, a, n, c, e, hg, hk.go hR⟩) (fun _ _ _ _ _ hH h => h.hn hH)
/-- What the box holds at last. -/
def Filled (W w : World) (v : Value) (x : Nat) : Prop := ∃ g a n c, v = .pointer (some ⟨g, 0, none⟩) ∧ W.heap.size ≤ g ∧ Blk w g #[.slice a n c] 47 ∧ IsNat w (.agg #[.slice a n c]) x
def Ty.filled (t : Tmp) (x : Nat) : Ty (Cb W) Rb (Hn W) :=
  ⟨[t], fun vs w => Filled W w (vs.headD undef) x, some 0, fun _ => false, fun _ _ _ _ hR ⟨g, a, n, c, e, hg, hk, hn⟩ => ⟨g, a, n, c, e, hg, hk.go hR, hn.go hR⟩, (fun _ e => by cases e), fun _ => True, fun _ => true, fun _ _ _ _ _ => trivial, (fun _ _ _ _ _ _ _ => trivial)⟩

section
variable {P : Program} {C : World → Prop} {R : World → World → Prop} {H : Nat → World → World → Prop} {a : Act} {w : World} {o : Oper} {Q : Exit → Act → World → Prop}
/-- A slice literal of two. -/
theorem ob_slice2 {T : Ty C R H} {t : Tmp} {x y : Operand} {E : TypeId} {p q : Value} (v : Value) (w1 : World) (hS : T.S = [t]) (hh : T.kind = none) (hd : o.dst = some t) (hlt : t < a.tmps.size) (hop : o.op = .buildSlice E 2 #[(0, x), (1, y)]) (hx : a.eval x = p) (hy : a.eval y = q)
    (hrun : (Instr.buildSlice E 2 #[(0, p), (1, q)]).run P w = .ok v w1) (hR : R w w1) (hF : T.F [v] w1) : Done P T Q o a w := by
  refine ob_value v w1 hS hh hd hlt ?_ hR hF
  simp [execOp, hop, hx, hy, hrun]
/-- A store by a temporary of which is told. -/
theorem ob_store1 {T : Ty C R H} {t : Tmp} {c : Nat} {E : TypeId} {y : Operand} {p q : Value} (w1 : World) (hS : T.S = [t]) (hh : T.kind = some c) (hd : o.dst = none) (hop : o.op = .store E (.tmp t) y) (hx : a.eval (.tmp t) = p) (hy : a.eval y = q)
    (hrun : (Instr.storeAt E p q).run P w = .ok () w1) (hH : H c w w1) (hF : T.F [p] w1) : Done P T Q o a w := by
  unfold Done Oper.wp
  have e : (execOp a.eval o).run P w = .ok .skip w1 := by simp [execOp, hop, hx, hy, hrun]
  rw [e]
  refine ⟨undef, rfl, by unfold stepR; rw [hh]; exact hH, ?_⟩
  rw [hS, List.map_cons, List.map_nil, hd]
  show T.F [a.eval (.tmp t)] w1
  rw [hx]
  exact hF
end

theorem slice2_nats (a0 a1 : Option Addr) (n0 n1 c0 c1 : Nat) (w : World) : (Instr.buildSlice 80 2 #[(0, .agg #[.slice a0 n0 c0]), (1, .agg #[.slice a1 n1 c1])]).run Try.prog w = .ok (.slice (some ⟨w.heap.size, 0, none⟩) 2 2) (w.alloc (.cells #[.slice a0 n0 c0, .slice a1 n1 c1] 47)) := by go_simp
theorem store_nat {w : World} {g : Nat} {a0 a1 : Option Addr} {n0 n1 c0 c1 : Nat} {T : TypeId} (hk : Blk w g #[.slice a0 n0 c0] T) : (Instr.storeAt 47 (.pointer (some ⟨g, 0, none⟩)) (.agg #[.slice a1 n1 c1])).run Try.prog w = .ok () (w.setCell ⟨g, 0, none⟩ (.slice a1 n1 c1)) := by
  have h0 : w.cell? ⟨g, 0, none⟩ = some (.slice a0 n0 c0) := hk.cell 0
  have hf := hk.free 0
  go_simp

/-- The store of a result. -/
theorem ob_store_nat {Q : Exit → Act → World → Prop} {a : Act} {w : World} {o : Oper} {t : Tmp} {y : Operand} {x : Nat} (hd : o.dst = none) (hop : o.op = .store 47 (.tmp t) y) (hm : Made W w (a.eval (.tmp t))) (hy : IsNat w (a.eval y) x) :
    Done Try.prog (Ty.filled (W := W) t x) Q o a w := by
  obtain ⟨g, a0, n0, c0, e, hg, hk⟩ := hm
  obtain ⟨a1, c1, e1, hw, _⟩ := hy.shape
  have hgs := grown_setCell w ⟨g, 0, none⟩ (.slice a1 (Wt.dg x).length c1)
  have hn : IsNat w (.agg #[.slice a1 (Wt.dg x).length c1]) x := ⟨_, rfl, hw⟩
  refine ob_store1 _ rfl rfl hd hop e e1 (store_nat hk) ⟨g, a0, n0, c0, _, _, _, hg, hk, hgs, hk.set 0 _⟩ ⟨g, _, _, _, rfl, hg, hk.set 0 _, hn.box hk hgs⟩

/-- The list of two. -/
theorem ob_pair {Q : Exit → Act → World → Prop} {a : Act} {w : World} {o : Oper} {t : Tmp} {p q : Operand} {x y : Nat} (hd : o.dst = some t) (hlt : t < a.tmps.size) (hop : o.op = .buildSlice 80 2 #[(0, p), (1, q)]) (hx : IsNat w (a.eval p) x) (hy : IsNat w (a.eval q) y) :
    Done Try.prog (Ty.pair (W := W) t x y) Q o a w := by
  obtain ⟨a0, c0, e0, h0, _⟩ := hx.shape
  obtain ⟨a1, c1, e1, h1, _⟩ := hy.shape
  have hb := (blocks1 w #[.slice a0 (Wt.dg x).length c0, .slice a1 (Wt.dg y).length c1] 47)
  refine ob_slice2 _ _ rfl rfl hd hlt hop e0 e1 (slice2_nats _ _ _ _ _ _ _) hb.1 ⟨_, _, _, rfl, hb.2.1, ⟨_, rfl, h0.go hb.1⟩, ⟨_, rfl, h1.go hb.1⟩⟩

/-- The box. -/
theorem ob_made {Q : Exit → Act → World → Prop} {a : Act} {w : World} {o : Oper} {t : Tmp} (hd : o.dst = some t) (hlt : t < a.tmps.size) (hop : o.op = .alloc 47) (hC : Cb W w)
    (hrun : (execOp a.eval o).run Try.prog w = .ok (.value (.pointer (some ⟨w.heap.size, 0, none⟩))) (w.alloc (.cells #[.slice none 0 0] 47))) : Done Try.prog (Ty.made (W := W) t) Q o a w := by
  have _ := hop
  refine ob_value _ _ rfl rfl hd hlt hrun ((Below.refl _ _).alloc (Nat.le_refl _) _) ⟨_, _, _, _, rfl, hC.size, Blk.new _ _ _ _ rfl⟩

end Go.Proofs.Ytobhlfkmdhoncaa
