/-
  A region that draws its order and writes one block of words that the call made itself.
-/
import Derived.Test.YtobhlfkmdhoncaaMonoC
import Derived.Test.YtobhlfkmdhoncaaNatA
set_option maxRecDepth 100000
namespace Go.Proofs.Ytobhlfkmdhoncaa
open Go.RowKit

/-- The worlds behind W in which of what was there nothing has turned but block g. -/
abbrev Cg (W : World) (g : Nat) : World → Prop := fun w => W.grownBy w (some g)
/-- A step that turns block g alone. -/
abbrev Hg (g : Nat) : Nat → World → World → Prop := fun _ w w' => w.grownBy w' (some g)
theorem hC_g (W : World) (g : Nat) : ∀ w w', Cg W g w → Rb w w' → Cg W g w' := fun _ _ h h' => grown_trans h (grown_of_below h' _)
theorem hCH_g (W : World) (g : Nat) : ∀ (c : Nat) w w', Cg W g w → Hg g c w w' → Cg W g w' := fun _ _ _ h h' => grown_trans h h'
theorem drew_g (W : World) (g : Nat) : Cg W g W.drew := grown_of_below ((Below.refl _ _).drew) _

variable {W : World} {g : Nat}
/-- The store: what the block holds ahead, and behind. -/
def Ty.storesW (o o' : List Nat) : Ty (Cg W g) Rb (Hg g) :=
  ⟨[], fun _ w => OwnW w g o', some 0, fun _ => false, fun _ _ _ _ h2 h3 => OwnW.go h3 h2, (fun _ e => by cases e), fun w => OwnW w g o, fun _ => false, fun _ _ _ h2 h3 => OwnW.go h3 h2, (fun _ e => by cases e)⟩

/-- Words elsewhere than block g are as they were. -/
theorem Words.cg {w : World} {v : Value} {l : List Nat} (h : Words W v l) (hC : Cg W g w) (hg : l = [] ∨ v.ownBlock ≠ some g) : Words w v l := by
  rcases hg with rfl | hg
  · obtain ⟨a, cap, rfl, h1, h2, h3, h4⟩ := h
    exact ⟨a, cap, rfl, h1, h2, h3, fun e => absurd rfl e⟩
  · exact h.grown hC (.inr hg)
theorem Words.cg' {w : World} {a : Option Addr} {n c : Nat} {l : List Nat} (h : Words W (.slice a n c) l) (hC : Cg W g w) (hg : ∀ b off, a = some ⟨b, off, none⟩ → l.length ≠ 0 → b ≠ g) : Words w (.slice a n c) l := by
  refine h.cg hC ?_
  by_cases hl : l = []
  · exact .inl hl
  · obtain ⟨a', c', e, _, _, _, h4⟩ := h
    obtain ⟨b, off, rfl, _⟩ := h4 hl
    simp only [Value.slice.injEq] at e
    obtain ⟨rfl, _⟩ := e
    right
    have := hg b off rfl (by simp [hl])
    simp [Value.ownBlock]; exact this
theorem IsNat.cg {w : World} {a : Option Addr} {n c m : Nat} (h : IsNat W (.agg #[.slice a n c]) m) (hC : Cg W g w) (hg : ∀ b off, a = some ⟨b, off, none⟩ → (Wt.dg m).length ≠ 0 → b ≠ g) : IsNat w (.agg #[.slice a n c]) m := by
  obtain ⟨v, e, h⟩ := h
  simp only [Value.agg.injEq, Array.mk.injEq, List.cons.injEq, and_true] at e
  subst e
  refine ⟨_, rfl, h.cg hC ?_⟩
  by_cases hl : Wt.dg m = []
  · exact .inl hl
  · obtain ⟨a', c', e, _, _, _, h4⟩ := h
    obtain ⟨b, off, rfl, _⟩ := h4 hl
    simp only [Value.slice.injEq] at e
    obtain ⟨rfl, _⟩ := e
    right
    have := hg b off rfl (by simp [hl])
    simp [Value.ownBlock]; exact this
theorem Blk.cg {w : World} {b : Nat} {vs : Array Value} {T : TypeId} (h : Blk W b vs T) (hC : Cg W g w) (hg : b ≠ g) : Blk w b vs T := h.grown hC (by simpa using hg)

section
variable {P : Program} {C : World → Prop} {R : World → World → Prop} {H : Nat → World → World → Prop} {a : Act} {w : World} {o : Oper} {Q : Exit → Act → World → Prop}
/-- A call that runs at once. -/
theorem ob_ext {T : Ty C R H} {t : Tmp} {f : FuncId} {args : Array Operand} {ats : Array TypeId} {v : Value} (hS : T.S = [t]) (hh : T.kind = none) (hd : o.dst = some t) (hlt : t < a.tmps.size)
    (hop : o.op = .call { callee := .value (.func f), args := args, argTypes := ats }) (hrun : (callFunc f (args.toList.map a.eval).toArray).run P w = .ok (.value v) w) (hR : R w w) (hF : T.F [v] w) : Done P T Q o a w := by
  refine ob_value v w hS hh hd hlt ?_ hR hF
  have e0 : args.map a.eval = (args.toList.map a.eval).toArray := by rw [← Array.toList_map, Array.toArray_toList]
  rw [← e0] at hrun
  simp [execOp, hop, resolve, invoke, Act.eval, Deferred.ofValue, hrun]
/-- An element's address. -/
theorem ob_index {T : Ty C R H} {t : Tmp} {x y : Operand} {E : TypeId} {p q : Value} (v : Value) (hS : T.S = [t]) (hh : T.kind = none) (hd : o.dst = some t) (hlt : t < a.tmps.size) (hop : o.op = .indexAddr E x y) (hx : a.eval x = p) (hy : a.eval y = q)
    (hrun : (Instr.indexAt E p q).run P w = .ok v w) (hR : R w w) (hF : T.F [v] w) : Done P T Q o a w := by
  refine ob_value v w hS hh hd hlt ?_ hR hF
  simp [execOp, hop, hx, hy, hrun]
/-- A slice of a slice, from a place on. -/
theorem ob_slice {T : Ty C R H} {t : Tmp} {x y : Operand} {E : TypeId} {p q : Value} (v : Value) (hS : T.S = [t]) (hh : T.kind = none) (hd : o.dst = some t) (hlt : t < a.tmps.size) (hop : o.op = .slice E x (some y) none none) (hx : a.eval x = p) (hy : a.eval y = q)
    (hrun : (Instr.sliceAt E p (some q) none none).run P w = .ok v w) (hR : R w w) (hF : T.F [v] w) : Done P T Q o a w := by
  refine ob_value v w hS hh hd hlt ?_ hR hF
  simp [execOp, hop, hx, hy, hrun]
/-- A call that writes. -/
theorem ob_callH {T : Ty C R H} {t : Tmp} {c : Nat} {f : FuncId} {args : Array Operand} {ats : Array TypeId} (hS : T.S = [t]) (hh : T.kind = some c) (hd : o.dst = some t) (hlt : t < a.tmps.size)
    (hop : o.op = .call { callee := .value (.func f), args := args, argTypes := ats }) (hen : ∀ (vs : Array Value) (w : World), (callFunc f vs).run P w = .ok (.enter f vs) w)
    (hc : Calls P f (args.toList.map a.eval).toArray w fun e w' => ∃ v, e = .returned v ∧ T.F [v] w' ∧ H c w w') : Done P T Q o a w := by
  have e0 : args.map a.eval = (args.toList.map a.eval).toArray := by rw [← Array.toList_map, Array.toArray_toList]
  have hrun : (execOp a.eval o).run P w = .ok (.enter f (args.toList.map a.eval).toArray) w := by
    rw [← e0]
    simp [execOp, hop, resolve, invoke, Act.eval, Deferred.ofValue, hen]
  unfold Done Oper.wp
  rw [hrun]
  refine hc.mono ?_
  rintro e w' ⟨v, rfl, hF, hH⟩
  refine ⟨v, rfl, by unfold stepR; rw [hh]; exact hH, ?_⟩
  rw [hS, List.map_cons, List.map_nil, hd, eval_put_eq hlt]
  exact hF
end

/-- A step of a region that writes block g twice, first by a call. -/
abbrev H2 (g : Nat) (o1 o2 : List Nat) : Nat → World → World → Prop := fun c w w' => w.grownBy w' (some g) ∧ OwnW w' g (if c = 0 then o1 else o2)
theorem hCH_2 (W : World) (g : Nat) (o1 o2 : List Nat) : ∀ (c : Nat) w w', Cg W g w → H2 g o1 o2 c w w' → Cg W g w' := fun _ _ _ h h' => grown_trans h h'.1
section
variable {W : World} {g : Nat} {o1 o2 : List Nat}
/-- The call: its value, and what the block holds from then on. -/
def Ty.callsW (t : Tmp) (v : Value) (o0 : List Nat) : Ty (Cg W g) Rb (H2 g o1 o2) :=
  ⟨[t], fun vs w => vs.headD undef = v ∧ (OwnW w g o1 ∨ OwnW w g o2), some 0, fun _ => true, fun _ _ _ _ h2 h3 => ⟨h3.1, h3.2.imp (fun h => OwnW.go h h2) (fun h => OwnW.go h h2)⟩,
    (fun c _ _ _ _ _ h2 h3 => ⟨h3.1, by
      have h := h2.2
      by_cases hc : c = 0
      · rw [if_pos hc] at h; exact .inl h
      · rw [if_neg hc] at h; exact .inr h⟩), fun w => OwnW w g o0, fun _ => false, fun _ _ _ h2 h3 => OwnW.go h3 h2, (fun _ e => by cases e)⟩
/-- The store behind it. -/
def Ty.store2W : Ty (Cg W g) Rb (H2 g o1 o2) :=
  ⟨[], fun _ w => OwnW w g o2, some 1, fun _ => false, fun _ _ _ _ h2 h3 => OwnW.go h3 h2, (fun _ e => by cases e), fun _ => True, fun _ => true, fun _ _ _ _ _ => trivial, (fun _ _ _ _ _ _ _ => trivial)⟩
end

theorem slice_from {g n i : Nat} (w : World) (hi : i < n) : (Instr.sliceAt 45 (whole g n) (some (.int .i64 (i : Int))) none none).run Try.prog w = .ok (.slice (some ⟨g, i, none⟩) (n - i) (n - i)) w := by
  have h1 : (i : Int) ≤ (n : Int) := by omega
  have h0 : (0 : Int) ≤ (i : Int) := Int.natCast_nonneg _
  have h2 : ¬ n = i := by omega
  go_simp
theorem add_int {x y : Operand} {a b c : Nat} (h : a + b = c) (hc : c ≤ 9223372036854775807) (w : World) : (do eqGuard .add 3 x y (.int .i64 a) (.int .i64 b); binOp .add 3 (.int .i64 a) (.int .i64 b) : Sem Value).run Try.prog w = .ok (.int .i64 c) w := by
  have h1 : (a : Int) + (b : Int) = (c : Int) := by omega
  have h2 : (c : Int) ≤ 9223372036854775807 := by omega
  go_simp
  rw [IntKind.wrap_i64]; omega

theorem index_words {g off n c k : Nat} (w : World) (hk : k < n) : (Instr.indexAt 45 (.slice (some ⟨g, off, none⟩) n c) (.int .i64 (k : Int))).run Try.prog w = .ok (.pointer (some ⟨g, off + k, none⟩)) w := by
  have h1 : (k : Int) < (n : Int) := by omega
  have h0 : (0 : Int) ≤ (k : Int) := Int.natCast_nonneg _
  go_simp
theorem index_whole {g n k : Nat} (w : World) (hk : k < n) : (Instr.indexAt 45 (whole g n) (.int .i64 (k : Int))).run Try.prog w = .ok (.pointer (some ⟨g, k, none⟩)) w := by
  have h := index_words (g := g) (off := 0) (n := n) (c := n) (k := k) w hk
  rw [Nat.zero_add] at h
  exact h
theorem field_nat (g : Nat) (w : World) : (Instr.fieldAt 47 (.pointer (some ⟨g, 0, none⟩)) 0).run Try.prog w = .ok (.pointer (some ⟨g, 0, none⟩)) w := by
  go_simp
theorem load_nat {w : World} {g k : Nat} {v : Value} (h : w.cell? ⟨g, k, none⟩ = some v) : (Instr.loadAt 47 (.pointer (some ⟨g, k, none⟩))).run Try.prog w = .ok (.agg #[v]) w := by
  go_simp
theorem load_words {w : World} {g k : Nat} {v : Value} (h : w.cell? ⟨g, k, none⟩ = some v) : (Instr.loadAt 45 (.pointer (some ⟨g, k, none⟩))).run Try.prog w = .ok v w := by
  go_simp
theorem load_u64 {w : World} {g k : Nat} {v : Value} (h : w.cell? ⟨g, k, none⟩ = some v) : (Instr.loadAt 22 (.pointer (some ⟨g, k, none⟩))).run Try.prog w = .ok v w := by
  go_simp
theorem store_u64 {w : World} {g k x y : Nat} (h : w.cell? ⟨g, k, none⟩ = some (U64 y)) (hf : w.frozen? ⟨g, k, none⟩ = false) : (Instr.storeAt 22 (.pointer (some ⟨g, k, none⟩)) (U64 x)).run Try.prog w = .ok () (w.setCell ⟨g, k, none⟩ (U64 x)) := by
  go_simp
theorem len_words {ty : TypeId} (ad : Option Addr) (n c : Nat) (w : World) : (Builtin.len_ #[45] ty #[.slice ad n c]).run Try.prog w = .ok (.int .i64 n) w := by go_simp

end Go.Proofs.Ytobhlfkmdhoncaa
