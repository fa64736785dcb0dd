/- Texts of one seat, laid together: MonoC, MonoRow, VecA. -/
import Derived.Test.YtohfcdgpllghbaaQ6
import Derived.Test.YtohfcdgpllghbaaQ5
import Derived.Test.YtohfcdgpllghbaaQ4

/-
  What the plain operations of a region answer: comparisons, loads, lengths.
-/
set_option maxRecDepth 100000
namespace Go.Proofs.Ytohfcdgpllghbaa
open Go.RowKit

theorem eql_int {x y : Operand} {a b : Int} {r : Bool} (h : (a == b) = r) (w : World) : (do eqGuard .eql 3 x y (.int .i64 a) (.int .i64 b); binOp .eql 3 (.int .i64 a) (.int .i64 b) : Sem Value).run Try.prog w = .ok (.bool r) w := by
  subst h; go_simp
theorem neq_int {x y : Operand} {a b : Int} {r : Bool} (h : (a != b) = r) (w : World) : (do eqGuard .neq 3 x y (.int .i64 a) (.int .i64 b); binOp .neq 3 (.int .i64 a) (.int .i64 b) : Sem Value).run Try.prog w = .ok (.bool r) w := by
  subst h; go_simp
theorem lss_int {x y : Operand} {a b : Int} {r : Bool} (h : (decide (a < b)) = r) (w : World) : (do eqGuard .lss 3 x y (.int .i64 a) (.int .i64 b); binOp .lss 3 (.int .i64 a) (.int .i64 b) : Sem Value).run Try.prog w = .ok (.bool r) w := by
  subst h; go_simp
theorem leq_int {x y : Operand} {a b : Int} {r : Bool} (h : (decide (a ≤ b)) = r) (w : World) : (do eqGuard .leq 3 x y (.int .i64 a) (.int .i64 b); binOp .leq 3 (.int .i64 a) (.int .i64 b) : Sem Value).run Try.prog w = .ok (.bool r) w := by
  subst h; go_simp
theorem gtr_int {x y : Operand} {a b : Int} {r : Bool} (h : (decide (b < a)) = r) (w : World) : (do eqGuard .gtr 3 x y (.int .i64 a) (.int .i64 b); binOp .gtr 3 (.int .i64 a) (.int .i64 b) : Sem Value).run Try.prog w = .ok (.bool r) w := by
  subst h; go_simp
theorem geq_int {x y : Operand} {a b : Int} {r : Bool} (h : (decide (b ≤ a)) = r) (w : World) : (do eqGuard .geq 3 x y (.int .i64 a) (.int .i64 b); binOp .geq 3 (.int .i64 a) (.int .i64 b) : Sem Value).run Try.prog w = .ok (.bool r) w := by
  subst h; go_simp
theorem eql_err {x y : Operand} {a b : Int} {r : Bool} (h : (a == b) = r) (w : World) : (do eqGuard .eql 27 x y (.int .i64 a) (.int .i64 b); binOp .eql 27 (.int .i64 a) (.int .i64 b) : Sem Value).run Try.prog w = .ok (.bool r) w := by
  subst h; go_simp
theorem neq_err {x y : Operand} {a b : Int} {r : Bool} (h : (a != b) = r) (w : World) : (do eqGuard .neq 27 x y (.int .i64 a) (.int .i64 b); binOp .neq 27 (.int .i64 a) (.int .i64 b) : Sem Value).run Try.prog w = .ok (.bool r) w := by
  subst h; go_simp
theorem lss_err {x y : Operand} {a b : Int} {r : Bool} (h : (decide (a < b)) = r) (w : World) : (do eqGuard .lss 27 x y (.int .i64 a) (.int .i64 b); binOp .lss 27 (.int .i64 a) (.int .i64 b) : Sem Value).run Try.prog w = .ok (.bool r) w := by
  subst h; go_simp
theorem leq_err {x y : Operand} {a b : Int} {r : Bool} (h : (decide (a ≤ b)) = r) (w : World) : (do eqGuard .leq 27 x y (.int .i64 a) (.int .i64 b); binOp .leq 27 (.int .i64 a) (.int .i64 b) : Sem Value).run Try.prog w = .ok (.bool r) w := by
  subst h; go_simp
theorem gtr_err {x y : Operand} {a b : Int} {r : Bool} (h : (decide (b < a)) = r) (w : World) : (do eqGuard .gtr 27 x y (.int .i64 a) (.int .i64 b); binOp .gtr 27 (.int .i64 a) (.int .i64 b) : Sem Value).run Try.prog w = .ok (.bool r) w := by
  subst h; go_simp
theorem geq_err {x y : Operand} {a b : Int} {r : Bool} (h : (decide (b ≤ a)) = r) (w : World) : (do eqGuard .geq 27 x y (.int .i64 a) (.int .i64 b); binOp .geq 27 (.int .i64 a) (.int .i64 b) : Sem Value).run Try.prog w = .ok (.bool r) w := by
  subst h; go_simp
theorem eql_u8 {x y : Operand} {a b : Int} {r : Bool} (h : (a == b) = r) (w : World) : (do eqGuard .eql 5 x y (.int .u8 a) (.int .u8 b); binOp .eql 5 (.int .u8 a) (.int .u8 b) : Sem Value).run Try.prog w = .ok (.bool r) w := by
  subst h; go_simp
theorem neq_u8 {x y : Operand} {a b : Int} {r : Bool} (h : (a != b) = r) (w : World) : (do eqGuard .neq 5 x y (.int .u8 a) (.int .u8 b); binOp .neq 5 (.int .u8 a) (.int .u8 b) : Sem Value).run Try.prog w = .ok (.bool r) w := by
  subst h; go_simp
theorem lss_u8 {x y : Operand} {a b : Int} {r : Bool} (h : (decide (a < b)) = r) (w : World) : (do eqGuard .lss 5 x y (.int .u8 a) (.int .u8 b); binOp .lss 5 (.int .u8 a) (.int .u8 b) : Sem Value).run Try.prog w = .ok (.bool r) w := by
  subst h; go_simp
theorem leq_u8 {x y : Operand} {a b : Int} {r : Bool} (h : (decide (a ≤ b)) = r) (w : World) : (do eqGuard .leq 5 x y (.int .u8 a) (.int .u8 b); binOp .leq 5 (.int .u8 a) (.int .u8 b) : Sem Value).run Try.prog w = .ok (.bool r) w := by
  subst h; go_simp
theorem gtr_u8 {x y : Operand} {a b : Int} {r : Bool} (h : (decide (b < a)) = r) (w : World) : (do eqGuard .gtr 5 x y (.int .u8 a) (.int .u8 b); binOp .gtr 5 (.int .u8 a) (.int .u8 b) : Sem Value).run Try.prog w = .ok (.bool r) w := by
  subst h; go_simp
theorem geq_u8 {x y : Operand} {a b : Int} {r : Bool} (h : (decide (b ≤ a)) = r) (w : World) : (do eqGuard .geq 5 x y (.int .u8 a) (.int .u8 b); binOp .geq 5 (.int .u8 a) (.int .u8 b) : Sem Value).run Try.prog w = .ok (.bool r) w := by
  subst h; go_simp
theorem eql_u32 {x y : Operand} {a b : Int} {r : Bool} (h : (a == b) = r) (w : World) : (do eqGuard .eql 153 x y (.int .u32 a) (.int .u32 b); binOp .eql 153 (.int .u32 a) (.int .u32 b) : Sem Value).run Try.prog w = .ok (.bool r) w := by
  subst h; go_simp
theorem neq_u32 {x y : Operand} {a b : Int} {r : Bool} (h : (a != b) = r) (w : World) : (do eqGuard .neq 153 x y (.int .u32 a) (.int .u32 b); binOp .neq 153 (.int .u32 a) (.int .u32 b) : Sem Value).run Try.prog w = .ok (.bool r) w := by
  subst h; go_simp
theorem lss_u32 {x y : Operand} {a b : Int} {r : Bool} (h : (decide (a < b)) = r) (w : World) : (do eqGuard .lss 153 x y (.int .u32 a) (.int .u32 b); binOp .lss 153 (.int .u32 a) (.int .u32 b) : Sem Value).run Try.prog w = .ok (.bool r) w := by
  subst h; go_simp
theorem leq_u32 {x y : Operand} {a b : Int} {r : Bool} (h : (decide (a ≤ b)) = r) (w : World) : (do eqGuard .leq 153 x y (.int .u32 a) (.int .u32 b); binOp .leq 153 (.int .u32 a) (.int .u32 b) : Sem Value).run Try.prog w = .ok (.bool r) w := by
  subst h; go_simp
theorem gtr_u32 {x y : Operand} {a b : Int} {r : Bool} (h : (decide (b < a)) = r) (w : World) : (do eqGuard .gtr 153 x y (.int .u32 a) (.int .u32 b); binOp .gtr 153 (.int .u32 a) (.int .u32 b) : Sem Value).run Try.prog w = .ok (.bool r) w := by
  subst h; go_simp
theorem geq_u32 {x y : Operand} {a b : Int} {r : Bool} (h : (decide (b ≤ a)) = r) (w : World) : (do eqGuard .geq 153 x y (.int .u32 a) (.int .u32 b); binOp .geq 153 (.int .u32 a) (.int .u32 b) : Sem Value).run Try.prog w = .ok (.bool r) w := by
  subst h; go_simp
theorem eql_u64 {x y : Operand} {a b : Int} {r : Bool} (h : (a == b) = r) (w : World) : (do eqGuard .eql 122 x y (.int .u64 a) (.int .u64 b); binOp .eql 122 (.int .u64 a) (.int .u64 b) : Sem Value).run Try.prog w = .ok (.bool r) w := by
  subst h; go_simp
theorem neq_u64 {x y : Operand} {a b : Int} {r : Bool} (h : (a != b) = r) (w : World) : (do eqGuard .neq 122 x y (.int .u64 a) (.int .u64 b); binOp .neq 122 (.int .u64 a) (.int .u64 b) : Sem Value).run Try.prog w = .ok (.bool r) w := by
  subst h; go_simp
theorem lss_u64 {x y : Operand} {a b : Int} {r : Bool} (h : (decide (a < b)) = r) (w : World) : (do eqGuard .lss 122 x y (.int .u64 a) (.int .u64 b); binOp .lss 122 (.int .u64 a) (.int .u64 b) : Sem Value).run Try.prog w = .ok (.bool r) w := by
  subst h; go_simp
theorem leq_u64 {x y : Operand} {a b : Int} {r : Bool} (h : (decide (a ≤ b)) = r) (w : World) : (do eqGuard .leq 122 x y (.int .u64 a) (.int .u64 b); binOp .leq 122 (.int .u64 a) (.int .u64 b) : Sem Value).run Try.prog w = .ok (.bool r) w := by
  subst h; go_simp
theorem gtr_u64 {x y : Operand} {a b : Int} {r : Bool} (h : (decide (b < a)) = r) (w : World) : (do eqGuard .gtr 122 x y (.int .u64 a) (.int .u64 b); binOp .gtr 122 (.int .u64 a) (.int .u64 b) : Sem Value).run Try.prog w = .ok (.bool r) w := by
  subst h; go_simp
theorem geq_u64 {x y : Operand} {a b : Int} {r : Bool} (h : (decide (b ≤ a)) = r) (w : World) : (do eqGuard .geq 122 x y (.int .u64 a) (.int .u64 b); binOp .geq 122 (.int .u64 a) (.int .u64 b) : Sem Value).run Try.prog w = .ok (.bool r) w := by
  subst h; go_simp
theorem eql_bool {x y : Operand} {a b r : Bool} (h : (a == b) = r) (w : World) : (do eqGuard .eql 4 x y (.bool a) (.bool b); binOp .eql 4 (.bool a) (.bool b) : Sem Value).run Try.prog w = .ok (.bool r) w := by
  subst h; cases a <;> cases b <;> go_simp
theorem neq_bool {x y : Operand} {a b r : Bool} (h : (a != b) = r) (w : World) : (do eqGuard .neq 4 x y (.bool a) (.bool b); binOp .neq 4 (.bool a) (.bool b) : Sem Value).run Try.prog w = .ok (.bool r) w := by
  subst h; cases a <;> cases b <;> go_simp

theorem load_bytes {w : World} {g k : Nat} {v : Value} (h : w.cell? ⟨g, k, none⟩ = some v) : (Instr.loadAt 35 (.pointer (some ⟨g, k, none⟩))).run Try.prog w = .ok v w := by
  go_simp
theorem load_vec {w : World} {g k : Nat} {v : Value} (h : w.cell? ⟨g, k, none⟩ = some v) : (Instr.loadAt 59 (.pointer (some ⟨g, k, none⟩))).run Try.prog w = .ok v w := by
  go_simp
theorem load_int {w : World} {g k : Nat} {v : Value} (h : w.cell? ⟨g, k, none⟩ = some v) : (Instr.loadAt 3 (.pointer (some ⟨g, k, none⟩))).run Try.prog w = .ok v w := by
  go_simp

section
variable {P : Program} {C : World → Prop} {R : World → World → Prop} {H : Nat → World → World → Prop} {a : Act} {w : World} {o : Oper} {Q : Exit → Act → World → Prop}
/-- A field's address. -/
theorem ob_field {T : Ty C R H} {t : Tmp} {x : Operand} {E i : Nat} {p : Value} (v : Value) (hS : T.S = [t]) (hh : T.kind = none) (hd : o.dst = some t) (hlt : t < a.tmps.size) (hop : o.op = .fieldAddr E x i) (hx : a.eval x = p)
    (hrun : ∀ w, (Instr.fieldAt E p i).run P w = .ok v w) (hR : R w w) (hF : T.F [v] w) : Done P T Q o a w := by
  refine ob_value v w hS hh hd hlt ?_ hR hF
  simp [execOp, hop, hx, hrun]
/-- An element's address. -/
theorem ob_index {T : Ty C R H} {t : Tmp} {x y : Operand} {E : TypeId} {p q : Value} (v : Value) (hS : T.S = [t]) (hh : T.kind = none) (hd : o.dst = some t) (hlt : t < a.tmps.size) (hop : o.op = .indexAddr E x y) (hx : a.eval x = p) (hy : a.eval y = q)
    (hrun : (Instr.indexAt E p q).run P w = .ok v w) (hR : R w w) (hF : T.F [v] w) : Done P T Q o a w := by
  refine ob_value v w hS hh hd hlt ?_ hR hF
  simp [execOp, hop, hx, hy, hrun]
/-- A slice of a slice, up to a place. -/
theorem ob_sliceTo {T : Ty C R H} {t : Tmp} {x y : Operand} {E : TypeId} {p q : Value} (v : Value) (hS : T.S = [t]) (hh : T.kind = none) (hd : o.dst = some t) (hlt : t < a.tmps.size) (hop : o.op = .slice E x none (some y) none) (hx : a.eval x = p) (hy : a.eval y = q)
    (hrun : (Instr.sliceAt E p none (some q) none).run P w = .ok v w) (hR : R w w) (hF : T.F [v] w) : Done P T Q o a w := by
  refine ob_value v w hS hh hd hlt ?_ hR hF
  simp [execOp, hop, hx, hy, hrun]
/-- An operation that yields a value, and writes. -/
theorem ob_hard {T : Ty C R H} {t : Tmp} {c : Nat} (v : Value) (w1 : World) (hS : T.S = [t]) (hh : T.kind = some c) (hd : o.dst = some t) (hlt : t < a.tmps.size)
    (hrun : (execOp a.eval o).run P w = .ok (.value v) w1) (hH : H c w w1) (hF : T.F [v] w1) : Done P T Q o a w := by
  unfold Done Oper.wp
  rw [hrun]
  refine ⟨v, rfl, by unfold stepR; rw [hh]; exact hH, ?_⟩
  rw [hS, List.map_cons, List.map_nil, hd, eval_put_eq hlt]
  exact hF
/-- A store of which no temporary tells. -/
theorem ob_store0 {T : Ty C R H} {c : Nat} {E : TypeId} {x y : Operand} {p q : Value} (w1 : World) (hS : T.S = []) (hh : T.kind = some c) (hop : o.op = .store E x y) (hx : a.eval x = p) (hy : a.eval y = q)
    (hrun : (Instr.storeAt E p q).run P w = .ok () w1) (hH : H c w w1) (hF : T.F [] w1) : Done P T Q o a w := by
  unfold Done Oper.wp
  have e : (execOp a.eval o).run P w = .ok .skip w1 := by simp [execOp, hop, hx, hy, hrun]
  rw [e]
  refine ⟨undef, rfl, by unfold stepR; rw [hh]; exact hH, ?_⟩
  rw [hS, List.map_nil]
  exact hF
/-- An append's run. -/
theorem run_ob_append {s x : Operand} {t : TypeId} {v u v' : Value} {w1 : World} (hop : o.op = .call { callee := .builtin .append, args := #[s, x], argTypes := #[t, t] }) (hs : a.eval s = v) (hx : a.eval x = u)
    (hrun : (Builtin.append_ #[t, t] o.type #[v, u]).run P w = .ok v' w1) : (execOp a.eval o).run P w = .ok (.value v') w1 := by
  simp only [execOp, hop, resolve, invoke, builtin, Sem.run_bind, Sem.run_pure, Result.andThen_ok, List.map_toArray, List.map_cons, List.map_nil, hs, hx, hrun]
/-- A slice literal of one. -/
theorem ob_slice1 {T : Ty C R H} {t : Tmp} {x : Operand} {E : TypeId} {p : Value} (v : Value) (w1 : World) (hS : T.S = [t]) (hh : T.kind = none) (hd : o.dst = some t) (hlt : t < a.tmps.size) (hop : o.op = .buildSlice E 1 #[(0, x)]) (hx : a.eval x = p)
    (hrun : (Instr.buildSlice E 1 #[(0, p)]).run P w = .ok v w1) (hR : R w w1) (hF : T.F [v] w1) : Done P T Q o a w := by
  refine ob_value v w1 hS hh hd hlt ?_ hR hF
  simp [execOp, hop, hx, hrun]
/-- Not. -/
theorem ob_not {T : Ty C R H} {t : Tmp} {x : Operand} {E : TypeId} {b : Bool} (hS : T.S = [t]) (hh : T.kind = none) (hd : o.dst = some t) (hlt : t < a.tmps.size) (hop : o.op = .unOp .not E x) (hx : a.eval x = .bool b)
    (hR : R w w) (hF : T.F [.bool (!b)] w) : Done P T Q o a w := by
  refine ob_value (.bool (!b)) w hS hh hd hlt ?_ hR hF
  simp [execOp, hop, hx, Op.unary]
/-- A length. -/
theorem ob_len {T : Ty C R H} {t : Tmp} {x : Operand} {E : TypeId} {ad : Option Addr} {n c : Nat} (hS : T.S = [t]) (hh : T.kind = none) (hd : o.dst = some t) (hlt : t < a.tmps.size) (hop : o.op = .call { callee := .builtin .len, args := #[x], argTypes := #[E] }) (hx : a.eval x = .slice ad n c)
    (hrun : ∀ w, (Builtin.len_ #[E] o.type #[.slice ad n c]).run P w = .ok (.int .i64 n) w) (hR : R w w) (hF : T.F [.int .i64 n] w) : Done P T Q o a w := by
  refine ob_value (.int .i64 n) w hS hh hd hlt ?_ hR hF
  simp [execOp, hop, resolve, invoke, builtin, hx, hrun]
end

theorem slice1_rows (ad : Option Addr) (n c : Nat) (w : World) : (Instr.buildSlice 22 1 #[(0, .slice ad n c)]).run Try.prog w = .ok (.slice (some ⟨w.heap.size, 0, none⟩) 1 1) (w.alloc (.cells #[.slice ad n c] 35)) := by go_simp
theorem len_bytes {ty : TypeId} (ad : Option Addr) (n c : Nat) (w : World) : (Builtin.len_ #[35] ty #[.slice ad n c]).run Try.prog w = .ok (.int .i64 n) w := by go_simp
theorem len_vec {ty : TypeId} (ad : Option Addr) (n c : Nat) (w : World) : (Builtin.len_ #[59] ty #[.slice ad n c]).run Try.prog w = .ok (.int .i64 n) w := by go_simp

end Go.Proofs.Ytohfcdgpllghbaa

/-
  Rows in a region that draws its order: what is said of them, loads and stores; 'Less' of any two.
-/
set_option maxRecDepth 100000
namespace Go.Proofs.Ytohfcdgpllghbaa
open Go.RowKit

theorem IsRow.go {w w' : World} {u : Value} {p q : List Nat} (h : IsRow w u p q) (hb : Below w.heap.size w w') : IsRow w' u p q := h.below (Nat.le_refl _) hb

theorem IsRow.shape {w : World} {u : Value} {p q : List Nat} (h : IsRow w u p q) : ∃ a c a' c', u = .agg #[.slice a p.length c, .slice a' q.length c'] := by
  obtain ⟨v, d, rfl, ⟨a, c, rfl, _⟩, ⟨a', c', rfl, _⟩⟩ := h
  exact ⟨a, c, a', c', rfl⟩
theorem IsRow.hard {W w w' : World} {u : Value} {p q : List Nat} (h : IsRow w u p q) (hh : Hb W w w') : IsRow w' u p q := by
  obtain ⟨v, d, e, h1, h2⟩ := h
  exact ⟨v, d, e, h1.hard hh, h2.hard hh⟩

section
variable {W : World}
def Ty.row (t : Tmp) (p q : List Nat) : TyB W := Ty.one t (fun v w => IsRow w v p q) (fun _ _ _ _ hR h => h.go hR) (fun _ _ _ _ _ hH h => h.hard hH)
def Ty.rowE (t : Tmp) (p q : List Nat) (n : Int) : TyB W := Ty.one t (fun v w => ∃ u, v = .tuple #[u, .int .i64 n] ∧ IsRow w u p q) (fun _ _ _ _ hR ⟨u, e, h⟩ => ⟨u, e, h.go hR⟩) (fun _ _ _ _ _ hH ⟨u, e, h⟩ => ⟨u, e, h.hard hH⟩)
/-- A row stored into a box that was made anew. -/
def RowIn (W w : World) (v : Value) (p q : List Nat) (T : TypeId) : Prop := ∃ g a c a' c', v = .pointer (some ⟨g, 0, none⟩) ∧ W.heap.size ≤ g ∧ Blk w g #[.slice a p.length c, .slice a' q.length c'] T ∧ IsRow w (.agg #[.slice a p.length c, .slice a' q.length c']) p q
theorem RowIn.go {w w' : World} {v : Value} {p q : List Nat} {T : TypeId} (h : RowIn W w v p q T) (hb : Below w.heap.size w w') : RowIn W w' v p q T := by
  obtain ⟨g, a, c, a', c', e, hg, hk, hr⟩ := h
  exact ⟨g, a, c, a', c', e, hg, hk.go hb, hr.go hb⟩
def Ty.rowIn (t : Tmp) (p q : List Nat) (T : TypeId) : TyB W := Ty.writes t (fun v w => RowIn W w v p q T) (fun _ _ _ _ hR h => h.go hR)
end

/-- A row out of its box. -/
theorem load_vecrow {w : World} {g : Nat} {x y : Value} {T : TypeId} (h : Blk w g #[x, y] T) : (Instr.loadAt 61 (.pointer (some ⟨g, 0, none⟩))).run Try.prog w = .ok (.agg #[x, y]) w := by
  obtain ⟨k0, k1⟩ := h.two
  go_simp
theorem load_refrow {w : World} {g : Nat} {x y : Value} {T : TypeId} (h : Blk w g #[x, y] T) : (Instr.loadAt 68 (.pointer (some ⟨g, 0, none⟩))).run Try.prog w = .ok (.agg #[x, y]) w := by
  obtain ⟨k0, k1⟩ := h.two
  go_simp
theorem load_one {w : World} {g : Nat} {x y : Value} {T : TypeId} (h : Blk w g #[x, y] T) : (Instr.loadAt 57 (.pointer (some ⟨g, 0, none⟩))).run Try.prog w = .ok (.agg #[x, y]) w := by
  obtain ⟨k0, k1⟩ := h.two
  go_simp

set_option maxHeartbeats 400000 in
theorem ob_store_vecrow {W : World} {a : Act} {w : World} {o : Oper} {Q : Exit → Act → World → Prop} {t s : Tmp} {p q : List Nat} (hd : o.dst = none) (hop : o.op = .store 61 (.tmp t) (.tmp s)) (hA : IsBox W w (a.eval (.tmp t)) 2 61) (hV : IsRow w (a.eval (.tmp s)) p q) :
    Done Try.prog (Ty.rowIn (W := W) t p q 61) Q o a w := by
  obtain ⟨g, vs, eA, hg, hk, hs, hn⟩ := hA
  obtain ⟨a1, c1, a2, c2, eV⟩ := hV.shape
  obtain ⟨x, y, rfl⟩ : ∃ x y, vs = #[x, y] := by
    obtain ⟨l⟩ := vs
    match l, hs with
    | [x, y], _ => exact ⟨x, y, rfl⟩
  obtain ⟨k0, k1⟩ := hk.two
  obtain ⟨f0, f1⟩ := hk.fre2
  have hst := hk.set2 (.slice a1 p.length c1) (.slice a2 q.length c2)
  have hgr : w.grownBy ((w.setCell ⟨g, 0, none⟩ (.slice a1 p.length c1)).setCell ⟨g, 1, none⟩ (.slice a2 q.length c2)) (some g) := grown_trans (grown_setCell w ⟨g, 0, none⟩ _) (grown_setCell _ ⟨g, 1, none⟩ _)
  have hn2 : NoU8 #[.slice a1 p.length c1, .slice a2 q.length c2] := noU8_two _ _ (slice_ne _ _ _) (slice_ne _ _ _)
  have hh : Hb W w ((w.setCell ⟨g, 0, none⟩ (.slice a1 p.length c1)).setCell ⟨g, 1, none⟩ (.slice a2 q.length c2)) := ⟨g, _, _, _, hg, hk, hn, hgr, hst, rfl, hn2⟩
  rw [eV] at hV
  refine ob_store ((w.setCell ⟨g, 0, none⟩ (.slice a1 p.length c1)).setCell ⟨g, 1, none⟩ (.slice a2 q.length c2)) rfl rfl hd ?_ hh ?_
  · have HH := Lib.hid hh
    have HV := Lib.hid hV
    clear hh hV hgr hst hn hn2 hk hs hg
    simp only [execOp, hop, eA, eV]
    go_simp
  · exact ⟨g, a1, c1, a2, c2, eA, hg, hst, hV.hard hh⟩

set_option maxHeartbeats 400000 in
theorem ob_store_refrow {W : World} {a : Act} {w : World} {o : Oper} {Q : Exit → Act → World → Prop} {t s : Tmp} {p q : List Nat} (hd : o.dst = none) (hop : o.op = .store 68 (.tmp t) (.tmp s)) (hA : IsBox W w (a.eval (.tmp t)) 2 68) (hV : IsRow w (a.eval (.tmp s)) p q) :
    Done Try.prog (Ty.rowIn (W := W) t p q 68) Q o a w := by
  obtain ⟨g, vs, eA, hg, hk, hs, hn⟩ := hA
  obtain ⟨a1, c1, a2, c2, eV⟩ := hV.shape
  obtain ⟨x, y, rfl⟩ : ∃ x y, vs = #[x, y] := by
    obtain ⟨l⟩ := vs
    match l, hs with
    | [x, y], _ => exact ⟨x, y, rfl⟩
  obtain ⟨k0, k1⟩ := hk.two
  obtain ⟨f0, f1⟩ := hk.fre2
  have hst := hk.set2 (.slice a1 p.length c1) (.slice a2 q.length c2)
  have hgr : w.grownBy ((w.setCell ⟨g, 0, none⟩ (.slice a1 p.length c1)).setCell ⟨g, 1, none⟩ (.slice a2 q.length c2)) (some g) := grown_trans (grown_setCell w ⟨g, 0, none⟩ _) (grown_setCell _ ⟨g, 1, none⟩ _)
  have hn2 : NoU8 #[.slice a1 p.length c1, .slice a2 q.length c2] := noU8_two _ _ (slice_ne _ _ _) (slice_ne _ _ _)
  have hh : Hb W w ((w.setCell ⟨g, 0, none⟩ (.slice a1 p.length c1)).setCell ⟨g, 1, none⟩ (.slice a2 q.length c2)) := ⟨g, _, _, _, hg, hk, hn, hgr, hst, rfl, hn2⟩
  rw [eV] at hV
  refine ob_store ((w.setCell ⟨g, 0, none⟩ (.slice a1 p.length c1)).setCell ⟨g, 1, none⟩ (.slice a2 q.length c2)) rfl rfl hd ?_ hh ?_
  · have HH := Lib.hid hh
    have HV := Lib.hid hV
    clear hh hV hgr hst hn hn2 hk hs hg
    simp only [execOp, hop, eA, eV]
    go_simp
  · exact ⟨g, a1, c1, a2, c2, eA, hg, hst, hV.hard hh⟩

theorem refless_any (u0 u1 : Value) (c : Nat) (p q p' q' : List Nat) (w : World) (hc : c < 256) (h0 : IsRow w u0 p q) (h1 : IsRow w u1 p' q') (hlp : p.length ≤ 10000000) (hlq : q.length ≤ 10000000) :
    Calls Try.prog 70 #[u0, U8 c, u1] w (RowsE w (lessV c p q p' q') (lessD c p q p' q') (lessE p q p' q')) := by
  obtain ⟨v0, d0, rfl, hp0, hq0⟩ := h0
  obtain ⟨v1, d1, rfl, hp1, hq1⟩ := h1
  have g0 := hp0
  have g1 := hq0
  have g2 := hp1
  have g3 := hq1
  obtain ⟨a0, c0, rfl, _⟩ := hp0
  obtain ⟨a1, c1, rfl, _⟩ := hq0
  obtain ⟨a2, c2, rfl, _⟩ := hp1
  obtain ⟨a3, c3, rfl, _⟩ := hq1
  by_cases h : p'.length = p.length ∧ q'.length = q.length
  · exact refless_all c a0 a1 a2 a3 _ _ _ _ c0 c1 c2 c3 p q p' q' w hc hlp hlq g0 g1 g2 g3 true (Or.inl ⟨rfl, h⟩)
  · exact refless_all c a0 a1 a2 a3 _ _ _ _ c0 c1 c2 c3 p q p' q' w hc hlp hlq g0 g1 g2 g3 false (Or.inr ⟨rfl, h⟩)

end Go.Proofs.Ytohfcdgpllghbaa

/-
  Rows with a beginning (layer 3) in the program: 'Lead', 'At', 'Zero', 'Unit'.
-/
set_option maxRecDepth 100000
namespace Go.Proofs.Ytohfcdgpllghbaa
open Go.RowKit


set_option maxHeartbeats 400000 in
theorem lead1_any (x : Nat) (w : World) :
    Calls Try.prog 100 #[U8 x] w fun e w' => e = .returned (.bool ((x : Int) != 0)) ∧ w = w' := by
  go_enter Try.func100, Try.ntmps100
  go_wp2_with fail
  go_ret
  exact ⟨rfl, rfl⟩

set_option maxHeartbeats 400000 in
theorem idxLead_empty (f : Value) (a : Option Addr) (cap : Nat) (w : World) :
    Calls Try.prog 99 #[.slice a 0 cap, f] w fun e w' => e = .returned (.int .i64 (leadI [])) ∧ w = w' := by
  go_enter Try.func99, Try.ntmps99
  go_wp2
  refine wp_loop_rounds 1 ?_
  rw [rounds_succ]
  go_wp2
  go_ret
  exact ⟨rfl, rfl⟩

set_option maxHeartbeats 400000 in
theorem idxLead_some (b off cap : Nat) (l : List Nat) (w : World) (hB : Bytes w (.slice (some ⟨b, off, none⟩) l.length cap) l) :
    Calls Try.prog 99 #[.slice (some ⟨b, off, none⟩) l.length cap, .func (Fn.func 100) #[] #[]] w fun e w' => e = .returned (.int .i64 (leadI l)) ∧ w = w' := by
  have hcap : l.length ≤ 9223372036854775807 := by obtain ⟨_, _, _, h1, h2, _⟩ := hB; omega
  obtain ⟨t, ht⟩ : ∃ t, t = leadI l := ⟨_, rfl⟩
  rw [← ht]
  have HT := Lib.hid ht
  have HB := Lib.hid hB
  clear hB ht
  go_enter Try.func99, Try.ntmps99
  go_wp2
  go_loop [5, 8] (fun _ i => ∃ k : Nat, k ≤ l.length ∧ i = .int .i64 k ∧ ∀ j, j < k → nth l j = 0) (fun _ i => l.length - (intOf i).toNat)
  case atStart => exact ⟨0, by omega, rfl, fun j hj => by omega⟩
  case round =>
    obtain ⟨k, hk, rfl, hno⟩ := hrel
    have HN := Lib.hid hno
    clear hno
    by_cases hlt : k < l.length
    · have hu := HB.out.cell k hlt
      by_cases hq : nth l k = 0
      · have hb : ((nth l k : Int) != 0) = false := by rw [hq]; rfl
        have HQ := Lib.hid hq
        clear hq
        go_wp2_with fail
        refine (lead1_any _ _).mono ?_
        rintro e w' ⟨rfl, rfl⟩
        rw [hb]
        go_wp2_with fail
        go_round
        case rel => exact ⟨k + 1, by omega, by go_num, fun j hj => by
          by_cases h : j = k
          · rw [h]; exact HQ.out
          · exact HN.out j (by omega)⟩
        case measure => simp [intOf]; omega
      · have hb : ((nth l k : Int) != 0) = true := by rw [bne_iff_ne]; omega
        have HF : Hid (t = (k : Int)) := Lib.hid (by rw [HT.out]; unfold leadI; rw [lead_eq HN.out hlt hq, if_pos hlt])
        clear hq
        go_wp2_with fail
        refine (lead1_any _ _).mono ?_
        rintro e w' ⟨rfl, rfl⟩
        rw [hb]
        go_wp2_with fail
        go_ret
        exact ⟨by rw [HF.out]; rfl, rfl⟩
    · have HF : Hid (t = -1) := Lib.hid (by
        rw [HT.out]; unfold leadI
        rw [lead_none (fun j hj => HN.out j (by omega)), if_neg (by omega)])
      go_wp2_with fail
      go_ret
      exact ⟨by rw [HF.out]; rfl, rfl⟩

theorem idxLead_any (v : Value) (l : List Nat) (w : World) (hB : Bytes w v l) :
    Calls Try.prog 99 #[v, .func (Fn.func 100) #[] #[]] w fun e w' => e = .returned (.int .i64 (leadI l)) ∧ w = w' := by
  have hB0 := hB
  obtain ⟨a, cap, rfl, _, _, _, h4⟩ := hB
  cases l with
  | nil => exact idxLead_empty _ a cap w
  | cons x l =>
    obtain ⟨b, off, rfl, _, _⟩ := h4 (by simp)
    exact idxLead_some b off cap _ w hB0

set_option maxHeartbeats 400000 in
theorem lead_any (v : Value) (l : List Nat) (w : World) (hB : Bytes w v l) :
    Calls Try.prog 83 #[v] w fun e w' => e = .returned (.int .i64 (leadI l)) ∧ w = w' := by
  have hmf : ∀ (fn : Fn) (first cap : Array Value) (w : World), (Instr.makeFunc fn first cap).run Try.prog w = .ok (.func fn first cap) w := fun _ _ _ _ => rfl
  have H := Lib.hid (idxLead_any v l w hB)
  clear hB
  go_enter Try.func83, Try.ntmps83
  go_wp2_with fail
  refine (H.out).mono ?_
  rintro e w' ⟨rfl, rfl⟩
  go_wp2_with fail
  go_ret
  exact ⟨rfl, rfl⟩

set_option maxHeartbeats 400000 in
theorem vzero_any (v : Value) (l : List Nat) (w : World) (hB : Bytes w v l) :
    Calls Try.prog 67 #[v] w fun e w' => e = .returned (.bool (zeroB l)) ∧ w = w' := by
  have H := Lib.hid (zero_any v l w hB)
  clear hB
  go_enter Try.func67, Try.ntmps67
  go_wp2_with fail
  refine (H.out).mono ?_
  rintro e w' ⟨rfl, rfl⟩
  go_wp2_with fail
  go_ret
  exact ⟨rfl, rfl⟩

/-- The byte at a place, and 0 where there is none. -/
def atI (l : List Nat) (i : Int) : Nat := if 0 ≤ i ∧ i < l.length then nth l i.toNat else 0
theorem atI_lt {l : List Nat} (h : ∀ x, x ∈ l → x < 256) (i : Int) : atI l i < 256 := by
  unfold atI; split
  · exact nth_lt h _
  · decide

set_option maxHeartbeats 400000 in
theorem at_out (a : Option Addr) (n cap : Nat) (i : Int) (w : World) (h : i < 0 ∨ (0 ≤ i ∧ (n : Int) ≤ i)) :
    Calls Try.prog 87 #[.slice a n cap, .int .i64 i] w fun e w' => e = .returned (.int .u8 0) ∧ w = w' := by
  rcases h with h | ⟨h0, h⟩
  · go_enter Try.func87, Try.ntmps87
    go_wp2_with fail
    go_ret
    exact ⟨rfl, rfl⟩
  · go_enter Try.func87, Try.ntmps87
    go_wp2_with fail
    go_ret
    exact ⟨rfl, rfl⟩

set_option maxHeartbeats 400000 in
theorem at_in (b off n cap : Nat) (l : List Nat) (k : Nat) (w : World) (hk : k < n) (hu : w.cell? ⟨b, off + k, none⟩ = some (U8 (nth l k))) :
    Calls Try.prog 87 #[.slice (some ⟨b, off, none⟩) n cap, .int .i64 k] w fun e w' => e = .returned (U8 (nth l k)) ∧ w = w' := by
  go_enter Try.func87, Try.ntmps87
  go_wp2_with fail
  go_ret
  exact ⟨rfl, rfl⟩

theorem at_any (v : Value) (l : List Nat) (i : Int) (w : World) (hB : Bytes w v l) :
    Calls Try.prog 87 #[v, .int .i64 i] w fun e w' => e = .returned (U8 (atI l i)) ∧ w = w' := by
  have hB0 := hB
  obtain ⟨a, cap, rfl, h1, h2, _, h4⟩ := hB
  unfold atI
  by_cases h : 0 ≤ i ∧ i < l.length
  · rw [if_pos h]
    obtain ⟨k, rfl⟩ := Int.eq_ofNat_of_zero_le h.1
    have hk : k < l.length := by omega
    obtain ⟨b, off, rfl, _, _⟩ := h4 (by intro e; rw [e] at hk; simp at hk)
    exact at_in b off _ cap l k w hk (hB0.cell k hk)
  · rw [if_neg h]
    exact at_out a _ cap i w (by omega)

/-- A unit. -/
def unitL (n k : Nat) : List Nat := (zeros n).set k 1

theorem make_vec (n : Nat) (hn : n ≤ 281474976710656) (w : World) :
    (Instr.makeSlice 59 (.int .i64 (n : Int)) (.int .i64 (n : Int))).run Try.prog w = .ok (whole w.heap.size n) (w.alloc (bytesObj (List.replicate n 0))) := by
  have hi : (Try.prog.info? 5).map (fun i => (i.zero, i.size, i.bytes)) = some (some (.int .u8 0), 1, 1) := by kernel_rfl
  obtain ⟨i0, hi, hz0, hz1, hz2⟩ := info_parts hi
  have h := run_make (P := Try.prog) w 59 5 i0 (.int .u8 0) Try.underlying59 hi hz0 .i64 .i64 n n (by omega) (by omega) (by rw [hz2]; omega) (by omega)
  rw [h, hz1]
  simp only [Int.toNat_natCast, Nat.mul_one]
  show _ = Result.ok (whole w.heap.size n) (w.alloc (.cells _ _))
  rw [← madeZeros]
  rfl

set_option maxHeartbeats 400000 in
theorem unit_in (n k : Nat) (w : World) (hk : k < n) (hn : n ≤ 65536) :
    Calls Try.prog 57 #[.int .i64 n, .int .i64 k] w (BytesE w (unitL n k) 0) := by
  have hmk := make_vec n (by omega)
  have hO := Own.new w (zeros n)
  have hf := hO.free k
  have hl : k < (zeros n).length := by rw [zeros_length]; exact hk
  have hc := hO.cell k hl
  have HO := Lib.hid hO
  clear hO hl
  unfold zeros at hc hf
  go_enter Try.func57, Try.ntmps57
  go_wp2_with fail
  go_ret2
  have h := HO.out.set k 1
  refine ⟨_, rfl, ?_, ((Below.refl _ _).alloc (Nat.le_refl _) _).setCell (Nat.le_refl _) _⟩
  have e : n = (unitL n k).length := by simp [unitL, zeros]
  have h2 := Own.bytes h (fun x hx => by
    rcases List.mem_or_eq_of_mem_set hx with h | h
    · exact zeros_lt n x h
    · omega) (by simp [zeros]; omega)
  rw [show ((zeros n).set k 1).length = n from by simp [zeros]] at h2
  exact h2

set_option maxHeartbeats 400000 in
theorem unit_out (n i : Int) (w : World) (h : 65536 < n ∨ (n ≤ 65536 ∧ (i < 0 ∨ (0 ≤ i ∧ n ≤ i)))) :
    Calls Try.prog 57 #[.int .i64 n, .int .i64 i] w (BytesE w [] 2) := by
  rcases h with h | ⟨h, h1 | ⟨h1, h2⟩⟩
  all_goals
    go_enter Try.func57, Try.ntmps57
    go_wp2_with fail
    go_ret2
    exact ⟨_, rfl, Bytes.nil _, Below.refl _ _⟩

/-- What Unit answers. -/
def unitV (n i : Int) : List Nat := if n ≤ 65536 ∧ 0 ≤ i ∧ i < n then unitL n.toNat i.toNat else []
def unitE (n i : Int) : Int := if n ≤ 65536 ∧ 0 ≤ i ∧ i < n then 0 else 2

theorem unit_any (n i : Int) (w : World) : Calls Try.prog 57 #[.int .i64 n, .int .i64 i] w (BytesE w (unitV n i) (unitE n i)) := by
  unfold unitV unitE
  by_cases h : n ≤ 65536 ∧ 0 ≤ i ∧ i < n
  · rw [if_pos h, if_pos h]
    obtain ⟨k, rfl⟩ := Int.eq_ofNat_of_zero_le h.2.1
    obtain ⟨m, rfl⟩ := Int.eq_ofNat_of_zero_le (show 0 ≤ n by omega)
    exact unit_in m k w (by omega) (by omega)
  · rw [if_neg h, if_neg h]
    exact unit_out n i w (by omega)

end Go.Proofs.Ytohfcdgpllghbaa
