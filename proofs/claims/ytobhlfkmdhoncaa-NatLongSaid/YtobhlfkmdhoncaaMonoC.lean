/-
  What the plain operations of a region answer: comparisons, loads, lengths.
-/
import Derived.Test.YtobhlfkmdhoncaaMonoB
set_option maxRecDepth 100000
namespace Go.Proofs.Ytobhlfkmdhoncaa
open Go.RowKit

theorem eql_int {x y : Operand} {a b : Int} {r : Bool} (h : (a == b) = r) (w : World) : (do eqGuard .eql 3 x y (.int .i64 a) (.int .i64 b); binOp .eql 3 (.int .i64 a) (.int .i64 b) : Sem Value).run Try.prog w = .ok (.bool r) w := by
  subst h; go_simp
theorem neq_int {x y : Operand} {a b : Int} {r : Bool} (h : (a != b) = r) (w : World) : (do eqGuard .neq 3 x y (.int .i64 a) (.int .i64 b); binOp .neq 3 (.int .i64 a) (.int .i64 b) : Sem Value).run Try.prog w = .ok (.bool r) w := by
  subst h; go_simp
theorem lss_int {x y : Operand} {a b : Int} {r : Bool} (h : (decide (a < b)) = r) (w : World) : (do eqGuard .lss 3 x y (.int .i64 a) (.int .i64 b); binOp .lss 3 (.int .i64 a) (.int .i64 b) : Sem Value).run Try.prog w = .ok (.bool r) w := by
  subst h; go_simp
theorem leq_int {x y : Operand} {a b : Int} {r : Bool} (h : (decide (a ≤ b)) = r) (w : World) : (do eqGuard .leq 3 x y (.int .i64 a) (.int .i64 b); binOp .leq 3 (.int .i64 a) (.int .i64 b) : Sem Value).run Try.prog w = .ok (.bool r) w := by
  subst h; go_simp
theorem gtr_int {x y : Operand} {a b : Int} {r : Bool} (h : (decide (b < a)) = r) (w : World) : (do eqGuard .gtr 3 x y (.int .i64 a) (.int .i64 b); binOp .gtr 3 (.int .i64 a) (.int .i64 b) : Sem Value).run Try.prog w = .ok (.bool r) w := by
  subst h; go_simp
theorem geq_int {x y : Operand} {a b : Int} {r : Bool} (h : (decide (b ≤ a)) = r) (w : World) : (do eqGuard .geq 3 x y (.int .i64 a) (.int .i64 b); binOp .geq 3 (.int .i64 a) (.int .i64 b) : Sem Value).run Try.prog w = .ok (.bool r) w := by
  subst h; go_simp
theorem eql_err {x y : Operand} {a b : Int} {r : Bool} (h : (a == b) = r) (w : World) : (do eqGuard .eql 32 x y (.int .i64 a) (.int .i64 b); binOp .eql 32 (.int .i64 a) (.int .i64 b) : Sem Value).run Try.prog w = .ok (.bool r) w := by
  subst h; go_simp
theorem neq_err {x y : Operand} {a b : Int} {r : Bool} (h : (a != b) = r) (w : World) : (do eqGuard .neq 32 x y (.int .i64 a) (.int .i64 b); binOp .neq 32 (.int .i64 a) (.int .i64 b) : Sem Value).run Try.prog w = .ok (.bool r) w := by
  subst h; go_simp
theorem lss_err {x y : Operand} {a b : Int} {r : Bool} (h : (decide (a < b)) = r) (w : World) : (do eqGuard .lss 32 x y (.int .i64 a) (.int .i64 b); binOp .lss 32 (.int .i64 a) (.int .i64 b) : Sem Value).run Try.prog w = .ok (.bool r) w := by
  subst h; go_simp
theorem leq_err {x y : Operand} {a b : Int} {r : Bool} (h : (decide (a ≤ b)) = r) (w : World) : (do eqGuard .leq 32 x y (.int .i64 a) (.int .i64 b); binOp .leq 32 (.int .i64 a) (.int .i64 b) : Sem Value).run Try.prog w = .ok (.bool r) w := by
  subst h; go_simp
theorem gtr_err {x y : Operand} {a b : Int} {r : Bool} (h : (decide (b < a)) = r) (w : World) : (do eqGuard .gtr 32 x y (.int .i64 a) (.int .i64 b); binOp .gtr 32 (.int .i64 a) (.int .i64 b) : Sem Value).run Try.prog w = .ok (.bool r) w := by
  subst h; go_simp
theorem geq_err {x y : Operand} {a b : Int} {r : Bool} (h : (decide (b ≤ a)) = r) (w : World) : (do eqGuard .geq 32 x y (.int .i64 a) (.int .i64 b); binOp .geq 32 (.int .i64 a) (.int .i64 b) : Sem Value).run Try.prog w = .ok (.bool r) w := by
  subst h; go_simp
theorem eql_u8 {x y : Operand} {a b : Int} {r : Bool} (h : (a == b) = r) (w : World) : (do eqGuard .eql 5 x y (.int .u8 a) (.int .u8 b); binOp .eql 5 (.int .u8 a) (.int .u8 b) : Sem Value).run Try.prog w = .ok (.bool r) w := by
  subst h; go_simp
theorem neq_u8 {x y : Operand} {a b : Int} {r : Bool} (h : (a != b) = r) (w : World) : (do eqGuard .neq 5 x y (.int .u8 a) (.int .u8 b); binOp .neq 5 (.int .u8 a) (.int .u8 b) : Sem Value).run Try.prog w = .ok (.bool r) w := by
  subst h; go_simp
theorem lss_u8 {x y : Operand} {a b : Int} {r : Bool} (h : (decide (a < b)) = r) (w : World) : (do eqGuard .lss 5 x y (.int .u8 a) (.int .u8 b); binOp .lss 5 (.int .u8 a) (.int .u8 b) : Sem Value).run Try.prog w = .ok (.bool r) w := by
  subst h; go_simp
theorem leq_u8 {x y : Operand} {a b : Int} {r : Bool} (h : (decide (a ≤ b)) = r) (w : World) : (do eqGuard .leq 5 x y (.int .u8 a) (.int .u8 b); binOp .leq 5 (.int .u8 a) (.int .u8 b) : Sem Value).run Try.prog w = .ok (.bool r) w := by
  subst h; go_simp
theorem gtr_u8 {x y : Operand} {a b : Int} {r : Bool} (h : (decide (b < a)) = r) (w : World) : (do eqGuard .gtr 5 x y (.int .u8 a) (.int .u8 b); binOp .gtr 5 (.int .u8 a) (.int .u8 b) : Sem Value).run Try.prog w = .ok (.bool r) w := by
  subst h; go_simp
theorem geq_u8 {x y : Operand} {a b : Int} {r : Bool} (h : (decide (b ≤ a)) = r) (w : World) : (do eqGuard .geq 5 x y (.int .u8 a) (.int .u8 b); binOp .geq 5 (.int .u8 a) (.int .u8 b) : Sem Value).run Try.prog w = .ok (.bool r) w := by
  subst h; go_simp
theorem eql_u32 {x y : Operand} {a b : Int} {r : Bool} (h : (a == b) = r) (w : World) : (do eqGuard .eql 95 x y (.int .u32 a) (.int .u32 b); binOp .eql 95 (.int .u32 a) (.int .u32 b) : Sem Value).run Try.prog w = .ok (.bool r) w := by
  subst h; go_simp
theorem neq_u32 {x y : Operand} {a b : Int} {r : Bool} (h : (a != b) = r) (w : World) : (do eqGuard .neq 95 x y (.int .u32 a) (.int .u32 b); binOp .neq 95 (.int .u32 a) (.int .u32 b) : Sem Value).run Try.prog w = .ok (.bool r) w := by
  subst h; go_simp
theorem lss_u32 {x y : Operand} {a b : Int} {r : Bool} (h : (decide (a < b)) = r) (w : World) : (do eqGuard .lss 95 x y (.int .u32 a) (.int .u32 b); binOp .lss 95 (.int .u32 a) (.int .u32 b) : Sem Value).run Try.prog w = .ok (.bool r) w := by
  subst h; go_simp
theorem leq_u32 {x y : Operand} {a b : Int} {r : Bool} (h : (decide (a ≤ b)) = r) (w : World) : (do eqGuard .leq 95 x y (.int .u32 a) (.int .u32 b); binOp .leq 95 (.int .u32 a) (.int .u32 b) : Sem Value).run Try.prog w = .ok (.bool r) w := by
  subst h; go_simp
theorem gtr_u32 {x y : Operand} {a b : Int} {r : Bool} (h : (decide (b < a)) = r) (w : World) : (do eqGuard .gtr 95 x y (.int .u32 a) (.int .u32 b); binOp .gtr 95 (.int .u32 a) (.int .u32 b) : Sem Value).run Try.prog w = .ok (.bool r) w := by
  subst h; go_simp
theorem geq_u32 {x y : Operand} {a b : Int} {r : Bool} (h : (decide (b ≤ a)) = r) (w : World) : (do eqGuard .geq 95 x y (.int .u32 a) (.int .u32 b); binOp .geq 95 (.int .u32 a) (.int .u32 b) : Sem Value).run Try.prog w = .ok (.bool r) w := by
  subst h; go_simp
theorem eql_u64 {x y : Operand} {a b : Int} {r : Bool} (h : (a == b) = r) (w : World) : (do eqGuard .eql 22 x y (.int .u64 a) (.int .u64 b); binOp .eql 22 (.int .u64 a) (.int .u64 b) : Sem Value).run Try.prog w = .ok (.bool r) w := by
  subst h; go_simp
theorem neq_u64 {x y : Operand} {a b : Int} {r : Bool} (h : (a != b) = r) (w : World) : (do eqGuard .neq 22 x y (.int .u64 a) (.int .u64 b); binOp .neq 22 (.int .u64 a) (.int .u64 b) : Sem Value).run Try.prog w = .ok (.bool r) w := by
  subst h; go_simp
theorem lss_u64 {x y : Operand} {a b : Int} {r : Bool} (h : (decide (a < b)) = r) (w : World) : (do eqGuard .lss 22 x y (.int .u64 a) (.int .u64 b); binOp .lss 22 (.int .u64 a) (.int .u64 b) : Sem Value).run Try.prog w = .ok (.bool r) w := by
  subst h; go_simp
theorem leq_u64 {x y : Operand} {a b : Int} {r : Bool} (h : (decide (a ≤ b)) = r) (w : World) : (do eqGuard .leq 22 x y (.int .u64 a) (.int .u64 b); binOp .leq 22 (.int .u64 a) (.int .u64 b) : Sem Value).run Try.prog w = .ok (.bool r) w := by
  subst h; go_simp
theorem gtr_u64 {x y : Operand} {a b : Int} {r : Bool} (h : (decide (b < a)) = r) (w : World) : (do eqGuard .gtr 22 x y (.int .u64 a) (.int .u64 b); binOp .gtr 22 (.int .u64 a) (.int .u64 b) : Sem Value).run Try.prog w = .ok (.bool r) w := by
  subst h; go_simp
theorem geq_u64 {x y : Operand} {a b : Int} {r : Bool} (h : (decide (b ≤ a)) = r) (w : World) : (do eqGuard .geq 22 x y (.int .u64 a) (.int .u64 b); binOp .geq 22 (.int .u64 a) (.int .u64 b) : Sem Value).run Try.prog w = .ok (.bool r) w := by
  subst h; go_simp
theorem eql_bool {x y : Operand} {a b r : Bool} (h : (a == b) = r) (w : World) : (do eqGuard .eql 4 x y (.bool a) (.bool b); binOp .eql 4 (.bool a) (.bool b) : Sem Value).run Try.prog w = .ok (.bool r) w := by
  subst h; cases a <;> cases b <;> go_simp
theorem neq_bool {x y : Operand} {a b r : Bool} (h : (a != b) = r) (w : World) : (do eqGuard .neq 4 x y (.bool a) (.bool b); binOp .neq 4 (.bool a) (.bool b) : Sem Value).run Try.prog w = .ok (.bool r) w := by
  subst h; cases a <;> cases b <;> go_simp

theorem load_bytes {w : World} {g k : Nat} {v : Value} (h : w.cell? ⟨g, k, none⟩ = some v) : (Instr.loadAt 31 (.pointer (some ⟨g, k, none⟩))).run Try.prog w = .ok v w := by
  go_simp
theorem load_int {w : World} {g k : Nat} {v : Value} (h : w.cell? ⟨g, k, none⟩ = some v) : (Instr.loadAt 3 (.pointer (some ⟨g, k, none⟩))).run Try.prog w = .ok v w := by
  go_simp

section
variable {P : Program} {C : World → Prop} {R : World → World → Prop} {H : Nat → World → World → Prop} {a : Act} {w : World} {o : Oper} {Q : Exit → Act → World → Prop}
/-- A field's address. -/
theorem ob_field {T : Ty C R H} {t : Tmp} {x : Operand} {E i : Nat} {p : Value} (v : Value) (hS : T.S = [t]) (hh : T.kind = none) (hd : o.dst = some t) (hlt : t < a.tmps.size) (hop : o.op = .fieldAddr E x i) (hx : a.eval x = p)
    (hrun : ∀ w, (Instr.fieldAt E p i).run P w = .ok v w) (hR : R w w) (hF : T.F [v] w) : Done P T Q o a w := by
  refine ob_value v w hS hh hd hlt ?_ hR hF
  simp [execOp, hop, hx, hrun]
/-- An operation that yields a value, and writes. -/
theorem ob_hard {T : Ty C R H} {t : Tmp} {c : Nat} (v : Value) (w1 : World) (hS : T.S = [t]) (hh : T.kind = some c) (hd : o.dst = some t) (hlt : t < a.tmps.size)
    (hrun : (execOp a.eval o).run P w = .ok (.value v) w1) (hH : H c w w1) (hF : T.F [v] w1) : Done P T Q o a w := by
  unfold Done Oper.wp
  rw [hrun]
  refine ⟨v, rfl, by unfold stepR; rw [hh]; exact hH, ?_⟩
  rw [hS, List.map_cons, List.map_nil, hd, eval_put_eq hlt]
  exact hF
/-- A store of which no temporary tells. -/
theorem ob_store0 {T : Ty C R H} {c : Nat} {E : TypeId} {x y : Operand} {p q : Value} (w1 : World) (hS : T.S = []) (hh : T.kind = some c) (hop : o.op = .store E x y) (hx : a.eval x = p) (hy : a.eval y = q)
    (hrun : (Instr.storeAt E p q).run P w = .ok () w1) (hH : H c w w1) (hF : T.F [] w1) : Done P T Q o a w := by
  unfold Done Oper.wp
  have e : (execOp a.eval o).run P w = .ok .skip w1 := by simp [execOp, hop, hx, hy, hrun]
  rw [e]
  refine ⟨undef, rfl, by unfold stepR; rw [hh]; exact hH, ?_⟩
  rw [hS, List.map_nil]
  exact hF
/-- An append's run. -/
theorem run_ob_append {s x : Operand} {t : TypeId} {v u v' : Value} {w1 : World} (hop : o.op = .call { callee := .builtin .append, args := #[s, x], argTypes := #[t, t] }) (hs : a.eval s = v) (hx : a.eval x = u)
    (hrun : (Builtin.append_ #[t, t] o.type #[v, u]).run P w = .ok v' w1) : (execOp a.eval o).run P w = .ok (.value v') w1 := by
  simp only [execOp, hop, resolve, invoke, builtin, Sem.run_bind, Sem.run_pure, Result.andThen_ok, List.map_toArray, List.map_cons, List.map_nil, hs, hx, hrun]
/-- A slice literal of one. -/
theorem ob_slice1 {T : Ty C R H} {t : Tmp} {x : Operand} {E : TypeId} {p : Value} (v : Value) (w1 : World) (hS : T.S = [t]) (hh : T.kind = none) (hd : o.dst = some t) (hlt : t < a.tmps.size) (hop : o.op = .buildSlice E 1 #[(0, x)]) (hx : a.eval x = p)
    (hrun : (Instr.buildSlice E 1 #[(0, p)]).run P w = .ok v w1) (hR : R w w1) (hF : T.F [v] w1) : Done P T Q o a w := by
  refine ob_value v w1 hS hh hd hlt ?_ hR hF
  simp [execOp, hop, hx, hrun]
/-- Not. -/
theorem ob_not {T : Ty C R H} {t : Tmp} {x : Operand} {E : TypeId} {b : Bool} (hS : T.S = [t]) (hh : T.kind = none) (hd : o.dst = some t) (hlt : t < a.tmps.size) (hop : o.op = .unOp .not E x) (hx : a.eval x = .bool b)
    (hR : R w w) (hF : T.F [.bool (!b)] w) : Done P T Q o a w := by
  refine ob_value (.bool (!b)) w hS hh hd hlt ?_ hR hF
  simp [execOp, hop, hx, Op.unary]
/-- A length. -/
theorem ob_len {T : Ty C R H} {t : Tmp} {x : Operand} {E : TypeId} {ad : Option Addr} {n c : Nat} (hS : T.S = [t]) (hh : T.kind = none) (hd : o.dst = some t) (hlt : t < a.tmps.size) (hop : o.op = .call { callee := .builtin .len, args := #[x], argTypes := #[E] }) (hx : a.eval x = .slice ad n c)
    (hrun : ∀ w, (Builtin.len_ #[E] o.type #[.slice ad n c]).run P w = .ok (.int .i64 n) w) (hR : R w w) (hF : T.F [.int .i64 n] w) : Done P T Q o a w := by
  refine ob_value (.int .i64 n) w hS hh hd hlt ?_ hR hF
  simp [execOp, hop, resolve, invoke, builtin, hx, hrun]
end

theorem len_bytes {ty : TypeId} (ad : Option Addr) (n c : Nat) (w : World) : (Builtin.len_ #[31] ty #[.slice ad n c]).run Try.prog w = .ok (.int .i64 n) w := by go_simp
end Go.Proofs.Ytobhlfkmdhoncaa
