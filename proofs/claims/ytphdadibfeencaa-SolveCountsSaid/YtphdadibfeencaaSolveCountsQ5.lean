/- Texts of one seat, laid together: MonoB, MonoC, MonoRow, MonoE, RefGridC, RowsM, RefGridD, LibBytes, VecA. -/
import Derived.Test.YtphdadibfeencaaSolveCountsQ4
import Derived.Test.YtphdadibfeencaaSolveCountsQ3
import Derived.Test.YtphdadibfeencaaSolveCountsQ2
import Derived.Laws.BytesArg
import Derived.Lib.SliceRun

/-
  What is said of operations in a region that draws its order: slices of bytes, rows, boxes.
-/
set_option maxRecDepth 100000
namespace Go.Proofs.Ytphdadibfeencaa
open Go.RowKit

/-- The worlds behind W in which of what was there nothing has turned. -/
abbrev Cb (W : World) : World → Prop := fun w => Below W.heap.size W w
/-- A step that turns nothing of what is there. -/
abbrev Rb : World → World → Prop := fun w w' => Below w.heap.size w w'
/-- No bytes are among them. -/
def NoU8 (vs : Array Value) : Prop := ∀ (i n : Nat), vs[i]? ≠ some (U8 n)
/-- A step that writes a box which was made behind W, and holds no bytes. -/
def Hb (W : World) (w w' : World) : Prop := ∃ g vs vs' T, W.heap.size ≤ g ∧ Blk w g vs T ∧ NoU8 vs ∧ w.grownBy w' (some g) ∧ Blk w' g vs' T ∧ vs'.size = vs.size ∧ NoU8 vs'

theorem hC_b (W : World) : ∀ w w', Cb W w → Rb w w' → Cb W w' := fun _ _ h h' => h.trans (h'.mono h.size)
theorem hCH_b (W : World) : ∀ (_ : Nat) w w', Cb W w → Hb W w w' → Cb W w' := fun _ _ _ h ⟨_, _, _, _, hg, _, _, hw, _⟩ => below_grown h hw h.size hg
theorem drew_b (W : World) : Cb W W.drew := (Below.refl _ _).drew

theorem Bytes.hard {W w w' : World} {v : Value} {l : List Nat} (h : Bytes w v l) (hh : Hb W w w') : Bytes w' v l := by
  obtain ⟨g, vs, vs', T, _, hb, hn, hw, _⟩ := hh
  exact h.other hb hn hw
variable {W : World}

abbrev TyB (W : World) := Ty (Cb W) Rb (fun _ => Hb W)

/-- A box made anew. -/
def IsBox (W w : World) (v : Value) (n : Nat) (T : TypeId) : Prop := ∃ g vs, v = .pointer (some ⟨g, 0, none⟩) ∧ W.heap.size ≤ g ∧ Blk w g vs T ∧ vs.size = n ∧ NoU8 vs
theorem IsBox.go {w w' : World} {v : Value} {n : Nat} {T : TypeId} (h : IsBox W w v n T) (hb : Below w.heap.size w w') : IsBox W w' v n T := by
  obtain ⟨g, vs, e, hg, hk, hs, hn⟩ := h
  exact ⟨g, vs, e, hg, hk.go hb, hs, hn⟩
theorem IsBox.hard {w w' : World} {v : Value} {n : Nat} {T : TypeId} (h : IsBox W w v n T) (hh : Hb W w w') : IsBox W w' v n T := by
  obtain ⟨g, vs, e, hg, hk, hs, hn⟩ := h
  obtain ⟨g', us, us', T', hg', hb, hn', hw, hb', hs', hn''⟩ := hh
  by_cases hgg : g = g'
  · subst hgg
    have hk' : w.heap[g]? = some (.cells vs T) := hk
    have hb0 : w.heap[g]? = some (.cells us T') := hb
    rw [hk'] at hb0
    simp only [Option.some.injEq, Obj.cells.injEq, and_true] at hb0
    obtain ⟨rfl, rfl⟩ := hb0
    exact ⟨g, us', e, hg, hb', by rw [hs', hs], hn''⟩
  · exact ⟨g, vs, e, hg, hk.grown hw (by simpa using hgg), hs, hn⟩
def Ty.box (t : Tmp) (n : Nat) (T : TypeId) : TyB W := Ty.one t (fun v w => IsBox W w v n T) (fun _ _ _ _ hR h => h.go hR) (fun _ _ _ _ _ hH h => h.hard hH)

theorem noU8_two (x y : Value) (hx : ∀ n : Nat, x ≠ U8 n) (hy : ∀ n : Nat, y ≠ U8 n) : NoU8 #[x, y] := no_bytes2 x y hx hy

end Go.Proofs.Ytphdadibfeencaa

/-
  What the plain operations of a region answer: comparisons, loads, lengths.
-/
set_option maxRecDepth 100000
namespace Go.Proofs.Ytphdadibfeencaa
open Go.RowKit

theorem eql_int {x y : Operand} {a b : Int} {r : Bool} (h : (a == b) = r) (w : World) : (do eqGuard .eql 3 x y (.int .i64 a) (.int .i64 b); binOp .eql 3 (.int .i64 a) (.int .i64 b) : Sem Value).run Try.prog w = .ok (.bool r) w := by
  subst h; go_simp
theorem geq_int {x y : Operand} {a b : Int} {r : Bool} (h : (decide (b ≤ a)) = r) (w : World) : (do eqGuard .geq 3 x y (.int .i64 a) (.int .i64 b); binOp .geq 3 (.int .i64 a) (.int .i64 b) : Sem Value).run Try.prog w = .ok (.bool r) w := by
  subst h; go_simp
theorem neq_err {x y : Operand} {a b : Int} {r : Bool} (h : (a != b) = r) (w : World) : (do eqGuard .neq 31 x y (.int .i64 a) (.int .i64 b); binOp .neq 31 (.int .i64 a) (.int .i64 b) : Sem Value).run Try.prog w = .ok (.bool r) w := by
  subst h; go_simp
theorem neq_bool {x y : Operand} {a b r : Bool} (h : (a != b) = r) (w : World) : (do eqGuard .neq 4 x y (.bool a) (.bool b); binOp .neq 4 (.bool a) (.bool b) : Sem Value).run Try.prog w = .ok (.bool r) w := by
  subst h; cases a <;> cases b <;> go_simp

theorem load_vec {w : World} {g k : Nat} {v : Value} (h : w.cell? ⟨g, k, none⟩ = some v) : (Instr.loadAt 50 (.pointer (some ⟨g, k, none⟩))).run Try.prog w = .ok v w := by
  go_simp
theorem load_int {w : World} {g k : Nat} {v : Value} (h : w.cell? ⟨g, k, none⟩ = some v) : (Instr.loadAt 3 (.pointer (some ⟨g, k, none⟩))).run Try.prog w = .ok v w := by
  go_simp

section
variable {P : Program} {C : World → Prop} {R : World → World → Prop} {H : Nat → World → World → Prop} {a : Act} {w : World} {o : Oper} {Q : Exit → Act → World → Prop}
/-- A field's address. -/
theorem ob_field {T : Ty C R H} {t : Tmp} {x : Operand} {E i : Nat} {p : Value} (v : Value) (hS : T.S = [t]) (hh : T.kind = none) (hd : o.dst = some t) (hlt : t < a.tmps.size) (hop : o.op = .fieldAddr E x i) (hx : a.eval x = p)
    (hrun : ∀ w, (Instr.fieldAt E p i).run P w = .ok v w) (hR : R w w) (hF : T.F [v] w) : Done P T Q o a w := by
  refine ob_value v w hS hh hd hlt ?_ hR hF
  simp [execOp, hop, hx, hrun]
/-- An element's address. -/
theorem ob_index {T : Ty C R H} {t : Tmp} {x y : Operand} {E : TypeId} {p q : Value} (v : Value) (hS : T.S = [t]) (hh : T.kind = none) (hd : o.dst = some t) (hlt : t < a.tmps.size) (hop : o.op = .indexAddr E x y) (hx : a.eval x = p) (hy : a.eval y = q)
    (hrun : (Instr.indexAt E p q).run P w = .ok v w) (hR : R w w) (hF : T.F [v] w) : Done P T Q o a w := by
  refine ob_value v w hS hh hd hlt ?_ hR hF
  simp [execOp, hop, hx, hy, hrun]
/-- A store of which no temporary tells. -/
theorem ob_store0 {T : Ty C R H} {c : Nat} {E : TypeId} {x y : Operand} {p q : Value} (w1 : World) (hS : T.S = []) (hh : T.kind = some c) (hop : o.op = .store E x y) (hx : a.eval x = p) (hy : a.eval y = q)
    (hrun : (Instr.storeAt E p q).run P w = .ok () w1) (hH : H c w w1) (hF : T.F [] w1) : Done P T Q o a w := by
  unfold Done Oper.wp
  have e : (execOp a.eval o).run P w = .ok .skip w1 := by simp [execOp, hop, hx, hy, hrun]
  rw [e]
  refine ⟨undef, rfl, by unfold stepR; rw [hh]; exact hH, ?_⟩
  rw [hS, List.map_nil]
  exact hF
/-- A slice literal of one. -/
theorem ob_slice1 {T : Ty C R H} {t : Tmp} {x : Operand} {E : TypeId} {p : Value} (v : Value) (w1 : World) (hS : T.S = [t]) (hh : T.kind = none) (hd : o.dst = some t) (hlt : t < a.tmps.size) (hop : o.op = .buildSlice E 1 #[(0, x)]) (hx : a.eval x = p)
    (hrun : (Instr.buildSlice E 1 #[(0, p)]).run P w = .ok v w1) (hR : R w w1) (hF : T.F [v] w1) : Done P T Q o a w := by
  refine ob_value v w1 hS hh hd hlt ?_ hR hF
  simp [execOp, hop, hx, hrun]
/-- Not. -/
theorem ob_not {T : Ty C R H} {t : Tmp} {x : Operand} {E : TypeId} {b : Bool} (hS : T.S = [t]) (hh : T.kind = none) (hd : o.dst = some t) (hlt : t < a.tmps.size) (hop : o.op = .unOp .not E x) (hx : a.eval x = .bool b)
    (hR : R w w) (hF : T.F [.bool (!b)] w) : Done P T Q o a w := by
  refine ob_value (.bool (!b)) w hS hh hd hlt ?_ hR hF
  simp [execOp, hop, hx, Op.unary]
/-- A length. -/
theorem ob_len {T : Ty C R H} {t : Tmp} {x : Operand} {E : TypeId} {ad : Option Addr} {n c : Nat} (hS : T.S = [t]) (hh : T.kind = none) (hd : o.dst = some t) (hlt : t < a.tmps.size) (hop : o.op = .call { callee := .builtin .len, args := #[x], argTypes := #[E] }) (hx : a.eval x = .slice ad n c)
    (hrun : ∀ w, (Builtin.len_ #[E] o.type #[.slice ad n c]).run P w = .ok (.int .i64 n) w) (hR : R w w) (hF : T.F [.int .i64 n] w) : Done P T Q o a w := by
  refine ob_value (.int .i64 n) w hS hh hd hlt ?_ hR hF
  simp [execOp, hop, resolve, invoke, builtin, hx, hrun]
end

end Go.Proofs.Ytphdadibfeencaa

/-
  Rows in a region that draws its order: what is said of them, loads and stores; 'Less' of any two.
-/
set_option maxRecDepth 100000
namespace Go.Proofs.Ytphdadibfeencaa
open Go.RowKit

theorem IsRow.go {w w' : World} {u : Value} {p q : List Nat} (h : IsRow w u p q) (hb : Below w.heap.size w w') : IsRow w' u p q := h.below (Nat.le_refl _) hb

theorem IsRow.shape {w : World} {u : Value} {p q : List Nat} (h : IsRow w u p q) : ∃ a c a' c', u = .agg #[.slice a p.length c, .slice a' q.length c'] := by
  obtain ⟨v, d, rfl, ⟨a, c, rfl, _⟩, ⟨a', c', rfl, _⟩⟩ := h
  exact ⟨a, c, a', c', rfl⟩
section
variable {W : World}
end

/-- A row out of its box. -/
theorem load_vecrow {w : World} {g : Nat} {x y : Value} {T : TypeId} (h : Blk w g #[x, y] T) : (Instr.loadAt 52 (.pointer (some ⟨g, 0, none⟩))).run Try.prog w = .ok (.agg #[x, y]) w := by
  obtain ⟨k0, k1⟩ := h.two
  go_simp
end Go.Proofs.Ytphdadibfeencaa

/-
  A region that draws its order, reads a box that was there ahead of it, and writes it.
-/
set_option maxRecDepth 100000
namespace Go.Proofs.Ytphdadibfeencaa
open Go.RowKit

/-- The worlds behind W in which of what was there only block g has turned, and no byte. -/
abbrev Ce (W : World) (g : Nat) : World → Prop := fun w => W.grownBy w (some g) ∧ Soft W w
/-- A step that writes block g (kind 0), or a box made anew. -/
def He (W : World) (g : Nat) (c : Nat) (w w' : World) : Prop := if c = 0 then w.grownBy w' (some g) ∧ Soft w w' else Hb W w w'

theorem Hb.soft {W w w' : World} (h : Hb W w w') : Soft w w' := by
  obtain ⟨g, vs, vs', T, _, hk, hn, hg, hk', _, hn'⟩ := h
  exact Soft.of_box hg hk hn hk' hn'
theorem He.soft {W : World} {g c : Nat} {w w' : World} (h : He W g c w w') : Soft w w' := by
  unfold He at h; split at h
  · exact h.2
  · exact h.soft
theorem hC_e (W : World) (g : Nat) : ∀ w w', Ce W g w → Rb w w' → Ce W g w' := fun _ _ h h' => ⟨grown_trans h.1 (grown_of_below h' _), h.2.trans (Soft.of_below h')⟩
theorem hCH_e (W : World) (g : Nat) : ∀ (c : Nat) w w', Ce W g w → He W g c w w' → Ce W g w' := by
  intro c w w' h hH
  refine ⟨?_, h.2.trans hH.soft⟩
  unfold He at hH; split at hH
  · exact grown_trans h.1 hH.1
  · obtain ⟨g', vs, vs', T, hg', hk, hn, hw, _⟩ := hH
    refine ⟨hw.os.trans h.1.os, hw.tape.trans h.1.tape, hw.output.trans h.1.output, Nat.le_trans h.1.size hw.size, fun k hk hne => ?_⟩
    rw [hw.block k (Nat.lt_of_lt_of_le hk h.1.size) (by simp; omega)]
    exact h.1.block k hk hne
theorem drew_e (W : World) (g : Nat) : Ce W g W.drew := ⟨grown_of_below ((Below.refl _ _).drew) _, Soft.of_below ((Below.refl _ _).drew)⟩

theorem Blk.ce {W w : World} {g b : Nat} {vs : Array Value} {T : TypeId} (h : Blk W b vs T) (hC : Ce W g w) (hne : b ≠ g) : Blk w b vs T := h.grown hC.1 (by simpa using hne)
theorem Bytes.ce {W w : World} {g : Nat} {v : Value} {l : List Nat} (h : Bytes W v l) (hC : Ce W g w) : Bytes w v l := h.soft hC.2
section
variable {W : World} {g : Nat}
/-- Of one temporary, kept where bytes are. -/
def TyE.soft (t : Tmp) (F : Value → World → Prop) (h : ∀ v w w', Soft w w' → F v w → F v w') : Ty (Ce W g) Rb (He W g) :=
  Ty.one t F (fun v w w' _ hR hF => h v w w' (Soft.of_below hR) hF) (fun _ v w w' _ hH hF => h v w w' hH.soft hF)
def TyE.val (t : Tmp) (v : Value) : Ty (Ce W g) Rb (He W g) := Ty.val t v
def TyE.row (t : Tmp) (p q : List Nat) : Ty (Ce W g) Rb (He W g) := TyE.soft t (fun v w => IsRow w v p q) fun _ _ _ hs h => h.soft hs
def not0 : Nat → Bool := fun c => decide (c ≠ 0)
/-- The box holds a row. -/
def ERow (w : World) (g : Nat) (T : TypeId) (p q : List Nat) : Prop := ∃ a c a' c', Blk w g #[.slice a p.length c, .slice a' q.length c'] T ∧ IsRow w (.agg #[.slice a p.length c, .slice a' q.length c']) p q
end

theorem store_row {w : World} {g : Nat} {x y x' y' : Value} {T : TypeId} (hk : Blk w g #[x, y] T) (hn : NoU8 #[x, y]) {v : Value} {p q : List Nat} (hV : IsRow w v p q) (hst : ∀ a c a' c', v = .agg #[.slice a p.length c, .slice a' q.length c'] → ∃ u0 u1, (.slice a p.length c) = u0 ∧ (.slice a' q.length c') = u1 ∧ x' = u0 ∧ y' = u1) :
    w.grownBy ((w.setCell ⟨g, 0, none⟩ x').setCell ⟨g, 1, none⟩ y') (some g) ∧ Soft w ((w.setCell ⟨g, 0, none⟩ x').setCell ⟨g, 1, none⟩ y') ∧ ERow ((w.setCell ⟨g, 0, none⟩ x').setCell ⟨g, 1, none⟩ y') g T p q := by
  obtain ⟨a, c, a', c', e⟩ := hV.shape
  obtain ⟨_, _, rfl, rfl, rfl, rfl⟩ := hst a c a' c' e
  have hgr : w.grownBy ((w.setCell ⟨g, 0, none⟩ (.slice a p.length c)).setCell ⟨g, 1, none⟩ (.slice a' q.length c')) (some g) := grown_trans (grown_setCell w ⟨g, 0, none⟩ _) (grown_setCell _ ⟨g, 1, none⟩ _)
  have h2 := hk.set2 (.slice a p.length c) (.slice a' q.length c')
  have hs := Soft.of_box hgr hk hn h2 (noU8_two _ _ (slice_ne _ _ _) (slice_ne _ _ _))
  rw [e] at hV
  exact ⟨hgr, hs, a, c, a', c', h2, hV.soft hs⟩

end Go.Proofs.Ytphdadibfeencaa

/-
  The document's answer for grids (wellspringref07), in the program: 'Rank', 'Turned', 'Mul', 'Of', 'Same'.
-/
set_option maxRecDepth 100000
namespace Go.Proofs.Ytphdadibfeencaa
open Go.RowKit

namespace Ro
/-- Rows without data. -/
def bare (ll : List (List Nat)) : List Rw := ll.map fun l => (l, [])
theorem put_length (L : List Rw) (y : Rw) : (put L y).length = L.length + 1 := by
  unfold put
  have := ahead_le L y
  simp; omega
end Ro

end Go.Proofs.Ytphdadibfeencaa

/-
  Lists of slices of bytes that a call makes and appends to.
-/
set_option maxRecDepth 100000
namespace Go.Proofs.Ytphdadibfeencaa
open Go.RowKit

/-- Each value reads as its row. -/
structure EachB (w : World) (us : List Value) (ll : List (List Nat)) : Prop where
  len : us.length = ll.length
  row : ∀ i u, us[i]? = some u → Bytes w u (rowAt ll i)
theorem EachB.nil (w : World) : EachB w [] [] := ⟨rfl, fun i u h => by simp at h⟩
theorem EachB.soft {w w' : World} {us : List Value} {ll : List (List Nat)} (h : EachB w us ll) (hs : Soft w w') : EachB w' us ll := ⟨h.len, fun i u hu => (h.row i u hu).soft hs⟩
theorem EachB.append {w : World} {us vs : List Value} {L M : List (List Nat)} (h : EachB w us L) (k : EachB w vs M) : EachB w (us ++ vs) (L ++ M) := by
  refine ⟨by simp [h.len, k.len], fun i u hu => ?_⟩
  by_cases hi : i < us.length
  · rw [List.getElem?_append_left hi] at hu
    have := h.row i u hu
    rw [show rowAt (L ++ M) i = rowAt L i from by unfold rowAt; rw [List.getD_eq_getElem?_getD, List.getElem?_append_left (by rw [← h.len]; exact hi), ← List.getD_eq_getElem?_getD]]
    exact this
  · rw [List.getElem?_append_right (by omega)] at hu
    have := k.row _ u hu
    rw [show rowAt (L ++ M) i = rowAt M (i - us.length) from by unfold rowAt; rw [List.getD_eq_getElem?_getD, List.getElem?_append_right (by rw [← h.len]; omega), ← List.getD_eq_getElem?_getD, h.len]]
    exact this
theorem EachB.one {w : World} {u : Value} {l : List Nat} (h : Bytes w u l) : EachB w [u] [l] := ⟨rfl, fun i v hv => by
  cases i with
  | zero => simp at hv; subst hv; exact h
  | succ i => simp at hv⟩
theorem EachB.noU8 {w : World} {us : List Value} {ll : List (List Nat)} (h : EachB w us ll) : ∀ x ∈ us, (∀ k : Nat, x ≠ U8 k) ∧ x.oneCell' = true := by
  intro x hx
  obtain ⟨i, hi⟩ := List.mem_iff_getElem?.1 hx
  obtain ⟨a, c, rfl, _⟩ := h.row i x hi
  exact ⟨slice_ne _ _ _, rfl⟩

/-- The value is a list of slices of bytes whose block, from B on, the call made itself, or none yet. -/
def OwnM (w : World) (B : Nat) (T : TypeId) (v : Value) (ll : List (List Nat)) : Prop := ∃ us, OwnN w B T 1 v ll.length us ∧ EachB w us ll

theorem OwnM.nil (w : World) (B : Nat) (T : TypeId) : OwnM w B T (.slice none 0 0) [] := ⟨[], OwnN.nil _ _ _ _, EachB.nil _⟩
theorem OwnM.go {w w' : World} {B : Nat} {T : TypeId} {v : Value} {L : List (List Nat)} (h : OwnM w B T v L) (hb : Below w.heap.size w w') : OwnM w' B T v L := by
  obtain ⟨us, h1, h2⟩ := h; exact ⟨us, h1.go hb, h2.soft (Soft.of_below hb)⟩
theorem OwnM.from {w : World} {B : Nat} {T : TypeId} {v : Value} {L : List (List Nat)} (h : OwnM w B T v L) : ∀ k, v.ownBlock = some k → B ≤ k := by obtain ⟨us, h1, _⟩ := h; exact h1.from
/-- A block that isn't its own was written, and no byte but there. -/
theorem OwnM.other {w w' : World} {B : Nat} {T : TypeId} {v : Value} {L : List (List Nat)} {row : Option Nat} (h : OwnM w B T v L) (hg : w.grownBy w' row) (hs : Soft w w') (hne : v.ownBlock = none ∨ v.ownBlock ≠ row) : OwnM w' B T v L := by
  obtain ⟨us, h1, h2⟩ := h
  exact ⟨us, h1.keep hg hne, h2.soft hs⟩
theorem OwnM.shape {w : World} {B : Nat} {T : TypeId} {v : Value} {L : List (List Nat)} (h : OwnM w B T v L) : ∃ a c, v = .slice a L.length c := by
  obtain ⟨us, ⟨⟨_, h1⟩, _⟩, _⟩ := h
  rcases h1 with ⟨rfl, h0⟩ | ⟨g, cap, cur, rfl, _⟩
  · rw [h0]; exact ⟨_, _, rfl⟩
  · exact ⟨_, _, rfl⟩
theorem rows_add (b o j : Nat) : (⟨b, o, none⟩ : Addr).add j = ⟨b, o + j, none⟩ := by unfold Addr.add; split <;> simp_all
theorem OwnM.rows {w : World} {B : Nat} {T : TypeId} {v : Value} {L : List (List Nat)} (h : OwnM w B T v L) : IsRows w v L := by
  obtain ⟨us, ⟨h1, _⟩, h2⟩ := h
  have h1' := h1
  rcases h1.2 with ⟨rfl, h0⟩ | ⟨g, cap, cur, rfl, hB, hg, hn, hc, hsz, ht⟩
  · have e : L = [] := List.length_eq_zero_iff.1 h0
    subst e
    exact ⟨none, 0, rfl, by simp, by omega, fun h => absurd rfl h⟩
  · refine ⟨_, cap, rfl, hn, by simpa [maxLen] using hc, fun _ => ⟨g, 0, rfl, (Array.getElem?_eq_some_iff.1 hg).1, fun i hi => ?_⟩⟩
    have hi' : i < us.length := by rw [h2.len]; exact hi
    have c1 := World.ownsRow.cells h1' (g := g) rfl _ _ (List.getElem?_eq_getElem hi')
    rw [rows_add] at c1
    exact ⟨us[i], c1, h2.row i us[i] (List.getElem?_eq_getElem hi')⟩

/-- 'out = append(out, u)', of one slice of bytes. -/
theorem wpList_append_m {ops : Array Oper} {rest : List Oper} {o : Oper} {a : Act} {Q : Exit → Act → World → Prop} {w : World} (hgd : o.guard = none) (s x : Operand) (ho : o.op = .call { callee := .builtin .append, args := #[s, x], argTypes := #[47, 47] })
    (B k : Nat) (v u : Value) (ll : List (List Nat)) (l : List Nat) (T : TypeId) (hs : a.eval s = v) (hx : a.eval x = .slice (some ⟨k, 0, none⟩) 1 1) (hk : k = w.heap.size) (hu : Bytes w u l) (hown : OwnM w B 40 v ll) (hB : B ≤ w.heap.size) (hn : ll.length + 1 ≤ 1000000000000)
    (h : ∀ v' w', OwnM w' B 40 v' (ll ++ [l]) → (w.alloc (.cells #[u] T)).grownBy w' v.ownBlock → Soft (w.alloc (.cells #[u] T)) w' → wpList Try.prog ops Q rest (a.put o.dst v') w') :
    wpList Try.prog ops Q (o :: rest) a (w.alloc (.cells #[u] T)) := by
  subst hk
  obtain ⟨i0, hi, hz0, hz1, hz2⟩ := info_parts infoRow
  have hb : Below w.heap.size w (w.alloc (.cells #[u] T)) := (Below.refl _ _).alloc (Nat.le_refl _) _
  obtain ⟨us, h1, h2⟩ := hown
  have hE := (EachB.one hu).soft (Soft.of_below hb)
  refine wpList_append_soft hgd s x 47 ho B 40 i0 (.slice none 0 0) 1 24 Try.underlying47 hi hz0 hz1 hz2 rfl (by decide) v ll.length us hs (h1.go hb)
    ⟨w.heap.size, 0, none⟩ 1 1 [u] hx rfl ?_ (fun y hy => (hE.noU8 y hy).2) (fun y hy => by simp [Value.cells] at hy; subst hy; exact slice_ne _ _ _) (fun y hy => (hE.noU8 y hy).1) ?_ ?_ (Nat.le_trans hB (by simp)) ?_
  · intro j y hj
    match j, hj with
    | 0, hj => simp at hj; subst hj; simp [Addr.add]
  · unfold maxLen; omega
  · omega
  · intro v' w' k1 k2 k3
    refine h v' w' ⟨us ++ [u], ?_, ?_⟩ k2 k3
    · rw [List.length_append]; exact k1
    · exact ((h2.soft (Soft.of_below hb)).append hE).soft k3

end Go.Proofs.Ytphdadibfeencaa

/-
  The document's answer for grids (wellspringref07), in the program: 'Of', 'Same', 'Turned'.
-/
set_option maxRecDepth 100000
namespace Go.Proofs.Ytphdadibfeencaa
open Go.RowKit

/-- A row of whatever slice of slices, at a world behind; its address. -/
theorem IsRows.row {w w' : World} {a : Option Addr} {n c : Nat} {ll : List (List Nat)} (h : IsRows w (.slice a n c) ll) (hb : Below w.heap.size w w') (k : Nat) (hk : k < ll.length) : ∃ b off u, a = some ⟨b, off, none⟩ ∧ w'.cell? ⟨b, off + k, none⟩ = some u ∧ Bytes w' u (rowAt ll k) := by
  have h0 := h
  obtain ⟨a', cap, e, _, _, h4⟩ := h
  simp only [Value.slice.injEq] at e
  obtain ⟨rfl, rfl, rfl⟩ := e
  obtain ⟨b, off, rfl, _, _⟩ := h4 (by intro e; rw [e] at hk; simp at hk)
  obtain ⟨u, hu, hB⟩ := h0.at hb k hk
  exact ⟨b, off, u, rfl, hu, hB.go hb⟩
theorem IsRows.shape {w : World} {v : Value} {ll : List (List Nat)} (h : IsRows w v ll) : ∃ a c, v = .slice a ll.length c := by obtain ⟨a, cap, rfl, _⟩ := h; exact ⟨a, cap, rfl⟩
end Go.Proofs.Ytphdadibfeencaa

/-
  The library's Clone and Equal, of bytes.
-/
set_option maxRecDepth 100000
namespace Go.Proofs.Ytphdadibfeencaa
open Go.RowKit

/-- The bytes as a string's. -/
def strOf (l : List Nat) : ByteArray := strOfNums (l.map Int.ofNat)

theorem strOf_inj {x y : List Nat} (hx : ∀ z, z ∈ x → z < 256) (hy : ∀ z, z ∈ y → z < 256) (h : strOf x = strOf y) : x = y := by
  have e : ∀ l : List Nat, (∀ z, z ∈ l → z < 256) → (strOf l).data.toList.map UInt8.toNat = l := by
    intro l hl
    unfold strOf
    rw [strOfNums_data, List.map_map, List.map_map]
    conv => rhs; rw [← List.map_id l]
    refine List.map_congr_left fun z hz => ?_
    have := hl z hz
    simp [Nat.mod_eq_of_lt this]
  rw [← e x hx, ← e y hy, h]

theorem strOf_dec {x y : List Nat} (hx : ∀ z, z ∈ x → z < 256) (hy : ∀ z, z ∈ y → z < 256) : ((strOf x).toList == (strOf y).toList) = decide (x = y) := by
  rw [ByteArray.toList_eq, ByteArray.toList_eq]
  by_cases h : x = y
  · subst h; simp
  · rw [decide_eq_false h, beq_eq_false_iff_ne]
    refine fun e => h (strOf_inj hx hy ?_)
    cases hx' : strOf x; cases hy' : strOf y
    rw [hx', hy'] at e
    simpa using e

theorem convert_empty (w : World) (p : Option Addr) (c : Nat) : (convert 40 9 (.slice p 0 c)).run Try.prog w = .ok (.string ByteArray.empty) w := by
  rw [run_convert_bytes_string w 40 9 5 _ 0 c Try.underlying40 Try.underlying5 Try.underlying9]
  cases p <;> simp [Conv.bytesToString, loadCells]
  all_goals rfl

/-- 'string(b)'. -/
theorem convert_bytes {w : World} {v : Value} {l : List Nat} (h : Bytes w v l) : (convert 40 9 v).run Try.prog w = .ok (.string (strOf l)) w := by
  obtain ⟨a, cap, rfl, h1, h2, h3, h4⟩ := h
  cases l with
  | nil =>
    exact convert_empty w a cap
  | cons x l =>
    obtain ⟨b, off, rfl, hlt, hc⟩ := h4 (by simp)
    refine run_convert_bytes_arg (P := Try.prog) w 40 5 Try.underlying40 Try.underlying5 b off _ cap ((x :: l).map Int.ofNat) (by simp) (fun i hi => ?_) 9 Try.underlying9
    rw [hc i hi, nth_eq _ i hi]
    simp only [List.getD_eq_getElem?_getD, List.getElem?_map, List.getElem?_eq_getElem hi]
    rfl

set_option maxHeartbeats 400000 in
theorem equal_any (v0 v1 : Value) (x y : List Nat) (w : World) (h0 : Bytes w v0 x) (h1 : Bytes w v1 y) :
    Calls Try.prog 40 #[v0, v1] w fun e w' => e = .returned (.bool (decide (x = y))) ∧ w = w' := by
  have c0 := convert_bytes h0
  have c1 := convert_bytes h1
  have HD := Lib.hid (strOf_dec h0.lt h1.lt)
  obtain ⟨a0, k0, rfl, _⟩ := h0
  obtain ⟨a1, k1, rfl, _⟩ := h1
  go_enter Try.func40, Try.ntmps40
  go_wp2_with fail
  go_ret
  exact ⟨by rw [← HD.out]; rfl, rfl⟩

set_option maxHeartbeats 400000 in
theorem clone_nil (cap : Nat) (w : World) :
    Calls Try.prog 38 #[.slice none 0 cap] w (BytesV w []) := by
  have hq := Lib.run_eql_slice_nil (P := Try.prog) w 40 5 none 0 cap 0 0 Try.underlying40
  go_enter Try.func38, Try.ntmps38
  go_wp2_with fail
  go_ret
  exact ⟨_, rfl, ⟨none, 0, rfl, by simp, by simp, by simp, fun h => absurd rfl h⟩, Below.refl _ _⟩

set_option maxHeartbeats 400000 in
theorem clone_some (a : Addr) (cap : Nat) (l : List Nat) (w : World) (hm : l.length ≤ 1000000000) (hB : Bytes w (.slice (some a) l.length cap) l) :
    Calls Try.prog 38 #[.slice (some a) l.length cap] w (BytesV w l) := by
  have hq := Lib.run_eql_slice_nil (P := Try.prog) w 40 5 (some a) l.length cap 0 0 Try.underlying40
  have hbe : Below w.heap.size w (w.alloc (.cells #[] 5)) := (Below.refl _ _).alloc (Nat.le_refl _) _
  have HBE := Lib.hid (hB.go hbe)
  clear hB
  go_enter Try.func38, Try.ntmps38
  go_wp2_with (at_builtin; refine wpList_append_bytes rfl (.tmp 5) (.tmp 6) rfl w.heap.size _ _ [] l rfl rfl (Owns.empty w w.heap.size (Nat.le_refl _)) HBE.out ?c1 ?c2 ?_)
  case c1 => simp
  case c2 => simp; omega
  intro v3 w3 hown3 hgr3
  have hgr : w.grownBy w3 (some w.heap.size) := grown_trans (grown_of_below hbe _) hgr3
  have hbel : Below w.heap.size w w3 := (Below.refl _ _).grown hgr (Nat.le_refl _) (fun k e => by cases e; exact Nat.le_refl _)
  have HO3 := Lib.hid hown3
  have HB := Lib.hid HBE.out.lt
  obtain ⟨av, nv, cv, rfl⟩ := hown3.shape
  clear hown3 hgr3 hgr hbe HBE
  go_wp2_with fail
  go_ret
  exact ⟨_, rfl, HO3.out.bytes HB.out, hbel⟩

theorem clone_any (v : Value) (l : List Nat) (w : World) (hm : l.length ≤ 1000000000) (hB : Bytes w v l) :
    Calls Try.prog 38 #[v] w (BytesV w l) := by
  have hB0 := hB
  obtain ⟨a, cap, rfl, _, _, _, h4⟩ := hB
  cases a with
  | some a => exact clone_some a cap l w hm hB0
  | none =>
    cases l with
    | nil => exact clone_nil cap w
    | cons x l => obtain ⟨b, off, e, _⟩ := h4 (by simp); exact absurd e (by simp)

end Go.Proofs.Ytphdadibfeencaa

/-
  Rows with a beginning (layer 3) in the program: 'Lead', 'At', 'Zero', 'Unit'.
-/
set_option maxRecDepth 100000
namespace Go.Proofs.Ytphdadibfeencaa
open Go.RowKit


set_option maxHeartbeats 400000 in
theorem lead1_any (x : Nat) (w : World) :
    Calls Try.prog 79 #[U8 x] w fun e w' => e = .returned (.bool ((x : Int) != 0)) ∧ w = w' := by
  go_enter Try.func79, Try.ntmps79
  go_wp2_with fail
  go_ret
  exact ⟨rfl, rfl⟩

set_option maxHeartbeats 400000 in
theorem idxLead_empty (f : Value) (a : Option Addr) (cap : Nat) (w : World) :
    Calls Try.prog 78 #[.slice a 0 cap, f] w fun e w' => e = .returned (.int .i64 (leadI [])) ∧ w = w' := by
  go_enter Try.func78, Try.ntmps78
  go_wp2
  refine wp_loop_rounds 1 ?_
  rw [rounds_succ]
  go_wp2
  go_ret
  exact ⟨rfl, rfl⟩

set_option maxHeartbeats 400000 in
theorem idxLead_some (b off cap : Nat) (l : List Nat) (w : World) (hB : Bytes w (.slice (some ⟨b, off, none⟩) l.length cap) l) :
    Calls Try.prog 78 #[.slice (some ⟨b, off, none⟩) l.length cap, .func (Fn.func 79) #[] #[]] w fun e w' => e = .returned (.int .i64 (leadI l)) ∧ w = w' := by
  have hcap : l.length ≤ 9223372036854775807 := by obtain ⟨_, _, _, h1, h2, _⟩ := hB; omega
  obtain ⟨t, ht⟩ : ∃ t, t = leadI l := ⟨_, rfl⟩
  rw [← ht]
  have HT := Lib.hid ht
  have HB := Lib.hid hB
  clear hB ht
  go_enter Try.func78, Try.ntmps78
  go_wp2
  go_loop [5, 8] (fun _ i => ∃ k : Nat, k ≤ l.length ∧ i = .int .i64 k ∧ ∀ j, j < k → nth l j = 0) (fun _ i => l.length - (intOf i).toNat)
  case atStart => exact ⟨0, by omega, rfl, fun j hj => by omega⟩
  case round =>
    obtain ⟨k, hk, rfl, hno⟩ := hrel
    have HN := Lib.hid hno
    clear hno
    by_cases hlt : k < l.length
    · have hu := HB.out.cell k hlt
      by_cases hq : nth l k = 0
      · have hb : ((nth l k : Int) != 0) = false := by rw [hq]; rfl
        have HQ := Lib.hid hq
        clear hq
        go_wp2_with fail
        refine (lead1_any _ _).mono ?_
        rintro e w' ⟨rfl, rfl⟩
        rw [hb]
        go_wp2_with fail
        go_round
        case rel => exact ⟨k + 1, by omega, by go_num, fun j hj => by
          by_cases h : j = k
          · rw [h]; exact HQ.out
          · exact HN.out j (by omega)⟩
        case measure => simp [intOf]; omega
      · have hb : ((nth l k : Int) != 0) = true := by rw [bne_iff_ne]; omega
        have HF : Hid (t = (k : Int)) := Lib.hid (by rw [HT.out]; unfold leadI; rw [lead_eq HN.out hlt hq, if_pos hlt])
        clear hq
        go_wp2_with fail
        refine (lead1_any _ _).mono ?_
        rintro e w' ⟨rfl, rfl⟩
        rw [hb]
        go_wp2_with fail
        go_ret
        exact ⟨by rw [HF.out]; rfl, rfl⟩
    · have HF : Hid (t = -1) := Lib.hid (by
        rw [HT.out]; unfold leadI
        rw [lead_none (fun j hj => HN.out j (by omega)), if_neg (by omega)])
      go_wp2_with fail
      go_ret
      exact ⟨by rw [HF.out]; rfl, rfl⟩

theorem idxLead_any (v : Value) (l : List Nat) (w : World) (hB : Bytes w v l) :
    Calls Try.prog 78 #[v, .func (Fn.func 79) #[] #[]] w fun e w' => e = .returned (.int .i64 (leadI l)) ∧ w = w' := by
  have hB0 := hB
  obtain ⟨a, cap, rfl, _, _, _, h4⟩ := hB
  cases l with
  | nil => exact idxLead_empty _ a cap w
  | cons x l =>
    obtain ⟨b, off, rfl, _, _⟩ := h4 (by simp)
    exact idxLead_some b off cap _ w hB0

set_option maxHeartbeats 400000 in
theorem lead_any (v : Value) (l : List Nat) (w : World) (hB : Bytes w v l) :
    Calls Try.prog 64 #[v] w fun e w' => e = .returned (.int .i64 (leadI l)) ∧ w = w' := by
  have hmf : ∀ (fn : Fn) (first cap : Array Value) (w : World), (Instr.makeFunc fn first cap).run Try.prog w = .ok (.func fn first cap) w := fun _ _ _ _ => rfl
  have H := Lib.hid (idxLead_any v l w hB)
  clear hB
  go_enter Try.func64, Try.ntmps64
  go_wp2_with fail
  refine (H.out).mono ?_
  rintro e w' ⟨rfl, rfl⟩
  go_wp2_with fail
  go_ret
  exact ⟨rfl, rfl⟩

set_option maxHeartbeats 400000 in
theorem vzero_any (v : Value) (l : List Nat) (w : World) (hB : Bytes w v l) :
    Calls Try.prog 47 #[v] w fun e w' => e = .returned (.bool (zeroB l)) ∧ w = w' := by
  have H := Lib.hid (zero_any v l w hB)
  clear hB
  go_enter Try.func47, Try.ntmps47
  go_wp2_with fail
  refine (H.out).mono ?_
  rintro e w' ⟨rfl, rfl⟩
  go_wp2_with fail
  go_ret
  exact ⟨rfl, rfl⟩

/-- The byte at a place, and 0 where there is none. -/
def atI (l : List Nat) (i : Int) : Nat := if 0 ≤ i ∧ i < l.length then nth l i.toNat else 0
set_option maxHeartbeats 400000 in
theorem at_out (a : Option Addr) (n cap : Nat) (i : Int) (w : World) (h : i < 0 ∨ (0 ≤ i ∧ (n : Int) ≤ i)) :
    Calls Try.prog 68 #[.slice a n cap, .int .i64 i] w fun e w' => e = .returned (.int .u8 0) ∧ w = w' := by
  rcases h with h | ⟨h0, h⟩
  · go_enter Try.func68, Try.ntmps68
    go_wp2_with fail
    go_ret
    exact ⟨rfl, rfl⟩
  · go_enter Try.func68, Try.ntmps68
    go_wp2_with fail
    go_ret
    exact ⟨rfl, rfl⟩

set_option maxHeartbeats 400000 in
theorem at_in (b off n cap : Nat) (l : List Nat) (k : Nat) (w : World) (hk : k < n) (hu : w.cell? ⟨b, off + k, none⟩ = some (U8 (nth l k))) :
    Calls Try.prog 68 #[.slice (some ⟨b, off, none⟩) n cap, .int .i64 k] w fun e w' => e = .returned (U8 (nth l k)) ∧ w = w' := by
  go_enter Try.func68, Try.ntmps68
  go_wp2_with fail
  go_ret
  exact ⟨rfl, rfl⟩

theorem at_any (v : Value) (l : List Nat) (i : Int) (w : World) (hB : Bytes w v l) :
    Calls Try.prog 68 #[v, .int .i64 i] w fun e w' => e = .returned (U8 (atI l i)) ∧ w = w' := by
  have hB0 := hB
  obtain ⟨a, cap, rfl, h1, h2, _, h4⟩ := hB
  unfold atI
  by_cases h : 0 ≤ i ∧ i < l.length
  · rw [if_pos h]
    obtain ⟨k, rfl⟩ := Int.eq_ofNat_of_zero_le h.1
    have hk : k < l.length := by omega
    obtain ⟨b, off, rfl, _, _⟩ := h4 (by intro e; rw [e] at hk; simp at hk)
    exact at_in b off _ cap l k w hk (hB0.cell k hk)
  · rw [if_neg h]
    exact at_out a _ cap i w (by omega)

/-- A unit. -/
def unitL (n k : Nat) : List Nat := (zeros n).set k 1

end Go.Proofs.Ytphdadibfeencaa
