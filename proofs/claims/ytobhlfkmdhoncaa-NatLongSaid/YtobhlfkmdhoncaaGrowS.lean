/-
  A slice of bytes to which a call appends many at once; a slice of slices to which it appends one.
-/
import Derived.Test.YtobhlfkmdhoncaaGrow
set_option maxRecDepth 100000
namespace Go.Proofs.Ytobhlfkmdhoncaa
open Go.RowKit

theorem run_append_none {w : World} (t ty e : TypeId) (i : TypeInfo) (size base c : Nat) (ht : Try.prog.underlying t = some (.slice e)) (hi : Try.prog.info? e = some i)
    (v : Value) (n : Nat) (xs : List Value) (hown : w.ownsRow base e size v n xs) :
    (Builtin.append_ #[t, t] ty #[v, .slice none 0 c]).run Try.prog w = .ok v w := by
  rcases hown.2 with ⟨rfl, rfl⟩ | ⟨g, cap, cur, rfl, _, _, hnc, _⟩
  · simp [Builtin.append_, run_underlying ht, sizeOf, typeInfo, hi, Builtin.lenOf, Builtin.firstCells]
  · simp [Builtin.append_, run_underlying ht, sizeOf, typeInfo, hi, Builtin.lenOf, Builtin.firstCells, hnc, storeCells]

theorem wpList_append_none {w : World} {ops : Array Oper} {rest : List Oper} {o : Oper} {a : Act} {Q : Exit → Act → World → Prop} (hgd : o.guard = none) (s x : Operand) (t : TypeId)
    (ho : o.op = .call { callee := .builtin .append, args := #[s, x], argTypes := #[t, t] })
    (base : Nat) (e : TypeId) (i : TypeInfo) (size c : Nat) (ht : Try.prog.underlying t = some (.slice e)) (hi : Try.prog.info? e = some i)
    (v : Value) (n : Nat) (xs : List Value) (hs : a.eval s = v) (hown : w.ownsRow base e size v n xs) (hx : a.eval x = .slice none 0 c)
    (h : wpList Try.prog ops Q rest (a.put o.dst v) w) : wpList Try.prog ops Q (o :: rest) a w := by
  refine wpList_plain hgd fun K hK => ?_
  have hrun := run_append_none (w := w) t o.type e i size base c ht hi v n xs hown
  unfold Oper.wp
  simp [execOp, ho, resolve, invoke, builtin, hs, hx, hrun, Result.andThen]
  exact hK _ _ h

/-- 'append(out, x...)', of bytes. -/
theorem wpList_append_bytes {ops : Array Oper} {rest : List Oper} {o : Oper} {a : Act} {Q : Exit → Act → World → Prop} {w : World} (hgd : o.guard = none) (s x : Operand) (ho : o.op = .call { callee := .builtin .append, args := #[s, x], argTypes := #[31, 31] })
    (B : Nat) (v u : Value) (l r : List Nat) (hs : a.eval s = v) (hx : a.eval x = u) (hown : Owns w B v l) (hr : Bytes w u r) (hB : B ≤ w.heap.size) (hn : l.length + r.length ≤ 281474976710656 / 4)
    (h : ∀ v' w', Owns w' B v' (l ++ r) → w.grownBy w' v.ownBlock → wpList Try.prog ops Q rest (a.put o.dst v') w') :
    wpList Try.prog ops Q (o :: rest) a w := by
  obtain ⟨i0, hi, hz0, hz1, hz2⟩ := info_parts infoByte
  obtain ⟨a1, c1, rfl, h1, h2, h3, h4⟩ := hr
  cases a1 with
  | none =>
    cases r with
    | nil =>
      refine wpList_append_none hgd s x 31 ho B 5 i0 1 c1 Try.underlying31 hi v l.length (l.map U8) hs hown hx ?_
      exact h v w (by rw [List.append_nil]; exact hown) (grown_refl _ _)
    | cons y r =>
      obtain ⟨b, off, e, _⟩ := h4 (by simp)
      exact absurd e (by simp)
  | some ad =>
    refine wpList_append_own _ hgd s x 31 ho B 5 i0 (.int .u8 0) 1 1 Try.underlying31 hi hz0 hz1 hz2 rfl (by decide) v l.length (l.map U8) hs hown
      ad r.length c1 (r.map U8) hx (by simp) ?_ ?_ ?_ ?_ hB ?_
    · intro j y hj
      have hj' : j < r.length := by
        have := (List.getElem?_eq_some_iff.1 hj).1
        simpa using this
      obtain ⟨b, off, e, _, hc⟩ := h4 (by intro e; rw [e] at hj'; simp at hj')
      simp only [Option.some.injEq] at e
      subst e
      rw [show (⟨b, off, none⟩ : Addr).add j = ⟨b, off + j, none⟩ from by unfold Addr.add; split <;> simp_all, hc j hj', nth_eq r j hj']
      simp [hj'] at hj
      rw [← hj]
    · intro y hy
      obtain ⟨z, _, rfl⟩ := List.mem_map.1 hy
      rfl
    · unfold maxLen; omega
    · omega
    · intro v' w' g1 g2 _
      refine h v' w' ?_ g2
      unfold Owns
      simpa using g1

/-- The slice of a place: by a name of its own, so that the walk leaves it as it is. -/
def rowOf (us : List Value) (j : Nat) : Value := us.getD j (.slice none 0 0)

/-- The value is no slice of slices yet, or one whose block, from B on, the call made itself. -/
def OwnsS (w : World) (B : Nat) (v : Value) (us : List Value) : Prop := w.ownsRow B 31 1 v us.length us

theorem OwnsS.nil (w : World) (B : Nat) : OwnsS w B (.slice none 0 0) [] := World.ownsRow_nil _ _ _ _

theorem OwnsS.below {w w' : World} {B C : Nat} {v : Value} {us : List Value} (h : OwnsS w B v us) (hC : w.heap.size ≤ C) (hb : Below C w w') : OwnsS w' B v us :=
  h.kept (row := none) ⟨hb.os, hb.tape, hb.output, hb.size, fun k hk _ => hb.block k (by omega)⟩ (by cases hv : v.ownBlock <;> simp)

theorem OwnsS.from {w : World} {B : Nat} {v : Value} {us : List Value} (h : OwnsS w B v us) : ∀ k, v.ownBlock = some k → B ≤ k := fun k hk => (World.ownsRow.lt h k hk).1

theorem OwnsS.cell {w : World} {B : Nat} {v : Value} {us : List Value} (h : OwnsS w B v us) (k : Nat) (hk : k < us.length) : ∃ g c, v = .slice (some ⟨g, 0, none⟩) us.length c ∧ w.cell? ⟨g, k, none⟩ = some (rowOf us k) := by
  have h' := h
  rcases h'.2 with ⟨rfl, h0⟩ | ⟨g, cap, cur, rfl, hB, hg, hn, hc, hsz, ht⟩
  · omega
  · refine ⟨g, cap, rfl, ?_⟩
    have h1 := World.ownsRow.cells h (g := g) rfl k (rowOf us k) (by unfold rowOf; rw [List.getD_eq_getElem?_getD, List.getElem?_eq_getElem hk]; rfl)
    rw [show (⟨g, 0, none⟩ : Addr).add k = ⟨g, k, none⟩ from by unfold Addr.add; split <;> simp_all] at h1
    exact h1

/-- Blocks of bytes and blocks of slices aren't the same. -/
theorem owns_apart {w : World} {B C : Nat} {u v : Value} {l : List Nat} {us : List Value} (h : Owns w B u l) (k : OwnsS w C v us) : u.ownBlock = none ∨ u.ownBlock ≠ v.ownBlock := by
  rcases h.2 with ⟨rfl, _⟩ | ⟨g, cap, cur, rfl, _, hg, _⟩
  · left; rfl
  · right
    rcases k.2 with ⟨rfl, _⟩ | ⟨g', cap', cur', rfl, _, hg', _⟩
    · simp [Value.ownBlock]
    · simp only [Value.ownBlock, ne_eq, Option.some.injEq]
      intro e
      rw [e, hg'] at hg
      simp only [Option.some.injEq, Obj.cells.injEq] at hg
      exact absurd hg.2.1 (by decide)

theorem Owns.grown {w w' : World} {B : Nat} {v : Value} {l : List Nat} {row : Option Nat} (h : Owns w B v l) (hg : w.grownBy w' row) (hne : v.ownBlock = none ∨ v.ownBlock ≠ row) : Owns w' B v l := World.ownsRow.kept h hg hne

theorem infoRow : (Try.prog.info? 31).map (fun i => (i.zero, i.size, i.bytes)) = some (some (.slice none 0 0), 1, 24) := by kernel_rfl

theorem Owns.one {w : World} {B : Nat} {v : Value} {l : List Nat} (h : Owns w B v l) : v.oneCell' = true := by
  rcases h.2 with ⟨rfl, _⟩ | ⟨g, cap, cur, rfl, _⟩ <;> rfl

theorem Owns.shape {w : World} {B : Nat} {v : Value} {l : List Nat} (h : Owns w B v l) : ∃ a n c, v = .slice a n c := by
  rcases h.2 with ⟨rfl, _⟩ | ⟨g, cap, cur, rfl, _⟩
  · exact ⟨_, _, _, rfl⟩
  · exact ⟨_, _, _, rfl⟩

/-- An empty slice over a new block. -/
theorem Owns.empty (w : World) (B : Nat) (hB : B ≤ w.heap.size) : Owns (w.alloc (.cells #[] 5)) B (.slice (some ⟨w.heap.size, 0, none⟩) 0 0) [] :=
  World.ownsRow_lit w #[] 0 hB (by decide) rfl

/-- The first rows, copied one by one. -/
structure Copied (w : World) (B : Nat) (v : Value) (us : List Value) (f : Nat → List Nat) : Prop where
  row : OwnsS w B v us
  each : ∀ j, j < us.length → Owns w B (rowOf us j) (f j)

theorem Copied.nil (w : World) (B : Nat) (f : Nat → List Nat) : Copied w B (.slice none 0 0) [] f := ⟨OwnsS.nil w B, fun j hj => by simp at hj⟩

theorem Copied.below {w w' : World} {B C : Nat} {v : Value} {us : List Value} {f : Nat → List Nat} (h : Copied w B v us f) (hC : w.heap.size ≤ C) (hb : Below C w w') : Copied w' B v us f :=
  ⟨h.row.below hC hb, fun j hj => (h.each j hj).below hC hb⟩

theorem Copied.fresh {w w' : World} {B : Nat} {v : Value} {us : List Value} {f : Nat → List Nat} (h : Copied w B v us f) (hg : w.grownBy w' (some w.heap.size)) : Copied w' B v us f := by
  refine ⟨World.ownsRow.kept h.row hg ?_, fun j hj => (h.each j hj).grown hg ?_⟩
  · cases hv : v.ownBlock with
    | none => left; rfl
    | some k => right; have := (World.ownsRow.lt h.row k hv).2; simp; omega
  · cases hv : (rowOf us j).ownBlock with
    | none => left; rfl
    | some k => right; have := (World.ownsRow.lt (h.each j hj) k hv).2; simp; omega

theorem Copied.more {w w' : World} {B : Nat} {v v' u : Value} {us : List Value} {f : Nat → List Nat} (h : Copied w B v us f) (hu : Owns w B u (f us.length)) (hr : OwnsS w' B v' (us ++ [u])) (hg : w.grownBy w' v.ownBlock) : Copied w' B v' (us ++ [u]) f := by
  refine ⟨hr, fun j hj => ?_⟩
  by_cases hlt : j < us.length
  · rw [show rowOf (us ++ [u]) j = rowOf us j from by unfold rowOf; rw [List.getD_eq_getElem?_getD, List.getElem?_append_left hlt, ← List.getD_eq_getElem?_getD]]
    exact (h.each j hlt).grown hg (owns_apart (h.each j hlt) h.row)
  · have e : j = us.length := by simp at hj; omega
    subst e
    rw [show rowOf (us ++ [u]) us.length = u from by unfold rowOf; rw [List.getD_eq_getElem?_getD, List.getElem?_append_right (Nat.le_refl _)]; simp]
    exact hu.grown hg (owns_apart hu h.row)

end Go.Proofs.Ytobhlfkmdhoncaa
