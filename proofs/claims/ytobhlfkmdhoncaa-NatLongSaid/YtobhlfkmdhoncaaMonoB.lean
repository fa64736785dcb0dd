/-
  What is said of operations in a region that draws its order: slices of bytes, rows, boxes.
-/
import Derived.Test.YtobhlfkmdhoncaaMono
import Derived.Test.YtobhlfkmdhoncaaBlk
set_option maxRecDepth 100000
namespace Go.Proofs.Ytobhlfkmdhoncaa
open Go.RowKit

/-- The worlds behind W in which of what was there nothing has turned. -/
abbrev Cb (W : World) : World → Prop := fun w => Below W.heap.size W w
/-- A step that turns nothing of what is there. -/
abbrev Rb : World → World → Prop := fun w w' => Below w.heap.size w w'
/-- No bytes are among them. -/
def NoU8 (vs : Array Value) : Prop := ∀ (i n : Nat), vs[i]? ≠ some (U8 n)
/-- A step that writes a box which was made behind W, and holds no bytes. -/
def Hb (W : World) (w w' : World) : Prop := ∃ g vs vs' T, W.heap.size ≤ g ∧ Blk w g vs T ∧ NoU8 vs ∧ w.grownBy w' (some g) ∧ Blk w' g vs' T ∧ vs'.size = vs.size ∧ NoU8 vs'

theorem hC_b (W : World) : ∀ w w', Cb W w → Rb w w' → Cb W w' := fun _ _ h h' => h.trans (h'.mono h.size)
theorem hCH_b (W : World) : ∀ (_ : Nat) w w', Cb W w → Hb W w w' → Cb W w' := fun _ _ _ h ⟨_, _, _, _, hg, _, _, hw, _⟩ => below_grown h hw h.size hg
theorem drew_b (W : World) : Cb W W.drew := (Below.refl _ _).drew

theorem Bytes.hard {W w w' : World} {v : Value} {l : List Nat} (h : Bytes w v l) (hh : Hb W w w') : Bytes w' v l := by
  obtain ⟨g, vs, vs', T, _, hb, hn, hw, _⟩ := hh
  exact h.other hb hn hw
theorem Blk.hard {W w w' : World} {g : Nat} {vs : Array Value} {T : TypeId} (h : Blk w g vs T) (hg : g < W.heap.size) (hh : Hb W w w') : Blk w' g vs T := by
  obtain ⟨g', _, _, _, hg', _, _, hw, _⟩ := hh
  exact h.grown hw (by simp; omega)

variable {W : World}

abbrev TyB (W : World) := Ty (Cb W) Rb (fun _ => Hb W)

def Ty.bytes (t : Tmp) (l : List Nat) : TyB W := Ty.one t (fun v w => Bytes w v l) (fun _ _ _ _ hR h => h.go hR) (fun _ _ _ _ _ hH h => h.hard hH)
/-- A box made anew. -/
def IsBox (W w : World) (v : Value) (n : Nat) (T : TypeId) : Prop := ∃ g vs, v = .pointer (some ⟨g, 0, none⟩) ∧ W.heap.size ≤ g ∧ Blk w g vs T ∧ vs.size = n ∧ NoU8 vs
theorem IsBox.go {w w' : World} {v : Value} {n : Nat} {T : TypeId} (h : IsBox W w v n T) (hb : Below w.heap.size w w') : IsBox W w' v n T := by
  obtain ⟨g, vs, e, hg, hk, hs, hn⟩ := h
  exact ⟨g, vs, e, hg, hk.go hb, hs, hn⟩
theorem IsBox.hard {w w' : World} {v : Value} {n : Nat} {T : TypeId} (h : IsBox W w v n T) (hh : Hb W w w') : IsBox W w' v n T := by
  obtain ⟨g, vs, e, hg, hk, hs, hn⟩ := h
  obtain ⟨g', us, us', T', hg', hb, hn', hw, hb', hs', hn''⟩ := hh
  by_cases hgg : g = g'
  · subst hgg
    have hk' : w.heap[g]? = some (.cells vs T) := hk
    have hb0 : w.heap[g]? = some (.cells us T') := hb
    rw [hk'] at hb0
    simp only [Option.some.injEq, Obj.cells.injEq, and_true] at hb0
    obtain ⟨rfl, rfl⟩ := hb0
    exact ⟨g, us', e, hg, hb', by rw [hs', hs], hn''⟩
  · exact ⟨g, vs, e, hg, hk.grown hw (by simpa using hgg), hs, hn⟩
def Ty.box (t : Tmp) (n : Nat) (T : TypeId) : TyB W := Ty.one t (fun v w => IsBox W w v n T) (fun _ _ _ _ hR h => h.go hR) (fun _ _ _ _ _ hH h => h.hard hH)

theorem noU8_two (x y : Value) (hx : ∀ n : Nat, x ≠ U8 n) (hy : ∀ n : Nat, y ≠ U8 n) : NoU8 #[x, y] := no_bytes2 x y hx hy

/-- A tuple of a slice of bytes and an error's number. -/
def Ty.bytesE (t : Tmp) (l : List Nat) (n : Int) : TyB W := Ty.one t (fun v w => ∃ u, v = .tuple #[u, .int .i64 n] ∧ Bytes w u l) (fun _ _ _ _ hR ⟨u, e, h⟩ => ⟨u, e, h.go hR⟩) (fun _ _ _ _ _ hH ⟨u, e, h⟩ => ⟨u, e, h.hard hH⟩)

end Go.Proofs.Ytobhlfkmdhoncaa
