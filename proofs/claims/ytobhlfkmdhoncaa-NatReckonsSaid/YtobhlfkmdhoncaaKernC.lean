/-
  Many bytes at once (layer 2) in the program: 'blank', 'Axpy', 'Sum', 'Comb'.
-/
import Derived.Test.YtobhlfkmdhoncaaKernB
import Derived.Test.YtobhlfkmdhoncaaGrow
set_option maxRecDepth 100000
namespace Go.Proofs.Ytobhlfkmdhoncaa
open Go.RowKit

/-- No slice, without elements; or the whole of a new block. -/
def Fresh (B : Nat) (w : World) (v : Value) (l : List Nat) : Prop := (v = .slice none 0 0 ∧ l = []) ∨ ∃ g, v = whole g l.length ∧ B ≤ g ∧ Own w g l

theorem Fresh.bytes {B : Nat} {w : World} {v : Value} {l : List Nat} (h : Fresh B w v l) (hl : ∀ x, x ∈ l → x < 256) (hm : l.length ≤ 9223372036854775807) : Bytes w v l := by
  rcases h with ⟨rfl, rfl⟩ | ⟨g, rfl, _, hO⟩
  · exact ⟨none, 0, rfl, by simp, by omega, by simp, fun h => absurd rfl h⟩
  · exact hO.bytes hl hm


/-- The answer is a row and an error's number; of what was there nothing has turned. -/
def RowE (w : World) (l : List Nat) (err : Int) (e : Ending) (w' : World) : Prop :=
  ∃ v, e = .returned (.tuple #[v, I64 err]) ∧ Fresh w.heap.size w' v l ∧ Below w.heap.size w w'

/-- The answer is a row. -/
def RowV (w : World) (l : List Nat) (e : Ending) (w' : World) : Prop :=
  ∃ v, e = .returned v ∧ Fresh w.heap.size w' v l ∧ Below w.heap.size w w'

/-- What Axpy answers. -/
def axpyL (c : Nat) (x y : List Nat) : List Nat := if x.length = y.length then Gf.add (Gf.scale c x) y else []
def axpyE (x y : List Nat) : Int := if x.length = y.length then 0 else 4

/-- Noughts, as many as the first row has bytes. -/
def zeros (n : Nat) : List Nat := List.replicate n 0

theorem zeros_length (n : Nat) : (zeros n).length = n := by simp [zeros]
theorem zeros_lt (n : Nat) : ∀ x, x ∈ zeros n → x < 256 := by
  intro x hx
  have := List.eq_of_mem_replicate hx
  omega

/-- The first k rows, added. -/
def sumK (ll : List (List Nat)) : Nat → List Nat
  | 0 => zeros (rowAt ll 0).length
  | k + 1 => Gf.add (sumK ll k) (rowAt ll k)

/-- The first k rows, each times its byte, added. -/
def combK (cs : List Nat) (ll : List (List Nat)) : Nat → List Nat
  | 0 => zeros (rowAt ll 0).length
  | k + 1 => Gf.add (combK cs ll k) (Gf.scale (nth cs k) (rowAt ll k))

theorem alike_at {ll : List (List Nat)} (h : alikeB ll = true) {k : Nat} (hk : k < ll.length) : (rowAt ll k).length = (rowAt ll 0).length := by
  simp only [alikeB, List.all_eq_true, beq_iff_eq] at h
  rw [rowAt_eq ll k hk]
  exact h _ (List.getElem_mem hk)

theorem sumK_length {ll : List (List Nat)} (h : alikeB ll = true) : ∀ k, k ≤ ll.length → (sumK ll k).length = (rowAt ll 0).length
  | 0, _ => zeros_length _
  | k + 1, hk => by
    have e := sumK_length h k (by omega)
    show (Gf.add (sumK ll k) (rowAt ll k)).length = _
    rw [Gf.add_length _ _ (by rw [e, alike_at h (show k < ll.length by omega)]), e]

theorem sumK_lt {ll : List (List Nat)} (hl : ∀ k, k < ll.length → ∀ x, x ∈ rowAt ll k → x < 256) : ∀ k, k ≤ ll.length → ∀ x, x ∈ sumK ll k → x < 256
  | 0, _ => zeros_lt _
  | k + 1, hk => Gf.add_lt (sumK_lt hl k (by omega)) (hl k (by omega))

theorem combK_length {cs : List Nat} {ll : List (List Nat)} (h : alikeB ll = true) : ∀ k, k ≤ ll.length → (combK cs ll k).length = (rowAt ll 0).length
  | 0, _ => zeros_length _
  | k + 1, hk => by
    have e := combK_length (cs := cs) h k (by omega)
    show (Gf.add (combK cs ll k) (Gf.scale (nth cs k) (rowAt ll k))).length = _
    rw [Gf.add_length _ _ (by rw [e, Gf.scale_length, alike_at h (show k < ll.length by omega)]), e]

theorem combK_lt {cs : List Nat} {ll : List (List Nat)} (hc : ∀ x, x ∈ cs → x < 256) : ∀ k, k ≤ ll.length → ∀ x, x ∈ combK cs ll k → x < 256
  | 0, _ => zeros_lt _
  | k + 1, hk => Gf.add_lt (combK_lt hc k (by omega)) (Gf.scale_lt (nth_lt hc k) _)

theorem IsRows.lt {w : World} {b off n cap : Nat} {ll : List (List Nat)} (h : IsRows w (.slice (some ⟨b, off, none⟩) n cap) ll) : ∀ k, k < ll.length → ∀ x, x ∈ rowAt ll k → x < 256 := fun k hk => by
  obtain ⟨u, _, hu⟩ := h.cell k hk
  exact hu.lt

/-- What Sum answers. -/
def sumL (ll : List (List Nat)) : List Nat := if alikeB ll = true ∧ ll ≠ [] then sumK ll ll.length else []
def sumE (ll : List (List Nat)) : Int := if alikeB ll = true then 0 else 4

end Go.Proofs.Ytobhlfkmdhoncaa
