/-
  A block of bytes that a call made itself: what it holds, what a store makes of it, and that it stays where others are written.
-/
import Derived.Test.YtobhlfkmdhoncaaBytes
set_option maxRecDepth 100000
namespace Go.Proofs.Ytobhlfkmdhoncaa
open Go.RowKit

/-- A block of bytes. -/
def bytesObj (l : List Nat) : Obj := .cells (l.map U8).toArray 5

/-- Block g holds these bytes, and isn't frozen. -/
def Own (w : World) (g : Nat) (l : List Nat) : Prop := w.heap[g]? = some (bytesObj l)

/-- The whole of a block, as a slice. -/
abbrev whole (g n : Nat) : Value := .slice (some ⟨g, 0, none⟩) n n

theorem Own.lt {w : World} {g : Nat} {l : List Nat} (h : Own w g l) : g < w.heap.size := (Array.getElem?_eq_some_iff.1 h).1

theorem Own.cell {w : World} {g : Nat} {l : List Nat} (h : Own w g l) (k : Nat) (hk : k < l.length) : w.cell? ⟨g, k, none⟩ = some (U8 (nth l k)) := by
  rw [cell_of_row w g k _ _ (0, 0) h, nth_eq l k hk]; simp [hk]

theorem Own.free {w : World} {g : Nat} {l : List Nat} (h : Own w g l) (k : Nat) : w.frozen? ⟨g, k, none⟩ = false := frozen_of_row w g k _ _ h

theorem Own.alloc {w : World} {g : Nat} {l : List Nat} (h : Own w g l) (o : Obj) : Own (w.alloc o) g l := by
  unfold Own; rw [Below.heap_alloc w o g h.lt]; exact h

theorem Own.below {w w' : World} {g B : Nat} {l : List Nat} (h : Own w g l) (hB : g < B) (hb : Below B w w') : Own w' g l := by
  unfold Own; rw [hb.block g hB]; exact h

theorem Own.grown {w w' : World} {g : Nat} {row : Option Nat} {l : List Nat} (h : Own w g l) (hg : w.grownBy w' row) (hne : some g ≠ row) : Own w' g l := by
  unfold Own; rw [hg.block g h.lt hne]; exact h

theorem Own.new (w : World) (l : List Nat) : Own (w.alloc (bytesObj l)) w.heap.size l := heap_alloc_new w _

theorem Own.set {w : World} {g : Nat} {l : List Nat} (h : Own w g l) (k x : Nat) : Own (w.setCell ⟨g, k, none⟩ (U8 x)) g (l.set k x) := by
  unfold Own World.setCell
  have e : w.heap[g]? = some (.cells (l.map U8).toArray 5) := h
  simp [Array.getElem?_modify, e, bytesObj, List.map_set]

theorem Own.bytes {w : World} {g : Nat} {l : List Nat} (h : Own w g l) (hl : ∀ x, x ∈ l → x < 256) (hm : l.length ≤ 9223372036854775807) : Bytes w (whole g l.length) l :=
  ⟨_, l.length, rfl, Nat.le_refl _, hm, hl, fun _ => ⟨g, 0, rfl, h.lt, fun i hi => by rw [Nat.zero_add]; exact h.cell i hi⟩⟩

/-- What one row's being written leaves of another slice. -/
theorem Bytes.grown {w w' : World} {v : Value} {l : List Nat} {row : Option Nat} (h : Bytes w v l) (hg : w.grownBy w' row) (hne : v.ownBlock = none ∨ v.ownBlock ≠ row) : Bytes w' v l := by
  obtain ⟨a, cap, rfl, h1, h2, h3, h4⟩ := h
  refine ⟨a, cap, rfl, h1, h2, h3, fun hn => ?_⟩
  obtain ⟨b, off, rfl, hlt, hc⟩ := h4 hn
  have hb : some b ≠ row := by simpa [Value.ownBlock] using hne
  exact ⟨b, off, rfl, Nat.lt_of_lt_of_le hlt hg.size, fun i hi => hg.cell (hc i hi) hb⟩

/-- What can be read lies below the heap's end. -/
theorem Bytes.apart {w : World} {v : Value} {l : List Nat} {g : Nat} (h : Bytes w v l) (hg : w.heap.size ≤ g) (hl : l ≠ []) : v.ownBlock ≠ some g := by
  obtain ⟨a, cap, rfl, _, _, _, h4⟩ := h
  obtain ⟨b, off, rfl, hlt, _⟩ := h4 hl
  simp [Value.ownBlock]; omega

theorem grown_refl (w : World) (row : Option Nat) : w.grownBy w row := ⟨rfl, rfl, rfl, Nat.le_refl _, fun _ _ _ => rfl⟩
theorem grown_trans {a b c : World} {row : Option Nat} (h : a.grownBy b row) (k : b.grownBy c row) : a.grownBy c row :=
  ⟨k.os.trans h.os, k.tape.trans h.tape, k.output.trans h.output, Nat.le_trans h.size k.size, fun i hi hn => (k.block i (Nat.lt_of_lt_of_le hi h.size) hn).trans (h.block i hi hn)⟩
theorem grown_of_below {a b : World} (h : Below a.heap.size a b) (row : Option Nat) : a.grownBy b row := ⟨h.os, h.tape, h.output, h.size, fun k hk _ => h.block k hk⟩
theorem grown_setCell (w : World) (p : Addr) (u : Value) : w.grownBy (w.setCell p u) (some p.block) :=
  ⟨rfl, rfl, rfl, by simp [World.setCell], fun k _ hn => Below.heap_setCell w p u k (fun e => hn (by rw [e]))⟩
/-- One row of those from B on was written. -/
theorem below_grown {B g : Nat} {a b c : World} (h : Below B a b) (hg : b.grownBy c (some g)) (hB : B ≤ b.heap.size) (hgB : B ≤ g) : Below B a c :=
  h.grown hg hB (fun _ e => by cases e; exact hgB)

theorem madeZeros (n : Nat) : madeCells #[Value.int .u8 0] n = ((List.replicate n 0).map U8).toArray := by
  apply Array.ext
  · simp [size_madeCells]
  · intro i h1 h2
    simp [madeCells, Nat.mod_one]

/-- 'make([]byte, n)': noughts, in a new block. -/
theorem make_bytes (n : Nat) (hn : n ≤ 281474976710656) (w : World) :
    (Instr.makeSlice 31 (.int .i64 (n : Int)) (.int .i64 (n : Int))).run Try.prog w = .ok (whole w.heap.size n) (w.alloc (bytesObj (List.replicate n 0))) := by
  have hi : (Try.prog.info? 5).map (fun i => (i.zero, i.size, i.bytes)) = some (some (.int .u8 0), 1, 1) := by kernel_rfl
  obtain ⟨i0, hi, hz0, hz1, hz2⟩ := info_parts hi
  have h := run_make (P := Try.prog) w 31 5 i0 (.int .u8 0) Try.underlying31 hi hz0 .i64 .i64 n n (by omega) (by omega) (by rw [hz2]; omega) (by omega)
  rw [h, hz1]
  simp only [Int.toNat_natCast, Nat.mul_one]
  show _ = Result.ok (whole w.heap.size n) (w.alloc (.cells _ _))
  rw [← madeZeros]
  rfl

end Go.Proofs.Ytobhlfkmdhoncaa
