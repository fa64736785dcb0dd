/-
  Slices of words of 64 bits in memory: what is said of one that is read, and of a block that a call made itself.
-/
import Derived.Test.YtobhlfkmdhoncaaBlk
import Derived.Test.YtobhlfkmdhoncaaRefOne
set_option maxRecDepth 100000
namespace Go.Proofs.Ytobhlfkmdhoncaa
open Go.RowKit

theorem u64_eq {a : Int} {b : Nat} (h : a = b) : Value.int .u64 a = U64 b := by rw [h]

/-- The value is a slice that reads as these words. -/
def Words (w : World) (v : Value) (l : List Nat) : Prop :=
  ∃ a cap, v = .slice a l.length cap ∧ l.length ≤ cap ∧ cap ≤ 9223372036854775807 ∧ (∀ x, x ∈ l → x < 18446744073709551616) ∧
    (l ≠ [] → ∃ b off, a = some ⟨b, off, none⟩ ∧ b < w.heap.size ∧ ∀ i, i < l.length → w.cell? ⟨b, off + i, none⟩ = some (U64 (nth l i)))

theorem Words.lt {w : World} {v : Value} {l : List Nat} (h : Words w v l) : ∀ x, x ∈ l → x < 18446744073709551616 := by
  obtain ⟨a, cap, _, _, _, h, _⟩ := h; exact h

theorem Words.below {w w' : World} {v : Value} {l : List Nat} {B : Nat} (h : Words w v l) (hB : w.heap.size ≤ B) (hb : Below B w w') : Words w' v l := by
  obtain ⟨a, cap, rfl, h1, h2, h3, h4⟩ := h
  refine ⟨a, cap, rfl, h1, h2, h3, fun hne => ?_⟩
  obtain ⟨b, off, rfl, hlt, hc⟩ := h4 hne
  exact ⟨b, off, rfl, Nat.lt_of_lt_of_le hlt hb.size, fun i hi => by rw [hb.cell (p := ⟨b, off + i, none⟩) (by show b < B; omega)]; exact hc i hi⟩

theorem nth_ltW {l : List Nat} (h : ∀ x, x ∈ l → x < 18446744073709551616) (i : Nat) : nth l i < 18446744073709551616 := by
  unfold nth
  rw [List.getD_eq_getElem?_getD]
  by_cases hi : i < l.length
  · rw [List.getElem?_eq_getElem hi]; exact h _ (List.getElem_mem hi)
  · rw [List.getElem?_eq_none (by omega)]; show 0 < 18446744073709551616; decide

theorem Words.cell {w : World} {b off n cap : Nat} {l : List Nat} (h : Words w (.slice (some ⟨b, off, none⟩) n cap) l) (k : Nat) (hk : k < l.length) : w.cell? ⟨b, off + k, none⟩ = some (U64 (nth l k)) := by
  obtain ⟨a, cap', e, _, _, _, h4⟩ := h
  obtain ⟨b', off', rfl, _, hc⟩ := h4 (by intro h; rw [h] at hk; simp at hk)
  simp only [Value.slice.injEq, Option.some.injEq, Addr.mk.injEq] at e
  obtain ⟨⟨rfl, rfl, _⟩, _, _⟩ := e
  exact hc k hk

/-- A new block of words, as a slice of its own. -/
theorem words_new (w : World) (l : List Nat) (E : TypeId) (hl : ∀ x, x ∈ l → x < 18446744073709551616) (hm : l.length ≤ 9223372036854775807) :
    Words (w.alloc (.cells (l.map U64).toArray E)) (.slice (some ⟨w.heap.size, 0, none⟩) l.length l.length) l := by
  refine ⟨_, l.length, rfl, Nat.le_refl _, hm, hl, fun _ => ⟨w.heap.size, 0, rfl, by simp, fun i hi => ?_⟩⟩
  rw [World.cell?_alloc_at _ _ _ _ rfl, nth_eq l i hi]
  simp [hi]


/-- A block of words. -/
def wordsObj (l : List Nat) : Obj := .cells (l.map U64).toArray 22

/-- Block g holds these words, and isn't frozen. -/
def OwnW (w : World) (g : Nat) (l : List Nat) : Prop := w.heap[g]? = some (wordsObj l)


theorem OwnW.lt {w : World} {g : Nat} {l : List Nat} (h : OwnW w g l) : g < w.heap.size := (Array.getElem?_eq_some_iff.1 h).1

theorem OwnW.cell {w : World} {g : Nat} {l : List Nat} (h : OwnW w g l) (k : Nat) (hk : k < l.length) : w.cell? ⟨g, k, none⟩ = some (U64 (nth l k)) := by
  rw [cell_of_row w g k _ _ (0, 0) h, nth_eq l k hk]; simp [hk]

theorem OwnW.free {w : World} {g : Nat} {l : List Nat} (h : OwnW w g l) (k : Nat) : w.frozen? ⟨g, k, none⟩ = false := frozen_of_row w g k _ _ h

theorem OwnW.alloc {w : World} {g : Nat} {l : List Nat} (h : OwnW w g l) (o : Obj) : OwnW (w.alloc o) g l := by
  unfold OwnW; rw [Below.heap_alloc w o g h.lt]; exact h

theorem OwnW.below {w w' : World} {g B : Nat} {l : List Nat} (h : OwnW w g l) (hB : g < B) (hb : Below B w w') : OwnW w' g l := by
  unfold OwnW; rw [hb.block g hB]; exact h

theorem OwnW.grown {w w' : World} {g : Nat} {row : Option Nat} {l : List Nat} (h : OwnW w g l) (hg : w.grownBy w' row) (hne : some g ≠ row) : OwnW w' g l := by
  unfold OwnW; rw [hg.block g h.lt hne]; exact h

theorem OwnW.new (w : World) (l : List Nat) : OwnW (w.alloc (wordsObj l)) w.heap.size l := heap_alloc_new w _

theorem OwnW.set {w : World} {g : Nat} {l : List Nat} (h : OwnW w g l) (k x : Nat) : OwnW (w.setCell ⟨g, k, none⟩ (U64 x)) g (l.set k x) := by
  unfold OwnW World.setCell
  have e : w.heap[g]? = some (.cells (l.map U64).toArray 22) := h
  simp [Array.getElem?_modify, e, wordsObj, List.map_set]

theorem OwnW.words {w : World} {g : Nat} {l : List Nat} (h : OwnW w g l) (hl : ∀ x, x ∈ l → x < 18446744073709551616) (hm : l.length ≤ 9223372036854775807) : Words w (whole g l.length) l :=
  ⟨_, l.length, rfl, Nat.le_refl _, hm, hl, fun _ => ⟨g, 0, rfl, h.lt, fun i hi => by rw [Nat.zero_add]; exact h.cell i hi⟩⟩

/-- What one row's being written leaves of another slice. -/
theorem Words.grown {w w' : World} {v : Value} {l : List Nat} {row : Option Nat} (h : Words w v l) (hg : w.grownBy w' row) (hne : v.ownBlock = none ∨ v.ownBlock ≠ row) : Words w' v l := by
  obtain ⟨a, cap, rfl, h1, h2, h3, h4⟩ := h
  refine ⟨a, cap, rfl, h1, h2, h3, fun hn => ?_⟩
  obtain ⟨b, off, rfl, hlt, hc⟩ := h4 hn
  have hb : some b ≠ row := by simpa [Value.ownBlock] using hne
  exact ⟨b, off, rfl, Nat.lt_of_lt_of_le hlt hg.size, fun i hi => hg.cell (hc i hi) hb⟩

/-- What can be read lies below the heap's end. -/
theorem Words.apart {w : World} {v : Value} {l : List Nat} {g : Nat} (h : Words w v l) (hg : w.heap.size ≤ g) (hl : l ≠ []) : v.ownBlock ≠ some g := by
  obtain ⟨a, cap, rfl, _, _, _, h4⟩ := h
  obtain ⟨b, off, rfl, hlt, _⟩ := h4 hl
  simp [Value.ownBlock]; omega


theorem madeZerosW (n : Nat) : madeCells #[Value.int .u64 0] n = ((List.replicate n 0).map U64).toArray := by
  apply Array.ext
  · simp [size_madeCells]
  · intro i h1 h2
    simp [madeCells, Nat.mod_one]

/-- 'make([]byte, n)': noughts, in a new block. -/
theorem make_words (n : Nat) (hn : n ≤ 35184372088832) (w : World) :
    (Instr.makeSlice 45 (.int .i64 (n : Int)) (.int .i64 (n : Int))).run Try.prog w = .ok (whole w.heap.size n) (w.alloc (wordsObj (List.replicate n 0))) := by
  have hi : (Try.prog.info? 22).map (fun i => (i.zero, i.size, i.bytes)) = some (some (.int .u64 0), 1, 8) := by kernel_rfl
  obtain ⟨i0, hi, hz0, hz1, hz2⟩ := info_parts hi
  have h := run_make (P := Try.prog) w 45 22 i0 (.int .u64 0) Try.underlying45 hi hz0 .i64 .i64 n n (by omega) (by omega) (by rw [hz2]; omega) (by omega)
  rw [h, hz1]
  simp only [Int.toNat_natCast, Nat.mul_one]
  show _ = Result.ok (whole w.heap.size n) (w.alloc (.cells _ _))
  rw [← madeZerosW]
  rfl

end Go.Proofs.Ytobhlfkmdhoncaa
