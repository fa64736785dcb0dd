/-
  Slices of slices of bytes in memory: what is said of one that is read; one that came in, opened.
-/
import Derived.Test.YtobhlfkmdhoncaaOwn
import Derived.Test.YtobhlfkmdhoncaaFrame
import Derived.Deep.Slices
set_option maxRecDepth 100000
namespace Go.Proofs.Ytobhlfkmdhoncaa
open Go.ChangeShapes Go.WideShapes Go.ChangeAt Go.RowKit

/-- The row of a place: by a name of its own, so that the walk leaves it as it is. -/
def rowAt (ll : List (List Nat)) (i : Nat) : List Nat := ll.getD i []

/-- The value is a slice of slices that reads as these rows. -/
def IsRows (w : World) (v : Value) (ll : List (List Nat)) : Prop :=
  ∃ a cap, v = .slice a ll.length cap ∧ ll.length ≤ cap ∧ cap ≤ 9223372036854775807 ∧
    (ll ≠ [] → ∃ b off, a = some ⟨b, off, none⟩ ∧ b < w.heap.size ∧ ∀ i, i < ll.length → ∃ u, w.cell? ⟨b, off + i, none⟩ = some u ∧ Bytes w u (rowAt ll i))

theorem IsRows.below {w w' : World} {v : Value} {ll : List (List Nat)} {B : Nat} (h : IsRows w v ll) (hB : w.heap.size ≤ B) (hb : Below B w w') : IsRows w' v ll := by
  obtain ⟨a, cap, rfl, h1, h2, h4⟩ := h
  refine ⟨a, cap, rfl, h1, h2, fun hne => ?_⟩
  obtain ⟨b, off, rfl, hlt, hc⟩ := h4 hne
  refine ⟨b, off, rfl, Nat.lt_of_lt_of_le hlt hb.size, fun i hi => ?_⟩
  obtain ⟨u, hu, hu2⟩ := hc i hi
  exact ⟨u, by rw [hb.cell (p := ⟨b, off + i, none⟩) (by show b < B; omega)]; exact hu, hu2.below hB hb⟩

theorem IsRows.cell {w : World} {b off n cap : Nat} {ll : List (List Nat)} (h : IsRows w (.slice (some ⟨b, off, none⟩) n cap) ll) (k : Nat) (hk : k < ll.length) : ∃ u, w.cell? ⟨b, off + k, none⟩ = some u ∧ Bytes w u (rowAt ll k) := by
  obtain ⟨a, cap', e, _, _, h4⟩ := h
  obtain ⟨b', off', rfl, _, hc⟩ := h4 (by intro h; rw [h] at hk; simp at hk)
  simp only [Value.slice.injEq, Option.some.injEq, Addr.mk.injEq] at e
  obtain ⟨⟨rfl, rfl, _⟩, _, _⟩ := e
  exact hc k hk

/-- A row's value is still there, where nothing below has turned. -/
theorem IsRows.at {w w' : World} {b off n cap : Nat} {ll : List (List Nat)} (h : IsRows w (.slice (some ⟨b, off, none⟩) n cap) ll) (hb : Below w.heap.size w w') (k : Nat) (hk : k < ll.length) : ∃ u, w'.cell? ⟨b, off + k, none⟩ = some u ∧ Bytes w u (rowAt ll k) := by
  obtain ⟨u, hu, hB⟩ := h.cell k hk
  exact ⟨u, by rw [hb.cell (p := ⟨b, off + k, none⟩) (World.block_lt_of_cell? w _ hu)]; exact hu, hB⟩

theorem rowAt_eq (ll : List (List Nat)) (i : Nat) (h : i < ll.length) : rowAt ll i = ll[i] := by
  unfold rowAt; rw [List.getD_eq_getElem?_getD, List.getElem?_eq_getElem h]; rfl
theorem take_rowAt (ll : List (List Nat)) (k : Nat) (h : k < ll.length) : ll.take (k + 1) = ll.take k ++ [rowAt ll k] := by
  rw [List.take_succ_eq_append_getElem h, rowAt_eq ll k h]

/-- A slice of slices of bytes that came in. -/
theorem open_rows {H : Type} {enc : TypeId × Value → H} {P : Program} {S T E : TypeId} (hS : P.underlying S = some (.slice T)) (hT : P.underlying T = some (.slice E)) (hE : P.underlying E = some (.int .u8)) (hcT : P.cellsOf T = 1) (hc : P.cellsOf E = 1) {W : World} {base : Nat} {v : Value} {d : DataW H} {p : List MemPlace}
    (hok : Value.okWide P W .any base S v) (h : DataW.Trod enc P W 0 (fun _ => true) true S v d p) (hlt : ∀ x ∈ p, x.block < W.heap.size) : ∃ ll, IsRows W v ll := by
  obtain ⟨a0, len, cap, rfl⟩ := okWide_slice hS hok
  obtain ⟨fuel, hf⟩ := h
  rcases Go.Deep.open_slice1 hS hcT hf with ⟨hcs, hx⟩ | ⟨a, len', cap', m, n, V, D, Pl, hcs, _, hl, hm, hmm, hx, hall⟩
  · simp [Value.cells] at hcs
    obtain ⟨rfl, rfl, rfl⟩ := hcs
    exact ⟨[], none, 0, rfl, by simp, by omega, fun h => absurd rfl h⟩
  · simp [Value.cells] at hcs
    obtain ⟨rfl, rfl, rfl⟩ := hcs
    simp only [Prod.mk.injEq] at hx
    obtain ⟨rfl, rfl⟩ := hx
    simp only [if_true] at hmm
    subst hmm
    have hrow : ∀ i, i < len → ∃ l, Bytes W (V i) l := fun i hi =>
      bytes_of_trod hT hE hc (hall i (by omega)).2 fun y hy => hlt y (List.mem_append_right _ (List.mem_flatMap.2 ⟨i, List.mem_range.2 (by omega), hy⟩))
    obtain ⟨L, hL⟩ := Go.Deep.choose_lt hrow
    have hlen : ((List.range len).map L).length = len := by simp
    refine ⟨(List.range len).map L, some a, m, by rw [hlen], by rw [hlen]; exact hl, by simpa [maxLen] using hm, fun hne => ?_⟩
    have hl0 : 0 < len := by
      cases len with
      | zero => simp at hne
      | succ n => omega
    obtain ⟨b, off, spot⟩ := a
    have hspot : spot = none := by simpa [Addr.add] using World.cell?_spot (hall 0 (by omega)).1
    subst hspot
    have hbW : b < W.heap.size := hlt (.cell b off) (List.mem_append_left _ (MemPlace.mem_row.2 ⟨0, by omega, by simp⟩))
    refine ⟨b, off, rfl, hbW, fun i hi => ?_⟩
    rw [hlen] at hi
    have hci := (hall i (by omega)).1
    rw [add_plain] at hci
    refine ⟨V i, hci, ?_⟩
    rw [rowAt_eq _ _ (by rw [hlen]; exact hi)]
    simpa using hL i hi

end Go.Proofs.Ytobhlfkmdhoncaa
