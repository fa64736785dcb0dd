/- Texts of one seat, laid together: KernA, Mat, KernB, Grow, KernC, KernD. -/
import Derived.Test.YtphdadibfeencaaSolveCountsQ1
import Derived.Deep.Slices

/-
  Many bytes at once (layer 2) in the program: 'Scale', 'addTo'.
-/
set_option maxRecDepth 100000
namespace Go.Proofs.Ytphdadibfeencaa
open Go.RowKit

/-- The answer is a new block of these bytes, and of what was there nothing has turned. -/
def NewRow (w : World) (l : List Nat) (e : Ending) (w' : World) : Prop :=
  ∃ g, e = .returned (whole g l.length) ∧ w.heap.size ≤ g ∧ Own w' g l ∧ Below w.heap.size w w'

namespace Gf
/-- Each byte times c. -/
def scale (c : Nat) (l : List Nat) : List Nat := l.map (mul c)
theorem scale_length (c : Nat) (l : List Nat) : (scale c l).length = l.length := by simp [scale]
theorem scale_lt {c : Nat} (hc : c < 256) (l : List Nat) : ∀ x, x ∈ scale c l → x < 256 := by
  intro x hx
  obtain ⟨y, _, rfl⟩ := List.mem_map.1 hx
  exact mul_lt hc y
theorem scale_take (c : Nat) (l : List Nat) (k : Nat) (hk : k < l.length) : scale c (l.take (k + 1)) = scale c (l.take k) ++ [mul c (nth l k)] := by
  rw [take_nth l k hk]; simp [scale]
end Gf

/-- So much of the row is done, the rest is noughts. -/
def part (done : List Nat) (n : Nat) : List Nat := done ++ List.replicate (n - done.length) 0

theorem part_length (done : List Nat) (n : Nat) (h : done.length ≤ n) : (part done n).length = n := by simp [part]; omega
theorem part_all (done : List Nat) (n : Nat) (h : done.length = n) : part done n = done := by simp [part, h]
theorem part_set (done : List Nat) (n x : Nat) (h : done.length < n) : (part done n).set done.length x = part (done ++ [x]) n := by
  unfold part
  obtain ⟨m, hm⟩ : ∃ m, n - done.length = m + 1 := ⟨n - done.length - 1, by omega⟩
  rw [hm, List.set_append_right _ _ (Nat.le_refl _), Nat.sub_self, List.replicate_succ, List.set_cons_zero]
  simp only [List.length_append, List.length_cons, List.length_nil, List.append_assoc, List.cons_append, List.nil_append]
  rw [show n - (done.length + (0 + 1)) = m from by omega]

theorem mul2w (a b : Nat) (T : TypeId) (k : Nat) (w : World) (hk : k = w.heap.size) (ha : a < 256) (hb : b < 256) :
    Calls Try.prog 57 #[.slice (some ⟨k, 0, none⟩) 2 2] (w.alloc (.cells #[U8 a, U8 b] T)) fun e w' => e = .returned (U8 (Gf.mul a b)) ∧ Below w.heap.size w w' :=
  mul2b a b T k w w hk ha hb (Below.refl _ _)
theorem add2w (a b : Nat) (T : TypeId) (k : Nat) (w : World) (hk : k = w.heap.size) (ha : a < 256) (hb : b < 256) :
    Calls Try.prog 56 #[.slice (some ⟨k, 0, none⟩) 2 2] (w.alloc (.cells #[U8 a, U8 b] T)) fun e w' => e = .returned (U8 (a ^^^ b)) ∧ Below w.heap.size w w' :=
  add2b a b T k w w hk ha hb (Below.refl _ _)

set_option maxHeartbeats 400000 in
theorem scale_empty (c : Nat) (a : Option Addr) (cap : Nat) (w : World) :
    Calls Try.prog 37 #[U8 c, .slice a 0 cap] w (NewRow w []) := by
  have hmk : ∀ w : World, (Instr.makeSlice 40 (.int .i64 0) (.int .i64 0)).run Try.prog w = .ok (whole w.heap.size 0) (w.alloc (bytesObj [])) := fun w => make_bytes 0 (by omega) w
  go_enter Try.func37, Try.ntmps37
  go_wp2
  refine wp_loop_rounds 1 ?_
  rw [rounds_succ]
  go_wp2
  go_ret
  exact ⟨w.heap.size, rfl, Nat.le_refl _, Own.new w [], (Below.refl _ _).alloc (Nat.le_refl _) _⟩

set_option maxHeartbeats 400000 in
theorem scale_some (c b off cap : Nat) (l : List Nat) (w : World) (hc : c < 256) (hn : l.length ≤ 281474976710656) (hB : Bytes w (.slice (some ⟨b, off, none⟩) l.length cap) l) :
    Calls Try.prog 37 #[U8 c, .slice (some ⟨b, off, none⟩) l.length cap] w (NewRow w (Gf.scale c l)) := by
  have hmk := make_bytes l.length hn
  have HB := Lib.hid hB
  clear hB
  go_enter Try.func37, Try.ntmps37
  go_wp2
  clear hmk
  go_loopw [6, 7, 13] (fun _ _ i wr => ∃ k : Nat, k ≤ l.length ∧ i = .int .i64 k ∧ Own wr w.heap.size (part (Gf.scale c (l.take k)) l.length) ∧ Below w.heap.size w wr) (fun _ _ i _ => l.length - (intOf i).toNat)
  case atStart => exact ⟨0, by omega, rfl, Own.new w _, (Below.refl _ _).alloc (Nat.le_refl _) _⟩
  case round =>
    obtain ⟨k, hk, rfl, hown, hbel⟩ := hrel
    have HO := Lib.hid hown
    clear hown
    by_cases hlt : k < l.length
    · have hBr := HB.out.below (Nat.le_refl _) hbel
      have hcell := hBr.cell k hlt
      have x1 := nth_lt hBr.lt k
      clear hBr
      go_wp2_with fail
      refine (mul2w _ _ _ _ _ rfl hc x1).mono ?_
      rintro e w1 ⟨rfl, hb1⟩
      have hown1 := HO.out.below HO.out.lt hb1
      have hcell1 := hown1.cell k (by rw [part_length _ _ (by rw [Gf.scale_length]; simp; omega)]; exact hlt)
      have hfr := hown1.free k
      have HO1 := Lib.hid hown1
      clear hown1
      go_wp2_with fail
      refine ⟨⟨k + 1, by omega, by go_num, ?_, (hbel.trans (hb1.mono hbel.size)).setCell (Nat.le_refl _) _⟩, by simp [intOf]; omega⟩
      have h := HO1.out.set k (Gf.mul c (nth l k))
      have hd : (Gf.scale c (l.take k)).length = k := by rw [Gf.scale_length]; simp; omega
      have e := part_set (Gf.scale c (l.take k)) l.length (Gf.mul c (nth l k)) (by omega)
      rw [hd] at e
      rw [e, ← Gf.scale_take c l k hlt] at h
      exact h
    · have HT : Hid (l.take k = l) := Lib.hid (List.take_of_length_le (by omega))
      go_wp2_with fail
      go_ret
      refine ⟨w.heap.size, by rw [Gf.scale_length]; rfl, Nat.le_refl _, ?_, hbel⟩
      have h := HO.out
      rw [HT.out, part_all _ _ (Gf.scale_length c l)] at h
      exact h

theorem scale_any (c : Nat) (v : Value) (l : List Nat) (w : World) (hc : c < 256) (hn : l.length ≤ 281474976710656) (hB : Bytes w v l) :
    Calls Try.prog 37 #[U8 c, v] w (NewRow w (Gf.scale c l)) := by
  have hB0 := hB
  obtain ⟨a, cap, rfl, h1, h2, h3, h4⟩ := hB
  cases l with
  | nil => exact scale_empty c a cap w
  | cons x l =>
    obtain ⟨b, off, rfl, _, _⟩ := h4 (by simp)
    exact scale_some c b off cap _ w hc hn hB0

namespace Gf
/-- Two rows, added. -/
def add (s r : List Nat) : List Nat := List.zipWith (· ^^^ ·) s r
theorem add_length (s r : List Nat) (h : s.length = r.length) : (add s r).length = s.length := by simp [add, h]
theorem add_lt {s r : List Nat} (hs : ∀ x, x ∈ s → x < 256) (hr : ∀ x, x ∈ r → x < 256) : ∀ x, x ∈ add s r → x < 256 := by
  intro x hx
  unfold add at hx
  obtain ⟨i, hi, rfl⟩ := List.getElem_of_mem hx
  simp only [List.getElem_zipWith]
  exact xor_lt (hs _ (List.getElem_mem _)) (hr _ (List.getElem_mem _))
/-- The first k places are added already. -/
def addTo (s r : List Nat) (k : Nat) : List Nat := add (s.take k) (r.take k) ++ s.drop k
theorem addTo_length (s r : List Nat) (k : Nat) (h : s.length = r.length) : (addTo s r k).length = s.length := by simp [addTo, add, h]; omega
theorem addTo_zero (s r : List Nat) : addTo s r 0 = s := by simp [addTo, add]
theorem addTo_all (s r : List Nat) (k : Nat) (h : s.length = r.length) (hk : r.length ≤ k) : addTo s r k = add s r := by
  unfold addTo
  rw [List.take_of_length_le (by omega), List.take_of_length_le hk, List.drop_eq_nil_of_le (by omega), List.append_nil]
theorem addTo_nth (s r : List Nat) (k : Nat) (h : s.length = r.length) (hk : k < s.length) : nth (addTo s r k) k = nth s k := by
  rw [nth_eq _ _ (by rw [addTo_length s r k h]; exact hk), nth_eq s k hk]
  unfold addTo add
  rw [List.getElem_append_right (by simp; omega)]
  simp [h, show k - min k r.length = 0 by omega]
theorem addTo_step (s r : List Nat) (k : Nat) (h : s.length = r.length) (hk : k < s.length) : (addTo s r k).set k (nth s k ^^^ nth r k) = addTo s r (k + 1) := by
  have hl : (add (s.take k) (r.take k)).length = k := by simp [add]; omega
  unfold addTo
  rw [List.set_append_right _ _ (by omega), hl, Nat.sub_self, take_nth s k hk, take_nth r k (by omega)]
  rw [List.drop_eq_getElem_cons hk, List.set_cons_zero]
  unfold add
  rw [List.zipWith_append (by simp; omega)]
  simp
end Gf

set_option maxHeartbeats 400000 in
theorem addTo_empty (g n : Nat) (a : Option Addr) (cap : Nat) (w : World) :
    Calls Try.prog 36 #[whole g n, .slice a 0 cap] w fun e w' => e = .returned (.tuple #[]) ∧ w = w' := by
  go_enter Try.func36, Try.ntmps36
  go_wp2
  refine wp_loop_rounds 1 ?_
  rw [rounds_succ]
  go_wp2
  go_end0
  exact ⟨rfl, rfl⟩

/-- What addTo leaves: the block holds the sums, and of all others nothing has turned. -/
def Added (w : World) (g : Nat) (l : List Nat) (e : Ending) (w' : World) : Prop := e = .returned (.tuple #[]) ∧ Own w' g l ∧ w.grownBy w' (some g)

set_option maxHeartbeats 400000 in
theorem addTo_some (g b off cap : Nat) (s r : List Nat) (w : World) (hs : ∀ x, x ∈ s → x < 256) (hm : s.length ≤ 9223372036854775807) (hO : Own w g s) (hne : b ≠ g) (hB : Bytes w (.slice (some ⟨b, off, none⟩) r.length cap) r) (hl : s.length = r.length) :
    Calls Try.prog 36 #[whole g s.length, .slice (some ⟨b, off, none⟩) r.length cap] w (Added w g (Gf.add s r)) := by
  have HB := Lib.hid hB
  have HO := Lib.hid hO
  have HS := Lib.hid hs
  have HL := Lib.hid hl
  have hle : r.length ≤ s.length := by omega
  clear hB hO hs hl
  go_enter Try.func36, Try.ntmps36
  go_wp2
  go_loopw [4, 5, 8] (fun _ _ i wr => ∃ k : Nat, k ≤ r.length ∧ i = .int .i64 k ∧ Own wr g (Gf.addTo s r k) ∧ w.grownBy wr (some g)) (fun _ _ i _ => r.length - (intOf i).toNat)
  case atStart => exact ⟨0, by omega, rfl, by rw [Gf.addTo_zero]; exact HO.out, grown_refl _ _⟩
  case round =>
    obtain ⟨k, hk, rfl, hown, hgr⟩ := hrel
    have HOw := Lib.hid hown
    clear hown
    by_cases hlt : k < r.length
    · have hBr := HB.out.grown hgr (Or.inr (by simpa [Value.ownBlock] using hne))
      have hcell := hBr.cell k hlt
      have x1 := nth_lt hBr.lt k
      have x2 := nth_lt HS.out k
      have hcell0 := HOw.out.cell k (by rw [Gf.addTo_length s r k HL.out]; omega)
      rw [Gf.addTo_nth s r k HL.out (by omega)] at hcell0
      clear hBr
      go_wp2_with fail
      refine (add2w _ _ _ _ _ rfl x2 x1).mono ?_
      rintro e w1 ⟨rfl, hb1⟩
      have hown1 := HOw.out.below HOw.out.lt hb1
      have hcell1 := hown1.cell k (by rw [Gf.addTo_length s r k HL.out]; omega)
      have hfr := hown1.free k
      have HO1 := Lib.hid hown1
      clear hown1
      go_wp2_with fail
      refine ⟨⟨k + 1, by omega, by go_num, ?_, grown_trans (grown_trans hgr (grown_of_below hb1 _)) (grown_setCell _ ⟨g, k, none⟩ _)⟩, by simp [intOf]; omega⟩
      have h := HO1.out.set k (nth s k ^^^ nth r k)
      rw [Gf.addTo_step s r k HL.out (by omega)] at h
      exact h
    · go_wp2_with fail
      go_end0
      refine ⟨rfl, ?_, hgr⟩
      have h := HOw.out
      rw [Gf.addTo_all s r k HL.out (by omega)] at h
      exact h

theorem addTo_any (g n : Nat) (v : Value) (s r : List Nat) (w : World) (hn : s.length = n) (hs : ∀ x, x ∈ s → x < 256) (hm : n ≤ 9223372036854775807) (hO : Own w g s) (hne : r ≠ [] → v.ownBlock ≠ some g) (hB : Bytes w v r) (hl : n = r.length) :
    Calls Try.prog 36 #[whole g n, v] w (Added w g (Gf.add s r)) := by
  subst hn
  have hB0 := hB
  obtain ⟨a, cap, rfl, h1, h2, h3, h4⟩ := hB
  cases r with
  | nil =>
    have e : s = [] := List.length_eq_zero_iff.1 hl
    subst e
    exact (addTo_empty g 0 a cap w).mono fun _ _ h => ⟨h.1, h.2 ▸ hO, h.2 ▸ grown_refl _ _⟩
  | cons x r =>
    obtain ⟨b, off, rfl, _, _⟩ := h4 (by simp)
    exact addTo_some g b off cap s _ w hs hm hO (by simpa [Value.ownBlock] using hne (by simp)) hB0 hl

end Go.Proofs.Ytphdadibfeencaa

/-
  Slices of slices of bytes in memory: what is said of one that is read; one that came in, opened.
-/
set_option maxRecDepth 100000
namespace Go.Proofs.Ytphdadibfeencaa
open Go.ChangeShapes Go.WideShapes Go.ChangeAt Go.RowKit

/-- The row of a place: by a name of its own, so that the walk leaves it as it is. -/
def rowAt (ll : List (List Nat)) (i : Nat) : List Nat := ll.getD i []

/-- The value is a slice of slices that reads as these rows. -/
def IsRows (w : World) (v : Value) (ll : List (List Nat)) : Prop :=
  ∃ a cap, v = .slice a ll.length cap ∧ ll.length ≤ cap ∧ cap ≤ 9223372036854775807 ∧
    (ll ≠ [] → ∃ b off, a = some ⟨b, off, none⟩ ∧ b < w.heap.size ∧ ∀ i, i < ll.length → ∃ u, w.cell? ⟨b, off + i, none⟩ = some u ∧ Bytes w u (rowAt ll i))

theorem IsRows.below {w w' : World} {v : Value} {ll : List (List Nat)} {B : Nat} (h : IsRows w v ll) (hB : w.heap.size ≤ B) (hb : Below B w w') : IsRows w' v ll := by
  obtain ⟨a, cap, rfl, h1, h2, h4⟩ := h
  refine ⟨a, cap, rfl, h1, h2, fun hne => ?_⟩
  obtain ⟨b, off, rfl, hlt, hc⟩ := h4 hne
  refine ⟨b, off, rfl, Nat.lt_of_lt_of_le hlt hb.size, fun i hi => ?_⟩
  obtain ⟨u, hu, hu2⟩ := hc i hi
  exact ⟨u, by rw [hb.cell (p := ⟨b, off + i, none⟩) (by show b < B; omega)]; exact hu, hu2.below hB hb⟩
theorem IsRows.go {w w' : World} {v : Value} {ll : List (List Nat)} (h : IsRows w v ll) (hb : Below w.heap.size w w') : IsRows w' v ll := h.below (Nat.le_refl _) hb

theorem IsRows.cell {w : World} {b off n cap : Nat} {ll : List (List Nat)} (h : IsRows w (.slice (some ⟨b, off, none⟩) n cap) ll) (k : Nat) (hk : k < ll.length) : ∃ u, w.cell? ⟨b, off + k, none⟩ = some u ∧ Bytes w u (rowAt ll k) := by
  obtain ⟨a, cap', e, _, _, h4⟩ := h
  obtain ⟨b', off', rfl, _, hc⟩ := h4 (by intro h; rw [h] at hk; simp at hk)
  simp only [Value.slice.injEq, Option.some.injEq, Addr.mk.injEq] at e
  obtain ⟨⟨rfl, rfl, _⟩, _, _⟩ := e
  exact hc k hk

/-- A row's value is still there, where nothing below has turned. -/
theorem IsRows.at {w w' : World} {b off n cap : Nat} {ll : List (List Nat)} (h : IsRows w (.slice (some ⟨b, off, none⟩) n cap) ll) (hb : Below w.heap.size w w') (k : Nat) (hk : k < ll.length) : ∃ u, w'.cell? ⟨b, off + k, none⟩ = some u ∧ Bytes w u (rowAt ll k) := by
  obtain ⟨u, hu, hB⟩ := h.cell k hk
  exact ⟨u, by rw [hb.cell (p := ⟨b, off + k, none⟩) (World.block_lt_of_cell? w _ hu)]; exact hu, hB⟩

theorem rowAt_eq (ll : List (List Nat)) (i : Nat) (h : i < ll.length) : rowAt ll i = ll[i] := by
  unfold rowAt; rw [List.getD_eq_getElem?_getD, List.getElem?_eq_getElem h]; rfl
theorem take_rowAt (ll : List (List Nat)) (k : Nat) (h : k < ll.length) : ll.take (k + 1) = ll.take k ++ [rowAt ll k] := by
  rw [List.take_succ_eq_append_getElem h, rowAt_eq ll k h]

/-- A slice of slices of bytes that came in. -/
theorem open_rows {H : Type} {enc : TypeId × Value → H} {P : Program} {S T E : TypeId} (hS : P.underlying S = some (.slice T)) (hT : P.underlying T = some (.slice E)) (hE : P.underlying E = some (.int .u8)) (hcT : P.cellsOf T = 1) (hc : P.cellsOf E = 1) {W : World} {base : Nat} {v : Value} {d : DataW H} {p : List MemPlace}
    (hok : Value.okWide P W .any base S v) (h : DataW.Trod enc P W 0 (fun _ => true) true S v d p) (hlt : ∀ x ∈ p, x.block < W.heap.size) : ∃ ll, IsRows W v ll := by
  obtain ⟨a0, len, cap, rfl⟩ := okWide_slice hS hok
  obtain ⟨fuel, hf⟩ := h
  rcases Go.Deep.open_slice1 hS hcT hf with ⟨hcs, hx⟩ | ⟨a, len', cap', m, n, V, D, Pl, hcs, _, hl, hm, hmm, hx, hall⟩
  · simp [Value.cells] at hcs
    obtain ⟨rfl, rfl, rfl⟩ := hcs
    exact ⟨[], none, 0, rfl, by simp, by omega, fun h => absurd rfl h⟩
  · simp [Value.cells] at hcs
    obtain ⟨rfl, rfl, rfl⟩ := hcs
    simp only [Prod.mk.injEq] at hx
    obtain ⟨rfl, rfl⟩ := hx
    simp only [if_true] at hmm
    subst hmm
    have hrow : ∀ i, i < len → ∃ l, Bytes W (V i) l := fun i hi =>
      bytes_of_trod hT hE hc (hall i (by omega)).2 fun y hy => hlt y (List.mem_append_right _ (List.mem_flatMap.2 ⟨i, List.mem_range.2 (by omega), hy⟩))
    obtain ⟨L, hL⟩ := Go.Deep.choose_lt hrow
    have hlen : ((List.range len).map L).length = len := by simp
    refine ⟨(List.range len).map L, some a, m, by rw [hlen], by rw [hlen]; exact hl, by simpa [maxLen] using hm, fun hne => ?_⟩
    have hl0 : 0 < len := by
      cases len with
      | zero => simp at hne
      | succ n => omega
    obtain ⟨b, off, spot⟩ := a
    have hspot : spot = none := by simpa [Addr.add] using World.cell?_spot (hall 0 (by omega)).1
    subst hspot
    have hbW : b < W.heap.size := hlt (.cell b off) (List.mem_append_left _ (MemPlace.mem_row.2 ⟨0, by omega, by simp⟩))
    refine ⟨b, off, rfl, hbW, fun i hi => ?_⟩
    rw [hlen] at hi
    have hci := (hall i (by omega)).1
    rw [add_plain] at hci
    refine ⟨V i, hci, ?_⟩
    rw [rowAt_eq _ _ (by rw [hlen]; exact hi)]
    simpa using hL i hi

end Go.Proofs.Ytphdadibfeencaa

/-
  Many bytes at once (layer 2) in the program: are rows alike? ('alike', its closure, and the library's IndexFunc and ContainsFunc over it).
-/
set_option maxRecDepth 100000
namespace Go.Proofs.Ytphdadibfeencaa
open Go.RowKit

/-- Has each row the length of the first? -/
def alikeB (ll : List (List Nat)) : Bool := ll.all fun r => r.length == (rowAt ll 0).length

set_option maxHeartbeats 400000 in
theorem alike1_any (bx b off n cap n0 n1 c0 c1 : Nat) (a0 a1 : Option Addr) (w : World) (hn : 1 ≤ n) (hbx : w.cell? ⟨bx, 0, none⟩ = some (.slice (some ⟨b, off, none⟩) n cap)) (h0 : w.cell? ⟨b, off, none⟩ = some (.slice a0 n0 c0)) :
    Calls Try.prog 55 #[.slice a1 n1 c1, .pointer (some ⟨bx, 0, none⟩)] w fun e w' => e = .returned (.bool ((n1 : Int) != (n0 : Int))) ∧ w = w' := by
  go_enter Try.func55, Try.ntmps55
  go_wp2_with fail
  go_ret
  exact ⟨rfl, rfl⟩

/-- A place was found, or none: which, it doesn't say. -/
def Found (t : Bool) (w : World) (e : Ending) (w' : World) : Prop := ∃ r : Int, e = .returned (.int .i64 r) ∧ decide (0 ≤ r) = t ∧ w = w'

/-- The first length, and whether another row has another one. -/
theorem alikeB_eq (ll : List (List Nat)) : (!alikeB ll) = decide (∃ i, i < ll.length ∧ (rowAt ll i).length ≠ (rowAt ll 0).length) := by
  rw [Bool.eq_iff_iff]
  simp only [alikeB, Bool.not_eq_true', List.all_eq_false, beq_iff_eq, decide_eq_true_eq]
  constructor
  · rintro ⟨x, hx, hne⟩
    obtain ⟨i, hi, rfl⟩ := List.getElem_of_mem hx
    exact ⟨i, hi, by rw [rowAt_eq ll i hi]; exact hne⟩
  · rintro ⟨i, hi, hne⟩
    exact ⟨ll[i], List.getElem_mem hi, by rw [rowAt_eq ll i hi] at hne; exact hne⟩

set_option maxHeartbeats 400000 in
theorem idxAlike_any (bx b off cap : Nat) (ll : List (List Nat)) (w : World) (hn : 1 ≤ ll.length) (hbx : w.cell? ⟨bx, 0, none⟩ = some (.slice (some ⟨b, off, none⟩) ll.length cap)) (hR : IsRows w (.slice (some ⟨b, off, none⟩) ll.length cap) ll) :
    Calls Try.prog 73 #[.slice (some ⟨b, off, none⟩) ll.length cap, .func (Fn.func 55) #[] #[.pointer (some ⟨bx, 0, none⟩)]] w (Found (!alikeB ll) w) := by
  have hcap : ll.length ≤ 9223372036854775807 := by obtain ⟨_, _, _, h1, h2, _⟩ := hR; omega
  have HR := Lib.hid hR
  have HA := Lib.hid (alikeB_eq ll)
  obtain ⟨u0, hu0, hB0⟩ := hR.cell 0 (by omega)
  obtain ⟨a0, c0, rfl, _⟩ := hB0
  rw [Nat.add_zero] at hu0
  clear hR
  go_enter Try.func73, Try.ntmps73
  go_wp2
  go_loop [5, 8] (fun _ i => ∃ k : Nat, k ≤ ll.length ∧ i = .int .i64 k ∧ ∀ j, j < k → (rowAt ll j).length = (rowAt ll 0).length) (fun _ i => ll.length - (intOf i).toNat)
  case atStart => exact ⟨0, by omega, rfl, fun j hj => by omega⟩
  case round =>
    obtain ⟨k, hk, rfl, hno⟩ := hrel
    have HN := Lib.hid hno
    clear hno
    by_cases hlt : k < ll.length
    · obtain ⟨u, hu, hB⟩ := HR.out.cell k hlt
      obtain ⟨a1, c1, rfl, _⟩ := hB
      by_cases hq : (rowAt ll k).length = (rowAt ll 0).length
      · have hb : (((rowAt ll k).length : Int) != ((rowAt ll 0).length : Int)) = false := by rw [hq]; simp
        have HQ := Lib.hid hq
        clear hq
        go_wp2_with fail
        refine (alike1_any _ _ _ _ _ _ _ _ _ _ _ _ hn hbx hu0).mono ?_
        rintro e w' ⟨rfl, rfl⟩
        rw [hb]
        go_wp2_with fail
        go_round
        case rel => exact ⟨k + 1, by omega, by go_num, fun j hj => by
          by_cases h : j = k
          · rw [h]; exact HQ.out
          · exact HN.out j (by omega)⟩
        case measure => simp [intOf]; omega
      · have hb : (((rowAt ll k).length : Int) != ((rowAt ll 0).length : Int)) = true := by rw [bne_iff_ne]; omega
        have HF : Hid ((!alikeB ll) = true) := Lib.hid (by rw [HA.out, decide_eq_true_eq]; exact ⟨k, hlt, hq⟩)
        clear hq
        go_wp2_with fail
        refine (alike1_any _ _ _ _ _ _ _ _ _ _ _ _ hn hbx hu0).mono ?_
        rintro e w' ⟨rfl, rfl⟩
        rw [hb]
        go_wp2_with fail
        go_ret
        exact ⟨k, rfl, by rw [HF.out]; simp, rfl⟩
    · have HF : Hid ((!alikeB ll) = false) := Lib.hid (by
        rw [HA.out, decide_eq_false_iff_not]
        rintro ⟨i, hi, hne⟩
        exact hne (HN.out i (by omega)))
      go_wp2_with fail
      go_ret
      exact ⟨-1, rfl, by rw [HF.out]; decide, rfl⟩

set_option maxHeartbeats 400000 in
theorem idxAlike_empty (f : Value) (a : Option Addr) (cap : Nat) (w : World) :
    Calls Try.prog 73 #[.slice a 0 cap, f] w (Found false w) := by
  go_enter Try.func73, Try.ntmps73
  go_wp2
  refine wp_loop_rounds 1 ?_
  rw [rounds_succ]
  go_wp2
  go_ret
  exact ⟨-1, rfl, rfl, rfl⟩

set_option maxHeartbeats 400000 in
theorem hasAlike_any (v f : Value) (t : Bool) (w : World) (h : Calls Try.prog 73 #[v, f] w (Found t w)) :
    Calls Try.prog 54 #[v, f] w fun e w' => e = .returned (.bool t) ∧ w = w' := by
  have H := Lib.hid h
  clear h
  go_enter Try.func54, Try.ntmps54
  go_wp2_with fail
  refine H.out.mono ?_
  rintro e w' ⟨r, rfl, ht, rfl⟩
  go_wp2_with fail
  go_ret
  exact ⟨rfl, rfl⟩

set_option maxHeartbeats 400000 in
theorem alike_some (b off cap : Nat) (ll : List (List Nat)) (w : World) (hn : 1 ≤ ll.length) (hR : IsRows w (.slice (some ⟨b, off, none⟩) ll.length cap) ll) :
    Calls Try.prog 34 #[.slice (some ⟨b, off, none⟩) ll.length cap] w fun e w' => e = .returned (.bool (alikeB ll)) ∧ Below w.heap.size w w' := by
  have hmf : ∀ (fn : Fn) (first cap : Array Value) (w : World), (Instr.makeFunc fn first cap).run Try.prog w = .ok (.func fn first cap) w := fun _ _ _ _ => rfl
  have HR := Lib.hid hR
  clear hR
  go_enter Try.func34, Try.ntmps34
  go_wp2_with fail
  have hb1 : Below w.heap.size w (w.alloc (.cells #[.slice (some ⟨b, off, none⟩) ll.length cap] 47)) := (Below.refl _ _).alloc (Nat.le_refl _) _
  refine (hasAlike_any _ _ _ _ (idxAlike_any w.heap.size b off cap ll _ hn (by rw [World.cell?_alloc_at _ _ _ _ rfl]; rfl) (HR.out.below (Nat.le_refl _) hb1))).mono ?_
  rintro e w' ⟨rfl, rfl⟩
  go_wp2_with fail
  go_ret
  exact ⟨by simp, hb1⟩

set_option maxHeartbeats 400000 in
theorem alike_empty (a : Option Addr) (cap : Nat) (w : World) :
    Calls Try.prog 34 #[.slice a 0 cap] w fun e w' => e = .returned (.bool true) ∧ Below w.heap.size w w' := by
  have hmf : ∀ (fn : Fn) (first cap : Array Value) (w : World), (Instr.makeFunc fn first cap).run Try.prog w = .ok (.func fn first cap) w := fun _ _ _ _ => rfl
  go_enter Try.func34, Try.ntmps34
  go_wp2_with fail
  have hb1 : Below w.heap.size w (w.alloc (.cells #[.slice a 0 cap] 47)) := (Below.refl _ _).alloc (Nat.le_refl _) _
  refine (hasAlike_any _ _ _ _ (idxAlike_empty _ _ _ _)).mono ?_
  rintro e w' ⟨rfl, rfl⟩
  go_wp2_with fail
  go_ret
  exact ⟨rfl, hb1⟩

theorem alike_any (v : Value) (ll : List (List Nat)) (w : World) (hR : IsRows w v ll) :
    Calls Try.prog 34 #[v] w fun e w' => e = .returned (.bool (alikeB ll)) ∧ Below w.heap.size w w' := by
  have hR0 := hR
  obtain ⟨a, cap, rfl, h1, h2, h4⟩ := hR
  cases ll with
  | nil => exact alike_empty a cap w
  | cons x ll =>
    obtain ⟨b, off, rfl, _, _⟩ := h4 (by simp)
    exact alike_some b off cap _ w (by simp) hR0

end Go.Proofs.Ytphdadibfeencaa

/-
  A slice of bytes that a call appends to, byte by byte.
-/
set_option maxRecDepth 100000
namespace Go.Proofs.Ytphdadibfeencaa
open Go.RowKit

/-- The value is no slice yet, or one whose block, from B on, the call made itself. -/
def Owns (w : World) (B : Nat) (v : Value) (l : List Nat) : Prop := w.ownsRow B 5 1 v l.length (l.map U8)

theorem Owns.bytes {w : World} {B : Nat} {v : Value} {l : List Nat} (h : Owns w B v l) (hl : ∀ x, x ∈ l → x < 256) : Bytes w v l := by
  rcases h.2 with ⟨rfl, h0⟩ | ⟨g, cap, cur, rfl, hB, hg, hn, hc, hsz, ht⟩
  · have e : l = [] := List.length_eq_zero_iff.1 h0
    subst e
    exact ⟨none, 0, rfl, by simp, by omega, by simp, fun h => absurd rfl h⟩
  · refine ⟨some ⟨g, 0, none⟩, cap, rfl, hn, by simpa [maxLen] using hc, hl, fun _ => ⟨g, 0, rfl, (Array.getElem?_eq_some_iff.1 hg).1, fun i hi => ?_⟩⟩
    have h1 := World.ownsRow.cells h (g := g) rfl i (U8 (nth l i)) (by rw [nth_eq l i hi]; simp [hi])
    rw [show (⟨g, 0, none⟩ : Addr).add i = ⟨g, i, none⟩ from by unfold Addr.add; split <;> simp_all] at h1
    rw [Nat.zero_add]; exact h1

theorem infoByte : (Try.prog.info? 5).map (fun i => (i.zero, i.size, i.bytes)) = some (some (.int .u8 0), 1, 1) := by kernel_rfl

/-- The answer reads as these bytes; of what was there nothing has turned. -/
def BytesV (w : World) (l : List Nat) (e : Ending) (w' : World) : Prop := ∃ v, e = .returned v ∧ Bytes w' v l ∧ Below w.heap.size w w'

/-- The same, and an error's number. -/
def BytesE (w : World) (l : List Nat) (err : Int) (e : Ending) (w' : World) : Prop := ∃ v, e = .returned (.tuple #[v, .int .i64 err]) ∧ Bytes w' v l ∧ Below w.heap.size w w'
end Go.Proofs.Ytphdadibfeencaa

/-
  Many bytes at once (layer 2) in the program: 'blank', 'Axpy', 'Sum', 'Comb'.
-/
set_option maxRecDepth 100000
namespace Go.Proofs.Ytphdadibfeencaa
open Go.RowKit

/-- No slice, without elements; or the whole of a new block. -/
def Fresh (B : Nat) (w : World) (v : Value) (l : List Nat) : Prop := (v = .slice none 0 0 ∧ l = []) ∨ ∃ g, v = whole g l.length ∧ B ≤ g ∧ Own w g l

theorem Fresh.bytes {B : Nat} {w : World} {v : Value} {l : List Nat} (h : Fresh B w v l) (hl : ∀ x, x ∈ l → x < 256) (hm : l.length ≤ 9223372036854775807) : Bytes w v l := by
  rcases h with ⟨rfl, rfl⟩ | ⟨g, rfl, _, hO⟩
  · exact ⟨none, 0, rfl, by simp, by omega, by simp, fun h => absurd rfl h⟩
  · exact hO.bytes hl hm


/-- The answer is a row and an error's number; of what was there nothing has turned. -/
def RowE (w : World) (l : List Nat) (err : Int) (e : Ending) (w' : World) : Prop :=
  ∃ v, e = .returned (.tuple #[v, I64 err]) ∧ Fresh w.heap.size w' v l ∧ Below w.heap.size w w'

set_option maxHeartbeats 400000 in
theorem axpy_unlike (c : Nat) (a0 a1 : Option Addr) (n0 n1 c0 c1 : Nat) (w : World) (hne : n0 ≠ n1) :
    Calls Try.prog 91 #[U8 c, .slice a0 n0 c0, .slice a1 n1 c1] w (RowE w [] 4) := by
  have hb : ((n0 : Int) != (n1 : Int)) = true := by rw [bne_iff_ne]; omega
  clear hne
  go_enter Try.func91, Try.ntmps91
  go_wp2_with fail
  go_ret2
  exact ⟨_, rfl, Or.inl ⟨rfl, rfl⟩, Below.refl _ _⟩

set_option maxHeartbeats 400000 in
theorem axpy_like (c : Nat) (a0 a1 : Option Addr) (x y : List Nat) (c0 c1 : Nat) (w : World) (hc : c < 256) (hn : x.length ≤ 281474976710656) (hx : Bytes w (.slice a0 x.length c0) x) (hy : Bytes w (.slice a1 y.length c1) y) (hl : x.length = y.length) :
    Calls Try.prog 91 #[U8 c, .slice a0 x.length c0, .slice a1 y.length c1] w (RowE w (Gf.add (Gf.scale c x) y) 0) := by
  have hb : ((x.length : Int) != (y.length : Int)) = false := by rw [hl]; simp
  have HX := Lib.hid hx
  have HY := Lib.hid hy
  have HL := Lib.hid hl
  have hym : y.length ≤ 281474976710656 := by omega
  clear hx hy hl
  go_enter Try.func91, Try.ntmps91
  go_wp2_with fail
  refine (scale_any _ _ _ _ hc hn HX.out).mono ?_
  rintro e w1 ⟨g, rfl, hg, hO, hb1⟩
  have HO := Lib.hid hO
  clear hO
  go_wp2_with fail
  have hy1 := HY.out.below (Nat.le_refl _) hb1
  have hne := HY.out.apart hg
  refine (addTo_any g _ _ (Gf.scale c x) y _ rfl (Gf.scale_lt hc x) (by rw [Gf.scale_length]; omega) HO.out hne hy1 (by rw [Gf.scale_length]; exact HL.out)).mono ?_
  rintro e w2 ⟨rfl, hO2, hgr⟩
  have HO2 := Lib.hid hO2
  clear hO2
  go_wp2_with fail
  go_ret2
  refine ⟨_, rfl, Or.inr ⟨g, by rw [Gf.add_length _ _ (by rw [Gf.scale_length]; exact HL.out)]; rfl, hg, HO2.out⟩, below_grown hb1 hgr hb1.size hg⟩

/-- What Axpy answers. -/
def axpyL (c : Nat) (x y : List Nat) : List Nat := if x.length = y.length then Gf.add (Gf.scale c x) y else []
def axpyE (x y : List Nat) : Int := if x.length = y.length then 0 else 4

theorem axpy_any (c : Nat) (v0 v1 : Value) (x y : List Nat) (w : World) (hc : c < 256) (hn : x.length ≤ 281474976710656) (hx : Bytes w v0 x) (hy : Bytes w v1 y) :
    Calls Try.prog 91 #[U8 c, v0, v1] w (RowE w (axpyL c x y) (axpyE x y)) := by
  have hx0 := hx
  have hy0 := hy
  obtain ⟨a0, c0, rfl, _⟩ := hx
  obtain ⟨a1, c1, rfl, _⟩ := hy
  unfold axpyL axpyE
  by_cases hl : x.length = y.length
  · rw [if_pos hl, if_pos hl]; exact axpy_like c a0 a1 x y c0 c1 w hc hn hx0 hy0 hl
  · rw [if_neg hl, if_neg hl]; exact axpy_unlike c a0 a1 _ _ c0 c1 w hl

/-- Noughts, as many as the first row has bytes. -/
def zeros (n : Nat) : List Nat := List.replicate n 0

theorem zeros_length (n : Nat) : (zeros n).length = n := by simp [zeros]
theorem zeros_lt (n : Nat) : ∀ x, x ∈ zeros n → x < 256 := by
  intro x hx
  have := List.eq_of_mem_replicate hx
  omega

set_option maxHeartbeats 400000 in
theorem blank_empty (a : Option Addr) (cap : Nat) (w : World) :
    Calls Try.prog 35 #[.slice a 0 cap] w fun e w' => e = .returned (.slice none 0 0) ∧ w = w' := by
  go_enter Try.func35, Try.ntmps35
  go_wp2_with fail
  go_ret
  exact ⟨rfl, rfl⟩

set_option maxHeartbeats 400000 in
theorem blank_some (b off n n0 c0 cap : Nat) (a0 : Option Addr) (w : World) (hn : 1 ≤ n) (hm : n ≤ 9223372036854775807) (hm0 : n0 ≤ 281474976710656) (h0 : w.cell? ⟨b, off, none⟩ = some (.slice a0 n0 c0)) :
    Calls Try.prog 35 #[.slice (some ⟨b, off, none⟩) n cap] w fun e w' => e = .returned (whole w.heap.size n0) ∧ Own w' w.heap.size (zeros n0) ∧ Below w.heap.size w w' := by
  have hb : ((n : Int) == 0) = false := beq_eq_false_iff_ne.2 (by omega)
  have hmk := make_bytes n0 hm0
  go_enter Try.func35, Try.ntmps35
  go_wp2_with fail
  go_ret
  exact ⟨rfl, Own.new w _, (Below.refl _ _).alloc (Nat.le_refl _) _⟩

/-- The first k rows, added. -/
def sumK (ll : List (List Nat)) : Nat → List Nat
  | 0 => zeros (rowAt ll 0).length
  | k + 1 => Gf.add (sumK ll k) (rowAt ll k)

/-- The first k rows, each times its byte, added. -/
def combK (cs : List Nat) (ll : List (List Nat)) : Nat → List Nat
  | 0 => zeros (rowAt ll 0).length
  | k + 1 => Gf.add (combK cs ll k) (Gf.scale (nth cs k) (rowAt ll k))

theorem alike_at {ll : List (List Nat)} (h : alikeB ll = true) {k : Nat} (hk : k < ll.length) : (rowAt ll k).length = (rowAt ll 0).length := by
  simp only [alikeB, List.all_eq_true, beq_iff_eq] at h
  rw [rowAt_eq ll k hk]
  exact h _ (List.getElem_mem hk)

theorem sumK_length {ll : List (List Nat)} (h : alikeB ll = true) : ∀ k, k ≤ ll.length → (sumK ll k).length = (rowAt ll 0).length
  | 0, _ => zeros_length _
  | k + 1, hk => by
    have e := sumK_length h k (by omega)
    show (Gf.add (sumK ll k) (rowAt ll k)).length = _
    rw [Gf.add_length _ _ (by rw [e, alike_at h (show k < ll.length by omega)]), e]

theorem combK_length {cs : List Nat} {ll : List (List Nat)} (h : alikeB ll = true) : ∀ k, k ≤ ll.length → (combK cs ll k).length = (rowAt ll 0).length
  | 0, _ => zeros_length _
  | k + 1, hk => by
    have e := combK_length (cs := cs) h k (by omega)
    show (Gf.add (combK cs ll k) (Gf.scale (nth cs k) (rowAt ll k))).length = _
    rw [Gf.add_length _ _ (by rw [e, Gf.scale_length, alike_at h (show k < ll.length by omega)]), e]

theorem combK_lt {cs : List Nat} {ll : List (List Nat)} (hc : ∀ x, x ∈ cs → x < 256) : ∀ k, k ≤ ll.length → ∀ x, x ∈ combK cs ll k → x < 256
  | 0, _ => zeros_lt _
  | k + 1, hk => Gf.add_lt (combK_lt hc k (by omega)) (Gf.scale_lt (nth_lt hc k) _)

end Go.Proofs.Ytphdadibfeencaa

/-
  Many bytes at once (layer 2) in the program: 'Comb'.
-/
set_option maxRecDepth 100000
namespace Go.Proofs.Ytphdadibfeencaa
open Go.RowKit

set_option maxHeartbeats 400000 in
theorem comb_many (a0 a1 : Option Addr) (n0 n1 c0 c1 : Nat) (w : World) (hne : n0 ≠ n1) :
    Calls Try.prog 13 #[.slice a0 n0 c0, .slice a1 n1 c1] w (RowE w [] 4) := by
  have hb : ((n0 : Int) != (n1 : Int)) = true := by rw [bne_iff_ne]; omega
  clear hne
  go_enter Try.func13, Try.ntmps13
  go_wp2_with fail
  go_ret2
  exact ⟨_, rfl, Or.inl ⟨rfl, rfl⟩, Below.refl _ _⟩

set_option maxHeartbeats 400000 in
theorem comb_unlike (a0 a1 : Option Addr) (n c0 c1 : Nat) (ll : List (List Nat)) (w : World) (hl : n = ll.length) (hR : IsRows w (.slice a1 ll.length c1) ll) (hA : alikeB ll = false) :
    Calls Try.prog 13 #[.slice a0 n c0, .slice a1 ll.length c1] w (RowE w [] 4) := by
  have hb : ((n : Int) != (ll.length : Int)) = false := by rw [hl]; simp
  have H := Lib.hid (alike_any _ ll w hR)
  have HA := Lib.hid hA
  clear hR hA hl
  go_enter Try.func13, Try.ntmps13
  go_wp2_with fail
  refine H.out.mono ?_
  rintro e w1 ⟨rfl, hb1⟩
  rw [HA.out]
  go_wp2_with fail
  go_ret2
  exact ⟨_, rfl, Or.inl ⟨rfl, rfl⟩, hb1⟩

set_option maxHeartbeats 400000 in
theorem comb_empty (a0 a1 : Option Addr) (c0 c1 : Nat) (w : World) :
    Calls Try.prog 13 #[.slice a0 0 c0, .slice a1 0 c1] w (RowE w [] 0) := by
  go_enter Try.func13, Try.ntmps13
  go_wp2_with fail
  refine (alike_empty a1 c1 w).mono ?_
  rintro e w1 ⟨rfl, hb1⟩
  go_wp2_with fail
  refine (blank_empty a1 c1 _).mono ?_
  rintro e w2 ⟨rfl, rfl⟩
  go_wp2_with fail
  refine wp_loop_rounds 1 ?_
  rw [rounds_succ]
  go_wp2_with fail
  go_ret2
  exact ⟨_, rfl, Or.inl ⟨rfl, rfl⟩, hb1⟩

set_option maxHeartbeats 400000 in
theorem comb_some (b0 off0 c0 b off cap : Nat) (cs : List Nat) (ll : List (List Nat)) (w : World) (hl : cs.length = ll.length) (hn : 1 ≤ ll.length) (hm : (rowAt ll 0).length ≤ 281474976710656) (hC : Bytes w (.slice (some ⟨b0, off0, none⟩) cs.length c0) cs) (hR : IsRows w (.slice (some ⟨b, off, none⟩) ll.length cap) ll) (hA : alikeB ll = true) :
    Calls Try.prog 13 #[.slice (some ⟨b0, off0, none⟩) cs.length c0, .slice (some ⟨b, off, none⟩) ll.length cap] w (RowE w (combK cs ll ll.length) 0) := by
  have hb : ((cs.length : Int) != (ll.length : Int)) = false := by rw [hl]; simp
  have hcap : ll.length ≤ 9223372036854775807 := by obtain ⟨_, _, _, h1, h2, _⟩ := hR; omega
  have hcl : ll.length ≤ cs.length := by omega
  have HR := Lib.hid hR
  have HC := Lib.hid hC
  have HA := Lib.hid hA
  clear hR hA hC hl
  go_enter Try.func13, Try.ntmps13
  go_wp2_with fail
  refine (alike_any _ ll w HR.out).mono ?_
  rintro e w1 ⟨rfl, hb1⟩
  rw [HA.out]
  have HR1 := Lib.hid (HR.out.below (Nat.le_refl _) hb1)
  have HC1 := Lib.hid (HC.out.below (Nat.le_refl _) hb1)
  obtain ⟨u0, hu0, hB0⟩ := HR1.out.cell 0 (by omega)
  obtain ⟨a0, c0', rfl, _⟩ := hB0
  rw [Nat.add_zero] at hu0
  go_wp2_with fail
  refine (blank_some b off _ _ c0' cap a0 _ hn hcap hm hu0).mono ?_
  rintro e w2 ⟨rfl, hO2, hb2⟩
  have HO2 := Lib.hid hO2
  clear hO2 hu0
  go_wp2_with fail
  go_loopw [7, 8, 23] (fun _ _ i wr => ∃ k : Nat, k ≤ ll.length ∧ i = .int .i64 k ∧ Own wr w1.heap.size (combK cs ll k) ∧ Below w1.heap.size w1 wr) (fun _ _ i _ => ll.length - (intOf i).toNat)
  case atStart => exact ⟨0, by omega, rfl, HO2.out, hb2⟩
  case round =>
    obtain ⟨k, hk, rfl, hown, hbel⟩ := hrel
    have HO := Lib.hid hown
    clear hown
    have HL := Lib.hid (combK_length (cs := cs) HA.out k hk)
    have HCLT := Lib.hid HC1.out.lt
    by_cases hlt : k < ll.length
    · obtain ⟨u, hu, hB⟩ := HR1.out.at hbel k hlt
      have HB := Lib.hid (hB.below (Nat.le_refl _) hbel)
      have hcr := (HC1.out.below (Nat.le_refl _) hbel).cell k (by omega)
      have x1 := nth_lt HCLT.out k
      have HK := Lib.hid (alike_at HA.out hlt)
      have hgs : w1.heap.size < wr.heap.size := HO.out.lt
      clear hB
      go_wp2_with fail
      refine (scale_any _ _ _ _ x1 (by rw [HK.out]; exact hm) HB.out).mono ?_
      rintro e w3 ⟨g, rfl, hg, hOg, hb3⟩
      have HOg := Lib.hid (hOg.bytes (Gf.scale_lt x1 _) (by rw [Gf.scale_length, HK.out]; omega))
      have HO3 := Lib.hid (HO.out.below hgs hb3)
      clear hOg
      go_wp2_with fail
      refine (addTo_any _ _ _ _ _ _ HL.out (combK_lt HCLT.out k hk) (by omega) HO3.out (fun _ => by simp [Value.ownBlock]; omega) HOg.out (by rw [Gf.scale_length, HK.out])).mono ?_
      rintro e w4 ⟨rfl, hO4, hgr⟩
      have HO4 := Lib.hid hO4
      clear hO4
      go_wp2_with fail
      go_roundw
      case rel => exact ⟨k + 1, by omega, by go_num, HO4.out, below_grown (hbel.trans (hb3.mono (by omega))) hgr (by have := hb3.size; omega) (Nat.le_refl _)⟩
      case measure => simp [intOf]; omega
    · obtain rfl : k = ll.length := by omega
      go_wp2_with fail
      go_ret2
      exact ⟨_, rfl, Or.inr ⟨w1.heap.size, by rw [HL.out]; rfl, hb1.size, HO.out⟩, hb1.trans (hbel.mono hb1.size)⟩

/-- What Comb answers. -/
def combL (cs : List Nat) (ll : List (List Nat)) : List Nat := if cs.length = ll.length ∧ alikeB ll = true ∧ ll ≠ [] then combK cs ll ll.length else []
def combE (cs : List Nat) (ll : List (List Nat)) : Int := if cs.length = ll.length ∧ alikeB ll = true then 0 else 4

theorem comb_any (v0 v : Value) (cs : List Nat) (ll : List (List Nat)) (w : World) (hm : (rowAt ll 0).length ≤ 281474976710656) (hC : Bytes w v0 cs) (hR : IsRows w v ll) :
    Calls Try.prog 13 #[v0, v] w (RowE w (combL cs ll) (combE cs ll)) := by
  have hC0 := hC
  have hR0 := hR
  obtain ⟨a0, c0, rfl, _, _, _, g4⟩ := hC
  obtain ⟨a, cap, rfl, h1, h2, h4⟩ := hR
  unfold combL combE
  by_cases hl : cs.length = ll.length
  · by_cases hA : alikeB ll = true
    · cases ll with
      | nil =>
        rw [if_neg (by simp), if_pos ⟨hl, hA⟩]
        have e : cs.length = 0 := hl
        rw [e]
        exact comb_empty a0 a c0 cap w
      | cons x ll =>
        obtain ⟨b, off, rfl, _, _⟩ := h4 (by simp)
        obtain ⟨b0, off0, rfl, _, _⟩ := g4 (by intro h; rw [h] at hl; simp at hl)
        rw [if_pos ⟨hl, hA, by simp⟩, if_pos ⟨hl, hA⟩]
        exact comb_some b0 off0 c0 b off cap cs _ w hl (by simp) hm hC0 hR0 hA
    · rw [if_neg (by simp [hA]), if_neg (by simp [hA])]
      exact comb_unlike a0 a _ c0 cap ll w hl hR0 (by simpa using hA)
  · rw [if_neg (by simp [hl]), if_neg (by simp [hl])]
    exact comb_many a0 a _ _ c0 cap w hl

end Go.Proofs.Ytphdadibfeencaa
