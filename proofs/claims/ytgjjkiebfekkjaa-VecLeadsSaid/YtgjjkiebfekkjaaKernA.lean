/-
  Many bytes at once (layer 2) in the program: 'Scale', 'addTo'.
-/
import Derived.Test.YtgjjkiebfekkjaaOwn
import Derived.Test.YtgjjkiebfekkjaaLawOneC
set_option maxRecDepth 100000
namespace Go.Proofs.Ytgjjkiebfekkjaa
open Go.RowKit

/-- The answer is a new block of these bytes, and of what was there nothing has turned. -/
def NewRow (w : World) (l : List Nat) (e : Ending) (w' : World) : Prop :=
  ∃ g, e = .returned (whole g l.length) ∧ w.heap.size ≤ g ∧ Own w' g l ∧ Below w.heap.size w w'

namespace Gf
/-- Each byte times c. -/
def scale (c : Nat) (l : List Nat) : List Nat := l.map (mul c)
theorem scale_length (c : Nat) (l : List Nat) : (scale c l).length = l.length := by simp [scale]
theorem scale_lt {c : Nat} (hc : c < 256) (l : List Nat) : ∀ x, x ∈ scale c l → x < 256 := by
  intro x hx
  obtain ⟨y, _, rfl⟩ := List.mem_map.1 hx
  exact mul_lt hc y
theorem scale_take (c : Nat) (l : List Nat) (k : Nat) (hk : k < l.length) : scale c (l.take (k + 1)) = scale c (l.take k) ++ [mul c (nth l k)] := by
  rw [take_nth l k hk]; simp [scale]
end Gf

/-- So much of the row is done, the rest is noughts. -/
def part (done : List Nat) (n : Nat) : List Nat := done ++ List.replicate (n - done.length) 0

theorem part_length (done : List Nat) (n : Nat) (h : done.length ≤ n) : (part done n).length = n := by simp [part]; omega
theorem part_all (done : List Nat) (n : Nat) (h : done.length = n) : part done n = done := by simp [part, h]
theorem part_set (done : List Nat) (n x : Nat) (h : done.length < n) : (part done n).set done.length x = part (done ++ [x]) n := by
  unfold part
  obtain ⟨m, hm⟩ : ∃ m, n - done.length = m + 1 := ⟨n - done.length - 1, by omega⟩
  rw [hm, List.set_append_right _ _ (Nat.le_refl _), Nat.sub_self, List.replicate_succ, List.set_cons_zero]
  simp only [List.length_append, List.length_cons, List.length_nil, List.append_assoc, List.cons_append, List.nil_append]
  rw [show n - (done.length + (0 + 1)) = m from by omega]

theorem mul2w (a b : Nat) (T : TypeId) (k : Nat) (w : World) (hk : k = w.heap.size) (ha : a < 256) (hb : b < 256) :
    Calls Try.prog 41 #[.slice (some ⟨k, 0, none⟩) 2 2] (w.alloc (.cells #[U8 a, U8 b] T)) fun e w' => e = .returned (U8 (Gf.mul a b)) ∧ Below w.heap.size w w' :=
  mul2b a b T k w w hk ha hb (Below.refl _ _)
theorem add2w (a b : Nat) (T : TypeId) (k : Nat) (w : World) (hk : k = w.heap.size) (ha : a < 256) (hb : b < 256) :
    Calls Try.prog 43 #[.slice (some ⟨k, 0, none⟩) 2 2] (w.alloc (.cells #[U8 a, U8 b] T)) fun e w' => e = .returned (U8 (a ^^^ b)) ∧ Below w.heap.size w w' :=
  add2b a b T k w w hk ha hb (Below.refl _ _)

set_option maxHeartbeats 400000 in
theorem scale_empty (c : Nat) (a : Option Addr) (cap : Nat) (w : World) :
    Calls Try.prog 31 #[U8 c, .slice a 0 cap] w (NewRow w []) := by
  have hmk : ∀ w : World, (Instr.makeSlice 22 (.int .i64 0) (.int .i64 0)).run Try.prog w = .ok (whole w.heap.size 0) (w.alloc (bytesObj [])) := fun w => make_bytes 0 (by omega) w
  go_enter Try.func31, Try.ntmps31
  go_wp2
  refine wp_loop_rounds 1 ?_
  rw [rounds_succ]
  go_wp2
  go_ret
  exact ⟨w.heap.size, rfl, Nat.le_refl _, Own.new w [], (Below.refl _ _).alloc (Nat.le_refl _) _⟩

set_option maxHeartbeats 400000 in
theorem scale_some (c b off cap : Nat) (l : List Nat) (w : World) (hc : c < 256) (hn : l.length ≤ 281474976710656) (hB : Bytes w (.slice (some ⟨b, off, none⟩) l.length cap) l) :
    Calls Try.prog 31 #[U8 c, .slice (some ⟨b, off, none⟩) l.length cap] w (NewRow w (Gf.scale c l)) := by
  have hmk := make_bytes l.length hn
  have HB := Lib.hid hB
  clear hB
  go_enter Try.func31, Try.ntmps31
  go_wp2
  clear hmk
  go_loopw [6, 7, 13] (fun _ _ i wr => ∃ k : Nat, k ≤ l.length ∧ i = .int .i64 k ∧ Own wr w.heap.size (part (Gf.scale c (l.take k)) l.length) ∧ Below w.heap.size w wr) (fun _ _ i _ => l.length - (intOf i).toNat)
  case atStart => exact ⟨0, by omega, rfl, Own.new w _, (Below.refl _ _).alloc (Nat.le_refl _) _⟩
  case round =>
    obtain ⟨k, hk, rfl, hown, hbel⟩ := hrel
    have HO := Lib.hid hown
    clear hown
    by_cases hlt : k < l.length
    · have hBr := HB.out.below (Nat.le_refl _) hbel
      have hcell := hBr.cell k hlt
      have x1 := nth_lt hBr.lt k
      clear hBr
      go_wp2_with fail
      refine (mul2w _ _ _ _ _ rfl hc x1).mono ?_
      rintro e w1 ⟨rfl, hb1⟩
      have hown1 := HO.out.below HO.out.lt hb1
      have hcell1 := hown1.cell k (by rw [part_length _ _ (by rw [Gf.scale_length]; simp; omega)]; exact hlt)
      have hfr := hown1.free k
      have HO1 := Lib.hid hown1
      clear hown1
      go_wp2_with fail
      refine ⟨⟨k + 1, by omega, by go_num, ?_, (hbel.trans (hb1.mono hbel.size)).setCell (Nat.le_refl _) _⟩, by simp [intOf]; omega⟩
      have h := HO1.out.set k (Gf.mul c (nth l k))
      have hd : (Gf.scale c (l.take k)).length = k := by rw [Gf.scale_length]; simp; omega
      have e := part_set (Gf.scale c (l.take k)) l.length (Gf.mul c (nth l k)) (by omega)
      rw [hd] at e
      rw [e, ← Gf.scale_take c l k hlt] at h
      exact h
    · have HT : Hid (l.take k = l) := Lib.hid (List.take_of_length_le (by omega))
      go_wp2_with fail
      go_ret
      refine ⟨w.heap.size, by rw [Gf.scale_length]; rfl, Nat.le_refl _, ?_, hbel⟩
      have h := HO.out
      rw [HT.out, part_all _ _ (Gf.scale_length c l)] at h
      exact h

theorem scale_any (c : Nat) (v : Value) (l : List Nat) (w : World) (hc : c < 256) (hn : l.length ≤ 281474976710656) (hB : Bytes w v l) :
    Calls Try.prog 31 #[U8 c, v] w (NewRow w (Gf.scale c l)) := by
  have hB0 := hB
  obtain ⟨a, cap, rfl, h1, h2, h3, h4⟩ := hB
  cases l with
  | nil => exact scale_empty c a cap w
  | cons x l =>
    obtain ⟨b, off, rfl, _, _⟩ := h4 (by simp)
    exact scale_some c b off cap _ w hc hn hB0

namespace Gf
/-- Two rows, added. -/
def add (s r : List Nat) : List Nat := List.zipWith (· ^^^ ·) s r
theorem add_length (s r : List Nat) (h : s.length = r.length) : (add s r).length = s.length := by simp [add, h]
theorem add_lt {s r : List Nat} (hs : ∀ x, x ∈ s → x < 256) (hr : ∀ x, x ∈ r → x < 256) : ∀ x, x ∈ add s r → x < 256 := by
  intro x hx
  unfold add at hx
  obtain ⟨i, hi, rfl⟩ := List.getElem_of_mem hx
  simp only [List.getElem_zipWith]
  exact xor_lt (hs _ (List.getElem_mem _)) (hr _ (List.getElem_mem _))
/-- The first k places are added already. -/
def addTo (s r : List Nat) (k : Nat) : List Nat := add (s.take k) (r.take k) ++ s.drop k
theorem addTo_length (s r : List Nat) (k : Nat) (h : s.length = r.length) : (addTo s r k).length = s.length := by simp [addTo, add, h]; omega
theorem addTo_zero (s r : List Nat) : addTo s r 0 = s := by simp [addTo, add]
theorem addTo_all (s r : List Nat) (k : Nat) (h : s.length = r.length) (hk : r.length ≤ k) : addTo s r k = add s r := by
  unfold addTo
  rw [List.take_of_length_le (by omega), List.take_of_length_le hk, List.drop_eq_nil_of_le (by omega), List.append_nil]
theorem addTo_nth (s r : List Nat) (k : Nat) (h : s.length = r.length) (hk : k < s.length) : nth (addTo s r k) k = nth s k := by
  rw [nth_eq _ _ (by rw [addTo_length s r k h]; exact hk), nth_eq s k hk]
  unfold addTo add
  rw [List.getElem_append_right (by simp; omega)]
  simp [h, show k - min k r.length = 0 by omega]
theorem addTo_step (s r : List Nat) (k : Nat) (h : s.length = r.length) (hk : k < s.length) : (addTo s r k).set k (nth s k ^^^ nth r k) = addTo s r (k + 1) := by
  have hl : (add (s.take k) (r.take k)).length = k := by simp [add]; omega
  unfold addTo
  rw [List.set_append_right _ _ (by omega), hl, Nat.sub_self, take_nth s k hk, take_nth r k (by omega)]
  rw [List.drop_eq_getElem_cons hk, List.set_cons_zero]
  unfold add
  rw [List.zipWith_append (by simp; omega)]
  simp
end Gf

set_option maxHeartbeats 400000 in
theorem addTo_empty (g n : Nat) (a : Option Addr) (cap : Nat) (w : World) :
    Calls Try.prog 38 #[whole g n, .slice a 0 cap] w fun e w' => e = .returned (.tuple #[]) ∧ w = w' := by
  go_enter Try.func38, Try.ntmps38
  go_wp2
  refine wp_loop_rounds 1 ?_
  rw [rounds_succ]
  go_wp2
  go_end0
  exact ⟨rfl, rfl⟩

/-- What addTo leaves: the block holds the sums, and of all others nothing has turned. -/
def Added (w : World) (g : Nat) (l : List Nat) (e : Ending) (w' : World) : Prop := e = .returned (.tuple #[]) ∧ Own w' g l ∧ w.grownBy w' (some g)

set_option maxHeartbeats 400000 in
theorem addTo_some (g b off cap : Nat) (s r : List Nat) (w : World) (hs : ∀ x, x ∈ s → x < 256) (hm : s.length ≤ 9223372036854775807) (hO : Own w g s) (hne : b ≠ g) (hB : Bytes w (.slice (some ⟨b, off, none⟩) r.length cap) r) (hl : s.length = r.length) :
    Calls Try.prog 38 #[whole g s.length, .slice (some ⟨b, off, none⟩) r.length cap] w (Added w g (Gf.add s r)) := by
  have HB := Lib.hid hB
  have HO := Lib.hid hO
  have HS := Lib.hid hs
  have HL := Lib.hid hl
  have hle : r.length ≤ s.length := by omega
  clear hB hO hs hl
  go_enter Try.func38, Try.ntmps38
  go_wp2
  go_loopw [4, 5, 8] (fun _ _ i wr => ∃ k : Nat, k ≤ r.length ∧ i = .int .i64 k ∧ Own wr g (Gf.addTo s r k) ∧ w.grownBy wr (some g)) (fun _ _ i _ => r.length - (intOf i).toNat)
  case atStart => exact ⟨0, by omega, rfl, by rw [Gf.addTo_zero]; exact HO.out, grown_refl _ _⟩
  case round =>
    obtain ⟨k, hk, rfl, hown, hgr⟩ := hrel
    have HOw := Lib.hid hown
    clear hown
    by_cases hlt : k < r.length
    · have hBr := HB.out.grown hgr (Or.inr (by simpa [Value.ownBlock] using hne))
      have hcell := hBr.cell k hlt
      have x1 := nth_lt hBr.lt k
      have x2 := nth_lt HS.out k
      have hcell0 := HOw.out.cell k (by rw [Gf.addTo_length s r k HL.out]; omega)
      rw [Gf.addTo_nth s r k HL.out (by omega)] at hcell0
      clear hBr
      go_wp2_with fail
      refine (add2w _ _ _ _ _ rfl x2 x1).mono ?_
      rintro e w1 ⟨rfl, hb1⟩
      have hown1 := HOw.out.below HOw.out.lt hb1
      have hcell1 := hown1.cell k (by rw [Gf.addTo_length s r k HL.out]; omega)
      have hfr := hown1.free k
      have HO1 := Lib.hid hown1
      clear hown1
      go_wp2_with fail
      refine ⟨⟨k + 1, by omega, by go_num, ?_, grown_trans (grown_trans hgr (grown_of_below hb1 _)) (grown_setCell _ ⟨g, k, none⟩ _)⟩, by simp [intOf]; omega⟩
      have h := HO1.out.set k (nth s k ^^^ nth r k)
      rw [Gf.addTo_step s r k HL.out (by omega)] at h
      exact h
    · go_wp2_with fail
      go_end0
      refine ⟨rfl, ?_, hgr⟩
      have h := HOw.out
      rw [Gf.addTo_all s r k HL.out (by omega)] at h
      exact h

theorem addTo_any (g n : Nat) (v : Value) (s r : List Nat) (w : World) (hn : s.length = n) (hs : ∀ x, x ∈ s → x < 256) (hm : n ≤ 9223372036854775807) (hO : Own w g s) (hne : r ≠ [] → v.ownBlock ≠ some g) (hB : Bytes w v r) (hl : n = r.length) :
    Calls Try.prog 38 #[whole g n, v] w (Added w g (Gf.add s r)) := by
  subst hn
  have hB0 := hB
  obtain ⟨a, cap, rfl, h1, h2, h3, h4⟩ := hB
  cases r with
  | nil =>
    have e : s = [] := List.length_eq_zero_iff.1 hl
    subst e
    exact (addTo_empty g 0 a cap w).mono fun _ _ h => ⟨h.1, h.2 ▸ hO, h.2 ▸ grown_refl _ _⟩
  | cons x r =>
    obtain ⟨b, off, rfl, _, _⟩ := h4 (by simp)
    exact addTo_some g b off cap s _ w hs hm hO (by simpa [Value.ownBlock] using hne (by simp)) hB0 hl

end Go.Proofs.Ytgjjkiebfekkjaa
