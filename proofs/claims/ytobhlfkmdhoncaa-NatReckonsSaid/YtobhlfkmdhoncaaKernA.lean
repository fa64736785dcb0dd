/-
  Many bytes at once (layer 2) in the program: 'Scale', 'addTo'.
-/
import Derived.Test.YtobhlfkmdhoncaaOwn
import Derived.Test.YtobhlfkmdhoncaaLawOneC
set_option maxRecDepth 100000
namespace Go.Proofs.Ytobhlfkmdhoncaa
open Go.RowKit

/-- The answer is a new block of these bytes, and of what was there nothing has turned. -/
def NewRow (w : World) (l : List Nat) (e : Ending) (w' : World) : Prop :=
  ∃ g, e = .returned (whole g l.length) ∧ w.heap.size ≤ g ∧ Own w' g l ∧ Below w.heap.size w w'

namespace Gf
/-- Each byte times c. -/
def scale (c : Nat) (l : List Nat) : List Nat := l.map (mul c)
theorem scale_length (c : Nat) (l : List Nat) : (scale c l).length = l.length := by simp [scale]
theorem scale_lt {c : Nat} (hc : c < 256) (l : List Nat) : ∀ x, x ∈ scale c l → x < 256 := by
  intro x hx
  obtain ⟨y, _, rfl⟩ := List.mem_map.1 hx
  exact mul_lt hc y
theorem scale_take (c : Nat) (l : List Nat) (k : Nat) (hk : k < l.length) : scale c (l.take (k + 1)) = scale c (l.take k) ++ [mul c (nth l k)] := by
  rw [take_nth l k hk]; simp [scale]
end Gf

/-- So much of the row is done, the rest is noughts. -/
def part (done : List Nat) (n : Nat) : List Nat := done ++ List.replicate (n - done.length) 0

theorem part_length (done : List Nat) (n : Nat) (h : done.length ≤ n) : (part done n).length = n := by simp [part]; omega
theorem part_all (done : List Nat) (n : Nat) (h : done.length = n) : part done n = done := by simp [part, h]
theorem part_set (done : List Nat) (n x : Nat) (h : done.length < n) : (part done n).set done.length x = part (done ++ [x]) n := by
  unfold part
  obtain ⟨m, hm⟩ : ∃ m, n - done.length = m + 1 := ⟨n - done.length - 1, by omega⟩
  rw [hm, List.set_append_right _ _ (Nat.le_refl _), Nat.sub_self, List.replicate_succ, List.set_cons_zero]
  simp only [List.length_append, List.length_cons, List.length_nil, List.append_assoc, List.cons_append, List.nil_append]
  rw [show n - (done.length + (0 + 1)) = m from by omega]

namespace Gf
/-- Two rows, added. -/
def add (s r : List Nat) : List Nat := List.zipWith (· ^^^ ·) s r
theorem add_length (s r : List Nat) (h : s.length = r.length) : (add s r).length = s.length := by simp [add, h]
theorem add_lt {s r : List Nat} (hs : ∀ x, x ∈ s → x < 256) (hr : ∀ x, x ∈ r → x < 256) : ∀ x, x ∈ add s r → x < 256 := by
  intro x hx
  unfold add at hx
  obtain ⟨i, hi, rfl⟩ := List.getElem_of_mem hx
  simp only [List.getElem_zipWith]
  exact xor_lt (hs _ (List.getElem_mem _)) (hr _ (List.getElem_mem _))
/-- The first k places are added already. -/
def addTo (s r : List Nat) (k : Nat) : List Nat := add (s.take k) (r.take k) ++ s.drop k
theorem addTo_length (s r : List Nat) (k : Nat) (h : s.length = r.length) : (addTo s r k).length = s.length := by simp [addTo, add, h]; omega
theorem addTo_zero (s r : List Nat) : addTo s r 0 = s := by simp [addTo, add]
theorem addTo_all (s r : List Nat) (k : Nat) (h : s.length = r.length) (hk : r.length ≤ k) : addTo s r k = add s r := by
  unfold addTo
  rw [List.take_of_length_le (by omega), List.take_of_length_le hk, List.drop_eq_nil_of_le (by omega), List.append_nil]
theorem addTo_nth (s r : List Nat) (k : Nat) (h : s.length = r.length) (hk : k < s.length) : nth (addTo s r k) k = nth s k := by
  rw [nth_eq _ _ (by rw [addTo_length s r k h]; exact hk), nth_eq s k hk]
  unfold addTo add
  rw [List.getElem_append_right (by simp; omega)]
  simp [h, show k - min k r.length = 0 by omega]
theorem addTo_step (s r : List Nat) (k : Nat) (h : s.length = r.length) (hk : k < s.length) : (addTo s r k).set k (nth s k ^^^ nth r k) = addTo s r (k + 1) := by
  have hl : (add (s.take k) (r.take k)).length = k := by simp [add]; omega
  unfold addTo
  rw [List.set_append_right _ _ (by omega), hl, Nat.sub_self, take_nth s k hk, take_nth r k (by omega)]
  rw [List.drop_eq_getElem_cons hk, List.set_cons_zero]
  unfold add
  rw [List.zipWith_append (by simp; omega)]
  simp
end Gf

/-- What addTo leaves: the block holds the sums, and of all others nothing has turned. -/
def Added (w : World) (g : Nat) (l : List Nat) (e : Ending) (w' : World) : Prop := e = .returned (.tuple #[]) ∧ Own w' g l ∧ w.grownBy w' (some g)

end Go.Proofs.Ytobhlfkmdhoncaa
