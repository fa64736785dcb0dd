/-
  The document's answer for rows (wellspringref02), in the program: 'Comb'.
-/
import Derived.Test.YtobhlfkmdhoncaaRefTwo
set_option maxRecDepth 100000
namespace Go.Proofs.Ytobhlfkmdhoncaa
open Go.RowKit

/-- The answer is a slice that the call grew itself, or none, and an error's number. -/
def GrownE (w : World) (l : List Nat) (err : Int) (e : Ending) (w' : World) : Prop := ∃ v, e = .returned (.tuple #[v, I64 err]) ∧ Owns w' w.heap.size v l ∧ Below w.heap.size w w'

/-- One place of a combination: the first k rows. -/
def combAt (cs : List Nat) (ll : List (List Nat)) (i : Nat) : Nat → Nat
  | 0 => 0
  | k + 1 => combAt cs ll i k ^^^ Gf.mul (nth cs k) (nth (rowAt ll k) i)

theorem combAt_lt {cs : List Nat} (hc : ∀ x, x ∈ cs → x < 256) (ll : List (List Nat)) (i : Nat) : ∀ k, combAt cs ll i k < 256
  | 0 => show 0 < 256 by decide
  | k + 1 => Gf.xor_lt (combAt_lt hc ll i k) (Gf.mul_lt (nth_lt hc k) _)

/-- The first m places of a combination. -/
def combT (cs : List Nat) (ll : List (List Nat)) (m : Nat) : List Nat := (List.range m).map fun i => combAt cs ll i ll.length

theorem combT_length (cs : List Nat) (ll : List (List Nat)) (m : Nat) : (combT cs ll m).length = m := by simp [combT]
theorem combT_succ (cs : List Nat) (ll : List (List Nat)) (m : Nat) : combT cs ll (m + 1) = combT cs ll m ++ [combAt cs ll m ll.length] := by simp [combT, List.range_succ]
theorem combT_lt {cs : List Nat} (hc : ∀ x, x ∈ cs → x < 256) (ll : List (List Nat)) (m : Nat) : ∀ x, x ∈ combT cs ll m → x < 256 := by
  intro x hx
  obtain ⟨i, _, rfl⟩ := List.mem_map.1 hx
  exact combAt_lt hc ll i _

theorem nth_add (s r : List Nat) (i : Nat) (hs : i < s.length) (hr : i < r.length) : nth (Gf.add s r) i = nth s i ^^^ nth r i := by
  rw [nth_eq _ _ (by simp [Gf.add]; omega), nth_eq s i hs, nth_eq r i hr]
  simp [Gf.add]
theorem nth_scale (c : Nat) (l : List Nat) (i : Nat) (h : i < l.length) : nth (Gf.scale c l) i = Gf.mul c (nth l i) := by
  rw [nth_eq _ _ (by rw [Gf.scale_length]; exact h), nth_eq l i h]
  simp [Gf.scale]

theorem combK_nth {cs : List Nat} {ll : List (List Nat)} (hA : alikeB ll = true) (i : Nat) (hi : i < (rowAt ll 0).length) : ∀ k, k ≤ ll.length → nth (combK cs ll k) i = combAt cs ll i k
  | 0, _ => by
    show nth (zeros _) i = 0
    rw [nth_eq _ _ (by rw [zeros_length]; exact hi)]; simp [zeros]
  | k + 1, hk => by
    have e := alike_at hA (show k < ll.length by omega)
    show nth (Gf.add (combK cs ll k) (Gf.scale (nth cs k) (rowAt ll k))) i = _
    rw [nth_add _ _ _ (by rw [combK_length hA k (by omega)]; exact hi) (by rw [Gf.scale_length, e]; exact hi), combK_nth hA i hi k (by omega), nth_scale _ _ _ (by rw [e]; exact hi)]
    rfl

theorem combK_eq {cs : List Nat} {ll : List (List Nat)} (hA : alikeB ll = true) : combK cs ll ll.length = combT cs ll (rowAt ll 0).length := by
  refine ext_nth (by rw [combK_length hA _ (Nat.le_refl _), combT_length]) fun j hj => ?_
  rw [combK_length hA _ (Nat.le_refl _)] at hj
  rw [combK_nth hA j hj _ (Nat.le_refl _), nth_eq _ _ (by rw [combT_length]; exact hj)]
  simp [combT]

/-- What Comb answers, row by row. -/
theorem combL_eq (cs : List Nat) (ll : List (List Nat)) : combL cs ll = if cs.length = ll.length ∧ alikeB ll = true ∧ ll ≠ [] then combT cs ll (rowAt ll 0).length else [] := by
  unfold combL
  split
  · rename_i h; rw [combK_eq h.2.1]
  · rfl

end Go.Proofs.Ytobhlfkmdhoncaa
