/-
  Combinations are linear (P2.3), in plain numbers.
-/
import Derived.Test.YtgjjkiebfekkjaaLawTwoB
set_option maxRecDepth 100000
namespace Go.Proofs.Ytgjjkiebfekkjaa
open Go.RowKit

theorem add_zeros (x : List Nat) : Gf.add (zeros x.length) x = x := by
  refine ext_nth (by rw [Gf.add_length _ _ (by rw [zeros_length]), zeros_length]) fun j hj => ?_
  rw [Gf.add_length _ _ (by rw [zeros_length]), zeros_length] at hj
  rw [nth_add _ _ _ (by rw [zeros_length]; exact hj) hj, nth_eq (zeros _) j (by rw [zeros_length]; exact hj)]
  simp [zeros]

theorem sum2_L {x y : List Nat} (h : x.length = y.length) : sumL [x, y] = Gf.add x y := by
  unfold sumL
  rw [if_pos ⟨by simp [alikeB, rowAt, h], by simp⟩]
  show Gf.add (Gf.add (zeros x.length) x) y = _
  rw [add_zeros]
theorem sum2_E {x y : List Nat} (h : x.length = y.length) : sumE [x, y] = 0 := by
  unfold sumE
  rw [if_pos (by simp [alikeB, rowAt, h])]

theorem combAt_add {a b : List Nat} (ll : List (List Nat)) (i : Nat) (hab : a.length = b.length) (ha : ∀ x, x ∈ a → x < 256) (hb : ∀ x, x ∈ b → x < 256) : ∀ k, k ≤ a.length → combAt (Gf.add a b) ll i k = combAt a ll i k ^^^ combAt b ll i k
  | 0, _ => (Nat.xor_self 0).symm
  | k + 1, hk => by
    show combAt (Gf.add a b) ll i k ^^^ Gf.mul (nth (Gf.add a b) k) (nth (rowAt ll k) i) = _
    rw [combAt_add ll i hab ha hb k (by omega), nth_add a b k (by omega) (by omega), Gf.mul_xor_left (nth_lt ha k) (nth_lt hb k), Gf.xor_four]
    rfl

theorem combAt_scale {a : List Nat} {c : Nat} (ll : List (List Nat)) (i : Nat) (hc : c < 256) (ha : ∀ x, x ∈ a → x < 256) : ∀ k, k ≤ a.length → combAt (Gf.scale c a) ll i k = Gf.mul c (combAt a ll i k)
  | 0, _ => (Gf.mul_zero c).symm
  | k + 1, hk => by
    show combAt (Gf.scale c a) ll i k ^^^ Gf.mul (nth (Gf.scale c a) k) (nth (rowAt ll k) i) = Gf.mul c (combAt a ll i k ^^^ Gf.mul (nth a k) (nth (rowAt ll k) i))
    rw [combAt_scale ll i hc ha k (by omega), nth_scale c a k (by omega), Gf.mul_xor_right, Gf.mul_assoc hc (nth_lt ha k)]

theorem nth_combT (cs : List Nat) (ll : List (List Nat)) (m j : Nat) (h : j < m) : nth (combT cs ll m) j = combAt cs ll j ll.length := by
  rw [nth_eq _ _ (by rw [combT_length]; exact h)]; simp [combT]

theorem combL_of {cs : List Nat} {ll : List (List Nat)} (hl : cs.length = ll.length) (hA : alikeB ll = true) (hn : 1 ≤ ll.length) : combL cs ll = combT cs ll (rowAt ll 0).length := by
  rw [combL_eq, if_pos ⟨hl, hA, by intro h; rw [h] at hn; simp at hn⟩]
theorem combE_of {cs : List Nat} {ll : List (List Nat)} (hl : cs.length = ll.length) (hA : alikeB ll = true) : combE cs ll = 0 := if_pos ⟨hl, hA⟩

theorem linear_add {a b : List Nat} {ll : List (List Nat)} (ha : ∀ x, x ∈ a → x < 256) (hb : ∀ x, x ∈ b → x < 256) (hla : a.length = ll.length) (hlb : b.length = ll.length) (hA : alikeB ll = true) (hn : 1 ≤ ll.length) :
    combL (Gf.add a b) ll = Gf.add (combL a ll) (combL b ll) := by
  have hab : a.length = b.length := by omega
  rw [combL_of hla hA hn, combL_of hlb hA hn, combL_of (by rw [Gf.add_length _ _ hab, hla]) hA hn]
  have hs : (Gf.add (combT a ll (rowAt ll 0).length) (combT b ll (rowAt ll 0).length)).length = (rowAt ll 0).length := by rw [Gf.add_length _ _ (by rw [combT_length, combT_length]), combT_length]
  refine ext_nth (by rw [combT_length, hs]) fun j hj => ?_
  rw [combT_length] at hj
  rw [nth_combT _ _ _ _ hj, nth_add _ _ _ (by rw [combT_length]; exact hj) (by rw [combT_length]; exact hj), nth_combT _ _ _ _ hj, nth_combT _ _ _ _ hj, combAt_add ll j hab ha hb _ (by omega)]

theorem linear_scale {a : List Nat} {c : Nat} {ll : List (List Nat)} (hc : c < 256) (ha : ∀ x, x ∈ a → x < 256) (hla : a.length = ll.length) (hA : alikeB ll = true) (hn : 1 ≤ ll.length) :
    combL (Gf.scale c a) ll = Gf.scale c (combL a ll) := by
  rw [combL_of hla hA hn, combL_of (by rw [Gf.scale_length, hla]) hA hn]
  refine ext_nth (by rw [combT_length, Gf.scale_length, combT_length]) fun j hj => ?_
  rw [combT_length] at hj
  rw [nth_combT _ _ _ _ hj, nth_scale _ _ _ (by rw [combT_length]; exact hj), nth_combT _ _ _ _ hj, combAt_scale ll j hc ha _ (by omega)]

theorem scale_back {c : Nat} {x : List Nat} (hc : c < 256) (h0 : c ≠ 0) (hx : ∀ y, y ∈ x → y < 256) : Gf.scale (Gf.inv c) (Gf.scale c x) = x := by
  refine ext_nth (by rw [Gf.scale_length, Gf.scale_length]) fun j hj => ?_
  rw [Gf.scale_length, Gf.scale_length] at hj
  rw [nth_scale _ _ _ (by rw [Gf.scale_length]; exact hj), nth_scale _ _ _ hj, ← Gf.mul_assoc (Gf.inv_lt c) hc, Gf.inv_mul hc h0, Gf.one_mul (nth_lt hx j)]

end Go.Proofs.Ytgjjkiebfekkjaa
