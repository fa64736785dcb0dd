/-
  The statements of layer 2 (kern), walked: KernPairs.
-/
import Derived.Test.YtgjjkiebfekkjaaLawTwo
set_option maxRecDepth 100000
namespace Go.Proofs.Ytgjjkiebfekkjaa
open Go.RowKit

theorem rows_new2 (w : World) (u0 u1 : Value) (x y : List Nat) (T : TypeId) (k : Nat) (hk : k = w.heap.size) (hx : Bytes w u0 x) (hy : Bytes w u1 y) :
    IsRows (w.alloc (.cells #[u0, u1] T)) (.slice (some ⟨k, 0, none⟩) 2 2) [x, y] := by
  subst hk
  have hb : Below w.heap.size w (w.alloc (.cells #[u0, u1] T)) := (Below.refl _ _).alloc (Nat.le_refl _) _
  refine ⟨_, 2, rfl, Nat.le_refl _, by omega, fun _ => ⟨w.heap.size, 0, rfl, by simp, fun i hi => ?_⟩⟩
  have h2 : i < 2 := hi
  match i, h2 with
  | 0, _ => exact ⟨u0, by rw [World.cell?_alloc_at _ _ _ _ rfl]; rfl, hx.below (Nat.le_refl _) hb⟩
  | 1, _ => exact ⟨u1, by rw [World.cell?_alloc_at _ _ _ _ rfl]; rfl, hy.below (Nat.le_refl _) hb⟩

theorem pair_E (c : Nat) (x y : List Nat) : combE [c, 1] [x, y] = axpyE x y := by
  unfold combE axpyE
  have h : alikeB [x, y] = (y.length == x.length) := by simp [alikeB, rowAt]
  rw [h]
  by_cases hl : x.length = y.length
  · simp [hl]
  · rw [if_neg (by simp; omega), if_neg hl]

theorem pair_L (c : Nat) (x y : List Nat) (hy : ∀ z, z ∈ y → z < 256) : combL [c, 1] [x, y] = axpyL c x y := by
  rw [combL_eq]
  unfold axpyL
  have h : alikeB [x, y] = (y.length == x.length) := by simp [alikeB, rowAt]
  rw [h]
  by_cases hl : x.length = y.length
  · rw [if_pos (by simp [hl]), if_pos hl]
    have hr : (rowAt [x, y] 0).length = x.length := rfl
    have hs : (Gf.add (Gf.scale c x) y).length = x.length := by rw [Gf.add_length _ _ (by rw [Gf.scale_length]; exact hl), Gf.scale_length]
    refine ext_nth (by rw [combT_length, hs, hr]) fun j hj => ?_
    rw [combT_length, hr] at hj
    rw [nth_add _ _ _ (by rw [Gf.scale_length]; exact hj) (by omega), nth_scale c x j hj, nth_eq _ _ (by rw [combT_length, hr]; exact hj)]
    simp only [combT, List.getElem_map, List.getElem_range]
    show (0 ^^^ Gf.mul (nth [c, 1] 0) (nth (rowAt [x, y] 0) j)) ^^^ Gf.mul (nth [c, 1] 1) (nth (rowAt [x, y] 1) j) = _
    rw [show nth [c, 1] 0 = c from rfl, show nth [c, 1] 1 = 1 from rfl, show rowAt [x, y] 0 = x from rfl, show rowAt [x, y] 1 = y from rfl, Nat.zero_xor, Gf.one_mul (nth_lt hy j)]
  · rw [if_neg (by simp; omega), if_neg hl]

end Go.Proofs.Ytgjjkiebfekkjaa
