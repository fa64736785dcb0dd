/-
  The statements of layer 2 (kern), walked: what they share.
-/
import Derived.Test.YtobhlfkmdhoncaaRefThree
set_option maxRecDepth 100000
namespace Go.Proofs.Ytobhlfkmdhoncaa
open Go.RowKit

/-- The same, and an error's number. -/
def BytesE (w : World) (l : List Nat) (err : Int) (e : Ending) (w' : World) : Prop := ∃ v, e = .returned (.tuple #[v, I64 err]) ∧ Bytes w' v l ∧ Below w.heap.size w w'

theorem combL_lt {cs : List Nat} (hc : ∀ x, x ∈ cs → x < 256) (ll : List (List Nat)) : ∀ x, x ∈ combL cs ll → x < 256 := by
  rw [combL_eq]
  split
  · exact combT_lt hc ll _
  · simp
theorem combL_length (cs : List Nat) (ll : List (List Nat)) : (combL cs ll).length ≤ (rowAt ll 0).length := by
  rw [combL_eq]
  split
  · rw [combT_length]; exact Nat.le_refl _
  · simp
theorem sumL_lt {ll : List (List Nat)} (hl : ∀ k, k < ll.length → ∀ x, x ∈ rowAt ll k → x < 256) : ∀ x, x ∈ sumL ll → x < 256 := by
  unfold sumL
  split
  · exact sumK_lt hl _ (Nat.le_refl _)
  · simp
theorem sumL_length (ll : List (List Nat)) : (sumL ll).length ≤ (rowAt ll 0).length := by
  unfold sumL
  split
  · rename_i h; rw [sumK_length h.1 _ (Nat.le_refl _)]; exact Nat.le_refl _
  · simp
theorem axpyL_lt {c : Nat} {x y : List Nat} (hc : c < 256) (hy : ∀ z, z ∈ y → z < 256) : ∀ z, z ∈ axpyL c x y → z < 256 := by
  unfold axpyL
  split
  · exact Gf.add_lt (Gf.scale_lt hc x) hy
  · simp
theorem axpyL_length (c : Nat) (x y : List Nat) : (axpyL c x y).length ≤ x.length := by
  unfold axpyL
  split
  · rename_i h; rw [Gf.add_length _ _ (by rw [Gf.scale_length]; exact h), Gf.scale_length]; exact Nat.le_refl _
  · simp

theorem IsRows.all_lt {w : World} {v : Value} {ll : List (List Nat)} (h : IsRows w v ll) : ∀ k, k < ll.length → ∀ x, x ∈ rowAt ll k → x < 256 := by
  obtain ⟨a, cap, rfl, _, _, h4⟩ := h
  intro k hk
  obtain ⟨b, off, _, _, hc⟩ := h4 (by intro h; rw [h] at hk; simp at hk)
  obtain ⟨u, _, hB⟩ := hc k hk
  exact hB.lt

/-- Two slices that read as the same are the same. -/
theorem same_yes (v0 v1 : Value) (x : List Nat) (w : World) (hx : Bytes w v0 x) (hy : Bytes w v1 x) :
    Calls Try.prog 18 #[v0, v1] w fun e w' => e = .returned (.bool true) ∧ Below w.heap.size w w' := by
  have h := same_any v0 v1 x x w hx hy
  rw [show decide (x = x) = true from decide_eq_true rfl] at h
  exact h

theorem bytes_new2 (w : World) (x y : Int) (a b : Nat) (T : TypeId) (k : Nat) (hk : k = w.heap.size) (hx : x = a) (hy : y = b) (ha : a < 256) (hb : b < 256) :
    Bytes (w.alloc (.cells #[.int .u8 x, .int .u8 y] T)) (.slice (some ⟨k, 0, none⟩) 2 2) [a, b] := by
  subst hk; subst hx; subst hy
  exact bytes_new w [a, b] T (by simp [ha, hb]) (by simp)

/-- Are rows gone through here? -/
def fewB (ll : List (List Nat)) : Bool := ll.all (fun r => decide (r.length ≤ 100)) && decide (ll.length ≤ 40)

end Go.Proofs.Ytobhlfkmdhoncaa
