/-
  The document's answer for rows (wellspringref02), in the program: 'Scale', 'Same', 'Zero', 'Dot'.
-/
import Derived.Test.YtobhlfkmdhoncaaKernE
import Derived.Test.YtobhlfkmdhoncaaGrow
import Derived.Deep.QuietTactic
import Derived.BigQuiet
set_option maxRecDepth 100000
namespace Go.Proofs.Ytobhlfkmdhoncaa
open Go.RowKit

/-! ### Same -/

set_option maxHeartbeats 400000 in
theorem same_unlike (a0 a1 : Option Addr) (n0 n1 c0 c1 : Nat) (w : World) (hne : n0 ≠ n1) :
    Calls Try.prog 18 #[.slice a0 n0 c0, .slice a1 n1 c1] w fun e w' => e = .returned (.bool false) ∧ Below w.heap.size w w' := by
  have hb : ((n0 : Int) != (n1 : Int)) = true := by rw [bne_iff_ne]; omega
  clear hne
  go_enter Try.func18, Try.ntmps18
  go_wp2_with fail
  go_ret
  exact ⟨rfl, Below.refl _ _⟩

set_option maxHeartbeats 400000 in
theorem same_empty (a0 a1 : Option Addr) (c0 c1 : Nat) (w : World) :
    Calls Try.prog 18 #[.slice a0 0 c0, .slice a1 0 c1] w fun e w' => e = .returned (.bool true) ∧ Below w.heap.size w w' := by
  go_enter Try.func18, Try.ntmps18
  go_wp2_with fail
  refine wp_loop_rounds 1 ?_
  rw [rounds_succ]
  go_wp2_with fail
  go_ret
  exact ⟨rfl, Below.refl _ _⟩

theorem ext_nth {a b : List Nat} (hl : a.length = b.length) (h : ∀ j, j < a.length → nth a j = nth b j) : a = b := by
  apply List.ext_getElem hl
  intro i h1 h2
  have := h i h1
  rwa [nth_eq a i h1, nth_eq b i h2] at this

set_option maxHeartbeats 400000 in
theorem same_some (b0 off0 c0 b1 off1 c1 : Nat) (x y : List Nat) (w : World) (hx : Bytes w (.slice (some ⟨b0, off0, none⟩) x.length c0) x) (hy : Bytes w (.slice (some ⟨b1, off1, none⟩) y.length c1) y) (hl : x.length = y.length) :
    Calls Try.prog 18 #[.slice (some ⟨b0, off0, none⟩) x.length c0, .slice (some ⟨b1, off1, none⟩) y.length c1] w fun e w' => e = .returned (.bool (decide (x = y))) ∧ Below w.heap.size w w' := by
  have hb : ((x.length : Int) != (y.length : Int)) = false := by rw [hl]; simp
  have hcap : x.length ≤ 9223372036854775807 := by obtain ⟨_, _, _, h1, h2, _⟩ := hx; omega
  have hle : x.length ≤ y.length := by omega
  obtain ⟨t, ht⟩ : ∃ t, t = decide (x = y) := ⟨_, rfl⟩
  rw [← ht]
  have HT := Lib.hid ht
  have HX := Lib.hid hx
  have HY := Lib.hid hy
  have HL := Lib.hid hl
  clear hx hy hl ht
  go_enter Try.func18, Try.ntmps18
  go_wp2_with fail
  go_loopw [5] (fun i wr => ∃ k : Nat, k ≤ x.length ∧ i = .int .i64 k ∧ (∀ j, j < k → nth x j = nth y j) ∧ Below w.heap.size w wr) (fun i _ => x.length - (intOf i).toNat)
  case atStart => exact ⟨0, by omega, rfl, fun j hj => by omega, Below.refl _ _⟩
  case round =>
    obtain ⟨k, hk, rfl, hno, hbel⟩ := hrel
    have HN := Lib.hid hno
    clear hno
    by_cases hlt : k < x.length
    · have hcx := (HX.out.below (Nat.le_refl _) hbel).cell k hlt
      have hcy := (HY.out.below (Nat.le_refl _) hbel).cell k (by omega)
      have k0 : (0 : Int) ≤ (k : Int) := Int.natCast_nonneg _
      have k1 : (k : Int) < (x.length : Int) := by omega
      have k2 : (k : Int) < (y.length : Int) := by omega
      by_cases hq : nth x k = nth y k
      · have hb2 : ((nth x k : Int) != (nth y k : Int)) = false := by rw [hq]; simp
        have HQ := Lib.hid hq
        clear hq
        go_wp2_with fail
        go_quiet (fail)
        go_wp2_with fail
        refine ⟨⟨k + 1, by omega, by go_num, fun j hj => ?_, below_drewN hbel _⟩, by simp [intOf]; omega⟩
        by_cases h : j = k
        · rw [h]; exact HQ.out
        · exact HN.out j (by omega)
      · have hb2 : ((nth x k : Int) != (nth y k : Int)) = true := by rw [bne_iff_ne]; omega
        have HF : Hid (t = false) := Lib.hid (by
          rw [HT.out, decide_eq_false_iff_not]
          intro h; exact hq (by rw [h]))
        clear hq
        go_wp2_with fail
        go_quiet (fail)
        go_wp2_with fail
        go_ret
        exact ⟨by rw [HF.out]; rfl, below_drewN hbel _⟩
    · have HF : Hid (t = true) := Lib.hid (by
        rw [HT.out, decide_eq_true_eq]
        exact ext_nth HL.out fun j hj => HN.out j (by omega))
      go_wp2_with fail
      go_ret
      exact ⟨by rw [HF.out]; rfl, hbel⟩

theorem same_any (v0 v1 : Value) (x y : List Nat) (w : World) (hx : Bytes w v0 x) (hy : Bytes w v1 y) :
    Calls Try.prog 18 #[v0, v1] w fun e w' => e = .returned (.bool (decide (x = y))) ∧ Below w.heap.size w w' := by
  have hx0 := hx
  have hy0 := hy
  obtain ⟨a0, c0, rfl, _, _, _, g4⟩ := hx
  obtain ⟨a1, c1, rfl, _, _, _, h4⟩ := hy
  by_cases hl : x.length = y.length
  · cases x with
    | nil =>
      have e : y = [] := List.length_eq_zero_iff.1 hl.symm
      subst e
      exact same_empty a0 a1 c0 c1 w
    | cons z x =>
      obtain ⟨b0, off0, rfl, _, _⟩ := g4 (by simp)
      obtain ⟨b1, off1, rfl, _, _⟩ := h4 (by intro h; rw [h] at hl; simp at hl)
      exact same_some b0 off0 c0 b1 off1 c1 _ y w hx0 hy0 hl
  · rw [show decide (x = y) = false from by rw [decide_eq_false_iff_not]; intro h; exact hl (by rw [h])]
    exact same_unlike a0 a1 _ _ c0 c1 w hl

/-! ### Zero -/

/-! ### Dot -/

end Go.Proofs.Ytobhlfkmdhoncaa
