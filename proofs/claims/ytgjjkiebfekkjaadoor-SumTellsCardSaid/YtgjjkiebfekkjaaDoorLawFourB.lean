/-
  The law of sums (layer 4): how many parts it goes through.
-/
import Derived.Test.YtgjjkiebfekkjaaDoorLawFour
set_option maxRecDepth 100000
namespace Go.Proofs.YtgjjkiebfekkjaaDoor
open Go.RowKit

/-- Are parts gone through? -/
def fewB (ll : List (List Nat)) : Bool := ll.all (fun r => decide (r.length ≤ 1000)) && decide (ll.length ≤ 30)

theorem fewB_far {ll : List (List Nat)} {k : Nat} (hk : k < ll.length) (h : 1000 < (rowAt ll k).length) : fewB ll = false := by
  have hm : rowAt ll k ∈ ll := by rw [rowAt_eq ll k hk]; exact List.getElem_mem hk
  have : ll.all (fun r => decide (r.length ≤ 1000)) = false := by
    rw [List.all_eq_false]
    exact ⟨_, hm, by simp; exact h⟩
  unfold fewB; rw [this]; rfl

theorem fewB_all {ll : List (List Nat)} (h : ∀ j, j < ll.length → (rowAt ll j).length ≤ 1000) : fewB ll = decide ((ll.length : Int) ≤ 30) := by
  have : ll.all (fun r => decide (r.length ≤ 1000)) = true := by
    rw [List.all_eq_true]
    intro r hr
    obtain ⟨i, hi, rfl⟩ := List.getElem_of_mem hr
    rw [← rowAt_eq ll i hi]
    exact decide_eq_true (h i hi)
  unfold fewB; rw [this, Bool.true_and]
  exact decide_eq_decide.2 (by omega)

set_option maxHeartbeats 400000 in
theorem few_empty (a : Option Addr) (cap : Nat) (w : World) :
    Calls Tryd.prog 6 #[.slice a 0 cap] w fun e w' => e = .returned (.bool true) ∧ w = w' := by
  go_enter Tryd.func6, Tryd.ntmps6
  go_wp2_with fail
  refine wp_loop_rounds 1 ?_
  rw [rounds_succ]
  go_wp2_with fail
  go_ret
  exact ⟨rfl, rfl⟩

set_option maxHeartbeats 400000 in
theorem few_some (b off cap : Nat) (ll : List (List Nat)) (w : World) (hR : IsRows w (.slice (some ⟨b, off, none⟩) ll.length cap) ll) :
    Calls Tryd.prog 6 #[.slice (some ⟨b, off, none⟩) ll.length cap] w fun e w' => e = .returned (.bool (fewB ll)) ∧ w = w' := by
  have hcap : ll.length ≤ 9223372036854775807 := by obtain ⟨_, _, _, h1, h2, _⟩ := hR; omega
  have HR := Lib.hid hR
  clear hR
  go_enter Tryd.func6, Tryd.ntmps6
  go_wp2_with fail
  go_loop [4, 7] (fun _ i => ∃ k : Nat, k ≤ ll.length ∧ i = .int .i64 k ∧ ∀ j, j < k → (rowAt ll j).length ≤ 1000) (fun _ i => ll.length - (intOf i).toNat)
  case atStart => exact ⟨0, by omega, rfl, fun j hj => by omega⟩
  case round =>
    obtain ⟨k, hk, rfl, hno⟩ := hrel
    have HN := Lib.hid hno
    clear hno
    by_cases hlt : k < ll.length
    · obtain ⟨u, hu, hB⟩ := HR.out.cell k hlt
      obtain ⟨a1, c1, rfl, _⟩ := hB
      by_cases hq : (rowAt ll k).length ≤ 1000
      · have HQ := Lib.hid hq
        go_wp2_with fail
        go_round
        case rel => exact ⟨k + 1, by omega, by go_num, fun j hj => by
          by_cases h : j = k
          · rw [h]; exact HQ.out
          · exact HN.out j (by omega)⟩
        case measure => simp [intOf]; omega
      · have HF := Lib.hid (fewB_far hlt (by omega))
        go_wp2_with fail
        go_ret
        exact ⟨by rw [HF.out]; rfl, rfl⟩
    · obtain rfl : k = ll.length := by omega
      have HF := Lib.hid (fewB_all HN.out)
      go_wp2_with fail
      go_ret
      exact ⟨by rw [HF.out]; rfl, rfl⟩

theorem few_any (v : Value) (ll : List (List Nat)) (w : World) (h : IsRows w v ll) :
    Calls Tryd.prog 6 #[v] w fun e w' => e = .returned (.bool (fewB ll)) ∧ w = w' := by
  obtain ⟨a, cap, rfl, h1, h2, h4⟩ := h
  by_cases hne : ll = []
  · subst hne; exact few_empty a cap w
  · obtain ⟨b, off, rfl, hlt, hc⟩ := h4 hne
    exact few_some b off cap ll w ⟨_, cap, rfl, h1, h2, fun _ => ⟨b, off, rfl, hlt, hc⟩⟩

end Go.Proofs.YtgjjkiebfekkjaaDoor
