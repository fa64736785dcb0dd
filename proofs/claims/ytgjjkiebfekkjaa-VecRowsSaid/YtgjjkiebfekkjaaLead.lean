/-
  Where bytes lead (layer 3), in plain numbers and in the document's answer (wellspringref03.Lead).
-/
import Derived.Test.YtgjjkiebfekkjaaBytes
set_option maxRecDepth 100000
namespace Go.Proofs.Ytgjjkiebfekkjaa
open Go.RowKit

/-- The first place whose byte isn't 0; as many as there are, where there is none. -/
def lead : List Nat → Nat
  | [] => 0
  | x :: l => if x = 0 then lead l + 1 else 0

/-- The same as the program tells it: -1, where there is none. -/
def leadI (l : List Nat) : Int := if lead l < l.length then (lead l : Int) else -1

theorem lead_le : ∀ l : List Nat, lead l ≤ l.length
  | [] => Nat.le_refl _
  | x :: l => by
    have := lead_le l
    unfold lead
    split
    · simp; omega
    · omega

theorem lead_zero : ∀ (l : List Nat) (j : Nat), j < lead l → nth l j = 0
  | [], j, h => absurd h (Nat.not_lt_zero _)
  | x :: l, j, h => by
    unfold lead at h
    by_cases hx : x = 0
    · rw [if_pos hx] at h
      cases j with
      | zero => exact hx
      | succ j => exact lead_zero l j (by omega)
    · rw [if_neg hx] at h; omega

theorem lead_ne : ∀ (l : List Nat), lead l < l.length → nth l (lead l) ≠ 0
  | [], h => absurd h (Nat.not_lt_zero _)
  | x :: l, h => by
    unfold lead at h ⊢
    by_cases hx : x = 0
    · rw [if_pos hx] at h ⊢
      exact lead_ne l (by simpa using h)
    · rw [if_neg hx]; exact hx

/-- What leads there: noughts ahead, and no nought there. -/
theorem lead_eq {l : List Nat} {k : Nat} (h0 : ∀ j, j < k → nth l j = 0) (hk : k < l.length) (h1 : nth l k ≠ 0) : lead l = k := by
  by_cases h : lead l < k
  · exact absurd (h0 _ h) (lead_ne l (by omega))
  · by_cases h2 : k < lead l
    · exact absurd (lead_zero l k h2) h1
    · omega

theorem lead_none {l : List Nat} (h0 : ∀ j, j < l.length → nth l j = 0) : lead l = l.length := by
  by_cases h : lead l < l.length
  · exact absurd (h0 _ h) (lead_ne l h)
  · have := lead_le l; omega

set_option maxHeartbeats 400000 in
theorem reflead_empty (a : Option Addr) (cap : Nat) (w : World) :
    Calls Try.prog 8 #[.slice a 0 cap] w fun e w' => e = .returned (.int .i64 (-1)) ∧ w = w' := by
  go_enter Try.func8, Try.ntmps8
  go_wp2_with fail
  refine wp_loop_rounds 1 ?_
  rw [rounds_succ]
  go_wp2_with fail
  go_ret
  exact ⟨rfl, rfl⟩

set_option maxHeartbeats 400000 in
theorem reflead_some (b off cap : Nat) (l : List Nat) (w : World) (hB : Bytes w (.slice (some ⟨b, off, none⟩) l.length cap) l) :
    Calls Try.prog 8 #[.slice (some ⟨b, off, none⟩) l.length cap] w fun e w' => e = .returned (.int .i64 (leadI l)) ∧ w = w' := by
  have hcap : l.length ≤ 9223372036854775807 := by obtain ⟨_, _, _, h1, h2, _⟩ := hB; omega
  obtain ⟨t, ht⟩ : ∃ t, t = leadI l := ⟨_, rfl⟩
  rw [← ht]
  have HT := Lib.hid ht
  have HB := Lib.hid hB
  clear hB ht
  go_enter Try.func8, Try.ntmps8
  go_wp2_with fail
  go_loop [3] (fun i => ∃ k : Nat, k ≤ l.length ∧ i = .int .i64 k ∧ ∀ j, j < k → nth l j = 0) (fun i => l.length - (intOf i).toNat)
  case atStart => exact ⟨0, by omega, rfl, fun j hj => by omega⟩
  case round =>
    obtain ⟨k, hk, rfl, hno⟩ := hrel
    have HN := Lib.hid hno
    clear hno
    by_cases hlt : k < l.length
    · have hu := HB.out.cell k hlt
      by_cases hq : nth l k = 0
      · have hb : ((nth l k : Int) != 0) = false := by rw [hq]; rfl
        have HQ := Lib.hid hq
        clear hq
        go_wp2_with fail
        go_round
        case rel => exact ⟨k + 1, by omega, by go_num, fun j hj => by
          by_cases h : j = k
          · rw [h]; exact HQ.out
          · exact HN.out j (by omega)⟩
        case measure => simp [intOf]; omega
      · have hb : ((nth l k : Int) != 0) = true := by rw [bne_iff_ne]; omega
        have HF : Hid (t = (k : Int)) := Lib.hid (by rw [HT.out]; unfold leadI; rw [lead_eq HN.out hlt hq, if_pos hlt])
        clear hq
        go_wp2_with fail
        go_ret
        exact ⟨by rw [HF.out]; rfl, rfl⟩
    · have HF : Hid (t = -1) := Lib.hid (by
        rw [HT.out]; unfold leadI
        rw [lead_none (fun j hj => HN.out j (by omega)), if_neg (by omega)])
      go_wp2_with fail
      go_ret
      exact ⟨by rw [HF.out]; rfl, rfl⟩

theorem reflead_any (v : Value) (l : List Nat) (w : World) (hB : Bytes w v l) :
    Calls Try.prog 8 #[v] w fun e w' => e = .returned (.int .i64 (leadI l)) ∧ w = w' := by
  have hB0 := hB
  obtain ⟨a, cap, rfl, _, _, _, h4⟩ := hB
  cases l with
  | nil => exact reflead_empty a cap w
  | cons x l =>
    obtain ⟨b, off, rfl, _, _⟩ := h4 (by simp)
    exact reflead_some b off cap _ w hB0

end Go.Proofs.Ytgjjkiebfekkjaa
