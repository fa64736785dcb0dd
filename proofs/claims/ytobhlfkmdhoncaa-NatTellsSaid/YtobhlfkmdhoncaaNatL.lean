/-
  The program's numbers (layer 6): 'isText'.
-/
import Derived.Test.YtobhlfkmdhoncaaNatK
set_option maxRecDepth 100000
namespace Go.Proofs.Ytobhlfkmdhoncaa
open Go.RowKit

theorem strOf_listLen (t : List Nat) : (strOf t).toList.length = t.length := by
  rw [ByteArray.toList_eq]; unfold strOf; rw [strOfNums_data]; simp
theorem strOf_notZero {t : List Nat} (h : t.length ≠ 1) : ((strOf t).toList == [48]) = false := by
  rw [beq_eq_false_iff_ne]
  intro e
  have := congrArg List.length e
  rw [strOf_listLen] at this
  exact h this
theorem strOf_zero : ((strOf [48]).toList == [48]) = true := by decide +kernel

set_option maxHeartbeats 400000 in
theorem istext_none (w : World) :
    Calls Try.prog 45 #[.string (strOf [])] w fun e w' => e = .returned (.bool false) ∧ w = w' := by
  have he0 : (strOf []).toList.isEmpty = true := strOf_isEmpty []
  go_enter Try.func45, Try.ntmps45
  go_wp2_with fail
  go_ret
  exact ⟨rfl, rfl⟩

set_option maxHeartbeats 400000 in
theorem istext_zero (t : List Nat) (w : World) (ht : ∀ x, x ∈ t → x < 256) (h1 : 1 < t.length) (h0 : nth t 0 = 48) :
    Calls Try.prog 45 #[.string (strOf t)] w fun e w' => e = .returned (.bool false) ∧ w = w' := by
  obtain ⟨S, hS⟩ : ∃ S, S = strOf t := ⟨_, rfl⟩
  rw [← hS]
  obtain ⟨m, hm⟩ : ∃ m, m = t.length := ⟨_, rfl⟩
  have hsz : S.size = m := by rw [hS, strOf_size, hm]
  have he : S.toList.isEmpty = false := by rw [hS, strOf_isEmpty]; cases t with | nil => simp at h1 | cons _ _ => rfl
  have hp : 0 < S.size := by omega
  have hb : (((S[0]'hp).toNat : Int) == 48) = true := by rw [strOf_at ht hS 0 hp, h0]; rfl
  have hm1 : (1 : Int) < (m : Int) := by omega
  have hnz : (S.toList == [48]) = false := by rw [hS]; exact strOf_notZero (by omega)
  clear hS h0 hm
  go_enter Try.func45, Try.ntmps45
  go_wp2_with fail
  go_ret
  exact ⟨rfl, rfl⟩

set_option maxHeartbeats 2000000 in
theorem istext_some (t : List Nat) (w : World) (ht : ∀ x, x ∈ t → x < 256) (hm0 : t.length ≤ 1000000) (h0 : t ≠ []) (hz0 : ¬ (1 < t.length ∧ nth t 0 = 48)) :
    Calls Try.prog 45 #[.string (strOf t)] w fun e w' => e = .returned (.bool (decide (Nt.IsText t))) ∧ w = w' := by
  obtain ⟨S, hS⟩ : ∃ S, S = strOf t := ⟨_, rfl⟩
  rw [← hS]
  obtain ⟨m, hm⟩ : ∃ m, m = t.length := ⟨_, rfl⟩
  have hl0 : 0 < t.length := List.length_pos_iff.2 h0
  have hsz : S.size = m := by rw [hS, strOf_size, hm]
  have he : S.toList.isEmpty = false := by rw [hS, strOf_isEmpty]; cases t with | nil => simp at hl0 | cons _ _ => rfl
  have hp : 0 < S.size := by omega
  have HSA := Lib.hid (fun i h => strOf_at ht hS i h)
  have HMT := Lib.hid hm
  have HNOT := Lib.hid (show ∀ i, i < m → ¬ Nt.IsHex (nth t i) → decide (Nt.IsText t) = false from fun i hi h => decide_eq_false fun ⟨_, _, h3⟩ => h (by
    have := h3 (m - 1 - i) (by omega)
    unfold Nt.ch at this
    rwa [← hm, show m - 1 - (m - 1 - i) = i from by omega] at this))
  have HYES := Lib.hid (show (∀ i, i < m → Nt.IsHex (nth t i)) → decide (Nt.IsText t) = true from fun h => decide_eq_true ⟨h0, hz0, fun j hj => by
    unfold Nt.ch
    exact h _ (by omega)⟩)
  have HLT := Lib.hid (fun i => nth_lt ht i)
  have hm1 : (m : Int) ≤ 1000000 := by omega
  have hwho : (((S[0]'hp).toNat : Int) == 48) = false ∨ ((((S[0]'hp).toNat : Int) == 48) = true ∧ (S.toList == [48]) = true) := by
    rw [strOf_at ht hS 0 hp]
    by_cases h : nth t 0 = 48
    · right
      have hl1 : t.length = 1 := by
        rcases Nat.lt_or_ge 1 t.length with h1 | h1
        · exact absurd ⟨h1, h⟩ hz0
        · omega
      refine ⟨by rw [h]; rfl, ?_⟩
      obtain ⟨c, rfl⟩ : ∃ c, t = [c] := by
        cases t with
        | nil => simp at hl1
        | cons c r => cases r with
          | nil => exact ⟨c, rfl⟩
          | cons _ _ => simp at hl1
      have hc : c = 48 := h
      subst hc
      rw [hS]; exact strOf_zero
    · left
      rw [beq_eq_false_iff_ne]; omega
  generalize decide (Nt.IsText t) = yes at *
  clear hS h0 hz0 hl0 hm hm0
  go_enter Try.func45, Try.ntmps45
  rcases hwho with hb | ⟨hb, hbz⟩
  all_goals
    go_wp2_with fail
    go_loop [3, 17] (fun _ i => ∃ k : Nat, k ≤ m ∧ i = .int .i64 k ∧ ∀ q, q < k → Nt.IsHex (nth t q)) (fun _ i => m - (intOf i).toNat)
    case atStart => exact ⟨0, by omega, rfl, fun q hq => by omega⟩
    case round =>
      obtain ⟨k, hk, rfl, hall⟩ := hrel
      have HA := Lib.hid hall
      clear hall
      by_cases hlt : k < m
      · have hks : k < S.size := by omega
        have hSc : (S[k]'hks).toNat = nth t k := HSA.out k hks
        have hc1 := HLT.out k
        have HN := Lib.hid (HNOT.out k hlt)
        have HX := Lib.hid (show Nt.IsHex (nth t k) → ∀ q, q < k + 1 → Nt.IsHex (nth t q) from fun h q hq => by
          by_cases e : q = k
          · rw [e]; exact h
          · exact HA.out q (by omega))
        generalize nth t k = c at *
        have HKL := Lib.hid hlt
        by_cases hh : Nt.IsHex c
        · have HX2 := Lib.hid (HX.out hh)
          have hv : ¬ hvI c < 0 := by unfold hvI; rw [if_pos hh]; omega
          clear hh
          go_wp2_with fail
          refine (index_any c _ hc1).mono ?_
          rintro e w' ⟨rfl, rfl⟩
          go_wp2_with fail
          have h9 := HKL.out
          exact ⟨⟨k + 1, h9, by go_num, HX2.out⟩, by simp [intOf]; omega⟩
        · have HN2 := Lib.hid (HN.out hh)
          have hv : hvI c < 0 := by unfold hvI; rw [if_neg hh]; decide
          clear hh
          go_wp2_with fail
          refine (index_any c _ hc1).mono ?_
          rintro e w' ⟨rfl, rfl⟩
          go_wp2_with fail
          go_ret
          exact ⟨by rw [HN2.out]; rfl, rfl⟩
      · obtain rfl : k = m := by omega
        have HY := Lib.hid (HYES.out HA.out)
        go_wp2_with fail
        go_ret
        exact ⟨by rw [HY.out]; rfl, rfl⟩

/-- Is it a number's text? -/
theorem istext_any (t : List Nat) (w : World) (ht : ∀ x, x ∈ t → x < 256) (hm0 : t.length ≤ 1000000) :
    Calls Try.prog 45 #[.string (strOf t)] w fun e w' => e = .returned (.bool (decide (Nt.IsText t))) ∧ w = w' := by
  by_cases h0 : t = []
  · subst h0
    rw [decide_eq_false (fun ⟨h, _⟩ => h rfl)]
    exact istext_none w
  · by_cases hz : 1 < t.length ∧ nth t 0 = 48
    · rw [decide_eq_false (fun ⟨_, h, _⟩ => h hz)]
      exact istext_zero t w ht hz.1 hz.2
    · exact istext_some t w ht hm0 h0 hz

end Go.Proofs.Ytobhlfkmdhoncaa
