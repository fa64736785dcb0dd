/-
  The laws of rows (layer 3), walked: VecTells.
-/
import Derived.Test.YtgjjkiebfekkjaaLawThreeD
set_option maxRecDepth 100000
namespace Go.Proofs.Ytgjjkiebfekkjaa
open Go.RowKit

theorem zeroB_neg (l : List Nat) : zeroB l = decide (leadI l < 0) := by
  rw [Bool.eq_iff_iff, zeroB_lead]
  unfold leadI
  split <;> simp <;> omega

theorem atI_of_lt {l : List Nat} {k : Nat} (h : k < l.length) : atI l (k : Int) = nth l k := by unfold atI; rw [if_pos (by omega)]; simp
theorem atI_of_out {l : List Nat} {i : Int} (h : i < 0 ∨ (l.length : Int) ≤ i) : atI l i = 0 := by unfold atI; rw [if_neg (by omega)]

theorem unitL_length (n k : Nat) : (unitL n k).length = n := by simp [unitL, zeros]
theorem nth_unitL {n k j : Nat} (h : j < n) : nth (unitL n k) j = if j = k then 1 else 0 := by
  rw [nth_eq _ j (by rw [unitL_length]; exact h)]
  unfold unitL
  rw [List.getElem_set]
  by_cases e : j = k
  · rw [if_pos e.symm, if_pos e]
  · rw [if_neg (fun h => e h.symm), if_neg e]; simp [zeros]
theorem leadI_unitL {n k : Nat} (h : k < n) : leadI (unitL n k) = (k : Int) := by
  have e : lead (unitL n k) = k := lead_eq (fun j hj => by rw [nth_unitL (by omega), if_neg (by omega)]) (by rw [unitL_length]; exact h) (by rw [nth_unitL h, if_pos rfl]; decide)
  unfold leadI; rw [e, if_pos (by rw [unitL_length]; exact h)]

set_option maxHeartbeats 400000 in
theorem vecTells_out (a : Option Addr) (m c : Nat) (n i : Int) (w : World) (h : 100 < m ∨ (m ≤ 100 ∧ 1000 < n ∧ n ≤ 65536)) :
    Calls Try.prog 3 #[.slice a m c, .int .i64 n, .int .i64 i] w fun e w' => e = .returned (.bool true) ∧ Below w.heap.size w w' := by
  rcases h with h | ⟨h, h1, h2⟩
  all_goals
    go_enter Try.func3, Try.ntmps3
    go_wp2_with fail
    refine (awake3_any _).mono ?_
    rintro e w1 ⟨rfl, hb1⟩
    go_wp2_with fail
    go_ret
    exact ⟨rfl, hb1⟩

/-- The first part of the law's walk: what the vector tells. -/
theorem and_of {a b : Prop} (h : a) (k : b) : a ∧ b := ⟨h, k⟩

set_option maxHeartbeats 1000000 in
theorem vecTells_in (v : Value) (l : List Nat) (n i : Int) (w : World) (hB : Bytes w v l) (hl : l.length ≤ 100) (hn : n ≤ 1000 ∨ 65536 < n) :
    Calls Try.prog 3 #[v, .int .i64 n, .int .i64 i] w fun e w' => e = .returned (.bool true) ∧ Below w.heap.size w w' := by
  have HB := Lib.hid hB
  have HZ := Lib.hid (zeroB_neg l)
  obtain ⟨a, c, rfl, _⟩ := hB
  have h100 : decide ((100 : Int) < (l.length : Int)) = false := by simp; omega
  have hN : decide ((1000 : Int) < n) = false ∨ (decide ((1000 : Int) < n) = true ∧ decide (n ≤ 65536) = false) := by
    rcases hn with hn | hn
    · left; simp; omega
    · right; simp; omega
  rcases hN with hn1 | ⟨hn1, hn2⟩
  all_goals
    go_enter Try.func3, Try.ntmps3
    go_wp2_with fail
    refine (awake3_any _).mono ?_
    rintro e w1 ⟨rfl, B⟩
    replace HB := Lib.hid (HB.out.go B)
    go_wp2_with fail
    refine (lead_any _ l _ HB.out).mono ?_
    rintro e w' ⟨rfl, rfl⟩
    go_wp2_with fail
    refine (reflead_any _ l _ HB.out).mono ?_
    rintro e w' ⟨rfl, rfl⟩
    go_wp2_with fail
    refine (vzero_any _ l _ HB.out).mono ?_
    rintro e w' ⟨rfl, rfl⟩
    go_wp2_with fail
    refine (reflead_any _ l _ HB.out).mono ?_
    rintro e w' ⟨rfl, rfl⟩
    rw [HZ.out]
    go_wp2_with fail
    go_loop [8, 9] (fun kk _ => ∃ m : Nat, m ≤ l.length + 2 ∧ kk = .int .i64 ((m : Int) - 1)) (fun kk _ => l.length + 3 - (intOf kk + 1).toNat)
    case atStart => exact ⟨0, by omega, rfl⟩
    case round =>
      obtain ⟨m, hm, rfl⟩ := hrel
      by_cases hm0 : m = 0
      · subst hm0
        have HA := Lib.hid (show atI l (((0 : Nat) : Int) - 1) = 0 from atI_of_out (Or.inl (by omega)))
        go_wp2_with fail
        refine (at_any' _ l _ _ _ HB.out HA.out).mono ?_
        rintro e w' ⟨rfl, rfl⟩
        go_wp2_with fail
        go_round
        case rel => exact ⟨1, by omega, by go_num⟩
        case measure => simp [intOf]
      · obtain ⟨k, rfl⟩ : ∃ k, m = k + 1 := ⟨m - 1, by omega⟩
        have hk1 : (((k + 1 : Nat) : Int) - 1) = (k : Int) := by omega
        rw [hk1]
        clear hk1 hm0
        by_cases hkl : k < l.length
        · have HA := Lib.hid (atI_of_lt hkl)
          obtain ⟨b, off, rfl⟩ : ∃ b off, a = some ⟨b, off, none⟩ := by
            obtain ⟨a', c', e, _, _, _, h4⟩ := HB.out
            obtain ⟨b, off, rfl, _⟩ := h4 (by intro e; rw [e] at hkl; simp at hkl)
            simp only [Value.slice.injEq] at e
            exact ⟨b, off, e.1⟩
          have hcell := HB.out.cell k hkl
          have k0 : (0 : Int) ≤ (k : Int) := Int.natCast_nonneg _
          go_wp2_with fail
          refine (at_any' _ l _ _ _ HB.out HA.out).mono ?_
          rintro e w' ⟨rfl, rfl⟩
          go_wp2_with fail
          go_round
          case rel => exact ⟨k + 2, by omega, by go_num⟩
          case measure => simp [intOf]; omega
        · by_cases hke : k = l.length
          · subst hke
            have HA := Lib.hid (show atI l ((l.length : Nat) : Int) = 0 from atI_of_out (Or.inr (by omega)))
            have k0 : (0 : Int) ≤ (l.length : Int) := Int.natCast_nonneg _
            clear hkl
            go_wp2_with fail
            refine (at_any' _ l _ _ _ HB.out HA.out).mono ?_
            rintro e w' ⟨rfl, rfl⟩
            go_wp2_with fail
            go_round
            case rel => exact ⟨l.length + 2, by omega, by go_num⟩
            case measure => simp [intOf]; omega
          · obtain rfl : k = l.length + 1 := by omega
            clear hkl hke
            go_wp2_with fail
            refine (unit_any n i _).mono ?_
            rintro e w2 ⟨u, rfl, hu, hb2⟩
            have B2 := B.trans (hb2.mono B.size)
            by_cases hr : n ≤ 65536 ∧ 0 ≤ i ∧ i < n
            · have hE : unitE n i = 0 := if_pos hr
              have hV : unitV n i = unitL n.toNat i.toNat := if_pos hr
              obtain ⟨hr1, hr2, hr3⟩ := hr
              rw [hE]
              rw [hV] at hu
              clear hE hV
              obtain ⟨kk, rfl⟩ := Int.eq_ofNat_of_zero_le hr2
              obtain ⟨mm, rfl⟩ := Int.eq_ofNat_of_zero_le (show 0 ≤ n by omega)
              rw [Int.toNat_natCast, Int.toNat_natCast] at hu
              have HU := Lib.hid hu
              have HLU := Lib.hid (unitL_length mm kk)
              obtain ⟨ua, uc, rfl, _, _, _, h4⟩ := hu
              obtain ⟨ub, uo, rfl, _⟩ := h4 (by intro e; have := HLU.out; rw [e] at this; simp at this; omega)
              clear h4 hr2
              have HLD := Lib.hid (leadI_unitL (n := mm) (k := kk) (by omega))
              rw [HLU.out]
              obtain ⟨w0, hw0⟩ : ∃ w0 : World, w0 = w2 := ⟨_, rfl⟩
              subst hw0
              go_wp2_with fail
              go_loop [12, 13, 94] (fun _ _ jj => ∃ j : Nat, j ≤ mm ∧ jj = .int .i64 (j : Int)) (fun _ _ jj => mm - (intOf jj).toNat)
              case atStart => exact ⟨0, by omega, rfl⟩
              case round =>
                obtain ⟨j, hj, rfl⟩ := hrel
                by_cases hjl : j < mm
                · have hcell := HU.out.cell j (by rw [HLU.out]; exact hjl)
                  rw [nth_unitL hjl] at hcell
                  by_cases hjk : j = kk
                  · subst hjk
                    rw [if_pos rfl] at hcell
                    go_wp2_with fail
                    go_round
                    case rel => exact ⟨j + 1, by omega, by go_num⟩
                    case measure => simp [intOf]; omega
                  · have hbe : ((j : Int) == (kk : Int)) = false := by rw [beq_eq_false_iff_ne]; omega
                    rw [if_neg hjk] at hcell
                    clear hjk
                    go_wp2_with fail
                    go_round
                    case rel => exact ⟨j + 1, by omega, by go_num⟩
                    case measure => simp [intOf]; omega
                · go_wp2_with fail
                  refine (lead_any' _ (unitL mm kk) _ _ (by have h := HU.out; rw [HLU.out] at h; exact h) HLD.out).mono ?_
                  rintro e w' ⟨rfl, rfl⟩
                  go_wp2_with fail
                  go_ret
                  exact ⟨rfl, B2⟩
            · have hE : unitE n i = 2 := if_neg hr
              have hV : unitV n i = [] := if_neg hr
              rw [hE]
              rw [hV] at hu
              clear hE hV
              obtain ⟨ua, uc, rfl, _⟩ := hu
              have hcases : n < 0 ∨ (0 ≤ n ∧ 65536 < n) ∨ (0 ≤ n ∧ n ≤ 65536 ∧ i < 0) ∨ (0 ≤ n ∧ n ≤ 65536 ∧ 0 ≤ i ∧ n ≤ i) := by omega
              clear hr
              rcases hcases with h | ⟨h, h'⟩ | ⟨h, h', h''⟩ | ⟨h, h', h'', h3⟩
              all_goals
                go_wp2_with fail
                go_ret
                exact ⟨rfl, B2⟩

theorem vecTells_walk (v : Value) (l : List Nat) (n i : Int) (w : World) (hB : Bytes w v l) (_h1 : -9223372036854775808 ≤ n) (_h2 : n ≤ 9223372036854775807) (_h3 : -9223372036854775808 ≤ i) (_h4 : i ≤ 9223372036854775807) :
    Calls Try.prog 3 #[v, .int .i64 n, .int .i64 i] w fun e w' => e = .returned (.bool true) ∧ Below w.heap.size w w' := by
  by_cases hl : l.length ≤ 100
  · by_cases hn : n ≤ 1000 ∨ 65536 < n
    · exact vecTells_in v l n i w hB hl hn
    · obtain ⟨a, c, rfl, _⟩ := hB
      exact vecTells_out a _ c n i w (Or.inr ⟨hl, by omega⟩)
  · obtain ⟨a, c, rfl, _⟩ := hB
    exact vecTells_out a _ c n i w (Or.inl (by omega))

end Go.Proofs.Ytgjjkiebfekkjaa
