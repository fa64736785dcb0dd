/- Texts of one seat, laid together: UintB, UintC, WordsMath, NumMath. -/
import Derived.Test.YtgoelfaemclioaaDoorPlanBackQ3
import Derived.Lib.ConvBytes
import Derived.Lib.AtoiErrMem
import Derived.Test.YtgoelfaemclioaaDoorPlanBackQ2
import Derived.Lib.SplitLaws

/-
  The library's ParseUint at base 10, of 31 and of 32 bits, in the program.
-/
set_option maxRecDepth 100000
namespace Go.Proofs.YtgoelfaemclioaaDoor
open Go.RowKit

/-- The number that figures spell, if it isn't above M. -/
def puM (M : Nat) : Nat → List Nat → Option Nat
  | acc, [] => some acc
  | acc, c :: r => if 48 ≤ c ∧ c ≤ 57 ∧ acc * 10 + (c - 48) ≤ M then puM M (acc * 10 + (c - 48)) r else none
def puO (M : Nat) (t : List Nat) : Option Nat := if t = [] then none else puM M 0 t
/-- What ParseUint answers. -/
def PuV (w : World) (o : Option Nat) (e : Ending) (w' : World) : Prop := (match o with
  | some n => e = .returned (.tuple #[.int .u64 (n : Int), .nilIface])
  | none => ∃ (x : Nat) (z : Int), (z = 1 ∨ z = 2) ∧ e = .returned (.tuple #[.int .u64 (x : Int), .iface 80 (.int .i64 z)])) ∧ Below w.heap.size w w'
theorem puM_cons {M acc : Nat} {t : List Nat} {k : Nat} (hk : k < t.length) : puM M acc (t.drop k) = if 48 ≤ nth t k ∧ nth t k ≤ 57 ∧ acc * 10 + (nth t k - 48) ≤ M then puM M (acc * 10 + (nth t k - 48)) (t.drop (k + 1)) else none := by
  rw [List.drop_eq_getElem_cons hk, ← nth_eq t k hk]; rfl

set_option maxHeartbeats 2000000 in
theorem puint31 (t : List Nat) (w : World) (ht : ∀ x, x ∈ t → x < 256) (hlen : t.length ≤ 1000000) (h0 : t ≠ []) :
    Calls Tryd.prog 34 #[.string (strOf t), .int .i64 10, .int .i64 31] w (PuV w (puO 2147483647 t)) := by
  have hc0 : ∀ j, j < t.length → (Lib.bytesWorld w 5 (strOf t)).cell? ⟨w.heap.size, j, none⟩ = some (U8 (nth t j)) := fun j hj => by
    rw [Lib.bytesWorld_cell w 5 (strOf t) j (by rw [strOf_size]; exact hj)]
    have h1 := strOf_at ht (S := strOf t) rfl j (by rw [strOf_size]; exact hj)
    rw [← h1]
    congr 2
    have h2 : j < (strOf t).data.toList.length := by rw [Array.length_toList]; have := strOf_size t; exact (show j < (strOf t).size by omega)
    rw [List.getD_eq_getElem?_getD, List.getElem?_eq_getElem h2]
    rfl
  have hcv := Lib.run_convert_string_bytes (P := Tryd.prog) w 9 66 5 (strOf t) Tryd.underlying9 Tryd.underlying66 Tryd.underlying5
  rw [strOf_size] at hcv
  have hbw := Lib.bytesWorld_below w 5 (strOf t)
  generalize grownCap w t.length 0 5 = cap at *
  generalize Lib.bytesWorld w 5 (strOf t) = W at *
  obtain ⟨g, hg⟩ : ∃ g : Nat, g = w.heap.size := ⟨_, rfl⟩
  rw [← hg] at hc0 hcv
  have HC := Lib.hid hc0
  have HB := Lib.hid hbw
  have hse : ((strOf t).toList == []) = false := by
    have h1 := strOf_isEmpty t
    cases h : (strOf t).toList with
    | nil =>
      rw [h] at h1
      cases t with
      | nil => exact absurd rfl h0
      | cons a b => cases h1
    | cons a b => rfl
  have HCL := Lib.hid (fun j => nth_lt ht j)
  have HP := Lib.hid (show puO 2147483647 t = puM 2147483647 0 t by unfold puO; rw [if_neg h0])
  obtain ⟨o, ho⟩ : ∃ o, o = puO 2147483647 t := ⟨_, rfl⟩
  rw [← ho] at HP ⊢
  generalize strOf t = S at *
  clear hc0 hbw ho ht hg h0
  go_enter Tryd.func34, Tryd.ntmps34
  go_wp2_with fail
  go_loopw [12, 13, 15, 16, 17, 101, 106, 112, 121] (fun q v _ _ _ x _ _ _ wr => ∃ (j a : Nat), j ≤ t.length ∧ x = .int .i64 j ∧ q = .bool false ∧ v = .int .u64 (a : Int) ∧ a ≤ 2147483647 ∧ o = puM 2147483647 a (t.drop j) ∧ wr = W) (fun _ _ _ _ _ x _ _ _ _ => t.length - (intOf x).toNat)
  case atStart => exact ⟨0, 0, by omega, rfl, rfl, rfl, by omega, HP.out, rfl⟩
  case round =>
    obtain ⟨j, a, hj, rfl, rfl, rfl, ha, hr, rfl⟩ := hrel
    have HR := Lib.hid hr
    have HA := Lib.hid ha
    have hai : (a : Int) ≤ 2147483647 := by omega
    have ha0 : (0 : Int) ≤ (a : Int) := Int.natCast_nonneg _
    clear hr HP ha
    by_cases hlt : j < t.length
    · have hcj := HC.out j hlt
      have HPC := Lib.hid (puM_cons (M := 2147483647) (acc := a) hlt)
      obtain ⟨c, hc⟩ : ∃ c, c = nth t j := ⟨_, rfl⟩
      rw [← hc] at hcj HPC
      have hcl : c < 256 := by rw [hc]; exact HCL.out j
      clear hc
      have j0 : (0 : Int) ≤ (j : Int) := Int.natCast_nonneg _
      have j1 : (j : Int) < (t.length : Int) := by omega
      by_cases hd : 48 ≤ c ∧ c ≤ 57
      · obtain ⟨hd1, hd2⟩ := hd
        have d1 : (48 : Int) ≤ (c : Int) := by omega
        have d2 : (c : Int) ≤ 57 := by omega
        have d3 : ¬ (c : Int) = 95 := by omega
        obtain ⟨d, hd⟩ : ∃ d, d = c - 48 := ⟨_, rfl⟩
        have hdi : (c : Int) - 48 = (d : Int) := by omega
        have hd9 : (d : Int) ≤ 9 := by omega
        have hd0 : (0 : Int) ≤ (d : Int) := Int.natCast_nonneg _
        rw [← hd] at HPC
        clear hd
        obtain ⟨b, hb⟩ : ∃ b, b = a * 10 + d := ⟨_, rfl⟩
        have hbi : (a : Int) * 10 + (d : Int) = (b : Int) := by omega
        have d4 : ¬ (10 : Int) ≤ (d : Int) := by omega
        have hco : ¬ (1844674407370955162 : Int) ≤ (a : Int) := by omega
        by_cases hle : b ≤ 2147483647
        · have HO := Lib.hid (show o = puM 2147483647 b (t.drop (j + 1)) by rw [HR.out, HPC.out, if_pos ⟨hd1, hd2, by omega⟩, hb])
          have d5 : ¬ (b : Int) < (a : Int) * 10 := by omega
          have HLE := Lib.hid hle
          have hlei : ¬ 2147483647 < (b : Int) := by omega
          have HBI := Lib.hid hbi
          have HCN := Lib.hid hcl
          clear hb HPC HR hle hbi hcl hd1 hd2
          go_upto_region 52 with fail
          rw [HBI.out]
          go_wp2_with fail
          go_roundw
          case rel => exact ⟨j + 1, b, by omega, by go_num, by first | rfl | trivial, by first | rfl | trivial, HLE.out, HO.out, by first | rfl | trivial⟩
          case measure => simp [intOf]; omega
        · have HO := Lib.hid (show o = none by rw [HR.out, HPC.out, if_neg (fun h => hle (by omega))])
          have d5 : ¬ (b : Int) < (a : Int) * 10 := by omega
          have hlei : 2147483647 < (b : Int) := by omega
          have HBI := Lib.hid hbi
          clear hb HPC HR hle hbi hcl hd1 hd2
          go_upto_region 52 with fail
          rw [HBI.out]
          go_wp2_with fail
          go_ret2
          exact ⟨by rw [HO.out]; exact ⟨2147483647, 1, .inl rfl, rfl⟩, HB.out⟩
      · have HO := Lib.hid (show o = none by rw [HR.out, HPC.out, if_neg (fun h => hd ⟨h.1, h.2.1⟩)])
        by_cases h95 : c = 95
        · subst h95
          have HLW := Lib.hid (fun w => Tryd.internal_strconv_lower 95 w)
          rw [show Go.bits .or .u8 95 32 = 127 by decide] at HLW
          clear HPC HR hd
          go_wp2_with fail
          refine (HLW.out _).mono ?_
          rintro e w2 ⟨rfl, rfl⟩
          go_wp2_with fail
          refine (HLW.out _).mono ?_
          rintro e w3 ⟨rfl, rfl⟩
          go_wp2_with fail
          go_ret2
          exact ⟨by rw [HO.out]; exact ⟨0, 2, .inr rfl, rfl⟩, HB.out⟩
        have HLW := Lib.hid (fun w => Tryd.internal_strconv_lower (c : Int) w)
        obtain ⟨l, hl⟩ : ∃ l : Int, l = Go.bits .or .u8 (c : Int) 32 := ⟨_, rfl⟩
        rw [← hl] at HLW
        clear hl HPC HR
        have hd2 : (c : Int) < 48 ∨ (48 ≤ (c : Int) ∧ 57 < (c : Int)) := by omega
        clear hd
        by_cases h97 : 97 ≤ l
        · by_cases h122 : l ≤ 122
          · rcases hd2 with hd3 | ⟨hd3, hd4⟩
            · have hd5 : ¬ (48 : Int) ≤ (c : Int) := by omega
              have hd6 : ¬ (c : Int) = 95 := by omega
              go_wp2_with fail
              refine (HLW.out _).mono ?_
              rintro e w2 ⟨rfl, rfl⟩
              go_wp2_with fail
              refine (HLW.out _).mono ?_
              rintro e w3 ⟨rfl, rfl⟩
              go_wp2_with fail
              refine (HLW.out _).mono ?_
              rintro e w4 ⟨rfl, rfl⟩
              go_wp2_with fail
              go_ret2
              exact ⟨by rw [HO.out]; exact ⟨0, 2, .inr rfl, rfl⟩, HB.out⟩
            · have hd5 : ¬ (c : Int) ≤ 57 := by omega
              have hd6 : ¬ (c : Int) = 95 := by omega
              go_wp2_with fail
              refine (HLW.out _).mono ?_
              rintro e w2 ⟨rfl, rfl⟩
              go_wp2_with fail
              refine (HLW.out _).mono ?_
              rintro e w3 ⟨rfl, rfl⟩
              go_wp2_with fail
              refine (HLW.out _).mono ?_
              rintro e w4 ⟨rfl, rfl⟩
              go_wp2_with fail
              go_ret2
              exact ⟨by rw [HO.out]; exact ⟨0, 2, .inr rfl, rfl⟩, HB.out⟩
          · rcases hd2 with hd3 | ⟨hd3, hd4⟩
            · have hd5 : ¬ (48 : Int) ≤ (c : Int) := by omega
              have hd6 : ¬ (c : Int) = 95 := by omega
              go_wp2_with fail
              refine (HLW.out _).mono ?_
              rintro e w2 ⟨rfl, rfl⟩
              go_wp2_with fail
              refine (HLW.out _).mono ?_
              rintro e w3 ⟨rfl, rfl⟩
              go_wp2_with fail
              go_ret2
              exact ⟨by rw [HO.out]; exact ⟨0, 2, .inr rfl, rfl⟩, HB.out⟩
            · have hd5 : ¬ (c : Int) ≤ 57 := by omega
              have hd6 : ¬ (c : Int) = 95 := by omega
              go_wp2_with fail
              refine (HLW.out _).mono ?_
              rintro e w2 ⟨rfl, rfl⟩
              go_wp2_with fail
              refine (HLW.out _).mono ?_
              rintro e w3 ⟨rfl, rfl⟩
              go_wp2_with fail
              go_ret2
              exact ⟨by rw [HO.out]; exact ⟨0, 2, .inr rfl, rfl⟩, HB.out⟩
        · rcases hd2 with hd3 | ⟨hd3, hd4⟩
          · have hd5 : ¬ (48 : Int) ≤ (c : Int) := by omega
            have hd6 : ¬ (c : Int) = 95 := by omega
            go_wp2_with fail
            refine (HLW.out _).mono ?_
            rintro e w2 ⟨rfl, rfl⟩
            go_wp2_with fail
            go_ret2
            exact ⟨by rw [HO.out]; exact ⟨0, 2, .inr rfl, rfl⟩, HB.out⟩
          · have hd5 : ¬ (c : Int) ≤ 57 := by omega
            have hd6 : ¬ (c : Int) = 95 := by omega
            go_wp2_with fail
            refine (HLW.out _).mono ?_
            rintro e w2 ⟨rfl, rfl⟩
            go_wp2_with fail
            go_ret2
            exact ⟨by rw [HO.out]; exact ⟨0, 2, .inr rfl, rfl⟩, HB.out⟩
    · obtain rfl : j = t.length := by omega
      have HO := Lib.hid (show o = some a by rw [HR.out, List.drop_length]; rfl)
      clear HR
      go_wp2_with fail
      go_ret2
      exact ⟨by rw [HO.out]; rfl, HB.out⟩

set_option maxHeartbeats 2000000 in
theorem puint32 (t : List Nat) (w : World) (ht : ∀ x, x ∈ t → x < 256) (hlen : t.length ≤ 1000000) (h0 : t ≠ []) :
    Calls Tryd.prog 34 #[.string (strOf t), .int .i64 10, .int .i64 32] w (PuV w (puO 4294967295 t)) := by
  have hc0 : ∀ j, j < t.length → (Lib.bytesWorld w 5 (strOf t)).cell? ⟨w.heap.size, j, none⟩ = some (U8 (nth t j)) := fun j hj => by
    rw [Lib.bytesWorld_cell w 5 (strOf t) j (by rw [strOf_size]; exact hj)]
    have h1 := strOf_at ht (S := strOf t) rfl j (by rw [strOf_size]; exact hj)
    rw [← h1]
    congr 2
    have h2 : j < (strOf t).data.toList.length := by rw [Array.length_toList]; have := strOf_size t; exact (show j < (strOf t).size by omega)
    rw [List.getD_eq_getElem?_getD, List.getElem?_eq_getElem h2]
    rfl
  have hcv := Lib.run_convert_string_bytes (P := Tryd.prog) w 9 66 5 (strOf t) Tryd.underlying9 Tryd.underlying66 Tryd.underlying5
  rw [strOf_size] at hcv
  have hbw := Lib.bytesWorld_below w 5 (strOf t)
  generalize grownCap w t.length 0 5 = cap at *
  generalize Lib.bytesWorld w 5 (strOf t) = W at *
  obtain ⟨g, hg⟩ : ∃ g : Nat, g = w.heap.size := ⟨_, rfl⟩
  rw [← hg] at hc0 hcv
  have HC := Lib.hid hc0
  have HB := Lib.hid hbw
  have hse : ((strOf t).toList == []) = false := by
    have h1 := strOf_isEmpty t
    cases h : (strOf t).toList with
    | nil =>
      rw [h] at h1
      cases t with
      | nil => exact absurd rfl h0
      | cons a b => cases h1
    | cons a b => rfl
  have HCL := Lib.hid (fun j => nth_lt ht j)
  have HP := Lib.hid (show puO 4294967295 t = puM 4294967295 0 t by unfold puO; rw [if_neg h0])
  obtain ⟨o, ho⟩ : ∃ o, o = puO 4294967295 t := ⟨_, rfl⟩
  rw [← ho] at HP ⊢
  generalize strOf t = S at *
  clear hc0 hbw ho ht hg h0
  go_enter Tryd.func34, Tryd.ntmps34
  go_wp2_with fail
  go_loopw [12, 13, 15, 16, 17, 101, 106, 112, 121] (fun q v _ _ _ x _ _ _ wr => ∃ (j a : Nat), j ≤ t.length ∧ x = .int .i64 j ∧ q = .bool false ∧ v = .int .u64 (a : Int) ∧ a ≤ 4294967295 ∧ o = puM 4294967295 a (t.drop j) ∧ wr = W) (fun _ _ _ _ _ x _ _ _ _ => t.length - (intOf x).toNat)
  case atStart => exact ⟨0, 0, by omega, rfl, rfl, rfl, by omega, HP.out, rfl⟩
  case round =>
    obtain ⟨j, a, hj, rfl, rfl, rfl, ha, hr, rfl⟩ := hrel
    have HR := Lib.hid hr
    have HA := Lib.hid ha
    have hai : (a : Int) ≤ 4294967295 := by omega
    have ha0 : (0 : Int) ≤ (a : Int) := Int.natCast_nonneg _
    clear hr HP ha
    by_cases hlt : j < t.length
    · have hcj := HC.out j hlt
      have HPC := Lib.hid (puM_cons (M := 4294967295) (acc := a) hlt)
      obtain ⟨c, hc⟩ : ∃ c, c = nth t j := ⟨_, rfl⟩
      rw [← hc] at hcj HPC
      have hcl : c < 256 := by rw [hc]; exact HCL.out j
      clear hc
      have j0 : (0 : Int) ≤ (j : Int) := Int.natCast_nonneg _
      have j1 : (j : Int) < (t.length : Int) := by omega
      by_cases hd : 48 ≤ c ∧ c ≤ 57
      · obtain ⟨hd1, hd2⟩ := hd
        have d1 : (48 : Int) ≤ (c : Int) := by omega
        have d2 : (c : Int) ≤ 57 := by omega
        have d3 : ¬ (c : Int) = 95 := by omega
        obtain ⟨d, hd⟩ : ∃ d, d = c - 48 := ⟨_, rfl⟩
        have hdi : (c : Int) - 48 = (d : Int) := by omega
        have hd9 : (d : Int) ≤ 9 := by omega
        have hd0 : (0 : Int) ≤ (d : Int) := Int.natCast_nonneg _
        rw [← hd] at HPC
        clear hd
        obtain ⟨b, hb⟩ : ∃ b, b = a * 10 + d := ⟨_, rfl⟩
        have hbi : (a : Int) * 10 + (d : Int) = (b : Int) := by omega
        have d4 : ¬ (10 : Int) ≤ (d : Int) := by omega
        have hco : ¬ (1844674407370955162 : Int) ≤ (a : Int) := by omega
        by_cases hle : b ≤ 4294967295
        · have HO := Lib.hid (show o = puM 4294967295 b (t.drop (j + 1)) by rw [HR.out, HPC.out, if_pos ⟨hd1, hd2, by omega⟩, hb])
          have d5 : ¬ (b : Int) < (a : Int) * 10 := by omega
          have HLE := Lib.hid hle
          have hlei : ¬ 4294967295 < (b : Int) := by omega
          have HBI := Lib.hid hbi
          have HCN := Lib.hid hcl
          clear hb HPC HR hle hbi hcl hd1 hd2
          go_upto_region 52 with fail
          rw [HBI.out]
          go_wp2_with fail
          go_roundw
          case rel => exact ⟨j + 1, b, by omega, by go_num, by first | rfl | trivial, by first | rfl | trivial, HLE.out, HO.out, by first | rfl | trivial⟩
          case measure => simp [intOf]; omega
        · have HO := Lib.hid (show o = none by rw [HR.out, HPC.out, if_neg (fun h => hle (by omega))])
          have d5 : ¬ (b : Int) < (a : Int) * 10 := by omega
          have hlei : 4294967295 < (b : Int) := by omega
          have HBI := Lib.hid hbi
          clear hb HPC HR hle hbi hcl hd1 hd2
          go_upto_region 52 with fail
          rw [HBI.out]
          go_wp2_with fail
          go_ret2
          exact ⟨by rw [HO.out]; exact ⟨4294967295, 1, .inl rfl, rfl⟩, HB.out⟩
      · have HO := Lib.hid (show o = none by rw [HR.out, HPC.out, if_neg (fun h => hd ⟨h.1, h.2.1⟩)])
        by_cases h95 : c = 95
        · subst h95
          have HLW := Lib.hid (fun w => Tryd.internal_strconv_lower 95 w)
          rw [show Go.bits .or .u8 95 32 = 127 by decide] at HLW
          clear HPC HR hd
          go_wp2_with fail
          refine (HLW.out _).mono ?_
          rintro e w2 ⟨rfl, rfl⟩
          go_wp2_with fail
          refine (HLW.out _).mono ?_
          rintro e w3 ⟨rfl, rfl⟩
          go_wp2_with fail
          go_ret2
          exact ⟨by rw [HO.out]; exact ⟨0, 2, .inr rfl, rfl⟩, HB.out⟩
        have HLW := Lib.hid (fun w => Tryd.internal_strconv_lower (c : Int) w)
        obtain ⟨l, hl⟩ : ∃ l : Int, l = Go.bits .or .u8 (c : Int) 32 := ⟨_, rfl⟩
        rw [← hl] at HLW
        clear hl HPC HR
        have hd2 : (c : Int) < 48 ∨ (48 ≤ (c : Int) ∧ 57 < (c : Int)) := by omega
        clear hd
        by_cases h97 : 97 ≤ l
        · by_cases h122 : l ≤ 122
          · rcases hd2 with hd3 | ⟨hd3, hd4⟩
            · have hd5 : ¬ (48 : Int) ≤ (c : Int) := by omega
              have hd6 : ¬ (c : Int) = 95 := by omega
              go_wp2_with fail
              refine (HLW.out _).mono ?_
              rintro e w2 ⟨rfl, rfl⟩
              go_wp2_with fail
              refine (HLW.out _).mono ?_
              rintro e w3 ⟨rfl, rfl⟩
              go_wp2_with fail
              refine (HLW.out _).mono ?_
              rintro e w4 ⟨rfl, rfl⟩
              go_wp2_with fail
              go_ret2
              exact ⟨by rw [HO.out]; exact ⟨0, 2, .inr rfl, rfl⟩, HB.out⟩
            · have hd5 : ¬ (c : Int) ≤ 57 := by omega
              have hd6 : ¬ (c : Int) = 95 := by omega
              go_wp2_with fail
              refine (HLW.out _).mono ?_
              rintro e w2 ⟨rfl, rfl⟩
              go_wp2_with fail
              refine (HLW.out _).mono ?_
              rintro e w3 ⟨rfl, rfl⟩
              go_wp2_with fail
              refine (HLW.out _).mono ?_
              rintro e w4 ⟨rfl, rfl⟩
              go_wp2_with fail
              go_ret2
              exact ⟨by rw [HO.out]; exact ⟨0, 2, .inr rfl, rfl⟩, HB.out⟩
          · rcases hd2 with hd3 | ⟨hd3, hd4⟩
            · have hd5 : ¬ (48 : Int) ≤ (c : Int) := by omega
              have hd6 : ¬ (c : Int) = 95 := by omega
              go_wp2_with fail
              refine (HLW.out _).mono ?_
              rintro e w2 ⟨rfl, rfl⟩
              go_wp2_with fail
              refine (HLW.out _).mono ?_
              rintro e w3 ⟨rfl, rfl⟩
              go_wp2_with fail
              go_ret2
              exact ⟨by rw [HO.out]; exact ⟨0, 2, .inr rfl, rfl⟩, HB.out⟩
            · have hd5 : ¬ (c : Int) ≤ 57 := by omega
              have hd6 : ¬ (c : Int) = 95 := by omega
              go_wp2_with fail
              refine (HLW.out _).mono ?_
              rintro e w2 ⟨rfl, rfl⟩
              go_wp2_with fail
              refine (HLW.out _).mono ?_
              rintro e w3 ⟨rfl, rfl⟩
              go_wp2_with fail
              go_ret2
              exact ⟨by rw [HO.out]; exact ⟨0, 2, .inr rfl, rfl⟩, HB.out⟩
        · rcases hd2 with hd3 | ⟨hd3, hd4⟩
          · have hd5 : ¬ (48 : Int) ≤ (c : Int) := by omega
            have hd6 : ¬ (c : Int) = 95 := by omega
            go_wp2_with fail
            refine (HLW.out _).mono ?_
            rintro e w2 ⟨rfl, rfl⟩
            go_wp2_with fail
            go_ret2
            exact ⟨by rw [HO.out]; exact ⟨0, 2, .inr rfl, rfl⟩, HB.out⟩
          · have hd5 : ¬ (c : Int) ≤ 57 := by omega
            have hd6 : ¬ (c : Int) = 95 := by omega
            go_wp2_with fail
            refine (HLW.out _).mono ?_
            rintro e w2 ⟨rfl, rfl⟩
            go_wp2_with fail
            go_ret2
            exact ⟨by rw [HO.out]; exact ⟨0, 2, .inr rfl, rfl⟩, HB.out⟩
    · obtain rfl : j = t.length := by omega
      have HO := Lib.hid (show o = some a by rw [HR.out, List.drop_length]; rfl)
      clear HR
      go_wp2_with fail
      go_ret2
      exact ⟨by rw [HO.out]; rfl, HB.out⟩

end Go.Proofs.YtgoelfaemclioaaDoor

/-
  strconv.ParseUint at base 10, of 31 and of 32 bits, in the program.
-/
set_option maxRecDepth 100000
namespace Go.Proofs.YtgoelfaemclioaaDoor
open Go.RowKit

/-- A variable of the library holds an error that is none, or one in a box. -/
def Sent (w : World) (g : Nat) : Prop := ∃ ev, w.cell? ⟨g, 0, none⟩ = some ev ∧ (ev = .nilIface ∨ ∃ te pe, ev = .iface te pe)
theorem Sent.go {w w' : World} {g : Nat} (h : Sent w g) (hb : Below w.heap.size w w') : Sent w' g := by
  obtain ⟨ev, h1, h2⟩ := h
  exact ⟨ev, by rw [hb.cell (show (⟨g, 0, none⟩ : Addr).block < w.heap.size from Lib.lt_of_cell h1)]; exact h1, h2⟩
def Sents (w : World) : Prop := Sent w 1 ∧ Sent w 2
theorem Sents.go {w w' : World} (h : Sents w) (hb : Below w.heap.size w w') : Sents w' := ⟨h.1.go hb, h.2.go hb⟩
/-- What strconv.ParseUint answers. -/
def PuW (w : World) (o : Option Nat) (e : Ending) (w' : World) : Prop := (match o with
  | some n => e = .returned (.tuple #[.int .u64 (n : Int), .nilIface])
  | none => ∃ (x : Nat) (g : Nat), e = .returned (.tuple #[.int .u64 (x : Int), .iface 82 (.pointer (some ⟨g, 0, none⟩))])) ∧ Below w.heap.size w w'
theorem puI {b : Int} {M : Nat} (t : List Nat) (w : World) (ht : ∀ x, x ∈ t → x < 256) (hlen : t.length ≤ 1000000) (hS : Sents w)
    (H : t ≠ [] → Calls Tryd.prog 34 #[.string (strOf t), .int .i64 10, .int .i64 b] w (PuV w (puO M t))) :
    Calls Tryd.prog 34 #[.string (strOf t), .int .i64 10, .int .i64 b] w (PuV w (puO M t)) := by
  by_cases h0 : t = []
  · subst h0
    refine (Tryd.internal_strconv_ParseUint_empty 10 b w).mono ?_
    rintro e w' ⟨rfl, rfl⟩
    exact ⟨⟨0, 2, .inr rfl, rfl⟩, Below.refl _ _⟩
  · exact H h0
theorem parseuint31 (t : List Nat) (w : World) (ht : ∀ x, x ∈ t → x < 256) (hlen : t.length ≤ 1000000) (hS : Sents w) :
    Calls Tryd.prog 27 #[.string (strOf t), .int .i64 10, .int .i64 31] w (PuW w (puO 2147483647 t)) := by
  have HS := Lib.hid hS
  obtain ⟨o, ho⟩ : ∃ o, o = puO 2147483647 t := ⟨_, rfl⟩
  have HI := Lib.hid (puI t w ht hlen hS (puint31 t w ht hlen))
  rw [← ho] at HI ⊢
  have hsz : (strOf t).size ≤ 281474976710656 := by rw [strOf_size]; omega
  generalize strOf t = S at *
  have HZ := Lib.hid hsz
  clear hsz ho hS ht
  go_enter Tryd.func27, Tryd.ntmps27
  go_wp2_with fail
  refine HI.out.mono ?_
  rintro e w1 ⟨he, hb⟩
  have HB := Lib.hid hb
  have HS1 := Lib.hid (HS.out.go hb)
  clear hb HS HI
  cases o with
  | some n =>
    obtain rfl : e = _ := he
    go_wp2_with fail
    go_ret2
    exact ⟨rfl, HB.out⟩
  | none =>
    obtain ⟨x, z, hz, rfl⟩ := he
    obtain ⟨⟨e1, c1, d1⟩, ⟨e2, c2, d2⟩⟩ := HS1.out
    have C1 := Lib.hid c1
    have C2 := Lib.hid c2
    have D1 := Lib.hid d1
    have D2 := Lib.hid d2
    clear c1 c2 d1 d2
    rcases hz with rfl | rfl
    · go_wp2_with fail
      refine (Tryd.strconv_toError_range _ _ 10 31 e2 w1 HZ.out C2.out D2.out).mono ?_
      rintro e w2 ⟨N, rfl, -, -, hb2⟩
      go_wp2_with fail
      go_ret2
      exact ⟨⟨x, N, rfl⟩, HB.out.trans (hb2.mono HB.out.size)⟩
    · go_wp2_with fail
      refine (Tryd.strconv_toError_syntax _ _ 10 31 e1 w1 HZ.out C1.out D1.out).mono ?_
      rintro e w2 ⟨N, rfl, -, -, hb2⟩
      go_wp2_with fail
      go_ret2
      exact ⟨⟨x, N, rfl⟩, HB.out.trans (hb2.mono HB.out.size)⟩
theorem parseuint32 (t : List Nat) (w : World) (ht : ∀ x, x ∈ t → x < 256) (hlen : t.length ≤ 1000000) (hS : Sents w) :
    Calls Tryd.prog 27 #[.string (strOf t), .int .i64 10, .int .i64 32] w (PuW w (puO 4294967295 t)) := by
  have HS := Lib.hid hS
  obtain ⟨o, ho⟩ : ∃ o, o = puO 4294967295 t := ⟨_, rfl⟩
  have HI := Lib.hid (puI t w ht hlen hS (puint32 t w ht hlen))
  rw [← ho] at HI ⊢
  have hsz : (strOf t).size ≤ 281474976710656 := by rw [strOf_size]; omega
  generalize strOf t = S at *
  have HZ := Lib.hid hsz
  clear hsz ho hS ht
  go_enter Tryd.func27, Tryd.ntmps27
  go_wp2_with fail
  refine HI.out.mono ?_
  rintro e w1 ⟨he, hb⟩
  have HB := Lib.hid hb
  have HS1 := Lib.hid (HS.out.go hb)
  clear hb HS HI
  cases o with
  | some n =>
    obtain rfl : e = _ := he
    go_wp2_with fail
    go_ret2
    exact ⟨rfl, HB.out⟩
  | none =>
    obtain ⟨x, z, hz, rfl⟩ := he
    obtain ⟨⟨e1, c1, d1⟩, ⟨e2, c2, d2⟩⟩ := HS1.out
    have C1 := Lib.hid c1
    have C2 := Lib.hid c2
    have D1 := Lib.hid d1
    have D2 := Lib.hid d2
    clear c1 c2 d1 d2
    rcases hz with rfl | rfl
    · go_wp2_with fail
      refine (Tryd.strconv_toError_range _ _ 10 32 e2 w1 HZ.out C2.out D2.out).mono ?_
      rintro e w2 ⟨N, rfl, -, -, hb2⟩
      go_wp2_with fail
      go_ret2
      exact ⟨⟨x, N, rfl⟩, HB.out.trans (hb2.mono HB.out.size)⟩
    · go_wp2_with fail
      refine (Tryd.strconv_toError_syntax _ _ 10 32 e1 w1 HZ.out C1.out D1.out).mono ?_
      rintro e w2 ⟨N, rfl, -, -, hb2⟩
      go_wp2_with fail
      go_ret2
      exact ⟨⟨x, N, rfl⟩, HB.out.trans (hb2.mono HB.out.size)⟩

end Go.Proofs.YtgoelfaemclioaaDoor

/-
  A text cut at its blanks: the library's Split against the document's word by word; the library's ParseUint against the document's numbers.
-/
set_option maxRecDepth 100000
namespace Go.Proofs.YtgoelfaemclioaaDoor
open Go.RowKit

def blank : ByteArray := ⟨#[32]⟩
theorem strOf_data (t : List Nat) : (strOf t).data.toList = t.map UInt8.ofNat := by
  unfold strOf
  rw [strOfNums_data, List.map_map]
  refine List.map_congr_left fun z _ => ?_
  simp
theorem ix_word : ∀ (t : List Nat), (∀ x, x ∈ t → x < 256) → Lib.indexByte (t.map UInt8.ofNat) 32 = if wordM t = true then ((wordW t).length : Int) else -1
  | [], _ => rfl
  | c :: t, ht => by
    have ih := ix_word t (fun x hx => ht x (List.mem_cons_of_mem _ hx))
    have hc : c < 256 := ht c (List.mem_cons_self)
    rw [List.map_cons, Lib.indexByte, ih]
    by_cases h : c = 32
    · subst h; simp [wordM, wordW]
    · have h2 : (UInt8.ofNat c == 32) = false := by
        rw [beq_eq_false_iff_ne]
        intro e
        have := congrArg UInt8.toNat e
        simp at this
        omega
      rw [h2]
      have em : wordM (c :: t) = wordM t := by show (if c = 32 then true else wordM t) = _; rw [if_neg h]
      have ew : wordW (c :: t) = c :: wordW t := by show (if c = 32 then [] else c :: wordW t) = _; rw [if_neg h]
      rw [em, ew]
      by_cases hm : wordM t = true
      · rw [if_pos hm, if_pos hm]
        simp
      · rw [if_neg hm, if_neg hm]; rfl
theorem ixB (t : List Nat) (ht : ∀ x, x ∈ t → x < 256) : Lib.indexB (strOf t) blank = if wordM t = true then ((wordW t).length : Int) else -1 := by
  show Lib.index (strOf t).data.toList [32] = _
  rw [Lib.index_one, strOf_data, ix_word t ht]
theorem word_take : ∀ (t : List Nat), wordW t = t.take (wordW t).length ∧ wordR t = t.drop ((wordW t).length + 1) ∧ (wordM t = false → wordW t = t)
  | [] => ⟨rfl, rfl, fun _ => rfl⟩
  | c :: t => by
    obtain ⟨h1, h2, h3⟩ := word_take t
    unfold wordW wordR wordM
    by_cases h : c = 32
    · rw [if_pos h, if_pos h, if_pos h]; exact ⟨rfl, rfl, fun e => by cases e⟩
    · rw [if_neg h, if_neg h, if_neg h]
      refine ⟨?_, ?_, fun e => by rw [h3 e]⟩
      · rw [List.length_cons, List.take_succ_cons, ← h1]
      · rw [List.length_cons, List.drop_succ_cons]; exact h2
/-- How many blanks. -/
def cntN (t : List Nat) : Nat := Lib.countB (strOf t) blank
theorem extract_word (t : List Nat) : (strOf t).extract 0 ((wordW t).length + 0) = strOf (wordW t) := by
  rw [strOf_extract, Nat.add_zero, List.drop_zero, ← (word_take t).1]
theorem extract_rest (t : List Nat) : (strOf t).extract ((wordW t).length + blank.size) (strOf t).size = strOf (wordR t) := by
  rw [strOf_extract, strOf_size, List.take_length, (word_take t).2.1]; rfl
theorem cnt_no {t : List Nat} (ht : ∀ x, x ∈ t → x < 256) (h : wordM t = false) : cntN t = 0 :=
  Lib.countB_miss _ _ (by rw [ixB t ht, h]; rfl)
theorem cnt_more {t : List Nat} (ht : ∀ x, x ∈ t → x < 256) (h : wordM t = true) : cntN t = 1 + cntN (wordR t) := by
  have h1 := Lib.countB_hit (strOf t) blank (wordW t).length (by decide) (by rw [ixB t ht, if_pos h])
  rw [extract_rest] at h1
  exact h1
def words : Nat → List Nat → List (List Nat)
  | 0, t => [t]
  | k + 1, t => if wordM t = true then wordW t :: words k (wordR t) else [t]
theorem split_words : ∀ (k : Nat) (t : List Nat), (∀ x, x ∈ t → x < 256) → Lib.splitB blank 0 k (strOf t) = (words k t).map strOf
  | 0, _, _ => rfl
  | k + 1, t, ht => by
    unfold words
    by_cases h : wordM t = true
    · rw [Lib.splitB_hit blank 0 k (strOf t) (wordW t).length (by rw [ixB t ht, if_pos h]), extract_word, extract_rest, split_words k _ (wordR_lt ht), if_pos h]; rfl
    · rw [Lib.splitB_miss blank 0 (k + 1) (strOf t) (by rw [ixB t ht, if_neg h]), if_neg h]; rfl
/-- Five words. -/
theorem cnt_four {t : List Nat} (ht : ∀ x, x ∈ t → x < 256) (h : cntN t = 4) : wordM t = true ∧ wordM (wordR t) = true ∧ wordM (wordR (wordR t)) = true ∧ wordM (wordR (wordR (wordR t))) = true ∧ wordM (wordR (wordR (wordR (wordR t)))) = false := by
  have t1 := wordR_lt ht
  have t2 := wordR_lt t1
  have t3 := wordR_lt t2
  have t4 := wordR_lt t3
  have s0 : wordM t = true := by
    cases h' : wordM t with
    | true => rfl
    | false => rw [cnt_no ht h'] at h; omega
  rw [cnt_more ht s0] at h
  have s1 : wordM (wordR t) = true := by
    cases h' : wordM (wordR t) with
    | true => rfl
    | false => rw [cnt_no t1 h'] at h; omega
  rw [cnt_more t1 s1] at h
  have s2 : wordM (wordR (wordR t)) = true := by
    cases h' : wordM (wordR (wordR t)) with
    | true => rfl
    | false => rw [cnt_no t2 h'] at h; omega
  rw [cnt_more t2 s2] at h
  have s3 : wordM (wordR (wordR (wordR t))) = true := by
    cases h' : wordM (wordR (wordR (wordR t))) with
    | true => rfl
    | false => rw [cnt_no t3 h'] at h; omega
  rw [cnt_more t3 s3] at h
  refine ⟨s0, s1, s2, s3, ?_⟩
  cases h' : wordM (wordR (wordR (wordR (wordR t)))) with
  | false => rfl
  | true => rw [cnt_more t4 h'] at h; omega
theorem cnt_not {t : List Nat} (ht : ∀ x, x ∈ t → x < 256) (h : cntN t ≠ 4) : plRead t = none := by
  have t1 := wordR_lt ht
  have t2 := wordR_lt t1
  have t3 := wordR_lt t2
  have t4 := wordR_lt t3
  unfold plRead
  split
  · by_cases s0 : wordM t = true
    · by_cases s1 : wordM (wordR t) = true
      · by_cases s2 : wordM (wordR (wordR t)) = true
        · by_cases s3 : wordM (wordR (wordR (wordR t))) = true
          · by_cases s4 : wordM (wordR (wordR (wordR (wordR t)))) = true
            · simp only [plK, s0, s1, s2, s3, s4, if_true]
              repeat' split
              all_goals rfl
            · rw [cnt_more ht s0, cnt_more t1 s1, cnt_more t2 s2, cnt_more t3 s3, cnt_no t4 (by simpa using s4)] at h
              exact absurd rfl h
          · simp only [plK, s0, s1, s2, s3, if_true]
            repeat' split
            all_goals first | rfl | contradiction
        · simp only [plK, s0, s1, s2, if_true]
          repeat' split
          all_goals first | rfl | contradiction
      · simp only [plK, s0, s1, if_true]
        repeat' split
        all_goals first | rfl | contradiction
    · simp only [plK, s0]
      rfl
  · rfl
/-- The four words behind the first. -/
def wd1 (t : List Nat) : List Nat := wordW (wordR t)
def wd2 (t : List Nat) : List Nat := wordW (wordR (wordR t))
def wd3 (t : List Nat) : List Nat := wordW (wordR (wordR (wordR t)))
def wd4 (t : List Nat) : List Nat := wordW (wordR (wordR (wordR (wordR t))))
theorem words_four {t : List Nat} (ht : ∀ x, x ∈ t → x < 256) (h : cntN t = 4) : words (cntN t) t = [wordW t, wd1 t, wd2 t, wd3 t, wd4 t] := by
  obtain ⟨s0, s1, s2, s3, s4⟩ := cnt_four ht h
  rw [h]
  simp only [words, s0, s1, s2, s3, if_true]
  rw [wd4, (word_take (wordR (wordR (wordR (wordR t))))).2.2 s4]; rfl
theorem plRead_four {t : List Nat} (ht : ∀ x, x ∈ t → x < 256) (h : cntN t = 4) : plRead t = if wordW t = objL ∧ numB (wd1 t) 4294967296 = true ∧ numB (wd2 t) 2147483648 = true ∧ numB (wd3 t) 2147483648 = true ∧ numB (wd4 t) 2147483648 = true then some [(numN (wd1 t) : Int), (numN (wd2 t) : Int), (numN (wd3 t) : Int), (numN (wd4 t) : Int)] else none := by
  obtain ⟨s0, s1, s2, s3, s4⟩ := cnt_four ht h
  unfold plRead
  by_cases h0 : wordW t = objL
  · simp only [plK, s0, s1, s2, s3, s4, if_true, wd1, wd2, wd3, wd4, h0, true_and]
    by_cases b1 : numB (wordW (wordR t)) 4294967296 = true
    · by_cases b2 : numB (wordW (wordR (wordR t))) 2147483648 = true
      · by_cases b3 : numB (wordW (wordR (wordR (wordR t)))) 2147483648 = true
        · by_cases b4 : numB (wordW (wordR (wordR (wordR (wordR t))))) 2147483648 = true
          · simp [b1, b2, b3, b4, plOf]
          · simp [b1, b2, b3, b4, plOf]
        · simp [b1, b2, b3, plOf]
      · simp [b1, b2, plOf]
    · simp [b1, plOf]
  · rw [if_neg h0, if_neg (fun h' => h0 h'.1)]

end Go.Proofs.YtgoelfaemclioaaDoor

/-
  The library's numerals against the document's numbers.
-/
set_option maxRecDepth 100000
namespace Go.Proofs.YtgoelfaemclioaaDoor
open Go.RowKit

/-- The number that figures tell, without a bound. -/
def valF (t : List Nat) : Nat := t.foldl (fun n c => 10 * n + (c - 48)) 0
theorem valF_snoc (t : List Nat) (c : Nat) : valF (t ++ [c]) = 10 * valF t + (c - 48) := by unfold valF; rw [List.foldl_append]; rfl
theorem valF_from : ∀ (t : List Nat) (a : Nat), a ≤ t.foldl (fun n c => 10 * n + (c - 48)) a
  | [], a => Nat.le_refl _
  | c :: t, a => Nat.le_trans (show a ≤ 10 * a + (c - 48) by omega) (valF_from t _)
theorem puM_iff {M : Nat} : ∀ (t : List Nat) (a : Nat), a ≤ M → puM M a t = if (∀ x, x ∈ t → IsDig x) ∧ t.foldl (fun n c => 10 * n + (c - 48)) a ≤ M then some (t.foldl (fun n c => 10 * n + (c - 48)) a) else none
  | [], a, ha => by rw [if_pos ⟨(fun x hx => by cases hx), ha⟩]; rfl
  | c :: t, a, ha => by
    rw [puM]
    have hf := valF_from t (10 * a + (c - 48))
    by_cases hc : IsDig c
    · by_cases hle : a * 10 + (c - 48) ≤ M
      · rw [if_pos ⟨hc.1, hc.2, hle⟩, puM_iff t _ hle, show a * 10 + (c - 48) = 10 * a + (c - 48) by omega]
        rw [List.foldl_cons]
        by_cases h : (∀ x, x ∈ t → IsDig x) ∧ t.foldl (fun n c => 10 * n + (c - 48)) (10 * a + (c - 48)) ≤ M
        · rw [if_pos h, if_pos ⟨fun x hx => by
            rcases List.mem_cons.1 hx with rfl | hx
            · exact hc
            · exact h.1 x hx, h.2⟩]
        · rw [if_neg h, if_neg (fun h' => h ⟨fun x hx => h'.1 x (List.mem_cons_of_mem _ hx), h'.2⟩)]
      · rw [if_neg (fun h => hle h.2.2), if_neg (fun h => by have := h.2; rw [List.foldl_cons] at this; omega)]
    · rw [if_neg (fun h => hc ⟨h.1, h.2.1⟩), if_neg (fun h => hc (h.1 c List.mem_cons_self))]
theorem numV_min : ∀ (t : List Nat) (a : Nat), t.foldl (fun n c => min (10 * n + (c - 48)) 4294967296) (min a 4294967296) = min (t.foldl (fun n c => 10 * n + (c - 48)) a) 4294967296
  | [], a => rfl
  | c :: t, a => by
    rw [List.foldl_cons, List.foldl_cons, ← numV_min t]
    congr 1
    omega
theorem numV_val (t : List Nat) : numV t = min (valF t) 4294967296 := numV_min t 0
theorem dec_snoc {n : Nat} (h : ¬ n < 10) : decL (n : Int) = decL ((n / 10 : Nat) : Int) ++ [48 + n % 10] := by
  unfold decL
  rw [Lib.itoa_nonneg, Lib.itoa_nonneg, Lib.decDigits, dif_neg h, List.map_append]
  congr 1
  simp
  omega
theorem dec_one {n : Nat} (h : n < 10) : decL (n : Int) = [48 + n] := by
  unfold decL
  rw [Lib.itoa_nonneg, Lib.decDigits_one h]
  simp
  omega
theorem dec_ne (n : Nat) : decL (n : Int) ≠ [] := by
  by_cases h : n < 10
  · rw [dec_one h]; simp
  · rw [dec_snoc h]; simp
theorem dec_dig : ∀ (n : Nat) x, x ∈ decL (n : Int) → IsDig x := by
  intro n
  induction n using Nat.strongRecOn with
  | _ n ih =>
    intro x hx
    by_cases h : n < 10
    · rw [dec_one h] at hx
      obtain rfl : x = 48 + n := by simpa using hx
      exact ⟨by omega, by omega⟩
    · rw [dec_snoc h] at hx
      rcases List.mem_append.1 hx with hx | hx
      · exact ih (n / 10) (by omega) x hx
      · obtain rfl : x = 48 + n % 10 := by simpa using hx
        exact ⟨by omega, by omega⟩
theorem dec_val : ∀ n : Nat, valF (decL (n : Int)) = n := by
  intro n
  induction n using Nat.strongRecOn with
  | _ n ih =>
    by_cases h : n < 10
    · rw [dec_one h]; simp [valF]
    · rw [dec_snoc h, valF_snoc, ih (n / 10) (by omega)]; omega
theorem nth_app_zero {l : List Nat} (h : l ≠ []) (c : Nat) : nth (l ++ [c]) 0 = nth l 0 := by
  cases l with
  | nil => exact absurd rfl h
  | cons a l => rfl
/-- No needless nought. -/
theorem dec_head : ∀ n : Nat, 0 < n → nth (decL (n : Int)) 0 ≠ 48 := by
  intro n
  induction n using Nat.strongRecOn with
  | _ n ih =>
    intro hn
    by_cases h : n < 10
    · rw [dec_one h]; show 48 + n ≠ 48; omega
    · rw [dec_snoc h, nth_app_zero (dec_ne _)]; exact ih (n / 10) (by omega) (by omega)
theorem val_pos : ∀ (t : List Nat), t ≠ [] → (∀ x, x ∈ t → IsDig x) → nth t 0 ≠ 48 → 0 < valF t := by
  intro t h0 hd h1
  cases t with
  | nil => exact absurd rfl h0
  | cons c t =>
    have hc := (hd c List.mem_cons_self).1
    have h2 : c ≠ 48 := h1
    have := valF_from t (10 * 0 + (c - 48))
    unfold valF
    rw [List.foldl_cons]
    omega
/-- Figures without a needless nought are the numeral of their number. -/
theorem dec_of : ∀ (k : Nat) (t : List Nat), t.length = k → t ≠ [] → (∀ x, x ∈ t → IsDig x) → ¬ (1 < t.length ∧ nth t 0 = 48) → decL (valF t : Int) = t := by
  intro k
  induction k with
  | zero => intro t hk h0; exact absurd (List.length_eq_zero_iff.1 hk) h0
  | succ k ih =>
    intro t hk h0 hd hz
    rcases List.eq_nil_or_concat t with rfl | ⟨l, c, rfl⟩
    · exact absurd rfl h0
    · rw [List.concat_eq_append] at *
      have hc := hd c (by simp)
      have hc2 := hc.2
      have hc1 := hc.1
      by_cases hl : l = []
      · subst hl
        have : valF ([] ++ [c]) = c - 48 := by simp [valF]
        rw [this, dec_one (by omega)]
        simp
        omega
      · have hln : l.length ≠ 0 := fun h => hl (List.length_eq_zero_iff.1 h)
        have hz' : nth l 0 ≠ 48 := fun h => hz ⟨by simp; omega, by rw [nth_app_zero hl]; exact h⟩
        have hdl : ∀ x, x ∈ l → IsDig x := fun x hx => hd x (by simp [hx])
        have hp := val_pos l hl hdl hz'
        have h2 := ih l (by simpa using hk) hl hdl (fun h => hz' h.2)
        rw [valF_snoc, dec_snoc (by omega), show (10 * valF l + (c - 48)) / 10 = valF l by omega, show 48 + (10 * valF l + (c - 48)) % 10 = c by omega, h2]
theorem dig_all {t : List Nat} : (∀ i, i < t.length → IsDig (nth t i)) ↔ ∀ x, x ∈ t → IsDig x := by
  constructor
  · intro h x hx
    obtain ⟨i, hi, rfl⟩ := List.mem_iff_getElem.1 hx
    rw [← nth_eq t i hi]
    exact h i hi
  · intro h i hi
    rw [nth_eq t i hi]
    exact h _ (List.getElem_mem hi)
/-- A word is a number: just where the library reads it, and writes it again so. -/
theorem num_iff {t : List Nat} {M : Nat} {b : Int} (hM : (M : Int) + 1 = b) (hM2 : M < 4294967296) : numB t b = true ↔ ∃ n, puO M t = some n ∧ decL (n : Int) = t ∧ numN t = n := by
  unfold numB
  rw [decide_eq_true_iff]
  constructor
  · rintro ⟨hok, hv⟩
    obtain ⟨h0, hz, hd⟩ := hok
    have hd' := dig_all.1 hd
    have hval := numV_val t
    have hle : valF t ≤ M := by omega
    have hnv : numV t = valF t := by omega
    refine ⟨valF t, ?_, dec_of t.length t rfl h0 hd' hz, by unfold numN; rw [if_pos ⟨h0, hz, hd⟩, hnv]⟩
    unfold puO
    rw [if_neg h0, puM_iff t 0 (Nat.zero_le _), if_pos ⟨hd', hle⟩]; rfl
  · rintro ⟨n, hp, hdec, hn⟩
    unfold puO at hp
    by_cases h0 : t = []
    · rw [if_pos h0] at hp; cases hp
    rw [if_neg h0, puM_iff t 0 (Nat.zero_le _)] at hp
    by_cases h : (∀ x, x ∈ t → IsDig x) ∧ t.foldl (fun n c => 10 * n + (c - 48)) 0 ≤ M
    · rw [if_pos h] at hp
      have hval := numV_val t
      have hle : valF t ≤ M := h.2
      have hnz : ¬ (1 < t.length ∧ nth t 0 = 48) := by
        rintro ⟨h1, h2⟩
        by_cases hn0 : 0 < n
        · exact dec_head n hn0 (by rw [hdec]; exact h2)
        · obtain rfl : n = 0 := by omega
          rw [dec_one (by omega)] at hdec
          rw [← hdec] at h1
          simp at h1
      exact ⟨⟨h0, hnz, dig_all.2 h.1⟩, by omega⟩
    · rw [if_neg h] at hp; cases hp

end Go.Proofs.YtgoelfaemclioaaDoor
