/-
  The statements of layer 1 (field), walked: sums and products of any bytes.
-/
import Derived.Test.YthgkejfmkigfcaaLawOne
set_option maxRecDepth 100000
namespace Go.Proofs.Ythgkejfmkigfcaa
open Go.RowKit

set_option maxHeartbeats 400000 in
theorem fieldReckons_long (a : Option Addr) (n cap : Nat) (w : World) (hn : 200 < n) (hm : n ≤ 9223372036854775807) :
    Calls Try.prog 3 #[.slice a n cap] w fun e w' => e = .returned (.bool true) ∧ Below w.heap.size w w' := by
  go_enter Try.func3, Try.ntmps3
  go_wp2_with fail
  refine (awake1_any _).mono ?_
  rintro e w' ⟨rfl, hb⟩
  go_wp2_with fail
  go_ret
  exact ⟨rfl, hb⟩

set_option maxHeartbeats 400000 in
theorem fieldReckons_empty (a : Option Addr) (cap : Nat) (w : World) (hB : ∀ w', Bytes w' (.slice a 0 cap) []) :
    Calls Try.prog 3 #[.slice a 0 cap] w fun e w' => e = .returned (.bool true) ∧ Below w.heap.size w w' := by
  have HB := Lib.hid hB
  clear hB
  go_enter Try.func3, Try.ntmps3
  go_wp2_with fail
  refine (awake1_any _).mono ?_
  rintro e w' ⟨rfl, hb⟩
  go_wp2_with fail
  refine wp_loop_rounds 1 ?_
  rw [rounds_succ]
  go_wp2_with fail
  refine (add_any _ _ _ (HB.out _)).mono ?_
  rintro e w' ⟨rfl, rfl⟩
  rw [show Gf.sum [] = 0 from rfl]
  go_wp2_with fail
  refine (mul_any _ _ _ (HB.out _)).mono ?_
  rintro e w' ⟨rfl, rfl⟩
  rw [show Gf.prod [] = 1 from rfl]
  go_wp2_with fail
  go_ret
  exact ⟨rfl, hb⟩

set_option maxHeartbeats 400000 in
theorem fieldReckons_some (b off cap : Nat) (l : List Nat) (w : World) (hl : l.length ≤ 200) (hB : Bytes w (.slice (some ⟨b, off, none⟩) l.length cap) l) :
    Calls Try.prog 3 #[.slice (some ⟨b, off, none⟩) l.length cap] w fun e w' => e = .returned (.bool true) ∧ Below w.heap.size w w' := by
  have HB := Lib.hid hB
  clear hB
  have hd : decide ((200 : Int) < (l.length : Int)) = false := by simp; omega
  go_enter Try.func3, Try.ntmps3
  go_wp2_with fail
  refine (awake1_any _).mono ?_
  rintro e w1 ⟨rfl, hb⟩
  have HB1 := Lib.hid (HB.out.below (Nat.le_refl _) hb)
  go_wp2_with fail
  go_loop [3, 4, 14] (fun s p i => ∃ k : Nat, k ≤ l.length ∧ i = .int .i64 k ∧ s = U8 (Gf.sum (l.take k)) ∧ p = U8 (Gf.prod (l.take k))) (fun _ _ i => l.length - (intOf i).toNat)
  case atStart => exact ⟨0, by omega, rfl, rfl, rfl⟩
  case round =>
    obtain ⟨k, hk, rfl, rfl, rfl⟩ := hrel
    by_cases hlt : k < l.length
    · have hcell := HB1.out.cell k hlt
      have x1 := nth_lt HB1.out.lt k
      have x2 : Gf.sum (l.take k) < 256 := Gf.sum_lt fun x hx => HB1.out.lt x (List.mem_of_mem_take hx)
      have x3 := Gf.prod_lt (l.take k)
      have HS : Hid (bits BinOp.xor IntKind.u8 (Gf.sum (l.take k) : Int) (nth l k : Int) = (Gf.sum (l.take (k + 1)) : Int)) := Lib.hid (by
        rw [u8_xor_nat _ _ x2 x1, take_nth l k hlt, Gf.sum_snoc])
      have HP : Hid (Gf.mul (Gf.prod (l.take k)) (nth l k) = Gf.prod (l.take (k + 1))) := Lib.hid (by
        rw [take_nth l k hlt, Gf.prod_snoc])
      go_wp2_with fail
      refine (refmul_any _ _ _ x3).mono ?_
      rintro e w' ⟨rfl, rfl⟩
      rw [HP.out]
      go_wp2_with fail
      go_round
      case rel => exact ⟨k + 1, by omega, by go_num, u8_eq HS.out, rfl⟩
      case measure => simp [intOf]; omega
    · have hk' : k = l.length := by omega
      have HT : Hid (l.take k = l) := Lib.hid (List.take_of_length_le (by omega))
      clear hk'
      go_wp2_with fail
      refine (add_any _ _ _ HB1.out).mono ?_
      rintro e w' ⟨rfl, rfl⟩
      rw [HT.out]
      go_wp2_with fail
      refine (mul_any _ _ _ HB1.out).mono ?_
      rintro e w' ⟨rfl, rfl⟩
      go_wp2_with fail
      go_ret
      exact ⟨rfl, hb⟩

theorem fieldReckons_walk (v : Value) (l : List Nat) (w : World) (hB : Bytes w v l) :
    Calls Try.prog 3 #[v] w fun e w' => e = .returned (.bool true) ∧ Below w.heap.size w w' := by
  have hB0 := hB
  obtain ⟨a, cap, rfl, h1, h2, h3, h4⟩ := hB
  by_cases hl : l.length ≤ 200
  · cases l with
    | nil => exact fieldReckons_empty a cap w fun w' => ⟨a, cap, rfl, h1, h2, h3, fun h => absurd rfl h⟩
    | cons x l =>
      obtain ⟨b, off, rfl, _, _⟩ := h4 (by simp)
      exact fieldReckons_some b off cap _ w hl hB0
  · exact fieldReckons_long a _ cap w (by omega) (by omega)

end Go.Proofs.Ythgkejfmkigfcaa
