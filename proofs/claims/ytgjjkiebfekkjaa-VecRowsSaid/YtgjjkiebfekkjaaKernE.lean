/-
  Many bytes at once (layer 2) in the program: 'Dot', 'Zero'.
-/
import Derived.Test.YtgjjkiebfekkjaaKernD
import Derived.Test.YtgjjkiebfekkjaaBlk
import Derived.Deep.RegionHeld3
set_option maxRecDepth 100000
namespace Go.Proofs.Ytgjjkiebfekkjaa
open Go.RowKit

namespace Gf
/-- The sum of the products of the first k places. -/
def dotK (a b : List Nat) : Nat → Nat
  | 0 => 0
  | k + 1 => dotK a b k ^^^ mul (nth a k) (nth b k)
theorem dotK_lt {a : List Nat} (b : List Nat) (ha : ∀ x, x ∈ a → x < 256) : ∀ k, dotK a b k < 256
  | 0 => show 0 < 256 by decide
  | k + 1 => xor_lt (dotK_lt b ha k) (mul_lt (nth_lt ha k) _)
end Gf

/-- What Dot answers. -/
def dotV (x y : List Nat) : Nat := if x.length = y.length then Gf.dotK x y x.length else 0

/-! ### Zero -/

set_option maxHeartbeats 400000 in
theorem zero1_any (x : Nat) (w : World) :
    Calls Try.prog 37 #[U8 x] w fun e w' => e = .returned (.bool ((x : Int) != 0)) ∧ w = w' := by
  go_enter Try.func37, Try.ntmps37
  go_wp2_with fail
  go_ret
  exact ⟨rfl, rfl⟩

/-- Are all 0? -/
def zeroB (l : List Nat) : Bool := l.all fun x => x == 0

theorem zeroB_eq (l : List Nat) : (!zeroB l) = decide (∃ i, i < l.length ∧ nth l i ≠ 0) := by
  rw [Bool.eq_iff_iff]
  simp only [zeroB, Bool.not_eq_true', List.all_eq_false, beq_iff_eq, decide_eq_true_eq]
  constructor
  · rintro ⟨x, hx, hne⟩
    obtain ⟨i, hi, rfl⟩ := List.getElem_of_mem hx
    exact ⟨i, hi, by rw [nth_eq l i hi]; exact hne⟩
  · rintro ⟨i, hi, hne⟩
    exact ⟨l[i], List.getElem_mem hi, by rw [nth_eq l i hi] at hne; exact hne⟩

set_option maxHeartbeats 400000 in
theorem idxZero_empty (f : Value) (a : Option Addr) (cap : Nat) (w : World) :
    Calls Try.prog 42 #[.slice a 0 cap, f] w (Found false w) := by
  go_enter Try.func42, Try.ntmps42
  go_wp2
  refine wp_loop_rounds 1 ?_
  rw [rounds_succ]
  go_wp2
  go_ret
  exact ⟨-1, rfl, rfl, rfl⟩

set_option maxHeartbeats 400000 in
theorem idxZero_some (b off cap : Nat) (l : List Nat) (w : World) (hB : Bytes w (.slice (some ⟨b, off, none⟩) l.length cap) l) :
    Calls Try.prog 42 #[.slice (some ⟨b, off, none⟩) l.length cap, .func (Fn.func 37) #[] #[]] w (Found (!zeroB l) w) := by
  have hcap : l.length ≤ 9223372036854775807 := by obtain ⟨_, _, _, h1, h2, _⟩ := hB; omega
  have HB := Lib.hid hB
  have HA := Lib.hid (zeroB_eq l)
  clear hB
  go_enter Try.func42, Try.ntmps42
  go_wp2
  go_loop [5, 8] (fun _ i => ∃ k : Nat, k ≤ l.length ∧ i = .int .i64 k ∧ ∀ j, j < k → nth l j = 0) (fun _ i => l.length - (intOf i).toNat)
  case atStart => exact ⟨0, by omega, rfl, fun j hj => by omega⟩
  case round =>
    obtain ⟨k, hk, rfl, hno⟩ := hrel
    have HN := Lib.hid hno
    clear hno
    by_cases hlt : k < l.length
    · have hu := HB.out.cell k hlt
      by_cases hq : nth l k = 0
      · have hb : ((nth l k : Int) != 0) = false := by rw [hq]; rfl
        have HQ := Lib.hid hq
        clear hq
        go_wp2_with fail
        refine (zero1_any _ _).mono ?_
        rintro e w' ⟨rfl, rfl⟩
        rw [hb]
        go_wp2_with fail
        go_round
        case rel => exact ⟨k + 1, by omega, by go_num, fun j hj => by
          by_cases h : j = k
          · rw [h]; exact HQ.out
          · exact HN.out j (by omega)⟩
        case measure => simp [intOf]; omega
      · have hb : ((nth l k : Int) != 0) = true := by rw [bne_iff_ne]; omega
        have HF : Hid ((!zeroB l) = true) := Lib.hid (by rw [HA.out, decide_eq_true_eq]; exact ⟨k, hlt, hq⟩)
        clear hq
        go_wp2_with fail
        refine (zero1_any _ _).mono ?_
        rintro e w' ⟨rfl, rfl⟩
        rw [hb]
        go_wp2_with fail
        go_ret
        exact ⟨k, rfl, by rw [HF.out]; simp, rfl⟩
    · have HF : Hid ((!zeroB l) = false) := Lib.hid (by
        rw [HA.out, decide_eq_false_iff_not]
        rintro ⟨i, hi, hne⟩
        exact hne (HN.out i (by omega)))
      go_wp2_with fail
      go_ret
      exact ⟨-1, rfl, by rw [HF.out]; decide, rfl⟩

set_option maxHeartbeats 400000 in
theorem hasZero_any (v f : Value) (t : Bool) (w : World) (h : Calls Try.prog 42 #[v, f] w (Found t w)) :
    Calls Try.prog 36 #[v, f] w fun e w' => e = .returned (.bool t) ∧ w = w' := by
  have H := Lib.hid h
  clear h
  go_enter Try.func36, Try.ntmps36
  go_wp2_with fail
  refine H.out.mono ?_
  rintro e w' ⟨r, rfl, ht, rfl⟩
  go_wp2_with fail
  go_ret
  exact ⟨rfl, rfl⟩

set_option maxHeartbeats 400000 in
theorem zero_of (v : Value) (t : Bool) (w : World) (h : Calls Try.prog 42 #[v, .func (Fn.func 37) #[] #[]] w (Found (!t) w)) :
    Calls Try.prog 26 #[v] w fun e w' => e = .returned (.bool t) ∧ w = w' := by
  have hmf : ∀ (fn : Fn) (first cap : Array Value) (w : World), (Instr.makeFunc fn first cap).run Try.prog w = .ok (.func fn first cap) w := fun _ _ _ _ => rfl
  have H := Lib.hid (hasZero_any _ _ _ _ h)
  clear h
  go_enter Try.func26, Try.ntmps26
  go_wp2_with fail
  refine H.out.mono ?_
  rintro e w' ⟨rfl, rfl⟩
  go_wp2_with fail
  go_ret
  exact ⟨by simp, rfl⟩

theorem zero_any (v : Value) (l : List Nat) (w : World) (hB : Bytes w v l) :
    Calls Try.prog 26 #[v] w fun e w' => e = .returned (.bool (zeroB l)) ∧ w = w' := by
  have hB0 := hB
  obtain ⟨a, cap, rfl, _, _, _, h4⟩ := hB
  cases l with
  | nil => exact zero_of _ true w (idxZero_empty _ a cap w)
  | cons x l =>
    obtain ⟨b, off, rfl, _, _⟩ := h4 (by simp)
    exact zero_of _ _ w (idxZero_some b off cap _ w hB0)

end Go.Proofs.Ytgjjkiebfekkjaa
