/-
  Many bytes at once (layer 2) in the program: 'Dot', 'Zero'.
-/
import Derived.Test.YthgkejfmkigfcaaKernD
import Derived.Deep.RegionHeld3
set_option maxRecDepth 100000
namespace Go.Proofs.Ythgkejfmkigfcaa
open Go.RowKit

namespace Gf
/-- The sum of the products of the first k places. -/
def dotK (a b : List Nat) : Nat → Nat
  | 0 => 0
  | k + 1 => dotK a b k ^^^ mul (nth a k) (nth b k)
theorem dotK_lt {a : List Nat} (b : List Nat) (ha : ∀ x, x ∈ a → x < 256) : ∀ k, dotK a b k < 256
  | 0 => show 0 < 256 by decide
  | k + 1 => xor_lt (dotK_lt b ha k) (mul_lt (nth_lt ha k) _)
end Gf

theorem cell_keep {w w' : World} {p : Addr} {v : Value} (h : w.cell? p = some v) (hb : Below w.heap.size w w') : w'.cell? p = some v := by
  rw [hb.cell (World.block_lt_of_cell? w _ h)]; exact h

set_option maxHeartbeats 400000 in
theorem dot_some (b0 off0 c0 b1 off1 c1 : Nat) (x y : List Nat) (w : World) (hx : Bytes w (.slice (some ⟨b0, off0, none⟩) x.length c0) x) (hy : Bytes w (.slice (some ⟨b1, off1, none⟩) y.length c1) y) (hl : x.length = y.length) :
    Calls Try.prog 33 #[.slice (some ⟨b0, off0, none⟩) x.length c0, .slice (some ⟨b1, off1, none⟩) y.length c1] w fun e w' => e = .returned (.tuple #[U8 (Gf.dotK x y x.length), I64 0]) ∧ Below w.heap.size w w' := by
  have hb : ((x.length : Int) != (y.length : Int)) = false := by rw [hl]; simp
  have hcap : x.length ≤ 9223372036854775807 := by obtain ⟨_, _, _, h1, h2, _⟩ := hx; omega
  have hxl := hx.lt
  have hyl := hy.lt
  have hle : x.length ≤ y.length := by omega
  have HX := Lib.hid hx
  have HY := Lib.hid hy
  have HXL := Lib.hid hxl
  have HYL := Lib.hid hyl
  clear hx hy hl hxl hyl
  go_enter Try.func33, Try.ntmps33
  go_wp2_with fail
  go_loopw [6, 7, 15] (fun s _ i wr => ∃ k : Nat, k ≤ x.length ∧ i = .int .i64 k ∧ s = U8 (Gf.dotK x y k) ∧ Below w.heap.size w wr) (fun _ _ i _ => x.length - (intOf i).toNat)
  case atStart => exact ⟨0, by omega, rfl, rfl, Below.refl _ _⟩
  case round =>
    obtain ⟨k, hk, rfl, rfl, hbel⟩ := hrel
    have d1 := Gf.dotK_lt y HXL.out k
    by_cases hlt : k < x.length
    · have hcx := (HX.out.below (Nat.le_refl _) hbel).cell k hlt
      have hcy := (HY.out.below (Nat.le_refl _) hbel).cell k (by omega)
      have x1 := nth_lt HXL.out k
      have y1 := nth_lt HYL.out k
      have k0 : (0 : Int) ≤ (k : Int) := Int.natCast_nonneg _
      have k1 : (k : Int) < (x.length : Int) := by omega
      have k2 : (k : Int) < (y.length : Int) := by omega
      go_wp2_with fail
      go_region_held3 (fun w' => w'.cell? ⟨b0, off0 + k, none⟩ = some (U8 (nth x k)) ∧ w'.cell? ⟨b1, off1 + k, none⟩ = some (U8 (nth y k)))
        (first | go_keep | exact ⟨cell_keep hcx (by assumption), cell_keep hcy (by assumption)⟩)
        (first | (go_at_call 13; refine (mul2b (nth x k) (nth y k) _ _ _ wr (by rfl) x1 y1 (Below.refl _ _).drew).mono ?_; rintro e w3 ⟨rfl, hb3⟩) | (go_at_call 12; refine (add2b (Gf.dotK x y k) (Gf.mul (nth x k) (nth y k)) _ _ _ wr (by rfl) d1 (Gf.mul_lt x1 _) hb3).mono ?_; rintro e w4 ⟨rfl, hb4⟩))
      go_wp2_with fail
      go_roundw
      case rel => exact ⟨k + 1, by omega, by go_num, rfl, hbel.trans (hb4.mono hbel.size)⟩
      case measure => simp [intOf]; omega
    · obtain rfl : k = x.length := by omega
      go_wp2_with fail
      go_ret2
      exact ⟨rfl, hbel⟩

set_option maxHeartbeats 400000 in
theorem dot_empty (a0 a1 : Option Addr) (c0 c1 : Nat) (w : World) :
    Calls Try.prog 33 #[.slice a0 0 c0, .slice a1 0 c1] w fun e w' => e = .returned (.tuple #[U8 0, I64 0]) ∧ Below w.heap.size w w' := by
  go_enter Try.func33, Try.ntmps33
  go_wp2_with fail
  refine wp_loop_rounds 1 ?_
  rw [rounds_succ]
  go_wp2_with fail
  go_ret2
  exact ⟨rfl, Below.refl _ _⟩

set_option maxHeartbeats 400000 in
theorem dot_unlike (a0 a1 : Option Addr) (n0 n1 c0 c1 : Nat) (w : World) (hne : n0 ≠ n1) :
    Calls Try.prog 33 #[.slice a0 n0 c0, .slice a1 n1 c1] w fun e w' => e = .returned (.tuple #[U8 0, I64 4]) ∧ Below w.heap.size w w' := by
  have hb : ((n0 : Int) != (n1 : Int)) = true := by rw [bne_iff_ne]; omega
  clear hne
  go_enter Try.func33, Try.ntmps33
  go_wp2_with fail
  go_ret2
  exact ⟨rfl, Below.refl _ _⟩

/-- What Dot answers. -/
def dotV (x y : List Nat) : Nat := if x.length = y.length then Gf.dotK x y x.length else 0

theorem dot_any (v0 v1 : Value) (x y : List Nat) (w : World) (hx : Bytes w v0 x) (hy : Bytes w v1 y) :
    Calls Try.prog 33 #[v0, v1] w fun e w' => e = .returned (.tuple #[U8 (dotV x y), I64 (axpyE x y)]) ∧ Below w.heap.size w w' := by
  have hx0 := hx
  have hy0 := hy
  obtain ⟨a0, c0, rfl, _, _, _, g4⟩ := hx
  obtain ⟨a1, c1, rfl, _, _, _, h4⟩ := hy
  unfold dotV axpyE
  by_cases hl : x.length = y.length
  · rw [if_pos hl, if_pos hl]
    cases x with
    | nil =>
      have e : y.length = 0 := hl.symm
      rw [e]
      exact dot_empty a0 a1 c0 c1 w
    | cons z x =>
      obtain ⟨b0, off0, rfl, _, _⟩ := g4 (by simp)
      obtain ⟨b1, off1, rfl, _, _⟩ := h4 (by intro h; rw [h] at hl; simp at hl)
      exact dot_some b0 off0 c0 b1 off1 c1 _ y w hx0 hy0 hl
  · rw [if_neg hl, if_neg hl]
    exact dot_unlike a0 a1 _ _ c0 c1 w hl

/-! ### Zero -/

set_option maxHeartbeats 400000 in
theorem zero1_any (x : Nat) (w : World) :
    Calls Try.prog 43 #[U8 x] w fun e w' => e = .returned (.bool ((x : Int) != 0)) ∧ w = w' := by
  go_enter Try.func43, Try.ntmps43
  go_wp2_with fail
  go_ret
  exact ⟨rfl, rfl⟩

/-- Are all 0? -/
def zeroB (l : List Nat) : Bool := l.all fun x => x == 0

theorem zeroB_eq (l : List Nat) : (!zeroB l) = decide (∃ i, i < l.length ∧ nth l i ≠ 0) := by
  rw [Bool.eq_iff_iff]
  simp only [zeroB, Bool.not_eq_true', List.all_eq_false, beq_iff_eq, decide_eq_true_eq]
  constructor
  · rintro ⟨x, hx, hne⟩
    obtain ⟨i, hi, rfl⟩ := List.getElem_of_mem hx
    exact ⟨i, hi, by rw [nth_eq l i hi]; exact hne⟩
  · rintro ⟨i, hi, hne⟩
    exact ⟨l[i], List.getElem_mem hi, by rw [nth_eq l i hi] at hne; exact hne⟩

set_option maxHeartbeats 400000 in
theorem idxZero_empty (f : Value) (a : Option Addr) (cap : Nat) (w : World) :
    Calls Try.prog 47 #[.slice a 0 cap, f] w (Found false w) := by
  go_enter Try.func47, Try.ntmps47
  go_wp2
  refine wp_loop_rounds 1 ?_
  rw [rounds_succ]
  go_wp2
  go_ret
  exact ⟨-1, rfl, rfl, rfl⟩

set_option maxHeartbeats 400000 in
theorem idxZero_some (b off cap : Nat) (l : List Nat) (w : World) (hB : Bytes w (.slice (some ⟨b, off, none⟩) l.length cap) l) :
    Calls Try.prog 47 #[.slice (some ⟨b, off, none⟩) l.length cap, .func (Fn.func 43) #[] #[]] w (Found (!zeroB l) w) := by
  have hcap : l.length ≤ 9223372036854775807 := by obtain ⟨_, _, _, h1, h2, _⟩ := hB; omega
  have HB := Lib.hid hB
  have HA := Lib.hid (zeroB_eq l)
  clear hB
  go_enter Try.func47, Try.ntmps47
  go_wp2
  go_loop [5, 8] (fun _ i => ∃ k : Nat, k ≤ l.length ∧ i = .int .i64 k ∧ ∀ j, j < k → nth l j = 0) (fun _ i => l.length - (intOf i).toNat)
  case atStart => exact ⟨0, by omega, rfl, fun j hj => by omega⟩
  case round =>
    obtain ⟨k, hk, rfl, hno⟩ := hrel
    have HN := Lib.hid hno
    clear hno
    by_cases hlt : k < l.length
    · have hu := HB.out.cell k hlt
      by_cases hq : nth l k = 0
      · have hb : ((nth l k : Int) != 0) = false := by rw [hq]; rfl
        have HQ := Lib.hid hq
        clear hq
        go_wp2_with fail
        refine (zero1_any _ _).mono ?_
        rintro e w' ⟨rfl, rfl⟩
        rw [hb]
        go_wp2_with fail
        go_round
        case rel => exact ⟨k + 1, by omega, by go_num, fun j hj => by
          by_cases h : j = k
          · rw [h]; exact HQ.out
          · exact HN.out j (by omega)⟩
        case measure => simp [intOf]; omega
      · have hb : ((nth l k : Int) != 0) = true := by rw [bne_iff_ne]; omega
        have HF : Hid ((!zeroB l) = true) := Lib.hid (by rw [HA.out, decide_eq_true_eq]; exact ⟨k, hlt, hq⟩)
        clear hq
        go_wp2_with fail
        refine (zero1_any _ _).mono ?_
        rintro e w' ⟨rfl, rfl⟩
        rw [hb]
        go_wp2_with fail
        go_ret
        exact ⟨k, rfl, by rw [HF.out]; simp, rfl⟩
    · have HF : Hid ((!zeroB l) = false) := Lib.hid (by
        rw [HA.out, decide_eq_false_iff_not]
        rintro ⟨i, hi, hne⟩
        exact hne (HN.out i (by omega)))
      go_wp2_with fail
      go_ret
      exact ⟨-1, rfl, by rw [HF.out]; decide, rfl⟩

set_option maxHeartbeats 400000 in
theorem hasZero_any (v f : Value) (t : Bool) (w : World) (h : Calls Try.prog 47 #[v, f] w (Found t w)) :
    Calls Try.prog 42 #[v, f] w fun e w' => e = .returned (.bool t) ∧ w = w' := by
  have H := Lib.hid h
  clear h
  go_enter Try.func42, Try.ntmps42
  go_wp2_with fail
  refine H.out.mono ?_
  rintro e w' ⟨r, rfl, ht, rfl⟩
  go_wp2_with fail
  go_ret
  exact ⟨rfl, rfl⟩

set_option maxHeartbeats 400000 in
theorem zero_of (v : Value) (t : Bool) (w : World) (h : Calls Try.prog 47 #[v, .func (Fn.func 43) #[] #[]] w (Found (!t) w)) :
    Calls Try.prog 30 #[v] w fun e w' => e = .returned (.bool t) ∧ w = w' := by
  have hmf : ∀ (fn : Fn) (first cap : Array Value) (w : World), (Instr.makeFunc fn first cap).run Try.prog w = .ok (.func fn first cap) w := fun _ _ _ _ => rfl
  have H := Lib.hid (hasZero_any _ _ _ _ h)
  clear h
  go_enter Try.func30, Try.ntmps30
  go_wp2_with fail
  refine H.out.mono ?_
  rintro e w' ⟨rfl, rfl⟩
  go_wp2_with fail
  go_ret
  exact ⟨by simp, rfl⟩

theorem zero_any (v : Value) (l : List Nat) (w : World) (hB : Bytes w v l) :
    Calls Try.prog 30 #[v] w fun e w' => e = .returned (.bool (zeroB l)) ∧ w = w' := by
  have hB0 := hB
  obtain ⟨a, cap, rfl, _, _, _, h4⟩ := hB
  cases l with
  | nil => exact zero_of _ true w (idxZero_empty _ a cap w)
  | cons x l =>
    obtain ⟨b, off, rfl, _, _⟩ := h4 (by simp)
    exact zero_of _ _ w (idxZero_some b off cap _ w hB0)

end Go.Proofs.Ythgkejfmkigfcaa
