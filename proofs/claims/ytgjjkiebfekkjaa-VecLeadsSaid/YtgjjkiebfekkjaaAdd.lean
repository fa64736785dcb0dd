/-
  field.Add and field.Mul, of as many bytes as one likes.
-/
import Derived.Test.YtgjjkiebfekkjaaBytes
set_option maxRecDepth 100000
namespace Go.Proofs.Ytgjjkiebfekkjaa
open Go.RowKit

namespace Gf
def sum (l : List Nat) : Nat := l.foldl (· ^^^ ·) 0
def prod (l : List Nat) : Nat := l.foldl mul 1

theorem sum_snoc (l : List Nat) (x : Nat) : sum (l ++ [x]) = sum l ^^^ x := by simp [sum]
theorem prod_snoc (l : List Nat) (x : Nat) : prod (l ++ [x]) = mul (prod l) x := by simp [prod]

theorem foldl_xor_lt : ∀ (l : List Nat) (s : Nat), s < 256 → (∀ x, x ∈ l → x < 256) → l.foldl (· ^^^ ·) s < 256
  | [], _, h, _ => h
  | x :: l, s, h, hl => foldl_xor_lt l (s ^^^ x) (xor_lt h (hl x (by simp))) (fun y hy => hl y (by simp [hy]))
theorem sum_lt {l : List Nat} (h : ∀ x, x ∈ l → x < 256) : sum l < 256 := foldl_xor_lt l 0 (by decide) h
theorem foldl_mul_lt : ∀ (l : List Nat) (s : Nat), s < 256 → l.foldl mul s < 256
  | [], _, h => h
  | x :: l, s, h => foldl_mul_lt l (mul s x) (mul_lt h x)
theorem prod_lt (l : List Nat) : prod l < 256 := foldl_mul_lt l 1 (by decide)
theorem prod_cons {x : Nat} (hx : x < 256) (l : List Nat) : prod (x :: l) = l.foldl mul x := by simp [prod, one_mul hx]
end Gf

set_option maxHeartbeats 400000 in
theorem add_empty (a : Option Addr) (cap : Nat) (w : World) :
    Calls Try.prog 43 #[.slice a 0 cap] w fun e w' => e = .returned (U8 0) ∧ w = w' := by
  go_enter Try.func43, Try.ntmps43
  go_wp2
  refine wp_loop_rounds 1 ?_
  rw [rounds_succ]
  go_wp2
  go_ret
  exact ⟨rfl, rfl⟩

set_option maxHeartbeats 400000 in
theorem add_some (b off cap : Nat) (l : List Nat) (w : World) (hl : l.length ≤ 9223372036854775807) (hlt : ∀ x, x ∈ l → x < 256) (hc : ∀ i, i < l.length → w.cell? ⟨b, off + i, none⟩ = some (U8 (nth l i))) :
    Calls Try.prog 43 #[.slice (some ⟨b, off, none⟩) l.length cap] w fun e w' => e = .returned (U8 (Gf.sum l)) ∧ w = w' := by
  go_enter Try.func43, Try.ntmps43
  go_wp2
  have HC := Lib.hid hc
  have HL := Lib.hid hlt
  clear hc hlt
  go_loop [3, 8] (fun s i => ∃ k : Nat, k ≤ l.length ∧ i = .int .i64 k ∧ s = U8 (Gf.sum (l.take k))) (fun _ i => l.length - (intOf i).toNat)
  case atStart => exact ⟨0, by omega, rfl, rfl⟩
  case round =>
    obtain ⟨k, hk, rfl, rfl⟩ := hrel
    by_cases hlt : k < l.length
    · have hcell := HC.out k hlt
      have x1 := nth_lt HL.out k
      have x2 : Gf.sum (l.take k) < 256 := Gf.sum_lt fun x hx => HL.out x (List.mem_of_mem_take hx)
      have HS : Hid (bits BinOp.xor IntKind.u8 (Gf.sum (l.take k) : Int) (nth l k : Int) = (Gf.sum (l.take (k + 1)) : Int)) := by
        rw [u8_xor_nat _ _ x2 x1, take_nth l k hlt, Gf.sum_snoc]; rfl
      go_wp2
      go_round
      case rel => exact ⟨k + 1, by omega, by go_num, u8_eq HS.out⟩
      case measure => simp [intOf]; omega
    · go_wp2
      go_ret
      exact ⟨by rw [List.take_of_length_le (by omega)]; rfl, rfl⟩

theorem add_any (v : Value) (l : List Nat) (w : World) (h : Bytes w v l) :
    Calls Try.prog 43 #[v] w fun e w' => e = .returned (U8 (Gf.sum l)) ∧ w = w' := by
  obtain ⟨a, cap, rfl, h1, h2, h3, h4⟩ := h
  cases l with
  | nil => exact add_empty a cap w
  | cons x l =>
    obtain ⟨b, off, rfl, _, hc⟩ := h4 (by simp)
    exact add_some b off cap _ w (by omega) h3 hc

set_option maxHeartbeats 400000 in
theorem mul_empty (a : Option Addr) (cap : Nat) (w : World) :
    Calls Try.prog 41 #[.slice a 0 cap] w fun e w' => e = .returned (U8 1) ∧ w = w' := by
  go_enter Try.func41, Try.ntmps41
  go_wp2
  go_ret
  exact ⟨rfl, rfl⟩

set_option maxHeartbeats 400000 in
theorem mul_one_byte (b off cap : Nat) (x : Nat) (w : World) (h1 : 1 ≤ cap) (h2 : cap ≤ 9223372036854775807) (hc : w.cell? ⟨b, off, none⟩ = some (U8 x)) :
    Calls Try.prog 41 #[.slice (some ⟨b, off, none⟩) 1 cap] w fun e w' => e = .returned (U8 x) ∧ w = w' := by
  go_enter Try.func41, Try.ntmps41
  by_cases hcap : cap = 1
  · subst hcap
    go_wp2
    refine wp_loop_rounds 1 ?_
    rw [rounds_succ]
    go_wp2
    go_ret
    exact ⟨rfl, rfl⟩
  · go_wp2
    refine wp_loop_rounds 1 ?_
    rw [rounds_succ]
    go_wp2
    go_ret
    exact ⟨rfl, rfl⟩

set_option maxHeartbeats 400000 in
theorem mul_more (b off cap : Nat) (x : Nat) (l : List Nat) (w : World) (hn : 1 ≤ l.length) (h1 : l.length + 1 ≤ cap) (h2 : cap ≤ 9223372036854775807) (hx : x < 256) (hlt : ∀ y, y ∈ l → y < 256)
    (h0 : w.cell? ⟨b, off, none⟩ = some (U8 x)) (hc : ∀ i, i < l.length → w.cell? ⟨b, off + 1 + i, none⟩ = some (U8 (nth l i))) :
    Calls Try.prog 41 #[.slice (some ⟨b, off, none⟩) (l.length + 1) cap] w fun e w' => e = .returned (U8 (l.foldl Gf.mul x)) ∧ w = w' := by
  have HC := Lib.hid hc
  have HL := Lib.hid hlt
  clear hc hlt
  have hcap : ¬ cap = 1 := by omega
  have hb0 : ((l.length : Int) + 1 == 0) = false := beq_eq_false_iff_ne.2 (by omega)
  go_enter Try.func41, Try.ntmps41
  go_wp2
  go_loop [3, 15] (fun s i => ∃ k : Nat, k ≤ l.length ∧ i = .int .i64 k ∧ s = U8 ((l.take k).foldl Gf.mul x)) (fun _ i => l.length - (intOf i).toNat)
  case atStart => exact ⟨0, by omega, rfl, rfl⟩
  case round =>
    obtain ⟨k, hk, rfl, rfl⟩ := hrel
    by_cases hlt : k < l.length
    · have hcell := HC.out k hlt
      have x1 := nth_lt HL.out k
      have x2 : (l.take k).foldl Gf.mul x < 256 := Gf.foldl_mul_lt _ _ hx
      have HS : Hid (Gf.mul ((l.take k).foldl Gf.mul x) (nth l k) = (l.take (k + 1)).foldl Gf.mul x) := by
        rw [take_nth l k hlt, List.foldl_append]; rfl
      go_wp2_with fail
      refine (times_any _ _ _ x2 x1).mono ?_
      rintro e w' ⟨rfl, rfl⟩
      go_wp2
      go_round
      case rel => exact ⟨k + 1, by omega, by go_num, by rw [HS.out]⟩
      case measure => simp [intOf]; omega
    · go_wp2
      go_ret
      exact ⟨by rw [List.take_of_length_le (by omega)]; rfl, rfl⟩

theorem mul_any (v : Value) (l : List Nat) (w : World) (h : Bytes w v l) :
    Calls Try.prog 41 #[v] w fun e w' => e = .returned (U8 (Gf.prod l)) ∧ w = w' := by
  obtain ⟨a, cap, rfl, h1, h2, h3, h4⟩ := h
  cases l with
  | nil => exact mul_empty a cap w
  | cons x l =>
    obtain ⟨b, off, rfl, _, hc⟩ := h4 (by simp)
    rw [Gf.prod_cons (h3 x (by simp))]
    cases l with
    | nil => exact mul_one_byte b off cap x w h1 h2 (hc 0 (by simp))
    | cons y l =>
      refine mul_more b off cap x (y :: l) w (by simp) h1 h2 (h3 x (by simp)) (fun z hz => h3 z (by simp [hz])) (hc 0 (by simp)) (fun i hi => ?_)
      have := hc (i + 1) (by simpa using hi)
      rwa [Nat.add_comm i 1, ← Nat.add_assoc, Nat.add_comm 1 i] at this

end Go.Proofs.Ytgjjkiebfekkjaa
