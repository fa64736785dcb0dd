/-
  Bytes out of a seed (layer 5) in the program: 'Put', 'Seed'.
-/
import Derived.Test.YtobhlfkmdhoncaaMixB
import Derived.Test.YtobhlfkmdhoncaaRefMixB
set_option maxRecDepth 100000
namespace Go.Proofs.Ytobhlfkmdhoncaa
open Go.RowKit

/-- What stands in the eight bytes behind k of them. -/
def putPart (s k : Nat) : List Nat := List.replicate (8 - k) 0 ++ putB s k
theorem putPart_length {s k : Nat} (h : k ≤ 8) : (putPart s k).length = 8 := by unfold putPart; simp [putB_length]; omega
theorem putPart_succ {s k : Nat} (h : k < 8) : (putPart s k).set (7 - k) (s / 256 ^ k % 256) = putPart s (k + 1) := by
  unfold putPart
  rw [show 8 - k = (7 - k) + 1 from by omega, List.replicate_succ', List.append_assoc, List.set_append_right _ _ (by simp), List.length_replicate, Nat.sub_self,
    show 8 - (k + 1) = 7 - k from by omega]
  rfl

theorem put_spell {s k : Nat} : ((s : Int) / 2 ^ (8 * k)) % 256 = ((s / 256 ^ k % 256 : Nat) : Int) := by
  rw [show (256 : Nat) ^ k = 2 ^ (8 * k) by rw [show (256 : Nat) = 2 ^ 8 from rfl, ← Nat.pow_mul]]
  simp

set_option maxHeartbeats 400000 in
theorem mixput_any (s : Nat) (w : World) :
    Calls Try.prog 21 #[U64 s] w (BytesV w (putB s 8)) := by
  have hmk : (Instr.makeSlice 31 (.int .i64 8) (.int .i64 8)).run Try.prog w = .ok (whole w.heap.size 8) (w.alloc (bytesObj (List.replicate 8 0))) := make_bytes 8 (by omega) w
  go_enter Try.func21, Try.ntmps21
  go_wp2_with fail
  have HO0 := Lib.hid (Own.new w (List.replicate 8 0))
  have HG0 := Lib.hid ((Below.refl w.heap.size w).alloc (Nat.le_refl _) (bytesObj (List.replicate 8 0)))
  go_loopw [4, 6] (fun _ i wr => ∃ k : Nat, k ≤ 8 ∧ i = .int .i64 k ∧ Own wr w.heap.size (putPart s k) ∧ Below w.heap.size w wr) (fun _ i _ => 8 - (intOf i).toNat)
  case atStart => exact ⟨0, by omega, rfl, HO0.out, HG0.out⟩
  case round =>
    obtain ⟨k, hk, rfl, hown, hbel⟩ := hrel
    have HO := Lib.hid hown
    clear hown
    by_cases hlt : k < 8
    · have hfree := HO.out.free (7 - k)
      have hcell := HO.out.cell (7 - k) (by rw [putPart_length hk]; omega)
      go_wp2_with fail
      rw [put_spell]
      exact ⟨⟨k + 1, hlt, by go_num, by rw [← putPart_succ hlt]; exact HO.out.set (7 - k) _, hbel.setCell (Nat.le_refl _) _⟩, by simp [intOf]; omega⟩
    · obtain rfl : k = 8 := by omega
      have HOE := Lib.hid (show Own wr w.heap.size (putB s 8) from HO.out)
      go_wp2_with fail
      go_ret
      exact ⟨_, rfl, HOE.out.bytes (putB_lt s 8) (by rw [putB_length]; decide), hbel⟩

/-- The number that bytes spell behind another one, the highest first. -/
def sd (a : Nat) : List Nat → Nat
  | [] => a
  | x :: l => sd (a * 256 + x) l
theorem sd_snoc (x : Nat) : ∀ (a : Nat) (l : List Nat), sd a (l ++ [x]) = sd a l * 256 + x
  | _, [] => rfl
  | a, y :: l => sd_snoc x (a * 256 + y) l
theorem sd_lt : ∀ {l : List Nat}, (∀ x, x ∈ l → x < 256) → ∀ a, sd a l < (a + 1) * 256 ^ l.length
  | [], _, a => by simp [sd]
  | x :: l, h, a => by
    have h1 := sd_lt (l := l) (fun y hy => h y (List.mem_cons_of_mem _ hy)) (a * 256 + x)
    have h2 : (a * 256 + x + 1) * 256 ^ l.length ≤ (a + 1) * 256 * 256 ^ l.length := Nat.mul_le_mul_right _ (by have := h x (by simp); omega)
    rw [List.length_cons, Nat.pow_succ, Nat.mul_comm (256 ^ l.length), ← Nat.mul_assoc]
    exact Nat.lt_of_lt_of_le h1 h2
theorem sd_add : ∀ (a : Nat) (l : List Nat), sd a l = a * 256 ^ l.length + sd 0 l
  | a, [] => by simp [sd]
  | a, x :: l => by
    show sd (a * 256 + x) l = a * 256 ^ (l.length + 1) + sd (0 * 256 + x) l
    rw [sd_add (a * 256 + x) l, sd_add (0 * 256 + x) l, Nat.pow_succ, Nat.zero_mul, Nat.zero_add, Nat.add_mul, Nat.mul_comm (256 ^ l.length), Nat.mul_assoc]
    omega
theorem sd_put (s : Nat) : ∀ k a, sd a (putB s k) = a * 256 ^ k + s % 256 ^ k
  | 0, a => by simp [sd, putB, Nat.mod_one]
  | k + 1, a => by
    show sd (a * 256 + s / 256 ^ k % 256) (putB s k) = _
    rw [sd_put s k, Nat.pow_succ, Nat.mod_mul, Nat.add_mul, Nat.mul_comm (256 ^ k) 256, Nat.mul_assoc, Nat.mul_comm (s / 256 ^ k % 256)]
    omega
theorem put_sd : ∀ {l : List Nat}, (∀ x, x ∈ l → x < 256) → ∀ a, putB (sd a l) l.length = l
  | [], _, _ => rfl
  | x :: l, h, a => by
    have h1 := put_sd (l := l) (fun y hy => h y (by simp [hy])) (a * 256 + x)
    have h2 := sd_lt (l := l) (fun y hy => h y (by simp [hy])) 0
    have hx := h x (by simp)
    show sd (a * 256 + x) l / 256 ^ l.length % 256 :: putB (sd (a * 256 + x) l) l.length = x :: l
    rw [h1]
    congr 1
    rw [sd_add, Nat.mul_comm, Nat.mul_add_div (Nat.pow_pos (by decide)), Nat.div_eq_of_lt (by omega)]
    omega

theorem seed_spell {y x k : Nat} (hy : y < 256 ^ k) (hk : k < 8) (hx : x < 256) : Go.bits BinOp.or IntKind.u64 (IntKind.u64.wrap ((y : Int) * 256)) (x : Int) = ((y * 256 + x : Nat) : Int) := by
  have h2 : y < 256 ^ 7 := Nat.lt_of_lt_of_le hy (Nat.pow_le_pow_right (by decide) (by omega))
  have h3 : y * 256 < 18446744073709551616 := by have : (256 : Nat) ^ 7 = 72057594037927936 := by decide
                                                 omega
  rw [show IntKind.u64.wrap ((y : Int) * 256) = ((y * 256 : Nat) : Int) by rw [IntKind.wrap_u64]; omega, u64_or_nat _ _ h3 (by omega), Nat.mul_comm y 256, show (256 : Nat) = 2 ^ 8 from rfl, Nat.two_pow_add_eq_or_of_lt (by exact hx) y]

/-- What Seed answers. -/
def seedN (l : List Nat) : Nat := if l.length = 8 then sd 0 l else 0
def seedE (l : List Nat) : Int := if l.length = 8 then 0 else 4

set_option maxHeartbeats 400000 in
theorem mixseed_no (a : Option Addr) (n cap : Nat) (w : World) (h : n ≠ 8) :
    Calls Try.prog 20 #[.slice a n cap] w fun e w' => e = .returned (.tuple #[U64 0, .int .i64 4]) ∧ w = w' := by
  have hb : ((n : Int) != 8) = true := by rw [bne_iff_ne]; omega
  go_enter Try.func20, Try.ntmps20
  go_wp2_with fail
  go_ret2
  exact ⟨rfl, rfl⟩

set_option maxHeartbeats 400000 in
theorem mixseed_some (b off cap : Nat) (l : List Nat) (w : World) (h : l.length = 8) (hB : Bytes w (.slice (some ⟨b, off, none⟩) l.length cap) l) :
    Calls Try.prog 20 #[.slice (some ⟨b, off, none⟩) l.length cap] w fun e w' => e = .returned (.tuple #[U64 (sd 0 l), .int .i64 0]) ∧ w = w' := by
  have hb : ((l.length : Int) != 8) = false := by rw [bne_eq_false_iff_eq]; omega
  have HB := Lib.hid hB
  clear hB
  have H8 := Lib.hid h
  have hle : l.length ≤ 8 := by omega
  clear h
  go_enter Try.func20, Try.ntmps20
  go_wp2_with fail
  go_loop [4, 6, 12] (fun x _ i => ∃ k : Nat, k ≤ l.length ∧ i = .int .i64 k ∧ x = U64 (sd 0 (l.take k))) (fun _ _ i => l.length - (intOf i).toNat)
  case atStart => exact ⟨0, by omega, rfl, rfl⟩
  case round =>
    obtain ⟨k, hk, rfl, rfl⟩ := hrel
    by_cases hlt : k < l.length
    · have hu := HB.out.cell k hlt
      have hx := nth_lt HB.out.lt k
      have HS := Lib.hid (show sd 0 (l.take (k + 1)) = sd 0 (l.take k) * 256 + nth l k by rw [take_nth l k hlt, sd_snoc])
      have hy := sd_lt (l := l.take k) (fun x hx => HB.out.lt x (List.mem_of_mem_take hx)) 0
      rw [List.length_take, Nat.min_eq_left hk] at hy
      have HSP := Lib.hid (seed_spell (y := sd 0 (l.take k)) (x := nth l k) (k := k) (by omega) (by omega) hx)
      generalize sd 0 (l.take k) = y at *
      clear hy
      go_wp2_with fail
      rw [HSP.out]
      exact ⟨⟨k + 1, hlt, by go_num, by rw [HS.out]⟩, by simp [intOf]; omega⟩
    · obtain rfl : k = l.length := by omega
      have HT := Lib.hid (show l.take l.length = l from List.take_length)
      rw [HT.out]
      go_wp2_with fail
      go_ret2
      exact ⟨rfl, rfl⟩

theorem mixseed_any (v : Value) (l : List Nat) (w : World) (hB : Bytes w v l) :
    Calls Try.prog 20 #[v] w fun e w' => e = .returned (.tuple #[U64 (seedN l), .int .i64 (seedE l)]) ∧ w = w' := by
  have hB0 := hB
  obtain ⟨a, cap, rfl, h1, h2, _, h4⟩ := hB
  unfold seedN seedE
  by_cases h : l.length = 8
  · rw [if_pos h, if_pos h]
    obtain ⟨b, off, rfl, _, _⟩ := h4 (by intro e; rw [e] at h; simp at h)
    exact mixseed_some b off cap l w h hB0
  · rw [if_neg h, if_neg h]
    exact mixseed_no a l.length cap w h

end Go.Proofs.Ytobhlfkmdhoncaa
