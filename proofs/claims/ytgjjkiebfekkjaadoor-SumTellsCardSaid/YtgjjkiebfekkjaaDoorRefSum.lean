/-
  The document's answer for sums (wellspringref04), in the program: bit by bit.
-/
import Derived.Test.YtgjjkiebfekkjaaDoorOwn
import Derived.Test.YtgjjkiebfekkjaaDoorCrc
set_option maxRecDepth 100000
namespace Go.Proofs.YtgjjkiebfekkjaaDoor
open Go.RowKit

/-- A uint32 out of a number. -/
abbrev U32 (n : Nat) : Value := .int .u32 (n : Int)

theorem u32_eq {a : Int} {b : Nat} (h : a = b) : Value.int .u32 a = U32 b := by rw [h]

theorem ret_u32 {a : Int} {b : Nat} (h : a = b) : Ending.returned (.int .u32 a) = .returned (U32 b) := by rw [h]

theorem crc_odd (r : Nat) (hr : r < 4294967296) (h : r % 2 = 1) : Go.bits BinOp.xor IntKind.u32 ((r : Int) / 2) 3988292384 = (Crc.bit r : Int) := by
  have e : ((r : Int) / 2) = ((r / 2 : Nat) : Int) := by omega
  rw [e, show (3988292384 : Int) = ((3988292384 : Nat) : Int) from rfl, u32_xor_nat _ _ (by omega) (by decide)]
  unfold Crc.bit
  rw [show r.testBit 0 = true from by simp [Nat.testBit_zero, h], if_pos rfl]

theorem crc_even (r : Nat) (h : r % 2 = 0) : ((r : Int) / 2) = (Crc.bit r : Int) := by
  unfold Crc.bit
  rw [show r.testBit 0 = false from by simp [Nat.testBit_zero, h]]
  simp

set_option maxHeartbeats 400000 in
theorem refsum_empty (a : Option Addr) (cap : Nat) (w : World) :
    Calls Tryd.prog 10 #[.slice a 0 cap] w fun e w' => e = .returned (U32 0) ∧ w = w' := by
  go_enter Tryd.func10, Tryd.ntmps10
  go_wp2_with fail
  refine wp_loop_rounds 1 ?_
  rw [rounds_succ]
  go_wp2_with fail
  go_ret
  exact ⟨rfl, rfl⟩

theorem bits_step (r n : Nat) : Crc.bit (Crc.bits r n) = Crc.bits r (n + 1) := (Crc.bits_succ r n).symm

theorem crc_take (l : List Nat) (j : Nat) (h : j < l.length) : Crc.bits (Crc.reg 4294967295 (l.take j) ^^^ nth l j) 8 = Crc.reg 4294967295 (l.take (j + 1)) := by
  rw [take_nth l j h, Crc.reg_snoc]; rfl

theorem crc_end (l : List Nat) : Crc.reg 4294967295 (l.take l.length) = Crc.reg 4294967295 l := by rw [List.take_length]

theorem crc_not (r : Nat) (hr : r < 4294967296) : (4294967295 : Int) - (r : Int) = ((4294967295 ^^^ r : Nat) : Int) := by
  have e : 4294967295 ^^^ r = 4294967295 - r := by
    apply Nat.eq_of_testBit_eq
    intro i
    rw [show 4294967295 - r = 2 ^ 32 - (r + 1) from by omega, Nat.testBit_two_pow_sub_succ hr, Nat.testBit_xor, show (4294967295 : Nat) = 2 ^ 32 - 1 from rfl, Nat.testBit_two_pow_sub_one]
    by_cases hi : i < 32
    · simp [hi]
    · have h2 : r.testBit i = false := Nat.testBit_lt_two_pow (Nat.lt_of_lt_of_le (m := 2 ^ 32) hr (Nat.pow_le_pow_right (by decide) (by omega)))
      simp [hi, h2]
  rw [e]; omega

set_option maxHeartbeats 400000 in
theorem refsum_some (b off cap : Nat) (l : List Nat) (w : World) (hB : Bytes w (.slice (some ⟨b, off, none⟩) l.length cap) l) :
    Calls Tryd.prog 10 #[.slice (some ⟨b, off, none⟩) l.length cap] w fun e w' => e = .returned (U32 (Crc.sum l)) ∧ w = w' := by
  have hcap : l.length ≤ 9223372036854775807 := by obtain ⟨_, _, _, h1, h2, _⟩ := hB; omega
  have HL := Lib.hid hB.lt
  have HB := Lib.hid hB
  clear hB
  go_enter Tryd.func10, Tryd.ntmps10
  go_wp2_with fail
  go_loop [3, 4] (fun r i => ∃ k : Nat, k ≤ l.length ∧ i = .int .i64 k ∧ r = U32 (Crc.reg 4294967295 (l.take k))) (fun _ i => l.length - (intOf i).toNat)
  case atStart => exact ⟨0, by omega, rfl, rfl⟩
  case round =>
    obtain ⟨k, hk, rfl, rfl⟩ := hrel
    have hr : Crc.reg 4294967295 (l.take k) < 4294967296 := Crc.reg_lt (by decide) (fun x hx => HL.out x (List.mem_of_mem_take hx))
    by_cases hlt : k < l.length
    · have hc := HB.out.cell k hlt
      have hx := nth_lt HL.out k
      have HT := Lib.hid (crc_take l k hlt)
      have hy : Crc.reg 4294967295 (l.take k) ^^^ nth l k < 4294967296 := Nat.xor_lt_two_pow (n := 32) hr (by omega)
      have HX := Lib.hid (u32_xor_nat (Crc.reg 4294967295 (l.take k)) (nth l k) hr (by omega))
      generalize Crc.reg 4294967295 (l.take k) = r0 at hr HT HX hy
      generalize nth l k = x0 at hc hx HT HX hy
      generalize r0 ^^^ x0 = y at HT HX hy
      go_wp2_with fail
      go_loop [3, 5] (fun r i => ∃ j : Nat, j ≤ 8 ∧ i = .int .i64 j ∧ r = U32 (Crc.bits y j)) (fun _ i => 8 - (intOf i).toNat)
      case atStart => exact ⟨0, by omega, rfl, by rw [HX.out]; rfl⟩
      case round =>
        obtain ⟨j, hj, rfl, rfl⟩ := hrel
        have hq : Crc.bits y j < 4294967296 := Crc.bits_lt hy j
        by_cases hjt : j < 8
        · have HS := Lib.hid (bits_step y j)
          generalize Crc.bits y j = q at hq HS
          by_cases hodd : q % 2 = 1
          · have hb : ((q : Int) % 2 == 1) = true := by rw [beq_iff_eq]; omega
            have HO := Lib.hid (crc_odd q hq hodd)
            clear hodd
            go_wp2_with fail
            go_round
            case rel => exact ⟨j + 1, by omega, by go_num, by rw [← HS.out]; exact u32_eq HO.out⟩
            case measure => simp [intOf]; omega
          · have hb : ((q : Int) % 2 == 1) = false := beq_eq_false_iff_ne.2 (by omega)
            have HO := Lib.hid (crc_even q (by omega))
            clear hodd
            go_wp2_with fail
            go_round
            case rel => exact ⟨j + 1, by omega, by go_num, by rw [← HS.out]; exact u32_eq HO.out⟩
            case measure => simp [intOf]; omega
        · obtain rfl : j = 8 := by omega
          go_wp2_with fail
          go_round
          case rel => exact ⟨k + 1, by omega, by go_num, by rw [← HT.out]⟩
          case measure => simp [intOf]; omega
    · obtain rfl : k = l.length := by omega
      have HE := Lib.hid (crc_end l)
      have HN := Lib.hid (crc_not (Crc.reg 4294967295 l) (Crc.reg_lt (by decide) HL.out))
      have hz : Crc.sum l < 4294967296 := Crc.sum_lt HL.out
      have HZ := Lib.hid (show 4294967295 ^^^ Crc.reg 4294967295 l = Crc.sum l from rfl)
      rw [HE.out] at hr ⊢
      generalize Crc.reg 4294967295 l = q at hr HN HZ
      go_wp2_with fail
      go_ret
      exact ⟨ret_u32 (by rw [HN.out, HZ.out]), rfl⟩

theorem refsum_any (v : Value) (l : List Nat) (w : World) (h : Bytes w v l) :
    Calls Tryd.prog 10 #[v] w fun e w' => e = .returned (U32 (Crc.sum l)) ∧ w = w' := by
  obtain ⟨a, cap, rfl, h1, h2, h3, h4⟩ := h
  by_cases hne : l = []
  · subst hne; exact refsum_empty a cap w
  · obtain ⟨b, off, rfl, hlt, hc⟩ := h4 hne
    exact refsum_some b off cap l w ⟨_, cap, rfl, h1, h2, h3, fun _ => ⟨b, off, rfl, hlt, hc⟩⟩

/-- A number as four bytes, the smallest first. -/
def put4 (n : Nat) : List Nat := [n % 256, n / 256 % 256, n / 65536 % 256, n / 16777216 % 256]

theorem put4_lt (n : Nat) : ∀ x, x ∈ put4 n → x < 256 := by
  intro x hx
  simp only [put4, List.mem_cons, List.not_mem_nil, or_false] at hx
  omega

set_option maxHeartbeats 400000 in
theorem refput_any (n : Nat) (w : World) (hn : n < 4294967296) :
    Calls Tryd.prog 14 #[U32 n] w fun e w' => ∃ v, e = .returned v ∧ Bytes w' v (put4 n) ∧ Below w.heap.size w w' := by
  go_enter Tryd.func14, Tryd.ntmps14
  go_wp2_with fail
  have e : #[Value.int IntKind.u8 ((n : Int) % 256), Value.int IntKind.u8 ((n : Int) / 256 % 256), Value.int IntKind.u8 ((n : Int) / 65536 % 256), Value.int IntKind.u8 ((n : Int) / 16777216)] = ((put4 n).map U8).toArray := by
    rw [u8_eq (b := n % 256) (by omega), u8_eq (b := n / 256 % 256) (by omega), u8_eq (b := n / 65536 % 256) (by omega), u8_eq (b := n / 16777216 % 256) (by omega)]
    rfl
  rw [e]
  go_ret
  exact ⟨_, rfl, bytes_new w (put4 n) _ (put4_lt n) (by show 4 ≤ _; decide), (Below.refl w.heap.size w).alloc (Nat.le_refl _) _⟩

end Go.Proofs.YtgjjkiebfekkjaaDoor
