/-
  What the program's numbers (layer 6) call of the language's library: digits looked for, sums with carry, products of words, lengths in bits, comparisons.
-/
import Derived.Test.YtobhlfkmdhoncaaWords
import Derived.Test.YtobhlfkmdhoncaaWordMath
import Derived.Test.YtobhlfkmdhoncaaRefNatF
import Derived.Shelf.Bits.Mul64
import Derived.Shelf.Spec.BitsCarry
import Derived.Lib.Bytealg
import Derived.Lib.BitFns
import Derived.Lib.Strings
import Derived.Lib.Slices
import Derived.Lib.Small
import Derived.Lib.Walk
set_option maxRecDepth 100000
namespace Go.Proofs.Ytobhlfkmdhoncaa
open Go.RowKit

/-- A digit's number, or -1. -/
def hvI (c : Nat) : Int := if Nt.IsHex c then Nt.hv c else -1
theorem hvI_eq : ∀ c : Fin 256, Lib.indexByte [48, 49, 50, 51, 52, 53, 54, 55, 56, 57, 97, 98, 99, 100, 101, 102] c.val.toUInt8 = hvI c.val := by decide +kernel

abbrev figures : Value := .string ⟨#[48, 49, 50, 51, 52, 53, 54, 55, 56, 57, 97, 98, 99, 100, 101, 102]⟩

theorem run_bytealg (s : ByteArray) (c : Int) (w : World) : (callFunc 65 #[.string s, .int .u8 c]).run Try.prog w = .ok (.value (.int .i64 (Lib.indexByte s.data.toList c.toNat.toUInt8))) w := by
  rw [run_callFunc_extern Try.func65 (by kernel_rfl) (by kernel_rfl) (by kernel_rfl) (e := Extern.BytealgIndexByte.indexByte) (by kernel_rfl), Lib.run_indexByteString]
  rfl

set_option maxHeartbeats 400000 in
theorem lite_any (c : Nat) (w : World) (hc : c < 256) :
    Calls Try.prog 59 #[figures, U8 c] w fun e w' => e = .returned (.int .i64 (hvI c)) ∧ w = w' := by
  have H := Lib.hid (hvI_eq ⟨c, hc⟩)
  have HR := Lib.hid (run_bytealg ⟨#[48, 49, 50, 51, 52, 53, 54, 55, 56, 57, 97, 98, 99, 100, 101, 102]⟩ c)
  go_enter Try.func59, Try.ntmps59
  go_wp2
  rw [HR.out]
  rw [Oper.upon_value]
  go_wp2
  go_ret
  exact ⟨congrArg (fun n => Ending.returned (.int .i64 n)) H.out, rfl⟩

set_option maxHeartbeats 400000 in
theorem index_any (c : Nat) (w : World) (hc : c < 256) :
    Calls Try.prog 46 #[figures, U8 c] w fun e w' => e = .returned (.int .i64 (hvI c)) ∧ w = w' := by
  go_enter Try.func46, Try.ntmps46
  go_wp2_with fail
  refine (lite_any c _ hc).mono ?_
  rintro e w' ⟨rfl, rfl⟩
  go_wp2_with fail
  go_ret
  exact ⟨rfl, rfl⟩

/-- Sums of words, with carry. -/
theorem run_add (x y c : Nat) (hc : c ≤ 1) (w : World) : (callFunc 63 #[U64 x, U64 y, U64 c]).run Try.prog w =
    .ok (.value (.tuple #[U64 ((x + y + c) % 18446744073709551616), U64 ((x + y + c) / 18446744073709551616)])) w := by
  rw [run_callFunc_extern Try.func63 (by kernel_rfl) (by kernel_rfl) (by kernel_rfl) (e := add64Entry) (by kernel_rfl), run_add64 x y c (by omega) (by omega) (by omega) (by omega)]
  simp only [Result.andThen]
  congr 5 <;> omega
/-- Differences of words, with borrow. -/
def borrowed (x y b : Nat) : Nat := if x < y + b then 1 else 0
theorem run_sub (x y b : Nat) (hb : b ≤ 1) (w : World) : (callFunc 55 #[U64 x, U64 y, U64 b]).run Try.prog w =
    .ok (.value (.tuple #[U64 ((x + 18446744073709551616 - y - b) % 18446744073709551616), U64 (borrowed x y b)])) w := by
  rw [run_callFunc_extern Try.func55 (by kernel_rfl) (by kernel_rfl) (by kernel_rfl) (e := sub64Entry) (by kernel_rfl), run_sub64 x y b hb]
  rfl

set_option maxHeartbeats 1000000 in
/-- A product of two words, in two. -/
theorem mul64_any (x y : Nat) (w : World) (hx : x < 18446744073709551616) (hy : y < 18446744073709551616) :
    Calls Try.prog 66 #[U64 x, U64 y] w fun e w' => e = .returned (.tuple #[U64 (x * y / 18446744073709551616), U64 (x * y % 18446744073709551616)]) ∧ w = w' := by
  obtain ⟨bd, bt, bw, hhi⟩ := Lib.mul64_hi x y hx hy
  have ba := Lib.half_mul_le (a := x / 4294967296) (b := y / 4294967296) (by omega) (by omega)
  have bb := Lib.half_mul_le (a := x / 4294967296) (b := y % 4294967296) (by omega) (by omega)
  have bc := Lib.half_mul_le (a := x % 4294967296) (b := y / 4294967296) (by omega) (by omega)
  have ba' : x / 4294967296 * (y / 4294967296) < 18446744073709551616 := by omega
  have bb' : x / 4294967296 * (y % 4294967296) < 18446744073709551616 := by omega
  have bc' : x % 4294967296 * (y / 4294967296) < 18446744073709551616 := by omega
  have bh1 : x / 4294967296 * (y / 4294967296) + (x / 4294967296 * (y % 4294967296) + x % 4294967296 * (y % 4294967296) / 4294967296) / 4294967296 < 18446744073709551616 := by omega
  have bh : x / 4294967296 * (y / 4294967296) + (x / 4294967296 * (y % 4294967296) + x % 4294967296 * (y % 4294967296) / 4294967296) / 4294967296 + ((x / 4294967296 * (y % 4294967296) + x % 4294967296 * (y % 4294967296) / 4294967296) % 4294967296 + x % 4294967296 * (y / 4294967296)) / 4294967296 < 18446744073709551616 := by omega
  go_enter Try.func66, Try.ntmps66
  go_wp2
  simp only [Mul64.maskN x hx, Mul64.maskN y hy, Mul64.divN, Mul64.mulN, Mul64.addN, Mul64.wrapN _ bd, Mul64.wrapN _ bb', Mul64.wrapN _ bt, Mul64.maskN _ bt, Mul64.wrapN _ bc', Mul64.wrapN _ bw, Mul64.wrapN _ ba', Mul64.wrapN _ bh1, Mul64.wrapN _ bh, Mul64.wrapM (x * y)]
  rw [hhi]
  go_ret2
  exact ⟨rfl, rfl⟩

theorem tab8_size : Lib.len8tab.size = 256 := by decide
theorem tab8 (y : Int) (h0 : 0 ≤ y) (h1 : y < 256) (h : y.toNat < Lib.len8tab.size) : ((Lib.len8tab[y.toNat]'h).toNat : Int) = Lib.bitLen y.toNat := by
  rw [← Lib.len8_of y h0 (by omega)]
  unfold Lib.len8
  rw [getElem?_pos Lib.len8tab y.toNat h]
  rfl

theorem len_step (x : Int) (h1 : x ≤ 18446744073709551615) (k : Nat) (hk : k ≤ 56) (y : Int) (hlo : 2 ^ k ≤ x.toNat) (hy : y.toNat = x.toNat / 2 ^ k) (hy0 : 0 ≤ y) (hy1 : y < 256) :
    wrap64 ((k : Int) + wrap64 (Lib.bitLen y.toNat : Int)) = (Lib.bitLen x.toNat : Int) := by
  have l := Lib.bitLen_le8' y hy0 (Int.le_of_lt_add_one hy1)
  have hx : x.toNat < 2 ^ 64 := by
    have hx1 : x.toNat ≤ 18446744073709551615 := by clear hlo hy l; omega
    exact Nat.lt_of_le_of_lt hx1 (by decide)
  have s := Lib.bitLen_shift k x.toNat hlo hx
  rw [← hy] at s
  clear hlo hy hx h1
  generalize Lib.bitLen x.toNat = X at *
  generalize Lib.bitLen y.toNat = Y at *
  subst s
  unfold wrap64
  omega
theorem len_last (x : Int) (h0 : 0 ≤ x) (h1 : x < 256) : wrap64 (wrap64 (Lib.bitLen x.toNat : Int)) = (Lib.bitLen x.toNat : Int) := by
  have l := Lib.bitLen_le8' x h0 (by omega)
  unfold wrap64
  omega

theorem tail56 (x : Int) (h0 : 0 ≤ x) (h1 : x ≤ 18446744073709551615) (hlo : 72057594037927936 ≤ x) (hhi : x / 4294967296 / 65536 / 256 < 256) (h : (x / 4294967296 / 65536 / 256).toNat < Lib.len8tab.size) : wrap64 (56 + wrap64 ((Lib.len8tab[(x / 4294967296 / 65536 / 256).toNat]'h).toNat : Int)) = (Lib.bitLen x.toNat : Int) := by
  rw [tab8 (x / 4294967296 / 65536 / 256) (by omega) hhi]
  exact len_step x h1 56 (by decide) (x / 4294967296 / 65536 / 256) (show 72057594037927936 ≤ x.toNat by omega) (show (x / 4294967296 / 65536 / 256).toNat = x.toNat / 72057594037927936 by omega) (by omega) hhi
theorem tail48 (x : Int) (h0 : 0 ≤ x) (h1 : x ≤ 18446744073709551615) (hlo : 281474976710656 ≤ x) (hhi : x / 4294967296 / 65536 < 256) (h : (x / 4294967296 / 65536).toNat < Lib.len8tab.size) : wrap64 (48 + wrap64 ((Lib.len8tab[(x / 4294967296 / 65536).toNat]'h).toNat : Int)) = (Lib.bitLen x.toNat : Int) := by
  rw [tab8 (x / 4294967296 / 65536) (by omega) hhi]
  exact len_step x h1 48 (by decide) (x / 4294967296 / 65536) (show 281474976710656 ≤ x.toNat by omega) (show (x / 4294967296 / 65536).toNat = x.toNat / 281474976710656 by omega) (by omega) hhi
theorem tail40 (x : Int) (h0 : 0 ≤ x) (h1 : x ≤ 18446744073709551615) (hlo : 1099511627776 ≤ x) (hhi : x / 4294967296 / 256 < 256) (h : (x / 4294967296 / 256).toNat < Lib.len8tab.size) : wrap64 (40 + wrap64 ((Lib.len8tab[(x / 4294967296 / 256).toNat]'h).toNat : Int)) = (Lib.bitLen x.toNat : Int) := by
  rw [tab8 (x / 4294967296 / 256) (by omega) hhi]
  exact len_step x h1 40 (by decide) (x / 4294967296 / 256) (show 1099511627776 ≤ x.toNat by omega) (show (x / 4294967296 / 256).toNat = x.toNat / 1099511627776 by omega) (by omega) hhi
theorem tail32 (x : Int) (h0 : 0 ≤ x) (h1 : x ≤ 18446744073709551615) (hlo : 4294967296 ≤ x) (hhi : x / 4294967296 < 256) (h : (x / 4294967296).toNat < Lib.len8tab.size) : wrap64 (32 + wrap64 ((Lib.len8tab[(x / 4294967296).toNat]'h).toNat : Int)) = (Lib.bitLen x.toNat : Int) := by
  rw [tab8 (x / 4294967296) (by omega) hhi]
  exact len_step x h1 32 (by decide) (x / 4294967296) (show 4294967296 ≤ x.toNat by omega) (show (x / 4294967296).toNat = x.toNat / 4294967296 by omega) (by omega) hhi
theorem tail24 (x : Int) (h0 : 0 ≤ x) (h1 : x ≤ 18446744073709551615) (hlo : 16777216 ≤ x) (hhi : x / 65536 / 256 < 256) (h : (x / 65536 / 256).toNat < Lib.len8tab.size) : wrap64 (24 + wrap64 ((Lib.len8tab[(x / 65536 / 256).toNat]'h).toNat : Int)) = (Lib.bitLen x.toNat : Int) := by
  rw [tab8 (x / 65536 / 256) (by omega) hhi]
  exact len_step x h1 24 (by decide) (x / 65536 / 256) (show 16777216 ≤ x.toNat by omega) (show (x / 65536 / 256).toNat = x.toNat / 16777216 by omega) (by omega) hhi
theorem tail16 (x : Int) (h0 : 0 ≤ x) (h1 : x ≤ 18446744073709551615) (hlo : 65536 ≤ x) (hhi : x / 65536 < 256) (h : (x / 65536).toNat < Lib.len8tab.size) : wrap64 (16 + wrap64 ((Lib.len8tab[(x / 65536).toNat]'h).toNat : Int)) = (Lib.bitLen x.toNat : Int) := by
  rw [tab8 (x / 65536) (by omega) hhi]
  exact len_step x h1 16 (by decide) (x / 65536) (show 65536 ≤ x.toNat by omega) (show (x / 65536).toNat = x.toNat / 65536 by omega) (by omega) hhi
theorem tail8 (x : Int) (h0 : 0 ≤ x) (h1 : x ≤ 18446744073709551615) (hlo : 256 ≤ x) (hhi : x / 256 < 256) (h : (x / 256).toNat < Lib.len8tab.size) : wrap64 (8 + wrap64 ((Lib.len8tab[(x / 256).toNat]'h).toNat : Int)) = (Lib.bitLen x.toNat : Int) := by
  rw [tab8 (x / 256) (by omega) hhi]
  exact len_step x h1 8 (by decide) (x / 256) (show 256 ≤ x.toNat by omega) (show (x / 256).toNat = x.toNat / 256 by omega) (by omega) hhi

set_option maxHeartbeats 4000000 in
/-- How many bits a word needs. -/
theorem len64_any (x : Int) (w : World) (h0 : 0 ≤ x) (h1 : x ≤ 18446744073709551615) :
    Calls Try.prog 60 #[.int .u64 x] w fun e w' => e = .returned (.int .i64 (Lib.bitLen x.toNat)) ∧ w = w' := by
  have hs := tab8_size
  go_enter Try.func60, Try.ntmps60
  go_wp2
  all_goals first
    | (exfalso; omega)
    | (go_ret; refine ⟨congrArg Ending.returned (congrArg (Value.int IntKind.i64) ?_), rfl⟩)
  · exact tail56 x h0 h1 (by omega) (by omega) _
  · exact tail48 x h0 h1 (by omega) (by omega) _
  · exact tail40 x h0 h1 (by omega) (by omega) _
  · exact tail32 x h0 h1 (by omega) (by omega) _
  · exact tail24 x h0 h1 (by omega) (by omega) _
  · exact tail16 x h0 h1 (by omega) (by omega) _
  · exact tail8 x h0 h1 (by omega) (by omega) _
  · rw [tab8 x h0 (by omega)]; exact len_last x h0 (by omega)

set_option maxHeartbeats 400000 in
theorem naint_any (a : Int) (w : World) :
    Calls Try.prog 61 #[.int .i64 a] w fun e w' => e = .returned (.bool false) ∧ w = w' := by
  go_enter Try.func61, Try.ntmps61
  go_wp2_with fail
  go_ret
  exact ⟨rfl, rfl⟩

set_option maxHeartbeats 400000 in
theorem nau64_any (a : Int) (w : World) :
    Calls Try.prog 62 #[.int .u64 a] w fun e w' => e = .returned (.bool false) ∧ w = w' := by
  go_enter Try.func62, Try.ntmps62
  go_wp2_with fail
  go_ret
  exact ⟨rfl, rfl⟩

theorem ret_i64 {a b : Int} (h : a = b) : Ending.returned (.int .i64 a) = .returned (.int .i64 b) := by rw [h]

set_option maxHeartbeats 400000 in
theorem cmpint_any (a b : Nat) (w : World) :
    Calls Try.prog 50 #[.int .i64 a, .int .i64 b] w fun e w' => e = .returned (.int .i64 (Nt.cmp a b)) ∧ w = w' := by
  rcases Nat.lt_trichotomy a b with h | h | h
  · have HC := Lib.hid (Nt.cmp_lt h)
    have h1 : (a : Int) < (b : Int) := by omega
    clear h
    go_enter Try.func50, Try.ntmps50
    go_wp2_with fail
    refine (naint_any a _).mono ?_
    rintro e w' ⟨rfl, rfl⟩
    go_wp2_with fail
    refine (naint_any b _).mono ?_
    rintro e w' ⟨rfl, rfl⟩
    go_wp2_with fail
    go_ret
    exact ⟨ret_i64 HC.out.symm, rfl⟩
  · subst h
    have HC := Lib.hid (Nt.cmp_eq (rfl : a = a))
    have h1 : ¬ (a : Int) < (a : Int) := by omega
    go_enter Try.func50, Try.ntmps50
    go_wp2_with fail
    refine (naint_any a _).mono ?_
    rintro e w' ⟨rfl, rfl⟩
    go_wp2_with fail
    refine (naint_any a _).mono ?_
    rintro e w' ⟨rfl, rfl⟩
    go_wp2_with fail
    go_ret
    exact ⟨ret_i64 HC.out.symm, rfl⟩
  · have HC := Lib.hid (Nt.cmp_gt h)
    have h1 : ¬ (a : Int) < (b : Int) := by omega
    have h2 : (b : Int) < (a : Int) := by omega
    clear h
    go_enter Try.func50, Try.ntmps50
    go_wp2_with fail
    refine (naint_any a _).mono ?_
    rintro e w' ⟨rfl, rfl⟩
    go_wp2_with fail
    refine (naint_any b _).mono ?_
    rintro e w' ⟨rfl, rfl⟩
    go_wp2_with fail
    go_ret
    exact ⟨ret_i64 HC.out.symm, rfl⟩

set_option maxHeartbeats 400000 in
theorem cmpu64_any (a b : Nat) (w : World) :
    Calls Try.prog 51 #[.int .u64 a, .int .u64 b] w fun e w' => e = .returned (.int .i64 (Nt.cmp a b)) ∧ w = w' := by
  rcases Nat.lt_trichotomy a b with h | h | h
  · have HC := Lib.hid (Nt.cmp_lt h)
    have h1 : (a : Int) < (b : Int) := by omega
    clear h
    go_enter Try.func51, Try.ntmps51
    go_wp2_with fail
    refine (nau64_any a _).mono ?_
    rintro e w' ⟨rfl, rfl⟩
    go_wp2_with fail
    refine (nau64_any b _).mono ?_
    rintro e w' ⟨rfl, rfl⟩
    go_wp2_with fail
    go_ret
    exact ⟨ret_i64 HC.out.symm, rfl⟩
  · subst h
    have HC := Lib.hid (Nt.cmp_eq (rfl : a = a))
    have h1 : ¬ (a : Int) < (a : Int) := by omega
    go_enter Try.func51, Try.ntmps51
    go_wp2_with fail
    refine (nau64_any a _).mono ?_
    rintro e w' ⟨rfl, rfl⟩
    go_wp2_with fail
    refine (nau64_any a _).mono ?_
    rintro e w' ⟨rfl, rfl⟩
    go_wp2_with fail
    go_ret
    exact ⟨ret_i64 HC.out.symm, rfl⟩
  · have HC := Lib.hid (Nt.cmp_gt h)
    have h1 : ¬ (a : Int) < (b : Int) := by omega
    have h2 : (b : Int) < (a : Int) := by omega
    clear h
    go_enter Try.func51, Try.ntmps51
    go_wp2_with fail
    refine (nau64_any a _).mono ?_
    rintro e w' ⟨rfl, rfl⟩
    go_wp2_with fail
    refine (nau64_any b _).mono ?_
    rintro e w' ⟨rfl, rfl⟩
    go_wp2_with fail
    go_ret
    exact ⟨ret_i64 HC.out.symm, rfl⟩

end Go.Proofs.Ytobhlfkmdhoncaa
