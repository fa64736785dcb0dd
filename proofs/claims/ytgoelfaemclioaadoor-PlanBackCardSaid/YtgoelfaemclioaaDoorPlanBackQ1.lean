/- Texts of one seat, laid together: Gf, Mul, Bytes, Own, MixMath, Blk, NatMath, LibBytes, RefNatE, RefNatF, RefPlanW, RefPlanN, Frame, RefPlan, Lead, KernA, KernC, LawTwoC, RefLess. -/
import Derived.Test.YtgoelfaemclioaaDoorRows
import Derived.WalkKit
import Derived.WalkSpells
import Derived.WalkLawsBesides
import Derived.Lib.Hide
import Derived.Laws.BytesArg
import Derived.Lib.SliceRun
import Derived.Deep.DeepCutAuto
import Derived.Laws.OwnMore
import Derived.Deep.AppendLies
import Derived.BigQuiet
import Derived.ProofKit
import Derived.OpenShut
import Derived.Deep.Slices
import Derived.Deep.RegionHeld3
import Derived.Deep.QuietTactic

/-
  Bytes as a field (layer 1), in plain numbers: the product by shifting and adding, that it is the one of polynomials modulo 11D, and that it is commutative, associative and distributes. No program in this text.
-/
namespace Go.Proofs.YtgoelfaemclioaaDoor
namespace Gf

/-- The product with x. -/
def dbl (a : Nat) : Nat := if a < 128 then 2 * a else (2 * a) ^^^ 285

/-- The product with x, n times. -/
def dblN (a : Nat) : Nat → Nat
  | 0 => a
  | n + 1 => dbl (dblN a n)

/-- The product, by the first k bits of b. -/
def mulK (a b : Nat) : Nat → Nat
  | 0 => 0
  | k + 1 => mulK a b k ^^^ (if b.testBit k then dblN a k else 0)

def mul (a b : Nat) : Nat := mulK a b 8

/-! ### exclusive or -/

theorem xor_lt {a b : Nat} (ha : a < 256) (hb : b < 256) : a ^^^ b < 256 := Nat.xor_lt_two_pow (n := 8) ha hb

theorem xor_four (a b c d : Nat) : (a ^^^ b) ^^^ (c ^^^ d) = (a ^^^ c) ^^^ (b ^^^ d) := by
  rw [Nat.xor_assoc, Nat.xor_assoc, ← Nat.xor_assoc b c d, Nat.xor_comm b c, Nat.xor_assoc c b d]

/-! ### doubling is linear -/

theorem dbl_alt (a : Nat) (h : a < 256) : dbl a = (2 * a) ^^^ (if a.testBit 7 then 285 else 0) := by
  have : ∀ a : Fin 256, dbl a.1 = (2 * a.1) ^^^ (if a.1.testBit 7 then 285 else 0) := by decide +kernel
  exact this ⟨a, h⟩

theorem dbl_lt {a : Nat} (h : a < 256) : dbl a < 256 := by
  have : ∀ a : Fin 256, dbl a.1 < 256 := by decide +kernel
  exact this ⟨a, h⟩

theorem ite_xor (p q : Bool) (c : Nat) : (if (p ^^ q) = true then c else 0) = (if p = true then c else 0) ^^^ (if q = true then c else 0) := by
  cases p <;> cases q <;> simp

theorem two_mul_xor (a b : Nat) : 2 * (a ^^^ b) = (2 * a) ^^^ (2 * b) := by
  apply Nat.eq_of_testBit_eq
  intro i
  have e : ∀ x : Nat, 2 * x = x <<< 1 := fun x => by rw [Nat.shiftLeft_eq, Nat.mul_comm]
  rw [e, e, e, Nat.testBit_shiftLeft, Nat.testBit_xor, Nat.testBit_xor, Nat.testBit_shiftLeft, Nat.testBit_shiftLeft]
  cases decide (i ≥ 1) <;> simp

theorem dbl_xor {a b : Nat} (ha : a < 256) (hb : b < 256) : dbl (a ^^^ b) = dbl a ^^^ dbl b := by
  rw [dbl_alt _ ha, dbl_alt _ hb, dbl_alt _ (xor_lt ha hb), Nat.testBit_xor, ite_xor, two_mul_xor, xor_four]

theorem dblN_lt {a : Nat} (h : a < 256) : ∀ n, dblN a n < 256
  | 0 => h
  | n + 1 => dbl_lt (dblN_lt h n)

theorem dblN_zero : ∀ n, dblN 0 n = 0
  | 0 => rfl
  | n + 1 => by simp only [dblN]; rw [dblN_zero n]; rfl

theorem dblN_add (a m : Nat) : ∀ n, dblN a (m + n) = dblN (dblN a m) n
  | 0 => rfl
  | n + 1 => by show dbl (dblN a (m + n)) = dbl (dblN (dblN a m) n); rw [dblN_add a m n]

theorem dblN_dbl (a : Nat) (n : Nat) : dblN (dbl a) n = dbl (dblN a n) := by
  have h := dblN_add a 1 n
  rw [Nat.add_comm] at h
  exact h.symm

/-! ### the product -/

theorem mulK_lt {a : Nat} (h : a < 256) (b : Nat) : ∀ k, mulK a b k < 256
  | 0 => Nat.zero_lt_succ _
  | k + 1 => by
    simp only [mulK]
    refine xor_lt (mulK_lt h b k) ?_
    split
    · exact dblN_lt h k
    · decide

theorem mulK_dbl {a : Nat} (ha : a < 256) (b : Nat) : ∀ k, mulK (dbl a) b k = dbl (mulK a b k)
  | 0 => rfl
  | k + 1 => by
    simp only [mulK]
    rw [mulK_dbl ha b k, dblN_dbl]
    cases b.testBit k
    · simp
    · simp only [if_true]; rw [dbl_xor (mulK_lt ha b k) (dblN_lt ha k)]

theorem mul_dbl {a : Nat} (ha : a < 256) (b : Nat) : mul (dbl a) b = dbl (mul a b) := mulK_dbl ha b 8

theorem mul_dblN {a : Nat} (ha : a < 256) (b : Nat) : ∀ n, mul (dblN a n) b = dblN (mul a b) n
  | 0 => rfl
  | n + 1 => by simp only [dblN]; rw [mul_dbl (dblN_lt ha n), mul_dblN ha b n]

theorem one_mul {b : Nat} (hb : b < 256) : mul 1 b = b := by
  have : ∀ b : Fin 256, mul 1 b.1 = b.1 := by decide +kernel
  exact this ⟨b, hb⟩

theorem mul_zero (a : Nat) : mul a 0 = 0 := by simp [mul, mulK]

theorem zero_mul (b : Nat) : mul 0 b = 0 := by
  have h : ∀ k, mulK 0 b k = 0 := by
    intro k
    induction k with
    | zero => rfl
    | succ k ih => simp [mulK, ih, dblN_zero]
  exact h 8

/-! ### powers of 2 -/

/-- 2 to the n. -/
def exp (n : Nat) : Nat := dblN 1 n

theorem exp_lt (n : Nat) : exp n < 256 := dblN_lt (by decide) n

/-- Doubled so often till it is a: how often. -/
def logF (a : Nat) : Nat → Nat → Nat → Nat
  | 0, _, n => n
  | f + 1, p, n => if p = a then n else logF a f (dbl p) (n + 1)

/-- Of which power of 2 it is one. -/
def log (a : Nat) : Nat := logF a 255 1 0

theorem log_spec : ∀ a : Fin 256, a.1 ≠ 0 → exp (log a.1) = a.1 ∧ log a.1 < 255 := by decide +kernel

theorem exp_log {a : Nat} (h : a < 256) (h0 : a ≠ 0) : exp (log a) = a := (log_spec ⟨a, h⟩ h0).1
theorem exp_add (m n : Nat) : exp (m + n) = dblN (exp m) n := dblN_add 1 m n

theorem exp_mul (n : Nat) {b : Nat} (hb : b < 256) : mul (exp n) b = dblN b n := by
  unfold exp; rw [mul_dblN (by decide), one_mul hb]

theorem exp_mul_exp (m n : Nat) : mul (exp m) (exp n) = exp (m + n) := by
  rw [exp_mul m (exp_lt n), Nat.add_comm, exp_add]

/-! ### the field -/

theorem mul_comm {a b : Nat} (ha : a < 256) (hb : b < 256) : mul a b = mul b a := by
  by_cases h0 : a = 0
  · rw [h0, zero_mul, mul_zero]
  by_cases h1 : b = 0
  · rw [h1, zero_mul, mul_zero]
  rw [← exp_log ha h0, ← exp_log hb h1, exp_mul_exp, exp_mul_exp, Nat.add_comm]

/-! ### powers -/

/-! ### the polynomials' product: first all of it, then what the modulus leaves -/

end Gf
end Go.Proofs.YtgoelfaemclioaaDoor

/-
  The byte's product in the program: 'double', 'times', and that they answer the plain product of XGf.
-/
set_option maxRecDepth 100000
namespace Go.Proofs.YtgoelfaemclioaaDoor
open Go.RowKit

/-- One byte out of two numbers. -/
abbrev U8 (n : Nat) : Value := .int .u8 (n : Int)

end Go.Proofs.YtgoelfaemclioaaDoor

/-
  Slices of bytes in memory: what is said of one that is read, and that it stays where nothing below it turns.
-/
set_option maxRecDepth 100000
namespace Go.Proofs.YtgoelfaemclioaaDoor
open Go.RowKit

/-- The element of a place: by a name of its own, so that the walk leaves it as it is. -/
def nth (l : List Nat) (i : Nat) : Nat := l.getD i 0

/-- The value is a slice that reads as these bytes. -/
def Bytes (w : World) (v : Value) (l : List Nat) : Prop :=
  ∃ a cap, v = .slice a l.length cap ∧ l.length ≤ cap ∧ cap ≤ 9223372036854775807 ∧ (∀ x, x ∈ l → x < 256) ∧
    (l ≠ [] → ∃ b off, a = some ⟨b, off, none⟩ ∧ b < w.heap.size ∧ ∀ i, i < l.length → w.cell? ⟨b, off + i, none⟩ = some (U8 (nth l i)))

theorem nth_lt {l : List Nat} (h : ∀ x, x ∈ l → x < 256) (i : Nat) : nth l i < 256 := by
  unfold nth
  rw [List.getD_eq_getElem?_getD]
  by_cases hi : i < l.length
  · rw [List.getElem?_eq_getElem hi]; exact h _ (List.getElem_mem hi)
  · rw [List.getElem?_eq_none (by omega)]; show 0 < 256; decide

theorem nth_eq (l : List Nat) (i : Nat) (h : i < l.length) : nth l i = l[i] := by
  unfold nth; rw [List.getD_eq_getElem?_getD, List.getElem?_eq_getElem h]; rfl

end Go.Proofs.YtgoelfaemclioaaDoor

/-
  A block of bytes that a call made itself: what it holds, what a store makes of it, and that it stays where others are written.
-/
set_option maxRecDepth 100000
namespace Go.Proofs.YtgoelfaemclioaaDoor
open Go.RowKit

/-- One row of those from B on was written. -/
theorem below_grown {B g : Nat} {a b c : World} (h : Below B a b) (hg : b.grownBy c (some g)) (hB : B ≤ b.heap.size) (hgB : B ≤ g) : Below B a c :=
  h.grown hg hB (fun _ e => by cases e; exact hgB)

end Go.Proofs.YtgoelfaemclioaaDoor

/-
  Bytes out of a seed (layer 5), in plain numbers.
-/
set_option maxRecDepth 100000
namespace Go.Proofs.YtgoelfaemclioaaDoor
open Go.RowKit

namespace Mx
/-- 2 to the 64. -/
def M : Nat := 18446744073709551616
/-- Combined with itself, so many bits to the right. -/
def sh (z k : Nat) : Nat := z ^^^ (z / 2 ^ k)
/-- The state's step. -/
def step (s : Nat) : Nat := (s + 11400714819323198485) % 18446744073709551616
/-- What a state tells. -/
def mixed (z : Nat) : Nat := sh (sh (sh z 30 * 13787848793156543929 % 18446744073709551616) 27 * 10723151780598845931 % 18446744073709551616) 31
/-! ### Unlike states tell unlike numbers -/

end Mx

end Go.Proofs.YtgoelfaemclioaaDoor

/-
  A block of whatever values (a struct's box, a variable, a result): what it holds, and that it stays where others are written.
-/
set_option maxRecDepth 100000
namespace Go.Proofs.YtgoelfaemclioaaDoor
open Go.RowKit

/-- Block g holds these values, of that type, and isn't frozen. -/
def Blk (w : World) (g : Nat) (vs : Array Value) (T : TypeId) : Prop := w.heap[g]? = some (.cells vs T)

theorem Blk.lt {w : World} {g : Nat} {vs : Array Value} {T : TypeId} (h : Blk w g vs T) : g < w.heap.size := (Array.getElem?_eq_some_iff.1 h).1
theorem Blk.cell {w : World} {g : Nat} {vs : Array Value} {T : TypeId} (h : Blk w g vs T) (k : Nat) : w.cell? ⟨g, k, none⟩ = vs[k]? := cell_of_row w g k _ _ (0, 0) h
theorem Blk.free {w : World} {g : Nat} {vs : Array Value} {T : TypeId} (h : Blk w g vs T) (k : Nat) : w.frozen? ⟨g, k, none⟩ = false := frozen_of_row w g k _ _ h
theorem Blk.new (w : World) (vs : Array Value) (T : TypeId) (g : Nat) (hg : g = w.heap.size) : Blk (w.alloc (.cells vs T)) g vs T := by subst hg; exact heap_alloc_new w _
theorem Blk.alloc {w : World} {g : Nat} {vs : Array Value} {T : TypeId} (h : Blk w g vs T) (o : Obj) : Blk (w.alloc o) g vs T := by
  unfold Blk; rw [Below.heap_alloc w o g h.lt]; exact h
theorem Blk.below {w w' : World} {g B : Nat} {vs : Array Value} {T : TypeId} (h : Blk w g vs T) (hB : g < B) (hb : Below B w w') : Blk w' g vs T := by
  unfold Blk; rw [hb.block g hB]; exact h
theorem Blk.same {w w' : World} {g : Nat} {vs : Array Value} {T : TypeId} (h : Blk w g vs T) (hb : Below w.heap.size w w') : Blk w' g vs T := h.below h.lt hb
theorem Blk.set {w : World} {g : Nat} {vs : Array Value} {T : TypeId} (h : Blk w g vs T) (k : Nat) (v : Value) : Blk (w.setCell ⟨g, k, none⟩ v) g (vs.setIfInBounds k v) T := by
  unfold Blk World.setCell
  have e : w.heap[g]? = some (.cells vs T) := h
  simp [Array.getElem?_modify, e]

/-! ### What is known, carried over a call that turns nothing of what was there -/

theorem Blk.go {w w' : World} {g : Nat} {vs : Array Value} {T : TypeId} (h : Blk w g vs T) (hb : Below w.heap.size w w') : Blk w' g vs T := h.same hb

/-- New blocks, one behind the other. -/
theorem blocks1 (w : World) (c1 : Array Value) (T1 : TypeId) : Below w.heap.size w (w.alloc (.cells c1 T1)) ∧ Blk (w.alloc (.cells c1 T1)) w.heap.size c1 T1 ∧ (w.alloc (.cells c1 T1)).heap.size = w.heap.size + 1 :=
  ⟨(Below.refl _ _).alloc (Nat.le_refl _) _, Blk.new w c1 T1 _ rfl, by simp⟩
theorem blocks2 (w : World) (c1 : Array Value) (T1 : TypeId) (c2 : Array Value) (T2 : TypeId) : Below w.heap.size w ((w.alloc (.cells c1 T1)).alloc (.cells c2 T2)) ∧ Blk ((w.alloc (.cells c1 T1)).alloc (.cells c2 T2)) w.heap.size c1 T1 ∧
    Blk ((w.alloc (.cells c1 T1)).alloc (.cells c2 T2)) (w.heap.size + 1) c2 T2 ∧ ((w.alloc (.cells c1 T1)).alloc (.cells c2 T2)).heap.size = w.heap.size + 1 + 1 := by
  obtain ⟨b, k1, s⟩ := blocks1 w c1 T1
  obtain ⟨b', k2, s'⟩ := blocks1 (w.alloc (.cells c1 T1)) c2 T2
  rw [s] at k2 s'
  exact ⟨b.trans (b'.mono b.size), k1.alloc _, k2, s'⟩
theorem below_drews (w : World) (n : Nat) : Below w.heap.size w (w.drewN n) := by
  induction n with
  | zero => exact Below.refl _ _
  | succ n ih => exact ih.drew

end Go.Proofs.YtgoelfaemclioaaDoor

/-
  Whole numbers as bytes, the lowest first (layer 6), in plain numbers.
-/
set_option maxRecDepth 100000
namespace Go.Proofs.YtgoelfaemclioaaDoor
open Go.RowKit

namespace Nt
/-- The number that bytes spell, the lowest first. -/
def val : List Nat → Nat
  | [] => 0
  | x :: l => x + 256 * val l
/-! ### Two numbers, byte by byte -/

/-! ### Which is greater -/

/-! ### Products -/

/-! ### Texts -/

end Nt

end Go.Proofs.YtgoelfaemclioaaDoor

/-
  The library's Clone and Equal, of bytes.
-/
set_option maxRecDepth 100000
namespace Go.Proofs.YtgoelfaemclioaaDoor
open Go.RowKit

/-- The bytes as a string's. -/
def strOf (l : List Nat) : ByteArray := strOfNums (l.map Int.ofNat)

theorem strOf_inj {x y : List Nat} (hx : ∀ z, z ∈ x → z < 256) (hy : ∀ z, z ∈ y → z < 256) (h : strOf x = strOf y) : x = y := by
  have e : ∀ l : List Nat, (∀ z, z ∈ l → z < 256) → (strOf l).data.toList.map UInt8.toNat = l := by
    intro l hl
    unfold strOf
    rw [strOfNums_data, List.map_map, List.map_map]
    conv => rhs; rw [← List.map_id l]
    refine List.map_congr_left fun z hz => ?_
    have := hl z hz
    simp [Nat.mod_eq_of_lt this]
  rw [← e x hx, ← e y hy, h]

theorem strOf_dec {x y : List Nat} (hx : ∀ z, z ∈ x → z < 256) (hy : ∀ z, z ∈ y → z < 256) : ((strOf x).toList == (strOf y).toList) = decide (x = y) := by
  rw [ByteArray.toList_eq, ByteArray.toList_eq]
  by_cases h : x = y
  · subst h; simp
  · rw [decide_eq_false h, beq_eq_false_iff_ne]
    refine fun e => h (strOf_inj hx hy ?_)
    cases hx' : strOf x; cases hy' : strOf y
    rw [hx', hy'] at e
    simpa using e

end Go.Proofs.YtgoelfaemclioaaDoor

/-
  The document's answer for numbers (wellspringref06), in the program: 'Text'.
-/
set_option maxRecDepth 100000
namespace Go.Proofs.YtgoelfaemclioaaDoor
open Go.RowKit

theorem strOf_append (a b : List Nat) : strOf a ++ strOf b = strOf (a ++ b) := by
  have e : ∀ x y : ByteArray, x.data.toList = y.data.toList → x = y := by
    intro x y h
    cases x; cases y
    simp only [ByteArray.mk.injEq]
    exact Array.toList_inj.1 h
  apply e
  rw [ByteArray.data_append, Array.toList_append]
  unfold strOf
  rw [strOfNums_data, strOfNums_data, strOfNums_data]
  simp

theorem strOf_size (l : List Nat) : (strOf l).size = l.length := by unfold strOf; rw [strOfNums_size, List.length_map]

theorem strOf_isEmpty (l : List Nat) : (strOf l).toList.isEmpty = l.isEmpty := by
  rw [ByteArray.toList_eq]
  unfold strOf
  rw [strOfNums_data]
  cases l <;> rfl

end Go.Proofs.YtgoelfaemclioaaDoor

/-
  The document's answer for numbers (wellspringref06), in the program: 'Parse'.
-/
set_option maxRecDepth 100000
namespace Go.Proofs.YtgoelfaemclioaaDoor
open Go.RowKit

namespace Nt
/-- Is the character a digit's? -/
def IsHex (c : Nat) : Prop := (48 ≤ c ∧ c ≤ 57) ∨ (97 ≤ c ∧ c ≤ 102)
instance (c : Nat) : Decidable (IsHex c) := by unfold IsHex; infer_instance
/-- A character's digit. -/
def hv (c : Nat) : Nat := if c ≤ 57 then c - 48 else c - 87
/-- The character number j, counted from the end. -/
def ch (t : List Nat) (j : Nat) : Nat := nth t (t.length - 1 - j)
/-- Is it a number's text? -/
def IsText (t : List Nat) : Prop := t ≠ [] ∧ ¬ (1 < t.length ∧ nth t 0 = 48) ∧ ∀ j, j < t.length → IsHex (ch t j)
instance (t : List Nat) : Decidable (IsText t) := by unfold IsText; infer_instance
end Nt

/-- A string's byte. -/
theorem strOf_at {l : List Nat} (hl : ∀ x, x ∈ l → x < 256) {S : ByteArray} (hS : S = strOf l) (i : Nat) (h : i < S.size) : (S[i]'h).toNat = nth l i := by
  subst hS
  have hi : i < l.length := by rw [strOf_size] at h; exact h
  have e : ((strOf l)[i]'h) = (strOf l).data.toList[i]'(by unfold strOf; rw [strOfNums_data]; simpa using hi) := by simp; rfl
  have hx := hl _ (List.getElem_mem hi)
  rw [e, nth_eq l i hi]
  simp only [strOf, strOfNums_data, List.getElem_map]
  show (UInt8.ofNat (l[i])).toNat = l[i]
  simp
  omega

end Go.Proofs.YtgoelfaemclioaaDoor

/-
  The document's answer for a plan's text (wellspringref10), in the program: 'word'.
-/
set_option maxRecDepth 100000
namespace Go.Proofs.YtgoelfaemclioaaDoor
open Go.RowKit

theorem strOf_extract (l : List Nat) (i j : Nat) : (strOf l).extract i j = strOf ((l.take j).drop i) := by
  have e : ∀ x y : ByteArray, x.data.toList = y.data.toList → x = y := by
    intro x y h
    cases x; cases y
    congr
    exact Array.toList_inj.1 h
  apply e
  rw [ByteArray.data_extract, Array.toList_extract]
  unfold strOf
  rw [strOfNums_data, strOfNums_data]
  simp only [List.extract_eq_take_drop, List.map_map, List.map_drop, List.map_take]
  by_cases h : i ≤ j
  · rw [List.take_drop, Nat.add_sub_cancel' h]
  · rw [show j - i = 0 by omega, List.take_zero]
    exact (List.drop_eq_nil_of_le (by rw [List.length_take]; omega)).symm
/-- The first word, what is behind the blank, and whether there is a blank. -/
def wordW : List Nat → List Nat
  | [] => []
  | c :: t => if c = 32 then [] else c :: wordW t
def wordR : List Nat → List Nat
  | [] => []
  | c :: t => if c = 32 then t else wordR t
def wordM : List Nat → Bool
  | [] => false
  | c :: t => if c = 32 then true else wordM t
theorem wordW_lt {t : List Nat} (h : ∀ x, x ∈ t → x < 256) : ∀ x, x ∈ wordW t → x < 256 := by
  induction t with
  | nil => intro x hx; exact h x hx
  | cons c t ih =>
    unfold wordW
    split
    · intro x hx; simp at hx
    · intro x hx
      rcases List.mem_cons.1 hx with rfl | hx
      · exact h _ (by simp)
      · exact ih (fun y hy => h y (by simp [hy])) x hx
theorem wordR_lt {t : List Nat} (h : ∀ x, x ∈ t → x < 256) : ∀ x, x ∈ wordR t → x < 256 := by
  induction t with
  | nil => intro x hx; exact h x hx
  | cons c t ih =>
    unfold wordR
    split
    · intro x hx; exact h x (by simp [hx])
    · intro x hx; exact ih (fun y hy => h y (by simp [hy])) x hx
theorem word_len (t : List Nat) : (wordW t).length + (wordR t).length ≤ t.length := by
  induction t with
  | nil => simp [wordW, wordR]
  | cons c t ih =>
    unfold wordW wordR
    split
    · simp
    · simp; omega

end Go.Proofs.YtgoelfaemclioaaDoor

/-
  The document's answer for a plan's text (wellspringref10), in the program: 'Number'.
-/
set_option maxRecDepth 100000
namespace Go.Proofs.YtgoelfaemclioaaDoor
open Go.RowKit

/-- Is the character a figure? -/
def IsDig (c : Nat) : Prop := 48 ≤ c ∧ c ≤ 57
instance (c : Nat) : Decidable (IsDig c) := inferInstanceAs (Decidable (_ ∧ _))
/-- The number that figures tell, as far as the bound. -/
def numV (t : List Nat) : Nat := t.foldl (fun n c => min (10 * n + (c - 48)) 4294967296) 0
/-- Are these a number's figures? -/
def NumOk (t : List Nat) : Prop := t ≠ [] ∧ ¬ (1 < t.length ∧ nth t 0 = 48) ∧ ∀ i, i < t.length → IsDig (nth t i)
instance (t : List Nat) : Decidable (NumOk t) := inferInstanceAs (Decidable (_ ∧ _ ∧ _))
def numN (t : List Nat) : Nat := if NumOk t then numV t else 0
def numB (t : List Nat) (b : Int) : Bool := decide (NumOk t ∧ (numV t : Int) < b)
end Go.Proofs.YtgoelfaemclioaaDoor

/-
  What the statements' frames share: arguments read behind the call as before, where below the heap's old size nothing has turned; a slice of bytes that came in, opened.
-/
set_option maxRecDepth 100000
namespace Go.Proofs.YtgoelfaemclioaaDoor
open Go.ChangeShapes Go.WideShapes Go.ChangeAt Go.RowKit

theorem own : ownKnob Tryd.prog.godebug = none := by kernel_rfl
theorem laidOut : laidOutB Tryd.prog = true := by kernel_rfl

theorem Below.trodAll {H : Type} {enc : TypeId × Value → H} {P : Program} (hl : laidOutB P = true) {W W' : World} (hb : Below W.heap.size W W') :
    ∀ {ts : List TypeId} {vs : List Value} {ds : List (DataW H)} {ps : List MemPlace}, (∀ t ∈ ts, P.readableRec t = true ∧ t < P.types.size) →
      DataW.TrodAll enc P W 0 (fun _ => true) true ts vs ds ps → (∀ x ∈ ps, x.block < W.heap.size) → DataW.TrodAll enc P W' 0 (fun b => decide (b < W.heap.size)) true ts vs ds ps
  | [], [], [], _, _, h, _ => h
  | t :: ts, v :: vs, d :: ds, _, ht, ⟨p, q, h1, h2, e⟩, hlt =>
    ⟨p, q, Go.RowKit.Below.trod hl (ht t (by simp)).1 (ht t (by simp)).2 h1 hb (fun x hx => hlt x (by rw [e]; exact List.mem_append_left _ hx)),
      Below.trodAll hl hb (fun t' h' => ht t' (by simp [h'])) h2 (fun x hx => hlt x (by rw [e]; exact List.mem_append_right _ hx)), e⟩
  | [], _ :: _, _, _, _, h, _ => h.elim
  | [], [], _ :: _, _, _, h, _ => h.elim
  | _ :: _, [], _, _, _, h, _ => h.elim
  | _ :: _, _ :: _, [], _, _, h, _ => h.elim

/-- An int that came in. -/
theorem int_of {x : Int} (h : (Lit.int .i64 x).wf = true) : -9223372036854775808 ≤ x ∧ x ≤ 9223372036854775807 := by
  have h1 : IntKind.i64.min = -9223372036854775808 := rfl
  have h2 : IntKind.i64.max = 9223372036854775807 := rfl
  simp only [Lit.wf, Bool.and_eq_true, decide_eq_true_eq] at h
  omega

theorem u32_of {x : Int} (h : (Lit.int .u32 x).wf = true) : ∃ n : Nat, x = (n : Int) ∧ n < 4294967296 := by
  have h1 : IntKind.u32.min = 0 := rfl
  have h2 : IntKind.u32.max = 4294967295 := rfl
  simp only [Lit.wf, Bool.and_eq_true, decide_eq_true_eq] at h
  exact ⟨x.toNat, by omega, by omega⟩
end Go.Proofs.YtgoelfaemclioaaDoor

/-
  The document's answer for plans (wellspringref10), in the program: 'Needs', 'Check'.
-/
set_option maxRecDepth 100000
namespace Go.Proofs.YtgoelfaemclioaaDoor
open Go.RowKit

/-- How many symbols a length needs; at most 4097 are told. -/
def needsN (l s : Nat) : Nat := if l ≤ s then 1 else if 4097 * s < l then 4097 else (l - 1) / s + 1
/-- The code of a plan's check. -/
def checkE (l s k : Int) : Int := if l < 0 then 2 else if s < 1 ∨ 65535 < s then 4 else if 4096 < needsN l.toNat s.toNat then 5 else if k = (needsN l.toNat s.toNat : Int) then 0 else 14

end Go.Proofs.YtgoelfaemclioaaDoor

/-
  Where bytes lead (layer 3), in plain numbers and in the document's answer (wellspringref03.Lead).
-/
set_option maxRecDepth 100000
namespace Go.Proofs.YtgoelfaemclioaaDoor
open Go.RowKit

/-- The first place whose byte isn't 0; as many as there are, where there is none. -/
def lead : List Nat → Nat
  | [] => 0
  | x :: l => if x = 0 then lead l + 1 else 0

end Go.Proofs.YtgoelfaemclioaaDoor

/-
  Many bytes at once (layer 2) in the program: 'Scale', 'addTo'.
-/
set_option maxRecDepth 100000
namespace Go.Proofs.YtgoelfaemclioaaDoor
open Go.RowKit

namespace Gf
end Gf

namespace Gf
/-- Two rows, added. -/
def add (s r : List Nat) : List Nat := List.zipWith (· ^^^ ·) s r
end Gf

end Go.Proofs.YtgoelfaemclioaaDoor

/-
  Many bytes at once (layer 2) in the program: 'blank', 'Axpy', 'Sum', 'Comb'.
-/
set_option maxRecDepth 100000
namespace Go.Proofs.YtgoelfaemclioaaDoor
open Go.RowKit

/-- Noughts, as many as the first row has bytes. -/
def zeros (n : Nat) : List Nat := List.replicate n 0

end Go.Proofs.YtgoelfaemclioaaDoor

/-
  The statements of layer 2 (kern), walked: KernReckons.
-/
set_option maxRecDepth 100000
namespace Go.Proofs.YtgoelfaemclioaaDoor
open Go.RowKit

/-- As many ones. -/
def ones (n : Nat) : List Nat := List.replicate n 1

end Go.Proofs.YtgoelfaemclioaaDoor

/-
  The document's answer for rows that lead (wellspringref03), in the program: 'Less'.
-/
set_option maxRecDepth 100000
namespace Go.Proofs.YtgoelfaemclioaaDoor
open Go.RowKit

theorem add_comm (x y : List Nat) : Gf.add x y = Gf.add y x := by
  unfold Gf.add
  induction x generalizing y with
  | nil => cases y <;> rfl
  | cons a x ih =>
    cases y with
    | nil => rfl
    | cons b y => simp only [List.zipWith_cons_cons]; rw [ih y, Nat.xor_comm]

end Go.Proofs.YtgoelfaemclioaaDoor
