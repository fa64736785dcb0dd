/- Texts of one seat, laid together: Gf, Mul, Bytes, Own, MixMath, Blk, NatMath, LibBytes, RefNatE, RefNatF, RefPlanW, RefPlanN, Frame, RefPlan, Lead, KernA, KernC, LawTwoC. -/
import Derived.Test.YtgoelfaemclioaaDoorRows
import Derived.WalkKit
import Derived.WalkSpells
import Derived.WalkLawsBesides
import Derived.Lib.Hide
import Derived.Laws.BytesArg
import Derived.Lib.SliceRun
import Derived.Deep.DeepCutAuto
import Derived.Laws.OwnMore
import Derived.Deep.AppendLies
import Derived.BigQuiet
import Derived.ProofKit
import Derived.OpenShut
import Derived.Deep.Slices
import Derived.Deep.RegionHeld3
import Derived.Deep.QuietTactic

/-
  Bytes as a field (layer 1), in plain numbers: the product by shifting and adding, that it is the one of polynomials modulo 11D, and that it is commutative, associative and distributes. No program in this text.
-/
namespace Go.Proofs.YtgoelfaemclioaaDoor
namespace Gf

/-- The product with x. -/
def dbl (a : Nat) : Nat := if a < 128 then 2 * a else (2 * a) ^^^ 285

/-- The product with x, n times. -/
def dblN (a : Nat) : Nat → Nat
  | 0 => a
  | n + 1 => dbl (dblN a n)

/-- The product, by the first k bits of b. -/
def mulK (a b : Nat) : Nat → Nat
  | 0 => 0
  | k + 1 => mulK a b k ^^^ (if b.testBit k then dblN a k else 0)

def mul (a b : Nat) : Nat := mulK a b 8

/-! ### exclusive or -/

theorem xor_lt {a b : Nat} (ha : a < 256) (hb : b < 256) : a ^^^ b < 256 := Nat.xor_lt_two_pow (n := 8) ha hb

theorem xor_four (a b c d : Nat) : (a ^^^ b) ^^^ (c ^^^ d) = (a ^^^ c) ^^^ (b ^^^ d) := by
  rw [Nat.xor_assoc, Nat.xor_assoc, ← Nat.xor_assoc b c d, Nat.xor_comm b c, Nat.xor_assoc c b d]

/-! ### doubling is linear -/

theorem dbl_alt (a : Nat) (h : a < 256) : dbl a = (2 * a) ^^^ (if a.testBit 7 then 285 else 0) := by
  have : ∀ a : Fin 256, dbl a.1 = (2 * a.1) ^^^ (if a.1.testBit 7 then 285 else 0) := by decide +kernel
  exact this ⟨a, h⟩

theorem dbl_lt {a : Nat} (h : a < 256) : dbl a < 256 := by
  have : ∀ a : Fin 256, dbl a.1 < 256 := by decide +kernel
  exact this ⟨a, h⟩

theorem ite_xor (p q : Bool) (c : Nat) : (if (p ^^ q) = true then c else 0) = (if p = true then c else 0) ^^^ (if q = true then c else 0) := by
  cases p <;> cases q <;> simp

theorem two_mul_xor (a b : Nat) : 2 * (a ^^^ b) = (2 * a) ^^^ (2 * b) := by
  apply Nat.eq_of_testBit_eq
  intro i
  have e : ∀ x : Nat, 2 * x = x <<< 1 := fun x => by rw [Nat.shiftLeft_eq, Nat.mul_comm]
  rw [e, e, e, Nat.testBit_shiftLeft, Nat.testBit_xor, Nat.testBit_xor, Nat.testBit_shiftLeft, Nat.testBit_shiftLeft]
  cases decide (i ≥ 1) <;> simp

theorem dbl_xor {a b : Nat} (ha : a < 256) (hb : b < 256) : dbl (a ^^^ b) = dbl a ^^^ dbl b := by
  rw [dbl_alt _ ha, dbl_alt _ hb, dbl_alt _ (xor_lt ha hb), Nat.testBit_xor, ite_xor, two_mul_xor, xor_four]

theorem dblN_lt {a : Nat} (h : a < 256) : ∀ n, dblN a n < 256
  | 0 => h
  | n + 1 => dbl_lt (dblN_lt h n)

theorem dblN_zero : ∀ n, dblN 0 n = 0
  | 0 => rfl
  | n + 1 => by simp only [dblN]; rw [dblN_zero n]; rfl

theorem dblN_add (a m : Nat) : ∀ n, dblN a (m + n) = dblN (dblN a m) n
  | 0 => rfl
  | n + 1 => by show dbl (dblN a (m + n)) = dbl (dblN (dblN a m) n); rw [dblN_add a m n]

theorem dblN_dbl (a : Nat) (n : Nat) : dblN (dbl a) n = dbl (dblN a n) := by
  have h := dblN_add a 1 n
  rw [Nat.add_comm] at h
  exact h.symm

/-! ### the product -/

theorem mulK_lt {a : Nat} (h : a < 256) (b : Nat) : ∀ k, mulK a b k < 256
  | 0 => Nat.zero_lt_succ _
  | k + 1 => by
    simp only [mulK]
    refine xor_lt (mulK_lt h b k) ?_
    split
    · exact dblN_lt h k
    · decide

theorem mulK_dbl {a : Nat} (ha : a < 256) (b : Nat) : ∀ k, mulK (dbl a) b k = dbl (mulK a b k)
  | 0 => rfl
  | k + 1 => by
    simp only [mulK]
    rw [mulK_dbl ha b k, dblN_dbl]
    cases b.testBit k
    · simp
    · simp only [if_true]; rw [dbl_xor (mulK_lt ha b k) (dblN_lt ha k)]

theorem mul_dbl {a : Nat} (ha : a < 256) (b : Nat) : mul (dbl a) b = dbl (mul a b) := mulK_dbl ha b 8

theorem mul_dblN {a : Nat} (ha : a < 256) (b : Nat) : ∀ n, mul (dblN a n) b = dblN (mul a b) n
  | 0 => rfl
  | n + 1 => by simp only [dblN]; rw [mul_dbl (dblN_lt ha n), mul_dblN ha b n]

theorem one_mul {b : Nat} (hb : b < 256) : mul 1 b = b := by
  have : ∀ b : Fin 256, mul 1 b.1 = b.1 := by decide +kernel
  exact this ⟨b, hb⟩

theorem mul_zero (a : Nat) : mul a 0 = 0 := by simp [mul, mulK]

theorem zero_mul (b : Nat) : mul 0 b = 0 := by
  have h : ∀ k, mulK 0 b k = 0 := by
    intro k
    induction k with
    | zero => rfl
    | succ k ih => simp [mulK, ih, dblN_zero]
  exact h 8

/-! ### powers of 2 -/

/-- 2 to the n. -/
def exp (n : Nat) : Nat := dblN 1 n

theorem exp_lt (n : Nat) : exp n < 256 := dblN_lt (by decide) n

/-- Doubled so often till it is a: how often. -/
def logF (a : Nat) : Nat → Nat → Nat → Nat
  | 0, _, n => n
  | f + 1, p, n => if p = a then n else logF a f (dbl p) (n + 1)

/-- Of which power of 2 it is one. -/
def log (a : Nat) : Nat := logF a 255 1 0

theorem log_spec : ∀ a : Fin 256, a.1 ≠ 0 → exp (log a.1) = a.1 ∧ log a.1 < 255 := by decide +kernel

theorem exp_log {a : Nat} (h : a < 256) (h0 : a ≠ 0) : exp (log a) = a := (log_spec ⟨a, h⟩ h0).1
theorem exp_add (m n : Nat) : exp (m + n) = dblN (exp m) n := dblN_add 1 m n

theorem exp_mul (n : Nat) {b : Nat} (hb : b < 256) : mul (exp n) b = dblN b n := by
  unfold exp; rw [mul_dblN (by decide), one_mul hb]

theorem exp_mul_exp (m n : Nat) : mul (exp m) (exp n) = exp (m + n) := by
  rw [exp_mul m (exp_lt n), Nat.add_comm, exp_add]

/-! ### the field -/

theorem mul_comm {a b : Nat} (ha : a < 256) (hb : b < 256) : mul a b = mul b a := by
  by_cases h0 : a = 0
  · rw [h0, zero_mul, mul_zero]
  by_cases h1 : b = 0
  · rw [h1, zero_mul, mul_zero]
  rw [← exp_log ha h0, ← exp_log hb h1, exp_mul_exp, exp_mul_exp, Nat.add_comm]

/-! ### powers -/

/-! ### the polynomials' product: first all of it, then what the modulus leaves -/

end Gf
end Go.Proofs.YtgoelfaemclioaaDoor

/-
  The byte's product in the program: 'double', 'times', and that they answer the plain product of XGf.
-/
set_option maxRecDepth 100000
namespace Go.Proofs.YtgoelfaemclioaaDoor
open Go.RowKit

/-- One byte out of two numbers. -/
abbrev U8 (n : Nat) : Value := .int .u8 (n : Int)

end Go.Proofs.YtgoelfaemclioaaDoor

/-
  Slices of bytes in memory: what is said of one that is read, and that it stays where nothing below it turns.
-/
set_option maxRecDepth 100000
namespace Go.Proofs.YtgoelfaemclioaaDoor
open Go.RowKit

/-- The element of a place: by a name of its own, so that the walk leaves it as it is. -/
def nth (l : List Nat) (i : Nat) : Nat := l.getD i 0

/-- The value is a slice that reads as these bytes. -/
def Bytes (w : World) (v : Value) (l : List Nat) : Prop :=
  ∃ a cap, v = .slice a l.length cap ∧ l.length ≤ cap ∧ cap ≤ 9223372036854775807 ∧ (∀ x, x ∈ l → x < 256) ∧
    (l ≠ [] → ∃ b off, a = some ⟨b, off, none⟩ ∧ b < w.heap.size ∧ ∀ i, i < l.length → w.cell? ⟨b, off + i, none⟩ = some (U8 (nth l i)))

theorem nth_lt {l : List Nat} (h : ∀ x, x ∈ l → x < 256) (i : Nat) : nth l i < 256 := by
  unfold nth
  rw [List.getD_eq_getElem?_getD]
  by_cases hi : i < l.length
  · rw [List.getElem?_eq_getElem hi]; exact h _ (List.getElem_mem hi)
  · rw [List.getElem?_eq_none (by omega)]; show 0 < 256; decide

theorem nth_eq (l : List Nat) (i : Nat) (h : i < l.length) : nth l i = l[i] := by
  unfold nth; rw [List.getD_eq_getElem?_getD, List.getElem?_eq_getElem h]; rfl

end Go.Proofs.YtgoelfaemclioaaDoor

/-
  A block of bytes that a call made itself: what it holds, what a store makes of it, and that it stays where others are written.
-/
set_option maxRecDepth 100000
namespace Go.Proofs.YtgoelfaemclioaaDoor
open Go.RowKit

theorem grown_trans {a b c : World} {row : Option Nat} (h : a.grownBy b row) (k : b.grownBy c row) : a.grownBy c row :=
  ⟨k.os.trans h.os, k.tape.trans h.tape, k.output.trans h.output, Nat.le_trans h.size k.size, fun i hi hn => (k.block i (Nat.lt_of_lt_of_le hi h.size) hn).trans (h.block i hi hn)⟩
theorem grown_of_below {a b : World} (h : Below a.heap.size a b) (row : Option Nat) : a.grownBy b row := ⟨h.os, h.tape, h.output, h.size, fun k hk _ => h.block k hk⟩
theorem grown_setCell (w : World) (p : Addr) (u : Value) : w.grownBy (w.setCell p u) (some p.block) :=
  ⟨rfl, rfl, rfl, by simp [World.setCell], fun k _ hn => Below.heap_setCell w p u k (fun e => hn (by rw [e]))⟩
/-- One row of those from B on was written. -/
theorem below_grown {B g : Nat} {a b c : World} (h : Below B a b) (hg : b.grownBy c (some g)) (hB : B ≤ b.heap.size) (hgB : B ≤ g) : Below B a c :=
  h.grown hg hB (fun _ e => by cases e; exact hgB)

end Go.Proofs.YtgoelfaemclioaaDoor

/-
  Bytes out of a seed (layer 5), in plain numbers.
-/
set_option maxRecDepth 100000
namespace Go.Proofs.YtgoelfaemclioaaDoor
open Go.RowKit

namespace Mx
/-- 2 to the 64. -/
def M : Nat := 18446744073709551616
/-- Combined with itself, so many bits to the right. -/
def sh (z k : Nat) : Nat := z ^^^ (z / 2 ^ k)
/-- The state's step. -/
def step (s : Nat) : Nat := (s + 11400714819323198485) % 18446744073709551616
/-- What a state tells. -/
def mixed (z : Nat) : Nat := sh (sh (sh z 30 * 13787848793156543929 % 18446744073709551616) 27 * 10723151780598845931 % 18446744073709551616) 31
/-! ### Unlike states tell unlike numbers -/

end Mx

end Go.Proofs.YtgoelfaemclioaaDoor

/-
  A block of whatever values (a struct's box, a variable, a result): what it holds, and that it stays where others are written.
-/
set_option maxRecDepth 100000
namespace Go.Proofs.YtgoelfaemclioaaDoor
open Go.RowKit

/-- Block g holds these values, of that type, and isn't frozen. -/
def Blk (w : World) (g : Nat) (vs : Array Value) (T : TypeId) : Prop := w.heap[g]? = some (.cells vs T)

theorem Blk.lt {w : World} {g : Nat} {vs : Array Value} {T : TypeId} (h : Blk w g vs T) : g < w.heap.size := (Array.getElem?_eq_some_iff.1 h).1
theorem Blk.cell {w : World} {g : Nat} {vs : Array Value} {T : TypeId} (h : Blk w g vs T) (k : Nat) : w.cell? ⟨g, k, none⟩ = vs[k]? := cell_of_row w g k _ _ (0, 0) h
theorem Blk.free {w : World} {g : Nat} {vs : Array Value} {T : TypeId} (h : Blk w g vs T) (k : Nat) : w.frozen? ⟨g, k, none⟩ = false := frozen_of_row w g k _ _ h
theorem Blk.new (w : World) (vs : Array Value) (T : TypeId) (g : Nat) (hg : g = w.heap.size) : Blk (w.alloc (.cells vs T)) g vs T := by subst hg; exact heap_alloc_new w _
theorem Blk.alloc {w : World} {g : Nat} {vs : Array Value} {T : TypeId} (h : Blk w g vs T) (o : Obj) : Blk (w.alloc o) g vs T := by
  unfold Blk; rw [Below.heap_alloc w o g h.lt]; exact h
theorem Blk.below {w w' : World} {g B : Nat} {vs : Array Value} {T : TypeId} (h : Blk w g vs T) (hB : g < B) (hb : Below B w w') : Blk w' g vs T := by
  unfold Blk; rw [hb.block g hB]; exact h
theorem Blk.same {w w' : World} {g : Nat} {vs : Array Value} {T : TypeId} (h : Blk w g vs T) (hb : Below w.heap.size w w') : Blk w' g vs T := h.below h.lt hb
theorem Blk.grown {w w' : World} {g : Nat} {row : Option Nat} {vs : Array Value} {T : TypeId} (h : Blk w g vs T) (hg : w.grownBy w' row) (hne : some g ≠ row) : Blk w' g vs T := by
  unfold Blk; rw [hg.block g h.lt hne]; exact h

theorem Blk.set {w : World} {g : Nat} {vs : Array Value} {T : TypeId} (h : Blk w g vs T) (k : Nat) (v : Value) : Blk (w.setCell ⟨g, k, none⟩ v) g (vs.setIfInBounds k v) T := by
  unfold Blk World.setCell
  have e : w.heap[g]? = some (.cells vs T) := h
  simp [Array.getElem?_modify, e]

theorem cell_keep {w w' : World} {p : Addr} {v : Value} (h : w.cell? p = some v) (hb : Below w.heap.size w w') : w'.cell? p = some v := by
  rw [hb.cell (World.block_lt_of_cell? w _ h)]; exact h

/-! ### What is known, carried over a call that turns nothing of what was there -/

theorem Blk.go {w w' : World} {g : Nat} {vs : Array Value} {T : TypeId} (h : Blk w g vs T) (hb : Below w.heap.size w w') : Blk w' g vs T := h.same hb

/-- New blocks, one behind the other. -/
theorem blocks1 (w : World) (c1 : Array Value) (T1 : TypeId) : Below w.heap.size w (w.alloc (.cells c1 T1)) ∧ Blk (w.alloc (.cells c1 T1)) w.heap.size c1 T1 ∧ (w.alloc (.cells c1 T1)).heap.size = w.heap.size + 1 :=
  ⟨(Below.refl _ _).alloc (Nat.le_refl _) _, Blk.new w c1 T1 _ rfl, by simp⟩
theorem blocks2 (w : World) (c1 : Array Value) (T1 : TypeId) (c2 : Array Value) (T2 : TypeId) : Below w.heap.size w ((w.alloc (.cells c1 T1)).alloc (.cells c2 T2)) ∧ Blk ((w.alloc (.cells c1 T1)).alloc (.cells c2 T2)) w.heap.size c1 T1 ∧
    Blk ((w.alloc (.cells c1 T1)).alloc (.cells c2 T2)) (w.heap.size + 1) c2 T2 ∧ ((w.alloc (.cells c1 T1)).alloc (.cells c2 T2)).heap.size = w.heap.size + 1 + 1 := by
  obtain ⟨b, k1, s⟩ := blocks1 w c1 T1
  obtain ⟨b', k2, s'⟩ := blocks1 (w.alloc (.cells c1 T1)) c2 T2
  rw [s] at k2 s'
  exact ⟨b.trans (b'.mono b.size), k1.alloc _, k2, s'⟩
/-- A call in a region that only reads. -/
theorem quiet_eq {f : FuncId} {args : Array Value} {w : World} {n : Nat} {v : Value} (h : Calls Tryd.prog f args (w.drewN n) fun e w' => e = .returned v ∧ w.drewN n = w') :
    Calls Tryd.prog f args (w.drewN n) fun e w'' => e = .returned v ∧ ∃ m, w'' = w.drewN m := h.mono fun _ _ ⟨he, hm⟩ => ⟨he, n, hm.symm⟩
theorem below_drews (w : World) (n : Nat) : Below w.heap.size w (w.drewN n) := by
  induction n with
  | zero => exact Below.refl _ _
  | succ n ih => exact ih.drew

end Go.Proofs.YtgoelfaemclioaaDoor

/-
  Whole numbers as bytes, the lowest first (layer 6), in plain numbers.
-/
set_option maxRecDepth 100000
namespace Go.Proofs.YtgoelfaemclioaaDoor
open Go.RowKit

namespace Nt
/-- The number that bytes spell, the lowest first. -/
def val : List Nat → Nat
  | [] => 0
  | x :: l => x + 256 * val l
/-! ### Two numbers, byte by byte -/

/-! ### Which is greater -/

/-! ### Products -/

/-! ### Texts -/

end Nt

end Go.Proofs.YtgoelfaemclioaaDoor

/-
  The library's Clone and Equal, of bytes.
-/
set_option maxRecDepth 100000
namespace Go.Proofs.YtgoelfaemclioaaDoor
open Go.RowKit

/-- The bytes as a string's. -/
def strOf (l : List Nat) : ByteArray := strOfNums (l.map Int.ofNat)

theorem strOf_inj {x y : List Nat} (hx : ∀ z, z ∈ x → z < 256) (hy : ∀ z, z ∈ y → z < 256) (h : strOf x = strOf y) : x = y := by
  have e : ∀ l : List Nat, (∀ z, z ∈ l → z < 256) → (strOf l).data.toList.map UInt8.toNat = l := by
    intro l hl
    unfold strOf
    rw [strOfNums_data, List.map_map, List.map_map]
    conv => rhs; rw [← List.map_id l]
    refine List.map_congr_left fun z hz => ?_
    have := hl z hz
    simp [Nat.mod_eq_of_lt this]
  rw [← e x hx, ← e y hy, h]

theorem strOf_dec {x y : List Nat} (hx : ∀ z, z ∈ x → z < 256) (hy : ∀ z, z ∈ y → z < 256) : ((strOf x).toList == (strOf y).toList) = decide (x = y) := by
  rw [ByteArray.toList_eq, ByteArray.toList_eq]
  by_cases h : x = y
  · subst h; simp
  · rw [decide_eq_false h, beq_eq_false_iff_ne]
    refine fun e => h (strOf_inj hx hy ?_)
    cases hx' : strOf x; cases hy' : strOf y
    rw [hx', hy'] at e
    simpa using e

end Go.Proofs.YtgoelfaemclioaaDoor

/-
  The document's answer for numbers (wellspringref06), in the program: 'Text'.
-/
set_option maxRecDepth 100000
namespace Go.Proofs.YtgoelfaemclioaaDoor
open Go.RowKit

theorem strOf_size (l : List Nat) : (strOf l).size = l.length := by unfold strOf; rw [strOfNums_size, List.length_map]

theorem strOf_isEmpty (l : List Nat) : (strOf l).toList.isEmpty = l.isEmpty := by
  rw [ByteArray.toList_eq]
  unfold strOf
  rw [strOfNums_data]
  cases l <;> rfl

end Go.Proofs.YtgoelfaemclioaaDoor

/-
  The document's answer for numbers (wellspringref06), in the program: 'Parse'.
-/
set_option maxRecDepth 100000
namespace Go.Proofs.YtgoelfaemclioaaDoor
open Go.RowKit

namespace Nt
/-- Is the character a digit's? -/
def IsHex (c : Nat) : Prop := (48 ≤ c ∧ c ≤ 57) ∨ (97 ≤ c ∧ c ≤ 102)
instance (c : Nat) : Decidable (IsHex c) := by unfold IsHex; infer_instance
/-- A character's digit. -/
def hv (c : Nat) : Nat := if c ≤ 57 then c - 48 else c - 87
/-- The character number j, counted from the end. -/
def ch (t : List Nat) (j : Nat) : Nat := nth t (t.length - 1 - j)
/-- Is it a number's text? -/
def IsText (t : List Nat) : Prop := t ≠ [] ∧ ¬ (1 < t.length ∧ nth t 0 = 48) ∧ ∀ j, j < t.length → IsHex (ch t j)
instance (t : List Nat) : Decidable (IsText t) := by unfold IsText; infer_instance
end Nt

/-- A string's byte. -/
theorem strOf_at {l : List Nat} (hl : ∀ x, x ∈ l → x < 256) {S : ByteArray} (hS : S = strOf l) (i : Nat) (h : i < S.size) : (S[i]'h).toNat = nth l i := by
  subst hS
  have hi : i < l.length := by rw [strOf_size] at h; exact h
  have e : ((strOf l)[i]'h) = (strOf l).data.toList[i]'(by unfold strOf; rw [strOfNums_data]; simpa using hi) := by simp; rfl
  have hx := hl _ (List.getElem_mem hi)
  rw [e, nth_eq l i hi]
  simp only [strOf, strOfNums_data, List.getElem_map]
  show (UInt8.ofNat (l[i])).toNat = l[i]
  simp
  omega

/-- Any text is one of bytes. -/
theorem strOf_of (b : ByteArray) : ∃ t : List Nat, b = strOf t ∧ (∀ x, x ∈ t → x < 256) ∧ t.length = b.size := by
  refine ⟨b.data.toList.map UInt8.toNat, ?_, ?_, by rw [List.length_map, Array.length_toList]; rfl⟩
  · have e : ∀ x y : ByteArray, x.data.toList = y.data.toList → x = y := by
      intro x y h
      cases x; cases y
      simp only [ByteArray.mk.injEq]
      exact Array.toList_inj.1 h
    apply e
    unfold strOf
    rw [strOfNums_data, List.map_map, List.map_map]
    conv => lhs; rw [← List.map_id b.data.toList]
    refine List.map_congr_left fun z _ => ?_
    simp
  · intro x hx
    obtain ⟨z, _, rfl⟩ := List.mem_map.1 hx
    exact z.toNat_lt

end Go.Proofs.YtgoelfaemclioaaDoor

/-
  The document's answer for a plan's text (wellspringref10), in the program: 'word'.
-/
set_option maxRecDepth 100000
namespace Go.Proofs.YtgoelfaemclioaaDoor
open Go.RowKit

theorem strOf_extract (l : List Nat) (i j : Nat) : (strOf l).extract i j = strOf ((l.take j).drop i) := by
  have e : ∀ x y : ByteArray, x.data.toList = y.data.toList → x = y := by
    intro x y h
    cases x; cases y
    congr
    exact Array.toList_inj.1 h
  apply e
  rw [ByteArray.data_extract, Array.toList_extract]
  unfold strOf
  rw [strOfNums_data, strOfNums_data]
  simp only [List.extract_eq_take_drop, List.map_map, List.map_drop, List.map_take]
  by_cases h : i ≤ j
  · rw [List.take_drop, Nat.add_sub_cancel' h]
  · rw [show j - i = 0 by omega, List.take_zero]
    exact (List.drop_eq_nil_of_le (by rw [List.length_take]; omega)).symm
/-- The first word, what is behind the blank, and whether there is a blank. -/
def wordW : List Nat → List Nat
  | [] => []
  | c :: t => if c = 32 then [] else c :: wordW t
def wordR : List Nat → List Nat
  | [] => []
  | c :: t => if c = 32 then t else wordR t
def wordM : List Nat → Bool
  | [] => false
  | c :: t => if c = 32 then true else wordM t
theorem wordAt_eq : ∀ (t : List Nat) (k : Nat), k < t.length → (∀ q, q < k → nth t q ≠ 32) → nth t k = 32 → wordW t = t.take k ∧ wordR t = t.drop (k + 1) ∧ wordM t = true
  | [], k, hk, _, _ => by simp at hk
  | c :: t, 0, _, _, h => by
    have h : c = 32 := h
    unfold wordW wordR wordM
    rw [if_pos h, if_pos h, if_pos h]; simp
  | c :: t, k + 1, hk, ha, h => by
    have hc : ¬ c = 32 := ha 0 (by omega)
    obtain ⟨h1, h2, h3⟩ := wordAt_eq t k (by simpa using hk) (fun q hq => ha (q + 1) (by omega)) h
    unfold wordW wordR wordM
    rw [if_neg hc, if_neg hc, if_neg hc, h1, h2, h3]; simp
theorem word_none : ∀ (t : List Nat), (∀ q, q < t.length → nth t q ≠ 32) → wordW t = t ∧ wordR t = [] ∧ wordM t = false
  | [], _ => ⟨rfl, rfl, rfl⟩
  | c :: t, ha => by
    have hc : ¬ c = 32 := ha 0 (by simp)
    obtain ⟨h1, h2, h3⟩ := word_none t (fun q hq => ha (q + 1) (by simpa using hq))
    unfold wordW wordR wordM
    rw [if_neg hc, if_neg hc, if_neg hc, h1, h2, h3]; simp
theorem wordW_lt {t : List Nat} (h : ∀ x, x ∈ t → x < 256) : ∀ x, x ∈ wordW t → x < 256 := by
  induction t with
  | nil => intro x hx; exact h x hx
  | cons c t ih =>
    unfold wordW
    split
    · intro x hx; simp at hx
    · intro x hx
      rcases List.mem_cons.1 hx with rfl | hx
      · exact h _ (by simp)
      · exact ih (fun y hy => h y (by simp [hy])) x hx
theorem wordR_lt {t : List Nat} (h : ∀ x, x ∈ t → x < 256) : ∀ x, x ∈ wordR t → x < 256 := by
  induction t with
  | nil => intro x hx; exact h x hx
  | cons c t ih =>
    unfold wordR
    split
    · intro x hx; exact h x (by simp [hx])
    · intro x hx; exact ih (fun y hy => h y (by simp [hy])) x hx
theorem word_len (t : List Nat) : (wordW t).length + (wordR t).length ≤ t.length := by
  induction t with
  | nil => simp [wordW, wordR]
  | cons c t ih =>
    unfold wordW wordR
    split
    · simp
    · simp; omega

set_option maxHeartbeats 1000000 in
theorem refword_any (t : List Nat) (w : World) (ht : ∀ x, x ∈ t → x < 256) (hm0 : t.length ≤ 9223372036854775807) :
    Calls Tryd.prog 22 #[.string (strOf t)] w fun e w' => e = .returned (.tuple #[.string (strOf (wordW t)), .string (strOf (wordR t)), .bool (wordM t)]) ∧ Below w.heap.size w w' := by
  obtain ⟨S, hS⟩ : ∃ S, S = strOf t := ⟨_, rfl⟩
  obtain ⟨m, hm⟩ : ∃ m, m = t.length := ⟨_, rfl⟩
  have hsz : S.size = m := by rw [hS, strOf_size, hm]
  have HSA := Lib.hid (fun i h => strOf_at ht hS i h)
  have HAT := Lib.hid (wordAt_eq t)
  have HNO := Lib.hid (word_none t)
  have HEX := Lib.hid (fun i j => (show S.extract i j = strOf ((t.take j).drop i) by rw [hS]; exact strOf_extract t i j))
  rw [← hm] at HAT HNO hm0
  have HST := Lib.hid hS
  have HML := Lib.hid hm
  rw [← hS]
  generalize wordW t = A at *
  generalize wordR t = R at *
  generalize wordM t = M at *
  clear hS hm
  go_enter Tryd.func22, Tryd.ntmps22
  go_wp2_with fail
  go_loop [5] (fun i => ∃ k : Nat, k ≤ m ∧ i = .int .i64 k ∧ ∀ q, q < k → nth t q ≠ 32) (fun i => m - (intOf i).toNat)
  case atStart => exact ⟨0, by omega, rfl, fun q hq => by omega⟩
  case round =>
    obtain ⟨k, hk, rfl, hall⟩ := hrel
    have HA := Lib.hid hall
    clear hall
    by_cases hlt : k < m
    · have hks : k < S.size := by omega
      have hSc : (S[k]'hks).toNat = nth t k := HSA.out k hks
      by_cases hc : nth t k = 32
      · have HE := Lib.hid (HAT.out k hlt HA.out hc)
        have hb : (((S[k]'hks).toNat : Int) == 32) = true := by rw [hSc, hc]; rfl
        have h0 : S.extract 0 k = strOf A := by rw [HEX.out 0 k, HE.out.1]; simp
        have h1 : S.extract (k + 1) m = strOf R := by rw [HEX.out (k + 1) m, HE.out.2.1, List.take_of_length_le (by have := HML.out; omega)]
        have H0 := Lib.hid h0
        have H1 := Lib.hid h1
        have HM := Lib.hid HE.out.2.2
        clear h0 h1 hc hSc
        have g0 : (0 : Int) ≤ (k : Int) := Int.natCast_nonneg _
        have g1 : (k : Int) ≤ (m : Int) := by omega
        have g2 : (k : Int) + 1 ≤ (m : Int) := by omega
        go_wp2_with fail
        go_quiet (fail)
        go_wp2_with fail
        rw [H0.out, H1.out]
        go_ret3
        exact ⟨by rw [HM.out]; rfl, below_drewN (Below.refl _ _) _⟩
      · have hb : (((S[k]'hks).toNat : Int) == 32) = false := by rw [hSc, beq_eq_false_iff_ne]; omega
        have HA2 := Lib.hid (show ∀ q, q < k + 1 → nth t q ≠ 32 from fun q hq => by
          by_cases e : q = k
          · rw [e]; exact hc
          · exact HA.out q (by omega))
        clear hc hSc
        go_wp2_with fail
        exact ⟨⟨k + 1, by omega, by go_num, HA2.out⟩, by simp [intOf]; omega⟩
    · obtain rfl : k = m := by omega
      have HE := Lib.hid (HNO.out HA.out)
      go_wp2_with fail
      go_ret3
      exact ⟨by rw [HE.out.1, HE.out.2.1, HE.out.2.2, ← HST.out]; rfl, Below.refl _ _⟩

end Go.Proofs.YtgoelfaemclioaaDoor

/-
  The document's answer for a plan's text (wellspringref10), in the program: 'Number'.
-/
set_option maxRecDepth 100000
namespace Go.Proofs.YtgoelfaemclioaaDoor
open Go.RowKit

/-- Is the character a figure? -/
def IsDig (c : Nat) : Prop := 48 ≤ c ∧ c ≤ 57
instance (c : Nat) : Decidable (IsDig c) := inferInstanceAs (Decidable (_ ∧ _))
/-- The number that figures tell, as far as the bound. -/
def numV (t : List Nat) : Nat := t.foldl (fun n c => min (10 * n + (c - 48)) 4294967296) 0
/-- Are these a number's figures? -/
def NumOk (t : List Nat) : Prop := t ≠ [] ∧ ¬ (1 < t.length ∧ nth t 0 = 48) ∧ ∀ i, i < t.length → IsDig (nth t i)
instance (t : List Nat) : Decidable (NumOk t) := inferInstanceAs (Decidable (_ ∧ _ ∧ _))
def numN (t : List Nat) : Nat := if NumOk t then numV t else 0
def numB (t : List Nat) (b : Int) : Bool := decide (NumOk t ∧ (numV t : Int) < b)
theorem numV_le (t : List Nat) : numV t ≤ 4294967296 := by
  rcases List.eq_nil_or_concat t with rfl | ⟨l, c, rfl⟩
  · simp [numV]
  · unfold numV; rw [List.concat_eq_append, List.foldl_append]; simp; omega
theorem numV_take {t : List Nat} {k : Nat} (h : k < t.length) : numV (t.take (k + 1)) = min (10 * numV (t.take k) + (nth t k - 48)) 4294967296 := by
  have e : t.take (k + 1) = t.take k ++ [nth t k] := by
    rw [List.take_add_one, List.getElem?_eq_getElem h]; simp [nth, List.getD_eq_getElem?_getD, List.getElem?_eq_getElem h]
  rw [e]; unfold numV; rw [List.foldl_append]; rfl
theorem num_bad {t : List Nat} {b : Int} (h : ¬ NumOk t) : numN t = 0 ∧ numB t b = false := ⟨if_neg h, decide_eq_false fun ⟨h', _⟩ => h h'⟩

set_option maxHeartbeats 400000 in
theorem refnum_none (b : Int) (w : World) :
    Calls Tryd.prog 23 #[.string (strOf []), .int .i64 b] w fun e w' => e = .returned (.tuple #[.int .i64 0, .bool false]) ∧ Below w.heap.size w w' := by
  have he0 : (strOf []).toList.isEmpty = true := strOf_isEmpty []
  go_enter Tryd.func23, Tryd.ntmps23
  go_wp2_with fail
  go_ret2
  exact ⟨rfl, Below.refl _ _⟩

set_option maxHeartbeats 400000 in
theorem refnum_zero (t : List Nat) (b : Int) (w : World) (ht : ∀ x, x ∈ t → x < 256) (h1 : 1 < t.length) (h0 : nth t 0 = 48) :
    Calls Tryd.prog 23 #[.string (strOf t), .int .i64 b] w fun e w' => e = .returned (.tuple #[.int .i64 0, .bool false]) ∧ Below w.heap.size w w' := by
  obtain ⟨S, hS⟩ : ∃ S, S = strOf t := ⟨_, rfl⟩
  rw [← hS]
  obtain ⟨m, hm⟩ : ∃ m, m = t.length := ⟨_, rfl⟩
  have hsz : S.size = m := by rw [hS, strOf_size, hm]
  have he : S.toList.isEmpty = false := by rw [hS, strOf_isEmpty]; cases t with | nil => simp at h1 | cons _ _ => rfl
  have hp : 0 < S.size := by omega
  have hb : (((S[0]'hp).toNat : Int) == 48) = true := by rw [strOf_at ht hS 0 hp, h0]; rfl
  have hm1 : (1 : Int) < (m : Int) := by omega
  clear hS h0 hm
  go_enter Tryd.func23, Tryd.ntmps23
  go_wp2_with fail
  go_ret2
  exact ⟨rfl, Below.refl _ _⟩

set_option maxHeartbeats 2000000 in
theorem refnum_some (t : List Nat) (b : Int) (w : World) (ht : ∀ x, x ∈ t → x < 256) (hm0 : t.length ≤ 9223372036854775807) (h0 : t ≠ []) (hz0 : ¬ (1 < t.length ∧ nth t 0 = 48)) :
    Calls Tryd.prog 23 #[.string (strOf t), .int .i64 b] w fun e w' => e = .returned (.tuple #[.int .i64 (numN t), .bool (numB t b)]) ∧ Below w.heap.size w w' := by
  obtain ⟨S, hS⟩ : ∃ S, S = strOf t := ⟨_, rfl⟩
  rw [← hS]
  obtain ⟨m, hm⟩ : ∃ m, m = t.length := ⟨_, rfl⟩
  have hl0 : 0 < t.length := List.length_pos_iff.2 h0
  have hsz : S.size = m := by rw [hS, strOf_size, hm]
  have he : S.toList.isEmpty = false := by rw [hS, strOf_isEmpty]; cases t with | nil => simp at hl0 | cons _ _ => rfl
  have hp : 0 < S.size := by omega
  have HSA := Lib.hid (fun i h => strOf_at ht hS i h)
  have HNOT := Lib.hid (show ∀ i, i < m → ¬ IsDig (nth t i) → numN t = 0 ∧ numB t b = false from fun i hi h => num_bad fun ⟨_, _, h3⟩ => h (h3 i (by omega)))
  have HYES := Lib.hid (show (∀ i, i < m → IsDig (nth t i)) → numN t = numV (t.take m) ∧ numB t b = decide ((numV (t.take m) : Int) < b) from fun h => by
    have ok : NumOk t := ⟨h0, hz0, fun i hi => h i (by omega)⟩
    rw [List.take_of_length_le (by omega)]
    exact ⟨if_pos ok, by unfold numB; simp [ok]⟩)
  have HTK := Lib.hid (fun k (h : k < m) => numV_take (t := t) (k := k) (by omega))
  have HLE := Lib.hid (fun k => numV_le (t.take k))
  have HLT := Lib.hid (fun i => nth_lt ht i)
  have hm1 : (m : Int) ≤ 9223372036854775807 := by omega
  have hwho : ¬ ((1 : Int) < (m : Int)) ∨ ((1 : Int) < (m : Int) ∧ (((S[0]'hp).toNat : Int) == 48) = false) := by
    rw [strOf_at ht hS 0 hp]
    by_cases h : 1 < m
    · right
      refine ⟨by omega, ?_⟩
      rw [beq_eq_false_iff_ne]
      have : nth t 0 ≠ 48 := fun e => hz0 ⟨by omega, e⟩
      omega
    · left; omega
  have HV0 : Hid (numV (t.take 0) = 0) := Lib.hid rfl
  generalize numN t = A at *
  generalize numB t b = D at *
  clear hS h0 hz0 hl0 hm hm0
  go_enter Tryd.func23, Tryd.ntmps23
  rcases hwho with hb | ⟨hb, hbz⟩
  all_goals
    go_wp2_with fail
    go_loop [6, 7] (fun n i => ∃ k : Nat, k ≤ m ∧ i = .int .i64 k ∧ n = .int .i64 (numV (t.take k) : Nat) ∧ ∀ q, q < k → IsDig (nth t q)) (fun _ i => m - (intOf i).toNat)
    case atStart => exact ⟨0, by omega, rfl, by rw [HV0.out]; rfl, fun q hq => by omega⟩
    case round =>
      obtain ⟨k, hk, rfl, rfl, hall⟩ := hrel
      have HA := Lib.hid hall
      clear hall
      have hv := HLE.out k
      by_cases hlt : k < m
      · have hks : k < S.size := by omega
        have hSc : (S[k]'hks).toNat = nth t k := HSA.out k hks
        have hc1 := HLT.out k
        have HN := Lib.hid (HNOT.out k hlt)
        have HX := Lib.hid (show IsDig (nth t k) → ∀ q, q < k + 1 → IsDig (nth t q) from fun h q hq => by
          by_cases e : q = k
          · rw [e]; exact h
          · exact HA.out q (by omega))
        have HT := Lib.hid (HTK.out k hlt)
        generalize nth t k = c at *
        generalize numV (t.take k) = n at *
        have HKL := Lib.hid hlt
        by_cases hh : IsDig c
        · have HX2 := Lib.hid (HX.out hh)
          have hd1 : 48 ≤ c := hh.1
          have hd2 : c ≤ 57 := hh.2
          clear hh
          go_wp2_with fail
          have hval : (if 4294967296 < 10 * (n : Int) + ((c : Int) - 48) then (4294967296 : Int) else 10 * (n : Int) + ((c : Int) - 48)) = ((min (10 * n + (c - 48)) 4294967296 : Nat) : Int) := by
            split <;> omega
          rw [hval, ← HT.out]
          have h9 := HKL.out
          exact ⟨⟨k + 1, h9, by go_num, rfl, HX2.out⟩, by simp [intOf]; omega⟩
        · have HN2 := Lib.hid (HN.out hh)
          have hd : c < 48 ∨ 57 < c := by unfold IsDig at hh; omega
          clear hh
          rcases hd with hd | hd
          all_goals
            go_wp2_with fail
            go_ret2
            exact ⟨by rw [HN2.out.1, HN2.out.2]; rfl, Below.refl _ _⟩
      · obtain rfl : k = m := by omega
        have HY := Lib.hid (HYES.out HA.out)
        go_wp2_with fail
        go_ret2
        exact ⟨by rw [HY.out.1, HY.out.2]; rfl, Below.refl _ _⟩

/-- The number of a word, and whether it is one below the bound. -/
theorem refnum_any (t : List Nat) (b : Int) (w : World) (ht : ∀ x, x ∈ t → x < 256) (hm0 : t.length ≤ 9223372036854775807) :
    Calls Tryd.prog 23 #[.string (strOf t), .int .i64 b] w fun e w' => e = .returned (.tuple #[.int .i64 (numN t), .bool (numB t b)]) ∧ Below w.heap.size w w' := by
  by_cases h0 : t = []
  · subst h0
    obtain ⟨h1, h2⟩ := @num_bad [] b (fun ⟨h, _⟩ => h rfl)
    rw [h1, h2]
    exact refnum_none b w
  · by_cases hz : 1 < t.length ∧ nth t 0 = 48
    · obtain ⟨h1, h2⟩ := @num_bad t b (fun ⟨_, h, _⟩ => h hz)
      rw [h1, h2]
      exact refnum_zero t b w ht hz.1 hz.2
    · exact refnum_some t b w ht hm0 h0 hz

end Go.Proofs.YtgoelfaemclioaaDoor

/-
  What the statements' frames share: arguments read behind the call as before, where below the heap's old size nothing has turned; a slice of bytes that came in, opened.
-/
set_option maxRecDepth 100000
namespace Go.Proofs.YtgoelfaemclioaaDoor
open Go.ChangeShapes Go.WideShapes Go.ChangeAt Go.RowKit

theorem own : ownKnob Tryd.prog.godebug = none := by kernel_rfl
theorem laidOut : laidOutB Tryd.prog = true := by kernel_rfl

theorem Below.trodAll {H : Type} {enc : TypeId × Value → H} {P : Program} (hl : laidOutB P = true) {W W' : World} (hb : Below W.heap.size W W') :
    ∀ {ts : List TypeId} {vs : List Value} {ds : List (DataW H)} {ps : List MemPlace}, (∀ t ∈ ts, P.readableRec t = true ∧ t < P.types.size) →
      DataW.TrodAll enc P W 0 (fun _ => true) true ts vs ds ps → (∀ x ∈ ps, x.block < W.heap.size) → DataW.TrodAll enc P W' 0 (fun b => decide (b < W.heap.size)) true ts vs ds ps
  | [], [], [], _, _, h, _ => h
  | t :: ts, v :: vs, d :: ds, _, ht, ⟨p, q, h1, h2, e⟩, hlt =>
    ⟨p, q, Go.RowKit.Below.trod hl (ht t (by simp)).1 (ht t (by simp)).2 h1 hb (fun x hx => hlt x (by rw [e]; exact List.mem_append_left _ hx)),
      Below.trodAll hl hb (fun t' h' => ht t' (by simp [h'])) h2 (fun x hx => hlt x (by rw [e]; exact List.mem_append_right _ hx)), e⟩
  | [], _ :: _, _, _, _, h, _ => h.elim
  | [], [], _ :: _, _, _, h, _ => h.elim
  | _ :: _, [], _, _, _, h, _ => h.elim
  | _ :: _, _ :: _, [], _, _, h, _ => h.elim

end Go.Proofs.YtgoelfaemclioaaDoor

/-
  The document's answer for plans (wellspringref10), in the program: 'Needs', 'Check'.
-/
set_option maxRecDepth 100000
namespace Go.Proofs.YtgoelfaemclioaaDoor
open Go.RowKit

/-- How many symbols a length needs; at most 4097 are told. -/
def needsN (l s : Nat) : Nat := if l ≤ s then 1 else if 4097 * s < l then 4097 else (l - 1) / s + 1
theorem needs_at {l s n : Nat} (h0 : n = 0 ∨ n * s < l) (h1 : l ≤ (n + 1) * s) (hn : n ≤ 4096) : needsN l s = n + 1 := by
  unfold needsN
  by_cases h : l ≤ s
  · rw [if_pos h]
    rcases h0 with rfl | h0
    · rfl
    · cases n with
      | zero => rfl
      | succ n =>
        rw [Nat.succ_mul] at h0
        have := Nat.zero_le (n * s)
        omega
  · rw [if_neg h]
    have hne : n ≠ 0 := by rintro rfl; omega
    have h2 : n * s < l := h0.resolve_left hne
    have h3 : (n + 1) * s ≤ 4097 * s := Nat.mul_le_mul_right s (by omega)
    rw [if_neg (by omega), Nat.div_eq_of_lt_le (k := n) (by omega) (by omega)]
theorem needs_end {l s : Nat} (hs : 1 ≤ s) (h0 : 4097 * s < l) : needsN l s = 4097 := by
  unfold needsN
  rw [if_neg (by omega), if_pos h0]

set_option maxHeartbeats 1000000 in
theorem refneeds_any (l s : Nat) (w : World) (hl : l ≤ 9223372036854775807) (hs : 1 ≤ s) (hs2 : s ≤ 9223372036854775807) :
    Calls Tryd.prog 8 #[.int .i64 (l : Int), .int .i64 (s : Int)] w fun e w' => e = .returned (.int .i64 (needsN l s : Int)) ∧ w = w' := by
  obtain ⟨t, ht⟩ : ∃ t, t = needsN l s := ⟨_, rfl⟩
  rw [← ht]
  have HT := Lib.hid ht
  clear ht
  go_enter Tryd.func8, Tryd.ntmps8
  go_wp2_with fail
  go_loop [0, 5] (fun d i => ∃ (n : Nat) (x : Int), n ≤ 4097 ∧ i = .int .i64 n ∧ d = .int .i64 x ∧ Hid (x = (l : Int) - ((n * s : Nat) : Int)) ∧ (n = 0 ∨ n * s < l)) (fun _ i => 4097 - (intOf i).toNat)
  case atStart => exact ⟨0, l, by omega, rfl, rfl, Lib.hid (by simp), .inl rfl⟩
  case round =>
    obtain ⟨n, x, hn, rfl, rfl, HX, hpos⟩ := hrel
    have HP := Lib.hid hpos
    have hx := HX.out
    have hx0 : 0 ≤ x := by rcases hpos with rfl | h <;> simp at hx <;> omega
    have hx1 : x ≤ 9223372036854775807 := by omega
    clear hx
    by_cases hlt : n ≤ 4096
    · have hd1 : decide ((n : Int) ≤ 4096) = true := by simp; omega
      rcases (show (n = 0) ∨ (n ≠ 0 ∧ 0 < x) from by
        have := HX.out
        rcases hpos with h | h
        · exact .inl h
        · by_cases h0 : n = 0
          · exact .inl h0
          · exact .inr ⟨h0, by omega⟩) with h0 | ⟨h0, hx2⟩
      · have hd2 : ((n : Int) == 0) = true := by rw [h0]; rfl
        clear hpos h0
        by_cases hle : x ≤ (s : Int)
        · have HQ := Lib.hid (show t = n + 1 by
            rw [HT.out]
            refine needs_at HP.out ?_ hlt
            have := HX.out
            rw [Nat.succ_mul]; omega)
          go_wp2_with fail
          go_ret
          exact ⟨by rw [HQ.out]; simp, rfl⟩
        · have HX2 := Lib.hid (show x - (s : Int) = (l : Int) - (((n + 1) * s : Nat) : Int) by have := HX.out; rw [Nat.succ_mul]; omega)
          have HP2 := Lib.hid (show (n + 1) * s < l by have := HX2.out; omega)
          go_wp2_with fail
          go_round
          case rel => exact ⟨n + 1, x - s, by omega, by go_num, rfl, HX2, .inr HP2.out⟩
          case measure => simp [intOf]; omega
      · have hd2 : ((n : Int) == 0) = false := by rw [beq_eq_false_iff_ne]; omega
        clear hpos h0
        by_cases hle : x ≤ (s : Int)
        · have HQ := Lib.hid (show t = n + 1 by
            rw [HT.out]
            refine needs_at HP.out ?_ hlt
            have := HX.out
            rw [Nat.succ_mul]; omega)
          go_wp2_with fail
          go_ret
          exact ⟨by rw [HQ.out]; simp, rfl⟩
        · have HX2 := Lib.hid (show x - (s : Int) = (l : Int) - (((n + 1) * s : Nat) : Int) by have := HX.out; rw [Nat.succ_mul]; omega)
          have HP2 := Lib.hid (show (n + 1) * s < l by have := HX2.out; omega)
          go_wp2_with fail
          go_round
          case rel => exact ⟨n + 1, x - s, by omega, by go_num, rfl, HX2, .inr HP2.out⟩
          case measure => simp [intOf]; omega
    · have hd1 : decide ((n : Int) ≤ 4096) = false := by simp; omega
      have HQ := Lib.hid (show t = 4097 by
        rw [HT.out]
        have h4 : n = 4097 := by omega
        subst h4
        refine needs_end hs ?_
        rcases HP.out with h | h
        · omega
        · exact h)
      go_wp2_with fail
      go_ret
      exact ⟨by rw [HQ.out]; rfl, rfl⟩

/-- The code of a plan's check. -/
def checkE (l s k : Int) : Int := if l < 0 then 2 else if s < 1 ∨ 65535 < s then 4 else if 4096 < needsN l.toNat s.toNat then 5 else if k = (needsN l.toNat s.toNat : Int) then 0 else 14

set_option maxHeartbeats 1000000 in
theorem refcheck_any (l s k : Int) (id : Value) (w : World) (hl : l ≤ 9223372036854775807) (hid : ∃ n : Nat, id = .int .u32 n) :
    Calls Tryd.prog 9 #[.agg #[.int .i64 l, .int .i64 s, .int .i64 k, id]] w fun e w' => e = .returned (.int .i64 (checkE l s k)) ∧ Below w.heap.size w w' := by
  obtain ⟨n, rfl⟩ := hid
  have B : Below w.heap.size w (w.alloc (.cells #[.int .i64 l, .int .i64 s, .int .i64 k, .int .u32 (n : Int)] 26)) := (Below.refl _ _).alloc (Nat.le_refl _) _
  obtain ⟨t, ht⟩ : ∃ t, t = checkE l s k := ⟨_, rfl⟩
  rw [← ht]
  by_cases h0 : l < 0
  · have HT := Lib.hid (show t = 2 by rw [ht]; unfold checkE; rw [if_pos h0])
    clear ht
    go_enter Tryd.func9, Tryd.ntmps9
    go_wp2_with fail
    go_ret
    exact ⟨by rw [HT.out]; rfl, B⟩
  · obtain ⟨ln, rfl⟩ := Int.eq_ofNat_of_zero_le (show 0 ≤ l by omega)
    rcases (show s < 1 ∨ (1 ≤ s ∧ 65535 < s) ∨ (1 ≤ s ∧ s ≤ 65535) by omega) with h1 | ⟨h1, h2⟩ | ⟨h1, h2⟩
    · have HT := Lib.hid (show t = 4 by rw [ht]; unfold checkE; rw [if_neg h0, if_pos (.inl h1)])
      clear ht
      go_enter Tryd.func9, Tryd.ntmps9
      go_wp2_with fail
      go_ret
      exact ⟨by rw [HT.out]; rfl, B⟩
    · have HT := Lib.hid (show t = 4 by rw [ht]; unfold checkE; rw [if_neg h0, if_pos (.inr h2)])
      clear ht
      go_enter Tryd.func9, Tryd.ntmps9
      go_wp2_with fail
      go_ret
      exact ⟨by rw [HT.out]; rfl, B⟩
    · obtain ⟨sn, rfl⟩ := Int.eq_ofNat_of_zero_le (show 0 ≤ s by omega)
      have HE := Lib.hid (show t = if 4096 < needsN ln sn then 5 else if k = (needsN ln sn : Int) then 0 else 14 by
        rw [ht]; unfold checkE; rw [if_neg h0, if_neg (by omega)]; rfl)
      obtain ⟨m, hm⟩ : ∃ m, m = needsN ln sn := ⟨_, rfl⟩
      have HN := Lib.hid (refneeds_any ln sn)
      rw [← hm] at HE HN
      clear ht hm
      have hs1 : 1 ≤ sn := by omega
      have hl1 : ln ≤ 9223372036854775807 := by omega
      have hs2 : sn ≤ 9223372036854775807 := by omega
      by_cases h3 : 4096 < m
      · have HT := Lib.hid (show t = 5 by rw [HE.out, if_pos h3])
        have hd : decide ((4096 : Int) < (m : Int)) = true := by simp; omega
        go_enter Tryd.func9, Tryd.ntmps9
        go_wp2_with fail
        refine (HN.out _ hl1 hs1 hs2).mono ?_
        rintro e w' ⟨rfl, rfl⟩
        go_wp2_with fail
        go_ret
        exact ⟨by rw [HT.out]; rfl, B⟩
      · have hd : decide ((4096 : Int) < (m : Int)) = false := by simp; omega
        by_cases h4 : k = (m : Int)
        · have HT := Lib.hid (show t = 0 by rw [HE.out, if_neg h3, if_pos h4])
          have hb : (k != (m : Int)) = false := by rw [h4]; simp
          clear h4
          go_enter Tryd.func9, Tryd.ntmps9
          go_wp2_with fail
          refine (HN.out _ hl1 hs1 hs2).mono ?_
          rintro e w' ⟨rfl, rfl⟩
          go_wp2_with fail
          go_quiet ((go_at_call 8; exact quiet_eq (HN.out _ hl1 hs1 hs2)))
          go_wp2_with fail
          go_ret
          exact ⟨by rw [HT.out]; rfl, B.trans ((below_drews _ _).mono B.size)⟩
        · have HT := Lib.hid (show t = 14 by rw [HE.out, if_neg h3, if_neg h4])
          have hb : (k != (m : Int)) = true := by rw [bne_iff_ne]; exact h4
          clear h4
          go_enter Tryd.func9, Tryd.ntmps9
          go_wp2_with fail
          refine (HN.out _ hl1 hs1 hs2).mono ?_
          rintro e w' ⟨rfl, rfl⟩
          go_wp2_with fail
          go_quiet ((go_at_call 8; exact quiet_eq (HN.out _ hl1 hs1 hs2)))
          go_wp2_with fail
          go_ret
          exact ⟨by rw [HT.out]; rfl, B.trans ((below_drews _ _).mono B.size)⟩

end Go.Proofs.YtgoelfaemclioaaDoor

/-
  Where bytes lead (layer 3), in plain numbers and in the document's answer (wellspringref03.Lead).
-/
set_option maxRecDepth 100000
namespace Go.Proofs.YtgoelfaemclioaaDoor
open Go.RowKit

/-- The first place whose byte isn't 0; as many as there are, where there is none. -/
def lead : List Nat → Nat
  | [] => 0
  | x :: l => if x = 0 then lead l + 1 else 0

end Go.Proofs.YtgoelfaemclioaaDoor

/-
  Many bytes at once (layer 2) in the program: 'Scale', 'addTo'.
-/
set_option maxRecDepth 100000
namespace Go.Proofs.YtgoelfaemclioaaDoor
open Go.RowKit

namespace Gf
end Gf

namespace Gf
/-- Two rows, added. -/
def add (s r : List Nat) : List Nat := List.zipWith (· ^^^ ·) s r
end Gf

end Go.Proofs.YtgoelfaemclioaaDoor

/-
  Many bytes at once (layer 2) in the program: 'blank', 'Axpy', 'Sum', 'Comb'.
-/
set_option maxRecDepth 100000
namespace Go.Proofs.YtgoelfaemclioaaDoor
open Go.RowKit

/-- Noughts, as many as the first row has bytes. -/
def zeros (n : Nat) : List Nat := List.replicate n 0

end Go.Proofs.YtgoelfaemclioaaDoor

/-
  The statements of layer 2 (kern), walked: KernReckons.
-/
set_option maxRecDepth 100000
namespace Go.Proofs.YtgoelfaemclioaaDoor
open Go.RowKit

/-- As many ones. -/
def ones (n : Nat) : List Nat := List.replicate n 1

end Go.Proofs.YtgoelfaemclioaaDoor
