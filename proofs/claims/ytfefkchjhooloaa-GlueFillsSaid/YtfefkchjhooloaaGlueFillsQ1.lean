/- Texts of one seat, laid together: Gf, Mul, Bytes, Frame, Own, Blk, RefPlan, Grow, GrowS, Lead, Add, KernA, Mat, KernB, KernC. -/
import Derived.Test.YtfefkchjhooloaaRows
import Derived.WalkKit
import Derived.WalkSpells
import Derived.WalkLawsBesides
import Derived.Lib.Hide
import Derived.ProofKit
import Derived.OpenShut
import Derived.BigQuiet
import Derived.Deep.Slices

/-
  Bytes as a field (layer 1), in plain numbers: the product by shifting and adding, that it is the one of polynomials modulo 11D, and that it is commutative, associative and distributes. No program in this text.
-/
namespace Go.Proofs.Ytfefkchjhooloaa
namespace Gf

/-- The product with x. -/
def dbl (a : Nat) : Nat := if a < 128 then 2 * a else (2 * a) ^^^ 285

/-- The product with x, n times. -/
def dblN (a : Nat) : Nat → Nat
  | 0 => a
  | n + 1 => dbl (dblN a n)

/-- The product, by the first k bits of b. -/
def mulK (a b : Nat) : Nat → Nat
  | 0 => 0
  | k + 1 => mulK a b k ^^^ (if b.testBit k then dblN a k else 0)

def mul (a b : Nat) : Nat := mulK a b 8

/-! ### exclusive or -/

theorem xor_lt {a b : Nat} (ha : a < 256) (hb : b < 256) : a ^^^ b < 256 := Nat.xor_lt_two_pow (n := 8) ha hb

theorem xor_four (a b c d : Nat) : (a ^^^ b) ^^^ (c ^^^ d) = (a ^^^ c) ^^^ (b ^^^ d) := by
  rw [Nat.xor_assoc, Nat.xor_assoc, ← Nat.xor_assoc b c d, Nat.xor_comm b c, Nat.xor_assoc c b d]

/-! ### doubling is linear -/

theorem dbl_alt (a : Nat) (h : a < 256) : dbl a = (2 * a) ^^^ (if a.testBit 7 then 285 else 0) := by
  have : ∀ a : Fin 256, dbl a.1 = (2 * a.1) ^^^ (if a.1.testBit 7 then 285 else 0) := by decide +kernel
  exact this ⟨a, h⟩

theorem dbl_lt {a : Nat} (h : a < 256) : dbl a < 256 := by
  have : ∀ a : Fin 256, dbl a.1 < 256 := by decide +kernel
  exact this ⟨a, h⟩

theorem ite_xor (p q : Bool) (c : Nat) : (if (p ^^ q) = true then c else 0) = (if p = true then c else 0) ^^^ (if q = true then c else 0) := by
  cases p <;> cases q <;> simp

theorem two_mul_xor (a b : Nat) : 2 * (a ^^^ b) = (2 * a) ^^^ (2 * b) := by
  apply Nat.eq_of_testBit_eq
  intro i
  have e : ∀ x : Nat, 2 * x = x <<< 1 := fun x => by rw [Nat.shiftLeft_eq, Nat.mul_comm]
  rw [e, e, e, Nat.testBit_shiftLeft, Nat.testBit_xor, Nat.testBit_xor, Nat.testBit_shiftLeft, Nat.testBit_shiftLeft]
  cases decide (i ≥ 1) <;> simp

theorem dbl_xor {a b : Nat} (ha : a < 256) (hb : b < 256) : dbl (a ^^^ b) = dbl a ^^^ dbl b := by
  rw [dbl_alt _ ha, dbl_alt _ hb, dbl_alt _ (xor_lt ha hb), Nat.testBit_xor, ite_xor, two_mul_xor, xor_four]

theorem dblN_lt {a : Nat} (h : a < 256) : ∀ n, dblN a n < 256
  | 0 => h
  | n + 1 => dbl_lt (dblN_lt h n)

theorem dblN_zero : ∀ n, dblN 0 n = 0
  | 0 => rfl
  | n + 1 => by simp only [dblN]; rw [dblN_zero n]; rfl

theorem dblN_add (a m : Nat) : ∀ n, dblN a (m + n) = dblN (dblN a m) n
  | 0 => rfl
  | n + 1 => by show dbl (dblN a (m + n)) = dbl (dblN (dblN a m) n); rw [dblN_add a m n]

theorem dblN_dbl (a : Nat) (n : Nat) : dblN (dbl a) n = dbl (dblN a n) := by
  have h := dblN_add a 1 n
  rw [Nat.add_comm] at h
  exact h.symm

/-! ### the product -/

theorem mulK_lt {a : Nat} (h : a < 256) (b : Nat) : ∀ k, mulK a b k < 256
  | 0 => Nat.zero_lt_succ _
  | k + 1 => by
    simp only [mulK]
    refine xor_lt (mulK_lt h b k) ?_
    split
    · exact dblN_lt h k
    · decide

theorem mul_lt {a : Nat} (h : a < 256) (b : Nat) : mul a b < 256 := mulK_lt h b 8

theorem mulK_dbl {a : Nat} (ha : a < 256) (b : Nat) : ∀ k, mulK (dbl a) b k = dbl (mulK a b k)
  | 0 => rfl
  | k + 1 => by
    simp only [mulK]
    rw [mulK_dbl ha b k, dblN_dbl]
    cases b.testBit k
    · simp
    · simp only [if_true]; rw [dbl_xor (mulK_lt ha b k) (dblN_lt ha k)]

theorem mul_dbl {a : Nat} (ha : a < 256) (b : Nat) : mul (dbl a) b = dbl (mul a b) := mulK_dbl ha b 8

theorem mul_dblN {a : Nat} (ha : a < 256) (b : Nat) : ∀ n, mul (dblN a n) b = dblN (mul a b) n
  | 0 => rfl
  | n + 1 => by simp only [dblN]; rw [mul_dbl (dblN_lt ha n), mul_dblN ha b n]

theorem one_mul {b : Nat} (hb : b < 256) : mul 1 b = b := by
  have : ∀ b : Fin 256, mul 1 b.1 = b.1 := by decide +kernel
  exact this ⟨b, hb⟩

theorem mul_zero (a : Nat) : mul a 0 = 0 := by simp [mul, mulK]

theorem zero_mul (b : Nat) : mul 0 b = 0 := by
  have h : ∀ k, mulK 0 b k = 0 := by
    intro k
    induction k with
    | zero => rfl
    | succ k ih => simp [mulK, ih, dblN_zero]
  exact h 8

/-! ### powers of 2 -/

/-- 2 to the n. -/
def exp (n : Nat) : Nat := dblN 1 n

theorem exp_lt (n : Nat) : exp n < 256 := dblN_lt (by decide) n

/-- Doubled so often till it is a: how often. -/
def logF (a : Nat) : Nat → Nat → Nat → Nat
  | 0, _, n => n
  | f + 1, p, n => if p = a then n else logF a f (dbl p) (n + 1)

/-- Of which power of 2 it is one. -/
def log (a : Nat) : Nat := logF a 255 1 0

theorem log_spec : ∀ a : Fin 256, a.1 ≠ 0 → exp (log a.1) = a.1 ∧ log a.1 < 255 := by decide +kernel

theorem exp_log {a : Nat} (h : a < 256) (h0 : a ≠ 0) : exp (log a) = a := (log_spec ⟨a, h⟩ h0).1
theorem exp_add (m n : Nat) : exp (m + n) = dblN (exp m) n := dblN_add 1 m n

theorem exp_mul (n : Nat) {b : Nat} (hb : b < 256) : mul (exp n) b = dblN b n := by
  unfold exp; rw [mul_dblN (by decide), one_mul hb]

theorem exp_mul_exp (m n : Nat) : mul (exp m) (exp n) = exp (m + n) := by
  rw [exp_mul m (exp_lt n), Nat.add_comm, exp_add]

/-! ### the field -/

theorem mul_comm {a b : Nat} (ha : a < 256) (hb : b < 256) : mul a b = mul b a := by
  by_cases h0 : a = 0
  · rw [h0, zero_mul, mul_zero]
  by_cases h1 : b = 0
  · rw [h1, zero_mul, mul_zero]
  rw [← exp_log ha h0, ← exp_log hb h1, exp_mul_exp, exp_mul_exp, Nat.add_comm]

theorem mul_assoc {a b : Nat} (ha : a < 256) (hb : b < 256) (c : Nat) : mul (mul a b) c = mul a (mul b c) := by
  by_cases h0 : a = 0
  · rw [h0, zero_mul, zero_mul, zero_mul]
  rw [← exp_log ha h0, exp_mul _ hb, mul_dblN hb, exp_mul _ (mul_lt hb c)]

theorem mul_one {a : Nat} (ha : a < 256) : mul a 1 = a := by rw [mul_comm ha (by decide), one_mul ha]

/-- Whose product with it is 1. -/
def inv (a : Nat) : Nat := if a = 0 then 0 else exp (255 - log a)

/-! ### powers -/

/-! ### the polynomials' product: first all of it, then what the modulus leaves -/

end Gf
end Go.Proofs.Ytfefkchjhooloaa

/-
  The byte's product in the program: 'double', 'times', and that they answer the plain product of XGf.
-/
set_option maxRecDepth 100000
namespace Go.Proofs.Ytfefkchjhooloaa
open Go.RowKit

/-- One byte out of two numbers. -/
abbrev U8 (n : Nat) : Value := .int .u8 (n : Int)

end Go.Proofs.Ytfefkchjhooloaa

/-
  Slices of bytes in memory: what is said of one that is read, and that it stays where nothing below it turns.
-/
set_option maxRecDepth 100000
namespace Go.Proofs.Ytfefkchjhooloaa
open Go.RowKit

/-- The element of a place: by a name of its own, so that the walk leaves it as it is. -/
def nth (l : List Nat) (i : Nat) : Nat := l.getD i 0

/-- The value is a slice that reads as these bytes. -/
def Bytes (w : World) (v : Value) (l : List Nat) : Prop :=
  ∃ a cap, v = .slice a l.length cap ∧ l.length ≤ cap ∧ cap ≤ 9223372036854775807 ∧ (∀ x, x ∈ l → x < 256) ∧
    (l ≠ [] → ∃ b off, a = some ⟨b, off, none⟩ ∧ b < w.heap.size ∧ ∀ i, i < l.length → w.cell? ⟨b, off + i, none⟩ = some (U8 (nth l i)))

theorem Bytes.lt {w : World} {v : Value} {l : List Nat} (h : Bytes w v l) : ∀ x, x ∈ l → x < 256 := by
  obtain ⟨a, cap, _, _, _, h, _⟩ := h; exact h

theorem Bytes.below {w w' : World} {v : Value} {l : List Nat} {B : Nat} (h : Bytes w v l) (hB : w.heap.size ≤ B) (hb : Below B w w') : Bytes w' v l := by
  obtain ⟨a, cap, rfl, h1, h2, h3, h4⟩ := h
  refine ⟨a, cap, rfl, h1, h2, h3, fun hne => ?_⟩
  obtain ⟨b, off, rfl, hlt, hc⟩ := h4 hne
  exact ⟨b, off, rfl, Nat.lt_of_lt_of_le hlt hb.size, fun i hi => by rw [hb.cell (p := ⟨b, off + i, none⟩) (by show b < B; omega)]; exact hc i hi⟩

theorem nth_lt {l : List Nat} (h : ∀ x, x ∈ l → x < 256) (i : Nat) : nth l i < 256 := by
  unfold nth
  rw [List.getD_eq_getElem?_getD]
  by_cases hi : i < l.length
  · rw [List.getElem?_eq_getElem hi]; exact h _ (List.getElem_mem hi)
  · rw [List.getElem?_eq_none (by omega)]; show 0 < 256; decide

theorem nth_eq (l : List Nat) (i : Nat) (h : i < l.length) : nth l i = l[i] := by
  unfold nth; rw [List.getD_eq_getElem?_getD, List.getElem?_eq_getElem h]; rfl

theorem Bytes.cell {w : World} {b off n cap : Nat} {l : List Nat} (h : Bytes w (.slice (some ⟨b, off, none⟩) n cap) l) (k : Nat) (hk : k < l.length) : w.cell? ⟨b, off + k, none⟩ = some (U8 (nth l k)) := by
  obtain ⟨a, cap', e, _, _, _, h4⟩ := h
  obtain ⟨b', off', rfl, _, hc⟩ := h4 (by intro h; rw [h] at hk; simp at hk)
  simp only [Value.slice.injEq, Option.some.injEq, Addr.mk.injEq] at e
  obtain ⟨⟨rfl, rfl, _⟩, _, _⟩ := e
  exact hc k hk

end Go.Proofs.Ytfefkchjhooloaa

/-
  What the statements' frames share: arguments read behind the call as before, where below the heap's old size nothing has turned; a slice of bytes that came in, opened.
-/
set_option maxRecDepth 100000
namespace Go.Proofs.Ytfefkchjhooloaa
open Go.ChangeShapes Go.WideShapes Go.ChangeAt Go.RowKit

theorem own : ownKnob Try.prog.godebug = none := by kernel_rfl
theorem laidOut : laidOutB Try.prog = true := by kernel_rfl

theorem Below.trodAll {H : Type} {enc : TypeId × Value → H} {P : Program} (hl : laidOutB P = true) {W W' : World} (hb : Below W.heap.size W W') :
    ∀ {ts : List TypeId} {vs : List Value} {ds : List (DataW H)} {ps : List MemPlace}, (∀ t ∈ ts, P.readableRec t = true ∧ t < P.types.size) →
      DataW.TrodAll enc P W 0 (fun _ => true) true ts vs ds ps → (∀ x ∈ ps, x.block < W.heap.size) → DataW.TrodAll enc P W' 0 (fun b => decide (b < W.heap.size)) true ts vs ds ps
  | [], [], [], _, _, h, _ => h
  | t :: ts, v :: vs, d :: ds, _, ht, ⟨p, q, h1, h2, e⟩, hlt =>
    ⟨p, q, Go.RowKit.Below.trod hl (ht t (by simp)).1 (ht t (by simp)).2 h1 hb (fun x hx => hlt x (by rw [e]; exact List.mem_append_left _ hx)),
      Below.trodAll hl hb (fun t' h' => ht t' (by simp [h'])) h2 (fun x hx => hlt x (by rw [e]; exact List.mem_append_right _ hx)), e⟩
  | [], _ :: _, _, _, _, h, _ => h.elim
  | [], [], _ :: _, _, _, h, _ => h.elim
  | _ :: _, [], _, _, _, h, _ => h.elim
  | _ :: _, _ :: _, [], _, _, h, _ => h.elim

/-- A byte that came in. -/
theorem byte_of {x : Int} (h : (Lit.int .u8 x).wf = true) : ∃ n : Nat, x = (n : Int) ∧ n < 256 := by
  have h1 : IntKind.u8.min = 0 := rfl
  have h2 : IntKind.u8.max = 255 := rfl
  simp only [Lit.wf, Bool.and_eq_true, decide_eq_true_eq] at h
  exact ⟨x.toNat, by omega, by omega⟩

/-- An int that came in. -/
theorem int_of {x : Int} (h : (Lit.int .i64 x).wf = true) : -9223372036854775808 ≤ x ∧ x ≤ 9223372036854775807 := by
  have h1 : IntKind.i64.min = -9223372036854775808 := rfl
  have h2 : IntKind.i64.max = 9223372036854775807 := rfl
  simp only [Lit.wf, Bool.and_eq_true, decide_eq_true_eq] at h
  omega

theorem u32_of {x : Int} (h : (Lit.int .u32 x).wf = true) : ∃ n : Nat, x = (n : Int) ∧ n < 4294967296 := by
  have h1 : IntKind.u32.min = 0 := rfl
  have h2 : IntKind.u32.max = 4294967295 := rfl
  simp only [Lit.wf, Bool.and_eq_true, decide_eq_true_eq] at h
  exact ⟨x.toNat, by omega, by omega⟩
/-- A slice of bytes, read. -/
theorem bytes_of_trod {H : Type} {enc : TypeId × Value → H} {P : Program} {T E : TypeId} (hT : P.underlying T = some (.slice E)) (hE : P.underlying E = some (.int .u8)) (hc : P.cellsOf E = 1) {W : World} {v : Value} {x : DataW H × List MemPlace} {fuel : Nat}
    (hf : DataW.trod enc P W 0 (fun _ => true) true fuel T [v] = some x) (hlt : ∀ y ∈ x.2, y.block < W.heap.size) : ∃ l, Bytes W v l := by
  rcases open_ints hT hE hc hf with ⟨hcs, hx⟩ | ⟨a, len, cap, zs, hcs, _, hl, hm, hz, hx, hcell, hwz⟩
  · simp only [List.cons.injEq, and_true] at hcs
    subst hcs
    exact ⟨[], none, 0, rfl, by simp, by omega, by simp, fun h => absurd rfl h⟩
  · simp only [List.cons.injEq, and_true] at hcs
    subst hcs
    subst hx
    simp only [if_true] at hz
    have hlen : ((zs.take len).map Int.toNat).length = len := by simp; omega
    have h2 : ∀ n ∈ zs, 0 ≤ n ∧ n < 256 := fun n hn => by
      obtain ⟨m, rfl, hm⟩ := byte_of (hwz n hn); omega
    refine ⟨(zs.take len).map Int.toNat, some a, cap, by rw [hlen], by rw [hlen]; exact hl, by simpa [maxLen] using hm, fun x hx => ?_, fun hne => ?_⟩
    · obtain ⟨n, hn, rfl⟩ := List.mem_map.1 hx
      have := h2 n (List.mem_of_mem_take hn); omega
    · have hl0 : 0 < len := by
        cases len with
        | zero => simp at hne
        | succ n => omega
      obtain ⟨b, off, spot⟩ := a
      have hspot : spot = none := by simpa [Addr.add] using World.cell?_spot (hcell 0 (by omega))
      subst hspot
      have hbW : b < W.heap.size := hlt (.cell b off) (MemPlace.mem_row.2 ⟨0, by omega, by simp⟩)
      refine ⟨b, off, rfl, hbW, fun i hi => ?_⟩
      rw [hlen] at hi
      have hci := hcell i (by omega)
      rw [add_plain] at hci
      rw [hci]
      have hn : nth ((zs.take len).map Int.toNat) i = (zs.getD i 0).toNat := by
        rw [nth_eq _ _ (by rw [hlen]; exact hi)]
        simp [List.getD_eq_getElem?_getD, List.getElem?_eq_getElem (show i < zs.length by omega)]
      have h3 := (h2 (zs.getD i 0) (by rw [List.getD_eq_getElem?_getD, List.getElem?_eq_getElem (show i < zs.length by omega)]; exact List.getElem_mem _)).1
      rw [hn]
      show some (Value.int .u8 (zs.getD i 0)) = some (Value.int .u8 ((zs.getD i 0).toNat : Int))
      rw [Int.toNat_of_nonneg h3]

end Go.Proofs.Ytfefkchjhooloaa

/-
  A block of bytes that a call made itself: what it holds, what a store makes of it, and that it stays where others are written.
-/
set_option maxRecDepth 100000
namespace Go.Proofs.Ytfefkchjhooloaa
open Go.RowKit

/-- A block of bytes. -/
def bytesObj (l : List Nat) : Obj := .cells (l.map U8).toArray 5

/-- Block g holds these bytes, and isn't frozen. -/
def Own (w : World) (g : Nat) (l : List Nat) : Prop := w.heap[g]? = some (bytesObj l)

/-- The whole of a block, as a slice. -/
abbrev whole (g n : Nat) : Value := .slice (some ⟨g, 0, none⟩) n n

theorem Own.lt {w : World} {g : Nat} {l : List Nat} (h : Own w g l) : g < w.heap.size := (Array.getElem?_eq_some_iff.1 h).1

theorem Own.cell {w : World} {g : Nat} {l : List Nat} (h : Own w g l) (k : Nat) (hk : k < l.length) : w.cell? ⟨g, k, none⟩ = some (U8 (nth l k)) := by
  rw [cell_of_row w g k _ _ (0, 0) h, nth_eq l k hk]; simp [hk]

theorem Own.below {w w' : World} {g B : Nat} {l : List Nat} (h : Own w g l) (hB : g < B) (hb : Below B w w') : Own w' g l := by
  unfold Own; rw [hb.block g hB]; exact h

theorem Own.grown {w w' : World} {g : Nat} {row : Option Nat} {l : List Nat} (h : Own w g l) (hg : w.grownBy w' row) (hne : some g ≠ row) : Own w' g l := by
  unfold Own; rw [hg.block g h.lt hne]; exact h

theorem Own.new (w : World) (l : List Nat) : Own (w.alloc (bytesObj l)) w.heap.size l := heap_alloc_new w _

theorem Own.bytes {w : World} {g : Nat} {l : List Nat} (h : Own w g l) (hl : ∀ x, x ∈ l → x < 256) (hm : l.length ≤ 9223372036854775807) : Bytes w (whole g l.length) l :=
  ⟨_, l.length, rfl, Nat.le_refl _, hm, hl, fun _ => ⟨g, 0, rfl, h.lt, fun i hi => by rw [Nat.zero_add]; exact h.cell i hi⟩⟩

theorem grown_refl (w : World) (row : Option Nat) : w.grownBy w row := ⟨rfl, rfl, rfl, Nat.le_refl _, fun _ _ _ => rfl⟩
theorem grown_trans {a b c : World} {row : Option Nat} (h : a.grownBy b row) (k : b.grownBy c row) : a.grownBy c row :=
  ⟨k.os.trans h.os, k.tape.trans h.tape, k.output.trans h.output, Nat.le_trans h.size k.size, fun i hi hn => (k.block i (Nat.lt_of_lt_of_le hi h.size) hn).trans (h.block i hi hn)⟩
theorem grown_of_below {a b : World} (h : Below a.heap.size a b) (row : Option Nat) : a.grownBy b row := ⟨h.os, h.tape, h.output, h.size, fun k hk _ => h.block k hk⟩
theorem grown_setCell (w : World) (p : Addr) (u : Value) : w.grownBy (w.setCell p u) (some p.block) :=
  ⟨rfl, rfl, rfl, by simp [World.setCell], fun k _ hn => Below.heap_setCell w p u k (fun e => hn (by rw [e]))⟩
/-- One row of those from B on was written. -/
theorem below_grown {B g : Nat} {a b c : World} (h : Below B a b) (hg : b.grownBy c (some g)) (hB : B ≤ b.heap.size) (hgB : B ≤ g) : Below B a c :=
  h.grown hg hB (fun _ e => by cases e; exact hgB)

theorem madeZeros (n : Nat) : madeCells #[Value.int .u8 0] n = ((List.replicate n 0).map U8).toArray := by
  apply Array.ext
  · simp [size_madeCells]
  · intro i h1 h2
    simp [madeCells, Nat.mod_one]

/-- 'make([]byte, n)': noughts, in a new block. -/
theorem make_bytes (n : Nat) (hn : n ≤ 281474976710656) (w : World) :
    (Instr.makeSlice 25 (.int .i64 (n : Int)) (.int .i64 (n : Int))).run Try.prog w = .ok (whole w.heap.size n) (w.alloc (bytesObj (List.replicate n 0))) := by
  have hi : (Try.prog.info? 5).map (fun i => (i.zero, i.size, i.bytes)) = some (some (.int .u8 0), 1, 1) := by kernel_rfl
  obtain ⟨i0, hi, hz0, hz1, hz2⟩ := info_parts hi
  have h := run_make (P := Try.prog) w 25 5 i0 (.int .u8 0) Try.underlying25 hi hz0 .i64 .i64 n n (by omega) (by omega) (by rw [hz2]; omega) (by omega)
  rw [h, hz1]
  simp only [Int.toNat_natCast, Nat.mul_one]
  show _ = Result.ok (whole w.heap.size n) (w.alloc (.cells _ _))
  rw [← madeZeros]
  rfl

end Go.Proofs.Ytfefkchjhooloaa

/-
  A block of whatever values (a struct's box, a variable, a result): what it holds, and that it stays where others are written.
-/
set_option maxRecDepth 100000
namespace Go.Proofs.Ytfefkchjhooloaa
open Go.RowKit

/-- Block g holds these values, of that type, and isn't frozen. -/
def Blk (w : World) (g : Nat) (vs : Array Value) (T : TypeId) : Prop := w.heap[g]? = some (.cells vs T)

theorem Blk.lt {w : World} {g : Nat} {vs : Array Value} {T : TypeId} (h : Blk w g vs T) : g < w.heap.size := (Array.getElem?_eq_some_iff.1 h).1
theorem Blk.cell {w : World} {g : Nat} {vs : Array Value} {T : TypeId} (h : Blk w g vs T) (k : Nat) : w.cell? ⟨g, k, none⟩ = vs[k]? := cell_of_row w g k _ _ (0, 0) h
theorem Blk.free {w : World} {g : Nat} {vs : Array Value} {T : TypeId} (h : Blk w g vs T) (k : Nat) : w.frozen? ⟨g, k, none⟩ = false := frozen_of_row w g k _ _ h
theorem Blk.new (w : World) (vs : Array Value) (T : TypeId) (g : Nat) (hg : g = w.heap.size) : Blk (w.alloc (.cells vs T)) g vs T := by subst hg; exact heap_alloc_new w _
theorem Blk.alloc {w : World} {g : Nat} {vs : Array Value} {T : TypeId} (h : Blk w g vs T) (o : Obj) : Blk (w.alloc o) g vs T := by
  unfold Blk; rw [Below.heap_alloc w o g h.lt]; exact h
theorem Blk.below {w w' : World} {g B : Nat} {vs : Array Value} {T : TypeId} (h : Blk w g vs T) (hB : g < B) (hb : Below B w w') : Blk w' g vs T := by
  unfold Blk; rw [hb.block g hB]; exact h
theorem Blk.same {w w' : World} {g : Nat} {vs : Array Value} {T : TypeId} (h : Blk w g vs T) (hb : Below w.heap.size w w') : Blk w' g vs T := h.below h.lt hb
theorem Blk.grown {w w' : World} {g : Nat} {row : Option Nat} {vs : Array Value} {T : TypeId} (h : Blk w g vs T) (hg : w.grownBy w' row) (hne : some g ≠ row) : Blk w' g vs T := by
  unfold Blk; rw [hg.block g h.lt hne]; exact h

theorem Blk.set {w : World} {g : Nat} {vs : Array Value} {T : TypeId} (h : Blk w g vs T) (k : Nat) (v : Value) : Blk (w.setCell ⟨g, k, none⟩ v) g (vs.setIfInBounds k v) T := by
  unfold Blk World.setCell
  have e : w.heap[g]? = some (.cells vs T) := h
  simp [Array.getElem?_modify, e]

theorem cell_keep {w w' : World} {p : Addr} {v : Value} (h : w.cell? p = some v) (hb : Below w.heap.size w w') : w'.cell? p = some v := by
  rw [hb.cell (World.block_lt_of_cell? w _ h)]; exact h

/-! ### What is known, carried over a call that turns nothing of what was there -/

theorem Bytes.go {w w' : World} {v : Value} {l : List Nat} (h : Bytes w v l) (hb : Below w.heap.size w w') : Bytes w' v l := h.below (Nat.le_refl _) hb
theorem Own.go {w w' : World} {g : Nat} {l : List Nat} (h : Own w g l) (hb : Below w.heap.size w w') : Own w' g l := h.below h.lt hb
theorem Blk.go {w w' : World} {g : Nat} {vs : Array Value} {T : TypeId} (h : Blk w g vs T) (hb : Below w.heap.size w w') : Blk w' g vs T := h.same hb

/-- New blocks, one behind the other. -/
theorem blocks1 (w : World) (c1 : Array Value) (T1 : TypeId) : Below w.heap.size w (w.alloc (.cells c1 T1)) ∧ Blk (w.alloc (.cells c1 T1)) w.heap.size c1 T1 ∧ (w.alloc (.cells c1 T1)).heap.size = w.heap.size + 1 :=
  ⟨(Below.refl _ _).alloc (Nat.le_refl _) _, Blk.new w c1 T1 _ rfl, by simp⟩
theorem blocks2 (w : World) (c1 : Array Value) (T1 : TypeId) (c2 : Array Value) (T2 : TypeId) : Below w.heap.size w ((w.alloc (.cells c1 T1)).alloc (.cells c2 T2)) ∧ Blk ((w.alloc (.cells c1 T1)).alloc (.cells c2 T2)) w.heap.size c1 T1 ∧
    Blk ((w.alloc (.cells c1 T1)).alloc (.cells c2 T2)) (w.heap.size + 1) c2 T2 ∧ ((w.alloc (.cells c1 T1)).alloc (.cells c2 T2)).heap.size = w.heap.size + 1 + 1 := by
  obtain ⟨b, k1, s⟩ := blocks1 w c1 T1
  obtain ⟨b', k2, s'⟩ := blocks1 (w.alloc (.cells c1 T1)) c2 T2
  rw [s] at k2 s'
  exact ⟨b.trans (b'.mono b.size), k1.alloc _, k2, s'⟩
theorem blocks3 (w : World) (c1 : Array Value) (T1 : TypeId) (c2 : Array Value) (T2 : TypeId) (c3 : Array Value) (T3 : TypeId) : Below w.heap.size w (((w.alloc (.cells c1 T1)).alloc (.cells c2 T2)).alloc (.cells c3 T3)) ∧ Blk (((w.alloc (.cells c1 T1)).alloc (.cells c2 T2)).alloc (.cells c3 T3)) w.heap.size c1 T1 ∧
    Blk (((w.alloc (.cells c1 T1)).alloc (.cells c2 T2)).alloc (.cells c3 T3)) (w.heap.size + 1) c2 T2 ∧ Blk (((w.alloc (.cells c1 T1)).alloc (.cells c2 T2)).alloc (.cells c3 T3)) (w.heap.size + 1 + 1) c3 T3 ∧
    (((w.alloc (.cells c1 T1)).alloc (.cells c2 T2)).alloc (.cells c3 T3)).heap.size = w.heap.size + 1 + 1 + 1 := by
  obtain ⟨b, k1, k2, s⟩ := blocks2 w c1 T1 c2 T2
  obtain ⟨b', k3, s'⟩ := blocks1 ((w.alloc (.cells c1 T1)).alloc (.cells c2 T2)) c3 T3
  rw [s] at k3 s'
  exact ⟨b.trans (b'.mono b.size), k1.alloc _, k2.alloc _, k3, s'⟩

/-- A call in a region that only reads. -/
theorem quiet_eq {f : FuncId} {args : Array Value} {w : World} {n : Nat} {v : Value} (h : Calls Try.prog f args (w.drewN n) fun e w' => e = .returned v ∧ w.drewN n = w') :
    Calls Try.prog f args (w.drewN n) fun e w'' => e = .returned v ∧ ∃ m, w'' = w.drewN m := h.mono fun _ _ ⟨he, hm⟩ => ⟨he, n, hm.symm⟩
theorem Bytes.drewN {w : World} {v : Value} {l : List Nat} (h : Bytes w v l) (n : Nat) : Bytes (w.drewN n) v l := h
theorem Blk.drewN {w : World} {g : Nat} {vs : Array Value} {T : TypeId} (h : Blk w g vs T) (n : Nat) : Blk (w.drewN n) g vs T := h
theorem below_drews (w : World) (n : Nat) : Below w.heap.size w (w.drewN n) := by
  induction n with
  | zero => exact Below.refl _ _
  | succ n ih => exact ih.drew

end Go.Proofs.Ytfefkchjhooloaa

/-
  The document's answer for plans (wellspringref10), in the program: 'Needs', 'Check'.
-/
set_option maxRecDepth 100000
namespace Go.Proofs.Ytfefkchjhooloaa
open Go.RowKit

/-- How many symbols a length needs; at most 4097 are told. -/
def needsN (l s : Nat) : Nat := if l ≤ s then 1 else if 4097 * s < l then 4097 else (l - 1) / s + 1
theorem needs_at {l s n : Nat} (h0 : n = 0 ∨ n * s < l) (h1 : l ≤ (n + 1) * s) (hn : n ≤ 4096) : needsN l s = n + 1 := by
  unfold needsN
  by_cases h : l ≤ s
  · rw [if_pos h]
    rcases h0 with rfl | h0
    · rfl
    · cases n with
      | zero => rfl
      | succ n =>
        rw [Nat.succ_mul] at h0
        have := Nat.zero_le (n * s)
        omega
  · rw [if_neg h]
    have hne : n ≠ 0 := by rintro rfl; omega
    have h2 : n * s < l := h0.resolve_left hne
    have h3 : (n + 1) * s ≤ 4097 * s := Nat.mul_le_mul_right s (by omega)
    rw [if_neg (by omega), Nat.div_eq_of_lt_le (k := n) (by omega) (by omega)]
theorem needs_end {l s : Nat} (hs : 1 ≤ s) (h0 : 4097 * s < l) : needsN l s = 4097 := by
  unfold needsN
  rw [if_neg (by omega), if_pos h0]

set_option maxHeartbeats 1000000 in
theorem refneeds_any (l s : Nat) (w : World) (hl : l ≤ 9223372036854775807) (hs : 1 ≤ s) (hs2 : s ≤ 9223372036854775807) :
    Calls Try.prog 39 #[.int .i64 (l : Int), .int .i64 (s : Int)] w fun e w' => e = .returned (.int .i64 (needsN l s : Int)) ∧ w = w' := by
  obtain ⟨t, ht⟩ : ∃ t, t = needsN l s := ⟨_, rfl⟩
  rw [← ht]
  have HT := Lib.hid ht
  clear ht
  go_enter Try.func39, Try.ntmps39
  go_wp2_with fail
  go_loop [0, 5] (fun d i => ∃ (n : Nat) (x : Int), n ≤ 4097 ∧ i = .int .i64 n ∧ d = .int .i64 x ∧ Hid (x = (l : Int) - ((n * s : Nat) : Int)) ∧ (n = 0 ∨ n * s < l)) (fun _ i => 4097 - (Go.RowKit.intOf i).toNat)
  case atStart => exact ⟨0, l, by omega, rfl, rfl, Lib.hid (by simp), .inl rfl⟩
  case round =>
    obtain ⟨n, x, hn, rfl, rfl, HX, hpos⟩ := hrel
    have HP := Lib.hid hpos
    have hx := HX.out
    have hx0 : 0 ≤ x := by rcases hpos with rfl | h <;> simp at hx <;> omega
    have hx1 : x ≤ 9223372036854775807 := by omega
    clear hx
    by_cases hlt : n ≤ 4096
    · have hd1 : decide ((n : Int) ≤ 4096) = true := by simp; omega
      rcases (show (n = 0) ∨ (n ≠ 0 ∧ 0 < x) from by
        have := HX.out
        rcases hpos with h | h
        · exact .inl h
        · by_cases h0 : n = 0
          · exact .inl h0
          · exact .inr ⟨h0, by omega⟩) with h0 | ⟨h0, hx2⟩
      · have hd2 : ((n : Int) == 0) = true := by rw [h0]; rfl
        clear hpos h0
        by_cases hle : x ≤ (s : Int)
        · have HQ := Lib.hid (show t = n + 1 by
            rw [HT.out]
            refine needs_at HP.out ?_ hlt
            have := HX.out
            rw [Nat.succ_mul]; omega)
          go_wp2_with fail
          go_ret
          exact ⟨by rw [HQ.out]; simp, rfl⟩
        · have HX2 := Lib.hid (show x - (s : Int) = (l : Int) - (((n + 1) * s : Nat) : Int) by have := HX.out; rw [Nat.succ_mul]; omega)
          have HP2 := Lib.hid (show (n + 1) * s < l by have := HX2.out; omega)
          go_wp2_with fail
          go_round
          case rel => exact ⟨n + 1, x - s, by omega, by go_num, rfl, HX2, .inr HP2.out⟩
          case measure => simp [Go.RowKit.intOf]; omega
      · have hd2 : ((n : Int) == 0) = false := by rw [beq_eq_false_iff_ne]; omega
        clear hpos h0
        by_cases hle : x ≤ (s : Int)
        · have HQ := Lib.hid (show t = n + 1 by
            rw [HT.out]
            refine needs_at HP.out ?_ hlt
            have := HX.out
            rw [Nat.succ_mul]; omega)
          go_wp2_with fail
          go_ret
          exact ⟨by rw [HQ.out]; simp, rfl⟩
        · have HX2 := Lib.hid (show x - (s : Int) = (l : Int) - (((n + 1) * s : Nat) : Int) by have := HX.out; rw [Nat.succ_mul]; omega)
          have HP2 := Lib.hid (show (n + 1) * s < l by have := HX2.out; omega)
          go_wp2_with fail
          go_round
          case rel => exact ⟨n + 1, x - s, by omega, by go_num, rfl, HX2, .inr HP2.out⟩
          case measure => simp [Go.RowKit.intOf]; omega
    · have hd1 : decide ((n : Int) ≤ 4096) = false := by simp; omega
      have HQ := Lib.hid (show t = 4097 by
        rw [HT.out]
        have h4 : n = 4097 := by omega
        subst h4
        refine needs_end hs ?_
        rcases HP.out with h | h
        · omega
        · exact h)
      go_wp2_with fail
      go_ret
      exact ⟨by rw [HQ.out]; rfl, rfl⟩

/-- The code of a plan's check. -/
def checkE (l s k : Int) : Int := if l < 0 then 2 else if s < 1 ∨ 65535 < s then 4 else if 4096 < needsN l.toNat s.toNat then 5 else if k = (needsN l.toNat s.toNat : Int) then 0 else 14

set_option maxHeartbeats 1000000 in
theorem refcheck_any (l s k : Int) (id : Value) (w : World) (hl : l ≤ 9223372036854775807) (hid : ∃ n : Nat, id = .int .u32 n) :
    Calls Try.prog 28 #[.agg #[.int .i64 l, .int .i64 s, .int .i64 k, id]] w fun e w' => e = .returned (.int .i64 (checkE l s k)) ∧ Below w.heap.size w w' := by
  obtain ⟨n, rfl⟩ := hid
  have B : Below w.heap.size w (w.alloc (.cells #[.int .i64 l, .int .i64 s, .int .i64 k, .int .u32 (n : Int)] 33)) := (Below.refl _ _).alloc (Nat.le_refl _) _
  obtain ⟨t, ht⟩ : ∃ t, t = checkE l s k := ⟨_, rfl⟩
  rw [← ht]
  by_cases h0 : l < 0
  · have HT := Lib.hid (show t = 2 by rw [ht]; unfold checkE; rw [if_pos h0])
    clear ht
    go_enter Try.func28, Try.ntmps28
    go_wp2_with fail
    go_ret
    exact ⟨by rw [HT.out]; rfl, B⟩
  · obtain ⟨ln, rfl⟩ := Int.eq_ofNat_of_zero_le (show 0 ≤ l by omega)
    rcases (show s < 1 ∨ (1 ≤ s ∧ 65535 < s) ∨ (1 ≤ s ∧ s ≤ 65535) by omega) with h1 | ⟨h1, h2⟩ | ⟨h1, h2⟩
    · have HT := Lib.hid (show t = 4 by rw [ht]; unfold checkE; rw [if_neg h0, if_pos (.inl h1)])
      clear ht
      go_enter Try.func28, Try.ntmps28
      go_wp2_with fail
      go_ret
      exact ⟨by rw [HT.out]; rfl, B⟩
    · have HT := Lib.hid (show t = 4 by rw [ht]; unfold checkE; rw [if_neg h0, if_pos (.inr h2)])
      clear ht
      go_enter Try.func28, Try.ntmps28
      go_wp2_with fail
      go_ret
      exact ⟨by rw [HT.out]; rfl, B⟩
    · obtain ⟨sn, rfl⟩ := Int.eq_ofNat_of_zero_le (show 0 ≤ s by omega)
      have HE := Lib.hid (show t = if 4096 < needsN ln sn then 5 else if k = (needsN ln sn : Int) then 0 else 14 by
        rw [ht]; unfold checkE; rw [if_neg h0, if_neg (by omega)]; rfl)
      obtain ⟨m, hm⟩ : ∃ m, m = needsN ln sn := ⟨_, rfl⟩
      have HN := Lib.hid (refneeds_any ln sn)
      rw [← hm] at HE HN
      clear ht hm
      have hs1 : 1 ≤ sn := by omega
      have hl1 : ln ≤ 9223372036854775807 := by omega
      have hs2 : sn ≤ 9223372036854775807 := by omega
      by_cases h3 : 4096 < m
      · have HT := Lib.hid (show t = 5 by rw [HE.out, if_pos h3])
        have hd : decide ((4096 : Int) < (m : Int)) = true := by simp; omega
        go_enter Try.func28, Try.ntmps28
        go_wp2_with fail
        refine (HN.out _ hl1 hs1 hs2).mono ?_
        rintro e w' ⟨rfl, rfl⟩
        go_wp2_with fail
        go_ret
        exact ⟨by rw [HT.out]; rfl, B⟩
      · have hd : decide ((4096 : Int) < (m : Int)) = false := by simp; omega
        by_cases h4 : k = (m : Int)
        · have HT := Lib.hid (show t = 0 by rw [HE.out, if_neg h3, if_pos h4])
          have hb : (k != (m : Int)) = false := by rw [h4]; simp
          clear h4
          go_enter Try.func28, Try.ntmps28
          go_wp2_with fail
          refine (HN.out _ hl1 hs1 hs2).mono ?_
          rintro e w' ⟨rfl, rfl⟩
          go_wp2_with fail
          go_quiet ((go_at_call 39; exact quiet_eq (HN.out _ hl1 hs1 hs2)))
          go_wp2_with fail
          go_ret
          exact ⟨by rw [HT.out]; rfl, B.trans ((below_drews _ _).mono B.size)⟩
        · have HT := Lib.hid (show t = 14 by rw [HE.out, if_neg h3, if_neg h4])
          have hb : (k != (m : Int)) = true := by rw [bne_iff_ne]; exact h4
          clear h4
          go_enter Try.func28, Try.ntmps28
          go_wp2_with fail
          refine (HN.out _ hl1 hs1 hs2).mono ?_
          rintro e w' ⟨rfl, rfl⟩
          go_wp2_with fail
          go_quiet ((go_at_call 39; exact quiet_eq (HN.out _ hl1 hs1 hs2)))
          go_wp2_with fail
          go_ret
          exact ⟨by rw [HT.out]; rfl, B.trans ((below_drews _ _).mono B.size)⟩

end Go.Proofs.Ytfefkchjhooloaa

/-
  A slice of bytes that a call appends to, byte by byte.
-/
set_option maxRecDepth 100000
namespace Go.Proofs.Ytfefkchjhooloaa
open Go.RowKit

/-- The value is no slice yet, or one whose block, from B on, the call made itself. -/
def Owns (w : World) (B : Nat) (v : Value) (l : List Nat) : Prop := w.ownsRow B 5 1 v l.length (l.map U8)

theorem Owns.nil (w : World) (B : Nat) : Owns w B (.slice none 0 0) [] := World.ownsRow_nil _ _ _ _

theorem Owns.bytes {w : World} {B : Nat} {v : Value} {l : List Nat} (h : Owns w B v l) (hl : ∀ x, x ∈ l → x < 256) : Bytes w v l := by
  rcases h.2 with ⟨rfl, h0⟩ | ⟨g, cap, cur, rfl, hB, hg, hn, hc, hsz, ht⟩
  · have e : l = [] := List.length_eq_zero_iff.1 h0
    subst e
    exact ⟨none, 0, rfl, by simp, by omega, by simp, fun h => absurd rfl h⟩
  · refine ⟨some ⟨g, 0, none⟩, cap, rfl, hn, by simpa [maxLen] using hc, hl, fun _ => ⟨g, 0, rfl, (Array.getElem?_eq_some_iff.1 hg).1, fun i hi => ?_⟩⟩
    have h1 := World.ownsRow.cells h (g := g) rfl i (U8 (nth l i)) (by rw [nth_eq l i hi]; simp [hi])
    rw [show (⟨g, 0, none⟩ : Addr).add i = ⟨g, i, none⟩ from by unfold Addr.add; split <;> simp_all] at h1
    rw [Nat.zero_add]; exact h1

theorem Owns.from {w : World} {B : Nat} {v : Value} {l : List Nat} (h : Owns w B v l) : ∀ k, v.ownBlock = some k → B ≤ k := fun k hk => (World.ownsRow.lt h k hk).1

theorem infoByte : (Try.prog.info? 5).map (fun i => (i.zero, i.size, i.bytes)) = some (some (.int .u8 0), 1, 1) := by kernel_rfl

/-- 'out = append(out, y)', of one byte. -/
theorem wpList_append_byte {ops : Array Oper} {rest : List Oper} {o : Oper} {a : Act} {Q : Exit → Act → World → Prop} {w : World} (hgd : o.guard = none) (s x : Operand) (ho : o.op = .call { callee := .builtin .append, args := #[s, x], argTypes := #[25, 25] })
    (B k : Nat) (v : Value) (l : List Nat) (y : Nat) (T : TypeId) (hs : a.eval s = v) (hx : a.eval x = .slice (some ⟨k, 0, none⟩) 1 1) (hk : k = w.heap.size) (hown : Owns w B v l) (hB : B ≤ w.heap.size) (hn : l.length + 1 ≤ 281474976710656 / 4)
    (h : ∀ v' w', Owns w' B v' (l ++ [y]) → w.grownBy w' v.ownBlock → wpList Try.prog ops Q rest (a.put o.dst v') w') :
    wpList Try.prog ops Q (o :: rest) a (w.alloc (.cells #[U8 y] T)) := by
  subst hk
  obtain ⟨i0, hi, hz0, hz1, hz2⟩ := info_parts infoByte
  refine wpList_append_own _ hgd s x 25 ho B 5 i0 (.int .u8 0) 1 1 Try.underlying25 hi hz0 hz1 hz2 rfl (by decide) v l.length (l.map U8) hs (World.ownsRow.alloc hown _)
    ⟨w.heap.size, 0, none⟩ 1 1 [U8 y] hx rfl ?_ ?_ ?_ ?_ ?_ ?_
  · intro j u hj
    match j, hj with
    | 0, hj => simp at hj; subst hj; simp [Addr.add]
  · intro u hu; simp at hu; subst hu; rfl
  · unfold maxLen; omega
  · omega
  · simp; omega
  · intro v' w' h1 h2 _
    refine h v' w' ?_ (grown_trans (World.grownBy_alloc w _ _) h2)
    unfold Owns
    simpa using h1

/-- The same, and an error's number. -/
def BytesE (w : World) (l : List Nat) (err : Int) (e : Ending) (w' : World) : Prop := ∃ v, e = .returned (.tuple #[v, .int .i64 err]) ∧ Bytes w' v l ∧ Below w.heap.size w w'
theorem Bytes.nil (w : World) : Bytes w (.slice none 0 0) [] := ⟨none, 0, rfl, by simp, by omega, by simp, fun h => absurd rfl h⟩

end Go.Proofs.Ytfefkchjhooloaa

/-
  A slice of bytes to which a call appends many at once; a slice of slices to which it appends one.
-/
set_option maxRecDepth 100000
namespace Go.Proofs.Ytfefkchjhooloaa
open Go.RowKit

theorem Owns.grown {w w' : World} {B : Nat} {v : Value} {l : List Nat} {row : Option Nat} (h : Owns w B v l) (hg : w.grownBy w' row) (hne : v.ownBlock = none ∨ v.ownBlock ≠ row) : Owns w' B v l := World.ownsRow.kept h hg hne

theorem Owns.shape {w : World} {B : Nat} {v : Value} {l : List Nat} (h : Owns w B v l) : ∃ a n c, v = .slice a n c := by
  rcases h.2 with ⟨rfl, _⟩ | ⟨g, cap, cur, rfl, _⟩
  · exact ⟨_, _, _, rfl⟩
  · exact ⟨_, _, _, rfl⟩

end Go.Proofs.Ytfefkchjhooloaa

/-
  Where bytes lead (layer 3), in plain numbers and in the document's answer (wellspringref03.Lead).
-/
set_option maxRecDepth 100000
namespace Go.Proofs.Ytfefkchjhooloaa
open Go.RowKit

/-- The first place whose byte isn't 0; as many as there are, where there is none. -/
def lead : List Nat → Nat
  | [] => 0
  | x :: l => if x = 0 then lead l + 1 else 0

end Go.Proofs.Ytfefkchjhooloaa

/-
  field.Add and field.Mul, of as many bytes as one likes.
-/
set_option maxRecDepth 100000
namespace Go.Proofs.Ytfefkchjhooloaa
open Go.RowKit

namespace Gf
def sum (l : List Nat) : Nat := l.foldl (· ^^^ ·) 0
end Gf

end Go.Proofs.Ytfefkchjhooloaa

/-
  Many bytes at once (layer 2) in the program: 'Scale', 'addTo'.
-/
set_option maxRecDepth 100000
namespace Go.Proofs.Ytfefkchjhooloaa
open Go.RowKit

namespace Gf
/-- Each byte times c. -/
def scale (c : Nat) (l : List Nat) : List Nat := l.map (mul c)
end Gf

/-- So much of the row is done, the rest is noughts. -/
def part (done : List Nat) (n : Nat) : List Nat := done ++ List.replicate (n - done.length) 0

namespace Gf
/-- Two rows, added. -/
def add (s r : List Nat) : List Nat := List.zipWith (· ^^^ ·) s r
end Gf

end Go.Proofs.Ytfefkchjhooloaa

/-
  Slices of slices of bytes in memory: what is said of one that is read; one that came in, opened.
-/
set_option maxRecDepth 100000
namespace Go.Proofs.Ytfefkchjhooloaa
open Go.ChangeShapes Go.WideShapes Go.ChangeAt Go.RowKit

/-- The row of a place: by a name of its own, so that the walk leaves it as it is. -/
def rowAt (ll : List (List Nat)) (i : Nat) : List Nat := ll.getD i []

/-- The value is a slice of slices that reads as these rows. -/
def IsRows (w : World) (v : Value) (ll : List (List Nat)) : Prop :=
  ∃ a cap, v = .slice a ll.length cap ∧ ll.length ≤ cap ∧ cap ≤ 9223372036854775807 ∧
    (ll ≠ [] → ∃ b off, a = some ⟨b, off, none⟩ ∧ b < w.heap.size ∧ ∀ i, i < ll.length → ∃ u, w.cell? ⟨b, off + i, none⟩ = some u ∧ Bytes w u (rowAt ll i))

theorem IsRows.below {w w' : World} {v : Value} {ll : List (List Nat)} {B : Nat} (h : IsRows w v ll) (hB : w.heap.size ≤ B) (hb : Below B w w') : IsRows w' v ll := by
  obtain ⟨a, cap, rfl, h1, h2, h4⟩ := h
  refine ⟨a, cap, rfl, h1, h2, fun hne => ?_⟩
  obtain ⟨b, off, rfl, hlt, hc⟩ := h4 hne
  refine ⟨b, off, rfl, Nat.lt_of_lt_of_le hlt hb.size, fun i hi => ?_⟩
  obtain ⟨u, hu, hu2⟩ := hc i hi
  exact ⟨u, by rw [hb.cell (p := ⟨b, off + i, none⟩) (by show b < B; omega)]; exact hu, hu2.below hB hb⟩
theorem IsRows.go {w w' : World} {v : Value} {ll : List (List Nat)} (h : IsRows w v ll) (hb : Below w.heap.size w w') : IsRows w' v ll := h.below (Nat.le_refl _) hb

theorem IsRows.cell {w : World} {b off n cap : Nat} {ll : List (List Nat)} (h : IsRows w (.slice (some ⟨b, off, none⟩) n cap) ll) (k : Nat) (hk : k < ll.length) : ∃ u, w.cell? ⟨b, off + k, none⟩ = some u ∧ Bytes w u (rowAt ll k) := by
  obtain ⟨a, cap', e, _, _, h4⟩ := h
  obtain ⟨b', off', rfl, _, hc⟩ := h4 (by intro h; rw [h] at hk; simp at hk)
  simp only [Value.slice.injEq, Option.some.injEq, Addr.mk.injEq] at e
  obtain ⟨⟨rfl, rfl, _⟩, _, _⟩ := e
  exact hc k hk

/-- A row's value is still there, where nothing below has turned. -/
theorem IsRows.at {w w' : World} {b off n cap : Nat} {ll : List (List Nat)} (h : IsRows w (.slice (some ⟨b, off, none⟩) n cap) ll) (hb : Below w.heap.size w w') (k : Nat) (hk : k < ll.length) : ∃ u, w'.cell? ⟨b, off + k, none⟩ = some u ∧ Bytes w u (rowAt ll k) := by
  obtain ⟨u, hu, hB⟩ := h.cell k hk
  exact ⟨u, by rw [hb.cell (p := ⟨b, off + k, none⟩) (World.block_lt_of_cell? w _ hu)]; exact hu, hB⟩

theorem rowAt_eq (ll : List (List Nat)) (i : Nat) (h : i < ll.length) : rowAt ll i = ll[i] := by
  unfold rowAt; rw [List.getD_eq_getElem?_getD, List.getElem?_eq_getElem h]; rfl
theorem take_rowAt (ll : List (List Nat)) (k : Nat) (h : k < ll.length) : ll.take (k + 1) = ll.take k ++ [rowAt ll k] := by
  rw [List.take_succ_eq_append_getElem h, rowAt_eq ll k h]

/-- A slice of slices of bytes that came in. -/
theorem open_rows {H : Type} {enc : TypeId × Value → H} {P : Program} {S T E : TypeId} (hS : P.underlying S = some (.slice T)) (hT : P.underlying T = some (.slice E)) (hE : P.underlying E = some (.int .u8)) (hcT : P.cellsOf T = 1) (hc : P.cellsOf E = 1) {W : World} {base : Nat} {v : Value} {d : DataW H} {p : List MemPlace}
    (hok : Value.okWide P W .any base S v) (h : DataW.Trod enc P W 0 (fun _ => true) true S v d p) (hlt : ∀ x ∈ p, x.block < W.heap.size) : ∃ ll, IsRows W v ll := by
  obtain ⟨a0, len, cap, rfl⟩ := okWide_slice hS hok
  obtain ⟨fuel, hf⟩ := h
  rcases Go.Deep.open_slice1 hS hcT hf with ⟨hcs, hx⟩ | ⟨a, len', cap', m, n, V, D, Pl, hcs, _, hl, hm, hmm, hx, hall⟩
  · simp [Value.cells] at hcs
    obtain ⟨rfl, rfl, rfl⟩ := hcs
    exact ⟨[], none, 0, rfl, by simp, by omega, fun h => absurd rfl h⟩
  · simp [Value.cells] at hcs
    obtain ⟨rfl, rfl, rfl⟩ := hcs
    simp only [Prod.mk.injEq] at hx
    obtain ⟨rfl, rfl⟩ := hx
    simp only [if_true] at hmm
    subst hmm
    have hrow : ∀ i, i < len → ∃ l, Bytes W (V i) l := fun i hi =>
      bytes_of_trod hT hE hc (hall i (by omega)).2 fun y hy => hlt y (List.mem_append_right _ (List.mem_flatMap.2 ⟨i, List.mem_range.2 (by omega), hy⟩))
    obtain ⟨L, hL⟩ := Go.Deep.choose_lt hrow
    have hlen : ((List.range len).map L).length = len := by simp
    refine ⟨(List.range len).map L, some a, m, by rw [hlen], by rw [hlen]; exact hl, by simpa [maxLen] using hm, fun hne => ?_⟩
    have hl0 : 0 < len := by
      cases len with
      | zero => simp at hne
      | succ n => omega
    obtain ⟨b, off, spot⟩ := a
    have hspot : spot = none := by simpa [Addr.add] using World.cell?_spot (hall 0 (by omega)).1
    subst hspot
    have hbW : b < W.heap.size := hlt (.cell b off) (List.mem_append_left _ (MemPlace.mem_row.2 ⟨0, by omega, by simp⟩))
    refine ⟨b, off, rfl, hbW, fun i hi => ?_⟩
    rw [hlen] at hi
    have hci := (hall i (by omega)).1
    rw [add_plain] at hci
    refine ⟨V i, hci, ?_⟩
    rw [rowAt_eq _ _ (by rw [hlen]; exact hi)]
    simpa using hL i hi

end Go.Proofs.Ytfefkchjhooloaa

/-
  Many bytes at once (layer 2) in the program: are rows alike? ('alike', its closure, and the library's IndexFunc and ContainsFunc over it).
-/
set_option maxRecDepth 100000
namespace Go.Proofs.Ytfefkchjhooloaa
open Go.RowKit

/-- A place was found, or none: which, it doesn't say. -/
def Found (t : Bool) (w : World) (e : Ending) (w' : World) : Prop := ∃ r : Int, e = .returned (.int .i64 r) ∧ decide (0 ≤ r) = t ∧ w = w'

end Go.Proofs.Ytfefkchjhooloaa

/-
  Many bytes at once (layer 2) in the program: 'blank', 'Axpy', 'Sum', 'Comb'.
-/
set_option maxRecDepth 100000
namespace Go.Proofs.Ytfefkchjhooloaa
open Go.RowKit

/-- Noughts, as many as the first row has bytes. -/
def zeros (n : Nat) : List Nat := List.replicate n 0

theorem zeros_lt (n : Nat) : ∀ x, x ∈ zeros n → x < 256 := by
  intro x hx
  have := List.eq_of_mem_replicate hx
  omega

end Go.Proofs.Ytfefkchjhooloaa
