/- Texts of one seat, laid together: Gf, Mul, Bytes, Frame, Own, Blk, RefPlan, PlanA, Lead, KernA, RefLess. -/
import Derived.Test.YtphdadibfeencaaDoorRows
import Derived.WalkKit
import Derived.WalkSpells
import Derived.WalkLawsBesides
import Derived.Lib.Hide
import Derived.ProofKit
import Derived.OpenShut
import Derived.BigQuiet
import Derived.Deep.Slices
import Derived.Deep.RegionHeld3
import Derived.Deep.QuietTactic

/-
  Bytes as a field (layer 1), in plain numbers: the product by shifting and adding, that it is the one of polynomials modulo 11D, and that it is commutative, associative and distributes. No program in this text.
-/
namespace Go.Proofs.YtphdadibfeencaaDoor
namespace Gf

/-- The product with x. -/
def dbl (a : Nat) : Nat := if a < 128 then 2 * a else (2 * a) ^^^ 285

/-- The product with x, n times. -/
def dblN (a : Nat) : Nat → Nat
  | 0 => a
  | n + 1 => dbl (dblN a n)

/-- The product, by the first k bits of b. -/
def mulK (a b : Nat) : Nat → Nat
  | 0 => 0
  | k + 1 => mulK a b k ^^^ (if b.testBit k then dblN a k else 0)

def mul (a b : Nat) : Nat := mulK a b 8

/-! ### exclusive or -/

theorem xor_lt {a b : Nat} (ha : a < 256) (hb : b < 256) : a ^^^ b < 256 := Nat.xor_lt_two_pow (n := 8) ha hb

theorem xor_four (a b c d : Nat) : (a ^^^ b) ^^^ (c ^^^ d) = (a ^^^ c) ^^^ (b ^^^ d) := by
  rw [Nat.xor_assoc, Nat.xor_assoc, ← Nat.xor_assoc b c d, Nat.xor_comm b c, Nat.xor_assoc c b d]

/-! ### doubling is linear -/

theorem dbl_alt (a : Nat) (h : a < 256) : dbl a = (2 * a) ^^^ (if a.testBit 7 then 285 else 0) := by
  have : ∀ a : Fin 256, dbl a.1 = (2 * a.1) ^^^ (if a.1.testBit 7 then 285 else 0) := by decide +kernel
  exact this ⟨a, h⟩

theorem dbl_lt {a : Nat} (h : a < 256) : dbl a < 256 := by
  have : ∀ a : Fin 256, dbl a.1 < 256 := by decide +kernel
  exact this ⟨a, h⟩

theorem ite_xor (p q : Bool) (c : Nat) : (if (p ^^ q) = true then c else 0) = (if p = true then c else 0) ^^^ (if q = true then c else 0) := by
  cases p <;> cases q <;> simp

theorem two_mul_xor (a b : Nat) : 2 * (a ^^^ b) = (2 * a) ^^^ (2 * b) := by
  apply Nat.eq_of_testBit_eq
  intro i
  have e : ∀ x : Nat, 2 * x = x <<< 1 := fun x => by rw [Nat.shiftLeft_eq, Nat.mul_comm]
  rw [e, e, e, Nat.testBit_shiftLeft, Nat.testBit_xor, Nat.testBit_xor, Nat.testBit_shiftLeft, Nat.testBit_shiftLeft]
  cases decide (i ≥ 1) <;> simp

theorem dbl_xor {a b : Nat} (ha : a < 256) (hb : b < 256) : dbl (a ^^^ b) = dbl a ^^^ dbl b := by
  rw [dbl_alt _ ha, dbl_alt _ hb, dbl_alt _ (xor_lt ha hb), Nat.testBit_xor, ite_xor, two_mul_xor, xor_four]

theorem dblN_lt {a : Nat} (h : a < 256) : ∀ n, dblN a n < 256
  | 0 => h
  | n + 1 => dbl_lt (dblN_lt h n)

theorem dblN_zero : ∀ n, dblN 0 n = 0
  | 0 => rfl
  | n + 1 => by simp only [dblN]; rw [dblN_zero n]; rfl

theorem dblN_add (a m : Nat) : ∀ n, dblN a (m + n) = dblN (dblN a m) n
  | 0 => rfl
  | n + 1 => by show dbl (dblN a (m + n)) = dbl (dblN (dblN a m) n); rw [dblN_add a m n]

theorem dblN_dbl (a : Nat) (n : Nat) : dblN (dbl a) n = dbl (dblN a n) := by
  have h := dblN_add a 1 n
  rw [Nat.add_comm] at h
  exact h.symm

/-! ### the product -/

theorem mulK_lt {a : Nat} (h : a < 256) (b : Nat) : ∀ k, mulK a b k < 256
  | 0 => Nat.zero_lt_succ _
  | k + 1 => by
    simp only [mulK]
    refine xor_lt (mulK_lt h b k) ?_
    split
    · exact dblN_lt h k
    · decide

theorem mulK_dbl {a : Nat} (ha : a < 256) (b : Nat) : ∀ k, mulK (dbl a) b k = dbl (mulK a b k)
  | 0 => rfl
  | k + 1 => by
    simp only [mulK]
    rw [mulK_dbl ha b k, dblN_dbl]
    cases b.testBit k
    · simp
    · simp only [if_true]; rw [dbl_xor (mulK_lt ha b k) (dblN_lt ha k)]

theorem mul_dbl {a : Nat} (ha : a < 256) (b : Nat) : mul (dbl a) b = dbl (mul a b) := mulK_dbl ha b 8

theorem mul_dblN {a : Nat} (ha : a < 256) (b : Nat) : ∀ n, mul (dblN a n) b = dblN (mul a b) n
  | 0 => rfl
  | n + 1 => by simp only [dblN]; rw [mul_dbl (dblN_lt ha n), mul_dblN ha b n]

theorem one_mul {b : Nat} (hb : b < 256) : mul 1 b = b := by
  have : ∀ b : Fin 256, mul 1 b.1 = b.1 := by decide +kernel
  exact this ⟨b, hb⟩

theorem mul_zero (a : Nat) : mul a 0 = 0 := by simp [mul, mulK]

theorem zero_mul (b : Nat) : mul 0 b = 0 := by
  have h : ∀ k, mulK 0 b k = 0 := by
    intro k
    induction k with
    | zero => rfl
    | succ k ih => simp [mulK, ih, dblN_zero]
  exact h 8

/-! ### powers of 2 -/

/-- 2 to the n. -/
def exp (n : Nat) : Nat := dblN 1 n

theorem exp_lt (n : Nat) : exp n < 256 := dblN_lt (by decide) n

/-- Doubled so often till it is a: how often. -/
def logF (a : Nat) : Nat → Nat → Nat → Nat
  | 0, _, n => n
  | f + 1, p, n => if p = a then n else logF a f (dbl p) (n + 1)

/-- Of which power of 2 it is one. -/
def log (a : Nat) : Nat := logF a 255 1 0

theorem log_spec : ∀ a : Fin 256, a.1 ≠ 0 → exp (log a.1) = a.1 ∧ log a.1 < 255 := by decide +kernel

theorem exp_log {a : Nat} (h : a < 256) (h0 : a ≠ 0) : exp (log a) = a := (log_spec ⟨a, h⟩ h0).1
theorem exp_add (m n : Nat) : exp (m + n) = dblN (exp m) n := dblN_add 1 m n

theorem exp_mul (n : Nat) {b : Nat} (hb : b < 256) : mul (exp n) b = dblN b n := by
  unfold exp; rw [mul_dblN (by decide), one_mul hb]

theorem exp_mul_exp (m n : Nat) : mul (exp m) (exp n) = exp (m + n) := by
  rw [exp_mul m (exp_lt n), Nat.add_comm, exp_add]

/-! ### the field -/

theorem mul_comm {a b : Nat} (ha : a < 256) (hb : b < 256) : mul a b = mul b a := by
  by_cases h0 : a = 0
  · rw [h0, zero_mul, mul_zero]
  by_cases h1 : b = 0
  · rw [h1, zero_mul, mul_zero]
  rw [← exp_log ha h0, ← exp_log hb h1, exp_mul_exp, exp_mul_exp, Nat.add_comm]

/-! ### powers -/

/-! ### the polynomials' product: first all of it, then what the modulus leaves -/

end Gf
end Go.Proofs.YtphdadibfeencaaDoor

/-
  The byte's product in the program: 'double', 'times', and that they answer the plain product of XGf.
-/
set_option maxRecDepth 100000
namespace Go.Proofs.YtphdadibfeencaaDoor
open Go.RowKit

/-- One byte out of two numbers. -/
abbrev U8 (n : Nat) : Value := .int .u8 (n : Int)

end Go.Proofs.YtphdadibfeencaaDoor

/-
  Slices of bytes in memory: what is said of one that is read, and that it stays where nothing below it turns.
-/
set_option maxRecDepth 100000
namespace Go.Proofs.YtphdadibfeencaaDoor
open Go.RowKit

/-- The element of a place: by a name of its own, so that the walk leaves it as it is. -/
def nth (l : List Nat) (i : Nat) : Nat := l.getD i 0

/-- The value is a slice that reads as these bytes. -/
def Bytes (w : World) (v : Value) (l : List Nat) : Prop :=
  ∃ a cap, v = .slice a l.length cap ∧ l.length ≤ cap ∧ cap ≤ 9223372036854775807 ∧ (∀ x, x ∈ l → x < 256) ∧
    (l ≠ [] → ∃ b off, a = some ⟨b, off, none⟩ ∧ b < w.heap.size ∧ ∀ i, i < l.length → w.cell? ⟨b, off + i, none⟩ = some (U8 (nth l i)))

end Go.Proofs.YtphdadibfeencaaDoor

/-
  What the statements' frames share: arguments read behind the call as before, where below the heap's old size nothing has turned; a slice of bytes that came in, opened.
-/
set_option maxRecDepth 100000
namespace Go.Proofs.YtphdadibfeencaaDoor
open Go.ChangeShapes Go.WideShapes Go.ChangeAt Go.RowKit

theorem own : ownKnob Tryd.prog.godebug = none := by kernel_rfl
theorem laidOut : laidOutB Tryd.prog = true := by kernel_rfl

theorem Below.trodAll {H : Type} {enc : TypeId × Value → H} {P : Program} (hl : laidOutB P = true) {W W' : World} (hb : Below W.heap.size W W') :
    ∀ {ts : List TypeId} {vs : List Value} {ds : List (DataW H)} {ps : List MemPlace}, (∀ t ∈ ts, P.readableRec t = true ∧ t < P.types.size) →
      DataW.TrodAll enc P W 0 (fun _ => true) true ts vs ds ps → (∀ x ∈ ps, x.block < W.heap.size) → DataW.TrodAll enc P W' 0 (fun b => decide (b < W.heap.size)) true ts vs ds ps
  | [], [], [], _, _, h, _ => h
  | t :: ts, v :: vs, d :: ds, _, ht, ⟨p, q, h1, h2, e⟩, hlt =>
    ⟨p, q, Go.RowKit.Below.trod hl (ht t (by simp)).1 (ht t (by simp)).2 h1 hb (fun x hx => hlt x (by rw [e]; exact List.mem_append_left _ hx)),
      Below.trodAll hl hb (fun t' h' => ht t' (by simp [h'])) h2 (fun x hx => hlt x (by rw [e]; exact List.mem_append_right _ hx)), e⟩
  | [], _ :: _, _, _, _, h, _ => h.elim
  | [], [], _ :: _, _, _, h, _ => h.elim
  | _ :: _, [], _, _, _, h, _ => h.elim
  | _ :: _, _ :: _, [], _, _, h, _ => h.elim

/-- An int that came in. -/
theorem int_of {x : Int} (h : (Lit.int .i64 x).wf = true) : -9223372036854775808 ≤ x ∧ x ≤ 9223372036854775807 := by
  have h1 : IntKind.i64.min = -9223372036854775808 := rfl
  have h2 : IntKind.i64.max = 9223372036854775807 := rfl
  simp only [Lit.wf, Bool.and_eq_true, decide_eq_true_eq] at h
  omega

theorem u32_of {x : Int} (h : (Lit.int .u32 x).wf = true) : ∃ n : Nat, x = (n : Int) ∧ n < 4294967296 := by
  have h1 : IntKind.u32.min = 0 := rfl
  have h2 : IntKind.u32.max = 4294967295 := rfl
  simp only [Lit.wf, Bool.and_eq_true, decide_eq_true_eq] at h
  exact ⟨x.toNat, by omega, by omega⟩
end Go.Proofs.YtphdadibfeencaaDoor

/-
  A block of bytes that a call made itself: what it holds, what a store makes of it, and that it stays where others are written.
-/
set_option maxRecDepth 100000
namespace Go.Proofs.YtphdadibfeencaaDoor
open Go.RowKit

theorem grown_trans {a b c : World} {row : Option Nat} (h : a.grownBy b row) (k : b.grownBy c row) : a.grownBy c row :=
  ⟨k.os.trans h.os, k.tape.trans h.tape, k.output.trans h.output, Nat.le_trans h.size k.size, fun i hi hn => (k.block i (Nat.lt_of_lt_of_le hi h.size) hn).trans (h.block i hi hn)⟩
theorem grown_setCell (w : World) (p : Addr) (u : Value) : w.grownBy (w.setCell p u) (some p.block) :=
  ⟨rfl, rfl, rfl, by simp [World.setCell], fun k _ hn => Below.heap_setCell w p u k (fun e => hn (by rw [e]))⟩
/-- One row of those from B on was written. -/
theorem below_grown {B g : Nat} {a b c : World} (h : Below B a b) (hg : b.grownBy c (some g)) (hB : B ≤ b.heap.size) (hgB : B ≤ g) : Below B a c :=
  h.grown hg hB (fun _ e => by cases e; exact hgB)

end Go.Proofs.YtphdadibfeencaaDoor

/-
  A block of whatever values (a struct's box, a variable, a result): what it holds, and that it stays where others are written.
-/
set_option maxRecDepth 100000
namespace Go.Proofs.YtphdadibfeencaaDoor
open Go.RowKit

/-- Block g holds these values, of that type, and isn't frozen. -/
def Blk (w : World) (g : Nat) (vs : Array Value) (T : TypeId) : Prop := w.heap[g]? = some (.cells vs T)

theorem Blk.lt {w : World} {g : Nat} {vs : Array Value} {T : TypeId} (h : Blk w g vs T) : g < w.heap.size := (Array.getElem?_eq_some_iff.1 h).1
theorem Blk.cell {w : World} {g : Nat} {vs : Array Value} {T : TypeId} (h : Blk w g vs T) (k : Nat) : w.cell? ⟨g, k, none⟩ = vs[k]? := cell_of_row w g k _ _ (0, 0) h
theorem Blk.free {w : World} {g : Nat} {vs : Array Value} {T : TypeId} (h : Blk w g vs T) (k : Nat) : w.frozen? ⟨g, k, none⟩ = false := frozen_of_row w g k _ _ h
theorem Blk.new (w : World) (vs : Array Value) (T : TypeId) (g : Nat) (hg : g = w.heap.size) : Blk (w.alloc (.cells vs T)) g vs T := by subst hg; exact heap_alloc_new w _
theorem Blk.alloc {w : World} {g : Nat} {vs : Array Value} {T : TypeId} (h : Blk w g vs T) (o : Obj) : Blk (w.alloc o) g vs T := by
  unfold Blk; rw [Below.heap_alloc w o g h.lt]; exact h
theorem Blk.below {w w' : World} {g B : Nat} {vs : Array Value} {T : TypeId} (h : Blk w g vs T) (hB : g < B) (hb : Below B w w') : Blk w' g vs T := by
  unfold Blk; rw [hb.block g hB]; exact h
theorem Blk.same {w w' : World} {g : Nat} {vs : Array Value} {T : TypeId} (h : Blk w g vs T) (hb : Below w.heap.size w w') : Blk w' g vs T := h.below h.lt hb
theorem Blk.grown {w w' : World} {g : Nat} {row : Option Nat} {vs : Array Value} {T : TypeId} (h : Blk w g vs T) (hg : w.grownBy w' row) (hne : some g ≠ row) : Blk w' g vs T := by
  unfold Blk; rw [hg.block g h.lt hne]; exact h

theorem Blk.set {w : World} {g : Nat} {vs : Array Value} {T : TypeId} (h : Blk w g vs T) (k : Nat) (v : Value) : Blk (w.setCell ⟨g, k, none⟩ v) g (vs.setIfInBounds k v) T := by
  unfold Blk World.setCell
  have e : w.heap[g]? = some (.cells vs T) := h
  simp [Array.getElem?_modify, e]

/-! ### What is known, carried over a call that turns nothing of what was there -/

theorem Blk.go {w w' : World} {g : Nat} {vs : Array Value} {T : TypeId} (h : Blk w g vs T) (hb : Below w.heap.size w w') : Blk w' g vs T := h.same hb

/-- New blocks, one behind the other. -/
theorem blocks1 (w : World) (c1 : Array Value) (T1 : TypeId) : Below w.heap.size w (w.alloc (.cells c1 T1)) ∧ Blk (w.alloc (.cells c1 T1)) w.heap.size c1 T1 ∧ (w.alloc (.cells c1 T1)).heap.size = w.heap.size + 1 :=
  ⟨(Below.refl _ _).alloc (Nat.le_refl _) _, Blk.new w c1 T1 _ rfl, by simp⟩
theorem blocks2 (w : World) (c1 : Array Value) (T1 : TypeId) (c2 : Array Value) (T2 : TypeId) : Below w.heap.size w ((w.alloc (.cells c1 T1)).alloc (.cells c2 T2)) ∧ Blk ((w.alloc (.cells c1 T1)).alloc (.cells c2 T2)) w.heap.size c1 T1 ∧
    Blk ((w.alloc (.cells c1 T1)).alloc (.cells c2 T2)) (w.heap.size + 1) c2 T2 ∧ ((w.alloc (.cells c1 T1)).alloc (.cells c2 T2)).heap.size = w.heap.size + 1 + 1 := by
  obtain ⟨b, k1, s⟩ := blocks1 w c1 T1
  obtain ⟨b', k2, s'⟩ := blocks1 (w.alloc (.cells c1 T1)) c2 T2
  rw [s] at k2 s'
  exact ⟨b.trans (b'.mono b.size), k1.alloc _, k2, s'⟩
/-- A call in a region that only reads. -/
theorem quiet_eq {f : FuncId} {args : Array Value} {w : World} {n : Nat} {v : Value} (h : Calls Tryd.prog f args (w.drewN n) fun e w' => e = .returned v ∧ w.drewN n = w') :
    Calls Tryd.prog f args (w.drewN n) fun e w'' => e = .returned v ∧ ∃ m, w'' = w.drewN m := h.mono fun _ _ ⟨he, hm⟩ => ⟨he, n, hm.symm⟩
theorem below_drews (w : World) (n : Nat) : Below w.heap.size w (w.drewN n) := by
  induction n with
  | zero => exact Below.refl _ _
  | succ n ih => exact ih.drew

end Go.Proofs.YtphdadibfeencaaDoor

/-
  The document's answer for plans (wellspringref10), in the program: 'Needs', 'Check'.
-/
set_option maxRecDepth 100000
namespace Go.Proofs.YtphdadibfeencaaDoor
open Go.RowKit

/-- How many symbols a length needs; at most 4097 are told. -/
def needsN (l s : Nat) : Nat := if l ≤ s then 1 else if 4097 * s < l then 4097 else (l - 1) / s + 1
theorem needs_at {l s n : Nat} (h0 : n = 0 ∨ n * s < l) (h1 : l ≤ (n + 1) * s) (hn : n ≤ 4096) : needsN l s = n + 1 := by
  unfold needsN
  by_cases h : l ≤ s
  · rw [if_pos h]
    rcases h0 with rfl | h0
    · rfl
    · cases n with
      | zero => rfl
      | succ n =>
        rw [Nat.succ_mul] at h0
        have := Nat.zero_le (n * s)
        omega
  · rw [if_neg h]
    have hne : n ≠ 0 := by rintro rfl; omega
    have h2 : n * s < l := h0.resolve_left hne
    have h3 : (n + 1) * s ≤ 4097 * s := Nat.mul_le_mul_right s (by omega)
    rw [if_neg (by omega), Nat.div_eq_of_lt_le (k := n) (by omega) (by omega)]
theorem needs_end {l s : Nat} (hs : 1 ≤ s) (h0 : 4097 * s < l) : needsN l s = 4097 := by
  unfold needsN
  rw [if_neg (by omega), if_pos h0]

set_option maxHeartbeats 1000000 in
theorem refneeds_any (l s : Nat) (w : World) (hl : l ≤ 9223372036854775807) (hs : 1 ≤ s) (hs2 : s ≤ 9223372036854775807) :
    Calls Tryd.prog 8 #[.int .i64 (l : Int), .int .i64 (s : Int)] w fun e w' => e = .returned (.int .i64 (needsN l s : Int)) ∧ w = w' := by
  obtain ⟨t, ht⟩ : ∃ t, t = needsN l s := ⟨_, rfl⟩
  rw [← ht]
  have HT := Lib.hid ht
  clear ht
  go_enter Tryd.func8, Tryd.ntmps8
  go_wp2_with fail
  go_loop [0, 5] (fun d i => ∃ (n : Nat) (x : Int), n ≤ 4097 ∧ i = .int .i64 n ∧ d = .int .i64 x ∧ Hid (x = (l : Int) - ((n * s : Nat) : Int)) ∧ (n = 0 ∨ n * s < l)) (fun _ i => 4097 - (intOf i).toNat)
  case atStart => exact ⟨0, l, by omega, rfl, rfl, Lib.hid (by simp), .inl rfl⟩
  case round =>
    obtain ⟨n, x, hn, rfl, rfl, HX, hpos⟩ := hrel
    have HP := Lib.hid hpos
    have hx := HX.out
    have hx0 : 0 ≤ x := by rcases hpos with rfl | h <;> simp at hx <;> omega
    have hx1 : x ≤ 9223372036854775807 := by omega
    clear hx
    by_cases hlt : n ≤ 4096
    · have hd1 : decide ((n : Int) ≤ 4096) = true := by simp; omega
      rcases (show (n = 0) ∨ (n ≠ 0 ∧ 0 < x) from by
        have := HX.out
        rcases hpos with h | h
        · exact .inl h
        · by_cases h0 : n = 0
          · exact .inl h0
          · exact .inr ⟨h0, by omega⟩) with h0 | ⟨h0, hx2⟩
      · have hd2 : ((n : Int) == 0) = true := by rw [h0]; rfl
        clear hpos h0
        by_cases hle : x ≤ (s : Int)
        · have HQ := Lib.hid (show t = n + 1 by
            rw [HT.out]
            refine needs_at HP.out ?_ hlt
            have := HX.out
            rw [Nat.succ_mul]; omega)
          go_wp2_with fail
          go_ret
          exact ⟨by rw [HQ.out]; simp, rfl⟩
        · have HX2 := Lib.hid (show x - (s : Int) = (l : Int) - (((n + 1) * s : Nat) : Int) by have := HX.out; rw [Nat.succ_mul]; omega)
          have HP2 := Lib.hid (show (n + 1) * s < l by have := HX2.out; omega)
          go_wp2_with fail
          go_round
          case rel => exact ⟨n + 1, x - s, by omega, by go_num, rfl, HX2, .inr HP2.out⟩
          case measure => simp [intOf]; omega
      · have hd2 : ((n : Int) == 0) = false := by rw [beq_eq_false_iff_ne]; omega
        clear hpos h0
        by_cases hle : x ≤ (s : Int)
        · have HQ := Lib.hid (show t = n + 1 by
            rw [HT.out]
            refine needs_at HP.out ?_ hlt
            have := HX.out
            rw [Nat.succ_mul]; omega)
          go_wp2_with fail
          go_ret
          exact ⟨by rw [HQ.out]; simp, rfl⟩
        · have HX2 := Lib.hid (show x - (s : Int) = (l : Int) - (((n + 1) * s : Nat) : Int) by have := HX.out; rw [Nat.succ_mul]; omega)
          have HP2 := Lib.hid (show (n + 1) * s < l by have := HX2.out; omega)
          go_wp2_with fail
          go_round
          case rel => exact ⟨n + 1, x - s, by omega, by go_num, rfl, HX2, .inr HP2.out⟩
          case measure => simp [intOf]; omega
    · have hd1 : decide ((n : Int) ≤ 4096) = false := by simp; omega
      have HQ := Lib.hid (show t = 4097 by
        rw [HT.out]
        have h4 : n = 4097 := by omega
        subst h4
        refine needs_end hs ?_
        rcases HP.out with h | h
        · omega
        · exact h)
      go_wp2_with fail
      go_ret
      exact ⟨by rw [HQ.out]; rfl, rfl⟩

/-- The code of a plan's check. -/
def checkE (l s k : Int) : Int := if l < 0 then 2 else if s < 1 ∨ 65535 < s then 4 else if 4096 < needsN l.toNat s.toNat then 5 else if k = (needsN l.toNat s.toNat : Int) then 0 else 14

set_option maxHeartbeats 1000000 in
theorem refcheck_any (l s k : Int) (id : Value) (w : World) (hl : l ≤ 9223372036854775807) (hid : ∃ n : Nat, id = .int .u32 n) :
    Calls Tryd.prog 9 #[.agg #[.int .i64 l, .int .i64 s, .int .i64 k, id]] w fun e w' => e = .returned (.int .i64 (checkE l s k)) ∧ Below w.heap.size w w' := by
  obtain ⟨n, rfl⟩ := hid
  have B : Below w.heap.size w (w.alloc (.cells #[.int .i64 l, .int .i64 s, .int .i64 k, .int .u32 (n : Int)] 26)) := (Below.refl _ _).alloc (Nat.le_refl _) _
  obtain ⟨t, ht⟩ : ∃ t, t = checkE l s k := ⟨_, rfl⟩
  rw [← ht]
  by_cases h0 : l < 0
  · have HT := Lib.hid (show t = 2 by rw [ht]; unfold checkE; rw [if_pos h0])
    clear ht
    go_enter Tryd.func9, Tryd.ntmps9
    go_wp2_with fail
    go_ret
    exact ⟨by rw [HT.out]; rfl, B⟩
  · obtain ⟨ln, rfl⟩ := Int.eq_ofNat_of_zero_le (show 0 ≤ l by omega)
    rcases (show s < 1 ∨ (1 ≤ s ∧ 65535 < s) ∨ (1 ≤ s ∧ s ≤ 65535) by omega) with h1 | ⟨h1, h2⟩ | ⟨h1, h2⟩
    · have HT := Lib.hid (show t = 4 by rw [ht]; unfold checkE; rw [if_neg h0, if_pos (.inl h1)])
      clear ht
      go_enter Tryd.func9, Tryd.ntmps9
      go_wp2_with fail
      go_ret
      exact ⟨by rw [HT.out]; rfl, B⟩
    · have HT := Lib.hid (show t = 4 by rw [ht]; unfold checkE; rw [if_neg h0, if_pos (.inr h2)])
      clear ht
      go_enter Tryd.func9, Tryd.ntmps9
      go_wp2_with fail
      go_ret
      exact ⟨by rw [HT.out]; rfl, B⟩
    · obtain ⟨sn, rfl⟩ := Int.eq_ofNat_of_zero_le (show 0 ≤ s by omega)
      have HE := Lib.hid (show t = if 4096 < needsN ln sn then 5 else if k = (needsN ln sn : Int) then 0 else 14 by
        rw [ht]; unfold checkE; rw [if_neg h0, if_neg (by omega)]; rfl)
      obtain ⟨m, hm⟩ : ∃ m, m = needsN ln sn := ⟨_, rfl⟩
      have HN := Lib.hid (refneeds_any ln sn)
      rw [← hm] at HE HN
      clear ht hm
      have hs1 : 1 ≤ sn := by omega
      have hl1 : ln ≤ 9223372036854775807 := by omega
      have hs2 : sn ≤ 9223372036854775807 := by omega
      by_cases h3 : 4096 < m
      · have HT := Lib.hid (show t = 5 by rw [HE.out, if_pos h3])
        have hd : decide ((4096 : Int) < (m : Int)) = true := by simp; omega
        go_enter Tryd.func9, Tryd.ntmps9
        go_wp2_with fail
        refine (HN.out _ hl1 hs1 hs2).mono ?_
        rintro e w' ⟨rfl, rfl⟩
        go_wp2_with fail
        go_ret
        exact ⟨by rw [HT.out]; rfl, B⟩
      · have hd : decide ((4096 : Int) < (m : Int)) = false := by simp; omega
        by_cases h4 : k = (m : Int)
        · have HT := Lib.hid (show t = 0 by rw [HE.out, if_neg h3, if_pos h4])
          have hb : (k != (m : Int)) = false := by rw [h4]; simp
          clear h4
          go_enter Tryd.func9, Tryd.ntmps9
          go_wp2_with fail
          refine (HN.out _ hl1 hs1 hs2).mono ?_
          rintro e w' ⟨rfl, rfl⟩
          go_wp2_with fail
          go_quiet ((go_at_call 8; exact quiet_eq (HN.out _ hl1 hs1 hs2)))
          go_wp2_with fail
          go_ret
          exact ⟨by rw [HT.out]; rfl, B.trans ((below_drews _ _).mono B.size)⟩
        · have HT := Lib.hid (show t = 14 by rw [HE.out, if_neg h3, if_neg h4])
          have hb : (k != (m : Int)) = true := by rw [bne_iff_ne]; exact h4
          clear h4
          go_enter Tryd.func9, Tryd.ntmps9
          go_wp2_with fail
          refine (HN.out _ hl1 hs1 hs2).mono ?_
          rintro e w' ⟨rfl, rfl⟩
          go_wp2_with fail
          go_quiet ((go_at_call 8; exact quiet_eq (HN.out _ hl1 hs1 hs2)))
          go_wp2_with fail
          go_ret
          exact ⟨by rw [HT.out]; rfl, B.trans ((below_drews _ _).mono B.size)⟩

end Go.Proofs.YtphdadibfeencaaDoor

/-
  Plans in the program (layer 10): 'need', 'Check'.
-/
set_option maxRecDepth 100000
namespace Go.Proofs.YtphdadibfeencaaDoor
open Go.RowKit

/-- How many symbols a length needs, however many. -/
def needT (l s : Nat) : Nat := if l ≤ s then 1 else (l - 1) / s + 1
theorem needT_eq {l s : Nat} (hs : 1 ≤ s) : needT l s = max 1 (l / s + if 0 < l % s then 1 else 0) := by
  unfold needT
  by_cases h : l ≤ s
  · rw [if_pos h]
    by_cases h1 : l = s
    · subst h1; rw [Nat.div_self (by omega), Nat.mod_self]; rfl
    · rw [Nat.div_eq_of_lt (by omega), Nat.mod_eq_of_lt (by omega)]
      split <;> rfl
  · rw [if_neg h]
    have h1 := Nat.div_add_mod l s
    have h2 := Nat.mod_lt l (show 0 < s by omega)
    have h4 : 1 ≤ l / s := (Nat.le_div_iff_mul_le (by omega)).2 (by omega)
    by_cases h3 : 0 < l % s
    · rw [if_pos h3]
      have e : (l - 1) / s = l / s := by
        obtain ⟨q, hq⟩ : ∃ q, q = l / s := ⟨_, rfl⟩
        obtain ⟨r, hr⟩ : ∃ r, r = l % s := ⟨_, rfl⟩
        rw [← hq, ← hr] at h1
        rw [← hr] at h2 h3
        have : l - 1 = s * q + (r - 1) := by omega
        rw [this, Nat.mul_add_div (by omega), Nat.div_eq_of_lt (by omega), ← hq]; omega
      rw [e]; omega
    · rw [if_neg h3]
      have e : (l - 1) / s = l / s - 1 := by
        obtain ⟨q, hq⟩ : ∃ q, l / s = q + 1 := ⟨l / s - 1, by omega⟩
        have h5 : l = s * (q + 1) := by rw [← hq]; omega
        have h6 : s * (q + 1) = s * q + s := Nat.mul_succ s q
        have : l - 1 = s * q + (s - 1) := by omega
        rw [this, Nat.mul_add_div (by omega), Nat.div_eq_of_lt (by omega), hq]; omega
      rw [e]; omega
theorem needT_many {l s : Nat} (hs : 1 ≤ s) : 4096 < needT l s ↔ 4096 < needsN l s := by
  unfold needT needsN
  by_cases h : l ≤ s
  · rw [if_pos h, if_pos h]
  · rw [if_neg h, if_neg h]
    by_cases h2 : 4097 * s < l
    · rw [if_pos h2]
      have : 4097 ≤ (l - 1) / s := (Nat.le_div_iff_mul_le (by omega)).2 (by omega)
      omega
    · rw [if_neg h2]
theorem needT_few {l s : Nat} (hs : 1 ≤ s) (h : ¬ 4096 < needT l s) : needT l s = needsN l s := by
  unfold needT needsN at *
  by_cases h1 : l ≤ s
  · rw [if_pos h1, if_pos h1]
  · rw [if_neg h1] at h
    rw [if_neg h1, if_neg h1, if_neg]
    intro h2
    have : 4097 ≤ (l - 1) / s := (Nat.le_div_iff_mul_le (by omega)).2 (by omega)
    omega
/-- What need answers. -/
def needI (l s : Int) : Int := if s < 1 then 0 else if l < 0 then 1 else (needT l.toNat s.toNat : Int)
set_option maxHeartbeats 1000000 in
theorem need_pos (l s : Nat) (w : World) (hl : l ≤ 9223372036854775807) (hs : 1 ≤ s) (hs2 : s ≤ 9223372036854775807) :
    Calls Tryd.prog 18 #[.int .i64 (l : Int), .int .i64 (s : Int)] w fun e w' => e = .returned (.int .i64 (needT l s : Int)) ∧ w = w' := by
  have HE := Lib.hid (needT_eq (l := l) hs)
  obtain ⟨q, hq⟩ : ∃ q, q = l / s := ⟨_, rfl⟩
  obtain ⟨r, hr⟩ : ∃ r, r = l % s := ⟨_, rfl⟩
  have HQR := Lib.hid (show q * s + r = l by rw [hq, hr, Nat.mul_comm]; exact Nat.div_add_mod l s)
  rw [← hq, ← hr] at HE
  have hq1 : q ≤ l := by rw [hq]; exact Nat.div_le_self _ _
  have hqi : (l : Int) / (s : Int) = (q : Int) := by rw [hq]; rfl
  have hri : (l : Int) % (s : Int) = (r : Int) := by rw [hr]; rfl
  have hm : ¬ (s : Int) < 1 := by omega
  have hs0 : ¬ s = 0 := by omega
  have hrs : r < s := by rw [hr]; exact Nat.mod_lt _ (by omega)
  clear hq hr
  by_cases h : 0 < r
  · have HE2 := Lib.hid (show (needT l s : Int) = max 1 ((q : Int) + 1) by rw [HE.out, if_pos h]; omega)
    have h1 : (0 : Int) < (r : Int) := by omega
    have hq2 : q < 9223372036854775807 := by
      have : q * s + r ≤ l := by have := HQR.out; omega
      have : q ≤ q * s := Nat.le_mul_of_pos_right q (by omega)
      omega
    clear h HE
    go_enter Tryd.func18, Tryd.ntmps18
    go_wp2_with fail
    all_goals go_ret
    all_goals refine ⟨congrArg (fun z : Int => Ending.returned (.int .i64 z)) ?_, rfl⟩
    all_goals rw [HE2.out]; omega
  · have HE2 := Lib.hid (show (needT l s : Int) = max 1 (q : Int) by rw [HE.out, if_neg h]; omega)
    have h1 : ¬ (0 : Int) < (r : Int) := by omega
    clear h HE
    go_enter Tryd.func18, Tryd.ntmps18
    go_wp2_with fail
    all_goals go_ret
    all_goals refine ⟨congrArg (fun z : Int => Ending.returned (.int .i64 z)) ?_, rfl⟩
    all_goals rw [HE2.out]; omega
theorem need_none (l s : Int) (w : World) (hs : s < 1) :
    Calls Tryd.prog 18 #[.int .i64 l, .int .i64 s] w fun e w' => e = .returned (.int .i64 0) ∧ w = w' := by
  go_enter Tryd.func18, Tryd.ntmps18
  go_wp2_with fail
  go_ret
  exact ⟨rfl, rfl⟩
set_option maxHeartbeats 1000000 in
theorem need_neg (l : Int) (s : Nat) (w : World) (hl0 : -9223372036854775808 ≤ l) (hl : l < 0) (hs : 1 ≤ s) (hs2 : s ≤ 9223372036854775807) :
    Calls Tryd.prog 18 #[.int .i64 l, .int .i64 (s : Int)] w fun e w' => e = .returned (.int .i64 1) ∧ w = w' := by
  obtain ⟨m, rfl⟩ : ∃ m : Nat, l = -(m : Int) := ⟨l.natAbs, by omega⟩
  have hm0 : 1 ≤ m := by omega
  have hm : ¬ (s : Int) < 1 := by omega
  have hs0 : ¬ s = 0 := by omega
  obtain ⟨q, hq⟩ : ∃ q, q = m / s := ⟨_, rfl⟩
  have hqm : q ≤ m := by rw [hq]; exact Nat.div_le_self _ _
  have hqi : (m : Int) / (s : Int) = (q : Int) := by rw [hq]; rfl
  clear hq
  go_enter Tryd.func18, Tryd.ntmps18
  go_wp2_with fail
  all_goals go_ret
  all_goals refine ⟨congrArg (fun z : Int => Ending.returned (.int .i64 z)) ?_, rfl⟩
  all_goals omega
theorem need_any (l s : Int) (w : World) (hl0 : -9223372036854775808 ≤ l) (hl : l ≤ 9223372036854775807) (hs2 : s ≤ 9223372036854775807) :
    Calls Tryd.prog 18 #[.int .i64 l, .int .i64 s] w fun e w' => e = .returned (.int .i64 (needI l s)) ∧ w = w' := by
  unfold needI
  by_cases h : s < 1
  · rw [if_pos h]; exact need_none l s w h
  · rw [if_neg h]
    obtain ⟨s', rfl⟩ : ∃ s' : Nat, s = s' := ⟨s.toNat, by omega⟩
    by_cases h2 : l < 0
    · rw [if_pos h2]; exact need_neg l s' w hl0 h2 (by omega) (by omega)
    · rw [if_neg h2]
      obtain ⟨l', rfl⟩ : ∃ l' : Nat, l = l' := ⟨l.toNat, by omega⟩
      exact need_pos l' s' w (by omega) (by omega) (by omega)

/-- The program's code for a plan is the document's. -/
theorem check_spell (l s k : Int) : checkE l s k = if l < 0 then 2 else if s < 1 ∨ 65535 < s then 4 else if 4096 < needI l s then 5 else if k = needI l s then 0 else 14 := by
  unfold checkE needI
  by_cases h1 : l < 0
  · rw [if_pos h1, if_pos h1]
  · rw [if_neg h1, if_neg h1]
    by_cases h2 : s < 1 ∨ 65535 < s
    · rw [if_pos h2, if_pos h2]
    · have hs : 1 ≤ s.toNat := by omega
      have hm := needT_many (l := l.toNat) hs
      rw [if_neg h2, if_neg h2, if_neg (show ¬ s < 1 by omega), if_neg h1]
      by_cases h3 : 4096 < needT l.toNat s.toNat
      · rw [if_pos (hm.1 h3), if_pos (by omega)]
      · rw [if_neg (fun h => h3 (hm.2 h)), if_neg (show ¬ (4096 : Int) < (needT l.toNat s.toNat : Int) by omega), needT_few hs h3]
set_option maxHeartbeats 1000000 in
theorem check_any (l s k n : Int) (w : World) (hl0 : -9223372036854775808 ≤ l) (hl : l ≤ 9223372036854775807) (hs2 : s ≤ 9223372036854775807) :
    Calls Tryd.prog 10 #[.agg #[.int .i64 l, .int .i64 s, .int .i64 k, .int .u32 n]] w fun e w' => e = .returned (.int .i64 (checkE l s k)) ∧ Below w.heap.size w w' := by
  have hsp := check_spell l s k
  have HN := Lib.hid (fun w => need_any l s w hl0 hl hs2)
  obtain ⟨m, hm⟩ : ∃ m, m = needI l s := ⟨_, rfl⟩
  rw [← hm] at hsp HN
  clear hm
  by_cases h1 : l < 0
  · have HC := Lib.hid (show checkE l s k = 2 by rw [hsp, if_pos h1])
    clear hsp
    go_enter Tryd.func10, Tryd.ntmps10
    go_wp2_with fail
    go_ret
    exact ⟨by rw [HC.out]; rfl, (Below.refl _ _).alloc (Nat.le_refl _) _⟩
  · rw [if_neg h1] at hsp
    by_cases h2 : s < 1
    · have HC := Lib.hid (show checkE l s k = 4 by rw [hsp, if_pos (.inl h2)])
      clear hsp
      go_enter Tryd.func10, Tryd.ntmps10
      go_wp2_with fail
      go_ret
      exact ⟨by rw [HC.out]; rfl, (Below.refl _ _).alloc (Nat.le_refl _) _⟩
    · by_cases h3 : 65535 < s
      · have HC := Lib.hid (show checkE l s k = 4 by rw [hsp, if_pos (.inr h3)])
        clear hsp
        go_enter Tryd.func10, Tryd.ntmps10
        go_wp2_with fail
        go_ret
        exact ⟨by rw [HC.out]; rfl, (Below.refl _ _).alloc (Nat.le_refl _) _⟩
      · rw [if_neg (by omega)] at hsp
        by_cases h4 : 4096 < m
        · have HC := Lib.hid (show checkE l s k = 5 by rw [hsp, if_pos h4])
          clear hsp
          go_enter Tryd.func10, Tryd.ntmps10
          go_wp2_with fail
          refine (HN.out _).mono ?_
          rintro e w' ⟨rfl, rfl⟩
          go_wp2_with fail
          go_ret
          exact ⟨by rw [HC.out]; rfl, (Below.refl _ _).alloc (Nat.le_refl _) _⟩
        · rw [if_neg h4] at hsp
          by_cases h5 : k = m
          · have HC := Lib.hid (show checkE l s k = 0 by rw [hsp, if_pos h5])
            have h6 : (k != m) = false := by rw [h5]; simp
            clear hsp h5
            go_enter Tryd.func10, Tryd.ntmps10
            go_wp2_with fail
            refine (HN.out _).mono ?_
            rintro e w' ⟨rfl, rfl⟩
            go_wp2_with fail
            go_ret
            exact ⟨by rw [HC.out]; rfl, (Below.refl _ _).alloc (Nat.le_refl _) _⟩
          · have HC := Lib.hid (show checkE l s k = 14 by rw [hsp, if_neg h5])
            have h6 : (k != m) = true := by rw [bne_iff_ne]; exact h5
            clear hsp
            go_enter Tryd.func10, Tryd.ntmps10
            go_wp2_with fail
            refine (HN.out _).mono ?_
            rintro e w' ⟨rfl, rfl⟩
            go_wp2_with fail
            go_ret
            exact ⟨by rw [HC.out]; rfl, (Below.refl _ _).alloc (Nat.le_refl _) _⟩

end Go.Proofs.YtphdadibfeencaaDoor

/-
  Where bytes lead (layer 3), in plain numbers and in the document's answer (wellspringref03.Lead).
-/
set_option maxRecDepth 100000
namespace Go.Proofs.YtphdadibfeencaaDoor
open Go.RowKit

/-- The first place whose byte isn't 0; as many as there are, where there is none. -/
def lead : List Nat → Nat
  | [] => 0
  | x :: l => if x = 0 then lead l + 1 else 0

end Go.Proofs.YtphdadibfeencaaDoor

/-
  Many bytes at once (layer 2) in the program: 'Scale', 'addTo'.
-/
set_option maxRecDepth 100000
namespace Go.Proofs.YtphdadibfeencaaDoor
open Go.RowKit

namespace Gf
end Gf

namespace Gf
/-- Two rows, added. -/
def add (s r : List Nat) : List Nat := List.zipWith (· ^^^ ·) s r
end Gf

end Go.Proofs.YtphdadibfeencaaDoor

/-
  The document's answer for rows that lead (wellspringref03), in the program: 'Less'.
-/
set_option maxRecDepth 100000
namespace Go.Proofs.YtphdadibfeencaaDoor
open Go.RowKit

theorem add_comm (x y : List Nat) : Gf.add x y = Gf.add y x := by
  unfold Gf.add
  induction x generalizing y with
  | nil => cases y <;> rfl
  | cons a x ih =>
    cases y with
    | nil => rfl
    | cons b y => simp only [List.zipWith_cons_cons]; rw [ih y, Nat.xor_comm]

end Go.Proofs.YtphdadibfeencaaDoor
