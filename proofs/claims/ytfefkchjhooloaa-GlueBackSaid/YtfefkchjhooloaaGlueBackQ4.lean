/- Texts of one seat, laid together: CutA, VecA, La, LaB, LaC, LaL, RedMath, GridE, CutB, GlueA. -/
import Derived.Test.YtfefkchjhooloaaGlueBackQ2
import Derived.Test.YtfefkchjhooloaaGlueBackQ3
import Derived.Test.YtfefkchjhooloaaGlueBackQ1
import Derived.Laws.BytesArg
import Derived.Lib.SliceRun
import Derived.Deep.QuietTactic
import Derived.BigQuiet
import Derived.Shelf.Spec.SlicesInsert
import Derived.Laws.CopyOwn

/-
  Symbols of an object in the program (package cut): fit, symbol, Symbol, Spread.
-/
set_option maxRecDepth 100000
namespace Go.Proofs.Ytfefkchjhooloaa
open Go.RowKit

/-- 'o[i:]', of bytes. -/
theorem slice_rest {w : World} {a : Option Addr} {n c i : Nat} {l : List Nat} (h : Bytes w (.slice a n c) l) (hi : i ≤ l.length) :
    ∃ b m d, (∀ w' : World, (Instr.sliceAt 25 (.slice a n c) (some (.int .i64 (i : Int))) none none).run Try.prog w' = .ok (.slice b m d) w') ∧ Bytes w (.slice b m d) (l.drop i) := by
  have h' := h
  obtain ⟨a', c', e, h1, h2, h3, h4⟩ := h'
  simp only [Value.slice.injEq] at e
  obtain ⟨rfl, rfl, rfl⟩ := e
  have i1 : (i : Int) ≤ (l.length : Int) := by omega
  have i0 : (0 : Int) ≤ (i : Int) := Int.natCast_nonneg _
  have i2 : (l.length : Int) ≤ (c : Int) := by omega
  have i3 : (i : Int) ≤ (c : Int) := by omega
  cases a with
  | none =>
    have hl : l = [] := by
      refine Decidable.byContradiction fun hne => ?_
      obtain ⟨b, off, e, _⟩ := h4 hne
      cases e
    subst hl
    obtain rfl : i = 0 := by simpa using hi
    refine ⟨none, 0, c, fun w' => ?_, ?_⟩
    · go_simp
    · simpa using h
  | some p =>
    by_cases hl : l = []
    · subst hl
      obtain rfl : i = 0 := by simpa using hi
      refine ⟨?b, 0, c, fun w' => ?_, ?_⟩
      case b => exact if c = 0 then some p else some p
      · go_simp
      · simpa using h
    · obtain ⟨b, off, e, hlt, hc⟩ := h4 hl
      obtain rfl : p = ⟨b, off, none⟩ := by simpa using e
      by_cases hci : c = i
      · subst hci
        have hd : l.drop c = [] := List.drop_eq_nil_of_le h1
        have hz : l.length - c = 0 := by omega
        rw [hd]
        refine ⟨some ⟨b, off, none⟩, 0, 0, fun w' => ?_, ⟨_, 0, rfl, Nat.le_refl _, by omega, by simp, fun e => absurd rfl e⟩⟩
        go_simp
      · refine ⟨some ⟨b, off + i, none⟩, l.length - i, c - i, fun w' => ?_, ?_⟩
        · go_simp
        · exact h.drop hi _ (fun _ => rfl) _ _ rfl (by omega) (by omega)

set_option maxHeartbeats 1000000 in
theorem cutfit_any (l s k n : Int) (v : Value) (o : List Nat) (w : World) (hl0 : -9223372036854775808 ≤ l) (hl : l ≤ 9223372036854775807) (hs2 : s ≤ 9223372036854775807) (ho : Bytes w v o) :
    Calls Try.prog 26 #[.agg #[.int .i64 l, .int .i64 s, .int .i64 k, .int .u32 n], v] w fun e w' => e = .returned (.int .i64 (cutE l s k o)) ∧ Below w.heap.size w w' := by
  have HC := Lib.hid (fun w => check_any l s k n w hl0 hl hs2)
  have HO := Lib.hid ho
  obtain ⟨a, c, rfl, _⟩ := ho
  obtain ⟨h1, h2, h3⟩ := @cut_of l s k o
  obtain ⟨ce, hce⟩ : ∃ x, x = checkE l s k := ⟨_, rfl⟩
  rw [← hce] at h1 h2 h3 HC
  clear hce
  by_cases hc0 : ce = 0
  · subst hc0
    by_cases hol : (o.length : Int) = l
    · have HE := Lib.hid (h3 rfl hol).1
      have hb : ((o.length : Int) != l) = false := by rw [hol]; simp
      clear h1 h2 h3 hol
      rw [HE.out]
      go_enter Try.func26, Try.ntmps26
      go_wp2_with fail
      obtain ⟨B, hk1, hs⟩ := blocks1 w #[.int .i64 l, .int .i64 s, .int .i64 k, .int .u32 n] 24
      generalize (w.alloc (.cells #[.int .i64 l, .int .i64 s, .int .i64 k, .int .u32 n] 24)) = W at *
      have K1 := Lib.hid hk1
      have HS := Lib.hid hs
      clear hs hk1
      replace HO := Lib.hid (HO.out.go B)
      have hzW := B.size
      refine (HC.out _).mono ?_
      rintro e w1 ⟨rfl, hb⟩
      replace K1 := Lib.hid (K1.out.go hb)
      replace B := B.trans (hb.mono B.size)
      have hzw1 := B.size
      clear hb
      obtain ⟨p0, p1, p2, p3⟩ := K1.out.four
      have pl := K1.out.lt
      go_wp2_with fail
      go_ret
      exact ⟨rfl, B⟩
    · have HE := Lib.hid (h2 rfl hol).1
      have hb : ((o.length : Int) != l) = true := by rw [bne_iff_ne]; exact hol
      clear h1 h2 h3 hol
      rw [HE.out]
      go_enter Try.func26, Try.ntmps26
      go_wp2_with fail
      obtain ⟨B, hk1, hs⟩ := blocks1 w #[.int .i64 l, .int .i64 s, .int .i64 k, .int .u32 n] 24
      generalize (w.alloc (.cells #[.int .i64 l, .int .i64 s, .int .i64 k, .int .u32 n] 24)) = W at *
      have K1 := Lib.hid hk1
      have HS := Lib.hid hs
      clear hs hk1
      replace HO := Lib.hid (HO.out.go B)
      have hzW := B.size
      refine (HC.out _).mono ?_
      rintro e w1 ⟨rfl, hb⟩
      replace K1 := Lib.hid (K1.out.go hb)
      replace B := B.trans (hb.mono B.size)
      have hzw1 := B.size
      clear hb
      obtain ⟨p0, p1, p2, p3⟩ := K1.out.four
      have pl := K1.out.lt
      go_wp2_with fail
      go_ret
      exact ⟨rfl, B⟩
  · have HE := Lib.hid (h1 hc0).1
    have hb : (ce != 0) = true := by rw [bne_iff_ne]; exact hc0
    clear h1 h2 h3 hc0
    rw [HE.out]
    go_enter Try.func26, Try.ntmps26
    go_wp2_with fail
    obtain ⟨B, hk1, hs⟩ := blocks1 w #[.int .i64 l, .int .i64 s, .int .i64 k, .int .u32 n] 24
    generalize (w.alloc (.cells #[.int .i64 l, .int .i64 s, .int .i64 k, .int .u32 n] 24)) = W at *
    have K1 := Lib.hid hk1
    have HS := Lib.hid hs
    clear hs hk1
    replace HO := Lib.hid (HO.out.go B)
    have hzW := B.size
    refine (HC.out _).mono ?_
    rintro e w1 ⟨rfl, hb⟩
    replace K1 := Lib.hid (K1.out.go hb)
    replace B := B.trans (hb.mono B.size)
    have hzw1 := B.size
    clear hb
    go_wp2_with fail
    go_ret
    exact ⟨rfl, B⟩

theorem cutP_fit (o : List Nat) (s i : Nat) : fitR s (o.drop (i * s)) = cutP o s i s := by
  apply List.ext_getElem?
  intro j
  unfold fitR cutP zeros
  by_cases hj : j < s
  · rw [List.getElem?_map, List.getElem?_range hj, Option.map_some]
    by_cases h2 : j < (o.drop (i * s)).length
    · have h3 : i * s + j < o.length := by simp at h2; omega
      rw [List.getElem?_append_left (by rw [List.length_take]; omega), List.getElem?_take, if_pos hj, List.getElem?_drop, List.getElem?_eq_getElem h3, nth_eq o _ h3]
    · have h3 : o.length ≤ i * s + j := by simp at h2; omega
      have h4 : nth o (i * s + j) = 0 := by unfold nth; rw [List.getD_eq_getElem?_getD, List.getElem?_eq_none h3]; rfl
      rw [h4, List.getElem?_append_right (by rw [List.length_take]; omega), List.getElem?_replicate, if_pos]
      rw [List.length_take]; omega
  · rw [List.getElem?_eq_none (by simp; omega), List.getElem?_eq_none (by simp; omega)]

/-- A symbol that a call made. -/
def SymV (w : World) (l : List Nat) (e : Ending) (w' : World) : Prop := ∃ g, e = .returned (whole g l.length) ∧ Own w' g l ∧ w.heap.size ≤ g ∧ Below w.heap.size w w'
set_option maxHeartbeats 1000000 in
theorem cutsymbol_any (l k n : Int) (s i : Nat) (v : Value) (o : List Nat) (w : World) (hs : s ≤ 65535) (hi : i ≤ 65535) (his : i * s ≤ o.length) (ho : Bytes w v o) :
    Calls Try.prog 27 #[.agg #[.int .i64 l, .int .i64 (s : Int), .int .i64 k, .int .u32 n], v, .int .i64 (i : Int)] w (SymV w (cutP o s i s)) := by
  have HO := Lib.hid ho
  obtain ⟨a, c, rfl, _⟩ := ho
  have hmb := make_bytes s (by omega)
  obtain ⟨X, hX⟩ : ∃ X, X = i * s := ⟨_, rfl⟩
  have hm : IntKind.i64.wrap ((i : Int) * (s : Int)) = (X : Int) := by
    have e : (i : Int) * (s : Int) = (X : Int) := by rw [hX]; simp
    have : X ≤ 65535 * 65535 := by rw [hX]; exact Nat.mul_le_mul hi hs
    rw [e, IntKind.wrap_i64]; omega
  have HF := Lib.hid (show fitR s (o.drop X) = cutP o s i s by rw [hX]; exact cutP_fit o s i)
  rw [← hX] at his
  have HL := Lib.hid his
  clear hX his
  obtain ⟨b, m, d, hsl, hbr⟩ := slice_rest HO.out HL.out
  obtain ⟨W1, hW1⟩ : ∃ W1, W1 = w.alloc (.cells #[.int .i64 l, .int .i64 (s : Int), .int .i64 k, .int .u32 n] 24) := ⟨_, rfl⟩
  have hz1 : W1.heap.size = w.heap.size + 1 := by rw [hW1]; simp
  have hb1 : Below w.heap.size w W1 := by rw [hW1]; exact (Below.refl _ _).alloc (Nat.le_refl _) _
  obtain ⟨W2, hcp, hO2, hgr⟩ := copy_fit (m := s) (Own.new W1 (zeros s)) ((hbr.go hb1).go ((Below.refl W1.heap.size W1).alloc (Nat.le_refl _) (bytesObj (zeros s))))
  have hB2 : Below w.heap.size w W2 := hb1.trans ((below_grown ((Below.refl W1.heap.size W1).alloc (Nat.le_refl _) (bytesObj (zeros s))) hgr (by simp) (Nat.le_refl _)).mono (by omega))
  rw [hz1] at hcp hO2
  rw [hW1] at hcp
  rw [HF.out] at hO2
  have HO2 := Lib.hid hO2
  have HB2 := Lib.hid hB2
  obtain ⟨q, hq⟩ : ∃ q : Int, q = ((min (o.drop X).length s : Nat) : Int) := ⟨_, rfl⟩
  rw [← hq] at hcp
  have hcp2 : ∀ ty, (Builtin.copy_ #[25, 25] ty #[whole (w.heap.size + 1) s, .slice b m d]).run Try.prog ((w.alloc (.cells #[.int .i64 l, .int .i64 (s : Int), .int .i64 k, .int .u32 n] 24)).alloc (bytesObj (List.replicate s 0))) = .ok (goInt q) W2 := hcp
  clear hW1 hz1 hb1 hgr hO2 hB2 hbr hq hcp
  go_enter Try.func27, Try.ntmps27
  go_wp2_with fail
  go_ret
  exact ⟨w.heap.size + 1, by rw [cutP_length]; rfl, HO2.out, by omega, HB2.out⟩

theorem cut_fits {l s k : Int} {o : List Nat} (h : cutE l s k o = 0) : checkE l s k = 0 ∧ (o.length : Int) = l := by
  obtain ⟨h1, h2, h3⟩ := @cut_of l s k o
  by_cases hc : checkE l s k = 0
  · by_cases ho : (o.length : Int) = l
    · exact ⟨hc, ho⟩
    · rw [(h2 hc ho).1] at h; cases h
  · rw [(h1 hc).1] at h; exact absurd h hc
theorem cut_room {l s k : Int} (h : checkE l s k = 0) {i : Nat} (hi : (i : Int) < k) : i * s.toNat ≤ l.toNat := by
  obtain ⟨h1, h2, h3, h4, h5, h6⟩ := check_ok h
  have e : k.toNat = needsN l.toNat s.toNat := by omega
  have hn : needsN l.toNat s.toNat ≤ 4096 := by omega
  have hs : 1 ≤ s.toNat := by omega
  have hf : ¬ 4096 < needT l.toNat s.toNat := by rw [needT_many hs]; omega
  rw [← needT_few hs hf] at e
  unfold needT at e
  split at e
  · have : i = 0 := by omega
    subst this; simp
  · have h8 : i ≤ (l.toNat - 1) / s.toNat := by omega
    have := Nat.mul_le_of_le_div _ _ _ h8
    omega
theorem cutP_oct {o : List Nat} (h : ∀ x, x ∈ o → x < 256) (s i : Nat) : ∀ x, x ∈ cutP o s i s → x < 256 := cutP_lt h s i s

end Go.Proofs.Ytfefkchjhooloaa

/-
  Rows with a beginning (layer 3) in the program: 'Lead', 'At', 'Zero', 'Unit'.
-/
set_option maxRecDepth 100000
namespace Go.Proofs.Ytfefkchjhooloaa
open Go.RowKit


set_option maxHeartbeats 400000 in
theorem vzero_any (v : Value) (l : List Nat) (w : World) (hB : Bytes w v l) :
    Calls Try.prog 35 #[v] w fun e w' => e = .returned (.bool (zeroB l)) ∧ w = w' := by
  have H := Lib.hid (zero_any v l w hB)
  clear hB
  go_enter Try.func35, Try.ntmps35
  go_wp2_with fail
  refine (H.out).mono ?_
  rintro e w' ⟨rfl, rfl⟩
  go_wp2_with fail
  go_ret
  exact ⟨rfl, rfl⟩

end Go.Proofs.Ytfefkchjhooloaa

/-
  Linear algebra over bytes (layers 7 to 9), first part: the field as a type, sums, vectors, spans, where they lead, ranks. No program in this text.
-/
set_option maxRecDepth 100000
namespace Go.Proofs.Ytfefkchjhooloaa
namespace La

/-- A byte, as an element of the field. -/
structure B where
  val : Nat
  lt : val < 256

theorem B.ext {a b : B} (h : a.val = b.val) : a = b := by
  cases a; cases b; cases h; rfl

instance : OfNat B 0 := ⟨⟨0, by decide⟩⟩
instance : OfNat B 1 := ⟨⟨1, by decide⟩⟩
instance : Add B := ⟨fun a b => ⟨a.val ^^^ b.val, Gf.xor_lt a.lt b.lt⟩⟩
instance : Mul B := ⟨fun a b => ⟨Gf.mul a.val b.val, Gf.mul_lt a.lt b.val⟩⟩
instance : DecidableEq B := fun a b => if h : a.val = b.val then isTrue (B.ext h) else isFalse (fun e => h (by rw [e]))

theorem badd_comm (a b : B) : a + b = b + a := B.ext (Nat.xor_comm _ _)
theorem badd_assoc (a b c : B) : a + b + c = a + (b + c) := B.ext (Nat.xor_assoc _ _ _)
theorem bmul_comm (a b : B) : a * b = b * a := B.ext (Gf.mul_comm a.lt b.lt)
theorem bmul_assoc (a b c : B) : a * b * c = a * (b * c) := B.ext (Gf.mul_assoc a.lt b.lt c.val)
instance : Std.Associative (α := B) (· + ·) := ⟨badd_assoc⟩
instance : Std.Commutative (α := B) (· + ·) := ⟨badd_comm⟩
instance : Std.Associative (α := B) (· * ·) := ⟨bmul_assoc⟩
instance : Std.Commutative (α := B) (· * ·) := ⟨bmul_comm⟩

/-! ### Sums -/

/-! ### Vectors -/

abbrev Vc := Nat → B

def v0 : Vc := fun _ => 0
def va (x y : Vc) : Vc := fun i => x i + y i
def vs (c : B) (x : Vc) : Vc := fun i => c * x i

/-! ### Where vectors lead -/

def Lead (v : Vc) (i : Nat) : Prop := v i ≠ 0 ∧ ∀ j, j < i → v j = 0

/-! ### Ranks -/

/-! ### Reduced rows: there is one list of them alone -/

/-- Rows by rising places; each leads with a 1, where all others have a 0. -/
structure Red (E : List Vc) : Prop where
  rise : E.Pairwise fun x y => ∀ i j, Lead x i → Lead y j → i < j
  one : ∀ e ∈ E, ∃ i, Lead e i ∧ e i = 1
  clear : E.Pairwise fun x y => ∀ i, (Lead x i → y i = 0) ∧ (Lead y i → x i = 0)

end La
end Go.Proofs.Ytfefkchjhooloaa

/-
  Linear algebra over bytes, second part: combinations by their coefficients, matrices turned and multiplied, inverses. No program in this text.
-/
set_option maxRecDepth 100000
namespace Go.Proofs.Ytfefkchjhooloaa
namespace La

/-- The first m rows of a matrix. -/
def rows (A : Nat → Vc) (m : Nat) : List Vc := (List.range m).map A

/-! ### Turned -/

/-! ### Products -/

end La
end Go.Proofs.Ytfefkchjhooloaa

/-
  Linear algebra over bytes, third part: determinants by the first row (two is 0 here: no signs), and that one isn't 0 just where the rank is full. No program in this text.
-/
set_option maxRecDepth 100000
namespace Go.Proofs.Ytfefkchjhooloaa
namespace La

/-- The sum over all ways to take one of a list: of it, and of what is left. -/
def P (f : Nat → List Nat → B) : List Nat → B
  | [] => 0
  | x :: xs => f x xs + P (fun y ys => f y (x :: ys)) xs

/-- The determinant of rows, at these columns. -/
def D : List Vc → List Nat → B
  | [], _ => 1
  | r :: rs, cols => P (fun x rest => r x * D rs rest) cols

end La
end Go.Proofs.Ytfefkchjhooloaa

/-
  Rows of bytes as vectors: what the document's answers of layers 7 and 8 reckon, said of spans, ranks and determinants. No program in this text.
-/
set_option maxRecDepth 100000
namespace Go.Proofs.Ytfefkchjhooloaa
open La

/-- A byte, as an element of the field. -/
def bt (n : Nat) : B := ⟨n % 256, Nat.mod_lt _ (by decide)⟩
/-- Bytes, as a vector. -/
def fv (l : List Nat) : Vc := fun i => bt (nth l i)

/-! ### Rows: vector and data, one behind the other -/

/-- The vector alone. -/
def f1 (x : Rw) : Vc := fv x.1

end Go.Proofs.Ytfefkchjhooloaa

/-
  Rows as the program keeps them: each row that comes in is cleared of the others, and the others of it (layers 7 and 8). No program in this text.
-/
set_option maxRecDepth 100000
namespace Go.Proofs.Ytfefkchjhooloaa
open La
namespace Ro
/-- Each less as much of a row as it has where that leads. -/
def clean (E : List Rw) (y : Rw) : List Rw := E.map fun o => step o y
end Ro

end Go.Proofs.Ytfefkchjhooloaa

/-
  Slices that are made and filled, place by place: of slices of bytes, and of rows.
-/
set_option maxRecDepth 100000
namespace Go.Proofs.Ytfefkchjhooloaa
open Go.RowKit

theorem infoBytesSl : (Try.prog.info? 25).map (fun i => (i.zero, i.size, i.bytes)) = some (some (.slice none 0 0), 1, 24) := by kernel_rfl

/-- 'make([][]byte, n)'. -/
theorem make_rows (n : Nat) (hn : n ≤ 1000000000) (w : World) :
    (Instr.makeSlice 27 (.int .i64 (n : Int)) (.int .i64 (n : Int))).run Try.prog w = .ok (whole w.heap.size n) (w.alloc (.cells (Array.replicate n (.slice none 0 0)) 25)) := by
  obtain ⟨i0, hi, hz0, hz1, hz2⟩ := info_parts infoBytesSl
  have h := run_make (P := Try.prog) w 27 25 i0 _ Try.underlying27 hi hz0 .i64 .i64 (n : Int) (n : Int) (by omega) (by omega) (by rw [hz2]; omega) (by omega)
  rw [h]
  simp only [Int.toNat_natCast, hz1, Nat.mul_one]
  congr 3
  apply Array.toList_inj.1
  rw [show (Value.slice none 0 0).cells = #[.slice none 0 0] from rfl, toList_madeCells_one, Array.toList_replicate]
theorem noU8_all {l : List Value} (h : ∀ x ∈ l, ∀ k : Nat, x ≠ U8 k) : ∀ (i n : Nat), l.toArray[i]? ≠ some (U8 n) := fun i n e => by
  rw [List.getElem?_toArray] at e
  exact h _ (List.mem_of_getElem? e) n rfl
theorem OwnM.made {w : World} {B g n : Nat} {T : TypeId} (h : Blk w g (Array.replicate n (.slice none 0 0)) T) (hB : B ≤ g) (hn : n ≤ 1000000000) : OwnM w B T (whole g n) (List.replicate n []) := by
  rw [show Array.replicate n (Value.slice none 0 0) = (List.replicate n (Value.slice none 0 0)).toArray by simp] at h
  have hE : EachB w (List.replicate n (.slice none 0 0)) (List.replicate n []) := ⟨by simp, fun i u hu => by
    have hu' := List.mem_of_getElem? hu
    rw [List.mem_replicate] at hu'
    rw [hu'.2]
    have : rowAt (List.replicate n []) i = [] := by
      unfold rowAt
      rw [List.getD_eq_getElem?_getD, List.getElem?_replicate]
      split <;> rfl
    rw [this]; exact Bytes.nil w⟩
  refine ⟨List.replicate n (.slice none 0 0), ⟨⟨by simp, .inr ⟨g, n, _, by simp, hB, h, by simp, by unfold maxLen; omega, by simp, by simp⟩⟩, fun k e => ?_⟩, hE⟩
  simp only [Value.ownBlock, Option.some.injEq] at e
  subst e
  exact Loose.of_blk h (noU8_all fun x hx => (hE.noU8 x hx).1)
theorem OwnM.free {w : World} {B g n c : Nat} {T : TypeId} {L : List (List Nat)} (h : OwnM w B T (.slice (some ⟨g, 0, none⟩) n c) L) (j : Nat) : w.frozen? ⟨g, j, none⟩ = false := by
  obtain ⟨a, c', e⟩ := h.shape
  simp only [Value.slice.injEq] at e
  obtain ⟨_, rfl, _⟩ := e
  obtain ⟨us, ⟨h1, _⟩, _⟩ := h
  exact World.ownsRow.frozenAt h1 j
theorem OwnM.cell {w : World} {B g n c : Nat} {T : TypeId} {L : List (List Nat)} (h : OwnM w B T (.slice (some ⟨g, 0, none⟩) n c) L) (k : Nat) (hk : k < L.length) : ∃ a d, w.cell? ⟨g, k, none⟩ = some (.slice a (rowAt L k).length d) ∧ Bytes w (.slice a (rowAt L k).length d) (rowAt L k) := by
  obtain ⟨u, hu, hb⟩ := h.rows.cell k hk
  rw [Nat.zero_add] at hu
  obtain ⟨a, d, rfl, _⟩ := id hb
  exact ⟨a, d, hu, hb⟩
/-- A slice of bytes stored at a place. -/
theorem OwnM.set {w : World} {B g n cap : Nat} {T : TypeId} {L : List (List Nat)} (h : OwnM w B T (.slice (some ⟨g, 0, none⟩) n cap) L) (k : Nat) (hk : k < L.length) {x : Value} {r : List Nat} (hx : Bytes w x r) :
    OwnM (w.setCell ⟨g, k, none⟩ x) B T (.slice (some ⟨g, 0, none⟩) n cap) (L.set k r) ∧ Soft w (w.setCell ⟨g, k, none⟩ x) ∧ w.grownBy (w.setCell ⟨g, k, none⟩ x) (some g) := by
  obtain ⟨a, c, e⟩ := h.shape
  simp only [Value.slice.injEq] at e
  obtain ⟨_, rfl, _⟩ := e
  obtain ⟨us, h1, h2⟩ := h
  obtain ⟨s1, hg⟩ := World.ownsRow.stored h1.1 k x
  have nx : ∀ m : Nat, x ≠ U8 m := by obtain ⟨a, c, rfl, _⟩ := hx; exact slice_ne _ _ _
  have hk' : k < us.length := by rw [h2.len]; exact hk
  obtain ⟨cur, fr, hcur⟩ : ∃ cur fr, w.heap[g]? = some (.cells cur T fr) := by
    rcases h1.1.2 with ⟨e, _⟩ | ⟨g', cap', cur, e, _, hgg, _⟩
    · cases e
    · simp only [Value.slice.injEq, Option.some.injEq, Addr.mk.injEq] at e
      obtain ⟨⟨rfl, _⟩, _⟩ := e
      exact ⟨cur, (0, 0), hgg⟩
  have hloose := h1.2 g rfl
  have hl2 : Loose (w.setCell ⟨g, k, none⟩ x) g := by
    intro i m
    have e1 : (w.setCell ⟨g, k, none⟩ x).heap[g]? = some (.cells (cur.setIfInBounds k x) T fr) := by
      unfold World.setCell
      simp [Array.getElem?_modify, hcur]
    rw [cell_of_row _ g i _ _ fr e1]
    have e2 := hloose i m
    rw [cell_of_row w g i cur T fr hcur] at e2
    rw [Array.getElem?_setIfInBounds]
    intro e3
    split at e3
    · split at e3
      · exact nx m (Option.some.inj e3)
      · cases e3
    · exact e2 e3
  have hs : Soft w (w.setCell ⟨g, k, none⟩ x) := Soft.of_grown hg fun b e => by
    simp only [Option.some.injEq] at e
    subst e; exact ⟨hloose, hl2⟩
  refine ⟨⟨us.set k x, ⟨?_, fun b e => ?_⟩, ⟨by simp [h2.len], fun i u hu => ?_⟩⟩, hs, hg⟩
  · rw [List.length_set]; exact s1
  · simp only [Value.ownBlock, Option.some.injEq] at e
    subst e; exact hl2
  · rw [List.getElem?_set] at hu
    by_cases hki : k = i
    · subst hki
      rw [if_pos rfl, if_pos hk'] at hu
      simp only [Option.some.injEq] at hu
      subst hu
      rw [show rowAt (L.set k r) k = r from by rw [rowAt_eq _ _ (by simpa using hk)]; simp]
      exact hx.soft hs
    · rw [if_neg hki] at hu
      rw [show rowAt (L.set k r) i = rowAt L i from by unfold rowAt; rw [List.getD_eq_getElem?_getD, List.getElem?_set, if_neg hki, ← List.getD_eq_getElem?_getD]]
      exact (h2.row i u hu).soft hs

/-- Rows filled in, as far as they are. -/
def fillM (R : List (List Nat)) (k : Nat) : List (List Nat) := R.take k ++ List.replicate (R.length - k) []
theorem fillM_length {R : List (List Nat)} {k : Nat} (h : k ≤ R.length) : (fillM R k).length = R.length := by simp [fillM]; omega
theorem fillM_zero (R : List (List Nat)) : fillM R 0 = List.replicate R.length [] := by simp [fillM]
theorem fillM_all (R : List (List Nat)) : fillM R R.length = R := by simp [fillM]
theorem fillM_set {R : List (List Nat)} {k : Nat} (h : k < R.length) : (fillM R k).set k (rowAt R k) = fillM R (k + 1) := by
  unfold fillM
  have e0 : (R.take k).length = k := by rw [List.length_take, Nat.min_eq_left (by omega)]
  rw [List.set_append_right _ _ (by omega), e0, Nat.sub_self, show R.length - k = (R.length - (k + 1)) + 1 by omega, List.replicate_succ, List.set_cons_zero, take_rowAt R k h, List.append_assoc]
  rfl

/-! ### Rows of two slices -/

end Go.Proofs.Ytfefkchjhooloaa

/-
  Symbols of an object in the program (package cut): Cut.
-/
set_option maxRecDepth 100000
namespace Go.Proofs.Ytfefkchjhooloaa
open Go.RowKit

theorem cutL_at {o : List Nat} {s k j : Nat} (hj : j < k) : rowAt (cutL o s k) j = cutP o s j s := by
  rw [rowAt_eq _ _ (by rw [cutL_length]; exact hj)]
  simp [cutL]
/-- No block of the elder world was turned. -/
def Since (a b : World) : Prop := Below a.heap.size a b
theorem Since.go {a b c : World} (h : Since a b) (hb : Below b.heap.size b c) : Since a c := Below.trans h (hb.mono (Below.size h))
theorem Bytes.since {w w' : World} {v : Value} {l : List Nat} (h : Bytes w v l) (hs : Since w w') : Bytes w' v l := h.below (Nat.le_refl _) hs
set_option maxHeartbeats 2000000 in
theorem cutCut_any (l s k n : Int) (v : Value) (o : List Nat) (w : World) (hl0 : -9223372036854775808 ≤ l) (hl : l ≤ 9223372036854775807) (hs2 : s ≤ 9223372036854775807) (ho : Bytes w v o) :
    Calls Try.prog 9 #[.agg #[.int .i64 l, .int .i64 s, .int .i64 k, .int .u32 n], v] w (CutV w (cutS l s k o) (cutE l s k o)) := by
  have HF := Lib.hid (fun w ho => cutfit_any l s k n v o w hl0 hl hs2 ho)
  have HO := Lib.hid ho
  obtain ⟨a, c, rfl, _⟩ := ho
  by_cases hc0 : cutE l s k o = 0
  · have hck := (cut_fits hc0).1
    have hol := (cut_fits hc0).2
    have HE := Lib.hid (show cutE l s k o = 0 from hc0)
    have HS0 := Lib.hid (show cutS l s k o = cutL o s.toNat k.toNat by unfold cutS; rw [if_pos hc0])
    rw [hc0] at HF
    rw [HE.out, HS0.out]
    obtain ⟨q1, q2, q3, q4, q5, -⟩ := check_ok hck
    have HR := Lib.hid (fun (i : Nat) (h : (i : Int) < k) => cut_room hck h)
    obtain ⟨s', hs'⟩ : ∃ s' : Nat, s = s' := ⟨s.toNat, by omega⟩
    obtain ⟨k', hk'⟩ : ∃ k' : Nat, k = k' := ⟨k.toNat, by omega⟩
    rw [hs'] at HF HR q2 q3 ⊢
    rw [hk'] at HF HR q4 q5 ⊢
    have HOL := Lib.hid (show l.toNat = o.length by omega)
    clear hck hol hc0 hs' hk' HS0 HE hs2 s k
    simp only [Int.toNat_natCast] at HR ⊢
    have HQ := Lib.hid (show s' ≤ 65535 ∧ k' ≤ 4096 by omega)
    have hmk := make_rows k' (by omega)
    have HOC := Lib.hid (show ∀ x, x ∈ o → x < 256 from HO.out.lt)
    obtain ⟨R, hR⟩ : ∃ R, R = cutL o s' k' := ⟨_, rfl⟩
    have HRL := Lib.hid (show R.length = k' by rw [hR]; exact cutL_length _ _ _)
    have HRA := Lib.hid (show ∀ j, j < k' → rowAt R j = cutP o s' j s' from fun j hj => by rw [hR]; exact cutL_at hj)
    rw [← hR]
    clear hR
    go_enter Try.func9, Try.ntmps9
    go_wp2_with fail
    obtain ⟨B, hk1, hs⟩ := blocks1 w #[.int .i64 l, .int .i64 ((s':Int)), .int .i64 ((k':Int)), .int .u32 n] 24
    generalize (w.alloc (.cells #[.int .i64 l, .int .i64 ((s':Int)), .int .i64 ((k':Int)), .int .u32 n] 24)) = W at *
    have K1 := Lib.hid hk1
    have HS := Lib.hid hs
    clear hs hk1
    replace HO := Lib.hid (HO.out.go B)
    have hzW := B.size
    refine (HF.out _ HO.out).mono ?_
    rintro e w1 ⟨rfl, hb⟩
    replace K1 := Lib.hid (K1.out.go hb)
    replace HO := Lib.hid (HO.out.go hb)
    replace B := B.trans (hb.mono B.size)
    have hzw1 := B.size
    clear hb
    obtain ⟨p0, p1, p2, p3⟩ := K1.out.four
    have pl := K1.out.lt
    go_wp2_with fail
    clear p0 p1 p2 p3 pl
    obtain ⟨hb2, hk2, hs2⟩ := blocks1 w1 (Array.replicate k' (.slice none 0 0)) 25
    generalize w1.alloc (.cells (Array.replicate k' (.slice none 0 0)) 25) = W2 at *
    obtain ⟨g, hg⟩ : ∃ g : Nat, g = w1.heap.size := ⟨_, rfl⟩
    rw [← hg] at hk2
    simp only [← hg]
    have HM := Lib.hid (OwnM.made hk2 (Nat.le_refl g) (by omega : k' ≤ 1000000000))
    have HGW := Lib.hid (show w.heap.size < g by have := K1.out.lt; omega)
    replace B := B.trans (hb2.mono B.size)
    have HK1 := Lib.hid (K1.out.go hb2)
    have HG := Lib.hid hg
    have HB2 := Lib.hid hb2
    clear hb2 hk2 hs2 hg hmk K1 HS hzW hzw1
    have HOW := Lib.hid HO.out
    clear HO
    go_loopw [8, 20] (fun _ i wr => ∃ q : Nat, q ≤ k' ∧ i = .int .i64 q ∧ Since w1 wr ∧ Below w.heap.size w wr ∧ Blk wr w.heap.size #[.int .i64 l, .int .i64 (s' : Int), .int .i64 (k' : Int), .int .u32 n] 24 ∧ OwnM wr g 25 (whole g k') (fillM R q)) (fun _ i _ => k' - (intOf i).toNat)
    case atStart => exact ⟨0, by omega, rfl, HB2.out, B, HK1.out, by rw [fillM_zero, HRL.out]; exact HM.out⟩
    case round =>
      clear B HM HK1 HB2
      obtain ⟨q, hq, rfl, B2, B, hK, hO⟩ := hrel
      have HO := Lib.hid hO
      have HK := Lib.hid hK
      have HB2 := Lib.hid B2
      clear hO hK B2
      by_cases hlt : q < k'
      · have i0 : (0 : Int) ≤ (q : Int) := Int.natCast_nonneg _
        have i1 : (q : Int) < (k' : Int) := by omega
        have HL := Lib.hid (show q < (fillM R q).length by rw [fillM_length (by rw [HRL.out]; exact hq), HRL.out]; exact hlt)
        have HSR := Lib.hid (fillM_set (R := R) (k := q) (by rw [HRL.out]; exact hlt))
        rw [HRA.out q hlt] at HSR
        have HV0 := Lib.hid (HOW.out.since HB2.out)
        have kk := HK.out.four
        obtain ⟨p0, p1, p2, p3⟩ := kk
        have pl := HK.out.lt
        go_wp2_with fail
        clear p0 p1 p2 p3 pl
        refine (cutsymbol_any l (k' : Int) n s' q _ o _ HQ.out.1 (by have := HQ.out.2; omega) (by rw [← HOL.out]; exact HR.out q i1) HV0.out).mono ?_
        rintro e w3 ⟨gg, rfl, hg, hgs, hb⟩
        replace HO := Lib.hid (HO.out.go hb)
        replace HK := Lib.hid (HK.out.go hb)
        replace HB2 := Lib.hid (HB2.out.go hb)
        replace B := B.trans (hb.mono B.size)
        have hzw3 := B.size
        clear hb
        rw [cutP_length]
        have HV := Lib.hid (hg.bytes (cutP_oct HOC.out s' q) (by rw [cutP_length]; have := HQ.out.1; omega))
        rw [cutP_length] at HV
        clear hg hgs
        obtain ⟨a9, d9, c9, _⟩ := HO.out.cell q HL.out
        have f9 := HO.out.free q
        go_wp2_with fail
        obtain ⟨o1, s1, g1⟩ := HO.out.set q HL.out HV.out
        rw [HSR.out] at o1
        have HO1 := Lib.hid o1
        have HK2 := Lib.hid (HK.out.grown g1 (by have := HGW.out; simp; omega))
        have HB4 := Lib.hid (below_grown B g1 B.size (Nat.le_of_lt HGW.out))
        have HB5 := Lib.hid (show Since w1 _ from below_grown HB2.out g1 (Below.size HB2.out) (by have := HG.out; omega))
        clear o1 s1 g1
        go_roundw
        case rel => exact ⟨q + 1, by omega, by go_num, HB5.out, HB4.out, HK2.out, HO1.out⟩
        case measure => simp [intOf]; omega
      · obtain rfl : q = k' := by omega
        go_wp2_with fail
        go_ret2
        exact ⟨_, rfl, by have := HO.out; rw [show fillM R q = R from by rw [← HRL.out]; exact fillM_all R] at this; exact this.mono (Nat.le_of_lt HGW.out), B⟩
  · have HS0 := Lib.hid (show cutS l s k o = [] by unfold cutS; rw [if_neg hc0])
    rw [HS0.out]
    obtain ⟨ce, hce⟩ : ∃ x, x = cutE l s k o := ⟨_, rfl⟩
    rw [← hce] at HF hc0 ⊢
    have hb : (ce != 0) = true := by rw [bne_iff_ne]; exact hc0
    clear hce HS0
    go_enter Try.func9, Try.ntmps9
    go_wp2_with fail
    obtain ⟨B, hk1, hs⟩ := blocks1 w #[.int .i64 l, .int .i64 (s), .int .i64 (k), .int .u32 n] 24
    generalize (w.alloc (.cells #[.int .i64 l, .int .i64 (s), .int .i64 (k), .int .u32 n] 24)) = W at *
    have K1 := Lib.hid hk1
    have HS := Lib.hid hs
    clear hs hk1
    replace HO := Lib.hid (HO.out.go B)
    have hzW := B.size
    refine (HF.out _ HO.out).mono ?_
    rintro e w1 ⟨rfl, hb⟩
    replace K1 := Lib.hid (K1.out.go hb)
    replace HO := Lib.hid (HO.out.go hb)
    replace B := B.trans (hb.mono B.size)
    have hzw1 := B.size
    clear hb
    obtain ⟨p0, p1, p2, p3⟩ := K1.out.four
    have pl := K1.out.lt
    go_wp2_with fail
    go_ret2
    exact ⟨_, rfl, OwnM.nil _ _ _, B⟩

end Go.Proofs.Ytfefkchjhooloaa

/-
  Symbols joined, in the program (package glue): fit, lay.
-/
set_option maxRecDepth 100000
namespace Go.Proofs.Ytfefkchjhooloaa
open Go.RowKit

/-- Bytes laid over others, from a place on, as far as there is room. -/
def layB (cur : List Nat) (off : Nat) (r : List Nat) : List Nat := cur.take off ++ r.take (cur.length - off) ++ cur.drop (off + min r.length (cur.length - off))
theorem lay_fit {l off : Nat} {A r : List Nat} (hA : A.length = off) (h : off ≤ l) : layB (fitR l A) off r = fitR l (A ++ r) := by
  have e1 : fitR l A = A ++ zeros (l - off) := by unfold fitR; rw [List.take_of_length_le (by omega), hA]
  have e2 : (A ++ zeros (l - off)).length = l := by simp [zeros]; omega
  unfold layB
  rw [e1, e2, List.take_left' hA, List.drop_append, List.drop_of_length_le (by omega), List.nil_append]
  unfold fitR
  rw [List.take_append, List.take_of_length_le (by omega : A.length ≤ l), hA, List.length_append]
  have e3 : (zeros (l - off)).drop (off + min r.length (l - off) - off) = zeros (l - (A.length + r.length)) := by
    unfold zeros
    rw [List.drop_replicate]
    congr 1
    omega
  rw [hA, e3, hA]

/-- 'o[off:]', of a whole block. -/
theorem slice_own {g l off : Nat} (h : off < l ∨ (off = 0 ∧ l = 0)) (w : World) : (Instr.sliceAt 25 (whole g l) (some (.int .i64 (off : Int))) none none).run Try.prog w = .ok (.slice (some ⟨g, off, none⟩) (l - off) (l - off)) w := by
  have h0 : (0 : Int) ≤ (off : Int) := Int.natCast_nonneg _
  rcases h with h | ⟨h, h'⟩
  · have h1 : (off : Int) ≤ (l : Int) := by omega
    have h2 : ¬ l = off := by omega
    go_simp
  · subst h; subst h'
    go_simp
/-- 'copy(o[off:], r)'. -/
theorem copy_at {w : World} {gb off : Nat} {v : Value} {cur r : List Nat} (hO : Own w gb cur) (hoff : off ≤ cur.length) (hB : Bytes w v r) :
    ∃ W, (∀ ty, (Builtin.copy_ #[25, 25] ty #[.slice (some ⟨gb, off, none⟩) (cur.length - off) (cur.length - off), v]).run Try.prog w = .ok (goInt ((min r.length (cur.length - off) : Nat) : Int)) W) ∧ Own W gb (layB cur off r) ∧ w.grownBy W (some gb) := by
  obtain ⟨a, c, rfl, h1, h2, h3, h4⟩ := hB
  have hO' : w.heap[gb]? = some (.cells (cur.map U8).toArray 5 (0, 0)) := hO
  have hgr : ∀ cs : Array Value, w.grownBy (w.setRow gb cs) (some gb) := fun cs => ⟨rfl, rfl, rfl, by simp, fun k _ hne => setRow_other w gb k _ (by intro e; rw [e] at hne; exact hne rfl)⟩
  cases a with
  | none =>
    have hr : r = [] := by
      refine Decidable.byContradiction fun hne => ?_
      obtain ⟨b, off, e, _⟩ := h4 hne
      cases e
    subst hr
    refine ⟨w, fun ty => ?_, ?_, grown_refl _ _⟩
    · simp [Builtin.copy_, run_underlying Try.underlying25, Builtin.lenOf, Builtin.firstCells, sizeOf, typeInfo, storeCells]
      obtain ⟨i, hi⟩ : ∃ i, Try.prog.info? 5 = some i := by
        cases h : Try.prog.info? 5 with
        | none => have := infoU8; rw [h] at this; cases this
        | some i => exact ⟨i, rfl⟩
      rw [hi]
      simp
    · have : layB cur off [] = cur := by unfold layB; simp
      rw [this]; exact hO
  | some ad =>
    have hwr : wr (cur.map U8) off ((r.take (cur.length - off)).map U8) = (layB cur off r).map U8 := by
      unfold wr layB
      simp [Nat.min_comm]
    refine ⟨w.setRow gb ((layB cur off r).map U8).toArray, fun ty => ?_, ?_, hgr _⟩
    · have h := run_copy_rowN (P := Try.prog) w 25 25 ty 5 gb off (cur.length - off) (cur.length - off) ad r.length c (cur.map U8).toArray 5 ((r.take (cur.length - off)).map U8) 1 (min r.length (cur.length - off)) Try.underlying25 infoU8 hO' rfl (by simp [Nat.min_comm]) (fun j u hj => ?_) (by simp; omega) (fun u hu => by
        obtain ⟨x, _, rfl⟩ := List.mem_map.1 hu
        rfl)
      · rw [h]
        simp only at hwr ⊢
        rw [hwr]
      · rw [List.getElem?_map, List.getElem?_take] at hj
        split at hj
        · rename_i hjm
          cases hx : r[j]? with
          | none => rw [hx] at hj; cases hj
          | some x =>
            rw [hx] at hj
            simp only [Option.map_some, Option.some.injEq] at hj
            subst hj
            have hjl := (List.getElem?_eq_some_iff.1 hx).1
            obtain ⟨b, off', e, _, hc⟩ := h4 (by intro e; rw [e] at hjl; simp at hjl)
            simp only [Option.some.injEq] at e
            subst e
            rw [row_add, hc j hjl, nth_eq r j hjl]
            have := (List.getElem?_eq_some_iff.1 hx).2
            rw [this]
        · cases hj
    · show (w.setRow gb _).heap[gb]? = _
      exact setRow_heap w gb _ _ _ _ hO'

/-- What lay leaves. -/
def LayV (w : World) (g : Nat) (L : List Nat) (m : Nat) (e : Ending) (w' : World) : Prop := e = .returned (.int .i64 (m : Int)) ∧ Own w' g L ∧ w.grownBy w' (some g)
set_option maxHeartbeats 1000000 in
theorem lay_any (l k n : Int) (s i g : Nat) (v : Value) (cur x : List Nat) (w : World) (hs : s ≤ 65535) (hi : i ≤ 65535) (his : i * s < cur.length ∨ (i * s = 0 ∧ cur.length = 0)) (hg : Own w g cur) (hx : Bytes w v x) :
    Calls Try.prog 33 #[.agg #[.int .i64 l, .int .i64 (s : Int), .int .i64 k, .int .u32 n], whole g cur.length, .int .i64 (i : Int), v] w (LayV w g (layB cur (i * s) x) (min x.length (cur.length - i * s))) := by
  obtain ⟨X, hX⟩ : ∃ X, X = i * s := ⟨_, rfl⟩
  have hm : IntKind.i64.wrap ((i : Int) * (s : Int)) = (X : Int) := by
    have e : (i : Int) * (s : Int) = (X : Int) := by rw [hX]; simp
    have : X ≤ 65535 * 65535 := by rw [hX]; exact Nat.mul_le_mul hi hs
    rw [e, IntKind.wrap_i64]; omega
  rw [← hX] at his ⊢
  clear hX
  obtain ⟨W1, hW1⟩ : ∃ W1, W1 = w.alloc (.cells #[.int .i64 l, .int .i64 (s : Int), .int .i64 k, .int .u32 n] 24) := ⟨_, rfl⟩
  have hb1 : Below w.heap.size w W1 := by rw [hW1]; exact (Below.refl _ _).alloc (Nat.le_refl _) _
  obtain ⟨W2, hcp, hO2, hgr⟩ := copy_at (off := X) (hg.go hb1) (by omega) (hx.go hb1)
  have HO2 := Lib.hid hO2
  have HG2 := Lib.hid (grown_trans (grown_of_below hb1 (some g)) hgr)
  have hsl := slice_own (g := g) his
  obtain ⟨a, c, rfl, _⟩ := hx
  obtain ⟨M, hM⟩ : ∃ M, M = min x.length (cur.length - X) := ⟨_, rfl⟩
  rw [← hM] at hcp ⊢
  rw [hW1] at hcp
  clear hW1 hb1 hgr hO2 hM his hg
  go_enter Try.func33, Try.ntmps33
  go_wp2_with fail
  go_ret
  exact ⟨rfl, HO2.out, HG2.out⟩

end Go.Proofs.Ytfefkchjhooloaa
