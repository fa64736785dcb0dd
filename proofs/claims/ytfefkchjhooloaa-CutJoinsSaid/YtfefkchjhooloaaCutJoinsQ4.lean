/- Texts of one seat, laid together: CopyFit, CutA, La, LaB, LaC, RowMath, RefGridC, LaL, RefGridD, GridE, CutB, BlkFour. -/
import Derived.Test.YtfefkchjhooloaaCutJoinsQ3
import Derived.Test.YtfefkchjhooloaaCutJoinsQ1
import Derived.Test.YtfefkchjhooloaaCutJoinsQ2
import Derived.Laws.BytesArg
import Derived.Lib.SliceRun
import Derived.Deep.QuietTactic
import Derived.BigQuiet
import Derived.Shelf.Spec.SlicesInsert
import Derived.Laws.CopyOwn

/-
  Bytes copied into a slice that was made: cut, or with noughts behind.
-/
set_option maxRecDepth 100000
namespace Go.Proofs.Ytfefkchjhooloaa
open Go.RowKit

/-- The first m bytes, with noughts behind. -/
def fitR (m : Nat) (r : List Nat) : List Nat := r.take m ++ zeros (m - r.length)
theorem wr_fit (m : Nat) (r : List Nat) : wr ((zeros m).map U8) 0 ((r.take m).map U8) = (fitR m r).map U8 := by
  have h : m - min m r.length = m - r.length := by omega
  unfold wr fitR zeros
  simp [h]

theorem infoU8 : (Try.prog.info? 5).map (·.size) = some 1 := by kernel_rfl

/-- 'copy(v, row)', into a new slice of noughts. -/
theorem copy_fit {w : World} {gb m : Nat} {v : Value} {r : List Nat} (hO : Own w gb (zeros m)) (hB : Bytes w v r) :
    ∃ W, (∀ ty, (Builtin.copy_ #[25, 25] ty #[.slice (some ⟨gb, 0, none⟩) m m, v]).run Try.prog w = .ok (goInt ((min r.length m : Nat) : Int)) W) ∧ Own W gb (fitR m r) ∧ w.grownBy W (some gb) := by
  obtain ⟨a, c, rfl, h1, h2, h3, h4⟩ := hB
  have hO' : w.heap[gb]? = some (.cells ((zeros m).map U8).toArray 5 (0, 0)) := hO
  have hgr : ∀ cs : Array Value, w.grownBy (w.setRow gb cs) (some gb) := fun cs => ⟨rfl, rfl, rfl, by simp, fun k _ hne => setRow_other w gb k _ (by intro e; rw [e] at hne; exact hne rfl)⟩
  cases a with
  | none =>
    have hr : r = [] := by
      refine Decidable.byContradiction fun hne => ?_
      obtain ⟨b, off, e, _⟩ := h4 hne
      cases e
    subst hr
    refine ⟨w, fun ty => ?_, ?_, grown_refl _ _⟩
    · simp [Builtin.copy_, run_underlying Try.underlying25, Builtin.lenOf, Builtin.firstCells, sizeOf, typeInfo, storeCells]
      obtain ⟨i, hi⟩ : ∃ i, Try.prog.info? 5 = some i := by
        cases h : Try.prog.info? 5 with
        | none => have := infoU8; rw [h] at this; cases this
        | some i => exact ⟨i, rfl⟩
      rw [hi]
      simp
    · have : fitR m [] = zeros m := by simp [fitR]
      rw [this]; exact hO
  | some ad =>
    refine ⟨w.setRow gb ((fitR m r).map U8).toArray, fun ty => ?_, ?_, hgr _⟩
    · have h := run_copy_rowN (P := Try.prog) w 25 25 ty 5 gb 0 m m ad r.length c ((zeros m).map U8).toArray 5 ((r.take m).map U8) 1 (min r.length m) Try.underlying25 infoU8 hO' rfl (by simp [Nat.min_comm]) (fun j u hj => ?_) (by simp [zeros]; omega) (fun u hu => by
        obtain ⟨x, _, rfl⟩ := List.mem_map.1 hu
        rfl)
      · rw [h]
        have e := wr_fit m r
        simp only at e ⊢
        rw [e]
      · rw [List.getElem?_map, List.getElem?_take] at hj
        split at hj
        · rename_i hjm
          cases hx : r[j]? with
          | none => rw [hx] at hj; cases hj
          | some x =>
            rw [hx] at hj
            simp only [Option.map_some, Option.some.injEq] at hj
            subst hj
            have hjl := (List.getElem?_eq_some_iff.1 hx).1
            obtain ⟨b, off, e, _, hc⟩ := h4 (by intro e; rw [e] at hjl; simp at hjl)
            simp only [Option.some.injEq] at e
            subst e
            rw [row_add, hc j hjl, nth_eq r j hjl]
            have := (List.getElem?_eq_some_iff.1 hx).2
            rw [this]
        · cases hj
    · show (w.setRow gb _).heap[gb]? = _
      exact setRow_heap w gb _ _ _ _ hO'

end Go.Proofs.Ytfefkchjhooloaa

/-
  Symbols of an object in the program (package cut): fit, symbol, Symbol, Spread.
-/
set_option maxRecDepth 100000
namespace Go.Proofs.Ytfefkchjhooloaa
open Go.RowKit

/-- 'o[i:]', of bytes. -/
theorem slice_rest {w : World} {a : Option Addr} {n c i : Nat} {l : List Nat} (h : Bytes w (.slice a n c) l) (hi : i ≤ l.length) :
    ∃ b m d, (∀ w' : World, (Instr.sliceAt 25 (.slice a n c) (some (.int .i64 (i : Int))) none none).run Try.prog w' = .ok (.slice b m d) w') ∧ Bytes w (.slice b m d) (l.drop i) := by
  have h' := h
  obtain ⟨a', c', e, h1, h2, h3, h4⟩ := h'
  simp only [Value.slice.injEq] at e
  obtain ⟨rfl, rfl, rfl⟩ := e
  have i1 : (i : Int) ≤ (l.length : Int) := by omega
  have i0 : (0 : Int) ≤ (i : Int) := Int.natCast_nonneg _
  have i2 : (l.length : Int) ≤ (c : Int) := by omega
  have i3 : (i : Int) ≤ (c : Int) := by omega
  cases a with
  | none =>
    have hl : l = [] := by
      refine Decidable.byContradiction fun hne => ?_
      obtain ⟨b, off, e, _⟩ := h4 hne
      cases e
    subst hl
    obtain rfl : i = 0 := by simpa using hi
    refine ⟨none, 0, c, fun w' => ?_, ?_⟩
    · go_simp
    · simpa using h
  | some p =>
    by_cases hl : l = []
    · subst hl
      obtain rfl : i = 0 := by simpa using hi
      refine ⟨?b, 0, c, fun w' => ?_, ?_⟩
      case b => exact if c = 0 then some p else some p
      · go_simp
      · simpa using h
    · obtain ⟨b, off, e, hlt, hc⟩ := h4 hl
      obtain rfl : p = ⟨b, off, none⟩ := by simpa using e
      by_cases hci : c = i
      · subst hci
        have hd : l.drop c = [] := List.drop_eq_nil_of_le h1
        have hz : l.length - c = 0 := by omega
        rw [hd]
        refine ⟨some ⟨b, off, none⟩, 0, 0, fun w' => ?_, ⟨_, 0, rfl, Nat.le_refl _, by omega, by simp, fun e => absurd rfl e⟩⟩
        go_simp
      · refine ⟨some ⟨b, off + i, none⟩, l.length - i, c - i, fun w' => ?_, ?_⟩
        · go_simp
        · exact h.drop hi _ (fun _ => rfl) _ _ rfl (by omega) (by omega)

set_option maxHeartbeats 1000000 in
theorem cutfit_any (l s k n : Int) (v : Value) (o : List Nat) (w : World) (hl0 : -9223372036854775808 ≤ l) (hl : l ≤ 9223372036854775807) (hs2 : s ≤ 9223372036854775807) (ho : Bytes w v o) :
    Calls Try.prog 26 #[.agg #[.int .i64 l, .int .i64 s, .int .i64 k, .int .u32 n], v] w fun e w' => e = .returned (.int .i64 (cutE l s k o)) ∧ Below w.heap.size w w' := by
  have HC := Lib.hid (fun w => check_any l s k n w hl0 hl hs2)
  have HO := Lib.hid ho
  obtain ⟨a, c, rfl, _⟩ := ho
  obtain ⟨h1, h2, h3⟩ := @cut_of l s k o
  obtain ⟨ce, hce⟩ : ∃ x, x = checkE l s k := ⟨_, rfl⟩
  rw [← hce] at h1 h2 h3 HC
  clear hce
  by_cases hc0 : ce = 0
  · subst hc0
    by_cases hol : (o.length : Int) = l
    · have HE := Lib.hid (h3 rfl hol).1
      have hb : ((o.length : Int) != l) = false := by rw [hol]; simp
      clear h1 h2 h3 hol
      rw [HE.out]
      go_enter Try.func26, Try.ntmps26
      go_wp2_with fail
      obtain ⟨B, hk1, hs⟩ := blocks1 w #[.int .i64 l, .int .i64 s, .int .i64 k, .int .u32 n] 24
      generalize (w.alloc (.cells #[.int .i64 l, .int .i64 s, .int .i64 k, .int .u32 n] 24)) = W at *
      have K1 := Lib.hid hk1
      have HS := Lib.hid hs
      clear hs hk1
      replace HO := Lib.hid (HO.out.go B)
      have hzW := B.size
      refine (HC.out _).mono ?_
      rintro e w1 ⟨rfl, hb⟩
      replace K1 := Lib.hid (K1.out.go hb)
      replace B := B.trans (hb.mono B.size)
      have hzw1 := B.size
      clear hb
      obtain ⟨p0, p1, p2, p3⟩ := K1.out.four
      have pl := K1.out.lt
      go_wp2_with fail
      go_ret
      exact ⟨rfl, B⟩
    · have HE := Lib.hid (h2 rfl hol).1
      have hb : ((o.length : Int) != l) = true := by rw [bne_iff_ne]; exact hol
      clear h1 h2 h3 hol
      rw [HE.out]
      go_enter Try.func26, Try.ntmps26
      go_wp2_with fail
      obtain ⟨B, hk1, hs⟩ := blocks1 w #[.int .i64 l, .int .i64 s, .int .i64 k, .int .u32 n] 24
      generalize (w.alloc (.cells #[.int .i64 l, .int .i64 s, .int .i64 k, .int .u32 n] 24)) = W at *
      have K1 := Lib.hid hk1
      have HS := Lib.hid hs
      clear hs hk1
      replace HO := Lib.hid (HO.out.go B)
      have hzW := B.size
      refine (HC.out _).mono ?_
      rintro e w1 ⟨rfl, hb⟩
      replace K1 := Lib.hid (K1.out.go hb)
      replace B := B.trans (hb.mono B.size)
      have hzw1 := B.size
      clear hb
      obtain ⟨p0, p1, p2, p3⟩ := K1.out.four
      have pl := K1.out.lt
      go_wp2_with fail
      go_ret
      exact ⟨rfl, B⟩
  · have HE := Lib.hid (h1 hc0).1
    have hb : (ce != 0) = true := by rw [bne_iff_ne]; exact hc0
    clear h1 h2 h3 hc0
    rw [HE.out]
    go_enter Try.func26, Try.ntmps26
    go_wp2_with fail
    obtain ⟨B, hk1, hs⟩ := blocks1 w #[.int .i64 l, .int .i64 s, .int .i64 k, .int .u32 n] 24
    generalize (w.alloc (.cells #[.int .i64 l, .int .i64 s, .int .i64 k, .int .u32 n] 24)) = W at *
    have K1 := Lib.hid hk1
    have HS := Lib.hid hs
    clear hs hk1
    replace HO := Lib.hid (HO.out.go B)
    have hzW := B.size
    refine (HC.out _).mono ?_
    rintro e w1 ⟨rfl, hb⟩
    replace K1 := Lib.hid (K1.out.go hb)
    replace B := B.trans (hb.mono B.size)
    have hzw1 := B.size
    clear hb
    go_wp2_with fail
    go_ret
    exact ⟨rfl, B⟩

theorem cutP_fit (o : List Nat) (s i : Nat) : fitR s (o.drop (i * s)) = cutP o s i s := by
  apply List.ext_getElem?
  intro j
  unfold fitR cutP zeros
  by_cases hj : j < s
  · rw [List.getElem?_map, List.getElem?_range hj, Option.map_some]
    by_cases h2 : j < (o.drop (i * s)).length
    · have h3 : i * s + j < o.length := by simp at h2; omega
      rw [List.getElem?_append_left (by rw [List.length_take]; omega), List.getElem?_take, if_pos hj, List.getElem?_drop, List.getElem?_eq_getElem h3, nth_eq o _ h3]
    · have h3 : o.length ≤ i * s + j := by simp at h2; omega
      have h4 : nth o (i * s + j) = 0 := by unfold nth; rw [List.getD_eq_getElem?_getD, List.getElem?_eq_none h3]; rfl
      rw [h4, List.getElem?_append_right (by rw [List.length_take]; omega), List.getElem?_replicate, if_pos]
      rw [List.length_take]; omega
  · rw [List.getElem?_eq_none (by simp; omega), List.getElem?_eq_none (by simp; omega)]

/-- A symbol that a call made. -/
def SymV (w : World) (l : List Nat) (e : Ending) (w' : World) : Prop := ∃ g, e = .returned (whole g l.length) ∧ Own w' g l ∧ w.heap.size ≤ g ∧ Below w.heap.size w w'
set_option maxHeartbeats 1000000 in
theorem cutsymbol_any (l k n : Int) (s i : Nat) (v : Value) (o : List Nat) (w : World) (hs : s ≤ 65535) (hi : i ≤ 65535) (his : i * s ≤ o.length) (ho : Bytes w v o) :
    Calls Try.prog 27 #[.agg #[.int .i64 l, .int .i64 (s : Int), .int .i64 k, .int .u32 n], v, .int .i64 (i : Int)] w (SymV w (cutP o s i s)) := by
  have HO := Lib.hid ho
  obtain ⟨a, c, rfl, _⟩ := ho
  have hmb := make_bytes s (by omega)
  obtain ⟨X, hX⟩ : ∃ X, X = i * s := ⟨_, rfl⟩
  have hm : IntKind.i64.wrap ((i : Int) * (s : Int)) = (X : Int) := by
    have e : (i : Int) * (s : Int) = (X : Int) := by rw [hX]; simp
    have : X ≤ 65535 * 65535 := by rw [hX]; exact Nat.mul_le_mul hi hs
    rw [e, IntKind.wrap_i64]; omega
  have HF := Lib.hid (show fitR s (o.drop X) = cutP o s i s by rw [hX]; exact cutP_fit o s i)
  rw [← hX] at his
  have HL := Lib.hid his
  clear hX his
  obtain ⟨b, m, d, hsl, hbr⟩ := slice_rest HO.out HL.out
  obtain ⟨W1, hW1⟩ : ∃ W1, W1 = w.alloc (.cells #[.int .i64 l, .int .i64 (s : Int), .int .i64 k, .int .u32 n] 24) := ⟨_, rfl⟩
  have hz1 : W1.heap.size = w.heap.size + 1 := by rw [hW1]; simp
  have hb1 : Below w.heap.size w W1 := by rw [hW1]; exact (Below.refl _ _).alloc (Nat.le_refl _) _
  obtain ⟨W2, hcp, hO2, hgr⟩ := copy_fit (m := s) (Own.new W1 (zeros s)) ((hbr.go hb1).go ((Below.refl W1.heap.size W1).alloc (Nat.le_refl _) (bytesObj (zeros s))))
  have hB2 : Below w.heap.size w W2 := hb1.trans ((below_grown ((Below.refl W1.heap.size W1).alloc (Nat.le_refl _) (bytesObj (zeros s))) hgr (by simp) (Nat.le_refl _)).mono (by omega))
  rw [hz1] at hcp hO2
  rw [hW1] at hcp
  rw [HF.out] at hO2
  have HO2 := Lib.hid hO2
  have HB2 := Lib.hid hB2
  obtain ⟨q, hq⟩ : ∃ q : Int, q = ((min (o.drop X).length s : Nat) : Int) := ⟨_, rfl⟩
  rw [← hq] at hcp
  have hcp2 : ∀ ty, (Builtin.copy_ #[25, 25] ty #[whole (w.heap.size + 1) s, .slice b m d]).run Try.prog ((w.alloc (.cells #[.int .i64 l, .int .i64 (s : Int), .int .i64 k, .int .u32 n] 24)).alloc (bytesObj (List.replicate s 0))) = .ok (goInt q) W2 := hcp
  clear hW1 hz1 hb1 hgr hO2 hB2 hbr hq hcp
  go_enter Try.func27, Try.ntmps27
  go_wp2_with fail
  go_ret
  exact ⟨w.heap.size + 1, by rw [cutP_length]; rfl, HO2.out, by omega, HB2.out⟩

theorem cut_fits {l s k : Int} {o : List Nat} (h : cutE l s k o = 0) : checkE l s k = 0 ∧ (o.length : Int) = l := by
  obtain ⟨h1, h2, h3⟩ := @cut_of l s k o
  by_cases hc : checkE l s k = 0
  · by_cases ho : (o.length : Int) = l
    · exact ⟨hc, ho⟩
    · rw [(h2 hc ho).1] at h; cases h
  · rw [(h1 hc).1] at h; exact absurd h hc
theorem cut_room {l s k : Int} (h : checkE l s k = 0) {i : Nat} (hi : (i : Int) < k) : i * s.toNat ≤ l.toNat := by
  obtain ⟨h1, h2, h3, h4, h5, h6⟩ := check_ok h
  have e : k.toNat = needsN l.toNat s.toNat := by omega
  have hn : needsN l.toNat s.toNat ≤ 4096 := by omega
  have hs : 1 ≤ s.toNat := by omega
  have hf : ¬ 4096 < needT l.toNat s.toNat := by rw [needT_many hs]; omega
  rw [← needT_few hs hf] at e
  unfold needT at e
  split at e
  · have : i = 0 := by omega
    subst this; simp
  · have h8 : i ≤ (l.toNat - 1) / s.toNat := by omega
    have := Nat.mul_le_of_le_div _ _ _ h8
    omega
theorem cutP_oct {o : List Nat} (h : ∀ x, x ∈ o → x < 256) (s i : Nat) : ∀ x, x ∈ cutP o s i s → x < 256 := cutP_lt h s i s

end Go.Proofs.Ytfefkchjhooloaa

/-
  Linear algebra over bytes (layers 7 to 9), first part: the field as a type, sums, vectors, spans, where they lead, ranks. No program in this text.
-/
set_option maxRecDepth 100000
namespace Go.Proofs.Ytfefkchjhooloaa
namespace La

/-- A byte, as an element of the field. -/
structure B where
  val : Nat
  lt : val < 256

theorem B.ext {a b : B} (h : a.val = b.val) : a = b := by
  cases a; cases b; cases h; rfl

instance : OfNat B 0 := ⟨⟨0, by decide⟩⟩
instance : OfNat B 1 := ⟨⟨1, by decide⟩⟩
instance : Add B := ⟨fun a b => ⟨a.val ^^^ b.val, Gf.xor_lt a.lt b.lt⟩⟩
instance : Mul B := ⟨fun a b => ⟨Gf.mul a.val b.val, Gf.mul_lt a.lt b.val⟩⟩
instance : DecidableEq B := fun a b => if h : a.val = b.val then isTrue (B.ext h) else isFalse (fun e => h (by rw [e]))

theorem badd_comm (a b : B) : a + b = b + a := B.ext (Nat.xor_comm _ _)
theorem badd_assoc (a b c : B) : a + b + c = a + (b + c) := B.ext (Nat.xor_assoc _ _ _)
theorem bmul_comm (a b : B) : a * b = b * a := B.ext (Gf.mul_comm a.lt b.lt)
theorem bmul_assoc (a b c : B) : a * b * c = a * (b * c) := B.ext (Gf.mul_assoc a.lt b.lt c.val)
instance : Std.Associative (α := B) (· + ·) := ⟨badd_assoc⟩
instance : Std.Commutative (α := B) (· + ·) := ⟨badd_comm⟩
instance : Std.Associative (α := B) (· * ·) := ⟨bmul_assoc⟩
instance : Std.Commutative (α := B) (· * ·) := ⟨bmul_comm⟩

/-! ### Sums -/

/-! ### Vectors -/

abbrev Vc := Nat → B

def v0 : Vc := fun _ => 0
def vs (c : B) (x : Vc) : Vc := fun i => c * x i

/-! ### Where vectors lead -/

def Lead (v : Vc) (i : Nat) : Prop := v i ≠ 0 ∧ ∀ j, j < i → v j = 0

/-! ### Ranks -/

/-! ### Reduced rows: there is one list of them alone -/

/-- Rows by rising places; each leads with a 1, where all others have a 0. -/
structure Red (E : List Vc) : Prop where
  rise : E.Pairwise fun x y => ∀ i j, Lead x i → Lead y j → i < j
  one : ∀ e ∈ E, ∃ i, Lead e i ∧ e i = 1
  clear : E.Pairwise fun x y => ∀ i, (Lead x i → y i = 0) ∧ (Lead y i → x i = 0)

end La
end Go.Proofs.Ytfefkchjhooloaa

/-
  Linear algebra over bytes, second part: combinations by their coefficients, matrices turned and multiplied, inverses. No program in this text.
-/
set_option maxRecDepth 100000
namespace Go.Proofs.Ytfefkchjhooloaa
namespace La

/-- The first m rows of a matrix. -/
def rows (A : Nat → Vc) (m : Nat) : List Vc := (List.range m).map A

/-! ### Turned -/

/-! ### Products -/

end La
end Go.Proofs.Ytfefkchjhooloaa

/-
  Linear algebra over bytes, third part: determinants by the first row (two is 0 here: no signs), and that one isn't 0 just where the rank is full. No program in this text.
-/
set_option maxRecDepth 100000
namespace Go.Proofs.Ytfefkchjhooloaa
namespace La

/-- The sum over all ways to take one of a list: of it, and of what is left. -/
def P (f : Nat → List Nat → B) : List Nat → B
  | [] => 0
  | x :: xs => f x xs + P (fun y ys => f y (x :: ys)) xs

end La
end Go.Proofs.Ytfefkchjhooloaa

/-
  Rows cleared by others (layers 7 and 8), in plain lists: what the document's answers reckon. No program in this text.
-/
set_option maxRecDepth 100000
namespace Go.Proofs.Ytfefkchjhooloaa
namespace Ro

def less (x : Rw) (c : Nat) (r : Rw) : Rw := (lessV c x.1 x.2 r.1 r.2, lessD c x.1 x.2 r.1 r.2)
def norm (x : Rw) : Rw := (Gf.scale (normC x.1) x.1, Gf.scale (normC x.1) x.2)
/-- What is left, row by row. -/
def step (x r : Rw) : Rw := less x (nth x.1 (lead r.1)) r
def rest (L : List Rw) (x : Rw) : Rw := L.foldl step x
/-- How many rows lead ahead of it. -/
def ahead (L : List Rw) (x : Rw) : Nat := (L.takeWhile fun r => decide (lead r.1 < lead x.1)).length
def put (L : List Rw) (y : Rw) : List Rw := L.take (ahead L y) ++ y :: L.drop (ahead L y)
def insert (L : List Rw) (x : Rw) : List Rw := if lead (norm (rest L x)).1 < (norm (rest L x)).1.length then put L (norm (rest L x)) else L
/-- All inserted, one by one. -/
def all (L : List Rw) : List Rw := L.foldl insert []

end Ro
end Go.Proofs.Ytfefkchjhooloaa

/-
  The document's answer for grids (wellspringref07), in the program: 'Rank', 'Turned', 'Mul', 'Of', 'Same'.
-/
set_option maxRecDepth 100000
namespace Go.Proofs.Ytfefkchjhooloaa
open Go.RowKit

namespace Ro
/-- Rows without data. -/
def bare (ll : List (List Nat)) : List Rw := ll.map fun l => (l, [])
end Ro

end Go.Proofs.Ytfefkchjhooloaa

/-
  Rows of bytes as vectors: what the document's answers of layers 7 and 8 reckon, said of spans, ranks and determinants. No program in this text.
-/
set_option maxRecDepth 100000
namespace Go.Proofs.Ytfefkchjhooloaa
open La

/-- A byte, as an element of the field. -/
def bt (n : Nat) : B := ⟨n % 256, Nat.mod_lt _ (by decide)⟩
/-- Bytes, as a vector. -/
def fv (l : List Nat) : Vc := fun i => bt (nth l i)

/-! ### Rows: vector and data, one behind the other -/

/-- The vector alone. -/
def f1 (x : Rw) : Vc := fv x.1

end Go.Proofs.Ytfefkchjhooloaa

/-
  The document's answer for grids (wellspringref07), in the program: 'Of', 'Same', 'Turned'.
-/
set_option maxRecDepth 100000
namespace Go.Proofs.Ytfefkchjhooloaa
open Go.RowKit

/-- A row of whatever slice of slices, at a world behind; its address. -/
theorem IsRows.row {w w' : World} {a : Option Addr} {n c : Nat} {ll : List (List Nat)} (h : IsRows w (.slice a n c) ll) (hb : Below w.heap.size w w') (k : Nat) (hk : k < ll.length) : ∃ b off u, a = some ⟨b, off, none⟩ ∧ w'.cell? ⟨b, off + k, none⟩ = some u ∧ Bytes w' u (rowAt ll k) := by
  have h0 := h
  obtain ⟨a', cap, e, _, _, h4⟩ := h
  simp only [Value.slice.injEq] at e
  obtain ⟨rfl, rfl, rfl⟩ := e
  obtain ⟨b, off, rfl, _, _⟩ := h4 (by intro e; rw [e] at hk; simp at hk)
  obtain ⟨u, hu, hB⟩ := h0.at hb k hk
  exact ⟨b, off, u, rfl, hu, hB.go hb⟩
theorem IsRows.shape {w : World} {v : Value} {ll : List (List Nat)} (h : IsRows w v ll) : ∃ a c, v = .slice a ll.length c := by obtain ⟨a, cap, rfl, _⟩ := h; exact ⟨a, cap, rfl⟩
theorem ext_rowAt {A C : List (List Nat)} (hl : A.length = C.length) (h : ∀ j, j < A.length → rowAt A j = rowAt C j) : A = C := by
  apply List.ext_getElem hl
  intro i h1 h2
  have := h i h1
  rwa [rowAt_eq A i h1, rowAt_eq C i h2] at this

set_option maxHeartbeats 1000000 in
theorem refsame7_any (v0 v1 : Value) (A C : List (List Nat)) (w : World) (h0 : IsRows w v0 A) (h1 : IsRows w v1 C) (hlen : A.length ≤ 1000000000) :
    Calls Try.prog 12 #[v0, v1] w fun e w' => e = .returned (.bool (decide (A = C))) ∧ Below w.heap.size w w' := by
  have HA := Lib.hid h0
  have HC := Lib.hid h1
  obtain ⟨a0, c0, rfl⟩ := h0.shape
  obtain ⟨a1, c1, rfl⟩ := h1.shape
  clear h0 h1
  obtain ⟨t, ht⟩ : ∃ t, t = decide (A = C) := ⟨_, rfl⟩
  rw [← ht]
  by_cases hl : A.length = C.length
  · have HT := Lib.hid ht
    have HL := Lib.hid hl
    have hb0 : ((A.length : Int) != (C.length : Int)) = false := by rw [hl]; simp
    clear ht hl
    go_enter Try.func12, Try.ntmps12
    go_wp2_with fail
    go_loopw [5, 13] (fun _ i wr => ∃ n : Nat, n ≤ A.length ∧ i = .int .i64 n ∧ (∀ j, j < n → rowAt A j = rowAt C j) ∧ Below w.heap.size w wr) (fun _ i _ => A.length - (intOf i).toNat)
    case atStart => exact ⟨0, by omega, rfl, fun j hj => by omega, Below.refl _ _⟩
    case round =>
      obtain ⟨n, hn, rfl, hno, B⟩ := hrel
      have HN := Lib.hid hno
      clear hno
      by_cases hlt : n < A.length
      · obtain ⟨b, off, u, rfl, hu, hB⟩ := HA.out.row B n hlt
        obtain ⟨b', off', u', rfl, hu', hB'⟩ := HC.out.row B n (by rw [← HL.out]; exact hlt)
        have HB := Lib.hid hB
        have HB' := Lib.hid hB'
        obtain ⟨ua, uc, rfl, _⟩ := hB
        obtain ⟨ua', uc', rfl, _⟩ := hB'
        have hlt' : n < C.length := by rw [← HL.out]; exact hlt
        have n0 : (0 : Int) ≤ (n : Int) := Int.natCast_nonneg _
        have n1 : (n : Int) < (A.length : Int) := by omega
        have n2 : (n : Int) < (C.length : Int) := by omega
        go_wp2_with fail
        refine wp_region_mono (C := Cb wr) (R := Rb) (H := fun _ => Hb wr) [Ty.val 16 (.slice (some ⟨b, off, none⟩) A.length c0), Ty.val 17 (.int .i64 (n : Int)), Ty.val 18 (.pointer (some ⟨b, off + n, none⟩)), Ty.val 19 (.slice ua (rowAt A n).length uc), Ty.val 20 (.slice (some ⟨b', off', none⟩) C.length c1), Ty.val 21 (.int .i64 (n : Int)), Ty.val 22 (.pointer (some ⟨b', off' + n, none⟩)), Ty.val 23 (.slice ua' (rowAt C n).length uc'), Ty.val 24 (.bool (decide (rowAt A n = rowAt C n))), Ty.val 25 (.bool (!decide (rowAt A n = rowAt C n)))] (by kernel_rfl) (hC_b wr) (hCH_b wr) (drew_b wr) ⟨trivial, trivial, trivial, trivial, trivial, trivial, trivial, trivial, trivial, trivial, trivial⟩ (by kernel_rfl) ?_ ?_
        · refine ⟨?_, ?_, ?_, ?_, ?_, ?_, ?_, ?_, ?_, ?_, trivial⟩
          · intro ac wc hC hsz hfr hd hpr
            have d0 : ac.eval (.tmp 0) = (.slice (some ⟨b, off, none⟩) A.length c0) := hfr 0 rfl
            rw [if_pos (wanted_none rfl)]
            exact ob_copy rfl rfl rfl (Nat.lt_of_lt_of_eq (by decide : 16 < 27) hsz.symm) (Or.inl rfl) (Below.refl _ _) d0
          · intro ac wc hC hsz hfr hd hpr
            have d5 : ac.eval (.tmp 5) = (.int .i64 (n : Int)) := hfr 5 rfl
            rw [if_pos (wanted_none rfl)]
            exact ob_copy rfl rfl rfl (Nat.lt_of_lt_of_eq (by decide : 17 < 27) hsz.symm) (Or.inl rfl) (Below.refl _ _) d5
          · intro ac wc hC hsz hfr hd hpr
            have d16 : ac.eval (.tmp 16) = (.slice (some ⟨b, off, none⟩) A.length c0) := hd 0 rfl
            have d17 : ac.eval (.tmp 17) = (.int .i64 (n : Int)) := hd 1 rfl
            rw [if_pos (wanted_none rfl)]
            exact ob_index _ rfl rfl rfl (Nat.lt_of_lt_of_eq (by decide : 18 < 27) hsz.symm) rfl d16 d17 (by go_simp) (Below.refl _ _) rfl
          · intro ac wc hC hsz hfr hd hpr
            have d18 : ac.eval (.tmp 18) = (.pointer (some ⟨b, off + n, none⟩)) := hd 2 rfl
            rw [if_pos (wanted_none rfl)]
            exact ob_load _ rfl rfl rfl (Nat.lt_of_lt_of_eq (by decide : 19 < 27) hsz.symm) rfl d18 (load_bytes (cell_keep hu hC)) (Below.refl _ _) rfl
          · intro ac wc hC hsz hfr hd hpr
            have d1 : ac.eval (.tmp 1) = (.slice (some ⟨b', off', none⟩) C.length c1) := hfr 1 rfl
            rw [if_pos (wanted_none rfl)]
            exact ob_copy rfl rfl rfl (Nat.lt_of_lt_of_eq (by decide : 20 < 27) hsz.symm) (Or.inl rfl) (Below.refl _ _) d1
          · intro ac wc hC hsz hfr hd hpr
            have d5 : ac.eval (.tmp 5) = (.int .i64 (n : Int)) := hfr 5 rfl
            rw [if_pos (wanted_none rfl)]
            exact ob_copy rfl rfl rfl (Nat.lt_of_lt_of_eq (by decide : 21 < 27) hsz.symm) (Or.inl rfl) (Below.refl _ _) d5
          · intro ac wc hC hsz hfr hd hpr
            have d20 : ac.eval (.tmp 20) = (.slice (some ⟨b', off', none⟩) C.length c1) := hd 4 rfl
            have d21 : ac.eval (.tmp 21) = (.int .i64 (n : Int)) := hd 5 rfl
            rw [if_pos (wanted_none rfl)]
            exact ob_index _ rfl rfl rfl (Nat.lt_of_lt_of_eq (by decide : 22 < 27) hsz.symm) rfl d20 d21 (by go_simp) (Below.refl _ _) rfl
          · intro ac wc hC hsz hfr hd hpr
            have d22 : ac.eval (.tmp 22) = (.pointer (some ⟨b', off' + n, none⟩)) := hd 6 rfl
            rw [if_pos (wanted_none rfl)]
            exact ob_load _ rfl rfl rfl (Nat.lt_of_lt_of_eq (by decide : 23 < 27) hsz.symm) rfl d22 (load_bytes (cell_keep hu' hC)) (Below.refl _ _) rfl
          · intro ac wc hC hsz hfr hd hpr
            have d19 : ac.eval (.tmp 19) = (.slice ua (rowAt A n).length uc) := hd 3 rfl
            have d23 : ac.eval (.tmp 23) = (.slice ua' (rowAt C n).length uc') := hd 7 rfl
            rw [if_pos (wanted_none rfl)]
            refine ob_call rfl rfl rfl (Nat.lt_of_lt_of_eq (by decide : 24 < 27) hsz.symm) rfl (enter_of Try.func13 (by kernel_rfl) rfl) ?_
            show Calls Try.prog 13 #[ac.eval (.tmp 19), ac.eval (.tmp 23)] wc _
            rw [d19, d23]
            exact (same_any _ _ _ _ wc (HB.out.go hC) (HB'.out.go hC)).mono fun _ _ ⟨he, hb⟩ => ⟨_, he, rfl, hb⟩
          · intro ac wc hC hsz hfr hd hpr
            have d24 : ac.eval (.tmp 24) = (.bool (decide (rowAt A n = rowAt C n))) := hd 8 rfl
            rw [if_pos (wanted_none rfl)]
            exact ob_not rfl rfl rfl (Nat.lt_of_lt_of_eq (by decide : 25 < 27) hsz.symm) rfl d24 (Below.refl _ _) rfl
        intro a' w6 hC hdef hsz hfr hd
        have e16 : a'.eval (.tmp 16) = (.slice (some ⟨b, off, none⟩) A.length c0) := hd 0 (by decide)
        have e17 : a'.eval (.tmp 17) = (.int .i64 (n : Int)) := hd 1 (by decide)
        have e18 : a'.eval (.tmp 18) = (.pointer (some ⟨b, off + n, none⟩)) := hd 2 (by decide)
        have e19 : a'.eval (.tmp 19) = (.slice ua (rowAt A n).length uc) := hd 3 (by decide)
        have e20 : a'.eval (.tmp 20) = (.slice (some ⟨b', off', none⟩) C.length c1) := hd 4 (by decide)
        have e21 : a'.eval (.tmp 21) = (.int .i64 (n : Int)) := hd 5 (by decide)
        have e22 : a'.eval (.tmp 22) = (.pointer (some ⟨b', off' + n, none⟩)) := hd 6 (by decide)
        have e23 : a'.eval (.tmp 23) = (.slice ua' (rowAt C n).length uc') := hd 7 (by decide)
        have e24 : a'.eval (.tmp 24) = (.bool (decide (rowAt A n = rowAt C n))) := hd 8 (by decide)
        have e25 : a'.eval (.tmp 25) = (.bool (!decide (rowAt A n = rowAt C n))) := hd 9 (by decide)
        have hact := act_puts hdef hsz hfr
        simp only [dstsOf, List.filterMap, putAll, Act.put, List.setIfInBounds_toArray, List.set_cons_succ, List.set_cons_zero, e16, e17, e18, e19, e20, e21, e22, e23, e24, e25] at hact
        clear hd hfr hsz hdef e16 e17 e18 e19 e20 e21 e22 e23 e24 e25
        subst hact
        replace B := B.trans (hC.mono B.size)
        clear hC
        by_cases hq : rowAt A n = rowAt C n
        · have hd1 := decide_eq_true hq
          have HQ := Lib.hid hq
          rw [hd1]
          clear hq hd1
          go_wp2_with fail
          go_roundw
          case rel => exact ⟨n + 1, by omega, by go_num, fun j hj => by
            by_cases h : j = n
            · rw [h]; exact HQ.out
            · exact HN.out j (by omega), B⟩
          case measure => simp [intOf]; omega
        · have hd1 := decide_eq_false hq
          have HQ := Lib.hid (show t = false by rw [HT.out]; exact decide_eq_false fun e => hq (by rw [e]))
          rw [hd1]
          clear hq hd1
          go_wp2_with fail
          go_ret
          exact ⟨by rw [HQ.out]; rfl, B⟩
      · have HQ := Lib.hid (show t = true by rw [HT.out]; exact decide_eq_true (ext_rowAt HL.out fun j hj => HN.out j (by omega)))
        go_wp2_with fail
        go_ret
        exact ⟨by rw [HQ.out]; rfl, B⟩
  · have HT := Lib.hid (show t = false by rw [ht]; exact decide_eq_false fun e => hl (by rw [e]))
    have hb0 : ((A.length : Int) != (C.length : Int)) = true := by rw [bne_iff_ne]; omega
    clear ht hl
    go_enter Try.func12, Try.ntmps12
    go_wp2_with fail
    go_ret
    exact ⟨by rw [HT.out]; rfl, Below.refl _ _⟩

end Go.Proofs.Ytfefkchjhooloaa

/-
  Slices that are made and filled, place by place: of slices of bytes, and of rows.
-/
set_option maxRecDepth 100000
namespace Go.Proofs.Ytfefkchjhooloaa
open Go.RowKit

theorem infoBytesSl : (Try.prog.info? 25).map (fun i => (i.zero, i.size, i.bytes)) = some (some (.slice none 0 0), 1, 24) := by kernel_rfl

/-- 'make([][]byte, n)'. -/
theorem make_rows (n : Nat) (hn : n ≤ 1000000000) (w : World) :
    (Instr.makeSlice 27 (.int .i64 (n : Int)) (.int .i64 (n : Int))).run Try.prog w = .ok (whole w.heap.size n) (w.alloc (.cells (Array.replicate n (.slice none 0 0)) 25)) := by
  obtain ⟨i0, hi, hz0, hz1, hz2⟩ := info_parts infoBytesSl
  have h := run_make (P := Try.prog) w 27 25 i0 _ Try.underlying27 hi hz0 .i64 .i64 (n : Int) (n : Int) (by omega) (by omega) (by rw [hz2]; omega) (by omega)
  rw [h]
  simp only [Int.toNat_natCast, hz1, Nat.mul_one]
  congr 3
  apply Array.toList_inj.1
  rw [show (Value.slice none 0 0).cells = #[.slice none 0 0] from rfl, toList_madeCells_one, Array.toList_replicate]
theorem noU8_all {l : List Value} (h : ∀ x ∈ l, ∀ k : Nat, x ≠ U8 k) : ∀ (i n : Nat), l.toArray[i]? ≠ some (U8 n) := fun i n e => by
  rw [List.getElem?_toArray] at e
  exact h _ (List.mem_of_getElem? e) n rfl
theorem OwnM.made {w : World} {B g n : Nat} {T : TypeId} (h : Blk w g (Array.replicate n (.slice none 0 0)) T) (hB : B ≤ g) (hn : n ≤ 1000000000) : OwnM w B T (whole g n) (List.replicate n []) := by
  rw [show Array.replicate n (Value.slice none 0 0) = (List.replicate n (Value.slice none 0 0)).toArray by simp] at h
  have hE : EachB w (List.replicate n (.slice none 0 0)) (List.replicate n []) := ⟨by simp, fun i u hu => by
    have hu' := List.mem_of_getElem? hu
    rw [List.mem_replicate] at hu'
    rw [hu'.2]
    have : rowAt (List.replicate n []) i = [] := by
      unfold rowAt
      rw [List.getD_eq_getElem?_getD, List.getElem?_replicate]
      split <;> rfl
    rw [this]; exact Bytes.nil w⟩
  refine ⟨List.replicate n (.slice none 0 0), ⟨⟨by simp, .inr ⟨g, n, _, by simp, hB, h, by simp, by unfold maxLen; omega, by simp, by simp⟩⟩, fun k e => ?_⟩, hE⟩
  simp only [Value.ownBlock, Option.some.injEq] at e
  subst e
  exact Loose.of_blk h (noU8_all fun x hx => (hE.noU8 x hx).1)
theorem OwnM.free {w : World} {B g n c : Nat} {T : TypeId} {L : List (List Nat)} (h : OwnM w B T (.slice (some ⟨g, 0, none⟩) n c) L) (j : Nat) : w.frozen? ⟨g, j, none⟩ = false := by
  obtain ⟨a, c', e⟩ := h.shape
  simp only [Value.slice.injEq] at e
  obtain ⟨_, rfl, _⟩ := e
  obtain ⟨us, ⟨h1, _⟩, _⟩ := h
  exact World.ownsRow.frozenAt h1 j
theorem OwnM.cell {w : World} {B g n c : Nat} {T : TypeId} {L : List (List Nat)} (h : OwnM w B T (.slice (some ⟨g, 0, none⟩) n c) L) (k : Nat) (hk : k < L.length) : ∃ a d, w.cell? ⟨g, k, none⟩ = some (.slice a (rowAt L k).length d) ∧ Bytes w (.slice a (rowAt L k).length d) (rowAt L k) := by
  obtain ⟨u, hu, hb⟩ := h.rows.cell k hk
  rw [Nat.zero_add] at hu
  obtain ⟨a, d, rfl, _⟩ := id hb
  exact ⟨a, d, hu, hb⟩
/-- A slice of bytes stored at a place. -/
theorem OwnM.set {w : World} {B g n cap : Nat} {T : TypeId} {L : List (List Nat)} (h : OwnM w B T (.slice (some ⟨g, 0, none⟩) n cap) L) (k : Nat) (hk : k < L.length) {x : Value} {r : List Nat} (hx : Bytes w x r) :
    OwnM (w.setCell ⟨g, k, none⟩ x) B T (.slice (some ⟨g, 0, none⟩) n cap) (L.set k r) ∧ Soft w (w.setCell ⟨g, k, none⟩ x) ∧ w.grownBy (w.setCell ⟨g, k, none⟩ x) (some g) := by
  obtain ⟨a, c, e⟩ := h.shape
  simp only [Value.slice.injEq] at e
  obtain ⟨_, rfl, _⟩ := e
  obtain ⟨us, h1, h2⟩ := h
  obtain ⟨s1, hg⟩ := World.ownsRow.stored h1.1 k x
  have nx : ∀ m : Nat, x ≠ U8 m := by obtain ⟨a, c, rfl, _⟩ := hx; exact slice_ne _ _ _
  have hk' : k < us.length := by rw [h2.len]; exact hk
  obtain ⟨cur, fr, hcur⟩ : ∃ cur fr, w.heap[g]? = some (.cells cur T fr) := by
    rcases h1.1.2 with ⟨e, _⟩ | ⟨g', cap', cur, e, _, hgg, _⟩
    · cases e
    · simp only [Value.slice.injEq, Option.some.injEq, Addr.mk.injEq] at e
      obtain ⟨⟨rfl, _⟩, _⟩ := e
      exact ⟨cur, (0, 0), hgg⟩
  have hloose := h1.2 g rfl
  have hl2 : Loose (w.setCell ⟨g, k, none⟩ x) g := by
    intro i m
    have e1 : (w.setCell ⟨g, k, none⟩ x).heap[g]? = some (.cells (cur.setIfInBounds k x) T fr) := by
      unfold World.setCell
      simp [Array.getElem?_modify, hcur]
    rw [cell_of_row _ g i _ _ fr e1]
    have e2 := hloose i m
    rw [cell_of_row w g i cur T fr hcur] at e2
    rw [Array.getElem?_setIfInBounds]
    intro e3
    split at e3
    · split at e3
      · exact nx m (Option.some.inj e3)
      · cases e3
    · exact e2 e3
  have hs : Soft w (w.setCell ⟨g, k, none⟩ x) := Soft.of_grown hg fun b e => by
    simp only [Option.some.injEq] at e
    subst e; exact ⟨hloose, hl2⟩
  refine ⟨⟨us.set k x, ⟨?_, fun b e => ?_⟩, ⟨by simp [h2.len], fun i u hu => ?_⟩⟩, hs, hg⟩
  · rw [List.length_set]; exact s1
  · simp only [Value.ownBlock, Option.some.injEq] at e
    subst e; exact hl2
  · rw [List.getElem?_set] at hu
    by_cases hki : k = i
    · subst hki
      rw [if_pos rfl, if_pos hk'] at hu
      simp only [Option.some.injEq] at hu
      subst hu
      rw [show rowAt (L.set k r) k = r from by rw [rowAt_eq _ _ (by simpa using hk)]; simp]
      exact hx.soft hs
    · rw [if_neg hki] at hu
      rw [show rowAt (L.set k r) i = rowAt L i from by unfold rowAt; rw [List.getD_eq_getElem?_getD, List.getElem?_set, if_neg hki, ← List.getD_eq_getElem?_getD]]
      exact (h2.row i u hu).soft hs

/-- Rows filled in, as far as they are. -/
def fillM (R : List (List Nat)) (k : Nat) : List (List Nat) := R.take k ++ List.replicate (R.length - k) []
theorem fillM_length {R : List (List Nat)} {k : Nat} (h : k ≤ R.length) : (fillM R k).length = R.length := by simp [fillM]; omega
theorem fillM_zero (R : List (List Nat)) : fillM R 0 = List.replicate R.length [] := by simp [fillM]
theorem fillM_all (R : List (List Nat)) : fillM R R.length = R := by simp [fillM]
theorem fillM_set {R : List (List Nat)} {k : Nat} (h : k < R.length) : (fillM R k).set k (rowAt R k) = fillM R (k + 1) := by
  unfold fillM
  have e0 : (R.take k).length = k := by rw [List.length_take, Nat.min_eq_left (by omega)]
  rw [List.set_append_right _ _ (by omega), e0, Nat.sub_self, show R.length - k = (R.length - (k + 1)) + 1 by omega, List.replicate_succ, List.set_cons_zero, take_rowAt R k h, List.append_assoc]
  rfl

/-! ### Rows of two slices -/

end Go.Proofs.Ytfefkchjhooloaa

/-
  Symbols of an object in the program (package cut): Cut.
-/
set_option maxRecDepth 100000
namespace Go.Proofs.Ytfefkchjhooloaa
open Go.RowKit

theorem cutL_at {o : List Nat} {s k j : Nat} (hj : j < k) : rowAt (cutL o s k) j = cutP o s j s := by
  rw [rowAt_eq _ _ (by rw [cutL_length]; exact hj)]
  simp [cutL]
/-- No block of the elder world was turned. -/
def Since (a b : World) : Prop := Below a.heap.size a b
theorem Since.go {a b c : World} (h : Since a b) (hb : Below b.heap.size b c) : Since a c := Below.trans h (hb.mono (Below.size h))
theorem Bytes.since {w w' : World} {v : Value} {l : List Nat} (h : Bytes w v l) (hs : Since w w') : Bytes w' v l := h.below (Nat.le_refl _) hs
set_option maxHeartbeats 2000000 in
theorem cutCut_any (l s k n : Int) (v : Value) (o : List Nat) (w : World) (hl0 : -9223372036854775808 ≤ l) (hl : l ≤ 9223372036854775807) (hs2 : s ≤ 9223372036854775807) (ho : Bytes w v o) :
    Calls Try.prog 9 #[.agg #[.int .i64 l, .int .i64 s, .int .i64 k, .int .u32 n], v] w (CutV w (cutS l s k o) (cutE l s k o)) := by
  have HF := Lib.hid (fun w ho => cutfit_any l s k n v o w hl0 hl hs2 ho)
  have HO := Lib.hid ho
  obtain ⟨a, c, rfl, _⟩ := ho
  by_cases hc0 : cutE l s k o = 0
  · have hck := (cut_fits hc0).1
    have hol := (cut_fits hc0).2
    have HE := Lib.hid (show cutE l s k o = 0 from hc0)
    have HS0 := Lib.hid (show cutS l s k o = cutL o s.toNat k.toNat by unfold cutS; rw [if_pos hc0])
    rw [hc0] at HF
    rw [HE.out, HS0.out]
    obtain ⟨q1, q2, q3, q4, q5, -⟩ := check_ok hck
    have HR := Lib.hid (fun (i : Nat) (h : (i : Int) < k) => cut_room hck h)
    obtain ⟨s', hs'⟩ : ∃ s' : Nat, s = s' := ⟨s.toNat, by omega⟩
    obtain ⟨k', hk'⟩ : ∃ k' : Nat, k = k' := ⟨k.toNat, by omega⟩
    rw [hs'] at HF HR q2 q3 ⊢
    rw [hk'] at HF HR q4 q5 ⊢
    have HOL := Lib.hid (show l.toNat = o.length by omega)
    clear hck hol hc0 hs' hk' HS0 HE hs2 s k
    simp only [Int.toNat_natCast] at HR ⊢
    have HQ := Lib.hid (show s' ≤ 65535 ∧ k' ≤ 4096 by omega)
    have hmk := make_rows k' (by omega)
    have HOC := Lib.hid (show ∀ x, x ∈ o → x < 256 from HO.out.lt)
    obtain ⟨R, hR⟩ : ∃ R, R = cutL o s' k' := ⟨_, rfl⟩
    have HRL := Lib.hid (show R.length = k' by rw [hR]; exact cutL_length _ _ _)
    have HRA := Lib.hid (show ∀ j, j < k' → rowAt R j = cutP o s' j s' from fun j hj => by rw [hR]; exact cutL_at hj)
    rw [← hR]
    clear hR
    go_enter Try.func9, Try.ntmps9
    go_wp2_with fail
    obtain ⟨B, hk1, hs⟩ := blocks1 w #[.int .i64 l, .int .i64 ((s':Int)), .int .i64 ((k':Int)), .int .u32 n] 24
    generalize (w.alloc (.cells #[.int .i64 l, .int .i64 ((s':Int)), .int .i64 ((k':Int)), .int .u32 n] 24)) = W at *
    have K1 := Lib.hid hk1
    have HS := Lib.hid hs
    clear hs hk1
    replace HO := Lib.hid (HO.out.go B)
    have hzW := B.size
    refine (HF.out _ HO.out).mono ?_
    rintro e w1 ⟨rfl, hb⟩
    replace K1 := Lib.hid (K1.out.go hb)
    replace HO := Lib.hid (HO.out.go hb)
    replace B := B.trans (hb.mono B.size)
    have hzw1 := B.size
    clear hb
    obtain ⟨p0, p1, p2, p3⟩ := K1.out.four
    have pl := K1.out.lt
    go_wp2_with fail
    clear p0 p1 p2 p3 pl
    obtain ⟨hb2, hk2, hs2⟩ := blocks1 w1 (Array.replicate k' (.slice none 0 0)) 25
    generalize w1.alloc (.cells (Array.replicate k' (.slice none 0 0)) 25) = W2 at *
    obtain ⟨g, hg⟩ : ∃ g : Nat, g = w1.heap.size := ⟨_, rfl⟩
    rw [← hg] at hk2
    simp only [← hg]
    have HM := Lib.hid (OwnM.made hk2 (Nat.le_refl g) (by omega : k' ≤ 1000000000))
    have HGW := Lib.hid (show w.heap.size < g by have := K1.out.lt; omega)
    replace B := B.trans (hb2.mono B.size)
    have HK1 := Lib.hid (K1.out.go hb2)
    have HG := Lib.hid hg
    have HB2 := Lib.hid hb2
    clear hb2 hk2 hs2 hg hmk K1 HS hzW hzw1
    have HOW := Lib.hid HO.out
    clear HO
    go_loopw [8, 20] (fun _ i wr => ∃ q : Nat, q ≤ k' ∧ i = .int .i64 q ∧ Since w1 wr ∧ Below w.heap.size w wr ∧ Blk wr w.heap.size #[.int .i64 l, .int .i64 (s' : Int), .int .i64 (k' : Int), .int .u32 n] 24 ∧ OwnM wr g 25 (whole g k') (fillM R q)) (fun _ i _ => k' - (intOf i).toNat)
    case atStart => exact ⟨0, by omega, rfl, HB2.out, B, HK1.out, by rw [fillM_zero, HRL.out]; exact HM.out⟩
    case round =>
      clear B HM HK1 HB2
      obtain ⟨q, hq, rfl, B2, B, hK, hO⟩ := hrel
      have HO := Lib.hid hO
      have HK := Lib.hid hK
      have HB2 := Lib.hid B2
      clear hO hK B2
      by_cases hlt : q < k'
      · have i0 : (0 : Int) ≤ (q : Int) := Int.natCast_nonneg _
        have i1 : (q : Int) < (k' : Int) := by omega
        have HL := Lib.hid (show q < (fillM R q).length by rw [fillM_length (by rw [HRL.out]; exact hq), HRL.out]; exact hlt)
        have HSR := Lib.hid (fillM_set (R := R) (k := q) (by rw [HRL.out]; exact hlt))
        rw [HRA.out q hlt] at HSR
        have HV0 := Lib.hid (HOW.out.since HB2.out)
        have kk := HK.out.four
        obtain ⟨p0, p1, p2, p3⟩ := kk
        have pl := HK.out.lt
        go_wp2_with fail
        clear p0 p1 p2 p3 pl
        refine (cutsymbol_any l (k' : Int) n s' q _ o _ HQ.out.1 (by have := HQ.out.2; omega) (by rw [← HOL.out]; exact HR.out q i1) HV0.out).mono ?_
        rintro e w3 ⟨gg, rfl, hg, hgs, hb⟩
        replace HO := Lib.hid (HO.out.go hb)
        replace HK := Lib.hid (HK.out.go hb)
        replace HB2 := Lib.hid (HB2.out.go hb)
        replace B := B.trans (hb.mono B.size)
        have hzw3 := B.size
        clear hb
        rw [cutP_length]
        have HV := Lib.hid (hg.bytes (cutP_oct HOC.out s' q) (by rw [cutP_length]; have := HQ.out.1; omega))
        rw [cutP_length] at HV
        clear hg hgs
        obtain ⟨a9, d9, c9, _⟩ := HO.out.cell q HL.out
        have f9 := HO.out.free q
        go_wp2_with fail
        obtain ⟨o1, s1, g1⟩ := HO.out.set q HL.out HV.out
        rw [HSR.out] at o1
        have HO1 := Lib.hid o1
        have HK2 := Lib.hid (HK.out.grown g1 (by have := HGW.out; simp; omega))
        have HB4 := Lib.hid (below_grown B g1 B.size (Nat.le_of_lt HGW.out))
        have HB5 := Lib.hid (show Since w1 _ from below_grown HB2.out g1 (Below.size HB2.out) (by have := HG.out; omega))
        clear o1 s1 g1
        go_roundw
        case rel => exact ⟨q + 1, by omega, by go_num, HB5.out, HB4.out, HK2.out, HO1.out⟩
        case measure => simp [intOf]; omega
      · obtain rfl : q = k' := by omega
        go_wp2_with fail
        go_ret2
        exact ⟨_, rfl, by have := HO.out; rw [show fillM R q = R from by rw [← HRL.out]; exact fillM_all R] at this; exact this.mono (Nat.le_of_lt HGW.out), B⟩
  · have HS0 := Lib.hid (show cutS l s k o = [] by unfold cutS; rw [if_neg hc0])
    rw [HS0.out]
    obtain ⟨ce, hce⟩ : ∃ x, x = cutE l s k o := ⟨_, rfl⟩
    rw [← hce] at HF hc0 ⊢
    have hb : (ce != 0) = true := by rw [bne_iff_ne]; exact hc0
    clear hce HS0
    go_enter Try.func9, Try.ntmps9
    go_wp2_with fail
    obtain ⟨B, hk1, hs⟩ := blocks1 w #[.int .i64 l, .int .i64 (s), .int .i64 (k), .int .u32 n] 24
    generalize (w.alloc (.cells #[.int .i64 l, .int .i64 (s), .int .i64 (k), .int .u32 n] 24)) = W at *
    have K1 := Lib.hid hk1
    have HS := Lib.hid hs
    clear hs hk1
    replace HO := Lib.hid (HO.out.go B)
    have hzW := B.size
    refine (HF.out _ HO.out).mono ?_
    rintro e w1 ⟨rfl, hb⟩
    replace K1 := Lib.hid (K1.out.go hb)
    replace HO := Lib.hid (HO.out.go hb)
    replace B := B.trans (hb.mono B.size)
    have hzw1 := B.size
    clear hb
    obtain ⟨p0, p1, p2, p3⟩ := K1.out.four
    have pl := K1.out.lt
    go_wp2_with fail
    go_ret2
    exact ⟨_, rfl, OwnM.nil _ _ _, B⟩

end Go.Proofs.Ytfefkchjhooloaa

/-
  Four new blocks, one behind the other.
-/
set_option maxRecDepth 100000
namespace Go.Proofs.Ytfefkchjhooloaa
open Go.RowKit

/-- New blocks, one behind the other. -/
theorem blocks4 (w : World) (c1 : Array Value) (T1 : TypeId) (c2 : Array Value) (T2 : TypeId) (c3 : Array Value) (T3 : TypeId) (c4 : Array Value) (T4 : TypeId) :
    Below w.heap.size w ((((w.alloc (.cells c1 T1)).alloc (.cells c2 T2)).alloc (.cells c3 T3)).alloc (.cells c4 T4)) ∧ Blk ((((w.alloc (.cells c1 T1)).alloc (.cells c2 T2)).alloc (.cells c3 T3)).alloc (.cells c4 T4)) w.heap.size c1 T1 ∧
    Blk ((((w.alloc (.cells c1 T1)).alloc (.cells c2 T2)).alloc (.cells c3 T3)).alloc (.cells c4 T4)) (w.heap.size + 1) c2 T2 ∧ Blk ((((w.alloc (.cells c1 T1)).alloc (.cells c2 T2)).alloc (.cells c3 T3)).alloc (.cells c4 T4)) (w.heap.size + 1 + 1) c3 T3 ∧
    Blk ((((w.alloc (.cells c1 T1)).alloc (.cells c2 T2)).alloc (.cells c3 T3)).alloc (.cells c4 T4)) (w.heap.size + 1 + 1 + 1) c4 T4 ∧
    ((((w.alloc (.cells c1 T1)).alloc (.cells c2 T2)).alloc (.cells c3 T3)).alloc (.cells c4 T4)).heap.size = w.heap.size + 1 + 1 + 1 + 1 := by
  obtain ⟨b, k1, k2, k3, hs⟩ := blocks3 w c1 T1 c2 T2 c3 T3
  obtain ⟨b', k', hs'⟩ := blocks1 (((w.alloc (.cells c1 T1)).alloc (.cells c2 T2)).alloc (.cells c3 T3)) c4 T4
  rw [hs] at k' hs'
  exact ⟨b.trans (b'.mono b.size), k1.go b', k2.go b', k3.go b', k', hs'⟩


end Go.Proofs.Ytfefkchjhooloaa
