/- Texts of one seat, laid together: PlanB, RowL, InsA, CopyFit, CutA, La, LaB, LaC, RowMath, RefGridC, LaL. -/
import Derived.Test.YtfefkchjhooloaaCutCutsQ3
import Derived.Deep.DeepCutAuto
import Derived.Test.YtfefkchjhooloaaCutCutsQ2
import Derived.Lib.Overlaps
import Derived.Lib.AppendZerosOnto
import Derived.Shelf.RegionOpenPlain
import Derived.Test.YtfefkchjhooloaaCutCutsQ1
import Derived.Laws.BytesArg
import Derived.Lib.SliceRun
import Derived.Deep.QuietTactic
import Derived.BigQuiet

/-
  Plans in the program (layer 10): 'checked', 'Of', 'Room', 'Pad'.
-/
set_option maxRecDepth 100000
namespace Go.Proofs.Ytfefkchjhooloaa
open Go.RowKit

/-- A plan's value. -/
def planV (l s k n : Int) : Value := .agg #[.int .i64 l, .int .i64 s, .int .i64 k, .int .u32 n]
def PlanE (w : World) (l s k n : Int) (err : Int) (e : Ending) (w' : World) : Prop := e = .returned (.tuple #[planV l s k n, .int .i64 err]) ∧ Below w.heap.size w w'
def okV (c x : Int) : Int := if c = 0 then x else 0
theorem store4_plan {w0 w : World} {g : Nat} {a b c d : Value} {T : TypeId} (hK : Blk w g #[a, b, c, d] T) (hg : w0.heap.size ≤ g) (hB : Below w0.heap.size w0 w) (x y z u : Value) :
    let w' := (((w.setCell ⟨g, 0, none⟩ x).setCell ⟨g, 1, none⟩ y).setCell ⟨g, 2, none⟩ z).setCell ⟨g, 3, none⟩ u
    w'.cell? ⟨g, 0, none⟩ = some x ∧ w'.cell? ⟨g, 1, none⟩ = some y ∧ w'.cell? ⟨g, 2, none⟩ = some z ∧ w'.cell? ⟨g, 3, none⟩ = some u ∧ Below w0.heap.size w0 w' := by
  have h := (((hK.set 0 x).set 1 y).set 2 z).set 3 u
  exact ⟨h.cell 0, h.cell 1, h.cell 2, h.cell 3, (((hB.setCell (p := ⟨g, 0, none⟩) hg _).setCell (p := ⟨g, 1, none⟩) hg _).setCell (p := ⟨g, 2, none⟩) hg _).setCell (p := ⟨g, 3, none⟩) hg _⟩
theorem Blk.four {w : World} {g : Nat} {a b c d : Value} {T : TypeId} (h : Blk w g #[a, b, c, d] T) : w.cell? ⟨g, 0, none⟩ = some a ∧ w.cell? ⟨g, 1, none⟩ = some b ∧ w.cell? ⟨g, 2, none⟩ = some c ∧ w.cell? ⟨g, 3, none⟩ = some d := ⟨h.cell 0, h.cell 1, h.cell 2, h.cell 3⟩

set_option maxHeartbeats 1000000 in
theorem checked_any (l s k n : Int) (w : World) (hl0 : -9223372036854775808 ≤ l) (hl : l ≤ 9223372036854775807) (hs2 : s ≤ 9223372036854775807) :
    Calls Try.prog 29 #[planV l s k n] w (PlanE w (okV (checkE l s k) l) (okV (checkE l s k) s) (okV (checkE l s k) k) (okV (checkE l s k) n) (checkE l s k)) := by
  have HC := Lib.hid (fun w => check_any l s k n w hl0 hl hs2)
  obtain ⟨c, hc⟩ : ∃ c, c = checkE l s k := ⟨_, rfl⟩
  rw [← hc] at HC ⊢
  clear hc
  unfold planV
  by_cases h : c = 0
  · subst h
    go_enter Try.func29, Try.ntmps29
    go_wp2_with fail
    obtain ⟨B, hk1, hk2, hs⟩ := blocks2 w #[.int .i64 l, .int .i64 s, .int .i64 k, .int .u32 n] 24 #[.int .i64 0, .int .i64 0, .int .i64 0, .int .u32 0] 24
    generalize ((w.alloc (.cells #[.int .i64 l, .int .i64 s, .int .i64 k, .int .u32 n] 24)).alloc (.cells #[.int .i64 0, .int .i64 0, .int .i64 0, .int .u32 0] 24)) = W at *
    have K1 := Lib.hid hk1
    have K2 := Lib.hid hk2
    have HS := Lib.hid hs
    clear hs hk1 hk2
    have hzW := B.size
    refine (HC.out _).mono ?_
    rintro e w1 ⟨rfl, hb⟩
    replace K1 := Lib.hid (K1.out.go hb)
    replace K2 := Lib.hid (K2.out.go hb)
    replace B := B.trans (hb.mono B.size)
    have hzw1 := B.size
    clear hb
    obtain ⟨p0, p1, p2, p3⟩ := K1.out.four
    have pl := K1.out.lt
    obtain ⟨q0, q1, q2, q3⟩ := K2.out.four
    have ql := K2.out.lt
    have r0 := K2.out.free 0
    have r1 := K2.out.free 1
    have r2 := K2.out.free 2
    have r3 := K2.out.free 3
    go_wp2_with fail
    obtain ⟨e0, e1, e2, e3, hB⟩ := store4_plan K2.out (by omega) B (.int .i64 l) (.int .i64 s) (.int .i64 k) (.int .u32 n)
    exact bodyPost_ret (v := .tuple #[planV l s k n, .int .i64 0]) (by simp [results, Try.results29, go_sem, e0, e1, e2, e3, planV]) rfl ⟨by simp [okV], hB⟩
  · have hb : (c != (0 : Int)) = true := by rw [bne_iff_ne]; exact h
    have e : ∀ x, okV c x = 0 := fun x => if_neg h
    rw [e, e, e, e]
    clear h e
    go_enter Try.func29, Try.ntmps29
    go_wp2_with fail
    obtain ⟨B, hk1, hk2, hs⟩ := blocks2 w #[.int .i64 l, .int .i64 s, .int .i64 k, .int .u32 n] 24 #[.int .i64 0, .int .i64 0, .int .i64 0, .int .u32 0] 24
    generalize ((w.alloc (.cells #[.int .i64 l, .int .i64 s, .int .i64 k, .int .u32 n] 24)).alloc (.cells #[.int .i64 0, .int .i64 0, .int .i64 0, .int .u32 0] 24)) = W at *
    have K1 := Lib.hid hk1
    have K2 := Lib.hid hk2
    have HS := Lib.hid hs
    clear hs hk1 hk2
    have hzW := B.size
    refine (HC.out _).mono ?_
    rintro e w1 ⟨rfl, hb⟩
    replace K1 := Lib.hid (K1.out.go hb)
    replace K2 := Lib.hid (K2.out.go hb)
    replace B := B.trans (hb.mono B.size)
    have hzw1 := B.size
    clear hb
    obtain ⟨p0, p1, p2, p3⟩ := K1.out.four
    have pl := K1.out.lt
    obtain ⟨q0, q1, q2, q3⟩ := K2.out.four
    have ql := K2.out.lt
    have r0 := K2.out.free 0
    have r1 := K2.out.free 1
    have r2 := K2.out.free 2
    have r3 := K2.out.free 3
    go_wp2_with fail
    obtain ⟨e0, e1, e2, e3, hB⟩ := store4_plan K2.out (by omega) B (.int .i64 0) (.int .i64 0) (.int .i64 0) (.int .u32 0)
    exact bodyPost_ret (v := .tuple #[planV 0 0 0 0, .int .i64 c]) (by simp [results, Try.results29, go_sem, e0, e1, e2, e3, planV]) rfl ⟨rfl, hB⟩

set_option maxHeartbeats 1000000 in
theorem of10_any (l s n : Int) (w : World) (hl0 : -9223372036854775808 ≤ l) (hl : l ≤ 9223372036854775807) (hs2 : s ≤ 9223372036854775807) :
    Calls Try.prog 14 #[.int .i64 l, .int .i64 s, .int .u32 n] w (PlanE w (okV (checkE l s (needI l s)) l) (okV (checkE l s (needI l s)) s) (okV (checkE l s (needI l s)) (needI l s)) (okV (checkE l s (needI l s)) n) (checkE l s (needI l s))) := by
  have HN := Lib.hid (fun w => need_any l s w hl0 hl hs2)
  have HC := Lib.hid (fun w => checked_any l s (needI l s) n w hl0 hl hs2)
  obtain ⟨m, hm⟩ : ∃ m, m = needI l s := ⟨_, rfl⟩
  rw [← hm] at HN HC ⊢
  clear hm
  obtain ⟨c, hc⟩ : ∃ c, c = checkE l s m := ⟨_, rfl⟩
  rw [← hc] at HC ⊢
  clear hc
  go_enter Try.func14, Try.ntmps14
  go_wp2_with fail
  obtain ⟨B, hk1, hs⟩ := blocks1 w #[.int .i64 0, .int .i64 0, .int .i64 0, .int .u32 0] 24
  generalize (w.alloc (.cells #[.int .i64 0, .int .i64 0, .int .i64 0, .int .u32 0] 24)) = W at *
  have K1 := Lib.hid hk1
  have HS := Lib.hid hs
  clear hs hk1
  have hzW := B.size
  refine (HN.out _).mono ?_
  rintro e w1 ⟨rfl, rfl⟩
  go_wp2_with fail
  refine (HC.out _).mono ?_
  rintro e w2 ⟨rfl, hb⟩
  replace K1 := Lib.hid (K1.out.go hb)
  replace B := B.trans (hb.mono B.size)
  clear hb
  obtain ⟨q0, q1, q2, q3⟩ := K1.out.four
  have ql := K1.out.lt
  have r0 := K1.out.free 0
  have r1 := K1.out.free 1
  have r2 := K1.out.free 2
  have r3 := K1.out.free 3
  unfold planV
  go_wp2_with fail
  obtain ⟨e0, e1, e2, e3, hB⟩ := store4_plan K1.out (by omega) B (.int .i64 (okV c l)) (.int .i64 (okV c s)) (.int .i64 (okV c m)) (.int .u32 (okV c n))
  exact bodyPost_ret (v := .tuple #[planV (okV c l) (okV c s) (okV c m) (okV c n), .int .i64 c]) (by simp [results, Try.results14, go_sem, e0, e1, e2, e3, planV]) rfl ⟨rfl, hB⟩
end Go.Proofs.Ytfefkchjhooloaa

/-
  Lists of rows (each of two slices of bytes): read, appended to, stored into.
-/
set_option maxRecDepth 100000
namespace Go.Proofs.Ytfefkchjhooloaa
open Go.RowKit

theorem row_add (b o j : Nat) : (⟨b, o, none⟩ : Addr).add j = ⟨b, o + j, none⟩ := by unfold Addr.add; split <;> simp_all

/-- A row: its vector, and what it carries. -/
abbrev Rw := List Nat × List Nat
/-- The row of a place: by a name of its own, so that the walk leaves it as it is. -/
def rwAt (L : List Rw) (i : Nat) : Rw := L.getD i ([], [])
/-! ### Lists that a call makes -/

/-- Each pair reads as a row. -/
structure Each (w : World) (us : List (Value × Value)) (L : List Rw) : Prop where
  len : us.length = L.length
  row : ∀ i u, us[i]? = some u → Bytes w u.1 (rwAt L i).1 ∧ Bytes w u.2 (rwAt L i).2

end Go.Proofs.Ytfefkchjhooloaa

/-
  One element put into a slice at a place, in memory: what the two copies of slices.Insert make of a block of whatever elements. No function of the program in this text.
-/
set_option maxRecDepth 100000
namespace Go.Proofs.Ytfefkchjhooloaa
open Go.RowKit

/-- A list with cells written over, from a place on. -/
def wr (cur : List Value) (o : Nat) (cs : List Value) : List Value := cur.take o ++ cs ++ cur.drop (o + cs.length)
/-- 'copy', of elements of whatever size, into a block that isn't frozen: all is read before anything is written. -/
theorem run_copy_rowN {P : Program} (w : World) (dT sT ty elem : TypeId) (g o dLen dCap : Nat) (a : Addr) (sLen sCap : Nat) (cur : Array Value) (t : TypeId) (cs : List Value) (size m : Nat)
    (hu : P.underlying dT = some (.slice elem)) (hs : (P.info? elem).map (·.size) = some size)
    (hg : w.heap[g]? = some (.cells cur t (0, 0))) (hm : m = Nat.min sLen dLen) (hn : cs.length = m * size)
    (hsrc : ∀ j v, cs[j]? = some v → w.cell? (a.add j) = some v) (hfit : o + cs.length ≤ cur.size) (h1 : ∀ v ∈ cs, v.oneCell' = true) :
    (Builtin.copy_ #[dT, sT] ty #[.slice (some ⟨g, o, none⟩) dLen dCap, .slice (some a) sLen sCap]).run P w =
      .ok (goInt m) (w.setRow g (wr cur.toList o cs).toArray) := by
  have hl := run_loadCells_list (P := P) w a cs hsrc
  have hst := run_storeCells_at P g o t cs 0 cur w hg (by simpa using hfit) h1
  cases hq : P.info? elem with
  | none => simp [hq] at hs
  | some i =>
    have hi : i.size = size := by simpa [hq] using hs
    simp [Builtin.copy_, run_underlying hu, Builtin.lenOf, Builtin.firstCells, sizeOf, typeInfo, hq, hi, ← hm, ← hn, hl, hst, wr]

end Go.Proofs.Ytfefkchjhooloaa

/-
  Bytes copied into a slice that was made: cut, or with noughts behind.
-/
set_option maxRecDepth 100000
namespace Go.Proofs.Ytfefkchjhooloaa
open Go.RowKit

/-- The first m bytes, with noughts behind. -/
def fitR (m : Nat) (r : List Nat) : List Nat := r.take m ++ zeros (m - r.length)
theorem wr_fit (m : Nat) (r : List Nat) : wr ((zeros m).map U8) 0 ((r.take m).map U8) = (fitR m r).map U8 := by
  have h : m - min m r.length = m - r.length := by omega
  unfold wr fitR zeros
  simp [h]

theorem infoU8 : (Try.prog.info? 5).map (·.size) = some 1 := by kernel_rfl

/-- 'copy(v, row)', into a new slice of noughts. -/
theorem copy_fit {w : World} {gb m : Nat} {v : Value} {r : List Nat} (hO : Own w gb (zeros m)) (hB : Bytes w v r) :
    ∃ W, (∀ ty, (Builtin.copy_ #[25, 25] ty #[.slice (some ⟨gb, 0, none⟩) m m, v]).run Try.prog w = .ok (goInt ((min r.length m : Nat) : Int)) W) ∧ Own W gb (fitR m r) ∧ w.grownBy W (some gb) := by
  obtain ⟨a, c, rfl, h1, h2, h3, h4⟩ := hB
  have hO' : w.heap[gb]? = some (.cells ((zeros m).map U8).toArray 5 (0, 0)) := hO
  have hgr : ∀ cs : Array Value, w.grownBy (w.setRow gb cs) (some gb) := fun cs => ⟨rfl, rfl, rfl, by simp, fun k _ hne => setRow_other w gb k _ (by intro e; rw [e] at hne; exact hne rfl)⟩
  cases a with
  | none =>
    have hr : r = [] := by
      refine Decidable.byContradiction fun hne => ?_
      obtain ⟨b, off, e, _⟩ := h4 hne
      cases e
    subst hr
    refine ⟨w, fun ty => ?_, ?_, grown_refl _ _⟩
    · simp [Builtin.copy_, run_underlying Try.underlying25, Builtin.lenOf, Builtin.firstCells, sizeOf, typeInfo, storeCells]
      obtain ⟨i, hi⟩ : ∃ i, Try.prog.info? 5 = some i := by
        cases h : Try.prog.info? 5 with
        | none => have := infoU8; rw [h] at this; cases this
        | some i => exact ⟨i, rfl⟩
      rw [hi]
      simp
    · have : fitR m [] = zeros m := by simp [fitR]
      rw [this]; exact hO
  | some ad =>
    refine ⟨w.setRow gb ((fitR m r).map U8).toArray, fun ty => ?_, ?_, hgr _⟩
    · have h := run_copy_rowN (P := Try.prog) w 25 25 ty 5 gb 0 m m ad r.length c ((zeros m).map U8).toArray 5 ((r.take m).map U8) 1 (min r.length m) Try.underlying25 infoU8 hO' rfl (by simp [Nat.min_comm]) (fun j u hj => ?_) (by simp [zeros]; omega) (fun u hu => by
        obtain ⟨x, _, rfl⟩ := List.mem_map.1 hu
        rfl)
      · rw [h]
        have e := wr_fit m r
        simp only at e ⊢
        rw [e]
      · rw [List.getElem?_map, List.getElem?_take] at hj
        split at hj
        · rename_i hjm
          cases hx : r[j]? with
          | none => rw [hx] at hj; cases hj
          | some x =>
            rw [hx] at hj
            simp only [Option.map_some, Option.some.injEq] at hj
            subst hj
            have hjl := (List.getElem?_eq_some_iff.1 hx).1
            obtain ⟨b, off, e, _, hc⟩ := h4 (by intro e; rw [e] at hjl; simp at hjl)
            simp only [Option.some.injEq] at e
            subst e
            rw [row_add, hc j hjl, nth_eq r j hjl]
            have := (List.getElem?_eq_some_iff.1 hx).2
            rw [this]
        · cases hj
    · show (w.setRow gb _).heap[gb]? = _
      exact setRow_heap w gb _ _ _ _ hO'

end Go.Proofs.Ytfefkchjhooloaa

/-
  Symbols of an object in the program (package cut): fit, symbol, Symbol, Spread.
-/
set_option maxRecDepth 100000
namespace Go.Proofs.Ytfefkchjhooloaa
open Go.RowKit

/-- 'o[i:]', of bytes. -/
theorem slice_rest {w : World} {a : Option Addr} {n c i : Nat} {l : List Nat} (h : Bytes w (.slice a n c) l) (hi : i ≤ l.length) :
    ∃ b m d, (∀ w' : World, (Instr.sliceAt 25 (.slice a n c) (some (.int .i64 (i : Int))) none none).run Try.prog w' = .ok (.slice b m d) w') ∧ Bytes w (.slice b m d) (l.drop i) := by
  have h' := h
  obtain ⟨a', c', e, h1, h2, h3, h4⟩ := h'
  simp only [Value.slice.injEq] at e
  obtain ⟨rfl, rfl, rfl⟩ := e
  have i1 : (i : Int) ≤ (l.length : Int) := by omega
  have i0 : (0 : Int) ≤ (i : Int) := Int.natCast_nonneg _
  have i2 : (l.length : Int) ≤ (c : Int) := by omega
  have i3 : (i : Int) ≤ (c : Int) := by omega
  cases a with
  | none =>
    have hl : l = [] := by
      refine Decidable.byContradiction fun hne => ?_
      obtain ⟨b, off, e, _⟩ := h4 hne
      cases e
    subst hl
    obtain rfl : i = 0 := by simpa using hi
    refine ⟨none, 0, c, fun w' => ?_, ?_⟩
    · go_simp
    · simpa using h
  | some p =>
    by_cases hl : l = []
    · subst hl
      obtain rfl : i = 0 := by simpa using hi
      refine ⟨?b, 0, c, fun w' => ?_, ?_⟩
      case b => exact if c = 0 then some p else some p
      · go_simp
      · simpa using h
    · obtain ⟨b, off, e, hlt, hc⟩ := h4 hl
      obtain rfl : p = ⟨b, off, none⟩ := by simpa using e
      by_cases hci : c = i
      · subst hci
        have hd : l.drop c = [] := List.drop_eq_nil_of_le h1
        have hz : l.length - c = 0 := by omega
        rw [hd]
        refine ⟨some ⟨b, off, none⟩, 0, 0, fun w' => ?_, ⟨_, 0, rfl, Nat.le_refl _, by omega, by simp, fun e => absurd rfl e⟩⟩
        go_simp
      · refine ⟨some ⟨b, off + i, none⟩, l.length - i, c - i, fun w' => ?_, ?_⟩
        · go_simp
        · exact h.drop hi _ (fun _ => rfl) _ _ rfl (by omega) (by omega)

set_option maxHeartbeats 1000000 in
theorem cutfit_any (l s k n : Int) (v : Value) (o : List Nat) (w : World) (hl0 : -9223372036854775808 ≤ l) (hl : l ≤ 9223372036854775807) (hs2 : s ≤ 9223372036854775807) (ho : Bytes w v o) :
    Calls Try.prog 26 #[.agg #[.int .i64 l, .int .i64 s, .int .i64 k, .int .u32 n], v] w fun e w' => e = .returned (.int .i64 (cutE l s k o)) ∧ Below w.heap.size w w' := by
  have HC := Lib.hid (fun w => check_any l s k n w hl0 hl hs2)
  have HO := Lib.hid ho
  obtain ⟨a, c, rfl, _⟩ := ho
  obtain ⟨h1, h2, h3⟩ := @cut_of l s k o
  obtain ⟨ce, hce⟩ : ∃ x, x = checkE l s k := ⟨_, rfl⟩
  rw [← hce] at h1 h2 h3 HC
  clear hce
  by_cases hc0 : ce = 0
  · subst hc0
    by_cases hol : (o.length : Int) = l
    · have HE := Lib.hid (h3 rfl hol).1
      have hb : ((o.length : Int) != l) = false := by rw [hol]; simp
      clear h1 h2 h3 hol
      rw [HE.out]
      go_enter Try.func26, Try.ntmps26
      go_wp2_with fail
      obtain ⟨B, hk1, hs⟩ := blocks1 w #[.int .i64 l, .int .i64 s, .int .i64 k, .int .u32 n] 24
      generalize (w.alloc (.cells #[.int .i64 l, .int .i64 s, .int .i64 k, .int .u32 n] 24)) = W at *
      have K1 := Lib.hid hk1
      have HS := Lib.hid hs
      clear hs hk1
      replace HO := Lib.hid (HO.out.go B)
      have hzW := B.size
      refine (HC.out _).mono ?_
      rintro e w1 ⟨rfl, hb⟩
      replace K1 := Lib.hid (K1.out.go hb)
      replace B := B.trans (hb.mono B.size)
      have hzw1 := B.size
      clear hb
      obtain ⟨p0, p1, p2, p3⟩ := K1.out.four
      have pl := K1.out.lt
      go_wp2_with fail
      go_ret
      exact ⟨rfl, B⟩
    · have HE := Lib.hid (h2 rfl hol).1
      have hb : ((o.length : Int) != l) = true := by rw [bne_iff_ne]; exact hol
      clear h1 h2 h3 hol
      rw [HE.out]
      go_enter Try.func26, Try.ntmps26
      go_wp2_with fail
      obtain ⟨B, hk1, hs⟩ := blocks1 w #[.int .i64 l, .int .i64 s, .int .i64 k, .int .u32 n] 24
      generalize (w.alloc (.cells #[.int .i64 l, .int .i64 s, .int .i64 k, .int .u32 n] 24)) = W at *
      have K1 := Lib.hid hk1
      have HS := Lib.hid hs
      clear hs hk1
      replace HO := Lib.hid (HO.out.go B)
      have hzW := B.size
      refine (HC.out _).mono ?_
      rintro e w1 ⟨rfl, hb⟩
      replace K1 := Lib.hid (K1.out.go hb)
      replace B := B.trans (hb.mono B.size)
      have hzw1 := B.size
      clear hb
      obtain ⟨p0, p1, p2, p3⟩ := K1.out.four
      have pl := K1.out.lt
      go_wp2_with fail
      go_ret
      exact ⟨rfl, B⟩
  · have HE := Lib.hid (h1 hc0).1
    have hb : (ce != 0) = true := by rw [bne_iff_ne]; exact hc0
    clear h1 h2 h3 hc0
    rw [HE.out]
    go_enter Try.func26, Try.ntmps26
    go_wp2_with fail
    obtain ⟨B, hk1, hs⟩ := blocks1 w #[.int .i64 l, .int .i64 s, .int .i64 k, .int .u32 n] 24
    generalize (w.alloc (.cells #[.int .i64 l, .int .i64 s, .int .i64 k, .int .u32 n] 24)) = W at *
    have K1 := Lib.hid hk1
    have HS := Lib.hid hs
    clear hs hk1
    replace HO := Lib.hid (HO.out.go B)
    have hzW := B.size
    refine (HC.out _).mono ?_
    rintro e w1 ⟨rfl, hb⟩
    replace K1 := Lib.hid (K1.out.go hb)
    replace B := B.trans (hb.mono B.size)
    have hzw1 := B.size
    clear hb
    go_wp2_with fail
    go_ret
    exact ⟨rfl, B⟩

theorem cutP_fit (o : List Nat) (s i : Nat) : fitR s (o.drop (i * s)) = cutP o s i s := by
  apply List.ext_getElem?
  intro j
  unfold fitR cutP zeros
  by_cases hj : j < s
  · rw [List.getElem?_map, List.getElem?_range hj, Option.map_some]
    by_cases h2 : j < (o.drop (i * s)).length
    · have h3 : i * s + j < o.length := by simp at h2; omega
      rw [List.getElem?_append_left (by rw [List.length_take]; omega), List.getElem?_take, if_pos hj, List.getElem?_drop, List.getElem?_eq_getElem h3, nth_eq o _ h3]
    · have h3 : o.length ≤ i * s + j := by simp at h2; omega
      have h4 : nth o (i * s + j) = 0 := by unfold nth; rw [List.getD_eq_getElem?_getD, List.getElem?_eq_none h3]; rfl
      rw [h4, List.getElem?_append_right (by rw [List.length_take]; omega), List.getElem?_replicate, if_pos]
      rw [List.length_take]; omega
  · rw [List.getElem?_eq_none (by simp; omega), List.getElem?_eq_none (by simp; omega)]

/-- A symbol that a call made. -/
def SymV (w : World) (l : List Nat) (e : Ending) (w' : World) : Prop := ∃ g, e = .returned (whole g l.length) ∧ Own w' g l ∧ w.heap.size ≤ g ∧ Below w.heap.size w w'
set_option maxHeartbeats 1000000 in
theorem cutsymbol_any (l k n : Int) (s i : Nat) (v : Value) (o : List Nat) (w : World) (hs : s ≤ 65535) (hi : i ≤ 65535) (his : i * s ≤ o.length) (ho : Bytes w v o) :
    Calls Try.prog 27 #[.agg #[.int .i64 l, .int .i64 (s : Int), .int .i64 k, .int .u32 n], v, .int .i64 (i : Int)] w (SymV w (cutP o s i s)) := by
  have HO := Lib.hid ho
  obtain ⟨a, c, rfl, _⟩ := ho
  have hmb := make_bytes s (by omega)
  obtain ⟨X, hX⟩ : ∃ X, X = i * s := ⟨_, rfl⟩
  have hm : IntKind.i64.wrap ((i : Int) * (s : Int)) = (X : Int) := by
    have e : (i : Int) * (s : Int) = (X : Int) := by rw [hX]; simp
    have : X ≤ 65535 * 65535 := by rw [hX]; exact Nat.mul_le_mul hi hs
    rw [e, IntKind.wrap_i64]; omega
  have HF := Lib.hid (show fitR s (o.drop X) = cutP o s i s by rw [hX]; exact cutP_fit o s i)
  rw [← hX] at his
  have HL := Lib.hid his
  clear hX his
  obtain ⟨b, m, d, hsl, hbr⟩ := slice_rest HO.out HL.out
  obtain ⟨W1, hW1⟩ : ∃ W1, W1 = w.alloc (.cells #[.int .i64 l, .int .i64 (s : Int), .int .i64 k, .int .u32 n] 24) := ⟨_, rfl⟩
  have hz1 : W1.heap.size = w.heap.size + 1 := by rw [hW1]; simp
  have hb1 : Below w.heap.size w W1 := by rw [hW1]; exact (Below.refl _ _).alloc (Nat.le_refl _) _
  obtain ⟨W2, hcp, hO2, hgr⟩ := copy_fit (m := s) (Own.new W1 (zeros s)) ((hbr.go hb1).go ((Below.refl W1.heap.size W1).alloc (Nat.le_refl _) (bytesObj (zeros s))))
  have hB2 : Below w.heap.size w W2 := hb1.trans ((below_grown ((Below.refl W1.heap.size W1).alloc (Nat.le_refl _) (bytesObj (zeros s))) hgr (by simp) (Nat.le_refl _)).mono (by omega))
  rw [hz1] at hcp hO2
  rw [hW1] at hcp
  rw [HF.out] at hO2
  have HO2 := Lib.hid hO2
  have HB2 := Lib.hid hB2
  obtain ⟨q, hq⟩ : ∃ q : Int, q = ((min (o.drop X).length s : Nat) : Int) := ⟨_, rfl⟩
  rw [← hq] at hcp
  have hcp2 : ∀ ty, (Builtin.copy_ #[25, 25] ty #[whole (w.heap.size + 1) s, .slice b m d]).run Try.prog ((w.alloc (.cells #[.int .i64 l, .int .i64 (s : Int), .int .i64 k, .int .u32 n] 24)).alloc (bytesObj (List.replicate s 0))) = .ok (goInt q) W2 := hcp
  clear hW1 hz1 hb1 hgr hO2 hB2 hbr hq hcp
  go_enter Try.func27, Try.ntmps27
  go_wp2_with fail
  go_ret
  exact ⟨w.heap.size + 1, by rw [cutP_length]; rfl, HO2.out, by omega, HB2.out⟩

/-- One symbol, and what is wrong. -/
def symE (l s k : Int) (o : List Nat) (i : Int) : Int := if cutE l s k o = 0 then (if i < 0 ∨ k ≤ i then 2 else 0) else cutE l s k o
def symS (l s k : Int) (o : List Nat) (i : Int) : List Nat := if symE l s k o i = 0 then cutP o s.toNat i.toNat s.toNat else []
def SymE (w : World) (l : List Nat) (err : Int) (e : Ending) (w' : World) : Prop := ∃ v, e = .returned (.tuple #[v, .int .i64 err]) ∧ Bytes w' v l ∧ Below w.heap.size w w'
theorem cut_fits {l s k : Int} {o : List Nat} (h : cutE l s k o = 0) : checkE l s k = 0 ∧ (o.length : Int) = l := by
  obtain ⟨h1, h2, h3⟩ := @cut_of l s k o
  by_cases hc : checkE l s k = 0
  · by_cases ho : (o.length : Int) = l
    · exact ⟨hc, ho⟩
    · rw [(h2 hc ho).1] at h; cases h
  · rw [(h1 hc).1] at h; exact absurd h hc
theorem cut_room {l s k : Int} (h : checkE l s k = 0) {i : Nat} (hi : (i : Int) < k) : i * s.toNat ≤ l.toNat := by
  obtain ⟨h1, h2, h3, h4, h5, h6⟩ := check_ok h
  have e : k.toNat = needsN l.toNat s.toNat := by omega
  have hn : needsN l.toNat s.toNat ≤ 4096 := by omega
  have hs : 1 ≤ s.toNat := by omega
  have hf : ¬ 4096 < needT l.toNat s.toNat := by rw [needT_many hs]; omega
  rw [← needT_few hs hf] at e
  unfold needT at e
  split at e
  · have : i = 0 := by omega
    subst this; simp
  · have h8 : i ≤ (l.toNat - 1) / s.toNat := by omega
    have := Nat.mul_le_of_le_div _ _ _ h8
    omega
theorem cutP_oct {o : List Nat} (h : ∀ x, x ∈ o → x < 256) (s i : Nat) : ∀ x, x ∈ cutP o s i s → x < 256 := cutP_lt h s i s

set_option maxHeartbeats 1000000 in
theorem cutSymbol_any (l s k n i : Int) (v : Value) (o : List Nat) (w : World) (hl0 : -9223372036854775808 ≤ l) (hl : l ≤ 9223372036854775807) (hs2 : s ≤ 9223372036854775807) (ho : Bytes w v o) :
    Calls Try.prog 11 #[.agg #[.int .i64 l, .int .i64 s, .int .i64 k, .int .u32 n], v, .int .i64 i] w (SymE w (symS l s k o i) (symE l s k o i)) := by
  have HF := Lib.hid (fun w ho => cutfit_any l s k n v o w hl0 hl hs2 ho)
  have HO := Lib.hid ho
  obtain ⟨a, c, rfl, _⟩ := ho
  by_cases hc0 : cutE l s k o = 0
  · have hck := (cut_fits hc0).1
    have hol := (cut_fits hc0).2
    rw [hc0] at HF
    by_cases hi : i < 0
    · have HE := Lib.hid (show symE l s k o i = 2 by unfold symE; rw [if_pos hc0, if_pos (.inl hi)])
      have HS := Lib.hid (show symS l s k o i = [] by unfold symS; rw [HE.out, if_neg (by decide)])
      rw [HE.out, HS.out]
      clear hck hol hc0
      go_enter Try.func11, Try.ntmps11
      go_wp2_with fail
      obtain ⟨B, hk1, hs⟩ := blocks1 w #[.int .i64 l, .int .i64 (s), .int .i64 k, .int .u32 n] 24
      generalize (w.alloc (.cells #[.int .i64 l, .int .i64 (s), .int .i64 k, .int .u32 n] 24)) = W at *
      have K1 := Lib.hid hk1
      have HS := Lib.hid hs
      clear hs hk1
      replace HO := Lib.hid (HO.out.go B)
      have hzW := B.size
      refine (HF.out _ HO.out).mono ?_
      rintro e w1 ⟨rfl, hb⟩
      replace K1 := Lib.hid (K1.out.go hb)
      replace HO := Lib.hid (HO.out.go hb)
      replace B := B.trans (hb.mono B.size)
      have hzw1 := B.size
      clear hb
      obtain ⟨p0, p1, p2, p3⟩ := K1.out.four
      have pl := K1.out.lt
      go_wp2_with fail
      go_ret2
      exact ⟨_, rfl, Bytes.nil _, B⟩
    · obtain ⟨i', rfl⟩ : ∃ i' : Nat, i = i' := ⟨i.toNat, by omega⟩
      by_cases hik : (k : Int) ≤ i'
      · have HE := Lib.hid (show symE l s k o i' = 2 by unfold symE; rw [if_pos hc0, if_pos (.inr hik)])
        have HS := Lib.hid (show symS l s k o i' = [] by unfold symS; rw [HE.out, if_neg (by decide)])
        rw [HE.out, HS.out]
        clear hck hol hc0
        go_enter Try.func11, Try.ntmps11
        go_wp2_with fail
        obtain ⟨B, hk1, hs⟩ := blocks1 w #[.int .i64 l, .int .i64 (s), .int .i64 k, .int .u32 n] 24
        generalize (w.alloc (.cells #[.int .i64 l, .int .i64 (s), .int .i64 k, .int .u32 n] 24)) = W at *
        have K1 := Lib.hid hk1
        have HS := Lib.hid hs
        clear hs hk1
        replace HO := Lib.hid (HO.out.go B)
        have hzW := B.size
        refine (HF.out _ HO.out).mono ?_
        rintro e w1 ⟨rfl, hb⟩
        replace K1 := Lib.hid (K1.out.go hb)
        replace HO := Lib.hid (HO.out.go hb)
        replace B := B.trans (hb.mono B.size)
        have hzw1 := B.size
        clear hb
        obtain ⟨p0, p1, p2, p3⟩ := K1.out.four
        have pl := K1.out.lt
        go_wp2_with fail
        go_ret2
        exact ⟨_, rfl, Bytes.nil _, B⟩
      · have HE := Lib.hid (show symE l s k o i' = 0 by unfold symE; rw [if_pos hc0, if_neg (by omega)])
        have HS := Lib.hid (show symS l s k o i' = cutP o s.toNat i' s.toNat by unfold symS; rw [HE.out, if_pos rfl]; rfl)
        rw [HE.out, HS.out]
        have HR := Lib.hid (cut_room hck (i := i') (by omega))
        obtain ⟨q1, q2, q3, q4, q5, -⟩ := check_ok hck
        obtain ⟨s', rfl⟩ : ∃ s' : Nat, s = s' := ⟨s.toNat, by omega⟩
        have HOL := Lib.hid (show l.toNat = o.length by omega)
        simp only [Int.toNat_natCast] at HR ⊢
        have HQ := Lib.hid (show s' ≤ 65535 ∧ i' ≤ 65535 by omega)
        have hik2 : ¬ k ≤ (i' : Int) := hik
        clear hck hol hc0
        go_enter Try.func11, Try.ntmps11
        go_wp2_with fail
        obtain ⟨B, hk1, hs⟩ := blocks1 w #[.int .i64 l, .int .i64 ((s':Int)), .int .i64 k, .int .u32 n] 24
        generalize (w.alloc (.cells #[.int .i64 l, .int .i64 ((s':Int)), .int .i64 k, .int .u32 n] 24)) = W at *
        have K1 := Lib.hid hk1
        have HS := Lib.hid hs
        clear hs hk1
        replace HO := Lib.hid (HO.out.go B)
        have hzW := B.size
        refine (HF.out _ HO.out).mono ?_
        rintro e w1 ⟨rfl, hb⟩
        replace K1 := Lib.hid (K1.out.go hb)
        replace HO := Lib.hid (HO.out.go hb)
        replace B := B.trans (hb.mono B.size)
        have hzw1 := B.size
        clear hb
        obtain ⟨p0, p1, p2, p3⟩ := K1.out.four
        have pl := K1.out.lt
        go_wp2_with fail
        refine (cutsymbol_any l k n s' i' _ o _ HQ.out.1 HQ.out.2 (by rw [← HOL.out]; exact HR.out) HO.out).mono ?_
        rintro e w2 ⟨g, rfl, hg, hgs, hb⟩
        replace HO := Lib.hid (HO.out.go hb)
        replace B := B.trans (hb.mono B.size)
        have hzw2 := B.size
        clear hb
        rw [cutP_length]
        have HG := Lib.hid (hg.bytes (cutP_oct HO.out.lt s' i') (by rw [cutP_length]; omega))
        rw [cutP_length] at HG
        clear hg hgs
        go_wp2_with fail
        go_ret2
        exact ⟨_, rfl, HG.out, B⟩
  · have HE := Lib.hid (show symE l s k o i = cutE l s k o by unfold symE; rw [if_neg hc0])
    have HS := Lib.hid (show symS l s k o i = [] by unfold symS; rw [HE.out, if_neg hc0])
    rw [HE.out, HS.out]
    obtain ⟨ce, hce⟩ : ∃ x, x = cutE l s k o := ⟨_, rfl⟩
    rw [← hce] at HF hc0 ⊢
    have hb : (ce != 0) = true := by rw [bne_iff_ne]; exact hc0
    clear hce HE
    go_enter Try.func11, Try.ntmps11
    go_wp2_with fail
    obtain ⟨B, hk1, hs⟩ := blocks1 w #[.int .i64 l, .int .i64 (s), .int .i64 k, .int .u32 n] 24
    generalize (w.alloc (.cells #[.int .i64 l, .int .i64 (s), .int .i64 k, .int .u32 n] 24)) = W at *
    have K1 := Lib.hid hk1
    have HS := Lib.hid hs
    clear hs hk1
    replace HO := Lib.hid (HO.out.go B)
    have hzW := B.size
    refine (HF.out _ HO.out).mono ?_
    rintro e w1 ⟨rfl, hb⟩
    replace K1 := Lib.hid (K1.out.go hb)
    replace HO := Lib.hid (HO.out.go hb)
    replace B := B.trans (hb.mono B.size)
    have hzw1 := B.size
    clear hb
    obtain ⟨p0, p1, p2, p3⟩ := K1.out.four
    have pl := K1.out.lt
    go_wp2_with fail
    go_ret2
    exact ⟨_, rfl, Bytes.nil _, B⟩

end Go.Proofs.Ytfefkchjhooloaa

/-
  Linear algebra over bytes (layers 7 to 9), first part: the field as a type, sums, vectors, spans, where they lead, ranks. No program in this text.
-/
set_option maxRecDepth 100000
namespace Go.Proofs.Ytfefkchjhooloaa
namespace La

/-- A byte, as an element of the field. -/
structure B where
  val : Nat
  lt : val < 256

theorem B.ext {a b : B} (h : a.val = b.val) : a = b := by
  cases a; cases b; cases h; rfl

instance : OfNat B 0 := ⟨⟨0, by decide⟩⟩
instance : OfNat B 1 := ⟨⟨1, by decide⟩⟩
instance : Add B := ⟨fun a b => ⟨a.val ^^^ b.val, Gf.xor_lt a.lt b.lt⟩⟩
instance : Mul B := ⟨fun a b => ⟨Gf.mul a.val b.val, Gf.mul_lt a.lt b.val⟩⟩
instance : DecidableEq B := fun a b => if h : a.val = b.val then isTrue (B.ext h) else isFalse (fun e => h (by rw [e]))

theorem badd_comm (a b : B) : a + b = b + a := B.ext (Nat.xor_comm _ _)
theorem badd_assoc (a b c : B) : a + b + c = a + (b + c) := B.ext (Nat.xor_assoc _ _ _)
theorem bmul_comm (a b : B) : a * b = b * a := B.ext (Gf.mul_comm a.lt b.lt)
theorem bmul_assoc (a b c : B) : a * b * c = a * (b * c) := B.ext (Gf.mul_assoc a.lt b.lt c.val)
instance : Std.Associative (α := B) (· + ·) := ⟨badd_assoc⟩
instance : Std.Commutative (α := B) (· + ·) := ⟨badd_comm⟩
instance : Std.Associative (α := B) (· * ·) := ⟨bmul_assoc⟩
instance : Std.Commutative (α := B) (· * ·) := ⟨bmul_comm⟩

/-! ### Sums -/

/-! ### Vectors -/

abbrev Vc := Nat → B

def v0 : Vc := fun _ => 0
def va (x y : Vc) : Vc := fun i => x i + y i
def vs (c : B) (x : Vc) : Vc := fun i => c * x i

/-! ### Where vectors lead -/

def Lead (v : Vc) (i : Nat) : Prop := v i ≠ 0 ∧ ∀ j, j < i → v j = 0

/-! ### Ranks -/

/-! ### Reduced rows: there is one list of them alone -/

/-- Rows by rising places; each leads with a 1, where all others have a 0. -/
structure Red (E : List Vc) : Prop where
  rise : E.Pairwise fun x y => ∀ i j, Lead x i → Lead y j → i < j
  one : ∀ e ∈ E, ∃ i, Lead e i ∧ e i = 1
  clear : E.Pairwise fun x y => ∀ i, (Lead x i → y i = 0) ∧ (Lead y i → x i = 0)

end La
end Go.Proofs.Ytfefkchjhooloaa

/-
  Linear algebra over bytes, second part: combinations by their coefficients, matrices turned and multiplied, inverses. No program in this text.
-/
set_option maxRecDepth 100000
namespace Go.Proofs.Ytfefkchjhooloaa
namespace La

/-- The first m rows of a matrix. -/
def rows (A : Nat → Vc) (m : Nat) : List Vc := (List.range m).map A

/-! ### Turned -/

/-! ### Products -/

end La
end Go.Proofs.Ytfefkchjhooloaa

/-
  Linear algebra over bytes, third part: determinants by the first row (two is 0 here: no signs), and that one isn't 0 just where the rank is full. No program in this text.
-/
set_option maxRecDepth 100000
namespace Go.Proofs.Ytfefkchjhooloaa
namespace La

/-- The sum over all ways to take one of a list: of it, and of what is left. -/
def P (f : Nat → List Nat → B) : List Nat → B
  | [] => 0
  | x :: xs => f x xs + P (fun y ys => f y (x :: ys)) xs

end La
end Go.Proofs.Ytfefkchjhooloaa

/-
  Rows cleared by others (layers 7 and 8), in plain lists: what the document's answers reckon. No program in this text.
-/
set_option maxRecDepth 100000
namespace Go.Proofs.Ytfefkchjhooloaa
namespace Ro

def less (x : Rw) (c : Nat) (r : Rw) : Rw := (lessV c x.1 x.2 r.1 r.2, lessD c x.1 x.2 r.1 r.2)
def norm (x : Rw) : Rw := (Gf.scale (normC x.1) x.1, Gf.scale (normC x.1) x.2)
/-- What is left, row by row. -/
def step (x r : Rw) : Rw := less x (nth x.1 (lead r.1)) r
def rest (L : List Rw) (x : Rw) : Rw := L.foldl step x
/-- How many rows lead ahead of it. -/
def ahead (L : List Rw) (x : Rw) : Nat := (L.takeWhile fun r => decide (lead r.1 < lead x.1)).length
def put (L : List Rw) (y : Rw) : List Rw := L.take (ahead L y) ++ y :: L.drop (ahead L y)
def insert (L : List Rw) (x : Rw) : List Rw := if lead (norm (rest L x)).1 < (norm (rest L x)).1.length then put L (norm (rest L x)) else L
/-- All inserted, one by one. -/
def all (L : List Rw) : List Rw := L.foldl insert []

end Ro
end Go.Proofs.Ytfefkchjhooloaa

/-
  The document's answer for grids (wellspringref07), in the program: 'Rank', 'Turned', 'Mul', 'Of', 'Same'.
-/
set_option maxRecDepth 100000
namespace Go.Proofs.Ytfefkchjhooloaa
open Go.RowKit

namespace Ro
/-- Rows without data. -/
def bare (ll : List (List Nat)) : List Rw := ll.map fun l => (l, [])
end Ro

end Go.Proofs.Ytfefkchjhooloaa

/-
  Rows of bytes as vectors: what the document's answers of layers 7 and 8 reckon, said of spans, ranks and determinants. No program in this text.
-/
set_option maxRecDepth 100000
namespace Go.Proofs.Ytfefkchjhooloaa
open La

/-- A byte, as an element of the field. -/
def bt (n : Nat) : B := ⟨n % 256, Nat.mod_lt _ (by decide)⟩
/-- Bytes, as a vector. -/
def fv (l : List Nat) : Vc := fun i => bt (nth l i)

/-! ### Rows: vector and data, one behind the other -/

/-- The vector alone. -/
def f1 (x : Rw) : Vc := fv x.1

end Go.Proofs.Ytfefkchjhooloaa
