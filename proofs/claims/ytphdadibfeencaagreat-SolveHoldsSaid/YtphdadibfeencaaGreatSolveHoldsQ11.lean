/- Texts of one seat, laid together: RedMath, InsA, SoftB. -/
import Derived.Test.YtphdadibfeencaaGreatSolveHoldsQ10
import Derived.Test.YtphdadibfeencaaGreatSolveHoldsQ5
import Derived.Lib.Overlaps
import Derived.Lib.AppendZerosOnto
import Derived.Shelf.RegionOpenPlain

/-
  Rows as the program keeps them: each row that comes in is cleared of the others, and the others of it (layers 7 and 8). No program in this text.
-/
set_option maxRecDepth 100000
namespace Go.Proofs.YtphdadibfeencaaGreat
open La
namespace Ro
/-- Each less as much of a row as it has where that leads. -/
def clean (E : List Rw) (y : Rw) : List Rw := E.map fun o => step o y
/-- The same, of the first ones alone. -/
def cleanK (E : List Rw) (y : Rw) (j : Nat) : List Rw := clean (E.take j) y ++ E.drop j
/-- A row more. -/
def take1 (E : List Rw) (x : Rw) : List Rw := if zeroB (rest E x).1 = true then E else put (clean E (norm (rest E x))) (norm (rest E x))
def redOf (L : List Rw) : List Rw := L.foldl take1 []

theorem clean_length (E : List Rw) (y : Rw) : (clean E y).length = E.length := by simp [clean]
theorem cleanK_zero (E : List Rw) (y : Rw) : cleanK E y 0 = E := by simp [cleanK, clean]
theorem cleanK_all (E : List Rw) (y : Rw) : cleanK E y E.length = clean E y := by simp [cleanK]
theorem cleanK_length (E : List Rw) (y : Rw) (j : Nat) : (cleanK E y j).length = E.length := by simp [cleanK, clean_length]; omega
theorem cleanK_at (E : List Rw) (y : Rw) (j : Nat) : rwAt (cleanK E y j) j = rwAt E j := by
  unfold cleanK rwAt
  by_cases hj : j < E.length
  · rw [List.getD_eq_getElem?_getD, List.getElem?_append_right (by simp [clean_length]; omega), List.getD_eq_getElem?_getD, clean_length, List.length_take, Nat.min_eq_left (by omega), Nat.sub_self, List.getElem?_drop, Nat.add_zero]
  · rw [List.getD_eq_getElem?_getD, List.getD_eq_getElem?_getD, List.getElem?_eq_none (by simp [clean_length]; omega), List.getElem?_eq_none (by omega)]
theorem cleanK_set (E : List Rw) (y : Rw) (j : Nat) (h : j < E.length) : (cleanK E y j).set j (step (rwAt E j) y) = cleanK E y (j + 1) := by
  unfold cleanK
  have e0 : (clean (E.take j) y).length = j := by rw [clean_length, List.length_take, Nat.min_eq_left (by omega)]
  rw [List.set_append_right _ _ (by omega), e0, Nat.sub_self, List.drop_eq_getElem_cons h, List.set_cons_zero, take_rwAt E j h]
  unfold clean
  rw [List.map_append, List.append_assoc]
  rfl
theorem clean_mem {E : List Rw} {y r : Rw} (h : r ∈ clean E y) : ∃ o, o ∈ E ∧ step o y = r := List.mem_map.1 h
theorem take1_length (E : List Rw) (x : Rw) : (take1 E x).length ≤ E.length + 1 := by
  unfold take1; split
  · omega
  · rw [put_length, clean_length]; exact Nat.le_refl _
theorem redOf_snoc (L : List Rw) (x : Rw) : redOf (L ++ [x]) = take1 (redOf L) x := by unfold redOf; rw [List.foldl_append]; rfl
theorem redOf_take (L : List Rw) (n : Nat) (h : n < L.length) : redOf (L.take (n + 1)) = take1 (redOf (L.take n)) (rwAt L n) := by rw [take_rwAt L n h, redOf_snoc]
theorem redOf_length (L : List Rw) : ∀ n, n ≤ L.length → (redOf (L.take n)).length ≤ n
  | 0, _ => Nat.le_refl _
  | n + 1, h => by rw [redOf_take L n h]; exact Nat.le_trans (take1_length _ _) (by have := redOf_length L n (by omega); omega)
end Ro

theorem RedR.nil (k t : Nat) : RedR k t [] := ⟨Ro.Up.nil k t, fun i j hi => by simp at hi⟩
theorem RedR.of_mem {k t : Nat} {E : List Rw} (hU : Ro.Up k t E) (h : ∀ r, r ∈ E → ∀ s, s ∈ E → lead r.1 ≠ lead s.1 → nth r.1 (lead s.1) = 0) : RedR k t E :=
  ⟨hU, fun i j hi hj hij => h _ (rwAt_mem hi) _ (rwAt_mem hj) (hU.fine.apart i j hi hj hij)⟩
theorem rw_mem {E : List Rw} {r : Rw} (h : r ∈ E) : ∃ i, i < E.length ∧ rwAt E i = r := by
  obtain ⟨i, hi, rfl⟩ := List.mem_iff_getElem.1 h
  exact ⟨i, hi, rwAt_eq E i hi⟩
theorem RedR.mem {k t : Nat} {E : List Rw} (h : RedR k t E) {r s : Rw} (hr : r ∈ E) (hs : s ∈ E) (hne : lead r.1 ≠ lead s.1) : nth r.1 (lead s.1) = 0 := by
  obtain ⟨i, hi, rfl⟩ := rw_mem hr
  obtain ⟨j, hj, rfl⟩ := rw_mem hs
  exact h.clear i j hi hj fun e => hne (by rw [e])
theorem rest_mem {k t : Nat} {E : List Rw} (h : RedR k t E) {x s : Rw} (hx : Ro.Dim k t x) (hs : s ∈ E) : nth (Ro.rest E x).1 (lead s.1) = 0 := by
  obtain ⟨j, hj, rfl⟩ := rw_mem hs
  exact rest_clear h hx hj
theorem scale_nth0 {c : Nat} {l : List Nat} {i : Nat} (h : nth l i = 0) : nth (Gf.scale c l) i = 0 := by
  unfold nth Gf.scale at *
  rw [List.getD_eq_getElem?_getD, List.getElem?_map]
  rw [List.getD_eq_getElem?_getD] at h
  cases he : l[i]? with
  | none => rfl
  | some z =>
    rw [he] at h
    simp only [Option.getD_some] at h
    subst h
    show Gf.mul c 0 = 0
    exact Gf.mul_zero _

/-- What is known of the row that is put in. -/
structure Newr (k t : Nat) (E : List Rw) (y : Rw) : Prop where
  dim : Ro.Dim k t y
  lead : lead y.1 < y.1.length
  one : nth y.1 (Go.Proofs.YtphdadibfeencaaGreat.lead y.1) = 1
  zero : ∀ s, s ∈ E → nth y.1 (Go.Proofs.YtphdadibfeencaaGreat.lead s.1) = 0

theorem newr_rest {k t : Nat} {E : List Rw} (h : RedR k t E) {x : Rw} (hx : Ro.Dim k t x) (hz : zeroB (Ro.rest E x).1 = false) : Newr k t E (Ro.norm (Ro.rest E x)) := by
  have hr := Ro.rest_dim h.up.dims hx
  have hl : lead (Ro.rest E x).1 < (Ro.rest E x).1.length := by
    refine Decidable.byContradiction fun hn => ?_
    rw [zeroB_lead.2 hn] at hz; cases hz
  have hll : (Ro.norm (Ro.rest E x)).1.length = (Ro.rest E x).1.length := by show (Gf.scale _ _).length = _; rw [Gf.scale_length]
  refine ⟨Ro.norm_dim hr, by rw [Ro.norm_lead hr, hll]; exact hl, by rw [Ro.norm_lead hr]; exact norm_at hr.2.2.1 hl, fun s hs => ?_⟩
  exact scale_nth0 (rest_mem h hx hs)
theorem Newr.ne {k t : Nat} {E : List Rw} {y : Rw} (h : Newr k t E y) {s : Rw} (hs : s ∈ E) : Go.Proofs.YtphdadibfeencaaGreat.lead s.1 ≠ Go.Proofs.YtphdadibfeencaaGreat.lead y.1 := fun e => by
  have h0 := h.zero s hs
  rw [e, h.one] at h0; cases h0
theorem clean_lead {k t : Nat} {E : List Rw} (h : RedR k t E) {y : Rw} (hy : Newr k t E y) {o : Rw} (ho : o ∈ E) : lead (Ro.step o y).1 = lead o.1 :=
  Ro.step_lead (h.up.dims o ho) hy.dim (h.up.leads o ho) (hy.ne ho)
theorem lead_lt_k {k t : Nat} {E : List Rw} (h : RedR k t E) {o : Rw} (ho : o ∈ E) : lead o.1 < k := by rw [← (h.up.dims o ho).1]; exact h.up.leads o ho
theorem Newr.lt {k t : Nat} {E : List Rw} {y : Rw} (h : Newr k t E y) : Go.Proofs.YtphdadibfeencaaGreat.lead y.1 < k := by rw [← h.dim.1]; exact h.lead

theorem clean_up {k t : Nat} {E : List Rw} (h : RedR k t E) {y : Rw} (hy : Newr k t E y) : Ro.Up k t (Ro.clean E y) := by
  refine ⟨fun r hr => ?_, fun r hr => ?_, ?_, fun r hr => ?_⟩
  · obtain ⟨o, ho, rfl⟩ := Ro.clean_mem hr
    exact Ro.step_dim (h.up.dims o ho) hy.dim
  · obtain ⟨o, ho, rfl⟩ := Ro.clean_mem hr
    rw [clean_lead h hy ho, (Ro.step_dim (h.up.dims o ho) hy.dim).1]; exact lead_lt_k h ho
  · unfold Ro.clean
    rw [List.pairwise_map]
    exact List.Pairwise.imp_of_mem (fun {a b} ha hb hab => by rw [clean_lead h hy ha, clean_lead h hy hb]; exact hab) h.up.rise
  · obtain ⟨o, ho, rfl⟩ := Ro.clean_mem hr
    rw [clean_lead h hy ho, Ro.step_nth (h.up.dims o ho) hy.dim (lead_lt_k h ho), hy.zero o ho, Gf.mul_zero, Nat.zero_xor]
    exact h.up.one o ho
/-- Cleared, and the new row among them: reduced. -/
theorem put_red {k t : Nat} {E : List Rw} (h : RedR k t E) {y : Rw} (hy : Newr k t E y) : RedR k t (Ro.put (Ro.clean E y) y) := by
  have hU := clean_up h hy
  refine RedR.of_mem (Ro.put_up hU hy.dim hy.lead hy.one fun r hr => ?_) fun r hr s hs hne => ?_
  · obtain ⟨o, ho, rfl⟩ := Ro.clean_mem hr
    rw [clean_lead h hy ho]; exact hy.ne ho
  · rw [put_mem_iff, List.mem_cons] at hr hs
    rcases hr with rfl | hr
    · rcases hs with rfl | hs
      · exact absurd rfl hne
      · obtain ⟨o, ho, rfl⟩ := Ro.clean_mem hs
        rw [clean_lead h hy ho]; exact hy.zero o ho
    · obtain ⟨o, ho, rfl⟩ := Ro.clean_mem hr
      rcases hs with rfl | hs
      · rw [Ro.step_nth (h.up.dims o ho) hy.dim hy.lt, hy.one, Gf.mul_one (nth_lt (h.up.dims o ho).2.2.1 _), Nat.xor_self]
      · obtain ⟨p, hp, rfl⟩ := Ro.clean_mem hs
        rw [clean_lead h hy ho, clean_lead h hy hp] at hne
        rw [clean_lead h hy hp, Ro.step_nth (h.up.dims o ho) hy.dim (lead_lt_k h hp), hy.zero p hp, Gf.mul_zero, Nat.zero_xor]
        exact h.mem ho hp hne
theorem take1_red {k t : Nat} {E : List Rw} (h : RedR k t E) {x : Rw} (hx : Ro.Dim k t x) : RedR k t (Ro.take1 E x) := by
  unfold Ro.take1
  split
  · exact h
  · rename_i hz
    exact put_red h (newr_rest h hx (by simpa using hz))

/-- Cleared of a row, with it: the same span. -/
theorem clean_span {E : List Rw} {y : Rw} {f : Rw → Vc} (hf : ∀ o, o ∈ E → ∃ c : B, f (Ro.step o y) = va (vs c (f y)) (f o)) {v : Vc} : Sp (f y :: (Ro.clean E y).map f) v ↔ Sp (f y :: E.map f) v := by
  constructor
  · intro hv
    refine hv.mono fun u hu => ?_
    rcases List.mem_cons.1 hu with rfl | hu
    · exact Sp.mem List.mem_cons_self
    · obtain ⟨r, hr, rfl⟩ := List.mem_map.1 hu
      obtain ⟨o, ho, rfl⟩ := Ro.clean_mem hr
      obtain ⟨c, hc⟩ := hf o ho
      rw [hc]
      exact (Sp.mem List.mem_cons_self).smul c |>.add (Sp.mem (List.mem_cons_of_mem _ (List.mem_map.2 ⟨o, ho, rfl⟩)))
  · intro hv
    refine hv.mono fun u hu => ?_
    rcases List.mem_cons.1 hu with rfl | hu
    · exact Sp.mem List.mem_cons_self
    · obtain ⟨o, ho, rfl⟩ := List.mem_map.1 hu
      obtain ⟨c, hc⟩ := hf o ho
      have h1 : Sp (f y :: (Ro.clean E y).map f) (f (Ro.step o y)) := Sp.mem (List.mem_cons_of_mem _ (List.mem_map.2 ⟨_, List.mem_map.2 ⟨o, ho, rfl⟩, rfl⟩))
      rw [hc] at h1
      exact (Sp.lin _).of_sum ((Sp.mem List.mem_cons_self).smul c) h1
theorem clean_1 {k t : Nat} {E : List Rw} (hD : Ro.Dims k t E) {y : Rw} (hy : Ro.Dim k t y) : ∀ o, o ∈ E → ∃ c : B, f1 (Ro.step o y) = va (vs c (f1 y)) (f1 o) := fun o ho => ⟨_, f1_less (nth_lt (hD o ho).2.2.1 _) (hD o ho) hy⟩

theorem take1_span1 {k t : Nat} {E : List Rw} (h : RedR k t E) {x : Rw} (hx : Ro.Dim k t x) {v : Vc} : Sp ((Ro.take1 E x).map f1) v ↔ Sp (f1 x :: E.map f1) v := by
  have hr := Ro.rest_dim h.up.dims hx
  have hsp := (rest_span h.up.dims hx).2
  unfold Ro.take1
  split
  · rename_i hz
    have hz' : f1 (Ro.rest E x) = v0 := (fv_zero hr.2.2.1).2 hz
    rw [hz', va_zero] at hsp
    exact ⟨fun h => h.sub fun y hy => List.mem_cons_of_mem _ hy, fun h => h.mono fun y hy => by
      rcases List.mem_cons.1 hy with rfl | hy
      · exact hsp
      · exact Sp.mem hy⟩
  · rw [put_map, clean_span (clean_1 h.up.dims (Ro.norm_dim hr)), f1_norm hr]
    exact sp_replace normC_bt hsp
theorem redOf_red {k t : Nat} {L : List Rw} (hD : Ro.Dims k t L) : ∀ n, n ≤ L.length → RedR k t (Ro.redOf (L.take n)) ∧ ∀ v, Sp ((Ro.redOf (L.take n)).map f1) v ↔ Sp ((L.take n).map f1) v
  | 0, _ => ⟨RedR.nil k t, fun _ => Iff.rfl⟩
  | n + 1, h => by
    obtain ⟨h1, h2⟩ := redOf_red hD n (by omega)
    have hx := hD.at (show n < L.length by omega)
    rw [Ro.redOf_take L n h]
    refine ⟨take1_red h1 hx, fun v => ?_⟩
    rw [take1_span1 h1 hx, take_rwAt L n h, sp_snoc]
    exact sp_cons_congr h2

/-- Where the row belongs, found by looking from both sides. -/
theorem ahead_found {k t : Nat} {E : List Rw} (hU : Ro.Up k t E) {y : Rw} (hne : ∀ s, s ∈ E → lead s.1 ≠ lead y.1) {r : Nat} (hr : r ≤ E.length) (h0 : 0 < r → ¬ lead y.1 < lead (rwAt E (r - 1)).1) (h1 : r < E.length → lead y.1 ≤ lead (rwAt E r).1) : Ro.ahead E y = r := by
  refine Ro.ahead_eq hr (fun i hi => ?_) ?_
  · have hlast : lead (rwAt E (r - 1)).1 < lead y.1 := by
      have := h0 (by omega)
      have := hne _ (rwAt_mem (show r - 1 < E.length by omega))
      omega
    by_cases he : i = r - 1
    · rw [he]; exact hlast
    · have := List.pairwise_iff_getElem.1 hU.rise i (r - 1) (by omega) (by omega) (by omega)
      rw [← rwAt_eq E i (by omega), ← rwAt_eq E (r - 1) (by omega)] at this
      omega
  · by_cases he : r = E.length
    · exact .inl he
    · right
      have := h1 (by omega)
      omega

end Go.Proofs.YtphdadibfeencaaGreat

/-
  One element put into a slice at a place, in memory: what the two copies of slices.Insert make of a block of whatever elements. No function of the program in this text.
-/
set_option maxRecDepth 100000
namespace Go.Proofs.YtphdadibfeencaaGreat
open Go.RowKit

theorem loose_of_row {W : World} {g : Nat} {cs : Array Value} {e : TypeId} {fr : Nat × Nat} (h : W.heap[g]? = some (.cells cs e fr)) (hn : ∀ u ∈ cs.toList, ∀ k : Nat, u ≠ U8 k) : Loose W g := by
  intro j k hj
  rw [cell_of_row W g j cs e fr h, ← Array.getElem?_toList] at hj
  exact hn _ (List.mem_of_getElem? hj) k rfl
theorem row_of_loose {W : World} {g : Nat} {cs : Array Value} {e : TypeId} {fr : Nat × Nat} (h : W.heap[g]? = some (.cells cs e fr)) (hl : Loose W g) : ∀ u ∈ cs.toList, ∀ k : Nat, u ≠ U8 k := by
  intro u hu k e2
  obtain ⟨j, hj⟩ := List.mem_iff_getElem?.1 hu
  refine hl j k ?_
  rw [cell_of_row W g j cs e fr h, ← Array.getElem?_toList, hj, e2]

/-- A list with cells written over, from a place on. -/
def wr (cur : List Value) (o : Nat) (cs : List Value) : List Value := cur.take o ++ cs ++ cur.drop (o + cs.length)
theorem wr_length {cur cs : List Value} {o : Nat} (h : o + cs.length ≤ cur.length) : (wr cur o cs).length = cur.length := by
  unfold wr; simp; omega
/-- What both copies leave, in whatever order. -/
def insd (cur : List Value) (o : Nat) (N D : List Value) : List Value := cur.take o ++ N ++ D ++ cur.drop (o + N.length + D.length)
theorem wr_fwd {cur N D : List Value} {o : Nat} (h : o + N.length + D.length ≤ cur.length) : wr (wr cur o N) (o + N.length) D = insd cur o N D := by
  have e1 : (wr cur o N).take (o + N.length) = cur.take o ++ N := by
    unfold wr
    rw [List.take_append_of_le_length (by simp; omega), List.take_of_length_le (by simp; omega)]
  have e2 : (wr cur o N).drop (o + N.length + D.length) = cur.drop (o + N.length + D.length) := by
    unfold wr
    rw [List.drop_append, List.drop_of_length_le (by simp; omega), List.nil_append, List.drop_drop]
    congr 1
    simp; omega
  unfold insd
  rw [show wr (wr cur o N) (o + N.length) D = (wr cur o N).take (o + N.length) ++ D ++ (wr cur o N).drop (o + N.length + D.length) from rfl, e1, e2]
theorem wr_back {cur N D : List Value} {o : Nat} (h : o + N.length + D.length ≤ cur.length) : wr (wr cur (o + N.length) D) o N = insd cur o N D := by
  have e1 : (wr cur (o + N.length) D).take o = cur.take o := by
    unfold wr
    rw [List.append_assoc, List.take_append_of_le_length (by simp; omega), List.take_take, Nat.min_eq_left (by omega)]
  have e2 : (wr cur (o + N.length) D).drop (o + N.length) = D ++ cur.drop (o + N.length + D.length) := by
    unfold wr
    rw [List.append_assoc, List.drop_append, List.drop_of_length_le (by simp; omega), List.nil_append]
    have : o + N.length - (List.take (o + N.length) cur).length = 0 := by simp; omega
    rw [this, List.drop_zero]
  unfold insd
  rw [show wr (wr cur (o + N.length) D) o N = (wr cur (o + N.length) D).take o ++ N ++ (wr cur (o + N.length) D).drop (o + N.length) from rfl, e1, e2]
  simp [List.append_assoc]
theorem insd_length {cur N D : List Value} {o : Nat} (h : o + N.length + D.length ≤ cur.length) : (insd cur o N D).length = cur.length := by
  unfold insd; simp; omega
theorem insd_take {cur N D A : List Value} {o m : Nat} (hA : cur.take o = A) (ho : A.length = o) (hm : m = o + N.length + D.length) : (insd cur o N D).take m = A ++ N ++ D := by
  unfold insd
  rw [hA, List.take_append_of_le_length (by simp; omega), List.take_of_length_le (by simp; omega)]
theorem insd_mem {cur N D : List Value} {o : Nat} {u : Value} (h : u ∈ insd cur o N D) : u ∈ cur ∨ u ∈ N ∨ u ∈ D := by
  unfold insd at h
  simp only [List.mem_append] at h
  rcases h with ((h | h) | h) | h
  · exact .inl (List.mem_of_mem_take h)
  · exact .inr (.inl h)
  · exact .inr (.inr h)
  · exact .inl (List.mem_of_mem_drop h)

/-- 'copy', of elements of whatever size, into a block that isn't frozen: all is read before anything is written. -/
theorem run_copy_rowN {P : Program} (w : World) (dT sT ty elem : TypeId) (g o dLen dCap : Nat) (a : Addr) (sLen sCap : Nat) (cur : Array Value) (t : TypeId) (cs : List Value) (size m : Nat)
    (hu : P.underlying dT = some (.slice elem)) (hs : (P.info? elem).map (·.size) = some size)
    (hg : w.heap[g]? = some (.cells cur t (0, 0))) (hm : m = Nat.min sLen dLen) (hn : cs.length = m * size)
    (hsrc : ∀ j v, cs[j]? = some v → w.cell? (a.add j) = some v) (hfit : o + cs.length ≤ cur.size) (h1 : ∀ v ∈ cs, v.oneCell' = true) :
    (Builtin.copy_ #[dT, sT] ty #[.slice (some ⟨g, o, none⟩) dLen dCap, .slice (some a) sLen sCap]).run P w =
      .ok (goInt m) (w.setRow g (wr cur.toList o cs).toArray) := by
  have hl := run_loadCells_list (P := P) w a cs hsrc
  have hst := run_storeCells_at P g o t cs 0 cur w hg (by simpa using hfit) h1
  cases hq : P.info? elem with
  | none => simp [hq] at hs
  | some i =>
    have hi : i.size = size := by simpa [hq] using hs
    simp [Builtin.copy_, run_underlying hu, Builtin.lenOf, Builtin.firstCells, sizeOf, typeInfo, hq, hi, ← hm, ← hn, hl, hst, wr]

/-- The first cells of a slice, where these are given. -/
theorem firstCells_take {P : Program} (w : World) (size i : Nat) (b : Addr) (cap : Nat) (xs : List Value) (n : Nat) (hx : xs.length = n * size) (hi : i ≤ n) (h : ∀ j v, xs[j]? = some v → w.cell? (b.add j) = some v) :
    (Builtin.firstCells size i (.slice (some b) i cap)).run P w = .ok (xs.take (i * size)).toArray w :=
  run_firstCells_some w size i b i cap _ (by rw [List.length_take, hx]; exact Nat.min_eq_left (Nat.mul_le_mul_right _ hi)) fun j v hj => by
    rw [List.getElem?_take] at hj
    split at hj
    · exact h j v hj
    · cases hj

/-- The block that both copies wrote in place. -/
theorem own_insd {w w' : World} {B g n cap i size : Nat} {T : TypeId} {xs N : List Value} {cur : Array Value} (h : OwnN w B T size (.slice (some ⟨g, 0, none⟩) n cap) n xs) (hg : w.heap[g]? = some (.cells cur T (0, 0))) (hi : i ≤ n) (hroom : n + 1 ≤ cap)
    (hN : N.length = size) (hnn : ∀ u ∈ N, ∀ k : Nat, u ≠ U8 k) (hw : w'.heap = (w.setRow g (insd cur.toList (i * size) N (xs.drop (i * size))).toArray).heap) (hos : w'.os = w.os) (htp : w'.tape = w.tape) (hout : w'.output = w.output) :
    OwnN w' B T size (.slice (some ⟨g, 0, none⟩) (n + 1) cap) (n + 1) (xs.take (i * size) ++ N ++ xs.drop (i * size)) ∧ w.grownBy w' (some g) ∧ Soft w w' := by
  obtain ⟨⟨hx, h2⟩, hlo⟩ := h
  rcases h2 with ⟨e, _⟩ | ⟨g', cap', cur', e, hB, hg', hnc, hcm, hcs, htake⟩
  · cases e
  simp only [Value.slice.injEq, Option.some.injEq, Addr.mk.injEq, and_true, true_and] at e
  obtain ⟨rfl, rfl⟩ := e
  rw [hg] at hg'
  simp only [Option.some.injEq, Obj.cells.injEq, and_true] at hg'
  obtain rfl := hg'
  have hlo' := hlo g rfl
  have hcur := row_of_loose hg hlo'
  have him : i * size ≤ n * size := Nat.mul_le_mul_right _ hi
  have hsz : (n + 1) * size ≤ cap * size := Nat.mul_le_mul_right _ hroom
  rw [Nat.add_mul, Nat.one_mul] at hsz
  have hcl : cur.toList.length = cap * size := by rw [Array.length_toList]; exact hcs
  have hdl : (xs.drop (i * size)).length = n * size - i * size := by rw [List.length_drop, hx]
  have htk : cur.toList.take (i * size) = xs.take (i * size) := by rw [← htake, List.take_take, Nat.min_eq_left him]
  have hfit : i * size + N.length + (xs.drop (i * size)).length ≤ cur.toList.length := by rw [hdl, hN, hcl]; omega
  have hheap : w'.heap[g]? = some (.cells (insd cur.toList (i * size) N (xs.drop (i * size))).toArray T (0, 0)) := by rw [hw]; exact setRow_heap w g cur _ T _ hg
  have hxu : ∀ u ∈ xs, ∀ k : Nat, u ≠ U8 k := fun u hu k => hcur u (by rw [← htake] at hu; exact List.mem_of_mem_take hu) k
  have hlo2 : Loose w' g := loose_of_row hheap fun u hu k => by
    rcases insd_mem hu with h | h | h
    · exact hcur u h k
    · exact hnn u h k
    · exact hxu u (List.mem_of_mem_drop h) k
  have hgr : w.grownBy w' (some g) := ⟨hos, htp, hout, by rw [hw, setRow_size]; exact Nat.le_refl _, fun k hk hne => by rw [hw]; exact setRow_other w g k _ (by intro e; rw [e] at hne; exact hne rfl)⟩
  refine ⟨⟨⟨?_, .inr ⟨g, cap, _, rfl, hB, hheap, hroom, hcm, ?_, ?_⟩⟩, fun k e => ?_⟩, hgr, Soft.of_grown hgr fun k e => ?_⟩
  · rw [List.length_append, List.length_append, hdl, hN, List.length_take, hx, Nat.min_eq_left him, Nat.add_mul, Nat.one_mul]; omega
  · have := insd_length (cur := cur.toList) (N := N) (D := xs.drop (i * size)) (o := i * size) hfit
    simp only [List.size_toArray]
    rw [this, hcl]
  · refine insd_take htk (by rw [List.length_take, hx, Nat.min_eq_left him]) ?_
    rw [hN, hdl, Nat.add_mul, Nat.one_mul]; omega
  · simp only [Value.ownBlock, Option.some.injEq] at e
    subst e; exact hlo2
  · simp only [Option.some.injEq] at e
    subst e; exact ⟨hlo', hlo2⟩

/-- A new block that both copies wrote. -/
theorem own_insnew {w w' : World} {B g n cap c2 i size : Nat} {T : TypeId} {xs N : List Value} {cur : Array Value} (h : OwnN w B T size (.slice (some ⟨g, 0, none⟩) n cap) n xs) (hi : i ≤ n) (hB : B ≤ w.heap.size) (hroom : n + 1 ≤ c2) (hcm : c2 ≤ maxLen)
    (hN : N.length = size) (hnn : ∀ u ∈ N, ∀ k : Nat, u ≠ U8 k) (hcur : ∀ u ∈ cur.toList, ∀ k : Nat, u ≠ U8 k) (hcs : cur.size = c2 * size) (htk : cur.toList.take (i * size) = xs.take (i * size))
    (hheap : w'.heap[w.heap.size]? = some (.cells (insd cur.toList (i * size) N (xs.drop (i * size))).toArray T (0, 0))) (hb : Below w.heap.size w w') :
    OwnN w' B T size (.slice (some ⟨w.heap.size, 0, none⟩) (n + 1) c2) (n + 1) (xs.take (i * size) ++ N ++ xs.drop (i * size)) ∧ w.grownBy w' (some g) ∧ Soft w w' := by
  obtain ⟨⟨hx, h2⟩, hlo⟩ := h
  have hxu : ∀ u ∈ xs, ∀ k : Nat, u ≠ U8 k := by
    rcases h2 with ⟨e, _⟩ | ⟨g', cap', cur', e, hB, hg', hnc, hcm, hcs, htake⟩
    · cases e
    · simp only [Value.slice.injEq, Option.some.injEq, Addr.mk.injEq, and_true, true_and] at e
      obtain ⟨rfl, rfl⟩ := e
      intro u hu k
      rw [← htake] at hu
      exact row_of_loose hg' (hlo g rfl) u (List.mem_of_mem_take hu) k
  have him : i * size ≤ n * size := Nat.mul_le_mul_right _ hi
  have hsz : (n + 1) * size ≤ c2 * size := Nat.mul_le_mul_right _ hroom
  rw [Nat.add_mul, Nat.one_mul] at hsz
  have hcl : cur.toList.length = c2 * size := by rw [Array.length_toList]; exact hcs
  have hdl : (xs.drop (i * size)).length = n * size - i * size := by rw [List.length_drop, hx]
  have hfit : i * size + N.length + (xs.drop (i * size)).length ≤ cur.toList.length := by rw [hdl, hN, hcl]; omega
  refine ⟨⟨⟨?_, .inr ⟨w.heap.size, c2, _, rfl, hB, hheap, hroom, hcm, ?_, ?_⟩⟩, fun k e => ?_⟩, grown_of_below hb _, Soft.of_below hb⟩
  · rw [List.length_append, List.length_append, hdl, hN, List.length_take, hx, Nat.min_eq_left him, Nat.add_mul, Nat.one_mul]; omega
  · have := insd_length (cur := cur.toList) (N := N) (D := xs.drop (i * size)) (o := i * size) hfit
    simp only [List.size_toArray]
    rw [this, hcl]
  · refine insd_take htk (by rw [List.length_take, hx, Nat.min_eq_left him]) ?_
    rw [hN, hdl, Nat.add_mul, Nat.one_mul]; omega
  · simp only [Value.ownBlock, Option.some.injEq] at e
    subst e
    exact loose_of_row hheap fun u hu k => by
      rcases insd_mem hu with h | h | h
      · exact hcur u h k
      · exact hnn u h k
      · exact hxu u (List.mem_of_mem_drop h) k

end Go.Proofs.YtphdadibfeencaaGreat

/-
  A list that a call appends to: it lies where it lay, or in a new block.
-/
set_option maxRecDepth 100000
namespace Go.Proofs.YtphdadibfeencaaGreat
open Go.RowKit

/-- The slice lies where it lay, or in what is newer than the world. -/
def Near (w : World) (v v' : Value) : Prop := v'.ownBlock = v.ownBlock ∨ ∀ k, v'.ownBlock = some k → w.heap.size ≤ k
theorem Near.same (w : World) {v v' : Value} (h : v'.ownBlock = v.ownBlock) : Near w v v' := .inl h
theorem Near.new (w : World) (n c : Nat) (v : Value) : Near w v (.slice (some ⟨w.heap.size, 0, none⟩) n c) := .inr fun k e => by
  simp only [Value.ownBlock, Option.some.injEq] at e
  omega
theorem Near.trans {a b : World} {u v x : Value} (h : Near a u v) (k : Near b v x) (hs : a.heap.size ≤ b.heap.size) : Near a u x := by
  rcases k with k | k
  · rcases h with h | h
    · exact .inl (k.trans h)
    · exact .inr fun j e => h j (k ▸ e)
  · exact .inr fun j e => Nat.le_trans hs (k j e)

theorem append_near {P : Program} (w : World) (B : Nat) (t ty e : TypeId) (i : TypeInfo) (z : Value) (size bytes : Nat) (ht : P.underlying t = some (.slice e)) (hi : P.info? e = some i) (hz : i.zero = some z)
    (hsize : i.size = size) (hby : i.bytes = bytes) (hsz : 0 < size)
    (v : Value) (n : Nat) (xs : List Value) (hown : w.ownsRow B e size v n xs)
    (a : Addr) (m c : Nat) (news : List Value) (hl : news.length = m * size) (hnews : ∀ j u, news[j]? = some u → w.cell? (a.add j) = some u) (h1 : ∀ u ∈ news, u.oneCell' = true)
    (h63 : n + m ≤ maxLen) (hbytes : (n + m) * bytes ≤ 140737488355328) {v' : Value} {w' : World}
    (hr : (Builtin.append_ #[t, t] ty #[v, .slice (some a) m c]).run P w = .ok v' w') : Near w v v' := by
  subst hsize
  subst hby
  rcases hown.2 with ⟨rfl, rfl⟩ | ⟨g0, cap, cur, rfl, hbg, hg0, hnc, hcm, hcs, htake⟩
  · by_cases hm : m = 0
    · subst hm
      have e2 : (Builtin.append_ #[t, t] ty #[.slice none 0 0, .slice (some a) 0 c]).run P w = .ok (.slice none 0 0) w := by
        simp [Builtin.append_, run_underlying ht, sizeOf, typeInfo, hi, Builtin.lenOf, Builtin.firstCells, loadCells, loadCellsFrom]
      rw [e2] at hr
      simp only [Result.ok.injEq] at hr
      rw [← hr.1]; exact .inl rfl
    · have hr2 := run_append_nil (P := P) w t ty e i z ht hi hz a m c news hl hnews (by omega) (by simp only [maxLen] at h63; omega) (by have hb := hbytes; simp only [Nat.zero_add] at hb; omega)
      rw [hr2] at hr
      simp only [Result.ok.injEq] at hr
      rw [← hr.1]; exact Near.new w _ _ _
  · by_cases hroom : n + m ≤ cap
    · have hfit : n * i.size + news.length ≤ cur.size := by rw [hl, hcs, ← Nat.add_mul]; exact Nat.mul_le_mul_right _ hroom
      have hr2 := run_append_room (P := P) w t ty e i ht hi g0 n cap cur hg0 a m c news hl hnews h1 hroom hfit
      rw [hr2] at hr
      simp only [Result.ok.injEq] at hr
      rw [← hr.1]; exact .inl rfl
    · have holds : ∀ j u, xs[j]? = some u → w.cell? ((⟨g0, 0, none⟩ : Addr).add j) = some u := World.ownsRow.cells hown (g := g0) rfl
      have hr2 := run_append_grow (P := P) w t ty e i z ht hi hz ⟨g0, 0, none⟩ n cap xs hown.1 holds a m c news hl hnews (by omega) (by simp only [maxLen] at h63; omega) (growslice_fits (by omega) hbytes)
      rw [hr2] at hr
      simp only [Result.ok.injEq] at hr
      rw [← hr.1]; exact Near.new w _ _ _

theorem wpList_append_near {P : Program} {w : World} {ops : Array Oper} {rest : List Oper} {o : Oper} {a : Act} {Q : Exit → Act → World → Prop} (hgd : o.guard = none) (s x : Operand) (t : TypeId)
    (ho : o.op = .call { callee := .builtin .append, args := #[s, x], argTypes := #[t, t] })
    (B : Nat) (e : TypeId) (i : TypeInfo) (z : Value) (size bytes : Nat) (ht : P.underlying t = some (.slice e)) (hi : P.info? e = some i) (hz : i.zero = some z)
    (hsize : i.size = size) (hby : i.bytes = bytes) (hzs : z.cells.size = size) (hsz : 0 < size)
    (v : Value) (n : Nat) (xs : List Value) (hs : a.eval s = v) (hown : OwnN w B e size v n xs)
    (ad : Addr) (m c : Nat) (news : List Value) (hx : a.eval x = .slice (some ad) m c) (hl : news.length = m * size) (hnews : ∀ j u, news[j]? = some u → w.cell? (ad.add j) = some u) (h1 : ∀ u ∈ news, u.oneCell' = true)
    (hzn : ∀ u ∈ z.cells.toList, ∀ k : Nat, u ≠ U8 k) (hnn : ∀ u ∈ news, ∀ k : Nat, u ≠ U8 k)
    (h63 : n + m ≤ maxLen) (hbytes : (n + m) * bytes ≤ 140737488355328) (hbase : B ≤ w.heap.size)
    (h : ∀ v' w', OwnN w' B e size v' (n + m) (xs ++ news) → w.grownBy w' v.ownBlock → Soft w w' → Near w v v' → wpList P ops Q rest (a.put o.dst v') w') : wpList P ops Q (o :: rest) a w := by
  refine wpList_plain hgd fun K hK => ?_
  obtain ⟨v', w', hrun, h2, h3, h4⟩ := run_append_soft (P := P) w B t o.type e i z size bytes ht hi hz hsize hby hzs hsz v n xs hown ad m c news hl hnews h1 hzn hnn h63 hbytes hbase
  unfold Oper.wp
  simp only [execOp, ho, resolve, invoke, builtin, Sem.run_bind, Sem.run_pure, Result.andThen_ok, List.map_toArray, List.map_cons, List.map_nil, hs, hx, hrun]
  exact hK _ _ (h v' w' h2 h3 h4 (append_near (P := P) w B t o.type e i z size bytes ht hi hz hsize hby hsz v n xs hown.1 ad m c news hl hnews h1 h63 hbytes hrun))

end Go.Proofs.YtphdadibfeencaaGreat
