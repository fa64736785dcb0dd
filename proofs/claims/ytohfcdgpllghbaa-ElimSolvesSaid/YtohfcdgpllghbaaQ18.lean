/- Texts of one seat, laid together: RedMath, GridB, GridC. -/
import Derived.Test.YtohfcdgpllghbaaQ17
import Derived.Test.YtohfcdgpllghbaaQ16
import Derived.Test.YtohfcdgpllghbaaQ13

/-
  Rows as the program keeps them: each row that comes in is cleared of the others, and the others of it (layers 7 and 8). No program in this text.
-/
set_option maxRecDepth 100000
namespace Go.Proofs.Ytohfcdgpllghbaa
open La
namespace Ro
/-- Each less as much of a row as it has where that leads. -/
def clean (E : List Rw) (y : Rw) : List Rw := E.map fun o => step o y
/-- The same, of the first ones alone. -/
def cleanK (E : List Rw) (y : Rw) (j : Nat) : List Rw := clean (E.take j) y ++ E.drop j
/-- A row more. -/
def take1 (E : List Rw) (x : Rw) : List Rw := if zeroB (rest E x).1 = true then E else put (clean E (norm (rest E x))) (norm (rest E x))
def redOf (L : List Rw) : List Rw := L.foldl take1 []

theorem clean_length (E : List Rw) (y : Rw) : (clean E y).length = E.length := by simp [clean]
theorem cleanK_zero (E : List Rw) (y : Rw) : cleanK E y 0 = E := by simp [cleanK, clean]
theorem cleanK_all (E : List Rw) (y : Rw) : cleanK E y E.length = clean E y := by simp [cleanK]
theorem cleanK_length (E : List Rw) (y : Rw) (j : Nat) : (cleanK E y j).length = E.length := by simp [cleanK, clean_length]; omega
theorem cleanK_at (E : List Rw) (y : Rw) (j : Nat) : rwAt (cleanK E y j) j = rwAt E j := by
  unfold cleanK rwAt
  by_cases hj : j < E.length
  · rw [List.getD_eq_getElem?_getD, List.getElem?_append_right (by simp [clean_length]; omega), List.getD_eq_getElem?_getD, clean_length, List.length_take, Nat.min_eq_left (by omega), Nat.sub_self, List.getElem?_drop, Nat.add_zero]
  · rw [List.getD_eq_getElem?_getD, List.getD_eq_getElem?_getD, List.getElem?_eq_none (by simp [clean_length]; omega), List.getElem?_eq_none (by omega)]
theorem cleanK_set (E : List Rw) (y : Rw) (j : Nat) (h : j < E.length) : (cleanK E y j).set j (step (rwAt E j) y) = cleanK E y (j + 1) := by
  unfold cleanK
  have e0 : (clean (E.take j) y).length = j := by rw [clean_length, List.length_take, Nat.min_eq_left (by omega)]
  rw [List.set_append_right _ _ (by omega), e0, Nat.sub_self, List.drop_eq_getElem_cons h, List.set_cons_zero, take_rwAt E j h]
  unfold clean
  rw [List.map_append, List.append_assoc]
  rfl
theorem clean_mem {E : List Rw} {y r : Rw} (h : r ∈ clean E y) : ∃ o, o ∈ E ∧ step o y = r := List.mem_map.1 h
theorem take1_length (E : List Rw) (x : Rw) : (take1 E x).length ≤ E.length + 1 := by
  unfold take1; split
  · omega
  · rw [put_length, clean_length]; exact Nat.le_refl _
theorem redOf_snoc (L : List Rw) (x : Rw) : redOf (L ++ [x]) = take1 (redOf L) x := by unfold redOf; rw [List.foldl_append]; rfl
theorem redOf_take (L : List Rw) (n : Nat) (h : n < L.length) : redOf (L.take (n + 1)) = take1 (redOf (L.take n)) (rwAt L n) := by rw [take_rwAt L n h, redOf_snoc]
theorem redOf_length (L : List Rw) : ∀ n, n ≤ L.length → (redOf (L.take n)).length ≤ n
  | 0, _ => Nat.le_refl _
  | n + 1, h => by rw [redOf_take L n h]; exact Nat.le_trans (take1_length _ _) (by have := redOf_length L n (by omega); omega)
end Ro

theorem RedR.nil (k t : Nat) : RedR k t [] := ⟨Ro.Up.nil k t, fun i j hi => by simp at hi⟩
theorem RedR.of_mem {k t : Nat} {E : List Rw} (hU : Ro.Up k t E) (h : ∀ r, r ∈ E → ∀ s, s ∈ E → lead r.1 ≠ lead s.1 → nth r.1 (lead s.1) = 0) : RedR k t E :=
  ⟨hU, fun i j hi hj hij => h _ (rwAt_mem hi) _ (rwAt_mem hj) (hU.fine.apart i j hi hj hij)⟩
theorem rw_mem {E : List Rw} {r : Rw} (h : r ∈ E) : ∃ i, i < E.length ∧ rwAt E i = r := by
  obtain ⟨i, hi, rfl⟩ := List.mem_iff_getElem.1 h
  exact ⟨i, hi, rwAt_eq E i hi⟩
theorem RedR.mem {k t : Nat} {E : List Rw} (h : RedR k t E) {r s : Rw} (hr : r ∈ E) (hs : s ∈ E) (hne : lead r.1 ≠ lead s.1) : nth r.1 (lead s.1) = 0 := by
  obtain ⟨i, hi, rfl⟩ := rw_mem hr
  obtain ⟨j, hj, rfl⟩ := rw_mem hs
  exact h.clear i j hi hj fun e => hne (by rw [e])
theorem rest_mem {k t : Nat} {E : List Rw} (h : RedR k t E) {x s : Rw} (hx : Ro.Dim k t x) (hs : s ∈ E) : nth (Ro.rest E x).1 (lead s.1) = 0 := by
  obtain ⟨j, hj, rfl⟩ := rw_mem hs
  exact rest_clear h hx hj
theorem scale_nth0 {c : Nat} {l : List Nat} {i : Nat} (h : nth l i = 0) : nth (Gf.scale c l) i = 0 := by
  unfold nth Gf.scale at *
  rw [List.getD_eq_getElem?_getD, List.getElem?_map]
  rw [List.getD_eq_getElem?_getD] at h
  cases he : l[i]? with
  | none => rfl
  | some z =>
    rw [he] at h
    simp only [Option.getD_some] at h
    subst h
    show Gf.mul c 0 = 0
    exact Gf.mul_zero _

/-- What is known of the row that is put in. -/
structure Newr (k t : Nat) (E : List Rw) (y : Rw) : Prop where
  dim : Ro.Dim k t y
  lead : lead y.1 < y.1.length
  one : nth y.1 (Go.Proofs.Ytohfcdgpllghbaa.lead y.1) = 1
  zero : ∀ s, s ∈ E → nth y.1 (Go.Proofs.Ytohfcdgpllghbaa.lead s.1) = 0

theorem newr_rest {k t : Nat} {E : List Rw} (h : RedR k t E) {x : Rw} (hx : Ro.Dim k t x) (hz : zeroB (Ro.rest E x).1 = false) : Newr k t E (Ro.norm (Ro.rest E x)) := by
  have hr := Ro.rest_dim h.up.dims hx
  have hl : lead (Ro.rest E x).1 < (Ro.rest E x).1.length := by
    refine Decidable.byContradiction fun hn => ?_
    rw [zeroB_lead.2 hn] at hz; cases hz
  have hll : (Ro.norm (Ro.rest E x)).1.length = (Ro.rest E x).1.length := by show (Gf.scale _ _).length = _; rw [Gf.scale_length]
  refine ⟨Ro.norm_dim hr, by rw [Ro.norm_lead hr, hll]; exact hl, by rw [Ro.norm_lead hr]; exact norm_at hr.2.2.1 hl, fun s hs => ?_⟩
  exact scale_nth0 (rest_mem h hx hs)
theorem Newr.ne {k t : Nat} {E : List Rw} {y : Rw} (h : Newr k t E y) {s : Rw} (hs : s ∈ E) : Go.Proofs.Ytohfcdgpllghbaa.lead s.1 ≠ Go.Proofs.Ytohfcdgpllghbaa.lead y.1 := fun e => by
  have h0 := h.zero s hs
  rw [e, h.one] at h0; cases h0
theorem clean_lead {k t : Nat} {E : List Rw} (h : RedR k t E) {y : Rw} (hy : Newr k t E y) {o : Rw} (ho : o ∈ E) : lead (Ro.step o y).1 = lead o.1 :=
  Ro.step_lead (h.up.dims o ho) hy.dim (h.up.leads o ho) (hy.ne ho)
theorem lead_lt_k {k t : Nat} {E : List Rw} (h : RedR k t E) {o : Rw} (ho : o ∈ E) : lead o.1 < k := by rw [← (h.up.dims o ho).1]; exact h.up.leads o ho
theorem Newr.lt {k t : Nat} {E : List Rw} {y : Rw} (h : Newr k t E y) : Go.Proofs.Ytohfcdgpllghbaa.lead y.1 < k := by rw [← h.dim.1]; exact h.lead

theorem clean_up {k t : Nat} {E : List Rw} (h : RedR k t E) {y : Rw} (hy : Newr k t E y) : Ro.Up k t (Ro.clean E y) := by
  refine ⟨fun r hr => ?_, fun r hr => ?_, ?_, fun r hr => ?_⟩
  · obtain ⟨o, ho, rfl⟩ := Ro.clean_mem hr
    exact Ro.step_dim (h.up.dims o ho) hy.dim
  · obtain ⟨o, ho, rfl⟩ := Ro.clean_mem hr
    rw [clean_lead h hy ho, (Ro.step_dim (h.up.dims o ho) hy.dim).1]; exact lead_lt_k h ho
  · unfold Ro.clean
    rw [List.pairwise_map]
    exact List.Pairwise.imp_of_mem (fun {a b} ha hb hab => by rw [clean_lead h hy ha, clean_lead h hy hb]; exact hab) h.up.rise
  · obtain ⟨o, ho, rfl⟩ := Ro.clean_mem hr
    rw [clean_lead h hy ho, Ro.step_nth (h.up.dims o ho) hy.dim (lead_lt_k h ho), hy.zero o ho, Gf.mul_zero, Nat.zero_xor]
    exact h.up.one o ho
/-- Cleared, and the new row among them: reduced. -/
theorem put_red {k t : Nat} {E : List Rw} (h : RedR k t E) {y : Rw} (hy : Newr k t E y) : RedR k t (Ro.put (Ro.clean E y) y) := by
  have hU := clean_up h hy
  refine RedR.of_mem (Ro.put_up hU hy.dim hy.lead hy.one fun r hr => ?_) fun r hr s hs hne => ?_
  · obtain ⟨o, ho, rfl⟩ := Ro.clean_mem hr
    rw [clean_lead h hy ho]; exact hy.ne ho
  · rw [put_mem_iff, List.mem_cons] at hr hs
    rcases hr with rfl | hr
    · rcases hs with rfl | hs
      · exact absurd rfl hne
      · obtain ⟨o, ho, rfl⟩ := Ro.clean_mem hs
        rw [clean_lead h hy ho]; exact hy.zero o ho
    · obtain ⟨o, ho, rfl⟩ := Ro.clean_mem hr
      rcases hs with rfl | hs
      · rw [Ro.step_nth (h.up.dims o ho) hy.dim hy.lt, hy.one, Gf.mul_one (nth_lt (h.up.dims o ho).2.2.1 _), Nat.xor_self]
      · obtain ⟨p, hp, rfl⟩ := Ro.clean_mem hs
        rw [clean_lead h hy ho, clean_lead h hy hp] at hne
        rw [clean_lead h hy hp, Ro.step_nth (h.up.dims o ho) hy.dim (lead_lt_k h hp), hy.zero p hp, Gf.mul_zero, Nat.zero_xor]
        exact h.mem ho hp hne
theorem take1_red {k t : Nat} {E : List Rw} (h : RedR k t E) {x : Rw} (hx : Ro.Dim k t x) : RedR k t (Ro.take1 E x) := by
  unfold Ro.take1
  split
  · exact h
  · rename_i hz
    exact put_red h (newr_rest h hx (by simpa using hz))

/-- Cleared of a row, with it: the same span. -/
theorem clean_span {E : List Rw} {y : Rw} {f : Rw → Vc} (hf : ∀ o, o ∈ E → ∃ c : B, f (Ro.step o y) = va (vs c (f y)) (f o)) {v : Vc} : Sp (f y :: (Ro.clean E y).map f) v ↔ Sp (f y :: E.map f) v := by
  constructor
  · intro hv
    refine hv.mono fun u hu => ?_
    rcases List.mem_cons.1 hu with rfl | hu
    · exact Sp.mem List.mem_cons_self
    · obtain ⟨r, hr, rfl⟩ := List.mem_map.1 hu
      obtain ⟨o, ho, rfl⟩ := Ro.clean_mem hr
      obtain ⟨c, hc⟩ := hf o ho
      rw [hc]
      exact (Sp.mem List.mem_cons_self).smul c |>.add (Sp.mem (List.mem_cons_of_mem _ (List.mem_map.2 ⟨o, ho, rfl⟩)))
  · intro hv
    refine hv.mono fun u hu => ?_
    rcases List.mem_cons.1 hu with rfl | hu
    · exact Sp.mem List.mem_cons_self
    · obtain ⟨o, ho, rfl⟩ := List.mem_map.1 hu
      obtain ⟨c, hc⟩ := hf o ho
      have h1 : Sp (f y :: (Ro.clean E y).map f) (f (Ro.step o y)) := Sp.mem (List.mem_cons_of_mem _ (List.mem_map.2 ⟨_, List.mem_map.2 ⟨o, ho, rfl⟩, rfl⟩))
      rw [hc] at h1
      exact (Sp.lin _).of_sum ((Sp.mem List.mem_cons_self).smul c) h1
theorem clean_j {k t : Nat} {E : List Rw} (hD : Ro.Dims k t E) {y : Rw} (hy : Ro.Dim k t y) : ∀ o, o ∈ E → ∃ c : B, fj (Ro.step o y) = va (vs c (fj y)) (fj o) := fun o ho => ⟨_, fj_less (nth_lt (hD o ho).2.2.1 _) (hD o ho) hy⟩
theorem clean_1 {k t : Nat} {E : List Rw} (hD : Ro.Dims k t E) {y : Rw} (hy : Ro.Dim k t y) : ∀ o, o ∈ E → ∃ c : B, f1 (Ro.step o y) = va (vs c (f1 y)) (f1 o) := fun o ho => ⟨_, f1_less (nth_lt (hD o ho).2.2.1 _) (hD o ho) hy⟩

theorem take1_span1 {k t : Nat} {E : List Rw} (h : RedR k t E) {x : Rw} (hx : Ro.Dim k t x) {v : Vc} : Sp ((Ro.take1 E x).map f1) v ↔ Sp (f1 x :: E.map f1) v := by
  have hr := Ro.rest_dim h.up.dims hx
  have hsp := (rest_span h.up.dims hx).2
  unfold Ro.take1
  split
  · rename_i hz
    have hz' : f1 (Ro.rest E x) = v0 := (fv_zero hr.2.2.1).2 hz
    rw [hz', va_zero] at hsp
    exact ⟨fun h => h.sub fun y hy => List.mem_cons_of_mem _ hy, fun h => h.mono fun y hy => by
      rcases List.mem_cons.1 hy with rfl | hy
      · exact hsp
      · exact Sp.mem hy⟩
  · rw [put_map, clean_span (clean_1 h.up.dims (Ro.norm_dim hr)), f1_norm hr]
    exact sp_replace normC_bt hsp
theorem take1_span {k t : Nat} {E : List Rw} (h : RedR k t E) {x : Rw} (hx : Ro.Dim k t x) (h0 : zeroB (Ro.rest E x).1 = true → zeroB (Ro.rest E x).2 = true) {v : Vc} : Sp ((Ro.take1 E x).map fj) v ↔ Sp (fj x :: E.map fj) v := by
  have hr := Ro.rest_dim h.up.dims hx
  have hsp := (rest_span h.up.dims hx).1
  have e1 := insert_span h.up.dims hx h0 (v := v)
  unfold Ro.take1
  split
  · rename_i hz
    rw [← e1]
    have hn : ¬ lead (Ro.norm (Ro.rest E x)).1 < (Ro.norm (Ro.rest E x)).1.length := by
      rw [Ro.norm_lead hr]
      have : (Ro.norm (Ro.rest E x)).1.length = (Ro.rest E x).1.length := by show (Gf.scale _ _).length = _; rw [Gf.scale_length]
      rw [this]; exact zeroB_lead.1 hz
    unfold Ro.insert
    rw [if_neg hn]
  · rw [put_map, clean_span (clean_j h.up.dims (Ro.norm_dim hr)), fj_norm hr]
    exact sp_replace normC_bt hsp
theorem redOf_red {k t : Nat} {L : List Rw} (hD : Ro.Dims k t L) : ∀ n, n ≤ L.length → RedR k t (Ro.redOf (L.take n)) ∧ ∀ v, Sp ((Ro.redOf (L.take n)).map f1) v ↔ Sp ((L.take n).map f1) v
  | 0, _ => ⟨RedR.nil k t, fun _ => Iff.rfl⟩
  | n + 1, h => by
    obtain ⟨h1, h2⟩ := redOf_red hD n (by omega)
    have hx := hD.at (show n < L.length by omega)
    rw [Ro.redOf_take L n h]
    refine ⟨take1_red h1 hx, fun v => ?_⟩
    rw [take1_span1 h1 hx, take_rwAt L n h, sp_snoc]
    exact sp_cons_congr h2

/-- Where the row belongs, found by looking from both sides. -/
theorem ahead_found {k t : Nat} {E : List Rw} (hU : Ro.Up k t E) {y : Rw} (hne : ∀ s, s ∈ E → lead s.1 ≠ lead y.1) {r : Nat} (hr : r ≤ E.length) (h0 : 0 < r → ¬ lead y.1 < lead (rwAt E (r - 1)).1) (h1 : r < E.length → lead y.1 ≤ lead (rwAt E r).1) : Ro.ahead E y = r := by
  refine Ro.ahead_eq hr (fun i hi => ?_) ?_
  · have hlast : lead (rwAt E (r - 1)).1 < lead y.1 := by
      have := h0 (by omega)
      have := hne _ (rwAt_mem (show r - 1 < E.length by omega))
      omega
    by_cases he : i = r - 1
    · rw [he]; exact hlast
    · have := List.pairwise_iff_getElem.1 hU.rise i (r - 1) (by omega) (by omega) (by omega)
      rw [← rwAt_eq E i (by omega), ← rwAt_eq E (r - 1) (by omega)] at this
      omega
  · by_cases he : r = E.length
    · exact .inl he
    · right
      have := h1 (by omega)
      omega

end Go.Proofs.Ytohfcdgpllghbaa

/-
  Grids in the program (layer 7): the predicate by which a row's place is searched, and lists of rows that are kept.
-/
set_option maxRecDepth 100000
namespace Go.Proofs.Ytohfcdgpllghbaa
open Go.RowKit

set_option maxHeartbeats 1000000 in
theorem redpred_any (bx lx : Nat) (v : Value) (L : List Rw) (i : Nat) (ld : Int) (w : World) (hbx : w.cell? ⟨bx, 0, none⟩ = some v) (hlx : w.cell? ⟨lx, 0, none⟩ = some (.int .i64 ld)) (hL : IsRL w v L) (hi : i < L.length) :
    Calls Try.prog 85 #[.int .i64 (i : Int), .pointer (some ⟨bx, 0, none⟩), .pointer (some ⟨lx, 0, none⟩)] w fun e w' => e = .returned (.bool (decide (ld < leadI (rwAt L i).1))) ∧ Below w.heap.size w w' := by
  have HL := Lib.hid hL
  obtain ⟨b, off, c, rfl, _⟩ := hL.addr (by omega)
  obtain ⟨x, y, h1, h2, hb1, hb2⟩ := hL.cells i hi
  have HB1 := Lib.hid hb1
  obtain ⟨xa, xc, rfl, _⟩ := hb1
  have k0 : (0 : Int) ≤ (i : Int) := Int.natCast_nonneg _
  have k1 : (i : Int) < (L.length : Int) := by omega
  clear hL hi hb2
  go_enter Try.func85, Try.ntmps85
  go_wp2_with fail
  go_quiet ((first | (go_at_call 83; exact quiet_eq (lead_any _ (rwAt L i).1 _ (HB1.out.drewN _)))))
  go_wp2_with fail
  go_ret
  exact ⟨rfl, below_drews _ _⟩

end Go.Proofs.Ytohfcdgpllghbaa

/-
  Lists of rows that a call owns: a row put in by slices.Insert; a row stored in a region that draws its order.
-/
set_option maxRecDepth 100000
namespace Go.Proofs.Ytohfcdgpllghbaa
open Go.RowKit

theorem pairs_take : ∀ (us : List (Value × Value)) (i : Nat), (pairs us).take (i * 2) = pairs (us.take i)
  | [], i => by simp [pairs]
  | u :: us, 0 => by simp [pairs]
  | u :: us, i + 1 => by
    rw [show (i + 1) * 2 = i * 2 + 1 + 1 by omega]
    simp only [pairs, List.take_succ_cons]
    rw [pairs_take us i]
theorem pairs_drop : ∀ (us : List (Value × Value)) (i : Nat), (pairs us).drop (i * 2) = pairs (us.drop i)
  | [], i => by simp [pairs]
  | u :: us, 0 => by simp [pairs]
  | u :: us, i + 1 => by
    rw [show (i + 1) * 2 = i * 2 + 1 + 1 by omega]
    simp only [pairs, List.drop_succ_cons]
    rw [pairs_drop us i]
theorem Each.take {w : World} {us : List (Value × Value)} {L : List Rw} (h : Each w us L) (i : Nat) : Each w (us.take i) (L.take i) := ⟨by simp [h.len], fun j u hu => by
  rw [List.getElem?_take] at hu
  split at hu
  · rename_i hj
    rw [show rwAt (L.take i) j = rwAt L j from by unfold rwAt; rw [List.getD_eq_getElem?_getD, List.getElem?_take, if_pos hj, ← List.getD_eq_getElem?_getD]]
    exact h.row j u hu
  · cases hu⟩
theorem Each.drop {w : World} {us : List (Value × Value)} {L : List Rw} (h : Each w us L) (i : Nat) : Each w (us.drop i) (L.drop i) := ⟨by simp [h.len], fun j u hu => by
  rw [List.getElem?_drop] at hu
  rw [show rwAt (L.drop i) j = rwAt L (i + j) from by unfold rwAt; rw [List.getD_eq_getElem?_getD, List.getElem?_drop, ← List.getD_eq_getElem?_getD]]
  exact h.row _ u hu⟩
theorem Each.cons {w : World} {us : List (Value × Value)} {L : List Rw} {x y : Value} {r : Rw} (h : Each w us L) (hx : Bytes w x r.1) (hy : Bytes w y r.2) : Each w ((x, y) :: us) (r :: L) := ⟨by simp [h.len], fun j u hu => by
  cases j with
  | zero => simp at hu; subst hu; exact ⟨hx, hy⟩
  | succ j => exact h.row j u (by simpa using hu)⟩
/-- Blocks of other elements lie elsewhere. -/
theorem OwnL.ne_box {w : World} {B g : Nat} {T T' : TypeId} {v : Value} {L : List Rw} {vs : Array Value} (h : OwnL w B T v L) (k : Blk w g vs T') (hT : T ≠ T') : v.ownBlock ≠ some g := by
  obtain ⟨us, ⟨⟨_, h2⟩, _⟩, _⟩ := h
  rcases h2 with ⟨rfl, _⟩ | ⟨g', cap, cur, rfl, _, hg, _⟩
  · intro e; cases e
  · intro e
    simp only [Value.ownBlock, Option.some.injEq] at e
    subst e
    unfold Blk at k
    rw [hg] at k
    simp only [Option.some.injEq, Obj.cells.injEq] at k
    exact hT k.2.1

theorem insrow_any (v x y : Value) (L : List Rw) (i vb B : Nat) (r : Rw) (w : World) (hown : OwnL w B 61 v L) (hi : i ≤ L.length) (hvb : Blk w vb #[x, y] 61) (hx : Bytes w x r.1) (hy : Bytes w y r.2) (hne : v.ownBlock ≠ some vb) (hB : B ≤ w.heap.size) (hn : L.length ≤ 1000000000) :
    Calls Try.prog 86 #[v, .int .i64 (i : Int), .slice (some ⟨vb, 0, none⟩) 1 1] w fun e w' =>
      ∃ v', e = .returned v' ∧ OwnL w' B 61 v' (L.take i ++ r :: L.drop i) ∧ w.grownBy w' v.ownBlock ∧ Soft w w' := by
  obtain ⟨us, h1, h2⟩ := hown
  have hN : ∀ u ∈ [x, y], (∀ k : Nat, u ≠ U8 k) ∧ u.oneCell' = true := by
    obtain ⟨a, c, rfl, _⟩ := hx
    obtain ⟨a', c', rfl, _⟩ := hy
    intro u hu
    rcases List.mem_cons.1 hu with rfl | hu
    · exact ⟨slice_ne _ _ _, rfl⟩
    · rcases List.mem_cons.1 hu with rfl | hu
      · exact ⟨slice_ne _ _ _, rfl⟩
      · cases hu
  refine (insVec_any v L.length i vb B (pairs us) [x, y] w h1 hi hvb hne rfl hB (by omega) (fun u hu => (hN u hu).2) (fun u hu => (hN u hu).1) (fun u hu => (h2.noU8 u hu).2)).mono ?_
  rintro e w' ⟨v', rfl, k1, k2, k3⟩
  refine ⟨v', rfl, ⟨us.take i ++ (x, y) :: us.drop i, ?_, ?_⟩, k2, k3⟩
  · rw [pairs_append, ← pairs_take, show pairs ((x, y) :: us.drop i) = [x, y] ++ pairs (us.drop i) from rfl, ← pairs_drop]
    rw [show (L.take i ++ r :: L.drop i).length = L.length + 1 by simp; omega, ← List.append_assoc]
    exact k1
  · exact ((h2.take i).append ((h2.drop i).cons hx hy)).soft k3

section
variable {W : World} {g : Nat}
theorem OwnL.he {w w' : World} {c B : Nat} {T : TypeId} {v : Value} {L : List Rw} (hg : ∀ k, v.ownBlock = some k → k < W.heap.size) (h : OwnL w B T v L) (hc : not0 c = true) (hH : He W g c w w') : OwnL w' B T v L := by
  have hs := hH.soft
  unfold He at hH
  rw [if_neg (by simpa [not0] using hc)] at hH
  obtain ⟨g', vs, vs', T', hg', hk, hn, hw, _⟩ := hH
  refine h.other hw hs fun e => ?_
  have := hg g' e
  omega
/-- The store of a row into a list. -/
def TyE.storesL (v : Value) (hg : ∀ k, v.ownBlock = some k → k < W.heap.size) (B : Nat) (T : TypeId) (L L' : List Rw) : Ty (Ce W g) Rb (He W g) :=
  ⟨[], fun _ w => OwnL w B T v L', some 0, not0, fun _ _ _ _ hR h => h.go hR, fun _ hc _ _ _ _ hH h => h.he hg hc hH,
    fun w => OwnL w B T v L, not0, fun _ _ _ hR h => h.go hR, fun _ hc _ _ _ hH h => h.he hg hc hH⟩
end

set_option maxHeartbeats 400000 in
theorem ob_storesL {W : World} {g n cap B k : Nat} {L : List Rw} (hg : ∀ k, (Value.slice (some ⟨g, 0, none⟩) n cap).ownBlock = some k → k < W.heap.size) {a : Act} {w : World} {o : Oper} {Q : Exit → Act → World → Prop} {x y : Operand} {r : Rw} (hop : o.op = .store 61 x y) (hx : a.eval x = .pointer (some ⟨g, k * 2, none⟩)) (hV : IsRow w (a.eval y) r.1 r.2)
    (hk : k < L.length) (hO : OwnL w B 61 (.slice (some ⟨g, 0, none⟩) n cap) L) : Done Try.prog (TyE.storesL (W := W) (g := g) (.slice (some ⟨g, 0, none⟩) n cap) hg B 61 L (L.set k r)) Q o a w := by
  obtain ⟨a1, c1, a2, c2, e⟩ := hV.shape
  rw [e] at hV
  obtain ⟨_, _, er, hb1, hb2⟩ := hV
  simp only [Value.agg.injEq, Array.mk.injEq, List.cons.injEq, and_true] at er
  obtain ⟨rfl, rfl⟩ := er
  obtain ⟨k1, k2, k3⟩ := hO.set k hk hb1 hb2
  obtain ⟨b1, d1, b2, d2, e0, e1, _, _⟩ := hO.cells k hk
  have f0 := hO.free (k * 2)
  have f1 := hO.free (k * 2 + 1)
  refine ob_store0 ((w.setCell ⟨g, k * 2, none⟩ (.slice a1 r.1.length c1)).setCell ⟨g, k * 2 + 1, none⟩ (.slice a2 r.2.length c2)) rfl rfl hop hx e ?_ (by unfold He; rw [if_pos rfl]; exact ⟨k3, k2⟩) k1
  clear k1 k2 k3 hO hb1 hb2
  go_simp

end Go.Proofs.Ytohfcdgpllghbaa
