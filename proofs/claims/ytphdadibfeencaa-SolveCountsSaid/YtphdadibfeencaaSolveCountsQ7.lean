/- Texts of one seat, laid together: LaL, LaM, LaN, RedMath, InsA, SoftB. -/
import Derived.Test.YtphdadibfeencaaSolveCountsQ6
import Derived.Test.YtphdadibfeencaaSolveCountsQ4
import Derived.Lib.Overlaps
import Derived.Lib.AppendZerosOnto
import Derived.Shelf.RegionOpenPlain
import Derived.Test.YtphdadibfeencaaSolveCountsQ3

/-
  Rows of bytes as vectors: what the document's answers of layers 7 and 8 reckon, said of spans, ranks and determinants. No program in this text.
-/
set_option maxRecDepth 100000
namespace Go.Proofs.Ytphdadibfeencaa
open La

def Oct (l : List Nat) : Prop := ∀ z, z ∈ l → z < 256
/-- A byte, as an element of the field. -/
def bt (n : Nat) : B := ⟨n % 256, Nat.mod_lt _ (by decide)⟩
/-- Bytes, as a vector. -/
def fv (l : List Nat) : Vc := fun i => bt (nth l i)

theorem bt_val {n : Nat} (h : n < 256) : (bt n).val = n := Nat.mod_eq_of_lt h
theorem bt_inj {m n : Nat} (hm : m < 256) (hn : n < 256) (h : bt m = bt n) : m = n := by
  have := congrArg B.val h
  rwa [bt_val hm, bt_val hn] at this
theorem bt_ne {n : Nat} (h : n < 256) : bt n ≠ 0 ↔ n ≠ 0 := by
  constructor
  · intro h1 h2; subst h2; exact h1 rfl
  · intro h1 h2; exact h1 (bt_inj h (by decide) h2)
theorem bt_xor {m n : Nat} (hm : m < 256) (hn : n < 256) : bt (m ^^^ n) = bt m + bt n := B.ext (by
  rw [bt_val (Gf.xor_lt hm hn), val_add, bt_val hm, bt_val hn])
theorem bt_mul {m n : Nat} (hm : m < 256) (hn : n < 256) : bt (Gf.mul m n) = bt m * bt n := B.ext (by
  rw [bt_val (Gf.mul_lt hm n), val_mul, bt_val hm, bt_val hn])

theorem nth_out {l : List Nat} {i : Nat} (h : l.length ≤ i) : nth l i = 0 := by
  unfold nth; rw [List.getD_eq_getElem?_getD, List.getElem?_eq_none h]; rfl
theorem fv_short (l : List Nat) : Short l.length (fv l) := fun i hi => by show bt (nth l i) = 0; rw [nth_out hi]; rfl
theorem fv_short' {l : List Nat} {n : Nat} (h : l.length = n) : Short n (fv l) := h ▸ fv_short l
theorem fv_add {x y : List Nat} (hx : Oct x) (hy : Oct y) (hl : x.length = y.length) : fv (Gf.add x y) = va (fv x) (fv y) := funext fun i => by
  show bt (nth (Gf.add x y) i) = bt (nth x i) + bt (nth y i)
  by_cases hi : i < x.length
  · rw [nth_add x y i hi (by omega), bt_xor (nth_lt hx i) (nth_lt hy i)]
  · rw [nth_out (by rw [Gf.add_length _ _ hl]; omega), nth_out (by omega), nth_out (by omega)]; rfl
theorem fv_scale {c : Nat} {x : List Nat} (hc : c < 256) (hx : Oct x) : fv (Gf.scale c x) = vs (bt c) (fv x) := funext fun i => by
  show bt (nth (Gf.scale c x) i) = bt c * bt (nth x i)
  by_cases hi : i < x.length
  · rw [nth_scale c x i hi, bt_mul hc (nth_lt hx i)]
  · rw [nth_out (by rw [Gf.scale_length]; omega), nth_out (by omega)]; exact (bmul_zero _).symm
theorem fv_inj {x y : List Nat} (hx : Oct x) (hy : Oct y) (hl : x.length = y.length) (h : fv x = fv y) : x = y :=
  ext_nth hl fun j _ => bt_inj (nth_lt hx j) (nth_lt hy j) (congrFun h j)
theorem fv_lead {l : List Nat} (h : Oct l) {i : Nat} : Lead (fv l) i ↔ i < l.length ∧ lead l = i := by
  constructor
  · rintro ⟨h1, h2⟩
    have hi : i < l.length := by
      by_cases hi : i < l.length
      · exact hi
      · exact absurd (fv_short l i (by omega)) h1
    exact ⟨hi, lead_eq (fun j hj => bt_inj (nth_lt h j) (by decide) (h2 j hj)) hi ((bt_ne (nth_lt h i)).1 h1)⟩
  · rintro ⟨hi, rfl⟩
    exact ⟨(bt_ne (nth_lt h _)).2 (lead_ne l hi), fun j hj => by show bt (nth l j) = 0; rw [lead_zero l j hj]; rfl⟩
theorem fv_zero {l : List Nat} (h : Oct l) : fv l = v0 ↔ zeroB l = true := by
  constructor
  · intro e
    unfold zeroB
    rw [List.all_eq_true]
    intro x hx
    obtain ⟨i, hi, rfl⟩ := List.mem_iff_getElem.1 hx
    have := congrFun e i
    have h2 : bt (nth l i) = bt 0 := this
    have h3 := bt_inj (nth_lt h i) (by decide) h2
    rw [nth_eq l i hi] at h3
    simp [h3]
  · intro e
    unfold zeroB at e
    rw [List.all_eq_true] at e
    exact funext fun i => by
      show bt (nth l i) = 0
      by_cases hi : i < l.length
      · have := e _ (List.getElem_mem hi)
        rw [nth_eq l i hi, beq_iff_eq.1 this]; rfl
      · rw [nth_out (by omega)]; rfl

/-! ### Rows: vector and data, one behind the other -/

def jn (x : Rw) : List Nat := x.1 ++ x.2
def fj (x : Rw) : Vc := fv (jn x)
/-- The vector alone. -/
def f1 (x : Rw) : Vc := fv x.1

theorem nth_append {a b : List Nat} {i : Nat} : nth (a ++ b) i = if i < a.length then nth a i else nth b (i - a.length) := by
  unfold nth
  rw [List.getD_eq_getElem?_getD, List.getD_eq_getElem?_getD, List.getD_eq_getElem?_getD]
  split
  · rename_i h; rw [List.getElem?_append_left h]
  · rename_i h; rw [List.getElem?_append_right (by omega)]
theorem Ro.Dim.oct {k t : Nat} {x : Rw} (h : Ro.Dim k t x) : Oct (jn x) := fun z hz => by
  rcases List.mem_append.1 hz with h1 | h1
  · exact h.2.2.1 z h1
  · exact h.2.2.2 z h1
theorem Ro.Dim.len {k t : Nat} {x : Rw} (h : Ro.Dim k t x) : (jn x).length = k + t := by unfold jn; rw [List.length_append, h.1, h.2.1]
theorem Ro.Dim.short1 {k t : Nat} {x : Rw} (h : Ro.Dim k t x) : Short k (f1 x) := fv_short' h.1
theorem jn_nth1 {k t : Nat} {x : Rw} (h : Ro.Dim k t x) {i : Nat} (hi : i < k) : nth (jn x) i = nth x.1 i := by unfold jn; rw [nth_append, if_pos (by rw [h.1]; exact hi)]
theorem fj_at {k t : Nat} {x : Rw} (h : Ro.Dim k t x) {i : Nat} (hi : i < k) : fj x i = bt (nth x.1 i) := by show bt (nth (jn x) i) = _; rw [jn_nth1 h hi]
theorem fj_inj {k t : Nat} {x y : Rw} (hx : Ro.Dim k t x) (hy : Ro.Dim k t y) (h : fj x = fj y) : x = y := by
  have e := fv_inj hx.oct hy.oct (by rw [hx.len, hy.len]) h
  unfold jn at e
  obtain ⟨e1, e2⟩ := List.append_inj e (by rw [hx.1, hy.1])
  exact Prod.ext e1 e2
theorem f1_lead {k t : Nat} {x : Rw} (h : Ro.Dim k t x) (hl : lead x.1 < x.1.length) : Lead (f1 x) (lead x.1) := (fv_lead h.2.2.1).2 ⟨hl, rfl⟩
theorem jn_add {a b c d : List Nat} (h1 : a.length = c.length) : Gf.add (a ++ b) (c ++ d) = Gf.add a c ++ Gf.add b d := by
  unfold Gf.add; exact List.zipWith_append h1
theorem jn_scale (c : Nat) (a b : List Nat) : Gf.scale c (a ++ b) = Gf.scale c a ++ Gf.scale c b := by unfold Gf.scale; rw [List.map_append]
theorem fj_less {k t c : Nat} {x r : Rw} (hc : c < 256) (hx : Ro.Dim k t x) (hr : Ro.Dim k t r) : fj (Ro.less x c r) = va (vs (bt c) (fj r)) (fj x) := by
  obtain ⟨_, e⟩ := Ro.less_dim hc hx hr
  rw [e]
  show fv (Gf.add (Gf.scale c r.1) x.1 ++ Gf.add (Gf.scale c r.2) x.2) = _
  rw [← jn_add (by rw [Gf.scale_length, hr.1, hx.1]), ← jn_scale]
  show fv (Gf.add (Gf.scale c (jn r)) (jn x)) = _
  rw [fv_add (Ro.scale_lt256 hc _) hx.oct (by rw [Gf.scale_length]; exact (hr.len).trans hx.len.symm), fv_scale hc hr.oct]
  rfl
theorem f1_less {k t c : Nat} {x r : Rw} (hc : c < 256) (hx : Ro.Dim k t x) (hr : Ro.Dim k t r) : f1 (Ro.less x c r) = va (vs (bt c) (f1 r)) (f1 x) := by
  obtain ⟨_, e⟩ := Ro.less_dim hc hx hr
  rw [e]
  show fv (Gf.add (Gf.scale c r.1) x.1) = _
  rw [fv_add (Ro.scale_lt256 hc _) hx.2.2.1 (by rw [Gf.scale_length, hr.1, hx.1]), fv_scale hc hr.2.2.1]
  rfl
theorem fj_norm {k t : Nat} {x : Rw} (hx : Ro.Dim k t x) : fj (Ro.norm x) = vs (bt (normC x.1)) (fj x) := by
  show fv (Gf.scale _ x.1 ++ Gf.scale _ x.2) = _
  rw [← jn_scale]; exact fv_scale (normC_lt _) hx.oct
theorem f1_norm {k t : Nat} {x : Rw} (hx : Ro.Dim k t x) : f1 (Ro.norm x) = vs (bt (normC x.1)) (f1 x) := fv_scale (normC_lt _) hx.2.2.1

theorem va_mid (s a b : Vc) : va (va (va s a) b) s = va a b := funext fun i => by
  show s i + a i + b i + s i = a i + b i
  rw [badd_comm _ (s i), badd_assoc (s i), badd_cancel]

/-- What is left differs from the row by what the others span. -/
theorem rest_span {k t : Nat} {L : List Rw} (hD : Ro.Dims k t L) {x : Rw} (hx : Ro.Dim k t x) : Sp (L.map fj) (va (fj x) (fj (Ro.rest L x))) ∧ Sp (L.map f1) (va (f1 x) (f1 (Ro.rest L x))) := by
  induction L generalizing x with
  | nil => exact ⟨by show Sp _ (va (fj x) (fj x)); rw [va_self]; exact Sp.zero, by show Sp _ (va (f1 x) (f1 x)); rw [va_self]; exact Sp.zero⟩
  | cons r L ih =>
    have hr := hD r List.mem_cons_self
    have hc : nth x.1 (lead r.1) < 256 := nth_lt hx.2.2.1 _
    obtain ⟨h1, h2⟩ := ih (fun y hy => hD y (List.mem_cons_of_mem _ hy)) (Ro.step_dim hx hr)
    show Sp _ (va (fj x) (fj (Ro.rest L (Ro.step x r)))) ∧ Sp _ (va (f1 x) (f1 (Ro.rest L (Ro.step x r))))
    have up : ∀ {f : Rw → Vc} {v : Vc}, Sp (L.map f) v → Sp ((r :: L).map f) v := fun h => h.sub fun y hy => by rw [List.map_cons]; exact List.mem_cons_of_mem _ hy
    constructor
    · have e := fj_less hc hx hr
      rw [← va_mid (vs (bt (nth x.1 (lead r.1))) (fj r)) (fj x), ← e]
      exact (up h1).add ((Sp.mem (by simp)).smul _)
    · have e := f1_less hc hx hr
      rw [← va_mid (vs (bt (nth x.1 (lead r.1))) (f1 r)) (f1 x), ← e]
      exact (up h2).add ((Sp.mem (by simp)).smul _)

end Go.Proofs.Ytphdadibfeencaa

/-
  What the document's answers of layers 7 and 8 reckon, said of spans and ranks: rows put in, and cleared of each other. No program in this text.
-/
set_option maxRecDepth 100000
namespace Go.Proofs.Ytphdadibfeencaa
open La

theorem sp_perm {L M : List Vc} (h : ∀ v, v ∈ L ↔ v ∈ M) {x : Vc} : Sp L x ↔ Sp M x := ⟨fun k => k.sub fun v hv => (h v).1 hv, fun k => k.sub fun v hv => (h v).2 hv⟩
theorem put_mem_iff (L : List Rw) (y r : Rw) : r ∈ Ro.put L y ↔ r ∈ y :: L := by
  unfold Ro.put
  rw [List.mem_append, List.mem_cons, List.mem_cons]
  constructor
  · rintro (h | h | h)
    · exact .inr (List.mem_of_mem_take h)
    · exact .inl h
    · exact .inr (List.mem_of_mem_drop h)
  · rintro (h | h)
    · exact .inr (.inl h)
    · rw [← List.take_append_drop (Ro.ahead L y) L] at h
      rcases List.mem_append.1 h with h | h
      · exact .inl h
      · exact .inr (.inr h)
theorem put_map (f : Rw → Vc) (L : List Rw) (y : Rw) {v : Vc} : Sp ((Ro.put L y).map f) v ↔ Sp (f y :: L.map f) v :=
  sp_perm fun u => by
    rw [← List.map_cons, List.mem_map, List.mem_map]
    constructor
    · rintro ⟨r, hr, e⟩; exact ⟨r, (put_mem_iff L y r).1 hr, e⟩
    · rintro ⟨r, hr, e⟩; exact ⟨r, (put_mem_iff L y r).2 hr, e⟩

/-- One of a span with a multiple of what differs from another by the others: the other's span. -/
theorem sp_replace {L : List Vc} {x r : Vc} {c : B} (hc : c ≠ 0) (h : Sp L (va x r)) {v : Vc} : Sp (vs c r :: L) v ↔ Sp (x :: L) v := by
  have up : ∀ {a v : Vc}, Sp L v → Sp (a :: L) v := fun h => h.sub fun y hy => List.mem_cons_of_mem _ hy
  constructor
  · intro k
    refine k.mono fun y hy => ?_
    rcases List.mem_cons.1 hy with rfl | hy
    · exact ((Sp.lin _).of_sum (Sp.mem List.mem_cons_self) (up h)).smul c
    · exact up (Sp.mem hy)
  · intro k
    refine k.mono fun y hy => ?_
    rcases List.mem_cons.1 hy with rfl | hy
    · have hr : Sp (vs c r :: L) r := by
        have := (Sp.mem (List.mem_cons_self (a := vs c r) (l := L))).smul (iv c)
        rwa [vs_vs, iv_mul hc, one_vs] at this
      exact (Sp.lin _).of_sum' hr (up h)
    · exact up (Sp.mem hy)

theorem normC_bt {x : List Nat} : bt (normC x) ≠ 0 := (bt_ne (normC_lt x)).2 normC_ne

/-- And of the whole rows, where something of the vector is left, or nothing at all. -/
theorem insert_span {k t : Nat} {L : List Rw} (hD : Ro.Dims k t L) {x : Rw} (hx : Ro.Dim k t x) (h0 : zeroB (Ro.rest L x).1 = true → zeroB (Ro.rest L x).2 = true) {v : Vc} : Sp ((Ro.insert L x).map fj) v ↔ Sp (fj x :: L.map fj) v := by
  have hr := Ro.rest_dim hD hx
  have hsp := (rest_span hD hx).1
  unfold Ro.insert
  split
  · rw [put_map, fj_norm hr]
    exact sp_replace normC_bt hsp
  · rename_i hl
    have hz1 : zeroB (Ro.rest L x).1 = true := zeroB_lead.2 fun h => hl (by
      rw [Ro.norm_lead hr]
      have : (Ro.norm (Ro.rest L x)).1.length = (Ro.rest L x).1.length := by show (Gf.scale _ _).length = _; rw [Gf.scale_length]
      rw [this]; exact h)
    have hz : fj (Ro.rest L x) = v0 := (fv_zero hr.oct).2 (by
      have h2 := h0 hz1
      unfold zeroB at hz1 h2 ⊢
      unfold jn
      rw [List.all_append, hz1, h2]; rfl)
    rw [hz, va_zero] at hsp
    exact ⟨fun h => h.sub fun y hy => List.mem_cons_of_mem _ hy, fun h => h.mono fun y hy => by
      rcases List.mem_cons.1 hy with rfl | hy
      · exact hsp
      · exact Sp.mem hy⟩

theorem sp_snoc {f : Rw → Vc} {L : List Rw} {x : Rw} {v : Vc} : Sp ((L ++ [x]).map f) v ↔ Sp (f x :: L.map f) v := sp_perm fun u => by
  rw [List.map_append, List.mem_append, List.mem_cons]; simp [or_comm]
theorem sp_cons_congr {L M : List Vc} (h : ∀ v, Sp L v ↔ Sp M v) {x v : Vc} : Sp (x :: L) v ↔ Sp (x :: M) v := by
  rw [Sp.cons, Sp.cons]
  constructor <;> rintro ⟨c, w, hw, e⟩
  · exact ⟨c, w, (h w).1 hw, e⟩
  · exact ⟨c, w, (h w).2 hw, e⟩
/-! ### Ranks -/

theorem up_ech1 {k t : Nat} {L : List Rw} (h : Ro.Up k t L) : Ech (L.map f1) := by
  refine ⟨fun e he => ?_, ?_⟩
  · obtain ⟨r, hr, rfl⟩ := List.mem_map.1 he
    exact ⟨_, f1_lead (h.dims r hr) (h.leads r hr)⟩
  · rw [List.pairwise_map]
    refine h.rise.imp_of_mem fun {a b} ha hb hab i hi hj => ?_
    have h1 := hi.unique (f1_lead (h.dims a ha) (h.leads a ha))
    have h2 := hj.unique (f1_lead (h.dims b hb) (h.leads b hb))
    omega
theorem up_rank {k t : Nat} {L : List Rw} (h : Ro.Up k t L) : rk k (Sp (L.map f1)) = L.length := by
  rw [rk_ech (up_ech1 h) fun e he => by
    obtain ⟨r, hr, rfl⟩ := List.mem_map.1 he
    exact (h.dims r hr).short1, List.length_map]
/-! ### Rows cleared of each other -/

/-- By rising places, led by a 1, where all others have a 0. -/
structure RedR (k t : Nat) (E : List Rw) : Prop where
  up : Ro.Up k t E
  clear : ∀ i j, i < E.length → j < E.length → i ≠ j → nth (rwAt E i).1 (lead (rwAt E j).1) = 0

end Go.Proofs.Ytphdadibfeencaa

/-
  The document's rows of equations (layer 8) are the reduced rows of their span. No program in this text.
-/
set_option maxRecDepth 100000
namespace Go.Proofs.Ytphdadibfeencaa
open La

/-- What is left has a 0 where reduced rows lead. -/
theorem rest_clear {k t : Nat} {E : List Rw} (h : RedR k t E) {x : Rw} (hx : Ro.Dim k t x) {i : Nat} (hi : i < E.length) : nth (Ro.rest E x).1 (lead (rwAt E i).1) = 0 := by
  have := Ro.rest_zero h.up hx E.length (Nat.le_refl _) i hi
  rwa [List.take_length] at this
end Go.Proofs.Ytphdadibfeencaa

/-
  Rows as the program keeps them: each row that comes in is cleared of the others, and the others of it (layers 7 and 8). No program in this text.
-/
set_option maxRecDepth 100000
namespace Go.Proofs.Ytphdadibfeencaa
open La
namespace Ro
/-- Each less as much of a row as it has where that leads. -/
def clean (E : List Rw) (y : Rw) : List Rw := E.map fun o => step o y
/-- The same, of the first ones alone. -/
def cleanK (E : List Rw) (y : Rw) (j : Nat) : List Rw := clean (E.take j) y ++ E.drop j
/-- A row more. -/
def take1 (E : List Rw) (x : Rw) : List Rw := if zeroB (rest E x).1 = true then E else put (clean E (norm (rest E x))) (norm (rest E x))
def redOf (L : List Rw) : List Rw := L.foldl take1 []

theorem clean_length (E : List Rw) (y : Rw) : (clean E y).length = E.length := by simp [clean]
theorem cleanK_zero (E : List Rw) (y : Rw) : cleanK E y 0 = E := by simp [cleanK, clean]
theorem cleanK_all (E : List Rw) (y : Rw) : cleanK E y E.length = clean E y := by simp [cleanK]
theorem cleanK_length (E : List Rw) (y : Rw) (j : Nat) : (cleanK E y j).length = E.length := by simp [cleanK, clean_length]; omega
theorem cleanK_at (E : List Rw) (y : Rw) (j : Nat) : rwAt (cleanK E y j) j = rwAt E j := by
  unfold cleanK rwAt
  by_cases hj : j < E.length
  · rw [List.getD_eq_getElem?_getD, List.getElem?_append_right (by simp [clean_length]; omega), List.getD_eq_getElem?_getD, clean_length, List.length_take, Nat.min_eq_left (by omega), Nat.sub_self, List.getElem?_drop, Nat.add_zero]
  · rw [List.getD_eq_getElem?_getD, List.getD_eq_getElem?_getD, List.getElem?_eq_none (by simp [clean_length]; omega), List.getElem?_eq_none (by omega)]
theorem cleanK_set (E : List Rw) (y : Rw) (j : Nat) (h : j < E.length) : (cleanK E y j).set j (step (rwAt E j) y) = cleanK E y (j + 1) := by
  unfold cleanK
  have e0 : (clean (E.take j) y).length = j := by rw [clean_length, List.length_take, Nat.min_eq_left (by omega)]
  rw [List.set_append_right _ _ (by omega), e0, Nat.sub_self, List.drop_eq_getElem_cons h, List.set_cons_zero, take_rwAt E j h]
  unfold clean
  rw [List.map_append, List.append_assoc]
  rfl
theorem clean_mem {E : List Rw} {y r : Rw} (h : r ∈ clean E y) : ∃ o, o ∈ E ∧ step o y = r := List.mem_map.1 h
theorem take1_length (E : List Rw) (x : Rw) : (take1 E x).length ≤ E.length + 1 := by
  unfold take1; split
  · omega
  · rw [put_length, clean_length]; exact Nat.le_refl _
theorem redOf_snoc (L : List Rw) (x : Rw) : redOf (L ++ [x]) = take1 (redOf L) x := by unfold redOf; rw [List.foldl_append]; rfl
theorem redOf_take (L : List Rw) (n : Nat) (h : n < L.length) : redOf (L.take (n + 1)) = take1 (redOf (L.take n)) (rwAt L n) := by rw [take_rwAt L n h, redOf_snoc]
theorem redOf_length (L : List Rw) : ∀ n, n ≤ L.length → (redOf (L.take n)).length ≤ n
  | 0, _ => Nat.le_refl _
  | n + 1, h => by rw [redOf_take L n h]; exact Nat.le_trans (take1_length _ _) (by have := redOf_length L n (by omega); omega)
end Ro

theorem RedR.nil (k t : Nat) : RedR k t [] := ⟨Ro.Up.nil k t, fun i j hi => by simp at hi⟩
theorem RedR.of_mem {k t : Nat} {E : List Rw} (hU : Ro.Up k t E) (h : ∀ r, r ∈ E → ∀ s, s ∈ E → lead r.1 ≠ lead s.1 → nth r.1 (lead s.1) = 0) : RedR k t E :=
  ⟨hU, fun i j hi hj hij => h _ (rwAt_mem hi) _ (rwAt_mem hj) (hU.fine.apart i j hi hj hij)⟩
theorem rw_mem {E : List Rw} {r : Rw} (h : r ∈ E) : ∃ i, i < E.length ∧ rwAt E i = r := by
  obtain ⟨i, hi, rfl⟩ := List.mem_iff_getElem.1 h
  exact ⟨i, hi, rwAt_eq E i hi⟩
theorem RedR.mem {k t : Nat} {E : List Rw} (h : RedR k t E) {r s : Rw} (hr : r ∈ E) (hs : s ∈ E) (hne : lead r.1 ≠ lead s.1) : nth r.1 (lead s.1) = 0 := by
  obtain ⟨i, hi, rfl⟩ := rw_mem hr
  obtain ⟨j, hj, rfl⟩ := rw_mem hs
  exact h.clear i j hi hj fun e => hne (by rw [e])
theorem rest_mem {k t : Nat} {E : List Rw} (h : RedR k t E) {x s : Rw} (hx : Ro.Dim k t x) (hs : s ∈ E) : nth (Ro.rest E x).1 (lead s.1) = 0 := by
  obtain ⟨j, hj, rfl⟩ := rw_mem hs
  exact rest_clear h hx hj
theorem scale_nth0 {c : Nat} {l : List Nat} {i : Nat} (h : nth l i = 0) : nth (Gf.scale c l) i = 0 := by
  unfold nth Gf.scale at *
  rw [List.getD_eq_getElem?_getD, List.getElem?_map]
  rw [List.getD_eq_getElem?_getD] at h
  cases he : l[i]? with
  | none => rfl
  | some z =>
    rw [he] at h
    simp only [Option.getD_some] at h
    subst h
    show Gf.mul c 0 = 0
    exact Gf.mul_zero _

/-- What is known of the row that is put in. -/
structure Newr (k t : Nat) (E : List Rw) (y : Rw) : Prop where
  dim : Ro.Dim k t y
  lead : lead y.1 < y.1.length
  one : nth y.1 (Go.Proofs.Ytphdadibfeencaa.lead y.1) = 1
  zero : ∀ s, s ∈ E → nth y.1 (Go.Proofs.Ytphdadibfeencaa.lead s.1) = 0

theorem newr_rest {k t : Nat} {E : List Rw} (h : RedR k t E) {x : Rw} (hx : Ro.Dim k t x) (hz : zeroB (Ro.rest E x).1 = false) : Newr k t E (Ro.norm (Ro.rest E x)) := by
  have hr := Ro.rest_dim h.up.dims hx
  have hl : lead (Ro.rest E x).1 < (Ro.rest E x).1.length := by
    refine Decidable.byContradiction fun hn => ?_
    rw [zeroB_lead.2 hn] at hz; cases hz
  have hll : (Ro.norm (Ro.rest E x)).1.length = (Ro.rest E x).1.length := by show (Gf.scale _ _).length = _; rw [Gf.scale_length]
  refine ⟨Ro.norm_dim hr, by rw [Ro.norm_lead hr, hll]; exact hl, by rw [Ro.norm_lead hr]; exact norm_at hr.2.2.1 hl, fun s hs => ?_⟩
  exact scale_nth0 (rest_mem h hx hs)
theorem Newr.ne {k t : Nat} {E : List Rw} {y : Rw} (h : Newr k t E y) {s : Rw} (hs : s ∈ E) : Go.Proofs.Ytphdadibfeencaa.lead s.1 ≠ Go.Proofs.Ytphdadibfeencaa.lead y.1 := fun e => by
  have h0 := h.zero s hs
  rw [e, h.one] at h0; cases h0
theorem clean_lead {k t : Nat} {E : List Rw} (h : RedR k t E) {y : Rw} (hy : Newr k t E y) {o : Rw} (ho : o ∈ E) : lead (Ro.step o y).1 = lead o.1 :=
  Ro.step_lead (h.up.dims o ho) hy.dim (h.up.leads o ho) (hy.ne ho)
theorem lead_lt_k {k t : Nat} {E : List Rw} (h : RedR k t E) {o : Rw} (ho : o ∈ E) : lead o.1 < k := by rw [← (h.up.dims o ho).1]; exact h.up.leads o ho
theorem Newr.lt {k t : Nat} {E : List Rw} {y : Rw} (h : Newr k t E y) : Go.Proofs.Ytphdadibfeencaa.lead y.1 < k := by rw [← h.dim.1]; exact h.lead

theorem clean_up {k t : Nat} {E : List Rw} (h : RedR k t E) {y : Rw} (hy : Newr k t E y) : Ro.Up k t (Ro.clean E y) := by
  refine ⟨fun r hr => ?_, fun r hr => ?_, ?_, fun r hr => ?_⟩
  · obtain ⟨o, ho, rfl⟩ := Ro.clean_mem hr
    exact Ro.step_dim (h.up.dims o ho) hy.dim
  · obtain ⟨o, ho, rfl⟩ := Ro.clean_mem hr
    rw [clean_lead h hy ho, (Ro.step_dim (h.up.dims o ho) hy.dim).1]; exact lead_lt_k h ho
  · unfold Ro.clean
    rw [List.pairwise_map]
    exact List.Pairwise.imp_of_mem (fun {a b} ha hb hab => by rw [clean_lead h hy ha, clean_lead h hy hb]; exact hab) h.up.rise
  · obtain ⟨o, ho, rfl⟩ := Ro.clean_mem hr
    rw [clean_lead h hy ho, Ro.step_nth (h.up.dims o ho) hy.dim (lead_lt_k h ho), hy.zero o ho, Gf.mul_zero, Nat.zero_xor]
    exact h.up.one o ho
/-- Cleared, and the new row among them: reduced. -/
theorem put_red {k t : Nat} {E : List Rw} (h : RedR k t E) {y : Rw} (hy : Newr k t E y) : RedR k t (Ro.put (Ro.clean E y) y) := by
  have hU := clean_up h hy
  refine RedR.of_mem (Ro.put_up hU hy.dim hy.lead hy.one fun r hr => ?_) fun r hr s hs hne => ?_
  · obtain ⟨o, ho, rfl⟩ := Ro.clean_mem hr
    rw [clean_lead h hy ho]; exact hy.ne ho
  · rw [put_mem_iff, List.mem_cons] at hr hs
    rcases hr with rfl | hr
    · rcases hs with rfl | hs
      · exact absurd rfl hne
      · obtain ⟨o, ho, rfl⟩ := Ro.clean_mem hs
        rw [clean_lead h hy ho]; exact hy.zero o ho
    · obtain ⟨o, ho, rfl⟩ := Ro.clean_mem hr
      rcases hs with rfl | hs
      · rw [Ro.step_nth (h.up.dims o ho) hy.dim hy.lt, hy.one, Gf.mul_one (nth_lt (h.up.dims o ho).2.2.1 _), Nat.xor_self]
      · obtain ⟨p, hp, rfl⟩ := Ro.clean_mem hs
        rw [clean_lead h hy ho, clean_lead h hy hp] at hne
        rw [clean_lead h hy hp, Ro.step_nth (h.up.dims o ho) hy.dim (lead_lt_k h hp), hy.zero p hp, Gf.mul_zero, Nat.zero_xor]
        exact h.mem ho hp hne
theorem take1_red {k t : Nat} {E : List Rw} (h : RedR k t E) {x : Rw} (hx : Ro.Dim k t x) : RedR k t (Ro.take1 E x) := by
  unfold Ro.take1
  split
  · exact h
  · rename_i hz
    exact put_red h (newr_rest h hx (by simpa using hz))

/-- Cleared of a row, with it: the same span. -/
theorem clean_span {E : List Rw} {y : Rw} {f : Rw → Vc} (hf : ∀ o, o ∈ E → ∃ c : B, f (Ro.step o y) = va (vs c (f y)) (f o)) {v : Vc} : Sp (f y :: (Ro.clean E y).map f) v ↔ Sp (f y :: E.map f) v := by
  constructor
  · intro hv
    refine hv.mono fun u hu => ?_
    rcases List.mem_cons.1 hu with rfl | hu
    · exact Sp.mem List.mem_cons_self
    · obtain ⟨r, hr, rfl⟩ := List.mem_map.1 hu
      obtain ⟨o, ho, rfl⟩ := Ro.clean_mem hr
      obtain ⟨c, hc⟩ := hf o ho
      rw [hc]
      exact (Sp.mem List.mem_cons_self).smul c |>.add (Sp.mem (List.mem_cons_of_mem _ (List.mem_map.2 ⟨o, ho, rfl⟩)))
  · intro hv
    refine hv.mono fun u hu => ?_
    rcases List.mem_cons.1 hu with rfl | hu
    · exact Sp.mem List.mem_cons_self
    · obtain ⟨o, ho, rfl⟩ := List.mem_map.1 hu
      obtain ⟨c, hc⟩ := hf o ho
      have h1 : Sp (f y :: (Ro.clean E y).map f) (f (Ro.step o y)) := Sp.mem (List.mem_cons_of_mem _ (List.mem_map.2 ⟨_, List.mem_map.2 ⟨o, ho, rfl⟩, rfl⟩))
      rw [hc] at h1
      exact (Sp.lin _).of_sum ((Sp.mem List.mem_cons_self).smul c) h1
theorem clean_j {k t : Nat} {E : List Rw} (hD : Ro.Dims k t E) {y : Rw} (hy : Ro.Dim k t y) : ∀ o, o ∈ E → ∃ c : B, fj (Ro.step o y) = va (vs c (fj y)) (fj o) := fun o ho => ⟨_, fj_less (nth_lt (hD o ho).2.2.1 _) (hD o ho) hy⟩
theorem clean_1 {k t : Nat} {E : List Rw} (hD : Ro.Dims k t E) {y : Rw} (hy : Ro.Dim k t y) : ∀ o, o ∈ E → ∃ c : B, f1 (Ro.step o y) = va (vs c (f1 y)) (f1 o) := fun o ho => ⟨_, f1_less (nth_lt (hD o ho).2.2.1 _) (hD o ho) hy⟩

theorem take1_span1 {k t : Nat} {E : List Rw} (h : RedR k t E) {x : Rw} (hx : Ro.Dim k t x) {v : Vc} : Sp ((Ro.take1 E x).map f1) v ↔ Sp (f1 x :: E.map f1) v := by
  have hr := Ro.rest_dim h.up.dims hx
  have hsp := (rest_span h.up.dims hx).2
  unfold Ro.take1
  split
  · rename_i hz
    have hz' : f1 (Ro.rest E x) = v0 := (fv_zero hr.2.2.1).2 hz
    rw [hz', va_zero] at hsp
    exact ⟨fun h => h.sub fun y hy => List.mem_cons_of_mem _ hy, fun h => h.mono fun y hy => by
      rcases List.mem_cons.1 hy with rfl | hy
      · exact hsp
      · exact Sp.mem hy⟩
  · rw [put_map, clean_span (clean_1 h.up.dims (Ro.norm_dim hr)), f1_norm hr]
    exact sp_replace normC_bt hsp
theorem take1_span {k t : Nat} {E : List Rw} (h : RedR k t E) {x : Rw} (hx : Ro.Dim k t x) (h0 : zeroB (Ro.rest E x).1 = true → zeroB (Ro.rest E x).2 = true) {v : Vc} : Sp ((Ro.take1 E x).map fj) v ↔ Sp (fj x :: E.map fj) v := by
  have hr := Ro.rest_dim h.up.dims hx
  have hsp := (rest_span h.up.dims hx).1
  have e1 := insert_span h.up.dims hx h0 (v := v)
  unfold Ro.take1
  split
  · rename_i hz
    rw [← e1]
    have hn : ¬ lead (Ro.norm (Ro.rest E x)).1 < (Ro.norm (Ro.rest E x)).1.length := by
      rw [Ro.norm_lead hr]
      have : (Ro.norm (Ro.rest E x)).1.length = (Ro.rest E x).1.length := by show (Gf.scale _ _).length = _; rw [Gf.scale_length]
      rw [this]; exact zeroB_lead.1 hz
    unfold Ro.insert
    rw [if_neg hn]
  · rw [put_map, clean_span (clean_j h.up.dims (Ro.norm_dim hr)), fj_norm hr]
    exact sp_replace normC_bt hsp
theorem redOf_red {k t : Nat} {L : List Rw} (hD : Ro.Dims k t L) : ∀ n, n ≤ L.length → RedR k t (Ro.redOf (L.take n)) ∧ ∀ v, Sp ((Ro.redOf (L.take n)).map f1) v ↔ Sp ((L.take n).map f1) v
  | 0, _ => ⟨RedR.nil k t, fun _ => Iff.rfl⟩
  | n + 1, h => by
    obtain ⟨h1, h2⟩ := redOf_red hD n (by omega)
    have hx := hD.at (show n < L.length by omega)
    rw [Ro.redOf_take L n h]
    refine ⟨take1_red h1 hx, fun v => ?_⟩
    rw [take1_span1 h1 hx, take_rwAt L n h, sp_snoc]
    exact sp_cons_congr h2

/-- Where the row belongs, found by looking from both sides. -/
theorem ahead_found {k t : Nat} {E : List Rw} (hU : Ro.Up k t E) {y : Rw} (hne : ∀ s, s ∈ E → lead s.1 ≠ lead y.1) {r : Nat} (hr : r ≤ E.length) (h0 : 0 < r → ¬ lead y.1 < lead (rwAt E (r - 1)).1) (h1 : r < E.length → lead y.1 ≤ lead (rwAt E r).1) : Ro.ahead E y = r := by
  refine Ro.ahead_eq hr (fun i hi => ?_) ?_
  · have hlast : lead (rwAt E (r - 1)).1 < lead y.1 := by
      have := h0 (by omega)
      have := hne _ (rwAt_mem (show r - 1 < E.length by omega))
      omega
    by_cases he : i = r - 1
    · rw [he]; exact hlast
    · have := List.pairwise_iff_getElem.1 hU.rise i (r - 1) (by omega) (by omega) (by omega)
      rw [← rwAt_eq E i (by omega), ← rwAt_eq E (r - 1) (by omega)] at this
      omega
  · by_cases he : r = E.length
    · exact .inl he
    · right
      have := h1 (by omega)
      omega

end Go.Proofs.Ytphdadibfeencaa

/-
  One element put into a slice at a place, in memory: what the two copies of slices.Insert make of a block of whatever elements. No function of the program in this text.
-/
set_option maxRecDepth 100000
namespace Go.Proofs.Ytphdadibfeencaa
open Go.RowKit

theorem loose_of_row {W : World} {g : Nat} {cs : Array Value} {e : TypeId} {fr : Nat × Nat} (h : W.heap[g]? = some (.cells cs e fr)) (hn : ∀ u ∈ cs.toList, ∀ k : Nat, u ≠ U8 k) : Loose W g := by
  intro j k hj
  rw [cell_of_row W g j cs e fr h, ← Array.getElem?_toList] at hj
  exact hn _ (List.mem_of_getElem? hj) k rfl
theorem row_of_loose {W : World} {g : Nat} {cs : Array Value} {e : TypeId} {fr : Nat × Nat} (h : W.heap[g]? = some (.cells cs e fr)) (hl : Loose W g) : ∀ u ∈ cs.toList, ∀ k : Nat, u ≠ U8 k := by
  intro u hu k e2
  obtain ⟨j, hj⟩ := List.mem_iff_getElem?.1 hu
  refine hl j k ?_
  rw [cell_of_row W g j cs e fr h, ← Array.getElem?_toList, hj, e2]

/-- A list with cells written over, from a place on. -/
def wr (cur : List Value) (o : Nat) (cs : List Value) : List Value := cur.take o ++ cs ++ cur.drop (o + cs.length)
theorem wr_length {cur cs : List Value} {o : Nat} (h : o + cs.length ≤ cur.length) : (wr cur o cs).length = cur.length := by
  unfold wr; simp; omega
/-- What both copies leave, in whatever order. -/
def insd (cur : List Value) (o : Nat) (N D : List Value) : List Value := cur.take o ++ N ++ D ++ cur.drop (o + N.length + D.length)
theorem wr_fwd {cur N D : List Value} {o : Nat} (h : o + N.length + D.length ≤ cur.length) : wr (wr cur o N) (o + N.length) D = insd cur o N D := by
  have e1 : (wr cur o N).take (o + N.length) = cur.take o ++ N := by
    unfold wr
    rw [List.take_append_of_le_length (by simp; omega), List.take_of_length_le (by simp; omega)]
  have e2 : (wr cur o N).drop (o + N.length + D.length) = cur.drop (o + N.length + D.length) := by
    unfold wr
    rw [List.drop_append, List.drop_of_length_le (by simp; omega), List.nil_append, List.drop_drop]
    congr 1
    simp; omega
  unfold insd
  rw [show wr (wr cur o N) (o + N.length) D = (wr cur o N).take (o + N.length) ++ D ++ (wr cur o N).drop (o + N.length + D.length) from rfl, e1, e2]
theorem wr_back {cur N D : List Value} {o : Nat} (h : o + N.length + D.length ≤ cur.length) : wr (wr cur (o + N.length) D) o N = insd cur o N D := by
  have e1 : (wr cur (o + N.length) D).take o = cur.take o := by
    unfold wr
    rw [List.append_assoc, List.take_append_of_le_length (by simp; omega), List.take_take, Nat.min_eq_left (by omega)]
  have e2 : (wr cur (o + N.length) D).drop (o + N.length) = D ++ cur.drop (o + N.length + D.length) := by
    unfold wr
    rw [List.append_assoc, List.drop_append, List.drop_of_length_le (by simp; omega), List.nil_append]
    have : o + N.length - (List.take (o + N.length) cur).length = 0 := by simp; omega
    rw [this, List.drop_zero]
  unfold insd
  rw [show wr (wr cur (o + N.length) D) o N = (wr cur (o + N.length) D).take o ++ N ++ (wr cur (o + N.length) D).drop (o + N.length) from rfl, e1, e2]
  simp [List.append_assoc]
theorem insd_length {cur N D : List Value} {o : Nat} (h : o + N.length + D.length ≤ cur.length) : (insd cur o N D).length = cur.length := by
  unfold insd; simp; omega
theorem insd_take {cur N D A : List Value} {o m : Nat} (hA : cur.take o = A) (ho : A.length = o) (hm : m = o + N.length + D.length) : (insd cur o N D).take m = A ++ N ++ D := by
  unfold insd
  rw [hA, List.take_append_of_le_length (by simp; omega), List.take_of_length_le (by simp; omega)]
theorem insd_mem {cur N D : List Value} {o : Nat} {u : Value} (h : u ∈ insd cur o N D) : u ∈ cur ∨ u ∈ N ∨ u ∈ D := by
  unfold insd at h
  simp only [List.mem_append] at h
  rcases h with ((h | h) | h) | h
  · exact .inl (List.mem_of_mem_take h)
  · exact .inr (.inl h)
  · exact .inr (.inr h)
  · exact .inl (List.mem_of_mem_drop h)

/-- 'copy', of elements of whatever size, into a block that isn't frozen: all is read before anything is written. -/
theorem run_copy_rowN {P : Program} (w : World) (dT sT ty elem : TypeId) (g o dLen dCap : Nat) (a : Addr) (sLen sCap : Nat) (cur : Array Value) (t : TypeId) (cs : List Value) (size m : Nat)
    (hu : P.underlying dT = some (.slice elem)) (hs : (P.info? elem).map (·.size) = some size)
    (hg : w.heap[g]? = some (.cells cur t (0, 0))) (hm : m = Nat.min sLen dLen) (hn : cs.length = m * size)
    (hsrc : ∀ j v, cs[j]? = some v → w.cell? (a.add j) = some v) (hfit : o + cs.length ≤ cur.size) (h1 : ∀ v ∈ cs, v.oneCell' = true) :
    (Builtin.copy_ #[dT, sT] ty #[.slice (some ⟨g, o, none⟩) dLen dCap, .slice (some a) sLen sCap]).run P w =
      .ok (goInt m) (w.setRow g (wr cur.toList o cs).toArray) := by
  have hl := run_loadCells_list (P := P) w a cs hsrc
  have hst := run_storeCells_at P g o t cs 0 cur w hg (by simpa using hfit) h1
  cases hq : P.info? elem with
  | none => simp [hq] at hs
  | some i =>
    have hi : i.size = size := by simpa [hq] using hs
    simp [Builtin.copy_, run_underlying hu, Builtin.lenOf, Builtin.firstCells, sizeOf, typeInfo, hq, hi, ← hm, ← hn, hl, hst, wr]

/-- The first cells of a slice, where these are given. -/
theorem firstCells_take {P : Program} (w : World) (size i : Nat) (b : Addr) (cap : Nat) (xs : List Value) (n : Nat) (hx : xs.length = n * size) (hi : i ≤ n) (h : ∀ j v, xs[j]? = some v → w.cell? (b.add j) = some v) :
    (Builtin.firstCells size i (.slice (some b) i cap)).run P w = .ok (xs.take (i * size)).toArray w :=
  run_firstCells_some w size i b i cap _ (by rw [List.length_take, hx]; exact Nat.min_eq_left (Nat.mul_le_mul_right _ hi)) fun j v hj => by
    rw [List.getElem?_take] at hj
    split at hj
    · exact h j v hj
    · cases hj

/-- The block that both copies wrote in place. -/
theorem own_insd {w w' : World} {B g n cap i size : Nat} {T : TypeId} {xs N : List Value} {cur : Array Value} (h : OwnN w B T size (.slice (some ⟨g, 0, none⟩) n cap) n xs) (hg : w.heap[g]? = some (.cells cur T (0, 0))) (hi : i ≤ n) (hroom : n + 1 ≤ cap)
    (hN : N.length = size) (hnn : ∀ u ∈ N, ∀ k : Nat, u ≠ U8 k) (hw : w'.heap = (w.setRow g (insd cur.toList (i * size) N (xs.drop (i * size))).toArray).heap) (hos : w'.os = w.os) (htp : w'.tape = w.tape) (hout : w'.output = w.output) :
    OwnN w' B T size (.slice (some ⟨g, 0, none⟩) (n + 1) cap) (n + 1) (xs.take (i * size) ++ N ++ xs.drop (i * size)) ∧ w.grownBy w' (some g) ∧ Soft w w' := by
  obtain ⟨⟨hx, h2⟩, hlo⟩ := h
  rcases h2 with ⟨e, _⟩ | ⟨g', cap', cur', e, hB, hg', hnc, hcm, hcs, htake⟩
  · cases e
  simp only [Value.slice.injEq, Option.some.injEq, Addr.mk.injEq, and_true, true_and] at e
  obtain ⟨rfl, rfl⟩ := e
  rw [hg] at hg'
  simp only [Option.some.injEq, Obj.cells.injEq, and_true] at hg'
  obtain rfl := hg'
  have hlo' := hlo g rfl
  have hcur := row_of_loose hg hlo'
  have him : i * size ≤ n * size := Nat.mul_le_mul_right _ hi
  have hsz : (n + 1) * size ≤ cap * size := Nat.mul_le_mul_right _ hroom
  rw [Nat.add_mul, Nat.one_mul] at hsz
  have hcl : cur.toList.length = cap * size := by rw [Array.length_toList]; exact hcs
  have hdl : (xs.drop (i * size)).length = n * size - i * size := by rw [List.length_drop, hx]
  have htk : cur.toList.take (i * size) = xs.take (i * size) := by rw [← htake, List.take_take, Nat.min_eq_left him]
  have hfit : i * size + N.length + (xs.drop (i * size)).length ≤ cur.toList.length := by rw [hdl, hN, hcl]; omega
  have hheap : w'.heap[g]? = some (.cells (insd cur.toList (i * size) N (xs.drop (i * size))).toArray T (0, 0)) := by rw [hw]; exact setRow_heap w g cur _ T _ hg
  have hxu : ∀ u ∈ xs, ∀ k : Nat, u ≠ U8 k := fun u hu k => hcur u (by rw [← htake] at hu; exact List.mem_of_mem_take hu) k
  have hlo2 : Loose w' g := loose_of_row hheap fun u hu k => by
    rcases insd_mem hu with h | h | h
    · exact hcur u h k
    · exact hnn u h k
    · exact hxu u (List.mem_of_mem_drop h) k
  have hgr : w.grownBy w' (some g) := ⟨hos, htp, hout, by rw [hw, setRow_size]; exact Nat.le_refl _, fun k hk hne => by rw [hw]; exact setRow_other w g k _ (by intro e; rw [e] at hne; exact hne rfl)⟩
  refine ⟨⟨⟨?_, .inr ⟨g, cap, _, rfl, hB, hheap, hroom, hcm, ?_, ?_⟩⟩, fun k e => ?_⟩, hgr, Soft.of_grown hgr fun k e => ?_⟩
  · rw [List.length_append, List.length_append, hdl, hN, List.length_take, hx, Nat.min_eq_left him, Nat.add_mul, Nat.one_mul]; omega
  · have := insd_length (cur := cur.toList) (N := N) (D := xs.drop (i * size)) (o := i * size) hfit
    simp only [List.size_toArray]
    rw [this, hcl]
  · refine insd_take htk (by rw [List.length_take, hx, Nat.min_eq_left him]) ?_
    rw [hN, hdl, Nat.add_mul, Nat.one_mul]; omega
  · simp only [Value.ownBlock, Option.some.injEq] at e
    subst e; exact hlo2
  · simp only [Option.some.injEq] at e
    subst e; exact ⟨hlo', hlo2⟩

/-- A new block that both copies wrote. -/
theorem own_insnew {w w' : World} {B g n cap c2 i size : Nat} {T : TypeId} {xs N : List Value} {cur : Array Value} (h : OwnN w B T size (.slice (some ⟨g, 0, none⟩) n cap) n xs) (hi : i ≤ n) (hB : B ≤ w.heap.size) (hroom : n + 1 ≤ c2) (hcm : c2 ≤ maxLen)
    (hN : N.length = size) (hnn : ∀ u ∈ N, ∀ k : Nat, u ≠ U8 k) (hcur : ∀ u ∈ cur.toList, ∀ k : Nat, u ≠ U8 k) (hcs : cur.size = c2 * size) (htk : cur.toList.take (i * size) = xs.take (i * size))
    (hheap : w'.heap[w.heap.size]? = some (.cells (insd cur.toList (i * size) N (xs.drop (i * size))).toArray T (0, 0))) (hb : Below w.heap.size w w') :
    OwnN w' B T size (.slice (some ⟨w.heap.size, 0, none⟩) (n + 1) c2) (n + 1) (xs.take (i * size) ++ N ++ xs.drop (i * size)) ∧ w.grownBy w' (some g) ∧ Soft w w' := by
  obtain ⟨⟨hx, h2⟩, hlo⟩ := h
  have hxu : ∀ u ∈ xs, ∀ k : Nat, u ≠ U8 k := by
    rcases h2 with ⟨e, _⟩ | ⟨g', cap', cur', e, hB, hg', hnc, hcm, hcs, htake⟩
    · cases e
    · simp only [Value.slice.injEq, Option.some.injEq, Addr.mk.injEq, and_true, true_and] at e
      obtain ⟨rfl, rfl⟩ := e
      intro u hu k
      rw [← htake] at hu
      exact row_of_loose hg' (hlo g rfl) u (List.mem_of_mem_take hu) k
  have him : i * size ≤ n * size := Nat.mul_le_mul_right _ hi
  have hsz : (n + 1) * size ≤ c2 * size := Nat.mul_le_mul_right _ hroom
  rw [Nat.add_mul, Nat.one_mul] at hsz
  have hcl : cur.toList.length = c2 * size := by rw [Array.length_toList]; exact hcs
  have hdl : (xs.drop (i * size)).length = n * size - i * size := by rw [List.length_drop, hx]
  have hfit : i * size + N.length + (xs.drop (i * size)).length ≤ cur.toList.length := by rw [hdl, hN, hcl]; omega
  refine ⟨⟨⟨?_, .inr ⟨w.heap.size, c2, _, rfl, hB, hheap, hroom, hcm, ?_, ?_⟩⟩, fun k e => ?_⟩, grown_of_below hb _, Soft.of_below hb⟩
  · rw [List.length_append, List.length_append, hdl, hN, List.length_take, hx, Nat.min_eq_left him, Nat.add_mul, Nat.one_mul]; omega
  · have := insd_length (cur := cur.toList) (N := N) (D := xs.drop (i * size)) (o := i * size) hfit
    simp only [List.size_toArray]
    rw [this, hcl]
  · refine insd_take htk (by rw [List.length_take, hx, Nat.min_eq_left him]) ?_
    rw [hN, hdl, Nat.add_mul, Nat.one_mul]; omega
  · simp only [Value.ownBlock, Option.some.injEq] at e
    subst e
    exact loose_of_row hheap fun u hu k => by
      rcases insd_mem hu with h | h | h
      · exact hcur u h k
      · exact hnn u h k
      · exact hxu u (List.mem_of_mem_drop h) k

end Go.Proofs.Ytphdadibfeencaa

/-
  A list that a call appends to: it lies where it lay, or in a new block.
-/
set_option maxRecDepth 100000
namespace Go.Proofs.Ytphdadibfeencaa
open Go.RowKit

/-- The slice lies where it lay, or in what is newer than the world. -/
def Near (w : World) (v v' : Value) : Prop := v'.ownBlock = v.ownBlock ∨ ∀ k, v'.ownBlock = some k → w.heap.size ≤ k
theorem Near.same (w : World) {v v' : Value} (h : v'.ownBlock = v.ownBlock) : Near w v v' := .inl h
theorem Near.new (w : World) (n c : Nat) (v : Value) : Near w v (.slice (some ⟨w.heap.size, 0, none⟩) n c) := .inr fun k e => by
  simp only [Value.ownBlock, Option.some.injEq] at e
  omega
theorem Near.trans {a b : World} {u v x : Value} (h : Near a u v) (k : Near b v x) (hs : a.heap.size ≤ b.heap.size) : Near a u x := by
  rcases k with k | k
  · rcases h with h | h
    · exact .inl (k.trans h)
    · exact .inr fun j e => h j (k ▸ e)
  · exact .inr fun j e => Nat.le_trans hs (k j e)

theorem append_near {P : Program} (w : World) (B : Nat) (t ty e : TypeId) (i : TypeInfo) (z : Value) (size bytes : Nat) (ht : P.underlying t = some (.slice e)) (hi : P.info? e = some i) (hz : i.zero = some z)
    (hsize : i.size = size) (hby : i.bytes = bytes) (hsz : 0 < size)
    (v : Value) (n : Nat) (xs : List Value) (hown : w.ownsRow B e size v n xs)
    (a : Addr) (m c : Nat) (news : List Value) (hl : news.length = m * size) (hnews : ∀ j u, news[j]? = some u → w.cell? (a.add j) = some u) (h1 : ∀ u ∈ news, u.oneCell' = true)
    (h63 : n + m ≤ maxLen) (hbytes : (n + m) * bytes ≤ 140737488355328) {v' : Value} {w' : World}
    (hr : (Builtin.append_ #[t, t] ty #[v, .slice (some a) m c]).run P w = .ok v' w') : Near w v v' := by
  subst hsize
  subst hby
  rcases hown.2 with ⟨rfl, rfl⟩ | ⟨g0, cap, cur, rfl, hbg, hg0, hnc, hcm, hcs, htake⟩
  · by_cases hm : m = 0
    · subst hm
      have e2 : (Builtin.append_ #[t, t] ty #[.slice none 0 0, .slice (some a) 0 c]).run P w = .ok (.slice none 0 0) w := by
        simp [Builtin.append_, run_underlying ht, sizeOf, typeInfo, hi, Builtin.lenOf, Builtin.firstCells, loadCells, loadCellsFrom]
      rw [e2] at hr
      simp only [Result.ok.injEq] at hr
      rw [← hr.1]; exact .inl rfl
    · have hr2 := run_append_nil (P := P) w t ty e i z ht hi hz a m c news hl hnews (by omega) (by simp only [maxLen] at h63; omega) (by have hb := hbytes; simp only [Nat.zero_add] at hb; omega)
      rw [hr2] at hr
      simp only [Result.ok.injEq] at hr
      rw [← hr.1]; exact Near.new w _ _ _
  · by_cases hroom : n + m ≤ cap
    · have hfit : n * i.size + news.length ≤ cur.size := by rw [hl, hcs, ← Nat.add_mul]; exact Nat.mul_le_mul_right _ hroom
      have hr2 := run_append_room (P := P) w t ty e i ht hi g0 n cap cur hg0 a m c news hl hnews h1 hroom hfit
      rw [hr2] at hr
      simp only [Result.ok.injEq] at hr
      rw [← hr.1]; exact .inl rfl
    · have holds : ∀ j u, xs[j]? = some u → w.cell? ((⟨g0, 0, none⟩ : Addr).add j) = some u := World.ownsRow.cells hown (g := g0) rfl
      have hr2 := run_append_grow (P := P) w t ty e i z ht hi hz ⟨g0, 0, none⟩ n cap xs hown.1 holds a m c news hl hnews (by omega) (by simp only [maxLen] at h63; omega) (growslice_fits (by omega) hbytes)
      rw [hr2] at hr
      simp only [Result.ok.injEq] at hr
      rw [← hr.1]; exact Near.new w _ _ _

theorem wpList_append_near {P : Program} {w : World} {ops : Array Oper} {rest : List Oper} {o : Oper} {a : Act} {Q : Exit → Act → World → Prop} (hgd : o.guard = none) (s x : Operand) (t : TypeId)
    (ho : o.op = .call { callee := .builtin .append, args := #[s, x], argTypes := #[t, t] })
    (B : Nat) (e : TypeId) (i : TypeInfo) (z : Value) (size bytes : Nat) (ht : P.underlying t = some (.slice e)) (hi : P.info? e = some i) (hz : i.zero = some z)
    (hsize : i.size = size) (hby : i.bytes = bytes) (hzs : z.cells.size = size) (hsz : 0 < size)
    (v : Value) (n : Nat) (xs : List Value) (hs : a.eval s = v) (hown : OwnN w B e size v n xs)
    (ad : Addr) (m c : Nat) (news : List Value) (hx : a.eval x = .slice (some ad) m c) (hl : news.length = m * size) (hnews : ∀ j u, news[j]? = some u → w.cell? (ad.add j) = some u) (h1 : ∀ u ∈ news, u.oneCell' = true)
    (hzn : ∀ u ∈ z.cells.toList, ∀ k : Nat, u ≠ U8 k) (hnn : ∀ u ∈ news, ∀ k : Nat, u ≠ U8 k)
    (h63 : n + m ≤ maxLen) (hbytes : (n + m) * bytes ≤ 140737488355328) (hbase : B ≤ w.heap.size)
    (h : ∀ v' w', OwnN w' B e size v' (n + m) (xs ++ news) → w.grownBy w' v.ownBlock → Soft w w' → Near w v v' → wpList P ops Q rest (a.put o.dst v') w') : wpList P ops Q (o :: rest) a w := by
  refine wpList_plain hgd fun K hK => ?_
  obtain ⟨v', w', hrun, h2, h3, h4⟩ := run_append_soft (P := P) w B t o.type e i z size bytes ht hi hz hsize hby hzs hsz v n xs hown ad m c news hl hnews h1 hzn hnn h63 hbytes hbase
  unfold Oper.wp
  simp only [execOp, ho, resolve, invoke, builtin, Sem.run_bind, Sem.run_pure, Result.andThen_ok, List.map_toArray, List.map_cons, List.map_nil, hs, hx, hrun]
  exact hK _ _ (h v' w' h2 h3 h4 (append_near (P := P) w B t o.type e i z size bytes ht hi hz hsize hby hsz v n xs hown.1 ad m c news hl hnews h1 h63 hbytes hrun))

end Go.Proofs.Ytphdadibfeencaa
