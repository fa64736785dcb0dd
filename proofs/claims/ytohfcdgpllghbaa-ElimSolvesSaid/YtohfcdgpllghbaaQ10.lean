/- Texts of one seat, laid together: LaC, Soft. -/
import Derived.Test.YtohfcdgpllghbaaQ9
import Derived.Test.YtohfcdgpllghbaaQ5
import Derived.Test.YtohfcdgpllghbaaQ3
import Derived.Test.YtohfcdgpllghbaaQ4

/-
  Linear algebra over bytes, third part: determinants by the first row (two is 0 here: no signs), and that one isn't 0 just where the rank is full. No program in this text.
-/
set_option maxRecDepth 100000
namespace Go.Proofs.Ytohfcdgpllghbaa
namespace La

/-- The sum over all ways to take one of a list: of it, and of what is left. -/
def P (f : Nat → List Nat → B) : List Nat → B
  | [] => 0
  | x :: xs => f x xs + P (fun y ys => f y (x :: ys)) xs

theorem P_congr {f g : Nat → List Nat → B} {l : List Nat} (h : ∀ x r, f x r = g x r) : P f l = P g l := by
  have : f = g := funext fun x => funext fun r => h x r
  rw [this]
theorem P_add (f g : Nat → List Nat → B) (l : List Nat) : P (fun x r => f x r + g x r) l = P f l + P g l := by
  induction l generalizing f g with
  | nil => exact (badd_zero 0).symm
  | cons x xs ih =>
    show (f x xs + g x xs) + P (fun y ys => f y (x :: ys) + g y (x :: ys)) xs = (f x xs + P _ xs) + (g x xs + P _ xs)
    rw [ih]; ac_rfl
theorem P_mul (c : B) (f : Nat → List Nat → B) (l : List Nat) : P (fun x r => c * f x r) l = c * P f l := by
  induction l generalizing f with
  | nil => exact (bmul_zero c).symm
  | cons x xs ih =>
    show c * f x xs + P (fun y ys => c * f y (x :: ys)) xs = c * (f x xs + P _ xs)
    rw [ih, bmul_add]
theorem P_zero {f : Nat → List Nat → B} {l : List Nat} (h : ∀ x ∈ l, ∀ r, f x r = 0) : P f l = 0 := by
  induction l generalizing f with
  | nil => rfl
  | cons x xs ih =>
    show f x xs + P (fun y ys => f y (x :: ys)) xs = 0
    rw [h x List.mem_cons_self, ih fun y hy r => h y (List.mem_cons_of_mem _ hy) _, badd_zero]

/-- Two taken one behind the other: the other way round it is the same. -/
theorem P_swap (f : Nat → Nat → List Nat → B) (l : List Nat) : P (fun x r => P (fun y s => f x y s) r) l = P (fun x r => P (fun y s => f y x s) r) l := by
  induction l generalizing f with
  | nil => rfl
  | cons x xs ih =>
    show P (fun y s => f x y s) xs + P (fun y ys => f y x ys + P (fun z s => f y z (x :: s)) ys) xs = P (fun y s => f y x s) xs + P (fun y ys => f x y ys + P (fun z s => f z y (x :: s)) ys) xs
    rw [P_add, P_add, ih fun y z s => f y z (x :: s)]
    exact badd_left_comm _ _ _
/-- Where both are alike, all is 0. -/
theorem P_twice {f : Nat → Nat → List Nat → B} (h : ∀ x y s, f x y s = f y x s) (l : List Nat) : P (fun x r => P (fun y s => f x y s) r) l = 0 := by
  induction l generalizing f with
  | nil => rfl
  | cons x xs ih =>
    show P (fun y s => f x y s) xs + P (fun y ys => f y x ys + P (fun z s => f y z (x :: s)) ys) xs = 0
    rw [P_add, ih fun y z s => h y z (x :: s), badd_zero, P_congr fun y s => h x y s, badd_self]

/-- The determinant of rows, at these columns. -/
def D : List Vc → List Nat → B
  | [], _ => 1
  | r :: rs, cols => P (fun x rest => r x * D rs rest) cols

theorem D_cons (r : Vc) (rs : List Vc) (cols : List Nat) : D (r :: rs) cols = P (fun x rest => r x * D rs rest) cols := rfl
theorem D_lin (rs : List Vc) (cols : List Nat) : Lin fun r => D (r :: rs) cols = 0 := by
  refine ⟨P_zero fun x _ r => bzero_mul _, fun {x y} hx hy => ?_, fun {x} c hx => ?_⟩
  · have : D (va x y :: rs) cols = D (x :: rs) cols + D (y :: rs) cols := by
      rw [D_cons, D_cons, D_cons, ← P_add]; exact P_congr fun z r => badd_mul _ _ _
    rw [this, hx, hy, badd_zero]
  · have : D (vs c x :: rs) cols = c * D (x :: rs) cols := by
      rw [D_cons, D_cons, ← P_mul]; exact P_congr fun z r => bmul_assoc _ _ _
    rw [this, hx, bmul_zero]
theorem D_swap (a b : Vc) (rs : List Vc) (cols : List Nat) : D (a :: b :: rs) cols = D (b :: a :: rs) cols := by
  have e : ∀ a b : Vc, D (a :: b :: rs) cols = P (fun x r => P (fun y s => a x * (b y * D rs s)) r) cols := fun a b => by
    rw [D_cons]; exact P_congr fun x r => by rw [D_cons, P_mul]
  rw [e, e, P_swap]
  exact P_congr fun x r => P_congr fun y s => by ac_rfl
theorem D_twice (a : Vc) (rs : List Vc) (cols : List Nat) : D (a :: a :: rs) cols = 0 := by
  have e : D (a :: a :: rs) cols = P (fun x r => P (fun y s => a x * (a y * D rs s)) r) cols := by
    rw [D_cons]; exact P_congr fun x r => by rw [D_cons, P_mul]
  rw [e]
  exact P_twice (f := fun x y s => a x * (a y * D rs s)) (fun x y s => by ac_rfl) cols
theorem D_perm {L M : List Vc} (h : L.Perm M) : ∀ cols, D L cols = D M cols := by
  induction h with
  | nil => intro _; rfl
  | cons x _ ih => intro cols; rw [D_cons, D_cons]; exact P_congr fun y r => by rw [ih]
  | swap x y l => intro cols; exact D_swap _ _ _ _
  | trans _ _ ih1 ih2 => intro cols; rw [ih1, ih2]
theorem D_double {L : List Vc} {x : Vc} {s : List Vc} (h : L.Perm (x :: s)) (hx : x ∈ s) (cols : List Nat) : D L cols = 0 := by
  obtain ⟨a, b, rfl⟩ := List.append_of_mem hx
  rw [D_perm (h.trans (List.Perm.cons x List.perm_middle)), D_twice]

/-- Fewer ranks than rows: the determinant is 0. -/
theorem D_dependent {n : Nat} {L : List Vc} (hs : ∀ v ∈ L, Short n v) (h : rk n (Sp L) < L.length) (cols : List Nat) : D L cols = 0 := by
  obtain ⟨xs, v, ys, rfl, hv⟩ := dependent L hs h
  rw [D_perm List.perm_middle]
  exact hv.within (D_lin (xs ++ ys) cols) fun u hu => D_double (List.Perm.refl _) hu cols

/-- The unit's determinant is 1. -/
theorem D_units (n : Nat) : ∀ cols : List Nat, cols.Nodup → (∀ c ∈ cols, c < n) → D (cols.map (idn n)) cols = 1
  | [], _, _ => rfl
  | c :: cs, hd, hn => by
    rw [List.nodup_cons] at hd
    show idn n c c * D (cs.map (idn n)) cs + P (fun y ys => idn n c y * D (cs.map (idn n)) (c :: ys)) cs = 1
    have hc : idn n c c = 1 := if_pos ⟨rfl, hn c List.mem_cons_self⟩
    rw [hc, bone_mul, D_units n cs hd.2 fun x hx => hn x (List.mem_cons_of_mem _ hx), P_zero, badd_zero]
    intro x hx r
    have : idn n c x = 0 := if_neg fun ⟨e, _⟩ => hd.1 (e ▸ hx)
    rw [this, bzero_mul]

/-- As many of a list's members, no two alike, are the list, in some order. -/
theorem perm_of_sub : ∀ {Y L : List Vc}, Y.Nodup → (∀ y ∈ Y, y ∈ L) → L.length ≤ Y.length → L.Perm Y
  | [], L, _, _, h => by
    have : L = [] := List.eq_nil_of_length_eq_zero (by simpa using h)
    rw [this]
  | y :: Y, L, hd, hs, h => by
    rw [List.nodup_cons] at hd
    obtain ⟨s, t, rfl⟩ := List.append_of_mem (hs y List.mem_cons_self)
    refine List.perm_middle.trans (List.Perm.cons y (perm_of_sub hd.2 (fun z hz => ?_) ?_))
    · have := hs z (List.mem_cons_of_mem _ hz)
      rw [List.mem_append, List.mem_cons] at this
      rw [List.mem_append]
      rcases this with h1 | rfl | h1
      · exact Or.inl h1
      · exact absurd hz hd.1
      · exact Or.inr h1
    · simp only [List.length_append, List.length_cons] at h ⊢; omega

theorem D_zero_all {L : List Vc} {cols : List Nat} (h : D L cols = 0) : ∀ (X Y : List Vc), X.length + Y.length = L.length → (∀ x ∈ X, Sp L x) → (∀ y ∈ Y, y ∈ L) → D (X ++ Y) cols = 0
  | [], Y, hl, _, hY => by
    rw [List.nil_append]
    by_cases hd : Y.Nodup
    · rw [← D_perm (perm_of_sub hd hY (by simp at hl; omega)) cols]; exact h
    · obtain ⟨x, s, hp, hx⟩ : ∃ x s, Y.Perm (x :: s) ∧ x ∈ s := by
        clear hl hY
        induction Y with
        | nil => exact absurd List.nodup_nil hd
        | cons y Y ih =>
          by_cases hy : y ∈ Y
          · exact ⟨y, Y, List.Perm.refl _, hy⟩
          · obtain ⟨x, s, hp, hx⟩ := ih fun hn => hd (List.nodup_cons.2 ⟨hy, hn⟩)
            exact ⟨x, y :: s, (List.Perm.cons y hp).trans (List.Perm.swap _ _ _), List.mem_cons_of_mem _ hx⟩
      exact D_double hp hx cols
  | x :: X, Y, hl, hX, hY => by
    have hx := hX x List.mem_cons_self
    refine hx.within (W := fun z => D (z :: (X ++ Y)) cols = 0) (D_lin _ _) fun z hz => ?_
    rw [← D_perm (List.perm_middle (a := z) (l₁ := X) (l₂ := Y)) cols]
    refine D_zero_all h X (z :: Y) (by simp only [List.length_cons] at hl ⊢; omega) (fun u hu => hX u (List.mem_cons_of_mem _ hu)) fun u hu => ?_
    rcases List.mem_cons.1 hu with rfl | hu
    · exact hz
    · exact hY u hu

/-- A square's determinant isn't 0 just where its rank is full. -/
theorem D_rank {n : Nat} {A : Nat → Vc} (hs : ∀ i, i < n → Short n (A i)) : D (rows A n) (List.range n) ≠ 0 ↔ rk n (Sp (rows A n)) = n := by
  have hs' : ∀ v ∈ rows A n, Short n v := fun v hv => by obtain ⟨i, hi, rfl⟩ := mem_rows.1 hv; exact hs i hi
  constructor
  · intro h
    by_cases hr : rk n (Sp (rows A n)) < n
    · exact absurd (D_dependent hs' (by rwa [rows_length]) _) h
    · exact Nat.le_antisymm (rk_le _ _) (by omega)
  · intro h h0
    have := D_zero_all h0 (rows (idn n) n) [] (by simp [rows_length]) (fun x hx => by
      obtain ⟨i, hi, rfl⟩ := mem_rows.1 hx
      exact full_all hs' h (idn_short n i)) (fun y hy => by cases hy)
    rw [List.append_nil] at this
    have h1 := D_units n (List.range n) List.nodup_range fun c hc => List.mem_range.1 hc
    rw [show (List.range n).map (idn n) = rows (idn n) n from rfl, this] at h1
    exact bone_ne h1.symm

end La
end Go.Proofs.Ytohfcdgpllghbaa

/-
  Steps that leave all bytes alone, whatever else they write; a list without bytes that a call appends to; lists of rows (two slices of bytes each).
-/
set_option maxRecDepth 100000
namespace Go.Proofs.Ytohfcdgpllghbaa
open Go.RowKit

/-- No byte stands in the block. -/
def Loose (w : World) (k : Nat) : Prop := ∀ (i n : Nat), w.cell? ⟨k, i, none⟩ ≠ some (U8 n)

/-- A step that turns only blocks without bytes. -/
structure Soft (w w' : World) : Prop where
  size : w.heap.size ≤ w'.heap.size
  block : ∀ k, k < w.heap.size → w'.heap[k]? = w.heap[k]? ∨ (Loose w k ∧ Loose w' k)

theorem cell_of_heap {w w' : World} {k i : Nat} (h : w'.heap[k]? = w.heap[k]?) : w'.cell? ⟨k, i, none⟩ = w.cell? ⟨k, i, none⟩ := World.cell?_of_block (w := w) h
theorem Loose.of_heap {w w' : World} {k : Nat} (h : w'.heap[k]? = w.heap[k]?) (hl : Loose w k) : Loose w' k := fun i n => by rw [cell_of_heap h]; exact hl i n
theorem Soft.refl (w : World) : Soft w w := ⟨Nat.le_refl _, fun _ _ => .inl rfl⟩
theorem Soft.trans {a b c : World} (h : Soft a b) (k : Soft b c) : Soft a c := by
  refine ⟨Nat.le_trans h.size k.size, fun i hi => ?_⟩
  rcases h.block i hi with h1 | h1
  · rcases k.block i (Nat.lt_of_lt_of_le hi h.size) with h2 | h2
    · exact .inl (h2.trans h1)
    · exact .inr ⟨h2.1.of_heap h1.symm, h2.2⟩
  · rcases k.block i (Nat.lt_of_lt_of_le hi h.size) with h2 | h2
    · exact .inr ⟨h1.1, h1.2.of_heap h2⟩
    · exact .inr ⟨h1.1, h2.2⟩
theorem Soft.of_below {w w' : World} (h : Below w.heap.size w w') : Soft w w' := ⟨h.size, fun k hk => .inl (h.block k hk)⟩
theorem Soft.of_grown {w w' : World} {row : Option Nat} (h : w.grownBy w' row) (hl : ∀ g, row = some g → Loose w g ∧ Loose w' g) : Soft w w' := by
  refine ⟨h.size, fun k hk => ?_⟩
  by_cases hr : some k = row
  · exact .inr (hl k hr.symm)
  · exact .inl (h.block k hk hr)
theorem Loose.of_blk {w : World} {g : Nat} {vs : Array Value} {T : TypeId} (h : Blk w g vs T) (hn : ∀ (i n : Nat), vs[i]? ≠ some (U8 n)) : Loose w g := fun i n => by rw [h.cell]; exact hn i n
theorem Soft.of_box {w w' : World} {g : Nat} {vs vs' : Array Value} {T : TypeId} (hg : w.grownBy w' (some g)) (h : Blk w g vs T) (hn : ∀ (i n : Nat), vs[i]? ≠ some (U8 n)) (h' : Blk w' g vs' T) (hn' : ∀ (i n : Nat), vs'[i]? ≠ some (U8 n)) : Soft w w' :=
  Soft.of_grown hg fun k e => by
    simp only [Option.some.injEq] at e
    subst e; exact ⟨Loose.of_blk h hn, Loose.of_blk h' hn'⟩

theorem Bytes.soft {w w' : World} {v : Value} {l : List Nat} (h : Bytes w v l) (hs : Soft w w') : Bytes w' v l := by
  obtain ⟨a, cap, rfl, h1, h2, h3, h4⟩ := h
  refine ⟨a, cap, rfl, h1, h2, h3, fun hne => ?_⟩
  obtain ⟨b, off, rfl, hlt, hc⟩ := h4 hne
  refine ⟨b, off, rfl, Nat.lt_of_lt_of_le hlt hs.size, fun i hi => ?_⟩
  rcases hs.block b hlt with h5 | h5
  · rw [cell_of_heap h5]; exact hc i hi
  · exact absurd (hc i hi) (h5.1 _ _)
theorem Bytes.at {w : World} {a : Option Addr} {n c : Nat} {l : List Nat} (h : Bytes w (.slice a n c) l) (k : Nat) (hk : k < l.length) : ∃ b off, a = some ⟨b, off, none⟩ ∧ w.cell? ⟨b, off + k, none⟩ = some (U8 (nth l k)) := by
  have h0 := h
  obtain ⟨a', cap, e, _, _, _, h4⟩ := h
  simp only [Value.slice.injEq] at e
  obtain ⟨rfl, rfl, rfl⟩ := e
  obtain ⟨b, off, rfl, _, _⟩ := h4 (by intro e; rw [e] at hk; simp at hk)
  exact ⟨b, off, rfl, h0.cell k hk⟩
theorem IsRow.soft {w w' : World} {u : Value} {p q : List Nat} (h : IsRow w u p q) (hs : Soft w w') : IsRow w' u p q := by
  obtain ⟨v, d, rfl, hv, hd⟩ := h
  exact ⟨v, d, rfl, hv.soft hs, hd.soft hs⟩

/-! ### Lists without bytes that a call appends to -/

/-- As ownsRow; and no byte stands in its block. -/
def OwnN (w : World) (B : Nat) (T : TypeId) (sz : Nat) (v : Value) (n : Nat) (xs : List Value) : Prop := w.ownsRow B T sz v n xs ∧ ∀ g, v.ownBlock = some g → Loose w g

theorem OwnN.nil (w : World) (B : Nat) (T : TypeId) (sz : Nat) : OwnN w B T sz (.slice none 0 0) 0 [] := ⟨World.ownsRow_nil _ _ _ _, fun g e => by cases e⟩
theorem OwnN.keep {w w' : World} {B : Nat} {T : TypeId} {sz : Nat} {v : Value} {n : Nat} {xs : List Value} {row : Option Nat} (h : OwnN w B T sz v n xs) (hg : w.grownBy w' row) (hne : v.ownBlock = none ∨ v.ownBlock ≠ row) : OwnN w' B T sz v n xs := by
  refine ⟨World.ownsRow.kept h.1 hg hne, fun g e => (h.2 g e).of_heap (hg.block g (World.ownsRow.lt h.1 g e).2 ?_)⟩
  rcases hne with h1 | h1
  · rw [e] at h1; cases h1
  · rw [← e]; exact h1
theorem OwnN.go {w w' : World} {B : Nat} {T : TypeId} {sz : Nat} {v : Value} {n : Nat} {xs : List Value} (h : OwnN w B T sz v n xs) (hb : Below w.heap.size w w') : OwnN w' B T sz v n xs :=
  h.keep (grown_of_below hb none) (by cases hv : v.ownBlock <;> simp)
theorem OwnN.mono {w : World} {B C : Nat} {T : TypeId} {sz : Nat} {v : Value} {n : Nat} {xs : List Value} (h : OwnN w B T sz v n xs) (hC : C ≤ B) : OwnN w C T sz v n xs := by
  refine ⟨⟨h.1.1, ?_⟩, h.2⟩
  rcases h.1.2 with hn | ⟨g, cap, cur, e, hB, rest⟩
  · exact Or.inl hn
  · exact Or.inr ⟨g, cap, cur, e, Nat.le_trans hC hB, rest⟩
theorem OwnN.from {w : World} {B : Nat} {T : TypeId} {sz : Nat} {v : Value} {n : Nat} {xs : List Value} (h : OwnN w B T sz v n xs) : ∀ k, v.ownBlock = some k → B ≤ k := fun k hk => (World.ownsRow.lt h.1 k hk).1

theorem zeroCells_mem {z : Array Value} {n : Nat} {u : Value} (h : u ∈ (Builtin.zeroCells z n).toList) : u ∈ z.toList := by
  unfold Builtin.zeroCells at h
  simp only [Array.toList_map, List.mem_map, Array.toList_range, List.mem_range] at h
  obtain ⟨i, hi, rfl⟩ := h
  have hz : 0 < z.size := by
    rcases Nat.eq_zero_or_pos z.size with h0 | h0
    · rw [h0, Nat.mul_zero] at hi; omega
    · exact h0
  have hm : i % z.size < z.size := Nat.mod_lt _ hz
  rw [getElem!_pos z _ hm]
  exact Array.getElem_mem_toList hm

/-- What an append makes of such a list, and that all bytes stay. -/
theorem run_append_soft {P : Program} (w : World) (B : Nat) (t ty e : TypeId) (i : TypeInfo) (z : Value) (size bytes : Nat) (ht : P.underlying t = some (.slice e)) (hi : P.info? e = some i) (hz : i.zero = some z)
    (hsize : i.size = size) (hby : i.bytes = bytes) (hzs : z.cells.size = size) (hsz : 0 < size)
    (v : Value) (n : Nat) (xs : List Value) (hown : OwnN w B e size v n xs)
    (a : Addr) (m c : Nat) (news : List Value) (hl : news.length = m * size) (hnews : ∀ j u, news[j]? = some u → w.cell? (a.add j) = some u) (h1 : ∀ u ∈ news, u.oneCell' = true)
    (hzn : ∀ u ∈ z.cells.toList, ∀ k : Nat, u ≠ U8 k) (hnn : ∀ u ∈ news, ∀ k : Nat, u ≠ U8 k)
    (h63 : n + m ≤ maxLen) (hbytes : (n + m) * bytes ≤ 140737488355328) (hbase : B ≤ w.heap.size) :
    ∃ v' w', (Builtin.append_ #[t, t] ty #[v, .slice (some a) m c]).run P w = .ok v' w' ∧ OwnN w' B e size v' (n + m) (xs ++ news) ∧ w.grownBy w' v.ownBlock ∧ Soft w w' := by
  obtain ⟨v', w', hr, ho, hg, _⟩ := run_append_own (P := P) w B t ty e i z size bytes ht hi hz hsize hby hzs hsz v n xs hown.1 a m c news hl hnews h1 h63 hbytes hbase
  have key : ∀ g, v'.ownBlock = some g → Loose w' g := by
    subst hsize
    subst hby
    have noX : ∀ {ys : List Value}, (∀ u ∈ ys, ∀ k : Nat, u ≠ U8 k) → ∀ (cs : Array Value), cs.toList = ys → ∀ (W : World) (g : Nat) (fr : Nat × Nat), W.heap[g]? = some (.cells cs e fr) → Loose W g := by
      intro ys hys cs hcs W g fr hW j k hj
      rw [cell_of_row W g j cs e fr hW, ← Array.getElem?_toList, hcs] at hj
      exact hys _ (List.mem_of_getElem? hj) k rfl
    rcases hown.1.2 with ⟨rfl, rfl⟩ | ⟨g0, cap, cur, rfl, hbg, hg0, hnc, hcm, hcs, htake⟩
    · by_cases hm : m = 0
      · subst hm
        have hn : news = [] := List.eq_nil_of_length_eq_zero (by simpa using hl)
        subst hn
        have e2 : (Builtin.append_ #[t, t] ty #[.slice none 0 0, .slice (some a) 0 c]).run P w = .ok (.slice none 0 0) w := by
          simp [Builtin.append_, run_underlying ht, sizeOf, typeInfo, hi, Builtin.lenOf, Builtin.firstCells, loadCells, loadCellsFrom]
        rw [e2] at hr
        simp only [Result.ok.injEq] at hr
        obtain ⟨rfl, rfl⟩ := hr
        intro g hg'; cases hg'
      · have hr2 := run_append_nil (P := P) w t ty e i z ht hi hz a m c news hl hnews (by omega) (by simp only [maxLen] at h63; omega) (by have hb := hbytes; simp only [Nat.zero_add] at hb; omega)
        rw [hr2] at hr
        simp only [Result.ok.injEq] at hr
        obtain ⟨rfl, rfl⟩ := hr
        intro g hg'
        simp only [Value.ownBlock, Option.some.injEq] at hg'
        subst hg'
        refine noX (ys := news ++ (Builtin.zeroCells z.cells (grownCap w m 0 e - m)).toList) ?_ _ (by simp) _ _ (0, 0) (heap_alloc_new w.drew _)
        intro u hu k
        rcases List.mem_append.1 hu with hu | hu
        · exact hnn u hu k
        · exact hzn u (zeroCells_mem hu) k
    · have hlo : Loose w g0 := hown.2 g0 rfl
      have hcur : ∀ u ∈ cur.toList, ∀ k : Nat, u ≠ U8 k := by
        intro u hu k e2
        obtain ⟨j, hj⟩ := List.mem_iff_getElem?.1 hu
        refine hlo j k ?_
        rw [cell_of_row w g0 j cur e (0, 0) hg0, ← Array.getElem?_toList, hj, e2]
      by_cases hroom : n + m ≤ cap
      · have hfit : n * i.size + news.length ≤ cur.size := by rw [hl, hcs, ← Nat.add_mul]; exact Nat.mul_le_mul_right _ hroom
        have hr2 := run_append_room (P := P) w t ty e i ht hi g0 n cap cur hg0 a m c news hl hnews h1 hroom hfit
        rw [hr2] at hr
        simp only [Result.ok.injEq] at hr
        obtain ⟨rfl, rfl⟩ := hr
        intro g hg'
        simp only [Value.ownBlock, Option.some.injEq] at hg'
        subst hg'
        refine noX (ys := cur.toList.take (n * i.size) ++ news ++ cur.toList.drop (n * i.size + news.length)) ?_ _ (by simp) _ _ (0, 0) (setRow_heap w g0 cur _ e _ hg0)
        intro u hu k
        rcases List.mem_append.1 hu with hu | hu
        · rcases List.mem_append.1 hu with hu | hu
          · exact hcur u (List.mem_of_mem_take hu) k
          · exact hnn u hu k
        · exact hcur u (List.mem_of_mem_drop hu) k
      · have holds : ∀ j u, xs[j]? = some u → w.cell? ((⟨g0, 0, none⟩ : Addr).add j) = some u := World.ownsRow.cells hown.1 (g := g0) rfl
        have hr2 := run_append_grow (P := P) w t ty e i z ht hi hz ⟨g0, 0, none⟩ n cap xs hown.1.1 holds a m c news hl hnews (by omega) (by simp only [maxLen] at h63; omega) (growslice_fits (by omega) hbytes)
        rw [hr2] at hr
        simp only [Result.ok.injEq] at hr
        obtain ⟨rfl, rfl⟩ := hr
        intro g hg'
        simp only [Value.ownBlock, Option.some.injEq] at hg'
        subst hg'
        refine noX (ys := xs ++ news ++ (Builtin.zeroCells z.cells (grownCap w (n + m) cap e - (n + m))).toList) ?_ _ (by simp) _ _ (0, 0) (heap_alloc_new w.drew _)
        intro u hu k
        rcases List.mem_append.1 hu with hu | hu
        · rcases List.mem_append.1 hu with hu | hu
          · rw [← htake] at hu; exact hcur u (List.mem_of_mem_take hu) k
          · exact hnn u hu k
        · exact hzn u (zeroCells_mem hu) k
  refine ⟨v', w', hr, ⟨ho, key⟩, hg, Soft.of_grown hg fun g e2 => ⟨hown.2 g e2, ?_⟩⟩
  -- the elder block: where it stays the slice's, it is loose by the above; where it doesn't, it is as it was
  by_cases hv : v'.ownBlock = some g
  · exact key g hv
  · refine (hown.2 g e2).of_heap ?_
    subst hsize
    subst hby
    rcases hown.1.2 with ⟨rfl, rfl⟩ | ⟨g0, cap, cur, rfl, hbg, hg0, hnc, hcm, hcs, htake⟩
    · cases e2
    · simp only [Value.ownBlock, Option.some.injEq] at e2
      subst e2
      by_cases hroom : n + m ≤ cap
      · have hfit : n * i.size + news.length ≤ cur.size := by rw [hl, hcs, ← Nat.add_mul]; exact Nat.mul_le_mul_right _ hroom
        have hr2 := run_append_room (P := P) w t ty e i ht hi g0 n cap cur hg0 a m c news hl hnews h1 hroom hfit
        rw [hr2] at hr
        simp only [Result.ok.injEq] at hr
        exact absurd (by rw [← hr.1]; rfl) hv
      · have holds : ∀ j u, xs[j]? = some u → w.cell? ((⟨g0, 0, none⟩ : Addr).add j) = some u := World.ownsRow.cells hown.1 (g := g0) rfl
        have hr2 := run_append_grow (P := P) w t ty e i z ht hi hz ⟨g0, 0, none⟩ n cap xs hown.1.1 holds a m c news hl hnews (by omega) (by simp only [maxLen] at h63; omega) (growslice_fits (by omega) hbytes)
        rw [hr2] at hr
        simp only [Result.ok.injEq] at hr
        rw [← hr.2]
        exact Below.heap_alloc w.drew _ _ (Array.getElem?_eq_some_iff.1 hg0).1

theorem wpList_append_soft {P : Program} {w : World} {ops : Array Oper} {rest : List Oper} {o : Oper} {a : Act} {Q : Exit → Act → World → Prop} (hgd : o.guard = none) (s x : Operand) (t : TypeId)
    (ho : o.op = .call { callee := .builtin .append, args := #[s, x], argTypes := #[t, t] })
    (B : Nat) (e : TypeId) (i : TypeInfo) (z : Value) (size bytes : Nat) (ht : P.underlying t = some (.slice e)) (hi : P.info? e = some i) (hz : i.zero = some z)
    (hsize : i.size = size) (hby : i.bytes = bytes) (hzs : z.cells.size = size) (hsz : 0 < size)
    (v : Value) (n : Nat) (xs : List Value) (hs : a.eval s = v) (hown : OwnN w B e size v n xs)
    (ad : Addr) (m c : Nat) (news : List Value) (hx : a.eval x = .slice (some ad) m c) (hl : news.length = m * size) (hnews : ∀ j u, news[j]? = some u → w.cell? (ad.add j) = some u) (h1 : ∀ u ∈ news, u.oneCell' = true)
    (hzn : ∀ u ∈ z.cells.toList, ∀ k : Nat, u ≠ U8 k) (hnn : ∀ u ∈ news, ∀ k : Nat, u ≠ U8 k)
    (h63 : n + m ≤ maxLen) (hbytes : (n + m) * bytes ≤ 140737488355328) (hbase : B ≤ w.heap.size)
    (h : ∀ v' w', OwnN w' B e size v' (n + m) (xs ++ news) → w.grownBy w' v.ownBlock → Soft w w' → wpList P ops Q rest (a.put o.dst v') w') : wpList P ops Q (o :: rest) a w := by
  refine wpList_plain hgd fun K hK => ?_
  obtain ⟨v', w', hrun, h2, h3, h4⟩ := run_append_soft (P := P) w B t o.type e i z size bytes ht hi hz hsize hby hzs hsz v n xs hown ad m c news hl hnews h1 hzn hnn h63 hbytes hbase
  unfold Oper.wp
  simp only [execOp, ho, resolve, invoke, builtin, Sem.run_bind, Sem.run_pure, Result.andThen_ok, List.map_toArray, List.map_cons, List.map_nil, hs, hx, hrun]
  exact hK _ _ (h v' w' h2 h3 h4)

end Go.Proofs.Ytohfcdgpllghbaa
