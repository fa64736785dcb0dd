/- Texts of one seat, laid together: RefRow, Soft, RowsM, RefCut. -/
import Derived.Test.YtfefkchjhooloaaCutCutsQ1
import Derived.Deep.RegionHeld3

/-
  The document's answer for rows that lead (wellspringref03), in the program: 'Norm', 'Less', 'Same'.
-/
set_option maxRecDepth 100000
namespace Go.Proofs.Ytfefkchjhooloaa
open Go.RowKit

/-- By what a row is multiplied, to be normed. -/
def normC (p : List Nat) : Nat := if lead p < p.length then Gf.inv (nth p (lead p)) else 1
end Go.Proofs.Ytfefkchjhooloaa

/-
  Steps that leave all bytes alone, whatever else they write; a list without bytes that a call appends to; lists of rows (two slices of bytes each).
-/
set_option maxRecDepth 100000
namespace Go.Proofs.Ytfefkchjhooloaa
open Go.RowKit

/-- No byte stands in the block. -/
def Loose (w : World) (k : Nat) : Prop := ∀ (i n : Nat), w.cell? ⟨k, i, none⟩ ≠ some (U8 n)

/-- A step that turns only blocks without bytes. -/
structure Soft (w w' : World) : Prop where
  size : w.heap.size ≤ w'.heap.size
  block : ∀ k, k < w.heap.size → w'.heap[k]? = w.heap[k]? ∨ (Loose w k ∧ Loose w' k)

theorem cell_of_heap {w w' : World} {k i : Nat} (h : w'.heap[k]? = w.heap[k]?) : w'.cell? ⟨k, i, none⟩ = w.cell? ⟨k, i, none⟩ := World.cell?_of_block (w := w) h
theorem Loose.of_heap {w w' : World} {k : Nat} (h : w'.heap[k]? = w.heap[k]?) (hl : Loose w k) : Loose w' k := fun i n => by rw [cell_of_heap h]; exact hl i n
theorem Soft.of_below {w w' : World} (h : Below w.heap.size w w') : Soft w w' := ⟨h.size, fun k hk => .inl (h.block k hk)⟩
theorem Soft.of_grown {w w' : World} {row : Option Nat} (h : w.grownBy w' row) (hl : ∀ g, row = some g → Loose w g ∧ Loose w' g) : Soft w w' := by
  refine ⟨h.size, fun k hk => ?_⟩
  by_cases hr : some k = row
  · exact .inr (hl k hr.symm)
  · exact .inl (h.block k hk hr)
theorem Loose.of_blk {w : World} {g : Nat} {vs : Array Value} {T : TypeId} (h : Blk w g vs T) (hn : ∀ (i n : Nat), vs[i]? ≠ some (U8 n)) : Loose w g := fun i n => by rw [h.cell]; exact hn i n
theorem Bytes.soft {w w' : World} {v : Value} {l : List Nat} (h : Bytes w v l) (hs : Soft w w') : Bytes w' v l := by
  obtain ⟨a, cap, rfl, h1, h2, h3, h4⟩ := h
  refine ⟨a, cap, rfl, h1, h2, h3, fun hne => ?_⟩
  obtain ⟨b, off, rfl, hlt, hc⟩ := h4 hne
  refine ⟨b, off, rfl, Nat.lt_of_lt_of_le hlt hs.size, fun i hi => ?_⟩
  rcases hs.block b hlt with h5 | h5
  · rw [cell_of_heap h5]; exact hc i hi
  · exact absurd (hc i hi) (h5.1 _ _)
theorem Bytes.at {w : World} {a : Option Addr} {n c : Nat} {l : List Nat} (h : Bytes w (.slice a n c) l) (k : Nat) (hk : k < l.length) : ∃ b off, a = some ⟨b, off, none⟩ ∧ w.cell? ⟨b, off + k, none⟩ = some (U8 (nth l k)) := by
  have h0 := h
  obtain ⟨a', cap, e, _, _, _, h4⟩ := h
  simp only [Value.slice.injEq] at e
  obtain ⟨rfl, rfl, rfl⟩ := e
  obtain ⟨b, off, rfl, _, _⟩ := h4 (by intro e; rw [e] at hk; simp at hk)
  exact ⟨b, off, rfl, h0.cell k hk⟩
/-! ### Lists without bytes that a call appends to -/

/-- As ownsRow; and no byte stands in its block. -/
def OwnN (w : World) (B : Nat) (T : TypeId) (sz : Nat) (v : Value) (n : Nat) (xs : List Value) : Prop := w.ownsRow B T sz v n xs ∧ ∀ g, v.ownBlock = some g → Loose w g

theorem OwnN.nil (w : World) (B : Nat) (T : TypeId) (sz : Nat) : OwnN w B T sz (.slice none 0 0) 0 [] := ⟨World.ownsRow_nil _ _ _ _, fun g e => by cases e⟩
theorem OwnN.keep {w w' : World} {B : Nat} {T : TypeId} {sz : Nat} {v : Value} {n : Nat} {xs : List Value} {row : Option Nat} (h : OwnN w B T sz v n xs) (hg : w.grownBy w' row) (hne : v.ownBlock = none ∨ v.ownBlock ≠ row) : OwnN w' B T sz v n xs := by
  refine ⟨World.ownsRow.kept h.1 hg hne, fun g e => (h.2 g e).of_heap (hg.block g (World.ownsRow.lt h.1 g e).2 ?_)⟩
  rcases hne with h1 | h1
  · rw [e] at h1; cases h1
  · rw [← e]; exact h1
theorem OwnN.go {w w' : World} {B : Nat} {T : TypeId} {sz : Nat} {v : Value} {n : Nat} {xs : List Value} (h : OwnN w B T sz v n xs) (hb : Below w.heap.size w w') : OwnN w' B T sz v n xs :=
  h.keep (grown_of_below hb none) (by cases hv : v.ownBlock <;> simp)
theorem OwnN.mono {w : World} {B C : Nat} {T : TypeId} {sz : Nat} {v : Value} {n : Nat} {xs : List Value} (h : OwnN w B T sz v n xs) (hC : C ≤ B) : OwnN w C T sz v n xs := by
  refine ⟨⟨h.1.1, ?_⟩, h.2⟩
  rcases h.1.2 with hn | ⟨g, cap, cur, e, hB, rest⟩
  · exact Or.inl hn
  · exact Or.inr ⟨g, cap, cur, e, Nat.le_trans hC hB, rest⟩
theorem OwnN.from {w : World} {B : Nat} {T : TypeId} {sz : Nat} {v : Value} {n : Nat} {xs : List Value} (h : OwnN w B T sz v n xs) : ∀ k, v.ownBlock = some k → B ≤ k := fun k hk => (World.ownsRow.lt h.1 k hk).1

theorem zeroCells_mem {z : Array Value} {n : Nat} {u : Value} (h : u ∈ (Builtin.zeroCells z n).toList) : u ∈ z.toList := by
  unfold Builtin.zeroCells at h
  simp only [Array.toList_map, List.mem_map, Array.toList_range, List.mem_range] at h
  obtain ⟨i, hi, rfl⟩ := h
  have hz : 0 < z.size := by
    rcases Nat.eq_zero_or_pos z.size with h0 | h0
    · rw [h0, Nat.mul_zero] at hi; omega
    · exact h0
  have hm : i % z.size < z.size := Nat.mod_lt _ hz
  rw [getElem!_pos z _ hm]
  exact Array.getElem_mem_toList hm

/-- What an append makes of such a list, and that all bytes stay. -/
theorem run_append_soft {P : Program} (w : World) (B : Nat) (t ty e : TypeId) (i : TypeInfo) (z : Value) (size bytes : Nat) (ht : P.underlying t = some (.slice e)) (hi : P.info? e = some i) (hz : i.zero = some z)
    (hsize : i.size = size) (hby : i.bytes = bytes) (hzs : z.cells.size = size) (hsz : 0 < size)
    (v : Value) (n : Nat) (xs : List Value) (hown : OwnN w B e size v n xs)
    (a : Addr) (m c : Nat) (news : List Value) (hl : news.length = m * size) (hnews : ∀ j u, news[j]? = some u → w.cell? (a.add j) = some u) (h1 : ∀ u ∈ news, u.oneCell' = true)
    (hzn : ∀ u ∈ z.cells.toList, ∀ k : Nat, u ≠ U8 k) (hnn : ∀ u ∈ news, ∀ k : Nat, u ≠ U8 k)
    (h63 : n + m ≤ maxLen) (hbytes : (n + m) * bytes ≤ 140737488355328) (hbase : B ≤ w.heap.size) :
    ∃ v' w', (Builtin.append_ #[t, t] ty #[v, .slice (some a) m c]).run P w = .ok v' w' ∧ OwnN w' B e size v' (n + m) (xs ++ news) ∧ w.grownBy w' v.ownBlock ∧ Soft w w' := by
  obtain ⟨v', w', hr, ho, hg, _⟩ := run_append_own (P := P) w B t ty e i z size bytes ht hi hz hsize hby hzs hsz v n xs hown.1 a m c news hl hnews h1 h63 hbytes hbase
  have key : ∀ g, v'.ownBlock = some g → Loose w' g := by
    subst hsize
    subst hby
    have noX : ∀ {ys : List Value}, (∀ u ∈ ys, ∀ k : Nat, u ≠ U8 k) → ∀ (cs : Array Value), cs.toList = ys → ∀ (W : World) (g : Nat) (fr : Nat × Nat), W.heap[g]? = some (.cells cs e fr) → Loose W g := by
      intro ys hys cs hcs W g fr hW j k hj
      rw [cell_of_row W g j cs e fr hW, ← Array.getElem?_toList, hcs] at hj
      exact hys _ (List.mem_of_getElem? hj) k rfl
    rcases hown.1.2 with ⟨rfl, rfl⟩ | ⟨g0, cap, cur, rfl, hbg, hg0, hnc, hcm, hcs, htake⟩
    · by_cases hm : m = 0
      · subst hm
        have hn : news = [] := List.eq_nil_of_length_eq_zero (by simpa using hl)
        subst hn
        have e2 : (Builtin.append_ #[t, t] ty #[.slice none 0 0, .slice (some a) 0 c]).run P w = .ok (.slice none 0 0) w := by
          simp [Builtin.append_, run_underlying ht, sizeOf, typeInfo, hi, Builtin.lenOf, Builtin.firstCells, loadCells, loadCellsFrom]
        rw [e2] at hr
        simp only [Result.ok.injEq] at hr
        obtain ⟨rfl, rfl⟩ := hr
        intro g hg'; cases hg'
      · have hr2 := run_append_nil (P := P) w t ty e i z ht hi hz a m c news hl hnews (by omega) (by simp only [maxLen] at h63; omega) (by have hb := hbytes; simp only [Nat.zero_add] at hb; omega)
        rw [hr2] at hr
        simp only [Result.ok.injEq] at hr
        obtain ⟨rfl, rfl⟩ := hr
        intro g hg'
        simp only [Value.ownBlock, Option.some.injEq] at hg'
        subst hg'
        refine noX (ys := news ++ (Builtin.zeroCells z.cells (grownCap w m 0 e - m)).toList) ?_ _ (by simp) _ _ (0, 0) (heap_alloc_new w.drew _)
        intro u hu k
        rcases List.mem_append.1 hu with hu | hu
        · exact hnn u hu k
        · exact hzn u (zeroCells_mem hu) k
    · have hlo : Loose w g0 := hown.2 g0 rfl
      have hcur : ∀ u ∈ cur.toList, ∀ k : Nat, u ≠ U8 k := by
        intro u hu k e2
        obtain ⟨j, hj⟩ := List.mem_iff_getElem?.1 hu
        refine hlo j k ?_
        rw [cell_of_row w g0 j cur e (0, 0) hg0, ← Array.getElem?_toList, hj, e2]
      by_cases hroom : n + m ≤ cap
      · have hfit : n * i.size + news.length ≤ cur.size := by rw [hl, hcs, ← Nat.add_mul]; exact Nat.mul_le_mul_right _ hroom
        have hr2 := run_append_room (P := P) w t ty e i ht hi g0 n cap cur hg0 a m c news hl hnews h1 hroom hfit
        rw [hr2] at hr
        simp only [Result.ok.injEq] at hr
        obtain ⟨rfl, rfl⟩ := hr
        intro g hg'
        simp only [Value.ownBlock, Option.some.injEq] at hg'
        subst hg'
        refine noX (ys := cur.toList.take (n * i.size) ++ news ++ cur.toList.drop (n * i.size + news.length)) ?_ _ (by simp) _ _ (0, 0) (setRow_heap w g0 cur _ e _ hg0)
        intro u hu k
        rcases List.mem_append.1 hu with hu | hu
        · rcases List.mem_append.1 hu with hu | hu
          · exact hcur u (List.mem_of_mem_take hu) k
          · exact hnn u hu k
        · exact hcur u (List.mem_of_mem_drop hu) k
      · have holds : ∀ j u, xs[j]? = some u → w.cell? ((⟨g0, 0, none⟩ : Addr).add j) = some u := World.ownsRow.cells hown.1 (g := g0) rfl
        have hr2 := run_append_grow (P := P) w t ty e i z ht hi hz ⟨g0, 0, none⟩ n cap xs hown.1.1 holds a m c news hl hnews (by omega) (by simp only [maxLen] at h63; omega) (growslice_fits (by omega) hbytes)
        rw [hr2] at hr
        simp only [Result.ok.injEq] at hr
        obtain ⟨rfl, rfl⟩ := hr
        intro g hg'
        simp only [Value.ownBlock, Option.some.injEq] at hg'
        subst hg'
        refine noX (ys := xs ++ news ++ (Builtin.zeroCells z.cells (grownCap w (n + m) cap e - (n + m))).toList) ?_ _ (by simp) _ _ (0, 0) (heap_alloc_new w.drew _)
        intro u hu k
        rcases List.mem_append.1 hu with hu | hu
        · rcases List.mem_append.1 hu with hu | hu
          · rw [← htake] at hu; exact hcur u (List.mem_of_mem_take hu) k
          · exact hnn u hu k
        · exact hzn u (zeroCells_mem hu) k
  refine ⟨v', w', hr, ⟨ho, key⟩, hg, Soft.of_grown hg fun g e2 => ⟨hown.2 g e2, ?_⟩⟩
  -- the elder block: where it stays the slice's, it is loose by the above; where it doesn't, it is as it was
  by_cases hv : v'.ownBlock = some g
  · exact key g hv
  · refine (hown.2 g e2).of_heap ?_
    subst hsize
    subst hby
    rcases hown.1.2 with ⟨rfl, rfl⟩ | ⟨g0, cap, cur, rfl, hbg, hg0, hnc, hcm, hcs, htake⟩
    · cases e2
    · simp only [Value.ownBlock, Option.some.injEq] at e2
      subst e2
      by_cases hroom : n + m ≤ cap
      · have hfit : n * i.size + news.length ≤ cur.size := by rw [hl, hcs, ← Nat.add_mul]; exact Nat.mul_le_mul_right _ hroom
        have hr2 := run_append_room (P := P) w t ty e i ht hi g0 n cap cur hg0 a m c news hl hnews h1 hroom hfit
        rw [hr2] at hr
        simp only [Result.ok.injEq] at hr
        exact absurd (by rw [← hr.1]; rfl) hv
      · have holds : ∀ j u, xs[j]? = some u → w.cell? ((⟨g0, 0, none⟩ : Addr).add j) = some u := World.ownsRow.cells hown.1 (g := g0) rfl
        have hr2 := run_append_grow (P := P) w t ty e i z ht hi hz ⟨g0, 0, none⟩ n cap xs hown.1.1 holds a m c news hl hnews (by omega) (by simp only [maxLen] at h63; omega) (growslice_fits (by omega) hbytes)
        rw [hr2] at hr
        simp only [Result.ok.injEq] at hr
        rw [← hr.2]
        exact Below.heap_alloc w.drew _ _ (Array.getElem?_eq_some_iff.1 hg0).1

theorem wpList_append_soft {P : Program} {w : World} {ops : Array Oper} {rest : List Oper} {o : Oper} {a : Act} {Q : Exit → Act → World → Prop} (hgd : o.guard = none) (s x : Operand) (t : TypeId)
    (ho : o.op = .call { callee := .builtin .append, args := #[s, x], argTypes := #[t, t] })
    (B : Nat) (e : TypeId) (i : TypeInfo) (z : Value) (size bytes : Nat) (ht : P.underlying t = some (.slice e)) (hi : P.info? e = some i) (hz : i.zero = some z)
    (hsize : i.size = size) (hby : i.bytes = bytes) (hzs : z.cells.size = size) (hsz : 0 < size)
    (v : Value) (n : Nat) (xs : List Value) (hs : a.eval s = v) (hown : OwnN w B e size v n xs)
    (ad : Addr) (m c : Nat) (news : List Value) (hx : a.eval x = .slice (some ad) m c) (hl : news.length = m * size) (hnews : ∀ j u, news[j]? = some u → w.cell? (ad.add j) = some u) (h1 : ∀ u ∈ news, u.oneCell' = true)
    (hzn : ∀ u ∈ z.cells.toList, ∀ k : Nat, u ≠ U8 k) (hnn : ∀ u ∈ news, ∀ k : Nat, u ≠ U8 k)
    (h63 : n + m ≤ maxLen) (hbytes : (n + m) * bytes ≤ 140737488355328) (hbase : B ≤ w.heap.size)
    (h : ∀ v' w', OwnN w' B e size v' (n + m) (xs ++ news) → w.grownBy w' v.ownBlock → Soft w w' → wpList P ops Q rest (a.put o.dst v') w') : wpList P ops Q (o :: rest) a w := by
  refine wpList_plain hgd fun K hK => ?_
  obtain ⟨v', w', hrun, h2, h3, h4⟩ := run_append_soft (P := P) w B t o.type e i z size bytes ht hi hz hsize hby hzs hsz v n xs hown ad m c news hl hnews h1 hzn hnn h63 hbytes hbase
  unfold Oper.wp
  simp only [execOp, ho, resolve, invoke, builtin, Sem.run_bind, Sem.run_pure, Result.andThen_ok, List.map_toArray, List.map_cons, List.map_nil, hs, hx, hrun]
  exact hK _ _ (h v' w' h2 h3 h4)

theorem Bytes.drop {w : World} {b off n cap : Nat} {l : List Nat} (h : Bytes w (.slice (some ⟨b, off, none⟩) n cap) l) {i : Nat} (hi : i ≤ l.length) (a : Option Addr) (ha : i < l.length → a = some ⟨b, off + i, none⟩) (m c : Nat) (hm : m = l.length - i) (hc : l.length - i ≤ c) (hc2 : c ≤ 9223372036854775807) : Bytes w (.slice a m c) (l.drop i) := by
  subst hm
  have hl : (l.drop i).length = l.length - i := by simp
  obtain ⟨a', cap', e, h1, h2, h3, h4⟩ := h
  refine ⟨a, c, by rw [hl], by omega, hc2, fun x hx => h3 x (List.mem_of_mem_drop hx), fun hne => ?_⟩
  have hlt : i < l.length := by
    have := List.length_pos_iff.2 hne
    omega
  obtain ⟨b', off', rfl, hlt', hcell⟩ := h4 (by intro e; subst e; simp at hlt)
  simp only [Value.slice.injEq, Option.some.injEq, Addr.mk.injEq] at e
  obtain ⟨⟨rfl, rfl, _⟩, _, _⟩ := e
  refine ⟨b, off + i, ha hlt, hlt', fun j hj => ?_⟩
  rw [hl] at hj
  have := hcell (i + j) (by omega)
  rw [show off + i + j = off + (i + j) by omega, this, nth_eq _ _ (by omega), nth_eq _ _ (by omega)]; simp

end Go.Proofs.Ytfefkchjhooloaa

/-
  Lists of slices of bytes that a call makes and appends to.
-/
set_option maxRecDepth 100000
namespace Go.Proofs.Ytfefkchjhooloaa
open Go.RowKit

/-- Each value reads as its row. -/
structure EachB (w : World) (us : List Value) (ll : List (List Nat)) : Prop where
  len : us.length = ll.length
  row : ∀ i u, us[i]? = some u → Bytes w u (rowAt ll i)
theorem EachB.nil (w : World) : EachB w [] [] := ⟨rfl, fun i u h => by simp at h⟩
theorem EachB.soft {w w' : World} {us : List Value} {ll : List (List Nat)} (h : EachB w us ll) (hs : Soft w w') : EachB w' us ll := ⟨h.len, fun i u hu => (h.row i u hu).soft hs⟩
theorem EachB.append {w : World} {us vs : List Value} {L M : List (List Nat)} (h : EachB w us L) (k : EachB w vs M) : EachB w (us ++ vs) (L ++ M) := by
  refine ⟨by simp [h.len, k.len], fun i u hu => ?_⟩
  by_cases hi : i < us.length
  · rw [List.getElem?_append_left hi] at hu
    have := h.row i u hu
    rw [show rowAt (L ++ M) i = rowAt L i from by unfold rowAt; rw [List.getD_eq_getElem?_getD, List.getElem?_append_left (by rw [← h.len]; exact hi), ← List.getD_eq_getElem?_getD]]
    exact this
  · rw [List.getElem?_append_right (by omega)] at hu
    have := k.row _ u hu
    rw [show rowAt (L ++ M) i = rowAt M (i - us.length) from by unfold rowAt; rw [List.getD_eq_getElem?_getD, List.getElem?_append_right (by rw [← h.len]; omega), ← List.getD_eq_getElem?_getD, h.len]]
    exact this
theorem EachB.one {w : World} {u : Value} {l : List Nat} (h : Bytes w u l) : EachB w [u] [l] := ⟨rfl, fun i v hv => by
  cases i with
  | zero => simp at hv; subst hv; exact h
  | succ i => simp at hv⟩
theorem EachB.noU8 {w : World} {us : List Value} {ll : List (List Nat)} (h : EachB w us ll) : ∀ x ∈ us, (∀ k : Nat, x ≠ U8 k) ∧ x.oneCell' = true := by
  intro x hx
  obtain ⟨i, hi⟩ := List.mem_iff_getElem?.1 hx
  obtain ⟨a, c, rfl, _⟩ := h.row i x hi
  exact ⟨slice_ne _ _ _, rfl⟩

/-- The value is a list of slices of bytes whose block, from B on, the call made itself, or none yet. -/
def OwnM (w : World) (B : Nat) (T : TypeId) (v : Value) (ll : List (List Nat)) : Prop := ∃ us, OwnN w B T 1 v ll.length us ∧ EachB w us ll

theorem OwnM.nil (w : World) (B : Nat) (T : TypeId) : OwnM w B T (.slice none 0 0) [] := ⟨[], OwnN.nil _ _ _ _, EachB.nil _⟩
theorem OwnM.mono {w : World} {B C : Nat} {T : TypeId} {v : Value} {L : List (List Nat)} (h : OwnM w B T v L) (hC : C ≤ B) : OwnM w C T v L := by
  obtain ⟨us, h1, h2⟩ := h; exact ⟨us, h1.mono hC, h2⟩
theorem OwnM.go {w w' : World} {B : Nat} {T : TypeId} {v : Value} {L : List (List Nat)} (h : OwnM w B T v L) (hb : Below w.heap.size w w') : OwnM w' B T v L := by
  obtain ⟨us, h1, h2⟩ := h; exact ⟨us, h1.go hb, h2.soft (Soft.of_below hb)⟩
theorem OwnM.from {w : World} {B : Nat} {T : TypeId} {v : Value} {L : List (List Nat)} (h : OwnM w B T v L) : ∀ k, v.ownBlock = some k → B ≤ k := by obtain ⟨us, h1, _⟩ := h; exact h1.from
theorem OwnM.shape {w : World} {B : Nat} {T : TypeId} {v : Value} {L : List (List Nat)} (h : OwnM w B T v L) : ∃ a c, v = .slice a L.length c := by
  obtain ⟨us, ⟨⟨_, h1⟩, _⟩, _⟩ := h
  rcases h1 with ⟨rfl, h0⟩ | ⟨g, cap, cur, rfl, _⟩
  · rw [h0]; exact ⟨_, _, rfl⟩
  · exact ⟨_, _, rfl⟩
theorem rows_add (b o j : Nat) : (⟨b, o, none⟩ : Addr).add j = ⟨b, o + j, none⟩ := by unfold Addr.add; split <;> simp_all
theorem OwnM.rows {w : World} {B : Nat} {T : TypeId} {v : Value} {L : List (List Nat)} (h : OwnM w B T v L) : IsRows w v L := by
  obtain ⟨us, ⟨h1, _⟩, h2⟩ := h
  have h1' := h1
  rcases h1.2 with ⟨rfl, h0⟩ | ⟨g, cap, cur, rfl, hB, hg, hn, hc, hsz, ht⟩
  · have e : L = [] := List.length_eq_zero_iff.1 h0
    subst e
    exact ⟨none, 0, rfl, by simp, by omega, fun h => absurd rfl h⟩
  · refine ⟨_, cap, rfl, hn, by simpa [maxLen] using hc, fun _ => ⟨g, 0, rfl, (Array.getElem?_eq_some_iff.1 hg).1, fun i hi => ?_⟩⟩
    have hi' : i < us.length := by rw [h2.len]; exact hi
    have c1 := World.ownsRow.cells h1' (g := g) rfl _ _ (List.getElem?_eq_getElem hi')
    rw [rows_add] at c1
    exact ⟨us[i], c1, h2.row i us[i] (List.getElem?_eq_getElem hi')⟩

/-- 'out = append(out, u)', of one slice of bytes. -/
theorem wpList_append_m {ops : Array Oper} {rest : List Oper} {o : Oper} {a : Act} {Q : Exit → Act → World → Prop} {w : World} (hgd : o.guard = none) (s x : Operand) (ho : o.op = .call { callee := .builtin .append, args := #[s, x], argTypes := #[27, 27] })
    (B k : Nat) (v u : Value) (ll : List (List Nat)) (l : List Nat) (T : TypeId) (hs : a.eval s = v) (hx : a.eval x = .slice (some ⟨k, 0, none⟩) 1 1) (hk : k = w.heap.size) (hu : Bytes w u l) (hown : OwnM w B 25 v ll) (hB : B ≤ w.heap.size) (hn : ll.length + 1 ≤ 1000000000000)
    (h : ∀ v' w', OwnM w' B 25 v' (ll ++ [l]) → (w.alloc (.cells #[u] T)).grownBy w' v.ownBlock → Soft (w.alloc (.cells #[u] T)) w' → wpList Try.prog ops Q rest (a.put o.dst v') w') :
    wpList Try.prog ops Q (o :: rest) a (w.alloc (.cells #[u] T)) := by
  subst hk
  obtain ⟨i0, hi, hz0, hz1, hz2⟩ := info_parts infoRow
  have hb : Below w.heap.size w (w.alloc (.cells #[u] T)) := (Below.refl _ _).alloc (Nat.le_refl _) _
  obtain ⟨us, h1, h2⟩ := hown
  have hE := (EachB.one hu).soft (Soft.of_below hb)
  refine wpList_append_soft hgd s x 27 ho B 25 i0 (.slice none 0 0) 1 24 Try.underlying27 hi hz0 hz1 hz2 rfl (by decide) v ll.length us hs (h1.go hb)
    ⟨w.heap.size, 0, none⟩ 1 1 [u] hx rfl ?_ (fun y hy => (hE.noU8 y hy).2) (fun y hy => by simp [Value.cells] at hy; subst hy; exact slice_ne _ _ _) (fun y hy => (hE.noU8 y hy).1) ?_ ?_ (Nat.le_trans hB (by simp)) ?_
  · intro j y hj
    match j, hj with
    | 0, hj => simp at hj; subst hj; simp [Addr.add]
  · unfold maxLen; omega
  · omega
  · intro v' w' k1 k2 k3
    refine h v' w' ⟨us ++ [u], ?_, ?_⟩ k2 k3
    · rw [List.length_append]; exact k1
    · exact ((h2.soft (Soft.of_below hb)).append hE).soft k3

end Go.Proofs.Ytfefkchjhooloaa

/-
  The document's answer for symbols (wellspringref11), in the program: 'Cut'.
-/
set_option maxRecDepth 100000
namespace Go.Proofs.Ytfefkchjhooloaa
open Go.RowKit

/-- The first r bytes of symbol i: the object's, and noughts behind. -/
def cutP (o : List Nat) (s i r : Nat) : List Nat := (List.range r).map fun j => nth o (i * s + j)
/-- The first k symbols of s bytes. -/
def cutL (o : List Nat) (s k : Nat) : List (List Nat) := (List.range k).map fun i => cutP o s i s
theorem cutP_length (o : List Nat) (s i r : Nat) : (cutP o s i r).length = r := by simp [cutP]
theorem cutP_succ (o : List Nat) (s i r : Nat) : cutP o s i (r + 1) = cutP o s i r ++ [nth o (i * s + r)] := by unfold cutP; rw [List.range_succ, List.map_append]; rfl
theorem cutP_lt {o : List Nat} (h : ∀ x, x ∈ o → x < 256) (s i r : Nat) : ∀ x, x ∈ cutP o s i r → x < 256 := by
  intro x hx
  obtain ⟨j, _, rfl⟩ := List.mem_map.1 hx
  exact nth_lt h _
theorem cutL_length (o : List Nat) (s k : Nat) : (cutL o s k).length = k := by simp [cutL]
theorem cutL_succ (o : List Nat) (s k : Nat) : cutL o s (k + 1) = cutL o s k ++ [cutP o s k s] := by unfold cutL; rw [List.range_succ, List.map_append]; rfl
/-- What is wrong with a plan and an object. -/
def cutE (l s k : Int) (o : List Nat) : Int := if checkE l s k = 0 then (if (o.length : Int) = l then 0 else 4) else checkE l s k
def cutS (l s k : Int) (o : List Nat) : List (List Nat) := if cutE l s k o = 0 then cutL o s.toNat k.toNat else []
theorem needs_le (l s : Nat) : 1 ≤ needsN l s ∧ needsN l s ≤ 4097 := by
  unfold needsN
  split
  · omega
  · split
    · omega
    · rename_i h1 h2
      refine ⟨Nat.le_add_left 1 _, ?_⟩
      have : (l - 1) / s < 4097 := Nat.div_lt_of_lt_mul (by omega)
      omega
/-- A plan that may be. -/
theorem check_ok {l s k : Int} (h : checkE l s k = 0) : 0 ≤ l ∧ 1 ≤ s ∧ s ≤ 65535 ∧ 1 ≤ k ∧ k ≤ 4096 ∧ k = (needsN l.toNat s.toNat : Int) := by
  unfold checkE at h
  split at h
  · exact absurd h (by decide)
  · split at h
    · exact absurd h (by decide)
    · split at h
      · exact absurd h (by decide)
      · split at h
        · have := needs_le l.toNat s.toNat
          omega
        · exact absurd h (by decide)
theorem cut_of {l s k : Int} {o : List Nat} : (checkE l s k ≠ 0 → cutE l s k o = checkE l s k ∧ cutS l s k o = []) ∧ (checkE l s k = 0 → (o.length : Int) ≠ l → cutE l s k o = 4 ∧ cutS l s k o = []) ∧ (checkE l s k = 0 → (o.length : Int) = l → cutE l s k o = 0 ∧ cutS l s k o = cutL o s.toNat k.toNat) := by
  refine ⟨fun h => ?_, fun h h' => ?_, fun h h' => ?_⟩
  · have e : cutE l s k o = checkE l s k := by unfold cutE; rw [if_neg h]
    exact ⟨e, by unfold cutS; rw [e, if_neg h]⟩
  · have e : cutE l s k o = 4 := by unfold cutE; rw [if_pos h, if_neg h']
    exact ⟨e, by unfold cutS; rw [e, if_neg (by decide)]⟩
  · have e : cutE l s k o = 0 := by unfold cutE; rw [if_pos h, if_pos h']
    exact ⟨e, by unfold cutS; rw [e, if_pos rfl]⟩
/-- What Cut answers. -/
def CutV (w : World) (ll : List (List Nat)) (err : Int) (e : Ending) (w' : World) : Prop := ∃ v, e = .returned (.tuple #[v, .int .i64 err]) ∧ OwnM w' w.heap.size 25 v ll ∧ Below w.heap.size w w'

set_option maxHeartbeats 2000000 in
theorem refcut_any (l s k : Int) (n : Nat) (v : Value) (o : List Nat) (w : World) (hl : l ≤ 9223372036854775807) (ho : Bytes w v o) :
    Calls Try.prog 10 #[.agg #[.int .i64 l, .int .i64 s, .int .i64 k, .int .u32 (n : Int)], v] w (CutV w (cutS l s k o) (cutE l s k o)) := by
  have HO := Lib.hid ho
  have HO0 := Lib.hid ho
  obtain ⟨a, c, rfl, _⟩ := ho
  obtain ⟨h1, h2, h3⟩ := @cut_of l s k o
  obtain ⟨ce, hce⟩ : ∃ x, x = checkE l s k := ⟨_, rfl⟩
  have HC := Lib.hid hce.symm
  rw [← hce] at h1 h2 h3
  by_cases hc0 : ce = 0
  · subst hc0
    obtain ⟨p1, p2, p3, p4, p5, -⟩ := check_ok hce.symm
    obtain ⟨l', rfl⟩ := Int.eq_ofNat_of_zero_le p1
    obtain ⟨s', rfl⟩ := Int.eq_ofNat_of_zero_le (show 0 ≤ s by omega)
    obtain ⟨k', rfl⟩ := Int.eq_ofNat_of_zero_le (show 0 ≤ k by omega)
    clear hce
    by_cases hol : o.length = l'
    · have HE := Lib.hid (h3 rfl (by omega))
      have hb : ((o.length : Int) != (l' : Int)) = false := by rw [hol]; simp
      clear h1 h2 h3
      rw [HE.out.1, HE.out.2]
      obtain ⟨T, hT⟩ : ∃ T, T = s' * k' := ⟨_, rfl⟩
      have HT := Lib.hid hT
      have ht1 : T ≤ 65535 * 4096 := by rw [hT]; exact Nat.mul_le_mul (by omega) (by omega)
      have hmul : IntKind.i64.wrap ((s' : Int) * (k' : Int)) = (T : Int) := by
        rw [IntKind.wrap_i64, show (s' : Int) * (k' : Int) = (T : Int) by rw [hT]; simp]; omega
      clear hT HE
      subst hol
      go_enter Try.func10, Try.ntmps10
      go_wp2_with fail
      obtain ⟨B, hk1, hs⟩ := blocks1 w #[.int .i64 ((o.length : Int)), .int .i64 ((s' : Int)), .int .i64 ((k' : Int)), .int .u32 (n : Int)] 33
      generalize (w.alloc (.cells #[.int .i64 ((o.length : Int)), .int .i64 ((s' : Int)), .int .i64 ((k' : Int)), .int .u32 (n : Int)] 33)) = W at *
      have K1 := Lib.hid hk1
      have HS := Lib.hid hs
      clear hs hk1
      replace HO := Lib.hid (HO.out.go B)
      have hzW := B.size
      refine (refcheck_any ((o.length : Int)) ((s' : Int)) ((k' : Int)) _ _ hl ⟨n, rfl⟩).mono ?_
      rintro e w1 ⟨rfl, hb⟩
      replace HO := Lib.hid (HO.out.go hb)
      replace K1 := Lib.hid (K1.out.go hb)
      replace B := B.trans (hb.mono B.size)
      have hzw1 := B.size
      clear hb
      rw [HC.out]
      have k0 := K1.out.cell 0
      have k1 := K1.out.cell 1
      have k2 := K1.out.cell 2
      have kl := K1.out.lt
      go_wp2_with fail
      clear k0 k1 k2 kl hb
      go_loopw [7, 8, 9, 10] (fun out one i _ wr => ∃ (q r X : Nat) (wq : World), r < s' ∧ X ≤ T ∧ Hid (X = q * s' + r) ∧ q ≤ k' ∧ i = .int .i64 (X : Int) ∧ Below w.heap.size w wq ∧ Blk wq w.heap.size #[.int .i64 (o.length : Int), .int .i64 (s' : Int), .int .i64 (k' : Int), .int .u32 (n : Int)] 33 ∧ OwnM wq (w.heap.size + 1) 25 out (cutL o s' q) ∧ Below wq.heap.size wq wr ∧ Owns wr wq.heap.size one (cutP o s' q r)) (fun _ _ i _ _ => T - (intOf i).toNat)
      case atStart => exact ⟨0, 0, 0, w1, by omega, by omega, Lib.hid (by simp), by omega, rfl, B, K1.out, OwnM.nil _ _ _, Below.refl _ _, Owns.nil _ _⟩
      case round =>
        clear B K1 HO HS hzW hzw1
        obtain ⟨q, r, X, wq, hr, hX, HX, hq, rfl, hBq, hK, hM, hBr, hone⟩ := hrel
        have BQ := Lib.hid hBq
        have KQ := Lib.hid hK
        have HM := Lib.hid hM
        have BR := Lib.hid hBr
        have HON := Lib.hid hone
        have HSH := Lib.hid hone.shape
        obtain ⟨ma, mc, rfl⟩ := hM.shape
        have K1 := Lib.hid (hK.go hBr)
        have HLP := Lib.hid (cutP_length o s' q r)
        have HLL := Lib.hid (cutL_length o s' q)
        have B := hBq.trans (hBr.mono hBq.size)
        clear hBq hK hM hBr hone
        have k0 := K1.out.cell 0
        have k1 := K1.out.cell 1
        have k2 := K1.out.cell 2
        have kl := K1.out.lt
        by_cases hlt : X < T
        · obtain ⟨y, hy⟩ : ∃ y, y = nth o X := ⟨_, rfl⟩
          have HYS := Lib.hid (show cutP o s' q (r + 1) = cutP o s' q r ++ [y] by rw [cutP_succ, hy, HX.out])
          have HYL := Lib.hid (show ∀ x, x ∈ cutP o s' q (r + 1) → x < 256 from cutP_lt HO0.out.lt s' q (r + 1))
          obtain ⟨P, hP⟩ : ∃ P, P = cutP o s' q r := ⟨_, rfl⟩
          obtain ⟨P1, hP1⟩ : ∃ P, P = cutP o s' q (r + 1) := ⟨_, rfl⟩
          rw [← hP] at HON HLP HYS
          rw [← hP1] at HYS HYL
          have HP1 := Lib.hid hP1
          have HQK := Lib.hid (show q < k' by
            rcases Nat.lt_or_ge q k' with h | h
            · exact h
            · exfalso
              have e := HX.out
              have e2 := HT.out
              have : k' * s' ≤ q * s' := Nat.mul_le_mul_right s' h
              rw [Nat.mul_comm k' s'] at this
              omega)
          have i0 : (0 : Int) ≤ (X : Int) := Int.natCast_nonneg _
          have i1 : (X : Int) < (T : Int) := by omega
          clear hP hP1
          by_cases hxo : X < o.length
          · obtain ⟨ob, oo, rfl, hob⟩ := (HO0.out.go B).at X hxo
            rw [← hy] at hob
            have i2 : (X : Int) < (o.length : Int) := by omega
            clear hy
            obtain ⟨na, nn, nc, e9⟩ := HSH.out
            subst e9
            have hzz := B.size
            go_wp2_with (at_builtin; refine wpList_append_byte rfl (.tmp 38) (.tmp 40) rfl wq.heap.size wr.heap.size _ P _ 5 rfl rfl rfl HON.out BR.out.size ?c1 ?_)
            case c1 => rw [HLP.out]; omega
            intro v5 w5 ho5 hg5
            rw [← HYS.out] at ho5
            have HN5 := Lib.hid ho5
            have BR5 := Lib.hid (BR.out.grown hg5 BR.out.size HON.out.from)
            have K5 := Lib.hid (KQ.out.go BR5.out)
            have B5 := BQ.out.trans (BR5.out.mono BQ.out.size)
            have hz5 := B5.size
            obtain ⟨n5, n6, n7, e5⟩ := ho5.shape
            clear ho5 hg5 k0 k1 k2 kl
            have k0 := K5.out.cell 0
            have k1 := K5.out.cell 1
            have k2 := K5.out.cell 2
            have kl := K5.out.lt
            have hp5 : P1.length = r + 1 := by rw [HP1.out]; exact cutP_length _ _ _ _
            have HN5L : n6 = r + 1 := by
              have := HN5.out.bytes HYL.out
              rw [e5] at this
              obtain ⟨_, _, e, _⟩ := this
              simp only [Value.slice.injEq] at e
              rw [e.2.1, hp5]
            subst e5
            rw [HN5L] at HN5 ⊢
            have HP5 := Lib.hid hp5
            have w1 : IntKind.i64.wrap ((X : Int) + 1) = ((X + 1 : Nat) : Int) := by rw [IntKind.wrap_i64]; omega
            clear HN5L hp5
            by_cases hrs : r + 1 = s'
            · have hb : (((r + 1 : Nat) : Int) == (s' : Int)) = true := by rw [hrs]; simp
              have hb' : ((r : Int) + 1 == (s' : Int)) = true := by rw [← hrs]; simp
              have HX2 := Lib.hid (show X + 1 = (q + 1) * s' + 0 by rw [HX.out, Nat.succ_mul]; omega)
              have HBY := Lib.hid (HN5.out.bytes HYL.out)
              have HST := Lib.hid (show cutL o s' (q + 1) = cutL o s' q ++ [P1] by rw [cutL_succ, HP1.out, hrs])
              have HM5 := Lib.hid (HM.out.go BR5.out)
              clear hrs
              go_wp2_with (at_builtin; refine wpList_append_m rfl (.tmp 47) (.tmp 49) rfl (w.heap.size + 1) w5.heap.size _ _ (cutL o s' q) P1 25 rfl rfl rfl HBY.out HM5.out kl ?c4 ?_)
              case c4 => rw [HLL.out]; omega
              intro v6 w6 ho6 hg6 hs6
              rw [← HST.out] at ho6
              have HO6 := Lib.hid ho6
              have hb6 : Below w5.heap.size w5 (w5.alloc (.cells #[.slice n5 (r + 1) n7] 25)) := (Below.refl _ _).alloc (Nat.le_refl _) _
              have B6 := Lib.hid ((B5.trans (hb6.mono hz5)).grown hg6 (Nat.le_trans hz5 hb6.size) (fun b e => by have := HM5.out.from b e; omega))
              have K6 := Lib.hid ((K5.out.go hb6).grown hg6 (fun e => by have := HM5.out.from _ e.symm; omega))
              clear ho6 hg6 hs6 hb6 k0 k1 k2 kl
              go_wp2_with fail
              go_roundw
              case rel => exact ⟨q + 1, 0, X + 1, w6, by omega, by omega, HX2, HQK.out, by go_num, B6.out, K6.out, HO6.out, Below.refl _ _, Owns.nil _ _⟩
              case measure => simp [intOf]; omega
            · have hb : (((r + 1 : Nat) : Int) == (s' : Int)) = false := beq_eq_false_iff_ne.2 (by omega)
              have hb' : ((r : Int) + 1 == (s' : Int)) = false := beq_eq_false_iff_ne.2 (by omega)
              have HX2 := Lib.hid (show X + 1 = q * s' + (r + 1) by rw [HX.out]; omega)
              go_wp2_with fail
              go_roundw
              case rel => exact ⟨q, r + 1, X + 1, wq, by omega, by omega, HX2, hq, by go_num, BQ.out, KQ.out, HM.out, BR5.out, by rw [← HP1.out]; exact HN5.out⟩
              case measure => simp [intOf]; omega
          · have hy0 : y = 0 := by rw [hy]; unfold nth; rw [List.getD_eq_getElem?_getD, List.getElem?_eq_none (by omega)]; rfl
            have i2 : ¬ (X : Int) < (o.length : Int) := by omega
            subst hy0
            clear hy
            obtain ⟨na, nn, nc, e9⟩ := HSH.out
            subst e9
            have hzz := B.size
            go_wp2_with (at_builtin; refine wpList_append_byte rfl (.tmp 38) (.tmp 40) rfl wq.heap.size wr.heap.size _ P _ 5 rfl rfl rfl HON.out BR.out.size ?c1 ?_)
            case c1 => rw [HLP.out]; omega
            intro v5 w5 ho5 hg5
            rw [← HYS.out] at ho5
            have HN5 := Lib.hid ho5
            have BR5 := Lib.hid (BR.out.grown hg5 BR.out.size HON.out.from)
            have K5 := Lib.hid (KQ.out.go BR5.out)
            have B5 := BQ.out.trans (BR5.out.mono BQ.out.size)
            have hz5 := B5.size
            obtain ⟨n5, n6, n7, e5⟩ := ho5.shape
            clear ho5 hg5 k0 k1 k2 kl
            have k0 := K5.out.cell 0
            have k1 := K5.out.cell 1
            have k2 := K5.out.cell 2
            have kl := K5.out.lt
            have hp5 : P1.length = r + 1 := by rw [HP1.out]; exact cutP_length _ _ _ _
            have HN5L : n6 = r + 1 := by
              have := HN5.out.bytes HYL.out
              rw [e5] at this
              obtain ⟨_, _, e, _⟩ := this
              simp only [Value.slice.injEq] at e
              rw [e.2.1, hp5]
            subst e5
            rw [HN5L] at HN5 ⊢
            have HP5 := Lib.hid hp5
            have w1 : IntKind.i64.wrap ((X : Int) + 1) = ((X + 1 : Nat) : Int) := by rw [IntKind.wrap_i64]; omega
            clear HN5L hp5
            by_cases hrs : r + 1 = s'
            · have hb : (((r + 1 : Nat) : Int) == (s' : Int)) = true := by rw [hrs]; simp
              have hb' : ((r : Int) + 1 == (s' : Int)) = true := by rw [← hrs]; simp
              have HX2 := Lib.hid (show X + 1 = (q + 1) * s' + 0 by rw [HX.out, Nat.succ_mul]; omega)
              have HBY := Lib.hid (HN5.out.bytes HYL.out)
              have HST := Lib.hid (show cutL o s' (q + 1) = cutL o s' q ++ [P1] by rw [cutL_succ, HP1.out, hrs])
              have HM5 := Lib.hid (HM.out.go BR5.out)
              clear hrs
              go_wp2_with (at_builtin; refine wpList_append_m rfl (.tmp 47) (.tmp 49) rfl (w.heap.size + 1) w5.heap.size _ _ (cutL o s' q) P1 25 rfl rfl rfl HBY.out HM5.out kl ?c4 ?_)
              case c4 => rw [HLL.out]; omega
              intro v6 w6 ho6 hg6 hs6
              rw [← HST.out] at ho6
              have HO6 := Lib.hid ho6
              have hb6 : Below w5.heap.size w5 (w5.alloc (.cells #[.slice n5 (r + 1) n7] 25)) := (Below.refl _ _).alloc (Nat.le_refl _) _
              have B6 := Lib.hid ((B5.trans (hb6.mono hz5)).grown hg6 (Nat.le_trans hz5 hb6.size) (fun b e => by have := HM5.out.from b e; omega))
              have K6 := Lib.hid ((K5.out.go hb6).grown hg6 (fun e => by have := HM5.out.from _ e.symm; omega))
              clear ho6 hg6 hs6 hb6 k0 k1 k2 kl
              go_wp2_with fail
              go_roundw
              case rel => exact ⟨q + 1, 0, X + 1, w6, by omega, by omega, HX2, HQK.out, by go_num, B6.out, K6.out, HO6.out, Below.refl _ _, Owns.nil _ _⟩
              case measure => simp [intOf]; omega
            · have hb : (((r + 1 : Nat) : Int) == (s' : Int)) = false := beq_eq_false_iff_ne.2 (by omega)
              have hb' : ((r : Int) + 1 == (s' : Int)) = false := beq_eq_false_iff_ne.2 (by omega)
              have HX2 := Lib.hid (show X + 1 = q * s' + (r + 1) by rw [HX.out]; omega)
              go_wp2_with fail
              go_roundw
              case rel => exact ⟨q, r + 1, X + 1, wq, by omega, by omega, HX2, hq, by go_num, BQ.out, KQ.out, HM.out, BR5.out, by rw [← HP1.out]; exact HN5.out⟩
              case measure => simp [intOf]; omega
        · obtain rfl : X = T := by omega
          have hqk : q = k' := by
            have e := HX.out
            rw [HT.out] at e
            rcases Nat.lt_or_ge q k' with h | h
            · exfalso
              have : (q + 1) * s' ≤ k' * s' := Nat.mul_le_mul_right s' h
              rw [Nat.succ_mul, Nat.mul_comm k' s'] at this
              omega
            · omega
          subst hqk
          go_wp2_with fail
          go_ret2
          exact ⟨_, rfl, (HM.out.go BR.out).mono (Nat.le_succ _), B⟩
    · have HE := Lib.hid (h2 rfl (by omega))
      have hb : ((o.length : Int) != (l' : Int)) = true := by rw [bne_iff_ne]; omega
      clear h1 h2 h3 hol
      rw [HE.out.1, HE.out.2]
      go_enter Try.func10, Try.ntmps10
      go_wp2_with fail
      obtain ⟨B, hk1, hs⟩ := blocks1 w #[.int .i64 ((l' : Int)), .int .i64 ((s' : Int)), .int .i64 ((k' : Int)), .int .u32 (n : Int)] 33
      generalize (w.alloc (.cells #[.int .i64 ((l' : Int)), .int .i64 ((s' : Int)), .int .i64 ((k' : Int)), .int .u32 (n : Int)] 33)) = W at *
      have K1 := Lib.hid hk1
      have HS := Lib.hid hs
      clear hs hk1
      replace HO := Lib.hid (HO.out.go B)
      have hzW := B.size
      refine (refcheck_any ((l' : Int)) ((s' : Int)) ((k' : Int)) _ _ hl ⟨n, rfl⟩).mono ?_
      rintro e w1 ⟨rfl, hb⟩
      replace HO := Lib.hid (HO.out.go hb)
      replace K1 := Lib.hid (K1.out.go hb)
      replace B := B.trans (hb.mono B.size)
      have hzw1 := B.size
      clear hb
      rw [HC.out]
      have k0 := K1.out.cell 0
      have k1 := K1.out.cell 1
      have k2 := K1.out.cell 2
      have kl := K1.out.lt
      go_wp2_with fail
      go_ret2
      exact ⟨_, rfl, OwnM.nil _ _ _, B⟩
  · have HE := Lib.hid (h1 hc0)
    have hb : (ce != 0) = true := by rw [bne_iff_ne]; exact hc0
    clear h1 h2 h3 hce
    rw [HE.out.1, HE.out.2]
    go_enter Try.func10, Try.ntmps10
    go_wp2_with fail
    obtain ⟨B, hk1, hs⟩ := blocks1 w #[.int .i64 (l), .int .i64 (s), .int .i64 (k), .int .u32 (n : Int)] 33
    generalize (w.alloc (.cells #[.int .i64 (l), .int .i64 (s), .int .i64 (k), .int .u32 (n : Int)] 33)) = W at *
    have K1 := Lib.hid hk1
    have HS := Lib.hid hs
    clear hs hk1
    replace HO := Lib.hid (HO.out.go B)
    have hzW := B.size
    refine (refcheck_any (l) (s) (k) _ _ hl ⟨n, rfl⟩).mono ?_
    rintro e w1 ⟨rfl, hb⟩
    replace HO := Lib.hid (HO.out.go hb)
    replace K1 := Lib.hid (K1.out.go hb)
    replace B := B.trans (hb.mono B.size)
    have hzw1 := B.size
    clear hb
    rw [HC.out]
    have k0 := K1.out.cell 0
    have k1 := K1.out.cell 1
    have k2 := K1.out.cell 2
    have kl := K1.out.lt
    go_wp2_with fail
    go_ret2
    exact ⟨_, rfl, OwnM.nil _ _ _, B⟩

end Go.Proofs.Ytfefkchjhooloaa
