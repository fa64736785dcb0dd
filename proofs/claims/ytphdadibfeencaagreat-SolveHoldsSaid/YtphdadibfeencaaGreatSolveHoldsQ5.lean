/- Texts of one seat, laid together: Soft, RowL, RowMath. -/
import Derived.Test.YtphdadibfeencaaGreatSolveHoldsQ4
import Derived.Test.YtphdadibfeencaaGreatSolveHoldsQ3

/-
  Steps that leave all bytes alone, whatever else they write; a list without bytes that a call appends to; lists of rows (two slices of bytes each).
-/
set_option maxRecDepth 100000
namespace Go.Proofs.YtphdadibfeencaaGreat
open Go.RowKit

/-- No byte stands in the block. -/
def Loose (w : World) (k : Nat) : Prop := ∀ (i n : Nat), w.cell? ⟨k, i, none⟩ ≠ some (U8 n)

/-- A step that turns only blocks without bytes. -/
structure Soft (w w' : World) : Prop where
  size : w.heap.size ≤ w'.heap.size
  block : ∀ k, k < w.heap.size → w'.heap[k]? = w.heap[k]? ∨ (Loose w k ∧ Loose w' k)

theorem cell_of_heap {w w' : World} {k i : Nat} (h : w'.heap[k]? = w.heap[k]?) : w'.cell? ⟨k, i, none⟩ = w.cell? ⟨k, i, none⟩ := World.cell?_of_block (w := w) h
theorem Loose.of_heap {w w' : World} {k : Nat} (h : w'.heap[k]? = w.heap[k]?) (hl : Loose w k) : Loose w' k := fun i n => by rw [cell_of_heap h]; exact hl i n
theorem Soft.refl (w : World) : Soft w w := ⟨Nat.le_refl _, fun _ _ => .inl rfl⟩
theorem Soft.trans {a b c : World} (h : Soft a b) (k : Soft b c) : Soft a c := by
  refine ⟨Nat.le_trans h.size k.size, fun i hi => ?_⟩
  rcases h.block i hi with h1 | h1
  · rcases k.block i (Nat.lt_of_lt_of_le hi h.size) with h2 | h2
    · exact .inl (h2.trans h1)
    · exact .inr ⟨h2.1.of_heap h1.symm, h2.2⟩
  · rcases k.block i (Nat.lt_of_lt_of_le hi h.size) with h2 | h2
    · exact .inr ⟨h1.1, h1.2.of_heap h2⟩
    · exact .inr ⟨h1.1, h2.2⟩
theorem Soft.of_below {w w' : World} (h : Below w.heap.size w w') : Soft w w' := ⟨h.size, fun k hk => .inl (h.block k hk)⟩
theorem Soft.of_grown {w w' : World} {row : Option Nat} (h : w.grownBy w' row) (hl : ∀ g, row = some g → Loose w g ∧ Loose w' g) : Soft w w' := by
  refine ⟨h.size, fun k hk => ?_⟩
  by_cases hr : some k = row
  · exact .inr (hl k hr.symm)
  · exact .inl (h.block k hk hr)
theorem Loose.of_blk {w : World} {g : Nat} {vs : Array Value} {T : TypeId} (h : Blk w g vs T) (hn : ∀ (i n : Nat), vs[i]? ≠ some (U8 n)) : Loose w g := fun i n => by rw [h.cell]; exact hn i n
theorem Soft.of_box {w w' : World} {g : Nat} {vs vs' : Array Value} {T : TypeId} (hg : w.grownBy w' (some g)) (h : Blk w g vs T) (hn : ∀ (i n : Nat), vs[i]? ≠ some (U8 n)) (h' : Blk w' g vs' T) (hn' : ∀ (i n : Nat), vs'[i]? ≠ some (U8 n)) : Soft w w' :=
  Soft.of_grown hg fun k e => by
    simp only [Option.some.injEq] at e
    subst e; exact ⟨Loose.of_blk h hn, Loose.of_blk h' hn'⟩

theorem Bytes.soft {w w' : World} {v : Value} {l : List Nat} (h : Bytes w v l) (hs : Soft w w') : Bytes w' v l := by
  obtain ⟨a, cap, rfl, h1, h2, h3, h4⟩ := h
  refine ⟨a, cap, rfl, h1, h2, h3, fun hne => ?_⟩
  obtain ⟨b, off, rfl, hlt, hc⟩ := h4 hne
  refine ⟨b, off, rfl, Nat.lt_of_lt_of_le hlt hs.size, fun i hi => ?_⟩
  rcases hs.block b hlt with h5 | h5
  · rw [cell_of_heap h5]; exact hc i hi
  · exact absurd (hc i hi) (h5.1 _ _)
theorem IsRow.soft {w w' : World} {u : Value} {p q : List Nat} (h : IsRow w u p q) (hs : Soft w w') : IsRow w' u p q := by
  obtain ⟨v, d, rfl, hv, hd⟩ := h
  exact ⟨v, d, rfl, hv.soft hs, hd.soft hs⟩

/-! ### Lists without bytes that a call appends to -/

/-- As ownsRow; and no byte stands in its block. -/
def OwnN (w : World) (B : Nat) (T : TypeId) (sz : Nat) (v : Value) (n : Nat) (xs : List Value) : Prop := w.ownsRow B T sz v n xs ∧ ∀ g, v.ownBlock = some g → Loose w g

theorem OwnN.nil (w : World) (B : Nat) (T : TypeId) (sz : Nat) : OwnN w B T sz (.slice none 0 0) 0 [] := ⟨World.ownsRow_nil _ _ _ _, fun g e => by cases e⟩
theorem OwnN.keep {w w' : World} {B : Nat} {T : TypeId} {sz : Nat} {v : Value} {n : Nat} {xs : List Value} {row : Option Nat} (h : OwnN w B T sz v n xs) (hg : w.grownBy w' row) (hne : v.ownBlock = none ∨ v.ownBlock ≠ row) : OwnN w' B T sz v n xs := by
  refine ⟨World.ownsRow.kept h.1 hg hne, fun g e => (h.2 g e).of_heap (hg.block g (World.ownsRow.lt h.1 g e).2 ?_)⟩
  rcases hne with h1 | h1
  · rw [e] at h1; cases h1
  · rw [← e]; exact h1
theorem OwnN.go {w w' : World} {B : Nat} {T : TypeId} {sz : Nat} {v : Value} {n : Nat} {xs : List Value} (h : OwnN w B T sz v n xs) (hb : Below w.heap.size w w') : OwnN w' B T sz v n xs :=
  h.keep (grown_of_below hb none) (by cases hv : v.ownBlock <;> simp)
theorem OwnN.mono {w : World} {B C : Nat} {T : TypeId} {sz : Nat} {v : Value} {n : Nat} {xs : List Value} (h : OwnN w B T sz v n xs) (hC : C ≤ B) : OwnN w C T sz v n xs := by
  refine ⟨⟨h.1.1, ?_⟩, h.2⟩
  rcases h.1.2 with hn | ⟨g, cap, cur, e, hB, rest⟩
  · exact Or.inl hn
  · exact Or.inr ⟨g, cap, cur, e, Nat.le_trans hC hB, rest⟩
theorem OwnN.from {w : World} {B : Nat} {T : TypeId} {sz : Nat} {v : Value} {n : Nat} {xs : List Value} (h : OwnN w B T sz v n xs) : ∀ k, v.ownBlock = some k → B ≤ k := fun k hk => (World.ownsRow.lt h.1 k hk).1

theorem zeroCells_mem {z : Array Value} {n : Nat} {u : Value} (h : u ∈ (Builtin.zeroCells z n).toList) : u ∈ z.toList := by
  unfold Builtin.zeroCells at h
  simp only [Array.toList_map, List.mem_map, Array.toList_range, List.mem_range] at h
  obtain ⟨i, hi, rfl⟩ := h
  have hz : 0 < z.size := by
    rcases Nat.eq_zero_or_pos z.size with h0 | h0
    · rw [h0, Nat.mul_zero] at hi; omega
    · exact h0
  have hm : i % z.size < z.size := Nat.mod_lt _ hz
  rw [getElem!_pos z _ hm]
  exact Array.getElem_mem_toList hm

/-- What an append makes of such a list, and that all bytes stay. -/
theorem run_append_soft {P : Program} (w : World) (B : Nat) (t ty e : TypeId) (i : TypeInfo) (z : Value) (size bytes : Nat) (ht : P.underlying t = some (.slice e)) (hi : P.info? e = some i) (hz : i.zero = some z)
    (hsize : i.size = size) (hby : i.bytes = bytes) (hzs : z.cells.size = size) (hsz : 0 < size)
    (v : Value) (n : Nat) (xs : List Value) (hown : OwnN w B e size v n xs)
    (a : Addr) (m c : Nat) (news : List Value) (hl : news.length = m * size) (hnews : ∀ j u, news[j]? = some u → w.cell? (a.add j) = some u) (h1 : ∀ u ∈ news, u.oneCell' = true)
    (hzn : ∀ u ∈ z.cells.toList, ∀ k : Nat, u ≠ U8 k) (hnn : ∀ u ∈ news, ∀ k : Nat, u ≠ U8 k)
    (h63 : n + m ≤ maxLen) (hbytes : (n + m) * bytes ≤ 140737488355328) (hbase : B ≤ w.heap.size) :
    ∃ v' w', (Builtin.append_ #[t, t] ty #[v, .slice (some a) m c]).run P w = .ok v' w' ∧ OwnN w' B e size v' (n + m) (xs ++ news) ∧ w.grownBy w' v.ownBlock ∧ Soft w w' := by
  obtain ⟨v', w', hr, ho, hg, _⟩ := run_append_own (P := P) w B t ty e i z size bytes ht hi hz hsize hby hzs hsz v n xs hown.1 a m c news hl hnews h1 h63 hbytes hbase
  have key : ∀ g, v'.ownBlock = some g → Loose w' g := by
    subst hsize
    subst hby
    have noX : ∀ {ys : List Value}, (∀ u ∈ ys, ∀ k : Nat, u ≠ U8 k) → ∀ (cs : Array Value), cs.toList = ys → ∀ (W : World) (g : Nat) (fr : Nat × Nat), W.heap[g]? = some (.cells cs e fr) → Loose W g := by
      intro ys hys cs hcs W g fr hW j k hj
      rw [cell_of_row W g j cs e fr hW, ← Array.getElem?_toList, hcs] at hj
      exact hys _ (List.mem_of_getElem? hj) k rfl
    rcases hown.1.2 with ⟨rfl, rfl⟩ | ⟨g0, cap, cur, rfl, hbg, hg0, hnc, hcm, hcs, htake⟩
    · by_cases hm : m = 0
      · subst hm
        have hn : news = [] := List.eq_nil_of_length_eq_zero (by simpa using hl)
        subst hn
        have e2 : (Builtin.append_ #[t, t] ty #[.slice none 0 0, .slice (some a) 0 c]).run P w = .ok (.slice none 0 0) w := by
          simp [Builtin.append_, run_underlying ht, sizeOf, typeInfo, hi, Builtin.lenOf, Builtin.firstCells, loadCells, loadCellsFrom]
        rw [e2] at hr
        simp only [Result.ok.injEq] at hr
        obtain ⟨rfl, rfl⟩ := hr
        intro g hg'; cases hg'
      · have hr2 := run_append_nil (P := P) w t ty e i z ht hi hz a m c news hl hnews (by omega) (by simp only [maxLen] at h63; omega) (by have hb := hbytes; simp only [Nat.zero_add] at hb; omega)
        rw [hr2] at hr
        simp only [Result.ok.injEq] at hr
        obtain ⟨rfl, rfl⟩ := hr
        intro g hg'
        simp only [Value.ownBlock, Option.some.injEq] at hg'
        subst hg'
        refine noX (ys := news ++ (Builtin.zeroCells z.cells (grownCap w m 0 e - m)).toList) ?_ _ (by simp) _ _ (0, 0) (heap_alloc_new w.drew _)
        intro u hu k
        rcases List.mem_append.1 hu with hu | hu
        · exact hnn u hu k
        · exact hzn u (zeroCells_mem hu) k
    · have hlo : Loose w g0 := hown.2 g0 rfl
      have hcur : ∀ u ∈ cur.toList, ∀ k : Nat, u ≠ U8 k := by
        intro u hu k e2
        obtain ⟨j, hj⟩ := List.mem_iff_getElem?.1 hu
        refine hlo j k ?_
        rw [cell_of_row w g0 j cur e (0, 0) hg0, ← Array.getElem?_toList, hj, e2]
      by_cases hroom : n + m ≤ cap
      · have hfit : n * i.size + news.length ≤ cur.size := by rw [hl, hcs, ← Nat.add_mul]; exact Nat.mul_le_mul_right _ hroom
        have hr2 := run_append_room (P := P) w t ty e i ht hi g0 n cap cur hg0 a m c news hl hnews h1 hroom hfit
        rw [hr2] at hr
        simp only [Result.ok.injEq] at hr
        obtain ⟨rfl, rfl⟩ := hr
        intro g hg'
        simp only [Value.ownBlock, Option.some.injEq] at hg'
        subst hg'
        refine noX (ys := cur.toList.take (n * i.size) ++ news ++ cur.toList.drop (n * i.size + news.length)) ?_ _ (by simp) _ _ (0, 0) (setRow_heap w g0 cur _ e _ hg0)
        intro u hu k
        rcases List.mem_append.1 hu with hu | hu
        · rcases List.mem_append.1 hu with hu | hu
          · exact hcur u (List.mem_of_mem_take hu) k
          · exact hnn u hu k
        · exact hcur u (List.mem_of_mem_drop hu) k
      · have holds : ∀ j u, xs[j]? = some u → w.cell? ((⟨g0, 0, none⟩ : Addr).add j) = some u := World.ownsRow.cells hown.1 (g := g0) rfl
        have hr2 := run_append_grow (P := P) w t ty e i z ht hi hz ⟨g0, 0, none⟩ n cap xs hown.1.1 holds a m c news hl hnews (by omega) (by simp only [maxLen] at h63; omega) (growslice_fits (by omega) hbytes)
        rw [hr2] at hr
        simp only [Result.ok.injEq] at hr
        obtain ⟨rfl, rfl⟩ := hr
        intro g hg'
        simp only [Value.ownBlock, Option.some.injEq] at hg'
        subst hg'
        refine noX (ys := xs ++ news ++ (Builtin.zeroCells z.cells (grownCap w (n + m) cap e - (n + m))).toList) ?_ _ (by simp) _ _ (0, 0) (heap_alloc_new w.drew _)
        intro u hu k
        rcases List.mem_append.1 hu with hu | hu
        · rcases List.mem_append.1 hu with hu | hu
          · rw [← htake] at hu; exact hcur u (List.mem_of_mem_take hu) k
          · exact hnn u hu k
        · exact hzn u (zeroCells_mem hu) k
  refine ⟨v', w', hr, ⟨ho, key⟩, hg, Soft.of_grown hg fun g e2 => ⟨hown.2 g e2, ?_⟩⟩
  -- the elder block: where it stays the slice's, it is loose by the above; where it doesn't, it is as it was
  by_cases hv : v'.ownBlock = some g
  · exact key g hv
  · refine (hown.2 g e2).of_heap ?_
    subst hsize
    subst hby
    rcases hown.1.2 with ⟨rfl, rfl⟩ | ⟨g0, cap, cur, rfl, hbg, hg0, hnc, hcm, hcs, htake⟩
    · cases e2
    · simp only [Value.ownBlock, Option.some.injEq] at e2
      subst e2
      by_cases hroom : n + m ≤ cap
      · have hfit : n * i.size + news.length ≤ cur.size := by rw [hl, hcs, ← Nat.add_mul]; exact Nat.mul_le_mul_right _ hroom
        have hr2 := run_append_room (P := P) w t ty e i ht hi g0 n cap cur hg0 a m c news hl hnews h1 hroom hfit
        rw [hr2] at hr
        simp only [Result.ok.injEq] at hr
        exact absurd (by rw [← hr.1]; rfl) hv
      · have holds : ∀ j u, xs[j]? = some u → w.cell? ((⟨g0, 0, none⟩ : Addr).add j) = some u := World.ownsRow.cells hown.1 (g := g0) rfl
        have hr2 := run_append_grow (P := P) w t ty e i z ht hi hz ⟨g0, 0, none⟩ n cap xs hown.1.1 holds a m c news hl hnews (by omega) (by simp only [maxLen] at h63; omega) (growslice_fits (by omega) hbytes)
        rw [hr2] at hr
        simp only [Result.ok.injEq] at hr
        rw [← hr.2]
        exact Below.heap_alloc w.drew _ _ (Array.getElem?_eq_some_iff.1 hg0).1

theorem wpList_append_soft {P : Program} {w : World} {ops : Array Oper} {rest : List Oper} {o : Oper} {a : Act} {Q : Exit → Act → World → Prop} (hgd : o.guard = none) (s x : Operand) (t : TypeId)
    (ho : o.op = .call { callee := .builtin .append, args := #[s, x], argTypes := #[t, t] })
    (B : Nat) (e : TypeId) (i : TypeInfo) (z : Value) (size bytes : Nat) (ht : P.underlying t = some (.slice e)) (hi : P.info? e = some i) (hz : i.zero = some z)
    (hsize : i.size = size) (hby : i.bytes = bytes) (hzs : z.cells.size = size) (hsz : 0 < size)
    (v : Value) (n : Nat) (xs : List Value) (hs : a.eval s = v) (hown : OwnN w B e size v n xs)
    (ad : Addr) (m c : Nat) (news : List Value) (hx : a.eval x = .slice (some ad) m c) (hl : news.length = m * size) (hnews : ∀ j u, news[j]? = some u → w.cell? (ad.add j) = some u) (h1 : ∀ u ∈ news, u.oneCell' = true)
    (hzn : ∀ u ∈ z.cells.toList, ∀ k : Nat, u ≠ U8 k) (hnn : ∀ u ∈ news, ∀ k : Nat, u ≠ U8 k)
    (h63 : n + m ≤ maxLen) (hbytes : (n + m) * bytes ≤ 140737488355328) (hbase : B ≤ w.heap.size)
    (h : ∀ v' w', OwnN w' B e size v' (n + m) (xs ++ news) → w.grownBy w' v.ownBlock → Soft w w' → wpList P ops Q rest (a.put o.dst v') w') : wpList P ops Q (o :: rest) a w := by
  refine wpList_plain hgd fun K hK => ?_
  obtain ⟨v', w', hrun, h2, h3, h4⟩ := run_append_soft (P := P) w B t o.type e i z size bytes ht hi hz hsize hby hzs hsz v n xs hown ad m c news hl hnews h1 hzn hnn h63 hbytes hbase
  unfold Oper.wp
  simp only [execOp, ho, resolve, invoke, builtin, Sem.run_bind, Sem.run_pure, Result.andThen_ok, List.map_toArray, List.map_cons, List.map_nil, hs, hx, hrun]
  exact hK _ _ (h v' w' h2 h3 h4)

end Go.Proofs.YtphdadibfeencaaGreat

/-
  Lists of rows (each of two slices of bytes): read, appended to, stored into.
-/
set_option maxRecDepth 100000
namespace Go.Proofs.YtphdadibfeencaaGreat
open Go.RowKit

theorem row_add (b o j : Nat) : (⟨b, o, none⟩ : Addr).add j = ⟨b, o + j, none⟩ := by unfold Addr.add; split <;> simp_all

/-- A row: its vector, and what it carries. -/
abbrev Rw := List Nat × List Nat
/-- The row of a place: by a name of its own, so that the walk leaves it as it is. -/
def rwAt (L : List Rw) (i : Nat) : Rw := L.getD i ([], [])
theorem rwAt_eq (L : List Rw) (i : Nat) (h : i < L.length) : rwAt L i = L[i] := by
  unfold rwAt; rw [List.getD_eq_getElem?_getD, List.getElem?_eq_getElem h]; rfl
theorem rwAt_mem {L : List Rw} {i : Nat} (h : i < L.length) : rwAt L i ∈ L := by rw [rwAt_eq L i h]; exact List.getElem_mem h
theorem take_rwAt (L : List Rw) (k : Nat) (h : k < L.length) : L.take (k + 1) = L.take k ++ [rwAt L k] := by
  rw [List.take_succ_eq_append_getElem h, rwAt_eq L k h]

/-- The value is a slice of rows that reads as these. -/
def IsRL (w : World) (v : Value) (L : List Rw) : Prop :=
  ∃ a cap, v = .slice a L.length cap ∧ L.length ≤ cap ∧ cap ≤ 9223372036854775807 ∧
    (L ≠ [] → ∃ b off, a = some ⟨b, off, none⟩ ∧ b < w.heap.size ∧ ∀ i, i < L.length → ∃ x y, w.cell? ⟨b, off + i * 2, none⟩ = some x ∧ w.cell? ⟨b, off + i * 2 + 1, none⟩ = some y ∧ Bytes w x (rwAt L i).1 ∧ Bytes w y (rwAt L i).2)

theorem IsRL.nil (w : World) : IsRL w (.slice none 0 0) [] := ⟨none, 0, rfl, by simp, by omega, fun h => absurd rfl h⟩
/-- Its cells stay, and all bytes. -/
theorem IsRL.keep {w w' : World} {v : Value} {L : List Rw} (h : IsRL w v L) (hs : Soft w w') (hb : ∀ b, v.ownBlock = some b → L ≠ [] → w'.heap[b]? = w.heap[b]?) : IsRL w' v L := by
  obtain ⟨a, cap, rfl, h1, h2, h4⟩ := h
  refine ⟨a, cap, rfl, h1, h2, fun hne => ?_⟩
  obtain ⟨b, off, rfl, hlt, hc⟩ := h4 hne
  refine ⟨b, off, rfl, Nat.lt_of_lt_of_le hlt hs.size, fun i hi => ?_⟩
  obtain ⟨x, y, hx, hy, h5, h6⟩ := hc i hi
  have hbb := hb b rfl hne
  exact ⟨x, y, by rw [cell_of_heap hbb]; exact hx, by rw [cell_of_heap hbb]; exact hy, h5.soft hs, h6.soft hs⟩
theorem IsRL.block_lt {w : World} {v : Value} {L : List Rw} (h : IsRL w v L) {b : Nat} (hb : v.ownBlock = some b) (hne : L ≠ []) : b < w.heap.size := by
  obtain ⟨a, cap, rfl, _, _, h4⟩ := h
  obtain ⟨b', off, rfl, hlt, _⟩ := h4 hne
  simp only [Value.ownBlock, Option.some.injEq] at hb
  rw [← hb]; exact hlt
theorem IsRL.go {w w' : World} {v : Value} {L : List Rw} (h : IsRL w v L) (hb : Below w.heap.size w w') : IsRL w' v L :=
  h.keep (Soft.of_below hb) fun b e hne => hb.block b (h.block_lt e hne)
/-- A list that lies below B, where below B nothing has turned. -/
theorem IsRL.shape {w : World} {v : Value} {L : List Rw} (h : IsRL w v L) : ∃ a c, v = .slice a L.length c := by obtain ⟨a, cap, rfl, _⟩ := h; exact ⟨a, cap, rfl⟩
theorem IsRL.addr {w : World} {v : Value} {L : List Rw} (h : IsRL w v L) (hne : 0 < L.length) : ∃ b off c, v = .slice (some ⟨b, off, none⟩) L.length c ∧ b < w.heap.size := by
  obtain ⟨a, cap, rfl, _, _, h4⟩ := h
  obtain ⟨b, off, rfl, hlt, _⟩ := h4 (by intro e; rw [e] at hne; simp at hne)
  exact ⟨b, off, cap, rfl, hlt⟩
theorem IsRL.cells {w : World} {b off n cap : Nat} {L : List Rw} (h : IsRL w (.slice (some ⟨b, off, none⟩) n cap) L) (k : Nat) (hk : k < L.length) :
    ∃ x y, w.cell? ⟨b, off + k * 2, none⟩ = some x ∧ w.cell? ⟨b, off + k * 2 + 1, none⟩ = some y ∧ Bytes w x (rwAt L k).1 ∧ Bytes w y (rwAt L k).2 := by
  obtain ⟨a, cap', e, _, _, h4⟩ := h
  obtain ⟨b', off', rfl, _, hc⟩ := h4 (by intro h; rw [h] at hk; simp at hk)
  simp only [Value.slice.injEq, Option.some.injEq, Addr.mk.injEq] at e
  obtain ⟨⟨rfl, rfl, _⟩, _, _⟩ := e
  exact hc k hk

theorem IsRL.take {w : World} {b off n cap : Nat} {L : List Rw} (h : IsRL w (.slice (some ⟨b, off, none⟩) n cap) L) {i : Nat} (hi : i ≤ L.length) : IsRL w (.slice (some ⟨b, off, none⟩) i cap) (L.take i) := by
  obtain ⟨a, cap', e, h1, h2, h4⟩ := h
  simp only [Value.slice.injEq] at e
  obtain ⟨rfl, rfl, rfl⟩ := e
  have hl : (L.take i).length = i := by simp; omega
  refine ⟨_, cap, by rw [hl], by omega, h2, fun hne => ?_⟩
  have hne' : L ≠ [] := by intro e; subst e; simp at hne
  obtain ⟨b', off', e, hlt, hc⟩ := h4 hne'
  refine ⟨b', off', e, hlt, fun j hj => ?_⟩
  rw [hl] at hj
  have := hc j (by omega)
  rwa [show rwAt (L.take i) j = rwAt L j from by rw [rwAt_eq _ _ (by omega), rwAt_eq _ _ (by omega)]; simp]
theorem IsRL.drop {w : World} {b off n cap : Nat} {L : List Rw} (h : IsRL w (.slice (some ⟨b, off, none⟩) n cap) L) {i : Nat} (hi : i ≤ L.length) (a : Option Addr) (ha : i < L.length → a = some ⟨b, off + i * 2, none⟩) (c : Nat) (hc : L.length - i ≤ c) (hc2 : c ≤ 9223372036854775807) : IsRL w (.slice a (L.length - i) c) (L.drop i) := by
  have hl : (L.drop i).length = L.length - i := by simp
  refine ⟨a, c, by rw [hl], by omega, hc2, fun hne => ?_⟩
  have hlt : i < L.length := by
    have := List.length_pos_iff.2 hne
    omega
  obtain ⟨a', cap', e, h1, h2, h4⟩ := h
  obtain ⟨b', off', rfl, hlt', hcell⟩ := h4 (by intro e; subst e; simp at hlt)
  simp only [Value.slice.injEq, Option.some.injEq, Addr.mk.injEq] at e
  obtain ⟨⟨rfl, rfl, _⟩, _, _⟩ := e
  refine ⟨b, off + i * 2, ha hlt, hlt', fun j hj => ?_⟩
  rw [hl] at hj
  obtain ⟨x, y, hx, hy, h5, h6⟩ := hcell (i + j) (by omega)
  rw [show rwAt (L.drop i) j = rwAt L (i + j) from by rw [rwAt_eq _ _ (by omega), rwAt_eq _ _ (by omega)]; simp]
  rw [show off + i * 2 + j * 2 = off + (i + j) * 2 by omega]
  exact ⟨x, y, hx, hy, h5, h6⟩

theorem isRL_none (w : World) (a : Option Addr) (c : Nat) (hc : c ≤ 9223372036854775807) : IsRL w (.slice a 0 c) [] := ⟨a, c, rfl, by simp, hc, fun h => absurd rfl h⟩
theorem IsRL.one {w : World} {x y : Value} {r : Rw} {T : TypeId} (g : Nat) (hg : g = w.heap.size) (hx : Bytes w x r.1) (hy : Bytes w y r.2) : IsRL (w.alloc (.cells #[x, y] T)) (.slice (some ⟨g, 0, none⟩) 1 1) [r] := by
  subst hg
  have hb : Below w.heap.size w (w.alloc (.cells #[x, y] T)) := (Below.refl _ _).alloc (Nat.le_refl _) _
  have hk := Blk.new w #[x, y] T _ rfl
  refine ⟨_, 1, rfl, Nat.le_refl _, by omega, fun _ => ⟨w.heap.size, 0, rfl, by simp, fun i hi => ?_⟩⟩
  have : i = 0 := by simp at hi; exact hi
  subst this
  exact ⟨x, y, hk.cell 0, hk.cell 1, hx.go hb, hy.go hb⟩

/-! ### Lists that a call makes -/

/-- The cells of rows, one behind the other. -/
def pairs : List (Value × Value) → List Value
  | [] => []
  | u :: us => u.1 :: u.2 :: pairs us
theorem pairs_length : ∀ us, (pairs us).length = us.length * 2
  | [] => rfl
  | u :: us => by simp [pairs, pairs_length us]; omega
theorem pairs_append : ∀ us vs, pairs (us ++ vs) = pairs us ++ pairs vs
  | [], _ => rfl
  | u :: us, vs => by simp [pairs, pairs_append us vs]
theorem pairs_get : ∀ (us : List (Value × Value)) (i : Nat) (u : Value × Value), us[i]? = some u → (pairs us)[i * 2]? = some u.1 ∧ (pairs us)[i * 2 + 1]? = some u.2
  | [], i, u, h => by simp at h
  | x :: us, 0, u, h => by simp at h; subst h; simp [pairs]
  | x :: us, i + 1, u, h => by
    have := pairs_get us i u (by simpa using h)
    rw [show (i + 1) * 2 = i * 2 + 1 + 1 by omega]
    simpa [pairs] using this

/-- Each pair reads as a row. -/
structure Each (w : World) (us : List (Value × Value)) (L : List Rw) : Prop where
  len : us.length = L.length
  row : ∀ i u, us[i]? = some u → Bytes w u.1 (rwAt L i).1 ∧ Bytes w u.2 (rwAt L i).2

theorem Each.nil (w : World) : Each w [] [] := ⟨rfl, fun i u h => by simp at h⟩
theorem Each.soft {w w' : World} {us : List (Value × Value)} {L : List Rw} (h : Each w us L) (hs : Soft w w') : Each w' us L := ⟨h.len, fun i u hu => ⟨(h.row i u hu).1.soft hs, (h.row i u hu).2.soft hs⟩⟩
theorem Each.append {w : World} {us vs : List (Value × Value)} {L M : List Rw} (h : Each w us L) (k : Each w vs M) : Each w (us ++ vs) (L ++ M) := by
  refine ⟨by simp [h.len, k.len], fun i u hu => ?_⟩
  by_cases hi : i < us.length
  · rw [List.getElem?_append_left hi] at hu
    have := h.row i u hu
    rw [show rwAt (L ++ M) i = rwAt L i from by unfold rwAt; rw [List.getD_eq_getElem?_getD, List.getElem?_append_left (by rw [← h.len]; exact hi), ← List.getD_eq_getElem?_getD]]
    exact this
  · rw [List.getElem?_append_right (by omega)] at hu
    have := k.row _ u hu
    rw [show rwAt (L ++ M) i = rwAt M (i - us.length) from by unfold rwAt; rw [List.getD_eq_getElem?_getD, List.getElem?_append_right (by rw [← h.len]; omega), ← List.getD_eq_getElem?_getD, h.len]]
    exact this
theorem Each.noU8 {w : World} {us : List (Value × Value)} {L : List Rw} (h : Each w us L) : ∀ x ∈ pairs us, (∀ k : Nat, x ≠ U8 k) ∧ x.oneCell' = true := by
  have key : ∀ u ∈ us, (∃ a n c, u.1 = .slice a n c) ∧ ∃ a n c, u.2 = .slice a n c := fun u hu => by
    obtain ⟨i, hi⟩ := List.mem_iff_getElem?.1 hu
    obtain ⟨⟨a, c, e, _⟩, ⟨a', c', e', _⟩⟩ := h.row i u hi
    exact ⟨⟨_, _, _, e⟩, ⟨_, _, _, e'⟩⟩
  clear h
  induction us with
  | nil => intro x hx; cases hx
  | cons u us ih =>
    intro x hx
    obtain ⟨⟨a, n, c, e⟩, ⟨a', n', c', e'⟩⟩ := key u List.mem_cons_self
    simp only [pairs, List.mem_cons] at hx
    rcases hx with rfl | rfl | hx
    · rw [e]; exact ⟨slice_ne _ _ _, rfl⟩
    · rw [e']; exact ⟨slice_ne _ _ _, rfl⟩
    · exact ih (fun v hv => key v (List.mem_cons_of_mem _ hv)) x hx

/-- The value is a list of rows whose block, from B on, the call made itself, or none yet. -/
def OwnL (w : World) (B : Nat) (T : TypeId) (v : Value) (L : List Rw) : Prop := ∃ us, OwnN w B T 2 v L.length (pairs us) ∧ Each w us L

theorem OwnL.nil (w : World) (B : Nat) (T : TypeId) : OwnL w B T (.slice none 0 0) [] := ⟨[], OwnN.nil _ _ _ _, Each.nil _⟩
theorem OwnL.mono {w : World} {B C : Nat} {T : TypeId} {v : Value} {L : List Rw} (h : OwnL w B T v L) (hC : C ≤ B) : OwnL w C T v L := by
  obtain ⟨us, h1, h2⟩ := h; exact ⟨us, h1.mono hC, h2⟩
theorem OwnL.go {w w' : World} {B : Nat} {T : TypeId} {v : Value} {L : List Rw} (h : OwnL w B T v L) (hb : Below w.heap.size w w') : OwnL w' B T v L := by
  obtain ⟨us, h1, h2⟩ := h; exact ⟨us, h1.go hb, h2.soft (Soft.of_below hb)⟩
theorem OwnL.from {w : World} {B : Nat} {T : TypeId} {v : Value} {L : List Rw} (h : OwnL w B T v L) : ∀ k, v.ownBlock = some k → B ≤ k := by obtain ⟨us, h1, _⟩ := h; exact h1.from
theorem OwnL.lt {w : World} {B : Nat} {T : TypeId} {v : Value} {L : List Rw} (h : OwnL w B T v L) : ∀ k, v.ownBlock = some k → k < w.heap.size := by obtain ⟨us, h1, _⟩ := h; exact fun k hk => (World.ownsRow.lt h1.1 k hk).2
/-- Another block without bytes was written. -/
theorem OwnL.other {w w' : World} {B g : Nat} {T : TypeId} {v : Value} {L : List Rw} (h : OwnL w B T v L) (hg : w.grownBy w' (some g)) (hs : Soft w w') (hne : v.ownBlock ≠ some g) : OwnL w' B T v L := by
  obtain ⟨us, h1, h2⟩ := h
  exact ⟨us, h1.keep hg (by cases hv : v.ownBlock with
    | none => left; rfl
    | some k => right; rw [hv] at hne; exact hne), h2.soft hs⟩
theorem OwnL.shape {w : World} {B : Nat} {T : TypeId} {v : Value} {L : List Rw} (h : OwnL w B T v L) : ∃ a c, v = .slice a L.length c := by
  obtain ⟨us, ⟨⟨_, h1⟩, _⟩, _⟩ := h
  rcases h1 with ⟨rfl, h0⟩ | ⟨g, cap, cur, rfl, _⟩
  · rw [h0]; exact ⟨_, _, rfl⟩
  · exact ⟨_, _, rfl⟩
theorem OwnL.addr {w : World} {B : Nat} {T : TypeId} {v : Value} {L : List Rw} (h : OwnL w B T v L) (hne : 0 < L.length) : ∃ g c, v = .slice (some ⟨g, 0, none⟩) L.length c ∧ B ≤ g ∧ g < w.heap.size := by
  have h' := h
  obtain ⟨us, ⟨⟨_, h1⟩, _⟩, _⟩ := h
  rcases h1 with ⟨rfl, h0⟩ | ⟨g, cap, cur, rfl, hB, _⟩
  · omega
  · exact ⟨g, cap, rfl, hB, h'.lt g rfl⟩
theorem OwnL.free {w : World} {B g n c : Nat} {T : TypeId} {L : List Rw} (h : OwnL w B T (.slice (some ⟨g, 0, none⟩) n c) L) (j : Nat) : w.frozen? ⟨g, j, none⟩ = false := by
  obtain ⟨a, c', e⟩ := h.shape
  simp only [Value.slice.injEq] at e
  obtain ⟨_, rfl, _⟩ := e
  obtain ⟨us, ⟨h1, _⟩, _⟩ := h
  exact World.ownsRow.frozenAt h1 j
theorem OwnL.list {w : World} {B : Nat} {T : TypeId} {v : Value} {L : List Rw} (h : OwnL w B T v L) : IsRL w v L := by
  obtain ⟨us, ⟨h1, _⟩, h2⟩ := h
  have h1' := h1
  rcases h1.2 with ⟨rfl, h0⟩ | ⟨g, cap, cur, rfl, hB, hg, hn, hc, hsz, ht⟩
  · have e : L = [] := List.length_eq_zero_iff.1 h0
    subst e
    exact IsRL.nil w
  · refine ⟨_, cap, rfl, hn, by simpa [maxLen] using hc, fun _ => ⟨g, 0, rfl, (Array.getElem?_eq_some_iff.1 hg).1, fun i hi => ?_⟩⟩
    have hi' : i < us.length := by rw [h2.len]; exact hi
    obtain ⟨e1, e2⟩ := pairs_get us i us[i] (List.getElem?_eq_getElem hi')
    have c1 := World.ownsRow.cells h1' (g := g) rfl _ _ e1
    have c2 := World.ownsRow.cells h1' (g := g) rfl _ _ e2
    rw [row_add] at c1 c2
    have h3 := h2.row i us[i] (List.getElem?_eq_getElem hi')
    exact ⟨us[i].1, us[i].2, c1, by rw [Nat.add_assoc]; exact c2, h3.1, h3.2⟩
theorem OwnL.cells {w : World} {B g n c : Nat} {T : TypeId} {L : List Rw} (h : OwnL w B T (.slice (some ⟨g, 0, none⟩) n c) L) (k : Nat) (hk : k < L.length) :
    ∃ a b a' b', w.cell? ⟨g, k * 2, none⟩ = some (.slice a (rwAt L k).1.length b) ∧ w.cell? ⟨g, k * 2 + 1, none⟩ = some (.slice a' (rwAt L k).2.length b') ∧ Bytes w (.slice a (rwAt L k).1.length b) (rwAt L k).1 ∧ Bytes w (.slice a' (rwAt L k).2.length b') (rwAt L k).2 := by
  obtain ⟨x, y, h1, h2, hb1, hb2⟩ := h.list.cells k hk
  rw [Nat.zero_add] at h1 h2
  obtain ⟨a, b, rfl, _⟩ := id hb1
  obtain ⟨a', b', rfl, _⟩ := id hb2
  exact ⟨a, b, a', b', h1, h2, hb1, hb2⟩
/-- A row stored at a place. -/
theorem OwnL.set {w : World} {B g n cap : Nat} {T : TypeId} {L : List Rw} (h : OwnL w B T (.slice (some ⟨g, 0, none⟩) n cap) L) (k : Nat) (hk : k < L.length) {x y : Value} {r : Rw} (hx : Bytes w x r.1) (hy : Bytes w y r.2) :
    OwnL ((w.setCell ⟨g, k * 2, none⟩ x).setCell ⟨g, k * 2 + 1, none⟩ y) B T (.slice (some ⟨g, 0, none⟩) n cap) (L.set k r) ∧ Soft w ((w.setCell ⟨g, k * 2, none⟩ x).setCell ⟨g, k * 2 + 1, none⟩ y) ∧
      w.grownBy ((w.setCell ⟨g, k * 2, none⟩ x).setCell ⟨g, k * 2 + 1, none⟩ y) (some g) := by
  obtain ⟨a, c, e⟩ := h.shape
  simp only [Value.slice.injEq] at e
  obtain ⟨_, rfl, _⟩ := e
  obtain ⟨us, h1, h2⟩ := h
  obtain ⟨s1, g1⟩ := World.ownsRow.stored h1.1 (k * 2) x
  obtain ⟨s2, g2⟩ := World.ownsRow.stored s1 (k * 2 + 1) y
  have hg := grown_trans g1 g2
  have nx : ∀ m : Nat, x ≠ U8 m := by obtain ⟨a, c, rfl, _⟩ := hx; exact slice_ne _ _ _
  have ny : ∀ m : Nat, y ≠ U8 m := by obtain ⟨a, c, rfl, _⟩ := hy; exact slice_ne _ _ _
  have hk' : k < us.length := by rw [h2.len]; exact hk
  have hset : ∀ (us : List (Value × Value)) (k : Nat), k < us.length → ((pairs us).set (k * 2) x).set (k * 2 + 1) y = pairs (us.set k (x, y)) := by
    intro us
    induction us with
    | nil => intro k hk; simp at hk
    | cons u us ih =>
      intro k hk
      cases k with
      | zero => simp [pairs]
      | succ k =>
        rw [show (k + 1) * 2 = k * 2 + 1 + 1 by omega, show k * 2 + 1 + 1 + 1 = (k * 2 + 1) + 1 + 1 by omega]
        simp only [pairs, List.set_cons_succ]
        rw [ih k (by simpa using hk)]
  rw [hset us k hk'] at s2
  obtain ⟨cur, fr, hcur⟩ : ∃ cur fr, w.heap[g]? = some (.cells cur T fr) := by
    rcases h1.1.2 with ⟨e, _⟩ | ⟨g', cap', cur, e, _, hgg, _⟩
    · cases e
    · simp only [Value.slice.injEq, Option.some.injEq, Addr.mk.injEq] at e
      obtain ⟨⟨rfl, _⟩, _⟩ := e
      exact ⟨cur, (0, 0), hgg⟩
  have hloose := h1.2 g rfl
  have hl2 : Loose ((w.setCell ⟨g, k * 2, none⟩ x).setCell ⟨g, k * 2 + 1, none⟩ y) g := by
    intro i m
    have e1 : ((w.setCell ⟨g, k * 2, none⟩ x).setCell ⟨g, k * 2 + 1, none⟩ y).heap[g]? = some (.cells ((cur.setIfInBounds (k * 2) x).setIfInBounds (k * 2 + 1) y) T fr) := by
      unfold World.setCell
      simp [Array.getElem?_modify, hcur]
    rw [cell_of_row _ g i _ _ fr e1]
    have e2 := hloose i m
    rw [cell_of_row w g i cur T fr hcur] at e2
    rw [Array.getElem?_setIfInBounds, Array.getElem?_setIfInBounds]
    intro e3
    split at e3
    · split at e3
      · exact ny m (Option.some.inj e3)
      · cases e3
    · split at e3
      · split at e3
        · exact nx m (Option.some.inj e3)
        · cases e3
      · exact e2 e3
  have hs : Soft w ((w.setCell ⟨g, k * 2, none⟩ x).setCell ⟨g, k * 2 + 1, none⟩ y) := Soft.of_grown hg fun b e => by
    simp only [Option.some.injEq] at e
    subst e; exact ⟨hloose, hl2⟩
  refine ⟨⟨us.set k (x, y), ⟨?_, fun b e => ?_⟩, ⟨by simp [h2.len], fun i u hu => ?_⟩⟩, hs, hg⟩
  · rw [List.length_set]; exact s2
  · simp only [Value.ownBlock, Option.some.injEq] at e
    subst e; exact hl2
  · rw [List.getElem?_set] at hu
    by_cases hki : k = i
    · subst hki
      rw [if_pos rfl, if_pos hk'] at hu
      simp only [Option.some.injEq] at hu
      subst hu
      rw [show rwAt (L.set k r) k = r from by rw [rwAt_eq _ _ (by simpa using hk)]; simp]
      exact ⟨hx.soft hs, hy.soft hs⟩
    · rw [if_neg hki] at hu
      rw [show rwAt (L.set k r) i = rwAt L i from by unfold rwAt; rw [List.getD_eq_getElem?_getD, List.getElem?_set, if_neg hki, ← List.getD_eq_getElem?_getD]]
      have := h2.row i u hu
      exact ⟨this.1.soft hs, this.2.soft hs⟩

theorem infoRefRow : (Tryz.prog.info? 50).map (fun i => (i.zero, i.size, i.bytes)) = some (some (.agg #[.slice none 0 0, .slice none 0 0]), 2, 48) := by kernel_rfl

/-- 'out = append(out, rows...)', rows of a block. -/
theorem wpList_append_rows {ops : Array Oper} {rest : List Oper} {o : Oper} {a : Act} {Q : Exit → Act → World → Prop} {w : World} (hgd : o.guard = none) (s x : Operand) (ho : o.op = .call { callee := .builtin .append, args := #[s, x], argTypes := #[28, 28] })
    (B : Nat) (v u : Value) (L M : List Rw) (hs : a.eval s = v) (hx : a.eval x = u) (hown : OwnL w B 50 v L) (hr : IsRL w u M) (hB : B ≤ w.heap.size) (hn : L.length + M.length ≤ 1000000000000)
    (h : ∀ v' w', OwnL w' B 50 v' (L ++ M) → w.grownBy w' v.ownBlock → Soft w w' → wpList Tryz.prog ops Q rest (a.put o.dst v') w') :
    wpList Tryz.prog ops Q (o :: rest) a w := by
  obtain ⟨i0, hi, hz0, hz1, hz2⟩ := info_parts infoRefRow
  obtain ⟨us, h1, h2⟩ := hown
  have hr0 := hr
  obtain ⟨a1, c1, rfl, g1, g2, g4⟩ := hr
  cases a1 with
  | none =>
    cases M with
    | nil =>
      refine wpList_append_none hgd s x 28 ho B 50 i0 2 c1 Tryz.underlying28 hi v L.length (pairs us) hs h1.1 hx ?_
      exact h v w ⟨us, by rw [List.append_nil]; exact h1, by rw [List.append_nil]; exact h2⟩ (grown_refl _ _) (Soft.refl _)
    | cons y M =>
      obtain ⟨b, off, e, _⟩ := g4 (by simp)
      exact absurd e (by simp)
  | some ad =>
    -- the new cells, as pairs
    have hex : ∃ vs : List (Value × Value), Each w vs M ∧ ∀ j u, (pairs vs)[j]? = some u → w.cell? (ad.add j) = some u := by
      by_cases hM : M = []
      · subst hM; exact ⟨[], Each.nil w, fun j u hj => by simp [pairs] at hj⟩
      · obtain ⟨b, off, e, _, hc⟩ := g4 hM
        simp only [Option.some.injEq] at e
        subst e
        have hch : ∀ n, n ≤ M.length → ∃ vs : List (Value × Value), vs.length = n ∧ (∀ i u, vs[i]? = some u → Bytes w u.1 (rwAt M i).1 ∧ Bytes w u.2 (rwAt M i).2) ∧ ∀ j u, (pairs vs)[j]? = some u → w.cell? ⟨b, off + j, none⟩ = some u := by
          intro n
          induction n with
          | zero => intro _; exact ⟨[], rfl, fun i u hu => by simp at hu, fun j u hj => by simp [pairs] at hj⟩
          | succ n ih =>
            intro hn1
            obtain ⟨vs, hl, hv, hp⟩ := ih (by omega)
            obtain ⟨p, q, hp1, hq1, hb1, hb2⟩ := hc n (by omega)
            refine ⟨vs ++ [(p, q)], by simp [hl], fun i u hu => ?_, fun j u hj => ?_⟩
            · by_cases hi1 : i < vs.length
              · rw [List.getElem?_append_left hi1] at hu; exact hv i u hu
              · rw [List.getElem?_append_right (by omega)] at hu
                have : i - vs.length = 0 := by
                  have := (List.getElem?_eq_some_iff.1 hu).1
                  simp at this; omega
                rw [this] at hu
                simp at hu
                subst hu
                have : i = n := by omega
                subst this; exact ⟨hb1, hb2⟩
            · rw [pairs_append] at hj
              by_cases hj1 : j < (pairs vs).length
              · rw [List.getElem?_append_left hj1] at hj; exact hp j u hj
              · rw [List.getElem?_append_right (by omega)] at hj
                have hpl := pairs_length vs
                have hlt := (List.getElem?_eq_some_iff.1 hj).1
                simp [pairs] at hlt
                have : j - (pairs vs).length = 0 ∨ j - (pairs vs).length = 1 := by omega
                rcases this with h0 | h0
                · rw [h0] at hj
                  simp [pairs] at hj
                  subst hj
                  rw [show j = n * 2 by omega]; exact hp1
                · rw [h0] at hj
                  simp [pairs] at hj
                  subst hj
                  rw [show off + j = off + n * 2 + 1 by omega]; exact hq1
        obtain ⟨vs, hl, hv, hp⟩ := hch M.length (Nat.le_refl _)
        exact ⟨vs, ⟨hl, hv⟩, fun j u hj => by rw [row_add]; exact hp j u hj⟩
    obtain ⟨vs, hE, hcells⟩ := hex
    refine wpList_append_soft hgd s x 28 ho B 50 i0 (.agg #[.slice none 0 0, .slice none 0 0]) 2 48 Tryz.underlying28 hi hz0 hz1 hz2 rfl (by decide) v L.length (pairs us) hs h1
      ad M.length c1 (pairs vs) hx (by rw [pairs_length, hE.len]) hcells (fun u hu => (hE.noU8 u hu).2) (fun u hu => by simp [Value.cells] at hu; subst hu; exact slice_ne _ _ _) (fun u hu => (hE.noU8 u hu).1) ?_ ?_ hB ?_
    · unfold maxLen; omega
    · omega
    · intro v' w' k1 k2 k3
      refine h v' w' ⟨us ++ vs, ?_, (h2.append hE).soft k3⟩ k2 k3
      rw [List.length_append, pairs_append]; exact k1

end Go.Proofs.YtphdadibfeencaaGreat

/-
  Rows cleared by others (layers 7 and 8), in plain lists: what the document's answers reckon. No program in this text.
-/
set_option maxRecDepth 100000
namespace Go.Proofs.YtphdadibfeencaaGreat
namespace Ro

def less (x : Rw) (c : Nat) (r : Rw) : Rw := (lessV c x.1 x.2 r.1 r.2, lessD c x.1 x.2 r.1 r.2)
def norm (x : Rw) : Rw := (Gf.scale (normC x.1) x.1, Gf.scale (normC x.1) x.2)
/-- What is left, row by row. -/
def step (x r : Rw) : Rw := less x (nth x.1 (lead r.1)) r
def rest (L : List Rw) (x : Rw) : Rw := L.foldl step x
/-- How many rows lead ahead of it. -/
def ahead (L : List Rw) (x : Rw) : Nat := (L.takeWhile fun r => decide (lead r.1 < lead x.1)).length
def put (L : List Rw) (y : Rw) : List Rw := L.take (ahead L y) ++ y :: L.drop (ahead L y)
def insert (L : List Rw) (x : Rw) : List Rw := if lead (norm (rest L x)).1 < (norm (rest L x)).1.length then put L (norm (rest L x)) else L
/-- All inserted, one by one. -/
def all (L : List Rw) : List Rw := L.foldl insert []

/-- Rows of k and t bytes. -/
def Dim (k t : Nat) (x : Rw) : Prop := x.1.length = k ∧ x.2.length = t ∧ (∀ z, z ∈ x.1 → z < 256) ∧ ∀ z, z ∈ x.2 → z < 256
def Dims (k t : Nat) (L : List Rw) : Prop := ∀ r ∈ L, Dim k t r
def Leads (L : List Rw) : Prop := ∀ r ∈ L, lead r.1 < r.1.length

theorem add_lt256 {x y : List Nat} (hx : ∀ z, z ∈ x → z < 256) (hy : ∀ z, z ∈ y → z < 256) : ∀ z, z ∈ Gf.add x y → z < 256 := by
  intro z hz
  unfold Gf.add at hz
  induction x generalizing y with
  | nil => simp at hz
  | cons a x ih =>
    cases y with
    | nil => simp at hz
    | cons b y =>
      simp only [List.zipWith_cons_cons, List.mem_cons] at hz
      rcases hz with rfl | hz
      · exact Gf.xor_lt (hx a List.mem_cons_self) (hy b List.mem_cons_self)
      · exact ih (fun z hz => hx z (List.mem_cons_of_mem _ hz)) (fun z hz => hy z (List.mem_cons_of_mem _ hz)) hz
theorem scale_lt256 {c : Nat} (hc : c < 256) (x : List Nat) : ∀ z, z ∈ Gf.scale c x → z < 256 := by
  intro z hz
  unfold Gf.scale at hz
  obtain ⟨y, _, rfl⟩ := List.mem_map.1 hz
  exact Gf.mul_lt hc _

theorem less_dim {k t : Nat} {x r : Rw} {c : Nat} (hc : c < 256) (hx : Dim k t x) (hr : Dim k t r) : Dim k t (less x c r) ∧ less x c r = (Gf.add (Gf.scale c r.1) x.1, Gf.add (Gf.scale c r.2) x.2) := by
  obtain ⟨h1, h2, h3, h4⟩ := hx
  obtain ⟨g1, g2, g3, g4⟩ := hr
  have e : less x c r = (Gf.add (Gf.scale c r.1) x.1, Gf.add (Gf.scale c r.2) x.2) := by
    unfold less lessV lessD
    rw [if_pos ⟨by omega, by omega⟩, if_pos ⟨by omega, by omega⟩]
  refine ⟨?_, e⟩
  rw [e]
  refine ⟨?_, ?_, add_lt256 (scale_lt256 hc _) h3, add_lt256 (scale_lt256 hc _) h4⟩
  · show (Gf.add (Gf.scale c r.1) x.1).length = k
    rw [Gf.add_length _ _ (by rw [Gf.scale_length]; omega), Gf.scale_length]; exact g1
  · show (Gf.add (Gf.scale c r.2) x.2).length = t
    rw [Gf.add_length _ _ (by rw [Gf.scale_length]; omega), Gf.scale_length]; exact g2
theorem step_dim {k t : Nat} {x r : Rw} (hx : Dim k t x) (hr : Dim k t r) : Dim k t (step x r) := (less_dim (nth_lt hx.2.2.1 _) hx hr).1
theorem norm_dim {k t : Nat} {x : Rw} (hx : Dim k t x) : Dim k t (norm x) :=
  ⟨by show (Gf.scale _ _).length = k; rw [Gf.scale_length]; exact hx.1, by show (Gf.scale _ _).length = t; rw [Gf.scale_length]; exact hx.2.1, scale_lt256 (normC_lt _) _, scale_lt256 (normC_lt _) _⟩
theorem rest_dim {k t : Nat} : ∀ {L : List Rw} {x : Rw}, Dims k t L → Dim k t x → Dim k t (rest L x)
  | [], _, _, hx => hx
  | r :: L, _, hL, hx => rest_dim (L := L) (fun y hy => hL y (List.mem_cons_of_mem _ hy)) (step_dim hx (hL r List.mem_cons_self))
theorem rest_take_succ (L : List Rw) (x : Rw) (k : Nat) (h : k < L.length) : rest (L.take (k + 1)) x = step (rest (L.take k) x) (rwAt L k) := by
  unfold rest
  rw [take_rwAt L k h, List.foldl_append]; rfl
theorem Dims.take {k t : Nat} {L : List Rw} (h : Dims k t L) (n : Nat) : Dims k t (L.take n) := fun r hr => h r (List.mem_of_mem_take hr)
theorem Dims.at {k t : Nat} {L : List Rw} (h : Dims k t L) {i : Nat} (hi : i < L.length) : Dim k t (rwAt L i) := h _ (rwAt_mem hi)
theorem Leads.at {L : List Rw} (h : Leads L) {i : Nat} (hi : i < L.length) : lead (rwAt L i).1 < (rwAt L i).1.length := h _ (rwAt_mem hi)

/-- How many rows lead ahead, found one by one. -/
theorem ahead_eq {L : List Rw} {y : Rw} {j : Nat} (hj : j ≤ L.length) (h0 : ∀ i, i < j → lead (rwAt L i).1 < lead y.1) (h1 : j = L.length ∨ ¬ lead (rwAt L j).1 < lead y.1) : ahead L y = j := by
  unfold ahead
  induction L generalizing j with
  | nil => simp at hj; subst hj; rfl
  | cons r L ih =>
    cases j with
    | zero =>
      rcases h1 with h1 | h1
      · simp at h1
      · have : ¬ lead r.1 < lead y.1 := h1
        rw [List.takeWhile_cons_of_neg (by simpa using this)]; rfl
    | succ j =>
      have h2 : lead r.1 < lead y.1 := h0 0 (by omega)
      rw [List.takeWhile_cons_of_pos (by simpa using h2), List.length_cons, ih (j := j) (by simpa using hj) (fun i hi => h0 (i + 1) (by omega)) (by
        rcases h1 with h1 | h1
        · left; simpa using h1
        · right; exact h1)]
theorem ahead_le (L : List Rw) (y : Rw) : ahead L y ≤ L.length := by
  unfold ahead; exact (List.takeWhile_sublist _).length_le

end Ro
end Go.Proofs.YtphdadibfeencaaGreat
