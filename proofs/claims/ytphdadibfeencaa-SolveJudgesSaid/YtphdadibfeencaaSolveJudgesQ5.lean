/- Texts of one seat, laid together: RowL, RowMath. -/
import Derived.Test.YtphdadibfeencaaSolveJudgesQ4

/-
  Lists of rows (each of two slices of bytes): read, appended to, stored into.
-/
set_option maxRecDepth 100000
namespace Go.Proofs.Ytphdadibfeencaa
open Go.RowKit

theorem row_add (b o j : Nat) : (⟨b, o, none⟩ : Addr).add j = ⟨b, o + j, none⟩ := by unfold Addr.add; split <;> simp_all

/-- A row: its vector, and what it carries. -/
abbrev Rw := List Nat × List Nat
/-- The row of a place: by a name of its own, so that the walk leaves it as it is. -/
def rwAt (L : List Rw) (i : Nat) : Rw := L.getD i ([], [])
theorem rwAt_eq (L : List Rw) (i : Nat) (h : i < L.length) : rwAt L i = L[i] := by
  unfold rwAt; rw [List.getD_eq_getElem?_getD, List.getElem?_eq_getElem h]; rfl
theorem rwAt_mem {L : List Rw} {i : Nat} (h : i < L.length) : rwAt L i ∈ L := by rw [rwAt_eq L i h]; exact List.getElem_mem h
theorem take_rwAt (L : List Rw) (k : Nat) (h : k < L.length) : L.take (k + 1) = L.take k ++ [rwAt L k] := by
  rw [List.take_succ_eq_append_getElem h, rwAt_eq L k h]

/-- The value is a slice of rows that reads as these. -/
def IsRL (w : World) (v : Value) (L : List Rw) : Prop :=
  ∃ a cap, v = .slice a L.length cap ∧ L.length ≤ cap ∧ cap ≤ 9223372036854775807 ∧
    (L ≠ [] → ∃ b off, a = some ⟨b, off, none⟩ ∧ b < w.heap.size ∧ ∀ i, i < L.length → ∃ x y, w.cell? ⟨b, off + i * 2, none⟩ = some x ∧ w.cell? ⟨b, off + i * 2 + 1, none⟩ = some y ∧ Bytes w x (rwAt L i).1 ∧ Bytes w y (rwAt L i).2)

theorem IsRL.nil (w : World) : IsRL w (.slice none 0 0) [] := ⟨none, 0, rfl, by simp, by omega, fun h => absurd rfl h⟩
/-- Its cells stay, and all bytes. -/
theorem IsRL.keep {w w' : World} {v : Value} {L : List Rw} (h : IsRL w v L) (hs : Soft w w') (hb : ∀ b, v.ownBlock = some b → L ≠ [] → w'.heap[b]? = w.heap[b]?) : IsRL w' v L := by
  obtain ⟨a, cap, rfl, h1, h2, h4⟩ := h
  refine ⟨a, cap, rfl, h1, h2, fun hne => ?_⟩
  obtain ⟨b, off, rfl, hlt, hc⟩ := h4 hne
  refine ⟨b, off, rfl, Nat.lt_of_lt_of_le hlt hs.size, fun i hi => ?_⟩
  obtain ⟨x, y, hx, hy, h5, h6⟩ := hc i hi
  have hbb := hb b rfl hne
  exact ⟨x, y, by rw [cell_of_heap hbb]; exact hx, by rw [cell_of_heap hbb]; exact hy, h5.soft hs, h6.soft hs⟩
theorem IsRL.block_lt {w : World} {v : Value} {L : List Rw} (h : IsRL w v L) {b : Nat} (hb : v.ownBlock = some b) (hne : L ≠ []) : b < w.heap.size := by
  obtain ⟨a, cap, rfl, _, _, h4⟩ := h
  obtain ⟨b', off, rfl, hlt, _⟩ := h4 hne
  simp only [Value.ownBlock, Option.some.injEq] at hb
  rw [← hb]; exact hlt
theorem IsRL.go {w w' : World} {v : Value} {L : List Rw} (h : IsRL w v L) (hb : Below w.heap.size w w') : IsRL w' v L :=
  h.keep (Soft.of_below hb) fun b e hne => hb.block b (h.block_lt e hne)
/-- A list that lies below B, where below B nothing has turned. -/
theorem IsRL.shape {w : World} {v : Value} {L : List Rw} (h : IsRL w v L) : ∃ a c, v = .slice a L.length c := by obtain ⟨a, cap, rfl, _⟩ := h; exact ⟨a, cap, rfl⟩
theorem IsRL.addr {w : World} {v : Value} {L : List Rw} (h : IsRL w v L) (hne : 0 < L.length) : ∃ b off c, v = .slice (some ⟨b, off, none⟩) L.length c ∧ b < w.heap.size := by
  obtain ⟨a, cap, rfl, _, _, h4⟩ := h
  obtain ⟨b, off, rfl, hlt, _⟩ := h4 (by intro e; rw [e] at hne; simp at hne)
  exact ⟨b, off, cap, rfl, hlt⟩
theorem IsRL.cells {w : World} {b off n cap : Nat} {L : List Rw} (h : IsRL w (.slice (some ⟨b, off, none⟩) n cap) L) (k : Nat) (hk : k < L.length) :
    ∃ x y, w.cell? ⟨b, off + k * 2, none⟩ = some x ∧ w.cell? ⟨b, off + k * 2 + 1, none⟩ = some y ∧ Bytes w x (rwAt L k).1 ∧ Bytes w y (rwAt L k).2 := by
  obtain ⟨a, cap', e, _, _, h4⟩ := h
  obtain ⟨b', off', rfl, _, hc⟩ := h4 (by intro h; rw [h] at hk; simp at hk)
  simp only [Value.slice.injEq, Option.some.injEq, Addr.mk.injEq] at e
  obtain ⟨⟨rfl, rfl, _⟩, _, _⟩ := e
  exact hc k hk

theorem IsRL.take {w : World} {b off n cap : Nat} {L : List Rw} (h : IsRL w (.slice (some ⟨b, off, none⟩) n cap) L) {i : Nat} (hi : i ≤ L.length) : IsRL w (.slice (some ⟨b, off, none⟩) i cap) (L.take i) := by
  obtain ⟨a, cap', e, h1, h2, h4⟩ := h
  simp only [Value.slice.injEq] at e
  obtain ⟨rfl, rfl, rfl⟩ := e
  have hl : (L.take i).length = i := by simp; omega
  refine ⟨_, cap, by rw [hl], by omega, h2, fun hne => ?_⟩
  have hne' : L ≠ [] := by intro e; subst e; simp at hne
  obtain ⟨b', off', e, hlt, hc⟩ := h4 hne'
  refine ⟨b', off', e, hlt, fun j hj => ?_⟩
  rw [hl] at hj
  have := hc j (by omega)
  rwa [show rwAt (L.take i) j = rwAt L j from by rw [rwAt_eq _ _ (by omega), rwAt_eq _ _ (by omega)]; simp]
theorem IsRL.drop {w : World} {b off n cap : Nat} {L : List Rw} (h : IsRL w (.slice (some ⟨b, off, none⟩) n cap) L) {i : Nat} (hi : i ≤ L.length) (a : Option Addr) (ha : i < L.length → a = some ⟨b, off + i * 2, none⟩) (c : Nat) (hc : L.length - i ≤ c) (hc2 : c ≤ 9223372036854775807) : IsRL w (.slice a (L.length - i) c) (L.drop i) := by
  have hl : (L.drop i).length = L.length - i := by simp
  refine ⟨a, c, by rw [hl], by omega, hc2, fun hne => ?_⟩
  have hlt : i < L.length := by
    have := List.length_pos_iff.2 hne
    omega
  obtain ⟨a', cap', e, h1, h2, h4⟩ := h
  obtain ⟨b', off', rfl, hlt', hcell⟩ := h4 (by intro e; subst e; simp at hlt)
  simp only [Value.slice.injEq, Option.some.injEq, Addr.mk.injEq] at e
  obtain ⟨⟨rfl, rfl, _⟩, _, _⟩ := e
  refine ⟨b, off + i * 2, ha hlt, hlt', fun j hj => ?_⟩
  rw [hl] at hj
  obtain ⟨x, y, hx, hy, h5, h6⟩ := hcell (i + j) (by omega)
  rw [show rwAt (L.drop i) j = rwAt L (i + j) from by rw [rwAt_eq _ _ (by omega), rwAt_eq _ _ (by omega)]; simp]
  rw [show off + i * 2 + j * 2 = off + (i + j) * 2 by omega]
  exact ⟨x, y, hx, hy, h5, h6⟩

theorem isRL_none (w : World) (a : Option Addr) (c : Nat) (hc : c ≤ 9223372036854775807) : IsRL w (.slice a 0 c) [] := ⟨a, c, rfl, by simp, hc, fun h => absurd rfl h⟩
theorem IsRL.one {w : World} {x y : Value} {r : Rw} {T : TypeId} (g : Nat) (hg : g = w.heap.size) (hx : Bytes w x r.1) (hy : Bytes w y r.2) : IsRL (w.alloc (.cells #[x, y] T)) (.slice (some ⟨g, 0, none⟩) 1 1) [r] := by
  subst hg
  have hb : Below w.heap.size w (w.alloc (.cells #[x, y] T)) := (Below.refl _ _).alloc (Nat.le_refl _) _
  have hk := Blk.new w #[x, y] T _ rfl
  refine ⟨_, 1, rfl, Nat.le_refl _, by omega, fun _ => ⟨w.heap.size, 0, rfl, by simp, fun i hi => ?_⟩⟩
  have : i = 0 := by simp at hi; exact hi
  subst this
  exact ⟨x, y, hk.cell 0, hk.cell 1, hx.go hb, hy.go hb⟩

/-! ### Lists that a call makes -/

/-- The cells of rows, one behind the other. -/
def pairs : List (Value × Value) → List Value
  | [] => []
  | u :: us => u.1 :: u.2 :: pairs us
theorem pairs_length : ∀ us, (pairs us).length = us.length * 2
  | [] => rfl
  | u :: us => by simp [pairs, pairs_length us]; omega
theorem pairs_append : ∀ us vs, pairs (us ++ vs) = pairs us ++ pairs vs
  | [], _ => rfl
  | u :: us, vs => by simp [pairs, pairs_append us vs]
theorem pairs_get : ∀ (us : List (Value × Value)) (i : Nat) (u : Value × Value), us[i]? = some u → (pairs us)[i * 2]? = some u.1 ∧ (pairs us)[i * 2 + 1]? = some u.2
  | [], i, u, h => by simp at h
  | x :: us, 0, u, h => by simp at h; subst h; simp [pairs]
  | x :: us, i + 1, u, h => by
    have := pairs_get us i u (by simpa using h)
    rw [show (i + 1) * 2 = i * 2 + 1 + 1 by omega]
    simpa [pairs] using this

/-- Each pair reads as a row. -/
structure Each (w : World) (us : List (Value × Value)) (L : List Rw) : Prop where
  len : us.length = L.length
  row : ∀ i u, us[i]? = some u → Bytes w u.1 (rwAt L i).1 ∧ Bytes w u.2 (rwAt L i).2

theorem Each.nil (w : World) : Each w [] [] := ⟨rfl, fun i u h => by simp at h⟩
theorem Each.soft {w w' : World} {us : List (Value × Value)} {L : List Rw} (h : Each w us L) (hs : Soft w w') : Each w' us L := ⟨h.len, fun i u hu => ⟨(h.row i u hu).1.soft hs, (h.row i u hu).2.soft hs⟩⟩
theorem Each.append {w : World} {us vs : List (Value × Value)} {L M : List Rw} (h : Each w us L) (k : Each w vs M) : Each w (us ++ vs) (L ++ M) := by
  refine ⟨by simp [h.len, k.len], fun i u hu => ?_⟩
  by_cases hi : i < us.length
  · rw [List.getElem?_append_left hi] at hu
    have := h.row i u hu
    rw [show rwAt (L ++ M) i = rwAt L i from by unfold rwAt; rw [List.getD_eq_getElem?_getD, List.getElem?_append_left (by rw [← h.len]; exact hi), ← List.getD_eq_getElem?_getD]]
    exact this
  · rw [List.getElem?_append_right (by omega)] at hu
    have := k.row _ u hu
    rw [show rwAt (L ++ M) i = rwAt M (i - us.length) from by unfold rwAt; rw [List.getD_eq_getElem?_getD, List.getElem?_append_right (by rw [← h.len]; omega), ← List.getD_eq_getElem?_getD, h.len]]
    exact this
theorem Each.noU8 {w : World} {us : List (Value × Value)} {L : List Rw} (h : Each w us L) : ∀ x ∈ pairs us, (∀ k : Nat, x ≠ U8 k) ∧ x.oneCell' = true := by
  have key : ∀ u ∈ us, (∃ a n c, u.1 = .slice a n c) ∧ ∃ a n c, u.2 = .slice a n c := fun u hu => by
    obtain ⟨i, hi⟩ := List.mem_iff_getElem?.1 hu
    obtain ⟨⟨a, c, e, _⟩, ⟨a', c', e', _⟩⟩ := h.row i u hi
    exact ⟨⟨_, _, _, e⟩, ⟨_, _, _, e'⟩⟩
  clear h
  induction us with
  | nil => intro x hx; cases hx
  | cons u us ih =>
    intro x hx
    obtain ⟨⟨a, n, c, e⟩, ⟨a', n', c', e'⟩⟩ := key u List.mem_cons_self
    simp only [pairs, List.mem_cons] at hx
    rcases hx with rfl | rfl | hx
    · rw [e]; exact ⟨slice_ne _ _ _, rfl⟩
    · rw [e']; exact ⟨slice_ne _ _ _, rfl⟩
    · exact ih (fun v hv => key v (List.mem_cons_of_mem _ hv)) x hx

/-- The value is a list of rows whose block, from B on, the call made itself, or none yet. -/
def OwnL (w : World) (B : Nat) (T : TypeId) (v : Value) (L : List Rw) : Prop := ∃ us, OwnN w B T 2 v L.length (pairs us) ∧ Each w us L

theorem OwnL.nil (w : World) (B : Nat) (T : TypeId) : OwnL w B T (.slice none 0 0) [] := ⟨[], OwnN.nil _ _ _ _, Each.nil _⟩
theorem OwnL.mono {w : World} {B C : Nat} {T : TypeId} {v : Value} {L : List Rw} (h : OwnL w B T v L) (hC : C ≤ B) : OwnL w C T v L := by
  obtain ⟨us, h1, h2⟩ := h; exact ⟨us, h1.mono hC, h2⟩
theorem OwnL.go {w w' : World} {B : Nat} {T : TypeId} {v : Value} {L : List Rw} (h : OwnL w B T v L) (hb : Below w.heap.size w w') : OwnL w' B T v L := by
  obtain ⟨us, h1, h2⟩ := h; exact ⟨us, h1.go hb, h2.soft (Soft.of_below hb)⟩
theorem OwnL.from {w : World} {B : Nat} {T : TypeId} {v : Value} {L : List Rw} (h : OwnL w B T v L) : ∀ k, v.ownBlock = some k → B ≤ k := by obtain ⟨us, h1, _⟩ := h; exact h1.from
theorem OwnL.lt {w : World} {B : Nat} {T : TypeId} {v : Value} {L : List Rw} (h : OwnL w B T v L) : ∀ k, v.ownBlock = some k → k < w.heap.size := by obtain ⟨us, h1, _⟩ := h; exact fun k hk => (World.ownsRow.lt h1.1 k hk).2
theorem OwnL.shape {w : World} {B : Nat} {T : TypeId} {v : Value} {L : List Rw} (h : OwnL w B T v L) : ∃ a c, v = .slice a L.length c := by
  obtain ⟨us, ⟨⟨_, h1⟩, _⟩, _⟩ := h
  rcases h1 with ⟨rfl, h0⟩ | ⟨g, cap, cur, rfl, _⟩
  · rw [h0]; exact ⟨_, _, rfl⟩
  · exact ⟨_, _, rfl⟩
theorem OwnL.list {w : World} {B : Nat} {T : TypeId} {v : Value} {L : List Rw} (h : OwnL w B T v L) : IsRL w v L := by
  obtain ⟨us, ⟨h1, _⟩, h2⟩ := h
  have h1' := h1
  rcases h1.2 with ⟨rfl, h0⟩ | ⟨g, cap, cur, rfl, hB, hg, hn, hc, hsz, ht⟩
  · have e : L = [] := List.length_eq_zero_iff.1 h0
    subst e
    exact IsRL.nil w
  · refine ⟨_, cap, rfl, hn, by simpa [maxLen] using hc, fun _ => ⟨g, 0, rfl, (Array.getElem?_eq_some_iff.1 hg).1, fun i hi => ?_⟩⟩
    have hi' : i < us.length := by rw [h2.len]; exact hi
    obtain ⟨e1, e2⟩ := pairs_get us i us[i] (List.getElem?_eq_getElem hi')
    have c1 := World.ownsRow.cells h1' (g := g) rfl _ _ e1
    have c2 := World.ownsRow.cells h1' (g := g) rfl _ _ e2
    rw [row_add] at c1 c2
    have h3 := h2.row i us[i] (List.getElem?_eq_getElem hi')
    exact ⟨us[i].1, us[i].2, c1, by rw [Nat.add_assoc]; exact c2, h3.1, h3.2⟩
theorem infoRefRow : (Try.prog.info? 62).map (fun i => (i.zero, i.size, i.bytes)) = some (some (.agg #[.slice none 0 0, .slice none 0 0]), 2, 48) := by kernel_rfl

/-- 'out = append(out, rows...)', rows of a block. -/
theorem wpList_append_rows {ops : Array Oper} {rest : List Oper} {o : Oper} {a : Act} {Q : Exit → Act → World → Prop} {w : World} (hgd : o.guard = none) (s x : Operand) (ho : o.op = .call { callee := .builtin .append, args := #[s, x], argTypes := #[26, 26] })
    (B : Nat) (v u : Value) (L M : List Rw) (hs : a.eval s = v) (hx : a.eval x = u) (hown : OwnL w B 62 v L) (hr : IsRL w u M) (hB : B ≤ w.heap.size) (hn : L.length + M.length ≤ 1000000000000)
    (h : ∀ v' w', OwnL w' B 62 v' (L ++ M) → w.grownBy w' v.ownBlock → Soft w w' → wpList Try.prog ops Q rest (a.put o.dst v') w') :
    wpList Try.prog ops Q (o :: rest) a w := by
  obtain ⟨i0, hi, hz0, hz1, hz2⟩ := info_parts infoRefRow
  obtain ⟨us, h1, h2⟩ := hown
  have hr0 := hr
  obtain ⟨a1, c1, rfl, g1, g2, g4⟩ := hr
  cases a1 with
  | none =>
    cases M with
    | nil =>
      refine wpList_append_none hgd s x 26 ho B 62 i0 2 c1 Try.underlying26 hi v L.length (pairs us) hs h1.1 hx ?_
      exact h v w ⟨us, by rw [List.append_nil]; exact h1, by rw [List.append_nil]; exact h2⟩ (grown_refl _ _) (Soft.refl _)
    | cons y M =>
      obtain ⟨b, off, e, _⟩ := g4 (by simp)
      exact absurd e (by simp)
  | some ad =>
    -- the new cells, as pairs
    have hex : ∃ vs : List (Value × Value), Each w vs M ∧ ∀ j u, (pairs vs)[j]? = some u → w.cell? (ad.add j) = some u := by
      by_cases hM : M = []
      · subst hM; exact ⟨[], Each.nil w, fun j u hj => by simp [pairs] at hj⟩
      · obtain ⟨b, off, e, _, hc⟩ := g4 hM
        simp only [Option.some.injEq] at e
        subst e
        have hch : ∀ n, n ≤ M.length → ∃ vs : List (Value × Value), vs.length = n ∧ (∀ i u, vs[i]? = some u → Bytes w u.1 (rwAt M i).1 ∧ Bytes w u.2 (rwAt M i).2) ∧ ∀ j u, (pairs vs)[j]? = some u → w.cell? ⟨b, off + j, none⟩ = some u := by
          intro n
          induction n with
          | zero => intro _; exact ⟨[], rfl, fun i u hu => by simp at hu, fun j u hj => by simp [pairs] at hj⟩
          | succ n ih =>
            intro hn1
            obtain ⟨vs, hl, hv, hp⟩ := ih (by omega)
            obtain ⟨p, q, hp1, hq1, hb1, hb2⟩ := hc n (by omega)
            refine ⟨vs ++ [(p, q)], by simp [hl], fun i u hu => ?_, fun j u hj => ?_⟩
            · by_cases hi1 : i < vs.length
              · rw [List.getElem?_append_left hi1] at hu; exact hv i u hu
              · rw [List.getElem?_append_right (by omega)] at hu
                have : i - vs.length = 0 := by
                  have := (List.getElem?_eq_some_iff.1 hu).1
                  simp at this; omega
                rw [this] at hu
                simp at hu
                subst hu
                have : i = n := by omega
                subst this; exact ⟨hb1, hb2⟩
            · rw [pairs_append] at hj
              by_cases hj1 : j < (pairs vs).length
              · rw [List.getElem?_append_left hj1] at hj; exact hp j u hj
              · rw [List.getElem?_append_right (by omega)] at hj
                have hpl := pairs_length vs
                have hlt := (List.getElem?_eq_some_iff.1 hj).1
                simp [pairs] at hlt
                have : j - (pairs vs).length = 0 ∨ j - (pairs vs).length = 1 := by omega
                rcases this with h0 | h0
                · rw [h0] at hj
                  simp [pairs] at hj
                  subst hj
                  rw [show j = n * 2 by omega]; exact hp1
                · rw [h0] at hj
                  simp [pairs] at hj
                  subst hj
                  rw [show off + j = off + n * 2 + 1 by omega]; exact hq1
        obtain ⟨vs, hl, hv, hp⟩ := hch M.length (Nat.le_refl _)
        exact ⟨vs, ⟨hl, hv⟩, fun j u hj => by rw [row_add]; exact hp j u hj⟩
    obtain ⟨vs, hE, hcells⟩ := hex
    refine wpList_append_soft hgd s x 26 ho B 62 i0 (.agg #[.slice none 0 0, .slice none 0 0]) 2 48 Try.underlying26 hi hz0 hz1 hz2 rfl (by decide) v L.length (pairs us) hs h1
      ad M.length c1 (pairs vs) hx (by rw [pairs_length, hE.len]) hcells (fun u hu => (hE.noU8 u hu).2) (fun u hu => by simp [Value.cells] at hu; subst hu; exact slice_ne _ _ _) (fun u hu => (hE.noU8 u hu).1) ?_ ?_ hB ?_
    · unfold maxLen; omega
    · omega
    · intro v' w' k1 k2 k3
      refine h v' w' ⟨us ++ vs, ?_, (h2.append hE).soft k3⟩ k2 k3
      rw [List.length_append, pairs_append]; exact k1

end Go.Proofs.Ytphdadibfeencaa

/-
  Rows cleared by others (layers 7 and 8), in plain lists: what the document's answers reckon. No program in this text.
-/
set_option maxRecDepth 100000
namespace Go.Proofs.Ytphdadibfeencaa
namespace Ro

def less (x : Rw) (c : Nat) (r : Rw) : Rw := (lessV c x.1 x.2 r.1 r.2, lessD c x.1 x.2 r.1 r.2)
def norm (x : Rw) : Rw := (Gf.scale (normC x.1) x.1, Gf.scale (normC x.1) x.2)
/-- What is left, row by row. -/
def step (x r : Rw) : Rw := less x (nth x.1 (lead r.1)) r
def rest (L : List Rw) (x : Rw) : Rw := L.foldl step x
/-- How many rows lead ahead of it. -/
def ahead (L : List Rw) (x : Rw) : Nat := (L.takeWhile fun r => decide (lead r.1 < lead x.1)).length
def put (L : List Rw) (y : Rw) : List Rw := L.take (ahead L y) ++ y :: L.drop (ahead L y)
def insert (L : List Rw) (x : Rw) : List Rw := if lead (norm (rest L x)).1 < (norm (rest L x)).1.length then put L (norm (rest L x)) else L
/-- All inserted, one by one. -/
def all (L : List Rw) : List Rw := L.foldl insert []

/-- Rows of k and t bytes. -/
def Dim (k t : Nat) (x : Rw) : Prop := x.1.length = k ∧ x.2.length = t ∧ (∀ z, z ∈ x.1 → z < 256) ∧ ∀ z, z ∈ x.2 → z < 256
def Dims (k t : Nat) (L : List Rw) : Prop := ∀ r ∈ L, Dim k t r
def Leads (L : List Rw) : Prop := ∀ r ∈ L, lead r.1 < r.1.length

theorem add_lt256 {x y : List Nat} (hx : ∀ z, z ∈ x → z < 256) (hy : ∀ z, z ∈ y → z < 256) : ∀ z, z ∈ Gf.add x y → z < 256 := by
  intro z hz
  unfold Gf.add at hz
  induction x generalizing y with
  | nil => simp at hz
  | cons a x ih =>
    cases y with
    | nil => simp at hz
    | cons b y =>
      simp only [List.zipWith_cons_cons, List.mem_cons] at hz
      rcases hz with rfl | hz
      · exact Gf.xor_lt (hx a List.mem_cons_self) (hy b List.mem_cons_self)
      · exact ih (fun z hz => hx z (List.mem_cons_of_mem _ hz)) (fun z hz => hy z (List.mem_cons_of_mem _ hz)) hz
theorem scale_lt256 {c : Nat} (hc : c < 256) (x : List Nat) : ∀ z, z ∈ Gf.scale c x → z < 256 := by
  intro z hz
  unfold Gf.scale at hz
  obtain ⟨y, _, rfl⟩ := List.mem_map.1 hz
  exact Gf.mul_lt hc _

theorem less_dim {k t : Nat} {x r : Rw} {c : Nat} (hc : c < 256) (hx : Dim k t x) (hr : Dim k t r) : Dim k t (less x c r) ∧ less x c r = (Gf.add (Gf.scale c r.1) x.1, Gf.add (Gf.scale c r.2) x.2) := by
  obtain ⟨h1, h2, h3, h4⟩ := hx
  obtain ⟨g1, g2, g3, g4⟩ := hr
  have e : less x c r = (Gf.add (Gf.scale c r.1) x.1, Gf.add (Gf.scale c r.2) x.2) := by
    unfold less lessV lessD
    rw [if_pos ⟨by omega, by omega⟩, if_pos ⟨by omega, by omega⟩]
  refine ⟨?_, e⟩
  rw [e]
  refine ⟨?_, ?_, add_lt256 (scale_lt256 hc _) h3, add_lt256 (scale_lt256 hc _) h4⟩
  · show (Gf.add (Gf.scale c r.1) x.1).length = k
    rw [Gf.add_length _ _ (by rw [Gf.scale_length]; omega), Gf.scale_length]; exact g1
  · show (Gf.add (Gf.scale c r.2) x.2).length = t
    rw [Gf.add_length _ _ (by rw [Gf.scale_length]; omega), Gf.scale_length]; exact g2
theorem step_dim {k t : Nat} {x r : Rw} (hx : Dim k t x) (hr : Dim k t r) : Dim k t (step x r) := (less_dim (nth_lt hx.2.2.1 _) hx hr).1
theorem norm_dim {k t : Nat} {x : Rw} (hx : Dim k t x) : Dim k t (norm x) :=
  ⟨by show (Gf.scale _ _).length = k; rw [Gf.scale_length]; exact hx.1, by show (Gf.scale _ _).length = t; rw [Gf.scale_length]; exact hx.2.1, scale_lt256 (normC_lt _) _, scale_lt256 (normC_lt _) _⟩
theorem rest_dim {k t : Nat} : ∀ {L : List Rw} {x : Rw}, Dims k t L → Dim k t x → Dim k t (rest L x)
  | [], _, _, hx => hx
  | r :: L, _, hL, hx => rest_dim (L := L) (fun y hy => hL y (List.mem_cons_of_mem _ hy)) (step_dim hx (hL r List.mem_cons_self))
theorem rest_take_succ (L : List Rw) (x : Rw) (k : Nat) (h : k < L.length) : rest (L.take (k + 1)) x = step (rest (L.take k) x) (rwAt L k) := by
  unfold rest
  rw [take_rwAt L k h, List.foldl_append]; rfl
theorem Dims.take {k t : Nat} {L : List Rw} (h : Dims k t L) (n : Nat) : Dims k t (L.take n) := fun r hr => h r (List.mem_of_mem_take hr)
theorem Dims.at {k t : Nat} {L : List Rw} (h : Dims k t L) {i : Nat} (hi : i < L.length) : Dim k t (rwAt L i) := h _ (rwAt_mem hi)
theorem Leads.at {L : List Rw} (h : Leads L) {i : Nat} (hi : i < L.length) : lead (rwAt L i).1 < (rwAt L i).1.length := h _ (rwAt_mem hi)

/-- How many rows lead ahead, found one by one. -/
theorem ahead_eq {L : List Rw} {y : Rw} {j : Nat} (hj : j ≤ L.length) (h0 : ∀ i, i < j → lead (rwAt L i).1 < lead y.1) (h1 : j = L.length ∨ ¬ lead (rwAt L j).1 < lead y.1) : ahead L y = j := by
  unfold ahead
  induction L generalizing j with
  | nil => simp at hj; subst hj; rfl
  | cons r L ih =>
    cases j with
    | zero =>
      rcases h1 with h1 | h1
      · simp at h1
      · have : ¬ lead r.1 < lead y.1 := h1
        rw [List.takeWhile_cons_of_neg (by simpa using this)]; rfl
    | succ j =>
      have h2 : lead r.1 < lead y.1 := h0 0 (by omega)
      rw [List.takeWhile_cons_of_pos (by simpa using h2), List.length_cons, ih (j := j) (by simpa using hj) (fun i hi => h0 (i + 1) (by omega)) (by
        rcases h1 with h1 | h1
        · left; simpa using h1
        · right; exact h1)]
theorem ahead_le (L : List Rw) (y : Rw) : ahead L y ≤ L.length := by
  unfold ahead; exact (List.takeWhile_sublist _).length_le

end Ro
end Go.Proofs.Ytphdadibfeencaa
