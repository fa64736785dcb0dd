/- Texts of one seat, laid together: ElimA, SearchPlace. -/
import Derived.Test.YtphdadibfeencaaGreatSolveHoldsQ12
import Derived.Test.YtphdadibfeencaaGreatSolveHoldsQ11
import Derived.Test.YtphdadibfeencaaGreatSolveHoldsQ5
import Derived.Test.YtphdadibfeencaaGreatSolveHoldsQ13

/-
  Systems of equations in the program (layer 8): their lists of rows, three cells each (vector, data, where it leads).
-/
set_option maxRecDepth 100000
namespace Go.Proofs.YtphdadibfeencaaGreat
open Go.RowKit

/-- The cells of rows and where they lead, one behind the other. -/
def trips : List (Value × Value) → List Rw → List Value
  | u :: us, r :: E => u.1 :: u.2 :: .int .i64 (lead r.1 : Int) :: trips us E
  | _, _ => []
theorem trips_length : ∀ (us : List (Value × Value)) (E : List Rw), us.length = E.length → (trips us E).length = E.length * 3
  | [], [], _ => rfl
  | u :: us, r :: E, h => by
    have := trips_length us E (by simpa using h)
    simp [trips, this]; omega
  | [], r :: E, h => by simp at h
  | u :: us, [], h => by simp at h
theorem trips_append : ∀ (us vs : List (Value × Value)) (E F : List Rw), us.length = E.length → trips (us ++ vs) (E ++ F) = trips us E ++ trips vs F
  | [], vs, [], F, _ => by simp [trips]
  | u :: us, vs, r :: E, F, h => by simp [trips, trips_append us vs E F (by simpa using h)]
  | [], vs, r :: E, F, h => by simp at h
  | u :: us, vs, [], F, h => by simp at h
theorem trips_get : ∀ (us : List (Value × Value)) (E : List Rw) (i : Nat) (u : Value × Value), us.length = E.length → us[i]? = some u →
    (trips us E)[i * 3]? = some u.1 ∧ (trips us E)[i * 3 + 1]? = some u.2 ∧ (trips us E)[i * 3 + 2]? = some (.int .i64 (lead (rwAt E i).1 : Int))
  | [], _, i, u, _, h => by simp at h
  | x :: us, [], _, _, h, _ => by simp at h
  | x :: us, r :: E, 0, u, _, h => by simp at h; subst h; simp [trips, rwAt]
  | x :: us, r :: E, i + 1, u, hl, h => by
    have := trips_get us E i u (by simpa using hl) (by simpa using h)
    rw [show (i + 1) * 3 = i * 3 + 1 + 1 + 1 by omega]
    have e : rwAt (r :: E) (i + 1) = rwAt E i := by simp [rwAt]
    rw [e]
    simpa [trips] using this
theorem trips_take : ∀ (us : List (Value × Value)) (E : List Rw) (i : Nat), us.length = E.length → (trips us E).take (i * 3) = trips (us.take i) (E.take i)
  | [], [], i, _ => by simp [trips]
  | u :: us, r :: E, 0, _ => by simp [trips]
  | u :: us, r :: E, i + 1, h => by
    rw [show (i + 1) * 3 = i * 3 + 1 + 1 + 1 by omega]
    simp only [trips, List.take_succ_cons]
    rw [trips_take us E i (by simpa using h)]
  | [], r :: E, _, h => by simp at h
  | u :: us, [], _, h => by simp at h
theorem trips_drop : ∀ (us : List (Value × Value)) (E : List Rw) (i : Nat), us.length = E.length → (trips us E).drop (i * 3) = trips (us.drop i) (E.drop i)
  | [], [], i, _ => by simp [trips]
  | u :: us, r :: E, 0, _ => by simp [trips]
  | u :: us, r :: E, i + 1, h => by
    rw [show (i + 1) * 3 = i * 3 + 1 + 1 + 1 by omega]
    simp only [trips, List.drop_succ_cons]
    rw [trips_drop us E i (by simpa using h)]
  | [], r :: E, _, h => by simp at h
  | u :: us, [], _, h => by simp at h
theorem trips_set {x y : Value} {r : Rw} : ∀ (us : List (Value × Value)) (E : List Rw) (k : Nat), us.length = E.length → k < us.length → lead r.1 = lead (rwAt E k).1 → ((trips us E).set (k * 3) x).set (k * 3 + 1) y = trips (us.set k (x, y)) (E.set k r)
  | [], _, k, _, h, _ => by simp at h
  | u :: us, [], _, h, _, _ => by simp at h
  | u :: us, s :: E, 0, _, _, h => by
    have e : lead s.1 = lead r.1 := by simpa [rwAt] using h.symm
    simp [trips, e]
  | u :: us, s :: E, k + 1, hl, hk, h => by
    rw [show (k + 1) * 3 = k * 3 + 1 + 1 + 1 by omega, show k * 3 + 1 + 1 + 1 + 1 = (k * 3 + 1) + 1 + 1 + 1 by omega]
    simp only [trips, List.set_cons_succ]
    rw [trips_set us E k (by simpa using hl) (by simpa using hk) (by simpa [rwAt] using h)]
theorem Each.noU8e {w : World} {us : List (Value × Value)} {E : List Rw} (h : Each w us E) : ∀ x ∈ trips us E, (∀ k : Nat, x ≠ U8 k) ∧ x.oneCell' = true := by
  intro x hx
  have hp := h.noU8
  obtain ⟨j, hj⟩ := List.mem_iff_getElem?.1 hx
  have hlt : j < E.length * 3 := by
    rw [← trips_length us E h.len]
    exact (List.getElem?_eq_some_iff.1 hj).1
  have hi : j / 3 < us.length := by rw [h.len]; omega
  obtain ⟨e0, e1, e2⟩ := trips_get us E (j / 3) us[j / 3] h.len (List.getElem?_eq_getElem hi)
  obtain ⟨p0, p1⟩ := pairs_get us (j / 3) us[j / 3] (List.getElem?_eq_getElem hi)
  have h3 : j = j / 3 * 3 ∨ j = j / 3 * 3 + 1 ∨ j = j / 3 * 3 + 2 := by omega
  rcases h3 with h3 | h3 | h3
  · rw [h3, e0] at hj
    cases hj
    exact hp _ (List.mem_of_getElem? p0)
  · rw [h3, e1] at hj
    cases hj
    exact hp _ (List.mem_of_getElem? p1)
  · rw [h3, e2] at hj
    cases hj
    exact ⟨fun k e => (by cases e), rfl⟩

/-- A list of rows that a system owns. -/
def OwnE (w : World) (B : Nat) (v : Value) (E : List Rw) : Prop := ∃ us, OwnN w B 125 3 v E.length (trips us E) ∧ Each w us E

theorem OwnE.nil (w : World) (B : Nat) : OwnE w B (.slice none 0 0) [] := ⟨[], OwnN.nil _ _ _ _, Each.nil _⟩
theorem OwnE.mono {w : World} {B C : Nat} {v : Value} {E : List Rw} (h : OwnE w B v E) (hC : C ≤ B) : OwnE w C v E := by
  obtain ⟨us, h1, h2⟩ := h; exact ⟨us, h1.mono hC, h2⟩
theorem OwnE.go {w w' : World} {B : Nat} {v : Value} {E : List Rw} (h : OwnE w B v E) (hb : Below w.heap.size w w') : OwnE w' B v E := by
  obtain ⟨us, h1, h2⟩ := h; exact ⟨us, h1.go hb, h2.soft (Soft.of_below hb)⟩
theorem OwnE.from {w : World} {B : Nat} {v : Value} {E : List Rw} (h : OwnE w B v E) : ∀ k, v.ownBlock = some k → B ≤ k := by obtain ⟨us, h1, _⟩ := h; exact h1.from
theorem OwnE.lt {w : World} {B : Nat} {v : Value} {E : List Rw} (h : OwnE w B v E) : ∀ k, v.ownBlock = some k → k < w.heap.size := by obtain ⟨us, h1, _⟩ := h; exact fun k hk => (World.ownsRow.lt h1.1 k hk).2
/-- A list depends on its own block alone, and on bytes. -/
theorem OwnN.same {w w' : World} {B sz n : Nat} {T : TypeId} {v : Value} {xs : List Value} (h : OwnN w B T sz v n xs) (hs : ∀ k, v.ownBlock = some k → w'.heap[k]? = w.heap[k]?) : OwnN w' B T sz v n xs := by
  refine ⟨⟨h.1.1, ?_⟩, fun g e => (h.2 g e).of_heap (hs g e)⟩
  rcases h.1.2 with hn | ⟨g, cap, cur, rfl, hb, hgg, rest⟩
  · exact .inl hn
  · exact .inr ⟨g, cap, cur, rfl, hb, by rw [hs g rfl]; exact hgg, rest⟩
theorem OwnE.same {w w' : World} {B : Nat} {v : Value} {E : List Rw} (h : OwnE w B v E) (hs : Soft w w') (he : ∀ k, v.ownBlock = some k → w'.heap[k]? = w.heap[k]?) : OwnE w' B v E := by
  obtain ⟨us, h1, h2⟩ := h; exact ⟨us, h1.same he, h2.soft hs⟩
theorem OwnE.other {w w' : World} {B g : Nat} {v : Value} {E : List Rw} (h : OwnE w B v E) (hg : w.grownBy w' (some g)) (hs : Soft w w') (hne : v.ownBlock ≠ some g) : OwnE w' B v E :=
  h.same hs fun k e => hg.block k (h.lt k e) (by rw [← e]; exact hne)
theorem OwnE.shape {w : World} {B : Nat} {v : Value} {E : List Rw} (h : OwnE w B v E) : ∃ a c, v = .slice a E.length c := by
  obtain ⟨us, ⟨⟨_, h1⟩, _⟩, _⟩ := h
  rcases h1 with ⟨rfl, h0⟩ | ⟨g, cap, cur, rfl, _⟩
  · rw [h0]; exact ⟨_, _, rfl⟩
  · exact ⟨_, _, rfl⟩
theorem OwnE.addr {w : World} {B : Nat} {v : Value} {E : List Rw} (h : OwnE w B v E) (hne : 0 < E.length) : ∃ g c, v = .slice (some ⟨g, 0, none⟩) E.length c ∧ B ≤ g ∧ g < w.heap.size := by
  have h' := h
  obtain ⟨us, ⟨⟨_, h1⟩, _⟩, _⟩ := h
  rcases h1 with ⟨rfl, h0⟩ | ⟨g, cap, cur, rfl, hB, _⟩
  · omega
  · exact ⟨g, cap, rfl, hB, h'.lt g rfl⟩
theorem OwnE.free {w : World} {B g n c : Nat} {E : List Rw} (h : OwnE w B (.slice (some ⟨g, 0, none⟩) n c) E) (j : Nat) : w.frozen? ⟨g, j, none⟩ = false := by
  obtain ⟨a, c', e⟩ := h.shape
  simp only [Value.slice.injEq] at e
  obtain ⟨_, rfl, _⟩ := e
  obtain ⟨us, ⟨h1, _⟩, _⟩ := h
  exact World.ownsRow.frozenAt h1 j
theorem OwnE.cells {w : World} {B g n c : Nat} {E : List Rw} (h : OwnE w B (.slice (some ⟨g, 0, none⟩) n c) E) (k : Nat) (hk : k < E.length) :
    ∃ a b a' b', w.cell? ⟨g, k * 3, none⟩ = some (.slice a (rwAt E k).1.length b) ∧ w.cell? ⟨g, k * 3 + 1, none⟩ = some (.slice a' (rwAt E k).2.length b') ∧ w.cell? ⟨g, k * 3 + 2, none⟩ = some (.int .i64 (lead (rwAt E k).1 : Int)) ∧
      Bytes w (.slice a (rwAt E k).1.length b) (rwAt E k).1 ∧ Bytes w (.slice a' (rwAt E k).2.length b') (rwAt E k).2 := by
  obtain ⟨us, ⟨h1, _⟩, h2⟩ := h
  have hk' : k < us.length := by rw [h2.len]; exact hk
  have hu := List.getElem?_eq_getElem hk'
  obtain ⟨hb1, hb2⟩ := h2.row k us[k] hu
  obtain ⟨e0, e1, e2⟩ := trips_get us E k us[k] h2.len hu
  have c0 := World.ownsRow.cells h1 (g := g) rfl _ _ e0
  have c1 := World.ownsRow.cells h1 (g := g) rfl _ _ e1
  have c2 := World.ownsRow.cells h1 (g := g) rfl _ _ e2
  rw [row_add, Nat.zero_add] at c0 c1 c2
  obtain ⟨xa, xc, ex, _⟩ := id hb1
  obtain ⟨ya, yc, ey, _⟩ := id hb2
  rw [ex] at c0 hb1
  rw [ey] at c1 hb2
  exact ⟨_, _, _, _, c0, c1, c2, hb1, hb2⟩
/-- A row that leads where the one did is stored in its place. -/
theorem OwnE.set {w : World} {B g n cap : Nat} {E : List Rw} (h : OwnE w B (.slice (some ⟨g, 0, none⟩) n cap) E) (k : Nat) (hk : k < E.length) {x y : Value} {r : Rw} (hx : Bytes w x r.1) (hy : Bytes w y r.2) (hld : lead r.1 = lead (rwAt E k).1) :
    OwnE ((w.setCell ⟨g, k * 3, none⟩ x).setCell ⟨g, k * 3 + 1, none⟩ y) B (.slice (some ⟨g, 0, none⟩) n cap) (E.set k r) ∧ Soft w ((w.setCell ⟨g, k * 3, none⟩ x).setCell ⟨g, k * 3 + 1, none⟩ y) ∧
      w.grownBy ((w.setCell ⟨g, k * 3, none⟩ x).setCell ⟨g, k * 3 + 1, none⟩ y) (some g) := by
  obtain ⟨a, c, e⟩ := h.shape
  simp only [Value.slice.injEq] at e
  obtain ⟨_, rfl, _⟩ := e
  obtain ⟨us, h1, h2⟩ := h
  obtain ⟨s1, g1⟩ := World.ownsRow.stored h1.1 (k * 3) x
  obtain ⟨s2, g2⟩ := World.ownsRow.stored s1 (k * 3 + 1) y
  have hg := grown_trans g1 g2
  have nx : ∀ m : Nat, x ≠ U8 m := by obtain ⟨a, c, rfl, _⟩ := hx; exact slice_ne _ _ _
  have ny : ∀ m : Nat, y ≠ U8 m := by obtain ⟨a, c, rfl, _⟩ := hy; exact slice_ne _ _ _
  have hk' : k < us.length := by rw [h2.len]; exact hk
  rw [trips_set us E k h2.len hk' hld] at s2
  obtain ⟨cur, fr, hcur⟩ : ∃ cur fr, w.heap[g]? = some (.cells cur 125 fr) := by
    rcases h1.1.2 with ⟨e, _⟩ | ⟨g', cap', cur, e, _, hgg, _⟩
    · cases e
    · simp only [Value.slice.injEq, Option.some.injEq, Addr.mk.injEq] at e
      obtain ⟨⟨rfl, _⟩, _⟩ := e
      exact ⟨cur, (0, 0), hgg⟩
  have hloose := h1.2 g rfl
  have hl2 : Loose ((w.setCell ⟨g, k * 3, none⟩ x).setCell ⟨g, k * 3 + 1, none⟩ y) g := by
    intro i m
    have e1 : ((w.setCell ⟨g, k * 3, none⟩ x).setCell ⟨g, k * 3 + 1, none⟩ y).heap[g]? = some (.cells ((cur.setIfInBounds (k * 3) x).setIfInBounds (k * 3 + 1) y) 125 fr) := by
      unfold World.setCell
      simp [Array.getElem?_modify, hcur]
    rw [cell_of_row _ g i _ _ fr e1]
    have e2 := hloose i m
    rw [cell_of_row w g i cur 125 fr hcur] at e2
    rw [Array.getElem?_setIfInBounds, Array.getElem?_setIfInBounds]
    intro e3
    split at e3
    · split at e3
      · exact ny m (Option.some.inj e3)
      · cases e3
    · split at e3
      · split at e3
        · exact nx m (Option.some.inj e3)
        · cases e3
      · exact e2 e3
  have hs : Soft w ((w.setCell ⟨g, k * 3, none⟩ x).setCell ⟨g, k * 3 + 1, none⟩ y) := Soft.of_grown hg fun b e => by
    simp only [Option.some.injEq] at e
    subst e; exact ⟨hloose, hl2⟩
  refine ⟨⟨us.set k (x, y), ⟨?_, fun b e => ?_⟩, ⟨by simp [h2.len], fun i u hu => ?_⟩⟩, hs, hg⟩
  · rw [List.length_set]; exact s2
  · simp only [Value.ownBlock, Option.some.injEq] at e
    subst e; exact hl2
  · rw [List.getElem?_set] at hu
    by_cases hki : k = i
    · subst hki
      rw [if_pos rfl, if_pos hk'] at hu
      simp only [Option.some.injEq] at hu
      subst hu
      rw [show rwAt (E.set k r) k = r from by rw [rwAt_eq _ _ (by simpa using hk)]; simp]
      exact ⟨hx.soft hs, hy.soft hs⟩
    · rw [if_neg hki] at hu
      rw [show rwAt (E.set k r) i = rwAt E i from by unfold rwAt; rw [List.getD_eq_getElem?_getD, List.getElem?_set, if_neg hki, ← List.getD_eq_getElem?_getD]]
      have := h2.row i u hu
      exact ⟨this.1.soft hs, this.2.soft hs⟩
/-- Blocks of other elements lie elsewhere. -/
theorem OwnE.ne_box {w : World} {B g : Nat} {T' : TypeId} {v : Value} {E : List Rw} {vs : Array Value} (h : OwnE w B v E) (k : Blk w g vs T') (hT : 125 ≠ T') : v.ownBlock ≠ some g := by
  obtain ⟨us, ⟨⟨_, h2⟩, _⟩, _⟩ := h
  rcases h2 with ⟨rfl, _⟩ | ⟨g', cap, cur, rfl, _, hg, _⟩
  · intro e; cases e
  · intro e
    simp only [Value.ownBlock, Option.some.injEq] at e
    subst e
    unfold Blk at k
    rw [hg] at k
    simp only [Option.some.injEq, Obj.cells.injEq] at k
    exact hT k.2.1
/-- A row put in. -/
theorem insled_any (v x y : Value) (E : List Rw) (i vb B : Nat) (r : Rw) (w : World) (hown : OwnE w B v E) (hi : i ≤ E.length) (hvb : Blk w vb #[x, y, .int .i64 (lead r.1 : Int)] 125) (hx : Bytes w x r.1) (hy : Bytes w y r.2) (hne : v.ownBlock ≠ some vb) (hB : B ≤ w.heap.size) (hn : E.length ≤ 1000000000) :
    Calls Tryz.prog 85 #[v, .int .i64 (i : Int), .slice (some ⟨vb, 0, none⟩) 1 1] w fun e w' =>
      ∃ v', e = .returned v' ∧ OwnE w' B v' (E.take i ++ r :: E.drop i) ∧ w.grownBy w' v.ownBlock ∧ Soft w w' ∧ Near w v v' := by
  obtain ⟨us, h1, h2⟩ := hown
  have hN : ∀ u ∈ [x, y, .int .i64 (lead r.1 : Int)], (∀ k : Nat, u ≠ U8 k) ∧ u.oneCell' = true := by
    obtain ⟨a, c, rfl, _⟩ := hx
    obtain ⟨a', c', rfl, _⟩ := hy
    intro u hu
    rcases List.mem_cons.1 hu with rfl | hu
    · exact ⟨slice_ne _ _ _, rfl⟩
    · rcases List.mem_cons.1 hu with rfl | hu
      · exact ⟨slice_ne _ _ _, rfl⟩
      · rcases List.mem_cons.1 hu with rfl | hu
        · exact ⟨fun k e => (by cases e), rfl⟩
        · cases hu
  refine (insLed_any v E.length i vb B (trips us E) [x, y, .int .i64 (lead r.1 : Int)] w h1 hi hvb hne rfl hB (by omega) (fun u hu => (hN u hu).2) (fun u hu => (hN u hu).1) (fun u hu => (h2.noU8e u hu).2)).mono ?_
  rintro e w' ⟨v', rfl, k1, k2, k3, k4⟩
  refine ⟨v', rfl, ⟨us.take i ++ (x, y) :: us.drop i, ?_, ?_⟩, k2, k3, k4⟩
  · rw [trips_append _ _ _ _ (by simp [h2.len]), ← trips_take us E i h2.len, show trips ((x, y) :: us.drop i) (r :: E.drop i) = [x, y, .int .i64 (lead r.1 : Int)] ++ trips (us.drop i) (E.drop i) from rfl, ← trips_drop us E i h2.len]
    rw [show (E.take i ++ r :: E.drop i).length = E.length + 1 by simp; omega, ← List.append_assoc]
    exact k1
  · exact ((h2.take i).append ((h2.drop i).cons hx hy)).soft k3

end Go.Proofs.YtphdadibfeencaaGreat

/-
  sort.Search over a closure of the program (Place), which captures two boxes and turns nothing.
-/
set_option maxRecDepth 100000
namespace Go.Proofs.YtphdadibfeencaaGreat
open Go.RowKit

/-- What Search answers: a place behind which the predicate holds, and ahead of which it doesn't. -/
def SrchPlace (n : Nat) (p : Nat → Bool) (w : World) (e : Ending) (w' : World) : Prop := ∃ r : Nat, e = .returned (.int .i64 (r : Int)) ∧ r ≤ n ∧ (0 < r → p (r - 1) = false) ∧ (r < n → p r = true) ∧ Below w.heap.size w w'

set_option maxHeartbeats 1000000 in
theorem searchPlace_any (c0 c1 : Value) (n : Nat) (p : Nat → Bool) (w : World) (hn : n ≤ 1000000000000) (hF : ∀ wr, Below w.heap.size w wr → ∀ k : Nat, k < n → Calls Tryz.prog 95 #[.int .i64 (k : Int), c0, c1] wr fun e w' => e = .returned (.bool (p k)) ∧ Below wr.heap.size wr w') :
    Calls Tryz.prog 65 #[.int .i64 (n : Int), .func (Fn.func 95) #[] #[c0, c1]] w (SrchPlace n p w) := by
  have HF := Lib.hid hF
  clear hF
  go_enter Tryz.func65, Tryz.ntmps65
  go_wp2_with fail
  go_loopw [5, 6] (fun a b wr => ∃ i j : Nat, a = .int .i64 i ∧ b = .int .i64 j ∧ i ≤ j ∧ j ≤ n ∧ (0 < i → p (i - 1) = false) ∧ (j < n → p j = true) ∧ Below w.heap.size w wr) (fun a b _ => (intOf b).toNat - (intOf a).toNat)
  case atStart => exact ⟨0, n, rfl, rfl, by omega, by omega, fun h => absurd h (by omega), fun h => absurd h (by omega), Below.refl _ _⟩
  case round =>
    obtain ⟨i, j, rfl, rfl, hij, hjn, h0, h1, B⟩ := hrel
    have H0 := Lib.hid h0
    have H1 := Lib.hid h1
    clear h0 h1
    by_cases hlt : i < j
    · obtain ⟨m, hm⟩ : ∃ m, m = (i + j) / 2 := ⟨_, rfl⟩
      have hmn : m < n := by omega
      have hw0 : IntKind.i64.wrap ((i : Int) + (j : Int)) = (i : Int) + (j : Int) := by rw [IntKind.wrap_i64]; omega
      have hw1 : IntKind.u64.wrap ((i : Int) + (j : Int)) = ((i + j : Nat) : Int) := by rw [IntKind.wrap_u64]; omega
      have hw2 : IntKind.i64.wrap (((i : Int) + (j : Int)) / 2) = (m : Int) := by rw [IntKind.wrap_i64]; omega
      have hw3 : IntKind.u64.wrap (((i : Int) + (j : Int)) / 2) = (m : Int) := by rw [IntKind.wrap_u64]; omega
      go_wp2_with fail
      have hhf : ((i : Int) + (j : Int)) / 2 = (m : Int) := by omega
      simp only [hhf]
      refine (HF.out wr B m hmn).mono ?_
      rintro e w2 ⟨rfl, hb⟩
      have B2 : Below w.heap.size w w2 := B.trans (hb.mono B.size)
      clear hhf hw0 hw1 hw2 hw3
      cases hp : p m with
      | false =>
        go_wp2_with fail
        go_roundw
        case rel => exact ⟨m + 1, j, by go_num, rfl, by omega, hjn, fun _ => by rw [Nat.add_sub_cancel]; exact hp, H1.out, B2⟩
        case measure => simp [intOf]; omega
      | true =>
        go_wp2_with fail
        go_roundw
        case rel => exact ⟨i, m, by first | rfl | go_num, by first | rfl | go_num, by omega, by omega, H0.out, fun _ => hp, B2⟩
        case measure => simp [intOf]; omega
    · obtain rfl : i = j := by omega
      go_wp2_with fail
      go_ret
      exact ⟨i, rfl, hjn, H0.out, H1.out, B⟩

end Go.Proofs.YtphdadibfeencaaGreat
