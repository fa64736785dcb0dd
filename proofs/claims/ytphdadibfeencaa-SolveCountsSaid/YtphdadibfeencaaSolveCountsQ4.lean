/- Texts of one seat, laid together: RowL, RowMath, Mono. -/
import Derived.Test.YtphdadibfeencaaSolveCountsQ3
import Derived.Test.YtphdadibfeencaaRows
import Derived.Orders
import Derived.Below
import Derived.WalkKit

/-
  Lists of rows (each of two slices of bytes): read, appended to, stored into.
-/
set_option maxRecDepth 100000
namespace Go.Proofs.Ytphdadibfeencaa
open Go.RowKit

theorem row_add (b o j : Nat) : (⟨b, o, none⟩ : Addr).add j = ⟨b, o + j, none⟩ := by unfold Addr.add; split <;> simp_all

/-- A row: its vector, and what it carries. -/
abbrev Rw := List Nat × List Nat
/-- The row of a place: by a name of its own, so that the walk leaves it as it is. -/
def rwAt (L : List Rw) (i : Nat) : Rw := L.getD i ([], [])
theorem rwAt_eq (L : List Rw) (i : Nat) (h : i < L.length) : rwAt L i = L[i] := by
  unfold rwAt; rw [List.getD_eq_getElem?_getD, List.getElem?_eq_getElem h]; rfl
theorem rwAt_mem {L : List Rw} {i : Nat} (h : i < L.length) : rwAt L i ∈ L := by rw [rwAt_eq L i h]; exact List.getElem_mem h
theorem take_rwAt (L : List Rw) (k : Nat) (h : k < L.length) : L.take (k + 1) = L.take k ++ [rwAt L k] := by
  rw [List.take_succ_eq_append_getElem h, rwAt_eq L k h]

/-- The value is a slice of rows that reads as these. -/
def IsRL (w : World) (v : Value) (L : List Rw) : Prop :=
  ∃ a cap, v = .slice a L.length cap ∧ L.length ≤ cap ∧ cap ≤ 9223372036854775807 ∧
    (L ≠ [] → ∃ b off, a = some ⟨b, off, none⟩ ∧ b < w.heap.size ∧ ∀ i, i < L.length → ∃ x y, w.cell? ⟨b, off + i * 2, none⟩ = some x ∧ w.cell? ⟨b, off + i * 2 + 1, none⟩ = some y ∧ Bytes w x (rwAt L i).1 ∧ Bytes w y (rwAt L i).2)

theorem IsRL.nil (w : World) : IsRL w (.slice none 0 0) [] := ⟨none, 0, rfl, by simp, by omega, fun h => absurd rfl h⟩
/-- Its cells stay, and all bytes. -/
theorem IsRL.keep {w w' : World} {v : Value} {L : List Rw} (h : IsRL w v L) (hs : Soft w w') (hb : ∀ b, v.ownBlock = some b → L ≠ [] → w'.heap[b]? = w.heap[b]?) : IsRL w' v L := by
  obtain ⟨a, cap, rfl, h1, h2, h4⟩ := h
  refine ⟨a, cap, rfl, h1, h2, fun hne => ?_⟩
  obtain ⟨b, off, rfl, hlt, hc⟩ := h4 hne
  refine ⟨b, off, rfl, Nat.lt_of_lt_of_le hlt hs.size, fun i hi => ?_⟩
  obtain ⟨x, y, hx, hy, h5, h6⟩ := hc i hi
  have hbb := hb b rfl hne
  exact ⟨x, y, by rw [cell_of_heap hbb]; exact hx, by rw [cell_of_heap hbb]; exact hy, h5.soft hs, h6.soft hs⟩
theorem IsRL.block_lt {w : World} {v : Value} {L : List Rw} (h : IsRL w v L) {b : Nat} (hb : v.ownBlock = some b) (hne : L ≠ []) : b < w.heap.size := by
  obtain ⟨a, cap, rfl, _, _, h4⟩ := h
  obtain ⟨b', off, rfl, hlt, _⟩ := h4 hne
  simp only [Value.ownBlock, Option.some.injEq] at hb
  rw [← hb]; exact hlt
theorem IsRL.go {w w' : World} {v : Value} {L : List Rw} (h : IsRL w v L) (hb : Below w.heap.size w w') : IsRL w' v L :=
  h.keep (Soft.of_below hb) fun b e hne => hb.block b (h.block_lt e hne)
/-- A list that lies below B, where below B nothing has turned. -/
theorem IsRL.shape {w : World} {v : Value} {L : List Rw} (h : IsRL w v L) : ∃ a c, v = .slice a L.length c := by obtain ⟨a, cap, rfl, _⟩ := h; exact ⟨a, cap, rfl⟩
theorem IsRL.addr {w : World} {v : Value} {L : List Rw} (h : IsRL w v L) (hne : 0 < L.length) : ∃ b off c, v = .slice (some ⟨b, off, none⟩) L.length c ∧ b < w.heap.size := by
  obtain ⟨a, cap, rfl, _, _, h4⟩ := h
  obtain ⟨b, off, rfl, hlt, _⟩ := h4 (by intro e; rw [e] at hne; simp at hne)
  exact ⟨b, off, cap, rfl, hlt⟩
theorem IsRL.cells {w : World} {b off n cap : Nat} {L : List Rw} (h : IsRL w (.slice (some ⟨b, off, none⟩) n cap) L) (k : Nat) (hk : k < L.length) :
    ∃ x y, w.cell? ⟨b, off + k * 2, none⟩ = some x ∧ w.cell? ⟨b, off + k * 2 + 1, none⟩ = some y ∧ Bytes w x (rwAt L k).1 ∧ Bytes w y (rwAt L k).2 := by
  obtain ⟨a, cap', e, _, _, h4⟩ := h
  obtain ⟨b', off', rfl, _, hc⟩ := h4 (by intro h; rw [h] at hk; simp at hk)
  simp only [Value.slice.injEq, Option.some.injEq, Addr.mk.injEq] at e
  obtain ⟨⟨rfl, rfl, _⟩, _, _⟩ := e
  exact hc k hk

theorem IsRL.one {w : World} {x y : Value} {r : Rw} {T : TypeId} (g : Nat) (hg : g = w.heap.size) (hx : Bytes w x r.1) (hy : Bytes w y r.2) : IsRL (w.alloc (.cells #[x, y] T)) (.slice (some ⟨g, 0, none⟩) 1 1) [r] := by
  subst hg
  have hb : Below w.heap.size w (w.alloc (.cells #[x, y] T)) := (Below.refl _ _).alloc (Nat.le_refl _) _
  have hk := Blk.new w #[x, y] T _ rfl
  refine ⟨_, 1, rfl, Nat.le_refl _, by omega, fun _ => ⟨w.heap.size, 0, rfl, by simp, fun i hi => ?_⟩⟩
  have : i = 0 := by simp at hi; exact hi
  subst this
  exact ⟨x, y, hk.cell 0, hk.cell 1, hx.go hb, hy.go hb⟩

/-! ### Lists that a call makes -/

/-- The cells of rows, one behind the other. -/
def pairs : List (Value × Value) → List Value
  | [] => []
  | u :: us => u.1 :: u.2 :: pairs us
theorem pairs_length : ∀ us, (pairs us).length = us.length * 2
  | [] => rfl
  | u :: us => by simp [pairs, pairs_length us]; omega
theorem pairs_append : ∀ us vs, pairs (us ++ vs) = pairs us ++ pairs vs
  | [], _ => rfl
  | u :: us, vs => by simp [pairs, pairs_append us vs]
theorem pairs_get : ∀ (us : List (Value × Value)) (i : Nat) (u : Value × Value), us[i]? = some u → (pairs us)[i * 2]? = some u.1 ∧ (pairs us)[i * 2 + 1]? = some u.2
  | [], i, u, h => by simp at h
  | x :: us, 0, u, h => by simp at h; subst h; simp [pairs]
  | x :: us, i + 1, u, h => by
    have := pairs_get us i u (by simpa using h)
    rw [show (i + 1) * 2 = i * 2 + 1 + 1 by omega]
    simpa [pairs] using this

/-- Each pair reads as a row. -/
structure Each (w : World) (us : List (Value × Value)) (L : List Rw) : Prop where
  len : us.length = L.length
  row : ∀ i u, us[i]? = some u → Bytes w u.1 (rwAt L i).1 ∧ Bytes w u.2 (rwAt L i).2

theorem Each.nil (w : World) : Each w [] [] := ⟨rfl, fun i u h => by simp at h⟩
theorem Each.soft {w w' : World} {us : List (Value × Value)} {L : List Rw} (h : Each w us L) (hs : Soft w w') : Each w' us L := ⟨h.len, fun i u hu => ⟨(h.row i u hu).1.soft hs, (h.row i u hu).2.soft hs⟩⟩
theorem Each.append {w : World} {us vs : List (Value × Value)} {L M : List Rw} (h : Each w us L) (k : Each w vs M) : Each w (us ++ vs) (L ++ M) := by
  refine ⟨by simp [h.len, k.len], fun i u hu => ?_⟩
  by_cases hi : i < us.length
  · rw [List.getElem?_append_left hi] at hu
    have := h.row i u hu
    rw [show rwAt (L ++ M) i = rwAt L i from by unfold rwAt; rw [List.getD_eq_getElem?_getD, List.getElem?_append_left (by rw [← h.len]; exact hi), ← List.getD_eq_getElem?_getD]]
    exact this
  · rw [List.getElem?_append_right (by omega)] at hu
    have := k.row _ u hu
    rw [show rwAt (L ++ M) i = rwAt M (i - us.length) from by unfold rwAt; rw [List.getD_eq_getElem?_getD, List.getElem?_append_right (by rw [← h.len]; omega), ← List.getD_eq_getElem?_getD, h.len]]
    exact this
theorem Each.noU8 {w : World} {us : List (Value × Value)} {L : List Rw} (h : Each w us L) : ∀ x ∈ pairs us, (∀ k : Nat, x ≠ U8 k) ∧ x.oneCell' = true := by
  have key : ∀ u ∈ us, (∃ a n c, u.1 = .slice a n c) ∧ ∃ a n c, u.2 = .slice a n c := fun u hu => by
    obtain ⟨i, hi⟩ := List.mem_iff_getElem?.1 hu
    obtain ⟨⟨a, c, e, _⟩, ⟨a', c', e', _⟩⟩ := h.row i u hi
    exact ⟨⟨_, _, _, e⟩, ⟨_, _, _, e'⟩⟩
  clear h
  induction us with
  | nil => intro x hx; cases hx
  | cons u us ih =>
    intro x hx
    obtain ⟨⟨a, n, c, e⟩, ⟨a', n', c', e'⟩⟩ := key u List.mem_cons_self
    simp only [pairs, List.mem_cons] at hx
    rcases hx with rfl | rfl | hx
    · rw [e]; exact ⟨slice_ne _ _ _, rfl⟩
    · rw [e']; exact ⟨slice_ne _ _ _, rfl⟩
    · exact ih (fun v hv => key v (List.mem_cons_of_mem _ hv)) x hx

/-- The value is a list of rows whose block, from B on, the call made itself, or none yet. -/
def OwnL (w : World) (B : Nat) (T : TypeId) (v : Value) (L : List Rw) : Prop := ∃ us, OwnN w B T 2 v L.length (pairs us) ∧ Each w us L

theorem OwnL.nil (w : World) (B : Nat) (T : TypeId) : OwnL w B T (.slice none 0 0) [] := ⟨[], OwnN.nil _ _ _ _, Each.nil _⟩
theorem OwnL.go {w w' : World} {B : Nat} {T : TypeId} {v : Value} {L : List Rw} (h : OwnL w B T v L) (hb : Below w.heap.size w w') : OwnL w' B T v L := by
  obtain ⟨us, h1, h2⟩ := h; exact ⟨us, h1.go hb, h2.soft (Soft.of_below hb)⟩
theorem OwnL.from {w : World} {B : Nat} {T : TypeId} {v : Value} {L : List Rw} (h : OwnL w B T v L) : ∀ k, v.ownBlock = some k → B ≤ k := by obtain ⟨us, h1, _⟩ := h; exact h1.from
theorem OwnL.lt {w : World} {B : Nat} {T : TypeId} {v : Value} {L : List Rw} (h : OwnL w B T v L) : ∀ k, v.ownBlock = some k → k < w.heap.size := by obtain ⟨us, h1, _⟩ := h; exact fun k hk => (World.ownsRow.lt h1.1 k hk).2
theorem OwnL.shape {w : World} {B : Nat} {T : TypeId} {v : Value} {L : List Rw} (h : OwnL w B T v L) : ∃ a c, v = .slice a L.length c := by
  obtain ⟨us, ⟨⟨_, h1⟩, _⟩, _⟩ := h
  rcases h1 with ⟨rfl, h0⟩ | ⟨g, cap, cur, rfl, _⟩
  · rw [h0]; exact ⟨_, _, rfl⟩
  · exact ⟨_, _, rfl⟩
theorem OwnL.list {w : World} {B : Nat} {T : TypeId} {v : Value} {L : List Rw} (h : OwnL w B T v L) : IsRL w v L := by
  obtain ⟨us, ⟨h1, _⟩, h2⟩ := h
  have h1' := h1
  rcases h1.2 with ⟨rfl, h0⟩ | ⟨g, cap, cur, rfl, hB, hg, hn, hc, hsz, ht⟩
  · have e : L = [] := List.length_eq_zero_iff.1 h0
    subst e
    exact IsRL.nil w
  · refine ⟨_, cap, rfl, hn, by simpa [maxLen] using hc, fun _ => ⟨g, 0, rfl, (Array.getElem?_eq_some_iff.1 hg).1, fun i hi => ?_⟩⟩
    have hi' : i < us.length := by rw [h2.len]; exact hi
    obtain ⟨e1, e2⟩ := pairs_get us i us[i] (List.getElem?_eq_getElem hi')
    have c1 := World.ownsRow.cells h1' (g := g) rfl _ _ e1
    have c2 := World.ownsRow.cells h1' (g := g) rfl _ _ e2
    rw [row_add] at c1 c2
    have h3 := h2.row i us[i] (List.getElem?_eq_getElem hi')
    exact ⟨us[i].1, us[i].2, c1, by rw [Nat.add_assoc]; exact c2, h3.1, h3.2⟩
end Go.Proofs.Ytphdadibfeencaa

/-
  Rows cleared by others (layers 7 and 8), in plain lists: what the document's answers reckon. No program in this text.
-/
set_option maxRecDepth 100000
namespace Go.Proofs.Ytphdadibfeencaa
namespace Ro

def less (x : Rw) (c : Nat) (r : Rw) : Rw := (lessV c x.1 x.2 r.1 r.2, lessD c x.1 x.2 r.1 r.2)
def norm (x : Rw) : Rw := (Gf.scale (normC x.1) x.1, Gf.scale (normC x.1) x.2)
/-- What is left, row by row. -/
def step (x r : Rw) : Rw := less x (nth x.1 (lead r.1)) r
def rest (L : List Rw) (x : Rw) : Rw := L.foldl step x
/-- How many rows lead ahead of it. -/
def ahead (L : List Rw) (x : Rw) : Nat := (L.takeWhile fun r => decide (lead r.1 < lead x.1)).length
def put (L : List Rw) (y : Rw) : List Rw := L.take (ahead L y) ++ y :: L.drop (ahead L y)
def insert (L : List Rw) (x : Rw) : List Rw := if lead (norm (rest L x)).1 < (norm (rest L x)).1.length then put L (norm (rest L x)) else L
/-- All inserted, one by one. -/
def all (L : List Rw) : List Rw := L.foldl insert []

/-- Rows of k and t bytes. -/
def Dim (k t : Nat) (x : Rw) : Prop := x.1.length = k ∧ x.2.length = t ∧ (∀ z, z ∈ x.1 → z < 256) ∧ ∀ z, z ∈ x.2 → z < 256
def Dims (k t : Nat) (L : List Rw) : Prop := ∀ r ∈ L, Dim k t r
def Leads (L : List Rw) : Prop := ∀ r ∈ L, lead r.1 < r.1.length

theorem add_lt256 {x y : List Nat} (hx : ∀ z, z ∈ x → z < 256) (hy : ∀ z, z ∈ y → z < 256) : ∀ z, z ∈ Gf.add x y → z < 256 := by
  intro z hz
  unfold Gf.add at hz
  induction x generalizing y with
  | nil => simp at hz
  | cons a x ih =>
    cases y with
    | nil => simp at hz
    | cons b y =>
      simp only [List.zipWith_cons_cons, List.mem_cons] at hz
      rcases hz with rfl | hz
      · exact Gf.xor_lt (hx a List.mem_cons_self) (hy b List.mem_cons_self)
      · exact ih (fun z hz => hx z (List.mem_cons_of_mem _ hz)) (fun z hz => hy z (List.mem_cons_of_mem _ hz)) hz
theorem scale_lt256 {c : Nat} (hc : c < 256) (x : List Nat) : ∀ z, z ∈ Gf.scale c x → z < 256 := by
  intro z hz
  unfold Gf.scale at hz
  obtain ⟨y, _, rfl⟩ := List.mem_map.1 hz
  exact Gf.mul_lt hc _

theorem less_dim {k t : Nat} {x r : Rw} {c : Nat} (hc : c < 256) (hx : Dim k t x) (hr : Dim k t r) : Dim k t (less x c r) ∧ less x c r = (Gf.add (Gf.scale c r.1) x.1, Gf.add (Gf.scale c r.2) x.2) := by
  obtain ⟨h1, h2, h3, h4⟩ := hx
  obtain ⟨g1, g2, g3, g4⟩ := hr
  have e : less x c r = (Gf.add (Gf.scale c r.1) x.1, Gf.add (Gf.scale c r.2) x.2) := by
    unfold less lessV lessD
    rw [if_pos ⟨by omega, by omega⟩, if_pos ⟨by omega, by omega⟩]
  refine ⟨?_, e⟩
  rw [e]
  refine ⟨?_, ?_, add_lt256 (scale_lt256 hc _) h3, add_lt256 (scale_lt256 hc _) h4⟩
  · show (Gf.add (Gf.scale c r.1) x.1).length = k
    rw [Gf.add_length _ _ (by rw [Gf.scale_length]; omega), Gf.scale_length]; exact g1
  · show (Gf.add (Gf.scale c r.2) x.2).length = t
    rw [Gf.add_length _ _ (by rw [Gf.scale_length]; omega), Gf.scale_length]; exact g2
theorem step_dim {k t : Nat} {x r : Rw} (hx : Dim k t x) (hr : Dim k t r) : Dim k t (step x r) := (less_dim (nth_lt hx.2.2.1 _) hx hr).1
theorem norm_dim {k t : Nat} {x : Rw} (hx : Dim k t x) : Dim k t (norm x) :=
  ⟨by show (Gf.scale _ _).length = k; rw [Gf.scale_length]; exact hx.1, by show (Gf.scale _ _).length = t; rw [Gf.scale_length]; exact hx.2.1, scale_lt256 (normC_lt _) _, scale_lt256 (normC_lt _) _⟩
theorem rest_dim {k t : Nat} : ∀ {L : List Rw} {x : Rw}, Dims k t L → Dim k t x → Dim k t (rest L x)
  | [], _, _, hx => hx
  | r :: L, _, hL, hx => rest_dim (L := L) (fun y hy => hL y (List.mem_cons_of_mem _ hy)) (step_dim hx (hL r List.mem_cons_self))
theorem rest_take_succ (L : List Rw) (x : Rw) (k : Nat) (h : k < L.length) : rest (L.take (k + 1)) x = step (rest (L.take k) x) (rwAt L k) := by
  unfold rest
  rw [take_rwAt L k h, List.foldl_append]; rfl
theorem Dims.take {k t : Nat} {L : List Rw} (h : Dims k t L) (n : Nat) : Dims k t (L.take n) := fun r hr => h r (List.mem_of_mem_take hr)
theorem Dims.at {k t : Nat} {L : List Rw} (h : Dims k t L) {i : Nat} (hi : i < L.length) : Dim k t (rwAt L i) := h _ (rwAt_mem hi)
theorem Leads.at {L : List Rw} (h : Leads L) {i : Nat} (hi : i < L.length) : lead (rwAt L i).1 < (rwAt L i).1.length := h _ (rwAt_mem hi)

/-- How many rows lead ahead, found one by one. -/
theorem ahead_eq {L : List Rw} {y : Rw} {j : Nat} (hj : j ≤ L.length) (h0 : ∀ i, i < j → lead (rwAt L i).1 < lead y.1) (h1 : j = L.length ∨ ¬ lead (rwAt L j).1 < lead y.1) : ahead L y = j := by
  unfold ahead
  induction L generalizing j with
  | nil => simp at hj; subst hj; rfl
  | cons r L ih =>
    cases j with
    | zero =>
      rcases h1 with h1 | h1
      · simp at h1
      · have : ¬ lead r.1 < lead y.1 := h1
        rw [List.takeWhile_cons_of_neg (by simpa using this)]; rfl
    | succ j =>
      have h2 : lead r.1 < lead y.1 := h0 0 (by omega)
      rw [List.takeWhile_cons_of_pos (by simpa using h2), List.length_cons, ih (j := j) (by simpa using hj) (fun i hi => h0 (i + 1) (by omega)) (by
        rcases h1 with h1 | h1
        · left; simpa using h1
        · right; exact h1)]
theorem ahead_le (L : List Rw) (y : Rw) : ahead L y ≤ L.length := by
  unfold ahead; exact (List.takeWhile_sublist _).length_le

end Ro
end Go.Proofs.Ytphdadibfeencaa

/-
  A region that draws its order, told by what each operation yields: a predicate on the value and the world, which stays where no one turns what was there. Each operation is looked at once, in whatever world of a class, behind those alone that it waits for.
-/
set_option maxRecDepth 100000
namespace Go.Proofs.Ytphdadibfeencaa
open Go.RowKit

section
variable {P : Program} {C : World → Prop} {R : World → World → Prop} {H : Nat → World → World → Prop}

/-- What is said of an operation: behind it, of which temporaries, and what (F); how it steps (softly, or as one of the numbered kinds); which kinds of others' steps leave standing what is said; and what holds ahead of it (Pre), and which kinds leave that. -/
structure Ty (C : World → Prop) (R : World → World → Prop) (H : Nat → World → World → Prop) where
  S : List Tmp
  F : List Value → World → Prop
  kind : Option Nat
  ok : Nat → Bool
  up : ∀ vs w w', C w → R w w' → F vs w → F vs w'
  upH : ∀ c, ok c = true → ∀ vs w w', C w → H c w w' → F vs w → F vs w'
  Pre : World → Prop
  okP : Nat → Bool
  preUp : ∀ w w', C w → R w w' → Pre w → Pre w'
  preH : ∀ c, okP c = true → ∀ w w', C w → H c w w' → Pre w → Pre w'

/-- Nothing is said. -/
def Ty.any : Ty C R H := ⟨[], fun _ _ => True, none, fun _ => true, fun _ _ _ _ _ _ => trivial, fun _ _ _ _ _ _ _ _ => trivial, fun _ => True, fun _ => true, fun _ _ _ _ _ => trivial, fun _ _ _ _ _ _ _ => trivial⟩
/-- Of one temporary. -/
def Ty.one (t : Tmp) (F : Value → World → Prop) (up : ∀ v w w', C w → R w w' → F v w → F v w') (upH : ∀ c v w w', C w → H c w w' → F v w → F v w') : Ty C R H :=
  ⟨[t], fun vs w => F (vs.headD undef) w, none, fun _ => true, fun _ _ _ h1 h2 h3 => up _ _ _ h1 h2 h3, fun _ _ _ _ _ h1 h2 h3 => upH _ _ _ _ h1 h2 h3, fun _ => True, fun _ => true, fun _ _ _ _ _ => trivial, fun _ _ _ _ _ _ _ => trivial⟩
/-- It is this value. -/
def Ty.val (t : Tmp) (v : Value) : Ty C R H := Ty.one t (fun u _ => u = v) (fun _ _ _ _ _ h => h) (fun _ _ _ _ _ _ h => h)
/-- The one that writes: what is said of the temporary that it writes by. -/
def Ty.writes (t : Tmp) (F : Value → World → Prop) (up : ∀ v w w', C w → R w w' → F v w → F v w') : Ty C R H :=
  ⟨[t], fun vs w => F (vs.headD undef) w, some 0, fun _ => false, fun _ _ _ h1 h2 h3 => up _ _ _ h1 h2 h3, (fun _ e => by cases e), fun _ => True, fun _ => true, fun _ _ _ _ _ => trivial, fun _ _ _ _ _ _ _ => trivial⟩
def tyAt (Ts : List (Ty C R H)) (k : Nat) : Ty C R H := Ts.getD k Ty.any
/-- The step of one operation. -/
def stepR (T : Ty C R H) (w w' : World) : Prop := match T.kind with
  | none => R w w'
  | some c => H c w w'

def depsOf (o : Oper) : List Nat := (o.after.toList.filter fun e => Region.binds .any e).map (·.on)
def dstsOf (l : List Oper) : List Tmp := l.filterMap (·.dst)

/-- What holds behind the operations that have come up. -/
structure Inv (C : World → Prop) (R : World → World → Prop) (H : Nat → World → World → Prop) (l : List Oper) (Ts : List (Ty C R H)) (a0 : Act) (listed : Array Bool) (a : Act) (w : World) : Prop where
  size : listed.size = l.length
  cls : C w
  defers : a.defers = a0.defers
  tmps : a.tmps.size = a0.tmps.size
  frame : ∀ t, (∀ (i : Nat) (o : Oper), l[i]? = some o → listed.getD i false = true → o.dst ≠ some t) → a.eval (.tmp t) = a0.eval (.tmp t)
  closed : ∀ (k : Nat) (o : Oper), l[k]? = some o → listed.getD k false = true → ∀ d, d ∈ depsOf o → listed.getD d false = true
  holds : ∀ k, listed.getD k false = true → (tyAt Ts k).F ((tyAt Ts k).S.map fun t => a.eval (.tmp t)) w
  ahead : ∀ k, k < l.length → listed.getD k false = false → (tyAt Ts k).Pre w

/-- The temporary is as it was ahead of the region, where operation k comes up: whoever has it for its own waits for k. -/
def keepsB (l : List Oper) (k : Nat) (t : Tmp) : Bool := l.all fun o => o.dst != some t || (depsOf o).contains k

/-- What is to be shown of a wanted operation. -/
def Done (P : Program) (T : Ty C R H) (Q : Exit → Act → World → Prop) (o : Oper) (a : Act) (w : World) : Prop :=
  o.wp P a w (fun a' w' => ∃ v, a' = a.put o.dst v ∧ stepR T w w' ∧ T.F (T.S.map fun t => (a.put o.dst v).eval (.tmp t)) w') Q

/-- What is to be shown of one operation. -/
def Ob (P : Program) (C : World → Prop) (R : World → World → Prop) (H : Nat → World → World → Prop) (l : List Oper) (Ts : List (Ty C R H)) (a0 : Act) (Q : Exit → Act → World → Prop) (k : Nat) (o : Oper) : Prop :=
  ∀ (a : Act) (w : World), C w → a.tmps.size = a0.tmps.size → (∀ t, keepsB l k t = true → a.eval (.tmp t) = a0.eval (.tmp t)) →
    (∀ d, (depsOf o).contains d = true → (tyAt Ts d).F ((tyAt Ts d).S.map fun t => a.eval (.tmp t)) w) → (tyAt Ts k).Pre w →
    if Region.wanted o (yielded l.toArray a.tmps) then Done P (tyAt Ts k) Q o a w
    else stepR (tyAt Ts k) w w ∧ (tyAt Ts k).F ((tyAt Ts k).S.map fun t => (a.put o.dst undef).eval (.tmp t)) w

def Obs (P : Program) (C : World → Prop) (R : World → World → Prop) (H : Nat → World → World → Prop) (l : List Oper) (Ts : List (Ty C R H)) (a0 : Act) (Q : Exit → Act → World → Prop) : Nat → List Oper → Prop
  | _, [] => True
  | k, o :: r => Ob P C R H l Ts a0 Q k o ∧ Obs P C R H l Ts a0 Q (k + 1) r

/-- What a region's types say of themselves. -/
structure Sign where
  S : List Tmp
  kind : Option Nat
  ok : Nat → Bool
  okP : Nat → Bool
def Ty.sign (T : Ty C R H) : Sign := ⟨T.S, T.kind, T.ok, T.okP⟩
def sgAt (gs : List Sign) (k : Nat) : Sign := gs.getD k ⟨[], none, fun _ => true, fun _ => true⟩

/-- Two of a region's operations, k and another one i: whoever writes what k speaks of is waited for; who steps as a kind that k's fact doesn't bear is waited for; who steps as a kind that k's premise doesn't bear waits for k. -/
def pairB (gs : List Sign) (i k : Nat) (oi ok : Oper) : Bool :=
  (match oi.dst with
    | none => true
    | some t => !(sgAt gs k).S.contains t || (depsOf ok).contains i) &&
  (match (sgAt gs i).kind with
    | none => true
    | some c => ((sgAt gs k).ok c || (depsOf ok).contains i) && ((sgAt gs k).okP c || (depsOf oi).contains k))

/-- The region's form: each waits for those alone that stand ahead of it. -/
def tidyB (l : List Oper) (gs : List Sign) : Bool :=
  (List.range l.length).all fun k => match l[k]? with
    | none => true
    | some o => (depsOf o).all (fun d => decide (d < k)) &&
      (List.range l.length).all fun i => i == k || match l[i]? with
        | none => true
        | some oi => pairB gs i k oi o

theorem eval_put_ne {a : Act} {dst : Option Tmp} {v : Value} {t : Tmp} (h : dst ≠ some t) : (a.put dst v).eval (.tmp t) = a.eval (.tmp t) :=
  Act.eval_put fun d hd e => by
    have : t = d := by injection e
    exact h (by rw [hd, this])

theorem eval_put_eq {a : Act} {t : Tmp} {v : Value} (h : t < a.tmps.size) : (a.put (some t) v).eval (.tmp t) = v := by
  simp [Act.eval, Act.put, h]

theorem getD_set_self {listed : Array Bool} {i : Nat} (h : i < listed.size) : (listed.setIfInBounds i true).getD i false = true := by simp [h]

theorem tyAt_sign (Ts : List (Ty C R H)) (k : Nat) : (tyAt Ts k).sign = sgAt (Ts.map Ty.sign) k := by
  unfold tyAt sgAt
  rw [List.getD_eq_getElem?_getD, List.getD_eq_getElem?_getD, List.getElem?_map]
  cases Ts[k]? <;> rfl

theorem tidy_deps {l : List Oper} {gs : List Sign} (h : tidyB l gs = true) {k : Nat} {o : Oper} (hk : l[k]? = some o) : ∀ d, d ∈ depsOf o → d < k := by
  intro d hd
  have hT := List.all_eq_true.1 h k (List.mem_range.2 (List.getElem?_eq_some_iff.1 hk).1)
  rw [hk] at hT
  simp only [Bool.and_eq_true] at hT
  exact of_decide_eq_true (List.all_eq_true.1 hT.1 d hd)

theorem tidy_pair {l : List Oper} {gs : List Sign} (h : tidyB l gs = true) {i k : Nat} {oi ok : Oper} (hi : l[i]? = some oi) (hk : l[k]? = some ok) (hne : i ≠ k) : pairB gs i k oi ok = true := by
  have hT := List.all_eq_true.1 h k (List.mem_range.2 (List.getElem?_eq_some_iff.1 hk).1)
  rw [hk] at hT
  simp only [Bool.and_eq_true] at hT
  have hT2 := List.all_eq_true.1 hT.2 i (List.mem_range.2 (List.getElem?_eq_some_iff.1 hi).1)
  rw [hi] at hT2
  simpa [hne] using hT2

theorem Obs.at {l : List Oper} {Ts : List (Ty C R H)} {a0 : Act} {Q : Exit → Act → World → Prop} : ∀ {r : List Oper} {n k : Nat} {o : Oper}, Obs P C R H l Ts a0 Q n r → r[k]? = some o → Ob P C R H l Ts a0 Q (n + k) o
  | [], _, _, _, _, h => by simp at h
  | x :: r, n, 0, o, h, e => by simp at e; subst e; exact h.1
  | x :: r, n, k + 1, o, h, e => by
    have := Obs.at (r := r) (n := n + 1) (k := k) h.2 (by simpa using e)
    rwa [show n + 1 + k = n + (k + 1) from by omega] at this

/-- One operation carried out keeps what holds. -/
theorem Inv.step {l : List Oper} {Ts : List (Ty C R H)} {a0 : Act} {Q : Exit → Act → World → Prop} (hC : ∀ w w', C w → R w w' → C w') (hCH : ∀ c w w', C w → H c w w' → C w') (ht : tidyB l (Ts.map Ty.sign) = true)
    {listed : Array Bool} {a : Act} {w : World} (h : Inv C R H l Ts a0 listed a w) {i : Nat} {o : Oper} (hi : l[i]? = some o) (hr : i ∈ Region.ready .any l.toArray listed) (hob : Ob P C R H l Ts a0 Q i o) :
    wpOp P l.toArray Q i (fun a' w' => Inv C R H l Ts a0 (listed.setIfInBounds i true) a' w') a w := by
  obtain ⟨hun, o', ho', hall⟩ := mem_ready.1 hr
  have hio : l.toArray[i]? = some o := by simpa using hi
  obtain rfl : o' = o := by rw [hio] at ho'; exact (Option.some.inj ho').symm
  have hlt : i < l.length := (List.getElem?_eq_some_iff.1 hi).1
  have hdeps : ∀ d, d ∈ depsOf o' → listed.getD d false = true := by
    intro d hd
    simp only [depsOf, List.mem_map, List.mem_filter] at hd
    obtain ⟨e, ⟨he, hb⟩, rfl⟩ := hd
    exact hall e (by simpa using he) hb
  have hils : i < listed.size := by rw [h.size]; exact hlt
  have huni : listed.getD i false = false := by simpa [hils] using hun
  have hstep : ∀ w', stepR (tyAt Ts i) w w' → C w' := by
    intro w' hs
    unfold stepR at hs
    split at hs
    · exact hC _ _ h.cls hs
    · exact hCH _ _ _ h.cls hs
  have hup : ∀ w', stepR (tyAt Ts i) w w' → ∀ k ok, l[k]? = some ok → listed.getD k false = true → i ≠ k → ∀ vs, (tyAt Ts k).F vs w → (tyAt Ts k).F vs w' := by
    intro w' hs k ok hk hlk hik vs hF
    unfold stepR at hs
    split at hs
    · exact (tyAt Ts k).up _ _ _ h.cls hs hF
    · rename_i c hc
      refine (tyAt Ts k).upH c ?_ _ _ _ h.cls hs hF
      have hp := tidy_pair ht hi hk hik
      unfold pairB at hp
      rw [← tyAt_sign, ← tyAt_sign] at hp
      simp only [Ty.sign, hc, Bool.and_eq_true, Bool.or_eq_true] at hp
      rcases hp.2.1 with h1 | h1
      · exact h1
      · have := h.closed k ok hk hlk i (by simpa using h1)
        rw [huni] at this; cases this
  have hpre : ∀ w', stepR (tyAt Ts i) w w' → ∀ k ok, l[k]? = some ok → listed.getD k false = false → i ≠ k → (tyAt Ts k).Pre w → (tyAt Ts k).Pre w' := by
    intro w' hs k ok hk hlk hik hF
    unfold stepR at hs
    split at hs
    · exact (tyAt Ts k).preUp _ _ h.cls hs hF
    · rename_i c hc
      refine (tyAt Ts k).preH c ?_ _ _ h.cls hs hF
      have hp := tidy_pair ht hi hk hik
      unfold pairB at hp
      rw [← tyAt_sign, ← tyAt_sign] at hp
      simp only [Ty.sign, hc, Bool.and_eq_true, Bool.or_eq_true] at hp
      rcases hp.2.2 with h1 | h1
      · exact h1
      · have := hdeps k (by simpa using h1)
        rw [hlk] at this; cases this
  have hput : ∀ (v : Value) (w' : World), stepR (tyAt Ts i) w w' → (tyAt Ts i).F ((tyAt Ts i).S.map fun t => (a.put o'.dst v).eval (.tmp t)) w' → Inv C R H l Ts a0 (listed.setIfInBounds i true) (a.put o'.dst v) w' := by
    intro v w' hR hF
    refine ⟨by simpa using h.size, hstep _ hR, ?_, ?_, ?_, ?_, ?_, ?_⟩
    · cases o'.dst <;> exact h.defers
    · rw [← h.tmps]; cases o'.dst <;> simp [Act.put]
    · intro t hnt
      have hit : o'.dst ≠ some t := hnt i o' hi (getD_set_self hils)
      rw [eval_put_ne hit]
      exact h.frame t fun j oj hj hlj => hnt j oj hj (getD_set_true hlj)
    · intro k ok hk hlk d hd
      by_cases hki : i = k
      · subst hki
        obtain rfl : ok = o' := by rw [hi] at hk; exact (Option.some.inj hk).symm
        exact getD_set_true (hdeps d hd)
      · rw [getD_set_ne false hki] at hlk
        exact getD_set_true (h.closed k ok hk hlk d hd)
    · intro k hlk
      by_cases hki : i = k
      · subst hki; exact hF
      · rw [getD_set_ne false hki] at hlk
        have hold := h.holds k hlk
        have hkl : k < l.length := by
          rcases Nat.lt_or_ge k l.length with h' | h'
          · exact h'
          · rw [← h.size] at h'; simp [Array.getElem?_eq_none h'] at hlk
        have e : ((tyAt Ts k).S.map fun t => (a.put o'.dst v).eval (.tmp t)) = (tyAt Ts k).S.map fun t => a.eval (.tmp t) := by
          refine List.map_congr_left fun t htS => ?_
          refine eval_put_ne fun hd => ?_
          have hp := tidy_pair ht hi (List.getElem?_eq_getElem hkl) hki
          unfold pairB at hp
          rw [← tyAt_sign] at hp
          simp only [Ty.sign, hd, Bool.and_eq_true, Bool.or_eq_true] at hp
          have hc : (tyAt Ts k).S.contains t = true := List.contains_iff_mem.2 htS
          rw [hc] at hp
          have h2 := h.closed k _ (List.getElem?_eq_getElem hkl) hlk i (by simpa using hp.1)
          rw [huni] at h2; cases h2
        rw [e]
        exact hup _ hR k _ (List.getElem?_eq_getElem hkl) hlk hki _ hold
    · intro k hkl hlk
      by_cases hki : i = k
      · subst hki
        rw [getD_set_self hils] at hlk; cases hlk
      · rw [getD_set_ne false hki] at hlk
        exact hpre _ hR k _ (List.getElem?_eq_getElem hkl) hlk hki (h.ahead k hkl hlk)
  unfold wpOp
  simp only [hio]
  have hO := hob a w h.cls h.tmps (fun t ht' => h.frame t fun j oj hj hlj => by
    have h1 := List.all_eq_true.1 ht' oj (List.mem_of_getElem? hj)
    simp only [Bool.or_eq_true, bne_iff_ne] at h1
    rcases h1 with h1 | h1
    · exact h1
    · have := h.closed j oj hj hlj i (by simpa using h1)
      rw [huni] at this; cases this) (fun d hd => h.holds d (hdeps d (by simpa using hd))) (h.ahead i hlt huni)
  by_cases hw : Region.wanted o' (yielded l.toArray a.tmps) = true
  · rw [if_pos hw] at hO ⊢
    refine .inl (Oper.wp_mono (fun a' w' hx => ?_) hO)
    obtain ⟨v, rfl, hR, hF⟩ := hx
    exact hput v w' hR hF
  · rw [if_neg hw] at hO ⊢
    exact hput undef w hO.1 hO.2

theorem count_pos {listed : Array Bool} {i : Nat} (h : i < listed.size) (hu : listed.getD i false = false) : 0 < listed.toList.count false := by
  refine List.count_pos_iff.2 ?_
  have : listed[i]? = some (listed[i]) := Array.getElem?_eq_getElem h
  simp [this] at hu
  rw [← hu]
  exact Array.getElem_mem_toList h

theorem count_set {listed : Array Bool} {i : Nat} (h : i < listed.size) (hu : listed.getD i false = false) : (listed.setIfInBounds i true).toList.count false + 1 = listed.toList.count false := by
  have hp := count_pos h hu
  have : listed[i]? = some (listed[i]) := Array.getElem?_eq_getElem h
  simp [this] at hu
  have hl : i < listed.toList.length := by simpa using h
  have e : listed.toList[i]'hl = false := by simpa using hu
  rw [Array.toList_setIfInBounds, List.count_set hl, e]
  have h1 : (false == false) = true := rfl
  have h2 : (true == false) = false := rfl
  rw [h1, h2]
  rw [if_pos rfl, if_neg (by decide)]
  omega

theorem Inv.wpAny {l : List Oper} {Ts : List (Ty C R H)} {a0 : Act} {Q : Exit → Act → World → Prop} (hC : ∀ w w', C w → R w w' → C w') (hCH : ∀ c w w', C w → H c w w' → C w') (ht : tidyB l (Ts.map Ty.sign) = true) (hobs : Obs P C R H l Ts a0 Q 0 l)
    (hend : ∀ (a : Act) (w : World), C w → a.defers = a0.defers → a.tmps.size = a0.tmps.size → (∀ t, (dstsOf l).contains t = false → a.eval (.tmp t) = a0.eval (.tmp t)) →
      (∀ k, k < l.length → (tyAt Ts k).F ((tyAt Ts k).S.map fun t => a.eval (.tmp t)) w) → Q .normal a w) :
    ∀ (fuel : Nat) (listed : Array Bool) (a : Act) (w : World), listed.toList.count false ≤ fuel → Inv C R H l Ts a0 listed a w → Go.wpAny P .any l.toArray Q fuel listed a w := by
  have hdone : ∀ (listed : Array Bool) (a : Act) (w : World), Inv C R H l Ts a0 listed a w → Region.ready .any l.toArray listed = [] → Q .normal a w := by
    intro listed a w h hr
    have hall : ∀ n k, k < n → k < l.length → listed.getD k false = true := by
      intro n
      induction n with
      | zero => intro k hk _; omega
      | succ n ih =>
        intro k hk hkl
        by_cases hkn : k < n
        · exact ih k hkn hkl
        · obtain rfl : k = n := by omega
          cases hb : listed.getD k false with
          | true => rfl
          | false =>
            exfalso
            have hin : k ∈ Region.ready .any l.toArray listed := by
              rw [mem_ready]
              have hk' : k < listed.size := by rw [h.size]; exact hkl
              refine ⟨by simpa [hk'] using hb, l[k], by simp [hkl], fun e he hbd => ?_⟩
              have hd : e.on ∈ depsOf l[k] := List.mem_map.2 ⟨e, List.mem_filter.2 ⟨by simpa using he, hbd⟩, rfl⟩
              have := tidy_deps ht (List.getElem?_eq_getElem hkl) _ hd
              exact ih _ this (by omega)
            rw [hr] at hin
            cases hin
    exact hend a w h.cls h.defers h.tmps (fun t ht' => h.frame t fun j oj hj _ e => by
      have h1 : t ∈ dstsOf l := List.mem_filterMap.2 ⟨oj, List.mem_of_getElem? hj, e⟩
      have h2 : (dstsOf l).contains t = true := List.contains_iff_mem.2 h1
      rw [ht'] at h2; cases h2) (fun k hk => h.holds k (hall (k + 1) k (by omega) hk))
  intro fuel
  induction fuel with
  | zero =>
    intro listed a w hc h
    have hr : Region.ready .any l.toArray listed = [] := by
      rw [List.eq_nil_iff_forall_not_mem]
      intro i hi
      have hu := (mem_ready.1 hi).1
      obtain ⟨_, o, ho, _⟩ := mem_ready.1 hi
      have hlt : i < listed.size := by rw [h.size]; have := (Array.getElem?_eq_some_iff.1 ho).1; simpa using this
      have := count_pos hlt (by simpa [hlt] using hu)
      omega
    exact ⟨hr, hdone listed a w h hr⟩
  | succ fuel ih =>
    intro listed a w hc h
    refine ⟨fun hr => hdone listed a w h hr, fun i hi => ?_⟩
    have hu := (mem_ready.1 hi).1
    obtain ⟨_, o, ho, _⟩ := mem_ready.1 hi
    have hlt : i < l.length := by have := (Array.getElem?_eq_some_iff.1 ho).1; simpa using this
    have hio : l[i]? = some o := by simpa using ho
    have hob := Obs.at hobs hio
    rw [Nat.zero_add] at hob
    have hl' : i < listed.size := by rw [h.size]; exact hlt
    refine wpOp_mono (fun a' w' h' => ih _ a' w' ?_ h') (h.step hC hCH ht hio hi hob)
    have := count_set hl' (by simpa [hl'] using hu)
    omega

/-- What holds ahead of all. -/
def allPre : List (Ty C R H) → World → Prop
  | [], _ => True
  | T :: r, w => T.Pre w ∧ allPre r w
theorem allPre.at : ∀ {Ts : List (Ty C R H)} {w : World}, allPre Ts w → ∀ k, (tyAt Ts k).Pre w
  | [], _, _, _ => trivial
  | _ :: _, _, h, 0 => h.1
  | _ :: r, _, h, k + 1 => allPre.at (Ts := r) h.2 k

/-- THE RULE: a region that draws its order. -/
theorem wp_region_mono {id : Nat} {l : List Oper} {a : Act} {w : World} {Q : Exit → Act → World → Prop} (Ts : List (Ty C R H)) (hm : P.follows .mixedOrders = true) (hC : ∀ w w', C w → R w w' → C w') (hCH : ∀ c w w', C w → H c w w' → C w')
    (h0 : C w.drew) (hp : allPre Ts w.drew) (ht : tidyB l (Ts.map Ty.sign) = true) (hobs : Obs P C R H l Ts a Q 0 l)
    (hend : ∀ (a' : Act) (w' : World), C w' → a'.defers = a.defers → a'.tmps.size = a.tmps.size → (∀ t, (dstsOf l).contains t = false → a'.eval (.tmp t) = a.eval (.tmp t)) →
      (∀ k, k < l.length → (tyAt Ts k).F ((tyAt Ts k).S.map fun t => a'.eval (.tmp t)) w') → Q .normal a' w') :
    (Code.region id l.toArray true).wp P Q a w := by
  refine wp_region_any hm (Inv.wpAny hC hCH ht hobs hend _ _ _ _ ?_ ⟨by simp, h0, rfl, rfl, fun t _ => rfl, ?_, ?_, fun k _ _ => hp.at k⟩)
  · simp
  · intro k o hk hl
    rcases Nat.lt_or_ge k l.length with h | h
    · simp [h] at hl
    · simp [h] at hl
  · intro k hl
    rcases Nat.lt_or_ge k l.length with h | h
    · simp [h] at hl
    · simp [h] at hl

/-! ### The frame behind -/

theorem act_ext {a b : Act} (hd : a.defers = b.defers) (hs : a.tmps.size = b.tmps.size) (h : ∀ t, a.eval (.tmp t) = b.eval (.tmp t)) : a = b := by
  obtain ⟨x, d⟩ := a
  obtain ⟨y, e⟩ := b
  simp only at hd hs
  subst hd
  have : x = y := by
    apply Array.ext hs
    intro i h1 h2
    have := h i
    simpa [Act.eval, h1, h2] using this
  rw [this]

def putAll (a' : Act) : List Tmp → Act → Act
  | [], a => a
  | t :: r, a => putAll a' r (a.put (some t) (a'.eval (.tmp t)))

theorem putAll_size (a' : Act) : ∀ (ts : List Tmp) (a : Act), (putAll a' ts a).tmps.size = a.tmps.size
  | [], _ => rfl
  | t :: r, a => by unfold putAll; rw [putAll_size a' r]; simp [Act.put]
theorem putAll_defers (a' : Act) : ∀ (ts : List Tmp) (a : Act), (putAll a' ts a).defers = a.defers
  | [], _ => rfl
  | t :: r, a => by unfold putAll; rw [putAll_defers a' r]; rfl
theorem putAll_eval (a' : Act) : ∀ (ts : List Tmp) (a : Act) (t : Tmp), t < a.tmps.size → (a.eval (.tmp t) = a'.eval (.tmp t) ∨ t ∈ ts) → (putAll a' ts a).eval (.tmp t) = a'.eval (.tmp t)
  | [], a, t, _, h => by
    rcases h with h | h
    · exact h
    · cases h
  | x :: r, a, t, hl, h => by
    unfold putAll
    refine putAll_eval a' r _ t (by simpa [Act.put] using hl) ?_
    by_cases hx : x = t
    · subst hx; left; exact eval_put_eq hl
    · rcases h with h | h
      · left; rw [eval_put_ne (by simpa using hx)]; exact h
      · right
        rcases List.mem_cons.1 h with h1 | h1
        · exact absurd h1.symm hx
        · exact h1

/-- The frame behind a region: what was there, and what its operations left in their temporaries. -/
theorem act_puts {l : List Oper} {a a' : Act} (hdef : a'.defers = a.defers) (hsz : a'.tmps.size = a.tmps.size) (hfr : ∀ t, (dstsOf l).contains t = false → a'.eval (.tmp t) = a.eval (.tmp t)) : a' = putAll a' (dstsOf l) a := by
  refine act_ext (by rw [putAll_defers, hdef]) (by rw [putAll_size, hsz]) fun t => ?_
  by_cases hl : t < a.tmps.size
  · symm
    refine putAll_eval a' _ a t hl ?_
    by_cases hc : (dstsOf l).contains t = true
    · right; simpa using hc
    · left; exact (hfr t (by simpa using hc)).symm
  · have h1 : a'.eval (.tmp t) = undef := by simp [Act.eval, hsz, hl]
    have h2 : (putAll a' (dstsOf l) a).eval (.tmp t) = undef := by simp [Act.eval, putAll_size, hl]
    rw [h1, h2]

/-! ### One operation -/

theorem yielded_of {ops : Array Oper} {a : Act} {g : Nat} {t : Tmp} {b : Bool} (hd : (ops[g]?).bind (·.dst) = some t) (h : a.eval (.tmp t) = .bool b) : yielded ops a.tmps g = some b := by
  unfold yielded
  rw [hd]
  simp only [Act.eval] at h
  rcases Nat.lt_or_ge t a.tmps.size with hl | hl
  · simp [hl] at h
    simp [hl, h]
  · simp [hl] at h
    exact absurd h (by unfold undef; intro e; cases e)

theorem wanted_none {o : Oper} {y : Nat → Option Bool} (h : o.guard = none) : Region.wanted o y = true := by simp [Region.wanted, h]
theorem wanted_some {o : Oper} {y : Nat → Option Bool} {g : Nat} {b : Bool} (h : o.guard = some (g, b)) (hy : y g = some b) : Region.wanted o y = true := by simp [Region.wanted, h, hy]

theorem unwanted_some {o : Oper} {y : Nat → Option Bool} {g : Nat} {b c : Bool} (h : o.guard = some (g, b)) (hy : y g = some c) (hbc : c ≠ b) : ¬ Region.wanted o y = true := by simp [Region.wanted, h, hy, hbc]

/-- What enters. -/
theorem enter_of {f : FuncId} {fn : Func} {c : Code} (hf : P.funcs[f]? = some fn) (hname : (fn.name == "runtime.NumGoroutine") = false) (hb : fn.body = some c) (args : Array Value) (w : World) :
    (callFunc f args).run P w = .ok (.enter f args) w := by
  have h1 : fn.name ≠ "runtime.NumGoroutine" := by simpa using hname
  simp [callFunc, hf, h1, hb, mark]

variable {a : Act} {w : World} {o : Oper} {Q : Exit → Act → World → Prop}

/-- An operation that yields a value, in its own temporary. -/
theorem ob_value {T : Ty C R H} {t : Tmp} (v : Value) (w1 : World) (hS : T.S = [t]) (hh : T.kind = none) (hd : o.dst = some t) (hlt : t < a.tmps.size)
    (hrun : (execOp a.eval o).run P w = .ok (.value v) w1) (hR : R w w1) (hF : T.F [v] w1) : Done P T Q o a w := by
  unfold Done Oper.wp
  rw [hrun]
  refine ⟨v, rfl, by unfold stepR; rw [hh]; exact hR, ?_⟩
  rw [hS, List.map_cons, List.map_nil, hd, eval_put_eq hlt]
  exact hF

/-- A call. -/
theorem ob_call {T : Ty C R H} {t : Tmp} {f : FuncId} {args : Array Operand} {ats : Array TypeId} (hS : T.S = [t]) (hh : T.kind = none) (hd : o.dst = some t) (hlt : t < a.tmps.size)
    (hop : o.op = .call { callee := .value (.func f), args := args, argTypes := ats }) (hen : ∀ (vs : Array Value) (w : World), (callFunc f vs).run P w = .ok (.enter f vs) w)
    (hc : Calls P f (args.toList.map a.eval).toArray w fun e w' => ∃ v, e = .returned v ∧ T.F [v] w' ∧ R w w') : Done P T Q o a w := by
  have e0 : args.map a.eval = (args.toList.map a.eval).toArray := by rw [← Array.toList_map, Array.toArray_toList]
  have hrun : (execOp a.eval o).run P w = .ok (.enter f (args.toList.map a.eval).toArray) w := by
    rw [← e0]
    simp [execOp, hop, resolve, invoke, Act.eval, Deferred.ofValue, hen]
  unfold Done Oper.wp
  rw [hrun]
  refine hc.mono ?_
  rintro e w' ⟨v, rfl, hF, hR⟩
  refine ⟨v, rfl, by unfold stepR; rw [hh]; exact hR, ?_⟩
  rw [hS, List.map_cons, List.map_nil, hd, eval_put_eq hlt]
  exact hF

/-- A store. -/
theorem ob_store {T : Ty C R H} {t : Tmp} (w1 : World) (hS : T.S = [t]) {c : Nat} (hh : T.kind = some c) (hd : o.dst = none)
    (hrun : (execOp a.eval o).run P w = .ok .skip w1) (hH : H c w w1) (hF : T.F [a.eval (.tmp t)] w1) : Done P T Q o a w := by
  unfold Done Oper.wp
  rw [hrun]
  refine ⟨undef, rfl, by unfold stepR; rw [hh]; exact hH, ?_⟩
  rw [hS, List.map_cons, List.map_nil, hd]
  exact hF

/-- A copy. -/
theorem ob_copy {T : Ty C R H} {t : Tmp} {x : Operand} (hS : T.S = [t]) (hh : T.kind = none) (hd : o.dst = some t) (hlt : t < a.tmps.size) (hop : o.op = .move x ∨ o.op = .assign x) (hR : R w w) (hF : T.F [a.eval x] w) : Done P T Q o a w := by
  refine ob_value (a.eval x) w hS hh hd hlt ?_ hR hF
  rcases hop with h | h <;> simp [execOp, h]

/-- A load. -/
theorem ob_load {T : Ty C R H} {t : Tmp} {x : Operand} {E : TypeId} {p : Value} (v : Value) (hS : T.S = [t]) (hh : T.kind = none) (hd : o.dst = some t) (hlt : t < a.tmps.size) (hop : o.op = .load E x) (hx : a.eval x = p)
    (hrun : (Instr.loadAt E p).run P w = .ok v w) (hR : R w w) (hF : T.F [v] w) : Done P T Q o a w := by
  refine ob_value v w hS hh hd hlt ?_ hR hF
  simp [execOp, hop, hx, hrun]

/-- A part of a tuple. -/
theorem ob_extract {T : Ty C R H} {t : Tmp} {x : Operand} {i : Nat} {p : Value} (v : Value) (hS : T.S = [t]) (hh : T.kind = none) (hd : o.dst = some t) (hlt : t < a.tmps.size) (hop : o.op = .extract x i) (hx : a.eval x = p)
    (hrun : ∀ w, (Instr.extract p i).run P w = .ok v w) (hR : R w w) (hF : T.F [v] w) : Done P T Q o a w := by
  refine ob_value v w hS hh hd hlt ?_ hR hF
  simp [execOp, hop, hx, hrun]

/-- One of two. -/
theorem ob_pick {T : Ty C R H} {t : Tmp} {x y z : Operand} {b : Bool} (hS : T.S = [t]) (hh : T.kind = none) (hd : o.dst = some t) (hlt : t < a.tmps.size) (hop : o.op = .pick x y z) (hx : a.eval x = .bool b)
    (hR : R w w) (hF : T.F [if b then a.eval y else a.eval z] w) : Done P T Q o a w := by
  refine ob_value _ w hS hh hd hlt ?_ hR hF
  simp [execOp, hop, hx, asBool]

/-- An operator of two. -/
theorem ob_bin {T : Ty C R H} {t : Tmp} {x y : Operand} {op : BinOp} {E E' : TypeId} {p q : Value} (v : Value) (hS : T.S = [t]) (hh : T.kind = none) (hd : o.dst = some t) (hlt : t < a.tmps.size) (hop : o.op = .binOp op E x y E') (hx : a.eval x = p) (hy : a.eval y = q)
    (hrun : ∀ w, (do eqGuard op E x y p q; binOp op E p q : Sem Value).run P w = .ok v w) (hR : R w w) (hF : T.F [v] w) : Done P T Q o a w := by
  refine ob_value v w hS hh hd hlt ?_ hR hF
  have := hrun w
  simp only [execOp, hop, hx, hy]
  rw [Sem.run_bind, this]
  rfl

end

theorem extract0 {P : Program} (u v : Value) (w : World) : (Instr.extract (.tuple #[u, v]) 0).run P w = .ok u w := by simp [Instr.extract]
theorem extract1 {P : Program} (u v : Value) (w : World) : (Instr.extract (.tuple #[u, v]) 1).run P w = .ok v w := by simp [Instr.extract]

end Go.Proofs.Ytphdadibfeencaa
