/- Texts of one seat, laid together: Soft, RowsM, RefCut, PlanA, RefLess. -/
import Derived.Test.YtfefkchjhooloaaCutJoinsQ1

/-
  Steps that leave all bytes alone, whatever else they write; a list without bytes that a call appends to; lists of rows (two slices of bytes each).
-/
set_option maxRecDepth 100000
namespace Go.Proofs.Ytfefkchjhooloaa
open Go.RowKit

/-- No byte stands in the block. -/
def Loose (w : World) (k : Nat) : Prop := ∀ (i n : Nat), w.cell? ⟨k, i, none⟩ ≠ some (U8 n)

/-- A step that turns only blocks without bytes. -/
structure Soft (w w' : World) : Prop where
  size : w.heap.size ≤ w'.heap.size
  block : ∀ k, k < w.heap.size → w'.heap[k]? = w.heap[k]? ∨ (Loose w k ∧ Loose w' k)

theorem cell_of_heap {w w' : World} {k i : Nat} (h : w'.heap[k]? = w.heap[k]?) : w'.cell? ⟨k, i, none⟩ = w.cell? ⟨k, i, none⟩ := World.cell?_of_block (w := w) h
theorem Loose.of_heap {w w' : World} {k : Nat} (h : w'.heap[k]? = w.heap[k]?) (hl : Loose w k) : Loose w' k := fun i n => by rw [cell_of_heap h]; exact hl i n
theorem Soft.of_below {w w' : World} (h : Below w.heap.size w w') : Soft w w' := ⟨h.size, fun k hk => .inl (h.block k hk)⟩
theorem Soft.of_grown {w w' : World} {row : Option Nat} (h : w.grownBy w' row) (hl : ∀ g, row = some g → Loose w g ∧ Loose w' g) : Soft w w' := by
  refine ⟨h.size, fun k hk => ?_⟩
  by_cases hr : some k = row
  · exact .inr (hl k hr.symm)
  · exact .inl (h.block k hk hr)
theorem Loose.of_blk {w : World} {g : Nat} {vs : Array Value} {T : TypeId} (h : Blk w g vs T) (hn : ∀ (i n : Nat), vs[i]? ≠ some (U8 n)) : Loose w g := fun i n => by rw [h.cell]; exact hn i n
theorem Bytes.soft {w w' : World} {v : Value} {l : List Nat} (h : Bytes w v l) (hs : Soft w w') : Bytes w' v l := by
  obtain ⟨a, cap, rfl, h1, h2, h3, h4⟩ := h
  refine ⟨a, cap, rfl, h1, h2, h3, fun hne => ?_⟩
  obtain ⟨b, off, rfl, hlt, hc⟩ := h4 hne
  refine ⟨b, off, rfl, Nat.lt_of_lt_of_le hlt hs.size, fun i hi => ?_⟩
  rcases hs.block b hlt with h5 | h5
  · rw [cell_of_heap h5]; exact hc i hi
  · exact absurd (hc i hi) (h5.1 _ _)
theorem Bytes.at {w : World} {a : Option Addr} {n c : Nat} {l : List Nat} (h : Bytes w (.slice a n c) l) (k : Nat) (hk : k < l.length) : ∃ b off, a = some ⟨b, off, none⟩ ∧ w.cell? ⟨b, off + k, none⟩ = some (U8 (nth l k)) := by
  have h0 := h
  obtain ⟨a', cap, e, _, _, _, h4⟩ := h
  simp only [Value.slice.injEq] at e
  obtain ⟨rfl, rfl, rfl⟩ := e
  obtain ⟨b, off, rfl, _, _⟩ := h4 (by intro e; rw [e] at hk; simp at hk)
  exact ⟨b, off, rfl, h0.cell k hk⟩
/-! ### Lists without bytes that a call appends to -/

/-- As ownsRow; and no byte stands in its block. -/
def OwnN (w : World) (B : Nat) (T : TypeId) (sz : Nat) (v : Value) (n : Nat) (xs : List Value) : Prop := w.ownsRow B T sz v n xs ∧ ∀ g, v.ownBlock = some g → Loose w g

theorem OwnN.nil (w : World) (B : Nat) (T : TypeId) (sz : Nat) : OwnN w B T sz (.slice none 0 0) 0 [] := ⟨World.ownsRow_nil _ _ _ _, fun g e => by cases e⟩
theorem OwnN.keep {w w' : World} {B : Nat} {T : TypeId} {sz : Nat} {v : Value} {n : Nat} {xs : List Value} {row : Option Nat} (h : OwnN w B T sz v n xs) (hg : w.grownBy w' row) (hne : v.ownBlock = none ∨ v.ownBlock ≠ row) : OwnN w' B T sz v n xs := by
  refine ⟨World.ownsRow.kept h.1 hg hne, fun g e => (h.2 g e).of_heap (hg.block g (World.ownsRow.lt h.1 g e).2 ?_)⟩
  rcases hne with h1 | h1
  · rw [e] at h1; cases h1
  · rw [← e]; exact h1
theorem OwnN.go {w w' : World} {B : Nat} {T : TypeId} {sz : Nat} {v : Value} {n : Nat} {xs : List Value} (h : OwnN w B T sz v n xs) (hb : Below w.heap.size w w') : OwnN w' B T sz v n xs :=
  h.keep (grown_of_below hb none) (by cases hv : v.ownBlock <;> simp)
theorem OwnN.mono {w : World} {B C : Nat} {T : TypeId} {sz : Nat} {v : Value} {n : Nat} {xs : List Value} (h : OwnN w B T sz v n xs) (hC : C ≤ B) : OwnN w C T sz v n xs := by
  refine ⟨⟨h.1.1, ?_⟩, h.2⟩
  rcases h.1.2 with hn | ⟨g, cap, cur, e, hB, rest⟩
  · exact Or.inl hn
  · exact Or.inr ⟨g, cap, cur, e, Nat.le_trans hC hB, rest⟩
/-- The first i of bytes, and those behind i. -/
theorem Bytes.take {w : World} {a : Option Addr} {n c : Nat} {l : List Nat} (h : Bytes w (.slice a n c) l) {i : Nat} (hi : i ≤ l.length) : Bytes w (.slice a i c) (l.take i) := by
  obtain ⟨a', cap', e, h1, h2, h3, h4⟩ := h
  simp only [Value.slice.injEq] at e
  obtain ⟨rfl, rfl, rfl⟩ := e
  have hl : (l.take i).length = i := by simp; omega
  refine ⟨a, c, by rw [hl], by omega, h2, fun x hx => h3 x (List.mem_of_mem_take hx), fun hne => ?_⟩
  obtain ⟨b', off', e, hlt, hc⟩ := h4 (by intro e; subst e; simp at hne)
  refine ⟨b', off', e, hlt, fun j hj => ?_⟩
  rw [hl] at hj
  rw [hc j (by omega), nth_eq _ _ (by omega), nth_eq _ _ (by omega)]; simp
theorem Bytes.drop {w : World} {b off n cap : Nat} {l : List Nat} (h : Bytes w (.slice (some ⟨b, off, none⟩) n cap) l) {i : Nat} (hi : i ≤ l.length) (a : Option Addr) (ha : i < l.length → a = some ⟨b, off + i, none⟩) (m c : Nat) (hm : m = l.length - i) (hc : l.length - i ≤ c) (hc2 : c ≤ 9223372036854775807) : Bytes w (.slice a m c) (l.drop i) := by
  subst hm
  have hl : (l.drop i).length = l.length - i := by simp
  obtain ⟨a', cap', e, h1, h2, h3, h4⟩ := h
  refine ⟨a, c, by rw [hl], by omega, hc2, fun x hx => h3 x (List.mem_of_mem_drop hx), fun hne => ?_⟩
  have hlt : i < l.length := by
    have := List.length_pos_iff.2 hne
    omega
  obtain ⟨b', off', rfl, hlt', hcell⟩ := h4 (by intro e; subst e; simp at hlt)
  simp only [Value.slice.injEq, Option.some.injEq, Addr.mk.injEq] at e
  obtain ⟨⟨rfl, rfl, _⟩, _, _⟩ := e
  refine ⟨b, off + i, ha hlt, hlt', fun j hj => ?_⟩
  rw [hl] at hj
  have := hcell (i + j) (by omega)
  rw [show off + i + j = off + (i + j) by omega, this, nth_eq _ _ (by omega), nth_eq _ _ (by omega)]; simp

end Go.Proofs.Ytfefkchjhooloaa

/-
  Lists of slices of bytes that a call makes and appends to.
-/
set_option maxRecDepth 100000
namespace Go.Proofs.Ytfefkchjhooloaa
open Go.RowKit

/-- Each value reads as its row. -/
structure EachB (w : World) (us : List Value) (ll : List (List Nat)) : Prop where
  len : us.length = ll.length
  row : ∀ i u, us[i]? = some u → Bytes w u (rowAt ll i)
theorem EachB.nil (w : World) : EachB w [] [] := ⟨rfl, fun i u h => by simp at h⟩
theorem EachB.soft {w w' : World} {us : List Value} {ll : List (List Nat)} (h : EachB w us ll) (hs : Soft w w') : EachB w' us ll := ⟨h.len, fun i u hu => (h.row i u hu).soft hs⟩
theorem EachB.noU8 {w : World} {us : List Value} {ll : List (List Nat)} (h : EachB w us ll) : ∀ x ∈ us, (∀ k : Nat, x ≠ U8 k) ∧ x.oneCell' = true := by
  intro x hx
  obtain ⟨i, hi⟩ := List.mem_iff_getElem?.1 hx
  obtain ⟨a, c, rfl, _⟩ := h.row i x hi
  exact ⟨slice_ne _ _ _, rfl⟩

/-- The value is a list of slices of bytes whose block, from B on, the call made itself, or none yet. -/
def OwnM (w : World) (B : Nat) (T : TypeId) (v : Value) (ll : List (List Nat)) : Prop := ∃ us, OwnN w B T 1 v ll.length us ∧ EachB w us ll

theorem OwnM.nil (w : World) (B : Nat) (T : TypeId) : OwnM w B T (.slice none 0 0) [] := ⟨[], OwnN.nil _ _ _ _, EachB.nil _⟩
theorem OwnM.mono {w : World} {B C : Nat} {T : TypeId} {v : Value} {L : List (List Nat)} (h : OwnM w B T v L) (hC : C ≤ B) : OwnM w C T v L := by
  obtain ⟨us, h1, h2⟩ := h; exact ⟨us, h1.mono hC, h2⟩
theorem OwnM.go {w w' : World} {B : Nat} {T : TypeId} {v : Value} {L : List (List Nat)} (h : OwnM w B T v L) (hb : Below w.heap.size w w') : OwnM w' B T v L := by
  obtain ⟨us, h1, h2⟩ := h; exact ⟨us, h1.go hb, h2.soft (Soft.of_below hb)⟩
theorem OwnM.shape {w : World} {B : Nat} {T : TypeId} {v : Value} {L : List (List Nat)} (h : OwnM w B T v L) : ∃ a c, v = .slice a L.length c := by
  obtain ⟨us, ⟨⟨_, h1⟩, _⟩, _⟩ := h
  rcases h1 with ⟨rfl, h0⟩ | ⟨g, cap, cur, rfl, _⟩
  · rw [h0]; exact ⟨_, _, rfl⟩
  · exact ⟨_, _, rfl⟩
theorem rows_add (b o j : Nat) : (⟨b, o, none⟩ : Addr).add j = ⟨b, o + j, none⟩ := by unfold Addr.add; split <;> simp_all
theorem OwnM.rows {w : World} {B : Nat} {T : TypeId} {v : Value} {L : List (List Nat)} (h : OwnM w B T v L) : IsRows w v L := by
  obtain ⟨us, ⟨h1, _⟩, h2⟩ := h
  have h1' := h1
  rcases h1.2 with ⟨rfl, h0⟩ | ⟨g, cap, cur, rfl, hB, hg, hn, hc, hsz, ht⟩
  · have e : L = [] := List.length_eq_zero_iff.1 h0
    subst e
    exact ⟨none, 0, rfl, by simp, by omega, fun h => absurd rfl h⟩
  · refine ⟨_, cap, rfl, hn, by simpa [maxLen] using hc, fun _ => ⟨g, 0, rfl, (Array.getElem?_eq_some_iff.1 hg).1, fun i hi => ?_⟩⟩
    have hi' : i < us.length := by rw [h2.len]; exact hi
    have c1 := World.ownsRow.cells h1' (g := g) rfl _ _ (List.getElem?_eq_getElem hi')
    rw [rows_add] at c1
    exact ⟨us[i], c1, h2.row i us[i] (List.getElem?_eq_getElem hi')⟩

end Go.Proofs.Ytfefkchjhooloaa

/-
  The document's answer for symbols (wellspringref11), in the program: 'Cut'.
-/
set_option maxRecDepth 100000
namespace Go.Proofs.Ytfefkchjhooloaa
open Go.RowKit

/-- The first r bytes of symbol i: the object's, and noughts behind. -/
def cutP (o : List Nat) (s i r : Nat) : List Nat := (List.range r).map fun j => nth o (i * s + j)
/-- The first k symbols of s bytes. -/
def cutL (o : List Nat) (s k : Nat) : List (List Nat) := (List.range k).map fun i => cutP o s i s
theorem cutP_length (o : List Nat) (s i r : Nat) : (cutP o s i r).length = r := by simp [cutP]
theorem cutP_lt {o : List Nat} (h : ∀ x, x ∈ o → x < 256) (s i r : Nat) : ∀ x, x ∈ cutP o s i r → x < 256 := by
  intro x hx
  obtain ⟨j, _, rfl⟩ := List.mem_map.1 hx
  exact nth_lt h _
theorem cutL_length (o : List Nat) (s k : Nat) : (cutL o s k).length = k := by simp [cutL]
theorem cutL_succ (o : List Nat) (s k : Nat) : cutL o s (k + 1) = cutL o s k ++ [cutP o s k s] := by unfold cutL; rw [List.range_succ, List.map_append]; rfl
/-- What is wrong with a plan and an object. -/
def cutE (l s k : Int) (o : List Nat) : Int := if checkE l s k = 0 then (if (o.length : Int) = l then 0 else 4) else checkE l s k
def cutS (l s k : Int) (o : List Nat) : List (List Nat) := if cutE l s k o = 0 then cutL o s.toNat k.toNat else []
theorem needs_le (l s : Nat) : 1 ≤ needsN l s ∧ needsN l s ≤ 4097 := by
  unfold needsN
  split
  · omega
  · split
    · omega
    · rename_i h1 h2
      refine ⟨Nat.le_add_left 1 _, ?_⟩
      have : (l - 1) / s < 4097 := Nat.div_lt_of_lt_mul (by omega)
      omega
/-- A plan that may be. -/
theorem check_ok {l s k : Int} (h : checkE l s k = 0) : 0 ≤ l ∧ 1 ≤ s ∧ s ≤ 65535 ∧ 1 ≤ k ∧ k ≤ 4096 ∧ k = (needsN l.toNat s.toNat : Int) := by
  unfold checkE at h
  split at h
  · exact absurd h (by decide)
  · split at h
    · exact absurd h (by decide)
    · split at h
      · exact absurd h (by decide)
      · split at h
        · have := needs_le l.toNat s.toNat
          omega
        · exact absurd h (by decide)
theorem cut_of {l s k : Int} {o : List Nat} : (checkE l s k ≠ 0 → cutE l s k o = checkE l s k ∧ cutS l s k o = []) ∧ (checkE l s k = 0 → (o.length : Int) ≠ l → cutE l s k o = 4 ∧ cutS l s k o = []) ∧ (checkE l s k = 0 → (o.length : Int) = l → cutE l s k o = 0 ∧ cutS l s k o = cutL o s.toNat k.toNat) := by
  refine ⟨fun h => ?_, fun h h' => ?_, fun h h' => ?_⟩
  · have e : cutE l s k o = checkE l s k := by unfold cutE; rw [if_neg h]
    exact ⟨e, by unfold cutS; rw [e, if_neg h]⟩
  · have e : cutE l s k o = 4 := by unfold cutE; rw [if_pos h, if_neg h']
    exact ⟨e, by unfold cutS; rw [e, if_neg (by decide)]⟩
  · have e : cutE l s k o = 0 := by unfold cutE; rw [if_pos h, if_pos h']
    exact ⟨e, by unfold cutS; rw [e, if_pos rfl]⟩
/-- What Cut answers. -/
def CutV (w : World) (ll : List (List Nat)) (err : Int) (e : Ending) (w' : World) : Prop := ∃ v, e = .returned (.tuple #[v, .int .i64 err]) ∧ OwnM w' w.heap.size 25 v ll ∧ Below w.heap.size w w'

end Go.Proofs.Ytfefkchjhooloaa

/-
  Plans in the program (layer 10): 'need', 'Check'.
-/
set_option maxRecDepth 100000
namespace Go.Proofs.Ytfefkchjhooloaa
open Go.RowKit

/-- How many symbols a length needs, however many. -/
def needT (l s : Nat) : Nat := if l ≤ s then 1 else (l - 1) / s + 1
theorem needT_eq {l s : Nat} (hs : 1 ≤ s) : needT l s = max 1 (l / s + if 0 < l % s then 1 else 0) := by
  unfold needT
  by_cases h : l ≤ s
  · rw [if_pos h]
    by_cases h1 : l = s
    · subst h1; rw [Nat.div_self (by omega), Nat.mod_self]; rfl
    · rw [Nat.div_eq_of_lt (by omega), Nat.mod_eq_of_lt (by omega)]
      split <;> rfl
  · rw [if_neg h]
    have h1 := Nat.div_add_mod l s
    have h2 := Nat.mod_lt l (show 0 < s by omega)
    have h4 : 1 ≤ l / s := (Nat.le_div_iff_mul_le (by omega)).2 (by omega)
    by_cases h3 : 0 < l % s
    · rw [if_pos h3]
      have e : (l - 1) / s = l / s := by
        obtain ⟨q, hq⟩ : ∃ q, q = l / s := ⟨_, rfl⟩
        obtain ⟨r, hr⟩ : ∃ r, r = l % s := ⟨_, rfl⟩
        rw [← hq, ← hr] at h1
        rw [← hr] at h2 h3
        have : l - 1 = s * q + (r - 1) := by omega
        rw [this, Nat.mul_add_div (by omega), Nat.div_eq_of_lt (by omega), ← hq]; omega
      rw [e]; omega
    · rw [if_neg h3]
      have e : (l - 1) / s = l / s - 1 := by
        obtain ⟨q, hq⟩ : ∃ q, l / s = q + 1 := ⟨l / s - 1, by omega⟩
        have h5 : l = s * (q + 1) := by rw [← hq]; omega
        have h6 : s * (q + 1) = s * q + s := Nat.mul_succ s q
        have : l - 1 = s * q + (s - 1) := by omega
        rw [this, Nat.mul_add_div (by omega), Nat.div_eq_of_lt (by omega), hq]; omega
      rw [e]; omega
theorem needT_many {l s : Nat} (hs : 1 ≤ s) : 4096 < needT l s ↔ 4096 < needsN l s := by
  unfold needT needsN
  by_cases h : l ≤ s
  · rw [if_pos h, if_pos h]
  · rw [if_neg h, if_neg h]
    by_cases h2 : 4097 * s < l
    · rw [if_pos h2]
      have : 4097 ≤ (l - 1) / s := (Nat.le_div_iff_mul_le (by omega)).2 (by omega)
      omega
    · rw [if_neg h2]
theorem needT_few {l s : Nat} (hs : 1 ≤ s) (h : ¬ 4096 < needT l s) : needT l s = needsN l s := by
  unfold needT needsN at *
  by_cases h1 : l ≤ s
  · rw [if_pos h1, if_pos h1]
  · rw [if_neg h1] at h
    rw [if_neg h1, if_neg h1, if_neg]
    intro h2
    have : 4097 ≤ (l - 1) / s := (Nat.le_div_iff_mul_le (by omega)).2 (by omega)
    omega
/-- What need answers. -/
def needI (l s : Int) : Int := if s < 1 then 0 else if l < 0 then 1 else (needT l.toNat s.toNat : Int)
set_option maxHeartbeats 1000000 in
theorem need_pos (l s : Nat) (w : World) (hl : l ≤ 9223372036854775807) (hs : 1 ≤ s) (hs2 : s ≤ 9223372036854775807) :
    Calls Try.prog 30 #[.int .i64 (l : Int), .int .i64 (s : Int)] w fun e w' => e = .returned (.int .i64 (needT l s : Int)) ∧ w = w' := by
  have HE := Lib.hid (needT_eq (l := l) hs)
  obtain ⟨q, hq⟩ : ∃ q, q = l / s := ⟨_, rfl⟩
  obtain ⟨r, hr⟩ : ∃ r, r = l % s := ⟨_, rfl⟩
  have HQR := Lib.hid (show q * s + r = l by rw [hq, hr, Nat.mul_comm]; exact Nat.div_add_mod l s)
  rw [← hq, ← hr] at HE
  have hq1 : q ≤ l := by rw [hq]; exact Nat.div_le_self _ _
  have hqi : (l : Int) / (s : Int) = (q : Int) := by rw [hq]; rfl
  have hri : (l : Int) % (s : Int) = (r : Int) := by rw [hr]; rfl
  have hm : ¬ (s : Int) < 1 := by omega
  have hs0 : ¬ s = 0 := by omega
  have hrs : r < s := by rw [hr]; exact Nat.mod_lt _ (by omega)
  clear hq hr
  by_cases h : 0 < r
  · have HE2 := Lib.hid (show (needT l s : Int) = max 1 ((q : Int) + 1) by rw [HE.out, if_pos h]; omega)
    have h1 : (0 : Int) < (r : Int) := by omega
    have hq2 : q < 9223372036854775807 := by
      have : q * s + r ≤ l := by have := HQR.out; omega
      have : q ≤ q * s := Nat.le_mul_of_pos_right q (by omega)
      omega
    clear h HE
    go_enter Try.func30, Try.ntmps30
    go_wp2_with fail
    all_goals go_ret
    all_goals refine ⟨congrArg (fun z : Int => Ending.returned (.int .i64 z)) ?_, rfl⟩
    all_goals (rw [HE2.out]; try omega)
  · have HE2 := Lib.hid (show (needT l s : Int) = max 1 (q : Int) by rw [HE.out, if_neg h]; omega)
    have h1 : ¬ (0 : Int) < (r : Int) := by omega
    clear h HE
    go_enter Try.func30, Try.ntmps30
    go_wp2_with fail
    all_goals go_ret
    all_goals refine ⟨congrArg (fun z : Int => Ending.returned (.int .i64 z)) ?_, rfl⟩
    all_goals (rw [HE2.out]; try omega)
theorem need_none (l s : Int) (w : World) (hs : s < 1) :
    Calls Try.prog 30 #[.int .i64 l, .int .i64 s] w fun e w' => e = .returned (.int .i64 0) ∧ w = w' := by
  go_enter Try.func30, Try.ntmps30
  go_wp2_with fail
  go_ret
  exact ⟨rfl, rfl⟩
set_option maxHeartbeats 1000000 in
theorem need_neg (l : Int) (s : Nat) (w : World) (hl0 : -9223372036854775808 ≤ l) (hl : l < 0) (hs : 1 ≤ s) (hs2 : s ≤ 9223372036854775807) :
    Calls Try.prog 30 #[.int .i64 l, .int .i64 (s : Int)] w fun e w' => e = .returned (.int .i64 1) ∧ w = w' := by
  obtain ⟨m, rfl⟩ : ∃ m : Nat, l = -(m : Int) := ⟨l.natAbs, by omega⟩
  have hm0 : 1 ≤ m := by omega
  have hm : ¬ (s : Int) < 1 := by omega
  have hs0 : ¬ s = 0 := by omega
  obtain ⟨q, hq⟩ : ∃ q, q = m / s := ⟨_, rfl⟩
  have hqm : q ≤ m := by rw [hq]; exact Nat.div_le_self _ _
  have hqi : (m : Int) / (s : Int) = (q : Int) := by rw [hq]; rfl
  clear hq
  go_enter Try.func30, Try.ntmps30
  go_wp2_with fail
  all_goals go_ret
  all_goals refine ⟨congrArg (fun z : Int => Ending.returned (.int .i64 z)) ?_, rfl⟩
  all_goals omega
theorem need_any (l s : Int) (w : World) (hl0 : -9223372036854775808 ≤ l) (hl : l ≤ 9223372036854775807) (hs2 : s ≤ 9223372036854775807) :
    Calls Try.prog 30 #[.int .i64 l, .int .i64 s] w fun e w' => e = .returned (.int .i64 (needI l s)) ∧ w = w' := by
  unfold needI
  by_cases h : s < 1
  · rw [if_pos h]; exact need_none l s w h
  · rw [if_neg h]
    obtain ⟨s', rfl⟩ : ∃ s' : Nat, s = s' := ⟨s.toNat, by omega⟩
    by_cases h2 : l < 0
    · rw [if_pos h2]; exact need_neg l s' w hl0 h2 (by omega) (by omega)
    · rw [if_neg h2]
      obtain ⟨l', rfl⟩ : ∃ l' : Nat, l = l' := ⟨l.toNat, by omega⟩
      exact need_pos l' s' w (by omega) (by omega) (by omega)

/-- The program's code for a plan is the document's. -/
theorem check_spell (l s k : Int) : checkE l s k = if l < 0 then 2 else if s < 1 ∨ 65535 < s then 4 else if 4096 < needI l s then 5 else if k = needI l s then 0 else 14 := by
  unfold checkE needI
  by_cases h1 : l < 0
  · rw [if_pos h1, if_pos h1]
  · rw [if_neg h1, if_neg h1]
    by_cases h2 : s < 1 ∨ 65535 < s
    · rw [if_pos h2, if_pos h2]
    · have hs : 1 ≤ s.toNat := by omega
      have hm := needT_many (l := l.toNat) hs
      rw [if_neg h2, if_neg h2, if_neg (show ¬ s < 1 by omega), if_neg h1]
      by_cases h3 : 4096 < needT l.toNat s.toNat
      · rw [if_pos (hm.1 h3), if_pos (by omega)]
      · rw [if_neg (fun h => h3 (hm.2 h)), if_neg (show ¬ (4096 : Int) < (needT l.toNat s.toNat : Int) by omega), needT_few hs h3]
set_option maxHeartbeats 1000000 in
theorem check_any (l s k n : Int) (w : World) (hl0 : -9223372036854775808 ≤ l) (hl : l ≤ 9223372036854775807) (hs2 : s ≤ 9223372036854775807) :
    Calls Try.prog 31 #[.agg #[.int .i64 l, .int .i64 s, .int .i64 k, .int .u32 n]] w fun e w' => e = .returned (.int .i64 (checkE l s k)) ∧ Below w.heap.size w w' := by
  have hsp := check_spell l s k
  have HN := Lib.hid (fun w => need_any l s w hl0 hl hs2)
  obtain ⟨m, hm⟩ : ∃ m, m = needI l s := ⟨_, rfl⟩
  rw [← hm] at hsp HN
  clear hm
  by_cases h1 : l < 0
  · have HC := Lib.hid (show checkE l s k = 2 by rw [hsp, if_pos h1])
    clear hsp
    go_enter Try.func31, Try.ntmps31
    go_wp2_with fail
    go_ret
    exact ⟨by rw [HC.out]; rfl, (Below.refl _ _).alloc (Nat.le_refl _) _⟩
  · rw [if_neg h1] at hsp
    by_cases h2 : s < 1
    · have HC := Lib.hid (show checkE l s k = 4 by rw [hsp, if_pos (.inl h2)])
      clear hsp
      go_enter Try.func31, Try.ntmps31
      go_wp2_with fail
      go_ret
      exact ⟨by rw [HC.out]; rfl, (Below.refl _ _).alloc (Nat.le_refl _) _⟩
    · by_cases h3 : 65535 < s
      · have HC := Lib.hid (show checkE l s k = 4 by rw [hsp, if_pos (.inr h3)])
        clear hsp
        go_enter Try.func31, Try.ntmps31
        go_wp2_with fail
        go_ret
        exact ⟨by rw [HC.out]; rfl, (Below.refl _ _).alloc (Nat.le_refl _) _⟩
      · rw [if_neg (by omega)] at hsp
        by_cases h4 : 4096 < m
        · have HC := Lib.hid (show checkE l s k = 5 by rw [hsp, if_pos h4])
          clear hsp
          go_enter Try.func31, Try.ntmps31
          go_wp2_with fail
          refine (HN.out _).mono ?_
          rintro e w' ⟨rfl, rfl⟩
          go_wp2_with fail
          go_ret
          exact ⟨by rw [HC.out]; rfl, (Below.refl _ _).alloc (Nat.le_refl _) _⟩
        · rw [if_neg h4] at hsp
          by_cases h5 : k = m
          · have HC := Lib.hid (show checkE l s k = 0 by rw [hsp, if_pos h5])
            have h6 : (k != m) = false := by rw [h5]; simp
            clear hsp h5
            go_enter Try.func31, Try.ntmps31
            go_wp2_with fail
            refine (HN.out _).mono ?_
            rintro e w' ⟨rfl, rfl⟩
            go_wp2_with fail
            go_ret
            exact ⟨by rw [HC.out]; rfl, (Below.refl _ _).alloc (Nat.le_refl _) _⟩
          · have HC := Lib.hid (show checkE l s k = 14 by rw [hsp, if_neg h5])
            have h6 : (k != m) = true := by rw [bne_iff_ne]; exact h5
            clear hsp
            go_enter Try.func31, Try.ntmps31
            go_wp2_with fail
            refine (HN.out _).mono ?_
            rintro e w' ⟨rfl, rfl⟩
            go_wp2_with fail
            go_ret
            exact ⟨by rw [HC.out]; rfl, (Below.refl _ _).alloc (Nat.le_refl _) _⟩

end Go.Proofs.Ytfefkchjhooloaa

/-
  The document's answer for rows that lead (wellspringref03), in the program: 'Less'.
-/
set_option maxRecDepth 100000
namespace Go.Proofs.Ytfefkchjhooloaa
open Go.RowKit

theorem add_comm (x y : List Nat) : Gf.add x y = Gf.add y x := by
  unfold Gf.add
  induction x generalizing y with
  | nil => cases y <;> rfl
  | cons a x ih =>
    cases y with
    | nil => rfl
    | cons b y => simp only [List.zipWith_cons_cons]; rw [ih y, Nat.xor_comm]

def lessV (c : Nat) (p q p' q' : List Nat) : List Nat := if p'.length = p.length ∧ q'.length = q.length then Gf.add (Gf.scale c p') p else []
def lessD (c : Nat) (p q p' q' : List Nat) : List Nat := if p'.length = p.length ∧ q'.length = q.length then Gf.add (Gf.scale c q') q else []

end Go.Proofs.Ytfefkchjhooloaa
