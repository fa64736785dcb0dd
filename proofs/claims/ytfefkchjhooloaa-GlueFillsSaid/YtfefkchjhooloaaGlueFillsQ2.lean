/- Texts of one seat, laid together: KernE, RefTwo, RefRow, Soft, RowsM, RefCut, RefLess, RowL, RowMath. -/
import Derived.Test.YtfefkchjhooloaaGlueFillsQ1
import Derived.Deep.RegionHeld3
import Derived.Deep.QuietTactic
import Derived.BigQuiet

/-
  Many bytes at once (layer 2) in the program: 'Dot', 'Zero'.
-/
set_option maxRecDepth 100000
namespace Go.Proofs.Ytfefkchjhooloaa
open Go.RowKit

namespace Gf
end Gf

/-! ### Zero -/

set_option maxHeartbeats 400000 in
theorem zero1_any (x : Nat) (w : World) :
    Calls Try.prog 45 #[U8 x] w fun e w' => e = .returned (.bool ((x : Int) != 0)) ∧ w = w' := by
  go_enter Try.func45, Try.ntmps45
  go_wp2_with fail
  go_ret
  exact ⟨rfl, rfl⟩

/-- Are all 0? -/
def zeroB (l : List Nat) : Bool := l.all fun x => x == 0

theorem zeroB_eq (l : List Nat) : (!zeroB l) = decide (∃ i, i < l.length ∧ nth l i ≠ 0) := by
  rw [Bool.eq_iff_iff]
  simp only [zeroB, Bool.not_eq_true', List.all_eq_false, beq_iff_eq, decide_eq_true_eq]
  constructor
  · rintro ⟨x, hx, hne⟩
    obtain ⟨i, hi, rfl⟩ := List.getElem_of_mem hx
    exact ⟨i, hi, by rw [nth_eq l i hi]; exact hne⟩
  · rintro ⟨i, hi, hne⟩
    exact ⟨l[i], List.getElem_mem hi, by rw [nth_eq l i hi] at hne; exact hne⟩

set_option maxHeartbeats 400000 in
theorem idxZero_empty (f : Value) (a : Option Addr) (cap : Nat) (w : World) :
    Calls Try.prog 49 #[.slice a 0 cap, f] w (Found false w) := by
  go_enter Try.func49, Try.ntmps49
  go_wp2
  refine wp_loop_rounds 1 ?_
  rw [rounds_succ]
  go_wp2
  go_ret
  exact ⟨-1, rfl, rfl, rfl⟩

set_option maxHeartbeats 400000 in
theorem idxZero_some (b off cap : Nat) (l : List Nat) (w : World) (hB : Bytes w (.slice (some ⟨b, off, none⟩) l.length cap) l) :
    Calls Try.prog 49 #[.slice (some ⟨b, off, none⟩) l.length cap, .func (Fn.func 45) #[] #[]] w (Found (!zeroB l) w) := by
  have hcap : l.length ≤ 9223372036854775807 := by obtain ⟨_, _, _, h1, h2, _⟩ := hB; omega
  have HB := Lib.hid hB
  have HA := Lib.hid (zeroB_eq l)
  clear hB
  go_enter Try.func49, Try.ntmps49
  go_wp2
  go_loop [5, 8] (fun _ i => ∃ k : Nat, k ≤ l.length ∧ i = .int .i64 k ∧ ∀ j, j < k → nth l j = 0) (fun _ i => l.length - (Go.RowKit.intOf i).toNat)
  case atStart => exact ⟨0, by omega, rfl, fun j hj => by omega⟩
  case round =>
    obtain ⟨k, hk, rfl, hno⟩ := hrel
    have HN := Lib.hid hno
    clear hno
    by_cases hlt : k < l.length
    · have hu := HB.out.cell k hlt
      by_cases hq : nth l k = 0
      · have hb : ((nth l k : Int) != 0) = false := by rw [hq]; rfl
        have HQ := Lib.hid hq
        clear hq
        go_wp2_with fail
        refine (zero1_any _ _).mono ?_
        rintro e w' ⟨rfl, rfl⟩
        rw [hb]
        go_wp2_with fail
        go_round
        case rel => exact ⟨k + 1, by omega, by go_num, fun j hj => by
          by_cases h : j = k
          · rw [h]; exact HQ.out
          · exact HN.out j (by omega)⟩
        case measure => simp [Go.RowKit.intOf]; omega
      · have hb : ((nth l k : Int) != 0) = true := by rw [bne_iff_ne]; omega
        have HF : Hid ((!zeroB l) = true) := Lib.hid (by rw [HA.out, decide_eq_true_eq]; exact ⟨k, hlt, hq⟩)
        clear hq
        go_wp2_with fail
        refine (zero1_any _ _).mono ?_
        rintro e w' ⟨rfl, rfl⟩
        rw [hb]
        go_wp2_with fail
        go_ret
        exact ⟨k, rfl, by rw [HF.out]; simp, rfl⟩
    · have HF : Hid ((!zeroB l) = false) := Lib.hid (by
        rw [HA.out, decide_eq_false_iff_not]
        rintro ⟨i, hi, hne⟩
        exact hne (HN.out i (by omega)))
      go_wp2_with fail
      go_ret
      exact ⟨-1, rfl, by rw [HF.out]; decide, rfl⟩

set_option maxHeartbeats 400000 in
theorem hasZero_any (v f : Value) (t : Bool) (w : World) (h : Calls Try.prog 49 #[v, f] w (Found t w)) :
    Calls Try.prog 44 #[v, f] w fun e w' => e = .returned (.bool t) ∧ w = w' := by
  have H := Lib.hid h
  clear h
  go_enter Try.func44, Try.ntmps44
  go_wp2_with fail
  refine H.out.mono ?_
  rintro e w' ⟨r, rfl, ht, rfl⟩
  go_wp2_with fail
  go_ret
  exact ⟨rfl, rfl⟩

set_option maxHeartbeats 400000 in
theorem zero_of (v : Value) (t : Bool) (w : World) (h : Calls Try.prog 49 #[v, .func (Fn.func 45) #[] #[]] w (Found (!t) w)) :
    Calls Try.prog 40 #[v] w fun e w' => e = .returned (.bool t) ∧ w = w' := by
  have hmf : ∀ (fn : Fn) (first cap : Array Value) (w : World), (Instr.makeFunc fn first cap).run Try.prog w = .ok (.func fn first cap) w := fun _ _ _ _ => rfl
  have H := Lib.hid (hasZero_any _ _ _ _ h)
  clear h
  go_enter Try.func40, Try.ntmps40
  go_wp2_with fail
  refine H.out.mono ?_
  rintro e w' ⟨rfl, rfl⟩
  go_wp2_with fail
  go_ret
  exact ⟨by simp, rfl⟩

theorem zero_any (v : Value) (l : List Nat) (w : World) (hB : Bytes w v l) :
    Calls Try.prog 40 #[v] w fun e w' => e = .returned (.bool (zeroB l)) ∧ w = w' := by
  have hB0 := hB
  obtain ⟨a, cap, rfl, _, _, _, h4⟩ := hB
  cases l with
  | nil => exact zero_of _ true w (idxZero_empty _ a cap w)
  | cons x l =>
    obtain ⟨b, off, rfl, _, _⟩ := h4 (by simp)
    exact zero_of _ _ w (idxZero_some b off cap _ w hB0)

end Go.Proofs.Ytfefkchjhooloaa

/-
  The document's answer for rows (wellspringref02), in the program: 'Scale', 'Same', 'Zero', 'Dot'.
-/
set_option maxRecDepth 100000
namespace Go.Proofs.Ytfefkchjhooloaa
open Go.RowKit

/-! ### Same -/

set_option maxHeartbeats 400000 in
theorem same_unlike (a0 a1 : Option Addr) (n0 n1 c0 c1 : Nat) (w : World) (hne : n0 ≠ n1) :
    Calls Try.prog 13 #[.slice a0 n0 c0, .slice a1 n1 c1] w fun e w' => e = .returned (.bool false) ∧ Below w.heap.size w w' := by
  have hb : ((n0 : Int) != (n1 : Int)) = true := by rw [bne_iff_ne]; omega
  clear hne
  go_enter Try.func13, Try.ntmps13
  go_wp2_with fail
  go_ret
  exact ⟨rfl, Below.refl _ _⟩

set_option maxHeartbeats 400000 in
theorem same_empty (a0 a1 : Option Addr) (c0 c1 : Nat) (w : World) :
    Calls Try.prog 13 #[.slice a0 0 c0, .slice a1 0 c1] w fun e w' => e = .returned (.bool true) ∧ Below w.heap.size w w' := by
  go_enter Try.func13, Try.ntmps13
  go_wp2_with fail
  refine wp_loop_rounds 1 ?_
  rw [rounds_succ]
  go_wp2_with fail
  go_ret
  exact ⟨rfl, Below.refl _ _⟩

theorem ext_nth {a b : List Nat} (hl : a.length = b.length) (h : ∀ j, j < a.length → nth a j = nth b j) : a = b := by
  apply List.ext_getElem hl
  intro i h1 h2
  have := h i h1
  rwa [nth_eq a i h1, nth_eq b i h2] at this

set_option maxHeartbeats 400000 in
theorem same_some (b0 off0 c0 b1 off1 c1 : Nat) (x y : List Nat) (w : World) (hx : Bytes w (.slice (some ⟨b0, off0, none⟩) x.length c0) x) (hy : Bytes w (.slice (some ⟨b1, off1, none⟩) y.length c1) y) (hl : x.length = y.length) :
    Calls Try.prog 13 #[.slice (some ⟨b0, off0, none⟩) x.length c0, .slice (some ⟨b1, off1, none⟩) y.length c1] w fun e w' => e = .returned (.bool (decide (x = y))) ∧ Below w.heap.size w w' := by
  have hb : ((x.length : Int) != (y.length : Int)) = false := by rw [hl]; simp
  have hcap : x.length ≤ 9223372036854775807 := by obtain ⟨_, _, _, h1, h2, _⟩ := hx; omega
  have hle : x.length ≤ y.length := by omega
  obtain ⟨t, ht⟩ : ∃ t, t = decide (x = y) := ⟨_, rfl⟩
  rw [← ht]
  have HT := Lib.hid ht
  have HX := Lib.hid hx
  have HY := Lib.hid hy
  have HL := Lib.hid hl
  clear hx hy hl ht
  go_enter Try.func13, Try.ntmps13
  go_wp2_with fail
  go_loopw [5] (fun i wr => ∃ k : Nat, k ≤ x.length ∧ i = .int .i64 k ∧ (∀ j, j < k → nth x j = nth y j) ∧ Below w.heap.size w wr) (fun i _ => x.length - (Go.RowKit.intOf i).toNat)
  case atStart => exact ⟨0, by omega, rfl, fun j hj => by omega, Below.refl _ _⟩
  case round =>
    obtain ⟨k, hk, rfl, hno, hbel⟩ := hrel
    have HN := Lib.hid hno
    clear hno
    by_cases hlt : k < x.length
    · have hcx := (HX.out.below (Nat.le_refl _) hbel).cell k hlt
      have hcy := (HY.out.below (Nat.le_refl _) hbel).cell k (by omega)
      have k0 : (0 : Int) ≤ (k : Int) := Int.natCast_nonneg _
      have k1 : (k : Int) < (x.length : Int) := by omega
      have k2 : (k : Int) < (y.length : Int) := by omega
      by_cases hq : nth x k = nth y k
      · have hb2 : ((nth x k : Int) != (nth y k : Int)) = false := by rw [hq]; simp
        have HQ := Lib.hid hq
        clear hq
        go_wp2_with fail
        go_quiet (fail)
        go_wp2_with fail
        refine ⟨⟨k + 1, by omega, by go_num, fun j hj => ?_, below_drewN hbel _⟩, by simp [Go.RowKit.intOf]; omega⟩
        by_cases h : j = k
        · rw [h]; exact HQ.out
        · exact HN.out j (by omega)
      · have hb2 : ((nth x k : Int) != (nth y k : Int)) = true := by rw [bne_iff_ne]; omega
        have HF : Hid (t = false) := Lib.hid (by
          rw [HT.out, decide_eq_false_iff_not]
          intro h; exact hq (by rw [h]))
        clear hq
        go_wp2_with fail
        go_quiet (fail)
        go_wp2_with fail
        go_ret
        exact ⟨by rw [HF.out]; rfl, below_drewN hbel _⟩
    · have HF : Hid (t = true) := Lib.hid (by
        rw [HT.out, decide_eq_true_eq]
        exact ext_nth HL.out fun j hj => HN.out j (by omega))
      go_wp2_with fail
      go_ret
      exact ⟨by rw [HF.out]; rfl, hbel⟩

theorem same_any (v0 v1 : Value) (x y : List Nat) (w : World) (hx : Bytes w v0 x) (hy : Bytes w v1 y) :
    Calls Try.prog 13 #[v0, v1] w fun e w' => e = .returned (.bool (decide (x = y))) ∧ Below w.heap.size w w' := by
  have hx0 := hx
  have hy0 := hy
  obtain ⟨a0, c0, rfl, _, _, _, g4⟩ := hx
  obtain ⟨a1, c1, rfl, _, _, _, h4⟩ := hy
  by_cases hl : x.length = y.length
  · cases x with
    | nil =>
      have e : y = [] := List.length_eq_zero_iff.1 hl.symm
      subst e
      exact same_empty a0 a1 c0 c1 w
    | cons z x =>
      obtain ⟨b0, off0, rfl, _, _⟩ := g4 (by simp)
      obtain ⟨b1, off1, rfl, _, _⟩ := h4 (by intro h; rw [h] at hl; simp at hl)
      exact same_some b0 off0 c0 b1 off1 c1 _ y w hx0 hy0 hl
  · rw [show decide (x = y) = false from by rw [decide_eq_false_iff_not]; intro h; exact hl (by rw [h])]
    exact same_unlike a0 a1 _ _ c0 c1 w hl

/-! ### Zero -/

/-! ### Dot -/

end Go.Proofs.Ytfefkchjhooloaa

/-
  The document's answer for rows that lead (wellspringref03), in the program: 'Norm', 'Less', 'Same'.
-/
set_option maxRecDepth 100000
namespace Go.Proofs.Ytfefkchjhooloaa
open Go.RowKit

/-- By what a row is multiplied, to be normed. -/
def normC (p : List Nat) : Nat := if lead p < p.length then Gf.inv (nth p (lead p)) else 1
end Go.Proofs.Ytfefkchjhooloaa

/-
  Steps that leave all bytes alone, whatever else they write; a list without bytes that a call appends to; lists of rows (two slices of bytes each).
-/
set_option maxRecDepth 100000
namespace Go.Proofs.Ytfefkchjhooloaa
open Go.RowKit

/-- No byte stands in the block. -/
def Loose (w : World) (k : Nat) : Prop := ∀ (i n : Nat), w.cell? ⟨k, i, none⟩ ≠ some (U8 n)

/-- A step that turns only blocks without bytes. -/
structure Soft (w w' : World) : Prop where
  size : w.heap.size ≤ w'.heap.size
  block : ∀ k, k < w.heap.size → w'.heap[k]? = w.heap[k]? ∨ (Loose w k ∧ Loose w' k)

theorem cell_of_heap {w w' : World} {k i : Nat} (h : w'.heap[k]? = w.heap[k]?) : w'.cell? ⟨k, i, none⟩ = w.cell? ⟨k, i, none⟩ := World.cell?_of_block (w := w) h
theorem Loose.of_heap {w w' : World} {k : Nat} (h : w'.heap[k]? = w.heap[k]?) (hl : Loose w k) : Loose w' k := fun i n => by rw [cell_of_heap h]; exact hl i n
theorem Soft.of_grown {w w' : World} {row : Option Nat} (h : w.grownBy w' row) (hl : ∀ g, row = some g → Loose w g ∧ Loose w' g) : Soft w w' := by
  refine ⟨h.size, fun k hk => ?_⟩
  by_cases hr : some k = row
  · exact .inr (hl k hr.symm)
  · exact .inl (h.block k hk hr)
theorem Bytes.at {w : World} {a : Option Addr} {n c : Nat} {l : List Nat} (h : Bytes w (.slice a n c) l) (k : Nat) (hk : k < l.length) : ∃ b off, a = some ⟨b, off, none⟩ ∧ w.cell? ⟨b, off + k, none⟩ = some (U8 (nth l k)) := by
  have h0 := h
  obtain ⟨a', cap, e, _, _, _, h4⟩ := h
  simp only [Value.slice.injEq] at e
  obtain ⟨rfl, rfl, rfl⟩ := e
  obtain ⟨b, off, rfl, _, _⟩ := h4 (by intro e; rw [e] at hk; simp at hk)
  exact ⟨b, off, rfl, h0.cell k hk⟩
/-! ### Lists without bytes that a call appends to -/

/-- As ownsRow; and no byte stands in its block. -/
def OwnN (w : World) (B : Nat) (T : TypeId) (sz : Nat) (v : Value) (n : Nat) (xs : List Value) : Prop := w.ownsRow B T sz v n xs ∧ ∀ g, v.ownBlock = some g → Loose w g

theorem OwnN.nil (w : World) (B : Nat) (T : TypeId) (sz : Nat) : OwnN w B T sz (.slice none 0 0) 0 [] := ⟨World.ownsRow_nil _ _ _ _, fun g e => by cases e⟩
theorem OwnN.keep {w w' : World} {B : Nat} {T : TypeId} {sz : Nat} {v : Value} {n : Nat} {xs : List Value} {row : Option Nat} (h : OwnN w B T sz v n xs) (hg : w.grownBy w' row) (hne : v.ownBlock = none ∨ v.ownBlock ≠ row) : OwnN w' B T sz v n xs := by
  refine ⟨World.ownsRow.kept h.1 hg hne, fun g e => (h.2 g e).of_heap (hg.block g (World.ownsRow.lt h.1 g e).2 ?_)⟩
  rcases hne with h1 | h1
  · rw [e] at h1; cases h1
  · rw [← e]; exact h1
theorem OwnN.go {w w' : World} {B : Nat} {T : TypeId} {sz : Nat} {v : Value} {n : Nat} {xs : List Value} (h : OwnN w B T sz v n xs) (hb : Below w.heap.size w w') : OwnN w' B T sz v n xs :=
  h.keep (grown_of_below hb none) (by cases hv : v.ownBlock <;> simp)
theorem OwnN.from {w : World} {B : Nat} {T : TypeId} {sz : Nat} {v : Value} {n : Nat} {xs : List Value} (h : OwnN w B T sz v n xs) : ∀ k, v.ownBlock = some k → B ≤ k := fun k hk => (World.ownsRow.lt h.1 k hk).1

theorem zeroCells_mem {z : Array Value} {n : Nat} {u : Value} (h : u ∈ (Builtin.zeroCells z n).toList) : u ∈ z.toList := by
  unfold Builtin.zeroCells at h
  simp only [Array.toList_map, List.mem_map, Array.toList_range, List.mem_range] at h
  obtain ⟨i, hi, rfl⟩ := h
  have hz : 0 < z.size := by
    rcases Nat.eq_zero_or_pos z.size with h0 | h0
    · rw [h0, Nat.mul_zero] at hi; omega
    · exact h0
  have hm : i % z.size < z.size := Nat.mod_lt _ hz
  rw [getElem!_pos z _ hm]
  exact Array.getElem_mem_toList hm

/-- What an append makes of such a list, and that all bytes stay. -/
theorem run_append_soft {P : Program} (w : World) (B : Nat) (t ty e : TypeId) (i : TypeInfo) (z : Value) (size bytes : Nat) (ht : P.underlying t = some (.slice e)) (hi : P.info? e = some i) (hz : i.zero = some z)
    (hsize : i.size = size) (hby : i.bytes = bytes) (hzs : z.cells.size = size) (hsz : 0 < size)
    (v : Value) (n : Nat) (xs : List Value) (hown : OwnN w B e size v n xs)
    (a : Addr) (m c : Nat) (news : List Value) (hl : news.length = m * size) (hnews : ∀ j u, news[j]? = some u → w.cell? (a.add j) = some u) (h1 : ∀ u ∈ news, u.oneCell' = true)
    (hzn : ∀ u ∈ z.cells.toList, ∀ k : Nat, u ≠ U8 k) (hnn : ∀ u ∈ news, ∀ k : Nat, u ≠ U8 k)
    (h63 : n + m ≤ maxLen) (hbytes : (n + m) * bytes ≤ 140737488355328) (hbase : B ≤ w.heap.size) :
    ∃ v' w', (Builtin.append_ #[t, t] ty #[v, .slice (some a) m c]).run P w = .ok v' w' ∧ OwnN w' B e size v' (n + m) (xs ++ news) ∧ w.grownBy w' v.ownBlock ∧ Soft w w' := by
  obtain ⟨v', w', hr, ho, hg, _⟩ := run_append_own (P := P) w B t ty e i z size bytes ht hi hz hsize hby hzs hsz v n xs hown.1 a m c news hl hnews h1 h63 hbytes hbase
  have key : ∀ g, v'.ownBlock = some g → Loose w' g := by
    subst hsize
    subst hby
    have noX : ∀ {ys : List Value}, (∀ u ∈ ys, ∀ k : Nat, u ≠ U8 k) → ∀ (cs : Array Value), cs.toList = ys → ∀ (W : World) (g : Nat) (fr : Nat × Nat), W.heap[g]? = some (.cells cs e fr) → Loose W g := by
      intro ys hys cs hcs W g fr hW j k hj
      rw [cell_of_row W g j cs e fr hW, ← Array.getElem?_toList, hcs] at hj
      exact hys _ (List.mem_of_getElem? hj) k rfl
    rcases hown.1.2 with ⟨rfl, rfl⟩ | ⟨g0, cap, cur, rfl, hbg, hg0, hnc, hcm, hcs, htake⟩
    · by_cases hm : m = 0
      · subst hm
        have hn : news = [] := List.eq_nil_of_length_eq_zero (by simpa using hl)
        subst hn
        have e2 : (Builtin.append_ #[t, t] ty #[.slice none 0 0, .slice (some a) 0 c]).run P w = .ok (.slice none 0 0) w := by
          simp [Builtin.append_, run_underlying ht, sizeOf, typeInfo, hi, Builtin.lenOf, Builtin.firstCells, loadCells, loadCellsFrom]
        rw [e2] at hr
        simp only [Result.ok.injEq] at hr
        obtain ⟨rfl, rfl⟩ := hr
        intro g hg'; cases hg'
      · have hr2 := run_append_nil (P := P) w t ty e i z ht hi hz a m c news hl hnews (by omega) (by simp only [maxLen] at h63; omega) (by have hb := hbytes; simp only [Nat.zero_add] at hb; omega)
        rw [hr2] at hr
        simp only [Result.ok.injEq] at hr
        obtain ⟨rfl, rfl⟩ := hr
        intro g hg'
        simp only [Value.ownBlock, Option.some.injEq] at hg'
        subst hg'
        refine noX (ys := news ++ (Builtin.zeroCells z.cells (grownCap w m 0 e - m)).toList) ?_ _ (by simp) _ _ (0, 0) (heap_alloc_new w.drew _)
        intro u hu k
        rcases List.mem_append.1 hu with hu | hu
        · exact hnn u hu k
        · exact hzn u (zeroCells_mem hu) k
    · have hlo : Loose w g0 := hown.2 g0 rfl
      have hcur : ∀ u ∈ cur.toList, ∀ k : Nat, u ≠ U8 k := by
        intro u hu k e2
        obtain ⟨j, hj⟩ := List.mem_iff_getElem?.1 hu
        refine hlo j k ?_
        rw [cell_of_row w g0 j cur e (0, 0) hg0, ← Array.getElem?_toList, hj, e2]
      by_cases hroom : n + m ≤ cap
      · have hfit : n * i.size + news.length ≤ cur.size := by rw [hl, hcs, ← Nat.add_mul]; exact Nat.mul_le_mul_right _ hroom
        have hr2 := run_append_room (P := P) w t ty e i ht hi g0 n cap cur hg0 a m c news hl hnews h1 hroom hfit
        rw [hr2] at hr
        simp only [Result.ok.injEq] at hr
        obtain ⟨rfl, rfl⟩ := hr
        intro g hg'
        simp only [Value.ownBlock, Option.some.injEq] at hg'
        subst hg'
        refine noX (ys := cur.toList.take (n * i.size) ++ news ++ cur.toList.drop (n * i.size + news.length)) ?_ _ (by simp) _ _ (0, 0) (setRow_heap w g0 cur _ e _ hg0)
        intro u hu k
        rcases List.mem_append.1 hu with hu | hu
        · rcases List.mem_append.1 hu with hu | hu
          · exact hcur u (List.mem_of_mem_take hu) k
          · exact hnn u hu k
        · exact hcur u (List.mem_of_mem_drop hu) k
      · have holds : ∀ j u, xs[j]? = some u → w.cell? ((⟨g0, 0, none⟩ : Addr).add j) = some u := World.ownsRow.cells hown.1 (g := g0) rfl
        have hr2 := run_append_grow (P := P) w t ty e i z ht hi hz ⟨g0, 0, none⟩ n cap xs hown.1.1 holds a m c news hl hnews (by omega) (by simp only [maxLen] at h63; omega) (growslice_fits (by omega) hbytes)
        rw [hr2] at hr
        simp only [Result.ok.injEq] at hr
        obtain ⟨rfl, rfl⟩ := hr
        intro g hg'
        simp only [Value.ownBlock, Option.some.injEq] at hg'
        subst hg'
        refine noX (ys := xs ++ news ++ (Builtin.zeroCells z.cells (grownCap w (n + m) cap e - (n + m))).toList) ?_ _ (by simp) _ _ (0, 0) (heap_alloc_new w.drew _)
        intro u hu k
        rcases List.mem_append.1 hu with hu | hu
        · rcases List.mem_append.1 hu with hu | hu
          · rw [← htake] at hu; exact hcur u (List.mem_of_mem_take hu) k
          · exact hnn u hu k
        · exact hzn u (zeroCells_mem hu) k
  refine ⟨v', w', hr, ⟨ho, key⟩, hg, Soft.of_grown hg fun g e2 => ⟨hown.2 g e2, ?_⟩⟩
  -- the elder block: where it stays the slice's, it is loose by the above; where it doesn't, it is as it was
  by_cases hv : v'.ownBlock = some g
  · exact key g hv
  · refine (hown.2 g e2).of_heap ?_
    subst hsize
    subst hby
    rcases hown.1.2 with ⟨rfl, rfl⟩ | ⟨g0, cap, cur, rfl, hbg, hg0, hnc, hcm, hcs, htake⟩
    · cases e2
    · simp only [Value.ownBlock, Option.some.injEq] at e2
      subst e2
      by_cases hroom : n + m ≤ cap
      · have hfit : n * i.size + news.length ≤ cur.size := by rw [hl, hcs, ← Nat.add_mul]; exact Nat.mul_le_mul_right _ hroom
        have hr2 := run_append_room (P := P) w t ty e i ht hi g0 n cap cur hg0 a m c news hl hnews h1 hroom hfit
        rw [hr2] at hr
        simp only [Result.ok.injEq] at hr
        exact absurd (by rw [← hr.1]; rfl) hv
      · have holds : ∀ j u, xs[j]? = some u → w.cell? ((⟨g0, 0, none⟩ : Addr).add j) = some u := World.ownsRow.cells hown.1 (g := g0) rfl
        have hr2 := run_append_grow (P := P) w t ty e i z ht hi hz ⟨g0, 0, none⟩ n cap xs hown.1.1 holds a m c news hl hnews (by omega) (by simp only [maxLen] at h63; omega) (growslice_fits (by omega) hbytes)
        rw [hr2] at hr
        simp only [Result.ok.injEq] at hr
        rw [← hr.2]
        exact Below.heap_alloc w.drew _ _ (Array.getElem?_eq_some_iff.1 hg0).1

theorem wpList_append_soft {P : Program} {w : World} {ops : Array Oper} {rest : List Oper} {o : Oper} {a : Act} {Q : Exit → Act → World → Prop} (hgd : o.guard = none) (s x : Operand) (t : TypeId)
    (ho : o.op = .call { callee := .builtin .append, args := #[s, x], argTypes := #[t, t] })
    (B : Nat) (e : TypeId) (i : TypeInfo) (z : Value) (size bytes : Nat) (ht : P.underlying t = some (.slice e)) (hi : P.info? e = some i) (hz : i.zero = some z)
    (hsize : i.size = size) (hby : i.bytes = bytes) (hzs : z.cells.size = size) (hsz : 0 < size)
    (v : Value) (n : Nat) (xs : List Value) (hs : a.eval s = v) (hown : OwnN w B e size v n xs)
    (ad : Addr) (m c : Nat) (news : List Value) (hx : a.eval x = .slice (some ad) m c) (hl : news.length = m * size) (hnews : ∀ j u, news[j]? = some u → w.cell? (ad.add j) = some u) (h1 : ∀ u ∈ news, u.oneCell' = true)
    (hzn : ∀ u ∈ z.cells.toList, ∀ k : Nat, u ≠ U8 k) (hnn : ∀ u ∈ news, ∀ k : Nat, u ≠ U8 k)
    (h63 : n + m ≤ maxLen) (hbytes : (n + m) * bytes ≤ 140737488355328) (hbase : B ≤ w.heap.size)
    (h : ∀ v' w', OwnN w' B e size v' (n + m) (xs ++ news) → w.grownBy w' v.ownBlock → Soft w w' → wpList P ops Q rest (a.put o.dst v') w') : wpList P ops Q (o :: rest) a w := by
  refine wpList_plain hgd fun K hK => ?_
  obtain ⟨v', w', hrun, h2, h3, h4⟩ := run_append_soft (P := P) w B t o.type e i z size bytes ht hi hz hsize hby hzs hsz v n xs hown ad m c news hl hnews h1 hzn hnn h63 hbytes hbase
  unfold Oper.wp
  simp only [execOp, ho, resolve, invoke, builtin, Sem.run_bind, Sem.run_pure, Result.andThen_ok, List.map_toArray, List.map_cons, List.map_nil, hs, hx, hrun]
  exact hK _ _ (h v' w' h2 h3 h4)

theorem Bytes.drop {w : World} {b off n cap : Nat} {l : List Nat} (h : Bytes w (.slice (some ⟨b, off, none⟩) n cap) l) {i : Nat} (hi : i ≤ l.length) (a : Option Addr) (ha : i < l.length → a = some ⟨b, off + i, none⟩) (m c : Nat) (hm : m = l.length - i) (hc : l.length - i ≤ c) (hc2 : c ≤ 9223372036854775807) : Bytes w (.slice a m c) (l.drop i) := by
  subst hm
  have hl : (l.drop i).length = l.length - i := by simp
  obtain ⟨a', cap', e, h1, h2, h3, h4⟩ := h
  refine ⟨a, c, by rw [hl], by omega, hc2, fun x hx => h3 x (List.mem_of_mem_drop hx), fun hne => ?_⟩
  have hlt : i < l.length := by
    have := List.length_pos_iff.2 hne
    omega
  obtain ⟨b', off', rfl, hlt', hcell⟩ := h4 (by intro e; subst e; simp at hlt)
  simp only [Value.slice.injEq, Option.some.injEq, Addr.mk.injEq] at e
  obtain ⟨⟨rfl, rfl, _⟩, _, _⟩ := e
  refine ⟨b, off + i, ha hlt, hlt', fun j hj => ?_⟩
  rw [hl] at hj
  have := hcell (i + j) (by omega)
  rw [show off + i + j = off + (i + j) by omega, this, nth_eq _ _ (by omega), nth_eq _ _ (by omega)]; simp

end Go.Proofs.Ytfefkchjhooloaa

/-
  Lists of slices of bytes that a call makes and appends to.
-/
set_option maxRecDepth 100000
namespace Go.Proofs.Ytfefkchjhooloaa
open Go.RowKit

theorem rows_add (b o j : Nat) : (⟨b, o, none⟩ : Addr).add j = ⟨b, o + j, none⟩ := by unfold Addr.add; split <;> simp_all
end Go.Proofs.Ytfefkchjhooloaa

/-
  The document's answer for symbols (wellspringref11), in the program: 'Cut'.
-/
set_option maxRecDepth 100000
namespace Go.Proofs.Ytfefkchjhooloaa
open Go.RowKit

theorem needs_le (l s : Nat) : 1 ≤ needsN l s ∧ needsN l s ≤ 4097 := by
  unfold needsN
  split
  · omega
  · split
    · omega
    · rename_i h1 h2
      refine ⟨Nat.le_add_left 1 _, ?_⟩
      have : (l - 1) / s < 4097 := Nat.div_lt_of_lt_mul (by omega)
      omega
/-- A plan that may be. -/
theorem check_ok {l s k : Int} (h : checkE l s k = 0) : 0 ≤ l ∧ 1 ≤ s ∧ s ≤ 65535 ∧ 1 ≤ k ∧ k ≤ 4096 ∧ k = (needsN l.toNat s.toNat : Int) := by
  unfold checkE at h
  split at h
  · exact absurd h (by decide)
  · split at h
    · exact absurd h (by decide)
    · split at h
      · exact absurd h (by decide)
      · split at h
        · have := needs_le l.toNat s.toNat
          omega
        · exact absurd h (by decide)
end Go.Proofs.Ytfefkchjhooloaa

/-
  The document's answer for rows that lead (wellspringref03), in the program: 'Less'.
-/
set_option maxRecDepth 100000
namespace Go.Proofs.Ytfefkchjhooloaa
open Go.RowKit

theorem add_comm (x y : List Nat) : Gf.add x y = Gf.add y x := by
  unfold Gf.add
  induction x generalizing y with
  | nil => cases y <;> rfl
  | cons a x ih =>
    cases y with
    | nil => rfl
    | cons b y => simp only [List.zipWith_cons_cons]; rw [ih y, Nat.xor_comm]

def lessV (c : Nat) (p q p' q' : List Nat) : List Nat := if p'.length = p.length ∧ q'.length = q.length then Gf.add (Gf.scale c p') p else []
def lessD (c : Nat) (p q p' q' : List Nat) : List Nat := if p'.length = p.length ∧ q'.length = q.length then Gf.add (Gf.scale c q') q else []

end Go.Proofs.Ytfefkchjhooloaa

/-
  Lists of rows (each of two slices of bytes): read, appended to, stored into.
-/
set_option maxRecDepth 100000
namespace Go.Proofs.Ytfefkchjhooloaa
open Go.RowKit

theorem row_add (b o j : Nat) : (⟨b, o, none⟩ : Addr).add j = ⟨b, o + j, none⟩ := by unfold Addr.add; split <;> simp_all

/-- A row: its vector, and what it carries. -/
abbrev Rw := List Nat × List Nat
/-- The row of a place: by a name of its own, so that the walk leaves it as it is. -/
def rwAt (L : List Rw) (i : Nat) : Rw := L.getD i ([], [])
/-! ### Lists that a call makes -/

/-- The cells of rows, one behind the other. -/
def pairs : List (Value × Value) → List Value
  | [] => []
  | u :: us => u.1 :: u.2 :: pairs us
/-- Each pair reads as a row. -/
structure Each (w : World) (us : List (Value × Value)) (L : List Rw) : Prop where
  len : us.length = L.length
  row : ∀ i u, us[i]? = some u → Bytes w u.1 (rwAt L i).1 ∧ Bytes w u.2 (rwAt L i).2

end Go.Proofs.Ytfefkchjhooloaa

/-
  Rows cleared by others (layers 7 and 8), in plain lists: what the document's answers reckon. No program in this text.
-/
set_option maxRecDepth 100000
namespace Go.Proofs.Ytfefkchjhooloaa
namespace Ro

def less (x : Rw) (c : Nat) (r : Rw) : Rw := (lessV c x.1 x.2 r.1 r.2, lessD c x.1 x.2 r.1 r.2)
def norm (x : Rw) : Rw := (Gf.scale (normC x.1) x.1, Gf.scale (normC x.1) x.2)
/-- What is left, row by row. -/
def step (x r : Rw) : Rw := less x (nth x.1 (lead r.1)) r
def rest (L : List Rw) (x : Rw) : Rw := L.foldl step x
/-- How many rows lead ahead of it. -/
def ahead (L : List Rw) (x : Rw) : Nat := (L.takeWhile fun r => decide (lead r.1 < lead x.1)).length
def put (L : List Rw) (y : Rw) : List Rw := L.take (ahead L y) ++ y :: L.drop (ahead L y)
def insert (L : List Rw) (x : Rw) : List Rw := if lead (norm (rest L x)).1 < (norm (rest L x)).1.length then put L (norm (rest L x)) else L
/-- All inserted, one by one. -/
def all (L : List Rw) : List Rw := L.foldl insert []

end Ro
end Go.Proofs.Ytfefkchjhooloaa
