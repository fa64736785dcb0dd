/- Texts of one seat, laid together: Blk, KernE, RefTwo, RefThree, LawTwo, LawTwoC, RefRow, RefLess, GrowS, Soft. -/
import Derived.Test.YtphdadibfeencaaSolveCountsQ1
import Derived.Test.YtphdadibfeencaaSolveCountsQ2
import Derived.Deep.RegionHeld3
import Derived.Deep.QuietTactic
import Derived.BigQuiet

/-
  A block of whatever values (a struct's box, a variable, a result): what it holds, and that it stays where others are written.
-/
set_option maxRecDepth 100000
namespace Go.Proofs.Ytphdadibfeencaa
open Go.RowKit

/-- Block g holds these values, of that type, and isn't frozen. -/
def Blk (w : World) (g : Nat) (vs : Array Value) (T : TypeId) : Prop := w.heap[g]? = some (.cells vs T)

theorem Blk.lt {w : World} {g : Nat} {vs : Array Value} {T : TypeId} (h : Blk w g vs T) : g < w.heap.size := (Array.getElem?_eq_some_iff.1 h).1
theorem Blk.cell {w : World} {g : Nat} {vs : Array Value} {T : TypeId} (h : Blk w g vs T) (k : Nat) : w.cell? ⟨g, k, none⟩ = vs[k]? := cell_of_row w g k _ _ (0, 0) h
theorem Blk.free {w : World} {g : Nat} {vs : Array Value} {T : TypeId} (h : Blk w g vs T) (k : Nat) : w.frozen? ⟨g, k, none⟩ = false := frozen_of_row w g k _ _ h
theorem Blk.new (w : World) (vs : Array Value) (T : TypeId) (g : Nat) (hg : g = w.heap.size) : Blk (w.alloc (.cells vs T)) g vs T := by subst hg; exact heap_alloc_new w _
theorem Blk.alloc {w : World} {g : Nat} {vs : Array Value} {T : TypeId} (h : Blk w g vs T) (o : Obj) : Blk (w.alloc o) g vs T := by
  unfold Blk; rw [Below.heap_alloc w o g h.lt]; exact h
theorem Blk.below {w w' : World} {g B : Nat} {vs : Array Value} {T : TypeId} (h : Blk w g vs T) (hB : g < B) (hb : Below B w w') : Blk w' g vs T := by
  unfold Blk; rw [hb.block g hB]; exact h
theorem Blk.same {w w' : World} {g : Nat} {vs : Array Value} {T : TypeId} (h : Blk w g vs T) (hb : Below w.heap.size w w') : Blk w' g vs T := h.below h.lt hb
theorem Blk.grown {w w' : World} {g : Nat} {row : Option Nat} {vs : Array Value} {T : TypeId} (h : Blk w g vs T) (hg : w.grownBy w' row) (hne : some g ≠ row) : Blk w' g vs T := by
  unfold Blk; rw [hg.block g h.lt hne]; exact h

theorem Blk.set {w : World} {g : Nat} {vs : Array Value} {T : TypeId} (h : Blk w g vs T) (k : Nat) (v : Value) : Blk (w.setCell ⟨g, k, none⟩ v) g (vs.setIfInBounds k v) T := by
  unfold Blk World.setCell
  have e : w.heap[g]? = some (.cells vs T) := h
  simp [Array.getElem?_modify, e]

/-- Both cells of a struct of two, stored. -/
theorem Blk.set2 {w : World} {g : Nat} {x y : Value} {T : TypeId} (h : Blk w g #[x, y] T) (u v : Value) : Blk ((w.setCell ⟨g, 0, none⟩ u).setCell ⟨g, 1, none⟩ v) g #[u, v] T := (h.set 0 u).set 1 v

/-- Bytes lie elsewhere than a block that holds none. -/
theorem Bytes.other {w w' : World} {v : Value} {l : List Nat} {g : Nat} {vs : Array Value} {T : TypeId} (h : Bytes w v l) (k : Blk w g vs T) (hno : ∀ (i x : Nat), vs[i]? ≠ some (U8 x)) (hg : w.grownBy w' (some g)) : Bytes w' v l := by
  have h0 := h
  obtain ⟨a, cap, rfl, h1, h2, h3, h4⟩ := h
  by_cases hl : l = []
  · subst hl
    exact ⟨a, cap, rfl, h1, h2, h3, fun e => absurd rfl e⟩
  · obtain ⟨b, off, rfl, hlt, hc⟩ := h4 hl
    refine h0.grown hg (Or.inr ?_)
    simp only [Value.ownBlock, ne_eq, Option.some.injEq]
    intro e
    subst e
    have hpos : 0 < l.length := by cases l with
      | nil => exact absurd rfl hl
      | cons => simp
    have h5 := hc 0 hpos
    rw [k.cell] at h5
    exact hno _ _ h5

theorem no_bytes2 (x y : Value) (hx : ∀ n : Nat, x ≠ U8 n) (hy : ∀ n : Nat, y ≠ U8 n) : ∀ (i n : Nat), (#[x, y] : Array Value)[i]? ≠ some (U8 n)
  | 0, n => fun e => hx n (Option.some.inj e)
  | 1, n => fun e => hy n (Option.some.inj e)
  | i + 2, n => fun e => by simp at e

theorem cell_keep {w w' : World} {p : Addr} {v : Value} (h : w.cell? p = some v) (hb : Below w.heap.size w w') : w'.cell? p = some v := by
  rw [hb.cell (World.block_lt_of_cell? w _ h)]; exact h

/-! ### What is known, carried over a call that turns nothing of what was there -/

theorem Bytes.go {w w' : World} {v : Value} {l : List Nat} (h : Bytes w v l) (hb : Below w.heap.size w w') : Bytes w' v l := h.below (Nat.le_refl _) hb
theorem Own.go {w w' : World} {g : Nat} {l : List Nat} (h : Own w g l) (hb : Below w.heap.size w w') : Own w' g l := h.below h.lt hb
theorem Blk.go {w w' : World} {g : Nat} {vs : Array Value} {T : TypeId} (h : Blk w g vs T) (hb : Below w.heap.size w w') : Blk w' g vs T := h.same hb

theorem Blk.two {w : World} {g : Nat} {x y : Value} {T : TypeId} (h : Blk w g #[x, y] T) : w.cell? ⟨g, 0, none⟩ = some x ∧ w.cell? ⟨g, 1, none⟩ = some y := ⟨h.cell 0, h.cell 1⟩
theorem Blk.fre2 {w : World} {g : Nat} {vs : Array Value} {T : TypeId} (h : Blk w g vs T) : w.frozen? ⟨g, 0, none⟩ = false ∧ w.frozen? ⟨g, 1, none⟩ = false := ⟨h.free 0, h.free 1⟩

/-- New blocks, one behind the other. -/
theorem blocks1 (w : World) (c1 : Array Value) (T1 : TypeId) : Below w.heap.size w (w.alloc (.cells c1 T1)) ∧ Blk (w.alloc (.cells c1 T1)) w.heap.size c1 T1 ∧ (w.alloc (.cells c1 T1)).heap.size = w.heap.size + 1 :=
  ⟨(Below.refl _ _).alloc (Nat.le_refl _) _, Blk.new w c1 T1 _ rfl, by simp⟩
theorem blocks2 (w : World) (c1 : Array Value) (T1 : TypeId) (c2 : Array Value) (T2 : TypeId) : Below w.heap.size w ((w.alloc (.cells c1 T1)).alloc (.cells c2 T2)) ∧ Blk ((w.alloc (.cells c1 T1)).alloc (.cells c2 T2)) w.heap.size c1 T1 ∧
    Blk ((w.alloc (.cells c1 T1)).alloc (.cells c2 T2)) (w.heap.size + 1) c2 T2 ∧ ((w.alloc (.cells c1 T1)).alloc (.cells c2 T2)).heap.size = w.heap.size + 1 + 1 := by
  obtain ⟨b, k1, s⟩ := blocks1 w c1 T1
  obtain ⟨b', k2, s'⟩ := blocks1 (w.alloc (.cells c1 T1)) c2 T2
  rw [s] at k2 s'
  exact ⟨b.trans (b'.mono b.size), k1.alloc _, k2, s'⟩
theorem blocks3 (w : World) (c1 : Array Value) (T1 : TypeId) (c2 : Array Value) (T2 : TypeId) (c3 : Array Value) (T3 : TypeId) : Below w.heap.size w (((w.alloc (.cells c1 T1)).alloc (.cells c2 T2)).alloc (.cells c3 T3)) ∧ Blk (((w.alloc (.cells c1 T1)).alloc (.cells c2 T2)).alloc (.cells c3 T3)) w.heap.size c1 T1 ∧
    Blk (((w.alloc (.cells c1 T1)).alloc (.cells c2 T2)).alloc (.cells c3 T3)) (w.heap.size + 1) c2 T2 ∧ Blk (((w.alloc (.cells c1 T1)).alloc (.cells c2 T2)).alloc (.cells c3 T3)) (w.heap.size + 1 + 1) c3 T3 ∧
    (((w.alloc (.cells c1 T1)).alloc (.cells c2 T2)).alloc (.cells c3 T3)).heap.size = w.heap.size + 1 + 1 + 1 := by
  obtain ⟨b, k1, k2, s⟩ := blocks2 w c1 T1 c2 T2
  obtain ⟨b', k3, s'⟩ := blocks1 ((w.alloc (.cells c1 T1)).alloc (.cells c2 T2)) c3 T3
  rw [s] at k3 s'
  exact ⟨b.trans (b'.mono b.size), k1.alloc _, k2.alloc _, k3, s'⟩

/-- Both cells of a result of two stored: what they hold then, and that all else stays. -/
theorem store2 {w0 w : World} {g : Nat} {a b : Value} {T : TypeId} (hK : Blk w g #[a, b] T) (hg : w0.heap.size ≤ g) (hB : Below w0.heap.size w0 w) (ha : ∀ n : Nat, a ≠ U8 n) (hb : ∀ n : Nat, b ≠ U8 n) (x y : Value) :
    ((w.setCell ⟨g, 0, none⟩ x).setCell ⟨g, 1, none⟩ y).cell? ⟨g, 0, none⟩ = some x ∧ ((w.setCell ⟨g, 0, none⟩ x).setCell ⟨g, 1, none⟩ y).cell? ⟨g, 1, none⟩ = some y ∧
    Below w0.heap.size w0 ((w.setCell ⟨g, 0, none⟩ x).setCell ⟨g, 1, none⟩ y) ∧ ∀ v l, Bytes w v l → Bytes ((w.setCell ⟨g, 0, none⟩ x).setCell ⟨g, 1, none⟩ y) v l := by
  have h5 := hK.set2 x y
  refine ⟨h5.cell 0, h5.cell 1, (hB.setCell hg _).setCell hg _, fun v l h => ?_⟩
  exact h.other hK (no_bytes2 a b ha hb) (grown_trans (grown_setCell w ⟨g, 0, none⟩ x) (grown_setCell _ ⟨g, 1, none⟩ y))

/-- A call in a region that only reads. -/
theorem quiet_eq {f : FuncId} {args : Array Value} {w : World} {n : Nat} {v : Value} (h : Calls Try.prog f args (w.drewN n) fun e w' => e = .returned v ∧ w.drewN n = w') :
    Calls Try.prog f args (w.drewN n) fun e w'' => e = .returned v ∧ ∃ m, w'' = w.drewN m := h.mono fun _ _ ⟨he, hm⟩ => ⟨he, n, hm.symm⟩
theorem Bytes.drewN {w : World} {v : Value} {l : List Nat} (h : Bytes w v l) (n : Nat) : Bytes (w.drewN n) v l := h
theorem below_drews (w : World) (n : Nat) : Below w.heap.size w (w.drewN n) := by
  induction n with
  | zero => exact Below.refl _ _
  | succ n ih => exact ih.drew

theorem slice_ne (a : Option Addr) (n c : Nat) : ∀ k : Nat, Value.slice a n c ≠ U8 k := fun k e => by cases e

end Go.Proofs.Ytphdadibfeencaa

/-
  Many bytes at once (layer 2) in the program: 'Dot', 'Zero'.
-/
set_option maxRecDepth 100000
namespace Go.Proofs.Ytphdadibfeencaa
open Go.RowKit

namespace Gf
end Gf

/-! ### Zero -/

set_option maxHeartbeats 400000 in
theorem zero1_any (x : Nat) (w : World) :
    Calls Try.prog 77 #[U8 x] w fun e w' => e = .returned (.bool ((x : Int) != 0)) ∧ w = w' := by
  go_enter Try.func77, Try.ntmps77
  go_wp2_with fail
  go_ret
  exact ⟨rfl, rfl⟩

/-- Are all 0? -/
def zeroB (l : List Nat) : Bool := l.all fun x => x == 0

theorem zeroB_eq (l : List Nat) : (!zeroB l) = decide (∃ i, i < l.length ∧ nth l i ≠ 0) := by
  rw [Bool.eq_iff_iff]
  simp only [zeroB, Bool.not_eq_true', List.all_eq_false, beq_iff_eq, decide_eq_true_eq]
  constructor
  · rintro ⟨x, hx, hne⟩
    obtain ⟨i, hi, rfl⟩ := List.getElem_of_mem hx
    exact ⟨i, hi, by rw [nth_eq l i hi]; exact hne⟩
  · rintro ⟨i, hi, hne⟩
    exact ⟨l[i], List.getElem_mem hi, by rw [nth_eq l i hi] at hne; exact hne⟩

set_option maxHeartbeats 400000 in
theorem idxZero_empty (f : Value) (a : Option Addr) (cap : Nat) (w : World) :
    Calls Try.prog 92 #[.slice a 0 cap, f] w (Found false w) := by
  go_enter Try.func92, Try.ntmps92
  go_wp2
  refine wp_loop_rounds 1 ?_
  rw [rounds_succ]
  go_wp2
  go_ret
  exact ⟨-1, rfl, rfl, rfl⟩

set_option maxHeartbeats 400000 in
theorem idxZero_some (b off cap : Nat) (l : List Nat) (w : World) (hB : Bytes w (.slice (some ⟨b, off, none⟩) l.length cap) l) :
    Calls Try.prog 92 #[.slice (some ⟨b, off, none⟩) l.length cap, .func (Fn.func 77) #[] #[]] w (Found (!zeroB l) w) := by
  have hcap : l.length ≤ 9223372036854775807 := by obtain ⟨_, _, _, h1, h2, _⟩ := hB; omega
  have HB := Lib.hid hB
  have HA := Lib.hid (zeroB_eq l)
  clear hB
  go_enter Try.func92, Try.ntmps92
  go_wp2
  go_loop [5, 8] (fun _ i => ∃ k : Nat, k ≤ l.length ∧ i = .int .i64 k ∧ ∀ j, j < k → nth l j = 0) (fun _ i => l.length - (intOf i).toNat)
  case atStart => exact ⟨0, by omega, rfl, fun j hj => by omega⟩
  case round =>
    obtain ⟨k, hk, rfl, hno⟩ := hrel
    have HN := Lib.hid hno
    clear hno
    by_cases hlt : k < l.length
    · have hu := HB.out.cell k hlt
      by_cases hq : nth l k = 0
      · have hb : ((nth l k : Int) != 0) = false := by rw [hq]; rfl
        have HQ := Lib.hid hq
        clear hq
        go_wp2_with fail
        refine (zero1_any _ _).mono ?_
        rintro e w' ⟨rfl, rfl⟩
        rw [hb]
        go_wp2_with fail
        go_round
        case rel => exact ⟨k + 1, by omega, by go_num, fun j hj => by
          by_cases h : j = k
          · rw [h]; exact HQ.out
          · exact HN.out j (by omega)⟩
        case measure => simp [intOf]; omega
      · have hb : ((nth l k : Int) != 0) = true := by rw [bne_iff_ne]; omega
        have HF : Hid ((!zeroB l) = true) := Lib.hid (by rw [HA.out, decide_eq_true_eq]; exact ⟨k, hlt, hq⟩)
        clear hq
        go_wp2_with fail
        refine (zero1_any _ _).mono ?_
        rintro e w' ⟨rfl, rfl⟩
        rw [hb]
        go_wp2_with fail
        go_ret
        exact ⟨k, rfl, by rw [HF.out]; simp, rfl⟩
    · have HF : Hid ((!zeroB l) = false) := Lib.hid (by
        rw [HA.out, decide_eq_false_iff_not]
        rintro ⟨i, hi, hne⟩
        exact hne (HN.out i (by omega)))
      go_wp2_with fail
      go_ret
      exact ⟨-1, rfl, by rw [HF.out]; decide, rfl⟩

set_option maxHeartbeats 400000 in
theorem hasZero_any (v f : Value) (t : Bool) (w : World) (h : Calls Try.prog 92 #[v, f] w (Found t w)) :
    Calls Try.prog 76 #[v, f] w fun e w' => e = .returned (.bool t) ∧ w = w' := by
  have H := Lib.hid h
  clear h
  go_enter Try.func76, Try.ntmps76
  go_wp2_with fail
  refine H.out.mono ?_
  rintro e w' ⟨r, rfl, ht, rfl⟩
  go_wp2_with fail
  go_ret
  exact ⟨rfl, rfl⟩

set_option maxHeartbeats 400000 in
theorem zero_of (v : Value) (t : Bool) (w : World) (h : Calls Try.prog 92 #[v, .func (Fn.func 77) #[] #[]] w (Found (!t) w)) :
    Calls Try.prog 63 #[v] w fun e w' => e = .returned (.bool t) ∧ w = w' := by
  have hmf : ∀ (fn : Fn) (first cap : Array Value) (w : World), (Instr.makeFunc fn first cap).run Try.prog w = .ok (.func fn first cap) w := fun _ _ _ _ => rfl
  have H := Lib.hid (hasZero_any _ _ _ _ h)
  clear h
  go_enter Try.func63, Try.ntmps63
  go_wp2_with fail
  refine H.out.mono ?_
  rintro e w' ⟨rfl, rfl⟩
  go_wp2_with fail
  go_ret
  exact ⟨by simp, rfl⟩

theorem zero_any (v : Value) (l : List Nat) (w : World) (hB : Bytes w v l) :
    Calls Try.prog 63 #[v] w fun e w' => e = .returned (.bool (zeroB l)) ∧ w = w' := by
  have hB0 := hB
  obtain ⟨a, cap, rfl, _, _, _, h4⟩ := hB
  cases l with
  | nil => exact zero_of _ true w (idxZero_empty _ a cap w)
  | cons x l =>
    obtain ⟨b, off, rfl, _, _⟩ := h4 (by simp)
    exact zero_of _ _ w (idxZero_some b off cap _ w hB0)

end Go.Proofs.Ytphdadibfeencaa

/-
  The document's answer for rows (wellspringref02), in the program: 'Scale', 'Same', 'Zero', 'Dot'.
-/
set_option maxRecDepth 100000
namespace Go.Proofs.Ytphdadibfeencaa
open Go.RowKit

/-! ### Same -/

theorem ext_nth {a b : List Nat} (hl : a.length = b.length) (h : ∀ j, j < a.length → nth a j = nth b j) : a = b := by
  apply List.ext_getElem hl
  intro i h1 h2
  have := h i h1
  rwa [nth_eq a i h1, nth_eq b i h2] at this

/-! ### Zero -/

/-! ### Dot -/

end Go.Proofs.Ytphdadibfeencaa

/-
  The document's answer for rows (wellspringref02), in the program: 'Comb'.
-/
set_option maxRecDepth 100000
namespace Go.Proofs.Ytphdadibfeencaa
open Go.RowKit

/-- One place of a combination: the first k rows. -/
def combAt (cs : List Nat) (ll : List (List Nat)) (i : Nat) : Nat → Nat
  | 0 => 0
  | k + 1 => combAt cs ll i k ^^^ Gf.mul (nth cs k) (nth (rowAt ll k) i)

theorem combAt_lt {cs : List Nat} (hc : ∀ x, x ∈ cs → x < 256) (ll : List (List Nat)) (i : Nat) : ∀ k, combAt cs ll i k < 256
  | 0 => show 0 < 256 by decide
  | k + 1 => Gf.xor_lt (combAt_lt hc ll i k) (Gf.mul_lt (nth_lt hc k) _)

/-- The first m places of a combination. -/
def combT (cs : List Nat) (ll : List (List Nat)) (m : Nat) : List Nat := (List.range m).map fun i => combAt cs ll i ll.length

theorem combT_length (cs : List Nat) (ll : List (List Nat)) (m : Nat) : (combT cs ll m).length = m := by simp [combT]
theorem combT_lt {cs : List Nat} (hc : ∀ x, x ∈ cs → x < 256) (ll : List (List Nat)) (m : Nat) : ∀ x, x ∈ combT cs ll m → x < 256 := by
  intro x hx
  obtain ⟨i, _, rfl⟩ := List.mem_map.1 hx
  exact combAt_lt hc ll i _

theorem nth_add (s r : List Nat) (i : Nat) (hs : i < s.length) (hr : i < r.length) : nth (Gf.add s r) i = nth s i ^^^ nth r i := by
  rw [nth_eq _ _ (by simp [Gf.add]; omega), nth_eq s i hs, nth_eq r i hr]
  simp [Gf.add]
theorem nth_scale (c : Nat) (l : List Nat) (i : Nat) (h : i < l.length) : nth (Gf.scale c l) i = Gf.mul c (nth l i) := by
  rw [nth_eq _ _ (by rw [Gf.scale_length]; exact h), nth_eq l i h]
  simp [Gf.scale]

theorem combK_nth {cs : List Nat} {ll : List (List Nat)} (hA : alikeB ll = true) (i : Nat) (hi : i < (rowAt ll 0).length) : ∀ k, k ≤ ll.length → nth (combK cs ll k) i = combAt cs ll i k
  | 0, _ => by
    show nth (zeros _) i = 0
    rw [nth_eq _ _ (by rw [zeros_length]; exact hi)]; simp [zeros]
  | k + 1, hk => by
    have e := alike_at hA (show k < ll.length by omega)
    show nth (Gf.add (combK cs ll k) (Gf.scale (nth cs k) (rowAt ll k))) i = _
    rw [nth_add _ _ _ (by rw [combK_length hA k (by omega)]; exact hi) (by rw [Gf.scale_length, e]; exact hi), combK_nth hA i hi k (by omega), nth_scale _ _ _ (by rw [e]; exact hi)]
    rfl

theorem combK_eq {cs : List Nat} {ll : List (List Nat)} (hA : alikeB ll = true) : combK cs ll ll.length = combT cs ll (rowAt ll 0).length := by
  refine ext_nth (by rw [combK_length hA _ (Nat.le_refl _), combT_length]) fun j hj => ?_
  rw [combK_length hA _ (Nat.le_refl _)] at hj
  rw [combK_nth hA j hj _ (Nat.le_refl _), nth_eq _ _ (by rw [combT_length]; exact hj)]
  simp [combT]

/-- What Comb answers, row by row. -/
theorem combL_eq (cs : List Nat) (ll : List (List Nat)) : combL cs ll = if cs.length = ll.length ∧ alikeB ll = true ∧ ll ≠ [] then combT cs ll (rowAt ll 0).length else [] := by
  unfold combL
  split
  · rename_i h; rw [combK_eq h.2.1]
  · rfl

end Go.Proofs.Ytphdadibfeencaa

/-
  The statements of layer 2 (kern), walked: what they share.
-/
set_option maxRecDepth 100000
namespace Go.Proofs.Ytphdadibfeencaa
open Go.RowKit


theorem combL_lt {cs : List Nat} (hc : ∀ x, x ∈ cs → x < 256) (ll : List (List Nat)) : ∀ x, x ∈ combL cs ll → x < 256 := by
  rw [combL_eq]
  split
  · exact combT_lt hc ll _
  · simp
theorem combL_length (cs : List Nat) (ll : List (List Nat)) : (combL cs ll).length ≤ (rowAt ll 0).length := by
  rw [combL_eq]
  split
  · rw [combT_length]; exact Nat.le_refl _
  · simp
theorem axpyL_lt {c : Nat} {x y : List Nat} (hc : c < 256) (hy : ∀ z, z ∈ y → z < 256) : ∀ z, z ∈ axpyL c x y → z < 256 := by
  unfold axpyL
  split
  · exact Gf.add_lt (Gf.scale_lt hc x) hy
  · simp
theorem axpyL_length (c : Nat) (x y : List Nat) : (axpyL c x y).length ≤ x.length := by
  unfold axpyL
  split
  · rename_i h; rw [Gf.add_length _ _ (by rw [Gf.scale_length]; exact h), Gf.scale_length]; exact Nat.le_refl _
  · simp

theorem scale_b (c : Nat) (v : Value) (l : List Nat) (w : World) (hc : c < 256) (hn : l.length ≤ 10000000) (hB : Bytes w v l) :
    Calls Try.prog 37 #[U8 c, v] w (BytesV w (Gf.scale c l)) :=
  (scale_any c v l w hc (by omega) hB).mono fun _ _ ⟨g, he, _, hO, hb⟩ => ⟨_, he, hO.bytes (Gf.scale_lt hc l) (by rw [Gf.scale_length]; omega), hb⟩
theorem axpy_b (c : Nat) (v0 v1 : Value) (x y : List Nat) (w : World) (hc : c < 256) (hn : x.length ≤ 10000000) (hx : Bytes w v0 x) (hy : Bytes w v1 y) :
    Calls Try.prog 91 #[U8 c, v0, v1] w (BytesE w (axpyL c x y) (axpyE x y)) :=
  (axpy_any c v0 v1 x y w hc (by omega) hx hy).mono fun _ _ ⟨v, he, hF, hb⟩ => ⟨v, he, hF.bytes (axpyL_lt hc hy.lt) (by have := axpyL_length c x y; omega), hb⟩

end Go.Proofs.Ytphdadibfeencaa

/-
  The statements of layer 2 (kern), walked: KernReckons.
-/
set_option maxRecDepth 100000
namespace Go.Proofs.Ytphdadibfeencaa
open Go.RowKit

/-- As many ones. -/
def ones (n : Nat) : List Nat := List.replicate n 1

theorem scale_one {l : List Nat} (h : ∀ x, x ∈ l → x < 256) : Gf.scale 1 l = l := by
  refine ext_nth (Gf.scale_length 1 l) fun j hj => ?_
  rw [Gf.scale_length] at hj
  rw [nth_scale 1 l j hj, Gf.one_mul (nth_lt h j)]

end Go.Proofs.Ytphdadibfeencaa

/-
  The document's answer for rows that lead (wellspringref03), in the program: 'Norm', 'Less', 'Same'.
-/
set_option maxRecDepth 100000
namespace Go.Proofs.Ytphdadibfeencaa
open Go.RowKit

/-- The value is a row (a vector, and data) that reads as these. -/
def IsRow (w : World) (u : Value) (p q : List Nat) : Prop := ∃ v d, u = .agg #[v, d] ∧ Bytes w v p ∧ Bytes w d q

theorem IsRow.below {w w' : World} {u : Value} {p q : List Nat} {B : Nat} (h : IsRow w u p q) (hB : w.heap.size ≤ B) (hb : Below B w w') : IsRow w' u p q := by
  obtain ⟨v, d, e, h1, h2⟩ := h
  exact ⟨v, d, e, h1.below hB hb, h2.below hB hb⟩

/-- The answer is a row; of what was there nothing has turned. -/
def RowsV (w : World) (p q : List Nat) (e : Ending) (w' : World) : Prop := ∃ u, e = .returned u ∧ IsRow w' u p q ∧ Below w.heap.size w w'
/-- The same, and an error's number. -/
def RowsE (w : World) (p q : List Nat) (err : Int) (e : Ending) (w' : World) : Prop := ∃ u, e = .returned (.tuple #[u, I64 err]) ∧ IsRow w' u p q ∧ Below w.heap.size w w'

/-- By what a row is multiplied, to be normed. -/
def normC (p : List Nat) : Nat := if lead p < p.length then Gf.inv (nth p (lead p)) else 1
theorem normC_lt (p : List Nat) : normC p < 256 := by
  unfold normC
  split
  · exact Gf.inv_lt _
  · decide

end Go.Proofs.Ytphdadibfeencaa

/-
  The document's answer for rows that lead (wellspringref03), in the program: 'Less'.
-/
set_option maxRecDepth 100000
namespace Go.Proofs.Ytphdadibfeencaa
open Go.RowKit

theorem add_comm (x y : List Nat) : Gf.add x y = Gf.add y x := by
  unfold Gf.add
  induction x generalizing y with
  | nil => cases y <;> rfl
  | cons a x ih =>
    cases y with
    | nil => rfl
    | cons b y => simp only [List.zipWith_cons_cons]; rw [ih y, Nat.xor_comm]

def lessV (c : Nat) (p q p' q' : List Nat) : List Nat := if p'.length = p.length ∧ q'.length = q.length then Gf.add (Gf.scale c p') p else []
def lessD (c : Nat) (p q p' q' : List Nat) : List Nat := if p'.length = p.length ∧ q'.length = q.length then Gf.add (Gf.scale c q') q else []

end Go.Proofs.Ytphdadibfeencaa

/-
  A slice of bytes to which a call appends many at once; a slice of slices to which it appends one.
-/
set_option maxRecDepth 100000
namespace Go.Proofs.Ytphdadibfeencaa
open Go.RowKit

theorem run_append_none {w : World} (t ty e : TypeId) (i : TypeInfo) (size base c : Nat) (ht : Try.prog.underlying t = some (.slice e)) (hi : Try.prog.info? e = some i)
    (v : Value) (n : Nat) (xs : List Value) (hown : w.ownsRow base e size v n xs) :
    (Builtin.append_ #[t, t] ty #[v, .slice none 0 c]).run Try.prog w = .ok v w := by
  rcases hown.2 with ⟨rfl, rfl⟩ | ⟨g, cap, cur, rfl, _, _, hnc, _⟩
  · simp [Builtin.append_, run_underlying ht, sizeOf, typeInfo, hi, Builtin.lenOf, Builtin.firstCells]
  · simp [Builtin.append_, run_underlying ht, sizeOf, typeInfo, hi, Builtin.lenOf, Builtin.firstCells, hnc, storeCells]

theorem wpList_append_none {w : World} {ops : Array Oper} {rest : List Oper} {o : Oper} {a : Act} {Q : Exit → Act → World → Prop} (hgd : o.guard = none) (s x : Operand) (t : TypeId)
    (ho : o.op = .call { callee := .builtin .append, args := #[s, x], argTypes := #[t, t] })
    (base : Nat) (e : TypeId) (i : TypeInfo) (size c : Nat) (ht : Try.prog.underlying t = some (.slice e)) (hi : Try.prog.info? e = some i)
    (v : Value) (n : Nat) (xs : List Value) (hs : a.eval s = v) (hown : w.ownsRow base e size v n xs) (hx : a.eval x = .slice none 0 c)
    (h : wpList Try.prog ops Q rest (a.put o.dst v) w) : wpList Try.prog ops Q (o :: rest) a w := by
  refine wpList_plain hgd fun K hK => ?_
  have hrun := run_append_none (w := w) t o.type e i size base c ht hi v n xs hown
  unfold Oper.wp
  simp [execOp, ho, resolve, invoke, builtin, hs, hx, hrun, Result.andThen]
  exact hK _ _ h

/-- 'append(out, x...)', of bytes. -/
theorem wpList_append_bytes {ops : Array Oper} {rest : List Oper} {o : Oper} {a : Act} {Q : Exit → Act → World → Prop} {w : World} (hgd : o.guard = none) (s x : Operand) (ho : o.op = .call { callee := .builtin .append, args := #[s, x], argTypes := #[40, 40] })
    (B : Nat) (v u : Value) (l r : List Nat) (hs : a.eval s = v) (hx : a.eval x = u) (hown : Owns w B v l) (hr : Bytes w u r) (hB : B ≤ w.heap.size) (hn : l.length + r.length ≤ 281474976710656 / 4)
    (h : ∀ v' w', Owns w' B v' (l ++ r) → w.grownBy w' v.ownBlock → wpList Try.prog ops Q rest (a.put o.dst v') w') :
    wpList Try.prog ops Q (o :: rest) a w := by
  obtain ⟨i0, hi, hz0, hz1, hz2⟩ := info_parts infoByte
  obtain ⟨a1, c1, rfl, h1, h2, h3, h4⟩ := hr
  cases a1 with
  | none =>
    cases r with
    | nil =>
      refine wpList_append_none hgd s x 40 ho B 5 i0 1 c1 Try.underlying40 hi v l.length (l.map U8) hs hown hx ?_
      exact h v w (by rw [List.append_nil]; exact hown) (grown_refl _ _)
    | cons y r =>
      obtain ⟨b, off, e, _⟩ := h4 (by simp)
      exact absurd e (by simp)
  | some ad =>
    refine wpList_append_own _ hgd s x 40 ho B 5 i0 (.int .u8 0) 1 1 Try.underlying40 hi hz0 hz1 hz2 rfl (by decide) v l.length (l.map U8) hs hown
      ad r.length c1 (r.map U8) hx (by simp) ?_ ?_ ?_ ?_ hB ?_
    · intro j y hj
      have hj' : j < r.length := by
        have := (List.getElem?_eq_some_iff.1 hj).1
        simpa using this
      obtain ⟨b, off, e, _, hc⟩ := h4 (by intro e; rw [e] at hj'; simp at hj')
      simp only [Option.some.injEq] at e
      subst e
      rw [show (⟨b, off, none⟩ : Addr).add j = ⟨b, off + j, none⟩ from by unfold Addr.add; split <;> simp_all, hc j hj', nth_eq r j hj']
      simp [hj'] at hj
      rw [← hj]
    · intro y hy
      obtain ⟨z, _, rfl⟩ := List.mem_map.1 hy
      rfl
    · unfold maxLen; omega
    · omega
    · intro v' w' g1 g2 _
      refine h v' w' ?_ g2
      unfold Owns
      simpa using g1

theorem infoRow : (Try.prog.info? 40).map (fun i => (i.zero, i.size, i.bytes)) = some (some (.slice none 0 0), 1, 24) := by kernel_rfl

theorem Owns.shape {w : World} {B : Nat} {v : Value} {l : List Nat} (h : Owns w B v l) : ∃ a n c, v = .slice a n c := by
  rcases h.2 with ⟨rfl, _⟩ | ⟨g, cap, cur, rfl, _⟩
  · exact ⟨_, _, _, rfl⟩
  · exact ⟨_, _, _, rfl⟩

/-- An empty slice over a new block. -/
theorem Owns.empty (w : World) (B : Nat) (hB : B ≤ w.heap.size) : Owns (w.alloc (.cells #[] 5)) B (.slice (some ⟨w.heap.size, 0, none⟩) 0 0) [] :=
  World.ownsRow_lit w #[] 0 hB (by decide) rfl

end Go.Proofs.Ytphdadibfeencaa

/-
  Steps that leave all bytes alone, whatever else they write; a list without bytes that a call appends to; lists of rows (two slices of bytes each).
-/
set_option maxRecDepth 100000
namespace Go.Proofs.Ytphdadibfeencaa
open Go.RowKit

/-- No byte stands in the block. -/
def Loose (w : World) (k : Nat) : Prop := ∀ (i n : Nat), w.cell? ⟨k, i, none⟩ ≠ some (U8 n)

/-- A step that turns only blocks without bytes. -/
structure Soft (w w' : World) : Prop where
  size : w.heap.size ≤ w'.heap.size
  block : ∀ k, k < w.heap.size → w'.heap[k]? = w.heap[k]? ∨ (Loose w k ∧ Loose w' k)

theorem cell_of_heap {w w' : World} {k i : Nat} (h : w'.heap[k]? = w.heap[k]?) : w'.cell? ⟨k, i, none⟩ = w.cell? ⟨k, i, none⟩ := World.cell?_of_block (w := w) h
theorem Loose.of_heap {w w' : World} {k : Nat} (h : w'.heap[k]? = w.heap[k]?) (hl : Loose w k) : Loose w' k := fun i n => by rw [cell_of_heap h]; exact hl i n
theorem Soft.trans {a b c : World} (h : Soft a b) (k : Soft b c) : Soft a c := by
  refine ⟨Nat.le_trans h.size k.size, fun i hi => ?_⟩
  rcases h.block i hi with h1 | h1
  · rcases k.block i (Nat.lt_of_lt_of_le hi h.size) with h2 | h2
    · exact .inl (h2.trans h1)
    · exact .inr ⟨h2.1.of_heap h1.symm, h2.2⟩
  · rcases k.block i (Nat.lt_of_lt_of_le hi h.size) with h2 | h2
    · exact .inr ⟨h1.1, h1.2.of_heap h2⟩
    · exact .inr ⟨h1.1, h2.2⟩
theorem Soft.of_below {w w' : World} (h : Below w.heap.size w w') : Soft w w' := ⟨h.size, fun k hk => .inl (h.block k hk)⟩
theorem Soft.of_grown {w w' : World} {row : Option Nat} (h : w.grownBy w' row) (hl : ∀ g, row = some g → Loose w g ∧ Loose w' g) : Soft w w' := by
  refine ⟨h.size, fun k hk => ?_⟩
  by_cases hr : some k = row
  · exact .inr (hl k hr.symm)
  · exact .inl (h.block k hk hr)
theorem Loose.of_blk {w : World} {g : Nat} {vs : Array Value} {T : TypeId} (h : Blk w g vs T) (hn : ∀ (i n : Nat), vs[i]? ≠ some (U8 n)) : Loose w g := fun i n => by rw [h.cell]; exact hn i n
theorem Soft.of_box {w w' : World} {g : Nat} {vs vs' : Array Value} {T : TypeId} (hg : w.grownBy w' (some g)) (h : Blk w g vs T) (hn : ∀ (i n : Nat), vs[i]? ≠ some (U8 n)) (h' : Blk w' g vs' T) (hn' : ∀ (i n : Nat), vs'[i]? ≠ some (U8 n)) : Soft w w' :=
  Soft.of_grown hg fun k e => by
    simp only [Option.some.injEq] at e
    subst e; exact ⟨Loose.of_blk h hn, Loose.of_blk h' hn'⟩

theorem Bytes.soft {w w' : World} {v : Value} {l : List Nat} (h : Bytes w v l) (hs : Soft w w') : Bytes w' v l := by
  obtain ⟨a, cap, rfl, h1, h2, h3, h4⟩ := h
  refine ⟨a, cap, rfl, h1, h2, h3, fun hne => ?_⟩
  obtain ⟨b, off, rfl, hlt, hc⟩ := h4 hne
  refine ⟨b, off, rfl, Nat.lt_of_lt_of_le hlt hs.size, fun i hi => ?_⟩
  rcases hs.block b hlt with h5 | h5
  · rw [cell_of_heap h5]; exact hc i hi
  · exact absurd (hc i hi) (h5.1 _ _)
theorem IsRow.soft {w w' : World} {u : Value} {p q : List Nat} (h : IsRow w u p q) (hs : Soft w w') : IsRow w' u p q := by
  obtain ⟨v, d, rfl, hv, hd⟩ := h
  exact ⟨v, d, rfl, hv.soft hs, hd.soft hs⟩

/-! ### Lists without bytes that a call appends to -/

/-- As ownsRow; and no byte stands in its block. -/
def OwnN (w : World) (B : Nat) (T : TypeId) (sz : Nat) (v : Value) (n : Nat) (xs : List Value) : Prop := w.ownsRow B T sz v n xs ∧ ∀ g, v.ownBlock = some g → Loose w g

theorem OwnN.nil (w : World) (B : Nat) (T : TypeId) (sz : Nat) : OwnN w B T sz (.slice none 0 0) 0 [] := ⟨World.ownsRow_nil _ _ _ _, fun g e => by cases e⟩
theorem OwnN.keep {w w' : World} {B : Nat} {T : TypeId} {sz : Nat} {v : Value} {n : Nat} {xs : List Value} {row : Option Nat} (h : OwnN w B T sz v n xs) (hg : w.grownBy w' row) (hne : v.ownBlock = none ∨ v.ownBlock ≠ row) : OwnN w' B T sz v n xs := by
  refine ⟨World.ownsRow.kept h.1 hg hne, fun g e => (h.2 g e).of_heap (hg.block g (World.ownsRow.lt h.1 g e).2 ?_)⟩
  rcases hne with h1 | h1
  · rw [e] at h1; cases h1
  · rw [← e]; exact h1
theorem OwnN.go {w w' : World} {B : Nat} {T : TypeId} {sz : Nat} {v : Value} {n : Nat} {xs : List Value} (h : OwnN w B T sz v n xs) (hb : Below w.heap.size w w') : OwnN w' B T sz v n xs :=
  h.keep (grown_of_below hb none) (by cases hv : v.ownBlock <;> simp)
theorem OwnN.mono {w : World} {B C : Nat} {T : TypeId} {sz : Nat} {v : Value} {n : Nat} {xs : List Value} (h : OwnN w B T sz v n xs) (hC : C ≤ B) : OwnN w C T sz v n xs := by
  refine ⟨⟨h.1.1, ?_⟩, h.2⟩
  rcases h.1.2 with hn | ⟨g, cap, cur, e, hB, rest⟩
  · exact Or.inl hn
  · exact Or.inr ⟨g, cap, cur, e, Nat.le_trans hC hB, rest⟩
theorem OwnN.from {w : World} {B : Nat} {T : TypeId} {sz : Nat} {v : Value} {n : Nat} {xs : List Value} (h : OwnN w B T sz v n xs) : ∀ k, v.ownBlock = some k → B ≤ k := fun k hk => (World.ownsRow.lt h.1 k hk).1

theorem zeroCells_mem {z : Array Value} {n : Nat} {u : Value} (h : u ∈ (Builtin.zeroCells z n).toList) : u ∈ z.toList := by
  unfold Builtin.zeroCells at h
  simp only [Array.toList_map, List.mem_map, Array.toList_range, List.mem_range] at h
  obtain ⟨i, hi, rfl⟩ := h
  have hz : 0 < z.size := by
    rcases Nat.eq_zero_or_pos z.size with h0 | h0
    · rw [h0, Nat.mul_zero] at hi; omega
    · exact h0
  have hm : i % z.size < z.size := Nat.mod_lt _ hz
  rw [getElem!_pos z _ hm]
  exact Array.getElem_mem_toList hm

/-- What an append makes of such a list, and that all bytes stay. -/
theorem run_append_soft {P : Program} (w : World) (B : Nat) (t ty e : TypeId) (i : TypeInfo) (z : Value) (size bytes : Nat) (ht : P.underlying t = some (.slice e)) (hi : P.info? e = some i) (hz : i.zero = some z)
    (hsize : i.size = size) (hby : i.bytes = bytes) (hzs : z.cells.size = size) (hsz : 0 < size)
    (v : Value) (n : Nat) (xs : List Value) (hown : OwnN w B e size v n xs)
    (a : Addr) (m c : Nat) (news : List Value) (hl : news.length = m * size) (hnews : ∀ j u, news[j]? = some u → w.cell? (a.add j) = some u) (h1 : ∀ u ∈ news, u.oneCell' = true)
    (hzn : ∀ u ∈ z.cells.toList, ∀ k : Nat, u ≠ U8 k) (hnn : ∀ u ∈ news, ∀ k : Nat, u ≠ U8 k)
    (h63 : n + m ≤ maxLen) (hbytes : (n + m) * bytes ≤ 140737488355328) (hbase : B ≤ w.heap.size) :
    ∃ v' w', (Builtin.append_ #[t, t] ty #[v, .slice (some a) m c]).run P w = .ok v' w' ∧ OwnN w' B e size v' (n + m) (xs ++ news) ∧ w.grownBy w' v.ownBlock ∧ Soft w w' := by
  obtain ⟨v', w', hr, ho, hg, _⟩ := run_append_own (P := P) w B t ty e i z size bytes ht hi hz hsize hby hzs hsz v n xs hown.1 a m c news hl hnews h1 h63 hbytes hbase
  have key : ∀ g, v'.ownBlock = some g → Loose w' g := by
    subst hsize
    subst hby
    have noX : ∀ {ys : List Value}, (∀ u ∈ ys, ∀ k : Nat, u ≠ U8 k) → ∀ (cs : Array Value), cs.toList = ys → ∀ (W : World) (g : Nat) (fr : Nat × Nat), W.heap[g]? = some (.cells cs e fr) → Loose W g := by
      intro ys hys cs hcs W g fr hW j k hj
      rw [cell_of_row W g j cs e fr hW, ← Array.getElem?_toList, hcs] at hj
      exact hys _ (List.mem_of_getElem? hj) k rfl
    rcases hown.1.2 with ⟨rfl, rfl⟩ | ⟨g0, cap, cur, rfl, hbg, hg0, hnc, hcm, hcs, htake⟩
    · by_cases hm : m = 0
      · subst hm
        have hn : news = [] := List.eq_nil_of_length_eq_zero (by simpa using hl)
        subst hn
        have e2 : (Builtin.append_ #[t, t] ty #[.slice none 0 0, .slice (some a) 0 c]).run P w = .ok (.slice none 0 0) w := by
          simp [Builtin.append_, run_underlying ht, sizeOf, typeInfo, hi, Builtin.lenOf, Builtin.firstCells, loadCells, loadCellsFrom]
        rw [e2] at hr
        simp only [Result.ok.injEq] at hr
        obtain ⟨rfl, rfl⟩ := hr
        intro g hg'; cases hg'
      · have hr2 := run_append_nil (P := P) w t ty e i z ht hi hz a m c news hl hnews (by omega) (by simp only [maxLen] at h63; omega) (by have hb := hbytes; simp only [Nat.zero_add] at hb; omega)
        rw [hr2] at hr
        simp only [Result.ok.injEq] at hr
        obtain ⟨rfl, rfl⟩ := hr
        intro g hg'
        simp only [Value.ownBlock, Option.some.injEq] at hg'
        subst hg'
        refine noX (ys := news ++ (Builtin.zeroCells z.cells (grownCap w m 0 e - m)).toList) ?_ _ (by simp) _ _ (0, 0) (heap_alloc_new w.drew _)
        intro u hu k
        rcases List.mem_append.1 hu with hu | hu
        · exact hnn u hu k
        · exact hzn u (zeroCells_mem hu) k
    · have hlo : Loose w g0 := hown.2 g0 rfl
      have hcur : ∀ u ∈ cur.toList, ∀ k : Nat, u ≠ U8 k := by
        intro u hu k e2
        obtain ⟨j, hj⟩ := List.mem_iff_getElem?.1 hu
        refine hlo j k ?_
        rw [cell_of_row w g0 j cur e (0, 0) hg0, ← Array.getElem?_toList, hj, e2]
      by_cases hroom : n + m ≤ cap
      · have hfit : n * i.size + news.length ≤ cur.size := by rw [hl, hcs, ← Nat.add_mul]; exact Nat.mul_le_mul_right _ hroom
        have hr2 := run_append_room (P := P) w t ty e i ht hi g0 n cap cur hg0 a m c news hl hnews h1 hroom hfit
        rw [hr2] at hr
        simp only [Result.ok.injEq] at hr
        obtain ⟨rfl, rfl⟩ := hr
        intro g hg'
        simp only [Value.ownBlock, Option.some.injEq] at hg'
        subst hg'
        refine noX (ys := cur.toList.take (n * i.size) ++ news ++ cur.toList.drop (n * i.size + news.length)) ?_ _ (by simp) _ _ (0, 0) (setRow_heap w g0 cur _ e _ hg0)
        intro u hu k
        rcases List.mem_append.1 hu with hu | hu
        · rcases List.mem_append.1 hu with hu | hu
          · exact hcur u (List.mem_of_mem_take hu) k
          · exact hnn u hu k
        · exact hcur u (List.mem_of_mem_drop hu) k
      · have holds : ∀ j u, xs[j]? = some u → w.cell? ((⟨g0, 0, none⟩ : Addr).add j) = some u := World.ownsRow.cells hown.1 (g := g0) rfl
        have hr2 := run_append_grow (P := P) w t ty e i z ht hi hz ⟨g0, 0, none⟩ n cap xs hown.1.1 holds a m c news hl hnews (by omega) (by simp only [maxLen] at h63; omega) (growslice_fits (by omega) hbytes)
        rw [hr2] at hr
        simp only [Result.ok.injEq] at hr
        obtain ⟨rfl, rfl⟩ := hr
        intro g hg'
        simp only [Value.ownBlock, Option.some.injEq] at hg'
        subst hg'
        refine noX (ys := xs ++ news ++ (Builtin.zeroCells z.cells (grownCap w (n + m) cap e - (n + m))).toList) ?_ _ (by simp) _ _ (0, 0) (heap_alloc_new w.drew _)
        intro u hu k
        rcases List.mem_append.1 hu with hu | hu
        · rcases List.mem_append.1 hu with hu | hu
          · rw [← htake] at hu; exact hcur u (List.mem_of_mem_take hu) k
          · exact hnn u hu k
        · exact hzn u (zeroCells_mem hu) k
  refine ⟨v', w', hr, ⟨ho, key⟩, hg, Soft.of_grown hg fun g e2 => ⟨hown.2 g e2, ?_⟩⟩
  -- the elder block: where it stays the slice's, it is loose by the above; where it doesn't, it is as it was
  by_cases hv : v'.ownBlock = some g
  · exact key g hv
  · refine (hown.2 g e2).of_heap ?_
    subst hsize
    subst hby
    rcases hown.1.2 with ⟨rfl, rfl⟩ | ⟨g0, cap, cur, rfl, hbg, hg0, hnc, hcm, hcs, htake⟩
    · cases e2
    · simp only [Value.ownBlock, Option.some.injEq] at e2
      subst e2
      by_cases hroom : n + m ≤ cap
      · have hfit : n * i.size + news.length ≤ cur.size := by rw [hl, hcs, ← Nat.add_mul]; exact Nat.mul_le_mul_right _ hroom
        have hr2 := run_append_room (P := P) w t ty e i ht hi g0 n cap cur hg0 a m c news hl hnews h1 hroom hfit
        rw [hr2] at hr
        simp only [Result.ok.injEq] at hr
        exact absurd (by rw [← hr.1]; rfl) hv
      · have holds : ∀ j u, xs[j]? = some u → w.cell? ((⟨g0, 0, none⟩ : Addr).add j) = some u := World.ownsRow.cells hown.1 (g := g0) rfl
        have hr2 := run_append_grow (P := P) w t ty e i z ht hi hz ⟨g0, 0, none⟩ n cap xs hown.1.1 holds a m c news hl hnews (by omega) (by simp only [maxLen] at h63; omega) (growslice_fits (by omega) hbytes)
        rw [hr2] at hr
        simp only [Result.ok.injEq] at hr
        rw [← hr.2]
        exact Below.heap_alloc w.drew _ _ (Array.getElem?_eq_some_iff.1 hg0).1

theorem wpList_append_soft {P : Program} {w : World} {ops : Array Oper} {rest : List Oper} {o : Oper} {a : Act} {Q : Exit → Act → World → Prop} (hgd : o.guard = none) (s x : Operand) (t : TypeId)
    (ho : o.op = .call { callee := .builtin .append, args := #[s, x], argTypes := #[t, t] })
    (B : Nat) (e : TypeId) (i : TypeInfo) (z : Value) (size bytes : Nat) (ht : P.underlying t = some (.slice e)) (hi : P.info? e = some i) (hz : i.zero = some z)
    (hsize : i.size = size) (hby : i.bytes = bytes) (hzs : z.cells.size = size) (hsz : 0 < size)
    (v : Value) (n : Nat) (xs : List Value) (hs : a.eval s = v) (hown : OwnN w B e size v n xs)
    (ad : Addr) (m c : Nat) (news : List Value) (hx : a.eval x = .slice (some ad) m c) (hl : news.length = m * size) (hnews : ∀ j u, news[j]? = some u → w.cell? (ad.add j) = some u) (h1 : ∀ u ∈ news, u.oneCell' = true)
    (hzn : ∀ u ∈ z.cells.toList, ∀ k : Nat, u ≠ U8 k) (hnn : ∀ u ∈ news, ∀ k : Nat, u ≠ U8 k)
    (h63 : n + m ≤ maxLen) (hbytes : (n + m) * bytes ≤ 140737488355328) (hbase : B ≤ w.heap.size)
    (h : ∀ v' w', OwnN w' B e size v' (n + m) (xs ++ news) → w.grownBy w' v.ownBlock → Soft w w' → wpList P ops Q rest (a.put o.dst v') w') : wpList P ops Q (o :: rest) a w := by
  refine wpList_plain hgd fun K hK => ?_
  obtain ⟨v', w', hrun, h2, h3, h4⟩ := run_append_soft (P := P) w B t o.type e i z size bytes ht hi hz hsize hby hzs hsz v n xs hown ad m c news hl hnews h1 hzn hnn h63 hbytes hbase
  unfold Oper.wp
  simp only [execOp, ho, resolve, invoke, builtin, Sem.run_bind, Sem.run_pure, Result.andThen_ok, List.map_toArray, List.map_cons, List.map_nil, hs, hx, hrun]
  exact hK _ _ (h v' w' h2 h3 h4)

end Go.Proofs.Ytphdadibfeencaa
