/- Texts of one seat, laid together: Blk, KernE, RefTwo, RefThree, LawTwo, LawTwoB, LawTwoC, RefRow. -/
import Derived.Test.YtphdadibfeencaaSolveJudgesQ1
import Derived.Test.YtphdadibfeencaaSolveJudgesQ2
import Derived.Deep.RegionHeld3
import Derived.Deep.QuietTactic
import Derived.BigQuiet

/-
  A block of whatever values (a struct's box, a variable, a result): what it holds, and that it stays where others are written.
-/
set_option maxRecDepth 100000
namespace Go.Proofs.Ytphdadibfeencaa
open Go.RowKit

/-- Block g holds these values, of that type, and isn't frozen. -/
def Blk (w : World) (g : Nat) (vs : Array Value) (T : TypeId) : Prop := w.heap[g]? = some (.cells vs T)

theorem Blk.lt {w : World} {g : Nat} {vs : Array Value} {T : TypeId} (h : Blk w g vs T) : g < w.heap.size := (Array.getElem?_eq_some_iff.1 h).1
theorem Blk.cell {w : World} {g : Nat} {vs : Array Value} {T : TypeId} (h : Blk w g vs T) (k : Nat) : w.cell? ⟨g, k, none⟩ = vs[k]? := cell_of_row w g k _ _ (0, 0) h
theorem Blk.free {w : World} {g : Nat} {vs : Array Value} {T : TypeId} (h : Blk w g vs T) (k : Nat) : w.frozen? ⟨g, k, none⟩ = false := frozen_of_row w g k _ _ h
theorem Blk.new (w : World) (vs : Array Value) (T : TypeId) (g : Nat) (hg : g = w.heap.size) : Blk (w.alloc (.cells vs T)) g vs T := by subst hg; exact heap_alloc_new w _
theorem Blk.alloc {w : World} {g : Nat} {vs : Array Value} {T : TypeId} (h : Blk w g vs T) (o : Obj) : Blk (w.alloc o) g vs T := by
  unfold Blk; rw [Below.heap_alloc w o g h.lt]; exact h
theorem Blk.below {w w' : World} {g B : Nat} {vs : Array Value} {T : TypeId} (h : Blk w g vs T) (hB : g < B) (hb : Below B w w') : Blk w' g vs T := by
  unfold Blk; rw [hb.block g hB]; exact h
theorem Blk.same {w w' : World} {g : Nat} {vs : Array Value} {T : TypeId} (h : Blk w g vs T) (hb : Below w.heap.size w w') : Blk w' g vs T := h.below h.lt hb
theorem Blk.grown {w w' : World} {g : Nat} {row : Option Nat} {vs : Array Value} {T : TypeId} (h : Blk w g vs T) (hg : w.grownBy w' row) (hne : some g ≠ row) : Blk w' g vs T := by
  unfold Blk; rw [hg.block g h.lt hne]; exact h

theorem Blk.set {w : World} {g : Nat} {vs : Array Value} {T : TypeId} (h : Blk w g vs T) (k : Nat) (v : Value) : Blk (w.setCell ⟨g, k, none⟩ v) g (vs.setIfInBounds k v) T := by
  unfold Blk World.setCell
  have e : w.heap[g]? = some (.cells vs T) := h
  simp [Array.getElem?_modify, e]

/-- Both cells of a struct of two, stored. -/
theorem Blk.set2 {w : World} {g : Nat} {x y : Value} {T : TypeId} (h : Blk w g #[x, y] T) (u v : Value) : Blk ((w.setCell ⟨g, 0, none⟩ u).setCell ⟨g, 1, none⟩ v) g #[u, v] T := (h.set 0 u).set 1 v

/-- Bytes lie elsewhere than a block that holds none. -/
theorem Bytes.other {w w' : World} {v : Value} {l : List Nat} {g : Nat} {vs : Array Value} {T : TypeId} (h : Bytes w v l) (k : Blk w g vs T) (hno : ∀ (i x : Nat), vs[i]? ≠ some (U8 x)) (hg : w.grownBy w' (some g)) : Bytes w' v l := by
  have h0 := h
  obtain ⟨a, cap, rfl, h1, h2, h3, h4⟩ := h
  by_cases hl : l = []
  · subst hl
    exact ⟨a, cap, rfl, h1, h2, h3, fun e => absurd rfl e⟩
  · obtain ⟨b, off, rfl, hlt, hc⟩ := h4 hl
    refine h0.grown hg (Or.inr ?_)
    simp only [Value.ownBlock, ne_eq, Option.some.injEq]
    intro e
    subst e
    have hpos : 0 < l.length := by cases l with
      | nil => exact absurd rfl hl
      | cons => simp
    have h5 := hc 0 hpos
    rw [k.cell] at h5
    exact hno _ _ h5

theorem no_bytes2 (x y : Value) (hx : ∀ n : Nat, x ≠ U8 n) (hy : ∀ n : Nat, y ≠ U8 n) : ∀ (i n : Nat), (#[x, y] : Array Value)[i]? ≠ some (U8 n)
  | 0, n => fun e => hx n (Option.some.inj e)
  | 1, n => fun e => hy n (Option.some.inj e)
  | i + 2, n => fun e => by simp at e

theorem cell_keep {w w' : World} {p : Addr} {v : Value} (h : w.cell? p = some v) (hb : Below w.heap.size w w') : w'.cell? p = some v := by
  rw [hb.cell (World.block_lt_of_cell? w _ h)]; exact h

/-! ### What is known, carried over a call that turns nothing of what was there -/

theorem Bytes.go {w w' : World} {v : Value} {l : List Nat} (h : Bytes w v l) (hb : Below w.heap.size w w') : Bytes w' v l := h.below (Nat.le_refl _) hb
theorem Own.go {w w' : World} {g : Nat} {l : List Nat} (h : Own w g l) (hb : Below w.heap.size w w') : Own w' g l := h.below h.lt hb
theorem Blk.go {w w' : World} {g : Nat} {vs : Array Value} {T : TypeId} (h : Blk w g vs T) (hb : Below w.heap.size w w') : Blk w' g vs T := h.same hb

theorem Blk.two {w : World} {g : Nat} {x y : Value} {T : TypeId} (h : Blk w g #[x, y] T) : w.cell? ⟨g, 0, none⟩ = some x ∧ w.cell? ⟨g, 1, none⟩ = some y := ⟨h.cell 0, h.cell 1⟩
theorem Blk.fre2 {w : World} {g : Nat} {vs : Array Value} {T : TypeId} (h : Blk w g vs T) : w.frozen? ⟨g, 0, none⟩ = false ∧ w.frozen? ⟨g, 1, none⟩ = false := ⟨h.free 0, h.free 1⟩

/-- New blocks, one behind the other. -/
theorem blocks1 (w : World) (c1 : Array Value) (T1 : TypeId) : Below w.heap.size w (w.alloc (.cells c1 T1)) ∧ Blk (w.alloc (.cells c1 T1)) w.heap.size c1 T1 ∧ (w.alloc (.cells c1 T1)).heap.size = w.heap.size + 1 :=
  ⟨(Below.refl _ _).alloc (Nat.le_refl _) _, Blk.new w c1 T1 _ rfl, by simp⟩
theorem blocks2 (w : World) (c1 : Array Value) (T1 : TypeId) (c2 : Array Value) (T2 : TypeId) : Below w.heap.size w ((w.alloc (.cells c1 T1)).alloc (.cells c2 T2)) ∧ Blk ((w.alloc (.cells c1 T1)).alloc (.cells c2 T2)) w.heap.size c1 T1 ∧
    Blk ((w.alloc (.cells c1 T1)).alloc (.cells c2 T2)) (w.heap.size + 1) c2 T2 ∧ ((w.alloc (.cells c1 T1)).alloc (.cells c2 T2)).heap.size = w.heap.size + 1 + 1 := by
  obtain ⟨b, k1, s⟩ := blocks1 w c1 T1
  obtain ⟨b', k2, s'⟩ := blocks1 (w.alloc (.cells c1 T1)) c2 T2
  rw [s] at k2 s'
  exact ⟨b.trans (b'.mono b.size), k1.alloc _, k2, s'⟩
theorem blocks3 (w : World) (c1 : Array Value) (T1 : TypeId) (c2 : Array Value) (T2 : TypeId) (c3 : Array Value) (T3 : TypeId) : Below w.heap.size w (((w.alloc (.cells c1 T1)).alloc (.cells c2 T2)).alloc (.cells c3 T3)) ∧ Blk (((w.alloc (.cells c1 T1)).alloc (.cells c2 T2)).alloc (.cells c3 T3)) w.heap.size c1 T1 ∧
    Blk (((w.alloc (.cells c1 T1)).alloc (.cells c2 T2)).alloc (.cells c3 T3)) (w.heap.size + 1) c2 T2 ∧ Blk (((w.alloc (.cells c1 T1)).alloc (.cells c2 T2)).alloc (.cells c3 T3)) (w.heap.size + 1 + 1) c3 T3 ∧
    (((w.alloc (.cells c1 T1)).alloc (.cells c2 T2)).alloc (.cells c3 T3)).heap.size = w.heap.size + 1 + 1 + 1 := by
  obtain ⟨b, k1, k2, s⟩ := blocks2 w c1 T1 c2 T2
  obtain ⟨b', k3, s'⟩ := blocks1 ((w.alloc (.cells c1 T1)).alloc (.cells c2 T2)) c3 T3
  rw [s] at k3 s'
  exact ⟨b.trans (b'.mono b.size), k1.alloc _, k2.alloc _, k3, s'⟩

/-- Both cells of a result of two stored: what they hold then, and that all else stays. -/
theorem store2 {w0 w : World} {g : Nat} {a b : Value} {T : TypeId} (hK : Blk w g #[a, b] T) (hg : w0.heap.size ≤ g) (hB : Below w0.heap.size w0 w) (ha : ∀ n : Nat, a ≠ U8 n) (hb : ∀ n : Nat, b ≠ U8 n) (x y : Value) :
    ((w.setCell ⟨g, 0, none⟩ x).setCell ⟨g, 1, none⟩ y).cell? ⟨g, 0, none⟩ = some x ∧ ((w.setCell ⟨g, 0, none⟩ x).setCell ⟨g, 1, none⟩ y).cell? ⟨g, 1, none⟩ = some y ∧
    Below w0.heap.size w0 ((w.setCell ⟨g, 0, none⟩ x).setCell ⟨g, 1, none⟩ y) ∧ ∀ v l, Bytes w v l → Bytes ((w.setCell ⟨g, 0, none⟩ x).setCell ⟨g, 1, none⟩ y) v l := by
  have h5 := hK.set2 x y
  refine ⟨h5.cell 0, h5.cell 1, (hB.setCell hg _).setCell hg _, fun v l h => ?_⟩
  exact h.other hK (no_bytes2 a b ha hb) (grown_trans (grown_setCell w ⟨g, 0, none⟩ x) (grown_setCell _ ⟨g, 1, none⟩ y))

/-- A call in a region that only reads. -/
theorem quiet_eq {f : FuncId} {args : Array Value} {w : World} {n : Nat} {v : Value} (h : Calls Try.prog f args (w.drewN n) fun e w' => e = .returned v ∧ w.drewN n = w') :
    Calls Try.prog f args (w.drewN n) fun e w'' => e = .returned v ∧ ∃ m, w'' = w.drewN m := h.mono fun _ _ ⟨he, hm⟩ => ⟨he, n, hm.symm⟩
theorem Bytes.drewN {w : World} {v : Value} {l : List Nat} (h : Bytes w v l) (n : Nat) : Bytes (w.drewN n) v l := h
theorem below_drews (w : World) (n : Nat) : Below w.heap.size w (w.drewN n) := by
  induction n with
  | zero => exact Below.refl _ _
  | succ n ih => exact ih.drew

theorem slice_ne (a : Option Addr) (n c : Nat) : ∀ k : Nat, Value.slice a n c ≠ U8 k := fun k e => by cases e

end Go.Proofs.Ytphdadibfeencaa

/-
  Many bytes at once (layer 2) in the program: 'Dot', 'Zero'.
-/
set_option maxRecDepth 100000
namespace Go.Proofs.Ytphdadibfeencaa
open Go.RowKit

namespace Gf
end Gf

/-! ### Zero -/

set_option maxHeartbeats 400000 in
theorem zero1_any (x : Nat) (w : World) :
    Calls Try.prog 77 #[U8 x] w fun e w' => e = .returned (.bool ((x : Int) != 0)) ∧ w = w' := by
  go_enter Try.func77, Try.ntmps77
  go_wp2_with fail
  go_ret
  exact ⟨rfl, rfl⟩

/-- Are all 0? -/
def zeroB (l : List Nat) : Bool := l.all fun x => x == 0

theorem zeroB_eq (l : List Nat) : (!zeroB l) = decide (∃ i, i < l.length ∧ nth l i ≠ 0) := by
  rw [Bool.eq_iff_iff]
  simp only [zeroB, Bool.not_eq_true', List.all_eq_false, beq_iff_eq, decide_eq_true_eq]
  constructor
  · rintro ⟨x, hx, hne⟩
    obtain ⟨i, hi, rfl⟩ := List.getElem_of_mem hx
    exact ⟨i, hi, by rw [nth_eq l i hi]; exact hne⟩
  · rintro ⟨i, hi, hne⟩
    exact ⟨l[i], List.getElem_mem hi, by rw [nth_eq l i hi] at hne; exact hne⟩

set_option maxHeartbeats 400000 in
theorem idxZero_empty (f : Value) (a : Option Addr) (cap : Nat) (w : World) :
    Calls Try.prog 92 #[.slice a 0 cap, f] w (Found false w) := by
  go_enter Try.func92, Try.ntmps92
  go_wp2
  refine wp_loop_rounds 1 ?_
  rw [rounds_succ]
  go_wp2
  go_ret
  exact ⟨-1, rfl, rfl, rfl⟩

set_option maxHeartbeats 400000 in
theorem idxZero_some (b off cap : Nat) (l : List Nat) (w : World) (hB : Bytes w (.slice (some ⟨b, off, none⟩) l.length cap) l) :
    Calls Try.prog 92 #[.slice (some ⟨b, off, none⟩) l.length cap, .func (Fn.func 77) #[] #[]] w (Found (!zeroB l) w) := by
  have hcap : l.length ≤ 9223372036854775807 := by obtain ⟨_, _, _, h1, h2, _⟩ := hB; omega
  have HB := Lib.hid hB
  have HA := Lib.hid (zeroB_eq l)
  clear hB
  go_enter Try.func92, Try.ntmps92
  go_wp2
  go_loop [5, 8] (fun _ i => ∃ k : Nat, k ≤ l.length ∧ i = .int .i64 k ∧ ∀ j, j < k → nth l j = 0) (fun _ i => l.length - (intOf i).toNat)
  case atStart => exact ⟨0, by omega, rfl, fun j hj => by omega⟩
  case round =>
    obtain ⟨k, hk, rfl, hno⟩ := hrel
    have HN := Lib.hid hno
    clear hno
    by_cases hlt : k < l.length
    · have hu := HB.out.cell k hlt
      by_cases hq : nth l k = 0
      · have hb : ((nth l k : Int) != 0) = false := by rw [hq]; rfl
        have HQ := Lib.hid hq
        clear hq
        go_wp2_with fail
        refine (zero1_any _ _).mono ?_
        rintro e w' ⟨rfl, rfl⟩
        rw [hb]
        go_wp2_with fail
        go_round
        case rel => exact ⟨k + 1, by omega, by go_num, fun j hj => by
          by_cases h : j = k
          · rw [h]; exact HQ.out
          · exact HN.out j (by omega)⟩
        case measure => simp [intOf]; omega
      · have hb : ((nth l k : Int) != 0) = true := by rw [bne_iff_ne]; omega
        have HF : Hid ((!zeroB l) = true) := Lib.hid (by rw [HA.out, decide_eq_true_eq]; exact ⟨k, hlt, hq⟩)
        clear hq
        go_wp2_with fail
        refine (zero1_any _ _).mono ?_
        rintro e w' ⟨rfl, rfl⟩
        rw [hb]
        go_wp2_with fail
        go_ret
        exact ⟨k, rfl, by rw [HF.out]; simp, rfl⟩
    · have HF : Hid ((!zeroB l) = false) := Lib.hid (by
        rw [HA.out, decide_eq_false_iff_not]
        rintro ⟨i, hi, hne⟩
        exact hne (HN.out i (by omega)))
      go_wp2_with fail
      go_ret
      exact ⟨-1, rfl, by rw [HF.out]; decide, rfl⟩

set_option maxHeartbeats 400000 in
theorem hasZero_any (v f : Value) (t : Bool) (w : World) (h : Calls Try.prog 92 #[v, f] w (Found t w)) :
    Calls Try.prog 76 #[v, f] w fun e w' => e = .returned (.bool t) ∧ w = w' := by
  have H := Lib.hid h
  clear h
  go_enter Try.func76, Try.ntmps76
  go_wp2_with fail
  refine H.out.mono ?_
  rintro e w' ⟨r, rfl, ht, rfl⟩
  go_wp2_with fail
  go_ret
  exact ⟨rfl, rfl⟩

set_option maxHeartbeats 400000 in
theorem zero_of (v : Value) (t : Bool) (w : World) (h : Calls Try.prog 92 #[v, .func (Fn.func 77) #[] #[]] w (Found (!t) w)) :
    Calls Try.prog 63 #[v] w fun e w' => e = .returned (.bool t) ∧ w = w' := by
  have hmf : ∀ (fn : Fn) (first cap : Array Value) (w : World), (Instr.makeFunc fn first cap).run Try.prog w = .ok (.func fn first cap) w := fun _ _ _ _ => rfl
  have H := Lib.hid (hasZero_any _ _ _ _ h)
  clear h
  go_enter Try.func63, Try.ntmps63
  go_wp2_with fail
  refine H.out.mono ?_
  rintro e w' ⟨rfl, rfl⟩
  go_wp2_with fail
  go_ret
  exact ⟨by simp, rfl⟩

theorem zero_any (v : Value) (l : List Nat) (w : World) (hB : Bytes w v l) :
    Calls Try.prog 63 #[v] w fun e w' => e = .returned (.bool (zeroB l)) ∧ w = w' := by
  have hB0 := hB
  obtain ⟨a, cap, rfl, _, _, _, h4⟩ := hB
  cases l with
  | nil => exact zero_of _ true w (idxZero_empty _ a cap w)
  | cons x l =>
    obtain ⟨b, off, rfl, _, _⟩ := h4 (by simp)
    exact zero_of _ _ w (idxZero_some b off cap _ w hB0)

end Go.Proofs.Ytphdadibfeencaa

/-
  The document's answer for rows (wellspringref02), in the program: 'Scale', 'Same', 'Zero', 'Dot'.
-/
set_option maxRecDepth 100000
namespace Go.Proofs.Ytphdadibfeencaa
open Go.RowKit

theorem refmul_q (a b : Nat) (w : World) (ha : a < 256) :
    Calls Try.prog 96 #[U8 a, U8 b] w fun e w' => e = .returned (U8 (Gf.mul a b)) ∧ w' = w := (refmul_any a b w ha).mono fun _ _ h => ⟨h.1, h.2.symm⟩

set_option maxHeartbeats 400000 in
theorem refscale_empty (c : Nat) (a : Option Addr) (cap : Nat) (w : World) :
    Calls Try.prog 88 #[U8 c, .slice a 0 cap] w (GrownRow w []) := by
  go_enter Try.func88, Try.ntmps88
  go_wp2_with fail
  refine wp_loop_rounds 1 ?_
  rw [rounds_succ]
  go_wp2_with fail
  go_ret
  exact ⟨_, rfl, Owns.nil _ _, Below.refl _ _⟩

set_option maxHeartbeats 400000 in
theorem refscale_some (c b off cap : Nat) (l : List Nat) (w : World) (hc : c < 256) (hn : l.length ≤ 70000000000000) (hB : Bytes w (.slice (some ⟨b, off, none⟩) l.length cap) l) :
    Calls Try.prog 88 #[U8 c, .slice (some ⟨b, off, none⟩) l.length cap] w (GrownRow w (Gf.scale c l)) := by
  have HB := Lib.hid hB
  clear hB
  go_enter Try.func88, Try.ntmps88
  go_wp2_with fail
  go_loopw [5, 6] (fun v i wr => ∃ k : Nat, k ≤ l.length ∧ i = .int .i64 k ∧ Owns wr w.heap.size v (Gf.scale c (l.take k)) ∧ Below w.heap.size w wr) (fun _ i _ => l.length - (intOf i).toNat)
  case atStart => exact ⟨0, by omega, rfl, Owns.nil _ _, Below.refl _ _⟩
  case round =>
    obtain ⟨k, hk, rfl, hown, hbel⟩ := hrel
    have HO := Lib.hid hown
    clear hown
    by_cases hlt : k < l.length
    · have hBr := HB.out.below (Nat.le_refl _) hbel
      have hcell := hBr.cell k hlt
      have x1 := nth_lt hBr.lt k
      clear hBr
      go_wp2_with fail
      refine (refmul_any _ _ _ hc).mono ?_
      rintro e w1 ⟨rfl, rfl⟩
      have hz := hbel.size
      go_wp2_with (at_builtin; refine wpList_append_byte rfl (.tmp 13) (.tmp 20) rfl w.heap.size wr.heap.size _ _ (Gf.mul c (nth l k)) 5 rfl rfl rfl HO.out ?c1 ?c2 ?_)
      case c1 => exact hz
      case c2 => rw [Gf.scale_length]; simp; omega
      intro v' w2 hown2 hgr
      have HO2 := Lib.hid hown2
      have HG := Lib.hid (hbel.grown hgr hz HO.out.from)
      clear hown2 hgr
      go_wp2_with fail
      go_roundw
      case rel => exact ⟨k + 1, by omega, by go_num, by rw [Gf.scale_take c l k hlt]; exact HO2.out, HG.out⟩
      case measure => simp [intOf]; omega
    · have HT : Hid (l.take k = l) := Lib.hid (List.take_of_length_le (by omega))
      go_wp2_with fail
      go_ret
      have h := HO.out
      rw [HT.out] at h
      exact ⟨_, rfl, h, hbel⟩

theorem refscale_any (c : Nat) (v : Value) (l : List Nat) (w : World) (hc : c < 256) (hn : l.length ≤ 70000000000000) (hB : Bytes w v l) :
    Calls Try.prog 88 #[U8 c, v] w (GrownRow w (Gf.scale c l)) := by
  have hB0 := hB
  obtain ⟨a, cap, rfl, h1, h2, h3, h4⟩ := hB
  cases l with
  | nil => exact refscale_empty c a cap w
  | cons x l =>
    obtain ⟨b, off, rfl, _, _⟩ := h4 (by simp)
    exact refscale_some c b off cap _ w hc hn hB0

/-! ### Same -/

theorem ext_nth {a b : List Nat} (hl : a.length = b.length) (h : ∀ j, j < a.length → nth a j = nth b j) : a = b := by
  apply List.ext_getElem hl
  intro i h1 h2
  have := h i h1
  rwa [nth_eq a i h1, nth_eq b i h2] at this

/-! ### Zero -/

/-! ### Dot -/

end Go.Proofs.Ytphdadibfeencaa

/-
  The document's answer for rows (wellspringref02), in the program: 'Comb'.
-/
set_option maxRecDepth 100000
namespace Go.Proofs.Ytphdadibfeencaa
open Go.RowKit

/-- The answer is a slice that the call grew itself, or none, and an error's number. -/
def GrownE (w : World) (l : List Nat) (err : Int) (e : Ending) (w' : World) : Prop := ∃ v, e = .returned (.tuple #[v, I64 err]) ∧ Owns w' w.heap.size v l ∧ Below w.heap.size w w'

/-- One place of a combination: the first k rows. -/
def combAt (cs : List Nat) (ll : List (List Nat)) (i : Nat) : Nat → Nat
  | 0 => 0
  | k + 1 => combAt cs ll i k ^^^ Gf.mul (nth cs k) (nth (rowAt ll k) i)

theorem combAt_lt {cs : List Nat} (hc : ∀ x, x ∈ cs → x < 256) (ll : List (List Nat)) (i : Nat) : ∀ k, combAt cs ll i k < 256
  | 0 => show 0 < 256 by decide
  | k + 1 => Gf.xor_lt (combAt_lt hc ll i k) (Gf.mul_lt (nth_lt hc k) _)

/-- The first m places of a combination. -/
def combT (cs : List Nat) (ll : List (List Nat)) (m : Nat) : List Nat := (List.range m).map fun i => combAt cs ll i ll.length

theorem combT_length (cs : List Nat) (ll : List (List Nat)) (m : Nat) : (combT cs ll m).length = m := by simp [combT]
theorem combT_succ (cs : List Nat) (ll : List (List Nat)) (m : Nat) : combT cs ll (m + 1) = combT cs ll m ++ [combAt cs ll m ll.length] := by simp [combT, List.range_succ]
theorem combT_lt {cs : List Nat} (hc : ∀ x, x ∈ cs → x < 256) (ll : List (List Nat)) (m : Nat) : ∀ x, x ∈ combT cs ll m → x < 256 := by
  intro x hx
  obtain ⟨i, _, rfl⟩ := List.mem_map.1 hx
  exact combAt_lt hc ll i _

theorem nth_add (s r : List Nat) (i : Nat) (hs : i < s.length) (hr : i < r.length) : nth (Gf.add s r) i = nth s i ^^^ nth r i := by
  rw [nth_eq _ _ (by simp [Gf.add]; omega), nth_eq s i hs, nth_eq r i hr]
  simp [Gf.add]
theorem nth_scale (c : Nat) (l : List Nat) (i : Nat) (h : i < l.length) : nth (Gf.scale c l) i = Gf.mul c (nth l i) := by
  rw [nth_eq _ _ (by rw [Gf.scale_length]; exact h), nth_eq l i h]
  simp [Gf.scale]

theorem combK_nth {cs : List Nat} {ll : List (List Nat)} (hA : alikeB ll = true) (i : Nat) (hi : i < (rowAt ll 0).length) : ∀ k, k ≤ ll.length → nth (combK cs ll k) i = combAt cs ll i k
  | 0, _ => by
    show nth (zeros _) i = 0
    rw [nth_eq _ _ (by rw [zeros_length]; exact hi)]; simp [zeros]
  | k + 1, hk => by
    have e := alike_at hA (show k < ll.length by omega)
    show nth (Gf.add (combK cs ll k) (Gf.scale (nth cs k) (rowAt ll k))) i = _
    rw [nth_add _ _ _ (by rw [combK_length hA k (by omega)]; exact hi) (by rw [Gf.scale_length, e]; exact hi), combK_nth hA i hi k (by omega), nth_scale _ _ _ (by rw [e]; exact hi)]
    rfl

theorem combK_eq {cs : List Nat} {ll : List (List Nat)} (hA : alikeB ll = true) : combK cs ll ll.length = combT cs ll (rowAt ll 0).length := by
  refine ext_nth (by rw [combK_length hA _ (Nat.le_refl _), combT_length]) fun j hj => ?_
  rw [combK_length hA _ (Nat.le_refl _)] at hj
  rw [combK_nth hA j hj _ (Nat.le_refl _), nth_eq _ _ (by rw [combT_length]; exact hj)]
  simp [combT]

set_option maxHeartbeats 400000 in
theorem refcomb_many (a0 a1 : Option Addr) (n0 n1 c0 c1 : Nat) (w : World) (hne : n0 ≠ n1) :
    Calls Try.prog 97 #[.slice a0 n0 c0, .slice a1 n1 c1] w (GrownE w [] 4) := by
  have hb : ((n0 : Int) != (n1 : Int)) = true := by rw [bne_iff_ne]; omega
  clear hne
  go_enter Try.func97, Try.ntmps97
  go_wp2_with fail
  go_ret2
  exact ⟨_, rfl, Owns.nil _ _, Below.refl _ _⟩

set_option maxHeartbeats 400000 in
theorem refcomb_empty (a0 a1 : Option Addr) (c0 c1 : Nat) (w : World) :
    Calls Try.prog 97 #[.slice a0 0 c0, .slice a1 0 c1] w (GrownE w [] 0) := by
  go_enter Try.func97, Try.ntmps97
  go_wp2_with fail
  go_ret2
  exact ⟨_, rfl, Owns.nil _ _, Below.refl _ _⟩

set_option maxHeartbeats 1000000 in
theorem refcomb_unlike (a0 : Option Addr) (n c0 b off cap : Nat) (ll : List (List Nat)) (w : World) (hl : n = ll.length) (hn : 1 ≤ ll.length) (hR : IsRows w (.slice (some ⟨b, off, none⟩) ll.length cap) ll) (hA : alikeB ll = false) :
    Calls Try.prog 97 #[.slice a0 n c0, .slice (some ⟨b, off, none⟩) ll.length cap] w (GrownE w [] 4) := by
  have hb : ((n : Int) != (ll.length : Int)) = false := by rw [hl]; simp
  have hb1 : ((ll.length : Int) == 0) = false := beq_eq_false_iff_ne.2 (by omega)
  have hcap : ll.length ≤ 9223372036854775807 := by obtain ⟨_, _, _, h1, h2, _⟩ := hR; omega
  have HX := Lib.hid (alikeB_eq ll)
  have HA := Lib.hid hA
  have HR := Lib.hid hR
  clear hR hA hl
  go_enter Try.func97, Try.ntmps97
  go_wp2_with fail
  go_loopw [6] (fun i wr => ∃ k : Nat, k ≤ ll.length ∧ i = .int .i64 k ∧ (∀ j, j < k → (rowAt ll j).length = (rowAt ll 0).length) ∧ Below w.heap.size w wr) (fun i _ => ll.length - (intOf i).toNat)
  case atStart => exact ⟨0, by omega, rfl, fun j hj => by omega, Below.refl _ _⟩
  case round =>
    obtain ⟨k, hk, rfl, hno, hbel⟩ := hrel
    have HN := Lib.hid hno
    clear hno
    by_cases hlt : k < ll.length
    · have hRr := HR.out.below (Nat.le_refl _) hbel
      obtain ⟨u0, hu0, hB0⟩ := hRr.cell 0 (by omega)
      obtain ⟨a0', c0', rfl, _⟩ := hB0
      rw [Nat.add_zero] at hu0
      obtain ⟨u, hu, hB⟩ := hRr.cell k hlt
      obtain ⟨a1, c1, rfl, _⟩ := hB
      have k0 : (0 : Int) ≤ (k : Int) := Int.natCast_nonneg _
      have k1 : (k : Int) < (ll.length : Int) := by omega
      have k2 : (0 : Int) < (ll.length : Int) := by omega
      clear hRr
      by_cases hq : (rowAt ll k).length = (rowAt ll 0).length
      · have hb2 : (((rowAt ll k).length : Int) != ((rowAt ll 0).length : Int)) = false := by rw [hq]; simp
        have HQ := Lib.hid hq
        clear hq
        go_wp2_with fail
        go_quiet (fail)
        go_wp2_with fail
        refine ⟨⟨k + 1, by omega, by go_num, fun j hj => ?_, below_drewN hbel _⟩, by simp [intOf]; omega⟩
        by_cases h : j = k
        · rw [h]; exact HQ.out
        · exact HN.out j (by omega)
      · have hb2 : (((rowAt ll k).length : Int) != ((rowAt ll 0).length : Int)) = true := by rw [bne_iff_ne]; omega
        clear hq
        go_wp2_with fail
        go_quiet (fail)
        go_wp2_with fail
        go_ret2
        exact ⟨_, rfl, Owns.nil _ _, below_drewN hbel _⟩
    · exfalso
      have h := HX.out
      rw [HA.out] at h
      obtain ⟨i, hi, hne⟩ := of_decide_eq_true h.symm
      exact hne (HN.out i (by omega))

set_option maxHeartbeats 2000000 in
theorem refcomb_some (b0 off0 c0 b off cap : Nat) (cs : List Nat) (ll : List (List Nat)) (w : World) (hl : cs.length = ll.length) (hn : 1 ≤ ll.length) (hm : (rowAt ll 0).length ≤ 70000000000000) (hC : Bytes w (.slice (some ⟨b0, off0, none⟩) cs.length c0) cs) (hR : IsRows w (.slice (some ⟨b, off, none⟩) ll.length cap) ll) (hA : alikeB ll = true) :
    Calls Try.prog 97 #[.slice (some ⟨b0, off0, none⟩) cs.length c0, .slice (some ⟨b, off, none⟩) ll.length cap] w (GrownE w (combT cs ll (rowAt ll 0).length) 0) := by
  have hb : ((cs.length : Int) != (ll.length : Int)) = false := by rw [hl]; simp
  have hb1 : ((ll.length : Int) == 0) = false := beq_eq_false_iff_ne.2 (by omega)
  have hcap : ll.length ≤ 9223372036854775807 := by obtain ⟨_, _, _, h1, h2, _⟩ := hR; omega
  have hle : ll.length ≤ cs.length := by omega
  have HA := Lib.hid hA
  have HR := Lib.hid hR
  have HC := Lib.hid hC
  have HCL := Lib.hid hC.lt
  have k2 : (0 : Int) < (ll.length : Int) := by omega
  clear hR hA hl hC
  go_enter Try.func97, Try.ntmps97
  go_wp2_with fail
  go_loopw [6] (fun i wr => ∃ k : Nat, k ≤ ll.length ∧ i = .int .i64 k ∧ Below w.heap.size w wr) (fun i _ => ll.length - (intOf i).toNat)
  case atStart => exact ⟨0, by omega, rfl, Below.refl _ _⟩
  case round =>
    obtain ⟨k, hk, rfl, hbel⟩ := hrel
    by_cases hlt : k < ll.length
    · have hRr := HR.out.below (Nat.le_refl _) hbel
      obtain ⟨u0, hu0, hB0⟩ := hRr.cell 0 (by omega)
      obtain ⟨a0', c0', rfl, _⟩ := hB0
      rw [Nat.add_zero] at hu0
      obtain ⟨u, hu, hB⟩ := hRr.cell k hlt
      obtain ⟨a1, c1, rfl, _⟩ := hB
      have k0 : (0 : Int) ≤ (k : Int) := Int.natCast_nonneg _
      have k1 : (k : Int) < (ll.length : Int) := by omega
      have hb2 : (((rowAt ll k).length : Int) != ((rowAt ll 0).length : Int)) = false := by rw [alike_at HA.out hlt]; simp
      clear hRr
      go_wp2_with fail
      go_quiet (fail)
      go_wp2_with fail
      exact ⟨⟨k + 1, by omega, by go_num, below_drewN hbel _⟩, by simp [intOf]; omega⟩
    · obtain rfl : k = ll.length := by omega
      clear hk hlt
      have HR1 := Lib.hid (HR.out.below (Nat.le_refl _) hbel)
      have HC1 := Lib.hid (HC.out.below (Nat.le_refl _) hbel)
      obtain ⟨w1, hw1⟩ : ∃ w1 : World, w1 = wr := ⟨_, rfl⟩
      subst hw1
      have hz := hbel.size
      go_wp2_with fail
      go_loopw [7, 8, 9, 10] (fun v i _ _ wr => ∃ k : Nat, k ≤ (rowAt ll 0).length ∧ i = .int .i64 k ∧ Owns wr w1.heap.size v (combT cs ll k) ∧ Below w1.heap.size w1 wr) (fun _ i _ _ _ => (rowAt ll 0).length - (intOf i).toNat)
      case atStart => exact ⟨0, by omega, rfl, Owns.nil _ _, Below.refl _ _⟩
      case round =>
        obtain ⟨k, hk, rfl, hown, hb1r⟩ := hrel
        have HO := Lib.hid hown
        clear hown
        obtain ⟨u0, hu0, hB0⟩ := HR1.out.at hb1r 0 (by omega)
        obtain ⟨a0', c0', rfl, _⟩ := hB0
        rw [Nat.add_zero] at hu0
        by_cases hlt : k < (rowAt ll 0).length
        · go_wp2_with fail
          obtain ⟨wo, hwo⟩ : ∃ wo : World, wo = wr := ⟨_, rfl⟩
          subst hwo
          go_loopw [9, 10] (fun s i wr => ∃ j : Nat, j ≤ ll.length ∧ i = .int .i64 j ∧ s = U8 (combAt cs ll k j) ∧ Below wo.heap.size wo wr) (fun _ i _ => ll.length - (intOf i).toNat)
          case atStart => exact ⟨0, by omega, rfl, rfl, Below.refl _ _⟩
          case round =>
            obtain ⟨j, hj, rfl, rfl, hbi⟩ := hrel
            have d1 := combAt_lt HCL.out ll k j
            by_cases hjl : j < ll.length
            · have hbj : Below w1.heap.size w1 wr := hb1r.trans (hbi.mono hb1r.size)
              have hcs := (HC1.out.below (Nat.le_refl _) hbj).cell j (by omega)
              obtain ⟨u, hu, hB⟩ := HR1.out.at hbj j hjl
              have hB2 := hB.below (Nat.le_refl _) hbj
              have ha := alike_at HA.out hjl
              have hne : rowAt ll j ≠ [] := by intro h; rw [h] at ha; simp at ha; omega
              obtain ⟨a1, c1, rfl, _, _, _, h4⟩ := hB2
              obtain ⟨bk, offk, rfl, _, hck⟩ := h4 hne
              have hci := hck k (by omega)
              have q1 := nth_lt HCL.out j
              have k0 : (0 : Int) ≤ (k : Int) := Int.natCast_nonneg _
              have k1 : (k : Int) < ((rowAt ll j).length : Int) := by omega
              have j0 : (0 : Int) ≤ (j : Int) := Int.natCast_nonneg _
              have j1 : (j : Int) < (ll.length : Int) := by omega
              have j2 : (j : Int) < (cs.length : Int) := by omega
              have HS : Hid (bits BinOp.xor IntKind.u8 (combAt cs ll k j : Int) (Gf.mul (nth cs j) (nth (rowAt ll j) k) : Int) = (combAt cs ll k (j + 1) : Int)) := Lib.hid (by
                rw [u8_xor_nat _ _ d1 (Gf.mul_lt q1 _)]; rfl)
              clear hck h4 hB ha hne
              go_wp2_with fail
              go_quiet ((go_at_call 96; exact Calls.quiet_of_same (refmul_q _ _ _ q1)))
              go_wp2_with fail
              exact ⟨⟨j + 1, by omega, by go_num, u8_eq HS.out, below_drewN hbi _⟩, by simp [intOf]; omega⟩
            · obtain rfl : j = ll.length := by omega
              have HO1 := Lib.hid (HO.out.below (Nat.le_refl _) hbi)
              have hb1w : Below w1.heap.size w1 wr := hb1r.trans (hbi.mono hb1r.size)
              have hz1 := hb1w.size
              go_wp2_with (at_builtin; refine wpList_append_byte rfl (.tmp 63) (.tmp 65) rfl w1.heap.size wr.heap.size _ _ (combAt cs ll k ll.length) 5 rfl rfl rfl HO1.out ?c1 ?c2 ?_)
              case c1 => exact hz1
              case c2 => rw [combT_length]; omega
              intro v' w2 hown2 hgr
              rw [← combT_succ] at hown2
              have HO2 := Lib.hid hown2
              have HG := Lib.hid (hb1w.grown hgr hz1 HO1.out.from)
              clear hown2 hgr
              go_wp2_with fail
              go_roundw
              case rel => exact ⟨k + 1, by omega, by go_num, HO2.out, HG.out⟩
              case measure => simp [intOf]; omega
        · obtain rfl : k = (rowAt ll 0).length := by omega
          go_wp2_with fail
          go_ret2
          exact ⟨_, rfl, HO.out.mono hz, hbel.trans (hb1r.mono hz)⟩

/-- What Comb answers, row by row. -/
theorem combL_eq (cs : List Nat) (ll : List (List Nat)) : combL cs ll = if cs.length = ll.length ∧ alikeB ll = true ∧ ll ≠ [] then combT cs ll (rowAt ll 0).length else [] := by
  unfold combL
  split
  · rename_i h; rw [combK_eq h.2.1]
  · rfl

theorem refcomb_any (v0 v : Value) (cs : List Nat) (ll : List (List Nat)) (w : World) (hm : (rowAt ll 0).length ≤ 70000000000000) (hC : Bytes w v0 cs) (hR : IsRows w v ll) :
    Calls Try.prog 97 #[v0, v] w (GrownE w (combL cs ll) (combE cs ll)) := by
  have hC0 := hC
  have hR0 := hR
  obtain ⟨a0, c0, rfl, _, _, _, g4⟩ := hC
  obtain ⟨a, cap, rfl, h1, h2, h4⟩ := hR
  rw [combL_eq]
  unfold combE
  by_cases hl : cs.length = ll.length
  · cases ll with
    | nil =>
      rw [if_neg (by simp), if_pos ⟨hl, rfl⟩]
      have e : cs.length = 0 := hl
      rw [e]
      exact refcomb_empty a0 a c0 cap w
    | cons x ll =>
      obtain ⟨b, off, rfl, _, _⟩ := h4 (by simp)
      obtain ⟨b0, off0, rfl, _, _⟩ := g4 (by intro h; rw [h] at hl; simp at hl)
      by_cases hA : alikeB (x :: ll) = true
      · rw [if_pos ⟨hl, hA, by simp⟩, if_pos ⟨hl, hA⟩]
        exact refcomb_some b0 off0 c0 b off cap cs _ w hl (by simp) hm hC0 hR0 hA
      · rw [if_neg (by simp [hA]), if_neg (by simp [hA])]
        exact refcomb_unlike _ _ c0 b off cap _ w hl (by simp) hR0 (by simpa using hA)
  · rw [if_neg (by simp [hl]), if_neg (by simp [hl])]
    exact refcomb_many a0 a _ _ c0 cap w hl

end Go.Proofs.Ytphdadibfeencaa

/-
  The statements of layer 2 (kern), walked: what they share.
-/
set_option maxRecDepth 100000
namespace Go.Proofs.Ytphdadibfeencaa
open Go.RowKit


theorem combL_lt {cs : List Nat} (hc : ∀ x, x ∈ cs → x < 256) (ll : List (List Nat)) : ∀ x, x ∈ combL cs ll → x < 256 := by
  rw [combL_eq]
  split
  · exact combT_lt hc ll _
  · simp
theorem axpyL_lt {c : Nat} {x y : List Nat} (hc : c < 256) (hy : ∀ z, z ∈ y → z < 256) : ∀ z, z ∈ axpyL c x y → z < 256 := by
  unfold axpyL
  split
  · exact Gf.add_lt (Gf.scale_lt hc x) hy
  · simp
theorem axpyL_length (c : Nat) (x y : List Nat) : (axpyL c x y).length ≤ x.length := by
  unfold axpyL
  split
  · rename_i h; rw [Gf.add_length _ _ (by rw [Gf.scale_length]; exact h), Gf.scale_length]; exact Nat.le_refl _
  · simp

theorem scale_b (c : Nat) (v : Value) (l : List Nat) (w : World) (hc : c < 256) (hn : l.length ≤ 10000000) (hB : Bytes w v l) :
    Calls Try.prog 37 #[U8 c, v] w (BytesV w (Gf.scale c l)) :=
  (scale_any c v l w hc (by omega) hB).mono fun _ _ ⟨g, he, _, hO, hb⟩ => ⟨_, he, hO.bytes (Gf.scale_lt hc l) (by rw [Gf.scale_length]; omega), hb⟩
theorem refscale_b (c : Nat) (v : Value) (l : List Nat) (w : World) (hc : c < 256) (hn : l.length ≤ 10000000) (hB : Bytes w v l) :
    Calls Try.prog 88 #[U8 c, v] w (BytesV w (Gf.scale c l)) :=
  (refscale_any c v l w hc (by omega) hB).mono fun _ _ ⟨v, he, hO, hb⟩ => ⟨v, he, hO.bytes (Gf.scale_lt hc l), hb⟩
theorem refcomb_b (v0 v : Value) (cs : List Nat) (ll : List (List Nat)) (w : World) (hm : (rowAt ll 0).length ≤ 10000000) (hC : Bytes w v0 cs) (hR : IsRows w v ll) :
    Calls Try.prog 97 #[v0, v] w (BytesE w (combL cs ll) (combE cs ll)) :=
  (refcomb_any v0 v cs ll w (by omega) hC hR).mono fun _ _ ⟨v, he, hO, hb⟩ => ⟨v, he, hO.bytes (combL_lt hC.lt ll), hb⟩
theorem axpy_b (c : Nat) (v0 v1 : Value) (x y : List Nat) (w : World) (hc : c < 256) (hn : x.length ≤ 10000000) (hx : Bytes w v0 x) (hy : Bytes w v1 y) :
    Calls Try.prog 91 #[U8 c, v0, v1] w (BytesE w (axpyL c x y) (axpyE x y)) :=
  (axpy_any c v0 v1 x y w hc (by omega) hx hy).mono fun _ _ ⟨v, he, hF, hb⟩ => ⟨v, he, hF.bytes (axpyL_lt hc hy.lt) (by have := axpyL_length c x y; omega), hb⟩

theorem bytes_new2 (w : World) (x y : Int) (a b : Nat) (T : TypeId) (k : Nat) (hk : k = w.heap.size) (hx : x = a) (hy : y = b) (ha : a < 256) (hb : b < 256) :
    Bytes (w.alloc (.cells #[.int .u8 x, .int .u8 y] T)) (.slice (some ⟨k, 0, none⟩) 2 2) [a, b] := by
  subst hk; subst hx; subst hy
  exact bytes_new w [a, b] T (by simp [ha, hb]) (by simp)

end Go.Proofs.Ytphdadibfeencaa

/-
  The statements of layer 2 (kern), walked: KernPairs.
-/
set_option maxRecDepth 100000
namespace Go.Proofs.Ytphdadibfeencaa
open Go.RowKit

theorem rows_new2 (w : World) (u0 u1 : Value) (x y : List Nat) (T : TypeId) (k : Nat) (hk : k = w.heap.size) (hx : Bytes w u0 x) (hy : Bytes w u1 y) :
    IsRows (w.alloc (.cells #[u0, u1] T)) (.slice (some ⟨k, 0, none⟩) 2 2) [x, y] := by
  subst hk
  have hb : Below w.heap.size w (w.alloc (.cells #[u0, u1] T)) := (Below.refl _ _).alloc (Nat.le_refl _) _
  refine ⟨_, 2, rfl, Nat.le_refl _, by omega, fun _ => ⟨w.heap.size, 0, rfl, by simp, fun i hi => ?_⟩⟩
  have h2 : i < 2 := hi
  match i, h2 with
  | 0, _ => exact ⟨u0, by rw [World.cell?_alloc_at _ _ _ _ rfl]; rfl, hx.below (Nat.le_refl _) hb⟩
  | 1, _ => exact ⟨u1, by rw [World.cell?_alloc_at _ _ _ _ rfl]; rfl, hy.below (Nat.le_refl _) hb⟩

end Go.Proofs.Ytphdadibfeencaa

/-
  The statements of layer 2 (kern), walked: KernReckons.
-/
set_option maxRecDepth 100000
namespace Go.Proofs.Ytphdadibfeencaa
open Go.RowKit

/-- As many ones. -/
def ones (n : Nat) : List Nat := List.replicate n 1

theorem scale_one {l : List Nat} (h : ∀ x, x ∈ l → x < 256) : Gf.scale 1 l = l := by
  refine ext_nth (Gf.scale_length 1 l) fun j hj => ?_
  rw [Gf.scale_length] at hj
  rw [nth_scale 1 l j hj, Gf.one_mul (nth_lt h j)]

end Go.Proofs.Ytphdadibfeencaa

/-
  The document's answer for rows that lead (wellspringref03), in the program: 'Norm', 'Less', 'Same'.
-/
set_option maxRecDepth 100000
namespace Go.Proofs.Ytphdadibfeencaa
open Go.RowKit

/-- The value is a row (a vector, and data) that reads as these. -/
def IsRow (w : World) (u : Value) (p q : List Nat) : Prop := ∃ v d, u = .agg #[v, d] ∧ Bytes w v p ∧ Bytes w d q

theorem IsRow.below {w w' : World} {u : Value} {p q : List Nat} {B : Nat} (h : IsRow w u p q) (hB : w.heap.size ≤ B) (hb : Below B w w') : IsRow w' u p q := by
  obtain ⟨v, d, e, h1, h2⟩ := h
  exact ⟨v, d, e, h1.below hB hb, h2.below hB hb⟩

/-- The answer is a row; of what was there nothing has turned. -/
def RowsV (w : World) (p q : List Nat) (e : Ending) (w' : World) : Prop := ∃ u, e = .returned u ∧ IsRow w' u p q ∧ Below w.heap.size w w'
/-- The same, and an error's number. -/
def RowsE (w : World) (p q : List Nat) (err : Int) (e : Ending) (w' : World) : Prop := ∃ u, e = .returned (.tuple #[u, I64 err]) ∧ IsRow w' u p q ∧ Below w.heap.size w w'

/-- By what a row is multiplied, to be normed. -/
def normC (p : List Nat) : Nat := if lead p < p.length then Gf.inv (nth p (lead p)) else 1
theorem normC_lt (p : List Nat) : normC p < 256 := by
  unfold normC
  split
  · exact Gf.inv_lt _
  · decide

/-- A row's box, and a result's: what is in them stays where no call writes. -/
theorem two_blocks (w : World) (o1 o2 : Obj) : Below w.heap.size w ((w.alloc o1).alloc o2) := ((Below.refl _ _).alloc (Nat.le_refl _) _).alloc (by simp) _

set_option maxHeartbeats 1000000 in
theorem refnorm_some (b off cap : Nat) (d : Value) (p q : List Nat) (w : World) (hp : Bytes w (.slice (some ⟨b, off, none⟩) p.length cap) p) (hq : Bytes w d q) (hlp : p.length ≤ 10000000) (hlq : q.length ≤ 10000000) (hl : lead p < p.length) :
    Calls Try.prog 70 #[.agg #[.slice (some ⟨b, off, none⟩) p.length cap, d]] w (RowsV w (Gf.scale (normC p) p) (Gf.scale (normC p) q)) := by
  have HP := Lib.hid hp
  have HQ := Lib.hid hq
  have HL := Lib.hid (show leadI p = (lead p : Int) from if_pos hl)
  have HC := Lib.hid (show normC p = Gf.inv (nth p (lead p)) from if_pos hl)
  have hc := normC_lt p
  have hdec : decide ((lead p : Int) < 0) = false := by simp
  obtain ⟨i, hi⟩ : ∃ i, i = lead p := ⟨_, rfl⟩
  rw [← hi] at hl HL HC hdec
  clear hi
  have hcapp : p.length ≤ 9223372036854775807 := by omega
  clear hp hq
  go_enter Try.func70, Try.ntmps70
  go_wp2_with fail
  have B2 := two_blocks w (.cells #[.slice (some ⟨b, off, none⟩) p.length cap, d] 62) (.cells #[.slice none 0 0, .slice none 0 0] 62)
  have K1 := (Blk.new w #[.slice (some ⟨b, off, none⟩) p.length cap, d] 62 _ rfl).alloc (.cells #[.slice none 0 0, .slice none 0 0] 62)
  have K2 := Blk.new (w.alloc (.cells #[.slice (some ⟨b, off, none⟩) p.length cap, d] 62)) #[.slice none 0 0, .slice none 0 0] 62 (w.heap.size + 1) (by simp)
  generalize ((w.alloc (.cells #[.slice (some ⟨b, off, none⟩) p.length cap, d] 62)).alloc (.cells #[.slice none 0 0, .slice none 0 0] 62)) = W2 at *
  have HP2 := Lib.hid (HP.out.below (Nat.le_refl _) B2)
  have HQ2 := Lib.hid (HQ.out.below (Nat.le_refl _) B2)
  have HK1 := Lib.hid K1
  have HK2 := Lib.hid K2
  have hx0 : W2.cell? ⟨w.heap.size, 0, none⟩ = some (.slice (some ⟨b, off, none⟩) p.length cap) := K1.cell 0
  have hx1 : W2.cell? ⟨w.heap.size, 1, none⟩ = some d := K1.cell 1
  clear K1 K2
  refine (reflead_any _ _ _ HP2.out).mono ?_
  rintro e w' ⟨rfl, rfl⟩
  rw [HL.out]
  have hcell := HP2.out.cell i hl
  have hx := nth_lt HP2.out.lt i
  go_wp2_with fail
  refine (refinv_any _ _ hx).mono ?_
  rintro e w' ⟨rfl, rfl⟩
  rw [← HC.out]
  go_wp2_with fail
  clear hcell
  have D2 : Below W2.heap.size W2 W2.drew := Below.drew (Below.refl _ _)
  have HP3 := Lib.hid (HP2.out.below (Nat.le_refl _) D2)
  have tok1 : True := trivial
  go_region_held3 (fun w' => w'.cell? ⟨w.heap.size, 0, none⟩ = some (.slice (some ⟨b, off, none⟩) p.length cap) ∧ w'.cell? ⟨w.heap.size, 1, none⟩ = some d)
    (first | go_keep | exact ⟨cell_keep hx0 (by assumption), cell_keep hx1 (by assumption)⟩)
    (first | (go_at_call 88; have _t := tok1; refine (refscale_b _ _ p _ hc hlp HP3.out).mono ?_; rintro e w3 ⟨v3, rfl, hv3, hb3'⟩; have hb3 : Below W2.heap.size W2 w3 := D2.trans hb3'; have V3 := Lib.hid hv3; obtain ⟨a3, c3, rfl, _⟩ := hv3; clear tok1 _t) | (go_at_call 88; refine (refscale_b _ _ q _ hc hlq (HQ2.out.below (Nat.le_refl _) hb3)).mono ?_; rintro e w4 ⟨v4, rfl, hv4, hb4'⟩; have hb4 : Below W2.heap.size W2 w4 := hb3.trans (hb4'.mono hb3.size); have V4 := Lib.hid hv4; have V3' := Lib.hid (V3.out.below (Nat.le_refl _) hb4'); obtain ⟨a4, c4, rfl, _⟩ := hv4; have hr0 := (HK2.out.same hb4).cell 0; have hr1 := (HK2.out.same hb4).cell 1; have hf0 := (HK2.out.same hb4).free 0; have hf1 := (HK2.out.same hb4).free 1))
  have HK5 := ((HK2.out.same hb4).set2 (.slice a3 (Gf.scale (normC p) p).length c3) (.slice a4 (Gf.scale (normC p) q).length c4))
  have e0 := HK5.cell 0
  have e1 := HK5.cell 1
  go_wp2_with fail
  have G5 : w4.grownBy ((w4.setCell ⟨w.heap.size + 1, 0, none⟩ (.slice a3 (Gf.scale (normC p) p).length c3)).setCell ⟨w.heap.size + 1, 1, none⟩ (.slice a4 (Gf.scale (normC p) q).length c4)) (some (w.heap.size + 1)) := grown_trans (grown_setCell _ ⟨_, _, _⟩ _) (grown_setCell _ ⟨_, _, _⟩ _)
  have N5 := no_bytes2 (.slice none 0 0) (.slice none 0 0) (fun n e => by cases e) (fun n e => by cases e)
  have B4 : Below w.heap.size w w4 := B2.trans (hb4.mono (by have := B2.size; omega))
  exact bodyPost_ret (v := .agg #[.slice a3 (Gf.scale (normC p) p).length c3, .slice a4 (Gf.scale (normC p) q).length c4]) (by simp [results, Try.results70, go_sem, e0, e1]) rfl
    ⟨_, rfl, ⟨_, _, rfl, V3'.out.other (HK2.out.same hb4) N5 G5, V4.out.other (HK2.out.same hb4) N5 G5⟩, (B4.setCell (by show w.heap.size ≤ w.heap.size + 1; omega) _).setCell (by show w.heap.size ≤ w.heap.size + 1; omega) _⟩

set_option maxHeartbeats 1000000 in
theorem refnorm_none (a : Option Addr) (cap n : Nat) (a' : Option Addr) (n' cap' : Nat) (p q : List Nat) (w : World) (hp : Bytes w (.slice a n cap) p) (hq : Bytes w (.slice a' n' cap') q) (hl : lead p = p.length) :
    Calls Try.prog 70 #[.agg #[.slice a n cap, .slice a' n' cap']] w (RowsV w p q) := by
  have HP := Lib.hid hp
  have HQ := Lib.hid hq
  have HL := Lib.hid (show leadI p = -1 from if_neg (by omega))
  clear hp hq hl
  go_enter Try.func70, Try.ntmps70
  go_wp2_with fail
  have B2 := two_blocks w (.cells #[.slice a n cap, .slice a' n' cap'] 62) (.cells #[.slice none 0 0, .slice none 0 0] 62)
  have K1 := (Blk.new w #[.slice a n cap, .slice a' n' cap'] 62 _ rfl).alloc (.cells #[.slice none 0 0, .slice none 0 0] 62)
  have K2 := Blk.new (w.alloc (.cells #[.slice a n cap, .slice a' n' cap'] 62)) #[.slice none 0 0, .slice none 0 0] 62 (w.heap.size + 1) (by simp)
  generalize ((w.alloc (.cells #[.slice a n cap, .slice a' n' cap'] 62)).alloc (.cells #[.slice none 0 0, .slice none 0 0] 62)) = W2 at *
  have HP2 := Lib.hid (HP.out.below (Nat.le_refl _) B2)
  have HQ2 := Lib.hid (HQ.out.below (Nat.le_refl _) B2)
  have HK2 := Lib.hid K2
  have hx0 : W2.cell? ⟨w.heap.size, 0, none⟩ = some (.slice a n cap) := K1.cell 0
  have hx1 : W2.cell? ⟨w.heap.size, 1, none⟩ = some (.slice a' n' cap') := K1.cell 1
  have hr0 : W2.cell? ⟨w.heap.size + 1, 0, none⟩ = some (.slice none 0 0) := K2.cell 0
  have hr1 : W2.cell? ⟨w.heap.size + 1, 1, none⟩ = some (.slice none 0 0) := K2.cell 1
  have hf0 := K2.free 0
  have hf1 := K2.free 1
  clear K1 K2
  refine (reflead_any _ _ _ HP2.out).mono ?_
  rintro e w' ⟨rfl, rfl⟩
  rw [HL.out]
  go_wp2_with fail
  have HK5 := HK2.out.set2 (.slice a n cap) (.slice a' n' cap')
  have e0 := HK5.cell 0
  have e1 := HK5.cell 1
  have G5 : W2.grownBy ((W2.setCell ⟨w.heap.size + 1, 0, none⟩ (.slice a n cap)).setCell ⟨w.heap.size + 1, 1, none⟩ (.slice a' n' cap')) (some (w.heap.size + 1)) := grown_trans (grown_setCell _ ⟨_, _, _⟩ _) (grown_setCell _ ⟨_, _, _⟩ _)
  have N5 := no_bytes2 (.slice none 0 0) (.slice none 0 0) (fun n e => by cases e) (fun n e => by cases e)
  exact bodyPost_ret (v := .agg #[.slice a n cap, .slice a' n' cap']) (by simp [results, Try.results70, go_sem, e0, e1]) rfl
    ⟨_, rfl, ⟨_, _, rfl, HP2.out.other HK2.out N5 G5, HQ2.out.other HK2.out N5 G5⟩, (B2.setCell (by show w.heap.size ≤ w.heap.size + 1; omega) _).setCell (by show w.heap.size ≤ w.heap.size + 1; omega) _⟩

theorem refnorm_any (u : Value) (p q : List Nat) (w : World) (hu : IsRow w u p q) (hlp : p.length ≤ 10000000) (hlq : q.length ≤ 10000000) :
    Calls Try.prog 70 #[u] w (RowsV w (Gf.scale (normC p) p) (Gf.scale (normC p) q)) := by
  obtain ⟨v, d, rfl, hp, hq⟩ := hu
  have hp0 := hp
  have hq0 := hq
  obtain ⟨a, cap, rfl, _, _, _, h4⟩ := hp
  obtain ⟨a', cap', rfl, _, _, _, _⟩ := hq
  by_cases hl : lead p < p.length
  · obtain ⟨b, off, rfl, _, _⟩ := h4 (by intro h; rw [h] at hl; simp at hl)
    exact refnorm_some b off cap _ p q w hp0 hq0 hlp hlq hl
  · have h1 : normC p = 1 := if_neg hl
    rw [h1, scale_one hp0.lt, scale_one hq0.lt]
    exact refnorm_none a cap _ a' _ cap' p q w hp0 hq0 (by have := lead_le p; omega)

end Go.Proofs.Ytphdadibfeencaa
