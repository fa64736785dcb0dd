/- Texts of one seat, laid together: KernC, KernD, Blk, KernE, RefTwo. -/
import Derived.Test.YtphdadibfeencaaGreatSolveHoldsQ2
import Derived.Test.YtphdadibfeencaaGreatSolveHoldsQ1
import Derived.Deep.RegionHeld3
import Derived.Deep.QuietTactic
import Derived.BigQuiet

/-
  Many bytes at once (layer 2) in the program: 'blank', 'Axpy', 'Sum', 'Comb'.
-/
set_option maxRecDepth 100000
namespace Go.Proofs.YtphdadibfeencaaGreat
open Go.RowKit

/-- No slice, without elements; or the whole of a new block. -/
def Fresh (B : Nat) (w : World) (v : Value) (l : List Nat) : Prop := (v = .slice none 0 0 ∧ l = []) ∨ ∃ g, v = whole g l.length ∧ B ≤ g ∧ Own w g l

theorem Fresh.bytes {B : Nat} {w : World} {v : Value} {l : List Nat} (h : Fresh B w v l) (hl : ∀ x, x ∈ l → x < 256) (hm : l.length ≤ 9223372036854775807) : Bytes w v l := by
  rcases h with ⟨rfl, rfl⟩ | ⟨g, rfl, _, hO⟩
  · exact ⟨none, 0, rfl, by simp, by omega, by simp, fun h => absurd rfl h⟩
  · exact hO.bytes hl hm


/-- The answer is a row and an error's number; of what was there nothing has turned. -/
def RowE (w : World) (l : List Nat) (err : Int) (e : Ending) (w' : World) : Prop :=
  ∃ v, e = .returned (.tuple #[v, I64 err]) ∧ Fresh w.heap.size w' v l ∧ Below w.heap.size w w'

set_option maxHeartbeats 400000 in
theorem axpy_unlike (c : Nat) (a0 a1 : Option Addr) (n0 n1 c0 c1 : Nat) (w : World) (hne : n0 ≠ n1) :
    Calls Tryz.prog 90 #[U8 c, .slice a0 n0 c0, .slice a1 n1 c1] w (RowE w [] 4) := by
  have hb : ((n0 : Int) != (n1 : Int)) = true := by rw [bne_iff_ne]; omega
  clear hne
  go_enter Tryz.func90, Tryz.ntmps90
  go_wp2_with fail
  go_ret2
  exact ⟨_, rfl, Or.inl ⟨rfl, rfl⟩, Below.refl _ _⟩

set_option maxHeartbeats 400000 in
theorem axpy_like (c : Nat) (a0 a1 : Option Addr) (x y : List Nat) (c0 c1 : Nat) (w : World) (hc : c < 256) (hn : x.length ≤ 281474976710656) (hx : Bytes w (.slice a0 x.length c0) x) (hy : Bytes w (.slice a1 y.length c1) y) (hl : x.length = y.length) :
    Calls Tryz.prog 90 #[U8 c, .slice a0 x.length c0, .slice a1 y.length c1] w (RowE w (Gf.add (Gf.scale c x) y) 0) := by
  have hb : ((x.length : Int) != (y.length : Int)) = false := by rw [hl]; simp
  have HX := Lib.hid hx
  have HY := Lib.hid hy
  have HL := Lib.hid hl
  have hym : y.length ≤ 281474976710656 := by omega
  clear hx hy hl
  go_enter Tryz.func90, Tryz.ntmps90
  go_wp2_with fail
  refine (scale_any _ _ _ _ hc hn HX.out).mono ?_
  rintro e w1 ⟨g, rfl, hg, hO, hb1⟩
  have HO := Lib.hid hO
  clear hO
  go_wp2_with fail
  have hy1 := HY.out.below (Nat.le_refl _) hb1
  have hne := HY.out.apart hg
  refine (addTo_any g _ _ (Gf.scale c x) y _ rfl (Gf.scale_lt hc x) (by rw [Gf.scale_length]; omega) HO.out hne hy1 (by rw [Gf.scale_length]; exact HL.out)).mono ?_
  rintro e w2 ⟨rfl, hO2, hgr⟩
  have HO2 := Lib.hid hO2
  clear hO2
  go_wp2_with fail
  go_ret2
  refine ⟨_, rfl, Or.inr ⟨g, by rw [Gf.add_length _ _ (by rw [Gf.scale_length]; exact HL.out)]; rfl, hg, HO2.out⟩, below_grown hb1 hgr hb1.size hg⟩

/-- What Axpy answers. -/
def axpyL (c : Nat) (x y : List Nat) : List Nat := if x.length = y.length then Gf.add (Gf.scale c x) y else []
def axpyE (x y : List Nat) : Int := if x.length = y.length then 0 else 4

theorem axpy_any (c : Nat) (v0 v1 : Value) (x y : List Nat) (w : World) (hc : c < 256) (hn : x.length ≤ 281474976710656) (hx : Bytes w v0 x) (hy : Bytes w v1 y) :
    Calls Tryz.prog 90 #[U8 c, v0, v1] w (RowE w (axpyL c x y) (axpyE x y)) := by
  have hx0 := hx
  have hy0 := hy
  obtain ⟨a0, c0, rfl, _⟩ := hx
  obtain ⟨a1, c1, rfl, _⟩ := hy
  unfold axpyL axpyE
  by_cases hl : x.length = y.length
  · rw [if_pos hl, if_pos hl]; exact axpy_like c a0 a1 x y c0 c1 w hc hn hx0 hy0 hl
  · rw [if_neg hl, if_neg hl]; exact axpy_unlike c a0 a1 _ _ c0 c1 w hl

/-- Noughts, as many as the first row has bytes. -/
def zeros (n : Nat) : List Nat := List.replicate n 0

theorem zeros_length (n : Nat) : (zeros n).length = n := by simp [zeros]
theorem zeros_lt (n : Nat) : ∀ x, x ∈ zeros n → x < 256 := by
  intro x hx
  have := List.eq_of_mem_replicate hx
  omega

set_option maxHeartbeats 400000 in
theorem blank_empty (a : Option Addr) (cap : Nat) (w : World) :
    Calls Tryz.prog 34 #[.slice a 0 cap] w fun e w' => e = .returned (.slice none 0 0) ∧ w = w' := by
  go_enter Tryz.func34, Tryz.ntmps34
  go_wp2_with fail
  go_ret
  exact ⟨rfl, rfl⟩

set_option maxHeartbeats 400000 in
theorem blank_some (b off n n0 c0 cap : Nat) (a0 : Option Addr) (w : World) (hn : 1 ≤ n) (hm : n ≤ 9223372036854775807) (hm0 : n0 ≤ 281474976710656) (h0 : w.cell? ⟨b, off, none⟩ = some (.slice a0 n0 c0)) :
    Calls Tryz.prog 34 #[.slice (some ⟨b, off, none⟩) n cap] w fun e w' => e = .returned (whole w.heap.size n0) ∧ Own w' w.heap.size (zeros n0) ∧ Below w.heap.size w w' := by
  have hb : ((n : Int) == 0) = false := beq_eq_false_iff_ne.2 (by omega)
  have hmk := make_bytes n0 hm0
  go_enter Tryz.func34, Tryz.ntmps34
  go_wp2_with fail
  go_ret
  exact ⟨rfl, Own.new w _, (Below.refl _ _).alloc (Nat.le_refl _) _⟩

/-- The first k rows, added. -/
def sumK (ll : List (List Nat)) : Nat → List Nat
  | 0 => zeros (rowAt ll 0).length
  | k + 1 => Gf.add (sumK ll k) (rowAt ll k)

/-- The first k rows, each times its byte, added. -/
def combK (cs : List Nat) (ll : List (List Nat)) : Nat → List Nat
  | 0 => zeros (rowAt ll 0).length
  | k + 1 => Gf.add (combK cs ll k) (Gf.scale (nth cs k) (rowAt ll k))

theorem alike_at {ll : List (List Nat)} (h : alikeB ll = true) {k : Nat} (hk : k < ll.length) : (rowAt ll k).length = (rowAt ll 0).length := by
  simp only [alikeB, List.all_eq_true, beq_iff_eq] at h
  rw [rowAt_eq ll k hk]
  exact h _ (List.getElem_mem hk)

theorem sumK_length {ll : List (List Nat)} (h : alikeB ll = true) : ∀ k, k ≤ ll.length → (sumK ll k).length = (rowAt ll 0).length
  | 0, _ => zeros_length _
  | k + 1, hk => by
    have e := sumK_length h k (by omega)
    show (Gf.add (sumK ll k) (rowAt ll k)).length = _
    rw [Gf.add_length _ _ (by rw [e, alike_at h (show k < ll.length by omega)]), e]

theorem combK_length {cs : List Nat} {ll : List (List Nat)} (h : alikeB ll = true) : ∀ k, k ≤ ll.length → (combK cs ll k).length = (rowAt ll 0).length
  | 0, _ => zeros_length _
  | k + 1, hk => by
    have e := combK_length (cs := cs) h k (by omega)
    show (Gf.add (combK cs ll k) (Gf.scale (nth cs k) (rowAt ll k))).length = _
    rw [Gf.add_length _ _ (by rw [e, Gf.scale_length, alike_at h (show k < ll.length by omega)]), e]

theorem combK_lt {cs : List Nat} {ll : List (List Nat)} (hc : ∀ x, x ∈ cs → x < 256) : ∀ k, k ≤ ll.length → ∀ x, x ∈ combK cs ll k → x < 256
  | 0, _ => zeros_lt _
  | k + 1, hk => Gf.add_lt (combK_lt hc k (by omega)) (Gf.scale_lt (nth_lt hc k) _)

end Go.Proofs.YtphdadibfeencaaGreat

/-
  Many bytes at once (layer 2) in the program: 'Comb'.
-/
set_option maxRecDepth 100000
namespace Go.Proofs.YtphdadibfeencaaGreat
open Go.RowKit

set_option maxHeartbeats 400000 in
theorem comb_many (a0 a1 : Option Addr) (n0 n1 c0 c1 : Nat) (w : World) (hne : n0 ≠ n1) :
    Calls Tryz.prog 18 #[.slice a0 n0 c0, .slice a1 n1 c1] w (RowE w [] 4) := by
  have hb : ((n0 : Int) != (n1 : Int)) = true := by rw [bne_iff_ne]; omega
  clear hne
  go_enter Tryz.func18, Tryz.ntmps18
  go_wp2_with fail
  go_ret2
  exact ⟨_, rfl, Or.inl ⟨rfl, rfl⟩, Below.refl _ _⟩

set_option maxHeartbeats 400000 in
theorem comb_unlike (a0 a1 : Option Addr) (n c0 c1 : Nat) (ll : List (List Nat)) (w : World) (hl : n = ll.length) (hR : IsRows w (.slice a1 ll.length c1) ll) (hA : alikeB ll = false) :
    Calls Tryz.prog 18 #[.slice a0 n c0, .slice a1 ll.length c1] w (RowE w [] 4) := by
  have hb : ((n : Int) != (ll.length : Int)) = false := by rw [hl]; simp
  have H := Lib.hid (alike_any _ ll w hR)
  have HA := Lib.hid hA
  clear hR hA hl
  go_enter Tryz.func18, Tryz.ntmps18
  go_wp2_with fail
  refine H.out.mono ?_
  rintro e w1 ⟨rfl, hb1⟩
  rw [HA.out]
  go_wp2_with fail
  go_ret2
  exact ⟨_, rfl, Or.inl ⟨rfl, rfl⟩, hb1⟩

set_option maxHeartbeats 400000 in
theorem comb_empty (a0 a1 : Option Addr) (c0 c1 : Nat) (w : World) :
    Calls Tryz.prog 18 #[.slice a0 0 c0, .slice a1 0 c1] w (RowE w [] 0) := by
  go_enter Tryz.func18, Tryz.ntmps18
  go_wp2_with fail
  refine (alike_empty a1 c1 w).mono ?_
  rintro e w1 ⟨rfl, hb1⟩
  go_wp2_with fail
  refine (blank_empty a1 c1 _).mono ?_
  rintro e w2 ⟨rfl, rfl⟩
  go_wp2_with fail
  refine wp_loop_rounds 1 ?_
  rw [rounds_succ]
  go_wp2_with fail
  go_ret2
  exact ⟨_, rfl, Or.inl ⟨rfl, rfl⟩, hb1⟩

set_option maxHeartbeats 400000 in
theorem comb_some (b0 off0 c0 b off cap : Nat) (cs : List Nat) (ll : List (List Nat)) (w : World) (hl : cs.length = ll.length) (hn : 1 ≤ ll.length) (hm : (rowAt ll 0).length ≤ 281474976710656) (hC : Bytes w (.slice (some ⟨b0, off0, none⟩) cs.length c0) cs) (hR : IsRows w (.slice (some ⟨b, off, none⟩) ll.length cap) ll) (hA : alikeB ll = true) :
    Calls Tryz.prog 18 #[.slice (some ⟨b0, off0, none⟩) cs.length c0, .slice (some ⟨b, off, none⟩) ll.length cap] w (RowE w (combK cs ll ll.length) 0) := by
  have hb : ((cs.length : Int) != (ll.length : Int)) = false := by rw [hl]; simp
  have hcap : ll.length ≤ 9223372036854775807 := by obtain ⟨_, _, _, h1, h2, _⟩ := hR; omega
  have hcl : ll.length ≤ cs.length := by omega
  have HR := Lib.hid hR
  have HC := Lib.hid hC
  have HA := Lib.hid hA
  clear hR hA hC hl
  go_enter Tryz.func18, Tryz.ntmps18
  go_wp2_with fail
  refine (alike_any _ ll w HR.out).mono ?_
  rintro e w1 ⟨rfl, hb1⟩
  rw [HA.out]
  have HR1 := Lib.hid (HR.out.below (Nat.le_refl _) hb1)
  have HC1 := Lib.hid (HC.out.below (Nat.le_refl _) hb1)
  obtain ⟨u0, hu0, hB0⟩ := HR1.out.cell 0 (by omega)
  obtain ⟨a0, c0', rfl, _⟩ := hB0
  rw [Nat.add_zero] at hu0
  go_wp2_with fail
  refine (blank_some b off _ _ c0' cap a0 _ hn hcap hm hu0).mono ?_
  rintro e w2 ⟨rfl, hO2, hb2⟩
  have HO2 := Lib.hid hO2
  clear hO2 hu0
  go_wp2_with fail
  go_loopw [7, 8, 23] (fun _ _ i wr => ∃ k : Nat, k ≤ ll.length ∧ i = .int .i64 k ∧ Own wr w1.heap.size (combK cs ll k) ∧ Below w1.heap.size w1 wr) (fun _ _ i _ => ll.length - (intOf i).toNat)
  case atStart => exact ⟨0, by omega, rfl, HO2.out, hb2⟩
  case round =>
    obtain ⟨k, hk, rfl, hown, hbel⟩ := hrel
    have HO := Lib.hid hown
    clear hown
    have HL := Lib.hid (combK_length (cs := cs) HA.out k hk)
    have HCLT := Lib.hid HC1.out.lt
    by_cases hlt : k < ll.length
    · obtain ⟨u, hu, hB⟩ := HR1.out.at hbel k hlt
      have HB := Lib.hid (hB.below (Nat.le_refl _) hbel)
      have hcr := (HC1.out.below (Nat.le_refl _) hbel).cell k (by omega)
      have x1 := nth_lt HCLT.out k
      have HK := Lib.hid (alike_at HA.out hlt)
      have hgs : w1.heap.size < wr.heap.size := HO.out.lt
      clear hB
      go_wp2_with fail
      refine (scale_any _ _ _ _ x1 (by rw [HK.out]; exact hm) HB.out).mono ?_
      rintro e w3 ⟨g, rfl, hg, hOg, hb3⟩
      have HOg := Lib.hid (hOg.bytes (Gf.scale_lt x1 _) (by rw [Gf.scale_length, HK.out]; omega))
      have HO3 := Lib.hid (HO.out.below hgs hb3)
      clear hOg
      go_wp2_with fail
      refine (addTo_any _ _ _ _ _ _ HL.out (combK_lt HCLT.out k hk) (by omega) HO3.out (fun _ => by simp [Value.ownBlock]; omega) HOg.out (by rw [Gf.scale_length, HK.out])).mono ?_
      rintro e w4 ⟨rfl, hO4, hgr⟩
      have HO4 := Lib.hid hO4
      clear hO4
      go_wp2_with fail
      go_roundw
      case rel => exact ⟨k + 1, by omega, by go_num, HO4.out, below_grown (hbel.trans (hb3.mono (by omega))) hgr (by have := hb3.size; omega) (Nat.le_refl _)⟩
      case measure => simp [intOf]; omega
    · obtain rfl : k = ll.length := by omega
      go_wp2_with fail
      go_ret2
      exact ⟨_, rfl, Or.inr ⟨w1.heap.size, by rw [HL.out]; rfl, hb1.size, HO.out⟩, hb1.trans (hbel.mono hb1.size)⟩

/-- What Comb answers. -/
def combL (cs : List Nat) (ll : List (List Nat)) : List Nat := if cs.length = ll.length ∧ alikeB ll = true ∧ ll ≠ [] then combK cs ll ll.length else []
def combE (cs : List Nat) (ll : List (List Nat)) : Int := if cs.length = ll.length ∧ alikeB ll = true then 0 else 4

theorem comb_any (v0 v : Value) (cs : List Nat) (ll : List (List Nat)) (w : World) (hm : (rowAt ll 0).length ≤ 281474976710656) (hC : Bytes w v0 cs) (hR : IsRows w v ll) :
    Calls Tryz.prog 18 #[v0, v] w (RowE w (combL cs ll) (combE cs ll)) := by
  have hC0 := hC
  have hR0 := hR
  obtain ⟨a0, c0, rfl, _, _, _, g4⟩ := hC
  obtain ⟨a, cap, rfl, h1, h2, h4⟩ := hR
  unfold combL combE
  by_cases hl : cs.length = ll.length
  · by_cases hA : alikeB ll = true
    · cases ll with
      | nil =>
        rw [if_neg (by simp), if_pos ⟨hl, hA⟩]
        have e : cs.length = 0 := hl
        rw [e]
        exact comb_empty a0 a c0 cap w
      | cons x ll =>
        obtain ⟨b, off, rfl, _, _⟩ := h4 (by simp)
        obtain ⟨b0, off0, rfl, _, _⟩ := g4 (by intro h; rw [h] at hl; simp at hl)
        rw [if_pos ⟨hl, hA, by simp⟩, if_pos ⟨hl, hA⟩]
        exact comb_some b0 off0 c0 b off cap cs _ w hl (by simp) hm hC0 hR0 hA
    · rw [if_neg (by simp [hA]), if_neg (by simp [hA])]
      exact comb_unlike a0 a _ c0 cap ll w hl hR0 (by simpa using hA)
  · rw [if_neg (by simp [hl]), if_neg (by simp [hl])]
    exact comb_many a0 a _ _ c0 cap w hl

end Go.Proofs.YtphdadibfeencaaGreat

/-
  A block of whatever values (a struct's box, a variable, a result): what it holds, and that it stays where others are written.
-/
set_option maxRecDepth 100000
namespace Go.Proofs.YtphdadibfeencaaGreat
open Go.RowKit

/-- Block g holds these values, of that type, and isn't frozen. -/
def Blk (w : World) (g : Nat) (vs : Array Value) (T : TypeId) : Prop := w.heap[g]? = some (.cells vs T)

theorem Blk.lt {w : World} {g : Nat} {vs : Array Value} {T : TypeId} (h : Blk w g vs T) : g < w.heap.size := (Array.getElem?_eq_some_iff.1 h).1
theorem Blk.cell {w : World} {g : Nat} {vs : Array Value} {T : TypeId} (h : Blk w g vs T) (k : Nat) : w.cell? ⟨g, k, none⟩ = vs[k]? := cell_of_row w g k _ _ (0, 0) h
theorem Blk.free {w : World} {g : Nat} {vs : Array Value} {T : TypeId} (h : Blk w g vs T) (k : Nat) : w.frozen? ⟨g, k, none⟩ = false := frozen_of_row w g k _ _ h
theorem Blk.new (w : World) (vs : Array Value) (T : TypeId) (g : Nat) (hg : g = w.heap.size) : Blk (w.alloc (.cells vs T)) g vs T := by subst hg; exact heap_alloc_new w _
theorem Blk.alloc {w : World} {g : Nat} {vs : Array Value} {T : TypeId} (h : Blk w g vs T) (o : Obj) : Blk (w.alloc o) g vs T := by
  unfold Blk; rw [Below.heap_alloc w o g h.lt]; exact h
theorem Blk.below {w w' : World} {g B : Nat} {vs : Array Value} {T : TypeId} (h : Blk w g vs T) (hB : g < B) (hb : Below B w w') : Blk w' g vs T := by
  unfold Blk; rw [hb.block g hB]; exact h
theorem Blk.same {w w' : World} {g : Nat} {vs : Array Value} {T : TypeId} (h : Blk w g vs T) (hb : Below w.heap.size w w') : Blk w' g vs T := h.below h.lt hb
theorem Blk.grown {w w' : World} {g : Nat} {row : Option Nat} {vs : Array Value} {T : TypeId} (h : Blk w g vs T) (hg : w.grownBy w' row) (hne : some g ≠ row) : Blk w' g vs T := by
  unfold Blk; rw [hg.block g h.lt hne]; exact h

theorem Blk.set {w : World} {g : Nat} {vs : Array Value} {T : TypeId} (h : Blk w g vs T) (k : Nat) (v : Value) : Blk (w.setCell ⟨g, k, none⟩ v) g (vs.setIfInBounds k v) T := by
  unfold Blk World.setCell
  have e : w.heap[g]? = some (.cells vs T) := h
  simp [Array.getElem?_modify, e]

/-- Both cells of a struct of two, stored. -/
theorem Blk.set2 {w : World} {g : Nat} {x y : Value} {T : TypeId} (h : Blk w g #[x, y] T) (u v : Value) : Blk ((w.setCell ⟨g, 0, none⟩ u).setCell ⟨g, 1, none⟩ v) g #[u, v] T := (h.set 0 u).set 1 v

/-- Bytes lie elsewhere than a block that holds none. -/
theorem Bytes.other {w w' : World} {v : Value} {l : List Nat} {g : Nat} {vs : Array Value} {T : TypeId} (h : Bytes w v l) (k : Blk w g vs T) (hno : ∀ (i x : Nat), vs[i]? ≠ some (U8 x)) (hg : w.grownBy w' (some g)) : Bytes w' v l := by
  have h0 := h
  obtain ⟨a, cap, rfl, h1, h2, h3, h4⟩ := h
  by_cases hl : l = []
  · subst hl
    exact ⟨a, cap, rfl, h1, h2, h3, fun e => absurd rfl e⟩
  · obtain ⟨b, off, rfl, hlt, hc⟩ := h4 hl
    refine h0.grown hg (Or.inr ?_)
    simp only [Value.ownBlock, ne_eq, Option.some.injEq]
    intro e
    subst e
    have hpos : 0 < l.length := by cases l with
      | nil => exact absurd rfl hl
      | cons => simp
    have h5 := hc 0 hpos
    rw [k.cell] at h5
    exact hno _ _ h5

theorem no_bytes2 (x y : Value) (hx : ∀ n : Nat, x ≠ U8 n) (hy : ∀ n : Nat, y ≠ U8 n) : ∀ (i n : Nat), (#[x, y] : Array Value)[i]? ≠ some (U8 n)
  | 0, n => fun e => hx n (Option.some.inj e)
  | 1, n => fun e => hy n (Option.some.inj e)
  | i + 2, n => fun e => by simp at e

theorem cell_keep {w w' : World} {p : Addr} {v : Value} (h : w.cell? p = some v) (hb : Below w.heap.size w w') : w'.cell? p = some v := by
  rw [hb.cell (World.block_lt_of_cell? w _ h)]; exact h

/-! ### What is known, carried over a call that turns nothing of what was there -/

theorem Bytes.go {w w' : World} {v : Value} {l : List Nat} (h : Bytes w v l) (hb : Below w.heap.size w w') : Bytes w' v l := h.below (Nat.le_refl _) hb
theorem Own.go {w w' : World} {g : Nat} {l : List Nat} (h : Own w g l) (hb : Below w.heap.size w w') : Own w' g l := h.below h.lt hb
theorem Blk.go {w w' : World} {g : Nat} {vs : Array Value} {T : TypeId} (h : Blk w g vs T) (hb : Below w.heap.size w w') : Blk w' g vs T := h.same hb

theorem Blk.two {w : World} {g : Nat} {x y : Value} {T : TypeId} (h : Blk w g #[x, y] T) : w.cell? ⟨g, 0, none⟩ = some x ∧ w.cell? ⟨g, 1, none⟩ = some y := ⟨h.cell 0, h.cell 1⟩
theorem Blk.fre2 {w : World} {g : Nat} {vs : Array Value} {T : TypeId} (h : Blk w g vs T) : w.frozen? ⟨g, 0, none⟩ = false ∧ w.frozen? ⟨g, 1, none⟩ = false := ⟨h.free 0, h.free 1⟩

/-- New blocks, one behind the other. -/
theorem blocks1 (w : World) (c1 : Array Value) (T1 : TypeId) : Below w.heap.size w (w.alloc (.cells c1 T1)) ∧ Blk (w.alloc (.cells c1 T1)) w.heap.size c1 T1 ∧ (w.alloc (.cells c1 T1)).heap.size = w.heap.size + 1 :=
  ⟨(Below.refl _ _).alloc (Nat.le_refl _) _, Blk.new w c1 T1 _ rfl, by simp⟩
theorem blocks2 (w : World) (c1 : Array Value) (T1 : TypeId) (c2 : Array Value) (T2 : TypeId) : Below w.heap.size w ((w.alloc (.cells c1 T1)).alloc (.cells c2 T2)) ∧ Blk ((w.alloc (.cells c1 T1)).alloc (.cells c2 T2)) w.heap.size c1 T1 ∧
    Blk ((w.alloc (.cells c1 T1)).alloc (.cells c2 T2)) (w.heap.size + 1) c2 T2 ∧ ((w.alloc (.cells c1 T1)).alloc (.cells c2 T2)).heap.size = w.heap.size + 1 + 1 := by
  obtain ⟨b, k1, s⟩ := blocks1 w c1 T1
  obtain ⟨b', k2, s'⟩ := blocks1 (w.alloc (.cells c1 T1)) c2 T2
  rw [s] at k2 s'
  exact ⟨b.trans (b'.mono b.size), k1.alloc _, k2, s'⟩
theorem blocks3 (w : World) (c1 : Array Value) (T1 : TypeId) (c2 : Array Value) (T2 : TypeId) (c3 : Array Value) (T3 : TypeId) : Below w.heap.size w (((w.alloc (.cells c1 T1)).alloc (.cells c2 T2)).alloc (.cells c3 T3)) ∧ Blk (((w.alloc (.cells c1 T1)).alloc (.cells c2 T2)).alloc (.cells c3 T3)) w.heap.size c1 T1 ∧
    Blk (((w.alloc (.cells c1 T1)).alloc (.cells c2 T2)).alloc (.cells c3 T3)) (w.heap.size + 1) c2 T2 ∧ Blk (((w.alloc (.cells c1 T1)).alloc (.cells c2 T2)).alloc (.cells c3 T3)) (w.heap.size + 1 + 1) c3 T3 ∧
    (((w.alloc (.cells c1 T1)).alloc (.cells c2 T2)).alloc (.cells c3 T3)).heap.size = w.heap.size + 1 + 1 + 1 := by
  obtain ⟨b, k1, k2, s⟩ := blocks2 w c1 T1 c2 T2
  obtain ⟨b', k3, s'⟩ := blocks1 ((w.alloc (.cells c1 T1)).alloc (.cells c2 T2)) c3 T3
  rw [s] at k3 s'
  exact ⟨b.trans (b'.mono b.size), k1.alloc _, k2.alloc _, k3, s'⟩

/-- Both cells of a result of two stored: what they hold then, and that all else stays. -/
theorem store2 {w0 w : World} {g : Nat} {a b : Value} {T : TypeId} (hK : Blk w g #[a, b] T) (hg : w0.heap.size ≤ g) (hB : Below w0.heap.size w0 w) (ha : ∀ n : Nat, a ≠ U8 n) (hb : ∀ n : Nat, b ≠ U8 n) (x y : Value) :
    ((w.setCell ⟨g, 0, none⟩ x).setCell ⟨g, 1, none⟩ y).cell? ⟨g, 0, none⟩ = some x ∧ ((w.setCell ⟨g, 0, none⟩ x).setCell ⟨g, 1, none⟩ y).cell? ⟨g, 1, none⟩ = some y ∧
    Below w0.heap.size w0 ((w.setCell ⟨g, 0, none⟩ x).setCell ⟨g, 1, none⟩ y) ∧ ∀ v l, Bytes w v l → Bytes ((w.setCell ⟨g, 0, none⟩ x).setCell ⟨g, 1, none⟩ y) v l := by
  have h5 := hK.set2 x y
  refine ⟨h5.cell 0, h5.cell 1, (hB.setCell hg _).setCell hg _, fun v l h => ?_⟩
  exact h.other hK (no_bytes2 a b ha hb) (grown_trans (grown_setCell w ⟨g, 0, none⟩ x) (grown_setCell _ ⟨g, 1, none⟩ y))

/-- A call in a region that only reads. -/
theorem quiet_eq {f : FuncId} {args : Array Value} {w : World} {n : Nat} {v : Value} (h : Calls Tryz.prog f args (w.drewN n) fun e w' => e = .returned v ∧ w.drewN n = w') :
    Calls Tryz.prog f args (w.drewN n) fun e w'' => e = .returned v ∧ ∃ m, w'' = w.drewN m := h.mono fun _ _ ⟨he, hm⟩ => ⟨he, n, hm.symm⟩
theorem Bytes.drewN {w : World} {v : Value} {l : List Nat} (h : Bytes w v l) (n : Nat) : Bytes (w.drewN n) v l := h
theorem below_drews (w : World) (n : Nat) : Below w.heap.size w (w.drewN n) := by
  induction n with
  | zero => exact Below.refl _ _
  | succ n ih => exact ih.drew

theorem slice_ne (a : Option Addr) (n c : Nat) : ∀ k : Nat, Value.slice a n c ≠ U8 k := fun k e => by cases e

end Go.Proofs.YtphdadibfeencaaGreat

/-
  Many bytes at once (layer 2) in the program: 'Dot', 'Zero'.
-/
set_option maxRecDepth 100000
namespace Go.Proofs.YtphdadibfeencaaGreat
open Go.RowKit

namespace Gf
end Gf

/-! ### Zero -/

set_option maxHeartbeats 400000 in
theorem zero1_any (x : Nat) (w : World) :
    Calls Tryz.prog 61 #[U8 x] w fun e w' => e = .returned (.bool ((x : Int) != 0)) ∧ w = w' := by
  go_enter Tryz.func61, Tryz.ntmps61
  go_wp2_with fail
  go_ret
  exact ⟨rfl, rfl⟩

/-- Are all 0? -/
def zeroB (l : List Nat) : Bool := l.all fun x => x == 0

theorem zeroB_eq (l : List Nat) : (!zeroB l) = decide (∃ i, i < l.length ∧ nth l i ≠ 0) := by
  rw [Bool.eq_iff_iff]
  simp only [zeroB, Bool.not_eq_true', List.all_eq_false, beq_iff_eq, decide_eq_true_eq]
  constructor
  · rintro ⟨x, hx, hne⟩
    obtain ⟨i, hi, rfl⟩ := List.getElem_of_mem hx
    exact ⟨i, hi, by rw [nth_eq l i hi]; exact hne⟩
  · rintro ⟨i, hi, hne⟩
    exact ⟨l[i], List.getElem_mem hi, by rw [nth_eq l i hi] at hne; exact hne⟩

set_option maxHeartbeats 400000 in
theorem idxZero_empty (f : Value) (a : Option Addr) (cap : Nat) (w : World) :
    Calls Tryz.prog 75 #[.slice a 0 cap, f] w (Found false w) := by
  go_enter Tryz.func75, Tryz.ntmps75
  go_wp2
  refine wp_loop_rounds 1 ?_
  rw [rounds_succ]
  go_wp2
  go_ret
  exact ⟨-1, rfl, rfl, rfl⟩

set_option maxHeartbeats 400000 in
theorem idxZero_some (b off cap : Nat) (l : List Nat) (w : World) (hB : Bytes w (.slice (some ⟨b, off, none⟩) l.length cap) l) :
    Calls Tryz.prog 75 #[.slice (some ⟨b, off, none⟩) l.length cap, .func (Fn.func 61) #[] #[]] w (Found (!zeroB l) w) := by
  have hcap : l.length ≤ 9223372036854775807 := by obtain ⟨_, _, _, h1, h2, _⟩ := hB; omega
  have HB := Lib.hid hB
  have HA := Lib.hid (zeroB_eq l)
  clear hB
  go_enter Tryz.func75, Tryz.ntmps75
  go_wp2
  go_loop [5, 8] (fun _ i => ∃ k : Nat, k ≤ l.length ∧ i = .int .i64 k ∧ ∀ j, j < k → nth l j = 0) (fun _ i => l.length - (intOf i).toNat)
  case atStart => exact ⟨0, by omega, rfl, fun j hj => by omega⟩
  case round =>
    obtain ⟨k, hk, rfl, hno⟩ := hrel
    have HN := Lib.hid hno
    clear hno
    by_cases hlt : k < l.length
    · have hu := HB.out.cell k hlt
      by_cases hq : nth l k = 0
      · have hb : ((nth l k : Int) != 0) = false := by rw [hq]; rfl
        have HQ := Lib.hid hq
        clear hq
        go_wp2_with fail
        refine (zero1_any _ _).mono ?_
        rintro e w' ⟨rfl, rfl⟩
        rw [hb]
        go_wp2_with fail
        go_round
        case rel => exact ⟨k + 1, by omega, by go_num, fun j hj => by
          by_cases h : j = k
          · rw [h]; exact HQ.out
          · exact HN.out j (by omega)⟩
        case measure => simp [intOf]; omega
      · have hb : ((nth l k : Int) != 0) = true := by rw [bne_iff_ne]; omega
        have HF : Hid ((!zeroB l) = true) := Lib.hid (by rw [HA.out, decide_eq_true_eq]; exact ⟨k, hlt, hq⟩)
        clear hq
        go_wp2_with fail
        refine (zero1_any _ _).mono ?_
        rintro e w' ⟨rfl, rfl⟩
        rw [hb]
        go_wp2_with fail
        go_ret
        exact ⟨k, rfl, by rw [HF.out]; simp, rfl⟩
    · have HF : Hid ((!zeroB l) = false) := Lib.hid (by
        rw [HA.out, decide_eq_false_iff_not]
        rintro ⟨i, hi, hne⟩
        exact hne (HN.out i (by omega)))
      go_wp2_with fail
      go_ret
      exact ⟨-1, rfl, by rw [HF.out]; decide, rfl⟩

set_option maxHeartbeats 400000 in
theorem hasZero_any (v f : Value) (t : Bool) (w : World) (h : Calls Tryz.prog 75 #[v, f] w (Found t w)) :
    Calls Tryz.prog 60 #[v, f] w fun e w' => e = .returned (.bool t) ∧ w = w' := by
  have H := Lib.hid h
  clear h
  go_enter Tryz.func60, Tryz.ntmps60
  go_wp2_with fail
  refine H.out.mono ?_
  rintro e w' ⟨r, rfl, ht, rfl⟩
  go_wp2_with fail
  go_ret
  exact ⟨rfl, rfl⟩

set_option maxHeartbeats 400000 in
theorem zero_of (v : Value) (t : Bool) (w : World) (h : Calls Tryz.prog 75 #[v, .func (Fn.func 61) #[] #[]] w (Found (!t) w)) :
    Calls Tryz.prog 42 #[v] w fun e w' => e = .returned (.bool t) ∧ w = w' := by
  have hmf : ∀ (fn : Fn) (first cap : Array Value) (w : World), (Instr.makeFunc fn first cap).run Tryz.prog w = .ok (.func fn first cap) w := fun _ _ _ _ => rfl
  have H := Lib.hid (hasZero_any _ _ _ _ h)
  clear h
  go_enter Tryz.func42, Tryz.ntmps42
  go_wp2_with fail
  refine H.out.mono ?_
  rintro e w' ⟨rfl, rfl⟩
  go_wp2_with fail
  go_ret
  exact ⟨by simp, rfl⟩

theorem zero_any (v : Value) (l : List Nat) (w : World) (hB : Bytes w v l) :
    Calls Tryz.prog 42 #[v] w fun e w' => e = .returned (.bool (zeroB l)) ∧ w = w' := by
  have hB0 := hB
  obtain ⟨a, cap, rfl, _, _, _, h4⟩ := hB
  cases l with
  | nil => exact zero_of _ true w (idxZero_empty _ a cap w)
  | cons x l =>
    obtain ⟨b, off, rfl, _, _⟩ := h4 (by simp)
    exact zero_of _ _ w (idxZero_some b off cap _ w hB0)

end Go.Proofs.YtphdadibfeencaaGreat

/-
  The document's answer for rows (wellspringref02), in the program: 'Scale', 'Same', 'Zero', 'Dot'.
-/
set_option maxRecDepth 100000
namespace Go.Proofs.YtphdadibfeencaaGreat
open Go.RowKit

theorem refmul_q (a b : Nat) (w : World) (ha : a < 256) :
    Calls Tryz.prog 37 #[U8 a, U8 b] w fun e w' => e = .returned (U8 (Gf.mul a b)) ∧ w' = w := (refmul_any a b w ha).mono fun _ _ h => ⟨h.1, h.2.symm⟩

set_option maxHeartbeats 400000 in
theorem refscale_empty (c : Nat) (a : Option Addr) (cap : Nat) (w : World) :
    Calls Tryz.prog 69 #[U8 c, .slice a 0 cap] w (GrownRow w []) := by
  go_enter Tryz.func69, Tryz.ntmps69
  go_wp2_with fail
  refine wp_loop_rounds 1 ?_
  rw [rounds_succ]
  go_wp2_with fail
  go_ret
  exact ⟨_, rfl, Owns.nil _ _, Below.refl _ _⟩

set_option maxHeartbeats 400000 in
theorem refscale_some (c b off cap : Nat) (l : List Nat) (w : World) (hc : c < 256) (hn : l.length ≤ 70000000000000) (hB : Bytes w (.slice (some ⟨b, off, none⟩) l.length cap) l) :
    Calls Tryz.prog 69 #[U8 c, .slice (some ⟨b, off, none⟩) l.length cap] w (GrownRow w (Gf.scale c l)) := by
  have HB := Lib.hid hB
  clear hB
  go_enter Tryz.func69, Tryz.ntmps69
  go_wp2_with fail
  go_loopw [5, 6] (fun v i wr => ∃ k : Nat, k ≤ l.length ∧ i = .int .i64 k ∧ Owns wr w.heap.size v (Gf.scale c (l.take k)) ∧ Below w.heap.size w wr) (fun _ i _ => l.length - (intOf i).toNat)
  case atStart => exact ⟨0, by omega, rfl, Owns.nil _ _, Below.refl _ _⟩
  case round =>
    obtain ⟨k, hk, rfl, hown, hbel⟩ := hrel
    have HO := Lib.hid hown
    clear hown
    by_cases hlt : k < l.length
    · have hBr := HB.out.below (Nat.le_refl _) hbel
      have hcell := hBr.cell k hlt
      have x1 := nth_lt hBr.lt k
      clear hBr
      go_wp2_with fail
      refine (refmul_any _ _ _ hc).mono ?_
      rintro e w1 ⟨rfl, rfl⟩
      have hz := hbel.size
      go_wp2_with (at_builtin; refine wpList_append_byte rfl (.tmp 13) (.tmp 20) rfl w.heap.size wr.heap.size _ _ (Gf.mul c (nth l k)) 5 rfl rfl rfl HO.out ?c1 ?c2 ?_)
      case c1 => exact hz
      case c2 => rw [Gf.scale_length]; simp; omega
      intro v' w2 hown2 hgr
      have HO2 := Lib.hid hown2
      have HG := Lib.hid (hbel.grown hgr hz HO.out.from)
      clear hown2 hgr
      go_wp2_with fail
      go_roundw
      case rel => exact ⟨k + 1, by omega, by go_num, by rw [Gf.scale_take c l k hlt]; exact HO2.out, HG.out⟩
      case measure => simp [intOf]; omega
    · have HT : Hid (l.take k = l) := Lib.hid (List.take_of_length_le (by omega))
      go_wp2_with fail
      go_ret
      have h := HO.out
      rw [HT.out] at h
      exact ⟨_, rfl, h, hbel⟩

theorem refscale_any (c : Nat) (v : Value) (l : List Nat) (w : World) (hc : c < 256) (hn : l.length ≤ 70000000000000) (hB : Bytes w v l) :
    Calls Tryz.prog 69 #[U8 c, v] w (GrownRow w (Gf.scale c l)) := by
  have hB0 := hB
  obtain ⟨a, cap, rfl, h1, h2, h3, h4⟩ := hB
  cases l with
  | nil => exact refscale_empty c a cap w
  | cons x l =>
    obtain ⟨b, off, rfl, _, _⟩ := h4 (by simp)
    exact refscale_some c b off cap _ w hc hn hB0

/-! ### Same -/

set_option maxHeartbeats 400000 in
theorem same_unlike (a0 a1 : Option Addr) (n0 n1 c0 c1 : Nat) (w : World) (hne : n0 ≠ n1) :
    Calls Tryz.prog 21 #[.slice a0 n0 c0, .slice a1 n1 c1] w fun e w' => e = .returned (.bool false) ∧ Below w.heap.size w w' := by
  have hb : ((n0 : Int) != (n1 : Int)) = true := by rw [bne_iff_ne]; omega
  clear hne
  go_enter Tryz.func21, Tryz.ntmps21
  go_wp2_with fail
  go_ret
  exact ⟨rfl, Below.refl _ _⟩

set_option maxHeartbeats 400000 in
theorem same_empty (a0 a1 : Option Addr) (c0 c1 : Nat) (w : World) :
    Calls Tryz.prog 21 #[.slice a0 0 c0, .slice a1 0 c1] w fun e w' => e = .returned (.bool true) ∧ Below w.heap.size w w' := by
  go_enter Tryz.func21, Tryz.ntmps21
  go_wp2_with fail
  refine wp_loop_rounds 1 ?_
  rw [rounds_succ]
  go_wp2_with fail
  go_ret
  exact ⟨rfl, Below.refl _ _⟩

theorem ext_nth {a b : List Nat} (hl : a.length = b.length) (h : ∀ j, j < a.length → nth a j = nth b j) : a = b := by
  apply List.ext_getElem hl
  intro i h1 h2
  have := h i h1
  rwa [nth_eq a i h1, nth_eq b i h2] at this

set_option maxHeartbeats 400000 in
theorem same_some (b0 off0 c0 b1 off1 c1 : Nat) (x y : List Nat) (w : World) (hx : Bytes w (.slice (some ⟨b0, off0, none⟩) x.length c0) x) (hy : Bytes w (.slice (some ⟨b1, off1, none⟩) y.length c1) y) (hl : x.length = y.length) :
    Calls Tryz.prog 21 #[.slice (some ⟨b0, off0, none⟩) x.length c0, .slice (some ⟨b1, off1, none⟩) y.length c1] w fun e w' => e = .returned (.bool (decide (x = y))) ∧ Below w.heap.size w w' := by
  have hb : ((x.length : Int) != (y.length : Int)) = false := by rw [hl]; simp
  have hcap : x.length ≤ 9223372036854775807 := by obtain ⟨_, _, _, h1, h2, _⟩ := hx; omega
  have hle : x.length ≤ y.length := by omega
  obtain ⟨t, ht⟩ : ∃ t, t = decide (x = y) := ⟨_, rfl⟩
  rw [← ht]
  have HT := Lib.hid ht
  have HX := Lib.hid hx
  have HY := Lib.hid hy
  have HL := Lib.hid hl
  clear hx hy hl ht
  go_enter Tryz.func21, Tryz.ntmps21
  go_wp2_with fail
  go_loopw [5] (fun i wr => ∃ k : Nat, k ≤ x.length ∧ i = .int .i64 k ∧ (∀ j, j < k → nth x j = nth y j) ∧ Below w.heap.size w wr) (fun i _ => x.length - (intOf i).toNat)
  case atStart => exact ⟨0, by omega, rfl, fun j hj => by omega, Below.refl _ _⟩
  case round =>
    obtain ⟨k, hk, rfl, hno, hbel⟩ := hrel
    have HN := Lib.hid hno
    clear hno
    by_cases hlt : k < x.length
    · have hcx := (HX.out.below (Nat.le_refl _) hbel).cell k hlt
      have hcy := (HY.out.below (Nat.le_refl _) hbel).cell k (by omega)
      have k0 : (0 : Int) ≤ (k : Int) := Int.natCast_nonneg _
      have k1 : (k : Int) < (x.length : Int) := by omega
      have k2 : (k : Int) < (y.length : Int) := by omega
      by_cases hq : nth x k = nth y k
      · have hb2 : ((nth x k : Int) != (nth y k : Int)) = false := by rw [hq]; simp
        have HQ := Lib.hid hq
        clear hq
        go_wp2_with fail
        go_quiet (fail)
        go_wp2_with fail
        refine ⟨⟨k + 1, by omega, by go_num, fun j hj => ?_, below_drewN hbel _⟩, by simp [intOf]; omega⟩
        by_cases h : j = k
        · rw [h]; exact HQ.out
        · exact HN.out j (by omega)
      · have hb2 : ((nth x k : Int) != (nth y k : Int)) = true := by rw [bne_iff_ne]; omega
        have HF : Hid (t = false) := Lib.hid (by
          rw [HT.out, decide_eq_false_iff_not]
          intro h; exact hq (by rw [h]))
        clear hq
        go_wp2_with fail
        go_quiet (fail)
        go_wp2_with fail
        go_ret
        exact ⟨by rw [HF.out]; rfl, below_drewN hbel _⟩
    · have HF : Hid (t = true) := Lib.hid (by
        rw [HT.out, decide_eq_true_eq]
        exact ext_nth HL.out fun j hj => HN.out j (by omega))
      go_wp2_with fail
      go_ret
      exact ⟨by rw [HF.out]; rfl, hbel⟩

theorem same_any (v0 v1 : Value) (x y : List Nat) (w : World) (hx : Bytes w v0 x) (hy : Bytes w v1 y) :
    Calls Tryz.prog 21 #[v0, v1] w fun e w' => e = .returned (.bool (decide (x = y))) ∧ Below w.heap.size w w' := by
  have hx0 := hx
  have hy0 := hy
  obtain ⟨a0, c0, rfl, _, _, _, g4⟩ := hx
  obtain ⟨a1, c1, rfl, _, _, _, h4⟩ := hy
  by_cases hl : x.length = y.length
  · cases x with
    | nil =>
      have e : y = [] := List.length_eq_zero_iff.1 hl.symm
      subst e
      exact same_empty a0 a1 c0 c1 w
    | cons z x =>
      obtain ⟨b0, off0, rfl, _, _⟩ := g4 (by simp)
      obtain ⟨b1, off1, rfl, _, _⟩ := h4 (by intro h; rw [h] at hl; simp at hl)
      exact same_some b0 off0 c0 b1 off1 c1 _ y w hx0 hy0 hl
  · rw [show decide (x = y) = false from by rw [decide_eq_false_iff_not]; intro h; exact hl (by rw [h])]
    exact same_unlike a0 a1 _ _ c0 c1 w hl

/-! ### Zero -/

/-! ### Dot -/

end Go.Proofs.YtphdadibfeencaaGreat
