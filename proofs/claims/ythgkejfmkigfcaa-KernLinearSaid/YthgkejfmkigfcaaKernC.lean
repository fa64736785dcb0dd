/-
  Many bytes at once (layer 2) in the program: 'blank', 'Axpy', 'Sum', 'Comb'.
-/
import Derived.Test.YthgkejfmkigfcaaKernB
set_option maxRecDepth 100000
namespace Go.Proofs.Ythgkejfmkigfcaa
open Go.RowKit

/-- No slice, without elements; or the whole of a new block. -/
def Fresh (B : Nat) (w : World) (v : Value) (l : List Nat) : Prop := (v = .slice none 0 0 ∧ l = []) ∨ ∃ g, v = whole g l.length ∧ B ≤ g ∧ Own w g l

theorem Fresh.bytes {B : Nat} {w : World} {v : Value} {l : List Nat} (h : Fresh B w v l) (hl : ∀ x, x ∈ l → x < 256) (hm : l.length ≤ 9223372036854775807) : Bytes w v l := by
  rcases h with ⟨rfl, rfl⟩ | ⟨g, rfl, _, hO⟩
  · exact ⟨none, 0, rfl, by simp, by omega, by simp, fun h => absurd rfl h⟩
  · exact hO.bytes hl hm

theorem Bytes.nil (w : World) : Bytes w (.slice none 0 0) [] := ⟨none, 0, rfl, by simp, by omega, by simp, fun h => absurd rfl h⟩

/-- The answer is a row and an error's number; of what was there nothing has turned. -/
def RowE (w : World) (l : List Nat) (err : Int) (e : Ending) (w' : World) : Prop :=
  ∃ v, e = .returned (.tuple #[v, I64 err]) ∧ Fresh w.heap.size w' v l ∧ Below w.heap.size w w'

/-- The answer is a row. -/
def RowV (w : World) (l : List Nat) (e : Ending) (w' : World) : Prop :=
  ∃ v, e = .returned v ∧ Fresh w.heap.size w' v l ∧ Below w.heap.size w w'

set_option maxHeartbeats 400000 in
theorem axpy_unlike (c : Nat) (a0 a1 : Option Addr) (n0 n1 c0 c1 : Nat) (w : World) (hne : n0 ≠ n1) :
    Calls Try.prog 32 #[U8 c, .slice a0 n0 c0, .slice a1 n1 c1] w (RowE w [] 4) := by
  have hb : ((n0 : Int) != (n1 : Int)) = true := by rw [bne_iff_ne]; omega
  clear hne
  go_enter Try.func32, Try.ntmps32
  go_wp2_with fail
  go_ret2
  exact ⟨_, rfl, Or.inl ⟨rfl, rfl⟩, Below.refl _ _⟩

set_option maxHeartbeats 400000 in
theorem axpy_like (c : Nat) (a0 a1 : Option Addr) (x y : List Nat) (c0 c1 : Nat) (w : World) (hc : c < 256) (hn : x.length ≤ 281474976710656) (hx : Bytes w (.slice a0 x.length c0) x) (hy : Bytes w (.slice a1 y.length c1) y) (hl : x.length = y.length) :
    Calls Try.prog 32 #[U8 c, .slice a0 x.length c0, .slice a1 y.length c1] w (RowE w (Gf.add (Gf.scale c x) y) 0) := by
  have hb : ((x.length : Int) != (y.length : Int)) = false := by rw [hl]; simp
  have HX := Lib.hid hx
  have HY := Lib.hid hy
  have HL := Lib.hid hl
  have hym : y.length ≤ 281474976710656 := by omega
  clear hx hy hl
  go_enter Try.func32, Try.ntmps32
  go_wp2_with fail
  refine (scale_any _ _ _ _ hc hn HX.out).mono ?_
  rintro e w1 ⟨g, rfl, hg, hO, hb1⟩
  have HO := Lib.hid hO
  clear hO
  go_wp2_with fail
  have hy1 := HY.out.below (Nat.le_refl _) hb1
  have hne := HY.out.apart hg
  refine (addTo_any g _ _ (Gf.scale c x) y _ rfl (Gf.scale_lt hc x) (by rw [Gf.scale_length]; omega) HO.out hne hy1 (by rw [Gf.scale_length]; exact HL.out)).mono ?_
  rintro e w2 ⟨rfl, hO2, hgr⟩
  have HO2 := Lib.hid hO2
  clear hO2
  go_wp2_with fail
  go_ret2
  refine ⟨_, rfl, Or.inr ⟨g, by rw [Gf.add_length _ _ (by rw [Gf.scale_length]; exact HL.out)]; rfl, hg, HO2.out⟩, below_grown hb1 hgr hb1.size hg⟩

/-- What Axpy answers. -/
def axpyL (c : Nat) (x y : List Nat) : List Nat := if x.length = y.length then Gf.add (Gf.scale c x) y else []
def axpyE (x y : List Nat) : Int := if x.length = y.length then 0 else 4

theorem axpy_any (c : Nat) (v0 v1 : Value) (x y : List Nat) (w : World) (hc : c < 256) (hn : x.length ≤ 281474976710656) (hx : Bytes w v0 x) (hy : Bytes w v1 y) :
    Calls Try.prog 32 #[U8 c, v0, v1] w (RowE w (axpyL c x y) (axpyE x y)) := by
  have hx0 := hx
  have hy0 := hy
  obtain ⟨a0, c0, rfl, _⟩ := hx
  obtain ⟨a1, c1, rfl, _⟩ := hy
  unfold axpyL axpyE
  by_cases hl : x.length = y.length
  · rw [if_pos hl, if_pos hl]; exact axpy_like c a0 a1 x y c0 c1 w hc hn hx0 hy0 hl
  · rw [if_neg hl, if_neg hl]; exact axpy_unlike c a0 a1 _ _ c0 c1 w hl

/-- Noughts, as many as the first row has bytes. -/
def zeros (n : Nat) : List Nat := List.replicate n 0

theorem zeros_length (n : Nat) : (zeros n).length = n := by simp [zeros]
theorem zeros_lt (n : Nat) : ∀ x, x ∈ zeros n → x < 256 := by
  intro x hx
  have := List.eq_of_mem_replicate hx
  omega

set_option maxHeartbeats 400000 in
theorem blank_empty (a : Option Addr) (cap : Nat) (w : World) :
    Calls Try.prog 40 #[.slice a 0 cap] w fun e w' => e = .returned (.slice none 0 0) ∧ w = w' := by
  go_enter Try.func40, Try.ntmps40
  go_wp2_with fail
  go_ret
  exact ⟨rfl, rfl⟩

set_option maxHeartbeats 400000 in
theorem blank_some (b off n n0 c0 cap : Nat) (a0 : Option Addr) (w : World) (hn : 1 ≤ n) (hm : n ≤ 9223372036854775807) (hm0 : n0 ≤ 281474976710656) (h0 : w.cell? ⟨b, off, none⟩ = some (.slice a0 n0 c0)) :
    Calls Try.prog 40 #[.slice (some ⟨b, off, none⟩) n cap] w fun e w' => e = .returned (whole w.heap.size n0) ∧ Own w' w.heap.size (zeros n0) ∧ Below w.heap.size w w' := by
  have hb : ((n : Int) == 0) = false := beq_eq_false_iff_ne.2 (by omega)
  have hmk := make_bytes n0 hm0
  go_enter Try.func40, Try.ntmps40
  go_wp2_with fail
  go_ret
  exact ⟨rfl, Own.new w _, (Below.refl _ _).alloc (Nat.le_refl _) _⟩

/-- The first k rows, added. -/
def sumK (ll : List (List Nat)) : Nat → List Nat
  | 0 => zeros (rowAt ll 0).length
  | k + 1 => Gf.add (sumK ll k) (rowAt ll k)

/-- The first k rows, each times its byte, added. -/
def combK (cs : List Nat) (ll : List (List Nat)) : Nat → List Nat
  | 0 => zeros (rowAt ll 0).length
  | k + 1 => Gf.add (combK cs ll k) (Gf.scale (nth cs k) (rowAt ll k))

theorem alike_at {ll : List (List Nat)} (h : alikeB ll = true) {k : Nat} (hk : k < ll.length) : (rowAt ll k).length = (rowAt ll 0).length := by
  simp only [alikeB, List.all_eq_true, beq_iff_eq] at h
  rw [rowAt_eq ll k hk]
  exact h _ (List.getElem_mem hk)

theorem sumK_length {ll : List (List Nat)} (h : alikeB ll = true) : ∀ k, k ≤ ll.length → (sumK ll k).length = (rowAt ll 0).length
  | 0, _ => zeros_length _
  | k + 1, hk => by
    have e := sumK_length h k (by omega)
    show (Gf.add (sumK ll k) (rowAt ll k)).length = _
    rw [Gf.add_length _ _ (by rw [e, alike_at h (show k < ll.length by omega)]), e]

theorem sumK_lt {ll : List (List Nat)} (hl : ∀ k, k < ll.length → ∀ x, x ∈ rowAt ll k → x < 256) : ∀ k, k ≤ ll.length → ∀ x, x ∈ sumK ll k → x < 256
  | 0, _ => zeros_lt _
  | k + 1, hk => Gf.add_lt (sumK_lt hl k (by omega)) (hl k (by omega))

theorem combK_length {cs : List Nat} {ll : List (List Nat)} (h : alikeB ll = true) : ∀ k, k ≤ ll.length → (combK cs ll k).length = (rowAt ll 0).length
  | 0, _ => zeros_length _
  | k + 1, hk => by
    have e := combK_length (cs := cs) h k (by omega)
    show (Gf.add (combK cs ll k) (Gf.scale (nth cs k) (rowAt ll k))).length = _
    rw [Gf.add_length _ _ (by rw [e, Gf.scale_length, alike_at h (show k < ll.length by omega)]), e]

theorem combK_lt {cs : List Nat} {ll : List (List Nat)} (hc : ∀ x, x ∈ cs → x < 256) : ∀ k, k ≤ ll.length → ∀ x, x ∈ combK cs ll k → x < 256
  | 0, _ => zeros_lt _
  | k + 1, hk => Gf.add_lt (combK_lt hc k (by omega)) (Gf.scale_lt (nth_lt hc k) _)

theorem IsRows.lt {w : World} {b off n cap : Nat} {ll : List (List Nat)} (h : IsRows w (.slice (some ⟨b, off, none⟩) n cap) ll) : ∀ k, k < ll.length → ∀ x, x ∈ rowAt ll k → x < 256 := fun k hk => by
  obtain ⟨u, _, hu⟩ := h.cell k hk
  exact hu.lt

theorem sum_unlike (v : Value) (ll : List (List Nat)) (w : World) (hR : IsRows w v ll) (hA : alikeB ll = false) :
    Calls Try.prog 26 #[v] w (RowE w [] 4) := by
  have H := Lib.hid (alike_any v ll w hR)
  have HA := Lib.hid hA
  clear hR hA
  go_enter Try.func26, Try.ntmps26
  go_wp2_with fail
  refine H.out.mono ?_
  rintro e w1 ⟨rfl, hb1⟩
  rw [HA.out]
  go_wp2_with fail
  go_ret2
  exact ⟨_, rfl, Or.inl ⟨rfl, rfl⟩, hb1⟩

set_option maxHeartbeats 400000 in
theorem sum_empty (a : Option Addr) (cap : Nat) (w : World) :
    Calls Try.prog 26 #[.slice a 0 cap] w (RowE w [] 0) := by
  go_enter Try.func26, Try.ntmps26
  go_wp2_with fail
  refine (alike_empty a cap w).mono ?_
  rintro e w1 ⟨rfl, hb1⟩
  go_wp2_with fail
  refine (blank_empty a cap _).mono ?_
  rintro e w2 ⟨rfl, rfl⟩
  go_wp2_with fail
  refine wp_loop_rounds 1 ?_
  rw [rounds_succ]
  go_wp2_with fail
  go_ret2
  exact ⟨_, rfl, Or.inl ⟨rfl, rfl⟩, hb1⟩

set_option maxHeartbeats 400000 in
theorem sum_some (b off cap : Nat) (ll : List (List Nat)) (w : World) (hn : 1 ≤ ll.length) (hm : (rowAt ll 0).length ≤ 281474976710656) (hR : IsRows w (.slice (some ⟨b, off, none⟩) ll.length cap) ll) (hA : alikeB ll = true) :
    Calls Try.prog 26 #[.slice (some ⟨b, off, none⟩) ll.length cap] w (RowE w (sumK ll ll.length) 0) := by
  have hcap : ll.length ≤ 9223372036854775807 := by obtain ⟨_, _, _, h1, h2, _⟩ := hR; omega
  have HR := Lib.hid hR
  have HA := Lib.hid hA
  clear hR hA
  go_enter Try.func26, Try.ntmps26
  go_wp2_with fail
  refine (alike_any _ ll w HR.out).mono ?_
  rintro e w1 ⟨rfl, hb1⟩
  rw [HA.out]
  have HR1 := Lib.hid (HR.out.below (Nat.le_refl _) hb1)
  obtain ⟨u0, hu0, hB0⟩ := HR1.out.cell 0 (by omega)
  obtain ⟨a0, c0, rfl, _⟩ := hB0
  rw [Nat.add_zero] at hu0
  go_wp2_with fail
  refine (blank_some b off _ _ c0 cap a0 _ hn hcap hm hu0).mono ?_
  rintro e w2 ⟨rfl, hO2, hb2⟩
  have HO2 := Lib.hid hO2
  clear hO2 hu0
  go_wp2_with fail
  go_loopw [6, 14] (fun _ i wr => ∃ k : Nat, k ≤ ll.length ∧ i = .int .i64 k ∧ Own wr w1.heap.size (sumK ll k) ∧ Below w1.heap.size w1 wr) (fun _ i _ => ll.length - (intOf i).toNat)
  case atStart => exact ⟨0, by omega, rfl, HO2.out, hb2⟩
  case round =>
    obtain ⟨k, hk, rfl, hown, hbel⟩ := hrel
    have HO := Lib.hid hown
    clear hown
    have HL := Lib.hid (sumK_length HA.out k hk)
    by_cases hlt : k < ll.length
    · obtain ⟨u, hu, hB⟩ := HR1.out.at hbel k hlt
      have hne := hB.apart (g := w1.heap.size) (Nat.le_refl _)
      have HB := Lib.hid (hB.below (Nat.le_refl _) hbel)
      have HLT := Lib.hid (HR1.out.lt)
      have HNE := Lib.hid hne
      clear hB hne
      go_wp2_with fail
      refine (addTo_any _ _ _ _ _ _ HL.out (sumK_lt HLT.out k hk) (by omega) HO.out HNE.out HB.out (alike_at HA.out hlt).symm).mono ?_
      rintro e w3 ⟨rfl, hO3, hgr⟩
      have HO3 := Lib.hid hO3
      clear hO3
      go_wp2_with fail
      go_roundw
      case rel => exact ⟨k + 1, by omega, by go_num, HO3.out, below_grown hbel hgr hbel.size (Nat.le_refl _)⟩
      case measure => simp [intOf]; omega
    · obtain rfl : k = ll.length := by omega
      go_wp2_with fail
      go_ret2
      exact ⟨_, rfl, Or.inr ⟨w1.heap.size, by rw [HL.out]; rfl, hb1.size, HO.out⟩, hb1.trans (hbel.mono hb1.size)⟩

/-- What Sum answers. -/
def sumL (ll : List (List Nat)) : List Nat := if alikeB ll = true ∧ ll ≠ [] then sumK ll ll.length else []
def sumE (ll : List (List Nat)) : Int := if alikeB ll = true then 0 else 4

theorem sum_any (v : Value) (ll : List (List Nat)) (w : World) (hm : (rowAt ll 0).length ≤ 281474976710656) (hR : IsRows w v ll) :
    Calls Try.prog 26 #[v] w (RowE w (sumL ll) (sumE ll)) := by
  unfold sumL sumE
  by_cases hA : alikeB ll = true
  · have hR0 := hR
    obtain ⟨a, cap, rfl, h1, h2, h4⟩ := hR
    cases ll with
    | nil =>
      rw [if_neg (by simp), if_pos hA]
      exact sum_empty a cap w
    | cons x ll =>
      obtain ⟨b, off, rfl, _, _⟩ := h4 (by simp)
      rw [if_pos ⟨hA, by simp⟩, if_pos hA]
      exact sum_some b off cap _ w (by simp) hm hR0 hA
  · rw [if_neg (by simp [hA]), if_neg hA]
    exact sum_unlike v ll w hR (by simpa using hA)

end Go.Proofs.Ythgkejfmkigfcaa
