/-
  The statements of layer 2 (kern), walked: KernPairs.
-/
import Derived.Test.YthgkejfmkigfcaaLawTwo
set_option maxRecDepth 100000
namespace Go.Proofs.Ythgkejfmkigfcaa
open Go.RowKit

theorem rows_new2 (w : World) (u0 u1 : Value) (x y : List Nat) (T : TypeId) (k : Nat) (hk : k = w.heap.size) (hx : Bytes w u0 x) (hy : Bytes w u1 y) :
    IsRows (w.alloc (.cells #[u0, u1] T)) (.slice (some ⟨k, 0, none⟩) 2 2) [x, y] := by
  subst hk
  have hb : Below w.heap.size w (w.alloc (.cells #[u0, u1] T)) := (Below.refl _ _).alloc (Nat.le_refl _) _
  refine ⟨_, 2, rfl, Nat.le_refl _, by omega, fun _ => ⟨w.heap.size, 0, rfl, by simp, fun i hi => ?_⟩⟩
  have h2 : i < 2 := hi
  match i, h2 with
  | 0, _ => exact ⟨u0, by rw [World.cell?_alloc_at _ _ _ _ rfl]; rfl, hx.below (Nat.le_refl _) hb⟩
  | 1, _ => exact ⟨u1, by rw [World.cell?_alloc_at _ _ _ _ rfl]; rfl, hy.below (Nat.le_refl _) hb⟩

theorem pair_E (c : Nat) (x y : List Nat) : combE [c, 1] [x, y] = axpyE x y := by
  unfold combE axpyE
  have h : alikeB [x, y] = (y.length == x.length) := by simp [alikeB, rowAt]
  rw [h]
  by_cases hl : x.length = y.length
  · simp [hl]
  · rw [if_neg (by simp; omega), if_neg hl]

theorem pair_L (c : Nat) (x y : List Nat) (hy : ∀ z, z ∈ y → z < 256) : combL [c, 1] [x, y] = axpyL c x y := by
  rw [combL_eq]
  unfold axpyL
  have h : alikeB [x, y] = (y.length == x.length) := by simp [alikeB, rowAt]
  rw [h]
  by_cases hl : x.length = y.length
  · rw [if_pos (by simp [hl]), if_pos hl]
    have hr : (rowAt [x, y] 0).length = x.length := rfl
    have hs : (Gf.add (Gf.scale c x) y).length = x.length := by rw [Gf.add_length _ _ (by rw [Gf.scale_length]; exact hl), Gf.scale_length]
    refine ext_nth (by rw [combT_length, hs, hr]) fun j hj => ?_
    rw [combT_length, hr] at hj
    rw [nth_add _ _ _ (by rw [Gf.scale_length]; exact hj) (by omega), nth_scale c x j hj, nth_eq _ _ (by rw [combT_length, hr]; exact hj)]
    simp only [combT, List.getElem_map, List.getElem_range]
    show (0 ^^^ Gf.mul (nth [c, 1] 0) (nth (rowAt [x, y] 0) j)) ^^^ Gf.mul (nth [c, 1] 1) (nth (rowAt [x, y] 1) j) = _
    rw [show nth [c, 1] 0 = c from rfl, show nth [c, 1] 1 = 1 from rfl, show rowAt [x, y] 0 = x from rfl, show rowAt [x, y] 1 = y from rfl, Nat.zero_xor, Gf.one_mul (nth_lt hy j)]
  · rw [if_neg (by simp; omega), if_neg hl]

set_option maxHeartbeats 400000 in
theorem kernPairs_long (c : Nat) (a0 a1 : Option Addr) (n0 n1 c0 c1 : Nat) (w : World) (h : 200 < n0 ∨ 200 < n1) (h0 : n0 ≤ 9223372036854775807) (h1 : n1 ≤ 9223372036854775807) :
    Calls Try.prog 8 #[U8 c, .slice a0 n0 c0, .slice a1 n1 c1] w fun e w' => e = .returned (.bool true) ∧ Below w.heap.size w w' := by
  by_cases hn : 200 < n0
  · go_enter Try.func8, Try.ntmps8
    go_wp2_with fail
    refine (awake2_any _).mono ?_
    rintro e w1 ⟨rfl, hb1⟩
    go_wp2_with fail
    go_ret
    exact ⟨rfl, hb1⟩
  · have hn1 : 200 < n1 := by omega
    have hn0 : n0 ≤ 200 := by omega
    clear hn h
    go_enter Try.func8, Try.ntmps8
    go_wp2_with fail
    refine (awake2_any _).mono ?_
    rintro e w1 ⟨rfl, hb1⟩
    go_wp2_with fail
    go_ret
    exact ⟨rfl, hb1⟩

set_option maxHeartbeats 1000000 in
theorem kernPairs_some (c : Nat) (a0 a1 : Option Addr) (c0 c1 : Nat) (x y : List Nat) (w : World) (hc : c < 256) (h0 : x.length ≤ 200) (h1 : y.length ≤ 200) (hx : Bytes w (.slice a0 x.length c0) x) (hy : Bytes w (.slice a1 y.length c1) y) :
    Calls Try.prog 8 #[U8 c, .slice a0 x.length c0, .slice a1 y.length c1] w fun e w' => e = .returned (.bool true) ∧ Below w.heap.size w w' := by
  have HX := Lib.hid hx
  have HY := Lib.hid hy
  have HE := Lib.hid (pair_E c x y)
  have HL := Lib.hid (pair_L c x y hy.lt)
  clear hx hy
  go_enter Try.func8, Try.ntmps8
  go_wp2_with fail
  refine (awake2_any _).mono ?_
  rintro e w1 ⟨rfl, hb1⟩
  have HX1 := Lib.hid (HX.out.below (Nat.le_refl _) hb1)
  have HY1 := Lib.hid (HY.out.below (Nat.le_refl _) hb1)
  have hz1 := hb1.size
  go_wp2_with fail
  refine (axpy_b _ _ _ _ _ _ hc (by omega) HX1.out HY1.out).mono ?_
  rintro e w2 ⟨va, rfl, hva, hb2⟩
  have HX2 := Lib.hid (HX1.out.below (Nat.le_refl _) hb2)
  have HY2 := Lib.hid (HY1.out.below (Nat.le_refl _) hb2)
  have HA2 := Lib.hid hva
  have B2 := hb1.trans (hb2.mono hz1)
  have hz2 := B2.size
  clear hva
  go_wp2_with fail
  have e1 : Below w2.heap.size w2 (w2.alloc (.cells #[U8 c, .int .u8 1] 5)) := (Below.refl _ _).alloc (Nat.le_refl _) _
  have e2 : Below (w2.alloc (.cells #[U8 c, .int .u8 1] 5)).heap.size (w2.alloc (.cells #[U8 c, .int .u8 1] 5)) ((w2.alloc (.cells #[U8 c, .int .u8 1] 5)).alloc (.cells #[.slice a0 x.length c0, .slice a1 y.length c1] 22)) := (Below.refl _ _).alloc (Nat.le_refl _) _
  have hC3 := (bytes_new2 w2 c 1 c 1 5 w2.heap.size rfl rfl rfl hc (by omega)).below (Nat.le_refl _) e2
  have hR3 := rows_new2 (w2.alloc (.cells #[U8 c, .int .u8 1] 5)) (.slice a0 x.length c0) (.slice a1 y.length c1) x y 22 (w2.heap.size + 1) (by simp) (HX2.out.below (Nat.le_refl _) e1) (HY2.out.below (Nat.le_refl _) e1)
  have e3 : Below w2.heap.size w2 ((w2.alloc (.cells #[U8 c, .int .u8 1] 5)).alloc (.cells #[.slice a0 x.length c0, .slice a1 y.length c1] 22)) := e1.alloc (by simp) _
  refine (refcomb_b _ _ _ _ _ (by show x.length ≤ 10000000; omega) hC3 hR3).mono ?_
  rintro e w3 ⟨vw, rfl, hvw, hb3⟩
  rw [HE.out]
  rw [HL.out] at hvw
  have E3 : Below w2.heap.size w2 w3 := e3.trans (hb3.mono (by simp; omega))
  have HX3 := Lib.hid (HX2.out.below (Nat.le_refl _) E3)
  have HY3 := Lib.hid (HY2.out.below (Nat.le_refl _) E3)
  have HA3 := Lib.hid (HA2.out.below (Nat.le_refl _) E3)
  have HW3 := Lib.hid hvw
  have B3 := B2.trans (E3.mono hz2)
  have hz3 := B3.size
  clear e1 e2 e3 hC3 hR3 hb3 hvw E3
  go_wp2_with fail
  refine (dot_any _ _ _ _ _ HX3.out HY3.out).mono ?_
  rintro e w4 ⟨rfl, hb4⟩
  have HX4 := Lib.hid (HX3.out.below (Nat.le_refl _) hb4)
  have HY4 := Lib.hid (HY3.out.below (Nat.le_refl _) hb4)
  have HA4 := Lib.hid (HA3.out.below (Nat.le_refl _) hb4)
  have HW4 := Lib.hid (HW3.out.below (Nat.le_refl _) hb4)
  have B4 := B3.trans (hb4.mono hz3)
  have hz4 := B4.size
  go_wp2_with fail
  refine (refdot_any _ _ _ _ _ HX4.out HY4.out).mono ?_
  rintro e w5 ⟨rfl, hb5⟩
  have HA5 := Lib.hid (HA4.out.below (Nat.le_refl _) hb5)
  have HW5 := Lib.hid (HW4.out.below (Nat.le_refl _) hb5)
  have B5 := B4.trans (hb5.mono hz4)
  have hz5 := B5.size
  go_wp2_with fail
  refine (same_yes _ _ _ _ HA5.out HW5.out).mono ?_
  rintro e w6 ⟨rfl, hb6⟩
  have B6 := B5.trans (hb6.mono hz5)
  go_wp2_with fail
  go_ret
  exact ⟨rfl, B6⟩

theorem kernPairs_walk (c : Nat) (v0 : Value) (x : List Nat) (v1 : Value) (y : List Nat) (w : World) (hc : c < 256) (hx : Bytes w v0 x) (hy : Bytes w v1 y) :
    Calls Try.prog 8 #[U8 c, v0, v1] w fun e w' => e = .returned (.bool true) ∧ Below w.heap.size w w' := by
  have hx0 := hx
  have hy0 := hy
  obtain ⟨a0, c0, rfl, _, _, _, _⟩ := hx
  obtain ⟨a1, c1, rfl, _, _, _, _⟩ := hy
  by_cases h : x.length ≤ 200 ∧ y.length ≤ 200
  · exact kernPairs_some c a0 a1 c0 c1 x y w hc h.1 h.2 hx0 hy0
  · exact kernPairs_long c a0 a1 _ _ c0 c1 w (by omega) (by omega) (by omega)

end Go.Proofs.Ythgkejfmkigfcaa
