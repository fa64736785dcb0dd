/-
  The document's answer for rows that lead (wellspringref03), in the program: 'Less'.
-/
import Derived.Test.YtgjjkiebfekkjaaRefRow
import Derived.Test.YtgjjkiebfekkjaaRefThree
set_option maxRecDepth 100000
namespace Go.Proofs.Ytgjjkiebfekkjaa
open Go.RowKit

theorem add_comm (x y : List Nat) : Gf.add x y = Gf.add y x := by
  unfold Gf.add
  induction x generalizing y with
  | nil => cases y <;> rfl
  | cons a x ih =>
    cases y with
    | nil => rfl
    | cons b y => simp only [List.zipWith_cons_cons]; rw [ih y, Nat.xor_comm]

theorem less_E (c : Nat) (x y : List Nat) : combE [1, c] [x, y] = axpyE y x := by
  unfold combE axpyE
  have h : alikeB [x, y] = (y.length == x.length) := by simp [alikeB, rowAt]
  rw [h]
  by_cases hl : y.length = x.length
  · simp [hl]
  · rw [if_neg (by simp; omega), if_neg hl]

theorem less_L (c : Nat) (x y : List Nat) (hx : ∀ z, z ∈ x → z < 256) : combL [1, c] [x, y] = axpyL c y x := by
  rw [combL_eq]
  unfold axpyL
  have h : alikeB [x, y] = (y.length == x.length) := by simp [alikeB, rowAt]
  rw [h]
  by_cases hl : y.length = x.length
  · rw [if_pos (by simp [hl]), if_pos hl]
    have hr : (rowAt [x, y] 0).length = x.length := rfl
    have hs : (Gf.add (Gf.scale c y) x).length = x.length := by rw [Gf.add_length _ _ (by rw [Gf.scale_length]; exact hl), Gf.scale_length, hl]
    refine ext_nth (by rw [combT_length, hs, hr]) fun j hj => ?_
    rw [combT_length, hr] at hj
    rw [nth_add _ _ _ (by rw [Gf.scale_length]; omega) hj, nth_scale c y j (by omega), nth_eq _ _ (by rw [combT_length, hr]; exact hj)]
    simp only [combT, List.getElem_map, List.getElem_range]
    show (0 ^^^ Gf.mul (nth [1, c] 0) (nth (rowAt [x, y] 0) j)) ^^^ Gf.mul (nth [1, c] 1) (nth (rowAt [x, y] 1) j) = _
    rw [show nth [1, c] 0 = 1 from rfl, show nth [1, c] 1 = c from rfl, show rowAt [x, y] 0 = x from rfl, show rowAt [x, y] 1 = y from rfl, Nat.zero_xor, Gf.one_mul (nth_lt hx j), Nat.xor_comm]
  · rw [if_neg (by simp; omega), if_neg hl]

/-- What Less answers: the error's number, and each part. -/
def lessE (p q p' q' : List Nat) : Int := if p'.length = p.length ∧ q'.length = q.length then 0 else 4
def lessV (c : Nat) (p q p' q' : List Nat) : List Nat := if p'.length = p.length ∧ q'.length = q.length then Gf.add (Gf.scale c p') p else []
def lessD (c : Nat) (p q p' q' : List Nat) : List Nat := if p'.length = p.length ∧ q'.length = q.length then Gf.add (Gf.scale c q') q else []

theorem bytes_one_c (w : World) (c : Nat) (T : TypeId) (k : Nat) (hk : k = w.heap.size) (hc : c < 256) :
    Bytes (w.alloc (.cells #[.int .u8 1, U8 c] T)) (.slice (some ⟨k, 0, none⟩) 2 2) [1, c] := bytes_new2 w 1 c 1 c T k hk rfl rfl (by omega) hc

/-- A combination of two rows by 1 and c, out of new slices. -/
theorem refcomb_pair (c : Nat) (u0 u1 : Value) (x y : List Nat) (w : World) (k0 k : Nat) (hk0 : k0 = w.heap.size) (hk : k = w.heap.size + 1) (hc : c < 256) (hx : Bytes w u0 x) (hy : Bytes w u1 y) (hm : x.length ≤ 10000000) :
    Calls Try.prog 28 #[.slice (some ⟨k0, 0, none⟩) 2 2, .slice (some ⟨k, 0, none⟩) 2 2] ((w.alloc (.cells #[.int .u8 1, U8 c] 5)).alloc (.cells #[u0, u1] 22)) fun e w' =>
      BytesE w (axpyL c y x) (axpyE y x) e w' := by
  subst hk0
  subst hk
  have e1 : Below w.heap.size w (w.alloc (.cells #[.int .u8 1, U8 c] 5)) := (Below.refl _ _).alloc (Nat.le_refl _) _
  have e2 : Below (w.alloc (.cells #[.int .u8 1, U8 c] 5)).heap.size (w.alloc (.cells #[.int .u8 1, U8 c] 5)) ((w.alloc (.cells #[.int .u8 1, U8 c] 5)).alloc (.cells #[u0, u1] 22)) := (Below.refl _ _).alloc (Nat.le_refl _) _
  have hC := (bytes_one_c w c 5 _ rfl hc).below (Nat.le_refl _) e2
  have hR := rows_new2 (w.alloc (.cells #[.int .u8 1, U8 c] 5)) u0 u1 x y 22 (w.heap.size + 1) (by simp) (hx.below (Nat.le_refl _) e1) (hy.below (Nat.le_refl _) e1)
  refine (refcomb_b _ _ _ _ _ (by show x.length ≤ 10000000; omega) hC hR).mono ?_
  rintro e w' ⟨v, he, hv, hb⟩
  rw [less_E] at he
  rw [less_L c x y hx.lt] at hv
  exact ⟨v, he, hv, (e1.alloc (by simp) _).trans (hb.mono (by simp; omega))⟩

/-- Three boxes, one behind the other. -/
theorem three_blocks (w : World) (c1 c2 c3 : Array Value) (T : TypeId) : Below w.heap.size w (((w.alloc (.cells c1 T)).alloc (.cells c2 T)).alloc (.cells c3 T)) ∧
    Blk (((w.alloc (.cells c1 T)).alloc (.cells c2 T)).alloc (.cells c3 T)) w.heap.size c1 T ∧ Blk (((w.alloc (.cells c1 T)).alloc (.cells c2 T)).alloc (.cells c3 T)) (w.heap.size + 1) c2 T ∧
    Blk (((w.alloc (.cells c1 T)).alloc (.cells c2 T)).alloc (.cells c3 T)) (w.heap.size + 1 + 1) c3 T ∧ (((w.alloc (.cells c1 T)).alloc (.cells c2 T)).alloc (.cells c3 T)).heap.size = w.heap.size + 1 + 1 + 1 :=
  ⟨(two_blocks w _ _).alloc (by simp; omega) _, ((Blk.new w c1 T _ rfl).alloc _).alloc _, (Blk.new _ c2 T _ (by simp)).alloc _, Blk.new _ c3 T _ (by simp), by simp⟩

set_option maxHeartbeats 2000000 in
theorem refless_all (c : Nat) (a0 a1 a2 a3 : Option Addr) (n0 n1 n2 n3 c0 c1 c2 c3 : Nat) (p q p' q' : List Nat) (w : World) (hc : c < 256) (hlp : p.length ≤ 10000000) (hlq : q.length ≤ 10000000)
    (h0 : Bytes w (.slice a0 n0 c0) p) (h1 : Bytes w (.slice a1 n1 c1) q) (h2 : Bytes w (.slice a2 n2 c2) p') (h3 : Bytes w (.slice a3 n3 c3) q') (t : Bool)
    (ht : (t = true ∧ p'.length = p.length ∧ q'.length = q.length) ∨ (t = false ∧ ¬ (p'.length = p.length ∧ q'.length = q.length))) :
    Calls Try.prog 15 #[.agg #[.slice a0 n0 c0, .slice a1 n1 c1], U8 c, .agg #[.slice a2 n2 c2, .slice a3 n3 c3]] w (RowsE w (lessV c p q p' q') (lessD c p q p' q') (lessE p q p' q')) := by
  have H0 := Lib.hid h0
  have H1 := Lib.hid h1
  have H2 := Lib.hid h2
  have H3 := Lib.hid h3
  have HT := Lib.hid ht
  clear h0 h1 h2 h3 ht
  go_enter Try.func15, Try.ntmps15
  go_wp2_with fail
  obtain ⟨B3, K1, K2, K3, hs⟩ := three_blocks w #[.slice a0 n0 c0, .slice a1 n1 c1] #[.slice a2 n2 c2, .slice a3 n3 c3] #[.slice none 0 0, .slice none 0 0] 39
  generalize (((w.alloc (.cells #[.slice a0 n0 c0, .slice a1 n1 c1] 39)).alloc (.cells #[.slice a2 n2 c2, .slice a3 n3 c3] 39)).alloc (.cells #[.slice none 0 0, .slice none 0 0] 39)) = W3 at *
  have HS := Lib.hid hs
  have hz3 := B3.size
  clear hs
  refine (refcomb_pair c _ _ p p' W3 _ _ (by rw [HS.out]) (by rw [HS.out]) hc (H0.out.below (Nat.le_refl _) B3) (H2.out.below (Nat.le_refl _) B3) hlp).mono ?_
  rintro e w4 ⟨v4, rfl, hv4, hb4⟩
  have HV4 := Lib.hid hv4
  have B4 := B3.trans (hb4.mono hz3)
  have hz4 := B4.size
  have hx1 : w4.cell? ⟨w.heap.size, 1, none⟩ = some (.slice a1 n1 c1) := (K1.same hb4).cell 1
  have hy1 : w4.cell? ⟨w.heap.size + 1, 1, none⟩ = some (.slice a3 n3 c3) := (K2.same hb4).cell 1
  have HK4 := Lib.hid (K3.same hb4)
  have hz44 := hb4.size
  have hq3 : w.heap.size + 1 + 1 + 1 = W3.heap.size := HS.out.symm
  have hl4 : w.heap.size < w4.heap.size := by omega
  have hl41 : w.heap.size + 1 < w4.heap.size := by omega
  have hl42 : w.heap.size + 1 + 1 < w4.heap.size := by omega
  clear hv4 K1 K2 K3
  go_wp2_with fail
  refine (refcomb_pair c _ _ q q' w4 _ _ rfl rfl hc (H1.out.below (Nat.le_refl _) B4) (H3.out.below (Nat.le_refl _) B4) hlq).mono ?_
  rintro e w5 ⟨v5, rfl, hv5, hb5⟩
  have HV5 := Lib.hid hv5
  have HV4' := Lib.hid (HV4.out.below (Nat.le_refl _) hb5)
  have B5 := B4.trans (hb5.mono hz4)
  have HK5 := Lib.hid (HK4.out.same hb5)
  have hr0 : w5.cell? ⟨w.heap.size + 1 + 1, 0, none⟩ = some (.slice none 0 0) := HK5.out.cell 0
  have hr1 : w5.cell? ⟨w.heap.size + 1 + 1, 1, none⟩ = some (.slice none 0 0) := HK5.out.cell 1
  have hf0 := HK5.out.free 0
  have hf1 := HK5.out.free 1
  obtain ⟨a4, c4, rfl, _⟩ := HV4.out
  obtain ⟨a5, c5, rfl, _⟩ := hv5
  have N5 := no_bytes2 (.slice none 0 0) (.slice none 0 0) (fun n e => by cases e) (fun n e => by cases e)
  rcases HT.out with ⟨rfl, hl1, hl2⟩ | ⟨rfl, hl⟩
  · have L1 := Lib.hid (show axpyL c p' p = lessV c p q p' q' by unfold axpyL lessV; rw [if_pos hl1, if_pos ⟨hl1, hl2⟩])
    have L2 := Lib.hid (show axpyL c q' q = lessD c p q p' q' by unfold axpyL lessD; rw [if_pos hl2, if_pos ⟨hl1, hl2⟩])
    have E1 := Lib.hid (show axpyE p' p = 0 from if_pos hl1)
    have E2 := Lib.hid (show axpyE q' q = 0 from if_pos hl2)
    have E3 := Lib.hid (show lessE p q p' q' = 0 from if_pos ⟨hl1, hl2⟩)
    clear hl1 hl2
    rw [E1.out, E2.out]
    go_wp2_with fail
    have HK6 := HK5.out.set2 (.slice a4 (axpyL c p' p).length c4) (.slice a5 (axpyL c q' q).length c5)
    have e0 := HK6.cell 0
    have e1 := HK6.cell 1
    have G6 : w5.grownBy ((w5.setCell ⟨w.heap.size + 1 + 1, 0, none⟩ (.slice a4 (axpyL c p' p).length c4)).setCell ⟨w.heap.size + 1 + 1, 1, none⟩ (.slice a5 (axpyL c q' q).length c5)) (some (w.heap.size + 1 + 1)) := grown_trans (grown_setCell _ ⟨_, _, _⟩ _) (grown_setCell _ ⟨_, _, _⟩ _)
    rw [E3.out, ← L1.out, ← L2.out]
    exact bodyPost_ret (v := .tuple #[.agg #[.slice a4 (axpyL c p' p).length c4, .slice a5 (axpyL c q' q).length c5], I64 0]) (by simp [results, Try.results15, go_sem, e0, e1]) rfl
      ⟨_, rfl, ⟨_, _, rfl, HV4'.out.other HK5.out N5 G6, HV5.out.other HK5.out N5 G6⟩, (B5.setCell (by show w.heap.size ≤ w.heap.size + 1 + 1; omega) _).setCell (by show w.heap.size ≤ w.heap.size + 1 + 1; omega) _⟩
  · have L1 := Lib.hid (show lessV c p q p' q' = [] from if_neg hl)
    have L2 := Lib.hid (show lessD c p q p' q' = [] from if_neg hl)
    have E3 := Lib.hid (show lessE p q p' q' = 4 from if_neg hl)
    have fin : ∀ W : World, w5.grownBy W (some (w.heap.size + 1 + 1)) → Below w.heap.size w W → RowsE w (lessV c p q p' q') (lessD c p q p' q') (lessE p q p' q') (.returned (.tuple #[.agg #[.slice none 0 0, .slice none 0 0], I64 4])) W := by
      intro W _ hB
      rw [E3.out, L1.out, L2.out]
      exact ⟨_, rfl, ⟨_, _, rfl, Bytes.nil _, Bytes.nil _⟩, hB⟩
    have HFIN := Lib.hid fin
    have HK6 := HK5.out.set2 (.slice none 0 0) (.slice none 0 0)
    have e0 := Lib.hid (HK6.cell 0)
    have e1 := Lib.hid (HK6.cell 1)
    clear fin HK6
    by_cases hl1 : p'.length = p.length
    · have hl2 : ¬ q'.length = q.length := fun h => hl ⟨hl1, h⟩
      have E1 := Lib.hid (show axpyE p' p = 0 from if_pos hl1)
      have E2 := Lib.hid (show axpyE q' q = 4 from if_neg hl2)
      clear hl hl1 hl2
      rw [E1.out, E2.out]
      go_wp2_with fail
      have e0' := e0.out
      have e1' := e1.out
      exact bodyPost_ret (v := .tuple #[.agg #[.slice none 0 0, .slice none 0 0], I64 4]) (by simp [results, Try.results15, go_sem, e0', e1']) rfl
        (HFIN.out _ (grown_trans (grown_setCell _ ⟨_, _, _⟩ _) (grown_setCell _ ⟨_, _, _⟩ _)) ((B5.setCell (by show w.heap.size ≤ w.heap.size + 1 + 1; omega) _).setCell (by show w.heap.size ≤ w.heap.size + 1 + 1; omega) _))
    · have E1 := Lib.hid (show axpyE p' p = 4 from if_neg hl1)
      clear hl hl1
      rw [E1.out]
      go_wp2_with fail
      have e0' := e0.out
      have e1' := e1.out
      exact bodyPost_ret (v := .tuple #[.agg #[.slice none 0 0, .slice none 0 0], I64 4]) (by simp [results, Try.results15, go_sem, e0', e1']) rfl
        (HFIN.out _ (grown_trans (grown_setCell _ ⟨_, _, _⟩ _) (grown_setCell _ ⟨_, _, _⟩ _)) ((B5.setCell (by show w.heap.size ≤ w.heap.size + 1 + 1; omega) _).setCell (by show w.heap.size ≤ w.heap.size + 1 + 1; omega) _))

end Go.Proofs.Ytgjjkiebfekkjaa
