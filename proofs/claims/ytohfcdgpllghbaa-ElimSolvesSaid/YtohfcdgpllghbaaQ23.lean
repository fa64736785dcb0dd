/- Texts of one seat, laid together: RefGridG, LaO, GridJ. -/
import Derived.Test.YtohfcdgpllghbaaQ22
import Derived.Test.YtohfcdgpllghbaaQ13
import Derived.Test.YtohfcdgpllghbaaQ17
import Derived.Test.YtohfcdgpllghbaaQ21

/-
  The document's answer for grids (wellspringref07), in the program: determinants.
-/
set_option maxRecDepth 100000
namespace Go.Proofs.Ytohfcdgpllghbaa
open Go.RowKit

/-- Rows without the first one, and without a place. -/
def outL (r : List Nat) (i : Nat) : List Nat := r.take i ++ r.drop (i + 1)
def withoutL (ll : List (List Nat)) (i : Nat) : List (List Nat) := (ll.drop 1).map fun r => outL r i
/-- The determinant of n rows, and its first k parts. -/
def detN : Nat → List (List Nat) → Nat
  | 0, _ => 1
  | n + 1, ll => (List.range (n + 1)).foldl (fun s i => s ^^^ Gf.mul (nth (rowAt ll 0) i) (detN n (withoutL ll i))) 0
def detK (n : Nat) (ll : List (List Nat)) (k : Nat) : Nat := (List.range k).foldl (fun s i => s ^^^ Gf.mul (nth (rowAt ll 0) i) (detN n (withoutL ll i))) 0
theorem detK_succ (n : Nat) (ll : List (List Nat)) (k : Nat) : detK n ll (k + 1) = detK n ll k ^^^ Gf.mul (nth (rowAt ll 0) k) (detN n (withoutL ll k)) := by
  unfold detK; rw [List.range_succ, List.foldl_append]; rfl
theorem detN_succ (n : Nat) (ll : List (List Nat)) : detN (n + 1) ll = detK n ll (n + 1) := rfl
theorem rowAt_lt {ll : List (List Nat)} (h : OctM ll) (i k : Nat) : nth (rowAt ll i) k < 256 := by
  by_cases hi : i < ll.length
  · exact nth_lt (h _ (by rw [rowAt_eq ll i hi]; exact List.getElem_mem hi)) k
  · have : rowAt ll i = [] := by unfold rowAt; rw [List.getD_eq_getElem?_getD, List.getElem?_eq_none (by omega)]; rfl
    rw [this]; show 0 < 256; decide
theorem detK_lt {ll : List (List Nat)} (h : OctM ll) (n : Nat) : ∀ k, detK n ll k < 256
  | 0 => show 0 < 256 by decide
  | k + 1 => by rw [detK_succ]; exact Gf.xor_lt (detK_lt h n k) (Gf.mul_lt (rowAt_lt h 0 k) _)
theorem outL_length {r : List Nat} {i : Nat} (h : i < r.length) : (outL r i).length = r.length - 1 := by simp [outL]; omega
theorem withoutL_length (ll : List (List Nat)) (i : Nat) : (withoutL ll i).length = ll.length - 1 := by simp [withoutL]
theorem withoutL_at (ll : List (List Nat)) (i k : Nat) (h : k + 1 < ll.length) : rowAt (withoutL ll i) k = outL (rowAt ll (k + 1)) i := by
  rw [rowAt_eq _ _ (by rw [withoutL_length]; omega), rowAt_eq ll (k + 1) h]
  simp [withoutL]
theorem withoutL_take (ll : List (List Nat)) (i k : Nat) (h : k + 1 < ll.length) : withoutL (ll.take (k + 2)) i = withoutL (ll.take (k + 1)) i ++ [outL (rowAt ll (k + 1)) i] := by
  unfold withoutL
  rw [take_rowAt ll (k + 1) h, List.drop_append_of_le_length (by simp; omega), List.map_append]
  rfl
theorem outL_lt {r : List Nat} (h : ∀ x, x ∈ r → x < 256) (i : Nat) : ∀ x, x ∈ outL r i → x < 256 := by
  intro x hx
  unfold outL at hx
  rcases List.mem_append.1 hx with h1 | h1
  · exact h x (List.mem_of_mem_take h1)
  · exact h x (List.mem_of_mem_drop h1)

/-- The first i of bytes, and those behind i. -/
theorem Bytes.take {w : World} {a : Option Addr} {n c : Nat} {l : List Nat} (h : Bytes w (.slice a n c) l) {i : Nat} (hi : i ≤ l.length) : Bytes w (.slice a i c) (l.take i) := by
  obtain ⟨a', cap', e, h1, h2, h3, h4⟩ := h
  simp only [Value.slice.injEq] at e
  obtain ⟨rfl, rfl, rfl⟩ := e
  have hl : (l.take i).length = i := by simp; omega
  refine ⟨a, c, by rw [hl], by omega, h2, fun x hx => h3 x (List.mem_of_mem_take hx), fun hne => ?_⟩
  obtain ⟨b', off', e, hlt, hc⟩ := h4 (by intro e; subst e; simp at hne)
  refine ⟨b', off', e, hlt, fun j hj => ?_⟩
  rw [hl] at hj
  rw [hc j (by omega), nth_eq _ _ (by omega), nth_eq _ _ (by omega)]; simp
theorem Bytes.drop {w : World} {b off n cap : Nat} {l : List Nat} (h : Bytes w (.slice (some ⟨b, off, none⟩) n cap) l) {i : Nat} (hi : i ≤ l.length) (a : Option Addr) (ha : i < l.length → a = some ⟨b, off + i, none⟩) (m c : Nat) (hm : m = l.length - i) (hc : l.length - i ≤ c) (hc2 : c ≤ 9223372036854775807) : Bytes w (.slice a m c) (l.drop i) := by
  subst hm
  have hl : (l.drop i).length = l.length - i := by simp
  obtain ⟨a', cap', e, h1, h2, h3, h4⟩ := h
  refine ⟨a, c, by rw [hl], by omega, hc2, fun x hx => h3 x (List.mem_of_mem_drop hx), fun hne => ?_⟩
  have hlt : i < l.length := by
    have := List.length_pos_iff.2 hne
    omega
  obtain ⟨b', off', rfl, hlt', hcell⟩ := h4 (by intro e; subst e; simp at hlt)
  simp only [Value.slice.injEq, Option.some.injEq, Addr.mk.injEq] at e
  obtain ⟨⟨rfl, rfl, _⟩, _, _⟩ := e
  refine ⟨b, off + i, ha hlt, hlt', fun j hj => ?_⟩
  rw [hl] at hj
  have := hcell (i + j) (by omega)
  rw [show off + i + j = off + (i + j) by omega, this, nth_eq _ _ (by omega), nth_eq _ _ (by omega)]; simp

set_option maxHeartbeats 1000000 in
theorem refwithout_any (v : Value) (ll : List (List Nat)) (m i : Nat) (w : World) (hR : IsRows w v ll) (hne : 1 ≤ ll.length) (hW : ∀ j, j < ll.length → (rowAt ll j).length = m) (hi : i < m) (hm : m ≤ 2000) (hlen : ll.length ≤ 2000) :
    Calls Try.prog 64 #[v, .int .i64 (i : Int)] w fun e w' => ∃ v', e = .returned v' ∧ IsRows w' v' (withoutL ll i) ∧ Below w.heap.size w w' := by
  have HR := Lib.hid hR
  have HO := Lib.hid hR.oct
  have HW := Lib.hid hW
  obtain ⟨b, off, u0, rfl⟩ : ∃ b off c, v = .slice (some ⟨b, off, none⟩) ll.length c := by
    obtain ⟨a, c, rfl⟩ := hR.shape
    obtain ⟨b, off, u, rfl, _⟩ := hR.row0 (Below.refl _ _) 0 (by omega)
    exact ⟨b, off, c, rfl⟩
  obtain ⟨hcl, hcm⟩ : ll.length ≤ u0 ∧ u0 ≤ 9223372036854775807 := by
    obtain ⟨_, _, e, h1, h2, _⟩ := hR
    simp only [Value.slice.injEq] at e
    rw [e.2.2]; exact ⟨h1, h2⟩
  clear hR hW
  have c1 : (1 : Int) ≤ (ll.length : Int) := by omega
  have c2 : (ll.length : Int) ≤ (u0 : Int) := by omega
  by_cases h1 : ll.length = 1
  · have HE := Lib.hid (show withoutL ll i = [] from List.length_eq_zero_iff.1 (by rw [withoutL_length]; omega))
    rw [h1] at c2 ⊢
    by_cases hq : u0 = 1
    all_goals
      go_enter Try.func64, Try.ntmps64
      go_wp2_with fail
      refine wp_loop_rounds 1 ?_
      rw [rounds_succ]
      go_wp2_with fail
      go_ret
      exact ⟨_, rfl, by rw [HE.out]; exact ⟨none, 0, rfl, by simp, by omega, fun h => absurd rfl h⟩, Below.refl _ _⟩
  · have hq : ¬ u0 = 1 := by omega
    go_enter Try.func64, Try.ntmps64
    go_wp2_with fail
    go_loopw [5, 7, 8, 12] (fun v _ _ x wr => ∃ k : Nat, k ≤ ll.length - 1 ∧ x = .int .i64 k ∧ OwnM wr w.heap.size 35 v (withoutL (ll.take (k + 1)) i) ∧ Below w.heap.size w wr) (fun _ _ _ x _ => ll.length - 1 - (intOf x).toNat)
    case atStart => exact ⟨0, by omega, rfl, by
      have e : withoutL (ll.take (0 + 1)) i = [] := List.length_eq_zero_iff.1 (by rw [withoutL_length]; simp; omega)
      rw [e]; exact OwnM.nil _ _ _, Below.refl _ _⟩
    case round =>
      obtain ⟨k, hk, rfl, hM, B⟩ := hrel
      have HM := Lib.hid hM
      obtain ⟨va, vc, rfl⟩ := hM.shape
      clear hM
      have hz := B.size
      have HWL := Lib.hid (show (withoutL (ll.take (k + 1)) i).length = k by rw [withoutL_length]; simp; omega)
      by_cases hlt : k < ll.length - 1
      · obtain ⟨rb, ro, u, er, hu, hBr⟩ := HR.out.row B (k + 1) (by omega)
        simp only [Option.some.injEq, Addr.mk.injEq, and_true] at er
        obtain ⟨rfl, rfl⟩ := er
        rw [show off + (k + 1) = off + 1 + k by omega] at hu
        have HRR := Lib.hid hBr
        have hrl := HW.out (k + 1) (by omega)
        obtain ⟨ua, uc, rfl, huc1, huc2, _, h4⟩ := id hBr
        obtain ⟨ub, uo, rfl, _⟩ := h4 (by intro e; rw [e] at hrl; simp at hrl; omega)
        have HRL := Lib.hid hrl
        have HST := Lib.hid (withoutL_take ll i k (by omega))
        have HOK := Lib.hid (outL_lt HRR.out.lt i)
        have i0 : (0 : Int) ≤ (i : Int) := Int.natCast_nonneg _
        have i1 : (i : Int) ≤ (uc : Int) := by omega
        have i2 : (i : Int) + 1 ≤ ((rowAt ll (k + 1)).length : Int) := by omega
        have i3 : ((rowAt ll (k + 1)).length : Int) ≤ (uc : Int) := by omega
        have i4 : i ≤ (rowAt ll (k + 1)).length := by omega
        have i5 : i + 1 ≤ (rowAt ll (k + 1)).length := by omega
        clear hBr h4 hrl
        go_wp2_with (at_builtin; refine wpList_append_bytes rfl (.tmp 16) (.tmp 19) rfl wr.heap.size _ _ [] ((rowAt ll (k + 1)).take i) rfl rfl (Owns.nil _ _) (HRR.out.take i4) (Nat.le_refl _) ?c1 ?_)
        case c1 => simp; omega
        intro v1 w1 o1 g1
        have HO1 := Lib.hid (show Owns w1 wr.heap.size v1 ((rowAt ll (k + 1)).take i) by simpa using o1)
        have HB1 := Lib.hid (show Below wr.heap.size wr w1 from (Below.refl _ _).grown g1 (Nat.le_refl _) (fun k e => by cases e))
        have HR1 := Lib.hid (HRR.out.go HB1.out)
        have HI6 := Lib.hid i5
        have HI3 := Lib.hid (show (rowAt ll (k + 1)).length ≤ uc by omega)
        have HUC := Lib.hid huc2
        clear o1 g1
        by_cases huc : uc = i + 1
        all_goals
          have HUQ := Lib.hid huc
          go_wp2_with (at_builtin; refine wpList_append_bytes rfl (.tmp 22) (.tmp 26) rfl wr.heap.size _ _ ((rowAt ll (k + 1)).take i) ((rowAt ll (k + 1)).drop (i + 1)) rfl rfl HO1.out (HR1.out.drop HI6.out _ (by intro h; first | rfl | (exact absurd h (by have := HUQ.out; have := HI3.out; omega))) _ _ (by have := HUQ.out; have := HI3.out; have := HI6.out; omega) (by have := HUQ.out; have := HI3.out; omega) (by have := HUC.out; omega)) HB1.out.size ?c2 ?_)
          case c2 => have := HRL.out; simp; omega
          intro v2 w2 o2 g2
          have HO2 := Lib.hid (show Owns w2 wr.heap.size v2 (outL (rowAt ll (k + 1)) i) from o2)
          have HB2 := Lib.hid (show Below wr.heap.size wr w2 from HB1.out.grown g2 HB1.out.size HO1.out.from)
          obtain ⟨va2, vn2, vc2, rfl⟩ := o2.shape
          have HBY := Lib.hid (HO2.out.bytes HOK.out)
          replace HM := Lib.hid (HM.out.go HB2.out)
          replace B := B.trans (HB2.out.mono hz)
          have hz2 := B.size
          clear o2 g2
          go_wp2_with (at_builtin; refine wpList_append_m rfl (.tmp 21) (.tmp 28) rfl w.heap.size w2.heap.size _ _ (withoutL (ll.take (k + 1)) i) (outL (rowAt ll (k + 1)) i) 35 rfl rfl rfl HBY.out HM.out ?c3 ?c4 ?_)
          case c3 => exact hz2
          case c4 => rw [HWL.out]; omega
          intro v' w3 hown3 hgr hs3
          rw [← HST.out] at hown3
          have HO3 := Lib.hid hown3
          have HG := Lib.hid ((B.alloc hz2 _).grown hgr (by simp; omega) HM.out.from)
          clear hown3 hgr hs3
          go_wp2_with fail
          go_roundw
          case rel => exact ⟨k + 1, by omega, by go_num, HO3.out, HG.out⟩
          case measure => simp [intOf]; omega
      · obtain rfl : k = ll.length - 1 := by omega
        have HE := Lib.hid (show ll.take (ll.length - 1 + 1) = ll by rw [show ll.length - 1 + 1 = ll.length by omega, List.take_length])
        rw [HE.out] at HM ⊢
        go_wp2_with fail
        go_ret
        exact ⟨_, rfl, HM.out.rows, B⟩

set_option maxHeartbeats 1000000 in
theorem refdet_zero (a : Option Addr) (c : Nat) (w : World) :
    Calls Try.prog 27 #[.slice a 0 c] w fun e w' => e = .returned (U8 1) ∧ Below w.heap.size w w' := by
  go_enter Try.func27, Try.ntmps27
  go_wp2_with fail
  go_ret
  exact ⟨rfl, Below.refl _ _⟩

/-- A square of n rows. -/
def Sq (n : Nat) (ll : List (List Nat)) : Prop := ll.length = n ∧ ∀ j, j < ll.length → (rowAt ll j).length = n
theorem Sq.without {n : Nat} {ll : List (List Nat)} (h : Sq (n + 1) ll) {i : Nat} (hi : i < n + 1) : Sq n (withoutL ll i) := by
  refine ⟨by rw [withoutL_length, h.1]; rfl, fun j hj => ?_⟩
  rw [withoutL_length] at hj
  rw [withoutL_at ll i j (by omega), outL_length (by rw [h.2 _ (by omega)]; exact hi), h.2 _ (by omega)]; rfl

set_option maxHeartbeats 1000000 in
theorem refdet_any : ∀ (n : Nat), n ≤ 1000 → ∀ (v : Value) (ll : List (List Nat)) (w : World), IsRows w v ll → Sq n ll →
    Calls Try.prog 27 #[v] w fun e w' => e = .returned (U8 (detN n ll)) ∧ Below w.heap.size w w'
  | 0, _, v, ll, w, hR, hS => by
    obtain ⟨a, c, rfl⟩ := hR.shape
    rw [hS.1]
    exact refdet_zero a c w
  | n + 1, hn, v, ll, w, hR, hS => by
    have IH := Lib.hid (refdet_any n (by omega))
    have HR := Lib.hid hR
    have HS := Lib.hid hS
    have HO := Lib.hid hR.oct
    obtain ⟨a, c, rfl⟩ := hR.shape
    obtain ⟨hl, hw⟩ := hS
    have HW := Lib.hid hw
    have hb1 : ((ll.length : Int) == 0) = false := beq_eq_false_iff_ne.2 (by omega)
    have HL := Lib.hid hl
    have hcap : ll.length ≤ 1001 := by omega
    have hpos : 0 < ll.length := by omega
    clear hR hw hl
    go_enter Try.func27, Try.ntmps27
    go_wp2_with fail
    go_loopw [3, 4, 10] (fun s _ i wr => ∃ k : Nat, k ≤ ll.length ∧ i = .int .i64 k ∧ s = U8 (detK n ll k) ∧ Below w.heap.size w wr) (fun _ _ i _ => ll.length - (intOf i).toNat)
    case atStart => exact ⟨0, by omega, rfl, rfl, Below.refl _ _⟩
    case round =>
      obtain ⟨k, hk, rfl, rfl, B⟩ := hrel
      by_cases hlt : k < ll.length
      · obtain ⟨b, off, u, rfl, hu, hBr⟩ := HR.out.row B 0 hpos
        obtain ⟨ua, uc, rfl, _⟩ := id hBr
        have hrl := HW.out 0 hpos
        rw [Nat.add_zero] at hu
        have HRL := Lib.hid hrl
        obtain ⟨cb, co, rfl, hcc⟩ := hBr.at k (by rw [hrl, ← HL.out]; exact hlt)
        have HCC := Lib.hid hcc
        have k0 : (0 : Int) ≤ (k : Int) := Int.natCast_nonneg _
        have k1 : (k : Int) < (ll.length : Int) := by omega
        have kr : k < (rowAt ll 0).length := by rw [hrl, ← HL.out]; exact hlt
        have hp1 : (0 : Int) < (ll.length : Int) := by omega
        have q1 : nth (rowAt ll 0) k < 256 := rowAt_lt HO.out 0 k
        have HX := Lib.hid (show bits BinOp.xor IntKind.u8 (detK n ll k : Int) (Gf.mul (nth (rowAt ll 0) k) (detN n (withoutL ll k)) : Int) = (detK n ll (k + 1) : Int) by
          rw [u8_xor_nat _ _ (detK_lt HO.out n k) (Gf.mul_lt q1 _), detK_succ])
        have HRr := Lib.hid (HR.out.go B)
        have HSW := Lib.hid (HS.out.without (i := k) (by rw [← HL.out]; exact hlt))
        have kn : k < n + 1 := by rw [← HL.out]; exact hlt
        clear hBr hrl
        go_wp2_with fail
        refine wp_region_mono (C := Cb wr) (R := Rb) (H := Hz) [TyZ.val 13 (U8 (detK n ll k)), TyZ.val 14 (.slice (some ⟨b, off, none⟩) ll.length c), TyZ.val 15 (.pointer (some ⟨b, off, none⟩)), TyZ.val 16 (.slice (some ⟨cb, co, none⟩) (rowAt ll 0).length uc), TyZ.val 17 (.int .i64 (k : Int)), TyZ.val 18 (.pointer (some ⟨cb, co + k, none⟩)), TyZ.val 19 (U8 (nth (rowAt ll 0) k)), TyZ.val 20 (.slice (some ⟨b, off, none⟩) ll.length c), TyZ.val 21 (.int .i64 (k : Int)), TyZ.rows 22 (withoutL ll k), TyZ.val 23 (U8 (detN n (withoutL ll k))), TyZ.val 24 (U8 (Gf.mul (nth (rowAt ll 0) k) (detN n (withoutL ll k)))), TyZ.val 25 (U8 (detK n ll (k + 1))), TyZ.val 3 (U8 (detK n ll (k + 1)))] (by kernel_rfl) (hC_b wr) (hCH_z wr) (drew_b wr) ⟨trivial, trivial, trivial, trivial, trivial, trivial, trivial, trivial, trivial, trivial, trivial, trivial, trivial, trivial, trivial⟩ (by kernel_rfl) ?_ ?_
        · refine ⟨?_, ?_, ?_, ?_, ?_, ?_, ?_, ?_, ?_, ?_, ?_, ?_, ?_, ?_, trivial⟩
          · intro ac wc hC hsz hfr hd hpr
            have d3 : ac.eval (.tmp 3) = (U8 (detK n ll k)) := hfr 3 rfl
            rw [if_pos (wanted_none rfl)]
            exact ob_copy rfl rfl rfl (Nat.lt_of_lt_of_eq (by decide : 13 < 28) hsz.symm) (Or.inl rfl) (Below.refl _ _) d3
          · intro ac wc hC hsz hfr hd hpr
            have d0 : ac.eval (.tmp 0) = (.slice (some ⟨b, off, none⟩) ll.length c) := hfr 0 rfl
            rw [if_pos (wanted_none rfl)]
            exact ob_copy rfl rfl rfl (Nat.lt_of_lt_of_eq (by decide : 14 < 28) hsz.symm) (Or.inl rfl) (Below.refl _ _) d0
          · intro ac wc hC hsz hfr hd hpr
            have d14 : ac.eval (.tmp 14) = (.slice (some ⟨b, off, none⟩) ll.length c) := hd 1 rfl
            rw [if_pos (wanted_none rfl)]
            exact ob_index _ rfl rfl rfl (Nat.lt_of_lt_of_eq (by decide : 15 < 28) hsz.symm) rfl d14 rfl (by go_simp) (Below.refl _ _) rfl
          · intro ac wc hC hsz hfr hd hpr
            have d15 : ac.eval (.tmp 15) = (.pointer (some ⟨b, off, none⟩)) := hd 2 rfl
            rw [if_pos (wanted_none rfl)]
            exact ob_load _ rfl rfl rfl (Nat.lt_of_lt_of_eq (by decide : 16 < 28) hsz.symm) rfl d15 (load_bytes (cell_keep hu hC)) (Below.refl _ _) rfl
          · intro ac wc hC hsz hfr hd hpr
            have d4 : ac.eval (.tmp 4) = (.int .i64 (k : Int)) := hfr 4 rfl
            rw [if_pos (wanted_none rfl)]
            exact ob_copy rfl rfl rfl (Nat.lt_of_lt_of_eq (by decide : 17 < 28) hsz.symm) (Or.inl rfl) (Below.refl _ _) d4
          · intro ac wc hC hsz hfr hd hpr
            have d16 : ac.eval (.tmp 16) = (.slice (some ⟨cb, co, none⟩) (rowAt ll 0).length uc) := hd 3 rfl
            have d17 : ac.eval (.tmp 17) = (.int .i64 (k : Int)) := hd 4 rfl
            rw [if_pos (wanted_none rfl)]
            exact ob_index _ rfl rfl rfl (Nat.lt_of_lt_of_eq (by decide : 18 < 28) hsz.symm) rfl d16 d17 (index_bytes _ kr) (Below.refl _ _) rfl
          · intro ac wc hC hsz hfr hd hpr
            have d18 : ac.eval (.tmp 18) = (.pointer (some ⟨cb, co + k, none⟩)) := hd 5 rfl
            rw [if_pos (wanted_none rfl)]
            exact ob_load _ rfl rfl rfl (Nat.lt_of_lt_of_eq (by decide : 19 < 28) hsz.symm) rfl d18 (load_u8 (cell_keep HCC.out hC)) (Below.refl _ _) rfl
          · intro ac wc hC hsz hfr hd hpr
            have d0 : ac.eval (.tmp 0) = (.slice (some ⟨b, off, none⟩) ll.length c) := hfr 0 rfl
            rw [if_pos (wanted_none rfl)]
            exact ob_copy rfl rfl rfl (Nat.lt_of_lt_of_eq (by decide : 20 < 28) hsz.symm) (Or.inl rfl) (Below.refl _ _) d0
          · intro ac wc hC hsz hfr hd hpr
            have d4 : ac.eval (.tmp 4) = (.int .i64 (k : Int)) := hfr 4 rfl
            rw [if_pos (wanted_none rfl)]
            exact ob_copy rfl rfl rfl (Nat.lt_of_lt_of_eq (by decide : 21 < 28) hsz.symm) (Or.inl rfl) (Below.refl _ _) d4
          · intro ac wc hC hsz hfr hd hpr
            have d20 : ac.eval (.tmp 20) = (.slice (some ⟨b, off, none⟩) ll.length c) := hd 7 rfl
            have d21 : ac.eval (.tmp 21) = (.int .i64 (k : Int)) := hd 8 rfl
            rw [if_pos (wanted_none rfl)]
            refine ob_call rfl rfl rfl (Nat.lt_of_lt_of_eq (by decide : 22 < 28) hsz.symm) rfl (enter_of Try.func64 (by kernel_rfl) rfl) ?_
            show Calls Try.prog 64 #[ac.eval (.tmp 20), ac.eval (.tmp 21)] wc _
            rw [d20, d21]
            exact refwithout_any _ ll (n + 1) k wc (HRr.out.go hC) hpos HW.out kn (by omega) (by omega)
          · intro ac wc hC hsz hfr hd hpr
            have d22 : IsRows wc (ac.eval (.tmp 22)) (withoutL ll k) := hd 9 rfl
            rw [if_pos (wanted_none rfl)]
            refine ob_call rfl rfl rfl (Nat.lt_of_lt_of_eq (by decide : 23 < 28) hsz.symm) rfl (enter_of Try.func27 (by kernel_rfl) rfl) ?_
            show Calls Try.prog 27 #[ac.eval (.tmp 22)] wc _
            exact (IH.out _ _ wc d22 HSW.out).mono fun _ _ ⟨he, hb⟩ => ⟨_, he, rfl, hb⟩
          · intro ac wc hC hsz hfr hd hpr
            have d19 : ac.eval (.tmp 19) = (U8 (nth (rowAt ll 0) k)) := hd 6 rfl
            have d23 : ac.eval (.tmp 23) = (U8 (detN n (withoutL ll k))) := hd 10 rfl
            rw [if_pos (wanted_none rfl)]
            refine ob_call rfl rfl rfl (Nat.lt_of_lt_of_eq (by decide : 24 < 28) hsz.symm) rfl (enter_of Try.func63 (by kernel_rfl) rfl) ?_
            show Calls Try.prog 63 #[ac.eval (.tmp 19), ac.eval (.tmp 23)] wc _
            rw [d19, d23]
            exact (refmul_any _ _ wc q1).mono fun _ _ ⟨he, hw⟩ => ⟨_, he, rfl, hw ▸ Below.refl _ _⟩
          · intro ac wc hC hsz hfr hd hpr
            have d13 : ac.eval (.tmp 13) = (U8 (detK n ll k)) := hd 0 rfl
            have d24 : ac.eval (.tmp 24) = (U8 (Gf.mul (nth (rowAt ll 0) k) (detN n (withoutL ll k)))) := hd 11 rfl
            rw [if_pos (wanted_none rfl)]
            exact ob_bin _ rfl rfl rfl (Nat.lt_of_lt_of_eq (by decide : 25 < 28) hsz.symm) rfl d13 d24 (xor_u8 HX.out) (Below.refl _ _) rfl
          · intro ac wc hC hsz hfr hd hpr
            have d25 : ac.eval (.tmp 25) = (U8 (detK n ll (k + 1))) := hd 12 rfl
            rw [if_pos (wanted_none rfl)]
            exact ob_copy rfl rfl rfl (Nat.lt_of_lt_of_eq (by decide : 3 < 28) hsz.symm) (Or.inr rfl) (Below.refl _ _) d25
        intro a' w6 hC hdef hsz hfr hd
        have e13 : a'.eval (.tmp 13) = (U8 (detK n ll k)) := hd 0 (by decide)
        have e14 : a'.eval (.tmp 14) = (.slice (some ⟨b, off, none⟩) ll.length c) := hd 1 (by decide)
        have e15 : a'.eval (.tmp 15) = (.pointer (some ⟨b, off, none⟩)) := hd 2 (by decide)
        have e16 : a'.eval (.tmp 16) = (.slice (some ⟨cb, co, none⟩) (rowAt ll 0).length uc) := hd 3 (by decide)
        have e17 : a'.eval (.tmp 17) = (.int .i64 (k : Int)) := hd 4 (by decide)
        have e18 : a'.eval (.tmp 18) = (.pointer (some ⟨cb, co + k, none⟩)) := hd 5 (by decide)
        have e19 : a'.eval (.tmp 19) = (U8 (nth (rowAt ll 0) k)) := hd 6 (by decide)
        have e20 : a'.eval (.tmp 20) = (.slice (some ⟨b, off, none⟩) ll.length c) := hd 7 (by decide)
        have e21 : a'.eval (.tmp 21) = (.int .i64 (k : Int)) := hd 8 (by decide)
        obtain ⟨x22, e22, r22⟩ : ∃ xq_, a'.eval (.tmp 22) = xq_ ∧ IsRows w6 (xq_) (withoutL ll k) := ⟨_, rfl, hd 9 (by decide)⟩
        replace r22 := Lib.hid r22
        have e23 : a'.eval (.tmp 23) = (U8 (detN n (withoutL ll k))) := hd 10 (by decide)
        have e24 : a'.eval (.tmp 24) = (U8 (Gf.mul (nth (rowAt ll 0) k) (detN n (withoutL ll k)))) := hd 11 (by decide)
        have e25 : a'.eval (.tmp 25) = (U8 (detK n ll (k + 1))) := hd 12 (by decide)
        have e3 : a'.eval (.tmp 3) = (U8 (detK n ll (k + 1))) := hd 13 (by decide)
        have hact := act_puts hdef hsz hfr
        simp only [dstsOf, List.filterMap, putAll, Act.put, List.setIfInBounds_toArray, List.set_cons_succ, List.set_cons_zero, e13, e14, e15, e16, e17, e18, e19, e20, e21, e22, e23, e24, e25, e3] at hact
        clear hd hfr hsz hdef e13 e14 e15 e16 e17 e18 e19 e20 e21 e22 e23 e24 e25 e3
        subst hact
        replace B := B.trans (hC.mono B.size)
        go_wp2_with fail
        go_roundw
        case rel => exact ⟨k + 1, by omega, by go_num, rfl, B⟩
        case measure => simp [intOf]; omega
      · obtain rfl : k = ll.length := by omega
        have HE := Lib.hid (show detN (n + 1) ll = detK n ll ll.length by rw [detN_succ, HL.out])
        go_wp2_with fail
        go_ret
        exact ⟨by rw [HE.out]; rfl, B⟩

end Go.Proofs.Ytohfcdgpllghbaa

/-
  Grids as matrices (layer 7): turned, multiplied, and their determinants. No program in this text.
-/
set_option maxRecDepth 100000
namespace Go.Proofs.Ytohfcdgpllghbaa
open La

/-- A grid as a matrix. -/
def mat (ll : List (List Nat)) : Nat → Vc := fun i => fv (rowAt ll i)
theorem mat_rows (ll : List (List Nat)) : rows (mat ll) ll.length = ll.map fv := by
  unfold rows mat
  apply List.ext_getElem
  · simp
  · intro i h1 h2
    have hi : i < ll.length := by simpa using h2
    simp only [List.getElem_map, List.getElem_range]
    rw [rowAt_eq ll i hi]
theorem rankL_mat (k : Nat) (ll : List (List Nat)) : rankL k ll = rk k (Sp (rows (mat ll) ll.length)) := by unfold rankL; rw [mat_rows]
theorem rowAt_oct {ll : List (List Nat)} (h : OctM ll) (i : Nat) : Oct (rowAt ll i) := by
  by_cases hi : i < ll.length
  · rw [rowAt_eq ll i hi]; exact h _ (List.getElem_mem hi)
  · have : rowAt ll i = [] := by unfold rowAt; rw [List.getD_eq_getElem?_getD, List.getElem?_eq_none (by omega)]; rfl
    rw [this]; intro z hz; cases hz
theorem mat_short {ll : List (List Nat)} {k : Nat} (hk : ∀ j, j < ll.length → (rowAt ll j).length = k) {i : Nat} (hi : i < ll.length) : Short k (mat ll i) := fv_short' (hk i hi)

/-- A combination, as one of vectors. -/
theorem combAt_sm {cs : List Nat} {ll : List (List Nat)} (hc : Oct cs) (hO : OctM ll) (j : Nat) : ∀ n, bt (combAt cs ll j n) = sm (fun t => bt (nth cs t) * mat ll t j) n
  | 0 => rfl
  | n + 1 => by
    show bt (combAt cs ll j n ^^^ Gf.mul (nth cs n) (nth (rowAt ll n) j)) = sm _ n + bt (nth cs n) * bt (nth (rowAt ll n) j)
    rw [bt_xor (combAt_lt hc ll j n) (Gf.mul_lt (nth_lt hc n) _), bt_mul (nth_lt hc n) (nth_lt (rowAt_oct hO n) j), combAt_sm hc hO j n]
theorem combT_nth (cs : List Nat) (ll : List (List Nat)) {m j : Nat} (h : j < m) : nth (combT cs ll m) j = combAt cs ll j ll.length := by
  rw [nth_eq _ _ (by rw [combT_length]; exact h)]; simp [combT]
theorem combT_fv {cs : List Nat} {ll : List (List Nat)} {m : Nat} (hc : Oct cs) (hO : OctM ll) (hk : ∀ j, j < ll.length → (rowAt ll j).length = m) : fv (combT cs ll m) = lc (fun t => bt (nth cs t)) (mat ll) ll.length := funext fun j => by
  show bt (nth (combT cs ll m) j) = sm (fun t => bt (nth cs t) * mat ll t j) ll.length
  by_cases hj : j < m
  · rw [combT_nth cs ll hj, combAt_sm hc hO]
  · rw [nth_out (by rw [combT_length]; omega)]
    exact (sm_zero fun t ht => by rw [mat_short hk ht j (by omega), bmul_zero]).symm
theorem mulL_at {A bb : List (List Nat)} {m i : Nat} (hi : i < A.length) : rowAt (mulL A bb m) i = combT (rowAt A i) bb m := by
  rw [rowAt_eq _ _ (by rw [mulL_length]; exact hi), rowAt_eq A i hi]; simp [mulL]
theorem mulL_mat {A bb : List (List Nat)} {m i : Nat} (hA : OctM A) (hB : OctM bb) (hk : ∀ j, j < bb.length → (rowAt bb j).length = m) (hi : i < A.length) : mat (mulL A bb m) i = mm (mat A) (mat bb) bb.length i := by
  show fv (rowAt (mulL A bb m) i) = lc (fun t => bt (nth (rowAt A i) t)) (mat bb) bb.length
  rw [mulL_at hi]; exact combT_fv (rowAt_oct hA i) hB hk

/-- Turned, as a matrix. -/
theorem nth_colL (ll : List (List Nat)) (j i : Nat) : nth (colL ll j) i = if i < ll.length then nth (rowAt ll i) j else 0 := by
  split
  · rename_i h
    rw [nth_eq _ _ (by rw [colL_length]; exact h), rowAt_eq ll i h]; simp [colL]
  · rw [nth_out (by rw [colL_length]; omega)]
theorem turnedL_at (ll : List (List Nat)) {m j : Nat} (hj : j < m) : rowAt (turnedL ll m) j = colL ll j := by
  rw [rowAt_eq _ _ (by rw [turnedL_length]; exact hj)]; simp [turnedL]
theorem turnedL_mat (ll : List (List Nat)) {m j : Nat} (hj : j < m) : mat (turnedL ll m) j = trn ll.length (mat ll) j := funext fun i => by
  show bt (nth (rowAt (turnedL ll m) j) i) = if i < ll.length then bt (nth (rowAt ll i) j) else 0
  rw [turnedL_at ll hj, nth_colL]
  split <;> rfl
theorem turnedL_oct {ll : List (List Nat)} (h : OctM ll) (m : Nat) : OctM (turnedL ll m) := fun r hr => by
  obtain ⟨j, _, rfl⟩ := List.mem_map.1 hr
  exact colL_lt h j
theorem rank_turned {ll : List (List Nat)} {k : Nat} (hk : ∀ j, j < ll.length → (rowAt ll j).length = k) : rankL ll.length (turnedL ll k) = rankL k ll := by
  rw [rankL_mat, rankL_mat, turnedL_length, rows_congr fun j hj => turnedL_mat ll hj]
  exact rk_turn fun i hi => mat_short hk hi
theorem mulL_oct {A : List (List Nat)} (hA : OctM A) (bb : List (List Nat)) (m : Nat) : OctM (mulL A bb m) := fun r hr => by
  obtain ⟨x, hx, rfl⟩ := List.mem_map.1 hr
  exact combT_lt (hA x hx) bb m
theorem rank_mul {A bb : List (List Nat)} {m : Nat} (hA : OctM A) (hB : OctM bb) (hl : ∀ j, j < A.length → (rowAt A j).length = bb.length) (hk : ∀ j, j < bb.length → (rowAt bb j).length = m) : rankL m (mulL A bb m) ≤ rankL bb.length A ∧ rankL m (mulL A bb m) ≤ rankL m bb := by
  rw [rankL_mat, rankL_mat, rankL_mat, mulL_length, rows_congr fun j hj => mulL_mat hA hB hk hj]
  exact ⟨rk_mm_left (fun i hi => mat_short hl hi) fun i hi => mat_short hk hi, rk_mm_right _ _⟩

/-! ### Determinants -/

theorem P_sm (f : Nat → List Nat → B) (l : List Nat) : P f l = sm (fun p => f (l.getD p 0) (l.eraseIdx p)) l.length := by
  induction l generalizing f with
  | nil => rfl
  | cons x xs ih =>
    show f x xs + P (fun y ys => f y (x :: ys)) xs = sm _ (xs.length + 1)
    rw [sm_front, ih]
    rfl
theorem rows_cons (V : Nat → Vc) (n : Nat) : rows V (n + 1) = V 0 :: rows (fun i => V (i + 1)) n := by
  unfold rows; rw [List.range_succ_eq_map, List.map_cons, List.map_map]; rfl
theorem detK_sm {ll : List (List Nat)} (hO : OctM ll) (n : Nat) (hd : ∀ i, detN n (withoutL ll i) < 256) : ∀ k, bt (detK n ll k) = sm (fun p => bt (nth (rowAt ll 0) p) * bt (detN n (withoutL ll p))) k
  | 0 => rfl
  | k + 1 => by
    rw [detK_succ, bt_xor (detK_lt hO n k) (Gf.mul_lt (rowAt_lt hO 0 k) _), bt_mul (rowAt_lt hO 0 k) (hd k), detK_sm hO n hd k]; rfl
theorem withoutL_oct {ll : List (List Nat)} (h : OctM ll) (i : Nat) : OctM (withoutL ll i) := fun r hr => by
  obtain ⟨x, hx, rfl⟩ := List.mem_map.1 hr
  exact outL_lt (h x (List.mem_of_mem_drop hx)) i
theorem detN_lt : ∀ (n : Nat) {ll : List (List Nat)}, OctM ll → detN n ll < 256
  | 0, _, _ => by show 1 < 256; decide
  | n + 1, ll, h => by rw [detN_succ]; exact detK_lt h n _
theorem nth_outL (r : List Nat) {p q : Nat} (hp : p < r.length) : nth (outL r p) q = nth r (if q < p then q else q + 1) := by
  unfold outL
  rw [nth_append]
  have e : (r.take p).length = p := by simp; omega
  rw [e]
  unfold nth
  rw [List.getD_eq_getElem?_getD, List.getD_eq_getElem?_getD, List.getD_eq_getElem?_getD]
  split
  · rename_i h; rw [List.getElem?_take_of_lt h]
  · rename_i h; rw [List.getElem?_drop, show p + 1 + (q - p) = q + 1 by omega]
theorem getD_eraseIdx (l : List Nat) {p q : Nat} : (l.eraseIdx p).getD q 0 = l.getD (if q < p then q else q + 1) 0 := by
  rw [List.getD_eq_getElem?_getD, List.getD_eq_getElem?_getD, List.getElem?_eraseIdx]
  split <;> rfl
theorem det_D : ∀ (n : Nat) (ll : List (List Nat)) (V : Nat → Vc) (cols : List Nat), Sq n ll → OctM ll → cols.length = n → (∀ i p, i < n → p < n → bt (nth (rowAt ll i) p) = V i (cols.getD p 0)) → bt (detN n ll) = D (rows V n) cols
  | 0, _, _, _, _, _, _, _ => rfl
  | n + 1, ll, V, cols, hS, hO, hc, hV => by
    rw [detN_succ, detK_sm hO n fun i => detN_lt n (withoutL_oct hO i), rows_cons, D_cons, P_sm, hc]
    refine sm_congr fun p hp => ?_
    rw [hV 0 p (by omega) hp]
    congr 1
    refine det_D n (withoutL ll p) (fun i => V (i + 1)) (cols.eraseIdx p) (hS.without hp) (withoutL_oct hO p) (by rw [List.length_eraseIdx_of_lt (by omega), hc]; rfl) fun i q hi hq => ?_
    have hlen := hS.2 (i + 1) (by rw [hS.1]; omega)
    rw [withoutL_at ll p i (by rw [hS.1]; omega), nth_outL _ (by rw [hlen]; exact hp), getD_eraseIdx]
    exact hV (i + 1) _ (by omega) (by split <;> omega)
/-- A square's determinant isn't 0 just where its rank is full. -/
theorem det_rank {n : Nat} {ll : List (List Nat)} (hS : Sq n ll) (hO : OctM ll) : detN n ll ≠ 0 ↔ rankL n ll = n := by
  have h := det_D n ll (mat ll) (List.range n) hS hO (by simp) fun i p _ hp => by
    show bt _ = bt (nth (rowAt ll i) _)
    rw [List.getD_eq_getElem?_getD, List.getElem?_range hp]; rfl
  rw [rankL_mat, hS.1, ← D_rank fun i hi => mat_short hS.2 (by rw [hS.1]; exact hi), ← h]
  exact (bt_ne (detN_lt n hO)).symm

end Go.Proofs.Ytohfcdgpllghbaa

/-
  Grids in the program (layer 7): 'Turned'.
-/
set_option maxRecDepth 100000
namespace Go.Proofs.Ytohfcdgpllghbaa
open Go.RowKit

/-- A value without bytes stored at a place of such a list. -/
theorem OwnN.set1 {w : World} {B g n cap : Nat} {T : TypeId} {us : List Value} (h1 : OwnN w B T 1 (.slice (some ⟨g, 0, none⟩) n cap) n us) (k : Nat) {x : Value} (nx : ∀ m : Nat, x ≠ U8 m) :
    OwnN (w.setCell ⟨g, k, none⟩ x) B T 1 (.slice (some ⟨g, 0, none⟩) n cap) n (us.set k x) ∧ Soft w (w.setCell ⟨g, k, none⟩ x) ∧ w.grownBy (w.setCell ⟨g, k, none⟩ x) (some g) := by
  obtain ⟨s1, hg⟩ := World.ownsRow.stored h1.1 k x
  obtain ⟨cur, fr, hcur⟩ : ∃ cur fr, w.heap[g]? = some (.cells cur T fr) := by
    rcases h1.1.2 with ⟨e, _⟩ | ⟨g', cap', cur, e, _, hgg, _⟩
    · cases e
    · simp only [Value.slice.injEq, Option.some.injEq, Addr.mk.injEq] at e
      obtain ⟨⟨rfl, _⟩, _⟩ := e
      exact ⟨cur, (0, 0), hgg⟩
  have hloose := h1.2 g rfl
  have hl2 : Loose (w.setCell ⟨g, k, none⟩ x) g := by
    intro i m
    have e1 : (w.setCell ⟨g, k, none⟩ x).heap[g]? = some (.cells (cur.setIfInBounds k x) T fr) := by
      unfold World.setCell
      simp [Array.getElem?_modify, hcur]
    rw [cell_of_row _ g i _ _ fr e1]
    have e2 := hloose i m
    rw [cell_of_row w g i cur T fr hcur] at e2
    rw [Array.getElem?_setIfInBounds]
    intro e3
    split at e3
    · split at e3
      · exact nx m (Option.some.inj e3)
      · cases e3
    · exact e2 e3
  exact ⟨⟨s1, fun b e => by
    simp only [Value.ownBlock, Option.some.injEq] at e
    subst e; exact hl2⟩, Soft.of_grown hg fun b e => by
    simp only [Option.some.injEq] at e
    subst e; exact ⟨hloose, hl2⟩, hg⟩

/-- A row that is made, laid into the list, and filled then: what the list holds. -/
theorem OwnM.refill {w0 w1 wr : World} {B g n cap gb i : Nat} {T : TypeId} {L : List (List Nat)} {l : List Nat} {o : Obj} (h : OwnM w0 B T (.slice (some ⟨g, 0, none⟩) n cap) L) (hi : i < L.length) (hgb : gb = w0.heap.size)
    (hw1 : w1 = (w0.setCell ⟨g, i, none⟩ (whole gb l.length)).alloc o) (hg : w1.grownBy wr (some gb)) (hO : Own wr gb l) (hl : ∀ x, x ∈ l → x < 256) (hm : l.length ≤ 1000000000) : OwnM wr B T (.slice (some ⟨g, 0, none⟩) n cap) (L.set i l) := by
  have hne : g ≠ gb := by have := h.lt g rfl; omega
  obtain ⟨a, c, e⟩ := h.shape
  simp only [Value.slice.injEq] at e
  obtain ⟨_, rfl, _⟩ := e
  obtain ⟨us, h1, h2⟩ := h
  obtain ⟨t1, t2, t3⟩ := h1.set1 i (x := whole gb l.length) (slice_ne _ _ _)
  have hal : Below (w0.setCell ⟨g, i, none⟩ (whole gb l.length)).heap.size (w0.setCell ⟨g, i, none⟩ (whole gb l.length)) ((w0.setCell ⟨g, i, none⟩ (whole gb l.length)).alloc o) := (Below.refl _ _).alloc (Nat.le_refl _) o
  have s1 := t1.go hal
  have s2 := t2.trans (Soft.of_below hal)
  rw [← hw1] at s1 s2
  have hsoft : Soft w0 wr := by
    have h01 : Soft w0 w1 := s2
    refine ⟨Nat.le_trans h01.size hg.size, fun k hk => ?_⟩
    have hk1 : wr.heap[k]? = w1.heap[k]? := hg.block k (Nat.lt_of_lt_of_le hk h01.size) (by simp; omega)
    rcases h01.block k hk with h3 | h3
    · exact .inl (hk1.trans h3)
    · exact .inr ⟨h3.1, h3.2.of_heap hk1⟩
  refine ⟨us.set i (whole gb l.length), ?_, ⟨by simp [h2.len], fun j u hu => ?_⟩⟩
  · rw [List.length_set]
    exact s1.keep hg (.inr (by simpa [Value.ownBlock] using hne))
  · rw [List.getElem?_set] at hu
    by_cases hki : i = j
    · subst hki
      rw [if_pos rfl, if_pos (by rw [h2.len]; exact hi)] at hu
      simp only [Option.some.injEq] at hu
      subst hu
      rw [show rowAt (L.set i l) i = l from by rw [rowAt_eq _ _ (by simpa using hi)]; simp]
      exact hO.bytes hl (by omega)
    · rw [if_neg hki] at hu
      rw [show rowAt (L.set i l) j = rowAt L j from by unfold rowAt; rw [List.getD_eq_getElem?_getD, List.getElem?_set, if_neg hki, ← List.getD_eq_getElem?_getD]]
      exact (h2.row j u hu).soft hsoft

/-- A column, as far as it is. -/
def padL (l : List Nat) (j : Nat) : List Nat := l.take j ++ zeros (l.length - j)
theorem padL_length {l : List Nat} {j : Nat} (h : j ≤ l.length) : (padL l j).length = l.length := by simp [padL, zeros]; omega
theorem padL_zero (l : List Nat) : padL l 0 = zeros l.length := by simp [padL]
theorem padL_all (l : List Nat) : padL l l.length = l := by simp [padL, zeros]
theorem padL_set {l : List Nat} {j : Nat} (h : j < l.length) : (padL l j).set j (nth l j) = padL l (j + 1) := by
  unfold padL zeros
  have e0 : (l.take j).length = j := by rw [List.length_take, Nat.min_eq_left (by omega)]
  rw [List.set_append_right _ _ (by omega), e0, Nat.sub_self, show l.length - j = (l.length - (j + 1)) + 1 by omega, List.replicate_succ, List.set_cons_zero]
  have : l.take (j + 1) = l.take j ++ [nth l j] := by rw [List.take_add_one, nth_eq _ _ h, List.getElem?_eq_getElem h]; rfl
  rw [this, List.append_assoc]
  rfl

set_option maxHeartbeats 4000000 in
theorem gturned_any (u : Value) (m : Nat) (ll : List (List Nat)) (w : World) (hG : IsGrid w u (m : Int) ll) (hO : OctM ll) (hk : ∀ r ∈ ll, r.length = m) (hm : m ≤ 1000000) (hlen : ll.length ≤ 1000000) :
    Calls Try.prog 22 #[u] w (GridV w (ll.length : Int) (turnedL ll m)) := by
  obtain ⟨a, c, rfl, hR⟩ := hG
  have HR := Lib.hid hR
  have HOC := Lib.hid (colL_lt hO)
  have HW := Lib.hid (show ∀ j, j < ll.length → (rowAt ll j).length = m from fun j hj => by rw [rowAt_eq ll j hj]; exact hk _ (List.getElem_mem hj))
  have hmk := make_rows m (by omega)
  have hmb := make_bytes ll.length (by omega)
  clear hR hO hk
  go_enter Try.func22, Try.ntmps22
  go_wp2_with fail
  obtain ⟨B, hk0, hk1, hk, hs⟩ := blocks3 w #[.int .i64 (m : Int), .slice a ll.length c] 26 #[.int .i64 0, .slice none 0 0] 26 (Array.replicate m (.slice none 0 0)) 35
  generalize ((w.alloc (.cells #[.int .i64 (m : Int), .slice a ll.length c] 26)).alloc (.cells #[.int .i64 0, .slice none 0 0] 26)).alloc (.cells (Array.replicate m (.slice none 0 0)) 35) = W2 at *
  obtain ⟨g, hg⟩ : ∃ g : Nat, g = w.heap.size + 1 + 1 := ⟨_, rfl⟩
  rw [← hg] at hk
  simp only [← hg]
  have HM := Lib.hid (OwnM.made hk (Nat.le_refl g) (by omega : m ≤ 1000000000))
  have hgw : w.heap.size + 1 < g := by omega
  have HGW := Lib.hid hgw
  have HK0 := Lib.hid hk0
  have HK1 := Lib.hid hk1
  have HTL := Lib.hid (turnedL_length ll m)
  clear hk0 hk1 hk hs hmk hg
  go_loopw [4, 5, 6, 12] (fun _ _ _ i wr => ∃ k : Nat, k ≤ m ∧ i = .int .i64 k ∧ Below w.heap.size w wr ∧ Blk wr w.heap.size #[.int .i64 (m : Int), .slice a ll.length c] 26 ∧ Blk wr (w.heap.size + 1) #[.int .i64 0, .slice none 0 0] 26 ∧ OwnM wr g 35 (whole g m) (fillM (turnedL ll m) k)) (fun _ _ _ i _ => m - (intOf i).toNat)
  case atStart => exact ⟨0, by omega, rfl, B, HK0.out, HK1.out, by rw [fillM_zero, HTL.out]; exact HM.out⟩
  case round =>
    clear B HM HK0 HK1
    obtain ⟨i, hi, rfl, B, hK0, hK1, hO⟩ := hrel
    have HO := Lib.hid hO
    have HK0 := Lib.hid hK0
    have HK1 := Lib.hid hK1
    clear hO hK0 hK1
    by_cases hlt : i < m
    · have k0 : (0 : Int) ≤ (i : Int) := Int.natCast_nonneg _
      have k1 : (i : Int) < (m : Int) := by omega
      have HL := Lib.hid (show i < (fillM (turnedL ll m) i).length by rw [fillM_length (by rw [HTL.out]; exact hi), HTL.out]; exact hlt)
      obtain ⟨a9, d9, c9, _⟩ := HO.out.cell i HL.out
      have f9 := HO.out.free i
      have l9 := HO.out.lt g rfl
      have hn0 : ¬ w.heap.size = g := by omega
      obtain ⟨k00, k01⟩ := HK0.out.two
      have k0l := HK0.out.lt
      go_wp2_with fail
      obtain ⟨gb, hgb⟩ : ∃ gb : Nat, gb = wr.heap.size := ⟨_, rfl⟩
      have hcl := colL_length ll i
      obtain ⟨W1, hW1⟩ : ∃ W1, W1 = (wr.setCell ⟨g, i, none⟩ (whole gb ll.length)).alloc (bytesObj (List.replicate ll.length 0)) := ⟨_, rfl⟩
      rw [← hgb]
      rw [← hgb] at l9
      have hW1' := hW1
      unfold whole at hW1'
      rw [← hW1']
      clear hW1'
      have hset : wr.grownBy (wr.setCell ⟨g, i, none⟩ (whole gb ll.length)) (some g) := grown_setCell wr ⟨g, i, none⟩ _
      have hal : Below (wr.setCell ⟨g, i, none⟩ (whole gb ll.length)).heap.size (wr.setCell ⟨g, i, none⟩ (whole gb ll.length)) W1 := by rw [hW1]; exact (Below.refl _ _).alloc (Nat.le_refl _) _
      have hsz : (wr.setCell ⟨g, i, none⟩ (whole gb ll.length)).heap.size = gb := by rw [hgb]; simp
      have hg1 : wr.grownBy W1 (some g) := grown_trans hset (grown_of_below hal _)
      have HB1 := Lib.hid (below_grown B hg1 B.size (by omega))
      have HO1 := Lib.hid (show Own W1 gb (zeros ll.length) by
        have h := Own.new (wr.setCell ⟨g, i, none⟩ (whole gb ll.length)) (zeros ll.length)
        rw [hsz] at h
        rw [hW1]; exact h)
      have HL0 := Lib.hid (HK0.out.grown hg1 (by simp; omega))
      have HL1 := Lib.hid (HK1.out.grown hg1 (by simp; omega))
      have HC9 := Lib.hid (show W1.cell? ⟨g, i, none⟩ = some (whole gb ll.length) by
        rw [hW1]
        rw [World.cell?_alloc_past _ _ _ (by simpa using (HO.out.lt g rfl))]
        exact World.cell?_setCell_same' _ _ _ (by rw [c9]; rfl))
      have HGB := Lib.hid hgb
      have HWQ := Lib.hid hW1
      have hgg : g < gb := l9
      have hwg : w.heap.size ≤ gb := by rw [hgb]; exact B.size
      clear hset hal hsz hg1 hgb hW1 c9 f9 l9 k00 k01 k0l
      go_loopw [5, 6, 25] (fun _ _ x wq => ∃ j : Nat, j ≤ ll.length ∧ x = .int .i64 j ∧ W1.grownBy wq (some gb) ∧ Own wq gb (padL (colL ll i) j)) (fun _ _ x _ => ll.length - (intOf x).toNat)
      case atStart => exact ⟨0, by omega, rfl, grown_refl _ _, by rw [padL_zero, hcl]; exact HO1.out⟩
      case round =>
        obtain ⟨j, hj, rfl, hGR, hOq⟩ := hrel
        have HGR := Lib.hid hGR
        have HOQ := Lib.hid hOq
        have HBQ := Lib.hid (below_grown HB1.out hGR HB1.out.size hwg)
        clear hGR hOq
        by_cases hjl : j < ll.length
        · obtain ⟨b, off, u, rfl, hu, hBr⟩ := HR.out.row0 HBQ.out j hjl
          have hrl := HW.out j hjl
          have HRL := Lib.hid hrl
          have HBR := Lib.hid (hBr.below (Nat.le_refl _) HBQ.out)
          obtain ⟨ua, uc, rfl, _⟩ := id hBr
          obtain ⟨rb, ro, rfl, hcc0⟩ := hBr.at i (by rw [hrl]; exact hlt)
          have hrb : rb ≠ gb := by
            have := World.block_lt_of_cell? w _ hcc0
            simp at this
            omega
          obtain ⟨rb', ro', e, hcc⟩ := HBR.out.at i (by rw [hrl]; exact hlt)
          simp only [Option.some.injEq, Addr.mk.injEq, and_true] at e
          obtain ⟨rfl, rfl⟩ := e
          have HCC := Lib.hid hcc
          clear hcc hcc0 hBr
          have hcl2 : (padL (colL ll i) j).length = ll.length := by rw [padL_length (by rw [hcl]; exact hj), hcl]
          have HPL := Lib.hid hcl2
          have HPS := Lib.hid (show (padL (colL ll i) j).set j (nth (rowAt ll j) i) = padL (colL ll i) (j + 1) by
            rw [← padL_set (by rw [hcl]; exact hjl)]
            congr 1
            rw [nth_colL, if_pos hjl])
          have j0 : (0 : Int) ≤ (j : Int) := Int.natCast_nonneg _
          have j1 : (j : Int) < (ll.length : Int) := by omega
          have hri : i < (rowAt ll j).length := by rw [hrl]; exact hlt
          have HGC := Lib.hid (show wr.cell? ⟨g, i, none⟩ = some (whole gb ll.length) from HGR.out.cell HC9.out (by simp; omega))
          have hgq : g ≠ gb := by omega
          have hpr0 : Own wr.drew gb (padL (colL ll i) j) := HOQ.out
          clear hrl hcl2
          go_wp2_with fail
          refine wp_region_mono (C := Cgo wr (gb)) (R := Rb) (H := Hgo (gb)) [Ty.val 30 (whole g m), Ty.val 31 (.int .i64 (i : Int)), Ty.val 32 (.pointer (some ⟨g, i, none⟩)), Ty.val 33 (whole gb ll.length), Ty.val 34 (.int .i64 (j : Int)), Ty.val 35 (.slice (some ⟨rb, ro, none⟩) (rowAt ll j).length uc), Ty.val 36 (.int .i64 (i : Int)), Ty.val 37 (.pointer (some ⟨rb, ro + i, none⟩)), Ty.val 38 (U8 (nth (rowAt ll j) i)), Ty.val 39 (.pointer (some ⟨gb, j, none⟩)), (TyG.stores (padL (colL ll i) j) (padL (colL ll i) (j + 1)))] (by kernel_rfl) (hC_go wr (gb)) (hCH_go wr (gb)) (drew_go wr (gb)) ⟨trivial, trivial, trivial, trivial, trivial, trivial, trivial, trivial, trivial, trivial, (hpr0), trivial⟩ (by kernel_rfl) ?_ ?_
          · refine ⟨?_, ?_, ?_, ?_, ?_, ?_, ?_, ?_, ?_, ?_, ?_, trivial⟩
            · intro ac wc hC hsz hfr hd hpr
              have d3 : ac.eval (.tmp 3) = (whole g m) := hfr 3 rfl
              rw [if_pos (wanted_none rfl)]
              exact ob_copy rfl rfl rfl (Nat.lt_of_lt_of_eq (by decide : 30 < 47) hsz.symm) (Or.inl rfl) (Below.refl _ _) d3
            · intro ac wc hC hsz hfr hd hpr
              have d4 : ac.eval (.tmp 4) = (.int .i64 (i : Int)) := hfr 4 rfl
              rw [if_pos (wanted_none rfl)]
              exact ob_copy rfl rfl rfl (Nat.lt_of_lt_of_eq (by decide : 31 < 47) hsz.symm) (Or.inl rfl) (Below.refl _ _) d4
            · intro ac wc hC hsz hfr hd hpr
              have d30 : ac.eval (.tmp 30) = (whole g m) := hd 0 rfl
              have d31 : ac.eval (.tmp 31) = (.int .i64 (i : Int)) := hd 1 rfl
              rw [if_pos (wanted_none rfl)]
              exact ob_index _ rfl rfl rfl (Nat.lt_of_lt_of_eq (by decide : 32 < 47) hsz.symm) rfl d30 d31 (by go_simp) (Below.refl _ _) rfl
            · intro ac wc hC hsz hfr hd hpr
              have d32 : ac.eval (.tmp 32) = (.pointer (some ⟨g, i, none⟩)) := hd 2 rfl
              rw [if_pos (wanted_none rfl)]
              exact ob_load _ rfl rfl rfl (Nat.lt_of_lt_of_eq (by decide : 33 < 47) hsz.symm) rfl d32 (load_bytes (hC.cell HGC.out (by simpa using hgq))) (Below.refl _ _) rfl
            · intro ac wc hC hsz hfr hd hpr
              have d5 : ac.eval (.tmp 5) = (.int .i64 (j : Int)) := hfr 5 rfl
              rw [if_pos (wanted_none rfl)]
              exact ob_copy rfl rfl rfl (Nat.lt_of_lt_of_eq (by decide : 34 < 47) hsz.symm) (Or.inl rfl) (Below.refl _ _) d5
            · intro ac wc hC hsz hfr hd hpr
              have d6 : ac.eval (.tmp 6) = (.slice (some ⟨rb, ro, none⟩) (rowAt ll j).length uc) := hfr 6 rfl
              rw [if_pos (wanted_none rfl)]
              exact ob_copy rfl rfl rfl (Nat.lt_of_lt_of_eq (by decide : 35 < 47) hsz.symm) (Or.inl rfl) (Below.refl _ _) d6
            · intro ac wc hC hsz hfr hd hpr
              have d4 : ac.eval (.tmp 4) = (.int .i64 (i : Int)) := hfr 4 rfl
              rw [if_pos (wanted_none rfl)]
              exact ob_copy rfl rfl rfl (Nat.lt_of_lt_of_eq (by decide : 36 < 47) hsz.symm) (Or.inl rfl) (Below.refl _ _) d4
            · intro ac wc hC hsz hfr hd hpr
              have d35 : ac.eval (.tmp 35) = (.slice (some ⟨rb, ro, none⟩) (rowAt ll j).length uc) := hd 5 rfl
              have d36 : ac.eval (.tmp 36) = (.int .i64 (i : Int)) := hd 6 rfl
              rw [if_pos (wanted_none rfl)]
              exact ob_index _ rfl rfl rfl (Nat.lt_of_lt_of_eq (by decide : 37 < 47) hsz.symm) rfl d35 d36 (index_bytes _ hri) (Below.refl _ _) rfl
            · intro ac wc hC hsz hfr hd hpr
              have d37 : ac.eval (.tmp 37) = (.pointer (some ⟨rb, ro + i, none⟩)) := hd 7 rfl
              rw [if_pos (wanted_none rfl)]
              exact ob_load _ rfl rfl rfl (Nat.lt_of_lt_of_eq (by decide : 38 < 47) hsz.symm) rfl d37 (load_u8 (hC.cell HCC.out (by simpa using hrb))) (Below.refl _ _) rfl
            · intro ac wc hC hsz hfr hd hpr
              have d33 : ac.eval (.tmp 33) = (whole gb ll.length) := hd 3 rfl
              have d34 : ac.eval (.tmp 34) = (.int .i64 (j : Int)) := hd 4 rfl
              rw [if_pos (wanted_none rfl)]
              exact ob_index _ rfl rfl rfl (Nat.lt_of_lt_of_eq (by decide : 39 < 47) hsz.symm) rfl d33 d34 (index_own _ hjl) (Below.refl _ _) rfl
            · intro ac wc hC hsz hfr hd hpr
              have d39 : ac.eval (.tmp 39) = (.pointer (some ⟨gb, j, none⟩)) := hd 9 rfl
              have d38 : ac.eval (.tmp 38) = (U8 (nth (rowAt ll j) i)) := hd 8 rfl
              rw [if_pos (wanted_none rfl)]
              have hlt : 0 < ac.tmps.size := (Nat.lt_of_lt_of_eq (by decide : 0 < 47) hsz.symm)
              exact ob_store0 _ rfl rfl rfl d39 d38 (store_u8 (Own.cell hpr j (by rw [HPL.out]; exact hjl)) (Own.free hpr j)) (grown_setCell wc ⟨gb, j, none⟩ _) (show Own _ gb (padL (colL ll i) (j + 1)) by rw [← HPS.out]; exact Own.set hpr j _)
          intro a' W7 hC hdef hsz hfr hd
          have e30 : a'.eval (.tmp 30) = (whole g m) := hd 0 (by decide)
          have e31 : a'.eval (.tmp 31) = (.int .i64 (i : Int)) := hd 1 (by decide)
          have e32 : a'.eval (.tmp 32) = (.pointer (some ⟨g, i, none⟩)) := hd 2 (by decide)
          have e33 : a'.eval (.tmp 33) = (whole gb ll.length) := hd 3 (by decide)
          have e34 : a'.eval (.tmp 34) = (.int .i64 (j : Int)) := hd 4 (by decide)
          have e35 : a'.eval (.tmp 35) = (.slice (some ⟨rb, ro, none⟩) (rowAt ll j).length uc) := hd 5 (by decide)
          have e36 : a'.eval (.tmp 36) = (.int .i64 (i : Int)) := hd 6 (by decide)
          have e37 : a'.eval (.tmp 37) = (.pointer (some ⟨rb, ro + i, none⟩)) := hd 7 (by decide)
          have e38 : a'.eval (.tmp 38) = (U8 (nth (rowAt ll j) i)) := hd 8 (by decide)
          have e39 : a'.eval (.tmp 39) = (.pointer (some ⟨gb, j, none⟩)) := hd 9 (by decide)
          have st10 : Own W7 gb (padL (colL ll i) (j + 1)) := hd 10 (by decide)
          replace st10 := Lib.hid st10
          have hact := act_puts hdef hsz hfr
          simp only [dstsOf, List.filterMap, putAll, Act.put, List.setIfInBounds_toArray, List.set_cons_succ, List.set_cons_zero, e30, e31, e32, e33, e34, e35, e36, e37, e38, e39] at hact
          clear hd hfr hsz hdef e30 e31 e32 e33 e34 e35 e36 e37 e38 e39
          subst hact
          have HGN := Lib.hid (grown_trans HGR.out hC)
          clear hC
          go_wp2_with fail
          go_roundw
          case rel => exact ⟨j + 1, by omega, by go_num, HGN.out, st10.out⟩
          case measure => simp [intOf]; omega
        · obtain rfl : j = ll.length := by omega
          rw [show padL (colL ll i) ll.length = colL ll i by rw [show padL (colL ll i) ll.length = padL (colL ll i) (colL ll i).length by rw [hcl], padL_all]] at HOQ
          have HON := Lib.hid (show OwnM wr g 35 (whole g m) (fillM (turnedL ll m) (i + 1)) by
            rw [← fillM_set (by rw [HTL.out]; exact hlt), turnedL_at ll hlt]
            exact HO.out.refill HL.out HGB.out (by rw [hcl]; exact HWQ.out) HGR.out HOQ.out (HOC.out i) (by rw [hcl]; omega))
          have HK0N := Lib.hid (HL0.out.grown HGR.out (by simp; omega))
          have HK1N := Lib.hid (HL1.out.grown HGR.out (by simp; omega))
          go_wp2_with fail
          go_roundw
          case rel => exact ⟨i + 1, by omega, by go_num, HBQ.out, HK0N.out, HK1N.out, HON.out⟩
          case measure => simp [intOf]; omega
    · obtain rfl : i = m := by omega
      rw [show fillM (turnedL ll i) i = turnedL ll i by rw [show fillM (turnedL ll i) i = fillM (turnedL ll i) (turnedL ll i).length by rw [HTL.out], fillM_all]] at HO
      obtain ⟨k00, k01⟩ := HK0.out.two
      obtain ⟨k10, k11⟩ := HK1.out.two
      obtain ⟨f10, f11⟩ := HK1.out.fre2
      go_wp2_with fail
      obtain ⟨⟨q1, _⟩, xa, xc, q2, q3⟩ := store_grid (m := (ll.length : Int)) (B := g) HK1.out (int_ne _ _ (by decide)) (slice_ne _ _ _) HGW.out HO.out
      obtain ⟨e0, e1⟩ := q2.two
      have hB := below_grown B q1 B.size (Nat.le_succ _)
      exact bodyPost_ret (v := .agg #[.int .i64 (ll.length : Int), .slice xa (turnedL ll i).length xc]) (by simp [results, Try.results22, go_sem, e0, e1]) rfl
        ⟨_, rfl, ⟨_, rfl, q3.mono (by omega)⟩, hB⟩

end Go.Proofs.Ytohfcdgpllghbaa
