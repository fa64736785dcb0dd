/- Texts of one seat, laid together: LawEight, LawSeven, CopyFit, LawSevenB. -/
import Derived.Test.YtohfcdgpllghbaaQ15
import Derived.Test.YtohfcdgpllghbaaQ20
import Derived.Test.YtohfcdgpllghbaaQ2
import Derived.Deep.SlicePairs
import Derived.Test.YtohfcdgpllghbaaQ24
import Derived.Test.YtohfcdgpllghbaaQ16
import Derived.Test.YtohfcdgpllghbaaQ3
import Derived.Test.YtohfcdgpllghbaaQ4

/-
  The laws of grids and equations (layers 7 and 8): which are gone through; equations that came in; are rows the document's?
-/
set_option maxRecDepth 100000
namespace Go.Proofs.Ytohfcdgpllghbaa
open Go.ChangeShapes Go.WideShapes Go.ChangeAt Go.RowKit Go.Deep

/-- A list of structs of two slices of bytes that came in. -/
theorem open_rl {H : Type} {enc : TypeId × Value → H} {P : Program} {S t T E : TypeId} {f0 f1 : Field} (hS : P.underlying S = some (.slice t)) (hs : P.underlying t = some (.struct #[f0, f1])) (hC : P.cellsOf t = 2)
    (o0 : f0.offset = 0) (o1 : f1.offset = 1) (e0 : f0.type = T) (e1 : f1.type = T) (hT : P.underlying T = some (.slice E)) (hE : P.underlying E = some (.int .u8)) (hcT : P.cellsOf T = 1) (hc : P.cellsOf E = 1) {W : World} {base : Nat} {v : Value} {d : DataW H} {p : List MemPlace}
    (hok : Value.okWide P W .any base S v) (h : DataW.Trod enc P W 0 (fun _ => true) true S v d p) (hlt : ∀ x ∈ p, x.block < W.heap.size) : ∃ L, IsRL W v L := by
  obtain ⟨a0, len, cap, rfl⟩ := okWide_slice hS hok
  obtain ⟨fuel, hf⟩ := h
  rcases open_slice_pairs hS hs hC o0 o1 (by rw [e0]; exact hcT) (by rw [e1]; exact hcT) hf with ⟨hcs, hx⟩ | ⟨a, len', cap', m, n, V0, V1, D0, D1, P0, P1, hcs, _, hl, hm, hmm, hx, hall⟩
  · simp [Value.cells] at hcs
    obtain ⟨rfl, rfl, rfl⟩ := hcs
    exact ⟨[], isRL_none _ _ _ (by omega)⟩
  · simp [Value.cells] at hcs
    obtain ⟨rfl, rfl, rfl⟩ := hcs
    simp only [Prod.mk.injEq] at hx
    obtain ⟨rfl, rfl⟩ := hx
    simp only [if_true] at hmm
    subst hmm
    have hrow : ∀ i, i < len → ∃ r : Rw, Bytes W (V0 i) r.1 ∧ Bytes W (V1 i) r.2 := fun i hi => by
      obtain ⟨_, _, h0, h1⟩ := hall i (by omega)
      rw [e0] at h0
      rw [e1] at h1
      have hmem : ∀ y, y ∈ P0 i ++ P1 i → y.block < W.heap.size := fun y hy => hlt y (List.mem_append_right _ (List.mem_flatMap.2 ⟨i, List.mem_range.2 (by omega), hy⟩))
      obtain ⟨l, hl'⟩ := bytes_of_trod hT hE hc h0 fun y hy => hmem y (List.mem_append_left _ hy)
      obtain ⟨r, hr⟩ := bytes_of_trod hT hE hc h1 fun y hy => hmem y (List.mem_append_right _ hy)
      exact ⟨(l, r), hl', hr⟩
    obtain ⟨L, hL⟩ := Go.Deep.choose_lt hrow
    have hlen : ((List.range len).map L).length = len := by simp
    refine ⟨(List.range len).map L, some a, m, by rw [hlen], by rw [hlen]; exact hl, by simpa [maxLen] using hm, fun hne => ?_⟩
    have hl0 : 0 < len := by
      cases len with
      | zero => simp at hne
      | succ n => omega
    obtain ⟨b, off, spot⟩ := a
    have hspot : spot = none := by simpa [Addr.add] using World.cell?_spot (hall 0 (by omega)).1
    subst hspot
    have hbW : b < W.heap.size := hlt (.cell b off) (List.mem_append_left _ (MemPlace.mem_row.2 ⟨0, by omega, by simp⟩))
    refine ⟨b, off, rfl, hbW, fun i hi => ?_⟩
    rw [hlen] at hi
    obtain ⟨h0, h1, _, _⟩ := hall i (by omega)
    rw [row_add] at h0 h1
    refine ⟨V0 i, V1 i, h0, by rw [Nat.add_assoc]; exact h1, ?_⟩
    rw [rwAt_eq _ _ (by rw [hlen]; exact hi)]
    simpa using hL i hi

/-- Are rows gone through here? -/
def few7 (ll : List (List Nat)) : Bool := ll.all (fun r => decide (r.length ≤ 30)) && decide (ll.length ≤ 30)

set_option maxHeartbeats 1000000 in
theorem few7_any (v : Value) (ll : List (List Nat)) (w : World) (hR : IsRows w v ll) :
    Calls Try.prog 10 #[v] w fun e w' => e = .returned (.bool (few7 ll)) ∧ Below w.heap.size w w' := by
  have hcap : ll.length ≤ 9223372036854775807 := by obtain ⟨_, _, _, h1, h2, _⟩ := hR; omega
  have HR := Lib.hid hR
  obtain ⟨a, c, rfl⟩ := hR.shape
  clear hR
  obtain ⟨t, ht⟩ : ∃ t, t = few7 ll := ⟨_, rfl⟩
  rw [← ht]
  have HT := Lib.hid ht
  clear ht
  go_enter Try.func10, Try.ntmps10
  go_wp2_with fail
  go_loopw [4, 7] (fun _ i wr => ∃ n : Nat, n ≤ ll.length ∧ i = .int .i64 n ∧ (∀ j, j < n → (rowAt ll j).length ≤ 30) ∧ Below w.heap.size w wr) (fun _ i _ => ll.length - (intOf i).toNat)
  case atStart => exact ⟨0, by omega, rfl, fun j hj => by omega, Below.refl _ _⟩
  case round =>
    obtain ⟨n, hn, rfl, hno, B⟩ := hrel
    have HN := Lib.hid hno
    clear hno
    by_cases hlt : n < ll.length
    · obtain ⟨b, off, u, rfl, hu, hB⟩ := HR.out.row B n hlt
      obtain ⟨ua, uc, rfl, _⟩ := hB
      by_cases hq : (rowAt ll n).length ≤ 30
      · have hb : decide ((30 : Int) < ((rowAt ll n).length : Int)) = false := by simp; omega
        have HQ := Lib.hid hq
        clear hq
        go_wp2_with fail
        go_roundw
        case rel => exact ⟨n + 1, by omega, by go_num, fun j hj => by
          by_cases h : j = n
          · rw [h]; exact HQ.out
          · exact HN.out j (by omega), B⟩
        case measure => simp [intOf]; omega
      · have hb : decide ((30 : Int) < ((rowAt ll n).length : Int)) = true := by simp; omega
        have HQ := Lib.hid (show t = false by
          rw [HT.out]; unfold few7
          rw [Bool.and_eq_false_iff]; left
          rw [List.all_eq_false]
          exact ⟨rowAt ll n, by rw [rowAt_eq ll n hlt]; exact List.getElem_mem hlt, by simpa using hq⟩)
        clear hq
        go_wp2_with fail
        go_ret
        exact ⟨by rw [HQ.out]; rfl, B⟩
    · have HQ := Lib.hid (show t = decide ((ll.length : Int) ≤ 30) by
        rw [HT.out]; unfold few7
        have : ll.all (fun r => decide (r.length ≤ 30)) = true := by
          rw [List.all_eq_true]
          intro r hr
          obtain ⟨i, hi, rfl⟩ := List.mem_iff_getElem.1 hr
          rw [← rowAt_eq ll i hi]
          simpa using HN.out i (by omega)
        rw [this, Bool.true_and]
        by_cases h : ll.length ≤ 30
        · rw [decide_eq_true h, decide_eq_true (by omega)]
        · rw [decide_eq_false h, decide_eq_false (by omega)])
      go_wp2_with fail
      go_ret
      exact ⟨by rw [HQ.out]; rfl, B⟩

/-- Are equations gone through here? -/
def few8 (L : List Rw) : Bool := L.all (fun r => decide (r.1.length ≤ 20) && decide (r.2.length ≤ 20)) && decide (L.length ≤ 30)

set_option maxHeartbeats 1000000 in
theorem few8_any (v : Value) (L : List Rw) (w : World) (hL : IsRL w v L) :
    Calls Try.prog 29 #[v] w fun e w' => e = .returned (.bool (few8 L)) ∧ Below w.heap.size w w' := by
  have hcap : L.length ≤ 9223372036854775807 := by obtain ⟨_, _, _, h1, h2, _⟩ := hL; omega
  have HL := Lib.hid hL
  obtain ⟨a, c, rfl⟩ := hL.shape
  clear hL
  obtain ⟨t, ht⟩ : ∃ t, t = few8 L := ⟨_, rfl⟩
  rw [← ht]
  have HT := Lib.hid ht
  clear ht
  go_enter Try.func29, Try.ntmps29
  go_wp2_with fail
  go_loopw [4, 7] (fun _ i wr => ∃ n : Nat, n ≤ L.length ∧ i = .int .i64 n ∧ (∀ j, j < n → (rwAt L j).1.length ≤ 20 ∧ (rwAt L j).2.length ≤ 20) ∧ Below w.heap.size w wr) (fun _ i _ => L.length - (intOf i).toNat)
  case atStart => exact ⟨0, by omega, rfl, fun j hj => by omega, Below.refl _ _⟩
  case round =>
    obtain ⟨n, hn, rfl, hno, B⟩ := hrel
    have HN := Lib.hid hno
    clear hno
    by_cases hlt : n < L.length
    · obtain ⟨b, off, c', er, _⟩ := HL.out.addr (by omega)
      simp only [Value.slice.injEq, true_and] at er
      obtain ⟨rfl, rfl⟩ := er
      obtain ⟨p0, q0, z0, z1, hb1, hb2⟩ := (HL.out.go B).cells n hlt
      obtain ⟨pa, pc, rfl, _⟩ := hb1
      obtain ⟨qa, qc, rfl, _⟩ := hb2
      rcases (show (decide ((20 : Int) < ((rwAt L n).1.length : Int)) = false ∧ decide ((20 : Int) < ((rwAt L n).2.length : Int)) = false) ∨ decide ((20 : Int) < ((rwAt L n).1.length : Int)) = true ∨ (decide ((20 : Int) < ((rwAt L n).1.length : Int)) = false ∧ decide ((20 : Int) < ((rwAt L n).2.length : Int)) = true) from by
        simp only [decide_eq_true_eq, decide_eq_false_iff_not]; omega) with ⟨h1, h2⟩ | h1 | ⟨h1, h2⟩
      · have HQ := Lib.hid (show (rwAt L n).1.length ≤ 20 ∧ (rwAt L n).2.length ≤ 20 by simp only [decide_eq_false_iff_not] at h1 h2; omega)
        go_wp2_with fail
        have hzr := B.size
        go_roundw
        case rel => exact ⟨n + 1, by omega, by go_num, fun j hj => by
          by_cases h : j = n
          · rw [h]; exact HQ.out
          · exact HN.out j (by omega), B.alloc hzr _⟩
        case measure => simp [intOf]; omega
      · have HQ := Lib.hid (show t = false by
          rw [HT.out]; unfold few8
          rw [Bool.and_eq_false_iff]; left
          rw [List.all_eq_false]
          exact ⟨rwAt L n, rwAt_mem hlt, by simp only [decide_eq_true_eq] at h1; simp; omega⟩)
        have hzr := B.size
        go_wp2_with fail
        go_ret
        exact ⟨by rw [HQ.out]; rfl, B.alloc hzr _⟩
      · have HQ := Lib.hid (show t = false by
          rw [HT.out]; unfold few8
          rw [Bool.and_eq_false_iff]; left
          rw [List.all_eq_false]
          exact ⟨rwAt L n, rwAt_mem hlt, by simp only [decide_eq_true_eq] at h2; simp; omega⟩)
        have hzr := B.size
        go_wp2_with fail
        go_ret
        exact ⟨by rw [HQ.out]; rfl, B.alloc hzr _⟩
    · have HQ := Lib.hid (show t = decide ((L.length : Int) ≤ 30) by
        rw [HT.out]; unfold few8
        have : L.all (fun r => decide (r.1.length ≤ 20) && decide (r.2.length ≤ 20)) = true := by
          rw [List.all_eq_true]
          intro r hr
          obtain ⟨i, hi, rfl⟩ := List.mem_iff_getElem.1 hr
          rw [← rwAt_eq L i hi]
          have := HN.out i (by omega)
          simpa using this
        rw [this, Bool.true_and]
        by_cases h : L.length ≤ 30
        · rw [decide_eq_true h, decide_eq_true (by omega)]
        · rw [decide_eq_false h, decide_eq_false (by omega)])
      go_wp2_with fail
      go_ret
      exact ⟨by rw [HQ.out]; rfl, B⟩

end Go.Proofs.Ytohfcdgpllghbaa

/-
  The laws of grids (layer 7): the example, and the grid of cut rows.
-/
set_option maxRecDepth 100000
namespace Go.Proofs.Ytohfcdgpllghbaa
open Go.RowKit

theorem Blk.bytes2 {W : World} {g : Nat} {x y : Int} {T : TypeId} (h : Blk W g #[.int .u8 x, .int .u8 y] T) (a b : Nat) (hx : x = a) (hy : y = b) (ha : a < 256) (hb : b < 256) : Bytes W (.slice (some ⟨g, 0, none⟩) 2 2) [a, b] := by
  subst hx; subst hy
  refine ⟨_, 2, rfl, Nat.le_refl _, by omega, by simp [ha, hb], fun _ => ⟨g, 0, rfl, h.lt, fun i hi => ?_⟩⟩
  rw [Nat.zero_add, h.cell i]
  match i, hi with
  | 0, _ => rfl
  | 1, _ => rfl
theorem Blk.rows2 {W : World} {g : Nat} {u0 u1 : Value} {x y : List Nat} {T : TypeId} (h : Blk W g #[u0, u1] T) (hx : Bytes W u0 x) (hy : Bytes W u1 y) : IsRows W (.slice (some ⟨g, 0, none⟩) 2 2) [x, y] := by
  refine ⟨_, 2, rfl, Nat.le_refl _, by omega, fun _ => ⟨g, 0, rfl, h.lt, fun i hi => ?_⟩⟩
  match i, hi with
  | 0, _ => exact ⟨u0, by rw [h.cell 0]; rfl, hx⟩
  | 1, _ => exact ⟨u1, by rw [h.cell 1]; rfl, hy⟩

theorem oct_1 : OctM [[1, 2], [2, 4]] := show ∀ r ∈ [[1, 2], [2, 4]], ∀ x ∈ r, x < 256 by decide
theorem oct_2 : OctM [[1, 2], [2, 5]] := show ∀ r ∈ [[1, 2], [2, 5]], ∀ x ∈ r, x < 256 by decide
/-- New blocks, one behind the other. -/
theorem blocks4 (w : World) (c1 : Array Value) (T1 : TypeId) (c2 : Array Value) (T2 : TypeId) (c3 : Array Value) (T3 : TypeId) (c4 : Array Value) (T4 : TypeId) :
    Below w.heap.size w ((((w.alloc (.cells c1 T1)).alloc (.cells c2 T2)).alloc (.cells c3 T3)).alloc (.cells c4 T4)) ∧ Blk ((((w.alloc (.cells c1 T1)).alloc (.cells c2 T2)).alloc (.cells c3 T3)).alloc (.cells c4 T4)) w.heap.size c1 T1 ∧
    Blk ((((w.alloc (.cells c1 T1)).alloc (.cells c2 T2)).alloc (.cells c3 T3)).alloc (.cells c4 T4)) (w.heap.size + 1) c2 T2 ∧ Blk ((((w.alloc (.cells c1 T1)).alloc (.cells c2 T2)).alloc (.cells c3 T3)).alloc (.cells c4 T4)) (w.heap.size + 1 + 1) c3 T3 ∧
    Blk ((((w.alloc (.cells c1 T1)).alloc (.cells c2 T2)).alloc (.cells c3 T3)).alloc (.cells c4 T4)) (w.heap.size + 1 + 1 + 1) c4 T4 ∧
    ((((w.alloc (.cells c1 T1)).alloc (.cells c2 T2)).alloc (.cells c3 T3)).alloc (.cells c4 T4)).heap.size = w.heap.size + 1 + 1 + 1 + 1 := by
  obtain ⟨b, k1, k2, k3, hs⟩ := blocks3 w c1 T1 c2 T2 c3 T3
  obtain ⟨b', k', hs'⟩ := blocks1 (((w.alloc (.cells c1 T1)).alloc (.cells c2 T2)).alloc (.cells c3 T3)) c4 T4
  rw [hs] at k' hs'
  exact ⟨b.trans (b'.mono b.size), k1.go b', k2.go b', k3.go b', k', hs'⟩

theorem rank_small (k : Nat) (ll : List (List Nat)) (r : Nat) (hO : OctM ll) (hk : ∀ x ∈ ll, x.length = k) (h : (Ro.all (Ro.bare ll)).length = r) : rankL k ll = r := by rw [← refrank_eq hO hk]; exact h
theorem rank_one : rankL 2 [[1, 2], [2, 4]] = 1 := rank_small 2 _ 1 oct_1 (by decide) (by decide +kernel)
theorem rank_two : rankL 2 [[1, 2], [2, 5]] = 2 := rank_small 2 _ 2 oct_2 (by decide) (by decide +kernel)

set_option maxHeartbeats 2000000 in
theorem awake7_any (w : World) :
    Calls Try.prog 9 #[] w fun e w' => e = .returned (.bool true) ∧ Below w.heap.size w w' := by
  have HR1 := Lib.hid rank_one
  have HR2 := Lib.hid rank_two
  have HE1 := Lib.hid (show ofE 2 [[1, 2], [2, 4]] = 0 by decide)
  have HE2 := Lib.hid (show ofE 2 [[1, 2], [2, 5]] = 0 by decide)
  have HO1 := Lib.hid (oct_1)
  have HO2 := Lib.hid (oct_2)
  go_enter Try.func9, Try.ntmps9
  go_wp2_with fail
  obtain ⟨B, hk1, hk2, hk3, hs⟩ := blocks3 w #[.int .u8 1, .int .u8 2] 5 #[.int .u8 2, .int .u8 4] 5 #[.slice (some ⟨w.heap.size, 0, none⟩) 2 2, .slice (some ⟨w.heap.size + 1, 0, none⟩) 2 2] 35
  generalize (((w.alloc (.cells #[.int .u8 1, .int .u8 2] 5)).alloc (.cells #[.int .u8 2, .int .u8 4] 5)).alloc (.cells #[.slice (some ⟨w.heap.size, 0, none⟩) 2 2, .slice (some ⟨w.heap.size + 1, 0, none⟩) 2 2] 35)) = W at *
  have K1 := Lib.hid hk1
  have K2 := Lib.hid hk2
  have K3 := Lib.hid hk3
  have HS := Lib.hid hs
  clear hs hk1 hk2 hk3
  have hzW := B.size
  have HL1 := Lib.hid (K3.out.rows2 (K1.out.bytes2 1 2 rfl rfl (by omega) (by omega)) (K2.out.bytes2 2 4 rfl rfl (by omega) (by omega)))
  refine (gof_any _ 2 [[1, 2], [2, 4]] _ HL1.out (by decide)).mono ?_
  rintro e w1 ⟨u1, rfl, hu1, hb⟩
  replace B := B.trans (hb.mono B.size)
  have hzw1 := B.size
  clear hb
  rw [HE1.out]
  have hu1' : IsGrid w1 u1 2 [[1, 2], [2, 4]] := by
    replace hu1 := hu1.grid
    unfold ofM ofL at hu1
    rwa [HE1.out, if_pos rfl, if_pos rfl] at hu1
  obtain ⟨a1, c1, rfl, hq1⟩ := hu1'
  have HQ1 := Lib.hid hq1
  clear hu1 hq1 K1 K2 K3 HS HL1
  go_wp2_with fail
  have B1 := B
  clear B
  obtain ⟨B, hk1, hk2, hk3, hk4, hs⟩ := blocks4 w1 #[.int .i64 2, .slice a1 2 c1] 26 #[.int .u8 1, .int .u8 2] 5 #[.int .u8 2, .int .u8 5] 5 #[.slice (some ⟨w1.heap.size + 1, 0, none⟩) 2 2, .slice (some ⟨w1.heap.size + 1 + 1, 0, none⟩) 2 2] 35
  generalize ((((w1.alloc (.cells #[.int .i64 2, .slice a1 2 c1] 26)).alloc (.cells #[.int .u8 1, .int .u8 2] 5)).alloc (.cells #[.int .u8 2, .int .u8 5] 5)).alloc (.cells #[.slice (some ⟨w1.heap.size + 1, 0, none⟩) 2 2, .slice (some ⟨w1.heap.size + 1 + 1, 0, none⟩) 2 2] 35)) = W2 at *
  have K1 := Lib.hid hk1
  have K2 := Lib.hid hk2
  have K3 := Lib.hid hk3
  have K4 := Lib.hid hk4
  have HS := Lib.hid hs
  clear hs hk1 hk2 hk3 hk4
  replace HQ1 := Lib.hid (HQ1.out.go B)
  have hzW2 := B.size
  replace B := B1.trans (B.mono B1.size)
  have HL2 := Lib.hid (K4.out.rows2 (K2.out.bytes2 1 2 rfl rfl (by omega) (by omega)) (K3.out.bytes2 2 5 rfl rfl (by omega) (by omega)))
  refine (gof_any _ 2 [[1, 2], [2, 5]] _ HL2.out (by decide)).mono ?_
  rintro e w3 ⟨u3, rfl, hu3, hb⟩
  replace K1 := Lib.hid (K1.out.go hb)
  replace HQ1 := Lib.hid (HQ1.out.go hb)
  replace B := B.trans (hb.mono B.size)
  have hzw3 := B.size
  clear hb
  rw [HE2.out]
  have hu3' : IsGrid w3 u3 2 [[1, 2], [2, 5]] := by
    replace hu3 := hu3.grid
    unfold ofM ofL at hu3
    rwa [HE2.out, if_pos rfl, if_pos rfl] at hu3
  obtain ⟨a3, c3, rfl, hq3⟩ := hu3'
  have HQ3 := Lib.hid hq3
  clear hu3 hq3 K2 K3 K4 HS HL2
  obtain ⟨k10, k11⟩ := K1.out.two
  have k1l := K1.out.lt
  go_wp2_with fail
  obtain ⟨hb, hk, hs⟩ := blocks1 w3 #[.int .i64 2, .slice a3 2 c3] 26
  generalize w3.alloc (.cells #[.int .i64 2, .slice a3 2 c3] 26) = W5 at *
  have K5 := Lib.hid hk
  replace K1 := Lib.hid (K1.out.go hb)
  replace HQ1 := Lib.hid (HQ1.out.go hb)
  replace HQ3 := Lib.hid (HQ3.out.go hb)
  replace B := B.trans (hb.mono B.size)
  have hzW5 := B.size
  clear hb hk hs
  clear k10 k11 k1l
  refine (rank_any _ 2 2 [[1, 2], [2, 4]] _ ⟨a1, c1, rfl, HQ1.out⟩ HO1.out (by decide) (by decide) (by decide)).mono ?_
  rintro e w6 ⟨rfl, hb⟩
  replace K5 := Lib.hid (K5.out.go hb)
  replace HQ3 := Lib.hid (HQ3.out.go hb)
  replace B := B.trans (hb.mono B.size)
  have hzw6 := B.size
  clear hb
  rw [HR1.out]
  obtain ⟨k50, k51⟩ := K5.out.two
  have k5l := K5.out.lt
  go_wp2_with fail
  refine (rank_any _ 2 2 [[1, 2], [2, 5]] _ ⟨a3, c3, rfl, HQ3.out⟩ HO2.out (by decide) (by decide) (by decide)).mono ?_
  rintro e w7 ⟨rfl, hb⟩
  replace B := B.trans (hb.mono B.size)
  have hzw7 := B.size
  clear hb
  rw [HR2.out]
  go_wp2_with fail
  go_ret
  exact ⟨rfl, B⟩

end Go.Proofs.Ytohfcdgpllghbaa

/-
  Bytes copied into a slice that was made: cut, or with noughts behind.
-/
set_option maxRecDepth 100000
namespace Go.Proofs.Ytohfcdgpllghbaa
open Go.RowKit

/-- The first m bytes, with noughts behind. -/
def fitR (m : Nat) (r : List Nat) : List Nat := r.take m ++ zeros (m - r.length)
theorem fitR_length (m : Nat) (r : List Nat) : (fitR m r).length = m := by simp [fitR, zeros]; omega
theorem fitR_lt {m : Nat} {r : List Nat} (h : ∀ x, x ∈ r → x < 256) : ∀ x, x ∈ fitR m r → x < 256 := by
  intro x hx
  rcases List.mem_append.1 hx with hx | hx
  · exact h x (List.mem_of_mem_take hx)
  · exact zeros_lt _ x hx
theorem fitR_same {m : Nat} {r : List Nat} (h : r.length = m) : fitR m r = r := by
  unfold fitR
  rw [List.take_of_length_le (by omega), h, Nat.sub_self]
  simp [zeros]
theorem wr_fit (m : Nat) (r : List Nat) : wr ((zeros m).map U8) 0 ((r.take m).map U8) = (fitR m r).map U8 := by
  have h : m - min m r.length = m - r.length := by omega
  unfold wr fitR zeros
  simp [h]

theorem infoU8 : (Try.prog.info? 5).map (·.size) = some 1 := by kernel_rfl

/-- 'copy(v, row)', into a new slice of noughts. -/
theorem copy_fit {w : World} {gb m : Nat} {v : Value} {r : List Nat} (hO : Own w gb (zeros m)) (hB : Bytes w v r) :
    ∃ W, (∀ ty, (Builtin.copy_ #[35, 35] ty #[.slice (some ⟨gb, 0, none⟩) m m, v]).run Try.prog w = .ok (goInt ((min r.length m : Nat) : Int)) W) ∧ Own W gb (fitR m r) ∧ w.grownBy W (some gb) := by
  obtain ⟨a, c, rfl, h1, h2, h3, h4⟩ := hB
  have hO' : w.heap[gb]? = some (.cells ((zeros m).map U8).toArray 5 (0, 0)) := hO
  have hgr : ∀ cs : Array Value, w.grownBy (w.setRow gb cs) (some gb) := fun cs => ⟨rfl, rfl, rfl, by simp, fun k _ hne => setRow_other w gb k _ (by intro e; rw [e] at hne; exact hne rfl)⟩
  cases a with
  | none =>
    have hr : r = [] := by
      refine Decidable.byContradiction fun hne => ?_
      obtain ⟨b, off, e, _⟩ := h4 hne
      cases e
    subst hr
    refine ⟨w, fun ty => ?_, ?_, grown_refl _ _⟩
    · simp [Builtin.copy_, run_underlying Try.underlying35, Builtin.lenOf, Builtin.firstCells, sizeOf, typeInfo, storeCells]
      obtain ⟨i, hi⟩ : ∃ i, Try.prog.info? 5 = some i := by
        cases h : Try.prog.info? 5 with
        | none => have := infoU8; rw [h] at this; cases this
        | some i => exact ⟨i, rfl⟩
      rw [hi]
      simp
    · have : fitR m [] = zeros m := by simp [fitR]
      rw [this]; exact hO
  | some ad =>
    refine ⟨w.setRow gb ((fitR m r).map U8).toArray, fun ty => ?_, ?_, hgr _⟩
    · have h := run_copy_rowN (P := Try.prog) w 35 35 ty 5 gb 0 m m ad r.length c ((zeros m).map U8).toArray 5 ((r.take m).map U8) 1 (min r.length m) Try.underlying35 infoU8 hO' rfl (by simp [Nat.min_comm]) (fun j u hj => ?_) (by simp [zeros]; omega) (fun u hu => by
        obtain ⟨x, _, rfl⟩ := List.mem_map.1 hu
        rfl)
      · rw [h]
        have e := wr_fit m r
        simp only at e ⊢
        rw [e]
      · rw [List.getElem?_map, List.getElem?_take] at hj
        split at hj
        · rename_i hjm
          cases hx : r[j]? with
          | none => rw [hx] at hj; cases hj
          | some x =>
            rw [hx] at hj
            simp only [Option.map_some, Option.some.injEq] at hj
            subst hj
            have hjl := (List.getElem?_eq_some_iff.1 hx).1
            obtain ⟨b, off, e, _, hc⟩ := h4 (by intro e; rw [e] at hjl; simp at hjl)
            simp only [Option.some.injEq] at e
            subst e
            rw [row_add, hc j hjl, nth_eq r j hjl]
            have := (List.getElem?_eq_some_iff.1 hx).2
            rw [this]
        · cases hj
    · show (w.setRow gb _).heap[gb]? = _
      exact setRow_heap w gb _ _ _ _ hO'

end Go.Proofs.Ytohfcdgpllghbaa

/-
  The laws of grids (layer 7): 'Made'.
-/
set_option maxRecDepth 100000
namespace Go.Proofs.Ytohfcdgpllghbaa
open Go.RowKit

/-- The rows cut, or with noughts behind. -/
def fitL (m : Nat) (ll : List (List Nat)) : List (List Nat) := ll.map (fitR m)
theorem fitL_length (m : Nat) (ll : List (List Nat)) : (fitL m ll).length = ll.length := by simp [fitL]
theorem fitL_wide (m : Nat) (ll : List (List Nat)) : ∀ r ∈ fitL m ll, r.length = m := fun r hr => by
  obtain ⟨x, _, rfl⟩ := List.mem_map.1 hr
  exact fitR_length m x
theorem fitL_at {m : Nat} {ll : List (List Nat)} {j : Nat} (hj : j < ll.length) : rowAt (fitL m ll) j = fitR m (rowAt ll j) := by
  rw [rowAt_eq _ _ (by rw [fitL_length]; exact hj), rowAt_eq ll j hj]
  simp [fitL]
theorem fitL_take {m : Nat} {ll : List (List Nat)} {j : Nat} (hj : j < ll.length) : fitL m (ll.take (j + 1)) = fitL m (ll.take j) ++ [fitR m (rowAt ll j)] := by
  rw [take_rowAt ll j hj]
  unfold fitL
  rw [List.map_append]
  rfl
theorem fitL_oct {m : Nat} {ll : List (List Nat)} (h : OctM ll) : OctM (fitL m ll) := fun r hr => by
  obtain ⟨x, hx, rfl⟩ := List.mem_map.1 hr
  exact fitR_lt (h x hx)

/-- What Made answers. -/
def MadeV (w : World) (m : Nat) (ll : List (List Nat)) (e : Ending) (w' : World) : Prop :=
  ∃ u v, e = .returned (.tuple #[u, v, .int .i64 (m : Int)]) ∧ IsGrid w' u (m : Int) (fitL m ll) ∧ IsRows w' v (fitL m ll) ∧ Below w.heap.size w w'

set_option maxHeartbeats 4000000 in
theorem made7_any (x : Nat) (v : Value) (ll : List (List Nat)) (w : World) (hx : x < 256) (hR : IsRows w v ll) (hlen : ll.length ≤ 2000) :
    Calls Try.prog 19 #[U8 x, v] w (MadeV w (x % 31) ll) := by
  have HR := Lib.hid hR
  obtain ⟨a, c, rfl⟩ := hR.shape
  obtain ⟨m, hm⟩ : ∃ m, m = x % 31 := ⟨_, rfl⟩
  have hm31 : m < 31 := by omega
  have hmm : (x : Int) % 31 = (m : Int) := by omega
  have hmb := make_bytes m (by omega)
  have HO := Lib.hid (show OctM ll from hR.oct)
  rw [← hm]
  clear hR hm
  go_enter Try.func19, Try.ntmps19
  go_wp2_with fail
  obtain ⟨B, hk1, hs⟩ := blocks1 w #[.int .i64 0, .slice none 0 0] 26
  generalize (w.alloc (.cells #[.int .i64 0, .slice none 0 0] 26)) = W at *
  have K1 := Lib.hid hk1
  have HS := Lib.hid hs
  clear hs hk1
  have hzW := B.size
  simp only [hmm]
  go_loopw [8, 10, 11, 19] (fun o _ _ i wr => ∃ k : Nat, k ≤ ll.length ∧ i = .int .i64 k ∧ Below w.heap.size w wr ∧ Blk wr w.heap.size #[.int .i64 0, .slice none 0 0] 26 ∧ OwnM wr (w.heap.size + 1) 35 o (fitL m (ll.take k))) (fun _ _ _ i _ => ll.length - (intOf i).toNat)
  case atStart => exact ⟨0, by omega, rfl, B, K1.out, OwnM.nil _ _ _⟩
  case round =>
    clear B K1 HS hzW
    obtain ⟨k, hk, rfl, B, hK, hO⟩ := hrel
    have HM := Lib.hid hO
    have HK := Lib.hid hK
    obtain ⟨oa, oc, rfl⟩ := hO.shape
    have HFL := Lib.hid (show (fitL m (ll.take k)).length = k by rw [fitL_length, List.length_take, Nat.min_eq_left hk])
    obtain ⟨L, hL⟩ : ∃ L, L = fitL m (ll.take k) := ⟨_, rfl⟩
    rw [← hL] at HM HFL
    simp only [← hL]
    have HLQ := Lib.hid hL
    clear hO hK hL
    by_cases hlt : k < ll.length
    · obtain ⟨b, off, u, rfl, hu, hBr⟩ := HR.out.row B k hlt
      have HBR := Lib.hid (hBr.below (Nat.le_refl _) ((Below.refl _ _).alloc (Nat.le_refl _) (bytesObj (List.replicate m 0))))
      obtain ⟨ra, rc, rfl, _⟩ := hBr
      have k0 : (0 : Int) ≤ (k : Int) := Int.natCast_nonneg _
      have k1 : (k : Int) < (ll.length : Int) := by omega
      obtain ⟨W2, hcp, hO2, hgr⟩ := copy_fit (m := m) (Own.new wr (zeros m)) HBR.out
      have hBW : Below wr.heap.size wr W2 := below_grown ((Below.refl _ _).alloc (Nat.le_refl _) (bytesObj (zeros m))) hgr (by simp) (Nat.le_refl _)
      have HBW := Lib.hid hBW
      have HBY := Lib.hid (hO2.bytes (fitR_lt (fun z hz => HO.out _ (by rw [rowAt_eq ll k hlt]; exact List.getElem_mem hlt) z hz)) (by rw [fitR_length]; omega))
      rw [fitR_length] at HBY
      have HM2 := Lib.hid (HM.out.go hBW)
      have HK2 := Lib.hid (HK.out.go hBW)
      have hz := B.size
      have hz2 := hBW.size
      have HB2 := Lib.hid (B.trans (hBW.mono hz))
      have hcp2 : ∀ ty, (Builtin.copy_ #[35, 35] ty #[whole wr.heap.size m, .slice ra (rowAt ll k).length rc]).run Try.prog (wr.alloc (bytesObj (List.replicate m 0))) = .ok (goInt ((min (rowAt ll k).length m : Nat) : Int)) W2 := hcp
      have hb1 : Below W2.heap.size W2 (W2.alloc (.cells #[whole wr.heap.size m] 35)) := (Below.refl _ _).alloc (Nat.le_refl _) _
      have HST := Lib.hid (show fitL m (ll.take (k + 1)) = L ++ [fitR m (rowAt ll k)] by rw [fitL_take hlt, HLQ.out])
      clear hBW hO2 hgr hcp
      go_wp2_with (at_builtin; refine wpList_append_m rfl (.tmp 28) (.tmp 30) rfl (w.heap.size + 1) W2.heap.size _ _ L (fitR m (rowAt ll k)) 35 rfl rfl rfl HBY.out HM2.out ?c3 ?c4 ?_)
      case c3 => have := HK2.out.lt; omega
      case c4 => rw [HFL.out]; omega
      intro v' w2 hown2 hgr2 hs2
      rw [← HST.out] at hown2
      have HOW := Lib.hid hown2
      have HB3 := Lib.hid (below_grownO (HB2.out.trans (hb1.mono HB2.out.size)) hgr2 (Nat.le_trans HB2.out.size hb1.size) (fun g e => by have := HM2.out.from g e; omega))
      have HK3 := Lib.hid ((HK2.out.go hb1).grown hgr2 (fun e => by have := HM2.out.from _ e.symm; omega))
      clear hown2 hgr2 hs2
      go_wp2_with fail
      go_roundw
      case rel => exact ⟨k + 1, by omega, by go_num, HB3.out, HK3.out, HOW.out⟩
      case measure => simp [intOf]; omega
    · obtain rfl : k = ll.length := by omega
      rw [List.take_length] at HLQ
      have hz := B.size
      have hkw : w.heap.size < wr.heap.size := HK.out.lt
      go_wp2_with fail
      refine (gof_any _ (m : Int) L _ HM.out.rows (by rw [HFL.out]; omega)).mono ?_
      rintro e w3 ⟨u3, rfl, hu3, hb⟩
      replace HM := Lib.hid (HM.out.go hb)
      replace HK := Lib.hid (HK.out.go hb)
      replace B := B.trans (hb.mono B.size)
      have hzw3 := B.size
      clear hb
      have HE := Lib.hid (show ofE (m : Int) L = 0 by
        unfold ofE
        have h1 : L.length ≤ 2000 := by rw [HFL.out]; exact hlen
        have h2 : (L.length : Int) * (m : Int) ≤ 2000 * 31 := by
          have : L.length * m ≤ 2000 * 31 := Nat.mul_le_mul h1 (by omega)
          have e : (L.length : Int) * (m : Int) = ((L.length * m : Nat) : Int) := by simp
          rw [e]; omega
        rw [if_neg (by omega), if_neg (by omega), if_pos]
        intro i hi
        rw [HLQ.out] at hi ⊢
        rw [rowAt_eq _ _ hi, fitL_wide m ll _ (List.getElem_mem hi)])
      have hu3' : GridO w3 wr.heap.size u3 (m : Int) L := by
        unfold ofM ofL at hu3
        rwa [HE.out, if_pos rfl, if_pos rfl] at hu3
      rw [HE.out]
      obtain ⟨v3, rfl, hq3⟩ := hu3'
      obtain ⟨a3, c3, rfl⟩ := hq3.shape
      have HQ3 := Lib.hid hq3
      have HKF := Lib.hid HK.out
      obtain ⟨hk0, hk1⟩ := HK.out.two
      have hkl := HK.out.lt
      obtain ⟨hkf0, hkf1⟩ := HK.out.fre2
      clear hu3 hq3
      go_wp2_with fail
      obtain ⟨e0, e1, hB, _⟩ := store2 HKF.out (Nat.le_refl _) B (int_ne _ _ (by decide)) (slice_ne _ _ _) (.int .i64 (m : Int)) (.slice a3 L.length c3)
      have hgr : w3.grownBy ((w3.setCell ⟨w.heap.size, 0, none⟩ (.int .i64 (m : Int))).setCell ⟨w.heap.size, 1, none⟩ (.slice a3 L.length c3)) (some w.heap.size) := grown_trans (grown_setCell w3 ⟨w.heap.size, 0, none⟩ _) (grown_setCell _ ⟨w.heap.size, 1, none⟩ _)
      have hs := Soft.of_box hgr HKF.out (no_bytes2 _ _ (int_ne _ _ (by decide)) (slice_ne _ _ _)) (HKF.out.set2 (.int .i64 (m : Int)) (.slice a3 L.length c3)) (no_bytes2 _ _ (int_ne _ _ (by decide)) (slice_ne _ _ _))
      have g1 := HQ3.out.past hkw hgr hs
      have g2 := HM.out.past (Nat.lt_succ_self _) hgr hs
      clear hgr hs
      generalize (w3.setCell ⟨w.heap.size, 0, none⟩ (.int .i64 (m : Int))).setCell ⟨w.heap.size, 1, none⟩ (.slice a3 L.length c3) = W5 at *
      obtain ⟨hb, _, _⟩ := blocks1 W5 #[.int .i64 (m : Int), .slice a3 L.length c3] 26
      replace e0 := cell_keep e0 hb
      replace e1 := cell_keep e1 hb
      have g3 := g1.go hb
      have g4 := g2.go hb
      have hB2 := hB.trans (hb.mono hB.size)
      clear hb
      generalize W5.alloc (.cells #[.int .i64 (m : Int), .slice a3 L.length c3] 26) = W6 at *
      exact bodyPost_ret (v := .tuple #[.agg #[.int .i64 (m : Int), .slice a3 L.length c3], .slice oa L.length oc, .int .i64 (m : Int)]) (by simp [results, Try.results19, go_sem, e0, e1]) rfl (by
        have := HLQ.out
        unfold MadeV
        rw [← this]
        exact ⟨_, _, rfl, ⟨_, _, rfl, g3.rows⟩, g4.rows, hB2⟩)

end Go.Proofs.Ytohfcdgpllghbaa
