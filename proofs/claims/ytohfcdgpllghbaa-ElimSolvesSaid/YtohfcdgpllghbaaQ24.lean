/- Texts of one seat, laid together: GridK, GridL, GridG, GridM. -/
import Derived.Test.YtohfcdgpllghbaaQ23
import Derived.Test.YtohfcdgpllghbaaQ22
import Derived.Test.YtohfcdgpllghbaaQ4
import Derived.Test.YtohfcdgpllghbaaQ20

/-
  Grids in the program (layer 7): 'combined', 'Mul'.
-/
set_option maxRecDepth 100000
namespace Go.Proofs.Ytohfcdgpllghbaa
open Go.RowKit

theorem combT_empty (cs : List Nat) (m : Nat) : combT cs [] m = zeros m := by
  unfold combT zeros
  apply List.ext_getElem?
  intro i
  simp [List.getElem?_replicate]
  split <;> simp_all [combAt]

set_option maxHeartbeats 1000000 in
theorem combined_any (u v : Value) (m : Nat) (r : List Nat) (bb : List (List Nat)) (w : World) (hG : IsGrid w u (m : Int) bb) (hV : Bytes w v r) (hr : r.length = bb.length) (hk : ∀ j, j < bb.length → (rowAt bb j).length = m) (hm : m ≤ 1000000) :
    Calls Try.prog 62 #[u, v] w (BytesV w (combT r bb m)) := by
  obtain ⟨a, c, rfl, hR⟩ := hG
  have HR := Lib.hid hR
  have HV := Lib.hid hV
  obtain ⟨va, vc, rfl, _⟩ := hV
  by_cases h0 : bb.length = 0
  · obtain rfl : bb = [] := List.length_eq_zero_iff.1 h0
    have hmb := make_bytes m (by omega)
    have HC := Lib.hid (combT_empty r m)
    clear hR hr hk
    go_enter Try.func62, Try.ntmps62
    go_wp2_with fail
    go_ret
    refine ⟨_, rfl, ?_, ((Below.refl _ w).alloc (Nat.le_refl _) _).alloc (by simp) _⟩
    rw [HC.out]
    have h := Own.new (w.alloc (.cells #[.int .i64 (m : Int), .slice a 0 c] 26)) (zeros m)
    have h2 := h.bytes (zeros_lt m) (by rw [zeros_length]; omega)
    rw [zeros_length, show (w.alloc (.cells #[.int .i64 (m : Int), .slice a 0 c] 26)).heap.size = w.heap.size + 1 by simp] at h2
    exact h2
  · have hb : ((bb.length : Int) == 0) = false := beq_eq_false_iff_ne.2 (by omega)
    have hA : alikeB bb = true := by
      unfold alikeB
      rw [List.all_eq_true]
      intro x hx
      obtain ⟨i, hi, rfl⟩ := List.mem_iff_getElem.1 hx
      rw [← rowAt_eq bb i hi, hk i hi, hk 0 (by omega)]
      simp
    have HL := Lib.hid (show combL r bb = combT r bb m by
      rw [combL_eq, if_pos ⟨hr, hA, fun e => h0 (by rw [e]; rfl)⟩, hk 0 (by omega)])
    have HE := Lib.hid (show combE r bb = 0 from if_pos ⟨hr, hA⟩)
    have hm0 : (rowAt bb 0).length ≤ 10000000 := by rw [hk 0 (by omega)]; omega
    clear hR hr hk hA h0
    go_enter Try.func62, Try.ntmps62
    go_wp2_with fail
    obtain ⟨B, hk1, hs⟩ := blocks1 w #[.int .i64 (m : Int), .slice a bb.length c] 26
    generalize (w.alloc (.cells #[.int .i64 (m : Int), .slice a bb.length c] 26)) = W at *
    have K1 := Lib.hid hk1
    have HS := Lib.hid hs
    clear hs hk1
    replace HR := Lib.hid (HR.out.go B)
    replace HV := Lib.hid (HV.out.go B)
    have hzW := B.size
    obtain ⟨k10, k11⟩ := K1.out.two
    have k1l := K1.out.lt
    go_wp2_with fail
    refine (comb_b _ _ r bb _ hm0 HV.out HR.out).mono ?_
    rintro e w2 ⟨v2, rfl, hv2, hb⟩
    replace B := B.trans (hb.mono B.size)
    have hzw2 := B.size
    clear hb
    rw [HL.out] at hv2
    have HV2 := Lib.hid hv2
    obtain ⟨xa, xc, rfl, _⟩ := hv2
    go_wp2_with fail
    go_ret
    exact ⟨_, rfl, HV2.out, B⟩

/-- What Mul answers, where the product isn't too great. -/
def mulC (m : Nat) (bb : List (List Nat)) : Int := if m = bb.length then 0 else 4
def mulR (m : Nat) (A bb : List (List Nat)) (k : Nat) : List (List Nat) := if m = bb.length then mulL A bb k else []
def mulM (m : Nat) (bb : List (List Nat)) (k : Nat) : Int := if m = bb.length then (k : Int) else 0

set_option maxHeartbeats 2000000 in
theorem gmul_no (u0 u1 : Value) (m k : Nat) (A bb : List (List Nat)) (w : World) (h0 : IsGrid w u0 (m : Int) A) (h1 : IsGrid w u1 (k : Int) bb) (hne : m ≠ bb.length) :
    Calls Try.prog 24 #[u0, u1] w (GridE w 0 [] 4) := by
  obtain ⟨a0, c0, rfl, hR0⟩ := h0
  obtain ⟨a1, c1, rfl, hR1⟩ := h1
  have hb : ((m : Int) != (bb.length : Int)) = true := by rw [bne_iff_ne]; omega
  clear hR0 hR1 hne
  go_enter Try.func24, Try.ntmps24
  go_wp2_with fail
  obtain ⟨B, hk1, hk2, hk3, hs⟩ := blocks3 w #[.int .i64 (m : Int), .slice a0 A.length c0] 26 #[.int .i64 (k : Int), .slice a1 bb.length c1] 26 #[.int .i64 0, .slice none 0 0] 26
  generalize (((w.alloc (.cells #[.int .i64 (m : Int), .slice a0 A.length c0] 26)).alloc (.cells #[.int .i64 (k : Int), .slice a1 bb.length c1] 26)).alloc (.cells #[.int .i64 0, .slice none 0 0] 26)) = W at *
  have K1 := Lib.hid hk1
  have K2 := Lib.hid hk2
  have K3 := Lib.hid hk3
  have HS := Lib.hid hs
  clear hs hk1 hk2 hk3
  have hzW := B.size
  obtain ⟨k10, k11⟩ := K1.out.two
  have k1l := K1.out.lt
  obtain ⟨k20, k21⟩ := K2.out.two
  have k2l := K2.out.lt
  obtain ⟨k30, k31⟩ := K3.out.two
  have k3l := K3.out.lt
  obtain ⟨k3f0, k3f1⟩ := K3.out.fre2
  go_wp2_with fail
  exact bodyPost_ret (v := .tuple #[.agg #[.int .i64 0, .slice none 0 0], I64 4]) (by simp [results, Try.results24, go_sem, k30, k31]) rfl ⟨_, rfl, GridO.zero _ _, B⟩

set_option maxHeartbeats 4000000 in
theorem gmul_yes (u0 u1 : Value) (m k : Nat) (A bb : List (List Nat)) (w : World) (h0 : IsGrid w u0 (m : Int) A) (h1 : IsGrid w u1 (k : Int) bb) (he : m = bb.length) (hA : ∀ j, j < A.length → (rowAt A j).length = m) (hB : ∀ j, j < bb.length → (rowAt bb j).length = k)
    (hk : k ≤ 1000000) (hAl : A.length ≤ 65536) (hAk : A.length * k ≤ 65536) :
    Calls Try.prog 24 #[u0, u1] w (GridE w (k : Int) (mulL A bb k) 0) := by
  obtain ⟨a0, c0, rfl, hR0⟩ := h0
  obtain ⟨a1, c1, rfl, hR1⟩ := h1
  have HR0 := Lib.hid hR0
  have HR1 := Lib.hid hR1
  have HA := Lib.hid hA
  have HB := Lib.hid hB
  have hb : ((m : Int) != (bb.length : Int)) = false := by rw [he]; simp
  have HE := Lib.hid he
  have HT := Lib.hid (show decide ((65536 < (A.length : Int)) ∨ 65536 < (A.length : Int) * (k : Int)) = false by
    rw [decide_eq_false_iff_not]
    have : (A.length : Int) * (k : Int) = ((A.length * k : Nat) : Int) := by simp
    omega)
  have hmk := make_rows A.length (by omega)
  have HML := Lib.hid (mulL_length A bb k)
  clear hR0 hR1 he hA hB hAk
  go_enter Try.func24, Try.ntmps24
  go_wp2_with fail
  obtain ⟨B, hk1, hk2, hk3, hs⟩ := blocks3 w #[.int .i64 (m : Int), .slice a0 A.length c0] 26 #[.int .i64 (k : Int), .slice a1 bb.length c1] 26 #[.int .i64 0, .slice none 0 0] 26
  generalize (((w.alloc (.cells #[.int .i64 (m : Int), .slice a0 A.length c0] 26)).alloc (.cells #[.int .i64 (k : Int), .slice a1 bb.length c1] 26)).alloc (.cells #[.int .i64 0, .slice none 0 0] 26)) = W at *
  have K1 := Lib.hid hk1
  have K2 := Lib.hid hk2
  have K3 := Lib.hid hk3
  have HS := Lib.hid hs
  clear hs hk1 hk2 hk3
  have hzW := B.size
  obtain ⟨k10, k11⟩ := K1.out.two
  have k1l := K1.out.lt
  obtain ⟨k20, k21⟩ := K2.out.two
  have k2l := K2.out.lt
  obtain ⟨k30, k31⟩ := K3.out.two
  have k3l := K3.out.lt
  go_wp2_with fail
  refine (many_any (A.length : Int) (k : Int) _ (by omega) (by omega) (by omega)).mono ?_
  rintro e w' ⟨rfl, rfl⟩
  rw [HT.out]
  go_wp2_with fail
  clear k10 k11 k1l k20 k21 k2l k30 k31 k3l
  obtain ⟨g, hg⟩ : ∃ g : Nat, g = W.heap.size := ⟨_, rfl⟩
  obtain ⟨hb1, hk1, _⟩ := blocks1 W (Array.replicate A.length (.slice none 0 0)) 35
  generalize W.alloc (.cells (Array.replicate A.length (.slice none 0 0)) 35) = W2 at *
  rw [← hg] at hk1
  simp only [← hg]
  have HM := Lib.hid (OwnM.made hk1 (Nat.le_refl g) (by omega : A.length ≤ 1000000000))
  have HGW := Lib.hid (show w.heap.size + 1 + 1 < g by have := K3.out.lt; omega)
  replace K2 := Lib.hid (K2.out.go hb1)
  replace K3 := Lib.hid (K3.out.go hb1)
  replace B := B.trans (hb1.mono B.size)
  clear hb1 hk1 hmk hg
  go_loopw [7, 8, 30] (fun _ _ i wr => ∃ n : Nat, n ≤ A.length ∧ i = .int .i64 n ∧ Below w.heap.size w wr ∧ Blk wr (w.heap.size + 1) #[.int .i64 (k : Int), .slice a1 bb.length c1] 26 ∧ Blk wr (w.heap.size + 1 + 1) #[.int .i64 0, .slice none 0 0] 26 ∧ OwnM wr g 35 (whole g A.length) (fillM (mulL A bb k) n)) (fun _ _ i _ => A.length - (intOf i).toNat)
  case atStart => exact ⟨0, by omega, rfl, B, K2.out, K3.out, by rw [fillM_zero, HML.out]; exact HM.out⟩
  case round =>
    clear B HM K2 K3
    obtain ⟨n, hn, rfl, B, hK2, hK3, hO⟩ := hrel
    have HO := Lib.hid hO
    have K2 := Lib.hid hK2
    have K3 := Lib.hid hK3
    clear hO hK2 hK3
    by_cases hlt : n < A.length
    · obtain ⟨b, off, u, rfl, hu, hBr⟩ := HR0.out.row B n hlt
      have HBR := Lib.hid hBr
      obtain ⟨ua, uc, rfl, _⟩ := hBr
      have k0 : (0 : Int) ≤ (n : Int) := Int.natCast_nonneg _
      have k1 : (n : Int) < (A.length : Int) := by omega
      have HL := Lib.hid (show n < (fillM (mulL A bb k) n).length by rw [fillM_length (by rw [HML.out]; exact hn), HML.out]; exact hlt)
      have HS := Lib.hid (fillM_set (R := mulL A bb k) (k := n) (by rw [HML.out]; exact hlt))
      rw [show rowAt (mulL A bb k) n = combT (rowAt A n) bb k by unfold mulL; rw [rowAt_eq _ _ (by simpa using hlt)]; simp [rowAt_eq A n hlt]] at HS
      have HLN := Lib.hid (HA.out n hlt)
      obtain ⟨k20, k21⟩ := K2.out.two
      have k2l := K2.out.lt
      go_wp2_with fail
      refine (combined_any _ _ k (rowAt A n) bb _ ⟨a1, c1, rfl, HR1.out.below (Nat.le_refl _) B⟩ HBR.out (by rw [HLN.out, HE.out]) HB.out hk).mono ?_
      rintro e w2 ⟨v2, rfl, hv2, hb⟩
      replace HO := Lib.hid (HO.out.go hb)
      replace K2 := Lib.hid (K2.out.go hb)
      replace K3 := Lib.hid (K3.out.go hb)
      replace B := B.trans (hb.mono B.size)
      have hzw2 := B.size
      clear hb
      have HV := Lib.hid hv2
      obtain ⟨xa, xc, rfl, _⟩ := hv2
      obtain ⟨a9, d9, c9, _⟩ := HO.out.cell n HL.out
      have f9 := HO.out.free n
      clear k20 k21 k2l
      go_wp2_with fail
      obtain ⟨o1, s1, g1⟩ := HO.out.set n HL.out HV.out
      rw [HS.out] at o1
      have HO1 := Lib.hid o1
      have HGW' := HGW.out
      have K2N := Lib.hid (K2.out.grown g1 (by simp; omega))
      have K3N := Lib.hid (K3.out.grown g1 (by simp; omega))
      have HB1 := Lib.hid (below_grown B g1 B.size (by omega))
      clear o1 s1 g1 HGW'
      go_roundw
      case rel => exact ⟨n + 1, by omega, by go_num, HB1.out, K2N.out, K3N.out, HO1.out⟩
      case measure => simp [intOf]; omega
    · obtain rfl : n = A.length := by omega
      rw [show fillM (mulL A bb k) A.length = mulL A bb k by rw [show fillM (mulL A bb k) A.length = fillM (mulL A bb k) (mulL A bb k).length by rw [HML.out], fillM_all]] at HO
      obtain ⟨k20, k21⟩ := K2.out.two
      have k2l := K2.out.lt
      obtain ⟨k30, k31⟩ := K3.out.two
      have k3l := K3.out.lt
      obtain ⟨k3f0, k3f1⟩ := K3.out.fre2
      go_wp2_with fail
      obtain ⟨⟨q1, _⟩, xa, xc, q2, q3⟩ := store_grid (m := (k : Int)) (B := g) K3.out (int_ne _ _ (by decide)) (slice_ne _ _ _) HGW.out HO.out
      obtain ⟨e0, e1⟩ := q2.two
      have hB := below_grown B q1 B.size (by omega)
      exact bodyPost_ret (v := .tuple #[.agg #[.int .i64 (k : Int), .slice xa (mulL A bb k).length xc], I64 0]) (by simp [results, Try.results24, go_sem, e0, e1]) rfl
        ⟨_, rfl, ⟨_, rfl, q3.mono (by have := HGW.out; omega)⟩, hB⟩
theorem gmul_any (u0 u1 : Value) (m k : Nat) (A bb : List (List Nat)) (w : World) (h0 : IsGrid w u0 (m : Int) A) (h1 : IsGrid w u1 (k : Int) bb) (hA : ∀ j, j < A.length → (rowAt A j).length = m) (hB : ∀ j, j < bb.length → (rowAt bb j).length = k)
    (hk : k ≤ 1000000) (hAl : A.length ≤ 65536) (hAk : A.length * k ≤ 65536) :
    Calls Try.prog 24 #[u0, u1] w (GridE w (mulM m bb k) (mulR m A bb k) (mulC m bb)) := by
  unfold mulM mulR mulC
  by_cases he : m = bb.length
  · rw [if_pos he, if_pos he, if_pos he]
    exact gmul_yes u0 u1 m k A bb w h0 h1 he hA hB hk hAl hAk
  · rw [if_neg he, if_neg he, if_neg he]
    exact gmul_no u0 u1 m k A bb w h0 h1 he

end Go.Proofs.Ytohfcdgpllghbaa

/-
  Grids in the program (layer 7): 'Inverse'.
-/
set_option maxRecDepth 100000
namespace Go.Proofs.Ytohfcdgpllghbaa
open Go.RowKit

/-- Rows that carry the unit's. -/
def carry (ll : List (List Nat)) : List Rw := (List.range ll.length).map fun i => (rowAt ll i, unitL ll.length i)
theorem carry_length (ll : List (List Nat)) : (carry ll).length = ll.length := by simp [carry]
theorem carry_at {ll : List (List Nat)} {i : Nat} (h : i < ll.length) : rwAt (carry ll) i = (rowAt ll i, unitL ll.length i) := by
  rw [rwAt_eq _ _ (by rw [carry_length]; exact h)]
  simp [carry]
theorem unitL_length (n i : Nat) : (unitL n i).length = n := by simp [unitL, zeros]
theorem unitL_lt (n i : Nat) : ∀ z, z ∈ unitL n i → z < 256 := by
  intro z hz
  unfold unitL at hz
  rcases List.mem_or_eq_of_mem_set hz with h | h
  · exact zeros_lt n z h
  · rw [h]; decide
theorem carry_dims {ll : List (List Nat)} (hO : OctM ll) (hk : ∀ r ∈ ll, r.length = ll.length) : Ro.Dims ll.length ll.length (carry ll) := fun x hx => by
  obtain ⟨i, hi, rfl⟩ := List.mem_map.1 hx
  rw [List.mem_range] at hi
  have hm : rowAt ll i ∈ ll := by rw [rowAt_eq ll i hi]; exact List.getElem_mem hi
  exact ⟨hk _ hm, unitL_length _ _, hO _ hm, unitL_lt _ _⟩
/-- What rows carry. -/
def datas (E : List Rw) : List (List Nat) := E.map fun r => r.2
theorem datas_length (E : List Rw) : (datas E).length = E.length := by simp [datas]
theorem datas_at {E : List Rw} {i : Nat} (h : i < E.length) : rowAt (datas E) i = (rwAt E i).2 := by
  rw [rowAt_eq _ _ (by rw [datas_length]; exact h), rwAt_eq E i h]
  simp [datas]

set_option maxHeartbeats 2000000 in
theorem ginv_no (u : Value) (m : Nat) (ll : List (List Nat)) (w : World) (hG : IsGrid w u (m : Int) ll) (hne : m ≠ ll.length) :
    Calls Try.prog 26 #[u] w (GridE w 0 [] 4) := by
  obtain ⟨a, c, rfl, hR⟩ := hG
  have hb : ((m : Int) != (ll.length : Int)) = true := by rw [bne_iff_ne]; omega
  clear hR hne
  go_enter Try.func26, Try.ntmps26
  go_wp2_with fail
  obtain ⟨B, hk1, hk2, hs⟩ := blocks2 w #[.int .i64 (m : Int), .slice a ll.length c] 26 #[.int .i64 0, .slice none 0 0] 26
  generalize ((w.alloc (.cells #[.int .i64 (m : Int), .slice a ll.length c] 26)).alloc (.cells #[.int .i64 0, .slice none 0 0] 26)) = W at *
  have K1 := Lib.hid hk1
  have K2 := Lib.hid hk2
  have HS := Lib.hid hs
  clear hs hk1 hk2
  have hzW := B.size
  obtain ⟨k10, k11⟩ := K1.out.two
  have k1l := K1.out.lt
  obtain ⟨k20, k21⟩ := K2.out.two
  have k2l := K2.out.lt
  obtain ⟨k2f0, k2f1⟩ := K2.out.fre2
  go_wp2_with fail
  exact bodyPost_ret (v := .tuple #[.agg #[.int .i64 0, .slice none 0 0], I64 4]) (by simp [results, Try.results26, go_sem, k20, k21]) rfl ⟨_, rfl, GridO.zero _ _, B⟩

set_option maxHeartbeats 8000000 in
theorem ginv_yes (u : Value) (n : Nat) (ll : List (List Nat)) (w : World) (hG : IsGrid w u (n : Int) ll) (hn : ll.length = n) (hO : OctM ll) (hk : ∀ r ∈ ll, r.length = n) (hn256 : n ≤ 256) :
    Calls Try.prog 26 #[u] w fun e w' => if (Ro.redOf (carry ll)).length < n then GridE w 0 [] 19 e w' else GridE w (n : Int) (datas (Ro.redOf (carry ll))) 0 e w' := by
  obtain ⟨a, c, rfl, hR⟩ := hG
  subst hn
  have HR := Lib.hid hR
  have hb : ((ll.length : Int) != (ll.length : Int)) = false := by simp
  have hmk := make_vrows ll.length (by omega)
  have HD := Lib.hid (carry_dims hO hk)
  have HCL := Lib.hid (carry_length ll)
  obtain ⟨E, hE⟩ : ∃ E, E = Ro.redOf (carry ll) := ⟨_, rfl⟩
  rw [← hE]
  have HEQ := Lib.hid hE
  clear hR hO hk hE
  go_enter Try.func26, Try.ntmps26
  go_wp2_with fail
  obtain ⟨B, hk1, hk2, hs⟩ := blocks2 w #[.int .i64 (ll.length : Int), .slice a ll.length c] 26 #[.int .i64 0, .slice none 0 0] 26
  generalize ((w.alloc (.cells #[.int .i64 (ll.length : Int), .slice a ll.length c] 26)).alloc (.cells #[.int .i64 0, .slice none 0 0] 26)) = W at *
  have K1 := Lib.hid hk1
  have K2 := Lib.hid hk2
  have HS := Lib.hid hs
  clear hs hk1 hk2
  have hzW := B.size
  obtain ⟨k10, k11⟩ := K1.out.two
  have k1l := K1.out.lt
  obtain ⟨k20, k21⟩ := K2.out.two
  have k2l := K2.out.lt
  go_wp2_with fail
  refine (gunit_in ll.length _ hn256).mono ?_
  rintro e w1 ⟨u1, rfl, hu1, hb⟩
  replace K1 := Lib.hid (K1.out.go hb)
  replace K2 := Lib.hid (K2.out.go hb)
  replace B := B.trans (hb.mono B.size)
  have hzw1 := B.size
  clear hb
  obtain ⟨ua, uc, rfl, hU⟩ := hu1.grid
  have HU := Lib.hid hU
  clear hU k10 k11 k1l k20 k21 k2l
  have hul := unitG_length ll.length
  obtain ⟨k10, k11⟩ := K1.out.two
  have k1l := K1.out.lt
  go_wp2_with fail
  clear k10 k11 k1l
  obtain ⟨B1, hkU, hkg, _⟩ := blocks2 w1 #[.int .i64 (ll.length : Int), .slice ua ll.length uc] 26 (Array.replicate (ll.length * 2) (.slice none 0 0)) 61
  generalize (w1.alloc (.cells #[.int .i64 (ll.length : Int), .slice ua ll.length uc] 26)).alloc (.cells (Array.replicate (ll.length * 2) (.slice none 0 0)) 61) = W2 at *
  obtain ⟨g, hg⟩ : ∃ g : Nat, g = w1.heap.size + 1 := ⟨_, rfl⟩
  rw [← hg] at hkg
  simp only [← hg]
  have HM := Lib.hid (OwnL.made hkg (Nat.le_refl g) (by omega : ll.length ≤ 1000000000))
  have hk2l := K2.out.lt
  have HGW := Lib.hid (show w1.heap.size < g by omega)
  have HGO := Lib.hid (show w.heap.size + 1 < w1.heap.size from hk2l)
  have HKU := Lib.hid hkU
  have HK2 := Lib.hid (K2.out.go B1)
  have HB0 := Lib.hid B
  have HUL := Lib.hid hul
  clear hkU hkg hmk hg hk2l K1 K2 hul B
  go_loopw [8, 9, 32] (fun _ _ i wr => ∃ k : Nat, k ≤ ll.length ∧ i = .int .i64 k ∧ Below w1.heap.size w1 wr ∧ Blk wr w1.heap.size #[.int .i64 (ll.length : Int), .slice ua ll.length uc] 26 ∧ Blk wr (w.heap.size + 1) #[.int .i64 0, .slice none 0 0] 26 ∧ OwnL wr g 61 (whole g ll.length) (fillL (carry ll) k)) (fun _ _ i _ => ll.length - (intOf i).toNat)
  case atStart => exact ⟨0, by omega, rfl, B1, HKU.out, HK2.out, by rw [fillL_zero, HCL.out]; exact HM.out⟩
  case round =>
    clear B1 HM HKU HK2
    obtain ⟨i, hi, rfl, B1, hKU, hK2, hO⟩ := hrel
    have HO := Lib.hid hO
    have HKU := Lib.hid hKU
    have HK2 := Lib.hid hK2
    have HB := Lib.hid (HB0.out.trans (B1.mono HB0.out.size))
    have HB1 := Lib.hid B1
    clear hO hKU hK2 B1
    by_cases hlt : i < ll.length
    · obtain ⟨b, off, u, rfl, hu, hBr⟩ := HR.out.row HB.out i hlt
      have HBR := Lib.hid hBr
      obtain ⟨ra, rc, rfl, _⟩ := hBr
      obtain ⟨ub, uo, x, rfl, hx, hBx⟩ := HU.out.row HB1.out i (by rw [HUL.out]; exact hlt)
      rw [unitG_at hlt] at hBx
      have HBX := Lib.hid hBx
      obtain ⟨xa, xc, rfl, _⟩ := hBx
      have k0 : (0 : Int) ≤ (i : Int) := Int.natCast_nonneg _
      have k1 : (i : Int) < (ll.length : Int) := by omega
      have HL := Lib.hid (show i < (fillL (carry ll) i).length by rw [fillL_length (by rw [HCL.out]; exact hi), HCL.out]; exact hlt)
      have HS := Lib.hid (fillL_set (R := carry ll) (k := i) (by rw [HCL.out]; exact hlt))
      rw [carry_at hlt] at HS
      obtain ⟨b1, d1, b2, d2, e0, e1, _, _⟩ := HO.out.cells i HL.out
      have f0 := HO.out.free (i * 2)
      have f1 := HO.out.free (i * 2 + 1)
      obtain ⟨u0, u1⟩ := HKU.out.two
      go_wp2_with fail
      obtain ⟨o1, s1, g1⟩ := HO.out.set i HL.out (r := (rowAt ll i, unitL ll.length i)) HBR.out HBX.out
      rw [HS.out] at o1
      have HO1 := Lib.hid o1
      have h3 := HGW.out
      have h4 := HGO.out
      have HKUN := Lib.hid (HKU.out.grown g1 (by simp; omega))
      have HK2N := Lib.hid (HK2.out.grown g1 (by simp; omega))
      have HB1N := Lib.hid (below_grown HB1.out g1 HB1.out.size (by omega))
      clear o1 s1 g1 h3 h4
      go_roundw
      case rel => exact ⟨i + 1, by omega, by go_num, HB1N.out, HKUN.out, HK2N.out, HO1.out⟩
      case measure => simp [intOf]; omega
    · obtain rfl : i = ll.length := by omega
      rw [show fillL (carry ll) ll.length = carry ll by rw [show fillL (carry ll) ll.length = fillL (carry ll) (carry ll).length by rw [HCL.out], fillL_all]] at HO
      go_wp2_with fail
      have B : Below w.heap.size w wr := HB.out
      refine (reduced_any _ (carry ll) ll.length ll.length _ HO.out.list HD.out (by omega) (by omega) (by rw [HCL.out]; omega)).mono ?_
      rintro e w3 ⟨v3, rfl, hv3, hb⟩
      replace HK2 := Lib.hid (HK2.out.go hb)
      replace B := B.trans (hb.mono B.size)
      have hzw3 := B.size
      clear hb
      rw [← HEQ.out] at hv3
      have HV := Lib.hid hv3
      obtain ⟨xa, xc, rfl⟩ := hv3.shape
      clear hv3 HO HKU HB1 HB
      by_cases hs : E.length < ll.length
      · have hs1 : (E.length : Int) < (ll.length : Int) := by omega
        obtain ⟨k20, k21⟩ := HK2.out.two
        obtain ⟨k2f0, k2f1⟩ := HK2.out.fre2
        go_wp2_with fail
        obtain ⟨e0, e1, hB, _⟩ := store2 HK2.out (Nat.le_succ _) B (int_ne _ _ (by decide)) (slice_ne _ _ _) (.int .i64 0) (.slice none 0 0)
        exact bodyPost_ret (v := .tuple #[.agg #[.int .i64 0, .slice none 0 0], I64 19]) (by simp [results, Try.results26, go_sem, e0, e1]) rfl ⟨_, rfl, GridO.zero _ _, hB⟩
      · have hs1 : ¬ (E.length : Int) < (ll.length : Int) := by omega
        have HNL := Lib.hid hs
        have hmk := make_rows ll.length (by omega)
        have HEL := Lib.hid (show E.length = ll.length by
          have := Ro.redOf_length (carry ll) (carry ll).length (Nat.le_refl _)
          rw [List.take_length, ← HEQ.out, HCL.out] at this
          omega)
        have HDL := Lib.hid (show (datas E).length = ll.length by rw [datas_length]; exact HEL.out)
        clear hs
        go_wp2_with fail
        obtain ⟨g11, hg11⟩ : ∃ g11 : Nat, g11 = w3.heap.size := ⟨_, rfl⟩
        have HVN := Lib.hid (show ∀ b, (Value.slice xa E.length xc).ownBlock = some b → b < g11 from fun b e => by rw [hg11]; exact HV.out.lt b e)
        obtain ⟨hb1, hk1, _⟩ := blocks1 w3 (Array.replicate ll.length (.slice none 0 0)) 35
        generalize w3.alloc (.cells (Array.replicate ll.length (.slice none 0 0)) 35) = W4 at *
        rw [← hg11] at hk1
        simp only [← hg11]
        have HM := Lib.hid (OwnM.made hk1 (Nat.le_refl g11) (by omega : ll.length ≤ 1000000000))
        have h2l := HK2.out.lt
        have HGW1 := Lib.hid (show w.heap.size + 1 < g11 by omega)
        replace HV := Lib.hid (HV.out.go hb1)
        replace HK2 := Lib.hid (HK2.out.go hb1)
        have HB := Lib.hid (B.trans (hb1.mono B.size))
        clear hb1 hk1 hmk hg11 h2l B
        go_loopw [12, 13, 59] (fun _ _ i wr => ∃ k : Nat, k ≤ ll.length ∧ i = .int .i64 k ∧ Below w.heap.size w wr ∧ Blk wr (w.heap.size + 1) #[.int .i64 0, .slice none 0 0] 26 ∧ (∃ B3, OwnL wr B3 61 (.slice xa E.length xc) E) ∧ OwnM wr g11 35 (whole g11 ll.length) (fillM (datas E) k)) (fun _ _ i _ => ll.length - (intOf i).toNat)
        case atStart => exact ⟨0, by omega, rfl, HB.out, HK2.out, ⟨_, HV.out⟩, by rw [fillM_zero, HDL.out]; exact HM.out⟩
        case round =>
          clear HB HM HK2 HV
          obtain ⟨k, hk, rfl, B, hK2, ⟨B3, hV⟩, hO⟩ := hrel
          have HO := Lib.hid hO
          have HK2 := Lib.hid hK2
          have HV := Lib.hid hV
          clear hO hK2 hV
          by_cases hlt : k < ll.length
          · have hlE : (k : Int) < (E.length : Int) := by have := HEL.out; omega
            have k0 : (0 : Int) ≤ (k : Int) := Int.natCast_nonneg _
            have k1 : (k : Int) < (ll.length : Int) := by omega
            obtain ⟨gv, c', er, _, hgl⟩ := HV.out.addr (by omega)
            simp only [Value.slice.injEq, true_and] at er
            obtain ⟨rfl, rfl⟩ := er
            obtain ⟨p0, pc, q0, qc, z0, z1, hp, hq⟩ := HV.out.cells k (by omega)
            have HP := Lib.hid hp
            have HQ := Lib.hid hq
            have HL := Lib.hid (show k < (fillM (datas E) k).length by rw [fillM_length (by rw [HDL.out]; exact hk), HDL.out]; exact hlt)
            have HS := Lib.hid (fillM_set (R := datas E) (k := k) (by rw [HDL.out]; exact hlt))
            rw [datas_at (by have := HEL.out; omega)] at HS
            obtain ⟨a9, d9, c9, _⟩ := HO.out.cell k HL.out
            have f9 := HO.out.free k
            have l9 := HO.out.lt g11 rfl
            clear hp hq
            go_wp2_with fail
            obtain ⟨o1, s1, g1⟩ := HO.out.set k HL.out HQ.out
            rw [HS.out] at o1
            have h3 := HGW1.out
            have t1 := HK2.out.grown g1 (by simp; omega)
            have t2 := HV.out.other g1 s1 (fun e => Nat.lt_irrefl _ (HVN.out _ e))
            have t3 := below_grown B g1 B.size (by omega)
            obtain ⟨hb, _, _⟩ := blocks1 (wr.setCell ⟨g11, k, none⟩ (.slice q0 (rwAt E k).2.length qc)) #[.slice p0 (rwAt E k).1.length pc, .slice q0 (rwAt E k).2.length qc] 61
            generalize wr.setCell ⟨g11, k, none⟩ (.slice q0 (rwAt E k).2.length qc) = W5 at *
            have HO1 := Lib.hid (o1.go hb)
            have T1 := Lib.hid (t1.go hb)
            have T2 := Lib.hid (t2.go hb)
            have T3 := Lib.hid (t3.trans (hb.mono t3.size))
            clear o1 s1 g1 h3 t1 t2 t3 hb
            go_roundw
            case rel => exact ⟨k + 1, by omega, by go_num, T3.out, T1.out, ⟨_, T2.out⟩, HO1.out⟩
            case measure => simp [intOf]; omega
          · obtain rfl : k = ll.length := by omega
            rw [show fillM (datas E) ll.length = datas E by rw [show fillM (datas E) ll.length = fillM (datas E) (datas E).length by rw [HDL.out], fillM_all]] at HO
            obtain ⟨k20, k21⟩ := HK2.out.two
            obtain ⟨k2f0, k2f1⟩ := HK2.out.fre2
            have hnE : ¬ (ll.length : Int) < (E.length : Int) := by have := HEL.out; omega
            go_wp2_with fail
            obtain ⟨⟨q1, _⟩, xa', xc', q2, q3⟩ := store_grid (m := (ll.length : Int)) (B := g11) HK2.out (int_ne _ _ (by decide)) (slice_ne _ _ _) HGW1.out HO.out
            obtain ⟨e0, e1⟩ := q2.two
            have hB := below_grown B q1 B.size (Nat.le_succ _)
            exact bodyPost_ret (v := .tuple #[.agg #[.int .i64 (ll.length : Int), .slice xa' (datas E).length xc'], I64 0]) (by simp [results, Try.results26, go_sem, e0, e1]) rfl ⟨_, rfl, ⟨_, rfl, q3.mono (by have := HGW1.out; omega)⟩, hB⟩

end Go.Proofs.Ytohfcdgpllghbaa

/-
  Grids in the program (layer 7): 'Rank', 'Of', 'Unit'.
-/
set_option maxRecDepth 100000
namespace Go.Proofs.Ytohfcdgpllghbaa
open Go.RowKit

theorem redOf_rank {k t : Nat} {L : List Rw} (hD : Ro.Dims k t L) : (Ro.redOf L).length = La.rk k (La.Sp (L.map f1)) := by
  obtain ⟨h1, h2⟩ := redOf_red hD L.length (Nat.le_refl _)
  rw [List.take_length] at h1 h2
  rw [← up_rank h1.up]
  exact La.rk_congr h2
theorem bare_fill (ll : List (List Nat)) (k : Nat) (h : k < ll.length) : rwAt (Ro.bare ll) k = (rowAt ll k, []) := Ro.bare_at ll k h

/-- The rank of a grid. -/
theorem rank_any (u : Value) (m : Int) (k : Nat) (ll : List (List Nat)) (w : World) (hG : IsGrid w u m ll) (hO : OctM ll) (hk : ∀ r ∈ ll, r.length = k) (hkk : k ≤ 10000000) (hlen : ll.length ≤ 1000000) :
    Calls Try.prog 21 #[u] w fun e w' => e = .returned (.int .i64 (rankL k ll : Int)) ∧ Below w.heap.size w w' := by
  obtain ⟨a, c, rfl, hR⟩ := hG
  have HR := Lib.hid hR
  have HD := Lib.hid (bare_dims hO hk)
  have HRK := Lib.hid (show (Ro.redOf (Ro.bare ll)).length = rankL k ll by rw [redOf_rank (bare_dims hO hk), bare_map]; rfl)
  have hbl := Ro.bare_length ll
  have HBL := Lib.hid hbl
  have hmk := make_vrows ll.length (by omega)
  clear hR hO hk hbl
  go_enter Try.func21, Try.ntmps21
  go_wp2_with fail
  obtain ⟨B, hk1, hk, hs⟩ := blocks2 w #[.int .i64 m, .slice a ll.length c] 26 (Array.replicate (ll.length * 2) (.slice none 0 0)) 61
  generalize (w.alloc (.cells #[.int .i64 m, .slice a ll.length c] 26)).alloc (.cells (Array.replicate (ll.length * 2) (.slice none 0 0)) 61) = W2 at *
  obtain ⟨g, hg⟩ : ∃ g : Nat, g = w.heap.size + 1 := ⟨_, rfl⟩
  rw [← hg] at hk
  simp only [← hg]
  have HM := Lib.hid (OwnL.made hk (Nat.le_refl g) (by omega : ll.length ≤ 1000000000))
  have HGW := Lib.hid (show w.heap.size ≤ g by omega)
  clear hk1 hk hs hmk hg
  go_loopw [4, 5, 13] (fun _ _ i wr => ∃ n : Nat, n ≤ ll.length ∧ i = .int .i64 n ∧ Below w.heap.size w wr ∧ OwnL wr g 61 (whole g ll.length) (fillL (Ro.bare ll) n)) (fun _ _ i _ => ll.length - (intOf i).toNat)
  case atStart => exact ⟨0, by omega, rfl, B, by rw [fillL_zero, HBL.out]; exact HM.out⟩
  case round =>
    clear B HM
    obtain ⟨n, hn, rfl, B, hO⟩ := hrel
    have HO := Lib.hid hO
    clear hO
    by_cases hlt : n < ll.length
    · obtain ⟨b, off, u, rfl, hu, hBr⟩ := HR.out.row B n hlt
      have HBR := Lib.hid hBr
      obtain ⟨ua, uc, rfl, _⟩ := hBr
      have k0 : (0 : Int) ≤ (n : Int) := Int.natCast_nonneg _
      have k1 : (n : Int) < (ll.length : Int) := by omega
      have HK := Lib.hid (show n < (fillL (Ro.bare ll) n).length by rw [fillL_length (by rw [HBL.out]; exact hn), HBL.out]; exact hlt)
      have HS := Lib.hid (fillL_set (R := Ro.bare ll) (k := n) (by rw [HBL.out]; exact hlt))
      rw [bare_fill ll n hlt] at HS
      obtain ⟨b1, d1, b2, d2, e0, e1, _, _⟩ := HO.out.cells n HK.out
      have f0 := HO.out.free (n * 2)
      have f1 := HO.out.free (n * 2 + 1)
      go_wp2_with fail
      obtain ⟨o1, s1, g1⟩ := HO.out.set n HK.out (r := (rowAt ll n, [])) HBR.out (Bytes.nil _)
      rw [HS.out] at o1
      have HO1 := Lib.hid o1
      have HB1 := Lib.hid (below_grown B g1 B.size HGW.out)
      clear o1 s1 g1
      go_roundw
      case rel => exact ⟨n + 1, by omega, by go_num, HB1.out, HO1.out⟩
      case measure => simp [intOf]; omega
    · obtain rfl : n = ll.length := by omega
      rw [show fillL (Ro.bare ll) ll.length = Ro.bare ll by rw [← HBL.out, fillL_all]] at HO
      go_wp2_with fail
      refine (reduced_any _ (Ro.bare ll) k 0 _ HO.out.list HD.out hkk (by omega) (by rw [HBL.out]; exact hlen)).mono ?_
      rintro e w2 ⟨v2, rfl, hv2, hb⟩
      replace B := B.trans (hb.mono B.size)
      have hzw2 := B.size
      clear hb
      obtain ⟨a2, c2, rfl⟩ := hv2.shape
      rw [HRK.out]
      go_wp2_with fail
      go_ret
      exact ⟨rfl, B⟩

end Go.Proofs.Ytohfcdgpllghbaa

/-
  What the rows that are reduced with a unit beside them carry is the inverse (layer 7). No program in this text.
-/
set_option maxRecDepth 100000
namespace Go.Proofs.Ytohfcdgpllghbaa
open La

/-- What is closed, and has the rows that come in, has the rows that are kept. -/
theorem take1_within {k t : Nat} {W : Vc → Prop} (hW : Lin W) {E : List Rw} (h : RedR k t E) {x : Rw} (hx : Ro.Dim k t x) (hE : ∀ r, r ∈ E → W (fj r)) (hwx : W (fj x)) : ∀ r, r ∈ Ro.take1 E x → W (fj r) := by
  have hr := Ro.rest_dim h.up.dims hx
  have hrest : W (fj (Ro.rest E x)) := by
    have hs := (rest_span h.up.dims hx).1.within hW (fun v hv => by
      obtain ⟨o, ho, rfl⟩ := List.mem_map.1 hv
      exact hE o ho)
    exact hW.of_sum hwx hs
  have hy : W (fj (Ro.norm (Ro.rest E x))) := by rw [fj_norm hr]; exact hW.smul _ hrest
  intro r hmem
  unfold Ro.take1 at hmem
  split at hmem
  · exact hE r hmem
  · rw [put_mem_iff, List.mem_cons] at hmem
    rcases hmem with rfl | hmem
    · exact hy
    · obtain ⟨o, ho, rfl⟩ := Ro.clean_mem hmem
      obtain ⟨c, hc⟩ := clean_j h.up.dims (Ro.norm_dim hr) o ho
      rw [hc]
      exact hW.add (hW.smul _ hy) (hE o ho)
theorem redOf_within {k t : Nat} {W : Vc → Prop} (hW : Lin W) {L : List Rw} (hD : Ro.Dims k t L) (h : ∀ x, x ∈ L → W (fj x)) : ∀ n, n ≤ L.length → ∀ r, r ∈ Ro.redOf (L.take n) → W (fj r)
  | 0, _, r, hr => by cases hr
  | n + 1, hn, r, hr => by
    rw [Ro.redOf_take L n hn] at hr
    exact take1_within hW (redOf_red hD n (by omega)).1 (hD.at hn) (redOf_within hW hD h n (by omega)) (h _ (rwAt_mem hn)) r hr

/-- As many rising places as there are places: each is its own. -/
theorem rise_full {f : Nat → Nat} {n : Nat} (hlt : ∀ i, i < n → f i < n) (hr : ∀ i j, i < j → j < n → f i < f j) : ∀ i, i < n → f i = i := by
  have h1 : ∀ i, i < n → i ≤ f i := by
    intro i
    induction i with
    | zero => intro _; omega
    | succ i ih =>
      intro hi
      have := ih (by omega)
      have := hr i (i + 1) (by omega) hi
      omega
  have h2 : ∀ d i, i + d + 1 = n → f i ≤ i := by
    intro d
    induction d with
    | zero => intro i hi; have := hlt i (by omega); omega
    | succ d ih =>
      intro i hi
      have := ih (i + 1) (by omega)
      have := hr i (i + 1) (by omega) (by omega)
      omega
  intro i hi
  have := h1 i hi
  have := h2 (n - i - 1) i (by omega)
  omega
theorem nth_unitL {n i j : Nat} : nth (unitL n i) j = if i = j ∧ i < n then 1 else 0 := by
  unfold unitL nth zeros
  rw [List.getD_eq_getElem?_getD, List.getElem?_set]
  by_cases e : i = j
  · subst e
    by_cases h : i < n
    · simp [h]
    · simp [h]
  · simp [e, List.getElem?_replicate]
    split <;> rfl
theorem full_lead {k t : Nat} {E : List Rw} (h : RedR k t E) (hl : E.length = k) : ∀ i, i < k → lead (rwAt E i).1 = i :=
  rise_full (fun i hi => lead_lt_k h (rwAt_mem (by omega))) fun i j hij hj => by
    have := List.pairwise_iff_getElem.1 h.up.rise i j (by omega) (by omega) hij
    rwa [← rwAt_eq E i (by omega), ← rwAt_eq E j (by omega)] at this
theorem full_unit {k t : Nat} {E : List Rw} (h : RedR k t E) (hl : E.length = k) {i : Nat} (hi : i < k) : (rwAt E i).1 = unitL k i := by
  have hd := h.up.dims.at (show i < E.length by omega)
  refine ext_nth (by rw [hd.1, unitL_length]) fun j hj => ?_
  rw [hd.1] at hj
  rw [nth_unitL]
  by_cases e : i = j
  · subst e
    rw [if_pos ⟨rfl, hi⟩]
    have := h.up.one _ (rwAt_mem (show i < E.length by omega))
    rwa [full_lead h hl i hi] at this
  · rw [if_neg (fun ⟨e', _⟩ => e e')]
    have := h.clear i j (by omega) (by omega) e
    rwa [full_lead h hl j hj] at this

theorem carry_rank {ll : List (List Nat)} (hO : OctM ll) (hk : ∀ r ∈ ll, r.length = ll.length) : (Ro.redOf (carry ll)).length = rankL ll.length ll := by
  rw [redOf_rank (carry_dims hO hk)]
  unfold rankL
  congr 2
  refine List.ext_getElem (by simp [carry]) fun i h1 h2 => ?_
  simp only [List.length_map, carry_length] at h1
  rw [map_getElem, carry_at h1, List.getElem_map, ← rowAt_eq ll i h1]
  rfl
theorem fj_left {k t : Nat} {x : Rw} (hx : Ro.Dim k t x) {i : Nat} (hi : i < k) : fj x i = fv x.1 i := by rw [fj_at hx hi]; rfl
theorem fj_right {k t : Nat} {x : Rw} (hx : Ro.Dim k t x) (i : Nat) : fj x (k + i) = fv x.2 i := by
  show bt (nth (x.1 ++ x.2) (k + i)) = bt (nth x.2 i)
  rw [nth_append, if_neg (by rw [hx.1]; omega), hx.1, Nat.add_sub_cancel_left]
/-- The vector is what the data combine. -/
def Tells (n : Nat) (A : Nat → Vc) (v : Vc) : Prop := ∀ j, j < n → v j = sm (fun t => v (n + t) * A t j) n
theorem Tells.lin (n : Nat) (A : Nat → Vc) : Lin (Tells n A) := by
  refine ⟨fun j _ => ?_, fun {x y} hx hy j hj => ?_, fun {x} c hx j hj => ?_⟩
  · exact (sm_zero fun t _ => bzero_mul _).symm
  · show x j + y j = sm (fun t => (x (n + t) + y (n + t)) * A t j) n
    rw [hx j hj, hy j hj, ← sm_add]
    exact sm_congr fun t _ => (badd_mul _ _ _).symm
  · show c * x j = sm (fun t => c * x (n + t) * A t j) n
    rw [hx j hj, ← sm_mul]
    exact sm_congr fun t _ => (bmul_assoc _ _ _).symm

section
variable {ll : List (List Nat)} (hO : OctM ll) (hk : ∀ r ∈ ll, r.length = ll.length)
include hO hk

theorem carry_tells : ∀ x, x ∈ carry ll → Tells ll.length (mat ll) (fj x) := by
  intro x hx j hj
  have hd := carry_dims hO hk x hx
  obtain ⟨i, hi, rfl⟩ := List.mem_map.1 hx
  rw [List.mem_range] at hi
  rw [fj_left hd hj]
  have e : ∀ t, fj (rowAt ll i, unitL ll.length i) (ll.length + t) = if i = t ∧ i < ll.length then 1 else 0 := fun t => by
    rw [fj_right hd]
    show bt (nth (unitL ll.length i) t) = _
    rw [nth_unitL]
    split <;> rfl
  rw [sm_congr (g := fun t => (if i = t ∧ i < ll.length then (1 : B) else 0) * mat ll t j) fun t _ => by rw [e t]]
  rw [sm_one hi fun t _ hne => by rw [if_neg fun h => hne h.1.symm, bzero_mul]]
  rw [if_pos ⟨rfl, hi⟩, bone_mul]
  rfl
theorem inv_dims : RedR ll.length ll.length (Ro.redOf (carry ll)) := by
  have := (redOf_red (carry_dims hO hk) (carry ll).length (Nat.le_refl _)).1
  rwa [List.take_length] at this
theorem datas_oct : OctM (datas (Ro.redOf (carry ll))) := fun r hr => by
  obtain ⟨x, hx, rfl⟩ := List.mem_map.1 hr
  exact ((inv_dims hO hk).up.dims x hx).2.2.2
theorem datas_wide : ∀ r ∈ datas (Ro.redOf (carry ll)), r.length = ll.length := fun r hr => by
  obtain ⟨x, hx, rfl⟩ := List.mem_map.1 hr
  exact ((inv_dims hO hk).up.dims x hx).2.1

variable (hf : (Ro.redOf (carry ll)).length = ll.length)
include hf

theorem inv_left {i : Nat} (hi : i < ll.length) : mm (mat (datas (Ro.redOf (carry ll)))) (mat ll) ll.length i = idn ll.length i := by
  have hR := inv_dims hO hk
  have hT := redOf_within (Tells.lin ll.length (mat ll)) (carry_dims hO hk) (carry_tells hO hk) (carry ll).length (Nat.le_refl _)
  rw [List.take_length] at hT
  have hm := rwAt_mem (show i < (Ro.redOf (carry ll)).length by omega)
  have hd := hR.up.dims _ hm
  funext j
  show sm (fun t => mat (datas (Ro.redOf (carry ll))) i t * mat ll t j) ll.length = _
  have hrow : rowAt (datas (Ro.redOf (carry ll))) i = (rwAt (Ro.redOf (carry ll)) i).2 := datas_at (by omega)
  rw [sm_congr (g := fun t => fj (rwAt (Ro.redOf (carry ll)) i) (ll.length + t) * mat ll t j) fun t _ => by
    rw [fj_right hd]; show fv (rowAt _ i) t * _ = _; rw [hrow]]
  by_cases hj : j < ll.length
  · rw [← hT _ hm j hj, fj_left hd hj, full_unit hR hf hi]
    show bt (nth (unitL ll.length i) j) = _
    rw [nth_unitL]
    unfold idn
    split <;> rfl
  · rw [sm_zero fun t ht => by
      rw [mat_short (k := ll.length) (fun q hq => by rw [rowAt_eq ll q hq]; exact hk _ (List.getElem_mem hq)) ht j (by omega), bmul_zero]]
    exact (if_neg (by omega)).symm

theorem inv_right {i : Nat} (hi : i < ll.length) : mm (mat ll) (mat (datas (Ro.redOf (carry ll)))) ll.length i = idn ll.length i :=
  mm_turn (fun i hi => mat_short (k := ll.length) (fun q hq => by rw [rowAt_eq _ q hq]; exact datas_wide hO hk _ (List.getElem_mem hq)) (by rw [datas_length, hf]; exact hi))
    (fun i hi => mat_short (fun q hq => by rw [rowAt_eq ll q hq]; exact hk _ (List.getElem_mem hq)) hi) (fun i hi => inv_left hO hk hf hi) i hi
end

theorem unitG_mat {n i : Nat} (hi : i < n) : mat (unitG n) i = idn n i := funext fun j => by
  show bt (nth (rowAt (unitG n) i) j) = _
  rw [unitG_at hi, nth_unitL]
  unfold idn
  split <;> rfl
/-- Rows that are the same as vectors are the same. -/
theorem ext_mat {M N : List (List Nat)} {n : Nat} (hM : OctM M) (hN : OctM N) (hl : M.length = N.length) (wM : ∀ j, j < M.length → (rowAt M j).length = n) (wN : ∀ j, j < N.length → (rowAt N j).length = n) (h : ∀ i, i < M.length → mat M i = mat N i) : M = N :=
  ext_rowAt hl fun j hj => fv_inj (rowAt_oct hM j) (rowAt_oct hN j) (by rw [wM j hj, wN j (by omega)]) (h j hj)
theorem unitG_oct (n : Nat) : OctM (unitG n) := fun r hr => by
  obtain ⟨i, _, rfl⟩ := List.mem_map.1 hr
  exact unitL_lt n i
/-- A product that is the unit. -/
theorem mulL_unit {A C : List (List Nat)} {n : Nat} (hA : OctM A) (hC : OctM C) (lA : A.length = n) (lC : C.length = n) (wC : ∀ j, j < C.length → (rowAt C j).length = n) (h : ∀ i, i < n → mm (mat A) (mat C) n i = idn n i) : mulL A C n = unitG n := by
  refine ext_mat (n := n) (mulL_oct hA C n) (unitG_oct n) (by rw [mulL_length, unitG_length, lA]) (fun j hj => ?_) (fun j hj => ?_) fun i hi => ?_
  · rw [mulL_length] at hj
    rw [mulL_at hj, combT_length]
  · rw [unitG_length] at hj
    rw [unitG_at hj, unitL_length]
  · rw [mulL_length, lA] at hi
    rw [mulL_mat hA hC wC (by omega), unitG_mat hi, lC]
    exact h i hi

end Go.Proofs.Ytohfcdgpllghbaa
