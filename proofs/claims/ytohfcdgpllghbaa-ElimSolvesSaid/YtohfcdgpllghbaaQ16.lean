/- Texts of one seat, laid together: GridA, SearchRed, InsA. -/
import Derived.Test.YtohfcdgpllghbaaQ8
import Derived.Test.YtohfcdgpllghbaaQ15
import Derived.Test.YtohfcdgpllghbaaQ13
import Derived.BigQuiet
import Derived.Test.YtohfcdgpllghbaaQ11
import Derived.Lib.Overlaps
import Derived.Lib.AppendZerosOnto
import Derived.Shelf.RegionOpenPlain

/-
  Grids in the program (layer 7): 'without', and the predicate by which a row's place is searched.
-/
set_option maxRecDepth 100000
namespace Go.Proofs.Ytohfcdgpllghbaa
open Go.RowKit
open La

/-- Nothing is taken away where nothing stands. -/
theorem step_same {k t : Nat} {x r : Rw} (hx : Ro.Dim k t x) (hr : Ro.Dim k t r) (h : nth x.1 (lead r.1) = 0) : Ro.step x r = x := by
  refine fj_inj (Ro.step_dim hx hr) hx ?_
  unfold Ro.step
  rw [h, fj_less (by decide) hx hr]
  have : bt 0 = 0 := rfl
  rw [this, zero_vs, v0_va]
theorem step_pair {k t : Nat} {x r : Rw} (hx : Ro.Dim k t x) (hr : Ro.Dim k t r) : Ro.step x r = (Gf.add (Gf.scale (nth x.1 (lead r.1)) r.1) x.1, Gf.add (Gf.scale (nth x.1 (lead r.1)) r.2) x.2) := (Ro.less_dim (nth_lt hx.2.2.1 _) hx hr).2

set_option maxHeartbeats 1000000 in
theorem gwithout_any (u v : Value) (x r : Rw) (k t : Nat) (w : World) (hu : IsRow w u x.1 x.2) (hv : IsRow w v r.1 r.2) (hx : Ro.Dim k t x) (hr : Ro.Dim k t r) (hk : k ≤ 10000000) (ht : t ≤ 10000000) (hl : lead r.1 < r.1.length) :
    Calls Try.prog 82 #[u, v] w (RowsV w (Ro.step x r).1 (Ro.step x r).2) := by
  obtain ⟨v0, d0, rfl, hp, hq⟩ := hu
  obtain ⟨v1, d1, rfl, hp', hq'⟩ := hv
  have HP := Lib.hid hp
  have HQ := Lib.hid hq
  have HP' := Lib.hid hp'
  have HQ' := Lib.hid hq'
  obtain ⟨a0, c0, rfl, _⟩ := hp
  obtain ⟨a1, c1, rfl, _⟩ := hq
  obtain ⟨a2, c2, rfl, _⟩ := hp'
  obtain ⟨a3, c3, rfl, _⟩ := hq'
  have HLI := Lib.hid (show leadI r.1 = (lead r.1 : Int) from if_pos hl)
  have HAT := Lib.hid (show atI x.1 (lead r.1 : Int) = nth x.1 (lead r.1) by unfold atI; rw [if_pos ⟨by omega, by have := hx.1; have := hr.1; omega⟩]; rfl)
  have HC := nth_lt hx.2.2.1 (lead r.1)
  have HX := Lib.hid hx
  have HR := Lib.hid hr
  have hl1 := hx.1
  have hl2 := hx.2.1
  have hl3 := hr.1
  have hl4 := hr.2.1
  have L1 : r.1.length ≤ 10000000 := by omega
  have L2 : r.2.length ≤ 10000000 := by omega
  have E1 := Lib.hid (show r.1.length = x.1.length by omega)
  have E2 := Lib.hid (show r.2.length = x.2.length by omega)
  clear hx hr hl hl1 hl2 hl3 hl4
  by_cases h0 : nth x.1 (lead r.1) = 0
  · have hb : ((nth x.1 (lead r.1) : Int) == 0) = true := by rw [h0]; rfl
    have HST := Lib.hid (step_same HX.out HR.out h0)
    clear h0
    go_enter Try.func82, Try.ntmps82
    go_wp2_with fail
    obtain ⟨B, hk1, hk2, hk3, hs⟩ := blocks3 w #[.slice a0 x.1.length c0, .slice a1 x.2.length c1] 61 #[.slice a2 r.1.length c2, .slice a3 r.2.length c3] 61 #[.slice none 0 0, .slice none 0 0] 61
    generalize (((w.alloc (.cells #[.slice a0 x.1.length c0, .slice a1 x.2.length c1] 61)).alloc (.cells #[.slice a2 r.1.length c2, .slice a3 r.2.length c3] 61)).alloc (.cells #[.slice none 0 0, .slice none 0 0] 61)) = W at *
    have K1 := Lib.hid hk1
    have K2 := Lib.hid hk2
    have K3 := Lib.hid hk3
    have HS := Lib.hid hs
    clear hs hk1 hk2 hk3
    replace HP := Lib.hid (HP.out.go B)
    replace HQ := Lib.hid (HQ.out.go B)
    replace HP' := Lib.hid (HP'.out.go B)
    replace HQ' := Lib.hid (HQ'.out.go B)
    have hzW := B.size
    obtain ⟨k10, k11⟩ := K1.out.two
    have k1l := K1.out.lt
    obtain ⟨k20, k21⟩ := K2.out.two
    have k2l := K2.out.lt
    go_quiet ((first | (go_at_call 83; exact quiet_eq (lead_any _ r.1 _ (HP'.out.drewN _))) | (go_at_call 87; rw [HLI.out]; exact quiet_eq (at_any _ x.1 _ _ (HP.out.drewN _)))))
    rw [HAT.out]
    have hdn := below_drews W nq
    replace HP := Lib.hid (HP.out.go hdn)
    replace HQ := Lib.hid (HQ.out.go hdn)
    replace K1 := Lib.hid (K1.out.go hdn)
    replace K3 := Lib.hid (K3.out.go hdn)
    replace B := B.trans (hdn.mono B.size)
    clear hdn k10 k11 k20 k21
    generalize W.drewN nq = W3 at *
    obtain ⟨k10, k11⟩ := K1.out.two
    have k1l := K1.out.lt
    obtain ⟨k30, k31⟩ := K3.out.two
    have k3l := K3.out.lt
    obtain ⟨k3f0, k3f1⟩ := K3.out.fre2
    go_wp2_with fail
    obtain ⟨e0, e1, hB, hS⟩ := store2 K3.out (by omega) B (slice_ne _ _ _) (slice_ne _ _ _) (.slice a0 x.1.length c0) (.slice a1 x.2.length c1)
    exact bodyPost_ret (v := .agg #[.slice a0 x.1.length c0, .slice a1 x.2.length c1]) (by simp [results, Try.results82, go_sem, e0, e1]) rfl
      ⟨_, rfl, ⟨_, _, rfl, by rw [HST.out]; exact hS _ _ HP.out, by rw [HST.out]; exact hS _ _ HQ.out⟩, hB⟩
  · have hb : ((nth x.1 (lead r.1) : Int) == 0) = false := beq_eq_false_iff_ne.2 (by omega)
    have HST := Lib.hid (step_pair HX.out HR.out)
    clear h0
    go_enter Try.func82, Try.ntmps82
    go_wp2_with fail
    obtain ⟨B, hk1, hk2, hk3, hs⟩ := blocks3 w #[.slice a0 x.1.length c0, .slice a1 x.2.length c1] 61 #[.slice a2 r.1.length c2, .slice a3 r.2.length c3] 61 #[.slice none 0 0, .slice none 0 0] 61
    generalize (((w.alloc (.cells #[.slice a0 x.1.length c0, .slice a1 x.2.length c1] 61)).alloc (.cells #[.slice a2 r.1.length c2, .slice a3 r.2.length c3] 61)).alloc (.cells #[.slice none 0 0, .slice none 0 0] 61)) = W at *
    have K1 := Lib.hid hk1
    have K2 := Lib.hid hk2
    have K3 := Lib.hid hk3
    have HS := Lib.hid hs
    clear hs hk1 hk2 hk3
    replace HP := Lib.hid (HP.out.go B)
    replace HQ := Lib.hid (HQ.out.go B)
    replace HP' := Lib.hid (HP'.out.go B)
    replace HQ' := Lib.hid (HQ'.out.go B)
    have hzW := B.size
    obtain ⟨k10, k11⟩ := K1.out.two
    have k1l := K1.out.lt
    obtain ⟨k20, k21⟩ := K2.out.two
    have k2l := K2.out.lt
    go_quiet ((first | (go_at_call 83; exact quiet_eq (lead_any _ r.1 _ (HP'.out.drewN _))) | (go_at_call 87; rw [HLI.out]; exact quiet_eq (at_any _ x.1 _ _ (HP.out.drewN _)))))
    rw [HAT.out]
    have hdn := below_drews W nq
    replace HP := Lib.hid (HP.out.go hdn)
    replace HQ := Lib.hid (HQ.out.go hdn)
    replace HP' := Lib.hid (HP'.out.go hdn)
    replace HQ' := Lib.hid (HQ'.out.go hdn)
    replace K1 := Lib.hid (K1.out.go hdn)
    replace K2 := Lib.hid (K2.out.go hdn)
    replace K3 := Lib.hid (K3.out.go hdn)
    replace B := B.trans (hdn.mono B.size)
    clear hdn k10 k11 k20 k21
    generalize W.drewN nq = W3 at *
    obtain ⟨k10, k11⟩ := K1.out.two
    have k1l := K1.out.lt
    obtain ⟨k20, k21⟩ := K2.out.two
    have k2l := K2.out.lt
    go_wp2_with fail
    refine (vecless_yes _ _ _ _ _ _ _ _ (nth x.1 (lead r.1)) x.1 x.2 r.1 r.2 _ HC HP.out HQ.out HP'.out HQ'.out L1 L2 E1.out E2.out).mono ?_
    rintro e w4 ⟨u4, rfl, hu4, hb⟩
    replace K3 := Lib.hid (K3.out.go hb)
    replace B := B.trans (hb.mono B.size)
    have hzw4 := B.size
    clear hb
    obtain ⟨y0, y1, rfl, V1, V2⟩ := hu4
    have H1 := Lib.hid V1
    have H2 := Lib.hid V2
    obtain ⟨a4, c4, rfl, _⟩ := V1
    obtain ⟨a5, c5, rfl, _⟩ := V2
    obtain ⟨k30, k31⟩ := K3.out.two
    have k3l := K3.out.lt
    obtain ⟨k3f0, k3f1⟩ := K3.out.fre2
    go_wp2_with fail
    obtain ⟨e0, e1, hB, hS⟩ := store2 K3.out (by omega) B (slice_ne _ _ _) (slice_ne _ _ _) (.slice a4 (Gf.add (Gf.scale (nth x.1 (lead r.1)) r.1) x.1).length c4) (.slice a5 (Gf.add (Gf.scale (nth x.1 (lead r.1)) r.2) x.2).length c5)
    have H3 := Lib.hid (hS _ _ H1.out)
    have H4 := Lib.hid (hS _ _ H2.out)
    clear hS k30 k31 k3l k3f0 k3f1
    generalize (w4.setCell ⟨w.heap.size + 1 + 1, 0, none⟩ (.slice a4 (Gf.add (Gf.scale (nth x.1 (lead r.1)) r.1) x.1).length c4)).setCell ⟨w.heap.size + 1 + 1, 1, none⟩ (.slice a5 (Gf.add (Gf.scale (nth x.1 (lead r.1)) r.2) x.2).length c5) = W5 at *
    obtain ⟨hb, hk, hs⟩ := blocks1 W5 #[.slice a4 (Gf.add (Gf.scale (nth x.1 (lead r.1)) r.1) x.1).length c4, .slice a5 (Gf.add (Gf.scale (nth x.1 (lead r.1)) r.2) x.2).length c5] 61
    replace e0 := cell_keep e0 hb
    replace e1 := cell_keep e1 hb
    have hB2 := hB.trans (hb.mono hB.size)
    have G3 := H3.out.go hb
    have G4 := H4.out.go hb
    clear hk hs hb
    generalize W5.alloc (.cells #[.slice a4 (Gf.add (Gf.scale (nth x.1 (lead r.1)) r.1) x.1).length c4, .slice a5 (Gf.add (Gf.scale (nth x.1 (lead r.1)) r.2) x.2).length c5] 61) = W6 at *
    exact bodyPost_ret (v := .agg #[.slice a4 (Gf.add (Gf.scale (nth x.1 (lead r.1)) r.1) x.1).length c4, .slice a5 (Gf.add (Gf.scale (nth x.1 (lead r.1)) r.2) x.2).length c5]) (by simp [results, Try.results82, go_sem, e0, e1]) rfl
      ⟨_, rfl, ⟨_, _, rfl, by rw [HST.out]; exact G3, by rw [HST.out]; exact G4⟩, hB2⟩

end Go.Proofs.Ytohfcdgpllghbaa

/-
  sort.Search over a closure of the program (Red), which captures two boxes and turns nothing.
-/
set_option maxRecDepth 100000
namespace Go.Proofs.Ytohfcdgpllghbaa
open Go.RowKit

/-- What Search answers: a place behind which the predicate holds, and ahead of which it doesn't. -/
def SrchRed (n : Nat) (p : Nat → Bool) (w : World) (e : Ending) (w' : World) : Prop := ∃ r : Nat, e = .returned (.int .i64 (r : Int)) ∧ r ≤ n ∧ (0 < r → p (r - 1) = false) ∧ (r < n → p r = true) ∧ Below w.heap.size w w'

set_option maxHeartbeats 1000000 in
theorem searchRed_any (c0 c1 : Value) (n : Nat) (p : Nat → Bool) (w : World) (hn : n ≤ 1000000000000) (hF : ∀ wr, Below w.heap.size w wr → ∀ k : Nat, k < n → Calls Try.prog 85 #[.int .i64 (k : Int), c0, c1] wr fun e w' => e = .returned (.bool (p k)) ∧ Below wr.heap.size wr w') :
    Calls Try.prog 84 #[.int .i64 (n : Int), .func (Fn.func 85) #[] #[c0, c1]] w (SrchRed n p w) := by
  have HF := Lib.hid hF
  clear hF
  go_enter Try.func84, Try.ntmps84
  go_wp2_with fail
  go_loopw [5, 6] (fun a b wr => ∃ i j : Nat, a = .int .i64 i ∧ b = .int .i64 j ∧ i ≤ j ∧ j ≤ n ∧ (0 < i → p (i - 1) = false) ∧ (j < n → p j = true) ∧ Below w.heap.size w wr) (fun a b _ => (intOf b).toNat - (intOf a).toNat)
  case atStart => exact ⟨0, n, rfl, rfl, by omega, by omega, fun h => absurd h (by omega), fun h => absurd h (by omega), Below.refl _ _⟩
  case round =>
    obtain ⟨i, j, rfl, rfl, hij, hjn, h0, h1, B⟩ := hrel
    have H0 := Lib.hid h0
    have H1 := Lib.hid h1
    clear h0 h1
    by_cases hlt : i < j
    · obtain ⟨m, hm⟩ : ∃ m, m = (i + j) / 2 := ⟨_, rfl⟩
      have hmn : m < n := by omega
      have hw0 : IntKind.i64.wrap ((i : Int) + (j : Int)) = (i : Int) + (j : Int) := by rw [IntKind.wrap_i64]; omega
      have hw1 : IntKind.u64.wrap ((i : Int) + (j : Int)) = ((i + j : Nat) : Int) := by rw [IntKind.wrap_u64]; omega
      have hw2 : IntKind.i64.wrap (((i : Int) + (j : Int)) / 2) = (m : Int) := by rw [IntKind.wrap_i64]; omega
      have hw3 : IntKind.u64.wrap (((i : Int) + (j : Int)) / 2) = (m : Int) := by rw [IntKind.wrap_u64]; omega
      go_wp2_with fail
      have hhf : ((i : Int) + (j : Int)) / 2 = (m : Int) := by omega
      simp only [hhf]
      refine (HF.out wr B m hmn).mono ?_
      rintro e w2 ⟨rfl, hb⟩
      have B2 : Below w.heap.size w w2 := B.trans (hb.mono B.size)
      clear hhf hw0 hw1 hw2 hw3
      cases hp : p m with
      | false =>
        go_wp2_with fail
        go_roundw
        case rel => exact ⟨m + 1, j, by go_num, rfl, by omega, hjn, fun _ => by rw [Nat.add_sub_cancel]; exact hp, H1.out, B2⟩
        case measure => simp [intOf]; omega
      | true =>
        go_wp2_with fail
        go_roundw
        case rel => exact ⟨i, m, by first | rfl | go_num, by first | rfl | go_num, by omega, by omega, H0.out, fun _ => hp, B2⟩
        case measure => simp [intOf]; omega
    · obtain rfl : i = j := by omega
      go_wp2_with fail
      go_ret
      exact ⟨i, rfl, hjn, H0.out, H1.out, B⟩

end Go.Proofs.Ytohfcdgpllghbaa

/-
  One element put into a slice at a place, in memory: what the two copies of slices.Insert make of a block of whatever elements. No function of the program in this text.
-/
set_option maxRecDepth 100000
namespace Go.Proofs.Ytohfcdgpllghbaa
open Go.RowKit

theorem loose_of_row {W : World} {g : Nat} {cs : Array Value} {e : TypeId} {fr : Nat × Nat} (h : W.heap[g]? = some (.cells cs e fr)) (hn : ∀ u ∈ cs.toList, ∀ k : Nat, u ≠ U8 k) : Loose W g := by
  intro j k hj
  rw [cell_of_row W g j cs e fr h, ← Array.getElem?_toList] at hj
  exact hn _ (List.mem_of_getElem? hj) k rfl
theorem row_of_loose {W : World} {g : Nat} {cs : Array Value} {e : TypeId} {fr : Nat × Nat} (h : W.heap[g]? = some (.cells cs e fr)) (hl : Loose W g) : ∀ u ∈ cs.toList, ∀ k : Nat, u ≠ U8 k := by
  intro u hu k e2
  obtain ⟨j, hj⟩ := List.mem_iff_getElem?.1 hu
  refine hl j k ?_
  rw [cell_of_row W g j cs e fr h, ← Array.getElem?_toList, hj, e2]

/-- A list with cells written over, from a place on. -/
def wr (cur : List Value) (o : Nat) (cs : List Value) : List Value := cur.take o ++ cs ++ cur.drop (o + cs.length)
theorem wr_length {cur cs : List Value} {o : Nat} (h : o + cs.length ≤ cur.length) : (wr cur o cs).length = cur.length := by
  unfold wr; simp; omega
/-- What both copies leave, in whatever order. -/
def insd (cur : List Value) (o : Nat) (N D : List Value) : List Value := cur.take o ++ N ++ D ++ cur.drop (o + N.length + D.length)
theorem wr_fwd {cur N D : List Value} {o : Nat} (h : o + N.length + D.length ≤ cur.length) : wr (wr cur o N) (o + N.length) D = insd cur o N D := by
  have e1 : (wr cur o N).take (o + N.length) = cur.take o ++ N := by
    unfold wr
    rw [List.take_append_of_le_length (by simp; omega), List.take_of_length_le (by simp; omega)]
  have e2 : (wr cur o N).drop (o + N.length + D.length) = cur.drop (o + N.length + D.length) := by
    unfold wr
    rw [List.drop_append, List.drop_of_length_le (by simp; omega), List.nil_append, List.drop_drop]
    congr 1
    simp; omega
  unfold insd
  rw [show wr (wr cur o N) (o + N.length) D = (wr cur o N).take (o + N.length) ++ D ++ (wr cur o N).drop (o + N.length + D.length) from rfl, e1, e2]
theorem wr_back {cur N D : List Value} {o : Nat} (h : o + N.length + D.length ≤ cur.length) : wr (wr cur (o + N.length) D) o N = insd cur o N D := by
  have e1 : (wr cur (o + N.length) D).take o = cur.take o := by
    unfold wr
    rw [List.append_assoc, List.take_append_of_le_length (by simp; omega), List.take_take, Nat.min_eq_left (by omega)]
  have e2 : (wr cur (o + N.length) D).drop (o + N.length) = D ++ cur.drop (o + N.length + D.length) := by
    unfold wr
    rw [List.append_assoc, List.drop_append, List.drop_of_length_le (by simp; omega), List.nil_append]
    have : o + N.length - (List.take (o + N.length) cur).length = 0 := by simp; omega
    rw [this, List.drop_zero]
  unfold insd
  rw [show wr (wr cur (o + N.length) D) o N = (wr cur (o + N.length) D).take o ++ N ++ (wr cur (o + N.length) D).drop (o + N.length) from rfl, e1, e2]
  simp [List.append_assoc]
theorem insd_length {cur N D : List Value} {o : Nat} (h : o + N.length + D.length ≤ cur.length) : (insd cur o N D).length = cur.length := by
  unfold insd; simp; omega
theorem insd_take {cur N D A : List Value} {o m : Nat} (hA : cur.take o = A) (ho : A.length = o) (hm : m = o + N.length + D.length) : (insd cur o N D).take m = A ++ N ++ D := by
  unfold insd
  rw [hA, List.take_append_of_le_length (by simp; omega), List.take_of_length_le (by simp; omega)]
theorem insd_mem {cur N D : List Value} {o : Nat} {u : Value} (h : u ∈ insd cur o N D) : u ∈ cur ∨ u ∈ N ∨ u ∈ D := by
  unfold insd at h
  simp only [List.mem_append] at h
  rcases h with ((h | h) | h) | h
  · exact .inl (List.mem_of_mem_take h)
  · exact .inr (.inl h)
  · exact .inr (.inr h)
  · exact .inl (List.mem_of_mem_drop h)

/-- 'copy', of elements of whatever size, into a block that isn't frozen: all is read before anything is written. -/
theorem run_copy_rowN {P : Program} (w : World) (dT sT ty elem : TypeId) (g o dLen dCap : Nat) (a : Addr) (sLen sCap : Nat) (cur : Array Value) (t : TypeId) (cs : List Value) (size m : Nat)
    (hu : P.underlying dT = some (.slice elem)) (hs : (P.info? elem).map (·.size) = some size)
    (hg : w.heap[g]? = some (.cells cur t (0, 0))) (hm : m = Nat.min sLen dLen) (hn : cs.length = m * size)
    (hsrc : ∀ j v, cs[j]? = some v → w.cell? (a.add j) = some v) (hfit : o + cs.length ≤ cur.size) (h1 : ∀ v ∈ cs, v.oneCell' = true) :
    (Builtin.copy_ #[dT, sT] ty #[.slice (some ⟨g, o, none⟩) dLen dCap, .slice (some a) sLen sCap]).run P w =
      .ok (goInt m) (w.setRow g (wr cur.toList o cs).toArray) := by
  have hl := run_loadCells_list (P := P) w a cs hsrc
  have hst := run_storeCells_at P g o t cs 0 cur w hg (by simpa using hfit) h1
  cases hq : P.info? elem with
  | none => simp [hq] at hs
  | some i =>
    have hi : i.size = size := by simpa [hq] using hs
    simp [Builtin.copy_, run_underlying hu, Builtin.lenOf, Builtin.firstCells, sizeOf, typeInfo, hq, hi, ← hm, ← hn, hl, hst, wr]

/-- The first cells of a slice, where these are given. -/
theorem firstCells_take {P : Program} (w : World) (size i : Nat) (b : Addr) (cap : Nat) (xs : List Value) (n : Nat) (hx : xs.length = n * size) (hi : i ≤ n) (h : ∀ j v, xs[j]? = some v → w.cell? (b.add j) = some v) :
    (Builtin.firstCells size i (.slice (some b) i cap)).run P w = .ok (xs.take (i * size)).toArray w :=
  run_firstCells_some w size i b i cap _ (by rw [List.length_take, hx]; exact Nat.min_eq_left (Nat.mul_le_mul_right _ hi)) fun j v hj => by
    rw [List.getElem?_take] at hj
    split at hj
    · exact h j v hj
    · cases hj

theorem soft_drew {a b : World} (h : Soft a b) : Soft a b.drew := ⟨h.size, h.block⟩
theorem grown_drew {a b : World} {row : Option Nat} (h : a.grownBy b row) : a.grownBy b.drew row := ⟨h.os, h.tape, h.output, h.size, h.block⟩

/-- The block that both copies wrote in place. -/
theorem own_insd {w w' : World} {B g n cap i size : Nat} {T : TypeId} {xs N : List Value} {cur : Array Value} (h : OwnN w B T size (.slice (some ⟨g, 0, none⟩) n cap) n xs) (hg : w.heap[g]? = some (.cells cur T (0, 0))) (hi : i ≤ n) (hroom : n + 1 ≤ cap)
    (hN : N.length = size) (hnn : ∀ u ∈ N, ∀ k : Nat, u ≠ U8 k) (hw : w'.heap = (w.setRow g (insd cur.toList (i * size) N (xs.drop (i * size))).toArray).heap) (hos : w'.os = w.os) (htp : w'.tape = w.tape) (hout : w'.output = w.output) :
    OwnN w' B T size (.slice (some ⟨g, 0, none⟩) (n + 1) cap) (n + 1) (xs.take (i * size) ++ N ++ xs.drop (i * size)) ∧ w.grownBy w' (some g) ∧ Soft w w' := by
  obtain ⟨⟨hx, h2⟩, hlo⟩ := h
  rcases h2 with ⟨e, _⟩ | ⟨g', cap', cur', e, hB, hg', hnc, hcm, hcs, htake⟩
  · cases e
  simp only [Value.slice.injEq, Option.some.injEq, Addr.mk.injEq, and_true, true_and] at e
  obtain ⟨rfl, rfl⟩ := e
  rw [hg] at hg'
  simp only [Option.some.injEq, Obj.cells.injEq, and_true] at hg'
  obtain rfl := hg'
  have hlo' := hlo g rfl
  have hcur := row_of_loose hg hlo'
  have him : i * size ≤ n * size := Nat.mul_le_mul_right _ hi
  have hsz : (n + 1) * size ≤ cap * size := Nat.mul_le_mul_right _ hroom
  rw [Nat.add_mul, Nat.one_mul] at hsz
  have hcl : cur.toList.length = cap * size := by rw [Array.length_toList]; exact hcs
  have hdl : (xs.drop (i * size)).length = n * size - i * size := by rw [List.length_drop, hx]
  have htk : cur.toList.take (i * size) = xs.take (i * size) := by rw [← htake, List.take_take, Nat.min_eq_left him]
  have hfit : i * size + N.length + (xs.drop (i * size)).length ≤ cur.toList.length := by rw [hdl, hN, hcl]; omega
  have hheap : w'.heap[g]? = some (.cells (insd cur.toList (i * size) N (xs.drop (i * size))).toArray T (0, 0)) := by rw [hw]; exact setRow_heap w g cur _ T _ hg
  have hxu : ∀ u ∈ xs, ∀ k : Nat, u ≠ U8 k := fun u hu k => hcur u (by rw [← htake] at hu; exact List.mem_of_mem_take hu) k
  have hlo2 : Loose w' g := loose_of_row hheap fun u hu k => by
    rcases insd_mem hu with h | h | h
    · exact hcur u h k
    · exact hnn u h k
    · exact hxu u (List.mem_of_mem_drop h) k
  have hgr : w.grownBy w' (some g) := ⟨hos, htp, hout, by rw [hw, setRow_size]; exact Nat.le_refl _, fun k hk hne => by rw [hw]; exact setRow_other w g k _ (by intro e; rw [e] at hne; exact hne rfl)⟩
  refine ⟨⟨⟨?_, .inr ⟨g, cap, _, rfl, hB, hheap, hroom, hcm, ?_, ?_⟩⟩, fun k e => ?_⟩, hgr, Soft.of_grown hgr fun k e => ?_⟩
  · rw [List.length_append, List.length_append, hdl, hN, List.length_take, hx, Nat.min_eq_left him, Nat.add_mul, Nat.one_mul]; omega
  · have := insd_length (cur := cur.toList) (N := N) (D := xs.drop (i * size)) (o := i * size) hfit
    simp only [List.size_toArray]
    rw [this, hcl]
  · refine insd_take htk (by rw [List.length_take, hx, Nat.min_eq_left him]) ?_
    rw [hN, hdl, Nat.add_mul, Nat.one_mul]; omega
  · simp only [Value.ownBlock, Option.some.injEq] at e
    subst e; exact hlo2
  · simp only [Option.some.injEq] at e
    subst e; exact ⟨hlo', hlo2⟩

/-- A new block that both copies wrote. -/
theorem own_insnew {w w' : World} {B g n cap c2 i size : Nat} {T : TypeId} {xs N : List Value} {cur : Array Value} (h : OwnN w B T size (.slice (some ⟨g, 0, none⟩) n cap) n xs) (hi : i ≤ n) (hB : B ≤ w.heap.size) (hroom : n + 1 ≤ c2) (hcm : c2 ≤ maxLen)
    (hN : N.length = size) (hnn : ∀ u ∈ N, ∀ k : Nat, u ≠ U8 k) (hcur : ∀ u ∈ cur.toList, ∀ k : Nat, u ≠ U8 k) (hcs : cur.size = c2 * size) (htk : cur.toList.take (i * size) = xs.take (i * size))
    (hheap : w'.heap[w.heap.size]? = some (.cells (insd cur.toList (i * size) N (xs.drop (i * size))).toArray T (0, 0))) (hb : Below w.heap.size w w') :
    OwnN w' B T size (.slice (some ⟨w.heap.size, 0, none⟩) (n + 1) c2) (n + 1) (xs.take (i * size) ++ N ++ xs.drop (i * size)) ∧ w.grownBy w' (some g) ∧ Soft w w' := by
  obtain ⟨⟨hx, h2⟩, hlo⟩ := h
  have hxu : ∀ u ∈ xs, ∀ k : Nat, u ≠ U8 k := by
    rcases h2 with ⟨e, _⟩ | ⟨g', cap', cur', e, hB, hg', hnc, hcm, hcs, htake⟩
    · cases e
    · simp only [Value.slice.injEq, Option.some.injEq, Addr.mk.injEq, and_true, true_and] at e
      obtain ⟨rfl, rfl⟩ := e
      intro u hu k
      rw [← htake] at hu
      exact row_of_loose hg' (hlo g rfl) u (List.mem_of_mem_take hu) k
  have him : i * size ≤ n * size := Nat.mul_le_mul_right _ hi
  have hsz : (n + 1) * size ≤ c2 * size := Nat.mul_le_mul_right _ hroom
  rw [Nat.add_mul, Nat.one_mul] at hsz
  have hcl : cur.toList.length = c2 * size := by rw [Array.length_toList]; exact hcs
  have hdl : (xs.drop (i * size)).length = n * size - i * size := by rw [List.length_drop, hx]
  have hfit : i * size + N.length + (xs.drop (i * size)).length ≤ cur.toList.length := by rw [hdl, hN, hcl]; omega
  refine ⟨⟨⟨?_, .inr ⟨w.heap.size, c2, _, rfl, hB, hheap, hroom, hcm, ?_, ?_⟩⟩, fun k e => ?_⟩, grown_of_below hb _, Soft.of_below hb⟩
  · rw [List.length_append, List.length_append, hdl, hN, List.length_take, hx, Nat.min_eq_left him, Nat.add_mul, Nat.one_mul]; omega
  · have := insd_length (cur := cur.toList) (N := N) (D := xs.drop (i * size)) (o := i * size) hfit
    simp only [List.size_toArray]
    rw [this, hcl]
  · refine insd_take htk (by rw [List.length_take, hx, Nat.min_eq_left him]) ?_
    rw [hN, hdl, Nat.add_mul, Nat.one_mul]; omega
  · simp only [Value.ownBlock, Option.some.injEq] at e
    subst e
    exact loose_of_row hheap fun u hu k => by
      rcases insd_mem hu with h | h | h
      · exact hcur u h k
      · exact hnn u h k
      · exact hxu u (List.mem_of_mem_drop h) k

end Go.Proofs.Ytohfcdgpllghbaa
