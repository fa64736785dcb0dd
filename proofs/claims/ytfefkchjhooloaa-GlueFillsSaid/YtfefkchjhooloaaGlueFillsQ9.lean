/- Texts of one seat, laid together: OpenPlan, LawTwelveB, LawTwelveF. -/
import Derived.Test.YtfefkchjhooloaaGlueFillsQ1
import Derived.Lib.SmallJoins
import Derived.Test.YtfefkchjhooloaaGlueFillsQ5
import Derived.Test.YtfefkchjhooloaaGlueFillsQ8
import Derived.StillTailTactics

/-
  A plan that came in.
-/
set_option maxRecDepth 100000
namespace Go.Proofs.Ytfefkchjhooloaa
open Go.ChangeShapes Go.WideShapes Go.ChangeAt Go.RowKit Go.Deep

/-- A plan that came in. -/
theorem open_plan {H : Type} {enc : TypeId × Value → H} {P : Program} {t I U : TypeId} {f0 f1 f2 f3 : Field} (hs : P.underlying t = some (.struct #[f0, f1, f2, f3])) (hone : oneCellFields P #[f0, f1, f2, f3] = true) (hC : P.cellsOf t = 4)
    (e0 : f0.type = I) (e1 : f1.type = I) (e2 : f2.type = I) (e3 : f3.type = U) (hI : P.underlying I = some (.int .i64)) (hU : P.underlying U = some (.int .u32)) {W : World} {base : Nat} {v : Value} {d : DataW H} {p : List MemPlace}
    (hok : Value.okWide P W .any base t v) (h : DataW.Trod enc P W 0 (fun _ => true) true t v d p) :
    ∃ (l s k : Int) (n : Nat), v = .agg #[.int .i64 l, .int .i64 s, .int .i64 k, .int .u32 (n : Int)] ∧ (-9223372036854775808 ≤ l ∧ l ≤ 9223372036854775807 ∧ -9223372036854775808 ≤ s ∧ s ≤ 9223372036854775807 ∧ -9223372036854775808 ≤ k ∧ k ≤ 9223372036854775807 ∧ n < 4294967296) := by
  obtain ⟨v0, v1, v2, v3, y0, y1, y2, y3, m, rfl, _, _, h0, h1, h2, h3⟩ := Joins.open_agg4 hs hone hC hok h
  rw [e0] at h0
  rw [e1] at h1
  rw [e2] at h2
  rw [e3] at h3
  obtain ⟨l, c0, _, w0⟩ := DataW.trod_int hI h0
  obtain ⟨s, c1, _, w1⟩ := DataW.trod_int hI h1
  obtain ⟨k, c2, _, w2⟩ := DataW.trod_int hI h2
  obtain ⟨n, c3, _, w3⟩ := DataW.trod_int hU h3
  simp only [List.cons.injEq, and_true] at c0 c1 c2 c3
  subst c0
  subst c1
  subst c2
  subst c3
  obtain ⟨n', rfl, hn⟩ := u32_of w3
  obtain ⟨a0, a1⟩ := int_of w0
  obtain ⟨b0, b1⟩ := int_of w1
  obtain ⟨d0, d1⟩ := int_of w2
  exact ⟨l, s, k, n', rfl, a0, a1, b0, b1, d0, d1, hn⟩

end Go.Proofs.Ytfefkchjhooloaa

/-
  The laws of glue (layer 12): GlueJoins.
-/
set_option maxRecDepth 100000
namespace Go.Proofs.Ytfefkchjhooloaa
open Go.RowKit

theorem same_self (v0 v1 : Value) (x : List Nat) (w : World) (h0 : Bytes w v0 x) (h1 : Bytes w v1 x) :
    Calls Try.prog 13 #[v0, v1] w fun e w' => e = .returned (.bool true) ∧ Below w.heap.size w w' := by
  have h := same_any v0 v1 x x w h0 h1
  rwa [show decide (x = x) = true by simp] at h
end Go.Proofs.Ytfefkchjhooloaa

/-
  The laws of glue (layer 12): GlueFills.
-/
set_option maxRecDepth 100000
namespace Go.Proofs.Ytfefkchjhooloaa
open Go.RowKit Go.Maps

/-- Whether it is gone through; then there are at most 200 symbols. -/
def FewV (w : World) (m : Nat) (e : Ending) (w' : World) : Prop := ∃ t : Bool, e = .returned (.bool t) ∧ (t = true → m ≤ 200) ∧ Below w.heap.size w w'
set_option maxHeartbeats 2000000 in
theorem few12_cap (l s k n : Int) (v : Value) (ll : List (List Nat)) (w : World) (hl0 : -9223372036854775808 ≤ l) (hl : l ≤ 9223372036854775807) (hs2 : s ≤ 9223372036854775807) (hr : IsRows w v ll) :
    Calls Try.prog 19 #[.agg #[.int .i64 l, .int .i64 s, .int .i64 k, .int .u32 n], v] w (FewV w ll.length) := by
  have HC := Lib.hid (fun w => check_any l s k n w hl0 hl hs2)
  obtain ⟨ce, hce⟩ : ∃ x, x = checkE l s k := ⟨_, rfl⟩
  rw [← hce] at HC
  have HR := Lib.hid hr
  have hlen : ll.length ≤ 9223372036854775807 := by obtain ⟨_, _, _, h1, h2, _⟩ := hr; omega
  obtain ⟨a, c, rfl⟩ := hr.shape
  clear hr hce
  go_enter Try.func19, Try.ntmps19
  go_wp2_with fail
  obtain ⟨B, hk1, hs⟩ := blocks1 w #[.int .i64 l, .int .i64 s, .int .i64 k, .int .u32 n] 24
  generalize (w.alloc (.cells #[.int .i64 l, .int .i64 s, .int .i64 k, .int .u32 n] 24)) = W at *
  have K1 := Lib.hid hk1
  have HS := Lib.hid hs
  clear hs hk1
  have hzW := B.size
  go_loopw [5, 7, 10] (fun m _ i wr => ∃ j : Nat, j ≤ ll.length ∧ i = .int .i64 j ∧ (∃ z : Int, m = .int .i64 z) ∧ Below w.heap.size w wr ∧ Blk wr w.heap.size #[.int .i64 l, .int .i64 s, .int .i64 k, .int .u32 n] 24) (fun _ _ i _ => ll.length - (Go.RowKit.intOf i).toNat)
  case atStart => exact ⟨0, by omega, rfl, ⟨0, rfl⟩, B, K1.out⟩
  case round =>
    clear B K1 HS hzW
    obtain ⟨j, hj, rfl, ⟨z, rfl⟩, B, hK⟩ := hrel
    have K1 := Lib.hid hK
    clear hK
    by_cases hlt : j < ll.length
    · obtain ⟨b, off, u, rfl, hu, hB⟩ := HR.out.row B j hlt
      obtain ⟨ra, rc, rfl, _⟩ := hB
      have i0 : (0 : Int) ≤ (j : Int) := Int.natCast_nonneg _
      have i1 : (j : Int) < (ll.length : Int) := by omega
      go_wp2_with fail
      go_roundw
      case rel => exact ⟨j + 1, by omega, by go_num, ⟨_, rfl⟩, B, K1.out⟩
      case measure => simp [Go.RowKit.intOf]; omega
    · obtain rfl : j = ll.length := by omega
      obtain ⟨k0, k1, k2, k3⟩ := K1.out.four
      have kl := K1.out.lt
      by_cases h1 : z ≤ 4000
      · by_cases h2 : (ll.length : Int) ≤ 200
        · by_cases h3 : l ≤ 4000
          · skip
            go_wp2_with fail
            go_ret
            exact ⟨_, rfl, by first | (intro _; omega) | (intro h; simp_all), B⟩
          · skip
            go_wp2_with fail
            refine (HC.out _).mono ?_
            rintro e w1 ⟨rfl, hb⟩
            replace B := B.trans (hb.mono B.size)
            have hzw1 := B.size
            clear hb
            go_wp2_with fail
            go_ret
            exact ⟨_, rfl, by first | (intro _; omega) | (intro h; simp_all), B⟩
        · skip
          go_wp2_with fail
          go_ret
          exact ⟨_, rfl, by first | (intro _; omega) | (intro h; simp_all), B⟩
      · skip
        go_wp2_with fail
        go_ret
        exact ⟨_, rfl, by first | (intro _; omega) | (intro h; simp_all), B⟩

/-- A code, bytes and bools, in one. -/
def TupV (E : Int) (O : List Nat) (T : List Bool) (v : Value) (w : World) : Prop := ∃ u x, v = .tuple #[u, x, .int .i64 E] ∧ Bytes w u O ∧ Bools w x T
theorem TupV.go (E : Int) (O : List Nat) (T : List Bool) : ∀ v w w', Below w.heap.size w w' → TupV E O T v w → TupV E O T v w' := fun _ _ _ hb ⟨u, x, e, h1, h2⟩ => ⟨u, x, e, h1.go hb, h2.go hb⟩
def BoolsV (T : List Bool) (v : Value) (w : World) : Prop := Bools w v T
theorem BoolsV.go (T : List Bool) : ∀ v w w', Below w.heap.size w w' → BoolsV T v w → BoolsV T v w' := fun _ _ _ hb h => Bools.go h hb
theorem extract30 {P : Program} (u v x : Value) (w : World) : (Instr.extract (.tuple #[u, v, x]) 0).run P w = .ok u w := by simp [Instr.extract]
theorem extract31 {P : Program} (u v x : Value) (w : World) : (Instr.extract (.tuple #[u, v, x]) 1).run P w = .ok v w := by simp [Instr.extract]
theorem extract32 {P : Program} (u v x : Value) (w : World) : (Instr.extract (.tuple #[u, v, x]) 2).run P w = .ok x w := by simp [Instr.extract]
theorem slice_headI {a : Option Addr} {n c m : Nat} (h : m ≤ c) (w : World) : (Instr.sliceAt 51 (.slice a n c) none (some (.int .i64 (m : Int))) none).run Try.prog w = .ok (.slice a m c) w := by
  have h1 : (m : Int) ≤ (c : Int) := by omega
  have h0 : (0 : Int) ≤ (m : Int) := Int.natCast_nonneg _
  cases a <;> go_simp
theorem slice_headM {a : Option Addr} {n c m : Nat} (h : m ≤ c) (w : World) : (Instr.sliceAt 27 (.slice a n c) none (some (.int .i64 (m : Int))) none).run Try.prog w = .ok (.slice a m c) w := by
  have h1 : (m : Int) ≤ (c : Int) := by omega
  have h0 : (0 : Int) ≤ (m : Int) := Int.natCast_nonneg _
  cases a <;> go_simp
set_option maxHeartbeats 4000000 in
theorem glueFills_walk (l s k : Int) (n : Nat) (v1 : Value) (NL0 : List Int) (v2 : Value) (ll0 : List (List Nat)) (w : World) (h : -9223372036854775808 ≤ l ∧ l ≤ 9223372036854775807 ∧ -9223372036854775808 ≤ s ∧ s ≤ 9223372036854775807 ∧ -9223372036854775808 ≤ k ∧ k ≤ 9223372036854775807 ∧ n < 4294967296) (h1 : Ints w v1 NL0) (h2 : IsRows w v2 ll0) :
    Calls Try.prog 6 #[.agg #[.int .i64 l, .int .i64 s, .int .i64 k, .int .u32 (n : Int)], v1, v2] w fun e w' => e = .returned (.bool true) ∧ Below w.heap.size w w' := by
  obtain ⟨hl0, hl, _, hs2, _, _, _⟩ := h
  have HF := Lib.hid (fun v w hr => few12_cap l s k (n : Int) v ll0 w hl0 hl hs2 hr)
  have HFI := Lib.hid (fun b ps f w hM => fill_any l s k (n : Int) b ps f w hl0 hl hs2 hM)
  have hlen : NL0.length ≤ 9223372036854775807 := by obtain ⟨_, _, _, q1, q2, _⟩ := h1; omega
  have H1 := Lib.hid h1
  have H2 := Lib.hid h2
  have HNR := Lib.hid (show ∀ x ∈ NL0, -9223372036854775808 ≤ x ∧ x ≤ 9223372036854775807 by obtain ⟨_, _, _, _, _, q3, _⟩ := h1; exact q3)
  obtain ⟨a1, c1, rfl, _⟩ := h1
  obtain ⟨a2, c2, rfl⟩ := h2.shape
  have hmm := @run_makeMap Try.prog
  clear h2
  go_enter Try.func6, Try.ntmps6
  go_wp2_with fail
  obtain ⟨B, hk1, hs⟩ := blocks1 w #[.int .i64 l, .int .i64 s, .int .i64 k, .int .u32 (n : Int)] 24
  generalize (w.alloc (.cells #[.int .i64 l, .int .i64 s, .int .i64 k, .int .u32 (n : Int)] 24)) = W at *
  have K1 := Lib.hid hk1
  have HS := Lib.hid hs
  clear hs hk1
  replace H1 := Lib.hid (H1.out.go B)
  replace H2 := Lib.hid (H2.out.go B)
  have hzW := B.size
  obtain ⟨g, hg⟩ : ∃ g : Nat, g = w.heap.size := ⟨_, rfl⟩
  rw [← hg] at K1
  simp only [← hg]
  clear hg HS
  refine (awake12_any _).mono ?_
  rintro e w1 ⟨rfl, hb⟩
  replace K1 := Lib.hid (K1.out.go hb)
  replace H1 := Lib.hid (H1.out.go hb)
  replace H2 := Lib.hid (H2.out.go hb)
  replace B := B.trans (hb.mono B.size)
  have hzw1 := B.size
  clear hb
  obtain ⟨p0, p1, p2, p3⟩ := K1.out.four
  have pl := K1.out.lt
  go_wp2_with fail
  clear p0 p1 p2 p3 pl
  refine (HF.out _ _ H2.out).mono ?_
  rintro e w2 ⟨t, rfl, ht, hb⟩
  replace K1 := Lib.hid (K1.out.go hb)
  replace H1 := Lib.hid (H1.out.go hb)
  replace H2 := Lib.hid (H2.out.go hb)
  replace B := B.trans (hb.mono B.size)
  have hzw2 := B.size
  clear hb
  cases t with
  | false =>
    go_wp2_with fail
    go_ret
    exact ⟨rfl, B⟩
  | true =>
    have h200 := ht rfl
    clear ht
    obtain ⟨m, hm⟩ : ∃ m, m = min NL0.length ll0.length := ⟨_, rfl⟩
    have HMM := Lib.hid hm
    have HMI := Lib.hid (show min (NL0.length : Int) (ll0.length : Int) = (m : Int) by rw [hm]; omega)
    clear hm
    go_wp2_with fail
    rw [HMI.out]
    have hm := HMM.out
    have hmN : m ≤ NL0.length := by omega
    have hmL : m ≤ ll0.length := by omega
    have hm2 : m ≤ 200 := by omega
    clear hm h200
    obtain ⟨NL, hNL⟩ : ∃ NL, NL = NL0.take m := ⟨_, rfl⟩
    obtain ⟨ll, hll⟩ : ∃ ll, ll = ll0.take m := ⟨_, rfl⟩
    have hNLm : NL.length = m := by rw [hNL, List.length_take]; omega
    have hllm : ll.length = m := by rw [hll, List.length_take]; omega
    have H1T := Lib.hid (H1.out.take hmN)
    have H2T := Lib.hid (H2.out.takeM hmL)
    rw [← hNL] at H1T
    rw [← hll] at H2T
    have HNI := Lib.hid (show ∀ i, i < m → nthI NL i = nthI NL0 i by
      intro i hi
      rw [hNL, nthI_eq _ _ (by rw [List.length_take]; omega), nthI_eq _ _ (by omega)]; simp)
    have HNS := Lib.hid (show ∀ x ∈ NL, -9223372036854775808 ≤ x ∧ x ≤ 9223372036854775807 from fun x hx => HNR.out x (by rw [hNL] at hx; exact List.mem_of_mem_take hx))
    have HRI := Lib.hid (show ∀ i, i < m → rowAt ll i = rowAt ll0 i by intro i hi; rw [hll]; exact rowAt_take hi)
    have HNLM := Lib.hid hNLm
    have HLLM := Lib.hid hllm
    clear hNL hll
    have HRF := Lib.hid (fun K v1 v2 w h1 h2 hp hK => reffill_is l s k n v1 v2 NL ll K w hl h1 h2 (hNLm.trans hllm.symm) (by omega) hp hK)
    rw [hNLm] at HRF
    obtain ⟨U, hUC⟩ : ∃ (U : Nat → Value), ∀ i, i < m → ∃ ub uo, a2 = some ⟨ub, uo, none⟩ ∧ w2.cell? ⟨ub, uo + i, none⟩ = some (U i) ∧ Bytes w2 (U i) (rowAt ll i) := by
      refine ⟨fun i => match a2 with | some ad => (w2.cell? (ad.add i)).getD (.slice none 0 0) | none => .slice none 0 0, fun i hi => ?_⟩
      obtain ⟨ub, uo, u, rfl, hu, hb⟩ := H2.out.row (Below.refl _ _) i (by omega)
      refine ⟨ub, uo, rfl, ?_⟩
      show w2.cell? ⟨ub, uo + i, none⟩ = some ((w2.cell? ((⟨ub, uo, none⟩ : Addr).add i)).getD (.slice none 0 0)) ∧ Bytes w2 ((w2.cell? ((⟨ub, uo, none⟩ : Addr).add i)).getD (.slice none 0 0)) (rowAt ll i)
      rw [rows_add, hu, HRI.out i hi]
      exact ⟨rfl, hb⟩
    have HUC := Lib.hid hUC
    have hm0 : (w2.alloc (.map #[] 0)).ownsMap Try.prog 3 heldV w2.heap.size 0 (.map []) := World.ownsMap_made _ _ _ _
    have hs0 : Since w2 (w2.alloc (.map #[] 0)) := (Below.refl _ _).alloc (Nat.le_refl _) _
    generalize w2.alloc (.map #[] 0) = W8 at *
    obtain ⟨gm, hgm⟩ : ∃ gm : Nat, gm = w2.heap.size := ⟨_, rfl⟩
    have HGM := Lib.hid hgm
    rw [← hgm] at hm0
    simp only [← hgm]
    have HM0 := Lib.hid hm0
    have HS0 := Lib.hid hs0
    clear hgm hm0 hs0 hmm hUC hNLm hllm
    go_loopw [9, 29] (fun _ i wr => ∃ j : Nat, j ≤ m ∧ i = .int .i64 j ∧ Since w2 wr ∧ wr.ownsMap Try.prog 3 heldV gm j (putR (psN U NL j))) (fun _ i _ => m - (Go.RowKit.intOf i).toNat)
    case atStart => exact ⟨0, by omega, rfl, HS0.out, HM0.out⟩
    case round =>
      clear HS0 HM0
      obtain ⟨j, hj, rfl, hS, hown⟩ := hrel
      have HSJ := Lib.hid hS
      have HOJ := Lib.hid hown
      clear hS hown
      by_cases hlt : j < m
      · obtain ⟨ab, ao, rfl, hcell⟩ : ∃ ab ao, a1 = some ⟨ab, ao, none⟩ ∧ wr.cell? ⟨ab, ao + j, none⟩ = some (.int .i64 (nthI NL0 j)) := by
          obtain ⟨a', c', e, _, _, _, h4⟩ := H1.out.go HSJ.out
          obtain ⟨b', off', rfl, _, hc⟩ := h4 (by intro h; rw [h] at hmN; simp at hmN; omega)
          simp only [Value.slice.injEq] at e
          exact ⟨b', off', e.1, hc j (by omega)⟩
        obtain ⟨ub, uo, rfl, hcu0, hub⟩ := HUC.out j hlt
        have hcu : wr.cell? ⟨ub, uo + j, none⟩ = some (U j) := cell_keep hcu0 HSJ.out
        obtain ⟨x, hx⟩ : ∃ x, x = nthI NL0 j := ⟨_, rfl⟩
        have hrng : -9223372036854775808 ≤ x ∧ x ≤ 9223372036854775807 := by rw [hx, nthI_eq _ _ (by omega)]; exact HNR.out _ (List.getElem_mem _)
        have HST := Lib.hid (show psN U NL (j + 1) = (x, U j) :: psN U NL j by rw [hx, ← HNI.out j hlt]; rfl)
        rw [← hx] at hcell
        obtain ⟨u, hu⟩ : ∃ u, u = U j := ⟨_, rfl⟩
        rw [← hu] at hcu HST hub
        obtain ⟨ra, rc, rfl, _⟩ := hub
        have j0 : (0 : Int) ≤ (j : Int) := Int.natCast_nonneg _
        have j1 : (j : Int) < (m : Int) := by omega
        have j2 : (j : Int) < (NL0.length : Int) := by omega
        have j3 : (j : Int) < (ll0.length : Int) := by omega
        clear hx hu hcu0
        go_wp2_with fail
        go_still_tail 9, (by kernel_rfl)
        have hdr : ∀ x : World, x.drew = { heap := x.heap, tape := x.tape, drawn := x.drawn + 1, os := x.os, output := x.output } := fun _ => rfl
        rw [← hdr wr]
        have HSD := Lib.hid (show Since w2 wr.drew from Below.trans HSJ.out ((below_drews wr 1).mono (Below.size HSJ.out)))
        have HOD := Lib.hid (show wr.drew.ownsMap Try.prog 3 heldV gm j (putR (psN U NL j)) from HOJ.out.drew)
        clear hdr hcell hcu
        generalize wr.drew = wd at *
        refine wpList_mapUpdate_own wd rfl (.tmp 32) (.tmp 36) (.tmp 40) 52 rfl 3 25 (int_keyed Try.underlying3) Try.underlying52 heldV gm j _ rfl HOD.out (by unfold maxLen; omega) (.int .i64 x) (.slice ra (rowAt ll j).length rc) (.int .i64 x) rfl rfl (keyOf_int_mk Try.underlying3 (wf_int hrng)) (.held (.slice ra (rowAt ll j).length rc)) [] rfl ?_
        intro w9 ho9 hg9
        have HO9 := Lib.hid (show w9.ownsMap Try.prog 3 heldV gm (j + 1) (putR (psN U NL (j + 1))) by rw [HST.out]; exact ho9)
        have HS9 := Lib.hid (show Since w2 w9 from Below.grown HSD.out hg9 (Below.size HSD.out) (fun b e => by cases e; have := HGM.out; omega))
        clear ho9 hg9
        go_wp2_with fail
        go_roundw
        case rel => exact ⟨j + 1, by omega, by go_num, HS9.out, HO9.out⟩
        case measure => simp [Go.RowKit.intOf]; omega
      · obtain rfl : j = m := by omega
        have hps := kmap_n (w := wr) (b := gm) (n := j) (U := U) (NL := NL) (ll := ll) (by omega) HNS.out j (by rw [HNLM.out]; exact Nat.le_refl _) (fun i hi => by
          obtain ⟨_, _, _, _, hb⟩ := HUC.out i hi
          exact hb.since HSJ.out)
        have HKM0 := Lib.hid (show KMap wr gm (psN U NL j) (fN NL ll j) from ⟨⟨j, by omega, HOJ.out⟩, hps.1, hps.2⟩)
        obtain ⟨ps, hpsd⟩ : ∃ ps, ps = psN U NL j := ⟨_, rfl⟩
        obtain ⟨F, hF⟩ : ∃ F, F = fN NL ll j := ⟨_, rfl⟩
        have HHN := Lib.hid (show ∀ x, hasR ps x = true ↔ hasN NL j x by rw [hpsd]; exact fun x => hasR_psN x j)
        rw [← hpsd, ← hF] at HKM0
        rw [← hF] at HRF
        have hc1 : j ≤ c1 := by
          obtain ⟨_, c', e, q1, _⟩ := H1T.out
          simp only [Value.slice.injEq] at e
          have := HNLM.out
          rw [e.2.2]; omega
        have hc2 : j ≤ c2 := by
          obtain ⟨_, c', e, q1, _⟩ := H2T.out
          simp only [Value.slice.injEq] at e
          have := HLLM.out
          rw [e.2.2]; omega
        have hsx1 := slice_headI (a := a1) (n := NL0.length) hc1
        have hsx2 := slice_headM (a := a2) (n := ll0.length) hc2
        replace B := B.trans (HSJ.out.mono B.size)
        have K2 := Lib.hid (K1.out.go HSJ.out)
        have H1V := Lib.hid (H1T.out.go HSJ.out)
        have H2V := Lib.hid (IsRows.below H2T.out (Nat.le_refl _) HSJ.out)
        obtain ⟨p0, p1, p2, p3⟩ := K2.out.four
        have pl := K2.out.lt
        clear hps hpsd hF K1 H1 H2 H1T H2T HUC HSJ HOJ HGM HMI HMM hc1 hc2
        go_wp2_with fail
        clear p0 p1 p2 p3 pl
        refine (HFI.out gm ps F wr HKM0.out).mono ?_
        rintro e w10 ⟨K, u, v, hKO, rfl, hu, hv, hb⟩
        have HRG := Lib.hid (fun v1 v2 w h1 h2 => HRF.out K v1 v2 w h1 h2 hKO.1 (fun x => (hKO.2 x).trans (HHN.out x)))
        obtain ⟨E, hE⟩ : ∃ E, E = fillE l s k F K := ⟨_, rfl⟩
        obtain ⟨O, hO⟩ : ∃ O, O = fillS l s k F K := ⟨_, rfl⟩
        obtain ⟨T, hT⟩ : ∃ T, T = fillB l s k F K := ⟨_, rfl⟩
        rw [← hE, ← hO, ← hT] at HRG
        rw [← hE]
        rw [← hO] at hu
        rw [← hT] at hv
        have HU9 := Lib.hid hu
        have HV9 := Lib.hid (show BoolsV T v w10 from hv)
        replace K2 := Lib.hid (K2.out.go hb)
        replace H1V := Lib.hid (H1V.out.go hb)
        replace H2V := Lib.hid (IsRows.below H2V.out (Nat.le_refl _) hb)
        replace B := B.trans (hb.mono B.size)
        clear hu hv hb hKO hE hO hT HKM0 HHN HRF
        go_wp2_with fail
        have HS10 := Lib.hid (show Since w10 w10 from Below.refl _ _)
        refine wp_region_mono (C := Cb w10) (R := Rb) (H := Hz) [TyZ.val 50 (.agg #[.int .i64 l, .int .i64 s, .int .i64 k, .int .u32 (n : Int)]), TyZ.val 51 (.slice a1 NL0.length c1), TyZ.val 52 (.int .i64 (j : Int)), TyZ.val 53 (.slice a1 j c1), TyZ.val 54 (.slice a2 ll0.length c2), TyZ.val 55 (.int .i64 (j : Int)), TyZ.val 56 (.slice a2 j c2), (TyZ.fact 57 (TupV E O T) (TupV.go E O T)), (TyZ.fact 49 (TupV E O T) (TupV.go E O T)), TyZ.bytes 58 O, (TyZ.fact 59 (BoolsV T) (BoolsV.go T)), TyZ.val 60 (.int .i64 E), TyZ.bytes 13 O, (TyZ.fact 14 (BoolsV T) (BoolsV.go T)), TyZ.val 15 (.int .i64 E)] (by kernel_rfl) (hC_b w10) (hCH_z w10) (drew_b w10) ⟨trivial, trivial, trivial, trivial, trivial, trivial, trivial, trivial, trivial, trivial, trivial, trivial, trivial, trivial, trivial, trivial⟩ (by kernel_rfl) ?_ ?_
        · refine ⟨?_, ?_, ?_, ?_, ?_, ?_, ?_, ?_, ?_, ?_, ?_, ?_, ?_, ?_, ?_, trivial⟩
          · intro ac wc hC hsz hfr hd hpr
            have d3 : ac.eval (.tmp 3) = (.pointer (some ⟨g, 0, none⟩)) := hfr 3 rfl
            rw [if_pos (wanted_none rfl)]
            exact ob_load _ rfl rfl rfl (Nat.lt_of_lt_of_eq (by decide : 50 < 74) hsz.symm) rfl d3 (load_plan10 (K2.out.go hC)) (Below.refl _ _) rfl
          · intro ac wc hC hsz hfr hd hpr
            have d1 : ac.eval (.tmp 1) = (.slice a1 NL0.length c1) := hfr 1 rfl
            rw [if_pos (wanted_none rfl)]
            exact ob_copy rfl rfl rfl (Nat.lt_of_lt_of_eq (by decide : 51 < 74) hsz.symm) (Or.inl rfl) (Below.refl _ _) d1
          · intro ac wc hC hsz hfr hd hpr
            have d7 : ac.eval (.tmp 7) = (.int .i64 (j : Int)) := hfr 7 rfl
            rw [if_pos (wanted_none rfl)]
            exact ob_copy rfl rfl rfl (Nat.lt_of_lt_of_eq (by decide : 52 < 74) hsz.symm) (Or.inl rfl) (Below.refl _ _) d7
          · intro ac wc hC hsz hfr hd hpr
            have d51 : ac.eval (.tmp 51) = (.slice a1 NL0.length c1) := hd 1 rfl
            have d52 : ac.eval (.tmp 52) = (.int .i64 (j : Int)) := hd 2 rfl
            rw [if_pos (wanted_none rfl)]
            exact ob_sliceTo _ rfl rfl rfl (Nat.lt_of_lt_of_eq (by decide : 53 < 74) hsz.symm) rfl d51 d52 (hsx1 wc) (Below.refl _ _) rfl
          · intro ac wc hC hsz hfr hd hpr
            have d2 : ac.eval (.tmp 2) = (.slice a2 ll0.length c2) := hfr 2 rfl
            rw [if_pos (wanted_none rfl)]
            exact ob_copy rfl rfl rfl (Nat.lt_of_lt_of_eq (by decide : 54 < 74) hsz.symm) (Or.inl rfl) (Below.refl _ _) d2
          · intro ac wc hC hsz hfr hd hpr
            have d7 : ac.eval (.tmp 7) = (.int .i64 (j : Int)) := hfr 7 rfl
            rw [if_pos (wanted_none rfl)]
            exact ob_copy rfl rfl rfl (Nat.lt_of_lt_of_eq (by decide : 55 < 74) hsz.symm) (Or.inl rfl) (Below.refl _ _) d7
          · intro ac wc hC hsz hfr hd hpr
            have d54 : ac.eval (.tmp 54) = (.slice a2 ll0.length c2) := hd 4 rfl
            have d55 : ac.eval (.tmp 55) = (.int .i64 (j : Int)) := hd 5 rfl
            rw [if_pos (wanted_none rfl)]
            exact ob_sliceTo _ rfl rfl rfl (Nat.lt_of_lt_of_eq (by decide : 56 < 74) hsz.symm) rfl d54 d55 (hsx2 wc) (Below.refl _ _) rfl
          · intro ac wc hC hsz hfr hd hpr
            have d50 : ac.eval (.tmp 50) = (.agg #[.int .i64 l, .int .i64 s, .int .i64 k, .int .u32 (n : Int)]) := hd 0 rfl
            have d53 : ac.eval (.tmp 53) = (.slice a1 j c1) := hd 3 rfl
            have d56 : ac.eval (.tmp 56) = (.slice a2 j c2) := hd 6 rfl
            rw [if_pos (wanted_none rfl)]
            refine ob_call rfl rfl rfl (Nat.lt_of_lt_of_eq (by decide : 57 < 74) hsz.symm) rfl (enter_of Try.func24 (by kernel_rfl) rfl) ?_
            show Calls Try.prog 24 #[ac.eval (.tmp 50), ac.eval (.tmp 53), ac.eval (.tmp 56)] wc _
            rw [d50, d53, d56]
            exact (HRG.out _ _ wc (H1V.out.go hC) (IsRows.below H2V.out (Nat.le_refl _) hC)).mono fun _ _ ⟨u9, v9, he, h1, h2, hb⟩ => ⟨_, he, ⟨u9, v9, rfl, h1, h2⟩, hb⟩
          · intro ac wc hC hsz hfr hd hpr
            have d57 : TupV E O T (ac.eval (.tmp 57)) wc := hd 7 rfl
            rw [if_pos (wanted_none rfl)]
            have hlt : 49 < ac.tmps.size := (Nat.lt_of_lt_of_eq (by decide : 49 < 74) hsz.symm)
            exact ob_copy rfl rfl rfl hlt (Or.inl rfl) (Below.refl _ _) d57
          · intro ac wc hC hsz hfr hd hpr
            have d49 : TupV E O T (ac.eval (.tmp 49)) wc := hd 8 rfl
            rw [if_pos (wanted_none rfl)]
            have hlt : 58 < ac.tmps.size := (Nat.lt_of_lt_of_eq (by decide : 58 < 74) hsz.symm)
            obtain ⟨u9, v9, e9, h91, h92⟩ := d49
            exact ob_extract _ rfl rfl rfl hlt rfl e9 (extract30 _ _ _) (Below.refl _ _) h91
          · intro ac wc hC hsz hfr hd hpr
            have d49 : TupV E O T (ac.eval (.tmp 49)) wc := hd 8 rfl
            rw [if_pos (wanted_none rfl)]
            have hlt : 59 < ac.tmps.size := (Nat.lt_of_lt_of_eq (by decide : 59 < 74) hsz.symm)
            obtain ⟨u9, v9, e9, h91, h92⟩ := d49
            exact ob_extract _ rfl rfl rfl hlt rfl e9 (extract31 _ _ _) (Below.refl _ _) h92
          · intro ac wc hC hsz hfr hd hpr
            have d49 : TupV E O T (ac.eval (.tmp 49)) wc := hd 8 rfl
            rw [if_pos (wanted_none rfl)]
            have hlt : 60 < ac.tmps.size := (Nat.lt_of_lt_of_eq (by decide : 60 < 74) hsz.symm)
            obtain ⟨u9, v9, e9, h91, h92⟩ := d49
            exact ob_extract _ rfl rfl rfl hlt rfl e9 (extract32 _ _ _) (Below.refl _ _) rfl
          · intro ac wc hC hsz hfr hd hpr
            have d58 : Bytes wc (ac.eval (.tmp 58)) O := hd 9 rfl
            rw [if_pos (wanted_none rfl)]
            exact ob_copy rfl rfl rfl (Nat.lt_of_lt_of_eq (by decide : 13 < 74) hsz.symm) (Or.inr rfl) (Below.refl _ _) d58
          · intro ac wc hC hsz hfr hd hpr
            have d59 : BoolsV T (ac.eval (.tmp 59)) wc := hd 10 rfl
            rw [if_pos (wanted_none rfl)]
            have hlt : 14 < ac.tmps.size := (Nat.lt_of_lt_of_eq (by decide : 14 < 74) hsz.symm)
            exact ob_copy rfl rfl rfl hlt (Or.inr rfl) (Below.refl _ _) d59
          · intro ac wc hC hsz hfr hd hpr
            have d60 : ac.eval (.tmp 60) = (.int .i64 E) := hd 11 rfl
            rw [if_pos (wanted_none rfl)]
            exact ob_copy rfl rfl rfl (Nat.lt_of_lt_of_eq (by decide : 15 < 74) hsz.symm) (Or.inr rfl) (Below.refl _ _) d60
        intro a' w11 hC hdef hsz hfr hd
        have e50 : a'.eval (.tmp 50) = (.agg #[.int .i64 l, .int .i64 s, .int .i64 k, .int .u32 (n : Int)]) := hd 0 (by decide)
        have e51 : a'.eval (.tmp 51) = (.slice a1 NL0.length c1) := hd 1 (by decide)
        have e52 : a'.eval (.tmp 52) = (.int .i64 (j : Int)) := hd 2 (by decide)
        have e53 : a'.eval (.tmp 53) = (.slice a1 j c1) := hd 3 (by decide)
        have e54 : a'.eval (.tmp 54) = (.slice a2 ll0.length c2) := hd 4 (by decide)
        have e55 : a'.eval (.tmp 55) = (.int .i64 (j : Int)) := hd 5 (by decide)
        have e56 : a'.eval (.tmp 56) = (.slice a2 j c2) := hd 6 (by decide)
        obtain ⟨x57, e57, r57⟩ : ∃ xq_, a'.eval (.tmp 57) = xq_ ∧ TupV E O T (xq_) w11 := ⟨_, rfl, hd 7 (by decide)⟩
        replace r57 := Lib.hid r57
        obtain ⟨x49, e49, r49⟩ : ∃ xq_, a'.eval (.tmp 49) = xq_ ∧ TupV E O T (xq_) w11 := ⟨_, rfl, hd 8 (by decide)⟩
        replace r49 := Lib.hid r49
        obtain ⟨x58, e58, r58⟩ : ∃ xq_, a'.eval (.tmp 58) = xq_ ∧ Bytes w11 (xq_) O := ⟨_, rfl, hd 9 (by decide)⟩
        replace r58 := Lib.hid r58
        obtain ⟨x59, e59, r59⟩ : ∃ xq_, a'.eval (.tmp 59) = xq_ ∧ BoolsV T (xq_) w11 := ⟨_, rfl, hd 10 (by decide)⟩
        replace r59 := Lib.hid r59
        have e60 : a'.eval (.tmp 60) = (.int .i64 E) := hd 11 (by decide)
        obtain ⟨x13, e13, r13⟩ : ∃ xq_, a'.eval (.tmp 13) = xq_ ∧ Bytes w11 (xq_) O := ⟨_, rfl, hd 12 (by decide)⟩
        replace r13 := Lib.hid r13
        obtain ⟨x14, e14, r14⟩ : ∃ xq_, a'.eval (.tmp 14) = xq_ ∧ BoolsV T (xq_) w11 := ⟨_, rfl, hd 13 (by decide)⟩
        replace r14 := Lib.hid r14
        have e15 : a'.eval (.tmp 15) = (.int .i64 E) := hd 14 (by decide)
        have hact := act_puts hdef hsz hfr
        simp only [dstsOf, List.filterMap, putAll, Act.put, List.setIfInBounds_toArray, List.set_cons_succ, List.set_cons_zero, e50, e51, e52, e53, e54, e55, e56, e57, e49, e58, e59, e60, e13, e14, e15] at hact
        clear hd hfr hsz hdef e50 e51 e52 e53 e54 e55 e56 e57 e49 e58 e59 e60 e13 e14 e15
        subst hact
        replace HU9 := Lib.hid (HU9.out.go hC)
        replace HS10 := Lib.hid (HS10.out.go hC)
        replace B := B.trans (hC.mono B.size)
        have HVV := Lib.hid (show Bools w11 v T from Bools.go HV9.out HS10.out)
        have HX13 := r13
        have HX14 := Lib.hid (show Bools w11 x14 T from r14.out)
        have HVB := HVV
        have HEE := Lib.hid (show (E == E) = true by simp)
        go_wp2_with fail
        refine (same_self _ _ O _ HU9.out HX13.out).mono ?_
        rintro e w12 ⟨rfl, hb⟩
        replace HVB := Lib.hid (HVB.out.go hb)
        replace HX14 := Lib.hid (HX14.out.go hb)
        replace B := B.trans (hb.mono B.size)
        have hzw12 := B.size
        clear hb
        go_wp2_with fail
        refine (eqbools_any _ _ T _ HVB.out HX14.out).mono ?_
        rintro e w13 ⟨rfl, hb⟩
        replace B := B.trans (hb.mono B.size)
        have hzw13 := B.size
        clear hb
        go_wp2_with fail
        go_ret
        exact ⟨rfl, B⟩

end Go.Proofs.Ytfefkchjhooloaa
