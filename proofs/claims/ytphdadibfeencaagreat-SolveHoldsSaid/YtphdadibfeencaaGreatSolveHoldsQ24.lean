/- Texts of one seat, laid together: SolveE, AppGuard, LawNineE, OpenSized. -/
import Derived.Test.YtphdadibfeencaaGreatSolveHoldsQ19
import Derived.Test.YtphdadibfeencaaGreatSolveHoldsQ23
import Derived.Deep.DeepCutAuto
import Derived.Test.YtphdadibfeencaaGreatSolveHoldsQ17
import Derived.Test.YtphdadibfeencaaGreatSolveHoldsQ8
import Derived.Test.YtphdadibfeencaaGreatSolveHoldsQ6
import Derived.Test.YtphdadibfeencaaGreatSolveHoldsQ2
import Derived.SizedLaws

/-
  What equations say together (layer 9) in the program: 'Span'.
-/
set_option maxRecDepth 100000
namespace Go.Proofs.YtphdadibfeencaaGreat
open Go.RowKit

theorem OwnM.one {w : World} {B g : Nat} {T : TypeId} {u : Value} {l : List Nat} (h : Blk w g #[u] T) (hu : Bytes w u l) (hB : B ≤ g) : OwnM w B T (.slice (some ⟨g, 0, none⟩) 1 1) [l] := by
  have hE := EachB.one hu
  refine ⟨[u], ⟨⟨by simp, .inr ⟨g, 1, #[u], by simp, hB, h, by simp, by unfold maxLen; omega, by simp, by simp⟩⟩, fun k e => ?_⟩, hE⟩
  simp only [Value.ownBlock, Option.some.injEq] at e
  subst e
  exact Loose.of_blk h (noU8_all fun x hx => (hE.noU8 x hx).1)
theorem IsRows.tail {w : World} {b off n c : Nat} {l : List Nat} {ll : List (List Nat)} (h : IsRows w (.slice (some ⟨b, off, none⟩) n c) (l :: ll)) : IsRows w (.slice (some ⟨b, off + 1, none⟩) ll.length (c - 1)) ll := by
  obtain ⟨a, cap, e, h1, h2, h3⟩ := h
  simp only [Value.slice.injEq, List.length_cons] at e
  obtain ⟨rfl, rfl, rfl⟩ := e
  rw [List.length_cons] at h1
  obtain ⟨b', off', e, hb, hc⟩ := h3 (by simp)
  simp only [Option.some.injEq, Addr.mk.injEq, and_true] at e
  obtain ⟨rfl, rfl⟩ := e
  refine ⟨_, c - 1, rfl, by omega, by omega, fun _ => ⟨b, off + 1, rfl, hb, fun i hi => ?_⟩⟩
  obtain ⟨u, hu, hB⟩ := hc (i + 1) (by rw [List.length_cons]; omega)
  exact ⟨u, by rw [show off + 1 + i = off + (i + 1) by omega]; exact hu, hB⟩
/-- The vectors of so many places. -/
def sameV (n : Nat) (L : List Rw) : List (List Nat) := (L.filter fun x => decide (x.1.length = n)).map fun x => x.1
theorem sameV_take {n : Nat} {L : List Rw} {j : Nat} (hj : j < L.length) : sameV n (L.take (j + 1)) = if (rwAt L j).1.length = n then sameV n (L.take j) ++ [(rwAt L j).1] else sameV n (L.take j) := by
  unfold sameV
  rw [take_rwAt L j hj, List.filter_append]
  by_cases h : (rwAt L j).1.length = n
  · rw [if_pos h]; simp [h]
  · rw [if_neg h]; simp [h]
theorem sameV_le (n : Nat) (L : List Rw) : (sameV n L).length ≤ L.length := by unfold sameV; rw [List.length_map]; exact List.length_filter_le _ _
theorem sameV_wide {n : Nat} {L : List Rw} : ∀ r, r ∈ sameV n L → r.length = n := by
  intro r hr
  obtain ⟨x, hx, rfl⟩ := List.mem_map.1 hr
  simpa using (List.mem_filter.1 hx).2
theorem sameV_oct {n : Nat} {L : List Rw} (h : ∀ r, r ∈ L → Oct r.1) : OctM (sameV n L) := by
  intro r hr
  obtain ⟨x, hx, rfl⟩ := List.mem_map.1 hr
  exact h x (List.mem_filter.1 hx).1
theorem ofE_few {n : Nat} {ll : List (List Nat)} (hn : n ≤ 1000) (hl : ll.length ≤ 60) (hw : ∀ r, r ∈ ll → r.length = n) : ofE (n : Int) ll = 0 := by
  unfold ofE
  have h1 : ll.length * n ≤ 60 * 1000 := Nat.mul_le_mul hl hn
  have e : ((ll.length : Int) * (n : Int)) = ((ll.length * n : Nat) : Int) := by simp
  rw [if_neg (by omega), if_neg (by rw [e]; omega), if_pos]
  intro i hi
  rw [rowAt_eq ll i hi, hw _ (List.getElem_mem hi)]
theorem rankL_nil (k : Nat) : rankL k [] = 0 := by
  have h := refrank_eq (k := k) (ll := []) (fun r h => by cases h) (fun r h => by cases h)
  rw [← h]; rfl
theorem rankL_single {k : Nat} {v : List Nat} (hv : Oct v) (hk : v.length = k) : decide (rankL k [v] = rankL k []) = zeroB v := by
  have hs : ∀ x ∈ ([] : List La.Vc), La.Short k x := fun x hx => by cases hx
  rw [rankL_nil]
  cases hz : zeroB v with
  | true =>
    have e : fv v = La.v0 := (fv_zero hv).2 hz
    rw [decide_eq_true_eq]
    show La.rk k (La.Sp [fv v]) = 0
    rw [e, La.rk_in (La.Sp.zero)]
    exact rankL_nil k
  | false =>
    rw [decide_eq_false_iff_not]
    intro h
    have hn : ¬ La.Sp [] (fv v) := fun hs => by
      have := (fv_zero hv).1 hs.nil
      rw [hz] at this; cases this
    have h2 := La.rk_out hs (fv_short' hk) hn
    have h3 : La.rk k (La.Sp ([fv v])) = rankL k [v] := rfl
    rw [h3, h] at h2
    omega
/-- Is it a combination? -/
noncomputable def spanB (v : List Nat) (L : List Rw) : Bool := decide (rankL v.length (v :: sameV v.length L) = rankL v.length (sameV v.length L))
theorem load_grid9 {w : World} {g : Nat} {x y : Value} {T : TypeId} (h : Blk w g #[x, y] T) : (Instr.loadAt 60 (.pointer (some ⟨g, 0, none⟩))).run Tryz.prog w = .ok (.agg #[x, y]) w := by
  obtain ⟨k0, k1⟩ := h.two
  go_simp

theorem eql_rank {x y : Operand} (a b : Nat) (w : World) : (do eqGuard .eql 3 x y (.int .i64 a) (.int .i64 b); binOp .eql 3 (.int .i64 a) (.int .i64 b) : Sem Value).run Tryz.prog w = .ok (.bool (decide (a = b))) w := by
  by_cases h : a = b
  · subst h; go_simp
  · have h' : ¬ (a : Int) = (b : Int) := by omega
    go_simp
set_option maxHeartbeats 4000000 in
theorem span_any (u v : Value) (l : List Nat) (L : List Rw) (w : World) (hu : Bytes w u l) (hL : IsRL w v L) (hl : l.length ≤ 1000) (hlen : L.length ≤ 59) :
    Calls Tryz.prog 9 #[u, v] w fun e w' => e = .returned (.bool (spanB l L)) ∧ Below w.heap.size w w' := by
  have HL0 := Lib.hid hL
  have HU0 := Lib.hid hu
  have HOC := Lib.hid (show ∀ r, r ∈ L → Oct r.1 from fun r hr => (hL.oct r hr).1)
  obtain ⟨a, c, rfl⟩ := hL.shape
  obtain ⟨b0, d0, rfl, _⟩ := hu
  clear hL
  go_enter Tryz.func9, Tryz.ntmps9
  go_wp2_with fail
  have B : Below w.heap.size w w := Below.refl _ _
  have hb9 : Below w.heap.size w (w.alloc (.cells #[.slice b0 l.length d0] 23)) := (Below.refl _ _).alloc (Nat.le_refl _) _
  have HM0 := Lib.hid (OwnM.one (B := w.heap.size) (Blk.new w #[.slice b0 l.length d0] 23 _ rfl) (HU0.out.go hb9) (Nat.le_refl _))
  go_loopw [5, 7, 16] (fun vv _ x wr => ∃ j : Nat, j ≤ L.length ∧ x = .int .i64 j ∧ Below w.heap.size w wr ∧ OwnM wr w.heap.size 23 vv (l :: sameV l.length (L.take j))) (fun _ _ x _ => L.length - (intOf x).toNat)
  case atStart => exact ⟨0, by omega, rfl, hb9, HM0.out⟩
  case round =>
    clear B hb9 HM0
    obtain ⟨j, hj, rfl, B, hM⟩ := hrel
    have HM := Lib.hid hM
    obtain ⟨va, vc, rfl⟩ := hM.shape
    clear hM
    by_cases hjl : j < L.length
    · obtain ⟨b, off, c', er, hbl⟩ := HL0.out.addr (by omega)
      simp only [Value.slice.injEq] at er
      obtain ⟨rfl, -, rfl⟩ := er
      obtain ⟨x0, y0, hx0, hy0, hxb, hyb⟩ := (HL0.out.go B).cells j hjl
      have HST := Lib.hid (sameV_take (n := l.length) hjl)
      obtain ⟨r, hr⟩ : ∃ r, r = rwAt L j := ⟨_, rfl⟩
      rw [← hr] at hxb hyb HST
      obtain ⟨X, hX⟩ : ∃ X, X = sameV l.length (L.take j) := ⟨_, rfl⟩
      have hXl : X.length ≤ 1000 := by rw [hX]; have := sameV_le l.length (L.take j); rw [List.length_take] at this; omega
      rw [← hX] at HM HST ⊢
      have HXL := Lib.hid hXl
      have HXB := Lib.hid hxb
      obtain ⟨xa, xc, rfl, _⟩ := hxb
      obtain ⟨ya, yc, rfl, _⟩ := hyb
      have j1 : (j : Int) < (L.length : Int) := by omega
      have j0 : (0 : Int) ≤ (j : Int) := Int.natCast_nonneg _
      obtain ⟨m, hm⟩ : ∃ m, m = r.1.length := ⟨_, rfl⟩
      obtain ⟨n, hn⟩ : ∃ n, n = l.length := ⟨_, rfl⟩
      obtain ⟨s, hs⟩ : ∃ s, s = (l :: X).length := ⟨_, rfl⟩
      rw [← hs] at HM ⊢
      have HSL := Lib.hid hs
      rw [← hm] at hx0 HXB HST
      rw [← hn] at HST ⊢
      have HNL := Lib.hid hn
      clear hr hbl hX hXl hm hs hn
      by_cases h1 : m = n
      · have b1 : ((m : Int) == (n : Int)) = true := by rw [h1]; simp
        have HT := Lib.hid (show sameV n (L.take (j + 1)) = X ++ [r.1] by rw [HST.out, if_pos h1])
        have h1i : (m : Int) = (n : Int) := by rw [h1]
        clear h1 HST
        go_upto_region 6 with fail
        obtain ⟨hb, hk, hs⟩ := blocks1 wr #[.slice xa m xc, .slice ya r.2.length yc] 46
        generalize wr.alloc (.cells #[.slice xa m xc, .slice ya r.2.length yc] 46) = W6 at *
        have K6 := Lib.hid hk
        replace HXB := Lib.hid (HXB.out.go hb)
        replace HM := Lib.hid (HM.out.go hb)
        replace B := B.trans (hb.mono B.size)
        have hzW6 := B.size
        clear hb hk hs
        obtain ⟨k60, k61⟩ := K6.out.two
        have k6l := K6.out.lt
        have hb1 : Below W6.heap.size W6 (W6.alloc (.cells #[.slice xa m xc] 23)) := (Below.refl _ _).alloc (Nat.le_refl _) _
        have hz2 := B.size
        go_wp2_with (at_builtin; refine wpList_append_m rfl (.tmp 26) (.tmp 29) rfl w.heap.size W6.heap.size _ _ (l :: X) r.1 23 rfl rfl rfl HXB.out HM.out ?c1 ?c2 ?_)
        case c1 => omega
        case c2 => have := HXL.out; simp; omega
        intro v' w2 hown2 hgr2 hs2
        have HOW := Lib.hid hown2
        have HB3 := Lib.hid (below_grownO (B.trans (hb1.mono hz2)) hgr2 (Nat.le_trans hz2 hb1.size) (fun g e => HM.out.from g e))
        clear hown2 hgr2 hs2 hb1 k60 k61 k6l
        go_wp2_with fail
        go_roundw
        case rel => exact ⟨j + 1, by omega, by go_num, HB3.out, by rw [HT.out]; exact HOW.out⟩
        case measure => simp [intOf]; omega
      · have h1i : ¬ (m : Int) = (n : Int) := by omega
        have HT := Lib.hid (show sameV n (L.take (j + 1)) = X by rw [HST.out, if_neg h1])
        clear h1 HST
        go_wp2_with fail
        have hb8 : Below wr.heap.size wr (wr.alloc (.cells #[.slice xa m xc, .slice ya r.2.length yc] 46)) := (Below.refl _ _).alloc (Nat.le_refl _) _
        go_roundw
        case rel => exact ⟨j + 1, by omega, by go_num, B.trans (hb8.mono B.size), by rw [HT.out]; exact HM.out.go hb8⟩
        case measure => simp [intOf]; omega
    · obtain rfl : j = L.length := by omega
      rw [List.take_length] at HM ⊢
      obtain ⟨k, hk⟩ : ∃ k, k = l.length := ⟨_, rfl⟩
      have hk2 : k ≤ 1000 := by omega
      have hspan : spanB l L = decide (rankL k (l :: sameV k L) = rankL k (sameV k L)) := by unfold spanB; rw [hk]
      have hXl : (sameV k L).length ≤ 59 := Nat.le_trans (sameV_le k L) hlen
      have hXw : ∀ r, r ∈ sameV k L → r.length = k := sameV_wide
      have hXo : OctM (sameV k L) := sameV_oct HOC.out
      have hlo : Oct l := HU0.out.lt
      rw [← hk] at HM ⊢
      obtain ⟨X, hX⟩ : ∃ X, X = sameV k L := ⟨_, rfl⟩
      rw [← hX] at HM hspan hXl hXw hXo ⊢
      have hof : ofE (k : Int) (l :: X) = 0 := ofE_few hk2 (by rw [List.length_cons]; omega) (fun r hr => by
        rcases List.mem_cons.1 hr with h | h
        · rw [h]; exact hk.symm
        · exact hXw r h)
      have hof2 : ofE (k : Int) X = 0 := ofE_few hk2 (by omega) hXw
      have HSP := Lib.hid hspan
      have HXW := Lib.hid hXw
      have HXO := Lib.hid hXo
      have HLO := Lib.hid hlo
      have HKL := Lib.hid hk.symm
      have HG1 := Lib.hid (fun (v : Value) (w : World) (h : IsRows w v (l :: X)) => gof_any v (k : Int) (l :: X) w h (by rw [List.length_cons]; omega))
      have HG2 := Lib.hid (fun (v : Value) (w : World) (h : IsRows w v X) => gof_any v (k : Int) X w h (by omega))
      unfold ofM ofL at HG1 HG2
      rw [hof] at HG1
      rw [hof2] at HG2
      simp only [if_true] at HG1 HG2
      clear hk hX hspan hXw hXo hof hof2 hlo
      obtain ⟨s, hs⟩ : ∃ s, s = (l :: X).length := ⟨_, rfl⟩
      rw [← hs] at HM ⊢
      have hs2 : s = X.length + 1 := by rw [hs]; simp
      have HSL := Lib.hid hs
      by_cases h1 : X.length = 0
      · have hs3 : (s : Int) = 1 := by omega
        obtain rfl : X = [] := List.length_eq_zero_iff.1 h1
        have HRS := Lib.hid (show spanB l L = zeroB l by rw [HSP.out]; exact rankL_single HLO.out HKL.out)
        have HUK := Lib.hid (show Bytes w (.slice b0 k d0) l by have h := HU0.out; rwa [HKL.out] at h)
        clear hs hs2 h1
        go_wp2_with fail
        refine (HG1.out _ _ HM.out.rows).mono ?_
        rintro e w8 ⟨u8, rfl, hu8, hb⟩
        replace B := B.trans (hb.mono B.size)
        have hzw8 := B.size
        clear hb
        obtain ⟨ga, gc, rfl, _⟩ := hu8.grid
        clear hu8
        go_wp2_with fail
        obtain ⟨hb, hk, hs⟩ := blocks1 w8 #[.int .i64 (k : Int), .slice ga [l].length gc] 60
        generalize w8.alloc (.cells #[.int .i64 (k : Int), .slice ga [l].length gc] 60) = W9 at *
        have K9 := Lib.hid hk
        replace B := B.trans (hb.mono B.size)
        have hzW9 := B.size
        clear hb hk hs
        refine (vzero_any _ l _ (HUK.out.below (Nat.le_refl _) B)).mono ?_
        rintro e w' ⟨rfl, rfl⟩
        go_wp2_with fail
        go_ret
        exact ⟨by rw [HRS.out]; rfl, B⟩
      · have hs3 : ¬ (s : Int) = 1 := by omega
        have hx1 : 1 ≤ s := by omega
        have hs4 : (1 : Int) ≤ (s : Int) := by omega
        obtain ⟨gv, cv, ev, _, _⟩ := HM.out.addr (by simp)
        simp only [Value.slice.injEq] at ev
        obtain ⟨rfl, -, rfl⟩ := ev
        have e6 : s - 1 = X.length := by omega
        have hvc : 1 < vc := by
          obtain ⟨_, _, e5, h5, _⟩ := HM.out.rows
          simp only [Value.slice.injEq] at e5
          rw [e5.2.2, ← e5.2.1] at *
          omega
        clear hs hs2
        go_wp2_with fail
        refine (HG1.out _ _ HM.out.rows).mono ?_
        rintro e w8 ⟨u8, rfl, hu8, hb⟩
        replace HM := Lib.hid (HM.out.go hb)
        replace B := B.trans (hb.mono B.size)
        have hzw8 := B.size
        clear hb
        have HGA := Lib.hid hu8.grid
        obtain ⟨ga, gc, rfl, _⟩ := hu8.grid
        clear hu8
        have HXLN := Lib.hid (show X.length ≤ 1000000 by omega)
        have HLXO := Lib.hid (show OctM (l :: X) from fun r hr => by
          rcases List.mem_cons.1 hr with h | h
          · rw [h]; exact HLO.out
          · exact HXO.out r h)
        have HLXW := Lib.hid (show ∀ r, r ∈ l :: X → r.length = k from fun r hr => by
          rcases List.mem_cons.1 hr with h | h
          · rw [h]; exact HKL.out
          · exact HXW.out r h)
        go_wp2_with fail
        obtain ⟨hb, hk, hs⟩ := blocks1 w8 #[.int .i64 (k : Int), .slice ga (X.length + 1) gc] 60
        generalize w8.alloc (.cells #[.int .i64 (k : Int), .slice ga (X.length + 1) gc] 60) = W9 at *
        have K9 := Lib.hid hk
        replace HM := Lib.hid (HM.out.go hb)
        replace HGA := Lib.hid (HGA.out.go hb)
        replace B := B.trans (hb.mono B.size)
        have hzW9 := B.size
        clear hb hk hs
        clear e6 hs3 hx1 hs4 h1
        refine (HG2.out _ _ HM.out.rows.tail).mono ?_
        rintro e w10 ⟨u10, rfl, hu10, hb⟩
        replace K9 := Lib.hid (K9.out.go hb)
        replace HGA := Lib.hid (HGA.out.go hb)
        replace B := B.trans (hb.mono B.size)
        have hzw10 := B.size
        clear hb
        have HGB := Lib.hid hu10.grid
        obtain ⟨gb, gd, rfl, _⟩ := hu10.grid
        clear hu10 HM
        go_upto_region 14 with fail
        obtain ⟨p8, hp8⟩ : ∃ g : Nat, g = w8.heap.size := ⟨_, rfl⟩
        obtain ⟨p10, hp10⟩ : ∃ g : Nat, g = w10.heap.size := ⟨_, rfl⟩
        obtain ⟨hb, hk, hs⟩ := blocks1 w10 #[.int .i64 (k : Int), .slice gb X.length gd] 60
        generalize w10.alloc (.cells #[.int .i64 (k : Int), .slice gb X.length gd] 60) = W11 at *
        have K11 := Lib.hid hk
        replace K9 := Lib.hid (K9.out.go hb)
        replace HGA := Lib.hid (HGA.out.go hb)
        replace HGB := Lib.hid (HGB.out.go hb)
        replace B := B.trans (hb.mono B.size)
        have hzW11 := B.size
        clear hb hk hs
        rw [← hp10] at K11
        rw [← hp8] at K9
        simp only [← hp8, ← hp10]
        clear hp8 hp10
        refine wp_region_mono (C := Cb W11) (R := Rb) (H := fun _ => Hb W11) [Ty.val 54 (.agg #[.int .i64 (k : Int), .slice ga (X.length + 1) gc]), Ty.val 55 (.int .i64 (rankL k (l :: X) : Int)), Ty.val 56 (.agg #[.int .i64 (k : Int), .slice gb X.length gd]), Ty.val 57 (.int .i64 (rankL k X : Int)), Ty.val 58 (.bool (decide (rankL k (l :: X) = rankL k X))), Ty.val 4 (.bool (decide (rankL k (l :: X) = rankL k X)))] (by kernel_rfl) (hC_b W11) (hCH_b W11) (drew_b W11) ⟨trivial, trivial, trivial, trivial, trivial, trivial, trivial⟩ (by kernel_rfl) ?_ ?_
        · refine ⟨?_, ?_, ?_, ?_, ?_, ?_, trivial⟩
          · intro ac wc hC hsz hfr hd hpr
            have d8 : ac.eval (.tmp 8) = (.pointer (some ⟨p8, 0, none⟩)) := hfr 8 rfl
            rw [if_pos (wanted_none rfl)]
            exact ob_load _ rfl rfl rfl (Nat.lt_of_lt_of_eq (by decide : 54 < 59) hsz.symm) rfl d8 (load_grid9 (K9.out.go hC)) (Below.refl _ _) rfl
          · intro ac wc hC hsz hfr hd hpr
            have d54 : ac.eval (.tmp 54) = (.agg #[.int .i64 (k : Int), .slice ga (X.length + 1) gc]) := hd 0 rfl
            rw [if_pos (wanted_none rfl)]
            refine ob_call rfl rfl rfl (Nat.lt_of_lt_of_eq (by decide : 55 < 59) hsz.symm) rfl (enter_of Tryz.func24 (by kernel_rfl) rfl) ?_
            show Calls Tryz.prog 24 #[ac.eval (.tmp 54)] wc _
            rw [d54]
            exact (rank_any _ (k : Int) k (l :: X) wc (HGA.out.go hC) HLXO.out HLXW.out (by omega) (by rw [List.length_cons]; have := HXLN.out; omega)).mono fun _ _ ⟨he, hb⟩ => ⟨_, he, rfl, hb⟩
          · intro ac wc hC hsz hfr hd hpr
            have d10 : ac.eval (.tmp 10) = (.pointer (some ⟨p10, 0, none⟩)) := hfr 10 rfl
            rw [if_pos (wanted_none rfl)]
            exact ob_load _ rfl rfl rfl (Nat.lt_of_lt_of_eq (by decide : 56 < 59) hsz.symm) rfl d10 (load_grid9 (K11.out.go hC)) (Below.refl _ _) rfl
          · intro ac wc hC hsz hfr hd hpr
            have d56 : ac.eval (.tmp 56) = (.agg #[.int .i64 (k : Int), .slice gb X.length gd]) := hd 2 rfl
            rw [if_pos (wanted_none rfl)]
            refine ob_call rfl rfl rfl (Nat.lt_of_lt_of_eq (by decide : 57 < 59) hsz.symm) rfl (enter_of Tryz.func24 (by kernel_rfl) rfl) ?_
            show Calls Tryz.prog 24 #[ac.eval (.tmp 56)] wc _
            rw [d56]
            exact (rank_any _ (k : Int) k X wc (HGB.out.go hC) HXO.out HXW.out (by omega) HXLN.out).mono fun _ _ ⟨he, hb⟩ => ⟨_, he, rfl, hb⟩
          · intro ac wc hC hsz hfr hd hpr
            have d55 : ac.eval (.tmp 55) = (.int .i64 (rankL k (l :: X) : Int)) := hd 1 rfl
            have d57 : ac.eval (.tmp 57) = (.int .i64 (rankL k X : Int)) := hd 3 rfl
            rw [if_pos (wanted_none rfl)]
            exact ob_bin _ rfl rfl rfl (Nat.lt_of_lt_of_eq (by decide : 58 < 59) hsz.symm) rfl d55 d57 (eql_rank _ _) (Below.refl _ _) rfl
          · intro ac wc hC hsz hfr hd hpr
            have d58 : ac.eval (.tmp 58) = (.bool (decide (rankL k (l :: X) = rankL k X))) := hd 4 rfl
            rw [if_pos (wanted_none rfl)]
            exact ob_copy rfl rfl rfl (Nat.lt_of_lt_of_eq (by decide : 4 < 59) hsz.symm) (Or.inr rfl) (Below.refl _ _) d58
        intro a' W12 hC hdef hsz hfr hd
        have e54 : a'.eval (.tmp 54) = (.agg #[.int .i64 (k : Int), .slice ga (X.length + 1) gc]) := hd 0 (by decide)
        have e55 : a'.eval (.tmp 55) = (.int .i64 (rankL k (l :: X) : Int)) := hd 1 (by decide)
        have e56 : a'.eval (.tmp 56) = (.agg #[.int .i64 (k : Int), .slice gb X.length gd]) := hd 2 (by decide)
        have e57 : a'.eval (.tmp 57) = (.int .i64 (rankL k X : Int)) := hd 3 (by decide)
        have e58 : a'.eval (.tmp 58) = (.bool (decide (rankL k (l :: X) = rankL k X))) := hd 4 (by decide)
        have e4 : a'.eval (.tmp 4) = (.bool (decide (rankL k (l :: X) = rankL k X))) := hd 5 (by decide)
        have hact := act_puts hdef hsz hfr
        simp only [dstsOf, List.filterMap, putAll, Act.put, List.setIfInBounds_toArray, List.set_cons_succ, List.set_cons_zero, e54, e55, e56, e57, e58, e4] at hact
        clear hd hfr hsz hdef e54 e55 e56 e57 e58 e4
        subst hact
        replace B := B.trans (hC.mono B.size)
        clear hC
        go_wp2_with fail
        go_ret
        exact ⟨by rw [HSP.out]; rfl, B⟩

end Go.Proofs.YtphdadibfeencaaGreat

/-
  'append' of a slice of bytes to a list that the call made, behind a guard.
-/
set_option maxRecDepth 100000
namespace Go.Proofs.YtphdadibfeencaaGreat
open Go.RowKit

theorem wpList_plainG {P : Program} {ops : Array Oper} {Q : Exit → Act → World → Prop} {a : Act} {w : World} {rest : List Oper} {o : Oper} (hw : Region.wanted o (yielded ops a.tmps) = true) (h : ∀ K : Act → World → Prop, (∀ a w, wpList P ops Q rest a w → K a w) → o.wp P a w K Q) : wpList P ops Q (o :: rest) a w := by
  unfold wpList
  rw [if_pos hw]
  exact .inl (h _ fun _ _ h => h)
theorem wpList_append_softG {P : Program} {w : World} {ops : Array Oper} {rest : List Oper} {o : Oper} {a : Act} {Q : Exit → Act → World → Prop} (hgd : Region.wanted o (yielded ops a.tmps) = true) (s x : Operand) (t : TypeId)
    (ho : o.op = .call { callee := .builtin .append, args := #[s, x], argTypes := #[t, t] })
    (B : Nat) (e : TypeId) (i : TypeInfo) (z : Value) (size bytes : Nat) (ht : P.underlying t = some (.slice e)) (hi : P.info? e = some i) (hz : i.zero = some z)
    (hsize : i.size = size) (hby : i.bytes = bytes) (hzs : z.cells.size = size) (hsz : 0 < size)
    (v : Value) (n : Nat) (xs : List Value) (hs : a.eval s = v) (hown : OwnN w B e size v n xs)
    (ad : Addr) (m c : Nat) (news : List Value) (hx : a.eval x = .slice (some ad) m c) (hl : news.length = m * size) (hnews : ∀ j u, news[j]? = some u → w.cell? (ad.add j) = some u) (h1 : ∀ u ∈ news, u.oneCell' = true)
    (hzn : ∀ u ∈ z.cells.toList, ∀ k : Nat, u ≠ U8 k) (hnn : ∀ u ∈ news, ∀ k : Nat, u ≠ U8 k)
    (h63 : n + m ≤ maxLen) (hbytes : (n + m) * bytes ≤ 140737488355328) (hbase : B ≤ w.heap.size)
    (h : ∀ v' w', OwnN w' B e size v' (n + m) (xs ++ news) → w.grownBy w' v.ownBlock → Soft w w' → wpList P ops Q rest (a.put o.dst v') w') : wpList P ops Q (o :: rest) a w := by
  refine wpList_plainG hgd fun K hK => ?_
  obtain ⟨v', w', hrun, h2, h3, h4⟩ := run_append_soft (P := P) w B t o.type e i z size bytes ht hi hz hsize hby hzs hsz v n xs hown ad m c news hl hnews h1 hzn hnn h63 hbytes hbase
  unfold Oper.wp
  simp only [execOp, ho, resolve, invoke, builtin, Sem.run_bind, Sem.run_pure, Result.andThen_ok, List.map_toArray, List.map_cons, List.map_nil, hs, hx, hrun]
  exact hK _ _ (h v' w' h2 h3 h4)

theorem wpList_append_mG {ops : Array Oper} {rest : List Oper} {o : Oper} {a : Act} {Q : Exit → Act → World → Prop} {w : World} (hgd : Region.wanted o (yielded ops a.tmps) = true) (s x : Operand) (ho : o.op = .call { callee := .builtin .append, args := #[s, x], argTypes := #[22, 22] })
    (B k : Nat) (v u : Value) (ll : List (List Nat)) (l : List Nat) (T : TypeId) (hs : a.eval s = v) (hx : a.eval x = .slice (some ⟨k, 0, none⟩) 1 1) (hk : k = w.heap.size) (hu : Bytes w u l) (hown : OwnM w B 23 v ll) (hB : B ≤ w.heap.size) (hn : ll.length + 1 ≤ 1000000000000)
    (h : ∀ v' w', OwnM w' B 23 v' (ll ++ [l]) → (w.alloc (.cells #[u] T)).grownBy w' v.ownBlock → Soft (w.alloc (.cells #[u] T)) w' → wpList Tryz.prog ops Q rest (a.put o.dst v') w') :
    wpList Tryz.prog ops Q (o :: rest) a (w.alloc (.cells #[u] T)) := by
  subst hk
  obtain ⟨i0, hi, hz0, hz1, hz2⟩ := info_parts infoRow
  have hb : Below w.heap.size w (w.alloc (.cells #[u] T)) := (Below.refl _ _).alloc (Nat.le_refl _) _
  obtain ⟨us, h1, h2⟩ := hown
  have hE := (EachB.one hu).soft (Soft.of_below hb)
  refine wpList_append_softG hgd s x 22 ho B 23 i0 (.slice none 0 0) 1 24 Tryz.underlying22 hi hz0 hz1 hz2 rfl (by decide) v ll.length us hs (h1.go hb)
    ⟨w.heap.size, 0, none⟩ 1 1 [u] hx rfl ?_ (fun y hy => (hE.noU8 y hy).2) (fun y hy => by simp [Value.cells] at hy; subst hy; exact slice_ne _ _ _) (fun y hy => (hE.noU8 y hy).1) ?_ ?_ (Nat.le_trans hB (by simp)) ?_
  · intro j y hj
    match j, hj with
    | 0, hj => simp at hj; subst hj; simp [Addr.add]
  · unfold maxLen; omega
  · omega
  · intro v' w' k1 k2 k3
    refine h v' w' ⟨us ++ [u], ?_, ?_⟩ k2 k3
    · rw [List.length_append]; exact k1
    · exact ((h2.soft (Soft.of_below hb)).append hE).soft k3

end Go.Proofs.YtphdadibfeencaaGreat

/-
  The laws of what equations say together (layer 9): SolveHolds.
-/
set_option maxRecDepth 100000
namespace Go.Proofs.YtphdadibfeencaaGreat
open Go.RowKit

/-- The world has so many blocks. -/
def High (s : Nat) (w : World) : Prop := s ≤ w.heap.size
theorem High.go {s : Nat} {w w' : World} (h : High s w) (hb : Below w.heap.size w w') : High s w' := Nat.le_trans h hb.size
theorem rankL_turn (k : Nat) (X : List (List Nat)) (v : List Nat) : rankL k (v :: X) = rankL k (X ++ [v]) := by
  unfold rankL
  refine La.rk_congr fun u => sp_perm fun x => ?_
  simp only [List.map_cons, List.map_append, List.map_nil, List.mem_cons, List.mem_append, List.not_mem_nil, or_false]
  exact Or.comm
set_option maxHeartbeats 1000000 in
theorem solveHolds_out (v0 v1 v2 : Value) (S : List (List Nat)) (l : List Nat) (L : List Rw) (w : World) (h0 : IsRows w v0 S) (h1 : Bytes w v1 l) (hL : IsRL w v2 L) (h : few8 L = false ∨ (few8 L = true ∧ 30 < S.length) ∨ (few8 L = true ∧ S.length ≤ 30 ∧ 20 < l.length)) :
    Calls Tryz.prog 3 #[v0, v1, v2] w fun e w' => e = .returned (.bool true) ∧ Below w.heap.size w w' := by
  have HL := Lib.hid hL
  obtain ⟨a, c, rfl⟩ := hL.shape
  obtain ⟨a0, c0, rfl⟩ := h0.shape
  obtain ⟨a1, c1, rfl, _⟩ := h1
  clear hL h0
  rcases h with h | ⟨h, h3⟩ | ⟨h, h3, h4⟩
  · have HF := Lib.hid h
    clear h
    go_enter Tryz.func3, Tryz.ntmps3
    go_wp2_with fail
    have B : Below w.heap.size w w := Below.refl _ _
    refine (awake9_any _).mono ?_
    rintro e w1 ⟨rfl, hb⟩
    replace HL := Lib.hid (HL.out.go hb)
    replace B := B.trans (hb.mono B.size)
    have hzw1 := B.size
    clear hb
    go_wp2_with fail
    refine (few8_any _ L _ HL.out).mono ?_
    rintro e w2 ⟨rfl, hb⟩
    replace B := B.trans (hb.mono B.size)
    have hzw2 := B.size
    clear hb
    rw [HF.out]
    go_wp2_with fail
    go_ret
    exact ⟨rfl, B⟩
  · have HF := Lib.hid h
    have h5 : (30 : Int) < (S.length : Int) := by omega
    clear h h3
    go_enter Tryz.func3, Tryz.ntmps3
    go_wp2_with fail
    have B : Below w.heap.size w w := Below.refl _ _
    refine (awake9_any _).mono ?_
    rintro e w1 ⟨rfl, hb⟩
    replace HL := Lib.hid (HL.out.go hb)
    replace B := B.trans (hb.mono B.size)
    have hzw1 := B.size
    clear hb
    go_wp2_with fail
    refine (few8_any _ L _ HL.out).mono ?_
    rintro e w2 ⟨rfl, hb⟩
    replace B := B.trans (hb.mono B.size)
    have hzw2 := B.size
    clear hb
    rw [HF.out]
    go_wp2_with fail
    go_ret
    exact ⟨rfl, B⟩
  · have HF := Lib.hid h
    have h5 : ¬ (30 : Int) < (S.length : Int) := by omega
    have h6 : (20 : Int) < (l.length : Int) := by omega
    clear h h3 h4
    go_enter Tryz.func3, Tryz.ntmps3
    go_wp2_with fail
    have B : Below w.heap.size w w := Below.refl _ _
    refine (awake9_any _).mono ?_
    rintro e w1 ⟨rfl, hb⟩
    replace HL := Lib.hid (HL.out.go hb)
    replace B := B.trans (hb.mono B.size)
    have hzw1 := B.size
    clear hb
    go_wp2_with fail
    refine (few8_any _ L _ HL.out).mono ?_
    rintro e w2 ⟨rfl, hb⟩
    replace B := B.trans (hb.mono B.size)
    have hzw2 := B.size
    clear hb
    rw [HF.out]
    go_wp2_with fail
    go_ret
    exact ⟨rfl, B⟩

set_option maxHeartbeats 4000000 in
theorem solveHolds_in (v0 v1 v2 : Value) (S : List (List Nat)) (l : List Nat) (L : List Rw) (w : World) (h0 : IsRows w v0 S) (h1 : Bytes w v1 l) (hL : IsRL w v2 L) (hm : (rowAt S 0).length ≤ 281474976710656) (hf : few8 L = true) (hS : S.length ≤ 30) (hl : l.length ≤ 20) :
    Calls Tryz.prog 3 #[v0, v1, v2] w fun e w' => e = .returned (.bool true) ∧ Below w.heap.size w w' := by
  have HL := Lib.hid hL
  have HL0 := Lib.hid hL
  have HS0 := Lib.hid h0
  have HU0 := Lib.hid h1
  have HLO := Lib.hid (show Oct l from h1.lt)
  have HOC := Lib.hid (show ∀ r, r ∈ L → Oct r.1 from fun r hr => (hL.oct r hr).1)
  obtain ⟨a, c, rfl⟩ := hL.shape
  obtain ⟨a0, c0, rfl⟩ := h0.shape
  obtain ⟨a1, c1, rfl, _⟩ := h1
  have HF := Lib.hid hf
  have hlen := few8_len hf
  have HWD := Lib.hid (show ∀ j, j < L.length → (rwAt L j).1.length ≤ 10000000 ∧ (rwAt L j).2.length ≤ 10000000 from fun j hj => by have := few8_at hf hj; omega)
  have HMM := Lib.hid hm
  have m0 : ¬ (30 : Int) < (S.length : Int) := by omega
  have m1 : ¬ (20 : Int) < (l.length : Int) := by omega
  clear hL h0 hf hm
  go_enter Tryz.func3, Tryz.ntmps3
  go_wp2_with fail
  have B : Below w.heap.size w w := Below.refl _ _
  refine (awake9_any _).mono ?_
  rintro e w1 ⟨rfl, hb⟩
  replace HL := Lib.hid (HL.out.go hb)
  replace B := B.trans (hb.mono B.size)
  have hzw1 := B.size
  clear hb
  go_wp2_with fail
  refine (few8_any _ L _ HL.out).mono ?_
  rintro e w2 ⟨rfl, hb⟩
  replace HL := Lib.hid (HL.out.go hb)
  replace B := B.trans (hb.mono B.size)
  have hzw2 := B.size
  clear hb
  rw [HF.out]
  go_wp2_with fail
  refine (rows9_any _ L _ HL.out (by omega) HWD.out).mono ?_
  rintro e w3 ⟨u3, d3, rfl, hu3, hd3, hb⟩
  replace B := B.trans (hb.mono B.size)
  have hzw3 := B.size
  clear hb
  have HU := Lib.hid hu3.list
  have HDL := Lib.hid hd3.list
  obtain ⟨ua, uc, rfl⟩ := hu3.shape
  obtain ⟨da, dc, rfl⟩ := hd3.shape
  have HB3 := Lib.hid B
  clear hu3 hd3
  go_wp2_with fail
  go_loopw [9, 11, 34] (fun vv _ x wr => ∃ j : Nat, j ≤ L.length ∧ x = .int .i64 j ∧ Below w3.heap.size w3 wr ∧ OwnM wr w3.heap.size 23 vv (sameV l.length (L.take j))) (fun _ _ x _ => L.length - (intOf x).toNat)
  case atStart => exact ⟨0, by omega, rfl, Below.refl _ _, OwnM.nil _ _ _⟩
  case round =>
    clear B
    obtain ⟨j, hj, rfl, B3, hM⟩ := hrel
    have B := HB3.out.trans (B3.mono HB3.out.size)
    have HM := Lib.hid hM
    have HB3W := Lib.hid B3
    obtain ⟨va, vc, rfl⟩ := hM.shape
    clear hM B3
    by_cases hjl : j < L.length
    · obtain ⟨b, off, c', er, hbl⟩ := HL0.out.addr (by omega)
      simp only [Value.slice.injEq] at er
      obtain ⟨rfl, -, rfl⟩ := er
      obtain ⟨x0, y0, hx0, hy0, hxb, hyb⟩ := (HL0.out.go B).cells j hjl
      have HST := Lib.hid (sameV_take (n := l.length) hjl)
      obtain ⟨r, hr⟩ : ∃ r, r = rwAt L j := ⟨_, rfl⟩
      rw [← hr] at hxb hyb HST
      obtain ⟨X, hX⟩ : ∃ X, X = sameV l.length (L.take j) := ⟨_, rfl⟩
      have hXl : X.length ≤ 1000 := by rw [hX]; have := sameV_le l.length (L.take j); rw [List.length_take] at this; omega
      rw [← hX] at HM HST ⊢
      have HXL := Lib.hid hXl
      have HXB := Lib.hid hxb
      obtain ⟨xa, xc, rfl, _⟩ := hxb
      obtain ⟨ya, yc, rfl, _⟩ := hyb
      have j1 : (j : Int) < (L.length : Int) := by omega
      have j0 : (0 : Int) ≤ (j : Int) := Int.natCast_nonneg _
      obtain ⟨m, hm⟩ : ∃ m, m = r.1.length := ⟨_, rfl⟩
      obtain ⟨n, hn⟩ : ∃ n, n = l.length := ⟨_, rfl⟩
      obtain ⟨s, hs⟩ : ∃ s, s = X.length := ⟨_, rfl⟩
      rw [← hs] at HM ⊢
      rw [← hm] at hx0 HXB HST
      rw [← hn] at HST ⊢
      have HSL := Lib.hid hs
      clear hr hbl hX hXl hm hs hn
      by_cases h1 : m = n
      · have HT := Lib.hid (show sameV n (L.take (j + 1)) = X ++ [r.1] by rw [HST.out, if_pos h1])
        have h1i : (m : Int) = (n : Int) := by rw [h1]
        clear h1 HST
        go_upto_region 11 with fail
        obtain ⟨hb, hk6, hs6⟩ := blocks1 wr #[.slice xa m xc, .slice ya r.2.length yc] 32
        generalize wr.alloc (.cells #[.slice xa m xc, .slice ya r.2.length yc] 32) = W6 at *
        have K6 := Lib.hid hk6
        replace HXB := Lib.hid (HXB.out.go hb)
        replace HM := Lib.hid (HM.out.go hb)
        clear hk6 hs6
        have HW6 := Lib.hid (show w3.heap.size ≤ W6.heap.size from Nat.le_trans HB3W.out.size hb.size)
        replace HB3W := Lib.hid (HB3W.out.trans (hb.mono HB3W.out.size))
        clear hb
        obtain ⟨k60, k61⟩ := K6.out.two
        have k6l := K6.out.lt
        have hb1 : Below W6.heap.size W6 (W6.alloc (.cells #[.slice xa m xc] 23)) := (Below.refl _ _).alloc (Nat.le_refl _) _
        go_wp2_with (at_builtin; refine wpList_append_m rfl (.tmp 44) (.tmp 47) rfl w3.heap.size W6.heap.size _ _ X r.1 23 rfl rfl rfl HXB.out HM.out ?c1 ?c2 ?_)
        case c1 => exact HW6.out
        case c2 => have := HXL.out; omega
        intro v' w2 hown2 hgr2 hs2
        have HOW := Lib.hid hown2
        have HB4 := Lib.hid (below_grownO (HB3W.out.trans (hb1.mono HB3W.out.size)) hgr2 (Nat.le_trans HB3W.out.size hb1.size) (fun g e => HM.out.from g e))
        clear hown2 hgr2 hs2 hb1 k60 k61 k6l
        go_wp2_with fail
        go_roundw
        case rel => exact ⟨j + 1, by omega, by go_num, HB4.out, by rw [HT.out]; exact HOW.out⟩
        case measure => simp [intOf]; omega
      · have h1i : ¬ (m : Int) = (n : Int) := by omega
        have HT := Lib.hid (show sameV n (L.take (j + 1)) = X by rw [HST.out, if_neg h1])
        clear h1 HST
        go_wp2_with fail
        have hb8 : Below wr.heap.size wr (wr.alloc (.cells #[.slice xa m xc, .slice ya r.2.length yc] 32)) := (Below.refl _ _).alloc (Nat.le_refl _) _
        go_roundw
        case rel => exact ⟨j + 1, by omega, by go_num, HB3W.out.trans (hb8.mono HB3W.out.size), by rw [HT.out]; exact HM.out.go hb8⟩
        case measure => simp [intOf]; omega
    · obtain rfl : j = L.length := by omega
      rw [List.take_length] at HM ⊢
      have hHW : ∀ j, j < L.length → (rwAt L j).2.length ≤ 10000000 := fun j hj => (HWD.out j hj).2
      replace HU := Lib.hid (HU.out.go HB3W.out)
      replace HDL := Lib.hid (HDL.out.go HB3W.out)
      have HHW := Lib.hid hHW
      have HT3 := Lib.hid (show High w3.heap.size wr from HB3W.out.size)
      have HS := Lib.hid (HS0.out.below (Nat.le_refl _) B)
      have HV := Lib.hid (HU0.out.below (Nat.le_refl _) B)
      obtain ⟨X, hX⟩ : ∃ X, X = sameV l.length L := ⟨_, rfl⟩
      have hXl : X.length ≤ 1000 := by rw [hX]; have := sameV_le l.length L; omega
      have HXW := Lib.hid (show ∀ r, r ∈ X → r.length = l.length by rw [hX]; exact sameV_wide)
      have HXO := Lib.hid (show OctM X by rw [hX]; exact sameV_oct HOC.out)
      have HSP := Lib.hid (show spanB l L = decide (rankL l.length X = rankL l.length (X ++ [l])) by unfold spanB; rw [← hX, rankL_turn]; exact decide_eq_decide.2 eq_comm)
      have HXL := Lib.hid hXl
      rw [← hX] at HM ⊢
      clear hX hXl hHW
      obtain ⟨s, hs⟩ : ∃ s, s = X.length := ⟨_, rfl⟩
      rw [← hs] at HM ⊢
      clear hs
      go_wp2_with fail
      refine (holds_any _ _ S L _ HS.out HU.out HMM.out (by omega)).mono ?_
      rintro e w10 ⟨rfl, hb⟩
      replace HS := Lib.hid (HS.out.go hb)
      replace HU := Lib.hid (HU.out.go hb)
      replace HDL := Lib.hid (HDL.out.go hb)
      replace HM := Lib.hid (HM.out.go hb)
      replace HV := Lib.hid (HV.out.go hb)
      replace HT3 := Lib.hid (HT3.out.go hb)
      replace B := B.trans (hb.mono B.size)
      have hzw10 := B.size
      clear hb
      go_wp2_with fail
      refine (refholds_any _ _ S L _ HS.out HDL.out HHW.out).mono ?_
      rintro e w11 ⟨rfl, hb⟩
      replace HU := Lib.hid (HU.out.go hb)
      replace HM := Lib.hid (HM.out.go hb)
      replace HV := Lib.hid (HV.out.go hb)
      replace HT3 := Lib.hid (HT3.out.go hb)
      replace B := B.trans (hb.mono B.size)
      have hzw11 := B.size
      clear hb
      obtain ⟨bb, hbb⟩ : ∃ bb, bb = holdsL S L := ⟨_, rfl⟩
      rw [← hbb]
      clear hbb
      have hbe : (bb == bb) = true := by simp
      go_wp2_with fail
      refine (span_any _ _ l L _ HV.out HU.out (by omega) (by omega)).mono ?_
      rintro e w12 ⟨rfl, hb⟩
      replace HM := Lib.hid (HM.out.go hb)
      replace HV := Lib.hid (HV.out.go hb)
      replace HT3 := Lib.hid (HT3.out.go hb)
      replace B := B.trans (hb.mono B.size)
      have hzw12 := B.size
      clear hb
      rw [HSP.out]
      have hD1 : Ro.Dims l.length 0 (Ro.bare X) := bare_dims HXO.out HXW.out
      have HLXO := Lib.hid (show OctM (X ++ [l]) from fun r hr => by
        rcases List.mem_append.1 hr with h | h
        · exact HXO.out r h
        · rw [List.mem_singleton.1 h]; exact HLO.out)
      have HLXW := Lib.hid (show ∀ r, r ∈ X ++ [l] → r.length = l.length from fun r hr => by
        rcases List.mem_append.1 hr with h | h
        · exact HXW.out r h
        · rw [List.mem_singleton.1 h])
      have HD1 := Lib.hid hD1
      have HD2 := Lib.hid (show Ro.Dims l.length 0 (Ro.bare (X ++ [l])) from bare_dims HLXO.out HLXW.out)
      clear hD1
      go_wp2_with fail
      refine (refrank7_any _ l.length X _ HM.out.rows HD1.out (by omega) (by have := HXL.out; omega)).mono ?_
      rintro e w13 ⟨rfl, hb⟩
      replace HM := Lib.hid (HM.out.go hb)
      replace HV := Lib.hid (HV.out.go hb)
      replace HT3 := Lib.hid (HT3.out.go hb)
      replace B := B.trans (hb.mono B.size)
      have hzw13 := B.size
      clear hb
      rw [refrank_eq HXO.out HXW.out]
      have hb14 : Below w13.heap.size w13 (w13.alloc (.cells #[.slice a1 l.length c1] 23)) := (Below.refl _ _).alloc (Nat.le_refl _) _
      have HB13 := Lib.hid B
      obtain ⟨rk1, hrk1⟩ : ∃ r, r = rankL l.length X := ⟨_, rfl⟩
      rw [← hrk1]
      have HRK1 := Lib.hid hrk1
      clear hrk1
      have hw3 := HT3.out
      go_wp2_with (at_builtin; refine wpList_append_mG (wanted_some rfl (yielded_of rfl rfl)) (.tmp 63) (.tmp 65) rfl w3.heap.size w13.heap.size _ _ X l 23 rfl rfl rfl HV.out HM.out ?c1 ?c2 ?_)
      case c1 => exact HT3.out
      case c2 => have := HXL.out; omega
      intro v' w14 hown2 hgr2 hs2
      have HOW := Lib.hid hown2
      have HB14 := Lib.hid (below_grownO (HB13.out.trans (hb14.mono HB13.out.size)) hgr2 (Nat.le_trans HB13.out.size hb14.size) (fun g e => Nat.le_trans (HB3.out.size) (HM.out.from g e)))
      clear hown2 hgr2 hs2 hb14 hw3 B
      have B := HB14.out
      obtain ⟨xa, xc, e5⟩ := HOW.out.shape
      rw [List.length_append, List.length_singleton] at e5
      subst e5
      go_wp2_with fail
      refine (refrank7_any _ l.length (X ++ [l]) _ HOW.out.rows HD2.out (by omega) (by have := HXL.out; rw [List.length_append, List.length_singleton]; omega)).mono ?_
      rintro e w15 ⟨rfl, hb⟩
      replace B := B.trans (hb.mono B.size)
      have hzw15 := B.size
      clear hb
      rw [refrank_eq HLXO.out HLXW.out]
      obtain ⟨rk2, hrk2⟩ : ∃ r, r = rankL l.length (X ++ [l]) := ⟨_, rfl⟩
      rw [← hrk2]
      have hdd : decide ((rk1 : Int) = (rk2 : Int)) = decide (rk1 = rk2) := decide_eq_decide.2 (by omega)
      obtain ⟨tt, htt⟩ : ∃ t, t = decide (rk1 = rk2) := ⟨_, rfl⟩
      have HDD := Lib.hid (show ((rk1 : Int) == (rk2 : Int)) = tt by rw [htt, Bool.eq_iff_iff]; simp; omega)
      rw [← htt] at hdd ⊢
      clear hrk2 htt
      go_wp2_with fail
      go_ret
      exact ⟨by simp [HDD.out], B⟩

theorem solveHolds_walk (v0 : Value) (S : List (List Nat)) (v1 : Value) (l : List Nat) (v2 : Value) (L : List Rw) (w : World) (h0 : IsRows w v0 S) (h1 : Bytes w v1 l) (hL : IsRL w v2 L) (hm : (rowAt S 0).length ≤ 281474976710656) :
    Calls Tryz.prog 3 #[v0, v1, v2] w fun e w' => e = .returned (.bool true) ∧ Below w.heap.size w w' := by
  cases hf : few8 L with
  | false => exact solveHolds_out v0 v1 v2 S l L w h0 h1 hL (.inl hf)
  | true =>
    by_cases a : S.length ≤ 30
    · by_cases b : l.length ≤ 20
      · exact solveHolds_in v0 v1 v2 S l L w h0 h1 hL hm hf a b
      · exact solveHolds_out v0 v1 v2 S l L w h0 h1 hL (.inr (.inr ⟨hf, a, by omega⟩))
    · exact solveHolds_out v0 v1 v2 S l L w h0 h1 hL (.inr (.inl ⟨hf, by omega⟩))

end Go.Proofs.YtphdadibfeencaaGreat

/-
  Rows of bytes that came in, and how long each may be: the form's own reach.
-/
set_option maxRecDepth 100000
namespace Go.Proofs.YtphdadibfeencaaGreat
open Go.ChangeShapes Go.WideShapes Go.ChangeAt Go.RowKit

theorem weights_all_mem {H : Type} {P : Program} {e : TypeId} : ∀ {ds : List (DataW H)} {d : DataW H}, d ∈ ds → ∀ n ∈ d.weights P e, n ∈ DataW.weightsAll P e ds
  | x :: r, d, hd, n, hn => by
    simp only [DataW.weightsAll, List.mem_append]
    rcases List.mem_cons.1 hd with h | h
    · subst h; exact .inl hn
    · exact .inr (weights_all_mem h n hn)
theorem bytes_of_trod_sized {H : Type} {enc : TypeId × Value → H} {P : Program} {T E : TypeId} (hT : P.underlying T = some (.slice E)) (hE : P.underlying E = some (.int .u8)) (hc : P.cellsOf E = 1) (hb : P.bytesOf E = 1) {W : World} {v : Value} {x : DataW H × List MemPlace} {fuel : Nat}
    (hf : DataW.trod enc P W 0 (fun _ => true) true fuel T [v] = some x) (hlt : ∀ y ∈ x.2, y.block < W.heap.size) (hw : ∀ n ∈ x.1.weights P T, n ≤ reachBytes) : ∃ l, Bytes W v l ∧ l.length ≤ reachBytes := by
  obtain ⟨l, hl⟩ := bytes_of_trod hT hE hc hf hlt
  refine ⟨l, hl, ?_⟩
  obtain ⟨a0, c0, rfl, _⟩ := hl
  rcases open_ints hT hE hc hf with ⟨hcs, hx⟩ | ⟨a, len, cap, zs, hcs, _, h1, hm, hz, hx, hcell, hwz⟩
  · simp only [List.cons.injEq, and_true, Value.slice.injEq] at hcs
    rw [hcs.2.1]; exact Nat.zero_le _
  · simp only [List.cons.injEq, and_true, Value.slice.injEq] at hcs
    obtain ⟨_, h3, _⟩ := hcs
    rw [h3]
    subst hx
    simp only [if_true] at hz
    have := hw (((lits .u8 (zs.take len)).length + (lits .u8 (zs.drop len)).length) * P.bytesOf E) (by simp only [DataW.weights, hT]; exact List.mem_cons_self)
    rw [hb] at this
    simp [lits] at this
    omega
theorem open_rows_sized {H : Type} {enc : TypeId × Value → H} {P : Program} {S T E : TypeId} (hS : P.underlying S = some (.slice T)) (hT : P.underlying T = some (.slice E)) (hE : P.underlying E = some (.int .u8)) (hcT : P.cellsOf T = 1) (hc : P.cellsOf E = 1) (hb : P.bytesOf E = 1) {W : World} {base : Nat} {v : Value} {d : DataW H} {p : List MemPlace}
    (hok : Value.okWide P W .any base S v) (h : DataW.Trod enc P W 0 (fun _ => true) true S v d p) (hlt : ∀ x ∈ p, x.block < W.heap.size) (hw : ∀ n ∈ d.weights P S, n ≤ reachBytes) : ∃ ll, IsRows W v ll ∧ ∀ i, (rowAt ll i).length ≤ reachBytes := by
  obtain ⟨a0, len, cap, rfl⟩ := okWide_slice hS hok
  obtain ⟨fuel, hf⟩ := h
  rcases Go.Deep.open_slice1 hS hcT hf with ⟨hcs, hx⟩ | ⟨a, len', cap', m, n, V, D, Pl, hcs, _, hl, hm, hmm, hx, hall⟩
  · simp [Value.cells] at hcs
    obtain ⟨rfl, rfl, rfl⟩ := hcs
    exact ⟨[], ⟨none, 0, rfl, by simp, by omega, fun h => absurd rfl h⟩, fun i => by simp [rowAt]⟩
  · simp [Value.cells] at hcs
    obtain ⟨rfl, rfl, rfl⟩ := hcs
    simp only [Prod.mk.injEq] at hx
    obtain ⟨rfl, rfl⟩ := hx
    simp only [if_true] at hmm
    subst hmm
    have hrow : ∀ i, i < len → ∃ l, Bytes W (V i) l ∧ l.length ≤ reachBytes := fun i hi =>
      bytes_of_trod_sized hT hE hc hb (hall i (by omega)).2 (fun y hy => hlt y (List.mem_append_right _ (List.mem_flatMap.2 ⟨i, List.mem_range.2 (by omega), hy⟩)))
        (fun n hn => hw n (by
          simp only [DataW.weights, hS, List.mem_cons, List.mem_append]
          exact .inr (.inl (weights_all_mem (List.mem_map.2 ⟨i, List.mem_range.2 hi, rfl⟩) n hn))))
    obtain ⟨L, hL⟩ := Go.Deep.choose_lt hrow
    have hlen : ((List.range len).map L).length = len := by simp
    refine ⟨(List.range len).map L, ⟨some a, m, by rw [hlen], by rw [hlen]; exact hl, by simpa [maxLen] using hm, fun hne => ?_⟩, fun i => ?_⟩
    · have hl0 : 0 < len := by
        cases len with
        | zero => simp at hne
        | succ n => omega
      obtain ⟨b, off, spot⟩ := a
      have hspot : spot = none := by simpa [Addr.add] using World.cell?_spot (hall 0 (by omega)).1
      subst hspot
      have hbW : b < W.heap.size := hlt (.cell b off) (List.mem_append_left _ (MemPlace.mem_row.2 ⟨0, by omega, by simp⟩))
      refine ⟨b, off, rfl, hbW, fun i hi => ?_⟩
      rw [hlen] at hi
      have hci := (hall i (by omega)).1
      rw [add_plain] at hci
      refine ⟨V i, hci, ?_⟩
      rw [rowAt_eq _ _ (by rw [hlen]; exact hi)]
      simpa using (hL i hi).1
    · by_cases hi : i < len
      · rw [rowAt_eq _ _ (by rw [hlen]; exact hi)]
        simpa using (hL i hi).2
      · unfold rowAt
        rw [List.getD_eq_getElem?_getD, List.getElem?_eq_none (by rw [hlen]; omega)]
        exact Nat.zero_le _

end Go.Proofs.YtphdadibfeencaaGreat
