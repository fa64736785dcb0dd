/- Texts of one seat, laid together: RefGridE, ElimD, GridE, GridF, MonoH. -/
import Derived.Test.YtphdadibfeencaaGreatSolveHoldsQ8
import Derived.Test.YtphdadibfeencaaGreatSolveHoldsQ15
import Derived.Test.YtphdadibfeencaaGreatSolveHoldsQ7

/-
  The document's answer for grids (wellspringref07), in the program: 'Turned', 'Mul'.
-/
set_option maxRecDepth 100000
namespace Go.Proofs.YtphdadibfeencaaGreat
open Go.RowKit

/-- Rows of bytes. -/
def OctM (ll : List (List Nat)) : Prop := ∀ r ∈ ll, ∀ x, x ∈ r → x < 256
end Go.Proofs.YtphdadibfeencaaGreat

/-
  Systems of equations in the program (layer 8): 'Rest'.
-/
set_option maxRecDepth 100000
namespace Go.Proofs.YtphdadibfeencaaGreat
open Go.RowKit

theorem Blk.ne {w : World} {g b : Nat} {vs us : Array Value} {T T' : TypeId} (h : Blk w g vs T) (k : Blk w b us T') (hT : T ≠ T') : g ≠ b := fun e => by
  subst e
  unfold Blk at h k
  rw [h] at k
  simp only [Option.some.injEq, Obj.cells.injEq] at k
  exact hT k.2.1
/-- Another box was written. -/
theorem IsE.other {w w' : World} {B g b k t : Nat} {v : Value} {E : List Rw} {us : Array Value} {T' : TypeId} (h : IsE w B g v k t E) (hg : w.grownBy w' (some b)) (hs : Soft w w') (hk : Blk w b us T') (h1 : 110 ≠ T') (h2 : 125 ≠ T') : IsE w' B g v k t E :=
  ⟨h.1.grown hg (by simpa using h.1.ne hk h1), h.2.1.other hg hs (h.2.1.ne_box hk h2), h.2.2⟩
theorem IsE.lt {w : World} {B g k t : Nat} {v : Value} {E : List Rw} (h : IsE w B g v k t E) : g < w.heap.size := h.1.lt

set_option maxHeartbeats 2000000 in
theorem erest_any (g B0 k t : Nat) (v u : Value) (E : List Rw) (x : Rw) (w : World) (hE : IsE w B0 g v k t E) (hu : IsRow w u x.1 x.2) (hx : Ro.Dim k t x) (hD : Ro.Dims k t E) (hL : Ro.Leads E) (hk : k ≤ 10000000) (ht : t ≤ 10000000) (hlen : E.length ≤ 1000000) :
    Calls Tryz.prog 71 #[.pointer (some ⟨g, 0, none⟩), u] w (RowsE w (Ro.rest E x).1 (Ro.rest E x).2 0) := by
  obtain ⟨v0, d0, rfl, hp, hq⟩ := hu
  have HP := Lib.hid hp
  have HQ := Lib.hid hq
  obtain ⟨a0, c0, rfl, _⟩ := hp
  obtain ⟨a1, c1, rfl, _⟩ := hq
  have HE := Lib.hid hE
  obtain ⟨va, vc, rfl⟩ := hE.2.1.shape
  have HX := Lib.hid hx
  have HD := Lib.hid hD
  have HL := Lib.hid hL
  have hb1 : ((x.1.length : Int) != (k : Int)) = false := by rw [hx.1]; simp
  have hb2 : ((x.2.length : Int) != (t : Int)) = false := by rw [hx.2.1]; simp
  have L1 : x.1.length ≤ 10000000 := by have := hx.1; omega
  have L2 : x.2.length ≤ 10000000 := by have := hx.2.1; omega
  clear hE hx hD hL
  go_enter Tryz.func71, Tryz.ntmps71
  go_wp2_with fail
  obtain ⟨B, hk1, hk2, hs⟩ := blocks2 w #[.slice a0 x.1.length c0, .slice a1 x.2.length c1] 46 #[.slice none 0 0, .slice none 0 0] 46
  generalize ((w.alloc (.cells #[.slice a0 x.1.length c0, .slice a1 x.2.length c1] 46)).alloc (.cells #[.slice none 0 0, .slice none 0 0] 46)) = W at *
  have K1 := Lib.hid hk1
  have K2 := Lib.hid hk2
  have HS := Lib.hid hs
  clear hs hk1 hk2
  replace HP := Lib.hid (HP.out.go B)
  replace HQ := Lib.hid (HQ.out.go B)
  replace HE := Lib.hid (HE.out.go B)
  have hzW := B.size
  obtain ⟨k10, k11⟩ := K1.out.two
  have k1l := K1.out.lt
  have k0 := HE.out.c0
  have k1 := HE.out.c1
  have kl := HE.out.lt
  go_quiet (skip)
  have hdn := below_drews W nq
  replace HP := Lib.hid (HP.out.go hdn)
  replace HQ := Lib.hid (HQ.out.go hdn)
  replace HE := Lib.hid (HE.out.go hdn)
  replace K1 := Lib.hid (K1.out.go hdn)
  replace K2 := Lib.hid (K2.out.go hdn)
  replace B := B.trans (hdn.mono B.size)
  clear hdn k10 k11 k0 k1 kl k1l
  generalize W.drewN nq = W3 at *
  obtain ⟨k10, k11⟩ := K1.out.two
  have k1l := K1.out.lt
  go_wp2_with fail
  refine (rowclone_any _ x.1 x.2 _ ⟨_, _, rfl, HP.out, HQ.out⟩ (by omega) (by omega)).mono ?_
  rintro e w4 ⟨u4, rfl, hu4, hb⟩
  replace HE := Lib.hid (HE.out.go hb)
  replace K2 := Lib.hid (K2.out.go hb)
  replace B := B.trans (hb.mono B.size)
  have hzw4 := B.size
  clear hb
  clear HP HQ K1 k10 k11 k1l
  obtain ⟨y0, y1, rfl, hp4, hq4⟩ := hu4
  have HP := Lib.hid hp4
  have HQ := Lib.hid hq4
  obtain ⟨a4, c4, rfl, _⟩ := hp4
  obtain ⟨a5, c5, rfl, _⟩ := hq4
  have k2 := HE.out.c2
  have kl := HE.out.lt
  go_wp2_with fail
  obtain ⟨g6, hg6⟩ : ∃ g6 : Nat, g6 = w4.heap.size := ⟨_, rfl⟩
  have HG6 := Lib.hid (show w.heap.size + 1 < g6 by have := K2.out.lt; omega)
  obtain ⟨hb, hk, hs⟩ := blocks1 w4 #[.slice a4 x.1.length c4, .slice a5 x.2.length c5] 46
  generalize w4.alloc (.cells #[.slice a4 x.1.length c4, .slice a5 x.2.length c5] 46) = W5 at *
  have K6 := Lib.hid hk
  replace HE := Lib.hid (HE.out.go hb)
  replace K2 := Lib.hid (K2.out.go hb)
  replace HP := Lib.hid (HP.out.go hb)
  replace HQ := Lib.hid (HQ.out.go hb)
  replace B := B.trans (hb.mono B.size)
  have hzW5 := B.size
  clear hb hk hs
  rw [← hg6] at K6
  simp only [← hg6]
  clear k2 kl hg6
  go_loopw [8, 38] (fun _ i wr => ∃ j : Nat, j ≤ E.length ∧ i = .int .i64 j ∧ Below w.heap.size w wr ∧ ERow wr g6 46 (Ro.rest (E.take j) x).1 (Ro.rest (E.take j) x).2 ∧ IsE wr B0 g (.slice va E.length vc) k t E ∧ Blk wr (w.heap.size + 1) #[.slice none 0 0, .slice none 0 0] 46) (fun _ i _ => E.length - (intOf i).toNat)
  case atStart => exact ⟨0, by omega, rfl, B, ⟨a4, c4, a5, c5, K6.out, _, _, rfl, HP.out, HQ.out⟩, HE.out, K2.out⟩
  case round =>
    clear K6 HP HQ HE K2 B hzW5
    obtain ⟨j, hj, rfl, B, hER, hE, hK⟩ := hrel
    have HE := Lib.hid hE
    have K2 := Lib.hid hK
    obtain ⟨ya, yc, za, zc, hk5, hr5⟩ := hER
    obtain ⟨_, _, er5, hyb, hzb⟩ := hr5
    simp only [Value.agg.injEq, Array.mk.injEq, List.cons.injEq, and_true] at er5
    obtain ⟨rfl, rfl⟩ := er5
    obtain ⟨y, hy⟩ : ∃ y, y = Ro.rest (E.take j) x := ⟨_, rfl⟩
    rw [← hy] at hk5 hyb hzb
    have HYD := Lib.hid (show Ro.Dim k t y by rw [hy]; exact Ro.rest_dim (HD.out.take j) HX.out)
    have HY := Lib.hid hy
    have K6 := Lib.hid hk5
    have HYB := Lib.hid hyb
    have HZB := Lib.hid hzb
    clear hy hk5 hyb hzb hE hK
    by_cases hjl : j < E.length
    · obtain ⟨g', c', er, hBg, hgl⟩ := HE.out.2.1.addr (by omega)
      simp only [Value.slice.injEq] at er
      obtain ⟨rfl, -, rfl⟩ := er
      obtain ⟨ra, rc, sa, sc, hr0, hr1, hr2, hrb, hsb⟩ := HE.out.2.1.cells j hjl
      have HRB := Lib.hid hrb
      have HSB := Lib.hid hsb
      have HDJ := Lib.hid (HD.out.at hjl)
      have HLJ := Lib.hid (HL.out.at hjl)
      have HNX := Lib.hid (show Ro.rest (E.take (j + 1)) x = Ro.step y (rwAt E j) by rw [Ro.rest_take_succ E x j hjl, ← HY.out])
      have j1 : (j : Int) < (E.length : Int) := by omega
      have j0 : (0 : Int) ≤ (j : Int) := Int.natCast_nonneg _
      clear hrb hsb
      obtain ⟨k60, k61⟩ := K6.out.two
      have k6l := K6.out.lt
      go_wp2_with fail
      clear k60 k61 k6l
      obtain ⟨hb, hk, hs⟩ := blocks1 wr #[.slice ra (rwAt E j).1.length rc, .slice sa (rwAt E j).2.length sc, .int .i64 (lead (rwAt E j).1 : Int)] 125
      generalize wr.alloc (.cells #[.slice ra (rwAt E j).1.length rc, .slice sa (rwAt E j).2.length sc, .int .i64 (lead (rwAt E j).1 : Int)] 125) = W6 at *
      have K8 := Lib.hid hk
      replace HE := Lib.hid (HE.out.go hb)
      replace K2 := Lib.hid (K2.out.go hb)
      replace K6 := Lib.hid (K6.out.go hb)
      replace HYB := Lib.hid (HYB.out.go hb)
      replace HZB := Lib.hid (HZB.out.go hb)
      replace HRB := Lib.hid (HRB.out.go hb)
      replace HSB := Lib.hid (HSB.out.go hb)
      replace B := B.trans (hb.mono B.size)
      have hzW6 := B.size
      clear hb hk hs
      clear hr0 hr1 hr2
      refine (ewithout_any _ _ y (rwAt E j) k t _ ⟨_, _, rfl, HYB.out, HZB.out⟩ ⟨_, _, rfl, HRB.out, HSB.out⟩ HYD.out HDJ.out hk ht HLJ.out).mono ?_
      rintro e w7 ⟨u7, rfl, hu7, hb⟩
      replace HE := Lib.hid (HE.out.go hb)
      replace K2 := Lib.hid (K2.out.go hb)
      replace K6 := Lib.hid (K6.out.go hb)
      replace B := B.trans (hb.mono B.size)
      have hzw7 := B.size
      clear hb
      obtain ⟨ua, uc, va', vc', rfl⟩ := hu7.shape
      obtain ⟨_, _, er7, hub, hvb⟩ := hu7
      simp only [Value.agg.injEq, Array.mk.injEq, List.cons.injEq, and_true] at er7
      obtain ⟨rfl, rfl⟩ := er7
      have HUB := Lib.hid hub
      have HVB := Lib.hid hvb
      clear hub hvb
      obtain ⟨k60, k61⟩ := K6.out.two
      have k6l := K6.out.lt
      obtain ⟨k6f0, k6f1⟩ := K6.out.fre2
      go_wp2_with fail
      obtain ⟨hg, hs, hER⟩ := store_box K6.out (noU8_two _ _ (slice_ne _ _ _) (slice_ne _ _ _)) HUB.out HVB.out
      have HE2 := Lib.hid hER
      have HB2 := Lib.hid (below_grown B hg B.size (by have := HG6.out; omega))
      have HK2 := Lib.hid (K2.out.grown hg (by have := HG6.out; simp; omega))
      have HO2 := Lib.hid (HE.out.other hg hs K6.out (by decide) (by decide))
      clear hg hs hER
      go_roundw
      case rel => exact ⟨j + 1, by omega, by go_num, HB2.out, by rw [HNX.out]; exact HE2.out, HO2.out, HK2.out⟩
      case measure => simp [intOf]; omega
    · obtain rfl : j = E.length := by omega
      rw [List.take_length] at HY
      obtain ⟨k60, k61⟩ := K6.out.two
      have k6l := K6.out.lt
      obtain ⟨k20, k21⟩ := K2.out.two
      have k2l := K2.out.lt
      obtain ⟨k2f0, k2f1⟩ := K2.out.fre2
      go_wp2_with fail
      obtain ⟨e0, e1, hB, hS⟩ := store2 K2.out (by omega) B (slice_ne _ _ _) (slice_ne _ _ _) (.slice ya y.1.length yc) (.slice za y.2.length zc)
      exact bodyPost_ret (v := .tuple #[.agg #[.slice ya y.1.length yc, .slice za y.2.length zc], I64 0]) (by simp [results, Tryz.results71, go_sem, e0, e1]) rfl
        ⟨_, rfl, ⟨_, _, rfl, by rw [← HY.out]; exact hS _ _ HYB.out, by rw [← HY.out]; exact hS _ _ HZB.out⟩, hB⟩

end Go.Proofs.YtphdadibfeencaaGreat

/-
  Slices that are made and filled, place by place: of slices of bytes, and of rows.
-/
set_option maxRecDepth 100000
namespace Go.Proofs.YtphdadibfeencaaGreat
open Go.RowKit

theorem madeTwice (z : Value) (n : Nat) : (madeCells #[z, z] n).toList = List.replicate n z := by
  apply List.ext_getElem?
  intro j
  by_cases hj : j < n
  · have : j % 2 = 0 ∨ j % 2 = 1 := by omega
    rcases this with h | h <;> simp [madeCells, hj, h]
  · simp [madeCells, hj]
theorem pairs_replicate (z : Value) : ∀ n : Nat, pairs (List.replicate n (z, z)) = List.replicate (n * 2) z
  | 0 => rfl
  | n + 1 => by
    rw [show (n + 1) * 2 = n * 2 + 1 + 1 by omega, List.replicate_succ, List.replicate_succ, List.replicate_succ]
    show z :: z :: pairs (List.replicate n (z, z)) = _
    rw [pairs_replicate z n]

theorem infoBytesSl : (Tryz.prog.info? 23).map (fun i => (i.zero, i.size, i.bytes)) = some (some (.slice none 0 0), 1, 24) := by kernel_rfl

/-- 'make([][]byte, n)'. -/
theorem make_rows (n : Nat) (hn : n ≤ 1000000000) (w : World) :
    (Instr.makeSlice 22 (.int .i64 (n : Int)) (.int .i64 (n : Int))).run Tryz.prog w = .ok (whole w.heap.size n) (w.alloc (.cells (Array.replicate n (.slice none 0 0)) 23)) := by
  obtain ⟨i0, hi, hz0, hz1, hz2⟩ := info_parts infoBytesSl
  have h := run_make (P := Tryz.prog) w 22 23 i0 _ Tryz.underlying22 hi hz0 .i64 .i64 (n : Int) (n : Int) (by omega) (by omega) (by rw [hz2]; omega) (by omega)
  rw [h]
  simp only [Int.toNat_natCast, hz1, Nat.mul_one]
  congr 3
  apply Array.toList_inj.1
  rw [show (Value.slice none 0 0).cells = #[.slice none 0 0] from rfl, toList_madeCells_one, Array.toList_replicate]
/-- 'make([]vec.Row, n)'. -/
theorem make_vrows (n : Nat) (hn : n ≤ 1000000000) (w : World) :
    (Instr.makeSlice 27 (.int .i64 (n : Int)) (.int .i64 (n : Int))).run Tryz.prog w = .ok (whole w.heap.size n) (w.alloc (.cells (Array.replicate (n * 2) (.slice none 0 0)) 46)) := by
  obtain ⟨i0, hi, hz0, hz1, hz2⟩ := info_parts infoVec
  have h := run_make (P := Tryz.prog) w 27 46 i0 _ Tryz.underlying27 hi hz0 .i64 .i64 (n : Int) (n : Int) (by omega) (by omega) (by rw [hz2]; omega) (by omega)
  rw [h]
  simp only [Int.toNat_natCast, hz1]
  congr 3
  apply Array.toList_inj.1
  rw [show (Value.agg #[.slice none 0 0, .slice none 0 0]).cells = #[.slice none 0 0, .slice none 0 0] from rfl, madeTwice, Array.toList_replicate]

theorem noU8_all {l : List Value} (h : ∀ x ∈ l, ∀ k : Nat, x ≠ U8 k) : ∀ (i n : Nat), l.toArray[i]? ≠ some (U8 n) := fun i n e => by
  rw [List.getElem?_toArray] at e
  exact h _ (List.mem_of_getElem? e) n rfl
theorem OwnM.made {w : World} {B g n : Nat} {T : TypeId} (h : Blk w g (Array.replicate n (.slice none 0 0)) T) (hB : B ≤ g) (hn : n ≤ 1000000000) : OwnM w B T (whole g n) (List.replicate n []) := by
  rw [show Array.replicate n (Value.slice none 0 0) = (List.replicate n (Value.slice none 0 0)).toArray by simp] at h
  have hE : EachB w (List.replicate n (.slice none 0 0)) (List.replicate n []) := ⟨by simp, fun i u hu => by
    have hu' := List.mem_of_getElem? hu
    rw [List.mem_replicate] at hu'
    rw [hu'.2]
    have : rowAt (List.replicate n []) i = [] := by
      unfold rowAt
      rw [List.getD_eq_getElem?_getD, List.getElem?_replicate]
      split <;> rfl
    rw [this]; exact Bytes.nil w⟩
  refine ⟨List.replicate n (.slice none 0 0), ⟨⟨by simp, .inr ⟨g, n, _, by simp, hB, h, by simp, by unfold maxLen; omega, by simp, by simp⟩⟩, fun k e => ?_⟩, hE⟩
  simp only [Value.ownBlock, Option.some.injEq] at e
  subst e
  exact Loose.of_blk h (noU8_all fun x hx => (hE.noU8 x hx).1)
theorem OwnM.addr {w : World} {B : Nat} {T : TypeId} {v : Value} {L : List (List Nat)} (h : OwnM w B T v L) (hne : 0 < L.length) : ∃ g c, v = .slice (some ⟨g, 0, none⟩) L.length c ∧ B ≤ g ∧ g < w.heap.size := by
  have h' := h
  obtain ⟨us, ⟨⟨_, h1⟩, _⟩, _⟩ := h
  rcases h1 with ⟨rfl, h0⟩ | ⟨g, cap, cur, rfl, hB, _⟩
  · omega
  · exact ⟨g, cap, rfl, hB, h'.lt g rfl⟩
theorem OwnM.free {w : World} {B g n c : Nat} {T : TypeId} {L : List (List Nat)} (h : OwnM w B T (.slice (some ⟨g, 0, none⟩) n c) L) (j : Nat) : w.frozen? ⟨g, j, none⟩ = false := by
  obtain ⟨a, c', e⟩ := h.shape
  simp only [Value.slice.injEq] at e
  obtain ⟨_, rfl, _⟩ := e
  obtain ⟨us, ⟨h1, _⟩, _⟩ := h
  exact World.ownsRow.frozenAt h1 j
theorem OwnM.cell {w : World} {B g n c : Nat} {T : TypeId} {L : List (List Nat)} (h : OwnM w B T (.slice (some ⟨g, 0, none⟩) n c) L) (k : Nat) (hk : k < L.length) : ∃ a d, w.cell? ⟨g, k, none⟩ = some (.slice a (rowAt L k).length d) ∧ Bytes w (.slice a (rowAt L k).length d) (rowAt L k) := by
  obtain ⟨u, hu, hb⟩ := h.rows.cell k hk
  rw [Nat.zero_add] at hu
  obtain ⟨a, d, rfl, _⟩ := id hb
  exact ⟨a, d, hu, hb⟩
/-- A slice of bytes stored at a place. -/
theorem OwnM.set {w : World} {B g n cap : Nat} {T : TypeId} {L : List (List Nat)} (h : OwnM w B T (.slice (some ⟨g, 0, none⟩) n cap) L) (k : Nat) (hk : k < L.length) {x : Value} {r : List Nat} (hx : Bytes w x r) :
    OwnM (w.setCell ⟨g, k, none⟩ x) B T (.slice (some ⟨g, 0, none⟩) n cap) (L.set k r) ∧ Soft w (w.setCell ⟨g, k, none⟩ x) ∧ w.grownBy (w.setCell ⟨g, k, none⟩ x) (some g) := by
  obtain ⟨a, c, e⟩ := h.shape
  simp only [Value.slice.injEq] at e
  obtain ⟨_, rfl, _⟩ := e
  obtain ⟨us, h1, h2⟩ := h
  obtain ⟨s1, hg⟩ := World.ownsRow.stored h1.1 k x
  have nx : ∀ m : Nat, x ≠ U8 m := by obtain ⟨a, c, rfl, _⟩ := hx; exact slice_ne _ _ _
  have hk' : k < us.length := by rw [h2.len]; exact hk
  obtain ⟨cur, fr, hcur⟩ : ∃ cur fr, w.heap[g]? = some (.cells cur T fr) := by
    rcases h1.1.2 with ⟨e, _⟩ | ⟨g', cap', cur, e, _, hgg, _⟩
    · cases e
    · simp only [Value.slice.injEq, Option.some.injEq, Addr.mk.injEq] at e
      obtain ⟨⟨rfl, _⟩, _⟩ := e
      exact ⟨cur, (0, 0), hgg⟩
  have hloose := h1.2 g rfl
  have hl2 : Loose (w.setCell ⟨g, k, none⟩ x) g := by
    intro i m
    have e1 : (w.setCell ⟨g, k, none⟩ x).heap[g]? = some (.cells (cur.setIfInBounds k x) T fr) := by
      unfold World.setCell
      simp [Array.getElem?_modify, hcur]
    rw [cell_of_row _ g i _ _ fr e1]
    have e2 := hloose i m
    rw [cell_of_row w g i cur T fr hcur] at e2
    rw [Array.getElem?_setIfInBounds]
    intro e3
    split at e3
    · split at e3
      · exact nx m (Option.some.inj e3)
      · cases e3
    · exact e2 e3
  have hs : Soft w (w.setCell ⟨g, k, none⟩ x) := Soft.of_grown hg fun b e => by
    simp only [Option.some.injEq] at e
    subst e; exact ⟨hloose, hl2⟩
  refine ⟨⟨us.set k x, ⟨?_, fun b e => ?_⟩, ⟨by simp [h2.len], fun i u hu => ?_⟩⟩, hs, hg⟩
  · rw [List.length_set]; exact s1
  · simp only [Value.ownBlock, Option.some.injEq] at e
    subst e; exact hl2
  · rw [List.getElem?_set] at hu
    by_cases hki : k = i
    · subst hki
      rw [if_pos rfl, if_pos hk'] at hu
      simp only [Option.some.injEq] at hu
      subst hu
      rw [show rowAt (L.set k r) k = r from by rw [rowAt_eq _ _ (by simpa using hk)]; simp]
      exact hx.soft hs
    · rw [if_neg hki] at hu
      rw [show rowAt (L.set k r) i = rowAt L i from by unfold rowAt; rw [List.getD_eq_getElem?_getD, List.getElem?_set, if_neg hki, ← List.getD_eq_getElem?_getD]]
      exact (h2.row i u hu).soft hs

/-- Rows filled in, as far as they are. -/
def fillM (R : List (List Nat)) (k : Nat) : List (List Nat) := R.take k ++ List.replicate (R.length - k) []
theorem fillM_length {R : List (List Nat)} {k : Nat} (h : k ≤ R.length) : (fillM R k).length = R.length := by simp [fillM]; omega
theorem fillM_zero (R : List (List Nat)) : fillM R 0 = List.replicate R.length [] := by simp [fillM]
theorem fillM_all (R : List (List Nat)) : fillM R R.length = R := by simp [fillM]
theorem fillM_set {R : List (List Nat)} {k : Nat} (h : k < R.length) : (fillM R k).set k (rowAt R k) = fillM R (k + 1) := by
  unfold fillM
  have e0 : (R.take k).length = k := by rw [List.length_take, Nat.min_eq_left (by omega)]
  rw [List.set_append_right _ _ (by omega), e0, Nat.sub_self, show R.length - k = (R.length - (k + 1)) + 1 by omega, List.replicate_succ, List.set_cons_zero, take_rowAt R k h, List.append_assoc]
  rfl

/-! ### Rows of two slices -/

theorem OwnL.made {w : World} {B g n : Nat} {T : TypeId} (h : Blk w g (Array.replicate (n * 2) (.slice none 0 0)) T) (hB : B ≤ g) (hn : n ≤ 1000000000) : OwnL w B T (whole g n) (List.replicate n ([], [])) := by
  rw [show Array.replicate (n * 2) (Value.slice none 0 0) = (pairs (List.replicate n (Value.slice none 0 0, Value.slice none 0 0))).toArray by rw [pairs_replicate]; simp] at h
  have hE : Each w (List.replicate n (.slice none 0 0, .slice none 0 0)) (List.replicate n ([], [])) := ⟨by simp, fun i u hu => by
    have hu' := List.mem_of_getElem? hu
    rw [List.mem_replicate] at hu'
    rw [hu'.2]
    have : rwAt (List.replicate n ([], [])) i = ([], []) := by
      unfold rwAt
      rw [List.getD_eq_getElem?_getD, List.getElem?_replicate]
      split <;> rfl
    rw [this]; exact ⟨Bytes.nil w, Bytes.nil w⟩⟩
  have hpl := pairs_length (List.replicate n (Value.slice none 0 0, Value.slice none 0 0))
  rw [List.length_replicate] at hpl
  refine ⟨List.replicate n (.slice none 0 0, .slice none 0 0), ⟨⟨by rw [hpl]; simp, .inr ⟨g, n, _, by simp, hB, h, by simp, by unfold maxLen; omega, by simpa using hpl, ?_⟩⟩, fun k e => ?_⟩, hE⟩
  · rw [List.length_replicate]
    exact List.take_of_length_le (by rw [hpl]; exact Nat.le_refl _)
  simp only [Value.ownBlock, Option.some.injEq] at e
  subst e
  exact Loose.of_blk h (noU8_all fun x hx => (hE.noU8 x hx).1)
def fillL (R : List Rw) (k : Nat) : List Rw := R.take k ++ List.replicate (R.length - k) ([], [])
theorem fillL_length {R : List Rw} {k : Nat} (h : k ≤ R.length) : (fillL R k).length = R.length := by simp [fillL]; omega
theorem fillL_zero (R : List Rw) : fillL R 0 = List.replicate R.length ([], []) := by simp [fillL]
theorem fillL_all (R : List Rw) : fillL R R.length = R := by simp [fillL]
theorem fillL_set {R : List Rw} {k : Nat} (h : k < R.length) : (fillL R k).set k (rwAt R k) = fillL R (k + 1) := by
  unfold fillL
  have e0 : (R.take k).length = k := by rw [List.length_take, Nat.min_eq_left (by omega)]
  rw [List.set_append_right _ _ (by omega), e0, Nat.sub_self, show R.length - k = (R.length - (k + 1)) + 1 by omega, List.replicate_succ, List.set_cons_zero, take_rwAt R k h, List.append_assoc]
  rfl

end Go.Proofs.YtphdadibfeencaaGreat

/-
  Grids in the program (layer 7): 'tooMany', 'cloned', 'Rows', 'Height', 'Width', 'Same'.
-/
set_option maxRecDepth 100000
namespace Go.Proofs.YtphdadibfeencaaGreat
open Go.RowKit

/-- The value is a grid of this width that reads as these rows. -/
def IsGrid (w : World) (u : Value) (m : Int) (ll : List (List Nat)) : Prop := ∃ a c, u = .agg #[.int .i64 m, .slice a ll.length c] ∧ IsRows w (.slice a ll.length c) ll
theorem IsGrid.go {w w' : World} {u : Value} {m : Int} {ll : List (List Nat)} (h : IsGrid w u m ll) (hb : Below w.heap.size w w') : IsGrid w' u m ll := by
  obtain ⟨a, c, e, h1⟩ := h; exact ⟨a, c, e, h1.go hb⟩
theorem IsGrid.mk {w : World} {v : Value} {m : Int} {ll : List (List Nat)} (h : IsRows w v ll) : IsGrid w (.agg #[.int .i64 m, v]) m ll := by
  obtain ⟨a, c, rfl⟩ := h.shape
  exact ⟨a, c, rfl, h⟩
theorem int_ne (k : IntKind) (x : Int) (h : k ≠ .u8) : ∀ n : Nat, Value.int k x ≠ U8 n := fun n e => by
  simp only [Value.int.injEq] at e
  exact h e.1
/-- A grid whose rows stand in a block of B or later. -/
def GridO (w : World) (B : Nat) (u : Value) (m : Int) (ll : List (List Nat)) : Prop := ∃ v, u = .agg #[.int .i64 m, v] ∧ OwnM w B 23 v ll
theorem GridO.go {w w' : World} {B : Nat} {u : Value} {m : Int} {ll : List (List Nat)} (h : GridO w B u m ll) (hb : Below w.heap.size w w') : GridO w' B u m ll := by
  obtain ⟨v, e, h1⟩ := h; exact ⟨v, e, h1.go hb⟩
theorem GridO.grid {w : World} {B : Nat} {u : Value} {m : Int} {ll : List (List Nat)} (h : GridO w B u m ll) : IsGrid w u m ll := by
  obtain ⟨v, rfl, h1⟩ := h; exact IsGrid.mk h1.rows
theorem GridO.zero (w : World) (B : Nat) : GridO w B (.agg #[.int .i64 0, .slice none 0 0]) 0 [] := ⟨_, rfl, OwnM.nil _ _ _⟩
def GridE (w : World) (m : Int) (ll : List (List Nat)) (err : Int) (e : Ending) (w' : World) : Prop := ∃ u, e = .returned (.tuple #[u, I64 err]) ∧ GridO w' w.heap.size u m ll ∧ Below w.heap.size w w'

theorem many_spell (h m : Int) (h0' : 0 ≤ h) (h0 : 0 ≤ m) : decide (65536 / max 1 m < h) = decide (65536 < h ∨ 65536 < h * m) := by
  rw [decide_eq_decide]
  rcases Int.lt_or_le m 1 with hm | hm
  · have : m = 0 := by omega
    subst this
    have : max (1 : Int) 0 = 1 := by decide
    rw [this]
    simp
  · rw [Int.max_eq_right hm]
    have h2 := Int.ediv_lt_iff_lt_mul (a := 65536) (b := h) (show (0 : Int) < m by omega)
    rw [h2]
    constructor
    · intro h; exact .inr h
    · rintro (hh | hh)
      · have : h * 1 ≤ h * m := Int.mul_le_mul_of_nonneg_left (show (1 : Int) ≤ m by omega) h0'
        omega
      · exact hh

set_option maxHeartbeats 1000000 in
theorem many_any (h m : Int) (w : World) (h0 : 0 ≤ h) (m0 : 0 ≤ m) (m1 : m ≤ 1000000) :
    Calls Tryz.prog 38 #[.int .i64 h, .int .i64 m] w fun e w' => e = .returned (.bool (decide (65536 < h ∨ 65536 < h * m))) ∧ w = w' := by
  rw [← many_spell h m h0 m0]
  go_enter Tryz.func38, Tryz.ntmps38
  go_wp2_with fail
  go_ret
  exact ⟨rfl, rfl⟩

set_option maxHeartbeats 1000000 in
theorem cloned_any (v : Value) (ll : List (List Nat)) (w : World) (hR : IsRows w v ll) (hlen : ll.length ≤ 1000000000) (hl : ∀ i, i < ll.length → (rowAt ll i).length ≤ 1000000000) :
    Calls Tryz.prog 41 #[v] w fun e w' => ∃ v', e = .returned v' ∧ OwnM w' w.heap.size 23 v' ll ∧ Below w.heap.size w w' := by
  have HR := Lib.hid hR
  have HW := Lib.hid hl
  obtain ⟨a, c, rfl⟩ := hR.shape
  have hmk := make_rows ll.length hlen
  clear hR hl
  go_enter Tryz.func41, Tryz.ntmps41
  go_wp2_with fail
  obtain ⟨B, hk, hs⟩ := blocks1 w (Array.replicate ll.length (.slice none 0 0)) 23
  generalize w.alloc (.cells (Array.replicate ll.length (.slice none 0 0)) 23) = W at *
  have HM := Lib.hid (OwnM.made hk (Nat.le_refl _) hlen)
  clear hk hs hmk
  go_loopw [4, 5, 11] (fun _ _ i wr => ∃ k : Nat, k ≤ ll.length ∧ i = .int .i64 k ∧ Below w.heap.size w wr ∧ OwnM wr w.heap.size 23 (whole w.heap.size ll.length) (fillM ll k)) (fun _ _ i _ => ll.length - (intOf i).toNat)
  case atStart => exact ⟨0, by omega, rfl, B, by rw [fillM_zero]; exact HM.out⟩
  case round =>
    clear B HM
    obtain ⟨k, hk, rfl, B, hO⟩ := hrel
    have HO := Lib.hid hO
    clear hO
    have hz := B.size
    by_cases hlt : k < ll.length
    · obtain ⟨b, off, u, rfl, hu, hBr⟩ := HR.out.row B k hlt
      have HBR := Lib.hid hBr
      obtain ⟨ua, uc, rfl, _⟩ := hBr
      have k0 : (0 : Int) ≤ (k : Int) := Int.natCast_nonneg _
      have k1 : (k : Int) < (ll.length : Int) := by omega
      have HK := Lib.hid (show k < (fillM ll k).length by rw [fillM_length hk]; exact hlt)
      have HS := Lib.hid (fillM_set hlt)
      go_wp2_with fail
      refine (clone_any _ (rowAt ll k) _ (HW.out k hlt) HBR.out).mono ?_
      rintro e w2 ⟨v2, rfl, hv2, hb⟩
      replace HO := Lib.hid (HO.out.go hb)
      replace B := B.trans (hb.mono B.size)
      have hzw2 := B.size
      clear hb
      have HV := Lib.hid hv2
      obtain ⟨xa, xc, rfl, _⟩ := hv2
      obtain ⟨a9, d9, c9, _⟩ := HO.out.cell k HK.out
      have f9 := HO.out.free k
      go_wp2_with fail
      obtain ⟨o1, s1, g1⟩ := HO.out.set k HK.out HV.out
      rw [HS.out] at o1
      have HO1 := Lib.hid o1
      have HB1 := Lib.hid (below_grown B g1 B.size (Nat.le_refl _))
      clear o1 s1 g1
      go_roundw
      case rel => exact ⟨k + 1, by omega, by go_num, HB1.out, HO1.out⟩
      case measure => simp [intOf]; omega
    · obtain rfl : k = ll.length := by omega
      rw [fillM_all] at HO
      go_wp2_with fail
      go_ret
      exact ⟨_, rfl, HO.out, B⟩

end Go.Proofs.YtphdadibfeencaaGreat

/-
  A region that draws its order, makes a grid, and stores it at last into a box that was there.
-/
set_option maxRecDepth 100000
namespace Go.Proofs.YtphdadibfeencaaGreat
open Go.RowKit

section
variable {P : Program} {C : World → Prop} {R : World → World → Prop} {H : Nat → World → World → Prop} {a : Act} {w : World} {o : Oper} {Q : Exit → Act → World → Prop}
/-- A struct of two. -/
theorem ob_build2 {T : Ty C R H} {t : Tmp} {x y : Operand} {E : TypeId} {p q : Value} (v : Value) (hS : T.S = [t]) (hh : T.kind = none) (hd : o.dst = some t) (hlt : t < a.tmps.size) (hop : o.op = .build E #[(0, x), (1, y)]) (hx : a.eval x = p) (hy : a.eval y = q)
    (hrun : (Instr.build E #[(0, p), (1, q)]).run P w = .ok v w) (hR : R w w) (hF : T.F [v] w) : Done P T Q o a w := by
  refine ob_value v w hS hh hd hlt ?_ hR hF
  simp [execOp, hop, hx, hy, hrun]
end
theorem build_grid {m : Int} {a : Option Addr} {n c : Nat} {w : World} : (Instr.build 60 #[(0, .int .i64 m), (1, .slice a n c)]).run Tryz.prog w = .ok (.agg #[.int .i64 m, .slice a n c]) w := by
  go_simp

/-- The box holds such a grid. -/
def GridIn (w : World) (g B : Nat) (m : Int) (ll : List (List Nat)) : Prop := ∃ a c, Blk w g #[.int .i64 m, .slice a ll.length c] 60 ∧ OwnM w B 23 (.slice a ll.length c) ll
theorem GridIn.go {w w' : World} {g B : Nat} {m : Int} {ll : List (List Nat)} (h : GridIn w g B m ll) (hb : Below w.heap.size w w') : GridIn w' g B m ll := by
  obtain ⟨a, c, h1, h2⟩ := h; exact ⟨a, c, h1.go hb, h2.go hb⟩

section
variable {W : World} {g : Nat}
def is0 : Nat → Bool := fun c => decide (c = 0)
/-- What stays where block g alone is written, and no byte turned. -/
def TyE.fact (t : Tmp) (F : Value → World → Prop) (h : ∀ v w w', Below w.heap.size w w' → F v w → F v w') (k : ∀ v w w', w.grownBy w' (some g) → Soft w w' → F v w → F v w') : Ty (Ce W g) Rb (He W g) :=
  ⟨[t], fun vs w => F (vs.headD undef) w, none, is0, fun _ _ _ _ h2 h3 => h _ _ _ h2 h3, fun c hc _ _ _ _ h2 h3 => by
    unfold He at h2
    rw [if_pos (by simpa [is0] using hc)] at h2
    exact k _ _ _ h2.1 h2.2 h3, fun _ => True, fun _ => true, fun _ _ _ _ _ => trivial, fun _ _ _ _ _ _ _ => trivial⟩
theorem OwnM.past {w w' : World} {B g : Nat} {T : TypeId} {v : Value} {ll : List (List Nat)} (h : OwnM w B T v ll) (hg : g < B) (k : w.grownBy w' (some g)) (hs : Soft w w') : OwnM w' B T v ll :=
  h.other k hs (.inr fun e => by
    have := h.from g e
    omega)
def TyE.rowsm (t : Tmp) (B : Nat) (hg : g < B) (ll : List (List Nat)) : Ty (Ce W g) Rb (He W g) := TyE.fact t (fun v w => OwnM w B 23 v ll) (fun _ _ _ hb h => h.go hb) fun _ _ _ k hs h => h.past hg k hs
def TyE.grido (t : Tmp) (B : Nat) (hg : g < B) (m : Int) (ll : List (List Nat)) : Ty (Ce W g) Rb (He W g) := TyE.fact t (fun v w => GridO w B v m ll) (fun _ _ _ hb h => h.go hb) fun _ _ _ k hs ⟨v, e, h⟩ => ⟨v, e, h.past hg k hs⟩
def TyE.storesF (Pre Post : World → Prop) (hp : ∀ w w', Below w.heap.size w w' → Pre w → Pre w') (hq : ∀ w w', Below w.heap.size w w' → Post w → Post w') : Ty (Ce W g) Rb (He W g) :=
  ⟨[], fun _ w => Post w, some 0, fun _ => false, fun _ _ _ _ h2 h3 => hq _ _ h2 h3, (fun _ e => by cases e), Pre, fun _ => false, fun _ _ _ h2 h3 => hp _ _ h2 h3, (fun _ e => by cases e)⟩
def TyE.storesGrid (u v : Value) (B : Nat) (m : Int) (ll : List (List Nat)) : Ty (Ce W g) Rb (He W g) :=
  TyE.storesF (fun w => Blk w g #[u, v] 60) (fun w => GridIn w g B m ll) (fun _ _ hb h => h.go hb) fun _ _ hb h => h.go hb
end

/-- A grid stored into its box. -/
theorem store_grid {w : World} {g B : Nat} {u v x : Value} {m : Int} {ll : List (List Nat)} (hk : Blk w g #[u, v] 60) (hu : ∀ n : Nat, u ≠ U8 n) (hv : ∀ n : Nat, v ≠ U8 n) (hB : g < B) (hO : OwnM w B 23 x ll) :
    (w.grownBy ((w.setCell ⟨g, 0, none⟩ (.int .i64 m)).setCell ⟨g, 1, none⟩ x) (some g) ∧ Soft w ((w.setCell ⟨g, 0, none⟩ (.int .i64 m)).setCell ⟨g, 1, none⟩ x)) ∧ GridIn ((w.setCell ⟨g, 0, none⟩ (.int .i64 m)).setCell ⟨g, 1, none⟩ x) g B m ll := by
  have hgr : w.grownBy ((w.setCell ⟨g, 0, none⟩ (.int .i64 m)).setCell ⟨g, 1, none⟩ x) (some g) := grown_trans (grown_setCell w ⟨g, 0, none⟩ _) (grown_setCell _ ⟨g, 1, none⟩ _)
  obtain ⟨a, c, rfl⟩ := hO.shape
  have h2 := hk.set2 (.int .i64 m) (.slice a ll.length c)
  have hs := Soft.of_box hgr hk (no_bytes2 _ _ hu hv) h2 (no_bytes2 _ _ (int_ne _ _ (by decide)) (slice_ne _ _ _))
  exact ⟨⟨hgr, hs⟩, a, c, h2, hO.past hB hgr hs⟩

set_option maxHeartbeats 400000 in
theorem ob_storesGrid {W : World} {g B : Nat} {a : Act} {w : World} {o : Oper} {Q : Exit → Act → World → Prop} {x y : Operand} {u v : Value} {m : Int} {ll : List (List Nat)} (hop : o.op = .store 60 x y) (hx : a.eval x = .pointer (some ⟨g, 0, none⟩)) (hV : GridO w B (a.eval y) m ll)
    (hk : Blk w g #[u, v] 60) (hu : ∀ n : Nat, u ≠ U8 n) (hv : ∀ n : Nat, v ≠ U8 n) (hB : g < B) : Done Tryz.prog (TyE.storesGrid (W := W) (g := g) u v B m ll) Q o a w := by
  obtain ⟨p, e, hO⟩ := hV
  obtain ⟨k1, k2⟩ := store_grid (m := m) hk hu hv hB hO
  obtain ⟨c0, c1⟩ := hk.two
  obtain ⟨f0, f1⟩ := hk.fre2
  obtain ⟨pa, pc, rfl⟩ := hO.shape
  refine ob_store0 ((w.setCell ⟨g, 0, none⟩ (.int .i64 m)).setCell ⟨g, 1, none⟩ (.slice pa ll.length pc)) rfl rfl hop hx e ?_ (by unfold He; rw [if_pos rfl]; exact k1) k2
  clear k1 k2 hO hk hu hv hB
  go_simp

end Go.Proofs.YtphdadibfeencaaGreat
