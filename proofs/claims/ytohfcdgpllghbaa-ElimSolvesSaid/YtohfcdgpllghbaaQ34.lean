/- Texts of one seat, laid together: ElimK, ElimL, ElimI, LawEightE. -/
import Derived.Test.YtohfcdgpllghbaaQ33
import Derived.Test.YtohfcdgpllghbaaQ31

/-
  Systems of equations in the program (layer 8): lists of rows that are made, and filled.
-/
set_option maxRecDepth 100000
namespace Go.Proofs.Ytohfcdgpllghbaa
open Go.RowKit

theorem madeTrips (z : Value) (n : Nat) : (madeCells #[z, z, .int .i64 0] (n * 3)).toList = trips (List.replicate n (z, z)) (List.replicate n ([], [])) := by
  have hl := trips_length (List.replicate n (z, z)) (List.replicate n ([], [])) (by simp)
  rw [List.length_replicate] at hl
  apply List.ext_getElem?
  intro j
  by_cases hj : j < n * 3
  · have hi : j / 3 < n := by omega
    obtain ⟨e0, e1, e2⟩ := trips_get (List.replicate n (z, z)) (List.replicate n ([], [])) (j / 3) (z, z) (by simp) (by rw [List.getElem?_replicate, if_pos hi])
    have hr : rwAt (List.replicate n ([], [])) (j / 3) = ([], []) := by
      unfold rwAt
      rw [List.getD_eq_getElem?_getD, List.getElem?_replicate, if_pos hi]; rfl
    rw [hr] at e2
    have : j % 3 = 0 ∨ j % 3 = 1 ∨ j % 3 = 2 := by omega
    rcases this with h | h | h
    · rw [show j / 3 * 3 = j by omega] at e0
      rw [e0]; simp [madeCells, hj, h]
    · rw [show j / 3 * 3 + 1 = j by omega] at e1
      rw [e1]; simp [madeCells, hj, h]
    · rw [show j / 3 * 3 + 2 = j by omega] at e2
      rw [e2]; simp [madeCells, hj, h, lead]
  · rw [List.getElem?_eq_none (l := trips _ _) (by rw [hl]; omega)]; simp [madeCells, hj]

/-- 'make([]led, n)'. -/
theorem make_leds (n : Nat) (hn : n ≤ 1000000000) (w : World) :
    (Instr.makeSlice 102 (.int .i64 (n : Int)) (.int .i64 (n : Int))).run Try.prog w = .ok (whole w.heap.size n) (w.alloc (.cells (trips (List.replicate n (.slice none 0 0, .slice none 0 0)) (List.replicate n ([], []))).toArray 106)) := by
  obtain ⟨i0, hi, hz0, hz1, hz2⟩ := info_parts infoLed
  have h := run_make (P := Try.prog) w 102 106 i0 _ Try.underlying102 hi hz0 .i64 .i64 (n : Int) (n : Int) (by omega) (by omega) (by rw [hz2]; omega) (by omega)
  rw [h]
  simp only [Int.toNat_natCast, hz1]
  congr 3
  apply Array.toList_inj.1
  rw [show (Value.agg #[.slice none 0 0, .slice none 0 0, .int .i64 0]).cells = #[.slice none 0 0, .slice none 0 0, .int .i64 0] from rfl, madeTrips]
theorem OwnE.made {w : World} {B g n : Nat} (h : Blk w g (trips (List.replicate n (.slice none 0 0, .slice none 0 0)) (List.replicate n ([], []))).toArray 106) (hB : B ≤ g) (hn : n ≤ 1000000000) : OwnE w B (whole g n) (List.replicate n ([], [])) := by
  have hE : Each w (List.replicate n (.slice none 0 0, .slice none 0 0)) (List.replicate n ([], [])) := ⟨by simp, fun i u hu => by
    have hu' := List.mem_of_getElem? hu
    rw [List.mem_replicate] at hu'
    rw [hu'.2]
    have : rwAt (List.replicate n ([], [])) i = ([], []) := by
      unfold rwAt
      rw [List.getD_eq_getElem?_getD, List.getElem?_replicate]
      split <;> rfl
    rw [this]; exact ⟨Bytes.nil w, Bytes.nil w⟩⟩
  have hpl := trips_length (List.replicate n (Value.slice none 0 0, Value.slice none 0 0)) (List.replicate n ([], [])) (by simp)
  rw [List.length_replicate] at hpl
  refine ⟨List.replicate n (.slice none 0 0, .slice none 0 0), ⟨⟨by rw [hpl]; simp, .inr ⟨g, n, _, by simp, hB, h, by simp, by unfold maxLen; omega, by simpa using hpl, ?_⟩⟩, fun k e => ?_⟩, hE⟩
  · rw [List.length_replicate]
    exact List.take_of_length_le (by rw [hpl]; exact Nat.le_refl _)
  simp only [Value.ownBlock, Option.some.injEq] at e
  subst e
  exact Loose.of_blk h (noU8_all fun x hx => (hE.noU8e x hx).1)
theorem trips_set3 {x y : Value} {r : Rw} : ∀ (us : List (Value × Value)) (E : List Rw) (k : Nat), us.length = E.length → k < us.length → (((trips us E).set (k * 3) x).set (k * 3 + 1) y).set (k * 3 + 2) (.int .i64 (lead r.1 : Int)) = trips (us.set k (x, y)) (E.set k r)
  | [], _, k, _, h => by simp at h
  | u :: us, [], _, h, _ => by simp at h
  | u :: us, s :: E, 0, _, _ => by simp [trips]
  | u :: us, s :: E, k + 1, hl, hk => by
    rw [show (k + 1) * 3 = k * 3 + 1 + 1 + 1 by omega, show k * 3 + 1 + 1 + 1 + 1 = (k * 3 + 1) + 1 + 1 + 1 by omega, show k * 3 + 1 + 1 + 1 + 2 = (k * 3 + 2) + 1 + 1 + 1 by omega]
    simp only [trips, List.set_cons_succ]
    rw [trips_set3 us E k (by simpa using hl) (by simpa using hk)]
theorem loose_set {w : World} {g i : Nat} {x : Value} (hl : Loose w g) {cur : Array Value} {T : TypeId} {fr : Nat × Nat} (hcur : w.heap[g]? = some (.cells cur T fr)) (nx : ∀ m : Nat, x ≠ U8 m) :
    Loose (w.setCell ⟨g, i, none⟩ x) g ∧ (w.setCell ⟨g, i, none⟩ x).heap[g]? = some (.cells (cur.setIfInBounds i x) T fr) := by
  have e1 : (w.setCell ⟨g, i, none⟩ x).heap[g]? = some (.cells (cur.setIfInBounds i x) T fr) := by
    unfold World.setCell
    simp [Array.getElem?_modify, hcur]
  refine ⟨fun j m => ?_, e1⟩
  rw [cell_of_row _ g j _ _ fr e1]
  have e2 := hl j m
  rw [cell_of_row w g j cur T fr hcur] at e2
  rw [Array.getElem?_setIfInBounds]
  intro e3
  split at e3
  · split at e3
    · exact nx m (Option.some.inj e3)
    · cases e3
  · exact e2 e3
/-- A row is stored at its place. -/
theorem OwnE.set3 {w : World} {B g n cap : Nat} {E : List Rw} (h : OwnE w B (.slice (some ⟨g, 0, none⟩) n cap) E) (k : Nat) (hk : k < E.length) {x y : Value} {r : Rw} (hx : Bytes w x r.1) (hy : Bytes w y r.2) :
    OwnE (((w.setCell ⟨g, k * 3, none⟩ x).setCell ⟨g, k * 3 + 1, none⟩ y).setCell ⟨g, k * 3 + 2, none⟩ (.int .i64 (lead r.1 : Int))) B (.slice (some ⟨g, 0, none⟩) n cap) (E.set k r) ∧ Soft w (((w.setCell ⟨g, k * 3, none⟩ x).setCell ⟨g, k * 3 + 1, none⟩ y).setCell ⟨g, k * 3 + 2, none⟩ (.int .i64 (lead r.1 : Int))) ∧
      w.grownBy (((w.setCell ⟨g, k * 3, none⟩ x).setCell ⟨g, k * 3 + 1, none⟩ y).setCell ⟨g, k * 3 + 2, none⟩ (.int .i64 (lead r.1 : Int))) (some g) := by
  obtain ⟨a, c, e⟩ := h.shape
  simp only [Value.slice.injEq] at e
  obtain ⟨_, rfl, _⟩ := e
  obtain ⟨us, h1, h2⟩ := h
  obtain ⟨s1, g1⟩ := World.ownsRow.stored h1.1 (k * 3) x
  obtain ⟨s2, g2⟩ := World.ownsRow.stored s1 (k * 3 + 1) y
  obtain ⟨s3, g3⟩ := World.ownsRow.stored s2 (k * 3 + 2) (.int .i64 (lead r.1 : Int))
  have hg := grown_trans (grown_trans g1 g2) g3
  have nx : ∀ m : Nat, x ≠ U8 m := by obtain ⟨a, c, rfl, _⟩ := hx; exact slice_ne _ _ _
  have ny : ∀ m : Nat, y ≠ U8 m := by obtain ⟨a, c, rfl, _⟩ := hy; exact slice_ne _ _ _
  have nz : ∀ m : Nat, Value.int .i64 (lead r.1 : Int) ≠ U8 m := fun m e => by cases e
  have hk' : k < us.length := by rw [h2.len]; exact hk
  rw [trips_set3 us E k h2.len hk'] at s3
  obtain ⟨cur, fr, hcur⟩ : ∃ cur fr, w.heap[g]? = some (.cells cur 106 fr) := by
    rcases h1.1.2 with ⟨e, _⟩ | ⟨g', cap', cur, e, _, hgg, _⟩
    · cases e
    · simp only [Value.slice.injEq, Option.some.injEq, Addr.mk.injEq] at e
      obtain ⟨⟨rfl, _⟩, _⟩ := e
      exact ⟨cur, (0, 0), hgg⟩
  have hloose := h1.2 g rfl
  obtain ⟨l1, c1⟩ := loose_set hloose hcur (i := k * 3) nx
  obtain ⟨l2, c2⟩ := loose_set l1 c1 (i := k * 3 + 1) ny
  obtain ⟨l3, c3⟩ := loose_set l2 c2 (i := k * 3 + 2) nz
  have hs : Soft w (((w.setCell ⟨g, k * 3, none⟩ x).setCell ⟨g, k * 3 + 1, none⟩ y).setCell ⟨g, k * 3 + 2, none⟩ (.int .i64 (lead r.1 : Int))) := Soft.of_grown hg fun b e => by
    simp only [Option.some.injEq] at e
    subst e; exact ⟨hloose, l3⟩
  refine ⟨⟨us.set k (x, y), ⟨?_, fun b e => ?_⟩, ⟨by simp [h2.len], fun i u hu => ?_⟩⟩, hs, hg⟩
  · rw [List.length_set]; exact s3
  · simp only [Value.ownBlock, Option.some.injEq] at e
    subst e; exact l3
  · rw [List.getElem?_set] at hu
    by_cases hki : k = i
    · subst hki
      rw [if_pos rfl, if_pos hk'] at hu
      simp only [Option.some.injEq] at hu
      subst hu
      rw [show rwAt (E.set k r) k = r from by rw [rwAt_eq _ _ (by simpa using hk)]; simp]
      exact ⟨hx.soft hs, hy.soft hs⟩
    · rw [if_neg hki] at hu
      rw [show rwAt (E.set k r) i = rwAt E i from by unfold rwAt; rw [List.getD_eq_getElem?_getD, List.getElem?_set, if_neg hki, ← List.getD_eq_getElem?_getD]]
      have := h2.row i u hu
      exact ⟨this.1.soft hs, this.2.soft hs⟩
set_option maxHeartbeats 400000 in
theorem ob_storesE3 {W : World} {g n cap B k : Nat} {L : List Rw} (hg : ∀ k, (Value.slice (some ⟨g, 0, none⟩) n cap).ownBlock = some k → k < W.heap.size) {a : Act} {w : World} {o : Oper} {Q : Exit → Act → World → Prop} {x y : Operand} {r : Rw} (hop : o.op = .store 106 x y) (hx : a.eval x = .pointer (some ⟨g, k * 3, none⟩)) (hV : IsLed w (a.eval y) r)
    (hk : k < L.length) (hO : OwnE w B (.slice (some ⟨g, 0, none⟩) n cap) L) : Done Try.prog (TyE.storesE (W := W) (g := g) (.slice (some ⟨g, 0, none⟩) n cap) hg B L (L.set k r)) Q o a w := by
  obtain ⟨a1, c1, a2, c2, e⟩ := hV.shape
  rw [e] at hV
  obtain ⟨_, _, er, hb1, hb2⟩ := hV
  simp only [Value.agg.injEq, Array.mk.injEq, List.cons.injEq, and_true] at er
  obtain ⟨rfl, rfl⟩ := er
  obtain ⟨k1, k2, k3⟩ := hO.set3 k hk hb1 hb2
  obtain ⟨b1, d1, b2, d2, e0, e1, e2, _, _⟩ := hO.cells k hk
  have f0 := hO.free (k * 3)
  have f1 := hO.free (k * 3 + 1)
  have f2 := hO.free (k * 3 + 2)
  refine ob_store0 (((w.setCell ⟨g, k * 3, none⟩ (.slice a1 r.1.length c1)).setCell ⟨g, k * 3 + 1, none⟩ (.slice a2 r.2.length c2)).setCell ⟨g, k * 3 + 2, none⟩ (.int .i64 (lead r.1 : Int))) rfl rfl hop hx e ?_ (by unfold He; rw [if_pos rfl]; exact ⟨k3, k2⟩) k1
  clear k1 k2 k3 hO hb1 hb2
  go_simp

end Go.Proofs.Ytohfcdgpllghbaa

/-
  Systems of equations in the program (layer 8): 'Clone'.
-/
set_option maxRecDepth 100000
namespace Go.Proofs.Ytohfcdgpllghbaa
open Go.RowKit

theorem eclone_nil (w : World) :
    Calls Try.prog 32 #[.pointer none] w fun e w' => e = .returned (.pointer none) ∧ Below w.heap.size w w' := by
  go_enter Try.func32, Try.ntmps32
  go_wp2_with fail
  go_ret
  exact ⟨rfl, Below.refl _ _⟩
theorem len_leds (ad : Option Addr) (n c : Nat) (w : World) : (Builtin.len_ #[102] 102 #[.slice ad n c]).run Try.prog w = .ok (.int .i64 n) w := by go_simp
section
variable {P : Program} {C : World → Prop} {R : World → World → Prop} {H : Nat → World → World → Prop} {a : Act} {w : World} {o : Oper} {Q : Exit → Act → World → Prop}
/-- A struct of three. -/
theorem ob_build3 {T : Ty C R H} {t : Tmp} {x y z : Operand} {E : TypeId} {p q r : Value} (v : Value) (hS : T.S = [t]) (hh : T.kind = none) (hd : o.dst = some t) (hlt : t < a.tmps.size) (hop : o.op = .build E #[(0, x), (1, y), (2, z)]) (hx : a.eval x = p) (hy : a.eval y = q) (hz : a.eval z = r)
    (hrun : (Instr.build E #[(0, p), (1, q), (2, r)]).run P w = .ok v w) (hR : R w w) (hF : T.F [v] w) : Done P T Q o a w := by
  refine ob_value v w hS hh hd hlt ?_ hR hF
  simp [execOp, hop, hx, hy, hz, hrun]
end
theorem build_elim {k t : Int} {a : Option Addr} {n c : Nat} {w : World} : (Instr.build 104 #[(0, .int .i64 k), (1, .int .i64 t), (2, .slice a n c)]).run Try.prog w = .ok (.agg #[.int .i64 k, .int .i64 t, .slice a n c]) w := by
  go_simp
/-- The pointer of a system that was made. -/
def NewE (B k t : Nat) (E : List Rw) (v : Value) (w : World) : Prop := ∃ g u, v = .pointer (some ⟨g, 0, none⟩) ∧ IsE w B g u k t E
theorem NewE.go {B k t : Nat} {E : List Rw} {v : Value} {w w' : World} (hb : Below w.heap.size w w') (h : NewE B k t E v w) : NewE B k t E v w' := by
  obtain ⟨g, u, e, h⟩ := h; exact ⟨g, u, e, h.go hb⟩
def AggE (B k t : Nat) (E : List Rw) (v : Value) (w : World) : Prop := ∃ u, v = .agg #[.int .i64 (k : Int), .int .i64 (t : Int), u] ∧ OwnE w B u E
theorem AggE.go {B k t : Nat} {E : List Rw} {v : Value} {w w' : World} (hb : Below w.heap.size w w') (h : AggE B k t E v w) : AggE B k t E v w' := by
  obtain ⟨u, e, h⟩ := h; exact ⟨u, e, h.go hb⟩

set_option maxHeartbeats 4000000 in
theorem eclone_any (g B0 k t : Nat) (v : Value) (E : List Rw) (w : World) (hE : IsE w B0 g v k t E) (hD : Ro.Dims k t E) (hk : k ≤ 10000000) (ht : t ≤ 10000000) (hlen : E.length ≤ 1000000) :
    Calls Try.prog 32 #[.pointer (some ⟨g, 0, none⟩)] w fun e w' => ∃ g' v', e = .returned (.pointer (some ⟨g', 0, none⟩)) ∧ IsE w' w.heap.size g' v' k t E ∧ Below w.heap.size w w' := by
  have HE := Lib.hid hE
  obtain ⟨va, vc, rfl⟩ := hE.2.1.shape
  have HD := Lib.hid hD
  have HVL := Lib.hid hE.2.1.lt
  have HG0 := Lib.hid hE.1.lt
  have hlen' : E.length ≤ 1000000000 := by omega
  clear hE hD
  go_enter Try.func32, Try.ntmps32
  go_wp2_with fail
  have B : Below w.heap.size w w := Below.refl _ _
  obtain ⟨E0, hE0⟩ : ∃ E0 : List Rw, E0 = List.replicate E.length ([], []) := ⟨_, rfl⟩
  have HE0 := Lib.hid hE0
  have HL0 := Lib.hid (show E0.length = E.length by rw [hE0]; simp)
  clear hE0
  refine wp_region_mono (C := Cb w) (R := Rb) (H := Hz) [TyZ.val 8 (.pointer (some ⟨g, 0, none⟩)), TyZ.val 9 (.pointer (some ⟨g, 0, none⟩)), TyZ.val 10 (.pointer (some ⟨g, 0, none⟩)), TyZ.val 11 (.int .i64 (k : Int)), TyZ.val 12 (.pointer (some ⟨g, 0, none⟩)), TyZ.val 13 (.pointer (some ⟨g, 0, none⟩)), TyZ.val 14 (.pointer (some ⟨g, 1, none⟩)), TyZ.val 15 (.int .i64 (t : Int)), TyZ.val 16 (.pointer (some ⟨g, 0, none⟩)), TyZ.val 17 (.pointer (some ⟨g, 0, none⟩)), TyZ.val 18 (.pointer (some ⟨g, 2, none⟩)), TyZ.val 19 (.slice va E.length vc), TyZ.val 20 (.int .i64 (E.length : Int)), (TyZ.fact 21 (fun v w9 => OwnE w9 w.heap.size v E0) (fun _ _ _ hb h => h.go hb)), (TyZ.fact 22 (AggE w.heap.size k t E0) (fun _ _ _ hb h => h.go hb)), (TyZ.fact 23 (NewE w.heap.size k t E0) (fun _ _ _ hb h => h.go hb)), (TyZ.fact 3 (NewE w.heap.size k t E0) (fun _ _ _ hb h => h.go hb))] (by kernel_rfl) (hC_b w) (hCH_z w) (drew_b w) ⟨trivial, trivial, trivial, trivial, trivial, trivial, trivial, trivial, trivial, trivial, trivial, trivial, trivial, trivial, trivial, trivial, trivial, trivial⟩ (by kernel_rfl) ?_ ?_
  · refine ⟨?_, ?_, ?_, ?_, ?_, ?_, ?_, ?_, ?_, ?_, ?_, ?_, ?_, ?_, ?_, ?_, ?_, trivial⟩
    · intro ac wc hC hsz hfr hd hpr
      have d0 : ac.eval (.tmp 0) = (.pointer (some ⟨g, 0, none⟩)) := hfr 0 rfl
      rw [if_pos (wanted_none rfl)]
      exact ob_copy rfl rfl rfl (Nat.lt_of_lt_of_eq (by decide : 8 < 48) hsz.symm) (Or.inl rfl) (Below.refl _ _) d0
    · intro ac wc hC hsz hfr hd hpr
      have d8 : ac.eval (.tmp 8) = (.pointer (some ⟨g, 0, none⟩)) := hd 0 rfl
      rw [if_pos (wanted_none rfl)]
      exact ob_nil rfl rfl rfl (Nat.lt_of_lt_of_eq (by decide : 9 < 48) hsz.symm) rfl d8 (Below.refl _ _) rfl
    · intro ac wc hC hsz hfr hd hpr
      have d9 : ac.eval (.tmp 9) = (.pointer (some ⟨g, 0, none⟩)) := hd 1 rfl
      rw [if_pos (wanted_none rfl)]
      exact ob_field _ rfl rfl rfl (Nat.lt_of_lt_of_eq (by decide : 10 < 48) hsz.symm) rfl d9 (fun w => by go_simp) (Below.refl _ _) rfl
    · intro ac wc hC hsz hfr hd hpr
      have d10 : ac.eval (.tmp 10) = (.pointer (some ⟨g, 0, none⟩)) := hd 2 rfl
      rw [if_pos (wanted_none rfl)]
      exact ob_load _ rfl rfl rfl (Nat.lt_of_lt_of_eq (by decide : 11 < 48) hsz.symm) rfl d10 (load_int (HE.out.go hC).c0) (Below.refl _ _) rfl
    · intro ac wc hC hsz hfr hd hpr
      have d0 : ac.eval (.tmp 0) = (.pointer (some ⟨g, 0, none⟩)) := hfr 0 rfl
      rw [if_pos (wanted_none rfl)]
      exact ob_copy rfl rfl rfl (Nat.lt_of_lt_of_eq (by decide : 12 < 48) hsz.symm) (Or.inl rfl) (Below.refl _ _) d0
    · intro ac wc hC hsz hfr hd hpr
      have d12 : ac.eval (.tmp 12) = (.pointer (some ⟨g, 0, none⟩)) := hd 4 rfl
      rw [if_pos (wanted_none rfl)]
      exact ob_nil rfl rfl rfl (Nat.lt_of_lt_of_eq (by decide : 13 < 48) hsz.symm) rfl d12 (Below.refl _ _) rfl
    · intro ac wc hC hsz hfr hd hpr
      have d13 : ac.eval (.tmp 13) = (.pointer (some ⟨g, 0, none⟩)) := hd 5 rfl
      rw [if_pos (wanted_none rfl)]
      exact ob_field _ rfl rfl rfl (Nat.lt_of_lt_of_eq (by decide : 14 < 48) hsz.symm) rfl d13 (fun w => by go_simp) (Below.refl _ _) rfl
    · intro ac wc hC hsz hfr hd hpr
      have d14 : ac.eval (.tmp 14) = (.pointer (some ⟨g, 1, none⟩)) := hd 6 rfl
      rw [if_pos (wanted_none rfl)]
      exact ob_load _ rfl rfl rfl (Nat.lt_of_lt_of_eq (by decide : 15 < 48) hsz.symm) rfl d14 (load_int (HE.out.go hC).c1) (Below.refl _ _) rfl
    · intro ac wc hC hsz hfr hd hpr
      have d0 : ac.eval (.tmp 0) = (.pointer (some ⟨g, 0, none⟩)) := hfr 0 rfl
      rw [if_pos (wanted_none rfl)]
      exact ob_copy rfl rfl rfl (Nat.lt_of_lt_of_eq (by decide : 16 < 48) hsz.symm) (Or.inl rfl) (Below.refl _ _) d0
    · intro ac wc hC hsz hfr hd hpr
      have d16 : ac.eval (.tmp 16) = (.pointer (some ⟨g, 0, none⟩)) := hd 8 rfl
      rw [if_pos (wanted_none rfl)]
      exact ob_nil rfl rfl rfl (Nat.lt_of_lt_of_eq (by decide : 17 < 48) hsz.symm) rfl d16 (Below.refl _ _) rfl
    · intro ac wc hC hsz hfr hd hpr
      have d17 : ac.eval (.tmp 17) = (.pointer (some ⟨g, 0, none⟩)) := hd 9 rfl
      rw [if_pos (wanted_none rfl)]
      exact ob_field _ rfl rfl rfl (Nat.lt_of_lt_of_eq (by decide : 18 < 48) hsz.symm) rfl d17 (fun w => by go_simp) (Below.refl _ _) rfl
    · intro ac wc hC hsz hfr hd hpr
      have d18 : ac.eval (.tmp 18) = (.pointer (some ⟨g, 2, none⟩)) := hd 10 rfl
      rw [if_pos (wanted_none rfl)]
      exact ob_load _ rfl rfl rfl (Nat.lt_of_lt_of_eq (by decide : 19 < 48) hsz.symm) rfl d18 (load_leds (HE.out.go hC).c2) (Below.refl _ _) rfl
    · intro ac wc hC hsz hfr hd hpr
      have d19 : ac.eval (.tmp 19) = (.slice va E.length vc) := hd 11 rfl
      rw [if_pos (wanted_none rfl)]
      exact ob_len rfl rfl rfl (Nat.lt_of_lt_of_eq (by decide : 20 < 48) hsz.symm) rfl d19 (len_leds _ _ _) (Below.refl _ _) rfl
    · intro ac wc hC hsz hfr hd hpr
      have d20 : ac.eval (.tmp 20) = (.int .i64 (E.length : Int)) := hd 12 rfl
      rw [if_pos (wanted_none rfl)]
      have hlt : 21 < ac.tmps.size := (Nat.lt_of_lt_of_eq (by decide : 21 < 48) hsz.symm)
      refine ob_value (whole wc.heap.size E.length) (wc.alloc (.cells (trips (List.replicate E.length (.slice none 0 0, .slice none 0 0)) (List.replicate E.length ([], []))).toArray 106)) rfl rfl rfl hlt ?_ ((Below.refl _ _).alloc (Nat.le_refl _) _) (by rw [HE0.out]; exact OwnE.made (Blk.new _ _ _ _ rfl) hC.size hlen')
      have hmk := make_leds E.length hlen' wc
      simp [execOp, d20, hmk]
    · intro ac wc hC hsz hfr hd hpr
      have d11 : ac.eval (.tmp 11) = (.int .i64 (k : Int)) := hd 3 rfl
      have d15 : ac.eval (.tmp 15) = (.int .i64 (t : Int)) := hd 7 rfl
      have d21 : OwnE wc w.heap.size (ac.eval (.tmp 21)) E0 := hd 13 rfl
      rw [if_pos (wanted_none rfl)]
      have hlt : 22 < ac.tmps.size := (Nat.lt_of_lt_of_eq (by decide : 22 < 48) hsz.symm)
      obtain ⟨a9, c9, e9⟩ := d21.shape
      rw [e9] at d21
      exact ob_build3 _ rfl rfl rfl hlt rfl d11 d15 e9 build_elim (Below.refl _ _) ⟨_, rfl, d21⟩
    · intro ac wc hC hsz hfr hd hpr
      have d22 : AggE w.heap.size k t E0 (ac.eval (.tmp 22)) wc := hd 14 rfl
      rw [if_pos (wanted_none rfl)]
      have hlt : 23 < ac.tmps.size := (Nat.lt_of_lt_of_eq (by decide : 23 < 48) hsz.symm)
      obtain ⟨u9, e9, h9⟩ := d22
      obtain ⟨a9, c9, rfl⟩ := h9.shape
      refine ob_value (.pointer (some ⟨wc.heap.size, 0, none⟩)) (wc.alloc (.cells #[.int .i64 (k : Int), .int .i64 (t : Int), .slice a9 E0.length c9] 104)) rfl rfl rfl hlt ?_ ((Below.refl _ _).alloc (Nat.le_refl _) _) ⟨_, _, rfl, Blk.new _ _ _ _ rfl, h9.go ((Below.refl _ _).alloc (Nat.le_refl _) _), hC.size⟩
      simp only [execOp, e9]
      clear h9
      go_simp
    · intro ac wc hC hsz hfr hd hpr
      have d23 : NewE w.heap.size k t E0 (ac.eval (.tmp 23)) wc := hd 15 rfl
      rw [if_pos (wanted_none rfl)]
      have hlt : 3 < ac.tmps.size := (Nat.lt_of_lt_of_eq (by decide : 3 < 48) hsz.symm)
      exact ob_copy rfl rfl rfl hlt (Or.inr rfl) (Below.refl _ _) d23
  intro a' W3 hC hdef hsz hfr hd
  have e8 : a'.eval (.tmp 8) = (.pointer (some ⟨g, 0, none⟩)) := hd 0 (by decide)
  have e9 : a'.eval (.tmp 9) = (.pointer (some ⟨g, 0, none⟩)) := hd 1 (by decide)
  have e10 : a'.eval (.tmp 10) = (.pointer (some ⟨g, 0, none⟩)) := hd 2 (by decide)
  have e11 : a'.eval (.tmp 11) = (.int .i64 (k : Int)) := hd 3 (by decide)
  have e12 : a'.eval (.tmp 12) = (.pointer (some ⟨g, 0, none⟩)) := hd 4 (by decide)
  have e13 : a'.eval (.tmp 13) = (.pointer (some ⟨g, 0, none⟩)) := hd 5 (by decide)
  have e14 : a'.eval (.tmp 14) = (.pointer (some ⟨g, 1, none⟩)) := hd 6 (by decide)
  have e15 : a'.eval (.tmp 15) = (.int .i64 (t : Int)) := hd 7 (by decide)
  have e16 : a'.eval (.tmp 16) = (.pointer (some ⟨g, 0, none⟩)) := hd 8 (by decide)
  have e17 : a'.eval (.tmp 17) = (.pointer (some ⟨g, 0, none⟩)) := hd 9 (by decide)
  have e18 : a'.eval (.tmp 18) = (.pointer (some ⟨g, 2, none⟩)) := hd 10 (by decide)
  have e19 : a'.eval (.tmp 19) = (.slice va E.length vc) := hd 11 (by decide)
  have e20 : a'.eval (.tmp 20) = (.int .i64 (E.length : Int)) := hd 12 (by decide)
  obtain ⟨x21, e21, r21⟩ : ∃ xq_, a'.eval (.tmp 21) = xq_ ∧ OwnE W3 w.heap.size (xq_) E0 := ⟨_, rfl, hd 13 (by decide)⟩
  replace r21 := Lib.hid r21
  obtain ⟨x22, e22, r22⟩ : ∃ xq_, a'.eval (.tmp 22) = xq_ ∧ AggE w.heap.size k t E0 (xq_) W3 := ⟨_, rfl, hd 14 (by decide)⟩
  replace r22 := Lib.hid r22
  obtain ⟨x23, e23, r23⟩ : ∃ xq_, a'.eval (.tmp 23) = xq_ ∧ NewE w.heap.size k t E0 (xq_) W3 := ⟨_, rfl, hd 15 (by decide)⟩
  replace r23 := Lib.hid r23
  obtain ⟨x3, e3, r3⟩ : ∃ xq_, a'.eval (.tmp 3) = xq_ ∧ NewE w.heap.size k t E0 (xq_) W3 := ⟨_, rfl, hd 16 (by decide)⟩
  replace r3 := Lib.hid r3
  have hact := act_puts hdef hsz hfr
  simp only [dstsOf, List.filterMap, putAll, Act.put, List.setIfInBounds_toArray, List.set_cons_succ, List.set_cons_zero, e8, e9, e10, e11, e12, e13, e14, e15, e16, e17, e18, e19, e20, e21, e22, e23, e3] at hact
  clear hd hfr hsz hdef e8 e9 e10 e11 e12 e13 e14 e15 e16 e17 e18 e19 e20 e21 e22 e23 e3
  subst hact
  replace HE := Lib.hid (HE.out.go hC)
  replace B := B.trans (hC.mono B.size)
  obtain ⟨g3, u3, rfl, hNE⟩ := r3.out
  have HN := Lib.hid hNE
  obtain ⟨na, nc, rfl⟩ := hNE.2.1.shape
  clear hNE r3 r21 r22 r23
  rw [HL0.out, HE0.out, ← fillL_zero] at HN
  clear HE0 HL0
  have k2 : W3.cell? ⟨g, 2, none⟩ = some (.slice va E.length vc) := HE.out.c2
  have kl := HE.out.1.lt
  go_wp2_with fail
  clear k2 kl
  go_loopw [4, 5, 29] (fun _ _ i wr => ∃ j : Nat, j ≤ E.length ∧ i = .int .i64 j ∧ Below w.heap.size w wr ∧ IsE wr B0 g (.slice va E.length vc) k t E ∧ IsE wr w.heap.size g3 (.slice na E.length nc) k t (fillL E j)) (fun _ _ i _ => E.length - (intOf i).toNat)
  case atStart => exact ⟨0, by omega, rfl, B, HE.out, HN.out⟩
  case round =>
    clear B HN HE
    obtain ⟨j, hj, rfl, B, hE, hN⟩ := hrel
    have HE := Lib.hid hE
    have HN := Lib.hid hN
    have HN1 := Lib.hid (show j ≤ E.length from hj)
    clear hE hN
    by_cases hjl : j < E.length
    · obtain ⟨F, hF⟩ : ∃ F, F = fillL E j := ⟨_, rfl⟩
      have hFl : F.length = E.length := by rw [hF]; exact fillL_length hj
      have HNX := Lib.hid (show F.set j (rwAt E j) = fillL E (j + 1) by rw [hF]; exact fillL_set hjl)
      rw [← hF] at HN
      have HFL := Lib.hid (show j < F.length by rw [hFl]; exact hjl)
      obtain ⟨gl, c', er, hBg, hgl⟩ := HE.out.2.1.addr (by omega)
      simp only [Value.slice.injEq] at er
      obtain ⟨rfl, -, rfl⟩ := er
      obtain ⟨gn, c', er, hBn, hgn⟩ := HN.out.2.1.addr (Nat.lt_of_le_of_lt (Nat.zero_le _) HFL.out)
      simp only [Value.slice.injEq] at er
      obtain ⟨rfl, -, rfl⟩ := er
      obtain ⟨ra, rc, sa, sc, hr0, hr1, hr2, hrb, hsb⟩ := HE.out.2.1.cells j hjl
      have HRB := Lib.hid hrb
      have HSB := Lib.hid hsb
      have HDJ := Lib.hid (HD.out.at hjl)
      have hl1 : (rwAt E j).1.length ≤ 1000000000 := by have := HDJ.out.1; omega
      have hl2 : (rwAt E j).2.length ≤ 1000000000 := by have := HDJ.out.2.1; omega
      have HL1 := Lib.hid hl1
      have HL2 := Lib.hid hl2
      have j1 : (j : Int) < (E.length : Int) := by omega
      have j0 : (0 : Int) ≤ (j : Int) := Int.natCast_nonneg _
      have hgg : g3 ≠ gn := fun e => HN.out.2.1.ne_box HN.out.1 (by decide) (by rw [e]; rfl)
      have HBN := Lib.hid hBn
      clear hrb hsb hF hFl hl1 hl2 hBn
      go_wp2_with fail
      obtain ⟨g6, hg6⟩ : ∃ g6 : Nat, g6 = wr.heap.size := ⟨_, rfl⟩
      have h6 : g6 ≠ gn := by omega
      obtain ⟨hb, hk, hs⟩ := blocks1 wr #[.slice ra (rwAt E j).1.length rc, .slice sa (rwAt E j).2.length sc, .int .i64 (lead (rwAt E j).1 : Int)] 106
      generalize wr.alloc (.cells #[.slice ra (rwAt E j).1.length rc, .slice sa (rwAt E j).2.length sc, .int .i64 (lead (rwAt E j).1 : Int)] 106) = W6 at *
      have K6 := Lib.hid hk
      replace HE := Lib.hid (HE.out.go hb)
      replace HN := Lib.hid (HN.out.go hb)
      replace HRB := Lib.hid (HRB.out.go hb)
      replace HSB := Lib.hid (HSB.out.go hb)
      replace B := B.trans (hb.mono B.size)
      have hzW6 := B.size
      clear hb hk hs
      rw [← hg6] at K6
      simp only [← hg6]
      have HKG := Lib.hid (show ∀ k, (Value.slice (some ⟨gn, 0, none⟩) E.length nc).ownBlock = some k → k < W6.heap.size from HN.out.2.1.lt)
      have hpr0 : OwnE W6.drew w.heap.size (.slice (some ⟨gn, 0, none⟩) E.length nc) F := HN.out.2.1.go (Below.refl _ _).drew
      clear hr0 hr1 hr2 hg6
      refine wp_region_mono (C := Ce W6 (gn)) (R := Rb) (H := He W6 (gn)) [TyE.val 34 (.pointer (some ⟨g3, 0, none⟩)), TyE.val 35 (.pointer (some ⟨g3, 0, none⟩)), TyE.val 36 (.pointer (some ⟨g3, 2, none⟩)), TyE.val 37 (.slice (some ⟨gn, 0, none⟩) E.length nc), TyE.val 38 (.int .i64 (j : Int)), TyE.val 39 (.pointer (some ⟨g6, 0, none⟩)), TyE.row 40 (rwAt E j).1 (rwAt E j).2, TyE.row 41 (rwAt E j).1 (rwAt E j).2, TyE.val 42 (.pointer (some ⟨g6, 2, none⟩)), TyE.val 43 (.int .i64 (lead (rwAt E j).1 : Int)), (TyE.led 44 (rwAt E j)), TyE.val 45 (.pointer (some ⟨gn, j * 3, none⟩)), (TyE.storesE (W := W6) (g := gn) (.slice (some ⟨gn, 0, none⟩) E.length nc) HKG.out w.heap.size F (F.set j (rwAt E j)))] (by kernel_rfl) (hC_e W6 (gn)) (hCH_e W6 (gn)) (drew_e W6 (gn)) ⟨trivial, trivial, trivial, trivial, trivial, trivial, trivial, trivial, trivial, trivial, trivial, trivial, (hpr0), trivial⟩ (by kernel_rfl) ?_ ?_
      · refine ⟨?_, ?_, ?_, ?_, ?_, ?_, ?_, ?_, ?_, ?_, ?_, ?_, ?_, trivial⟩
        · intro ac wc hC hsz hfr hd hpr
          have d3 : ac.eval (.tmp 3) = (.pointer (some ⟨g3, 0, none⟩)) := hfr 3 rfl
          rw [if_pos (wanted_none rfl)]
          exact ob_copy rfl rfl rfl (Nat.lt_of_lt_of_eq (by decide : 34 < 48) hsz.symm) (Or.inl rfl) (Below.refl _ _) d3
        · intro ac wc hC hsz hfr hd hpr
          have d34 : ac.eval (.tmp 34) = (.pointer (some ⟨g3, 0, none⟩)) := hd 0 rfl
          rw [if_pos (wanted_none rfl)]
          exact ob_nil rfl rfl rfl (Nat.lt_of_lt_of_eq (by decide : 35 < 48) hsz.symm) rfl d34 (Below.refl _ _) rfl
        · intro ac wc hC hsz hfr hd hpr
          have d35 : ac.eval (.tmp 35) = (.pointer (some ⟨g3, 0, none⟩)) := hd 1 rfl
          rw [if_pos (wanted_none rfl)]
          exact ob_field _ rfl rfl rfl (Nat.lt_of_lt_of_eq (by decide : 36 < 48) hsz.symm) rfl d35 (fun w => by go_simp) (Below.refl _ _) rfl
        · intro ac wc hC hsz hfr hd hpr
          have d36 : ac.eval (.tmp 36) = (.pointer (some ⟨g3, 2, none⟩)) := hd 2 rfl
          rw [if_pos (wanted_none rfl)]
          exact ob_load _ rfl rfl rfl (Nat.lt_of_lt_of_eq (by decide : 37 < 48) hsz.symm) rfl d36 (load_leds ((HN.out.1.ce hC hgg).cell 2)) (Below.refl _ _) rfl
        · intro ac wc hC hsz hfr hd hpr
          have d4 : ac.eval (.tmp 4) = (.int .i64 (j : Int)) := hfr 4 rfl
          rw [if_pos (wanted_none rfl)]
          exact ob_copy rfl rfl rfl (Nat.lt_of_lt_of_eq (by decide : 38 < 48) hsz.symm) (Or.inl rfl) (Below.refl _ _) d4
        · intro ac wc hC hsz hfr hd hpr
          have d5 : ac.eval (.tmp 5) = (.pointer (some ⟨g6, 0, none⟩)) := hfr 5 rfl
          rw [if_pos (wanted_none rfl)]
          exact ob_field _ rfl rfl rfl (Nat.lt_of_lt_of_eq (by decide : 39 < 48) hsz.symm) rfl d5 (fun w => by go_simp) (Below.refl _ _) rfl
        · intro ac wc hC hsz hfr hd hpr
          have d39 : ac.eval (.tmp 39) = (.pointer (some ⟨g6, 0, none⟩)) := hd 5 rfl
          rw [if_pos (wanted_none rfl)]
          exact ob_load _ rfl rfl rfl (Nat.lt_of_lt_of_eq (by decide : 40 < 48) hsz.symm) rfl d39 (load_vecrow3 (K6.out.ce hC h6)) (Below.refl _ _) (⟨_, _, rfl, HRB.out.ce hC, HSB.out.ce hC⟩)
        · intro ac wc hC hsz hfr hd hpr
          have d40 : IsRow wc (ac.eval (.tmp 40)) (rwAt E j).1 (rwAt E j).2 := hd 6 rfl
          rw [if_pos (wanted_none rfl)]
          refine ob_call rfl rfl rfl (Nat.lt_of_lt_of_eq (by decide : 41 < 48) hsz.symm) rfl (enter_of Try.func65 (by kernel_rfl) rfl) ?_
          show Calls Try.prog 65 #[ac.eval (.tmp 40)] wc _
          exact rowclone_any _ _ _ wc d40 HL1.out HL2.out
        · intro ac wc hC hsz hfr hd hpr
          have d5 : ac.eval (.tmp 5) = (.pointer (some ⟨g6, 0, none⟩)) := hfr 5 rfl
          rw [if_pos (wanted_none rfl)]
          exact ob_field _ rfl rfl rfl (Nat.lt_of_lt_of_eq (by decide : 42 < 48) hsz.symm) rfl d5 (fun w => by go_simp) (Below.refl _ _) rfl
        · intro ac wc hC hsz hfr hd hpr
          have d42 : ac.eval (.tmp 42) = (.pointer (some ⟨g6, 2, none⟩)) := hd 8 rfl
          rw [if_pos (wanted_none rfl)]
          exact ob_load _ rfl rfl rfl (Nat.lt_of_lt_of_eq (by decide : 43 < 48) hsz.symm) rfl d42 (load_int ((K6.out.ce hC h6).cell 2)) (Below.refl _ _) rfl
        · intro ac wc hC hsz hfr hd hpr
          have d41 : IsRow wc (ac.eval (.tmp 41)) (rwAt E j).1 (rwAt E j).2 := hd 7 rfl
          have d43 : ac.eval (.tmp 43) = (.int .i64 (lead (rwAt E j).1 : Int)) := hd 9 rfl
          rw [if_pos (wanted_none rfl)]
          have hlt : 44 < ac.tmps.size := (Nat.lt_of_lt_of_eq (by decide : 44 < 48) hsz.symm)
          obtain ⟨x9, y9, e9, q1, q2⟩ := d41
          obtain ⟨a9, c9, rfl, _⟩ := id q1
          obtain ⟨a8, c8, rfl, _⟩ := id q2
          exact ob_build2 _ rfl rfl rfl hlt rfl e9 d43 build_led (Below.refl _ _) ⟨_, _, rfl, q1, q2⟩
        · intro ac wc hC hsz hfr hd hpr
          have d37 : ac.eval (.tmp 37) = (.slice (some ⟨gn, 0, none⟩) E.length nc) := hd 3 rfl
          have d38 : ac.eval (.tmp 38) = (.int .i64 (j : Int)) := hd 4 rfl
          rw [if_pos (wanted_none rfl)]
          exact ob_index _ rfl rfl rfl (Nat.lt_of_lt_of_eq (by decide : 45 < 48) hsz.symm) rfl d37 d38 (by go_simp) (Below.refl _ _) rfl
        · intro ac wc hC hsz hfr hd hpr
          have d45 : ac.eval (.tmp 45) = (.pointer (some ⟨gn, j * 3, none⟩)) := hd 11 rfl
          have d44 : IsLed wc (ac.eval (.tmp 44)) (rwAt E j) := hd 10 rfl
          rw [if_pos (wanted_none rfl)]
          have hlt : 0 < ac.tmps.size := (Nat.lt_of_lt_of_eq (by decide : 0 < 48) hsz.symm)
          exact ob_storesE3 HKG.out rfl d45 d44 HFL.out hpr
      intro a' W7 hC hdef hsz hfr hd
      have e34 : a'.eval (.tmp 34) = (.pointer (some ⟨g3, 0, none⟩)) := hd 0 (by decide)
      have e35 : a'.eval (.tmp 35) = (.pointer (some ⟨g3, 0, none⟩)) := hd 1 (by decide)
      have e36 : a'.eval (.tmp 36) = (.pointer (some ⟨g3, 2, none⟩)) := hd 2 (by decide)
      have e37 : a'.eval (.tmp 37) = (.slice (some ⟨gn, 0, none⟩) E.length nc) := hd 3 (by decide)
      have e38 : a'.eval (.tmp 38) = (.int .i64 (j : Int)) := hd 4 (by decide)
      have e39 : a'.eval (.tmp 39) = (.pointer (some ⟨g6, 0, none⟩)) := hd 5 (by decide)
      obtain ⟨x40, e40, r40⟩ : ∃ xq_, a'.eval (.tmp 40) = xq_ ∧ IsRow W7 (xq_) (rwAt E j).1 (rwAt E j).2 := ⟨_, rfl, hd 6 (by decide)⟩
      replace r40 := Lib.hid r40
      obtain ⟨x41, e41, r41⟩ : ∃ xq_, a'.eval (.tmp 41) = xq_ ∧ IsRow W7 (xq_) (rwAt E j).1 (rwAt E j).2 := ⟨_, rfl, hd 7 (by decide)⟩
      replace r41 := Lib.hid r41
      have e42 : a'.eval (.tmp 42) = (.pointer (some ⟨g6, 2, none⟩)) := hd 8 (by decide)
      have e43 : a'.eval (.tmp 43) = (.int .i64 (lead (rwAt E j).1 : Int)) := hd 9 (by decide)
      obtain ⟨x44, e44, r44⟩ : ∃ xq_, a'.eval (.tmp 44) = xq_ ∧ IsLed W7 (xq_) (rwAt E j) := ⟨_, rfl, hd 10 (by decide)⟩
      replace r44 := Lib.hid r44
      have e45 : a'.eval (.tmp 45) = (.pointer (some ⟨gn, j * 3, none⟩)) := hd 11 (by decide)
      have st12 : OwnE W7 w.heap.size (.slice (some ⟨gn, 0, none⟩) E.length nc) (F.set j (rwAt E j)) := hd 12 (by decide)
      replace st12 := Lib.hid st12
      have hact := act_puts hdef hsz hfr
      simp only [dstsOf, List.filterMap, putAll, Act.put, List.setIfInBounds_toArray, List.set_cons_succ, List.set_cons_zero, e34, e35, e36, e37, e38, e39, e40, e41, e42, e43, e44, e45] at hact
      clear hd hfr hsz hdef e34 e35 e36 e37 e38 e39 e40 e41 e42 e43 e44 e45
      subst hact
      have HB1 := Lib.hid (below_grown B hC.1 B.size HBN.out)
      have HE1 := Lib.hid (show IsE W7 B0 g (.slice (some ⟨gl, 0, none⟩) E.length vc) k t E from HE.out.past hC.1 hC.2 (by have := HG0.out; have := HBN.out; omega) (fun e => by have := HVL.out gn e; have := HBN.out; omega))
      have HN7 := Lib.hid (show IsE W7 w.heap.size g3 (.slice (some ⟨gn, 0, none⟩) E.length nc) k t (fillL E (j + 1)) from ⟨HN.out.1.ce hC hgg, by rw [← HNX.out]; exact st12.out, HN.out.2.2⟩)
      clear hC st12
      go_wp2_with fail
      go_roundw
      case rel => exact ⟨j + 1, by omega, by go_num, HB1.out, HE1.out, HN7.out⟩
      case measure => simp [intOf]; omega
    · obtain rfl : j = E.length := by omega
      rw [fillL_all] at HN
      go_wp2_with fail
      go_ret
      exact ⟨_, _, rfl, HN.out, B⟩

end Go.Proofs.Ytohfcdgpllghbaa

/-
  Systems of equations in the program (layer 8): 'Solve'.
-/
set_option maxRecDepth 100000
namespace Go.Proofs.Ytohfcdgpllghbaa
open Go.RowKit

/-- The data of rows. -/
def dataM (E : List Rw) : List (List Nat) := E.map fun r => r.2
theorem dataM_length (E : List Rw) : (dataM E).length = E.length := by simp [dataM]
theorem dataM_at {E : List Rw} {n : Nat} (h : n < E.length) : rowAt (dataM E) n = (rwAt E n).2 := by
  have h' : n < (dataM E).length := by rw [dataM_length]; exact h
  simp [rowAt, rwAt, dataM, List.getD_eq_getElem?_getD, h]
theorem OwnM.ne_box {w : World} {B g : Nat} {T T' : TypeId} {v : Value} {ll : List (List Nat)} {vs : Array Value} (h : OwnM w B T v ll) (k : Blk w g vs T') (hT : T ≠ T') : v.ownBlock ≠ some g := by
  obtain ⟨us, ⟨⟨_, h2⟩, _⟩, _⟩ := h
  rcases h2 with ⟨rfl, _⟩ | ⟨g', cap, cur, rfl, _, hg, _⟩
  · intro e; cases e
  · intro e
    simp only [Value.ownBlock, Option.some.injEq] at e
    subst e
    unfold Blk at k
    rw [hg] at k
    simp only [Option.some.injEq, Obj.cells.injEq] at k
    exact hT k.2.1
theorem OwnE.apartM {w : World} {B C b : Nat} {T : TypeId} {v : Value} {E : List Rw} {ll : List (List Nat)} {n c : Nat} (h : OwnE w B v E) (k : OwnM w C T (.slice (some ⟨b, 0, none⟩) n c) ll) (hT : 106 ≠ T) : v.ownBlock ≠ some b := by
  obtain ⟨us, ⟨⟨_, h2⟩, _⟩, _⟩ := k
  rcases h2 with ⟨e, _⟩ | ⟨g', cap, cur, e, _, hg, _⟩
  · cases e
  · simp only [Value.slice.injEq, Option.some.injEq, Addr.mk.injEq] at e
    obtain ⟨⟨rfl, _⟩, _⟩ := e
    exact h.ne_box (show Blk w b cur T from hg) hT

theorem esolve_nil (w : World) :
    Calls Try.prog 49 #[.pointer none] w fun e w' => e = .returned (.tuple #[.slice none 0 0, I64 1]) ∧ Below w.heap.size w w' := by
  go_enter Try.func49, Try.ntmps49
  go_wp2_with fail
  go_ret2
  exact ⟨rfl, Below.refl _ _⟩
set_option maxHeartbeats 1000000 in
theorem esolve_pending (g B0 k t : Nat) (v : Value) (E : List Rw) (w : World) (hE : IsE w B0 g v k t E) (h : E.length < k) :
    Calls Try.prog 49 #[.pointer (some ⟨g, 0, none⟩)] w fun e w' => e = .returned (.tuple #[.slice none 0 0, I64 12]) ∧ Below w.heap.size w w' := by
  obtain ⟨va, vc, rfl⟩ := hE.2.1.shape
  have hb : (E.length : Int) < (k : Int) := by omega
  have k0 := hE.c0
  have k2 := hE.c2
  have kl := hE.lt
  clear hE h
  go_enter Try.func49, Try.ntmps49
  go_wp2_with fail
  go_quiet (skip)
  go_wp2_with fail
  go_ret2
  exact ⟨rfl, below_drews _ _⟩
set_option maxHeartbeats 2000000 in
theorem esolve_any (g B0 k t : Nat) (v : Value) (E : List Rw) (w : World) (hE : IsE w B0 g v k t E) (hD : Ro.Dims k t E) (h : k ≤ E.length) (ht : t ≤ 10000000) (hlen : E.length ≤ 1000000) :
    Calls Try.prog 49 #[.pointer (some ⟨g, 0, none⟩)] w fun e w' => ∃ u, e = .returned (.tuple #[u, I64 0]) ∧ OwnM w' w.heap.size 35 u (dataM E) ∧ Below w.heap.size w w' := by
  have HE := Lib.hid hE
  obtain ⟨va, vc, rfl⟩ := hE.2.1.shape
  have HD := Lib.hid hD
  have hmk := make_rows E.length (by omega)
  have hb : decide (E.length < k) = false := by rw [decide_eq_false_iff_not]; omega
  have hb' : ¬ E.length < k := by omega
  have k0 := hE.c0
  have k2 : w.cell? ⟨g, 2, none⟩ = some (.slice va E.length vc) := hE.c2
  have kl := hE.lt
  clear hE hD h
  go_enter Try.func49, Try.ntmps49
  go_wp2_with fail
  go_quiet (skip)
  have hdn := below_drews w nq
  replace HE := Lib.hid (HE.out.go hdn)
  have HSZ := Lib.hid (show w.heap.size ≤ (w.drewN nq).heap.size from hdn.size)
  clear k0 k2 kl
  generalize w.drewN nq = w3 at *
  have k2 : w3.cell? ⟨g, 2, none⟩ = some (.slice va E.length vc) := HE.out.c2
  have kl := HE.out.lt
  go_wp2_with fail
  obtain ⟨B, hk1, hs⟩ := blocks1 w3 (Array.replicate E.length (.slice none 0 0)) 35
  replace HE := Lib.hid (HE.out.go B)
  generalize w3.alloc (.cells (Array.replicate E.length (.slice none 0 0)) 35) = W2 at *
  obtain ⟨gr, hgr⟩ : ∃ gr : Nat, gr = w3.heap.size := ⟨_, rfl⟩
  rw [← hgr] at hk1
  simp only [← hgr]
  have HM := Lib.hid (OwnM.made hk1 (Nat.le_refl gr) (by omega : E.length ≤ 1000000000))
  have HGW := Lib.hid (show w.heap.size ≤ gr by have := HSZ.out; omega)
  replace B := hdn.trans (B.mono HSZ.out)
  clear hk1 hs hmk hgr k2 kl hdn
  go_loopw [5, 6, 30] (fun _ _ i wr => ∃ n : Nat, n ≤ E.length ∧ i = .int .i64 n ∧ Below w.heap.size w wr ∧ IsE wr B0 g (.slice va E.length vc) k t E ∧ OwnM wr gr 35 (whole gr E.length) (fillM (dataM E) n)) (fun _ _ i _ => E.length - (intOf i).toNat)
  case atStart => exact ⟨0, by omega, rfl, B, HE.out, by rw [fillM_zero, dataM_length]; exact HM.out⟩
  case round =>
    clear B HM HE
    obtain ⟨n, hn, rfl, B, hE, hO⟩ := hrel
    have HE := Lib.hid hE
    have HO := Lib.hid hO
    clear hO hE
    by_cases hlt : n < E.length
    · obtain ⟨g', c', er, hBg, hgl⟩ := HE.out.2.1.addr (by omega)
      simp only [Value.slice.injEq] at er
      obtain ⟨rfl, -, rfl⟩ := er
      obtain ⟨ra, rc, sa, sc, hr0, hr1, hr2, hrb, hsb⟩ := HE.out.2.1.cells n hlt
      have HSB := Lib.hid hsb
      have HDJ := Lib.hid (HD.out.at hlt)
      have j1 : (n : Int) < (E.length : Int) := by omega
      have j0 : (0 : Int) ≤ (n : Int) := Int.natCast_nonneg _
      clear hrb hsb
      go_wp2_with fail
      obtain ⟨hb, hk, hs⟩ := blocks1 wr #[.slice ra (rwAt E n).1.length rc, .slice sa (rwAt E n).2.length sc, .int .i64 (lead (rwAt E n).1 : Int)] 106
      generalize wr.alloc (.cells #[.slice ra (rwAt E n).1.length rc, .slice sa (rwAt E n).2.length sc, .int .i64 (lead (rwAt E n).1 : Int)] 106) = W6 at *
      have K6 := Lib.hid hk
      replace HE := Lib.hid (HE.out.go hb)
      replace HO := Lib.hid (HO.out.go hb)
      replace HSB := Lib.hid (HSB.out.go hb)
      replace B := B.trans (hb.mono B.size)
      have hzW6 := B.size
      clear hb hk hs
      clear hr0 hr1 hr2
      refine (clone_any _ (rwAt E n).2 _ (by have := HDJ.out.2.1; omega) HSB.out).mono ?_
      rintro e w7 ⟨u7, rfl, hu7, hb⟩
      replace HE := Lib.hid (HE.out.go hb)
      replace HO := Lib.hid (HO.out.go hb)
      replace B := B.trans (hb.mono B.size)
      have hzw7 := B.size
      clear hb
      have HVB := Lib.hid hu7
      obtain ⟨ua, uc, rfl, _⟩ := hu7
      have HK := Lib.hid (show n < (fillM (dataM E) n).length by rw [fillM_length (by rw [dataM_length]; exact hn), dataM_length]; exact hlt)
      have HS := Lib.hid (fillM_set (R := dataM E) (k := n) (by rw [dataM_length]; exact hlt))
      obtain ⟨a9, d9, c9, _⟩ := HO.out.cell n HK.out
      have f9 := HO.out.free n
      go_wp2_with fail
      obtain ⟨o1, s1, g1⟩ := HO.out.set n HK.out HVB.out
      rw [show (fillM (dataM E) n).set n (rwAt E n).2 = fillM (dataM E) (n + 1) by rw [← dataM_at hlt]; exact HS.out] at o1
      have HO1 := Lib.hid o1
      have HE1 := Lib.hid (HE.out.past g1 s1 (fun e => (OwnM.ne_box HO.out HE.out.1 (by decide)) (by rw [← e]; rfl)) (OwnE.apartM HE.out.2.1 HO.out (by decide)))
      have HB1 := Lib.hid (below_grown B g1 B.size HGW.out)
      clear o1 s1 g1
      go_roundw
      case rel => exact ⟨n + 1, by omega, by go_num, HB1.out, HE1.out, HO1.out⟩
      case measure => simp [intOf]; omega
    · obtain rfl : n = E.length := by omega
      rw [← dataM_length E, fillM_all] at HO
      go_wp2_with fail
      go_ret2
      exact ⟨_, rfl, by have := HO.out.mono HGW.out; rw [dataM_length] at this; exact this, B⟩

end Go.Proofs.Ytohfcdgpllghbaa

/-
  The laws of equations (layer 8): of a nil system nothing is told.
-/
set_option maxRecDepth 100000
namespace Go.Proofs.Ytohfcdgpllghbaa
open Go.RowKit

set_option maxHeartbeats 2000000 in
theorem elimNone_walk (w : World) :
    Calls Try.prog 8 #[] w fun e w' => e = .returned (.bool true) ∧ Below w.heap.size w w' := by
  go_enter Try.func8, Try.ntmps8
  go_wp2_with fail
  have B : Below w.heap.size w w := Below.refl _ _
  refine (eput_nil _ [] [] _ ⟨_, _, rfl, Bytes.nil _, Bytes.nil _⟩).mono ?_
  rintro e w1 ⟨rfl, hb⟩
  replace B := B.trans (hb.mono B.size)
  have hzw1 := B.size
  clear hb
  go_wp2_with fail
  refine (erest_nil _ [] [] _ ⟨_, _, rfl, Bytes.nil _, Bytes.nil _⟩).mono ?_
  rintro e w2 ⟨u2, rfl, hu2, hb⟩
  replace B := B.trans (hb.mono B.size)
  have hzw2 := B.size
  clear hb
  obtain ⟨ya, yc, za, zc, rfl⟩ := hu2.shape
  clear hu2
  go_wp2_with fail
  obtain ⟨hb, hk, hs⟩ := blocks1 w2 #[.slice ya ([] : List Nat).length yc, .slice za ([] : List Nat).length zc] 61
  generalize w2.alloc (.cells #[.slice ya ([] : List Nat).length yc, .slice za ([] : List Nat).length zc] 61) = W3 at *
  have K3 := Lib.hid hk
  replace B := B.trans (hb.mono B.size)
  have hzW3 := B.size
  clear hb hk hs
  refine (eknown_nil _ _).mono ?_
  rintro e w4 ⟨rfl, hb⟩
  replace B := B.trans (hb.mono B.size)
  have hzw4 := B.size
  clear hb
  go_wp2_with fail
  refine (esolve_nil _).mono ?_
  rintro e w5 ⟨rfl, hb⟩
  replace B := B.trans (hb.mono B.size)
  have hzw5 := B.size
  clear hb
  go_wp2_with fail
  refine (esize_nil _).mono ?_
  rintro e w6 ⟨rfl, hb⟩
  replace B := B.trans (hb.mono B.size)
  have hzw6 := B.size
  clear hb
  go_wp2_with fail
  refine (awake8_any _).mono ?_
  rintro e w7 ⟨rfl, hb⟩
  replace B := B.trans (hb.mono B.size)
  have hzw7 := B.size
  clear hb
  go_wp2_with fail
  refine (erank_nil _).mono ?_
  rintro e w' ⟨rfl, rfl⟩
  go_wp2_with fail
  refine (erows_nil _).mono ?_
  rintro e w8 ⟨rfl, hb⟩
  replace B := B.trans (hb.mono B.size)
  have hzw8 := B.size
  clear hb
  go_wp2_with fail
  refine (eclone_nil _).mono ?_
  rintro e w9 ⟨rfl, hb⟩
  replace B := B.trans (hb.mono B.size)
  have hzw9 := B.size
  clear hb
  go_wp2_with fail
  go_ret
  exact ⟨rfl, B⟩

end Go.Proofs.Ytohfcdgpllghbaa
