/- Texts of one seat, laid together: MonoH, GridH, GridI, MonoG, RefGridE. -/
import Derived.Test.YtohfcdgpllghbaaQ20
import Derived.Test.YtohfcdgpllghbaaQ11
import Derived.Test.YtohfcdgpllghbaaQ7

/-
  A region that draws its order, makes a grid, and stores it at last into a box that was there.
-/
set_option maxRecDepth 100000
namespace Go.Proofs.Ytohfcdgpllghbaa
open Go.RowKit

section
variable {P : Program} {C : World → Prop} {R : World → World → Prop} {H : Nat → World → World → Prop} {a : Act} {w : World} {o : Oper} {Q : Exit → Act → World → Prop}
/-- A struct of two. -/
theorem ob_build2 {T : Ty C R H} {t : Tmp} {x y : Operand} {E : TypeId} {p q : Value} (v : Value) (hS : T.S = [t]) (hh : T.kind = none) (hd : o.dst = some t) (hlt : t < a.tmps.size) (hop : o.op = .build E #[(0, x), (1, y)]) (hx : a.eval x = p) (hy : a.eval y = q)
    (hrun : (Instr.build E #[(0, p), (1, q)]).run P w = .ok v w) (hR : R w w) (hF : T.F [v] w) : Done P T Q o a w := by
  refine ob_value v w hS hh hd hlt ?_ hR hF
  simp [execOp, hop, hx, hy, hrun]
end
theorem build_grid {m : Int} {a : Option Addr} {n c : Nat} {w : World} : (Instr.build 26 #[(0, .int .i64 m), (1, .slice a n c)]).run Try.prog w = .ok (.agg #[.int .i64 m, .slice a n c]) w := by
  go_simp

/-- The box holds such a grid. -/
def GridIn (w : World) (g B : Nat) (m : Int) (ll : List (List Nat)) : Prop := ∃ a c, Blk w g #[.int .i64 m, .slice a ll.length c] 26 ∧ OwnM w B 35 (.slice a ll.length c) ll
theorem GridIn.go {w w' : World} {g B : Nat} {m : Int} {ll : List (List Nat)} (h : GridIn w g B m ll) (hb : Below w.heap.size w w') : GridIn w' g B m ll := by
  obtain ⟨a, c, h1, h2⟩ := h; exact ⟨a, c, h1.go hb, h2.go hb⟩

section
variable {W : World} {g : Nat}
def is0 : Nat → Bool := fun c => decide (c = 0)
/-- What stays where block g alone is written, and no byte turned. -/
def TyE.fact (t : Tmp) (F : Value → World → Prop) (h : ∀ v w w', Below w.heap.size w w' → F v w → F v w') (k : ∀ v w w', w.grownBy w' (some g) → Soft w w' → F v w → F v w') : Ty (Ce W g) Rb (He W g) :=
  ⟨[t], fun vs w => F (vs.headD undef) w, none, is0, fun _ _ _ _ h2 h3 => h _ _ _ h2 h3, fun c hc _ _ _ _ h2 h3 => by
    unfold He at h2
    rw [if_pos (by simpa [is0] using hc)] at h2
    exact k _ _ _ h2.1 h2.2 h3, fun _ => True, fun _ => true, fun _ _ _ _ _ => trivial, fun _ _ _ _ _ _ _ => trivial⟩
theorem OwnM.past {w w' : World} {B g : Nat} {T : TypeId} {v : Value} {ll : List (List Nat)} (h : OwnM w B T v ll) (hg : g < B) (k : w.grownBy w' (some g)) (hs : Soft w w') : OwnM w' B T v ll :=
  h.other k hs (.inr fun e => by
    have := h.from g e
    omega)
def TyE.rowsm (t : Tmp) (B : Nat) (hg : g < B) (ll : List (List Nat)) : Ty (Ce W g) Rb (He W g) := TyE.fact t (fun v w => OwnM w B 35 v ll) (fun _ _ _ hb h => h.go hb) fun _ _ _ k hs h => h.past hg k hs
def TyE.grido (t : Tmp) (B : Nat) (hg : g < B) (m : Int) (ll : List (List Nat)) : Ty (Ce W g) Rb (He W g) := TyE.fact t (fun v w => GridO w B v m ll) (fun _ _ _ hb h => h.go hb) fun _ _ _ k hs ⟨v, e, h⟩ => ⟨v, e, h.past hg k hs⟩
def TyE.storesF (Pre Post : World → Prop) (hp : ∀ w w', Below w.heap.size w w' → Pre w → Pre w') (hq : ∀ w w', Below w.heap.size w w' → Post w → Post w') : Ty (Ce W g) Rb (He W g) :=
  ⟨[], fun _ w => Post w, some 0, fun _ => false, fun _ _ _ _ h2 h3 => hq _ _ h2 h3, (fun _ e => by cases e), Pre, fun _ => false, fun _ _ _ h2 h3 => hp _ _ h2 h3, (fun _ e => by cases e)⟩
def TyE.storesGrid (u v : Value) (B : Nat) (m : Int) (ll : List (List Nat)) : Ty (Ce W g) Rb (He W g) :=
  TyE.storesF (fun w => Blk w g #[u, v] 26) (fun w => GridIn w g B m ll) (fun _ _ hb h => h.go hb) fun _ _ hb h => h.go hb
end

/-- A grid stored into its box. -/
theorem store_grid {w : World} {g B : Nat} {u v x : Value} {m : Int} {ll : List (List Nat)} (hk : Blk w g #[u, v] 26) (hu : ∀ n : Nat, u ≠ U8 n) (hv : ∀ n : Nat, v ≠ U8 n) (hB : g < B) (hO : OwnM w B 35 x ll) :
    (w.grownBy ((w.setCell ⟨g, 0, none⟩ (.int .i64 m)).setCell ⟨g, 1, none⟩ x) (some g) ∧ Soft w ((w.setCell ⟨g, 0, none⟩ (.int .i64 m)).setCell ⟨g, 1, none⟩ x)) ∧ GridIn ((w.setCell ⟨g, 0, none⟩ (.int .i64 m)).setCell ⟨g, 1, none⟩ x) g B m ll := by
  have hgr : w.grownBy ((w.setCell ⟨g, 0, none⟩ (.int .i64 m)).setCell ⟨g, 1, none⟩ x) (some g) := grown_trans (grown_setCell w ⟨g, 0, none⟩ _) (grown_setCell _ ⟨g, 1, none⟩ _)
  obtain ⟨a, c, rfl⟩ := hO.shape
  have h2 := hk.set2 (.int .i64 m) (.slice a ll.length c)
  have hs := Soft.of_box hgr hk (no_bytes2 _ _ hu hv) h2 (no_bytes2 _ _ (int_ne _ _ (by decide)) (slice_ne _ _ _))
  exact ⟨⟨hgr, hs⟩, a, c, h2, hO.past hB hgr hs⟩

set_option maxHeartbeats 400000 in
theorem ob_storesGrid {W : World} {g B : Nat} {a : Act} {w : World} {o : Oper} {Q : Exit → Act → World → Prop} {x y : Operand} {u v : Value} {m : Int} {ll : List (List Nat)} (hop : o.op = .store 26 x y) (hx : a.eval x = .pointer (some ⟨g, 0, none⟩)) (hV : GridO w B (a.eval y) m ll)
    (hk : Blk w g #[u, v] 26) (hu : ∀ n : Nat, u ≠ U8 n) (hv : ∀ n : Nat, v ≠ U8 n) (hB : g < B) : Done Try.prog (TyE.storesGrid (W := W) (g := g) u v B m ll) Q o a w := by
  obtain ⟨p, e, hO⟩ := hV
  obtain ⟨k1, k2⟩ := store_grid (m := m) hk hu hv hB hO
  obtain ⟨c0, c1⟩ := hk.two
  obtain ⟨f0, f1⟩ := hk.fre2
  obtain ⟨pa, pc, rfl⟩ := hO.shape
  refine ob_store0 ((w.setCell ⟨g, 0, none⟩ (.int .i64 m)).setCell ⟨g, 1, none⟩ (.slice pa ll.length pc)) rfl rfl hop hx e ?_ (by unfold He; rw [if_pos rfl]; exact k1) k2
  clear k1 k2 hO hk hu hv hB
  go_simp

end Go.Proofs.Ytohfcdgpllghbaa

/-
  Grids in the program (layer 7): 'Of', 'Unit'.
-/
set_option maxRecDepth 100000
namespace Go.Proofs.Ytohfcdgpllghbaa
open Go.RowKit

set_option maxHeartbeats 400000 in
theorem of1_any (bx n c : Nat) (a : Option Addr) (m : Int) (w : World) (hbx : w.cell? ⟨bx, 0, none⟩ = some (.int .i64 m)) :
    Calls Try.prog 55 #[.slice a n c, .pointer (some ⟨bx, 0, none⟩)] w fun e w' => e = .returned (.bool ((n : Int) != m)) ∧ w = w' := by
  go_enter Try.func55, Try.ntmps55
  go_wp2_with fail
  go_ret
  exact ⟨rfl, rfl⟩

/-- Has each row this length? -/
def wideB (m : Int) (ll : List (List Nat)) : Bool := decide (∀ i, i < ll.length → ((rowAt ll i).length : Int) = m)

set_option maxHeartbeats 400000 in
theorem idxOf_some (bx b off cap : Nat) (m : Int) (ll : List (List Nat)) (w : World) (hbx : w.cell? ⟨bx, 0, none⟩ = some (.int .i64 m)) (hR : IsRows w (.slice (some ⟨b, off, none⟩) ll.length cap) ll) :
    Calls Try.prog 79 #[.slice (some ⟨b, off, none⟩) ll.length cap, .func (Fn.func 55) #[] #[.pointer (some ⟨bx, 0, none⟩)]] w (Found (!wideB m ll) w) := by
  have hcap : ll.length ≤ 9223372036854775807 := by obtain ⟨_, _, _, h1, h2, _⟩ := hR; omega
  have HR := Lib.hid hR
  clear hR
  go_enter Try.func79, Try.ntmps79
  go_wp2
  go_loop [5, 8] (fun _ i => ∃ k : Nat, k ≤ ll.length ∧ i = .int .i64 k ∧ ∀ j, j < k → ((rowAt ll j).length : Int) = m) (fun _ i => ll.length - (intOf i).toNat)
  case atStart => exact ⟨0, by omega, rfl, fun j hj => by omega⟩
  case round =>
    obtain ⟨k, hk, rfl, hno⟩ := hrel
    have HN := Lib.hid hno
    clear hno
    by_cases hlt : k < ll.length
    · obtain ⟨u, hu, hB⟩ := HR.out.cell k hlt
      obtain ⟨a1, c1, rfl, _⟩ := hB
      by_cases hq : ((rowAt ll k).length : Int) = m
      · have hb : (((rowAt ll k).length : Int) != m) = false := by rw [hq]; simp
        have HQ := Lib.hid hq
        clear hq
        go_wp2_with fail
        refine (of1_any _ _ _ _ _ _ hbx).mono ?_
        rintro e w' ⟨rfl, rfl⟩
        rw [hb]
        go_wp2_with fail
        go_round
        case rel => exact ⟨k + 1, by omega, by go_num, fun j hj => by
          by_cases h : j = k
          · rw [h]; exact HQ.out
          · exact HN.out j (by omega)⟩
        case measure => simp [intOf]; omega
      · have hb : (((rowAt ll k).length : Int) != m) = true := by rw [bne_iff_ne]; exact hq
        have HF := Lib.hid (show (!wideB m ll) = true by
          unfold wideB
          rw [Bool.not_eq_true', decide_eq_false_iff_not]
          exact fun h => hq (h k hlt))
        clear hq
        go_wp2_with fail
        refine (of1_any _ _ _ _ _ _ hbx).mono ?_
        rintro e w' ⟨rfl, rfl⟩
        rw [hb]
        go_wp2_with fail
        go_ret
        exact ⟨k, rfl, by rw [HF.out]; simp, rfl⟩
    · have HF := Lib.hid (show (!wideB m ll) = false by
        unfold wideB
        rw [Bool.not_eq_false', decide_eq_true_eq]
        exact fun i hi => HN.out i (by omega))
      go_wp2_with fail
      go_ret
      exact ⟨-1, rfl, by rw [HF.out]; decide, rfl⟩
theorem idxOf_any (bx : Nat) (m : Int) (v : Value) (ll : List (List Nat)) (w : World) (hbx : w.cell? ⟨bx, 0, none⟩ = some (.int .i64 m)) (hR : IsRows w v ll) :
    Calls Try.prog 54 #[v, .func (Fn.func 55) #[] #[.pointer (some ⟨bx, 0, none⟩)]] w fun e w' => e = .returned (.bool (!wideB m ll)) ∧ w = w' := by
  refine hasAlike_any _ _ _ _ ?_
  by_cases hl : ll.length = 0
  · obtain ⟨a, c, rfl⟩ := hR.shape
    rw [hl]
    have : (!wideB m ll) = false := by
      unfold wideB
      rw [Bool.not_eq_false', decide_eq_true_eq]
      intro i hi; omega
    rw [this]
    exact idxAlike_empty _ _ _ _
  · obtain ⟨a, c, rfl⟩ := hR.shape
    obtain ⟨b, off, u, rfl, _⟩ := hR.row (Below.refl _ _) 0 (by omega)
    exact idxOf_some bx b off c m ll w hbx hR

/-- The rows of what Of answers, and its width. -/
def ofL (m : Int) (ll : List (List Nat)) : List (List Nat) := if ofE m ll = 0 then ll else []
def ofM (m : Int) (ll : List (List Nat)) : Int := if ofE m ll = 0 then m else 0

set_option maxHeartbeats 2000000 in
theorem gof_any (v : Value) (m : Int) (ll : List (List Nat)) (w : World) (hR : IsRows w v ll) (hlen : ll.length ≤ 1000000) :
    Calls Try.prog 11 #[.int .i64 m, v] w (GridE w (ofM m ll) (ofL m ll) (ofE m ll)) := by
  have HR := Lib.hid hR
  obtain ⟨a, c, rfl⟩ := hR.shape
  clear hR
  have fin : ∀ (W : World) (e : Int), e ≠ 0 → ofE m ll = e → Below w.heap.size w W → GridE w (ofM m ll) (ofL m ll) (ofE m ll) (.returned (.tuple #[.agg #[.int .i64 0, .slice none 0 0], I64 e])) W := fun W e he h hb => by
    unfold ofM ofL
    rw [h, if_neg he, if_neg he]
    exact ⟨_, rfl, GridO.zero W _, hb⟩
  have FIN := Lib.hid fin
  clear fin
  by_cases hm : m < 0 ∨ 65536 < m
  · have HE := Lib.hid (show ofE m ll = 2 from if_pos hm)
    rcases hm with hm | hm
    · go_enter Try.func11, Try.ntmps11
      go_wp2_with fail
      obtain ⟨B, hk1, hk2, hs⟩ := blocks2 w #[.int .i64 m] 3 #[.int .i64 0, .slice none 0 0] 26
      generalize ((w.alloc (.cells #[.int .i64 m] 3)).alloc (.cells #[.int .i64 0, .slice none 0 0] 26)) = W at *
      have K1 := Lib.hid hk1
      have K2 := Lib.hid hk2
      have HS := Lib.hid hs
      clear hs hk1 hk2
      have hzW := B.size
      obtain ⟨k20, k21⟩ := K2.out.two
      have k2l := K2.out.lt
      obtain ⟨k2f0, k2f1⟩ := K2.out.fre2
      go_wp2_with fail
      exact bodyPost_ret (v := .tuple #[.agg #[.int .i64 0, .slice none 0 0], I64 2]) (by simp [results, Try.results11, go_sem, k20, k21]) rfl (FIN.out _ 2 (by decide) HE.out B)
    · have hm0 : ¬ m < 0 := by omega
      go_enter Try.func11, Try.ntmps11
      go_wp2_with fail
      obtain ⟨B, hk1, hk2, hs⟩ := blocks2 w #[.int .i64 m] 3 #[.int .i64 0, .slice none 0 0] 26
      generalize ((w.alloc (.cells #[.int .i64 m] 3)).alloc (.cells #[.int .i64 0, .slice none 0 0] 26)) = W at *
      have K1 := Lib.hid hk1
      have K2 := Lib.hid hk2
      have HS := Lib.hid hs
      clear hs hk1 hk2
      have hzW := B.size
      have c0 : W.cell? ⟨w.heap.size, 0, none⟩ = some (.int .i64 m) := K1.out.cell 0
      obtain ⟨k20, k21⟩ := K2.out.two
      have k2l := K2.out.lt
      obtain ⟨k2f0, k2f1⟩ := K2.out.fre2
      go_wp2_with fail
      exact bodyPost_ret (v := .tuple #[.agg #[.int .i64 0, .slice none 0 0], I64 2]) (by simp [results, Try.results11, go_sem, k20, k21]) rfl (FIN.out _ 2 (by decide) HE.out B)
  · have hm0 : ¬ m < 0 := by omega
    have hm1 : ¬ 65536 < m := by omega
    by_cases hmany : (65536 < (ll.length : Int) ∨ 65536 < (ll.length : Int) * m)
    · have HE := Lib.hid (show ofE m ll = 5 by
        unfold ofE
        rw [if_neg hm, if_pos (by omega)])
      have HT := Lib.hid (decide_eq_true hmany)
      clear hm hmany
      go_enter Try.func11, Try.ntmps11
      go_wp2_with fail
      obtain ⟨B, hk1, hk2, hs⟩ := blocks2 w #[.int .i64 m] 3 #[.int .i64 0, .slice none 0 0] 26
      generalize ((w.alloc (.cells #[.int .i64 m] 3)).alloc (.cells #[.int .i64 0, .slice none 0 0] 26)) = W at *
      have K1 := Lib.hid hk1
      have K2 := Lib.hid hk2
      have HS := Lib.hid hs
      clear hs hk1 hk2
      have hzW := B.size
      have c0 : W.cell? ⟨w.heap.size, 0, none⟩ = some (.int .i64 m) := K1.out.cell 0
      obtain ⟨k20, k21⟩ := K2.out.two
      have k2l := K2.out.lt
      obtain ⟨k2f0, k2f1⟩ := K2.out.fre2
      go_wp2_with fail
      refine (many_any (ll.length : Int) m _ (by omega) (by omega) (by omega)).mono ?_
      rintro e w' ⟨rfl, rfl⟩
      rw [HT.out]
      go_wp2_with fail
      obtain ⟨e0, e1, hB, _⟩ := store2 K2.out (Nat.le_succ _) B (int_ne _ _ (by decide)) (slice_ne _ _ _) (.int .i64 0) (.slice none 0 0)
      exact bodyPost_ret (v := .tuple #[.agg #[.int .i64 0, .slice none 0 0], I64 5]) (by simp [results, Try.results11, go_sem, e0, e1]) rfl (FIN.out _ 5 (by decide) HE.out hB)
    · have HT := Lib.hid (decide_eq_false hmany)
      cases hw : wideB m ll with
      | false =>
        have HE := Lib.hid (show ofE m ll = 4 by
          unfold ofE
          rw [if_neg hm, if_neg (by omega), if_neg]
          unfold wideB at hw
          exact of_decide_eq_false hw)
        have HWD := Lib.hid (show (!wideB m ll) = true by rw [hw]; rfl)
        clear hm hmany hw
        go_enter Try.func11, Try.ntmps11
        go_wp2_with fail
        obtain ⟨B, hk1, hk2, hs⟩ := blocks2 w #[.int .i64 m] 3 #[.int .i64 0, .slice none 0 0] 26
        generalize ((w.alloc (.cells #[.int .i64 m] 3)).alloc (.cells #[.int .i64 0, .slice none 0 0] 26)) = W at *
        have K1 := Lib.hid hk1
        have K2 := Lib.hid hk2
        have HS := Lib.hid hs
        clear hs hk1 hk2
        replace HR := Lib.hid (HR.out.go B)
        have hzW := B.size
        have c0 : W.cell? ⟨w.heap.size, 0, none⟩ = some (.int .i64 m) := K1.out.cell 0
        obtain ⟨k20, k21⟩ := K2.out.two
        have k2l := K2.out.lt
        obtain ⟨k2f0, k2f1⟩ := K2.out.fre2
        go_wp2_with fail
        refine (many_any (ll.length : Int) m _ (by omega) (by omega) (by omega)).mono ?_
        rintro e w' ⟨rfl, rfl⟩
        rw [HT.out]
        go_wp2_with fail
        refine (idxOf_any _ m _ ll _ c0 HR.out).mono ?_
        rintro e w' ⟨rfl, rfl⟩
        rw [HWD.out]
        go_wp2_with fail
        obtain ⟨e0, e1, hB, _⟩ := store2 K2.out (Nat.le_succ _) B (int_ne _ _ (by decide)) (slice_ne _ _ _) (.int .i64 0) (.slice none 0 0)
        exact bodyPost_ret (v := .tuple #[.agg #[.int .i64 0, .slice none 0 0], I64 4]) (by simp [results, Try.results11, go_sem, e0, e1]) rfl (FIN.out _ 4 (by decide) HE.out hB)
      | true =>
        have hw2 : ∀ i, i < ll.length → ((rowAt ll i).length : Int) = m := by
          unfold wideB at hw
          exact of_decide_eq_true hw
        have HE := Lib.hid (show ofE m ll = 0 by
          unfold ofE
          rw [if_neg hm, if_neg (by omega), if_pos hw2])
        have HWD := Lib.hid (show (!wideB m ll) = false by rw [hw]; rfl)
        have HLN := Lib.hid (show ∀ i, i < ll.length → (rowAt ll i).length ≤ 1000000000 from fun i hi => by have := hw2 i hi; omega)
        clear hm hmany hw hw2
        go_enter Try.func11, Try.ntmps11
        go_wp2_with fail
        have HR0 := HR
        obtain ⟨B, hk1, hk2, hs⟩ := blocks2 w #[.int .i64 m] 3 #[.int .i64 0, .slice none 0 0] 26
        generalize ((w.alloc (.cells #[.int .i64 m] 3)).alloc (.cells #[.int .i64 0, .slice none 0 0] 26)) = W at *
        have K1 := Lib.hid hk1
        have K2 := Lib.hid hk2
        have HS := Lib.hid hs
        clear hs hk1 hk2
        replace HR := Lib.hid (HR.out.go B)
        have hzW := B.size
        have c0 : W.cell? ⟨w.heap.size, 0, none⟩ = some (.int .i64 m) := K1.out.cell 0
        go_wp2_with fail
        refine (many_any (ll.length : Int) m _ (by omega) (by omega) (by omega)).mono ?_
        rintro e w' ⟨rfl, rfl⟩
        rw [HT.out]
        go_wp2_with fail
        refine (idxOf_any _ m _ ll _ c0 HR.out).mono ?_
        rintro e w' ⟨rfl, rfl⟩
        rw [HWD.out]
        go_wp2_with fail
        have hgW : w.heap.size + 1 < W.heap.size := K2.out.lt
        have hpr0 : Blk W.drew (w.heap.size + 1) #[.int .i64 0, .slice none 0 0] 26 := K2.out
        refine wp_region_mono (C := Ce W (w.heap.size + 1)) (R := Rb) (H := He W (w.heap.size + 1)) [TyE.val 22 (.int .i64 m), TyE.val 23 (.slice a ll.length c), (TyE.rowsm 24 W.heap.size hgW ll), (TyE.grido 25 W.heap.size hgW m ll), (TyE.storesGrid (.int .i64 0) (.slice none 0 0) W.heap.size m ll), TyE.val 5 (.int .i64 0)] (by kernel_rfl) (hC_e W (w.heap.size + 1)) (hCH_e W (w.heap.size + 1)) (drew_e W (w.heap.size + 1)) ⟨trivial, trivial, trivial, trivial, (hpr0), trivial, trivial⟩ (by kernel_rfl) ?_ ?_
        · refine ⟨?_, ?_, ?_, ?_, ?_, ?_, trivial⟩
          · intro ac wc hC hsz hfr hd hpr
            have d2 : ac.eval (.tmp 2) = (.pointer (some ⟨w.heap.size, 0, none⟩)) := hfr 2 rfl
            rw [if_pos (wanted_none rfl)]
            exact ob_load _ rfl rfl rfl (Nat.lt_of_lt_of_eq (by decide : 22 < 26) hsz.symm) rfl d2 (load_int (hC.1.cell c0 (by simp))) (Below.refl _ _) rfl
          · intro ac wc hC hsz hfr hd hpr
            have d1 : ac.eval (.tmp 1) = (.slice a ll.length c) := hfr 1 rfl
            rw [if_pos (wanted_none rfl)]
            exact ob_copy rfl rfl rfl (Nat.lt_of_lt_of_eq (by decide : 23 < 26) hsz.symm) (Or.inl rfl) (Below.refl _ _) d1
          · intro ac wc hC hsz hfr hd hpr
            have d23 : ac.eval (.tmp 23) = (.slice a ll.length c) := hd 1 rfl
            rw [if_pos (wanted_none rfl)]
            refine ob_call rfl rfl rfl (Nat.lt_of_lt_of_eq (by decide : 24 < 26) hsz.symm) rfl (enter_of Try.func56 (by kernel_rfl) rfl) ?_
            show Calls Try.prog 56 #[ac.eval (.tmp 23)] wc _
            rw [d23]
            exact (cloned_any _ ll wc (HR0.out.below (Nat.le_refl _) (below_grown B hC.1 B.size (Nat.le_succ _))) (by omega) HLN.out).mono fun e w' ⟨v', he, ho, hb⟩ => ⟨v', he, ho.mono hC.1.size, hb⟩
          · intro ac wc hC hsz hfr hd hpr
            have d22 : ac.eval (.tmp 22) = (.int .i64 m) := hd 0 rfl
            have d24 : OwnM wc W.heap.size 35 (ac.eval (.tmp 24)) ll := hd 2 rfl
            rw [if_pos (wanted_none rfl)]
            have hlt : 25 < ac.tmps.size := (Nat.lt_of_lt_of_eq (by decide : 25 < 26) hsz.symm)
            obtain ⟨pa, pc, e24⟩ := d24.shape
            rw [e24] at d24
            exact ob_build2 _ rfl rfl rfl hlt rfl d22 e24 build_grid (Below.refl _ _) ⟨_, rfl, d24⟩
          · intro ac wc hC hsz hfr hd hpr
            have d4 : ac.eval (.tmp 4) = (.pointer (some ⟨w.heap.size + 1, 0, none⟩)) := hfr 4 rfl
            have d25 : GridO wc W.heap.size (ac.eval (.tmp 25)) m ll := hd 3 rfl
            rw [if_pos (wanted_none rfl)]
            have hlt : 0 < ac.tmps.size := (Nat.lt_of_lt_of_eq (by decide : 0 < 26) hsz.symm)
            exact ob_storesGrid rfl d4 d25 hpr (int_ne _ _ (by decide)) (slice_ne _ _ _) hgW
          · intro ac wc hC hsz hfr hd hpr
            rw [if_pos (wanted_none rfl)]
            exact ob_copy rfl rfl rfl (Nat.lt_of_lt_of_eq (by decide : 5 < 26) hsz.symm) (Or.inr rfl) (Below.refl _ _) rfl
        intro a' W2 hC hdef hsz hfr hd
        have e22 : a'.eval (.tmp 22) = (.int .i64 m) := hd 0 (by decide)
        have e23 : a'.eval (.tmp 23) = (.slice a ll.length c) := hd 1 (by decide)
        obtain ⟨x24, e24, r24⟩ : ∃ xq_, a'.eval (.tmp 24) = xq_ ∧ OwnM W2 W.heap.size 35 (xq_) ll := ⟨_, rfl, hd 2 (by decide)⟩
        replace r24 := Lib.hid r24
        obtain ⟨x25, e25, r25⟩ : ∃ xq_, a'.eval (.tmp 25) = xq_ ∧ GridO W2 W.heap.size (xq_) m ll := ⟨_, rfl, hd 3 (by decide)⟩
        replace r25 := Lib.hid r25
        have st4 : GridIn W2 (w.heap.size + 1) W.heap.size m ll := hd 4 (by decide)
        replace st4 := Lib.hid st4
        have e5 : a'.eval (.tmp 5) = (.int .i64 0) := hd 5 (by decide)
        have hact := act_puts hdef hsz hfr
        simp only [dstsOf, List.filterMap, putAll, Act.put, List.setIfInBounds_toArray, List.set_cons_succ, List.set_cons_zero, e22, e23, e24, e25, e5] at hact
        clear hd hfr hsz hdef e22 e23 e24 e25 e5
        subst hact
        have HB2 := Lib.hid (below_grown B hC.1 B.size (Nat.le_succ _))
        obtain ⟨xa, xc, hx, hxo⟩ := st4.out
        obtain ⟨x0, x1⟩ := hx.two
        have HXO := Lib.hid hxo
        clear hC hx hxo
        go_wp2_with fail
        exact bodyPost_ret (v := .tuple #[.agg #[.int .i64 m, .slice xa ll.length xc], I64 0]) (by simp [results, Try.results11, go_sem, x0, x1]) rfl (by
          unfold ofM ofL
          rw [HE.out, if_pos rfl, if_pos rfl]
          exact ⟨_, rfl, ⟨_, rfl, HXO.out.mono B.size⟩, HB2.out⟩)

end Go.Proofs.Ytohfcdgpllghbaa

/-
  Grids in the program (layer 7): 'Unit'.
-/
set_option maxRecDepth 100000
namespace Go.Proofs.Ytohfcdgpllghbaa
open Go.RowKit

/-- The unit's rows. -/
def unitG (n : Nat) : List (List Nat) := (List.range n).map (unitL n)
theorem unitG_length (n : Nat) : (unitG n).length = n := by simp [unitG]
theorem unitG_at {n i : Nat} (h : i < n) : rowAt (unitG n) i = unitL n i := by
  rw [rowAt_eq _ _ (by rw [unitG_length]; exact h)]
  simp [unitG]
def unitM (n : Int) : Int := if n < 0 ∨ 256 < n then 0 else n
def unitR (n : Int) : List (List Nat) := if n < 0 ∨ 256 < n then [] else unitG n.toNat
def unitC (n : Int) : Int := if n < 0 ∨ 256 < n then 2 else 0

set_option maxHeartbeats 2000000 in
theorem gunit_in (n : Nat) (w : World) (hn : n ≤ 256) :
    Calls Try.prog 12 #[.int .i64 (n : Int)] w (GridE w (n : Int) (unitG n) 0) := by
  have hmk := make_rows n (by omega)
  have h0 : ¬ (n : Int) < 0 := by omega
  have h1 : ¬ 256 < (n : Int) := by omega
  go_enter Try.func12, Try.ntmps12
  go_wp2_with fail
  obtain ⟨B, hk1, hk, hs⟩ := blocks2 w #[.int .i64 0, .slice none 0 0] 26 (Array.replicate n (.slice none 0 0)) 35
  generalize (w.alloc (.cells #[.int .i64 0, .slice none 0 0] 26)).alloc (.cells (Array.replicate n (.slice none 0 0)) 35) = W2 at *
  obtain ⟨g, hg⟩ : ∃ g : Nat, g = w.heap.size + 1 := ⟨_, rfl⟩
  rw [← hg] at hk
  simp only [← hg]
  have HM := Lib.hid (OwnM.made hk (Nat.le_refl g) (by omega : n ≤ 1000000000))
  have HGW := Lib.hid (show w.heap.size < g by omega)
  have HK1 := Lib.hid hk1
  clear hk1 hk hs hmk hg
  go_loopw [5, 17] (fun _ i wr => ∃ k : Nat, k ≤ n ∧ i = .int .i64 k ∧ Below w.heap.size w wr ∧ Blk wr w.heap.size #[.int .i64 0, .slice none 0 0] 26 ∧ OwnM wr g 35 (whole g n) (fillM (unitG n) k)) (fun _ i _ => n - (intOf i).toNat)
  case atStart => exact ⟨0, by omega, rfl, B, HK1.out, by rw [fillM_zero, unitG_length]; exact HM.out⟩
  case round =>
    clear B HM HK1
    obtain ⟨k, hk, rfl, B, hK, hO⟩ := hrel
    have HO := Lib.hid hO
    have HK := Lib.hid hK
    clear hO hK
    by_cases hlt : k < n
    · have k0 : (0 : Int) ≤ (k : Int) := Int.natCast_nonneg _
      have k1 : (k : Int) < (n : Int) := by omega
      have HL := Lib.hid (show k < (fillM (unitG n) k).length by rw [fillM_length (by rw [unitG_length]; exact hk), unitG_length]; exact hlt)
      have HS := Lib.hid (fillM_set (R := unitG n) (k := k) (by rw [unitG_length]; exact hlt))
      rw [unitG_at hlt] at HS
      go_wp2_with fail
      refine (unit_in n k _ hlt (by omega)).mono ?_
      rintro e w2 ⟨v2, rfl, hv2, hb⟩
      replace HO := Lib.hid (HO.out.go hb)
      replace HK := Lib.hid (HK.out.go hb)
      replace B := B.trans (hb.mono B.size)
      have hzw2 := B.size
      clear hb
      have HV := Lib.hid hv2
      obtain ⟨xa, xc, rfl, _⟩ := hv2
      obtain ⟨a9, d9, c9, _⟩ := HO.out.cell k HL.out
      have f9 := HO.out.free k
      go_wp2_with fail
      obtain ⟨o1, s1, g1⟩ := HO.out.set k HL.out HV.out
      rw [HS.out] at o1
      have HO1 := Lib.hid o1
      have HK1 := Lib.hid (HK.out.grown g1 (by have := HGW.out; simp; omega))
      have HB1 := Lib.hid (below_grown B g1 B.size (Nat.le_of_lt HGW.out))
      clear o1 s1 g1
      go_roundw
      case rel => exact ⟨k + 1, by omega, by go_num, HB1.out, HK1.out, HO1.out⟩
      case measure => simp [intOf]; omega
    · obtain rfl : k = n := by omega
      rw [show fillM (unitG k) k = unitG k by rw [show fillM (unitG k) k = fillM (unitG k) (unitG k).length by rw [unitG_length], fillM_all]] at HO
      obtain ⟨k10, k11⟩ := HK.out.two
      obtain ⟨f10, f11⟩ := HK.out.fre2
      go_wp2_with fail
      have hln := unitG_length k
      obtain ⟨⟨q1, _⟩, xa, xc, q2, q3⟩ := store_grid (m := (k : Int)) (B := g) HK.out (int_ne _ _ (by decide)) (slice_ne _ _ _) HGW.out HO.out
      obtain ⟨e0, e1⟩ := q2.two
      have hB := below_grown B q1 B.size (Nat.le_refl _)
      exact bodyPost_ret (v := .tuple #[.agg #[.int .i64 (k : Int), .slice xa (unitG k).length xc], I64 0]) (by simp [results, Try.results12, go_sem, e0, e1]) rfl
        ⟨_, rfl, ⟨_, rfl, q3.mono (Nat.le_of_lt HGW.out)⟩, hB⟩
set_option maxHeartbeats 1000000 in
theorem gunit_out (n : Int) (w : World) (h : n < 0 ∨ (¬ n < 0 ∧ 256 < n)) :
    Calls Try.prog 12 #[.int .i64 n] w (GridE w 0 [] 2) := by
  rcases h with h | ⟨h0, h⟩
  · go_enter Try.func12, Try.ntmps12
    go_wp2_with fail
    obtain ⟨B, hk1, hs⟩ := blocks1 w #[.int .i64 0, .slice none 0 0] 26
    generalize (w.alloc (.cells #[.int .i64 0, .slice none 0 0] 26)) = W at *
    have K1 := Lib.hid hk1
    have HS := Lib.hid hs
    clear hs hk1
    have hzW := B.size
    obtain ⟨k10, k11⟩ := K1.out.two
    have k1l := K1.out.lt
    obtain ⟨k1f0, k1f1⟩ := K1.out.fre2
    go_wp2_with fail
    exact bodyPost_ret (v := .tuple #[.agg #[.int .i64 0, .slice none 0 0], I64 2]) (by simp [results, Try.results12, go_sem, k10, k11]) rfl ⟨_, rfl, GridO.zero _ _, B⟩
  · go_enter Try.func12, Try.ntmps12
    go_wp2_with fail
    obtain ⟨B, hk1, hs⟩ := blocks1 w #[.int .i64 0, .slice none 0 0] 26
    generalize (w.alloc (.cells #[.int .i64 0, .slice none 0 0] 26)) = W at *
    have K1 := Lib.hid hk1
    have HS := Lib.hid hs
    clear hs hk1
    have hzW := B.size
    obtain ⟨k10, k11⟩ := K1.out.two
    have k1l := K1.out.lt
    obtain ⟨k1f0, k1f1⟩ := K1.out.fre2
    go_wp2_with fail
    exact bodyPost_ret (v := .tuple #[.agg #[.int .i64 0, .slice none 0 0], I64 2]) (by simp [results, Try.results12, go_sem, k10, k11]) rfl ⟨_, rfl, GridO.zero _ _, B⟩
theorem gunit_any (n : Int) (w : World) : Calls Try.prog 12 #[.int .i64 n] w (GridE w (unitM n) (unitR n) (unitC n)) := by
  unfold unitM unitR unitC
  by_cases h : n < 0 ∨ 256 < n
  · rw [if_pos h, if_pos h, if_pos h]
    exact gunit_out n w (by omega)
  · rw [if_neg h, if_neg h, if_neg h]
    obtain ⟨k, rfl⟩ : ∃ k : Nat, n = (k : Int) := ⟨n.toNat, by omega⟩
    rw [Int.toNat_natCast]
    exact gunit_in k w (by omega)

end Go.Proofs.Ytohfcdgpllghbaa

/-
  A region that draws its order, reads one block of bytes that the call made itself, and writes it at last.
-/
set_option maxRecDepth 100000
namespace Go.Proofs.Ytohfcdgpllghbaa
open Go.RowKit

/-- The worlds behind W in which of what was there nothing has turned but block g. -/
abbrev Cgo (W : World) (g : Nat) : World → Prop := fun w => W.grownBy w (some g)
abbrev Hgo (g : Nat) : Nat → World → World → Prop := fun _ w w' => w.grownBy w' (some g)
theorem hC_go (W : World) (g : Nat) : ∀ w w', Cgo W g w → Rb w w' → Cgo W g w' := fun _ _ h h' => grown_trans h (grown_of_below h' _)
theorem hCH_go (W : World) (g : Nat) : ∀ (c : Nat) w w', Cgo W g w → Hgo g c w w' → Cgo W g w' := fun _ _ _ h h' => grown_trans h h'
theorem drew_go (W : World) (g : Nat) : Cgo W g W.drew := grown_of_below ((Below.refl _ _).drew) _

section
variable {W : World} {g : Nat}
/-- A load from the block: ahead, it holds this. -/
def TyG.reads (t : Tmp) (v : Value) (l : List Nat) : Ty (Cgo W g) Rb (Hgo g) :=
  { Ty.val t v with Pre := fun w => Own w g l, okP := fun _ => false, preUp := fun _ _ _ hR h => h.go hR, preH := (fun _ e => by cases e) }
/-- The store: what the block holds ahead, and behind. -/
def TyG.stores (l l' : List Nat) : Ty (Cgo W g) Rb (Hgo g) :=
  ⟨[], fun _ w => Own w g l', some 0, fun _ => false, fun _ _ _ _ h2 h3 => h3.go h2, (fun _ e => by cases e), fun w => Own w g l, fun _ => false, fun _ _ _ h2 h3 => h3.go h2, (fun _ e => by cases e)⟩
end

/-- Bytes elsewhere than block g are as they were. -/
theorem Bytes.cgo {W w : World} {g : Nat} {v : Value} {l : List Nat} (h : Bytes W v l) (hC : Cgo W g w) (hg : v.ownBlock ≠ some g) : Bytes w v l := h.grown hC (.inr hg)
theorem store_u8 {w : World} {g k x y : Nat} (h : w.cell? ⟨g, k, none⟩ = some (U8 y)) (hf : w.frozen? ⟨g, k, none⟩ = false) : (Instr.storeAt 5 (.pointer (some ⟨g, k, none⟩)) (U8 x)).run Try.prog w = .ok () (w.setCell ⟨g, k, none⟩ (U8 x)) := by
  go_simp
theorem xor_u8 {x y : Operand} {a b c : Int} (h : bits BinOp.xor IntKind.u8 a b = c) (w : World) : (do eqGuard .xor 5 x y (.int .u8 a) (.int .u8 b); binOp .xor 5 (.int .u8 a) (.int .u8 b) : Sem Value).run Try.prog w = .ok (.int .u8 c) w := by
  subst h; go_simp

end Go.Proofs.Ytohfcdgpllghbaa

/-
  The document's answer for grids (wellspringref07), in the program: 'Turned', 'Mul'.
-/
set_option maxRecDepth 100000
namespace Go.Proofs.Ytohfcdgpllghbaa
open Go.RowKit

/-- The columns as rows. -/
def colL (ll : List (List Nat)) (i : Nat) : List Nat := ll.map fun r => nth r i
def turnedL (ll : List (List Nat)) (m : Nat) : List (List Nat) := (List.range m).map (colL ll)
theorem turnedL_succ (ll : List (List Nat)) (m : Nat) : turnedL ll (m + 1) = turnedL ll m ++ [colL ll m] := by simp [turnedL, List.range_succ]
theorem turnedL_length (ll : List (List Nat)) (m : Nat) : (turnedL ll m).length = m := by simp [turnedL]
theorem colL_take (ll : List (List Nat)) (i k : Nat) (h : k < ll.length) : colL (ll.take (k + 1)) i = colL (ll.take k) i ++ [nth (rowAt ll k) i] := by
  unfold colL; rw [take_rowAt ll k h, List.map_append]; rfl
theorem colL_length (ll : List (List Nat)) (i : Nat) : (colL ll i).length = ll.length := by simp [colL]
/-- Rows of bytes. -/
def OctM (ll : List (List Nat)) : Prop := ∀ r ∈ ll, ∀ x, x ∈ r → x < 256
theorem IsRows.oct {w : World} {v : Value} {ll : List (List Nat)} (h : IsRows w v ll) : OctM ll := by
  obtain ⟨a, cap, rfl, _, _, h4⟩ := h
  intro r hr x hx
  obtain ⟨i, hi, rfl⟩ := List.mem_iff_getElem.1 hr
  obtain ⟨b, off, _, _, hc⟩ := h4 (by intro e; rw [e] at hi; simp at hi)
  obtain ⟨u, _, hB⟩ := hc i hi
  rw [rowAt_eq ll i hi] at hB
  exact hB.lt x hx
theorem colL_lt {ll : List (List Nat)} (h : OctM ll) (i : Nat) : ∀ x, x ∈ colL ll i → x < 256 := by
  intro x hx
  obtain ⟨r, hr, rfl⟩ := List.mem_map.1 hx
  exact nth_lt (h r hr) i

set_option maxHeartbeats 1000000 in
theorem refturned_any (v : Value) (ll : List (List Nat)) (m : Nat) (w : World) (hR : IsRows w v ll) (hW : ∀ j, j < ll.length → (rowAt ll j).length = m) (hm : m ≤ 1000000) (hlen : ll.length ≤ 1000000) :
    Calls Try.prog 23 #[v, .int .i64 (m : Int)] w fun e w' => ∃ v', e = .returned v' ∧ OwnM w' w.heap.size 35 v' (turnedL ll m) ∧ Below w.heap.size w w' := by
  have HR := Lib.hid hR
  have HO := Lib.hid hR.oct
  have HW := Lib.hid hW
  obtain ⟨a, c, rfl⟩ := hR.shape
  clear hR hW
  go_enter Try.func23, Try.ntmps23
  go_wp2_with fail
  go_loopw [5, 6, 7, 9] (fun v i _ _ wr => ∃ n : Nat, n ≤ m ∧ i = .int .i64 n ∧ OwnM wr w.heap.size 35 v (turnedL ll n) ∧ Below w.heap.size w wr) (fun _ i _ _ _ => m - (intOf i).toNat)
  case atStart => exact ⟨0, by omega, rfl, OwnM.nil _ _ _, Below.refl _ _⟩
  case round =>
    obtain ⟨n, hn, rfl, hM, B⟩ := hrel
    have HM := Lib.hid hM
    obtain ⟨va, vc, rfl⟩ := hM.shape
    clear hM
    have hz := B.size
    have HLT := Lib.hid (turnedL_length ll n)
    by_cases hlt : n < m
    · obtain ⟨w1, hw1⟩ : ∃ w1 : World, w1 = wr := ⟨_, rfl⟩
      subst hw1
      go_wp2_with fail
      go_loopw [7, 9, 17] (fun v _ i wr => ∃ k : Nat, k ≤ ll.length ∧ i = .int .i64 k ∧ Owns wr w1.heap.size v (colL (ll.take k) n) ∧ Below w1.heap.size w1 wr) (fun _ _ i _ => ll.length - (intOf i).toNat)
      case atStart => exact ⟨0, by omega, rfl, Owns.nil _ _, Below.refl _ _⟩
      case round =>
        obtain ⟨k, hk, rfl, hown, B1⟩ := hrel
        have HOW := Lib.hid hown
        clear hown
        have hz1 := B1.size
        by_cases hkl : k < ll.length
        · obtain ⟨b, off, u, rfl, hu, hB⟩ := HR.out.row (B.trans (B1.mono hz)) k hkl
          obtain ⟨ua, uc, rfl, _⟩ := id hB
          have hl := HW.out k hkl
          obtain ⟨ub, uo, rfl, hcell⟩ := hB.at n (by omega)
          have n0 : (0 : Int) ≤ (n : Int) := Int.natCast_nonneg _
          have n1 : (n : Int) < ((rowAt ll k).length : Int) := by omega
          have k0 : (0 : Int) ≤ (k : Int) := Int.natCast_nonneg _
          have HCL := Lib.hid (colL_length (ll.take k) n)
          have HST := Lib.hid (colL_take ll n k hkl)
          clear hB hl
          go_wp2_with (at_builtin; refine wpList_append_byte rfl (.tmp 21) (.tmp 26) rfl w1.heap.size wr.heap.size _ _ (nth (rowAt ll k) n) 5 rfl rfl rfl HOW.out ?c1 ?c2 ?_)
          case c1 => exact hz1
          case c2 => rw [HCL.out]; simp; omega
          intro v' w2 hown2 hgr
          rw [← HST.out] at hown2
          have HO2 := Lib.hid hown2
          have HG := Lib.hid (B1.grown hgr hz1 HOW.out.from)
          clear hown2 hgr
          go_wp2_with fail
          go_roundw
          case rel => exact ⟨k + 1, by omega, by go_num, HO2.out, HG.out⟩
          case measure => simp [intOf]; omega
        · obtain rfl : k = ll.length := by omega
          rw [List.take_length] at HOW
          obtain ⟨ua, un, uc, rfl⟩ := HOW.out.shape
          have HBY := Lib.hid (HOW.out.bytes (colL_lt HO.out n))
          replace HM := Lib.hid (HM.out.go B1)
          have HST := Lib.hid (turnedL_succ ll n)
          replace B := B.trans (B1.mono hz)
          have hzr := B.size
          go_wp2_with (at_builtin; refine wpList_append_m rfl (.tmp 29) (.tmp 31) rfl w.heap.size wr.heap.size _ _ (turnedL ll n) (colL ll n) 35 rfl rfl rfl HBY.out HM.out ?c3 ?c4 ?_)
          case c3 => exact hzr
          case c4 => rw [HLT.out]; omega
          intro v' w2 hown2 hgr hs2
          rw [← HST.out] at hown2
          have HO2 := Lib.hid hown2
          have HG := Lib.hid ((B.alloc hzr _).grown hgr (by simp; omega) HM.out.from)
          clear hown2 hgr hs2
          go_wp2_with fail
          go_roundw
          case rel => exact ⟨n + 1, by omega, by go_num, HO2.out, HG.out⟩
          case measure => simp [intOf]; omega
    · obtain rfl : n = m := by omega
      go_wp2_with fail
      go_ret
      exact ⟨_, rfl, HM.out, B⟩

end Go.Proofs.Ytohfcdgpllghbaa
