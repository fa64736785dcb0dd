/- Texts of one seat, laid together: MonoN, SolveD, LawSeven, LawEightC, LawNineB, LawEightG, RefSolveC, SolveC, RowOct. -/
import Derived.Test.YtphdadibfeencaaGreatSolveHoldsQ21
import Derived.Test.YtphdadibfeencaaGreatSolveHoldsQ22
import Derived.Test.YtphdadibfeencaaGreatSolveHoldsQ20
import Derived.Test.YtphdadibfeencaaGreatSolveHoldsQ17
import Derived.Test.YtphdadibfeencaaGreatSolveHoldsQ19
import Derived.Test.YtphdadibfeencaaGreatSolveHoldsQ18
import Derived.Test.YtphdadibfeencaaGreatSolveHoldsQ15
import Derived.Test.YtphdadibfeencaaGreatSolveHoldsQ10
import Derived.Test.YtphdadibfeencaaGreatSolveHoldsQ16
import Derived.Test.YtphdadibfeencaaGreatSolveHoldsQ7
import Derived.Test.YtphdadibfeencaaGreatSolveHoldsQ8
import Derived.Test.YtphdadibfeencaaGreatSolveHoldsQ5
import Derived.Test.YtphdadibfeencaaGreatSolveHoldsQ11
import Derived.Test.YtphdadibfeencaaGreatSolveHoldsQ3
import Derived.Test.YtphdadibfeencaaGreatSolveHoldsQ4
import Derived.Test.YtphdadibfeencaaGreatSolveHoldsQ9

/-
  A region that draws its order, makes a list of numbers and a box for a result, and writes the box.
-/
set_option maxRecDepth 100000
namespace Go.Proofs.YtphdadibfeencaaGreat
open Go.RowKit

/-- A step that writes a box of one number which was made behind W. -/
def Hn (W : World) (_ : Nat) (w w' : World) : Prop := ∃ g a n c a' n' c', W.heap.size ≤ g ∧ Blk w g #[.slice a n c] 40 ∧ w.grownBy w' (some g) ∧ Blk w' g #[.slice a' n' c'] 40
theorem hCH_n (W : World) : ∀ (c : Nat) w w', Cb W w → Hn W c w w' → Cb W w' := fun _ _ _ h ⟨_, _, _, _, _, _, _, hg, _, hw, _⟩ => below_grown h hw h.size hg
theorem IsNat.hn {W w w' : World} {c : Nat} {u : Value} {n : Nat} (h : IsNat w u n) (hh : Hn W c w w') : IsNat w' u n := by
  obtain ⟨g, a, m, c, _, _, _, _, hk, hg, _⟩ := hh
  exact h.box hk hg

variable {W : World}
/-- A number. -/
def Ty.nat (t : Tmp) (n : Nat) : Ty (Cb W) Rb (Hn W) := Ty.one t (fun v w => IsNat w v n) (fun _ _ _ _ hR h => h.go hR) (fun _ _ _ _ _ hH h => h.hn hH)
/-- A number and an error's. -/
def Ty.natE (t : Tmp) (n : Nat) (err : Int) : Ty (Cb W) Rb (Hn W) := Ty.one t (fun v w => ∃ u, v = .tuple #[u, .int .i64 err] ∧ IsNat w u n) (fun _ _ _ _ hR ⟨u, e, h⟩ => ⟨u, e, h.go hR⟩) (fun _ _ _ _ _ hH ⟨u, e, h⟩ => ⟨u, e, h.hn hH⟩)
/-- A box for a number, made anew. -/
def Made (W w : World) (v : Value) : Prop := ∃ g a n c, v = .pointer (some ⟨g, 0, none⟩) ∧ W.heap.size ≤ g ∧ Blk w g #[.slice a n c] 40
theorem Made.hn {w w' : World} {c : Nat} {v : Value} (h : Made W w v) (hh : Hn W c w w') : Made W w' v := by
  obtain ⟨g, a, n, c, e, hg, hk⟩ := h
  obtain ⟨g', a', n', c', a2, n2, c2, _, hk', hw, hk2⟩ := hh
  by_cases h : g = g'
  · subst h; exact ⟨g, a2, n2, c2, e, hg, hk2⟩
  · exact ⟨g, a, n, c, e, hg, hk.grown hw (by simpa using h)⟩
def Ty.made (t : Tmp) : Ty (Cb W) Rb (Hn W) := Ty.one t (fun v w => Made W w v) (fun _ _ _ _ hR ⟨g, a, n, c, e, hg, hk⟩ => ⟨g, a, n, c, e, hg, hk.go hR⟩) (fun _ _ _ _ _ hH h => h.hn hH)
/-- What the box holds at last. -/
def Filled (W w : World) (v : Value) (x : Nat) : Prop := ∃ g a n c, v = .pointer (some ⟨g, 0, none⟩) ∧ W.heap.size ≤ g ∧ Blk w g #[.slice a n c] 40 ∧ IsNat w (.agg #[.slice a n c]) x
def Ty.filled (t : Tmp) (x : Nat) : Ty (Cb W) Rb (Hn W) :=
  ⟨[t], fun vs w => Filled W w (vs.headD undef) x, some 0, fun _ => false, fun _ _ _ _ hR ⟨g, a, n, c, e, hg, hk, hn⟩ => ⟨g, a, n, c, e, hg, hk.go hR, hn.go hR⟩, (fun _ e => by cases e), fun _ => True, fun _ => true, fun _ _ _ _ _ => trivial, (fun _ _ _ _ _ _ _ => trivial)⟩

section
variable {P : Program} {C : World → Prop} {R : World → World → Prop} {H : Nat → World → World → Prop} {a : Act} {w : World} {o : Oper} {Q : Exit → Act → World → Prop}
/-- A store by a temporary of which is told. -/
theorem ob_store1 {T : Ty C R H} {t : Tmp} {c : Nat} {E : TypeId} {y : Operand} {p q : Value} (w1 : World) (hS : T.S = [t]) (hh : T.kind = some c) (hd : o.dst = none) (hop : o.op = .store E (.tmp t) y) (hx : a.eval (.tmp t) = p) (hy : a.eval y = q)
    (hrun : (Instr.storeAt E p q).run P w = .ok () w1) (hH : H c w w1) (hF : T.F [p] w1) : Done P T Q o a w := by
  unfold Done Oper.wp
  have e : (execOp a.eval o).run P w = .ok .skip w1 := by simp [execOp, hop, hx, hy, hrun]
  rw [e]
  refine ⟨undef, rfl, by unfold stepR; rw [hh]; exact hH, ?_⟩
  rw [hS, List.map_cons, List.map_nil, hd]
  show T.F [a.eval (.tmp t)] w1
  rw [hx]
  exact hF
end

theorem store_nat {w : World} {g : Nat} {a0 a1 : Option Addr} {n0 n1 c0 c1 : Nat} {T : TypeId} (hk : Blk w g #[.slice a0 n0 c0] T) : (Instr.storeAt 40 (.pointer (some ⟨g, 0, none⟩)) (.agg #[.slice a1 n1 c1])).run Tryz.prog w = .ok () (w.setCell ⟨g, 0, none⟩ (.slice a1 n1 c1)) := by
  have h0 : w.cell? ⟨g, 0, none⟩ = some (.slice a0 n0 c0) := hk.cell 0
  have hf := hk.free 0
  go_simp

/-- The store of a result. -/
theorem ob_store_nat {Q : Exit → Act → World → Prop} {a : Act} {w : World} {o : Oper} {t : Tmp} {y : Operand} {x : Nat} (hd : o.dst = none) (hop : o.op = .store 40 (.tmp t) y) (hm : Made W w (a.eval (.tmp t))) (hy : IsNat w (a.eval y) x) :
    Done Tryz.prog (Ty.filled (W := W) t x) Q o a w := by
  obtain ⟨g, a0, n0, c0, e, hg, hk⟩ := hm
  obtain ⟨a1, c1, e1, hw, _⟩ := hy.shape
  have hgs := grown_setCell w ⟨g, 0, none⟩ (.slice a1 (Wt.dg x).length c1)
  have hn : IsNat w (.agg #[.slice a1 (Wt.dg x).length c1]) x := ⟨_, rfl, hw⟩
  refine ob_store1 _ rfl rfl hd hop e e1 (store_nat hk) ⟨g, a0, n0, c0, _, _, _, hg, hk, hgs, hk.set 0 _⟩ ⟨g, _, _, _, rfl, hg, hk.set 0 _, hn.box hk hgs⟩

/-- The box. -/
theorem ob_made {Q : Exit → Act → World → Prop} {a : Act} {w : World} {o : Oper} {t : Tmp} (hd : o.dst = some t) (hlt : t < a.tmps.size) (hop : o.op = .alloc 40) (hC : Cb W w)
    (hrun : (execOp a.eval o).run Tryz.prog w = .ok (.value (.pointer (some ⟨w.heap.size, 0, none⟩))) (w.alloc (.cells #[.slice none 0 0] 40))) : Done Tryz.prog (Ty.made (W := W) t) Q o a w := by
  have _ := hop
  refine ob_value _ _ rfl rfl hd hlt hrun ((Below.refl _ _).alloc (Nat.le_refl _) _) ⟨_, _, _, _, rfl, hC.size, Blk.new _ _ _ _ rfl⟩

end Go.Proofs.YtphdadibfeencaaGreat

/-
  What equations say together (layer 9) in the program: 'Count'.
-/
set_option maxRecDepth 100000
namespace Go.Proofs.YtphdadibfeencaaGreat
open Go.RowKit

theorem pow256 {n j : Nat} (h : n ≤ 4000) (hj : j ≤ n) : ¬ Great (256 ^ j) := not_great (k := j + 1) (Nat.pow_lt_pow_right (by decide) (Nat.lt_succ_self _)) (by omega)
theorem pow256_any (u : Value) (n : Nat) (w : World) (hn : n ≤ 4000) (hU : IsNat w u 256) :
    Calls Tryz.prog 28 #[u, .int .i64 (n : Int)] w (NatE w (256 ^ n) 0) :=
  pow_ok u 256 n w (by omega) (by have := pow256 (n := 1) (j := 1) (by decide) (by decide); simpa using this) (fun _ hj => pow256 hn hj) hU
theorem sub_int {x y : Operand} {a b c : Nat} (h : (a : Int) - (b : Int) = (c : Int)) (hc : c ≤ 9223372036854775807) (w : World) : (do eqGuard .sub 3 x y (.int .i64 a) (.int .i64 b); binOp .sub 3 (.int .i64 a) (.int .i64 b) : Sem Value).run Tryz.prog w = .ok (.int .i64 c) w := by
  go_simp
  rw [IntKind.wrap_i64]; omega
theorem mul_int {x y : Operand} {a b c : Nat} (h : (a : Int) * (b : Int) = (c : Int)) (hc : c ≤ 9223372036854775807) (w : World) : (do eqGuard .mul 3 x y (.int .i64 a) (.int .i64 b); binOp .mul 3 (.int .i64 a) (.int .i64 b) : Sem Value).run Tryz.prog w = .ok (.int .i64 c) w := by
  go_simp
  rw [IntKind.wrap_i64]; omega
/-- How many solutions there are. -/
def countN (k t : Nat) (L : List Rw) : Nat := if 0 ≤ firstC L L.length then 0 else 256 ^ (t * (k - (Ro.redOf L).length))

set_option maxHeartbeats 1000000 in
theorem count_no (k t : Int) (v : Value) (L : List Rw) (w : World) (hL : IsRL w v L) (h : ¬ newOk k t) :
    Calls Tryz.prog 11 #[.int .i64 k, .int .i64 t, v] w (NatE w 0 2) := by
  have HL := Lib.hid hL
  obtain ⟨a, c, rfl⟩ := hL.shape
  clear hL
  go_enter Tryz.func11, Tryz.ntmps11
  go_wp2_with fail
  obtain ⟨B, hk1, hs⟩ := blocks1 w #[.slice none 0 0] 40
  generalize (w.alloc (.cells #[.slice none 0 0] 40)) = W at *
  have K1 := Lib.hid hk1
  have HS := Lib.hid hs
  clear hs hk1
  replace HL := Lib.hid (HL.out.go B)
  have hzW := B.size
  refine (judge_no k t _ L _ HL.out h).mono ?_
  rintro e w1 ⟨rfl, hb⟩
  replace K1 := Lib.hid (K1.out.go hb)
  replace B := B.trans (hb.mono B.size)
  have hzw1 := B.size
  clear hb
  have f0 := K1.out.free 0
  have c0 : w1.cell? ⟨w.heap.size, 0, none⟩ = some (.slice none 0 0) := K1.out.cell 0
  have l0 := K1.out.lt
  go_wp2_with fail
  have hbs := B.setCell (p := ⟨w.heap.size, 0, none⟩) (Nat.le_refl _) (.slice none 0 0)
  have hB := hbs.alloc hbs.size (.cells #[.int .i64 0, .int .i64 0] 66)
  have e0 := ((K1.out.set 0 (.slice none 0 0)).go ((Below.refl _ _).alloc (Nat.le_refl _) (.cells #[.int .i64 0, .int .i64 0] 66))).cell 0
  exact bodyPost_ret (v := .tuple #[.agg #[.slice none 0 0], .int .i64 2]) (by simp [results, Tryz.results11, go_sem, e0]) rfl ⟨_, rfl, nat_zero _, hB⟩
set_option maxHeartbeats 2000000 in
theorem count_yes (k t : Nat) (v : Value) (L : List Rw) (w : World) (hL : IsRL w v L) (hlen : L.length ≤ 1000000) (h : newOk (k : Int) (t : Int)) (hD : Ro.Dims k t L) (hkt : t * k ≤ 4000) :
    Calls Tryz.prog 11 #[.int .i64 (k : Int), .int .i64 (t : Int), v] w (NatE w (countN k t L) 0) := by
  have HL := Lib.hid hL
  obtain ⟨a, c, rfl⟩ := hL.shape
  have HJ := Lib.hid (fun (w : World) (hh : IsRL w (.slice a L.length c) L) => judge_yes k t _ L w hh hlen h hD)
  have hrk : (Ro.redOf L).length ≤ k := by
    have := (redOf_red hD L.length (Nat.le_refl _)).1
    rw [List.take_length] at this
    rw [red_rank1 this]; exact La.rk_le _ _
  obtain ⟨rk, hr⟩ : ∃ rk, rk = (Ro.redOf L).length := ⟨_, rfl⟩
  obtain ⟨f, hf⟩ : ∃ f, f = firstC L L.length := ⟨_, rfl⟩
  have HC := Lib.hid (show countN k t L = if 0 ≤ f then 0 else 256 ^ (t * (k - rk)) by unfold countN; rw [hr, hf])
  rw [← hr] at hrk HJ
  rw [← hf] at HJ
  obtain ⟨N, hN⟩ : ∃ N, N = countN k t L := ⟨_, rfl⟩
  rw [← hN] at HC ⊢
  have hb2 : k ≤ 4096 ∧ t ≤ 65535 := by unfold newOk at h; omega
  clear hL hr hf hD h hN
  by_cases h0 : 0 ≤ f
  · have HC2 := Lib.hid (show N = 0 by rw [HC.out, if_pos h0])
    clear HC
    go_enter Tryz.func11, Tryz.ntmps11
    go_wp2_with fail
    obtain ⟨B, hk1, hs⟩ := blocks1 w #[.slice none 0 0] 40
    generalize (w.alloc (.cells #[.slice none 0 0] 40)) = W at *
    have K1 := Lib.hid hk1
    have HS := Lib.hid hs
    clear hs hk1
    replace HL := Lib.hid (HL.out.go B)
    have hzW := B.size
    refine (HJ.out _ HL.out).mono ?_
    rintro e w1 ⟨rfl, hb⟩
    replace K1 := Lib.hid (K1.out.go hb)
    replace B := B.trans (hb.mono B.size)
    have hzw1 := B.size
    clear hb
    clear HJ HL
    have f0 := K1.out.free 0
    have c0 : w1.cell? ⟨w.heap.size, 0, none⟩ = some (.slice none 0 0) := K1.out.cell 0
    have l0 := K1.out.lt
    go_wp2_with fail
    have hbs := B.setCell (p := ⟨w.heap.size, 0, none⟩) (Nat.le_refl _) (.slice none 0 0)
    have hB := hbs.alloc hbs.size (.cells #[.int .i64 (rk : Int), .int .i64 f] 66)
    have e0 := ((K1.out.set 0 (.slice none 0 0)).go ((Below.refl _ _).alloc (Nat.le_refl _) (.cells #[.int .i64 (rk : Int), .int .i64 f] 66))).cell 0
    exact bodyPost_ret (v := .tuple #[.agg #[.slice none 0 0], .int .i64 0]) (by simp [results, Tryz.results11, go_sem, e0]) rfl ⟨_, rfl, by rw [HC2.out]; exact nat_zero _, hB⟩
  · have HC2 := Lib.hid (show N = 256 ^ (t * (k - rk)) by rw [HC.out, if_neg h0])
    obtain ⟨m, hm⟩ : ∃ m, m = k - rk := ⟨_, rfl⟩
    have hm2 : (k : Int) - (rk : Int) = (m : Int) := by omega
    have htm : t * m ≤ 4000 := Nat.le_trans (Nat.mul_le_mul_left t (by omega)) hkt
    obtain ⟨q, hq⟩ : ∃ q, q = t * m := ⟨_, rfl⟩
    have hq2 : (t : Int) * (m : Int) = (q : Int) := by rw [hq]; simp
    rw [← hm, ← hq] at HC2
    rw [← hq] at htm
    have HM := Lib.hid hm2
    have HQ := Lib.hid hq2
    clear hm hq hm2 hq2 hkt HC
    go_enter Tryz.func11, Tryz.ntmps11
    go_wp2_with fail
    obtain ⟨B, hk1, hs⟩ := blocks1 w #[.slice none 0 0] 40
    generalize (w.alloc (.cells #[.slice none 0 0] 40)) = W at *
    have K1 := Lib.hid hk1
    have HS := Lib.hid hs
    clear hs hk1
    replace HL := Lib.hid (HL.out.go B)
    have hzW := B.size
    refine (HJ.out _ HL.out).mono ?_
    rintro e w1 ⟨rfl, hb⟩
    replace K1 := Lib.hid (K1.out.go hb)
    replace B := B.trans (hb.mono B.size)
    have hzw1 := B.size
    clear hb
    clear HJ HL
    go_upto_region 6 with fail
    obtain ⟨hb, hk, hs⟩ := blocks1 w1 #[.int .i64 (rk : Int), .int .i64 f] 66
    generalize w1.alloc (.cells #[.int .i64 (rk : Int), .int .i64 f] 66) = W2 at *
    have K2 := Lib.hid hk
    replace K1 := Lib.hid (K1.out.go hb)
    replace B := B.trans (hb.mono B.size)
    have hzW2 := B.size
    clear hb hk hs
    have hmk : m ≤ k := by have := HM.out; omega
    obtain ⟨g, hg⟩ : ∃ g : Nat, g = w1.heap.size := ⟨_, rfl⟩
    rw [← hg] at K2
    simp only [← hg]
    clear hg
    have l0 := K1.out.lt
    refine wp_region_mono (C := Cb W2) (R := Rb) (H := Hn W2) [Ty.nat 27 256, Ty.val 28 (.int .i64 (t : Int)), Ty.val 29 (.int .i64 (k : Int)), Ty.val 30 (.pointer (some ⟨g, 0, none⟩)), Ty.val 31 (.int .i64 (rk : Int)), Ty.val 32 (.int .i64 (m : Int)), Ty.val 33 (.int .i64 (q : Int)), Ty.natE 34 (256 ^ q) 0, Ty.natE 26 (256 ^ q) 0, Ty.nat 35 (256 ^ q), Ty.val 36 (.int .i64 0), Ty.made 10 , Ty.filled 10 (256 ^ q), Ty.val 9 (.int .i64 0)] (by kernel_rfl) (hC_b W2) (hCH_n W2) (drew_b W2) ⟨trivial, trivial, trivial, trivial, trivial, trivial, trivial, trivial, trivial, trivial, trivial, trivial, trivial, trivial, trivial⟩ (by kernel_rfl) ?_ ?_
    · refine ⟨?_, ?_, ?_, ?_, ?_, ?_, ?_, ?_, ?_, ?_, ?_, ?_, ?_, ?_, trivial⟩
      · intro ac wc hC hsz hfr hd hpr
        rw [if_pos (wanted_none rfl)]
        refine ob_call rfl rfl rfl (Nat.lt_of_lt_of_eq (by decide : 27 < 41) hsz.symm) rfl (enter_of Tryz.func27 (by kernel_rfl) rfl) ?_
        show Calls Tryz.prog 27 #[.int .u64 256] wc _
        exact natof_any 256 wc (by decide)
      · intro ac wc hC hsz hfr hd hpr
        have d1 : ac.eval (.tmp 1) = (.int .i64 (t : Int)) := hfr 1 rfl
        rw [if_pos (wanted_none rfl)]
        exact ob_copy rfl rfl rfl (Nat.lt_of_lt_of_eq (by decide : 28 < 41) hsz.symm) (Or.inl rfl) (Below.refl _ _) d1
      · intro ac wc hC hsz hfr hd hpr
        have d0 : ac.eval (.tmp 0) = (.int .i64 (k : Int)) := hfr 0 rfl
        rw [if_pos (wanted_none rfl)]
        exact ob_copy rfl rfl rfl (Nat.lt_of_lt_of_eq (by decide : 29 < 41) hsz.symm) (Or.inl rfl) (Below.refl _ _) d0
      · intro ac wc hC hsz hfr hd hpr
        have d8 : ac.eval (.tmp 8) = (.pointer (some ⟨g, 0, none⟩)) := hfr 8 rfl
        rw [if_pos (wanted_none rfl)]
        exact ob_field _ rfl rfl rfl (Nat.lt_of_lt_of_eq (by decide : 30 < 41) hsz.symm) rfl d8 (fun w => by go_simp) (Below.refl _ _) rfl
      · intro ac wc hC hsz hfr hd hpr
        have d30 : ac.eval (.tmp 30) = (.pointer (some ⟨g, 0, none⟩)) := hd 3 rfl
        rw [if_pos (wanted_none rfl)]
        exact ob_load _ rfl rfl rfl (Nat.lt_of_lt_of_eq (by decide : 31 < 41) hsz.symm) rfl d30 (load_int ((K2.out.go hC).cell 0)) (Below.refl _ _) rfl
      · intro ac wc hC hsz hfr hd hpr
        have d29 : ac.eval (.tmp 29) = (.int .i64 (k : Int)) := hd 2 rfl
        have d31 : ac.eval (.tmp 31) = (.int .i64 (rk : Int)) := hd 4 rfl
        rw [if_pos (wanted_none rfl)]
        exact ob_bin _ rfl rfl rfl (Nat.lt_of_lt_of_eq (by decide : 32 < 41) hsz.symm) rfl d29 d31 (sub_int HM.out (by omega)) (Below.refl _ _) rfl
      · intro ac wc hC hsz hfr hd hpr
        have d28 : ac.eval (.tmp 28) = (.int .i64 (t : Int)) := hd 1 rfl
        have d32 : ac.eval (.tmp 32) = (.int .i64 (m : Int)) := hd 5 rfl
        rw [if_pos (wanted_none rfl)]
        exact ob_bin _ rfl rfl rfl (Nat.lt_of_lt_of_eq (by decide : 33 < 41) hsz.symm) rfl d28 d32 (mul_int HQ.out (by omega)) (Below.refl _ _) rfl
      · intro ac wc hC hsz hfr hd hpr
        have d27 : IsNat wc (ac.eval (.tmp 27)) 256 := hd 0 rfl
        have d33 : ac.eval (.tmp 33) = (.int .i64 (q : Int)) := hd 6 rfl
        rw [if_pos (wanted_none rfl)]
        refine ob_call rfl rfl rfl (Nat.lt_of_lt_of_eq (by decide : 34 < 41) hsz.symm) rfl (enter_of Tryz.func28 (by kernel_rfl) rfl) ?_
        show Calls Tryz.prog 28 #[ac.eval (.tmp 27), ac.eval (.tmp 33)] wc _
        rw [d33]
        exact (pow256_any _ q wc htm d27).mono fun _ _ ⟨u, he, hu, hb⟩ => ⟨_, he, ⟨u, rfl, hu⟩, hb⟩
      · intro ac wc hC hsz hfr hd hpr
        have d34 : ∃ u, ac.eval (.tmp 34) = .tuple #[u, .int .i64 0] ∧ IsNat wc (u) (256 ^ q) := hd 7 rfl
        rw [if_pos (wanted_none rfl)]
        exact ob_copy rfl rfl rfl (Nat.lt_of_lt_of_eq (by decide : 26 < 41) hsz.symm) (Or.inl rfl) (Below.refl _ _) d34
      · intro ac wc hC hsz hfr hd hpr
        have d26 : ∃ u, ac.eval (.tmp 26) = .tuple #[u, .int .i64 0] ∧ IsNat wc (u) (256 ^ q) := hd 8 rfl
        rw [if_pos (wanted_none rfl)]
        obtain ⟨u, eu, hu⟩ := d26
        exact ob_extract _ rfl rfl rfl (Nat.lt_of_lt_of_eq (by decide : 35 < 41) hsz.symm) rfl eu (extract0 _ _) (Below.refl _ _) hu
      · intro ac wc hC hsz hfr hd hpr
        have d26 : ∃ u, ac.eval (.tmp 26) = .tuple #[u, .int .i64 0] ∧ IsNat wc (u) (256 ^ q) := hd 8 rfl
        rw [if_pos (wanted_none rfl)]
        obtain ⟨u, eu, hu⟩ := d26
        exact ob_extract _ rfl rfl rfl (Nat.lt_of_lt_of_eq (by decide : 36 < 41) hsz.symm) rfl eu (extract1 _ _) (Below.refl _ _) rfl
      · intro ac wc hC hsz hfr hd hpr
        rw [if_pos (wanted_none rfl)]
        have hlt : 10 < ac.tmps.size := (Nat.lt_of_lt_of_eq (by decide : 10 < 41) hsz.symm)
        exact ob_made rfl hlt rfl hC (by go_simp)
      · intro ac wc hC hsz hfr hd hpr
        have d10 : Made W2 wc (ac.eval (.tmp 10)) := hd 11 rfl
        have d35 : IsNat wc (ac.eval (.tmp 35)) (256 ^ q) := hd 9 rfl
        rw [if_pos (wanted_none rfl)]
        show Done _ (Ty.filled 10 (256 ^ q)) _ _ _ _
        exact ob_store_nat rfl rfl d10 d35
      · intro ac wc hC hsz hfr hd hpr
        have d36 : ac.eval (.tmp 36) = (.int .i64 0) := hd 10 rfl
        rw [if_pos (wanted_none rfl)]
        exact ob_copy rfl rfl rfl (Nat.lt_of_lt_of_eq (by decide : 9 < 41) hsz.symm) (Or.inr rfl) (Below.refl _ _) d36
    intro a' W3 hC hdef hsz hfr hd
    obtain ⟨x27, e27, r27⟩ : ∃ xq_, a'.eval (.tmp 27) = xq_ ∧ IsNat W3 (xq_) 256 := ⟨_, rfl, hd 0 (by decide)⟩
    replace r27 := Lib.hid r27
    have e28 : a'.eval (.tmp 28) = (.int .i64 (t : Int)) := hd 1 (by decide)
    have e29 : a'.eval (.tmp 29) = (.int .i64 (k : Int)) := hd 2 (by decide)
    have e30 : a'.eval (.tmp 30) = (.pointer (some ⟨g, 0, none⟩)) := hd 3 (by decide)
    have e31 : a'.eval (.tmp 31) = (.int .i64 (rk : Int)) := hd 4 (by decide)
    have e32 : a'.eval (.tmp 32) = (.int .i64 (m : Int)) := hd 5 (by decide)
    have e33 : a'.eval (.tmp 33) = (.int .i64 (q : Int)) := hd 6 (by decide)
    obtain ⟨x34, e34, r34⟩ : ∃ u, a'.eval (.tmp 34) = .tuple #[u, .int .i64 0] ∧ IsNat W3 (u) (256 ^ q) := hd 7 (by decide)
    replace r34 := Lib.hid r34
    obtain ⟨x26, e26, r26⟩ : ∃ u, a'.eval (.tmp 26) = .tuple #[u, .int .i64 0] ∧ IsNat W3 (u) (256 ^ q) := hd 8 (by decide)
    replace r26 := Lib.hid r26
    obtain ⟨x35, e35, r35⟩ : ∃ xq_, a'.eval (.tmp 35) = xq_ ∧ IsNat W3 (xq_) (256 ^ q) := ⟨_, rfl, hd 9 (by decide)⟩
    replace r35 := Lib.hid r35
    have e36 : a'.eval (.tmp 36) = (.int .i64 0) := hd 10 (by decide)
    obtain ⟨g10, x10, y10, z10, e10, hg10, kb10, r10⟩ : Filled W2 W3 (a'.eval (.tmp 10)) (256 ^ q) := hd 12 (by decide)
    replace r10 := Lib.hid r10
    replace kb10 := Lib.hid kb10
    have e9 : a'.eval (.tmp 9) = (.int .i64 0) := hd 13 (by decide)
    have hact := act_puts hdef hsz hfr
    simp only [dstsOf, List.filterMap, putAll, Act.put, List.setIfInBounds_toArray, List.set_cons_succ, List.set_cons_zero, e27, e28, e29, e30, e31, e32, e33, e34, e26, e35, e36, e10, e9] at hact
    clear hd hfr hsz hdef e27 e28 e29 e30 e31 e32 e33 e34 e26 e35 e36 e10 e9
    subst hact
    replace K1 := Lib.hid (K1.out.go hC)
    replace B := B.trans (hC.mono B.size)
    clear hC
    have f0 := K1.out.free 0
    have c0 : W3.cell? ⟨w.heap.size, 0, none⟩ = some (.slice none 0 0) := K1.out.cell 0
    have l3 := K1.out.lt
    have c3 : W3.cell? ⟨g10, 0, none⟩ = some (.slice x10 y10 z10) := kb10.out.cell 0
    go_wp2_with fail
    have e0 := (K1.out.set 0 (.slice x10 y10 z10)).cell 0
    have hB := B.setCell (p := ⟨w.heap.size, 0, none⟩) (Nat.le_refl _) (.slice x10 y10 z10)
    have HN := r10.out.hn (c := 0) (W := w) ⟨w.heap.size, _, _, _, _, _, _, Nat.le_refl _, K1.out, grown_setCell _ ⟨w.heap.size, 0, none⟩ _, K1.out.set 0 (.slice x10 y10 z10)⟩
    exact bodyPost_ret (v := .tuple #[.agg #[.slice x10 y10 z10], .int .i64 0]) (by simp [results, Tryz.results11, go_sem, e0]) rfl ⟨_, rfl, by rw [HC2.out]; exact HN, hB⟩

end Go.Proofs.YtphdadibfeencaaGreat

/-
  The laws of grids (layer 7): the example, and the grid of cut rows.
-/
set_option maxRecDepth 100000
namespace Go.Proofs.YtphdadibfeencaaGreat
open Go.RowKit

theorem Blk.bytes2 {W : World} {g : Nat} {x y : Int} {T : TypeId} (h : Blk W g #[.int .u8 x, .int .u8 y] T) (a b : Nat) (hx : x = a) (hy : y = b) (ha : a < 256) (hb : b < 256) : Bytes W (.slice (some ⟨g, 0, none⟩) 2 2) [a, b] := by
  subst hx; subst hy
  refine ⟨_, 2, rfl, Nat.le_refl _, by omega, by simp [ha, hb], fun _ => ⟨g, 0, rfl, h.lt, fun i hi => ?_⟩⟩
  rw [Nat.zero_add, h.cell i]
  match i, hi with
  | 0, _ => rfl
  | 1, _ => rfl
end Go.Proofs.YtphdadibfeencaaGreat

/-
  The laws of equations (layer 8): the example.
-/
set_option maxRecDepth 100000
namespace Go.Proofs.YtphdadibfeencaaGreat
open Go.RowKit

def eq1 : Rw := ([1, 1], [3])
theorem dim_1 : Ro.Dim 2 1 eq1 := ⟨rfl, rfl, by decide, by decide⟩
theorem Blk.bytes1 {W : World} {g : Nat} {x : Int} {T : TypeId} (h : Blk W g #[.int .u8 x] T) (a : Nat) (hx : x = a) (ha : a < 256) : Bytes W (.slice (some ⟨g, 0, none⟩) 1 1) [a] := by
  subst hx
  refine ⟨_, 1, rfl, Nat.le_refl _, by omega, by simp [ha], fun _ => ⟨g, 0, rfl, h.lt, fun i hi => ?_⟩⟩
  rw [Nat.zero_add, h.cell i]
  match i, hi with
  | 0, _ => rfl

end Go.Proofs.YtphdadibfeencaaGreat

/-
  The laws of what equations say together (layer 9): the example.
-/
set_option maxRecDepth 100000
namespace Go.Proofs.YtphdadibfeencaaGreat
open Go.RowKit

theorem count_awake : countN 2 1 [eq1] = 256 := by decide +kernel
theorem dims_awake : Ro.Dims 2 1 [eq1] := fun r hr => by rw [List.mem_singleton.1 hr]; exact dim_1
theorem not_great256 : ¬ Great 256 := by have := pow256 (n := 1) (j := 1) (by decide) (by decide); simpa using this
theorem str_100 : (strOf (Nt.txt 256)).toList == [49, 48, 48] := by decide +kernel
set_option maxHeartbeats 1000000 in
theorem awake9_any (w : World) :
    Calls Tryz.prog 4 #[] w fun e w' => e = .returned (.bool true) ∧ Below w.heap.size w w' := by
  have HCN := Lib.hid (fun (v : Value) (w : World) (h : IsRL w v [eq1]) => count_yes 2 1 v [eq1] w h (by simp) (by unfold newOk; omega) dims_awake (by decide))
  rw [count_awake] at HCN
  have HGM := Lib.hid not_great256
  go_enter Tryz.func4, Tryz.ntmps4
  go_wp2_with fail
  obtain ⟨B, hk1, hk2, hs⟩ := blocks2 w #[.int .u8 1, .int .u8 1] 5 #[.int .u8 3] 5
  generalize ((w.alloc (.cells #[.int .u8 1, .int .u8 1] 5)).alloc (.cells #[.int .u8 3] 5)) = W at *
  have K1 := Lib.hid hk1
  have K2 := Lib.hid hk2
  have HS := Lib.hid hs
  clear hs hk1 hk2
  have hzW := B.size
  have HL1 := Lib.hid (K1.out.bytes2 1 1 rfl rfl (by omega) (by omega))
  have HL2 := Lib.hid (K2.out.bytes1 3 rfl (by omega))
  refine (of_any _ _ [1, 1] [3] _ HL1.out HL2.out (by simp) (by simp)).mono ?_
  rintro e w3 ⟨u3, rfl, hu3, hb⟩
  replace B := B.trans (hb.mono B.size)
  have hzw3 := B.size
  clear hb
  obtain ⟨_, _, rfl, hp, hq⟩ := hu3
  have HP := Lib.hid hp
  have HQ := Lib.hid hq
  obtain ⟨pa, pc, rfl, _⟩ := hp
  obtain ⟨qa, qc, rfl, _⟩ := hq
  clear HL1 HL2 K1 K2 HS
  go_wp2_with fail
  have HL := Lib.hid (IsRL.one (T := 46) (r := eq1) w3.heap.size rfl HP.out HQ.out)
  have hb4 : Below w3.heap.size w3 (w3.alloc (.cells #[.slice pa 2 pc, .slice qa 1 qc] 46)) := (Below.refl _ _).alloc (Nat.le_refl _) _
  replace B := B.trans (hb4.mono B.size)
  have hb4 := B.size
  refine (HCN.out _ _ HL.out).mono ?_
  rintro e w5 ⟨u5, rfl, hu, hb⟩
  have HU5 := Lib.hid hu
  replace B := B.trans (hb.mono B.size)
  obtain ⟨a3, c3, rfl, _⟩ := hu.shape
  clear hb hu HL HP HQ HCN hb4
  generalize (Wt.dg 256).length = l3 at *
  go_upto_region 2 with fail
  obtain ⟨hb, hk, hs⟩ := blocks1 w5 #[.slice a3 l3 c3] 40
  generalize w5.alloc (.cells #[.slice a3 l3 c3] 40) = W4 at *
  have K4 := Lib.hid hk
  replace HU5 := Lib.hid (HU5.out.go hb)
  replace B := B.trans (hb.mono B.size)
  have hzW4 := B.size
  clear hb hk hs
  have h4 : W4.cell? ⟨w5.heap.size, 0, none⟩ = some (.slice a3 l3 c3) := K4.out.cell 0
  have hst := str_100
  go_wp2_with fail
  refine (nattext_any _ 256 W4 (words_small HGM.out) HU5.out).mono ?_
  rintro e w6 ⟨rfl, hb⟩
  replace B := B.trans (hb.mono B.size)
  clear hb h4
  generalize strOf (Nt.txt 256) = S at *
  go_wp2_with fail
  go_ret
  exact ⟨rfl, B⟩

end Go.Proofs.YtphdadibfeencaaGreat

/-
  The laws of equations (layer 8): ElimPuts, equation by equation.
-/
set_option maxRecDepth 100000
namespace Go.Proofs.YtphdadibfeencaaGreat
open Go.RowKit

theorem few8_at {L : List Rw} (h : few8 L = true) {j : Nat} (hj : j < L.length) : (rwAt L j).1.length ≤ 20 ∧ (rwAt L j).2.length ≤ 20 := by
  unfold few8 at h
  rw [Bool.and_eq_true, List.all_eq_true] at h
  have := h.1 _ (rwAt_mem hj)
  simpa using this
theorem few8_len {L : List Rw} (h : few8 L = true) : L.length ≤ 30 := by
  unfold few8 at h
  rw [Bool.and_eq_true] at h
  simpa using h.2
end Go.Proofs.YtphdadibfeencaaGreat

/-
  The document's answer for what equations say together (wellspringref09), in the program: 'Holds'.
-/
set_option maxRecDepth 100000
namespace Go.Proofs.YtphdadibfeencaaGreat
open Go.RowKit

/-- Do symbols hold for an equation? -/
def holdsR (S : List (List Nat)) (x : Rw) : Bool := decide (S.length = x.1.length) && S.all (fun s => decide (s.length = x.2.length)) && decide (combL x.1 S = x.2)
def holdsL (S : List (List Nat)) (L : List Rw) : Bool := L.all (holdsR S)
theorem holds_false {S : List (List Nat)} {L : List Rw} {n : Nat} (hn : n < L.length) (h : holdsR S (rwAt L n) = false) : holdsL S L = false := by
  unfold holdsL; rw [List.all_eq_false]
  exact ⟨rwAt L n, rwAt_mem hn, by rw [h]; decide⟩
theorem holds_true {S : List (List Nat)} {L : List Rw} (h : ∀ j, j < L.length → holdsR S (rwAt L j) = true) : holdsL S L = true := by
  unfold holdsL; rw [List.all_eq_true]
  intro r hr
  obtain ⟨i, hi, rfl⟩ := List.mem_iff_getElem.1 hr
  rw [← rwAt_eq L i hi]; exact h i hi

set_option maxHeartbeats 2000000 in
theorem refholds_any (v0 v1 : Value) (S : List (List Nat)) (L : List Rw) (w : World) (h0 : IsRows w v0 S) (h1 : IsRL w v1 L) (hm0 : ∀ j, j < L.length → (rwAt L j).2.length ≤ 10000000) :
    Calls Tryz.prog 8 #[v0, v1] w fun e w' => e = .returned (.bool (holdsL S L)) ∧ Below w.heap.size w w' := by
  have hcap : L.length ≤ 9223372036854775807 := by obtain ⟨_, _, _, h1, h2, _⟩ := h1; omega
  have hcap0 : S.length ≤ 9223372036854775807 := by obtain ⟨_, _, _, h1, h2, _⟩ := h0; omega
  have HM0 := Lib.hid hm0
  clear hm0
  have HS := Lib.hid h0
  have HL := Lib.hid h1
  obtain ⟨a0, c0, rfl⟩ := h0.shape
  obtain ⟨a1, c1, rfl⟩ := h1.shape
  clear h0 h1
  obtain ⟨t, ht⟩ : ∃ t, t = holdsL S L := ⟨_, rfl⟩
  rw [← ht]
  have HT := Lib.hid ht
  clear ht
  go_enter Tryz.func8, Tryz.ntmps8
  go_wp2_with fail
  go_loopw [6, 8, 9, 10, 13] (fun _ _ _ _ i wr => ∃ n : Nat, n ≤ L.length ∧ i = .int .i64 n ∧ (∀ j, j < n → holdsR S (rwAt L j) = true) ∧ Below w.heap.size w wr) (fun _ _ _ _ i _ => L.length - (intOf i).toNat)
  case atStart => exact ⟨0, by omega, rfl, fun j hj => by omega, Below.refl _ _⟩
  case round =>
    obtain ⟨n, hn, rfl, hno, B⟩ := hrel
    have HN := Lib.hid hno
    clear hno
    by_cases hlt : n < L.length
    · obtain ⟨b, off, c', er, _⟩ := HL.out.addr (by omega)
      simp only [Value.slice.injEq, true_and] at er
      obtain ⟨rfl, rfl⟩ := er
      obtain ⟨p0, q0, z0, z1, hb1, hb2⟩ := (HL.out.go B).cells n hlt
      have HB1 := Lib.hid hb1
      have HB2 := Lib.hid hb2
      obtain ⟨pa, pc, rfl, _⟩ := hb1
      obtain ⟨qa, qc, rfl, _⟩ := hb2
      obtain ⟨x, hx⟩ : ∃ x, x = rwAt L n := ⟨_, rfl⟩
      have HX := Lib.hid hx
      have HXM := Lib.hid (show x.2.length ≤ 10000000 by rw [hx]; exact HM0.out n hlt)
      rw [← hx] at HB1 HB2 z0 z1
      clear hx
      by_cases hl : S.length = x.1.length
      · have hbl : ((S.length : Int) != (x.1.length : Int)) = false := by rw [hl]; simp
        have HSL := Lib.hid hl
        clear hl
        go_wp2_with fail
        have hb5 : Below wr.heap.size wr (wr.alloc (.cells #[.slice pa x.1.length pc, .slice qa x.2.length qc] 50)) := (Below.refl _ _).alloc (Nat.le_refl _) _
        have HK5 := Lib.hid (Blk.new wr #[.slice pa x.1.length pc, .slice qa x.2.length qc] 50 _ rfl)
        replace HB1 := Lib.hid (HB1.out.go hb5)
        replace HB2 := Lib.hid (HB2.out.go hb5)
        have hz := B.size
        replace B := B.trans (hb5.mono hz)
        clear hb5 z0 z1
        generalize (wr.alloc (.cells #[.slice pa x.1.length pc, .slice qa x.2.length qc] 50)) = W5 at *
        have hz5 := B.size
        obtain ⟨hk50, hk51⟩ := HK5.out.two
        have hk5l := HK5.out.lt
        go_loop [8, 25] (fun _ i => ∃ m : Nat, m ≤ S.length ∧ i = .int .i64 m ∧ ∀ j, j < m → (rowAt S j).length = x.2.length) (fun _ i => S.length - (intOf i).toNat)
        case atStart => exact ⟨0, by omega, rfl, fun j hj => by omega⟩
        case round =>
          obtain ⟨m, hm', rfl, hall⟩ := hrel
          have HA := Lib.hid hall
          clear hall
          by_cases hml : m < S.length
          · obtain ⟨sb, so, u, rfl, hu, hBs⟩ := HS.out.row B m hml
            obtain ⟨ua, uc, rfl, _⟩ := hBs
            by_cases hq : (rowAt S m).length = x.2.length
            · have hb : (((rowAt S m).length : Int) != (x.2.length : Int)) = false := by rw [hq]; simp
              have HQ := Lib.hid hq
              clear hq
              go_wp2_with fail
              go_round
              case rel => exact ⟨m + 1, by omega, by go_num, fun j hj => by
                by_cases h : j = m
                · rw [h]; exact HQ.out
                · exact HA.out j (by omega)⟩
              case measure => simp [intOf]; omega
            · have hb : (((rowAt S m).length : Int) != (x.2.length : Int)) = true := by rw [bne_iff_ne]; omega
              have HQ := Lib.hid (show t = false by
                rw [HT.out]
                refine holds_false hlt ?_
                unfold holdsR
                rw [← HX.out]
                have : S.all (fun s => decide (s.length = x.2.length)) = false := by
                  rw [List.all_eq_false]
                  exact ⟨rowAt S m, by rw [rowAt_eq S m hml]; exact List.getElem_mem hml, by simpa using hq⟩
                rw [this]; simp)
              clear hq
              go_wp2_with fail
              go_ret
              exact ⟨by rw [HQ.out]; rfl, B⟩
          · have HALL := Lib.hid (show S.all (fun s => decide (s.length = x.2.length)) = true by
              rw [List.all_eq_true]
              intro r hr
              obtain ⟨i, hi, rfl⟩ := List.mem_iff_getElem.1 hr
              rw [← rowAt_eq S i hi]
              simpa using HA.out i (by omega))
            have HR := Lib.hid (show holdsR S x = decide (combL x.1 S = x.2) by unfold holdsR; rw [HALL.out, decide_eq_true HSL.out]; simp)
            have HSr := Lib.hid (HS.out.go B)
            have HM1 := Lib.hid (show (rowAt S 0).length ≤ 10000000 by
              by_cases h0 : 0 < S.length
              · rw [HA.out 0 (by omega)]; exact HXM.out
              · have : S = [] := List.length_eq_zero_iff.1 (by omega)
                rw [this]; exact Nat.zero_le _)
            go_wp2_with fail
            refine (refcomb_b _ _ x.1 S _ HM1.out HB1.out HSr.out).mono ?_
            rintro e w7 ⟨u7, rfl, h7, hb⟩
            replace HB2 := Lib.hid (HB2.out.go hb)
            replace HK5 := Lib.hid (HK5.out.go hb)
            replace B := B.trans (hb.mono B.size)
            have hzw7 := B.size
            clear hb
            obtain ⟨da, dc, rfl, _⟩ := id h7
            have H7 := Lib.hid h7
            clear h7
            obtain ⟨hk50, hk51⟩ := HK5.out.two
            have hk5l := HK5.out.lt
            go_wp2_with fail
            refine (same_any _ _ _ _ _ H7.out HB2.out).mono ?_
            rintro e w8 ⟨rfl, hb⟩
            replace B := B.trans (hb.mono B.size)
            have hzw8 := B.size
            clear hb
            by_cases hq : combL x.1 S = x.2
            · have hd := decide_eq_true hq
              have HQ := Lib.hid (show holdsR S (rwAt L n) = true by rw [← HX.out, HR.out]; exact hd)
              rw [hd]
              clear hq hd
              go_wp2_with fail
              go_roundw
              case rel => exact ⟨n + 1, by omega, by go_num, fun j hj => by
                by_cases h : j = n
                · rw [h]; exact HQ.out
                · exact HN.out j (by omega), B⟩
              case measure => simp [intOf]; omega
            · have hd := decide_eq_false hq
              have HQ := Lib.hid (show t = false by rw [HT.out]; exact holds_false hlt (by rw [← HX.out, HR.out]; exact hd))
              rw [hd]
              clear hq hd
              go_wp2_with fail
              go_ret
              exact ⟨by rw [HQ.out]; rfl, B⟩
      · have hbl : ((S.length : Int) != (x.1.length : Int)) = true := by rw [bne_iff_ne]; omega
        have HQ := Lib.hid (show t = false by
          rw [HT.out]
          refine holds_false hlt ?_
          unfold holdsR
          rw [← HX.out, decide_eq_false hl]; simp)
        clear hl
        have hz := B.size
        go_wp2_with fail
        go_ret
        exact ⟨by rw [HQ.out]; rfl, B.alloc hz _⟩
    · have HQ := Lib.hid (show t = true by rw [HT.out]; exact holds_true fun j hj => HN.out j (by omega))
      go_wp2_with fail
      go_ret
      exact ⟨by rw [HQ.out]; rfl, B⟩

end Go.Proofs.YtphdadibfeencaaGreat

/-
  What equations say together (layer 9) in the program: 'Holds'.
-/
set_option maxRecDepth 100000
namespace Go.Proofs.YtphdadibfeencaaGreat
open Go.RowKit

theorem hmf9c (fn : Fn) (first cap : Array Value) (w : World) : (Instr.makeFunc fn first cap).run Tryz.prog w = .ok (.func fn first cap) w := rfl
/-- The program's test is the document's. -/
theorem holds_eq (S : List (List Nat)) (x : Rw) : holdsR S x = (decide (combE x.1 S = 0) && decide (combL x.1 S = x.2)) := by
  rw [Bool.eq_iff_iff]
  unfold holdsR
  simp only [Bool.and_eq_true, decide_eq_true_eq, List.all_eq_true]
  constructor
  · rintro ⟨⟨h1, h2⟩, h3⟩
    refine ⟨?_, h3⟩
    have ha : alikeB S = true := by
      unfold alikeB
      rw [List.all_eq_true]
      intro r hr
      have h0 : (rowAt S 0).length = x.2.length := by
        have : 0 < S.length := List.length_pos_of_mem hr
        rw [rowAt_eq S 0 this]
        exact h2 _ (List.getElem_mem this)
      rw [h2 r hr, h0]; simp
    unfold combE
    rw [if_pos ⟨h1.symm, ha⟩]
  · rintro ⟨h1, h3⟩
    have hc : x.1.length = S.length ∧ alikeB S = true := by
      by_cases h : x.1.length = S.length ∧ alikeB S = true
      · exact h
      · unfold combE at h1; rw [if_neg h] at h1; cases h1
    refine ⟨⟨hc.1.symm, fun s hs => ?_⟩, h3⟩
    have hne : S ≠ [] := fun e => by rw [e] at hs; cases hs
    rw [combL_eq, if_pos ⟨hc.1, hc.2, hne⟩] at h3
    have hl : x.2.length = (rowAt S 0).length := by rw [← h3, combT_length]
    rw [hl]
    have := hc.2
    unfold alikeB at this
    rw [List.all_eq_true] at this
    simpa using this s hs

set_option maxHeartbeats 1000000 in
theorem holds1_any (gs : Nat) (vs : Value) (S : List (List Nat)) (u : Value) (p q : List Nat) (w : World) (hk : Blk w gs #[vs] 22) (hS : IsRows w vs S) (hm : (rowAt S 0).length ≤ 281474976710656) (hu : IsRow w u p q) :
    Calls Tryz.prog 17 #[u, .pointer (some ⟨gs, 0, none⟩)] w fun e w' => e = .returned (.bool (!holdsR S (p, q))) ∧ Below w.heap.size w w' := by
  have c0 : w.cell? ⟨gs, 0, none⟩ = some vs := hk.cell 0
  have l0 := hk.lt
  have HU := Lib.hid hu
  have HS := Lib.hid hS
  obtain ⟨u0, u1, rfl, hp, hq⟩ := hu
  have HP := Lib.hid hp
  have HQ := Lib.hid hq
  obtain ⟨a, c, rfl, _⟩ := hp
  obtain ⟨a', c', rfl, _⟩ := hq
  obtain ⟨sa, sc, rfl⟩ := hS.shape
  have HE := Lib.hid (holds_eq S (p, q))
  clear hk hS
  go_enter Tryz.func17, Tryz.ntmps17
  go_wp2_with fail
  have B : Below w.heap.size w w := Below.refl _ _
  obtain ⟨hb, hk, hs⟩ := blocks1 w #[.slice a p.length c, .slice a' q.length c'] 46
  generalize w.alloc (.cells #[.slice a p.length c, .slice a' q.length c'] 46) = W1 at *
  have K1 := Lib.hid hk
  replace HP := Lib.hid (HP.out.go hb)
  replace HQ := Lib.hid (HQ.out.go hb)
  replace HS := Lib.hid (HS.out.go hb)
  replace B := B.trans (hb.mono B.size)
  have hzW1 := B.size
  clear hb hk hs
  clear c0 l0
  refine (comb_any _ _ p S _ (by omega) HP.out HS.out).mono ?_
  rintro e w2 ⟨v2, rfl, hv2, hb⟩
  replace K1 := Lib.hid (K1.out.go hb)
  replace HP := Lib.hid (HP.out.go hb)
  replace HQ := Lib.hid (HQ.out.go hb)
  replace B := B.trans (hb.mono B.size)
  have hzw2 := B.size
  clear hb
  have HV := Lib.hid (hv2.bytes (combL_lt HP.out.lt S) (by have := combL_length p S; omega))
  obtain ⟨L9, hL9⟩ : ∃ L9, L9 = combL p S := ⟨_, rfl⟩
  obtain ⟨e9, he9⟩ : ∃ e9, e9 = combE p S := ⟨_, rfl⟩
  have HE2 := Lib.hid (show holdsR S (p, q) = (decide (e9 = 0) && decide (L9 = q)) by rw [HE.out, he9, hL9])
  rw [← hL9] at HV
  rw [← he9]
  clear hv2 hL9 he9 HE
  obtain ⟨va, vc, rfl, _⟩ := (show Bytes w2 v2 L9 from HV.out)
  by_cases h : e9 = 0
  · have hb9 : (e9 != (0 : Int)) = false := by rw [h]; rfl
    have HE3 := Lib.hid (show (!holdsR S (p, q)) = !decide (L9 = q) by rw [HE2.out, h]; simp)
    clear h HE2
    obtain ⟨k10, k11⟩ := K1.out.two
    have k1l := K1.out.lt
    go_wp2_with fail
    refine (equal_any _ _ L9 q _ HV.out HQ.out).mono ?_
    rintro e w' ⟨rfl, rfl⟩
    go_wp2_with fail
    go_ret
    exact ⟨by rw [HE3.out]; rfl, B⟩
  · have hb9 : (e9 != (0 : Int)) = true := by rw [bne_iff_ne]; exact h
    have HE3 := Lib.hid (show (!holdsR S (p, q)) = true by rw [HE2.out]; simp [h])
    clear h HE2
    obtain ⟨k10, k11⟩ := K1.out.two
    have k1l := K1.out.lt
    go_wp2_with fail
    go_ret
    exact ⟨by rw [HE3.out]; rfl, B⟩

set_option maxHeartbeats 1000000 in
theorem idxHolds_any (gs : Nat) (vs : Value) (S : List (List Nat)) (v : Value) (L : List Rw) (w : World) (hk : Blk w gs #[vs] 22) (ht : IsRows w vs S) (hm : (rowAt S 0).length ≤ 281474976710656) (hL : IsRL w v L) (hlen : L.length ≤ 1000000000) :
    Calls Tryz.prog 32 #[v, .func (Fn.func 17) #[] #[.pointer (some ⟨gs, 0, none⟩)]] w (FoundB (!L.all (holdsR S)) w) := by
  have HL0 := Lib.hid hL
  have KK := Lib.hid hk
  have KT := Lib.hid ht
  clear hk ht
  obtain ⟨a, c, rfl⟩ := hL.shape
  clear hL
  go_enter Tryz.func32, Tryz.ntmps32
  go_wp2_with fail
  go_loopw [5, 8] (fun _ x wr => ∃ j : Nat, j ≤ L.length ∧ x = .int .i64 j ∧ Below w.heap.size w wr ∧ ∀ i, i < j → (holdsR S) (rwAt L i) = true) (fun _ x _ => L.length - (intOf x).toNat)
  case atStart => exact ⟨0, by omega, rfl, Below.refl _ _, fun i hi => by omega⟩
  case round =>
    obtain ⟨j, hj, rfl, B, hno⟩ := hrel
    have HN := Lib.hid hno
    clear hno
    by_cases hjl : j < L.length
    · obtain ⟨b, off, c', er, hbl⟩ := HL0.out.addr (by omega)
      simp only [Value.slice.injEq] at er
      obtain ⟨rfl, -, rfl⟩ := er
      obtain ⟨x0, y0, hx0, hy0, hxb, hyb⟩ := (HL0.out.go B).cells j hjl
      obtain ⟨r, hr⟩ : ∃ r, r = rwAt L j := ⟨_, rfl⟩
      rw [← hr] at hxb hyb
      have HRR := Lib.hid hr
      have HXR := Lib.hid (show IsRow wr (.agg #[x0, y0]) r.1 r.2 from ⟨_, _, rfl, hxb, hyb⟩)
      obtain ⟨xa, xc, rfl, _⟩ := hxb
      obtain ⟨ya, yc, rfl, _⟩ := hyb
      have j1 : (j : Int) < (L.length : Int) := by omega
      have j0 : (0 : Int) ≤ (j : Int) := Int.natCast_nonneg _
      clear hr hbl
      go_wp2_with fail
      have KK2 := KK.out.go B
      have KT2 := KT.out.below (Nat.le_refl _) B
      refine (holds1_any gs vs S _ r.1 r.2 wr KK2 KT2 hm HXR.out).mono ?_
      rintro e w2 ⟨rfl, hb2⟩
      replace B := B.trans (hb2.mono B.size)
      clear hb2 hx0 hy0 HXR
      cases hp : (holdsR S) (r.1, r.2) with
      | true =>
        have HP := Lib.hid (show (holdsR S) (rwAt L j) = true by rw [← HRR.out]; exact hp)
        clear hp
        simp only [Bool.not_true]
        go_wp2_with fail
        go_roundw
        case rel => exact ⟨j + 1, by omega, by go_num, B, fun i hi => by
          by_cases h : i = j
          · rw [h]; exact HP.out
          · exact HN.out i (by omega)⟩
        case measure => simp [intOf]; omega
      | false =>
        have HP := Lib.hid (all_false (p := holdsR S) hjl (by rw [← HRR.out]; exact hp))
        clear hp
        simp only [Bool.not_false]
        go_wp2_with fail
        go_ret
        exact ⟨j, rfl, by rw [HP.out]; simp, B⟩
    · have HF := Lib.hid (all_true (p := holdsR S) (L := L) fun i hi => HN.out i (by omega))
      go_wp2_with fail
      go_ret
      exact ⟨-1, rfl, by rw [HF.out]; decide, B⟩


theorem holds_all (S : List (List Nat)) (L : List Rw) : L.all (holdsR S) = holdsL S L := rfl
set_option maxHeartbeats 1000000 in
theorem holds_any (vs v : Value) (S : List (List Nat)) (L : List Rw) (w : World) (hS : IsRows w vs S) (hL : IsRL w v L) (hm : (rowAt S 0).length ≤ 281474976710656) (hlen : L.length ≤ 1000000000) :
    Calls Tryz.prog 7 #[vs, v] w fun e w' => e = .returned (.bool (holdsL S L)) ∧ Below w.heap.size w w' := by
  have HS := Lib.hid hS
  have HL := Lib.hid hL
  obtain ⟨sa, sc, rfl⟩ := hS.shape
  obtain ⟨a, c, rfl⟩ := hL.shape
  clear hS hL
  have hmf := hmf9c
  go_enter Tryz.func7, Tryz.ntmps7
  go_wp2_with fail
  have B : Below w.heap.size w w := Below.refl _ _
  obtain ⟨hb, hk, hs⟩ := blocks1 w #[.slice sa S.length sc] 22
  generalize w.alloc (.cells #[.slice sa S.length sc] 22) = W1 at *
  have K1 := Lib.hid hk
  replace HS := Lib.hid (HS.out.go hb)
  replace HL := Lib.hid (HL.out.go hb)
  replace B := B.trans (hb.mono B.size)
  have hzW1 := B.size
  clear hb hk hs
  refine (hasRow_any _ _ _ _ (idxHolds_any w.heap.size _ S _ L _ K1.out HS.out hm HL.out hlen)).mono ?_
  rintro e w2 ⟨rfl, hb⟩
  replace B := B.trans (hb.mono B.size)
  have hzw2 := B.size
  clear hb
  clear hmf
  rw [holds_all]
  go_wp2_with fail
  go_ret
  exact ⟨by simp, B⟩

end Go.Proofs.YtphdadibfeencaaGreat

/-
  What a list of rows reads as are bytes.
-/
set_option maxRecDepth 100000
namespace Go.Proofs.YtphdadibfeencaaGreat
open Go.RowKit

theorem IsRL.oct {w : World} {v : Value} {L : List Rw} (h : IsRL w v L) : ∀ r, r ∈ L → (∀ x, x ∈ r.1 → x < 256) ∧ ∀ x, x ∈ r.2 → x < 256 := by
  intro r hr
  obtain ⟨i, hi, rfl⟩ := List.mem_iff_getElem.1 hr
  obtain ⟨b, off, c, rfl, _⟩ := h.addr (by omega)
  obtain ⟨x0, y0, _, _, hx, hy⟩ := h.cells i hi
  rw [rwAt_eq L i hi] at hx hy
  exact ⟨hx.lt, hy.lt⟩

end Go.Proofs.YtphdadibfeencaaGreat
