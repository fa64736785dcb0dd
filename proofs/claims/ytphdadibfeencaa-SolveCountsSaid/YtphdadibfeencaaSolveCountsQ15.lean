/- Texts of one seat, laid together: MonoN, SolveD, RefSolveC, SolveC, LawSeven, LawEightC, CopyFit, LawEightD, LawEightG, LawSevenB. -/
import Derived.Test.YtphdadibfeencaaSolveCountsQ13
import Derived.Test.YtphdadibfeencaaSolveCountsQ14
import Derived.Test.YtphdadibfeencaaSolveCountsQ11
import Derived.Test.YtphdadibfeencaaSolveCountsQ5
import Derived.Test.YtphdadibfeencaaSolveCountsQ6
import Derived.Test.YtphdadibfeencaaSolveCountsQ4
import Derived.Test.YtphdadibfeencaaSolveCountsQ9
import Derived.Test.YtphdadibfeencaaSolveCountsQ1
import Derived.Deep.SlicePairs
import Derived.Test.YtphdadibfeencaaSolveCountsQ7
import Derived.Test.YtphdadibfeencaaSolveCountsQ2
import Derived.Test.YtphdadibfeencaaSolveCountsQ3

/-
  A region that draws its order, makes a list of numbers and a box for a result, and writes the box.
-/
set_option maxRecDepth 100000
namespace Go.Proofs.Ytphdadibfeencaa
open Go.RowKit

/-- A step that writes a box of one number which was made behind W. -/
def Hn (W : World) (_ : Nat) (w w' : World) : Prop := ∃ g a n c a' n' c', W.heap.size ≤ g ∧ Blk w g #[.slice a n c] 36 ∧ w.grownBy w' (some g) ∧ Blk w' g #[.slice a' n' c'] 36
theorem hCH_n (W : World) : ∀ (c : Nat) w w', Cb W w → Hn W c w w' → Cb W w' := fun _ _ _ h ⟨_, _, _, _, _, _, _, hg, _, hw, _⟩ => below_grown h hw h.size hg
theorem IsNat.hn {W w w' : World} {c : Nat} {u : Value} {n : Nat} (h : IsNat w u n) (hh : Hn W c w w') : IsNat w' u n := by
  obtain ⟨g, a, m, c, _, _, _, _, hk, hg, _⟩ := hh
  exact h.box hk hg

variable {W : World}
/-- A number. -/
def Ty.nat (t : Tmp) (n : Nat) : Ty (Cb W) Rb (Hn W) := Ty.one t (fun v w => IsNat w v n) (fun _ _ _ _ hR h => h.go hR) (fun _ _ _ _ _ hH h => h.hn hH)
/-- A number and an error's. -/
def Ty.natE (t : Tmp) (n : Nat) (err : Int) : Ty (Cb W) Rb (Hn W) := Ty.one t (fun v w => ∃ u, v = .tuple #[u, .int .i64 err] ∧ IsNat w u n) (fun _ _ _ _ hR ⟨u, e, h⟩ => ⟨u, e, h.go hR⟩) (fun _ _ _ _ _ hH ⟨u, e, h⟩ => ⟨u, e, h.hn hH⟩)
/-- A box for a number, made anew. -/
def Made (W w : World) (v : Value) : Prop := ∃ g a n c, v = .pointer (some ⟨g, 0, none⟩) ∧ W.heap.size ≤ g ∧ Blk w g #[.slice a n c] 36
theorem Made.hn {w w' : World} {c : Nat} {v : Value} (h : Made W w v) (hh : Hn W c w w') : Made W w' v := by
  obtain ⟨g, a, n, c, e, hg, hk⟩ := h
  obtain ⟨g', a', n', c', a2, n2, c2, _, hk', hw, hk2⟩ := hh
  by_cases h : g = g'
  · subst h; exact ⟨g, a2, n2, c2, e, hg, hk2⟩
  · exact ⟨g, a, n, c, e, hg, hk.grown hw (by simpa using h)⟩
def Ty.made (t : Tmp) : Ty (Cb W) Rb (Hn W) := Ty.one t (fun v w => Made W w v) (fun _ _ _ _ hR ⟨g, a, n, c, e, hg, hk⟩ => ⟨g, a, n, c, e, hg, hk.go hR⟩) (fun _ _ _ _ _ hH h => h.hn hH)
/-- What the box holds at last. -/
def Filled (W w : World) (v : Value) (x : Nat) : Prop := ∃ g a n c, v = .pointer (some ⟨g, 0, none⟩) ∧ W.heap.size ≤ g ∧ Blk w g #[.slice a n c] 36 ∧ IsNat w (.agg #[.slice a n c]) x
def Ty.filled (t : Tmp) (x : Nat) : Ty (Cb W) Rb (Hn W) :=
  ⟨[t], fun vs w => Filled W w (vs.headD undef) x, some 0, fun _ => false, fun _ _ _ _ hR ⟨g, a, n, c, e, hg, hk, hn⟩ => ⟨g, a, n, c, e, hg, hk.go hR, hn.go hR⟩, (fun _ e => by cases e), fun _ => True, fun _ => true, fun _ _ _ _ _ => trivial, (fun _ _ _ _ _ _ _ => trivial)⟩

section
variable {P : Program} {C : World → Prop} {R : World → World → Prop} {H : Nat → World → World → Prop} {a : Act} {w : World} {o : Oper} {Q : Exit → Act → World → Prop}
/-- A store by a temporary of which is told. -/
theorem ob_store1 {T : Ty C R H} {t : Tmp} {c : Nat} {E : TypeId} {y : Operand} {p q : Value} (w1 : World) (hS : T.S = [t]) (hh : T.kind = some c) (hd : o.dst = none) (hop : o.op = .store E (.tmp t) y) (hx : a.eval (.tmp t) = p) (hy : a.eval y = q)
    (hrun : (Instr.storeAt E p q).run P w = .ok () w1) (hH : H c w w1) (hF : T.F [p] w1) : Done P T Q o a w := by
  unfold Done Oper.wp
  have e : (execOp a.eval o).run P w = .ok .skip w1 := by simp [execOp, hop, hx, hy, hrun]
  rw [e]
  refine ⟨undef, rfl, by unfold stepR; rw [hh]; exact hH, ?_⟩
  rw [hS, List.map_cons, List.map_nil, hd]
  show T.F [a.eval (.tmp t)] w1
  rw [hx]
  exact hF
end

theorem store_nat {w : World} {g : Nat} {a0 a1 : Option Addr} {n0 n1 c0 c1 : Nat} {T : TypeId} (hk : Blk w g #[.slice a0 n0 c0] T) : (Instr.storeAt 36 (.pointer (some ⟨g, 0, none⟩)) (.agg #[.slice a1 n1 c1])).run Try.prog w = .ok () (w.setCell ⟨g, 0, none⟩ (.slice a1 n1 c1)) := by
  have h0 : w.cell? ⟨g, 0, none⟩ = some (.slice a0 n0 c0) := hk.cell 0
  have hf := hk.free 0
  go_simp

/-- The store of a result. -/
theorem ob_store_nat {Q : Exit → Act → World → Prop} {a : Act} {w : World} {o : Oper} {t : Tmp} {y : Operand} {x : Nat} (hd : o.dst = none) (hop : o.op = .store 36 (.tmp t) y) (hm : Made W w (a.eval (.tmp t))) (hy : IsNat w (a.eval y) x) :
    Done Try.prog (Ty.filled (W := W) t x) Q o a w := by
  obtain ⟨g, a0, n0, c0, e, hg, hk⟩ := hm
  obtain ⟨a1, c1, e1, hw, _⟩ := hy.shape
  have hgs := grown_setCell w ⟨g, 0, none⟩ (.slice a1 (Wt.dg x).length c1)
  have hn : IsNat w (.agg #[.slice a1 (Wt.dg x).length c1]) x := ⟨_, rfl, hw⟩
  refine ob_store1 _ rfl rfl hd hop e e1 (store_nat hk) ⟨g, a0, n0, c0, _, _, _, hg, hk, hgs, hk.set 0 _⟩ ⟨g, _, _, _, rfl, hg, hk.set 0 _, hn.box hk hgs⟩

/-- The box. -/
theorem ob_made {Q : Exit → Act → World → Prop} {a : Act} {w : World} {o : Oper} {t : Tmp} (hd : o.dst = some t) (hlt : t < a.tmps.size) (hop : o.op = .alloc 36) (hC : Cb W w)
    (hrun : (execOp a.eval o).run Try.prog w = .ok (.value (.pointer (some ⟨w.heap.size, 0, none⟩))) (w.alloc (.cells #[.slice none 0 0] 36))) : Done Try.prog (Ty.made (W := W) t) Q o a w := by
  have _ := hop
  refine ob_value _ _ rfl rfl hd hlt hrun ((Below.refl _ _).alloc (Nat.le_refl _) _) ⟨_, _, _, _, rfl, hC.size, Blk.new _ _ _ _ rfl⟩

end Go.Proofs.Ytphdadibfeencaa

/-
  What equations say together (layer 9) in the program: 'Count'.
-/
set_option maxRecDepth 100000
namespace Go.Proofs.Ytphdadibfeencaa
open Go.RowKit

theorem pow256 {n j : Nat} (h : n ≤ 4000) (hj : j ≤ n) : ¬ Great (256 ^ j) := not_great (k := j + 1) (Nat.pow_lt_pow_right (by decide) (Nat.lt_succ_self _)) (by omega)
theorem pow256_any (u : Value) (n : Nat) (w : World) (hn : n ≤ 4000) (hU : IsNat w u 256) :
    Calls Try.prog 27 #[u, .int .i64 (n : Int)] w (NatE w (256 ^ n) 0) :=
  pow_ok u 256 n w (by omega) (by have := pow256 (n := 1) (j := 1) (by decide) (by decide); simpa using this) (fun _ hj => pow256 hn hj) hU
theorem sub_int {x y : Operand} {a b c : Nat} (h : (a : Int) - (b : Int) = (c : Int)) (hc : c ≤ 9223372036854775807) (w : World) : (do eqGuard .sub 3 x y (.int .i64 a) (.int .i64 b); binOp .sub 3 (.int .i64 a) (.int .i64 b) : Sem Value).run Try.prog w = .ok (.int .i64 c) w := by
  go_simp
  rw [IntKind.wrap_i64]; omega
theorem mul_int {x y : Operand} {a b c : Nat} (h : (a : Int) * (b : Int) = (c : Int)) (hc : c ≤ 9223372036854775807) (w : World) : (do eqGuard .mul 3 x y (.int .i64 a) (.int .i64 b); binOp .mul 3 (.int .i64 a) (.int .i64 b) : Sem Value).run Try.prog w = .ok (.int .i64 c) w := by
  go_simp
  rw [IntKind.wrap_i64]; omega
/-- How many solutions there are. -/
def countN (k t : Nat) (L : List Rw) : Nat := if 0 ≤ firstC L L.length then 0 else 256 ^ (t * (k - (Ro.redOf L).length))

set_option maxHeartbeats 1000000 in
theorem count_no (k t : Int) (v : Value) (L : List Rw) (w : World) (hL : IsRL w v L) (h : ¬ newOk k t) :
    Calls Try.prog 9 #[.int .i64 k, .int .i64 t, v] w (NatE w 0 2) := by
  have HL := Lib.hid hL
  obtain ⟨a, c, rfl⟩ := hL.shape
  clear hL
  go_enter Try.func9, Try.ntmps9
  go_wp2_with fail
  obtain ⟨B, hk1, hs⟩ := blocks1 w #[.slice none 0 0] 36
  generalize (w.alloc (.cells #[.slice none 0 0] 36)) = W at *
  have K1 := Lib.hid hk1
  have HS := Lib.hid hs
  clear hs hk1
  replace HL := Lib.hid (HL.out.go B)
  have hzW := B.size
  refine (judge_no k t _ L _ HL.out h).mono ?_
  rintro e w1 ⟨rfl, hb⟩
  replace K1 := Lib.hid (K1.out.go hb)
  replace B := B.trans (hb.mono B.size)
  have hzw1 := B.size
  clear hb
  have f0 := K1.out.free 0
  have c0 : w1.cell? ⟨w.heap.size, 0, none⟩ = some (.slice none 0 0) := K1.out.cell 0
  have l0 := K1.out.lt
  go_wp2_with fail
  have hbs := B.setCell (p := ⟨w.heap.size, 0, none⟩) (Nat.le_refl _) (.slice none 0 0)
  have hB := hbs.alloc hbs.size (.cells #[.int .i64 0, .int .i64 0] 30)
  have e0 := ((K1.out.set 0 (.slice none 0 0)).go ((Below.refl _ _).alloc (Nat.le_refl _) (.cells #[.int .i64 0, .int .i64 0] 30))).cell 0
  exact bodyPost_ret (v := .tuple #[.agg #[.slice none 0 0], .int .i64 2]) (by simp [results, Try.results9, go_sem, e0]) rfl ⟨_, rfl, nat_zero _, hB⟩
set_option maxHeartbeats 2000000 in
theorem count_yes (k t : Nat) (v : Value) (L : List Rw) (w : World) (hL : IsRL w v L) (hlen : L.length ≤ 1000000) (h : newOk (k : Int) (t : Int)) (hD : Ro.Dims k t L) (hkt : t * k ≤ 4000) :
    Calls Try.prog 9 #[.int .i64 (k : Int), .int .i64 (t : Int), v] w (NatE w (countN k t L) 0) := by
  have HL := Lib.hid hL
  obtain ⟨a, c, rfl⟩ := hL.shape
  have HJ := Lib.hid (fun (w : World) (hh : IsRL w (.slice a L.length c) L) => judge_yes k t _ L w hh hlen h hD)
  have hrk : (Ro.redOf L).length ≤ k := by
    have := (redOf_red hD L.length (Nat.le_refl _)).1
    rw [List.take_length] at this
    rw [red_rank1 this]; exact La.rk_le _ _
  obtain ⟨rk, hr⟩ : ∃ rk, rk = (Ro.redOf L).length := ⟨_, rfl⟩
  obtain ⟨f, hf⟩ : ∃ f, f = firstC L L.length := ⟨_, rfl⟩
  have HC := Lib.hid (show countN k t L = if 0 ≤ f then 0 else 256 ^ (t * (k - rk)) by unfold countN; rw [hr, hf])
  rw [← hr] at hrk HJ
  rw [← hf] at HJ
  obtain ⟨N, hN⟩ : ∃ N, N = countN k t L := ⟨_, rfl⟩
  rw [← hN] at HC ⊢
  have hb2 : k ≤ 4096 ∧ t ≤ 65535 := by unfold newOk at h; omega
  clear hL hr hf hD h hN
  by_cases h0 : 0 ≤ f
  · have HC2 := Lib.hid (show N = 0 by rw [HC.out, if_pos h0])
    clear HC
    go_enter Try.func9, Try.ntmps9
    go_wp2_with fail
    obtain ⟨B, hk1, hs⟩ := blocks1 w #[.slice none 0 0] 36
    generalize (w.alloc (.cells #[.slice none 0 0] 36)) = W at *
    have K1 := Lib.hid hk1
    have HS := Lib.hid hs
    clear hs hk1
    replace HL := Lib.hid (HL.out.go B)
    have hzW := B.size
    refine (HJ.out _ HL.out).mono ?_
    rintro e w1 ⟨rfl, hb⟩
    replace K1 := Lib.hid (K1.out.go hb)
    replace B := B.trans (hb.mono B.size)
    have hzw1 := B.size
    clear hb
    clear HJ HL
    have f0 := K1.out.free 0
    have c0 : w1.cell? ⟨w.heap.size, 0, none⟩ = some (.slice none 0 0) := K1.out.cell 0
    have l0 := K1.out.lt
    go_wp2_with fail
    have hbs := B.setCell (p := ⟨w.heap.size, 0, none⟩) (Nat.le_refl _) (.slice none 0 0)
    have hB := hbs.alloc hbs.size (.cells #[.int .i64 (rk : Int), .int .i64 f] 30)
    have e0 := ((K1.out.set 0 (.slice none 0 0)).go ((Below.refl _ _).alloc (Nat.le_refl _) (.cells #[.int .i64 (rk : Int), .int .i64 f] 30))).cell 0
    exact bodyPost_ret (v := .tuple #[.agg #[.slice none 0 0], .int .i64 0]) (by simp [results, Try.results9, go_sem, e0]) rfl ⟨_, rfl, by rw [HC2.out]; exact nat_zero _, hB⟩
  · have HC2 := Lib.hid (show N = 256 ^ (t * (k - rk)) by rw [HC.out, if_neg h0])
    obtain ⟨m, hm⟩ : ∃ m, m = k - rk := ⟨_, rfl⟩
    have hm2 : (k : Int) - (rk : Int) = (m : Int) := by omega
    have htm : t * m ≤ 4000 := Nat.le_trans (Nat.mul_le_mul_left t (by omega)) hkt
    obtain ⟨q, hq⟩ : ∃ q, q = t * m := ⟨_, rfl⟩
    have hq2 : (t : Int) * (m : Int) = (q : Int) := by rw [hq]; simp
    rw [← hm, ← hq] at HC2
    rw [← hq] at htm
    have HM := Lib.hid hm2
    have HQ := Lib.hid hq2
    clear hm hq hm2 hq2 hkt HC
    go_enter Try.func9, Try.ntmps9
    go_wp2_with fail
    obtain ⟨B, hk1, hs⟩ := blocks1 w #[.slice none 0 0] 36
    generalize (w.alloc (.cells #[.slice none 0 0] 36)) = W at *
    have K1 := Lib.hid hk1
    have HS := Lib.hid hs
    clear hs hk1
    replace HL := Lib.hid (HL.out.go B)
    have hzW := B.size
    refine (HJ.out _ HL.out).mono ?_
    rintro e w1 ⟨rfl, hb⟩
    replace K1 := Lib.hid (K1.out.go hb)
    replace B := B.trans (hb.mono B.size)
    have hzw1 := B.size
    clear hb
    clear HJ HL
    go_upto_region 6 with fail
    obtain ⟨hb, hk, hs⟩ := blocks1 w1 #[.int .i64 (rk : Int), .int .i64 f] 30
    generalize w1.alloc (.cells #[.int .i64 (rk : Int), .int .i64 f] 30) = W2 at *
    have K2 := Lib.hid hk
    replace K1 := Lib.hid (K1.out.go hb)
    replace B := B.trans (hb.mono B.size)
    have hzW2 := B.size
    clear hb hk hs
    have hmk : m ≤ k := by have := HM.out; omega
    obtain ⟨g, hg⟩ : ∃ g : Nat, g = w1.heap.size := ⟨_, rfl⟩
    rw [← hg] at K2
    simp only [← hg]
    clear hg
    have l0 := K1.out.lt
    refine wp_region_mono (C := Cb W2) (R := Rb) (H := Hn W2) [Ty.nat 27 256, Ty.val 28 (.int .i64 (t : Int)), Ty.val 29 (.int .i64 (k : Int)), Ty.val 30 (.pointer (some ⟨g, 0, none⟩)), Ty.val 31 (.int .i64 (rk : Int)), Ty.val 32 (.int .i64 (m : Int)), Ty.val 33 (.int .i64 (q : Int)), Ty.natE 34 (256 ^ q) 0, Ty.natE 26 (256 ^ q) 0, Ty.nat 35 (256 ^ q), Ty.val 36 (.int .i64 0), Ty.made 10 , Ty.filled 10 (256 ^ q), Ty.val 9 (.int .i64 0)] (by kernel_rfl) (hC_b W2) (hCH_n W2) (drew_b W2) ⟨trivial, trivial, trivial, trivial, trivial, trivial, trivial, trivial, trivial, trivial, trivial, trivial, trivial, trivial, trivial⟩ (by kernel_rfl) ?_ ?_
    · refine ⟨?_, ?_, ?_, ?_, ?_, ?_, ?_, ?_, ?_, ?_, ?_, ?_, ?_, ?_, trivial⟩
      · intro ac wc hC hsz hfr hd hpr
        rw [if_pos (wanted_none rfl)]
        refine ob_call rfl rfl rfl (Nat.lt_of_lt_of_eq (by decide : 27 < 41) hsz.symm) rfl (enter_of Try.func17 (by kernel_rfl) rfl) ?_
        show Calls Try.prog 17 #[.int .u64 256] wc _
        exact natof_any 256 wc (by decide)
      · intro ac wc hC hsz hfr hd hpr
        have d1 : ac.eval (.tmp 1) = (.int .i64 (t : Int)) := hfr 1 rfl
        rw [if_pos (wanted_none rfl)]
        exact ob_copy rfl rfl rfl (Nat.lt_of_lt_of_eq (by decide : 28 < 41) hsz.symm) (Or.inl rfl) (Below.refl _ _) d1
      · intro ac wc hC hsz hfr hd hpr
        have d0 : ac.eval (.tmp 0) = (.int .i64 (k : Int)) := hfr 0 rfl
        rw [if_pos (wanted_none rfl)]
        exact ob_copy rfl rfl rfl (Nat.lt_of_lt_of_eq (by decide : 29 < 41) hsz.symm) (Or.inl rfl) (Below.refl _ _) d0
      · intro ac wc hC hsz hfr hd hpr
        have d8 : ac.eval (.tmp 8) = (.pointer (some ⟨g, 0, none⟩)) := hfr 8 rfl
        rw [if_pos (wanted_none rfl)]
        exact ob_field _ rfl rfl rfl (Nat.lt_of_lt_of_eq (by decide : 30 < 41) hsz.symm) rfl d8 (fun w => by go_simp) (Below.refl _ _) rfl
      · intro ac wc hC hsz hfr hd hpr
        have d30 : ac.eval (.tmp 30) = (.pointer (some ⟨g, 0, none⟩)) := hd 3 rfl
        rw [if_pos (wanted_none rfl)]
        exact ob_load _ rfl rfl rfl (Nat.lt_of_lt_of_eq (by decide : 31 < 41) hsz.symm) rfl d30 (load_int ((K2.out.go hC).cell 0)) (Below.refl _ _) rfl
      · intro ac wc hC hsz hfr hd hpr
        have d29 : ac.eval (.tmp 29) = (.int .i64 (k : Int)) := hd 2 rfl
        have d31 : ac.eval (.tmp 31) = (.int .i64 (rk : Int)) := hd 4 rfl
        rw [if_pos (wanted_none rfl)]
        exact ob_bin _ rfl rfl rfl (Nat.lt_of_lt_of_eq (by decide : 32 < 41) hsz.symm) rfl d29 d31 (sub_int HM.out (by omega)) (Below.refl _ _) rfl
      · intro ac wc hC hsz hfr hd hpr
        have d28 : ac.eval (.tmp 28) = (.int .i64 (t : Int)) := hd 1 rfl
        have d32 : ac.eval (.tmp 32) = (.int .i64 (m : Int)) := hd 5 rfl
        rw [if_pos (wanted_none rfl)]
        exact ob_bin _ rfl rfl rfl (Nat.lt_of_lt_of_eq (by decide : 33 < 41) hsz.symm) rfl d28 d32 (mul_int HQ.out (by omega)) (Below.refl _ _) rfl
      · intro ac wc hC hsz hfr hd hpr
        have d27 : IsNat wc (ac.eval (.tmp 27)) 256 := hd 0 rfl
        have d33 : ac.eval (.tmp 33) = (.int .i64 (q : Int)) := hd 6 rfl
        rw [if_pos (wanted_none rfl)]
        refine ob_call rfl rfl rfl (Nat.lt_of_lt_of_eq (by decide : 34 < 41) hsz.symm) rfl (enter_of Try.func27 (by kernel_rfl) rfl) ?_
        show Calls Try.prog 27 #[ac.eval (.tmp 27), ac.eval (.tmp 33)] wc _
        rw [d33]
        exact (pow256_any _ q wc htm d27).mono fun _ _ ⟨u, he, hu, hb⟩ => ⟨_, he, ⟨u, rfl, hu⟩, hb⟩
      · intro ac wc hC hsz hfr hd hpr
        have d34 : ∃ u, ac.eval (.tmp 34) = .tuple #[u, .int .i64 0] ∧ IsNat wc (u) (256 ^ q) := hd 7 rfl
        rw [if_pos (wanted_none rfl)]
        exact ob_copy rfl rfl rfl (Nat.lt_of_lt_of_eq (by decide : 26 < 41) hsz.symm) (Or.inl rfl) (Below.refl _ _) d34
      · intro ac wc hC hsz hfr hd hpr
        have d26 : ∃ u, ac.eval (.tmp 26) = .tuple #[u, .int .i64 0] ∧ IsNat wc (u) (256 ^ q) := hd 8 rfl
        rw [if_pos (wanted_none rfl)]
        obtain ⟨u, eu, hu⟩ := d26
        exact ob_extract _ rfl rfl rfl (Nat.lt_of_lt_of_eq (by decide : 35 < 41) hsz.symm) rfl eu (extract0 _ _) (Below.refl _ _) hu
      · intro ac wc hC hsz hfr hd hpr
        have d26 : ∃ u, ac.eval (.tmp 26) = .tuple #[u, .int .i64 0] ∧ IsNat wc (u) (256 ^ q) := hd 8 rfl
        rw [if_pos (wanted_none rfl)]
        obtain ⟨u, eu, hu⟩ := d26
        exact ob_extract _ rfl rfl rfl (Nat.lt_of_lt_of_eq (by decide : 36 < 41) hsz.symm) rfl eu (extract1 _ _) (Below.refl _ _) rfl
      · intro ac wc hC hsz hfr hd hpr
        rw [if_pos (wanted_none rfl)]
        have hlt : 10 < ac.tmps.size := (Nat.lt_of_lt_of_eq (by decide : 10 < 41) hsz.symm)
        exact ob_made rfl hlt rfl hC (by go_simp)
      · intro ac wc hC hsz hfr hd hpr
        have d10 : Made W2 wc (ac.eval (.tmp 10)) := hd 11 rfl
        have d35 : IsNat wc (ac.eval (.tmp 35)) (256 ^ q) := hd 9 rfl
        rw [if_pos (wanted_none rfl)]
        show Done _ (Ty.filled 10 (256 ^ q)) _ _ _ _
        exact ob_store_nat rfl rfl d10 d35
      · intro ac wc hC hsz hfr hd hpr
        have d36 : ac.eval (.tmp 36) = (.int .i64 0) := hd 10 rfl
        rw [if_pos (wanted_none rfl)]
        exact ob_copy rfl rfl rfl (Nat.lt_of_lt_of_eq (by decide : 9 < 41) hsz.symm) (Or.inr rfl) (Below.refl _ _) d36
    intro a' W3 hC hdef hsz hfr hd
    obtain ⟨x27, e27, r27⟩ : ∃ xq_, a'.eval (.tmp 27) = xq_ ∧ IsNat W3 (xq_) 256 := ⟨_, rfl, hd 0 (by decide)⟩
    replace r27 := Lib.hid r27
    have e28 : a'.eval (.tmp 28) = (.int .i64 (t : Int)) := hd 1 (by decide)
    have e29 : a'.eval (.tmp 29) = (.int .i64 (k : Int)) := hd 2 (by decide)
    have e30 : a'.eval (.tmp 30) = (.pointer (some ⟨g, 0, none⟩)) := hd 3 (by decide)
    have e31 : a'.eval (.tmp 31) = (.int .i64 (rk : Int)) := hd 4 (by decide)
    have e32 : a'.eval (.tmp 32) = (.int .i64 (m : Int)) := hd 5 (by decide)
    have e33 : a'.eval (.tmp 33) = (.int .i64 (q : Int)) := hd 6 (by decide)
    obtain ⟨x34, e34, r34⟩ : ∃ u, a'.eval (.tmp 34) = .tuple #[u, .int .i64 0] ∧ IsNat W3 (u) (256 ^ q) := hd 7 (by decide)
    replace r34 := Lib.hid r34
    obtain ⟨x26, e26, r26⟩ : ∃ u, a'.eval (.tmp 26) = .tuple #[u, .int .i64 0] ∧ IsNat W3 (u) (256 ^ q) := hd 8 (by decide)
    replace r26 := Lib.hid r26
    obtain ⟨x35, e35, r35⟩ : ∃ xq_, a'.eval (.tmp 35) = xq_ ∧ IsNat W3 (xq_) (256 ^ q) := ⟨_, rfl, hd 9 (by decide)⟩
    replace r35 := Lib.hid r35
    have e36 : a'.eval (.tmp 36) = (.int .i64 0) := hd 10 (by decide)
    obtain ⟨g10, x10, y10, z10, e10, hg10, kb10, r10⟩ : Filled W2 W3 (a'.eval (.tmp 10)) (256 ^ q) := hd 12 (by decide)
    replace r10 := Lib.hid r10
    replace kb10 := Lib.hid kb10
    have e9 : a'.eval (.tmp 9) = (.int .i64 0) := hd 13 (by decide)
    have hact := act_puts hdef hsz hfr
    simp only [dstsOf, List.filterMap, putAll, Act.put, List.setIfInBounds_toArray, List.set_cons_succ, List.set_cons_zero, e27, e28, e29, e30, e31, e32, e33, e34, e26, e35, e36, e10, e9] at hact
    clear hd hfr hsz hdef e27 e28 e29 e30 e31 e32 e33 e34 e26 e35 e36 e10 e9
    subst hact
    replace K1 := Lib.hid (K1.out.go hC)
    replace B := B.trans (hC.mono B.size)
    clear hC
    have f0 := K1.out.free 0
    have c0 : W3.cell? ⟨w.heap.size, 0, none⟩ = some (.slice none 0 0) := K1.out.cell 0
    have l3 := K1.out.lt
    have c3 : W3.cell? ⟨g10, 0, none⟩ = some (.slice x10 y10 z10) := kb10.out.cell 0
    go_wp2_with fail
    have e0 := (K1.out.set 0 (.slice x10 y10 z10)).cell 0
    have hB := B.setCell (p := ⟨w.heap.size, 0, none⟩) (Nat.le_refl _) (.slice x10 y10 z10)
    have HN := r10.out.hn (c := 0) (W := w) ⟨w.heap.size, _, _, _, _, _, _, Nat.le_refl _, K1.out, grown_setCell _ ⟨w.heap.size, 0, none⟩ _, K1.out.set 0 (.slice x10 y10 z10)⟩
    exact bodyPost_ret (v := .tuple #[.agg #[.slice x10 y10 z10], .int .i64 0]) (by simp [results, Try.results9, go_sem, e0]) rfl ⟨_, rfl, by rw [HC2.out]; exact HN, hB⟩

end Go.Proofs.Ytphdadibfeencaa

/-
  The document's answer for what equations say together (wellspringref09), in the program: 'Holds'.
-/
set_option maxRecDepth 100000
namespace Go.Proofs.Ytphdadibfeencaa
open Go.RowKit

/-- Do symbols hold for an equation? -/
def holdsR (S : List (List Nat)) (x : Rw) : Bool := decide (S.length = x.1.length) && S.all (fun s => decide (s.length = x.2.length)) && decide (combL x.1 S = x.2)
def holdsL (S : List (List Nat)) (L : List Rw) : Bool := L.all (holdsR S)
end Go.Proofs.Ytphdadibfeencaa

/-
  What equations say together (layer 9) in the program: 'Holds'.
-/
set_option maxRecDepth 100000
namespace Go.Proofs.Ytphdadibfeencaa
open Go.RowKit

theorem hmf9c (fn : Fn) (first cap : Array Value) (w : World) : (Instr.makeFunc fn first cap).run Try.prog w = .ok (.func fn first cap) w := rfl
/-- The program's test is the document's. -/
theorem holds_eq (S : List (List Nat)) (x : Rw) : holdsR S x = (decide (combE x.1 S = 0) && decide (combL x.1 S = x.2)) := by
  rw [Bool.eq_iff_iff]
  unfold holdsR
  simp only [Bool.and_eq_true, decide_eq_true_eq, List.all_eq_true]
  constructor
  · rintro ⟨⟨h1, h2⟩, h3⟩
    refine ⟨?_, h3⟩
    have ha : alikeB S = true := by
      unfold alikeB
      rw [List.all_eq_true]
      intro r hr
      have h0 : (rowAt S 0).length = x.2.length := by
        have : 0 < S.length := List.length_pos_of_mem hr
        rw [rowAt_eq S 0 this]
        exact h2 _ (List.getElem_mem this)
      rw [h2 r hr, h0]; simp
    unfold combE
    rw [if_pos ⟨h1.symm, ha⟩]
  · rintro ⟨h1, h3⟩
    have hc : x.1.length = S.length ∧ alikeB S = true := by
      by_cases h : x.1.length = S.length ∧ alikeB S = true
      · exact h
      · unfold combE at h1; rw [if_neg h] at h1; cases h1
    refine ⟨⟨hc.1.symm, fun s hs => ?_⟩, h3⟩
    have hne : S ≠ [] := fun e => by rw [e] at hs; cases hs
    rw [combL_eq, if_pos ⟨hc.1, hc.2, hne⟩] at h3
    have hl : x.2.length = (rowAt S 0).length := by rw [← h3, combT_length]
    rw [hl]
    have := hc.2
    unfold alikeB at this
    rw [List.all_eq_true] at this
    simpa using this s hs

set_option maxHeartbeats 1000000 in
theorem holds1_any (gs : Nat) (vs : Value) (S : List (List Nat)) (u : Value) (p q : List Nat) (w : World) (hk : Blk w gs #[vs] 47) (hS : IsRows w vs S) (hm : (rowAt S 0).length ≤ 281474976710656) (hu : IsRow w u p q) :
    Calls Try.prog 39 #[u, .pointer (some ⟨gs, 0, none⟩)] w fun e w' => e = .returned (.bool (!holdsR S (p, q))) ∧ Below w.heap.size w w' := by
  have c0 : w.cell? ⟨gs, 0, none⟩ = some vs := hk.cell 0
  have l0 := hk.lt
  have HU := Lib.hid hu
  have HS := Lib.hid hS
  obtain ⟨u0, u1, rfl, hp, hq⟩ := hu
  have HP := Lib.hid hp
  have HQ := Lib.hid hq
  obtain ⟨a, c, rfl, _⟩ := hp
  obtain ⟨a', c', rfl, _⟩ := hq
  obtain ⟨sa, sc, rfl⟩ := hS.shape
  have HE := Lib.hid (holds_eq S (p, q))
  clear hk hS
  go_enter Try.func39, Try.ntmps39
  go_wp2_with fail
  have B : Below w.heap.size w w := Below.refl _ _
  obtain ⟨hb, hk, hs⟩ := blocks1 w #[.slice a p.length c, .slice a' q.length c'] 52
  generalize w.alloc (.cells #[.slice a p.length c, .slice a' q.length c'] 52) = W1 at *
  have K1 := Lib.hid hk
  replace HP := Lib.hid (HP.out.go hb)
  replace HQ := Lib.hid (HQ.out.go hb)
  replace HS := Lib.hid (HS.out.go hb)
  replace B := B.trans (hb.mono B.size)
  have hzW1 := B.size
  clear hb hk hs
  clear c0 l0
  refine (comb_any _ _ p S _ (by omega) HP.out HS.out).mono ?_
  rintro e w2 ⟨v2, rfl, hv2, hb⟩
  replace K1 := Lib.hid (K1.out.go hb)
  replace HP := Lib.hid (HP.out.go hb)
  replace HQ := Lib.hid (HQ.out.go hb)
  replace B := B.trans (hb.mono B.size)
  have hzw2 := B.size
  clear hb
  have HV := Lib.hid (hv2.bytes (combL_lt HP.out.lt S) (by have := combL_length p S; omega))
  obtain ⟨L9, hL9⟩ : ∃ L9, L9 = combL p S := ⟨_, rfl⟩
  obtain ⟨e9, he9⟩ : ∃ e9, e9 = combE p S := ⟨_, rfl⟩
  have HE2 := Lib.hid (show holdsR S (p, q) = (decide (e9 = 0) && decide (L9 = q)) by rw [HE.out, he9, hL9])
  rw [← hL9] at HV
  rw [← he9]
  clear hv2 hL9 he9 HE
  obtain ⟨va, vc, rfl, _⟩ := (show Bytes w2 v2 L9 from HV.out)
  by_cases h : e9 = 0
  · have hb9 : (e9 != (0 : Int)) = false := by rw [h]; rfl
    have HE3 := Lib.hid (show (!holdsR S (p, q)) = !decide (L9 = q) by rw [HE2.out, h]; simp)
    clear h HE2
    obtain ⟨k10, k11⟩ := K1.out.two
    have k1l := K1.out.lt
    go_wp2_with fail
    refine (equal_any _ _ L9 q _ HV.out HQ.out).mono ?_
    rintro e w' ⟨rfl, rfl⟩
    go_wp2_with fail
    go_ret
    exact ⟨by rw [HE3.out]; rfl, B⟩
  · have hb9 : (e9 != (0 : Int)) = true := by rw [bne_iff_ne]; exact h
    have HE3 := Lib.hid (show (!holdsR S (p, q)) = true by rw [HE2.out]; simp [h])
    clear h HE2
    obtain ⟨k10, k11⟩ := K1.out.two
    have k1l := K1.out.lt
    go_wp2_with fail
    go_ret
    exact ⟨by rw [HE3.out]; rfl, B⟩

set_option maxHeartbeats 1000000 in
theorem idxHolds_any (gs : Nat) (vs : Value) (S : List (List Nat)) (v : Value) (L : List Rw) (w : World) (hk : Blk w gs #[vs] 47) (ht : IsRows w vs S) (hm : (rowAt S 0).length ≤ 281474976710656) (hL : IsRL w v L) (hlen : L.length ≤ 1000000000) :
    Calls Try.prog 45 #[v, .func (Fn.func 39) #[] #[.pointer (some ⟨gs, 0, none⟩)]] w (FoundB (!L.all (holdsR S)) w) := by
  have HL0 := Lib.hid hL
  have KK := Lib.hid hk
  have KT := Lib.hid ht
  clear hk ht
  obtain ⟨a, c, rfl⟩ := hL.shape
  clear hL
  go_enter Try.func45, Try.ntmps45
  go_wp2_with fail
  go_loopw [5, 8] (fun _ x wr => ∃ j : Nat, j ≤ L.length ∧ x = .int .i64 j ∧ Below w.heap.size w wr ∧ ∀ i, i < j → (holdsR S) (rwAt L i) = true) (fun _ x _ => L.length - (intOf x).toNat)
  case atStart => exact ⟨0, by omega, rfl, Below.refl _ _, fun i hi => by omega⟩
  case round =>
    obtain ⟨j, hj, rfl, B, hno⟩ := hrel
    have HN := Lib.hid hno
    clear hno
    by_cases hjl : j < L.length
    · obtain ⟨b, off, c', er, hbl⟩ := HL0.out.addr (by omega)
      simp only [Value.slice.injEq] at er
      obtain ⟨rfl, -, rfl⟩ := er
      obtain ⟨x0, y0, hx0, hy0, hxb, hyb⟩ := (HL0.out.go B).cells j hjl
      obtain ⟨r, hr⟩ : ∃ r, r = rwAt L j := ⟨_, rfl⟩
      rw [← hr] at hxb hyb
      have HRR := Lib.hid hr
      have HXR := Lib.hid (show IsRow wr (.agg #[x0, y0]) r.1 r.2 from ⟨_, _, rfl, hxb, hyb⟩)
      obtain ⟨xa, xc, rfl, _⟩ := hxb
      obtain ⟨ya, yc, rfl, _⟩ := hyb
      have j1 : (j : Int) < (L.length : Int) := by omega
      have j0 : (0 : Int) ≤ (j : Int) := Int.natCast_nonneg _
      clear hr hbl
      go_wp2_with fail
      have KK2 := KK.out.go B
      have KT2 := KT.out.below (Nat.le_refl _) B
      refine (holds1_any gs vs S _ r.1 r.2 wr KK2 KT2 hm HXR.out).mono ?_
      rintro e w2 ⟨rfl, hb2⟩
      replace B := B.trans (hb2.mono B.size)
      clear hb2 hx0 hy0 HXR
      cases hp : (holdsR S) (r.1, r.2) with
      | true =>
        have HP := Lib.hid (show (holdsR S) (rwAt L j) = true by rw [← HRR.out]; exact hp)
        clear hp
        simp only [Bool.not_true]
        go_wp2_with fail
        go_roundw
        case rel => exact ⟨j + 1, by omega, by go_num, B, fun i hi => by
          by_cases h : i = j
          · rw [h]; exact HP.out
          · exact HN.out i (by omega)⟩
        case measure => simp [intOf]; omega
      | false =>
        have HP := Lib.hid (all_false (p := holdsR S) hjl (by rw [← HRR.out]; exact hp))
        clear hp
        simp only [Bool.not_false]
        go_wp2_with fail
        go_ret
        exact ⟨j, rfl, by rw [HP.out]; simp, B⟩
    · have HF := Lib.hid (all_true (p := holdsR S) (L := L) fun i hi => HN.out i (by omega))
      go_wp2_with fail
      go_ret
      exact ⟨-1, rfl, by rw [HF.out]; decide, B⟩


theorem holds_all (S : List (List Nat)) (L : List Rw) : L.all (holdsR S) = holdsL S L := rfl
set_option maxHeartbeats 1000000 in
theorem holds_any (vs v : Value) (S : List (List Nat)) (L : List Rw) (w : World) (hS : IsRows w vs S) (hL : IsRL w v L) (hm : (rowAt S 0).length ≤ 281474976710656) (hlen : L.length ≤ 1000000000) :
    Calls Try.prog 15 #[vs, v] w fun e w' => e = .returned (.bool (holdsL S L)) ∧ Below w.heap.size w w' := by
  have HS := Lib.hid hS
  have HL := Lib.hid hL
  obtain ⟨sa, sc, rfl⟩ := hS.shape
  obtain ⟨a, c, rfl⟩ := hL.shape
  clear hS hL
  have hmf := hmf9c
  go_enter Try.func15, Try.ntmps15
  go_wp2_with fail
  have B : Below w.heap.size w w := Below.refl _ _
  obtain ⟨hb, hk, hs⟩ := blocks1 w #[.slice sa S.length sc] 47
  generalize w.alloc (.cells #[.slice sa S.length sc] 47) = W1 at *
  have K1 := Lib.hid hk
  replace HS := Lib.hid (HS.out.go hb)
  replace HL := Lib.hid (HL.out.go hb)
  replace B := B.trans (hb.mono B.size)
  have hzW1 := B.size
  clear hb hk hs
  refine (hasRow_any _ _ _ _ (idxHolds_any w.heap.size _ S _ L _ K1.out HS.out hm HL.out hlen)).mono ?_
  rintro e w2 ⟨rfl, hb⟩
  replace B := B.trans (hb.mono B.size)
  have hzw2 := B.size
  clear hb
  clear hmf
  rw [holds_all]
  go_wp2_with fail
  go_ret
  exact ⟨by simp, B⟩

end Go.Proofs.Ytphdadibfeencaa

/-
  The laws of grids (layer 7): the example, and the grid of cut rows.
-/
set_option maxRecDepth 100000
namespace Go.Proofs.Ytphdadibfeencaa
open Go.RowKit

theorem Blk.bytes2 {W : World} {g : Nat} {x y : Int} {T : TypeId} (h : Blk W g #[.int .u8 x, .int .u8 y] T) (a b : Nat) (hx : x = a) (hy : y = b) (ha : a < 256) (hb : b < 256) : Bytes W (.slice (some ⟨g, 0, none⟩) 2 2) [a, b] := by
  subst hx; subst hy
  refine ⟨_, 2, rfl, Nat.le_refl _, by omega, by simp [ha, hb], fun _ => ⟨g, 0, rfl, h.lt, fun i hi => ?_⟩⟩
  rw [Nat.zero_add, h.cell i]
  match i, hi with
  | 0, _ => rfl
  | 1, _ => rfl
end Go.Proofs.Ytphdadibfeencaa

/-
  The laws of equations (layer 8): the example.
-/
set_option maxRecDepth 100000
namespace Go.Proofs.Ytphdadibfeencaa
open Go.RowKit

def eq1 : Rw := ([1, 1], [3])
theorem dim_1 : Ro.Dim 2 1 eq1 := ⟨rfl, rfl, by decide, by decide⟩
theorem Blk.bytes1 {W : World} {g : Nat} {x : Int} {T : TypeId} (h : Blk W g #[.int .u8 x] T) (a : Nat) (hx : x = a) (ha : a < 256) : Bytes W (.slice (some ⟨g, 0, none⟩) 1 1) [a] := by
  subst hx
  refine ⟨_, 1, rfl, Nat.le_refl _, by omega, by simp [ha], fun _ => ⟨g, 0, rfl, h.lt, fun i hi => ?_⟩⟩
  rw [Nat.zero_add, h.cell i]
  match i, hi with
  | 0, _ => rfl

end Go.Proofs.Ytphdadibfeencaa

/-
  Bytes copied into a slice that was made: cut, or with noughts behind.
-/
set_option maxRecDepth 100000
namespace Go.Proofs.Ytphdadibfeencaa
open Go.RowKit

/-- The first m bytes, with noughts behind. -/
def fitR (m : Nat) (r : List Nat) : List Nat := r.take m ++ zeros (m - r.length)
theorem fitR_length (m : Nat) (r : List Nat) : (fitR m r).length = m := by simp [fitR, zeros]; omega
theorem fitR_lt {m : Nat} {r : List Nat} (h : ∀ x, x ∈ r → x < 256) : ∀ x, x ∈ fitR m r → x < 256 := by
  intro x hx
  rcases List.mem_append.1 hx with hx | hx
  · exact h x (List.mem_of_mem_take hx)
  · exact zeros_lt _ x hx
theorem wr_fit (m : Nat) (r : List Nat) : wr ((zeros m).map U8) 0 ((r.take m).map U8) = (fitR m r).map U8 := by
  have h : m - min m r.length = m - r.length := by omega
  unfold wr fitR zeros
  simp [h]

theorem infoU8 : (Try.prog.info? 5).map (·.size) = some 1 := by kernel_rfl

/-- 'copy(v, row)', into a new slice of noughts. -/
theorem copy_fit {w : World} {gb m : Nat} {v : Value} {r : List Nat} (hO : Own w gb (zeros m)) (hB : Bytes w v r) :
    ∃ W, (∀ ty, (Builtin.copy_ #[40, 40] ty #[.slice (some ⟨gb, 0, none⟩) m m, v]).run Try.prog w = .ok (goInt ((min r.length m : Nat) : Int)) W) ∧ Own W gb (fitR m r) ∧ w.grownBy W (some gb) := by
  obtain ⟨a, c, rfl, h1, h2, h3, h4⟩ := hB
  have hO' : w.heap[gb]? = some (.cells ((zeros m).map U8).toArray 5 (0, 0)) := hO
  have hgr : ∀ cs : Array Value, w.grownBy (w.setRow gb cs) (some gb) := fun cs => ⟨rfl, rfl, rfl, by simp, fun k _ hne => setRow_other w gb k _ (by intro e; rw [e] at hne; exact hne rfl)⟩
  cases a with
  | none =>
    have hr : r = [] := by
      refine Decidable.byContradiction fun hne => ?_
      obtain ⟨b, off, e, _⟩ := h4 hne
      cases e
    subst hr
    refine ⟨w, fun ty => ?_, ?_, grown_refl _ _⟩
    · simp [Builtin.copy_, run_underlying Try.underlying40, Builtin.lenOf, Builtin.firstCells, sizeOf, typeInfo, storeCells]
      obtain ⟨i, hi⟩ : ∃ i, Try.prog.info? 5 = some i := by
        cases h : Try.prog.info? 5 with
        | none => have := infoU8; rw [h] at this; cases this
        | some i => exact ⟨i, rfl⟩
      rw [hi]
      simp
    · have : fitR m [] = zeros m := by simp [fitR]
      rw [this]; exact hO
  | some ad =>
    refine ⟨w.setRow gb ((fitR m r).map U8).toArray, fun ty => ?_, ?_, hgr _⟩
    · have h := run_copy_rowN (P := Try.prog) w 40 40 ty 5 gb 0 m m ad r.length c ((zeros m).map U8).toArray 5 ((r.take m).map U8) 1 (min r.length m) Try.underlying40 infoU8 hO' rfl (by simp [Nat.min_comm]) (fun j u hj => ?_) (by simp [zeros]; omega) (fun u hu => by
        obtain ⟨x, _, rfl⟩ := List.mem_map.1 hu
        rfl)
      · rw [h]
        have e := wr_fit m r
        simp only at e ⊢
        rw [e]
      · rw [List.getElem?_map, List.getElem?_take] at hj
        split at hj
        · rename_i hjm
          cases hx : r[j]? with
          | none => rw [hx] at hj; cases hj
          | some x =>
            rw [hx] at hj
            simp only [Option.map_some, Option.some.injEq] at hj
            subst hj
            have hjl := (List.getElem?_eq_some_iff.1 hx).1
            obtain ⟨b, off, e, _, hc⟩ := h4 (by intro e; rw [e] at hjl; simp at hjl)
            simp only [Option.some.injEq] at e
            subst e
            rw [row_add, hc j hjl, nth_eq r j hjl]
            have := (List.getElem?_eq_some_iff.1 hx).2
            rw [this]
        · cases hj
    · show (w.setRow gb _).heap[gb]? = _
      exact setRow_heap w gb _ _ _ _ hO'

end Go.Proofs.Ytphdadibfeencaa

/-
  The laws of equations (layer 8): an equation that fits.
-/
set_option maxRecDepth 100000
namespace Go.Proofs.Ytphdadibfeencaa
open Go.RowKit

theorem two_own (W : World) (k t : Nat) : ∃ (W1 : World) (g1 g2 : Nat), Own W1 g1 (zeros k) ∧ Own W1 g2 (zeros t) ∧ g1 ≠ g2 ∧ Below W.heap.size W W1 ∧ W.heap.size ≤ g1 ∧ W.heap.size ≤ g2 ∧ W1 = ((W.alloc (bytesObj (List.replicate k 0))).alloc (bytesObj (List.replicate t 0))).drew ∧ g1 = W.heap.size ∧ g2 = W.heap.size + 1 := by
  have b1 : Below W.heap.size W (W.alloc (bytesObj (List.replicate k 0))) := (Below.refl _ _).alloc (Nat.le_refl _) _
  have b2 : Below (W.alloc (bytesObj (List.replicate k 0))).heap.size (W.alloc (bytesObj (List.replicate k 0))) ((W.alloc (bytesObj (List.replicate k 0))).alloc (bytesObj (List.replicate t 0))) := (Below.refl _ _).alloc (Nat.le_refl _) _
  have hs : (W.alloc (bytesObj (List.replicate k 0))).heap.size = W.heap.size + 1 := by simp
  have b3 : Below ((W.alloc (bytesObj (List.replicate k 0))).alloc (bytesObj (List.replicate t 0))).heap.size ((W.alloc (bytesObj (List.replicate k 0))).alloc (bytesObj (List.replicate t 0))) ((W.alloc (bytesObj (List.replicate k 0))).alloc (bytesObj (List.replicate t 0))).drew := (Below.refl _ _).drew
  refine ⟨_, _, _, ?_, ?_, ?_, ?_, Nat.le_refl _, Nat.le_succ _, rfl, rfl, rfl⟩
  · exact ((Own.new W (zeros k)).go b2).go b3
  · have := (Own.new (W.alloc (bytesObj (List.replicate k 0))) (zeros t)).go b3
    rw [hs] at this; exact this
  · omega
  · exact (b1.trans (b2.mono b1.size)).trans (b3.mono (b1.trans (b2.mono b1.size)).size)

set_option maxHeartbeats 2000000 in
theorem fit8_any (u : Value) (p q : List Nat) (k t : Nat) (w : World) (hu : IsRow w u p q) (hk : k ≤ 1000000) (ht : t ≤ 1000000) :
    Calls Try.prog 18 #[u, .int .i64 (k : Int), .int .i64 (t : Int)] w (RowsV w (fitR k p) (fitR t q)) := by
  obtain ⟨v0, d0, rfl, hp, hq⟩ := hu
  have HP := Lib.hid hp
  have HQ := Lib.hid hq
  obtain ⟨a0, c0, rfl, _⟩ := hp
  obtain ⟨a1, c1, rfl, _⟩ := hq
  have hmk : ∀ w : World, (Instr.makeSlice 40 (.int .i64 (k : Int)) (.int .i64 (k : Int))).run Try.prog w = .ok (.slice (some ⟨w.heap.size, 0, none⟩) k k) (w.alloc (bytesObj (List.replicate k 0))) := make_bytes k (by omega)
  have hmt : ∀ w : World, (Instr.makeSlice 40 (.int .i64 (t : Int)) (.int .i64 (t : Int))).run Try.prog w = .ok (.slice (some ⟨w.heap.size, 0, none⟩) t t) (w.alloc (bytesObj (List.replicate t 0))) := make_bytes t (by omega)
  go_enter Try.func18, Try.ntmps18
  go_wp2_with fail
  obtain ⟨B, hk1, hk2, hs⟩ := blocks2 w #[.slice a0 p.length c0, .slice a1 q.length c1] 42 #[.slice none 0 0, .slice none 0 0] 42
  generalize ((w.alloc (.cells #[.slice a0 p.length c0, .slice a1 q.length c1] 42)).alloc (.cells #[.slice none 0 0, .slice none 0 0] 42)) = W at *
  have K1 := Lib.hid hk1
  have K2 := Lib.hid hk2
  have HS := Lib.hid hs
  clear hs hk1 hk2
  have hzW := B.size
  go_region
  · obtain ⟨W1, g1, g2, h1, h2, n12, hbW, hn1, hn2, eW, e1, e2⟩ : ∃ (W1 : World) (g1 g2 : Nat), Own W1 g1 (zeros k) ∧ Own W1 g2 (zeros t) ∧ g1 ≠ g2 ∧ Below W.heap.size W W1 ∧ W.heap.size ≤ g1 ∧ W.heap.size ≤ g2 ∧ W1 = ((W.alloc (bytesObj (List.replicate k 0))).alloc (bytesObj (List.replicate t 0))).drew ∧ g1 = W.heap.size ∧ g2 = W.heap.size + 1 := two_own W k t
    rw [← eW, ← e2, ← e1]
    clear eW e1 e2 hmk hmt
    have hg1 : w.heap.size + 1 < g1 := by have := K2.out.lt; omega
    have hg2 : w.heap.size + 1 < g2 := by have := K2.out.lt; omega
    replace K1 := Lib.hid (K1.out.go hbW)
    replace K2 := Lib.hid (K2.out.go hbW)
    replace B := B.trans (hbW.mono B.size)
    clear hn1 hn2 hbW hzW HS
    obtain ⟨W2, hcp, hO1, hgr⟩ := copy_fit (m := k) h1 (HP.out.go B)
    have B2 := below_grown B hgr B.size (by omega)
    obtain ⟨W3, hcp2, hO2, hgr2⟩ := copy_fit (m := t) (h2.grown hgr (by simpa using n12.symm)) (HQ.out.go B2)
    have B3 := below_grown B2 hgr2 B2.size (by omega)
    replace hO1 := hO1.grown hgr2 (by simpa using n12)
    have KQ1 := Lib.hid ((K1.out.grown hgr (by simp; omega)).grown hgr2 (by simp; omega))
    have KQ2 := Lib.hid ((K2.out.grown hgr (by simp; omega)).grown hgr2 (by simp; omega))
    have KP1 := Lib.hid (K1.out.grown hgr (by simp; omega))
    have HB1 := Lib.hid (hO1.bytes (fitR_lt HP.out.lt) (by rw [fitR_length]; omega))
    have HB2 := Lib.hid (hO2.bytes (fitR_lt HQ.out.lt) (by rw [fitR_length]; omega))
    have hb3 := Lib.hid B3
    rw [fitR_length] at HB1 HB2
    obtain ⟨k10, k11⟩ := K1.out.two
    have k1l := K1.out.lt
    have kp0 := KP1.out.cell 0
    have kp1 := KP1.out.cell 1
    have kpl := KP1.out.lt
    obtain ⟨kq20, kq21⟩ := KQ2.out.two
    have kq2l := KQ2.out.lt
    obtain ⟨kq2f0, kq2f1⟩ := KQ2.out.fre2
    clear h1 h2 hgr hgr2 hO1 hO2 B2 B3 B n12
    go_wp2_with fail
    obtain ⟨e0, e1, hB, hS⟩ := store2 KQ2.out (by omega) hb3.out (slice_ne _ _ _) (slice_ne _ _ _) (.slice (some ⟨g1, 0, none⟩) k k) (.slice (some ⟨g2, 0, none⟩) t t)
    have hS1 := hS _ _ HB1.out
    have hS2 := hS _ _ HB2.out
    exact bodyPost_ret (v := .agg #[.slice (some ⟨g1, 0, none⟩) k k, .slice (some ⟨g2, 0, none⟩) t t]) (by simp [results, Try.results18, go_sem, e0, e1]) rfl
      ⟨_, rfl, ⟨_, _, rfl, hS1, hS2⟩, hB⟩
  · obtain ⟨W1, g2, g1, h2, h1, n12, hbW, hn2, hn1, eW, e2, e1⟩ : ∃ (W1 : World) (g1 g2 : Nat), Own W1 g1 (zeros t) ∧ Own W1 g2 (zeros k) ∧ g1 ≠ g2 ∧ Below W.heap.size W W1 ∧ W.heap.size ≤ g1 ∧ W.heap.size ≤ g2 ∧ W1 = ((W.alloc (bytesObj (List.replicate t 0))).alloc (bytesObj (List.replicate k 0))).drew ∧ g1 = W.heap.size ∧ g2 = W.heap.size + 1 := two_own W t k
    rw [← eW, ← e1, ← e2]
    replace n12 := n12.symm
    clear eW e1 e2 hmk hmt
    have hg1 : w.heap.size + 1 < g1 := by have := K2.out.lt; omega
    have hg2 : w.heap.size + 1 < g2 := by have := K2.out.lt; omega
    replace K1 := Lib.hid (K1.out.go hbW)
    replace K2 := Lib.hid (K2.out.go hbW)
    replace B := B.trans (hbW.mono B.size)
    clear hn1 hn2 hbW hzW HS
    obtain ⟨W2, hcp, hO1, hgr⟩ := copy_fit (m := k) h1 (HP.out.go B)
    have B2 := below_grown B hgr B.size (by omega)
    obtain ⟨W3, hcp2, hO2, hgr2⟩ := copy_fit (m := t) (h2.grown hgr (by simpa using n12.symm)) (HQ.out.go B2)
    have B3 := below_grown B2 hgr2 B2.size (by omega)
    replace hO1 := hO1.grown hgr2 (by simpa using n12)
    have KQ1 := Lib.hid ((K1.out.grown hgr (by simp; omega)).grown hgr2 (by simp; omega))
    have KQ2 := Lib.hid ((K2.out.grown hgr (by simp; omega)).grown hgr2 (by simp; omega))
    have KP1 := Lib.hid (K1.out.grown hgr (by simp; omega))
    have HB1 := Lib.hid (hO1.bytes (fitR_lt HP.out.lt) (by rw [fitR_length]; omega))
    have HB2 := Lib.hid (hO2.bytes (fitR_lt HQ.out.lt) (by rw [fitR_length]; omega))
    have hb3 := Lib.hid B3
    rw [fitR_length] at HB1 HB2
    obtain ⟨k10, k11⟩ := K1.out.two
    have k1l := K1.out.lt
    have kp0 := KP1.out.cell 0
    have kp1 := KP1.out.cell 1
    have kpl := KP1.out.lt
    obtain ⟨kq20, kq21⟩ := KQ2.out.two
    have kq2l := KQ2.out.lt
    obtain ⟨kq2f0, kq2f1⟩ := KQ2.out.fre2
    clear h1 h2 hgr hgr2 hO1 hO2 B2 B3 B n12
    go_wp2_with fail
    obtain ⟨e0, e1, hB, hS⟩ := store2 KQ2.out (by omega) hb3.out (slice_ne _ _ _) (slice_ne _ _ _) (.slice (some ⟨g1, 0, none⟩) k k) (.slice (some ⟨g2, 0, none⟩) t t)
    have hS1 := hS _ _ HB1.out
    have hS2 := hS _ _ HB2.out
    exact bodyPost_ret (v := .agg #[.slice (some ⟨g1, 0, none⟩) k k, .slice (some ⟨g2, 0, none⟩) t t]) (by simp [results, Try.results18, go_sem, e0, e1]) rfl
      ⟨_, rfl, ⟨_, _, rfl, hS1, hS2⟩, hB⟩

end Go.Proofs.Ytphdadibfeencaa

/-
  The laws of equations (layer 8): ElimPuts, equation by equation.
-/
set_option maxRecDepth 100000
namespace Go.Proofs.Ytphdadibfeencaa
open Go.RowKit

theorem fit_dim {p q : List Nat} (k t : Nat) (hp : ∀ x, x ∈ p → x < 256) (hq : ∀ x, x ∈ q → x < 256) : Ro.Dim k t (fitR k p, fitR t q) := ⟨fitR_length _ _, fitR_length _ _, fitR_lt hp, fitR_lt hq⟩


end Go.Proofs.Ytphdadibfeencaa

/-
  The laws of grids (layer 7): 'Made'.
-/
set_option maxRecDepth 100000
namespace Go.Proofs.Ytphdadibfeencaa
open Go.RowKit

/-- The rows cut, or with noughts behind. -/
def fitL (m : Nat) (ll : List (List Nat)) : List (List Nat) := ll.map (fitR m)
theorem fitL_length (m : Nat) (ll : List (List Nat)) : (fitL m ll).length = ll.length := by simp [fitL]
theorem fitL_wide (m : Nat) (ll : List (List Nat)) : ∀ r ∈ fitL m ll, r.length = m := fun r hr => by
  obtain ⟨x, _, rfl⟩ := List.mem_map.1 hr
  exact fitR_length m x
theorem fitL_take {m : Nat} {ll : List (List Nat)} {j : Nat} (hj : j < ll.length) : fitL m (ll.take (j + 1)) = fitL m (ll.take j) ++ [fitR m (rowAt ll j)] := by
  rw [take_rowAt ll j hj]
  unfold fitL
  rw [List.map_append]
  rfl
theorem fitL_oct {m : Nat} {ll : List (List Nat)} (h : OctM ll) : OctM (fitL m ll) := fun r hr => by
  obtain ⟨x, hx, rfl⟩ := List.mem_map.1 hr
  exact fitR_lt (h x hx)

end Go.Proofs.Ytphdadibfeencaa
