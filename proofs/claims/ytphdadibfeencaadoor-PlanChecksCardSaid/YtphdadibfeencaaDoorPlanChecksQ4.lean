/- Texts of one seat, laid together: RefPlanT, PlanC, LawTenA. -/
import Derived.Test.YtphdadibfeencaaDoorPlanChecksQ3
import Derived.Test.YtphdadibfeencaaDoorPlanChecksQ1
import Derived.Deep.Slices
import Derived.Deep.RegionHeld3
import Derived.Deep.QuietTactic
import Derived.BigQuiet
import Derived.Test.YtphdadibfeencaaDoorPlanChecksQ2
import Derived.Lib.AppendIntMem
import Derived.Lib.ItoaLen

/-
  The document's answer for a plan's text (wellspringref10), in the program: 'Text'. (The library's contracts are laid by lay-shelf.mjs at the seat's dump; for a claim by lay-plain.mjs.)
-/
set_option maxRecDepth 100000
namespace Go.Proofs.YtphdadibfeencaaDoor
open Go.RowKit

/-- The library's table of powers of ten. -/
def PowTab (w : World) : Prop := Lib.TabIs Tryd.prog w "internal/strconv.uint64pow10" .u64 Lib.pow10Tab
theorem PowTab.go {w w' : World} (h : PowTab w) (hb : Below w.heap.size w w') : PowTab w' := Lib.tabBelow_of_tabIs h w' hb
/-- The figures of a number. -/
def decL (n : Int) : List Nat := (Lib.itoa n).map UInt8.toNat
theorem strOf_itoa (n : Int) : (⟨(Lib.itoa n).toArray⟩ : ByteArray) = strOf (decL n) := by
  have e : ∀ x y : ByteArray, x.data.toList = y.data.toList → x = y := by
    intro x y h
    cases x; cases y
    congr
    exact Array.toList_inj.1 h
  apply e
  unfold strOf decL
  rw [strOfNums_data]
  simp only [List.map_map]
  have h : ((fun n : Int => UInt8.ofNat n.toNat) ∘ Int.ofNat ∘ UInt8.toNat) = id := by funext c; simp
  rw [h, List.map_id]
theorem decL_len {n : Int} (h0 : -9223372036854775808 ≤ n) (h1 : n ≤ 9223372036854775807) : (decL n).length ≤ 21 := by
  unfold decL; rw [List.length_map]; exact Lib.itoa_length_le n h0 h1
theorem itoa_any (n : Int) (w : World) (h0 : -9223372036854775808 ≤ n) (h1 : n ≤ 9223372036854775807) (ht : PowTab w) :
    Calls Tryd.prog 20 #[.int .i64 n] w fun e w' => e = .returned (.string (strOf (decL n))) ∧ Below w.heap.size w w' := by
  refine (Tryd.strconv_Itoa n h0 h1 w ht).mono ?_
  rintro e w' ⟨rfl, k, os, rfl⟩
  refine ⟨by rw [strOf_itoa], ?_⟩
  exact Lib.below_grow w.heap.size w (Nat.le_refl _) k os
theorem str_add {x y : Operand} (a b : List Nat) (h : a.length + b.length ≤ 1000) (w : World) : (do eqGuard .add 9 x y (.string (strOf a)) (.string (strOf b)); binOp .add 9 (.string (strOf a)) (.string (strOf b)) : Sem Value).run Tryd.prog w = .ok (.string (strOf (a ++ b))) w := by
  have h1 := strOf_size a
  have h2 := strOf_size b
  have h3 : ¬ 9223372036854775807 < (strOf a).size + (strOf b).size := by omega
  have h4 : a.length + b.length ≤ 9223372036854775807 := by omega
  rw [← strOf_append]
  generalize strOf a = A at *
  generalize strOf b = D at *
  go_simp

theorem str_addE {x y : Operand} {a b c : List Nat} (h : a ++ b = c) (hc : c.length ≤ 1000) (w : World) : (do eqGuard .add 9 x y (.string (strOf a)) (.string (strOf b)); binOp .add 9 (.string (strOf a)) (.string (strOf b)) : Sem Value).run Tryd.prog w = .ok (.string (strOf c)) w := by
  subst h; exact str_add a b (by rw [← List.length_append]; exact hc) w
def preL : List Nat := [111, 98, 106, 101, 99, 116, 32]
theorem str_pre {x y : Operand} {b c : List Nat} (h : preL ++ b = c) (hc : c.length ≤ 1000) (w : World) : (do eqGuard .add 9 x y (.string ⟨#[111, 98, 106, 101, 99, 116, 32]⟩) (.string (strOf b)); binOp .add 9 (.string ⟨#[111, 98, 106, 101, 99, 116, 32]⟩) (.string (strOf b)) : Sem Value).run Tryd.prog w = .ok (.string (strOf c)) w := by
  rw [show (⟨#[111, 98, 106, 101, 99, 116, 32]⟩ : ByteArray) = strOf preL from rfl]; exact str_addE h hc w
theorem str_blank {x y : Operand} {a c : List Nat} (h : a ++ [32] = c) (hc : c.length ≤ 1000) (w : World) : (do eqGuard .add 9 x y (.string (strOf a)) (.string ⟨#[32]⟩); binOp .add 9 (.string (strOf a)) (.string ⟨#[32]⟩) : Sem Value).run Tryd.prog w = .ok (.string (strOf c)) w := by
  rw [show (⟨#[32]⟩ : ByteArray) = strOf [32] from rfl]; exact str_addE h hc w
theorem load_w32 {w : World} {g k : Nat} {v : Value} (h : w.cell? ⟨g, k, none⟩ = some v) : (Instr.loadAt 22 (.pointer (some ⟨g, k, none⟩))).run Tryd.prog w = .ok v w := by
  go_simp
/-- The text of a plan. -/
def textL (l s k n : Int) : List Nat := if checkE l s k = 0 then [111, 98, 106, 101, 99, 116, 32] ++ decL n ++ [32] ++ decL l ++ [32] ++ decL s ++ [32] ++ decL k else []
set_option maxHeartbeats 2000000 in
theorem reftext10_any (l s k : Int) (n : Nat) (w : World) (hl : l ≤ 9223372036854775807) (hn : n < 4294967296) (hT : PowTab w) :
    Calls Tryd.prog 12 #[.agg #[.int .i64 l, .int .i64 s, .int .i64 k, .int .u32 (n : Int)]] w fun e w' => e = .returned (.string (strOf (textL l s k n))) ∧ Below w.heap.size w w' := by
  have HT := Lib.hid hT
  obtain ⟨ce, hce⟩ : ∃ x, x = checkE l s k := ⟨_, rfl⟩
  have HC := Lib.hid hce.symm
  go_enter Tryd.func12, Tryd.ntmps12
  go_wp2_with fail
  obtain ⟨B, hk1, hs⟩ := blocks1 w #[.int .i64 l, .int .i64 s, .int .i64 k, .int .u32 (n : Int)] 26
  generalize (w.alloc (.cells #[.int .i64 l, .int .i64 s, .int .i64 k, .int .u32 (n : Int)] 26)) = W at *
  have K1 := Lib.hid hk1
  have HS := Lib.hid hs
  clear hs hk1
  replace HT := Lib.hid (HT.out.go B)
  have hzW := B.size
  refine (refcheck_any l s k _ _ hl ⟨n, rfl⟩).mono ?_
  rintro e w1 ⟨rfl, hb⟩
  replace K1 := Lib.hid (K1.out.go hb)
  replace HT := Lib.hid (HT.out.go hb)
  replace B := B.trans (hb.mono B.size)
  have hzw1 := B.size
  clear hb
  rw [HC.out]
  by_cases hc0 : ce = 0
  · have hb : (ce != 0) = false := by rw [hc0]; rfl
    have HX := Lib.hid (show textL l s k n = [111, 98, 106, 101, 99, 116, 32] ++ decL n ++ [32] ++ decL l ++ [32] ++ decL s ++ [32] ++ decL k from if_pos (by rw [HC.out, hc0]))
    obtain ⟨p1, p2, p3, p4, p5, -⟩ := check_ok (by rw [HC.out, hc0])
    have hu : IntKind.i64.wrap (n : Int) = (n : Int) := by rw [IntKind.wrap_i64]; omega
    have l1 := decL_len (n := (n : Int)) (by omega) (by omega)
    have l2 := decL_len (n := l) (by omega) (by omega)
    have l3 := decL_len (n := s) (by omega) (by omega)
    have l4 := decL_len (n := k) (by omega) (by omega)
    have HP := Lib.hid (show l ≤ 9223372036854775807 ∧ 0 ≤ l ∧ 1 ≤ s ∧ s ≤ 65535 ∧ 1 ≤ k ∧ k ≤ 4096 from ⟨hl, p1, p2, p3, p4, p5⟩)
    obtain ⟨x10, e10⟩ : ∃ x, preL ++ decL n = x := ⟨_, rfl⟩
    obtain ⟨x11, e11⟩ : ∃ x, x10 ++ [32] = x := ⟨_, rfl⟩
    obtain ⟨x15, e15⟩ : ∃ x, x11 ++ decL l = x := ⟨_, rfl⟩
    obtain ⟨x16, e16⟩ : ∃ x, x15 ++ [32] = x := ⟨_, rfl⟩
    obtain ⟨x20, e20⟩ : ∃ x, x16 ++ decL s = x := ⟨_, rfl⟩
    obtain ⟨x21, e21⟩ : ∃ x, x20 ++ [32] = x := ⟨_, rfl⟩
    obtain ⟨x25, e25⟩ : ∃ x, x21 ++ decL k = x := ⟨_, rfl⟩
    have y10 : x10.length ≤ 28 := by rw [← e10, List.length_append]; simp [preL]; omega
    have y11 : x11.length ≤ 29 := by rw [← e11, List.length_append]; simp; omega
    have y15 : x15.length ≤ 50 := by rw [← e15, List.length_append]; omega
    have y16 : x16.length ≤ 51 := by rw [← e16, List.length_append]; simp; omega
    have y20 : x20.length ≤ 72 := by rw [← e20, List.length_append]; omega
    have y21 : x21.length ≤ 73 := by rw [← e21, List.length_append]; simp; omega
    have y25 : x25.length ≤ 94 := by rw [← e25, List.length_append]; omega
    have HXE := Lib.hid (show textL l s k n = x25 by rw [HX.out, ← e25, ← e21, ← e20, ← e16, ← e15, ← e11, ← e10]; simp [preL])
    have E10 := Lib.hid (And.intro e10 (show x10.length ≤ 1000 by omega))
    have E11 := Lib.hid (And.intro e11 (show x11.length ≤ 1000 by omega))
    have E15 := Lib.hid (And.intro e15 (show x15.length ≤ 1000 by omega))
    have E16 := Lib.hid (And.intro e16 (show x16.length ≤ 1000 by omega))
    have E20 := Lib.hid (And.intro e20 (show x20.length ≤ 1000 by omega))
    have E21 := Lib.hid (And.intro e21 (show x21.length ≤ 1000 by omega))
    have E25 := Lib.hid (And.intro e25 (show x25.length ≤ 1000 by omega))
    have b1 : -9223372036854775808 ≤ (n : Int) ∧ (n : Int) ≤ 9223372036854775807 := by omega
    have b2 : -9223372036854775808 ≤ l ∧ l ≤ 9223372036854775807 := by omega
    have b3 : -9223372036854775808 ≤ s ∧ s ≤ 9223372036854775807 := by omega
    have b4 : -9223372036854775808 ≤ k ∧ k ≤ 9223372036854775807 := by omega
    have B1 := Lib.hid b1
    have B2 := Lib.hid b2
    have B3 := Lib.hid b3
    have B4 := Lib.hid b4
    clear e10 e11 e15 e16 e20 e21 e25 y10 y11 y15 y16 y20 y21 y25 HX l1 l2 l3 l4 HP b1 b2 b3 b4 p1 p2 p3 p4 p5 hc0 hce
    go_wp2_with fail
    refine wp_region_mono (C := Cb w1) (R := Rb) (H := fun _ => Hb w1) [Ty.val 6 (.pointer (some ⟨w.heap.size, 3, none⟩)), Ty.val 7 (.int .u32 (n : Int)), Ty.val 8 (.int .i64 (n : Int)), Ty.val 9 (.string (strOf (decL (n : Int)))), Ty.val 10 (.string (strOf x10)), Ty.val 11 (.string (strOf x11)), Ty.val 12 (.pointer (some ⟨w.heap.size, 0, none⟩)), Ty.val 13 (.int .i64 l), Ty.val 14 (.string (strOf (decL l))), Ty.val 15 (.string (strOf x15)), Ty.val 16 (.string (strOf x16)), Ty.val 17 (.pointer (some ⟨w.heap.size, 1, none⟩)), Ty.val 18 (.int .i64 s), Ty.val 19 (.string (strOf (decL s))), Ty.val 20 (.string (strOf x20)), Ty.val 21 (.string (strOf x21)), Ty.val 22 (.pointer (some ⟨w.heap.size, 2, none⟩)), Ty.val 23 (.int .i64 k), Ty.val 24 (.string (strOf (decL k))), Ty.val 25 (.string (strOf x25)), Ty.val 2 (.string (strOf x25))] (by kernel_rfl) (hC_b w1) (hCH_b w1) (drew_b w1) ⟨trivial, trivial, trivial, trivial, trivial, trivial, trivial, trivial, trivial, trivial, trivial, trivial, trivial, trivial, trivial, trivial, trivial, trivial, trivial, trivial, trivial, trivial⟩ (by kernel_rfl) ?_ ?_
    · refine ⟨?_, ?_, ?_, ?_, ?_, ?_, ?_, ?_, ?_, ?_, ?_, ?_, ?_, ?_, ?_, ?_, ?_, ?_, ?_, ?_, ?_, trivial⟩
      · intro ac wc hC hsz hfr hd hpr
        have d1 : ac.eval (.tmp 1) = (.pointer (some ⟨w.heap.size, 0, none⟩)) := hfr 1 rfl
        rw [if_pos (wanted_none rfl)]
        exact ob_field _ rfl rfl rfl (Nat.lt_of_lt_of_eq (by decide : 6 < 26) hsz.symm) rfl d1 (fun w => by go_simp) (Below.refl _ _) rfl
      · intro ac wc hC hsz hfr hd hpr
        have d6 : ac.eval (.tmp 6) = (.pointer (some ⟨w.heap.size, 3, none⟩)) := hd 0 rfl
        rw [if_pos (wanted_none rfl)]
        exact ob_load _ rfl rfl rfl (Nat.lt_of_lt_of_eq (by decide : 7 < 26) hsz.symm) rfl d6 (load_w32 ((K1.out.go hC).cell 3)) (Below.refl _ _) rfl
      · intro ac wc hC hsz hfr hd hpr
        have d7 : ac.eval (.tmp 7) = (.int .u32 (n : Int)) := hd 1 rfl
        rw [if_pos (wanted_none rfl)]
        exact ob_convert _ rfl rfl rfl (Nat.lt_of_lt_of_eq (by decide : 8 < 26) hsz.symm) rfl d7 (by go_simp) (Below.refl _ _) rfl
      · intro ac wc hC hsz hfr hd hpr
        have d8 : ac.eval (.tmp 8) = (.int .i64 (n : Int)) := hd 2 rfl
        rw [if_pos (wanted_none rfl)]
        refine ob_call rfl rfl rfl (Nat.lt_of_lt_of_eq (by decide : 9 < 26) hsz.symm) rfl (enter_of Tryd.func20 (by kernel_rfl) rfl) ?_
        show Calls Tryd.prog 20 #[ac.eval (.tmp 8)] wc _
        rw [d8]
        exact (itoa_any _ wc B1.out.1 B1.out.2 (HT.out.go hC)).mono fun _ _ ⟨he, hb⟩ => ⟨_, he, rfl, hb⟩
      · intro ac wc hC hsz hfr hd hpr
        have d9 : ac.eval (.tmp 9) = (.string (strOf (decL (n : Int)))) := hd 3 rfl
        rw [if_pos (wanted_none rfl)]
        exact ob_bin _ rfl rfl rfl (Nat.lt_of_lt_of_eq (by decide : 10 < 26) hsz.symm) rfl rfl d9 (str_pre E10.out.1 E10.out.2) (Below.refl _ _) rfl
      · intro ac wc hC hsz hfr hd hpr
        have d10 : ac.eval (.tmp 10) = (.string (strOf x10)) := hd 4 rfl
        rw [if_pos (wanted_none rfl)]
        exact ob_bin _ rfl rfl rfl (Nat.lt_of_lt_of_eq (by decide : 11 < 26) hsz.symm) rfl d10 rfl (str_blank E11.out.1 E11.out.2) (Below.refl _ _) rfl
      · intro ac wc hC hsz hfr hd hpr
        have d1 : ac.eval (.tmp 1) = (.pointer (some ⟨w.heap.size, 0, none⟩)) := hfr 1 rfl
        rw [if_pos (wanted_none rfl)]
        exact ob_field _ rfl rfl rfl (Nat.lt_of_lt_of_eq (by decide : 12 < 26) hsz.symm) rfl d1 (fun w => by go_simp) (Below.refl _ _) rfl
      · intro ac wc hC hsz hfr hd hpr
        have d12 : ac.eval (.tmp 12) = (.pointer (some ⟨w.heap.size, 0, none⟩)) := hd 6 rfl
        rw [if_pos (wanted_none rfl)]
        exact ob_load _ rfl rfl rfl (Nat.lt_of_lt_of_eq (by decide : 13 < 26) hsz.symm) rfl d12 (load_int ((K1.out.go hC).cell 0)) (Below.refl _ _) rfl
      · intro ac wc hC hsz hfr hd hpr
        have d13 : ac.eval (.tmp 13) = (.int .i64 l) := hd 7 rfl
        rw [if_pos (wanted_none rfl)]
        refine ob_call rfl rfl rfl (Nat.lt_of_lt_of_eq (by decide : 14 < 26) hsz.symm) rfl (enter_of Tryd.func20 (by kernel_rfl) rfl) ?_
        show Calls Tryd.prog 20 #[ac.eval (.tmp 13)] wc _
        rw [d13]
        exact (itoa_any _ wc B2.out.1 B2.out.2 (HT.out.go hC)).mono fun _ _ ⟨he, hb⟩ => ⟨_, he, rfl, hb⟩
      · intro ac wc hC hsz hfr hd hpr
        have d11 : ac.eval (.tmp 11) = (.string (strOf x11)) := hd 5 rfl
        have d14 : ac.eval (.tmp 14) = (.string (strOf (decL l))) := hd 8 rfl
        rw [if_pos (wanted_none rfl)]
        exact ob_bin _ rfl rfl rfl (Nat.lt_of_lt_of_eq (by decide : 15 < 26) hsz.symm) rfl d11 d14 (str_addE E15.out.1 E15.out.2) (Below.refl _ _) rfl
      · intro ac wc hC hsz hfr hd hpr
        have d15 : ac.eval (.tmp 15) = (.string (strOf x15)) := hd 9 rfl
        rw [if_pos (wanted_none rfl)]
        exact ob_bin _ rfl rfl rfl (Nat.lt_of_lt_of_eq (by decide : 16 < 26) hsz.symm) rfl d15 rfl (str_blank E16.out.1 E16.out.2) (Below.refl _ _) rfl
      · intro ac wc hC hsz hfr hd hpr
        have d1 : ac.eval (.tmp 1) = (.pointer (some ⟨w.heap.size, 0, none⟩)) := hfr 1 rfl
        rw [if_pos (wanted_none rfl)]
        exact ob_field _ rfl rfl rfl (Nat.lt_of_lt_of_eq (by decide : 17 < 26) hsz.symm) rfl d1 (fun w => by go_simp) (Below.refl _ _) rfl
      · intro ac wc hC hsz hfr hd hpr
        have d17 : ac.eval (.tmp 17) = (.pointer (some ⟨w.heap.size, 1, none⟩)) := hd 11 rfl
        rw [if_pos (wanted_none rfl)]
        exact ob_load _ rfl rfl rfl (Nat.lt_of_lt_of_eq (by decide : 18 < 26) hsz.symm) rfl d17 (load_int ((K1.out.go hC).cell 1)) (Below.refl _ _) rfl
      · intro ac wc hC hsz hfr hd hpr
        have d18 : ac.eval (.tmp 18) = (.int .i64 s) := hd 12 rfl
        rw [if_pos (wanted_none rfl)]
        refine ob_call rfl rfl rfl (Nat.lt_of_lt_of_eq (by decide : 19 < 26) hsz.symm) rfl (enter_of Tryd.func20 (by kernel_rfl) rfl) ?_
        show Calls Tryd.prog 20 #[ac.eval (.tmp 18)] wc _
        rw [d18]
        exact (itoa_any _ wc B3.out.1 B3.out.2 (HT.out.go hC)).mono fun _ _ ⟨he, hb⟩ => ⟨_, he, rfl, hb⟩
      · intro ac wc hC hsz hfr hd hpr
        have d16 : ac.eval (.tmp 16) = (.string (strOf x16)) := hd 10 rfl
        have d19 : ac.eval (.tmp 19) = (.string (strOf (decL s))) := hd 13 rfl
        rw [if_pos (wanted_none rfl)]
        exact ob_bin _ rfl rfl rfl (Nat.lt_of_lt_of_eq (by decide : 20 < 26) hsz.symm) rfl d16 d19 (str_addE E20.out.1 E20.out.2) (Below.refl _ _) rfl
      · intro ac wc hC hsz hfr hd hpr
        have d20 : ac.eval (.tmp 20) = (.string (strOf x20)) := hd 14 rfl
        rw [if_pos (wanted_none rfl)]
        exact ob_bin _ rfl rfl rfl (Nat.lt_of_lt_of_eq (by decide : 21 < 26) hsz.symm) rfl d20 rfl (str_blank E21.out.1 E21.out.2) (Below.refl _ _) rfl
      · intro ac wc hC hsz hfr hd hpr
        have d1 : ac.eval (.tmp 1) = (.pointer (some ⟨w.heap.size, 0, none⟩)) := hfr 1 rfl
        rw [if_pos (wanted_none rfl)]
        exact ob_field _ rfl rfl rfl (Nat.lt_of_lt_of_eq (by decide : 22 < 26) hsz.symm) rfl d1 (fun w => by go_simp) (Below.refl _ _) rfl
      · intro ac wc hC hsz hfr hd hpr
        have d22 : ac.eval (.tmp 22) = (.pointer (some ⟨w.heap.size, 2, none⟩)) := hd 16 rfl
        rw [if_pos (wanted_none rfl)]
        exact ob_load _ rfl rfl rfl (Nat.lt_of_lt_of_eq (by decide : 23 < 26) hsz.symm) rfl d22 (load_int ((K1.out.go hC).cell 2)) (Below.refl _ _) rfl
      · intro ac wc hC hsz hfr hd hpr
        have d23 : ac.eval (.tmp 23) = (.int .i64 k) := hd 17 rfl
        rw [if_pos (wanted_none rfl)]
        refine ob_call rfl rfl rfl (Nat.lt_of_lt_of_eq (by decide : 24 < 26) hsz.symm) rfl (enter_of Tryd.func20 (by kernel_rfl) rfl) ?_
        show Calls Tryd.prog 20 #[ac.eval (.tmp 23)] wc _
        rw [d23]
        exact (itoa_any _ wc B4.out.1 B4.out.2 (HT.out.go hC)).mono fun _ _ ⟨he, hb⟩ => ⟨_, he, rfl, hb⟩
      · intro ac wc hC hsz hfr hd hpr
        have d21 : ac.eval (.tmp 21) = (.string (strOf x21)) := hd 15 rfl
        have d24 : ac.eval (.tmp 24) = (.string (strOf (decL k))) := hd 18 rfl
        rw [if_pos (wanted_none rfl)]
        exact ob_bin _ rfl rfl rfl (Nat.lt_of_lt_of_eq (by decide : 25 < 26) hsz.symm) rfl d21 d24 (str_addE E25.out.1 E25.out.2) (Below.refl _ _) rfl
      · intro ac wc hC hsz hfr hd hpr
        have d25 : ac.eval (.tmp 25) = (.string (strOf x25)) := hd 19 rfl
        rw [if_pos (wanted_none rfl)]
        exact ob_copy rfl rfl rfl (Nat.lt_of_lt_of_eq (by decide : 2 < 26) hsz.symm) (Or.inr rfl) (Below.refl _ _) d25
    intro a' W2 hC hdef hsz hfr hd
    have e6 : a'.eval (.tmp 6) = (.pointer (some ⟨w.heap.size, 3, none⟩)) := hd 0 (by decide)
    have e7 : a'.eval (.tmp 7) = (.int .u32 (n : Int)) := hd 1 (by decide)
    have e8 : a'.eval (.tmp 8) = (.int .i64 (n : Int)) := hd 2 (by decide)
    have e9 : a'.eval (.tmp 9) = (.string (strOf (decL (n : Int)))) := hd 3 (by decide)
    have e10 : a'.eval (.tmp 10) = (.string (strOf x10)) := hd 4 (by decide)
    have e11 : a'.eval (.tmp 11) = (.string (strOf x11)) := hd 5 (by decide)
    have e12 : a'.eval (.tmp 12) = (.pointer (some ⟨w.heap.size, 0, none⟩)) := hd 6 (by decide)
    have e13 : a'.eval (.tmp 13) = (.int .i64 l) := hd 7 (by decide)
    have e14 : a'.eval (.tmp 14) = (.string (strOf (decL l))) := hd 8 (by decide)
    have e15 : a'.eval (.tmp 15) = (.string (strOf x15)) := hd 9 (by decide)
    have e16 : a'.eval (.tmp 16) = (.string (strOf x16)) := hd 10 (by decide)
    have e17 : a'.eval (.tmp 17) = (.pointer (some ⟨w.heap.size, 1, none⟩)) := hd 11 (by decide)
    have e18 : a'.eval (.tmp 18) = (.int .i64 s) := hd 12 (by decide)
    have e19 : a'.eval (.tmp 19) = (.string (strOf (decL s))) := hd 13 (by decide)
    have e20 : a'.eval (.tmp 20) = (.string (strOf x20)) := hd 14 (by decide)
    have e21 : a'.eval (.tmp 21) = (.string (strOf x21)) := hd 15 (by decide)
    have e22 : a'.eval (.tmp 22) = (.pointer (some ⟨w.heap.size, 2, none⟩)) := hd 16 (by decide)
    have e23 : a'.eval (.tmp 23) = (.int .i64 k) := hd 17 (by decide)
    have e24 : a'.eval (.tmp 24) = (.string (strOf (decL k))) := hd 18 (by decide)
    have e25 : a'.eval (.tmp 25) = (.string (strOf x25)) := hd 19 (by decide)
    have e2 : a'.eval (.tmp 2) = (.string (strOf x25)) := hd 20 (by decide)
    have hact := act_puts hdef hsz hfr
    simp only [dstsOf, List.filterMap, putAll, Act.put, List.setIfInBounds_toArray, List.set_cons_succ, List.set_cons_zero, e6, e7, e8, e9, e10, e11, e12, e13, e14, e15, e16, e17, e18, e19, e20, e21, e22, e23, e24, e25, e2] at hact
    clear hd hfr hsz hdef e6 e7 e8 e9 e10 e11 e12 e13 e14 e15 e16 e17 e18 e19 e20 e21 e22 e23 e24 e25 e2
    subst hact
    replace K1 := Lib.hid (K1.out.go hC)
    replace HT := Lib.hid (HT.out.go hC)
    replace B := B.trans (hC.mono B.size)
    clear hC
    go_wp2_with fail
    go_ret
    exact ⟨by rw [HXE.out]; rfl, B⟩
  · have hb : (ce != 0) = true := by rw [bne_iff_ne]; exact hc0
    have HX := Lib.hid (show textL l s k n = [] from if_neg (by rw [HC.out]; exact hc0))
    clear hc0 hce
    go_wp2_with fail
    go_ret
    exact ⟨by rw [HX.out]; rfl, B⟩

end Go.Proofs.YtphdadibfeencaaDoor

/-
  Plans in the program (layer 10): 'Text'.
-/
set_option maxRecDepth 100000
namespace Go.Proofs.YtphdadibfeencaaDoor
open Go.RowKit

theorem formatint_any (n : Int) (w : World) (h0 : -9223372036854775808 ≤ n) (h1 : n ≤ 9223372036854775807) (ht : PowTab w) :
    Calls Tryd.prog 19 #[.int .i64 n, .int .i64 10] w fun e w' => e = .returned (.string (strOf (decL n))) ∧ Below w.heap.size w w' := by
  refine (Tryd.strconv_FormatInt_10 n h0 h1 w ht).mono ?_
  rintro e w' ⟨rfl, k, os, rfl⟩
  exact ⟨by rw [strOf_itoa], Lib.below_grow w.heap.size w (Nat.le_refl _) k os⟩
/-- The text behind so many numbers. -/
def textK (ns : List Int) (k : Nat) : List Nat := [111, 98, 106, 101, 99, 116] ++ (ns.take k).flatMap fun n => 32 :: decL n
theorem textK_zero (ns : List Int) : textK ns 0 = [111, 98, 106, 101, 99, 116] := rfl
theorem textK_succ (ns : List Int) (k : Nat) (h : k < ns.length) : textK ns (k + 1) = textK ns k ++ ([32] ++ decL (ns.getD k 0)) := by
  unfold textK
  rw [List.take_succ_eq_append_getElem h, List.flatMap_append, ← List.append_assoc]
  simp [List.getD_eq_getElem?_getD, h]
theorem textK_text {l s k n : Int} (h : checkE l s k = 0) : textK [n, l, s, k] 4 = textL l s k n := by
  unfold textK textL
  rw [if_pos h]
  simp
theorem textK_short {ns : List Int} (h : ∀ z, z ∈ ns → -9223372036854775808 ≤ z ∧ z ≤ 9223372036854775807) : ∀ k, k ≤ ns.length → (textK ns k).length ≤ 6 + 22 * k
  | 0, _ => by rw [textK_zero]; decide
  | k + 1, hk => by
    rw [textK_succ ns k (by omega)]
    have h1 := textK_short h k (by omega)
    have h2 := h _ (List.getElem_mem (show k < ns.length by omega))
    have h3 := decL_len h2.1 h2.2
    have e : ns.getD k 0 = ns[k] := by rw [List.getD_eq_getElem?_getD]; simp [show k < ns.length by omega]
    rw [List.length_append, List.length_append, e]
    simp only [List.length_cons, List.length_nil]
    omega
theorem idx4_0 (a b c d : Int) (w : World) : (Instr.index 43 (.agg #[.int .i64 a, .int .i64 b, .int .i64 c, .int .i64 d]) (.int .i64 0)).run Tryd.prog w = .ok (.int .i64 a) w := by
  simp [Instr.index, run_underlying Tryd.underlying43, asIntOf, go_sem]
  try rfl
theorem idx4_1 (a b c d : Int) (w : World) : (Instr.index 43 (.agg #[.int .i64 a, .int .i64 b, .int .i64 c, .int .i64 d]) (.int .i64 1)).run Tryd.prog w = .ok (.int .i64 b) w := by
  simp [Instr.index, run_underlying Tryd.underlying43, asIntOf, go_sem]
  try rfl
theorem idx4_2 (a b c d : Int) (w : World) : (Instr.index 43 (.agg #[.int .i64 a, .int .i64 b, .int .i64 c, .int .i64 d]) (.int .i64 2)).run Tryd.prog w = .ok (.int .i64 c) w := by
  simp [Instr.index, run_underlying Tryd.underlying43, asIntOf, go_sem]
  try rfl
theorem idx4_3 (a b c d : Int) (w : World) : (Instr.index 43 (.agg #[.int .i64 a, .int .i64 b, .int .i64 c, .int .i64 d]) (.int .i64 3)).run Tryd.prog w = .ok (.int .i64 d) w := by
  simp [Instr.index, run_underlying Tryd.underlying43, asIntOf, go_sem]
  try rfl
set_option maxHeartbeats 1000000 in
theorem text10_any (l s k : Int) (n : Nat) (w : World) (hl0 : -9223372036854775808 ≤ l) (hl : l ≤ 9223372036854775807) (hs2 : s ≤ 9223372036854775807) (hn : n < 4294967296) (hT : PowTab w) :
    Calls Tryd.prog 11 #[planV l s k (n : Int)] w fun e w' => e = .returned (.string (strOf (textL l s k n))) ∧ Below w.heap.size w w' := by
  have HC := Lib.hid (fun w => check_any l s k n w hl0 hl hs2)
  have HT := Lib.hid hT
  unfold planV
  clear hT
  by_cases h : checkE l s k = 0
  · rw [h] at HC
    obtain ⟨h1, h2, h3, h4, h5, -, h6⟩ := check_ok10 h
    have HTX := Lib.hid (textK_text (n := n) h)
    obtain ⟨ns, hns⟩ : ∃ ns : List Int, ns = [(n : Int), l, s, k] := ⟨_, rfl⟩
    rw [← hns] at HTX
    have HNS := Lib.hid hns
    clear h h6 hns
    go_enter Tryd.func11, Tryd.ntmps11
    go_wp2_with fail
    obtain ⟨B, hk1, hs⟩ := blocks1 w #[.int .i64 l, .int .i64 s, .int .i64 k, .int .u32 (n : Int)] 24
    generalize (w.alloc (.cells #[.int .i64 l, .int .i64 s, .int .i64 k, .int .u32 (n : Int)] 24)) = W at *
    have K1 := Lib.hid hk1
    have HS := Lib.hid hs
    clear hs hk1
    replace HT := Lib.hid (HT.out.go B)
    have hzW := B.size
    refine (HC.out _).mono ?_
    rintro e w1 ⟨rfl, hb⟩
    replace K1 := Lib.hid (K1.out.go hb)
    replace HT := Lib.hid (HT.out.go hb)
    replace B := B.trans (hb.mono B.size)
    have hzw1 := B.size
    clear hb
    obtain ⟨p0, p1, p2, p3⟩ := K1.out.four
    have pl := K1.out.lt
    go_wp2_with fail
    clear p0 p1 p2 p3 pl K1
    have HTK := Lib.hid (textK_succ ns)
    have HL4 := Lib.hid (show ns.length = 4 by rw [HNS.out]; rfl)
    have HTB := Lib.hid (textK_short (ns := ns) (by rw [HNS.out]; intro z hz; simp at hz; omega))
    go_loopw [3, 5, 19] (fun tx _ x wr => ∃ j : Nat, j ≤ 4 ∧ x = .int .i64 j ∧ tx = .string (strOf (textK ns j)) ∧ Below w.heap.size w wr ∧ PowTab wr) (fun _ _ x _ => 4 - (intOf x).toNat)
    case atStart => exact ⟨0, by omega, rfl, rfl, B, HT.out⟩
    case round =>
      clear B HT
      obtain ⟨j, hj, rfl, rfl, B, hT⟩ := hrel
      have HT := Lib.hid hT
      clear hT
      by_cases hlt : j < 4
      · have hj4 : j = 0 ∨ j = 1 ∨ j = 2 ∨ j = 3 := by omega
        clear hj hlt
        have HTJ := Lib.hid (HTK.out j)
        have HB1 := Lib.hid (HTB.out j)
        obtain ⟨X, hX⟩ : ∃ X, X = textK ns j := ⟨_, rfl⟩
        rw [← hX] at HTJ HB1 ⊢
        clear hX
        rcases hj4 with rfl | rfl | rfl | rfl
        · skip
          have hix := idx4_0 (n : Int) l s k
          go_wp2_with fail
          clear hix
          refine (formatint_any ((n : Int)) _ (by omega) (by omega) HT.out).mono ?_
          rintro e w2 ⟨rfl, hb⟩
          replace HT := Lib.hid (HT.out.go hb)
          replace B := B.trans (hb.mono B.size)
          have hzw2 := B.size
          clear hb
          have hz1 : ¬ 9223372036854775807 < 1 + (strOf (decL ((n : Int)))).size := by rw [strOf_size]; have := decL_len (n := ((n : Int))) (by omega) (by omega); omega
          have hz2 : ¬ 9223372036854775807 < (strOf X).size + (1 + (strOf (decL ((n : Int)))).size) := by rw [strOf_size, strOf_size]; have := decL_len (n := ((n : Int))) (by omega) (by omega); have := HB1.out (by rw [HL4.out]; omega); omega
          have HSE := Lib.hid (show strOf X ++ ((⟨#[32]⟩ : ByteArray) ++ strOf (decL ((n : Int)))) = strOf (textK ns (0 + 1)) by
            rw [HTJ.out (by rw [HL4.out]; omega), HNS.out, show (⟨#[32]⟩ : ByteArray) = strOf [32] from rfl, strOf_append, strOf_append]; rfl)
          go_wp2_with fail
          go_roundw
          case rel => exact ⟨0 + 1, by omega, by go_num, by rw [HSE.out], B, HT.out⟩
          case measure => simp [intOf]
        · skip
          have hix := idx4_1 (n : Int) l s k
          go_wp2_with fail
          clear hix
          refine (formatint_any (l) _ (by omega) (by omega) HT.out).mono ?_
          rintro e w2 ⟨rfl, hb⟩
          replace HT := Lib.hid (HT.out.go hb)
          replace B := B.trans (hb.mono B.size)
          have hzw2 := B.size
          clear hb
          have hz1 : ¬ 9223372036854775807 < 1 + (strOf (decL (l))).size := by rw [strOf_size]; have := decL_len (n := (l)) (by omega) (by omega); omega
          have hz2 : ¬ 9223372036854775807 < (strOf X).size + (1 + (strOf (decL (l))).size) := by rw [strOf_size, strOf_size]; have := decL_len (n := (l)) (by omega) (by omega); have := HB1.out (by rw [HL4.out]; omega); omega
          have HSE := Lib.hid (show strOf X ++ ((⟨#[32]⟩ : ByteArray) ++ strOf (decL (l))) = strOf (textK ns (1 + 1)) by
            rw [HTJ.out (by rw [HL4.out]; omega), HNS.out, show (⟨#[32]⟩ : ByteArray) = strOf [32] from rfl, strOf_append, strOf_append]; rfl)
          go_wp2_with fail
          go_roundw
          case rel => exact ⟨1 + 1, by omega, by go_num, by rw [HSE.out], B, HT.out⟩
          case measure => simp [intOf]
        · skip
          have hix := idx4_2 (n : Int) l s k
          go_wp2_with fail
          clear hix
          refine (formatint_any (s) _ (by omega) (by omega) HT.out).mono ?_
          rintro e w2 ⟨rfl, hb⟩
          replace HT := Lib.hid (HT.out.go hb)
          replace B := B.trans (hb.mono B.size)
          have hzw2 := B.size
          clear hb
          have hz1 : ¬ 9223372036854775807 < 1 + (strOf (decL (s))).size := by rw [strOf_size]; have := decL_len (n := (s)) (by omega) (by omega); omega
          have hz2 : ¬ 9223372036854775807 < (strOf X).size + (1 + (strOf (decL (s))).size) := by rw [strOf_size, strOf_size]; have := decL_len (n := (s)) (by omega) (by omega); have := HB1.out (by rw [HL4.out]; omega); omega
          have HSE := Lib.hid (show strOf X ++ ((⟨#[32]⟩ : ByteArray) ++ strOf (decL (s))) = strOf (textK ns (2 + 1)) by
            rw [HTJ.out (by rw [HL4.out]; omega), HNS.out, show (⟨#[32]⟩ : ByteArray) = strOf [32] from rfl, strOf_append, strOf_append]; rfl)
          go_wp2_with fail
          go_roundw
          case rel => exact ⟨2 + 1, by omega, by go_num, by rw [HSE.out], B, HT.out⟩
          case measure => simp [intOf]
        · skip
          have hix := idx4_3 (n : Int) l s k
          go_wp2_with fail
          clear hix
          refine (formatint_any (k) _ (by omega) (by omega) HT.out).mono ?_
          rintro e w2 ⟨rfl, hb⟩
          replace HT := Lib.hid (HT.out.go hb)
          replace B := B.trans (hb.mono B.size)
          have hzw2 := B.size
          clear hb
          have hz1 : ¬ 9223372036854775807 < 1 + (strOf (decL (k))).size := by rw [strOf_size]; have := decL_len (n := (k)) (by omega) (by omega); omega
          have hz2 : ¬ 9223372036854775807 < (strOf X).size + (1 + (strOf (decL (k))).size) := by rw [strOf_size, strOf_size]; have := decL_len (n := (k)) (by omega) (by omega); have := HB1.out (by rw [HL4.out]; omega); omega
          have HSE := Lib.hid (show strOf X ++ ((⟨#[32]⟩ : ByteArray) ++ strOf (decL (k))) = strOf (textK ns (3 + 1)) by
            rw [HTJ.out (by rw [HL4.out]; omega), HNS.out, show (⟨#[32]⟩ : ByteArray) = strOf [32] from rfl, strOf_append, strOf_append]; rfl)
          go_wp2_with fail
          go_roundw
          case rel => exact ⟨3 + 1, by omega, by go_num, by rw [HSE.out], B, HT.out⟩
          case measure => simp [intOf]
      · obtain rfl : j = 4 := by omega
        go_wp2_with fail
        go_ret
        exact ⟨by rw [HTX.out]; rfl, B⟩
  · have HTX := Lib.hid (show textL l s k n = [] by unfold textL; rw [if_neg h])
    obtain ⟨c, hc⟩ : ∃ c, c = checkE l s k := ⟨_, rfl⟩
    rw [← hc] at HC h
    have hb : (c != (0 : Int)) = true := by rw [bne_iff_ne]; exact h
    clear hc h
    go_enter Tryd.func11, Tryd.ntmps11
    go_wp2_with fail
    obtain ⟨B, hk1, hs⟩ := blocks1 w #[.int .i64 l, .int .i64 s, .int .i64 k, .int .u32 (n : Int)] 24
    generalize (w.alloc (.cells #[.int .i64 l, .int .i64 s, .int .i64 k, .int .u32 (n : Int)] 24)) = W at *
    have K1 := Lib.hid hk1
    have HS := Lib.hid hs
    clear hs hk1
    have hzW := B.size
    refine (HC.out _).mono ?_
    rintro e w1 ⟨rfl, hb⟩
    replace B := B.trans (hb.mono B.size)
    have hzw1 := B.size
    clear hb
    go_wp2_with fail
    go_ret
    exact ⟨by rw [HTX.out]; rfl, B⟩

end Go.Proofs.YtphdadibfeencaaDoor

/-
  The laws of plans (layer 10): the example; the document's code for a plan that is made.
-/
set_option maxRecDepth 100000
namespace Go.Proofs.YtphdadibfeencaaDoor
open Go.RowKit

theorem ex_one : checkE 5 2 (needI 5 2) = 0 ∧ needI 5 2 = 3 ∧ padI 5 2 3 = 1 := by decide +kernel
theorem ex_two : checkE 0 2 (needI 0 2) = 0 ∧ needI 0 2 = 1 ∧ padI 0 2 1 = 2 := by decide +kernel
set_option maxHeartbeats 1000000 in
theorem awake10_any (w : World) :
    Calls Tryd.prog 6 #[] w fun e w' => e = .returned (.bool true) ∧ Below w.heap.size w w' := by
  have H1 := Lib.hid (fun w => of10_any 5 2 7 w (by omega) (by omega) (by omega))
  have H2 := Lib.hid (fun w => of10_any 0 2 7 w (by omega) (by omega) (by omega))
  have P1 := Lib.hid (fun w => pad_any 5 2 3 7 w (by omega) (by omega) (by omega))
  have P2 := Lib.hid (fun w => pad_any 0 2 1 7 w (by omega) (by omega) (by omega))
  rw [ex_one.1, ex_one.2.1] at H1
  rw [ex_two.1, ex_two.2.1] at H2
  rw [ex_one.2.2] at P1
  rw [ex_two.2.2] at P2
  unfold PlanE okV at H1 H2
  simp only [if_true] at H1 H2
  unfold planV at H1 H2 P1 P2
  go_enter Tryd.func6, Tryd.ntmps6
  go_wp2_with fail
  have B : Below w.heap.size w w := Below.refl _ _
  refine (H1.out _).mono ?_
  rintro e w1 ⟨rfl, hb⟩
  replace B := B.trans (hb.mono B.size)
  have hzw1 := B.size
  clear hb
  go_wp2_with fail
  obtain ⟨hb, hk, hs⟩ := blocks1 w1 #[.int .i64 5, .int .i64 2, .int .i64 3, .int .u32 7] 24
  generalize w1.alloc (.cells #[.int .i64 5, .int .i64 2, .int .i64 3, .int .u32 7] 24) = W2 at *
  have K1 := Lib.hid hk
  replace B := B.trans (hb.mono B.size)
  have hzW2 := B.size
  clear hb hk hs
  refine (H2.out _).mono ?_
  rintro e w3 ⟨rfl, hb⟩
  replace K1 := Lib.hid (K1.out.go hb)
  replace B := B.trans (hb.mono B.size)
  have hzw3 := B.size
  clear hb
  obtain ⟨p0, p1, p2, p3⟩ := K1.out.four
  have pl := K1.out.lt
  go_wp2_with fail
  clear p0 p1 p2 p3 pl
  obtain ⟨hb, hk, hs⟩ := blocks1 w3 #[.int .i64 0, .int .i64 2, .int .i64 1, .int .u32 7] 24
  generalize w3.alloc (.cells #[.int .i64 0, .int .i64 2, .int .i64 1, .int .u32 7] 24) = W4 at *
  have K2 := Lib.hid hk
  replace K1 := Lib.hid (K1.out.go hb)
  replace B := B.trans (hb.mono B.size)
  have hzW4 := B.size
  clear hb hk hs
  obtain ⟨p0, p1, p2, p3⟩ := K1.out.four
  have pl := K1.out.lt
  obtain ⟨q0, q1, q2, q3⟩ := K2.out.four
  have ql := K2.out.lt
  go_wp2_with fail
  clear p0 p1 p2 p3 pl q0 q1 q2 q3 ql
  refine (P1.out _).mono ?_
  rintro e w5 ⟨rfl, hb⟩
  replace K1 := Lib.hid (K1.out.go hb)
  replace K2 := Lib.hid (K2.out.go hb)
  replace B := B.trans (hb.mono B.size)
  have hzw5 := B.size
  clear hb
  obtain ⟨q0, q1, q2, q3⟩ := K2.out.four
  have ql := K2.out.lt
  go_wp2_with fail
  refine (P2.out _).mono ?_
  rintro e w6 ⟨rfl, hb⟩
  replace B := B.trans (hb.mono B.size)
  have hzw6 := B.size
  clear hb
  go_wp2_with fail
  go_ret
  exact ⟨rfl, B⟩

theorem check_made {l s : Int} (hl : 0 ≤ l) (hs : 1 ≤ s) : checkE l s (needsN l.toNat s.toNat : Int) = checkE l s (needI l s) := by
  rw [check_spell, check_spell]
  have hn : needI l s = (needT l.toNat s.toNat : Int) := by unfold needI; rw [if_neg (by omega), if_neg (by omega)]
  have hm := needT_many (l := l.toNat) (s := s.toNat) (by omega)
  have h0 : ¬ l < 0 := by omega
  rw [if_neg h0, if_neg h0]
  by_cases h2 : s < 1 ∨ 65535 < s
  · rw [if_pos h2, if_pos h2]
  · rw [if_neg h2, if_neg h2]
    by_cases h3 : 4096 < needI l s
    · rw [if_pos h3, if_pos h3]
    · have he : (needsN l.toNat s.toNat : Int) = needI l s := by
        rw [hn] at h3 ⊢
        rw [needT_few (by omega) (by omega)]
      rw [if_neg h3, if_neg h3, if_pos he, if_pos rfl]
theorem made_same {l s : Int} (h : checkE l s (needI l s) = 0) : (needsN l.toNat s.toNat : Int) = needI l s := by
  obtain ⟨h1, h2, h3, _, h5, _, _⟩ := check_ok10 h
  have hn : needI l s = (needT l.toNat s.toNat : Int) := by unfold needI; rw [if_neg (by omega), if_neg (by omega)]
  rw [hn] at h5 ⊢
  rw [needT_few (by omega) (by omega)]
theorem check_unmade {l s k : Int} (h : ¬ (0 ≤ l ∧ 1 ≤ s)) : checkE l s k = checkE l s (needI l s) := by
  rw [check_spell, check_spell]
  by_cases h1 : l < 0
  · rw [if_pos h1, if_pos h1]
  · rw [if_neg h1, if_neg h1, if_pos (.inl (by omega)), if_pos (.inl (by omega))]
theorem unmade_ne {l s : Int} (h : ¬ (0 ≤ l ∧ 1 ≤ s)) : checkE l s (needI l s) ≠ 0 := fun e => by
  obtain ⟨h1, h2, _⟩ := check_ok10 e
  exact h ⟨h1, h2⟩

end Go.Proofs.YtphdadibfeencaaDoor
