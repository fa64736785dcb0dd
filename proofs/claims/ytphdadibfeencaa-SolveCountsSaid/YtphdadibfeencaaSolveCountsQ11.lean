/- Texts of one seat, laid together: ElimG, ElimM, ElimP, SolveMath, ElimN, ElimQ, MonoT, LawThree, LawThreeB, SolveA, SolveB. -/
import Derived.Test.YtphdadibfeencaaSolveCountsQ10
import Derived.Test.YtphdadibfeencaaSolveCountsQ7
import Derived.Test.YtphdadibfeencaaSolveCountsQ6
import Derived.Test.YtphdadibfeencaaSolveCountsQ9
import Derived.Test.YtphdadibfeencaaSolveCountsQ5
import Derived.Test.YtphdadibfeencaaSolveCountsQ4
import Derived.Test.YtphdadibfeencaaSolveCountsQ3
import Derived.Test.YtphdadibfeencaaSolveCountsQ1
import Derived.Lib.SmallJoins
import Derived.Deep.SlicePairs
import Derived.Test.YtphdadibfeencaaSolveCountsQ8
import Derived.Deep.DeepCutAuto

/-
  Systems of equations in the program (layer 8): 'Put'.
-/
set_option maxRecDepth 100000
namespace Go.Proofs.Ytphdadibfeencaa
open Go.RowKit

/-- What comes of an equation. -/
def putC (E : List Rw) (x : Rw) : Int := if zeroB (Ro.rest E x).1 = false then 0 else if zeroB (Ro.rest E x).2 = true then 1 else 2
def PutE (w : World) (B0 g k t : Nat) (v : Value) (E : List Rw) (x : Rw) (e : Ending) (w' : World) : Prop := ∃ v', e = .returned (.tuple #[.int .i64 (putC E x), I64 0]) ∧ IsE w' B0 g v' k t (Ro.take1 E x) ∧ Past w w' g v ∧ Near w v v'

set_option maxHeartbeats 2000000 in
theorem eput_any (g B0 k t : Nat) (v u : Value) (E : List Rw) (x : Rw) (w : World) (hE : IsE w B0 g v k t E) (hu : IsRow w u x.1 x.2) (hR : RedR k t E) (hx : Ro.Dim k t x) (hk : k ≤ 10000000) (ht : t ≤ 10000000) (hlen : E.length ≤ 1000000) :
    Calls Try.prog 25 #[.pointer (some ⟨g, 0, none⟩), u] w (PutE w B0 g k t v E x) := by
  obtain ⟨v0, d0, rfl, hp, hq⟩ := hu
  have HP := Lib.hid hp
  have HQ := Lib.hid hq
  obtain ⟨a0, c0, rfl, _⟩ := hp
  obtain ⟨a1, c1, rfl, _⟩ := hq
  have HE := Lib.hid hE
  have HX := Lib.hid hx
  have HR := Lib.hid hR
  obtain ⟨y, hy⟩ : ∃ y, y = Ro.rest E x := ⟨_, rfl⟩
  have HY := Lib.hid hy
  have HYD := Lib.hid (show Ro.Dim k t y by rw [hy]; exact Ro.rest_dim hR.up.dims hx)
  have l1 : y.1.length ≤ 10000000 := by have := HYD.out.1; omega
  have l2 : y.2.length ≤ 10000000 := by have := HYD.out.2.1; omega
  cases hz : zeroB y.1 with
  | false =>
    have HZ := Lib.hid hz
    have HN := Lib.hid (show Newr k t E (Ro.norm y) by rw [hy]; exact newr_rest hR hx (by rw [← hy]; exact hz))
    have HT := Lib.hid (show Ro.take1 E x = Ro.put (Ro.clean E (Ro.norm y)) (Ro.norm y) by unfold Ro.take1; rw [← hy, if_neg (by rw [hz]; simp)])
    have HC := Lib.hid (show putC E x = 0 by unfold putC; rw [← hy, if_pos hz])
    clear hz hy hE hx hR
    unfold PutE
    rw [HC.out]
    go_enter Try.func25, Try.ntmps25
    go_wp2_with fail
    obtain ⟨B, hk1, hs⟩ := blocks1 w #[.slice a0 x.1.length c0, .slice a1 x.2.length c1] 52
    generalize (w.alloc (.cells #[.slice a0 x.1.length c0, .slice a1 x.2.length c1] 52)) = W at *
    have K1 := Lib.hid hk1
    have HS := Lib.hid hs
    clear hs hk1
    replace HP := Lib.hid (HP.out.go B)
    replace HQ := Lib.hid (HQ.out.go B)
    replace HE := Lib.hid (HE.out.go B)
    have hzW := B.size
    refine (erest_any g B0 k t _ _ E x _ HE.out ⟨_, _, rfl, HP.out, HQ.out⟩ HX.out HR.out.up.dims HR.out.up.leads hk ht hlen).mono ?_
    rintro e w1 ⟨u1, rfl, hu1, hb⟩
    replace HE := Lib.hid (HE.out.go hb)
    replace B := B.trans (hb.mono B.size)
    have hzw1 := B.size
    clear hb
    rw [← HY.out] at hu1
    obtain ⟨_, _, rfl, hp1, hq1⟩ := hu1
    have HP1 := Lib.hid hp1
    have HQ1 := Lib.hid hq1
    obtain ⟨a2, c2, rfl, _⟩ := hp1
    obtain ⟨a3, c3, rfl, _⟩ := hq1
    go_wp2_with fail
    obtain ⟨hb, hk, hs⟩ := blocks1 w1 #[.slice a2 y.1.length c2, .slice a3 y.2.length c3] 52
    generalize w1.alloc (.cells #[.slice a2 y.1.length c2, .slice a3 y.2.length c3] 52) = W2 at *
    have K2 := Lib.hid hk
    replace HE := Lib.hid (HE.out.go hb)
    replace HP1 := Lib.hid (HP1.out.go hb)
    replace HQ1 := Lib.hid (HQ1.out.go hb)
    replace B := B.trans (hb.mono B.size)
    have hzW2 := B.size
    clear hb hk hs
    refine (vzero_any _ y.1 _ HP1.out).mono ?_
    rintro e w' ⟨rfl, rfl⟩
    rw [HZ.out]
    obtain ⟨k20, k21⟩ := K2.out.two
    have k2l := K2.out.lt
    go_wp2_with fail
    refine (norm_any _ y.1 y.2 _ ⟨_, _, rfl, HP1.out, HQ1.out⟩ l1 l2).mono ?_
    rintro e w3 ⟨u3, rfl, hu3, hb⟩
    replace HE := Lib.hid (HE.out.go hb)
    replace B := B.trans (hb.mono B.size)
    have hzw3 := B.size
    clear hb
    go_wp2_with fail
    refine (grow_any g B0 k t v u3 E (Ro.norm y) w3 HE.out hu3 HR.out HN.out hk ht hlen).mono ?_
    rintro e w4 ⟨v4, rfl, q1, q2, q3⟩
    have HQ1' := Lib.hid q1
    have HQ2' := Lib.hid ((Past.of_below g v B).trans q2)
    have HQ3' := Lib.hid (Near.trans (Near.same w rfl) q3 B.size)
    clear q1 q2 q3
    go_wp2_with fail
    go_ret2
    exact ⟨v4, rfl, by rw [HT.out]; exact HQ1'.out, HQ2'.out, HQ3'.out⟩
  | true =>
    have HZ := Lib.hid hz
    have HT := Lib.hid (show Ro.take1 E x = E by unfold Ro.take1; rw [← hy, if_pos hz])
    cases hz2 : zeroB y.2 with
    | true =>
      have HZ2 := Lib.hid hz2
      have HC := Lib.hid (show putC E x = 1 by unfold putC; rw [← hy, if_neg (by rw [hz]; simp), if_pos hz2])
      clear hz hz2 hy hE hx hR
      unfold PutE
      rw [HC.out, HT.out]
      go_enter Try.func25, Try.ntmps25
      go_wp2_with fail
      obtain ⟨B, hk1, hs⟩ := blocks1 w #[.slice a0 x.1.length c0, .slice a1 x.2.length c1] 52
      generalize (w.alloc (.cells #[.slice a0 x.1.length c0, .slice a1 x.2.length c1] 52)) = W at *
      have K1 := Lib.hid hk1
      have HS := Lib.hid hs
      clear hs hk1
      replace HP := Lib.hid (HP.out.go B)
      replace HQ := Lib.hid (HQ.out.go B)
      replace HE := Lib.hid (HE.out.go B)
      have hzW := B.size
      refine (erest_any g B0 k t _ _ E x _ HE.out ⟨_, _, rfl, HP.out, HQ.out⟩ HX.out HR.out.up.dims HR.out.up.leads hk ht hlen).mono ?_
      rintro e w1 ⟨u1, rfl, hu1, hb⟩
      replace HE := Lib.hid (HE.out.go hb)
      replace B := B.trans (hb.mono B.size)
      have hzw1 := B.size
      clear hb
      rw [← HY.out] at hu1
      obtain ⟨_, _, rfl, hp1, hq1⟩ := hu1
      have HP1 := Lib.hid hp1
      have HQ1 := Lib.hid hq1
      obtain ⟨a2, c2, rfl, _⟩ := hp1
      obtain ⟨a3, c3, rfl, _⟩ := hq1
      go_wp2_with fail
      obtain ⟨hb, hk, hs⟩ := blocks1 w1 #[.slice a2 y.1.length c2, .slice a3 y.2.length c3] 52
      generalize w1.alloc (.cells #[.slice a2 y.1.length c2, .slice a3 y.2.length c3] 52) = W2 at *
      have K2 := Lib.hid hk
      replace HE := Lib.hid (HE.out.go hb)
      replace HP1 := Lib.hid (HP1.out.go hb)
      replace HQ1 := Lib.hid (HQ1.out.go hb)
      replace B := B.trans (hb.mono B.size)
      have hzW2 := B.size
      clear hb hk hs
      refine (vzero_any _ y.1 _ HP1.out).mono ?_
      rintro e w' ⟨rfl, rfl⟩
      rw [HZ.out]
      obtain ⟨k20, k21⟩ := K2.out.two
      have k2l := K2.out.lt
      go_wp2_with fail
      refine (vzero_any _ y.2 _ HQ1.out).mono ?_
      rintro e w' ⟨rfl, rfl⟩
      rw [HZ2.out]
      go_wp2_with fail
      go_ret2
      exact ⟨v, rfl, HE.out, Past.of_below _ _ B, Near.same _ rfl⟩
    | false =>
      have HZ2 := Lib.hid hz2
      have HC := Lib.hid (show putC E x = 2 by unfold putC; rw [← hy, if_neg (by rw [hz]; simp), if_neg (by rw [hz2]; simp)])
      clear hz hz2 hy hE hx hR
      unfold PutE
      rw [HC.out, HT.out]
      go_enter Try.func25, Try.ntmps25
      go_wp2_with fail
      obtain ⟨B, hk1, hs⟩ := blocks1 w #[.slice a0 x.1.length c0, .slice a1 x.2.length c1] 52
      generalize (w.alloc (.cells #[.slice a0 x.1.length c0, .slice a1 x.2.length c1] 52)) = W at *
      have K1 := Lib.hid hk1
      have HS := Lib.hid hs
      clear hs hk1
      replace HP := Lib.hid (HP.out.go B)
      replace HQ := Lib.hid (HQ.out.go B)
      replace HE := Lib.hid (HE.out.go B)
      have hzW := B.size
      refine (erest_any g B0 k t _ _ E x _ HE.out ⟨_, _, rfl, HP.out, HQ.out⟩ HX.out HR.out.up.dims HR.out.up.leads hk ht hlen).mono ?_
      rintro e w1 ⟨u1, rfl, hu1, hb⟩
      replace HE := Lib.hid (HE.out.go hb)
      replace B := B.trans (hb.mono B.size)
      have hzw1 := B.size
      clear hb
      rw [← HY.out] at hu1
      obtain ⟨_, _, rfl, hp1, hq1⟩ := hu1
      have HP1 := Lib.hid hp1
      have HQ1 := Lib.hid hq1
      obtain ⟨a2, c2, rfl, _⟩ := hp1
      obtain ⟨a3, c3, rfl, _⟩ := hq1
      go_wp2_with fail
      obtain ⟨hb, hk, hs⟩ := blocks1 w1 #[.slice a2 y.1.length c2, .slice a3 y.2.length c3] 52
      generalize w1.alloc (.cells #[.slice a2 y.1.length c2, .slice a3 y.2.length c3] 52) = W2 at *
      have K2 := Lib.hid hk
      replace HE := Lib.hid (HE.out.go hb)
      replace HP1 := Lib.hid (HP1.out.go hb)
      replace HQ1 := Lib.hid (HQ1.out.go hb)
      replace B := B.trans (hb.mono B.size)
      have hzW2 := B.size
      clear hb hk hs
      refine (vzero_any _ y.1 _ HP1.out).mono ?_
      rintro e w' ⟨rfl, rfl⟩
      rw [HZ.out]
      obtain ⟨k20, k21⟩ := K2.out.two
      have k2l := K2.out.lt
      go_wp2_with fail
      refine (vzero_any _ y.2 _ HQ1.out).mono ?_
      rintro e w' ⟨rfl, rfl⟩
      rw [HZ2.out]
      go_wp2_with fail
      go_ret2
      exact ⟨v, rfl, HE.out, Past.of_below _ _ B, Near.same _ rfl⟩

end Go.Proofs.Ytphdadibfeencaa

/-
  Systems of equations (layer 8): the program's rows are the document's. No program in this text.
-/
set_option maxRecDepth 100000
namespace Go.Proofs.Ytphdadibfeencaa
open Go.RowKit
open La

theorem red_rank1 {k t : Nat} {E : List Rw} (h : RedR k t E) : E.length = rk k (Sp (E.map f1)) := (up_rank h.up).symm
theorem put_length (L : List Rw) (y : Rw) : (Ro.put L y).length = L.length + 1 := by
  have := Ro.ahead_le L y
  simp [Ro.put]; omega
end Go.Proofs.Ytphdadibfeencaa

/-
  Systems of equations (layer 8): equations that symbols solve. No program in this text.
-/
set_option maxRecDepth 100000
namespace Go.Proofs.Ytphdadibfeencaa
open Go.RowKit
open La

/-- The data are what the vector combines. -/
def Holds (k t : Nat) (A : Nat → Vc) (v : Vc) : Prop := ∀ j, j < t → v (k + j) = sm (fun i => v i * A i j) k
theorem Holds.lin (k t : Nat) (A : Nat → Vc) : Lin (Holds k t A) := by
  refine ⟨fun j _ => ?_, fun {x y} hx hy j hj => ?_, fun {x} c hx j hj => ?_⟩
  · exact (sm_zero fun t _ => bzero_mul _).symm
  · show x (k + j) + y (k + j) = sm (fun i => (x i + y i) * A i j) k
    rw [hx j hj, hy j hj, ← sm_add]
    exact sm_congr fun t _ => (badd_mul _ _ _).symm
  · show c * x (k + j) = sm (fun i => c * x i * A i j) k
    rw [hx j hj, ← sm_mul]
    exact sm_congr fun t _ => (bmul_assoc _ _ _).symm
/-- The equation that a vector makes of symbols. -/
def eqOf (ll : List (List Nat)) (n : Nat) (w : List Nat) : Rw := (w, combT w ll n)
section
variable {ll : List (List Nat)} {n : Nat} (hO : OctM ll) (hn : ∀ j, j < ll.length → (rowAt ll j).length = n)
theorem eqOf_dim {w : List Nat} (hw : Oct w) (hl : w.length = ll.length) : Ro.Dim ll.length n (eqOf ll n w) := ⟨hl, combT_length _ _ _, hw, combT_lt hw ll n⟩
include hO hn
theorem eqOf_holds {w : List Nat} (hw : Oct w) (hl : w.length = ll.length) : Holds ll.length n (mat ll) (fj (eqOf ll n w)) := by
  intro j hj
  have hd := eqOf_dim (n := n) (ll := ll) hw hl
  rw [fj_right hd]
  show fv (combT w ll n) j = _
  rw [combT_fv hw hO hn]
  show sm (fun i => bt (nth w i) * mat ll i j) ll.length = _
  refine sm_congr fun i hi => ?_
  rw [fj_left hd hi]; rfl
end
/-- What holds, and has a vector of noughts, has no data. -/
theorem holds_zero {k t : Nat} {A : Nat → Vc} {x : Rw} (hx : Ro.Dim k t x) (h : Holds k t A (fj x)) (hz : zeroB x.1 = true) : zeroB x.2 = true := by
  have h1 : ∀ i, i < k → fj x i = 0 := fun i hi => by
    rw [fj_left hx hi]
    exact congrFun ((fv_zero hx.2.2.1).2 hz) i
  refine (fv_zero hx.2.2.2).1 (funext fun j => ?_)
  by_cases hj : j < t
  · rw [← fj_right hx, h j hj]
    exact sm_zero fun i hi => by rw [h1 i hi, bzero_mul]
  · exact fv_short' hx.2.1 j (by omega)
theorem rest_holds {k t : Nat} {W : Vc → Prop} (hW : Lin W) {E : List Rw} (h : RedR k t E) {x : Rw} (hx : Ro.Dim k t x) (hE : ∀ r, r ∈ E → W (fj r)) (hwx : W (fj x)) : W (fj (Ro.rest E x)) := by
  have hs := (rest_span h.up.dims hx).1.within hW (fun v hv => by
    obtain ⟨o, ho, rfl⟩ := List.mem_map.1 hv
    exact hE o ho)
  exact hW.of_sum hwx hs
/-- The rows of equations that hold. -/
structure Sol (k t : Nat) (A : Nat → Vc) (E L : List Rw) : Prop where
  red : RedR k t E
  dims : Ro.Dims k t L
  hold : ∀ r, r ∈ E → Holds k t A (fj r)
  sp1 : ∀ v, Sp (E.map f1) v ↔ Sp (L.map f1) v
  spj : ∀ v, Sp (E.map fj) v ↔ Sp (L.map fj) v
theorem Sol.nil (k t : Nat) (A : Nat → Vc) : Sol k t A [] [] := ⟨RedR.nil k t, fun r h => (by cases h), fun r h => (by cases h), fun _ => Iff.rfl, fun _ => Iff.rfl⟩
section
variable {k t : Nat} {A : Nat → Vc} {E L : List Rw}
theorem Sol.quiet (h : Sol k t A E L) {x : Rw} (hx : Ro.Dim k t x) (hH : Holds k t A (fj x)) (hz : zeroB (Ro.rest E x).1 = true) : zeroB (Ro.rest E x).2 = true :=
  holds_zero (Ro.rest_dim h.red.up.dims hx) (rest_holds (Holds.lin k t A) h.red hx h.hold hH) hz
theorem Sol.put (h : Sol k t A E L) {x : Rw} (hx : Ro.Dim k t x) (hH : Holds k t A (fj x)) : Sol k t A (Ro.take1 E x) (L ++ [x]) := by
  refine ⟨take1_red h.red hx, fun r hr => ?_, take1_within (Holds.lin k t A) h.red hx h.hold hH, fun v => ?_, fun v => ?_⟩
  · rcases List.mem_append.1 hr with h1 | h1
    · exact h.dims r h1
    · rw [List.mem_singleton.1 h1]; exact hx
  · rw [take1_span1 h.red hx, sp_snoc]
    exact sp_cons_congr h.sp1
  · rw [take1_span h.red hx (h.quiet hx hH), sp_snoc]
    exact sp_cons_congr h.spj
theorem Sol.none (h : Sol k t A E L) {x : Rw} (hx : Ro.Dim k t x) (hH : Holds k t A (fj x)) : (putC E x = 0 ∧ (Ro.take1 E x).length = E.length + 1) ∨ (putC E x = 1 ∧ (Ro.take1 E x).length = E.length) := by
  unfold putC Ro.take1
  cases hz : zeroB (Ro.rest E x).1 with
  | false => exact .inl ⟨rfl, by rw [if_neg (by decide), put_length, Ro.clean_length]⟩
  | true => exact .inr ⟨by rw [if_neg (by decide), if_pos (h.quiet hx hH hz)], by rw [if_pos rfl]⟩
theorem Sol.le (h : Sol k t A E L) : E.length ≤ k := by rw [red_rank1 h.red]; exact rk_le _ _
end
theorem combL_fit {ll : List (List Nat)} {n : Nat} {w : List Nat} (hn : ∀ j, j < ll.length → (rowAt ll j).length = n) (h1 : 1 ≤ ll.length) (hl : w.length = ll.length) : combL w ll = combT w ll n ∧ combE w ll = 0 := by
  have ha : alikeB ll = true := by
    unfold alikeB
    rw [List.all_eq_true]
    intro r hr
    obtain ⟨i, hi, rfl⟩ := List.mem_iff_getElem.1 hr
    rw [← rowAt_eq ll i hi, hn i hi, hn 0 (by omega)]; simp
  have hne : ll ≠ [] := fun e => by rw [e] at h1; simp at h1
  rw [combL_eq, if_pos ⟨hl, ha, hne⟩, hn 0 (by omega)]
  unfold combE
  rw [if_pos ⟨hl, ha⟩]
  exact ⟨rfl, rfl⟩

end Go.Proofs.Ytphdadibfeencaa

/-
  What equations say together (layer 9): what the program finds by putting them into a system is what the ranks say. No program in this text.
-/
set_option maxRecDepth 100000
namespace Go.Proofs.Ytphdadibfeencaa
open Go.RowKit
open La

theorem dims_snoc {k t : Nat} {L : List Rw} (hD : Ro.Dims k t L) {x : Rw} (hx : Ro.Dim k t x) : Ro.Dims k t (L ++ [x]) := fun r hr => by
  rcases List.mem_append.1 hr with h1 | h1
  · exact hD r h1
  · rw [List.mem_singleton.1 h1]; exact hx
/-- The program's clash behind so many. -/
def firstC (L : List Rw) : Nat → Int
  | 0 => -1
  | n + 1 => if putC (Ro.redOf (L.take n)) (rwAt L n) = 2 ∧ firstC L n < 0 then (n : Int) else firstC L n
theorem first_succ (L : List Rw) (n : Nat) : firstC L (n + 1) = if putC (Ro.redOf (L.take n)) (rwAt L n) = 2 ∧ firstC L n < 0 then (n : Int) else firstC L n := rfl
theorem first_ge (L : List Rw) : ∀ n : Nat, -1 ≤ firstC L n ∧ firstC L n ≤ (n : Int)
  | 0 => by show (-1 : Int) ≤ -1 ∧ (-1 : Int) ≤ ((0 : Nat) : Int); omega
  | n + 1 => by
    have h := first_ge L n
    rw [first_succ]
    by_cases hc : putC (Ro.redOf (L.take n)) (rwAt L n) = 2 ∧ firstC L n < 0
    · rw [if_pos hc]; omega
    · rw [if_neg hc]; omega

end Go.Proofs.Ytphdadibfeencaa

/-
  Systems of equations in the program (layer 8): what stays while a system takes an equation.
-/
set_option maxRecDepth 100000
namespace Go.Proofs.Ytphdadibfeencaa
open Go.RowKit

theorem IsE.mono {w : World} {B C g k t : Nat} {v : Value} {E : List Rw} (h : IsE w B g v k t E) (hC : C ≤ B) : IsE w C g v k t E := ⟨h.1, h.2.1.mono hC, Nat.le_trans hC h.2.2⟩
/-- A box of something else. -/
theorem IsE.keeps {w w' : World} {B g b k t : Nat} {v : Value} {E : List Rw} {us : Array Value} {T : TypeId} (h : IsE w B g v k t E) (hp : Past w w' g v) (hk : Blk w b us T) (h1 : 88 ≠ T) (h2 : 102 ≠ T) : Blk w' b us T := by
  have := hp.block b hk.lt (fun e => h.1.ne hk h1 e.symm) (fun e => h.2.1.ne_box hk h2 e.symm)
  unfold Blk at hk ⊢
  rw [this]; exact hk
end Go.Proofs.Ytphdadibfeencaa

/-
  Lists of unlike elements lie apart: what stays while one of them grows, or a system takes an equation.
-/
set_option maxRecDepth 100000
namespace Go.Proofs.Ytphdadibfeencaa
open Go.RowKit

/-- The value's own block, if it has one, is of such elements. -/
def Typed (w : World) (v : Value) (T : TypeId) : Prop := ∀ b, v.ownBlock = some b → ∃ cur fr, w.heap[b]? = some (.cells cur T fr)
theorem OwnN.typed {w : World} {B sz n : Nat} {T : TypeId} {v : Value} {xs : List Value} (h : OwnN w B T sz v n xs) : Typed w v T := by
  intro b e
  rcases h.1.2 with ⟨rfl, _⟩ | ⟨g, cap, cur, rfl, _, hgg, _⟩
  · cases e
  · simp only [Value.ownBlock, Option.some.injEq] at e
    subst e
    exact ⟨_, _, hgg⟩
theorem OwnM.typed {w : World} {B : Nat} {T : TypeId} {v : Value} {L : List (List Nat)} (h : OwnM w B T v L) : Typed w v T := by obtain ⟨us, h1, _⟩ := h; exact h1.typed
theorem OwnL.typed {w : World} {B : Nat} {T : TypeId} {v : Value} {L : List Rw} (h : OwnL w B T v L) : Typed w v T := by obtain ⟨us, h1, _⟩ := h; exact h1.typed
theorem Typed.apart {w : World} {v u : Value} {T T' : TypeId} (h : Typed w v T) (k : Typed w u T') (hT : T ≠ T') : ∀ b, v.ownBlock = some b → u.ownBlock ≠ some b := by
  intro b e e'
  obtain ⟨c, f, h1⟩ := h b e
  obtain ⟨c', f', h2⟩ := k b e'
  rw [h1] at h2
  simp only [Option.some.injEq, Obj.cells.injEq] at h2
  exact hT h2.2.1
theorem Typed.box {w : World} {v : Value} {g : Nat} {vs : Array Value} {T T' : TypeId} (h : Typed w v T) (k : Blk w g vs T') (hT : T ≠ T') : v.ownBlock ≠ some g := by
  intro e
  obtain ⟨c, f, h1⟩ := h g e
  unfold Blk at k
  rw [h1] at k
  simp only [Option.some.injEq, Obj.cells.injEq] at k
  exact hT k.2.1
theorem none_or {v : Value} {row : Option Nat} (h : ∀ b, v.ownBlock = some b → row ≠ some b) : v.ownBlock = none ∨ v.ownBlock ≠ row := by
  cases e : v.ownBlock with
  | none => exact .inl rfl
  | some b => exact .inr fun e' => h b e e'.symm
theorem OwnM.keepO {w w' : World} {B : Nat} {T : TypeId} {v : Value} {L : List (List Nat)} {row : Option Nat} (h : OwnM w B T v L) (hg : w.grownBy w' row) (hs : Soft w w') (hne : ∀ b, v.ownBlock = some b → row ≠ some b) : OwnM w' B T v L := h.other hg hs (none_or hne)
end Go.Proofs.Ytphdadibfeencaa

/-
  A region in any order that appends to two lists whose elements are unlike, loads from a box, and else only makes memory.
-/
set_option maxRecDepth 100000
namespace Go.Proofs.Ytphdadibfeencaa
open Go.RowKit

/-- 'append', and the elder block keeps its elements' type. -/
theorem run_append_typed {P : Program} (w : World) (B : Nat) (t ty e : TypeId) (i : TypeInfo) (z : Value) (size bytes : Nat) (ht : P.underlying t = some (.slice e)) (hi : P.info? e = some i) (hz : i.zero = some z)
    (hsize : i.size = size) (hby : i.bytes = bytes) (hzs : z.cells.size = size) (hsz : 0 < size)
    (v : Value) (n : Nat) (xs : List Value) (hown : OwnN w B e size v n xs)
    (a : Addr) (m c : Nat) (news : List Value) (hl : news.length = m * size) (hnews : ∀ j u, news[j]? = some u → w.cell? (a.add j) = some u) (h1 : ∀ u ∈ news, u.oneCell' = true)
    (hzn : ∀ u ∈ z.cells.toList, ∀ k : Nat, u ≠ U8 k) (hnn : ∀ u ∈ news, ∀ k : Nat, u ≠ U8 k)
    (h63 : n + m ≤ maxLen) (hbytes : (n + m) * bytes ≤ 140737488355328) (hbase : B ≤ w.heap.size) :
    ∃ v' w', (Builtin.append_ #[t, t] ty #[v, .slice (some a) m c]).run P w = .ok v' w' ∧ OwnN w' B e size v' (n + m) (xs ++ news) ∧ w.grownBy w' v.ownBlock ∧ Soft w w' ∧ Typed w' v e := by
  obtain ⟨v', w', hr, ho, hg, hs⟩ := run_append_soft (P := P) w B t ty e i z size bytes ht hi hz hsize hby hzs hsz v n xs hown a m c news hl hnews h1 hzn hnn h63 hbytes hbase
  refine ⟨v', w', hr, ho, hg, hs, ?_⟩
  intro g e2
  by_cases hv : v'.ownBlock = some g
  · exact ho.typed g hv
  · obtain ⟨c0, f0, h0⟩ := hown.typed g e2
    refine ⟨c0, f0, Eq.trans ?_ h0⟩
    subst hsize
    subst hby
    rcases hown.1.2 with ⟨rfl, rfl⟩ | ⟨g0, cap, cur, rfl, hbg, hg0, hnc, hcm, hcs, htake⟩
    · cases e2
    · simp only [Value.ownBlock, Option.some.injEq] at e2
      subst e2
      by_cases hroom : n + m ≤ cap
      · have hfit : n * i.size + news.length ≤ cur.size := by rw [hl, hcs, ← Nat.add_mul]; exact Nat.mul_le_mul_right _ hroom
        have hr2 := run_append_room (P := P) w t ty e i ht hi g0 n cap cur hg0 a m c news hl hnews h1 hroom hfit
        rw [hr2] at hr
        simp only [Result.ok.injEq] at hr
        exact absurd (by rw [← hr.1]; rfl) hv
      · have holds : ∀ j u, xs[j]? = some u → w.cell? ((⟨g0, 0, none⟩ : Addr).add j) = some u := World.ownsRow.cells hown.1 (g := g0) rfl
        have hr2 := run_append_grow (P := P) w t ty e i z ht hi hz ⟨g0, 0, none⟩ n cap xs hown.1.1 holds a m c news hl hnews (by omega) (by simp only [maxLen] at h63; omega) (growslice_fits (by omega) hbytes)
        rw [hr2] at hr
        simp only [Result.ok.injEq] at hr
        rw [← hr.2]
        exact Below.heap_alloc w.drew _ _ (Array.getElem?_eq_some_iff.1 hg0).1

/-- A row of two slices, appended out of a block of its own. -/
theorem run_append_row1 {P : Program} {w : World} {B g c : Nat} {t ty T : TypeId} {v x y : Value} {L : List Rw} {r : Rw} {i : TypeInfo} (ht : P.underlying t = some (.slice T)) (hi : P.info? T = some i)
    (hz : i.zero = some (.agg #[.slice none 0 0, .slice none 0 0])) (hs : i.size = 2) (hb : i.bytes = 48) (hown : OwnL w B T v L) (hk : Blk w g #[x, y] T) (hx : Bytes w x r.1) (hy : Bytes w y r.2) (hB : B ≤ w.heap.size) (hn : L.length ≤ 1000000000) :
    ∃ v' w', (Builtin.append_ #[t, t] ty #[v, .slice (some ⟨g, 0, none⟩) 1 c]).run P w = .ok v' w' ∧ OwnL w' B T v' (L ++ [r]) ∧ w.grownBy w' v.ownBlock ∧ Soft w w' ∧ Typed w' v T := by
  obtain ⟨us, h1, h2⟩ := hown
  have hE : Each w [(x, y)] [r] := (Each.nil w).cons hx hy
  obtain ⟨v', w', k0, k1, k2, k3, k4⟩ := run_append_typed (P := P) w B t ty T i _ 2 48 ht hi hz hs hb rfl (by decide) v L.length (pairs us) h1 ⟨g, 0, none⟩ 1 c (pairs [(x, y)]) (by rw [pairs_length]; rfl)
    (fun j u hj => by
      have hlt := (List.getElem?_eq_some_iff.1 hj).1
      simp [pairs] at hlt
      rw [row_add]
      have : j = 0 ∨ j = 1 := by omega
      rcases this with rfl | rfl
      · simp [pairs] at hj; subst hj; exact hk.cell 0
      · simp [pairs] at hj; subst hj; exact hk.cell 1)
    (fun u hu => (hE.noU8 u hu).2) (fun u hu => by simp [Value.cells] at hu; subst hu; exact slice_ne _ _ _) (fun u hu => (hE.noU8 u hu).1) (by unfold maxLen; omega) (by omega) hB
  refine ⟨v', w', k0, ⟨us ++ [(x, y)], ?_, (h2.append hE).soft k3⟩, k2, k3, k4⟩
  rw [List.length_append, pairs_append]; exact k1

/-- What is fixed: both lists, ahead, and a box that is read. -/
structure Two where
  w : World
  W : World
  v1 : Value
  T1 : TypeId
  v2 : Value
  T2 : TypeId
  gK : Nat
  vK : Array Value
  TK : TypeId
section
variable {z : Two}
end

end Go.Proofs.Ytphdadibfeencaa

/-
  The laws of rows (layer 3): which are gone through, and the document's form of one.
-/
set_option maxRecDepth 100000
namespace Go.Proofs.Ytphdadibfeencaa
open Go.ChangeShapes Go.WideShapes Go.ChangeAt Go.RowKit Go.Deep

/-- A struct of two slices of bytes that came in. -/
theorem open_pair {H : Type} {enc : TypeId × Value → H} {P : Program} {t T E : TypeId} {f0 f1 : Field} (hs : P.underlying t = some (.struct #[f0, f1])) (hone : oneCellFields P #[f0, f1] = true) (hC : P.cellsOf t = 2)
    (e0 : f0.type = T) (e1 : f1.type = T) (hT : P.underlying T = some (.slice E)) (hE : P.underlying E = some (.int .u8)) (hc : P.cellsOf E = 1) {W : World} {base : Nat} {v : Value} {d : DataW H} {p : List MemPlace}
    (hok : Value.okWide P W .any base t v) (h : DataW.Trod enc P W 0 (fun _ => true) true t v d p) (hlt : ∀ x ∈ p, x.block < W.heap.size) : ∃ l r, IsRow W v l r := by
  obtain ⟨v0, v1, y0, y1, n, rfl, _, rfl, h0, h1⟩ := Joins.open_agg2 hs hone hC hok h
  rw [e0] at h0
  rw [e1] at h1
  obtain ⟨l, hl⟩ := bytes_of_trod hT hE hc h0 fun y hy => hlt y (List.mem_append_left _ hy)
  obtain ⟨r, hr⟩ := bytes_of_trod hT hE hc h1 fun y hy => hlt y (List.mem_append_right _ hy)
  exact ⟨l, r, v0, v1, rfl, hl, hr⟩

end Go.Proofs.Ytphdadibfeencaa

/-
  The laws of rows (layer 3): the example, 'Make', 'Of'.
-/
set_option maxRecDepth 100000
namespace Go.Proofs.Ytphdadibfeencaa
open Go.RowKit

set_option maxHeartbeats 400000 in
theorem make3_any (u : Value) (p q : List Nat) (w : World) (hu : IsRow w u p q) (hlp : p.length ≤ 1000000000) (hlq : q.length ≤ 1000000000) :
    Calls Try.prog 19 #[u] w (RowsV w p q) := by
  obtain ⟨v, d, rfl, hp, hq⟩ := hu
  have HP := Lib.hid hp
  have HQ := Lib.hid hq
  clear hp hq
  go_enter Try.func19, Try.ntmps19
  go_wp2_with fail
  obtain ⟨B, hk1, hk2, hs⟩ := blocks2 w #[v, d] 42 #[.slice none 0 0, .slice none 0 0] 52
  generalize ((w.alloc (.cells #[v, d] 42)).alloc (.cells #[.slice none 0 0, .slice none 0 0] 52)) = W at *
  have K1 := Lib.hid hk1
  have K2 := Lib.hid hk2
  have HS := Lib.hid hs
  clear hs hk1 hk2
  replace HP := Lib.hid (HP.out.go B)
  replace HQ := Lib.hid (HQ.out.go B)
  have hzW := B.size
  obtain ⟨k10, k11⟩ := K1.out.two
  have k1l := K1.out.lt
  go_wp2_with fail
  refine (of_any _ _ _ _ _ HP.out HQ.out hlp hlq).mono ?_
  rintro e w1 ⟨v1, rfl, hv1, hb⟩
  replace K2 := Lib.hid (K2.out.go hb)
  replace B := B.trans (hb.mono B.size)
  have hzw1 := B.size
  clear hb
  obtain ⟨y0, y1, rfl, V1, V2⟩ := hv1
  have H1 := Lib.hid V1
  have H2 := Lib.hid V2
  obtain ⟨a1, c1, rfl, _⟩ := V1
  obtain ⟨a2, c2, rfl, _⟩ := V2
  obtain ⟨k20, k21⟩ := K2.out.two
  have k2l := K2.out.lt
  obtain ⟨k2f0, k2f1⟩ := K2.out.fre2
  go_wp2_with fail
  obtain ⟨e0, e1, hB, hS⟩ := store2 K2.out (Nat.le_succ _) B (slice_ne _ _ _) (slice_ne _ _ _) (.slice a1 p.length c1) (.slice a2 q.length c2)
  exact bodyPost_ret (v := .agg #[.slice a1 p.length c1, .slice a2 q.length c2]) (by simp [results, Try.results19, go_sem, e0, e1]) rfl
    ⟨_, rfl, ⟨_, _, rfl, hS _ _ H1.out, hS _ _ H2.out⟩, hB⟩

end Go.Proofs.Ytphdadibfeencaa

/-
  What equations say together (layer 9) in the program: do they fit, and 'Judge'.
-/
set_option maxRecDepth 100000
namespace Go.Proofs.Ytphdadibfeencaa
open Go.RowKit

/-- A place was found, or none: which, it doesn't say; the look may make memory. -/
def FoundB (t : Bool) (w : World) (e : Ending) (w' : World) : Prop := ∃ r : Int, e = .returned (.int .i64 r) ∧ decide (0 ≤ r) = t ∧ Below w.heap.size w w'
/-- Have all rows these lengths? -/
def fitB (k t : Int) (x : Rw) : Bool := decide ((x.1.length : Int) = k) && decide ((x.2.length : Int) = t)
theorem all_false {p : Rw → Bool} {L : List Rw} {n : Nat} (hn : n < L.length) (h : p (rwAt L n) = false) : L.all p = false := by
  rw [List.all_eq_false]
  exact ⟨_, rwAt_mem hn, by rw [h]; decide⟩
theorem all_true {p : Rw → Bool} {L : List Rw} (h : ∀ j, j < L.length → p (rwAt L j) = true) : L.all p = true := by
  rw [List.all_eq_true]
  intro x hx
  obtain ⟨i, hi, rfl⟩ := List.mem_iff_getElem.1 hx
  have := h i hi
  rwa [rwAt_eq L i hi] at this
theorem hasRow_any (v f : Value) (t : Bool) (w : World) (h : Calls Try.prog 45 #[v, f] w (FoundB t w)) :
    Calls Try.prog 23 #[v, f] w fun e w' => e = .returned (.bool t) ∧ Below w.heap.size w w' := by
  have H := Lib.hid h
  clear h
  go_enter Try.func23, Try.ntmps23
  go_wp2_with fail
  refine H.out.mono ?_
  rintro e w' ⟨r, rfl, ht, hb⟩
  have HB := Lib.hid hb
  clear hb
  go_wp2_with fail
  go_ret
  exact ⟨rfl, HB.out⟩

set_option maxHeartbeats 1000000 in
theorem judge1_any (gk gt : Nat) (k t : Int) (u : Value) (p q : List Nat) (w : World) (hk : Blk w gk #[.int .i64 k] 3) (ht : Blk w gt #[.int .i64 t] 3) (hu : IsRow w u p q) :
    Calls Try.prog 24 #[u, .pointer (some ⟨gk, 0, none⟩), .pointer (some ⟨gt, 0, none⟩)] w fun e w' => e = .returned (.bool (!fitB k t (p, q))) ∧ Below w.heap.size w w' := by
  obtain ⟨a, c, a', c', rfl⟩ := hu.shape
  have c0 : w.cell? ⟨gk, 0, none⟩ = some (.int .i64 k) := hk.cell 0
  have c1 : w.cell? ⟨gt, 0, none⟩ = some (.int .i64 t) := ht.cell 0
  have l0 := hk.lt
  have l1 := ht.lt
  obtain ⟨m, hm⟩ : ∃ m, m = p.length := ⟨_, rfl⟩
  obtain ⟨n, hn⟩ : ∃ n, n = q.length := ⟨_, rfl⟩
  have HF := Lib.hid (show fitB k t (p, q) = (decide ((m : Int) = k) && decide ((n : Int) = t)) by unfold fitB; rw [hm, hn])
  rw [← hm, ← hn]
  clear hk ht hu hm hn
  by_cases h1 : (m : Int) = k
  · by_cases h2 : (n : Int) = t
    · have b1 : ((m : Int) != k) = false := by rw [h1]; simp
      have b2 : ((n : Int) != t) = false := by rw [h2]; simp
      have HR := Lib.hid (show fitB k t (p, q) = true by rw [HF.out]; simp [h1, h2])
      clear h1 h2
      go_enter Try.func24, Try.ntmps24
      go_wp2_with fail
      go_ret
      exact ⟨by rw [HR.out]; rfl, (Below.refl _ _).alloc (Nat.le_refl _) _⟩
    · have b1 : ((m : Int) != k) = false := by rw [h1]; simp
      have b2 : ((n : Int) != t) = true := by rw [bne_iff_ne]; exact h2
      have HR := Lib.hid (show fitB k t (p, q) = false by rw [HF.out]; simp [h2])
      clear h1 h2
      go_enter Try.func24, Try.ntmps24
      go_wp2_with fail
      go_ret
      exact ⟨by rw [HR.out]; rfl, (Below.refl _ _).alloc (Nat.le_refl _) _⟩
  · have b1 : ((m : Int) != k) = true := by rw [bne_iff_ne]; exact h1
    have HR := Lib.hid (show fitB k t (p, q) = false by rw [HF.out]; simp [h1])
    clear h1
    go_enter Try.func24, Try.ntmps24
    go_wp2_with fail
    go_ret
    exact ⟨by rw [HR.out]; rfl, (Below.refl _ _).alloc (Nat.le_refl _) _⟩

set_option maxHeartbeats 1000000 in
theorem idxJudge_any (gk gt : Nat) (k t : Int) (v : Value) (L : List Rw) (w : World) (hk : Blk w gk #[.int .i64 k] 3) (ht : Blk w gt #[.int .i64 t] 3) (hL : IsRL w v L) (hlen : L.length ≤ 1000000000) :
    Calls Try.prog 45 #[v, .func (Fn.func 24) #[] #[.pointer (some ⟨gk, 0, none⟩), .pointer (some ⟨gt, 0, none⟩)]] w (FoundB (!L.all (fitB k t)) w) := by
  have HL0 := Lib.hid hL
  have KK := Lib.hid hk
  have KT := Lib.hid ht
  clear hk ht
  obtain ⟨a, c, rfl⟩ := hL.shape
  clear hL
  go_enter Try.func45, Try.ntmps45
  go_wp2_with fail
  go_loopw [5, 8] (fun _ x wr => ∃ j : Nat, j ≤ L.length ∧ x = .int .i64 j ∧ Below w.heap.size w wr ∧ ∀ i, i < j → (fitB k t) (rwAt L i) = true) (fun _ x _ => L.length - (intOf x).toNat)
  case atStart => exact ⟨0, by omega, rfl, Below.refl _ _, fun i hi => by omega⟩
  case round =>
    obtain ⟨j, hj, rfl, B, hno⟩ := hrel
    have HN := Lib.hid hno
    clear hno
    by_cases hjl : j < L.length
    · obtain ⟨b, off, c', er, hbl⟩ := HL0.out.addr (by omega)
      simp only [Value.slice.injEq] at er
      obtain ⟨rfl, -, rfl⟩ := er
      obtain ⟨x0, y0, hx0, hy0, hxb, hyb⟩ := (HL0.out.go B).cells j hjl
      obtain ⟨r, hr⟩ : ∃ r, r = rwAt L j := ⟨_, rfl⟩
      rw [← hr] at hxb hyb
      have HRR := Lib.hid hr
      have HXR := Lib.hid (show IsRow wr (.agg #[x0, y0]) r.1 r.2 from ⟨_, _, rfl, hxb, hyb⟩)
      obtain ⟨xa, xc, rfl, _⟩ := hxb
      obtain ⟨ya, yc, rfl, _⟩ := hyb
      have j1 : (j : Int) < (L.length : Int) := by omega
      have j0 : (0 : Int) ≤ (j : Int) := Int.natCast_nonneg _
      clear hr hbl
      go_wp2_with fail
      have KK2 := KK.out.go B
      have KT2 := KT.out.go B
      refine (judge1_any gk gt k t _ r.1 r.2 wr KK2 KT2 HXR.out).mono ?_
      rintro e w2 ⟨rfl, hb2⟩
      replace B := B.trans (hb2.mono B.size)
      clear hb2 hx0 hy0 HXR
      cases hp : (fitB k t) (r.1, r.2) with
      | true =>
        have HP := Lib.hid (show (fitB k t) (rwAt L j) = true by rw [← HRR.out]; exact hp)
        clear hp
        simp only [Bool.not_true]
        go_wp2_with fail
        go_roundw
        case rel => exact ⟨j + 1, by omega, by go_num, B, fun i hi => by
          by_cases h : i = j
          · rw [h]; exact HP.out
          · exact HN.out i (by omega)⟩
        case measure => simp [intOf]; omega
      | false =>
        have HP := Lib.hid (all_false (p := fitB k t) hjl (by rw [← HRR.out]; exact hp))
        clear hp
        simp only [Bool.not_false]
        go_wp2_with fail
        go_ret
        exact ⟨j, rfl, by rw [HP.out]; simp, B⟩
    · have HF := Lib.hid (all_true (p := fitB k t) (L := L) fun i hi => HN.out i (by omega))
      go_wp2_with fail
      go_ret
      exact ⟨-1, rfl, by rw [HF.out]; decide, B⟩

end Go.Proofs.Ytphdadibfeencaa

/-
  What equations say together (layer 9) in the program: 'Judge'.
-/
set_option maxRecDepth 100000
namespace Go.Proofs.Ytphdadibfeencaa
open Go.RowKit

/-- What Judge answers. -/
def VerdictV (w : World) (r c n : Int) (e : Ending) (w' : World) : Prop := e = .returned (.tuple #[.agg #[.int .i64 r, .int .i64 c], .int .i64 n]) ∧ Below w.heap.size w w'
theorem hmf9 (fn : Fn) (first cap : Array Value) (w : World) : (Instr.makeFunc fn first cap).run Try.prog w = .ok (.func fn first cap) w := rfl
set_option maxHeartbeats 1000000 in
theorem judge_no (k t : Int) (v : Value) (L : List Rw) (w : World) (hL : IsRL w v L) (h : ¬ newOk k t) :
    Calls Try.prog 8 #[.int .i64 k, .int .i64 t, v] w (VerdictV w 0 0 2) := by
  obtain ⟨a, c, rfl⟩ := hL.shape
  have HN := Lib.hid (fun (w : World) => enew_no k t w h)
  clear hL h
  go_enter Try.func8, Try.ntmps8
  go_wp2_with fail
  obtain ⟨B, hk1, hk2, hk3, hs⟩ := blocks3 w #[.int .i64 k] 3 #[.int .i64 t] 3 #[.int .i64 0, .int .i64 0] 30
  generalize (((w.alloc (.cells #[.int .i64 k] 3)).alloc (.cells #[.int .i64 t] 3)).alloc (.cells #[.int .i64 0, .int .i64 0] 30)) = W at *
  have K1 := Lib.hid hk1
  have K2 := Lib.hid hk2
  have K3 := Lib.hid hk3
  have HS := Lib.hid hs
  clear hs hk1 hk2 hk3
  have hzW := B.size
  refine (HN.out _).mono ?_
  rintro e w1 ⟨rfl, hb⟩
  replace K1 := Lib.hid (K1.out.go hb)
  replace K2 := Lib.hid (K2.out.go hb)
  replace K3 := Lib.hid (K3.out.go hb)
  replace B := B.trans (hb.mono B.size)
  have hzw1 := B.size
  clear hb
  obtain ⟨k30, k31⟩ := K3.out.two
  have k3l := K3.out.lt
  obtain ⟨k3f0, k3f1⟩ := K3.out.fre2
  go_wp2_with fail
  obtain ⟨e0, e1, hB, _⟩ := store2 K3.out (by omega) B (fun n e => by cases e) (fun n e => by cases e) (.int .i64 0) (.int .i64 0)
  exact bodyPost_ret (v := .tuple #[.agg #[.int .i64 0, .int .i64 0], .int .i64 2]) (by simp [results, Try.results8, go_sem, e0, e1]) rfl ⟨rfl, hB⟩
theorem fits_dims {k t : Nat} {L : List Rw} (hD : Ro.Dims k t L) : L.all (fitB (k : Int) (t : Int)) = true := by
  rw [List.all_eq_true]
  intro x hx
  unfold fitB
  rw [(hD x hx).1, (hD x hx).2.1]
  simp
set_option maxHeartbeats 4000000 in
theorem judge_yes (k t : Nat) (v : Value) (L : List Rw) (w : World) (hL : IsRL w v L) (hlen : L.length ≤ 1000000) (h : newOk (k : Int) (t : Int)) (hD : Ro.Dims k t L) :
    Calls Try.prog 8 #[.int .i64 (k : Int), .int .i64 (t : Int), v] w (VerdictV w ((Ro.redOf L).length : Int) (firstC L L.length) 0) := by
  have HL := Lib.hid hL
  have HL0 := Lib.hid hL
  obtain ⟨a, c, rfl⟩ := hL.shape
  have HN := Lib.hid (fun (w : World) => enew_yes k t w h)
  have HD := Lib.hid hD
  have HF := Lib.hid (fits_dims hD)
  have hk2 : k ≤ 4096 := by unfold newOk at h; omega
  have ht2 : t ≤ 65535 := by unfold newOk at h; omega
  clear hL h hD
  go_enter Try.func8, Try.ntmps8
  go_wp2_with fail
  obtain ⟨B, hk1, hk2, hk3, hs⟩ := blocks3 w #[.int .i64 (k : Int)] 3 #[.int .i64 (t : Int)] 3 #[.int .i64 0, .int .i64 0] 30
  generalize (((w.alloc (.cells #[.int .i64 (k : Int)] 3)).alloc (.cells #[.int .i64 (t : Int)] 3)).alloc (.cells #[.int .i64 0, .int .i64 0] 30)) = W at *
  have K1 := Lib.hid hk1
  have K2 := Lib.hid hk2
  have K3 := Lib.hid hk3
  have HS := Lib.hid hs
  clear hs hk1 hk2 hk3
  replace HL := Lib.hid (HL.out.go B)
  have hzW := B.size
  have hz := B.size
  refine (HN.out _).mono ?_
  rintro e w1 ⟨gs, rfl, hE, hb⟩
  replace K1 := Lib.hid (K1.out.go hb)
  replace K2 := Lib.hid (K2.out.go hb)
  replace K3 := Lib.hid (K3.out.go hb)
  replace HL := Lib.hid (HL.out.go hb)
  replace B := B.trans (hb.mono B.size)
  have hzw1 := B.size
  clear hb
  have HE := Lib.hid (hE.mono hz)
  clear hE
  have hmf := hmf9
  go_wp2_with fail
  refine (hasRow_any _ _ _ _ (idxJudge_any w.heap.size (w.heap.size + 1) (k : Int) (t : Int) _ L _ K1.out K2.out HL.out (by omega))).mono ?_
  rintro e w2 ⟨rfl, hb⟩
  replace K3 := Lib.hid (K3.out.go hb)
  replace HE := Lib.hid (HE.out.go hb)
  replace B := B.trans (hb.mono B.size)
  have hzw2 := B.size
  clear hb
  rw [HF.out]
  simp only [Bool.not_true]
  clear hmf HL
  go_wp2_with fail
  have HG := Lib.hid HE.out.2.2
  go_loopw [10, 11, 12, 13, 14, 31] (fun cl _ _ _ _ x wr => ∃ (j : Nat) (ve : Value), j ≤ L.length ∧ x = .int .i64 j ∧ cl = .int .i64 (firstC L j) ∧ Below w.heap.size w wr ∧ IsE wr w.heap.size gs ve k t (Ro.redOf (L.take j)) ∧ Blk wr (w.heap.size + 1 + 1) #[.int .i64 0, .int .i64 0] 30) (fun _ _ _ _ _ x _ => L.length - (intOf x).toNat)
  case atStart => exact ⟨0, _, by omega, rfl, rfl, B, HE.out, K3.out⟩
  case round =>
    clear B HE K1 K2 K3 hz hzw1 hzw2
    obtain ⟨j, ve, hj, rfl, rfl, B, hE, hK⟩ := hrel
    have HE := Lib.hid hE
    have KV := Lib.hid hK
    clear hE hK
    by_cases hjl : j < L.length
    · obtain ⟨b, off, c', er, hbl⟩ := HL0.out.addr (by omega)
      simp only [Value.slice.injEq] at er
      obtain ⟨rfl, -, rfl⟩ := er
      obtain ⟨x0, y0, hx0, hy0, hxb, hyb⟩ := (HL0.out.go B).cells j hjl
      have HX := Lib.hid (HD.out.at hjl)
      have HRT := Lib.hid (Ro.redOf_take L j hjl)
      have HRR := Lib.hid (redOf_red HD.out j hj).1
      have HRL := Lib.hid (Ro.redOf_length L j hj)
      have HFS := Lib.hid (first_succ L j)
      obtain ⟨E, hE⟩ : ∃ E, E = Ro.redOf (L.take j) := ⟨_, rfl⟩
      obtain ⟨r, hr⟩ : ∃ r, r = rwAt L j := ⟨_, rfl⟩
      rw [← hE] at HE HRT HRR HRL HFS
      rw [← hr] at hxb hyb HX HRT HFS
      have HXB := Lib.hid hxb
      have HYB := Lib.hid hyb
      obtain ⟨xa, xc, rfl, _⟩ := hxb
      obtain ⟨ya, yc, rfl, _⟩ := hyb
      have j1 : (j : Int) < (L.length : Int) := by omega
      have j0 : (0 : Int) ≤ (j : Int) := Int.natCast_nonneg _
      have hge := first_ge L j
      obtain ⟨f, hf⟩ : ∃ f, f = firstC L j := ⟨_, rfl⟩
      rw [← hf] at HFS hge ⊢
      clear hr hbl hE hf
      go_wp2_with fail
      obtain ⟨hb, hk, hs⟩ := blocks1 wr #[.slice xa r.1.length xc, .slice ya r.2.length yc] 52
      generalize wr.alloc (.cells #[.slice xa r.1.length xc, .slice ya r.2.length yc] 52) = W5 at *
      have KX := Lib.hid hk
      replace HE := Lib.hid (HE.out.go hb)
      replace KV := Lib.hid (KV.out.go hb)
      replace HXB := Lib.hid (HXB.out.go hb)
      replace HYB := Lib.hid (HYB.out.go hb)
      replace B := B.trans (hb.mono B.size)
      have hzW5 := B.size
      clear hb hk hs
      clear hx0 hy0
      have HBV := Lib.hid B
      refine (eput_any gs w.heap.size k t ve _ E r W5 HE.out ⟨_, _, rfl, HXB.out, HYB.out⟩ HRR.out HX.out (by omega) (by omega) (by have := HRL.out; omega)).mono ?_
      rintro e w9 ⟨ve9, rfl, q1, q2, q3⟩
      replace B := q2.under HBV.out HBV.out.size HG.out HE.out.2.1.from
      replace KV := Lib.hid (HE.out.keeps q2 KV.out (by decide) (by decide))
      replace HE := Lib.hid q1
      rw [← HRT.out] at HE
      clear q1 q2 q3 HBV KX HXB HYB HRT HRR
      obtain ⟨m, hm⟩ : ∃ m, m = putC E r := ⟨_, rfl⟩
      rw [← hm] at HFS ⊢
      clear hm
      by_cases h2 : m = 2
      · by_cases h3 : f < 0
        · have HF2 := Lib.hid (show firstC L (j + 1) = (j : Int) by rw [HFS.out, if_pos ⟨h2, h3⟩])
          clear HFS
          go_wp2_with fail
          go_roundw
          case rel => exact ⟨j + 1, _, by omega, by go_num, by rw [HF2.out], B, HE.out, KV.out⟩
          case measure => simp [intOf]; omega
        · have HF2 := Lib.hid (show firstC L (j + 1) = f by rw [HFS.out, if_neg fun h => h3 h.2])
          clear HFS
          go_wp2_with fail
          go_roundw
          case rel => exact ⟨j + 1, _, by omega, by go_num, by rw [HF2.out], B, HE.out, KV.out⟩
          case measure => simp [intOf]; omega
      · have HF2 := Lib.hid (show firstC L (j + 1) = f by rw [HFS.out, if_neg fun h => h2 h.1])
        have h4 : (m == (2 : Int)) = false := by rw [beq_eq_false_iff_ne]; exact h2
        clear HFS
        go_wp2_with fail
        go_roundw
        case rel => exact ⟨j + 1, _, by omega, by go_num, by rw [HF2.out], B, HE.out, KV.out⟩
        case measure => simp [intOf]; omega
    · obtain rfl : j = L.length := by omega
      rw [List.take_length] at HE
      obtain ⟨f, hf⟩ : ∃ f, f = firstC L L.length := ⟨_, rfl⟩
      rw [← hf]
      have HFF := Lib.hid hf
      clear hf
      go_wp2_with fail
      refine (erank_any gs w.heap.size k t ve (Ro.redOf L) _ HE.out).mono ?_
      rintro e w' ⟨rfl, rfl⟩
      obtain ⟨kv0, kv1⟩ := KV.out.two
      have kvl := KV.out.lt
      obtain ⟨kvf0, kvf1⟩ := KV.out.fre2
      go_wp2_with fail
      obtain ⟨e0, e1, hB, _⟩ := store2 KV.out (by omega) B (fun n e => by cases e) (fun n e => by cases e) (.int .i64 ((Ro.redOf L).length : Int)) (.int .i64 f)
      exact bodyPost_ret (v := .tuple #[.agg #[.int .i64 ((Ro.redOf L).length : Int), .int .i64 f], .int .i64 0]) (by simp [results, Try.results8, go_sem, e0, e1]) rfl ⟨by rw [HFF.out], hB⟩

end Go.Proofs.Ytphdadibfeencaa
