/- Texts of one seat, laid together: ElimG, ElimJ, LawEightC, ElimH. -/
import Derived.Test.YtohfcdgpllghbaaQ32
import Derived.Test.YtohfcdgpllghbaaQ31
import Derived.Test.YtohfcdgpllghbaaQ15
import Derived.Test.YtohfcdgpllghbaaQ23
import Derived.Test.YtohfcdgpllghbaaQ25
import Derived.Test.YtohfcdgpllghbaaQ20

/-
  Systems of equations in the program (layer 8): 'Put'.
-/
set_option maxRecDepth 100000
namespace Go.Proofs.Ytohfcdgpllghbaa
open Go.RowKit

/-- What comes of an equation. -/
def putC (E : List Rw) (x : Rw) : Int := if zeroB (Ro.rest E x).1 = false then 0 else if zeroB (Ro.rest E x).2 = true then 1 else 2
def PutE (w : World) (B0 g k t : Nat) (v : Value) (E : List Rw) (x : Rw) (e : Ending) (w' : World) : Prop := ∃ v', e = .returned (.tuple #[.int .i64 (putC E x), I64 0]) ∧ IsE w' B0 g v' k t (Ro.take1 E x) ∧ Past w w' g v ∧ Near w v v'

theorem eput_nil (u : Value) (p q : List Nat) (w : World) (hu : IsRow w u p q) :
    Calls Try.prog 35 #[.pointer none, u] w fun e w' => e = .returned (.tuple #[.int .i64 0, I64 1]) ∧ Below w.heap.size w w' := by
  obtain ⟨v0, d0, rfl, hp, hq⟩ := hu
  have HP := Lib.hid hp
  have HQ := Lib.hid hq
  obtain ⟨a0, c0, rfl, _⟩ := hp
  obtain ⟨a1, c1, rfl, _⟩ := hq
  go_enter Try.func35, Try.ntmps35
  go_wp2_with fail
  obtain ⟨B, hk1, hs⟩ := blocks1 w #[.slice a0 p.length c0, .slice a1 q.length c1] 61
  generalize (w.alloc (.cells #[.slice a0 p.length c0, .slice a1 q.length c1] 61)) = W at *
  have K1 := Lib.hid hk1
  have HS := Lib.hid hs
  clear hs hk1
  replace HP := Lib.hid (HP.out.go B)
  replace HQ := Lib.hid (HQ.out.go B)
  have hzW := B.size
  refine (erest_nil _ p q _ ⟨_, _, rfl, HP.out, HQ.out⟩).mono ?_
  rintro e w1 ⟨u1, rfl, hu1, hb⟩
  replace B := B.trans (hb.mono B.size)
  have hzw1 := B.size
  clear hb
  obtain ⟨ya, yc, za, zc, rfl⟩ := hu1.shape
  go_wp2_with fail
  go_ret2
  exact ⟨rfl, B.alloc B.size _⟩
theorem eput_size (g B0 k t : Nat) (v u : Value) (E : List Rw) (p q : List Nat) (w : World) (hE : IsE w B0 g v k t E) (hu : IsRow w u p q) (h : p.length ≠ k ∨ (p.length = k ∧ q.length ≠ t)) :
    Calls Try.prog 35 #[.pointer (some ⟨g, 0, none⟩), u] w fun e w' => e = .returned (.tuple #[.int .i64 0, I64 4]) ∧ Below w.heap.size w w' := by
  obtain ⟨v0, d0, rfl, hp, hq⟩ := hu
  have HP := Lib.hid hp
  have HQ := Lib.hid hq
  obtain ⟨a0, c0, rfl, _⟩ := hp
  obtain ⟨a1, c1, rfl, _⟩ := hq
  have HE := Lib.hid hE
  have HH := Lib.hid h
  clear hE h
  go_enter Try.func35, Try.ntmps35
  go_wp2_with fail
  obtain ⟨B, hk1, hs⟩ := blocks1 w #[.slice a0 p.length c0, .slice a1 q.length c1] 61
  generalize (w.alloc (.cells #[.slice a0 p.length c0, .slice a1 q.length c1] 61)) = W at *
  have K1 := Lib.hid hk1
  have HS := Lib.hid hs
  clear hs hk1
  replace HP := Lib.hid (HP.out.go B)
  replace HQ := Lib.hid (HQ.out.go B)
  replace HE := Lib.hid (HE.out.go B)
  have hzW := B.size
  refine (erest_size g B0 k t _ _ E p q _ HE.out ⟨_, _, rfl, HP.out, HQ.out⟩ HH.out).mono ?_
  rintro e w1 ⟨u1, rfl, hu1, hb⟩
  replace B := B.trans (hb.mono B.size)
  have hzw1 := B.size
  clear hb
  obtain ⟨ya, yc, za, zc, rfl⟩ := hu1.shape
  go_wp2_with fail
  go_ret2
  exact ⟨rfl, B.alloc B.size _⟩

set_option maxHeartbeats 2000000 in
theorem eput_any (g B0 k t : Nat) (v u : Value) (E : List Rw) (x : Rw) (w : World) (hE : IsE w B0 g v k t E) (hu : IsRow w u x.1 x.2) (hR : RedR k t E) (hx : Ro.Dim k t x) (hk : k ≤ 10000000) (ht : t ≤ 10000000) (hlen : E.length ≤ 1000000) :
    Calls Try.prog 35 #[.pointer (some ⟨g, 0, none⟩), u] w (PutE w B0 g k t v E x) := by
  obtain ⟨v0, d0, rfl, hp, hq⟩ := hu
  have HP := Lib.hid hp
  have HQ := Lib.hid hq
  obtain ⟨a0, c0, rfl, _⟩ := hp
  obtain ⟨a1, c1, rfl, _⟩ := hq
  have HE := Lib.hid hE
  have HX := Lib.hid hx
  have HR := Lib.hid hR
  obtain ⟨y, hy⟩ : ∃ y, y = Ro.rest E x := ⟨_, rfl⟩
  have HY := Lib.hid hy
  have HYD := Lib.hid (show Ro.Dim k t y by rw [hy]; exact Ro.rest_dim hR.up.dims hx)
  have l1 : y.1.length ≤ 10000000 := by have := HYD.out.1; omega
  have l2 : y.2.length ≤ 10000000 := by have := HYD.out.2.1; omega
  cases hz : zeroB y.1 with
  | false =>
    have HZ := Lib.hid hz
    have HN := Lib.hid (show Newr k t E (Ro.norm y) by rw [hy]; exact newr_rest hR hx (by rw [← hy]; exact hz))
    have HT := Lib.hid (show Ro.take1 E x = Ro.put (Ro.clean E (Ro.norm y)) (Ro.norm y) by unfold Ro.take1; rw [← hy, if_neg (by rw [hz]; simp)])
    have HC := Lib.hid (show putC E x = 0 by unfold putC; rw [← hy, if_pos hz])
    clear hz hy hE hx hR
    unfold PutE
    rw [HC.out]
    go_enter Try.func35, Try.ntmps35
    go_wp2_with fail
    obtain ⟨B, hk1, hs⟩ := blocks1 w #[.slice a0 x.1.length c0, .slice a1 x.2.length c1] 61
    generalize (w.alloc (.cells #[.slice a0 x.1.length c0, .slice a1 x.2.length c1] 61)) = W at *
    have K1 := Lib.hid hk1
    have HS := Lib.hid hs
    clear hs hk1
    replace HP := Lib.hid (HP.out.go B)
    replace HQ := Lib.hid (HQ.out.go B)
    replace HE := Lib.hid (HE.out.go B)
    have hzW := B.size
    refine (erest_any g B0 k t _ _ E x _ HE.out ⟨_, _, rfl, HP.out, HQ.out⟩ HX.out HR.out.up.dims HR.out.up.leads hk ht hlen).mono ?_
    rintro e w1 ⟨u1, rfl, hu1, hb⟩
    replace HE := Lib.hid (HE.out.go hb)
    replace B := B.trans (hb.mono B.size)
    have hzw1 := B.size
    clear hb
    rw [← HY.out] at hu1
    obtain ⟨_, _, rfl, hp1, hq1⟩ := hu1
    have HP1 := Lib.hid hp1
    have HQ1 := Lib.hid hq1
    obtain ⟨a2, c2, rfl, _⟩ := hp1
    obtain ⟨a3, c3, rfl, _⟩ := hq1
    go_wp2_with fail
    obtain ⟨hb, hk, hs⟩ := blocks1 w1 #[.slice a2 y.1.length c2, .slice a3 y.2.length c3] 61
    generalize w1.alloc (.cells #[.slice a2 y.1.length c2, .slice a3 y.2.length c3] 61) = W2 at *
    have K2 := Lib.hid hk
    replace HE := Lib.hid (HE.out.go hb)
    replace HP1 := Lib.hid (HP1.out.go hb)
    replace HQ1 := Lib.hid (HQ1.out.go hb)
    replace B := B.trans (hb.mono B.size)
    have hzW2 := B.size
    clear hb hk hs
    refine (vzero_any _ y.1 _ HP1.out).mono ?_
    rintro e w' ⟨rfl, rfl⟩
    rw [HZ.out]
    obtain ⟨k20, k21⟩ := K2.out.two
    have k2l := K2.out.lt
    go_wp2_with fail
    refine (norm_any _ y.1 y.2 _ ⟨_, _, rfl, HP1.out, HQ1.out⟩ l1 l2).mono ?_
    rintro e w3 ⟨u3, rfl, hu3, hb⟩
    replace HE := Lib.hid (HE.out.go hb)
    replace B := B.trans (hb.mono B.size)
    have hzw3 := B.size
    clear hb
    go_wp2_with fail
    refine (grow_any g B0 k t v u3 E (Ro.norm y) w3 HE.out hu3 HR.out HN.out hk ht hlen).mono ?_
    rintro e w4 ⟨v4, rfl, q1, q2, q3⟩
    have HQ1' := Lib.hid q1
    have HQ2' := Lib.hid ((Past.of_below g v B).trans q2)
    have HQ3' := Lib.hid (Near.trans (Near.same w rfl) q3 B.size)
    clear q1 q2 q3
    go_wp2_with fail
    go_ret2
    exact ⟨v4, rfl, by rw [HT.out]; exact HQ1'.out, HQ2'.out, HQ3'.out⟩
  | true =>
    have HZ := Lib.hid hz
    have HT := Lib.hid (show Ro.take1 E x = E by unfold Ro.take1; rw [← hy, if_pos hz])
    cases hz2 : zeroB y.2 with
    | true =>
      have HZ2 := Lib.hid hz2
      have HC := Lib.hid (show putC E x = 1 by unfold putC; rw [← hy, if_neg (by rw [hz]; simp), if_pos hz2])
      clear hz hz2 hy hE hx hR
      unfold PutE
      rw [HC.out, HT.out]
      go_enter Try.func35, Try.ntmps35
      go_wp2_with fail
      obtain ⟨B, hk1, hs⟩ := blocks1 w #[.slice a0 x.1.length c0, .slice a1 x.2.length c1] 61
      generalize (w.alloc (.cells #[.slice a0 x.1.length c0, .slice a1 x.2.length c1] 61)) = W at *
      have K1 := Lib.hid hk1
      have HS := Lib.hid hs
      clear hs hk1
      replace HP := Lib.hid (HP.out.go B)
      replace HQ := Lib.hid (HQ.out.go B)
      replace HE := Lib.hid (HE.out.go B)
      have hzW := B.size
      refine (erest_any g B0 k t _ _ E x _ HE.out ⟨_, _, rfl, HP.out, HQ.out⟩ HX.out HR.out.up.dims HR.out.up.leads hk ht hlen).mono ?_
      rintro e w1 ⟨u1, rfl, hu1, hb⟩
      replace HE := Lib.hid (HE.out.go hb)
      replace B := B.trans (hb.mono B.size)
      have hzw1 := B.size
      clear hb
      rw [← HY.out] at hu1
      obtain ⟨_, _, rfl, hp1, hq1⟩ := hu1
      have HP1 := Lib.hid hp1
      have HQ1 := Lib.hid hq1
      obtain ⟨a2, c2, rfl, _⟩ := hp1
      obtain ⟨a3, c3, rfl, _⟩ := hq1
      go_wp2_with fail
      obtain ⟨hb, hk, hs⟩ := blocks1 w1 #[.slice a2 y.1.length c2, .slice a3 y.2.length c3] 61
      generalize w1.alloc (.cells #[.slice a2 y.1.length c2, .slice a3 y.2.length c3] 61) = W2 at *
      have K2 := Lib.hid hk
      replace HE := Lib.hid (HE.out.go hb)
      replace HP1 := Lib.hid (HP1.out.go hb)
      replace HQ1 := Lib.hid (HQ1.out.go hb)
      replace B := B.trans (hb.mono B.size)
      have hzW2 := B.size
      clear hb hk hs
      refine (vzero_any _ y.1 _ HP1.out).mono ?_
      rintro e w' ⟨rfl, rfl⟩
      rw [HZ.out]
      obtain ⟨k20, k21⟩ := K2.out.two
      have k2l := K2.out.lt
      go_wp2_with fail
      refine (vzero_any _ y.2 _ HQ1.out).mono ?_
      rintro e w' ⟨rfl, rfl⟩
      rw [HZ2.out]
      go_wp2_with fail
      go_ret2
      exact ⟨v, rfl, HE.out, Past.of_below _ _ B, Near.same _ rfl⟩
    | false =>
      have HZ2 := Lib.hid hz2
      have HC := Lib.hid (show putC E x = 2 by unfold putC; rw [← hy, if_neg (by rw [hz]; simp), if_neg (by rw [hz2]; simp)])
      clear hz hz2 hy hE hx hR
      unfold PutE
      rw [HC.out, HT.out]
      go_enter Try.func35, Try.ntmps35
      go_wp2_with fail
      obtain ⟨B, hk1, hs⟩ := blocks1 w #[.slice a0 x.1.length c0, .slice a1 x.2.length c1] 61
      generalize (w.alloc (.cells #[.slice a0 x.1.length c0, .slice a1 x.2.length c1] 61)) = W at *
      have K1 := Lib.hid hk1
      have HS := Lib.hid hs
      clear hs hk1
      replace HP := Lib.hid (HP.out.go B)
      replace HQ := Lib.hid (HQ.out.go B)
      replace HE := Lib.hid (HE.out.go B)
      have hzW := B.size
      refine (erest_any g B0 k t _ _ E x _ HE.out ⟨_, _, rfl, HP.out, HQ.out⟩ HX.out HR.out.up.dims HR.out.up.leads hk ht hlen).mono ?_
      rintro e w1 ⟨u1, rfl, hu1, hb⟩
      replace HE := Lib.hid (HE.out.go hb)
      replace B := B.trans (hb.mono B.size)
      have hzw1 := B.size
      clear hb
      rw [← HY.out] at hu1
      obtain ⟨_, _, rfl, hp1, hq1⟩ := hu1
      have HP1 := Lib.hid hp1
      have HQ1 := Lib.hid hq1
      obtain ⟨a2, c2, rfl, _⟩ := hp1
      obtain ⟨a3, c3, rfl, _⟩ := hq1
      go_wp2_with fail
      obtain ⟨hb, hk, hs⟩ := blocks1 w1 #[.slice a2 y.1.length c2, .slice a3 y.2.length c3] 61
      generalize w1.alloc (.cells #[.slice a2 y.1.length c2, .slice a3 y.2.length c3] 61) = W2 at *
      have K2 := Lib.hid hk
      replace HE := Lib.hid (HE.out.go hb)
      replace HP1 := Lib.hid (HP1.out.go hb)
      replace HQ1 := Lib.hid (HQ1.out.go hb)
      replace B := B.trans (hb.mono B.size)
      have hzW2 := B.size
      clear hb hk hs
      refine (vzero_any _ y.1 _ HP1.out).mono ?_
      rintro e w' ⟨rfl, rfl⟩
      rw [HZ.out]
      obtain ⟨k20, k21⟩ := K2.out.two
      have k2l := K2.out.lt
      go_wp2_with fail
      refine (vzero_any _ y.2 _ HQ1.out).mono ?_
      rintro e w' ⟨rfl, rfl⟩
      rw [HZ2.out]
      go_wp2_with fail
      go_ret2
      exact ⟨v, rfl, HE.out, Past.of_below _ _ B, Near.same _ rfl⟩

end Go.Proofs.Ytohfcdgpllghbaa

/-
  Systems of equations in the program (layer 8): 'Known'.
-/
set_option maxRecDepth 100000
namespace Go.Proofs.Ytohfcdgpllghbaa
open Go.RowKit

/-- One byte alone isn't 0: nothing is behind where it leads. -/
theorem nz_one : ∀ l : List Nat, lead l < l.length → (Ro.nz l = 1 ↔ zeroB (l.drop (lead l + 1)) = true)
  | [], h => absurd h (Nat.not_lt_zero _)
  | x :: l, h => by
    unfold lead at h ⊢
    by_cases hx : x = 0
    · rw [if_pos hx] at h ⊢
      subst hx
      have h' : lead l < l.length := by simpa using h
      have := nz_one l h'
      rw [List.drop_succ_cons, ← this]
      unfold Ro.nz
      rw [List.countP_cons_of_neg (by simp)]
    · rw [if_neg hx]
      rw [List.drop_succ_cons, List.drop_zero]
      unfold Ro.nz zeroB
      rw [List.countP_cons_of_pos (by simpa using hx), List.all_eq_true]
      constructor
      · intro h y hy
        have h0 : List.countP (fun x => x != 0) l = 0 := by omega
        have := List.countP_eq_zero.1 h0 y hy
        simpa using this
      · intro h
        have : List.countP (fun x => x != 0) l = 0 := List.countP_eq_zero.2 fun y hy => by simpa using h y hy
        omega
theorem rise_at {k t : Nat} {E : List Rw} (h : Ro.Up k t E) {i j : Nat} (hij : i < j) (hj : j < E.length) : lead (rwAt E i).1 < lead (rwAt E j).1 := by
  rw [rwAt_eq _ _ (by omega), rwAt_eq _ _ hj]
  exact List.pairwise_iff_getElem.1 h.rise i j (by omega) hj hij
theorem leadI_of {l : List Nat} (h : lead l < l.length) : leadI l = (lead l : Int) := if_pos h
theorem known_no {k t : Nat} {E : List Rw} (hU : Ro.Up k t E) {i : Int} (h : ∀ j, j < E.length → (lead (rwAt E j).1 : Int) ≠ i) : Ro.knownR E i = none :=
  Ro.known_none fun j hj => by
    unfold Ro.tells
    rw [leadI_of (hU.leads.at hj), show ((lead (rwAt E j).1 : Int) == i) = false from beq_eq_false_iff_ne.2 (h j hj), Bool.and_false]
theorem known_yes {k t : Nat} {E : List Rw} (hU : Ro.Up k t E) {j : Nat} (hj : j < E.length) (h : zeroB ((rwAt E j).1.drop (lead (rwAt E j).1 + 1)) = true) : Ro.knownR E (lead (rwAt E j).1 : Int) = some (rwAt E j) :=
  Ro.known_some hj (fun m hm => by
    unfold Ro.tells
    rw [leadI_of (hU.leads.at (show m < E.length by omega)), show ((lead (rwAt E m).1 : Int) == (lead (rwAt E j).1 : Int)) = false from beq_eq_false_iff_ne.2 (by have := rise_at hU hm hj; omega), Bool.and_false]) (by
    unfold Ro.tells
    rw [leadI_of (hU.leads.at hj), (nz_one _ (hU.leads.at hj)).2 h]; simp)
theorem known_more {k t : Nat} {E : List Rw} (hU : Ro.Up k t E) {j : Nat} (hj : j < E.length) (h : zeroB ((rwAt E j).1.drop (lead (rwAt E j).1 + 1)) = false) : Ro.knownR E (lead (rwAt E j).1 : Int) = none :=
  Ro.known_none fun m hm => by
    unfold Ro.tells
    by_cases e : m = j
    · subst e
      rw [show (Ro.nz (rwAt E m).1 == 1) = false from beq_eq_false_iff_ne.2 fun e => by rw [(nz_one _ (hU.leads.at hj)).1 e] at h; cases h]; rfl
    · rw [leadI_of (hU.leads.at hm), show ((lead (rwAt E m).1 : Int) == (lead (rwAt E j).1 : Int)) = false from beq_eq_false_iff_ne.2 (by
        rcases Nat.lt_or_gt_of_ne e with h1 | h1
        · have := rise_at hU h1 hj; omega
        · have := rise_at hU h1 hm; omega), Bool.and_false]
/-- Found by looking from both sides, and not there: nowhere. -/
theorem known_gap {k t : Nat} {E : List Rw} (hU : Ro.Up k t E) {i : Int} {r : Nat} (hr : r ≤ E.length) (h0 : 0 < r → ¬ i ≤ (lead (rwAt E (r - 1)).1 : Int)) (h1 : r < E.length → i ≤ (lead (rwAt E r).1 : Int)) (h2 : r < E.length → (lead (rwAt E r).1 : Int) ≠ i) : Ro.knownR E i = none :=
  known_no hU fun j hj => by
    by_cases e : j < r
    · have a := h0 (by omega)
      rcases Nat.lt_or_ge j (r - 1) with e1 | e1
      · have := rise_at hU e1 (show r - 1 < E.length by omega); omega
      · have e2 : j = r - 1 := by omega
        subst e2; omega
    · have hr : r < E.length := by omega
      have a := h1 hr
      have b := h2 hr
      rcases Nat.lt_or_ge r j with e1 | e1
      · have := rise_at hU e1 hj; omega
      · have e2 : j = r := by omega
        subst e2; exact b
theorem knownV_none {E : List Rw} {i : Int} (h : Ro.knownR E i = none) : Ro.knownV E i = [] ∧ Ro.knownB E i = false := by
  unfold Ro.knownV Ro.knownB; rw [h]; exact ⟨rfl, rfl⟩
theorem knownV_some {E : List Rw} {i : Int} {r : Rw} (h : Ro.knownR E i = some r) : Ro.knownV E i = r.2 ∧ Ro.knownB E i = true := by
  unfold Ro.knownV Ro.knownB; rw [h]; exact ⟨rfl, rfl⟩

theorem eknown_nil (i : Int) (w : World) :
    Calls Try.prog 42 #[.pointer none, .int .i64 i] w fun e w' => e = .returned (.tuple #[.slice none 0 0, .bool false]) ∧ Below w.heap.size w w' := by
  go_enter Try.func42, Try.ntmps42
  go_wp2_with fail
  go_ret2
  exact ⟨rfl, Below.refl _ _⟩
def KnownV (w : World) (E : List Rw) (i : Int) (e : Ending) (w' : World) : Prop := ∃ u, e = .returned (.tuple #[u, .bool (Ro.knownB E i)]) ∧ Bytes w' u (Ro.knownV E i) ∧ Below w.heap.size w w'

set_option maxHeartbeats 2000000 in
theorem eknown_any (g B0 k t : Nat) (v : Value) (E : List Rw) (i : Int) (w : World) (hE : IsE w B0 g v k t E) (hU : Ro.Up k t E) (hk : k ≤ 10000000) (ht : t ≤ 10000000) (hlen : E.length ≤ 1000000) :
    Calls Try.prog 42 #[.pointer (some ⟨g, 0, none⟩), .int .i64 i] w (KnownV w E i) := by
  have HE := Lib.hid hE
  have HU := Lib.hid hU
  obtain ⟨va, vc, rfl⟩ := hE.2.1.shape
  unfold KnownV
  clear hE hU
  go_enter Try.func42, Try.ntmps42
  go_wp2_with fail
  have B : Below w.heap.size w w := Below.refl _ _
  refine (place_any g B0 k t _ E i _ HE.out hlen).mono ?_
  rintro e w1 ⟨r, rfl, ⟨hr, h0, h1⟩, hb⟩
  replace HE := Lib.hid (HE.out.go hb)
  replace B := B.trans (hb.mono B.size)
  have hzw1 := B.size
  clear hb
  have H0 := Lib.hid h0
  have H1 := Lib.hid h1
  clear h0 h1
  have k2 : w1.cell? ⟨g, 2, none⟩ = some (.slice va E.length vc) := HE.out.c2
  have kl := HE.out.1.lt
  by_cases hrl : r < E.length
  · obtain ⟨b, c', er, hBg, hgl⟩ := HE.out.2.1.addr (by omega)
    simp only [Value.slice.injEq] at er
    obtain ⟨rfl, -, rfl⟩ := er
    obtain ⟨ra, rc, sa, sc, hr0, hr1, hr2, hrb, hsb⟩ := HE.out.2.1.cells r hrl
    have HRB := Lib.hid hrb
    have HSB := Lib.hid hsb
    have hq : ((r : Int) == (E.length : Int)) = false := beq_eq_false_iff_ne.2 (by omega)
    have j1 : (r : Int) < (E.length : Int) := by omega
    have j0 : (0 : Int) ≤ (r : Int) := Int.natCast_nonneg _
    clear hrb hsb
    by_cases hld : (lead (rwAt E r).1 : Int) = i
    · subst hld
      have hqi : ((lead (rwAt E r).1 : Int) != (lead (rwAt E r).1 : Int)) = false := by simp
      have HD := Lib.hid (HU.out.dims.at hrl)
      have HLD := Lib.hid (HU.out.leads.at hrl)
      have hll := HLD.out
      have hdl : (rwAt E r).1.length ≤ 10000000 := by have := HD.out.1; omega
      have htl : (rwAt E r).2.length ≤ 1000000000 := by have := HD.out.2.1; omega
      obtain ⟨ub, uo, rfl, hrc1, hrc2⟩ : ∃ ub uo, ra = some ⟨ub, uo, none⟩ ∧ (rwAt E r).1.length ≤ rc ∧ rc ≤ 9223372036854775807 := by
        obtain ⟨a9, c9, e9, q1, q2, _, q4⟩ := HRB.out
        obtain ⟨ub, uo, e10, _⟩ := q4 (by intro e; rw [e] at hll; simp at hll)
        simp only [Value.slice.injEq] at e9
        obtain ⟨rfl, -, rfl⟩ := e9
        exact ⟨ub, uo, e10, q1, q2⟩
      have i2 : (lead (rwAt E r).1 : Int) + 1 ≤ ((rwAt E r).1.length : Int) := by omega
      have i3 : ((rwAt E r).1.length : Int) ≤ (rc : Int) := by omega
      have i4 : lead (rwAt E r).1 + 1 ≤ (rwAt E r).1.length := by omega
      have HI4 := Lib.hid i4
      have HRC1 := Lib.hid hrc1
      have HRC2 := Lib.hid hrc2
      have HTL := Lib.hid htl
      have HRL := Lib.hid hrl
      have i0 : (0 : Int) ≤ (lead (rwAt E r).1 : Int) := Int.natCast_nonneg _
      cases hz : zeroB ((rwAt E r).1.drop (lead (rwAt E r).1 + 1)) with
      | true =>
        have HK := Lib.hid (knownV_some (known_yes HU.out hrl hz))
        have HZ := Lib.hid hz
        clear hz
        by_cases huc : rc = lead (rwAt E r).1 + 1
        rotate_left
        · have hnn := huc
          have HUQ := Lib.hid huc
          go_wp2_with fail
          obtain ⟨hb, hk, hs⟩ := blocks1 w1 #[.slice (some ⟨ub, uo, none⟩) (rwAt E r).1.length (rc), .slice sa (rwAt E r).2.length sc, .int .i64 (lead (rwAt E r).1 : Int)] 106
          generalize w1.alloc (.cells #[.slice (some ⟨ub, uo, none⟩) (rwAt E r).1.length (rc), .slice sa (rwAt E r).2.length sc, .int .i64 (lead (rwAt E r).1 : Int)] 106) = W6 at *
          have K6 := Lib.hid hk
          replace HE := Lib.hid (HE.out.go hb)
          replace HRB := Lib.hid (HRB.out.go hb)
          replace HSB := Lib.hid (HSB.out.go hb)
          replace B := B.trans (hb.mono B.size)
          have hzW6 := B.size
          clear hb hk hs
          clear hr0 hr1 hr2 k2 kl
          have k60 := K6.out.cell 0
          have k61 := K6.out.cell 1
          have k6l := K6.out.lt
          go_wp2_with fail
          refine Calls.mono (vzero_any _ ((rwAt E r).1.drop (lead (rwAt E r).1 + 1)) _ (HRB.out.drop HI4.out _ (by intro h; first | rfl | (exact absurd h (by have := HUQ.out; have := HRC1.out; omega))) _ _ (by have := HUQ.out; have := HRC1.out; have := HI4.out; omega) (by have := HUQ.out; have := HRC1.out; omega) (by have := HRC2.out; omega))) ?_
          rintro e w' ⟨rfl, rfl⟩
          rw [HZ.out]
          go_wp2_with fail
          refine (clone_any _ (rwAt E r).2 _ HTL.out HSB.out).mono ?_
          rintro e w7 ⟨u7, rfl, hu7, hb⟩
          replace B := B.trans (hb.mono B.size)
          have hzw7 := B.size
          clear hb
          have HVB := Lib.hid hu7
          obtain ⟨ua, uc, rfl, _⟩ := hu7
          go_wp2_with fail
          go_ret2
          rw [HK.out.1, HK.out.2]
          exact ⟨_, rfl, HVB.out, B⟩
        · subst huc
          have huc : True := trivial
          have HUQ := Lib.hid huc
          go_wp2_with fail
          obtain ⟨hb, hk, hs⟩ := blocks1 w1 #[.slice (some ⟨ub, uo, none⟩) (rwAt E r).1.length (lead (rwAt E r).1 + 1), .slice sa (rwAt E r).2.length sc, .int .i64 (lead (rwAt E r).1 : Int)] 106
          generalize w1.alloc (.cells #[.slice (some ⟨ub, uo, none⟩) (rwAt E r).1.length (lead (rwAt E r).1 + 1), .slice sa (rwAt E r).2.length sc, .int .i64 (lead (rwAt E r).1 : Int)] 106) = W6 at *
          have K6 := Lib.hid hk
          replace HE := Lib.hid (HE.out.go hb)
          replace HRB := Lib.hid (HRB.out.go hb)
          replace HSB := Lib.hid (HSB.out.go hb)
          replace B := B.trans (hb.mono B.size)
          have hzW6 := B.size
          clear hb hk hs
          clear hr0 hr1 hr2 k2 kl
          have k60 := K6.out.cell 0
          have k61 := K6.out.cell 1
          have k6l := K6.out.lt
          go_wp2_with fail
          refine Calls.mono (vzero_any _ ((rwAt E r).1.drop (lead (rwAt E r).1 + 1)) _ (HRB.out.drop HI4.out _ (by intro h; first | rfl | (exact absurd h (by have := HUQ.out; have := HRC1.out; omega))) _ _ (by have := HUQ.out; have := HRC1.out; have := HI4.out; omega) (by have := HUQ.out; have := HRC1.out; omega) (by have := HRC2.out; omega))) ?_
          rintro e w' ⟨rfl, rfl⟩
          rw [HZ.out]
          go_wp2_with fail
          refine (clone_any _ (rwAt E r).2 _ HTL.out HSB.out).mono ?_
          rintro e w7 ⟨u7, rfl, hu7, hb⟩
          replace B := B.trans (hb.mono B.size)
          have hzw7 := B.size
          clear hb
          have HVB := Lib.hid hu7
          obtain ⟨ua, uc, rfl, _⟩ := hu7
          go_wp2_with fail
          go_ret2
          rw [HK.out.1, HK.out.2]
          exact ⟨_, rfl, HVB.out, B⟩
      | false =>
        have HK := Lib.hid (knownV_none (known_more HU.out hrl hz))
        have HZ := Lib.hid hz
        clear hz
        by_cases huc : rc = lead (rwAt E r).1 + 1
        rotate_left
        · have hnn := huc
          have HUQ := Lib.hid huc
          go_wp2_with fail
          obtain ⟨hb, hk, hs⟩ := blocks1 w1 #[.slice (some ⟨ub, uo, none⟩) (rwAt E r).1.length (rc), .slice sa (rwAt E r).2.length sc, .int .i64 (lead (rwAt E r).1 : Int)] 106
          generalize w1.alloc (.cells #[.slice (some ⟨ub, uo, none⟩) (rwAt E r).1.length (rc), .slice sa (rwAt E r).2.length sc, .int .i64 (lead (rwAt E r).1 : Int)] 106) = W6 at *
          have K6 := Lib.hid hk
          replace HE := Lib.hid (HE.out.go hb)
          replace HRB := Lib.hid (HRB.out.go hb)
          replace HSB := Lib.hid (HSB.out.go hb)
          replace B := B.trans (hb.mono B.size)
          have hzW6 := B.size
          clear hb hk hs
          clear hr0 hr1 hr2 k2 kl
          have k60 := K6.out.cell 0
          have k61 := K6.out.cell 1
          have k6l := K6.out.lt
          go_wp2_with fail
          refine Calls.mono (vzero_any _ ((rwAt E r).1.drop (lead (rwAt E r).1 + 1)) _ (HRB.out.drop HI4.out _ (by intro h; first | rfl | (exact absurd h (by have := HUQ.out; have := HRC1.out; omega))) _ _ (by have := HUQ.out; have := HRC1.out; have := HI4.out; omega) (by have := HUQ.out; have := HRC1.out; omega) (by have := HRC2.out; omega))) ?_
          rintro e w' ⟨rfl, rfl⟩
          rw [HZ.out]
          go_wp2_with fail
          go_ret2
          rw [HK.out.1, HK.out.2]
          exact ⟨_, rfl, Bytes.nil _, B⟩
        · subst huc
          have huc : True := trivial
          have HUQ := Lib.hid huc
          go_wp2_with fail
          obtain ⟨hb, hk, hs⟩ := blocks1 w1 #[.slice (some ⟨ub, uo, none⟩) (rwAt E r).1.length (lead (rwAt E r).1 + 1), .slice sa (rwAt E r).2.length sc, .int .i64 (lead (rwAt E r).1 : Int)] 106
          generalize w1.alloc (.cells #[.slice (some ⟨ub, uo, none⟩) (rwAt E r).1.length (lead (rwAt E r).1 + 1), .slice sa (rwAt E r).2.length sc, .int .i64 (lead (rwAt E r).1 : Int)] 106) = W6 at *
          have K6 := Lib.hid hk
          replace HE := Lib.hid (HE.out.go hb)
          replace HRB := Lib.hid (HRB.out.go hb)
          replace HSB := Lib.hid (HSB.out.go hb)
          replace B := B.trans (hb.mono B.size)
          have hzW6 := B.size
          clear hb hk hs
          clear hr0 hr1 hr2 k2 kl
          have k60 := K6.out.cell 0
          have k61 := K6.out.cell 1
          have k6l := K6.out.lt
          go_wp2_with fail
          refine Calls.mono (vzero_any _ ((rwAt E r).1.drop (lead (rwAt E r).1 + 1)) _ (HRB.out.drop HI4.out _ (by intro h; first | rfl | (exact absurd h (by have := HUQ.out; have := HRC1.out; omega))) _ _ (by have := HUQ.out; have := HRC1.out; have := HI4.out; omega) (by have := HUQ.out; have := HRC1.out; omega) (by have := HRC2.out; omega))) ?_
          rintro e w' ⟨rfl, rfl⟩
          rw [HZ.out]
          go_wp2_with fail
          go_ret2
          rw [HK.out.1, HK.out.2]
          exact ⟨_, rfl, Bytes.nil _, B⟩
    · have hqi : ((lead (rwAt E r).1 : Int) != i) = true := by rw [bne_iff_ne]; exact hld
      have HK := Lib.hid (knownV_none (known_gap HU.out hr H0.out H1.out fun _ => hld))
      clear hld
      go_wp2_with fail
      go_ret2
      rw [HK.out.1, HK.out.2]
      exact ⟨_, rfl, Bytes.nil _, B⟩
  · obtain rfl : r = E.length := by omega
    have hq : ((E.length : Int) == (E.length : Int)) = true := by simp
    have HK := Lib.hid (knownV_none (known_gap HU.out (Nat.le_refl _) H0.out H1.out fun h => absurd h (Nat.lt_irrefl _)))
    go_wp2_with fail
    go_ret2
    rw [HK.out.1, HK.out.2]
    exact ⟨_, rfl, Bytes.nil _, B⟩

end Go.Proofs.Ytohfcdgpllghbaa

/-
  The laws of equations (layer 8): the example.
-/
set_option maxRecDepth 100000
namespace Go.Proofs.Ytohfcdgpllghbaa
open Go.RowKit

def eq1 : Rw := ([1, 1], [3])
def eq2 : Rw := ([0, 1], [2])
def sys1 : List Rw := [([1, 1], [3])]
def sys2 : List Rw := [([1, 0], [1]), ([0, 1], [2])]
theorem sys_1 : Ro.take1 [] eq1 = sys1 := by decide +kernel
theorem sys_2 : Ro.take1 sys1 eq2 = sys2 := by decide +kernel
theorem put_1 : putC [] eq1 = 0 := by decide +kernel
theorem put_2 : putC sys1 eq2 = 0 := by decide +kernel
theorem dim_1 : Ro.Dim 2 1 eq1 := ⟨rfl, rfl, by decide, by decide⟩
theorem dim_2 : Ro.Dim 2 1 eq2 := ⟨rfl, rfl, by decide, by decide⟩
theorem red_0 : RedR 2 1 [] := RedR.nil 2 1
theorem red_1 : RedR 2 1 sys1 := by rw [← sys_1]; exact take1_red red_0 dim_1
theorem red_2 : RedR 2 1 sys2 := by rw [← sys_2]; exact take1_red red_1 dim_2
theorem known_0 : Ro.knownB sys2 0 = true ∧ Ro.knownV sys2 0 = [1] := by decide +kernel
theorem known_1 : Ro.knownB sys2 1 = true ∧ Ro.knownV sys2 1 = [2] := by decide +kernel
theorem Blk.bytes1 {W : World} {g : Nat} {x : Int} {T : TypeId} (h : Blk W g #[.int .u8 x] T) (a : Nat) (hx : x = a) (ha : a < 256) : Bytes W (.slice (some ⟨g, 0, none⟩) 1 1) [a] := by
  subst hx
  refine ⟨_, 1, rfl, Nat.le_refl _, by omega, by simp [ha], fun _ => ⟨g, 0, rfl, h.lt, fun i hi => ?_⟩⟩
  rw [Nat.zero_add, h.cell i]
  match i, hi with
  | 0, _ => rfl

set_option maxHeartbeats 4000000 in
theorem awake8_any (w : World) :
    Calls Try.prog 28 #[] w fun e w' => e = .returned (.bool true) ∧ Below w.heap.size w w' := by
  have HNW := Lib.hid (show ∀ w, Calls Try.prog 30 #[.int .i64 2, .int .i64 1] w fun e w' => ∃ g, e = .returned (.tuple #[.pointer (some ⟨g, 0, none⟩), I64 0]) ∧ IsE w' w.heap.size g (.slice none 0 0) 2 1 [] ∧ Below w.heap.size w w' from fun w => enew_yes 2 1 w (by unfold newOk; omega))
  have HNF := Lib.hid (fun (w : World) (g : Nat) => OwnE.from (w := w) (B := g) (OwnE.nil w g))
  go_enter Try.func28, Try.ntmps28
  go_wp2_with fail
  have B : Below w.heap.size w w := Below.refl _ _
  refine (HNW.out _).mono ?_
  rintro e w1 ⟨g, rfl, hE, hb⟩
  replace B := B.trans (hb.mono B.size)
  have hzw1 := B.size
  clear hb
  have HE := Lib.hid hE
  have HG := Lib.hid hE.2.2
  clear hE
  go_wp2_with fail
  have B1 := B
  clear B
  obtain ⟨B, hk1, hk2, hs⟩ := blocks2 w1 #[.int .u8 1, .int .u8 1] 5 #[.int .u8 3] 5
  generalize ((w1.alloc (.cells #[.int .u8 1, .int .u8 1] 5)).alloc (.cells #[.int .u8 3] 5)) = W2 at *
  have K1 := Lib.hid hk1
  have K2 := Lib.hid hk2
  have HS := Lib.hid hs
  clear hs hk1 hk2
  replace HE := Lib.hid (HE.out.go B)
  have hzW2 := B.size
  replace B := B1.trans (B.mono B1.size)
  have HL1 := Lib.hid (K1.out.bytes2 1 1 rfl rfl (by omega) (by omega))
  have HL2 := Lib.hid (K2.out.bytes1 3 rfl (by omega))
  refine (of_any _ _ [1, 1] [3] _ HL1.out HL2.out (by simp) (by simp)).mono ?_
  rintro e w3 ⟨u3, rfl, hu3, hb⟩
  replace HE := Lib.hid (HE.out.go hb)
  replace B := B.trans (hb.mono B.size)
  have hzw3 := B.size
  clear hb
  have U3 := Lib.hid hu3
  clear hu3 HL1 HL2 K1 K2 HS
  go_wp2_with fail
  refine (eput_any g w.heap.size 2 1 _ u3 [] eq1 w3 HE.out U3.out red_0 dim_1 (by omega) (by omega) (by simp)).mono ?_
  rintro e w4 ⟨v4, rfl, q1, q2, q3⟩
  replace B := q2.under B B.size HG.out HE.out.2.1.from
  rw [sys_1] at q1
  rw [put_1]
  replace HE := Lib.hid q1
  have hzw4 := B.size
  clear q1 q2 q3 U3
  go_wp2_with fail
  have B1 := B
  clear B
  obtain ⟨B, hk1, hk2, hs⟩ := blocks2 w4 #[.int .u8 0, .int .u8 1] 5 #[.int .u8 2] 5
  generalize ((w4.alloc (.cells #[.int .u8 0, .int .u8 1] 5)).alloc (.cells #[.int .u8 2] 5)) = W5 at *
  have K1 := Lib.hid hk1
  have K2 := Lib.hid hk2
  have HS := Lib.hid hs
  clear hs hk1 hk2
  replace HE := Lib.hid (HE.out.go B)
  have hzW5 := B.size
  replace B := B1.trans (B.mono B1.size)
  have HL1 := Lib.hid (K1.out.bytes2 0 1 rfl rfl (by omega) (by omega))
  have HL2 := Lib.hid (K2.out.bytes1 2 rfl (by omega))
  refine (of_any _ _ [0, 1] [2] _ HL1.out HL2.out (by simp) (by simp)).mono ?_
  rintro e w6 ⟨u6, rfl, hu6, hb⟩
  replace HE := Lib.hid (HE.out.go hb)
  replace B := B.trans (hb.mono B.size)
  have hzw6 := B.size
  clear hb
  have U6 := Lib.hid hu6
  clear hu6 HL1 HL2 K1 K2 HS
  go_wp2_with fail
  refine (eput_any g w.heap.size 2 1 _ u6 sys1 eq2 w6 HE.out U6.out red_1 dim_2 (by omega) (by omega) (by decide)).mono ?_
  rintro e w7 ⟨v7, rfl, q1, q2, q3⟩
  replace B := q2.under B B.size HG.out HE.out.2.1.from
  rw [sys_2] at q1
  rw [put_2]
  replace HE := Lib.hid q1
  have hzw7 := B.size
  clear q1 q2 q3 U6
  go_wp2_with fail
  refine (eknown_any g w.heap.size 2 1 _ sys2 0 w7 HE.out red_2.up (by omega) (by omega) (by decide)).mono ?_
  rintro e w8 ⟨u8, rfl, hu8, hb⟩
  replace HE := Lib.hid (HE.out.go hb)
  replace B := B.trans (hb.mono B.size)
  have hzw8 := B.size
  clear hb
  rw [known_0.2] at hu8
  rw [known_0.1]
  have U8' := Lib.hid hu8
  clear hu8
  go_wp2_with fail
  refine (eknown_any g w.heap.size 2 1 _ sys2 1 w8 HE.out red_2.up (by omega) (by omega) (by decide)).mono ?_
  rintro e w9 ⟨u9, rfl, hu9, hb⟩
  replace U8' := Lib.hid (U8'.out.go hb)
  replace B := B.trans (hb.mono B.size)
  have hzw9 := B.size
  clear hb
  rw [known_1.2] at hu9
  rw [known_1.1]
  have U9 := Lib.hid hu9
  clear hu9
  go_wp2_with fail
  obtain ⟨hb, hk, hs⟩ := blocks1 w9 #[.int .u8 1] 5
  generalize w9.alloc (.cells #[.int .u8 1] 5) = W10 at *
  have K10 := Lib.hid hk
  replace U8' := Lib.hid (U8'.out.go hb)
  replace U9 := Lib.hid (U9.out.go hb)
  replace B := B.trans (hb.mono B.size)
  have hzW10 := B.size
  clear hb hk hs
  have HL1 := Lib.hid (K10.out.bytes1 1 rfl (by omega))
  refine (same_any _ _ [1] [1] _ U8'.out HL1.out).mono ?_
  rintro e w11 ⟨rfl, hb⟩
  replace U9 := Lib.hid (U9.out.go hb)
  replace B := B.trans (hb.mono B.size)
  have hzw11 := B.size
  clear hb
  go_wp2_with fail
  obtain ⟨hb, hk, hs⟩ := blocks1 w11 #[.int .u8 2] 5
  generalize w11.alloc (.cells #[.int .u8 2] 5) = W12 at *
  have K12 := Lib.hid hk
  replace U9 := Lib.hid (U9.out.go hb)
  replace B := B.trans (hb.mono B.size)
  have hzW12 := B.size
  clear hb hk hs
  have HL2 := Lib.hid (K12.out.bytes1 2 rfl (by omega))
  refine (same_any _ _ [2] [2] _ U9.out HL2.out).mono ?_
  rintro e w13 ⟨rfl, hb⟩
  replace B := B.trans (hb.mono B.size)
  have hzw13 := B.size
  clear hb
  go_wp2_with fail
  go_ret
  exact ⟨by simp, B⟩

end Go.Proofs.Ytohfcdgpllghbaa

/-
  Systems of equations in the program (layer 8): 'Rows'.
-/
set_option maxRecDepth 100000
namespace Go.Proofs.Ytohfcdgpllghbaa
open Go.RowKit

/-- Two lists of other elements lie apart. -/
theorem OwnE.apart {w : World} {B C b : Nat} {T : TypeId} {v : Value} {E L : List Rw} {n c : Nat} (h : OwnE w B v E) (k : OwnL w C T (.slice (some ⟨b, 0, none⟩) n c) L) (hT : 106 ≠ T) : v.ownBlock ≠ some b := by
  obtain ⟨us, ⟨⟨_, h2⟩, _⟩, _⟩ := k
  rcases h2 with ⟨e, _⟩ | ⟨g', cap, cur, e, _, hg, _⟩
  · cases e
  · simp only [Value.slice.injEq, Option.some.injEq, Addr.mk.injEq] at e
    obtain ⟨⟨rfl, _⟩, _⟩ := e
    exact h.ne_box (show Blk w b cur T from hg) hT
theorem IsE.past {w w' : World} {B g b k t : Nat} {v : Value} {E : List Rw} (h : IsE w B g v k t E) (hg : w.grownBy w' (some b)) (hs : Soft w w') (h1 : g ≠ b) (h2 : v.ownBlock ≠ some b) : IsE w' B g v k t E :=
  ⟨h.1.grown hg (by simpa using h1), h.2.1.other hg hs h2, h.2.2⟩
theorem erows_nil (w : World) :
    Calls Try.prog 46 #[.pointer none] w fun e w' => e = .returned (.slice none 0 0) ∧ Below w.heap.size w w' := by
  go_enter Try.func46, Try.ntmps46
  go_wp2_with fail
  go_ret
  exact ⟨rfl, Below.refl _ _⟩
set_option maxHeartbeats 2000000 in
theorem erows_any (g B0 k t : Nat) (v : Value) (E : List Rw) (w : World) (hE : IsE w B0 g v k t E) (hD : Ro.Dims k t E) (hk : k ≤ 10000000) (ht : t ≤ 10000000) (hlen : E.length ≤ 1000000) :
    Calls Try.prog 46 #[.pointer (some ⟨g, 0, none⟩)] w fun e w' => ∃ u, e = .returned u ∧ OwnL w' w.heap.size 61 u E ∧ Below w.heap.size w w' := by
  have HE := Lib.hid hE
  obtain ⟨va, vc, rfl⟩ := hE.2.1.shape
  have HD := Lib.hid hD
  have hmk := make_vrows E.length (by omega)
  have k2 : w.cell? ⟨g, 2, none⟩ = some (.slice va E.length vc) := hE.c2
  have kl := hE.lt
  clear hE hD
  go_enter Try.func46, Try.ntmps46
  go_wp2_with fail
  obtain ⟨B, hk1, hs⟩ := blocks1 w (Array.replicate (E.length * 2) (.slice none 0 0)) 61
  replace HE := Lib.hid (HE.out.go B)
  generalize w.alloc (.cells (Array.replicate (E.length * 2) (.slice none 0 0)) 61) = W2 at *
  obtain ⟨gr, hgr⟩ : ∃ gr : Nat, gr = w.heap.size := ⟨_, rfl⟩
  rw [← hgr] at hk1
  simp only [← hgr]
  have HM := Lib.hid (OwnL.made hk1 (Nat.le_refl gr) (by omega : E.length ≤ 1000000000))
  have HGW := Lib.hid (show w.heap.size ≤ gr by omega)
  clear hk1 hs hmk hgr k2 kl
  go_loopw [4, 5, 19] (fun _ _ i wr => ∃ n : Nat, n ≤ E.length ∧ i = .int .i64 n ∧ Below w.heap.size w wr ∧ IsE wr B0 g (.slice va E.length vc) k t E ∧ OwnL wr gr 61 (whole gr E.length) (fillL E n)) (fun _ _ i _ => E.length - (intOf i).toNat)
  case atStart => exact ⟨0, by omega, rfl, B, HE.out, by rw [fillL_zero]; exact HM.out⟩
  case round =>
    clear B HM HE
    obtain ⟨n, hn, rfl, B, hE, hO⟩ := hrel
    have HE := Lib.hid hE
    have HO := Lib.hid hO
    clear hO hE
    by_cases hlt : n < E.length
    · obtain ⟨g', c', er, hBg, hgl⟩ := HE.out.2.1.addr (by omega)
      simp only [Value.slice.injEq] at er
      obtain ⟨rfl, -, rfl⟩ := er
      obtain ⟨ra, rc, sa, sc, hr0, hr1, hr2, hrb, hsb⟩ := HE.out.2.1.cells n hlt
      have HRB := Lib.hid hrb
      have HSB := Lib.hid hsb
      have HDJ := Lib.hid (HD.out.at hlt)
      have j1 : (n : Int) < (E.length : Int) := by omega
      have j0 : (0 : Int) ≤ (n : Int) := Int.natCast_nonneg _
      clear hrb hsb
      go_wp2_with fail
      obtain ⟨hb, hk, hs⟩ := blocks1 wr #[.slice ra (rwAt E n).1.length rc, .slice sa (rwAt E n).2.length sc, .int .i64 (lead (rwAt E n).1 : Int)] 106
      generalize wr.alloc (.cells #[.slice ra (rwAt E n).1.length rc, .slice sa (rwAt E n).2.length sc, .int .i64 (lead (rwAt E n).1 : Int)] 106) = W6 at *
      have K6 := Lib.hid hk
      replace HE := Lib.hid (HE.out.go hb)
      replace HO := Lib.hid (HO.out.go hb)
      replace HRB := Lib.hid (HRB.out.go hb)
      replace HSB := Lib.hid (HSB.out.go hb)
      replace B := B.trans (hb.mono B.size)
      have hzW6 := B.size
      clear hb hk hs
      clear hr0 hr1 hr2
      refine (rowclone_any _ (rwAt E n).1 (rwAt E n).2 _ ⟨_, _, rfl, HRB.out, HSB.out⟩ (by have := HDJ.out.1; omega) (by have := HDJ.out.2.1; omega)).mono ?_
      rintro e w7 ⟨u7, rfl, hu7, hb⟩
      replace HE := Lib.hid (HE.out.go hb)
      replace HO := Lib.hid (HO.out.go hb)
      replace B := B.trans (hb.mono B.size)
      have hzw7 := B.size
      clear hb
      obtain ⟨_, _, rfl, hub, hvb⟩ := hu7
      have HUB := Lib.hid hub
      have HVB := Lib.hid hvb
      obtain ⟨ua, uc, rfl, _⟩ := hub
      obtain ⟨ua2, uc2, rfl, _⟩ := hvb
      have HK := Lib.hid (show n < (fillL E n).length by rw [fillL_length hn]; exact hlt)
      have HS := Lib.hid (fillL_set (R := E) (k := n) hlt)
      obtain ⟨b1, d1, b2, d2, e0, e1, _, _⟩ := HO.out.cells n HK.out
      have f0 := HO.out.free (n * 2)
      have f1 := HO.out.free (n * 2 + 1)
      go_wp2_with fail
      obtain ⟨o1, s1, g1⟩ := HO.out.set n HK.out (r := rwAt E n) HUB.out HVB.out
      rw [HS.out] at o1
      have HO1 := Lib.hid o1
      have HE1 := Lib.hid (HE.out.past g1 s1 (fun e => HO.out.ne_box HE.out.1 (by decide) (by rw [← e]; rfl)) (OwnE.apart HE.out.2.1 HO.out (by decide)))
      have HB1 := Lib.hid (below_grown B g1 B.size HGW.out)
      clear o1 s1 g1
      go_roundw
      case rel => exact ⟨n + 1, by omega, by go_num, HB1.out, HE1.out, HO1.out⟩
      case measure => simp [intOf]; omega
    · obtain rfl : n = E.length := by omega
      rw [fillL_all] at HO
      go_wp2_with fail
      go_ret
      exact ⟨_, rfl, HO.out.mono HGW.out, B⟩

end Go.Proofs.Ytohfcdgpllghbaa
