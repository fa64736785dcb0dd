/- Texts of one seat, laid together: PlanA, PlanB, PlanC. -/
import Derived.Test.YtgoelfaemclioaaDoorPlanBackQ1
import Derived.Test.YtgoelfaemclioaaDoorPlanBackQ2
import Derived.Deep.DeepCutAuto
import Derived.Test.YtgoelfaemclioaaDoorPlanBackQ3

/-
  Plans in the program (layer 10): 'need', 'Check'.
-/
set_option maxRecDepth 100000
namespace Go.Proofs.YtgoelfaemclioaaDoor
open Go.RowKit

/-- How many symbols a length needs, however many. -/
def needT (l s : Nat) : Nat := if l ≤ s then 1 else (l - 1) / s + 1
theorem needT_eq {l s : Nat} (hs : 1 ≤ s) : needT l s = max 1 (l / s + if 0 < l % s then 1 else 0) := by
  unfold needT
  by_cases h : l ≤ s
  · rw [if_pos h]
    by_cases h1 : l = s
    · subst h1; rw [Nat.div_self (by omega), Nat.mod_self]; rfl
    · rw [Nat.div_eq_of_lt (by omega), Nat.mod_eq_of_lt (by omega)]
      split <;> rfl
  · rw [if_neg h]
    have h1 := Nat.div_add_mod l s
    have h2 := Nat.mod_lt l (show 0 < s by omega)
    have h4 : 1 ≤ l / s := (Nat.le_div_iff_mul_le (by omega)).2 (by omega)
    by_cases h3 : 0 < l % s
    · rw [if_pos h3]
      have e : (l - 1) / s = l / s := by
        obtain ⟨q, hq⟩ : ∃ q, q = l / s := ⟨_, rfl⟩
        obtain ⟨r, hr⟩ : ∃ r, r = l % s := ⟨_, rfl⟩
        rw [← hq, ← hr] at h1
        rw [← hr] at h2 h3
        have : l - 1 = s * q + (r - 1) := by omega
        rw [this, Nat.mul_add_div (by omega), Nat.div_eq_of_lt (by omega), ← hq]; omega
      rw [e]; omega
    · rw [if_neg h3]
      have e : (l - 1) / s = l / s - 1 := by
        obtain ⟨q, hq⟩ : ∃ q, l / s = q + 1 := ⟨l / s - 1, by omega⟩
        have h5 : l = s * (q + 1) := by rw [← hq]; omega
        have h6 : s * (q + 1) = s * q + s := Nat.mul_succ s q
        have : l - 1 = s * q + (s - 1) := by omega
        rw [this, Nat.mul_add_div (by omega), Nat.div_eq_of_lt (by omega), hq]; omega
      rw [e]; omega
theorem needT_many {l s : Nat} (hs : 1 ≤ s) : 4096 < needT l s ↔ 4096 < needsN l s := by
  unfold needT needsN
  by_cases h : l ≤ s
  · rw [if_pos h, if_pos h]
  · rw [if_neg h, if_neg h]
    by_cases h2 : 4097 * s < l
    · rw [if_pos h2]
      have : 4097 ≤ (l - 1) / s := (Nat.le_div_iff_mul_le (by omega)).2 (by omega)
      omega
    · rw [if_neg h2]
theorem needT_few {l s : Nat} (hs : 1 ≤ s) (h : ¬ 4096 < needT l s) : needT l s = needsN l s := by
  unfold needT needsN at *
  by_cases h1 : l ≤ s
  · rw [if_pos h1, if_pos h1]
  · rw [if_neg h1] at h
    rw [if_neg h1, if_neg h1, if_neg]
    intro h2
    have : 4097 ≤ (l - 1) / s := (Nat.le_div_iff_mul_le (by omega)).2 (by omega)
    omega
/-- What need answers. -/
def needI (l s : Int) : Int := if s < 1 then 0 else if l < 0 then 1 else (needT l.toNat s.toNat : Int)
set_option maxHeartbeats 1000000 in
theorem need_pos (l s : Nat) (w : World) (hl : l ≤ 9223372036854775807) (hs : 1 ≤ s) (hs2 : s ≤ 9223372036854775807) :
    Calls Tryd.prog 18 #[.int .i64 (l : Int), .int .i64 (s : Int)] w fun e w' => e = .returned (.int .i64 (needT l s : Int)) ∧ w = w' := by
  have HE := Lib.hid (needT_eq (l := l) hs)
  obtain ⟨q, hq⟩ : ∃ q, q = l / s := ⟨_, rfl⟩
  obtain ⟨r, hr⟩ : ∃ r, r = l % s := ⟨_, rfl⟩
  have HQR := Lib.hid (show q * s + r = l by rw [hq, hr, Nat.mul_comm]; exact Nat.div_add_mod l s)
  rw [← hq, ← hr] at HE
  have hq1 : q ≤ l := by rw [hq]; exact Nat.div_le_self _ _
  have hqi : (l : Int) / (s : Int) = (q : Int) := by rw [hq]; rfl
  have hri : (l : Int) % (s : Int) = (r : Int) := by rw [hr]; rfl
  have hm : ¬ (s : Int) < 1 := by omega
  have hs0 : ¬ s = 0 := by omega
  have hrs : r < s := by rw [hr]; exact Nat.mod_lt _ (by omega)
  clear hq hr
  by_cases h : 0 < r
  · have HE2 := Lib.hid (show (needT l s : Int) = max 1 ((q : Int) + 1) by rw [HE.out, if_pos h]; omega)
    have h1 : (0 : Int) < (r : Int) := by omega
    have hq2 : q < 9223372036854775807 := by
      have : q * s + r ≤ l := by have := HQR.out; omega
      have : q ≤ q * s := Nat.le_mul_of_pos_right q (by omega)
      omega
    clear h HE
    go_enter Tryd.func18, Tryd.ntmps18
    go_wp2_with fail
    all_goals go_ret
    all_goals refine ⟨congrArg (fun z : Int => Ending.returned (.int .i64 z)) ?_, rfl⟩
    all_goals (rw [HE2.out]; try omega)
  · have HE2 := Lib.hid (show (needT l s : Int) = max 1 (q : Int) by rw [HE.out, if_neg h]; omega)
    have h1 : ¬ (0 : Int) < (r : Int) := by omega
    clear h HE
    go_enter Tryd.func18, Tryd.ntmps18
    go_wp2_with fail
    all_goals go_ret
    all_goals refine ⟨congrArg (fun z : Int => Ending.returned (.int .i64 z)) ?_, rfl⟩
    all_goals (rw [HE2.out]; try omega)
theorem need_none (l s : Int) (w : World) (hs : s < 1) :
    Calls Tryd.prog 18 #[.int .i64 l, .int .i64 s] w fun e w' => e = .returned (.int .i64 0) ∧ w = w' := by
  go_enter Tryd.func18, Tryd.ntmps18
  go_wp2_with fail
  go_ret
  exact ⟨rfl, rfl⟩
set_option maxHeartbeats 1000000 in
theorem need_neg (l : Int) (s : Nat) (w : World) (hl0 : -9223372036854775808 ≤ l) (hl : l < 0) (hs : 1 ≤ s) (hs2 : s ≤ 9223372036854775807) :
    Calls Tryd.prog 18 #[.int .i64 l, .int .i64 (s : Int)] w fun e w' => e = .returned (.int .i64 1) ∧ w = w' := by
  obtain ⟨m, rfl⟩ : ∃ m : Nat, l = -(m : Int) := ⟨l.natAbs, by omega⟩
  have hm0 : 1 ≤ m := by omega
  have hm : ¬ (s : Int) < 1 := by omega
  have hs0 : ¬ s = 0 := by omega
  obtain ⟨q, hq⟩ : ∃ q, q = m / s := ⟨_, rfl⟩
  have hqm : q ≤ m := by rw [hq]; exact Nat.div_le_self _ _
  have hqi : (m : Int) / (s : Int) = (q : Int) := by rw [hq]; rfl
  clear hq
  go_enter Tryd.func18, Tryd.ntmps18
  go_wp2_with fail
  all_goals go_ret
  all_goals refine ⟨congrArg (fun z : Int => Ending.returned (.int .i64 z)) ?_, rfl⟩
  all_goals omega
theorem need_any (l s : Int) (w : World) (hl0 : -9223372036854775808 ≤ l) (hl : l ≤ 9223372036854775807) (hs2 : s ≤ 9223372036854775807) :
    Calls Tryd.prog 18 #[.int .i64 l, .int .i64 s] w fun e w' => e = .returned (.int .i64 (needI l s)) ∧ w = w' := by
  unfold needI
  by_cases h : s < 1
  · rw [if_pos h]; exact need_none l s w h
  · rw [if_neg h]
    obtain ⟨s', rfl⟩ : ∃ s' : Nat, s = s' := ⟨s.toNat, by omega⟩
    by_cases h2 : l < 0
    · rw [if_pos h2]; exact need_neg l s' w hl0 h2 (by omega) (by omega)
    · rw [if_neg h2]
      obtain ⟨l', rfl⟩ : ∃ l' : Nat, l = l' := ⟨l.toNat, by omega⟩
      exact need_pos l' s' w (by omega) (by omega) (by omega)

/-- The program's code for a plan is the document's. -/
theorem check_spell (l s k : Int) : checkE l s k = if l < 0 then 2 else if s < 1 ∨ 65535 < s then 4 else if 4096 < needI l s then 5 else if k = needI l s then 0 else 14 := by
  unfold checkE needI
  by_cases h1 : l < 0
  · rw [if_pos h1, if_pos h1]
  · rw [if_neg h1, if_neg h1]
    by_cases h2 : s < 1 ∨ 65535 < s
    · rw [if_pos h2, if_pos h2]
    · have hs : 1 ≤ s.toNat := by omega
      have hm := needT_many (l := l.toNat) hs
      rw [if_neg h2, if_neg h2, if_neg (show ¬ s < 1 by omega), if_neg h1]
      by_cases h3 : 4096 < needT l.toNat s.toNat
      · rw [if_pos (hm.1 h3), if_pos (by omega)]
      · rw [if_neg (fun h => h3 (hm.2 h)), if_neg (show ¬ (4096 : Int) < (needT l.toNat s.toNat : Int) by omega), needT_few hs h3]
set_option maxHeartbeats 1000000 in
theorem check_any (l s k n : Int) (w : World) (hl0 : -9223372036854775808 ≤ l) (hl : l ≤ 9223372036854775807) (hs2 : s ≤ 9223372036854775807) :
    Calls Tryd.prog 10 #[.agg #[.int .i64 l, .int .i64 s, .int .i64 k, .int .u32 n]] w fun e w' => e = .returned (.int .i64 (checkE l s k)) ∧ Below w.heap.size w w' := by
  have hsp := check_spell l s k
  have HN := Lib.hid (fun w => need_any l s w hl0 hl hs2)
  obtain ⟨m, hm⟩ : ∃ m, m = needI l s := ⟨_, rfl⟩
  rw [← hm] at hsp HN
  clear hm
  by_cases h1 : l < 0
  · have HC := Lib.hid (show checkE l s k = 2 by rw [hsp, if_pos h1])
    clear hsp
    go_enter Tryd.func10, Tryd.ntmps10
    go_wp2_with fail
    go_ret
    exact ⟨by rw [HC.out]; rfl, (Below.refl _ _).alloc (Nat.le_refl _) _⟩
  · rw [if_neg h1] at hsp
    by_cases h2 : s < 1
    · have HC := Lib.hid (show checkE l s k = 4 by rw [hsp, if_pos (.inl h2)])
      clear hsp
      go_enter Tryd.func10, Tryd.ntmps10
      go_wp2_with fail
      go_ret
      exact ⟨by rw [HC.out]; rfl, (Below.refl _ _).alloc (Nat.le_refl _) _⟩
    · by_cases h3 : 65535 < s
      · have HC := Lib.hid (show checkE l s k = 4 by rw [hsp, if_pos (.inr h3)])
        clear hsp
        go_enter Tryd.func10, Tryd.ntmps10
        go_wp2_with fail
        go_ret
        exact ⟨by rw [HC.out]; rfl, (Below.refl _ _).alloc (Nat.le_refl _) _⟩
      · rw [if_neg (by omega)] at hsp
        by_cases h4 : 4096 < m
        · have HC := Lib.hid (show checkE l s k = 5 by rw [hsp, if_pos h4])
          clear hsp
          go_enter Tryd.func10, Tryd.ntmps10
          go_wp2_with fail
          refine (HN.out _).mono ?_
          rintro e w' ⟨rfl, rfl⟩
          go_wp2_with fail
          go_ret
          exact ⟨by rw [HC.out]; rfl, (Below.refl _ _).alloc (Nat.le_refl _) _⟩
        · rw [if_neg h4] at hsp
          by_cases h5 : k = m
          · have HC := Lib.hid (show checkE l s k = 0 by rw [hsp, if_pos h5])
            have h6 : (k != m) = false := by rw [h5]; simp
            clear hsp h5
            go_enter Tryd.func10, Tryd.ntmps10
            go_wp2_with fail
            refine (HN.out _).mono ?_
            rintro e w' ⟨rfl, rfl⟩
            go_wp2_with fail
            go_ret
            exact ⟨by rw [HC.out]; rfl, (Below.refl _ _).alloc (Nat.le_refl _) _⟩
          · have HC := Lib.hid (show checkE l s k = 14 by rw [hsp, if_neg h5])
            have h6 : (k != m) = true := by rw [bne_iff_ne]; exact h5
            clear hsp
            go_enter Tryd.func10, Tryd.ntmps10
            go_wp2_with fail
            refine (HN.out _).mono ?_
            rintro e w' ⟨rfl, rfl⟩
            go_wp2_with fail
            go_ret
            exact ⟨by rw [HC.out]; rfl, (Below.refl _ _).alloc (Nat.le_refl _) _⟩

end Go.Proofs.YtgoelfaemclioaaDoor

/-
  Plans in the program (layer 10): 'checked', 'Of', 'Room', 'Pad'.
-/
set_option maxRecDepth 100000
namespace Go.Proofs.YtgoelfaemclioaaDoor
open Go.RowKit

/-- A plan's value. -/
def planV (l s k n : Int) : Value := .agg #[.int .i64 l, .int .i64 s, .int .i64 k, .int .u32 n]
def PlanE (w : World) (l s k n : Int) (err : Int) (e : Ending) (w' : World) : Prop := e = .returned (.tuple #[planV l s k n, .int .i64 err]) ∧ Below w.heap.size w w'
def okV (c x : Int) : Int := if c = 0 then x else 0
theorem store4_plan {w0 w : World} {g : Nat} {a b c d : Value} {T : TypeId} (hK : Blk w g #[a, b, c, d] T) (hg : w0.heap.size ≤ g) (hB : Below w0.heap.size w0 w) (x y z u : Value) :
    let w' := (((w.setCell ⟨g, 0, none⟩ x).setCell ⟨g, 1, none⟩ y).setCell ⟨g, 2, none⟩ z).setCell ⟨g, 3, none⟩ u
    w'.cell? ⟨g, 0, none⟩ = some x ∧ w'.cell? ⟨g, 1, none⟩ = some y ∧ w'.cell? ⟨g, 2, none⟩ = some z ∧ w'.cell? ⟨g, 3, none⟩ = some u ∧ Below w0.heap.size w0 w' := by
  have h := (((hK.set 0 x).set 1 y).set 2 z).set 3 u
  exact ⟨h.cell 0, h.cell 1, h.cell 2, h.cell 3, (((hB.setCell (p := ⟨g, 0, none⟩) hg _).setCell (p := ⟨g, 1, none⟩) hg _).setCell (p := ⟨g, 2, none⟩) hg _).setCell (p := ⟨g, 3, none⟩) hg _⟩
theorem Blk.four {w : World} {g : Nat} {a b c d : Value} {T : TypeId} (h : Blk w g #[a, b, c, d] T) : w.cell? ⟨g, 0, none⟩ = some a ∧ w.cell? ⟨g, 1, none⟩ = some b ∧ w.cell? ⟨g, 2, none⟩ = some c ∧ w.cell? ⟨g, 3, none⟩ = some d := ⟨h.cell 0, h.cell 1, h.cell 2, h.cell 3⟩

set_option maxHeartbeats 1000000 in
theorem checked_any (l s k n : Int) (w : World) (hl0 : -9223372036854775808 ≤ l) (hl : l ≤ 9223372036854775807) (hs2 : s ≤ 9223372036854775807) :
    Calls Tryd.prog 17 #[planV l s k n] w (PlanE w (okV (checkE l s k) l) (okV (checkE l s k) s) (okV (checkE l s k) k) (okV (checkE l s k) n) (checkE l s k)) := by
  have HC := Lib.hid (fun w => check_any l s k n w hl0 hl hs2)
  obtain ⟨c, hc⟩ : ∃ c, c = checkE l s k := ⟨_, rfl⟩
  rw [← hc] at HC ⊢
  clear hc
  unfold planV
  by_cases h : c = 0
  · subst h
    go_enter Tryd.func17, Tryd.ntmps17
    go_wp2_with fail
    obtain ⟨B, hk1, hk2, hs⟩ := blocks2 w #[.int .i64 l, .int .i64 s, .int .i64 k, .int .u32 n] 24 #[.int .i64 0, .int .i64 0, .int .i64 0, .int .u32 0] 24
    generalize ((w.alloc (.cells #[.int .i64 l, .int .i64 s, .int .i64 k, .int .u32 n] 24)).alloc (.cells #[.int .i64 0, .int .i64 0, .int .i64 0, .int .u32 0] 24)) = W at *
    have K1 := Lib.hid hk1
    have K2 := Lib.hid hk2
    have HS := Lib.hid hs
    clear hs hk1 hk2
    have hzW := B.size
    refine (HC.out _).mono ?_
    rintro e w1 ⟨rfl, hb⟩
    replace K1 := Lib.hid (K1.out.go hb)
    replace K2 := Lib.hid (K2.out.go hb)
    replace B := B.trans (hb.mono B.size)
    have hzw1 := B.size
    clear hb
    obtain ⟨p0, p1, p2, p3⟩ := K1.out.four
    have pl := K1.out.lt
    obtain ⟨q0, q1, q2, q3⟩ := K2.out.four
    have ql := K2.out.lt
    have r0 := K2.out.free 0
    have r1 := K2.out.free 1
    have r2 := K2.out.free 2
    have r3 := K2.out.free 3
    go_wp2_with fail
    obtain ⟨e0, e1, e2, e3, hB⟩ := store4_plan K2.out (by omega) B (.int .i64 l) (.int .i64 s) (.int .i64 k) (.int .u32 n)
    exact bodyPost_ret (v := .tuple #[planV l s k n, .int .i64 0]) (by simp [results, Tryd.results17, go_sem, e0, e1, e2, e3, planV]) rfl ⟨by simp [okV], hB⟩
  · have hb : (c != (0 : Int)) = true := by rw [bne_iff_ne]; exact h
    have e : ∀ x, okV c x = 0 := fun x => if_neg h
    rw [e, e, e, e]
    clear h e
    go_enter Tryd.func17, Tryd.ntmps17
    go_wp2_with fail
    obtain ⟨B, hk1, hk2, hs⟩ := blocks2 w #[.int .i64 l, .int .i64 s, .int .i64 k, .int .u32 n] 24 #[.int .i64 0, .int .i64 0, .int .i64 0, .int .u32 0] 24
    generalize ((w.alloc (.cells #[.int .i64 l, .int .i64 s, .int .i64 k, .int .u32 n] 24)).alloc (.cells #[.int .i64 0, .int .i64 0, .int .i64 0, .int .u32 0] 24)) = W at *
    have K1 := Lib.hid hk1
    have K2 := Lib.hid hk2
    have HS := Lib.hid hs
    clear hs hk1 hk2
    have hzW := B.size
    refine (HC.out _).mono ?_
    rintro e w1 ⟨rfl, hb⟩
    replace K1 := Lib.hid (K1.out.go hb)
    replace K2 := Lib.hid (K2.out.go hb)
    replace B := B.trans (hb.mono B.size)
    have hzw1 := B.size
    clear hb
    obtain ⟨p0, p1, p2, p3⟩ := K1.out.four
    have pl := K1.out.lt
    obtain ⟨q0, q1, q2, q3⟩ := K2.out.four
    have ql := K2.out.lt
    have r0 := K2.out.free 0
    have r1 := K2.out.free 1
    have r2 := K2.out.free 2
    have r3 := K2.out.free 3
    go_wp2_with fail
    obtain ⟨e0, e1, e2, e3, hB⟩ := store4_plan K2.out (by omega) B (.int .i64 0) (.int .i64 0) (.int .i64 0) (.int .u32 0)
    exact bodyPost_ret (v := .tuple #[planV 0 0 0 0, .int .i64 c]) (by simp [results, Tryd.results17, go_sem, e0, e1, e2, e3, planV]) rfl ⟨rfl, hB⟩

set_option maxHeartbeats 1000000 in
theorem of10_any (l s n : Int) (w : World) (hl0 : -9223372036854775808 ≤ l) (hl : l ≤ 9223372036854775807) (hs2 : s ≤ 9223372036854775807) :
    Calls Tryd.prog 7 #[.int .i64 l, .int .i64 s, .int .u32 n] w (PlanE w (okV (checkE l s (needI l s)) l) (okV (checkE l s (needI l s)) s) (okV (checkE l s (needI l s)) (needI l s)) (okV (checkE l s (needI l s)) n) (checkE l s (needI l s))) := by
  have HN := Lib.hid (fun w => need_any l s w hl0 hl hs2)
  have HC := Lib.hid (fun w => checked_any l s (needI l s) n w hl0 hl hs2)
  obtain ⟨m, hm⟩ : ∃ m, m = needI l s := ⟨_, rfl⟩
  rw [← hm] at HN HC ⊢
  clear hm
  obtain ⟨c, hc⟩ : ∃ c, c = checkE l s m := ⟨_, rfl⟩
  rw [← hc] at HC ⊢
  clear hc
  go_enter Tryd.func7, Tryd.ntmps7
  go_wp2_with fail
  obtain ⟨B, hk1, hs⟩ := blocks1 w #[.int .i64 0, .int .i64 0, .int .i64 0, .int .u32 0] 24
  generalize (w.alloc (.cells #[.int .i64 0, .int .i64 0, .int .i64 0, .int .u32 0] 24)) = W at *
  have K1 := Lib.hid hk1
  have HS := Lib.hid hs
  clear hs hk1
  have hzW := B.size
  refine (HN.out _).mono ?_
  rintro e w1 ⟨rfl, rfl⟩
  go_wp2_with fail
  refine (HC.out _).mono ?_
  rintro e w2 ⟨rfl, hb⟩
  replace K1 := Lib.hid (K1.out.go hb)
  replace B := B.trans (hb.mono B.size)
  clear hb
  obtain ⟨q0, q1, q2, q3⟩ := K1.out.four
  have ql := K1.out.lt
  have r0 := K1.out.free 0
  have r1 := K1.out.free 1
  have r2 := K1.out.free 2
  have r3 := K1.out.free 3
  unfold planV
  go_wp2_with fail
  obtain ⟨e0, e1, e2, e3, hB⟩ := store4_plan K1.out (by omega) B (.int .i64 (okV c l)) (.int .i64 (okV c s)) (.int .i64 (okV c m)) (.int .u32 (okV c n))
  exact bodyPost_ret (v := .tuple #[planV (okV c l) (okV c s) (okV c m) (okV c n), .int .i64 c]) (by simp [results, Tryd.results7, go_sem, e0, e1, e2, e3, planV]) rfl ⟨rfl, hB⟩
/-- Room and padding. -/
def roomI (l s k : Int) : Int := if checkE l s k = 0 then k * s else 0
def padI (l s k : Int) : Int := if checkE l s k = 0 then k * s - l else 0
theorem check_ok10 {l s k : Int} (h : checkE l s k = 0) : 0 ≤ l ∧ 1 ≤ s ∧ s ≤ 65535 ∧ 1 ≤ k ∧ k ≤ 4096 ∧ k = needI l s ∧ l ≤ k * s := by
  rw [check_spell] at h
  by_cases h1 : l < 0
  · rw [if_pos h1] at h; cases h
  · rw [if_neg h1] at h
    by_cases h2 : s < 1 ∨ 65535 < s
    · rw [if_pos h2] at h; cases h
    · rw [if_neg h2] at h
      by_cases h3 : 4096 < needI l s
      · rw [if_pos h3] at h; cases h
      · rw [if_neg h3] at h
        by_cases h4 : k = needI l s
        · have hn : needI l s = (needT l.toNat s.toNat : Int) := by unfold needI; rw [if_neg (by omega), if_neg h1]
          obtain ⟨a, ha⟩ : ∃ a : Nat, l = a := ⟨l.toNat, by omega⟩
          obtain ⟨b, hb⟩ : ∃ b : Nat, s = b := ⟨s.toNat, by omega⟩
          subst ha
          subst hb
          simp only [Int.toNat_natCast] at hn
          have h5 : 1 ≤ needT a b := by unfold needT; split; exact Nat.le_refl _; exact Nat.succ_le_succ (Nat.zero_le _)
          have h6 : a ≤ needT a b * b := by
            unfold needT
            by_cases h7 : a ≤ b
            · rw [if_pos h7]; omega
            · rw [if_neg h7]
              have h8 := Nat.div_add_mod (a - 1) b
              have h9 := Nat.mod_lt (a - 1) (show 0 < b by omega)
              have h10 := Nat.mul_comm ((a - 1) / b) b
              obtain ⟨q, hq⟩ : ∃ q, q = (a - 1) / b := ⟨_, rfl⟩
              obtain ⟨r, hr⟩ : ∃ r, r = (a - 1) % b := ⟨_, rfl⟩
              rw [Nat.succ_mul]
              rw [← hq] at h8 h10 ⊢
              rw [← hr] at h8 h9
              obtain ⟨t, ht⟩ : ∃ t, t = b * q := ⟨_, rfl⟩
              rw [h10]
              rw [← ht] at h8 ⊢
              omega
          have h7 : ((needT a b * b : Nat) : Int) = (needT a b : Int) * (b : Int) := by simp
          refine ⟨by omega, by omega, by omega, by omega, by omega, h4, ?_⟩
          rw [h4, hn, ← h7]; omega
        · rw [if_neg h4] at h; cases h

set_option maxHeartbeats 1000000 in
theorem room_any (l s k n : Int) (w : World) (hl0 : -9223372036854775808 ≤ l) (hl : l ≤ 9223372036854775807) (hs2 : s ≤ 9223372036854775807) :
    Calls Tryd.prog 13 #[planV l s k n] w fun e w' => e = .returned (.int .i64 (roomI l s k)) ∧ Below w.heap.size w w' := by
  have HC := Lib.hid (fun w => check_any l s k n w hl0 hl hs2)
  unfold roomI planV
  by_cases h : checkE l s k = 0
  · rw [if_pos h]
    rw [h] at HC
    obtain ⟨h1, h2, h3, h4, h5, -, h6⟩ := check_ok10 h
    obtain ⟨s', rfl⟩ : ∃ s' : Nat, s = s' := ⟨s.toNat, by omega⟩
    obtain ⟨k', rfl⟩ : ∃ k' : Nat, k = k' := ⟨k.toNat, by omega⟩
    obtain ⟨p, hp⟩ : ∃ p, p = k' * s' := ⟨_, rfl⟩
    have hpi : (k' : Int) * (s' : Int) = (p : Int) := by rw [hp]; simp
    have hp2 : p ≤ 4096 * 65535 := by rw [hp]; exact Nat.mul_le_mul (by omega) (by omega)
    clear h h6 hp
    go_enter Tryd.func13, Tryd.ntmps13
    go_wp2_with fail
    obtain ⟨B, hk1, hs⟩ := blocks1 w #[.int .i64 l, .int .i64 (s' : Int), .int .i64 (k' : Int), .int .u32 n] 24
    generalize (w.alloc (.cells #[.int .i64 l, .int .i64 (s' : Int), .int .i64 (k' : Int), .int .u32 n] 24)) = W at *
    have K1 := Lib.hid hk1
    have HS := Lib.hid hs
    clear hs hk1
    have hzW := B.size
    refine (HC.out _).mono ?_
    rintro e w1 ⟨rfl, hb⟩
    replace K1 := Lib.hid (K1.out.go hb)
    replace B := B.trans (hb.mono B.size)
    have hzw1 := B.size
    clear hb
    obtain ⟨p0, p1, p2, p3⟩ := K1.out.four
    have pl := K1.out.lt
    clear HC
    go_wp2_with fail
    go_ret
    exact ⟨by first | rfl | (rw [hpi]; rfl), B⟩
  · rw [if_neg h]
    obtain ⟨c, hc⟩ : ∃ c, c = checkE l s k := ⟨_, rfl⟩
    rw [← hc] at HC h
    have hb : (c != (0 : Int)) = true := by rw [bne_iff_ne]; exact h
    clear hc h
    go_enter Tryd.func13, Tryd.ntmps13
    go_wp2_with fail
    obtain ⟨B, hk1, hs⟩ := blocks1 w #[.int .i64 l, .int .i64 s, .int .i64 k, .int .u32 n] 24
    generalize (w.alloc (.cells #[.int .i64 l, .int .i64 s, .int .i64 k, .int .u32 n] 24)) = W at *
    have K1 := Lib.hid hk1
    have HS := Lib.hid hs
    clear hs hk1
    have hzW := B.size
    refine (HC.out _).mono ?_
    rintro e w1 ⟨rfl, hb⟩
    replace B := B.trans (hb.mono B.size)
    have hzw1 := B.size
    clear hb
    go_wp2_with fail
    go_ret
    exact ⟨rfl, B⟩
theorem load_plan10 {w : World} {g : Nat} {l s k n : Value} {T : TypeId} (h : Blk w g #[l, s, k, n] T) : (Instr.loadAt 24 (.pointer (some ⟨g, 0, none⟩))).run Tryd.prog w = .ok (.agg #[l, s, k, n]) w := by
  obtain ⟨k0, k1, k2, k3⟩ := h.four
  go_simp
theorem sub_int10 {x y : Operand} {a b c : Nat} (h : (a : Int) - (b : Int) = (c : Int)) (hc : c ≤ 9223372036854775807) (w : World) : (do eqGuard .sub 3 x y (.int .i64 a) (.int .i64 b); binOp .sub 3 (.int .i64 a) (.int .i64 b) : Sem Value).run Tryd.prog w = .ok (.int .i64 c) w := by
  go_simp
  rw [IntKind.wrap_i64]; omega
set_option maxHeartbeats 1000000 in
theorem pad_any (l s k n : Int) (w : World) (hl0 : -9223372036854775808 ≤ l) (hl : l ≤ 9223372036854775807) (hs2 : s ≤ 9223372036854775807) :
    Calls Tryd.prog 14 #[planV l s k n] w fun e w' => e = .returned (.int .i64 (padI l s k)) ∧ Below w.heap.size w w' := by
  have HC := Lib.hid (fun w => check_any l s k n w hl0 hl hs2)
  have HR := Lib.hid (fun w => room_any l s k n w hl0 hl hs2)
  unfold padI
  unfold roomI at HR
  unfold planV at HR ⊢
  by_cases h : checkE l s k = 0
  · rw [if_pos h]
    rw [if_pos h] at HR
    rw [h] at HC
    obtain ⟨h1, h2, h3, h4, h5, -, h6⟩ := check_ok10 h
    obtain ⟨l', rfl⟩ : ∃ l' : Nat, l = l' := ⟨l.toNat, by omega⟩
    obtain ⟨s', rfl⟩ : ∃ s' : Nat, s = s' := ⟨s.toNat, by omega⟩
    obtain ⟨k', rfl⟩ : ∃ k' : Nat, k = k' := ⟨k.toNat, by omega⟩
    obtain ⟨p, hp⟩ : ∃ p, p = k' * s' := ⟨_, rfl⟩
    have hpi : (k' : Int) * (s' : Int) = (p : Int) := by rw [hp]; simp
    have hp2 : p ≤ 4096 * 65535 := by rw [hp]; exact Nat.mul_le_mul (by omega) (by omega)
    rw [hpi] at HR h6 ⊢
    obtain ⟨d, hd⟩ : ∃ d, d = p - l' := ⟨_, rfl⟩
    have hdi : (p : Int) - (l' : Int) = (d : Int) := by omega
    rw [hdi]
    have HD := Lib.hid hdi
    have hd2 : d ≤ p := by omega
    clear h h6 hp hpi hd hdi
    go_enter Tryd.func14, Tryd.ntmps14
    go_wp2_with fail
    obtain ⟨B, hk1, hs⟩ := blocks1 w #[.int .i64 (l' : Int), .int .i64 (s' : Int), .int .i64 (k' : Int), .int .u32 n] 24
    generalize (w.alloc (.cells #[.int .i64 (l' : Int), .int .i64 (s' : Int), .int .i64 (k' : Int), .int .u32 n] 24)) = W at *
    have K1 := Lib.hid hk1
    have HS := Lib.hid hs
    clear hs hk1
    have hzW := B.size
    refine (HC.out _).mono ?_
    rintro e w1 ⟨rfl, hb⟩
    replace K1 := Lib.hid (K1.out.go hb)
    replace B := B.trans (hb.mono B.size)
    have hzw1 := B.size
    clear hb
    go_upto_region 3 with fail
    obtain ⟨g, hg⟩ : ∃ g : Nat, g = w.heap.size := ⟨_, rfl⟩
    rw [← hg] at K1
    simp only [← hg]
    clear hg
    refine wp_region_mono (C := Cb w1) (R := Rb) (H := fun _ => Hb w1) [Ty.val 6 (.agg #[.int .i64 (l' : Int), .int .i64 (s' : Int), .int .i64 (k' : Int), .int .u32 n]), Ty.val 7 (.int .i64 (p : Int)), Ty.val 8 (.pointer (some ⟨g, 0, none⟩)), Ty.val 9 (.int .i64 (l' : Int)), Ty.val 10 (.int .i64 (d : Int)), Ty.val 2 (.int .i64 (d : Int))] (by kernel_rfl) (hC_b w1) (hCH_b w1) (drew_b w1) ⟨trivial, trivial, trivial, trivial, trivial, trivial, trivial⟩ (by kernel_rfl) ?_ ?_
    · refine ⟨?_, ?_, ?_, ?_, ?_, ?_, trivial⟩
      · intro ac wc hC hsz hfr hd hpr
        have d1 : ac.eval (.tmp 1) = (.pointer (some ⟨g, 0, none⟩)) := hfr 1 rfl
        rw [if_pos (wanted_none rfl)]
        exact ob_load _ rfl rfl rfl (Nat.lt_of_lt_of_eq (by decide : 6 < 11) hsz.symm) rfl d1 (load_plan10 (K1.out.go hC)) (Below.refl _ _) rfl
      · intro ac wc hC hsz hfr hd hpr
        have d6 : ac.eval (.tmp 6) = (.agg #[.int .i64 (l' : Int), .int .i64 (s' : Int), .int .i64 (k' : Int), .int .u32 n]) := hd 0 rfl
        rw [if_pos (wanted_none rfl)]
        refine ob_call rfl rfl rfl (Nat.lt_of_lt_of_eq (by decide : 7 < 11) hsz.symm) rfl (enter_of Tryd.func13 (by kernel_rfl) rfl) ?_
        show Calls Tryd.prog 13 #[ac.eval (.tmp 6)] wc _
        rw [d6]
        exact (HR.out wc).mono fun _ _ ⟨he, hb⟩ => ⟨_, he, rfl, hb⟩
      · intro ac wc hC hsz hfr hd hpr
        have d1 : ac.eval (.tmp 1) = (.pointer (some ⟨g, 0, none⟩)) := hfr 1 rfl
        rw [if_pos (wanted_none rfl)]
        exact ob_field _ rfl rfl rfl (Nat.lt_of_lt_of_eq (by decide : 8 < 11) hsz.symm) rfl d1 (fun w => by go_simp) (Below.refl _ _) rfl
      · intro ac wc hC hsz hfr hd hpr
        have d8 : ac.eval (.tmp 8) = (.pointer (some ⟨g, 0, none⟩)) := hd 2 rfl
        rw [if_pos (wanted_none rfl)]
        exact ob_load _ rfl rfl rfl (Nat.lt_of_lt_of_eq (by decide : 9 < 11) hsz.symm) rfl d8 (load_int ((K1.out.go hC).cell 0)) (Below.refl _ _) rfl
      · intro ac wc hC hsz hfr hd hpr
        have d7 : ac.eval (.tmp 7) = (.int .i64 (p : Int)) := hd 1 rfl
        have d9 : ac.eval (.tmp 9) = (.int .i64 (l' : Int)) := hd 3 rfl
        rw [if_pos (wanted_none rfl)]
        exact ob_bin _ rfl rfl rfl (Nat.lt_of_lt_of_eq (by decide : 10 < 11) hsz.symm) rfl d7 d9 (sub_int10 HD.out (by omega)) (Below.refl _ _) rfl
      · intro ac wc hC hsz hfr hd hpr
        have d10 : ac.eval (.tmp 10) = (.int .i64 (d : Int)) := hd 4 rfl
        rw [if_pos (wanted_none rfl)]
        exact ob_copy rfl rfl rfl (Nat.lt_of_lt_of_eq (by decide : 2 < 11) hsz.symm) (Or.inr rfl) (Below.refl _ _) d10
    intro a' w2 hC hdef hsz hfr hd
    have e6 : a'.eval (.tmp 6) = (.agg #[.int .i64 (l' : Int), .int .i64 (s' : Int), .int .i64 (k' : Int), .int .u32 n]) := hd 0 (by decide)
    have e7 : a'.eval (.tmp 7) = (.int .i64 (p : Int)) := hd 1 (by decide)
    have e8 : a'.eval (.tmp 8) = (.pointer (some ⟨g, 0, none⟩)) := hd 2 (by decide)
    have e9 : a'.eval (.tmp 9) = (.int .i64 (l' : Int)) := hd 3 (by decide)
    have e10 : a'.eval (.tmp 10) = (.int .i64 (d : Int)) := hd 4 (by decide)
    have e2 : a'.eval (.tmp 2) = (.int .i64 (d : Int)) := hd 5 (by decide)
    have hact := act_puts hdef hsz hfr
    simp only [dstsOf, List.filterMap, putAll, Act.put, List.setIfInBounds_toArray, List.set_cons_succ, List.set_cons_zero, e6, e7, e8, e9, e10, e2] at hact
    clear hd hfr hsz hdef e6 e7 e8 e9 e10 e2
    subst hact
    replace B := B.trans (hC.mono B.size)
    clear hC
    go_wp2_with fail
    go_ret
    exact ⟨rfl, B⟩
  · rw [if_neg h]
    obtain ⟨c, hc⟩ : ∃ c, c = checkE l s k := ⟨_, rfl⟩
    rw [← hc] at HC h
    have hb : (c != (0 : Int)) = true := by rw [bne_iff_ne]; exact h
    clear hc h HR
    go_enter Tryd.func14, Tryd.ntmps14
    go_wp2_with fail
    obtain ⟨B, hk1, hs⟩ := blocks1 w #[.int .i64 l, .int .i64 s, .int .i64 k, .int .u32 n] 24
    generalize (w.alloc (.cells #[.int .i64 l, .int .i64 s, .int .i64 k, .int .u32 n] 24)) = W at *
    have K1 := Lib.hid hk1
    have HS := Lib.hid hs
    clear hs hk1
    have hzW := B.size
    refine (HC.out _).mono ?_
    rintro e w1 ⟨rfl, hb⟩
    replace B := B.trans (hb.mono B.size)
    have hzw1 := B.size
    clear hb
    go_wp2_with fail
    go_ret
    exact ⟨rfl, B⟩

end Go.Proofs.YtgoelfaemclioaaDoor

/-
  Plans in the program (layer 10): 'Text'.
-/
set_option maxRecDepth 100000
namespace Go.Proofs.YtgoelfaemclioaaDoor
open Go.RowKit

theorem formatint_any (n : Int) (w : World) (h0 : -9223372036854775808 ≤ n) (h1 : n ≤ 9223372036854775807) (ht : PowTab w) :
    Calls Tryd.prog 19 #[.int .i64 n, .int .i64 10] w fun e w' => e = .returned (.string (strOf (decL n))) ∧ Below w.heap.size w w' := by
  refine (Tryd.strconv_FormatInt_10 n h0 h1 w ht).mono ?_
  rintro e w' ⟨rfl, k, os, rfl⟩
  exact ⟨by rw [strOf_itoa], Lib.below_grow w.heap.size w (Nat.le_refl _) k os⟩
/-- The text behind so many numbers. -/
def textK (ns : List Int) (k : Nat) : List Nat := [111, 98, 106, 101, 99, 116] ++ (ns.take k).flatMap fun n => 32 :: decL n
theorem textK_zero (ns : List Int) : textK ns 0 = [111, 98, 106, 101, 99, 116] := rfl
theorem textK_succ (ns : List Int) (k : Nat) (h : k < ns.length) : textK ns (k + 1) = textK ns k ++ ([32] ++ decL (ns.getD k 0)) := by
  unfold textK
  rw [List.take_succ_eq_append_getElem h, List.flatMap_append, ← List.append_assoc]
  simp [List.getD_eq_getElem?_getD, h]
theorem textK_text {l s k n : Int} (h : checkE l s k = 0) : textK [n, l, s, k] 4 = textL l s k n := by
  unfold textK textL
  rw [if_pos h]
  simp
theorem textK_short {ns : List Int} (h : ∀ z, z ∈ ns → -9223372036854775808 ≤ z ∧ z ≤ 9223372036854775807) : ∀ k, k ≤ ns.length → (textK ns k).length ≤ 6 + 22 * k
  | 0, _ => by rw [textK_zero]; decide
  | k + 1, hk => by
    rw [textK_succ ns k (by omega)]
    have h1 := textK_short h k (by omega)
    have h2 := h _ (List.getElem_mem (show k < ns.length by omega))
    have h3 := decL_len h2.1 h2.2
    have e : ns.getD k 0 = ns[k] := by rw [List.getD_eq_getElem?_getD]; simp [show k < ns.length by omega]
    rw [List.length_append, List.length_append, e]
    simp only [List.length_cons, List.length_nil]
    omega
theorem idx4_0 (a b c d : Int) (w : World) : (Instr.index 43 (.agg #[.int .i64 a, .int .i64 b, .int .i64 c, .int .i64 d]) (.int .i64 0)).run Tryd.prog w = .ok (.int .i64 a) w := by
  simp [Instr.index, run_underlying Tryd.underlying43, asIntOf, go_sem]
  try rfl
theorem idx4_1 (a b c d : Int) (w : World) : (Instr.index 43 (.agg #[.int .i64 a, .int .i64 b, .int .i64 c, .int .i64 d]) (.int .i64 1)).run Tryd.prog w = .ok (.int .i64 b) w := by
  simp [Instr.index, run_underlying Tryd.underlying43, asIntOf, go_sem]
  try rfl
theorem idx4_2 (a b c d : Int) (w : World) : (Instr.index 43 (.agg #[.int .i64 a, .int .i64 b, .int .i64 c, .int .i64 d]) (.int .i64 2)).run Tryd.prog w = .ok (.int .i64 c) w := by
  simp [Instr.index, run_underlying Tryd.underlying43, asIntOf, go_sem]
  try rfl
theorem idx4_3 (a b c d : Int) (w : World) : (Instr.index 43 (.agg #[.int .i64 a, .int .i64 b, .int .i64 c, .int .i64 d]) (.int .i64 3)).run Tryd.prog w = .ok (.int .i64 d) w := by
  simp [Instr.index, run_underlying Tryd.underlying43, asIntOf, go_sem]
  try rfl
set_option maxHeartbeats 1000000 in
theorem text10_any (l s k : Int) (n : Nat) (w : World) (hl0 : -9223372036854775808 ≤ l) (hl : l ≤ 9223372036854775807) (hs2 : s ≤ 9223372036854775807) (hn : n < 4294967296) (hT : PowTab w) :
    Calls Tryd.prog 11 #[planV l s k (n : Int)] w fun e w' => e = .returned (.string (strOf (textL l s k n))) ∧ Below w.heap.size w w' := by
  have HC := Lib.hid (fun w => check_any l s k n w hl0 hl hs2)
  have HT := Lib.hid hT
  unfold planV
  clear hT
  by_cases h : checkE l s k = 0
  · rw [h] at HC
    obtain ⟨h1, h2, h3, h4, h5, -, h6⟩ := check_ok10 h
    have HTX := Lib.hid (textK_text (n := n) h)
    obtain ⟨ns, hns⟩ : ∃ ns : List Int, ns = [(n : Int), l, s, k] := ⟨_, rfl⟩
    rw [← hns] at HTX
    have HNS := Lib.hid hns
    clear h h6 hns
    go_enter Tryd.func11, Tryd.ntmps11
    go_wp2_with fail
    obtain ⟨B, hk1, hs⟩ := blocks1 w #[.int .i64 l, .int .i64 s, .int .i64 k, .int .u32 (n : Int)] 24
    generalize (w.alloc (.cells #[.int .i64 l, .int .i64 s, .int .i64 k, .int .u32 (n : Int)] 24)) = W at *
    have K1 := Lib.hid hk1
    have HS := Lib.hid hs
    clear hs hk1
    replace HT := Lib.hid (HT.out.go B)
    have hzW := B.size
    refine (HC.out _).mono ?_
    rintro e w1 ⟨rfl, hb⟩
    replace K1 := Lib.hid (K1.out.go hb)
    replace HT := Lib.hid (HT.out.go hb)
    replace B := B.trans (hb.mono B.size)
    have hzw1 := B.size
    clear hb
    obtain ⟨p0, p1, p2, p3⟩ := K1.out.four
    have pl := K1.out.lt
    go_wp2_with fail
    clear p0 p1 p2 p3 pl K1
    have HTK := Lib.hid (textK_succ ns)
    have HL4 := Lib.hid (show ns.length = 4 by rw [HNS.out]; rfl)
    have HTB := Lib.hid (textK_short (ns := ns) (by rw [HNS.out]; intro z hz; simp at hz; omega))
    go_loopw [3, 5, 19] (fun tx _ x wr => ∃ j : Nat, j ≤ 4 ∧ x = .int .i64 j ∧ tx = .string (strOf (textK ns j)) ∧ Below w.heap.size w wr ∧ PowTab wr) (fun _ _ x _ => 4 - (intOf x).toNat)
    case atStart => exact ⟨0, by omega, rfl, rfl, B, HT.out⟩
    case round =>
      clear B HT
      obtain ⟨j, hj, rfl, rfl, B, hT⟩ := hrel
      have HT := Lib.hid hT
      clear hT
      by_cases hlt : j < 4
      · have hj4 : j = 0 ∨ j = 1 ∨ j = 2 ∨ j = 3 := by omega
        clear hj hlt
        have HTJ := Lib.hid (HTK.out j)
        have HB1 := Lib.hid (HTB.out j)
        obtain ⟨X, hX⟩ : ∃ X, X = textK ns j := ⟨_, rfl⟩
        rw [← hX] at HTJ HB1 ⊢
        clear hX
        rcases hj4 with rfl | rfl | rfl | rfl
        · skip
          have hix := idx4_0 (n : Int) l s k
          go_wp2_with fail
          clear hix
          refine (formatint_any ((n : Int)) _ (by omega) (by omega) HT.out).mono ?_
          rintro e w2 ⟨rfl, hb⟩
          replace HT := Lib.hid (HT.out.go hb)
          replace B := B.trans (hb.mono B.size)
          have hzw2 := B.size
          clear hb
          have hz1 : ¬ 9223372036854775807 < 1 + (strOf (decL ((n : Int)))).size := by rw [strOf_size]; have := decL_len (n := ((n : Int))) (by omega) (by omega); omega
          have hz2 : ¬ 9223372036854775807 < (strOf X).size + (1 + (strOf (decL ((n : Int)))).size) := by rw [strOf_size, strOf_size]; have := decL_len (n := ((n : Int))) (by omega) (by omega); have := HB1.out (by rw [HL4.out]; omega); omega
          have HSE := Lib.hid (show strOf X ++ ((⟨#[32]⟩ : ByteArray) ++ strOf (decL ((n : Int)))) = strOf (textK ns (0 + 1)) by
            rw [HTJ.out (by rw [HL4.out]; omega), HNS.out, show (⟨#[32]⟩ : ByteArray) = strOf [32] from rfl, strOf_append, strOf_append]; rfl)
          go_wp2_with fail
          go_roundw
          case rel => exact ⟨0 + 1, by omega, by go_num, by rw [HSE.out], B, HT.out⟩
          case measure => simp [intOf]
        · skip
          have hix := idx4_1 (n : Int) l s k
          go_wp2_with fail
          clear hix
          refine (formatint_any (l) _ (by omega) (by omega) HT.out).mono ?_
          rintro e w2 ⟨rfl, hb⟩
          replace HT := Lib.hid (HT.out.go hb)
          replace B := B.trans (hb.mono B.size)
          have hzw2 := B.size
          clear hb
          have hz1 : ¬ 9223372036854775807 < 1 + (strOf (decL (l))).size := by rw [strOf_size]; have := decL_len (n := (l)) (by omega) (by omega); omega
          have hz2 : ¬ 9223372036854775807 < (strOf X).size + (1 + (strOf (decL (l))).size) := by rw [strOf_size, strOf_size]; have := decL_len (n := (l)) (by omega) (by omega); have := HB1.out (by rw [HL4.out]; omega); omega
          have HSE := Lib.hid (show strOf X ++ ((⟨#[32]⟩ : ByteArray) ++ strOf (decL (l))) = strOf (textK ns (1 + 1)) by
            rw [HTJ.out (by rw [HL4.out]; omega), HNS.out, show (⟨#[32]⟩ : ByteArray) = strOf [32] from rfl, strOf_append, strOf_append]; rfl)
          go_wp2_with fail
          go_roundw
          case rel => exact ⟨1 + 1, by omega, by go_num, by rw [HSE.out], B, HT.out⟩
          case measure => simp [intOf]
        · skip
          have hix := idx4_2 (n : Int) l s k
          go_wp2_with fail
          clear hix
          refine (formatint_any (s) _ (by omega) (by omega) HT.out).mono ?_
          rintro e w2 ⟨rfl, hb⟩
          replace HT := Lib.hid (HT.out.go hb)
          replace B := B.trans (hb.mono B.size)
          have hzw2 := B.size
          clear hb
          have hz1 : ¬ 9223372036854775807 < 1 + (strOf (decL (s))).size := by rw [strOf_size]; have := decL_len (n := (s)) (by omega) (by omega); omega
          have hz2 : ¬ 9223372036854775807 < (strOf X).size + (1 + (strOf (decL (s))).size) := by rw [strOf_size, strOf_size]; have := decL_len (n := (s)) (by omega) (by omega); have := HB1.out (by rw [HL4.out]; omega); omega
          have HSE := Lib.hid (show strOf X ++ ((⟨#[32]⟩ : ByteArray) ++ strOf (decL (s))) = strOf (textK ns (2 + 1)) by
            rw [HTJ.out (by rw [HL4.out]; omega), HNS.out, show (⟨#[32]⟩ : ByteArray) = strOf [32] from rfl, strOf_append, strOf_append]; rfl)
          go_wp2_with fail
          go_roundw
          case rel => exact ⟨2 + 1, by omega, by go_num, by rw [HSE.out], B, HT.out⟩
          case measure => simp [intOf]
        · skip
          have hix := idx4_3 (n : Int) l s k
          go_wp2_with fail
          clear hix
          refine (formatint_any (k) _ (by omega) (by omega) HT.out).mono ?_
          rintro e w2 ⟨rfl, hb⟩
          replace HT := Lib.hid (HT.out.go hb)
          replace B := B.trans (hb.mono B.size)
          have hzw2 := B.size
          clear hb
          have hz1 : ¬ 9223372036854775807 < 1 + (strOf (decL (k))).size := by rw [strOf_size]; have := decL_len (n := (k)) (by omega) (by omega); omega
          have hz2 : ¬ 9223372036854775807 < (strOf X).size + (1 + (strOf (decL (k))).size) := by rw [strOf_size, strOf_size]; have := decL_len (n := (k)) (by omega) (by omega); have := HB1.out (by rw [HL4.out]; omega); omega
          have HSE := Lib.hid (show strOf X ++ ((⟨#[32]⟩ : ByteArray) ++ strOf (decL (k))) = strOf (textK ns (3 + 1)) by
            rw [HTJ.out (by rw [HL4.out]; omega), HNS.out, show (⟨#[32]⟩ : ByteArray) = strOf [32] from rfl, strOf_append, strOf_append]; rfl)
          go_wp2_with fail
          go_roundw
          case rel => exact ⟨3 + 1, by omega, by go_num, by rw [HSE.out], B, HT.out⟩
          case measure => simp [intOf]
      · obtain rfl : j = 4 := by omega
        go_wp2_with fail
        go_ret
        exact ⟨by rw [HTX.out]; rfl, B⟩
  · have HTX := Lib.hid (show textL l s k n = [] by unfold textL; rw [if_neg h])
    obtain ⟨c, hc⟩ : ∃ c, c = checkE l s k := ⟨_, rfl⟩
    rw [← hc] at HC h
    have hb : (c != (0 : Int)) = true := by rw [bne_iff_ne]; exact h
    clear hc h
    go_enter Tryd.func11, Tryd.ntmps11
    go_wp2_with fail
    obtain ⟨B, hk1, hs⟩ := blocks1 w #[.int .i64 l, .int .i64 s, .int .i64 k, .int .u32 (n : Int)] 24
    generalize (w.alloc (.cells #[.int .i64 l, .int .i64 s, .int .i64 k, .int .u32 (n : Int)] 24)) = W at *
    have K1 := Lib.hid hk1
    have HS := Lib.hid hs
    clear hs hk1
    have hzW := B.size
    refine (HC.out _).mono ?_
    rintro e w1 ⟨rfl, hb⟩
    replace B := B.trans (hb.mono B.size)
    have hzw1 := B.size
    clear hb
    go_wp2_with fail
    go_ret
    exact ⟨by rw [HTX.out]; rfl, B⟩

end Go.Proofs.YtgoelfaemclioaaDoor
