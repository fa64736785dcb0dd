/- Texts of one seat, laid together: RefGridE, RefGlue, PlanA, PlanB, InsA, CopyFit, MonoZ. -/
import Derived.Test.YtfefkchjhooloaaGlueBackQ2
import Derived.Test.YtfefkchjhooloaaGlueBackQ1
import Derived.Deep.DeepCutAuto
import Derived.Lib.Overlaps
import Derived.Lib.AppendZerosOnto
import Derived.Shelf.RegionOpenPlain

/-
  The document's answer for grids (wellspringref07), in the program: 'Turned', 'Mul'.
-/
set_option maxRecDepth 100000
namespace Go.Proofs.Ytfefkchjhooloaa
open Go.RowKit

/-- Rows of bytes. -/
def OctM (ll : List (List Nat)) : Prop := ∀ r ∈ ll, ∀ x, x ∈ r → x < 256
theorem IsRows.oct {w : World} {v : Value} {ll : List (List Nat)} (h : IsRows w v ll) : OctM ll := by
  obtain ⟨a, cap, rfl, _, _, h4⟩ := h
  intro r hr x hx
  obtain ⟨i, hi, rfl⟩ := List.mem_iff_getElem.1 hr
  obtain ⟨b, off, _, _, hc⟩ := h4 (by intro e; rw [e] at hi; simp at hi)
  obtain ⟨u, _, hB⟩ := hc i hi
  rw [rowAt_eq ll i hi] at hB
  exact hB.lt x hx
end Go.Proofs.Ytfefkchjhooloaa

/-
  The document's answer for objects that are joined (wellspringref12), in the program: 'All'.
-/
set_option maxRecDepth 100000
namespace Go.Proofs.Ytfefkchjhooloaa
open Go.RowKit

/-- One behind the other. -/
def joinL (ll : List (List Nat)) : List Nat := ll.flatten
def allE (l s k : Int) (ll : List (List Nat)) : Int := if checkE l s k = 0 then (if (ll.length : Int) = k then (if ∀ i, i < ll.length → ((rowAt ll i).length : Int) = s then 0 else 4) else 5) else checkE l s k
def allL (l s k : Int) (ll : List (List Nat)) : List Nat := if allE l s k ll = 0 then joinL ll else []
theorem all_of {l s k : Int} {ll : List (List Nat)} : (checkE l s k ≠ 0 → allE l s k ll = checkE l s k ∧ allL l s k ll = []) ∧ (checkE l s k = 0 → (ll.length : Int) ≠ k → allE l s k ll = 5 ∧ allL l s k ll = []) ∧
    (checkE l s k = 0 → (ll.length : Int) = k → (∃ i, i < ll.length ∧ ((rowAt ll i).length : Int) ≠ s) → allE l s k ll = 4 ∧ allL l s k ll = []) ∧ (checkE l s k = 0 → (ll.length : Int) = k → (∀ i, i < ll.length → ((rowAt ll i).length : Int) = s) → allE l s k ll = 0 ∧ allL l s k ll = joinL ll) := by
  refine ⟨fun h => ?_, fun h h' => ?_, fun h h' h'' => ?_, fun h h' h'' => ?_⟩
  · have e : allE l s k ll = checkE l s k := by unfold allE; rw [if_neg h]
    exact ⟨e, by unfold allL; rw [e, if_neg h]⟩
  · have e : allE l s k ll = 5 := by unfold allE; rw [if_pos h, if_neg h']
    exact ⟨e, by unfold allL; rw [e, if_neg (by decide)]⟩
  · have e : allE l s k ll = 4 := by
      unfold allE; rw [if_pos h, if_pos h', if_neg fun q => ?_]
      obtain ⟨i, hi, hne⟩ := h''
      exact hne (q i hi)
    exact ⟨e, by unfold allL; rw [e, if_neg (by decide)]⟩
  · have e : allE l s k ll = 0 := by unfold allE; rw [if_pos h, if_pos h', if_pos h'']
    exact ⟨e, by unfold allL; rw [e, if_pos rfl]⟩
theorem joinL_take (ll : List (List Nat)) {j : Nat} (hj : j < ll.length) : joinL (ll.take (j + 1)) = joinL (ll.take j) ++ rowAt ll j := by
  unfold joinL; rw [take_rowAt ll j hj, List.flatten_append]; simp
theorem joinL_len {ll : List (List Nat)} {s : Nat} : ∀ j, j ≤ ll.length → (∀ i, i < j → (rowAt ll i).length = s) → (joinL (ll.take j)).length = j * s
  | 0, _, _ => by simp [joinL]
  | j + 1, hj, h => by rw [joinL_take ll (by omega), List.length_append, joinL_len j (by omega) (fun i hi => h i (by omega)), h j (by omega), Nat.succ_mul]
end Go.Proofs.Ytfefkchjhooloaa

/-
  Plans in the program (layer 10): 'need', 'Check'.
-/
set_option maxRecDepth 100000
namespace Go.Proofs.Ytfefkchjhooloaa
open Go.RowKit

/-- How many symbols a length needs, however many. -/
def needT (l s : Nat) : Nat := if l ≤ s then 1 else (l - 1) / s + 1
theorem needT_eq {l s : Nat} (hs : 1 ≤ s) : needT l s = max 1 (l / s + if 0 < l % s then 1 else 0) := by
  unfold needT
  by_cases h : l ≤ s
  · rw [if_pos h]
    by_cases h1 : l = s
    · subst h1; rw [Nat.div_self (by omega), Nat.mod_self]; rfl
    · rw [Nat.div_eq_of_lt (by omega), Nat.mod_eq_of_lt (by omega)]
      split <;> rfl
  · rw [if_neg h]
    have h1 := Nat.div_add_mod l s
    have h2 := Nat.mod_lt l (show 0 < s by omega)
    have h4 : 1 ≤ l / s := (Nat.le_div_iff_mul_le (by omega)).2 (by omega)
    by_cases h3 : 0 < l % s
    · rw [if_pos h3]
      have e : (l - 1) / s = l / s := by
        obtain ⟨q, hq⟩ : ∃ q, q = l / s := ⟨_, rfl⟩
        obtain ⟨r, hr⟩ : ∃ r, r = l % s := ⟨_, rfl⟩
        rw [← hq, ← hr] at h1
        rw [← hr] at h2 h3
        have : l - 1 = s * q + (r - 1) := by omega
        rw [this, Nat.mul_add_div (by omega), Nat.div_eq_of_lt (by omega), ← hq]; omega
      rw [e]; omega
    · rw [if_neg h3]
      have e : (l - 1) / s = l / s - 1 := by
        obtain ⟨q, hq⟩ : ∃ q, l / s = q + 1 := ⟨l / s - 1, by omega⟩
        have h5 : l = s * (q + 1) := by rw [← hq]; omega
        have h6 : s * (q + 1) = s * q + s := Nat.mul_succ s q
        have : l - 1 = s * q + (s - 1) := by omega
        rw [this, Nat.mul_add_div (by omega), Nat.div_eq_of_lt (by omega), hq]; omega
      rw [e]; omega
theorem needT_many {l s : Nat} (hs : 1 ≤ s) : 4096 < needT l s ↔ 4096 < needsN l s := by
  unfold needT needsN
  by_cases h : l ≤ s
  · rw [if_pos h, if_pos h]
  · rw [if_neg h, if_neg h]
    by_cases h2 : 4097 * s < l
    · rw [if_pos h2]
      have : 4097 ≤ (l - 1) / s := (Nat.le_div_iff_mul_le (by omega)).2 (by omega)
      omega
    · rw [if_neg h2]
theorem needT_few {l s : Nat} (hs : 1 ≤ s) (h : ¬ 4096 < needT l s) : needT l s = needsN l s := by
  unfold needT needsN at *
  by_cases h1 : l ≤ s
  · rw [if_pos h1, if_pos h1]
  · rw [if_neg h1] at h
    rw [if_neg h1, if_neg h1, if_neg]
    intro h2
    have : 4097 ≤ (l - 1) / s := (Nat.le_div_iff_mul_le (by omega)).2 (by omega)
    omega
/-- What need answers. -/
def needI (l s : Int) : Int := if s < 1 then 0 else if l < 0 then 1 else (needT l.toNat s.toNat : Int)
set_option maxHeartbeats 1000000 in
theorem need_pos (l s : Nat) (w : World) (hl : l ≤ 9223372036854775807) (hs : 1 ≤ s) (hs2 : s ≤ 9223372036854775807) :
    Calls Try.prog 30 #[.int .i64 (l : Int), .int .i64 (s : Int)] w fun e w' => e = .returned (.int .i64 (needT l s : Int)) ∧ w = w' := by
  have HE := Lib.hid (needT_eq (l := l) hs)
  obtain ⟨q, hq⟩ : ∃ q, q = l / s := ⟨_, rfl⟩
  obtain ⟨r, hr⟩ : ∃ r, r = l % s := ⟨_, rfl⟩
  have HQR := Lib.hid (show q * s + r = l by rw [hq, hr, Nat.mul_comm]; exact Nat.div_add_mod l s)
  rw [← hq, ← hr] at HE
  have hq1 : q ≤ l := by rw [hq]; exact Nat.div_le_self _ _
  have hqi : (l : Int) / (s : Int) = (q : Int) := by rw [hq]; rfl
  have hri : (l : Int) % (s : Int) = (r : Int) := by rw [hr]; rfl
  have hm : ¬ (s : Int) < 1 := by omega
  have hs0 : ¬ s = 0 := by omega
  have hrs : r < s := by rw [hr]; exact Nat.mod_lt _ (by omega)
  clear hq hr
  by_cases h : 0 < r
  · have HE2 := Lib.hid (show (needT l s : Int) = max 1 ((q : Int) + 1) by rw [HE.out, if_pos h]; omega)
    have h1 : (0 : Int) < (r : Int) := by omega
    have hq2 : q < 9223372036854775807 := by
      have : q * s + r ≤ l := by have := HQR.out; omega
      have : q ≤ q * s := Nat.le_mul_of_pos_right q (by omega)
      omega
    clear h HE
    go_enter Try.func30, Try.ntmps30
    go_wp2_with fail
    all_goals go_ret
    all_goals refine ⟨congrArg (fun z : Int => Ending.returned (.int .i64 z)) ?_, rfl⟩
    all_goals (rw [HE2.out]; try omega)
  · have HE2 := Lib.hid (show (needT l s : Int) = max 1 (q : Int) by rw [HE.out, if_neg h]; omega)
    have h1 : ¬ (0 : Int) < (r : Int) := by omega
    clear h HE
    go_enter Try.func30, Try.ntmps30
    go_wp2_with fail
    all_goals go_ret
    all_goals refine ⟨congrArg (fun z : Int => Ending.returned (.int .i64 z)) ?_, rfl⟩
    all_goals (rw [HE2.out]; try omega)
theorem need_none (l s : Int) (w : World) (hs : s < 1) :
    Calls Try.prog 30 #[.int .i64 l, .int .i64 s] w fun e w' => e = .returned (.int .i64 0) ∧ w = w' := by
  go_enter Try.func30, Try.ntmps30
  go_wp2_with fail
  go_ret
  exact ⟨rfl, rfl⟩
set_option maxHeartbeats 1000000 in
theorem need_neg (l : Int) (s : Nat) (w : World) (hl0 : -9223372036854775808 ≤ l) (hl : l < 0) (hs : 1 ≤ s) (hs2 : s ≤ 9223372036854775807) :
    Calls Try.prog 30 #[.int .i64 l, .int .i64 (s : Int)] w fun e w' => e = .returned (.int .i64 1) ∧ w = w' := by
  obtain ⟨m, rfl⟩ : ∃ m : Nat, l = -(m : Int) := ⟨l.natAbs, by omega⟩
  have hm0 : 1 ≤ m := by omega
  have hm : ¬ (s : Int) < 1 := by omega
  have hs0 : ¬ s = 0 := by omega
  obtain ⟨q, hq⟩ : ∃ q, q = m / s := ⟨_, rfl⟩
  have hqm : q ≤ m := by rw [hq]; exact Nat.div_le_self _ _
  have hqi : (m : Int) / (s : Int) = (q : Int) := by rw [hq]; rfl
  clear hq
  go_enter Try.func30, Try.ntmps30
  go_wp2_with fail
  all_goals go_ret
  all_goals refine ⟨congrArg (fun z : Int => Ending.returned (.int .i64 z)) ?_, rfl⟩
  all_goals omega
theorem need_any (l s : Int) (w : World) (hl0 : -9223372036854775808 ≤ l) (hl : l ≤ 9223372036854775807) (hs2 : s ≤ 9223372036854775807) :
    Calls Try.prog 30 #[.int .i64 l, .int .i64 s] w fun e w' => e = .returned (.int .i64 (needI l s)) ∧ w = w' := by
  unfold needI
  by_cases h : s < 1
  · rw [if_pos h]; exact need_none l s w h
  · rw [if_neg h]
    obtain ⟨s', rfl⟩ : ∃ s' : Nat, s = s' := ⟨s.toNat, by omega⟩
    by_cases h2 : l < 0
    · rw [if_pos h2]; exact need_neg l s' w hl0 h2 (by omega) (by omega)
    · rw [if_neg h2]
      obtain ⟨l', rfl⟩ : ∃ l' : Nat, l = l' := ⟨l.toNat, by omega⟩
      exact need_pos l' s' w (by omega) (by omega) (by omega)

/-- The program's code for a plan is the document's. -/
theorem check_spell (l s k : Int) : checkE l s k = if l < 0 then 2 else if s < 1 ∨ 65535 < s then 4 else if 4096 < needI l s then 5 else if k = needI l s then 0 else 14 := by
  unfold checkE needI
  by_cases h1 : l < 0
  · rw [if_pos h1, if_pos h1]
  · rw [if_neg h1, if_neg h1]
    by_cases h2 : s < 1 ∨ 65535 < s
    · rw [if_pos h2, if_pos h2]
    · have hs : 1 ≤ s.toNat := by omega
      have hm := needT_many (l := l.toNat) hs
      rw [if_neg h2, if_neg h2, if_neg (show ¬ s < 1 by omega), if_neg h1]
      by_cases h3 : 4096 < needT l.toNat s.toNat
      · rw [if_pos (hm.1 h3), if_pos (by omega)]
      · rw [if_neg (fun h => h3 (hm.2 h)), if_neg (show ¬ (4096 : Int) < (needT l.toNat s.toNat : Int) by omega), needT_few hs h3]
set_option maxHeartbeats 1000000 in
theorem check_any (l s k n : Int) (w : World) (hl0 : -9223372036854775808 ≤ l) (hl : l ≤ 9223372036854775807) (hs2 : s ≤ 9223372036854775807) :
    Calls Try.prog 31 #[.agg #[.int .i64 l, .int .i64 s, .int .i64 k, .int .u32 n]] w fun e w' => e = .returned (.int .i64 (checkE l s k)) ∧ Below w.heap.size w w' := by
  have hsp := check_spell l s k
  have HN := Lib.hid (fun w => need_any l s w hl0 hl hs2)
  obtain ⟨m, hm⟩ : ∃ m, m = needI l s := ⟨_, rfl⟩
  rw [← hm] at hsp HN
  clear hm
  by_cases h1 : l < 0
  · have HC := Lib.hid (show checkE l s k = 2 by rw [hsp, if_pos h1])
    clear hsp
    go_enter Try.func31, Try.ntmps31
    go_wp2_with fail
    go_ret
    exact ⟨by rw [HC.out]; rfl, (Below.refl _ _).alloc (Nat.le_refl _) _⟩
  · rw [if_neg h1] at hsp
    by_cases h2 : s < 1
    · have HC := Lib.hid (show checkE l s k = 4 by rw [hsp, if_pos (.inl h2)])
      clear hsp
      go_enter Try.func31, Try.ntmps31
      go_wp2_with fail
      go_ret
      exact ⟨by rw [HC.out]; rfl, (Below.refl _ _).alloc (Nat.le_refl _) _⟩
    · by_cases h3 : 65535 < s
      · have HC := Lib.hid (show checkE l s k = 4 by rw [hsp, if_pos (.inr h3)])
        clear hsp
        go_enter Try.func31, Try.ntmps31
        go_wp2_with fail
        go_ret
        exact ⟨by rw [HC.out]; rfl, (Below.refl _ _).alloc (Nat.le_refl _) _⟩
      · rw [if_neg (by omega)] at hsp
        by_cases h4 : 4096 < m
        · have HC := Lib.hid (show checkE l s k = 5 by rw [hsp, if_pos h4])
          clear hsp
          go_enter Try.func31, Try.ntmps31
          go_wp2_with fail
          refine (HN.out _).mono ?_
          rintro e w' ⟨rfl, rfl⟩
          go_wp2_with fail
          go_ret
          exact ⟨by rw [HC.out]; rfl, (Below.refl _ _).alloc (Nat.le_refl _) _⟩
        · rw [if_neg h4] at hsp
          by_cases h5 : k = m
          · have HC := Lib.hid (show checkE l s k = 0 by rw [hsp, if_pos h5])
            have h6 : (k != m) = false := by rw [h5]; simp
            clear hsp h5
            go_enter Try.func31, Try.ntmps31
            go_wp2_with fail
            refine (HN.out _).mono ?_
            rintro e w' ⟨rfl, rfl⟩
            go_wp2_with fail
            go_ret
            exact ⟨by rw [HC.out]; rfl, (Below.refl _ _).alloc (Nat.le_refl _) _⟩
          · have HC := Lib.hid (show checkE l s k = 14 by rw [hsp, if_neg h5])
            have h6 : (k != m) = true := by rw [bne_iff_ne]; exact h5
            clear hsp
            go_enter Try.func31, Try.ntmps31
            go_wp2_with fail
            refine (HN.out _).mono ?_
            rintro e w' ⟨rfl, rfl⟩
            go_wp2_with fail
            go_ret
            exact ⟨by rw [HC.out]; rfl, (Below.refl _ _).alloc (Nat.le_refl _) _⟩

end Go.Proofs.Ytfefkchjhooloaa

/-
  Plans in the program (layer 10): 'checked', 'Of', 'Room', 'Pad'.
-/
set_option maxRecDepth 100000
namespace Go.Proofs.Ytfefkchjhooloaa
open Go.RowKit

/-- A plan's value. -/
def planV (l s k n : Int) : Value := .agg #[.int .i64 l, .int .i64 s, .int .i64 k, .int .u32 n]
def PlanE (w : World) (l s k n : Int) (err : Int) (e : Ending) (w' : World) : Prop := e = .returned (.tuple #[planV l s k n, .int .i64 err]) ∧ Below w.heap.size w w'
def okV (c x : Int) : Int := if c = 0 then x else 0
theorem store4_plan {w0 w : World} {g : Nat} {a b c d : Value} {T : TypeId} (hK : Blk w g #[a, b, c, d] T) (hg : w0.heap.size ≤ g) (hB : Below w0.heap.size w0 w) (x y z u : Value) :
    let w' := (((w.setCell ⟨g, 0, none⟩ x).setCell ⟨g, 1, none⟩ y).setCell ⟨g, 2, none⟩ z).setCell ⟨g, 3, none⟩ u
    w'.cell? ⟨g, 0, none⟩ = some x ∧ w'.cell? ⟨g, 1, none⟩ = some y ∧ w'.cell? ⟨g, 2, none⟩ = some z ∧ w'.cell? ⟨g, 3, none⟩ = some u ∧ Below w0.heap.size w0 w' := by
  have h := (((hK.set 0 x).set 1 y).set 2 z).set 3 u
  exact ⟨h.cell 0, h.cell 1, h.cell 2, h.cell 3, (((hB.setCell (p := ⟨g, 0, none⟩) hg _).setCell (p := ⟨g, 1, none⟩) hg _).setCell (p := ⟨g, 2, none⟩) hg _).setCell (p := ⟨g, 3, none⟩) hg _⟩
theorem Blk.four {w : World} {g : Nat} {a b c d : Value} {T : TypeId} (h : Blk w g #[a, b, c, d] T) : w.cell? ⟨g, 0, none⟩ = some a ∧ w.cell? ⟨g, 1, none⟩ = some b ∧ w.cell? ⟨g, 2, none⟩ = some c ∧ w.cell? ⟨g, 3, none⟩ = some d := ⟨h.cell 0, h.cell 1, h.cell 2, h.cell 3⟩

set_option maxHeartbeats 1000000 in
theorem checked_any (l s k n : Int) (w : World) (hl0 : -9223372036854775808 ≤ l) (hl : l ≤ 9223372036854775807) (hs2 : s ≤ 9223372036854775807) :
    Calls Try.prog 29 #[planV l s k n] w (PlanE w (okV (checkE l s k) l) (okV (checkE l s k) s) (okV (checkE l s k) k) (okV (checkE l s k) n) (checkE l s k)) := by
  have HC := Lib.hid (fun w => check_any l s k n w hl0 hl hs2)
  obtain ⟨c, hc⟩ : ∃ c, c = checkE l s k := ⟨_, rfl⟩
  rw [← hc] at HC ⊢
  clear hc
  unfold planV
  by_cases h : c = 0
  · subst h
    go_enter Try.func29, Try.ntmps29
    go_wp2_with fail
    obtain ⟨B, hk1, hk2, hs⟩ := blocks2 w #[.int .i64 l, .int .i64 s, .int .i64 k, .int .u32 n] 24 #[.int .i64 0, .int .i64 0, .int .i64 0, .int .u32 0] 24
    generalize ((w.alloc (.cells #[.int .i64 l, .int .i64 s, .int .i64 k, .int .u32 n] 24)).alloc (.cells #[.int .i64 0, .int .i64 0, .int .i64 0, .int .u32 0] 24)) = W at *
    have K1 := Lib.hid hk1
    have K2 := Lib.hid hk2
    have HS := Lib.hid hs
    clear hs hk1 hk2
    have hzW := B.size
    refine (HC.out _).mono ?_
    rintro e w1 ⟨rfl, hb⟩
    replace K1 := Lib.hid (K1.out.go hb)
    replace K2 := Lib.hid (K2.out.go hb)
    replace B := B.trans (hb.mono B.size)
    have hzw1 := B.size
    clear hb
    obtain ⟨p0, p1, p2, p3⟩ := K1.out.four
    have pl := K1.out.lt
    obtain ⟨q0, q1, q2, q3⟩ := K2.out.four
    have ql := K2.out.lt
    have r0 := K2.out.free 0
    have r1 := K2.out.free 1
    have r2 := K2.out.free 2
    have r3 := K2.out.free 3
    go_wp2_with fail
    obtain ⟨e0, e1, e2, e3, hB⟩ := store4_plan K2.out (by omega) B (.int .i64 l) (.int .i64 s) (.int .i64 k) (.int .u32 n)
    exact bodyPost_ret (v := .tuple #[planV l s k n, .int .i64 0]) (by simp [results, Try.results29, go_sem, e0, e1, e2, e3, planV]) rfl ⟨by simp [okV], hB⟩
  · have hb : (c != (0 : Int)) = true := by rw [bne_iff_ne]; exact h
    have e : ∀ x, okV c x = 0 := fun x => if_neg h
    rw [e, e, e, e]
    clear h e
    go_enter Try.func29, Try.ntmps29
    go_wp2_with fail
    obtain ⟨B, hk1, hk2, hs⟩ := blocks2 w #[.int .i64 l, .int .i64 s, .int .i64 k, .int .u32 n] 24 #[.int .i64 0, .int .i64 0, .int .i64 0, .int .u32 0] 24
    generalize ((w.alloc (.cells #[.int .i64 l, .int .i64 s, .int .i64 k, .int .u32 n] 24)).alloc (.cells #[.int .i64 0, .int .i64 0, .int .i64 0, .int .u32 0] 24)) = W at *
    have K1 := Lib.hid hk1
    have K2 := Lib.hid hk2
    have HS := Lib.hid hs
    clear hs hk1 hk2
    have hzW := B.size
    refine (HC.out _).mono ?_
    rintro e w1 ⟨rfl, hb⟩
    replace K1 := Lib.hid (K1.out.go hb)
    replace K2 := Lib.hid (K2.out.go hb)
    replace B := B.trans (hb.mono B.size)
    have hzw1 := B.size
    clear hb
    obtain ⟨p0, p1, p2, p3⟩ := K1.out.four
    have pl := K1.out.lt
    obtain ⟨q0, q1, q2, q3⟩ := K2.out.four
    have ql := K2.out.lt
    have r0 := K2.out.free 0
    have r1 := K2.out.free 1
    have r2 := K2.out.free 2
    have r3 := K2.out.free 3
    go_wp2_with fail
    obtain ⟨e0, e1, e2, e3, hB⟩ := store4_plan K2.out (by omega) B (.int .i64 0) (.int .i64 0) (.int .i64 0) (.int .u32 0)
    exact bodyPost_ret (v := .tuple #[planV 0 0 0 0, .int .i64 c]) (by simp [results, Try.results29, go_sem, e0, e1, e2, e3, planV]) rfl ⟨rfl, hB⟩

set_option maxHeartbeats 1000000 in
theorem of10_any (l s n : Int) (w : World) (hl0 : -9223372036854775808 ≤ l) (hl : l ≤ 9223372036854775807) (hs2 : s ≤ 9223372036854775807) :
    Calls Try.prog 14 #[.int .i64 l, .int .i64 s, .int .u32 n] w (PlanE w (okV (checkE l s (needI l s)) l) (okV (checkE l s (needI l s)) s) (okV (checkE l s (needI l s)) (needI l s)) (okV (checkE l s (needI l s)) n) (checkE l s (needI l s))) := by
  have HN := Lib.hid (fun w => need_any l s w hl0 hl hs2)
  have HC := Lib.hid (fun w => checked_any l s (needI l s) n w hl0 hl hs2)
  obtain ⟨m, hm⟩ : ∃ m, m = needI l s := ⟨_, rfl⟩
  rw [← hm] at HN HC ⊢
  clear hm
  obtain ⟨c, hc⟩ : ∃ c, c = checkE l s m := ⟨_, rfl⟩
  rw [← hc] at HC ⊢
  clear hc
  go_enter Try.func14, Try.ntmps14
  go_wp2_with fail
  obtain ⟨B, hk1, hs⟩ := blocks1 w #[.int .i64 0, .int .i64 0, .int .i64 0, .int .u32 0] 24
  generalize (w.alloc (.cells #[.int .i64 0, .int .i64 0, .int .i64 0, .int .u32 0] 24)) = W at *
  have K1 := Lib.hid hk1
  have HS := Lib.hid hs
  clear hs hk1
  have hzW := B.size
  refine (HN.out _).mono ?_
  rintro e w1 ⟨rfl, rfl⟩
  go_wp2_with fail
  refine (HC.out _).mono ?_
  rintro e w2 ⟨rfl, hb⟩
  replace K1 := Lib.hid (K1.out.go hb)
  replace B := B.trans (hb.mono B.size)
  clear hb
  obtain ⟨q0, q1, q2, q3⟩ := K1.out.four
  have ql := K1.out.lt
  have r0 := K1.out.free 0
  have r1 := K1.out.free 1
  have r2 := K1.out.free 2
  have r3 := K1.out.free 3
  unfold planV
  go_wp2_with fail
  obtain ⟨e0, e1, e2, e3, hB⟩ := store4_plan K1.out (by omega) B (.int .i64 (okV c l)) (.int .i64 (okV c s)) (.int .i64 (okV c m)) (.int .u32 (okV c n))
  exact bodyPost_ret (v := .tuple #[planV (okV c l) (okV c s) (okV c m) (okV c n), .int .i64 c]) (by simp [results, Try.results14, go_sem, e0, e1, e2, e3, planV]) rfl ⟨rfl, hB⟩
/-- Room and padding. -/
def roomI (l s k : Int) : Int := if checkE l s k = 0 then k * s else 0
def padI (l s k : Int) : Int := if checkE l s k = 0 then k * s - l else 0
theorem check_ok10 {l s k : Int} (h : checkE l s k = 0) : 0 ≤ l ∧ 1 ≤ s ∧ s ≤ 65535 ∧ 1 ≤ k ∧ k ≤ 4096 ∧ k = needI l s ∧ l ≤ k * s := by
  rw [check_spell] at h
  by_cases h1 : l < 0
  · rw [if_pos h1] at h; cases h
  · rw [if_neg h1] at h
    by_cases h2 : s < 1 ∨ 65535 < s
    · rw [if_pos h2] at h; cases h
    · rw [if_neg h2] at h
      by_cases h3 : 4096 < needI l s
      · rw [if_pos h3] at h; cases h
      · rw [if_neg h3] at h
        by_cases h4 : k = needI l s
        · have hn : needI l s = (needT l.toNat s.toNat : Int) := by unfold needI; rw [if_neg (by omega), if_neg h1]
          obtain ⟨a, ha⟩ : ∃ a : Nat, l = a := ⟨l.toNat, by omega⟩
          obtain ⟨b, hb⟩ : ∃ b : Nat, s = b := ⟨s.toNat, by omega⟩
          subst ha
          subst hb
          simp only [Int.toNat_natCast] at hn
          have h5 : 1 ≤ needT a b := by unfold needT; split; exact Nat.le_refl _; exact Nat.succ_le_succ (Nat.zero_le _)
          have h6 : a ≤ needT a b * b := by
            unfold needT
            by_cases h7 : a ≤ b
            · rw [if_pos h7]; omega
            · rw [if_neg h7]
              have h8 := Nat.div_add_mod (a - 1) b
              have h9 := Nat.mod_lt (a - 1) (show 0 < b by omega)
              have h10 := Nat.mul_comm ((a - 1) / b) b
              obtain ⟨q, hq⟩ : ∃ q, q = (a - 1) / b := ⟨_, rfl⟩
              obtain ⟨r, hr⟩ : ∃ r, r = (a - 1) % b := ⟨_, rfl⟩
              rw [Nat.succ_mul]
              rw [← hq] at h8 h10 ⊢
              rw [← hr] at h8 h9
              obtain ⟨t, ht⟩ : ∃ t, t = b * q := ⟨_, rfl⟩
              rw [h10]
              rw [← ht] at h8 ⊢
              omega
          have h7 : ((needT a b * b : Nat) : Int) = (needT a b : Int) * (b : Int) := by simp
          refine ⟨by omega, by omega, by omega, by omega, by omega, h4, ?_⟩
          rw [h4, hn, ← h7]; omega
        · rw [if_neg h4] at h; cases h

set_option maxHeartbeats 1000000 in
theorem room_any (l s k n : Int) (w : World) (hl0 : -9223372036854775808 ≤ l) (hl : l ≤ 9223372036854775807) (hs2 : s ≤ 9223372036854775807) :
    Calls Try.prog 15 #[planV l s k n] w fun e w' => e = .returned (.int .i64 (roomI l s k)) ∧ Below w.heap.size w w' := by
  have HC := Lib.hid (fun w => check_any l s k n w hl0 hl hs2)
  unfold roomI planV
  by_cases h : checkE l s k = 0
  · rw [if_pos h]
    rw [h] at HC
    obtain ⟨h1, h2, h3, h4, h5, -, h6⟩ := check_ok10 h
    obtain ⟨s', rfl⟩ : ∃ s' : Nat, s = s' := ⟨s.toNat, by omega⟩
    obtain ⟨k', rfl⟩ : ∃ k' : Nat, k = k' := ⟨k.toNat, by omega⟩
    obtain ⟨p, hp⟩ : ∃ p, p = k' * s' := ⟨_, rfl⟩
    have hpi : (k' : Int) * (s' : Int) = (p : Int) := by rw [hp]; simp
    have hp2 : p ≤ 4096 * 65535 := by rw [hp]; exact Nat.mul_le_mul (by omega) (by omega)
    clear h h6 hp
    go_enter Try.func15, Try.ntmps15
    go_wp2_with fail
    obtain ⟨B, hk1, hs⟩ := blocks1 w #[.int .i64 l, .int .i64 (s' : Int), .int .i64 (k' : Int), .int .u32 n] 24
    generalize (w.alloc (.cells #[.int .i64 l, .int .i64 (s' : Int), .int .i64 (k' : Int), .int .u32 n] 24)) = W at *
    have K1 := Lib.hid hk1
    have HS := Lib.hid hs
    clear hs hk1
    have hzW := B.size
    refine (HC.out _).mono ?_
    rintro e w1 ⟨rfl, hb⟩
    replace K1 := Lib.hid (K1.out.go hb)
    replace B := B.trans (hb.mono B.size)
    have hzw1 := B.size
    clear hb
    obtain ⟨p0, p1, p2, p3⟩ := K1.out.four
    have pl := K1.out.lt
    clear HC
    go_wp2_with fail
    go_ret
    exact ⟨by first | rfl | (rw [hpi]; rfl), B⟩
  · rw [if_neg h]
    obtain ⟨c, hc⟩ : ∃ c, c = checkE l s k := ⟨_, rfl⟩
    rw [← hc] at HC h
    have hb : (c != (0 : Int)) = true := by rw [bne_iff_ne]; exact h
    clear hc h
    go_enter Try.func15, Try.ntmps15
    go_wp2_with fail
    obtain ⟨B, hk1, hs⟩ := blocks1 w #[.int .i64 l, .int .i64 s, .int .i64 k, .int .u32 n] 24
    generalize (w.alloc (.cells #[.int .i64 l, .int .i64 s, .int .i64 k, .int .u32 n] 24)) = W at *
    have K1 := Lib.hid hk1
    have HS := Lib.hid hs
    clear hs hk1
    have hzW := B.size
    refine (HC.out _).mono ?_
    rintro e w1 ⟨rfl, hb⟩
    replace B := B.trans (hb.mono B.size)
    have hzw1 := B.size
    clear hb
    go_wp2_with fail
    go_ret
    exact ⟨rfl, B⟩
theorem load_plan10 {w : World} {g : Nat} {l s k n : Value} {T : TypeId} (h : Blk w g #[l, s, k, n] T) : (Instr.loadAt 24 (.pointer (some ⟨g, 0, none⟩))).run Try.prog w = .ok (.agg #[l, s, k, n]) w := by
  obtain ⟨k0, k1, k2, k3⟩ := h.four
  go_simp
theorem sub_int10 {x y : Operand} {a b c : Nat} (h : (a : Int) - (b : Int) = (c : Int)) (hc : c ≤ 9223372036854775807) (w : World) : (do eqGuard .sub 3 x y (.int .i64 a) (.int .i64 b); binOp .sub 3 (.int .i64 a) (.int .i64 b) : Sem Value).run Try.prog w = .ok (.int .i64 c) w := by
  go_simp
  rw [IntKind.wrap_i64]; omega
set_option maxHeartbeats 1000000 in
theorem pad_any (l s k n : Int) (w : World) (hl0 : -9223372036854775808 ≤ l) (hl : l ≤ 9223372036854775807) (hs2 : s ≤ 9223372036854775807) :
    Calls Try.prog 34 #[planV l s k n] w fun e w' => e = .returned (.int .i64 (padI l s k)) ∧ Below w.heap.size w w' := by
  have HC := Lib.hid (fun w => check_any l s k n w hl0 hl hs2)
  have HR := Lib.hid (fun w => room_any l s k n w hl0 hl hs2)
  unfold padI
  unfold roomI at HR
  unfold planV at HR ⊢
  by_cases h : checkE l s k = 0
  · rw [if_pos h]
    rw [if_pos h] at HR
    rw [h] at HC
    obtain ⟨h1, h2, h3, h4, h5, -, h6⟩ := check_ok10 h
    obtain ⟨l', rfl⟩ : ∃ l' : Nat, l = l' := ⟨l.toNat, by omega⟩
    obtain ⟨s', rfl⟩ : ∃ s' : Nat, s = s' := ⟨s.toNat, by omega⟩
    obtain ⟨k', rfl⟩ : ∃ k' : Nat, k = k' := ⟨k.toNat, by omega⟩
    obtain ⟨p, hp⟩ : ∃ p, p = k' * s' := ⟨_, rfl⟩
    have hpi : (k' : Int) * (s' : Int) = (p : Int) := by rw [hp]; simp
    have hp2 : p ≤ 4096 * 65535 := by rw [hp]; exact Nat.mul_le_mul (by omega) (by omega)
    rw [hpi] at HR h6 ⊢
    obtain ⟨d, hd⟩ : ∃ d, d = p - l' := ⟨_, rfl⟩
    have hdi : (p : Int) - (l' : Int) = (d : Int) := by omega
    rw [hdi]
    have HD := Lib.hid hdi
    have hd2 : d ≤ p := by omega
    clear h h6 hp hpi hd hdi
    go_enter Try.func34, Try.ntmps34
    go_wp2_with fail
    obtain ⟨B, hk1, hs⟩ := blocks1 w #[.int .i64 (l' : Int), .int .i64 (s' : Int), .int .i64 (k' : Int), .int .u32 n] 24
    generalize (w.alloc (.cells #[.int .i64 (l' : Int), .int .i64 (s' : Int), .int .i64 (k' : Int), .int .u32 n] 24)) = W at *
    have K1 := Lib.hid hk1
    have HS := Lib.hid hs
    clear hs hk1
    have hzW := B.size
    refine (HC.out _).mono ?_
    rintro e w1 ⟨rfl, hb⟩
    replace K1 := Lib.hid (K1.out.go hb)
    replace B := B.trans (hb.mono B.size)
    have hzw1 := B.size
    clear hb
    go_upto_region 3 with fail
    obtain ⟨g, hg⟩ : ∃ g : Nat, g = w.heap.size := ⟨_, rfl⟩
    rw [← hg] at K1
    simp only [← hg]
    clear hg
    refine wp_region_mono (C := Cb w1) (R := Rb) (H := fun _ => Hb w1) [Ty.val 6 (.agg #[.int .i64 (l' : Int), .int .i64 (s' : Int), .int .i64 (k' : Int), .int .u32 n]), Ty.val 7 (.int .i64 (p : Int)), Ty.val 8 (.pointer (some ⟨g, 0, none⟩)), Ty.val 9 (.int .i64 (l' : Int)), Ty.val 10 (.int .i64 (d : Int)), Ty.val 2 (.int .i64 (d : Int))] (by kernel_rfl) (hC_b w1) (hCH_b w1) (drew_b w1) ⟨trivial, trivial, trivial, trivial, trivial, trivial, trivial⟩ (by kernel_rfl) ?_ ?_
    · refine ⟨?_, ?_, ?_, ?_, ?_, ?_, trivial⟩
      · intro ac wc hC hsz hfr hd hpr
        have d1 : ac.eval (.tmp 1) = (.pointer (some ⟨g, 0, none⟩)) := hfr 1 rfl
        rw [if_pos (wanted_none rfl)]
        exact ob_load _ rfl rfl rfl (Nat.lt_of_lt_of_eq (by decide : 6 < 11) hsz.symm) rfl d1 (load_plan10 (K1.out.go hC)) (Below.refl _ _) rfl
      · intro ac wc hC hsz hfr hd hpr
        have d6 : ac.eval (.tmp 6) = (.agg #[.int .i64 (l' : Int), .int .i64 (s' : Int), .int .i64 (k' : Int), .int .u32 n]) := hd 0 rfl
        rw [if_pos (wanted_none rfl)]
        refine ob_call rfl rfl rfl (Nat.lt_of_lt_of_eq (by decide : 7 < 11) hsz.symm) rfl (enter_of Try.func15 (by kernel_rfl) rfl) ?_
        show Calls Try.prog 15 #[ac.eval (.tmp 6)] wc _
        rw [d6]
        exact (HR.out wc).mono fun _ _ ⟨he, hb⟩ => ⟨_, he, rfl, hb⟩
      · intro ac wc hC hsz hfr hd hpr
        have d1 : ac.eval (.tmp 1) = (.pointer (some ⟨g, 0, none⟩)) := hfr 1 rfl
        rw [if_pos (wanted_none rfl)]
        exact ob_field _ rfl rfl rfl (Nat.lt_of_lt_of_eq (by decide : 8 < 11) hsz.symm) rfl d1 (fun w => by go_simp) (Below.refl _ _) rfl
      · intro ac wc hC hsz hfr hd hpr
        have d8 : ac.eval (.tmp 8) = (.pointer (some ⟨g, 0, none⟩)) := hd 2 rfl
        rw [if_pos (wanted_none rfl)]
        exact ob_load _ rfl rfl rfl (Nat.lt_of_lt_of_eq (by decide : 9 < 11) hsz.symm) rfl d8 (load_int ((K1.out.go hC).cell 0)) (Below.refl _ _) rfl
      · intro ac wc hC hsz hfr hd hpr
        have d7 : ac.eval (.tmp 7) = (.int .i64 (p : Int)) := hd 1 rfl
        have d9 : ac.eval (.tmp 9) = (.int .i64 (l' : Int)) := hd 3 rfl
        rw [if_pos (wanted_none rfl)]
        exact ob_bin _ rfl rfl rfl (Nat.lt_of_lt_of_eq (by decide : 10 < 11) hsz.symm) rfl d7 d9 (sub_int10 HD.out (by omega)) (Below.refl _ _) rfl
      · intro ac wc hC hsz hfr hd hpr
        have d10 : ac.eval (.tmp 10) = (.int .i64 (d : Int)) := hd 4 rfl
        rw [if_pos (wanted_none rfl)]
        exact ob_copy rfl rfl rfl (Nat.lt_of_lt_of_eq (by decide : 2 < 11) hsz.symm) (Or.inr rfl) (Below.refl _ _) d10
    intro a' w2 hC hdef hsz hfr hd
    have e6 : a'.eval (.tmp 6) = (.agg #[.int .i64 (l' : Int), .int .i64 (s' : Int), .int .i64 (k' : Int), .int .u32 n]) := hd 0 (by decide)
    have e7 : a'.eval (.tmp 7) = (.int .i64 (p : Int)) := hd 1 (by decide)
    have e8 : a'.eval (.tmp 8) = (.pointer (some ⟨g, 0, none⟩)) := hd 2 (by decide)
    have e9 : a'.eval (.tmp 9) = (.int .i64 (l' : Int)) := hd 3 (by decide)
    have e10 : a'.eval (.tmp 10) = (.int .i64 (d : Int)) := hd 4 (by decide)
    have e2 : a'.eval (.tmp 2) = (.int .i64 (d : Int)) := hd 5 (by decide)
    have hact := act_puts hdef hsz hfr
    simp only [dstsOf, List.filterMap, putAll, Act.put, List.setIfInBounds_toArray, List.set_cons_succ, List.set_cons_zero, e6, e7, e8, e9, e10, e2] at hact
    clear hd hfr hsz hdef e6 e7 e8 e9 e10 e2
    subst hact
    replace B := B.trans (hC.mono B.size)
    clear hC
    go_wp2_with fail
    go_ret
    exact ⟨rfl, B⟩
  · rw [if_neg h]
    obtain ⟨c, hc⟩ : ∃ c, c = checkE l s k := ⟨_, rfl⟩
    rw [← hc] at HC h
    have hb : (c != (0 : Int)) = true := by rw [bne_iff_ne]; exact h
    clear hc h HR
    go_enter Try.func34, Try.ntmps34
    go_wp2_with fail
    obtain ⟨B, hk1, hs⟩ := blocks1 w #[.int .i64 l, .int .i64 s, .int .i64 k, .int .u32 n] 24
    generalize (w.alloc (.cells #[.int .i64 l, .int .i64 s, .int .i64 k, .int .u32 n] 24)) = W at *
    have K1 := Lib.hid hk1
    have HS := Lib.hid hs
    clear hs hk1
    have hzW := B.size
    refine (HC.out _).mono ?_
    rintro e w1 ⟨rfl, hb⟩
    replace B := B.trans (hb.mono B.size)
    have hzw1 := B.size
    clear hb
    go_wp2_with fail
    go_ret
    exact ⟨rfl, B⟩

end Go.Proofs.Ytfefkchjhooloaa

/-
  One element put into a slice at a place, in memory: what the two copies of slices.Insert make of a block of whatever elements. No function of the program in this text.
-/
set_option maxRecDepth 100000
namespace Go.Proofs.Ytfefkchjhooloaa
open Go.RowKit

/-- A list with cells written over, from a place on. -/
def wr (cur : List Value) (o : Nat) (cs : List Value) : List Value := cur.take o ++ cs ++ cur.drop (o + cs.length)
/-- 'copy', of elements of whatever size, into a block that isn't frozen: all is read before anything is written. -/
theorem run_copy_rowN {P : Program} (w : World) (dT sT ty elem : TypeId) (g o dLen dCap : Nat) (a : Addr) (sLen sCap : Nat) (cur : Array Value) (t : TypeId) (cs : List Value) (size m : Nat)
    (hu : P.underlying dT = some (.slice elem)) (hs : (P.info? elem).map (·.size) = some size)
    (hg : w.heap[g]? = some (.cells cur t (0, 0))) (hm : m = Nat.min sLen dLen) (hn : cs.length = m * size)
    (hsrc : ∀ j v, cs[j]? = some v → w.cell? (a.add j) = some v) (hfit : o + cs.length ≤ cur.size) (h1 : ∀ v ∈ cs, v.oneCell' = true) :
    (Builtin.copy_ #[dT, sT] ty #[.slice (some ⟨g, o, none⟩) dLen dCap, .slice (some a) sLen sCap]).run P w =
      .ok (goInt m) (w.setRow g (wr cur.toList o cs).toArray) := by
  have hl := run_loadCells_list (P := P) w a cs hsrc
  have hst := run_storeCells_at P g o t cs 0 cur w hg (by simpa using hfit) h1
  cases hq : P.info? elem with
  | none => simp [hq] at hs
  | some i =>
    have hi : i.size = size := by simpa [hq] using hs
    simp [Builtin.copy_, run_underlying hu, Builtin.lenOf, Builtin.firstCells, sizeOf, typeInfo, hq, hi, ← hm, ← hn, hl, hst, wr]

end Go.Proofs.Ytfefkchjhooloaa

/-
  Bytes copied into a slice that was made: cut, or with noughts behind.
-/
set_option maxRecDepth 100000
namespace Go.Proofs.Ytfefkchjhooloaa
open Go.RowKit

/-- The first m bytes, with noughts behind. -/
def fitR (m : Nat) (r : List Nat) : List Nat := r.take m ++ zeros (m - r.length)
theorem fitR_length (m : Nat) (r : List Nat) : (fitR m r).length = m := by simp [fitR, zeros]; omega
theorem fitR_lt {m : Nat} {r : List Nat} (h : ∀ x, x ∈ r → x < 256) : ∀ x, x ∈ fitR m r → x < 256 := by
  intro x hx
  rcases List.mem_append.1 hx with hx | hx
  · exact h x (List.mem_of_mem_take hx)
  · exact zeros_lt _ x hx
theorem wr_fit (m : Nat) (r : List Nat) : wr ((zeros m).map U8) 0 ((r.take m).map U8) = (fitR m r).map U8 := by
  have h : m - min m r.length = m - r.length := by omega
  unfold wr fitR zeros
  simp [h]

theorem infoU8 : (Try.prog.info? 5).map (·.size) = some 1 := by kernel_rfl

/-- 'copy(v, row)', into a new slice of noughts. -/
theorem copy_fit {w : World} {gb m : Nat} {v : Value} {r : List Nat} (hO : Own w gb (zeros m)) (hB : Bytes w v r) :
    ∃ W, (∀ ty, (Builtin.copy_ #[25, 25] ty #[.slice (some ⟨gb, 0, none⟩) m m, v]).run Try.prog w = .ok (goInt ((min r.length m : Nat) : Int)) W) ∧ Own W gb (fitR m r) ∧ w.grownBy W (some gb) := by
  obtain ⟨a, c, rfl, h1, h2, h3, h4⟩ := hB
  have hO' : w.heap[gb]? = some (.cells ((zeros m).map U8).toArray 5 (0, 0)) := hO
  have hgr : ∀ cs : Array Value, w.grownBy (w.setRow gb cs) (some gb) := fun cs => ⟨rfl, rfl, rfl, by simp, fun k _ hne => setRow_other w gb k _ (by intro e; rw [e] at hne; exact hne rfl)⟩
  cases a with
  | none =>
    have hr : r = [] := by
      refine Decidable.byContradiction fun hne => ?_
      obtain ⟨b, off, e, _⟩ := h4 hne
      cases e
    subst hr
    refine ⟨w, fun ty => ?_, ?_, grown_refl _ _⟩
    · simp [Builtin.copy_, run_underlying Try.underlying25, Builtin.lenOf, Builtin.firstCells, sizeOf, typeInfo, storeCells]
      obtain ⟨i, hi⟩ : ∃ i, Try.prog.info? 5 = some i := by
        cases h : Try.prog.info? 5 with
        | none => have := infoU8; rw [h] at this; cases this
        | some i => exact ⟨i, rfl⟩
      rw [hi]
      simp
    · have : fitR m [] = zeros m := by simp [fitR]
      rw [this]; exact hO
  | some ad =>
    refine ⟨w.setRow gb ((fitR m r).map U8).toArray, fun ty => ?_, ?_, hgr _⟩
    · have h := run_copy_rowN (P := Try.prog) w 25 25 ty 5 gb 0 m m ad r.length c ((zeros m).map U8).toArray 5 ((r.take m).map U8) 1 (min r.length m) Try.underlying25 infoU8 hO' rfl (by simp [Nat.min_comm]) (fun j u hj => ?_) (by simp [zeros]; omega) (fun u hu => by
        obtain ⟨x, _, rfl⟩ := List.mem_map.1 hu
        rfl)
      · rw [h]
        have e := wr_fit m r
        simp only at e ⊢
        rw [e]
      · rw [List.getElem?_map, List.getElem?_take] at hj
        split at hj
        · rename_i hjm
          cases hx : r[j]? with
          | none => rw [hx] at hj; cases hj
          | some x =>
            rw [hx] at hj
            simp only [Option.map_some, Option.some.injEq] at hj
            subst hj
            have hjl := (List.getElem?_eq_some_iff.1 hx).1
            obtain ⟨b, off, e, _, hc⟩ := h4 (by intro e; rw [e] at hjl; simp at hjl)
            simp only [Option.some.injEq] at e
            subst e
            rw [row_add, hc j hjl, nth_eq r j hjl]
            have := (List.getElem?_eq_some_iff.1 hx).2
            rw [this]
        · cases hj
    · show (w.setRow gb _).heap[gb]? = _
      exact setRow_heap w gb _ _ _ _ hO'

end Go.Proofs.Ytfefkchjhooloaa

/-
  A region that draws its order and makes memory, but writes nothing that was there.
-/
set_option maxRecDepth 100000
namespace Go.Proofs.Ytfefkchjhooloaa
open Go.RowKit

/-- No step writes. -/
def Hz : Nat → World → World → Prop := fun _ _ _ => False
theorem hCH_z (W : World) : ∀ (c : Nat) w w', Cb W w → Hz c w w' → Cb W w' := fun _ _ _ _ h => h.elim
section
variable {W : World}
/-- Of one temporary, kept where nothing turns. -/
def TyZ.fact (t : Tmp) (F : Value → World → Prop) (h : ∀ v w w', Below w.heap.size w w' → F v w → F v w') : Ty (Cb W) Rb Hz :=
  Ty.one t F (fun v w w' _ hR hF => h v w w' hR hF) (fun _ _ _ _ _ hH _ => hH.elim)
def TyZ.val (t : Tmp) (v : Value) : Ty (Cb W) Rb Hz := Ty.val t v
end

end Go.Proofs.Ytfefkchjhooloaa
