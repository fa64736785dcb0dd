/- Texts of one seat, laid together: LawElevenA, CutC, RefGlue. -/
import Derived.Test.YtfefkchjhooloaaCutJoinsQ4
import Derived.Test.YtfefkchjhooloaaCutJoinsQ1
import Derived.Test.YtfefkchjhooloaaCutJoinsQ2

/-
  The laws of cuts (layer 11): the example; CutCuts.
-/
set_option maxRecDepth 100000
namespace Go.Proofs.Ytfefkchjhooloaa
open Go.RowKit

theorem ex11_of : checkE 5 2 (needI 5 2) = 0 ∧ needI 5 2 = 3 := by decide +kernel
theorem ex11_cut : cutE 5 2 3 [1, 2, 3, 4, 5] = 0 ∧ cutS 5 2 3 [1, 2, 3, 4, 5] = [[1, 2], [3, 4], [5, 0]] := by decide +kernel
theorem ex11_calls (v : Value) (w : World) (ho : Bytes w v [1, 2, 3, 4, 5]) : Calls Try.prog 9 #[.agg #[.int .i64 5, .int .i64 2, .int .i64 3, .int .u32 0], v] w (CutV w [[1, 2], [3, 4], [5, 0]] 0) := by
  have h := cutCut_any 5 2 3 0 v [1, 2, 3, 4, 5] w (by omega) (by omega) (by omega) ho
  rw [ex11_cut.1, ex11_cut.2] at h
  exact h
theorem Blk.bytesK {W : World} {g n : Nat} {L : List Nat} {vs : Array Value} {T : TypeId} (h : Blk W g vs T) (hn : L.length = n) (hv : ∀ i, i < L.length → vs[i]? = some (U8 (nth L i))) (hl : ∀ x, x ∈ L → x < 256) (hm : L.length ≤ 9223372036854775807) : Bytes W (.slice (some ⟨g, 0, none⟩) n n) L := by
  subst hn
  exact ⟨_, L.length, rfl, Nat.le_refl _, hm, hl, fun _ => ⟨g, 0, rfl, h.lt, fun i hi => by rw [Nat.zero_add, h.cell i]; exact hv i hi⟩⟩
theorem Blk.rows3 {W : World} {g : Nat} {u0 u1 u2 : Value} {x y z : List Nat} {T : TypeId} (h : Blk W g #[u0, u1, u2] T) (hx : Bytes W u0 x) (hy : Bytes W u1 y) (hz : Bytes W u2 z) : IsRows W (.slice (some ⟨g, 0, none⟩) 3 3) [x, y, z] := by
  refine ⟨_, 3, rfl, Nat.le_refl _, by omega, fun _ => ⟨g, 0, rfl, h.lt, fun i hi => ?_⟩⟩
  match i, hi with
  | 0, _ => exact ⟨u0, by rw [h.cell 0]; rfl, hx⟩
  | 1, _ => exact ⟨u1, by rw [h.cell 1]; rfl, hy⟩
  | 2, _ => exact ⟨u2, by rw [h.cell 2]; rfl, hz⟩
theorem five_vals : ∀ i, i < [1, 2, 3, 4, 5].length → (#[.int .u8 1, .int .u8 2, .int .u8 3, .int .u8 4, .int .u8 5] : Array Value)[i]? = some (U8 (nth [1, 2, 3, 4, 5] i)) := by
  intro i hi
  match i, hi with
  | 0, _ => rfl
  | 1, _ => rfl
  | 2, _ => rfl
  | 3, _ => rfl
  | 4, _ => rfl
theorem two_vals (a b : Nat) : ∀ i, i < [a, b].length → (#[.int .u8 (a : Int), .int .u8 (b : Int)] : Array Value)[i]? = some (U8 (nth [a, b] i)) := by
  intro i hi
  match i, hi with
  | 0, _ => rfl
  | 1, _ => rfl

set_option maxHeartbeats 2000000 in
theorem awake11_any (w : World) :
    Calls Try.prog 8 #[] w fun e w' => e = .returned (.bool true) ∧ Below w.heap.size w w' := by
  have H1 := Lib.hid (fun w => of10_any 5 2 0 w (by omega) (by omega) (by omega))
  have HC := Lib.hid ex11_calls
  rw [ex11_of.1, ex11_of.2] at H1
  unfold PlanE okV at H1
  simp only [if_true] at H1
  unfold planV at H1
  go_enter Try.func8, Try.ntmps8
  go_wp2_with fail
  have B : Below w.heap.size w w := Below.refl _ _
  refine (H1.out _).mono ?_
  rintro e w1 ⟨rfl, hb⟩
  replace B := B.trans (hb.mono B.size)
  have hzw1 := B.size
  clear hb
  go_wp2_with fail
  have B1 := B
  clear B
  obtain ⟨B, hk1, hk2, hs⟩ := blocks2 w1 #[.int .i64 5, .int .i64 2, .int .i64 3, .int .u32 0] 24 #[.int .u8 1, .int .u8 2, .int .u8 3, .int .u8 4, .int .u8 5] 5
  generalize ((w1.alloc (.cells #[.int .i64 5, .int .i64 2, .int .i64 3, .int .u32 0] 24)).alloc (.cells #[.int .u8 1, .int .u8 2, .int .u8 3, .int .u8 4, .int .u8 5] 5)) = W2 at *
  have K1 := Lib.hid hk1
  have K2 := Lib.hid hk2
  have HS := Lib.hid hs
  clear hs hk1 hk2
  have hzW2 := B.size
  replace B := B1.trans (B.mono B1.size)
  have HB := Lib.hid (K2.out.bytesK (n := 5) (L := [1, 2, 3, 4, 5]) rfl five_vals (by decide) (by decide))
  refine (HC.out _ _ HB.out).mono ?_
  rintro e w4 ⟨u1, rfl, hu1, hb⟩
  replace B := B.trans (hb.mono B.size)
  have hzw4 := B.size
  clear hb
  have HU := Lib.hid hu1.rows
  obtain ⟨ua, uc, rfl⟩ := hu1.shape
  clear hu1 K1 K2 HB HS
  go_wp2_with fail
  have B2 := B
  clear B
  obtain ⟨B, hk1, hk2, hk3, hk4, hs⟩ := blocks4 w4 #[.int .u8 1, .int .u8 2] 5 #[.int .u8 3, .int .u8 4] 5 #[.int .u8 5, .int .u8 0] 5 #[.slice (some ⟨w4.heap.size, 0, none⟩) 2 2, .slice (some ⟨w4.heap.size + 1, 0, none⟩) 2 2, .slice (some ⟨w4.heap.size + 1 + 1, 0, none⟩) 2 2] 25
  generalize ((((w4.alloc (.cells #[.int .u8 1, .int .u8 2] 5)).alloc (.cells #[.int .u8 3, .int .u8 4] 5)).alloc (.cells #[.int .u8 5, .int .u8 0] 5)).alloc (.cells #[.slice (some ⟨w4.heap.size, 0, none⟩) 2 2, .slice (some ⟨w4.heap.size + 1, 0, none⟩) 2 2, .slice (some ⟨w4.heap.size + 1 + 1, 0, none⟩) 2 2] 25)) = W5 at *
  have K1 := Lib.hid hk1
  have K2 := Lib.hid hk2
  have K3 := Lib.hid hk3
  have K4 := Lib.hid hk4
  have HS := Lib.hid hs
  clear hs hk1 hk2 hk3 hk4
  replace HU := Lib.hid (HU.out.go B)
  have hzW5 := B.size
  replace B := B2.trans (B.mono B2.size)
  have HL := Lib.hid (K4.out.rows3 (K1.out.bytesK (n := 2) (L := [1, 2]) rfl (two_vals 1 2) (by decide) (by decide)) (K2.out.bytesK (n := 2) (L := [3, 4]) rfl (two_vals 3 4) (by decide) (by decide)) (K3.out.bytesK (n := 2) (L := [5, 0]) rfl (two_vals 5 0) (by decide) (by decide)))
  refine (refsame7_any _ _ [[1, 2], [3, 4], [5, 0]] [[1, 2], [3, 4], [5, 0]] _ HU.out HL.out (by decide)).mono ?_
  rintro e w6 ⟨rfl, hb⟩
  replace B := B.trans (hb.mono B.size)
  have hzw6 := B.size
  clear hb
  rw [show decide ([[1, 2], [3, 4], [5, 0]] = [[1, 2], [3, 4], [5, 0]]) = true by decide]
  go_wp2_with fail
  go_ret
  exact ⟨rfl, B⟩

end Go.Proofs.Ytfefkchjhooloaa

/-
  Where a byte stands (package cut): Spread.
-/
set_option maxRecDepth 100000
namespace Go.Proofs.Ytfefkchjhooloaa
open Go.RowKit

theorem quo_small {p s : Nat} (h : (p : Int) ≤ 9223372036854775807) : wrap64 ((p : Int) / (s : Int)) = ((p / s : Nat) : Int) := by
  rw [show (p : Int) / (s : Int) = ((p / s : Nat) : Int) from rfl]
  have h1 : p / s ≤ p := Nat.div_le_self _ _
  obtain ⟨z, hz⟩ : ∃ z, z = p / s := ⟨_, rfl⟩
  rw [← hz] at h1 ⊢
  unfold wrap64; omega
def sprE (l s k p : Int) : Int := if checkE l s k = 0 then (if p < 0 ∨ l ≤ p then 2 else 0) else checkE l s k
def sprI (l s k p : Int) : Int := if sprE l s k p = 0 then ((p.toNat / s.toNat : Nat) : Int) else 0
def sprK (l s k p : Int) : Int := if sprE l s k p = 0 then ((p.toNat % s.toNat : Nat) : Int) else 0
theorem spr_none {l s k p : Int} (h : sprE l s k p ≠ 0) : sprI l s k p = 0 ∧ sprK l s k p = 0 := ⟨by unfold sprI; rw [if_neg h], by unfold sprK; rw [if_neg h]⟩
set_option maxHeartbeats 1000000 in
theorem spread_any (l s k n p : Int) (w : World) (hl0 : -9223372036854775808 ≤ l) (hl : l ≤ 9223372036854775807) (hs2 : s ≤ 9223372036854775807) :
    Calls Try.prog 17 #[.agg #[.int .i64 l, .int .i64 s, .int .i64 k, .int .u32 n], .int .i64 p] w fun e w' => e = .returned (.tuple #[.int .i64 (sprI l s k p), .int .i64 (sprK l s k p), .int .i64 (sprE l s k p)]) ∧ Below w.heap.size w w' := by
  have HC := Lib.hid (fun w => check_any l s k n w hl0 hl hs2)
  by_cases hc0 : checkE l s k = 0
  · obtain ⟨q1, q2, q3, q4, q5, -⟩ := check_ok hc0
    by_cases hp : p < 0 ∨ l ≤ p
    · have he : sprE l s k p = 2 := by unfold sprE; rw [if_pos hc0, if_pos hp]
      obtain ⟨e1, e2⟩ := spr_none (show sprE l s k p ≠ 0 by rw [he]; decide)
      rw [he, e1, e2]
      rw [hc0] at HC
      clear he e1 e2
      by_cases hp0 : p < 0
      · skip
        go_enter Try.func17, Try.ntmps17
        go_wp2_with fail
        obtain ⟨B, hk1, hs⟩ := blocks1 w #[.int .i64 (l), .int .i64 (s), .int .i64 k, .int .u32 n] 24
        generalize (w.alloc (.cells #[.int .i64 (l), .int .i64 (s), .int .i64 k, .int .u32 n] 24)) = W at *
        have K1 := Lib.hid hk1
        have HS := Lib.hid hs
        clear hs hk1
        have hzW := B.size
        refine (HC.out _).mono ?_
        rintro e w1 ⟨rfl, hb⟩
        replace K1 := Lib.hid (K1.out.go hb)
        replace B := B.trans (hb.mono B.size)
        have hzw1 := B.size
        clear hb
        obtain ⟨p0, p1, p2, p3⟩ := K1.out.four
        have pl := K1.out.lt
        go_wp2_with fail
        exact bodyPost_ret (v := .tuple #[.int .i64 0, .int .i64 0, .int .i64 2]) (by simp [results, Try.results17, go_sem]) rfl ⟨rfl, B⟩
      · have hp1 : l ≤ p := by omega
        go_enter Try.func17, Try.ntmps17
        go_wp2_with fail
        obtain ⟨B, hk1, hs⟩ := blocks1 w #[.int .i64 (l), .int .i64 (s), .int .i64 k, .int .u32 n] 24
        generalize (w.alloc (.cells #[.int .i64 (l), .int .i64 (s), .int .i64 k, .int .u32 n] 24)) = W at *
        have K1 := Lib.hid hk1
        have HS := Lib.hid hs
        clear hs hk1
        have hzW := B.size
        refine (HC.out _).mono ?_
        rintro e w1 ⟨rfl, hb⟩
        replace K1 := Lib.hid (K1.out.go hb)
        replace B := B.trans (hb.mono B.size)
        have hzw1 := B.size
        clear hb
        obtain ⟨p0, p1, p2, p3⟩ := K1.out.four
        have pl := K1.out.lt
        go_wp2_with fail
        exact bodyPost_ret (v := .tuple #[.int .i64 0, .int .i64 0, .int .i64 2]) (by simp [results, Try.results17, go_sem]) rfl ⟨rfl, B⟩
    · have he : sprE l s k p = 0 := by unfold sprE; rw [if_pos hc0, if_neg hp]
      have e1 : sprI l s k p = ((p.toNat / s.toNat : Nat) : Int) := by unfold sprI; rw [if_pos he]
      have e2 : sprK l s k p = ((p.toNat % s.toNat : Nat) : Int) := by unfold sprK; rw [if_pos he]
      rw [he, e1, e2]
      rw [hc0] at HC
      obtain ⟨p', rfl⟩ : ∃ p' : Nat, p = p' := ⟨p.toNat, by omega⟩
      obtain ⟨s', rfl⟩ : ∃ s' : Nat, s = s' := ⟨s.toNat, by omega⟩
      simp only [Int.toNat_natCast]
      have hp0 : ¬ (p' : Int) < 0 := by omega
      have hp1 : ¬ l ≤ (p' : Int) := by omega
      have HW := Lib.hid (show (p' : Int) ≤ 9223372036854775807 by omega)
      have hz : ((s' : Int) == 0) = false := beq_eq_false_iff_ne.2 (by omega)
      have hz2 : ¬ (s' : Int) = 0 := by omega
      clear he e1 e2 hc0 hp
      go_enter Try.func17, Try.ntmps17
      go_wp2_with fail
      obtain ⟨B, hk1, hs⟩ := blocks1 w #[.int .i64 (l), .int .i64 ((s':Int)), .int .i64 k, .int .u32 n] 24
      generalize (w.alloc (.cells #[.int .i64 (l), .int .i64 ((s':Int)), .int .i64 k, .int .u32 n] 24)) = W at *
      have K1 := Lib.hid hk1
      have HS := Lib.hid hs
      clear hs hk1
      have hzW := B.size
      refine (HC.out _).mono ?_
      rintro e w1 ⟨rfl, hb⟩
      replace K1 := Lib.hid (K1.out.go hb)
      replace B := B.trans (hb.mono B.size)
      have hzw1 := B.size
      clear hb
      obtain ⟨p0, p1, p2, p3⟩ := K1.out.four
      have pl := K1.out.lt
      go_wp2_with fail
      go_quiet (fail)
      have e1 : wrap64 ((p' : Int) / (s' : Int)) = ((p' / s' : Nat) : Int) := quo_small HW.out
      have e2 : (p' : Int) % (s' : Int) = ((p' % s' : Nat) : Int) := rfl
      rw [e1, e2]
      have B2 := B.trans ((below_drews w1 nq).mono B.size)
      generalize w1.drewN nq = w2 at *
      go_wp2_with fail
      exact bodyPost_ret (v := .tuple #[.int .i64 ((p' / s' : Nat) : Int), .int .i64 ((p' % s' : Nat) : Int), .int .i64 0]) (by simp [results, Try.results17, go_sem]) rfl ⟨rfl, B2⟩
  · have he : sprE l s k p = checkE l s k := by unfold sprE; rw [if_neg hc0]
    obtain ⟨e1, e2⟩ := spr_none (show sprE l s k p ≠ 0 by rw [he]; exact hc0)
    rw [he, e1, e2]
    obtain ⟨ce, hce⟩ : ∃ x, x = checkE l s k := ⟨_, rfl⟩
    rw [← hce] at HC hc0 ⊢
    have hb : (ce != 0) = true := by rw [bne_iff_ne]; exact hc0
    clear hce he e1 e2
    go_enter Try.func17, Try.ntmps17
    go_wp2_with fail
    obtain ⟨B, hk1, hs⟩ := blocks1 w #[.int .i64 (l), .int .i64 (s), .int .i64 k, .int .u32 n] 24
    generalize (w.alloc (.cells #[.int .i64 (l), .int .i64 (s), .int .i64 k, .int .u32 n] 24)) = W at *
    have K1 := Lib.hid hk1
    have HS := Lib.hid hs
    clear hs hk1
    have hzW := B.size
    refine (HC.out _).mono ?_
    rintro e w1 ⟨rfl, hb⟩
    replace K1 := Lib.hid (K1.out.go hb)
    replace B := B.trans (hb.mono B.size)
    have hzw1 := B.size
    clear hb
    obtain ⟨p0, p1, p2, p3⟩ := K1.out.four
    have pl := K1.out.lt
    go_wp2_with fail
    exact bodyPost_ret (v := .tuple #[.int .i64 0, .int .i64 0, .int .i64 ce]) (by simp [results, Try.results17, go_sem]) rfl ⟨rfl, B⟩

end Go.Proofs.Ytfefkchjhooloaa

/-
  The document's answer for objects that are joined (wellspringref12), in the program: 'All'.
-/
set_option maxRecDepth 100000
namespace Go.Proofs.Ytfefkchjhooloaa
open Go.RowKit

/-- One behind the other. -/
def joinL (ll : List (List Nat)) : List Nat := ll.flatten
theorem joinL_take (ll : List (List Nat)) {j : Nat} (hj : j < ll.length) : joinL (ll.take (j + 1)) = joinL (ll.take j) ++ rowAt ll j := by
  unfold joinL; rw [take_rowAt ll j hj, List.flatten_append]; simp
theorem joinL_len {ll : List (List Nat)} {s : Nat} : ∀ j, j ≤ ll.length → (∀ i, i < j → (rowAt ll i).length = s) → (joinL (ll.take j)).length = j * s
  | 0, _, _ => by simp [joinL]
  | j + 1, hj, h => by rw [joinL_take ll (by omega), List.length_append, joinL_len j (by omega) (fun i hi => h i (by omega)), h j (by omega), Nat.succ_mul]
end Go.Proofs.Ytfefkchjhooloaa
