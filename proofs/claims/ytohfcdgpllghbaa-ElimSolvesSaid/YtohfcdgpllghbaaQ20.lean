/- Texts of one seat, laid together: RefGridD, GridE, GridF. -/
import Derived.Test.YtohfcdgpllghbaaQ13
import Derived.Test.YtohfcdgpllghbaaQ19

/-
  The document's answer for grids (wellspringref07), in the program: 'Of', 'Same', 'Turned'.
-/
set_option maxRecDepth 100000
namespace Go.Proofs.Ytohfcdgpllghbaa
open Go.RowKit

/-- A row of whatever slice of slices, at a world behind; its address. -/
theorem IsRows.row {w w' : World} {a : Option Addr} {n c : Nat} {ll : List (List Nat)} (h : IsRows w (.slice a n c) ll) (hb : Below w.heap.size w w') (k : Nat) (hk : k < ll.length) : ∃ b off u, a = some ⟨b, off, none⟩ ∧ w'.cell? ⟨b, off + k, none⟩ = some u ∧ Bytes w' u (rowAt ll k) := by
  have h0 := h
  obtain ⟨a', cap, e, _, _, h4⟩ := h
  simp only [Value.slice.injEq] at e
  obtain ⟨rfl, rfl, rfl⟩ := e
  obtain ⟨b, off, rfl, _, _⟩ := h4 (by intro e; rw [e] at hk; simp at hk)
  obtain ⟨u, hu, hB⟩ := h0.at hb k hk
  exact ⟨b, off, u, rfl, hu, hB.go hb⟩
theorem IsRows.block_lt' {w : World} {b off n c : Nat} {ll : List (List Nat)} (h : IsRows w (.slice (some ⟨b, off, none⟩) n c) ll) (k : Nat) (hk : k < ll.length) : b < w.heap.size := by
  obtain ⟨u, hu, _⟩ := h.cell k hk
  exact World.block_lt_of_cell? w _ hu
/-- The same; the row as it was ahead. -/
theorem IsRows.row0 {w w' : World} {a : Option Addr} {n c : Nat} {ll : List (List Nat)} (h : IsRows w (.slice a n c) ll) (hb : Below w.heap.size w w') (k : Nat) (hk : k < ll.length) : ∃ b off u, a = some ⟨b, off, none⟩ ∧ w'.cell? ⟨b, off + k, none⟩ = some u ∧ Bytes w u (rowAt ll k) := by
  have h0 := h
  obtain ⟨a', cap, e, _, _, h4⟩ := h
  simp only [Value.slice.injEq] at e
  obtain ⟨rfl, rfl, rfl⟩ := e
  obtain ⟨b, off, rfl, _, _⟩ := h4 (by intro e; rw [e] at hk; simp at hk)
  obtain ⟨u, hu, hB⟩ := h0.at hb k hk
  exact ⟨b, off, u, rfl, hu, hB⟩
theorem IsRows.shape {w : World} {v : Value} {ll : List (List Nat)} (h : IsRows w v ll) : ∃ a c, v = .slice a ll.length c := by obtain ⟨a, cap, rfl, _⟩ := h; exact ⟨a, cap, rfl⟩
theorem IsRows.go {w w' : World} {v : Value} {ll : List (List Nat)} (h : IsRows w v ll) (hb : Below w.heap.size w w') : IsRows w' v ll := h.below (Nat.le_refl _) hb
/-- What Of's code is. -/
def ofE (width : Int) (ll : List (List Nat)) : Int := if width < 0 ∨ 65536 < width then 2 else if 65536 < ll.length ∨ 65536 < ll.length * width then 5 else if ∀ i, i < ll.length → ((rowAt ll i).length : Int) = width then 0 else 4

set_option maxHeartbeats 1000000 in
theorem refof7_any (v : Value) (width : Int) (ll : List (List Nat)) (w : World) (hR : IsRows w v ll) (hlen : ll.length ≤ 1000000) :
    Calls Try.prog 13 #[.int .i64 width, v] w fun e w' => e = .returned (.int .i64 (ofE width ll)) ∧ Below w.heap.size w w' := by
  have HR := Lib.hid hR
  obtain ⟨a, c, rfl⟩ := hR.shape
  clear hR
  obtain ⟨t, ht⟩ : ∃ t, t = ofE width ll := ⟨_, rfl⟩
  rw [← ht]
  have hcases : width < 0 ∨ (0 ≤ width ∧ 65536 < width) ∨ (0 ≤ width ∧ width ≤ 65536 ∧ 65536 < (ll.length : Int)) ∨ (0 ≤ width ∧ width ≤ 65536 ∧ (ll.length : Int) ≤ 65536 ∧ 65536 < (ll.length : Int) * width) ∨ (0 ≤ width ∧ width ≤ 65536 ∧ (ll.length : Int) ≤ 65536 ∧ (ll.length : Int) * width ≤ 65536) := by
    by_cases h1 : width < 0
    · exact .inl h1
    · by_cases h2 : 65536 < width
      · exact .inr (.inl ⟨by omega, h2⟩)
      · by_cases h3 : 65536 < (ll.length : Int)
        · exact .inr (.inr (.inl ⟨by omega, by omega, h3⟩))
        · by_cases h4 : 65536 < (ll.length : Int) * width
          · exact .inr (.inr (.inr (.inl ⟨by omega, by omega, by omega, h4⟩)))
          · exact .inr (.inr (.inr (.inr ⟨by omega, by omega, by omega, by omega⟩)))
  rcases hcases with h | ⟨h, h1⟩ | ⟨h, h1, h2⟩ | ⟨h, h1, h2, h3⟩ | ⟨h, h1, h2, h3⟩
  · have HT := Lib.hid (show t = 2 by rw [ht]; unfold ofE; rw [if_pos (.inl h)])
    go_enter Try.func13, Try.ntmps13
    go_wp2_with fail
    go_ret
    exact ⟨by rw [HT.out]; rfl, Below.refl _ _⟩
  · have HT := Lib.hid (show t = 2 by rw [ht]; unfold ofE; rw [if_pos (.inr h1)])
    go_enter Try.func13, Try.ntmps13
    go_wp2_with fail
    go_ret
    exact ⟨by rw [HT.out]; rfl, Below.refl _ _⟩
  · have HT := Lib.hid (show t = 5 by rw [ht]; unfold ofE; rw [if_neg (by omega), if_pos (.inl (by omega))])
    go_enter Try.func13, Try.ntmps13
    go_wp2_with fail
    go_ret
    exact ⟨by rw [HT.out]; rfl, Below.refl _ _⟩
  · have HT := Lib.hid (show t = 5 by rw [ht]; unfold ofE; rw [if_neg (by omega), if_pos (.inr h3)])
    have hmul : (ll.length : Int) * width ≤ 1000000 * 65536 := Int.mul_le_mul (by omega) h1 h (by omega)
    have HW : IntKind.i64.wrap ((ll.length : Int) * width) = (ll.length : Int) * width := by rw [IntKind.wrap_i64]; omega
    have h4 : decide ((65536 : Int) < (ll.length : Int) * width) = true := by simpa using h3
    go_enter Try.func13, Try.ntmps13
    go_wp2_with fail
    go_ret
    exact ⟨by rw [HT.out]; rfl, Below.refl _ _⟩
  · have HT := Lib.hid (show t = if ∀ i, i < ll.length → ((rowAt ll i).length : Int) = width then 0 else 4 by rw [ht]; unfold ofE; rw [if_neg (by omega), if_neg (by omega)])
    have hmul : 0 ≤ (ll.length : Int) * width := Int.mul_nonneg (by omega) h
    have HW : IntKind.i64.wrap ((ll.length : Int) * width) = (ll.length : Int) * width := by rw [IntKind.wrap_i64]; omega
    have h4 : decide ((65536 : Int) < (ll.length : Int) * width) = false := by simpa using h3
    clear ht
    go_enter Try.func13, Try.ntmps13
    go_wp2_with fail
    go_loopw [6, 25] (fun _ i wr => ∃ n : Nat, n ≤ ll.length ∧ i = .int .i64 n ∧ (∀ j, j < n → ((rowAt ll j).length : Int) = width) ∧ Below w.heap.size w wr) (fun _ i _ => ll.length - (intOf i).toNat)
    case atStart => exact ⟨0, by omega, rfl, fun j hj => by omega, Below.refl _ _⟩
    case round =>
      obtain ⟨n, hn, rfl, hno, B⟩ := hrel
      have HN := Lib.hid hno
      clear hno
      by_cases hlt : n < ll.length
      · obtain ⟨b, off, u, rfl, hu, hB⟩ := HR.out.row B n hlt
        obtain ⟨ua, uc, rfl, _⟩ := hB
        by_cases hq : ((rowAt ll n).length : Int) = width
        · have hb : (((rowAt ll n).length : Int) != width) = false := by rw [hq]; simp
          have HQ := Lib.hid hq
          clear hq
          go_wp2_with fail
          go_roundw
          case rel => exact ⟨n + 1, by omega, by go_num, fun j hj => by
            by_cases h : j = n
            · rw [h]; exact HQ.out
            · exact HN.out j (by omega), B⟩
          case measure => simp [intOf]; omega
        · have hb : (((rowAt ll n).length : Int) != width) = true := by simpa using hq
          have HQ := Lib.hid (show t = 4 by rw [HT.out, if_neg fun hall => hq (hall n hlt)])
          clear hq
          go_wp2_with fail
          go_ret
          exact ⟨by rw [HQ.out]; rfl, B⟩
      · have HQ := Lib.hid (show t = 0 by rw [HT.out, if_pos fun i hi => HN.out i (by omega)])
        go_wp2_with fail
        go_ret
        exact ⟨by rw [HQ.out]; rfl, B⟩

theorem ext_rowAt {A C : List (List Nat)} (hl : A.length = C.length) (h : ∀ j, j < A.length → rowAt A j = rowAt C j) : A = C := by
  apply List.ext_getElem hl
  intro i h1 h2
  have := h i h1
  rwa [rowAt_eq A i h1, rowAt_eq C i h2] at this

set_option maxHeartbeats 1000000 in
theorem refsame7_any (v0 v1 : Value) (A C : List (List Nat)) (w : World) (h0 : IsRows w v0 A) (h1 : IsRows w v1 C) (hlen : A.length ≤ 1000000000) :
    Calls Try.prog 16 #[v0, v1] w fun e w' => e = .returned (.bool (decide (A = C))) ∧ Below w.heap.size w w' := by
  have HA := Lib.hid h0
  have HC := Lib.hid h1
  obtain ⟨a0, c0, rfl⟩ := h0.shape
  obtain ⟨a1, c1, rfl⟩ := h1.shape
  clear h0 h1
  obtain ⟨t, ht⟩ : ∃ t, t = decide (A = C) := ⟨_, rfl⟩
  rw [← ht]
  by_cases hl : A.length = C.length
  · have HT := Lib.hid ht
    have HL := Lib.hid hl
    have hb0 : ((A.length : Int) != (C.length : Int)) = false := by rw [hl]; simp
    clear ht hl
    go_enter Try.func16, Try.ntmps16
    go_wp2_with fail
    go_loopw [5, 13] (fun _ i wr => ∃ n : Nat, n ≤ A.length ∧ i = .int .i64 n ∧ (∀ j, j < n → rowAt A j = rowAt C j) ∧ Below w.heap.size w wr) (fun _ i _ => A.length - (intOf i).toNat)
    case atStart => exact ⟨0, by omega, rfl, fun j hj => by omega, Below.refl _ _⟩
    case round =>
      obtain ⟨n, hn, rfl, hno, B⟩ := hrel
      have HN := Lib.hid hno
      clear hno
      by_cases hlt : n < A.length
      · obtain ⟨b, off, u, rfl, hu, hB⟩ := HA.out.row B n hlt
        obtain ⟨b', off', u', rfl, hu', hB'⟩ := HC.out.row B n (by rw [← HL.out]; exact hlt)
        have HB := Lib.hid hB
        have HB' := Lib.hid hB'
        obtain ⟨ua, uc, rfl, _⟩ := hB
        obtain ⟨ua', uc', rfl, _⟩ := hB'
        have hlt' : n < C.length := by rw [← HL.out]; exact hlt
        have n0 : (0 : Int) ≤ (n : Int) := Int.natCast_nonneg _
        have n1 : (n : Int) < (A.length : Int) := by omega
        have n2 : (n : Int) < (C.length : Int) := by omega
        go_wp2_with fail
        refine wp_region_mono (C := Cb wr) (R := Rb) (H := fun _ => Hb wr) [Ty.val 16 (.slice (some ⟨b, off, none⟩) A.length c0), Ty.val 17 (.int .i64 (n : Int)), Ty.val 18 (.pointer (some ⟨b, off + n, none⟩)), Ty.val 19 (.slice ua (rowAt A n).length uc), Ty.val 20 (.slice (some ⟨b', off', none⟩) C.length c1), Ty.val 21 (.int .i64 (n : Int)), Ty.val 22 (.pointer (some ⟨b', off' + n, none⟩)), Ty.val 23 (.slice ua' (rowAt C n).length uc'), Ty.val 24 (.bool (decide (rowAt A n = rowAt C n))), Ty.val 25 (.bool (!decide (rowAt A n = rowAt C n)))] (by kernel_rfl) (hC_b wr) (hCH_b wr) (drew_b wr) ⟨trivial, trivial, trivial, trivial, trivial, trivial, trivial, trivial, trivial, trivial, trivial⟩ (by kernel_rfl) ?_ ?_
        · refine ⟨?_, ?_, ?_, ?_, ?_, ?_, ?_, ?_, ?_, ?_, trivial⟩
          · intro ac wc hC hsz hfr hd hpr
            have d0 : ac.eval (.tmp 0) = (.slice (some ⟨b, off, none⟩) A.length c0) := hfr 0 rfl
            rw [if_pos (wanted_none rfl)]
            exact ob_copy rfl rfl rfl (Nat.lt_of_lt_of_eq (by decide : 16 < 27) hsz.symm) (Or.inl rfl) (Below.refl _ _) d0
          · intro ac wc hC hsz hfr hd hpr
            have d5 : ac.eval (.tmp 5) = (.int .i64 (n : Int)) := hfr 5 rfl
            rw [if_pos (wanted_none rfl)]
            exact ob_copy rfl rfl rfl (Nat.lt_of_lt_of_eq (by decide : 17 < 27) hsz.symm) (Or.inl rfl) (Below.refl _ _) d5
          · intro ac wc hC hsz hfr hd hpr
            have d16 : ac.eval (.tmp 16) = (.slice (some ⟨b, off, none⟩) A.length c0) := hd 0 rfl
            have d17 : ac.eval (.tmp 17) = (.int .i64 (n : Int)) := hd 1 rfl
            rw [if_pos (wanted_none rfl)]
            exact ob_index _ rfl rfl rfl (Nat.lt_of_lt_of_eq (by decide : 18 < 27) hsz.symm) rfl d16 d17 (by go_simp) (Below.refl _ _) rfl
          · intro ac wc hC hsz hfr hd hpr
            have d18 : ac.eval (.tmp 18) = (.pointer (some ⟨b, off + n, none⟩)) := hd 2 rfl
            rw [if_pos (wanted_none rfl)]
            exact ob_load _ rfl rfl rfl (Nat.lt_of_lt_of_eq (by decide : 19 < 27) hsz.symm) rfl d18 (load_bytes (cell_keep hu hC)) (Below.refl _ _) rfl
          · intro ac wc hC hsz hfr hd hpr
            have d1 : ac.eval (.tmp 1) = (.slice (some ⟨b', off', none⟩) C.length c1) := hfr 1 rfl
            rw [if_pos (wanted_none rfl)]
            exact ob_copy rfl rfl rfl (Nat.lt_of_lt_of_eq (by decide : 20 < 27) hsz.symm) (Or.inl rfl) (Below.refl _ _) d1
          · intro ac wc hC hsz hfr hd hpr
            have d5 : ac.eval (.tmp 5) = (.int .i64 (n : Int)) := hfr 5 rfl
            rw [if_pos (wanted_none rfl)]
            exact ob_copy rfl rfl rfl (Nat.lt_of_lt_of_eq (by decide : 21 < 27) hsz.symm) (Or.inl rfl) (Below.refl _ _) d5
          · intro ac wc hC hsz hfr hd hpr
            have d20 : ac.eval (.tmp 20) = (.slice (some ⟨b', off', none⟩) C.length c1) := hd 4 rfl
            have d21 : ac.eval (.tmp 21) = (.int .i64 (n : Int)) := hd 5 rfl
            rw [if_pos (wanted_none rfl)]
            exact ob_index _ rfl rfl rfl (Nat.lt_of_lt_of_eq (by decide : 22 < 27) hsz.symm) rfl d20 d21 (by go_simp) (Below.refl _ _) rfl
          · intro ac wc hC hsz hfr hd hpr
            have d22 : ac.eval (.tmp 22) = (.pointer (some ⟨b', off' + n, none⟩)) := hd 6 rfl
            rw [if_pos (wanted_none rfl)]
            exact ob_load _ rfl rfl rfl (Nat.lt_of_lt_of_eq (by decide : 23 < 27) hsz.symm) rfl d22 (load_bytes (cell_keep hu' hC)) (Below.refl _ _) rfl
          · intro ac wc hC hsz hfr hd hpr
            have d19 : ac.eval (.tmp 19) = (.slice ua (rowAt A n).length uc) := hd 3 rfl
            have d23 : ac.eval (.tmp 23) = (.slice ua' (rowAt C n).length uc') := hd 7 rfl
            rw [if_pos (wanted_none rfl)]
            refine ob_call rfl rfl rfl (Nat.lt_of_lt_of_eq (by decide : 24 < 27) hsz.symm) rfl (enter_of Try.func48 (by kernel_rfl) rfl) ?_
            show Calls Try.prog 48 #[ac.eval (.tmp 19), ac.eval (.tmp 23)] wc _
            rw [d19, d23]
            exact (same_any _ _ _ _ wc (HB.out.go hC) (HB'.out.go hC)).mono fun _ _ ⟨he, hb⟩ => ⟨_, he, rfl, hb⟩
          · intro ac wc hC hsz hfr hd hpr
            have d24 : ac.eval (.tmp 24) = (.bool (decide (rowAt A n = rowAt C n))) := hd 8 rfl
            rw [if_pos (wanted_none rfl)]
            exact ob_not rfl rfl rfl (Nat.lt_of_lt_of_eq (by decide : 25 < 27) hsz.symm) rfl d24 (Below.refl _ _) rfl
        intro a' w6 hC hdef hsz hfr hd
        have e16 : a'.eval (.tmp 16) = (.slice (some ⟨b, off, none⟩) A.length c0) := hd 0 (by decide)
        have e17 : a'.eval (.tmp 17) = (.int .i64 (n : Int)) := hd 1 (by decide)
        have e18 : a'.eval (.tmp 18) = (.pointer (some ⟨b, off + n, none⟩)) := hd 2 (by decide)
        have e19 : a'.eval (.tmp 19) = (.slice ua (rowAt A n).length uc) := hd 3 (by decide)
        have e20 : a'.eval (.tmp 20) = (.slice (some ⟨b', off', none⟩) C.length c1) := hd 4 (by decide)
        have e21 : a'.eval (.tmp 21) = (.int .i64 (n : Int)) := hd 5 (by decide)
        have e22 : a'.eval (.tmp 22) = (.pointer (some ⟨b', off' + n, none⟩)) := hd 6 (by decide)
        have e23 : a'.eval (.tmp 23) = (.slice ua' (rowAt C n).length uc') := hd 7 (by decide)
        have e24 : a'.eval (.tmp 24) = (.bool (decide (rowAt A n = rowAt C n))) := hd 8 (by decide)
        have e25 : a'.eval (.tmp 25) = (.bool (!decide (rowAt A n = rowAt C n))) := hd 9 (by decide)
        have hact := act_puts hdef hsz hfr
        simp only [dstsOf, List.filterMap, putAll, Act.put, List.setIfInBounds_toArray, List.set_cons_succ, List.set_cons_zero, e16, e17, e18, e19, e20, e21, e22, e23, e24, e25] at hact
        clear hd hfr hsz hdef e16 e17 e18 e19 e20 e21 e22 e23 e24 e25
        subst hact
        replace B := B.trans (hC.mono B.size)
        clear hC
        by_cases hq : rowAt A n = rowAt C n
        · have hd1 := decide_eq_true hq
          have HQ := Lib.hid hq
          rw [hd1]
          clear hq hd1
          go_wp2_with fail
          go_roundw
          case rel => exact ⟨n + 1, by omega, by go_num, fun j hj => by
            by_cases h : j = n
            · rw [h]; exact HQ.out
            · exact HN.out j (by omega), B⟩
          case measure => simp [intOf]; omega
        · have hd1 := decide_eq_false hq
          have HQ := Lib.hid (show t = false by rw [HT.out]; exact decide_eq_false fun e => hq (by rw [e]))
          rw [hd1]
          clear hq hd1
          go_wp2_with fail
          go_ret
          exact ⟨by rw [HQ.out]; rfl, B⟩
      · have HQ := Lib.hid (show t = true by rw [HT.out]; exact decide_eq_true (ext_rowAt HL.out fun j hj => HN.out j (by omega)))
        go_wp2_with fail
        go_ret
        exact ⟨by rw [HQ.out]; rfl, B⟩
  · have HT := Lib.hid (show t = false by rw [ht]; exact decide_eq_false fun e => hl (by rw [e]))
    have hb0 : ((A.length : Int) != (C.length : Int)) = true := by rw [bne_iff_ne]; omega
    clear ht hl
    go_enter Try.func16, Try.ntmps16
    go_wp2_with fail
    go_ret
    exact ⟨by rw [HT.out]; rfl, Below.refl _ _⟩

end Go.Proofs.Ytohfcdgpllghbaa

/-
  Slices that are made and filled, place by place: of slices of bytes, and of rows.
-/
set_option maxRecDepth 100000
namespace Go.Proofs.Ytohfcdgpllghbaa
open Go.RowKit

theorem madeTwice (z : Value) (n : Nat) : (madeCells #[z, z] n).toList = List.replicate n z := by
  apply List.ext_getElem?
  intro j
  by_cases hj : j < n
  · have : j % 2 = 0 ∨ j % 2 = 1 := by omega
    rcases this with h | h <;> simp [madeCells, hj, h]
  · simp [madeCells, hj]
theorem pairs_replicate (z : Value) : ∀ n : Nat, pairs (List.replicate n (z, z)) = List.replicate (n * 2) z
  | 0 => rfl
  | n + 1 => by
    rw [show (n + 1) * 2 = n * 2 + 1 + 1 by omega, List.replicate_succ, List.replicate_succ, List.replicate_succ]
    show z :: z :: pairs (List.replicate n (z, z)) = _
    rw [pairs_replicate z n]

theorem infoBytesSl : (Try.prog.info? 35).map (fun i => (i.zero, i.size, i.bytes)) = some (some (.slice none 0 0), 1, 24) := by kernel_rfl

/-- 'make([][]byte, n)'. -/
theorem make_rows (n : Nat) (hn : n ≤ 1000000000) (w : World) :
    (Instr.makeSlice 22 (.int .i64 (n : Int)) (.int .i64 (n : Int))).run Try.prog w = .ok (whole w.heap.size n) (w.alloc (.cells (Array.replicate n (.slice none 0 0)) 35)) := by
  obtain ⟨i0, hi, hz0, hz1, hz2⟩ := info_parts infoBytesSl
  have h := run_make (P := Try.prog) w 22 35 i0 _ Try.underlying22 hi hz0 .i64 .i64 (n : Int) (n : Int) (by omega) (by omega) (by rw [hz2]; omega) (by omega)
  rw [h]
  simp only [Int.toNat_natCast, hz1, Nat.mul_one]
  congr 3
  apply Array.toList_inj.1
  rw [show (Value.slice none 0 0).cells = #[.slice none 0 0] from rfl, toList_madeCells_one, Array.toList_replicate]
/-- 'make([]vec.Row, n)'. -/
theorem make_vrows (n : Nat) (hn : n ≤ 1000000000) (w : World) :
    (Instr.makeSlice 79 (.int .i64 (n : Int)) (.int .i64 (n : Int))).run Try.prog w = .ok (whole w.heap.size n) (w.alloc (.cells (Array.replicate (n * 2) (.slice none 0 0)) 61)) := by
  obtain ⟨i0, hi, hz0, hz1, hz2⟩ := info_parts infoVec
  have h := run_make (P := Try.prog) w 79 61 i0 _ Try.underlying79 hi hz0 .i64 .i64 (n : Int) (n : Int) (by omega) (by omega) (by rw [hz2]; omega) (by omega)
  rw [h]
  simp only [Int.toNat_natCast, hz1]
  congr 3
  apply Array.toList_inj.1
  rw [show (Value.agg #[.slice none 0 0, .slice none 0 0]).cells = #[.slice none 0 0, .slice none 0 0] from rfl, madeTwice, Array.toList_replicate]

theorem noU8_all {l : List Value} (h : ∀ x ∈ l, ∀ k : Nat, x ≠ U8 k) : ∀ (i n : Nat), l.toArray[i]? ≠ some (U8 n) := fun i n e => by
  rw [List.getElem?_toArray] at e
  exact h _ (List.mem_of_getElem? e) n rfl
theorem OwnM.made {w : World} {B g n : Nat} {T : TypeId} (h : Blk w g (Array.replicate n (.slice none 0 0)) T) (hB : B ≤ g) (hn : n ≤ 1000000000) : OwnM w B T (whole g n) (List.replicate n []) := by
  rw [show Array.replicate n (Value.slice none 0 0) = (List.replicate n (Value.slice none 0 0)).toArray by simp] at h
  have hE : EachB w (List.replicate n (.slice none 0 0)) (List.replicate n []) := ⟨by simp, fun i u hu => by
    have hu' := List.mem_of_getElem? hu
    rw [List.mem_replicate] at hu'
    rw [hu'.2]
    have : rowAt (List.replicate n []) i = [] := by
      unfold rowAt
      rw [List.getD_eq_getElem?_getD, List.getElem?_replicate]
      split <;> rfl
    rw [this]; exact Bytes.nil w⟩
  refine ⟨List.replicate n (.slice none 0 0), ⟨⟨by simp, .inr ⟨g, n, _, by simp, hB, h, by simp, by unfold maxLen; omega, by simp, by simp⟩⟩, fun k e => ?_⟩, hE⟩
  simp only [Value.ownBlock, Option.some.injEq] at e
  subst e
  exact Loose.of_blk h (noU8_all fun x hx => (hE.noU8 x hx).1)
theorem OwnM.addr {w : World} {B : Nat} {T : TypeId} {v : Value} {L : List (List Nat)} (h : OwnM w B T v L) (hne : 0 < L.length) : ∃ g c, v = .slice (some ⟨g, 0, none⟩) L.length c ∧ B ≤ g ∧ g < w.heap.size := by
  have h' := h
  obtain ⟨us, ⟨⟨_, h1⟩, _⟩, _⟩ := h
  rcases h1 with ⟨rfl, h0⟩ | ⟨g, cap, cur, rfl, hB, _⟩
  · omega
  · exact ⟨g, cap, rfl, hB, h'.lt g rfl⟩
theorem OwnM.free {w : World} {B g n c : Nat} {T : TypeId} {L : List (List Nat)} (h : OwnM w B T (.slice (some ⟨g, 0, none⟩) n c) L) (j : Nat) : w.frozen? ⟨g, j, none⟩ = false := by
  obtain ⟨a, c', e⟩ := h.shape
  simp only [Value.slice.injEq] at e
  obtain ⟨_, rfl, _⟩ := e
  obtain ⟨us, ⟨h1, _⟩, _⟩ := h
  exact World.ownsRow.frozenAt h1 j
theorem OwnM.cell {w : World} {B g n c : Nat} {T : TypeId} {L : List (List Nat)} (h : OwnM w B T (.slice (some ⟨g, 0, none⟩) n c) L) (k : Nat) (hk : k < L.length) : ∃ a d, w.cell? ⟨g, k, none⟩ = some (.slice a (rowAt L k).length d) ∧ Bytes w (.slice a (rowAt L k).length d) (rowAt L k) := by
  obtain ⟨u, hu, hb⟩ := h.rows.cell k hk
  rw [Nat.zero_add] at hu
  obtain ⟨a, d, rfl, _⟩ := id hb
  exact ⟨a, d, hu, hb⟩
/-- A slice of bytes stored at a place. -/
theorem OwnM.set {w : World} {B g n cap : Nat} {T : TypeId} {L : List (List Nat)} (h : OwnM w B T (.slice (some ⟨g, 0, none⟩) n cap) L) (k : Nat) (hk : k < L.length) {x : Value} {r : List Nat} (hx : Bytes w x r) :
    OwnM (w.setCell ⟨g, k, none⟩ x) B T (.slice (some ⟨g, 0, none⟩) n cap) (L.set k r) ∧ Soft w (w.setCell ⟨g, k, none⟩ x) ∧ w.grownBy (w.setCell ⟨g, k, none⟩ x) (some g) := by
  obtain ⟨a, c, e⟩ := h.shape
  simp only [Value.slice.injEq] at e
  obtain ⟨_, rfl, _⟩ := e
  obtain ⟨us, h1, h2⟩ := h
  obtain ⟨s1, hg⟩ := World.ownsRow.stored h1.1 k x
  have nx : ∀ m : Nat, x ≠ U8 m := by obtain ⟨a, c, rfl, _⟩ := hx; exact slice_ne _ _ _
  have hk' : k < us.length := by rw [h2.len]; exact hk
  obtain ⟨cur, fr, hcur⟩ : ∃ cur fr, w.heap[g]? = some (.cells cur T fr) := by
    rcases h1.1.2 with ⟨e, _⟩ | ⟨g', cap', cur, e, _, hgg, _⟩
    · cases e
    · simp only [Value.slice.injEq, Option.some.injEq, Addr.mk.injEq] at e
      obtain ⟨⟨rfl, _⟩, _⟩ := e
      exact ⟨cur, (0, 0), hgg⟩
  have hloose := h1.2 g rfl
  have hl2 : Loose (w.setCell ⟨g, k, none⟩ x) g := by
    intro i m
    have e1 : (w.setCell ⟨g, k, none⟩ x).heap[g]? = some (.cells (cur.setIfInBounds k x) T fr) := by
      unfold World.setCell
      simp [Array.getElem?_modify, hcur]
    rw [cell_of_row _ g i _ _ fr e1]
    have e2 := hloose i m
    rw [cell_of_row w g i cur T fr hcur] at e2
    rw [Array.getElem?_setIfInBounds]
    intro e3
    split at e3
    · split at e3
      · exact nx m (Option.some.inj e3)
      · cases e3
    · exact e2 e3
  have hs : Soft w (w.setCell ⟨g, k, none⟩ x) := Soft.of_grown hg fun b e => by
    simp only [Option.some.injEq] at e
    subst e; exact ⟨hloose, hl2⟩
  refine ⟨⟨us.set k x, ⟨?_, fun b e => ?_⟩, ⟨by simp [h2.len], fun i u hu => ?_⟩⟩, hs, hg⟩
  · rw [List.length_set]; exact s1
  · simp only [Value.ownBlock, Option.some.injEq] at e
    subst e; exact hl2
  · rw [List.getElem?_set] at hu
    by_cases hki : k = i
    · subst hki
      rw [if_pos rfl, if_pos hk'] at hu
      simp only [Option.some.injEq] at hu
      subst hu
      rw [show rowAt (L.set k r) k = r from by rw [rowAt_eq _ _ (by simpa using hk)]; simp]
      exact hx.soft hs
    · rw [if_neg hki] at hu
      rw [show rowAt (L.set k r) i = rowAt L i from by unfold rowAt; rw [List.getD_eq_getElem?_getD, List.getElem?_set, if_neg hki, ← List.getD_eq_getElem?_getD]]
      exact (h2.row i u hu).soft hs

/-- Rows filled in, as far as they are. -/
def fillM (R : List (List Nat)) (k : Nat) : List (List Nat) := R.take k ++ List.replicate (R.length - k) []
theorem fillM_length {R : List (List Nat)} {k : Nat} (h : k ≤ R.length) : (fillM R k).length = R.length := by simp [fillM]; omega
theorem fillM_zero (R : List (List Nat)) : fillM R 0 = List.replicate R.length [] := by simp [fillM]
theorem fillM_all (R : List (List Nat)) : fillM R R.length = R := by simp [fillM]
theorem fillM_set {R : List (List Nat)} {k : Nat} (h : k < R.length) : (fillM R k).set k (rowAt R k) = fillM R (k + 1) := by
  unfold fillM
  have e0 : (R.take k).length = k := by rw [List.length_take, Nat.min_eq_left (by omega)]
  rw [List.set_append_right _ _ (by omega), e0, Nat.sub_self, show R.length - k = (R.length - (k + 1)) + 1 by omega, List.replicate_succ, List.set_cons_zero, take_rowAt R k h, List.append_assoc]
  rfl

/-! ### Rows of two slices -/

theorem OwnL.made {w : World} {B g n : Nat} {T : TypeId} (h : Blk w g (Array.replicate (n * 2) (.slice none 0 0)) T) (hB : B ≤ g) (hn : n ≤ 1000000000) : OwnL w B T (whole g n) (List.replicate n ([], [])) := by
  rw [show Array.replicate (n * 2) (Value.slice none 0 0) = (pairs (List.replicate n (Value.slice none 0 0, Value.slice none 0 0))).toArray by rw [pairs_replicate]; simp] at h
  have hE : Each w (List.replicate n (.slice none 0 0, .slice none 0 0)) (List.replicate n ([], [])) := ⟨by simp, fun i u hu => by
    have hu' := List.mem_of_getElem? hu
    rw [List.mem_replicate] at hu'
    rw [hu'.2]
    have : rwAt (List.replicate n ([], [])) i = ([], []) := by
      unfold rwAt
      rw [List.getD_eq_getElem?_getD, List.getElem?_replicate]
      split <;> rfl
    rw [this]; exact ⟨Bytes.nil w, Bytes.nil w⟩⟩
  have hpl := pairs_length (List.replicate n (Value.slice none 0 0, Value.slice none 0 0))
  rw [List.length_replicate] at hpl
  refine ⟨List.replicate n (.slice none 0 0, .slice none 0 0), ⟨⟨by rw [hpl]; simp, .inr ⟨g, n, _, by simp, hB, h, by simp, by unfold maxLen; omega, by simpa using hpl, ?_⟩⟩, fun k e => ?_⟩, hE⟩
  · rw [List.length_replicate]
    exact List.take_of_length_le (by rw [hpl]; exact Nat.le_refl _)
  simp only [Value.ownBlock, Option.some.injEq] at e
  subst e
  exact Loose.of_blk h (noU8_all fun x hx => (hE.noU8 x hx).1)
def fillL (R : List Rw) (k : Nat) : List Rw := R.take k ++ List.replicate (R.length - k) ([], [])
theorem fillL_length {R : List Rw} {k : Nat} (h : k ≤ R.length) : (fillL R k).length = R.length := by simp [fillL]; omega
theorem fillL_zero (R : List Rw) : fillL R 0 = List.replicate R.length ([], []) := by simp [fillL]
theorem fillL_all (R : List Rw) : fillL R R.length = R := by simp [fillL]
theorem fillL_set {R : List Rw} {k : Nat} (h : k < R.length) : (fillL R k).set k (rwAt R k) = fillL R (k + 1) := by
  unfold fillL
  have e0 : (R.take k).length = k := by rw [List.length_take, Nat.min_eq_left (by omega)]
  rw [List.set_append_right _ _ (by omega), e0, Nat.sub_self, show R.length - k = (R.length - (k + 1)) + 1 by omega, List.replicate_succ, List.set_cons_zero, take_rwAt R k h, List.append_assoc]
  rfl

end Go.Proofs.Ytohfcdgpllghbaa

/-
  Grids in the program (layer 7): 'tooMany', 'cloned', 'Rows', 'Height', 'Width', 'Same'.
-/
set_option maxRecDepth 100000
namespace Go.Proofs.Ytohfcdgpllghbaa
open Go.RowKit

/-- The value is a grid of this width that reads as these rows. -/
def IsGrid (w : World) (u : Value) (m : Int) (ll : List (List Nat)) : Prop := ∃ a c, u = .agg #[.int .i64 m, .slice a ll.length c] ∧ IsRows w (.slice a ll.length c) ll
theorem IsGrid.go {w w' : World} {u : Value} {m : Int} {ll : List (List Nat)} (h : IsGrid w u m ll) (hb : Below w.heap.size w w') : IsGrid w' u m ll := by
  obtain ⟨a, c, e, h1⟩ := h; exact ⟨a, c, e, h1.go hb⟩
theorem IsGrid.mk {w : World} {v : Value} {m : Int} {ll : List (List Nat)} (h : IsRows w v ll) : IsGrid w (.agg #[.int .i64 m, v]) m ll := by
  obtain ⟨a, c, rfl⟩ := h.shape
  exact ⟨a, c, rfl, h⟩
theorem IsGrid.zero (w : World) : IsGrid w (.agg #[.int .i64 0, .slice none 0 0]) 0 [] := ⟨none, 0, rfl, (OwnM.nil w 0 0).rows⟩
theorem int_ne (k : IntKind) (x : Int) (h : k ≠ .u8) : ∀ n : Nat, Value.int k x ≠ U8 n := fun n e => by
  simp only [Value.int.injEq] at e
  exact h e.1
/-- A grid whose rows stand in a block of B or later. -/
def GridO (w : World) (B : Nat) (u : Value) (m : Int) (ll : List (List Nat)) : Prop := ∃ v, u = .agg #[.int .i64 m, v] ∧ OwnM w B 35 v ll
theorem GridO.go {w w' : World} {B : Nat} {u : Value} {m : Int} {ll : List (List Nat)} (h : GridO w B u m ll) (hb : Below w.heap.size w w') : GridO w' B u m ll := by
  obtain ⟨v, e, h1⟩ := h; exact ⟨v, e, h1.go hb⟩
theorem GridO.grid {w : World} {B : Nat} {u : Value} {m : Int} {ll : List (List Nat)} (h : GridO w B u m ll) : IsGrid w u m ll := by
  obtain ⟨v, rfl, h1⟩ := h; exact IsGrid.mk h1.rows
theorem GridO.zero (w : World) (B : Nat) : GridO w B (.agg #[.int .i64 0, .slice none 0 0]) 0 [] := ⟨_, rfl, OwnM.nil _ _ _⟩
/-- What a call answers that makes a grid. -/
def GridV (w : World) (m : Int) (ll : List (List Nat)) (e : Ending) (w' : World) : Prop := ∃ u, e = .returned u ∧ GridO w' w.heap.size u m ll ∧ Below w.heap.size w w'
def GridE (w : World) (m : Int) (ll : List (List Nat)) (err : Int) (e : Ending) (w' : World) : Prop := ∃ u, e = .returned (.tuple #[u, I64 err]) ∧ GridO w' w.heap.size u m ll ∧ Below w.heap.size w w'

theorem many_spell (h m : Int) (h0' : 0 ≤ h) (h0 : 0 ≤ m) : decide (65536 / max 1 m < h) = decide (65536 < h ∨ 65536 < h * m) := by
  rw [decide_eq_decide]
  rcases Int.lt_or_le m 1 with hm | hm
  · have : m = 0 := by omega
    subst this
    have : max (1 : Int) 0 = 1 := by decide
    rw [this]
    simp
  · rw [Int.max_eq_right hm]
    have h2 := Int.ediv_lt_iff_lt_mul (a := 65536) (b := h) (show (0 : Int) < m by omega)
    rw [h2]
    constructor
    · intro h; exact .inr h
    · rintro (hh | hh)
      · have : h * 1 ≤ h * m := Int.mul_le_mul_of_nonneg_left (show (1 : Int) ≤ m by omega) h0'
        omega
      · exact hh

set_option maxHeartbeats 1000000 in
theorem many_any (h m : Int) (w : World) (h0 : 0 ≤ h) (m0 : 0 ≤ m) (m1 : m ≤ 1000000) :
    Calls Try.prog 53 #[.int .i64 h, .int .i64 m] w fun e w' => e = .returned (.bool (decide (65536 < h ∨ 65536 < h * m))) ∧ w = w' := by
  rw [← many_spell h m h0 m0]
  go_enter Try.func53, Try.ntmps53
  go_wp2_with fail
  go_ret
  exact ⟨rfl, rfl⟩

set_option maxHeartbeats 1000000 in
theorem cloned_any (v : Value) (ll : List (List Nat)) (w : World) (hR : IsRows w v ll) (hlen : ll.length ≤ 1000000000) (hl : ∀ i, i < ll.length → (rowAt ll i).length ≤ 1000000000) :
    Calls Try.prog 56 #[v] w fun e w' => ∃ v', e = .returned v' ∧ OwnM w' w.heap.size 35 v' ll ∧ Below w.heap.size w w' := by
  have HR := Lib.hid hR
  have HW := Lib.hid hl
  obtain ⟨a, c, rfl⟩ := hR.shape
  have hmk := make_rows ll.length hlen
  clear hR hl
  go_enter Try.func56, Try.ntmps56
  go_wp2_with fail
  obtain ⟨B, hk, hs⟩ := blocks1 w (Array.replicate ll.length (.slice none 0 0)) 35
  generalize w.alloc (.cells (Array.replicate ll.length (.slice none 0 0)) 35) = W at *
  have HM := Lib.hid (OwnM.made hk (Nat.le_refl _) hlen)
  clear hk hs hmk
  go_loopw [4, 5, 11] (fun _ _ i wr => ∃ k : Nat, k ≤ ll.length ∧ i = .int .i64 k ∧ Below w.heap.size w wr ∧ OwnM wr w.heap.size 35 (whole w.heap.size ll.length) (fillM ll k)) (fun _ _ i _ => ll.length - (intOf i).toNat)
  case atStart => exact ⟨0, by omega, rfl, B, by rw [fillM_zero]; exact HM.out⟩
  case round =>
    clear B HM
    obtain ⟨k, hk, rfl, B, hO⟩ := hrel
    have HO := Lib.hid hO
    clear hO
    have hz := B.size
    by_cases hlt : k < ll.length
    · obtain ⟨b, off, u, rfl, hu, hBr⟩ := HR.out.row B k hlt
      have HBR := Lib.hid hBr
      obtain ⟨ua, uc, rfl, _⟩ := hBr
      have k0 : (0 : Int) ≤ (k : Int) := Int.natCast_nonneg _
      have k1 : (k : Int) < (ll.length : Int) := by omega
      have HK := Lib.hid (show k < (fillM ll k).length by rw [fillM_length hk]; exact hlt)
      have HS := Lib.hid (fillM_set hlt)
      go_wp2_with fail
      refine (clone_any _ (rowAt ll k) _ (HW.out k hlt) HBR.out).mono ?_
      rintro e w2 ⟨v2, rfl, hv2, hb⟩
      replace HO := Lib.hid (HO.out.go hb)
      replace B := B.trans (hb.mono B.size)
      have hzw2 := B.size
      clear hb
      have HV := Lib.hid hv2
      obtain ⟨xa, xc, rfl, _⟩ := hv2
      obtain ⟨a9, d9, c9, _⟩ := HO.out.cell k HK.out
      have f9 := HO.out.free k
      go_wp2_with fail
      obtain ⟨o1, s1, g1⟩ := HO.out.set k HK.out HV.out
      rw [HS.out] at o1
      have HO1 := Lib.hid o1
      have HB1 := Lib.hid (below_grown B g1 B.size (Nat.le_refl _))
      clear o1 s1 g1
      go_roundw
      case rel => exact ⟨k + 1, by omega, by go_num, HB1.out, HO1.out⟩
      case measure => simp [intOf]; omega
    · obtain rfl : k = ll.length := by omega
      rw [fillM_all] at HO
      go_wp2_with fail
      go_ret
      exact ⟨_, rfl, HO.out, B⟩

set_option maxHeartbeats 400000 in
theorem gridrows_any (u : Value) (m : Int) (ll : List (List Nat)) (w : World) (hG : IsGrid w u m ll) (hlen : ll.length ≤ 1000000000) (hl : ∀ i, i < ll.length → (rowAt ll i).length ≤ 1000000000) :
    Calls Try.prog 17 #[u] w fun e w' => ∃ v', e = .returned v' ∧ OwnM w' w.heap.size 35 v' ll ∧ Below w.heap.size w w' := by
  obtain ⟨a, c, rfl, hR⟩ := hG
  have HR := Lib.hid hR
  have HW := Lib.hid hl
  clear hR hl
  go_enter Try.func17, Try.ntmps17
  go_wp2_with fail
  obtain ⟨B, hk1, hs⟩ := blocks1 w #[.int .i64 m, .slice a ll.length c] 26
  generalize (w.alloc (.cells #[.int .i64 m, .slice a ll.length c] 26)) = W at *
  have K1 := Lib.hid hk1
  have HS := Lib.hid hs
  clear hs hk1
  replace HR := Lib.hid (HR.out.go B)
  have hzW := B.size
  obtain ⟨k10, k11⟩ := K1.out.two
  have k1l := K1.out.lt
  go_wp2_with fail
  refine (cloned_any _ ll _ HR.out hlen HW.out).mono ?_
  rintro e w2 ⟨v2, rfl, hv2, hb⟩
  replace B := B.trans (hb.mono B.size)
  have hzw2 := B.size
  clear hb
  go_wp2_with fail
  go_ret
  exact ⟨_, rfl, hv2.mono hzW, B⟩

set_option maxHeartbeats 400000 in
theorem height_any (u : Value) (m : Int) (ll : List (List Nat)) (w : World) (hG : IsGrid w u m ll) :
    Calls Try.prog 15 #[u] w fun e w' => e = .returned (.int .i64 (ll.length : Int)) ∧ Below w.heap.size w w' := by
  obtain ⟨a, c, rfl, hR⟩ := hG
  clear hR
  go_enter Try.func15, Try.ntmps15
  go_wp2_with fail
  obtain ⟨B, hk1, hs⟩ := blocks1 w #[.int .i64 m, .slice a ll.length c] 26
  generalize (w.alloc (.cells #[.int .i64 m, .slice a ll.length c] 26)) = W at *
  have K1 := Lib.hid hk1
  have HS := Lib.hid hs
  clear hs hk1
  have hzW := B.size
  obtain ⟨k10, k11⟩ := K1.out.two
  have k1l := K1.out.lt
  go_wp2_with fail
  go_ret
  exact ⟨rfl, B⟩

set_option maxHeartbeats 400000 in
theorem width_any (u : Value) (m : Int) (ll : List (List Nat)) (w : World) (hG : IsGrid w u m ll) :
    Calls Try.prog 14 #[u] w fun e w' => e = .returned (.int .i64 m) ∧ Below w.heap.size w w' := by
  obtain ⟨a, c, rfl, hR⟩ := hG
  clear hR
  go_enter Try.func14, Try.ntmps14
  go_wp2_with fail
  obtain ⟨B, hk1, hs⟩ := blocks1 w #[.int .i64 m, .slice a ll.length c] 26
  generalize (w.alloc (.cells #[.int .i64 m, .slice a ll.length c] 26)) = W at *
  have K1 := Lib.hid hk1
  have HS := Lib.hid hs
  clear hs hk1
  have hzW := B.size
  obtain ⟨k10, k11⟩ := K1.out.two
  have k1l := K1.out.lt
  go_wp2_with fail
  go_ret
  exact ⟨rfl, B⟩

set_option maxHeartbeats 1000000 in
theorem equalfunc_any (v0 v1 : Value) (A C : List (List Nat)) (w : World) (h0 : IsRows w v0 A) (h1 : IsRows w v1 C) (hlen : A.length ≤ 1000000000) :
    Calls Try.prog 58 #[v0, v1, .func (Fn.func 59) #[] #[]] w fun e w' => e = .returned (.bool (decide (A = C))) ∧ w = w' := by
  have H0 := Lib.hid h0
  have H1 := Lib.hid h1
  obtain ⟨a0, c0, rfl⟩ := h0.shape
  obtain ⟨a1, c1, rfl⟩ := h1.shape
  clear h0 h1
  by_cases hl : A.length = C.length
  · have hb : ((A.length : Int) != (C.length : Int)) = false := by rw [hl]; simp
    have HL := Lib.hid hl
    clear hl
    go_enter Try.func58, Try.ntmps58
    go_wp2_with fail
    go_loop [7, 8, 9, 17] (fun _ _ _ i => ∃ k : Nat, k ≤ A.length ∧ i = .int .i64 k ∧ ∀ j, j < k → rowAt A j = rowAt C j) (fun _ _ _ i => A.length - (intOf i).toNat)
    case atStart => exact ⟨0, by omega, rfl, fun j hj => by omega⟩
    case round =>
      obtain ⟨k, hk, rfl, hs⟩ := hrel
      have HS := Lib.hid hs
      clear hs
      by_cases hlt : k < A.length
      · obtain ⟨b0, off0, u0, rfl, hu0, hb0⟩ := H0.out.row (Below.refl _ _) k hlt
        obtain ⟨b1, off1, u1, rfl, hu1, hb1⟩ := H1.out.row (Below.refl _ _) k (by rw [← HL.out]; exact hlt)
        have HB0 := Lib.hid hb0
        have HB1 := Lib.hid hb1
        obtain ⟨x0, y0, rfl, _⟩ := hb0
        obtain ⟨x1, y1, rfl, _⟩ := hb1
        have k0 : (0 : Int) ≤ (k : Int) := Int.natCast_nonneg _
        have k1 : (k : Int) < (A.length : Int) := by omega
        have k2 : (k : Int) < (C.length : Int) := by rw [← HL.out]; exact k1
        go_wp2_with fail
        refine (equal_any _ _ (rowAt A k) (rowAt C k) _ HB0.out HB1.out).mono ?_
        rintro e w' ⟨rfl, rfl⟩
        by_cases he : rowAt A k = rowAt C k
        · have hd : decide (rowAt A k = rowAt C k) = true := decide_eq_true he
          rw [hd]
          have HE := Lib.hid he
          clear he hd
          go_wp2_with fail
          go_round
          case rel => exact ⟨k + 1, by omega, by go_num, fun j hj => by
            by_cases h : j = k
            · rw [h]; exact HE.out
            · exact HS.out j (by omega)⟩
          case measure => simp [intOf]; omega
        · have hd : decide (rowAt A k = rowAt C k) = false := decide_eq_false he
          have HF := Lib.hid (show decide (A = C) = false from decide_eq_false fun e => he (by rw [e]))
          rw [hd]
          clear he hd
          go_wp2_with fail
          go_ret
          exact ⟨by rw [HF.out]; rfl, rfl⟩
      · obtain rfl : k = A.length := by omega
        have HF := Lib.hid (show decide (A = C) = true from decide_eq_true (ext_rowAt HL.out HS.out))
        go_wp2_with fail
        go_ret
        exact ⟨by rw [HF.out]; rfl, rfl⟩
  · have hb : ((A.length : Int) != (C.length : Int)) = true := by rw [bne_iff_ne]; omega
    have HF := Lib.hid (show decide (A = C) = false from decide_eq_false fun e => hl (by rw [e]))
    clear hl
    go_enter Try.func58, Try.ntmps58
    go_wp2_with fail
    go_ret
    exact ⟨by rw [HF.out]; rfl, rfl⟩

set_option maxHeartbeats 1000000 in
theorem gridsame_any (u0 u1 : Value) (m0 m1 : Int) (A C : List (List Nat)) (w : World) (h0 : IsGrid w u0 m0 A) (h1 : IsGrid w u1 m1 C) (hlen : A.length ≤ 1000000000) :
    Calls Try.prog 18 #[u0, u1] w fun e w' => e = .returned (.bool (decide (m0 = m1 ∧ A = C))) ∧ Below w.heap.size w w' := by
  obtain ⟨a0, c0, rfl, hR0⟩ := h0
  obtain ⟨a1, c1, rfl, hR1⟩ := h1
  have H0 := Lib.hid hR0
  have H1 := Lib.hid hR1
  clear hR0 hR1
  by_cases hm : m0 = m1
  · have hb : (m0 == m1) = true := beq_iff_eq.2 hm
    have HE := Lib.hid (show decide (m0 = m1 ∧ A = C) = decide (A = C) by rw [decide_eq_decide]; exact ⟨fun h => h.2, fun h => ⟨hm, h⟩⟩)
    clear hm
    go_enter Try.func18, Try.ntmps18
    go_wp2_with fail
    obtain ⟨B, hk1, hk2, hs⟩ := blocks2 w #[.int .i64 m0, .slice a0 A.length c0] 26 #[.int .i64 m1, .slice a1 C.length c1] 26
    generalize ((w.alloc (.cells #[.int .i64 m0, .slice a0 A.length c0] 26)).alloc (.cells #[.int .i64 m1, .slice a1 C.length c1] 26)) = W at *
    have K1 := Lib.hid hk1
    have K2 := Lib.hid hk2
    have HS := Lib.hid hs
    clear hs hk1 hk2
    replace H0 := Lib.hid (H0.out.go B)
    replace H1 := Lib.hid (H1.out.go B)
    have hzW := B.size
    obtain ⟨k10, k11⟩ := K1.out.two
    have k1l := K1.out.lt
    obtain ⟨k20, k21⟩ := K2.out.two
    have k2l := K2.out.lt
    go_wp2_with fail
    refine (equalfunc_any _ _ A C _ H0.out H1.out hlen).mono ?_
    rintro e w' ⟨rfl, rfl⟩
    go_wp2_with fail
    go_ret
    exact ⟨by rw [HE.out]; rfl, B⟩
  · have hb : (m0 == m1) = false := beq_eq_false_iff_ne.2 hm
    have HE := Lib.hid (show decide (m0 = m1 ∧ A = C) = false from decide_eq_false fun h => hm h.1)
    clear hm
    go_enter Try.func18, Try.ntmps18
    go_wp2_with fail
    obtain ⟨B, hk1, hk2, hs⟩ := blocks2 w #[.int .i64 m0, .slice a0 A.length c0] 26 #[.int .i64 m1, .slice a1 C.length c1] 26
    generalize ((w.alloc (.cells #[.int .i64 m0, .slice a0 A.length c0] 26)).alloc (.cells #[.int .i64 m1, .slice a1 C.length c1] 26)) = W at *
    have K1 := Lib.hid hk1
    have K2 := Lib.hid hk2
    have HS := Lib.hid hs
    clear hs hk1 hk2
    replace H0 := Lib.hid (H0.out.go B)
    replace H1 := Lib.hid (H1.out.go B)
    have hzW := B.size
    obtain ⟨k10, k11⟩ := K1.out.two
    have k1l := K1.out.lt
    obtain ⟨k20, k21⟩ := K2.out.two
    have k2l := K2.out.lt
    go_wp2_with fail
    go_ret
    exact ⟨by rw [HE.out]; rfl, B⟩

end Go.Proofs.Ytohfcdgpllghbaa
