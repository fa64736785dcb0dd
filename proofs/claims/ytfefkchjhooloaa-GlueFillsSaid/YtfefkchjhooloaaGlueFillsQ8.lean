/- Texts of one seat, laid together: RefFillA, LawTwelveE. -/
import Derived.Test.YtfefkchjhooloaaGlueFillsQ7
import Derived.Test.YtfefkchjhooloaaGlueFillsQ1
import Derived.Test.YtfefkchjhooloaaGlueFillsQ5

/-
  The document's answer for known symbols (wellspringref12.Fill), in the program.
-/
set_option maxRecDepth 100000
namespace Go.Proofs.Ytfefkchjhooloaa
open Go.RowKit Go.Maps

/-- What the document's Fill answers. -/
def RefV (w : World) (l s k : Int) (NL : List Int) (ll : List (List Nat)) (e : Ending) (w' : World) : Prop :=
  ∃ (u v : Value) (E : Int) (O : List Nat) (T : List Bool), e = .returned (.tuple #[u, v, .int .i64 E]) ∧ Bytes w' u O ∧ Bools w' v T ∧ Below w.heap.size w w' ∧
    (checkE l s k ≠ 0 → E = checkE l s k ∧ O = [] ∧ T = []) ∧
    (checkE l s k = 0 → ∃ worst code, Worst NL s k (fN NL ll NL.length) NL.length NL.length worst code ∧ E = code ∧ (code ≠ 0 → O = [] ∧ T = []) ∧ (code = 0 → O = outN NL ll s.toNat NL.length l.toNat ∧ T = isN NL ll s.toNat NL.length l.toNat))
theorem apart_comm {a b : Option Nat} (h : a = none ∨ a ≠ b) : b = none ∨ b ≠ a := by
  rcases h with h | h
  · cases b with
    | none => exact .inl rfl
    | some x => exact .inr (by rw [h]; simp)
  · exact .inr (fun e => h e.symm)
theorem inN_lt {NL : List Int} {ll : List (List Nat)} (h : OctM ll) {q r : Nat} : ∀ m, (inN NL ll q r m).1 < 256
  | 0 => by show 0 < 256; omega
  | m + 1 => by
    unfold inN
    split
    · exact nth_lt (fun x hx => by
        by_cases hm : m < ll.length
        · rw [rowAt_eq ll m hm] at hx
          exact h _ (List.getElem_mem hm) x hx
        · have : rowAt ll m = [] := by unfold rowAt; rw [List.getD_eq_getElem?_getD, List.getElem?_eq_none (by omega)]; rfl
          rw [this] at hx; simp at hx) r
    · exact inN_lt h m
theorem outN_lt {NL : List Int} {ll : List (List Nat)} (h : OctM ll) (s m a : Nat) : ∀ x, x ∈ outN NL ll s m a → x < 256 := by
  intro x hx
  obtain ⟨y, _, rfl⟩ := List.mem_map.1 hx
  exact inN_lt h m
theorem outN_length (NL : List Int) (ll : List (List Nat)) (s m a : Nat) : (outN NL ll s m a).length = a := by simp [outN]
theorem isN_length (NL : List Int) (ll : List (List Nat)) (s m a : Nat) : (isN NL ll s m a).length = a := by simp [isN]
set_option maxHeartbeats 4000000 in
theorem reffill_any (l s k : Int) (n : Nat) (v1 v2 : Value) (NL : List Int) (ll : List (List Nat)) (w : World) (hl : l ≤ 9223372036854775807) (h1 : Ints w v1 NL) (h2 : IsRows w v2 ll) (hm : NL.length = ll.length) (hm9 : ll.length ≤ 1000000) :
    Calls Try.prog 24 #[.agg #[.int .i64 l, .int .i64 s, .int .i64 k, .int .u32 (n : Int)], v1, v2] w (RefV w l s k NL ll) := by
  have H1 := Lib.hid h1
  have H2 := Lib.hid h2
  have HOCT := Lib.hid (show OctM ll from h2.oct)
  obtain ⟨a1, c1, rfl, _⟩ := h1
  obtain ⟨a2, c2, rfl⟩ := h2.shape
  rw [← hm] at hm9
  rw [← hm]
  have HM := Lib.hid hm
  clear hm h2
  obtain ⟨ce, hce⟩ : ∃ x, x = checkE l s k := ⟨_, rfl⟩
  have HC := Lib.hid hce.symm
  by_cases hc0 : ce = 0
  · subst hc0
    obtain ⟨p1, p2, p3, p4, p5, -, q7⟩ := check_ok10 hce.symm
    obtain ⟨l', hl'⟩ : ∃ l' : Nat, l = l' := ⟨l.toNat, by omega⟩
    obtain ⟨s', hs'⟩ : ∃ s' : Nat, s = s' := ⟨s.toNat, by omega⟩
    obtain ⟨k', hk'⟩ : ∃ k' : Nat, k = k' := ⟨k.toNat, by omega⟩
    subst hl'
    subst hs'
    subst hk'
    have HL48 := Lib.hid (show l' ≤ 4096 * 65535 by
      have : (k' : Int) * (s' : Int) ≤ 4096 * 65535 := Int.mul_le_mul p5 p3 (by omega) (by omega)
      omega)
    clear hce q7
    obtain ⟨F, hF⟩ : ∃ F, F = fN NL ll NL.length := ⟨_, rfl⟩
    have HFD := Lib.hid hF
    have HLAST := Lib.hid (show ∀ i, i < NL.length → lastN NL NL.length i → F (nthI NL i) = rowAt ll i by intro i hi hL; rw [hF]; exact fN_last hi hL)
    clear hF
    go_enter Try.func24, Try.ntmps24
    go_wp2_with fail
    obtain ⟨B, hk1, hs⟩ := blocks1 w #[.int .i64 ((l':Int)), .int .i64 ((s':Int)), .int .i64 ((k':Int)), .int .u32 (n : Int)] 33
    generalize (w.alloc (.cells #[.int .i64 ((l':Int)), .int .i64 ((s':Int)), .int .i64 ((k':Int)), .int .u32 (n : Int)] 33)) = W at *
    have K1 := Lib.hid hk1
    have HS := Lib.hid hs
    clear hs hk1
    replace H1 := Lib.hid (H1.out.go B)
    replace H2 := Lib.hid (H2.out.go B)
    have hzW := B.size
    refine (refcheck_any ((l':Int)) ((s':Int)) ((k':Int)) _ _ hl ⟨n, rfl⟩).mono ?_
    rintro e w1 ⟨rfl, hb⟩
    replace K1 := Lib.hid (K1.out.go hb)
    replace H1 := Lib.hid (H1.out.go hb)
    replace H2 := Lib.hid (H2.out.go hb)
    replace B := B.trans (hb.mono B.size)
    have hzw1 := B.size
    clear hb
    rw [HC.out]
    go_wp2_with fail
    have HS1 := Lib.hid (show Since w1 w1 from Below.refl _ _)
    go_loopw [12, 13, 14, 15, 16, 18, 19, 32, 42] (fun x12 x13 _ _ _ _ _ x32 _ wr => ∃ (i : Nat) (worst code : Int), i ≤ NL.length ∧ x12 = .int .i64 worst ∧ x13 = .int .i64 code ∧ x32 = .int .i64 i ∧ Since w1 wr ∧ Hid (Worst NL (s' : Int) (k' : Int) F NL.length i worst code)) (fun _ _ _ _ _ _ _ x32 _ _ => NL.length - (Go.RowKit.intOf x32).toNat)
    case atStart => exact ⟨0, 0, 0, by omega, rfl, rfl, rfl, HS1.out, Lib.hid (.inl ⟨rfl, fun j hj => by omega⟩)⟩
    case round =>
      clear HS1
      obtain ⟨i, worst, code, hi, rfl, rfl, rfl, hS, HW⟩ := hrel
      have HSR := Lib.hid hS
      have K2 := Lib.hid (K1.out.go hS)
      have HI2 := Lib.hid (H1.out.go hS)
      clear hS
      obtain ⟨p0, q1, q2, q3⟩ := K2.out.four
      have pl := K2.out.lt
      by_cases hlt : i < NL.length
      · obtain ⟨ab, ao, rfl, hcell⟩ : ∃ ab ao, a1 = some ⟨ab, ao, none⟩ ∧ wr.cell? ⟨ab, ao + i, none⟩ = some (.int .i64 (nthI NL i)) := by
          obtain ⟨a', c', e, _, _, _, h4⟩ := HI2.out
          obtain ⟨b', off', rfl, _, hc⟩ := h4 (by intro h; rw [h] at hlt; simp at hlt)
          simp only [Value.slice.injEq] at e
          exact ⟨b', off', e.1, hc i hlt⟩
        obtain ⟨i1, hi1⟩ : ∃ i1, i1 = i + 1 := ⟨_, rfl⟩
        have hadd : IntKind.i64.wrap ((i : Int) + 1) = (i1 : Int) := by rw [IntKind.wrap_i64]; omega
        obtain ⟨db, dd, hsl, hD⟩ := slice_restI HI2.out (i := i1) (by omega)
        have HD := Lib.hid hD
        obtain ⟨D, hDD⟩ : ∃ D, D = NL.drop i1 := ⟨_, rfl⟩
        rw [← hDD] at hsl HD
        have HDL := Lib.hid (show D.length = NL.length - i1 by rw [hDD, List.length_drop])
        have HDN := Lib.hid (show ∀ j, nthI D j = nthI NL (i1 + j) by intro j; rw [hDD]; exact nthI_drop _ _ _)
        have HI1 := Lib.hid hi1
        obtain ⟨x, hx⟩ : ∃ x, x = nthI NL i := ⟨_, rfl⟩
        have HX := Lib.hid hx
        rw [← hx] at hcell
        have i0 : (0 : Int) ≤ (i : Int) := Int.natCast_nonneg _
        have i9 : (i : Int) < (NL.length : Int) := by omega
        have hD9 : D.length ≤ 1000000 := by have := HDL.out; omega
        have HILT := Lib.hid hlt
        clear hD hDD hi1 hx
        go_wp2_with fail
        obtain ⟨wo, hwo⟩ : ∃ wo : World, wo = wr := ⟨_, rfl⟩
        subst hwo
        go_loopw [16, 18, 42] (fun z _ t wq => ∃ (u : Nat) (zb : Bool), u ≤ D.length ∧ z = .bool zb ∧ t = .int .i64 u ∧ wq = wo ∧ Hid (zb = true ↔ ∀ j, j < u → nthI D j ≠ x)) (fun _ _ t _ => D.length - (Go.RowKit.intOf t).toNat)
        case atStart => exact ⟨0, true, by omega, rfl, rfl, rfl, Lib.hid (by simp)⟩
        case round =>
          obtain ⟨u, zb, hu, rfl, rfl, rfl, HZ⟩ := hrel
          by_cases hul : u < D.length
          · obtain ⟨eb, eo, rfl, hce⟩ : ∃ eb eo, db = some ⟨eb, eo, none⟩ ∧ wr.cell? ⟨eb, eo + u, none⟩ = some (.int .i64 (nthI D u)) := by
              obtain ⟨a', c', e, _, _, _, h4⟩ := HD.out
              obtain ⟨b', off', rfl, _, hc⟩ := h4 (by intro h; rw [h] at hul; simp at hul)
              simp only [Value.slice.injEq] at e
              exact ⟨b', off', e.1, hc u hul⟩
            have u0 : (0 : Int) ≤ (u : Int) := Int.natCast_nonneg _
            have u1 : (u : Int) < (D.length : Int) := by omega
            obtain ⟨y, hy⟩ : ∃ y, y = nthI D u := ⟨_, rfl⟩
            have HY := Lib.hid hy
            rw [← hy] at hce
            clear hy
            cases zb with
            | false =>
              have HZN := Lib.hid (show (false = true ↔ ∀ j, j < u + 1 → nthI D j ≠ x) from ⟨fun h => (by cases h), fun h => HZ.out.2 fun j hj => h j (by omega)⟩)
              go_wp2_with fail
              go_roundw
              case rel => exact ⟨u + 1, false, by omega, rfl, by go_num, trivial, HZN⟩
              case measure => simp [Go.RowKit.intOf]; omega
            | true =>
              by_cases hyx : y = x
              · have hb : (y != x) = false := by rw [hyx]; simp
                have HZN := Lib.hid (show (false = true ↔ ∀ j, j < u + 1 → nthI D j ≠ x) from ⟨fun h => (by cases h), fun h => absurd (HY.out.symm.trans hyx) (h u (by omega))⟩)
                clear hyx
                go_wp2_with fail
                go_roundw
                case rel => exact ⟨u + 1, false, by omega, rfl, by go_num, trivial, HZN⟩
                case measure => simp [Go.RowKit.intOf]; omega
              · have hb : (y != x) = true := by rw [bne_iff_ne]; exact hyx
                have HZN := Lib.hid (show (true = true ↔ ∀ j, j < u + 1 → nthI D j ≠ x) from ⟨fun _ j hj => by
                  by_cases e : j = u
                  · subst e; rw [← HY.out]; exact hyx
                  · exact HZ.out.1 rfl j (by omega), fun _ => rfl⟩)
                clear hyx
                go_wp2_with fail
                go_roundw
                case rel => exact ⟨u + 1, true, by omega, rfl, by go_num, trivial, HZN⟩
                case measure => simp [Go.RowKit.intOf]; omega
          · obtain rfl : u = D.length := by omega
            have HZL := Lib.hid (show zb = true ↔ lastN NL NL.length i from by
              rw [HZ.out]
              constructor
              · intro h j h1 h2
                have := h (j - i1) (by have := HDL.out; have := HI1.out; omega)
                rw [HDN.out, show i1 + (j - i1) = j by have := HI1.out; omega] at this
                rw [← HX.out]; exact this
              · intro h j hj
                rw [HDN.out, HX.out]
                exact h (i1 + j) (by have := HI1.out; omega) (by have := HDL.out; omega))
            obtain ⟨rb, ro, ru, rfl, hru, hrB⟩ := H2.out.row HSR.out i (by rw [← HM.out]; exact HILT.out)
            obtain ⟨ra, rc, rfl, _⟩ := hrB
            have i8 : (i : Int) < (ll.length : Int) := by have := HM.out; have := HILT.out; omega
            by_cases hx0 : x < 0
            · have HSN := HSR
              have HBV := Lib.hid (show badN (s' : Int) (k' : Int) F (nthI NL i) = 2 by unfold badN; rw [← HX.out, if_pos (.inl hx0)])
              have HBN := Lib.hid (show badN (s' : Int) (k' : Int) F (nthI NL i) ≠ 0 by rw [HBV.out]; decide)
              cases zb with
              | false =>
                have HSK := Lib.hid (show ¬ lastN NL NL.length i ∨ badN (s' : Int) (k' : Int) F (nthI NL i) = 0 ∨ (code ≠ 0 ∧ worst ≤ nthI NL i) from .inl (fun h => Bool.noConfusion (HZL.out.2 h)))
                have HWN := Lib.hid (HW.out.skip HSK.out)
                go_wp2_with fail
                go_roundw
                case rel => exact ⟨i1, worst, code, by have := HI1.out; have := HILT.out; omega, rfl, rfl, rfl, HSN.out, by rw [HI1.out]; exact HWN⟩
                case measure => have := HI1.out; have := HILT.out; simp [Go.RowKit.intOf]; omega
              | true =>
                by_cases hcd : code = 0
                · have hcb : (code == 0) = true := by rw [hcd]; rfl
                  have HWN := Lib.hid (HW.out.take HILT.out HBN.out (.inl hcd))
                  rw [HBV.out, ← HX.out] at HWN
                  go_wp2_with fail
                  go_roundw
                  case rel => exact ⟨i1, x, _, by have := HI1.out; have := HILT.out; omega, rfl, rfl, rfl, HSN.out, by rw [HI1.out]; exact HWN⟩
                  case measure => have := HI1.out; have := HILT.out; simp [Go.RowKit.intOf]; omega
                · have hcb : (code == 0) = false := beq_eq_false_iff_ne.2 hcd
                  by_cases hwx : x < worst
                  · have HWN := Lib.hid (HW.out.take HILT.out HBN.out (.inr (by rw [← HX.out]; exact hwx)))
                    rw [HBV.out, ← HX.out] at HWN
                    go_wp2_with fail
                    go_roundw
                    case rel => exact ⟨i1, x, _, by have := HI1.out; have := HILT.out; omega, rfl, rfl, rfl, HSN.out, by rw [HI1.out]; exact HWN⟩
                    case measure => have := HI1.out; have := HILT.out; simp [Go.RowKit.intOf]; omega
                  · have HSK := Lib.hid (show ¬ lastN NL NL.length i ∨ badN (s' : Int) (k' : Int) F (nthI NL i) = 0 ∨ (code ≠ 0 ∧ worst ≤ nthI NL i) from .inr (.inr ⟨hcd, by rw [← HX.out]; omega⟩))
                    have HWN := Lib.hid (HW.out.skip HSK.out)
                    go_wp2_with fail
                    go_roundw
                    case rel => exact ⟨i1, worst, code, by have := HI1.out; have := HILT.out; omega, rfl, rfl, rfl, HSN.out, by rw [HI1.out]; exact HWN⟩
                    case measure => have := HI1.out; have := HILT.out; simp [Go.RowKit.intOf]; omega
            · by_cases hxk : (k' : Int) ≤ x
              · have HSN := HSR
                have HBV := Lib.hid (show badN (s' : Int) (k' : Int) F (nthI NL i) = 2 by unfold badN; rw [← HX.out, if_pos (.inr hxk)])
                have HBN := Lib.hid (show badN (s' : Int) (k' : Int) F (nthI NL i) ≠ 0 by rw [HBV.out]; decide)
                cases zb with
                | false =>
                  have HSK := Lib.hid (show ¬ lastN NL NL.length i ∨ badN (s' : Int) (k' : Int) F (nthI NL i) = 0 ∨ (code ≠ 0 ∧ worst ≤ nthI NL i) from .inl (fun h => Bool.noConfusion (HZL.out.2 h)))
                  have HWN := Lib.hid (HW.out.skip HSK.out)
                  go_wp2_with fail
                  go_roundw
                  case rel => exact ⟨i1, worst, code, by have := HI1.out; have := HILT.out; omega, rfl, rfl, rfl, HSN.out, by rw [HI1.out]; exact HWN⟩
                  case measure => have := HI1.out; have := HILT.out; simp [Go.RowKit.intOf]; omega
                | true =>
                  by_cases hcd : code = 0
                  · have hcb : (code == 0) = true := by rw [hcd]; rfl
                    have HWN := Lib.hid (HW.out.take HILT.out HBN.out (.inl hcd))
                    rw [HBV.out, ← HX.out] at HWN
                    go_wp2_with fail
                    go_roundw
                    case rel => exact ⟨i1, x, _, by have := HI1.out; have := HILT.out; omega, rfl, rfl, rfl, HSN.out, by rw [HI1.out]; exact HWN⟩
                    case measure => have := HI1.out; have := HILT.out; simp [Go.RowKit.intOf]; omega
                  · have hcb : (code == 0) = false := beq_eq_false_iff_ne.2 hcd
                    by_cases hwx : x < worst
                    · have HWN := Lib.hid (HW.out.take HILT.out HBN.out (.inr (by rw [← HX.out]; exact hwx)))
                      rw [HBV.out, ← HX.out] at HWN
                      go_wp2_with fail
                      go_roundw
                      case rel => exact ⟨i1, x, _, by have := HI1.out; have := HILT.out; omega, rfl, rfl, rfl, HSN.out, by rw [HI1.out]; exact HWN⟩
                      case measure => have := HI1.out; have := HILT.out; simp [Go.RowKit.intOf]; omega
                    · have HSK := Lib.hid (show ¬ lastN NL NL.length i ∨ badN (s' : Int) (k' : Int) F (nthI NL i) = 0 ∨ (code ≠ 0 ∧ worst ≤ nthI NL i) from .inr (.inr ⟨hcd, by rw [← HX.out]; omega⟩))
                      have HWN := Lib.hid (HW.out.skip HSK.out)
                      go_wp2_with fail
                      go_roundw
                      case rel => exact ⟨i1, worst, code, by have := HI1.out; have := HILT.out; omega, rfl, rfl, rfl, HSN.out, by rw [HI1.out]; exact HWN⟩
                      case measure => have := HI1.out; have := HILT.out; simp [Go.RowKit.intOf]; omega
              · by_cases hrs : (rowAt ll i).length = s'
                · have hb : (((rowAt ll i).length : Int) != (s' : Int)) = false := by rw [hrs]; simp
                  have HRS := Lib.hid hrs
                  clear hrs
                  go_wp2_with fail
                  go_quiet (fail)
                  have HSN := Lib.hid (show Since w1 (wr.drewN nq) from Below.trans HSR.out ((below_drews wr nq).mono (Below.size HSR.out)))
                  clear hru hcell p0 q1 q2 q3 pl
                  generalize wr.drewN nq = wd at *
                  cases zb with
                  | false =>
                    have HSK := Lib.hid (show ¬ lastN NL NL.length i ∨ badN (s' : Int) (k' : Int) F (nthI NL i) = 0 ∨ (code ≠ 0 ∧ worst ≤ nthI NL i) from .inl (fun h => Bool.noConfusion (HZL.out.2 h)))
                    have HWN := Lib.hid (HW.out.skip HSK.out)
                    go_wp2_with fail
                    go_roundw
                    case rel => exact ⟨i1, worst, code, by have := HI1.out; have := HILT.out; omega, rfl, rfl, rfl, HSN.out, by rw [HI1.out]; exact HWN⟩
                    case measure => have := HI1.out; have := HILT.out; simp [Go.RowKit.intOf]; omega
                  | true =>
                    have HSK := Lib.hid (show ¬ lastN NL NL.length i ∨ badN (s' : Int) (k' : Int) F (nthI NL i) = 0 ∨ (code ≠ 0 ∧ worst ≤ nthI NL i) from .inr (.inl (by
                      unfold badN
                      rw [HLAST.out i HILT.out (HZL.out.1 rfl), HRS.out, ← HX.out, if_neg (by omega), if_neg (by simp)])))
                    have HWN := Lib.hid (HW.out.skip HSK.out)
                    go_wp2_with fail
                    go_roundw
                    case rel => exact ⟨i1, worst, code, by have := HI1.out; have := HILT.out; omega, rfl, rfl, rfl, HSN.out, by rw [HI1.out]; exact HWN⟩
                    case measure => have := HI1.out; have := HILT.out; simp [Go.RowKit.intOf]; omega
                · have hb : (((rowAt ll i).length : Int) != (s' : Int)) = true := by rw [bne_iff_ne]; omega
                  have HRS := Lib.hid hrs
                  clear hrs
                  go_wp2_with fail
                  go_quiet (fail)
                  have HSN := Lib.hid (show Since w1 (wr.drewN nq) from Below.trans HSR.out ((below_drews wr nq).mono (Below.size HSR.out)))
                  clear hru hcell p0 q1 q2 q3 pl
                  generalize wr.drewN nq = wd at *
                  cases zb with
                  | false =>
                    have HSK := Lib.hid (show ¬ lastN NL NL.length i ∨ badN (s' : Int) (k' : Int) F (nthI NL i) = 0 ∨ (code ≠ 0 ∧ worst ≤ nthI NL i) from .inl (fun h => Bool.noConfusion (HZL.out.2 h)))
                    have HWN := Lib.hid (HW.out.skip HSK.out)
                    go_wp2_with fail
                    go_roundw
                    case rel => exact ⟨i1, worst, code, by have := HI1.out; have := HILT.out; omega, rfl, rfl, rfl, HSN.out, by rw [HI1.out]; exact HWN⟩
                    case measure => have := HI1.out; have := HILT.out; simp [Go.RowKit.intOf]; omega
                  | true =>
                    have HBV := Lib.hid (show badN (s' : Int) (k' : Int) F (nthI NL i) = 4 by
                      unfold badN
                      rw [HLAST.out i HILT.out (HZL.out.1 rfl), ← HX.out, if_neg (by omega), if_pos (by have := HRS.out; omega)])
                    have HBN := Lib.hid (show badN (s' : Int) (k' : Int) F (nthI NL i) ≠ 0 by rw [HBV.out]; decide)
                    by_cases hcd : code = 0
                    · have hcb : (code == 0) = true := by rw [hcd]; rfl
                      have HWN := Lib.hid (HW.out.take HILT.out HBN.out (.inl hcd))
                      rw [HBV.out, ← HX.out] at HWN
                      go_wp2_with fail
                      go_roundw
                      case rel => exact ⟨i1, x, _, by have := HI1.out; have := HILT.out; omega, rfl, rfl, rfl, HSN.out, by rw [HI1.out]; exact HWN⟩
                      case measure => have := HI1.out; have := HILT.out; simp [Go.RowKit.intOf]; omega
                    · have hcb : (code == 0) = false := beq_eq_false_iff_ne.2 hcd
                      by_cases hwx : x < worst
                      · have HWN := Lib.hid (HW.out.take HILT.out HBN.out (.inr (by rw [← HX.out]; exact hwx)))
                        rw [HBV.out, ← HX.out] at HWN
                        go_wp2_with fail
                        go_roundw
                        case rel => exact ⟨i1, x, _, by have := HI1.out; have := HILT.out; omega, rfl, rfl, rfl, HSN.out, by rw [HI1.out]; exact HWN⟩
                        case measure => have := HI1.out; have := HILT.out; simp [Go.RowKit.intOf]; omega
                      · have HSK := Lib.hid (show ¬ lastN NL NL.length i ∨ badN (s' : Int) (k' : Int) F (nthI NL i) = 0 ∨ (code ≠ 0 ∧ worst ≤ nthI NL i) from .inr (.inr ⟨hcd, by rw [← HX.out]; omega⟩))
                        have HWN := Lib.hid (HW.out.skip HSK.out)
                        go_wp2_with fail
                        go_roundw
                        case rel => exact ⟨i1, worst, code, by have := HI1.out; have := HILT.out; omega, rfl, rfl, rfl, HSN.out, by rw [HI1.out]; exact HWN⟩
                        case measure => have := HI1.out; have := HILT.out; simp [Go.RowKit.intOf]; omega
      · obtain rfl : i = NL.length := by omega
        by_cases hcd : code = 0
        · subst hcd
          have HWC := Lib.hid (show ∃ wst cd, Worst NL (s' : Int) (k' : Int) F NL.length NL.length wst cd ∧ cd = 0 from ⟨worst, 0, HW.out, rfl⟩)
          have hs1 : 0 < s' := by omega
          have B2 := Lib.hid (B.trans (HSR.out.mono B.size))
          have hsz := Below.size HSR.out
          clear p0 q1 q2 q3 pl
          go_wp2_with fail
          go_loopw [10, 11, 20, 21, 22, 23, 24, 97] (fun x10 x11 x20 _ _ _ _ _ wr => ∃ a : Nat, a ≤ l' ∧ x20 = .int .i64 a ∧ Since w1 wr ∧ Owns wr w1.heap.size x10 (outN NL ll s' NL.length a) ∧ OwnT wr w1.heap.size x11 (isN NL ll s' NL.length a)) (fun _ _ x20 _ _ _ _ _ _ => l' - (Go.RowKit.intOf x20).toNat)
          case atStart => exact ⟨0, by omega, rfl, HSR.out, Owns.nil _ _, OwnT.nil _ _⟩
          case round =>
            clear HSR K2 HI2 hsz
            obtain ⟨a, ha, rfl, hS, hO, hT⟩ := hrel
            have HSR := Lib.hid hS
            have HOA := Lib.hid hO
            have HTA := Lib.hid hT
            have K2 := Lib.hid (K1.out.go hS)
            obtain ⟨oa, on, oc, rfl⟩ := hO.shape
            obtain ⟨ta, tc, rfl⟩ := hT.shape
            clear hS hO hT
            obtain ⟨p0, q1, q2, q3⟩ := K2.out.four
            have pl := K2.out.lt
            by_cases hal : a < l'
            · obtain ⟨q, hq⟩ : ∃ q, q = a / s' := ⟨_, rfl⟩
              obtain ⟨r, hr⟩ : ∃ r, r = a % s' := ⟨_, rfl⟩
              have HQ := Lib.hid hq
              have HR := Lib.hid hr
              have hq9 : q ≤ a := by rw [hq]; exact Nat.div_le_self _ _
              have hqi : (a : Int) / (s' : Int) = (q : Int) := by rw [hq]; rfl
              have hri : (a : Int) % (s' : Int) = (r : Int) := by rw [hr]; rfl
              have hqw : wrap64 (q : Int) = (q : Int) := by unfold wrap64; omega
              have hz4 : ¬ s' = 0 := by omega
              have HAL := Lib.hid hal
              clear hq hr hq9
              go_wp2_with fail
              clear p0 q1 q2 q3 pl
              obtain ⟨wo, hwo⟩ : ∃ wo : World, wo = wr := ⟨_, rfl⟩
              subst hwo
              go_loopw [21, 22, 23, 24, 97] (fun x21 x22 _ _ t wq => ∃ u : Nat, u ≤ NL.length ∧ t = .int .i64 u ∧ x21 = U8 (inN NL ll q r u).1 ∧ x22 = .bool (inN NL ll q r u).2 ∧ Since wo wq) (fun _ _ _ _ t _ => NL.length - (Go.RowKit.intOf t).toNat)
              case atStart => exact ⟨0, by omega, rfl, rfl, rfl, Below.refl _ _⟩
              case round =>
                obtain ⟨u, hu, rfl, rfl, rfl, hS⟩ := hrel
                have HSO := Lib.hid hS
                have HSB := Lib.hid (show Since w1 wr from HSR.out.go hS)
                have K3 := Lib.hid (K1.out.go HSB.out)
                have HI3 := Lib.hid (H1.out.go HSB.out)
                clear hS
                obtain ⟨p0, q1, q2, q3⟩ := K3.out.four
                have pl := K3.out.lt
                obtain ⟨bb, hbb⟩ : ∃ bb, bb = (inN NL ll q r u).1 := ⟨_, rfl⟩
                obtain ⟨zz, hzz⟩ : ∃ zz, zz = (inN NL ll q r u).2 := ⟨_, rfl⟩
                have HBB := Lib.hid hbb
                have HZZ := Lib.hid hzz
                simp only [← hbb, ← hzz]
                clear hbb hzz
                by_cases hul : u < NL.length
                · obtain ⟨ab, ao, rfl, hcell⟩ : ∃ ab ao, a1 = some ⟨ab, ao, none⟩ ∧ wr.cell? ⟨ab, ao + u, none⟩ = some (.int .i64 (nthI NL u)) := by
                    obtain ⟨a', c', e, _, _, _, h4⟩ := HI3.out
                    obtain ⟨b', off', rfl, _, hc⟩ := h4 (by intro h; rw [h] at hul; simp at hul)
                    simp only [Value.slice.injEq] at e
                    exact ⟨b', off', e.1, hc u hul⟩
                  obtain ⟨y, hy⟩ : ∃ y, y = nthI NL u := ⟨_, rfl⟩
                  have HY := Lib.hid hy
                  rw [← hy] at hcell
                  obtain ⟨rb, ro, ru, rfl, hru, hrB⟩ := H2.out.row HSB.out u (by rw [← HM.out]; exact hul)
                  have HRB := Lib.hid hrB
                  obtain ⟨ra, rc, rfl, _⟩ := hrB
                  have u0 : (0 : Int) ≤ (u : Int) := Int.natCast_nonneg _
                  have u1 : (u : Int) < (NL.length : Int) := by omega
                  have u2 : (u : Int) < (ll.length : Int) := by have := HM.out; omega
                  have r0 : (0 : Int) ≤ (r : Int) := Int.natCast_nonneg _
                  have HUL := Lib.hid hul
                  clear hy
                  by_cases hyq : y = (q : Int)
                  · have hb : (y == (q : Int)) = true := by rw [hyq]; simp
                    by_cases hrl : r < (rowAt ll u).length
                    · have hb2 : (r : Int) < ((rowAt ll u).length : Int) := by omega
                      have HIN := Lib.hid (show inN NL ll q r (u + 1) = (nth (rowAt ll u) r, true) by
                        show (if nthI NL u = (q : Int) ∧ r < (rowAt ll u).length then _ else _) = _
                        rw [if_pos ⟨by rw [← HY.out]; exact hyq, hrl⟩])
                      have HRL := Lib.hid hrl
                      clear hyq hrl
                      go_wp2_with fail
                      go_quiet (fail)
                      have HS2 := Lib.hid (show Since wo (wr.drewN nq) from Below.trans HSO.out ((below_drews wr nq).mono (Below.size HSO.out)))
                      have HC2 := Lib.hid (show (wr.drewN nq).cell? ⟨rb, ro + u, none⟩ = some (.slice ra (rowAt ll u).length rc) from hru)
                      have HB2 := Lib.hid (show Bytes (wr.drewN nq) (.slice ra (rowAt ll u).length rc) (rowAt ll u) from HRB.out.drewN nq)
                      have HK2 := Lib.hid (show Blk (wr.drewN nq) w.heap.size #[.int .i64 (l' : Int), .int .i64 (s' : Int), .int .i64 (k' : Int), .int .u32 (n : Int)] 33 from K3.out.drewN nq)
                      clear hru hcell p0 q1 q2 q3 pl
                      generalize wr.drewN nq = wd at *
                      obtain ⟨p0, q1, q2, q3⟩ := HK2.out.four
                      have pl := HK2.out.lt
                      have hru := HC2.out
                      obtain ⟨jb, jo, rfl, hcj⟩ := HB2.out.at r HRL.out
                      obtain ⟨yy, hyy⟩ : ∃ yy, yy = nth (rowAt ll u) r := ⟨_, rfl⟩
                      have HYY := Lib.hid hyy
                      rw [← hyy] at hcj
                      clear hyy
                      go_wp2_with fail
                      go_quiet (fail)
                      have HS3 := Lib.hid (show Since wo (wd.drewN nq) from Below.trans HS2.out ((below_drews wd nq).mono (Below.size HS2.out)))
                      clear hru hcj p0 q1 q2 q3 pl
                      generalize wd.drewN nq = we at *
                      go_wp2_with fail
                      go_roundw
                      case rel => exact ⟨u + 1, by have := HUL.out; omega, by go_num, by rw [HIN.out, HYY.out], by rw [HIN.out], HS3.out⟩
                      case measure => have := HUL.out; simp [Go.RowKit.intOf]; omega
                    · have hb2 : ¬ (r : Int) < ((rowAt ll u).length : Int) := by omega
                      have HIN := Lib.hid (show inN NL ll q r (u + 1) = inN NL ll q r u by
                        show (if nthI NL u = (q : Int) ∧ r < (rowAt ll u).length then _ else _) = _
                        rw [if_neg (fun h => hrl h.2)])
                      clear hyq hrl
                      go_wp2_with fail
                      go_quiet (fail)
                      have HS2 := Lib.hid (show Since wo (wr.drewN nq) from Below.trans HSO.out ((below_drews wr nq).mono (Below.size HSO.out)))
                      clear hru hcell p0 q1 q2 q3 pl
                      generalize wr.drewN nq = wd at *
                      go_wp2_with fail
                      go_roundw
                      case rel => exact ⟨u + 1, by have := HUL.out; omega, by go_num, by rw [HIN.out, HBB.out], by rw [HIN.out, HZZ.out], HS2.out⟩
                      case measure => have := HUL.out; simp [Go.RowKit.intOf]; omega
                  · have hb : (y == (q : Int)) = false := beq_eq_false_iff_ne.2 hyq
                    have HIN := Lib.hid (show inN NL ll q r (u + 1) = inN NL ll q r u by
                      show (if nthI NL u = (q : Int) ∧ r < (rowAt ll u).length then _ else _) = _
                      rw [if_neg (fun h => hyq (by rw [HY.out]; exact h.1))])
                    clear hyq
                    go_wp2_with fail
                    go_quiet (fail)
                    have HS2 := Lib.hid (show Since wo (wr.drewN nq) from Below.trans HSO.out ((below_drews wr nq).mono (Below.size HSO.out)))
                    clear hru hcell p0 q1 q2 q3 pl
                    generalize wr.drewN nq = wd at *
                    go_wp2_with fail
                    go_roundw
                    case rel => exact ⟨u + 1, by have := HUL.out; omega, by go_num, by rw [HIN.out, HBB.out], by rw [HIN.out, HZZ.out], HS2.out⟩
                    case measure => have := HUL.out; simp [Go.RowKit.intOf]; omega
                · obtain rfl : u = NL.length := by omega
                  have HO3 := Lib.hid (show Owns wr w1.heap.size (.slice oa on oc) (outN NL ll s' NL.length a) from Owns.grown HOA.out (grown_of_below HSO.out none) (by cases (Value.slice oa on oc).ownBlock <;> simp))
                  have HT3 := Lib.hid (show OwnT wr w1.heap.size (.slice ta (isN NL ll s' NL.length a).length tc) (isN NL ll s' NL.length a) from HTA.out.go HSO.out)
                  have HAL2 := Lib.hid (show a ≤ 4096 * 65535 by have := HAL.out; have := HL48.out; omega)
                  clear p0 q1 q2 q3 pl
                  go_wp2_with (at_builtin; refine wpList_append_byte rfl (.tmp 131) (.tmp 133) rfl w1.heap.size wr.heap.size _ (outN NL ll s' NL.length a) bb 5 rfl rfl rfl HO3.out (Below.size HSB.out) ?c1 ?_)
                  case c1 => rw [outN_length]; have := HAL2.out; omega
                  intro v5 w5 ho5 hg5
                  have HO5 := Lib.hid ho5
                  have HT5 := Lib.hid (show OwnT w5 w1.heap.size (.slice ta (isN NL ll s' NL.length a).length tc) (isN NL ll s' NL.length a) from OwnN.keep HT3.out hg5 (apart_comm (owns_apartT HO3.out HT3.out)))
                  have HS5 := Lib.hid (show Since w1 w5 from Below.grown HSB.out hg5 (Below.size HSB.out) (fun b e => Owns.from HO3.out b e))
                  clear ho5 hg5
                  obtain ⟨ob5, on5, oc5, rfl⟩ := HO5.out.shape
                  go_wp2_with (at_builtin; refine wpList_append_bool rfl (.tmp 135) (.tmp 137) rfl w1.heap.size w5.heap.size _ zz (isN NL ll s' NL.length a) rfl rfl rfl HT5.out (Below.size HS5.out) ?c2 ?_)
                  case c2 => rw [isN_length]; have := HAL2.out; omega
                  intro v6 w6 ho6 hg6 hs6
                  have hb6 : Below w5.heap.size w5 (w5.alloc (.cells #[.bool zz] 4)) := (Below.refl _ _).alloc (Nat.le_refl _) _
                  have HT6 := Lib.hid ho6
                  have HO6 := Lib.hid (show Owns w6 w1.heap.size (.slice ob5 on5 oc5) (outN NL ll s' NL.length a ++ [bb]) from Owns.grown (Owns.grown HO5.out (grown_of_below hb6 none) (by cases (Value.slice ob5 on5 oc5).ownBlock <;> simp)) hg6 (owns_apartT HO5.out HT5.out))
                  have HS6 := Lib.hid (show Since w1 w6 from Below.grown (Since.go HS5.out hb6) hg6 (Nat.le_trans (Below.size HS5.out) hb6.size) (fun b e => HT5.out.from b e))
                  clear ho6 hg6 hs6 hb6
                  obtain ⟨tb6, tc6, rfl⟩ := HT6.out.shape
                  have HA9 := Lib.hid (show a < l' from HAL.out)
                  go_wp2_with fail
                  go_roundw
                  case rel => exact ⟨a + 1, by have := HA9.out; omega, by go_num, HS6.out, by rw [outN_succ, ← HQ.out, ← HR.out, ← HBB.out]; exact HO6.out, by rw [isN_succ, ← HQ.out, ← HR.out, ← HZZ.out]; exact HT6.out⟩
                  case measure => have := HA9.out; simp [Go.RowKit.intOf]; omega
            · obtain rfl : a = l' := by omega
              have HBO := Lib.hid (HOA.out.bytes (outN_lt HOCT.out s' NL.length a))
              have HBT := Lib.hid HTA.out.bools
              obtain ⟨wst, cd, hw1, hw2⟩ := HWC.out
              have HWD := Lib.hid hw1
              clear hw1
              go_wp2_with fail
              exact bodyPost_ret (v := .tuple #[.slice oa on oc, .slice ta (isN NL ll s' NL.length a).length tc, .int .i64 0]) (by simp [results, Try.results24, go_sem]) rfl ⟨_, _, 0, outN NL ll s' NL.length a, isN NL ll s' NL.length a, rfl, HBO.out, HBT.out, B.trans (HSR.out.mono B.size), fun h => absurd HC.out h, fun _ => ⟨wst, cd, by rw [← HFD.out]; exact HWD.out, hw2.symm, fun h => absurd hw2 h, fun _ => ⟨rfl, rfl⟩⟩⟩
        · have hb : (code != 0) = true := by rw [bne_iff_ne]; exact hcd
          have HCD := Lib.hid hcd
          clear hcd p0 q1 q2 q3 pl
          go_wp2_with fail
          exact bodyPost_ret (v := .tuple #[.slice none 0 0, .slice none 0 0, .int .i64 code]) (by simp [results, Try.results24, go_sem]) rfl ⟨_, _, code, [], [], rfl, Bytes.nil _, Bools.nil _, B.trans (HSR.out.mono B.size), fun h => absurd HC.out h, fun _ => ⟨worst, code, by rw [← HFD.out]; exact HW.out, rfl, fun _ => ⟨rfl, rfl⟩, fun h => absurd h HCD.out⟩⟩
  · have H3 := Lib.hid hc0
    have hb : (ce != 0) = true := by rw [bne_iff_ne]; exact hc0
    clear hc0
    go_enter Try.func24, Try.ntmps24
    go_wp2_with fail
    obtain ⟨B, hk1, hs⟩ := blocks1 w #[.int .i64 (l), .int .i64 (s), .int .i64 (k), .int .u32 (n : Int)] 33
    generalize (w.alloc (.cells #[.int .i64 (l), .int .i64 (s), .int .i64 (k), .int .u32 (n : Int)] 33)) = W at *
    have K1 := Lib.hid hk1
    have HS := Lib.hid hs
    clear hs hk1
    replace H1 := Lib.hid (H1.out.go B)
    replace H2 := Lib.hid (H2.out.go B)
    have hzW := B.size
    refine (refcheck_any (l) (s) (k) _ _ hl ⟨n, rfl⟩).mono ?_
    rintro e w1 ⟨rfl, hb⟩
    replace K1 := Lib.hid (K1.out.go hb)
    replace H1 := Lib.hid (H1.out.go hb)
    replace H2 := Lib.hid (H2.out.go hb)
    replace B := B.trans (hb.mono B.size)
    have hzw1 := B.size
    clear hb
    rw [HC.out]
    go_wp2_with fail
    exact bodyPost_ret (v := .tuple #[.slice none 0 0, .slice none 0 0, .int .i64 ce]) (by simp [results, Try.results24, go_sem, HC.out]) rfl ⟨_, _, ce, [], [], rfl, Bytes.nil _, Bools.nil _, B, fun _ => ⟨hce, rfl, rfl⟩, fun h => absurd (hce.trans h) H3.out⟩

end Go.Proofs.Ytfefkchjhooloaa

/-
  The laws of glue (layer 12): GlueFills: parts.
-/
set_option maxRecDepth 100000
namespace Go.Proofs.Ytfefkchjhooloaa
open Go.RowKit Go.Maps

/-- The document's answer, of the keys that the map has. -/
theorem reffill_is (l s k : Int) (n : Nat) (v1 v2 : Value) (NL : List Int) (ll : List (List Nat)) (K : List Int) (w : World) (hl : l ≤ 9223372036854775807) (h1 : Ints w v1 NL) (h2 : IsRows w v2 ll) (hm : NL.length = ll.length) (hm9 : ll.length ≤ 1000000)
    (hp : K.Pairwise (· < ·)) (hK : ∀ x, x ∈ K ↔ hasN NL NL.length x) :
    Calls Try.prog 24 #[.agg #[.int .i64 l, .int .i64 s, .int .i64 k, .int .u32 (n : Int)], v1, v2] w fun e w' => ∃ u v, e = .returned (.tuple #[u, v, .int .i64 (fillE l s k (fN NL ll NL.length) K)]) ∧ Bytes w' u (fillS l s k (fN NL ll NL.length) K) ∧ Bools w' v (fillB l s k (fN NL ll NL.length) K) ∧ Below w.heap.size w w' := by
  refine (reffill_any l s k n v1 v2 NL ll w hl h1 h2 hm hm9).mono ?_
  rintro e w' ⟨u, v, E, O, T, rfl, hu, hv, hb, hq1, hq2⟩
  by_cases hc : checkE l s k = 0
  · obtain ⟨worst, code, hw, rfl, hq3, hq4⟩ := hq2 hc
    have hn : numE s k (fN NL ll NL.length) K = E := hw.done hp hK
    have he : fillE l s k (fN NL ll NL.length) K = E := by unfold fillE; rw [if_pos hc, hn]
    by_cases hE : E = 0
    · obtain ⟨rfl, rfl⟩ := hq4 hE
      obtain ⟨_, p2, _⟩ := check_ok hc
      have hf : ∀ x ∈ K, (fN NL ll NL.length x).length = s.toNat := fun x hx => by
        have := (numE_zero (hn.trans hE) x hx).2.2
        omega
      obtain ⟨o1, o2⟩ := out_fill (l := l.toNat) (s := s.toNat) (by omega) hK hf
      have hS : fillS l s k (fN NL ll NL.length) K = outN NL ll s.toNat NL.length l.toNat := by unfold fillS; rw [if_pos (he.trans hE), o1]
      have hB : fillB l s k (fN NL ll NL.length) K = isN NL ll s.toNat NL.length l.toNat := by unfold fillB; rw [if_pos (he.trans hE), o2]
      exact ⟨u, v, by rw [he], by rw [hS]; exact hu, by rw [hB]; exact hv, hb⟩
    · obtain ⟨rfl, rfl⟩ := hq3 hE
      have hS : fillS l s k (fN NL ll NL.length) K = [] := by unfold fillS; rw [if_neg (by rw [he]; exact hE)]
      have hB : fillB l s k (fN NL ll NL.length) K = [] := by unfold fillB; rw [if_neg (by rw [he]; exact hE)]
      exact ⟨u, v, by rw [he], by rw [hS]; exact hu, by rw [hB]; exact hv, hb⟩
  · obtain ⟨rfl, rfl, rfl⟩ := hq1 hc
    have he : fillE l s k (fN NL ll NL.length) K = checkE l s k := by unfold fillE; rw [if_neg hc]
    have hS : fillS l s k (fN NL ll NL.length) K = [] := by unfold fillS; rw [if_neg (by rw [he]; exact hc)]
    have hB : fillB l s k (fN NL ll NL.length) K = [] := by unfold fillB; rw [if_neg (by rw [he]; exact hc)]
    exact ⟨u, v, by rw [he], by rw [hS]; exact hu, by rw [hB]; exact hv, hb⟩

theorem Ints.take {w : World} {a : Option Addr} {n c : Nat} {l : List Int} (h : Ints w (.slice a n c) l) {i : Nat} (hi : i ≤ l.length) : Ints w (.slice a i c) (l.take i) := by
  obtain ⟨a', cap', e, h1, h2, h3, h4⟩ := h
  simp only [Value.slice.injEq] at e
  obtain ⟨rfl, rfl, rfl⟩ := e
  have hl : (l.take i).length = i := by simp; omega
  refine ⟨a, c, by rw [hl], by omega, h2, fun x hx => h3 x (List.mem_of_mem_take hx), fun hne => ?_⟩
  obtain ⟨b', off', e, hlt, hc⟩ := h4 (by intro e; subst e; simp at hne)
  refine ⟨b', off', e, hlt, fun j hj => ?_⟩
  rw [hl] at hj
  rw [hc j (by omega), nthI_eq _ _ (by omega), nthI_eq _ _ (by omega)]; simp
theorem rowAt_take {ll : List (List Nat)} {i j : Nat} (h : j < i) : rowAt (ll.take i) j = rowAt ll j := by
  unfold rowAt; rw [List.getD_eq_getElem?_getD, List.getElem?_take, if_pos h, ← List.getD_eq_getElem?_getD]
theorem IsRows.takeM {w : World} {a : Option Addr} {n c : Nat} {ll : List (List Nat)} (h : IsRows w (.slice a n c) ll) {i : Nat} (hi : i ≤ ll.length) : IsRows w (.slice a i c) (ll.take i) := by
  obtain ⟨a', cap', e, h1, h2, h4⟩ := h
  simp only [Value.slice.injEq] at e
  obtain ⟨rfl, rfl, rfl⟩ := e
  have hl : (ll.take i).length = i := by simp; omega
  refine ⟨a, c, by rw [hl], by omega, h2, fun hne => ?_⟩
  obtain ⟨b', off', e, hlt, hc⟩ := h4 (by intro e; subst e; simp at hne)
  refine ⟨b', off', e, hlt, fun j hj => ?_⟩
  rw [hl] at hj
  obtain ⟨u, hu, hb⟩ := hc j (by omega)
  exact ⟨u, hu, by rw [rowAt_take hj]; exact hb⟩
theorem kmap_n {w : World} {b n : Nat} {U : Nat → Value} {NL : List Int} {ll : List (List Nat)} (hn : n ≤ 1000000000) (hr : ∀ x ∈ NL, -9223372036854775808 ≤ x ∧ x ≤ 9223372036854775807) :
    ∀ m, m ≤ NL.length → (∀ i, i < m → Bytes w (U i) (rowAt ll i)) → (∀ k, Bytes w (valR (psN U NL m) k) (fN NL ll m k)) ∧ ∀ k, hasR (psN U NL m) k = true → -9223372036854775808 ≤ k ∧ k ≤ 9223372036854775807
  | 0, _, _ => ⟨fun _ => Bytes.nil _, fun k h => by simp [psN, hasR] at h⟩
  | m + 1, hm, hU => by
    obtain ⟨h1, _⟩ := kmap_n (w := w) (b := b) (n := n) (U := U) (NL := NL) (ll := ll) hn hr m (by omega) (fun i hi => hU i (by omega))
    refine ⟨fun k => ?_, fun k hk => ?_⟩
    · show Bytes w (if nthI NL m = k then U m else valR (psN U NL m) k) (if nthI NL m = k then rowAt ll m else fN NL ll m k)
      by_cases e : nthI NL m = k
      · rw [if_pos e, if_pos e]; exact hU m (by omega)
      · rw [if_neg e, if_neg e]; exact h1 k
    · obtain ⟨i, hi, e⟩ := (hasR_psN k (m + 1)).1 hk
      rw [← e, nthI_eq _ _ (by omega)]
      exact hr _ (List.getElem_mem _)

set_option maxHeartbeats 1000000 in
theorem eqbools_any (v0 v1 : Value) (T : List Bool) (w : World) (h0 : Bools w v0 T) (h1 : Bools w v1 T) :
    Calls Try.prog 25 #[v0, v1] w fun e w' => e = .returned (.bool true) ∧ Below w.heap.size w w' := by
  have H0 := Lib.hid h0
  have H1 := Lib.hid h1
  have hlen : T.length ≤ 9223372036854775807 := by obtain ⟨_, _, _, q1, q2, _⟩ := h0; omega
  obtain ⟨a0, c0, rfl, _⟩ := h0
  obtain ⟨a1, c1, rfl, _⟩ := h1
  go_enter Try.func25, Try.ntmps25
  go_wp2_with fail
  go_loopw [5, 13] (fun _ i wr => ∃ j : Nat, j ≤ T.length ∧ i = .int .i64 j ∧ Since w wr) (fun _ i _ => T.length - (Go.RowKit.intOf i).toNat)
  case atStart => exact ⟨0, by omega, rfl, Below.refl _ _⟩
  case round =>
    obtain ⟨j, hj, rfl, hS⟩ := hrel
    have HS := Lib.hid hS
    clear hS
    by_cases hlt : j < T.length
    · obtain ⟨b0, o0, rfl, hc0⟩ : ∃ b o, a0 = some ⟨b, o, none⟩ ∧ wr.cell? ⟨b, o + j, none⟩ = some (.bool (T.getD j false)) := by
        obtain ⟨a', c', e, _, _, h4⟩ := H0.out.go HS.out
        obtain ⟨b', off', rfl, _, hc⟩ := h4 (by intro h; rw [h] at hlt; simp at hlt)
        simp only [Value.slice.injEq] at e
        exact ⟨b', off', e.1, hc j hlt⟩
      obtain ⟨b1, o1, rfl, hc1⟩ : ∃ b o, a1 = some ⟨b, o, none⟩ ∧ wr.cell? ⟨b, o + j, none⟩ = some (.bool (T.getD j false)) := by
        obtain ⟨a', c', e, _, _, h4⟩ := H1.out.go HS.out
        obtain ⟨b', off', rfl, _, hc⟩ := h4 (by intro h; rw [h] at hlt; simp at hlt)
        simp only [Value.slice.injEq] at e
        exact ⟨b', off', e.1, hc j hlt⟩
      obtain ⟨t, ht⟩ : ∃ t, t = T.getD j false := ⟨_, rfl⟩
      rw [← ht] at hc0 hc1
      clear ht
      have j0 : (0 : Int) ≤ (j : Int) := Int.natCast_nonneg _
      have j1 : (j : Int) < (T.length : Int) := by omega
      have hb : (t != t) = false := by simp
      go_wp2_with fail
      go_quiet (fail)
      have HS2 := Lib.hid (show Since w (wr.drewN nq) from Below.trans HS.out ((below_drews wr nq).mono (Below.size HS.out)))
      clear hc0 hc1
      generalize wr.drewN nq = wd at *
      go_wp2_with fail
      go_roundw
      case rel => exact ⟨j + 1, by omega, by go_num, HS2.out⟩
      case measure => simp [Go.RowKit.intOf]; omega
    · obtain rfl : j = T.length := by omega
      go_wp2_with fail
      go_ret
      exact ⟨rfl, HS.out⟩

end Go.Proofs.Ytfefkchjhooloaa
