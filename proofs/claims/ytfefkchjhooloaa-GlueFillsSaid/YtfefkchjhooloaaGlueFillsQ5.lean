/- Texts of one seat, laid together: GlueB, MonoO, GlueC, BlkFour, LawElevenA, LawTwelveA, MapA. -/
import Derived.Test.YtfefkchjhooloaaGlueFillsQ4
import Derived.Test.YtfefkchjhooloaaGlueFillsQ3
import Derived.Test.YtfefkchjhooloaaGlueFillsQ1
import Derived.Test.YtfefkchjhooloaaGlueFillsQ2
import Derived.Maps.OwnSet
import Derived.Maps.OwnOps
import Derived.Lib.SlKeysI

/-
  Symbols joined, in the program (package glue): fit, Join.
-/
set_option maxRecDepth 100000
namespace Go.Proofs.Ytfefkchjhooloaa
open Go.RowKit

set_option maxHeartbeats 2000000 in
theorem gluefit_any (l s k n : Int) (v : Value) (ll : List (List Nat)) (w : World) (hl0 : -9223372036854775808 ≤ l) (hl : l ≤ 9223372036854775807) (hs2 : s ≤ 9223372036854775807) (hr : IsRows w v ll) :
    Calls Try.prog 32 #[.agg #[.int .i64 l, .int .i64 s, .int .i64 k, .int .u32 n], v] w fun e w' => e = .returned (.int .i64 (allE l s k ll)) ∧ Below w.heap.size w w' := by
  have HC := Lib.hid (fun w => check_any l s k n w hl0 hl hs2)
  have HR := Lib.hid hr
  obtain ⟨a, c, rfl⟩ := hr.shape
  obtain ⟨h1, h2, h3, h4⟩ := @all_of l s k ll
  obtain ⟨ce, hce⟩ : ∃ x, x = checkE l s k := ⟨_, rfl⟩
  rw [← hce] at h1 h2 h3 h4 HC
  clear hr
  by_cases hc0 : ce = 0
  · subst hc0
    obtain ⟨p1, p2, p3, p4, p5, -⟩ := check_ok hce.symm
    obtain ⟨s', hs'⟩ := Int.eq_ofNat_of_zero_le (show 0 ≤ s by omega)
    obtain ⟨k', hk'⟩ := Int.eq_ofNat_of_zero_le (show 0 ≤ k by omega)
    subst hs'
    subst hk'
    clear hce
    by_cases hol : ll.length = k'
    · have H3 := Lib.hid (fun h => (h3 rfl (by omega) h).1)
      have H4 := Lib.hid (fun h => (h4 rfl (by omega) h).1)
      have hb : ((ll.length : Int) != (k' : Int)) = false := by rw [hol]; simp
      obtain ⟨ae, hae⟩ : ∃ x, x = allE l s' k' ll := ⟨_, rfl⟩
      rw [← hae] at H3 H4 ⊢
      clear h1 h2 h3 h4 hae
      subst hol
      go_enter Try.func32, Try.ntmps32
      go_wp2_with fail
      obtain ⟨B, hk1, hs⟩ := blocks1 w #[.int .i64 (l), .int .i64 ((s':Int)), .int .i64 ((ll.length:Int)), .int .u32 n] 24
      generalize (w.alloc (.cells #[.int .i64 (l), .int .i64 ((s':Int)), .int .i64 ((ll.length:Int)), .int .u32 n] 24)) = W at *
      have K1 := Lib.hid hk1
      have HS := Lib.hid hs
      clear hs hk1
      have hzW := B.size
      refine (HC.out _).mono ?_
      rintro e w1 ⟨rfl, hb⟩
      replace K1 := Lib.hid (K1.out.go hb)
      replace B := B.trans (hb.mono B.size)
      have hzw1 := B.size
      clear hb
      obtain ⟨k0, k1, k2, k3⟩ := K1.out.four
      have kl := K1.out.lt
      go_wp2_with fail
      clear k0 k1 k2 k3 kl hb
      go_loopw [7, 20] (fun _ i wr => ∃ j : Nat, j ≤ ll.length ∧ i = .int .i64 j ∧ Below w.heap.size w wr ∧ Blk wr w.heap.size #[.int .i64 l, .int .i64 (s' : Int), .int .i64 (ll.length : Int), .int .u32 n] 24 ∧ Hid (∀ i, i < j → (rowAt ll i).length = s')) (fun _ i _ => ll.length - (Go.RowKit.intOf i).toNat)
      case atStart => exact ⟨0, by omega, rfl, B, K1.out, Lib.hid (fun i hi => by omega)⟩
      case round =>
        clear B K1 HS hzW hzw1
        obtain ⟨j, hj, rfl, B, hK, HA⟩ := hrel
        have K1 := Lib.hid hK
        clear hK
        obtain ⟨k0, k1, k2, k3⟩ := K1.out.four
        have kl := K1.out.lt
        by_cases hlt : j < ll.length
        · obtain ⟨b, off, u, rfl, hu, hB⟩ := HR.out.row B j hlt
          obtain ⟨ra, rc, rfl, _⟩ := hB
          have i0 : (0 : Int) ≤ (j : Int) := Int.natCast_nonneg _
          have i1 : (j : Int) < (ll.length : Int) := by omega
          by_cases hs : (rowAt ll j).length = s'
          · have hb : (((rowAt ll j).length : Int) != (s' : Int)) = false := by rw [hs]; simp
            have HA2 := Lib.hid (show ∀ i, i < j + 1 → (rowAt ll i).length = s' from fun i hi => by
              by_cases e : i = j
              · rw [e]; exact hs
              · exact HA.out i (by omega))
            clear hs
            go_wp2_with fail
            go_roundw
            case rel => exact ⟨j + 1, by omega, by go_num, B, K1.out, HA2⟩
            case measure => simp [Go.RowKit.intOf]; omega
          · have hb : (((rowAt ll j).length : Int) != (s' : Int)) = true := by rw [bne_iff_ne]; omega
            have HE := Lib.hid (H3.out ⟨j, hlt, by omega⟩)
            go_wp2_with fail
            go_ret
            exact ⟨by rw [HE.out]; rfl, B⟩
        · obtain rfl : j = ll.length := by omega
          have HE := Lib.hid (H4.out fun i hi => by rw [HA.out i hi])
          go_wp2_with fail
          go_ret
          exact ⟨by rw [HE.out]; rfl, B⟩
    · have HE := Lib.hid (h2 rfl (by omega)).1
      have hb : ((ll.length : Int) != (k' : Int)) = true := by rw [bne_iff_ne]; omega
      clear h1 h2 h3 h4 hol
      rw [HE.out]
      go_enter Try.func32, Try.ntmps32
      go_wp2_with fail
      obtain ⟨B, hk1, hs⟩ := blocks1 w #[.int .i64 (l), .int .i64 ((s':Int)), .int .i64 ((k':Int)), .int .u32 n] 24
      generalize (w.alloc (.cells #[.int .i64 (l), .int .i64 ((s':Int)), .int .i64 ((k':Int)), .int .u32 n] 24)) = W at *
      have K1 := Lib.hid hk1
      have HS := Lib.hid hs
      clear hs hk1
      have hzW := B.size
      refine (HC.out _).mono ?_
      rintro e w1 ⟨rfl, hb⟩
      replace K1 := Lib.hid (K1.out.go hb)
      replace B := B.trans (hb.mono B.size)
      have hzw1 := B.size
      clear hb
      obtain ⟨k0, k1, k2, k3⟩ := K1.out.four
      have kl := K1.out.lt
      go_wp2_with fail
      go_ret
      exact ⟨rfl, B⟩
  · have HE := Lib.hid (h1 hc0).1
    have hb : (ce != 0) = true := by rw [bne_iff_ne]; exact hc0
    clear h1 h2 h3 h4 hce
    rw [HE.out]
    go_enter Try.func32, Try.ntmps32
    go_wp2_with fail
    obtain ⟨B, hk1, hs⟩ := blocks1 w #[.int .i64 (l), .int .i64 (s), .int .i64 (k), .int .u32 n] 24
    generalize (w.alloc (.cells #[.int .i64 (l), .int .i64 (s), .int .i64 (k), .int .u32 n] 24)) = W at *
    have K1 := Lib.hid hk1
    have HS := Lib.hid hs
    clear hs hk1
    have hzW := B.size
    refine (HC.out _).mono ?_
    rintro e w1 ⟨rfl, hb⟩
    replace K1 := Lib.hid (K1.out.go hb)
    replace B := B.trans (hb.mono B.size)
    have hzw1 := B.size
    clear hb
    obtain ⟨k0, k1, k2, k3⟩ := K1.out.four
    have kl := K1.out.lt
    go_wp2_with fail
    go_ret
    exact ⟨rfl, B⟩

/-- What Join answers. -/
def joinS (l s k : Int) (ll : List (List Nat)) : List Nat := if allE l s k ll = 0 then (joinL ll).take l.toNat else []
theorem all_fits {l s k : Int} {ll : List (List Nat)} (h : allE l s k ll = 0) : checkE l s k = 0 ∧ (ll.length : Int) = k ∧ ∀ i, i < ll.length → ((rowAt ll i).length : Int) = s := by
  obtain ⟨h1, h2, h3, h4⟩ := @all_of l s k ll
  by_cases hc : checkE l s k = 0
  · by_cases hk : (ll.length : Int) = k
    · refine ⟨hc, hk, fun i hi => ?_⟩
      by_cases he : ((rowAt ll i).length : Int) = s
      · exact he
      · rw [(h3 hc hk ⟨i, hi, he⟩).1] at h; cases h
    · rw [(h2 hc hk).1] at h; cases h
  · rw [(h1 hc).1] at h; exact absurd h hc
theorem cut_room2 {l s k : Int} (h : checkE l s k = 0) {i : Nat} (hi : (i : Int) < k) : i * s.toNat < l.toNat ∨ (i * s.toNat = 0 ∧ l.toNat = 0) := by
  obtain ⟨h1, h2, h3, h4, h5, h6⟩ := check_ok h
  have e : k.toNat = needsN l.toNat s.toNat := by omega
  have hs : 1 ≤ s.toNat := by omega
  have hf : ¬ 4096 < needT l.toNat s.toNat := by rw [needT_many hs]; omega
  rw [← needT_few hs hf] at e
  unfold needT at e
  split at e
  · have : i = 0 := by omega
    subst this
    simp; omega
  · have h8 : i ≤ (l.toNat - 1) / s.toNat := by omega
    have := Nat.mul_le_of_le_div _ _ _ h8
    omega
set_option maxHeartbeats 2000000 in
theorem join_any (l s k n : Int) (v : Value) (ll : List (List Nat)) (w : World) (hl0 : -9223372036854775808 ≤ l) (hl : l ≤ 9223372036854775807) (hs2 : s ≤ 9223372036854775807) (hr : IsRows w v ll) :
    Calls Try.prog 20 #[.agg #[.int .i64 l, .int .i64 s, .int .i64 k, .int .u32 n], v] w (BytesE w (joinS l s k ll) (allE l s k ll)) := by
  have HF := Lib.hid (fun w hr => gluefit_any l s k n v ll w hl0 hl hs2 hr)
  have HR := Lib.hid hr
  obtain ⟨a, c, rfl⟩ := hr.shape
  by_cases h0 : allE l s k ll = 0
  · obtain ⟨hc, hk, hrow⟩ := all_fits h0
    obtain ⟨p1, p2, p3, p4, p5, -⟩ := check_ok hc
    have hS : joinS l s k ll = (joinL ll).take l.toNat := by unfold joinS; rw [if_pos h0]
    rw [h0] at HF
    rw [h0, hS]
    have HOCT := Lib.hid (show OctM ll from hr.oct)
    obtain ⟨l', hl'⟩ : ∃ l' : Nat, l = l' := ⟨l.toNat, by omega⟩
    obtain ⟨s', hs'⟩ : ∃ s' : Nat, s = s' := ⟨s.toNat, by omega⟩
    subst hl'
    subst hs'
    subst hk
    have HRW := Lib.hid (show ∀ i, i < ll.length → (rowAt ll i).length = s' from fun i hi => by have := hrow i hi; omega)
    have HROOM := Lib.hid (fun (i : Nat) (h : (i : Int) < (ll.length : Int)) => cut_room2 hc h)
    simp only [Int.toNat_natCast] at HROOM ⊢
    obtain ⟨-, -, -, -, -, -, q7⟩ := check_ok10 hc
    have hl48 : l' ≤ 4096 * 65535 := by
      have : (ll.length : Int) * (s' : Int) ≤ 4096 * 65535 := Int.mul_le_mul p5 p3 (by omega) (by omega)
      omega
    have HLEN := Lib.hid (show l' ≤ ll.length * s' by rw [← Int.natCast_mul] at q7; omega)
    have hmb := make_bytes l' (by omega)
    have HLAY := Lib.hid (fun (g j : Nat) (v : Value) (A x : List Nat) (w : World) (hA : A.length = j * s') (hj : j < ll.length) (hg : Own w g (fitR l' A)) (hx : Bytes w v x) => by
      have h := lay_any (l' : Int) (ll.length : Int) n s' j g v (fitR l' A) x w (by omega) (by omega) (by rw [fitR_length]; exact HROOM.out j (by omega)) hg hx
      rw [fitR_length, lay_fit hA (by have := HROOM.out j (by omega); omega)] at h
      exact h)
    clear hc hrow h0 q7 hS
    go_enter Try.func20, Try.ntmps20
    go_wp2_with fail
    obtain ⟨B, hk1, hs⟩ := blocks1 w #[.int .i64 ((l':Int)), .int .i64 ((s':Int)), .int .i64 ((ll.length:Int)), .int .u32 n] 24
    generalize (w.alloc (.cells #[.int .i64 ((l':Int)), .int .i64 ((s':Int)), .int .i64 ((ll.length:Int)), .int .u32 n] 24)) = W at *
    have K1 := Lib.hid hk1
    have HS := Lib.hid hs
    clear hs hk1
    replace HR := Lib.hid (HR.out.go B)
    have hzW := B.size
    refine (HF.out _ HR.out).mono ?_
    rintro e w1 ⟨rfl, hb⟩
    replace K1 := Lib.hid (K1.out.go hb)
    replace HR := Lib.hid (HR.out.go hb)
    replace B := B.trans (hb.mono B.size)
    have hzw1 := B.size
    clear hb
    obtain ⟨k0, k1, k2, k3⟩ := K1.out.four
    have kl := K1.out.lt
    go_wp2_with fail
    clear k0 k1 k2 k3 kl
    have hS1 : Since w1 (w1.alloc (bytesObj (List.replicate l' 0))) := (Below.refl _ _).alloc (Nat.le_refl _) _
    have hO1 : Own (w1.alloc (bytesObj (List.replicate l' 0))) w1.heap.size (zeros l') := Own.new w1 _
    generalize w1.alloc (bytesObj (List.replicate l' 0)) = W2 at *
    obtain ⟨g, hg⟩ : ∃ g : Nat, g = w1.heap.size := ⟨_, rfl⟩
    have HG := Lib.hid hg
    rw [← hg] at hO1
    simp only [← hg]
    clear hg hmb
    go_loopw [8, 9, 21] (fun _ _ i wr => ∃ j : Nat, j ≤ ll.length ∧ i = .int .i64 j ∧ Since w1 wr ∧ Own wr g (fitR l' (joinL (ll.take j)))) (fun _ _ i _ => ll.length - (Go.RowKit.intOf i).toNat)
    case atStart => exact ⟨0, by omega, rfl, hS1, by rw [List.take_zero]; unfold joinL fitR; simpa [zeros] using hO1⟩
    case round =>
      clear hS1 hO1
      obtain ⟨j, hj, rfl, hSi, hOw⟩ := hrel
      have HS1 := Lib.hid hSi
      have HOW := Lib.hid hOw
      have HFL := Lib.hid (joinL_len (ll := ll) (s := s') j hj (fun i hi => HRW.out i (by omega)))
      have K2 := Lib.hid (K1.out.go hSi)
      clear hSi hOw
      obtain ⟨k0, k1, k2, k3⟩ := K2.out.four
      have kl := K2.out.lt
      by_cases hlt : j < ll.length
      · obtain ⟨b, off, u, rfl, hu, hB⟩ := HR.out.row HS1.out j hlt
        have HRB := Lib.hid hB
        obtain ⟨ra, rc, rfl, _⟩ := hB
        have i0 : (0 : Int) ≤ (j : Int) := Int.natCast_nonneg _
        have i1 : (j : Int) < (ll.length : Int) := by omega
        have HST := Lib.hid (joinL_take ll hlt)
        go_wp2_with fail
        refine (HLAY.out g j _ (joinL (ll.take j)) (rowAt ll j) _ HFL.out hlt HOW.out HRB.out).mono ?_
        rintro e w5 ⟨rfl, ho5, hg5⟩
        rw [← HST.out] at ho5
        have HO5 := Lib.hid ho5
        have HS5 := Lib.hid (show Since w1 w5 from Below.grown HS1.out hg5 (Below.size HS1.out) (fun b e => by cases e; have := HG.out; omega))
        clear ho5 hg5 k0 k1 k2 k3 kl hu
        go_wp2_with fail
        go_roundw
        case rel => exact ⟨j + 1, by omega, by go_num, HS5.out, HO5.out⟩
        case measure => simp [Go.RowKit.intOf]; omega
      · obtain rfl : j = ll.length := by omega
        rw [List.take_length] at HOW
        have HBY := Lib.hid (HOW.out.bytes (fitR_lt (fun x hx => by
          obtain ⟨r, hr, hx⟩ := List.mem_flatten.1 hx
          exact HOCT.out r hr x hx)) (by rw [fitR_length]; omega))
        rw [fitR_length] at HBY
        have HEQ := Lib.hid (show fitR l' (joinL ll) = (joinL ll).take l' by
          have h := HFL.out
          rw [List.take_length] at h
          have h2 := HLEN.out
          unfold fitR
          rw [show l' - (joinL ll).length = 0 by omega]
          simp [zeros])
        rw [HEQ.out] at HBY
        go_wp2_with fail
        go_ret2
        exact ⟨_, rfl, HBY.out, B.trans (HS1.out.mono B.size)⟩
  · have hS : joinS l s k ll = [] := by unfold joinS; rw [if_neg h0]
    rw [hS]
    obtain ⟨ce, hce⟩ : ∃ x, x = allE l s k ll := ⟨_, rfl⟩
    rw [← hce] at HF h0 ⊢
    have hb : (ce != 0) = true := by rw [bne_iff_ne]; exact h0
    clear hce hS
    go_enter Try.func20, Try.ntmps20
    go_wp2_with fail
    obtain ⟨B, hk1, hs⟩ := blocks1 w #[.int .i64 (l), .int .i64 (s), .int .i64 (k), .int .u32 n] 24
    generalize (w.alloc (.cells #[.int .i64 (l), .int .i64 (s), .int .i64 (k), .int .u32 n] 24)) = W at *
    have K1 := Lib.hid hk1
    have HS := Lib.hid hs
    clear hs hk1
    replace HR := Lib.hid (HR.out.go B)
    have hzW := B.size
    refine (HF.out _ HR.out).mono ?_
    rintro e w1 ⟨rfl, hb⟩
    replace K1 := Lib.hid (K1.out.go hb)
    replace HR := Lib.hid (HR.out.go hb)
    replace B := B.trans (hb.mono B.size)
    have hzw1 := B.size
    clear hb
    obtain ⟨k0, k1, k2, k3⟩ := K1.out.four
    have kl := K1.out.lt
    go_wp2_with fail
    go_ret2
    exact ⟨_, rfl, Bytes.nil _, B⟩

end Go.Proofs.Ytfefkchjhooloaa

/-
  A region in any order that writes one box of the call's own (of whatever cells), and else only reads or makes memory.
-/
set_option maxRecDepth 100000
namespace Go.Proofs.Ytfefkchjhooloaa
open Go.RowKit

section
variable {W : World} {g : Nat} {T : TypeId}
end
section
variable {P : Program} {C : World → Prop} {R : World → World → Prop} {H : Nat → World → World → Prop} {a : Act} {w : World} {o : Oper} {Q : Exit → Act → World → Prop}
/-- A slice of a slice, from a place. -/
theorem ob_sliceFrom {T : Ty C R H} {t : Tmp} {x y : Operand} {E : TypeId} {p q : Value} (v : Value) (hS : T.S = [t]) (hh : T.kind = none) (hd : o.dst = some t) (hlt : t < a.tmps.size) (hop : o.op = .slice E x (some y) none none) (hx : a.eval x = p) (hy : a.eval y = q)
    (hrun : (Instr.sliceAt E p (some q) none none).run P w = .ok v w) (hR : R w w) (hF : T.F [v] w) : Done P T Q o a w := by
  refine ob_value v w hS hh hd hlt ?_ hR hF
  simp [execOp, hop, hx, hy, hrun]
end
end Go.Proofs.Ytfefkchjhooloaa

/-
  Symbols joined, in the program (package glue): Clean.
-/
set_option maxRecDepth 100000
namespace Go.Proofs.Ytfefkchjhooloaa
open Go.RowKit

/-- What Clean answers. -/
def cleanB (l s k : Int) (ll : List (List Nat)) : Bool := if allE l s k ll = 0 then zeroB ((joinL ll).drop l.toNat) else false
theorem join_last {ll : List (List Nat)} {l s q : Nat} (hq : ll.length = q + 1) (hr : ∀ i, i < ll.length → (rowAt ll i).length = s) (hl : q * s ≤ l) : (joinL ll).drop l = (rowAt ll q).drop (l - q * s) := by
  have h1 := joinL_take ll (j := q) (by omega)
  rw [List.take_of_length_le (by omega)] at h1
  have h2 := joinL_len (ll := ll) (s := s) q (by omega) (fun i hi => hr i (by omega))
  rw [h1, List.drop_append, List.drop_of_length_le (by omega), List.nil_append, h2]
set_option maxHeartbeats 2000000 in
theorem clean_any (l s k n : Int) (v : Value) (ll : List (List Nat)) (w : World) (hl0 : -9223372036854775808 ≤ l) (hl : l ≤ 9223372036854775807) (hs2 : s ≤ 9223372036854775807) (hr : IsRows w v ll) :
    Calls Try.prog 22 #[.agg #[.int .i64 l, .int .i64 s, .int .i64 k, .int .u32 n], v] w fun e w' => e = .returned (.bool (cleanB l s k ll)) ∧ Below w.heap.size w w' := by
  have HF := Lib.hid (fun w hr => gluefit_any l s k n v ll w hl0 hl hs2 hr)
  have HR := Lib.hid hr
  obtain ⟨a, c, rfl⟩ := hr.shape
  by_cases h0 : allE l s k ll = 0
  · obtain ⟨hc, hk, hrow⟩ := all_fits h0
    obtain ⟨p1, p2, p3, p4, p5, -, q7⟩ := check_ok10 hc
    have hS : cleanB l s k ll = zeroB ((joinL ll).drop l.toNat) := by unfold cleanB; rw [if_pos h0]
    have hpd := pad_any l s k n
    rw [show padI l s k = k * s - l by unfold padI; rw [if_pos hc]] at hpd
    rw [h0] at HF
    rw [hS]
    obtain ⟨l', hl'⟩ : ∃ l' : Nat, l = l' := ⟨l.toNat, by omega⟩
    obtain ⟨s', hs'⟩ : ∃ s' : Nat, s = s' := ⟨s.toNat, by omega⟩
    obtain ⟨q, hq⟩ : ∃ q : Nat, ll.length = q + 1 := ⟨ll.length - 1, by omega⟩
    have hroom := cut_room hc (i := q) (by omega)
    subst hl'
    subst hs'
    subst hk
    simp only [Int.toNat_natCast] at hroom ⊢
    have hrw : ∀ i, i < ll.length → (rowAt ll i).length = s' := fun i hi => by have := hrow i hi; omega
    have h7 : l' ≤ q * s' + s' := by rw [hq, ← Int.natCast_mul, Nat.succ_mul] at q7; omega
    obtain ⟨D, hD⟩ : ∃ D : Nat, D = q * s' + s' - l' := ⟨_, rfl⟩
    obtain ⟨E, hE⟩ : ∃ E : Nat, E = l' - q * s' := ⟨_, rfl⟩
    have HPD := Lib.hid (show ∀ w, Calls Try.prog 34 #[.agg #[.int .i64 (l' : Int), .int .i64 (s' : Int), .int .i64 (ll.length : Int), .int .u32 n]] w fun e w' => e = .returned (.int .i64 (D : Int)) ∧ Below w.heap.size w w' from fun w => by
      have h := hpd w (by omega) (by omega) (by omega)
      rw [show (ll.length : Int) * (s' : Int) - (l' : Int) = (D : Int) by rw [hq, ← Int.natCast_mul, Nat.succ_mul]; omega] at h
      exact h)
    have HJ := Lib.hid (show (joinL ll).drop l' = (rowAt ll q).drop E by rw [hE]; exact join_last hq hrw hroom)
    have HEI := Lib.hid (show (s' : Int) - (D : Int) = (E : Int) by omega)
    have HQI := Lib.hid (show (ll.length : Int) - ((1 : Nat) : Int) = (q : Int) by omega)
    have HES := Lib.hid (show E ≤ (rowAt ll q).length by rw [hrw q (by omega)]; omega)
    have HQL := Lib.hid (show q < ll.length by omega)
    rw [HJ.out]
    have hs9 : s' ≤ 65535 := by omega
    have hk9 : q ≤ 4096 := by omega
    have hE9 : E ≤ 65535 := by omega
    clear hc hrow h0 q7 hS hpd hroom hrw h7 hD hE hq HJ
    go_enter Try.func22, Try.ntmps22
    go_wp2_with fail
    obtain ⟨B, hk1, hs⟩ := blocks1 w #[.int .i64 ((l':Int)), .int .i64 ((s':Int)), .int .i64 ((ll.length:Int)), .int .u32 n] 24
    generalize (w.alloc (.cells #[.int .i64 ((l':Int)), .int .i64 ((s':Int)), .int .i64 ((ll.length:Int)), .int .u32 n] 24)) = W at *
    have K1 := Lib.hid hk1
    have HS := Lib.hid hs
    clear hs hk1
    replace HR := Lib.hid (HR.out.go B)
    have hzW := B.size
    refine (HF.out _ HR.out).mono ?_
    rintro e w1 ⟨rfl, hb⟩
    replace K1 := Lib.hid (K1.out.go hb)
    replace HR := Lib.hid (HR.out.go hb)
    replace B := B.trans (hb.mono B.size)
    have hzw1 := B.size
    clear hb
    obtain ⟨k0, k1, k2, k3⟩ := K1.out.four
    have kl := K1.out.lt
    go_wp2_with fail
    obtain ⟨b, off, u, rfl, hu, hB⟩ := HR.out.row (Below.refl _ _) q HQL.out
    obtain ⟨b5, d5, c5, hsl, hbr⟩ := (show ∃ b m d, (∀ w' : World, (Instr.sliceAt 25 u (some (.int .i64 (E : Int))) none none).run Try.prog w' = .ok (.slice b m d) w') ∧ Bytes w1 (.slice b m d) ((rowAt ll q).drop E) from by
      obtain ⟨ra, rc, rfl, _⟩ := id hB
      exact slice_rest hB HES.out)
    have HBR := Lib.hid hbr
    obtain ⟨ra, rc, rfl, _⟩ := id hB
    have i0 : (0 : Int) ≤ (q : Int) := Int.natCast_nonneg _
    have i1 : (q : Int) < (ll.length : Int) := by have := HQL.out; omega
    clear hbr hB k0 k1 k2 k3 kl
    obtain ⟨g, hg⟩ : ∃ g : Nat, g = w.heap.size := ⟨_, rfl⟩
    rw [← hg] at K1
    simp only [← hg]
    clear hg
    refine wp_region_mono (C := Cb w1) (R := Rb) (H := fun _ => Hb w1) [Ty.val 10 (.slice (some ⟨b, off, none⟩) ll.length c), Ty.val 11 (.pointer (some ⟨g, 2, none⟩)), Ty.val 12 (.int .i64 (ll.length : Int)), Ty.val 13 (.int .i64 (q : Int)), Ty.val 14 (.pointer (some ⟨b, off + q, none⟩)), Ty.val 15 (.slice ra (rowAt ll q).length rc), Ty.val 16 (.pointer (some ⟨g, 1, none⟩)), Ty.val 17 (.int .i64 (s' : Int)), Ty.val 18 (.agg #[.int .i64 (l' : Int), .int .i64 (s' : Int), .int .i64 (ll.length : Int), .int .u32 n]), Ty.val 19 (.int .i64 (D : Int)), Ty.val 20 (.int .i64 (E : Int)), Ty.val 21 (.slice b5 d5 c5), Ty.val 5 (.slice b5 d5 c5)] (by kernel_rfl) (hC_b w1) (hCH_b w1) (drew_b w1) ⟨trivial, trivial, trivial, trivial, trivial, trivial, trivial, trivial, trivial, trivial, trivial, trivial, trivial, trivial⟩ (by kernel_rfl) ?_ ?_
    · refine ⟨?_, ?_, ?_, ?_, ?_, ?_, ?_, ?_, ?_, ?_, ?_, ?_, ?_, trivial⟩
      · intro ac wc hC hsz hfr hd hpr
        have d1 : ac.eval (.tmp 1) = (.slice (some ⟨b, off, none⟩) ll.length c) := hfr 1 rfl
        rw [if_pos (wanted_none rfl)]
        exact ob_copy rfl rfl rfl (Nat.lt_of_lt_of_eq (by decide : 10 < 24) hsz.symm) (Or.inl rfl) (Below.refl _ _) d1
      · intro ac wc hC hsz hfr hd hpr
        have d2 : ac.eval (.tmp 2) = (.pointer (some ⟨g, 0, none⟩)) := hfr 2 rfl
        rw [if_pos (wanted_none rfl)]
        exact ob_field _ rfl rfl rfl (Nat.lt_of_lt_of_eq (by decide : 11 < 24) hsz.symm) rfl d2 (fun w => by go_simp) (Below.refl _ _) rfl
      · intro ac wc hC hsz hfr hd hpr
        have d11 : ac.eval (.tmp 11) = (.pointer (some ⟨g, 2, none⟩)) := hd 1 rfl
        rw [if_pos (wanted_none rfl)]
        exact ob_load _ rfl rfl rfl (Nat.lt_of_lt_of_eq (by decide : 12 < 24) hsz.symm) rfl d11 (load_int ((K1.out.go hC).cell 2)) (Below.refl _ _) rfl
      · intro ac wc hC hsz hfr hd hpr
        have d12 : ac.eval (.tmp 12) = (.int .i64 (ll.length : Int)) := hd 2 rfl
        rw [if_pos (wanted_none rfl)]
        exact ob_bin _ rfl rfl rfl (Nat.lt_of_lt_of_eq (by decide : 13 < 24) hsz.symm) rfl d12 rfl (sub_int10 (b := 1) HQI.out (by omega)) (Below.refl _ _) rfl
      · intro ac wc hC hsz hfr hd hpr
        have d10 : ac.eval (.tmp 10) = (.slice (some ⟨b, off, none⟩) ll.length c) := hd 0 rfl
        have d13 : ac.eval (.tmp 13) = (.int .i64 (q : Int)) := hd 3 rfl
        rw [if_pos (wanted_none rfl)]
        exact ob_index _ rfl rfl rfl (Nat.lt_of_lt_of_eq (by decide : 14 < 24) hsz.symm) rfl d10 d13 (by go_simp) (Below.refl _ _) rfl
      · intro ac wc hC hsz hfr hd hpr
        have d14 : ac.eval (.tmp 14) = (.pointer (some ⟨b, off + q, none⟩)) := hd 4 rfl
        rw [if_pos (wanted_none rfl)]
        exact ob_load _ rfl rfl rfl (Nat.lt_of_lt_of_eq (by decide : 15 < 24) hsz.symm) rfl d14 (load_bytes (cell_keep hu hC)) (Below.refl _ _) rfl
      · intro ac wc hC hsz hfr hd hpr
        have d2 : ac.eval (.tmp 2) = (.pointer (some ⟨g, 0, none⟩)) := hfr 2 rfl
        rw [if_pos (wanted_none rfl)]
        exact ob_field _ rfl rfl rfl (Nat.lt_of_lt_of_eq (by decide : 16 < 24) hsz.symm) rfl d2 (fun w => by go_simp) (Below.refl _ _) rfl
      · intro ac wc hC hsz hfr hd hpr
        have d16 : ac.eval (.tmp 16) = (.pointer (some ⟨g, 1, none⟩)) := hd 6 rfl
        rw [if_pos (wanted_none rfl)]
        exact ob_load _ rfl rfl rfl (Nat.lt_of_lt_of_eq (by decide : 17 < 24) hsz.symm) rfl d16 (load_int ((K1.out.go hC).cell 1)) (Below.refl _ _) rfl
      · intro ac wc hC hsz hfr hd hpr
        have d2 : ac.eval (.tmp 2) = (.pointer (some ⟨g, 0, none⟩)) := hfr 2 rfl
        rw [if_pos (wanted_none rfl)]
        exact ob_load _ rfl rfl rfl (Nat.lt_of_lt_of_eq (by decide : 18 < 24) hsz.symm) rfl d2 (load_plan10 (K1.out.go hC)) (Below.refl _ _) rfl
      · intro ac wc hC hsz hfr hd hpr
        have d18 : ac.eval (.tmp 18) = (.agg #[.int .i64 (l' : Int), .int .i64 (s' : Int), .int .i64 (ll.length : Int), .int .u32 n]) := hd 8 rfl
        rw [if_pos (wanted_none rfl)]
        refine ob_call rfl rfl rfl (Nat.lt_of_lt_of_eq (by decide : 19 < 24) hsz.symm) rfl (enter_of Try.func34 (by kernel_rfl) rfl) ?_
        show Calls Try.prog 34 #[ac.eval (.tmp 18)] wc _
        rw [d18]
        exact (HPD.out wc).mono fun _ _ ⟨he, hb⟩ => ⟨_, he, rfl, hb⟩
      · intro ac wc hC hsz hfr hd hpr
        have d17 : ac.eval (.tmp 17) = (.int .i64 (s' : Int)) := hd 7 rfl
        have d19 : ac.eval (.tmp 19) = (.int .i64 (D : Int)) := hd 9 rfl
        rw [if_pos (wanted_none rfl)]
        exact ob_bin _ rfl rfl rfl (Nat.lt_of_lt_of_eq (by decide : 20 < 24) hsz.symm) rfl d17 d19 (sub_int10 HEI.out (by omega)) (Below.refl _ _) rfl
      · intro ac wc hC hsz hfr hd hpr
        have d15 : ac.eval (.tmp 15) = (.slice ra (rowAt ll q).length rc) := hd 5 rfl
        have d20 : ac.eval (.tmp 20) = (.int .i64 (E : Int)) := hd 10 rfl
        rw [if_pos (wanted_none rfl)]
        exact ob_sliceFrom _ rfl rfl rfl (Nat.lt_of_lt_of_eq (by decide : 21 < 24) hsz.symm) rfl d15 d20 (hsl wc) (Below.refl _ _) rfl
      · intro ac wc hC hsz hfr hd hpr
        have d21 : ac.eval (.tmp 21) = (.slice b5 d5 c5) := hd 11 rfl
        rw [if_pos (wanted_none rfl)]
        exact ob_copy rfl rfl rfl (Nat.lt_of_lt_of_eq (by decide : 5 < 24) hsz.symm) (Or.inr rfl) (Below.refl _ _) d21
    intro a' w2 hC hdef hsz hfr hd
    have e10 : a'.eval (.tmp 10) = (.slice (some ⟨b, off, none⟩) ll.length c) := hd 0 (by decide)
    have e11 : a'.eval (.tmp 11) = (.pointer (some ⟨g, 2, none⟩)) := hd 1 (by decide)
    have e12 : a'.eval (.tmp 12) = (.int .i64 (ll.length : Int)) := hd 2 (by decide)
    have e13 : a'.eval (.tmp 13) = (.int .i64 (q : Int)) := hd 3 (by decide)
    have e14 : a'.eval (.tmp 14) = (.pointer (some ⟨b, off + q, none⟩)) := hd 4 (by decide)
    have e15 : a'.eval (.tmp 15) = (.slice ra (rowAt ll q).length rc) := hd 5 (by decide)
    have e16 : a'.eval (.tmp 16) = (.pointer (some ⟨g, 1, none⟩)) := hd 6 (by decide)
    have e17 : a'.eval (.tmp 17) = (.int .i64 (s' : Int)) := hd 7 (by decide)
    have e18 : a'.eval (.tmp 18) = (.agg #[.int .i64 (l' : Int), .int .i64 (s' : Int), .int .i64 (ll.length : Int), .int .u32 n]) := hd 8 (by decide)
    have e19 : a'.eval (.tmp 19) = (.int .i64 (D : Int)) := hd 9 (by decide)
    have e20 : a'.eval (.tmp 20) = (.int .i64 (E : Int)) := hd 10 (by decide)
    have e21 : a'.eval (.tmp 21) = (.slice b5 d5 c5) := hd 11 (by decide)
    have e5 : a'.eval (.tmp 5) = (.slice b5 d5 c5) := hd 12 (by decide)
    have hact := act_puts hdef hsz hfr
    simp only [dstsOf, List.filterMap, putAll, Act.put, List.setIfInBounds_toArray, List.set_cons_succ, List.set_cons_zero, e10, e11, e12, e13, e14, e15, e16, e17, e18, e19, e20, e21, e5] at hact
    clear hd hfr hsz hdef e10 e11 e12 e13 e14 e15 e16 e17 e18 e19 e20 e21 e5
    subst hact
    replace HBR := Lib.hid (HBR.out.go hC)
    replace B := B.trans (hC.mono B.size)
    clear hC
    go_wp2_with fail
    refine (vzero_any _ ((rowAt ll q).drop E) _ HBR.out).mono ?_
    rintro e w' ⟨rfl, rfl⟩
    go_wp2_with fail
    go_ret
    exact ⟨rfl, B⟩
  · have hS : cleanB l s k ll = false := by unfold cleanB; rw [if_neg h0]
    rw [hS]
    obtain ⟨ce, hce⟩ : ∃ x, x = allE l s k ll := ⟨_, rfl⟩
    rw [← hce] at HF h0
    have hb : (ce != 0) = true := by rw [bne_iff_ne]; exact h0
    clear hce hS
    go_enter Try.func22, Try.ntmps22
    go_wp2_with fail
    obtain ⟨B, hk1, hs⟩ := blocks1 w #[.int .i64 (l), .int .i64 (s), .int .i64 (k), .int .u32 n] 24
    generalize (w.alloc (.cells #[.int .i64 (l), .int .i64 (s), .int .i64 (k), .int .u32 n] 24)) = W at *
    have K1 := Lib.hid hk1
    have HS := Lib.hid hs
    clear hs hk1
    replace HR := Lib.hid (HR.out.go B)
    have hzW := B.size
    refine (HF.out _ HR.out).mono ?_
    rintro e w1 ⟨rfl, hb⟩
    replace K1 := Lib.hid (K1.out.go hb)
    replace HR := Lib.hid (HR.out.go hb)
    replace B := B.trans (hb.mono B.size)
    have hzw1 := B.size
    clear hb
    obtain ⟨k0, k1, k2, k3⟩ := K1.out.four
    have kl := K1.out.lt
    go_wp2_with fail
    go_ret
    exact ⟨rfl, B⟩

end Go.Proofs.Ytfefkchjhooloaa

/-
  Four new blocks, one behind the other.
-/
set_option maxRecDepth 100000
namespace Go.Proofs.Ytfefkchjhooloaa
open Go.RowKit

/-- New blocks, one behind the other. -/
theorem blocks4 (w : World) (c1 : Array Value) (T1 : TypeId) (c2 : Array Value) (T2 : TypeId) (c3 : Array Value) (T3 : TypeId) (c4 : Array Value) (T4 : TypeId) :
    Below w.heap.size w ((((w.alloc (.cells c1 T1)).alloc (.cells c2 T2)).alloc (.cells c3 T3)).alloc (.cells c4 T4)) ∧ Blk ((((w.alloc (.cells c1 T1)).alloc (.cells c2 T2)).alloc (.cells c3 T3)).alloc (.cells c4 T4)) w.heap.size c1 T1 ∧
    Blk ((((w.alloc (.cells c1 T1)).alloc (.cells c2 T2)).alloc (.cells c3 T3)).alloc (.cells c4 T4)) (w.heap.size + 1) c2 T2 ∧ Blk ((((w.alloc (.cells c1 T1)).alloc (.cells c2 T2)).alloc (.cells c3 T3)).alloc (.cells c4 T4)) (w.heap.size + 1 + 1) c3 T3 ∧
    Blk ((((w.alloc (.cells c1 T1)).alloc (.cells c2 T2)).alloc (.cells c3 T3)).alloc (.cells c4 T4)) (w.heap.size + 1 + 1 + 1) c4 T4 ∧
    ((((w.alloc (.cells c1 T1)).alloc (.cells c2 T2)).alloc (.cells c3 T3)).alloc (.cells c4 T4)).heap.size = w.heap.size + 1 + 1 + 1 + 1 := by
  obtain ⟨b, k1, k2, k3, hs⟩ := blocks3 w c1 T1 c2 T2 c3 T3
  obtain ⟨b', k', hs'⟩ := blocks1 (((w.alloc (.cells c1 T1)).alloc (.cells c2 T2)).alloc (.cells c3 T3)) c4 T4
  rw [hs] at k' hs'
  exact ⟨b.trans (b'.mono b.size), k1.go b', k2.go b', k3.go b', k', hs'⟩


end Go.Proofs.Ytfefkchjhooloaa

/-
  The laws of cuts (layer 11): the example; CutCuts.
-/
set_option maxRecDepth 100000
namespace Go.Proofs.Ytfefkchjhooloaa
open Go.RowKit

theorem ex11_of : checkE 5 2 (needI 5 2) = 0 ∧ needI 5 2 = 3 := by decide +kernel
theorem Blk.bytesK {W : World} {g n : Nat} {L : List Nat} {vs : Array Value} {T : TypeId} (h : Blk W g vs T) (hn : L.length = n) (hv : ∀ i, i < L.length → vs[i]? = some (U8 (nth L i))) (hl : ∀ x, x ∈ L → x < 256) (hm : L.length ≤ 9223372036854775807) : Bytes W (.slice (some ⟨g, 0, none⟩) n n) L := by
  subst hn
  exact ⟨_, L.length, rfl, Nat.le_refl _, hm, hl, fun _ => ⟨g, 0, rfl, h.lt, fun i hi => by rw [Nat.zero_add, h.cell i]; exact hv i hi⟩⟩
theorem Blk.rows3 {W : World} {g : Nat} {u0 u1 u2 : Value} {x y z : List Nat} {T : TypeId} (h : Blk W g #[u0, u1, u2] T) (hx : Bytes W u0 x) (hy : Bytes W u1 y) (hz : Bytes W u2 z) : IsRows W (.slice (some ⟨g, 0, none⟩) 3 3) [x, y, z] := by
  refine ⟨_, 3, rfl, Nat.le_refl _, by omega, fun _ => ⟨g, 0, rfl, h.lt, fun i hi => ?_⟩⟩
  match i, hi with
  | 0, _ => exact ⟨u0, by rw [h.cell 0]; rfl, hx⟩
  | 1, _ => exact ⟨u1, by rw [h.cell 1]; rfl, hy⟩
  | 2, _ => exact ⟨u2, by rw [h.cell 2]; rfl, hz⟩
theorem five_vals : ∀ i, i < [1, 2, 3, 4, 5].length → (#[.int .u8 1, .int .u8 2, .int .u8 3, .int .u8 4, .int .u8 5] : Array Value)[i]? = some (U8 (nth [1, 2, 3, 4, 5] i)) := by
  intro i hi
  match i, hi with
  | 0, _ => rfl
  | 1, _ => rfl
  | 2, _ => rfl
  | 3, _ => rfl
  | 4, _ => rfl
theorem two_vals (a b : Nat) : ∀ i, i < [a, b].length → (#[.int .u8 (a : Int), .int .u8 (b : Int)] : Array Value)[i]? = some (U8 (nth [a, b] i)) := by
  intro i hi
  match i, hi with
  | 0, _ => rfl
  | 1, _ => rfl

end Go.Proofs.Ytfefkchjhooloaa

/-
  The laws of glue (layer 12): the example; what is gone through.
-/
set_option maxRecDepth 100000
namespace Go.Proofs.Ytfefkchjhooloaa
open Go.RowKit

theorem ex12 : allE 5 2 3 [[1, 2], [3, 4], [5, 9]] = 0 ∧ joinS 5 2 3 [[1, 2], [3, 4], [5, 9]] = [1, 2, 3, 4, 5] ∧ cleanB 5 2 3 [[1, 2], [3, 4], [5, 9]] = false := by decide +kernel
theorem ex12_join (v : Value) (w : World) (hr : IsRows w v [[1, 2], [3, 4], [5, 9]]) : Calls Try.prog 20 #[.agg #[.int .i64 5, .int .i64 2, .int .i64 3, .int .u32 0], v] w (BytesE w [1, 2, 3, 4, 5] 0) := by
  have h := join_any 5 2 3 0 v _ w (by omega) (by omega) (by omega) hr
  rw [ex12.1, ex12.2.1] at h
  exact h
theorem ex12_clean (v : Value) (w : World) (hr : IsRows w v [[1, 2], [3, 4], [5, 9]]) : Calls Try.prog 22 #[.agg #[.int .i64 5, .int .i64 2, .int .i64 3, .int .u32 0], v] w fun e w' => e = .returned (.bool false) ∧ Below w.heap.size w w' := by
  have h := clean_any 5 2 3 0 v _ w (by omega) (by omega) (by omega) hr
  rw [ex12.2.2] at h
  exact h
set_option maxHeartbeats 2000000 in
theorem awake12_any (w : World) :
    Calls Try.prog 18 #[] w fun e w' => e = .returned (.bool true) ∧ Below w.heap.size w w' := by
  have H1 := Lib.hid (fun w => of10_any 5 2 0 w (by omega) (by omega) (by omega))
  have HJ := Lib.hid ex12_join
  have HC := Lib.hid ex12_clean
  rw [ex11_of.1, ex11_of.2] at H1
  unfold PlanE okV at H1
  simp only [if_true] at H1
  unfold planV at H1
  go_enter Try.func18, Try.ntmps18
  go_wp2_with fail
  have B : Below w.heap.size w w := Below.refl _ _
  refine (H1.out _).mono ?_
  rintro e w1 ⟨rfl, hb⟩
  replace B := B.trans (hb.mono B.size)
  have hzw1 := B.size
  clear hb
  go_wp2_with fail
  have B1 := B
  clear B
  obtain ⟨Wp, hWp⟩ : ∃ Wp, Wp = w1.alloc (.cells #[.int .i64 5, .int .i64 2, .int .i64 3, .int .u32 0] 24) := ⟨_, rfl⟩
  have hzp : Wp.heap.size = w1.heap.size + 1 := by rw [hWp]; simp
  have KP := Lib.hid (show Blk Wp w1.heap.size #[.int .i64 5, .int .i64 2, .int .i64 3, .int .u32 0] 24 by rw [hWp]; exact Blk.new _ _ _ _ rfl)
  have BP := Lib.hid (show Below w.heap.size w Wp by rw [hWp]; exact B1.alloc B1.size _)
  rw [← hWp]
  simp only [← hzp]
  clear hWp hzp B1 hzw1
  obtain ⟨B, hk1, hk2, hk3, hk4, hs⟩ := blocks4 Wp #[.int .u8 1, .int .u8 2] 5 #[.int .u8 3, .int .u8 4] 5 #[.int .u8 5, .int .u8 9] 5 #[.slice (some ⟨Wp.heap.size, 0, none⟩) 2 2, .slice (some ⟨Wp.heap.size + 1, 0, none⟩) 2 2, .slice (some ⟨Wp.heap.size + 1 + 1, 0, none⟩) 2 2] 25
  generalize ((((Wp.alloc (.cells #[.int .u8 1, .int .u8 2] 5)).alloc (.cells #[.int .u8 3, .int .u8 4] 5)).alloc (.cells #[.int .u8 5, .int .u8 9] 5)).alloc (.cells #[.slice (some ⟨Wp.heap.size, 0, none⟩) 2 2, .slice (some ⟨Wp.heap.size + 1, 0, none⟩) 2 2, .slice (some ⟨Wp.heap.size + 1 + 1, 0, none⟩) 2 2] 25)) = W5 at *
  have K1 := Lib.hid hk1
  have K2 := Lib.hid hk2
  have K3 := Lib.hid hk3
  have K4 := Lib.hid hk4
  have HS := Lib.hid hs
  clear hs hk1 hk2 hk3 hk4
  replace KP := Lib.hid (KP.out.go B)
  have hzW5 := B.size
  replace B := BP.out.trans (B.mono BP.out.size)
  have HL := Lib.hid (K4.out.rows3 (K1.out.bytesK (n := 2) (L := [1, 2]) rfl (two_vals 1 2) (by decide) (by decide)) (K2.out.bytesK (n := 2) (L := [3, 4]) rfl (two_vals 3 4) (by decide) (by decide)) (K3.out.bytesK (n := 2) (L := [5, 9]) rfl (two_vals 5 9) (by decide) (by decide)))
  clear BP K1 K2 K3 K4 HS hzW5
  refine (HJ.out _ _ HL.out).mono ?_
  rintro e w6 ⟨u6, rfl, hu6, hb⟩
  replace KP := Lib.hid (KP.out.go hb)
  replace HL := Lib.hid (HL.out.go hb)
  replace B := B.trans (hb.mono B.size)
  have hzw6 := B.size
  clear hb
  have HU := Lib.hid hu6
  obtain ⟨ua, uc, rfl, _⟩ := hu6
  obtain ⟨p0, p1, p2, p3⟩ := KP.out.four
  have pl := KP.out.lt
  go_wp2_with fail
  clear p0 p1 p2 p3 pl
  obtain ⟨hb, hk, hs⟩ := blocks1 w6 #[.int .u8 1, .int .u8 2, .int .u8 3, .int .u8 4, .int .u8 5] 5
  generalize w6.alloc (.cells #[.int .u8 1, .int .u8 2, .int .u8 3, .int .u8 4, .int .u8 5] 5) = W7 at *
  have K7 := Lib.hid hk
  replace KP := Lib.hid (KP.out.go hb)
  replace HL := Lib.hid (HL.out.go hb)
  replace HU := Lib.hid (HU.out.go hb)
  replace B := B.trans (hb.mono B.size)
  have hzW7 := B.size
  clear hb hk hs
  have HB7 := Lib.hid (K7.out.bytesK (n := 5) (L := [1, 2, 3, 4, 5]) rfl five_vals (by decide) (by decide))
  refine (same_any _ _ [1, 2, 3, 4, 5] [1, 2, 3, 4, 5] _ HU.out HB7.out).mono ?_
  rintro e w8 ⟨rfl, hb⟩
  replace KP := Lib.hid (KP.out.go hb)
  replace HL := Lib.hid (HL.out.go hb)
  replace B := B.trans (hb.mono B.size)
  have hzw8 := B.size
  clear hb
  rw [show decide ([1, 2, 3, 4, 5] = [1, 2, 3, 4, 5]) = true by decide]
  obtain ⟨p0, p1, p2, p3⟩ := KP.out.four
  have pl := KP.out.lt
  go_wp2_with fail
  refine (HC.out _ _ HL.out).mono ?_
  rintro e w9 ⟨rfl, hb⟩
  replace B := B.trans (hb.mono B.size)
  have hzw9 := B.size
  clear hb
  go_wp2_with fail
  go_ret
  exact ⟨rfl, B⟩

end Go.Proofs.Ytfefkchjhooloaa

/-
  A map from ints to slices of bytes that a call makes: what stands in it, its keys, sorted.
-/
set_option maxRecDepth 100000
namespace Go.Proofs.Ytfefkchjhooloaa
open Go.RowKit Go.Maps

/-- An element reads as itself. -/
def heldV (v : Value) : Option (DataW Value × List MemPlace) := some (.held v, [])
/-- What the puts make of an empty map, the newest first. -/
def putR : List (Int × Value) → DataW Value
  | [] => .map []
  | p :: r => (putR r).put (.int .i64 p.1) (.held p.2)
/-- What stands at a key. -/
def valR : List (Int × Value) → Int → Value
  | [], _ => .slice none 0 0
  | p :: r, k => if p.1 = k then p.2 else valR r k
def hasR (ps : List (Int × Value)) (k : Int) : Bool := ps.any fun p => p.1 == k
theorem putR_map : ∀ ps, IsMap (putR ps)
  | [] => isMap_empty
  | _ :: r => (putR_map r).put _ _
theorem atKey_putR (k : Int) : ∀ ps, (putR ps).atKey (.int .i64 k) (.held (.slice none 0 0)) = .held (valR ps k)
  | [] => rfl
  | p :: r => by
    unfold putR valR
    by_cases h : p.1 = k
    · rw [if_pos h, ← h, atKey_put_same (k := .int .i64 p.1) (putR_map r) trivial]
    · rw [if_neg h, atKey_put_other (by simp only [ne_eq, Lit.int.injEq]; intro e; exact h e.2.symm)]
      exact atKey_putR k r
theorem has_putR (k : Int) : ∀ ps, has (putR ps) (.int .i64 k) = hasR ps k
  | [] => rfl
  | p :: r => by
    unfold putR hasR
    rw [List.any_cons]
    by_cases h : p.1 = k
    · rw [← h, has_put_same (k := .int .i64 p.1) (putR_map r) trivial]; simp
    · rw [has_put_other (by simp only [ne_eq, Lit.int.injEq]; intro e; exact h e.2.symm), has_putR k r, beq_eq_false_iff_ne.2 h]
      rfl
/-- Each key is an int. -/
def IntKeyed (D : DataW Value) : Prop := ∃ es, D = .map es ∧ ∀ p ∈ es, ∃ x, p.1 = .int .i64 x
theorem putR_keyed : ∀ ps, IntKeyed (putR ps)
  | [] => ⟨[], rfl, by simp⟩
  | p :: r => by
    obtain ⟨es, he, hk⟩ := putR_keyed r
    refine ⟨DataW.insert (.int .i64 p.1, .held p.2) (es.filter fun q => !q.1.sameKey (.int .i64 p.1)), by unfold putR; rw [he]; rfl, fun q hq => ?_⟩
    rcases ChangeMaps.mem_insert_iff.1 hq with rfl | hq
    · exact ⟨_, rfl⟩
    · exact hk q (List.mem_filter.1 hq).1
/-- Which ints are keys: those that were put; none twice. -/
theorem keys_putR {w : World} {b n : Nat} {ps : List (Int × Value)} (h : w.ownsMap Try.prog 3 heldV b n (putR ps)) {ss : List Int} (hs : ss.Perm (intKeys (putR ps))) : ss.Nodup ∧ ∀ x, x ∈ ss ↔ hasR ps x = true := by
  obtain ⟨es, he, hk⟩ := putR_keyed ps
  obtain ⟨es', he', hp⟩ := h.tidy (int_keyed Try.underlying3)
  have hee : es = es' := by rw [he] at he'; cases he'; rfl
  subst hee
  have hnd : (intKeys (putR ps)).Nodup := by
    rw [he]
    show (es.map fun p => Go.intOf p.1).Nodup
    refine List.pairwise_map.2 (hp.imp_of_mem fun {p q} hp' hq' hne e => hne ?_)
    obtain ⟨a, ha⟩ := hk p hp'
    obtain ⟨b, hb⟩ := hk q hq'
    rw [ha, hb] at e ⊢
    exact congrArg _ e
  refine ⟨hs.nodup_iff.2 hnd, fun x => ?_⟩
  rw [hs.mem_iff, ← has_putR, he, has_eq, List.any_eq_true]
  show x ∈ es.map (fun p => Go.intOf p.1) ↔ _
  rw [List.mem_map]
  constructor
  · rintro ⟨p, hp', rfl⟩
    obtain ⟨a, ha⟩ := hk p hp'
    exact ⟨p, hp', by rw [ha]; simp [Lit.sameKey, Go.intOf]⟩
  · rintro ⟨p, hp', hs⟩
    obtain ⟨a, ha⟩ := hk p hp'
    rw [ha] at hs
    exact ⟨p, hp', by rw [ha]; simpa [Lit.sameKey, Go.intOf] using hs⟩
/-- Sorted, without repeats: rising. -/
theorem sort_rising {ss : List Int} (h : ss.Nodup) : (ss.mergeSort leI).Pairwise (· < ·) ∧ ∀ x, x ∈ ss.mergeSort leI ↔ x ∈ ss := by
  have tr : ∀ a b c : Int, leI a b = true → leI b c = true → leI a c = true := fun a b c h1 h2 => by simp only [leI, decide_eq_true_eq] at *; exact Int.le_trans h1 h2
  have tot : ∀ a b : Int, (leI a b || leI b a) = true := fun a b => by simp only [leI, Bool.or_eq_true, decide_eq_true_eq]; exact Int.le_total a b
  have h1 := List.pairwise_mergeSort tr tot ss
  have h2 := List.mergeSort_perm ss leI
  refine ⟨?_, fun x => h2.mem_iff⟩
  have h3 := h2.nodup_iff.2 h
  have h4 := List.Pairwise.and h1 h3
  refine h4.imp fun {a b} hab => ?_
  have := hab.1
  simp only [leI, decide_eq_true_eq] at this
  have := hab.2
  omega

end Go.Proofs.Ytfefkchjhooloaa
