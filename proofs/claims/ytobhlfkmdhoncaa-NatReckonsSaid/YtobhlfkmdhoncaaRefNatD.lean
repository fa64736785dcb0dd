/-
  The document's answer for numbers (wellspringref06), in the program: 'Mul'.
-/
import Derived.Test.YtobhlfkmdhoncaaRefNatB
import Derived.BigQuiet
set_option maxRecDepth 100000
namespace Go.Proofs.Ytobhlfkmdhoncaa
open Go.RowKit

theorem refat_q (v : Value) (l : List Nat) (i : Nat) (w : World) (n t : Nat) (hB : Bytes w v l) (ht : nth l i = t) :
    Calls Try.prog 57 #[v, .int .i64 i] (w.drewN n) fun e w' => e = .returned (.int .i64 t) ∧ w.drewN n = w' := by
  rw [← ht]; exact refat_any v l i _ (hB.drewN n)

set_option maxHeartbeats 2000000 in
theorem refmulnat_any (v0 v1 : Value) (a b : List Nat) (w : World) (ha : a.length ≤ 1000000) (hb : b.length ≤ 1000000) (h0 : Bytes w v0 a) (h1 : Bytes w v1 b) :
    Calls Try.prog 40 #[v0, v1] w (BytesV w (Nt.dg (Nt.val a * Nt.val b))) := by
  have HA := Lib.hid h0
  have HB := Lib.hid h1
  obtain ⟨pa, ca, rfl, _, _, _, h4⟩ := h0
  obtain ⟨pb, cb, rfl, _⟩ := h1
  have HPA := Lib.hid (show ∀ i, i < a.length → ∃ b off, pa = some ⟨b, off, none⟩ from fun i hi => by
    obtain ⟨b, off, e, _⟩ := h4 (by intro h; rw [h] at hi; simp at hi)
    exact ⟨b, off, e⟩)
  clear h4
  have HAL := Lib.hid (fun k => nth_lt HA.out.lt k)
  have HBL := Lib.hid (fun k => nth_lt HB.out.lt k)
  obtain ⟨L, hL⟩ : ∃ L, L = a.length + b.length + 1 := ⟨_, rfl⟩
  have hLI : (a.length : Int) + b.length + 1 = (L : Int) := by omega
  have HL := Lib.hid hL
  have hmk : ∀ w : World, (Instr.makeSlice 31 (.int .i64 (L : Int)) (.int .i64 (L : Int))).run Try.prog w = .ok (.slice (some ⟨w.heap.size, 0, none⟩) L L) (w.alloc (bytesObj (List.replicate L 0))) := make_bytes L (by omega)
  have HLM := Lib.hid (show L ≤ 2000001 by omega)
  clear hL
  go_enter Try.func40, Try.ntmps40
  go_wp2_with fail
  clear hmk
  go_loopw [6, 7, 8, 9] (fun i _ _ _ wr => ∃ (n : Nat) (o : List Nat), n ≤ a.length ∧ i = .int .i64 n ∧ Own wr w.heap.size o ∧ o.length = L ∧ (∀ x, x ∈ o → x < 256) ∧ Nt.val o = Nt.low a n * Nt.val b ∧ Below w.heap.size w wr) (fun i _ _ _ _ => a.length - (intOf i).toNat)
  case atStart => exact ⟨0, List.replicate L 0, by omega, rfl, Own.new w _, by simp, fun x hx => by rw [List.eq_of_mem_replicate hx]; decide, by rw [Nt.val_replicate, Nt.low_zero]; simp, (Below.refl _ _).alloc (Nat.le_refl _) _⟩
  case round =>
    obtain ⟨n, o, hn, rfl, hown, hlen, hob, hval, hbel⟩ := hrel
    have HO := Lib.hid hown
    have HLEN := Lib.hid hlen
    have HOB := Lib.hid hob
    have HVAL := Lib.hid hval
    clear hown hlen hob hval
    by_cases hlt : n < a.length
    · obtain ⟨ba, off, rfl⟩ := HPA.out n hlt
      have x1 := HAL.out n
      have HLT := Lib.hid hlt
      obtain ⟨x, hx⟩ : ∃ x, x = nth a n := ⟨_, rfl⟩
      have HX := Lib.hid hx.symm
      rw [← hx] at x1
      clear hx
      obtain ⟨wo, hwo⟩ : ∃ wo : World, wo = wr := ⟨_, rfl⟩
      subst hwo
      go_wp2_with fail
      go_loopw [7, 8, 9] (fun u t _ wr => ∃ (k c : Nat) (o : List Nat), (k ≤ b.length ∨ (k ≤ b.length + 1 ∧ c = 0)) ∧ c ≤ 255 ∧ u = .int .i64 c ∧ t = .int .i64 k ∧ Own wr w.heap.size o ∧ o.length = L ∧ (∀ x, x ∈ o → x < 256) ∧ Nt.val o + 256 ^ (n + k) * c = Nt.low a n * Nt.val b + 256 ^ n * (nth a n * Nt.low b k) ∧ Below w.heap.size w wr) (fun _ t _ _ => b.length + 5 - (intOf t).toNat)
      case atStart => exact ⟨0, 0, o, by omega, by omega, rfl, rfl, HO.out, HLEN.out, HOB.out, Nt.mul_begin HVAL.out, hbel⟩
      case round =>
        clear HO HLEN HOB HVAL
        obtain ⟨k, c, o, hk, hc, rfl, rfl, hown, hlen, hob, hval, hbel2⟩ := hrel
        have HO := Lib.hid hown
        have HLEN := Lib.hid hlen
        have HOB := Lib.hid hob
        have HVAL := Lib.hid hval
        clear hown hlen hob hval
        by_cases hend : b.length ≤ k ∧ c = 0
        · obtain ⟨e1, rfl⟩ := hend
          have HV := Lib.hid (Nt.mul_row HVAL.out e1)
          go_wp2_with fail
          have hh := HLT.out
          exact ⟨⟨n + 1, o, by omega, by go_num, HO.out, HLEN.out, HOB.out, HV.out, hbel2⟩, by simp [intOf]; omega⟩
        · have hcond : k < b.length ∨ (b.length ≤ k ∧ 0 < c) := by omega
          have hkb : k ≤ b.length := by omega
          have y1 := HBL.out k
          obtain ⟨y, hy⟩ : ∃ y, y = nth b k := ⟨_, rfl⟩
          have HY := Lib.hid hy.symm
          obtain ⟨p, hp⟩ : ∃ p, p = n + k := ⟨_, rfl⟩
          have hpI : (n : Int) + k = (p : Int) := by omega
          have hpL : p < L := by have := HL.out; omega
          have z1 := nth_lt HOB.out p
          have HM := Lib.hid (Nt.mul_step (a := a) (b := b) (i := n) (k := k) (c := c) (by rw [HLEN.out, ← hp]; exact hpL) HVAL.out)
          obtain ⟨z, hz⟩ : ∃ z, z = nth o p := ⟨_, rfl⟩
          have HZ := Lib.hid hz.symm
          rw [← hp, ← hy, ← hz, HX.out] at HM
          rw [← hy] at y1
          rw [← hz] at z1
          obtain ⟨m, hm⟩ : ∃ m, m = x * y := ⟨_, rfl⟩
          have hmI : (x : Int) * y = (m : Int) := by rw [hm]; simp
          have hm1 : m ≤ 65025 := by rw [hm]; exact Nat.mul_le_mul (show x ≤ 255 by omega) (show y ≤ 255 by omega)
          rw [← hm] at HM
          obtain ⟨d, hd⟩ : ∃ d, d = (z + m + c) % 256 := ⟨_, rfl⟩
          obtain ⟨c2, hc2⟩ : ∃ c2, c2 = (z + m + c) / 256 := ⟨_, rfl⟩
          rw [← hd, ← hc2] at HM
          have hd1 : d < 256 := by omega
          have hc21 : c2 ≤ 255 := by omega
          have hdI : ((z : Int) + m + c) % 256 = (d : Int) := by omega
          have hcI : ((z : Int) + m + c) / 256 = (c2 : Int) := by omega
          have HK2 := Lib.hid (show k + 1 ≤ b.length ∨ (k + 1 ≤ b.length + 1 ∧ c2 = 0) from by
            rcases Nat.lt_or_ge k b.length with h | h
            · exact .inl h
            · exact .inr ⟨by omega, Nt.mul_over (a := a) (b := b) (i := n) (k := k + 1) HA.out.lt HB.out.lt (by rw [HX.out]; exact HM.out) (by omega)⟩)
          have hcellO : wr.cell? ⟨w.heap.size, p, none⟩ = some (U8 z) := by rw [← HZ.out]; exact HO.out.cell p (by rw [HLEN.out]; exact hpL)
          have HA2 := Lib.hid (HA.out.below (Nat.le_refl _) hbel2)
          have HB2 := Lib.hid (HB.out.below (Nat.le_refl _) hbel2)
          have hcellA : wr.cell? ⟨ba, off + n, none⟩ = some (U8 x) := by rw [← HX.out]; exact HA2.out.cell n hlt
          have HKB := Lib.hid hkb
          clear hy hp hz hm hd hc2 hend hk
          have n0 : (0 : Int) ≤ (n : Int) := Int.natCast_nonneg _
          have n1 : (n : Int) < (a.length : Int) := by omega
          have p0 : (0 : Int) ≤ (p : Int) := Int.natCast_nonneg _
          have p1 : (p : Int) < (L : Int) := by omega
          have w0 : IntKind.i64.wrap (p : Int) = (p : Int) := by rw [IntKind.wrap_i64]; have := HLM.out; omega
          have w4 : IntKind.i64.wrap (z : Int) = (z : Int) := by rw [IntKind.wrap_i64]; omega
          have w5 : IntKind.i64.wrap (x : Int) = (x : Int) := by rw [IntKind.wrap_i64]; omega
          have w1 : IntKind.i64.wrap (m : Int) = (m : Int) := by rw [IntKind.wrap_i64]; omega
          have w2 : IntKind.i64.wrap ((z : Int) + m) = (z : Int) + m := by rw [IntKind.wrap_i64]; omega
          have w3 : IntKind.i64.wrap ((z : Int) + m + c) = (z : Int) + m + c := by rw [IntKind.wrap_i64]; omega
          rcases hcond with h1 | ⟨h1, h2⟩
          all_goals
            go_wp2_with fail
            go_quiet ((go_at_call 57; exact quiet_eq (refat_q _ b k _ _ y HB2.out HY.out)))
            generalize hw5 : World.drewN wr _ = w5
            have hfr : w5.frozen? ⟨w.heap.size, p, none⟩ = false := by rw [← hw5]; exact HO.out.free p
            have hcell5 : w5.cell? ⟨w.heap.size, p, none⟩ = some (U8 z) := by rw [← hw5]; exact hcellO
            have HO5 := Lib.hid (show Own w5 w.heap.size o by rw [← hw5]; exact HO.out)
            have HG5 := Lib.hid (show Below w.heap.size w w5 by rw [← hw5]; exact below_drewN hbel2 _)
            clear hw5 hcellO hcellA
            go_wp2_with fail
            have hs := HO5.out.set p d
            have hh := HKB.out
            exact ⟨⟨k + 1, c2, o.set p d, HK2.out, by omega, by first | trivial | rw [hcI], by go_num, hs, by rw [List.length_set]; exact HLEN.out, Nt.set_lt HOB.out p hd1, by rw [HX.out]; exact HM.out, HG5.out.setCell (Nat.le_refl _) _⟩, by simp [intOf]; omega⟩
    · have hna : n = a.length := by omega
      have HV := Lib.hid (show Nt.val o = Nt.val a * Nt.val b by rw [HVAL.out, Nt.low_all (by omega)])
      have HBO := Lib.hid (show Bytes wr (whole w.heap.size L) o by rw [← HLEN.out]; exact HO.out.bytes HOB.out (by have := HLM.out; have := HLEN.out; omega))
      clear hna
      go_wp2_with fail
      refine (reftrim_any _ _ _ HBO.out).mono ?_
      rintro e w' ⟨⟨v', rfl, hB'⟩, rfl⟩
      have HB' := Lib.hid hB'
      have HT := Lib.hid (show Nt.tidied o = Nt.dg (Nt.val a * Nt.val b) by unfold Nt.tidied; rw [HV.out])
      clear hB'
      go_wp2_with fail
      go_ret
      exact ⟨_, rfl, by rw [← HT.out]; exact HB'.out, hbel⟩

end Go.Proofs.Ytobhlfkmdhoncaa
