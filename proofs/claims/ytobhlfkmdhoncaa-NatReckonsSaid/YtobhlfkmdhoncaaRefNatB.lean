/-
  The document's answer for numbers (wellspringref06), in the program: 'Add', 'Sub'.
-/
import Derived.Test.YtobhlfkmdhoncaaRefNat
import Derived.Test.YtobhlfkmdhoncaaLawTwo
set_option maxRecDepth 100000
namespace Go.Proofs.Ytobhlfkmdhoncaa
open Go.RowKit

set_option maxHeartbeats 1000000 in
theorem refadd_any (v0 v1 : Value) (a b : List Nat) (w : World) (ha : a.length ≤ 1000000) (hb : b.length ≤ 1000000) (h0 : Bytes w v0 a) (h1 : Bytes w v1 b) :
    Calls Try.prog 39 #[v0, v1] w (BytesV w (Nt.dg (Nt.val a + Nt.val b))) := by
  have HA := Lib.hid h0
  have HB := Lib.hid h1
  obtain ⟨pa, ca, rfl, _⟩ := h0
  obtain ⟨pb, cb, rfl, _⟩ := h1
  have HAL := Lib.hid (fun k => nth_lt HA.out.lt k)
  have HBL := Lib.hid (fun k => nth_lt HB.out.lt k)
  go_enter Try.func39, Try.ntmps39
  go_wp2_with fail
  go_loopw [5, 6, 7, 8] (fun v c i _ wr => ∃ (k c' : Nat) (o : List Nat), (k ≤ a.length ∨ k ≤ b.length ∨ (k ≤ a.length + 1 ∧ c' = 0) ∨ (k ≤ b.length + 1 ∧ c' = 0)) ∧ c' ≤ 1 ∧ i = .int .i64 k ∧ c = .int .i64 c' ∧ Owns wr w.heap.size v o ∧ o.length = k ∧ (∀ x, x ∈ o → x < 256) ∧ Nt.val o + 256 ^ k * c' = Nt.low a k + Nt.low b k ∧ Below w.heap.size w wr) (fun _ _ i _ _ => a.length + b.length + 5 - (intOf i).toNat)
  case atStart => exact ⟨0, 0, [], by omega, by omega, rfl, rfl, Owns.nil _ _, rfl, by simp, by simp [Nt.val, Nt.low], Below.refl _ _⟩
  case round =>
    obtain ⟨k, c, o, hk, hc, rfl, rfl, hown, hlen, hob, hval, hbel⟩ := hrel
    have HO := Lib.hid hown
    have HLEN := Lib.hid hlen
    have HOB := Lib.hid hob
    have HVAL := Lib.hid hval
    have HK := Lib.hid hk
    have hkm : (k : Int) ≤ 1000001 := by omega
    have hz := hbel.size
    have HA2 := Lib.hid (HA.out.below (Nat.le_refl _) hbel)
    have HB2 := Lib.hid (HB.out.below (Nat.le_refl _) hbel)
    have HE := Lib.hid (fun (h : c = 0) => Nt.add_end (a := a) (b := b) (o := o) (k := k) (by rw [h] at hval; exact hval))
    have HS := Lib.hid (Nt.add_step hlen hval)
    clear hown hlen hob hval hk
    by_cases hend : a.length ≤ k ∧ b.length ≤ k ∧ c = 0
    · obtain ⟨e1, e2, rfl⟩ := hend
      have HV := Lib.hid (HE.out rfl e1 e2)
      go_wp2_with fail
      refine (reftrim_any _ _ _ (HO.out.bytes HOB.out)).mono ?_
      rintro e w' ⟨⟨v', rfl, hB'⟩, rfl⟩
      have HB' := Lib.hid hB'
      have HT := Lib.hid (show Nt.tidied o = Nt.dg (Nt.val a + Nt.val b) by unfold Nt.tidied; rw [HV.out])
      clear hB'
      go_wp2_with fail
      go_ret
      exact ⟨_, rfl, by rw [← HT.out]; exact HB'.out, hbel⟩
    · have hcond : k < a.length ∨ (a.length ≤ k ∧ k < b.length) ∨ (a.length ≤ k ∧ b.length ≤ k ∧ 0 < c) := by omega
      have x1 := HAL.out k
      have y1 := HBL.out k
      have HX := Lib.hid (show nth a k = nth a k from rfl)
      obtain ⟨x, hx⟩ : ∃ x, x = nth a k := ⟨_, rfl⟩
      obtain ⟨y, hy⟩ : ∃ y, y = nth b k := ⟨_, rfl⟩
      replace HX := Lib.hid hx.symm
      have HY := Lib.hid hy.symm
      rw [← hx, ← hy] at HS
      rw [← hx] at x1
      rw [← hy] at y1
      clear hx hy
      obtain ⟨wo, hwo⟩ : ∃ wo : World, wo = wr := ⟨_, rfl⟩
      subst hwo
      obtain ⟨d, hd⟩ : ∃ d, d = (x + y + c) % 256 := ⟨_, rfl⟩
      obtain ⟨c2, hc2⟩ : ∃ c2, c2 = (x + y + c) / 256 := ⟨_, rfl⟩
      rw [← hd, ← hc2] at HS
      have hd1 : d < 256 := by omega
      have hc21 : c2 ≤ 1 := by omega
      have hdI : ((x : Int) + y + c) % 256 = (d : Int) := by omega
      have hcI : ((x : Int) + y + c) / 256 = (c2 : Int) := by omega
      have HK2 := Lib.hid (show k + 1 ≤ a.length ∨ k + 1 ≤ b.length ∨ (k + 1 ≤ a.length + 1 ∧ c2 = 0) ∨ (k + 1 ≤ b.length + 1 ∧ c2 = 0) from by
        rcases hcond with h | h | h
        · omega
        · omega
        · have e1 : x = 0 := by rw [← HX.out]; exact Nt.nth_over a k h.1
          have e2 : y = 0 := by rw [← HY.out]; exact Nt.nth_over b k h.2.1
          have e3 := HK.out
          omega)
      have HOB2 := Lib.hid (show ∀ z, z ∈ o ++ [d] → z < 256 from fun z hz => by
        rcases List.mem_append.1 hz with h | h
        · exact HOB.out z h
        · simp at h; omega)
      clear hd hc2
      have HML := Lib.hid (show (intOf (.int .i64 (k : Int))).toNat = k from rfl)
      have HKM := Lib.hid (show k ≤ 1000001 from by omega)
      rcases hcond with h1 | ⟨h1, h2⟩ | ⟨h1, h2, h3⟩
      all_goals
        go_wp2_with fail
        refine (refat_any _ a k _ HA2.out).mono ?_
        rintro e w' ⟨rfl, rfl⟩
        rw [HX.out]
        go_wp2_with fail
        refine (refat_any _ b k _ HB2.out).mono ?_
        rintro e w' ⟨rfl, rfl⟩
        rw [HY.out]
        go_wp2_with (at_builtin; refine wpList_append_byte rfl (.tmp 34) (.tmp 38) rfl w.heap.size wo.heap.size _ _ d 5 rfl rfl rfl HO.out ?c1 ?c2 ?_)
        case c1 => exact hz
        case c2 => have := HLEN.out; have := HKM.out; omega
        intro v' w2 hown2 hgr
        have HO2 := Lib.hid hown2
        have HG2 := Lib.hid (hbel.grown hgr hz HO.out.from)
        clear hown2 hgr
        go_wp2_with fail
        refine ⟨⟨k + 1, c2, o ++ [d], HK2.out, by omega, by go_num, by first | trivial | (simp only [Value.int.injEq, true_and]; omega) | (congr 1; omega), HO2.out, by rw [List.length_append, HLEN.out]; rfl, HOB2.out, HS.out, HG2.out⟩, ?_⟩
        have hh := HK.out
        simp [intOf]
        omega

set_option maxHeartbeats 1000000 in
theorem refsub_any (v0 v1 : Value) (a b : List Nat) (w : World) (ha : a.length ≤ 1000000) (hle : Nt.val b ≤ Nt.val a) (h0 : Bytes w v0 a) (h1 : Bytes w v1 b) :
    Calls Try.prog 41 #[v0, v1] w (BytesV w (Nt.dg (Nt.val a - Nt.val b))) := by
  have HA := Lib.hid h0
  have HB := Lib.hid h1
  obtain ⟨pa, ca, rfl, _⟩ := h0
  obtain ⟨pb, cb, rfl, _⟩ := h1
  have HAL := Lib.hid (fun k => nth_lt HA.out.lt k)
  have HBL := Lib.hid (fun k => nth_lt HB.out.lt k)
  have HLE := Lib.hid hle
  clear hle
  go_enter Try.func41, Try.ntmps41
  go_wp2_with fail
  go_loopw [5, 6, 7, 8] (fun v c i _ wr => ∃ (k c' : Nat) (o : List Nat), k ≤ a.length ∧ c' ≤ 1 ∧ i = .int .i64 k ∧ c = .int .i64 c' ∧ Owns wr w.heap.size v o ∧ o.length = k ∧ (∀ x, x ∈ o → x < 256) ∧ Nt.val o + Nt.low b k + 0 = Nt.low a k + 256 ^ k * c' ∧ Below w.heap.size w wr) (fun _ _ i _ _ => a.length - (intOf i).toNat)
  case atStart => exact ⟨0, 0, [], by omega, by omega, rfl, rfl, Owns.nil _ _, rfl, by simp, by simp [Nt.val, Nt.low], Below.refl _ _⟩
  case round =>
    obtain ⟨k, c, o, hk, hc, rfl, rfl, hown, hlen, hob, hval, hbel⟩ := hrel
    have HO := Lib.hid hown
    have HLEN := Lib.hid hlen
    have HOB := Lib.hid hob
    have HVAL := Lib.hid hval
    have hz := hbel.size
    have HA2 := Lib.hid (HA.out.below (Nat.le_refl _) hbel)
    have HB2 := Lib.hid (HB.out.below (Nat.le_refl _) hbel)
    have HS := Lib.hid (fun d c' => Nt.sub_step (a := a) (b := b) (o := o) (k := k) (c := c) (d := d) (c' := c') hlen hval)
    clear hown hlen hob hval
    by_cases hlt : k < a.length
    · have x1 := HAL.out k
      have y1 := HBL.out k
      obtain ⟨x, hx⟩ : ∃ x, x = nth a k := ⟨_, rfl⟩
      obtain ⟨y, hy⟩ : ∃ y, y = nth b k := ⟨_, rfl⟩
      have HX := Lib.hid hx.symm
      have HY := Lib.hid hy.symm
      rw [← hx, ← hy] at HS
      rw [← hx] at x1
      rw [← hy] at y1
      clear hx hy
      have HLT := Lib.hid hlt
      by_cases hneg : x < y + c
      · obtain ⟨d, hd⟩ : ∃ d, d = x + 256 - y - c := ⟨_, rfl⟩
        have HSD := Lib.hid (HS.out d 1 (by omega))
        have hdI : (x : Int) - y - c + 256 = (d : Int) := by omega
        have hd1 : d < 256 := by omega
        have hsI : (x : Int) - y - c < 0 := by omega
        have HOB2 := Lib.hid (show ∀ z, z ∈ o ++ [d] → z < 256 from fun z hz => by
          rcases List.mem_append.1 hz with h | h
          · exact HOB.out z h
          · simp at h; omega)
        clear hd
        go_wp2_with fail
        refine (refat_any _ a k _ HA2.out).mono ?_
        rintro e w' ⟨rfl, rfl⟩
        rw [HX.out]
        go_wp2_with fail
        refine (refat_any _ b k _ HB2.out).mono ?_
        rintro e w' ⟨rfl, rfl⟩
        rw [HY.out]
        go_wp2_with (at_builtin; refine wpList_append_byte rfl (.tmp 28) (.tmp 31) rfl w.heap.size wr.heap.size _ _ d 5 rfl rfl rfl HO.out ?c1 ?c2 ?_)
        case c1 => exact hz
        case c2 => have := HLEN.out; omega
        intro v' w2 hown2 hgr
        have HO2 := Lib.hid hown2
        have HG2 := Lib.hid (hbel.grown hgr hz HO.out.from)
        clear hown2 hgr
        go_wp2_with fail
        refine ⟨⟨k + 1, 1, o ++ [d], by omega, by omega, by go_num, by trivial, HO2.out, by rw [List.length_append, HLEN.out]; rfl, HOB2.out, HSD.out, HG2.out⟩, ?_⟩
        have hh := HLT.out
        simp [intOf]
        omega
      · obtain ⟨d, hd⟩ : ∃ d, d = x - y - c := ⟨_, rfl⟩
        have HSD := Lib.hid (HS.out d 0 (by omega))
        have hdI : (x : Int) - y - c = (d : Int) := by omega
        have hd1 : d < 256 := by omega
        have HOB2 := Lib.hid (show ∀ z, z ∈ o ++ [d] → z < 256 from fun z hz => by
          rcases List.mem_append.1 hz with h | h
          · exact HOB.out z h
          · simp at h; omega)
        clear hd
        go_wp2_with fail
        refine (refat_any _ a k _ HA2.out).mono ?_
        rintro e w' ⟨rfl, rfl⟩
        rw [HX.out]
        go_wp2_with fail
        refine (refat_any _ b k _ HB2.out).mono ?_
        rintro e w' ⟨rfl, rfl⟩
        rw [HY.out]
        go_wp2_with (at_builtin; refine wpList_append_byte rfl (.tmp 28) (.tmp 31) rfl w.heap.size wr.heap.size _ _ d 5 rfl rfl rfl HO.out ?c1 ?c2 ?_)
        case c1 => exact hz
        case c2 => have := HLEN.out; omega
        intro v' w2 hown2 hgr
        have HO2 := Lib.hid hown2
        have HG2 := Lib.hid (hbel.grown hgr hz HO.out.from)
        clear hown2 hgr
        go_wp2_with fail
        refine ⟨⟨k + 1, 0, o ++ [d], by omega, by omega, by go_num, by trivial, HO2.out, by rw [List.length_append, HLEN.out]; rfl, HOB2.out, HSD.out, HG2.out⟩, ?_⟩
        have hh := HLT.out
        simp [intOf]
        omega
    · obtain ⟨e, he⟩ : ∃ e, e = a.length := ⟨_, rfl⟩
      have hke : k = a.length := by omega
      have HV := Lib.hid (Nt.sub_end (a := a) (b := b) (o := o) (c := c) (by rw [← hke]; exact HVAL.out) HOB.out (by rw [HLEN.out, hke]) HLE.out HA.out.lt)
      clear hke he
      go_wp2_with fail
      refine (reftrim_any _ _ _ (HO.out.bytes HOB.out)).mono ?_
      rintro e w' ⟨⟨v', rfl, hB'⟩, rfl⟩
      have HB' := Lib.hid hB'
      have HT := Lib.hid (show Nt.tidied o = Nt.dg (Nt.val a - Nt.val b) by unfold Nt.tidied; rw [HV.out])
      clear hB'
      go_wp2_with fail
      go_ret
      exact ⟨_, rfl, by rw [← HT.out]; exact HB'.out, hbel⟩

end Go.Proofs.Ytobhlfkmdhoncaa
