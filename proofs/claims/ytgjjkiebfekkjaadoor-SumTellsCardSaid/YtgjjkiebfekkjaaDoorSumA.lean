/-
  Whether bytes came whole (layer 4) in the program: 'shifted', 'Start', 'With', 'Sum', 'Of'.
-/
import Derived.Test.YtgjjkiebfekkjaaDoorRefSum
import Derived.Test.YtgjjkiebfekkjaaDoorMat
import Derived.Test.YtgjjkiebfekkjaaDoorBlk
set_option maxRecDepth 100000
namespace Go.Proofs.YtgjjkiebfekkjaaDoor
open Go.RowKit

/-- All rows in a row. -/
def flat (ll : List (List Nat)) : List Nat := ll.flatten

/-- The table lies where it was laid: of each half byte what four shifts leave. -/
def Tab (w : World) : Prop := ∀ i, i < 16 → w.cell? ⟨0, i, none⟩ = some (U32 (Crc.bits i 4))

theorem Tab.go {w w' : World} (h : Tab w) (hb : Below w.heap.size w w') : Tab w' := fun i hi => by
  rw [hb.cell (p := ⟨0, i, none⟩) (World.block_lt_of_cell? w _ (h i hi))]; exact h i hi

theorem IsRows.go {w w' : World} {v : Value} {ll : List (List Nat)} (h : IsRows w v ll) (hb : Below w.heap.size w w') : IsRows w' v ll := h.below (Nat.le_refl _) hb

theorem and15 (r : Nat) (hr : r < 4294967296) : Go.bits BinOp.and IntKind.u32 (r : Int) 15 = ((r % 16 : Nat) : Int) := by
  rw [show (15 : Int) = ((15 : Nat) : Int) from rfl, u32_and_nat _ _ hr (by decide), show (15 : Nat) = 2 ^ 4 - 1 from rfl, Nat.and_two_pow_sub_one_eq_mod]

theorem half_step (r : Nat) (hr : r < 4294967296) : Go.bits BinOp.xor IntKind.u32 ((r : Int) / 16) (Crc.bits (r % 16) 4 : Int) = (Crc.bits r 4 : Int) := by
  have e : ((r : Int) / 16) = ((r / 16 : Nat) : Int) := by omega
  rw [e, u32_xor_nat _ _ (by omega) (Crc.bits_lt (by omega) 4), ← Crc.bits_four r]

set_option maxHeartbeats 400000 in
theorem shifted_any (r : Nat) (w : World) (hT : Tab w) (hr : r < 4294967296) :
    Calls Tryd.prog 16 #[U32 r] w fun e w' => e = .returned (U32 (Crc.bits r 8)) ∧ w = w' := by
  have HT := Lib.hid hT
  clear hT
  go_enter Tryd.func16, Tryd.ntmps16
  go_wp2_with fail
  go_loop [0, 3] (fun x i => ∃ k : Nat, k ≤ 2 ∧ i = .int .i64 k ∧ x = U32 (Crc.bits r (4 * k))) (fun _ i => 2 - (intOf i).toNat)
  case atStart => exact ⟨0, by omega, rfl, rfl⟩
  case round =>
    obtain ⟨k, hk, rfl, rfl⟩ := hrel
    have hx := Crc.bits_lt hr (4 * k)
    by_cases hlt : k < 2
    · obtain ⟨x, hxx⟩ : ∃ x, x = Crc.bits r (4 * k) := ⟨_, rfl⟩
      have HX := Lib.hid (show Crc.bits x 4 = Crc.bits r (4 * (k + 1)) by rw [hxx, ← Crc.bits_add]; rfl)
      rw [← hxx] at hx ⊢
      have hcell := HT.out (x % 16) (by omega)
      have ha := and15 x hx
      have HS := Lib.hid (half_step x hx)
      have hm : x % 16 < 16 := by omega
      clear hxx
      go_wp2_with fail
      exact ⟨⟨k + 1, by omega, by go_num, by rw [HS.out, HX.out]⟩, by simp [intOf]; omega⟩
    · obtain rfl : k = 2 := by omega
      go_wp2_with fail
      go_ret
      exact ⟨rfl, rfl⟩

set_option maxHeartbeats 400000 in
theorem start_any (w : World) :
    Calls Tryd.prog 7 #[] w fun e w' => e = .returned (.agg #[U32 4294967295]) ∧ Below w.heap.size w w' := by
  go_enter Tryd.func7, Tryd.ntmps7
  go_wp2_with fail
  exact bodyPost_ret (v := .agg #[U32 4294967295]) (by simp [results, Tryd.results7, go_sem]) rfl ⟨rfl, (Below.refl _ _).alloc (Nat.le_refl _) _⟩

theorem not_u32 (r : Nat) (hr : r < 4294967296) : (4294967295 ^^^ r : Nat) < 4294967296 := Nat.xor_lt_two_pow (n := 32) (by decide) hr

set_option maxHeartbeats 400000 in
theorem rsum_any (r : Nat) (w : World) (hr : r < 4294967296) :
    Calls Tryd.prog 9 #[.agg #[U32 r]] w fun e w' => e = .returned (U32 (4294967295 ^^^ r)) ∧ Below w.heap.size w w' := by
  have hsg : IntKind.u32.signed = false := rfl
  have HX := Lib.hid (show Go.bits BinOp.xor IntKind.u32 IntKind.u32.max (r : Int) = ((4294967295 ^^^ r : Nat) : Int) from by
    rw [show IntKind.u32.max = ((4294967295 : Nat) : Int) from rfl, u32_xor_nat _ _ (by decide) hr])
  go_enter Tryd.func9, Tryd.ntmps9
  go_wp2_with fail
  go_ret
  exact ⟨ret_u32 HX.out, (Below.refl _ _).alloc (Nat.le_refl _) _⟩

theorem flat_take_zero (ll : List (List Nat)) : flat (ll.take 0) = [] := rfl
theorem flat_take_succ (ll : List (List Nat)) (k : Nat) (h : k < ll.length) : flat (ll.take (k + 1)) = flat (ll.take k) ++ rowAt ll k := by
  unfold flat; rw [take_rowAt ll k h]; simp

set_option maxHeartbeats 1000000 in
theorem with_some (r b off cap : Nat) (ll : List (List Nat)) (w : World) (hT : Tab w) (hr : r < 4294967296) (hR : IsRows w (.slice (some ⟨b, off, none⟩) ll.length cap) ll) :
    Calls Tryd.prog 8 #[.agg #[U32 r], .slice (some ⟨b, off, none⟩) ll.length cap] w fun e w' => e = .returned (.agg #[U32 (Crc.reg r (flat ll))]) ∧ Below w.heap.size w w' := by
  have hcap : ll.length ≤ 9223372036854775807 := by obtain ⟨_, _, _, h1, h2, _⟩ := hR; omega
  have HT := Lib.hid hT
  have HR := Lib.hid hR
  clear hT hR
  go_enter Tryd.func8, Tryd.ntmps8
  go_wp2_with fail
  obtain ⟨B, hk1, hk2, hs⟩ := blocks2 w #[U32 r] 28 #[.int .u32 0] 28
  generalize ((w.alloc (.cells #[U32 r] 28)).alloc (.cells #[.int .u32 0] 28)) = W at *
  have K1 := Lib.hid hk1
  have K2 := Lib.hid hk2
  have HS := Lib.hid hs
  clear hs hk1 hk2
  have hzW := B.size
  have HRL := Lib.hid (show ∀ j, j < ll.length → ∀ x, x ∈ rowAt ll j → x < 256 from fun j hj x hx => by
    obtain ⟨u, _, hB⟩ := HR.out.cell j hj
    exact hB.lt x hx)
  have HFL := Lib.hid (show ∀ k x, x ∈ flat (ll.take k) → x < 256 from fun k x hx => by
    unfold flat at hx
    obtain ⟨l, hl, hx⟩ := List.mem_flatten.1 hx
    obtain ⟨j, hj, rfl⟩ := List.getElem_of_mem (List.mem_of_mem_take hl)
    exact HRL.out j hj x (by rw [rowAt_eq ll j hj]; exact hx))
  go_loopw [6, 8, 11, 17] (fun _ _ i _ wr => ∃ k : Nat, k ≤ ll.length ∧ i = .int .i64 k ∧ Blk wr w.heap.size #[U32 (Crc.reg r (flat (ll.take k)))] 28 ∧ Blk wr (w.heap.size + 1) #[.int .u32 0] 28 ∧ Below w.heap.size w wr) (fun _ _ i _ _ => ll.length - (intOf i).toNat)
  case atStart => exact ⟨0, by omega, rfl, K1.out, K2.out, B⟩
  case round =>
    obtain ⟨k, hk, rfl, hk1, hk2, hbel⟩ := hrel
    have HK1 := Lib.hid hk1
    have HK2 := Lib.hid hk2
    have hzr := hbel.size
    have hreg : Crc.reg r (flat (ll.take k)) < 4294967296 := Crc.reg_lt hr (HFL.out k)
    clear hk1 hk2
    by_cases hlt : k < ll.length
    · obtain ⟨u, hu, hB⟩ := HR.out.at hbel k hlt
      have HB := Lib.hid hB
      have HLT := Lib.hid (HRL.out k hlt)
      obtain ⟨ua, uc, rfl, _, _, _, _⟩ := hB
      have hrow : (rowAt ll k).length ≤ 9223372036854775807 := by obtain ⟨_, _, _, h1, h2, _⟩ := HB.out; omega
      have HFS := Lib.hid (flat_take_succ ll k hlt)
      obtain ⟨q, hq⟩ : ∃ q, q = Crc.reg r (flat (ll.take k)) := ⟨_, rfl⟩
      have HQ := Lib.hid (show Crc.reg q (rowAt ll k) = Crc.reg r (flat (ll.take (k + 1))) by rw [HFS.out, Crc.reg_append, hq])
      rw [← hq] at hreg HK1
      clear hq
      obtain ⟨wo, hwo⟩ : ∃ wo : World, wo = wr := ⟨_, rfl⟩
      subst hwo
      go_wp2_with fail
      go_loopw [8, 17] (fun _ jj wr => ∃ j : Nat, j ≤ (rowAt ll k).length ∧ jj = .int .i64 j ∧ Blk wr w.heap.size #[U32 (Crc.reg q ((rowAt ll k).take j))] 28 ∧ Blk wr (w.heap.size + 1) #[.int .u32 0] 28 ∧ Below w.heap.size w wr) (fun _ jj _ => (rowAt ll k).length - (intOf jj).toNat)
      case atStart => exact ⟨0, by omega, rfl, HK1.out, HK2.out, hbel⟩
      case round =>
        obtain ⟨j, hj, rfl, hi1, hi2, hbel2⟩ := hrel
        have hq2 : Crc.reg q ((rowAt ll k).take j) < 4294967296 := Crc.reg_lt hreg (fun x hx => HLT.out x (List.mem_of_mem_take hx))
        by_cases hjl : j < (rowAt ll k).length
        · obtain ⟨b2, off2, rfl⟩ : ∃ b2 off2, ua = some ⟨b2, off2, none⟩ := by
            obtain ⟨a', c', e, _, _, _, h4⟩ := HB.out
            obtain ⟨b2, off2, rfl, _⟩ := h4 (by intro e; rw [e] at hjl; simp at hjl)
            simp only [Value.slice.injEq] at e
            exact ⟨b2, off2, e.1⟩
          have hcell := (HB.out.go hbel2).cell j hjl
          have hx := nth_lt HLT.out j
          have h0 : wr.cell? ⟨w.heap.size, 0, none⟩ = some (U32 (Crc.reg q ((rowAt ll k).take j))) := hi1.cell 0
          have hf0 := hi1.free 0
          have ht := Lib.hid (HT.out.go hbel2)
          have I1 := Lib.hid hi1
          have I2 := Lib.hid hi2
          have HST := Lib.hid (show Crc.bits (Crc.reg q ((rowAt ll k).take j) ^^^ nth (rowAt ll k) j) 8 = Crc.reg q ((rowAt ll k).take (j + 1)) by rw [take_nth _ j hjl, Crc.reg_snoc]; rfl)
          have hxx : Crc.reg q ((rowAt ll k).take j) ^^^ nth (rowAt ll k) j < 4294967296 := Nat.xor_lt_two_pow (n := 32) hq2 (by omega)
          have hxor := u32_xor_nat _ _ hq2 (show nth (rowAt ll k) j < 4294967296 by omega)
          clear hi1 hi2
          go_wp2_with fail
          refine (shifted_any _ _ ht.out hxx).mono ?_
          rintro e w' ⟨rfl, rfl⟩
          rw [HST.out]
          go_wp2_with fail
          refine ⟨⟨j + 1, by omega, by go_num, I1.out.set 0 _, ?_, hbel2.setCell (Nat.le_refl _) _⟩, by simp [intOf]; omega⟩
          exact I2.out.grown (grown_setCell wr ⟨w.heap.size, 0, none⟩ _) (by simp)
        · obtain rfl : j = (rowAt ll k).length := by omega
          have HTA := Lib.hid (show Crc.reg q ((rowAt ll k).take (rowAt ll k).length) = Crc.reg r (flat (ll.take (k + 1))) by rw [List.take_length]; exact HQ.out)
          rw [HTA.out] at hi1
          have I1 := Lib.hid hi1
          have I2 := Lib.hid hi2
          clear hi1 hi2
          go_wp2_with fail
          exact ⟨⟨k + 1, by omega, by go_num, I1.out, I2.out, hbel2⟩, by simp [intOf]; omega⟩
    · obtain rfl : k = ll.length := by omega
      have HTA := Lib.hid (show Crc.reg r (flat (ll.take ll.length)) = Crc.reg r (flat ll) by rw [List.take_length])
      rw [HTA.out] at HK1
      have h0 : wr.cell? ⟨w.heap.size, 0, none⟩ = some (U32 (Crc.reg r (flat ll))) := HK1.out.cell 0
      have h1 : wr.cell? ⟨w.heap.size + 1, 0, none⟩ = some (.int .u32 0) := HK2.out.cell 0
      have hf1 := HK2.out.free 0
      go_wp2_with fail
      have hst := (HK2.out.set 0 (U32 (Crc.reg r (flat ll)))).cell 0
      have e0 : (wr.setCell ⟨w.heap.size + 1, 0, none⟩ (U32 (Crc.reg r (flat ll)))).cell? ⟨w.heap.size + 1, 0, none⟩ = some (U32 (Crc.reg r (flat ll))) := hst
      exact bodyPost_ret (v := .agg #[U32 (Crc.reg r (flat ll))]) (by simp [results, Tryd.results8, go_sem, e0]) rfl ⟨rfl, hbel.setCell (by show w.heap.size ≤ w.heap.size + 1; omega) _⟩

end Go.Proofs.YtgjjkiebfekkjaaDoor
