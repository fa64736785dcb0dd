/-
  Bytes out of a seed (layer 5) in the program: 'Bytes', 'Row'.
-/
import Derived.Test.YtobhlfkmdhoncaaMixA
import Derived.Test.YtobhlfkmdhoncaaOwn
set_option maxRecDepth 100000
namespace Go.Proofs.Ytobhlfkmdhoncaa
open Go.RowKit

/-- The first k of N bytes, and noughts. -/
def partL (s N k : Nat) : List Nat := Mx.bytesL s k ++ List.replicate (N - k) 0
theorem partL_zero (s N : Nat) : partL s N 0 = List.replicate N 0 := rfl
theorem partL_all (s N : Nat) : partL s N N = Mx.bytesL s N := by unfold partL; simp
theorem partL_length {s N k : Nat} (h : k ≤ N) : (partL s N k).length = N := by unfold partL; simp [Mx.bytesL_length]; omega
theorem partL_succ {s N k : Nat} (h : k < N) : (partL s N k).set k (Mx.gen s k) = partL s N (k + 1) := by
  unfold partL
  rw [show N - k = N - (k + 1) + 1 from by omega, List.replicate_succ, List.set_append_right _ _ (by rw [Mx.bytesL_length]; exact Nat.le_refl _), Mx.bytesL_length, Nat.sub_self, List.set_cons_zero, Mx.bytesL_succ]
  simp

theorem gen_of {s k : Nat} : Mx.gen s k = Mx.mixed (Mx.st s (k / 8 + 1)) / 256 ^ (k % 8) % 256 := rfl

/-- The number that is being told, behind k bytes. -/
def Telling (s k x : Nat) : Prop := x < 18446744073709551616 ∧ (k % 8 ≠ 0 → x = Mx.mixed (Mx.st s (k / 8 + 1)) / 256 ^ (k % 8))

/-- What Bytes leaves. -/
def MixBytesP (g s N : Nat) (w : World) (e : Ending) (w' : World) : Prop :=
  e = .returned (.tuple #[whole w.heap.size N, .int .i64 0]) ∧ Own w' w.heap.size (Mx.bytesL s N) ∧ Blk w' g #[U64 (Mx.st s ((N + 7) / 8))] 69 ∧ w.grownBy w' (some g)

theorem telling_next {s k x : Nat} (hx : x < 18446744073709551616) (hg : x = Mx.mixed (Mx.st s (k / 8 + 1)) / 256 ^ (k % 8)) : Telling s (k + 1) (x / 256) ∧ Mx.gen s k = x % 256 := by
  refine ⟨⟨Nat.lt_of_le_of_lt (Nat.div_le_self _ _) hx, fun h8 => ?_⟩, by rw [gen_of, hg]⟩
  rw [hg, Nat.div_div_eq_div_mul, ← Nat.pow_succ]
  rw [show (k + 1) / 8 = k / 8 from by omega, show (k + 1) % 8 = k % 8 + 1 from by omega]

/-- A store to a block that wasn't there. -/
theorem grown_fresh {w w2 : World} {row : Option Nat} {h k : Nat} (hg : w.grownBy w2 row) (hH : w.heap.size ≤ h) (u : Value) : w.grownBy (w2.setCell ⟨h, k, none⟩ u) row :=
  ⟨hg.os, hg.tape, hg.output, by simpa [World.setCell] using hg.size, fun i hi hn => (Below.heap_setCell w2 ⟨h, k, none⟩ u i (by show i ≠ h; omega)).trans (hg.block i hi hn)⟩

theorem mixround {w w2 : World} {g h s N k x : Nat} (hk : k < N) (hgh : g < h) (hH : h = w.heap.size) (hT : Telling s (k + 1) (x / 256) ∧ Mx.gen s k = x % 256) (hO : Own w2 h (partL s N k))
    (hB : Blk w2 g #[U64 (Mx.st s ((k + 1 + 7) / 8))] 69) (hG : w.grownBy w2 (some g)) :
    (∃ k' n : Nat, k' ≤ N ∧ Value.int .i64 ((k : Int) + 1) = .int .i64 k' ∧ Value.int .u64 ((x : Int) / 256) = U64 n ∧ Telling s k' n ∧
      Own (w2.setCell ⟨h, k, none⟩ (.int .u8 ((x : Int) % 256))) h (partL s N k') ∧ Blk (w2.setCell ⟨h, k, none⟩ (.int .u8 ((x : Int) % 256))) g #[U64 (Mx.st s ((k' + 7) / 8))] 69 ∧ w.grownBy (w2.setCell ⟨h, k, none⟩ (.int .u8 ((x : Int) % 256))) (some g)) ∧
    N - (intOf (Value.int IntKind.i64 ((k : Int) + 1))).toNat < N - (intOf (Value.int IntKind.i64 (k : Int))).toNat := by
  have e : Value.int .u8 ((x : Int) % 256) = U8 (Mx.gen s k) := by rw [hT.2]; exact u8_eq (by simp)
  refine ⟨⟨k + 1, x / 256, hk, by simp, by simp, hT.1, ?_, ?_, ?_⟩, by simp [intOf]; omega⟩
  · rw [e, ← partL_succ hk]; exact hO.set k _
  · exact hB.grown (grown_setCell w2 ⟨h, k, none⟩ _) (by simp; omega)
  · exact grown_fresh hG (by omega) _

set_option maxHeartbeats 1000000 in
theorem mixbytes_ok (g s N : Nat) (w : World) (hK : Blk w g #[U64 s] 69) (hN : N ≤ 65536) :
    Calls Try.prog 16 #[ptr g, .int .i64 N] w (MixBytesP g s N w) := by
  have HK := Lib.hid hK
  have hgl := hK.lt
  clear hK
  have hmk := make_bytes N (by omega)
  go_enter Try.func16, Try.ntmps16
  go_wp2_with fail
  have HO0 := Lib.hid (Own.new w (List.replicate N 0))
  have HG0 := Lib.hid (World.grownBy_alloc w (bytesObj (List.replicate N 0)) (some g))
  have HK0 := Lib.hid (HK.out.alloc (bytesObj (List.replicate N 0)))
  obtain ⟨h, hh⟩ : ∃ h, h = w.heap.size := ⟨_, rfl⟩
  have HH := Lib.hid hh
  rw [← hh] at HO0 hgl ⊢
  clear hh
  go_loopw [7, 8, 21] (fun x _ i wr => ∃ k n : Nat, k ≤ N ∧ i = .int .i64 k ∧ x = U64 n ∧ Telling s k n ∧ Own wr h (partL s N k) ∧ Blk wr g #[U64 (Mx.st s ((k + 7) / 8))] 69 ∧ w.grownBy wr (some g)) (fun _ _ i _ => N - (intOf i).toNat)
  case atStart => exact ⟨0, 0, by omega, rfl, rfl, ⟨by decide, by simp⟩, HO0.out, HK0.out, HG0.out⟩
  case round =>
    obtain ⟨k, x, hk, rfl, rfl, htl, hown, hkk, hgr⟩ := hrel
    have HO := Lib.hid hown
    have HKK := Lib.hid hkk
    have HG := Lib.hid hgr
    have HT := Lib.hid htl
    have hx1 := htl.1
    clear hown hkk hgr htl
    by_cases hlt : k < N
    · obtain ⟨wo, hwo⟩ : ∃ wo : World, wo = wr := ⟨_, rfl⟩
      subst hwo
      by_cases h8 : k % 8 = 0
      · have hbI : (((k : Int) % 8) == 0) = true := by rw [beq_iff_eq]; omega
        have HST := Lib.hid (show Mx.step (Mx.st s ((k + 7) / 8)) = Mx.st s (k / 8 + 1) by rw [show (k + 7) / 8 = k / 8 from by omega]; rfl)
        have HSU := Lib.hid (show (k + 1 + 7) / 8 = k / 8 + 1 from by omega)
        obtain ⟨X, hX⟩ : ∃ X, X = Mx.mixed (Mx.st s (k / 8 + 1)) := ⟨_, rfl⟩
        have hX1 : X < 18446744073709551616 := by rw [hX]; exact Mx.mixed_lt _
        have HTN := Lib.hid (telling_next (s := s) (k := k) (x := X) hX1 (by rw [h8, hX]; simp))
        have HXX := Lib.hid hX
        clear hX h8
        go_wp2_with fail
        refine (mixnext_some g _ _ HKK.out).mono ?_
        rintro e w2 ⟨rfl, rfl⟩
        rw [HST.out, ← HXX.out]
        have HO2 := Lib.hid (HO.out.grown (grown_setCell wo ⟨g, 0, none⟩ (U64 (Mx.st s (k / 8 + 1)))) (by simp; omega))
        have HK2 := Lib.hid (HKK.out.set 0 (U64 (Mx.st s (k / 8 + 1))))
        have HG2 := Lib.hid (grown_trans HG.out (grown_setCell wo ⟨g, 0, none⟩ (U64 (Mx.st s (k / 8 + 1)))))
        generalize wo.setCell ⟨g, 0, none⟩ (U64 (Mx.st s (k / 8 + 1))) = w2 at *
        have hfree := HO2.out.free k
        have hcell := HO2.out.cell k (by rw [partL_length hk]; exact hlt)
        go_wp2_with fail
        exact mixround hlt hgl HH.out HTN.out HO2.out (by rw [HSU.out]; exact HK2.out) HG2.out
      · have hbI : (((k : Int) % 8) == 0) = false := by rw [beq_eq_false_iff_ne]; omega
        have HSU := Lib.hid (show (k + 1 + 7) / 8 = (k + 7) / 8 from by omega)
        have HTN := Lib.hid (telling_next (s := s) (k := k) (x := x) hx1 (HT.out.2 h8))
        have hfree := HO.out.free k
        have hcell := HO.out.cell k (by rw [partL_length hk]; exact hlt)
        clear h8
        go_wp2_with fail
        exact mixround hlt hgl HH.out HTN.out HO.out (by rw [HSU.out]; exact HKK.out) HG.out
    · obtain rfl : k = N := by omega
      have HOE := Lib.hid (show Own wr h (Mx.bytesL s k) by rw [← partL_all]; exact HO.out)
      go_wp2_with fail
      go_ret2
      exact ⟨by rw [← HH.out]; rfl, by rw [← HH.out]; exact HOE.out, HKK.out, HG.out⟩

set_option maxHeartbeats 400000 in
theorem mixbytes_no (g : Nat) (n : Int) (w : World) (h : n < 0 ∨ (0 ≤ n ∧ 65536 < n)) :
    Calls Try.prog 16 #[ptr g, .int .i64 n] w fun e w' => e = .returned (.tuple #[.slice none 0 0, .int .i64 2]) ∧ w = w' := by
  rcases h with h | ⟨h0, h⟩
  · go_enter Try.func16, Try.ntmps16
    go_wp2_with fail
    go_ret2
    exact ⟨rfl, rfl⟩
  · go_enter Try.func16, Try.ntmps16
    go_wp2_with fail
    go_ret2
    exact ⟨rfl, rfl⟩

set_option maxHeartbeats 400000 in
theorem mixbytes_none (n : Int) (w : World) :
    Calls Try.prog 16 #[.pointer none, .int .i64 n] w fun e w' => e = .returned (.tuple #[.slice none 0 0, .int .i64 1]) ∧ w = w' := by
  go_enter Try.func16, Try.ntmps16
  go_wp2_with fail
  go_ret2
  exact ⟨rfl, rfl⟩

/-- What Row answers. -/
def MixRowP (s N : Nat) (w : World) (e : Ending) (w' : World) : Prop :=
  ∃ g, e = .returned (.tuple #[whole g N, .int .i64 0]) ∧ Own w' g (Mx.bytesL s N) ∧ w.heap.size ≤ g ∧ Below w.heap.size w w'

theorem below_of_grown {w w1 w' : World} {g : Nat} (h1 : Below w.heap.size w w1) (h : w1.grownBy w' (some g)) (hg : w.heap.size ≤ g) : Below w.heap.size w w' := below_grown h1 h h1.size hg

set_option maxHeartbeats 400000 in
theorem mixrow_ok (s N : Nat) (w : World) (hN : N ≤ 65536) :
    Calls Try.prog 19 #[U64 s, .int .i64 N] w (MixRowP s N w) := by
  go_enter Try.func19, Try.ntmps19
  go_wp2_with fail
  refine (mixnew_any s _).mono ?_
  rintro e w1 ⟨rfl, rfl⟩
  have HB := Lib.hid (blocks1 w #[U64 s] 69)
  generalize w.alloc (.cells #[U64 s] 69) = w1 at *
  go_wp2_with fail
  refine (mixbytes_ok w.heap.size s N w1 HB.out.2.1 hN).mono ?_
  rintro e w2 ⟨rfl, h1, h2, h3⟩
  have HO := Lib.hid h1
  have HG := Lib.hid (below_of_grown HB.out.1 h3 (Nat.le_refl _))
  have HL := Lib.hid HB.out.2.2
  clear h1 h2 h3
  go_wp2_with fail
  go_ret2
  exact ⟨_, rfl, HO.out, by rw [HL.out]; omega, HG.out⟩

set_option maxHeartbeats 400000 in
theorem mixrow_no (s : Nat) (n : Int) (w : World) (h : n < 0 ∨ (0 ≤ n ∧ 65536 < n)) :
    Calls Try.prog 19 #[U64 s, .int .i64 n] w fun e w' => e = .returned (.tuple #[.slice none 0 0, .int .i64 2]) ∧ Below w.heap.size w w' := by
  go_enter Try.func19, Try.ntmps19
  go_wp2_with fail
  refine (mixnew_any s _).mono ?_
  rintro e w1 ⟨rfl, rfl⟩
  have HB := Lib.hid (blocks1 w #[U64 s] 69)
  generalize w.alloc (.cells #[U64 s] 69) = w1 at *
  go_wp2_with fail
  refine (mixbytes_no w.heap.size n w1 h).mono ?_
  rintro e w2 ⟨rfl, rfl⟩
  go_wp2_with fail
  go_ret2
  exact ⟨rfl, HB.out.1⟩

end Go.Proofs.Ytobhlfkmdhoncaa
