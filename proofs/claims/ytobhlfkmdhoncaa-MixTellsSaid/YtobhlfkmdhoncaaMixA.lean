/-
  Bytes out of a seed (layer 5) in the program: 'stirred', 'New', 'Clone', 'Next'.
-/
import Derived.Test.YtobhlfkmdhoncaaRefMix
set_option maxRecDepth 100000
namespace Go.Proofs.Ytobhlfkmdhoncaa
open Go.RowKit

/-- A pointer to the beginning of a block. -/
abbrev ptr (g : Nat) : Value := .pointer (some ⟨g, 0, none⟩)

theorem shr_spell (z k : Nat) : ((z : Int) / 2 ^ k) = ((z / 2 ^ k : Nat) : Int) := by simp

set_option maxHeartbeats 400000 in
theorem stirred_any (z : Nat) (w : World) (h1 : z < 18446744073709551616) :
    Calls Try.prog 43 #[U64 z] w fun e w' => e = .returned (U64 (Mx.mixed z)) ∧ w = w' := by
  obtain ⟨y, hy⟩ : ∃ y, y = Mx.sh z 30 * 13787848793156543929 % 18446744073709551616 := ⟨_, rfl⟩
  have h2 : y < 18446744073709551616 := by rw [hy]; exact Nat.mod_lt _ (by decide)
  obtain ⟨x, hx⟩ : ∃ x, x = Mx.sh y 27 * 10723151780598845931 % 18446744073709551616 := ⟨_, rfl⟩
  have h3 : x < 18446744073709551616 := by rw [hx]; exact Nat.mod_lt _ (by decide)
  have HZ := Lib.hid (show Go.bits BinOp.xor IntKind.u64 (z : Int) ((z : Int) / 1073741824) = (Mx.sh z 30 : Int) by
    rw [← sh_spell h1]; congr 1)
  have HY := Lib.hid (show Go.bits BinOp.xor IntKind.u64 (y : Int) ((y : Int) / 134217728) = (Mx.sh y 27 : Int) by
    rw [← sh_spell h2]; congr 1)
  have HX := Lib.hid (show Go.bits BinOp.xor IntKind.u64 (x : Int) ((x : Int) / 2147483648) = (Mx.mixed z : Int) by
    rw [show Mx.mixed z = Mx.sh x 31 by rw [hx, hy]; rfl, ← sh_spell h3]; congr 1)
  have HYY := Lib.hid (show IntKind.u64.wrap ((Mx.sh z 30 : Int) * 13787848793156543929) = (y : Int) by rw [IntKind.wrap_u64, hy]; omega)
  have HXX := Lib.hid (show IntKind.u64.wrap ((Mx.sh y 27 : Int) * 10723151780598845931) = (x : Int) by rw [IntKind.wrap_u64, hx]; omega)
  clear hx hy
  go_enter Try.func43, Try.ntmps43
  go_wp2_with fail
  rw [HZ.out, HYY.out, HY.out, HXX.out]
  go_ret
  exact ⟨ret_u64 HX.out, rfl⟩

set_option maxHeartbeats 400000 in
theorem mixnew_any (s : Nat) (w : World) :
    Calls Try.prog 12 #[U64 s] w fun e w' => e = .returned (ptr w.heap.size) ∧ w' = w.alloc (.cells #[U64 s] 69) := by
  go_enter Try.func12, Try.ntmps12
  go_wp2_with fail
  go_ret
  exact ⟨rfl, rfl⟩

set_option maxHeartbeats 400000 in
theorem mixclone_some (g s : Nat) (w : World) (hK : Blk w g #[U64 s] 69) :
    Calls Try.prog 13 #[ptr g] w fun e w' => e = .returned (ptr w.heap.size) ∧ w' = w.alloc (.cells #[U64 s] 69) := by
  have h0 := hK.cell 0
  simp only [List.getElem?_toArray, List.getElem?_cons_zero] at h0
  go_enter Try.func13, Try.ntmps13
  go_wp2_with fail
  refine (mixnew_any s _).mono ?_
  rintro e w' ⟨rfl, rfl⟩
  go_wp2_with fail
  go_ret
  exact ⟨rfl, rfl⟩

set_option maxHeartbeats 400000 in
theorem mixclone_none (w : World) :
    Calls Try.prog 13 #[.pointer none] w fun e w' => e = .returned (.pointer none) ∧ w = w' := by
  go_enter Try.func13, Try.ntmps13
  go_wp2_with fail
  go_ret
  exact ⟨rfl, rfl⟩

set_option maxHeartbeats 400000 in
theorem mixnext_none (w : World) :
    Calls Try.prog 14 #[.pointer none] w fun e w' => e = .returned (U64 0) ∧ w = w' := by
  go_enter Try.func14, Try.ntmps14
  go_wp2_with fail
  go_ret
  exact ⟨rfl, rfl⟩

set_option maxHeartbeats 400000 in
theorem mixnext_some (g s : Nat) (w : World) (hK : Blk w g #[U64 s] 69) :
    Calls Try.prog 14 #[ptr g] w fun e w' => e = .returned (U64 (Mx.mixed (Mx.step s))) ∧ w' = w.setCell ⟨g, 0, none⟩ (U64 (Mx.step s)) := by
  have h0 := hK.cell 0
  simp only [List.getElem?_toArray, List.getElem?_cons_zero] at h0
  have hf := hK.free 0
  obtain ⟨z, hz⟩ : ∃ z, z = Mx.step s := ⟨_, rfl⟩
  have h1 : z < 18446744073709551616 := by rw [hz]; exact Mx.step_lt s
  have HZ := Lib.hid (show IntKind.u64.wrap ((s : Int) + 11400714819323198485) = (z : Int) by rw [IntKind.wrap_u64, hz]; unfold Mx.step; omega)
  have hst : ∀ v, (w.setCell ⟨g, 0, none⟩ v).cell? ⟨g, 0, none⟩ = some v := fun v => (hK.set 0 v).cell 0
  rw [← hz]
  clear hz
  go_enter Try.func14, Try.ntmps14
  go_wp2_with fail
  rw [HZ.out]
  go_wp2_with fail
  refine (stirred_any z _ h1).mono ?_
  rintro e w' ⟨rfl, rfl⟩
  go_wp2_with fail
  go_ret
  exact ⟨rfl, rfl⟩

end Go.Proofs.Ytobhlfkmdhoncaa
