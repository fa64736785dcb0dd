/-
  The laws of bytes out of a seed (layer 5): the example, a nil generator.
-/
import Derived.Test.YtobhlfkmdhoncaaMixC
set_option maxRecDepth 100000
namespace Go.Proofs.Ytobhlfkmdhoncaa
open Go.RowKit

/-- A call that answers true and turns nothing of what was there. -/
def Yea (w : World) (e : Ending) (w' : World) : Prop := e = .returned (.bool true) ∧ Below w.heap.size w w'

theorem mixed_first : Mx.mixed (Mx.step 0) = 16294208416658607535 := by decide +kernel
theorem bytesL_first : Mx.bytesL 0 1 = [175] := by decide +kernel

/-- What a step of a generator leaves, as it is carried on. -/
theorem mixnext_any (g s : Nat) (w : World) (hK : Blk w g #[U64 s] 69) :
    Calls Try.prog 14 #[ptr g] w fun e w' => e = .returned (U64 (Mx.mixed (Mx.step s))) ∧ Blk w' g #[U64 (Mx.step s)] 69 ∧ w.grownBy w' (some g) := by
  refine (mixnext_some g s w hK).mono ?_
  rintro e w' ⟨rfl, rfl⟩
  exact ⟨rfl, hK.set 0 _, grown_setCell w ⟨g, 0, none⟩ _⟩
theorem mixmake_any (s : Nat) (w : World) :
    Calls Try.prog 12 #[U64 s] w fun e w' => (e = .returned (ptr w.heap.size) ∧ Blk w' w.heap.size #[U64 s] 69) ∧ Below w.heap.size w w' := by
  refine (mixnew_any s w).mono ?_
  rintro e w' ⟨rfl, rfl⟩
  exact ⟨⟨rfl, (blocks1 w _ _).2.1⟩, (blocks1 w _ _).1⟩
theorem mixclone_any (g s : Nat) (w : World) (hK : Blk w g #[U64 s] 69) :
    Calls Try.prog 13 #[ptr g] w fun e w' => (e = .returned (ptr w.heap.size) ∧ Blk w' w.heap.size #[U64 s] 69) ∧ Below w.heap.size w w' := by
  refine (mixclone_some g s w hK).mono ?_
  rintro e w' ⟨rfl, rfl⟩
  exact ⟨⟨rfl, (blocks1 w _ _).2.1⟩, (blocks1 w _ _).1⟩

theorem u64_no8 (s : Nat) : ∀ (i x : Nat), (#[U64 s] : Array Value)[i]? ≠ some (U8 x)
  | 0, _ => fun e => by simp at e
  | i + 1, _ => fun e => by simp at e

set_option maxHeartbeats 400000 in
theorem awake5_any (w : World) :
    Calls Try.prog 11 #[] w fun e w' => e = .returned (.bool true) ∧ Below w.heap.size w w' := by
  have B : Below w.heap.size w w := Below.refl _ _
  have HM := Lib.hid mixed_first
  have HL := Lib.hid bytesL_first
  go_enter Try.func11, Try.ntmps11
  go_wp2_with fail
  refine (mixmake_any 0 _).mono ?_
  rintro e w1 ⟨⟨rfl, hk⟩, hb⟩
  replace B := B.trans (hb.mono B.size)
  have hzw1 := B.size
  clear hb
  have HK := Lib.hid hk
  clear hk
  go_wp2_with fail
  refine (mixrow_ok 0 1 w1 (by decide)).mono ?_
  rintro e w2 ⟨g, rfl, ho, _, hb⟩
  rw [HL.out] at ho
  have HO := Lib.hid ho
  replace HK := Lib.hid (HK.out.go hb)
  have hB2 := B.trans (hb.mono B.size)
  clear hb ho
  go_wp2_with fail
  refine (mixnext_any w.heap.size 0 w2 HK.out).mono ?_
  rintro e w3 ⟨rfl, hk3, hg3⟩
  rw [HM.out]
  have hb3 := below_grown hB2 hg3 hB2.size (Nat.le_refl _)
  have hB := ((HO.out.bytes (l := [175]) (by decide) (by decide)).other HK.out (u64_no8 0) hg3).cell 0 (by decide)
  simp only [nth, List.getD_cons_zero] at hB
  clear hk3 hg3 HK B
  go_wp2_with fail
  go_ret
  exact ⟨rfl, hb3⟩

set_option maxHeartbeats 400000 in
theorem mixnone_any (w : World) : Calls Try.prog 6 #[] w (Yea w) := by
  go_enter Try.func6, Try.ntmps6
  go_wp2_with fail
  refine (mixbytes_none 3 _).mono ?_
  rintro e w' ⟨rfl, rfl⟩
  go_wp2_with fail
  refine (awake5_any _).mono ?_
  rintro e w1 ⟨rfl, hb⟩
  go_wp2_with fail
  refine (mixnext_none _).mono ?_
  rintro e w' ⟨rfl, rfl⟩
  go_wp2_with fail
  refine (mixclone_none _).mono ?_
  rintro e w' ⟨rfl, rfl⟩
  go_wp2_with fail
  go_ret
  exact ⟨rfl, hb⟩

end Go.Proofs.Ytobhlfkmdhoncaa
