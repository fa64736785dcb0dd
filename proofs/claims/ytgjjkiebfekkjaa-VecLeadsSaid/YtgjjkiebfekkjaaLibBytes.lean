/-
  The library's Clone and Equal, of bytes.
-/
import Derived.Test.YtgjjkiebfekkjaaBlk
import Derived.Test.YtgjjkiebfekkjaaGrowS
import Derived.Test.YtgjjkiebfekkjaaLawTwo
import Derived.Laws.BytesArg
import Derived.Lib.SliceRun
set_option maxRecDepth 100000
namespace Go.Proofs.Ytgjjkiebfekkjaa
open Go.RowKit

/-- The bytes as a string's. -/
def strOf (l : List Nat) : ByteArray := strOfNums (l.map Int.ofNat)

theorem strOf_inj {x y : List Nat} (hx : ∀ z, z ∈ x → z < 256) (hy : ∀ z, z ∈ y → z < 256) (h : strOf x = strOf y) : x = y := by
  have e : ∀ l : List Nat, (∀ z, z ∈ l → z < 256) → (strOf l).data.toList.map UInt8.toNat = l := by
    intro l hl
    unfold strOf
    rw [strOfNums_data, List.map_map, List.map_map]
    conv => rhs; rw [← List.map_id l]
    refine List.map_congr_left fun z hz => ?_
    have := hl z hz
    simp [Nat.mod_eq_of_lt this]
  rw [← e x hx, ← e y hy, h]

theorem strOf_dec {x y : List Nat} (hx : ∀ z, z ∈ x → z < 256) (hy : ∀ z, z ∈ y → z < 256) : ((strOf x).toList == (strOf y).toList) = decide (x = y) := by
  rw [ByteArray.toList_eq, ByteArray.toList_eq]
  by_cases h : x = y
  · subst h; simp
  · rw [decide_eq_false h, beq_eq_false_iff_ne]
    refine fun e => h (strOf_inj hx hy ?_)
    cases hx' : strOf x; cases hy' : strOf y
    rw [hx', hy'] at e
    simpa using e

theorem convert_empty (w : World) (p : Option Addr) (c : Nat) : (convert 22 9 (.slice p 0 c)).run Try.prog w = .ok (.string ByteArray.empty) w := by
  rw [run_convert_bytes_string w 22 9 5 _ 0 c Try.underlying22 Try.underlying5 Try.underlying9]
  cases p <;> simp [Conv.bytesToString, loadCells]
  all_goals rfl

/-- 'string(b)'. -/
theorem convert_bytes {w : World} {v : Value} {l : List Nat} (h : Bytes w v l) : (convert 22 9 v).run Try.prog w = .ok (.string (strOf l)) w := by
  obtain ⟨a, cap, rfl, h1, h2, h3, h4⟩ := h
  cases l with
  | nil =>
    exact convert_empty w a cap
  | cons x l =>
    obtain ⟨b, off, rfl, hlt, hc⟩ := h4 (by simp)
    refine run_convert_bytes_arg (P := Try.prog) w 22 5 Try.underlying22 Try.underlying5 b off _ cap ((x :: l).map Int.ofNat) (by simp) (fun i hi => ?_) 9 Try.underlying9
    rw [hc i hi, nth_eq _ i hi]
    simp only [List.getD_eq_getElem?_getD, List.getElem?_map, List.getElem?_eq_getElem hi]
    rfl

set_option maxHeartbeats 400000 in
theorem equal_any (v0 v1 : Value) (x y : List Nat) (w : World) (h0 : Bytes w v0 x) (h1 : Bytes w v1 y) :
    Calls Try.prog 34 #[v0, v1] w fun e w' => e = .returned (.bool (decide (x = y))) ∧ w = w' := by
  have c0 := convert_bytes h0
  have c1 := convert_bytes h1
  have HD := Lib.hid (strOf_dec h0.lt h1.lt)
  obtain ⟨a0, k0, rfl, _⟩ := h0
  obtain ⟨a1, k1, rfl, _⟩ := h1
  go_enter Try.func34, Try.ntmps34
  go_wp2_with fail
  go_ret
  exact ⟨by rw [← HD.out]; rfl, rfl⟩

set_option maxHeartbeats 400000 in
theorem clone_nil (cap : Nat) (w : World) :
    Calls Try.prog 35 #[.slice none 0 cap] w (BytesV w []) := by
  have hq := Lib.run_eql_slice_nil (P := Try.prog) w 22 5 none 0 cap 0 0 Try.underlying22
  go_enter Try.func35, Try.ntmps35
  go_wp2_with fail
  go_ret
  exact ⟨_, rfl, ⟨none, 0, rfl, by simp, by simp, by simp, fun h => absurd rfl h⟩, Below.refl _ _⟩

set_option maxHeartbeats 400000 in
theorem clone_some (a : Addr) (cap : Nat) (l : List Nat) (w : World) (hm : l.length ≤ 1000000000) (hB : Bytes w (.slice (some a) l.length cap) l) :
    Calls Try.prog 35 #[.slice (some a) l.length cap] w (BytesV w l) := by
  have hq := Lib.run_eql_slice_nil (P := Try.prog) w 22 5 (some a) l.length cap 0 0 Try.underlying22
  have hbe : Below w.heap.size w (w.alloc (.cells #[] 5)) := (Below.refl _ _).alloc (Nat.le_refl _) _
  have HBE := Lib.hid (hB.go hbe)
  clear hB
  go_enter Try.func35, Try.ntmps35
  go_wp2_with (at_builtin; refine wpList_append_bytes rfl (.tmp 5) (.tmp 6) rfl w.heap.size _ _ [] l rfl rfl (Owns.empty w w.heap.size (Nat.le_refl _)) HBE.out ?c1 ?c2 ?_)
  case c1 => simp
  case c2 => simp; omega
  intro v3 w3 hown3 hgr3
  have hgr : w.grownBy w3 (some w.heap.size) := grown_trans (grown_of_below hbe _) hgr3
  have hbel : Below w.heap.size w w3 := (Below.refl _ _).grown hgr (Nat.le_refl _) (fun k e => by cases e; exact Nat.le_refl _)
  have HO3 := Lib.hid hown3
  have HB := Lib.hid HBE.out.lt
  obtain ⟨av, nv, cv, rfl⟩ := hown3.shape
  clear hown3 hgr3 hgr hbe HBE
  go_wp2_with fail
  go_ret
  exact ⟨_, rfl, HO3.out.bytes HB.out, hbel⟩

theorem clone_any (v : Value) (l : List Nat) (w : World) (hm : l.length ≤ 1000000000) (hB : Bytes w v l) :
    Calls Try.prog 35 #[v] w (BytesV w l) := by
  have hB0 := hB
  obtain ⟨a, cap, rfl, _, _, _, h4⟩ := hB
  cases a with
  | some a => exact clone_some a cap l w hm hB0
  | none =>
    cases l with
    | nil => exact clone_nil cap w
    | cons x l => obtain ⟨b, off, e, _⟩ := h4 (by simp); exact absurd e (by simp)

end Go.Proofs.Ytgjjkiebfekkjaa
