/-
  The laws of sums (layer 4): the example.
-/
import Derived.Test.YtgjjkiebfekkjaaDoorLawFourB
import Derived.Test.YtgjjkiebfekkjaaDoorMonoC
import Derived.Lib.SlBytesConst
set_option maxRecDepth 100000
namespace Go.Proofs.YtgjjkiebfekkjaaDoor
open Go.RowKit

theorem awake4_sum : Crc.sum [49, 50, 51, 52, 53, 54, 55, 56, 57] = 3421780262 := by decide +kernel

theorem rows_nil (w : World) : IsRows w (.slice none 0 0) [] := ⟨none, 0, rfl, by simp, by simp, fun h => absurd rfl h⟩

/-- A constant's bytes, in a marked block. -/
theorem bytes_marked (w : World) (l : List Nat) (E : TypeId) (fz : Nat × Nat) (hl : ∀ x, x ∈ l → x < 256) (hm : l.length ≤ 9223372036854775807) :
    Bytes (w.alloc (.cells (l.map U8).toArray E fz)) (.slice (some ⟨w.heap.size, 0, none⟩) l.length l.length) l := by
  refine ⟨_, l.length, rfl, Nat.le_refl _, hm, hl, fun _ => ⟨w.heap.size, 0, rfl, by show w.heap.size < (w.heap.push _).size; rw [Array.size_push]; omega, fun i hi => ?_⟩⟩
  rw [nth_eq l i hi]
  have e : (w.alloc (.cells (l.map U8).toArray E fz)).heap[w.heap.size]? = some (.cells (l.map U8).toArray E fz) := by
    show (w.heap.push _)[w.heap.size]? = _
    exact Array.getElem?_push_size
  unfold World.cell?
  simp only [e, Nat.zero_add]
  rw [List.getElem?_toArray, List.getElem?_map, List.getElem?_eq_getElem hi]
  rfl

theorem rows_one (w : World) (u : Value) (x : List Nat) (T : TypeId) (k : Nat) (hk : k = w.heap.size) (hx : Bytes w u x) : IsRows (w.alloc (.cells #[u] T)) (.slice (some ⟨k, 0, none⟩) 1 1) [x] := by
  subst hk
  refine ⟨_, 1, rfl, by simp, by omega, fun _ => ⟨w.heap.size, 0, rfl, by simp, fun i hi => ?_⟩⟩
  obtain rfl : i = 0 := by simpa using hi
  exact ⟨u, by rw [World.cell?_alloc_at _ _ _ _ rfl]; rfl, hx.go ((Below.refl _ _).alloc (Nat.le_refl _) _)⟩

set_option maxHeartbeats 400000 in
theorem awake4_any (w : World) (hT : Tab w) : Calls Tryd.prog 5 #[] w (Yes w) := by
  have HT := Lib.hid hT
  clear hT
  have kc := fun (w : World) (C : Array Value) (n c : Nat) => Lib.run_convert_bytes_const (P := Tryd.prog) w 24 5 C n c Tryd.underlying24 Tryd.underlying5
  have B : Below w.heap.size w w := Below.refl _ _
  go_enter Tryd.func5, Tryd.ntmps5
  go_wp2_with fail
  have hB1 : Bytes (w.alloc (.cells #[.int .u8 49, .int .u8 50, .int .u8 51, .int .u8 52, .int .u8 53, .int .u8 54, .int .u8 55, .int .u8 56, .int .u8 57] 5 (9, 10))) (.slice (some ⟨w.heap.size, 0, none⟩) 9 9) [49, 50, 51, 52, 53, 54, 55, 56, 57] := bytes_marked w [49, 50, 51, 52, 53, 54, 55, 56, 57] 5 (9, 10) (by decide) (by decide)
  have b1 : Below w.heap.size w (w.alloc (.cells #[.int .u8 49, .int .u8 50, .int .u8 51, .int .u8 52, .int .u8 53, .int .u8 54, .int .u8 55, .int .u8 56, .int .u8 57] 5 (9, 10))) := (Below.refl _ _).alloc (Nat.le_refl _) _
  have HR := Lib.hid (rows_one _ _ _ 24 (w.heap.size + 1) (by simp) hB1)
  have b2 := b1.trans (((Below.refl (w.alloc (.cells #[.int .u8 49, .int .u8 50, .int .u8 51, .int .u8 52, .int .u8 53, .int .u8 54, .int .u8 55, .int .u8 56, .int .u8 57] 5 (9, 10))).heap.size _).alloc (Nat.le_refl _) (.cells #[.slice (some ⟨w.heap.size, 0, none⟩) 9 9] 24)).mono b1.size)
  clear hB1 b1 B kc
  refine (of4_any _ _ _ (HT.out.go b2) HR.out).mono ?_
  rintro e w1 ⟨rfl, hb1⟩
  rw [show Crc.sum (flat [[49, 50, 51, 52, 53, 54, 55, 56, 57]]) = 3421780262 from awake4_sum]
  have B := b2.trans (hb1.mono b2.size)
  clear b2 hb1 HR
  go_wp2_with fail
  refine (of4_any _ _ _ (HT.out.go B) (rows_nil _)).mono ?_
  rintro e w2 ⟨rfl, hb⟩
  replace B := B.trans (hb.mono B.size)
  have hzw2 := B.size
  clear hb
  rw [show Crc.sum (flat []) = 0 from rfl]
  go_wp2_with fail
  go_ret
  exact ⟨rfl, B⟩

theorem sumBursts_walk (v : Value) (l : List Nat) (at' pattern cut : Nat) (w : World) (h : Bytes w v l) (hat : at' < 65536) (hpat : pattern < 4294967296) (hcut : cut < 65536) (hTab : Tab w) :
    Calls Tryd.prog 4 #[v, U16 at', U32 pattern, U16 cut] w (Yes w) := bursts_any awake4_any v l at' pattern cut w h hat hpat hcut hTab

end Go.Proofs.YtgjjkiebfekkjaaDoor
