/-
  Whether bytes came whole (layer 4) in the program: 'Of', 'Put', 'Get'.
-/
import Derived.Test.YtgjjkiebfekkjaaDoorSumA
set_option maxRecDepth 100000
namespace Go.Proofs.YtgjjkiebfekkjaaDoor
open Go.RowKit

set_option maxHeartbeats 400000 in
theorem with_empty (r cap : Nat) (a : Option Addr) (w : World) :
    Calls Tryd.prog 8 #[.agg #[U32 r], .slice a 0 cap] w fun e w' => e = .returned (.agg #[U32 r]) ∧ Below w.heap.size w w' := by
  go_enter Tryd.func8, Tryd.ntmps8
  go_wp2_with fail
  obtain ⟨B, hk1, hk2, hs⟩ := blocks2 w #[U32 r] 28 #[.int .u32 0] 28
  generalize ((w.alloc (.cells #[U32 r] 28)).alloc (.cells #[.int .u32 0] 28)) = W at *
  have K1 := Lib.hid hk1
  have K2 := Lib.hid hk2
  have HS := Lib.hid hs
  clear hs hk1 hk2
  have hzW := B.size
  refine wp_loop_rounds 1 ?_
  rw [rounds_succ]
  have h0 : W.cell? ⟨w.heap.size, 0, none⟩ = some (U32 r) := K1.out.cell 0
  have h1 : W.cell? ⟨w.heap.size + 1, 0, none⟩ = some (.int .u32 0) := K2.out.cell 0
  have hf1 := K2.out.free 0
  go_wp2_with fail
  have e0 : (W.setCell ⟨w.heap.size + 1, 0, none⟩ (U32 r)).cell? ⟨w.heap.size + 1, 0, none⟩ = some (U32 r) := (K2.out.set 0 (U32 r)).cell 0
  exact bodyPost_ret (v := .agg #[U32 r]) (by simp [results, Tryd.results8, go_sem, e0]) rfl ⟨rfl, B.setCell (by show w.heap.size ≤ w.heap.size + 1; omega) _⟩

theorem with_any (r : Nat) (v : Value) (ll : List (List Nat)) (w : World) (hT : Tab w) (hr : r < 4294967296) (hR : IsRows w v ll) :
    Calls Tryd.prog 8 #[.agg #[U32 r], v] w fun e w' => e = .returned (.agg #[U32 (Crc.reg r (flat ll))]) ∧ Below w.heap.size w w' := by
  have hR0 := hR
  obtain ⟨a, cap, rfl, h1, h2, h4⟩ := hR
  by_cases hne : ll = []
  · subst hne
    exact with_empty r cap a w
  · obtain ⟨b, off, rfl, _, _⟩ := h4 hne
    exact with_some r b off cap ll w hT hr hR0

theorem flat_lt {w : World} {v : Value} {ll : List (List Nat)} (h : IsRows w v ll) : ∀ x, x ∈ flat ll → x < 256 := by
  obtain ⟨a, cap, rfl, h1, h2, h4⟩ := h
  intro x hx
  unfold flat at hx
  obtain ⟨l, hl, hx⟩ := List.mem_flatten.1 hx
  obtain ⟨j, hj, rfl⟩ := List.getElem_of_mem hl
  obtain ⟨b, off, rfl, _, hc⟩ := h4 (by intro e; rw [e] at hj; simp at hj)
  obtain ⟨u, _, hB⟩ := hc j hj
  exact hB.lt x (by rw [rowAt_eq ll j hj]; exact hx)

set_option maxHeartbeats 400000 in
theorem of4_any (v : Value) (ll : List (List Nat)) (w : World) (hT : Tab w) (hR : IsRows w v ll) :
    Calls Tryd.prog 15 #[v] w fun e w' => e = .returned (U32 (Crc.sum (flat ll))) ∧ Below w.heap.size w w' := by
  have HT := Lib.hid hT
  have HR := Lib.hid hR
  have HL := Lib.hid (Crc.reg_lt (r := 4294967295) (by decide) (flat_lt hR))
  obtain ⟨a, cap, rfl, _⟩ := hR
  clear hT
  have B : Below w.heap.size w w := Below.refl _ _
  go_enter Tryd.func15, Tryd.ntmps15
  go_wp2_with fail
  refine (start_any _).mono ?_
  rintro e w1 ⟨rfl, hb⟩
  replace HT := Lib.hid (HT.out.go hb)
  replace HR := Lib.hid (HR.out.go hb)
  replace B := B.trans (hb.mono B.size)
  have hzw1 := B.size
  clear hb
  go_wp2_with fail
  refine (with_any 4294967295 _ _ _ HT.out (by decide) HR.out).mono ?_
  rintro e w2 ⟨rfl, hb⟩
  replace B := B.trans (hb.mono B.size)
  have hzw2 := B.size
  clear hb
  go_wp2_with fail
  refine (rsum_any _ _ HL.out).mono ?_
  rintro e w3 ⟨rfl, hb⟩
  replace B := B.trans (hb.mono B.size)
  have hzw3 := B.size
  clear hb
  go_wp2_with fail
  go_ret
  exact ⟨rfl, B⟩

/-- Four bytes' number, so far. -/
def getK (l : List Nat) : Nat → Nat
  | 0 => 0
  | k + 1 => getK l k ||| nth l k * 2 ^ (8 * k)
theorem getK_lt {l : List Nat} (h : ∀ x, x ∈ l → x < 256) : ∀ k, getK l k < 2 ^ (8 * k)
  | 0 => by simp [getK]
  | k + 1 => by
    unfold getK
    refine Nat.or_lt_two_pow ?_ ?_
    · exact Nat.lt_of_lt_of_le (getK_lt h k) (Nat.pow_le_pow_right (by decide) (by omega))
    · have := nth_lt h k
      rw [show 8 * (k + 1) = 8 + 8 * k from by omega, Nat.pow_add]
      exact Nat.mul_lt_mul_of_pos_right this (Nat.two_pow_pos _)

theorem getK_add {l : List Nat} (h : ∀ x, x ∈ l → x < 256) (k : Nat) : getK l (k + 1) = getK l k + nth l k * 2 ^ (8 * k) := by
  show getK l k ||| nth l k * 2 ^ (8 * k) = _
  rw [Nat.or_comm, Nat.mul_comm, Nat.two_pow_add_eq_or_of_lt (getK_lt h k) (nth l k) |>.symm, Nat.add_comm]

/-- Four bytes' number. -/
def get4 (l : List Nat) : Nat := nth l 0 + nth l 1 * 256 + nth l 2 * 65536 + nth l 3 * 16777216
theorem getK_four {l : List Nat} (h : ∀ x, x ∈ l → x < 256) : getK l 4 = get4 l := by
  rw [getK_add h, getK_add h, getK_add h, getK_add h]
  simp [getK, get4]

theorem getK_small {l : List Nat} (h : ∀ x, x ∈ l → x < 256) {k : Nat} (hk : k < 4) : nth l k * 2 ^ (8 * k) < 4294967296 := by
  have h1 : nth l k * 2 ^ (8 * k) < 256 * 2 ^ (8 * k) := Nat.mul_lt_mul_of_pos_right (nth_lt h k) (Nat.two_pow_pos _)
  have h2 : 256 * 2 ^ (8 * k) ≤ 4294967296 := by
    rw [show (256 : Nat) = 2 ^ 8 from rfl, ← Nat.pow_add, show (4294967296 : Nat) = 2 ^ 32 from rfl]
    exact Nat.pow_le_pow_right (by decide) (by omega)
  omega
theorem getK_step {l : List Nat} (h : ∀ x, x ∈ l → x < 256) {k : Nat} (hk : k < 4) : Go.bits BinOp.or IntKind.u32 (getK l k : Int) ((nth l k : Int) * 2 ^ (8 * k) % 4294967296) = (getK l (k + 1) : Int) := by
  have h8 := getK_small h hk
  have hgk : getK l k < 4294967296 := Nat.lt_of_lt_of_le (getK_lt h k) (by
    rw [show (4294967296 : Nat) = 2 ^ 32 from rfl]; exact Nat.pow_le_pow_right (by decide) (by omega))
  have e1 : ((nth l k : Int) * 2 ^ (8 * k)) = ((nth l k * 2 ^ (8 * k) : Nat) : Int) := by simp
  rw [e1, Int.emod_eq_of_lt (Int.natCast_nonneg _) (by omega), u32_or_nat _ _ hgk h8]
  rfl

set_option maxHeartbeats 400000 in
theorem get_unlike (a : Option Addr) (n cap : Nat) (w : World) (hn : n ≠ 4) :
    Calls Tryd.prog 11 #[.slice a n cap] w fun e w' => e = .returned (.tuple #[U32 0, .int .i64 4]) ∧ w = w' := by
  have hb : ((n : Int) != 4) = true := by rw [bne_iff_ne]; omega
  clear hn
  go_enter Tryd.func11, Tryd.ntmps11
  go_wp2_with fail
  go_ret2
  exact ⟨rfl, rfl⟩

set_option maxHeartbeats 400000 in
theorem get_four (b off cap : Nat) (l : List Nat) (w : World) (hl : l.length = 4) (hB : Bytes w (.slice (some ⟨b, off, none⟩) 4 cap) l) :
    Calls Tryd.prog 11 #[.slice (some ⟨b, off, none⟩) 4 cap] w fun e w' => e = .returned (.tuple #[U32 (get4 l), .int .i64 0]) ∧ w = w' := by
  have HB := Lib.hid hB
  have HL := Lib.hid hl
  have HG := Lib.hid (getK_four hB.lt)
  clear hB hl
  go_enter Tryd.func11, Tryd.ntmps11
  go_wp2_with fail
  go_loop [4, 5, 6, 12] (fun x _ _ i => ∃ k : Nat, k ≤ 4 ∧ i = .int .i64 k ∧ x = U32 (getK l k)) (fun _ _ _ i => 4 - (intOf i).toNat)
  case atStart => exact ⟨0, by omega, rfl, rfl⟩
  case round =>
    obtain ⟨k, hk, rfl, rfl⟩ := hrel
    by_cases hlt : k < 4
    · have hcell := HB.out.cell k (by rw [HL.out]; exact hlt)
      have hx := nth_lt HB.out.lt k
      have HS := Lib.hid (getK_step HB.out.lt hlt)
      go_wp2_with fail
      exact ⟨⟨k + 1, by omega, by go_num, by rw [HS.out]⟩, by simp [intOf]; omega⟩
    · obtain rfl : k = 4 := by omega
      go_wp2_with fail
      go_ret2
      exact ⟨by rw [HG.out]; rfl, rfl⟩

/-- The first k of four bytes are written. -/
def putK (n k : Nat) : List Nat := (put4 n).take k ++ List.replicate (4 - k) 0
theorem putK_set (n k : Nat) (hk : k < 4) : (putK n k).set k (n / 2 ^ (8 * k) % 256) = putK n (k + 1) := by
  match k, hk with
  | 0, _ => simp [putK, put4]
  | 1, _ => simp [putK, put4]
  | 2, _ => simp [putK, put4]
  | 3, _ => simp [putK, put4]
theorem putK_length (n k : Nat) (hk : k ≤ 4) : (putK n k).length = 4 := by simp [putK, put4]; omega
set_option maxHeartbeats 400000 in
theorem put_any (n : Nat) (w : World) :
    Calls Tryd.prog 12 #[U32 n] w fun e w' => ∃ v, e = .returned v ∧ Bytes w' v (put4 n) ∧ Below w.heap.size w w' := by
  have hmk : ∀ w : World, (Instr.makeSlice 24 (.int .i64 4) (.int .i64 4)).run Tryd.prog w = .ok (whole w.heap.size 4) (w.alloc (bytesObj (List.replicate 4 0))) := fun w => make_bytes 4 (by omega) w
  go_enter Tryd.func12, Tryd.ntmps12
  go_wp2_with fail
  clear hmk
  go_loopw [4, 8] (fun _ i wr => ∃ k : Nat, k ≤ 4 ∧ i = .int .i64 k ∧ Own wr w.heap.size (putK n k) ∧ Below w.heap.size w wr) (fun _ i _ => 4 - (intOf i).toNat)
  case atStart => exact ⟨0, by omega, rfl, Own.new w (List.replicate 4 0), (Below.refl _ _).alloc (Nat.le_refl _) _⟩
  case round =>
    obtain ⟨k, hk, rfl, hown, hbel⟩ := hrel
    have HO := Lib.hid hown
    by_cases hlt : k < 4
    · have hcell := hown.cell k (by rw [putK_length n k hk]; exact hlt)
      have hfr := hown.free k
      clear hown
      have HV := Lib.hid (show Value.int .u8 ((n : Int) / 2 ^ (8 * k) % 256) = U8 (n / 2 ^ (8 * k) % 256) from by simp)
      go_wp2_with fail
      rw [HV.out]
      have h := HO.out.set k (n / 2 ^ (8 * k) % 256)
      rw [putK_set n k hlt] at h
      exact ⟨⟨k + 1, by omega, by go_num, h, hbel.setCell (Nat.le_refl _) _⟩, by simp [intOf]; omega⟩
    · obtain rfl : k = 4 := by omega
      clear hown
      go_wp2_with fail
      go_ret
      exact ⟨_, rfl, HO.out.bytes (put4_lt n) (by show (4 : Nat) ≤ _; omega), hbel⟩

theorem get4_put4 (n : Nat) (hn : n < 4294967296) : get4 (put4 n) = n := by
  simp [get4, put4, nth]
  omega
theorem put4_get4 {l : List Nat} (hl : l.length = 4) (h : ∀ x, x ∈ l → x < 256) : put4 (get4 l) = l := by
  match l, hl with
  | [a, b, c, d], _ =>
    have ha := h a (by simp)
    have hb := h b (by simp)
    have hc := h c (by simp)
    have hd := h d (by simp)
    simp [get4, put4, nth]
    omega

/-- What Get answers. -/
def getV (l : List Nat) : Nat := if l.length = 4 then get4 l else 0
def getE (l : List Nat) : Int := if l.length = 4 then 0 else 4
theorem get_any (v : Value) (l : List Nat) (w : World) (hB : Bytes w v l) :
    Calls Tryd.prog 11 #[v] w fun e w' => e = .returned (.tuple #[U32 (getV l), .int .i64 (getE l)]) ∧ w = w' := by
  have hB0 := hB
  obtain ⟨a, cap, rfl, _, _, _, h4⟩ := hB
  unfold getV getE
  by_cases hl : l.length = 4
  · rw [if_pos hl, if_pos hl]
    obtain ⟨b, off, rfl, _, _⟩ := h4 (by intro e; rw [e] at hl; simp at hl)
    rw [hl] at hB0 ⊢
    exact get_four b off cap l w hl hB0
  · rw [if_neg hl, if_neg hl]
    exact get_unlike a _ cap w hl
theorem getV_lt {l : List Nat} (h : ∀ x, x ∈ l → x < 256) : getV l < 4294967296 := by
  unfold getV
  split
  · have := nth_lt h 0
    have := nth_lt h 1
    have := nth_lt h 2
    have := nth_lt h 3
    unfold get4; omega
  · decide

end Go.Proofs.YtgjjkiebfekkjaaDoor
