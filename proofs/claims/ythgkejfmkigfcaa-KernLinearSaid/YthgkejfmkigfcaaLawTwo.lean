/-
  The statements of layer 2 (kern), walked: what they share.
-/
import Derived.Test.YthgkejfmkigfcaaRefThree
set_option maxRecDepth 100000
namespace Go.Proofs.Ythgkejfmkigfcaa
open Go.RowKit

/-- The answer reads as these bytes; of what was there nothing has turned. -/
def BytesV (w : World) (l : List Nat) (e : Ending) (w' : World) : Prop := ∃ v, e = .returned v ∧ Bytes w' v l ∧ Below w.heap.size w w'
/-- The same, and an error's number. -/
def BytesE (w : World) (l : List Nat) (err : Int) (e : Ending) (w' : World) : Prop := ∃ v, e = .returned (.tuple #[v, I64 err]) ∧ Bytes w' v l ∧ Below w.heap.size w w'

theorem combL_lt {cs : List Nat} (hc : ∀ x, x ∈ cs → x < 256) (ll : List (List Nat)) : ∀ x, x ∈ combL cs ll → x < 256 := by
  rw [combL_eq]
  split
  · exact combT_lt hc ll _
  · simp
theorem combL_length (cs : List Nat) (ll : List (List Nat)) : (combL cs ll).length ≤ (rowAt ll 0).length := by
  rw [combL_eq]
  split
  · rw [combT_length]; exact Nat.le_refl _
  · simp
theorem sumL_lt {ll : List (List Nat)} (hl : ∀ k, k < ll.length → ∀ x, x ∈ rowAt ll k → x < 256) : ∀ x, x ∈ sumL ll → x < 256 := by
  unfold sumL
  split
  · exact sumK_lt hl _ (Nat.le_refl _)
  · simp
theorem sumL_length (ll : List (List Nat)) : (sumL ll).length ≤ (rowAt ll 0).length := by
  unfold sumL
  split
  · rename_i h; rw [sumK_length h.1 _ (Nat.le_refl _)]; exact Nat.le_refl _
  · simp
theorem axpyL_lt {c : Nat} {x y : List Nat} (hc : c < 256) (hy : ∀ z, z ∈ y → z < 256) : ∀ z, z ∈ axpyL c x y → z < 256 := by
  unfold axpyL
  split
  · exact Gf.add_lt (Gf.scale_lt hc x) hy
  · simp
theorem axpyL_length (c : Nat) (x y : List Nat) : (axpyL c x y).length ≤ x.length := by
  unfold axpyL
  split
  · rename_i h; rw [Gf.add_length _ _ (by rw [Gf.scale_length]; exact h), Gf.scale_length]; exact Nat.le_refl _
  · simp

theorem IsRows.all_lt {w : World} {v : Value} {ll : List (List Nat)} (h : IsRows w v ll) : ∀ k, k < ll.length → ∀ x, x ∈ rowAt ll k → x < 256 := by
  obtain ⟨a, cap, rfl, _, _, h4⟩ := h
  intro k hk
  obtain ⟨b, off, _, _, hc⟩ := h4 (by intro h; rw [h] at hk; simp at hk)
  obtain ⟨u, _, hB⟩ := hc k hk
  exact hB.lt

theorem scale_b (c : Nat) (v : Value) (l : List Nat) (w : World) (hc : c < 256) (hn : l.length ≤ 10000000) (hB : Bytes w v l) :
    Calls Try.prog 28 #[U8 c, v] w (BytesV w (Gf.scale c l)) :=
  (scale_any c v l w hc (by omega) hB).mono fun _ _ ⟨g, he, _, hO, hb⟩ => ⟨_, he, hO.bytes (Gf.scale_lt hc l) (by rw [Gf.scale_length]; omega), hb⟩
theorem refscale_b (c : Nat) (v : Value) (l : List Nat) (w : World) (hc : c < 256) (hn : l.length ≤ 10000000) (hB : Bytes w v l) :
    Calls Try.prog 29 #[U8 c, v] w (BytesV w (Gf.scale c l)) :=
  (refscale_any c v l w hc (by omega) hB).mono fun _ _ ⟨v, he, hO, hb⟩ => ⟨v, he, hO.bytes (Gf.scale_lt hc l), hb⟩
theorem comb_b (v0 v : Value) (cs : List Nat) (ll : List (List Nat)) (w : World) (hm : (rowAt ll 0).length ≤ 10000000) (hC : Bytes w v0 cs) (hR : IsRows w v ll) :
    Calls Try.prog 24 #[v0, v] w (BytesE w (combL cs ll) (combE cs ll)) :=
  (comb_any v0 v cs ll w (by omega) hC hR).mono fun _ _ ⟨v, he, hF, hb⟩ => ⟨v, he, hF.bytes (combL_lt hC.lt ll) (by have := combL_length cs ll; omega), hb⟩
theorem refcomb_b (v0 v : Value) (cs : List Nat) (ll : List (List Nat)) (w : World) (hm : (rowAt ll 0).length ≤ 10000000) (hC : Bytes w v0 cs) (hR : IsRows w v ll) :
    Calls Try.prog 25 #[v0, v] w (BytesE w (combL cs ll) (combE cs ll)) :=
  (refcomb_any v0 v cs ll w (by omega) hC hR).mono fun _ _ ⟨v, he, hO, hb⟩ => ⟨v, he, hO.bytes (combL_lt hC.lt ll), hb⟩
theorem sum_b (v : Value) (ll : List (List Nat)) (w : World) (hm : (rowAt ll 0).length ≤ 10000000) (hR : IsRows w v ll) :
    Calls Try.prog 26 #[v] w (BytesE w (sumL ll) (sumE ll)) :=
  (sum_any v ll w (by omega) hR).mono fun _ _ ⟨v, he, hF, hb⟩ => ⟨v, he, hF.bytes (sumL_lt hR.all_lt) (by have := sumL_length ll; omega), hb⟩
theorem axpy_b (c : Nat) (v0 v1 : Value) (x y : List Nat) (w : World) (hc : c < 256) (hn : x.length ≤ 10000000) (hx : Bytes w v0 x) (hy : Bytes w v1 y) :
    Calls Try.prog 32 #[U8 c, v0, v1] w (BytesE w (axpyL c x y) (axpyE x y)) :=
  (axpy_any c v0 v1 x y w hc (by omega) hx hy).mono fun _ _ ⟨v, he, hF, hb⟩ => ⟨v, he, hF.bytes (axpyL_lt hc hy.lt) (by have := axpyL_length c x y; omega), hb⟩

/-- Two slices that read as the same are the same. -/
theorem same_yes (v0 v1 : Value) (x : List Nat) (w : World) (hx : Bytes w v0 x) (hy : Bytes w v1 x) :
    Calls Try.prog 27 #[v0, v1] w fun e w' => e = .returned (.bool true) ∧ Below w.heap.size w w' := by
  have h := same_any v0 v1 x x w hx hy
  rw [show decide (x = x) = true from decide_eq_true rfl] at h
  exact h

theorem bytes_new2 (w : World) (x y : Int) (a b : Nat) (T : TypeId) (k : Nat) (hk : k = w.heap.size) (hx : x = a) (hy : y = b) (ha : a < 256) (hb : b < 256) :
    Bytes (w.alloc (.cells #[.int .u8 x, .int .u8 y] T)) (.slice (some ⟨k, 0, none⟩) 2 2) [a, b] := by
  subst hk; subst hx; subst hy
  exact bytes_new w [a, b] T (by simp [ha, hb]) (by simp)

set_option maxHeartbeats 400000 in
theorem awake2_any (w : World) :
    Calls Try.prog 22 #[] w fun e w' => e = .returned (.bool true) ∧ Below w.heap.size w w' := by
  have HL : Hid (axpyL 2 [1, 128] [0, 1] = [2, 28]) := Lib.hid (by decide +kernel)
  have HE : Hid (axpyE [1, 128] [0, 1] = 0) := Lib.hid (by decide)
  go_enter Try.func22, Try.ntmps22
  go_wp2_with fail
  have h1 := bytes_new2 w 1 128 1 128 5 _ rfl rfl rfl (by omega) (by omega)
  have h2 := bytes_new2 (w.alloc (.cells #[.int .u8 1, .int .u8 128] 5)) 0 1 0 1 5 (w.heap.size + 1) (by simp) rfl rfl (by omega) (by omega)
  have h3 := h1.below (B := (w.alloc (.cells #[.int .u8 1, .int .u8 128] 5)).heap.size) (Nat.le_refl _) ((Below.refl _ _).alloc (Nat.le_refl _) (.cells #[.int .u8 0, .int .u8 1] 5))
  have hb0 : Below w.heap.size w ((w.alloc (.cells #[.int .u8 1, .int .u8 128] 5)).alloc (.cells #[.int .u8 0, .int .u8 1] 5)) := ((Below.refl _ _).alloc (Nat.le_refl _) _).alloc (by simp) _
  refine (axpy_b 2 _ _ _ _ _ (by omega) (by simp) h3 h2).mono ?_
  rintro e w1 ⟨v, rfl, hv, hb1⟩
  rw [HL.out] at hv
  rw [HE.out]
  have HV := Lib.hid hv
  have hb2 : Below w.heap.size w w1 := hb0.trans (hb1.mono (by simp; omega))
  clear h1 h2 h3 hb0 hb1 hv
  go_wp2_with fail
  refine (same_yes _ _ _ _ (HV.out.below (Nat.le_refl _) ((Below.refl _ _).alloc (Nat.le_refl _) _)) (bytes_new2 w1 2 28 2 28 _ _ rfl rfl rfl (by omega) (by omega))).mono ?_
  rintro e w2 ⟨rfl, hb3⟩
  go_wp2_with fail
  go_ret
  exact ⟨rfl, (hb2.alloc hb2.size _).trans (hb3.mono (by have := hb2.size; simp; omega))⟩

/-- Are rows gone through here? -/
def fewB (ll : List (List Nat)) : Bool := ll.all (fun r => decide (r.length ≤ 100)) && decide (ll.length ≤ 40)

set_option maxHeartbeats 400000 in
theorem few_empty (a : Option Addr) (cap : Nat) (w : World) :
    Calls Try.prog 23 #[.slice a 0 cap] w fun e w' => e = .returned (.bool true) ∧ w = w' := by
  go_enter Try.func23, Try.ntmps23
  go_wp2
  refine wp_loop_rounds 1 ?_
  rw [rounds_succ]
  go_wp2
  go_ret
  exact ⟨rfl, rfl⟩

set_option maxHeartbeats 400000 in
theorem few_some (b off cap : Nat) (ll : List (List Nat)) (w : World) (hR : IsRows w (.slice (some ⟨b, off, none⟩) ll.length cap) ll) :
    Calls Try.prog 23 #[.slice (some ⟨b, off, none⟩) ll.length cap] w fun e w' => e = .returned (.bool (fewB ll)) ∧ w = w' := by
  have hcap : ll.length ≤ 9223372036854775807 := by obtain ⟨_, _, _, h1, h2, _⟩ := hR; omega
  obtain ⟨t, ht⟩ : ∃ t, t = fewB ll := ⟨_, rfl⟩
  rw [← ht]
  have HT := Lib.hid ht
  have HR := Lib.hid hR
  clear hR ht
  go_enter Try.func23, Try.ntmps23
  go_wp2
  go_loop [4, 7] (fun _ i => ∃ k : Nat, k ≤ ll.length ∧ i = .int .i64 k ∧ ∀ j, j < k → (rowAt ll j).length ≤ 100) (fun _ i => ll.length - (intOf i).toNat)
  case atStart => exact ⟨0, by omega, rfl, fun j hj => by omega⟩
  case round =>
    obtain ⟨k, hk, rfl, hno⟩ := hrel
    have HN := Lib.hid hno
    clear hno
    by_cases hlt : k < ll.length
    · obtain ⟨u, hu, hB⟩ := HR.out.cell k hlt
      obtain ⟨a1, c1, rfl, _⟩ := hB
      by_cases hq : (rowAt ll k).length ≤ 100
      · go_wp2_with fail
        go_round
        case rel => exact ⟨k + 1, by omega, by go_num, fun j hj => by
          by_cases h : j = k
          · rw [h]; exact hq
          · exact HN.out j (by omega)⟩
        case measure => simp [intOf]; omega
      · have HF : Hid (t = false) := Lib.hid (by
          rw [HT.out]
          unfold fewB
          rw [Bool.and_eq_false_iff]; left
          rw [List.all_eq_false]
          exact ⟨rowAt ll k, by rw [rowAt_eq ll k hlt]; exact List.getElem_mem _, by simpa using hq⟩)
        have hq' : 100 < (rowAt ll k).length := by omega
        go_wp2_with fail
        go_ret
        exact ⟨by rw [HF.out]; rfl, rfl⟩
    · have HF : Hid (t = decide ((ll.length : Int) ≤ 40)) := Lib.hid (by
        rw [HT.out]
        unfold fewB
        rw [show (ll.all fun r => decide (r.length ≤ 100)) = true from by
          rw [List.all_eq_true]
          intro r hr
          obtain ⟨i, hi, rfl⟩ := List.getElem_of_mem hr
          have := HN.out i (by omega)
          rw [rowAt_eq ll i hi] at this
          simpa using this]
        rw [Bool.true_and]
        exact decide_eq_decide.2 ⟨fun h => by omega, fun h => by omega⟩)
      go_wp2_with fail
      go_ret
      exact ⟨by rw [HF.out]; rfl, rfl⟩

theorem few_any (v : Value) (ll : List (List Nat)) (w : World) (hR : IsRows w v ll) :
    Calls Try.prog 23 #[v] w fun e w' => e = .returned (.bool (fewB ll)) ∧ w = w' := by
  have hR0 := hR
  obtain ⟨a, cap, rfl, h1, h2, h4⟩ := hR
  cases ll with
  | nil => exact few_empty a cap w
  | cons x ll =>
    obtain ⟨b, off, rfl, _, _⟩ := h4 (by simp)
    exact few_some b off cap _ w hR0

end Go.Proofs.Ythgkejfmkigfcaa
