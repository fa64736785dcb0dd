/-
  Rows with a beginning (layer 3) in the program: 'Lead', 'At', 'Zero', 'Unit'.
-/
import Derived.Test.YtgjjkiebfekkjaaRefRow
import Derived.Test.YtgjjkiebfekkjaaLibBytes
set_option maxRecDepth 100000
namespace Go.Proofs.Ytgjjkiebfekkjaa
open Go.RowKit

theorem IsRow.go {w w' : World} {u : Value} {p q : List Nat} (h : IsRow w u p q) (hb : Below w.heap.size w w') : IsRow w' u p q := h.below (Nat.le_refl _) hb

set_option maxHeartbeats 400000 in
theorem lead1_any (x : Nat) (w : World) :
    Calls Try.prog 25 #[U8 x] w fun e w' => e = .returned (.bool ((x : Int) != 0)) ∧ w = w' := by
  go_enter Try.func25, Try.ntmps25
  go_wp2_with fail
  go_ret
  exact ⟨rfl, rfl⟩

set_option maxHeartbeats 400000 in
theorem idxLead_empty (f : Value) (a : Option Addr) (cap : Nat) (w : World) :
    Calls Try.prog 24 #[.slice a 0 cap, f] w fun e w' => e = .returned (.int .i64 (leadI [])) ∧ w = w' := by
  go_enter Try.func24, Try.ntmps24
  go_wp2
  refine wp_loop_rounds 1 ?_
  rw [rounds_succ]
  go_wp2
  go_ret
  exact ⟨rfl, rfl⟩

set_option maxHeartbeats 400000 in
theorem idxLead_some (b off cap : Nat) (l : List Nat) (w : World) (hB : Bytes w (.slice (some ⟨b, off, none⟩) l.length cap) l) :
    Calls Try.prog 24 #[.slice (some ⟨b, off, none⟩) l.length cap, .func (Fn.func 25) #[] #[]] w fun e w' => e = .returned (.int .i64 (leadI l)) ∧ w = w' := by
  have hcap : l.length ≤ 9223372036854775807 := by obtain ⟨_, _, _, h1, h2, _⟩ := hB; omega
  obtain ⟨t, ht⟩ : ∃ t, t = leadI l := ⟨_, rfl⟩
  rw [← ht]
  have HT := Lib.hid ht
  have HB := Lib.hid hB
  clear hB ht
  go_enter Try.func24, Try.ntmps24
  go_wp2
  go_loop [5, 8] (fun _ i => ∃ k : Nat, k ≤ l.length ∧ i = .int .i64 k ∧ ∀ j, j < k → nth l j = 0) (fun _ i => l.length - (intOf i).toNat)
  case atStart => exact ⟨0, by omega, rfl, fun j hj => by omega⟩
  case round =>
    obtain ⟨k, hk, rfl, hno⟩ := hrel
    have HN := Lib.hid hno
    clear hno
    by_cases hlt : k < l.length
    · have hu := HB.out.cell k hlt
      by_cases hq : nth l k = 0
      · have hb : ((nth l k : Int) != 0) = false := by rw [hq]; rfl
        have HQ := Lib.hid hq
        clear hq
        go_wp2_with fail
        refine (lead1_any _ _).mono ?_
        rintro e w' ⟨rfl, rfl⟩
        rw [hb]
        go_wp2_with fail
        go_round
        case rel => exact ⟨k + 1, by omega, by go_num, fun j hj => by
          by_cases h : j = k
          · rw [h]; exact HQ.out
          · exact HN.out j (by omega)⟩
        case measure => simp [intOf]; omega
      · have hb : ((nth l k : Int) != 0) = true := by rw [bne_iff_ne]; omega
        have HF : Hid (t = (k : Int)) := Lib.hid (by rw [HT.out]; unfold leadI; rw [lead_eq HN.out hlt hq, if_pos hlt])
        clear hq
        go_wp2_with fail
        refine (lead1_any _ _).mono ?_
        rintro e w' ⟨rfl, rfl⟩
        rw [hb]
        go_wp2_with fail
        go_ret
        exact ⟨by rw [HF.out]; rfl, rfl⟩
    · have HF : Hid (t = -1) := Lib.hid (by
        rw [HT.out]; unfold leadI
        rw [lead_none (fun j hj => HN.out j (by omega)), if_neg (by omega)])
      go_wp2_with fail
      go_ret
      exact ⟨by rw [HF.out]; rfl, rfl⟩

theorem idxLead_any (v : Value) (l : List Nat) (w : World) (hB : Bytes w v l) :
    Calls Try.prog 24 #[v, .func (Fn.func 25) #[] #[]] w fun e w' => e = .returned (.int .i64 (leadI l)) ∧ w = w' := by
  have hB0 := hB
  obtain ⟨a, cap, rfl, _, _, _, h4⟩ := hB
  cases l with
  | nil => exact idxLead_empty _ a cap w
  | cons x l =>
    obtain ⟨b, off, rfl, _, _⟩ := h4 (by simp)
    exact idxLead_some b off cap _ w hB0

set_option maxHeartbeats 400000 in
theorem lead_any (v : Value) (l : List Nat) (w : World) (hB : Bytes w v l) :
    Calls Try.prog 7 #[v] w fun e w' => e = .returned (.int .i64 (leadI l)) ∧ w = w' := by
  have hmf : ∀ (fn : Fn) (first cap : Array Value) (w : World), (Instr.makeFunc fn first cap).run Try.prog w = .ok (.func fn first cap) w := fun _ _ _ _ => rfl
  have H := Lib.hid (idxLead_any v l w hB)
  clear hB
  go_enter Try.func7, Try.ntmps7
  go_wp2_with fail
  refine (H.out).mono ?_
  rintro e w' ⟨rfl, rfl⟩
  go_wp2_with fail
  go_ret
  exact ⟨rfl, rfl⟩

set_option maxHeartbeats 400000 in
theorem vzero_any (v : Value) (l : List Nat) (w : World) (hB : Bytes w v l) :
    Calls Try.prog 9 #[v] w fun e w' => e = .returned (.bool (zeroB l)) ∧ w = w' := by
  have H := Lib.hid (zero_any v l w hB)
  clear hB
  go_enter Try.func9, Try.ntmps9
  go_wp2_with fail
  refine (H.out).mono ?_
  rintro e w' ⟨rfl, rfl⟩
  go_wp2_with fail
  go_ret
  exact ⟨rfl, rfl⟩

/-- The byte at a place, and 0 where there is none. -/
def atI (l : List Nat) (i : Int) : Nat := if 0 ≤ i ∧ i < l.length then nth l i.toNat else 0
theorem atI_lt {l : List Nat} (h : ∀ x, x ∈ l → x < 256) (i : Int) : atI l i < 256 := by
  unfold atI; split
  · exact nth_lt h _
  · decide

set_option maxHeartbeats 400000 in
theorem at_out (a : Option Addr) (n cap : Nat) (i : Int) (w : World) (h : i < 0 ∨ (0 ≤ i ∧ (n : Int) ≤ i)) :
    Calls Try.prog 10 #[.slice a n cap, .int .i64 i] w fun e w' => e = .returned (.int .u8 0) ∧ w = w' := by
  rcases h with h | ⟨h0, h⟩
  · go_enter Try.func10, Try.ntmps10
    go_wp2_with fail
    go_ret
    exact ⟨rfl, rfl⟩
  · go_enter Try.func10, Try.ntmps10
    go_wp2_with fail
    go_ret
    exact ⟨rfl, rfl⟩

set_option maxHeartbeats 400000 in
theorem at_in (b off n cap : Nat) (l : List Nat) (k : Nat) (w : World) (hk : k < n) (hu : w.cell? ⟨b, off + k, none⟩ = some (U8 (nth l k))) :
    Calls Try.prog 10 #[.slice (some ⟨b, off, none⟩) n cap, .int .i64 k] w fun e w' => e = .returned (U8 (nth l k)) ∧ w = w' := by
  go_enter Try.func10, Try.ntmps10
  go_wp2_with fail
  go_ret
  exact ⟨rfl, rfl⟩

theorem at_any (v : Value) (l : List Nat) (i : Int) (w : World) (hB : Bytes w v l) :
    Calls Try.prog 10 #[v, .int .i64 i] w fun e w' => e = .returned (U8 (atI l i)) ∧ w = w' := by
  have hB0 := hB
  obtain ⟨a, cap, rfl, h1, h2, _, h4⟩ := hB
  unfold atI
  by_cases h : 0 ≤ i ∧ i < l.length
  · rw [if_pos h]
    obtain ⟨k, rfl⟩ := Int.eq_ofNat_of_zero_le h.1
    have hk : k < l.length := by omega
    obtain ⟨b, off, rfl, _, _⟩ := h4 (by intro e; rw [e] at hk; simp at hk)
    exact at_in b off _ cap l k w hk (hB0.cell k hk)
  · rw [if_neg h]
    exact at_out a _ cap i w (by omega)

/-- A unit. -/
def unitL (n k : Nat) : List Nat := (zeros n).set k 1

theorem make_vec (n : Nat) (hn : n ≤ 281474976710656) (w : World) :
    (Instr.makeSlice 24 (.int .i64 (n : Int)) (.int .i64 (n : Int))).run Try.prog w = .ok (whole w.heap.size n) (w.alloc (bytesObj (List.replicate n 0))) := by
  have hi : (Try.prog.info? 5).map (fun i => (i.zero, i.size, i.bytes)) = some (some (.int .u8 0), 1, 1) := by kernel_rfl
  obtain ⟨i0, hi, hz0, hz1, hz2⟩ := info_parts hi
  have h := run_make (P := Try.prog) w 24 5 i0 (.int .u8 0) Try.underlying24 hi hz0 .i64 .i64 n n (by omega) (by omega) (by rw [hz2]; omega) (by omega)
  rw [h, hz1]
  simp only [Int.toNat_natCast, Nat.mul_one]
  show _ = Result.ok (whole w.heap.size n) (w.alloc (.cells _ _))
  rw [← madeZeros]
  rfl

set_option maxHeartbeats 400000 in
theorem unit_in (n k : Nat) (w : World) (hk : k < n) (hn : n ≤ 65536) :
    Calls Try.prog 11 #[.int .i64 n, .int .i64 k] w (BytesE w (unitL n k) 0) := by
  have hmk := make_vec n (by omega)
  have hO := Own.new w (zeros n)
  have hf := hO.free k
  have hl : k < (zeros n).length := by rw [zeros_length]; exact hk
  have hc := hO.cell k hl
  have HO := Lib.hid hO
  clear hO hl
  unfold zeros at hc hf
  go_enter Try.func11, Try.ntmps11
  go_wp2_with fail
  go_ret2
  have h := HO.out.set k 1
  refine ⟨_, rfl, ?_, ((Below.refl _ _).alloc (Nat.le_refl _) _).setCell (Nat.le_refl _) _⟩
  have e : n = (unitL n k).length := by simp [unitL, zeros]
  have h2 := Own.bytes h (fun x hx => by
    rcases List.mem_or_eq_of_mem_set hx with h | h
    · exact zeros_lt n x h
    · omega) (by simp [zeros]; omega)
  rw [show ((zeros n).set k 1).length = n from by simp [zeros]] at h2
  exact h2

set_option maxHeartbeats 400000 in
theorem unit_out (n i : Int) (w : World) (h : 65536 < n ∨ (n ≤ 65536 ∧ (i < 0 ∨ (0 ≤ i ∧ n ≤ i)))) :
    Calls Try.prog 11 #[.int .i64 n, .int .i64 i] w (BytesE w [] 2) := by
  rcases h with h | ⟨h, h1 | ⟨h1, h2⟩⟩
  all_goals
    go_enter Try.func11, Try.ntmps11
    go_wp2_with fail
    go_ret2
    exact ⟨_, rfl, Bytes.nil _, Below.refl _ _⟩

/-- What Unit answers. -/
def unitV (n i : Int) : List Nat := if n ≤ 65536 ∧ 0 ≤ i ∧ i < n then unitL n.toNat i.toNat else []
def unitE (n i : Int) : Int := if n ≤ 65536 ∧ 0 ≤ i ∧ i < n then 0 else 2

theorem unit_any (n i : Int) (w : World) : Calls Try.prog 11 #[.int .i64 n, .int .i64 i] w (BytesE w (unitV n i) (unitE n i)) := by
  unfold unitV unitE
  by_cases h : n ≤ 65536 ∧ 0 ≤ i ∧ i < n
  · rw [if_pos h, if_pos h]
    obtain ⟨k, rfl⟩ := Int.eq_ofNat_of_zero_le h.2.1
    obtain ⟨m, rfl⟩ := Int.eq_ofNat_of_zero_le (show 0 ≤ n by omega)
    exact unit_in m k w (by omega) (by omega)
  · rw [if_neg h, if_neg h]
    exact unit_out n i w (by omega)

end Go.Proofs.Ytgjjkiebfekkjaa
