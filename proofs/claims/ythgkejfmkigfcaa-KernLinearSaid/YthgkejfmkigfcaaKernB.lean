/-
  Many bytes at once (layer 2) in the program: are rows alike? ('alike', its closure, and the library's IndexFunc and ContainsFunc over it).
-/
import Derived.Test.YthgkejfmkigfcaaKernA
import Derived.Test.YthgkejfmkigfcaaMat
set_option maxRecDepth 100000
namespace Go.Proofs.Ythgkejfmkigfcaa
open Go.RowKit

/-- Has each row the length of the first? -/
def alikeB (ll : List (List Nat)) : Bool := ll.all fun r => r.length == (rowAt ll 0).length

set_option maxHeartbeats 400000 in
theorem alike1_any (bx b off n cap n0 n1 c0 c1 : Nat) (a0 a1 : Option Addr) (w : World) (hn : 1 ≤ n) (hbx : w.cell? ⟨bx, 0, none⟩ = some (.slice (some ⟨b, off, none⟩) n cap)) (h0 : w.cell? ⟨b, off, none⟩ = some (.slice a0 n0 c0)) :
    Calls Try.prog 46 #[.slice a1 n1 c1, .pointer (some ⟨bx, 0, none⟩)] w fun e w' => e = .returned (.bool ((n1 : Int) != (n0 : Int))) ∧ w = w' := by
  go_enter Try.func46, Try.ntmps46
  go_wp2_with fail
  go_ret
  exact ⟨rfl, rfl⟩

/-- A place was found, or none: which, it doesn't say. -/
def Found (t : Bool) (w : World) (e : Ending) (w' : World) : Prop := ∃ r : Int, e = .returned (.int .i64 r) ∧ decide (0 ≤ r) = t ∧ w = w'

/-- The first length, and whether another row has another one. -/
theorem alikeB_eq (ll : List (List Nat)) : (!alikeB ll) = decide (∃ i, i < ll.length ∧ (rowAt ll i).length ≠ (rowAt ll 0).length) := by
  rw [Bool.eq_iff_iff]
  simp only [alikeB, Bool.not_eq_true', List.all_eq_false, beq_iff_eq, decide_eq_true_eq]
  constructor
  · rintro ⟨x, hx, hne⟩
    obtain ⟨i, hi, rfl⟩ := List.getElem_of_mem hx
    exact ⟨i, hi, by rw [rowAt_eq ll i hi]; exact hne⟩
  · rintro ⟨i, hi, hne⟩
    exact ⟨ll[i], List.getElem_mem hi, by rw [rowAt_eq ll i hi] at hne; exact hne⟩

set_option maxHeartbeats 400000 in
theorem idxAlike_any (bx b off cap : Nat) (ll : List (List Nat)) (w : World) (hn : 1 ≤ ll.length) (hbx : w.cell? ⟨bx, 0, none⟩ = some (.slice (some ⟨b, off, none⟩) ll.length cap)) (hR : IsRows w (.slice (some ⟨b, off, none⟩) ll.length cap) ll) :
    Calls Try.prog 48 #[.slice (some ⟨b, off, none⟩) ll.length cap, .func (Fn.func 46) #[] #[.pointer (some ⟨bx, 0, none⟩)]] w (Found (!alikeB ll) w) := by
  have hcap : ll.length ≤ 9223372036854775807 := by obtain ⟨_, _, _, h1, h2, _⟩ := hR; omega
  have HR := Lib.hid hR
  have HA := Lib.hid (alikeB_eq ll)
  obtain ⟨u0, hu0, hB0⟩ := hR.cell 0 (by omega)
  obtain ⟨a0, c0, rfl, _⟩ := hB0
  rw [Nat.add_zero] at hu0
  clear hR
  go_enter Try.func48, Try.ntmps48
  go_wp2
  go_loop [5, 8] (fun _ i => ∃ k : Nat, k ≤ ll.length ∧ i = .int .i64 k ∧ ∀ j, j < k → (rowAt ll j).length = (rowAt ll 0).length) (fun _ i => ll.length - (intOf i).toNat)
  case atStart => exact ⟨0, by omega, rfl, fun j hj => by omega⟩
  case round =>
    obtain ⟨k, hk, rfl, hno⟩ := hrel
    have HN := Lib.hid hno
    clear hno
    by_cases hlt : k < ll.length
    · obtain ⟨u, hu, hB⟩ := HR.out.cell k hlt
      obtain ⟨a1, c1, rfl, _⟩ := hB
      by_cases hq : (rowAt ll k).length = (rowAt ll 0).length
      · have hb : (((rowAt ll k).length : Int) != ((rowAt ll 0).length : Int)) = false := by rw [hq]; simp
        have HQ := Lib.hid hq
        clear hq
        go_wp2_with fail
        refine (alike1_any _ _ _ _ _ _ _ _ _ _ _ _ hn hbx hu0).mono ?_
        rintro e w' ⟨rfl, rfl⟩
        rw [hb]
        go_wp2_with fail
        go_round
        case rel => exact ⟨k + 1, by omega, by go_num, fun j hj => by
          by_cases h : j = k
          · rw [h]; exact HQ.out
          · exact HN.out j (by omega)⟩
        case measure => simp [intOf]; omega
      · have hb : (((rowAt ll k).length : Int) != ((rowAt ll 0).length : Int)) = true := by rw [bne_iff_ne]; omega
        have HF : Hid ((!alikeB ll) = true) := Lib.hid (by rw [HA.out, decide_eq_true_eq]; exact ⟨k, hlt, hq⟩)
        clear hq
        go_wp2_with fail
        refine (alike1_any _ _ _ _ _ _ _ _ _ _ _ _ hn hbx hu0).mono ?_
        rintro e w' ⟨rfl, rfl⟩
        rw [hb]
        go_wp2_with fail
        go_ret
        exact ⟨k, rfl, by rw [HF.out]; simp, rfl⟩
    · have HF : Hid ((!alikeB ll) = false) := Lib.hid (by
        rw [HA.out, decide_eq_false_iff_not]
        rintro ⟨i, hi, hne⟩
        exact hne (HN.out i (by omega)))
      go_wp2_with fail
      go_ret
      exact ⟨-1, rfl, by rw [HF.out]; decide, rfl⟩

set_option maxHeartbeats 400000 in
theorem idxAlike_empty (f : Value) (a : Option Addr) (cap : Nat) (w : World) :
    Calls Try.prog 48 #[.slice a 0 cap, f] w (Found false w) := by
  go_enter Try.func48, Try.ntmps48
  go_wp2
  refine wp_loop_rounds 1 ?_
  rw [rounds_succ]
  go_wp2
  go_ret
  exact ⟨-1, rfl, rfl, rfl⟩

set_option maxHeartbeats 400000 in
theorem hasAlike_any (v f : Value) (t : Bool) (w : World) (h : Calls Try.prog 48 #[v, f] w (Found t w)) :
    Calls Try.prog 45 #[v, f] w fun e w' => e = .returned (.bool t) ∧ w = w' := by
  have H := Lib.hid h
  clear h
  go_enter Try.func45, Try.ntmps45
  go_wp2_with fail
  refine H.out.mono ?_
  rintro e w' ⟨r, rfl, ht, rfl⟩
  go_wp2_with fail
  go_ret
  exact ⟨rfl, rfl⟩

set_option maxHeartbeats 400000 in
theorem alike_some (b off cap : Nat) (ll : List (List Nat)) (w : World) (hn : 1 ≤ ll.length) (hR : IsRows w (.slice (some ⟨b, off, none⟩) ll.length cap) ll) :
    Calls Try.prog 39 #[.slice (some ⟨b, off, none⟩) ll.length cap] w fun e w' => e = .returned (.bool (alikeB ll)) ∧ Below w.heap.size w w' := by
  have hmf : ∀ (fn : Fn) (first cap : Array Value) (w : World), (Instr.makeFunc fn first cap).run Try.prog w = .ok (.func fn first cap) w := fun _ _ _ _ => rfl
  have HR := Lib.hid hR
  clear hR
  go_enter Try.func39, Try.ntmps39
  go_wp2_with fail
  have hb1 : Below w.heap.size w (w.alloc (.cells #[.slice (some ⟨b, off, none⟩) ll.length cap] 41)) := (Below.refl _ _).alloc (Nat.le_refl _) _
  refine (hasAlike_any _ _ _ _ (idxAlike_any w.heap.size b off cap ll _ hn (by rw [World.cell?_alloc_at _ _ _ _ rfl]; rfl) (HR.out.below (Nat.le_refl _) hb1))).mono ?_
  rintro e w' ⟨rfl, rfl⟩
  go_wp2_with fail
  go_ret
  exact ⟨by simp, hb1⟩

set_option maxHeartbeats 400000 in
theorem alike_empty (a : Option Addr) (cap : Nat) (w : World) :
    Calls Try.prog 39 #[.slice a 0 cap] w fun e w' => e = .returned (.bool true) ∧ Below w.heap.size w w' := by
  have hmf : ∀ (fn : Fn) (first cap : Array Value) (w : World), (Instr.makeFunc fn first cap).run Try.prog w = .ok (.func fn first cap) w := fun _ _ _ _ => rfl
  go_enter Try.func39, Try.ntmps39
  go_wp2_with fail
  have hb1 : Below w.heap.size w (w.alloc (.cells #[.slice a 0 cap] 41)) := (Below.refl _ _).alloc (Nat.le_refl _) _
  refine (hasAlike_any _ _ _ _ (idxAlike_empty _ _ _ _)).mono ?_
  rintro e w' ⟨rfl, rfl⟩
  go_wp2_with fail
  go_ret
  exact ⟨rfl, hb1⟩

theorem alike_any (v : Value) (ll : List (List Nat)) (w : World) (hR : IsRows w v ll) :
    Calls Try.prog 39 #[v] w fun e w' => e = .returned (.bool (alikeB ll)) ∧ Below w.heap.size w w' := by
  have hR0 := hR
  obtain ⟨a, cap, rfl, h1, h2, h4⟩ := hR
  cases ll with
  | nil => exact alike_empty a cap w
  | cons x ll =>
    obtain ⟨b, off, rfl, _, _⟩ := h4 (by simp)
    exact alike_some b off cap _ w (by simp) hR0

end Go.Proofs.Ythgkejfmkigfcaa
