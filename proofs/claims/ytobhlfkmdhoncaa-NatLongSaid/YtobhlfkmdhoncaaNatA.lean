/-
  The program's numbers (layer 6): 'trimmed', 'Of', 'word', 'tooGreat', 'digit', 'parts', 'Len'.
-/
import Derived.Test.YtobhlfkmdhoncaaNatLib
set_option maxRecDepth 100000
namespace Go.Proofs.Ytobhlfkmdhoncaa
open Go.RowKit

/-- The value is a number of the program's. -/
def IsNat (w : World) (u : Value) (n : Nat) : Prop := ∃ v, u = .agg #[v] ∧ Words w v (Wt.dg n)
theorem Words.go {w w' : World} {v : Value} {l : List Nat} (h : Words w v l) (hb : Below w.heap.size w w') : Words w' v l := h.below (Nat.le_refl _) hb
theorem IsNat.go {w w' : World} {u : Value} {n : Nat} (h : IsNat w u n) (hb : Below w.heap.size w w') : IsNat w' u n := by
  obtain ⟨v, e, h⟩ := h
  exact ⟨v, e, h.go hb⟩
theorem OwnW.go {w w' : World} {g : Nat} {l : List Nat} (h : OwnW w g l) (hb : Below w.heap.size w w') : OwnW w' g l := h.below h.lt hb
/-- What a call answers: a number; a number and an error's. -/
def NatV (w : World) (n : Nat) (e : Ending) (w' : World) : Prop := ∃ u, e = .returned u ∧ IsNat w' u n ∧ Below w.heap.size w w'
def NatE (w : World) (n : Nat) (err : Int) (e : Ending) (w' : World) : Prop := ∃ u, e = .returned (.tuple #[u, I64 err]) ∧ IsNat w' u n ∧ Below w.heap.size w w'

/-- The words lie elsewhere than a block that holds none. -/
theorem Words.other {w w' : World} {v : Value} {l : List Nat} {g : Nat} {vs : Array Value} {T : TypeId} (h : Words w v l) (k : Blk w g vs T) (hno : ∀ (i x : Nat), vs[i]? ≠ some (U64 x)) (hg : w.grownBy w' (some g)) : Words w' v l := by
  have h0 := h
  obtain ⟨a, cap, rfl, h1, h2, h3, h4⟩ := h
  by_cases hl : l = []
  · subst hl
    exact ⟨a, cap, rfl, h1, h2, h3, fun e => absurd rfl e⟩
  · obtain ⟨b, off, rfl, hlt, hc⟩ := h4 hl
    refine h0.grown hg (Or.inr ?_)
    simp only [Value.ownBlock, ne_eq, Option.some.injEq]
    intro e
    subst e
    have hpos : 0 < l.length := List.length_pos_iff.2 hl
    have h5 := hc 0 hpos
    rw [k.cell] at h5
    exact hno _ _ h5

theorem no_words1 (a : Option Addr) (n c : Nat) : ∀ (i x : Nat), (#[.slice a n c] : Array Value)[i]? ≠ some (U64 x)
  | 0, _ => fun e => by simp at e
  | i + 1, _ => fun e => by simp at e

theorem tidied_len {l : List Nat} (hl : ∀ x, x ∈ l → x < 18446744073709551616) : (Wt.tidied l).length ≤ l.length := Wt.dg_length_le (Wt.val_lt hl)

set_option maxHeartbeats 400000 in
theorem trimmed_none (a : Option Addr) (cap : Nat) (w : World) :
    Calls Try.prog 47 #[.slice a 0 cap] w fun e w' => e = .returned (.agg #[.slice a 0 cap]) ∧ Below w.heap.size w w' := by
  go_enter Try.func47, Try.ntmps47
  go_wp2_with fail
  obtain ⟨B, hk1, hs⟩ := blocks1 w #[.slice none 0 0] 47
  generalize (w.alloc (.cells #[.slice none 0 0] 47)) = W at *
  have K1 := Lib.hid hk1
  have HS := Lib.hid hs
  clear hs hk1
  have hzW := B.size
  refine wp_loop_rounds 1 ?_
  rw [rounds_succ]
  have hf0 := K1.out.free 0
  have h0 : W.cell? ⟨w.heap.size, 0, none⟩ = some (.slice none 0 0) := K1.out.cell 0
  go_wp2_with fail
  have e0 : ∀ v, (W.setCell ⟨w.heap.size, 0, none⟩ v).cell? ⟨w.heap.size, 0, none⟩ = some v := fun v => (K1.out.set 0 v).cell 0
  exact bodyPost_ret (v := .agg #[.slice a 0 cap]) (by simp [results, Try.results47, go_sem, e0]) rfl ⟨rfl, B.setCell (Nat.le_refl _) _⟩

set_option maxHeartbeats 400000 in
theorem trimmed_some (b off cap : Nat) (l : List Nat) (w : World) (hB : Words w (.slice (some ⟨b, off, none⟩) l.length cap) l) :
    Calls Try.prog 47 #[.slice (some ⟨b, off, none⟩) l.length cap] w fun e w' => e = .returned (.agg #[.slice (some ⟨b, off, none⟩) (Wt.tidied l).length cap]) ∧ (∃ k, k ≤ l.length ∧ l.take k = Wt.tidied l) ∧ Below w.heap.size w w' := by
  have HB := Lib.hid hB
  have HL := Lib.hid hB.lt
  obtain ⟨_, _, e, hc, hc2, _, _⟩ := hB
  cases e
  have HT := Lib.hid (fun k => Wt.tidied_of_take (k := k) HL.out)
  have HSV := Lib.hid (fun k => Wt.val_take_drop0 (l := l) k)
  go_enter Try.func47, Try.ntmps47
  go_wp2_with fail
  obtain ⟨B, hk1, hs⟩ := blocks1 w #[.slice none 0 0] 47
  generalize (w.alloc (.cells #[.slice none 0 0] 47)) = W at *
  have K1 := Lib.hid hk1
  have HS := Lib.hid hs
  clear hs hk1
  replace HB := Lib.hid (HB.out.go B)
  have hzW := B.size
  have hf0 := K1.out.free 0
  have h0 : W.cell? ⟨w.heap.size, 0, none⟩ = some (.slice none 0 0) := K1.out.cell 0
  have HE0 := Lib.hid (show ∀ v, (W.setCell ⟨w.heap.size, 0, none⟩ v).cell? ⟨w.heap.size, 0, none⟩ = some v from fun v => (K1.out.set 0 v).cell 0)
  go_loopw [3] (fun v wr => ∃ k : Nat, k ≤ l.length ∧ v = .int .i64 k ∧ Wt.val (l.take k) = Wt.val l ∧ wr = W) (fun v _ => (intOf v).toNat)
  case atStart => exact ⟨l.length, by omega, rfl, by rw [List.take_length], rfl⟩
  case round =>
    obtain ⟨k, hk, rfl, hv, rfl⟩ := hrel
    have HV := Lib.hid hv
    clear hv
    by_cases hk0 : k = 0
    · subst hk0
      have HE := Lib.hid (HT.out 0 HV.out (.inl rfl) hk)
      go_wp2_with fail
      refine bodyPost_ret (v := .agg #[.slice (some ⟨b, off, none⟩) 0 cap]) (by simp [results, Try.results47, go_sem, HE0.out]) rfl ⟨by rw [← HE.out]; rfl, ⟨0, by omega, HE.out⟩, B.setCell (Nat.le_refl _) _⟩
    · have hjl : k - 1 < l.length := by omega
      have hcell := HB.out.cell (k - 1) hjl
      have x1 := nth_ltW HL.out (k - 1)
      have HX := Lib.hid (show nth l (k - 1) = nth l (k - 1) from rfl)
      obtain ⟨x, hx⟩ : ∃ x, x = nth l (k - 1) := ⟨_, rfl⟩
      rw [← hx] at hcell x1
      replace HX := Lib.hid hx
      clear hx
      have hkI : (k : Int) ≤ 9223372036854775807 := by omega
      by_cases hx0 : x = 0
      · subst hx0
        have HV2 := Lib.hid (HSV.out (k - 1) hjl HX.out.symm (by rw [show k - 1 + 1 = k from by omega]; exact HV.out))
        go_wp2_with fail
        exact ⟨⟨k - 1, by omega, by go_num, HV2.out, by trivial⟩, by simp [intOf]; omega⟩
      · have HE := Lib.hid (HT.out k HV.out (.inr (by rw [← HX.out]; exact hx0)) hk)
        have hlen : (Wt.tidied l).length = k := by rw [← HE.out, List.length_take]; omega
        have HLN := Lib.hid hlen
        clear hlen
        go_wp2_with fail
        refine bodyPost_ret (v := .agg #[.slice (some ⟨b, off, none⟩) k cap]) (by simp [results, Try.results47, go_sem, HE0.out]) rfl ⟨by rw [HLN.out], ⟨k, hk, HE.out⟩, B.setCell (Nat.le_refl _) _⟩

/-- The number of words that may end with noughts. -/
theorem trimmed_any (v : Value) (l : List Nat) (w : World) (hB : Words w v l) :
    Calls Try.prog 47 #[v] w (NatV w (Wt.val l)) := by
  have hB0 := hB
  obtain ⟨a, cap, rfl, h1, h2, h3, h4⟩ := hB
  cases l with
  | nil =>
    refine (trimmed_none a cap w).mono ?_
    rintro e w' ⟨rfl, hb⟩
    refine ⟨_, rfl, ⟨_, rfl, ?_⟩, hb⟩
    rw [show Wt.dg (Wt.val []) = [] from Wt.dg_zero]
    exact hB0.go hb
  | cons x l =>
    obtain ⟨b, off, rfl, hlt, hc⟩ := h4 (by simp)
    refine (trimmed_some b off cap (x :: l) w hB0).mono ?_
    rintro e w' ⟨rfl, ⟨k, hk, ht⟩, hb⟩
    have hlen : (Wt.tidied (x :: l)).length = k := by rw [← ht, List.length_take]; omega
    refine ⟨_, rfl, ⟨_, rfl, Words.go (w := w) ⟨_, cap, rfl, by rw [show (Wt.dg (Wt.val (x :: l))).length = k from hlen]; omega, h2, fun y hy => h3 y (List.mem_of_mem_take (show y ∈ (x :: l).take k by rw [ht]; exact hy)), fun _ => ⟨b, off, rfl, hlt, fun i hi => ?_⟩⟩ hb⟩, hb⟩
    rw [hc i (by rw [show (Wt.dg (Wt.val (x :: l))).length = k from hlen] at hi; omega), show Wt.dg (Wt.val (x :: l)) = Wt.tidied (x :: l) from rfl, ← ht]
    rw [show (Wt.dg (Wt.val (x :: l))).length = k from hlen] at hi
    unfold nth
    rw [List.getD_eq_getElem?_getD, List.getD_eq_getElem?_getD, List.getElem?_take_of_lt (by omega)]

/-- A result's cell, stored: it holds the number then. -/
theorem nat_store {w2 : World} {g : Nat} {l : List Nat} {a : Option Addr} {n c : Nat} {T : TypeId} (k : Blk w2 g #[.slice none 0 0] T) (hv : Words w2 (.slice a n c) l) :
    (w2.setCell ⟨g, 0, none⟩ (.slice a n c)).cell? ⟨g, 0, none⟩ = some (.slice a n c) ∧ Words (w2.setCell ⟨g, 0, none⟩ (.slice a n c)) (.slice a n c) l :=
  ⟨(k.set 0 (.slice a n c)).cell 0, hv.other k (no_words1 none 0 0) (grown_setCell w2 ⟨g, 0, none⟩ _)⟩

/-- What a number's value looks like. -/
theorem IsNat.shape {w : World} {u : Value} {n : Nat} (h : IsNat w u n) : ∃ a c, u = .agg #[.slice a (Wt.dg n).length c] ∧ Words w (.slice a (Wt.dg n).length c) (Wt.dg n) ∧ (Wt.dg n).length ≤ 9223372036854775807 ∧ ((Wt.dg n).length ≠ 0 → ∃ b off, a = some ⟨b, off, none⟩) := by
  obtain ⟨v, rfl, hv⟩ := h
  have hv0 := hv
  obtain ⟨a, c, rfl, h1, h2, _, h4⟩ := hv
  refine ⟨a, c, rfl, hv0, by omega, fun hne => ?_⟩
  obtain ⟨b, off, e, _⟩ := h4 (by intro e; rw [e] at hne; exact hne rfl)
  exact ⟨b, off, e⟩

theorem val_single (n : Nat) : Wt.val [n] = n := by simp [Wt.val]

set_option maxHeartbeats 400000 in
theorem natof_any (n : Nat) (w : World) (hn : n < 18446744073709551616) :
    Calls Try.prog 27 #[U64 n] w (NatV w n) := by
  have HN := Lib.hid (show ∀ x, x ∈ [n] → x < 18446744073709551616 by intro x hx; simp at hx; omega)
  clear hn
  go_enter Try.func27, Try.ntmps27
  go_wp2_with fail
  obtain ⟨B, hk1, hk2, hs⟩ := blocks2 w #[.slice none 0 0] 47 #[U64 n] 22
  generalize ((w.alloc (.cells #[.slice none 0 0] 47)).alloc (.cells #[U64 n] 22)) = W at *
  have K1 := Lib.hid hk1
  have K2 := Lib.hid hk2
  have HS := Lib.hid hs
  clear hs hk1 hk2
  have hzW := B.size
  have HW := Lib.hid (show Words W (.slice (some ⟨w.heap.size + 1, 0, none⟩) 1 1) [n] from OwnW.words (g := w.heap.size + 1) (l := [n]) K2.out HN.out (by show 1 ≤ 9223372036854775807; decide))
  refine (trimmed_any _ _ _ HW.out).mono ?_
  rintro e w2 ⟨u, rfl, hu, hb⟩
  rw [val_single] at hu
  have HU := Lib.hid hu
  have B2 := B.trans (hb.mono B.size)
  have k1 := K1.out.go hb
  obtain ⟨a, c, rfl, hv, _⟩ := hu.shape
  have hf0 := k1.free 0
  have h0 : w2.cell? ⟨w.heap.size, 0, none⟩ = some (.slice none 0 0) := k1.cell 0
  have HS2 := Lib.hid (nat_store k1 hv)
  clear hv hb hu HU
  generalize (Wt.dg n).length = m at *
  go_wp2_with fail
  exact bodyPost_ret (v := .agg #[.slice a m c]) (by simp [results, Try.results27, go_sem, HS2.out.1]) rfl ⟨_, rfl, ⟨_, rfl, HS2.out.2⟩, B2.setCell (Nat.le_refl _) _⟩

set_option maxHeartbeats 400000 in
theorem word_any (u : Value) (n i : Nat) (w : World) (hU : IsNat w u n) :
    Calls Try.prog 56 #[u, .int .i64 i] w fun e w' => e = .returned (U64 (nth (Wt.dg n) i)) ∧ Below w.heap.size w w' := by
  obtain ⟨a, c, rfl, hw, hl, ha⟩ := hU.shape
  have HW := Lib.hid hw
  have HO := Lib.hid (Wt.nth_over (Wt.dg n) i)
  have HL := Lib.hid (nth_ltW hw.lt i)
  clear hw hU
  generalize Wt.dg n = l at *
  by_cases hi : i < l.length
  · obtain ⟨b, off, rfl⟩ := ha (by omega)
    have hiI : ¬ (l.length : Int) ≤ (i : Int) := by omega
    clear ha
    have hcell := HW.out.cell i hi
    have hbl : b < w.heap.size := World.block_lt_of_cell? w _ hcell
    go_enter Try.func56, Try.ntmps56
    go_wp2_with fail
    go_ret
    exact ⟨rfl, (Below.refl _ _).alloc (Nat.le_refl _) _⟩
  · have HZ := Lib.hid (HO.out (by omega))
    have hiI : (l.length : Int) ≤ (i : Int) := by omega
    clear ha
    go_enter Try.func56, Try.ntmps56
    go_wp2_with fail
    go_ret
    exact ⟨by rw [HZ.out]; rfl, (Below.refl _ _).alloc (Nat.le_refl _) _⟩

set_option maxHeartbeats 400000 in
theorem toogreat_any (u : Value) (n : Nat) (w : World) (hU : IsNat w u n) :
    Calls Try.prog 58 #[u] w fun e w' => e = .returned (.bool (decide (512 < ((Wt.dg n).length : Int)))) ∧ Below w.heap.size w w' := by
  obtain ⟨a, c, rfl, hw, hl, ha⟩ := hU.shape
  clear hw hU ha
  generalize Wt.dg n = l at *
  go_enter Try.func58, Try.ntmps58
  go_wp2_with fail
  go_ret
  exact ⟨rfl, (Below.refl _ _).alloc (Nat.le_refl _) _⟩

end Go.Proofs.Ytobhlfkmdhoncaa
