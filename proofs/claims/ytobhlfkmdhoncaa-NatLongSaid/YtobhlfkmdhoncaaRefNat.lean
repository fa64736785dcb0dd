/-
  The document's answer for numbers (wellspringref06), in the program: 'at', 'Trim', 'Of'.
-/
import Derived.Test.YtobhlfkmdhoncaaGrow
import Derived.Test.YtobhlfkmdhoncaaRefMix
import Derived.Test.YtobhlfkmdhoncaaNatMath
set_option maxRecDepth 100000
namespace Go.Proofs.Ytobhlfkmdhoncaa
open Go.RowKit

set_option maxHeartbeats 400000 in
theorem refat_any (v : Value) (l : List Nat) (i : Nat) (w : World) (hB : Bytes w v l) :
    Calls Try.prog 57 #[v, .int .i64 i] w fun e w' => e = .returned (.int .i64 (nth l i)) ∧ w = w' := by
  have HB := Lib.hid hB
  obtain ⟨a, cap, rfl, h1, h2, h3, h4⟩ := hB
  by_cases hi : i < l.length
  · obtain ⟨b, off, rfl, hlt, _⟩ := h4 (by intro h; subst h; simp at hi)
    have hcell := HB.out.cell i hi
    have x1 := nth_lt HB.out.lt i
    clear h3 h4
    go_enter Try.func57, Try.ntmps57
    go_wp2_with fail
    go_ret
    exact ⟨by go_num, rfl⟩
  · have HZ := Lib.hid (Nt.nth_over l i (by omega))
    clear h3 h4
    go_enter Try.func57, Try.ntmps57
    go_wp2_with fail
    go_ret
    exact ⟨by rw [HZ.out]; rfl, rfl⟩

set_option maxHeartbeats 400000 in
theorem reftrim_none (a : Option Addr) (cap : Nat) (w : World) :
    Calls Try.prog 33 #[.slice a 0 cap] w fun e w' => e = .returned (.slice a 0 cap) ∧ w = w' := by
  go_enter Try.func33, Try.ntmps33
  go_wp2_with fail
  refine wp_loop_rounds 1 ?_
  rw [rounds_succ]
  go_wp2_with fail
  go_ret
  exact ⟨rfl, rfl⟩

set_option maxHeartbeats 400000 in
theorem reftrim_some (b off cap : Nat) (l : List Nat) (w : World) (hB : Bytes w (.slice (some ⟨b, off, none⟩) l.length cap) l) :
    Calls Try.prog 33 #[.slice (some ⟨b, off, none⟩) l.length cap] w fun e w' => e = .returned (.slice (some ⟨b, off, none⟩) (Nt.tidied l).length cap) ∧ (∃ k, k ≤ l.length ∧ l.take k = Nt.tidied l) ∧ w = w' := by
  have HB := Lib.hid hB
  have HL := Lib.hid hB.lt
  obtain ⟨_, _, e, hc, hc2, _, _⟩ := hB
  cases e
  have HT := Lib.hid (fun k => Nt.tidied_of_take (k := k) HL.out)
  have HS := Lib.hid (fun k => Nt.val_take_drop0 (l := l) k)
  go_enter Try.func33, Try.ntmps33
  go_wp2_with fail
  go_loopw [0] (fun v wr => ∃ k : Nat, k ≤ l.length ∧ v = .slice (some ⟨b, off, none⟩) k cap ∧ Nt.val (l.take k) = Nt.val l ∧ wr = w) (fun v _ => match v with | .slice _ k _ => k | _ => 0)
  case atStart => exact ⟨l.length, by omega, rfl, by rw [List.take_length], rfl⟩
  case round =>
    obtain ⟨k, hk, rfl, hv, rfl⟩ := hrel
    have HV := Lib.hid hv
    clear hv
    by_cases hk0 : k = 0
    · subst hk0
      have HE := Lib.hid (HT.out 0 HV.out (.inl rfl) hk)
      go_wp2_with fail
      go_ret
      exact ⟨by rw [← HE.out]; rfl, ⟨0, by omega, HE.out⟩, rfl⟩
    · have hjl : k - 1 < l.length := by omega
      have hcell := HB.out.cell (k - 1) hjl
      have x1 := nth_lt HL.out (k - 1)
      have HX := Lib.hid (show nth l (k - 1) = nth l (k - 1) from rfl)
      obtain ⟨x, hx⟩ : ∃ x, x = nth l (k - 1) := ⟨_, rfl⟩
      rw [← hx] at hcell x1
      replace HX := Lib.hid hx
      clear hx
      have hkI : (k : Int) ≤ 9223372036854775807 := by omega
      by_cases hx0 : x = 0
      · subst hx0
        have HV2 := Lib.hid (HS.out (k - 1) hjl HX.out.symm (by rw [show k - 1 + 1 = k from by omega]; exact HV.out))
        go_wp2_with fail
        exact ⟨⟨k - 1, by omega, rfl, HV2.out, by trivial⟩, by show k - 1 < k; omega⟩
      · have HE := Lib.hid (HT.out k HV.out (.inr (by rw [← HX.out]; exact hx0)) hk)
        have hlen : (Nt.tidied l).length = k := by rw [← HE.out, List.length_take]; omega
        have HLN := Lib.hid hlen
        clear hlen
        go_wp2_with fail
        go_ret
        exact ⟨by rw [HLN.out]; rfl, ⟨k, hk, HE.out⟩, rfl⟩

/-- What Trim answers of bytes: those without noughts at the end, where they lie. -/
theorem reftrim_any (v : Value) (l : List Nat) (w : World) (hB : Bytes w v l) :
    Calls Try.prog 33 #[v] w fun e w' => (∃ v', e = .returned v' ∧ Bytes w v' (Nt.tidied l)) ∧ w = w' := by
  have hB0 := hB
  obtain ⟨a, cap, rfl, h1, h2, h3, h4⟩ := hB
  cases l with
  | nil =>
    refine (reftrim_none a cap w).mono ?_
    rintro e w' ⟨rfl, rfl⟩
    have e0 : Nt.tidied [] = [] := Nt.dg_zero
    rw [e0]
    exact ⟨⟨_, rfl, hB0⟩, rfl⟩
  | cons x l =>
    obtain ⟨b, off, rfl, hlt, hc⟩ := h4 (by simp)
    refine (reftrim_some b off cap (x :: l) w hB0).mono ?_
    rintro e w' ⟨rfl, ⟨k, hk, ht⟩, rfl⟩
    have hlen : (Nt.tidied (x :: l)).length = k := by rw [← ht, List.length_take]; omega
    refine ⟨⟨_, rfl, _, cap, rfl, by omega, h2, fun y hy => h3 y (List.mem_of_mem_take (ht ▸ hy)), fun _ => ⟨b, off, rfl, hlt, fun i hi => ?_⟩⟩, rfl⟩
    rw [hc i (by omega), ← ht]
    unfold nth
    rw [List.getD_eq_getElem?_getD, List.getD_eq_getElem?_getD, List.getElem?_take_of_lt (by omega)]

/-- The bytes of n behind k divisions. -/
theorem refof_step (n k : Nat) (h : n / 256 ^ k ≠ 0) : (Nt.dg n).take (k + 1) = (Nt.dg n).take k ++ [n / 256 ^ k % 256] := by
  have e : ∀ k n, nth (Nt.dg n) k = n / 256 ^ k % 256 := by
    intro k
    induction k with
    | zero =>
      intro n
      by_cases h : n = 0
      · subst h; rw [Nt.dg_zero]; rfl
      · rw [Nt.dg_pos h]; simp [nth]
    | succ k ih =>
      intro n
      by_cases h : n = 0
      · subst h; rw [Nt.dg_zero]; simp [nth]
      · rw [Nt.dg_pos h, Nt.nth_cons, ih, Nat.div_div_eq_div_mul, Nat.pow_succ, Nat.mul_comm]
  have hk : k < (Nt.dg n).length := by
    rcases Nat.lt_or_ge k (Nt.dg n).length with h1 | h1
    · exact h1
    · have := Nt.dg_length_iff.1 h1
      exact absurd (Nat.div_eq_of_lt this) h
  rw [take_nth _ k hk, e]

theorem refof_all (n k : Nat) (h : n / 256 ^ k = 0) : (Nt.dg n).take k = Nt.dg n := by
  refine List.take_of_length_le (Nt.dg_length_le ?_)
  have h1 : 0 < 256 ^ k := Nat.pow_pos (by decide)
  rcases Nat.lt_or_ge n (256 ^ k) with h2 | h2
  · exact h2
  · have := (Nat.div_pos_iff (a := n) (b := 256 ^ k)).2 ⟨h1, h2⟩
    omega

theorem refof_max (n k : Nat) (hn : n < 18446744073709551616) (h : n / 256 ^ k ≠ 0) : k < 8 := by
  rcases Nat.lt_or_ge k 8 with h1 | h1
  · exact h1
  · refine absurd (Nat.div_eq_of_lt (Nat.lt_of_lt_of_le (m := 256 ^ 8) hn (Nat.pow_le_pow_right (by decide) h1))) h

set_option maxHeartbeats 400000 in
theorem refof_any (n : Nat) (w : World) (hn : n < 18446744073709551616) :
    Calls Try.prog 30 #[U64 n] w (GrownRow w (Nt.dg n)) := by
  have HN := Lib.hid hn
  have HS := Lib.hid (refof_step n)
  have HA := Lib.hid (refof_all n)
  have HM := Lib.hid (fun k => refof_max n k hn)
  have HQ := Lib.hid (fun k => (show IntKind.u64.wrap (((n / 256 ^ k : Nat) : Int) / 256) = ((n / 256 ^ (k + 1) : Nat) : Int) by
    rw [quot_spell (Nat.lt_of_le_of_lt (Nat.div_le_self _ _) hn), Nat.pow_succ, ← Nat.div_div_eq_div_mul]))
  have H0 := Lib.hid (show n / 256 ^ 0 = n by simp)
  have HL := Lib.hid (show ∀ k, ((Nt.dg n).take k).length ≤ k from fun k => by rw [List.length_take]; omega)
  clear hn
  go_enter Try.func30, Try.ntmps30
  go_wp2_with fail
  go_loopw [0, 3] (fun x v wr => ∃ k : Nat, k ≤ 8 ∧ x = U64 (n / 256 ^ k) ∧ Owns wr w.heap.size v ((Nt.dg n).take k) ∧ Below w.heap.size w wr) (fun x _ _ => (intOf x).toNat)
  case atStart => exact ⟨0, by omega, by rw [H0.out], by rw [List.take_zero]; exact Owns.nil _ _, Below.refl _ _⟩
  case round =>
    obtain ⟨k, hk, rfl, hown, hbel⟩ := hrel
    have HO := Lib.hid hown
    clear hown
    have HQk := Lib.hid (HQ.out k)
    have HSk := Lib.hid (HS.out k)
    have HAk := Lib.hid (HA.out k)
    have HMk := Lib.hid (HM.out k)
    have hz := hbel.size
    have HLk := Lib.hid (HL.out k)
    obtain ⟨x, hx⟩ : ∃ x, x = n / 256 ^ k := ⟨_, rfl⟩
    have HXL := Lib.hid (show x < 18446744073709551616 by rw [hx]; exact Nat.lt_of_le_of_lt (Nat.div_le_self _ _) HN.out)
    rw [← hx] at HQk HSk HAk HMk ⊢
    clear hx
    by_cases hx0 : x = 0
    · subst hx0
      have HD := Lib.hid (HAk.out rfl)
      go_wp2_with fail
      go_ret
      exact ⟨_, rfl, by rw [← HD.out]; exact HO.out, hbel⟩
    · obtain ⟨y, hy⟩ : ∃ y : Nat, y = x % 256 := ⟨_, rfl⟩
      have hyI : (x : Int) % 256 = (y : Int) := by omega
      have hy1 : y < 256 := by omega
      have HY := Lib.hid (show (Nt.dg n).take (k + 1) = (Nt.dg n).take k ++ [y] by rw [HSk.out hx0, hy])
      have hxI : (0 : Int) < x := by omega
      have HX0 := Lib.hid hx0
      clear hy hx0
      go_wp2_with (at_builtin; refine wpList_append_byte rfl (.tmp 6) (.tmp 10) rfl w.heap.size wr.heap.size _ _ y 5 rfl rfl rfl HO.out ?c1 ?c2 ?_)
      case c1 => exact hz
      case c2 => have := HLk.out; omega
      intro v' w2 hown2 hgr
      have HO2 := Lib.hid hown2
      have HG2 := Lib.hid (hbel.grown hgr hz HO.out.from)
      clear hown2 hgr
      go_wp2_with fail
      exact ⟨⟨k + 1, by have := HMk.out HX0.out; omega, by rw [HQk.out], by rw [HY.out]; exact HO2.out, HG2.out⟩, by rw [quot_spell HXL.out]; simp [intOf]; omega⟩

end Go.Proofs.Ytobhlfkmdhoncaa
