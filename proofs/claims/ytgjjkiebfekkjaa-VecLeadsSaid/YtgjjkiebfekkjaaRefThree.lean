/-
  The document's answer for rows (wellspringref02), in the program: 'Comb'.
-/
import Derived.Test.YtgjjkiebfekkjaaRefTwo
set_option maxRecDepth 100000
namespace Go.Proofs.Ytgjjkiebfekkjaa
open Go.RowKit

/-- The answer is a slice that the call grew itself, or none, and an error's number. -/
def GrownE (w : World) (l : List Nat) (err : Int) (e : Ending) (w' : World) : Prop := ∃ v, e = .returned (.tuple #[v, I64 err]) ∧ Owns w' w.heap.size v l ∧ Below w.heap.size w w'

/-- One place of a combination: the first k rows. -/
def combAt (cs : List Nat) (ll : List (List Nat)) (i : Nat) : Nat → Nat
  | 0 => 0
  | k + 1 => combAt cs ll i k ^^^ Gf.mul (nth cs k) (nth (rowAt ll k) i)

theorem combAt_lt {cs : List Nat} (hc : ∀ x, x ∈ cs → x < 256) (ll : List (List Nat)) (i : Nat) : ∀ k, combAt cs ll i k < 256
  | 0 => show 0 < 256 by decide
  | k + 1 => Gf.xor_lt (combAt_lt hc ll i k) (Gf.mul_lt (nth_lt hc k) _)

/-- The first m places of a combination. -/
def combT (cs : List Nat) (ll : List (List Nat)) (m : Nat) : List Nat := (List.range m).map fun i => combAt cs ll i ll.length

theorem combT_length (cs : List Nat) (ll : List (List Nat)) (m : Nat) : (combT cs ll m).length = m := by simp [combT]
theorem combT_succ (cs : List Nat) (ll : List (List Nat)) (m : Nat) : combT cs ll (m + 1) = combT cs ll m ++ [combAt cs ll m ll.length] := by simp [combT, List.range_succ]
theorem combT_lt {cs : List Nat} (hc : ∀ x, x ∈ cs → x < 256) (ll : List (List Nat)) (m : Nat) : ∀ x, x ∈ combT cs ll m → x < 256 := by
  intro x hx
  obtain ⟨i, _, rfl⟩ := List.mem_map.1 hx
  exact combAt_lt hc ll i _

theorem nth_add (s r : List Nat) (i : Nat) (hs : i < s.length) (hr : i < r.length) : nth (Gf.add s r) i = nth s i ^^^ nth r i := by
  rw [nth_eq _ _ (by simp [Gf.add]; omega), nth_eq s i hs, nth_eq r i hr]
  simp [Gf.add]
theorem nth_scale (c : Nat) (l : List Nat) (i : Nat) (h : i < l.length) : nth (Gf.scale c l) i = Gf.mul c (nth l i) := by
  rw [nth_eq _ _ (by rw [Gf.scale_length]; exact h), nth_eq l i h]
  simp [Gf.scale]

theorem combK_nth {cs : List Nat} {ll : List (List Nat)} (hA : alikeB ll = true) (i : Nat) (hi : i < (rowAt ll 0).length) : ∀ k, k ≤ ll.length → nth (combK cs ll k) i = combAt cs ll i k
  | 0, _ => by
    show nth (zeros _) i = 0
    rw [nth_eq _ _ (by rw [zeros_length]; exact hi)]; simp [zeros]
  | k + 1, hk => by
    have e := alike_at hA (show k < ll.length by omega)
    show nth (Gf.add (combK cs ll k) (Gf.scale (nth cs k) (rowAt ll k))) i = _
    rw [nth_add _ _ _ (by rw [combK_length hA k (by omega)]; exact hi) (by rw [Gf.scale_length, e]; exact hi), combK_nth hA i hi k (by omega), nth_scale _ _ _ (by rw [e]; exact hi)]
    rfl

theorem combK_eq {cs : List Nat} {ll : List (List Nat)} (hA : alikeB ll = true) : combK cs ll ll.length = combT cs ll (rowAt ll 0).length := by
  refine ext_nth (by rw [combK_length hA _ (Nat.le_refl _), combT_length]) fun j hj => ?_
  rw [combK_length hA _ (Nat.le_refl _)] at hj
  rw [combK_nth hA j hj _ (Nat.le_refl _), nth_eq _ _ (by rw [combT_length]; exact hj)]
  simp [combT]

set_option maxHeartbeats 400000 in
theorem refcomb_many (a0 a1 : Option Addr) (n0 n1 c0 c1 : Nat) (w : World) (hne : n0 ≠ n1) :
    Calls Try.prog 28 #[.slice a0 n0 c0, .slice a1 n1 c1] w (GrownE w [] 4) := by
  have hb : ((n0 : Int) != (n1 : Int)) = true := by rw [bne_iff_ne]; omega
  clear hne
  go_enter Try.func28, Try.ntmps28
  go_wp2_with fail
  go_ret2
  exact ⟨_, rfl, Owns.nil _ _, Below.refl _ _⟩

set_option maxHeartbeats 400000 in
theorem refcomb_empty (a0 a1 : Option Addr) (c0 c1 : Nat) (w : World) :
    Calls Try.prog 28 #[.slice a0 0 c0, .slice a1 0 c1] w (GrownE w [] 0) := by
  go_enter Try.func28, Try.ntmps28
  go_wp2_with fail
  go_ret2
  exact ⟨_, rfl, Owns.nil _ _, Below.refl _ _⟩

set_option maxHeartbeats 1000000 in
theorem refcomb_unlike (a0 : Option Addr) (n c0 b off cap : Nat) (ll : List (List Nat)) (w : World) (hl : n = ll.length) (hn : 1 ≤ ll.length) (hR : IsRows w (.slice (some ⟨b, off, none⟩) ll.length cap) ll) (hA : alikeB ll = false) :
    Calls Try.prog 28 #[.slice a0 n c0, .slice (some ⟨b, off, none⟩) ll.length cap] w (GrownE w [] 4) := by
  have hb : ((n : Int) != (ll.length : Int)) = false := by rw [hl]; simp
  have hb1 : ((ll.length : Int) == 0) = false := beq_eq_false_iff_ne.2 (by omega)
  have hcap : ll.length ≤ 9223372036854775807 := by obtain ⟨_, _, _, h1, h2, _⟩ := hR; omega
  have HX := Lib.hid (alikeB_eq ll)
  have HA := Lib.hid hA
  have HR := Lib.hid hR
  clear hR hA hl
  go_enter Try.func28, Try.ntmps28
  go_wp2_with fail
  go_loopw [6] (fun i wr => ∃ k : Nat, k ≤ ll.length ∧ i = .int .i64 k ∧ (∀ j, j < k → (rowAt ll j).length = (rowAt ll 0).length) ∧ Below w.heap.size w wr) (fun i _ => ll.length - (intOf i).toNat)
  case atStart => exact ⟨0, by omega, rfl, fun j hj => by omega, Below.refl _ _⟩
  case round =>
    obtain ⟨k, hk, rfl, hno, hbel⟩ := hrel
    have HN := Lib.hid hno
    clear hno
    by_cases hlt : k < ll.length
    · have hRr := HR.out.below (Nat.le_refl _) hbel
      obtain ⟨u0, hu0, hB0⟩ := hRr.cell 0 (by omega)
      obtain ⟨a0', c0', rfl, _⟩ := hB0
      rw [Nat.add_zero] at hu0
      obtain ⟨u, hu, hB⟩ := hRr.cell k hlt
      obtain ⟨a1, c1, rfl, _⟩ := hB
      have k0 : (0 : Int) ≤ (k : Int) := Int.natCast_nonneg _
      have k1 : (k : Int) < (ll.length : Int) := by omega
      have k2 : (0 : Int) < (ll.length : Int) := by omega
      clear hRr
      by_cases hq : (rowAt ll k).length = (rowAt ll 0).length
      · have hb2 : (((rowAt ll k).length : Int) != ((rowAt ll 0).length : Int)) = false := by rw [hq]; simp
        have HQ := Lib.hid hq
        clear hq
        go_wp2_with fail
        go_quiet (fail)
        go_wp2_with fail
        refine ⟨⟨k + 1, by omega, by go_num, fun j hj => ?_, below_drewN hbel _⟩, by simp [intOf]; omega⟩
        by_cases h : j = k
        · rw [h]; exact HQ.out
        · exact HN.out j (by omega)
      · have hb2 : (((rowAt ll k).length : Int) != ((rowAt ll 0).length : Int)) = true := by rw [bne_iff_ne]; omega
        clear hq
        go_wp2_with fail
        go_quiet (fail)
        go_wp2_with fail
        go_ret2
        exact ⟨_, rfl, Owns.nil _ _, below_drewN hbel _⟩
    · exfalso
      have h := HX.out
      rw [HA.out] at h
      obtain ⟨i, hi, hne⟩ := of_decide_eq_true h.symm
      exact hne (HN.out i (by omega))

set_option maxHeartbeats 2000000 in
theorem refcomb_some (b0 off0 c0 b off cap : Nat) (cs : List Nat) (ll : List (List Nat)) (w : World) (hl : cs.length = ll.length) (hn : 1 ≤ ll.length) (hm : (rowAt ll 0).length ≤ 70000000000000) (hC : Bytes w (.slice (some ⟨b0, off0, none⟩) cs.length c0) cs) (hR : IsRows w (.slice (some ⟨b, off, none⟩) ll.length cap) ll) (hA : alikeB ll = true) :
    Calls Try.prog 28 #[.slice (some ⟨b0, off0, none⟩) cs.length c0, .slice (some ⟨b, off, none⟩) ll.length cap] w (GrownE w (combT cs ll (rowAt ll 0).length) 0) := by
  have hb : ((cs.length : Int) != (ll.length : Int)) = false := by rw [hl]; simp
  have hb1 : ((ll.length : Int) == 0) = false := beq_eq_false_iff_ne.2 (by omega)
  have hcap : ll.length ≤ 9223372036854775807 := by obtain ⟨_, _, _, h1, h2, _⟩ := hR; omega
  have hle : ll.length ≤ cs.length := by omega
  have HA := Lib.hid hA
  have HR := Lib.hid hR
  have HC := Lib.hid hC
  have HCL := Lib.hid hC.lt
  have k2 : (0 : Int) < (ll.length : Int) := by omega
  clear hR hA hl hC
  go_enter Try.func28, Try.ntmps28
  go_wp2_with fail
  go_loopw [6] (fun i wr => ∃ k : Nat, k ≤ ll.length ∧ i = .int .i64 k ∧ Below w.heap.size w wr) (fun i _ => ll.length - (intOf i).toNat)
  case atStart => exact ⟨0, by omega, rfl, Below.refl _ _⟩
  case round =>
    obtain ⟨k, hk, rfl, hbel⟩ := hrel
    by_cases hlt : k < ll.length
    · have hRr := HR.out.below (Nat.le_refl _) hbel
      obtain ⟨u0, hu0, hB0⟩ := hRr.cell 0 (by omega)
      obtain ⟨a0', c0', rfl, _⟩ := hB0
      rw [Nat.add_zero] at hu0
      obtain ⟨u, hu, hB⟩ := hRr.cell k hlt
      obtain ⟨a1, c1, rfl, _⟩ := hB
      have k0 : (0 : Int) ≤ (k : Int) := Int.natCast_nonneg _
      have k1 : (k : Int) < (ll.length : Int) := by omega
      have hb2 : (((rowAt ll k).length : Int) != ((rowAt ll 0).length : Int)) = false := by rw [alike_at HA.out hlt]; simp
      clear hRr
      go_wp2_with fail
      go_quiet (fail)
      go_wp2_with fail
      exact ⟨⟨k + 1, by omega, by go_num, below_drewN hbel _⟩, by simp [intOf]; omega⟩
    · obtain rfl : k = ll.length := by omega
      clear hk hlt
      have HR1 := Lib.hid (HR.out.below (Nat.le_refl _) hbel)
      have HC1 := Lib.hid (HC.out.below (Nat.le_refl _) hbel)
      obtain ⟨w1, hw1⟩ : ∃ w1 : World, w1 = wr := ⟨_, rfl⟩
      subst hw1
      have hz := hbel.size
      go_wp2_with fail
      go_loopw [7, 8, 9, 10] (fun v i _ _ wr => ∃ k : Nat, k ≤ (rowAt ll 0).length ∧ i = .int .i64 k ∧ Owns wr w1.heap.size v (combT cs ll k) ∧ Below w1.heap.size w1 wr) (fun _ i _ _ _ => (rowAt ll 0).length - (intOf i).toNat)
      case atStart => exact ⟨0, by omega, rfl, Owns.nil _ _, Below.refl _ _⟩
      case round =>
        obtain ⟨k, hk, rfl, hown, hb1r⟩ := hrel
        have HO := Lib.hid hown
        clear hown
        obtain ⟨u0, hu0, hB0⟩ := HR1.out.at hb1r 0 (by omega)
        obtain ⟨a0', c0', rfl, _⟩ := hB0
        rw [Nat.add_zero] at hu0
        by_cases hlt : k < (rowAt ll 0).length
        · go_wp2_with fail
          obtain ⟨wo, hwo⟩ : ∃ wo : World, wo = wr := ⟨_, rfl⟩
          subst hwo
          go_loopw [9, 10] (fun s i wr => ∃ j : Nat, j ≤ ll.length ∧ i = .int .i64 j ∧ s = U8 (combAt cs ll k j) ∧ Below wo.heap.size wo wr) (fun _ i _ => ll.length - (intOf i).toNat)
          case atStart => exact ⟨0, by omega, rfl, rfl, Below.refl _ _⟩
          case round =>
            obtain ⟨j, hj, rfl, rfl, hbi⟩ := hrel
            have d1 := combAt_lt HCL.out ll k j
            by_cases hjl : j < ll.length
            · have hbj : Below w1.heap.size w1 wr := hb1r.trans (hbi.mono hb1r.size)
              have hcs := (HC1.out.below (Nat.le_refl _) hbj).cell j (by omega)
              obtain ⟨u, hu, hB⟩ := HR1.out.at hbj j hjl
              have hB2 := hB.below (Nat.le_refl _) hbj
              have ha := alike_at HA.out hjl
              have hne : rowAt ll j ≠ [] := by intro h; rw [h] at ha; simp at ha; omega
              obtain ⟨a1, c1, rfl, _, _, _, h4⟩ := hB2
              obtain ⟨bk, offk, rfl, _, hck⟩ := h4 hne
              have hci := hck k (by omega)
              have q1 := nth_lt HCL.out j
              have k0 : (0 : Int) ≤ (k : Int) := Int.natCast_nonneg _
              have k1 : (k : Int) < ((rowAt ll j).length : Int) := by omega
              have j0 : (0 : Int) ≤ (j : Int) := Int.natCast_nonneg _
              have j1 : (j : Int) < (ll.length : Int) := by omega
              have j2 : (j : Int) < (cs.length : Int) := by omega
              have HS : Hid (bits BinOp.xor IntKind.u8 (combAt cs ll k j : Int) (Gf.mul (nth cs j) (nth (rowAt ll j) k) : Int) = (combAt cs ll k (j + 1) : Int)) := Lib.hid (by
                rw [u8_xor_nat _ _ d1 (Gf.mul_lt q1 _)]; rfl)
              clear hck h4 hB ha hne
              go_wp2_with fail
              go_quiet ((go_at_call 39; exact Calls.quiet_of_same (refmul_q _ _ _ q1)))
              go_wp2_with fail
              exact ⟨⟨j + 1, by omega, by go_num, u8_eq HS.out, below_drewN hbi _⟩, by simp [intOf]; omega⟩
            · obtain rfl : j = ll.length := by omega
              have HO1 := Lib.hid (HO.out.below (Nat.le_refl _) hbi)
              have hb1w : Below w1.heap.size w1 wr := hb1r.trans (hbi.mono hb1r.size)
              have hz1 := hb1w.size
              go_wp2_with (at_builtin; refine wpList_append_byte rfl (.tmp 63) (.tmp 65) rfl w1.heap.size wr.heap.size _ _ (combAt cs ll k ll.length) 5 rfl rfl rfl HO1.out ?c1 ?c2 ?_)
              case c1 => exact hz1
              case c2 => rw [combT_length]; omega
              intro v' w2 hown2 hgr
              rw [← combT_succ] at hown2
              have HO2 := Lib.hid hown2
              have HG := Lib.hid (hb1w.grown hgr hz1 HO1.out.from)
              clear hown2 hgr
              go_wp2_with fail
              go_roundw
              case rel => exact ⟨k + 1, by omega, by go_num, HO2.out, HG.out⟩
              case measure => simp [intOf]; omega
        · obtain rfl : k = (rowAt ll 0).length := by omega
          go_wp2_with fail
          go_ret2
          exact ⟨_, rfl, HO.out.mono hz, hbel.trans (hb1r.mono hz)⟩

/-- What Comb answers, row by row. -/
theorem combL_eq (cs : List Nat) (ll : List (List Nat)) : combL cs ll = if cs.length = ll.length ∧ alikeB ll = true ∧ ll ≠ [] then combT cs ll (rowAt ll 0).length else [] := by
  unfold combL
  split
  · rename_i h; rw [combK_eq h.2.1]
  · rfl

theorem refcomb_any (v0 v : Value) (cs : List Nat) (ll : List (List Nat)) (w : World) (hm : (rowAt ll 0).length ≤ 70000000000000) (hC : Bytes w v0 cs) (hR : IsRows w v ll) :
    Calls Try.prog 28 #[v0, v] w (GrownE w (combL cs ll) (combE cs ll)) := by
  have hC0 := hC
  have hR0 := hR
  obtain ⟨a0, c0, rfl, _, _, _, g4⟩ := hC
  obtain ⟨a, cap, rfl, h1, h2, h4⟩ := hR
  rw [combL_eq]
  unfold combE
  by_cases hl : cs.length = ll.length
  · cases ll with
    | nil =>
      rw [if_neg (by simp), if_pos ⟨hl, rfl⟩]
      have e : cs.length = 0 := hl
      rw [e]
      exact refcomb_empty a0 a c0 cap w
    | cons x ll =>
      obtain ⟨b, off, rfl, _, _⟩ := h4 (by simp)
      obtain ⟨b0, off0, rfl, _, _⟩ := g4 (by intro h; rw [h] at hl; simp at hl)
      by_cases hA : alikeB (x :: ll) = true
      · rw [if_pos ⟨hl, hA, by simp⟩, if_pos ⟨hl, hA⟩]
        exact refcomb_some b0 off0 c0 b off cap cs _ w hl (by simp) hm hC0 hR0 hA
      · rw [if_neg (by simp [hA]), if_neg (by simp [hA])]
        exact refcomb_unlike _ _ c0 b off cap _ w hl (by simp) hR0 (by simpa using hA)
  · rw [if_neg (by simp [hl]), if_neg (by simp [hl])]
    exact refcomb_many a0 a _ _ c0 cap w hl

end Go.Proofs.Ytgjjkiebfekkjaa
