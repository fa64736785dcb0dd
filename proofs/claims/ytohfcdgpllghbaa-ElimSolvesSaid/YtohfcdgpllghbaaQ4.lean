/- Texts of one seat, laid together: RefThree, LawTwo, LawTwoB, LawTwoC, RefRow. -/
import Derived.Test.YtohfcdgpllghbaaQ3
import Derived.Test.YtohfcdgpllghbaaQ1

/-
  The document's answer for rows (wellspringref02), in the program: 'Comb'.
-/
set_option maxRecDepth 100000
namespace Go.Proofs.Ytohfcdgpllghbaa
open Go.RowKit

/-- The answer is a slice that the call grew itself, or none, and an error's number. -/
def GrownE (w : World) (l : List Nat) (err : Int) (e : Ending) (w' : World) : Prop := ∃ v, e = .returned (.tuple #[v, I64 err]) ∧ Owns w' w.heap.size v l ∧ Below w.heap.size w w'

/-- One place of a combination: the first k rows. -/
def combAt (cs : List Nat) (ll : List (List Nat)) (i : Nat) : Nat → Nat
  | 0 => 0
  | k + 1 => combAt cs ll i k ^^^ Gf.mul (nth cs k) (nth (rowAt ll k) i)

theorem combAt_lt {cs : List Nat} (hc : ∀ x, x ∈ cs → x < 256) (ll : List (List Nat)) (i : Nat) : ∀ k, combAt cs ll i k < 256
  | 0 => show 0 < 256 by decide
  | k + 1 => Gf.xor_lt (combAt_lt hc ll i k) (Gf.mul_lt (nth_lt hc k) _)

/-- The first m places of a combination. -/
def combT (cs : List Nat) (ll : List (List Nat)) (m : Nat) : List Nat := (List.range m).map fun i => combAt cs ll i ll.length

theorem combT_length (cs : List Nat) (ll : List (List Nat)) (m : Nat) : (combT cs ll m).length = m := by simp [combT]
theorem combT_succ (cs : List Nat) (ll : List (List Nat)) (m : Nat) : combT cs ll (m + 1) = combT cs ll m ++ [combAt cs ll m ll.length] := by simp [combT, List.range_succ]
theorem combT_lt {cs : List Nat} (hc : ∀ x, x ∈ cs → x < 256) (ll : List (List Nat)) (m : Nat) : ∀ x, x ∈ combT cs ll m → x < 256 := by
  intro x hx
  obtain ⟨i, _, rfl⟩ := List.mem_map.1 hx
  exact combAt_lt hc ll i _

theorem nth_add (s r : List Nat) (i : Nat) (hs : i < s.length) (hr : i < r.length) : nth (Gf.add s r) i = nth s i ^^^ nth r i := by
  rw [nth_eq _ _ (by simp [Gf.add]; omega), nth_eq s i hs, nth_eq r i hr]
  simp [Gf.add]
theorem nth_scale (c : Nat) (l : List Nat) (i : Nat) (h : i < l.length) : nth (Gf.scale c l) i = Gf.mul c (nth l i) := by
  rw [nth_eq _ _ (by rw [Gf.scale_length]; exact h), nth_eq l i h]
  simp [Gf.scale]

theorem combK_nth {cs : List Nat} {ll : List (List Nat)} (hA : alikeB ll = true) (i : Nat) (hi : i < (rowAt ll 0).length) : ∀ k, k ≤ ll.length → nth (combK cs ll k) i = combAt cs ll i k
  | 0, _ => by
    show nth (zeros _) i = 0
    rw [nth_eq _ _ (by rw [zeros_length]; exact hi)]; simp [zeros]
  | k + 1, hk => by
    have e := alike_at hA (show k < ll.length by omega)
    show nth (Gf.add (combK cs ll k) (Gf.scale (nth cs k) (rowAt ll k))) i = _
    rw [nth_add _ _ _ (by rw [combK_length hA k (by omega)]; exact hi) (by rw [Gf.scale_length, e]; exact hi), combK_nth hA i hi k (by omega), nth_scale _ _ _ (by rw [e]; exact hi)]
    rfl

theorem combK_eq {cs : List Nat} {ll : List (List Nat)} (hA : alikeB ll = true) : combK cs ll ll.length = combT cs ll (rowAt ll 0).length := by
  refine ext_nth (by rw [combK_length hA _ (Nat.le_refl _), combT_length]) fun j hj => ?_
  rw [combK_length hA _ (Nat.le_refl _)] at hj
  rw [combK_nth hA j hj _ (Nat.le_refl _), nth_eq _ _ (by rw [combT_length]; exact hj)]
  simp [combT]

set_option maxHeartbeats 400000 in
theorem refcomb_many (a0 a1 : Option Addr) (n0 n1 c0 c1 : Nat) (w : World) (hne : n0 ≠ n1) :
    Calls Try.prog 92 #[.slice a0 n0 c0, .slice a1 n1 c1] w (GrownE w [] 4) := by
  have hb : ((n0 : Int) != (n1 : Int)) = true := by rw [bne_iff_ne]; omega
  clear hne
  go_enter Try.func92, Try.ntmps92
  go_wp2_with fail
  go_ret2
  exact ⟨_, rfl, Owns.nil _ _, Below.refl _ _⟩

set_option maxHeartbeats 400000 in
theorem refcomb_empty (a0 a1 : Option Addr) (c0 c1 : Nat) (w : World) :
    Calls Try.prog 92 #[.slice a0 0 c0, .slice a1 0 c1] w (GrownE w [] 0) := by
  go_enter Try.func92, Try.ntmps92
  go_wp2_with fail
  go_ret2
  exact ⟨_, rfl, Owns.nil _ _, Below.refl _ _⟩

set_option maxHeartbeats 1000000 in
theorem refcomb_unlike (a0 : Option Addr) (n c0 b off cap : Nat) (ll : List (List Nat)) (w : World) (hl : n = ll.length) (hn : 1 ≤ ll.length) (hR : IsRows w (.slice (some ⟨b, off, none⟩) ll.length cap) ll) (hA : alikeB ll = false) :
    Calls Try.prog 92 #[.slice a0 n c0, .slice (some ⟨b, off, none⟩) ll.length cap] w (GrownE w [] 4) := by
  have hb : ((n : Int) != (ll.length : Int)) = false := by rw [hl]; simp
  have hb1 : ((ll.length : Int) == 0) = false := beq_eq_false_iff_ne.2 (by omega)
  have hcap : ll.length ≤ 9223372036854775807 := by obtain ⟨_, _, _, h1, h2, _⟩ := hR; omega
  have HX := Lib.hid (alikeB_eq ll)
  have HA := Lib.hid hA
  have HR := Lib.hid hR
  clear hR hA hl
  go_enter Try.func92, Try.ntmps92
  go_wp2_with fail
  go_loopw [6] (fun i wr => ∃ k : Nat, k ≤ ll.length ∧ i = .int .i64 k ∧ (∀ j, j < k → (rowAt ll j).length = (rowAt ll 0).length) ∧ Below w.heap.size w wr) (fun i _ => ll.length - (intOf i).toNat)
  case atStart => exact ⟨0, by omega, rfl, fun j hj => by omega, Below.refl _ _⟩
  case round =>
    obtain ⟨k, hk, rfl, hno, hbel⟩ := hrel
    have HN := Lib.hid hno
    clear hno
    by_cases hlt : k < ll.length
    · have hRr := HR.out.below (Nat.le_refl _) hbel
      obtain ⟨u0, hu0, hB0⟩ := hRr.cell 0 (by omega)
      obtain ⟨a0', c0', rfl, _⟩ := hB0
      rw [Nat.add_zero] at hu0
      obtain ⟨u, hu, hB⟩ := hRr.cell k hlt
      obtain ⟨a1, c1, rfl, _⟩ := hB
      have k0 : (0 : Int) ≤ (k : Int) := Int.natCast_nonneg _
      have k1 : (k : Int) < (ll.length : Int) := by omega
      have k2 : (0 : Int) < (ll.length : Int) := by omega
      clear hRr
      by_cases hq : (rowAt ll k).length = (rowAt ll 0).length
      · have hb2 : (((rowAt ll k).length : Int) != ((rowAt ll 0).length : Int)) = false := by rw [hq]; simp
        have HQ := Lib.hid hq
        clear hq
        go_wp2_with fail
        go_quiet (fail)
        go_wp2_with fail
        refine ⟨⟨k + 1, by omega, by go_num, fun j hj => ?_, below_drewN hbel _⟩, by simp [intOf]; omega⟩
        by_cases h : j = k
        · rw [h]; exact HQ.out
        · exact HN.out j (by omega)
      · have hb2 : (((rowAt ll k).length : Int) != ((rowAt ll 0).length : Int)) = true := by rw [bne_iff_ne]; omega
        clear hq
        go_wp2_with fail
        go_quiet (fail)
        go_wp2_with fail
        go_ret2
        exact ⟨_, rfl, Owns.nil _ _, below_drewN hbel _⟩
    · exfalso
      have h := HX.out
      rw [HA.out] at h
      obtain ⟨i, hi, hne⟩ := of_decide_eq_true h.symm
      exact hne (HN.out i (by omega))

set_option maxHeartbeats 2000000 in
theorem refcomb_some (b0 off0 c0 b off cap : Nat) (cs : List Nat) (ll : List (List Nat)) (w : World) (hl : cs.length = ll.length) (hn : 1 ≤ ll.length) (hm : (rowAt ll 0).length ≤ 70000000000000) (hC : Bytes w (.slice (some ⟨b0, off0, none⟩) cs.length c0) cs) (hR : IsRows w (.slice (some ⟨b, off, none⟩) ll.length cap) ll) (hA : alikeB ll = true) :
    Calls Try.prog 92 #[.slice (some ⟨b0, off0, none⟩) cs.length c0, .slice (some ⟨b, off, none⟩) ll.length cap] w (GrownE w (combT cs ll (rowAt ll 0).length) 0) := by
  have hb : ((cs.length : Int) != (ll.length : Int)) = false := by rw [hl]; simp
  have hb1 : ((ll.length : Int) == 0) = false := beq_eq_false_iff_ne.2 (by omega)
  have hcap : ll.length ≤ 9223372036854775807 := by obtain ⟨_, _, _, h1, h2, _⟩ := hR; omega
  have hle : ll.length ≤ cs.length := by omega
  have HA := Lib.hid hA
  have HR := Lib.hid hR
  have HC := Lib.hid hC
  have HCL := Lib.hid hC.lt
  have k2 : (0 : Int) < (ll.length : Int) := by omega
  clear hR hA hl hC
  go_enter Try.func92, Try.ntmps92
  go_wp2_with fail
  go_loopw [6] (fun i wr => ∃ k : Nat, k ≤ ll.length ∧ i = .int .i64 k ∧ Below w.heap.size w wr) (fun i _ => ll.length - (intOf i).toNat)
  case atStart => exact ⟨0, by omega, rfl, Below.refl _ _⟩
  case round =>
    obtain ⟨k, hk, rfl, hbel⟩ := hrel
    by_cases hlt : k < ll.length
    · have hRr := HR.out.below (Nat.le_refl _) hbel
      obtain ⟨u0, hu0, hB0⟩ := hRr.cell 0 (by omega)
      obtain ⟨a0', c0', rfl, _⟩ := hB0
      rw [Nat.add_zero] at hu0
      obtain ⟨u, hu, hB⟩ := hRr.cell k hlt
      obtain ⟨a1, c1, rfl, _⟩ := hB
      have k0 : (0 : Int) ≤ (k : Int) := Int.natCast_nonneg _
      have k1 : (k : Int) < (ll.length : Int) := by omega
      have hb2 : (((rowAt ll k).length : Int) != ((rowAt ll 0).length : Int)) = false := by rw [alike_at HA.out hlt]; simp
      clear hRr
      go_wp2_with fail
      go_quiet (fail)
      go_wp2_with fail
      exact ⟨⟨k + 1, by omega, by go_num, below_drewN hbel _⟩, by simp [intOf]; omega⟩
    · obtain rfl : k = ll.length := by omega
      clear hk hlt
      have HR1 := Lib.hid (HR.out.below (Nat.le_refl _) hbel)
      have HC1 := Lib.hid (HC.out.below (Nat.le_refl _) hbel)
      obtain ⟨w1, hw1⟩ : ∃ w1 : World, w1 = wr := ⟨_, rfl⟩
      subst hw1
      have hz := hbel.size
      go_wp2_with fail
      go_loopw [7, 8, 9, 10] (fun v i _ _ wr => ∃ k : Nat, k ≤ (rowAt ll 0).length ∧ i = .int .i64 k ∧ Owns wr w1.heap.size v (combT cs ll k) ∧ Below w1.heap.size w1 wr) (fun _ i _ _ _ => (rowAt ll 0).length - (intOf i).toNat)
      case atStart => exact ⟨0, by omega, rfl, Owns.nil _ _, Below.refl _ _⟩
      case round =>
        obtain ⟨k, hk, rfl, hown, hb1r⟩ := hrel
        have HO := Lib.hid hown
        clear hown
        obtain ⟨u0, hu0, hB0⟩ := HR1.out.at hb1r 0 (by omega)
        obtain ⟨a0', c0', rfl, _⟩ := hB0
        rw [Nat.add_zero] at hu0
        by_cases hlt : k < (rowAt ll 0).length
        · go_wp2_with fail
          obtain ⟨wo, hwo⟩ : ∃ wo : World, wo = wr := ⟨_, rfl⟩
          subst hwo
          go_loopw [9, 10] (fun s i wr => ∃ j : Nat, j ≤ ll.length ∧ i = .int .i64 j ∧ s = U8 (combAt cs ll k j) ∧ Below wo.heap.size wo wr) (fun _ i _ => ll.length - (intOf i).toNat)
          case atStart => exact ⟨0, by omega, rfl, rfl, Below.refl _ _⟩
          case round =>
            obtain ⟨j, hj, rfl, rfl, hbi⟩ := hrel
            have d1 := combAt_lt HCL.out ll k j
            by_cases hjl : j < ll.length
            · have hbj : Below w1.heap.size w1 wr := hb1r.trans (hbi.mono hb1r.size)
              have hcs := (HC1.out.below (Nat.le_refl _) hbj).cell j (by omega)
              obtain ⟨u, hu, hB⟩ := HR1.out.at hbj j hjl
              have hB2 := hB.below (Nat.le_refl _) hbj
              have ha := alike_at HA.out hjl
              have hne : rowAt ll j ≠ [] := by intro h; rw [h] at ha; simp at ha; omega
              obtain ⟨a1, c1, rfl, _, _, _, h4⟩ := hB2
              obtain ⟨bk, offk, rfl, _, hck⟩ := h4 hne
              have hci := hck k (by omega)
              have q1 := nth_lt HCL.out j
              have k0 : (0 : Int) ≤ (k : Int) := Int.natCast_nonneg _
              have k1 : (k : Int) < ((rowAt ll j).length : Int) := by omega
              have j0 : (0 : Int) ≤ (j : Int) := Int.natCast_nonneg _
              have j1 : (j : Int) < (ll.length : Int) := by omega
              have j2 : (j : Int) < (cs.length : Int) := by omega
              have HS : Hid (bits BinOp.xor IntKind.u8 (combAt cs ll k j : Int) (Gf.mul (nth cs j) (nth (rowAt ll j) k) : Int) = (combAt cs ll k (j + 1) : Int)) := Lib.hid (by
                rw [u8_xor_nat _ _ d1 (Gf.mul_lt q1 _)]; rfl)
              clear hck h4 hB ha hne
              go_wp2_with fail
              go_quiet ((go_at_call 63; exact Calls.quiet_of_same (refmul_q _ _ _ q1)))
              go_wp2_with fail
              exact ⟨⟨j + 1, by omega, by go_num, u8_eq HS.out, below_drewN hbi _⟩, by simp [intOf]; omega⟩
            · obtain rfl : j = ll.length := by omega
              have HO1 := Lib.hid (HO.out.below (Nat.le_refl _) hbi)
              have hb1w : Below w1.heap.size w1 wr := hb1r.trans (hbi.mono hb1r.size)
              have hz1 := hb1w.size
              go_wp2_with (at_builtin; refine wpList_append_byte rfl (.tmp 63) (.tmp 65) rfl w1.heap.size wr.heap.size _ _ (combAt cs ll k ll.length) 5 rfl rfl rfl HO1.out ?c1 ?c2 ?_)
              case c1 => exact hz1
              case c2 => rw [combT_length]; omega
              intro v' w2 hown2 hgr
              rw [← combT_succ] at hown2
              have HO2 := Lib.hid hown2
              have HG := Lib.hid (hb1w.grown hgr hz1 HO1.out.from)
              clear hown2 hgr
              go_wp2_with fail
              go_roundw
              case rel => exact ⟨k + 1, by omega, by go_num, HO2.out, HG.out⟩
              case measure => simp [intOf]; omega
        · obtain rfl : k = (rowAt ll 0).length := by omega
          go_wp2_with fail
          go_ret2
          exact ⟨_, rfl, HO.out.mono hz, hbel.trans (hb1r.mono hz)⟩

/-- What Comb answers, row by row. -/
theorem combL_eq (cs : List Nat) (ll : List (List Nat)) : combL cs ll = if cs.length = ll.length ∧ alikeB ll = true ∧ ll ≠ [] then combT cs ll (rowAt ll 0).length else [] := by
  unfold combL
  split
  · rename_i h; rw [combK_eq h.2.1]
  · rfl

theorem refcomb_any (v0 v : Value) (cs : List Nat) (ll : List (List Nat)) (w : World) (hm : (rowAt ll 0).length ≤ 70000000000000) (hC : Bytes w v0 cs) (hR : IsRows w v ll) :
    Calls Try.prog 92 #[v0, v] w (GrownE w (combL cs ll) (combE cs ll)) := by
  have hC0 := hC
  have hR0 := hR
  obtain ⟨a0, c0, rfl, _, _, _, g4⟩ := hC
  obtain ⟨a, cap, rfl, h1, h2, h4⟩ := hR
  rw [combL_eq]
  unfold combE
  by_cases hl : cs.length = ll.length
  · cases ll with
    | nil =>
      rw [if_neg (by simp), if_pos ⟨hl, rfl⟩]
      have e : cs.length = 0 := hl
      rw [e]
      exact refcomb_empty a0 a c0 cap w
    | cons x ll =>
      obtain ⟨b, off, rfl, _, _⟩ := h4 (by simp)
      obtain ⟨b0, off0, rfl, _, _⟩ := g4 (by intro h; rw [h] at hl; simp at hl)
      by_cases hA : alikeB (x :: ll) = true
      · rw [if_pos ⟨hl, hA, by simp⟩, if_pos ⟨hl, hA⟩]
        exact refcomb_some b0 off0 c0 b off cap cs _ w hl (by simp) hm hC0 hR0 hA
      · rw [if_neg (by simp [hA]), if_neg (by simp [hA])]
        exact refcomb_unlike _ _ c0 b off cap _ w hl (by simp) hR0 (by simpa using hA)
  · rw [if_neg (by simp [hl]), if_neg (by simp [hl])]
    exact refcomb_many a0 a _ _ c0 cap w hl

end Go.Proofs.Ytohfcdgpllghbaa

/-
  The statements of layer 2 (kern), walked: what they share.
-/
set_option maxRecDepth 100000
namespace Go.Proofs.Ytohfcdgpllghbaa
open Go.RowKit

/-- The same, and an error's number. -/
def BytesE (w : World) (l : List Nat) (err : Int) (e : Ending) (w' : World) : Prop := ∃ v, e = .returned (.tuple #[v, I64 err]) ∧ Bytes w' v l ∧ Below w.heap.size w w'

theorem combL_lt {cs : List Nat} (hc : ∀ x, x ∈ cs → x < 256) (ll : List (List Nat)) : ∀ x, x ∈ combL cs ll → x < 256 := by
  rw [combL_eq]
  split
  · exact combT_lt hc ll _
  · simp
theorem combL_length (cs : List Nat) (ll : List (List Nat)) : (combL cs ll).length ≤ (rowAt ll 0).length := by
  rw [combL_eq]
  split
  · rw [combT_length]; exact Nat.le_refl _
  · simp
theorem sumL_lt {ll : List (List Nat)} (hl : ∀ k, k < ll.length → ∀ x, x ∈ rowAt ll k → x < 256) : ∀ x, x ∈ sumL ll → x < 256 := by
  unfold sumL
  split
  · exact sumK_lt hl _ (Nat.le_refl _)
  · simp
theorem sumL_length (ll : List (List Nat)) : (sumL ll).length ≤ (rowAt ll 0).length := by
  unfold sumL
  split
  · rename_i h; rw [sumK_length h.1 _ (Nat.le_refl _)]; exact Nat.le_refl _
  · simp
theorem axpyL_lt {c : Nat} {x y : List Nat} (hc : c < 256) (hy : ∀ z, z ∈ y → z < 256) : ∀ z, z ∈ axpyL c x y → z < 256 := by
  unfold axpyL
  split
  · exact Gf.add_lt (Gf.scale_lt hc x) hy
  · simp
theorem axpyL_length (c : Nat) (x y : List Nat) : (axpyL c x y).length ≤ x.length := by
  unfold axpyL
  split
  · rename_i h; rw [Gf.add_length _ _ (by rw [Gf.scale_length]; exact h), Gf.scale_length]; exact Nat.le_refl _
  · simp

theorem IsRows.all_lt {w : World} {v : Value} {ll : List (List Nat)} (h : IsRows w v ll) : ∀ k, k < ll.length → ∀ x, x ∈ rowAt ll k → x < 256 := by
  obtain ⟨a, cap, rfl, _, _, h4⟩ := h
  intro k hk
  obtain ⟨b, off, _, _, hc⟩ := h4 (by intro h; rw [h] at hk; simp at hk)
  obtain ⟨u, _, hB⟩ := hc k hk
  exact hB.lt

theorem scale_b (c : Nat) (v : Value) (l : List Nat) (w : World) (hc : c < 256) (hn : l.length ≤ 10000000) (hB : Bytes w v l) :
    Calls Try.prog 78 #[U8 c, v] w (BytesV w (Gf.scale c l)) :=
  (scale_any c v l w hc (by omega) hB).mono fun _ _ ⟨g, he, _, hO, hb⟩ => ⟨_, he, hO.bytes (Gf.scale_lt hc l) (by rw [Gf.scale_length]; omega), hb⟩
theorem refscale_b (c : Nat) (v : Value) (l : List Nat) (w : World) (hc : c < 256) (hn : l.length ≤ 10000000) (hB : Bytes w v l) :
    Calls Try.prog 98 #[U8 c, v] w (BytesV w (Gf.scale c l)) :=
  (refscale_any c v l w hc (by omega) hB).mono fun _ _ ⟨v, he, hO, hb⟩ => ⟨v, he, hO.bytes (Gf.scale_lt hc l), hb⟩
theorem comb_b (v0 v : Value) (cs : List Nat) (ll : List (List Nat)) (w : World) (hm : (rowAt ll 0).length ≤ 10000000) (hC : Bytes w v0 cs) (hR : IsRows w v ll) :
    Calls Try.prog 50 #[v0, v] w (BytesE w (combL cs ll) (combE cs ll)) :=
  (comb_any v0 v cs ll w (by omega) hC hR).mono fun _ _ ⟨v, he, hF, hb⟩ => ⟨v, he, hF.bytes (combL_lt hC.lt ll) (by have := combL_length cs ll; omega), hb⟩
theorem refcomb_b (v0 v : Value) (cs : List Nat) (ll : List (List Nat)) (w : World) (hm : (rowAt ll 0).length ≤ 10000000) (hC : Bytes w v0 cs) (hR : IsRows w v ll) :
    Calls Try.prog 92 #[v0, v] w (BytesE w (combL cs ll) (combE cs ll)) :=
  (refcomb_any v0 v cs ll w (by omega) hC hR).mono fun _ _ ⟨v, he, hO, hb⟩ => ⟨v, he, hO.bytes (combL_lt hC.lt ll), hb⟩
theorem axpy_b (c : Nat) (v0 v1 : Value) (x y : List Nat) (w : World) (hc : c < 256) (hn : x.length ≤ 10000000) (hx : Bytes w v0 x) (hy : Bytes w v1 y) :
    Calls Try.prog 103 #[U8 c, v0, v1] w (BytesE w (axpyL c x y) (axpyE x y)) :=
  (axpy_any c v0 v1 x y w hc (by omega) hx hy).mono fun _ _ ⟨v, he, hF, hb⟩ => ⟨v, he, hF.bytes (axpyL_lt hc hy.lt) (by have := axpyL_length c x y; omega), hb⟩

/-- Two slices that read as the same are the same. -/
theorem same_yes (v0 v1 : Value) (x : List Nat) (w : World) (hx : Bytes w v0 x) (hy : Bytes w v1 x) :
    Calls Try.prog 48 #[v0, v1] w fun e w' => e = .returned (.bool true) ∧ Below w.heap.size w w' := by
  have h := same_any v0 v1 x x w hx hy
  rw [show decide (x = x) = true from decide_eq_true rfl] at h
  exact h

theorem bytes_new2 (w : World) (x y : Int) (a b : Nat) (T : TypeId) (k : Nat) (hk : k = w.heap.size) (hx : x = a) (hy : y = b) (ha : a < 256) (hb : b < 256) :
    Bytes (w.alloc (.cells #[.int .u8 x, .int .u8 y] T)) (.slice (some ⟨k, 0, none⟩) 2 2) [a, b] := by
  subst hk; subst hx; subst hy
  exact bytes_new w [a, b] T (by simp [ha, hb]) (by simp)

/-- Are rows gone through here? -/
def fewB (ll : List (List Nat)) : Bool := ll.all (fun r => decide (r.length ≤ 100)) && decide (ll.length ≤ 40)

end Go.Proofs.Ytohfcdgpllghbaa

/-
  The statements of layer 2 (kern), walked: KernPairs.
-/
set_option maxRecDepth 100000
namespace Go.Proofs.Ytohfcdgpllghbaa
open Go.RowKit

theorem rows_new2 (w : World) (u0 u1 : Value) (x y : List Nat) (T : TypeId) (k : Nat) (hk : k = w.heap.size) (hx : Bytes w u0 x) (hy : Bytes w u1 y) :
    IsRows (w.alloc (.cells #[u0, u1] T)) (.slice (some ⟨k, 0, none⟩) 2 2) [x, y] := by
  subst hk
  have hb : Below w.heap.size w (w.alloc (.cells #[u0, u1] T)) := (Below.refl _ _).alloc (Nat.le_refl _) _
  refine ⟨_, 2, rfl, Nat.le_refl _, by omega, fun _ => ⟨w.heap.size, 0, rfl, by simp, fun i hi => ?_⟩⟩
  have h2 : i < 2 := hi
  match i, h2 with
  | 0, _ => exact ⟨u0, by rw [World.cell?_alloc_at _ _ _ _ rfl]; rfl, hx.below (Nat.le_refl _) hb⟩
  | 1, _ => exact ⟨u1, by rw [World.cell?_alloc_at _ _ _ _ rfl]; rfl, hy.below (Nat.le_refl _) hb⟩

theorem pair_E (c : Nat) (x y : List Nat) : combE [c, 1] [x, y] = axpyE x y := by
  unfold combE axpyE
  have h : alikeB [x, y] = (y.length == x.length) := by simp [alikeB, rowAt]
  rw [h]
  by_cases hl : x.length = y.length
  · simp [hl]
  · rw [if_neg (by simp; omega), if_neg hl]

theorem pair_L (c : Nat) (x y : List Nat) (hy : ∀ z, z ∈ y → z < 256) : combL [c, 1] [x, y] = axpyL c x y := by
  rw [combL_eq]
  unfold axpyL
  have h : alikeB [x, y] = (y.length == x.length) := by simp [alikeB, rowAt]
  rw [h]
  by_cases hl : x.length = y.length
  · rw [if_pos (by simp [hl]), if_pos hl]
    have hr : (rowAt [x, y] 0).length = x.length := rfl
    have hs : (Gf.add (Gf.scale c x) y).length = x.length := by rw [Gf.add_length _ _ (by rw [Gf.scale_length]; exact hl), Gf.scale_length]
    refine ext_nth (by rw [combT_length, hs, hr]) fun j hj => ?_
    rw [combT_length, hr] at hj
    rw [nth_add _ _ _ (by rw [Gf.scale_length]; exact hj) (by omega), nth_scale c x j hj, nth_eq _ _ (by rw [combT_length, hr]; exact hj)]
    simp only [combT, List.getElem_map, List.getElem_range]
    show (0 ^^^ Gf.mul (nth [c, 1] 0) (nth (rowAt [x, y] 0) j)) ^^^ Gf.mul (nth [c, 1] 1) (nth (rowAt [x, y] 1) j) = _
    rw [show nth [c, 1] 0 = c from rfl, show nth [c, 1] 1 = 1 from rfl, show rowAt [x, y] 0 = x from rfl, show rowAt [x, y] 1 = y from rfl, Nat.zero_xor, Gf.one_mul (nth_lt hy j)]
  · rw [if_neg (by simp; omega), if_neg hl]

end Go.Proofs.Ytohfcdgpllghbaa

/-
  The statements of layer 2 (kern), walked: KernReckons.
-/
set_option maxRecDepth 100000
namespace Go.Proofs.Ytohfcdgpllghbaa
open Go.RowKit

/-- As many ones. -/
def ones (n : Nat) : List Nat := List.replicate n 1

theorem ones_length (n : Nat) : (ones n).length = n := by simp [ones]
theorem ones_lt (n : Nat) : ∀ x, x ∈ ones n → x < 256 := by
  intro x hx
  have := List.eq_of_mem_replicate hx
  omega
theorem nth_ones (n k : Nat) (h : k < n) : nth (ones n) k = 1 := by
  rw [nth_eq _ _ (by rw [ones_length]; exact h)]; simp [ones]

theorem scale_one {l : List Nat} (h : ∀ x, x ∈ l → x < 256) : Gf.scale 1 l = l := by
  refine ext_nth (Gf.scale_length 1 l) fun j hj => ?_
  rw [Gf.scale_length] at hj
  rw [nth_scale 1 l j hj, Gf.one_mul (nth_lt h j)]

theorem combK_ones {ll : List (List Nat)} (hl : ∀ k, k < ll.length → ∀ x, x ∈ rowAt ll k → x < 256) : ∀ k, k ≤ ll.length → combK (ones ll.length) ll k = sumK ll k
  | 0, _ => rfl
  | k + 1, hk => by
    show Gf.add (combK (ones ll.length) ll k) (Gf.scale (nth (ones ll.length) k) (rowAt ll k)) = Gf.add (sumK ll k) (rowAt ll k)
    rw [combK_ones hl k (by omega), nth_ones _ _ (by omega), scale_one (hl k (by omega))]

theorem comb_ones_L {ll : List (List Nat)} (hl : ∀ k, k < ll.length → ∀ x, x ∈ rowAt ll k → x < 256) : combL (ones ll.length) ll = sumL ll := by
  unfold combL sumL
  rw [ones_length, combK_ones hl _ (Nat.le_refl _)]
  simp
theorem comb_ones_E (ll : List (List Nat)) : combE (ones ll.length) ll = sumE ll := by
  unfold combE sumE
  rw [ones_length]; simp

/-- So many ones are laid, the rest is noughts. -/
def someOnes (n k : Nat) : List Nat := part (ones k) n
theorem someOnes_length (n k : Nat) (h : k ≤ n) : (someOnes n k).length = n := part_length _ _ (by rw [ones_length]; exact h)
theorem someOnes_set (n k : Nat) (h : k < n) : (someOnes n k).set k 1 = someOnes n (k + 1) := by
  have e := part_set (ones k) n 1 (by rw [ones_length]; exact h)
  rw [ones_length] at e
  unfold someOnes
  rw [e, show ones k ++ [1] = ones (k + 1) from by simp [ones, List.replicate_succ']]
theorem someOnes_all (n : Nat) : someOnes n n = ones n := part_all _ _ (ones_length n)
theorem someOnes_zero (n : Nat) : someOnes n 0 = List.replicate n 0 := by simp [someOnes, part, ones]

theorem few_rows {ll : List (List Nat)} (h : fewB ll = true) : ll.length ≤ 40 ∧ (rowAt ll 0).length ≤ 100 := by
  unfold fewB at h
  rw [Bool.and_eq_true, List.all_eq_true, decide_eq_true_eq] at h
  refine ⟨h.2, ?_⟩
  cases ll with
  | nil => simp [rowAt]
  | cons x ll => simpa [rowAt] using h.1 x (by simp)

end Go.Proofs.Ytohfcdgpllghbaa

/-
  The document's answer for rows that lead (wellspringref03), in the program: 'Norm', 'Less', 'Same'.
-/
set_option maxRecDepth 100000
namespace Go.Proofs.Ytohfcdgpllghbaa
open Go.RowKit

/-- The value is a row (a vector, and data) that reads as these. -/
def IsRow (w : World) (u : Value) (p q : List Nat) : Prop := ∃ v d, u = .agg #[v, d] ∧ Bytes w v p ∧ Bytes w d q

theorem IsRow.below {w w' : World} {u : Value} {p q : List Nat} {B : Nat} (h : IsRow w u p q) (hB : w.heap.size ≤ B) (hb : Below B w w') : IsRow w' u p q := by
  obtain ⟨v, d, e, h1, h2⟩ := h
  exact ⟨v, d, e, h1.below hB hb, h2.below hB hb⟩

/-- The answer is a row; of what was there nothing has turned. -/
def RowsV (w : World) (p q : List Nat) (e : Ending) (w' : World) : Prop := ∃ u, e = .returned u ∧ IsRow w' u p q ∧ Below w.heap.size w w'
/-- The same, and an error's number. -/
def RowsE (w : World) (p q : List Nat) (err : Int) (e : Ending) (w' : World) : Prop := ∃ u, e = .returned (.tuple #[u, I64 err]) ∧ IsRow w' u p q ∧ Below w.heap.size w w'

/-- By what a row is multiplied, to be normed. -/
def normC (p : List Nat) : Nat := if lead p < p.length then Gf.inv (nth p (lead p)) else 1
theorem normC_lt (p : List Nat) : normC p < 256 := by
  unfold normC
  split
  · exact Gf.inv_lt _
  · decide

/-- A row's box, and a result's: what is in them stays where no call writes. -/
theorem two_blocks (w : World) (o1 o2 : Obj) : Below w.heap.size w ((w.alloc o1).alloc o2) := ((Below.refl _ _).alloc (Nat.le_refl _) _).alloc (by simp) _

set_option maxHeartbeats 1000000 in
theorem refnorm_some (b off cap : Nat) (d : Value) (p q : List Nat) (w : World) (hp : Bytes w (.slice (some ⟨b, off, none⟩) p.length cap) p) (hq : Bytes w d q) (hlp : p.length ≤ 10000000) (hlq : q.length ≤ 10000000) (hl : lead p < p.length) :
    Calls Try.prog 80 #[.agg #[.slice (some ⟨b, off, none⟩) p.length cap, d]] w (RowsV w (Gf.scale (normC p) p) (Gf.scale (normC p) q)) := by
  have HP := Lib.hid hp
  have HQ := Lib.hid hq
  have HL := Lib.hid (show leadI p = (lead p : Int) from if_pos hl)
  have HC := Lib.hid (show normC p = Gf.inv (nth p (lead p)) from if_pos hl)
  have hc := normC_lt p
  have hdec : decide ((lead p : Int) < 0) = false := by simp
  obtain ⟨i, hi⟩ : ∃ i, i = lead p := ⟨_, rfl⟩
  rw [← hi] at hl HL HC hdec
  clear hi
  have hcapp : p.length ≤ 9223372036854775807 := by omega
  clear hp hq
  go_enter Try.func80, Try.ntmps80
  go_wp2_with fail
  have B2 := two_blocks w (.cells #[.slice (some ⟨b, off, none⟩) p.length cap, d] 68) (.cells #[.slice none 0 0, .slice none 0 0] 68)
  have K1 := (Blk.new w #[.slice (some ⟨b, off, none⟩) p.length cap, d] 68 _ rfl).alloc (.cells #[.slice none 0 0, .slice none 0 0] 68)
  have K2 := Blk.new (w.alloc (.cells #[.slice (some ⟨b, off, none⟩) p.length cap, d] 68)) #[.slice none 0 0, .slice none 0 0] 68 (w.heap.size + 1) (by simp)
  generalize ((w.alloc (.cells #[.slice (some ⟨b, off, none⟩) p.length cap, d] 68)).alloc (.cells #[.slice none 0 0, .slice none 0 0] 68)) = W2 at *
  have HP2 := Lib.hid (HP.out.below (Nat.le_refl _) B2)
  have HQ2 := Lib.hid (HQ.out.below (Nat.le_refl _) B2)
  have HK1 := Lib.hid K1
  have HK2 := Lib.hid K2
  have hx0 : W2.cell? ⟨w.heap.size, 0, none⟩ = some (.slice (some ⟨b, off, none⟩) p.length cap) := K1.cell 0
  have hx1 : W2.cell? ⟨w.heap.size, 1, none⟩ = some d := K1.cell 1
  clear K1 K2
  refine (reflead_any _ _ _ HP2.out).mono ?_
  rintro e w' ⟨rfl, rfl⟩
  rw [HL.out]
  have hcell := HP2.out.cell i hl
  have hx := nth_lt HP2.out.lt i
  go_wp2_with fail
  refine (refinv_any _ _ hx).mono ?_
  rintro e w' ⟨rfl, rfl⟩
  rw [← HC.out]
  go_wp2_with fail
  clear hcell
  have D2 : Below W2.heap.size W2 W2.drew := Below.drew (Below.refl _ _)
  have HP3 := Lib.hid (HP2.out.below (Nat.le_refl _) D2)
  have tok1 : True := trivial
  go_region_held3 (fun w' => w'.cell? ⟨w.heap.size, 0, none⟩ = some (.slice (some ⟨b, off, none⟩) p.length cap) ∧ w'.cell? ⟨w.heap.size, 1, none⟩ = some d)
    (first | go_keep | exact ⟨cell_keep hx0 (by assumption), cell_keep hx1 (by assumption)⟩)
    (first | (go_at_call 98; have _t := tok1; refine (refscale_b _ _ p _ hc hlp HP3.out).mono ?_; rintro e w3 ⟨v3, rfl, hv3, hb3'⟩; have hb3 : Below W2.heap.size W2 w3 := D2.trans hb3'; have V3 := Lib.hid hv3; obtain ⟨a3, c3, rfl, _⟩ := hv3; clear tok1 _t) | (go_at_call 98; refine (refscale_b _ _ q _ hc hlq (HQ2.out.below (Nat.le_refl _) hb3)).mono ?_; rintro e w4 ⟨v4, rfl, hv4, hb4'⟩; have hb4 : Below W2.heap.size W2 w4 := hb3.trans (hb4'.mono hb3.size); have V4 := Lib.hid hv4; have V3' := Lib.hid (V3.out.below (Nat.le_refl _) hb4'); obtain ⟨a4, c4, rfl, _⟩ := hv4; have hr0 := (HK2.out.same hb4).cell 0; have hr1 := (HK2.out.same hb4).cell 1; have hf0 := (HK2.out.same hb4).free 0; have hf1 := (HK2.out.same hb4).free 1))
  have HK5 := ((HK2.out.same hb4).set2 (.slice a3 (Gf.scale (normC p) p).length c3) (.slice a4 (Gf.scale (normC p) q).length c4))
  have e0 := HK5.cell 0
  have e1 := HK5.cell 1
  go_wp2_with fail
  have G5 : w4.grownBy ((w4.setCell ⟨w.heap.size + 1, 0, none⟩ (.slice a3 (Gf.scale (normC p) p).length c3)).setCell ⟨w.heap.size + 1, 1, none⟩ (.slice a4 (Gf.scale (normC p) q).length c4)) (some (w.heap.size + 1)) := grown_trans (grown_setCell _ ⟨_, _, _⟩ _) (grown_setCell _ ⟨_, _, _⟩ _)
  have N5 := no_bytes2 (.slice none 0 0) (.slice none 0 0) (fun n e => by cases e) (fun n e => by cases e)
  have B4 : Below w.heap.size w w4 := B2.trans (hb4.mono (by have := B2.size; omega))
  exact bodyPost_ret (v := .agg #[.slice a3 (Gf.scale (normC p) p).length c3, .slice a4 (Gf.scale (normC p) q).length c4]) (by simp [results, Try.results80, go_sem, e0, e1]) rfl
    ⟨_, rfl, ⟨_, _, rfl, V3'.out.other (HK2.out.same hb4) N5 G5, V4.out.other (HK2.out.same hb4) N5 G5⟩, (B4.setCell (by show w.heap.size ≤ w.heap.size + 1; omega) _).setCell (by show w.heap.size ≤ w.heap.size + 1; omega) _⟩

set_option maxHeartbeats 1000000 in
theorem refnorm_none (a : Option Addr) (cap n : Nat) (a' : Option Addr) (n' cap' : Nat) (p q : List Nat) (w : World) (hp : Bytes w (.slice a n cap) p) (hq : Bytes w (.slice a' n' cap') q) (hl : lead p = p.length) :
    Calls Try.prog 80 #[.agg #[.slice a n cap, .slice a' n' cap']] w (RowsV w p q) := by
  have HP := Lib.hid hp
  have HQ := Lib.hid hq
  have HL := Lib.hid (show leadI p = -1 from if_neg (by omega))
  clear hp hq hl
  go_enter Try.func80, Try.ntmps80
  go_wp2_with fail
  have B2 := two_blocks w (.cells #[.slice a n cap, .slice a' n' cap'] 68) (.cells #[.slice none 0 0, .slice none 0 0] 68)
  have K1 := (Blk.new w #[.slice a n cap, .slice a' n' cap'] 68 _ rfl).alloc (.cells #[.slice none 0 0, .slice none 0 0] 68)
  have K2 := Blk.new (w.alloc (.cells #[.slice a n cap, .slice a' n' cap'] 68)) #[.slice none 0 0, .slice none 0 0] 68 (w.heap.size + 1) (by simp)
  generalize ((w.alloc (.cells #[.slice a n cap, .slice a' n' cap'] 68)).alloc (.cells #[.slice none 0 0, .slice none 0 0] 68)) = W2 at *
  have HP2 := Lib.hid (HP.out.below (Nat.le_refl _) B2)
  have HQ2 := Lib.hid (HQ.out.below (Nat.le_refl _) B2)
  have HK2 := Lib.hid K2
  have hx0 : W2.cell? ⟨w.heap.size, 0, none⟩ = some (.slice a n cap) := K1.cell 0
  have hx1 : W2.cell? ⟨w.heap.size, 1, none⟩ = some (.slice a' n' cap') := K1.cell 1
  have hr0 : W2.cell? ⟨w.heap.size + 1, 0, none⟩ = some (.slice none 0 0) := K2.cell 0
  have hr1 : W2.cell? ⟨w.heap.size + 1, 1, none⟩ = some (.slice none 0 0) := K2.cell 1
  have hf0 := K2.free 0
  have hf1 := K2.free 1
  clear K1 K2
  refine (reflead_any _ _ _ HP2.out).mono ?_
  rintro e w' ⟨rfl, rfl⟩
  rw [HL.out]
  go_wp2_with fail
  have HK5 := HK2.out.set2 (.slice a n cap) (.slice a' n' cap')
  have e0 := HK5.cell 0
  have e1 := HK5.cell 1
  have G5 : W2.grownBy ((W2.setCell ⟨w.heap.size + 1, 0, none⟩ (.slice a n cap)).setCell ⟨w.heap.size + 1, 1, none⟩ (.slice a' n' cap')) (some (w.heap.size + 1)) := grown_trans (grown_setCell _ ⟨_, _, _⟩ _) (grown_setCell _ ⟨_, _, _⟩ _)
  have N5 := no_bytes2 (.slice none 0 0) (.slice none 0 0) (fun n e => by cases e) (fun n e => by cases e)
  exact bodyPost_ret (v := .agg #[.slice a n cap, .slice a' n' cap']) (by simp [results, Try.results80, go_sem, e0, e1]) rfl
    ⟨_, rfl, ⟨_, _, rfl, HP2.out.other HK2.out N5 G5, HQ2.out.other HK2.out N5 G5⟩, (B2.setCell (by show w.heap.size ≤ w.heap.size + 1; omega) _).setCell (by show w.heap.size ≤ w.heap.size + 1; omega) _⟩

theorem refnorm_any (u : Value) (p q : List Nat) (w : World) (hu : IsRow w u p q) (hlp : p.length ≤ 10000000) (hlq : q.length ≤ 10000000) :
    Calls Try.prog 80 #[u] w (RowsV w (Gf.scale (normC p) p) (Gf.scale (normC p) q)) := by
  obtain ⟨v, d, rfl, hp, hq⟩ := hu
  have hp0 := hp
  have hq0 := hq
  obtain ⟨a, cap, rfl, _, _, _, h4⟩ := hp
  obtain ⟨a', cap', rfl, _, _, _, _⟩ := hq
  by_cases hl : lead p < p.length
  · obtain ⟨b, off, rfl, _, _⟩ := h4 (by intro h; rw [h] at hl; simp at hl)
    exact refnorm_some b off cap _ p q w hp0 hq0 hlp hlq hl
  · have h1 : normC p = 1 := if_neg hl
    rw [h1, scale_one hp0.lt, scale_one hq0.lt]
    exact refnorm_none a cap _ a' _ cap' p q w hp0 hq0 (by have := lead_le p; omega)

set_option maxHeartbeats 1000000 in
theorem refrowsame_any (u0 u1 : Value) (p q p' q' : List Nat) (w : World) (h0 : IsRow w u0 p q) (h1 : IsRow w u1 p' q') :
    Calls Try.prog 40 #[u0, u1] w fun e w' => e = .returned (.bool (decide (p = p') && decide (q = q'))) ∧ Below w.heap.size w w' := by
  obtain ⟨v0, d0, rfl, hp0, hq0⟩ := h0
  obtain ⟨v1, d1, rfl, hp1, hq1⟩ := h1
  obtain ⟨t, ht⟩ : ∃ t, t = (decide (p = p') && decide (q = q')) := ⟨_, rfl⟩
  rw [← ht]
  have HT := Lib.hid ht
  clear ht
  have HP0 := Lib.hid hp0
  have HQ0 := Lib.hid hq0
  have HP1 := Lib.hid hp1
  have HQ1 := Lib.hid hq1
  clear hp0 hq0 hp1 hq1
  go_enter Try.func40, Try.ntmps40
  go_wp2_with fail
  have B2 := two_blocks w (.cells #[v0, d0] 68) (.cells #[v1, d1] 68)
  have K1 := (Blk.new w #[v0, d0] 68 _ rfl).alloc (.cells #[v1, d1] 68)
  have K2 := Blk.new (w.alloc (.cells #[v0, d0] 68)) #[v1, d1] 68 (w.heap.size + 1) (by simp)
  generalize ((w.alloc (.cells #[v0, d0] 68)).alloc (.cells #[v1, d1] 68)) = W2 at *
  refine (same_any v0 v1 p p' _ (HP0.out.below (Nat.le_refl _) B2) (HP1.out.below (Nat.le_refl _) B2)).mono ?_
  rintro e w3 ⟨rfl, hb3⟩
  have hx1 : w3.cell? ⟨w.heap.size, 1, none⟩ = some d0 := (K1.same hb3).cell 1
  have hy1 : w3.cell? ⟨w.heap.size + 1, 1, none⟩ = some d1 := (K2.same hb3).cell 1
  have B3 := B2.trans (hb3.mono B2.size)
  by_cases hpp : p = p'
  · have HE : Hid (t = decide (q = q')) := Lib.hid (by rw [HT.out, decide_eq_true hpp, Bool.true_and])
    have HD := Lib.hid (decide_eq_true hpp)
    rw [HD.out]
    clear K1 K2 hpp
    go_wp2_with fail
    refine (same_any d0 d1 q q' _ (HQ0.out.below (Nat.le_refl _) B3) (HQ1.out.below (Nat.le_refl _) B3)).mono ?_
    rintro e w4 ⟨rfl, hb4⟩
    go_wp2_with fail
    go_ret
    exact ⟨by rw [HE.out]; rfl, B3.trans (hb4.mono B3.size)⟩
  · have HE : Hid (t = false) := Lib.hid (by rw [HT.out, decide_eq_false hpp, Bool.false_and])
    have HD := Lib.hid (decide_eq_false hpp)
    rw [HD.out]
    clear K1 K2 hpp
    go_wp2_with fail
    go_ret
    exact ⟨by rw [HE.out]; rfl, B3⟩

end Go.Proofs.Ytohfcdgpllghbaa
