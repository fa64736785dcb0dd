/- Texts of one seat, laid together: RefThree, LawTwo, LawTwoB, LawTwoC, RefRow, RefLess, GrowS. -/
import Derived.Test.YtphdadibfeencaaGreatSolveHoldsQ3
import Derived.Test.YtphdadibfeencaaGreatSolveHoldsQ1
import Derived.Test.YtphdadibfeencaaGreatSolveHoldsQ2

/-
  The document's answer for rows (wellspringref02), in the program: 'Comb'.
-/
set_option maxRecDepth 100000
namespace Go.Proofs.YtphdadibfeencaaGreat
open Go.RowKit

/-- The answer is a slice that the call grew itself, or none, and an error's number. -/
def GrownE (w : World) (l : List Nat) (err : Int) (e : Ending) (w' : World) : Prop := ∃ v, e = .returned (.tuple #[v, I64 err]) ∧ Owns w' w.heap.size v l ∧ Below w.heap.size w w'

/-- One place of a combination: the first k rows. -/
def combAt (cs : List Nat) (ll : List (List Nat)) (i : Nat) : Nat → Nat
  | 0 => 0
  | k + 1 => combAt cs ll i k ^^^ Gf.mul (nth cs k) (nth (rowAt ll k) i)

theorem combAt_lt {cs : List Nat} (hc : ∀ x, x ∈ cs → x < 256) (ll : List (List Nat)) (i : Nat) : ∀ k, combAt cs ll i k < 256
  | 0 => show 0 < 256 by decide
  | k + 1 => Gf.xor_lt (combAt_lt hc ll i k) (Gf.mul_lt (nth_lt hc k) _)

/-- The first m places of a combination. -/
def combT (cs : List Nat) (ll : List (List Nat)) (m : Nat) : List Nat := (List.range m).map fun i => combAt cs ll i ll.length

theorem combT_length (cs : List Nat) (ll : List (List Nat)) (m : Nat) : (combT cs ll m).length = m := by simp [combT]
theorem combT_succ (cs : List Nat) (ll : List (List Nat)) (m : Nat) : combT cs ll (m + 1) = combT cs ll m ++ [combAt cs ll m ll.length] := by simp [combT, List.range_succ]
theorem combT_lt {cs : List Nat} (hc : ∀ x, x ∈ cs → x < 256) (ll : List (List Nat)) (m : Nat) : ∀ x, x ∈ combT cs ll m → x < 256 := by
  intro x hx
  obtain ⟨i, _, rfl⟩ := List.mem_map.1 hx
  exact combAt_lt hc ll i _

theorem nth_add (s r : List Nat) (i : Nat) (hs : i < s.length) (hr : i < r.length) : nth (Gf.add s r) i = nth s i ^^^ nth r i := by
  rw [nth_eq _ _ (by simp [Gf.add]; omega), nth_eq s i hs, nth_eq r i hr]
  simp [Gf.add]
theorem nth_scale (c : Nat) (l : List Nat) (i : Nat) (h : i < l.length) : nth (Gf.scale c l) i = Gf.mul c (nth l i) := by
  rw [nth_eq _ _ (by rw [Gf.scale_length]; exact h), nth_eq l i h]
  simp [Gf.scale]

theorem combK_nth {cs : List Nat} {ll : List (List Nat)} (hA : alikeB ll = true) (i : Nat) (hi : i < (rowAt ll 0).length) : ∀ k, k ≤ ll.length → nth (combK cs ll k) i = combAt cs ll i k
  | 0, _ => by
    show nth (zeros _) i = 0
    rw [nth_eq _ _ (by rw [zeros_length]; exact hi)]; simp [zeros]
  | k + 1, hk => by
    have e := alike_at hA (show k < ll.length by omega)
    show nth (Gf.add (combK cs ll k) (Gf.scale (nth cs k) (rowAt ll k))) i = _
    rw [nth_add _ _ _ (by rw [combK_length hA k (by omega)]; exact hi) (by rw [Gf.scale_length, e]; exact hi), combK_nth hA i hi k (by omega), nth_scale _ _ _ (by rw [e]; exact hi)]
    rfl

theorem combK_eq {cs : List Nat} {ll : List (List Nat)} (hA : alikeB ll = true) : combK cs ll ll.length = combT cs ll (rowAt ll 0).length := by
  refine ext_nth (by rw [combK_length hA _ (Nat.le_refl _), combT_length]) fun j hj => ?_
  rw [combK_length hA _ (Nat.le_refl _)] at hj
  rw [combK_nth hA j hj _ (Nat.le_refl _), nth_eq _ _ (by rw [combT_length]; exact hj)]
  simp [combT]

set_option maxHeartbeats 400000 in
theorem refcomb_many (a0 a1 : Option Addr) (n0 n1 c0 c1 : Nat) (w : World) (hne : n0 ≠ n1) :
    Calls Tryz.prog 20 #[.slice a0 n0 c0, .slice a1 n1 c1] w (GrownE w [] 4) := by
  have hb : ((n0 : Int) != (n1 : Int)) = true := by rw [bne_iff_ne]; omega
  clear hne
  go_enter Tryz.func20, Tryz.ntmps20
  go_wp2_with fail
  go_ret2
  exact ⟨_, rfl, Owns.nil _ _, Below.refl _ _⟩

set_option maxHeartbeats 400000 in
theorem refcomb_empty (a0 a1 : Option Addr) (c0 c1 : Nat) (w : World) :
    Calls Tryz.prog 20 #[.slice a0 0 c0, .slice a1 0 c1] w (GrownE w [] 0) := by
  go_enter Tryz.func20, Tryz.ntmps20
  go_wp2_with fail
  go_ret2
  exact ⟨_, rfl, Owns.nil _ _, Below.refl _ _⟩

set_option maxHeartbeats 1000000 in
theorem refcomb_unlike (a0 : Option Addr) (n c0 b off cap : Nat) (ll : List (List Nat)) (w : World) (hl : n = ll.length) (hn : 1 ≤ ll.length) (hR : IsRows w (.slice (some ⟨b, off, none⟩) ll.length cap) ll) (hA : alikeB ll = false) :
    Calls Tryz.prog 20 #[.slice a0 n c0, .slice (some ⟨b, off, none⟩) ll.length cap] w (GrownE w [] 4) := by
  have hb : ((n : Int) != (ll.length : Int)) = false := by rw [hl]; simp
  have hb1 : ((ll.length : Int) == 0) = false := beq_eq_false_iff_ne.2 (by omega)
  have hcap : ll.length ≤ 9223372036854775807 := by obtain ⟨_, _, _, h1, h2, _⟩ := hR; omega
  have HX := Lib.hid (alikeB_eq ll)
  have HA := Lib.hid hA
  have HR := Lib.hid hR
  clear hR hA hl
  go_enter Tryz.func20, Tryz.ntmps20
  go_wp2_with fail
  go_loopw [6] (fun i wr => ∃ k : Nat, k ≤ ll.length ∧ i = .int .i64 k ∧ (∀ j, j < k → (rowAt ll j).length = (rowAt ll 0).length) ∧ Below w.heap.size w wr) (fun i _ => ll.length - (intOf i).toNat)
  case atStart => exact ⟨0, by omega, rfl, fun j hj => by omega, Below.refl _ _⟩
  case round =>
    obtain ⟨k, hk, rfl, hno, hbel⟩ := hrel
    have HN := Lib.hid hno
    clear hno
    by_cases hlt : k < ll.length
    · have hRr := HR.out.below (Nat.le_refl _) hbel
      obtain ⟨u0, hu0, hB0⟩ := hRr.cell 0 (by omega)
      obtain ⟨a0', c0', rfl, _⟩ := hB0
      rw [Nat.add_zero] at hu0
      obtain ⟨u, hu, hB⟩ := hRr.cell k hlt
      obtain ⟨a1, c1, rfl, _⟩ := hB
      have k0 : (0 : Int) ≤ (k : Int) := Int.natCast_nonneg _
      have k1 : (k : Int) < (ll.length : Int) := by omega
      have k2 : (0 : Int) < (ll.length : Int) := by omega
      clear hRr
      by_cases hq : (rowAt ll k).length = (rowAt ll 0).length
      · have hb2 : (((rowAt ll k).length : Int) != ((rowAt ll 0).length : Int)) = false := by rw [hq]; simp
        have HQ := Lib.hid hq
        clear hq
        go_wp2_with fail
        go_quiet (fail)
        go_wp2_with fail
        refine ⟨⟨k + 1, by omega, by go_num, fun j hj => ?_, below_drewN hbel _⟩, by simp [intOf]; omega⟩
        by_cases h : j = k
        · rw [h]; exact HQ.out
        · exact HN.out j (by omega)
      · have hb2 : (((rowAt ll k).length : Int) != ((rowAt ll 0).length : Int)) = true := by rw [bne_iff_ne]; omega
        clear hq
        go_wp2_with fail
        go_quiet (fail)
        go_wp2_with fail
        go_ret2
        exact ⟨_, rfl, Owns.nil _ _, below_drewN hbel _⟩
    · exfalso
      have h := HX.out
      rw [HA.out] at h
      obtain ⟨i, hi, hne⟩ := of_decide_eq_true h.symm
      exact hne (HN.out i (by omega))

set_option maxHeartbeats 2000000 in
theorem refcomb_some (b0 off0 c0 b off cap : Nat) (cs : List Nat) (ll : List (List Nat)) (w : World) (hl : cs.length = ll.length) (hn : 1 ≤ ll.length) (hm : (rowAt ll 0).length ≤ 70000000000000) (hC : Bytes w (.slice (some ⟨b0, off0, none⟩) cs.length c0) cs) (hR : IsRows w (.slice (some ⟨b, off, none⟩) ll.length cap) ll) (hA : alikeB ll = true) :
    Calls Tryz.prog 20 #[.slice (some ⟨b0, off0, none⟩) cs.length c0, .slice (some ⟨b, off, none⟩) ll.length cap] w (GrownE w (combT cs ll (rowAt ll 0).length) 0) := by
  have hb : ((cs.length : Int) != (ll.length : Int)) = false := by rw [hl]; simp
  have hb1 : ((ll.length : Int) == 0) = false := beq_eq_false_iff_ne.2 (by omega)
  have hcap : ll.length ≤ 9223372036854775807 := by obtain ⟨_, _, _, h1, h2, _⟩ := hR; omega
  have hle : ll.length ≤ cs.length := by omega
  have HA := Lib.hid hA
  have HR := Lib.hid hR
  have HC := Lib.hid hC
  have HCL := Lib.hid hC.lt
  have k2 : (0 : Int) < (ll.length : Int) := by omega
  clear hR hA hl hC
  go_enter Tryz.func20, Tryz.ntmps20
  go_wp2_with fail
  go_loopw [6] (fun i wr => ∃ k : Nat, k ≤ ll.length ∧ i = .int .i64 k ∧ Below w.heap.size w wr) (fun i _ => ll.length - (intOf i).toNat)
  case atStart => exact ⟨0, by omega, rfl, Below.refl _ _⟩
  case round =>
    obtain ⟨k, hk, rfl, hbel⟩ := hrel
    by_cases hlt : k < ll.length
    · have hRr := HR.out.below (Nat.le_refl _) hbel
      obtain ⟨u0, hu0, hB0⟩ := hRr.cell 0 (by omega)
      obtain ⟨a0', c0', rfl, _⟩ := hB0
      rw [Nat.add_zero] at hu0
      obtain ⟨u, hu, hB⟩ := hRr.cell k hlt
      obtain ⟨a1, c1, rfl, _⟩ := hB
      have k0 : (0 : Int) ≤ (k : Int) := Int.natCast_nonneg _
      have k1 : (k : Int) < (ll.length : Int) := by omega
      have hb2 : (((rowAt ll k).length : Int) != ((rowAt ll 0).length : Int)) = false := by rw [alike_at HA.out hlt]; simp
      clear hRr
      go_wp2_with fail
      go_quiet (fail)
      go_wp2_with fail
      exact ⟨⟨k + 1, by omega, by go_num, below_drewN hbel _⟩, by simp [intOf]; omega⟩
    · obtain rfl : k = ll.length := by omega
      clear hk hlt
      have HR1 := Lib.hid (HR.out.below (Nat.le_refl _) hbel)
      have HC1 := Lib.hid (HC.out.below (Nat.le_refl _) hbel)
      obtain ⟨w1, hw1⟩ : ∃ w1 : World, w1 = wr := ⟨_, rfl⟩
      subst hw1
      have hz := hbel.size
      go_wp2_with fail
      go_loopw [7, 8, 9, 10] (fun v i _ _ wr => ∃ k : Nat, k ≤ (rowAt ll 0).length ∧ i = .int .i64 k ∧ Owns wr w1.heap.size v (combT cs ll k) ∧ Below w1.heap.size w1 wr) (fun _ i _ _ _ => (rowAt ll 0).length - (intOf i).toNat)
      case atStart => exact ⟨0, by omega, rfl, Owns.nil _ _, Below.refl _ _⟩
      case round =>
        obtain ⟨k, hk, rfl, hown, hb1r⟩ := hrel
        have HO := Lib.hid hown
        clear hown
        obtain ⟨u0, hu0, hB0⟩ := HR1.out.at hb1r 0 (by omega)
        obtain ⟨a0', c0', rfl, _⟩ := hB0
        rw [Nat.add_zero] at hu0
        by_cases hlt : k < (rowAt ll 0).length
        · go_wp2_with fail
          obtain ⟨wo, hwo⟩ : ∃ wo : World, wo = wr := ⟨_, rfl⟩
          subst hwo
          go_loopw [9, 10] (fun s i wr => ∃ j : Nat, j ≤ ll.length ∧ i = .int .i64 j ∧ s = U8 (combAt cs ll k j) ∧ Below wo.heap.size wo wr) (fun _ i _ => ll.length - (intOf i).toNat)
          case atStart => exact ⟨0, by omega, rfl, rfl, Below.refl _ _⟩
          case round =>
            obtain ⟨j, hj, rfl, rfl, hbi⟩ := hrel
            have d1 := combAt_lt HCL.out ll k j
            by_cases hjl : j < ll.length
            · have hbj : Below w1.heap.size w1 wr := hb1r.trans (hbi.mono hb1r.size)
              have hcs := (HC1.out.below (Nat.le_refl _) hbj).cell j (by omega)
              obtain ⟨u, hu, hB⟩ := HR1.out.at hbj j hjl
              have hB2 := hB.below (Nat.le_refl _) hbj
              have ha := alike_at HA.out hjl
              have hne : rowAt ll j ≠ [] := by intro h; rw [h] at ha; simp at ha; omega
              obtain ⟨a1, c1, rfl, _, _, _, h4⟩ := hB2
              obtain ⟨bk, offk, rfl, _, hck⟩ := h4 hne
              have hci := hck k (by omega)
              have q1 := nth_lt HCL.out j
              have k0 : (0 : Int) ≤ (k : Int) := Int.natCast_nonneg _
              have k1 : (k : Int) < ((rowAt ll j).length : Int) := by omega
              have j0 : (0 : Int) ≤ (j : Int) := Int.natCast_nonneg _
              have j1 : (j : Int) < (ll.length : Int) := by omega
              have j2 : (j : Int) < (cs.length : Int) := by omega
              have HS : Hid (bits BinOp.xor IntKind.u8 (combAt cs ll k j : Int) (Gf.mul (nth cs j) (nth (rowAt ll j) k) : Int) = (combAt cs ll k (j + 1) : Int)) := Lib.hid (by
                rw [u8_xor_nat _ _ d1 (Gf.mul_lt q1 _)]; rfl)
              clear hck h4 hB ha hne
              go_wp2_with fail
              go_quiet ((go_at_call 37; exact Calls.quiet_of_same (refmul_q _ _ _ q1)))
              go_wp2_with fail
              exact ⟨⟨j + 1, by omega, by go_num, u8_eq HS.out, below_drewN hbi _⟩, by simp [intOf]; omega⟩
            · obtain rfl : j = ll.length := by omega
              have HO1 := Lib.hid (HO.out.below (Nat.le_refl _) hbi)
              have hb1w : Below w1.heap.size w1 wr := hb1r.trans (hbi.mono hb1r.size)
              have hz1 := hb1w.size
              go_wp2_with (at_builtin; refine wpList_append_byte rfl (.tmp 63) (.tmp 65) rfl w1.heap.size wr.heap.size _ _ (combAt cs ll k ll.length) 5 rfl rfl rfl HO1.out ?c1 ?c2 ?_)
              case c1 => exact hz1
              case c2 => rw [combT_length]; omega
              intro v' w2 hown2 hgr
              rw [← combT_succ] at hown2
              have HO2 := Lib.hid hown2
              have HG := Lib.hid (hb1w.grown hgr hz1 HO1.out.from)
              clear hown2 hgr
              go_wp2_with fail
              go_roundw
              case rel => exact ⟨k + 1, by omega, by go_num, HO2.out, HG.out⟩
              case measure => simp [intOf]; omega
        · obtain rfl : k = (rowAt ll 0).length := by omega
          go_wp2_with fail
          go_ret2
          exact ⟨_, rfl, HO.out.mono hz, hbel.trans (hb1r.mono hz)⟩

/-- What Comb answers, row by row. -/
theorem combL_eq (cs : List Nat) (ll : List (List Nat)) : combL cs ll = if cs.length = ll.length ∧ alikeB ll = true ∧ ll ≠ [] then combT cs ll (rowAt ll 0).length else [] := by
  unfold combL
  split
  · rename_i h; rw [combK_eq h.2.1]
  · rfl

theorem refcomb_any (v0 v : Value) (cs : List Nat) (ll : List (List Nat)) (w : World) (hm : (rowAt ll 0).length ≤ 70000000000000) (hC : Bytes w v0 cs) (hR : IsRows w v ll) :
    Calls Tryz.prog 20 #[v0, v] w (GrownE w (combL cs ll) (combE cs ll)) := by
  have hC0 := hC
  have hR0 := hR
  obtain ⟨a0, c0, rfl, _, _, _, g4⟩ := hC
  obtain ⟨a, cap, rfl, h1, h2, h4⟩ := hR
  rw [combL_eq]
  unfold combE
  by_cases hl : cs.length = ll.length
  · cases ll with
    | nil =>
      rw [if_neg (by simp), if_pos ⟨hl, rfl⟩]
      have e : cs.length = 0 := hl
      rw [e]
      exact refcomb_empty a0 a c0 cap w
    | cons x ll =>
      obtain ⟨b, off, rfl, _, _⟩ := h4 (by simp)
      obtain ⟨b0, off0, rfl, _, _⟩ := g4 (by intro h; rw [h] at hl; simp at hl)
      by_cases hA : alikeB (x :: ll) = true
      · rw [if_pos ⟨hl, hA, by simp⟩, if_pos ⟨hl, hA⟩]
        exact refcomb_some b0 off0 c0 b off cap cs _ w hl (by simp) hm hC0 hR0 hA
      · rw [if_neg (by simp [hA]), if_neg (by simp [hA])]
        exact refcomb_unlike _ _ c0 b off cap _ w hl (by simp) hR0 (by simpa using hA)
  · rw [if_neg (by simp [hl]), if_neg (by simp [hl])]
    exact refcomb_many a0 a _ _ c0 cap w hl

end Go.Proofs.YtphdadibfeencaaGreat

/-
  The statements of layer 2 (kern), walked: what they share.
-/
set_option maxRecDepth 100000
namespace Go.Proofs.YtphdadibfeencaaGreat
open Go.RowKit


theorem combL_lt {cs : List Nat} (hc : ∀ x, x ∈ cs → x < 256) (ll : List (List Nat)) : ∀ x, x ∈ combL cs ll → x < 256 := by
  rw [combL_eq]
  split
  · exact combT_lt hc ll _
  · simp
theorem combL_length (cs : List Nat) (ll : List (List Nat)) : (combL cs ll).length ≤ (rowAt ll 0).length := by
  rw [combL_eq]
  split
  · rw [combT_length]; exact Nat.le_refl _
  · simp
theorem axpyL_lt {c : Nat} {x y : List Nat} (hc : c < 256) (hy : ∀ z, z ∈ y → z < 256) : ∀ z, z ∈ axpyL c x y → z < 256 := by
  unfold axpyL
  split
  · exact Gf.add_lt (Gf.scale_lt hc x) hy
  · simp
theorem axpyL_length (c : Nat) (x y : List Nat) : (axpyL c x y).length ≤ x.length := by
  unfold axpyL
  split
  · rename_i h; rw [Gf.add_length _ _ (by rw [Gf.scale_length]; exact h), Gf.scale_length]; exact Nat.le_refl _
  · simp

theorem scale_b (c : Nat) (v : Value) (l : List Nat) (w : World) (hc : c < 256) (hn : l.length ≤ 10000000) (hB : Bytes w v l) :
    Calls Tryz.prog 36 #[U8 c, v] w (BytesV w (Gf.scale c l)) :=
  (scale_any c v l w hc (by omega) hB).mono fun _ _ ⟨g, he, _, hO, hb⟩ => ⟨_, he, hO.bytes (Gf.scale_lt hc l) (by rw [Gf.scale_length]; omega), hb⟩
theorem refscale_b (c : Nat) (v : Value) (l : List Nat) (w : World) (hc : c < 256) (hn : l.length ≤ 10000000) (hB : Bytes w v l) :
    Calls Tryz.prog 69 #[U8 c, v] w (BytesV w (Gf.scale c l)) :=
  (refscale_any c v l w hc (by omega) hB).mono fun _ _ ⟨v, he, hO, hb⟩ => ⟨v, he, hO.bytes (Gf.scale_lt hc l), hb⟩
theorem refcomb_b (v0 v : Value) (cs : List Nat) (ll : List (List Nat)) (w : World) (hm : (rowAt ll 0).length ≤ 10000000) (hC : Bytes w v0 cs) (hR : IsRows w v ll) :
    Calls Tryz.prog 20 #[v0, v] w (BytesE w (combL cs ll) (combE cs ll)) :=
  (refcomb_any v0 v cs ll w (by omega) hC hR).mono fun _ _ ⟨v, he, hO, hb⟩ => ⟨v, he, hO.bytes (combL_lt hC.lt ll), hb⟩
theorem axpy_b (c : Nat) (v0 v1 : Value) (x y : List Nat) (w : World) (hc : c < 256) (hn : x.length ≤ 10000000) (hx : Bytes w v0 x) (hy : Bytes w v1 y) :
    Calls Tryz.prog 90 #[U8 c, v0, v1] w (BytesE w (axpyL c x y) (axpyE x y)) :=
  (axpy_any c v0 v1 x y w hc (by omega) hx hy).mono fun _ _ ⟨v, he, hF, hb⟩ => ⟨v, he, hF.bytes (axpyL_lt hc hy.lt) (by have := axpyL_length c x y; omega), hb⟩

theorem bytes_new2 (w : World) (x y : Int) (a b : Nat) (T : TypeId) (k : Nat) (hk : k = w.heap.size) (hx : x = a) (hy : y = b) (ha : a < 256) (hb : b < 256) :
    Bytes (w.alloc (.cells #[.int .u8 x, .int .u8 y] T)) (.slice (some ⟨k, 0, none⟩) 2 2) [a, b] := by
  subst hk; subst hx; subst hy
  exact bytes_new w [a, b] T (by simp [ha, hb]) (by simp)

end Go.Proofs.YtphdadibfeencaaGreat

/-
  The statements of layer 2 (kern), walked: KernPairs.
-/
set_option maxRecDepth 100000
namespace Go.Proofs.YtphdadibfeencaaGreat
open Go.RowKit

theorem rows_new2 (w : World) (u0 u1 : Value) (x y : List Nat) (T : TypeId) (k : Nat) (hk : k = w.heap.size) (hx : Bytes w u0 x) (hy : Bytes w u1 y) :
    IsRows (w.alloc (.cells #[u0, u1] T)) (.slice (some ⟨k, 0, none⟩) 2 2) [x, y] := by
  subst hk
  have hb : Below w.heap.size w (w.alloc (.cells #[u0, u1] T)) := (Below.refl _ _).alloc (Nat.le_refl _) _
  refine ⟨_, 2, rfl, Nat.le_refl _, by omega, fun _ => ⟨w.heap.size, 0, rfl, by simp, fun i hi => ?_⟩⟩
  have h2 : i < 2 := hi
  match i, h2 with
  | 0, _ => exact ⟨u0, by rw [World.cell?_alloc_at _ _ _ _ rfl]; rfl, hx.below (Nat.le_refl _) hb⟩
  | 1, _ => exact ⟨u1, by rw [World.cell?_alloc_at _ _ _ _ rfl]; rfl, hy.below (Nat.le_refl _) hb⟩

end Go.Proofs.YtphdadibfeencaaGreat

/-
  The statements of layer 2 (kern), walked: KernReckons.
-/
set_option maxRecDepth 100000
namespace Go.Proofs.YtphdadibfeencaaGreat
open Go.RowKit

/-- As many ones. -/
def ones (n : Nat) : List Nat := List.replicate n 1

theorem scale_one {l : List Nat} (h : ∀ x, x ∈ l → x < 256) : Gf.scale 1 l = l := by
  refine ext_nth (Gf.scale_length 1 l) fun j hj => ?_
  rw [Gf.scale_length] at hj
  rw [nth_scale 1 l j hj, Gf.one_mul (nth_lt h j)]

end Go.Proofs.YtphdadibfeencaaGreat

/-
  The document's answer for rows that lead (wellspringref03), in the program: 'Norm', 'Less', 'Same'.
-/
set_option maxRecDepth 100000
namespace Go.Proofs.YtphdadibfeencaaGreat
open Go.RowKit

/-- The value is a row (a vector, and data) that reads as these. -/
def IsRow (w : World) (u : Value) (p q : List Nat) : Prop := ∃ v d, u = .agg #[v, d] ∧ Bytes w v p ∧ Bytes w d q

theorem IsRow.below {w w' : World} {u : Value} {p q : List Nat} {B : Nat} (h : IsRow w u p q) (hB : w.heap.size ≤ B) (hb : Below B w w') : IsRow w' u p q := by
  obtain ⟨v, d, e, h1, h2⟩ := h
  exact ⟨v, d, e, h1.below hB hb, h2.below hB hb⟩

/-- The answer is a row; of what was there nothing has turned. -/
def RowsV (w : World) (p q : List Nat) (e : Ending) (w' : World) : Prop := ∃ u, e = .returned u ∧ IsRow w' u p q ∧ Below w.heap.size w w'
/-- The same, and an error's number. -/
def RowsE (w : World) (p q : List Nat) (err : Int) (e : Ending) (w' : World) : Prop := ∃ u, e = .returned (.tuple #[u, I64 err]) ∧ IsRow w' u p q ∧ Below w.heap.size w w'

/-- By what a row is multiplied, to be normed. -/
def normC (p : List Nat) : Nat := if lead p < p.length then Gf.inv (nth p (lead p)) else 1
theorem normC_lt (p : List Nat) : normC p < 256 := by
  unfold normC
  split
  · exact Gf.inv_lt _
  · decide

/-- A row's box, and a result's: what is in them stays where no call writes. -/
theorem two_blocks (w : World) (o1 o2 : Obj) : Below w.heap.size w ((w.alloc o1).alloc o2) := ((Below.refl _ _).alloc (Nat.le_refl _) _).alloc (by simp) _

set_option maxHeartbeats 1000000 in
theorem refnorm_some (b off cap : Nat) (d : Value) (p q : List Nat) (w : World) (hp : Bytes w (.slice (some ⟨b, off, none⟩) p.length cap) p) (hq : Bytes w d q) (hlp : p.length ≤ 10000000) (hlq : q.length ≤ 10000000) (hl : lead p < p.length) :
    Calls Tryz.prog 44 #[.agg #[.slice (some ⟨b, off, none⟩) p.length cap, d]] w (RowsV w (Gf.scale (normC p) p) (Gf.scale (normC p) q)) := by
  have HP := Lib.hid hp
  have HQ := Lib.hid hq
  have HL := Lib.hid (show leadI p = (lead p : Int) from if_pos hl)
  have HC := Lib.hid (show normC p = Gf.inv (nth p (lead p)) from if_pos hl)
  have hc := normC_lt p
  have hdec : decide ((lead p : Int) < 0) = false := by simp
  obtain ⟨i, hi⟩ : ∃ i, i = lead p := ⟨_, rfl⟩
  rw [← hi] at hl HL HC hdec
  clear hi
  have hcapp : p.length ≤ 9223372036854775807 := by omega
  clear hp hq
  go_enter Tryz.func44, Tryz.ntmps44
  go_wp2_with fail
  have B2 := two_blocks w (.cells #[.slice (some ⟨b, off, none⟩) p.length cap, d] 50) (.cells #[.slice none 0 0, .slice none 0 0] 50)
  have K1 := (Blk.new w #[.slice (some ⟨b, off, none⟩) p.length cap, d] 50 _ rfl).alloc (.cells #[.slice none 0 0, .slice none 0 0] 50)
  have K2 := Blk.new (w.alloc (.cells #[.slice (some ⟨b, off, none⟩) p.length cap, d] 50)) #[.slice none 0 0, .slice none 0 0] 50 (w.heap.size + 1) (by simp)
  generalize ((w.alloc (.cells #[.slice (some ⟨b, off, none⟩) p.length cap, d] 50)).alloc (.cells #[.slice none 0 0, .slice none 0 0] 50)) = W2 at *
  have HP2 := Lib.hid (HP.out.below (Nat.le_refl _) B2)
  have HQ2 := Lib.hid (HQ.out.below (Nat.le_refl _) B2)
  have HK1 := Lib.hid K1
  have HK2 := Lib.hid K2
  have hx0 : W2.cell? ⟨w.heap.size, 0, none⟩ = some (.slice (some ⟨b, off, none⟩) p.length cap) := K1.cell 0
  have hx1 : W2.cell? ⟨w.heap.size, 1, none⟩ = some d := K1.cell 1
  clear K1 K2
  refine (reflead_any _ _ _ HP2.out).mono ?_
  rintro e w' ⟨rfl, rfl⟩
  rw [HL.out]
  have hcell := HP2.out.cell i hl
  have hx := nth_lt HP2.out.lt i
  go_wp2_with fail
  refine (refinv_any _ _ hx).mono ?_
  rintro e w' ⟨rfl, rfl⟩
  rw [← HC.out]
  go_wp2_with fail
  clear hcell
  have D2 : Below W2.heap.size W2 W2.drew := Below.drew (Below.refl _ _)
  have HP3 := Lib.hid (HP2.out.below (Nat.le_refl _) D2)
  have tok1 : True := trivial
  go_region_held3 (fun w' => w'.cell? ⟨w.heap.size, 0, none⟩ = some (.slice (some ⟨b, off, none⟩) p.length cap) ∧ w'.cell? ⟨w.heap.size, 1, none⟩ = some d)
    (first | go_keep | exact ⟨cell_keep hx0 (by assumption), cell_keep hx1 (by assumption)⟩)
    (first | (go_at_call 69; have _t := tok1; refine (refscale_b _ _ p _ hc hlp HP3.out).mono ?_; rintro e w3 ⟨v3, rfl, hv3, hb3'⟩; have hb3 : Below W2.heap.size W2 w3 := D2.trans hb3'; have V3 := Lib.hid hv3; obtain ⟨a3, c3, rfl, _⟩ := hv3; clear tok1 _t) | (go_at_call 69; refine (refscale_b _ _ q _ hc hlq (HQ2.out.below (Nat.le_refl _) hb3)).mono ?_; rintro e w4 ⟨v4, rfl, hv4, hb4'⟩; have hb4 : Below W2.heap.size W2 w4 := hb3.trans (hb4'.mono hb3.size); have V4 := Lib.hid hv4; have V3' := Lib.hid (V3.out.below (Nat.le_refl _) hb4'); obtain ⟨a4, c4, rfl, _⟩ := hv4; have hr0 := (HK2.out.same hb4).cell 0; have hr1 := (HK2.out.same hb4).cell 1; have hf0 := (HK2.out.same hb4).free 0; have hf1 := (HK2.out.same hb4).free 1))
  have HK5 := ((HK2.out.same hb4).set2 (.slice a3 (Gf.scale (normC p) p).length c3) (.slice a4 (Gf.scale (normC p) q).length c4))
  have e0 := HK5.cell 0
  have e1 := HK5.cell 1
  go_wp2_with fail
  have G5 : w4.grownBy ((w4.setCell ⟨w.heap.size + 1, 0, none⟩ (.slice a3 (Gf.scale (normC p) p).length c3)).setCell ⟨w.heap.size + 1, 1, none⟩ (.slice a4 (Gf.scale (normC p) q).length c4)) (some (w.heap.size + 1)) := grown_trans (grown_setCell _ ⟨_, _, _⟩ _) (grown_setCell _ ⟨_, _, _⟩ _)
  have N5 := no_bytes2 (.slice none 0 0) (.slice none 0 0) (fun n e => by cases e) (fun n e => by cases e)
  have B4 : Below w.heap.size w w4 := B2.trans (hb4.mono (by have := B2.size; omega))
  exact bodyPost_ret (v := .agg #[.slice a3 (Gf.scale (normC p) p).length c3, .slice a4 (Gf.scale (normC p) q).length c4]) (by simp [results, Tryz.results44, go_sem, e0, e1]) rfl
    ⟨_, rfl, ⟨_, _, rfl, V3'.out.other (HK2.out.same hb4) N5 G5, V4.out.other (HK2.out.same hb4) N5 G5⟩, (B4.setCell (by show w.heap.size ≤ w.heap.size + 1; omega) _).setCell (by show w.heap.size ≤ w.heap.size + 1; omega) _⟩

set_option maxHeartbeats 1000000 in
theorem refnorm_none (a : Option Addr) (cap n : Nat) (a' : Option Addr) (n' cap' : Nat) (p q : List Nat) (w : World) (hp : Bytes w (.slice a n cap) p) (hq : Bytes w (.slice a' n' cap') q) (hl : lead p = p.length) :
    Calls Tryz.prog 44 #[.agg #[.slice a n cap, .slice a' n' cap']] w (RowsV w p q) := by
  have HP := Lib.hid hp
  have HQ := Lib.hid hq
  have HL := Lib.hid (show leadI p = -1 from if_neg (by omega))
  clear hp hq hl
  go_enter Tryz.func44, Tryz.ntmps44
  go_wp2_with fail
  have B2 := two_blocks w (.cells #[.slice a n cap, .slice a' n' cap'] 50) (.cells #[.slice none 0 0, .slice none 0 0] 50)
  have K1 := (Blk.new w #[.slice a n cap, .slice a' n' cap'] 50 _ rfl).alloc (.cells #[.slice none 0 0, .slice none 0 0] 50)
  have K2 := Blk.new (w.alloc (.cells #[.slice a n cap, .slice a' n' cap'] 50)) #[.slice none 0 0, .slice none 0 0] 50 (w.heap.size + 1) (by simp)
  generalize ((w.alloc (.cells #[.slice a n cap, .slice a' n' cap'] 50)).alloc (.cells #[.slice none 0 0, .slice none 0 0] 50)) = W2 at *
  have HP2 := Lib.hid (HP.out.below (Nat.le_refl _) B2)
  have HQ2 := Lib.hid (HQ.out.below (Nat.le_refl _) B2)
  have HK2 := Lib.hid K2
  have hx0 : W2.cell? ⟨w.heap.size, 0, none⟩ = some (.slice a n cap) := K1.cell 0
  have hx1 : W2.cell? ⟨w.heap.size, 1, none⟩ = some (.slice a' n' cap') := K1.cell 1
  have hr0 : W2.cell? ⟨w.heap.size + 1, 0, none⟩ = some (.slice none 0 0) := K2.cell 0
  have hr1 : W2.cell? ⟨w.heap.size + 1, 1, none⟩ = some (.slice none 0 0) := K2.cell 1
  have hf0 := K2.free 0
  have hf1 := K2.free 1
  clear K1 K2
  refine (reflead_any _ _ _ HP2.out).mono ?_
  rintro e w' ⟨rfl, rfl⟩
  rw [HL.out]
  go_wp2_with fail
  have HK5 := HK2.out.set2 (.slice a n cap) (.slice a' n' cap')
  have e0 := HK5.cell 0
  have e1 := HK5.cell 1
  have G5 : W2.grownBy ((W2.setCell ⟨w.heap.size + 1, 0, none⟩ (.slice a n cap)).setCell ⟨w.heap.size + 1, 1, none⟩ (.slice a' n' cap')) (some (w.heap.size + 1)) := grown_trans (grown_setCell _ ⟨_, _, _⟩ _) (grown_setCell _ ⟨_, _, _⟩ _)
  have N5 := no_bytes2 (.slice none 0 0) (.slice none 0 0) (fun n e => by cases e) (fun n e => by cases e)
  exact bodyPost_ret (v := .agg #[.slice a n cap, .slice a' n' cap']) (by simp [results, Tryz.results44, go_sem, e0, e1]) rfl
    ⟨_, rfl, ⟨_, _, rfl, HP2.out.other HK2.out N5 G5, HQ2.out.other HK2.out N5 G5⟩, (B2.setCell (by show w.heap.size ≤ w.heap.size + 1; omega) _).setCell (by show w.heap.size ≤ w.heap.size + 1; omega) _⟩

theorem refnorm_any (u : Value) (p q : List Nat) (w : World) (hu : IsRow w u p q) (hlp : p.length ≤ 10000000) (hlq : q.length ≤ 10000000) :
    Calls Tryz.prog 44 #[u] w (RowsV w (Gf.scale (normC p) p) (Gf.scale (normC p) q)) := by
  obtain ⟨v, d, rfl, hp, hq⟩ := hu
  have hp0 := hp
  have hq0 := hq
  obtain ⟨a, cap, rfl, _, _, _, h4⟩ := hp
  obtain ⟨a', cap', rfl, _, _, _, _⟩ := hq
  by_cases hl : lead p < p.length
  · obtain ⟨b, off, rfl, _, _⟩ := h4 (by intro h; rw [h] at hl; simp at hl)
    exact refnorm_some b off cap _ p q w hp0 hq0 hlp hlq hl
  · have h1 : normC p = 1 := if_neg hl
    rw [h1, scale_one hp0.lt, scale_one hq0.lt]
    exact refnorm_none a cap _ a' _ cap' p q w hp0 hq0 (by have := lead_le p; omega)

end Go.Proofs.YtphdadibfeencaaGreat

/-
  The document's answer for rows that lead (wellspringref03), in the program: 'Less'.
-/
set_option maxRecDepth 100000
namespace Go.Proofs.YtphdadibfeencaaGreat
open Go.RowKit

theorem add_comm (x y : List Nat) : Gf.add x y = Gf.add y x := by
  unfold Gf.add
  induction x generalizing y with
  | nil => cases y <;> rfl
  | cons a x ih =>
    cases y with
    | nil => rfl
    | cons b y => simp only [List.zipWith_cons_cons]; rw [ih y, Nat.xor_comm]

theorem less_E (c : Nat) (x y : List Nat) : combE [1, c] [x, y] = axpyE y x := by
  unfold combE axpyE
  have h : alikeB [x, y] = (y.length == x.length) := by simp [alikeB, rowAt]
  rw [h]
  by_cases hl : y.length = x.length
  · simp [hl]
  · rw [if_neg (by simp; omega), if_neg hl]

theorem less_L (c : Nat) (x y : List Nat) (hx : ∀ z, z ∈ x → z < 256) : combL [1, c] [x, y] = axpyL c y x := by
  rw [combL_eq]
  unfold axpyL
  have h : alikeB [x, y] = (y.length == x.length) := by simp [alikeB, rowAt]
  rw [h]
  by_cases hl : y.length = x.length
  · rw [if_pos (by simp [hl]), if_pos hl]
    have hr : (rowAt [x, y] 0).length = x.length := rfl
    have hs : (Gf.add (Gf.scale c y) x).length = x.length := by rw [Gf.add_length _ _ (by rw [Gf.scale_length]; exact hl), Gf.scale_length, hl]
    refine ext_nth (by rw [combT_length, hs, hr]) fun j hj => ?_
    rw [combT_length, hr] at hj
    rw [nth_add _ _ _ (by rw [Gf.scale_length]; omega) hj, nth_scale c y j (by omega), nth_eq _ _ (by rw [combT_length, hr]; exact hj)]
    simp only [combT, List.getElem_map, List.getElem_range]
    show (0 ^^^ Gf.mul (nth [1, c] 0) (nth (rowAt [x, y] 0) j)) ^^^ Gf.mul (nth [1, c] 1) (nth (rowAt [x, y] 1) j) = _
    rw [show nth [1, c] 0 = 1 from rfl, show nth [1, c] 1 = c from rfl, show rowAt [x, y] 0 = x from rfl, show rowAt [x, y] 1 = y from rfl, Nat.zero_xor, Gf.one_mul (nth_lt hx j), Nat.xor_comm]
  · rw [if_neg (by simp; omega), if_neg hl]

/-- What Less answers: the error's number, and each part. -/
def lessE (p q p' q' : List Nat) : Int := if p'.length = p.length ∧ q'.length = q.length then 0 else 4
def lessV (c : Nat) (p q p' q' : List Nat) : List Nat := if p'.length = p.length ∧ q'.length = q.length then Gf.add (Gf.scale c p') p else []
def lessD (c : Nat) (p q p' q' : List Nat) : List Nat := if p'.length = p.length ∧ q'.length = q.length then Gf.add (Gf.scale c q') q else []

theorem bytes_one_c (w : World) (c : Nat) (T : TypeId) (k : Nat) (hk : k = w.heap.size) (hc : c < 256) :
    Bytes (w.alloc (.cells #[.int .u8 1, U8 c] T)) (.slice (some ⟨k, 0, none⟩) 2 2) [1, c] := bytes_new2 w 1 c 1 c T k hk rfl rfl (by omega) hc

/-- A combination of two rows by 1 and c, out of new slices. -/
theorem refcomb_pair (c : Nat) (u0 u1 : Value) (x y : List Nat) (w : World) (k0 k : Nat) (hk0 : k0 = w.heap.size) (hk : k = w.heap.size + 1) (hc : c < 256) (hx : Bytes w u0 x) (hy : Bytes w u1 y) (hm : x.length ≤ 10000000) :
    Calls Tryz.prog 20 #[.slice (some ⟨k0, 0, none⟩) 2 2, .slice (some ⟨k, 0, none⟩) 2 2] ((w.alloc (.cells #[.int .u8 1, U8 c] 5)).alloc (.cells #[u0, u1] 23)) fun e w' =>
      BytesE w (axpyL c y x) (axpyE y x) e w' := by
  subst hk0
  subst hk
  have e1 : Below w.heap.size w (w.alloc (.cells #[.int .u8 1, U8 c] 5)) := (Below.refl _ _).alloc (Nat.le_refl _) _
  have e2 : Below (w.alloc (.cells #[.int .u8 1, U8 c] 5)).heap.size (w.alloc (.cells #[.int .u8 1, U8 c] 5)) ((w.alloc (.cells #[.int .u8 1, U8 c] 5)).alloc (.cells #[u0, u1] 23)) := (Below.refl _ _).alloc (Nat.le_refl _) _
  have hC := (bytes_one_c w c 5 _ rfl hc).below (Nat.le_refl _) e2
  have hR := rows_new2 (w.alloc (.cells #[.int .u8 1, U8 c] 5)) u0 u1 x y 23 (w.heap.size + 1) (by simp) (hx.below (Nat.le_refl _) e1) (hy.below (Nat.le_refl _) e1)
  refine (refcomb_b _ _ _ _ _ (by show x.length ≤ 10000000; omega) hC hR).mono ?_
  rintro e w' ⟨v, he, hv, hb⟩
  rw [less_E] at he
  rw [less_L c x y hx.lt] at hv
  exact ⟨v, he, hv, (e1.alloc (by simp) _).trans (hb.mono (by simp; omega))⟩

/-- Three boxes, one behind the other. -/
theorem three_blocks (w : World) (c1 c2 c3 : Array Value) (T : TypeId) : Below w.heap.size w (((w.alloc (.cells c1 T)).alloc (.cells c2 T)).alloc (.cells c3 T)) ∧
    Blk (((w.alloc (.cells c1 T)).alloc (.cells c2 T)).alloc (.cells c3 T)) w.heap.size c1 T ∧ Blk (((w.alloc (.cells c1 T)).alloc (.cells c2 T)).alloc (.cells c3 T)) (w.heap.size + 1) c2 T ∧
    Blk (((w.alloc (.cells c1 T)).alloc (.cells c2 T)).alloc (.cells c3 T)) (w.heap.size + 1 + 1) c3 T ∧ (((w.alloc (.cells c1 T)).alloc (.cells c2 T)).alloc (.cells c3 T)).heap.size = w.heap.size + 1 + 1 + 1 :=
  ⟨(two_blocks w _ _).alloc (by simp; omega) _, ((Blk.new w c1 T _ rfl).alloc _).alloc _, (Blk.new _ c2 T _ (by simp)).alloc _, Blk.new _ c3 T _ (by simp), by simp⟩

set_option maxHeartbeats 2000000 in
theorem refless_all (c : Nat) (a0 a1 a2 a3 : Option Addr) (n0 n1 n2 n3 c0 c1 c2 c3 : Nat) (p q p' q' : List Nat) (w : World) (hc : c < 256) (hlp : p.length ≤ 10000000) (hlq : q.length ≤ 10000000)
    (h0 : Bytes w (.slice a0 n0 c0) p) (h1 : Bytes w (.slice a1 n1 c1) q) (h2 : Bytes w (.slice a2 n2 c2) p') (h3 : Bytes w (.slice a3 n3 c3) q') (t : Bool)
    (ht : (t = true ∧ p'.length = p.length ∧ q'.length = q.length) ∨ (t = false ∧ ¬ (p'.length = p.length ∧ q'.length = q.length))) :
    Calls Tryz.prog 70 #[.agg #[.slice a0 n0 c0, .slice a1 n1 c1], U8 c, .agg #[.slice a2 n2 c2, .slice a3 n3 c3]] w (RowsE w (lessV c p q p' q') (lessD c p q p' q') (lessE p q p' q')) := by
  have H0 := Lib.hid h0
  have H1 := Lib.hid h1
  have H2 := Lib.hid h2
  have H3 := Lib.hid h3
  have HT := Lib.hid ht
  clear h0 h1 h2 h3 ht
  go_enter Tryz.func70, Tryz.ntmps70
  go_wp2_with fail
  obtain ⟨B3, K1, K2, K3, hs⟩ := three_blocks w #[.slice a0 n0 c0, .slice a1 n1 c1] #[.slice a2 n2 c2, .slice a3 n3 c3] #[.slice none 0 0, .slice none 0 0] 50
  generalize (((w.alloc (.cells #[.slice a0 n0 c0, .slice a1 n1 c1] 50)).alloc (.cells #[.slice a2 n2 c2, .slice a3 n3 c3] 50)).alloc (.cells #[.slice none 0 0, .slice none 0 0] 50)) = W3 at *
  have HS := Lib.hid hs
  have hz3 := B3.size
  clear hs
  refine (refcomb_pair c _ _ p p' W3 _ _ (by rw [HS.out]) (by rw [HS.out]) hc (H0.out.below (Nat.le_refl _) B3) (H2.out.below (Nat.le_refl _) B3) hlp).mono ?_
  rintro e w4 ⟨v4, rfl, hv4, hb4⟩
  have HV4 := Lib.hid hv4
  have B4 := B3.trans (hb4.mono hz3)
  have hz4 := B4.size
  have hx1 : w4.cell? ⟨w.heap.size, 1, none⟩ = some (.slice a1 n1 c1) := (K1.same hb4).cell 1
  have hy1 : w4.cell? ⟨w.heap.size + 1, 1, none⟩ = some (.slice a3 n3 c3) := (K2.same hb4).cell 1
  have HK4 := Lib.hid (K3.same hb4)
  have hz44 := hb4.size
  have hq3 : w.heap.size + 1 + 1 + 1 = W3.heap.size := HS.out.symm
  have hl4 : w.heap.size < w4.heap.size := by omega
  have hl41 : w.heap.size + 1 < w4.heap.size := by omega
  have hl42 : w.heap.size + 1 + 1 < w4.heap.size := by omega
  clear hv4 K1 K2 K3
  go_wp2_with fail
  refine (refcomb_pair c _ _ q q' w4 _ _ rfl rfl hc (H1.out.below (Nat.le_refl _) B4) (H3.out.below (Nat.le_refl _) B4) hlq).mono ?_
  rintro e w5 ⟨v5, rfl, hv5, hb5⟩
  have HV5 := Lib.hid hv5
  have HV4' := Lib.hid (HV4.out.below (Nat.le_refl _) hb5)
  have B5 := B4.trans (hb5.mono hz4)
  have HK5 := Lib.hid (HK4.out.same hb5)
  have hr0 : w5.cell? ⟨w.heap.size + 1 + 1, 0, none⟩ = some (.slice none 0 0) := HK5.out.cell 0
  have hr1 : w5.cell? ⟨w.heap.size + 1 + 1, 1, none⟩ = some (.slice none 0 0) := HK5.out.cell 1
  have hf0 := HK5.out.free 0
  have hf1 := HK5.out.free 1
  obtain ⟨a4, c4, rfl, _⟩ := HV4.out
  obtain ⟨a5, c5, rfl, _⟩ := hv5
  have N5 := no_bytes2 (.slice none 0 0) (.slice none 0 0) (fun n e => by cases e) (fun n e => by cases e)
  rcases HT.out with ⟨rfl, hl1, hl2⟩ | ⟨rfl, hl⟩
  · have L1 := Lib.hid (show axpyL c p' p = lessV c p q p' q' by unfold axpyL lessV; rw [if_pos hl1, if_pos ⟨hl1, hl2⟩])
    have L2 := Lib.hid (show axpyL c q' q = lessD c p q p' q' by unfold axpyL lessD; rw [if_pos hl2, if_pos ⟨hl1, hl2⟩])
    have E1 := Lib.hid (show axpyE p' p = 0 from if_pos hl1)
    have E2 := Lib.hid (show axpyE q' q = 0 from if_pos hl2)
    have E3 := Lib.hid (show lessE p q p' q' = 0 from if_pos ⟨hl1, hl2⟩)
    clear hl1 hl2
    rw [E1.out, E2.out]
    go_wp2_with fail
    have HK6 := HK5.out.set2 (.slice a4 (axpyL c p' p).length c4) (.slice a5 (axpyL c q' q).length c5)
    have e0 := HK6.cell 0
    have e1 := HK6.cell 1
    have G6 : w5.grownBy ((w5.setCell ⟨w.heap.size + 1 + 1, 0, none⟩ (.slice a4 (axpyL c p' p).length c4)).setCell ⟨w.heap.size + 1 + 1, 1, none⟩ (.slice a5 (axpyL c q' q).length c5)) (some (w.heap.size + 1 + 1)) := grown_trans (grown_setCell _ ⟨_, _, _⟩ _) (grown_setCell _ ⟨_, _, _⟩ _)
    rw [E3.out, ← L1.out, ← L2.out]
    exact bodyPost_ret (v := .tuple #[.agg #[.slice a4 (axpyL c p' p).length c4, .slice a5 (axpyL c q' q).length c5], I64 0]) (by simp [results, Tryz.results70, go_sem, e0, e1]) rfl
      ⟨_, rfl, ⟨_, _, rfl, HV4'.out.other HK5.out N5 G6, HV5.out.other HK5.out N5 G6⟩, (B5.setCell (by show w.heap.size ≤ w.heap.size + 1 + 1; omega) _).setCell (by show w.heap.size ≤ w.heap.size + 1 + 1; omega) _⟩
  · have L1 := Lib.hid (show lessV c p q p' q' = [] from if_neg hl)
    have L2 := Lib.hid (show lessD c p q p' q' = [] from if_neg hl)
    have E3 := Lib.hid (show lessE p q p' q' = 4 from if_neg hl)
    have fin : ∀ W : World, w5.grownBy W (some (w.heap.size + 1 + 1)) → Below w.heap.size w W → RowsE w (lessV c p q p' q') (lessD c p q p' q') (lessE p q p' q') (.returned (.tuple #[.agg #[.slice none 0 0, .slice none 0 0], I64 4])) W := by
      intro W _ hB
      rw [E3.out, L1.out, L2.out]
      exact ⟨_, rfl, ⟨_, _, rfl, Bytes.nil _, Bytes.nil _⟩, hB⟩
    have HFIN := Lib.hid fin
    have HK6 := HK5.out.set2 (.slice none 0 0) (.slice none 0 0)
    have e0 := Lib.hid (HK6.cell 0)
    have e1 := Lib.hid (HK6.cell 1)
    clear fin HK6
    by_cases hl1 : p'.length = p.length
    · have hl2 : ¬ q'.length = q.length := fun h => hl ⟨hl1, h⟩
      have E1 := Lib.hid (show axpyE p' p = 0 from if_pos hl1)
      have E2 := Lib.hid (show axpyE q' q = 4 from if_neg hl2)
      clear hl hl1 hl2
      rw [E1.out, E2.out]
      go_wp2_with fail
      have e0' := e0.out
      have e1' := e1.out
      exact bodyPost_ret (v := .tuple #[.agg #[.slice none 0 0, .slice none 0 0], I64 4]) (by simp [results, Tryz.results70, go_sem, e0', e1']) rfl
        (HFIN.out _ (grown_trans (grown_setCell _ ⟨_, _, _⟩ _) (grown_setCell _ ⟨_, _, _⟩ _)) ((B5.setCell (by show w.heap.size ≤ w.heap.size + 1 + 1; omega) _).setCell (by show w.heap.size ≤ w.heap.size + 1 + 1; omega) _))
    · have E1 := Lib.hid (show axpyE p' p = 4 from if_neg hl1)
      clear hl hl1
      rw [E1.out]
      go_wp2_with fail
      have e0' := e0.out
      have e1' := e1.out
      exact bodyPost_ret (v := .tuple #[.agg #[.slice none 0 0, .slice none 0 0], I64 4]) (by simp [results, Tryz.results70, go_sem, e0', e1']) rfl
        (HFIN.out _ (grown_trans (grown_setCell _ ⟨_, _, _⟩ _) (grown_setCell _ ⟨_, _, _⟩ _)) ((B5.setCell (by show w.heap.size ≤ w.heap.size + 1 + 1; omega) _).setCell (by show w.heap.size ≤ w.heap.size + 1 + 1; omega) _))

end Go.Proofs.YtphdadibfeencaaGreat

/-
  A slice of bytes to which a call appends many at once; a slice of slices to which it appends one.
-/
set_option maxRecDepth 100000
namespace Go.Proofs.YtphdadibfeencaaGreat
open Go.RowKit

theorem run_append_none {w : World} (t ty e : TypeId) (i : TypeInfo) (size base c : Nat) (ht : Tryz.prog.underlying t = some (.slice e)) (hi : Tryz.prog.info? e = some i)
    (v : Value) (n : Nat) (xs : List Value) (hown : w.ownsRow base e size v n xs) :
    (Builtin.append_ #[t, t] ty #[v, .slice none 0 c]).run Tryz.prog w = .ok v w := by
  rcases hown.2 with ⟨rfl, rfl⟩ | ⟨g, cap, cur, rfl, _, _, hnc, _⟩
  · simp [Builtin.append_, run_underlying ht, sizeOf, typeInfo, hi, Builtin.lenOf, Builtin.firstCells]
  · simp [Builtin.append_, run_underlying ht, sizeOf, typeInfo, hi, Builtin.lenOf, Builtin.firstCells, hnc, storeCells]

theorem wpList_append_none {w : World} {ops : Array Oper} {rest : List Oper} {o : Oper} {a : Act} {Q : Exit → Act → World → Prop} (hgd : o.guard = none) (s x : Operand) (t : TypeId)
    (ho : o.op = .call { callee := .builtin .append, args := #[s, x], argTypes := #[t, t] })
    (base : Nat) (e : TypeId) (i : TypeInfo) (size c : Nat) (ht : Tryz.prog.underlying t = some (.slice e)) (hi : Tryz.prog.info? e = some i)
    (v : Value) (n : Nat) (xs : List Value) (hs : a.eval s = v) (hown : w.ownsRow base e size v n xs) (hx : a.eval x = .slice none 0 c)
    (h : wpList Tryz.prog ops Q rest (a.put o.dst v) w) : wpList Tryz.prog ops Q (o :: rest) a w := by
  refine wpList_plain hgd fun K hK => ?_
  have hrun := run_append_none (w := w) t o.type e i size base c ht hi v n xs hown
  unfold Oper.wp
  simp [execOp, ho, resolve, invoke, builtin, hs, hx, hrun, Result.andThen]
  exact hK _ _ h

/-- 'append(out, x...)', of bytes. -/
theorem wpList_append_bytes {ops : Array Oper} {rest : List Oper} {o : Oper} {a : Act} {Q : Exit → Act → World → Prop} {w : World} (hgd : o.guard = none) (s x : Operand) (ho : o.op = .call { callee := .builtin .append, args := #[s, x], argTypes := #[23, 23] })
    (B : Nat) (v u : Value) (l r : List Nat) (hs : a.eval s = v) (hx : a.eval x = u) (hown : Owns w B v l) (hr : Bytes w u r) (hB : B ≤ w.heap.size) (hn : l.length + r.length ≤ 281474976710656 / 4)
    (h : ∀ v' w', Owns w' B v' (l ++ r) → w.grownBy w' v.ownBlock → wpList Tryz.prog ops Q rest (a.put o.dst v') w') :
    wpList Tryz.prog ops Q (o :: rest) a w := by
  obtain ⟨i0, hi, hz0, hz1, hz2⟩ := info_parts infoByte
  obtain ⟨a1, c1, rfl, h1, h2, h3, h4⟩ := hr
  cases a1 with
  | none =>
    cases r with
    | nil =>
      refine wpList_append_none hgd s x 23 ho B 5 i0 1 c1 Tryz.underlying23 hi v l.length (l.map U8) hs hown hx ?_
      exact h v w (by rw [List.append_nil]; exact hown) (grown_refl _ _)
    | cons y r =>
      obtain ⟨b, off, e, _⟩ := h4 (by simp)
      exact absurd e (by simp)
  | some ad =>
    refine wpList_append_own _ hgd s x 23 ho B 5 i0 (.int .u8 0) 1 1 Tryz.underlying23 hi hz0 hz1 hz2 rfl (by decide) v l.length (l.map U8) hs hown
      ad r.length c1 (r.map U8) hx (by simp) ?_ ?_ ?_ ?_ hB ?_
    · intro j y hj
      have hj' : j < r.length := by
        have := (List.getElem?_eq_some_iff.1 hj).1
        simpa using this
      obtain ⟨b, off, e, _, hc⟩ := h4 (by intro e; rw [e] at hj'; simp at hj')
      simp only [Option.some.injEq] at e
      subst e
      rw [show (⟨b, off, none⟩ : Addr).add j = ⟨b, off + j, none⟩ from by unfold Addr.add; split <;> simp_all, hc j hj', nth_eq r j hj']
      simp [hj'] at hj
      rw [← hj]
    · intro y hy
      obtain ⟨z, _, rfl⟩ := List.mem_map.1 hy
      rfl
    · unfold maxLen; omega
    · omega
    · intro v' w' g1 g2 _
      refine h v' w' ?_ g2
      unfold Owns
      simpa using g1

theorem infoRow : (Tryz.prog.info? 23).map (fun i => (i.zero, i.size, i.bytes)) = some (some (.slice none 0 0), 1, 24) := by kernel_rfl

theorem Owns.shape {w : World} {B : Nat} {v : Value} {l : List Nat} (h : Owns w B v l) : ∃ a n c, v = .slice a n c := by
  rcases h.2 with ⟨rfl, _⟩ | ⟨g, cap, cur, rfl, _⟩
  · exact ⟨_, _, _, rfl⟩
  · exact ⟨_, _, _, rfl⟩

/-- An empty slice over a new block. -/
theorem Owns.empty (w : World) (B : Nat) (hB : B ≤ w.heap.size) : Owns (w.alloc (.cells #[] 5)) B (.slice (some ⟨w.heap.size, 0, none⟩) 0 0) [] :=
  World.ownsRow_lit w #[] 0 hB (by decide) rfl

end Go.Proofs.YtphdadibfeencaaGreat
