/-
  The laws of numbers (layer 6): what is asked through 'To' and 'Is', the example; numbers in boxes and in lists.
-/
import Derived.Test.YtobhlfkmdhoncaaNatM
import Derived.Test.YtobhlfkmdhoncaaNatJ
set_option maxRecDepth 100000
namespace Go.Proofs.Ytobhlfkmdhoncaa
open Go.RowKit

/-! ### How great a number may be -/

theorem great_gen (k n : Nat) : k < (Wt.dg n).length ↔ 256 ^ (8 * k) ≤ n := by
  have h := Wt.dg_length_iff (n := n) (k := k)
  have e : (18446744073709551616 : Nat) ^ k = 256 ^ (8 * k) := by
    rw [Nat.pow_mul, show (256 : Nat) ^ 8 = 18446744073709551616 from by decide]
  rw [e] at h
  generalize 256 ^ (8 * k) = P at h ⊢
  omega
theorem great_iff {n : Nat} : Great n ↔ 256 ^ (8 * 512) ≤ n := great_gen 512 n
theorem not_great_le {m n : Nat} (h : ¬ Great n) (hm : m ≤ n) : ¬ Great m := fun hg => h (great_iff.2 (Nat.le_trans (great_iff.1 hg) hm))
theorem not_great_gen {n k m : Nat} (h : n < 256 ^ k) (hk : k ≤ 8 * m) : ¬ m < (Wt.dg n).length := fun hg =>
  absurd (Nat.lt_of_lt_of_le h (Nat.le_trans (Nat.pow_le_pow_right (by decide) hk) ((great_gen m n).1 hg))) (Nat.lt_irrefl _)
theorem not_great {n k : Nat} (h : n < 256 ^ k) (hk : k ≤ 4096) : ¬ Great n := not_great_gen (m := 512) h hk
theorem val_small {l : List Nat} (hl : ∀ x, x ∈ l → x < 256) {k : Nat} (hk : l.length ≤ k) : Nt.val l < 256 ^ k := Nat.lt_of_lt_of_le (Nt.val_lt hl) (Nat.pow_le_pow_right (by decide) hk)
theorem words_small {n : Nat} (h : ¬ Great n) : (Wt.dg n).length ≤ 100000 := Nat.le_trans (small_of h) (by decide)

/-! ### Sums and products of two, and of three -/

theorem add_two (v : Value) (x y : Nat) (w : World) (hx : ¬ Great x) (hy : ¬ Great y) (hs : ¬ Great (x + y)) (hV : IsNats w v [x, y]) :
    Calls Try.prog 36 #[v] w (NatE w (x + y) 0) := by
  have h := natadd_any v [x, y] w (fun i hi => by match i, hi with | 0, _ => exact hx | 1, _ => exact hy) hV
  have e : foldG (· + ·) 0 [x, y] = some (x + y) := by simp [foldG, hx, hs]
  rw [e] at h
  exact h
theorem add_two_great (v : Value) (x y : Nat) (w : World) (hx : ¬ Great x) (hy : ¬ Great y) (hs : Great (x + y)) (hV : IsNats w v [x, y]) :
    Calls Try.prog 36 #[v] w (NatE w 0 16) := by
  have h := natadd_any v [x, y] w (fun i hi => by match i, hi with | 0, _ => exact hx | 1, _ => exact hy) hV
  have e : foldG (· + ·) 0 [x, y] = none := by simp [foldG, hs]
  rw [e] at h
  exact h
theorem add_three (v : Value) (x y z : Nat) (w : World) (hs : ¬ Great (x + y + z)) (hV : IsNats w v [x, y, z]) :
    Calls Try.prog 36 #[v] w (NatE w (x + y + z) 0) := by
  have hx : ¬ Great x := not_great_le hs (by omega)
  have hy : ¬ Great y := not_great_le hs (by omega)
  have hz : ¬ Great z := not_great_le hs (by omega)
  have hxy : ¬ Great (x + y) := not_great_le hs (by omega)
  have h := natadd_any v [x, y, z] w (fun i hi => by match i, hi with | 0, _ => exact hx | 1, _ => exact hy | 2, _ => exact hz) hV
  have e : foldG (· + ·) 0 [x, y, z] = some (x + y + z) := by simp [foldG, hx, hxy, hs]
  rw [e] at h
  exact h
theorem mul_two (v : Value) (x y : Nat) (w : World) (hx : ¬ Great x) (hy : ¬ Great y) (hs : ¬ Great (x * y)) (hV : IsNats w v [x, y]) :
    Calls Try.prog 37 #[v] w (NatE w (x * y) 0) := by
  have h := natmul_any v [x, y] w (fun i hi => by match i, hi with | 0, _ => exact hx | 1, _ => exact hy) hV
  have e : foldG (· * ·) 1 [x, y] = some (x * y) := by simp [foldG, hx, hs]
  rw [e] at h
  exact h
theorem mul_two_great (v : Value) (x y : Nat) (w : World) (hx : ¬ Great x) (hy : ¬ Great y) (hs : Great (x * y)) (hV : IsNats w v [x, y]) :
    Calls Try.prog 37 #[v] w (NatE w 0 16) := by
  have h := natmul_any v [x, y] w (fun i hi => by match i, hi with | 0, _ => exact hx | 1, _ => exact hy) hV
  have e : foldG (· * ·) 1 [x, y] = none := by simp [foldG, hs]
  rw [e] at h
  exact h
theorem mul_three (v : Value) (x y z : Nat) (w : World) (hx : ¬ Great x) (hy : ¬ Great y) (hz : ¬ Great z) (hxy : ¬ Great (x * y)) (hs : ¬ Great (x * y * z)) (hV : IsNats w v [x, y, z]) :
    Calls Try.prog 37 #[v] w (NatE w (x * y * z) 0) := by
  have h := natmul_any v [x, y, z] w (fun i hi => by match i, hi with | 0, _ => exact hx | 1, _ => exact hy | 2, _ => exact hz) hV
  have e : foldG (· * ·) 1 [x, y, z] = some (x * y * z) := by simp [foldG, hx, hxy, hs]
  rw [e] at h
  exact h

/-- Powers. -/
theorem powG_some {x : Nat} : ∀ {k : Nat}, (∀ j, j ≤ k → ¬ Great (x ^ j)) → powG x k = some (x ^ k)
  | 0, _ => rfl
  | k + 1, h => by
    rw [powG_succ, powG_some (fun j hj => h j (by omega))]
    have := h (k + 1) (Nat.le_refl _)
    rw [Nat.pow_succ] at this
    simp [this, Nat.pow_succ]
theorem pow_ok (u : Value) (x n : Nat) (w : World) (hn : n ≤ 65536) (hx : ¬ Great x) (h : ∀ j, j ≤ n → ¬ Great (x ^ j)) (hU : IsNat w u x) :
    Calls Try.prog 42 #[u, .int .i64 n] w (NatE w (x ^ n) 0) := by
  have h1 := natpow_yes u x n w hn hx hU
  rw [powG_some h] at h1
  exact h1
theorem pow_great (u : Value) (x n : Nat) (w : World) (hn : n + 1 ≤ 65536) (hx : ¬ Great x) (h : ∀ j, j ≤ n → ¬ Great (x ^ j)) (hg : Great (x ^ (n + 1))) (hU : IsNat w u x) :
    Calls Try.prog 42 #[u, .int .i64 ((n + 1 : Nat) : Int)] w (NatE w 0 16) := by
  have h1 := natpow_yes u x (n + 1) w hn hx hU
  rw [Nat.pow_succ] at hg
  have e : powG x (n + 1) = none := by rw [powG_succ, powG_some h]; simp [hg]
  rw [e] at h1
  exact h1

/-! ### Numbers in boxes and in lists -/

/-- A box with a number in it. -/
def BoxN (w : World) (g n : Nat) : Prop := ∃ a l c, w.cell? ⟨g, 0, none⟩ = some (.slice a l c) ∧ IsNat w (.agg #[.slice a l c]) n
theorem BoxN.go {w w' : World} {g n : Nat} (h : BoxN w g n) (hb : Below w.heap.size w w') : BoxN w' g n := by
  obtain ⟨a, l, c, hc, hn⟩ := h
  exact ⟨a, l, c, cell_keep hc hb, hn.go hb⟩
theorem BoxN.new {w : World} {a : Option Addr} {l c n g : Nat} (T : TypeId) (hg : g = w.heap.size) (h : IsNat w (.agg #[.slice a l c]) n) : BoxN (w.alloc (.cells #[.slice a l c] T)) g n := by
  subst hg
  exact ⟨a, l, c, (blocks1 w _ T).2.1.cell 0, h.go (blocks1 w _ T).1⟩
theorem BoxN.lt {w : World} {g n : Nat} (h : BoxN w g n) : g < w.heap.size := by
  obtain ⟨a, l, c, hc, _⟩ := h
  exact World.block_lt_of_cell? w _ hc

theorem isNats2 {w : World} {u0 u1 : Value} {x y : Nat} (T : TypeId) (h0 : IsNat w (.agg #[u0]) x) (h1 : IsNat w (.agg #[u1]) y) : IsNats (w.alloc (.cells #[u0, u1] T)) (.slice (some ⟨w.heap.size, 0, none⟩) 2 2) [x, y] := by
  have hb := (blocks1 w #[u0, u1] T).1
  have hk := (blocks1 w #[u0, u1] T).2.1
  refine ⟨_, 2, rfl, Nat.le_refl _, by decide, fun _ => ⟨w.heap.size, 0, rfl, hk.lt, fun i hi => ?_⟩⟩
  match i, hi with
  | 0, _ => exact ⟨u0, hk.cell 0, h0.go hb⟩
  | 1, _ => exact ⟨u1, hk.cell 1, h1.go hb⟩
theorem isNats3 {w : World} {u0 u1 u2 : Value} {x y z : Nat} (T : TypeId) (h0 : IsNat w (.agg #[u0]) x) (h1 : IsNat w (.agg #[u1]) y) (h2 : IsNat w (.agg #[u2]) z) : IsNats (w.alloc (.cells #[u0, u1, u2] T)) (.slice (some ⟨w.heap.size, 0, none⟩) 3 3) [x, y, z] := by
  have hb := (blocks1 w #[u0, u1, u2] T).1
  have hk := (blocks1 w #[u0, u1, u2] T).2.1
  refine ⟨_, 3, rfl, Nat.le_refl _, by decide, fun _ => ⟨w.heap.size, 0, rfl, hk.lt, fun i hi => ?_⟩⟩
  match i, hi with
  | 0, _ => exact ⟨u0, hk.cell 0, h0.go hb⟩
  | 1, _ => exact ⟨u1, hk.cell 1, h1.go hb⟩
  | 2, _ => exact ⟨u2, hk.cell 2, h2.go hb⟩

/-! ### To, Is -/

theorem tidied_val (l : List Nat) : Nt.val (Nt.tidied l) = Nt.val l := Nt.val_dg _
theorem parse_txt (n : Nat) : parseN (Nt.txt n) = n ∧ Nt.parseE (Nt.txt n) = 0 := by
  unfold parseN Nt.parseE
  rw [if_pos (Nt.isText_txt n), if_pos (Nt.isText_txt n), Nt.pv_txt]
  exact ⟨rfl, rfl⟩
theorem txt_small {n k : Nat} (h : n < 256 ^ k) (hk : 1 ≤ k) : (Nt.txt n).length ≤ 2 * k := by
  rw [Nt.txt_length]
  refine Nt.digits_le ?_ (by omega)
  rw [Nat.pow_mul]; exact h

/-- The document's text of bytes, through Trim. -/
theorem doctext_any (v : Value) (l : List Nat) (w : World) (hx : ∀ x, x ∈ l → x < 256) (hl : l.length ≤ 100000) (hB : Bytes w v (Nt.tidied l)) :
    Calls Try.prog 29 #[v] w fun e w' => e = .returned (.string (strOf (Nt.txt (Nt.val l)))) ∧ Below w.heap.size w w' := by
  have h := reftext_any v (Nt.tidied l) w (Nat.le_trans (Nt.tidied_le hx) (Nat.le_trans hl (by decide))) hB
  rw [Nt.val_hex hB.lt, tidied_val] at h
  exact h

set_option maxHeartbeats 400000 in
theorem to_any (v : Value) (l : List Nat) (w : World) (hl : l.length ≤ 1000) (hB : Bytes w v l) :
    Calls Try.prog 26 #[v] w (NatV w (Nt.val l)) := by
  have HB := Lib.hid hB
  have HL := Lib.hid hl
  have HP := Lib.hid (fun w => parse_any (Nt.txt (Nt.val l)) w (Nt.txt_lt _) (Nat.le_trans (txt_small (val_small hB.lt hl) (by decide)) (by decide)))
  rw [(parse_txt _).1, (parse_txt _).2] at HP
  obtain ⟨a, c, rfl, _⟩ := hB
  clear hl
  go_enter Try.func26, Try.ntmps26
  go_upto_region 1 with fail
  obtain ⟨B, hk1, hs⟩ := blocks1 w #[.slice none 0 0] 47
  generalize (w.alloc (.cells #[.slice none 0 0] 47)) = W at *
  have K1 := Lib.hid hk1
  have HS := Lib.hid hs
  clear hs hk1
  replace HB := Lib.hid (HB.out.go B)
  have hzW := B.size
  go_wp2_with fail
  refine (reftrim_any _ _ W HB.out).mono ?_
  rintro e w' ⟨⟨v1, rfl, h1⟩, rfl⟩
  have HB1 := Lib.hid h1
  obtain ⟨a1, c1, rfl, _⟩ := h1
  go_wp2_with fail
  refine (doctext_any _ l W HB.out.lt (Nat.le_trans HL.out (by decide)) HB1.out).mono ?_
  rintro e w2 ⟨rfl, hb⟩
  replace K1 := Lib.hid (K1.out.go hb)
  replace B := B.trans (hb.mono B.size)
  clear hb
  generalize strOf (Nt.txt (Nt.val l)) = S at *
  generalize Nt.val l = n at *
  go_wp2_with fail
  refine (HP.out w2).mono ?_
  rintro e w3 ⟨u3, rfl, hu, hb⟩
  obtain ⟨a3, c3, rfl, hw, _⟩ := hu.shape
  have HW := Lib.hid hw
  replace K1 := Lib.hid (K1.out.go hb)
  replace B := B.trans (hb.mono B.size)
  clear hu hw hb
  generalize (Wt.dg n).length = m at *
  go_upto_region 2 with fail
  obtain ⟨hb, hk, hs⟩ := blocks1 w3 #[.slice a3 m c3] 47
  generalize w3.alloc (.cells #[.slice a3 m c3] 47) = W4 at *
  have K4 := Lib.hid hk
  replace K1 := Lib.hid (K1.out.go hb)
  replace HW := Lib.hid (HW.out.go hb)
  replace B := B.trans (hb.mono B.size)
  have hzW4 := B.size
  clear hb hk hs
  have hf0 := K1.out.free 0
  have h0 : W4.cell? ⟨w.heap.size, 0, none⟩ = some (.slice none 0 0) := K1.out.cell 0
  have h4 : W4.cell? ⟨w3.heap.size, 0, none⟩ = some (.slice a3 m c3) := K4.out.cell 0
  have HS2 := Lib.hid (nat_store K1.out HW.out)
  go_wp2_with fail
  exact bodyPost_ret (v := .agg #[.slice a3 m c3]) (by simp [results, Try.results26, go_sem, HS2.out.1]) rfl ⟨_, rfl, ⟨_, rfl, HS2.out.2⟩, B.setCell (Nat.le_refl _) _⟩

theorem strOf_list (t : List Nat) : (strOf t).toList = t.map fun n => UInt8.ofNat n := by
  rw [ByteArray.toList_eq]; unfold strOf; rw [strOfNums_data, List.map_map]; rfl
theorem text_eq (m n : Nat) : ((strOf (Nt.txt m)).toList == (strOf (Nt.txt n)).toList) = decide (m = n) := by
  by_cases h : m = n
  · subst h; simp
  · rw [decide_eq_false h, beq_eq_false_iff_ne]
    intro e
    refine h (Nt.txt_inj (strOf_inj (Nt.txt_lt m) (Nt.txt_lt n) ?_))
    rw [ByteArray.toList_eq, ByteArray.toList_eq] at e
    have : ∀ x y : ByteArray, x.data.toList = y.data.toList → x = y := by
      intro x y h
      cases x; cases y
      simp only [ByteArray.mk.injEq]
      exact Array.toList_inj.1 h
    exact this _ _ e

set_option maxHeartbeats 400000 in
theorem is_any (u v : Value) (n : Nat) (l : List Nat) (w : World) (hn : (Wt.dg n).length ≤ 100000) (hl : l.length ≤ 100000) (hU : IsNat w u n) (hB : Bytes w v l) :
    Calls Try.prog 31 #[u, v] w fun e w' => e = .returned (.bool (decide (n = Nt.val l))) ∧ Below w.heap.size w w' := by
  have HB := Lib.hid hB
  have HU := Lib.hid hU
  have HL := Lib.hid hl
  have HN := Lib.hid (fun u w h => nattext_any u n w hn h)
  obtain ⟨a, c, rfl, _⟩ := hB
  obtain ⟨pa, ca, rfl, _⟩ := hU.shape
  clear hl hU hn
  generalize (Wt.dg n).length = m at *
  go_enter Try.func31, Try.ntmps31
  go_upto_region 1 with fail
  obtain ⟨B, hk1, hs⟩ := blocks1 w #[.slice pa m ca] 47
  generalize (w.alloc (.cells #[.slice pa m ca] 47)) = W at *
  have K1 := Lib.hid hk1
  have HS := Lib.hid hs
  clear hs hk1
  replace HB := Lib.hid (HB.out.go B)
  replace HU := Lib.hid (HU.out.go B)
  have hzW := B.size
  have h0 : W.cell? ⟨w.heap.size, 0, none⟩ = some (.slice pa m ca) := K1.out.cell 0
  go_wp2_with fail
  refine (HN.out _ W HU.out).mono ?_
  rintro e w2 ⟨rfl, hb⟩
  replace HB := Lib.hid (HB.out.go hb)
  replace B := B.trans (hb.mono B.size)
  clear hb h0
  go_wp2_with fail
  refine (reftrim_any _ _ w2 HB.out).mono ?_
  rintro e w' ⟨⟨v1, rfl, h1⟩, rfl⟩
  have HB1 := Lib.hid h1
  obtain ⟨a1, c1, rfl, _⟩ := h1
  go_wp2_with fail
  refine (doctext_any _ l w2 HB.out.lt HL.out HB1.out).mono ?_
  rintro e w3 ⟨rfl, hb⟩
  replace B := B.trans (hb.mono B.size)
  clear hb
  have HE := Lib.hid (text_eq n (Nt.val l))
  go_wp2_with fail
  go_ret
  exact ⟨congrArg (fun b => Ending.returned (.bool b)) HE.out, B⟩

end Go.Proofs.Ytobhlfkmdhoncaa
