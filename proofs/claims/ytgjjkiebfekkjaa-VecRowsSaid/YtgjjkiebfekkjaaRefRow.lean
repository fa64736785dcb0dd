/-
  The document's answer for rows that lead (wellspringref03), in the program: 'Norm', 'Less', 'Same'.
-/
import Derived.Test.YtgjjkiebfekkjaaLead
import Derived.Test.YtgjjkiebfekkjaaLawTwoB
import Derived.Test.YtgjjkiebfekkjaaLawTwoC
import Derived.Test.YtgjjkiebfekkjaaKernE
set_option maxRecDepth 100000
namespace Go.Proofs.Ytgjjkiebfekkjaa
open Go.RowKit

/-- The value is a row (a vector, and data) that reads as these. -/
def IsRow (w : World) (u : Value) (p q : List Nat) : Prop := ∃ v d, u = .agg #[v, d] ∧ Bytes w v p ∧ Bytes w d q

theorem IsRow.below {w w' : World} {u : Value} {p q : List Nat} {B : Nat} (h : IsRow w u p q) (hB : w.heap.size ≤ B) (hb : Below B w w') : IsRow w' u p q := by
  obtain ⟨v, d, e, h1, h2⟩ := h
  exact ⟨v, d, e, h1.below hB hb, h2.below hB hb⟩

/-- The answer is a row; of what was there nothing has turned. -/
def RowsV (w : World) (p q : List Nat) (e : Ending) (w' : World) : Prop := ∃ u, e = .returned u ∧ IsRow w' u p q ∧ Below w.heap.size w w'
/-- The same, and an error's number. -/
def RowsE (w : World) (p q : List Nat) (err : Int) (e : Ending) (w' : World) : Prop := ∃ u, e = .returned (.tuple #[u, I64 err]) ∧ IsRow w' u p q ∧ Below w.heap.size w w'

/-- By what a row is multiplied, to be normed. -/
def normC (p : List Nat) : Nat := if lead p < p.length then Gf.inv (nth p (lead p)) else 1
theorem normC_lt (p : List Nat) : normC p < 256 := by
  unfold normC
  split
  · exact Gf.inv_lt _
  · decide

/-- A row's box, and a result's: what is in them stays where no call writes. -/
theorem two_blocks (w : World) (o1 o2 : Obj) : Below w.heap.size w ((w.alloc o1).alloc o2) := ((Below.refl _ _).alloc (Nat.le_refl _) _).alloc (by simp) _

set_option maxHeartbeats 1000000 in
theorem refnorm_some (b off cap : Nat) (d : Value) (p q : List Nat) (w : World) (hp : Bytes w (.slice (some ⟨b, off, none⟩) p.length cap) p) (hq : Bytes w d q) (hlp : p.length ≤ 10000000) (hlq : q.length ≤ 10000000) (hl : lead p < p.length) :
    Calls Try.prog 20 #[.agg #[.slice (some ⟨b, off, none⟩) p.length cap, d]] w (RowsV w (Gf.scale (normC p) p) (Gf.scale (normC p) q)) := by
  have HP := Lib.hid hp
  have HQ := Lib.hid hq
  have HL := Lib.hid (show leadI p = (lead p : Int) from if_pos hl)
  have HC := Lib.hid (show normC p = Gf.inv (nth p (lead p)) from if_pos hl)
  have hc := normC_lt p
  have hdec : decide ((lead p : Int) < 0) = false := by simp
  obtain ⟨i, hi⟩ : ∃ i, i = lead p := ⟨_, rfl⟩
  rw [← hi] at hl HL HC hdec
  clear hi
  have hcapp : p.length ≤ 9223372036854775807 := by omega
  clear hp hq
  go_enter Try.func20, Try.ntmps20
  go_wp2_with fail
  have B2 := two_blocks w (.cells #[.slice (some ⟨b, off, none⟩) p.length cap, d] 39) (.cells #[.slice none 0 0, .slice none 0 0] 39)
  have K1 := (Blk.new w #[.slice (some ⟨b, off, none⟩) p.length cap, d] 39 _ rfl).alloc (.cells #[.slice none 0 0, .slice none 0 0] 39)
  have K2 := Blk.new (w.alloc (.cells #[.slice (some ⟨b, off, none⟩) p.length cap, d] 39)) #[.slice none 0 0, .slice none 0 0] 39 (w.heap.size + 1) (by simp)
  generalize ((w.alloc (.cells #[.slice (some ⟨b, off, none⟩) p.length cap, d] 39)).alloc (.cells #[.slice none 0 0, .slice none 0 0] 39)) = W2 at *
  have HP2 := Lib.hid (HP.out.below (Nat.le_refl _) B2)
  have HQ2 := Lib.hid (HQ.out.below (Nat.le_refl _) B2)
  have HK1 := Lib.hid K1
  have HK2 := Lib.hid K2
  have hx0 : W2.cell? ⟨w.heap.size, 0, none⟩ = some (.slice (some ⟨b, off, none⟩) p.length cap) := K1.cell 0
  have hx1 : W2.cell? ⟨w.heap.size, 1, none⟩ = some d := K1.cell 1
  clear K1 K2
  refine (reflead_any _ _ _ HP2.out).mono ?_
  rintro e w' ⟨rfl, rfl⟩
  rw [HL.out]
  have hcell := HP2.out.cell i hl
  have hx := nth_lt HP2.out.lt i
  go_wp2_with fail
  refine (refinv_any _ _ hx).mono ?_
  rintro e w' ⟨rfl, rfl⟩
  rw [← HC.out]
  go_wp2_with fail
  clear hcell
  have D2 : Below W2.heap.size W2 W2.drew := Below.drew (Below.refl _ _)
  have HP3 := Lib.hid (HP2.out.below (Nat.le_refl _) D2)
  have tok1 : True := trivial
  go_region_held3 (fun w' => w'.cell? ⟨w.heap.size, 0, none⟩ = some (.slice (some ⟨b, off, none⟩) p.length cap) ∧ w'.cell? ⟨w.heap.size, 1, none⟩ = some d)
    (first | go_keep | exact ⟨cell_keep hx0 (by assumption), cell_keep hx1 (by assumption)⟩)
    (first | (go_at_call 33; have _t := tok1; refine (refscale_b _ _ p _ hc hlp HP3.out).mono ?_; rintro e w3 ⟨v3, rfl, hv3, hb3'⟩; have hb3 : Below W2.heap.size W2 w3 := D2.trans hb3'; have V3 := Lib.hid hv3; obtain ⟨a3, c3, rfl, _⟩ := hv3; clear tok1 _t) | (go_at_call 33; refine (refscale_b _ _ q _ hc hlq (HQ2.out.below (Nat.le_refl _) hb3)).mono ?_; rintro e w4 ⟨v4, rfl, hv4, hb4'⟩; have hb4 : Below W2.heap.size W2 w4 := hb3.trans (hb4'.mono hb3.size); have V4 := Lib.hid hv4; have V3' := Lib.hid (V3.out.below (Nat.le_refl _) hb4'); obtain ⟨a4, c4, rfl, _⟩ := hv4; have hr0 := (HK2.out.same hb4).cell 0; have hr1 := (HK2.out.same hb4).cell 1; have hf0 := (HK2.out.same hb4).free 0; have hf1 := (HK2.out.same hb4).free 1))
  have HK5 := ((HK2.out.same hb4).set2 (.slice a3 (Gf.scale (normC p) p).length c3) (.slice a4 (Gf.scale (normC p) q).length c4))
  have e0 := HK5.cell 0
  have e1 := HK5.cell 1
  go_wp2_with fail
  have G5 : w4.grownBy ((w4.setCell ⟨w.heap.size + 1, 0, none⟩ (.slice a3 (Gf.scale (normC p) p).length c3)).setCell ⟨w.heap.size + 1, 1, none⟩ (.slice a4 (Gf.scale (normC p) q).length c4)) (some (w.heap.size + 1)) := grown_trans (grown_setCell _ ⟨_, _, _⟩ _) (grown_setCell _ ⟨_, _, _⟩ _)
  have N5 := no_bytes2 (.slice none 0 0) (.slice none 0 0) (fun n e => by cases e) (fun n e => by cases e)
  have B4 : Below w.heap.size w w4 := B2.trans (hb4.mono (by have := B2.size; omega))
  exact bodyPost_ret (v := .agg #[.slice a3 (Gf.scale (normC p) p).length c3, .slice a4 (Gf.scale (normC p) q).length c4]) (by simp [results, Try.results20, go_sem, e0, e1]) rfl
    ⟨_, rfl, ⟨_, _, rfl, V3'.out.other (HK2.out.same hb4) N5 G5, V4.out.other (HK2.out.same hb4) N5 G5⟩, (B4.setCell (by show w.heap.size ≤ w.heap.size + 1; omega) _).setCell (by show w.heap.size ≤ w.heap.size + 1; omega) _⟩

set_option maxHeartbeats 1000000 in
theorem refnorm_none (a : Option Addr) (cap n : Nat) (a' : Option Addr) (n' cap' : Nat) (p q : List Nat) (w : World) (hp : Bytes w (.slice a n cap) p) (hq : Bytes w (.slice a' n' cap') q) (hl : lead p = p.length) :
    Calls Try.prog 20 #[.agg #[.slice a n cap, .slice a' n' cap']] w (RowsV w p q) := by
  have HP := Lib.hid hp
  have HQ := Lib.hid hq
  have HL := Lib.hid (show leadI p = -1 from if_neg (by omega))
  clear hp hq hl
  go_enter Try.func20, Try.ntmps20
  go_wp2_with fail
  have B2 := two_blocks w (.cells #[.slice a n cap, .slice a' n' cap'] 39) (.cells #[.slice none 0 0, .slice none 0 0] 39)
  have K1 := (Blk.new w #[.slice a n cap, .slice a' n' cap'] 39 _ rfl).alloc (.cells #[.slice none 0 0, .slice none 0 0] 39)
  have K2 := Blk.new (w.alloc (.cells #[.slice a n cap, .slice a' n' cap'] 39)) #[.slice none 0 0, .slice none 0 0] 39 (w.heap.size + 1) (by simp)
  generalize ((w.alloc (.cells #[.slice a n cap, .slice a' n' cap'] 39)).alloc (.cells #[.slice none 0 0, .slice none 0 0] 39)) = W2 at *
  have HP2 := Lib.hid (HP.out.below (Nat.le_refl _) B2)
  have HQ2 := Lib.hid (HQ.out.below (Nat.le_refl _) B2)
  have HK2 := Lib.hid K2
  have hx0 : W2.cell? ⟨w.heap.size, 0, none⟩ = some (.slice a n cap) := K1.cell 0
  have hx1 : W2.cell? ⟨w.heap.size, 1, none⟩ = some (.slice a' n' cap') := K1.cell 1
  have hr0 : W2.cell? ⟨w.heap.size + 1, 0, none⟩ = some (.slice none 0 0) := K2.cell 0
  have hr1 : W2.cell? ⟨w.heap.size + 1, 1, none⟩ = some (.slice none 0 0) := K2.cell 1
  have hf0 := K2.free 0
  have hf1 := K2.free 1
  clear K1 K2
  refine (reflead_any _ _ _ HP2.out).mono ?_
  rintro e w' ⟨rfl, rfl⟩
  rw [HL.out]
  go_wp2_with fail
  have HK5 := HK2.out.set2 (.slice a n cap) (.slice a' n' cap')
  have e0 := HK5.cell 0
  have e1 := HK5.cell 1
  have G5 : W2.grownBy ((W2.setCell ⟨w.heap.size + 1, 0, none⟩ (.slice a n cap)).setCell ⟨w.heap.size + 1, 1, none⟩ (.slice a' n' cap')) (some (w.heap.size + 1)) := grown_trans (grown_setCell _ ⟨_, _, _⟩ _) (grown_setCell _ ⟨_, _, _⟩ _)
  have N5 := no_bytes2 (.slice none 0 0) (.slice none 0 0) (fun n e => by cases e) (fun n e => by cases e)
  exact bodyPost_ret (v := .agg #[.slice a n cap, .slice a' n' cap']) (by simp [results, Try.results20, go_sem, e0, e1]) rfl
    ⟨_, rfl, ⟨_, _, rfl, HP2.out.other HK2.out N5 G5, HQ2.out.other HK2.out N5 G5⟩, (B2.setCell (by show w.heap.size ≤ w.heap.size + 1; omega) _).setCell (by show w.heap.size ≤ w.heap.size + 1; omega) _⟩

theorem refnorm_any (u : Value) (p q : List Nat) (w : World) (hu : IsRow w u p q) (hlp : p.length ≤ 10000000) (hlq : q.length ≤ 10000000) :
    Calls Try.prog 20 #[u] w (RowsV w (Gf.scale (normC p) p) (Gf.scale (normC p) q)) := by
  obtain ⟨v, d, rfl, hp, hq⟩ := hu
  have hp0 := hp
  have hq0 := hq
  obtain ⟨a, cap, rfl, _, _, _, h4⟩ := hp
  obtain ⟨a', cap', rfl, _, _, _, _⟩ := hq
  by_cases hl : lead p < p.length
  · obtain ⟨b, off, rfl, _, _⟩ := h4 (by intro h; rw [h] at hl; simp at hl)
    exact refnorm_some b off cap _ p q w hp0 hq0 hlp hlq hl
  · have h1 : normC p = 1 := if_neg hl
    rw [h1, scale_one hp0.lt, scale_one hq0.lt]
    exact refnorm_none a cap _ a' _ cap' p q w hp0 hq0 (by have := lead_le p; omega)

set_option maxHeartbeats 1000000 in
theorem refrowsame_any (u0 u1 : Value) (p q p' q' : List Nat) (w : World) (h0 : IsRow w u0 p q) (h1 : IsRow w u1 p' q') :
    Calls Try.prog 17 #[u0, u1] w fun e w' => e = .returned (.bool (decide (p = p') && decide (q = q'))) ∧ Below w.heap.size w w' := by
  obtain ⟨v0, d0, rfl, hp0, hq0⟩ := h0
  obtain ⟨v1, d1, rfl, hp1, hq1⟩ := h1
  obtain ⟨t, ht⟩ : ∃ t, t = (decide (p = p') && decide (q = q')) := ⟨_, rfl⟩
  rw [← ht]
  have HT := Lib.hid ht
  clear ht
  have HP0 := Lib.hid hp0
  have HQ0 := Lib.hid hq0
  have HP1 := Lib.hid hp1
  have HQ1 := Lib.hid hq1
  clear hp0 hq0 hp1 hq1
  go_enter Try.func17, Try.ntmps17
  go_wp2_with fail
  have B2 := two_blocks w (.cells #[v0, d0] 39) (.cells #[v1, d1] 39)
  have K1 := (Blk.new w #[v0, d0] 39 _ rfl).alloc (.cells #[v1, d1] 39)
  have K2 := Blk.new (w.alloc (.cells #[v0, d0] 39)) #[v1, d1] 39 (w.heap.size + 1) (by simp)
  generalize ((w.alloc (.cells #[v0, d0] 39)).alloc (.cells #[v1, d1] 39)) = W2 at *
  refine (same_any v0 v1 p p' _ (HP0.out.below (Nat.le_refl _) B2) (HP1.out.below (Nat.le_refl _) B2)).mono ?_
  rintro e w3 ⟨rfl, hb3⟩
  have hx1 : w3.cell? ⟨w.heap.size, 1, none⟩ = some d0 := (K1.same hb3).cell 1
  have hy1 : w3.cell? ⟨w.heap.size + 1, 1, none⟩ = some d1 := (K2.same hb3).cell 1
  have B3 := B2.trans (hb3.mono B2.size)
  by_cases hpp : p = p'
  · have HE : Hid (t = decide (q = q')) := Lib.hid (by rw [HT.out, decide_eq_true hpp, Bool.true_and])
    have HD := Lib.hid (decide_eq_true hpp)
    rw [HD.out]
    clear K1 K2 hpp
    go_wp2_with fail
    refine (same_any d0 d1 q q' _ (HQ0.out.below (Nat.le_refl _) B3) (HQ1.out.below (Nat.le_refl _) B3)).mono ?_
    rintro e w4 ⟨rfl, hb4⟩
    go_wp2_with fail
    go_ret
    exact ⟨by rw [HE.out]; rfl, B3.trans (hb4.mono B3.size)⟩
  · have HE : Hid (t = false) := Lib.hid (by rw [HT.out, decide_eq_false hpp, Bool.false_and])
    have HD := Lib.hid (decide_eq_false hpp)
    rw [HD.out]
    clear K1 K2 hpp
    go_wp2_with fail
    go_ret
    exact ⟨by rw [HE.out]; rfl, B3⟩

end Go.Proofs.Ytgjjkiebfekkjaa
