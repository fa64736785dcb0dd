/-
  The law of bursts (layer 4) over any sum that its contract tells: the walk of the law's own code.
-/
import Derived.Test.YtgjjkiebfekkjaaDoorSumB
import Derived.Test.YtgjjkiebfekkjaaDoorMat
import Derived.Test.YtgjjkiebfekkjaaDoorGrowS
import Derived.Deep.RegionHeld3
import Derived.Deep.DeepCutAuto
set_option maxRecDepth 100000
namespace Go.Proofs.YtgjjkiebfekkjaaDoor
open Go.RowKit

/-- A uint16 out of a number. -/
abbrev U16 (n : Nat) : Value := .int .u16 (n : Int)

/-- A call that says yes. -/
def Yes (w : World) (e : Ending) (w' : World) : Prop := e = .returned (.bool true) ∧ Below w.heap.size w w'

/-- The chapter's example. -/
def AwakeFour : Prop := ∀ w : World, Tab w → Calls Tryd.prog 5 #[] w (Yes w)

theorem below_alloc {a w : World} (h : Below a.heap.size a w) (o : Obj) : Below a.heap.size a (w.alloc o) := h.alloc h.size o

/-- A block of slices reads as parts that make up these bytes. -/
def Parts (W : World) (g n : Nat) (z : List Nat) : Prop := ∃ ll, flat ll = z ∧ IsRows W (.slice (some ⟨g, 0, none⟩) n n) ll

theorem parts_two {w W : World} {g : Nat} (u0 u1 : Value) (x y z : List Nat) (b0 : Bytes w u0 x) (b1 : Bytes w u1 y) (hz : x ++ y = z) (hW : Below w.heap.size w W) (h0 : W.cell? ⟨g, 0, none⟩ = some u0) (h1 : W.cell? ⟨g, 1, none⟩ = some u1) : Parts W g 2 z := by
  refine ⟨[x, y], by simp [flat, hz], _, 2, rfl, by simp, by omega, fun _ => ⟨g, 0, rfl, World.block_lt_of_cell? W _ h0, fun i hi => ?_⟩⟩
  have hi' : i < 2 := hi
  rw [Nat.zero_add]
  match i, hi' with
  | 0, _ => exact ⟨u0, h0, b0.below (Nat.le_refl _) hW⟩
  | 1, _ => exact ⟨u1, h1, b1.below (Nat.le_refl _) hW⟩

theorem parts_one {w W : World} {g : Nat} (u0 : Value) (x : List Nat) (b0 : Bytes w u0 x) (hW : Below w.heap.size w W) (h0 : W.cell? ⟨g, 0, none⟩ = some u0) : Parts W g 1 x := by
  refine ⟨[x], by simp [flat], _, 1, rfl, by simp, by omega, fun _ => ⟨g, 0, rfl, World.block_lt_of_cell? W _ h0, fun i hi => ?_⟩⟩
  have hi' : i < 1 := hi
  rw [Nat.zero_add]
  match i, hi' with
  | 0, _ => exact ⟨u0, h0, b0.below (Nat.le_refl _) hW⟩

/-- A sum of parts, of a block of slices. -/
theorem of_parts (w : World) (hT : Tab w) (z : List Nat) (W : World) (g n : Nat) (hW : Below w.heap.size w W) (hP : Parts W g n z) :
    Calls Tryd.prog 15 #[.slice (some ⟨g, 0, none⟩) n n] W fun e w' => e = .returned (U32 (Crc.sum z)) ∧ Below w.heap.size w w' ∧ Below W.heap.size W w' := by
  obtain ⟨ll, rfl, hR⟩ := hP
  refine (of4_any _ ll W (hT.go hW) hR).mono ?_
  rintro e w' ⟨rfl, hb⟩
  exact ⟨rfl, hW.trans (hb.mono hW.size), hb⟩

theorem bytes_take {w : World} {b off cap : Nat} {l : List Nat} (h : Bytes w (.slice (some ⟨b, off, none⟩) l.length cap) l) (k : Nat) (hk : k ≤ l.length) : Bytes w (.slice (some ⟨b, off, none⟩) k cap) (l.take k) := by
  have hc := h.cell
  obtain ⟨_, _, e, h1, h2, h3, h4⟩ := h
  cases e
  have hl : (l.take k).length = k := by simp; omega
  refine ⟨_, cap, by rw [hl], by rw [hl]; omega, h2, fun x hx => h3 x (List.mem_of_mem_take hx), fun hne => ?_⟩
  obtain ⟨b', off', e, hlt, _⟩ := h4 (by intro e; rw [e] at hne; simp at hne)
  cases e
  refine ⟨b, off, rfl, hlt, fun i hi => ?_⟩
  rw [hl] at hi
  rw [hc i (by omega), nth_eq l i (by omega), nth_eq _ i (by rw [hl]; exact hi)]
  simp

theorem bytes_drop {w : World} {b off cap : Nat} {l : List Nat} (h : Bytes w (.slice (some ⟨b, off, none⟩) l.length cap) l) (k : Nat) (hk : k ≤ l.length) : Bytes w (.slice (if cap = k then some ⟨b, off, none⟩ else some ⟨b, off + k, none⟩) (l.length - k) (cap - k)) (l.drop k) := by
  have hc := h.cell
  obtain ⟨_, _, e, h1, h2, h3, h4⟩ := h
  cases e
  have hl : (l.drop k).length = l.length - k := by simp
  refine ⟨_, cap - k, by rw [hl], by rw [hl]; omega, by omega, fun x hx => h3 x (List.mem_of_mem_drop hx), fun hne => ?_⟩
  have hlt : k < l.length := by
    rcases Nat.lt_or_ge k l.length with h | h
    · exact h
    · exact absurd (List.drop_eq_nil_of_le h) hne
  rw [if_neg (by omega)]
  obtain ⟨b', off', e, hb, _⟩ := h4 (by intro e; rw [e] at hne; simp at hne)
  cases e
  refine ⟨b, off + k, rfl, hb, fun i hi => ?_⟩
  rw [hl] at hi
  rw [show off + k + i = off + (k + i) from by omega, hc (k + i) (by omega), nth_eq l (k + i) (by omega), nth_eq _ i (by rw [hl]; exact hi)]
  simp

/-- Bytes of which the first k bits of a pattern are turned, from the place f on. -/
def Turned (l : List Nat) (pattern f k : Nat) (m : List Nat) : Prop :=
  m.length = l.length ∧ (∀ x, x ∈ m → x < 256) ∧ Crc.num m = Crc.num l ^^^ (2 ^ f * Crc.turns pattern f (8 * l.length) k)

theorem Turned.start (l : List Nat) (pattern f : Nat) (h : ∀ x, x ∈ l → x < 256) : Turned l pattern f 0 l := ⟨rfl, h, by simp [Crc.turns]⟩

theorem Turned.skip {l m : List Nat} {pattern f k : Nat} (h : Turned l pattern f k m) (hb : (pattern.testBit k && decide (f + k < 8 * l.length)) = false) : Turned l pattern f (k + 1) m :=
  ⟨h.1, h.2.1, by rw [Crc.turns_skip hb]; exact h.2.2⟩

theorem Turned.take {l m : List Nat} {pattern f k : Nat} (h : Turned l pattern f k m) (hb : (pattern.testBit k && decide (f + k < 8 * l.length)) = true) :
    Turned l pattern f (k + 1) (m.set ((f + k) / 8) (nth m ((f + k) / 8) ^^^ 2 ^ ((f + k) % 8))) := by
  obtain ⟨h1, h2, h3⟩ := h
  have hb2 : f + k < 8 * l.length := by simp at hb; exact hb.2
  have hi : (f + k) / 8 < m.length := by omega
  have hx : nth m ((f + k) / 8) ^^^ 2 ^ ((f + k) % 8) < 256 := Gf.xor_lt (nth_lt h2 _) (by
    have : (2 : Nat) ^ ((f + k) % 8) < 2 ^ 8 := Nat.pow_lt_pow_right (by decide) (by omega)
    exact this)
  refine ⟨by simp [h1], fun x hx' => ?_, ?_⟩
  · rcases List.mem_or_eq_of_mem_set hx' with h | rfl
    · exact h2 x h
    · exact hx
  · rw [nth_eq m _ hi, Crc.num_set m _ _ h2 hi (by omega), h3, Crc.turns_take hb, Crc.pow_mul_xor, Nat.xor_assoc, ← Nat.pow_add, show 8 * ((f + k) / 8) + (f + k) % 8 = f + k from by omega]

theorem and_bit1 {p i : Nat} (hp : p < 4294967296) (h : p.testBit i = true) : Go.bits BinOp.and IntKind.u32 ((p : Int) / 2 ^ i) 1 = 1 := by
  have e : ((p : Int) / 2 ^ i) = ((p / 2 ^ i : Nat) : Int) := by simp
  rw [e, show (1 : Int) = ((1 : Nat) : Int) from rfl, u32_and_nat _ _ (Nat.lt_of_le_of_lt (Nat.div_le_self _ _) hp) (by decide), Nat.and_one_is_mod]
  rw [Nat.testBit_eq_decide_div_mod_eq] at h
  rw [of_decide_eq_true h]

theorem and_bit0 {p i : Nat} (hp : p < 4294967296) (h : p.testBit i = false) : Go.bits BinOp.and IntKind.u32 ((p : Int) / 2 ^ i) 1 = 0 := by
  have e : ((p : Int) / 2 ^ i) = ((p / 2 ^ i : Nat) : Int) := by simp
  rw [e, show (1 : Int) = ((1 : Nat) : Int) from rfl, u32_and_nat _ _ (Nat.lt_of_le_of_lt (Nat.div_le_self _ _) hp) (by decide), Nat.and_one_is_mod]
  rw [Nat.testBit_eq_decide_div_mod_eq] at h
  have h2 := of_decide_eq_false h
  have h3 : p / 2 ^ i % 2 = 0 := by omega
  rw [h3]; rfl

theorem Turned.sum {l m : List Nat} {pattern f : Nat} (h : Turned l pattern f 32 m) (hl : ∀ x, x ∈ l → x < 256) (hf : f ≤ 8 * l.length) : (Crc.sum m = Crc.sum l) ↔ Crc.turns pattern f (8 * l.length) 32 = 0 := by
  exact Crc.burst f (Crc.turns pattern f (8 * l.length) 32) hl h.2.1 h.1 hf (Crc.turns_lt pattern f _ 32) h.2.2

set_option maxHeartbeats 400000 in
theorem bursts_none (hA : AwakeFour) (a : Option Addr) (cap at' pattern cut : Nat) (w : World) (hTab : Tab w) :
    Calls Tryd.prog 4 #[.slice a 0 cap, U16 at', U32 pattern, U16 cut] w (Yes w) := by
  have HTAB := Lib.hid hTab
  clear hTab
  go_enter Tryd.func4, Tryd.ntmps4
  go_wp2_with fail
  refine (hA w HTAB.out).mono ?_
  rintro e w1 ⟨rfl, hb1⟩
  go_wp2_with fail
  go_ret
  exact ⟨rfl, hb1⟩

set_option maxHeartbeats 400000 in
theorem bursts_many (hA : AwakeFour) (a : Option Addr) (n cap at' pattern cut : Nat) (w : World) (hTab : Tab w) (h1 : n ≤ 9223372036854775807) (hn : 2000 < n) :
    Calls Tryd.prog 4 #[.slice a n cap, U16 at', U32 pattern, U16 cut] w (Yes w) := by
  have HTAB := Lib.hid hTab
  clear hTab
  go_enter Tryd.func4, Tryd.ntmps4
  go_wp2_with fail
  refine (hA w HTAB.out).mono ?_
  rintro e w1 ⟨rfl, hb1⟩
  have hz : ((n : Int) == 0) = false := beq_eq_false_iff_ne.2 (by omega)
  go_wp2_with fail
  go_ret
  exact ⟨rfl, hb1⟩

set_option maxHeartbeats 400000 in
theorem bursts_some (hA : AwakeFour) (b off cap at' pattern cut : Nat) (l : List Nat) (w : World) (hB : Bytes w (.slice (some ⟨b, off, none⟩) l.length cap) l) (h0 : 0 < l.length) (hn : l.length ≤ 2000) (hat : at' < 65536) (hpat : pattern < 4294967296) (hcut : cut < 65536) (hTab : Tab w) :
    Calls Tryd.prog 4 #[.slice (some ⟨b, off, none⟩) l.length cap, U16 at', U32 pattern, U16 cut] w (Yes w) := by
  have hle : l.length ≤ cap := by
    obtain ⟨_, _, e, h1, h2, _⟩ := hB
    simp only [Value.slice.injEq] at e
    obtain ⟨_, _, rfl⟩ := e
    omega
  have hcap : cap ≤ 9223372036854775807 := by
    obtain ⟨_, _, e, h1, h2, _⟩ := hB
    simp only [Value.slice.injEq] at e
    obtain ⟨_, _, rfl⟩ := e
    omega
  have HB := Lib.hid hB
  clear hB
  have HTAB := Lib.hid hTab
  clear hTab
  go_enter Tryd.func4, Tryd.ntmps4
  go_wp2_with fail
  refine (hA w HTAB.out).mono ?_
  rintro e w1 ⟨rfl, hb1⟩
  have hz : ((l.length : Int) == 0) = false := beq_eq_false_iff_ne.2 (by omega)
  have hz1 := hb1.size
  obtain ⟨k, hk⟩ : ∃ k : Nat, k = cut % (l.length + 1) := ⟨_, rfl⟩
  have hk1 : ((cut : Int) % ((l.length : Int) + 1)) = (k : Int) := by rw [hk]; simp
  have hkl : k ≤ l.length := by rw [hk]; exact Nat.le_of_lt_succ (Nat.mod_lt cut (Nat.succ_pos l.length))
  have HK1 := Lib.hid hk1
  clear hk1 hk
  go_upto_region 6 with fail
  rw [HK1.out]
  have k0 : (0 : Int) ≤ (k : Int) := Int.natCast_nonneg _
  have k1 : (k : Int) ≤ (l.length : Int) := by omega
  have k2 : (k : Int) ≤ (cap : Int) := by omega
  have k3 : (l.length : Int) ≤ (cap : Int) := by omega
  go_cut [42] (fun s wx => s = .bool false ∧ Below w.heap.size w wx)
  case first =>
    have HT := Lib.hid (bytes_take HB.out k hkl)
    have HD := Lib.hid (bytes_drop HB.out k hkl)
    have HE := Lib.hid (List.take_append_drop k l)
    by_cases hck : cap = k
    · subst hck
      have HD2 : Hid (Bytes w (.slice (some ⟨b, off, none⟩) (l.length - cap) 0) (l.drop cap)) := Lib.hid (by have h := HD.out; simpa using h)
      clear HD
      go_region_held3 (fun _ => True) (trivial)
        ((go_at_call 15; refine (of_parts w HTAB.out l _ _ _ ?_ ?_).mono ?_; (repeat (first | assumption | exact Below.refl _ _ | refine below_alloc ?_ _ | refine Below.drew ?_)); (first | (refine parts_two _ _ _ _ _ HT.out HD2.out HE.out ?_ ?_ ?_; (repeat (first | assumption | exact Below.refl _ _ | refine below_alloc ?_ _ | refine Below.drew ?_)); (first | (simp [World.cell?_alloc_new] <;> omega) | (refine (hk2.cell ?_).trans ?_; (simp <;> omega); (simp <;> omega))); (first | (simp [World.cell?_alloc_new] <;> omega) | (refine (hk2.cell ?_).trans ?_; (simp <;> omega); (simp <;> omega)))) | (refine parts_one _ _ HB.out ?_ ?_; (repeat (first | assumption | exact Below.refl _ _ | refine below_alloc ?_ _ | refine Below.drew ?_)); (first | (simp [World.cell?_alloc_new] <;> omega) | (refine (hk2.cell ?_).trans ?_; (simp <;> omega); (simp <;> omega))))); rintro e w2 ⟨rfl, hb2, hk2⟩))
      all_goals (go_wp2_with fail; go_meet; exact ⟨rfl, by assumption⟩)
    · rw [if_neg hck] at HD
      go_region_held3 (fun _ => True) (trivial)
        ((go_at_call 15; refine (of_parts w HTAB.out l _ _ _ ?_ ?_).mono ?_; (repeat (first | assumption | exact Below.refl _ _ | refine below_alloc ?_ _ | refine Below.drew ?_)); (first | (refine parts_two _ _ _ _ _ HT.out HD.out HE.out ?_ ?_ ?_; (repeat (first | assumption | exact Below.refl _ _ | refine below_alloc ?_ _ | refine Below.drew ?_)); (first | (simp [World.cell?_alloc_new] <;> omega) | (refine (hk2.cell ?_).trans ?_; (simp <;> omega); (simp <;> omega))); (first | (simp [World.cell?_alloc_new] <;> omega) | (refine (hk2.cell ?_).trans ?_; (simp <;> omega); (simp <;> omega)))) | (refine parts_one _ _ HB.out ?_ ?_; (repeat (first | assumption | exact Below.refl _ _ | refine below_alloc ?_ _ | refine Below.drew ?_)); (first | (simp [World.cell?_alloc_new] <;> omega) | (refine (hk2.cell ?_).trans ?_; (simp <;> omega); (simp <;> omega))))); rintro e w2 ⟨rfl, hb2, hk2⟩))
      all_goals (go_wp2_with fail; go_meet; exact ⟨rfl, by assumption⟩)
  case rest =>
    obtain ⟨rfl, hbx⟩ := hcut
    have hzx := hbx.size
    have hbe : Below wc.heap.size wc (wc.alloc (.cells #[] 5)) := (Below.refl _ _).alloc (Nat.le_refl _) _
    have HBE := Lib.hid ((HB.out.below (Nat.le_refl _) hbx).below (Nat.le_refl _) hbe)
    go_wp2_with (at_builtin; refine wpList_append_bytes rfl (.tmp 43) (.tmp 44) rfl w.heap.size _ _ [] l rfl rfl (Owns.empty wc w.heap.size hzx) HBE.out ?c1 ?c2 ?_)
    case c1 => simp; omega
    case c2 => simp; omega
    intro v4 w4 hown4 hgr4
    have hgr : wc.grownBy w4 (some wc.heap.size) := grown_trans (grown_of_below hbe _) hgr4
    have hb4 : Below w.heap.size w w4 := hbx.grown hgr hzx (fun k e => by cases e; exact hzx)
    have HO4 := Lib.hid hown4
    clear hown4 hgr4 hgr hbe
    have hcap4 : ∃ g c, v4 = .slice (some ⟨g, 0, none⟩) l.length c ∧ w.heap.size ≤ g := by
      rcases HO4.out.2 with ⟨_, h0'⟩ | ⟨g, c, cur, e, hg, _⟩
      · exact absurd h0' (by simp; intro e; rw [e] at h0; simp at h0)
      · exact ⟨g, c, e, hg⟩
    obtain ⟨g, c4, rfl, hg4⟩ := hcap4
    obtain ⟨f, hf⟩ : ∃ f : Nat, f = at' % (8 * l.length) := ⟨_, rfl⟩
    have hf1 : ((at' : Int) % (8 * (l.length : Int))) = (f : Int) := by rw [hf]; simp
    have hfl : f < 8 * l.length := by rw [hf]; exact Nat.mod_lt _ (by omega)
    have HF1 := Lib.hid hf1
    clear hf1 hf
    go_upto_region 10 with fail
    rw [HF1.out]
    go_wp2_with fail
    go_loopw [12, 13, 14, 52] (fun t _ _ i wr => ∃ (k : Nat) (m : List Nat), k ≤ 32 ∧ i = .int .i64 k ∧ t = .bool (decide (Crc.turns pattern f (8 * l.length) k ≠ 0)) ∧ Turned l pattern f k m ∧ Owns wr w.heap.size (.slice (some ⟨g, 0, none⟩) l.length c4) m ∧ Below w.heap.size w wr) (fun _ _ _ i _ => 32 - (intOf i).toNat)
    case atStart => exact ⟨0, l, by omega, rfl, rfl, Turned.start _ _ _ HB.out.lt, HO4.out, hb4⟩
    case round =>
      obtain ⟨i, m, hi, rfl, rfl, ht, hown, hbel⟩ := hrel
      have HTU := Lib.hid ht
      have HOW := Lib.hid hown
      clear ht hown
      by_cases hlt : i < 32
      · cases hp : pattern.testBit i
        · have hbit := and_bit0 hpat hp
          have HSK := Lib.hid (show (pattern.testBit i && decide (f + i < 8 * l.length)) = false by rw [hp]; rfl)
          clear hp
          go_wp2_with fail
          exact ⟨⟨i + 1, m, by omega, by go_num, by rw [Crc.turns_skip HSK.out]; try simp, HTU.out.skip HSK.out, HOW.out, hbel⟩, by simp [intOf]; omega⟩
        · have hbit := and_bit1 hpat hp
          by_cases hj : f + i < 8 * l.length
          · have HTK := Lib.hid (show (pattern.testBit i && decide (f + i < 8 * l.length)) = true by rw [hp]; simpa using hj)
            clear hp
            have hjI : (f : Int) + (i : Int) < 8 * (l.length : Int) := by omega
            obtain ⟨q, hq⟩ : ∃ q : Nat, q = (f + i) / 8 := ⟨_, rfl⟩
            obtain ⟨r, hr⟩ : ∃ r : Nat, r = (f + i) % 8 := ⟨_, rfl⟩
            have HTQ : Hid (Turned l pattern f (i + 1) (m.set q (nth m q ^^^ 2 ^ r))) := Lib.hid (by rw [hq, hr]; exact HTU.out.take HTK.out)
            have hql : q < l.length := by omega
            have hr8 : r < 8 := by omega
            have hqm : q < m.length := by have := HTU.out.1; omega
            have hx := nth_lt HTU.out.2.1 q
            have hcell : wr.cell? ⟨g, q, none⟩ = some (U8 (nth m q)) := by
              have h := HOW.out
              unfold Owns at h
              rw [HTU.out.1] at h
              rw [World.ownsRow.cellAt h q (by omega), nth_eq m q hqm]; simp [hqm]
            have hfree : wr.frozen? ⟨g, q, none⟩ = false := by
              have h := HOW.out
              unfold Owns at h
              rw [HTU.out.1] at h
              exact World.ownsRow.frozenAt h q
            have hst : Hid (Owns (wr.setCell ⟨g, q, none⟩ (U8 (nth m q ^^^ 2 ^ r))) w.heap.size (.slice (some ⟨g, 0, none⟩) l.length c4) (m.set q (nth m q ^^^ 2 ^ r)) ∧ Below w.heap.size w (wr.setCell ⟨g, q, none⟩ (U8 (nth m q ^^^ 2 ^ r)))) := Lib.hid (by
              have h := HOW.out
              unfold Owns at h
              rw [HTU.out.1] at h
              have h2 := World.ownsRow.stored h q (U8 (nth m q ^^^ 2 ^ r))
              refine ⟨?_, hbel.setCell hg4 _⟩
              unfold Owns
              rw [List.length_set, HTU.out.1, List.map_set]
              exact h2.1)
            have q0 : (0 : Int) ≤ (q : Int) := Int.natCast_nonneg _
            have q1 : (q : Int) < (l.length : Int) := by omega
            have r0 : (0 : Int) ≤ (r : Int) := Int.natCast_nonneg _
            have e1 : ((f : Int) + (i : Int)) / 8 = (q : Int) := by omega
            have e2 : ((f : Int) + (i : Int)) % 8 = (r : Int) := by omega
            have e3 : ((f : Int) + (i : Int)).tdiv 8 = (q : Int) := by rw [Int.tdiv_eq_ediv_of_nonneg (by omega)]; exact e1
            have e4 : ((f : Int) + (i : Int)).tmod 8 = (r : Int) := by rw [Int.tmod_eq_emod_of_nonneg (by omega)]; exact e2
            have E1 := Lib.hid (u8_xor_nat (nth m q) (2 ^ r) hx (by
              have : (2 : Nat) ^ r < 2 ^ 8 := Nat.pow_lt_pow_right (by decide) hr8
              exact this))
            have E2 : ((2 : Int) ^ r % 256) = ((2 ^ r : Nat) : Int) := by
              have h2 : (2 : Nat) ^ r < 2 ^ 8 := Nat.pow_lt_pow_right (by decide) hr8
              rw [show ((2 : Int) ^ r) = ((2 ^ r : Nat) : Int) from by simp]
              exact Int.emod_eq_of_lt (Int.natCast_nonneg _) (Int.ofNat_lt.2 h2)
            have EV : Hid (Value.int .u8 (Go.bits BinOp.xor IntKind.u8 (nth m q : Int) ((2 : Int) ^ r % 256)) = U8 (nth m q ^^^ 2 ^ r)) := Lib.hid (u8_eq (by rw [E2]; exact E1.out))
            clear hq hr E2
            go_upto_region 16 with fail
            go_region
            go_wp2_with fail
            rw [EV.out]
            exact ⟨⟨i + 1, _, by omega, by go_num, by simp [Crc.turns_ne HTK.out], HTQ.out, hst.out.1, hst.out.2.drew⟩, by simp [intOf]; omega⟩
          · have HSK := Lib.hid (show (pattern.testBit i && decide (f + i < 8 * l.length)) = false by rw [hp]; simpa using hj)
            have hjI : ¬ (f : Int) + (i : Int) < 8 * (l.length : Int) := by omega
            clear hp
            go_wp2_with fail
            exact ⟨⟨i + 1, m, by omega, by go_num, by rw [Crc.turns_skip HSK.out]; try simp, HTU.out.skip HSK.out, HOW.out, hbel⟩, by simp [intOf]; omega⟩
      · obtain rfl : i = 32 := by omega
        have hzr := hbel.size
        have HM := Lib.hid ((HOW.out.bytes HTU.out.2.1).below (Nat.le_refl _) (Below.refl _ _))
        have HL := Lib.hid (HB.out.below (Nat.le_refl _) hbel)
        have HSUM := Lib.hid (HTU.out.sum HB.out.lt (Nat.le_of_lt hfl))
        by_cases hT : Crc.turns pattern f (8 * l.length) 32 = 0
        · have hs : Crc.sum m = Crc.sum l := HSUM.out.2 hT
          go_wp2_with fail
          refine (of_parts wr (HTAB.out.go hbel) _ _ _ _ ?_ (parts_one _ _ HM.out ?_ ?_)).mono ?_
          all_goals (repeat (first | assumption | exact Below.refl _ _ | refine below_alloc ?_ _ | refine Below.drew ?_))
          case refine_3 => simp [World.cell?_alloc_new]
          rintro e w2 ⟨rfl, hb2, hk2⟩
          go_wp2_with fail
          refine (of_parts wr (HTAB.out.go hbel) _ _ _ _ ?_ (parts_one _ _ HL.out ?_ ?_)).mono ?_
          all_goals (repeat (first | assumption | exact Below.refl _ _ | refine below_alloc ?_ _ | refine Below.drew ?_))
          case refine_3 => simp [World.cell?_alloc_new]
          rintro e w3 ⟨rfl, hb3, hk3⟩
          go_wp2_with fail
          go_ret
          exact ⟨rfl, hbel.trans (Below.mono hb3 hzr)⟩
        · have hs : ¬ (Crc.sum m = Crc.sum l) := fun h => hT (HSUM.out.1 h)
          have hsI : ((Crc.sum m : Int) == (Crc.sum l : Int)) = false := beq_eq_false_iff_ne.2 (by omega)
          go_wp2_with fail
          refine (of_parts wr (HTAB.out.go hbel) _ _ _ _ ?_ (parts_one _ _ HM.out ?_ ?_)).mono ?_
          all_goals (repeat (first | assumption | exact Below.refl _ _ | refine below_alloc ?_ _ | refine Below.drew ?_))
          case refine_3 => simp [World.cell?_alloc_new]
          rintro e w2 ⟨rfl, hb2, hk2⟩
          go_wp2_with fail
          refine (of_parts wr (HTAB.out.go hbel) _ _ _ _ ?_ (parts_one _ _ HL.out ?_ ?_)).mono ?_
          all_goals (repeat (first | assumption | exact Below.refl _ _ | refine below_alloc ?_ _ | refine Below.drew ?_))
          case refine_3 => simp [World.cell?_alloc_new]
          rintro e w3 ⟨rfl, hb3, hk3⟩
          go_wp2_with fail
          go_ret
          exact ⟨rfl, hbel.trans (Below.mono hb3 hzr)⟩

theorem bursts_any (hA : AwakeFour) (v : Value) (l : List Nat) (at' pattern cut : Nat) (w : World) (h : Bytes w v l) (hat : at' < 65536) (hpat : pattern < 4294967296) (hcut : cut < 65536) (hTab : Tab w) :
    Calls Tryd.prog 4 #[v, U16 at', U32 pattern, U16 cut] w (Yes w) := by
  obtain ⟨a, cap, rfl, h1, h2, h3, h4⟩ := h
  by_cases hne : l = []
  · subst hne; exact bursts_none hA a cap at' pattern cut w hTab
  · by_cases hm : 2000 < l.length
    · exact bursts_many hA a l.length cap at' pattern cut w hTab (by omega) hm
    · obtain ⟨b, off, rfl, hlt, hc⟩ := h4 hne
      exact bursts_some hA b off cap at' pattern cut l w ⟨_, cap, rfl, h1, h2, h3, fun _ => ⟨b, off, rfl, hlt, hc⟩⟩ (List.length_pos_iff.2 hne) (by omega) hat hpat hcut hTab

end Go.Proofs.YtgjjkiebfekkjaaDoor
