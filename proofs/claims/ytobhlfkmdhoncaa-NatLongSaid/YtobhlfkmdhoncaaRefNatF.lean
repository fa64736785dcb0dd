/-
  The document's answer for numbers (wellspringref06), in the program: 'Parse'.
-/
import Derived.Test.YtobhlfkmdhoncaaRefNatE
import Derived.Laws.OwnMore
import Derived.Deep.AppendLies
set_option maxRecDepth 100000
namespace Go.Proofs.Ytobhlfkmdhoncaa
open Go.RowKit

namespace Nt
/-- Is the character a digit's? -/
def IsHex (c : Nat) : Prop := (48 ≤ c ∧ c ≤ 57) ∨ (97 ≤ c ∧ c ≤ 102)
instance (c : Nat) : Decidable (IsHex c) := by unfold IsHex; infer_instance
/-- A character's digit. -/
def hv (c : Nat) : Nat := if c ≤ 57 then c - 48 else c - 87
theorem hv_low {c : Nat} (h : c ≤ 57) : hv c = c - 48 := by unfold hv; rw [if_pos h]
theorem hv_high {c : Nat} (h : ¬ c ≤ 57) : hv c = c - 87 := by unfold hv; rw [if_neg h]
/-- The character number j, counted from the end. -/
def ch (t : List Nat) (j : Nat) : Nat := nth t (t.length - 1 - j)
/-- The number of the last j characters. -/
def pv (t : List Nat) : Nat → Nat
  | 0 => 0
  | j + 1 => pv t j + 16 ^ j * hv (ch t j)
/-- Is it a number's text? -/
def IsText (t : List Nat) : Prop := t ≠ [] ∧ ¬ (1 < t.length ∧ nth t 0 = 48) ∧ ∀ j, j < t.length → IsHex (ch t j)
instance (t : List Nat) : Decidable (IsText t) := by unfold IsText; infer_instance
/-- What a text says. -/
def parsed (t : List Nat) : List Nat := if IsText t then dg (pv t t.length) else []
def parseE (t : List Nat) : Int := if IsText t then 0 else 14
theorem not_hex {t : List Nat} {j : Nat} (hj : j < t.length) (h : ¬ IsHex (ch t j)) : parsed t = [] ∧ parseE t = 14 := by
  have : ¬ IsText t := fun ⟨_, _, h3⟩ => h (h3 j hj)
  unfold parsed parseE
  rw [if_neg this, if_neg this]
  exact ⟨rfl, rfl⟩
theorem not_text {t : List Nat} (h : t = [] ∨ (1 < t.length ∧ nth t 0 = 48)) : parsed t = [] ∧ parseE t = 14 := by
  have : ¬ IsText t := fun ⟨h1, h2, _⟩ => h.elim h1 h2
  unfold parsed parseE
  rw [if_neg this, if_neg this]
  exact ⟨rfl, rfl⟩
theorem is_text {t : List Nat} (h0 : t ≠ []) (h1 : ¬ (1 < t.length ∧ nth t 0 = 48)) (h : ∀ j, j < t.length → IsHex (ch t j)) : parsed t = dg (pv t t.length) ∧ parseE t = 0 := by
  have : IsText t := ⟨h0, h1, h⟩
  unfold parsed parseE
  rw [if_pos this, if_pos this]
  exact ⟨rfl, rfl⟩
/-- What stands for the last j characters: o. -/
structure Half (t o : List Nat) (j : Nat) : Prop where
  len : o.length = (j + 1) / 2
  lt : ∀ x, x ∈ o → x < 256
  val : val o = pv t j
  small : j % 2 = 1 → nth o (j / 2) < 16
theorem Half.zero (t : List Nat) : Half t [] 0 := ⟨rfl, by simp, rfl, by simp⟩
theorem Half.even {t o : List Nat} {j d : Nat} (h : Half t o j) (he : j % 2 = 0) (hd : d = hv (ch t j)) (hd1 : d < 16) : Half t (o ++ [d]) (j + 1) := by
  have hl := h.len
  refine ⟨by rw [List.length_append, hl, List.length_singleton]; omega, fun x hx => ?_, ?_, fun _ => ?_⟩
  · rcases List.mem_append.1 hx with h1 | h1
    · exact h.lt x h1
    · simp at h1; omega
  · rw [val_snoc, h.val, pv, ← hd, hl, show 16 ^ j = 256 ^ ((j + 1) / 2) from by
      rw [show (256 : Nat) = 16 ^ 2 from rfl, ← Nat.pow_mul]; congr 1; omega]
  · have e : (j + 1) / 2 = o.length := by rw [hl]
    rw [e]
    unfold nth
    simp
    exact hd1
theorem Half.odd {t o : List Nat} {j d : Nat} (h : Half t o j) (he : j % 2 = 1) (hd : d = hv (ch t j)) (hd1 : d < 16) : Half t (o.set (j / 2) (nth o (j / 2) + 16 * d)) (j + 1) := by
  have hl := h.len
  have hs := h.small he
  have hlt : j / 2 < o.length := by omega
  refine ⟨by rw [List.length_set, hl]; omega, set_lt h.lt _ (by omega), ?_, fun h1 => by omega⟩
  have hv2 := val_set hlt (nth o (j / 2) + 16 * d)
  rw [pv, ← hd, ← h.val]
  have e : 16 ^ j * d = 256 ^ (j / 2) * (16 * d) := by
    rw [show (256 : Nat) = 16 ^ 2 from rfl, ← Nat.pow_mul, ← Nat.mul_assoc, ← Nat.pow_succ]; congr 2; omega
  rw [Nat.mul_add] at hv2
  omega
end Nt

theorem Owns.cellOf {w : World} {B g n cap : Nat} {l : List Nat} (h : Owns w B (.slice (some ⟨g, 0, none⟩) n cap) l) (hn : l.length = n) (j : Nat) (hj : j < n) : w.cell? ⟨g, j, none⟩ = some (U8 (nth l j)) := by
  subst hn
  have := World.ownsRow.cellAt h j (by omega)
  rw [this, nth_eq l j hj]
  simp [hj]
theorem Owns.freeOf {w : World} {B g n cap : Nat} {l : List Nat} (h : Owns w B (.slice (some ⟨g, 0, none⟩) n cap) l) (hn : l.length = n) (j : Nat) : w.frozen? ⟨g, j, none⟩ = false := by
  subst hn
  exact World.ownsRow.frozenAt h j
theorem Owns.storedOf {w : World} {B g n cap : Nat} {l : List Nat} (h : Owns w B (.slice (some ⟨g, 0, none⟩) n cap) l) (hn : l.length = n) (j y : Nat) : Owns (w.setCell ⟨g, j, none⟩ (U8 y)) B (.slice (some ⟨g, 0, none⟩) n cap) (l.set j y) := by
  subst hn
  have := (World.ownsRow.stored h j (U8 y)).1
  unfold Owns
  rw [List.length_set, List.map_set]
  exact this

theorem Nt.tidied_le {o : List Nat} (h : ∀ x, x ∈ o → x < 256) : (Nt.tidied o).length ≤ o.length := Nt.dg_length_le (Nt.val_lt h)

/-- A string's byte. -/
theorem strOf_at {l : List Nat} (hl : ∀ x, x ∈ l → x < 256) {S : ByteArray} (hS : S = strOf l) (i : Nat) (h : i < S.size) : (S[i]'h).toNat = nth l i := by
  subst hS
  have hi : i < l.length := by rw [strOf_size] at h; exact h
  have e : ((strOf l)[i]'h) = (strOf l).data.toList[i]'(by unfold strOf; rw [strOfNums_data]; simpa using hi) := by simp; rfl
  have hx := hl _ (List.getElem_mem hi)
  rw [e, nth_eq l i hi]
  simp only [strOf, strOfNums_data, List.getElem_map]
  show (UInt8.ofNat (l[i])).toNat = l[i]
  simp
  omega

/-- What Parse answers: the number's bytes, and the code. -/
def ParseV (w : World) (t : List Nat) (e : Ending) (w' : World) : Prop := ∃ v, e = .returned (.tuple #[v, I64 (Nt.parseE t)]) ∧ Bytes w' v (Nt.parsed t) ∧ Below w.heap.size w w'

theorem ParseV.wrong {w w' : World} {t : List Nat} {e : Ending} (h : Nt.parsed t = [] ∧ Nt.parseE t = 14) (he : e = .returned (.tuple #[.slice none 0 0, I64 14])) (hb : Below w.heap.size w w') : ParseV w t e w' :=
  ⟨_, by rw [h.2]; exact he, by rw [h.1]; exact Bytes.nil _, hb⟩

set_option maxHeartbeats 400000 in
theorem refparse_none (w : World) :
    Calls Try.prog 25 #[.string (strOf [])] w (ParseV w []) := by
  have he0 : (strOf []).toList.isEmpty = true := strOf_isEmpty []
  go_enter Try.func25, Try.ntmps25
  go_wp2_with fail
  go_ret2
  exact ParseV.wrong (Nt.not_text (.inl rfl)) rfl (Below.refl _ _)

set_option maxHeartbeats 400000 in
theorem refparse_zero (t : List Nat) (w : World) (ht : ∀ x, x ∈ t → x < 256) (h1 : 1 < t.length) (h0 : nth t 0 = 48) :
    Calls Try.prog 25 #[.string (strOf t)] w (ParseV w t) := by
  obtain ⟨S, hS⟩ : ∃ S, S = strOf t := ⟨_, rfl⟩
  rw [← hS]
  obtain ⟨m, hm⟩ : ∃ m, m = t.length := ⟨_, rfl⟩
  have hsz : S.size = m := by rw [hS, strOf_size, hm]
  have he : S.toList.isEmpty = false := by rw [hS, strOf_isEmpty]; cases t with | nil => simp at h1 | cons _ _ => rfl
  have hp : 0 < S.size := by omega
  have hb : (((S[0]'hp).toNat : Int) == 48) = true := by rw [strOf_at ht hS 0 hp, h0]; rfl
  have HW := Lib.hid (Nt.not_text (.inr ⟨h1, h0⟩))
  have hm1 : (1 : Int) < (m : Int) := by omega
  clear hS h0 hm
  go_enter Try.func25, Try.ntmps25
  go_wp2_with fail
  go_ret2
  exact ParseV.wrong HW.out rfl (Below.refl _ _)

set_option maxHeartbeats 2000000 in
theorem refparse_some (t : List Nat) (w : World) (ht : ∀ x, x ∈ t → x < 256) (hm0 : t.length ≤ 8192) (h0 : t ≠ []) (hz0 : ¬ (1 < t.length ∧ nth t 0 = 48)) :
    Calls Try.prog 25 #[.string (strOf t)] w (ParseV w t) := by
  obtain ⟨S, hS⟩ : ∃ S, S = strOf t := ⟨_, rfl⟩
  rw [← hS]
  obtain ⟨m, hm⟩ : ∃ m, m = t.length := ⟨_, rfl⟩
  have hl0 : 0 < t.length := List.length_pos_iff.2 h0
  have hsz : S.size = m := by rw [hS, strOf_size, hm]
  have he : S.toList.isEmpty = false := by rw [hS, strOf_isEmpty]; cases t with | nil => simp at hl0 | cons _ _ => rfl
  have hp : 0 < S.size := by omega
  have HSA := Lib.hid (fun i h => strOf_at ht hS i h)
  have HNH := Lib.hid (fun j (h : j < m) => Nt.not_hex (t := t) (j := j) (by omega))
  have HYES := Lib.hid (fun h => Nt.is_text h0 hz0 h)
  have HLT := Lib.hid (fun i => nth_lt ht i)
  have HMT := Lib.hid hm
  have HM0 := Lib.hid (show m ≤ 8192 by omega)
  have hm1 : (m : Int) ≤ 8192 := by omega
  have hm2 : (0 : Int) < (m : Int) := by omega
  have hpre : (1 : Int) < (m : Int) → (((S[0]'hp).toNat : Int) == 48) = false := fun h => by
    rw [strOf_at ht hS 0 hp, beq_eq_false_iff_ne]
    intro e
    exact hz0 ⟨by omega, by omega⟩
  clear hS h0 hz0 hl0 hm hm0
  go_enter Try.func25, Try.ntmps25
  have hone : ¬ (1 : Int) < (m : Int) ∨ ((1 : Int) < (m : Int) ∧ (((S[0]'hp).toNat : Int) == 48) = false) := by
    by_cases h : (1 : Int) < (m : Int)
    · exact .inr ⟨h, hpre h⟩
    · exact .inl h
  clear hpre
  rcases hone with h1m | ⟨h1m, hb⟩
  all_goals
    go_wp2_with fail
    go_loopw [4, 5, 6] (fun v i _ wr => ∃ (j : Nat) (o : List Nat), j ≤ m ∧ i = .int .i64 ((m : Int) - 1 - j) ∧ Owns wr w.heap.size v o ∧ Nt.Half t o j ∧ (∀ q, q < j → Nt.IsHex (Nt.ch t q)) ∧ Below w.heap.size w wr) (fun _ i _ _ => (intOf i + 1).toNat)
    case atStart => exact ⟨0, [], by omega, by simp, Owns.nil _ _, Nt.Half.zero t, fun q hq => by omega, Below.refl _ _⟩
    case round =>
      obtain ⟨j, o, hj, rfl, hown, hhalf, hall, hbel⟩ := hrel
      have HO := Lib.hid hown
      have HH := Lib.hid hhalf
      have HA0 := Lib.hid hall
      have hz := hbel.size
      clear hown hhalf hall
      by_cases hjm : j < m
      · have HJM := Lib.hid (show j < m ∧ m ≤ 8192 from ⟨hjm, HM0.out⟩)
        obtain ⟨k, hk⟩ : ∃ k, k = m - 1 - j := ⟨_, rfl⟩
        have hkI : (m : Int) - 1 - (j : Int) = (k : Int) := by omega
        have hkJ : (m : Int) - 1 - (k : Int) = (j : Int) := by omega
        have hks : k < S.size := by omega
        have k0 : (0 : Int) ≤ (k : Int) := Int.natCast_nonneg _
        have k1 : (k : Int) < (m : Int) := by omega
        rw [hkI]
        obtain ⟨c, hc⟩ : ∃ c, c = Nt.ch t j := ⟨_, rfl⟩
        have hSc : (S[k]'hks).toNat = c := by rw [HSA.out k hks, hc, Nt.ch, ← HMT.out, hk]
        have hc1 : c < 256 := by rw [hc]; exact HLT.out _
        have HNJ := Lib.hid (HNH.out j hjm)
        have HALLX := Lib.hid (show Nt.IsHex c → ∀ q, q < j + 1 → Nt.IsHex (Nt.ch t q) from fun h q hq => by
          by_cases e : q = j
          · rw [e, ← hc]; exact h
          · exact HA0.out q (by omega))
        have HCC := Lib.hid hc
        rw [← hc] at HNJ
        clear hc hk hkI hjm
        have hcls : (48 ≤ c ∧ c ≤ 57) ∨ (97 ≤ c ∧ c ≤ 102) ∨ c < 48 ∨ (57 < c ∧ c < 97) ∨ 102 < c := by omega
        rcases hcls with ⟨a1, a2⟩ | ⟨a1, a2⟩ | a1 | ⟨a1, a2⟩ | a1
        · have HALL := Lib.hid (HALLX.out (.inl ⟨a1, a2⟩))
          obtain ⟨d, hd⟩ : ∃ d, d = c - 48 := ⟨_, rfl⟩
          have HD := Lib.hid (show d = Nt.hv (Nt.ch t j) by rw [← HCC.out, Nt.hv_low a2, hd])
          have hdI : (c : Int) - 48 = (d : Int) := by omega
          have hd1 : d < 16 := by omega
          clear hd
          by_cases hpar : j % 2 = 0
          · have HH2 := Lib.hid (HH.out.even hpar HD.out hd1)
            have hpI : ((j : Int) % 2 == 0) = true := by rw [beq_iff_eq]; omega
            clear hpar
            go_wp2_with (at_builtin; refine wpList_append_byte rfl (.tmp 62) (.tmp 64) rfl w.heap.size wr.heap.size _ _ d 5 rfl rfl rfl HO.out ?c1 ?c2 ?_)
            case c1 => exact hz
            case c2 => have := HH.out.len; have := HJM.out; omega
            intro v' w2 hown2 hgr
            have HO2 := Lib.hid hown2
            have HG2 := Lib.hid (hbel.grown hgr hz HO.out.from)
            clear hown2 hgr
            go_wp2_with fail
            have h1 := HJM.out
            exact ⟨⟨j + 1, o ++ [d], by omega, by go_num, HO2.out, HH2.out, HALL.out, HG2.out⟩, by simp [intOf]⟩
          · have hp1 : j % 2 = 1 := by omega
            have HH2 := Lib.hid (HH.out.odd hp1 HD.out hd1)
            have hpI : ((j : Int) % 2 == 0) = false := by rw [beq_eq_false_iff_ne]; omega
            have hlen : o.length = (j + 1) / 2 := HH.out.len
            obtain ⟨g, cap, hv, hgB, hgz⟩ := World.ownsRow.form HO.out (by omega)
            subst hv
            have hy16 := HH.out.small hp1
            obtain ⟨n, hn⟩ : ∃ n, n = o.length := ⟨_, rfl⟩
            obtain ⟨q, hq⟩ : ∃ q, q = j / 2 := ⟨_, rfl⟩
            have hqn : (n : Int) - 1 = (q : Int) := by omega
            have hqlt : (q : Int) < (n : Int) := by omega
            have hqlt2 : q < n := by omega
            have hn0 : (n : Int) ≤ 1000000 := by have := HJM.out; omega
            have hcellQ := Owns.cellOf HO.out rfl q (by omega)
            have hfrQ := Owns.freeOf HO.out rfl q
            obtain ⟨y, hy⟩ : ∃ y, y = nth o q := ⟨_, rfl⟩
            rw [← hq, ← hy] at HH2 hy16
            rw [← hy] at hcellQ
            obtain ⟨z, hz2⟩ : ∃ z, z = y + 16 * d := ⟨_, rfl⟩
            have hzI : (y : Int) + 16 * (d : Int) = (z : Int) := by omega
            have hz1 : z < 256 := by omega
            rw [← hz2] at HH2
            have HO2 := Lib.hid (Owns.storedOf HO.out rfl q z)
            have HG2 := Lib.hid (hbel.setCell (p := ⟨g, q, none⟩) hgB (U8 z))
            rw [← hn] at HO HO2 ⊢
            clear hlen hn hq hy hz2 hpar hp1
            go_wp2_with fail
            have h1 := HJM.out
            exact ⟨⟨j + 1, o.set q z, by omega, by go_num, HO2.out, HH2.out, HALL.out, HG2.out⟩, by simp [intOf]⟩
        · have HALL := Lib.hid (HALLX.out (.inr ⟨a1, a2⟩))
          obtain ⟨d, hd⟩ : ∃ d, d = c - 87 := ⟨_, rfl⟩
          have HD := Lib.hid (show d = Nt.hv (Nt.ch t j) by rw [← HCC.out, Nt.hv_high (by omega), hd])
          have hdI : (c : Int) - 97 + 10 = (d : Int) := by omega
          have hd1 : d < 16 := by omega
          clear hd
          by_cases hpar : j % 2 = 0
          · have HH2 := Lib.hid (HH.out.even hpar HD.out hd1)
            have hpI : ((j : Int) % 2 == 0) = true := by rw [beq_iff_eq]; omega
            clear hpar
            go_wp2_with (at_builtin; refine wpList_append_byte rfl (.tmp 62) (.tmp 64) rfl w.heap.size wr.heap.size _ _ d 5 rfl rfl rfl HO.out ?c1 ?c2 ?_)
            case c1 => exact hz
            case c2 => have := HH.out.len; have := HJM.out; omega
            intro v' w2 hown2 hgr
            have HO2 := Lib.hid hown2
            have HG2 := Lib.hid (hbel.grown hgr hz HO.out.from)
            clear hown2 hgr
            go_wp2_with fail
            have h1 := HJM.out
            exact ⟨⟨j + 1, o ++ [d], by omega, by go_num, HO2.out, HH2.out, HALL.out, HG2.out⟩, by simp [intOf]⟩
          · have hp1 : j % 2 = 1 := by omega
            have HH2 := Lib.hid (HH.out.odd hp1 HD.out hd1)
            have hpI : ((j : Int) % 2 == 0) = false := by rw [beq_eq_false_iff_ne]; omega
            have hlen : o.length = (j + 1) / 2 := HH.out.len
            obtain ⟨g, cap, hv, hgB, hgz⟩ := World.ownsRow.form HO.out (by omega)
            subst hv
            have hy16 := HH.out.small hp1
            obtain ⟨n, hn⟩ : ∃ n, n = o.length := ⟨_, rfl⟩
            obtain ⟨q, hq⟩ : ∃ q, q = j / 2 := ⟨_, rfl⟩
            have hqn : (n : Int) - 1 = (q : Int) := by omega
            have hqlt : (q : Int) < (n : Int) := by omega
            have hqlt2 : q < n := by omega
            have hn0 : (n : Int) ≤ 1000000 := by have := HJM.out; omega
            have hcellQ := Owns.cellOf HO.out rfl q (by omega)
            have hfrQ := Owns.freeOf HO.out rfl q
            obtain ⟨y, hy⟩ : ∃ y, y = nth o q := ⟨_, rfl⟩
            rw [← hq, ← hy] at HH2 hy16
            rw [← hy] at hcellQ
            obtain ⟨z, hz2⟩ : ∃ z, z = y + 16 * d := ⟨_, rfl⟩
            have hzI : (y : Int) + 16 * (d : Int) = (z : Int) := by omega
            have hz1 : z < 256 := by omega
            rw [← hz2] at HH2
            have HO2 := Lib.hid (Owns.storedOf HO.out rfl q z)
            have HG2 := Lib.hid (hbel.setCell (p := ⟨g, q, none⟩) hgB (U8 z))
            rw [← hn] at HO HO2 ⊢
            clear hlen hn hq hy hz2 hpar hp1
            go_wp2_with fail
            have h1 := HJM.out
            exact ⟨⟨j + 1, o.set q z, by omega, by go_num, HO2.out, HH2.out, HALL.out, HG2.out⟩, by simp [intOf]⟩
        all_goals
          have HW := Lib.hid (HNJ.out (by unfold Nt.IsHex; omega))
          go_wp2_with fail
          go_ret2
          exact ParseV.wrong HW.out rfl hbel
      · obtain rfl : j = m := by omega
        have HY := Lib.hid (HYES.out (fun q hq => HA0.out q (by rw [HMT.out]; exact hq)))
        have HB := Lib.hid (HO.out.bytes HH.out.lt)
        have HT := Lib.hid (show Nt.tidied o = Nt.parsed t by unfold Nt.tidied; rw [HH.out.val, HY.out.1, ← HMT.out])
        have htl : (Nt.tidied o).length ≤ 4096 := Nat.le_trans (Nt.tidied_le HH.out.lt) (by have := HH.out.len; have := HM0.out; omega)
        rw [HT.out] at htl
        go_wp2_with fail
        refine (reftrim_any _ _ _ HB.out).mono ?_
        rintro e w' ⟨⟨v', rfl, hB'⟩, rfl⟩
        rw [HT.out] at hB'
        obtain ⟨a', cap', rfl, _⟩ := hB'
        have htI : ¬ (4096 : Int) < ((Nt.parsed t).length : Int) := by omega
        have htN : ¬ 4096 < (Nt.parsed t).length := by omega
        go_wp2_with fail
        refine (reftrim_any _ _ _ HB.out).mono ?_
        rintro e w' ⟨⟨v', rfl, hB'⟩, rfl⟩
        have HB2 := Lib.hid hB'
        clear hB'
        go_wp2_with fail
        go_ret2
        exact ⟨_, by rw [HY.out.2]; rfl, by rw [← HT.out]; exact HB2.out, hbel⟩

/-- What Parse answers of any text of at most 8192 characters. -/
theorem refparse_any (t : List Nat) (w : World) (ht : ∀ x, x ∈ t → x < 256) (hm : t.length ≤ 8192) :
    Calls Try.prog 25 #[.string (strOf t)] w (ParseV w t) := by
  by_cases h0 : t = []
  · subst h0; exact refparse_none w
  · by_cases hz : 1 < t.length ∧ nth t 0 = 48
    · exact refparse_zero t w ht hz.1 hz.2
    · exact refparse_some t w ht hm h0 hz

/-- Any text is one of bytes. -/
theorem strOf_of (b : ByteArray) : ∃ t : List Nat, b = strOf t ∧ (∀ x, x ∈ t → x < 256) ∧ t.length = b.size := by
  refine ⟨b.data.toList.map UInt8.toNat, ?_, ?_, by rw [List.length_map, Array.length_toList]; rfl⟩
  · have e : ∀ x y : ByteArray, x.data.toList = y.data.toList → x = y := by
      intro x y h
      cases x; cases y
      simp only [ByteArray.mk.injEq]
      exact Array.toList_inj.1 h
    apply e
    unfold strOf
    rw [strOfNums_data, List.map_map, List.map_map]
    conv => lhs; rw [← List.map_id b.data.toList]
    refine List.map_congr_left fun z _ => ?_
    simp
  · intro x hx
    obtain ⟨z, _, rfl⟩ := List.mem_map.1 hx
    exact z.toNat_lt

end Go.Proofs.Ytobhlfkmdhoncaa
