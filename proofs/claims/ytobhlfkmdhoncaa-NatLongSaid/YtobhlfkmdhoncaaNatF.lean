/-
  The program's numbers (layer 6): 'addTo'.
-/
import Derived.Test.YtobhlfkmdhoncaaNatE
set_option maxRecDepth 100000
namespace Go.Proofs.Ytobhlfkmdhoncaa
open Go.RowKit

/-- So much of the words, added to others from a place on: what stands behind k of them, and what is carried. -/
def adds (o : List Nat) (i y : Nat) (a : List Nat) : Nat → List Nat × Nat
  | 0 => (o, 0)
  | k + 1 => ((adds o i y a k).1.set (i + k) ((nth (adds o i y a k).1 (i + k) + nth a k * y + (adds o i y a k).2) % 18446744073709551616), (nth (adds o i y a k).1 (i + k) + nth a k * y + (adds o i y a k).2) / 18446744073709551616)

theorem adds_length (o : List Nat) (i y : Nat) (a : List Nat) : ∀ k, (adds o i y a k).1.length = o.length
  | 0 => rfl
  | k + 1 => by show (List.set _ _ _).length = _; rw [List.length_set, adds_length o i y a k]

theorem nth_set_ne {o : List Nat} {i j d : Nat} (h : i ≠ j) : nth (o.set i d) j = nth o j := by
  unfold nth; rw [List.getD_eq_getElem?_getD, List.getD_eq_getElem?_getD, List.getElem?_set_ne h]

theorem adds_over (o : List Nat) (i y : Nat) (a : List Nat) : ∀ k j, i + k ≤ j → nth (adds o i y a k).1 j = nth o j
  | 0, _, _ => rfl
  | k + 1, j, h => by
    show nth (List.set _ _ _) j = _
    rw [nth_set_ne (by omega), adds_over o i y a k j (by omega)]

theorem word_num {z x y c : Nat} (hz : z < 18446744073709551616) (hx : x < 18446744073709551616) (hy : y < 18446744073709551616) (hc : c < 18446744073709551616) :
    (z + (x * y % 18446744073709551616 + c) % 18446744073709551616) % 18446744073709551616 = (z + x * y + c) % 18446744073709551616 ∧
    x * y / 18446744073709551616 + (x * y % 18446744073709551616 + c) / 18446744073709551616 < 18446744073709551616 ∧
    x * y / 18446744073709551616 + (x * y % 18446744073709551616 + c) / 18446744073709551616 + (z + (x * y % 18446744073709551616 + c) % 18446744073709551616) / 18446744073709551616 = (z + x * y + c) / 18446744073709551616 ∧
    (z + x * y + c) / 18446744073709551616 < 18446744073709551616 := by
  have h : x * y ≤ 18446744073709551615 * 18446744073709551615 := Nat.mul_le_mul (by omega) (by omega)
  generalize x * y = P at *
  refine ⟨by omega, by omega, by omega, by omega⟩

theorem adds_lt {o : List Nat} {i y : Nat} {a : List Nat} (ho : ∀ x, x ∈ o → x < 18446744073709551616) (ha : ∀ x, x ∈ a → x < 18446744073709551616) (hy : y < 18446744073709551616) : ∀ k, (∀ x, x ∈ (adds o i y a k).1 → x < 18446744073709551616) ∧ (adds o i y a k).2 < 18446744073709551616
  | 0 => ⟨ho, show 0 < 18446744073709551616 by decide⟩
  | k + 1 => by
    obtain ⟨h1, h2⟩ := adds_lt (i := i) ho ha hy k
    exact ⟨Wt.set_lt h1 _ (Nat.mod_lt _ (by decide)), (word_num (nth_ltW h1 _) (nth_ltW ha k) hy h2).2.2.2⟩

theorem add_num {V T U z s c x c' : Nat} {M : Nat} (h1 : V + M * z = T + M * s) (h2 : T + M * c = U) (h3 : s + 18446744073709551616 * c' = z + x + c) : V + M * 18446744073709551616 * c' = U + M * x := by
  have e : M * s + M * (18446744073709551616 * c') = M * z + M * x + M * c := by rw [← Nat.mul_add, h3, Nat.mul_add, Nat.mul_add]
  rw [Nat.mul_assoc]
  omega

theorem adds_val {o : List Nat} {i y : Nat} {a : List Nat} : ∀ k, i + k ≤ o.length → Wt.val (adds o i y a k).1 + 18446744073709551616 ^ (i + k) * (adds o i y a k).2 = Wt.val o + 18446744073709551616 ^ i * (Wt.low a k * y)
  | 0, _ => by rw [Wt.low_zero]; show Wt.val o + _ * 0 = _; rw [Nat.zero_mul, Nat.mul_zero, Nat.mul_zero]
  | k + 1, h => by
    have ih := adds_val (o := o) (i := i) (y := y) (a := a) k (by omega)
    have h1 := Wt.val_set (o := (adds o i y a k).1) (j := i + k) (by rw [adds_length]; omega) ((nth (adds o i y a k).1 (i + k) + nth a k * y + (adds o i y a k).2) % 18446744073709551616)
    have h3 := Nat.mod_add_div (nth (adds o i y a k).1 (i + k) + nth a k * y + (adds o i y a k).2) 18446744073709551616
    have h4 := add_num h1 ih h3
    rw [Wt.low_succ, Nat.add_mul, Nat.mul_add, ← Nat.add_assoc, ← Nat.add_assoc, Nat.pow_succ]
    rw [show 18446744073709551616 ^ i * (18446744073709551616 ^ k * nth a k * y) = 18446744073709551616 ^ (i + k) * (nth a k * y) by rw [Nat.pow_add, Nat.mul_assoc, Nat.mul_assoc]]
    exact h4

theorem run_add0 (x y : Nat) (w : World) : (callFunc 63 #[U64 x, U64 y, .int .u64 0]).run Try.prog w =
    .ok (.value (.tuple #[U64 ((x + y) % 18446744073709551616), U64 ((x + y) / 18446744073709551616)])) w := run_add x y 0 (by decide) w

/-- What addTo leaves. -/
def AddToP (g i y : Nat) (o a : List Nat) (w : World) (e : Ending) (w' : World) : Prop :=
  e = .returned (U64 (adds o i y a a.length).2) ∧ OwnW w' g (adds o i y a a.length).1 ∧ w.grownBy w' (some g)

set_option maxHeartbeats 2000000 in
theorem addto_some (g i n0 c0 b off ca y : Nat) (o a : List Nat) (w : World) (hy : y < 18446744073709551616) (hO : OwnW w g o) (hob : ∀ x, x ∈ o → x < 18446744073709551616) (hi : i + n0 ≤ o.length) (hn : a.length ≤ n0) (hlen : o.length ≤ 1000000)
    (hA : Words w (.slice (some ⟨b, off, none⟩) a.length ca) a) (hbg : b ≠ g) :
    Calls Try.prog 64 #[.slice (some ⟨g, i, none⟩) n0 c0, .slice (some ⟨b, off, none⟩) a.length ca, U64 y] w (AddToP g i y o a w) := by
  have HA := Lib.hid hA
  have HO0 := Lib.hid hO
  have HLT := Lib.hid (fun k => adds_lt (i := i) hob hA.lt hy k)
  have HLN := Lib.hid (adds_length o i y a)
  have HST := Lib.hid (show ∀ k, adds o i y a (k + 1) = ((adds o i y a k).1.set (i + k) ((nth (adds o i y a k).1 (i + k) + nth a k * y + (adds o i y a k).2) % 18446744073709551616), (nth (adds o i y a k).1 (i + k) + nth a k * y + (adds o i y a k).2) / 18446744073709551616) from fun _ => rfl)
  have HZ := Lib.hid (show adds o i y a 0 = (o, 0) from rfl)
  have HAD := Lib.hid (show ∀ g' e' w', e' = .returned (U64 (adds o i y a a.length).2) ∧ OwnW w' g' (adds o i y a a.length).1 ∧ w.grownBy w' (some g') → AddToP g' i y o a w e' w' from fun _ _ _ h => h)
  clear hA hO hob
  generalize adds o i y a = F at *
  have hal : a.length ≤ 1000000 := by omega
  go_enter Try.func64, Try.ntmps64
  go_wp2_with fail
  go_loopw [7, 8, 9, 10, 11, 12, 15] (fun cy _ _ _ _ _ j wr => ∃ k : Nat, k ≤ a.length ∧ j = .int .i64 k ∧ cy = U64 (F k).2 ∧ OwnW wr g (F k).1 ∧ w.grownBy wr (some g)) (fun _ _ _ _ _ _ j _ => a.length - (intOf j).toNat)
  case atStart => exact ⟨0, by omega, rfl, by rw [HZ.out]; rfl, by rw [HZ.out]; exact HO0.out, grown_refl _ _⟩
  case round =>
    obtain ⟨k, hk, rfl, rfl, hown, hgr⟩ := hrel
    have HO := Lib.hid hown
    have HG := Lib.hid hgr
    clear hown hgr
    by_cases hlt : k < a.length
    · have hcell := World.grownBy.cell HG.out (HA.out.cell k hlt) (by simp; exact hbg)
      have hx := nth_ltW HA.out.lt k
      have hzc := HO.out.cell (i + k) (by rw [HLN.out]; omega)
      have hzf := HO.out.free (i + k)
      have hz := nth_ltW (HLT.out k).1 (i + k)
      have hc := (HLT.out k).2
      have HS1 := Lib.hid (HST.out k)
      generalize F k = f at *
      obtain ⟨p, c⟩ := f
      simp only at HO hzc hz hc HS1 ⊢
      obtain ⟨x, hxx⟩ : ∃ x, x = nth a k := ⟨_, rfl⟩
      obtain ⟨z, hzz⟩ : ∃ z, z = nth p (i + k) := ⟨_, rfl⟩
      rw [← hxx] at hcell hx HS1
      rw [← hzz] at hzc hz HS1
      clear hxx hzz
      have HW := Lib.hid (word_num hz hx hy hc)
      have HLTk := Lib.hid hlt
      obtain ⟨wo, hwo⟩ : ∃ wo : World, wo = wr := ⟨_, rfl⟩
      subst hwo
      have hkn : (k : Int) < (n0 : Int) := by omega
      go_wp2_with fail
      refine (mul64_any x y _ hx hy).mono ?_
      rintro e w' ⟨rfl, rfl⟩
      obtain ⟨hh, hhe⟩ : ∃ hh, hh = x * y / 18446744073709551616 := ⟨_, rfl⟩
      obtain ⟨ll, hle⟩ : ∃ ll, ll = x * y % 18446744073709551616 := ⟨_, rfl⟩
      rw [← hhe, ← hle] at HW ⊢
      have hll : ll < 18446744073709551616 := by omega
      have hhl : hh < 18446744073709551616 := by have := HW.out.2.1; omega
      clear hhe hle
      go_wp2_with fail
      rw [run_add0 ll c, Oper.upon_value]
      obtain ⟨l1, hl1⟩ : ∃ l1, l1 = (ll + c) % 18446744073709551616 := ⟨_, rfl⟩
      obtain ⟨c1, hc1⟩ : ∃ c1, c1 = (ll + c) / 18446744073709551616 := ⟨_, rfl⟩
      rw [← hl1, ← hc1] at HW ⊢
      have hc1l : c1 ≤ 1 := by omega
      clear hl1 hc1
      have hh1 := HW.out.2.1
      go_wp2_with fail
      rw [run_add0 z l1, Oper.upon_value]
      obtain ⟨s1, hs1⟩ : ∃ s1, s1 = (z + l1) % 18446744073709551616 := ⟨_, rfl⟩
      obtain ⟨c2, hc2⟩ : ∃ c2, c2 = (z + l1) / 18446744073709551616 := ⟨_, rfl⟩
      rw [← hs1, ← hc2] at HW ⊢
      have HS2 := Lib.hid (show F (k + 1) = (p.set (i + k) s1, hh + c1 + c2) by rw [HS1.out, HW.out.1, HW.out.2.2.1])
      have hh2 : hh + c1 + c2 < 18446744073709551616 := by rw [HW.out.2.2.1]; exact HW.out.2.2.2
      clear hs1 hc2
      go_wp2_with fail
      have h9 := HLTk.out
      refine ⟨⟨k + 1, h9, by go_num, ?_, ?_, ?_⟩, by simp [intOf]; omega⟩
      · rw [HS2.out]; exact u64_eq (by push_cast; rfl)
      · rw [HS2.out]; exact HO.out.set (i + k) s1
      · exact grown_trans HG.out (grown_setCell wo ⟨g, i + k, none⟩ _)
    · obtain rfl : k = a.length := by omega
      go_wp2_with fail
      go_ret
      exact HAD.out _ _ _ ⟨rfl, HO.out, HG.out⟩

set_option maxHeartbeats 400000 in
theorem addto_none (g i n0 c0 ca y : Nat) (pa : Option Addr) (o : List Nat) (w : World) (hO : OwnW w g o) :
    Calls Try.prog 64 #[.slice (some ⟨g, i, none⟩) n0 c0, .slice pa 0 ca, U64 y] w (AddToP g i y o [] w) := by
  have HO := Lib.hid hO
  clear hO
  go_enter Try.func64, Try.ntmps64
  go_wp2_with fail
  refine wp_loop_rounds 1 ?_
  rw [rounds_succ]
  go_wp2_with fail
  go_ret
  exact ⟨rfl, HO.out, grown_refl _ _⟩

end Go.Proofs.Ytobhlfkmdhoncaa
