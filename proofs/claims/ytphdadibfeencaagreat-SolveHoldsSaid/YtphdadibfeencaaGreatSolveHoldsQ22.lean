/- Texts of one seat, laid together: NatF, NatG, NatH, NatJ, LawSix. -/
import Derived.Test.YtphdadibfeencaaGreatSolveHoldsQ21
import Derived.Deep.DeepCutAuto

/-
  The program's numbers (layer 6): 'addTo'.
-/
set_option maxRecDepth 100000
namespace Go.Proofs.YtphdadibfeencaaGreat
open Go.RowKit

/-- So much of the words, added to others from a place on: what stands behind k of them, and what is carried. -/
def adds (o : List Nat) (i y : Nat) (a : List Nat) : Nat → List Nat × Nat
  | 0 => (o, 0)
  | k + 1 => ((adds o i y a k).1.set (i + k) ((nth (adds o i y a k).1 (i + k) + nth a k * y + (adds o i y a k).2) % 18446744073709551616), (nth (adds o i y a k).1 (i + k) + nth a k * y + (adds o i y a k).2) / 18446744073709551616)

theorem adds_length (o : List Nat) (i y : Nat) (a : List Nat) : ∀ k, (adds o i y a k).1.length = o.length
  | 0 => rfl
  | k + 1 => by show (List.set _ _ _).length = _; rw [List.length_set, adds_length o i y a k]

theorem nth_set_ne {o : List Nat} {i j d : Nat} (h : i ≠ j) : nth (o.set i d) j = nth o j := by
  unfold nth; rw [List.getD_eq_getElem?_getD, List.getD_eq_getElem?_getD, List.getElem?_set_ne h]

theorem adds_over (o : List Nat) (i y : Nat) (a : List Nat) : ∀ k j, i + k ≤ j → nth (adds o i y a k).1 j = nth o j
  | 0, _, _ => rfl
  | k + 1, j, h => by
    show nth (List.set _ _ _) j = _
    rw [nth_set_ne (by omega), adds_over o i y a k j (by omega)]

theorem word_num {z x y c : Nat} (hz : z < 18446744073709551616) (hx : x < 18446744073709551616) (hy : y < 18446744073709551616) (hc : c < 18446744073709551616) :
    (z + (x * y % 18446744073709551616 + c) % 18446744073709551616) % 18446744073709551616 = (z + x * y + c) % 18446744073709551616 ∧
    x * y / 18446744073709551616 + (x * y % 18446744073709551616 + c) / 18446744073709551616 < 18446744073709551616 ∧
    x * y / 18446744073709551616 + (x * y % 18446744073709551616 + c) / 18446744073709551616 + (z + (x * y % 18446744073709551616 + c) % 18446744073709551616) / 18446744073709551616 = (z + x * y + c) / 18446744073709551616 ∧
    (z + x * y + c) / 18446744073709551616 < 18446744073709551616 := by
  have h : x * y ≤ 18446744073709551615 * 18446744073709551615 := Nat.mul_le_mul (by omega) (by omega)
  generalize x * y = P at *
  refine ⟨by omega, by omega, by omega, by omega⟩

theorem adds_lt {o : List Nat} {i y : Nat} {a : List Nat} (ho : ∀ x, x ∈ o → x < 18446744073709551616) (ha : ∀ x, x ∈ a → x < 18446744073709551616) (hy : y < 18446744073709551616) : ∀ k, (∀ x, x ∈ (adds o i y a k).1 → x < 18446744073709551616) ∧ (adds o i y a k).2 < 18446744073709551616
  | 0 => ⟨ho, show 0 < 18446744073709551616 by decide⟩
  | k + 1 => by
    obtain ⟨h1, h2⟩ := adds_lt (i := i) ho ha hy k
    exact ⟨Wt.set_lt h1 _ (Nat.mod_lt _ (by decide)), (word_num (nth_ltW h1 _) (nth_ltW ha k) hy h2).2.2.2⟩

theorem add_num {V T U z s c x c' : Nat} {M : Nat} (h1 : V + M * z = T + M * s) (h2 : T + M * c = U) (h3 : s + 18446744073709551616 * c' = z + x + c) : V + M * 18446744073709551616 * c' = U + M * x := by
  have e : M * s + M * (18446744073709551616 * c') = M * z + M * x + M * c := by rw [← Nat.mul_add, h3, Nat.mul_add, Nat.mul_add]
  rw [Nat.mul_assoc]
  omega

theorem adds_val {o : List Nat} {i y : Nat} {a : List Nat} : ∀ k, i + k ≤ o.length → Wt.val (adds o i y a k).1 + 18446744073709551616 ^ (i + k) * (adds o i y a k).2 = Wt.val o + 18446744073709551616 ^ i * (Wt.low a k * y)
  | 0, _ => by rw [Wt.low_zero]; show Wt.val o + _ * 0 = _; rw [Nat.zero_mul, Nat.mul_zero, Nat.mul_zero]
  | k + 1, h => by
    have ih := adds_val (o := o) (i := i) (y := y) (a := a) k (by omega)
    have h1 := Wt.val_set (o := (adds o i y a k).1) (j := i + k) (by rw [adds_length]; omega) ((nth (adds o i y a k).1 (i + k) + nth a k * y + (adds o i y a k).2) % 18446744073709551616)
    have h3 := Nat.mod_add_div (nth (adds o i y a k).1 (i + k) + nth a k * y + (adds o i y a k).2) 18446744073709551616
    have h4 := add_num h1 ih h3
    rw [Wt.low_succ, Nat.add_mul, Nat.mul_add, ← Nat.add_assoc, ← Nat.add_assoc, Nat.pow_succ]
    rw [show 18446744073709551616 ^ i * (18446744073709551616 ^ k * nth a k * y) = 18446744073709551616 ^ (i + k) * (nth a k * y) by rw [Nat.pow_add, Nat.mul_assoc, Nat.mul_assoc]]
    exact h4

theorem run_add0 (x y : Nat) (w : World) : (callFunc 88 #[U64 x, U64 y, .int .u64 0]).run Tryz.prog w =
    .ok (.value (.tuple #[U64 ((x + y) % 18446744073709551616), U64 ((x + y) / 18446744073709551616)])) w := run_add x y 0 (by decide) w

/-- What addTo leaves. -/
def AddToP (g i y : Nat) (o a : List Nat) (w : World) (e : Ending) (w' : World) : Prop :=
  e = .returned (U64 (adds o i y a a.length).2) ∧ OwnW w' g (adds o i y a a.length).1 ∧ w.grownBy w' (some g)

set_option maxHeartbeats 2000000 in
theorem addto_some (g i n0 c0 b off ca y : Nat) (o a : List Nat) (w : World) (hy : y < 18446744073709551616) (hO : OwnW w g o) (hob : ∀ x, x ∈ o → x < 18446744073709551616) (hi : i + n0 ≤ o.length) (hn : a.length ≤ n0) (hlen : o.length ≤ 1000000)
    (hA : Words w (.slice (some ⟨b, off, none⟩) a.length ca) a) (hbg : b ≠ g) :
    Calls Tryz.prog 73 #[.slice (some ⟨g, i, none⟩) n0 c0, .slice (some ⟨b, off, none⟩) a.length ca, U64 y] w (AddToP g i y o a w) := by
  have HA := Lib.hid hA
  have HO0 := Lib.hid hO
  have HLT := Lib.hid (fun k => adds_lt (i := i) hob hA.lt hy k)
  have HLN := Lib.hid (adds_length o i y a)
  have HST := Lib.hid (show ∀ k, adds o i y a (k + 1) = ((adds o i y a k).1.set (i + k) ((nth (adds o i y a k).1 (i + k) + nth a k * y + (adds o i y a k).2) % 18446744073709551616), (nth (adds o i y a k).1 (i + k) + nth a k * y + (adds o i y a k).2) / 18446744073709551616) from fun _ => rfl)
  have HZ := Lib.hid (show adds o i y a 0 = (o, 0) from rfl)
  have HAD := Lib.hid (show ∀ g' e' w', e' = .returned (U64 (adds o i y a a.length).2) ∧ OwnW w' g' (adds o i y a a.length).1 ∧ w.grownBy w' (some g') → AddToP g' i y o a w e' w' from fun _ _ _ h => h)
  clear hA hO hob
  generalize adds o i y a = F at *
  have hal : a.length ≤ 1000000 := by omega
  go_enter Tryz.func73, Tryz.ntmps73
  go_wp2_with fail
  go_loopw [7, 8, 9, 10, 11, 12, 15] (fun cy _ _ _ _ _ j wr => ∃ k : Nat, k ≤ a.length ∧ j = .int .i64 k ∧ cy = U64 (F k).2 ∧ OwnW wr g (F k).1 ∧ w.grownBy wr (some g)) (fun _ _ _ _ _ _ j _ => a.length - (intOf j).toNat)
  case atStart => exact ⟨0, by omega, rfl, by rw [HZ.out]; rfl, by rw [HZ.out]; exact HO0.out, grown_refl _ _⟩
  case round =>
    obtain ⟨k, hk, rfl, rfl, hown, hgr⟩ := hrel
    have HO := Lib.hid hown
    have HG := Lib.hid hgr
    clear hown hgr
    by_cases hlt : k < a.length
    · have hcell := World.grownBy.cell HG.out (HA.out.cell k hlt) (by simp; exact hbg)
      have hx := nth_ltW HA.out.lt k
      have hzc := HO.out.cell (i + k) (by rw [HLN.out]; omega)
      have hzf := HO.out.free (i + k)
      have hz := nth_ltW (HLT.out k).1 (i + k)
      have hc := (HLT.out k).2
      have HS1 := Lib.hid (HST.out k)
      generalize F k = f at *
      obtain ⟨p, c⟩ := f
      simp only at HO hzc hz hc HS1 ⊢
      obtain ⟨x, hxx⟩ : ∃ x, x = nth a k := ⟨_, rfl⟩
      obtain ⟨z, hzz⟩ : ∃ z, z = nth p (i + k) := ⟨_, rfl⟩
      rw [← hxx] at hcell hx HS1
      rw [← hzz] at hzc hz HS1
      clear hxx hzz
      have HW := Lib.hid (word_num hz hx hy hc)
      have HLTk := Lib.hid hlt
      obtain ⟨wo, hwo⟩ : ∃ wo : World, wo = wr := ⟨_, rfl⟩
      subst hwo
      have hkn : (k : Int) < (n0 : Int) := by omega
      go_wp2_with fail
      refine (mul64_any x y _ hx hy).mono ?_
      rintro e w' ⟨rfl, rfl⟩
      obtain ⟨hh, hhe⟩ : ∃ hh, hh = x * y / 18446744073709551616 := ⟨_, rfl⟩
      obtain ⟨ll, hle⟩ : ∃ ll, ll = x * y % 18446744073709551616 := ⟨_, rfl⟩
      rw [← hhe, ← hle] at HW ⊢
      have hll : ll < 18446744073709551616 := by omega
      have hhl : hh < 18446744073709551616 := by have := HW.out.2.1; omega
      clear hhe hle
      go_wp2_with fail
      rw [run_add0 ll c, Oper.upon_value]
      obtain ⟨l1, hl1⟩ : ∃ l1, l1 = (ll + c) % 18446744073709551616 := ⟨_, rfl⟩
      obtain ⟨c1, hc1⟩ : ∃ c1, c1 = (ll + c) / 18446744073709551616 := ⟨_, rfl⟩
      rw [← hl1, ← hc1] at HW ⊢
      have hc1l : c1 ≤ 1 := by omega
      clear hl1 hc1
      have hh1 := HW.out.2.1
      go_wp2_with fail
      rw [run_add0 z l1, Oper.upon_value]
      obtain ⟨s1, hs1⟩ : ∃ s1, s1 = (z + l1) % 18446744073709551616 := ⟨_, rfl⟩
      obtain ⟨c2, hc2⟩ : ∃ c2, c2 = (z + l1) / 18446744073709551616 := ⟨_, rfl⟩
      rw [← hs1, ← hc2] at HW ⊢
      have HS2 := Lib.hid (show F (k + 1) = (p.set (i + k) s1, hh + c1 + c2) by rw [HS1.out, HW.out.1, HW.out.2.2.1])
      have hh2 : hh + c1 + c2 < 18446744073709551616 := by rw [HW.out.2.2.1]; exact HW.out.2.2.2
      clear hs1 hc2
      go_wp2_with fail
      have h9 := HLTk.out
      refine ⟨⟨k + 1, h9, by go_num, ?_, ?_, ?_⟩, by simp [intOf]; omega⟩
      · rw [HS2.out]; exact u64_eq (by push_cast; rfl)
      · rw [HS2.out]; exact HO.out.set (i + k) s1
      · exact grown_trans HG.out (grown_setCell wo ⟨g, i + k, none⟩ _)
    · obtain rfl : k = a.length := by omega
      go_wp2_with fail
      go_ret
      exact HAD.out _ _ _ ⟨rfl, HO.out, HG.out⟩

set_option maxHeartbeats 400000 in
theorem addto_none (g i n0 c0 ca y : Nat) (pa : Option Addr) (o : List Nat) (w : World) (hO : OwnW w g o) :
    Calls Tryz.prog 73 #[.slice (some ⟨g, i, none⟩) n0 c0, .slice pa 0 ca, U64 y] w (AddToP g i y o [] w) := by
  have HO := Lib.hid hO
  clear hO
  go_enter Tryz.func73, Tryz.ntmps73
  go_wp2_with fail
  refine wp_loop_rounds 1 ?_
  rw [rounds_succ]
  go_wp2_with fail
  go_ret
  exact ⟨rfl, HO.out, grown_refl _ _⟩

end Go.Proofs.YtphdadibfeencaaGreat

/-
  The program's numbers (layer 6): 'times'.
-/
set_option maxRecDepth 100000
namespace Go.Proofs.YtphdadibfeencaaGreat
open Go.RowKit

theorem addto_any (g i n0 c0 ca y n : Nat) (pa : Option Addr) (o a : List Nat) (w : World) (hn : n = a.length) (hy : y < 18446744073709551616) (hO : OwnW w g o) (hob : ∀ x, x ∈ o → x < 18446744073709551616) (hi : i + n0 ≤ o.length) (hna : a.length ≤ n0) (hlen : o.length ≤ 1000000)
    (hA : Words w (.slice pa n ca) a) (hbg : ∀ b off, pa = some ⟨b, off, none⟩ → a.length ≠ 0 → b ≠ g) :
    Calls Tryz.prog 73 #[.slice (some ⟨g, i, none⟩) n0 c0, .slice pa n ca, U64 y] w (AddToP g i y o a w) := by
  subst hn
  by_cases hne : a = []
  · subst hne; exact addto_none g i n0 c0 ca y pa o w hO
  · have hA0 := hA
    obtain ⟨pa', ca', e, _, _, _, h4⟩ := hA
    obtain ⟨b, off, rfl, _, _⟩ := h4 hne
    simp only [Value.slice.injEq] at e
    obtain ⟨rfl, _, _⟩ := e
    exact addto_some g i n0 c0 b off ca y o a w hy hO hob hi hna hlen hA0 (hbg b off rfl (by simp [hne]))

/-- A row of the product: what is said of the words behind i rows. -/
structure Prod (x y o : List Nat) (L i : Nat) : Prop where
  len : o.length = L
  lt : ∀ z, z ∈ o → z < 18446744073709551616
  val : Wt.val o = Wt.low y i * Wt.val x
  over : ∀ j, i + x.length ≤ j → nth o j = 0

theorem nth_zeros (n j : Nat) : nth (List.replicate n 0) j = 0 := by
  unfold nth; rw [List.getD_eq_getElem?_getD]
  by_cases h : j < n
  · rw [List.getElem?_eq_getElem (by simpa using h)]; simp
  · rw [List.getElem?_eq_none (by simpa using h)]; rfl

theorem Prod.start (x y : List Nat) (L : Nat) : Prod x y (List.replicate L 0) L 0 :=
  ⟨by simp, fun z hz => by rw [List.eq_of_mem_replicate hz]; decide, by rw [Wt.val_replicate, Wt.low_zero, Nat.zero_mul], fun j _ => nth_zeros L j⟩

theorem Prod.next {x y o : List Nat} {L i : Nat} (h : Prod x y o L i) (hx : ∀ z, z ∈ x → z < 18446744073709551616) (hy : ∀ z, z ∈ y → z < 18446744073709551616) (hL : L = x.length + y.length) (hi : i < y.length) :
    Prod x y ((adds o i (nth y i) x x.length).1.set (i + x.length) (adds o i (nth y i) x x.length).2) L (i + 1) ∧ (adds o i (nth y i) x x.length).2 < 18446744073709551616 := by
  have hlt := adds_lt (i := i) h.lt hx (nth_ltW hy i) x.length
  have hv := adds_val (o := o) (i := i) (y := nth y i) (a := x) x.length (by rw [h.len]; omega)
  have hs := Wt.val_set (o := (adds o i (nth y i) x x.length).1) (j := i + x.length) (by rw [adds_length, h.len]; omega) (adds o i (nth y i) x x.length).2
  rw [adds_over o i (nth y i) x x.length _ (Nat.le_refl _), h.over _ (Nat.le_refl _), Nat.mul_zero, Nat.add_zero, hv, h.val, Wt.low_all (l := x) (Nat.le_refl _)] at hs
  refine ⟨⟨by rw [List.length_set, adds_length, h.len], Wt.set_lt hlt.1 _ hlt.2, ?_, fun j hj => ?_⟩, hlt.2⟩
  · rw [hs, Wt.low_succ, Nat.add_mul, Nat.mul_assoc, Nat.mul_comm (Wt.val x) (nth y i)]
  · rw [nth_set_ne (by omega), adds_over o i (nth y i) x x.length j (by omega), h.over j (by omega)]

theorem own_after {w : World} {g j c : Nat} {o1 o2 : List Nat} (h : OwnW w g o1 ∨ OwnW w g o2) (he : o2 = o1.set j c) : OwnW (w.setCell ⟨g, j, none⟩ (U64 c)) g o2 := by
  rcases h with h | h
  · rw [he]; exact h.set j c
  · have := h.set j c
    rw [he, List.set_set] at this
    rw [he]; exact this
theorem own_at {w : World} {g j c : Nat} {o1 o2 : List Nat} (h : OwnW w g o1 ∨ OwnW w g o2) (he : o2 = o1.set j c) (hj : j < o1.length) : (∃ z : Nat, w.cell? ⟨g, j, none⟩ = some (U64 z)) ∧ w.frozen? ⟨g, j, none⟩ = false := by
  rcases h with h | h
  · exact ⟨⟨_, h.cell j hj⟩, h.free j⟩
  · exact ⟨⟨_, h.cell j (by rw [he, List.length_set]; exact hj)⟩, h.free j⟩

set_option maxHeartbeats 2000000 in
theorem nattimes_any (u v : Value) (m n : Nat) (w : World) (hm : (Wt.dg m).length ≤ 100000) (hn : (Wt.dg n).length ≤ 100000) (hU : IsNat w u m) (hV : IsNat w v n) :
    Calls Tryz.prog 52 #[u, v] w (NatV w (m * n)) := by
  obtain ⟨pa, ca, rfl, hx, _, ha⟩ := hU.shape
  obtain ⟨pb, cb, rfl, hy, _, hb⟩ := hV.shape
  have HX := Lib.hid hx
  have HY := Lib.hid hy
  have HPA := Lib.hid (show ∀ b off, pa = some ⟨b, off, none⟩ → (Wt.dg m).length ≠ 0 → b < w.heap.size from fun b off e hne => by
    subst e
    exact World.block_lt_of_cell? w _ (hx.cell 0 (by omega)))
  have HPB := Lib.hid (show ∀ b off, pb = some ⟨b, off, none⟩ → (Wt.dg n).length ≠ 0 → b < w.heap.size from fun b off e hne => by
    subst e
    exact World.block_lt_of_cell? w _ (hy.cell 0 (by omega)))
  have HM := Lib.hid (Wt.val_dg m)
  have HN := Lib.hid (Wt.val_dg n)
  have HBB := Lib.hid hb
  clear hx hy hU hV ha hb
  generalize Wt.dg m = x at *
  generalize Wt.dg n = y at *
  obtain ⟨L, hL⟩ : ∃ L, L = x.length + y.length := ⟨_, rfl⟩
  have hLI : ((x.length : Int) + (y.length : Int)) = (L : Int) := by omega
  have hL3 : L ≤ 200000 := by omega
  have hmk := make_words L (by omega)
  have HL := Lib.hid hL
  clear hL
  go_enter Tryz.func52, Tryz.ntmps52
  go_upto_region 1 with fail
  obtain ⟨B, hk1, hk2, hk3, hs⟩ := blocks3 w #[.slice pa x.length ca] 40 #[.slice pb y.length cb] 40 #[.slice none 0 0] 40
  generalize (((w.alloc (.cells #[.slice pa x.length ca] 40)).alloc (.cells #[.slice pb y.length cb] 40)).alloc (.cells #[.slice none 0 0] 40)) = W at *
  have K1 := Lib.hid hk1
  have K2 := Lib.hid hk2
  have K3 := Lib.hid hk3
  have HS := Lib.hid hs
  clear hs hk1 hk2 hk3
  replace HX := Lib.hid (HX.out.go B)
  replace HY := Lib.hid (HY.out.go B)
  have hzW := B.size
  have k10 : W.cell? ⟨w.heap.size, 0, none⟩ = some (.slice pa x.length ca) := K1.out.cell 0
  have k20 : W.cell? ⟨w.heap.size + 1, 0, none⟩ = some (.slice pb y.length cb) := K2.out.cell 0
  go_upto_region 2 with fail
  obtain ⟨g, hg⟩ : ∃ g, g = W.heap.size := ⟨_, rfl⟩
  have HO0 := Lib.hid (show OwnW (W.alloc (wordsObj (List.replicate L 0))) g (List.replicate L 0) by rw [hg]; exact OwnW.new W _)
  have HG := Lib.hid hg
  have HB0 := Lib.hid ((Below.refl W.heap.size W).alloc (Nat.le_refl _) (wordsObj (List.replicate L 0)))
  have HNA := Lib.hid (show ∀ b off, pa = some ⟨b, off, none⟩ → x.length ≠ 0 → b ≠ g from fun b off e hh => by have := HPA.out b off e hh; omega)
  have k20' : (W.alloc (wordsObj (List.replicate L 0))).cell? ⟨w.heap.size + 1, 0, none⟩ = some (.slice pb y.length cb) := (K2.out.alloc _).cell 0
  rw [← hg]
  clear hg hmk k10 k20
  generalize W.alloc (wordsObj (List.replicate L 0)) = W1 at *
  go_wp2_with fail
  go_loopw [6, 7, 19] (fun _ _ i wr => ∃ (k : Nat) (o : List Nat), k ≤ y.length ∧ i = .int .i64 k ∧ Prod x y o L k ∧ OwnW wr g o ∧ Below W.heap.size W wr) (fun _ _ i _ => y.length - (intOf i).toNat)
  case atStart => exact ⟨0, _, by omega, rfl, Prod.start x y L, HO0.out, HB0.out⟩
  case round =>
    obtain ⟨k, o, hk, rfl, hpr, hown, hbel⟩ := hrel
    have HP := Lib.hid hpr
    have HO := Lib.hid hown
    have hz := hbel.size
    have HXr := Lib.hid (HX.out.go hbel)
    have HYr := Lib.hid (HY.out.go hbel)
    have HK1 := Lib.hid (K1.out.go hbel)
    clear hpr hown
    by_cases hlt : k < y.length
    · have hkL := hlt
      obtain ⟨b, off, rfl⟩ := HBB.out (by omega)
      have hyl := nth_ltW HY.out.lt k
      have hyc := HYr.out.cell k hlt
      have HNX := Lib.hid (HP.out.next HX.out.lt HY.out.lt HL.out hlt)
      have HLN := Lib.hid (adds_length o k (nth y k) x x.length)
      have HAD := Lib.hid (show ∀ e w w', AddToP g k (nth y k) o x w e w' → e = .returned (U64 (adds o k (nth y k) x x.length).2) ∧ OwnW w' g (adds o k (nth y k) x x.length).1 ∧ w.grownBy w' (some g) from fun _ _ _ h => h)
      have HCALL := Lib.hid (show ∀ n0 c0 (w : World), OwnW w g o → k + n0 ≤ L → x.length ≤ n0 → Words w (.slice pa x.length ca) x → Calls Tryz.prog 73 #[.slice (some ⟨g, k, none⟩) n0 c0, .slice pa x.length ca, U64 (nth y k)] w (AddToP g k (nth y k) o x w) from
        fun n0 c0 w h1 h2 h3 h4 => addto_any g k n0 c0 ca (nth y k) x.length pa o x w rfl hyl h1 HP.out.lt (by rw [HP.out.len]; exact h2) h3 (by rw [HP.out.len]; omega) h4 HNA.out)
      generalize adds o k (nth y k) x x.length = f at *
      obtain ⟨o1, c⟩ := f
      simp only at HNX HLN HAD
      obtain ⟨o2, ho2⟩ : ∃ o2, o2 = o1.set (k + x.length) c := ⟨_, rfl⟩
      rw [← ho2] at HNX
      have HO2 := Lib.hid ho2
      obtain ⟨q, hq⟩ : ∃ q, q = nth y k := ⟨_, rfl⟩
      rw [← hq] at hyl hyc HAD HCALL
      clear hq ho2
      have hkx : k + x.length ≤ 9223372036854775807 := by omega
      have hjl : k + x.length < o1.length := by rw [HLN.out, HP.out.len]; have := HL.out; omega
      have HJL := Lib.hid hjl
      have hkLL : k < L := by have := HL.out; omega
      have hjL : k + x.length < L := by have := HL.out; omega
      have HJ := Lib.hid (show k + (L - k) ≤ L ∧ x.length ≤ L - k by have := HL.out; omega)
      clear hjl
      go_wp2_with fail
      generalize hj : k + x.length = j at *
      refine wp_region_mono (C := Cg wr g) (R := Rb) (H := H2 g o1 o2) [Ty.val 24 (whole g L), Ty.val 25 (.int .i64 k), Ty.val 26 (.pointer (some ⟨w.heap.size, 0, none⟩)), Ty.val 27 (.slice pa x.length ca), Ty.val 28 (.int .i64 x.length), Ty.val 29 (.int .i64 j), Ty.val 30 (whole g L), Ty.val 31 (.int .i64 k), Ty.val 32 (.slice (some ⟨g, k, none⟩) (L - k) (L - k)), Ty.val 33 (.pointer (some ⟨w.heap.size, 0, none⟩)), Ty.val 34 (.slice pa x.length ca), Ty.val 35 (U64 q), (Ty.callsW 36 (U64 c) o), Ty.val 37 (.pointer (some ⟨g, j, none⟩)), Ty.store2W] (by kernel_rfl) (hC_g wr g) (hCH_2 wr g o1 o2) (drew_g wr g) ⟨trivial, trivial, trivial, trivial, trivial, trivial, trivial, trivial, trivial, trivial, trivial, trivial, (HO.out), trivial, trivial, trivial⟩ (by kernel_rfl) ?_ ?_
      · refine ⟨?_, ?_, ?_, ?_, ?_, ?_, ?_, ?_, ?_, ?_, ?_, ?_, ?_, ?_, ?_, trivial⟩
        · intro ac wc hC hsz hfr hd hpr
          have d5 : ac.eval (.tmp 5) = (whole g L) := hfr 5 rfl
          rw [if_pos (wanted_none rfl)]
          exact ob_copy rfl rfl rfl (Nat.lt_of_lt_of_eq (by decide : 24 < 41) hsz.symm) (Or.inl rfl) (Below.refl _ _) d5
        · intro ac wc hC hsz hfr hd hpr
          have d6 : ac.eval (.tmp 6) = (.int .i64 k) := hfr 6 rfl
          rw [if_pos (wanted_none rfl)]
          exact ob_copy rfl rfl rfl (Nat.lt_of_lt_of_eq (by decide : 25 < 41) hsz.symm) (Or.inl rfl) (Below.refl _ _) d6
        · intro ac wc hC hsz hfr hd hpr
          have d2 : ac.eval (.tmp 2) = (.pointer (some ⟨w.heap.size, 0, none⟩)) := hfr 2 rfl
          rw [if_pos (wanted_none rfl)]
          exact ob_field _ rfl rfl rfl (Nat.lt_of_lt_of_eq (by decide : 26 < 41) hsz.symm) rfl d2 (field_nat _) (Below.refl _ _) rfl
        · intro ac wc hC hsz hfr hd hpr
          have d26 : ac.eval (.tmp 26) = (.pointer (some ⟨w.heap.size, 0, none⟩)) := hd 2 rfl
          rw [if_pos (wanted_none rfl)]
          exact ob_load _ rfl rfl rfl (Nat.lt_of_lt_of_eq (by decide : 27 < 41) hsz.symm) rfl d26 (load_words ((HK1.out.cg hC (by rw [HG.out]; have := K1.out.lt; omega)).cell 0)) (Below.refl _ _) rfl
        · intro ac wc hC hsz hfr hd hpr
          have d27 : ac.eval (.tmp 27) = (.slice pa x.length ca) := hd 3 rfl
          rw [if_pos (wanted_none rfl)]
          exact ob_len rfl rfl rfl (Nat.lt_of_lt_of_eq (by decide : 28 < 41) hsz.symm) rfl d27 (len_words _ _ _) (Below.refl _ _) rfl
        · intro ac wc hC hsz hfr hd hpr
          have d25 : ac.eval (.tmp 25) = (.int .i64 k) := hd 1 rfl
          have d28 : ac.eval (.tmp 28) = (.int .i64 x.length) := hd 4 rfl
          rw [if_pos (wanted_none rfl)]
          exact ob_bin _ rfl rfl rfl (Nat.lt_of_lt_of_eq (by decide : 29 < 41) hsz.symm) rfl d25 d28 (add_int hj hkx) (Below.refl _ _) rfl
        · intro ac wc hC hsz hfr hd hpr
          have d5 : ac.eval (.tmp 5) = (whole g L) := hfr 5 rfl
          rw [if_pos (wanted_none rfl)]
          exact ob_copy rfl rfl rfl (Nat.lt_of_lt_of_eq (by decide : 30 < 41) hsz.symm) (Or.inl rfl) (Below.refl _ _) d5
        · intro ac wc hC hsz hfr hd hpr
          have d6 : ac.eval (.tmp 6) = (.int .i64 k) := hfr 6 rfl
          rw [if_pos (wanted_none rfl)]
          exact ob_copy rfl rfl rfl (Nat.lt_of_lt_of_eq (by decide : 31 < 41) hsz.symm) (Or.inl rfl) (Below.refl _ _) d6
        · intro ac wc hC hsz hfr hd hpr
          have d30 : ac.eval (.tmp 30) = (whole g L) := hd 6 rfl
          have d31 : ac.eval (.tmp 31) = (.int .i64 k) := hd 7 rfl
          rw [if_pos (wanted_none rfl)]
          have hlt : 32 < ac.tmps.size := (Nat.lt_of_lt_of_eq (by decide : 32 < 41) hsz.symm)
          exact ob_slice _ rfl rfl rfl hlt rfl d30 d31 (slice_from _ hkLL) (Below.refl _ _) rfl
        · intro ac wc hC hsz hfr hd hpr
          have d2 : ac.eval (.tmp 2) = (.pointer (some ⟨w.heap.size, 0, none⟩)) := hfr 2 rfl
          rw [if_pos (wanted_none rfl)]
          exact ob_field _ rfl rfl rfl (Nat.lt_of_lt_of_eq (by decide : 33 < 41) hsz.symm) rfl d2 (field_nat _) (Below.refl _ _) rfl
        · intro ac wc hC hsz hfr hd hpr
          have d33 : ac.eval (.tmp 33) = (.pointer (some ⟨w.heap.size, 0, none⟩)) := hd 9 rfl
          rw [if_pos (wanted_none rfl)]
          exact ob_load _ rfl rfl rfl (Nat.lt_of_lt_of_eq (by decide : 34 < 41) hsz.symm) rfl d33 (load_words ((HK1.out.cg hC (by rw [HG.out]; have := K1.out.lt; omega)).cell 0)) (Below.refl _ _) rfl
        · intro ac wc hC hsz hfr hd hpr
          have d7 : ac.eval (.tmp 7) = (U64 q) := hfr 7 rfl
          rw [if_pos (wanted_none rfl)]
          exact ob_copy rfl rfl rfl (Nat.lt_of_lt_of_eq (by decide : 35 < 41) hsz.symm) (Or.inl rfl) (Below.refl _ _) d7
        · intro ac wc hC hsz hfr hd hpr
          have d32 : ac.eval (.tmp 32) = (.slice (some ⟨g, k, none⟩) (L - k) (L - k)) := hd 8 rfl
          have d34 : ac.eval (.tmp 34) = (.slice pa x.length ca) := hd 10 rfl
          have d35 : ac.eval (.tmp 35) = (U64 q) := hd 11 rfl
          rw [if_pos (wanted_none rfl)]
          have hlt : 36 < ac.tmps.size := (Nat.lt_of_lt_of_eq (by decide : 36 < 41) hsz.symm)
          refine ob_callW rfl rfl rfl hlt rfl (enter_of Tryz.func73 (by kernel_rfl) rfl) ?_
          show Calls Tryz.prog 73 #[ac.eval (.tmp 32), ac.eval (.tmp 34), ac.eval (.tmp 35)] wc _
          rw [d32, d34, d35]
          refine (HCALL.out _ _ wc hpr HJ.out.1 HJ.out.2 (HXr.out.cg' hC HNA.out)).mono fun e w' h => ?_
          obtain ⟨he, h1, h2⟩ := HAD.out _ _ _ h
          exact ⟨_, he, ⟨rfl, .inl h1⟩, ⟨h2, h1⟩⟩
        · intro ac wc hC hsz hfr hd hpr
          have d24 : ac.eval (.tmp 24) = (whole g L) := hd 0 rfl
          have d29 : ac.eval (.tmp 29) = (.int .i64 j) := hd 5 rfl
          rw [if_pos (wanted_none rfl)]
          have hlt : 37 < ac.tmps.size := (Nat.lt_of_lt_of_eq (by decide : 37 < 41) hsz.symm)
          exact ob_index _ rfl rfl rfl hlt rfl d24 d29 (index_whole _ hjL) (Below.refl _ _) rfl
        · intro ac wc hC hsz hfr hd hpr
          have d37 : ac.eval (.tmp 37) = (.pointer (some ⟨g, j, none⟩)) := hd 13 rfl
          have d36 : (ac.eval (.tmp 36)) = U64 c ∧ (OwnW wc g o1 ∨ OwnW wc g o2) := hd 12 rfl
          rw [if_pos (wanted_none rfl)]
          have hlt : 0 < ac.tmps.size := (Nat.lt_of_lt_of_eq (by decide : 0 < 41) hsz.symm)
          obtain ⟨⟨z, hzc⟩, hzf⟩ := own_at d36.2 HO2.out HJL.out
          exact ob_store0 _ rfl rfl rfl d37 d36.1 (store_u64 hzc hzf) ⟨grown_setCell wc ⟨g, j, none⟩ _, own_after d36.2 HO2.out⟩ (own_after d36.2 HO2.out)
      intro a' W6 hC hdef hsz hfr hd
      have e24 : a'.eval (.tmp 24) = (whole g L) := hd 0 (by decide)
      have e25 : a'.eval (.tmp 25) = (.int .i64 k) := hd 1 (by decide)
      have e26 : a'.eval (.tmp 26) = (.pointer (some ⟨w.heap.size, 0, none⟩)) := hd 2 (by decide)
      have e27 : a'.eval (.tmp 27) = (.slice pa x.length ca) := hd 3 (by decide)
      have e28 : a'.eval (.tmp 28) = (.int .i64 x.length) := hd 4 (by decide)
      have e29 : a'.eval (.tmp 29) = (.int .i64 j) := hd 5 (by decide)
      have e30 : a'.eval (.tmp 30) = (whole g L) := hd 6 (by decide)
      have e31 : a'.eval (.tmp 31) = (.int .i64 k) := hd 7 (by decide)
      have e32 : a'.eval (.tmp 32) = (.slice (some ⟨g, k, none⟩) (L - k) (L - k)) := hd 8 (by decide)
      have e33 : a'.eval (.tmp 33) = (.pointer (some ⟨w.heap.size, 0, none⟩)) := hd 9 (by decide)
      have e34 : a'.eval (.tmp 34) = (.slice pa x.length ca) := hd 10 (by decide)
      have e35 : a'.eval (.tmp 35) = (U64 q) := hd 11 (by decide)
      obtain ⟨x36, e36, r36⟩ : ∃ xq_, a'.eval (.tmp 36) = xq_ ∧ (xq_) = U64 c ∧ (OwnW W6 g o1 ∨ OwnW W6 g o2) := ⟨_, rfl, hd 12 (by decide)⟩
      replace r36 := Lib.hid r36
      have e37 : a'.eval (.tmp 37) = (.pointer (some ⟨g, j, none⟩)) := hd 13 (by decide)
      have st14 : OwnW W6 g o2 := hd 14 (by decide)
      replace st14 := Lib.hid st14
      have hact := act_puts hdef hsz hfr
      simp only [dstsOf, List.filterMap, putAll, Act.put, List.setIfInBounds_toArray, List.set_cons_succ, List.set_cons_zero, e24, e25, e26, e27, e28, e29, e30, e31, e32, e33, e34, e35, e36, e37] at hact
      clear hd hfr hsz hdef e24 e25 e26 e27 e28 e29 e30 e31 e32 e33 e34 e35 e36 e37
      subst hact
      have HO6 := Lib.hid (st14.out)
      have hb6 := below_grown hbel hC hz (Nat.le_of_eq HG.out.symm)
      have HB6 := Lib.hid hb6
      clear hC hb6 hbel hk hlt
      go_wp2_with fail
      exact ⟨⟨k + 1, o2, hkL, by go_num, HNX.out.1, HO6.out, HB6.out⟩, by simp [intOf]; omega⟩
    · obtain rfl : k = y.length := by omega
      have HK3 := Lib.hid (K3.out.go hbel)
      have HVL := Lib.hid (show Wt.val o = m * n by rw [HP.out.val, Wt.low_all (Nat.le_refl _), HM.out, HN.out, Nat.mul_comm])
      have hw := HO.out
      have HW := Lib.hid (show Words wr (whole g L) o by have h := hw.words HP.out.lt (by rw [HP.out.len]; omega); rw [HP.out.len] at h; exact h)
      have hbw := B.trans (hbel.mono B.size)
      clear hw hbel hk hlt
      go_wp2_with fail
      refine (trimmed_any _ _ _ HW.out).mono ?_
      rintro e w2 ⟨u2, rfl, hu, hb⟩
      rw [HVL.out] at hu
      obtain ⟨a2, c2, rfl, hv, _⟩ := hu.shape
      have k3 := HK3.out.go hb
      have hf0 := k3.free 0
      have h0 : w2.cell? ⟨w.heap.size + 1 + 1, 0, none⟩ = some (.slice none 0 0) := k3.cell 0
      have HS2 := Lib.hid (nat_store k3 hv)
      have HB2 := Lib.hid (hbw.trans (hb.mono hbw.size))
      clear hv hu k3 hb hbw
      generalize (Wt.dg (m * n)).length = M at *
      go_wp2_with fail
      exact bodyPost_ret (v := .agg #[.slice a2 M c2]) (by simp [results, Tryz.results52, go_sem, HS2.out.1]) rfl ⟨_, rfl, ⟨_, rfl, HS2.out.2⟩, HB2.out.setCell (by show w.heap.size ≤ w.heap.size + 1 + 1; omega) _⟩

end Go.Proofs.YtphdadibfeencaaGreat

/-
  The program's numbers (layer 6): 'folded', 'Add', 'Mul'.
-/
set_option maxRecDepth 100000
namespace Go.Proofs.YtphdadibfeencaaGreat
open Go.RowKit

/-- Is the number too great? -/
def Great (n : Nat) : Prop := 512 < (Wt.dg n).length
instance (n : Nat) : Decidable (Great n) := by unfold Great; infer_instance
/-- One number behind the other; none from the first on that is too great. -/
def foldG (op : Nat → Nat → Nat) (a : Nat) : List Nat → Option Nat
  | [] => some a
  | x :: l => if Great (op a x) then none else foldG op (op a x) l
theorem foldG_snoc (op : Nat → Nat → Nat) (x : Nat) : ∀ (l : List Nat) (a : Nat), foldG op a (l ++ [x]) = (foldG op a l).bind fun v => if Great (op v x) then none else some (op v x)
  | [], a => by simp only [List.nil_append, foldG, Option.bind_some]
  | y :: l, a => by
    simp only [List.cons_append, foldG]
    split
    · rfl
    · exact foldG_snoc op x l _
theorem foldG_none {op : Nat → Nat → Nat} {a : Nat} {l : List Nat} {k : Nat} (h : foldG op a (l.take k) = none) : foldG op a l = none := by
  have e : ∀ (l r : List Nat) (a : Nat), foldG op a l = none → foldG op a (l ++ r) = none := by
    intro l
    induction l with
    | nil => intro r a h; simp [foldG] at h
    | cons y l ih =>
      intro r a h
      simp only [foldG, List.cons_append] at h ⊢
      split
      · rfl
      · rename_i hg
        rw [if_neg hg] at h
        exact ih r _ h
  rw [← List.take_append_drop k l]
  exact e _ _ _ h

/-- A number whose words lie elsewhere than a box that is written. -/
theorem IsNat.box {w : World} {u : Value} {m g : Nat} {a : Option Addr} {n c : Nat} {T : TypeId} (h : IsNat w u m) (k : Blk w g #[.slice a n c] T) {w' : World} (hg : w.grownBy w' (some g)) : IsNat w' u m := by
  obtain ⟨v, e, h⟩ := h
  exact ⟨v, e, h.other k (no_words1 a n c) hg⟩

/-- What a list of numbers comes to: the number, and the error's. -/
def foldN (r : Option Nat) : Nat := r.getD 0
def foldE (r : Option Nat) : Int := if r.isSome then 0 else 16

theorem small_of {n : Nat} (h : ¬ Great n) : (Wt.dg n).length ≤ 512 := by unfold Great at h; omega

theorem not_great_small {n : Nat} (h : n < 18446744073709551616) : ¬ Great n := by
  have := Wt.dg_length_le (n := n) (k := 1) (by simpa using h)
  unfold Great; omega

end Go.Proofs.YtphdadibfeencaaGreat

/-
  The program's numbers (layer 6): 'Pow'.
-/
set_option maxRecDepth 100000
namespace Go.Proofs.YtphdadibfeencaaGreat
open Go.RowKit


/-- A power, so many times; none from the first on that is too great. -/
def powG (a k : Nat) : Option Nat := foldG (· * ·) 1 (List.replicate k a)
theorem powG_zero (a : Nat) : powG a 0 = some 1 := rfl
theorem powG_succ (a k : Nat) : powG a (k + 1) = (powG a k).bind fun v => if Great (v * a) then none else some (v * a) := by
  unfold powG; rw [List.replicate_succ', foldG_snoc]
theorem powG_none {a k n : Nat} (hk : k ≤ n) (h : powG a k = none) : powG a n = none := by
  unfold powG at h ⊢
  refine foldG_none (k := k) ?_
  rw [List.take_replicate, Nat.min_eq_left hk]; exact h

set_option maxHeartbeats 400000 in
theorem natpow_no (u : Value) (a : Nat) (n : Int) (w : World) (h : n < 0 ∨ (0 ≤ n ∧ 65536 < n)) (hU : IsNat w u a) :
    Calls Tryz.prog 28 #[u, .int .i64 n] w (NatE w 0 2) := by
  obtain ⟨pa, ca, rfl, _⟩ := hU.shape
  clear hU
  generalize (Wt.dg a).length = ml at *
  rcases h with h | ⟨h0, h⟩
  · go_enter Tryz.func28, Tryz.ntmps28
    go_upto_region 1 with fail
    obtain ⟨B, hk1, hk2, hs⟩ := blocks2 w #[.slice pa ml ca] 40 #[.slice none 0 0] 40
    generalize ((w.alloc (.cells #[.slice pa ml ca] 40)).alloc (.cells #[.slice none 0 0] 40)) = W at *
    have K1 := Lib.hid hk1
    have K2 := Lib.hid hk2
    have HS := Lib.hid hs
    clear hs hk1 hk2
    have hzW := B.size
    have hf0 := K2.out.free 0
    have h0 : W.cell? ⟨w.heap.size + 1, 0, none⟩ = some (.slice none 0 0) := K2.out.cell 0
    have e0 : ∀ v, (W.setCell ⟨w.heap.size + 1, 0, none⟩ v).cell? ⟨w.heap.size + 1, 0, none⟩ = some v := fun v => (K2.out.set 0 v).cell 0
    go_wp2_with fail
    exact bodyPost_ret (v := .tuple #[.agg #[.slice none 0 0], I64 2]) (by simp [results, Tryz.results28, go_sem, e0]) rfl ⟨_, rfl, nat_zero _, B.setCell (by show w.heap.size ≤ w.heap.size + 1; omega) _⟩
  · have h2 : ¬ n < 0 := by omega
    go_enter Tryz.func28, Tryz.ntmps28
    go_upto_region 1 with fail
    obtain ⟨B, hk1, hk2, hs⟩ := blocks2 w #[.slice pa ml ca] 40 #[.slice none 0 0] 40
    generalize ((w.alloc (.cells #[.slice pa ml ca] 40)).alloc (.cells #[.slice none 0 0] 40)) = W at *
    have K1 := Lib.hid hk1
    have K2 := Lib.hid hk2
    have HS := Lib.hid hs
    clear hs hk1 hk2
    have hzW := B.size
    have hf0 := K2.out.free 0
    have h0 : W.cell? ⟨w.heap.size + 1, 0, none⟩ = some (.slice none 0 0) := K2.out.cell 0
    have e0 : ∀ v, (W.setCell ⟨w.heap.size + 1, 0, none⟩ v).cell? ⟨w.heap.size + 1, 0, none⟩ = some v := fun v => (K2.out.set 0 v).cell 0
    go_wp2_with fail
    exact bodyPost_ret (v := .tuple #[.agg #[.slice none 0 0], I64 2]) (by simp [results, Tryz.results28, go_sem, e0]) rfl ⟨_, rfl, nat_zero _, B.setCell (by show w.heap.size ≤ w.heap.size + 1; omega) _⟩

set_option maxHeartbeats 2000000 in
theorem natpow_yes (u : Value) (x n : Nat) (w : World) (hn : n ≤ 65536) (hx : ¬ Great x) (hU : IsNat w u x) :
    Calls Tryz.prog 28 #[u, .int .i64 n] w (NatE w (foldN (powG x n)) (foldE (powG x n))) := by
  have HU := Lib.hid hU
  obtain ⟨pa, ca, rfl, _⟩ := hU.shape
  have HSM := Lib.hid (show ∀ v, ¬ Great v → (Wt.dg v).length ≤ 100000 from fun v h => Nat.le_trans (small_of h) (by decide))
  have HGX := Lib.hid hx
  have HP0 := Lib.hid (powG_zero x)
  have HPS := Lib.hid (powG_succ x)
  have HPN := Lib.hid (fun k h1 h2 => powG_none (a := x) (k := k) (n := n) h1 h2)
  have HG1 := Lib.hid (not_great_small (n := 1) (by decide))
  clear hU hx
  generalize powG x = pg at *
  generalize hlx : (Wt.dg x).length = lx at *
  clear hlx
  have h2 : ¬ (n : Int) < 0 := by omega
  have h3 : ¬ 65536 < (n : Int) := by omega
  go_enter Tryz.func28, Tryz.ntmps28
  go_upto_region 1 with fail
  obtain ⟨B, hk1, hk2, hs⟩ := blocks2 w #[.slice pa lx ca] 40 #[.slice none 0 0] 40
  generalize ((w.alloc (.cells #[.slice pa lx ca] 40)).alloc (.cells #[.slice none 0 0] 40)) = W at *
  have K1 := Lib.hid hk1
  have K2 := Lib.hid hk2
  have HS := Lib.hid hs
  clear hs hk1 hk2
  replace HU := Lib.hid (HU.out.go B)
  have hzW := B.size
  go_wp2_with fail
  refine (natof_any 1 W (by decide)).mono ?_
  rintro e w1 ⟨u1, rfl, hu, hb⟩
  have HV1 := Lib.hid hu
  obtain ⟨a1, c1, rfl, _⟩ := hu.shape
  replace HU := Lib.hid (HU.out.go hb)
  replace K1 := Lib.hid (K1.out.go hb)
  replace K2 := Lib.hid (K2.out.go hb)
  replace B := B.trans (hb.mono B.size)
  have hz1 := hb.size
  clear hu hb
  generalize hl1 : (Wt.dg 1).length = l1 at *
  have HL1 := Lib.hid hl1
  clear hl1
  go_upto_region 4 with fail
  obtain ⟨gp, hgp⟩ : ∃ gp, gp = w1.heap.size := ⟨_, rfl⟩
  obtain ⟨hb, hk, hs⟩ := blocks1 w1 #[.slice a1 l1 c1] 40
  generalize w1.alloc (.cells #[.slice a1 l1 c1] 40) = W2 at *
  have KP := Lib.hid hk
  replace HU := Lib.hid (HU.out.go hb)
  replace K1 := Lib.hid (K1.out.go hb)
  replace K2 := Lib.hid (K2.out.go hb)
  replace HV1 := Lib.hid (HV1.out.go hb)
  replace B := B.trans (hb.mono B.size)
  have hzW2 := B.size
  clear hb hk hs
  rw [← hgp] at KP ⊢
  have hgp2 : w.heap.size + 2 ≤ gp := by have := HS.out; omega
  clear hgp
  go_wp2_with fail
  go_loopw [16] (fun i wr => ∃ (k v : Nat) (a : Option Addr) (c : Nat), k ≤ n ∧ i = .int .i64 k ∧ pg k = some v ∧ ¬ Great v ∧ Blk wr gp #[.slice a (Wt.dg v).length c] 40 ∧ IsNat wr (.agg #[.slice a (Wt.dg v).length c]) v ∧ Blk wr w.heap.size #[.slice pa lx ca] 40 ∧ IsNat wr (.agg #[.slice pa lx ca]) x ∧ Blk wr (w.heap.size + 1) #[.slice none 0 0] 40 ∧ Below w.heap.size w wr) (fun i _ => n - (intOf i).toNat)
  case atStart => exact ⟨0, 1, a1, c1, by omega, rfl, HP0.out, HG1.out, by rw [HL1.out]; exact KP.out, by rw [HL1.out]; exact HV1.out, K1.out, HU.out, K2.out, B⟩
  case round =>
    obtain ⟨k, v, a, c, hk, rfl, hf, hg, hkp, hv, hk1, hx, hk2, B⟩ := hrel
    have HF := Lib.hid hf
    have HG := Lib.hid hg
    have HKP := Lib.hid hkp
    have HVV := Lib.hid hv
    have HK1 := Lib.hid hk1
    have HX := Lib.hid hx
    have HK2 := Lib.hid hk2
    clear hf hg hkp hv hk1 hx hk2
    by_cases hlt : k < n
    · have HKL := Lib.hid hlt
      have HS3 := Lib.hid (show pg (k + 1) = if Great (v * x) then none else some (v * x) by rw [HPS.out, HF.out]; rfl)
      generalize hln : (Wt.dg v).length = ln at *
      clear hln
      have kp0 : wr.cell? ⟨gp, 0, none⟩ = some (.slice a ln c) := HKP.out.cell 0
      have k10 : wr.cell? ⟨w.heap.size, 0, none⟩ = some (.slice pa lx ca) := HK1.out.cell 0
      obtain ⟨wo, hwo⟩ : ∃ wo : World, wo = wr := ⟨_, rfl⟩
      subst hwo
      go_wp2_with fail
      refine (nattimes_any _ _ v x wo (HSM.out _ HG.out) (HSM.out _ HGX.out) HVV.out HX.out).mono ?_
      rintro e w6 ⟨u6, rfl, hu, hb⟩
      obtain ⟨a6, c6, rfl, hw6, _⟩ := hu.shape
      have k8 := HKP.out.go hb
      have h80 : w6.cell? ⟨gp, 0, none⟩ = some (.slice a ln c) := k8.cell 0
      have h8f := k8.free 0
      have hgs := grown_setCell w6 ⟨gp, 0, none⟩ (.slice a6 (Wt.dg (v * x)).length c6)
      have HN6 := Lib.hid (hu.box k8 hgs)
      have HKP6 := Lib.hid (k8.set 0 (.slice a6 (Wt.dg (v * x)).length c6))
      have HK16 := Lib.hid ((HK1.out.go hb).grown hgs (by simp; omega))
      have HK26 := Lib.hid ((HK2.out.go hb).grown hgs (by simp; omega))
      have HX6 := Lib.hid ((HX.out.go hb).box k8 hgs)
      have B6 := (B.trans (hb.mono B.size)).setCell (p := ⟨gp, 0, none⟩) (show w.heap.size ≤ gp by omega) (.slice a6 (Wt.dg (v * x)).length c6)
      have HTG := Lib.hid (fun W h => toogreat_any (.agg #[.slice a6 (Wt.dg (v * x)).length c6]) (v * x) W h)
      have HLG := Lib.hid (show decide (512 < ((Wt.dg (v * x)).length : Int)) = decide (Great (v * x)) from decide_eq_decide.2 ⟨fun h => by unfold Great; omega, fun h => by unfold Great at h; omega⟩)
      rw [HLG.out] at HTG
      clear hu hw6 hb k8 kp0 k10 HLG
      generalize hsum : v * x = sm at *
      generalize hl6 : (Wt.dg sm).length = l6 at *
      have HL6 := Lib.hid hl6
      have e80 : (w6.setCell ⟨gp, 0, none⟩ (.slice a6 l6 c6)).cell? ⟨gp, 0, none⟩ = some (.slice a6 l6 c6) := HKP6.out.cell 0
      clear hsum hl6 hgs
      go_wp2_with fail
      generalize w6.setCell ⟨gp, 0, none⟩ (.slice a6 l6 c6) = w7 at *
      refine (HTG.out w7 HN6.out).mono ?_
      rintro e w8 ⟨rfl, hb⟩
      by_cases hgr : Great sm
      · have hd : decide (Great sm) = true := decide_eq_true hgr
        have HR := Lib.hid (show pg n = none from HPN.out (k + 1) HKL.out (by rw [HS3.out, if_pos hgr]))
        rw [hd]
        have k6 := HK26.out.go hb
        have hf6 := k6.free 0
        have h60 : w8.cell? ⟨w.heap.size + 1, 0, none⟩ = some (.slice none 0 0) := k6.cell 0
        have B8 := B6.trans (hb.mono B6.size)
        have k60 : ∀ u, (w8.setCell ⟨w.heap.size + 1, 0, none⟩ u).cell? ⟨w.heap.size + 1, 0, none⟩ = some u := fun u => (k6.set 0 u).cell 0
        clear hb hgr hd k6
        go_wp2_with fail
        rw [HR.out]
        exact bodyPost_ret (v := .tuple #[.agg #[.slice none 0 0], I64 16]) (by simp [results, Tryz.results28, go_sem, k60]) rfl ⟨_, rfl, nat_zero _, B8.setCell (by show w.heap.size ≤ w.heap.size + 1; omega) _⟩
      · have hd : decide (Great sm) = false := decide_eq_false hgr
        rw [hd]
        have HKP8 := Lib.hid (HKP6.out.go hb)
        have HN8 := Lib.hid (HN6.out.go hb)
        have HK18 := Lib.hid (HK16.out.go hb)
        have HK28 := Lib.hid (HK26.out.go hb)
        have HX8 := Lib.hid (HX6.out.go hb)
        have B8 := Lib.hid (B6.trans (hb.mono B6.size))
        have HNG := Lib.hid hgr
        clear hb hgr hd B6
        go_wp2_with fail
        have h9 := HKL.out
        refine ⟨⟨k + 1, sm, a6, c6, h9, by go_num, by rw [HS3.out, if_neg HNG.out], HNG.out, by rw [HL6.out]; exact HKP8.out, by rw [HL6.out]; exact HN8.out, HK18.out, HX8.out, HK28.out, B8.out⟩, by simp [intOf]; omega⟩
    · obtain rfl : k = n := by omega
      have h80 : wr.cell? ⟨gp, 0, none⟩ = some (.slice a (Wt.dg v).length c) := HKP.out.cell 0
      have hf6 := HK2.out.free 0
      have h60 : wr.cell? ⟨w.heap.size + 1, 0, none⟩ = some (.slice none 0 0) := HK2.out.cell 0
      have hgs := grown_setCell wr ⟨w.heap.size + 1, 0, none⟩ (.slice a (Wt.dg v).length c)
      have HN8 := Lib.hid (HVV.out.box HK2.out hgs)
      have HKE := Lib.hid ((HK2.out.set 0 (.slice a (Wt.dg v).length c)).cell 0)
      clear hgs
      generalize (Wt.dg v).length = lv at *
      go_wp2_with fail
      rw [HF.out]
      exact bodyPost_ret (v := .tuple #[.agg #[.slice a lv c], I64 0]) (by have h := HKE.out; simp at h; simp [results, Tryz.results28, go_sem, h]) rfl ⟨_, rfl, HN8.out, B.setCell (by show w.heap.size ≤ w.heap.size + 1; omega) _⟩

end Go.Proofs.YtphdadibfeencaaGreat

/-
  The laws of numbers (layer 6): what is asked through 'To' and 'Is', the example; numbers in boxes and in lists.
-/
set_option maxRecDepth 100000
namespace Go.Proofs.YtphdadibfeencaaGreat
open Go.RowKit

/-! ### How great a number may be -/

theorem great_gen (k n : Nat) : k < (Wt.dg n).length ↔ 256 ^ (8 * k) ≤ n := by
  have h := Wt.dg_length_iff (n := n) (k := k)
  have e : (18446744073709551616 : Nat) ^ k = 256 ^ (8 * k) := by
    rw [Nat.pow_mul, show (256 : Nat) ^ 8 = 18446744073709551616 from by decide]
  rw [e] at h
  generalize 256 ^ (8 * k) = P at h ⊢
  omega
theorem not_great_gen {n k m : Nat} (h : n < 256 ^ k) (hk : k ≤ 8 * m) : ¬ m < (Wt.dg n).length := fun hg =>
  absurd (Nat.lt_of_lt_of_le h (Nat.le_trans (Nat.pow_le_pow_right (by decide) hk) ((great_gen m n).1 hg))) (Nat.lt_irrefl _)
theorem not_great {n k : Nat} (h : n < 256 ^ k) (hk : k ≤ 4096) : ¬ Great n := not_great_gen (m := 512) h hk
theorem words_small {n : Nat} (h : ¬ Great n) : (Wt.dg n).length ≤ 100000 := Nat.le_trans (small_of h) (by decide)

/-! ### Sums and products of two, and of three -/

/-- Powers. -/
theorem powG_some {x : Nat} : ∀ {k : Nat}, (∀ j, j ≤ k → ¬ Great (x ^ j)) → powG x k = some (x ^ k)
  | 0, _ => rfl
  | k + 1, h => by
    rw [powG_succ, powG_some (fun j hj => h j (by omega))]
    have := h (k + 1) (Nat.le_refl _)
    rw [Nat.pow_succ] at this
    simp [this, Nat.pow_succ]
theorem pow_ok (u : Value) (x n : Nat) (w : World) (hn : n ≤ 65536) (hx : ¬ Great x) (h : ∀ j, j ≤ n → ¬ Great (x ^ j)) (hU : IsNat w u x) :
    Calls Tryz.prog 28 #[u, .int .i64 n] w (NatE w (x ^ n) 0) := by
  have h1 := natpow_yes u x n w hn hx hU
  rw [powG_some h] at h1
  exact h1
/-! ### Numbers in boxes and in lists -/

/-! ### To, Is -/

end Go.Proofs.YtphdadibfeencaaGreat
