/- Texts of one seat, laid together: LawSevenF. -/
import Derived.Test.YtohfcdgpllghbaaQ28
import Derived.Test.YtohfcdgpllghbaaQ23

/-
  The laws of grids (layer 7), walked: GridRanks.
-/
set_option maxRecDepth 100000
namespace Go.Proofs.Ytohfcdgpllghbaa
open Go.RowKit

section
variable {W : World}
def TyZ.grid (t : Tmp) (m : Int) (ll : List (List Nat)) : Ty (Cb W) Rb Hz := TyZ.fact t (fun v w => IsGrid w v m ll) fun _ _ _ hb h => h.go hb
end
theorem load_grid {w : World} {g : Nat} {x y : Value} {T : TypeId} (h : Blk w g #[x, y] T) : (Instr.loadAt 26 (.pointer (some ⟨g, 0, none⟩))).run Try.prog w = .ok (.agg #[x, y]) w := by
  obtain ⟨k0, k1⟩ := h.two
  go_simp
theorem len_rows (ad : Option Addr) (n c : Nat) (w : World) : (Builtin.len_ #[22] 22 #[.slice ad n c]).run Try.prog w = .ok (.int .i64 n) w := by go_simp
theorem GridV.grid {w w' : World} {m : Int} {ll : List (List Nat)} {e : Ending} (h : GridV w m ll e w') : ∃ u, e = .returned u ∧ IsGrid w' u m ll ∧ Below w.heap.size w w' := by
  obtain ⟨u, he, hg, hb⟩ := h; exact ⟨u, he, hg.grid, hb⟩

set_option maxHeartbeats 2000000 in
theorem gridRanks_out (v0 v1 : Value) (x0 x1 : Nat) (ll kk : List (List Nat)) (w : World) (hR0 : IsRows w v0 ll) (hR1 : IsRows w v1 kk) (hf : few7 ll = false ∨ (few7 ll = true ∧ few7 kk = false)) :
    Calls Try.prog 5 #[U8 x0, v0, U8 x1, v1] w fun e w' => e = .returned (.bool true) ∧ Below w.heap.size w w' := by
  have H0 := Lib.hid hR0
  have H1 := Lib.hid hR1
  obtain ⟨a0, c0, rfl⟩ := hR0.shape
  obtain ⟨a1, c1, rfl⟩ := hR1.shape
  clear hR0 hR1
  rcases hf with hf | ⟨hf, hg⟩
  · have HF := Lib.hid hf
    clear hf
    go_enter Try.func5, Try.ntmps5
    go_wp2_with fail
    have B : Below w.heap.size w w := Below.refl _ _
    refine (awake7_any _).mono ?_
    rintro e w1 ⟨rfl, hb⟩
    replace H0 := Lib.hid (H0.out.go hb)
    replace B := B.trans (hb.mono B.size)
    have hzw1 := B.size
    clear hb
    go_wp2_with fail
    refine (few7_any _ ll _ H0.out).mono ?_
    rintro e w2 ⟨rfl, hb⟩
    replace B := B.trans (hb.mono B.size)
    have hzw2 := B.size
    clear hb
    rw [HF.out]
    go_wp2_with fail
    go_ret
    exact ⟨rfl, B⟩
  · have HF := Lib.hid hf
    have HG := Lib.hid hg
    clear hf hg
    go_enter Try.func5, Try.ntmps5
    go_wp2_with fail
    have B : Below w.heap.size w w := Below.refl _ _
    refine (awake7_any _).mono ?_
    rintro e w1 ⟨rfl, hb⟩
    replace H0 := Lib.hid (H0.out.go hb)
    replace H1 := Lib.hid (H1.out.go hb)
    replace B := B.trans (hb.mono B.size)
    have hzw1 := B.size
    clear hb
    go_wp2_with fail
    refine (few7_any _ ll _ H0.out).mono ?_
    rintro e w2 ⟨rfl, hb⟩
    replace H1 := Lib.hid (H1.out.go hb)
    replace B := B.trans (hb.mono B.size)
    have hzw2 := B.size
    clear hb
    rw [HF.out]
    go_wp2_with fail
    refine (few7_any _ kk _ H1.out).mono ?_
    rintro e w3 ⟨rfl, hb⟩
    replace B := B.trans (hb.mono B.size)
    have hzw3 := B.size
    clear hb
    rw [HG.out]
    go_wp2_with fail
    go_ret
    exact ⟨rfl, B⟩

set_option maxHeartbeats 16000000 in
theorem gridRanks_some (v0 v1 : Value) (x0 x1 : Nat) (ll kk : List (List Nat)) (w : World) (hx0 : x0 < 256) (hx1 : x1 < 256) (hR0 : IsRows w v0 ll) (hR1 : IsRows w v1 kk) (hf : few7 ll = true) (hg : few7 kk = true) :
    Calls Try.prog 5 #[U8 x0, v0, U8 x1, v1] w fun e w' => e = .returned (.bool true) ∧ Below w.heap.size w w' := by
  have H0 := Lib.hid hR0
  have H1 := Lib.hid hR1
  have HF := Lib.hid hf
  have HG := Lib.hid hg
  have hl30 := few7_len hf
  have hk30 := few7_len hg
  obtain ⟨m, hm⟩ : ∃ m, m = x0 % 31 := ⟨_, rfl⟩
  obtain ⟨k, hk⟩ : ∃ k, k = x1 % 31 := ⟨_, rfl⟩
  obtain ⟨A, hA⟩ : ∃ A, A = fitL m ll := ⟨_, rfl⟩
  obtain ⟨C, hC⟩ : ∃ C, C = fitL k kk := ⟨_, rfl⟩
  have hm30 : m ≤ 30 := by omega
  have hkk30 : k ≤ 30 := by omega
  have hAl : A.length ≤ 30 := by rw [hA, fitL_length]; exact hl30
  have hCl : C.length ≤ 30 := by rw [hC, fitL_length]; exact hk30
  have HAW := Lib.hid (show ∀ r ∈ A, r.length = m by rw [hA]; exact fitL_wide m ll)
  have HCW := Lib.hid (show ∀ r ∈ C, r.length = k by rw [hC]; exact fitL_wide k kk)
  have HAO := Lib.hid (show OctM A by rw [hA]; exact fitL_oct hR0.oct)
  have HCO := Lib.hid (show OctM C by rw [hC]; exact fitL_oct hR1.oct)
  obtain ⟨r, hr⟩ : ∃ r, r = rankL m A := ⟨_, rfl⟩
  have HM := Lib.hid hm
  have HK := Lib.hid hk
  have HA := Lib.hid hA
  have HC := Lib.hid hC
  have HRK := Lib.hid hr
  have hrr : ((r : Int) != (r : Int)) = false := by simp
  have hrm : decide ((m : Int) < (r : Int)) = false := by
    have := rankL_le m A
    rw [decide_eq_false_iff_not]; omega
  have hra : decide ((A.length : Int) < (r : Int)) = false := by
    have := rank_height HAW.out
    rw [decide_eq_false_iff_not]; omega
  have HTL := Lib.hid (turnedL_length A m)
  have HRT := Lib.hid (show ∀ (u : Value) (wc : World), IsGrid wc u (A.length : Int) (turnedL A m) → Calls Try.prog 21 #[u] wc fun e w' => e = .returned (.int .i64 (r : Int)) ∧ Below wc.heap.size wc w' from fun u wc h => by
    have h2 := rank_any u _ A.length (turnedL A m) wc h (turnedL_oct HAO.out m) (turned_wide A m) (by omega) (by rw [HTL.out]; omega)
    rw [turned_rank HAW.out, ← HRK.out] at h2
    exact h2)
  have HTT := Lib.hid (show ∀ (u : Value) (wc : World), IsGrid wc u (A.length : Int) (turnedL A m) → Calls Try.prog 22 #[u] wc fun e w' => ∃ v, e = .returned v ∧ IsGrid w' v (m : Int) A ∧ Below wc.heap.size wc w' from fun u wc h => by
    have h2 := gturned_any u A.length (turnedL A m) wc h (turnedL_oct HAO.out m) (turned_wide A m) (by omega) (by rw [HTL.out]; omega)
    rw [turned_turned HAW.out, HTL.out] at h2
    exact h2.mono fun _ _ h => h.grid)
  have HSM := Lib.hid (show ∀ (ga : Option Addr) (gc : Nat) (u : Value) (wc : World), IsGrid wc u (m : Int) A → IsRows wc (.slice ga A.length gc) A → Calls Try.prog 18 #[u, .agg #[.int .i64 (m : Int), .slice ga A.length gc]] wc fun e w' => e = .returned (.bool true) ∧ Below wc.heap.size wc w' from fun ga gc u wc h h' => by
    have h2 := gridsame_any u _ (m : Int) (m : Int) A A wc h ⟨ga, gc, rfl, h'⟩ (by omega)
    rw [show decide ((m : Int) = (m : Int) ∧ A = A) = true from decide_eq_true ⟨rfl, rfl⟩] at h2
    exact h2)
  obtain ⟨a0, c0, rfl⟩ := hR0.shape
  obtain ⟨a1, c1, rfl⟩ := hR1.shape
  clear hR0 hR1 hf hg hm hk hA hC hr
  have hcase : m ≠ A.length ∨ (m = A.length ∧ r < m) ∨ (m = A.length ∧ r = m) := by
    have := rankL_le m A
    have := HRK.out
    omega
  have HAK := Lib.hid (show A.length * k ≤ 65536 by
    have := Nat.mul_le_mul hAl hkk30
    omega)
  by_cases hp : m = C.length
  · have HMC := Lib.hid (show mulC m C = 0 from if_pos hp)
    have HMM := Lib.hid (show mulM m C k = (k : Int) from if_pos hp)
    have HMR := Lib.hid (show mulR m A C k = mulL A C k from if_pos hp)
    have HML := Lib.hid (mulL_length A C k)
    have HMW := Lib.hid (mulL_wide A C k)
    have HMO := Lib.hid (mulL_oct HAO.out C k)
    have hrc := rank_mul HAO.out HCO.out (fun j hj => by rw [wide_at HAW.out j hj]; exact hp) (wide_at HCW.out)
    have hqr : decide ((r : Int) < (rankL k (mulL A C k) : Int)) = false := by
      have h1 := hrc.1
      rw [← hp, ← HRK.out] at h1
      rw [decide_eq_false_iff_not]; omega
    have hqc : decide ((rankL k C : Int) < (rankL k (mulL A C k) : Int)) = false := by
      have h1 := hrc.2
      rw [decide_eq_false_iff_not]; omega
    clear hp hrc
    go_enter Try.func5, Try.ntmps5
    go_wp2_with fail
    have B : Below w.heap.size w w := Below.refl _ _
    refine (awake7_any _).mono ?_
    rintro e w1 ⟨rfl, hb⟩
    replace H0 := Lib.hid (H0.out.go hb)
    replace H1 := Lib.hid (H1.out.go hb)
    replace B := B.trans (hb.mono B.size)
    have hzw1 := B.size
    clear hb
    go_wp2_with fail
    refine (few7_any _ ll _ H0.out).mono ?_
    rintro e w2 ⟨rfl, hb⟩
    replace H0 := Lib.hid (H0.out.go hb)
    replace H1 := Lib.hid (H1.out.go hb)
    replace B := B.trans (hb.mono B.size)
    have hzw2 := B.size
    clear hb
    rw [HF.out]
    go_wp2_with fail
    refine (few7_any _ kk _ H1.out).mono ?_
    rintro e w3 ⟨rfl, hb⟩
    replace H0 := Lib.hid (H0.out.go hb)
    replace H1 := Lib.hid (H1.out.go hb)
    replace B := B.trans (hb.mono B.size)
    have hzw3 := B.size
    clear hb
    rw [HG.out]
    go_wp2_with fail
    refine (made7_any x0 _ ll _ hx0 H0.out (by omega)).mono ?_
    rintro e w4 ⟨u4, v4, rfl, hu4, hv4, hb⟩
    replace H1 := Lib.hid (H1.out.go hb)
    replace B := B.trans (hb.mono B.size)
    have hzw4 := B.size
    clear hb
    rw [← HM.out, ← HA.out] at hu4
    rw [← HM.out]
    rw [← HM.out, ← HA.out] at hv4
    obtain ⟨ga, gc, rfl, hq⟩ := hu4
    have HGA := Lib.hid hq
    obtain ⟨ra, rc, rfl⟩ := hv4.shape
    have HRA := Lib.hid hv4
    clear hq hv4
    go_wp2_with fail
    obtain ⟨hb, hk, hs⟩ := blocks1 w4 #[.int .i64 (m : Int), .slice ga A.length gc] 26
    generalize w4.alloc (.cells #[.int .i64 (m : Int), .slice ga A.length gc] 26) = W5 at *
    have KG := Lib.hid hk
    replace H1 := Lib.hid (H1.out.go hb)
    replace HGA := Lib.hid (HGA.out.go hb)
    replace HRA := Lib.hid (HRA.out.go hb)
    replace B := B.trans (hb.mono B.size)
    have hzW5 := B.size
    clear hb hk hs
    refine (made7_any x1 _ kk _ hx1 H1.out (by omega)).mono ?_
    rintro e w6 ⟨u6, v6, rfl, hu6, hv6, hb⟩
    replace HGA := Lib.hid (HGA.out.go hb)
    replace HRA := Lib.hid (HRA.out.go hb)
    replace KG := Lib.hid (KG.out.go hb)
    replace B := B.trans (hb.mono B.size)
    have hzw6 := B.size
    clear hb
    rw [← HK.out, ← HC.out] at hu6
    rw [← HK.out]
    rw [← HK.out, ← HC.out] at hv6
    obtain ⟨oa, oc, rfl, hq⟩ := hu6
    have HGC := Lib.hid hq
    obtain ⟨sa, sc, rfl⟩ := hv6.shape
    have HRC := Lib.hid hv6
    clear hq hv6
    obtain ⟨kg0, kg1⟩ := KG.out.two
    have kgl := KG.out.lt
    go_wp2_with fail
    clear kg0 kg1 kgl
    obtain ⟨hb, hk, hs⟩ := blocks1 w6 #[.int .i64 (k : Int), .slice oa C.length oc] 26
    generalize w6.alloc (.cells #[.int .i64 (k : Int), .slice oa C.length oc] 26) = W7 at *
    have KO := Lib.hid hk
    replace HGA := Lib.hid (HGA.out.go hb)
    replace HRA := Lib.hid (HRA.out.go hb)
    replace HGC := Lib.hid (HGC.out.go hb)
    replace HRC := Lib.hid (HRC.out.go hb)
    replace KG := Lib.hid (KG.out.go hb)
    replace B := B.trans (hb.mono B.size)
    have hzW7 := B.size
    clear hb hk hs
    refine (rank_any _ m m A _ ⟨ga, gc, rfl, HGA.out⟩ HAO.out HAW.out (by omega) (by omega)).mono ?_
    rintro e w9 ⟨rfl, hb⟩
    replace HGA := Lib.hid (HGA.out.go hb)
    replace HRA := Lib.hid (HRA.out.go hb)
    replace HGC := Lib.hid (HGC.out.go hb)
    replace HRC := Lib.hid (HRC.out.go hb)
    replace KG := Lib.hid (KG.out.go hb)
    replace KO := Lib.hid (KO.out.go hb)
    replace B := B.trans (hb.mono B.size)
    have hzw9 := B.size
    clear hb
    rw [← HRK.out]
    obtain ⟨gg, hgg⟩ : ∃ gg : Nat, gg = w4.heap.size := ⟨_, rfl⟩
    obtain ⟨go, hgo⟩ : ∃ go : Nat, go = w6.heap.size := ⟨_, rfl⟩
    rw [← hgg] at KG
    rw [← hgo] at KO
    simp only [← hgg, ← hgo]
    clear hgg hgo
    go_wp2_with fail
    refine wp_region_mono (C := Cb w9) (R := Rb) (H := Hz) [TyZ.val 52 (.int .i64 (r : Int)), TyZ.val 53 (.agg #[.int .i64 (m : Int), .slice ga A.length gc]), TyZ.grid 54 (A.length : Int) (turnedL A m), TyZ.val 55 (.int .i64 (r : Int)), TyZ.val 56 (.bool false), TyZ.val 57 (.bool false), TyZ.val 58 (.int .i64 (r : Int)), TyZ.val 59 (.int .i64 (m : Int)), TyZ.val 60 (.bool false), TyZ.val 61 (.bool false), TyZ.val 62 (.bool false), TyZ.val 63 (.int .i64 (r : Int)), TyZ.val 64 (.slice ra A.length rc), TyZ.val 65 (.int .i64 (A.length : Int)), TyZ.val 66 (.bool false), TyZ.val 67 (.bool false), TyZ.val 68 (.bool false), TyZ.val 69 (.agg #[.int .i64 (m : Int), .slice ga A.length gc]), TyZ.grid 70 (A.length : Int) (turnedL A m), TyZ.grid 71 (m : Int) A, TyZ.val 72 (.agg #[.int .i64 (m : Int), .slice ga A.length gc]), TyZ.val 73 (.bool true), TyZ.val 74 (.bool false), TyZ.val 75 (.bool false), TyZ.any, TyZ.any, TyZ.val 78 (.bool false), TyZ.val 79 (.bool false), TyZ.any, TyZ.any, TyZ.any, TyZ.val 83 (.bool false), TyZ.val 84 (.bool false)] (by kernel_rfl) (hC_b w9) (hCH_z w9) (drew_b w9) ⟨trivial, trivial, trivial, trivial, trivial, trivial, trivial, trivial, trivial, trivial, trivial, trivial, trivial, trivial, trivial, trivial, trivial, trivial, trivial, trivial, trivial, trivial, trivial, trivial, trivial, trivial, trivial, trivial, trivial, trivial, trivial, trivial, trivial, trivial⟩ (by kernel_rfl) ?_ ?_
    · refine ⟨?_, ?_, ?_, ?_, ?_, ?_, ?_, ?_, ?_, ?_, ?_, ?_, ?_, ?_, ?_, ?_, ?_, ?_, ?_, ?_, ?_, ?_, ?_, ?_, ?_, ?_, ?_, ?_, ?_, ?_, ?_, ?_, ?_, trivial⟩
      · intro ac wc hC hsz hfr hd hpr
        have d15 : ac.eval (.tmp 15) = (.int .i64 (r : Int)) := hfr 15 rfl
        rw [if_pos (wanted_none rfl)]
        exact ob_copy rfl rfl rfl (Nat.lt_of_lt_of_eq (by decide : 52 < 175) hsz.symm) (Or.inl rfl) (Below.refl _ _) d15
      · intro ac wc hC hsz hfr hd hpr
        have d9 : ac.eval (.tmp 9) = (.pointer (some ⟨gg, 0, none⟩)) := hfr 9 rfl
        rw [if_pos (wanted_none rfl)]
        exact ob_load _ rfl rfl rfl (Nat.lt_of_lt_of_eq (by decide : 53 < 175) hsz.symm) rfl d9 (load_grid (KG.out.go hC)) (Below.refl _ _) rfl
      · intro ac wc hC hsz hfr hd hpr
        have d53 : ac.eval (.tmp 53) = (.agg #[.int .i64 (m : Int), .slice ga A.length gc]) := hd 1 rfl
        rw [if_pos (wanted_none rfl)]
        refine ob_call rfl rfl rfl (Nat.lt_of_lt_of_eq (by decide : 54 < 175) hsz.symm) rfl (enter_of Try.func22 (by kernel_rfl) rfl) ?_
        show Calls Try.prog 22 #[ac.eval (.tmp 53)] wc _
        rw [d53]
        exact (gturned_any _ m A wc ⟨ga, gc, rfl, HGA.out.go hC⟩ HAO.out HAW.out (by omega) (by omega)).mono fun _ _ h => h.grid
      · intro ac wc hC hsz hfr hd hpr
        have d54 : IsGrid wc (ac.eval (.tmp 54)) (A.length : Int) (turnedL A m) := hd 2 rfl
        rw [if_pos (wanted_none rfl)]
        refine ob_call rfl rfl rfl (Nat.lt_of_lt_of_eq (by decide : 55 < 175) hsz.symm) rfl (enter_of Try.func21 (by kernel_rfl) rfl) ?_
        show Calls Try.prog 21 #[ac.eval (.tmp 54)] wc _
        exact (HRT.out _ wc d54).mono fun _ _ ⟨he, hb⟩ => ⟨_, he, rfl, hb⟩
      · intro ac wc hC hsz hfr hd hpr
        have d52 : ac.eval (.tmp 52) = (.int .i64 (r : Int)) := hd 0 rfl
        have d55 : ac.eval (.tmp 55) = (.int .i64 (r : Int)) := hd 3 rfl
        rw [if_pos (wanted_none rfl)]
        exact ob_bin _ rfl rfl rfl (Nat.lt_of_lt_of_eq (by decide : 56 < 175) hsz.symm) rfl d52 d55 (neq_int hrr) (Below.refl _ _) rfl
      · intro ac wc hC hsz hfr hd hpr
        have d56 : ac.eval (.tmp 56) = (.bool false) := hd 4 rfl
        rw [if_pos (wanted_none rfl)]
        exact ob_copy rfl rfl rfl (Nat.lt_of_lt_of_eq (by decide : 57 < 175) hsz.symm) (Or.inl rfl) (Below.refl _ _) d56
      · intro ac wc hC hsz hfr hd hpr
        have d57 : ac.eval (.tmp 57) = (.bool false) := hd 5 rfl
        have d15 : ac.eval (.tmp 15) = (.int .i64 (r : Int)) := hfr 15 rfl
        rw [if_pos (wanted_some rfl (yielded_of rfl d57))]
        exact ob_copy rfl rfl rfl (Nat.lt_of_lt_of_eq (by decide : 58 < 175) hsz.symm) (Or.inl rfl) (Below.refl _ _) d15
      · intro ac wc hC hsz hfr hd hpr
        have d57 : ac.eval (.tmp 57) = (.bool false) := hd 5 rfl
        have d11 : ac.eval (.tmp 11) = (.int .i64 (m : Int)) := hfr 11 rfl
        rw [if_pos (wanted_some rfl (yielded_of rfl d57))]
        exact ob_copy rfl rfl rfl (Nat.lt_of_lt_of_eq (by decide : 59 < 175) hsz.symm) (Or.inl rfl) (Below.refl _ _) d11
      · intro ac wc hC hsz hfr hd hpr
        have d57 : ac.eval (.tmp 57) = (.bool false) := hd 5 rfl
        have d58 : ac.eval (.tmp 58) = (.int .i64 (r : Int)) := hd 6 rfl
        have d59 : ac.eval (.tmp 59) = (.int .i64 (m : Int)) := hd 7 rfl
        rw [if_pos (wanted_some rfl (yielded_of rfl d57))]
        exact ob_bin _ rfl rfl rfl (Nat.lt_of_lt_of_eq (by decide : 60 < 175) hsz.symm) rfl d58 d59 (gtr_int hrm) (Below.refl _ _) rfl
      · intro ac wc hC hsz hfr hd hpr
        have d57 : ac.eval (.tmp 57) = (.bool false) := hd 5 rfl
        have d60 : ac.eval (.tmp 60) = (.bool false) := hd 8 rfl
        rw [if_pos (wanted_none rfl)]
        exact ob_pick rfl rfl rfl (Nat.lt_of_lt_of_eq (by decide : 61 < 175) hsz.symm) rfl d57 (Below.refl _ _) d60
      · intro ac wc hC hsz hfr hd hpr
        have d61 : ac.eval (.tmp 61) = (.bool false) := hd 9 rfl
        rw [if_pos (wanted_none rfl)]
        exact ob_copy rfl rfl rfl (Nat.lt_of_lt_of_eq (by decide : 62 < 175) hsz.symm) (Or.inl rfl) (Below.refl _ _) d61
      · intro ac wc hC hsz hfr hd hpr
        have d62 : ac.eval (.tmp 62) = (.bool false) := hd 10 rfl
        have d15 : ac.eval (.tmp 15) = (.int .i64 (r : Int)) := hfr 15 rfl
        rw [if_pos (wanted_some rfl (yielded_of rfl d62))]
        exact ob_copy rfl rfl rfl (Nat.lt_of_lt_of_eq (by decide : 63 < 175) hsz.symm) (Or.inl rfl) (Below.refl _ _) d15
      · intro ac wc hC hsz hfr hd hpr
        have d62 : ac.eval (.tmp 62) = (.bool false) := hd 10 rfl
        have d10 : ac.eval (.tmp 10) = (.slice ra A.length rc) := hfr 10 rfl
        rw [if_pos (wanted_some rfl (yielded_of rfl d62))]
        exact ob_copy rfl rfl rfl (Nat.lt_of_lt_of_eq (by decide : 64 < 175) hsz.symm) (Or.inl rfl) (Below.refl _ _) d10
      · intro ac wc hC hsz hfr hd hpr
        have d62 : ac.eval (.tmp 62) = (.bool false) := hd 10 rfl
        have d64 : ac.eval (.tmp 64) = (.slice ra A.length rc) := hd 12 rfl
        rw [if_pos (wanted_some rfl (yielded_of rfl d62))]
        exact ob_len rfl rfl rfl (Nat.lt_of_lt_of_eq (by decide : 65 < 175) hsz.symm) rfl d64 (len_rows _ _ _) (Below.refl _ _) rfl
      · intro ac wc hC hsz hfr hd hpr
        have d62 : ac.eval (.tmp 62) = (.bool false) := hd 10 rfl
        have d63 : ac.eval (.tmp 63) = (.int .i64 (r : Int)) := hd 11 rfl
        have d65 : ac.eval (.tmp 65) = (.int .i64 (A.length : Int)) := hd 13 rfl
        rw [if_pos (wanted_some rfl (yielded_of rfl d62))]
        exact ob_bin _ rfl rfl rfl (Nat.lt_of_lt_of_eq (by decide : 66 < 175) hsz.symm) rfl d63 d65 (gtr_int hra) (Below.refl _ _) rfl
      · intro ac wc hC hsz hfr hd hpr
        have d62 : ac.eval (.tmp 62) = (.bool false) := hd 10 rfl
        have d66 : ac.eval (.tmp 66) = (.bool false) := hd 14 rfl
        rw [if_pos (wanted_none rfl)]
        exact ob_pick rfl rfl rfl (Nat.lt_of_lt_of_eq (by decide : 67 < 175) hsz.symm) rfl d62 (Below.refl _ _) d66
      · intro ac wc hC hsz hfr hd hpr
        have d67 : ac.eval (.tmp 67) = (.bool false) := hd 15 rfl
        rw [if_pos (wanted_none rfl)]
        exact ob_copy rfl rfl rfl (Nat.lt_of_lt_of_eq (by decide : 68 < 175) hsz.symm) (Or.inl rfl) (Below.refl _ _) d67
      · intro ac wc hC hsz hfr hd hpr
        have d68 : ac.eval (.tmp 68) = (.bool false) := hd 16 rfl
        have d9 : ac.eval (.tmp 9) = (.pointer (some ⟨gg, 0, none⟩)) := hfr 9 rfl
        rw [if_pos (wanted_some rfl (yielded_of rfl d68))]
        exact ob_load _ rfl rfl rfl (Nat.lt_of_lt_of_eq (by decide : 69 < 175) hsz.symm) rfl d9 (load_grid (KG.out.go hC)) (Below.refl _ _) rfl
      · intro ac wc hC hsz hfr hd hpr
        have d68 : ac.eval (.tmp 68) = (.bool false) := hd 16 rfl
        have d69 : ac.eval (.tmp 69) = (.agg #[.int .i64 (m : Int), .slice ga A.length gc]) := hd 17 rfl
        rw [if_pos (wanted_some rfl (yielded_of rfl d68))]
        refine ob_call rfl rfl rfl (Nat.lt_of_lt_of_eq (by decide : 70 < 175) hsz.symm) rfl (enter_of Try.func22 (by kernel_rfl) rfl) ?_
        show Calls Try.prog 22 #[ac.eval (.tmp 69)] wc _
        rw [d69]
        exact (gturned_any _ m A wc ⟨ga, gc, rfl, HGA.out.go hC⟩ HAO.out HAW.out (by omega) (by omega)).mono fun _ _ h => h.grid
      · intro ac wc hC hsz hfr hd hpr
        have d68 : ac.eval (.tmp 68) = (.bool false) := hd 16 rfl
        have d70 : IsGrid wc (ac.eval (.tmp 70)) (A.length : Int) (turnedL A m) := hd 18 rfl
        rw [if_pos (wanted_some rfl (yielded_of rfl d68))]
        refine ob_call rfl rfl rfl (Nat.lt_of_lt_of_eq (by decide : 71 < 175) hsz.symm) rfl (enter_of Try.func22 (by kernel_rfl) rfl) ?_
        show Calls Try.prog 22 #[ac.eval (.tmp 70)] wc _
        exact HTT.out _ wc d70
      · intro ac wc hC hsz hfr hd hpr
        have d68 : ac.eval (.tmp 68) = (.bool false) := hd 16 rfl
        have d9 : ac.eval (.tmp 9) = (.pointer (some ⟨gg, 0, none⟩)) := hfr 9 rfl
        rw [if_pos (wanted_some rfl (yielded_of rfl d68))]
        exact ob_load _ rfl rfl rfl (Nat.lt_of_lt_of_eq (by decide : 72 < 175) hsz.symm) rfl d9 (load_grid (KG.out.go hC)) (Below.refl _ _) rfl
      · intro ac wc hC hsz hfr hd hpr
        have d68 : ac.eval (.tmp 68) = (.bool false) := hd 16 rfl
        have d71 : IsGrid wc (ac.eval (.tmp 71)) (m : Int) A := hd 19 rfl
        have d72 : ac.eval (.tmp 72) = (.agg #[.int .i64 (m : Int), .slice ga A.length gc]) := hd 20 rfl
        rw [if_pos (wanted_some rfl (yielded_of rfl d68))]
        refine ob_call rfl rfl rfl (Nat.lt_of_lt_of_eq (by decide : 73 < 175) hsz.symm) rfl (enter_of Try.func18 (by kernel_rfl) rfl) ?_
        show Calls Try.prog 18 #[ac.eval (.tmp 71), ac.eval (.tmp 72)] wc _
        rw [d72]
        exact (HSM.out ga gc _ wc d71 (HGA.out.go hC)).mono fun _ _ ⟨he, hb⟩ => ⟨_, he, rfl, hb⟩
      · intro ac wc hC hsz hfr hd hpr
        have d68 : ac.eval (.tmp 68) = (.bool false) := hd 16 rfl
        have d73 : ac.eval (.tmp 73) = (.bool true) := hd 21 rfl
        rw [if_pos (wanted_some rfl (yielded_of rfl d68))]
        exact ob_not rfl rfl rfl (Nat.lt_of_lt_of_eq (by decide : 74 < 175) hsz.symm) rfl d73 (Below.refl _ _) rfl
      · intro ac wc hC hsz hfr hd hpr
        have d68 : ac.eval (.tmp 68) = (.bool false) := hd 16 rfl
        have d74 : ac.eval (.tmp 74) = (.bool false) := hd 22 rfl
        rw [if_pos (wanted_some rfl (yielded_of rfl d68))]
        exact ob_copy rfl rfl rfl (Nat.lt_of_lt_of_eq (by decide : 75 < 175) hsz.symm) (Or.inl rfl) (Below.refl _ _) d74
      · intro ac wc hC hsz hfr hd hpr
        have d75 : ac.eval (.tmp 75) = (.bool false) := hd 23 rfl
        have d11 : ac.eval (.tmp 11) = (.int .i64 (m : Int)) := hfr 11 rfl
        rw [if_neg (unwanted_some rfl (yielded_of rfl d75) (by decide))]
        exact ⟨Below.refl _ _, trivial⟩
      · intro ac wc hC hsz hfr hd hpr
        have d75 : ac.eval (.tmp 75) = (.bool false) := hd 23 rfl
        rw [if_neg (unwanted_some rfl (yielded_of rfl d75) (by decide))]
        exact ⟨Below.refl _ _, trivial⟩
      · intro ac wc hC hsz hfr hd hpr
        have d68 : ac.eval (.tmp 68) = (.bool false) := hd 16 rfl
        have d75 : ac.eval (.tmp 75) = (.bool false) := hd 23 rfl
        rw [if_pos (wanted_some rfl (yielded_of rfl d68))]
        exact ob_pick rfl rfl rfl (Nat.lt_of_lt_of_eq (by decide : 78 < 175) hsz.symm) rfl d75 (Below.refl _ _) rfl
      · intro ac wc hC hsz hfr hd hpr
        have d68 : ac.eval (.tmp 68) = (.bool false) := hd 16 rfl
        have d78 : ac.eval (.tmp 78) = (.bool false) := hd 26 rfl
        rw [if_pos (wanted_some rfl (yielded_of rfl d68))]
        exact ob_copy rfl rfl rfl (Nat.lt_of_lt_of_eq (by decide : 79 < 175) hsz.symm) (Or.inl rfl) (Below.refl _ _) d78
      · intro ac wc hC hsz hfr hd hpr
        have d79 : ac.eval (.tmp 79) = (.bool false) := hd 27 rfl
        have d10 : ac.eval (.tmp 10) = (.slice ra A.length rc) := hfr 10 rfl
        rw [if_neg (unwanted_some rfl (yielded_of rfl d79) (by decide))]
        exact ⟨Below.refl _ _, trivial⟩
      · intro ac wc hC hsz hfr hd hpr
        have d79 : ac.eval (.tmp 79) = (.bool false) := hd 27 rfl
        rw [if_neg (unwanted_some rfl (yielded_of rfl d79) (by decide))]
        exact ⟨Below.refl _ _, trivial⟩
      · intro ac wc hC hsz hfr hd hpr
        have d79 : ac.eval (.tmp 79) = (.bool false) := hd 27 rfl
        rw [if_neg (unwanted_some rfl (yielded_of rfl d79) (by decide))]
        exact ⟨Below.refl _ _, trivial⟩
      · intro ac wc hC hsz hfr hd hpr
        have d68 : ac.eval (.tmp 68) = (.bool false) := hd 16 rfl
        have d79 : ac.eval (.tmp 79) = (.bool false) := hd 27 rfl
        rw [if_pos (wanted_some rfl (yielded_of rfl d68))]
        exact ob_pick rfl rfl rfl (Nat.lt_of_lt_of_eq (by decide : 83 < 175) hsz.symm) rfl d79 (Below.refl _ _) rfl
      · intro ac wc hC hsz hfr hd hpr
        have d68 : ac.eval (.tmp 68) = (.bool false) := hd 16 rfl
        have d83 : ac.eval (.tmp 83) = (.bool false) := hd 31 rfl
        rw [if_pos (wanted_none rfl)]
        exact ob_pick rfl rfl rfl (Nat.lt_of_lt_of_eq (by decide : 84 < 175) hsz.symm) rfl d68 (Below.refl _ _) d83
    intro a' W10 hC hdef hsz hfr hd
    have e52 : a'.eval (.tmp 52) = (.int .i64 (r : Int)) := hd 0 (by decide)
    have e53 : a'.eval (.tmp 53) = (.agg #[.int .i64 (m : Int), .slice ga A.length gc]) := hd 1 (by decide)
    obtain ⟨x54, e54, r54⟩ : ∃ xq_, a'.eval (.tmp 54) = xq_ ∧ IsGrid W10 (xq_) (A.length : Int) (turnedL A m) := ⟨_, rfl, hd 2 (by decide)⟩
    replace r54 := Lib.hid r54
    have e55 : a'.eval (.tmp 55) = (.int .i64 (r : Int)) := hd 3 (by decide)
    have e56 : a'.eval (.tmp 56) = (.bool false) := hd 4 (by decide)
    have e57 : a'.eval (.tmp 57) = (.bool false) := hd 5 (by decide)
    have e58 : a'.eval (.tmp 58) = (.int .i64 (r : Int)) := hd 6 (by decide)
    have e59 : a'.eval (.tmp 59) = (.int .i64 (m : Int)) := hd 7 (by decide)
    have e60 : a'.eval (.tmp 60) = (.bool false) := hd 8 (by decide)
    have e61 : a'.eval (.tmp 61) = (.bool false) := hd 9 (by decide)
    have e62 : a'.eval (.tmp 62) = (.bool false) := hd 10 (by decide)
    have e63 : a'.eval (.tmp 63) = (.int .i64 (r : Int)) := hd 11 (by decide)
    have e64 : a'.eval (.tmp 64) = (.slice ra A.length rc) := hd 12 (by decide)
    have e65 : a'.eval (.tmp 65) = (.int .i64 (A.length : Int)) := hd 13 (by decide)
    have e66 : a'.eval (.tmp 66) = (.bool false) := hd 14 (by decide)
    have e67 : a'.eval (.tmp 67) = (.bool false) := hd 15 (by decide)
    have e68 : a'.eval (.tmp 68) = (.bool false) := hd 16 (by decide)
    have e69 : a'.eval (.tmp 69) = (.agg #[.int .i64 (m : Int), .slice ga A.length gc]) := hd 17 (by decide)
    obtain ⟨x70, e70, r70⟩ : ∃ xq_, a'.eval (.tmp 70) = xq_ ∧ IsGrid W10 (xq_) (A.length : Int) (turnedL A m) := ⟨_, rfl, hd 18 (by decide)⟩
    replace r70 := Lib.hid r70
    obtain ⟨x71, e71, r71⟩ : ∃ xq_, a'.eval (.tmp 71) = xq_ ∧ IsGrid W10 (xq_) (m : Int) A := ⟨_, rfl, hd 19 (by decide)⟩
    replace r71 := Lib.hid r71
    have e72 : a'.eval (.tmp 72) = (.agg #[.int .i64 (m : Int), .slice ga A.length gc]) := hd 20 (by decide)
    have e73 : a'.eval (.tmp 73) = (.bool true) := hd 21 (by decide)
    have e74 : a'.eval (.tmp 74) = (.bool false) := hd 22 (by decide)
    have e75 : a'.eval (.tmp 75) = (.bool false) := hd 23 (by decide)
    obtain ⟨x76, e76⟩ : ∃ x, a'.eval (.tmp 76) = x := ⟨_, rfl⟩
    obtain ⟨x77, e77⟩ : ∃ x, a'.eval (.tmp 77) = x := ⟨_, rfl⟩
    have e78 : a'.eval (.tmp 78) = (.bool false) := hd 26 (by decide)
    have e79 : a'.eval (.tmp 79) = (.bool false) := hd 27 (by decide)
    obtain ⟨x80, e80⟩ : ∃ x, a'.eval (.tmp 80) = x := ⟨_, rfl⟩
    obtain ⟨x81, e81⟩ : ∃ x, a'.eval (.tmp 81) = x := ⟨_, rfl⟩
    obtain ⟨x82, e82⟩ : ∃ x, a'.eval (.tmp 82) = x := ⟨_, rfl⟩
    have e83 : a'.eval (.tmp 83) = (.bool false) := hd 31 (by decide)
    have e84 : a'.eval (.tmp 84) = (.bool false) := hd 32 (by decide)
    have hact := act_puts hdef hsz hfr
    simp only [dstsOf, List.filterMap, putAll, Act.put, List.setIfInBounds_toArray, List.set_cons_succ, List.set_cons_zero, e52, e53, e54, e55, e56, e57, e58, e59, e60, e61, e62, e63, e64, e65, e66, e67, e68, e69, e70, e71, e72, e73, e74, e75, e76, e77, e78, e79, e80, e81, e82, e83, e84] at hact
    clear hd hfr hsz hdef e52 e53 e54 e55 e56 e57 e58 e59 e60 e61 e62 e63 e64 e65 e66 e67 e68 e69 e70 e71 e72 e73 e74 e75 e76 e77 e78 e79 e80 e81 e82 e83 e84
    subst hact
    replace HGA := Lib.hid (HGA.out.go hC)
    replace HRA := Lib.hid (HRA.out.go hC)
    replace HGC := Lib.hid (HGC.out.go hC)
    replace HRC := Lib.hid (HRC.out.go hC)
    replace KG := Lib.hid (KG.out.go hC)
    replace KO := Lib.hid (KO.out.go hC)
    replace B := B.trans (hC.mono B.size)
    obtain ⟨kg0, kg1⟩ := KG.out.two
    have kgl := KG.out.lt
    obtain ⟨ko0, ko1⟩ := KO.out.two
    have kol := KO.out.lt
    go_wp2_with fail
    clear kg0 kg1 kgl ko0 ko1 kol
    refine (gmul_any _ _ m k A C _ ⟨ga, gc, rfl, HGA.out⟩ ⟨oa, oc, rfl, HGC.out⟩ (wide_at HAW.out) (wide_at HCW.out) (by omega) (by omega) HAK.out).mono ?_
    rintro e w11 ⟨u11, rfl, hu11, hb⟩
    replace HGA := Lib.hid (HGA.out.go hb)
    replace HRA := Lib.hid (HRA.out.go hb)
    replace HGC := Lib.hid (HGC.out.go hb)
    replace HRC := Lib.hid (HRC.out.go hb)
    replace KG := Lib.hid (KG.out.go hb)
    replace KO := Lib.hid (KO.out.go hb)
    replace B := B.trans (hb.mono B.size)
    have hzw11 := B.size
    clear hb
    rw [HMC.out]
    rw [HMM.out, HMR.out] at hu11
    obtain ⟨v11, rfl, hq11⟩ := hu11
    obtain ⟨pa, pc, rfl⟩ := hq11.shape
    have HP := Lib.hid hq11.rows
    clear hq11
    go_wp2_with fail
    obtain ⟨hb, hk, hs⟩ := blocks1 w11 #[.int .i64 (k : Int), .slice pa (mulL A C k).length pc] 26
    generalize w11.alloc (.cells #[.int .i64 (k : Int), .slice pa (mulL A C k).length pc] 26) = W12 at *
    have KP := Lib.hid hk
    replace HGA := Lib.hid (HGA.out.go hb)
    replace HRA := Lib.hid (HRA.out.go hb)
    replace HGC := Lib.hid (HGC.out.go hb)
    replace HRC := Lib.hid (HRC.out.go hb)
    replace KG := Lib.hid (KG.out.go hb)
    replace KO := Lib.hid (KO.out.go hb)
    replace HP := Lib.hid (HP.out.go hb)
    replace B := B.trans (hb.mono B.size)
    have hzW12 := B.size
    clear hb hk hs
    obtain ⟨gp, hgp⟩ : ∃ gp : Nat, gp = w11.heap.size := ⟨_, rfl⟩
    rw [← hgp] at KP
    simp only [← hgp]
    clear hgp
    refine wp_region_mono (C := Cb W12) (R := Rb) (H := Hz) [TyZ.val 91 (I64 0), TyZ.val 92 (.bool true), TyZ.val 93 (.bool true), TyZ.val 94 (.agg #[.int .i64 (k : Int), .slice pa (mulL A C k).length pc]), TyZ.val 95 (.int .i64 (rankL k (mulL A C k) : Int)), TyZ.val 96 (.int .i64 (r : Int)), TyZ.val 97 (.bool false), TyZ.val 98 (.bool false), TyZ.val 99 (.agg #[.int .i64 (k : Int), .slice pa (mulL A C k).length pc]), TyZ.val 100 (.int .i64 (rankL k (mulL A C k) : Int)), TyZ.val 101 (.agg #[.int .i64 (k : Int), .slice oa C.length oc]), TyZ.val 102 (.int .i64 (rankL k C : Int)), TyZ.val 103 (.bool false), TyZ.val 104 (.bool false), TyZ.val 105 (.bool false)] (by kernel_rfl) (hC_b W12) (hCH_z W12) (drew_b W12) ⟨trivial, trivial, trivial, trivial, trivial, trivial, trivial, trivial, trivial, trivial, trivial, trivial, trivial, trivial, trivial, trivial⟩ (by kernel_rfl) ?_ ?_
    · refine ⟨?_, ?_, ?_, ?_, ?_, ?_, ?_, ?_, ?_, ?_, ?_, ?_, ?_, ?_, ?_, trivial⟩
      · intro ac wc hC hsz hfr hd hpr
        have d17 : ac.eval (.tmp 17) = I64 0 := hfr 17 rfl
        rw [if_pos (wanted_none rfl)]
        exact ob_copy rfl rfl rfl (Nat.lt_of_lt_of_eq (by decide : 91 < 175) hsz.symm) (Or.inl rfl) (Below.refl _ _) d17
      · intro ac wc hC hsz hfr hd hpr
        have d91 : ac.eval (.tmp 91) = I64 0 := hd 0 rfl
        rw [if_pos (wanted_none rfl)]
        exact ob_bin _ rfl rfl rfl (Nat.lt_of_lt_of_eq (by decide : 92 < 175) hsz.symm) rfl d91 rfl (eql_err rfl) (Below.refl _ _) rfl
      · intro ac wc hC hsz hfr hd hpr
        have d92 : ac.eval (.tmp 92) = (.bool true) := hd 1 rfl
        rw [if_pos (wanted_none rfl)]
        exact ob_copy rfl rfl rfl (Nat.lt_of_lt_of_eq (by decide : 93 < 175) hsz.symm) (Or.inl rfl) (Below.refl _ _) d92
      · intro ac wc hC hsz hfr hd hpr
        have d93 : ac.eval (.tmp 93) = (.bool true) := hd 2 rfl
        have d16 : ac.eval (.tmp 16) = (.pointer (some ⟨gp, 0, none⟩)) := hfr 16 rfl
        rw [if_pos (wanted_some rfl (yielded_of rfl d93))]
        exact ob_load _ rfl rfl rfl (Nat.lt_of_lt_of_eq (by decide : 94 < 175) hsz.symm) rfl d16 (load_grid (KP.out.go hC)) (Below.refl _ _) rfl
      · intro ac wc hC hsz hfr hd hpr
        have d93 : ac.eval (.tmp 93) = (.bool true) := hd 2 rfl
        have d94 : ac.eval (.tmp 94) = (.agg #[.int .i64 (k : Int), .slice pa (mulL A C k).length pc]) := hd 3 rfl
        rw [if_pos (wanted_some rfl (yielded_of rfl d93))]
        refine ob_call rfl rfl rfl (Nat.lt_of_lt_of_eq (by decide : 95 < 175) hsz.symm) rfl (enter_of Try.func21 (by kernel_rfl) rfl) ?_
        show Calls Try.prog 21 #[ac.eval (.tmp 94)] wc _
        rw [d94]
        exact (rank_any _ k k (mulL A C k) wc ⟨pa, pc, rfl, HP.out.go hC⟩ HMO.out HMW.out (by omega) (by have := HML.out; omega)).mono fun _ _ ⟨he, hb⟩ => ⟨_, he, rfl, hb⟩
      · intro ac wc hC hsz hfr hd hpr
        have d93 : ac.eval (.tmp 93) = (.bool true) := hd 2 rfl
        have d15 : ac.eval (.tmp 15) = (.int .i64 (r : Int)) := hfr 15 rfl
        rw [if_pos (wanted_some rfl (yielded_of rfl d93))]
        exact ob_copy rfl rfl rfl (Nat.lt_of_lt_of_eq (by decide : 96 < 175) hsz.symm) (Or.inl rfl) (Below.refl _ _) d15
      · intro ac wc hC hsz hfr hd hpr
        have d93 : ac.eval (.tmp 93) = (.bool true) := hd 2 rfl
        have d95 : ac.eval (.tmp 95) = (.int .i64 (rankL k (mulL A C k) : Int)) := hd 4 rfl
        have d96 : ac.eval (.tmp 96) = (.int .i64 (r : Int)) := hd 5 rfl
        rw [if_pos (wanted_some rfl (yielded_of rfl d93))]
        exact ob_bin _ rfl rfl rfl (Nat.lt_of_lt_of_eq (by decide : 97 < 175) hsz.symm) rfl d95 d96 (gtr_int hqr) (Below.refl _ _) rfl
      · intro ac wc hC hsz hfr hd hpr
        have d93 : ac.eval (.tmp 93) = (.bool true) := hd 2 rfl
        have d97 : ac.eval (.tmp 97) = (.bool false) := hd 6 rfl
        rw [if_pos (wanted_some rfl (yielded_of rfl d93))]
        exact ob_copy rfl rfl rfl (Nat.lt_of_lt_of_eq (by decide : 98 < 175) hsz.symm) (Or.inl rfl) (Below.refl _ _) d97
      · intro ac wc hC hsz hfr hd hpr
        have d98 : ac.eval (.tmp 98) = (.bool false) := hd 7 rfl
        have d16 : ac.eval (.tmp 16) = (.pointer (some ⟨gp, 0, none⟩)) := hfr 16 rfl
        rw [if_pos (wanted_some rfl (yielded_of rfl d98))]
        exact ob_load _ rfl rfl rfl (Nat.lt_of_lt_of_eq (by decide : 99 < 175) hsz.symm) rfl d16 (load_grid (KP.out.go hC)) (Below.refl _ _) rfl
      · intro ac wc hC hsz hfr hd hpr
        have d98 : ac.eval (.tmp 98) = (.bool false) := hd 7 rfl
        have d99 : ac.eval (.tmp 99) = (.agg #[.int .i64 (k : Int), .slice pa (mulL A C k).length pc]) := hd 8 rfl
        rw [if_pos (wanted_some rfl (yielded_of rfl d98))]
        refine ob_call rfl rfl rfl (Nat.lt_of_lt_of_eq (by decide : 100 < 175) hsz.symm) rfl (enter_of Try.func21 (by kernel_rfl) rfl) ?_
        show Calls Try.prog 21 #[ac.eval (.tmp 99)] wc _
        rw [d99]
        exact (rank_any _ k k (mulL A C k) wc ⟨pa, pc, rfl, HP.out.go hC⟩ HMO.out HMW.out (by omega) (by have := HML.out; omega)).mono fun _ _ ⟨he, hb⟩ => ⟨_, he, rfl, hb⟩
      · intro ac wc hC hsz hfr hd hpr
        have d98 : ac.eval (.tmp 98) = (.bool false) := hd 7 rfl
        have d12 : ac.eval (.tmp 12) = (.pointer (some ⟨go, 0, none⟩)) := hfr 12 rfl
        rw [if_pos (wanted_some rfl (yielded_of rfl d98))]
        exact ob_load _ rfl rfl rfl (Nat.lt_of_lt_of_eq (by decide : 101 < 175) hsz.symm) rfl d12 (load_grid (KO.out.go hC)) (Below.refl _ _) rfl
      · intro ac wc hC hsz hfr hd hpr
        have d98 : ac.eval (.tmp 98) = (.bool false) := hd 7 rfl
        have d101 : ac.eval (.tmp 101) = (.agg #[.int .i64 (k : Int), .slice oa C.length oc]) := hd 10 rfl
        rw [if_pos (wanted_some rfl (yielded_of rfl d98))]
        refine ob_call rfl rfl rfl (Nat.lt_of_lt_of_eq (by decide : 102 < 175) hsz.symm) rfl (enter_of Try.func21 (by kernel_rfl) rfl) ?_
        show Calls Try.prog 21 #[ac.eval (.tmp 101)] wc _
        rw [d101]
        exact (rank_any _ k k C wc ⟨oa, oc, rfl, HGC.out.go hC⟩ HCO.out HCW.out (by omega) (by omega)).mono fun _ _ ⟨he, hb⟩ => ⟨_, he, rfl, hb⟩
      · intro ac wc hC hsz hfr hd hpr
        have d98 : ac.eval (.tmp 98) = (.bool false) := hd 7 rfl
        have d100 : ac.eval (.tmp 100) = (.int .i64 (rankL k (mulL A C k) : Int)) := hd 9 rfl
        have d102 : ac.eval (.tmp 102) = (.int .i64 (rankL k C : Int)) := hd 11 rfl
        rw [if_pos (wanted_some rfl (yielded_of rfl d98))]
        exact ob_bin _ rfl rfl rfl (Nat.lt_of_lt_of_eq (by decide : 103 < 175) hsz.symm) rfl d100 d102 (gtr_int hqc) (Below.refl _ _) rfl
      · intro ac wc hC hsz hfr hd hpr
        have d93 : ac.eval (.tmp 93) = (.bool true) := hd 2 rfl
        have d98 : ac.eval (.tmp 98) = (.bool false) := hd 7 rfl
        have d103 : ac.eval (.tmp 103) = (.bool false) := hd 12 rfl
        rw [if_pos (wanted_some rfl (yielded_of rfl d93))]
        exact ob_pick rfl rfl rfl (Nat.lt_of_lt_of_eq (by decide : 104 < 175) hsz.symm) rfl d98 (Below.refl _ _) d103
      · intro ac wc hC hsz hfr hd hpr
        have d93 : ac.eval (.tmp 93) = (.bool true) := hd 2 rfl
        have d104 : ac.eval (.tmp 104) = (.bool false) := hd 13 rfl
        rw [if_pos (wanted_none rfl)]
        exact ob_pick rfl rfl rfl (Nat.lt_of_lt_of_eq (by decide : 105 < 175) hsz.symm) rfl d93 (Below.refl _ _) d104
    intro a' W13 hC hdef hsz hfr hd
    have e91 : a'.eval (.tmp 91) = I64 0 := hd 0 (by decide)
    have e92 : a'.eval (.tmp 92) = (.bool true) := hd 1 (by decide)
    have e93 : a'.eval (.tmp 93) = (.bool true) := hd 2 (by decide)
    have e94 : a'.eval (.tmp 94) = (.agg #[.int .i64 (k : Int), .slice pa (mulL A C k).length pc]) := hd 3 (by decide)
    have e95 : a'.eval (.tmp 95) = (.int .i64 (rankL k (mulL A C k) : Int)) := hd 4 (by decide)
    have e96 : a'.eval (.tmp 96) = (.int .i64 (r : Int)) := hd 5 (by decide)
    have e97 : a'.eval (.tmp 97) = (.bool false) := hd 6 (by decide)
    have e98 : a'.eval (.tmp 98) = (.bool false) := hd 7 (by decide)
    have e99 : a'.eval (.tmp 99) = (.agg #[.int .i64 (k : Int), .slice pa (mulL A C k).length pc]) := hd 8 (by decide)
    have e100 : a'.eval (.tmp 100) = (.int .i64 (rankL k (mulL A C k) : Int)) := hd 9 (by decide)
    have e101 : a'.eval (.tmp 101) = (.agg #[.int .i64 (k : Int), .slice oa C.length oc]) := hd 10 (by decide)
    have e102 : a'.eval (.tmp 102) = (.int .i64 (rankL k C : Int)) := hd 11 (by decide)
    have e103 : a'.eval (.tmp 103) = (.bool false) := hd 12 (by decide)
    have e104 : a'.eval (.tmp 104) = (.bool false) := hd 13 (by decide)
    have e105 : a'.eval (.tmp 105) = (.bool false) := hd 14 (by decide)
    have hact := act_puts hdef hsz hfr
    simp only [dstsOf, List.filterMap, putAll, Act.put, List.setIfInBounds_toArray, List.set_cons_succ, List.set_cons_zero, e91, e92, e93, e94, e95, e96, e97, e98, e99, e100, e101, e102, e103, e104, e105] at hact
    clear hd hfr hsz hdef e91 e92 e93 e94 e95 e96 e97 e98 e99 e100 e101 e102 e103 e104 e105
    subst hact
    replace HGA := Lib.hid (HGA.out.go hC)
    replace HRA := Lib.hid (HRA.out.go hC)
    replace HGC := Lib.hid (HGC.out.go hC)
    replace HRC := Lib.hid (HRC.out.go hC)
    replace KG := Lib.hid (KG.out.go hC)
    replace KO := Lib.hid (KO.out.go hC)
    replace HP := Lib.hid (HP.out.go hC)
    replace KP := Lib.hid (KP.out.go hC)
    replace B := B.trans (hC.mono B.size)
    rcases hcase with hsq | ⟨hsq, hrm⟩ | ⟨hsq, hrm⟩
    · have HSQ := Lib.hid hsq
      have hsq1 : ((m : Int) == (A.length : Int)) = false := by rw [beq_eq_false_iff_ne]; omega
      have hsq2 : ((m : Int) != (A.length : Int)) = true := by rw [bne_iff_ne]; omega
      clear hsq
      obtain ⟨kg0, kg1⟩ := KG.out.two
      have kgl := KG.out.lt
      go_wp2_with fail
      refine (ginv_no _ m A _ ⟨ga, gc, rfl, HGA.out⟩ HSQ.out).mono ?_
      rintro e w15 ⟨u15, rfl, hu15, hb⟩
      replace B := B.trans (hb.mono B.size)
      have hzw15 := B.size
      clear hb
      obtain ⟨v15, rfl, hq15⟩ := hu15
      obtain ⟨ia, ic, rfl⟩ := hq15.shape
      go_wp2_with fail
      go_ret
      exact ⟨rfl, B.alloc B.size _⟩
    · have hrm2 : (r : Int) < (m : Int) := by omega
      have HSA := Lib.hid (show Sq m A from ⟨hsq.symm, wide_at HAW.out⟩)
      have HSQ := Lib.hid hsq.symm
      have hsq1 : ((m : Int) == (A.length : Int)) = true := by rw [hsq]; simp
      have hsq2 : ((m : Int) != (A.length : Int)) = false := by rw [hsq]; simp
      clear hsq
      obtain ⟨kg0, kg1⟩ := KG.out.two
      have kgl := KG.out.lt
      by_cases hsix : (m : Int) ≤ 6
      · skip
        have hdz : detN m A = 0 := Nat.eq_zero_of_not_pos fun h => by
          have h2 := (det_rank HSA.out HAO.out).1 (Nat.pos_iff_ne_zero.1 h)
          have h3 := HRK.out
          omega
        have hds : ((r : Int) == (m : Int)) = false := by rw [beq_eq_false_iff_ne]; omega
        go_wp2_with fail
        refine (refdet_any m (by omega) _ A _ HRA.out HSA.out).mono ?_
        rintro e w14 ⟨rfl, hb⟩
        replace HGA := Lib.hid (HGA.out.go hb)
        replace HRA := Lib.hid (HRA.out.go hb)
        replace KG := Lib.hid (KG.out.go hb)
        replace B := B.trans (hb.mono B.size)
        have hzw14 := B.size
        clear hb
        rw [hdz]
        obtain ⟨kg0, kg1⟩ := KG.out.two
        have kgl := KG.out.lt
        go_wp2_with fail
        refine (ginv_lack _ m A _ ⟨ga, gc, rfl, HGA.out⟩ HSQ.out HAO.out HAW.out (by omega) (by rw [← HRK.out]; exact hrm)).mono ?_
        rintro e w15 ⟨u15, rfl, hu15, hb⟩
        replace B := B.trans (hb.mono B.size)
        have hzw15 := B.size
        clear hb
        obtain ⟨v15, rfl, hq15⟩ := hu15
        obtain ⟨ia, ic, rfl⟩ := hq15.shape
        go_wp2_with fail
        go_ret
        exact ⟨rfl, B.alloc B.size _⟩
      · skip
        go_wp2_with fail
        refine (ginv_lack _ m A _ ⟨ga, gc, rfl, HGA.out⟩ HSQ.out HAO.out HAW.out (by omega) (by rw [← HRK.out]; exact hrm)).mono ?_
        rintro e w15 ⟨u15, rfl, hu15, hb⟩
        replace B := B.trans (hb.mono B.size)
        have hzw15 := B.size
        clear hb
        obtain ⟨v15, rfl, hq15⟩ := hu15
        obtain ⟨ia, ic, rfl⟩ := hq15.shape
        go_wp2_with fail
        go_ret
        exact ⟨rfl, B.alloc B.size _⟩
    · have hrm2 : ¬ (r : Int) < (m : Int) := by omega
      have HSA := Lib.hid (show Sq m A from ⟨hsq.symm, wide_at HAW.out⟩)
      have HFU := Lib.hid (show rankL m A = m by rw [← HRK.out]; exact hrm)
      have HMA := Lib.hid hsq.symm
      have HIL := Lib.hid (invL_length HMA.out HAO.out HAW.out HFU.out)
      have HIW := Lib.hid (invL_wide HMA.out HAO.out HAW.out)
      have HIO := Lib.hid (invL_oct HMA.out HAO.out HAW.out)
      have HIR := Lib.hid (invL_rank HMA.out HAO.out HAW.out HFU.out)
      have HIB := Lib.hid (invL_back HMA.out HAO.out HAW.out HFU.out)
      have HNC := Lib.hid (show mulC m A = 0 from if_pos hsq)
      have HNM := Lib.hid (show mulM m A m = (m : Int) from if_pos hsq)
      have HNR := Lib.hid (show mulR m (invL A) A m = unitG m by unfold mulR; rw [if_pos hsq]; exact invL_left HMA.out HAO.out HAW.out HFU.out)
      have HAM := Lib.hid (show (invL A).length * m ≤ 65536 by
        have h1 := HIL.out
        have := Nat.mul_le_mul (show (invL A).length ≤ 30 by omega) hm30
        omega)
      have HUN := Lib.hid (unitG_length m)
      clear HMA hrm
      have HSQ := Lib.hid hsq.symm
      have hsq1 : ((m : Int) == (A.length : Int)) = true := by rw [hsq]; simp
      have hsq2 : ((m : Int) != (A.length : Int)) = false := by rw [hsq]; simp
      clear hsq
      obtain ⟨kg0, kg1⟩ := KG.out.two
      have kgl := KG.out.lt
      by_cases hsix : (m : Int) ≤ 6
      · skip
        have hdz : ((detN m A : Int) != 0) = true := by
          have h2 := (det_rank HSA.out HAO.out).2 HFU.out
          rw [bne_iff_ne]; omega
        have hds : ((r : Int) == (m : Int)) = true := by rw [beq_iff_eq]; have h3 := HRK.out; have h4 := HFU.out; omega
        go_wp2_with fail
        refine (refdet_any m (by omega) _ A _ HRA.out HSA.out).mono ?_
        rintro e w14 ⟨rfl, hb⟩
        replace HGA := Lib.hid (HGA.out.go hb)
        replace HRA := Lib.hid (HRA.out.go hb)
        replace KG := Lib.hid (KG.out.go hb)
        replace B := B.trans (hb.mono B.size)
        have hzw14 := B.size
        clear hb
        obtain ⟨kg0, kg1⟩ := KG.out.two
        have kgl := KG.out.lt
        go_wp2_with fail
        refine (ginv_full _ m A _ ⟨ga, gc, rfl, HGA.out⟩ HSQ.out HAO.out HAW.out (by omega) HFU.out).mono ?_
        rintro e w15 ⟨u15, rfl, hu15, hb⟩
        replace HGA := Lib.hid (HGA.out.go hb)
        replace KG := Lib.hid (KG.out.go hb)
        replace B := B.trans (hb.mono B.size)
        have hzw15 := B.size
        clear hb
        obtain ⟨v15, rfl, hq15⟩ := hu15
        obtain ⟨ia, ic, rfl⟩ := hq15.shape
        have HI := Lib.hid hq15.rows
        clear hq15
        obtain ⟨kg0, kg1⟩ := KG.out.two
        have kgl := KG.out.lt
        go_wp2_with fail
        clear kg0 kg1 kgl
        obtain ⟨hb, hk, hs⟩ := blocks1 w15 #[.int .i64 (m : Int), .slice ia (invL A).length ic] 26
        generalize w15.alloc (.cells #[.int .i64 (m : Int), .slice ia (invL A).length ic] 26) = W16 at *
        have KI := Lib.hid hk
        replace HI := Lib.hid (HI.out.go hb)
        replace HGA := Lib.hid (HGA.out.go hb)
        replace KG := Lib.hid (KG.out.go hb)
        replace B := B.trans (hb.mono B.size)
        have hzW16 := B.size
        clear hb hk hs
        refine (ginv_full _ m (invL A) _ ⟨ia, ic, rfl, HI.out⟩ HIL.out HIO.out HIW.out (by omega) HIR.out).mono ?_
        rintro e w17 ⟨u17, rfl, hu17, hb⟩
        replace HI := Lib.hid (HI.out.go hb)
        replace HGA := Lib.hid (HGA.out.go hb)
        replace KG := Lib.hid (KG.out.go hb)
        replace KI := Lib.hid (KI.out.go hb)
        replace B := B.trans (hb.mono B.size)
        have hzw17 := B.size
        clear hb
        rw [HIB.out] at hu17
        obtain ⟨v17, rfl, hq17⟩ := hu17
        obtain ⟨ja, jc, rfl⟩ := hq17.shape
        have HJ := Lib.hid hq17.rows
        clear hq17
        obtain ⟨kg0, kg1⟩ := KG.out.two
        have kgl := KG.out.lt
        obtain ⟨ki0, ki1⟩ := KI.out.two
        have kil := KI.out.lt
        go_wp2_with fail
        clear kg0 kg1 kgl ki0 ki1 kil
        obtain ⟨hb, hk, hs⟩ := blocks1 w17 #[.int .i64 (m : Int), .slice ja A.length jc] 26
        generalize w17.alloc (.cells #[.int .i64 (m : Int), .slice ja A.length jc] 26) = W18 at *
        have KJ := Lib.hid hk
        replace HI := Lib.hid (HI.out.go hb)
        replace HGA := Lib.hid (HGA.out.go hb)
        replace KG := Lib.hid (KG.out.go hb)
        replace KI := Lib.hid (KI.out.go hb)
        replace HJ := Lib.hid (HJ.out.go hb)
        replace B := B.trans (hb.mono B.size)
        have hzW18 := B.size
        clear hb hk hs
        refine (gmul_any _ _ m m (invL A) A _ ⟨ia, ic, rfl, HI.out⟩ ⟨ga, gc, rfl, HGA.out⟩ (wide_at HIW.out) (wide_at HAW.out) (by omega) (by have := HIL.out; omega) HAM.out).mono ?_
        rintro e w19 ⟨u19, rfl, hu19, hb⟩
        replace HGA := Lib.hid (HGA.out.go hb)
        replace KG := Lib.hid (KG.out.go hb)
        replace HJ := Lib.hid (HJ.out.go hb)
        replace KJ := Lib.hid (KJ.out.go hb)
        replace B := B.trans (hb.mono B.size)
        have hzw19 := B.size
        clear hb
        rw [HNC.out]
        rw [HNM.out, HNR.out] at hu19
        obtain ⟨v19, rfl, hq19⟩ := hu19
        obtain ⟨ka, kc, rfl⟩ := hq19.shape
        have HX := Lib.hid hq19.rows
        clear hq19
        obtain ⟨kg0, kg1⟩ := KG.out.two
        have kgl := KG.out.lt
        obtain ⟨kj0, kj1⟩ := KJ.out.two
        have kjl := KJ.out.lt
        go_wp2_with fail
        clear kg0 kg1 kgl kj0 kj1 kjl
        obtain ⟨hb, hk, hs⟩ := blocks1 w19 #[.int .i64 (m : Int), .slice ka (unitG m).length kc] 26
        generalize w19.alloc (.cells #[.int .i64 (m : Int), .slice ka (unitG m).length kc] 26) = W20 at *
        have KX := Lib.hid hk
        replace HGA := Lib.hid (HGA.out.go hb)
        replace KG := Lib.hid (KG.out.go hb)
        replace HJ := Lib.hid (HJ.out.go hb)
        replace KJ := Lib.hid (KJ.out.go hb)
        replace HX := Lib.hid (HX.out.go hb)
        replace B := B.trans (hb.mono B.size)
        have hzW20 := B.size
        clear hb hk hs
        refine (gunit_in m _ (by omega)).mono ?_
        rintro e w21 ⟨u21, rfl, hu21, hb⟩
        replace HGA := Lib.hid (HGA.out.go hb)
        replace KG := Lib.hid (KG.out.go hb)
        replace HJ := Lib.hid (HJ.out.go hb)
        replace KJ := Lib.hid (KJ.out.go hb)
        replace HX := Lib.hid (HX.out.go hb)
        replace KX := Lib.hid (KX.out.go hb)
        replace B := B.trans (hb.mono B.size)
        have hzw21 := B.size
        clear hb
        obtain ⟨v21, rfl, hq21⟩ := hu21
        obtain ⟨ea, ec, rfl⟩ := hq21.shape
        have HU := Lib.hid hq21.rows
        clear hq21
        obtain ⟨kg0, kg1⟩ := KG.out.two
        have kgl := KG.out.lt
        obtain ⟨kj0, kj1⟩ := KJ.out.two
        have kjl := KJ.out.lt
        obtain ⟨kx0, kx1⟩ := KX.out.two
        have kxl := KX.out.lt
        go_wp2_with fail
        clear kg0 kg1 kgl kj0 kj1 kjl kx0 kx1 kxl
        obtain ⟨hb, hk, hs⟩ := blocks1 w21 #[.int .i64 (m : Int), .slice ea (unitG m).length ec] 26
        generalize w21.alloc (.cells #[.int .i64 (m : Int), .slice ea (unitG m).length ec] 26) = W22 at *
        have KU := Lib.hid hk
        replace HGA := Lib.hid (HGA.out.go hb)
        replace KG := Lib.hid (KG.out.go hb)
        replace HJ := Lib.hid (HJ.out.go hb)
        replace KJ := Lib.hid (KJ.out.go hb)
        replace HX := Lib.hid (HX.out.go hb)
        replace KX := Lib.hid (KX.out.go hb)
        replace HU := Lib.hid (HU.out.go hb)
        replace B := B.trans (hb.mono B.size)
        have hzW22 := B.size
        clear hb hk hs
        refine (gridsame_any _ _ (m : Int) (m : Int) A A _ ⟨ja, jc, rfl, HJ.out⟩ ⟨ga, gc, rfl, HGA.out⟩ (by omega)).mono ?_
        rintro e w23 ⟨rfl, hb⟩
        replace HX := Lib.hid (HX.out.go hb)
        replace KX := Lib.hid (KX.out.go hb)
        replace HU := Lib.hid (HU.out.go hb)
        replace KU := Lib.hid (KU.out.go hb)
        replace B := B.trans (hb.mono B.size)
        have hzw23 := B.size
        clear hb
        rw [show decide ((m : Int) = (m : Int) ∧ A = A) = true from decide_eq_true ⟨rfl, rfl⟩]
        obtain ⟨kx0, kx1⟩ := KX.out.two
        have kxl := KX.out.lt
        obtain ⟨ku0, ku1⟩ := KU.out.two
        have kul := KU.out.lt
        go_wp2_with fail
        clear kx0 kx1 kxl ku0 ku1 kul
        refine (gridsame_any _ _ (m : Int) (m : Int) (unitG m) (unitG m) _ ⟨ka, kc, rfl, HX.out⟩ ⟨ea, ec, rfl, HU.out⟩ (by have := HUN.out; omega)).mono ?_
        rintro e w24 ⟨rfl, hb⟩
        replace B := B.trans (hb.mono B.size)
        have hzw24 := B.size
        clear hb
        rw [show decide ((m : Int) = (m : Int) ∧ unitG m = unitG m) = true from decide_eq_true ⟨rfl, rfl⟩]
        go_wp2_with fail
        go_ret
        exact ⟨rfl, B⟩
      · skip
        go_wp2_with fail
        refine (ginv_full _ m A _ ⟨ga, gc, rfl, HGA.out⟩ HSQ.out HAO.out HAW.out (by omega) HFU.out).mono ?_
        rintro e w15 ⟨u15, rfl, hu15, hb⟩
        replace HGA := Lib.hid (HGA.out.go hb)
        replace KG := Lib.hid (KG.out.go hb)
        replace B := B.trans (hb.mono B.size)
        have hzw15 := B.size
        clear hb
        obtain ⟨v15, rfl, hq15⟩ := hu15
        obtain ⟨ia, ic, rfl⟩ := hq15.shape
        have HI := Lib.hid hq15.rows
        clear hq15
        obtain ⟨kg0, kg1⟩ := KG.out.two
        have kgl := KG.out.lt
        go_wp2_with fail
        clear kg0 kg1 kgl
        obtain ⟨hb, hk, hs⟩ := blocks1 w15 #[.int .i64 (m : Int), .slice ia (invL A).length ic] 26
        generalize w15.alloc (.cells #[.int .i64 (m : Int), .slice ia (invL A).length ic] 26) = W16 at *
        have KI := Lib.hid hk
        replace HI := Lib.hid (HI.out.go hb)
        replace HGA := Lib.hid (HGA.out.go hb)
        replace KG := Lib.hid (KG.out.go hb)
        replace B := B.trans (hb.mono B.size)
        have hzW16 := B.size
        clear hb hk hs
        refine (ginv_full _ m (invL A) _ ⟨ia, ic, rfl, HI.out⟩ HIL.out HIO.out HIW.out (by omega) HIR.out).mono ?_
        rintro e w17 ⟨u17, rfl, hu17, hb⟩
        replace HI := Lib.hid (HI.out.go hb)
        replace HGA := Lib.hid (HGA.out.go hb)
        replace KG := Lib.hid (KG.out.go hb)
        replace KI := Lib.hid (KI.out.go hb)
        replace B := B.trans (hb.mono B.size)
        have hzw17 := B.size
        clear hb
        rw [HIB.out] at hu17
        obtain ⟨v17, rfl, hq17⟩ := hu17
        obtain ⟨ja, jc, rfl⟩ := hq17.shape
        have HJ := Lib.hid hq17.rows
        clear hq17
        obtain ⟨kg0, kg1⟩ := KG.out.two
        have kgl := KG.out.lt
        obtain ⟨ki0, ki1⟩ := KI.out.two
        have kil := KI.out.lt
        go_wp2_with fail
        clear kg0 kg1 kgl ki0 ki1 kil
        obtain ⟨hb, hk, hs⟩ := blocks1 w17 #[.int .i64 (m : Int), .slice ja A.length jc] 26
        generalize w17.alloc (.cells #[.int .i64 (m : Int), .slice ja A.length jc] 26) = W18 at *
        have KJ := Lib.hid hk
        replace HI := Lib.hid (HI.out.go hb)
        replace HGA := Lib.hid (HGA.out.go hb)
        replace KG := Lib.hid (KG.out.go hb)
        replace KI := Lib.hid (KI.out.go hb)
        replace HJ := Lib.hid (HJ.out.go hb)
        replace B := B.trans (hb.mono B.size)
        have hzW18 := B.size
        clear hb hk hs
        refine (gmul_any _ _ m m (invL A) A _ ⟨ia, ic, rfl, HI.out⟩ ⟨ga, gc, rfl, HGA.out⟩ (wide_at HIW.out) (wide_at HAW.out) (by omega) (by have := HIL.out; omega) HAM.out).mono ?_
        rintro e w19 ⟨u19, rfl, hu19, hb⟩
        replace HGA := Lib.hid (HGA.out.go hb)
        replace KG := Lib.hid (KG.out.go hb)
        replace HJ := Lib.hid (HJ.out.go hb)
        replace KJ := Lib.hid (KJ.out.go hb)
        replace B := B.trans (hb.mono B.size)
        have hzw19 := B.size
        clear hb
        rw [HNC.out]
        rw [HNM.out, HNR.out] at hu19
        obtain ⟨v19, rfl, hq19⟩ := hu19
        obtain ⟨ka, kc, rfl⟩ := hq19.shape
        have HX := Lib.hid hq19.rows
        clear hq19
        obtain ⟨kg0, kg1⟩ := KG.out.two
        have kgl := KG.out.lt
        obtain ⟨kj0, kj1⟩ := KJ.out.two
        have kjl := KJ.out.lt
        go_wp2_with fail
        clear kg0 kg1 kgl kj0 kj1 kjl
        obtain ⟨hb, hk, hs⟩ := blocks1 w19 #[.int .i64 (m : Int), .slice ka (unitG m).length kc] 26
        generalize w19.alloc (.cells #[.int .i64 (m : Int), .slice ka (unitG m).length kc] 26) = W20 at *
        have KX := Lib.hid hk
        replace HGA := Lib.hid (HGA.out.go hb)
        replace KG := Lib.hid (KG.out.go hb)
        replace HJ := Lib.hid (HJ.out.go hb)
        replace KJ := Lib.hid (KJ.out.go hb)
        replace HX := Lib.hid (HX.out.go hb)
        replace B := B.trans (hb.mono B.size)
        have hzW20 := B.size
        clear hb hk hs
        refine (gunit_in m _ (by omega)).mono ?_
        rintro e w21 ⟨u21, rfl, hu21, hb⟩
        replace HGA := Lib.hid (HGA.out.go hb)
        replace KG := Lib.hid (KG.out.go hb)
        replace HJ := Lib.hid (HJ.out.go hb)
        replace KJ := Lib.hid (KJ.out.go hb)
        replace HX := Lib.hid (HX.out.go hb)
        replace KX := Lib.hid (KX.out.go hb)
        replace B := B.trans (hb.mono B.size)
        have hzw21 := B.size
        clear hb
        obtain ⟨v21, rfl, hq21⟩ := hu21
        obtain ⟨ea, ec, rfl⟩ := hq21.shape
        have HU := Lib.hid hq21.rows
        clear hq21
        obtain ⟨kg0, kg1⟩ := KG.out.two
        have kgl := KG.out.lt
        obtain ⟨kj0, kj1⟩ := KJ.out.two
        have kjl := KJ.out.lt
        obtain ⟨kx0, kx1⟩ := KX.out.two
        have kxl := KX.out.lt
        go_wp2_with fail
        clear kg0 kg1 kgl kj0 kj1 kjl kx0 kx1 kxl
        obtain ⟨hb, hk, hs⟩ := blocks1 w21 #[.int .i64 (m : Int), .slice ea (unitG m).length ec] 26
        generalize w21.alloc (.cells #[.int .i64 (m : Int), .slice ea (unitG m).length ec] 26) = W22 at *
        have KU := Lib.hid hk
        replace HGA := Lib.hid (HGA.out.go hb)
        replace KG := Lib.hid (KG.out.go hb)
        replace HJ := Lib.hid (HJ.out.go hb)
        replace KJ := Lib.hid (KJ.out.go hb)
        replace HX := Lib.hid (HX.out.go hb)
        replace KX := Lib.hid (KX.out.go hb)
        replace HU := Lib.hid (HU.out.go hb)
        replace B := B.trans (hb.mono B.size)
        have hzW22 := B.size
        clear hb hk hs
        refine (gridsame_any _ _ (m : Int) (m : Int) A A _ ⟨ja, jc, rfl, HJ.out⟩ ⟨ga, gc, rfl, HGA.out⟩ (by omega)).mono ?_
        rintro e w23 ⟨rfl, hb⟩
        replace HX := Lib.hid (HX.out.go hb)
        replace KX := Lib.hid (KX.out.go hb)
        replace HU := Lib.hid (HU.out.go hb)
        replace KU := Lib.hid (KU.out.go hb)
        replace B := B.trans (hb.mono B.size)
        have hzw23 := B.size
        clear hb
        rw [show decide ((m : Int) = (m : Int) ∧ A = A) = true from decide_eq_true ⟨rfl, rfl⟩]
        obtain ⟨kx0, kx1⟩ := KX.out.two
        have kxl := KX.out.lt
        obtain ⟨ku0, ku1⟩ := KU.out.two
        have kul := KU.out.lt
        go_wp2_with fail
        clear kx0 kx1 kxl ku0 ku1 kul
        refine (gridsame_any _ _ (m : Int) (m : Int) (unitG m) (unitG m) _ ⟨ka, kc, rfl, HX.out⟩ ⟨ea, ec, rfl, HU.out⟩ (by have := HUN.out; omega)).mono ?_
        rintro e w24 ⟨rfl, hb⟩
        replace B := B.trans (hb.mono B.size)
        have hzw24 := B.size
        clear hb
        rw [show decide ((m : Int) = (m : Int) ∧ unitG m = unitG m) = true from decide_eq_true ⟨rfl, rfl⟩]
        go_wp2_with fail
        go_ret
        exact ⟨rfl, B⟩
  · have HMC := Lib.hid (show mulC m C = 4 from if_neg hp)
    have HMM := Lib.hid (show mulM m C k = 0 from if_neg hp)
    have HMR := Lib.hid (show mulR m A C k = [] from if_neg hp)
    clear hp
    go_enter Try.func5, Try.ntmps5
    go_wp2_with fail
    have B : Below w.heap.size w w := Below.refl _ _
    refine (awake7_any _).mono ?_
    rintro e w1 ⟨rfl, hb⟩
    replace H0 := Lib.hid (H0.out.go hb)
    replace H1 := Lib.hid (H1.out.go hb)
    replace B := B.trans (hb.mono B.size)
    have hzw1 := B.size
    clear hb
    go_wp2_with fail
    refine (few7_any _ ll _ H0.out).mono ?_
    rintro e w2 ⟨rfl, hb⟩
    replace H0 := Lib.hid (H0.out.go hb)
    replace H1 := Lib.hid (H1.out.go hb)
    replace B := B.trans (hb.mono B.size)
    have hzw2 := B.size
    clear hb
    rw [HF.out]
    go_wp2_with fail
    refine (few7_any _ kk _ H1.out).mono ?_
    rintro e w3 ⟨rfl, hb⟩
    replace H0 := Lib.hid (H0.out.go hb)
    replace H1 := Lib.hid (H1.out.go hb)
    replace B := B.trans (hb.mono B.size)
    have hzw3 := B.size
    clear hb
    rw [HG.out]
    go_wp2_with fail
    refine (made7_any x0 _ ll _ hx0 H0.out (by omega)).mono ?_
    rintro e w4 ⟨u4, v4, rfl, hu4, hv4, hb⟩
    replace H1 := Lib.hid (H1.out.go hb)
    replace B := B.trans (hb.mono B.size)
    have hzw4 := B.size
    clear hb
    rw [← HM.out, ← HA.out] at hu4
    rw [← HM.out]
    rw [← HM.out, ← HA.out] at hv4
    obtain ⟨ga, gc, rfl, hq⟩ := hu4
    have HGA := Lib.hid hq
    obtain ⟨ra, rc, rfl⟩ := hv4.shape
    have HRA := Lib.hid hv4
    clear hq hv4
    go_wp2_with fail
    obtain ⟨hb, hk, hs⟩ := blocks1 w4 #[.int .i64 (m : Int), .slice ga A.length gc] 26
    generalize w4.alloc (.cells #[.int .i64 (m : Int), .slice ga A.length gc] 26) = W5 at *
    have KG := Lib.hid hk
    replace H1 := Lib.hid (H1.out.go hb)
    replace HGA := Lib.hid (HGA.out.go hb)
    replace HRA := Lib.hid (HRA.out.go hb)
    replace B := B.trans (hb.mono B.size)
    have hzW5 := B.size
    clear hb hk hs
    refine (made7_any x1 _ kk _ hx1 H1.out (by omega)).mono ?_
    rintro e w6 ⟨u6, v6, rfl, hu6, hv6, hb⟩
    replace HGA := Lib.hid (HGA.out.go hb)
    replace HRA := Lib.hid (HRA.out.go hb)
    replace KG := Lib.hid (KG.out.go hb)
    replace B := B.trans (hb.mono B.size)
    have hzw6 := B.size
    clear hb
    rw [← HK.out, ← HC.out] at hu6
    rw [← HK.out]
    rw [← HK.out, ← HC.out] at hv6
    obtain ⟨oa, oc, rfl, hq⟩ := hu6
    have HGC := Lib.hid hq
    obtain ⟨sa, sc, rfl⟩ := hv6.shape
    have HRC := Lib.hid hv6
    clear hq hv6
    obtain ⟨kg0, kg1⟩ := KG.out.two
    have kgl := KG.out.lt
    go_wp2_with fail
    clear kg0 kg1 kgl
    obtain ⟨hb, hk, hs⟩ := blocks1 w6 #[.int .i64 (k : Int), .slice oa C.length oc] 26
    generalize w6.alloc (.cells #[.int .i64 (k : Int), .slice oa C.length oc] 26) = W7 at *
    have KO := Lib.hid hk
    replace HGA := Lib.hid (HGA.out.go hb)
    replace HRA := Lib.hid (HRA.out.go hb)
    replace HGC := Lib.hid (HGC.out.go hb)
    replace HRC := Lib.hid (HRC.out.go hb)
    replace KG := Lib.hid (KG.out.go hb)
    replace B := B.trans (hb.mono B.size)
    have hzW7 := B.size
    clear hb hk hs
    refine (rank_any _ m m A _ ⟨ga, gc, rfl, HGA.out⟩ HAO.out HAW.out (by omega) (by omega)).mono ?_
    rintro e w9 ⟨rfl, hb⟩
    replace HGA := Lib.hid (HGA.out.go hb)
    replace HRA := Lib.hid (HRA.out.go hb)
    replace HGC := Lib.hid (HGC.out.go hb)
    replace HRC := Lib.hid (HRC.out.go hb)
    replace KG := Lib.hid (KG.out.go hb)
    replace KO := Lib.hid (KO.out.go hb)
    replace B := B.trans (hb.mono B.size)
    have hzw9 := B.size
    clear hb
    rw [← HRK.out]
    obtain ⟨gg, hgg⟩ : ∃ gg : Nat, gg = w4.heap.size := ⟨_, rfl⟩
    obtain ⟨go, hgo⟩ : ∃ go : Nat, go = w6.heap.size := ⟨_, rfl⟩
    rw [← hgg] at KG
    rw [← hgo] at KO
    simp only [← hgg, ← hgo]
    clear hgg hgo
    go_wp2_with fail
    refine wp_region_mono (C := Cb w9) (R := Rb) (H := Hz) [TyZ.val 52 (.int .i64 (r : Int)), TyZ.val 53 (.agg #[.int .i64 (m : Int), .slice ga A.length gc]), TyZ.grid 54 (A.length : Int) (turnedL A m), TyZ.val 55 (.int .i64 (r : Int)), TyZ.val 56 (.bool false), TyZ.val 57 (.bool false), TyZ.val 58 (.int .i64 (r : Int)), TyZ.val 59 (.int .i64 (m : Int)), TyZ.val 60 (.bool false), TyZ.val 61 (.bool false), TyZ.val 62 (.bool false), TyZ.val 63 (.int .i64 (r : Int)), TyZ.val 64 (.slice ra A.length rc), TyZ.val 65 (.int .i64 (A.length : Int)), TyZ.val 66 (.bool false), TyZ.val 67 (.bool false), TyZ.val 68 (.bool false), TyZ.val 69 (.agg #[.int .i64 (m : Int), .slice ga A.length gc]), TyZ.grid 70 (A.length : Int) (turnedL A m), TyZ.grid 71 (m : Int) A, TyZ.val 72 (.agg #[.int .i64 (m : Int), .slice ga A.length gc]), TyZ.val 73 (.bool true), TyZ.val 74 (.bool false), TyZ.val 75 (.bool false), TyZ.any, TyZ.any, TyZ.val 78 (.bool false), TyZ.val 79 (.bool false), TyZ.any, TyZ.any, TyZ.any, TyZ.val 83 (.bool false), TyZ.val 84 (.bool false)] (by kernel_rfl) (hC_b w9) (hCH_z w9) (drew_b w9) ⟨trivial, trivial, trivial, trivial, trivial, trivial, trivial, trivial, trivial, trivial, trivial, trivial, trivial, trivial, trivial, trivial, trivial, trivial, trivial, trivial, trivial, trivial, trivial, trivial, trivial, trivial, trivial, trivial, trivial, trivial, trivial, trivial, trivial, trivial⟩ (by kernel_rfl) ?_ ?_
    · refine ⟨?_, ?_, ?_, ?_, ?_, ?_, ?_, ?_, ?_, ?_, ?_, ?_, ?_, ?_, ?_, ?_, ?_, ?_, ?_, ?_, ?_, ?_, ?_, ?_, ?_, ?_, ?_, ?_, ?_, ?_, ?_, ?_, ?_, trivial⟩
      · intro ac wc hC hsz hfr hd hpr
        have d15 : ac.eval (.tmp 15) = (.int .i64 (r : Int)) := hfr 15 rfl
        rw [if_pos (wanted_none rfl)]
        exact ob_copy rfl rfl rfl (Nat.lt_of_lt_of_eq (by decide : 52 < 175) hsz.symm) (Or.inl rfl) (Below.refl _ _) d15
      · intro ac wc hC hsz hfr hd hpr
        have d9 : ac.eval (.tmp 9) = (.pointer (some ⟨gg, 0, none⟩)) := hfr 9 rfl
        rw [if_pos (wanted_none rfl)]
        exact ob_load _ rfl rfl rfl (Nat.lt_of_lt_of_eq (by decide : 53 < 175) hsz.symm) rfl d9 (load_grid (KG.out.go hC)) (Below.refl _ _) rfl
      · intro ac wc hC hsz hfr hd hpr
        have d53 : ac.eval (.tmp 53) = (.agg #[.int .i64 (m : Int), .slice ga A.length gc]) := hd 1 rfl
        rw [if_pos (wanted_none rfl)]
        refine ob_call rfl rfl rfl (Nat.lt_of_lt_of_eq (by decide : 54 < 175) hsz.symm) rfl (enter_of Try.func22 (by kernel_rfl) rfl) ?_
        show Calls Try.prog 22 #[ac.eval (.tmp 53)] wc _
        rw [d53]
        exact (gturned_any _ m A wc ⟨ga, gc, rfl, HGA.out.go hC⟩ HAO.out HAW.out (by omega) (by omega)).mono fun _ _ h => h.grid
      · intro ac wc hC hsz hfr hd hpr
        have d54 : IsGrid wc (ac.eval (.tmp 54)) (A.length : Int) (turnedL A m) := hd 2 rfl
        rw [if_pos (wanted_none rfl)]
        refine ob_call rfl rfl rfl (Nat.lt_of_lt_of_eq (by decide : 55 < 175) hsz.symm) rfl (enter_of Try.func21 (by kernel_rfl) rfl) ?_
        show Calls Try.prog 21 #[ac.eval (.tmp 54)] wc _
        exact (HRT.out _ wc d54).mono fun _ _ ⟨he, hb⟩ => ⟨_, he, rfl, hb⟩
      · intro ac wc hC hsz hfr hd hpr
        have d52 : ac.eval (.tmp 52) = (.int .i64 (r : Int)) := hd 0 rfl
        have d55 : ac.eval (.tmp 55) = (.int .i64 (r : Int)) := hd 3 rfl
        rw [if_pos (wanted_none rfl)]
        exact ob_bin _ rfl rfl rfl (Nat.lt_of_lt_of_eq (by decide : 56 < 175) hsz.symm) rfl d52 d55 (neq_int hrr) (Below.refl _ _) rfl
      · intro ac wc hC hsz hfr hd hpr
        have d56 : ac.eval (.tmp 56) = (.bool false) := hd 4 rfl
        rw [if_pos (wanted_none rfl)]
        exact ob_copy rfl rfl rfl (Nat.lt_of_lt_of_eq (by decide : 57 < 175) hsz.symm) (Or.inl rfl) (Below.refl _ _) d56
      · intro ac wc hC hsz hfr hd hpr
        have d57 : ac.eval (.tmp 57) = (.bool false) := hd 5 rfl
        have d15 : ac.eval (.tmp 15) = (.int .i64 (r : Int)) := hfr 15 rfl
        rw [if_pos (wanted_some rfl (yielded_of rfl d57))]
        exact ob_copy rfl rfl rfl (Nat.lt_of_lt_of_eq (by decide : 58 < 175) hsz.symm) (Or.inl rfl) (Below.refl _ _) d15
      · intro ac wc hC hsz hfr hd hpr
        have d57 : ac.eval (.tmp 57) = (.bool false) := hd 5 rfl
        have d11 : ac.eval (.tmp 11) = (.int .i64 (m : Int)) := hfr 11 rfl
        rw [if_pos (wanted_some rfl (yielded_of rfl d57))]
        exact ob_copy rfl rfl rfl (Nat.lt_of_lt_of_eq (by decide : 59 < 175) hsz.symm) (Or.inl rfl) (Below.refl _ _) d11
      · intro ac wc hC hsz hfr hd hpr
        have d57 : ac.eval (.tmp 57) = (.bool false) := hd 5 rfl
        have d58 : ac.eval (.tmp 58) = (.int .i64 (r : Int)) := hd 6 rfl
        have d59 : ac.eval (.tmp 59) = (.int .i64 (m : Int)) := hd 7 rfl
        rw [if_pos (wanted_some rfl (yielded_of rfl d57))]
        exact ob_bin _ rfl rfl rfl (Nat.lt_of_lt_of_eq (by decide : 60 < 175) hsz.symm) rfl d58 d59 (gtr_int hrm) (Below.refl _ _) rfl
      · intro ac wc hC hsz hfr hd hpr
        have d57 : ac.eval (.tmp 57) = (.bool false) := hd 5 rfl
        have d60 : ac.eval (.tmp 60) = (.bool false) := hd 8 rfl
        rw [if_pos (wanted_none rfl)]
        exact ob_pick rfl rfl rfl (Nat.lt_of_lt_of_eq (by decide : 61 < 175) hsz.symm) rfl d57 (Below.refl _ _) d60
      · intro ac wc hC hsz hfr hd hpr
        have d61 : ac.eval (.tmp 61) = (.bool false) := hd 9 rfl
        rw [if_pos (wanted_none rfl)]
        exact ob_copy rfl rfl rfl (Nat.lt_of_lt_of_eq (by decide : 62 < 175) hsz.symm) (Or.inl rfl) (Below.refl _ _) d61
      · intro ac wc hC hsz hfr hd hpr
        have d62 : ac.eval (.tmp 62) = (.bool false) := hd 10 rfl
        have d15 : ac.eval (.tmp 15) = (.int .i64 (r : Int)) := hfr 15 rfl
        rw [if_pos (wanted_some rfl (yielded_of rfl d62))]
        exact ob_copy rfl rfl rfl (Nat.lt_of_lt_of_eq (by decide : 63 < 175) hsz.symm) (Or.inl rfl) (Below.refl _ _) d15
      · intro ac wc hC hsz hfr hd hpr
        have d62 : ac.eval (.tmp 62) = (.bool false) := hd 10 rfl
        have d10 : ac.eval (.tmp 10) = (.slice ra A.length rc) := hfr 10 rfl
        rw [if_pos (wanted_some rfl (yielded_of rfl d62))]
        exact ob_copy rfl rfl rfl (Nat.lt_of_lt_of_eq (by decide : 64 < 175) hsz.symm) (Or.inl rfl) (Below.refl _ _) d10
      · intro ac wc hC hsz hfr hd hpr
        have d62 : ac.eval (.tmp 62) = (.bool false) := hd 10 rfl
        have d64 : ac.eval (.tmp 64) = (.slice ra A.length rc) := hd 12 rfl
        rw [if_pos (wanted_some rfl (yielded_of rfl d62))]
        exact ob_len rfl rfl rfl (Nat.lt_of_lt_of_eq (by decide : 65 < 175) hsz.symm) rfl d64 (len_rows _ _ _) (Below.refl _ _) rfl
      · intro ac wc hC hsz hfr hd hpr
        have d62 : ac.eval (.tmp 62) = (.bool false) := hd 10 rfl
        have d63 : ac.eval (.tmp 63) = (.int .i64 (r : Int)) := hd 11 rfl
        have d65 : ac.eval (.tmp 65) = (.int .i64 (A.length : Int)) := hd 13 rfl
        rw [if_pos (wanted_some rfl (yielded_of rfl d62))]
        exact ob_bin _ rfl rfl rfl (Nat.lt_of_lt_of_eq (by decide : 66 < 175) hsz.symm) rfl d63 d65 (gtr_int hra) (Below.refl _ _) rfl
      · intro ac wc hC hsz hfr hd hpr
        have d62 : ac.eval (.tmp 62) = (.bool false) := hd 10 rfl
        have d66 : ac.eval (.tmp 66) = (.bool false) := hd 14 rfl
        rw [if_pos (wanted_none rfl)]
        exact ob_pick rfl rfl rfl (Nat.lt_of_lt_of_eq (by decide : 67 < 175) hsz.symm) rfl d62 (Below.refl _ _) d66
      · intro ac wc hC hsz hfr hd hpr
        have d67 : ac.eval (.tmp 67) = (.bool false) := hd 15 rfl
        rw [if_pos (wanted_none rfl)]
        exact ob_copy rfl rfl rfl (Nat.lt_of_lt_of_eq (by decide : 68 < 175) hsz.symm) (Or.inl rfl) (Below.refl _ _) d67
      · intro ac wc hC hsz hfr hd hpr
        have d68 : ac.eval (.tmp 68) = (.bool false) := hd 16 rfl
        have d9 : ac.eval (.tmp 9) = (.pointer (some ⟨gg, 0, none⟩)) := hfr 9 rfl
        rw [if_pos (wanted_some rfl (yielded_of rfl d68))]
        exact ob_load _ rfl rfl rfl (Nat.lt_of_lt_of_eq (by decide : 69 < 175) hsz.symm) rfl d9 (load_grid (KG.out.go hC)) (Below.refl _ _) rfl
      · intro ac wc hC hsz hfr hd hpr
        have d68 : ac.eval (.tmp 68) = (.bool false) := hd 16 rfl
        have d69 : ac.eval (.tmp 69) = (.agg #[.int .i64 (m : Int), .slice ga A.length gc]) := hd 17 rfl
        rw [if_pos (wanted_some rfl (yielded_of rfl d68))]
        refine ob_call rfl rfl rfl (Nat.lt_of_lt_of_eq (by decide : 70 < 175) hsz.symm) rfl (enter_of Try.func22 (by kernel_rfl) rfl) ?_
        show Calls Try.prog 22 #[ac.eval (.tmp 69)] wc _
        rw [d69]
        exact (gturned_any _ m A wc ⟨ga, gc, rfl, HGA.out.go hC⟩ HAO.out HAW.out (by omega) (by omega)).mono fun _ _ h => h.grid
      · intro ac wc hC hsz hfr hd hpr
        have d68 : ac.eval (.tmp 68) = (.bool false) := hd 16 rfl
        have d70 : IsGrid wc (ac.eval (.tmp 70)) (A.length : Int) (turnedL A m) := hd 18 rfl
        rw [if_pos (wanted_some rfl (yielded_of rfl d68))]
        refine ob_call rfl rfl rfl (Nat.lt_of_lt_of_eq (by decide : 71 < 175) hsz.symm) rfl (enter_of Try.func22 (by kernel_rfl) rfl) ?_
        show Calls Try.prog 22 #[ac.eval (.tmp 70)] wc _
        exact HTT.out _ wc d70
      · intro ac wc hC hsz hfr hd hpr
        have d68 : ac.eval (.tmp 68) = (.bool false) := hd 16 rfl
        have d9 : ac.eval (.tmp 9) = (.pointer (some ⟨gg, 0, none⟩)) := hfr 9 rfl
        rw [if_pos (wanted_some rfl (yielded_of rfl d68))]
        exact ob_load _ rfl rfl rfl (Nat.lt_of_lt_of_eq (by decide : 72 < 175) hsz.symm) rfl d9 (load_grid (KG.out.go hC)) (Below.refl _ _) rfl
      · intro ac wc hC hsz hfr hd hpr
        have d68 : ac.eval (.tmp 68) = (.bool false) := hd 16 rfl
        have d71 : IsGrid wc (ac.eval (.tmp 71)) (m : Int) A := hd 19 rfl
        have d72 : ac.eval (.tmp 72) = (.agg #[.int .i64 (m : Int), .slice ga A.length gc]) := hd 20 rfl
        rw [if_pos (wanted_some rfl (yielded_of rfl d68))]
        refine ob_call rfl rfl rfl (Nat.lt_of_lt_of_eq (by decide : 73 < 175) hsz.symm) rfl (enter_of Try.func18 (by kernel_rfl) rfl) ?_
        show Calls Try.prog 18 #[ac.eval (.tmp 71), ac.eval (.tmp 72)] wc _
        rw [d72]
        exact (HSM.out ga gc _ wc d71 (HGA.out.go hC)).mono fun _ _ ⟨he, hb⟩ => ⟨_, he, rfl, hb⟩
      · intro ac wc hC hsz hfr hd hpr
        have d68 : ac.eval (.tmp 68) = (.bool false) := hd 16 rfl
        have d73 : ac.eval (.tmp 73) = (.bool true) := hd 21 rfl
        rw [if_pos (wanted_some rfl (yielded_of rfl d68))]
        exact ob_not rfl rfl rfl (Nat.lt_of_lt_of_eq (by decide : 74 < 175) hsz.symm) rfl d73 (Below.refl _ _) rfl
      · intro ac wc hC hsz hfr hd hpr
        have d68 : ac.eval (.tmp 68) = (.bool false) := hd 16 rfl
        have d74 : ac.eval (.tmp 74) = (.bool false) := hd 22 rfl
        rw [if_pos (wanted_some rfl (yielded_of rfl d68))]
        exact ob_copy rfl rfl rfl (Nat.lt_of_lt_of_eq (by decide : 75 < 175) hsz.symm) (Or.inl rfl) (Below.refl _ _) d74
      · intro ac wc hC hsz hfr hd hpr
        have d75 : ac.eval (.tmp 75) = (.bool false) := hd 23 rfl
        have d11 : ac.eval (.tmp 11) = (.int .i64 (m : Int)) := hfr 11 rfl
        rw [if_neg (unwanted_some rfl (yielded_of rfl d75) (by decide))]
        exact ⟨Below.refl _ _, trivial⟩
      · intro ac wc hC hsz hfr hd hpr
        have d75 : ac.eval (.tmp 75) = (.bool false) := hd 23 rfl
        rw [if_neg (unwanted_some rfl (yielded_of rfl d75) (by decide))]
        exact ⟨Below.refl _ _, trivial⟩
      · intro ac wc hC hsz hfr hd hpr
        have d68 : ac.eval (.tmp 68) = (.bool false) := hd 16 rfl
        have d75 : ac.eval (.tmp 75) = (.bool false) := hd 23 rfl
        rw [if_pos (wanted_some rfl (yielded_of rfl d68))]
        exact ob_pick rfl rfl rfl (Nat.lt_of_lt_of_eq (by decide : 78 < 175) hsz.symm) rfl d75 (Below.refl _ _) rfl
      · intro ac wc hC hsz hfr hd hpr
        have d68 : ac.eval (.tmp 68) = (.bool false) := hd 16 rfl
        have d78 : ac.eval (.tmp 78) = (.bool false) := hd 26 rfl
        rw [if_pos (wanted_some rfl (yielded_of rfl d68))]
        exact ob_copy rfl rfl rfl (Nat.lt_of_lt_of_eq (by decide : 79 < 175) hsz.symm) (Or.inl rfl) (Below.refl _ _) d78
      · intro ac wc hC hsz hfr hd hpr
        have d79 : ac.eval (.tmp 79) = (.bool false) := hd 27 rfl
        have d10 : ac.eval (.tmp 10) = (.slice ra A.length rc) := hfr 10 rfl
        rw [if_neg (unwanted_some rfl (yielded_of rfl d79) (by decide))]
        exact ⟨Below.refl _ _, trivial⟩
      · intro ac wc hC hsz hfr hd hpr
        have d79 : ac.eval (.tmp 79) = (.bool false) := hd 27 rfl
        rw [if_neg (unwanted_some rfl (yielded_of rfl d79) (by decide))]
        exact ⟨Below.refl _ _, trivial⟩
      · intro ac wc hC hsz hfr hd hpr
        have d79 : ac.eval (.tmp 79) = (.bool false) := hd 27 rfl
        rw [if_neg (unwanted_some rfl (yielded_of rfl d79) (by decide))]
        exact ⟨Below.refl _ _, trivial⟩
      · intro ac wc hC hsz hfr hd hpr
        have d68 : ac.eval (.tmp 68) = (.bool false) := hd 16 rfl
        have d79 : ac.eval (.tmp 79) = (.bool false) := hd 27 rfl
        rw [if_pos (wanted_some rfl (yielded_of rfl d68))]
        exact ob_pick rfl rfl rfl (Nat.lt_of_lt_of_eq (by decide : 83 < 175) hsz.symm) rfl d79 (Below.refl _ _) rfl
      · intro ac wc hC hsz hfr hd hpr
        have d68 : ac.eval (.tmp 68) = (.bool false) := hd 16 rfl
        have d83 : ac.eval (.tmp 83) = (.bool false) := hd 31 rfl
        rw [if_pos (wanted_none rfl)]
        exact ob_pick rfl rfl rfl (Nat.lt_of_lt_of_eq (by decide : 84 < 175) hsz.symm) rfl d68 (Below.refl _ _) d83
    intro a' W10 hC hdef hsz hfr hd
    have e52 : a'.eval (.tmp 52) = (.int .i64 (r : Int)) := hd 0 (by decide)
    have e53 : a'.eval (.tmp 53) = (.agg #[.int .i64 (m : Int), .slice ga A.length gc]) := hd 1 (by decide)
    obtain ⟨x54, e54, r54⟩ : ∃ xq_, a'.eval (.tmp 54) = xq_ ∧ IsGrid W10 (xq_) (A.length : Int) (turnedL A m) := ⟨_, rfl, hd 2 (by decide)⟩
    replace r54 := Lib.hid r54
    have e55 : a'.eval (.tmp 55) = (.int .i64 (r : Int)) := hd 3 (by decide)
    have e56 : a'.eval (.tmp 56) = (.bool false) := hd 4 (by decide)
    have e57 : a'.eval (.tmp 57) = (.bool false) := hd 5 (by decide)
    have e58 : a'.eval (.tmp 58) = (.int .i64 (r : Int)) := hd 6 (by decide)
    have e59 : a'.eval (.tmp 59) = (.int .i64 (m : Int)) := hd 7 (by decide)
    have e60 : a'.eval (.tmp 60) = (.bool false) := hd 8 (by decide)
    have e61 : a'.eval (.tmp 61) = (.bool false) := hd 9 (by decide)
    have e62 : a'.eval (.tmp 62) = (.bool false) := hd 10 (by decide)
    have e63 : a'.eval (.tmp 63) = (.int .i64 (r : Int)) := hd 11 (by decide)
    have e64 : a'.eval (.tmp 64) = (.slice ra A.length rc) := hd 12 (by decide)
    have e65 : a'.eval (.tmp 65) = (.int .i64 (A.length : Int)) := hd 13 (by decide)
    have e66 : a'.eval (.tmp 66) = (.bool false) := hd 14 (by decide)
    have e67 : a'.eval (.tmp 67) = (.bool false) := hd 15 (by decide)
    have e68 : a'.eval (.tmp 68) = (.bool false) := hd 16 (by decide)
    have e69 : a'.eval (.tmp 69) = (.agg #[.int .i64 (m : Int), .slice ga A.length gc]) := hd 17 (by decide)
    obtain ⟨x70, e70, r70⟩ : ∃ xq_, a'.eval (.tmp 70) = xq_ ∧ IsGrid W10 (xq_) (A.length : Int) (turnedL A m) := ⟨_, rfl, hd 18 (by decide)⟩
    replace r70 := Lib.hid r70
    obtain ⟨x71, e71, r71⟩ : ∃ xq_, a'.eval (.tmp 71) = xq_ ∧ IsGrid W10 (xq_) (m : Int) A := ⟨_, rfl, hd 19 (by decide)⟩
    replace r71 := Lib.hid r71
    have e72 : a'.eval (.tmp 72) = (.agg #[.int .i64 (m : Int), .slice ga A.length gc]) := hd 20 (by decide)
    have e73 : a'.eval (.tmp 73) = (.bool true) := hd 21 (by decide)
    have e74 : a'.eval (.tmp 74) = (.bool false) := hd 22 (by decide)
    have e75 : a'.eval (.tmp 75) = (.bool false) := hd 23 (by decide)
    obtain ⟨x76, e76⟩ : ∃ x, a'.eval (.tmp 76) = x := ⟨_, rfl⟩
    obtain ⟨x77, e77⟩ : ∃ x, a'.eval (.tmp 77) = x := ⟨_, rfl⟩
    have e78 : a'.eval (.tmp 78) = (.bool false) := hd 26 (by decide)
    have e79 : a'.eval (.tmp 79) = (.bool false) := hd 27 (by decide)
    obtain ⟨x80, e80⟩ : ∃ x, a'.eval (.tmp 80) = x := ⟨_, rfl⟩
    obtain ⟨x81, e81⟩ : ∃ x, a'.eval (.tmp 81) = x := ⟨_, rfl⟩
    obtain ⟨x82, e82⟩ : ∃ x, a'.eval (.tmp 82) = x := ⟨_, rfl⟩
    have e83 : a'.eval (.tmp 83) = (.bool false) := hd 31 (by decide)
    have e84 : a'.eval (.tmp 84) = (.bool false) := hd 32 (by decide)
    have hact := act_puts hdef hsz hfr
    simp only [dstsOf, List.filterMap, putAll, Act.put, List.setIfInBounds_toArray, List.set_cons_succ, List.set_cons_zero, e52, e53, e54, e55, e56, e57, e58, e59, e60, e61, e62, e63, e64, e65, e66, e67, e68, e69, e70, e71, e72, e73, e74, e75, e76, e77, e78, e79, e80, e81, e82, e83, e84] at hact
    clear hd hfr hsz hdef e52 e53 e54 e55 e56 e57 e58 e59 e60 e61 e62 e63 e64 e65 e66 e67 e68 e69 e70 e71 e72 e73 e74 e75 e76 e77 e78 e79 e80 e81 e82 e83 e84
    subst hact
    replace HGA := Lib.hid (HGA.out.go hC)
    replace HRA := Lib.hid (HRA.out.go hC)
    replace HGC := Lib.hid (HGC.out.go hC)
    replace HRC := Lib.hid (HRC.out.go hC)
    replace KG := Lib.hid (KG.out.go hC)
    replace KO := Lib.hid (KO.out.go hC)
    replace B := B.trans (hC.mono B.size)
    obtain ⟨kg0, kg1⟩ := KG.out.two
    have kgl := KG.out.lt
    obtain ⟨ko0, ko1⟩ := KO.out.two
    have kol := KO.out.lt
    go_wp2_with fail
    clear kg0 kg1 kgl ko0 ko1 kol
    refine (gmul_any _ _ m k A C _ ⟨ga, gc, rfl, HGA.out⟩ ⟨oa, oc, rfl, HGC.out⟩ (wide_at HAW.out) (wide_at HCW.out) (by omega) (by omega) HAK.out).mono ?_
    rintro e w11 ⟨u11, rfl, hu11, hb⟩
    replace HGA := Lib.hid (HGA.out.go hb)
    replace HRA := Lib.hid (HRA.out.go hb)
    replace HGC := Lib.hid (HGC.out.go hb)
    replace HRC := Lib.hid (HRC.out.go hb)
    replace KG := Lib.hid (KG.out.go hb)
    replace KO := Lib.hid (KO.out.go hb)
    replace B := B.trans (hb.mono B.size)
    have hzw11 := B.size
    clear hb
    rw [HMC.out]
    rw [HMM.out, HMR.out] at hu11
    obtain ⟨v11, rfl, hq11⟩ := hu11
    obtain ⟨pa, pc, rfl⟩ := hq11.shape
    have HP := Lib.hid hq11.rows
    clear hq11
    go_wp2_with fail
    obtain ⟨hb, hk, hs⟩ := blocks1 w11 #[.int .i64 0, .slice pa 0 pc] 26
    generalize w11.alloc (.cells #[.int .i64 0, .slice pa 0 pc] 26) = W12 at *
    have KP := Lib.hid hk
    replace HGA := Lib.hid (HGA.out.go hb)
    replace HRA := Lib.hid (HRA.out.go hb)
    replace HGC := Lib.hid (HGC.out.go hb)
    replace HRC := Lib.hid (HRC.out.go hb)
    replace KG := Lib.hid (KG.out.go hb)
    replace KO := Lib.hid (KO.out.go hb)
    replace HP := Lib.hid (HP.out.go hb)
    replace B := B.trans (hb.mono B.size)
    have hzW12 := B.size
    clear hb hk hs
    obtain ⟨gp, hgp⟩ : ∃ gp : Nat, gp = w11.heap.size := ⟨_, rfl⟩
    rw [← hgp] at KP
    simp only [← hgp]
    clear hgp
    refine wp_region_mono (C := Cb W12) (R := Rb) (H := Hz) [TyZ.val 91 (I64 4), TyZ.val 92 (.bool false), TyZ.val 93 (.bool false), TyZ.any, TyZ.any, TyZ.any, TyZ.any, TyZ.val 98 undef, TyZ.any, TyZ.any, TyZ.any, TyZ.any, TyZ.any, TyZ.any, TyZ.val 105 (.bool false)] (by kernel_rfl) (hC_b W12) (hCH_z W12) (drew_b W12) ⟨trivial, trivial, trivial, trivial, trivial, trivial, trivial, trivial, trivial, trivial, trivial, trivial, trivial, trivial, trivial, trivial⟩ (by kernel_rfl) ?_ ?_
    · refine ⟨?_, ?_, ?_, ?_, ?_, ?_, ?_, ?_, ?_, ?_, ?_, ?_, ?_, ?_, ?_, trivial⟩
      · intro ac wc hC hsz hfr hd hpr
        have d17 : ac.eval (.tmp 17) = I64 4 := hfr 17 rfl
        rw [if_pos (wanted_none rfl)]
        exact ob_copy rfl rfl rfl (Nat.lt_of_lt_of_eq (by decide : 91 < 175) hsz.symm) (Or.inl rfl) (Below.refl _ _) d17
      · intro ac wc hC hsz hfr hd hpr
        have d91 : ac.eval (.tmp 91) = I64 4 := hd 0 rfl
        rw [if_pos (wanted_none rfl)]
        exact ob_bin _ rfl rfl rfl (Nat.lt_of_lt_of_eq (by decide : 92 < 175) hsz.symm) rfl d91 rfl (eql_err rfl) (Below.refl _ _) rfl
      · intro ac wc hC hsz hfr hd hpr
        have d92 : ac.eval (.tmp 92) = (.bool false) := hd 1 rfl
        rw [if_pos (wanted_none rfl)]
        exact ob_copy rfl rfl rfl (Nat.lt_of_lt_of_eq (by decide : 93 < 175) hsz.symm) (Or.inl rfl) (Below.refl _ _) d92
      · intro ac wc hC hsz hfr hd hpr
        have d93 : ac.eval (.tmp 93) = (.bool false) := hd 2 rfl
        have d16 : ac.eval (.tmp 16) = (.pointer (some ⟨gp, 0, none⟩)) := hfr 16 rfl
        rw [if_neg (unwanted_some rfl (yielded_of rfl d93) (by decide))]
        exact ⟨Below.refl _ _, trivial⟩
      · intro ac wc hC hsz hfr hd hpr
        have d93 : ac.eval (.tmp 93) = (.bool false) := hd 2 rfl
        rw [if_neg (unwanted_some rfl (yielded_of rfl d93) (by decide))]
        exact ⟨Below.refl _ _, trivial⟩
      · intro ac wc hC hsz hfr hd hpr
        have d93 : ac.eval (.tmp 93) = (.bool false) := hd 2 rfl
        have d15 : ac.eval (.tmp 15) = (.int .i64 (r : Int)) := hfr 15 rfl
        rw [if_neg (unwanted_some rfl (yielded_of rfl d93) (by decide))]
        exact ⟨Below.refl _ _, trivial⟩
      · intro ac wc hC hsz hfr hd hpr
        have d93 : ac.eval (.tmp 93) = (.bool false) := hd 2 rfl
        rw [if_neg (unwanted_some rfl (yielded_of rfl d93) (by decide))]
        exact ⟨Below.refl _ _, trivial⟩
      · intro ac wc hC hsz hfr hd hpr
        have d93 : ac.eval (.tmp 93) = (.bool false) := hd 2 rfl
        rw [if_neg (unwanted_some rfl (yielded_of rfl d93) (by decide))]
        exact ⟨Below.refl _ _, eval_put_eq (Nat.lt_of_lt_of_eq (by decide : 98 < 175) hsz.symm)⟩
      · intro ac wc hC hsz hfr hd hpr
        have d98 : ac.eval (.tmp 98) = undef := hd 7 rfl
        have d16 : ac.eval (.tmp 16) = (.pointer (some ⟨gp, 0, none⟩)) := hfr 16 rfl
        rw [if_neg (unwanted_none rfl (unyielded_of rfl d98))]
        exact ⟨Below.refl _ _, trivial⟩
      · intro ac wc hC hsz hfr hd hpr
        have d98 : ac.eval (.tmp 98) = undef := hd 7 rfl
        rw [if_neg (unwanted_none rfl (unyielded_of rfl d98))]
        exact ⟨Below.refl _ _, trivial⟩
      · intro ac wc hC hsz hfr hd hpr
        have d98 : ac.eval (.tmp 98) = undef := hd 7 rfl
        have d12 : ac.eval (.tmp 12) = (.pointer (some ⟨go, 0, none⟩)) := hfr 12 rfl
        rw [if_neg (unwanted_none rfl (unyielded_of rfl d98))]
        exact ⟨Below.refl _ _, trivial⟩
      · intro ac wc hC hsz hfr hd hpr
        have d98 : ac.eval (.tmp 98) = undef := hd 7 rfl
        rw [if_neg (unwanted_none rfl (unyielded_of rfl d98))]
        exact ⟨Below.refl _ _, trivial⟩
      · intro ac wc hC hsz hfr hd hpr
        have d98 : ac.eval (.tmp 98) = undef := hd 7 rfl
        rw [if_neg (unwanted_none rfl (unyielded_of rfl d98))]
        exact ⟨Below.refl _ _, trivial⟩
      · intro ac wc hC hsz hfr hd hpr
        have d93 : ac.eval (.tmp 93) = (.bool false) := hd 2 rfl
        have d98 : ac.eval (.tmp 98) = undef := hd 7 rfl
        rw [if_neg (unwanted_some rfl (yielded_of rfl d93) (by decide))]
        exact ⟨Below.refl _ _, trivial⟩
      · intro ac wc hC hsz hfr hd hpr
        have d93 : ac.eval (.tmp 93) = (.bool false) := hd 2 rfl
        rw [if_pos (wanted_none rfl)]
        exact ob_pick rfl rfl rfl (Nat.lt_of_lt_of_eq (by decide : 105 < 175) hsz.symm) rfl d93 (Below.refl _ _) rfl
    intro a' W13 hC hdef hsz hfr hd
    have e91 : a'.eval (.tmp 91) = I64 4 := hd 0 (by decide)
    have e92 : a'.eval (.tmp 92) = (.bool false) := hd 1 (by decide)
    have e93 : a'.eval (.tmp 93) = (.bool false) := hd 2 (by decide)
    obtain ⟨x94, e94⟩ : ∃ x, a'.eval (.tmp 94) = x := ⟨_, rfl⟩
    obtain ⟨x95, e95⟩ : ∃ x, a'.eval (.tmp 95) = x := ⟨_, rfl⟩
    obtain ⟨x96, e96⟩ : ∃ x, a'.eval (.tmp 96) = x := ⟨_, rfl⟩
    obtain ⟨x97, e97⟩ : ∃ x, a'.eval (.tmp 97) = x := ⟨_, rfl⟩
    have e98 : a'.eval (.tmp 98) = undef := hd 7 (by decide)
    obtain ⟨x99, e99⟩ : ∃ x, a'.eval (.tmp 99) = x := ⟨_, rfl⟩
    obtain ⟨x100, e100⟩ : ∃ x, a'.eval (.tmp 100) = x := ⟨_, rfl⟩
    obtain ⟨x101, e101⟩ : ∃ x, a'.eval (.tmp 101) = x := ⟨_, rfl⟩
    obtain ⟨x102, e102⟩ : ∃ x, a'.eval (.tmp 102) = x := ⟨_, rfl⟩
    obtain ⟨x103, e103⟩ : ∃ x, a'.eval (.tmp 103) = x := ⟨_, rfl⟩
    obtain ⟨x104, e104⟩ : ∃ x, a'.eval (.tmp 104) = x := ⟨_, rfl⟩
    have e105 : a'.eval (.tmp 105) = (.bool false) := hd 14 (by decide)
    have hact := act_puts hdef hsz hfr
    simp only [dstsOf, List.filterMap, putAll, Act.put, List.setIfInBounds_toArray, List.set_cons_succ, List.set_cons_zero, e91, e92, e93, e94, e95, e96, e97, e98, e99, e100, e101, e102, e103, e104, e105] at hact
    clear hd hfr hsz hdef e91 e92 e93 e94 e95 e96 e97 e98 e99 e100 e101 e102 e103 e104 e105
    subst hact
    replace HGA := Lib.hid (HGA.out.go hC)
    replace HRA := Lib.hid (HRA.out.go hC)
    replace HGC := Lib.hid (HGC.out.go hC)
    replace HRC := Lib.hid (HRC.out.go hC)
    replace KG := Lib.hid (KG.out.go hC)
    replace KO := Lib.hid (KO.out.go hC)
    replace HP := Lib.hid (HP.out.go hC)
    replace KP := Lib.hid (KP.out.go hC)
    replace B := B.trans (hC.mono B.size)
    rcases hcase with hsq | ⟨hsq, hrm⟩ | ⟨hsq, hrm⟩
    · have HSQ := Lib.hid hsq
      have hsq1 : ((m : Int) == (A.length : Int)) = false := by rw [beq_eq_false_iff_ne]; omega
      have hsq2 : ((m : Int) != (A.length : Int)) = true := by rw [bne_iff_ne]; omega
      clear hsq
      obtain ⟨kg0, kg1⟩ := KG.out.two
      have kgl := KG.out.lt
      go_wp2_with fail
      refine (ginv_no _ m A _ ⟨ga, gc, rfl, HGA.out⟩ HSQ.out).mono ?_
      rintro e w15 ⟨u15, rfl, hu15, hb⟩
      replace B := B.trans (hb.mono B.size)
      have hzw15 := B.size
      clear hb
      obtain ⟨v15, rfl, hq15⟩ := hu15
      obtain ⟨ia, ic, rfl⟩ := hq15.shape
      go_wp2_with fail
      go_ret
      exact ⟨rfl, B.alloc B.size _⟩
    · have hrm2 : (r : Int) < (m : Int) := by omega
      have HSA := Lib.hid (show Sq m A from ⟨hsq.symm, wide_at HAW.out⟩)
      have HSQ := Lib.hid hsq.symm
      have hsq1 : ((m : Int) == (A.length : Int)) = true := by rw [hsq]; simp
      have hsq2 : ((m : Int) != (A.length : Int)) = false := by rw [hsq]; simp
      clear hsq
      obtain ⟨kg0, kg1⟩ := KG.out.two
      have kgl := KG.out.lt
      by_cases hsix : (m : Int) ≤ 6
      · skip
        have hdz : detN m A = 0 := Nat.eq_zero_of_not_pos fun h => by
          have h2 := (det_rank HSA.out HAO.out).1 (Nat.pos_iff_ne_zero.1 h)
          have h3 := HRK.out
          omega
        have hds : ((r : Int) == (m : Int)) = false := by rw [beq_eq_false_iff_ne]; omega
        go_wp2_with fail
        refine (refdet_any m (by omega) _ A _ HRA.out HSA.out).mono ?_
        rintro e w14 ⟨rfl, hb⟩
        replace HGA := Lib.hid (HGA.out.go hb)
        replace HRA := Lib.hid (HRA.out.go hb)
        replace KG := Lib.hid (KG.out.go hb)
        replace B := B.trans (hb.mono B.size)
        have hzw14 := B.size
        clear hb
        rw [hdz]
        obtain ⟨kg0, kg1⟩ := KG.out.two
        have kgl := KG.out.lt
        go_wp2_with fail
        refine (ginv_lack _ m A _ ⟨ga, gc, rfl, HGA.out⟩ HSQ.out HAO.out HAW.out (by omega) (by rw [← HRK.out]; exact hrm)).mono ?_
        rintro e w15 ⟨u15, rfl, hu15, hb⟩
        replace B := B.trans (hb.mono B.size)
        have hzw15 := B.size
        clear hb
        obtain ⟨v15, rfl, hq15⟩ := hu15
        obtain ⟨ia, ic, rfl⟩ := hq15.shape
        go_wp2_with fail
        go_ret
        exact ⟨rfl, B.alloc B.size _⟩
      · skip
        go_wp2_with fail
        refine (ginv_lack _ m A _ ⟨ga, gc, rfl, HGA.out⟩ HSQ.out HAO.out HAW.out (by omega) (by rw [← HRK.out]; exact hrm)).mono ?_
        rintro e w15 ⟨u15, rfl, hu15, hb⟩
        replace B := B.trans (hb.mono B.size)
        have hzw15 := B.size
        clear hb
        obtain ⟨v15, rfl, hq15⟩ := hu15
        obtain ⟨ia, ic, rfl⟩ := hq15.shape
        go_wp2_with fail
        go_ret
        exact ⟨rfl, B.alloc B.size _⟩
    · have hrm2 : ¬ (r : Int) < (m : Int) := by omega
      have HSA := Lib.hid (show Sq m A from ⟨hsq.symm, wide_at HAW.out⟩)
      have HFU := Lib.hid (show rankL m A = m by rw [← HRK.out]; exact hrm)
      have HMA := Lib.hid hsq.symm
      have HIL := Lib.hid (invL_length HMA.out HAO.out HAW.out HFU.out)
      have HIW := Lib.hid (invL_wide HMA.out HAO.out HAW.out)
      have HIO := Lib.hid (invL_oct HMA.out HAO.out HAW.out)
      have HIR := Lib.hid (invL_rank HMA.out HAO.out HAW.out HFU.out)
      have HIB := Lib.hid (invL_back HMA.out HAO.out HAW.out HFU.out)
      have HNC := Lib.hid (show mulC m A = 0 from if_pos hsq)
      have HNM := Lib.hid (show mulM m A m = (m : Int) from if_pos hsq)
      have HNR := Lib.hid (show mulR m (invL A) A m = unitG m by unfold mulR; rw [if_pos hsq]; exact invL_left HMA.out HAO.out HAW.out HFU.out)
      have HAM := Lib.hid (show (invL A).length * m ≤ 65536 by
        have h1 := HIL.out
        have := Nat.mul_le_mul (show (invL A).length ≤ 30 by omega) hm30
        omega)
      have HUN := Lib.hid (unitG_length m)
      clear HMA hrm
      have HSQ := Lib.hid hsq.symm
      have hsq1 : ((m : Int) == (A.length : Int)) = true := by rw [hsq]; simp
      have hsq2 : ((m : Int) != (A.length : Int)) = false := by rw [hsq]; simp
      clear hsq
      obtain ⟨kg0, kg1⟩ := KG.out.two
      have kgl := KG.out.lt
      by_cases hsix : (m : Int) ≤ 6
      · skip
        have hdz : ((detN m A : Int) != 0) = true := by
          have h2 := (det_rank HSA.out HAO.out).2 HFU.out
          rw [bne_iff_ne]; omega
        have hds : ((r : Int) == (m : Int)) = true := by rw [beq_iff_eq]; have h3 := HRK.out; have h4 := HFU.out; omega
        go_wp2_with fail
        refine (refdet_any m (by omega) _ A _ HRA.out HSA.out).mono ?_
        rintro e w14 ⟨rfl, hb⟩
        replace HGA := Lib.hid (HGA.out.go hb)
        replace HRA := Lib.hid (HRA.out.go hb)
        replace KG := Lib.hid (KG.out.go hb)
        replace B := B.trans (hb.mono B.size)
        have hzw14 := B.size
        clear hb
        obtain ⟨kg0, kg1⟩ := KG.out.two
        have kgl := KG.out.lt
        go_wp2_with fail
        refine (ginv_full _ m A _ ⟨ga, gc, rfl, HGA.out⟩ HSQ.out HAO.out HAW.out (by omega) HFU.out).mono ?_
        rintro e w15 ⟨u15, rfl, hu15, hb⟩
        replace HGA := Lib.hid (HGA.out.go hb)
        replace KG := Lib.hid (KG.out.go hb)
        replace B := B.trans (hb.mono B.size)
        have hzw15 := B.size
        clear hb
        obtain ⟨v15, rfl, hq15⟩ := hu15
        obtain ⟨ia, ic, rfl⟩ := hq15.shape
        have HI := Lib.hid hq15.rows
        clear hq15
        obtain ⟨kg0, kg1⟩ := KG.out.two
        have kgl := KG.out.lt
        go_wp2_with fail
        clear kg0 kg1 kgl
        obtain ⟨hb, hk, hs⟩ := blocks1 w15 #[.int .i64 (m : Int), .slice ia (invL A).length ic] 26
        generalize w15.alloc (.cells #[.int .i64 (m : Int), .slice ia (invL A).length ic] 26) = W16 at *
        have KI := Lib.hid hk
        replace HI := Lib.hid (HI.out.go hb)
        replace HGA := Lib.hid (HGA.out.go hb)
        replace KG := Lib.hid (KG.out.go hb)
        replace B := B.trans (hb.mono B.size)
        have hzW16 := B.size
        clear hb hk hs
        refine (ginv_full _ m (invL A) _ ⟨ia, ic, rfl, HI.out⟩ HIL.out HIO.out HIW.out (by omega) HIR.out).mono ?_
        rintro e w17 ⟨u17, rfl, hu17, hb⟩
        replace HI := Lib.hid (HI.out.go hb)
        replace HGA := Lib.hid (HGA.out.go hb)
        replace KG := Lib.hid (KG.out.go hb)
        replace KI := Lib.hid (KI.out.go hb)
        replace B := B.trans (hb.mono B.size)
        have hzw17 := B.size
        clear hb
        rw [HIB.out] at hu17
        obtain ⟨v17, rfl, hq17⟩ := hu17
        obtain ⟨ja, jc, rfl⟩ := hq17.shape
        have HJ := Lib.hid hq17.rows
        clear hq17
        obtain ⟨kg0, kg1⟩ := KG.out.two
        have kgl := KG.out.lt
        obtain ⟨ki0, ki1⟩ := KI.out.two
        have kil := KI.out.lt
        go_wp2_with fail
        clear kg0 kg1 kgl ki0 ki1 kil
        obtain ⟨hb, hk, hs⟩ := blocks1 w17 #[.int .i64 (m : Int), .slice ja A.length jc] 26
        generalize w17.alloc (.cells #[.int .i64 (m : Int), .slice ja A.length jc] 26) = W18 at *
        have KJ := Lib.hid hk
        replace HI := Lib.hid (HI.out.go hb)
        replace HGA := Lib.hid (HGA.out.go hb)
        replace KG := Lib.hid (KG.out.go hb)
        replace KI := Lib.hid (KI.out.go hb)
        replace HJ := Lib.hid (HJ.out.go hb)
        replace B := B.trans (hb.mono B.size)
        have hzW18 := B.size
        clear hb hk hs
        refine (gmul_any _ _ m m (invL A) A _ ⟨ia, ic, rfl, HI.out⟩ ⟨ga, gc, rfl, HGA.out⟩ (wide_at HIW.out) (wide_at HAW.out) (by omega) (by have := HIL.out; omega) HAM.out).mono ?_
        rintro e w19 ⟨u19, rfl, hu19, hb⟩
        replace HGA := Lib.hid (HGA.out.go hb)
        replace KG := Lib.hid (KG.out.go hb)
        replace HJ := Lib.hid (HJ.out.go hb)
        replace KJ := Lib.hid (KJ.out.go hb)
        replace B := B.trans (hb.mono B.size)
        have hzw19 := B.size
        clear hb
        rw [HNC.out]
        rw [HNM.out, HNR.out] at hu19
        obtain ⟨v19, rfl, hq19⟩ := hu19
        obtain ⟨ka, kc, rfl⟩ := hq19.shape
        have HX := Lib.hid hq19.rows
        clear hq19
        obtain ⟨kg0, kg1⟩ := KG.out.two
        have kgl := KG.out.lt
        obtain ⟨kj0, kj1⟩ := KJ.out.two
        have kjl := KJ.out.lt
        go_wp2_with fail
        clear kg0 kg1 kgl kj0 kj1 kjl
        obtain ⟨hb, hk, hs⟩ := blocks1 w19 #[.int .i64 (m : Int), .slice ka (unitG m).length kc] 26
        generalize w19.alloc (.cells #[.int .i64 (m : Int), .slice ka (unitG m).length kc] 26) = W20 at *
        have KX := Lib.hid hk
        replace HGA := Lib.hid (HGA.out.go hb)
        replace KG := Lib.hid (KG.out.go hb)
        replace HJ := Lib.hid (HJ.out.go hb)
        replace KJ := Lib.hid (KJ.out.go hb)
        replace HX := Lib.hid (HX.out.go hb)
        replace B := B.trans (hb.mono B.size)
        have hzW20 := B.size
        clear hb hk hs
        refine (gunit_in m _ (by omega)).mono ?_
        rintro e w21 ⟨u21, rfl, hu21, hb⟩
        replace HGA := Lib.hid (HGA.out.go hb)
        replace KG := Lib.hid (KG.out.go hb)
        replace HJ := Lib.hid (HJ.out.go hb)
        replace KJ := Lib.hid (KJ.out.go hb)
        replace HX := Lib.hid (HX.out.go hb)
        replace KX := Lib.hid (KX.out.go hb)
        replace B := B.trans (hb.mono B.size)
        have hzw21 := B.size
        clear hb
        obtain ⟨v21, rfl, hq21⟩ := hu21
        obtain ⟨ea, ec, rfl⟩ := hq21.shape
        have HU := Lib.hid hq21.rows
        clear hq21
        obtain ⟨kg0, kg1⟩ := KG.out.two
        have kgl := KG.out.lt
        obtain ⟨kj0, kj1⟩ := KJ.out.two
        have kjl := KJ.out.lt
        obtain ⟨kx0, kx1⟩ := KX.out.two
        have kxl := KX.out.lt
        go_wp2_with fail
        clear kg0 kg1 kgl kj0 kj1 kjl kx0 kx1 kxl
        obtain ⟨hb, hk, hs⟩ := blocks1 w21 #[.int .i64 (m : Int), .slice ea (unitG m).length ec] 26
        generalize w21.alloc (.cells #[.int .i64 (m : Int), .slice ea (unitG m).length ec] 26) = W22 at *
        have KU := Lib.hid hk
        replace HGA := Lib.hid (HGA.out.go hb)
        replace KG := Lib.hid (KG.out.go hb)
        replace HJ := Lib.hid (HJ.out.go hb)
        replace KJ := Lib.hid (KJ.out.go hb)
        replace HX := Lib.hid (HX.out.go hb)
        replace KX := Lib.hid (KX.out.go hb)
        replace HU := Lib.hid (HU.out.go hb)
        replace B := B.trans (hb.mono B.size)
        have hzW22 := B.size
        clear hb hk hs
        refine (gridsame_any _ _ (m : Int) (m : Int) A A _ ⟨ja, jc, rfl, HJ.out⟩ ⟨ga, gc, rfl, HGA.out⟩ (by omega)).mono ?_
        rintro e w23 ⟨rfl, hb⟩
        replace HX := Lib.hid (HX.out.go hb)
        replace KX := Lib.hid (KX.out.go hb)
        replace HU := Lib.hid (HU.out.go hb)
        replace KU := Lib.hid (KU.out.go hb)
        replace B := B.trans (hb.mono B.size)
        have hzw23 := B.size
        clear hb
        rw [show decide ((m : Int) = (m : Int) ∧ A = A) = true from decide_eq_true ⟨rfl, rfl⟩]
        obtain ⟨kx0, kx1⟩ := KX.out.two
        have kxl := KX.out.lt
        obtain ⟨ku0, ku1⟩ := KU.out.two
        have kul := KU.out.lt
        go_wp2_with fail
        clear kx0 kx1 kxl ku0 ku1 kul
        refine (gridsame_any _ _ (m : Int) (m : Int) (unitG m) (unitG m) _ ⟨ka, kc, rfl, HX.out⟩ ⟨ea, ec, rfl, HU.out⟩ (by have := HUN.out; omega)).mono ?_
        rintro e w24 ⟨rfl, hb⟩
        replace B := B.trans (hb.mono B.size)
        have hzw24 := B.size
        clear hb
        rw [show decide ((m : Int) = (m : Int) ∧ unitG m = unitG m) = true from decide_eq_true ⟨rfl, rfl⟩]
        go_wp2_with fail
        go_ret
        exact ⟨rfl, B⟩
      · skip
        go_wp2_with fail
        refine (ginv_full _ m A _ ⟨ga, gc, rfl, HGA.out⟩ HSQ.out HAO.out HAW.out (by omega) HFU.out).mono ?_
        rintro e w15 ⟨u15, rfl, hu15, hb⟩
        replace HGA := Lib.hid (HGA.out.go hb)
        replace KG := Lib.hid (KG.out.go hb)
        replace B := B.trans (hb.mono B.size)
        have hzw15 := B.size
        clear hb
        obtain ⟨v15, rfl, hq15⟩ := hu15
        obtain ⟨ia, ic, rfl⟩ := hq15.shape
        have HI := Lib.hid hq15.rows
        clear hq15
        obtain ⟨kg0, kg1⟩ := KG.out.two
        have kgl := KG.out.lt
        go_wp2_with fail
        clear kg0 kg1 kgl
        obtain ⟨hb, hk, hs⟩ := blocks1 w15 #[.int .i64 (m : Int), .slice ia (invL A).length ic] 26
        generalize w15.alloc (.cells #[.int .i64 (m : Int), .slice ia (invL A).length ic] 26) = W16 at *
        have KI := Lib.hid hk
        replace HI := Lib.hid (HI.out.go hb)
        replace HGA := Lib.hid (HGA.out.go hb)
        replace KG := Lib.hid (KG.out.go hb)
        replace B := B.trans (hb.mono B.size)
        have hzW16 := B.size
        clear hb hk hs
        refine (ginv_full _ m (invL A) _ ⟨ia, ic, rfl, HI.out⟩ HIL.out HIO.out HIW.out (by omega) HIR.out).mono ?_
        rintro e w17 ⟨u17, rfl, hu17, hb⟩
        replace HI := Lib.hid (HI.out.go hb)
        replace HGA := Lib.hid (HGA.out.go hb)
        replace KG := Lib.hid (KG.out.go hb)
        replace KI := Lib.hid (KI.out.go hb)
        replace B := B.trans (hb.mono B.size)
        have hzw17 := B.size
        clear hb
        rw [HIB.out] at hu17
        obtain ⟨v17, rfl, hq17⟩ := hu17
        obtain ⟨ja, jc, rfl⟩ := hq17.shape
        have HJ := Lib.hid hq17.rows
        clear hq17
        obtain ⟨kg0, kg1⟩ := KG.out.two
        have kgl := KG.out.lt
        obtain ⟨ki0, ki1⟩ := KI.out.two
        have kil := KI.out.lt
        go_wp2_with fail
        clear kg0 kg1 kgl ki0 ki1 kil
        obtain ⟨hb, hk, hs⟩ := blocks1 w17 #[.int .i64 (m : Int), .slice ja A.length jc] 26
        generalize w17.alloc (.cells #[.int .i64 (m : Int), .slice ja A.length jc] 26) = W18 at *
        have KJ := Lib.hid hk
        replace HI := Lib.hid (HI.out.go hb)
        replace HGA := Lib.hid (HGA.out.go hb)
        replace KG := Lib.hid (KG.out.go hb)
        replace KI := Lib.hid (KI.out.go hb)
        replace HJ := Lib.hid (HJ.out.go hb)
        replace B := B.trans (hb.mono B.size)
        have hzW18 := B.size
        clear hb hk hs
        refine (gmul_any _ _ m m (invL A) A _ ⟨ia, ic, rfl, HI.out⟩ ⟨ga, gc, rfl, HGA.out⟩ (wide_at HIW.out) (wide_at HAW.out) (by omega) (by have := HIL.out; omega) HAM.out).mono ?_
        rintro e w19 ⟨u19, rfl, hu19, hb⟩
        replace HGA := Lib.hid (HGA.out.go hb)
        replace KG := Lib.hid (KG.out.go hb)
        replace HJ := Lib.hid (HJ.out.go hb)
        replace KJ := Lib.hid (KJ.out.go hb)
        replace B := B.trans (hb.mono B.size)
        have hzw19 := B.size
        clear hb
        rw [HNC.out]
        rw [HNM.out, HNR.out] at hu19
        obtain ⟨v19, rfl, hq19⟩ := hu19
        obtain ⟨ka, kc, rfl⟩ := hq19.shape
        have HX := Lib.hid hq19.rows
        clear hq19
        obtain ⟨kg0, kg1⟩ := KG.out.two
        have kgl := KG.out.lt
        obtain ⟨kj0, kj1⟩ := KJ.out.two
        have kjl := KJ.out.lt
        go_wp2_with fail
        clear kg0 kg1 kgl kj0 kj1 kjl
        obtain ⟨hb, hk, hs⟩ := blocks1 w19 #[.int .i64 (m : Int), .slice ka (unitG m).length kc] 26
        generalize w19.alloc (.cells #[.int .i64 (m : Int), .slice ka (unitG m).length kc] 26) = W20 at *
        have KX := Lib.hid hk
        replace HGA := Lib.hid (HGA.out.go hb)
        replace KG := Lib.hid (KG.out.go hb)
        replace HJ := Lib.hid (HJ.out.go hb)
        replace KJ := Lib.hid (KJ.out.go hb)
        replace HX := Lib.hid (HX.out.go hb)
        replace B := B.trans (hb.mono B.size)
        have hzW20 := B.size
        clear hb hk hs
        refine (gunit_in m _ (by omega)).mono ?_
        rintro e w21 ⟨u21, rfl, hu21, hb⟩
        replace HGA := Lib.hid (HGA.out.go hb)
        replace KG := Lib.hid (KG.out.go hb)
        replace HJ := Lib.hid (HJ.out.go hb)
        replace KJ := Lib.hid (KJ.out.go hb)
        replace HX := Lib.hid (HX.out.go hb)
        replace KX := Lib.hid (KX.out.go hb)
        replace B := B.trans (hb.mono B.size)
        have hzw21 := B.size
        clear hb
        obtain ⟨v21, rfl, hq21⟩ := hu21
        obtain ⟨ea, ec, rfl⟩ := hq21.shape
        have HU := Lib.hid hq21.rows
        clear hq21
        obtain ⟨kg0, kg1⟩ := KG.out.two
        have kgl := KG.out.lt
        obtain ⟨kj0, kj1⟩ := KJ.out.two
        have kjl := KJ.out.lt
        obtain ⟨kx0, kx1⟩ := KX.out.two
        have kxl := KX.out.lt
        go_wp2_with fail
        clear kg0 kg1 kgl kj0 kj1 kjl kx0 kx1 kxl
        obtain ⟨hb, hk, hs⟩ := blocks1 w21 #[.int .i64 (m : Int), .slice ea (unitG m).length ec] 26
        generalize w21.alloc (.cells #[.int .i64 (m : Int), .slice ea (unitG m).length ec] 26) = W22 at *
        have KU := Lib.hid hk
        replace HGA := Lib.hid (HGA.out.go hb)
        replace KG := Lib.hid (KG.out.go hb)
        replace HJ := Lib.hid (HJ.out.go hb)
        replace KJ := Lib.hid (KJ.out.go hb)
        replace HX := Lib.hid (HX.out.go hb)
        replace KX := Lib.hid (KX.out.go hb)
        replace HU := Lib.hid (HU.out.go hb)
        replace B := B.trans (hb.mono B.size)
        have hzW22 := B.size
        clear hb hk hs
        refine (gridsame_any _ _ (m : Int) (m : Int) A A _ ⟨ja, jc, rfl, HJ.out⟩ ⟨ga, gc, rfl, HGA.out⟩ (by omega)).mono ?_
        rintro e w23 ⟨rfl, hb⟩
        replace HX := Lib.hid (HX.out.go hb)
        replace KX := Lib.hid (KX.out.go hb)
        replace HU := Lib.hid (HU.out.go hb)
        replace KU := Lib.hid (KU.out.go hb)
        replace B := B.trans (hb.mono B.size)
        have hzw23 := B.size
        clear hb
        rw [show decide ((m : Int) = (m : Int) ∧ A = A) = true from decide_eq_true ⟨rfl, rfl⟩]
        obtain ⟨kx0, kx1⟩ := KX.out.two
        have kxl := KX.out.lt
        obtain ⟨ku0, ku1⟩ := KU.out.two
        have kul := KU.out.lt
        go_wp2_with fail
        clear kx0 kx1 kxl ku0 ku1 kul
        refine (gridsame_any _ _ (m : Int) (m : Int) (unitG m) (unitG m) _ ⟨ka, kc, rfl, HX.out⟩ ⟨ea, ec, rfl, HU.out⟩ (by have := HUN.out; omega)).mono ?_
        rintro e w24 ⟨rfl, hb⟩
        replace B := B.trans (hb.mono B.size)
        have hzw24 := B.size
        clear hb
        rw [show decide ((m : Int) = (m : Int) ∧ unitG m = unitG m) = true from decide_eq_true ⟨rfl, rfl⟩]
        go_wp2_with fail
        go_ret
        exact ⟨rfl, B⟩

theorem gridRanks_walk (x0 : Nat) (v0 : Value) (ll : List (List Nat)) (x1 : Nat) (v1 : Value) (kk : List (List Nat)) (w : World) (hx0 : x0 < 256) (hR0 : IsRows w v0 ll) (hx1 : x1 < 256) (hR1 : IsRows w v1 kk) :
    Calls Try.prog 5 #[U8 x0, v0, U8 x1, v1] w fun e w' => e = .returned (.bool true) ∧ Below w.heap.size w w' := by
  cases hf : few7 ll with
  | false => exact gridRanks_out v0 v1 x0 x1 ll kk w hR0 hR1 (.inl hf)
  | true =>
    cases hg : few7 kk with
    | false => exact gridRanks_out v0 v1 x0 x1 ll kk w hR0 hR1 (.inr ⟨hf, hg⟩)
    | true => exact gridRanks_some v0 v1 x0 x1 ll kk w hx0 hx1 hR0 hR1 hf hg

end Go.Proofs.Ytohfcdgpllghbaa
