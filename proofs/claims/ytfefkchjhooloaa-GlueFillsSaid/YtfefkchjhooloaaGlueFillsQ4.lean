/- Texts of one seat, laid together: PlanB, InsA, CopyFit, MonoZ, CutA, VecA, La, LaB, LaC, LaL, CutB, GlueA. -/
import Derived.Test.YtfefkchjhooloaaGlueFillsQ3
import Derived.Test.YtfefkchjhooloaaGlueFillsQ2
import Derived.Deep.DeepCutAuto
import Derived.Lib.Overlaps
import Derived.Lib.AppendZerosOnto
import Derived.Shelf.RegionOpenPlain
import Derived.Test.YtfefkchjhooloaaGlueFillsQ1
import Derived.Laws.BytesArg
import Derived.Lib.SliceRun
import Derived.Deep.QuietTactic
import Derived.BigQuiet
import Derived.Shelf.Spec.SlicesInsert
import Derived.Laws.CopyOwn

/-
  Plans in the program (layer 10): 'checked', 'Of', 'Room', 'Pad'.
-/
set_option maxRecDepth 100000
namespace Go.Proofs.Ytfefkchjhooloaa
open Go.RowKit

/-- A plan's value. -/
def planV (l s k n : Int) : Value := .agg #[.int .i64 l, .int .i64 s, .int .i64 k, .int .u32 n]
def PlanE (w : World) (l s k n : Int) (err : Int) (e : Ending) (w' : World) : Prop := e = .returned (.tuple #[planV l s k n, .int .i64 err]) ∧ Below w.heap.size w w'
def okV (c x : Int) : Int := if c = 0 then x else 0
theorem store4_plan {w0 w : World} {g : Nat} {a b c d : Value} {T : TypeId} (hK : Blk w g #[a, b, c, d] T) (hg : w0.heap.size ≤ g) (hB : Below w0.heap.size w0 w) (x y z u : Value) :
    let w' := (((w.setCell ⟨g, 0, none⟩ x).setCell ⟨g, 1, none⟩ y).setCell ⟨g, 2, none⟩ z).setCell ⟨g, 3, none⟩ u
    w'.cell? ⟨g, 0, none⟩ = some x ∧ w'.cell? ⟨g, 1, none⟩ = some y ∧ w'.cell? ⟨g, 2, none⟩ = some z ∧ w'.cell? ⟨g, 3, none⟩ = some u ∧ Below w0.heap.size w0 w' := by
  have h := (((hK.set 0 x).set 1 y).set 2 z).set 3 u
  exact ⟨h.cell 0, h.cell 1, h.cell 2, h.cell 3, (((hB.setCell (p := ⟨g, 0, none⟩) hg _).setCell (p := ⟨g, 1, none⟩) hg _).setCell (p := ⟨g, 2, none⟩) hg _).setCell (p := ⟨g, 3, none⟩) hg _⟩
theorem Blk.four {w : World} {g : Nat} {a b c d : Value} {T : TypeId} (h : Blk w g #[a, b, c, d] T) : w.cell? ⟨g, 0, none⟩ = some a ∧ w.cell? ⟨g, 1, none⟩ = some b ∧ w.cell? ⟨g, 2, none⟩ = some c ∧ w.cell? ⟨g, 3, none⟩ = some d := ⟨h.cell 0, h.cell 1, h.cell 2, h.cell 3⟩

set_option maxHeartbeats 1000000 in
theorem checked_any (l s k n : Int) (w : World) (hl0 : -9223372036854775808 ≤ l) (hl : l ≤ 9223372036854775807) (hs2 : s ≤ 9223372036854775807) :
    Calls Try.prog 29 #[planV l s k n] w (PlanE w (okV (checkE l s k) l) (okV (checkE l s k) s) (okV (checkE l s k) k) (okV (checkE l s k) n) (checkE l s k)) := by
  have HC := Lib.hid (fun w => check_any l s k n w hl0 hl hs2)
  obtain ⟨c, hc⟩ : ∃ c, c = checkE l s k := ⟨_, rfl⟩
  rw [← hc] at HC ⊢
  clear hc
  unfold planV
  by_cases h : c = 0
  · subst h
    go_enter Try.func29, Try.ntmps29
    go_wp2_with fail
    obtain ⟨B, hk1, hk2, hs⟩ := blocks2 w #[.int .i64 l, .int .i64 s, .int .i64 k, .int .u32 n] 24 #[.int .i64 0, .int .i64 0, .int .i64 0, .int .u32 0] 24
    generalize ((w.alloc (.cells #[.int .i64 l, .int .i64 s, .int .i64 k, .int .u32 n] 24)).alloc (.cells #[.int .i64 0, .int .i64 0, .int .i64 0, .int .u32 0] 24)) = W at *
    have K1 := Lib.hid hk1
    have K2 := Lib.hid hk2
    have HS := Lib.hid hs
    clear hs hk1 hk2
    have hzW := B.size
    refine (HC.out _).mono ?_
    rintro e w1 ⟨rfl, hb⟩
    replace K1 := Lib.hid (K1.out.go hb)
    replace K2 := Lib.hid (K2.out.go hb)
    replace B := B.trans (hb.mono B.size)
    have hzw1 := B.size
    clear hb
    obtain ⟨p0, p1, p2, p3⟩ := K1.out.four
    have pl := K1.out.lt
    obtain ⟨q0, q1, q2, q3⟩ := K2.out.four
    have ql := K2.out.lt
    have r0 := K2.out.free 0
    have r1 := K2.out.free 1
    have r2 := K2.out.free 2
    have r3 := K2.out.free 3
    go_wp2_with fail
    obtain ⟨e0, e1, e2, e3, hB⟩ := store4_plan K2.out (by omega) B (.int .i64 l) (.int .i64 s) (.int .i64 k) (.int .u32 n)
    exact bodyPost_ret (v := .tuple #[planV l s k n, .int .i64 0]) (by simp [results, Try.results29, go_sem, e0, e1, e2, e3, planV]) rfl ⟨by simp [okV], hB⟩
  · have hb : (c != (0 : Int)) = true := by rw [bne_iff_ne]; exact h
    have e : ∀ x, okV c x = 0 := fun x => if_neg h
    rw [e, e, e, e]
    clear h e
    go_enter Try.func29, Try.ntmps29
    go_wp2_with fail
    obtain ⟨B, hk1, hk2, hs⟩ := blocks2 w #[.int .i64 l, .int .i64 s, .int .i64 k, .int .u32 n] 24 #[.int .i64 0, .int .i64 0, .int .i64 0, .int .u32 0] 24
    generalize ((w.alloc (.cells #[.int .i64 l, .int .i64 s, .int .i64 k, .int .u32 n] 24)).alloc (.cells #[.int .i64 0, .int .i64 0, .int .i64 0, .int .u32 0] 24)) = W at *
    have K1 := Lib.hid hk1
    have K2 := Lib.hid hk2
    have HS := Lib.hid hs
    clear hs hk1 hk2
    have hzW := B.size
    refine (HC.out _).mono ?_
    rintro e w1 ⟨rfl, hb⟩
    replace K1 := Lib.hid (K1.out.go hb)
    replace K2 := Lib.hid (K2.out.go hb)
    replace B := B.trans (hb.mono B.size)
    have hzw1 := B.size
    clear hb
    obtain ⟨p0, p1, p2, p3⟩ := K1.out.four
    have pl := K1.out.lt
    obtain ⟨q0, q1, q2, q3⟩ := K2.out.four
    have ql := K2.out.lt
    have r0 := K2.out.free 0
    have r1 := K2.out.free 1
    have r2 := K2.out.free 2
    have r3 := K2.out.free 3
    go_wp2_with fail
    obtain ⟨e0, e1, e2, e3, hB⟩ := store4_plan K2.out (by omega) B (.int .i64 0) (.int .i64 0) (.int .i64 0) (.int .u32 0)
    exact bodyPost_ret (v := .tuple #[planV 0 0 0 0, .int .i64 c]) (by simp [results, Try.results29, go_sem, e0, e1, e2, e3, planV]) rfl ⟨rfl, hB⟩

set_option maxHeartbeats 1000000 in
theorem of10_any (l s n : Int) (w : World) (hl0 : -9223372036854775808 ≤ l) (hl : l ≤ 9223372036854775807) (hs2 : s ≤ 9223372036854775807) :
    Calls Try.prog 14 #[.int .i64 l, .int .i64 s, .int .u32 n] w (PlanE w (okV (checkE l s (needI l s)) l) (okV (checkE l s (needI l s)) s) (okV (checkE l s (needI l s)) (needI l s)) (okV (checkE l s (needI l s)) n) (checkE l s (needI l s))) := by
  have HN := Lib.hid (fun w => need_any l s w hl0 hl hs2)
  have HC := Lib.hid (fun w => checked_any l s (needI l s) n w hl0 hl hs2)
  obtain ⟨m, hm⟩ : ∃ m, m = needI l s := ⟨_, rfl⟩
  rw [← hm] at HN HC ⊢
  clear hm
  obtain ⟨c, hc⟩ : ∃ c, c = checkE l s m := ⟨_, rfl⟩
  rw [← hc] at HC ⊢
  clear hc
  go_enter Try.func14, Try.ntmps14
  go_wp2_with fail
  obtain ⟨B, hk1, hs⟩ := blocks1 w #[.int .i64 0, .int .i64 0, .int .i64 0, .int .u32 0] 24
  generalize (w.alloc (.cells #[.int .i64 0, .int .i64 0, .int .i64 0, .int .u32 0] 24)) = W at *
  have K1 := Lib.hid hk1
  have HS := Lib.hid hs
  clear hs hk1
  have hzW := B.size
  refine (HN.out _).mono ?_
  rintro e w1 ⟨rfl, rfl⟩
  go_wp2_with fail
  refine (HC.out _).mono ?_
  rintro e w2 ⟨rfl, hb⟩
  replace K1 := Lib.hid (K1.out.go hb)
  replace B := B.trans (hb.mono B.size)
  clear hb
  obtain ⟨q0, q1, q2, q3⟩ := K1.out.four
  have ql := K1.out.lt
  have r0 := K1.out.free 0
  have r1 := K1.out.free 1
  have r2 := K1.out.free 2
  have r3 := K1.out.free 3
  unfold planV
  go_wp2_with fail
  obtain ⟨e0, e1, e2, e3, hB⟩ := store4_plan K1.out (by omega) B (.int .i64 (okV c l)) (.int .i64 (okV c s)) (.int .i64 (okV c m)) (.int .u32 (okV c n))
  exact bodyPost_ret (v := .tuple #[planV (okV c l) (okV c s) (okV c m) (okV c n), .int .i64 c]) (by simp [results, Try.results14, go_sem, e0, e1, e2, e3, planV]) rfl ⟨rfl, hB⟩
/-- Room and padding. -/
def roomI (l s k : Int) : Int := if checkE l s k = 0 then k * s else 0
def padI (l s k : Int) : Int := if checkE l s k = 0 then k * s - l else 0
theorem check_ok10 {l s k : Int} (h : checkE l s k = 0) : 0 ≤ l ∧ 1 ≤ s ∧ s ≤ 65535 ∧ 1 ≤ k ∧ k ≤ 4096 ∧ k = needI l s ∧ l ≤ k * s := by
  rw [check_spell] at h
  by_cases h1 : l < 0
  · rw [if_pos h1] at h; cases h
  · rw [if_neg h1] at h
    by_cases h2 : s < 1 ∨ 65535 < s
    · rw [if_pos h2] at h; cases h
    · rw [if_neg h2] at h
      by_cases h3 : 4096 < needI l s
      · rw [if_pos h3] at h; cases h
      · rw [if_neg h3] at h
        by_cases h4 : k = needI l s
        · have hn : needI l s = (needT l.toNat s.toNat : Int) := by unfold needI; rw [if_neg (by omega), if_neg h1]
          obtain ⟨a, ha⟩ : ∃ a : Nat, l = a := ⟨l.toNat, by omega⟩
          obtain ⟨b, hb⟩ : ∃ b : Nat, s = b := ⟨s.toNat, by omega⟩
          subst ha
          subst hb
          simp only [Int.toNat_natCast] at hn
          have h5 : 1 ≤ needT a b := by unfold needT; split; exact Nat.le_refl _; exact Nat.succ_le_succ (Nat.zero_le _)
          have h6 : a ≤ needT a b * b := by
            unfold needT
            by_cases h7 : a ≤ b
            · rw [if_pos h7]; omega
            · rw [if_neg h7]
              have h8 := Nat.div_add_mod (a - 1) b
              have h9 := Nat.mod_lt (a - 1) (show 0 < b by omega)
              have h10 := Nat.mul_comm ((a - 1) / b) b
              obtain ⟨q, hq⟩ : ∃ q, q = (a - 1) / b := ⟨_, rfl⟩
              obtain ⟨r, hr⟩ : ∃ r, r = (a - 1) % b := ⟨_, rfl⟩
              rw [Nat.succ_mul]
              rw [← hq] at h8 h10 ⊢
              rw [← hr] at h8 h9
              obtain ⟨t, ht⟩ : ∃ t, t = b * q := ⟨_, rfl⟩
              rw [h10]
              rw [← ht] at h8 ⊢
              omega
          have h7 : ((needT a b * b : Nat) : Int) = (needT a b : Int) * (b : Int) := by simp
          refine ⟨by omega, by omega, by omega, by omega, by omega, h4, ?_⟩
          rw [h4, hn, ← h7]; omega
        · rw [if_neg h4] at h; cases h

set_option maxHeartbeats 1000000 in
theorem room_any (l s k n : Int) (w : World) (hl0 : -9223372036854775808 ≤ l) (hl : l ≤ 9223372036854775807) (hs2 : s ≤ 9223372036854775807) :
    Calls Try.prog 15 #[planV l s k n] w fun e w' => e = .returned (.int .i64 (roomI l s k)) ∧ Below w.heap.size w w' := by
  have HC := Lib.hid (fun w => check_any l s k n w hl0 hl hs2)
  unfold roomI planV
  by_cases h : checkE l s k = 0
  · rw [if_pos h]
    rw [h] at HC
    obtain ⟨h1, h2, h3, h4, h5, -, h6⟩ := check_ok10 h
    obtain ⟨s', rfl⟩ : ∃ s' : Nat, s = s' := ⟨s.toNat, by omega⟩
    obtain ⟨k', rfl⟩ : ∃ k' : Nat, k = k' := ⟨k.toNat, by omega⟩
    obtain ⟨p, hp⟩ : ∃ p, p = k' * s' := ⟨_, rfl⟩
    have hpi : (k' : Int) * (s' : Int) = (p : Int) := by rw [hp]; simp
    have hp2 : p ≤ 4096 * 65535 := by rw [hp]; exact Nat.mul_le_mul (by omega) (by omega)
    clear h h6 hp
    go_enter Try.func15, Try.ntmps15
    go_wp2_with fail
    obtain ⟨B, hk1, hs⟩ := blocks1 w #[.int .i64 l, .int .i64 (s' : Int), .int .i64 (k' : Int), .int .u32 n] 24
    generalize (w.alloc (.cells #[.int .i64 l, .int .i64 (s' : Int), .int .i64 (k' : Int), .int .u32 n] 24)) = W at *
    have K1 := Lib.hid hk1
    have HS := Lib.hid hs
    clear hs hk1
    have hzW := B.size
    refine (HC.out _).mono ?_
    rintro e w1 ⟨rfl, hb⟩
    replace K1 := Lib.hid (K1.out.go hb)
    replace B := B.trans (hb.mono B.size)
    have hzw1 := B.size
    clear hb
    obtain ⟨p0, p1, p2, p3⟩ := K1.out.four
    have pl := K1.out.lt
    clear HC
    go_wp2_with fail
    go_ret
    exact ⟨by first | rfl | (rw [hpi]; rfl), B⟩
  · rw [if_neg h]
    obtain ⟨c, hc⟩ : ∃ c, c = checkE l s k := ⟨_, rfl⟩
    rw [← hc] at HC h
    have hb : (c != (0 : Int)) = true := by rw [bne_iff_ne]; exact h
    clear hc h
    go_enter Try.func15, Try.ntmps15
    go_wp2_with fail
    obtain ⟨B, hk1, hs⟩ := blocks1 w #[.int .i64 l, .int .i64 s, .int .i64 k, .int .u32 n] 24
    generalize (w.alloc (.cells #[.int .i64 l, .int .i64 s, .int .i64 k, .int .u32 n] 24)) = W at *
    have K1 := Lib.hid hk1
    have HS := Lib.hid hs
    clear hs hk1
    have hzW := B.size
    refine (HC.out _).mono ?_
    rintro e w1 ⟨rfl, hb⟩
    replace B := B.trans (hb.mono B.size)
    have hzw1 := B.size
    clear hb
    go_wp2_with fail
    go_ret
    exact ⟨rfl, B⟩
theorem load_plan10 {w : World} {g : Nat} {l s k n : Value} {T : TypeId} (h : Blk w g #[l, s, k, n] T) : (Instr.loadAt 24 (.pointer (some ⟨g, 0, none⟩))).run Try.prog w = .ok (.agg #[l, s, k, n]) w := by
  obtain ⟨k0, k1, k2, k3⟩ := h.four
  go_simp
theorem sub_int10 {x y : Operand} {a b c : Nat} (h : (a : Int) - (b : Int) = (c : Int)) (hc : c ≤ 9223372036854775807) (w : World) : (do eqGuard .sub 3 x y (.int .i64 a) (.int .i64 b); binOp .sub 3 (.int .i64 a) (.int .i64 b) : Sem Value).run Try.prog w = .ok (.int .i64 c) w := by
  go_simp
  rw [IntKind.wrap_i64]; omega
set_option maxHeartbeats 1000000 in
theorem pad_any (l s k n : Int) (w : World) (hl0 : -9223372036854775808 ≤ l) (hl : l ≤ 9223372036854775807) (hs2 : s ≤ 9223372036854775807) :
    Calls Try.prog 34 #[planV l s k n] w fun e w' => e = .returned (.int .i64 (padI l s k)) ∧ Below w.heap.size w w' := by
  have HC := Lib.hid (fun w => check_any l s k n w hl0 hl hs2)
  have HR := Lib.hid (fun w => room_any l s k n w hl0 hl hs2)
  unfold padI
  unfold roomI at HR
  unfold planV at HR ⊢
  by_cases h : checkE l s k = 0
  · rw [if_pos h]
    rw [if_pos h] at HR
    rw [h] at HC
    obtain ⟨h1, h2, h3, h4, h5, -, h6⟩ := check_ok10 h
    obtain ⟨l', rfl⟩ : ∃ l' : Nat, l = l' := ⟨l.toNat, by omega⟩
    obtain ⟨s', rfl⟩ : ∃ s' : Nat, s = s' := ⟨s.toNat, by omega⟩
    obtain ⟨k', rfl⟩ : ∃ k' : Nat, k = k' := ⟨k.toNat, by omega⟩
    obtain ⟨p, hp⟩ : ∃ p, p = k' * s' := ⟨_, rfl⟩
    have hpi : (k' : Int) * (s' : Int) = (p : Int) := by rw [hp]; simp
    have hp2 : p ≤ 4096 * 65535 := by rw [hp]; exact Nat.mul_le_mul (by omega) (by omega)
    rw [hpi] at HR h6 ⊢
    obtain ⟨d, hd⟩ : ∃ d, d = p - l' := ⟨_, rfl⟩
    have hdi : (p : Int) - (l' : Int) = (d : Int) := by omega
    rw [hdi]
    have HD := Lib.hid hdi
    have hd2 : d ≤ p := by omega
    clear h h6 hp hpi hd hdi
    go_enter Try.func34, Try.ntmps34
    go_wp2_with fail
    obtain ⟨B, hk1, hs⟩ := blocks1 w #[.int .i64 (l' : Int), .int .i64 (s' : Int), .int .i64 (k' : Int), .int .u32 n] 24
    generalize (w.alloc (.cells #[.int .i64 (l' : Int), .int .i64 (s' : Int), .int .i64 (k' : Int), .int .u32 n] 24)) = W at *
    have K1 := Lib.hid hk1
    have HS := Lib.hid hs
    clear hs hk1
    have hzW := B.size
    refine (HC.out _).mono ?_
    rintro e w1 ⟨rfl, hb⟩
    replace K1 := Lib.hid (K1.out.go hb)
    replace B := B.trans (hb.mono B.size)
    have hzw1 := B.size
    clear hb
    go_upto_region 3 with fail
    obtain ⟨g, hg⟩ : ∃ g : Nat, g = w.heap.size := ⟨_, rfl⟩
    rw [← hg] at K1
    simp only [← hg]
    clear hg
    refine wp_region_mono (C := Cb w1) (R := Rb) (H := fun _ => Hb w1) [Ty.val 6 (.agg #[.int .i64 (l' : Int), .int .i64 (s' : Int), .int .i64 (k' : Int), .int .u32 n]), Ty.val 7 (.int .i64 (p : Int)), Ty.val 8 (.pointer (some ⟨g, 0, none⟩)), Ty.val 9 (.int .i64 (l' : Int)), Ty.val 10 (.int .i64 (d : Int)), Ty.val 2 (.int .i64 (d : Int))] (by kernel_rfl) (hC_b w1) (hCH_b w1) (drew_b w1) ⟨trivial, trivial, trivial, trivial, trivial, trivial, trivial⟩ (by kernel_rfl) ?_ ?_
    · refine ⟨?_, ?_, ?_, ?_, ?_, ?_, trivial⟩
      · intro ac wc hC hsz hfr hd hpr
        have d1 : ac.eval (.tmp 1) = (.pointer (some ⟨g, 0, none⟩)) := hfr 1 rfl
        rw [if_pos (wanted_none rfl)]
        exact ob_load _ rfl rfl rfl (Nat.lt_of_lt_of_eq (by decide : 6 < 11) hsz.symm) rfl d1 (load_plan10 (K1.out.go hC)) (Below.refl _ _) rfl
      · intro ac wc hC hsz hfr hd hpr
        have d6 : ac.eval (.tmp 6) = (.agg #[.int .i64 (l' : Int), .int .i64 (s' : Int), .int .i64 (k' : Int), .int .u32 n]) := hd 0 rfl
        rw [if_pos (wanted_none rfl)]
        refine ob_call rfl rfl rfl (Nat.lt_of_lt_of_eq (by decide : 7 < 11) hsz.symm) rfl (enter_of Try.func15 (by kernel_rfl) rfl) ?_
        show Calls Try.prog 15 #[ac.eval (.tmp 6)] wc _
        rw [d6]
        exact (HR.out wc).mono fun _ _ ⟨he, hb⟩ => ⟨_, he, rfl, hb⟩
      · intro ac wc hC hsz hfr hd hpr
        have d1 : ac.eval (.tmp 1) = (.pointer (some ⟨g, 0, none⟩)) := hfr 1 rfl
        rw [if_pos (wanted_none rfl)]
        exact ob_field _ rfl rfl rfl (Nat.lt_of_lt_of_eq (by decide : 8 < 11) hsz.symm) rfl d1 (fun w => by go_simp) (Below.refl _ _) rfl
      · intro ac wc hC hsz hfr hd hpr
        have d8 : ac.eval (.tmp 8) = (.pointer (some ⟨g, 0, none⟩)) := hd 2 rfl
        rw [if_pos (wanted_none rfl)]
        exact ob_load _ rfl rfl rfl (Nat.lt_of_lt_of_eq (by decide : 9 < 11) hsz.symm) rfl d8 (load_int ((K1.out.go hC).cell 0)) (Below.refl _ _) rfl
      · intro ac wc hC hsz hfr hd hpr
        have d7 : ac.eval (.tmp 7) = (.int .i64 (p : Int)) := hd 1 rfl
        have d9 : ac.eval (.tmp 9) = (.int .i64 (l' : Int)) := hd 3 rfl
        rw [if_pos (wanted_none rfl)]
        exact ob_bin _ rfl rfl rfl (Nat.lt_of_lt_of_eq (by decide : 10 < 11) hsz.symm) rfl d7 d9 (sub_int10 HD.out (by omega)) (Below.refl _ _) rfl
      · intro ac wc hC hsz hfr hd hpr
        have d10 : ac.eval (.tmp 10) = (.int .i64 (d : Int)) := hd 4 rfl
        rw [if_pos (wanted_none rfl)]
        exact ob_copy rfl rfl rfl (Nat.lt_of_lt_of_eq (by decide : 2 < 11) hsz.symm) (Or.inr rfl) (Below.refl _ _) d10
    intro a' w2 hC hdef hsz hfr hd
    have e6 : a'.eval (.tmp 6) = (.agg #[.int .i64 (l' : Int), .int .i64 (s' : Int), .int .i64 (k' : Int), .int .u32 n]) := hd 0 (by decide)
    have e7 : a'.eval (.tmp 7) = (.int .i64 (p : Int)) := hd 1 (by decide)
    have e8 : a'.eval (.tmp 8) = (.pointer (some ⟨g, 0, none⟩)) := hd 2 (by decide)
    have e9 : a'.eval (.tmp 9) = (.int .i64 (l' : Int)) := hd 3 (by decide)
    have e10 : a'.eval (.tmp 10) = (.int .i64 (d : Int)) := hd 4 (by decide)
    have e2 : a'.eval (.tmp 2) = (.int .i64 (d : Int)) := hd 5 (by decide)
    have hact := act_puts hdef hsz hfr
    simp only [dstsOf, List.filterMap, putAll, Act.put, List.setIfInBounds_toArray, List.set_cons_succ, List.set_cons_zero, e6, e7, e8, e9, e10, e2] at hact
    clear hd hfr hsz hdef e6 e7 e8 e9 e10 e2
    subst hact
    replace B := B.trans (hC.mono B.size)
    clear hC
    go_wp2_with fail
    go_ret
    exact ⟨rfl, B⟩
  · rw [if_neg h]
    obtain ⟨c, hc⟩ : ∃ c, c = checkE l s k := ⟨_, rfl⟩
    rw [← hc] at HC h
    have hb : (c != (0 : Int)) = true := by rw [bne_iff_ne]; exact h
    clear hc h HR
    go_enter Try.func34, Try.ntmps34
    go_wp2_with fail
    obtain ⟨B, hk1, hs⟩ := blocks1 w #[.int .i64 l, .int .i64 s, .int .i64 k, .int .u32 n] 24
    generalize (w.alloc (.cells #[.int .i64 l, .int .i64 s, .int .i64 k, .int .u32 n] 24)) = W at *
    have K1 := Lib.hid hk1
    have HS := Lib.hid hs
    clear hs hk1
    have hzW := B.size
    refine (HC.out _).mono ?_
    rintro e w1 ⟨rfl, hb⟩
    replace B := B.trans (hb.mono B.size)
    have hzw1 := B.size
    clear hb
    go_wp2_with fail
    go_ret
    exact ⟨rfl, B⟩

end Go.Proofs.Ytfefkchjhooloaa

/-
  One element put into a slice at a place, in memory: what the two copies of slices.Insert make of a block of whatever elements. No function of the program in this text.
-/
set_option maxRecDepth 100000
namespace Go.Proofs.Ytfefkchjhooloaa
open Go.RowKit

/-- A list with cells written over, from a place on. -/
def wr (cur : List Value) (o : Nat) (cs : List Value) : List Value := cur.take o ++ cs ++ cur.drop (o + cs.length)
/-- 'copy', of elements of whatever size, into a block that isn't frozen: all is read before anything is written. -/
theorem run_copy_rowN {P : Program} (w : World) (dT sT ty elem : TypeId) (g o dLen dCap : Nat) (a : Addr) (sLen sCap : Nat) (cur : Array Value) (t : TypeId) (cs : List Value) (size m : Nat)
    (hu : P.underlying dT = some (.slice elem)) (hs : (P.info? elem).map (·.size) = some size)
    (hg : w.heap[g]? = some (.cells cur t (0, 0))) (hm : m = Nat.min sLen dLen) (hn : cs.length = m * size)
    (hsrc : ∀ j v, cs[j]? = some v → w.cell? (a.add j) = some v) (hfit : o + cs.length ≤ cur.size) (h1 : ∀ v ∈ cs, v.oneCell' = true) :
    (Builtin.copy_ #[dT, sT] ty #[.slice (some ⟨g, o, none⟩) dLen dCap, .slice (some a) sLen sCap]).run P w =
      .ok (goInt m) (w.setRow g (wr cur.toList o cs).toArray) := by
  have hl := run_loadCells_list (P := P) w a cs hsrc
  have hst := run_storeCells_at P g o t cs 0 cur w hg (by simpa using hfit) h1
  cases hq : P.info? elem with
  | none => simp [hq] at hs
  | some i =>
    have hi : i.size = size := by simpa [hq] using hs
    simp [Builtin.copy_, run_underlying hu, Builtin.lenOf, Builtin.firstCells, sizeOf, typeInfo, hq, hi, ← hm, ← hn, hl, hst, wr]

end Go.Proofs.Ytfefkchjhooloaa

/-
  Bytes copied into a slice that was made: cut, or with noughts behind.
-/
set_option maxRecDepth 100000
namespace Go.Proofs.Ytfefkchjhooloaa
open Go.RowKit

/-- The first m bytes, with noughts behind. -/
def fitR (m : Nat) (r : List Nat) : List Nat := r.take m ++ zeros (m - r.length)
theorem fitR_length (m : Nat) (r : List Nat) : (fitR m r).length = m := by simp [fitR, zeros]; omega
theorem fitR_lt {m : Nat} {r : List Nat} (h : ∀ x, x ∈ r → x < 256) : ∀ x, x ∈ fitR m r → x < 256 := by
  intro x hx
  rcases List.mem_append.1 hx with hx | hx
  · exact h x (List.mem_of_mem_take hx)
  · exact zeros_lt _ x hx
theorem infoU8 : (Try.prog.info? 5).map (·.size) = some 1 := by kernel_rfl

end Go.Proofs.Ytfefkchjhooloaa

/-
  A region that draws its order and makes memory, but writes nothing that was there.
-/
set_option maxRecDepth 100000
namespace Go.Proofs.Ytfefkchjhooloaa
open Go.RowKit

/-- No step writes. -/
def Hz : Nat → World → World → Prop := fun _ _ _ => False
theorem hCH_z (W : World) : ∀ (c : Nat) w w', Cb W w → Hz c w w' → Cb W w' := fun _ _ _ _ h => h.elim
section
variable {W : World}
/-- Of one temporary, kept where nothing turns. -/
def TyZ.fact (t : Tmp) (F : Value → World → Prop) (h : ∀ v w w', Below w.heap.size w w' → F v w → F v w') : Ty (Cb W) Rb Hz :=
  Ty.one t F (fun v w w' _ hR hF => h v w w' hR hF) (fun _ _ _ _ _ hH _ => hH.elim)
def TyZ.val (t : Tmp) (v : Value) : Ty (Cb W) Rb Hz := Ty.val t v
def TyZ.bytes (t : Tmp) (l : List Nat) : Ty (Cb W) Rb Hz := TyZ.fact t (fun v w => Bytes w v l) fun _ _ _ hb h => h.go hb
end

end Go.Proofs.Ytfefkchjhooloaa

/-
  Symbols of an object in the program (package cut): fit, symbol, Symbol, Spread.
-/
set_option maxRecDepth 100000
namespace Go.Proofs.Ytfefkchjhooloaa
open Go.RowKit

/-- 'o[i:]', of bytes. -/
theorem slice_rest {w : World} {a : Option Addr} {n c i : Nat} {l : List Nat} (h : Bytes w (.slice a n c) l) (hi : i ≤ l.length) :
    ∃ b m d, (∀ w' : World, (Instr.sliceAt 25 (.slice a n c) (some (.int .i64 (i : Int))) none none).run Try.prog w' = .ok (.slice b m d) w') ∧ Bytes w (.slice b m d) (l.drop i) := by
  have h' := h
  obtain ⟨a', c', e, h1, h2, h3, h4⟩ := h'
  simp only [Value.slice.injEq] at e
  obtain ⟨rfl, rfl, rfl⟩ := e
  have i1 : (i : Int) ≤ (l.length : Int) := by omega
  have i0 : (0 : Int) ≤ (i : Int) := Int.natCast_nonneg _
  have i2 : (l.length : Int) ≤ (c : Int) := by omega
  have i3 : (i : Int) ≤ (c : Int) := by omega
  cases a with
  | none =>
    have hl : l = [] := by
      refine Decidable.byContradiction fun hne => ?_
      obtain ⟨b, off, e, _⟩ := h4 hne
      cases e
    subst hl
    obtain rfl : i = 0 := by simpa using hi
    refine ⟨none, 0, c, fun w' => ?_, ?_⟩
    · go_simp
    · simpa using h
  | some p =>
    by_cases hl : l = []
    · subst hl
      obtain rfl : i = 0 := by simpa using hi
      refine ⟨?b, 0, c, fun w' => ?_, ?_⟩
      case b => exact if c = 0 then some p else some p
      · go_simp
      · simpa using h
    · obtain ⟨b, off, e, hlt, hc⟩ := h4 hl
      obtain rfl : p = ⟨b, off, none⟩ := by simpa using e
      by_cases hci : c = i
      · subst hci
        have hd : l.drop c = [] := List.drop_eq_nil_of_le h1
        have hz : l.length - c = 0 := by omega
        rw [hd]
        refine ⟨some ⟨b, off, none⟩, 0, 0, fun w' => ?_, ⟨_, 0, rfl, Nat.le_refl _, by omega, by simp, fun e => absurd rfl e⟩⟩
        go_simp
      · refine ⟨some ⟨b, off + i, none⟩, l.length - i, c - i, fun w' => ?_, ?_⟩
        · go_simp
        · exact h.drop hi _ (fun _ => rfl) _ _ rfl (by omega) (by omega)

theorem cut_room {l s k : Int} (h : checkE l s k = 0) {i : Nat} (hi : (i : Int) < k) : i * s.toNat ≤ l.toNat := by
  obtain ⟨h1, h2, h3, h4, h5, h6⟩ := check_ok h
  have e : k.toNat = needsN l.toNat s.toNat := by omega
  have hn : needsN l.toNat s.toNat ≤ 4096 := by omega
  have hs : 1 ≤ s.toNat := by omega
  have hf : ¬ 4096 < needT l.toNat s.toNat := by rw [needT_many hs]; omega
  rw [← needT_few hs hf] at e
  unfold needT at e
  split at e
  · have : i = 0 := by omega
    subst this; simp
  · have h8 : i ≤ (l.toNat - 1) / s.toNat := by omega
    have := Nat.mul_le_of_le_div _ _ _ h8
    omega
end Go.Proofs.Ytfefkchjhooloaa

/-
  Rows with a beginning (layer 3) in the program: 'Lead', 'At', 'Zero', 'Unit'.
-/
set_option maxRecDepth 100000
namespace Go.Proofs.Ytfefkchjhooloaa
open Go.RowKit


set_option maxHeartbeats 400000 in
theorem vzero_any (v : Value) (l : List Nat) (w : World) (hB : Bytes w v l) :
    Calls Try.prog 35 #[v] w fun e w' => e = .returned (.bool (zeroB l)) ∧ w = w' := by
  have H := Lib.hid (zero_any v l w hB)
  clear hB
  go_enter Try.func35, Try.ntmps35
  go_wp2_with fail
  refine (H.out).mono ?_
  rintro e w' ⟨rfl, rfl⟩
  go_wp2_with fail
  go_ret
  exact ⟨rfl, rfl⟩

end Go.Proofs.Ytfefkchjhooloaa

/-
  Linear algebra over bytes (layers 7 to 9), first part: the field as a type, sums, vectors, spans, where they lead, ranks. No program in this text.
-/
set_option maxRecDepth 100000
namespace Go.Proofs.Ytfefkchjhooloaa
namespace La

/-- A byte, as an element of the field. -/
structure B where
  val : Nat
  lt : val < 256

theorem B.ext {a b : B} (h : a.val = b.val) : a = b := by
  cases a; cases b; cases h; rfl

instance : OfNat B 0 := ⟨⟨0, by decide⟩⟩
instance : OfNat B 1 := ⟨⟨1, by decide⟩⟩
instance : Add B := ⟨fun a b => ⟨a.val ^^^ b.val, Gf.xor_lt a.lt b.lt⟩⟩
instance : Mul B := ⟨fun a b => ⟨Gf.mul a.val b.val, Gf.mul_lt a.lt b.val⟩⟩
instance : DecidableEq B := fun a b => if h : a.val = b.val then isTrue (B.ext h) else isFalse (fun e => h (by rw [e]))

theorem badd_comm (a b : B) : a + b = b + a := B.ext (Nat.xor_comm _ _)
theorem badd_assoc (a b c : B) : a + b + c = a + (b + c) := B.ext (Nat.xor_assoc _ _ _)
theorem bmul_comm (a b : B) : a * b = b * a := B.ext (Gf.mul_comm a.lt b.lt)
theorem bmul_assoc (a b c : B) : a * b * c = a * (b * c) := B.ext (Gf.mul_assoc a.lt b.lt c.val)
instance : Std.Associative (α := B) (· + ·) := ⟨badd_assoc⟩
instance : Std.Commutative (α := B) (· + ·) := ⟨badd_comm⟩
instance : Std.Associative (α := B) (· * ·) := ⟨bmul_assoc⟩
instance : Std.Commutative (α := B) (· * ·) := ⟨bmul_comm⟩

/-! ### Sums -/

/-! ### Vectors -/

abbrev Vc := Nat → B

def v0 : Vc := fun _ => 0
def va (x y : Vc) : Vc := fun i => x i + y i
def vs (c : B) (x : Vc) : Vc := fun i => c * x i

/-! ### Where vectors lead -/

def Lead (v : Vc) (i : Nat) : Prop := v i ≠ 0 ∧ ∀ j, j < i → v j = 0

/-! ### Ranks -/

/-! ### Reduced rows: there is one list of them alone -/

/-- Rows by rising places; each leads with a 1, where all others have a 0. -/
structure Red (E : List Vc) : Prop where
  rise : E.Pairwise fun x y => ∀ i j, Lead x i → Lead y j → i < j
  one : ∀ e ∈ E, ∃ i, Lead e i ∧ e i = 1
  clear : E.Pairwise fun x y => ∀ i, (Lead x i → y i = 0) ∧ (Lead y i → x i = 0)

end La
end Go.Proofs.Ytfefkchjhooloaa

/-
  Linear algebra over bytes, second part: combinations by their coefficients, matrices turned and multiplied, inverses. No program in this text.
-/
set_option maxRecDepth 100000
namespace Go.Proofs.Ytfefkchjhooloaa
namespace La

/-- The first m rows of a matrix. -/
def rows (A : Nat → Vc) (m : Nat) : List Vc := (List.range m).map A

/-! ### Turned -/

/-! ### Products -/

end La
end Go.Proofs.Ytfefkchjhooloaa

/-
  Linear algebra over bytes, third part: determinants by the first row (two is 0 here: no signs), and that one isn't 0 just where the rank is full. No program in this text.
-/
set_option maxRecDepth 100000
namespace Go.Proofs.Ytfefkchjhooloaa
namespace La

/-- The sum over all ways to take one of a list: of it, and of what is left. -/
def P (f : Nat → List Nat → B) : List Nat → B
  | [] => 0
  | x :: xs => f x xs + P (fun y ys => f y (x :: ys)) xs

/-- The determinant of rows, at these columns. -/
def D : List Vc → List Nat → B
  | [], _ => 1
  | r :: rs, cols => P (fun x rest => r x * D rs rest) cols

end La
end Go.Proofs.Ytfefkchjhooloaa

/-
  Rows of bytes as vectors: what the document's answers of layers 7 and 8 reckon, said of spans, ranks and determinants. No program in this text.
-/
set_option maxRecDepth 100000
namespace Go.Proofs.Ytfefkchjhooloaa
open La

/-- A byte, as an element of the field. -/
def bt (n : Nat) : B := ⟨n % 256, Nat.mod_lt _ (by decide)⟩
/-- Bytes, as a vector. -/
def fv (l : List Nat) : Vc := fun i => bt (nth l i)

/-! ### Rows: vector and data, one behind the other -/

/-- The vector alone. -/
def f1 (x : Rw) : Vc := fv x.1

end Go.Proofs.Ytfefkchjhooloaa

/-
  Symbols of an object in the program (package cut): Cut.
-/
set_option maxRecDepth 100000
namespace Go.Proofs.Ytfefkchjhooloaa
open Go.RowKit

/-- No block of the elder world was turned. -/
def Since (a b : World) : Prop := Below a.heap.size a b
theorem Since.go {a b c : World} (h : Since a b) (hb : Below b.heap.size b c) : Since a c := Below.trans h (hb.mono (Below.size h))
theorem Bytes.since {w w' : World} {v : Value} {l : List Nat} (h : Bytes w v l) (hs : Since w w') : Bytes w' v l := h.below (Nat.le_refl _) hs
end Go.Proofs.Ytfefkchjhooloaa

/-
  Symbols joined, in the program (package glue): fit, lay.
-/
set_option maxRecDepth 100000
namespace Go.Proofs.Ytfefkchjhooloaa
open Go.RowKit

/-- Bytes laid over others, from a place on, as far as there is room. -/
def layB (cur : List Nat) (off : Nat) (r : List Nat) : List Nat := cur.take off ++ r.take (cur.length - off) ++ cur.drop (off + min r.length (cur.length - off))
theorem lay_fit {l off : Nat} {A r : List Nat} (hA : A.length = off) (h : off ≤ l) : layB (fitR l A) off r = fitR l (A ++ r) := by
  have e1 : fitR l A = A ++ zeros (l - off) := by unfold fitR; rw [List.take_of_length_le (by omega), hA]
  have e2 : (A ++ zeros (l - off)).length = l := by simp [zeros]; omega
  unfold layB
  rw [e1, e2, List.take_left' hA, List.drop_append, List.drop_of_length_le (by omega), List.nil_append]
  unfold fitR
  rw [List.take_append, List.take_of_length_le (by omega : A.length ≤ l), hA, List.length_append]
  have e3 : (zeros (l - off)).drop (off + min r.length (l - off) - off) = zeros (l - (A.length + r.length)) := by
    unfold zeros
    rw [List.drop_replicate]
    congr 1
    omega
  rw [hA, e3, hA]

/-- 'o[off:]', of a whole block. -/
theorem slice_own {g l off : Nat} (h : off < l ∨ (off = 0 ∧ l = 0)) (w : World) : (Instr.sliceAt 25 (whole g l) (some (.int .i64 (off : Int))) none none).run Try.prog w = .ok (.slice (some ⟨g, off, none⟩) (l - off) (l - off)) w := by
  have h0 : (0 : Int) ≤ (off : Int) := Int.natCast_nonneg _
  rcases h with h | ⟨h, h'⟩
  · have h1 : (off : Int) ≤ (l : Int) := by omega
    have h2 : ¬ l = off := by omega
    go_simp
  · subst h; subst h'
    go_simp
/-- 'copy(o[off:], r)'. -/
theorem copy_at {w : World} {gb off : Nat} {v : Value} {cur r : List Nat} (hO : Own w gb cur) (hoff : off ≤ cur.length) (hB : Bytes w v r) :
    ∃ W, (∀ ty, (Builtin.copy_ #[25, 25] ty #[.slice (some ⟨gb, off, none⟩) (cur.length - off) (cur.length - off), v]).run Try.prog w = .ok (goInt ((min r.length (cur.length - off) : Nat) : Int)) W) ∧ Own W gb (layB cur off r) ∧ w.grownBy W (some gb) := by
  obtain ⟨a, c, rfl, h1, h2, h3, h4⟩ := hB
  have hO' : w.heap[gb]? = some (.cells (cur.map U8).toArray 5 (0, 0)) := hO
  have hgr : ∀ cs : Array Value, w.grownBy (w.setRow gb cs) (some gb) := fun cs => ⟨rfl, rfl, rfl, by simp, fun k _ hne => setRow_other w gb k _ (by intro e; rw [e] at hne; exact hne rfl)⟩
  cases a with
  | none =>
    have hr : r = [] := by
      refine Decidable.byContradiction fun hne => ?_
      obtain ⟨b, off, e, _⟩ := h4 hne
      cases e
    subst hr
    refine ⟨w, fun ty => ?_, ?_, grown_refl _ _⟩
    · simp [Builtin.copy_, run_underlying Try.underlying25, Builtin.lenOf, Builtin.firstCells, sizeOf, typeInfo, storeCells]
      obtain ⟨i, hi⟩ : ∃ i, Try.prog.info? 5 = some i := by
        cases h : Try.prog.info? 5 with
        | none => have := infoU8; rw [h] at this; cases this
        | some i => exact ⟨i, rfl⟩
      rw [hi]
      simp
    · have : layB cur off [] = cur := by unfold layB; simp
      rw [this]; exact hO
  | some ad =>
    have hwr : wr (cur.map U8) off ((r.take (cur.length - off)).map U8) = (layB cur off r).map U8 := by
      unfold wr layB
      simp [Nat.min_comm]
    refine ⟨w.setRow gb ((layB cur off r).map U8).toArray, fun ty => ?_, ?_, hgr _⟩
    · have h := run_copy_rowN (P := Try.prog) w 25 25 ty 5 gb off (cur.length - off) (cur.length - off) ad r.length c (cur.map U8).toArray 5 ((r.take (cur.length - off)).map U8) 1 (min r.length (cur.length - off)) Try.underlying25 infoU8 hO' rfl (by simp [Nat.min_comm]) (fun j u hj => ?_) (by simp; omega) (fun u hu => by
        obtain ⟨x, _, rfl⟩ := List.mem_map.1 hu
        rfl)
      · rw [h]
        simp only at hwr ⊢
        rw [hwr]
      · rw [List.getElem?_map, List.getElem?_take] at hj
        split at hj
        · rename_i hjm
          cases hx : r[j]? with
          | none => rw [hx] at hj; cases hj
          | some x =>
            rw [hx] at hj
            simp only [Option.map_some, Option.some.injEq] at hj
            subst hj
            have hjl := (List.getElem?_eq_some_iff.1 hx).1
            obtain ⟨b, off', e, _, hc⟩ := h4 (by intro e; rw [e] at hjl; simp at hjl)
            simp only [Option.some.injEq] at e
            subst e
            rw [row_add, hc j hjl, nth_eq r j hjl]
            have := (List.getElem?_eq_some_iff.1 hx).2
            rw [this]
        · cases hj
    · show (w.setRow gb _).heap[gb]? = _
      exact setRow_heap w gb _ _ _ _ hO'

/-- What lay leaves. -/
def LayV (w : World) (g : Nat) (L : List Nat) (m : Nat) (e : Ending) (w' : World) : Prop := e = .returned (.int .i64 (m : Int)) ∧ Own w' g L ∧ w.grownBy w' (some g)
set_option maxHeartbeats 1000000 in
theorem lay_any (l k n : Int) (s i g : Nat) (v : Value) (cur x : List Nat) (w : World) (hs : s ≤ 65535) (hi : i ≤ 65535) (his : i * s < cur.length ∨ (i * s = 0 ∧ cur.length = 0)) (hg : Own w g cur) (hx : Bytes w v x) :
    Calls Try.prog 33 #[.agg #[.int .i64 l, .int .i64 (s : Int), .int .i64 k, .int .u32 n], whole g cur.length, .int .i64 (i : Int), v] w (LayV w g (layB cur (i * s) x) (min x.length (cur.length - i * s))) := by
  obtain ⟨X, hX⟩ : ∃ X, X = i * s := ⟨_, rfl⟩
  have hm : IntKind.i64.wrap ((i : Int) * (s : Int)) = (X : Int) := by
    have e : (i : Int) * (s : Int) = (X : Int) := by rw [hX]; simp
    have : X ≤ 65535 * 65535 := by rw [hX]; exact Nat.mul_le_mul hi hs
    rw [e, IntKind.wrap_i64]; omega
  rw [← hX] at his ⊢
  clear hX
  obtain ⟨W1, hW1⟩ : ∃ W1, W1 = w.alloc (.cells #[.int .i64 l, .int .i64 (s : Int), .int .i64 k, .int .u32 n] 24) := ⟨_, rfl⟩
  have hb1 : Below w.heap.size w W1 := by rw [hW1]; exact (Below.refl _ _).alloc (Nat.le_refl _) _
  obtain ⟨W2, hcp, hO2, hgr⟩ := copy_at (off := X) (hg.go hb1) (by omega) (hx.go hb1)
  have HO2 := Lib.hid hO2
  have HG2 := Lib.hid (grown_trans (grown_of_below hb1 (some g)) hgr)
  have hsl := slice_own (g := g) his
  obtain ⟨a, c, rfl, _⟩ := hx
  obtain ⟨M, hM⟩ : ∃ M, M = min x.length (cur.length - X) := ⟨_, rfl⟩
  rw [← hM] at hcp ⊢
  rw [hW1] at hcp
  clear hW1 hb1 hgr hO2 hM his hg
  go_enter Try.func33, Try.ntmps33
  go_wp2_with fail
  go_ret
  exact ⟨rfl, HO2.out, HG2.out⟩

end Go.Proofs.Ytfefkchjhooloaa
