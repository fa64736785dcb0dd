/- Texts of one seat, laid together: PlanB, MixMath, NatMath, LibBytes, RefNatE, RefNatF, RefPlanN, Shelf, RefCut. -/
import Derived.Test.YtphdadibfeencaaDoorPlanChecksQ1
import Derived.Test.YtphdadibfeencaaDoorPlanChecksQ2
import Derived.Deep.DeepCutAuto
import Derived.Laws.BytesArg
import Derived.Lib.SliceRun
import Derived.Laws.OwnMore
import Derived.Deep.AppendLies
import Derived.BigQuiet
import Derived.Shelf.Utf8.RuneCount
import Derived.Shelf.Strconv.Itoa0
import Derived.Shelf.Strconv.Itoa1
import Derived.Shelf.LaysM
import Derived.Shelf.Strconv.Itoa2
import Derived.Shelf.Strconv.Itoa3
import Derived.Shelf.Strconv.Itoa4
import Derived.Shelf.Strconv.Clone
import Derived.Shelf.Strconv.SyntaxError
import Derived.Shelf.LaysC
import Derived.Shelf.Strconv.ToError
import Derived.Shelf.Strconv.Lower
import Derived.Shelf.Strconv.ParseUint10
import Derived.Shelf.Strconv.ParseUint10Empty
import Derived.Shelf.Strconv.ParseUint10Any
import Derived.Shelf.Strconv.RangeError
import Derived.Shelf.Strconv.ToErrorRange
import Derived.Shelf.Strconv.ParseUintEmpty
import Derived.Shelf.Strconv.ParseUint10b64
import Derived.Shelf.Strconv.ParseUint10b32
import Derived.Shelf.Strconv.ParseUint10b16
import Derived.Shelf.Strconv.ParseUint10b8
import Derived.Shelf.Strconv.ParseUint10At
import Derived.Ground.MpProg
import Derived.Shelf.Pu.ParseUintPublic10
import Derived.Shelf.Pu.ErrVarParseUint
import Derived.Shelf.Strings.Search1
import Derived.Shelf.Strings.Search2
import Derived.Shelf.Strings.Search3
import Derived.Shelf.Strings.Count
import Derived.Shelf.Strings.Shaped
import Derived.Shelf.Strings.Split
import Derived.Shelf.Strings.SplitShaped
import Derived.Shelf.Unicode.Decode
import Derived.Shelf.Strings.RuneCount
import Derived.Shelf.Strings.Explode
import Derived.Shelf.Unicode.DecodeSlow
import Derived.Shelf.Unicode.DecodeAny
import Derived.Test.YtphdadibfeencaaDoorProg
import Derived.Deep.Slices
import Derived.Deep.RegionHeld3
import Derived.Deep.QuietTactic

/-
  Plans in the program (layer 10): 'checked', 'Of', 'Room', 'Pad'.
-/
set_option maxRecDepth 100000
namespace Go.Proofs.YtphdadibfeencaaDoor
open Go.RowKit

/-- A plan's value. -/
def planV (l s k n : Int) : Value := .agg #[.int .i64 l, .int .i64 s, .int .i64 k, .int .u32 n]
def PlanE (w : World) (l s k n : Int) (err : Int) (e : Ending) (w' : World) : Prop := e = .returned (.tuple #[planV l s k n, .int .i64 err]) ∧ Below w.heap.size w w'
def okV (c x : Int) : Int := if c = 0 then x else 0
theorem store4_plan {w0 w : World} {g : Nat} {a b c d : Value} {T : TypeId} (hK : Blk w g #[a, b, c, d] T) (hg : w0.heap.size ≤ g) (hB : Below w0.heap.size w0 w) (x y z u : Value) :
    let w' := (((w.setCell ⟨g, 0, none⟩ x).setCell ⟨g, 1, none⟩ y).setCell ⟨g, 2, none⟩ z).setCell ⟨g, 3, none⟩ u
    w'.cell? ⟨g, 0, none⟩ = some x ∧ w'.cell? ⟨g, 1, none⟩ = some y ∧ w'.cell? ⟨g, 2, none⟩ = some z ∧ w'.cell? ⟨g, 3, none⟩ = some u ∧ Below w0.heap.size w0 w' := by
  have h := (((hK.set 0 x).set 1 y).set 2 z).set 3 u
  exact ⟨h.cell 0, h.cell 1, h.cell 2, h.cell 3, (((hB.setCell (p := ⟨g, 0, none⟩) hg _).setCell (p := ⟨g, 1, none⟩) hg _).setCell (p := ⟨g, 2, none⟩) hg _).setCell (p := ⟨g, 3, none⟩) hg _⟩
theorem Blk.four {w : World} {g : Nat} {a b c d : Value} {T : TypeId} (h : Blk w g #[a, b, c, d] T) : w.cell? ⟨g, 0, none⟩ = some a ∧ w.cell? ⟨g, 1, none⟩ = some b ∧ w.cell? ⟨g, 2, none⟩ = some c ∧ w.cell? ⟨g, 3, none⟩ = some d := ⟨h.cell 0, h.cell 1, h.cell 2, h.cell 3⟩

set_option maxHeartbeats 1000000 in
theorem checked_any (l s k n : Int) (w : World) (hl0 : -9223372036854775808 ≤ l) (hl : l ≤ 9223372036854775807) (hs2 : s ≤ 9223372036854775807) :
    Calls Tryd.prog 17 #[planV l s k n] w (PlanE w (okV (checkE l s k) l) (okV (checkE l s k) s) (okV (checkE l s k) k) (okV (checkE l s k) n) (checkE l s k)) := by
  have HC := Lib.hid (fun w => check_any l s k n w hl0 hl hs2)
  obtain ⟨c, hc⟩ : ∃ c, c = checkE l s k := ⟨_, rfl⟩
  rw [← hc] at HC ⊢
  clear hc
  unfold planV
  by_cases h : c = 0
  · subst h
    go_enter Tryd.func17, Tryd.ntmps17
    go_wp2_with fail
    obtain ⟨B, hk1, hk2, hs⟩ := blocks2 w #[.int .i64 l, .int .i64 s, .int .i64 k, .int .u32 n] 24 #[.int .i64 0, .int .i64 0, .int .i64 0, .int .u32 0] 24
    generalize ((w.alloc (.cells #[.int .i64 l, .int .i64 s, .int .i64 k, .int .u32 n] 24)).alloc (.cells #[.int .i64 0, .int .i64 0, .int .i64 0, .int .u32 0] 24)) = W at *
    have K1 := Lib.hid hk1
    have K2 := Lib.hid hk2
    have HS := Lib.hid hs
    clear hs hk1 hk2
    have hzW := B.size
    refine (HC.out _).mono ?_
    rintro e w1 ⟨rfl, hb⟩
    replace K1 := Lib.hid (K1.out.go hb)
    replace K2 := Lib.hid (K2.out.go hb)
    replace B := B.trans (hb.mono B.size)
    have hzw1 := B.size
    clear hb
    obtain ⟨p0, p1, p2, p3⟩ := K1.out.four
    have pl := K1.out.lt
    obtain ⟨q0, q1, q2, q3⟩ := K2.out.four
    have ql := K2.out.lt
    have r0 := K2.out.free 0
    have r1 := K2.out.free 1
    have r2 := K2.out.free 2
    have r3 := K2.out.free 3
    go_wp2_with fail
    obtain ⟨e0, e1, e2, e3, hB⟩ := store4_plan K2.out (by omega) B (.int .i64 l) (.int .i64 s) (.int .i64 k) (.int .u32 n)
    exact bodyPost_ret (v := .tuple #[planV l s k n, .int .i64 0]) (by simp [results, Tryd.results17, go_sem, e0, e1, e2, e3, planV]) rfl ⟨by simp [okV], hB⟩
  · have hb : (c != (0 : Int)) = true := by rw [bne_iff_ne]; exact h
    have e : ∀ x, okV c x = 0 := fun x => if_neg h
    rw [e, e, e, e]
    clear h e
    go_enter Tryd.func17, Tryd.ntmps17
    go_wp2_with fail
    obtain ⟨B, hk1, hk2, hs⟩ := blocks2 w #[.int .i64 l, .int .i64 s, .int .i64 k, .int .u32 n] 24 #[.int .i64 0, .int .i64 0, .int .i64 0, .int .u32 0] 24
    generalize ((w.alloc (.cells #[.int .i64 l, .int .i64 s, .int .i64 k, .int .u32 n] 24)).alloc (.cells #[.int .i64 0, .int .i64 0, .int .i64 0, .int .u32 0] 24)) = W at *
    have K1 := Lib.hid hk1
    have K2 := Lib.hid hk2
    have HS := Lib.hid hs
    clear hs hk1 hk2
    have hzW := B.size
    refine (HC.out _).mono ?_
    rintro e w1 ⟨rfl, hb⟩
    replace K1 := Lib.hid (K1.out.go hb)
    replace K2 := Lib.hid (K2.out.go hb)
    replace B := B.trans (hb.mono B.size)
    have hzw1 := B.size
    clear hb
    obtain ⟨p0, p1, p2, p3⟩ := K1.out.four
    have pl := K1.out.lt
    obtain ⟨q0, q1, q2, q3⟩ := K2.out.four
    have ql := K2.out.lt
    have r0 := K2.out.free 0
    have r1 := K2.out.free 1
    have r2 := K2.out.free 2
    have r3 := K2.out.free 3
    go_wp2_with fail
    obtain ⟨e0, e1, e2, e3, hB⟩ := store4_plan K2.out (by omega) B (.int .i64 0) (.int .i64 0) (.int .i64 0) (.int .u32 0)
    exact bodyPost_ret (v := .tuple #[planV 0 0 0 0, .int .i64 c]) (by simp [results, Tryd.results17, go_sem, e0, e1, e2, e3, planV]) rfl ⟨rfl, hB⟩

set_option maxHeartbeats 1000000 in
theorem of10_any (l s n : Int) (w : World) (hl0 : -9223372036854775808 ≤ l) (hl : l ≤ 9223372036854775807) (hs2 : s ≤ 9223372036854775807) :
    Calls Tryd.prog 7 #[.int .i64 l, .int .i64 s, .int .u32 n] w (PlanE w (okV (checkE l s (needI l s)) l) (okV (checkE l s (needI l s)) s) (okV (checkE l s (needI l s)) (needI l s)) (okV (checkE l s (needI l s)) n) (checkE l s (needI l s))) := by
  have HN := Lib.hid (fun w => need_any l s w hl0 hl hs2)
  have HC := Lib.hid (fun w => checked_any l s (needI l s) n w hl0 hl hs2)
  obtain ⟨m, hm⟩ : ∃ m, m = needI l s := ⟨_, rfl⟩
  rw [← hm] at HN HC ⊢
  clear hm
  obtain ⟨c, hc⟩ : ∃ c, c = checkE l s m := ⟨_, rfl⟩
  rw [← hc] at HC ⊢
  clear hc
  go_enter Tryd.func7, Tryd.ntmps7
  go_wp2_with fail
  obtain ⟨B, hk1, hs⟩ := blocks1 w #[.int .i64 0, .int .i64 0, .int .i64 0, .int .u32 0] 24
  generalize (w.alloc (.cells #[.int .i64 0, .int .i64 0, .int .i64 0, .int .u32 0] 24)) = W at *
  have K1 := Lib.hid hk1
  have HS := Lib.hid hs
  clear hs hk1
  have hzW := B.size
  refine (HN.out _).mono ?_
  rintro e w1 ⟨rfl, rfl⟩
  go_wp2_with fail
  refine (HC.out _).mono ?_
  rintro e w2 ⟨rfl, hb⟩
  replace K1 := Lib.hid (K1.out.go hb)
  replace B := B.trans (hb.mono B.size)
  clear hb
  obtain ⟨q0, q1, q2, q3⟩ := K1.out.four
  have ql := K1.out.lt
  have r0 := K1.out.free 0
  have r1 := K1.out.free 1
  have r2 := K1.out.free 2
  have r3 := K1.out.free 3
  unfold planV
  go_wp2_with fail
  obtain ⟨e0, e1, e2, e3, hB⟩ := store4_plan K1.out (by omega) B (.int .i64 (okV c l)) (.int .i64 (okV c s)) (.int .i64 (okV c m)) (.int .u32 (okV c n))
  exact bodyPost_ret (v := .tuple #[planV (okV c l) (okV c s) (okV c m) (okV c n), .int .i64 c]) (by simp [results, Tryd.results7, go_sem, e0, e1, e2, e3, planV]) rfl ⟨rfl, hB⟩
/-- Room and padding. -/
def roomI (l s k : Int) : Int := if checkE l s k = 0 then k * s else 0
def padI (l s k : Int) : Int := if checkE l s k = 0 then k * s - l else 0
theorem check_ok10 {l s k : Int} (h : checkE l s k = 0) : 0 ≤ l ∧ 1 ≤ s ∧ s ≤ 65535 ∧ 1 ≤ k ∧ k ≤ 4096 ∧ k = needI l s ∧ l ≤ k * s := by
  rw [check_spell] at h
  by_cases h1 : l < 0
  · rw [if_pos h1] at h; cases h
  · rw [if_neg h1] at h
    by_cases h2 : s < 1 ∨ 65535 < s
    · rw [if_pos h2] at h; cases h
    · rw [if_neg h2] at h
      by_cases h3 : 4096 < needI l s
      · rw [if_pos h3] at h; cases h
      · rw [if_neg h3] at h
        by_cases h4 : k = needI l s
        · have hn : needI l s = (needT l.toNat s.toNat : Int) := by unfold needI; rw [if_neg (by omega), if_neg h1]
          obtain ⟨a, ha⟩ : ∃ a : Nat, l = a := ⟨l.toNat, by omega⟩
          obtain ⟨b, hb⟩ : ∃ b : Nat, s = b := ⟨s.toNat, by omega⟩
          subst ha
          subst hb
          simp only [Int.toNat_natCast] at hn
          have h5 : 1 ≤ needT a b := by unfold needT; split; exact Nat.le_refl _; exact Nat.succ_le_succ (Nat.zero_le _)
          have h6 : a ≤ needT a b * b := by
            unfold needT
            by_cases h7 : a ≤ b
            · rw [if_pos h7]; omega
            · rw [if_neg h7]
              have h8 := Nat.div_add_mod (a - 1) b
              have h9 := Nat.mod_lt (a - 1) (show 0 < b by omega)
              have h10 := Nat.mul_comm ((a - 1) / b) b
              obtain ⟨q, hq⟩ : ∃ q, q = (a - 1) / b := ⟨_, rfl⟩
              obtain ⟨r, hr⟩ : ∃ r, r = (a - 1) % b := ⟨_, rfl⟩
              rw [Nat.succ_mul]
              rw [← hq] at h8 h10 ⊢
              rw [← hr] at h8 h9
              obtain ⟨t, ht⟩ : ∃ t, t = b * q := ⟨_, rfl⟩
              rw [h10]
              rw [← ht] at h8 ⊢
              omega
          have h7 : ((needT a b * b : Nat) : Int) = (needT a b : Int) * (b : Int) := by simp
          refine ⟨by omega, by omega, by omega, by omega, by omega, h4, ?_⟩
          rw [h4, hn, ← h7]; omega
        · rw [if_neg h4] at h; cases h

set_option maxHeartbeats 1000000 in
theorem room_any (l s k n : Int) (w : World) (hl0 : -9223372036854775808 ≤ l) (hl : l ≤ 9223372036854775807) (hs2 : s ≤ 9223372036854775807) :
    Calls Tryd.prog 13 #[planV l s k n] w fun e w' => e = .returned (.int .i64 (roomI l s k)) ∧ Below w.heap.size w w' := by
  have HC := Lib.hid (fun w => check_any l s k n w hl0 hl hs2)
  unfold roomI planV
  by_cases h : checkE l s k = 0
  · rw [if_pos h]
    rw [h] at HC
    obtain ⟨h1, h2, h3, h4, h5, -, h6⟩ := check_ok10 h
    obtain ⟨s', rfl⟩ : ∃ s' : Nat, s = s' := ⟨s.toNat, by omega⟩
    obtain ⟨k', rfl⟩ : ∃ k' : Nat, k = k' := ⟨k.toNat, by omega⟩
    obtain ⟨p, hp⟩ : ∃ p, p = k' * s' := ⟨_, rfl⟩
    have hpi : (k' : Int) * (s' : Int) = (p : Int) := by rw [hp]; simp
    have hp2 : p ≤ 4096 * 65535 := by rw [hp]; exact Nat.mul_le_mul (by omega) (by omega)
    clear h h6 hp
    go_enter Tryd.func13, Tryd.ntmps13
    go_wp2_with fail
    obtain ⟨B, hk1, hs⟩ := blocks1 w #[.int .i64 l, .int .i64 (s' : Int), .int .i64 (k' : Int), .int .u32 n] 24
    generalize (w.alloc (.cells #[.int .i64 l, .int .i64 (s' : Int), .int .i64 (k' : Int), .int .u32 n] 24)) = W at *
    have K1 := Lib.hid hk1
    have HS := Lib.hid hs
    clear hs hk1
    have hzW := B.size
    refine (HC.out _).mono ?_
    rintro e w1 ⟨rfl, hb⟩
    replace K1 := Lib.hid (K1.out.go hb)
    replace B := B.trans (hb.mono B.size)
    have hzw1 := B.size
    clear hb
    obtain ⟨p0, p1, p2, p3⟩ := K1.out.four
    have pl := K1.out.lt
    clear HC
    go_wp2_with fail
    go_ret
    exact ⟨by first | rfl | (rw [hpi]; rfl), B⟩
  · rw [if_neg h]
    obtain ⟨c, hc⟩ : ∃ c, c = checkE l s k := ⟨_, rfl⟩
    rw [← hc] at HC h
    have hb : (c != (0 : Int)) = true := by rw [bne_iff_ne]; exact h
    clear hc h
    go_enter Tryd.func13, Tryd.ntmps13
    go_wp2_with fail
    obtain ⟨B, hk1, hs⟩ := blocks1 w #[.int .i64 l, .int .i64 s, .int .i64 k, .int .u32 n] 24
    generalize (w.alloc (.cells #[.int .i64 l, .int .i64 s, .int .i64 k, .int .u32 n] 24)) = W at *
    have K1 := Lib.hid hk1
    have HS := Lib.hid hs
    clear hs hk1
    have hzW := B.size
    refine (HC.out _).mono ?_
    rintro e w1 ⟨rfl, hb⟩
    replace B := B.trans (hb.mono B.size)
    have hzw1 := B.size
    clear hb
    go_wp2_with fail
    go_ret
    exact ⟨rfl, B⟩
theorem load_plan10 {w : World} {g : Nat} {l s k n : Value} {T : TypeId} (h : Blk w g #[l, s, k, n] T) : (Instr.loadAt 24 (.pointer (some ⟨g, 0, none⟩))).run Tryd.prog w = .ok (.agg #[l, s, k, n]) w := by
  obtain ⟨k0, k1, k2, k3⟩ := h.four
  go_simp
theorem sub_int10 {x y : Operand} {a b c : Nat} (h : (a : Int) - (b : Int) = (c : Int)) (hc : c ≤ 9223372036854775807) (w : World) : (do eqGuard .sub 3 x y (.int .i64 a) (.int .i64 b); binOp .sub 3 (.int .i64 a) (.int .i64 b) : Sem Value).run Tryd.prog w = .ok (.int .i64 c) w := by
  go_simp
  rw [IntKind.wrap_i64]; omega
set_option maxHeartbeats 1000000 in
theorem pad_any (l s k n : Int) (w : World) (hl0 : -9223372036854775808 ≤ l) (hl : l ≤ 9223372036854775807) (hs2 : s ≤ 9223372036854775807) :
    Calls Tryd.prog 14 #[planV l s k n] w fun e w' => e = .returned (.int .i64 (padI l s k)) ∧ Below w.heap.size w w' := by
  have HC := Lib.hid (fun w => check_any l s k n w hl0 hl hs2)
  have HR := Lib.hid (fun w => room_any l s k n w hl0 hl hs2)
  unfold padI
  unfold roomI at HR
  unfold planV at HR ⊢
  by_cases h : checkE l s k = 0
  · rw [if_pos h]
    rw [if_pos h] at HR
    rw [h] at HC
    obtain ⟨h1, h2, h3, h4, h5, -, h6⟩ := check_ok10 h
    obtain ⟨l', rfl⟩ : ∃ l' : Nat, l = l' := ⟨l.toNat, by omega⟩
    obtain ⟨s', rfl⟩ : ∃ s' : Nat, s = s' := ⟨s.toNat, by omega⟩
    obtain ⟨k', rfl⟩ : ∃ k' : Nat, k = k' := ⟨k.toNat, by omega⟩
    obtain ⟨p, hp⟩ : ∃ p, p = k' * s' := ⟨_, rfl⟩
    have hpi : (k' : Int) * (s' : Int) = (p : Int) := by rw [hp]; simp
    have hp2 : p ≤ 4096 * 65535 := by rw [hp]; exact Nat.mul_le_mul (by omega) (by omega)
    rw [hpi] at HR h6 ⊢
    obtain ⟨d, hd⟩ : ∃ d, d = p - l' := ⟨_, rfl⟩
    have hdi : (p : Int) - (l' : Int) = (d : Int) := by omega
    rw [hdi]
    have HD := Lib.hid hdi
    have hd2 : d ≤ p := by omega
    clear h h6 hp hpi hd hdi
    go_enter Tryd.func14, Tryd.ntmps14
    go_wp2_with fail
    obtain ⟨B, hk1, hs⟩ := blocks1 w #[.int .i64 (l' : Int), .int .i64 (s' : Int), .int .i64 (k' : Int), .int .u32 n] 24
    generalize (w.alloc (.cells #[.int .i64 (l' : Int), .int .i64 (s' : Int), .int .i64 (k' : Int), .int .u32 n] 24)) = W at *
    have K1 := Lib.hid hk1
    have HS := Lib.hid hs
    clear hs hk1
    have hzW := B.size
    refine (HC.out _).mono ?_
    rintro e w1 ⟨rfl, hb⟩
    replace K1 := Lib.hid (K1.out.go hb)
    replace B := B.trans (hb.mono B.size)
    have hzw1 := B.size
    clear hb
    go_upto_region 3 with fail
    obtain ⟨g, hg⟩ : ∃ g : Nat, g = w.heap.size := ⟨_, rfl⟩
    rw [← hg] at K1
    simp only [← hg]
    clear hg
    refine wp_region_mono (C := Cb w1) (R := Rb) (H := fun _ => Hb w1) [Ty.val 6 (.agg #[.int .i64 (l' : Int), .int .i64 (s' : Int), .int .i64 (k' : Int), .int .u32 n]), Ty.val 7 (.int .i64 (p : Int)), Ty.val 8 (.pointer (some ⟨g, 0, none⟩)), Ty.val 9 (.int .i64 (l' : Int)), Ty.val 10 (.int .i64 (d : Int)), Ty.val 2 (.int .i64 (d : Int))] (by kernel_rfl) (hC_b w1) (hCH_b w1) (drew_b w1) ⟨trivial, trivial, trivial, trivial, trivial, trivial, trivial⟩ (by kernel_rfl) ?_ ?_
    · refine ⟨?_, ?_, ?_, ?_, ?_, ?_, trivial⟩
      · intro ac wc hC hsz hfr hd hpr
        have d1 : ac.eval (.tmp 1) = (.pointer (some ⟨g, 0, none⟩)) := hfr 1 rfl
        rw [if_pos (wanted_none rfl)]
        exact ob_load _ rfl rfl rfl (Nat.lt_of_lt_of_eq (by decide : 6 < 11) hsz.symm) rfl d1 (load_plan10 (K1.out.go hC)) (Below.refl _ _) rfl
      · intro ac wc hC hsz hfr hd hpr
        have d6 : ac.eval (.tmp 6) = (.agg #[.int .i64 (l' : Int), .int .i64 (s' : Int), .int .i64 (k' : Int), .int .u32 n]) := hd 0 rfl
        rw [if_pos (wanted_none rfl)]
        refine ob_call rfl rfl rfl (Nat.lt_of_lt_of_eq (by decide : 7 < 11) hsz.symm) rfl (enter_of Tryd.func13 (by kernel_rfl) rfl) ?_
        show Calls Tryd.prog 13 #[ac.eval (.tmp 6)] wc _
        rw [d6]
        exact (HR.out wc).mono fun _ _ ⟨he, hb⟩ => ⟨_, he, rfl, hb⟩
      · intro ac wc hC hsz hfr hd hpr
        have d1 : ac.eval (.tmp 1) = (.pointer (some ⟨g, 0, none⟩)) := hfr 1 rfl
        rw [if_pos (wanted_none rfl)]
        exact ob_field _ rfl rfl rfl (Nat.lt_of_lt_of_eq (by decide : 8 < 11) hsz.symm) rfl d1 (fun w => by go_simp) (Below.refl _ _) rfl
      · intro ac wc hC hsz hfr hd hpr
        have d8 : ac.eval (.tmp 8) = (.pointer (some ⟨g, 0, none⟩)) := hd 2 rfl
        rw [if_pos (wanted_none rfl)]
        exact ob_load _ rfl rfl rfl (Nat.lt_of_lt_of_eq (by decide : 9 < 11) hsz.symm) rfl d8 (load_int ((K1.out.go hC).cell 0)) (Below.refl _ _) rfl
      · intro ac wc hC hsz hfr hd hpr
        have d7 : ac.eval (.tmp 7) = (.int .i64 (p : Int)) := hd 1 rfl
        have d9 : ac.eval (.tmp 9) = (.int .i64 (l' : Int)) := hd 3 rfl
        rw [if_pos (wanted_none rfl)]
        exact ob_bin _ rfl rfl rfl (Nat.lt_of_lt_of_eq (by decide : 10 < 11) hsz.symm) rfl d7 d9 (sub_int10 HD.out (by omega)) (Below.refl _ _) rfl
      · intro ac wc hC hsz hfr hd hpr
        have d10 : ac.eval (.tmp 10) = (.int .i64 (d : Int)) := hd 4 rfl
        rw [if_pos (wanted_none rfl)]
        exact ob_copy rfl rfl rfl (Nat.lt_of_lt_of_eq (by decide : 2 < 11) hsz.symm) (Or.inr rfl) (Below.refl _ _) d10
    intro a' w2 hC hdef hsz hfr hd
    have e6 : a'.eval (.tmp 6) = (.agg #[.int .i64 (l' : Int), .int .i64 (s' : Int), .int .i64 (k' : Int), .int .u32 n]) := hd 0 (by decide)
    have e7 : a'.eval (.tmp 7) = (.int .i64 (p : Int)) := hd 1 (by decide)
    have e8 : a'.eval (.tmp 8) = (.pointer (some ⟨g, 0, none⟩)) := hd 2 (by decide)
    have e9 : a'.eval (.tmp 9) = (.int .i64 (l' : Int)) := hd 3 (by decide)
    have e10 : a'.eval (.tmp 10) = (.int .i64 (d : Int)) := hd 4 (by decide)
    have e2 : a'.eval (.tmp 2) = (.int .i64 (d : Int)) := hd 5 (by decide)
    have hact := act_puts hdef hsz hfr
    simp only [dstsOf, List.filterMap, putAll, Act.put, List.setIfInBounds_toArray, List.set_cons_succ, List.set_cons_zero, e6, e7, e8, e9, e10, e2] at hact
    clear hd hfr hsz hdef e6 e7 e8 e9 e10 e2
    subst hact
    replace B := B.trans (hC.mono B.size)
    clear hC
    go_wp2_with fail
    go_ret
    exact ⟨rfl, B⟩
  · rw [if_neg h]
    obtain ⟨c, hc⟩ : ∃ c, c = checkE l s k := ⟨_, rfl⟩
    rw [← hc] at HC h
    have hb : (c != (0 : Int)) = true := by rw [bne_iff_ne]; exact h
    clear hc h HR
    go_enter Tryd.func14, Tryd.ntmps14
    go_wp2_with fail
    obtain ⟨B, hk1, hs⟩ := blocks1 w #[.int .i64 l, .int .i64 s, .int .i64 k, .int .u32 n] 24
    generalize (w.alloc (.cells #[.int .i64 l, .int .i64 s, .int .i64 k, .int .u32 n] 24)) = W at *
    have K1 := Lib.hid hk1
    have HS := Lib.hid hs
    clear hs hk1
    have hzW := B.size
    refine (HC.out _).mono ?_
    rintro e w1 ⟨rfl, hb⟩
    replace B := B.trans (hb.mono B.size)
    have hzw1 := B.size
    clear hb
    go_wp2_with fail
    go_ret
    exact ⟨rfl, B⟩

end Go.Proofs.YtphdadibfeencaaDoor

/-
  Bytes out of a seed (layer 5), in plain numbers.
-/
set_option maxRecDepth 100000
namespace Go.Proofs.YtphdadibfeencaaDoor
open Go.RowKit

namespace Mx
/-- Combined with itself, so many bits to the right. -/
def sh (z k : Nat) : Nat := z ^^^ (z / 2 ^ k)
/-- The state's step. -/
def step (s : Nat) : Nat := (s + 11400714819323198485) % 18446744073709551616
/-- What a state tells. -/
def mixed (z : Nat) : Nat := sh (sh (sh z 30 * 13787848793156543929 % 18446744073709551616) 27 * 10723151780598845931 % 18446744073709551616) 31
/-! ### Unlike states tell unlike numbers -/

end Mx

end Go.Proofs.YtphdadibfeencaaDoor

/-
  Whole numbers as bytes, the lowest first (layer 6), in plain numbers.
-/
set_option maxRecDepth 100000
namespace Go.Proofs.YtphdadibfeencaaDoor
open Go.RowKit

namespace Nt
/-- The number that bytes spell, the lowest first. -/
def val : List Nat → Nat
  | [] => 0
  | x :: l => x + 256 * val l
/-! ### Two numbers, byte by byte -/

/-! ### Which is greater -/

/-! ### Products -/

/-! ### Texts -/

end Nt

end Go.Proofs.YtphdadibfeencaaDoor

/-
  The library's Clone and Equal, of bytes.
-/
set_option maxRecDepth 100000
namespace Go.Proofs.YtphdadibfeencaaDoor
open Go.RowKit

/-- The bytes as a string's. -/
def strOf (l : List Nat) : ByteArray := strOfNums (l.map Int.ofNat)

end Go.Proofs.YtphdadibfeencaaDoor

/-
  The document's answer for numbers (wellspringref06), in the program: 'Text'.
-/
set_option maxRecDepth 100000
namespace Go.Proofs.YtphdadibfeencaaDoor
open Go.RowKit

theorem strOf_append (a b : List Nat) : strOf a ++ strOf b = strOf (a ++ b) := by
  have e : ∀ x y : ByteArray, x.data.toList = y.data.toList → x = y := by
    intro x y h
    cases x; cases y
    simp only [ByteArray.mk.injEq]
    exact Array.toList_inj.1 h
  apply e
  rw [ByteArray.data_append, Array.toList_append]
  unfold strOf
  rw [strOfNums_data, strOfNums_data, strOfNums_data]
  simp

theorem strOf_size (l : List Nat) : (strOf l).size = l.length := by unfold strOf; rw [strOfNums_size, List.length_map]

end Go.Proofs.YtphdadibfeencaaDoor

/-
  The document's answer for numbers (wellspringref06), in the program: 'Parse'.
-/
set_option maxRecDepth 100000
namespace Go.Proofs.YtphdadibfeencaaDoor
open Go.RowKit

namespace Nt
/-- Is the character a digit's? -/
def IsHex (c : Nat) : Prop := (48 ≤ c ∧ c ≤ 57) ∨ (97 ≤ c ∧ c ≤ 102)
instance (c : Nat) : Decidable (IsHex c) := by unfold IsHex; infer_instance
/-- The character number j, counted from the end. -/
def ch (t : List Nat) (j : Nat) : Nat := nth t (t.length - 1 - j)
/-- Is it a number's text? -/
def IsText (t : List Nat) : Prop := t ≠ [] ∧ ¬ (1 < t.length ∧ nth t 0 = 48) ∧ ∀ j, j < t.length → IsHex (ch t j)
instance (t : List Nat) : Decidable (IsText t) := by unfold IsText; infer_instance
end Nt

end Go.Proofs.YtphdadibfeencaaDoor

/-
  The document's answer for a plan's text (wellspringref10), in the program: 'Number'.
-/
set_option maxRecDepth 100000
namespace Go.Proofs.YtphdadibfeencaaDoor
open Go.RowKit

/-- Is the character a figure? -/
def IsDig (c : Nat) : Prop := 48 ≤ c ∧ c ≤ 57
instance (c : Nat) : Decidable (IsDig c) := inferInstanceAs (Decidable (_ ∧ _))
/-- Are these a number's figures? -/
def NumOk (t : List Nat) : Prop := t ≠ [] ∧ ¬ (1 < t.length ∧ nth t 0 = 48) ∧ ∀ i, i < t.length → IsDig (nth t i)
instance (t : List Nat) : Decidable (NumOk t) := inferInstanceAs (Decidable (_ ∧ _ ∧ _))
end Go.Proofs.YtphdadibfeencaaDoor

/-
  DERIVED: THE SHELF's CONTRACTS AT THIS DUMP, IN PLAIN WORDS (tools/lay-plain.mjs out of 'TrydShelf.lean', which tools/lay-shelf.mjs wrote): THE SAME DECLARATIONS UNDER THE SAME NAMES: 'import', 'namespace', 'open', 'def', 'theorem' AND NOTHING ELSE: no command of the shelf's: FOR A HAND-IN. Each laying: the table of numbers ('.._ren') and one theorem, a field a fact of the dump's own or the kernel's comparison; each contract: ONE APPLICATION.
-/
namespace Go.Proofs
open Go.Shelf
def Tryd.laysM246_ren : Go.Shelf.Ren := ⟨fun | 246 => 24 | 283 => 29 | 284 => 30 | 285 => 31 | 286 => 32 | 129 => 38 | 317 => 37 | 318 => 39 | 319 => 40 | 320 => 41 | 337 => 51 | 338 => 52 | n => n, fun | 2 => 2 | 3 => 3 | 9 => 9 | 4 => 4 | 171 => 63 | 0 => 0 | 53 => 46 | 37 => 66 | 5 => 5 | 173 => 67 | 212 => 73 | 51 => 22 | 20 => 20 | 213 => 74 | 46 => 76 | 232 => 94 | 233 => 95 | n => n, fun | 17 => 0 | 18 => 3 | 19 => 4 | n => n⟩
def Tryd.laysM243_ren : Go.Shelf.Ren := ⟨fun | 243 => 25 | 246 => 24 | 283 => 29 | 284 => 30 | 285 => 31 | 286 => 32 | 129 => 38 | 317 => 37 | 318 => 39 | 319 => 40 | 320 => 41 | 337 => 51 | 338 => 52 | n => n, fun | 3 => 3 | 9 => 9 | 2 => 2 | 4 => 4 | 171 => 63 | 0 => 0 | 53 => 46 | 37 => 66 | 5 => 5 | 173 => 67 | 212 => 73 | 51 => 22 | 20 => 20 | 213 => 74 | 46 => 76 | 232 => 94 | 233 => 95 | n => n, fun | 17 => 0 | 18 => 3 | 19 => 4 | n => n⟩
def Tryd.laysM171_ren : Go.Shelf.Ren := ⟨fun | 171 => 20 | 243 => 25 | 246 => 24 | 283 => 29 | 284 => 30 | 285 => 31 | 286 => 32 | 129 => 38 | 317 => 37 | 318 => 39 | 319 => 40 | 320 => 41 | 337 => 51 | 338 => 52 | n => n, fun | 3 => 3 | 9 => 9 | 2 => 2 | 4 => 4 | 171 => 63 | 0 => 0 | 53 => 46 | 37 => 66 | 5 => 5 | 173 => 67 | 212 => 73 | 51 => 22 | 20 => 20 | 213 => 74 | 46 => 76 | 232 => 94 | 233 => 95 | n => n, fun | 17 => 0 | 18 => 3 | 19 => 4 | n => n⟩
theorem Tryd.laysM171 : Go.Proofs.LaysM.n171 Tryd.prog Tryd.laysM171_ren := {
  mixed := by kernel_rfl
  f129 := Tryd.func38.trans (congrArg some (by kernel_rfl))
  f171 := Tryd.func20.trans (congrArg some (by kernel_rfl))
  f243 := Tryd.func25.trans (congrArg some (by kernel_rfl))
  f246 := Tryd.func24.trans (congrArg some (by kernel_rfl))
  f283 := Tryd.func29.trans (congrArg some (by kernel_rfl))
  f284 := Tryd.func30.trans (congrArg some (by kernel_rfl))
  f285 := Tryd.func31.trans (congrArg some (by kernel_rfl))
  f286 := Tryd.func32.trans (congrArg some (by kernel_rfl))
  f317 := Tryd.func37.trans (congrArg some (by kernel_rfl))
  f318 := Tryd.func39.trans (congrArg some (by kernel_rfl))
  f319 := Tryd.func40.trans (congrArg some (by kernel_rfl))
  f320 := Tryd.func41.trans (congrArg some (by kernel_rfl))
  f337 := Tryd.func51.trans (congrArg some (by kernel_rfl))
  f338 := Tryd.func52.trans (congrArg some (by kernel_rfl))
  t0 := Tryd.underlying0
  a0 := Tryd.isAgg0
  z0 := Tryd.sizeOf0
  v0 := Tryd.zeroValue0
  t2 := Tryd.underlying2
  a2 := Tryd.isAgg2
  z2 := Tryd.sizeOf2
  v2 := Tryd.zeroValue2
  t3 := Tryd.underlying3
  a3 := Tryd.isAgg3
  z3 := Tryd.sizeOf3
  v3 := Tryd.zeroValue3
  t4 := Tryd.underlying4
  a4 := Tryd.isAgg4
  z4 := Tryd.sizeOf4
  v4 := Tryd.zeroValue4
  t5 := Tryd.underlying5
  a5 := Tryd.isAgg5
  z5 := Tryd.sizeOf5
  v5 := Tryd.zeroValue5
  t9 := Tryd.underlying9
  a9 := Tryd.isAgg9
  z9 := Tryd.sizeOf9
  v9 := Tryd.zeroValue9
  t20 := Tryd.underlying20
  a20 := Tryd.isAgg20
  z20 := Tryd.sizeOf20
  v20 := Tryd.zeroValue20
  t37 := Tryd.underlying66
  a37 := Tryd.isAgg66
  z37 := Tryd.sizeOf66
  v37 := Tryd.zeroValue66
  t46 := Tryd.underlying76
  a46 := Tryd.isAgg76
  z46 := Tryd.sizeOf76
  v46 := Tryd.zeroValue76
  t51 := Tryd.underlying22
  a51 := Tryd.isAgg22
  z51 := Tryd.sizeOf22
  v51 := Tryd.zeroValue22
  t53 := Tryd.underlying46
  a53 := Tryd.isAgg46
  z53 := Tryd.sizeOf46
  v53 := Tryd.zeroValue46
  t171 := Tryd.underlying63
  a171 := Tryd.isAgg63
  z171 := Tryd.sizeOf63
  v171 := Tryd.zeroValue63
  t173 := Tryd.underlying67
  a173 := Tryd.isAgg67
  z173 := Tryd.sizeOf67
  v173 := Tryd.zeroValue67
  t212 := Tryd.underlying73
  a212 := Tryd.isAgg73
  z212 := Tryd.sizeOf73
  v212 := Tryd.zeroValue73
  t213 := Tryd.underlying74
  a213 := Tryd.isAgg74
  z213 := Tryd.sizeOf74
  t232 := Tryd.underlying94
  a232 := Tryd.isAgg94
  z232 := Tryd.sizeOf94
  v232 := Tryd.zeroValue94
  t233 := Tryd.underlying95
  a233 := Tryd.isAgg95
  z233 := Tryd.sizeOf95
  v233 := Tryd.zeroValue95
  g17 := by kernel_rfl
  g18 := by kernel_rfl
  g19 := by kernel_rfl
  i0 := by kernel_rfl
  i2 := by kernel_rfl
  i3 := by kernel_rfl
  i4 := by kernel_rfl
  i5 := by kernel_rfl
  i9 := by kernel_rfl
  i20 := by kernel_rfl
  i37 := by kernel_rfl
  i46 := by kernel_rfl
  i51 := by kernel_rfl
  i53 := by kernel_rfl
  i171 := by kernel_rfl
  i173 := by kernel_rfl
  i212 := by kernel_rfl
  i232 := by kernel_rfl
  i233 := by kernel_rfl
  m17 := by kernel_rfl
  m18 := by kernel_rfl
  m19 := by kernel_rfl }
open Go.RowKit Go.Sort Go.Lib in
/-- strconv.Itoa: "Itoa is equivalent to FormatInt(int64(i), 10).": i's DECIMAL NUMERAL ('Lib.itoa': a '-' where i is negative, then the digits), FOR EVERY int. The world behind the call: the world before it, new blocks behind the heap (the library's 'var a [24]byte'), draws. (LAID: no walk: one application.) -/
theorem Tryd.strconv_Itoa (n : Int) (h0 : -9223372036854775808 ≤ n) (h1 : n ≤ 9223372036854775807) (w : World) (htab : Lib.TabIs Tryd.prog w "internal/strconv.uint64pow10" .u64 Lib.pow10Tab) :
    Calls Tryd.prog 20 #[.int .i64 n] w fun e w' => e = .returned (.string ⟨(Lib.itoa n).toArray⟩) ∧ ∃ k os, w' = grow (w.drewN k) os := Any.strconv_Itoa Tryd.laysM171 n h0 h1 w htab
def Tryd.laysM173_ren : Go.Shelf.Ren := ⟨fun | 173 => 19 | 246 => 24 | 283 => 29 | 284 => 30 | 285 => 31 | 286 => 32 | 129 => 38 | 317 => 37 | 318 => 39 | 319 => 40 | 320 => 41 | 337 => 51 | 338 => 52 | n => n, fun | 2 => 2 | 3 => 3 | 9 => 9 | 4 => 4 | 171 => 63 | 0 => 0 | 53 => 46 | 37 => 66 | 5 => 5 | 173 => 67 | 212 => 73 | 51 => 22 | 20 => 20 | 213 => 74 | 46 => 76 | 232 => 94 | 233 => 95 | n => n, fun | 17 => 0 | 18 => 3 | 19 => 4 | n => n⟩
theorem Tryd.laysM173 : Go.Proofs.LaysM.n173 Tryd.prog Tryd.laysM173_ren := {
  mixed := by kernel_rfl
  f129 := Tryd.func38.trans (congrArg some (by kernel_rfl))
  f173 := Tryd.func19.trans (congrArg some (by kernel_rfl))
  f246 := Tryd.func24.trans (congrArg some (by kernel_rfl))
  f283 := Tryd.func29.trans (congrArg some (by kernel_rfl))
  f284 := Tryd.func30.trans (congrArg some (by kernel_rfl))
  f285 := Tryd.func31.trans (congrArg some (by kernel_rfl))
  f286 := Tryd.func32.trans (congrArg some (by kernel_rfl))
  f317 := Tryd.func37.trans (congrArg some (by kernel_rfl))
  f318 := Tryd.func39.trans (congrArg some (by kernel_rfl))
  f319 := Tryd.func40.trans (congrArg some (by kernel_rfl))
  f320 := Tryd.func41.trans (congrArg some (by kernel_rfl))
  f337 := Tryd.func51.trans (congrArg some (by kernel_rfl))
  f338 := Tryd.func52.trans (congrArg some (by kernel_rfl))
  t0 := Tryd.underlying0
  a0 := Tryd.isAgg0
  z0 := Tryd.sizeOf0
  v0 := Tryd.zeroValue0
  t2 := Tryd.underlying2
  a2 := Tryd.isAgg2
  z2 := Tryd.sizeOf2
  v2 := Tryd.zeroValue2
  t3 := Tryd.underlying3
  a3 := Tryd.isAgg3
  z3 := Tryd.sizeOf3
  v3 := Tryd.zeroValue3
  t4 := Tryd.underlying4
  a4 := Tryd.isAgg4
  z4 := Tryd.sizeOf4
  v4 := Tryd.zeroValue4
  t5 := Tryd.underlying5
  a5 := Tryd.isAgg5
  z5 := Tryd.sizeOf5
  v5 := Tryd.zeroValue5
  t9 := Tryd.underlying9
  a9 := Tryd.isAgg9
  z9 := Tryd.sizeOf9
  v9 := Tryd.zeroValue9
  t20 := Tryd.underlying20
  a20 := Tryd.isAgg20
  z20 := Tryd.sizeOf20
  v20 := Tryd.zeroValue20
  t37 := Tryd.underlying66
  a37 := Tryd.isAgg66
  z37 := Tryd.sizeOf66
  v37 := Tryd.zeroValue66
  t46 := Tryd.underlying76
  a46 := Tryd.isAgg76
  z46 := Tryd.sizeOf76
  v46 := Tryd.zeroValue76
  t51 := Tryd.underlying22
  a51 := Tryd.isAgg22
  z51 := Tryd.sizeOf22
  v51 := Tryd.zeroValue22
  t53 := Tryd.underlying46
  a53 := Tryd.isAgg46
  z53 := Tryd.sizeOf46
  v53 := Tryd.zeroValue46
  t171 := Tryd.underlying63
  a171 := Tryd.isAgg63
  z171 := Tryd.sizeOf63
  v171 := Tryd.zeroValue63
  t173 := Tryd.underlying67
  a173 := Tryd.isAgg67
  z173 := Tryd.sizeOf67
  v173 := Tryd.zeroValue67
  t212 := Tryd.underlying73
  a212 := Tryd.isAgg73
  z212 := Tryd.sizeOf73
  v212 := Tryd.zeroValue73
  t213 := Tryd.underlying74
  a213 := Tryd.isAgg74
  z213 := Tryd.sizeOf74
  t232 := Tryd.underlying94
  a232 := Tryd.isAgg94
  z232 := Tryd.sizeOf94
  v232 := Tryd.zeroValue94
  t233 := Tryd.underlying95
  a233 := Tryd.isAgg95
  z233 := Tryd.sizeOf95
  v233 := Tryd.zeroValue95
  g17 := by kernel_rfl
  g18 := by kernel_rfl
  g19 := by kernel_rfl
  i0 := by kernel_rfl
  i2 := by kernel_rfl
  i3 := by kernel_rfl
  i4 := by kernel_rfl
  i5 := by kernel_rfl
  i9 := by kernel_rfl
  i20 := by kernel_rfl
  i37 := by kernel_rfl
  i46 := by kernel_rfl
  i51 := by kernel_rfl
  i53 := by kernel_rfl
  i171 := by kernel_rfl
  i173 := by kernel_rfl
  i212 := by kernel_rfl
  i232 := by kernel_rfl
  i233 := by kernel_rfl
  m17 := by kernel_rfl
  m18 := by kernel_rfl
  m19 := by kernel_rfl }
open Go.RowKit Go.Sort Go.Lib in
/-- strconv.FormatInt: "FormatInt returns the string representation of i in the given base": AT BASE 10: i's decimal numeral, for every int64. (LAID: no walk: one application.) -/
theorem Tryd.strconv_FormatInt_10 (n : Int) (h0 : -9223372036854775808 ≤ n) (h1 : n ≤ 9223372036854775807) (w : World) (htab : Lib.TabIs Tryd.prog w "internal/strconv.uint64pow10" .u64 Lib.pow10Tab) :
    Calls Tryd.prog 19 #[.int .i64 n, .int .i64 10] w fun e w' => e = .returned (.string ⟨(Lib.itoa n).toArray⟩) ∧ ∃ k os, w' = grow (w.drewN k) os := Any.strconv_FormatInt_10 Tryd.laysM173 n h0 h1 w htab
end Go.Proofs

/-
  The document's answer for symbols (wellspringref11), in the program: 'Cut'.
-/
set_option maxRecDepth 100000
namespace Go.Proofs.YtphdadibfeencaaDoor
open Go.RowKit

theorem needs_le (l s : Nat) : 1 ≤ needsN l s ∧ needsN l s ≤ 4097 := by
  unfold needsN
  split
  · omega
  · split
    · omega
    · rename_i h1 h2
      refine ⟨Nat.le_add_left 1 _, ?_⟩
      have : (l - 1) / s < 4097 := Nat.div_lt_of_lt_mul (by omega)
      omega
/-- A plan that may be. -/
theorem check_ok {l s k : Int} (h : checkE l s k = 0) : 0 ≤ l ∧ 1 ≤ s ∧ s ≤ 65535 ∧ 1 ≤ k ∧ k ≤ 4096 ∧ k = (needsN l.toNat s.toNat : Int) := by
  unfold checkE at h
  split at h
  · exact absurd h (by decide)
  · split at h
    · exact absurd h (by decide)
    · split at h
      · exact absurd h (by decide)
      · split at h
        · have := needs_le l.toNat s.toNat
          omega
        · exact absurd h (by decide)
end Go.Proofs.YtphdadibfeencaaDoor
