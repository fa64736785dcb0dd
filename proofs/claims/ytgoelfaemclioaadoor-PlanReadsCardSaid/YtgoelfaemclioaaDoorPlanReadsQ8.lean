/- Texts of one seat, laid together: PlanE, PowLaid, PlanLaid, LawTenA, LawTenC. -/
import Derived.Test.YtgoelfaemclioaaDoorPlanReadsQ7
import Derived.Test.YtgoelfaemclioaaDoorPlanReadsQ6
import Derived.Test.YtgoelfaemclioaaDoorPlanReadsQ4
import Derived.Test.YtgoelfaemclioaaDoorPlanReadsQ1
import Derived.Test.YtgoelfaemclioaaDoorRows
import Derived.LaidSub
import Derived.MakeChecks
import Derived.Lib.LaidTab
import Derived.Lib.SmallJoins
import Derived.Stop.LaidErr
import Derived.Stop.Joined
import Derived.Shelf.Vars
import Derived.HandedShaped

/-
  Plans in the program (layer 10): 'Parse'.
-/
set_option maxRecDepth 100000
namespace Go.Proofs.YtgoelfaemclioaaDoor
open Go.RowKit

theorem plK_bounds : ∀ (k : Nat) (b : Int) (r : List Nat) (m : Bool) (acc a : List Int) (m' : Bool), b ≤ 4294967296 → (∀ x, x ∈ acc → 0 ≤ x ∧ x < 4294967296) → plK k b r m acc = some (a, m') → ∀ x, x ∈ a → 0 ≤ x ∧ x < 4294967296
  | 0, b, r, m, acc, a, m', hb, hx, h => by
    unfold plK at h
    obtain ⟨rfl, rfl⟩ := Prod.mk.inj (Option.some.inj h)
    exact hx
  | k + 1, b, r, m, acc, a, m', hb, hx, h => by
    unfold plK at h
    by_cases h1 : m = true
    · rw [if_pos h1] at h
      by_cases h2 : numB (wordW r) b = true
      · rw [if_pos h2] at h
        refine plK_bounds k _ _ _ _ a m' (by decide) ?_ h
        intro x hm
        rcases List.mem_append.1 hm with h3 | h3
        · exact hx x h3
        · have := numB_lt h2
          rw [List.mem_singleton] at h3
          subst h3
          omega
      · rw [if_neg h2] at h; cases h
    · rw [if_neg h1] at h; cases h
theorem getD_bounds {a : List Int} (h : ∀ x, x ∈ a → 0 ≤ x ∧ x < 4294967296) (i : Nat) : 0 ≤ a.getD i 0 ∧ a.getD i 0 < 4294967296 := by
  rw [List.getD_eq_getElem?_getD]
  by_cases hi : i < a.length
  · rw [List.getElem?_eq_getElem hi]; exact h _ (List.getElem_mem hi)
  · rw [List.getElem?_eq_none (by omega)]; decide
theorem plRead_bounds {t : List Nat} {a : List Int} (h : plRead t = some a) (i : Nat) : 0 ≤ a.getD i 0 ∧ a.getD i 0 < 4294967296 := by
  refine getD_bounds ?_ i
  unfold plRead at h
  by_cases h1 : wordW t = objL
  · rw [if_pos h1] at h
    unfold plOf at h
    split at h
    · rename_i acc e
      obtain rfl := Option.some.inj h
      exact plK_bounds 4 _ _ _ _ _ _ (by decide) (fun x hx => by cases hx) e
    · cases h
  · rw [if_neg h1] at h; cases h
theorem nums_some (a : List Int) : numsV (some a) = .tuple #[.agg #[.int .u64 (a.getD 0 0), .int .u64 (a.getD 1 0), .int .u64 (a.getD 2 0), .int .u64 (a.getD 3 0)], .bool true] := rfl
theorem nums_none : numsV none = .tuple #[.agg #[.int .u64 0, .int .u64 0, .int .u64 0, .int .u64 0], .bool false] := rfl
theorem plV_some {a : List Int} : plV (some a) = planV (okV (plE (some a)) (a.getD 1 0)) (okV (plE (some a)) (a.getD 2 0)) (okV (plE (some a)) (a.getD 3 0)) (okV (plE (some a)) (a.getD 0 0)) := by
  unfold plV planV okV
  by_cases h : plE (some a) = 0
  · simp only [if_pos h]
  · simp only [if_neg h]

theorem planRd_some (w : World) (a : List Int) (w' : World) (hb : Below w.heap.size w w') : PlanRd w (some a) (.returned (.tuple #[planV (okV (plE (some a)) (a.getD 1 0)) (okV (plE (some a)) (a.getD 2 0)) (okV (plE (some a)) (a.getD 3 0)) (okV (plE (some a)) (a.getD 0 0)), .int .i64 (plE (some a))])) w' := ⟨by rw [plV_some], hb⟩

set_option maxHeartbeats 2000000 in
theorem parse10_any (t : List Nat) (w : World) (ht : ∀ x, x ∈ t → x < 256) (hlen : t.length ≤ 1000) (hM : SomeMax w) (hS : Sents w) (hT : PowTab w) :
    Calls Tryd.prog 15 #[.string (strOf t)] w (PlanRd w (plRead t)) := by
  have HN := Lib.hid (fun w hM hS hT => numbers_any t w ht hlen hM hS hT)
  have HM := Lib.hid hM
  have HS0 := Lib.hid hS
  have HT := Lib.hid hT
  have HBD := Lib.hid (fun (a : List Int) (h : plRead t = some a) (i : Nat) => plRead_bounds h i)
  obtain ⟨P, hP⟩ : ∃ P, P = plRead t := ⟨_, rfl⟩
  rw [← hP] at HN HBD ⊢
  clear hP hM hS hT ht
  generalize strOf t = S at *
  cases P with
  | none =>
    unfold NumsV at HN
    rw [nums_none] at HN
    go_enter Tryd.func15, Tryd.ntmps15
    go_wp2_with fail
    obtain ⟨B, hk1, hs⟩ := blocks1 w #[.int .i64 0, .int .i64 0, .int .i64 0, .int .u32 0] 24
    generalize (w.alloc (.cells #[.int .i64 0, .int .i64 0, .int .i64 0, .int .u32 0] 24)) = W at *
    have K1 := Lib.hid hk1
    have HS := Lib.hid hs
    clear hs hk1
    replace HM := Lib.hid (HM.out.go B)
    replace HS0 := Lib.hid (HS0.out.go B)
    replace HT := Lib.hid (HT.out.go B)
    have hzW := B.size
    refine (HN.out _ HM.out HS0.out HT.out).mono ?_
    rintro e w1 ⟨rfl, hb⟩
    replace K1 := Lib.hid (K1.out.go hb)
    replace B := B.trans (hb.mono B.size)
    have hzw1 := B.size
    clear hb
    go_upto_region 2 with fail
    obtain ⟨hb, hk, hs⟩ := blocks1 w1 #[.int .u64 0, .int .u64 0, .int .u64 0, .int .u64 0] 47
    generalize w1.alloc (.cells #[.int .u64 0, .int .u64 0, .int .u64 0, .int .u64 0] 47) = W2 at *
    have K2 := Lib.hid hk
    replace K1 := Lib.hid (K1.out.go hb)
    replace B := B.trans (hb.mono B.size)
    have hzW2 := B.size
    clear hb hk hs
    have z0 := K1.out.cell 0
    have z1 := K1.out.cell 1
    have z2 := K1.out.cell 2
    have z3 := K1.out.cell 3
    have zl := K1.out.lt
    have zf0 := K1.out.free 0
    have zf1 := K1.out.free 1
    have zf2 := K1.out.free 2
    have zf3 := K1.out.free 3
    go_wp2_with fail
    obtain ⟨e0, e1, e2, e3, hB⟩ := store4_plan K1.out (Nat.le_refl _) B (.int .i64 0) (.int .i64 0) (.int .i64 0) (.int .u32 0)
    refine bodyPost_ret (v := .tuple #[planV 0 0 0 0, .int .i64 14]) ?_ rfl (planRd_bad rfl hB)
    simp [results, Tryd.results15, go_sem, e0, e1, e2, e3, planV]
  | some a =>
    have hx0 := HBD.out a rfl 0
    have hx1 := HBD.out a rfl 1
    have hx2 := HBD.out a rfl 2
    have hx3 := HBD.out a rfl 3
    have HV := Lib.hid (plV_some (a := a))
    have HRD := Lib.hid (planRd_some w a)
    clear HV
    have HE := Lib.hid (show plE (some a) = checkE (a.getD 1 0) (a.getD 2 0) (a.getD 3 0) from rfl)
    unfold NumsV at HN
    rw [nums_some] at HN
    generalize a.getD 0 0 = x0 at *
    generalize a.getD 1 0 = x1 at *
    generalize a.getD 2 0 = x2 at *
    generalize a.getD 3 0 = x3 at *
    go_enter Tryd.func15, Tryd.ntmps15
    go_wp2_with fail
    obtain ⟨B, hk1, hs⟩ := blocks1 w #[.int .i64 0, .int .i64 0, .int .i64 0, .int .u32 0] 24
    generalize (w.alloc (.cells #[.int .i64 0, .int .i64 0, .int .i64 0, .int .u32 0] 24)) = W at *
    have K1 := Lib.hid hk1
    have HS := Lib.hid hs
    clear hs hk1
    replace HM := Lib.hid (HM.out.go B)
    replace HS0 := Lib.hid (HS0.out.go B)
    replace HT := Lib.hid (HT.out.go B)
    have hzW := B.size
    refine (HN.out _ HM.out HS0.out HT.out).mono ?_
    rintro e w1 ⟨rfl, hb⟩
    replace K1 := Lib.hid (K1.out.go hb)
    replace B := B.trans (hb.mono B.size)
    have hzw1 := B.size
    clear hb
    go_upto_region 2 with fail
    obtain ⟨hb, hk, hs⟩ := blocks1 w1 #[.int .u64 x0, .int .u64 x1, .int .u64 x2, .int .u64 x3] 47
    generalize w1.alloc (.cells #[.int .u64 x0, .int .u64 x1, .int .u64 x2, .int .u64 x3] 47) = W2 at *
    have K2 := Lib.hid hk
    replace K1 := Lib.hid (K1.out.go hb)
    replace B := B.trans (hb.mono B.size)
    have hzW2 := B.size
    clear hb hk hs
    obtain ⟨y0, y1, y2, y3⟩ := K2.out.four
    have yl := K2.out.lt
    go_wp2_with fail
    clear y0 y1 y2 y3 yl
    refine (checked_any x1 x2 x3 x0 _ (by omega) (by omega) (by omega)).mono ?_
    rintro e w3 ⟨rfl, hb⟩
    replace K1 := Lib.hid (K1.out.go hb)
    replace K2 := Lib.hid (K2.out.go hb)
    replace B := B.trans (hb.mono B.size)
    have hzw3 := B.size
    clear hb
    rw [← HE.out]
    generalize plE (some a) = c at *
    have z0 := K1.out.cell 0
    have z1 := K1.out.cell 1
    have z2 := K1.out.cell 2
    have z3 := K1.out.cell 3
    have zl := K1.out.lt
    have zf0 := K1.out.free 0
    have zf1 := K1.out.free 1
    have zf2 := K1.out.free 2
    have zf3 := K1.out.free 3
    unfold planV
    go_wp2_with fail
    obtain ⟨e0, e1, e2, e3, hB⟩ := store4_plan K1.out (Nat.le_refl _) B (.int .i64 (okV c x1)) (.int .i64 (okV c x2)) (.int .i64 (okV c x3)) (.int .u32 (okV c x0))
    refine bodyPost_ret (v := .tuple #[planV (okV c x1) (okV c x2) (okV c x3) (okV c x0), .int .i64 c]) ?_ rfl (HRD.out _ hB)
    simp [results, Tryd.results15, go_sem, e0, e1, e2, e3, planV]

end Go.Proofs.YtgoelfaemclioaaDoor

/-
  The library's table of powers of ten lies where a row says; a plan that came in.
-/
set_option maxRecDepth 100000
namespace Go.Proofs.YtgoelfaemclioaaDoor
open Go.ChangeShapes Go.WideShapes Go.ChangeAt Go.RowKit Go.Deep

theorem pow_of_laid {laid : List (String × DataW Unit)} (hf : (laid.filter fun x => x.1 == "internal/strconv.uint64pow10") = [("internal/strconv.uint64pow10", Lib.tabData .u64 Lib.pow10Tab)]) {W : World} (h : laidMetH Tryd.prog laid W) : PowTab W := by
  have h1 := h.filter fun x => x.1 == "internal/strconv.uint64pow10"
  rw [hf] at h1
  rw [MakeChecks.laidMetH_plain _ _ _ (by kernel_rfl)] at h1
  exact Lib.tabIs_of_head (g := 0) (t := 73) (e := 46) (n := 20) (by kernel_rfl) (by kernel_rfl) Tryd.underlying73 Tryd.underlying46 (by kernel_rfl) (by kernel_rfl) h1

end Go.Proofs.YtgoelfaemclioaaDoor

/-
  What a plan's laws ask of the library's variables, out of the listed ones and the world's shape.
-/
set_option maxRecDepth 100000
namespace Go.Proofs.YtgoelfaemclioaaDoor
open Go.ChangeShapes Go.WideShapes Go.ChangeAt Go.RowKit Go.Deep

theorem max_of_shape {W : World} (h : W.ShapedOpen Tryd.prog) : SomeMax W :=
  cell_of_shapedOpen_int (zero := #[.int .i64 0]) (t := 3) h (of_decide_eq_true (by kernel_rfl)) (by kernel_rfl) rfl (by kernel_rfl) (by kernel_rfl) Tryd.underlying3

theorem err_row (u : TypeId) (h : Tryd.prog.typeName? 3 u = some "*errors.errorString") : u = 97 :=
  typeName_ptr_named (nm := "errors.errorString") (by rw [show "*" ++ "errors.errorString" = "*errors.errorString" by decide]; kernel_rfl) (by kernel_rfl) (by decide) u (by rw [show "*" ++ "errors.errorString" = "*errors.errorString" by decide]; exact h)

theorem sent_of_laid {laid : List (String × DataW Unit)} {n : String} {g : Nat} {text : List UInt8} (hf : (laid.filter fun x => x.1 == n) = [(n, .iface "*errors.errorString" (.ptr (.agg [.lit (.string text)])))])
    (hg : Tryd.prog.globalNamed n = some g) (ht : (Tryd.prog.globals[g]?).map (·.type) = some 59) {W : World} (h : laidMetH Tryd.prog laid W) : Sent W g := by
  have h1 := h.filter fun x => x.1 == n
  rw [hf] at h1
  rw [MakeChecks.laidMetH_plain _ _ _ rfl] at h1
  obtain ⟨a0, s0, hv0, -, -, -⟩ := laid_sentinel h1 hg ht Tryd.underlying59 err_row Tryd.underlying97 Tryd.underlying99 rfl rfl Tryd.underlying9 (by kernel_rfl) (by kernel_rfl)
  exact ⟨_, by simpa using World.var?_cell hg hv0 0, Or.inr ⟨_, _, rfl⟩⟩

def PlanFacts (W : World) : Prop := SomeMax W ∧ Sents W ∧ PowTab W
theorem PlanFacts.go {w w' : World} (h : PlanFacts w) (hb : Below w.heap.size w w') : PlanFacts w' := ⟨h.1.go hb, h.2.1.go hb, h.2.2.go hb⟩

theorem plan_facts {laid : List (String × DataW Unit)} (hf : (laid.filter fun x => x.1 == "internal/strconv.uint64pow10") = [("internal/strconv.uint64pow10", Lib.tabData .u64 Lib.pow10Tab)])
    (h1 : (laid.filter fun x => x.1 == "strconv.ErrSyntax") = [("strconv.ErrSyntax", .iface "*errors.errorString" (.ptr (.agg [.lit (.string [105, 110, 118, 97, 108, 105, 100, 32, 115, 121, 110, 116, 97, 120])])))])
    (h2 : (laid.filter fun x => x.1 == "strconv.ErrRange") = [("strconv.ErrRange", .iface "*errors.errorString" (.ptr (.agg [.lit (.string [118, 97, 108, 117, 101, 32, 111, 117, 116, 32, 111, 102, 32, 114, 97, 110, 103, 101])])))]) {W : World} (hsh : W.ShapedOpen Tryd.prog) (h : laidMetH Tryd.prog laid W) : PlanFacts W :=
  ⟨max_of_shape hsh, ⟨sent_of_laid h1 (by kernel_rfl) (by kernel_rfl) h, sent_of_laid h2 (by kernel_rfl) (by kernel_rfl) h⟩, pow_of_laid hf h⟩

/-- The wrap of a row that lists variables, where the walk asks of the world's shape too. -/
theorem returnsInHanded_both {H : Type} {enc : TypeId × Value → H} {a : Assume} {C : Checked} {os : Os} {f : FuncId} {fn : Func} {s : ChangeSpec} {conds : List PathCond} {apart fresh handsOn again : Bool} {laid : List (String × DataW Unit)}
    (own : ownKnob C.prog.godebug = none) (started : os.Started) (noInit : C.prog.inits.idxOf? f = none) (hfn : C.prog.funcs[f]? = some fn)
    (witness : ∃ (w : World) (tape : Tape) (i : Input), w.os = os ∧ (w.forCall tape i).Shaped C.prog ∧ i.vars = [] ∧ Input.okWide C.prog (w.forCall tape i) .any w.heap.size f i ∧
      ((s.pre enc C.prog fn conds apart (w.forCall tape i).memory i.args ∧ laidMetH C.prog laid (w.forCall tape i).memory) ∧ sizedMet enc C.prog fn (OpenSpec.ofChange s) apart (w.forCall tape i).memory i.args) ∧ a.holds C.prog (lone (Frame.enter C.prog f i.args .normal) [] (w.forCall tape i)))
    (contract : ∀ (W : World) (base : Nat) (args : Array Value) (ds gs : List (DataW H)) (before : List MemPlace),
      (∀ (j : Nat) t v, fn.params[j]? = some t → args[j]? = some v → Value.okWide C.prog W .any base t v) →
      DataW.Whole enc C.prog fn.params.toList s.vars apart W args.toList ds gs before →
      laidMetH C.prog laid W → W.ShapedOpen C.prog →
      Calls C.prog f args W fun e W' => ∃ v, e = .returned v ∧ s.post enc C.prog fn apart fresh handsOn again W args v W') :
    ReturnsInHanded a C os f .any (fun w args => (s.pre enc C.prog fn conds apart w args ∧ laidMetH C.prog laid w) ∧ sizedMet enc C.prog fn (OpenSpec.ofChange s) apart w args) (s.post enc C.prog fn apart fresh handsOn again) := by
  refine returnsInHanded_of_calls own started noInit witness ?_
  rintro w tape i _ hsh _ ⟨_, _, _, fn', hfn', _, _, _, _, hval⟩ ⟨⟨⟨ds, gs, before, hw, -⟩, hl⟩, -⟩ -
  obtain rfl : fn' = fn := Option.some.inj (hfn'.symm.trans hfn)
  refine (contract (w.forCall tape i) w.heap.size i.args ds gs before hval (DataW.Whole.of_heap (by rfl) hw) (laidMetH.of_heap (by rfl) hl) hsh).mono ?_
  rintro e W' ⟨v, rfl, hp⟩
  exact ChangeSpec.post_blind hp

end Go.Proofs.YtgoelfaemclioaaDoor

/-
  The laws of plans (layer 10): the example; the document's code for a plan that is made.
-/
set_option maxRecDepth 100000
namespace Go.Proofs.YtgoelfaemclioaaDoor
open Go.RowKit

theorem ex_one : checkE 5 2 (needI 5 2) = 0 ∧ needI 5 2 = 3 ∧ padI 5 2 3 = 1 := by decide +kernel
theorem ex_two : checkE 0 2 (needI 0 2) = 0 ∧ needI 0 2 = 1 ∧ padI 0 2 1 = 2 := by decide +kernel
set_option maxHeartbeats 1000000 in
theorem awake10_any (w : World) :
    Calls Tryd.prog 6 #[] w fun e w' => e = .returned (.bool true) ∧ Below w.heap.size w w' := by
  have H1 := Lib.hid (fun w => of10_any 5 2 7 w (by omega) (by omega) (by omega))
  have H2 := Lib.hid (fun w => of10_any 0 2 7 w (by omega) (by omega) (by omega))
  have P1 := Lib.hid (fun w => pad_any 5 2 3 7 w (by omega) (by omega) (by omega))
  have P2 := Lib.hid (fun w => pad_any 0 2 1 7 w (by omega) (by omega) (by omega))
  rw [ex_one.1, ex_one.2.1] at H1
  rw [ex_two.1, ex_two.2.1] at H2
  rw [ex_one.2.2] at P1
  rw [ex_two.2.2] at P2
  unfold PlanE okV at H1 H2
  simp only [if_true] at H1 H2
  unfold planV at H1 H2 P1 P2
  go_enter Tryd.func6, Tryd.ntmps6
  go_wp2_with fail
  have B : Below w.heap.size w w := Below.refl _ _
  refine (H1.out _).mono ?_
  rintro e w1 ⟨rfl, hb⟩
  replace B := B.trans (hb.mono B.size)
  have hzw1 := B.size
  clear hb
  go_wp2_with fail
  obtain ⟨hb, hk, hs⟩ := blocks1 w1 #[.int .i64 5, .int .i64 2, .int .i64 3, .int .u32 7] 24
  generalize w1.alloc (.cells #[.int .i64 5, .int .i64 2, .int .i64 3, .int .u32 7] 24) = W2 at *
  have K1 := Lib.hid hk
  replace B := B.trans (hb.mono B.size)
  have hzW2 := B.size
  clear hb hk hs
  refine (H2.out _).mono ?_
  rintro e w3 ⟨rfl, hb⟩
  replace K1 := Lib.hid (K1.out.go hb)
  replace B := B.trans (hb.mono B.size)
  have hzw3 := B.size
  clear hb
  obtain ⟨p0, p1, p2, p3⟩ := K1.out.four
  have pl := K1.out.lt
  go_wp2_with fail
  clear p0 p1 p2 p3 pl
  obtain ⟨hb, hk, hs⟩ := blocks1 w3 #[.int .i64 0, .int .i64 2, .int .i64 1, .int .u32 7] 24
  generalize w3.alloc (.cells #[.int .i64 0, .int .i64 2, .int .i64 1, .int .u32 7] 24) = W4 at *
  have K2 := Lib.hid hk
  replace K1 := Lib.hid (K1.out.go hb)
  replace B := B.trans (hb.mono B.size)
  have hzW4 := B.size
  clear hb hk hs
  obtain ⟨p0, p1, p2, p3⟩ := K1.out.four
  have pl := K1.out.lt
  obtain ⟨q0, q1, q2, q3⟩ := K2.out.four
  have ql := K2.out.lt
  go_wp2_with fail
  clear p0 p1 p2 p3 pl q0 q1 q2 q3 ql
  refine (P1.out _).mono ?_
  rintro e w5 ⟨rfl, hb⟩
  replace K1 := Lib.hid (K1.out.go hb)
  replace K2 := Lib.hid (K2.out.go hb)
  replace B := B.trans (hb.mono B.size)
  have hzw5 := B.size
  clear hb
  obtain ⟨q0, q1, q2, q3⟩ := K2.out.four
  have ql := K2.out.lt
  go_wp2_with fail
  refine (P2.out _).mono ?_
  rintro e w6 ⟨rfl, hb⟩
  replace B := B.trans (hb.mono B.size)
  have hzw6 := B.size
  clear hb
  go_wp2_with fail
  go_ret
  exact ⟨rfl, B⟩

end Go.Proofs.YtgoelfaemclioaaDoor

/-
  The laws of plans (layer 10): PlanReads.
-/
set_option maxRecDepth 100000
namespace Go.Proofs.YtgoelfaemclioaaDoor
open Go.RowKit

theorem plV_shape (o : Option (List Int)) : ∃ l s k n : Int, plV o = .agg #[.int .i64 l, .int .i64 s, .int .i64 k, .int .u32 n] := by
  unfold plV
  cases o with
  | none => exact ⟨0, 0, 0, 0, by rw [if_neg (by decide)]⟩
  | some a =>
    by_cases h : plE (some a) = 0
    · rw [if_pos h]; exact ⟨_, _, _, _, rfl⟩
    · rw [if_neg h]; exact ⟨_, _, _, _, rfl⟩

set_option maxHeartbeats 2000000 in
theorem planReads_walk (S : ByteArray) (w : World) (hF : PlanFacts w) :
    Calls Tryd.prog 4 #[.string S] w fun e w' => e = .returned (.bool true) ∧ Below w.heap.size w w' := by
  have HF := Lib.hid hF
  by_cases h3 : 300 < S.size
  · have hd : decide ((300 : Int) < (S.size : Int)) = true := by rw [decide_eq_true_eq]; omega
    go_enter Tryd.func4, Tryd.ntmps4
    go_wp2_with fail
    refine (awake10_any _).mono ?_
    rintro e w1 ⟨rfl, B⟩
    go_wp2_with fail
    go_ret
    exact ⟨rfl, B⟩
  · have hd : decide ((300 : Int) < (S.size : Int)) = false := by rw [decide_eq_false_iff_not]; omega
    obtain ⟨t, ht, htl, hts⟩ := strOf_of S
    have hlen : t.length ≤ 300 := by omega
    have HP := Lib.hid (fun w (h : PlanFacts w) => parse10_any t w htl (by omega) h.1 h.2.1 h.2.2)
    have HR := Lib.hid (fun w => refparse10_any t w htl (by omega))
    obtain ⟨P, hP⟩ : ∃ P, P = plRead t := ⟨_, rfl⟩
    rw [← hP] at HP HR
    unfold PlanRd at HP HR
    obtain ⟨l, s, k, n, hv⟩ := plV_shape P
    rw [hv] at HP HR
    generalize plE P = c at *
    subst ht
    clear hP hv hF hts
    generalize strOf t = S at *
    go_enter Tryd.func4, Tryd.ntmps4
    go_wp2_with fail
    have B : Below w.heap.size w w := Below.refl _ _
    refine (awake10_any _).mono ?_
    rintro e w1 ⟨rfl, hb⟩
    replace HF := Lib.hid (HF.out.go hb)
    replace B := B.trans (hb.mono B.size)
    have hzw1 := B.size
    clear hb
    go_wp2_with fail
    refine (HP.out _ HF.out).mono ?_
    rintro e w2 ⟨rfl, hb⟩
    replace HF := Lib.hid (HF.out.go hb)
    replace B := B.trans (hb.mono B.size)
    have hzw2 := B.size
    clear hb
    go_upto_region 6 with fail
    obtain ⟨hb, hk, hs⟩ := blocks1 w2 #[.int .i64 l, .int .i64 s, .int .i64 k, .int .u32 n] 24
    generalize w2.alloc (.cells #[.int .i64 l, .int .i64 s, .int .i64 k, .int .u32 n] 24) = W3 at *
    have K1 := Lib.hid hk
    replace B := B.trans (hb.mono B.size)
    have hzW3 := B.size
    clear hb hk hs
    go_wp2_with fail
    refine (HR.out _).mono ?_
    rintro e w4 ⟨rfl, hb⟩
    replace K1 := Lib.hid (K1.out.go hb)
    replace B := B.trans (hb.mono B.size)
    have hzw4 := B.size
    clear hb
    go_upto_region 7 with fail
    obtain ⟨hb, hk, hs⟩ := blocks1 w4 #[.int .i64 l, .int .i64 s, .int .i64 k, .int .u32 n] 26
    generalize w4.alloc (.cells #[.int .i64 l, .int .i64 s, .int .i64 k, .int .u32 n] 26) = W5 at *
    have K2 := Lib.hid hk
    replace K1 := Lib.hid (K1.out.go hb)
    replace B := B.trans (hb.mono B.size)
    have hzW5 := B.size
    clear hb hk hs
    obtain ⟨p0, p1, p2, p3⟩ := K1.out.four
    obtain ⟨q0, q1, q2, q3⟩ := K2.out.four
    go_wp2_with fail
    go_ret
    exact ⟨rfl, B⟩

end Go.Proofs.YtgoelfaemclioaaDoor
