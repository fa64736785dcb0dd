/- Texts of one seat, laid together: PlanE, PlanBack, PowLaid, PlanLaid, LawTenA. -/
import Derived.Test.YtgoelfaemclioaaDoorPlanBackQ6
import Derived.Test.YtgoelfaemclioaaDoorPlanBackQ5
import Derived.Test.YtgoelfaemclioaaDoorPlanBackQ4
import Derived.Test.YtgoelfaemclioaaDoorPlanBackQ3
import Derived.Test.YtgoelfaemclioaaDoorPlanBackQ1
import Derived.Test.YtgoelfaemclioaaDoorRows
import Derived.LaidSub
import Derived.MakeChecks
import Derived.Lib.LaidTab
import Derived.Lib.SmallJoins
import Derived.Stop.LaidErr
import Derived.Stop.Joined
import Derived.Shelf.Vars
import Derived.HandedShaped

/-
  Plans in the program (layer 10): 'Parse'.
-/
set_option maxRecDepth 100000
namespace Go.Proofs.YtgoelfaemclioaaDoor
open Go.RowKit

theorem plK_bounds : ∀ (k : Nat) (b : Int) (r : List Nat) (m : Bool) (acc a : List Int) (m' : Bool), b ≤ 4294967296 → (∀ x, x ∈ acc → 0 ≤ x ∧ x < 4294967296) → plK k b r m acc = some (a, m') → ∀ x, x ∈ a → 0 ≤ x ∧ x < 4294967296
  | 0, b, r, m, acc, a, m', hb, hx, h => by
    unfold plK at h
    obtain ⟨rfl, rfl⟩ := Prod.mk.inj (Option.some.inj h)
    exact hx
  | k + 1, b, r, m, acc, a, m', hb, hx, h => by
    unfold plK at h
    by_cases h1 : m = true
    · rw [if_pos h1] at h
      by_cases h2 : numB (wordW r) b = true
      · rw [if_pos h2] at h
        refine plK_bounds k _ _ _ _ a m' (by decide) ?_ h
        intro x hm
        rcases List.mem_append.1 hm with h3 | h3
        · exact hx x h3
        · have := numB_lt h2
          rw [List.mem_singleton] at h3
          subst h3
          omega
      · rw [if_neg h2] at h; cases h
    · rw [if_neg h1] at h; cases h
theorem getD_bounds {a : List Int} (h : ∀ x, x ∈ a → 0 ≤ x ∧ x < 4294967296) (i : Nat) : 0 ≤ a.getD i 0 ∧ a.getD i 0 < 4294967296 := by
  rw [List.getD_eq_getElem?_getD]
  by_cases hi : i < a.length
  · rw [List.getElem?_eq_getElem hi]; exact h _ (List.getElem_mem hi)
  · rw [List.getElem?_eq_none (by omega)]; decide
theorem plRead_bounds {t : List Nat} {a : List Int} (h : plRead t = some a) (i : Nat) : 0 ≤ a.getD i 0 ∧ a.getD i 0 < 4294967296 := by
  refine getD_bounds ?_ i
  unfold plRead at h
  by_cases h1 : wordW t = objL
  · rw [if_pos h1] at h
    unfold plOf at h
    split at h
    · rename_i acc e
      obtain rfl := Option.some.inj h
      exact plK_bounds 4 _ _ _ _ _ _ (by decide) (fun x hx => by cases hx) e
    · cases h
  · rw [if_neg h1] at h; cases h
theorem nums_some (a : List Int) : numsV (some a) = .tuple #[.agg #[.int .u64 (a.getD 0 0), .int .u64 (a.getD 1 0), .int .u64 (a.getD 2 0), .int .u64 (a.getD 3 0)], .bool true] := rfl
theorem nums_none : numsV none = .tuple #[.agg #[.int .u64 0, .int .u64 0, .int .u64 0, .int .u64 0], .bool false] := rfl
theorem plV_some {a : List Int} : plV (some a) = planV (okV (plE (some a)) (a.getD 1 0)) (okV (plE (some a)) (a.getD 2 0)) (okV (plE (some a)) (a.getD 3 0)) (okV (plE (some a)) (a.getD 0 0)) := by
  unfold plV planV okV
  by_cases h : plE (some a) = 0
  · simp only [if_pos h]
  · simp only [if_neg h]

theorem planRd_some (w : World) (a : List Int) (w' : World) (hb : Below w.heap.size w w') : PlanRd w (some a) (.returned (.tuple #[planV (okV (plE (some a)) (a.getD 1 0)) (okV (plE (some a)) (a.getD 2 0)) (okV (plE (some a)) (a.getD 3 0)) (okV (plE (some a)) (a.getD 0 0)), .int .i64 (plE (some a))])) w' := ⟨by rw [plV_some], hb⟩

set_option maxHeartbeats 2000000 in
theorem parse10_any (t : List Nat) (w : World) (ht : ∀ x, x ∈ t → x < 256) (hlen : t.length ≤ 1000) (hM : SomeMax w) (hS : Sents w) (hT : PowTab w) :
    Calls Tryd.prog 15 #[.string (strOf t)] w (PlanRd w (plRead t)) := by
  have HN := Lib.hid (fun w hM hS hT => numbers_any t w ht hlen hM hS hT)
  have HM := Lib.hid hM
  have HS0 := Lib.hid hS
  have HT := Lib.hid hT
  have HBD := Lib.hid (fun (a : List Int) (h : plRead t = some a) (i : Nat) => plRead_bounds h i)
  obtain ⟨P, hP⟩ : ∃ P, P = plRead t := ⟨_, rfl⟩
  rw [← hP] at HN HBD ⊢
  clear hP hM hS hT ht
  generalize strOf t = S at *
  cases P with
  | none =>
    unfold NumsV at HN
    rw [nums_none] at HN
    go_enter Tryd.func15, Tryd.ntmps15
    go_wp2_with fail
    obtain ⟨B, hk1, hs⟩ := blocks1 w #[.int .i64 0, .int .i64 0, .int .i64 0, .int .u32 0] 24
    generalize (w.alloc (.cells #[.int .i64 0, .int .i64 0, .int .i64 0, .int .u32 0] 24)) = W at *
    have K1 := Lib.hid hk1
    have HS := Lib.hid hs
    clear hs hk1
    replace HM := Lib.hid (HM.out.go B)
    replace HS0 := Lib.hid (HS0.out.go B)
    replace HT := Lib.hid (HT.out.go B)
    have hzW := B.size
    refine (HN.out _ HM.out HS0.out HT.out).mono ?_
    rintro e w1 ⟨rfl, hb⟩
    replace K1 := Lib.hid (K1.out.go hb)
    replace B := B.trans (hb.mono B.size)
    have hzw1 := B.size
    clear hb
    go_upto_region 2 with fail
    obtain ⟨hb, hk, hs⟩ := blocks1 w1 #[.int .u64 0, .int .u64 0, .int .u64 0, .int .u64 0] 47
    generalize w1.alloc (.cells #[.int .u64 0, .int .u64 0, .int .u64 0, .int .u64 0] 47) = W2 at *
    have K2 := Lib.hid hk
    replace K1 := Lib.hid (K1.out.go hb)
    replace B := B.trans (hb.mono B.size)
    have hzW2 := B.size
    clear hb hk hs
    have z0 := K1.out.cell 0
    have z1 := K1.out.cell 1
    have z2 := K1.out.cell 2
    have z3 := K1.out.cell 3
    have zl := K1.out.lt
    have zf0 := K1.out.free 0
    have zf1 := K1.out.free 1
    have zf2 := K1.out.free 2
    have zf3 := K1.out.free 3
    go_wp2_with fail
    obtain ⟨e0, e1, e2, e3, hB⟩ := store4_plan K1.out (Nat.le_refl _) B (.int .i64 0) (.int .i64 0) (.int .i64 0) (.int .u32 0)
    refine bodyPost_ret (v := .tuple #[planV 0 0 0 0, .int .i64 14]) ?_ rfl (planRd_bad rfl hB)
    simp [results, Tryd.results15, go_sem, e0, e1, e2, e3, planV]
  | some a =>
    have hx0 := HBD.out a rfl 0
    have hx1 := HBD.out a rfl 1
    have hx2 := HBD.out a rfl 2
    have hx3 := HBD.out a rfl 3
    have HV := Lib.hid (plV_some (a := a))
    have HRD := Lib.hid (planRd_some w a)
    clear HV
    have HE := Lib.hid (show plE (some a) = checkE (a.getD 1 0) (a.getD 2 0) (a.getD 3 0) from rfl)
    unfold NumsV at HN
    rw [nums_some] at HN
    generalize a.getD 0 0 = x0 at *
    generalize a.getD 1 0 = x1 at *
    generalize a.getD 2 0 = x2 at *
    generalize a.getD 3 0 = x3 at *
    go_enter Tryd.func15, Tryd.ntmps15
    go_wp2_with fail
    obtain ⟨B, hk1, hs⟩ := blocks1 w #[.int .i64 0, .int .i64 0, .int .i64 0, .int .u32 0] 24
    generalize (w.alloc (.cells #[.int .i64 0, .int .i64 0, .int .i64 0, .int .u32 0] 24)) = W at *
    have K1 := Lib.hid hk1
    have HS := Lib.hid hs
    clear hs hk1
    replace HM := Lib.hid (HM.out.go B)
    replace HS0 := Lib.hid (HS0.out.go B)
    replace HT := Lib.hid (HT.out.go B)
    have hzW := B.size
    refine (HN.out _ HM.out HS0.out HT.out).mono ?_
    rintro e w1 ⟨rfl, hb⟩
    replace K1 := Lib.hid (K1.out.go hb)
    replace B := B.trans (hb.mono B.size)
    have hzw1 := B.size
    clear hb
    go_upto_region 2 with fail
    obtain ⟨hb, hk, hs⟩ := blocks1 w1 #[.int .u64 x0, .int .u64 x1, .int .u64 x2, .int .u64 x3] 47
    generalize w1.alloc (.cells #[.int .u64 x0, .int .u64 x1, .int .u64 x2, .int .u64 x3] 47) = W2 at *
    have K2 := Lib.hid hk
    replace K1 := Lib.hid (K1.out.go hb)
    replace B := B.trans (hb.mono B.size)
    have hzW2 := B.size
    clear hb hk hs
    obtain ⟨y0, y1, y2, y3⟩ := K2.out.four
    have yl := K2.out.lt
    go_wp2_with fail
    clear y0 y1 y2 y3 yl
    refine (checked_any x1 x2 x3 x0 _ (by omega) (by omega) (by omega)).mono ?_
    rintro e w3 ⟨rfl, hb⟩
    replace K1 := Lib.hid (K1.out.go hb)
    replace K2 := Lib.hid (K2.out.go hb)
    replace B := B.trans (hb.mono B.size)
    have hzw3 := B.size
    clear hb
    rw [← HE.out]
    generalize plE (some a) = c at *
    have z0 := K1.out.cell 0
    have z1 := K1.out.cell 1
    have z2 := K1.out.cell 2
    have z3 := K1.out.cell 3
    have zl := K1.out.lt
    have zf0 := K1.out.free 0
    have zf1 := K1.out.free 1
    have zf2 := K1.out.free 2
    have zf3 := K1.out.free 3
    unfold planV
    go_wp2_with fail
    obtain ⟨e0, e1, e2, e3, hB⟩ := store4_plan K1.out (Nat.le_refl _) B (.int .i64 (okV c x1)) (.int .i64 (okV c x2)) (.int .i64 (okV c x3)) (.int .u32 (okV c x0))
    refine bodyPost_ret (v := .tuple #[planV (okV c x1) (okV c x2) (okV c x3) (okV c x0), .int .i64 c]) ?_ rfl (HRD.out _ hB)
    simp [results, Tryd.results15, go_sem, e0, e1, e2, e3, planV]

end Go.Proofs.YtgoelfaemclioaaDoor

/-
  A plan's text, read as it was written; a plan's padding.
-/
set_option maxRecDepth 100000
namespace Go.Proofs.YtgoelfaemclioaaDoor
open Go.RowKit

theorem word_app : ∀ {a : List Nat} (b : List Nat), (∀ x, x ∈ a → x ≠ 32) → wordW (a ++ 32 :: b) = a ∧ wordR (a ++ 32 :: b) = b ∧ wordM (a ++ 32 :: b) = true
  | [], b, _ => by simp [wordW, wordR, wordM]
  | c :: a, b, h => by
    obtain ⟨h1, h2, h3⟩ := word_app b (fun x hx => h x (List.mem_cons_of_mem _ hx) : ∀ x, x ∈ a → x ≠ 32)
    have hc : c ≠ 32 := h c List.mem_cons_self
    rw [List.cons_append, wordW, wordR, wordM, if_neg hc, if_neg hc, if_neg hc, h1, h2, h3]
    exact ⟨rfl, rfl, rfl⟩
theorem word_end : ∀ {a : List Nat}, (∀ x, x ∈ a → x ≠ 32) → wordW a = a ∧ wordM a = false
  | [], _ => by simp [wordW, wordM]
  | c :: a, h => by
    obtain ⟨h1, h3⟩ := word_end (fun x hx => h x (List.mem_cons_of_mem _ hx) : ∀ x, x ∈ a → x ≠ 32)
    have hc : c ≠ 32 := h c List.mem_cons_self
    rw [wordW, wordM, if_neg hc, if_neg hc, h1, h3]
    exact ⟨rfl, rfl⟩
theorem dec_blank (n : Nat) : ∀ x, x ∈ decL (n : Int) → x ≠ 32 := fun x hx => by
  have := dec_dig n x hx
  unfold IsDig at this
  omega
theorem numB_dec {n M : Nat} {b : Int} (hb : (M : Int) + 1 = b) (hM : M < 4294967296) (hn : n ≤ M) : numB (decL (n : Int)) b = true ∧ numN (decL (n : Int)) = n := by
  have h : puO M (decL (n : Int)) = some n := by
    unfold puO
    have h2 := dec_val n
    unfold valF at h2
    rw [if_neg (dec_ne n), puM_iff _ _ (Nat.zero_le _), if_pos ⟨dec_dig n, by rw [h2]; exact hn⟩, h2]
  have h3 := (num_iff (t := decL (n : Int)) hb hM).2
  have h4 : numN (decL (n : Int)) = n := by
    have e := numV_val (decL (n : Int))
    rw [dec_val] at e
    have hok : NumOk (decL (n : Int)) := by
      refine ⟨dec_ne n, ?_, dig_all.2 (dec_dig n)⟩
      rintro ⟨g1, g2⟩
      by_cases h0 : 0 < n
      · exact dec_head n h0 g2
      · obtain rfl : n = 0 := by omega
        rw [dec_one (n := 0) (by decide)] at g1
        exact absurd g1 (by decide)
    unfold numN
    rw [if_pos hok, e]
    omega
  exact ⟨h3 ⟨n, h, rfl, h4⟩, h4⟩
theorem plRead_text {l s k n : Nat} (hc : checkE (l : Int) (s : Int) (k : Int) = 0) (hn : n < 4294967296) : plRead (textL (l : Int) (s : Int) (k : Int) (n : Int)) = some [(n : Int), (l : Int), (s : Int), (k : Int)] := by
  obtain ⟨h1, h2, h3, h4, h5, -, h6⟩ := check_ok10 hc
  have h7 : (k : Int) * (s : Int) ≤ 4096 * 65535 := Int.mul_le_mul h5 h3 (by omega) (by omega)
  have e : textL (l : Int) (s : Int) (k : Int) (n : Int) = objL ++ 32 :: (decL (n : Int) ++ 32 :: (decL (l : Int) ++ 32 :: (decL (s : Int) ++ 32 :: decL (k : Int)))) := by
    unfold textL objL
    rw [if_pos hc]
    simp
  rw [e]
  obtain ⟨a1, a2, a3⟩ := word_app (a := objL) (decL (n : Int) ++ 32 :: (decL (l : Int) ++ 32 :: (decL (s : Int) ++ 32 :: decL (k : Int)))) (by decide)
  obtain ⟨b1, b2, b3⟩ := word_app (decL (l : Int) ++ 32 :: (decL (s : Int) ++ 32 :: decL (k : Int))) (dec_blank n)
  obtain ⟨c1, c2, c3⟩ := word_app (decL (s : Int) ++ 32 :: decL (k : Int)) (dec_blank l)
  obtain ⟨d1, d2, d3⟩ := word_app (decL (k : Int)) (dec_blank s)
  obtain ⟨f1, f3⟩ := word_end (dec_blank k)
  obtain ⟨n1, n2⟩ := numB_dec (n := n) (M := 4294967295) (b := 4294967296) (by decide) (by decide) (by omega)
  obtain ⟨l1, l2⟩ := numB_dec (n := l) (M := 2147483647) (b := 2147483648) (by decide) (by decide) (by omega)
  obtain ⟨s1, s2⟩ := numB_dec (n := s) (M := 2147483647) (b := 2147483648) (by decide) (by decide) (by omega)
  obtain ⟨k1, k2⟩ := numB_dec (n := k) (M := 2147483647) (b := 2147483648) (by decide) (by decide) (by omega)
  unfold plRead
  rw [a1, if_pos rfl, a2, a3]
  simp only [plK, b1, b2, b3, c1, c2, c3, d1, d2, d3, f1, f3, n1, n2, l1, l2, s1, s2, k1, k2, if_true]
  rfl

/-- A plan's padding is less than a symbol, and there is a byte in the last one. -/
theorem pad_small {l s : Nat} (hl : 1 ≤ l) (hs : 1 ≤ s) : needT l s * s < l + s ∧ (needT l s - 1) * s < l := by
  have e : needT l s = (l - 1) / s + 1 := by
    unfold needT
    split
    · rw [Nat.div_eq_of_lt (by omega)]
    · rfl
  have h1 := Nat.div_add_mod (l - 1) s
  have h2 := Nat.mod_lt (l - 1) (show 0 < s by omega)
  have h3 := Nat.mul_comm ((l - 1) / s) s
  rw [e, Nat.add_sub_cancel, Nat.succ_mul]
  generalize s * ((l - 1) / s) = t at *
  omega

end Go.Proofs.YtgoelfaemclioaaDoor

/-
  The library's table of powers of ten lies where a row says; a plan that came in.
-/
set_option maxRecDepth 100000
namespace Go.Proofs.YtgoelfaemclioaaDoor
open Go.ChangeShapes Go.WideShapes Go.ChangeAt Go.RowKit Go.Deep

theorem pow_of_laid {laid : List (String × DataW Unit)} (hf : (laid.filter fun x => x.1 == "internal/strconv.uint64pow10") = [("internal/strconv.uint64pow10", Lib.tabData .u64 Lib.pow10Tab)]) {W : World} (h : laidMetH Tryd.prog laid W) : PowTab W := by
  have h1 := h.filter fun x => x.1 == "internal/strconv.uint64pow10"
  rw [hf] at h1
  rw [MakeChecks.laidMetH_plain _ _ _ (by kernel_rfl)] at h1
  exact Lib.tabIs_of_head (g := 0) (t := 73) (e := 46) (n := 20) (by kernel_rfl) (by kernel_rfl) Tryd.underlying73 Tryd.underlying46 (by kernel_rfl) (by kernel_rfl) h1

end Go.Proofs.YtgoelfaemclioaaDoor

/-
  What a plan's laws ask of the library's variables, out of the listed ones and the world's shape.
-/
set_option maxRecDepth 100000
namespace Go.Proofs.YtgoelfaemclioaaDoor
open Go.ChangeShapes Go.WideShapes Go.ChangeAt Go.RowKit Go.Deep

theorem max_of_shape {W : World} (h : W.ShapedOpen Tryd.prog) : SomeMax W :=
  cell_of_shapedOpen_int (zero := #[.int .i64 0]) (t := 3) h (of_decide_eq_true (by kernel_rfl)) (by kernel_rfl) rfl (by kernel_rfl) (by kernel_rfl) Tryd.underlying3

theorem err_row (u : TypeId) (h : Tryd.prog.typeName? 3 u = some "*errors.errorString") : u = 97 :=
  typeName_ptr_named (nm := "errors.errorString") (by rw [show "*" ++ "errors.errorString" = "*errors.errorString" by decide]; kernel_rfl) (by kernel_rfl) (by decide) u (by rw [show "*" ++ "errors.errorString" = "*errors.errorString" by decide]; exact h)

theorem sent_of_laid {laid : List (String × DataW Unit)} {n : String} {g : Nat} {text : List UInt8} (hf : (laid.filter fun x => x.1 == n) = [(n, .iface "*errors.errorString" (.ptr (.agg [.lit (.string text)])))])
    (hg : Tryd.prog.globalNamed n = some g) (ht : (Tryd.prog.globals[g]?).map (·.type) = some 59) {W : World} (h : laidMetH Tryd.prog laid W) : Sent W g := by
  have h1 := h.filter fun x => x.1 == n
  rw [hf] at h1
  rw [MakeChecks.laidMetH_plain _ _ _ rfl] at h1
  obtain ⟨a0, s0, hv0, -, -, -⟩ := laid_sentinel h1 hg ht Tryd.underlying59 err_row Tryd.underlying97 Tryd.underlying99 rfl rfl Tryd.underlying9 (by kernel_rfl) (by kernel_rfl)
  exact ⟨_, by simpa using World.var?_cell hg hv0 0, Or.inr ⟨_, _, rfl⟩⟩

def PlanFacts (W : World) : Prop := SomeMax W ∧ Sents W ∧ PowTab W
theorem PlanFacts.go {w w' : World} (h : PlanFacts w) (hb : Below w.heap.size w w') : PlanFacts w' := ⟨h.1.go hb, h.2.1.go hb, h.2.2.go hb⟩

theorem plan_facts {laid : List (String × DataW Unit)} (hf : (laid.filter fun x => x.1 == "internal/strconv.uint64pow10") = [("internal/strconv.uint64pow10", Lib.tabData .u64 Lib.pow10Tab)])
    (h1 : (laid.filter fun x => x.1 == "strconv.ErrSyntax") = [("strconv.ErrSyntax", .iface "*errors.errorString" (.ptr (.agg [.lit (.string [105, 110, 118, 97, 108, 105, 100, 32, 115, 121, 110, 116, 97, 120])])))])
    (h2 : (laid.filter fun x => x.1 == "strconv.ErrRange") = [("strconv.ErrRange", .iface "*errors.errorString" (.ptr (.agg [.lit (.string [118, 97, 108, 117, 101, 32, 111, 117, 116, 32, 111, 102, 32, 114, 97, 110, 103, 101])])))]) {W : World} (hsh : W.ShapedOpen Tryd.prog) (h : laidMetH Tryd.prog laid W) : PlanFacts W :=
  ⟨max_of_shape hsh, ⟨sent_of_laid h1 (by kernel_rfl) (by kernel_rfl) h, sent_of_laid h2 (by kernel_rfl) (by kernel_rfl) h⟩, pow_of_laid hf h⟩

/-- The wrap of a row that lists variables, where the walk asks of the world's shape too. -/
theorem returnsInHanded_both {H : Type} {enc : TypeId × Value → H} {a : Assume} {C : Checked} {os : Os} {f : FuncId} {fn : Func} {s : ChangeSpec} {conds : List PathCond} {apart fresh handsOn again : Bool} {laid : List (String × DataW Unit)}
    (own : ownKnob C.prog.godebug = none) (started : os.Started) (noInit : C.prog.inits.idxOf? f = none) (hfn : C.prog.funcs[f]? = some fn)
    (witness : ∃ (w : World) (tape : Tape) (i : Input), w.os = os ∧ (w.forCall tape i).Shaped C.prog ∧ i.vars = [] ∧ Input.okWide C.prog (w.forCall tape i) .any w.heap.size f i ∧
      ((s.pre enc C.prog fn conds apart (w.forCall tape i).memory i.args ∧ laidMetH C.prog laid (w.forCall tape i).memory) ∧ sizedMet enc C.prog fn (OpenSpec.ofChange s) apart (w.forCall tape i).memory i.args) ∧ a.holds C.prog (lone (Frame.enter C.prog f i.args .normal) [] (w.forCall tape i)))
    (contract : ∀ (W : World) (base : Nat) (args : Array Value) (ds gs : List (DataW H)) (before : List MemPlace),
      (∀ (j : Nat) t v, fn.params[j]? = some t → args[j]? = some v → Value.okWide C.prog W .any base t v) →
      DataW.Whole enc C.prog fn.params.toList s.vars apart W args.toList ds gs before →
      laidMetH C.prog laid W → W.ShapedOpen C.prog →
      Calls C.prog f args W fun e W' => ∃ v, e = .returned v ∧ s.post enc C.prog fn apart fresh handsOn again W args v W') :
    ReturnsInHanded a C os f .any (fun w args => (s.pre enc C.prog fn conds apart w args ∧ laidMetH C.prog laid w) ∧ sizedMet enc C.prog fn (OpenSpec.ofChange s) apart w args) (s.post enc C.prog fn apart fresh handsOn again) := by
  refine returnsInHanded_of_calls own started noInit witness ?_
  rintro w tape i _ hsh _ ⟨_, _, _, fn', hfn', _, _, _, _, hval⟩ ⟨⟨⟨ds, gs, before, hw, -⟩, hl⟩, -⟩ -
  obtain rfl : fn' = fn := Option.some.inj (hfn'.symm.trans hfn)
  refine (contract (w.forCall tape i) w.heap.size i.args ds gs before hval (DataW.Whole.of_heap (by rfl) hw) (laidMetH.of_heap (by rfl) hl) hsh).mono ?_
  rintro e W' ⟨v, rfl, hp⟩
  exact ChangeSpec.post_blind hp

end Go.Proofs.YtgoelfaemclioaaDoor

/-
  The laws of plans (layer 10): the example; the document's code for a plan that is made.
-/
set_option maxRecDepth 100000
namespace Go.Proofs.YtgoelfaemclioaaDoor
open Go.RowKit

theorem ex_one : checkE 5 2 (needI 5 2) = 0 ∧ needI 5 2 = 3 ∧ padI 5 2 3 = 1 := by decide +kernel
theorem ex_two : checkE 0 2 (needI 0 2) = 0 ∧ needI 0 2 = 1 ∧ padI 0 2 1 = 2 := by decide +kernel
set_option maxHeartbeats 1000000 in
theorem awake10_any (w : World) :
    Calls Tryd.prog 6 #[] w fun e w' => e = .returned (.bool true) ∧ Below w.heap.size w w' := by
  have H1 := Lib.hid (fun w => of10_any 5 2 7 w (by omega) (by omega) (by omega))
  have H2 := Lib.hid (fun w => of10_any 0 2 7 w (by omega) (by omega) (by omega))
  have P1 := Lib.hid (fun w => pad_any 5 2 3 7 w (by omega) (by omega) (by omega))
  have P2 := Lib.hid (fun w => pad_any 0 2 1 7 w (by omega) (by omega) (by omega))
  rw [ex_one.1, ex_one.2.1] at H1
  rw [ex_two.1, ex_two.2.1] at H2
  rw [ex_one.2.2] at P1
  rw [ex_two.2.2] at P2
  unfold PlanE okV at H1 H2
  simp only [if_true] at H1 H2
  unfold planV at H1 H2 P1 P2
  go_enter Tryd.func6, Tryd.ntmps6
  go_wp2_with fail
  have B : Below w.heap.size w w := Below.refl _ _
  refine (H1.out _).mono ?_
  rintro e w1 ⟨rfl, hb⟩
  replace B := B.trans (hb.mono B.size)
  have hzw1 := B.size
  clear hb
  go_wp2_with fail
  obtain ⟨hb, hk, hs⟩ := blocks1 w1 #[.int .i64 5, .int .i64 2, .int .i64 3, .int .u32 7] 24
  generalize w1.alloc (.cells #[.int .i64 5, .int .i64 2, .int .i64 3, .int .u32 7] 24) = W2 at *
  have K1 := Lib.hid hk
  replace B := B.trans (hb.mono B.size)
  have hzW2 := B.size
  clear hb hk hs
  refine (H2.out _).mono ?_
  rintro e w3 ⟨rfl, hb⟩
  replace K1 := Lib.hid (K1.out.go hb)
  replace B := B.trans (hb.mono B.size)
  have hzw3 := B.size
  clear hb
  obtain ⟨p0, p1, p2, p3⟩ := K1.out.four
  have pl := K1.out.lt
  go_wp2_with fail
  clear p0 p1 p2 p3 pl
  obtain ⟨hb, hk, hs⟩ := blocks1 w3 #[.int .i64 0, .int .i64 2, .int .i64 1, .int .u32 7] 24
  generalize w3.alloc (.cells #[.int .i64 0, .int .i64 2, .int .i64 1, .int .u32 7] 24) = W4 at *
  have K2 := Lib.hid hk
  replace K1 := Lib.hid (K1.out.go hb)
  replace B := B.trans (hb.mono B.size)
  have hzW4 := B.size
  clear hb hk hs
  obtain ⟨p0, p1, p2, p3⟩ := K1.out.four
  have pl := K1.out.lt
  obtain ⟨q0, q1, q2, q3⟩ := K2.out.four
  have ql := K2.out.lt
  go_wp2_with fail
  clear p0 p1 p2 p3 pl q0 q1 q2 q3 ql
  refine (P1.out _).mono ?_
  rintro e w5 ⟨rfl, hb⟩
  replace K1 := Lib.hid (K1.out.go hb)
  replace K2 := Lib.hid (K2.out.go hb)
  replace B := B.trans (hb.mono B.size)
  have hzw5 := B.size
  clear hb
  obtain ⟨q0, q1, q2, q3⟩ := K2.out.four
  have ql := K2.out.lt
  go_wp2_with fail
  refine (P2.out _).mono ?_
  rintro e w6 ⟨rfl, hb⟩
  replace B := B.trans (hb.mono B.size)
  have hzw6 := B.size
  clear hb
  go_wp2_with fail
  go_ret
  exact ⟨rfl, B⟩

end Go.Proofs.YtgoelfaemclioaaDoor
