/- Texts of one seat, laid together: PowLaid. -/
import Derived.Test.YtphdadibfeencaaDoorPlanChecksQ4
import Derived.Test.YtphdadibfeencaaDoorPlanChecksQ1
import Derived.Test.YtphdadibfeencaaDoorRows
import Derived.LaidSub
import Derived.MakeChecks
import Derived.Lib.LaidTab
import Derived.Lib.SmallJoins

/-
  The library's table of powers of ten lies where a row says; a plan that came in.
-/
set_option maxRecDepth 100000
namespace Go.Proofs.YtphdadibfeencaaDoor
open Go.ChangeShapes Go.WideShapes Go.ChangeAt Go.RowKit Go.Deep

theorem pow_of_laid {laid : List (String × DataW Unit)} (hf : (laid.filter fun x => x.1 == "internal/strconv.uint64pow10") = [("internal/strconv.uint64pow10", Lib.tabData .u64 Lib.pow10Tab)]) {W : World} (h : laidMetH Tryd.prog laid W) : PowTab W := by
  have h1 := h.filter fun x => x.1 == "internal/strconv.uint64pow10"
  rw [hf] at h1
  rw [MakeChecks.laidMetH_plain _ _ _ (by kernel_rfl)] at h1
  exact Lib.tabIs_of_head (g := 0) (t := 73) (e := 46) (n := 20) (by kernel_rfl) (by kernel_rfl) Tryd.underlying73 Tryd.underlying46 (by kernel_rfl) (by kernel_rfl) h1

/-- A plan that came in. -/
theorem open_plan {H : Type} {enc : TypeId × Value → H} {P : Program} {t I U : TypeId} {f0 f1 f2 f3 : Field} (hs : P.underlying t = some (.struct #[f0, f1, f2, f3])) (hone : oneCellFields P #[f0, f1, f2, f3] = true) (hC : P.cellsOf t = 4)
    (e0 : f0.type = I) (e1 : f1.type = I) (e2 : f2.type = I) (e3 : f3.type = U) (hI : P.underlying I = some (.int .i64)) (hU : P.underlying U = some (.int .u32)) {W : World} {base : Nat} {v : Value} {d : DataW H} {p : List MemPlace}
    (hok : Value.okWide P W .any base t v) (h : DataW.Trod enc P W 0 (fun _ => true) true t v d p) :
    ∃ (l s k : Int) (n : Nat), v = .agg #[.int .i64 l, .int .i64 s, .int .i64 k, .int .u32 (n : Int)] ∧ (-9223372036854775808 ≤ l ∧ l ≤ 9223372036854775807 ∧ -9223372036854775808 ≤ s ∧ s ≤ 9223372036854775807 ∧ -9223372036854775808 ≤ k ∧ k ≤ 9223372036854775807 ∧ n < 4294967296) := by
  obtain ⟨v0, v1, v2, v3, y0, y1, y2, y3, m, rfl, _, _, h0, h1, h2, h3⟩ := Joins.open_agg4 hs hone hC hok h
  rw [e0] at h0
  rw [e1] at h1
  rw [e2] at h2
  rw [e3] at h3
  obtain ⟨l, c0, _, w0⟩ := DataW.trod_int hI h0
  obtain ⟨s, c1, _, w1⟩ := DataW.trod_int hI h1
  obtain ⟨k, c2, _, w2⟩ := DataW.trod_int hI h2
  obtain ⟨n, c3, _, w3⟩ := DataW.trod_int hU h3
  simp only [List.cons.injEq, and_true] at c0 c1 c2 c3
  subst c0
  subst c1
  subst c2
  subst c3
  obtain ⟨n', rfl, hn⟩ := u32_of w3
  obtain ⟨a0, a1⟩ := int_of w0
  obtain ⟨b0, b1⟩ := int_of w1
  obtain ⟨d0, d1⟩ := int_of w2
  exact ⟨l, s, k, n', rfl, a0, a1, b0, b1, d0, d1, hn⟩

end Go.Proofs.YtphdadibfeencaaDoor
