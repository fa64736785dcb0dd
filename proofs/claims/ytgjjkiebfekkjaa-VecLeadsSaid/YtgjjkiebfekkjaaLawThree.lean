/-
  The laws of rows (layer 3): which are gone through, and the document's form of one.
-/
import Derived.Test.YtgjjkiebfekkjaaRefLess
import Derived.Test.YtgjjkiebfekkjaaFrame
import Derived.Lib.SmallJoins
set_option maxRecDepth 100000
namespace Go.Proofs.Ytgjjkiebfekkjaa
open Go.ChangeShapes Go.WideShapes Go.ChangeAt Go.RowKit Go.Deep

/-- Is the row gone through? -/
def few3 (p q : List Nat) : Bool := decide ((p.length : Int) ≤ 100) && decide ((q.length : Int) ≤ 100)

set_option maxHeartbeats 400000 in
theorem few3_len (a0 a1 : Option Addr) (n0 n1 c0 c1 : Nat) (w : World) :
    Calls Try.prog 12 #[.agg #[.slice a0 n0 c0, .slice a1 n1 c1]] w fun e w' => e = .returned (.bool (decide ((n0 : Int) ≤ 100) && decide ((n1 : Int) ≤ 100))) ∧ Below w.heap.size w w' := by
  go_enter Try.func12, Try.ntmps12
  by_cases h0 : (n0 : Int) ≤ 100
  · go_wp2_with fail
    go_ret
    exact ⟨by simp [h0], (Below.refl _ _).alloc (Nat.le_refl _) _⟩
  · go_wp2_with fail
    go_ret
    exact ⟨by simp; omega, (Below.refl _ _).alloc (Nat.le_refl _) _⟩

theorem few3_any (u : Value) (p q : List Nat) (w : World) (h : IsRow w u p q) :
    Calls Try.prog 12 #[u] w fun e w' => e = .returned (.bool (few3 p q)) ∧ Below w.heap.size w w' := by
  obtain ⟨v, d, rfl, hv, hd⟩ := h
  obtain ⟨a0, c0, rfl, _⟩ := hv
  obtain ⟨a1, c1, rfl, _⟩ := hd
  exact few3_len a0 a1 _ _ c0 c1 w

set_option maxHeartbeats 400000 in
theorem ref3_any (u : Value) (p q : List Nat) (w : World) (h : IsRow w u p q) :
    Calls Try.prog 16 #[u] w (RowsV w p q) := by
  obtain ⟨v, d, rfl, hv, hd⟩ := h
  have HP := Lib.hid hv
  have HQ := Lib.hid hd
  obtain ⟨a0, c0, rfl, _⟩ := hv
  obtain ⟨a1, c1, rfl, _⟩ := hd
  go_enter Try.func16, Try.ntmps16
  go_wp2_with fail
  have B2 := ((Below.refl w.heap.size w).alloc (Nat.le_refl _) (.cells #[.slice a0 p.length c0, .slice a1 q.length c1] 33)).alloc (by simp) (.cells #[.slice a0 p.length c0, .slice a1 q.length c1] 39)
  exact bodyPost_ret (v := .agg #[.slice a0 p.length c0, .slice a1 q.length c1]) (by simp [results, Try.results16, go_sem]) rfl
    ⟨_, rfl, ⟨_, _, rfl, HP.out.below (Nat.le_refl _) B2, HQ.out.below (Nat.le_refl _) B2⟩, B2⟩

/-- A struct of two slices of bytes that came in. -/
theorem open_pair {H : Type} {enc : TypeId × Value → H} {P : Program} {t T E : TypeId} {f0 f1 : Field} (hs : P.underlying t = some (.struct #[f0, f1])) (hone : oneCellFields P #[f0, f1] = true) (hC : P.cellsOf t = 2)
    (e0 : f0.type = T) (e1 : f1.type = T) (hT : P.underlying T = some (.slice E)) (hE : P.underlying E = some (.int .u8)) (hc : P.cellsOf E = 1) {W : World} {base : Nat} {v : Value} {d : DataW H} {p : List MemPlace}
    (hok : Value.okWide P W .any base t v) (h : DataW.Trod enc P W 0 (fun _ => true) true t v d p) (hlt : ∀ x ∈ p, x.block < W.heap.size) : ∃ l r, IsRow W v l r := by
  obtain ⟨v0, v1, y0, y1, n, rfl, _, rfl, h0, h1⟩ := Joins.open_agg2 hs hone hC hok h
  rw [e0] at h0
  rw [e1] at h1
  obtain ⟨l, hl⟩ := bytes_of_trod hT hE hc h0 fun y hy => hlt y (List.mem_append_left _ hy)
  obtain ⟨r, hr⟩ := bytes_of_trod hT hE hc h1 fun y hy => hlt y (List.mem_append_right _ hy)
  exact ⟨l, r, v0, v1, rfl, hl, hr⟩

end Go.Proofs.Ytgjjkiebfekkjaa
