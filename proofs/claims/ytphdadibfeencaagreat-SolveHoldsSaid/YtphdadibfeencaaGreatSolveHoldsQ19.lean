/- Texts of one seat, laid together: MonoT, LawThree, LawThreeB, LawEight, LawNineA, SolveA. -/
import Derived.Test.YtphdadibfeencaaGreatSolveHoldsQ18
import Derived.Test.YtphdadibfeencaaGreatSolveHoldsQ6
import Derived.Test.YtphdadibfeencaaGreatSolveHoldsQ4
import Derived.Test.YtphdadibfeencaaGreatSolveHoldsQ2
import Derived.Lib.SmallJoins
import Derived.Test.YtphdadibfeencaaGreatSolveHoldsQ9
import Derived.Test.YtphdadibfeencaaGreatSolveHoldsQ10
import Derived.Test.YtphdadibfeencaaGreatSolveHoldsQ8
import Derived.Deep.SlicePairs
import Derived.Test.YtphdadibfeencaaGreatSolveHoldsQ13
import Derived.Deep.DeepCutAuto

/-
  A region in any order that appends to two lists whose elements are unlike, loads from a box, and else only makes memory.
-/
set_option maxRecDepth 100000
namespace Go.Proofs.YtphdadibfeencaaGreat
open Go.RowKit

theorem Typed.go {w w' : World} {v : Value} {T : TypeId} (h : Typed w v T) (hb : Below w.heap.size w w') : Typed w' v T := by
  intro b e
  obtain ⟨c, f, h1⟩ := h b e
  exact ⟨c, f, (hb.block b (Array.getElem?_eq_some_iff.1 h1).1).trans h1⟩
theorem Typed.grown {w w' : World} {v : Value} {T : TypeId} {row : Option Nat} (h : Typed w v T) (hg : w.grownBy w' row) (hne : ∀ b, v.ownBlock = some b → row ≠ some b) : Typed w' v T := by
  intro b e
  obtain ⟨c, f, h1⟩ := h b e
  exact ⟨c, f, (hg.block b (Array.getElem?_eq_some_iff.1 h1).1 (fun e' => hne b e e'.symm)).trans h1⟩

/-- 'append', and the elder block keeps its elements' type. -/
theorem run_append_typed {P : Program} (w : World) (B : Nat) (t ty e : TypeId) (i : TypeInfo) (z : Value) (size bytes : Nat) (ht : P.underlying t = some (.slice e)) (hi : P.info? e = some i) (hz : i.zero = some z)
    (hsize : i.size = size) (hby : i.bytes = bytes) (hzs : z.cells.size = size) (hsz : 0 < size)
    (v : Value) (n : Nat) (xs : List Value) (hown : OwnN w B e size v n xs)
    (a : Addr) (m c : Nat) (news : List Value) (hl : news.length = m * size) (hnews : ∀ j u, news[j]? = some u → w.cell? (a.add j) = some u) (h1 : ∀ u ∈ news, u.oneCell' = true)
    (hzn : ∀ u ∈ z.cells.toList, ∀ k : Nat, u ≠ U8 k) (hnn : ∀ u ∈ news, ∀ k : Nat, u ≠ U8 k)
    (h63 : n + m ≤ maxLen) (hbytes : (n + m) * bytes ≤ 140737488355328) (hbase : B ≤ w.heap.size) :
    ∃ v' w', (Builtin.append_ #[t, t] ty #[v, .slice (some a) m c]).run P w = .ok v' w' ∧ OwnN w' B e size v' (n + m) (xs ++ news) ∧ w.grownBy w' v.ownBlock ∧ Soft w w' ∧ Typed w' v e := by
  obtain ⟨v', w', hr, ho, hg, hs⟩ := run_append_soft (P := P) w B t ty e i z size bytes ht hi hz hsize hby hzs hsz v n xs hown a m c news hl hnews h1 hzn hnn h63 hbytes hbase
  refine ⟨v', w', hr, ho, hg, hs, ?_⟩
  intro g e2
  by_cases hv : v'.ownBlock = some g
  · exact ho.typed g hv
  · obtain ⟨c0, f0, h0⟩ := hown.typed g e2
    refine ⟨c0, f0, Eq.trans ?_ h0⟩
    subst hsize
    subst hby
    rcases hown.1.2 with ⟨rfl, rfl⟩ | ⟨g0, cap, cur, rfl, hbg, hg0, hnc, hcm, hcs, htake⟩
    · cases e2
    · simp only [Value.ownBlock, Option.some.injEq] at e2
      subst e2
      by_cases hroom : n + m ≤ cap
      · have hfit : n * i.size + news.length ≤ cur.size := by rw [hl, hcs, ← Nat.add_mul]; exact Nat.mul_le_mul_right _ hroom
        have hr2 := run_append_room (P := P) w t ty e i ht hi g0 n cap cur hg0 a m c news hl hnews h1 hroom hfit
        rw [hr2] at hr
        simp only [Result.ok.injEq] at hr
        exact absurd (by rw [← hr.1]; rfl) hv
      · have holds : ∀ j u, xs[j]? = some u → w.cell? ((⟨g0, 0, none⟩ : Addr).add j) = some u := World.ownsRow.cells hown.1 (g := g0) rfl
        have hr2 := run_append_grow (P := P) w t ty e i z ht hi hz ⟨g0, 0, none⟩ n cap xs hown.1.1 holds a m c news hl hnews (by omega) (by simp only [maxLen] at h63; omega) (growslice_fits (by omega) hbytes)
        rw [hr2] at hr
        simp only [Result.ok.injEq] at hr
        rw [← hr.2]
        exact Below.heap_alloc w.drew _ _ (Array.getElem?_eq_some_iff.1 hg0).1

/-- A row of two slices, appended out of a block of its own. -/
theorem run_append_row1 {P : Program} {w : World} {B g c : Nat} {t ty T : TypeId} {v x y : Value} {L : List Rw} {r : Rw} {i : TypeInfo} (ht : P.underlying t = some (.slice T)) (hi : P.info? T = some i)
    (hz : i.zero = some (.agg #[.slice none 0 0, .slice none 0 0])) (hs : i.size = 2) (hb : i.bytes = 48) (hown : OwnL w B T v L) (hk : Blk w g #[x, y] T) (hx : Bytes w x r.1) (hy : Bytes w y r.2) (hB : B ≤ w.heap.size) (hn : L.length ≤ 1000000000) :
    ∃ v' w', (Builtin.append_ #[t, t] ty #[v, .slice (some ⟨g, 0, none⟩) 1 c]).run P w = .ok v' w' ∧ OwnL w' B T v' (L ++ [r]) ∧ w.grownBy w' v.ownBlock ∧ Soft w w' ∧ Typed w' v T := by
  obtain ⟨us, h1, h2⟩ := hown
  have hE : Each w [(x, y)] [r] := (Each.nil w).cons hx hy
  obtain ⟨v', w', k0, k1, k2, k3, k4⟩ := run_append_typed (P := P) w B t ty T i _ 2 48 ht hi hz hs hb rfl (by decide) v L.length (pairs us) h1 ⟨g, 0, none⟩ 1 c (pairs [(x, y)]) (by rw [pairs_length]; rfl)
    (fun j u hj => by
      have hlt := (List.getElem?_eq_some_iff.1 hj).1
      simp [pairs] at hlt
      rw [row_add]
      have : j = 0 ∨ j = 1 := by omega
      rcases this with rfl | rfl
      · simp [pairs] at hj; subst hj; exact hk.cell 0
      · simp [pairs] at hj; subst hj; exact hk.cell 1)
    (fun u hu => (hE.noU8 u hu).2) (fun u hu => by simp [Value.cells] at hu; subst hu; exact slice_ne _ _ _) (fun u hu => (hE.noU8 u hu).1) (by unfold maxLen; omega) (by omega) hB
  refine ⟨v', w', k0, ⟨us ++ [(x, y)], ?_, (h2.append hE).soft k3⟩, k2, k3, k4⟩
  rw [List.length_append, pairs_append]; exact k1

/-- What is said of a list of such elements, and what stays of it. -/
structure Lst (T : TypeId) (F : World → Value → Prop) : Prop where
  typed : ∀ {w v}, F w v → Typed w v T
  keep : ∀ {w w' : World} {v row}, F w v → w.grownBy w' row → Soft w w' → (∀ b, v.ownBlock = some b → row ≠ some b) → F w' v
  go : ∀ {w w' : World} {v}, F w v → Below w.heap.size w w' → F w' v
theorem lstL (B : Nat) (T : TypeId) (L : List Rw) : Lst T fun w v => OwnL w B T v L := ⟨fun h => h.typed, fun h => h.keepO, fun h => h.go⟩
/-- What is fixed: both lists, ahead, and a box that is read. -/
structure Two where
  w : World
  W : World
  v1 : Value
  T1 : TypeId
  v2 : Value
  T2 : TypeId
  gK : Nat
  vK : Array Value
  TK : TypeId
def Two.C (z : Two) : World → Prop := fun a => Below z.w.heap.size z.w a ∧ z.W.heap.size ≤ a.heap.size ∧ Blk a z.gK z.vK z.TK ∧ Typed a z.v1 z.T1 ∧ Typed a z.v2 z.T2
/-- The steps that write: 0 appends to the first list, any other one to the second. -/
def Two.H (z : Two) : Nat → World → World → Prop := fun c a b => if c = 0 then a.grownBy b z.v1.ownBlock ∧ Soft a b ∧ Typed b z.v1 z.T1 else a.grownBy b z.v2.ownBlock ∧ Soft a b ∧ Typed b z.v2 z.T2
structure Two.Fit (z : Two) : Prop where
  own1 : ∀ g, z.v1.ownBlock = some g → z.w.heap.size ≤ g ∧ g < z.W.heap.size
  own2 : ∀ g, z.v2.ownBlock = some g → z.w.heap.size ≤ g ∧ g < z.W.heap.size
  ne : z.T1 ≠ z.T2
  k1 : z.T1 ≠ z.TK
  k2 : z.T2 ≠ z.TK
def onlyT (n : Nat) : Nat → Bool := fun c => decide ((c = 0) = (n = 0))
theorem onlyT0 {c : Nat} (h : onlyT 0 c = true) : c = 0 := by simpa [onlyT] using h
theorem onlyT1 {c : Nat} (h : onlyT 1 c = true) : c ≠ 0 := by simpa [onlyT] using h
/-- A new block of one row. -/
def FreshRow (W a : World) (v : Value) (r : Rw) (T : TypeId) : Prop := ∃ g x y, v = .slice (some ⟨g, 0, none⟩) 1 1 ∧ W.heap.size ≤ g ∧ Blk a g #[x, y] T ∧ Bytes a x r.1 ∧ Bytes a y r.2
section
variable {z : Two}
theorem Two.hC (z : Two) : ∀ a b, z.C a → Rb a b → z.C b := fun _ _ ⟨h1, h2, h3, h4, h5⟩ hR => ⟨h1.trans (hR.mono h1.size), Nat.le_trans h2 hR.size, h3.go hR, h4.go hR, h5.go hR⟩
theorem Two.hCH (hz : z.Fit) : ∀ c a b, z.C a → z.H c a b → z.C b := by
  intro c a b ⟨h1, h2, h3, h4, h5⟩ hH
  unfold Two.H at hH
  split at hH
  · obtain ⟨g1, g2, g3⟩ := hH
    exact ⟨h1.grown g1 h1.size (fun g e => (hz.own1 g e).1), Nat.le_trans h2 g1.size, h3.grown g1 (fun e => h4.box h3 hz.k1 e.symm), g3, h5.grown g1 (h5.apart h4 hz.ne.symm)⟩
  · obtain ⟨g1, g2, g3⟩ := hH
    exact ⟨h1.grown g1 h1.size (fun g e => (hz.own2 g e).1), Nat.le_trans h2 g1.size, h3.grown g1 (fun e => h5.box h3 hz.k2 e.symm), h4.grown g1 (h4.apart h5 hz.ne), g3⟩
theorem Two.soft {c : Nat} {a b : World} (h : z.H c a b) : Soft a b := by
  unfold Two.H at h
  split at h <;> exact h.2.1
theorem Two.fresh (hz : z.Fit) {c : Nat} {a b : World} {v : Value} {r : Rw} {T : TypeId} (h : FreshRow z.W a v r T) (hH : z.H c a b) : FreshRow z.W b v r T := by
  have hs := Two.soft hH
  obtain ⟨g, x, y, rfl, hg, hk, hx, hy⟩ := h
  refine ⟨g, x, y, rfl, hg, ?_, hx.soft hs, hy.soft hs⟩
  unfold Two.H at hH
  split at hH
  · exact hk.grown hH.1 fun e => by have := (hz.own1 g e.symm).2; omega
  · exact hk.grown hH.1 fun e => by have := (hz.own2 g e.symm).2; omega
theorem FreshRow.go {W a b : World} {v : Value} {r : Rw} {T : TypeId} (h : FreshRow W a v r T) (hb : Below a.heap.size a b) : FreshRow W b v r T := by
  obtain ⟨g, x, y, rfl, hg, hk, hx, hy⟩ := h
  exact ⟨g, x, y, rfl, hg, hk.go hb, hx.go hb, hy.go hb⟩
theorem Two.a_keep {c : Nat} {a b : World} {v : Value} {F : World → Value → Prop} (hF : Lst z.T1 F) (hz : z.Fit) (hc : c ≠ 0) (hC : z.C a) (hH : z.H c a b) (h : F a v) : F b v := by
  unfold Two.H at hH
  rw [if_neg hc] at hH
  exact hF.keep h hH.1 hH.2.1 ((hF.typed h).apart hC.2.2.2.2 hz.ne)
theorem Two.b_keep {c : Nat} {a b : World} {v : Value} {F : World → Value → Prop} (hF : Lst z.T2 F) (hz : z.Fit) (hc : c = 0) (hC : z.C a) (hH : z.H c a b) (h : F a v) : F b v := by
  unfold Two.H at hH
  rw [if_pos hc] at hH
  exact hF.keep h hH.1 hH.2.1 ((hF.typed h).apart hC.2.2.2.1 hz.ne.symm)

def TyT.val (t : Tmp) (v : Value) : Ty z.C Rb z.H := Ty.val t v
def TyT.row (t : Tmp) (p q : List Nat) : Ty z.C Rb z.H := Ty.one t (fun v a => IsRow a v p q) (fun _ _ _ _ hR h => h.go hR) (fun _ _ _ _ _ hH h => h.soft (Two.soft hH))
def TyT.fresh (hz : z.Fit) (t : Tmp) (r : Rw) (T : TypeId) : Ty z.C Rb z.H := Ty.one t (fun v a => FreshRow z.W a v r T) (fun _ _ _ _ hR h => h.go hR) (fun _ _ _ _ _ hH h => Two.fresh hz h hH)
/-- The append to the first list. -/
def TyT.appA (hz : z.Fit) (t : Tmp) {F F' : World → Value → Prop} (hF : Lst z.T1 F) (hF' : Lst z.T1 F') : Ty z.C Rb z.H :=
  ⟨[t], fun vs a => F' a (vs.headD undef), some 0, onlyT 1, fun _ _ _ _ hR h => hF'.go h hR, fun _ hc _ _ _ hC hH h => Two.a_keep hF' hz (onlyT1 hc) hC hH h,
    fun a => F a z.v1, onlyT 1, fun _ _ _ hR h => hF.go h hR, fun _ hc _ _ hC hH h => Two.a_keep hF hz (onlyT1 hc) hC hH h⟩
def TyT.appB (hz : z.Fit) (t : Tmp) {F F' : World → Value → Prop} (hF : Lst z.T2 F) (hF' : Lst z.T2 F') : Ty z.C Rb z.H :=
  ⟨[t], fun vs a => F' a (vs.headD undef), some 1, onlyT 0, fun _ _ _ _ hR h => hF'.go h hR, fun _ hc _ _ _ hC hH h => Two.b_keep hF' hz (onlyT0 hc) hC hH h,
    fun a => F a z.v2, onlyT 0, fun _ _ _ hR h => hF.go h hR, fun _ hc _ _ hC hH h => Two.b_keep hF hz (onlyT0 hc) hC hH h⟩
def TyT.isA (hz : z.Fit) (t : Tmp) {F : World → Value → Prop} (hF : Lst z.T1 F) : Ty z.C Rb z.H :=
  ⟨[t], fun vs a => F a (vs.headD undef), none, onlyT 1, fun _ _ _ _ hR h => hF.go h hR, fun _ hc _ _ _ hC hH h => Two.a_keep hF hz (onlyT1 hc) hC hH h,
    fun _ => True, fun _ => true, fun _ _ _ _ _ => trivial, fun _ _ _ _ _ _ _ => trivial⟩
def TyT.isB (hz : z.Fit) (t : Tmp) {F : World → Value → Prop} (hF : Lst z.T2 F) : Ty z.C Rb z.H :=
  ⟨[t], fun vs a => F a (vs.headD undef), none, onlyT 0, fun _ _ _ _ hR h => hF.go h hR, fun _ hc _ _ _ hC hH h => Two.b_keep hF hz (onlyT0 hc) hC hH h,
    fun _ => True, fun _ => true, fun _ _ _ _ _ => trivial, fun _ _ _ _ _ _ _ => trivial⟩
theorem Two.drew (hB : Below z.w.heap.size z.w z.W) (hK : Blk z.W z.gK z.vK z.TK) (h1 : Typed z.W z.v1 z.T1) (h2 : Typed z.W z.v2 z.T2) : z.C z.W.drew := by
  have hb : Below z.W.heap.size z.W z.W.drew := (Below.refl _ _).drew
  exact ⟨hB.trans (hb.mono hB.size), Nat.le_refl _, hK.go hb, h1.go hb, h2.go hb⟩
end

end Go.Proofs.YtphdadibfeencaaGreat

/-
  The laws of rows (layer 3): which are gone through, and the document's form of one.
-/
set_option maxRecDepth 100000
namespace Go.Proofs.YtphdadibfeencaaGreat
open Go.ChangeShapes Go.WideShapes Go.ChangeAt Go.RowKit Go.Deep

set_option maxHeartbeats 400000 in
theorem ref3_any (u : Value) (p q : List Nat) (w : World) (h : IsRow w u p q) :
    Calls Tryz.prog 15 #[u] w (RowsV w p q) := by
  obtain ⟨v, d, rfl, hv, hd⟩ := h
  have HP := Lib.hid hv
  have HQ := Lib.hid hd
  obtain ⟨a0, c0, rfl, _⟩ := hv
  obtain ⟨a1, c1, rfl, _⟩ := hd
  go_enter Tryz.func15, Tryz.ntmps15
  go_wp2_with fail
  have B2 := ((Below.refl w.heap.size w).alloc (Nat.le_refl _) (.cells #[.slice a0 p.length c0, .slice a1 q.length c1] 32)).alloc (by simp) (.cells #[.slice a0 p.length c0, .slice a1 q.length c1] 50)
  exact bodyPost_ret (v := .agg #[.slice a0 p.length c0, .slice a1 q.length c1]) (by simp [results, Tryz.results15, go_sem]) rfl
    ⟨_, rfl, ⟨_, _, rfl, HP.out.below (Nat.le_refl _) B2, HQ.out.below (Nat.le_refl _) B2⟩, B2⟩

end Go.Proofs.YtphdadibfeencaaGreat

/-
  The laws of rows (layer 3): the example, 'Make', 'Of'.
-/
set_option maxRecDepth 100000
namespace Go.Proofs.YtphdadibfeencaaGreat
open Go.RowKit

set_option maxHeartbeats 400000 in
theorem make3_any (u : Value) (p q : List Nat) (w : World) (hu : IsRow w u p q) (hlp : p.length ≤ 1000000000) (hlq : q.length ≤ 1000000000) :
    Calls Tryz.prog 14 #[u] w (RowsV w p q) := by
  obtain ⟨v, d, rfl, hp, hq⟩ := hu
  have HP := Lib.hid hp
  have HQ := Lib.hid hq
  clear hp hq
  go_enter Tryz.func14, Tryz.ntmps14
  go_wp2_with fail
  obtain ⟨B, hk1, hk2, hs⟩ := blocks2 w #[v, d] 32 #[.slice none 0 0, .slice none 0 0] 46
  generalize ((w.alloc (.cells #[v, d] 32)).alloc (.cells #[.slice none 0 0, .slice none 0 0] 46)) = W at *
  have K1 := Lib.hid hk1
  have K2 := Lib.hid hk2
  have HS := Lib.hid hs
  clear hs hk1 hk2
  replace HP := Lib.hid (HP.out.go B)
  replace HQ := Lib.hid (HQ.out.go B)
  have hzW := B.size
  obtain ⟨k10, k11⟩ := K1.out.two
  have k1l := K1.out.lt
  go_wp2_with fail
  refine (of_any _ _ _ _ _ HP.out HQ.out hlp hlq).mono ?_
  rintro e w1 ⟨v1, rfl, hv1, hb⟩
  replace K2 := Lib.hid (K2.out.go hb)
  replace B := B.trans (hb.mono B.size)
  have hzw1 := B.size
  clear hb
  obtain ⟨y0, y1, rfl, V1, V2⟩ := hv1
  have H1 := Lib.hid V1
  have H2 := Lib.hid V2
  obtain ⟨a1, c1, rfl, _⟩ := V1
  obtain ⟨a2, c2, rfl, _⟩ := V2
  obtain ⟨k20, k21⟩ := K2.out.two
  have k2l := K2.out.lt
  obtain ⟨k2f0, k2f1⟩ := K2.out.fre2
  go_wp2_with fail
  obtain ⟨e0, e1, hB, hS⟩ := store2 K2.out (Nat.le_succ _) B (slice_ne _ _ _) (slice_ne _ _ _) (.slice a1 p.length c1) (.slice a2 q.length c2)
  exact bodyPost_ret (v := .agg #[.slice a1 p.length c1, .slice a2 q.length c2]) (by simp [results, Tryz.results14, go_sem, e0, e1]) rfl
    ⟨_, rfl, ⟨_, _, rfl, hS _ _ H1.out, hS _ _ H2.out⟩, hB⟩

end Go.Proofs.YtphdadibfeencaaGreat

/-
  The laws of grids and equations (layers 7 and 8): which are gone through; equations that came in; are rows the document's?
-/
set_option maxRecDepth 100000
namespace Go.Proofs.YtphdadibfeencaaGreat
open Go.ChangeShapes Go.WideShapes Go.ChangeAt Go.RowKit Go.Deep

/-- A list of structs of two slices of bytes that came in. -/
theorem open_rl {H : Type} {enc : TypeId × Value → H} {P : Program} {S t T E : TypeId} {f0 f1 : Field} (hS : P.underlying S = some (.slice t)) (hs : P.underlying t = some (.struct #[f0, f1])) (hC : P.cellsOf t = 2)
    (o0 : f0.offset = 0) (o1 : f1.offset = 1) (e0 : f0.type = T) (e1 : f1.type = T) (hT : P.underlying T = some (.slice E)) (hE : P.underlying E = some (.int .u8)) (hcT : P.cellsOf T = 1) (hc : P.cellsOf E = 1) {W : World} {base : Nat} {v : Value} {d : DataW H} {p : List MemPlace}
    (hok : Value.okWide P W .any base S v) (h : DataW.Trod enc P W 0 (fun _ => true) true S v d p) (hlt : ∀ x ∈ p, x.block < W.heap.size) : ∃ L, IsRL W v L := by
  obtain ⟨a0, len, cap, rfl⟩ := okWide_slice hS hok
  obtain ⟨fuel, hf⟩ := h
  rcases open_slice_pairs hS hs hC o0 o1 (by rw [e0]; exact hcT) (by rw [e1]; exact hcT) hf with ⟨hcs, hx⟩ | ⟨a, len', cap', m, n, V0, V1, D0, D1, P0, P1, hcs, _, hl, hm, hmm, hx, hall⟩
  · simp [Value.cells] at hcs
    obtain ⟨rfl, rfl, rfl⟩ := hcs
    exact ⟨[], isRL_none _ _ _ (by omega)⟩
  · simp [Value.cells] at hcs
    obtain ⟨rfl, rfl, rfl⟩ := hcs
    simp only [Prod.mk.injEq] at hx
    obtain ⟨rfl, rfl⟩ := hx
    simp only [if_true] at hmm
    subst hmm
    have hrow : ∀ i, i < len → ∃ r : Rw, Bytes W (V0 i) r.1 ∧ Bytes W (V1 i) r.2 := fun i hi => by
      obtain ⟨_, _, h0, h1⟩ := hall i (by omega)
      rw [e0] at h0
      rw [e1] at h1
      have hmem : ∀ y, y ∈ P0 i ++ P1 i → y.block < W.heap.size := fun y hy => hlt y (List.mem_append_right _ (List.mem_flatMap.2 ⟨i, List.mem_range.2 (by omega), hy⟩))
      obtain ⟨l, hl'⟩ := bytes_of_trod hT hE hc h0 fun y hy => hmem y (List.mem_append_left _ hy)
      obtain ⟨r, hr⟩ := bytes_of_trod hT hE hc h1 fun y hy => hmem y (List.mem_append_right _ hy)
      exact ⟨(l, r), hl', hr⟩
    obtain ⟨L, hL⟩ := Go.Deep.choose_lt hrow
    have hlen : ((List.range len).map L).length = len := by simp
    refine ⟨(List.range len).map L, some a, m, by rw [hlen], by rw [hlen]; exact hl, by simpa [maxLen] using hm, fun hne => ?_⟩
    have hl0 : 0 < len := by
      cases len with
      | zero => simp at hne
      | succ n => omega
    obtain ⟨b, off, spot⟩ := a
    have hspot : spot = none := by simpa [Addr.add] using World.cell?_spot (hall 0 (by omega)).1
    subst hspot
    have hbW : b < W.heap.size := hlt (.cell b off) (List.mem_append_left _ (MemPlace.mem_row.2 ⟨0, by omega, by simp⟩))
    refine ⟨b, off, rfl, hbW, fun i hi => ?_⟩
    rw [hlen] at hi
    obtain ⟨h0, h1, _, _⟩ := hall i (by omega)
    rw [row_add] at h0 h1
    refine ⟨V0 i, V1 i, h0, by rw [Nat.add_assoc]; exact h1, ?_⟩
    rw [rwAt_eq _ _ (by rw [hlen]; exact hi)]
    simpa using hL i hi

/-- Are equations gone through here? -/
def few8 (L : List Rw) : Bool := L.all (fun r => decide (r.1.length ≤ 20) && decide (r.2.length ≤ 20)) && decide (L.length ≤ 30)

set_option maxHeartbeats 1000000 in
theorem few8_any (v : Value) (L : List Rw) (w : World) (hL : IsRL w v L) :
    Calls Tryz.prog 5 #[v] w fun e w' => e = .returned (.bool (few8 L)) ∧ Below w.heap.size w w' := by
  have hcap : L.length ≤ 9223372036854775807 := by obtain ⟨_, _, _, h1, h2, _⟩ := hL; omega
  have HL := Lib.hid hL
  obtain ⟨a, c, rfl⟩ := hL.shape
  clear hL
  obtain ⟨t, ht⟩ : ∃ t, t = few8 L := ⟨_, rfl⟩
  rw [← ht]
  have HT := Lib.hid ht
  clear ht
  go_enter Tryz.func5, Tryz.ntmps5
  go_wp2_with fail
  go_loopw [4, 7] (fun _ i wr => ∃ n : Nat, n ≤ L.length ∧ i = .int .i64 n ∧ (∀ j, j < n → (rwAt L j).1.length ≤ 20 ∧ (rwAt L j).2.length ≤ 20) ∧ Below w.heap.size w wr) (fun _ i _ => L.length - (intOf i).toNat)
  case atStart => exact ⟨0, by omega, rfl, fun j hj => by omega, Below.refl _ _⟩
  case round =>
    obtain ⟨n, hn, rfl, hno, B⟩ := hrel
    have HN := Lib.hid hno
    clear hno
    by_cases hlt : n < L.length
    · obtain ⟨b, off, c', er, _⟩ := HL.out.addr (by omega)
      simp only [Value.slice.injEq, true_and] at er
      obtain ⟨rfl, rfl⟩ := er
      obtain ⟨p0, q0, z0, z1, hb1, hb2⟩ := (HL.out.go B).cells n hlt
      obtain ⟨pa, pc, rfl, _⟩ := hb1
      obtain ⟨qa, qc, rfl, _⟩ := hb2
      rcases (show (decide ((20 : Int) < ((rwAt L n).1.length : Int)) = false ∧ decide ((20 : Int) < ((rwAt L n).2.length : Int)) = false) ∨ decide ((20 : Int) < ((rwAt L n).1.length : Int)) = true ∨ (decide ((20 : Int) < ((rwAt L n).1.length : Int)) = false ∧ decide ((20 : Int) < ((rwAt L n).2.length : Int)) = true) from by
        simp only [decide_eq_true_eq, decide_eq_false_iff_not]; omega) with ⟨h1, h2⟩ | h1 | ⟨h1, h2⟩
      · have HQ := Lib.hid (show (rwAt L n).1.length ≤ 20 ∧ (rwAt L n).2.length ≤ 20 by simp only [decide_eq_false_iff_not] at h1 h2; omega)
        go_wp2_with fail
        have hzr := B.size
        go_roundw
        case rel => exact ⟨n + 1, by omega, by go_num, fun j hj => by
          by_cases h : j = n
          · rw [h]; exact HQ.out
          · exact HN.out j (by omega), B.alloc hzr _⟩
        case measure => simp [intOf]; omega
      · have HQ := Lib.hid (show t = false by
          rw [HT.out]; unfold few8
          rw [Bool.and_eq_false_iff]; left
          rw [List.all_eq_false]
          exact ⟨rwAt L n, rwAt_mem hlt, by simp only [decide_eq_true_eq] at h1; simp; omega⟩)
        have hzr := B.size
        go_wp2_with fail
        go_ret
        exact ⟨by rw [HQ.out]; rfl, B.alloc hzr _⟩
      · have HQ := Lib.hid (show t = false by
          rw [HT.out]; unfold few8
          rw [Bool.and_eq_false_iff]; left
          rw [List.all_eq_false]
          exact ⟨rwAt L n, rwAt_mem hlt, by simp only [decide_eq_true_eq] at h2; simp; omega⟩)
        have hzr := B.size
        go_wp2_with fail
        go_ret
        exact ⟨by rw [HQ.out]; rfl, B.alloc hzr _⟩
    · have HQ := Lib.hid (show t = decide ((L.length : Int) ≤ 30) by
        rw [HT.out]; unfold few8
        have : L.all (fun r => decide (r.1.length ≤ 20) && decide (r.2.length ≤ 20)) = true := by
          rw [List.all_eq_true]
          intro r hr
          obtain ⟨i, hi, rfl⟩ := List.mem_iff_getElem.1 hr
          rw [← rwAt_eq L i hi]
          have := HN.out i (by omega)
          simpa using this
        rw [this, Bool.true_and]
        by_cases h : L.length ≤ 30
        · rw [decide_eq_true h, decide_eq_true (by omega)]
        · rw [decide_eq_false h, decide_eq_false (by omega)])
      go_wp2_with fail
      go_ret
      exact ⟨by rw [HQ.out]; rfl, B⟩

end Go.Proofs.YtphdadibfeencaaGreat

/-
  The laws of what equations say together (layer 9): equations as the program's rows, and as the document's.
-/
set_option maxRecDepth 100000
namespace Go.Proofs.YtphdadibfeencaaGreat
open Go.RowKit

theorem slice1_vrow (a a' : Option Addr) (n n' c c' : Nat) (w : World) : (Instr.buildSlice 27 1 #[(0, .agg #[.slice a n c, .slice a' n' c'])]).run Tryz.prog w = .ok (.slice (some ⟨w.heap.size, 0, none⟩) 1 1) (w.alloc (.cells #[.slice a n c, .slice a' n' c'] 46)) := by go_simp
theorem slice1_rrow (a a' : Option Addr) (n n' c c' : Nat) (w : World) : (Instr.buildSlice 28 1 #[(0, .agg #[.slice a n c, .slice a' n' c'])]).run Tryz.prog w = .ok (.slice (some ⟨w.heap.size, 0, none⟩) 1 1) (w.alloc (.cells #[.slice a n c, .slice a' n' c'] 50)) := by go_simp
section
variable {z : Two} {a : Act} {w : World} {o : Oper} {Q : Exit → Act → World → Prop} {t s x : Tmp} {r : Rw}
theorem ob_fresh_v (hz : z.Fit) (hd : o.dst = some t) (hlt : t < a.tmps.size) (hop : o.op = .buildSlice 27 1 #[(0, .tmp s)]) (hC : z.C w) (hV : IsRow w (a.eval (.tmp s)) r.1 r.2) : Done Tryz.prog (TyT.fresh hz t r 46) Q o a w := by
  obtain ⟨x1, y1, e, hx, hy⟩ := hV
  have hb : ∀ (cs : Array Value) (T : TypeId), Below w.heap.size w (w.alloc (.cells cs T)) := fun cs T => (Below.refl _ _).alloc (Nat.le_refl _) _
  have hx' := fun cs T => hx.go (hb cs T)
  have hy' := fun cs T => hy.go (hb cs T)
  obtain ⟨a1, c1, rfl, _⟩ := hx
  obtain ⟨a2, c2, rfl, _⟩ := hy
  exact ob_slice1 _ _ rfl rfl hd hlt hop e (slice1_vrow _ _ _ _ _ _ _) (hb _ _) ⟨_, _, _, rfl, hC.2.1, Blk.new _ _ _ _ rfl, hx' _ _, hy' _ _⟩
theorem ob_fresh_r (hz : z.Fit) (hd : o.dst = some t) (hlt : t < a.tmps.size) (hop : o.op = .buildSlice 28 1 #[(0, .tmp s)]) (hC : z.C w) (hV : IsRow w (a.eval (.tmp s)) r.1 r.2) : Done Tryz.prog (TyT.fresh hz t r 50) Q o a w := by
  obtain ⟨x1, y1, e, hx, hy⟩ := hV
  have hb : ∀ (cs : Array Value) (T : TypeId), Below w.heap.size w (w.alloc (.cells cs T)) := fun cs T => (Below.refl _ _).alloc (Nat.le_refl _) _
  have hx' := fun cs T => hx.go (hb cs T)
  have hy' := fun cs T => hy.go (hb cs T)
  obtain ⟨a1, c1, rfl, _⟩ := hx
  obtain ⟨a2, c2, rfl, _⟩ := hy
  exact ob_slice1 _ _ rfl rfl hd hlt hop e (slice1_rrow _ _ _ _ _ _ _) (hb _ _) ⟨_, _, _, rfl, hC.2.1, Blk.new _ _ _ _ rfl, hx' _ _, hy' _ _⟩
variable {P : Program} {tt : TypeId} {B : Nat} {L : List Rw}
theorem ob_appA (hz : z.Fit) (ht : P.underlying tt = some (.slice z.T1)) (hinfo : (P.info? z.T1).map (fun i => (i.zero, i.size, i.bytes)) = some (some (.agg #[.slice none 0 0, .slice none 0 0]), 2, 48)) (hB : B ≤ w.heap.size) (hn : L.length ≤ 1000000000)
    (hd : o.dst = some t) (hlt : t < a.tmps.size) (hop : o.op = .call { callee := .builtin .append, args := #[.tmp s, .tmp x], argTypes := #[tt, tt] }) (hs : a.eval (.tmp s) = z.v1) (hx : FreshRow z.W w (a.eval (.tmp x)) r z.T1) (hown : OwnL w B z.T1 z.v1 L) :
    Done P (TyT.appA hz t (lstL B z.T1 L) (lstL B z.T1 (L ++ [r]))) Q o a w := by
  obtain ⟨i0, hi, hz0, hz1, hz2⟩ := info_parts hinfo
  obtain ⟨g, x', y', e, _, hk, h1, h2⟩ := hx
  obtain ⟨v9, w9, r9, o9, g9, s9, t9⟩ := run_append_row1 (ty := o.type) ht hi hz0 hz1 hz2 hown hk h1 h2 hB hn
  exact ob_hard v9 w9 rfl rfl hd hlt (run_ob_append hop hs e r9) (by unfold Two.H; rw [if_pos rfl]; exact ⟨g9, s9, t9⟩) o9
theorem ob_appB (hz : z.Fit) (ht : P.underlying tt = some (.slice z.T2)) (hinfo : (P.info? z.T2).map (fun i => (i.zero, i.size, i.bytes)) = some (some (.agg #[.slice none 0 0, .slice none 0 0]), 2, 48)) (hB : B ≤ w.heap.size) (hn : L.length ≤ 1000000000)
    (hd : o.dst = some t) (hlt : t < a.tmps.size) (hop : o.op = .call { callee := .builtin .append, args := #[.tmp s, .tmp x], argTypes := #[tt, tt] }) (hs : a.eval (.tmp s) = z.v2) (hx : FreshRow z.W w (a.eval (.tmp x)) r z.T2) (hown : OwnL w B z.T2 z.v2 L) :
    Done P (TyT.appB hz t (lstL B z.T2 L) (lstL B z.T2 (L ++ [r]))) Q o a w := by
  obtain ⟨i0, hi, hz0, hz1, hz2⟩ := info_parts hinfo
  obtain ⟨g, x', y', e, _, hk, h1, h2⟩ := hx
  obtain ⟨v9, w9, r9, o9, g9, s9, t9⟩ := run_append_row1 (ty := o.type) ht hi hz0 hz1 hz2 hown hk h1 h2 hB hn
  exact ob_hard v9 w9 rfl rfl hd hlt (run_ob_append hop hs e r9) (by unfold Two.H; rw [if_neg (by decide)]; exact ⟨g9, s9, t9⟩) o9
end

/-- What Rows answers. -/
def BothL (w : World) (L : List Rw) (e : Ending) (w' : World) : Prop := ∃ v u, e = .returned (.tuple #[v, u]) ∧ OwnL w' w.heap.size 46 v L ∧ OwnL w' w.heap.size 50 u L ∧ Below w.heap.size w w'
set_option maxHeartbeats 1000000 in
theorem rows9_any (v : Value) (L : List Rw) (w : World) (hL : IsRL w v L) (hlen : L.length ≤ 1000000) (hw : ∀ j, j < L.length → (rwAt L j).1.length ≤ 10000000 ∧ (rwAt L j).2.length ≤ 10000000) :
    Calls Tryz.prog 6 #[v] w (BothL w L) := by
  have HL0 := Lib.hid hL
  obtain ⟨a, c, rfl⟩ := hL.shape
  have HW := Lib.hid hw
  clear hL hw
  go_enter Tryz.func6, Tryz.ntmps6
  go_wp2_with fail
  go_loopw [4, 5, 7, 10] (fun lv lu _ x wr => ∃ j : Nat, j ≤ L.length ∧ x = .int .i64 j ∧ Below w.heap.size w wr ∧ OwnL wr w.heap.size 46 lv (L.take j) ∧ OwnL wr w.heap.size 50 lu (L.take j)) (fun _ _ _ x _ => L.length - (intOf x).toNat)
  case atStart => exact ⟨0, by omega, rfl, Below.refl _ _, OwnL.nil _ _ _, OwnL.nil _ _ _⟩
  case round =>
    obtain ⟨j, hj, rfl, B, hA, hB⟩ := hrel
    have HA := Lib.hid hA
    have HB := Lib.hid hB
    obtain ⟨va, vc, e1⟩ := hA.shape
    obtain ⟨da, dc, e2⟩ := hB.shape
    have htl : (L.take j).length = j := by rw [List.length_take, Nat.min_eq_left hj]
    rw [htl] at e1 e2
    subst e1
    subst e2
    clear hA hB
    by_cases hjl : j < L.length
    · obtain ⟨b, off, c', er, hbl⟩ := HL0.out.addr (by omega)
      simp only [Value.slice.injEq] at er
      obtain ⟨rfl, -, rfl⟩ := er
      obtain ⟨x0, y0, hx0, hy0, hxb, hyb⟩ := HL0.out.cells j hjl
      replace hx0 := (Below.cell B (p := ⟨b, _, none⟩) hbl).trans hx0
      replace hy0 := (Below.cell B (p := ⟨b, _, none⟩) hbl).trans hy0
      have HLN := Lib.hid (HW.out j hjl)
      have HTK := Lib.hid (take_rwAt L j hjl)
      obtain ⟨r, hr⟩ : ∃ r, r = rwAt L j := ⟨_, rfl⟩
      rw [← hr] at hxb hyb HLN HTK
      have HXR := Lib.hid (show IsRow w (.agg #[x0, y0]) r.1 r.2 from ⟨_, _, rfl, hxb, hyb⟩)
      obtain ⟨xa, xc, rfl, _⟩ := hxb
      obtain ⟨ya, yc, rfl, _⟩ := hyb
      have j1 : (j : Int) < (L.length : Int) := by omega
      have j0 : (0 : Int) ≤ (j : Int) := Int.natCast_nonneg _
      clear hr hbl htl
      go_upto_region 6 with fail
      obtain ⟨gx, hgx⟩ : ∃ gx : Nat, gx = wr.heap.size := ⟨_, rfl⟩
      obtain ⟨hb, hk, hs⟩ := blocks1 wr #[.slice xa r.1.length xc, .slice ya r.2.length yc] 32
      generalize wr.alloc (.cells #[.slice xa r.1.length xc, .slice ya r.2.length yc] 32) = W6 at *
      have KX := Lib.hid hk
      replace HA := Lib.hid (HA.out.go hb)
      replace HB := Lib.hid (HB.out.go hb)
      replace B := B.trans (hb.mono B.size)
      have hzW6 := B.size
      clear hb hk hs
      rw [← hgx] at KX
      simp only [← hgx]
      obtain ⟨M, hM⟩ : ∃ M, M = L.take j := ⟨_, rfl⟩
      have HML := Lib.hid (show M.length ≤ 1000000000 by rw [hM, List.length_take]; omega)
      rw [← hM] at HA HB HTK
      have HZ := Lib.hid (show (Two.mk w W6 (.slice va j vc) 46 (.slice da j dc) 50 gx #[.slice xa r.1.length xc, .slice ya r.2.length yc] 32).Fit from ⟨fun g e => ⟨HA.out.from g e, HA.out.lt g e⟩, fun g e => ⟨HB.out.from g e, HB.out.lt g e⟩, (by decide : 46 ≠ 50), (by decide : 46 ≠ 32), (by decide : 50 ≠ 32)⟩)
      have HR := Lib.hid hM
      have HBW := Lib.hid B
      clear hx0 hy0 hM hgx B
      refine wp_region_mono (C := (Two.mk w W6 (.slice va j vc) 46 (.slice da j dc) 50 gx #[.slice xa r.1.length xc, .slice ya r.2.length yc] 32).C) (R := Rb) (H := (Two.mk w W6 (.slice va j vc) 46 (.slice da j dc) 50 gx #[.slice xa r.1.length xc, .slice ya r.2.length yc] 32).H) [TyT.val 14 (.slice va j vc), TyT.row 15 r.1 r.2, TyT.row 16 r.1 r.2, (TyT.fresh HZ.out 17 r 46), (TyT.appA HZ.out 18 (lstL w.heap.size 46 M) (lstL w.heap.size 46 (M ++ [r]))), TyT.val 19 (.slice da j dc), TyT.row 20 r.1 r.2, TyT.row 21 r.1 r.2, (TyT.fresh HZ.out 22 r 50), (TyT.appB HZ.out 23 (lstL w.heap.size 50 M) (lstL w.heap.size 50 (M ++ [r]))), (TyT.isA HZ.out 4 (lstL w.heap.size 46 (M ++ [r]))), (TyT.isB HZ.out 5 (lstL w.heap.size 50 (M ++ [r])))] (by kernel_rfl) (Two.hC _) (Two.hCH HZ.out) (Two.drew HBW.out KX.out HA.out.typed HB.out.typed) ⟨trivial, trivial, trivial, trivial, (HA.out.go (drew_b W6)), trivial, trivial, trivial, trivial, (HB.out.go (drew_b W6)), trivial, trivial, trivial⟩ (by kernel_rfl) ?_ ?_
      · refine ⟨?_, ?_, ?_, ?_, ?_, ?_, ?_, ?_, ?_, ?_, ?_, ?_, trivial⟩
        · intro ac wc hC hsz hfr hd hpr
          have d4 : ac.eval (.tmp 4) = (.slice va j vc) := hfr 4 rfl
          rw [if_pos (wanted_none rfl)]
          exact ob_copy rfl rfl rfl (Nat.lt_of_lt_of_eq (by decide : 14 < 27) hsz.symm) (Or.inl rfl) (Below.refl _ _) d4
        · intro ac wc hC hsz hfr hd hpr
          have d7 : ac.eval (.tmp 7) = (.pointer (some ⟨gx, 0, none⟩)) := hfr 7 rfl
          rw [if_pos (wanted_none rfl)]
          exact ob_load _ rfl rfl rfl (Nat.lt_of_lt_of_eq (by decide : 15 < 27) hsz.symm) rfl d7 (load_one hC.2.2.1) (Below.refl _ _) (HXR.out.below (Nat.le_refl _) hC.1)
        · intro ac wc hC hsz hfr hd hpr
          have d15 : IsRow wc (ac.eval (.tmp 15)) r.1 r.2 := hd 1 rfl
          rw [if_pos (wanted_none rfl)]
          refine ob_call rfl rfl rfl (Nat.lt_of_lt_of_eq (by decide : 16 < 27) hsz.symm) rfl (enter_of Tryz.func14 (by kernel_rfl) rfl) ?_
          show Calls Tryz.prog 14 #[ac.eval (.tmp 15)] wc _
          exact make3_any _ r.1 r.2 wc d15 (by have := HLN.out.1; omega) (by have := HLN.out.2; omega)
        · intro ac wc hC hsz hfr hd hpr
          have d16 : IsRow wc (ac.eval (.tmp 16)) r.1 r.2 := hd 2 rfl
          rw [if_pos (wanted_none rfl)]
          have hlt : 17 < ac.tmps.size := (Nat.lt_of_lt_of_eq (by decide : 17 < 27) hsz.symm)
          exact ob_fresh_v HZ.out rfl hlt rfl hC d16
        · intro ac wc hC hsz hfr hd hpr
          have d14 : ac.eval (.tmp 14) = (.slice va j vc) := hd 0 rfl
          have d17 : FreshRow W6 wc (ac.eval (.tmp 17)) r 46 := hd 3 rfl
          rw [if_pos (wanted_none rfl)]
          have hlt : 18 < ac.tmps.size := (Nat.lt_of_lt_of_eq (by decide : 18 < 27) hsz.symm)
          exact ob_appA HZ.out Tryz.underlying27 infoVec hC.1.size HML.out rfl hlt rfl d14 d17 hpr
        · intro ac wc hC hsz hfr hd hpr
          have d5 : ac.eval (.tmp 5) = (.slice da j dc) := hfr 5 rfl
          rw [if_pos (wanted_none rfl)]
          exact ob_copy rfl rfl rfl (Nat.lt_of_lt_of_eq (by decide : 19 < 27) hsz.symm) (Or.inl rfl) (Below.refl _ _) d5
        · intro ac wc hC hsz hfr hd hpr
          have d7 : ac.eval (.tmp 7) = (.pointer (some ⟨gx, 0, none⟩)) := hfr 7 rfl
          rw [if_pos (wanted_none rfl)]
          exact ob_load _ rfl rfl rfl (Nat.lt_of_lt_of_eq (by decide : 20 < 27) hsz.symm) rfl d7 (load_one hC.2.2.1) (Below.refl _ _) (HXR.out.below (Nat.le_refl _) hC.1)
        · intro ac wc hC hsz hfr hd hpr
          have d20 : IsRow wc (ac.eval (.tmp 20)) r.1 r.2 := hd 6 rfl
          rw [if_pos (wanted_none rfl)]
          refine ob_call rfl rfl rfl (Nat.lt_of_lt_of_eq (by decide : 21 < 27) hsz.symm) rfl (enter_of Tryz.func15 (by kernel_rfl) rfl) ?_
          show Calls Tryz.prog 15 #[ac.eval (.tmp 20)] wc _
          exact ref3_any _ r.1 r.2 wc d20
        · intro ac wc hC hsz hfr hd hpr
          have d21 : IsRow wc (ac.eval (.tmp 21)) r.1 r.2 := hd 7 rfl
          rw [if_pos (wanted_none rfl)]
          have hlt : 22 < ac.tmps.size := (Nat.lt_of_lt_of_eq (by decide : 22 < 27) hsz.symm)
          exact ob_fresh_r HZ.out rfl hlt rfl hC d21
        · intro ac wc hC hsz hfr hd hpr
          have d19 : ac.eval (.tmp 19) = (.slice da j dc) := hd 5 rfl
          have d22 : FreshRow W6 wc (ac.eval (.tmp 22)) r 50 := hd 8 rfl
          rw [if_pos (wanted_none rfl)]
          have hlt : 23 < ac.tmps.size := (Nat.lt_of_lt_of_eq (by decide : 23 < 27) hsz.symm)
          exact ob_appB HZ.out Tryz.underlying28 infoRefRow hC.1.size HML.out rfl hlt rfl d19 d22 hpr
        · intro ac wc hC hsz hfr hd hpr
          have d18 : OwnL wc w.heap.size 46 (ac.eval (.tmp 18)) (M ++ [r]) := hd 4 rfl
          rw [if_pos (wanted_none rfl)]
          have hlt : 4 < ac.tmps.size := (Nat.lt_of_lt_of_eq (by decide : 4 < 27) hsz.symm)
          exact ob_copy rfl rfl rfl hlt (Or.inr rfl) (Below.refl _ _) d18
        · intro ac wc hC hsz hfr hd hpr
          have d23 : OwnL wc w.heap.size 50 (ac.eval (.tmp 23)) (M ++ [r]) := hd 9 rfl
          rw [if_pos (wanted_none rfl)]
          have hlt : 5 < ac.tmps.size := (Nat.lt_of_lt_of_eq (by decide : 5 < 27) hsz.symm)
          exact ob_copy rfl rfl rfl hlt (Or.inr rfl) (Below.refl _ _) d23
      intro a' W7 hC hdef hsz hfr hd
      have e14 : a'.eval (.tmp 14) = (.slice va j vc) := hd 0 (by decide)
      obtain ⟨x15, e15, r15⟩ : ∃ xq_, a'.eval (.tmp 15) = xq_ ∧ IsRow W7 (xq_) r.1 r.2 := ⟨_, rfl, hd 1 (by decide)⟩
      replace r15 := Lib.hid r15
      obtain ⟨x16, e16, r16⟩ : ∃ xq_, a'.eval (.tmp 16) = xq_ ∧ IsRow W7 (xq_) r.1 r.2 := ⟨_, rfl, hd 2 (by decide)⟩
      replace r16 := Lib.hid r16
      obtain ⟨x17, e17, r17⟩ : ∃ xq_, a'.eval (.tmp 17) = xq_ ∧ FreshRow W6 W7 (xq_) r 46 := ⟨_, rfl, hd 3 (by decide)⟩
      replace r17 := Lib.hid r17
      obtain ⟨x18, e18, r18⟩ : ∃ xq_, a'.eval (.tmp 18) = xq_ ∧ OwnL W7 w.heap.size 46 (xq_) (M ++ [r]) := ⟨_, rfl, hd 4 (by decide)⟩
      replace r18 := Lib.hid r18
      have e19 : a'.eval (.tmp 19) = (.slice da j dc) := hd 5 (by decide)
      obtain ⟨x20, e20, r20⟩ : ∃ xq_, a'.eval (.tmp 20) = xq_ ∧ IsRow W7 (xq_) r.1 r.2 := ⟨_, rfl, hd 6 (by decide)⟩
      replace r20 := Lib.hid r20
      obtain ⟨x21, e21, r21⟩ : ∃ xq_, a'.eval (.tmp 21) = xq_ ∧ IsRow W7 (xq_) r.1 r.2 := ⟨_, rfl, hd 7 (by decide)⟩
      replace r21 := Lib.hid r21
      obtain ⟨x22, e22, r22⟩ : ∃ xq_, a'.eval (.tmp 22) = xq_ ∧ FreshRow W6 W7 (xq_) r 50 := ⟨_, rfl, hd 8 (by decide)⟩
      replace r22 := Lib.hid r22
      obtain ⟨x23, e23, r23⟩ : ∃ xq_, a'.eval (.tmp 23) = xq_ ∧ OwnL W7 w.heap.size 50 (xq_) (M ++ [r]) := ⟨_, rfl, hd 9 (by decide)⟩
      replace r23 := Lib.hid r23
      obtain ⟨x4, e4, r4⟩ : ∃ xq_, a'.eval (.tmp 4) = xq_ ∧ OwnL W7 w.heap.size 46 (xq_) (M ++ [r]) := ⟨_, rfl, hd 10 (by decide)⟩
      replace r4 := Lib.hid r4
      obtain ⟨x5, e5, r5⟩ : ∃ xq_, a'.eval (.tmp 5) = xq_ ∧ OwnL W7 w.heap.size 50 (xq_) (M ++ [r]) := ⟨_, rfl, hd 11 (by decide)⟩
      replace r5 := Lib.hid r5
      have hact := act_puts hdef hsz hfr
      simp only [dstsOf, List.filterMap, putAll, Act.put, List.setIfInBounds_toArray, List.set_cons_succ, List.set_cons_zero, e14, e15, e16, e17, e18, e19, e20, e21, e22, e23, e4, e5] at hact
      clear hd hfr hsz hdef e14 e15 e16 e17 e18 e19 e20 e21 e22 e23 e4 e5
      subst hact
      have HB7 := Lib.hid hC.1
      rw [← HTK.out] at r4 r5
      clear hC HA HB HZ
      go_wp2_with fail
      go_roundw
      case rel => exact ⟨j + 1, by omega, by go_num, HB7.out, r4.out, r5.out⟩
      case measure => simp [intOf]; omega
    · obtain rfl : j = L.length := by omega
      rw [List.take_length] at HA HB
      go_wp2_with fail
      go_ret2
      exact ⟨_, _, rfl, HA.out, HB.out, B⟩

end Go.Proofs.YtphdadibfeencaaGreat

/-
  What equations say together (layer 9) in the program: do they fit, and 'Judge'.
-/
set_option maxRecDepth 100000
namespace Go.Proofs.YtphdadibfeencaaGreat
open Go.RowKit

/-- A place was found, or none: which, it doesn't say; the look may make memory. -/
def FoundB (t : Bool) (w : World) (e : Ending) (w' : World) : Prop := ∃ r : Int, e = .returned (.int .i64 r) ∧ decide (0 ≤ r) = t ∧ Below w.heap.size w w'
/-- Have all rows these lengths? -/
def fitB (k t : Int) (x : Rw) : Bool := decide ((x.1.length : Int) = k) && decide ((x.2.length : Int) = t)
theorem all_false {p : Rw → Bool} {L : List Rw} {n : Nat} (hn : n < L.length) (h : p (rwAt L n) = false) : L.all p = false := by
  rw [List.all_eq_false]
  exact ⟨_, rwAt_mem hn, by rw [h]; decide⟩
theorem all_true {p : Rw → Bool} {L : List Rw} (h : ∀ j, j < L.length → p (rwAt L j) = true) : L.all p = true := by
  rw [List.all_eq_true]
  intro x hx
  obtain ⟨i, hi, rfl⟩ := List.mem_iff_getElem.1 hx
  have := h i hi
  rwa [rwAt_eq L i hi] at this
theorem hasRow_any (v f : Value) (t : Bool) (w : World) (h : Calls Tryz.prog 32 #[v, f] w (FoundB t w)) :
    Calls Tryz.prog 16 #[v, f] w fun e w' => e = .returned (.bool t) ∧ Below w.heap.size w w' := by
  have H := Lib.hid h
  clear h
  go_enter Tryz.func16, Tryz.ntmps16
  go_wp2_with fail
  refine H.out.mono ?_
  rintro e w' ⟨r, rfl, ht, hb⟩
  have HB := Lib.hid hb
  clear hb
  go_wp2_with fail
  go_ret
  exact ⟨rfl, HB.out⟩

set_option maxHeartbeats 1000000 in
theorem judge1_any (gk gt : Nat) (k t : Int) (u : Value) (p q : List Nat) (w : World) (hk : Blk w gk #[.int .i64 k] 3) (ht : Blk w gt #[.int .i64 t] 3) (hu : IsRow w u p q) :
    Calls Tryz.prog 48 #[u, .pointer (some ⟨gk, 0, none⟩), .pointer (some ⟨gt, 0, none⟩)] w fun e w' => e = .returned (.bool (!fitB k t (p, q))) ∧ Below w.heap.size w w' := by
  obtain ⟨a, c, a', c', rfl⟩ := hu.shape
  have c0 : w.cell? ⟨gk, 0, none⟩ = some (.int .i64 k) := hk.cell 0
  have c1 : w.cell? ⟨gt, 0, none⟩ = some (.int .i64 t) := ht.cell 0
  have l0 := hk.lt
  have l1 := ht.lt
  obtain ⟨m, hm⟩ : ∃ m, m = p.length := ⟨_, rfl⟩
  obtain ⟨n, hn⟩ : ∃ n, n = q.length := ⟨_, rfl⟩
  have HF := Lib.hid (show fitB k t (p, q) = (decide ((m : Int) = k) && decide ((n : Int) = t)) by unfold fitB; rw [hm, hn])
  rw [← hm, ← hn]
  clear hk ht hu hm hn
  by_cases h1 : (m : Int) = k
  · by_cases h2 : (n : Int) = t
    · have b1 : ((m : Int) != k) = false := by rw [h1]; simp
      have b2 : ((n : Int) != t) = false := by rw [h2]; simp
      have HR := Lib.hid (show fitB k t (p, q) = true by rw [HF.out]; simp [h1, h2])
      clear h1 h2
      go_enter Tryz.func48, Tryz.ntmps48
      go_wp2_with fail
      go_ret
      exact ⟨by rw [HR.out]; rfl, (Below.refl _ _).alloc (Nat.le_refl _) _⟩
    · have b1 : ((m : Int) != k) = false := by rw [h1]; simp
      have b2 : ((n : Int) != t) = true := by rw [bne_iff_ne]; exact h2
      have HR := Lib.hid (show fitB k t (p, q) = false by rw [HF.out]; simp [h2])
      clear h1 h2
      go_enter Tryz.func48, Tryz.ntmps48
      go_wp2_with fail
      go_ret
      exact ⟨by rw [HR.out]; rfl, (Below.refl _ _).alloc (Nat.le_refl _) _⟩
  · have b1 : ((m : Int) != k) = true := by rw [bne_iff_ne]; exact h1
    have HR := Lib.hid (show fitB k t (p, q) = false by rw [HF.out]; simp [h1])
    clear h1
    go_enter Tryz.func48, Tryz.ntmps48
    go_wp2_with fail
    go_ret
    exact ⟨by rw [HR.out]; rfl, (Below.refl _ _).alloc (Nat.le_refl _) _⟩

set_option maxHeartbeats 1000000 in
theorem idxJudge_any (gk gt : Nat) (k t : Int) (v : Value) (L : List Rw) (w : World) (hk : Blk w gk #[.int .i64 k] 3) (ht : Blk w gt #[.int .i64 t] 3) (hL : IsRL w v L) (hlen : L.length ≤ 1000000000) :
    Calls Tryz.prog 32 #[v, .func (Fn.func 48) #[] #[.pointer (some ⟨gk, 0, none⟩), .pointer (some ⟨gt, 0, none⟩)]] w (FoundB (!L.all (fitB k t)) w) := by
  have HL0 := Lib.hid hL
  have KK := Lib.hid hk
  have KT := Lib.hid ht
  clear hk ht
  obtain ⟨a, c, rfl⟩ := hL.shape
  clear hL
  go_enter Tryz.func32, Tryz.ntmps32
  go_wp2_with fail
  go_loopw [5, 8] (fun _ x wr => ∃ j : Nat, j ≤ L.length ∧ x = .int .i64 j ∧ Below w.heap.size w wr ∧ ∀ i, i < j → (fitB k t) (rwAt L i) = true) (fun _ x _ => L.length - (intOf x).toNat)
  case atStart => exact ⟨0, by omega, rfl, Below.refl _ _, fun i hi => by omega⟩
  case round =>
    obtain ⟨j, hj, rfl, B, hno⟩ := hrel
    have HN := Lib.hid hno
    clear hno
    by_cases hjl : j < L.length
    · obtain ⟨b, off, c', er, hbl⟩ := HL0.out.addr (by omega)
      simp only [Value.slice.injEq] at er
      obtain ⟨rfl, -, rfl⟩ := er
      obtain ⟨x0, y0, hx0, hy0, hxb, hyb⟩ := (HL0.out.go B).cells j hjl
      obtain ⟨r, hr⟩ : ∃ r, r = rwAt L j := ⟨_, rfl⟩
      rw [← hr] at hxb hyb
      have HRR := Lib.hid hr
      have HXR := Lib.hid (show IsRow wr (.agg #[x0, y0]) r.1 r.2 from ⟨_, _, rfl, hxb, hyb⟩)
      obtain ⟨xa, xc, rfl, _⟩ := hxb
      obtain ⟨ya, yc, rfl, _⟩ := hyb
      have j1 : (j : Int) < (L.length : Int) := by omega
      have j0 : (0 : Int) ≤ (j : Int) := Int.natCast_nonneg _
      clear hr hbl
      go_wp2_with fail
      have KK2 := KK.out.go B
      have KT2 := KT.out.go B
      refine (judge1_any gk gt k t _ r.1 r.2 wr KK2 KT2 HXR.out).mono ?_
      rintro e w2 ⟨rfl, hb2⟩
      replace B := B.trans (hb2.mono B.size)
      clear hb2 hx0 hy0 HXR
      cases hp : (fitB k t) (r.1, r.2) with
      | true =>
        have HP := Lib.hid (show (fitB k t) (rwAt L j) = true by rw [← HRR.out]; exact hp)
        clear hp
        simp only [Bool.not_true]
        go_wp2_with fail
        go_roundw
        case rel => exact ⟨j + 1, by omega, by go_num, B, fun i hi => by
          by_cases h : i = j
          · rw [h]; exact HP.out
          · exact HN.out i (by omega)⟩
        case measure => simp [intOf]; omega
      | false =>
        have HP := Lib.hid (all_false (p := fitB k t) hjl (by rw [← HRR.out]; exact hp))
        clear hp
        simp only [Bool.not_false]
        go_wp2_with fail
        go_ret
        exact ⟨j, rfl, by rw [HP.out]; simp, B⟩
    · have HF := Lib.hid (all_true (p := fitB k t) (L := L) fun i hi => HN.out i (by omega))
      go_wp2_with fail
      go_ret
      exact ⟨-1, rfl, by rw [HF.out]; decide, B⟩

end Go.Proofs.YtphdadibfeencaaGreat
