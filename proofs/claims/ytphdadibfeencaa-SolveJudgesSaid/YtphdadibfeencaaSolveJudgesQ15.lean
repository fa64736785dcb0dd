/- Texts of one seat, laid together: SolveMath, ElimN, ElimQ, MonoT, LawThree, LawThreeB, LawEight. -/
import Derived.Test.YtphdadibfeencaaSolveJudgesQ10
import Derived.Test.YtphdadibfeencaaSolveJudgesQ14
import Derived.Test.YtphdadibfeencaaSolveJudgesQ11
import Derived.Test.YtphdadibfeencaaSolveJudgesQ13
import Derived.Test.YtphdadibfeencaaSolveJudgesQ7
import Derived.Test.YtphdadibfeencaaSolveJudgesQ8
import Derived.Test.YtphdadibfeencaaSolveJudgesQ3
import Derived.Test.YtphdadibfeencaaSolveJudgesQ6
import Derived.Test.YtphdadibfeencaaSolveJudgesQ4
import Derived.Test.YtphdadibfeencaaSolveJudgesQ2
import Derived.Lib.SmallJoins
import Derived.Test.YtphdadibfeencaaSolveJudgesQ9
import Derived.Deep.SlicePairs

/-
  What equations say together (layer 9): what the program finds by putting them into a system is what the ranks say. No program in this text.
-/
set_option maxRecDepth 100000
namespace Go.Proofs.Ytphdadibfeencaa
open Go.RowKit
open La

theorem dims_oct1 {k t : Nat} {L : List Rw} (hD : Ro.Dims k t L) : (∀ r ∈ vecsL L, Oct r) ∧ ∀ r ∈ vecsL L, r.length = k := by
  refine ⟨fun r hr => ?_, fun r hr => ?_⟩
  · obtain ⟨x, hx, rfl⟩ := List.mem_map.1 hr; exact (hD x hx).2.2.1
  · obtain ⟨x, hx, rfl⟩ := List.mem_map.1 hr; exact (hD x hx).1
theorem dims_octJ {k t : Nat} {L : List Rw} (hD : Ro.Dims k t L) : (∀ r ∈ wideL L, Oct r) ∧ ∀ r ∈ wideL L, r.length = k + t := by
  refine ⟨fun r hr => ?_, fun r hr => ?_⟩
  · obtain ⟨x, hx, rfl⟩ := List.mem_map.1 hr; exact (hD x hx).oct
  · obtain ⟨x, hx, rfl⟩ := List.mem_map.1 hr; exact (hD x hx).len
theorem rkV_eq {k t : Nat} {L : List Rw} (hD : Ro.Dims k t L) : rkV L = rk k (Sp (L.map f1)) := by
  unfold rkV
  rw [refrank_eq (dims_oct1 hD).1 (dims_oct1 hD).2]
  unfold rankL vecsL
  rw [List.map_map]; rfl
theorem rkW_eq {k t : Nat} {L : List Rw} (hD : Ro.Dims k t L) : rkW L = rk (k + t) (Sp (L.map fj)) := by
  unfold rkW
  rw [refrank_eq (dims_octJ hD).1 (dims_octJ hD).2]
  unfold rankL wideL
  rw [List.map_map]; rfl
theorem red_rankJ {k t : Nat} {E : List Rw} (h : RedR k t E) : rk (k + t) (Sp (E.map fj)) = E.length := by
  rw [rk_ech (up_ech h.up) fun e he => by
    obtain ⟨r, hr, rfl⟩ := List.mem_map.1 he
    exact (h.up.dims r hr).short, List.length_map]
/-- A row of noughts with data isn't of the span of rows that lead. -/
theorem not_span {k t : Nat} {E : List Rw} (h : RedR k t E) {y : Rw} (hy : Ro.Dim k t y) (hz : zeroB y.1 = true) (hd : zeroB y.2 = false) : ¬ Sp (E.map fj) (fj y) := by
  intro hs
  have h0 : ∀ i, i < k → fj y i = 0 := fun i hi => by
    rw [fj_left hy hi]
    exact congrFun ((fv_zero hy.2.2.1).2 hz) i
  have := (up_ech h.up).zero hs fun e he i hl => by
    obtain ⟨r, hr, rfl⟩ := List.mem_map.1 he
    have hi := hl.unique (fj_lead (h.up.dims r hr) (h.up.leads r hr))
    exact h0 i (by rw [hi]; exact lead_lt_k h hr)
  have h2 : zeroB y.2 = true := (fv_zero hy.2.2.2).1 (funext fun j => by
    by_cases hj : j < t
    · rw [← fj_right hy, this]; rfl
    · exact fv_short' hy.2.1 j (by omega))
  rw [hd] at h2; cases h2
/-- What is known while nothing has clashed: the system's rows span all that came, data too. -/
structure Fits (k t : Nat) (E L : List Rw) : Prop where
  red : RedR k t E
  sp1 : ∀ v, Sp (E.map f1) v ↔ Sp (L.map f1) v
  spj : ∀ v, Sp (E.map fj) v ↔ Sp (L.map fj) v
theorem Fits.nil (k t : Nat) : Fits k t [] [] := ⟨RedR.nil k t, fun _ => Iff.rfl, fun _ => Iff.rfl⟩
theorem putC_two {E : List Rw} {x : Rw} : putC E x = 2 ↔ zeroB (Ro.rest E x).1 = true ∧ zeroB (Ro.rest E x).2 = false := by
  unfold putC
  cases zeroB (Ro.rest E x).1 <;> cases zeroB (Ro.rest E x).2 <;> simp
theorem Fits.put {k t : Nat} {E L : List Rw} (h : Fits k t E L) {x : Rw} (hx : Ro.Dim k t x) (hc : putC E x ≠ 2) : Fits k t (Ro.take1 E x) (L ++ [x]) := by
  have h0 : zeroB (Ro.rest E x).1 = true → zeroB (Ro.rest E x).2 = true := fun e => by
    cases h2 : zeroB (Ro.rest E x).2 with
    | true => rfl
    | false => exact absurd (putC_two.2 ⟨e, h2⟩) hc
  refine ⟨take1_red h.red hx, fun v => ?_, fun v => ?_⟩
  · rw [take1_span1 h.red hx, sp_snoc]; exact sp_cons_congr h.sp1
  · rw [take1_span h.red hx h0, sp_snoc]; exact sp_cons_congr h.spj
theorem Fits.ranks {k t : Nat} {E L : List Rw} (h : Fits k t E L) (hD : Ro.Dims k t L) : rkV L = E.length ∧ rkW L = E.length := by
  rw [rkV_eq hD, rkW_eq hD, ← rk_congr h.sp1, ← rk_congr h.spj, up_rank h.red.up, red_rankJ h.red]
  exact ⟨rfl, rfl⟩
theorem dims_snoc {k t : Nat} {L : List Rw} (hD : Ro.Dims k t L) {x : Rw} (hx : Ro.Dim k t x) : Ro.Dims k t (L ++ [x]) := fun r hr => by
  rcases List.mem_append.1 hr with h1 | h1
  · exact hD r h1
  · rw [List.mem_singleton.1 h1]; exact hx
/-- A clash: data's rank grows alone. -/
theorem Fits.clash {k t : Nat} {E L : List Rw} (h : Fits k t E L) (hD : Ro.Dims k t L) {x : Rw} (hx : Ro.Dim k t x) (hc : putC E x = 2) : rkV (L ++ [x]) = E.length ∧ rkW (L ++ [x]) = E.length + 1 := by
  obtain ⟨hz, hd⟩ := putC_two.1 hc
  have hr := Ro.rest_dim h.red.up.dims hx
  obtain ⟨s1, s2⟩ := rest_span h.red.up.dims hx
  have hn := not_span h.red hr hz hd
  have hx1 : Sp (E.map f1) (f1 x) := by
    have e : f1 (Ro.rest E x) = v0 := (fv_zero hr.2.2.1).2 hz
    rw [e] at s2
    have : va (f1 x) v0 = f1 x := funext fun i => by show f1 x i + 0 = f1 x i; rw [badd_zero]
    rwa [this] at s2
  have hxj : ¬ Sp (E.map fj) (fj x) := fun hs => hn (by
    have h2 := s1.add hs
    have e : va (va (fj x) (fj (Ro.rest E x))) (fj x) = fj (Ro.rest E x) := by rw [va_comm, va_cancel]
    rwa [e] at h2)
  have hDx := dims_snoc hD hx
  have hsE : ∀ v ∈ E.map fj, Short (k + t) v := fun v hv => by
    obtain ⟨r, hr, rfl⟩ := List.mem_map.1 hv
    exact (h.red.up.dims r hr).short
  constructor
  · rw [rkV_eq hDx, rk_congr (fun v => sp_snoc (f := f1)), rk_congr (fun v => (sp_cons_congr h.sp1).symm), rk_in hx1, up_rank h.red.up]
  · rw [rkW_eq hDx, rk_congr (fun v => sp_snoc (f := fj)), rk_congr (fun v => (sp_cons_congr h.spj).symm), rk_out hsE hx.short hxj, red_rankJ h.red]

/-- The program's clash behind so many. -/
def firstC (L : List Rw) : Nat → Int
  | 0 => -1
  | n + 1 => if putC (Ro.redOf (L.take n)) (rwAt L n) = 2 ∧ firstC L n < 0 then (n : Int) else firstC L n
theorem first_inv {k t : Nat} {L : List Rw} (hD : Ro.Dims k t L) : ∀ n, n ≤ L.length →
    (firstC L n = -1 ∧ Fits k t (Ro.redOf (L.take n)) (L.take n) ∧ ∀ j, j < n → partsAt L j = false) ∨ (∃ m : Nat, m < n ∧ firstC L n = (m : Int) ∧ (∀ j, j < m → partsAt L j = false) ∧ partsAt L m = true)
  | 0, _ => .inl ⟨rfl, Fits.nil k t, fun j hj => by omega⟩
  | n + 1, hn => by
    have hx := hD.at (show n < L.length by omega)
    have hT := take_rwAt L n (by omega)
    rcases first_inv hD n (by omega) with ⟨h1, h2, h3⟩ | ⟨m, hm, h1, h2, h3⟩
    · by_cases hc : putC (Ro.redOf (L.take n)) (rwAt L n) = 2
      · refine .inr ⟨n, Nat.lt_succ_self n, ?_, h3, ?_⟩
        · show (if _ then _ else _) = _
          rw [if_pos ⟨hc, by rw [h1]; decide⟩]
        · obtain ⟨e1, e2⟩ := h2.clash (hD.take n) hx hc
          unfold partsAt
          rw [hT, e1, e2]
          simp
      · have hF := h2.put hx hc
        refine .inl ⟨?_, by rw [Ro.redOf_take L n (by omega), hT]; exact hF, fun j hj => ?_⟩
        · show (if _ then _ else _) = _
          rw [if_neg fun e => hc e.1]; exact h1
        · by_cases e : j = n
          · subst e
            obtain ⟨e1, e2⟩ := hF.ranks (dims_snoc (hD.take j) hx)
            unfold partsAt
            rw [hT, e1, e2]
            simp
          · exact h3 j (by omega)
    · refine .inr ⟨m, by omega, ?_, h2, h3⟩
      show (if _ then _ else _) = _
      rw [if_neg fun e => by have := e.2; rw [h1] at this; omega]; exact h1
/-- The program's verdict is the document's. -/
theorem judge_eq {k t : Nat} {L : List Rw} (hD : Ro.Dims k t L) : firstC L L.length = clashI L ∧ (Ro.redOf L).length = rkV L := by
  constructor
  · rcases first_inv hD L.length (Nat.le_refl _) with ⟨h1, _, h3⟩ | ⟨m, hm, h1, h2, h3⟩
    · rw [h1, clash_none h3]
    · rw [h1, clash_some hm h2 h3]
  · have h := redOf_red hD L.length (Nat.le_refl _)
    rw [List.take_length] at h
    rw [rkV_eq hD, ← rk_congr h.2, up_rank h.1.up]
theorem first_succ (L : List Rw) (n : Nat) : firstC L (n + 1) = if putC (Ro.redOf (L.take n)) (rwAt L n) = 2 ∧ firstC L n < 0 then (n : Int) else firstC L n := rfl
theorem first_ge (L : List Rw) : ∀ n : Nat, -1 ≤ firstC L n ∧ firstC L n ≤ (n : Int)
  | 0 => by show (-1 : Int) ≤ -1 ∧ (-1 : Int) ≤ ((0 : Nat) : Int); omega
  | n + 1 => by
    have h := first_ge L n
    rw [first_succ]
    by_cases hc : putC (Ro.redOf (L.take n)) (rwAt L n) = 2 ∧ firstC L n < 0
    · rw [if_pos hc]; omega
    · rw [if_neg hc]; omega

end Go.Proofs.Ytphdadibfeencaa

/-
  Systems of equations in the program (layer 8): what stays while a system takes an equation.
-/
set_option maxRecDepth 100000
namespace Go.Proofs.Ytphdadibfeencaa
open Go.RowKit

theorem IsE.mono {w : World} {B C g k t : Nat} {v : Value} {E : List Rw} (h : IsE w B g v k t E) (hC : C ≤ B) : IsE w C g v k t E := ⟨h.1, h.2.1.mono hC, Nat.le_trans hC h.2.2⟩
/-- A box of something else. -/
theorem IsE.keeps {w w' : World} {B g b k t : Nat} {v : Value} {E : List Rw} {us : Array Value} {T : TypeId} (h : IsE w B g v k t E) (hp : Past w w' g v) (hk : Blk w b us T) (h1 : 88 ≠ T) (h2 : 102 ≠ T) : Blk w' b us T := by
  have := hp.block b hk.lt (fun e => h.1.ne hk h1 e.symm) (fun e => h.2.1.ne_box hk h2 e.symm)
  unfold Blk at hk ⊢
  rw [this]; exact hk
end Go.Proofs.Ytphdadibfeencaa

/-
  Lists of unlike elements lie apart: what stays while one of them grows, or a system takes an equation.
-/
set_option maxRecDepth 100000
namespace Go.Proofs.Ytphdadibfeencaa
open Go.RowKit

/-- The value's own block, if it has one, is of such elements. -/
def Typed (w : World) (v : Value) (T : TypeId) : Prop := ∀ b, v.ownBlock = some b → ∃ cur fr, w.heap[b]? = some (.cells cur T fr)
theorem OwnN.typed {w : World} {B sz n : Nat} {T : TypeId} {v : Value} {xs : List Value} (h : OwnN w B T sz v n xs) : Typed w v T := by
  intro b e
  rcases h.1.2 with ⟨rfl, _⟩ | ⟨g, cap, cur, rfl, _, hgg, _⟩
  · cases e
  · simp only [Value.ownBlock, Option.some.injEq] at e
    subst e
    exact ⟨_, _, hgg⟩
theorem OwnL.typed {w : World} {B : Nat} {T : TypeId} {v : Value} {L : List Rw} (h : OwnL w B T v L) : Typed w v T := by obtain ⟨us, h1, _⟩ := h; exact h1.typed
theorem Typed.apart {w : World} {v u : Value} {T T' : TypeId} (h : Typed w v T) (k : Typed w u T') (hT : T ≠ T') : ∀ b, v.ownBlock = some b → u.ownBlock ≠ some b := by
  intro b e e'
  obtain ⟨c, f, h1⟩ := h b e
  obtain ⟨c', f', h2⟩ := k b e'
  rw [h1] at h2
  simp only [Option.some.injEq, Obj.cells.injEq] at h2
  exact hT h2.2.1
theorem Typed.box {w : World} {v : Value} {g : Nat} {vs : Array Value} {T T' : TypeId} (h : Typed w v T) (k : Blk w g vs T') (hT : T ≠ T') : v.ownBlock ≠ some g := by
  intro e
  obtain ⟨c, f, h1⟩ := h g e
  unfold Blk at k
  rw [h1] at k
  simp only [Option.some.injEq, Obj.cells.injEq] at k
  exact hT k.2.1
theorem none_or {v : Value} {row : Option Nat} (h : ∀ b, v.ownBlock = some b → row ≠ some b) : v.ownBlock = none ∨ v.ownBlock ≠ row := by
  cases e : v.ownBlock with
  | none => exact .inl rfl
  | some b => exact .inr fun e' => h b e e'.symm
theorem OwnL.keepO {w w' : World} {B : Nat} {T : TypeId} {v : Value} {L : List Rw} {row : Option Nat} (h : OwnL w B T v L) (hg : w.grownBy w' row) (hs : Soft w w') (hne : ∀ b, v.ownBlock = some b → row ≠ some b) : OwnL w' B T v L := by
  obtain ⟨us, h1, h2⟩ := h
  exact ⟨us, h1.keep hg (none_or hne), h2.soft hs⟩
end Go.Proofs.Ytphdadibfeencaa

/-
  A region in any order that appends to two lists whose elements are unlike, loads from a box, and else only makes memory.
-/
set_option maxRecDepth 100000
namespace Go.Proofs.Ytphdadibfeencaa
open Go.RowKit

theorem Typed.go {w w' : World} {v : Value} {T : TypeId} (h : Typed w v T) (hb : Below w.heap.size w w') : Typed w' v T := by
  intro b e
  obtain ⟨c, f, h1⟩ := h b e
  exact ⟨c, f, (hb.block b (Array.getElem?_eq_some_iff.1 h1).1).trans h1⟩
theorem Typed.grown {w w' : World} {v : Value} {T : TypeId} {row : Option Nat} (h : Typed w v T) (hg : w.grownBy w' row) (hne : ∀ b, v.ownBlock = some b → row ≠ some b) : Typed w' v T := by
  intro b e
  obtain ⟨c, f, h1⟩ := h b e
  exact ⟨c, f, (hg.block b (Array.getElem?_eq_some_iff.1 h1).1 (fun e' => hne b e e'.symm)).trans h1⟩

/-- 'append', and the elder block keeps its elements' type. -/
theorem run_append_typed {P : Program} (w : World) (B : Nat) (t ty e : TypeId) (i : TypeInfo) (z : Value) (size bytes : Nat) (ht : P.underlying t = some (.slice e)) (hi : P.info? e = some i) (hz : i.zero = some z)
    (hsize : i.size = size) (hby : i.bytes = bytes) (hzs : z.cells.size = size) (hsz : 0 < size)
    (v : Value) (n : Nat) (xs : List Value) (hown : OwnN w B e size v n xs)
    (a : Addr) (m c : Nat) (news : List Value) (hl : news.length = m * size) (hnews : ∀ j u, news[j]? = some u → w.cell? (a.add j) = some u) (h1 : ∀ u ∈ news, u.oneCell' = true)
    (hzn : ∀ u ∈ z.cells.toList, ∀ k : Nat, u ≠ U8 k) (hnn : ∀ u ∈ news, ∀ k : Nat, u ≠ U8 k)
    (h63 : n + m ≤ maxLen) (hbytes : (n + m) * bytes ≤ 140737488355328) (hbase : B ≤ w.heap.size) :
    ∃ v' w', (Builtin.append_ #[t, t] ty #[v, .slice (some a) m c]).run P w = .ok v' w' ∧ OwnN w' B e size v' (n + m) (xs ++ news) ∧ w.grownBy w' v.ownBlock ∧ Soft w w' ∧ Typed w' v e := by
  obtain ⟨v', w', hr, ho, hg, hs⟩ := run_append_soft (P := P) w B t ty e i z size bytes ht hi hz hsize hby hzs hsz v n xs hown a m c news hl hnews h1 hzn hnn h63 hbytes hbase
  refine ⟨v', w', hr, ho, hg, hs, ?_⟩
  intro g e2
  by_cases hv : v'.ownBlock = some g
  · exact ho.typed g hv
  · obtain ⟨c0, f0, h0⟩ := hown.typed g e2
    refine ⟨c0, f0, Eq.trans ?_ h0⟩
    subst hsize
    subst hby
    rcases hown.1.2 with ⟨rfl, rfl⟩ | ⟨g0, cap, cur, rfl, hbg, hg0, hnc, hcm, hcs, htake⟩
    · cases e2
    · simp only [Value.ownBlock, Option.some.injEq] at e2
      subst e2
      by_cases hroom : n + m ≤ cap
      · have hfit : n * i.size + news.length ≤ cur.size := by rw [hl, hcs, ← Nat.add_mul]; exact Nat.mul_le_mul_right _ hroom
        have hr2 := run_append_room (P := P) w t ty e i ht hi g0 n cap cur hg0 a m c news hl hnews h1 hroom hfit
        rw [hr2] at hr
        simp only [Result.ok.injEq] at hr
        exact absurd (by rw [← hr.1]; rfl) hv
      · have holds : ∀ j u, xs[j]? = some u → w.cell? ((⟨g0, 0, none⟩ : Addr).add j) = some u := World.ownsRow.cells hown.1 (g := g0) rfl
        have hr2 := run_append_grow (P := P) w t ty e i z ht hi hz ⟨g0, 0, none⟩ n cap xs hown.1.1 holds a m c news hl hnews (by omega) (by simp only [maxLen] at h63; omega) (growslice_fits (by omega) hbytes)
        rw [hr2] at hr
        simp only [Result.ok.injEq] at hr
        rw [← hr.2]
        exact Below.heap_alloc w.drew _ _ (Array.getElem?_eq_some_iff.1 hg0).1

/-- A row of two slices, appended out of a block of its own. -/
theorem run_append_row1 {P : Program} {w : World} {B g c : Nat} {t ty T : TypeId} {v x y : Value} {L : List Rw} {r : Rw} {i : TypeInfo} (ht : P.underlying t = some (.slice T)) (hi : P.info? T = some i)
    (hz : i.zero = some (.agg #[.slice none 0 0, .slice none 0 0])) (hs : i.size = 2) (hb : i.bytes = 48) (hown : OwnL w B T v L) (hk : Blk w g #[x, y] T) (hx : Bytes w x r.1) (hy : Bytes w y r.2) (hB : B ≤ w.heap.size) (hn : L.length ≤ 1000000000) :
    ∃ v' w', (Builtin.append_ #[t, t] ty #[v, .slice (some ⟨g, 0, none⟩) 1 c]).run P w = .ok v' w' ∧ OwnL w' B T v' (L ++ [r]) ∧ w.grownBy w' v.ownBlock ∧ Soft w w' ∧ Typed w' v T := by
  obtain ⟨us, h1, h2⟩ := hown
  have hE : Each w [(x, y)] [r] := (Each.nil w).cons hx hy
  obtain ⟨v', w', k0, k1, k2, k3, k4⟩ := run_append_typed (P := P) w B t ty T i _ 2 48 ht hi hz hs hb rfl (by decide) v L.length (pairs us) h1 ⟨g, 0, none⟩ 1 c (pairs [(x, y)]) (by rw [pairs_length]; rfl)
    (fun j u hj => by
      have hlt := (List.getElem?_eq_some_iff.1 hj).1
      simp [pairs] at hlt
      rw [row_add]
      have : j = 0 ∨ j = 1 := by omega
      rcases this with rfl | rfl
      · simp [pairs] at hj; subst hj; exact hk.cell 0
      · simp [pairs] at hj; subst hj; exact hk.cell 1)
    (fun u hu => (hE.noU8 u hu).2) (fun u hu => by simp [Value.cells] at hu; subst hu; exact slice_ne _ _ _) (fun u hu => (hE.noU8 u hu).1) (by unfold maxLen; omega) (by omega) hB
  refine ⟨v', w', k0, ⟨us ++ [(x, y)], ?_, (h2.append hE).soft k3⟩, k2, k3, k4⟩
  rw [List.length_append, pairs_append]; exact k1

/-- What is said of a list of such elements, and what stays of it. -/
structure Lst (T : TypeId) (F : World → Value → Prop) : Prop where
  typed : ∀ {w v}, F w v → Typed w v T
  keep : ∀ {w w' : World} {v row}, F w v → w.grownBy w' row → Soft w w' → (∀ b, v.ownBlock = some b → row ≠ some b) → F w' v
  go : ∀ {w w' : World} {v}, F w v → Below w.heap.size w w' → F w' v
theorem lstL (B : Nat) (T : TypeId) (L : List Rw) : Lst T fun w v => OwnL w B T v L := ⟨fun h => h.typed, fun h => h.keepO, fun h => h.go⟩
/-- What is fixed: both lists, ahead, and a box that is read. -/
structure Two where
  w : World
  W : World
  v1 : Value
  T1 : TypeId
  v2 : Value
  T2 : TypeId
  gK : Nat
  vK : Array Value
  TK : TypeId
def Two.C (z : Two) : World → Prop := fun a => Below z.w.heap.size z.w a ∧ z.W.heap.size ≤ a.heap.size ∧ Blk a z.gK z.vK z.TK ∧ Typed a z.v1 z.T1 ∧ Typed a z.v2 z.T2
/-- The steps that write: 0 appends to the first list, any other one to the second. -/
def Two.H (z : Two) : Nat → World → World → Prop := fun c a b => if c = 0 then a.grownBy b z.v1.ownBlock ∧ Soft a b ∧ Typed b z.v1 z.T1 else a.grownBy b z.v2.ownBlock ∧ Soft a b ∧ Typed b z.v2 z.T2
structure Two.Fit (z : Two) : Prop where
  own1 : ∀ g, z.v1.ownBlock = some g → z.w.heap.size ≤ g ∧ g < z.W.heap.size
  own2 : ∀ g, z.v2.ownBlock = some g → z.w.heap.size ≤ g ∧ g < z.W.heap.size
  ne : z.T1 ≠ z.T2
  k1 : z.T1 ≠ z.TK
  k2 : z.T2 ≠ z.TK
def onlyT (n : Nat) : Nat → Bool := fun c => decide ((c = 0) = (n = 0))
theorem onlyT0 {c : Nat} (h : onlyT 0 c = true) : c = 0 := by simpa [onlyT] using h
theorem onlyT1 {c : Nat} (h : onlyT 1 c = true) : c ≠ 0 := by simpa [onlyT] using h
/-- A new block of one row. -/
def FreshRow (W a : World) (v : Value) (r : Rw) (T : TypeId) : Prop := ∃ g x y, v = .slice (some ⟨g, 0, none⟩) 1 1 ∧ W.heap.size ≤ g ∧ Blk a g #[x, y] T ∧ Bytes a x r.1 ∧ Bytes a y r.2
section
variable {z : Two}
theorem Two.hC (z : Two) : ∀ a b, z.C a → Rb a b → z.C b := fun _ _ ⟨h1, h2, h3, h4, h5⟩ hR => ⟨h1.trans (hR.mono h1.size), Nat.le_trans h2 hR.size, h3.go hR, h4.go hR, h5.go hR⟩
theorem Two.hCH (hz : z.Fit) : ∀ c a b, z.C a → z.H c a b → z.C b := by
  intro c a b ⟨h1, h2, h3, h4, h5⟩ hH
  unfold Two.H at hH
  split at hH
  · obtain ⟨g1, g2, g3⟩ := hH
    exact ⟨h1.grown g1 h1.size (fun g e => (hz.own1 g e).1), Nat.le_trans h2 g1.size, h3.grown g1 (fun e => h4.box h3 hz.k1 e.symm), g3, h5.grown g1 (h5.apart h4 hz.ne.symm)⟩
  · obtain ⟨g1, g2, g3⟩ := hH
    exact ⟨h1.grown g1 h1.size (fun g e => (hz.own2 g e).1), Nat.le_trans h2 g1.size, h3.grown g1 (fun e => h5.box h3 hz.k2 e.symm), h4.grown g1 (h4.apart h5 hz.ne), g3⟩
theorem Two.soft {c : Nat} {a b : World} (h : z.H c a b) : Soft a b := by
  unfold Two.H at h
  split at h <;> exact h.2.1
theorem Two.fresh (hz : z.Fit) {c : Nat} {a b : World} {v : Value} {r : Rw} {T : TypeId} (h : FreshRow z.W a v r T) (hH : z.H c a b) : FreshRow z.W b v r T := by
  have hs := Two.soft hH
  obtain ⟨g, x, y, rfl, hg, hk, hx, hy⟩ := h
  refine ⟨g, x, y, rfl, hg, ?_, hx.soft hs, hy.soft hs⟩
  unfold Two.H at hH
  split at hH
  · exact hk.grown hH.1 fun e => by have := (hz.own1 g e.symm).2; omega
  · exact hk.grown hH.1 fun e => by have := (hz.own2 g e.symm).2; omega
theorem FreshRow.go {W a b : World} {v : Value} {r : Rw} {T : TypeId} (h : FreshRow W a v r T) (hb : Below a.heap.size a b) : FreshRow W b v r T := by
  obtain ⟨g, x, y, rfl, hg, hk, hx, hy⟩ := h
  exact ⟨g, x, y, rfl, hg, hk.go hb, hx.go hb, hy.go hb⟩
theorem Two.a_keep {c : Nat} {a b : World} {v : Value} {F : World → Value → Prop} (hF : Lst z.T1 F) (hz : z.Fit) (hc : c ≠ 0) (hC : z.C a) (hH : z.H c a b) (h : F a v) : F b v := by
  unfold Two.H at hH
  rw [if_neg hc] at hH
  exact hF.keep h hH.1 hH.2.1 ((hF.typed h).apart hC.2.2.2.2 hz.ne)
theorem Two.b_keep {c : Nat} {a b : World} {v : Value} {F : World → Value → Prop} (hF : Lst z.T2 F) (hz : z.Fit) (hc : c = 0) (hC : z.C a) (hH : z.H c a b) (h : F a v) : F b v := by
  unfold Two.H at hH
  rw [if_pos hc] at hH
  exact hF.keep h hH.1 hH.2.1 ((hF.typed h).apart hC.2.2.2.1 hz.ne.symm)

def TyT.val (t : Tmp) (v : Value) : Ty z.C Rb z.H := Ty.val t v
def TyT.row (t : Tmp) (p q : List Nat) : Ty z.C Rb z.H := Ty.one t (fun v a => IsRow a v p q) (fun _ _ _ _ hR h => h.go hR) (fun _ _ _ _ _ hH h => h.soft (Two.soft hH))
def TyT.fresh (hz : z.Fit) (t : Tmp) (r : Rw) (T : TypeId) : Ty z.C Rb z.H := Ty.one t (fun v a => FreshRow z.W a v r T) (fun _ _ _ _ hR h => h.go hR) (fun _ _ _ _ _ hH h => Two.fresh hz h hH)
/-- The append to the first list. -/
def TyT.appA (hz : z.Fit) (t : Tmp) {F F' : World → Value → Prop} (hF : Lst z.T1 F) (hF' : Lst z.T1 F') : Ty z.C Rb z.H :=
  ⟨[t], fun vs a => F' a (vs.headD undef), some 0, onlyT 1, fun _ _ _ _ hR h => hF'.go h hR, fun _ hc _ _ _ hC hH h => Two.a_keep hF' hz (onlyT1 hc) hC hH h,
    fun a => F a z.v1, onlyT 1, fun _ _ _ hR h => hF.go h hR, fun _ hc _ _ hC hH h => Two.a_keep hF hz (onlyT1 hc) hC hH h⟩
def TyT.appB (hz : z.Fit) (t : Tmp) {F F' : World → Value → Prop} (hF : Lst z.T2 F) (hF' : Lst z.T2 F') : Ty z.C Rb z.H :=
  ⟨[t], fun vs a => F' a (vs.headD undef), some 1, onlyT 0, fun _ _ _ _ hR h => hF'.go h hR, fun _ hc _ _ _ hC hH h => Two.b_keep hF' hz (onlyT0 hc) hC hH h,
    fun a => F a z.v2, onlyT 0, fun _ _ _ hR h => hF.go h hR, fun _ hc _ _ hC hH h => Two.b_keep hF hz (onlyT0 hc) hC hH h⟩
def TyT.isA (hz : z.Fit) (t : Tmp) {F : World → Value → Prop} (hF : Lst z.T1 F) : Ty z.C Rb z.H :=
  ⟨[t], fun vs a => F a (vs.headD undef), none, onlyT 1, fun _ _ _ _ hR h => hF.go h hR, fun _ hc _ _ _ hC hH h => Two.a_keep hF hz (onlyT1 hc) hC hH h,
    fun _ => True, fun _ => true, fun _ _ _ _ _ => trivial, fun _ _ _ _ _ _ _ => trivial⟩
def TyT.isB (hz : z.Fit) (t : Tmp) {F : World → Value → Prop} (hF : Lst z.T2 F) : Ty z.C Rb z.H :=
  ⟨[t], fun vs a => F a (vs.headD undef), none, onlyT 0, fun _ _ _ _ hR h => hF.go h hR, fun _ hc _ _ _ hC hH h => Two.b_keep hF hz (onlyT0 hc) hC hH h,
    fun _ => True, fun _ => true, fun _ _ _ _ _ => trivial, fun _ _ _ _ _ _ _ => trivial⟩
theorem Two.drew (hB : Below z.w.heap.size z.w z.W) (hK : Blk z.W z.gK z.vK z.TK) (h1 : Typed z.W z.v1 z.T1) (h2 : Typed z.W z.v2 z.T2) : z.C z.W.drew := by
  have hb : Below z.W.heap.size z.W z.W.drew := (Below.refl _ _).drew
  exact ⟨hB.trans (hb.mono hB.size), Nat.le_refl _, hK.go hb, h1.go hb, h2.go hb⟩
end

end Go.Proofs.Ytphdadibfeencaa

/-
  The laws of rows (layer 3): which are gone through, and the document's form of one.
-/
set_option maxRecDepth 100000
namespace Go.Proofs.Ytphdadibfeencaa
open Go.ChangeShapes Go.WideShapes Go.ChangeAt Go.RowKit Go.Deep

set_option maxHeartbeats 400000 in
theorem ref3_any (u : Value) (p q : List Nat) (w : World) (h : IsRow w u p q) :
    Calls Try.prog 21 #[u] w (RowsV w p q) := by
  obtain ⟨v, d, rfl, hv, hd⟩ := h
  have HP := Lib.hid hv
  have HQ := Lib.hid hd
  obtain ⟨a0, c0, rfl, _⟩ := hv
  obtain ⟨a1, c1, rfl, _⟩ := hd
  go_enter Try.func21, Try.ntmps21
  go_wp2_with fail
  have B2 := ((Below.refl w.heap.size w).alloc (Nat.le_refl _) (.cells #[.slice a0 p.length c0, .slice a1 q.length c1] 42)).alloc (by simp) (.cells #[.slice a0 p.length c0, .slice a1 q.length c1] 62)
  exact bodyPost_ret (v := .agg #[.slice a0 p.length c0, .slice a1 q.length c1]) (by simp [results, Try.results21, go_sem]) rfl
    ⟨_, rfl, ⟨_, _, rfl, HP.out.below (Nat.le_refl _) B2, HQ.out.below (Nat.le_refl _) B2⟩, B2⟩

end Go.Proofs.Ytphdadibfeencaa

/-
  The laws of rows (layer 3): the example, 'Make', 'Of'.
-/
set_option maxRecDepth 100000
namespace Go.Proofs.Ytphdadibfeencaa
open Go.RowKit

set_option maxHeartbeats 400000 in
theorem make3_any (u : Value) (p q : List Nat) (w : World) (hu : IsRow w u p q) (hlp : p.length ≤ 1000000000) (hlq : q.length ≤ 1000000000) :
    Calls Try.prog 19 #[u] w (RowsV w p q) := by
  obtain ⟨v, d, rfl, hp, hq⟩ := hu
  have HP := Lib.hid hp
  have HQ := Lib.hid hq
  clear hp hq
  go_enter Try.func19, Try.ntmps19
  go_wp2_with fail
  obtain ⟨B, hk1, hk2, hs⟩ := blocks2 w #[v, d] 42 #[.slice none 0 0, .slice none 0 0] 52
  generalize ((w.alloc (.cells #[v, d] 42)).alloc (.cells #[.slice none 0 0, .slice none 0 0] 52)) = W at *
  have K1 := Lib.hid hk1
  have K2 := Lib.hid hk2
  have HS := Lib.hid hs
  clear hs hk1 hk2
  replace HP := Lib.hid (HP.out.go B)
  replace HQ := Lib.hid (HQ.out.go B)
  have hzW := B.size
  obtain ⟨k10, k11⟩ := K1.out.two
  have k1l := K1.out.lt
  go_wp2_with fail
  refine (of_any _ _ _ _ _ HP.out HQ.out hlp hlq).mono ?_
  rintro e w1 ⟨v1, rfl, hv1, hb⟩
  replace K2 := Lib.hid (K2.out.go hb)
  replace B := B.trans (hb.mono B.size)
  have hzw1 := B.size
  clear hb
  obtain ⟨y0, y1, rfl, V1, V2⟩ := hv1
  have H1 := Lib.hid V1
  have H2 := Lib.hid V2
  obtain ⟨a1, c1, rfl, _⟩ := V1
  obtain ⟨a2, c2, rfl, _⟩ := V2
  obtain ⟨k20, k21⟩ := K2.out.two
  have k2l := K2.out.lt
  obtain ⟨k2f0, k2f1⟩ := K2.out.fre2
  go_wp2_with fail
  obtain ⟨e0, e1, hB, hS⟩ := store2 K2.out (Nat.le_succ _) B (slice_ne _ _ _) (slice_ne _ _ _) (.slice a1 p.length c1) (.slice a2 q.length c2)
  exact bodyPost_ret (v := .agg #[.slice a1 p.length c1, .slice a2 q.length c2]) (by simp [results, Try.results19, go_sem, e0, e1]) rfl
    ⟨_, rfl, ⟨_, _, rfl, hS _ _ H1.out, hS _ _ H2.out⟩, hB⟩

end Go.Proofs.Ytphdadibfeencaa

/-
  The laws of grids and equations (layers 7 and 8): which are gone through; equations that came in; are rows the document's?
-/
set_option maxRecDepth 100000
namespace Go.Proofs.Ytphdadibfeencaa
open Go.ChangeShapes Go.WideShapes Go.ChangeAt Go.RowKit Go.Deep

/-- A list of structs of two slices of bytes that came in. -/
theorem open_rl {H : Type} {enc : TypeId × Value → H} {P : Program} {S t T E : TypeId} {f0 f1 : Field} (hS : P.underlying S = some (.slice t)) (hs : P.underlying t = some (.struct #[f0, f1])) (hC : P.cellsOf t = 2)
    (o0 : f0.offset = 0) (o1 : f1.offset = 1) (e0 : f0.type = T) (e1 : f1.type = T) (hT : P.underlying T = some (.slice E)) (hE : P.underlying E = some (.int .u8)) (hcT : P.cellsOf T = 1) (hc : P.cellsOf E = 1) {W : World} {base : Nat} {v : Value} {d : DataW H} {p : List MemPlace}
    (hok : Value.okWide P W .any base S v) (h : DataW.Trod enc P W 0 (fun _ => true) true S v d p) (hlt : ∀ x ∈ p, x.block < W.heap.size) : ∃ L, IsRL W v L := by
  obtain ⟨a0, len, cap, rfl⟩ := okWide_slice hS hok
  obtain ⟨fuel, hf⟩ := h
  rcases open_slice_pairs hS hs hC o0 o1 (by rw [e0]; exact hcT) (by rw [e1]; exact hcT) hf with ⟨hcs, hx⟩ | ⟨a, len', cap', m, n, V0, V1, D0, D1, P0, P1, hcs, _, hl, hm, hmm, hx, hall⟩
  · simp [Value.cells] at hcs
    obtain ⟨rfl, rfl, rfl⟩ := hcs
    exact ⟨[], isRL_none _ _ _ (by omega)⟩
  · simp [Value.cells] at hcs
    obtain ⟨rfl, rfl, rfl⟩ := hcs
    simp only [Prod.mk.injEq] at hx
    obtain ⟨rfl, rfl⟩ := hx
    simp only [if_true] at hmm
    subst hmm
    have hrow : ∀ i, i < len → ∃ r : Rw, Bytes W (V0 i) r.1 ∧ Bytes W (V1 i) r.2 := fun i hi => by
      obtain ⟨_, _, h0, h1⟩ := hall i (by omega)
      rw [e0] at h0
      rw [e1] at h1
      have hmem : ∀ y, y ∈ P0 i ++ P1 i → y.block < W.heap.size := fun y hy => hlt y (List.mem_append_right _ (List.mem_flatMap.2 ⟨i, List.mem_range.2 (by omega), hy⟩))
      obtain ⟨l, hl'⟩ := bytes_of_trod hT hE hc h0 fun y hy => hmem y (List.mem_append_left _ hy)
      obtain ⟨r, hr⟩ := bytes_of_trod hT hE hc h1 fun y hy => hmem y (List.mem_append_right _ hy)
      exact ⟨(l, r), hl', hr⟩
    obtain ⟨L, hL⟩ := Go.Deep.choose_lt hrow
    have hlen : ((List.range len).map L).length = len := by simp
    refine ⟨(List.range len).map L, some a, m, by rw [hlen], by rw [hlen]; exact hl, by simpa [maxLen] using hm, fun hne => ?_⟩
    have hl0 : 0 < len := by
      cases len with
      | zero => simp at hne
      | succ n => omega
    obtain ⟨b, off, spot⟩ := a
    have hspot : spot = none := by simpa [Addr.add] using World.cell?_spot (hall 0 (by omega)).1
    subst hspot
    have hbW : b < W.heap.size := hlt (.cell b off) (List.mem_append_left _ (MemPlace.mem_row.2 ⟨0, by omega, by simp⟩))
    refine ⟨b, off, rfl, hbW, fun i hi => ?_⟩
    rw [hlen] at hi
    obtain ⟨h0, h1, _, _⟩ := hall i (by omega)
    rw [row_add] at h0 h1
    refine ⟨V0 i, V1 i, h0, by rw [Nat.add_assoc]; exact h1, ?_⟩
    rw [rwAt_eq _ _ (by rw [hlen]; exact hi)]
    simpa using hL i hi

/-- Are equations gone through here? -/
def few8 (L : List Rw) : Bool := L.all (fun r => decide (r.1.length ≤ 20) && decide (r.2.length ≤ 20)) && decide (L.length ≤ 30)

set_option maxHeartbeats 1000000 in
theorem few8_any (v : Value) (L : List Rw) (w : World) (hL : IsRL w v L) :
    Calls Try.prog 6 #[v] w fun e w' => e = .returned (.bool (few8 L)) ∧ Below w.heap.size w w' := by
  have hcap : L.length ≤ 9223372036854775807 := by obtain ⟨_, _, _, h1, h2, _⟩ := hL; omega
  have HL := Lib.hid hL
  obtain ⟨a, c, rfl⟩ := hL.shape
  clear hL
  obtain ⟨t, ht⟩ : ∃ t, t = few8 L := ⟨_, rfl⟩
  rw [← ht]
  have HT := Lib.hid ht
  clear ht
  go_enter Try.func6, Try.ntmps6
  go_wp2_with fail
  go_loopw [4, 7] (fun _ i wr => ∃ n : Nat, n ≤ L.length ∧ i = .int .i64 n ∧ (∀ j, j < n → (rwAt L j).1.length ≤ 20 ∧ (rwAt L j).2.length ≤ 20) ∧ Below w.heap.size w wr) (fun _ i _ => L.length - (intOf i).toNat)
  case atStart => exact ⟨0, by omega, rfl, fun j hj => by omega, Below.refl _ _⟩
  case round =>
    obtain ⟨n, hn, rfl, hno, B⟩ := hrel
    have HN := Lib.hid hno
    clear hno
    by_cases hlt : n < L.length
    · obtain ⟨b, off, c', er, _⟩ := HL.out.addr (by omega)
      simp only [Value.slice.injEq, true_and] at er
      obtain ⟨rfl, rfl⟩ := er
      obtain ⟨p0, q0, z0, z1, hb1, hb2⟩ := (HL.out.go B).cells n hlt
      obtain ⟨pa, pc, rfl, _⟩ := hb1
      obtain ⟨qa, qc, rfl, _⟩ := hb2
      rcases (show (decide ((20 : Int) < ((rwAt L n).1.length : Int)) = false ∧ decide ((20 : Int) < ((rwAt L n).2.length : Int)) = false) ∨ decide ((20 : Int) < ((rwAt L n).1.length : Int)) = true ∨ (decide ((20 : Int) < ((rwAt L n).1.length : Int)) = false ∧ decide ((20 : Int) < ((rwAt L n).2.length : Int)) = true) from by
        simp only [decide_eq_true_eq, decide_eq_false_iff_not]; omega) with ⟨h1, h2⟩ | h1 | ⟨h1, h2⟩
      · have HQ := Lib.hid (show (rwAt L n).1.length ≤ 20 ∧ (rwAt L n).2.length ≤ 20 by simp only [decide_eq_false_iff_not] at h1 h2; omega)
        go_wp2_with fail
        have hzr := B.size
        go_roundw
        case rel => exact ⟨n + 1, by omega, by go_num, fun j hj => by
          by_cases h : j = n
          · rw [h]; exact HQ.out
          · exact HN.out j (by omega), B.alloc hzr _⟩
        case measure => simp [intOf]; omega
      · have HQ := Lib.hid (show t = false by
          rw [HT.out]; unfold few8
          rw [Bool.and_eq_false_iff]; left
          rw [List.all_eq_false]
          exact ⟨rwAt L n, rwAt_mem hlt, by simp only [decide_eq_true_eq] at h1; simp; omega⟩)
        have hzr := B.size
        go_wp2_with fail
        go_ret
        exact ⟨by rw [HQ.out]; rfl, B.alloc hzr _⟩
      · have HQ := Lib.hid (show t = false by
          rw [HT.out]; unfold few8
          rw [Bool.and_eq_false_iff]; left
          rw [List.all_eq_false]
          exact ⟨rwAt L n, rwAt_mem hlt, by simp only [decide_eq_true_eq] at h2; simp; omega⟩)
        have hzr := B.size
        go_wp2_with fail
        go_ret
        exact ⟨by rw [HQ.out]; rfl, B.alloc hzr _⟩
    · have HQ := Lib.hid (show t = decide ((L.length : Int) ≤ 30) by
        rw [HT.out]; unfold few8
        have : L.all (fun r => decide (r.1.length ≤ 20) && decide (r.2.length ≤ 20)) = true := by
          rw [List.all_eq_true]
          intro r hr
          obtain ⟨i, hi, rfl⟩ := List.mem_iff_getElem.1 hr
          rw [← rwAt_eq L i hi]
          have := HN.out i (by omega)
          simpa using this
        rw [this, Bool.true_and]
        by_cases h : L.length ≤ 30
        · rw [decide_eq_true h, decide_eq_true (by omega)]
        · rw [decide_eq_false h, decide_eq_false (by omega)])
      go_wp2_with fail
      go_ret
      exact ⟨by rw [HQ.out]; rfl, B⟩

end Go.Proofs.Ytphdadibfeencaa
