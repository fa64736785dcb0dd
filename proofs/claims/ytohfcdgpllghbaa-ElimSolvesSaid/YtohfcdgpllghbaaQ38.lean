/- Texts of one seat, laid together: ElimP, ElimQ, AppVec. -/
import Derived.Test.YtohfcdgpllghbaaQ35
import Derived.Test.YtohfcdgpllghbaaQ23
import Derived.Test.YtohfcdgpllghbaaQ4
import Derived.Test.YtohfcdgpllghbaaQ13
import Derived.Test.YtohfcdgpllghbaaQ11
import Derived.Test.YtohfcdgpllghbaaQ17

/-
  Systems of equations (layer 8): equations that symbols solve. No program in this text.
-/
set_option maxRecDepth 100000
namespace Go.Proofs.Ytohfcdgpllghbaa
open Go.RowKit
open La

/-- The data are what the vector combines. -/
def Holds (k t : Nat) (A : Nat → Vc) (v : Vc) : Prop := ∀ j, j < t → v (k + j) = sm (fun i => v i * A i j) k
theorem Holds.lin (k t : Nat) (A : Nat → Vc) : Lin (Holds k t A) := by
  refine ⟨fun j _ => ?_, fun {x y} hx hy j hj => ?_, fun {x} c hx j hj => ?_⟩
  · exact (sm_zero fun t _ => bzero_mul _).symm
  · show x (k + j) + y (k + j) = sm (fun i => (x i + y i) * A i j) k
    rw [hx j hj, hy j hj, ← sm_add]
    exact sm_congr fun t _ => (badd_mul _ _ _).symm
  · show c * x (k + j) = sm (fun i => c * x i * A i j) k
    rw [hx j hj, ← sm_mul]
    exact sm_congr fun t _ => (bmul_assoc _ _ _).symm
/-- The equation that a vector makes of symbols. -/
def eqOf (ll : List (List Nat)) (n : Nat) (w : List Nat) : Rw := (w, combT w ll n)
section
variable {ll : List (List Nat)} {n : Nat} (hO : OctM ll) (hn : ∀ j, j < ll.length → (rowAt ll j).length = n)
theorem eqOf_dim {w : List Nat} (hw : Oct w) (hl : w.length = ll.length) : Ro.Dim ll.length n (eqOf ll n w) := ⟨hl, combT_length _ _ _, hw, combT_lt hw ll n⟩
include hO hn
theorem eqOf_holds {w : List Nat} (hw : Oct w) (hl : w.length = ll.length) : Holds ll.length n (mat ll) (fj (eqOf ll n w)) := by
  intro j hj
  have hd := eqOf_dim (n := n) (ll := ll) hw hl
  rw [fj_right hd]
  show fv (combT w ll n) j = _
  rw [combT_fv hw hO hn]
  show sm (fun i => bt (nth w i) * mat ll i j) ll.length = _
  refine sm_congr fun i hi => ?_
  rw [fj_left hd hi]; rfl
end
/-- What holds, and has a vector of noughts, has no data. -/
theorem holds_zero {k t : Nat} {A : Nat → Vc} {x : Rw} (hx : Ro.Dim k t x) (h : Holds k t A (fj x)) (hz : zeroB x.1 = true) : zeroB x.2 = true := by
  have h1 : ∀ i, i < k → fj x i = 0 := fun i hi => by
    rw [fj_left hx hi]
    exact congrFun ((fv_zero hx.2.2.1).2 hz) i
  refine (fv_zero hx.2.2.2).1 (funext fun j => ?_)
  by_cases hj : j < t
  · rw [← fj_right hx, h j hj]
    exact sm_zero fun i hi => by rw [h1 i hi, bzero_mul]
  · exact fv_short' hx.2.1 j (by omega)
theorem rest_holds {k t : Nat} {W : Vc → Prop} (hW : Lin W) {E : List Rw} (h : RedR k t E) {x : Rw} (hx : Ro.Dim k t x) (hE : ∀ r, r ∈ E → W (fj r)) (hwx : W (fj x)) : W (fj (Ro.rest E x)) := by
  have hs := (rest_span h.up.dims hx).1.within hW (fun v hv => by
    obtain ⟨o, ho, rfl⟩ := List.mem_map.1 hv
    exact hE o ho)
  exact hW.of_sum hwx hs
/-- The rows of equations that hold. -/
structure Sol (k t : Nat) (A : Nat → Vc) (E L : List Rw) : Prop where
  red : RedR k t E
  dims : Ro.Dims k t L
  hold : ∀ r, r ∈ E → Holds k t A (fj r)
  sp1 : ∀ v, Sp (E.map f1) v ↔ Sp (L.map f1) v
  spj : ∀ v, Sp (E.map fj) v ↔ Sp (L.map fj) v
theorem Sol.nil (k t : Nat) (A : Nat → Vc) : Sol k t A [] [] := ⟨RedR.nil k t, fun r h => (by cases h), fun r h => (by cases h), fun _ => Iff.rfl, fun _ => Iff.rfl⟩
section
variable {k t : Nat} {A : Nat → Vc} {E L : List Rw}
theorem Sol.quiet (h : Sol k t A E L) {x : Rw} (hx : Ro.Dim k t x) (hH : Holds k t A (fj x)) (hz : zeroB (Ro.rest E x).1 = true) : zeroB (Ro.rest E x).2 = true :=
  holds_zero (Ro.rest_dim h.red.up.dims hx) (rest_holds (Holds.lin k t A) h.red hx h.hold hH) hz
theorem Sol.put (h : Sol k t A E L) {x : Rw} (hx : Ro.Dim k t x) (hH : Holds k t A (fj x)) : Sol k t A (Ro.take1 E x) (L ++ [x]) := by
  refine ⟨take1_red h.red hx, fun r hr => ?_, take1_within (Holds.lin k t A) h.red hx h.hold hH, fun v => ?_, fun v => ?_⟩
  · rcases List.mem_append.1 hr with h1 | h1
    · exact h.dims r h1
    · rw [List.mem_singleton.1 h1]; exact hx
  · rw [take1_span1 h.red hx, sp_snoc]
    exact sp_cons_congr h.sp1
  · rw [take1_span h.red hx (h.quiet hx hH), sp_snoc]
    exact sp_cons_congr h.spj
theorem Sol.none (h : Sol k t A E L) {x : Rw} (hx : Ro.Dim k t x) (hH : Holds k t A (fj x)) : (putC E x = 0 ∧ (Ro.take1 E x).length = E.length + 1) ∨ (putC E x = 1 ∧ (Ro.take1 E x).length = E.length) := by
  unfold putC Ro.take1
  cases hz : zeroB (Ro.rest E x).1 with
  | false => exact .inl ⟨rfl, by rw [if_neg (by decide), put_length, Ro.clean_length]⟩
  | true => exact .inr ⟨by rw [if_neg (by decide), if_pos (h.quiet hx hH hz)], by rw [if_pos rfl]⟩
theorem Sol.rank (h : Sol k t A E L) : E.length = rankL k (L.map fun x => x.1) := by
  rw [red_rank1 h.red, rk_congr h.sp1]
  unfold rankL
  rw [List.map_map]; rfl
theorem Sol.le (h : Sol k t A E L) : E.length ≤ k := by rw [red_rank1 h.red]; exact rk_le _ _
theorem Sol.same {F M : List Rw} (h : Sol k t A E L) (h' : Sol k t A F M) (hm : ∀ x, x ∈ L ↔ x ∈ M) : E = F :=
  h.red.eq h'.red fun v => by
    rw [h.spj, h'.spj]
    exact sp_perm fun u => by
      constructor
      · intro hu
        obtain ⟨x, hx, rfl⟩ := List.mem_map.1 hu
        exact List.mem_map.2 ⟨x, (hm x).1 hx, rfl⟩
      · intro hu
        obtain ⟨x, hx, rfl⟩ := List.mem_map.1 hu
        exact List.mem_map.2 ⟨x, (hm x).2 hx, rfl⟩
end
/-- As many rows as symbols: the symbols. -/
theorem Sol.full {ll : List (List Nat)} {n : Nat} {E L : List Rw} (hO : OctM ll) (hn : ∀ j, j < ll.length → (rowAt ll j).length = n) (h : Sol ll.length n (mat ll) E L) (hl : E.length = ll.length) : dataM E = ll := by
  refine ext_rowAt (by rw [dataM_length, hl]) fun i hi => ?_
  rw [dataM_length] at hi
  rw [dataM_at hi]
  have hm := rwAt_mem hi
  have hd := h.red.up.dims _ hm
  refine fv_inj hd.2.2.2 (rowAt_oct hO i) (by rw [hd.2.1, hn i (by omega)]) (funext fun j => ?_)
  by_cases hj : j < n
  · rw [← fj_right hd, h.hold _ hm j hj, sm_congr (g := fun t => (if i = t ∧ i < ll.length then (1 : B) else 0) * mat ll t j) fun t ht => by
      rw [fj_left hd ht]
      show bt (nth (rwAt E i).1 t) * _ = _
      rw [full_unit h.red hl (by omega), nth_unitL]
      split <;> rfl]
    rw [sm_one (show i < ll.length by omega) fun t _ hne => by rw [if_neg fun h => hne h.1.symm, bzero_mul]]
    rw [if_pos ⟨rfl, by omega⟩, bone_mul]; rfl
  · rw [fv_short' hd.2.1 j (by omega), fv_short' (hn i (by omega)) j (by omega)]
theorem combL_fit {ll : List (List Nat)} {n : Nat} {w : List Nat} (hn : ∀ j, j < ll.length → (rowAt ll j).length = n) (h1 : 1 ≤ ll.length) (hl : w.length = ll.length) : combL w ll = combT w ll n ∧ combE w ll = 0 := by
  have ha : alikeB ll = true := by
    unfold alikeB
    rw [List.all_eq_true]
    intro r hr
    obtain ⟨i, hi, rfl⟩ := List.mem_iff_getElem.1 hr
    rw [← rowAt_eq ll i hi, hn i hi, hn 0 (by omega)]; simp
  have hne : ll ≠ [] := fun e => by rw [e] at h1; simp at h1
  rw [combL_eq, if_pos ⟨hl, ha, hne⟩, hn 0 (by omega)]
  unfold combE
  rw [if_pos ⟨hl, ha⟩]
  exact ⟨rfl, rfl⟩

end Go.Proofs.Ytohfcdgpllghbaa

/-
  Lists of unlike elements lie apart: what stays while one of them grows, or a system takes an equation.
-/
set_option maxRecDepth 100000
namespace Go.Proofs.Ytohfcdgpllghbaa
open Go.RowKit

/-- The value's own block, if it has one, is of such elements. -/
def Typed (w : World) (v : Value) (T : TypeId) : Prop := ∀ b, v.ownBlock = some b → ∃ cur fr, w.heap[b]? = some (.cells cur T fr)
theorem OwnN.typed {w : World} {B sz n : Nat} {T : TypeId} {v : Value} {xs : List Value} (h : OwnN w B T sz v n xs) : Typed w v T := by
  intro b e
  rcases h.1.2 with ⟨rfl, _⟩ | ⟨g, cap, cur, rfl, _, hgg, _⟩
  · cases e
  · simp only [Value.ownBlock, Option.some.injEq] at e
    subst e
    exact ⟨_, _, hgg⟩
theorem OwnM.typed {w : World} {B : Nat} {T : TypeId} {v : Value} {L : List (List Nat)} (h : OwnM w B T v L) : Typed w v T := by obtain ⟨us, h1, _⟩ := h; exact h1.typed
theorem OwnL.typed {w : World} {B : Nat} {T : TypeId} {v : Value} {L : List Rw} (h : OwnL w B T v L) : Typed w v T := by obtain ⟨us, h1, _⟩ := h; exact h1.typed
theorem OwnE.typed {w : World} {B : Nat} {v : Value} {L : List Rw} (h : OwnE w B v L) : Typed w v 106 := by obtain ⟨us, h1, _⟩ := h; exact h1.typed
theorem Typed.apart {w : World} {v u : Value} {T T' : TypeId} (h : Typed w v T) (k : Typed w u T') (hT : T ≠ T') : ∀ b, v.ownBlock = some b → u.ownBlock ≠ some b := by
  intro b e e'
  obtain ⟨c, f, h1⟩ := h b e
  obtain ⟨c', f', h2⟩ := k b e'
  rw [h1] at h2
  simp only [Option.some.injEq, Obj.cells.injEq] at h2
  exact hT h2.2.1
theorem Typed.box {w : World} {v : Value} {g : Nat} {vs : Array Value} {T T' : TypeId} (h : Typed w v T) (k : Blk w g vs T') (hT : T ≠ T') : v.ownBlock ≠ some g := by
  intro e
  obtain ⟨c, f, h1⟩ := h g e
  unfold Blk at k
  rw [h1] at k
  simp only [Option.some.injEq, Obj.cells.injEq] at k
  exact hT k.2.1
theorem none_or {v : Value} {row : Option Nat} (h : ∀ b, v.ownBlock = some b → row ≠ some b) : v.ownBlock = none ∨ v.ownBlock ≠ row := by
  cases e : v.ownBlock with
  | none => exact .inl rfl
  | some b => exact .inr fun e' => h b e e'.symm
theorem OwnM.keepO {w w' : World} {B : Nat} {T : TypeId} {v : Value} {L : List (List Nat)} {row : Option Nat} (h : OwnM w B T v L) (hg : w.grownBy w' row) (hs : Soft w w') (hne : ∀ b, v.ownBlock = some b → row ≠ some b) : OwnM w' B T v L := h.other hg hs (none_or hne)
theorem OwnL.keepO {w w' : World} {B : Nat} {T : TypeId} {v : Value} {L : List Rw} {row : Option Nat} (h : OwnL w B T v L) (hg : w.grownBy w' row) (hs : Soft w w') (hne : ∀ b, v.ownBlock = some b → row ≠ some b) : OwnL w' B T v L := by
  obtain ⟨us, h1, h2⟩ := h
  exact ⟨us, h1.keep hg (none_or hne), h2.soft hs⟩
theorem OwnE.keepO {w w' : World} {B : Nat} {v : Value} {L : List Rw} {row : Option Nat} (h : OwnE w B v L) (hg : w.grownBy w' row) (hs : Soft w w') (hne : ∀ b, v.ownBlock = some b → row ≠ some b) : OwnE w' B v L := by
  obtain ⟨us, h1, h2⟩ := h
  exact ⟨us, h1.keep hg (none_or hne), h2.soft hs⟩
theorem IsE.keepO {w w' : World} {B g k t : Nat} {v : Value} {E : List Rw} {row : Option Nat} (h : IsE w B g v k t E) (hg : w.grownBy w' row) (hs : Soft w w') (h1 : row ≠ some g) (hne : ∀ b, v.ownBlock = some b → row ≠ some b) : IsE w' B g v k t E :=
  ⟨h.1.grown hg (fun e => h1 e.symm), h.2.1.keepO hg hs hne, h.2.2⟩
/-- The system takes an equation: a list of other elements stays. -/
theorem IsE.keepsM {w w' : World} {B C g k t : Nat} {v u : Value} {E : List Rw} {L : List (List Nat)} {T : TypeId} (h : IsE w B g v k t E) (hp : Past w w' g v) (hk : OwnM w C T u L) (h1 : T ≠ 104) (h2 : T ≠ 106) : OwnM w' C T u L := by
  obtain ⟨us, h3, h4⟩ := id hk
  refine ⟨us, h3.same fun b e => hp.block b (hk.lt b e) (fun e1 => hk.typed.box h.1 h1 (by rw [e, e1])) (fun e1 => hk.typed.apart h.2.1.typed h2 b e e1.symm), ?_⟩
  exact h4.soft hp.soft

end Go.Proofs.Ytohfcdgpllghbaa

/-
  'append' to a list of the program's rows.
-/
set_option maxRecDepth 100000
namespace Go.Proofs.Ytohfcdgpllghbaa
open Go.RowKit

theorem wpList_append_vrows {ops : Array Oper} {rest : List Oper} {o : Oper} {a : Act} {Q : Exit → Act → World → Prop} {w : World} (hgd : o.guard = none) (s x : Operand) (ho : o.op = .call { callee := .builtin .append, args := #[s, x], argTypes := #[79, 79] })
    (B : Nat) (v u : Value) (L M : List Rw) (hs : a.eval s = v) (hx : a.eval x = u) (hown : OwnL w B 61 v L) (hr : IsRL w u M) (hB : B ≤ w.heap.size) (hn : L.length + M.length ≤ 1000000000000)
    (h : ∀ v' w', OwnL w' B 61 v' (L ++ M) → w.grownBy w' v.ownBlock → Soft w w' → wpList Try.prog ops Q rest (a.put o.dst v') w') :
    wpList Try.prog ops Q (o :: rest) a w := by
  obtain ⟨i0, hi, hz0, hz1, hz2⟩ := info_parts infoVec
  obtain ⟨us, h1, h2⟩ := hown
  have hr0 := hr
  obtain ⟨a1, c1, rfl, g1, g2, g4⟩ := hr
  cases a1 with
  | none =>
    cases M with
    | nil =>
      refine wpList_append_none hgd s x 79 ho B 61 i0 2 c1 Try.underlying79 hi v L.length (pairs us) hs h1.1 hx ?_
      exact h v w ⟨us, by rw [List.append_nil]; exact h1, by rw [List.append_nil]; exact h2⟩ (grown_refl _ _) (Soft.refl _)
    | cons y M =>
      obtain ⟨b, off, e, _⟩ := g4 (by simp)
      exact absurd e (by simp)
  | some ad =>
    -- the new cells, as pairs
    have hex : ∃ vs : List (Value × Value), Each w vs M ∧ ∀ j u, (pairs vs)[j]? = some u → w.cell? (ad.add j) = some u := by
      by_cases hM : M = []
      · subst hM; exact ⟨[], Each.nil w, fun j u hj => by simp [pairs] at hj⟩
      · obtain ⟨b, off, e, _, hc⟩ := g4 hM
        simp only [Option.some.injEq] at e
        subst e
        have hch : ∀ n, n ≤ M.length → ∃ vs : List (Value × Value), vs.length = n ∧ (∀ i u, vs[i]? = some u → Bytes w u.1 (rwAt M i).1 ∧ Bytes w u.2 (rwAt M i).2) ∧ ∀ j u, (pairs vs)[j]? = some u → w.cell? ⟨b, off + j, none⟩ = some u := by
          intro n
          induction n with
          | zero => intro _; exact ⟨[], rfl, fun i u hu => by simp at hu, fun j u hj => by simp [pairs] at hj⟩
          | succ n ih =>
            intro hn1
            obtain ⟨vs, hl, hv, hp⟩ := ih (by omega)
            obtain ⟨p, q, hp1, hq1, hb1, hb2⟩ := hc n (by omega)
            refine ⟨vs ++ [(p, q)], by simp [hl], fun i u hu => ?_, fun j u hj => ?_⟩
            · by_cases hi1 : i < vs.length
              · rw [List.getElem?_append_left hi1] at hu; exact hv i u hu
              · rw [List.getElem?_append_right (by omega)] at hu
                have : i - vs.length = 0 := by
                  have := (List.getElem?_eq_some_iff.1 hu).1
                  simp at this; omega
                rw [this] at hu
                simp at hu
                subst hu
                have : i = n := by omega
                subst this; exact ⟨hb1, hb2⟩
            · rw [pairs_append] at hj
              by_cases hj1 : j < (pairs vs).length
              · rw [List.getElem?_append_left hj1] at hj; exact hp j u hj
              · rw [List.getElem?_append_right (by omega)] at hj
                have hpl := pairs_length vs
                have hlt := (List.getElem?_eq_some_iff.1 hj).1
                simp [pairs] at hlt
                have : j - (pairs vs).length = 0 ∨ j - (pairs vs).length = 1 := by omega
                rcases this with h0 | h0
                · rw [h0] at hj
                  simp [pairs] at hj
                  subst hj
                  rw [show j = n * 2 by omega]; exact hp1
                · rw [h0] at hj
                  simp [pairs] at hj
                  subst hj
                  rw [show off + j = off + n * 2 + 1 by omega]; exact hq1
        obtain ⟨vs, hl, hv, hp⟩ := hch M.length (Nat.le_refl _)
        exact ⟨vs, ⟨hl, hv⟩, fun j u hj => by rw [row_add]; exact hp j u hj⟩
    obtain ⟨vs, hE, hcells⟩ := hex
    refine wpList_append_soft hgd s x 79 ho B 61 i0 (.agg #[.slice none 0 0, .slice none 0 0]) 2 48 Try.underlying79 hi hz0 hz1 hz2 rfl (by decide) v L.length (pairs us) hs h1
      ad M.length c1 (pairs vs) hx (by rw [pairs_length, hE.len]) hcells (fun u hu => (hE.noU8 u hu).2) (fun u hu => by simp [Value.cells] at hu; subst hu; exact slice_ne _ _ _) (fun u hu => (hE.noU8 u hu).1) ?_ ?_ hB ?_
    · unfold maxLen; omega
    · omega
    · intro v' w' k1 k2 k3
      refine h v' w' ⟨us ++ vs, ?_, (h2.append hE).soft k3⟩ k2 k3
      rw [List.length_append, pairs_append]; exact k1

end Go.Proofs.Ytohfcdgpllghbaa
