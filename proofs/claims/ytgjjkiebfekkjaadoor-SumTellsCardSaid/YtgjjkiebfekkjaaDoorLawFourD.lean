/-
  The laws of sums (layer 4), walked: SumTells.
-/
import Derived.Test.YtgjjkiebfekkjaaDoorLawFourC
import Derived.Test.YtgjjkiebfekkjaaDoorMonoC
import Derived.Test.YtgjjkiebfekkjaaDoorRefTwo
set_option maxRecDepth 100000
namespace Go.Proofs.YtgjjkiebfekkjaaDoor
open Go.RowKit

theorem run_append_bytes {w : World} (ty : TypeId) (B : Nat) (v u : Value) (l r : List Nat) (hown : Owns w B v l) (hr : Bytes w u r) (hB : B ≤ w.heap.size) (hn : l.length + r.length ≤ 281474976710656 / 4) :
    ∃ v' w', (Builtin.append_ #[24, 24] ty #[v, u]).run Tryd.prog w = .ok v' w' ∧ Owns w' B v' (l ++ r) ∧ w.grownBy w' v.ownBlock := by
  obtain ⟨i0, hi, hz0, hz1, hz2⟩ := info_parts infoByte
  obtain ⟨a1, c1, rfl, h1, h2, h3, h4⟩ := hr
  cases a1 with
  | none =>
    cases r with
    | nil => exact ⟨v, w, run_append_none 24 ty 5 i0 1 B c1 Tryd.underlying24 hi v l.length (l.map U8) hown, by rw [List.append_nil]; exact hown, grown_refl _ _⟩
    | cons y r =>
      obtain ⟨b, off, e, _⟩ := h4 (by simp)
      exact absurd e (by simp)
  | some ad =>
    obtain ⟨v', w', g0, g1, g2, _⟩ := run_append_own (P := Tryd.prog) w B 24 ty 5 i0 (.int .u8 0) 1 1 Tryd.underlying24 hi hz0 hz1 hz2 rfl (by decide) v l.length (l.map U8) hown
      ad r.length c1 (r.map U8) (by simp) (by
        intro j y hj
        have hj' : j < r.length := by
          have := (List.getElem?_eq_some_iff.1 hj).1
          simpa using this
        obtain ⟨b, off, e, _, hc⟩ := h4 (by intro e; rw [e] at hj'; simp at hj')
        simp only [Option.some.injEq] at e
        subst e
        rw [show (⟨b, off, none⟩ : Addr).add j = ⟨b, off + j, none⟩ from by unfold Addr.add; split <;> simp_all, hc j hj', nth_eq r j hj']
        simp [hj'] at hj
        rw [← hj]) (by
        intro y hy
        obtain ⟨z, _, rfl⟩ := List.mem_map.1 hy
        rfl) (by unfold maxLen; omega) (by omega) hB
    refine ⟨v', w', g0, ?_, g2⟩
    unfold Owns
    simpa using g1

/-- 'append(out, x...)', of bytes, at a step of a region that draws. -/
theorem step_append_bytes {ops : Array Oper} {o : Oper} {a : Act} {K : Act → World → Prop} {Q : Exit → Act → World → Prop} {E : Prop} {w : World} (hgd : o.guard = none) (s x : Operand) (ho : o.op = .call { callee := .builtin .append, args := #[s, x], argTypes := #[24, 24] })
    (B : Nat) (v u : Value) (l r : List Nat) (hs : a.eval s = v) (hx : a.eval x = u) (hown : Owns w B v l) (hr : Bytes w u r) (hB : B ≤ w.heap.size) (hn : l.length + r.length ≤ 281474976710656 / 4)
    (h : ∀ v' w', Owns w' B v' (l ++ r) → w.grownBy w' v.ownBlock → K (a.put o.dst v') w') :
    if Region.wanted o (yielded ops a.tmps) = true then Oper.wp Tryd.prog o a w K Q else E := by
  have hw : Region.wanted o (yielded ops a.tmps) = true := by simp [Region.wanted, hgd]
  rw [if_pos hw]
  obtain ⟨v', w', hrun, h1, h2⟩ := run_append_bytes o.type B v u l r hown hr hB hn
  unfold Oper.wp execOp
  simp only [ho, resolve, invoke, builtin, Sem.run_bind, Sem.run_pure, Result.andThen_ok, List.map_toArray, List.map_cons, List.map_nil, hs, hx, hrun]
  exact h v' w' h1 h2

set_option maxHeartbeats 400000 in
theorem sumTells_out (a0 a2 : Option Addr) (n0 n2 c0 c2 : Nat) (ll : List (List Nat)) (n : Nat) (w : World) (hT : Tab w) (hR : IsRows w (.slice a0 n0 c0) ll) (h : fewB ll = false ∨ (fewB ll = true ∧ 100 < n2)) :
    Calls Tryd.prog 3 #[.slice a0 n0 c0, U32 n, .slice a2 n2 c2] w (Yes w) := by
  have HT := Lib.hid hT
  have HR := Lib.hid hR
  clear hT hR
  have B : Below w.heap.size w w := Below.refl _ _
  rcases h with h | ⟨h, h2⟩
  all_goals
    have HF := Lib.hid h
    clear h
    go_enter Tryd.func3, Tryd.ntmps3
    go_wp2_with fail
    refine (awake4_any _ HT.out).mono ?_
    rintro e w1 ⟨rfl, hb⟩
    replace HR := Lib.hid (HR.out.go hb)
    replace B := B.trans (hb.mono B.size)
    clear hb
    go_wp2_with fail
    refine (few_any _ ll _ HR.out).mono ?_
    rintro e w2 ⟨rfl, rfl⟩
    rw [HF.out]
    go_wp2_with fail
    go_ret
    exact ⟨rfl, B⟩

theorem few4_rows {ll : List (List Nat)} (h : fewB ll = true) : ll.length ≤ 30 ∧ ∀ k, k < ll.length → (rowAt ll k).length ≤ 1000 := by
  unfold fewB at h
  simp only [Bool.and_eq_true, decide_eq_true_eq, List.all_eq_true] at h
  exact ⟨by omega, fun k hk => by rw [rowAt_eq ll k hk]; exact h.1 _ (List.getElem_mem hk)⟩

theorem flat_length {ll : List (List Nat)} (h : ∀ k, k < ll.length → (rowAt ll k).length ≤ 1000) : ∀ k, k ≤ ll.length → (flat (ll.take k)).length ≤ 1000 * k
  | 0, _ => by simp [flat]
  | k + 1, hk => by
    rw [flat_take_succ ll k (by omega), List.length_append]
    have := flat_length h k (by omega)
    have := h k (by omega)
    omega

/-- A row of whatever slice of slices, at a world behind. -/
theorem IsRows.at' {w w' : World} {v : Value} {ll : List (List Nat)} (h : IsRows w v ll) (hb : Below w.heap.size w w') (k : Nat) (hk : k < ll.length) : ∃ b off, (∃ n c, v = .slice (some ⟨b, off, none⟩) n c) ∧ ∃ u, w'.cell? ⟨b, off + k, none⟩ = some u ∧ Bytes w u (rowAt ll k) := by
  have h0 := h
  obtain ⟨a, cap, rfl, _, _, h4⟩ := h
  obtain ⟨b, off, rfl, _, _⟩ := h4 (by intro e; rw [e] at hk; simp at hk)
  exact ⟨b, off, ⟨_, _, rfl⟩, h0.at hb k hk⟩

theorem owns_blk {w : World} {B g : Nat} {v : Value} {l : List Nat} {vs : Array Value} {T : TypeId} (h : Owns w B v l) (k : Blk w g vs T) (hT : T ≠ 5) : v.ownBlock ≠ some g := by
  rcases h.2 with ⟨rfl, _⟩ | ⟨g', cap, cur, rfl, _, hg, _⟩
  · simp [Value.ownBlock]
  · intro e
    have e' : g' = g := by simpa [Value.ownBlock] using e
    subst e'
    have k' : w.heap[g']? = some (.cells vs T) := k
    rw [hg] at k'
    simp only [Option.some.injEq, Obj.cells.injEq] at k'
    exact hT k'.2.1.symm

theorem Owns.grownOther {w w' : World} {B g : Nat} {v : Value} {l : List Nat} (h : Owns w B v l) (hg : w.grownBy w' (some g)) (hne : v.ownBlock ≠ some g) : Owns w' B v l :=
  h.kept hg (by
    cases hv : v.ownBlock with
    | none => simp
    | some k => simp; intro e; exact hne (by rw [hv, e]))

/-- The worlds of a region that appends to a slice of bytes and stores into a sum's box. -/
def ApC (w W1 : World) (g1 gK : Nat) (vK : Array Value) : World → Prop := fun w' => Below w.heap.size w w' ∧ W1.heap.size ≤ w'.heap.size ∧ Blk w' gK vK 28 ∧ ∃ y : Nat, Blk w' g1 #[U32 y] 28
/-- Its steps that write: 0 appends, all others store. -/
def ApH (v7 : Value) (g1 : Nat) : Nat → World → World → Prop := fun c a b => if c = 0 then a.grownBy b v7.ownBlock else (a.grownBy b (some g1) ∧ ∃ y : Nat, Blk b g1 #[U32 y] 28)
/-- What is known of both ahead. -/
structure ApS (w W1 : World) (v7 : Value) (g1 gK : Nat) : Prop where
  base : w.heap.size ≤ g1
  old : g1 < W1.heap.size
  own : ∀ g, v7.ownBlock = some g → w.heap.size ≤ g ∧ g < W1.heap.size ∧ g ≠ g1 ∧ g ≠ gK
  other : gK ≠ g1

section
variable {w W1 : World} {v7 : Value} {g1 gK : Nat} {vK : Array Value}
theorem ap_C : ∀ a b, ApC w W1 g1 gK vK a → Rb a b → ApC w W1 g1 gK vK b := fun _ _ ⟨h1, h2, h4, y, h3⟩ hR => ⟨h1.trans (hR.mono h1.size), Nat.le_trans h2 hR.size, h4.go hR, y, h3.go hR⟩
theorem ap_CH (h : ApS w W1 v7 g1 gK) : ∀ c a b, ApC w W1 g1 gK vK a → ApH v7 g1 c a b → ApC w W1 g1 gK vK b := by
  intro c a b ⟨h1, h2, h4, y, h3⟩ hH
  unfold ApH at hH
  split at hH
  · refine ⟨h1.grown hH h1.size (fun g e => (h.own g e).1), Nat.le_trans h2 hH.size, h4.grown hH ?_, y, h3.grown hH ?_⟩
    · intro e
      exact (h.own gK e.symm).2.2.2 rfl
    · intro e
      exact (h.own g1 e.symm).2.2.1 rfl
  · exact ⟨below_grown h1 hH.1 h1.size h.base, Nat.le_trans h2 hH.1.size, h4.grown hH.1 (by simpa using h.other), hH.2⟩
theorem Blk.ap0 (h : ApS w W1 v7 g1 gK) {a b : World} {g : Nat} {vs : Array Value} {T : TypeId} (hk : Blk a g vs T) (hg : W1.heap.size ≤ g ∨ g = g1) (hH : ApH v7 g1 0 a b) : Blk b g vs T := by
  unfold ApH at hH
  rw [if_pos rfl] at hH
  refine hk.grown hH fun e => ?_
  have := h.own g e.symm
  rcases hg with h1 | h1
  · omega
  · exact this.2.2.1 h1

/-- Soft, but for one kind. -/
def onlyB (n : Nat) : Nat → Bool := fun c => decide ((c = 0) = (n = 0))

theorem only0 {c : Nat} (h : onlyB 0 c = true) : c = 0 := by simpa [onlyB] using h
theorem only1 {c : Nat} (h : onlyB 1 c = true) : c ≠ 0 := by simpa [onlyB] using h

theorem owns_ap1 {B : Nat} {v : Value} {l : List Nat} {a b : World} {c : Nat} (hc : c ≠ 0) (hC : ApC w W1 g1 gK vK a) (hH : ApH v7 g1 c a b) (h : Owns a B v l) : Owns b B v l := by
  unfold ApH at hH
  rw [if_neg hc] at hH
  obtain ⟨_, _, _, y, hk⟩ := hC
  exact h.grownOther hH.1 (owns_blk h hk (by decide))

/-- What an append leaves: hard, of kind 0. -/
def Ty.appends (t : Tmp) (v0 : Value) (l l' : List Nat) : Ty (ApC w W1 g1 gK vK) Rb (ApH v7 g1) :=
  ⟨[t], fun vs a => Owns a w.heap.size (vs.headD undef) l', some 0, onlyB 1, fun _ _ _ _ hR h => h.below (Nat.le_refl _) hR, fun _ hc _ _ _ hC hH h => owns_ap1 (only1 hc) hC hH h,
    fun a => Owns a w.heap.size v0 l, onlyB 1, fun _ _ _ hR h => h.below (Nat.le_refl _) hR, fun _ hc _ _ hC hH h => owns_ap1 (only1 hc) hC hH h⟩
def Ty.owns (t : Tmp) (l : List Nat) : Ty (ApC w W1 g1 gK vK) Rb (ApH v7 g1) :=
  ⟨[t], fun vs a => Owns a w.heap.size (vs.headD undef) l, none, onlyB 1, fun _ _ _ _ hR h => h.below (Nat.le_refl _) hR, fun _ hc _ _ _ hC hH h => owns_ap1 (only1 hc) hC hH h,
    fun _ => True, fun _ => true, fun _ _ _ _ _ => trivial, fun _ _ _ _ _ _ _ => trivial⟩
/-- A load from the box: ahead, the box holds this. -/
def Ty.reads (hS : ApS w W1 v7 g1 gK) (t : Tmp) (v : Value) (vs : Array Value) (T : TypeId) : Ty (ApC w W1 g1 gK vK) Rb (ApH v7 g1) :=
  (Ty.val t v).ahead (fun a => Blk a g1 vs T) (onlyB 0) (fun _ _ _ hR h => h.go hR) (fun _ hc _ _ _ hH h => by rw [only0 hc] at hH; exact h.ap0 hS (Or.inr rfl) hH)
/-- A store into the box: hard, of kind 1. -/
def Ty.stores (hS : ApS w W1 v7 g1 gK) (vs vs' : Array Value) (T : TypeId) : Ty (ApC w W1 g1 gK vK) Rb (ApH v7 g1) :=
  ⟨[], fun _ a => Blk a g1 vs' T, some 1, onlyB 0, fun _ _ _ _ hR h => h.go hR, fun _ hc _ _ _ _ hH h => by rw [only0 hc] at hH; exact h.ap0 hS (Or.inr rfl) hH,
    fun a => Blk a g1 vs T, onlyB 0, fun _ _ _ hR h => h.go hR, fun _ hc _ _ _ hH h => by rw [only0 hc] at hH; exact h.ap0 hS (Or.inr rfl) hH⟩
/-- A new block. -/
def IsNew (W1 a : World) (v : Value) (u : Value) (T : TypeId) : Prop := ∃ g, v = .slice (some ⟨g, 0, none⟩) 1 1 ∧ W1.heap.size ≤ g ∧ Blk a g #[u] T
def Ty.fresh1 (hS : ApS w W1 v7 g1 gK) (t : Tmp) (u : Value) (T : TypeId) : Ty (ApC w W1 g1 gK vK) Rb (ApH v7 g1) :=
  Ty.one t (fun v a => IsNew W1 a v u T) (fun _ _ _ _ hR ⟨g, e, hg, h⟩ => ⟨g, e, hg, h.go hR⟩) (fun c _ _ _ _ hH ⟨g, e, hg, h⟩ => ⟨g, e, hg, by
    by_cases hc : c = 0
    · subst hc; exact h.ap0 hS (Or.inl hg) hH
    · unfold ApH at hH
      rw [if_neg hc] at hH
      exact h.grown hH.1 (by have := hS.old; simp; omega)⟩)
end

theorem load_sum {w : World} {g : Nat} {x : Value} {T : TypeId} (h : Blk w g #[x] T) : (Instr.loadAt 28 (.pointer (some ⟨g, 0, none⟩))).run Tryd.prog w = .ok (.agg #[x]) w := by
  have k0 : w.cell? ⟨g, 0, none⟩ = some x := h.cell 0
  go_simp
theorem store_sum {w : World} {g : Nat} {x : Nat} {y : Nat} {T : TypeId} (h : Blk w g #[U32 x] T) : (Instr.storeAt 28 (.pointer (some ⟨g, 0, none⟩)) (.agg #[U32 y])).run Tryd.prog w = .ok () (w.setCell ⟨g, 0, none⟩ (U32 y)) := by
  have k0 : w.cell? ⟨g, 0, none⟩ = some (U32 x) := h.cell 0
  have f0 := h.free 0
  go_simp
theorem rows_cell1 {w W : World} {g : Nat} {u : Value} {x : List Nat} {T : TypeId} (h : Blk W g #[u] T) (hx : Bytes W u x) (_hb : Below w.heap.size w W) : IsRows W (.slice (some ⟨g, 0, none⟩) 1 1) [x] := by
  refine ⟨_, 1, rfl, by simp, by omega, fun _ => ⟨g, 0, rfl, h.lt, fun i hi => ?_⟩⟩
  obtain rfl : i = 0 := by simpa using hi
  exact ⟨u, h.cell 0, hx⟩
theorem with_one (q q' : Nat) (v u : Value) (x : List Nat) (T : TypeId) (w w0 W1 : World) (hT : Tab w0) (hb : Below w0.heap.size w0 w) (hq : q < 4294967296) (hn : IsNew W1 w v u T) (hx : Bytes w0 u x) (he : Crc.reg q x = q') :
    Calls Tryd.prog 8 #[.agg #[U32 q], v] w fun e w' => e = .returned (.agg #[U32 q']) ∧ Below w.heap.size w w' := by
  obtain ⟨g, rfl, _, hk⟩ := hn
  have h := with_any q _ [x] w (hT.go hb) hq (rows_cell1 hk (hx.go hb) hb)
  rw [show flat [x] = x from by simp [flat], he] at h
  exact h

theorem Owns.go {w w' : World} {B : Nat} {v : Value} {l : List Nat} (h : Owns w B v l) (hb : Below w.heap.size w w') : Owns w' B v l := h.below (Nat.le_refl _) hb

/-- Of one temporary, in a region without writes. -/
def Ty.soft {C : World → Prop} {R : World → World → Prop} {H : Nat → World → World → Prop} (t : Tmp) (F : Value → World → Prop) (up : ∀ v w w', C w → R w w' → F v w → F v w') : Ty C R H :=
  ⟨[t], fun vs w => F (vs.headD undef) w, none, fun _ => false, fun _ _ _ h1 h2 h3 => up _ _ _ h1 h2 h3, (fun _ e => by cases e), fun _ => True, fun _ => true, fun _ _ _ _ _ => trivial, fun _ _ _ _ _ _ _ => trivial⟩
def Ty.new1 {W : World} (t : Tmp) (u : Value) (T : TypeId) : TyB W := Ty.soft t (fun v a => IsNew W a v u T) (fun _ _ _ _ hR ⟨g, e, hg, h⟩ => ⟨g, e, hg, h.go hR⟩)

theorem refsum_any' (v : Value) (l : List Nat) (t : Nat) (w : World) (h : Bytes w v l) (ht : Crc.sum l = t) :
    Calls Tryd.prog 10 #[v] w fun e w' => e = .returned (U32 t) ∧ w = w' := by subst ht; exact refsum_any v l w h

theorem same4_yes (v0 v1 : Value) (x : List Nat) (w : World) (hx : Bytes w v0 x) (hy : Bytes w v1 x) :
    Calls Tryd.prog 13 #[v0, v1] w fun e w' => e = .returned (.bool true) ∧ Below w.heap.size w w' := by
  have h := same_any v0 v1 x x w hx hy
  rwa [show decide (x = x) = true from decide_eq_true rfl] at h

set_option maxHeartbeats 2000000 in
theorem sumTells_in (v0 v2 : Value) (ll : List (List Nat)) (l : List Nat) (n : Nat) (w : World) (hT : Tab w) (hR : IsRows w v0 ll) (hL : Bytes w v2 l) (hn : n < 4294967296) (hf : fewB ll = true) (hl : l.length ≤ 100) :
    Calls Tryd.prog 3 #[v0, U32 n, v2] w (Yes w) := by
  have HT := Lib.hid hT
  have HR := Lib.hid hR
  have HL := Lib.hid hL
  have HF := Lib.hid hf
  obtain ⟨a0, c0, rfl, h1, h2, _⟩ := hR
  obtain ⟨a2, c2, rfl, _⟩ := hL
  have hcap : ll.length ≤ 9223372036854775807 := by omega
  clear hT hf h1 h2
  have B : Below w.heap.size w w := Below.refl _ _
  go_enter Tryd.func3, Tryd.ntmps3
  go_wp2_with fail
  refine (awake4_any _ HT.out).mono ?_
  rintro e w1 ⟨rfl, hb⟩
  replace B := B.trans (hb.mono B.size)
  have hzw1 := B.size
  clear hb
  go_wp2_with fail
  refine (few_any _ ll _ (HR.out.go B)).mono ?_
  rintro e w' ⟨rfl, rfl⟩
  rw [HF.out]
  go_wp2_with fail
  refine (start_any _).mono ?_
  rintro e w2 ⟨rfl, hb⟩
  replace B := B.trans (hb.mono B.size)
  have hzw2 := B.size
  clear hb
  go_wp2_with fail
  have h100 : decide ((100 : Int) < (l.length : Int)) = false := by simp; omega
  obtain ⟨hb, hk, hs⟩ := blocks1 w2 #[.int .u32 4294967295] 28
  generalize w2.alloc (.cells #[.int .u32 4294967295] 28) = W3 at *
  have K1 := Lib.hid hk
  replace B := B.trans (hb.mono B.size)
  have hzW3 := B.size
  clear hb hk hs
  have HFL := Lib.hid (show ∀ k x, x ∈ flat (ll.take k) → x < 256 from fun k x hx => by
    refine flat_lt HR.out x ?_
    unfold flat at hx ⊢
    obtain ⟨r, hr, hx⟩ := List.mem_flatten.1 hx
    exact List.mem_flatten.2 ⟨r, List.mem_of_mem_take hr, hx⟩)
  have HFS := Lib.hid (few4_rows HF.out)
  go_loopw [7, 10, 11, 29] (fun v _ _ i wr => ∃ k : Nat, k ≤ ll.length ∧ i = .int .i64 k ∧ Owns wr w.heap.size v (flat (ll.take k)) ∧ Blk wr w2.heap.size #[U32 (Crc.reg 4294967295 (flat (ll.take k)))] 28 ∧ Below w.heap.size w wr) (fun _ _ _ i _ => ll.length - (intOf i).toNat)
  case atStart => exact ⟨0, by omega, rfl, Owns.nil _ _, K1.out, B⟩
  case round =>
    obtain ⟨k, hk, rfl, hown, hk1, hbel⟩ := hrel
    have HO := Lib.hid hown
    have HK := Lib.hid hk1
    have hzr := hbel.size
    have hreg : Crc.reg 4294967295 (flat (ll.take k)) < 4294967296 := Crc.reg_lt (by decide) (HFL.out k)
    clear hown hk1
    by_cases hlt : k < ll.length
    · obtain ⟨b0, o0, ⟨_, _, e0⟩, u, hu, hB⟩ := HR.out.at' hbel k hlt
      simp only [Value.slice.injEq] at e0
      obtain ⟨rfl, e1, e2⟩ := e0
      clear e1 e2
      have HB := Lib.hid hB
      obtain ⟨ua, uc, rfl, _, _, _, _⟩ := hB
      obtain ⟨va, vn, vc, rfl⟩ := HO.out.shape
      have HLA := Lib.hid (flat_take_succ ll k hlt)
      have hlA := flat_length HFS.out.2 k hk
      have hrl := HFS.out.2 k hlt
      have h30 := HFS.out.1
      obtain ⟨lA, hA⟩ : ∃ lA, lA = flat (ll.take k) := ⟨_, rfl⟩
      have HQ := Lib.hid (show Crc.reg (Crc.reg 4294967295 lA) (rowAt ll k) = Crc.reg 4294967295 (flat (ll.take (k + 1))) by rw [HLA.out, Crc.reg_append, hA])
      rw [← hA] at HO HK hreg HLA hlA
      obtain ⟨q, hq⟩ : ∃ q, q = Crc.reg 4294967295 lA := ⟨_, rfl⟩
      rw [← hq] at HK hreg HQ
      obtain ⟨q', hq'⟩ : ∃ q', q' = Crc.reg 4294967295 (flat (ll.take (k + 1))) := ⟨_, rfl⟩
      rw [← hq'] at HQ
      have HQ' := Lib.hid hq'
      have hql : q' < 4294967296 := by rw [hq']; exact Crc.reg_lt (by decide) (HFL.out _)
      clear hA hq hq'
      have h0 : wr.cell? ⟨w2.heap.size, 0, none⟩ = some (U32 q) := HK.out.cell 0
      go_upto_region 11 with fail
      clear h0
      obtain ⟨hb1, hk2, hs1⟩ := blocks1 wr #[U32 q] 28
      generalize wr.alloc (.cells #[U32 q] 28) = W1 at *
      have K2 := Lib.hid hk2
      have hgo := HK.out.lt
      replace HK := Lib.hid (HK.out.go hb1)
      replace HO := Lib.hid (HO.out.below (Nat.le_refl _) hb1)
      replace hbel := hbel.trans (hb1.mono hbel.size)
      have hzW1 := hbel.size
      have HS := Lib.hid (show ApS w W1 (.slice va vn vc) w2.heap.size wr.heap.size from ⟨hzw2, HK.out.lt, fun g hg => ⟨(World.ownsRow.lt HO.out g hg).1, (World.ownsRow.lt HO.out g hg).2, fun e => owns_blk HO.out HK.out (by decide) (by rw [← e]; exact hg), fun e => owns_blk HO.out K2.out (by decide) (by rw [← e]; exact hg)⟩, by omega⟩)
      clear hk2 hb1 hs1
      refine wp_region_mono (C := ApC w W1 w2.heap.size wr.heap.size #[U32 q]) (R := Rb) (H := ApH (.slice va vn vc) w2.heap.size) [Ty.val 34 (.slice va vn vc), Ty.val 35 (.slice ua (rowAt ll k).length uc), (Ty.appends 36 (.slice va vn vc) lA (flat (ll.take (k + 1)))), (Ty.reads HS.out 37 (.agg #[U32 q]) #[U32 q] 28), Ty.val 38 (.slice ua (rowAt ll k).length uc), (Ty.fresh1 HS.out 39 (.slice ua (rowAt ll k).length uc) 24), Ty.val 40 (.agg #[U32 q']), (Ty.owns 7 (flat (ll.take (k + 1)))), (Ty.stores HS.out #[U32 q] #[U32 q'] 28)] (by kernel_rfl) (ap_C) (ap_CH HS.out) (⟨hbel.trans ((drew_b W1).mono hzW1), Nat.le_refl _, K2.out, q, HK.out⟩) ⟨trivial, trivial, (HO.out), (HK.out), trivial, trivial, trivial, trivial, (HK.out), trivial⟩ (by kernel_rfl) ?_ ?_
      · refine ⟨?_, ?_, ?_, ?_, ?_, ?_, ?_, ?_, ?_, trivial⟩
        · intro ac wc hC hsz hfr hd hpr
          obtain ⟨hCb, hCs, hCk, _⟩ := hC
          have d7 : ac.eval (.tmp 7) = (.slice va vn vc) := hfr 7 rfl
          rw [if_pos (wanted_none rfl)]
          exact ob_copy rfl rfl rfl (Nat.lt_of_lt_of_eq (by decide : 34 < 131) hsz.symm) (Or.inl rfl) (Below.refl _ _) d7
        · intro ac wc hC hsz hfr hd hpr
          obtain ⟨hCb, hCs, hCk, _⟩ := hC
          have d10 : ac.eval (.tmp 10) = (.slice ua (rowAt ll k).length uc) := hfr 10 rfl
          rw [if_pos (wanted_none rfl)]
          exact ob_copy rfl rfl rfl (Nat.lt_of_lt_of_eq (by decide : 35 < 131) hsz.symm) (Or.inl rfl) (Below.refl _ _) d10
        · intro ac wc hC hsz hfr hd hpr
          obtain ⟨hCb, hCs, hCk, _⟩ := hC
          have d34 : ac.eval (.tmp 34) = (.slice va vn vc) := hd 0 rfl
          have d35 : ac.eval (.tmp 35) = (.slice ua (rowAt ll k).length uc) := hd 1 rfl
          rw [if_pos (wanted_none rfl)]
          have hlt : 36 < ac.tmps.size := (Nat.lt_of_lt_of_eq (by decide : 36 < 131) hsz.symm)
          obtain ⟨v9, w9, r9, o9, g9⟩ := run_append_bytes ((24 : TypeId)) w.heap.size _ _ lA (rowAt ll k) hpr (HB.out.go hCb) hCb.size (by omega)
          rw [← HLA.out] at o9
          exact ob_hard v9 w9 rfl rfl rfl hlt (run_ob_append rfl d34 d35 r9) (by unfold ApH; rw [if_pos rfl]; exact g9) o9
        · intro ac wc hC hsz hfr hd hpr
          obtain ⟨hCb, hCs, hCk, _⟩ := hC
          have d8 : ac.eval (.tmp 8) = (.pointer (some ⟨w2.heap.size, 0, none⟩)) := hfr 8 rfl
          rw [if_pos (wanted_none rfl)]
          have hlt : 37 < ac.tmps.size := (Nat.lt_of_lt_of_eq (by decide : 37 < 131) hsz.symm)
          exact ob_load _ rfl rfl rfl hlt rfl d8 (load_sum hpr) (Below.refl _ _) rfl
        · intro ac wc hC hsz hfr hd hpr
          obtain ⟨hCb, hCs, hCk, _⟩ := hC
          have d10 : ac.eval (.tmp 10) = (.slice ua (rowAt ll k).length uc) := hfr 10 rfl
          rw [if_pos (wanted_none rfl)]
          exact ob_copy rfl rfl rfl (Nat.lt_of_lt_of_eq (by decide : 38 < 131) hsz.symm) (Or.inl rfl) (Below.refl _ _) d10
        · intro ac wc hC hsz hfr hd hpr
          obtain ⟨hCb, hCs, hCk, _⟩ := hC
          have d38 : ac.eval (.tmp 38) = (.slice ua (rowAt ll k).length uc) := hd 4 rfl
          rw [if_pos (wanted_none rfl)]
          have hlt : 39 < ac.tmps.size := (Nat.lt_of_lt_of_eq (by decide : 39 < 131) hsz.symm)
          exact ob_slice1 _ _ rfl rfl rfl hlt rfl d38 (slice1_rows _ _ _ _) (blocks1 _ _ _).1 ⟨_, rfl, hCs, (blocks1 _ _ _).2.1⟩
        · intro ac wc hC hsz hfr hd hpr
          obtain ⟨hCb, hCs, hCk, _⟩ := hC
          have d37 : (ac.eval (.tmp 37)) = .agg #[U32 q] := hd 3 rfl
          have d39 : IsNew W1 wc (ac.eval (.tmp 39)) (.slice ua (rowAt ll k).length uc) 24 := hd 5 rfl
          rw [if_pos (wanted_none rfl)]
          have hlt : 40 < ac.tmps.size := (Nat.lt_of_lt_of_eq (by decide : 40 < 131) hsz.symm)
          refine ob_call rfl rfl rfl hlt rfl (enter_of Tryd.func8 (by kernel_rfl) rfl) ?_
          show Calls Tryd.prog 8 #[ac.eval (.tmp 37), ac.eval (.tmp 39)] wc _
          rw [d37]
          exact (with_one q q' _ _ _ _ wc w W1 HT.out hCb hreg d39 HB.out HQ.out).mono fun _ _ ⟨he, hb⟩ => ⟨_, he, rfl, hb⟩
        · intro ac wc hC hsz hfr hd hpr
          obtain ⟨hCb, hCs, hCk, _⟩ := hC
          have d36 : Owns wc w.heap.size (ac.eval (.tmp 36)) (flat (ll.take (k + 1))) := hd 2 rfl
          rw [if_pos (wanted_none rfl)]
          have hlt : 7 < ac.tmps.size := (Nat.lt_of_lt_of_eq (by decide : 7 < 131) hsz.symm)
          exact ob_copy rfl rfl rfl hlt (Or.inr rfl) (Below.refl _ _) d36
        · intro ac wc hC hsz hfr hd hpr
          obtain ⟨hCb, hCs, hCk, _⟩ := hC
          have d8 : ac.eval (.tmp 8) = (.pointer (some ⟨w2.heap.size, 0, none⟩)) := hfr 8 rfl
          have d40 : ac.eval (.tmp 40) = (.agg #[U32 q']) := hd 6 rfl
          rw [if_pos (wanted_none rfl)]
          have hlt : 0 < ac.tmps.size := (Nat.lt_of_lt_of_eq (by decide : 0 < 131) hsz.symm)
          exact ob_store0 _ rfl rfl rfl d8 d40 (store_sum hpr) (by unfold ApH; rw [if_neg (by decide)]; exact ⟨grown_setCell wc ⟨w2.heap.size, 0, none⟩ _, q', hpr.set 0 _⟩) (hpr.set 0 _)
      intro a' W4 hC hdef hsz hfr hd
      obtain ⟨hCb, hCs, hCk, _⟩ := hC
      have e34 : a'.eval (.tmp 34) = (.slice va vn vc) := hd 0 (by decide)
      have e35 : a'.eval (.tmp 35) = (.slice ua (rowAt ll k).length uc) := hd 1 (by decide)
      obtain ⟨x36, e36, r36⟩ : ∃ x, a'.eval (.tmp 36) = x ∧ Owns W4 w.heap.size (x) (flat (ll.take (k + 1))) := ⟨_, rfl, hd 2 (by decide)⟩
      replace r36 := Lib.hid r36
      obtain ⟨x37, e37, r37⟩ : ∃ x, a'.eval (.tmp 37) = x ∧ (x) = .agg #[U32 q] := ⟨_, rfl, hd 3 (by decide)⟩
      replace r37 := Lib.hid r37
      have e38 : a'.eval (.tmp 38) = (.slice ua (rowAt ll k).length uc) := hd 4 (by decide)
      obtain ⟨x39, e39, r39⟩ : ∃ x, a'.eval (.tmp 39) = x ∧ IsNew W1 W4 (x) (.slice ua (rowAt ll k).length uc) 24 := ⟨_, rfl, hd 5 (by decide)⟩
      replace r39 := Lib.hid r39
      have e40 : a'.eval (.tmp 40) = (.agg #[U32 q']) := hd 6 (by decide)
      obtain ⟨x7, e7, r7⟩ : ∃ x, a'.eval (.tmp 7) = x ∧ Owns W4 w.heap.size (x) (flat (ll.take (k + 1))) := ⟨_, rfl, hd 7 (by decide)⟩
      replace r7 := Lib.hid r7
      have st8 : Blk W4 w2.heap.size #[U32 q'] 28 := hd 8 (by decide)
      replace st8 := Lib.hid st8
      have hact := act_puts hdef hsz hfr
      simp only [dstsOf, List.filterMap, putAll, Act.put, List.setIfInBounds_toArray, List.set_cons_succ, List.set_cons_zero, e34, e35, e36, e37, e38, e39, e40, e7] at hact
      clear hd hfr hsz hdef e34 e35 e36 e37 e38 e39 e40 e7
      subst hact
      have KK := Lib.hid hCk
      have hbel4 := hCb
      replace B := hCb
      have hz4 := hCb.size
      have HA4 := Lib.hid (show Bytes W4 x7 (flat (ll.take (k + 1))) from r7.out.bytes (HFL.out _))
      obtain ⟨v7a, v7n, v7c, rfl⟩ := r7.out.shape
      have h0 : W4.cell? ⟨w2.heap.size, 0, none⟩ = some (U32 q') := st8.out.cell 0
      clear hCk hCb hbel
      go_wp2_with fail
      have HSM := Lib.hid (show Crc.sum (flat (ll.take (k + 1))) = 4294967295 ^^^ q' by unfold Crc.sum; rw [HQ'.out])
      refine wp_region_mono (C := Cb W4) (R := Rb) (H := fun _ => Hb W4) [Ty.val 41 (.agg #[U32 q]), Ty.val 42 (.slice ua (rowAt ll k).length uc), (Ty.new1 43 (.slice ua (rowAt ll k).length uc) 24), Ty.val 44 (.agg #[U32 q']), Ty.val 45 (.int .u32 ((4294967295 ^^^ q' : Nat) : Int)), Ty.val 46 (.agg #[U32 q']), Ty.val 47 (.int .u32 ((4294967295 ^^^ q' : Nat) : Int)), Ty.val 48 (.bool false), Ty.val 49 (.bool false), Ty.val 50 (.agg #[U32 q']), Ty.val 51 (.int .u32 ((4294967295 ^^^ q' : Nat) : Int)), Ty.val 52 (.slice v7a v7n v7c), Ty.val 53 (.int .u32 ((4294967295 ^^^ q' : Nat) : Int)), Ty.val 54 (.bool false), Ty.val 55 (.bool false)] (by kernel_rfl) (hC_b W4) (hCH_b W4) (drew_b W4) ⟨trivial, trivial, trivial, trivial, trivial, trivial, trivial, trivial, trivial, trivial, trivial, trivial, trivial, trivial, trivial, trivial⟩ (by kernel_rfl) ?_ ?_
      · refine ⟨?_, ?_, ?_, ?_, ?_, ?_, ?_, ?_, ?_, ?_, ?_, ?_, ?_, ?_, ?_, trivial⟩
        · intro ac wc hC hsz hfr hd hpr
          have d11 : ac.eval (.tmp 11) = (.pointer (some ⟨wr.heap.size, 0, none⟩)) := hfr 11 rfl
          rw [if_pos (wanted_none rfl)]
          exact ob_load _ rfl rfl rfl (Nat.lt_of_lt_of_eq (by decide : 41 < 131) hsz.symm) rfl d11 (load_sum (KK.out.go hC)) (Below.refl _ _) rfl
        · intro ac wc hC hsz hfr hd hpr
          have d10 : ac.eval (.tmp 10) = (.slice ua (rowAt ll k).length uc) := hfr 10 rfl
          rw [if_pos (wanted_none rfl)]
          exact ob_copy rfl rfl rfl (Nat.lt_of_lt_of_eq (by decide : 42 < 131) hsz.symm) (Or.inl rfl) (Below.refl _ _) d10
        · intro ac wc hC hsz hfr hd hpr
          have d42 : ac.eval (.tmp 42) = (.slice ua (rowAt ll k).length uc) := hd 1 rfl
          rw [if_pos (wanted_none rfl)]
          have hlt : 43 < ac.tmps.size := (Nat.lt_of_lt_of_eq (by decide : 43 < 131) hsz.symm)
          exact ob_slice1 _ _ rfl rfl rfl hlt rfl d42 (slice1_rows _ _ _ _) (blocks1 _ _ _).1 ⟨_, rfl, hC.size, (blocks1 _ _ _).2.1⟩
        · intro ac wc hC hsz hfr hd hpr
          have d41 : ac.eval (.tmp 41) = (.agg #[U32 q]) := hd 0 rfl
          have d43 : IsNew W4 wc (ac.eval (.tmp 43)) (.slice ua (rowAt ll k).length uc) 24 := hd 2 rfl
          rw [if_pos (wanted_none rfl)]
          refine ob_call rfl rfl rfl (Nat.lt_of_lt_of_eq (by decide : 44 < 131) hsz.symm) rfl (enter_of Tryd.func8 (by kernel_rfl) rfl) ?_
          show Calls Tryd.prog 8 #[ac.eval (.tmp 41), ac.eval (.tmp 43)] wc _
          rw [d41]
          exact (with_one q q' _ _ _ _ wc w W4 HT.out (hbel4.trans (hC.mono hz4)) hreg d43 HB.out HQ.out).mono fun _ _ ⟨he, hb⟩ => ⟨_, he, rfl, hb⟩
        · intro ac wc hC hsz hfr hd hpr
          have d44 : ac.eval (.tmp 44) = (.agg #[U32 q']) := hd 3 rfl
          rw [if_pos (wanted_none rfl)]
          refine ob_call rfl rfl rfl (Nat.lt_of_lt_of_eq (by decide : 45 < 131) hsz.symm) rfl (enter_of Tryd.func9 (by kernel_rfl) rfl) ?_
          show Calls Tryd.prog 9 #[ac.eval (.tmp 44)] wc _
          rw [d44]
          exact (rsum_any q' wc hql).mono fun _ _ ⟨he, hb⟩ => ⟨_, he, rfl, hb⟩
        · intro ac wc hC hsz hfr hd hpr
          have d8 : ac.eval (.tmp 8) = (.pointer (some ⟨w2.heap.size, 0, none⟩)) := hfr 8 rfl
          rw [if_pos (wanted_none rfl)]
          exact ob_load _ rfl rfl rfl (Nat.lt_of_lt_of_eq (by decide : 46 < 131) hsz.symm) rfl d8 (load_sum (st8.out.go hC)) (Below.refl _ _) rfl
        · intro ac wc hC hsz hfr hd hpr
          have d46 : ac.eval (.tmp 46) = (.agg #[U32 q']) := hd 5 rfl
          rw [if_pos (wanted_none rfl)]
          refine ob_call rfl rfl rfl (Nat.lt_of_lt_of_eq (by decide : 47 < 131) hsz.symm) rfl (enter_of Tryd.func9 (by kernel_rfl) rfl) ?_
          show Calls Tryd.prog 9 #[ac.eval (.tmp 46)] wc _
          rw [d46]
          exact (rsum_any q' wc hql).mono fun _ _ ⟨he, hb⟩ => ⟨_, he, rfl, hb⟩
        · intro ac wc hC hsz hfr hd hpr
          have d45 : ac.eval (.tmp 45) = (.int .u32 ((4294967295 ^^^ q' : Nat) : Int)) := hd 4 rfl
          have d47 : ac.eval (.tmp 47) = (.int .u32 ((4294967295 ^^^ q' : Nat) : Int)) := hd 6 rfl
          rw [if_pos (wanted_none rfl)]
          exact ob_bin _ rfl rfl rfl (Nat.lt_of_lt_of_eq (by decide : 48 < 131) hsz.symm) rfl d45 d47 (neq_u32 (by simp)) (Below.refl _ _) rfl
        · intro ac wc hC hsz hfr hd hpr
          have d48 : ac.eval (.tmp 48) = (.bool false) := hd 7 rfl
          rw [if_pos (wanted_none rfl)]
          exact ob_copy rfl rfl rfl (Nat.lt_of_lt_of_eq (by decide : 49 < 131) hsz.symm) (Or.inl rfl) (Below.refl _ _) d48
        · intro ac wc hC hsz hfr hd hpr
          have d49 : ac.eval (.tmp 49) = (.bool false) := hd 8 rfl
          have d8 : ac.eval (.tmp 8) = (.pointer (some ⟨w2.heap.size, 0, none⟩)) := hfr 8 rfl
          rw [if_pos (wanted_some rfl (yielded_of rfl d49))]
          exact ob_load _ rfl rfl rfl (Nat.lt_of_lt_of_eq (by decide : 50 < 131) hsz.symm) rfl d8 (load_sum (st8.out.go hC)) (Below.refl _ _) rfl
        · intro ac wc hC hsz hfr hd hpr
          have d49 : ac.eval (.tmp 49) = (.bool false) := hd 8 rfl
          have d50 : ac.eval (.tmp 50) = (.agg #[U32 q']) := hd 9 rfl
          rw [if_pos (wanted_some rfl (yielded_of rfl d49))]
          refine ob_call rfl rfl rfl (Nat.lt_of_lt_of_eq (by decide : 51 < 131) hsz.symm) rfl (enter_of Tryd.func9 (by kernel_rfl) rfl) ?_
          show Calls Tryd.prog 9 #[ac.eval (.tmp 50)] wc _
          rw [d50]
          exact (rsum_any q' wc hql).mono fun _ _ ⟨he, hb⟩ => ⟨_, he, rfl, hb⟩
        · intro ac wc hC hsz hfr hd hpr
          have d49 : ac.eval (.tmp 49) = (.bool false) := hd 8 rfl
          have d7 : ac.eval (.tmp 7) = (.slice v7a v7n v7c) := hfr 7 rfl
          rw [if_pos (wanted_some rfl (yielded_of rfl d49))]
          exact ob_copy rfl rfl rfl (Nat.lt_of_lt_of_eq (by decide : 52 < 131) hsz.symm) (Or.inl rfl) (Below.refl _ _) d7
        · intro ac wc hC hsz hfr hd hpr
          have d49 : ac.eval (.tmp 49) = (.bool false) := hd 8 rfl
          have d52 : ac.eval (.tmp 52) = (.slice v7a v7n v7c) := hd 11 rfl
          rw [if_pos (wanted_some rfl (yielded_of rfl d49))]
          refine ob_call rfl rfl rfl (Nat.lt_of_lt_of_eq (by decide : 53 < 131) hsz.symm) rfl (enter_of Tryd.func10 (by kernel_rfl) rfl) ?_
          show Calls Tryd.prog 10 #[ac.eval (.tmp 52)] wc _
          rw [d52]
          exact (refsum_any' _ _ _ wc (HA4.out.go hC) HSM.out).mono fun _ _ ⟨he, hw⟩ => ⟨_, he, rfl, hw ▸ Below.refl _ _⟩
        · intro ac wc hC hsz hfr hd hpr
          have d49 : ac.eval (.tmp 49) = (.bool false) := hd 8 rfl
          have d51 : ac.eval (.tmp 51) = (.int .u32 ((4294967295 ^^^ q' : Nat) : Int)) := hd 10 rfl
          have d53 : ac.eval (.tmp 53) = (.int .u32 ((4294967295 ^^^ q' : Nat) : Int)) := hd 12 rfl
          rw [if_pos (wanted_some rfl (yielded_of rfl d49))]
          exact ob_bin _ rfl rfl rfl (Nat.lt_of_lt_of_eq (by decide : 54 < 131) hsz.symm) rfl d51 d53 (neq_u32 (by simp)) (Below.refl _ _) rfl
        · intro ac wc hC hsz hfr hd hpr
          have d49 : ac.eval (.tmp 49) = (.bool false) := hd 8 rfl
          have d54 : ac.eval (.tmp 54) = (.bool false) := hd 13 rfl
          rw [if_pos (wanted_none rfl)]
          exact ob_pick rfl rfl rfl (Nat.lt_of_lt_of_eq (by decide : 55 < 131) hsz.symm) rfl d49 (Below.refl _ _) d54
      intro a' W5 hC hdef hsz hfr hd
      have e41 : a'.eval (.tmp 41) = (.agg #[U32 q]) := hd 0 (by decide)
      have e42 : a'.eval (.tmp 42) = (.slice ua (rowAt ll k).length uc) := hd 1 (by decide)
      obtain ⟨x43, e43, r43⟩ : ∃ x, a'.eval (.tmp 43) = x ∧ IsNew W4 W5 (x) (.slice ua (rowAt ll k).length uc) 24 := ⟨_, rfl, hd 2 (by decide)⟩
      replace r43 := Lib.hid r43
      have e44 : a'.eval (.tmp 44) = (.agg #[U32 q']) := hd 3 (by decide)
      have e45 : a'.eval (.tmp 45) = (.int .u32 ((4294967295 ^^^ q' : Nat) : Int)) := hd 4 (by decide)
      have e46 : a'.eval (.tmp 46) = (.agg #[U32 q']) := hd 5 (by decide)
      have e47 : a'.eval (.tmp 47) = (.int .u32 ((4294967295 ^^^ q' : Nat) : Int)) := hd 6 (by decide)
      have e48 : a'.eval (.tmp 48) = (.bool false) := hd 7 (by decide)
      have e49 : a'.eval (.tmp 49) = (.bool false) := hd 8 (by decide)
      have e50 : a'.eval (.tmp 50) = (.agg #[U32 q']) := hd 9 (by decide)
      have e51 : a'.eval (.tmp 51) = (.int .u32 ((4294967295 ^^^ q' : Nat) : Int)) := hd 10 (by decide)
      have e52 : a'.eval (.tmp 52) = (.slice v7a v7n v7c) := hd 11 (by decide)
      have e53 : a'.eval (.tmp 53) = (.int .u32 ((4294967295 ^^^ q' : Nat) : Int)) := hd 12 (by decide)
      have e54 : a'.eval (.tmp 54) = (.bool false) := hd 13 (by decide)
      have e55 : a'.eval (.tmp 55) = (.bool false) := hd 14 (by decide)
      have hact := act_puts hdef hsz hfr
      simp only [dstsOf, List.filterMap, putAll, Act.put, List.setIfInBounds_toArray, List.set_cons_succ, List.set_cons_zero, e41, e42, e43, e44, e45, e46, e47, e48, e49, e50, e51, e52, e53, e54, e55] at hact
      clear hd hfr hsz hdef e41 e42 e43 e44 e45 e46 e47 e48 e49 e50 e51 e52 e53 e54 e55
      subst hact
      replace r7 := Lib.hid (r7.out.go hC)
      replace st8 := Lib.hid (st8.out.go hC)
      replace B := B.trans (hC.mono B.size)
      clear hC
      go_wp2_with fail
      refine ⟨⟨k + 1, by omega, by go_num, r7.out, ?_, B⟩, by simp [intOf]; omega⟩
      have h := st8.out
      rw [HQ'.out] at h
      exact h
    · obtain rfl : k = ll.length := by omega
      have HFA := Lib.hid (show flat (ll.take ll.length) = flat ll by rw [List.take_length])
      rw [HFA.out] at HO
      have HA := Lib.hid (HO.out.bytes (flat_lt HR.out))
      have HG4 := Lib.hid (show getV (put4 n) = n from by unfold getV; rw [if_pos (show (put4 n).length = 4 from rfl), get4_put4 n hn])
      have HE4 := Lib.hid (show getE (put4 n) = 0 from if_pos rfl)
      obtain ⟨va, vn, vc, rfl⟩ := HO.out.shape
      obtain ⟨wo, hwo⟩ : ∃ wo : World, wo = wr := ⟨_, rfl⟩
      subst hwo
      replace B := hbel
      clear hbel hzr HO HK
      by_cases hl4 : l.length = 4
      · have HGV := Lib.hid (show getV l = get4 l from if_pos hl4)
        have HGE := Lib.hid (show getE l = 0 from if_pos hl4)
        have HPG := Lib.hid (put4_get4 hl4 HL.out.lt)
        have hgl : get4 l < 4294967296 := by rw [← HGV.out]; exact getV_lt HL.out.lt
        have hb4 : ((l.length : Int) != 4) = false := by rw [hl4]; rfl
        clear hl4
        go_wp2_with fail
        refine (get_any _ l _ (HL.out.go B)).mono ?_
        rintro e w' ⟨rfl, rfl⟩
        rw [HGV.out, HGE.out]
        go_wp2_with fail
        refine (put_any n _).mono ?_
        rintro e w5 ⟨v5, rfl, hv5, hb⟩
        replace HA := Lib.hid (HA.out.go hb)
        replace B := B.trans (hb.mono B.size)
        have hzw5 := B.size
        clear hb
        go_wp2_with fail
        refine (get_any _ (put4 n) _ hv5).mono ?_
        rintro e w' ⟨rfl, rfl⟩
        rw [HG4.out, HE4.out]
        go_wp2_with fail
        refine (refput_any (get4 l) _ hgl).mono ?_
        rintro e w6 ⟨v6, rfl, hv6, hb⟩
        replace HA := Lib.hid (HA.out.go hb)
        replace B := B.trans (hb.mono B.size)
        have hzw6 := B.size
        clear hb
        rw [HPG.out] at hv6
        have V6 := Lib.hid hv6
        clear hv5 hv6
        go_wp2_with fail
        refine (same4_yes _ _ l _ V6.out (HL.out.go B)).mono ?_
        rintro e w7 ⟨rfl, hb⟩
        replace HA := Lib.hid (HA.out.go hb)
        replace B := B.trans (hb.mono B.size)
        have hzw7 := B.size
        clear hb
        go_wp2_with fail
        refine (put_any n _).mono ?_
        rintro e w8 ⟨v8, rfl, hv8, hb⟩
        replace HA := Lib.hid (HA.out.go hb)
        replace B := B.trans (hb.mono B.size)
        have hzw8 := B.size
        clear hb
        have V8 := Lib.hid hv8
        clear hv8
        go_wp2_with fail
        refine (refput_any n _ hn).mono ?_
        rintro e w9 ⟨v9, rfl, hv9, hb⟩
        replace HA := Lib.hid (HA.out.go hb)
        replace V8 := Lib.hid (V8.out.go hb)
        replace B := B.trans (hb.mono B.size)
        have hzw9 := B.size
        clear hb
        have V9 := Lib.hid hv9
        clear hv9
        go_wp2_with fail
        refine (same4_yes _ _ (put4 n) _ V8.out V9.out).mono ?_
        rintro e w10 ⟨rfl, hb⟩
        replace HA := Lib.hid (HA.out.go hb)
        replace B := B.trans (hb.mono B.size)
        have hzw10 := B.size
        clear hb
        go_wp2_with fail
        refine (of4_any _ ll _ (HT.out.go B) (HR.out.go B)).mono ?_
        rintro e w11 ⟨rfl, hb⟩
        replace HA := Lib.hid (HA.out.go hb)
        replace B := B.trans (hb.mono B.size)
        have hzw11 := B.size
        clear hb
        go_wp2_with fail
        refine (refsum_any _ (flat ll) _ HA.out).mono ?_
        rintro e w' ⟨rfl, rfl⟩
        go_wp2_with fail
        go_ret
        exact ⟨rfl, B⟩
      · have HGV := Lib.hid (show getV l = 0 from if_neg hl4)
        have HGE := Lib.hid (show getE l = 4 from if_neg hl4)
        have hb4 : ((l.length : Int) != 4) = true := by rw [bne_iff_ne]; omega
        clear hl4
        go_wp2_with fail
        refine (get_any _ l _ (HL.out.go B)).mono ?_
        rintro e w' ⟨rfl, rfl⟩
        rw [HGV.out, HGE.out]
        go_wp2_with fail
        refine (put_any n _).mono ?_
        rintro e w5 ⟨v5, rfl, hv5, hb⟩
        replace HA := Lib.hid (HA.out.go hb)
        replace B := B.trans (hb.mono B.size)
        have hzw5 := B.size
        clear hb
        go_wp2_with fail
        refine (get_any _ (put4 n) _ hv5).mono ?_
        rintro e w' ⟨rfl, rfl⟩
        rw [HG4.out, HE4.out]
        clear hv5
        go_wp2_with fail
        refine (put_any n _).mono ?_
        rintro e w8 ⟨v8, rfl, hv8, hb⟩
        replace HA := Lib.hid (HA.out.go hb)
        replace B := B.trans (hb.mono B.size)
        have hzw8 := B.size
        clear hb
        have V8 := Lib.hid hv8
        clear hv8
        go_wp2_with fail
        refine (refput_any n _ hn).mono ?_
        rintro e w9 ⟨v9, rfl, hv9, hb⟩
        replace HA := Lib.hid (HA.out.go hb)
        replace V8 := Lib.hid (V8.out.go hb)
        replace B := B.trans (hb.mono B.size)
        have hzw9 := B.size
        clear hb
        have V9 := Lib.hid hv9
        clear hv9
        go_wp2_with fail
        refine (same4_yes _ _ (put4 n) _ V8.out V9.out).mono ?_
        rintro e w10 ⟨rfl, hb⟩
        replace HA := Lib.hid (HA.out.go hb)
        replace B := B.trans (hb.mono B.size)
        have hzw10 := B.size
        clear hb
        go_wp2_with fail
        refine (of4_any _ ll _ (HT.out.go B) (HR.out.go B)).mono ?_
        rintro e w11 ⟨rfl, hb⟩
        replace HA := Lib.hid (HA.out.go hb)
        replace B := B.trans (hb.mono B.size)
        have hzw11 := B.size
        clear hb
        go_wp2_with fail
        refine (refsum_any _ (flat ll) _ HA.out).mono ?_
        rintro e w' ⟨rfl, rfl⟩
        go_wp2_with fail
        go_ret
        exact ⟨rfl, B⟩

theorem sumTells_walk (v0 : Value) (ll : List (List Nat)) (n : Nat) (v2 : Value) (l : List Nat) (w : World) (hR : IsRows w v0 ll) (hn : n < 4294967296) (hL : Bytes w v2 l) (hT : Tab w) :
    Calls Tryd.prog 3 #[v0, U32 n, v2] w (Yes w) := by
  by_cases hf : fewB ll = true
  · by_cases hl : l.length ≤ 100
    · exact sumTells_in v0 v2 ll l n w hT hR hL hn hf hl
    · have hR0 := hR
      obtain ⟨a0, c0, rfl, _⟩ := hR
      obtain ⟨a2, c2, rfl, _⟩ := hL
      exact sumTells_out a0 a2 _ _ c0 c2 ll n w hT hR0 (Or.inr ⟨hf, by omega⟩)
  · have hR0 := hR
    obtain ⟨a0, c0, rfl, _⟩ := hR
    obtain ⟨a2, c2, rfl, _⟩ := hL
    exact sumTells_out a0 a2 _ _ c0 c2 ll n w hT hR0 (Or.inl (by simpa using hf))

end Go.Proofs.YtgjjkiebfekkjaaDoor
