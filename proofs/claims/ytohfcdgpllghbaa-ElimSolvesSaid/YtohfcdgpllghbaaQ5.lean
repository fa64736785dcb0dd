/- Texts of one seat, laid together: GrowS, LibBytes, RefLess. -/
import Derived.Test.YtohfcdgpllghbaaQ3
import Derived.Laws.BytesArg
import Derived.Lib.SliceRun
import Derived.Test.YtohfcdgpllghbaaQ4

/-
  A slice of bytes to which a call appends many at once; a slice of slices to which it appends one.
-/
set_option maxRecDepth 100000
namespace Go.Proofs.Ytohfcdgpllghbaa
open Go.RowKit

theorem run_append_none {w : World} (t ty e : TypeId) (i : TypeInfo) (size base c : Nat) (ht : Try.prog.underlying t = some (.slice e)) (hi : Try.prog.info? e = some i)
    (v : Value) (n : Nat) (xs : List Value) (hown : w.ownsRow base e size v n xs) :
    (Builtin.append_ #[t, t] ty #[v, .slice none 0 c]).run Try.prog w = .ok v w := by
  rcases hown.2 with ⟨rfl, rfl⟩ | ⟨g, cap, cur, rfl, _, _, hnc, _⟩
  · simp [Builtin.append_, run_underlying ht, sizeOf, typeInfo, hi, Builtin.lenOf, Builtin.firstCells]
  · simp [Builtin.append_, run_underlying ht, sizeOf, typeInfo, hi, Builtin.lenOf, Builtin.firstCells, hnc, storeCells]

theorem wpList_append_none {w : World} {ops : Array Oper} {rest : List Oper} {o : Oper} {a : Act} {Q : Exit → Act → World → Prop} (hgd : o.guard = none) (s x : Operand) (t : TypeId)
    (ho : o.op = .call { callee := .builtin .append, args := #[s, x], argTypes := #[t, t] })
    (base : Nat) (e : TypeId) (i : TypeInfo) (size c : Nat) (ht : Try.prog.underlying t = some (.slice e)) (hi : Try.prog.info? e = some i)
    (v : Value) (n : Nat) (xs : List Value) (hs : a.eval s = v) (hown : w.ownsRow base e size v n xs) (hx : a.eval x = .slice none 0 c)
    (h : wpList Try.prog ops Q rest (a.put o.dst v) w) : wpList Try.prog ops Q (o :: rest) a w := by
  refine wpList_plain hgd fun K hK => ?_
  have hrun := run_append_none (w := w) t o.type e i size base c ht hi v n xs hown
  unfold Oper.wp
  simp [execOp, ho, resolve, invoke, builtin, hs, hx, hrun, Result.andThen]
  exact hK _ _ h

/-- 'append(out, x...)', of bytes. -/
theorem wpList_append_bytes {ops : Array Oper} {rest : List Oper} {o : Oper} {a : Act} {Q : Exit → Act → World → Prop} {w : World} (hgd : o.guard = none) (s x : Operand) (ho : o.op = .call { callee := .builtin .append, args := #[s, x], argTypes := #[35, 35] })
    (B : Nat) (v u : Value) (l r : List Nat) (hs : a.eval s = v) (hx : a.eval x = u) (hown : Owns w B v l) (hr : Bytes w u r) (hB : B ≤ w.heap.size) (hn : l.length + r.length ≤ 281474976710656 / 4)
    (h : ∀ v' w', Owns w' B v' (l ++ r) → w.grownBy w' v.ownBlock → wpList Try.prog ops Q rest (a.put o.dst v') w') :
    wpList Try.prog ops Q (o :: rest) a w := by
  obtain ⟨i0, hi, hz0, hz1, hz2⟩ := info_parts infoByte
  obtain ⟨a1, c1, rfl, h1, h2, h3, h4⟩ := hr
  cases a1 with
  | none =>
    cases r with
    | nil =>
      refine wpList_append_none hgd s x 35 ho B 5 i0 1 c1 Try.underlying35 hi v l.length (l.map U8) hs hown hx ?_
      exact h v w (by rw [List.append_nil]; exact hown) (grown_refl _ _)
    | cons y r =>
      obtain ⟨b, off, e, _⟩ := h4 (by simp)
      exact absurd e (by simp)
  | some ad =>
    refine wpList_append_own _ hgd s x 35 ho B 5 i0 (.int .u8 0) 1 1 Try.underlying35 hi hz0 hz1 hz2 rfl (by decide) v l.length (l.map U8) hs hown
      ad r.length c1 (r.map U8) hx (by simp) ?_ ?_ ?_ ?_ hB ?_
    · intro j y hj
      have hj' : j < r.length := by
        have := (List.getElem?_eq_some_iff.1 hj).1
        simpa using this
      obtain ⟨b, off, e, _, hc⟩ := h4 (by intro e; rw [e] at hj'; simp at hj')
      simp only [Option.some.injEq] at e
      subst e
      rw [show (⟨b, off, none⟩ : Addr).add j = ⟨b, off + j, none⟩ from by unfold Addr.add; split <;> simp_all, hc j hj', nth_eq r j hj']
      simp [hj'] at hj
      rw [← hj]
    · intro y hy
      obtain ⟨z, _, rfl⟩ := List.mem_map.1 hy
      rfl
    · unfold maxLen; omega
    · omega
    · intro v' w' g1 g2 _
      refine h v' w' ?_ g2
      unfold Owns
      simpa using g1

/-- The slice of a place: by a name of its own, so that the walk leaves it as it is. -/
def rowOf (us : List Value) (j : Nat) : Value := us.getD j (.slice none 0 0)

/-- The value is no slice of slices yet, or one whose block, from B on, the call made itself. -/
def OwnsS (w : World) (B : Nat) (v : Value) (us : List Value) : Prop := w.ownsRow B 35 1 v us.length us

theorem OwnsS.nil (w : World) (B : Nat) : OwnsS w B (.slice none 0 0) [] := World.ownsRow_nil _ _ _ _

theorem OwnsS.below {w w' : World} {B C : Nat} {v : Value} {us : List Value} (h : OwnsS w B v us) (hC : w.heap.size ≤ C) (hb : Below C w w') : OwnsS w' B v us :=
  h.kept (row := none) ⟨hb.os, hb.tape, hb.output, hb.size, fun k hk _ => hb.block k (by omega)⟩ (by cases hv : v.ownBlock <;> simp)

theorem OwnsS.from {w : World} {B : Nat} {v : Value} {us : List Value} (h : OwnsS w B v us) : ∀ k, v.ownBlock = some k → B ≤ k := fun k hk => (World.ownsRow.lt h k hk).1

theorem OwnsS.cell {w : World} {B : Nat} {v : Value} {us : List Value} (h : OwnsS w B v us) (k : Nat) (hk : k < us.length) : ∃ g c, v = .slice (some ⟨g, 0, none⟩) us.length c ∧ w.cell? ⟨g, k, none⟩ = some (rowOf us k) := by
  have h' := h
  rcases h'.2 with ⟨rfl, h0⟩ | ⟨g, cap, cur, rfl, hB, hg, hn, hc, hsz, ht⟩
  · omega
  · refine ⟨g, cap, rfl, ?_⟩
    have h1 := World.ownsRow.cells h (g := g) rfl k (rowOf us k) (by unfold rowOf; rw [List.getD_eq_getElem?_getD, List.getElem?_eq_getElem hk]; rfl)
    rw [show (⟨g, 0, none⟩ : Addr).add k = ⟨g, k, none⟩ from by unfold Addr.add; split <;> simp_all] at h1
    exact h1

/-- Blocks of bytes and blocks of slices aren't the same. -/
theorem owns_apart {w : World} {B C : Nat} {u v : Value} {l : List Nat} {us : List Value} (h : Owns w B u l) (k : OwnsS w C v us) : u.ownBlock = none ∨ u.ownBlock ≠ v.ownBlock := by
  rcases h.2 with ⟨rfl, _⟩ | ⟨g, cap, cur, rfl, _, hg, _⟩
  · left; rfl
  · right
    rcases k.2 with ⟨rfl, _⟩ | ⟨g', cap', cur', rfl, _, hg', _⟩
    · simp [Value.ownBlock]
    · simp only [Value.ownBlock, ne_eq, Option.some.injEq]
      intro e
      rw [e, hg'] at hg
      simp only [Option.some.injEq, Obj.cells.injEq] at hg
      exact absurd hg.2.1 (by decide)

theorem Owns.grown {w w' : World} {B : Nat} {v : Value} {l : List Nat} {row : Option Nat} (h : Owns w B v l) (hg : w.grownBy w' row) (hne : v.ownBlock = none ∨ v.ownBlock ≠ row) : Owns w' B v l := World.ownsRow.kept h hg hne

theorem infoRow : (Try.prog.info? 35).map (fun i => (i.zero, i.size, i.bytes)) = some (some (.slice none 0 0), 1, 24) := by kernel_rfl

/-- 'out = append(out, u)', of one slice. -/
theorem wpList_append_row {ops : Array Oper} {rest : List Oper} {o : Oper} {a : Act} {Q : Exit → Act → World → Prop} {w : World} (hgd : o.guard = none) (s x : Operand) (ho : o.op = .call { callee := .builtin .append, args := #[s, x], argTypes := #[22, 22] })
    (B k : Nat) (v u : Value) (us : List Value) (T : TypeId) (hs : a.eval s = v) (hx : a.eval x = .slice (some ⟨k, 0, none⟩) 1 1) (hk : k = w.heap.size) (hu : u.oneCell' = true) (hown : OwnsS w B v us) (hB : B ≤ w.heap.size) (hn : us.length + 1 ≤ 1000000000000)
    (h : ∀ v' w', OwnsS w' B v' (us ++ [u]) → w.grownBy w' v.ownBlock → wpList Try.prog ops Q rest (a.put o.dst v') w') :
    wpList Try.prog ops Q (o :: rest) a (w.alloc (.cells #[u] T)) := by
  subst hk
  obtain ⟨i0, hi, hz0, hz1, hz2⟩ := info_parts infoRow
  refine wpList_append_own _ hgd s x 22 ho B 35 i0 (.slice none 0 0) 1 24 Try.underlying22 hi hz0 hz1 hz2 rfl (by decide) v us.length us hs (World.ownsRow.alloc hown _)
    ⟨w.heap.size, 0, none⟩ 1 1 [u] hx rfl ?_ ?_ ?_ ?_ ?_ ?_
  · intro j y hj
    match j, hj with
    | 0, hj => simp at hj; subst hj; simp [Addr.add]
  · intro y hy; simp at hy; subst hy; exact hu
  · unfold maxLen; omega
  · omega
  · simp; omega
  · intro v' w' h1 h2 _
    refine h v' w' ?_ (grown_trans (World.grownBy_alloc w _ _) h2)
    unfold OwnsS
    simpa using h1

theorem Owns.one {w : World} {B : Nat} {v : Value} {l : List Nat} (h : Owns w B v l) : v.oneCell' = true := by
  rcases h.2 with ⟨rfl, _⟩ | ⟨g, cap, cur, rfl, _⟩ <;> rfl

theorem Owns.shape {w : World} {B : Nat} {v : Value} {l : List Nat} (h : Owns w B v l) : ∃ a n c, v = .slice a n c := by
  rcases h.2 with ⟨rfl, _⟩ | ⟨g, cap, cur, rfl, _⟩
  · exact ⟨_, _, _, rfl⟩
  · exact ⟨_, _, _, rfl⟩

/-- An empty slice over a new block. -/
theorem Owns.empty (w : World) (B : Nat) (hB : B ≤ w.heap.size) : Owns (w.alloc (.cells #[] 5)) B (.slice (some ⟨w.heap.size, 0, none⟩) 0 0) [] :=
  World.ownsRow_lit w #[] 0 hB (by decide) rfl

/-- The first rows, copied one by one. -/
structure Copied (w : World) (B : Nat) (v : Value) (us : List Value) (f : Nat → List Nat) : Prop where
  row : OwnsS w B v us
  each : ∀ j, j < us.length → Owns w B (rowOf us j) (f j)

theorem Copied.nil (w : World) (B : Nat) (f : Nat → List Nat) : Copied w B (.slice none 0 0) [] f := ⟨OwnsS.nil w B, fun j hj => by simp at hj⟩

theorem Copied.below {w w' : World} {B C : Nat} {v : Value} {us : List Value} {f : Nat → List Nat} (h : Copied w B v us f) (hC : w.heap.size ≤ C) (hb : Below C w w') : Copied w' B v us f :=
  ⟨h.row.below hC hb, fun j hj => (h.each j hj).below hC hb⟩

theorem Copied.fresh {w w' : World} {B : Nat} {v : Value} {us : List Value} {f : Nat → List Nat} (h : Copied w B v us f) (hg : w.grownBy w' (some w.heap.size)) : Copied w' B v us f := by
  refine ⟨World.ownsRow.kept h.row hg ?_, fun j hj => (h.each j hj).grown hg ?_⟩
  · cases hv : v.ownBlock with
    | none => left; rfl
    | some k => right; have := (World.ownsRow.lt h.row k hv).2; simp; omega
  · cases hv : (rowOf us j).ownBlock with
    | none => left; rfl
    | some k => right; have := (World.ownsRow.lt (h.each j hj) k hv).2; simp; omega

theorem Copied.more {w w' : World} {B : Nat} {v v' u : Value} {us : List Value} {f : Nat → List Nat} (h : Copied w B v us f) (hu : Owns w B u (f us.length)) (hr : OwnsS w' B v' (us ++ [u])) (hg : w.grownBy w' v.ownBlock) : Copied w' B v' (us ++ [u]) f := by
  refine ⟨hr, fun j hj => ?_⟩
  by_cases hlt : j < us.length
  · rw [show rowOf (us ++ [u]) j = rowOf us j from by unfold rowOf; rw [List.getD_eq_getElem?_getD, List.getElem?_append_left hlt, ← List.getD_eq_getElem?_getD]]
    exact (h.each j hlt).grown hg (owns_apart (h.each j hlt) h.row)
  · have e : j = us.length := by simp at hj; omega
    subst e
    rw [show rowOf (us ++ [u]) us.length = u from by unfold rowOf; rw [List.getD_eq_getElem?_getD, List.getElem?_append_right (Nat.le_refl _)]; simp]
    exact hu.grown hg (owns_apart hu h.row)

end Go.Proofs.Ytohfcdgpllghbaa

/-
  The library's Clone and Equal, of bytes.
-/
set_option maxRecDepth 100000
namespace Go.Proofs.Ytohfcdgpllghbaa
open Go.RowKit

/-- The bytes as a string's. -/
def strOf (l : List Nat) : ByteArray := strOfNums (l.map Int.ofNat)

theorem strOf_inj {x y : List Nat} (hx : ∀ z, z ∈ x → z < 256) (hy : ∀ z, z ∈ y → z < 256) (h : strOf x = strOf y) : x = y := by
  have e : ∀ l : List Nat, (∀ z, z ∈ l → z < 256) → (strOf l).data.toList.map UInt8.toNat = l := by
    intro l hl
    unfold strOf
    rw [strOfNums_data, List.map_map, List.map_map]
    conv => rhs; rw [← List.map_id l]
    refine List.map_congr_left fun z hz => ?_
    have := hl z hz
    simp [Nat.mod_eq_of_lt this]
  rw [← e x hx, ← e y hy, h]

theorem strOf_dec {x y : List Nat} (hx : ∀ z, z ∈ x → z < 256) (hy : ∀ z, z ∈ y → z < 256) : ((strOf x).toList == (strOf y).toList) = decide (x = y) := by
  rw [ByteArray.toList_eq, ByteArray.toList_eq]
  by_cases h : x = y
  · subst h; simp
  · rw [decide_eq_false h, beq_eq_false_iff_ne]
    refine fun e => h (strOf_inj hx hy ?_)
    cases hx' : strOf x; cases hy' : strOf y
    rw [hx', hy'] at e
    simpa using e

theorem convert_empty (w : World) (p : Option Addr) (c : Nat) : (convert 35 9 (.slice p 0 c)).run Try.prog w = .ok (.string ByteArray.empty) w := by
  rw [run_convert_bytes_string w 35 9 5 _ 0 c Try.underlying35 Try.underlying5 Try.underlying9]
  cases p <;> simp [Conv.bytesToString, loadCells]
  all_goals rfl

/-- 'string(b)'. -/
theorem convert_bytes {w : World} {v : Value} {l : List Nat} (h : Bytes w v l) : (convert 35 9 v).run Try.prog w = .ok (.string (strOf l)) w := by
  obtain ⟨a, cap, rfl, h1, h2, h3, h4⟩ := h
  cases l with
  | nil =>
    exact convert_empty w a cap
  | cons x l =>
    obtain ⟨b, off, rfl, hlt, hc⟩ := h4 (by simp)
    refine run_convert_bytes_arg (P := Try.prog) w 35 5 Try.underlying35 Try.underlying5 b off _ cap ((x :: l).map Int.ofNat) (by simp) (fun i hi => ?_) 9 Try.underlying9
    rw [hc i hi, nth_eq _ i hi]
    simp only [List.getD_eq_getElem?_getD, List.getElem?_map, List.getElem?_eq_getElem hi]
    rfl

set_option maxHeartbeats 400000 in
theorem equal_any (v0 v1 : Value) (x y : List Nat) (w : World) (h0 : Bytes w v0 x) (h1 : Bytes w v1 y) :
    Calls Try.prog 59 #[v0, v1] w fun e w' => e = .returned (.bool (decide (x = y))) ∧ w = w' := by
  have c0 := convert_bytes h0
  have c1 := convert_bytes h1
  have HD := Lib.hid (strOf_dec h0.lt h1.lt)
  obtain ⟨a0, k0, rfl, _⟩ := h0
  obtain ⟨a1, k1, rfl, _⟩ := h1
  go_enter Try.func59, Try.ntmps59
  go_wp2_with fail
  go_ret
  exact ⟨by rw [← HD.out]; rfl, rfl⟩

set_option maxHeartbeats 400000 in
theorem clone_nil (cap : Nat) (w : World) :
    Calls Try.prog 74 #[.slice none 0 cap] w (BytesV w []) := by
  have hq := Lib.run_eql_slice_nil (P := Try.prog) w 35 5 none 0 cap 0 0 Try.underlying35
  go_enter Try.func74, Try.ntmps74
  go_wp2_with fail
  go_ret
  exact ⟨_, rfl, ⟨none, 0, rfl, by simp, by simp, by simp, fun h => absurd rfl h⟩, Below.refl _ _⟩

set_option maxHeartbeats 400000 in
theorem clone_some (a : Addr) (cap : Nat) (l : List Nat) (w : World) (hm : l.length ≤ 1000000000) (hB : Bytes w (.slice (some a) l.length cap) l) :
    Calls Try.prog 74 #[.slice (some a) l.length cap] w (BytesV w l) := by
  have hq := Lib.run_eql_slice_nil (P := Try.prog) w 35 5 (some a) l.length cap 0 0 Try.underlying35
  have hbe : Below w.heap.size w (w.alloc (.cells #[] 5)) := (Below.refl _ _).alloc (Nat.le_refl _) _
  have HBE := Lib.hid (hB.go hbe)
  clear hB
  go_enter Try.func74, Try.ntmps74
  go_wp2_with (at_builtin; refine wpList_append_bytes rfl (.tmp 5) (.tmp 6) rfl w.heap.size _ _ [] l rfl rfl (Owns.empty w w.heap.size (Nat.le_refl _)) HBE.out ?c1 ?c2 ?_)
  case c1 => simp
  case c2 => simp; omega
  intro v3 w3 hown3 hgr3
  have hgr : w.grownBy w3 (some w.heap.size) := grown_trans (grown_of_below hbe _) hgr3
  have hbel : Below w.heap.size w w3 := (Below.refl _ _).grown hgr (Nat.le_refl _) (fun k e => by cases e; exact Nat.le_refl _)
  have HO3 := Lib.hid hown3
  have HB := Lib.hid HBE.out.lt
  obtain ⟨av, nv, cv, rfl⟩ := hown3.shape
  clear hown3 hgr3 hgr hbe HBE
  go_wp2_with fail
  go_ret
  exact ⟨_, rfl, HO3.out.bytes HB.out, hbel⟩

theorem clone_any (v : Value) (l : List Nat) (w : World) (hm : l.length ≤ 1000000000) (hB : Bytes w v l) :
    Calls Try.prog 74 #[v] w (BytesV w l) := by
  have hB0 := hB
  obtain ⟨a, cap, rfl, _, _, _, h4⟩ := hB
  cases a with
  | some a => exact clone_some a cap l w hm hB0
  | none =>
    cases l with
    | nil => exact clone_nil cap w
    | cons x l => obtain ⟨b, off, e, _⟩ := h4 (by simp); exact absurd e (by simp)

end Go.Proofs.Ytohfcdgpllghbaa

/-
  The document's answer for rows that lead (wellspringref03), in the program: 'Less'.
-/
set_option maxRecDepth 100000
namespace Go.Proofs.Ytohfcdgpllghbaa
open Go.RowKit

theorem add_comm (x y : List Nat) : Gf.add x y = Gf.add y x := by
  unfold Gf.add
  induction x generalizing y with
  | nil => cases y <;> rfl
  | cons a x ih =>
    cases y with
    | nil => rfl
    | cons b y => simp only [List.zipWith_cons_cons]; rw [ih y, Nat.xor_comm]

theorem less_E (c : Nat) (x y : List Nat) : combE [1, c] [x, y] = axpyE y x := by
  unfold combE axpyE
  have h : alikeB [x, y] = (y.length == x.length) := by simp [alikeB, rowAt]
  rw [h]
  by_cases hl : y.length = x.length
  · simp [hl]
  · rw [if_neg (by simp; omega), if_neg hl]

theorem less_L (c : Nat) (x y : List Nat) (hx : ∀ z, z ∈ x → z < 256) : combL [1, c] [x, y] = axpyL c y x := by
  rw [combL_eq]
  unfold axpyL
  have h : alikeB [x, y] = (y.length == x.length) := by simp [alikeB, rowAt]
  rw [h]
  by_cases hl : y.length = x.length
  · rw [if_pos (by simp [hl]), if_pos hl]
    have hr : (rowAt [x, y] 0).length = x.length := rfl
    have hs : (Gf.add (Gf.scale c y) x).length = x.length := by rw [Gf.add_length _ _ (by rw [Gf.scale_length]; exact hl), Gf.scale_length, hl]
    refine ext_nth (by rw [combT_length, hs, hr]) fun j hj => ?_
    rw [combT_length, hr] at hj
    rw [nth_add _ _ _ (by rw [Gf.scale_length]; omega) hj, nth_scale c y j (by omega), nth_eq _ _ (by rw [combT_length, hr]; exact hj)]
    simp only [combT, List.getElem_map, List.getElem_range]
    show (0 ^^^ Gf.mul (nth [1, c] 0) (nth (rowAt [x, y] 0) j)) ^^^ Gf.mul (nth [1, c] 1) (nth (rowAt [x, y] 1) j) = _
    rw [show nth [1, c] 0 = 1 from rfl, show nth [1, c] 1 = c from rfl, show rowAt [x, y] 0 = x from rfl, show rowAt [x, y] 1 = y from rfl, Nat.zero_xor, Gf.one_mul (nth_lt hx j), Nat.xor_comm]
  · rw [if_neg (by simp; omega), if_neg hl]

/-- What Less answers: the error's number, and each part. -/
def lessE (p q p' q' : List Nat) : Int := if p'.length = p.length ∧ q'.length = q.length then 0 else 4
def lessV (c : Nat) (p q p' q' : List Nat) : List Nat := if p'.length = p.length ∧ q'.length = q.length then Gf.add (Gf.scale c p') p else []
def lessD (c : Nat) (p q p' q' : List Nat) : List Nat := if p'.length = p.length ∧ q'.length = q.length then Gf.add (Gf.scale c q') q else []

theorem bytes_one_c (w : World) (c : Nat) (T : TypeId) (k : Nat) (hk : k = w.heap.size) (hc : c < 256) :
    Bytes (w.alloc (.cells #[.int .u8 1, U8 c] T)) (.slice (some ⟨k, 0, none⟩) 2 2) [1, c] := bytes_new2 w 1 c 1 c T k hk rfl rfl (by omega) hc

/-- A combination of two rows by 1 and c, out of new slices. -/
theorem refcomb_pair (c : Nat) (u0 u1 : Value) (x y : List Nat) (w : World) (k0 k : Nat) (hk0 : k0 = w.heap.size) (hk : k = w.heap.size + 1) (hc : c < 256) (hx : Bytes w u0 x) (hy : Bytes w u1 y) (hm : x.length ≤ 10000000) :
    Calls Try.prog 92 #[.slice (some ⟨k0, 0, none⟩) 2 2, .slice (some ⟨k, 0, none⟩) 2 2] ((w.alloc (.cells #[.int .u8 1, U8 c] 5)).alloc (.cells #[u0, u1] 35)) fun e w' =>
      BytesE w (axpyL c y x) (axpyE y x) e w' := by
  subst hk0
  subst hk
  have e1 : Below w.heap.size w (w.alloc (.cells #[.int .u8 1, U8 c] 5)) := (Below.refl _ _).alloc (Nat.le_refl _) _
  have e2 : Below (w.alloc (.cells #[.int .u8 1, U8 c] 5)).heap.size (w.alloc (.cells #[.int .u8 1, U8 c] 5)) ((w.alloc (.cells #[.int .u8 1, U8 c] 5)).alloc (.cells #[u0, u1] 35)) := (Below.refl _ _).alloc (Nat.le_refl _) _
  have hC := (bytes_one_c w c 5 _ rfl hc).below (Nat.le_refl _) e2
  have hR := rows_new2 (w.alloc (.cells #[.int .u8 1, U8 c] 5)) u0 u1 x y 35 (w.heap.size + 1) (by simp) (hx.below (Nat.le_refl _) e1) (hy.below (Nat.le_refl _) e1)
  refine (refcomb_b _ _ _ _ _ (by show x.length ≤ 10000000; omega) hC hR).mono ?_
  rintro e w' ⟨v, he, hv, hb⟩
  rw [less_E] at he
  rw [less_L c x y hx.lt] at hv
  exact ⟨v, he, hv, (e1.alloc (by simp) _).trans (hb.mono (by simp; omega))⟩

/-- Three boxes, one behind the other. -/
theorem three_blocks (w : World) (c1 c2 c3 : Array Value) (T : TypeId) : Below w.heap.size w (((w.alloc (.cells c1 T)).alloc (.cells c2 T)).alloc (.cells c3 T)) ∧
    Blk (((w.alloc (.cells c1 T)).alloc (.cells c2 T)).alloc (.cells c3 T)) w.heap.size c1 T ∧ Blk (((w.alloc (.cells c1 T)).alloc (.cells c2 T)).alloc (.cells c3 T)) (w.heap.size + 1) c2 T ∧
    Blk (((w.alloc (.cells c1 T)).alloc (.cells c2 T)).alloc (.cells c3 T)) (w.heap.size + 1 + 1) c3 T ∧ (((w.alloc (.cells c1 T)).alloc (.cells c2 T)).alloc (.cells c3 T)).heap.size = w.heap.size + 1 + 1 + 1 :=
  ⟨(two_blocks w _ _).alloc (by simp; omega) _, ((Blk.new w c1 T _ rfl).alloc _).alloc _, (Blk.new _ c2 T _ (by simp)).alloc _, Blk.new _ c3 T _ (by simp), by simp⟩

set_option maxHeartbeats 2000000 in
theorem refless_all (c : Nat) (a0 a1 a2 a3 : Option Addr) (n0 n1 n2 n3 c0 c1 c2 c3 : Nat) (p q p' q' : List Nat) (w : World) (hc : c < 256) (hlp : p.length ≤ 10000000) (hlq : q.length ≤ 10000000)
    (h0 : Bytes w (.slice a0 n0 c0) p) (h1 : Bytes w (.slice a1 n1 c1) q) (h2 : Bytes w (.slice a2 n2 c2) p') (h3 : Bytes w (.slice a3 n3 c3) q') (t : Bool)
    (ht : (t = true ∧ p'.length = p.length ∧ q'.length = q.length) ∨ (t = false ∧ ¬ (p'.length = p.length ∧ q'.length = q.length))) :
    Calls Try.prog 70 #[.agg #[.slice a0 n0 c0, .slice a1 n1 c1], U8 c, .agg #[.slice a2 n2 c2, .slice a3 n3 c3]] w (RowsE w (lessV c p q p' q') (lessD c p q p' q') (lessE p q p' q')) := by
  have H0 := Lib.hid h0
  have H1 := Lib.hid h1
  have H2 := Lib.hid h2
  have H3 := Lib.hid h3
  have HT := Lib.hid ht
  clear h0 h1 h2 h3 ht
  go_enter Try.func70, Try.ntmps70
  go_wp2_with fail
  obtain ⟨B3, K1, K2, K3, hs⟩ := three_blocks w #[.slice a0 n0 c0, .slice a1 n1 c1] #[.slice a2 n2 c2, .slice a3 n3 c3] #[.slice none 0 0, .slice none 0 0] 68
  generalize (((w.alloc (.cells #[.slice a0 n0 c0, .slice a1 n1 c1] 68)).alloc (.cells #[.slice a2 n2 c2, .slice a3 n3 c3] 68)).alloc (.cells #[.slice none 0 0, .slice none 0 0] 68)) = W3 at *
  have HS := Lib.hid hs
  have hz3 := B3.size
  clear hs
  refine (refcomb_pair c _ _ p p' W3 _ _ (by rw [HS.out]) (by rw [HS.out]) hc (H0.out.below (Nat.le_refl _) B3) (H2.out.below (Nat.le_refl _) B3) hlp).mono ?_
  rintro e w4 ⟨v4, rfl, hv4, hb4⟩
  have HV4 := Lib.hid hv4
  have B4 := B3.trans (hb4.mono hz3)
  have hz4 := B4.size
  have hx1 : w4.cell? ⟨w.heap.size, 1, none⟩ = some (.slice a1 n1 c1) := (K1.same hb4).cell 1
  have hy1 : w4.cell? ⟨w.heap.size + 1, 1, none⟩ = some (.slice a3 n3 c3) := (K2.same hb4).cell 1
  have HK4 := Lib.hid (K3.same hb4)
  have hz44 := hb4.size
  have hq3 : w.heap.size + 1 + 1 + 1 = W3.heap.size := HS.out.symm
  have hl4 : w.heap.size < w4.heap.size := by omega
  have hl41 : w.heap.size + 1 < w4.heap.size := by omega
  have hl42 : w.heap.size + 1 + 1 < w4.heap.size := by omega
  clear hv4 K1 K2 K3
  go_wp2_with fail
  refine (refcomb_pair c _ _ q q' w4 _ _ rfl rfl hc (H1.out.below (Nat.le_refl _) B4) (H3.out.below (Nat.le_refl _) B4) hlq).mono ?_
  rintro e w5 ⟨v5, rfl, hv5, hb5⟩
  have HV5 := Lib.hid hv5
  have HV4' := Lib.hid (HV4.out.below (Nat.le_refl _) hb5)
  have B5 := B4.trans (hb5.mono hz4)
  have HK5 := Lib.hid (HK4.out.same hb5)
  have hr0 : w5.cell? ⟨w.heap.size + 1 + 1, 0, none⟩ = some (.slice none 0 0) := HK5.out.cell 0
  have hr1 : w5.cell? ⟨w.heap.size + 1 + 1, 1, none⟩ = some (.slice none 0 0) := HK5.out.cell 1
  have hf0 := HK5.out.free 0
  have hf1 := HK5.out.free 1
  obtain ⟨a4, c4, rfl, _⟩ := HV4.out
  obtain ⟨a5, c5, rfl, _⟩ := hv5
  have N5 := no_bytes2 (.slice none 0 0) (.slice none 0 0) (fun n e => by cases e) (fun n e => by cases e)
  rcases HT.out with ⟨rfl, hl1, hl2⟩ | ⟨rfl, hl⟩
  · have L1 := Lib.hid (show axpyL c p' p = lessV c p q p' q' by unfold axpyL lessV; rw [if_pos hl1, if_pos ⟨hl1, hl2⟩])
    have L2 := Lib.hid (show axpyL c q' q = lessD c p q p' q' by unfold axpyL lessD; rw [if_pos hl2, if_pos ⟨hl1, hl2⟩])
    have E1 := Lib.hid (show axpyE p' p = 0 from if_pos hl1)
    have E2 := Lib.hid (show axpyE q' q = 0 from if_pos hl2)
    have E3 := Lib.hid (show lessE p q p' q' = 0 from if_pos ⟨hl1, hl2⟩)
    clear hl1 hl2
    rw [E1.out, E2.out]
    go_wp2_with fail
    have HK6 := HK5.out.set2 (.slice a4 (axpyL c p' p).length c4) (.slice a5 (axpyL c q' q).length c5)
    have e0 := HK6.cell 0
    have e1 := HK6.cell 1
    have G6 : w5.grownBy ((w5.setCell ⟨w.heap.size + 1 + 1, 0, none⟩ (.slice a4 (axpyL c p' p).length c4)).setCell ⟨w.heap.size + 1 + 1, 1, none⟩ (.slice a5 (axpyL c q' q).length c5)) (some (w.heap.size + 1 + 1)) := grown_trans (grown_setCell _ ⟨_, _, _⟩ _) (grown_setCell _ ⟨_, _, _⟩ _)
    rw [E3.out, ← L1.out, ← L2.out]
    exact bodyPost_ret (v := .tuple #[.agg #[.slice a4 (axpyL c p' p).length c4, .slice a5 (axpyL c q' q).length c5], I64 0]) (by simp [results, Try.results70, go_sem, e0, e1]) rfl
      ⟨_, rfl, ⟨_, _, rfl, HV4'.out.other HK5.out N5 G6, HV5.out.other HK5.out N5 G6⟩, (B5.setCell (by show w.heap.size ≤ w.heap.size + 1 + 1; omega) _).setCell (by show w.heap.size ≤ w.heap.size + 1 + 1; omega) _⟩
  · have L1 := Lib.hid (show lessV c p q p' q' = [] from if_neg hl)
    have L2 := Lib.hid (show lessD c p q p' q' = [] from if_neg hl)
    have E3 := Lib.hid (show lessE p q p' q' = 4 from if_neg hl)
    have fin : ∀ W : World, w5.grownBy W (some (w.heap.size + 1 + 1)) → Below w.heap.size w W → RowsE w (lessV c p q p' q') (lessD c p q p' q') (lessE p q p' q') (.returned (.tuple #[.agg #[.slice none 0 0, .slice none 0 0], I64 4])) W := by
      intro W _ hB
      rw [E3.out, L1.out, L2.out]
      exact ⟨_, rfl, ⟨_, _, rfl, Bytes.nil _, Bytes.nil _⟩, hB⟩
    have HFIN := Lib.hid fin
    have HK6 := HK5.out.set2 (.slice none 0 0) (.slice none 0 0)
    have e0 := Lib.hid (HK6.cell 0)
    have e1 := Lib.hid (HK6.cell 1)
    clear fin HK6
    by_cases hl1 : p'.length = p.length
    · have hl2 : ¬ q'.length = q.length := fun h => hl ⟨hl1, h⟩
      have E1 := Lib.hid (show axpyE p' p = 0 from if_pos hl1)
      have E2 := Lib.hid (show axpyE q' q = 4 from if_neg hl2)
      clear hl hl1 hl2
      rw [E1.out, E2.out]
      go_wp2_with fail
      have e0' := e0.out
      have e1' := e1.out
      exact bodyPost_ret (v := .tuple #[.agg #[.slice none 0 0, .slice none 0 0], I64 4]) (by simp [results, Try.results70, go_sem, e0', e1']) rfl
        (HFIN.out _ (grown_trans (grown_setCell _ ⟨_, _, _⟩ _) (grown_setCell _ ⟨_, _, _⟩ _)) ((B5.setCell (by show w.heap.size ≤ w.heap.size + 1 + 1; omega) _).setCell (by show w.heap.size ≤ w.heap.size + 1 + 1; omega) _))
    · have E1 := Lib.hid (show axpyE p' p = 4 from if_neg hl1)
      clear hl hl1
      rw [E1.out]
      go_wp2_with fail
      have e0' := e0.out
      have e1' := e1.out
      exact bodyPost_ret (v := .tuple #[.agg #[.slice none 0 0, .slice none 0 0], I64 4]) (by simp [results, Try.results70, go_sem, e0', e1']) rfl
        (HFIN.out _ (grown_trans (grown_setCell _ ⟨_, _, _⟩ _) (grown_setCell _ ⟨_, _, _⟩ _)) ((B5.setCell (by show w.heap.size ≤ w.heap.size + 1 + 1; omega) _).setCell (by show w.heap.size ≤ w.heap.size + 1 + 1; omega) _))

end Go.Proofs.Ytohfcdgpllghbaa
