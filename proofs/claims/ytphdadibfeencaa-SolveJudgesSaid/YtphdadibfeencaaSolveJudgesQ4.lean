/- Texts of one seat, laid together: RefLess, GrowS, Soft. -/
import Derived.Test.YtphdadibfeencaaSolveJudgesQ3
import Derived.Test.YtphdadibfeencaaSolveJudgesQ2

/-
  The document's answer for rows that lead (wellspringref03), in the program: 'Less'.
-/
set_option maxRecDepth 100000
namespace Go.Proofs.Ytphdadibfeencaa
open Go.RowKit

theorem add_comm (x y : List Nat) : Gf.add x y = Gf.add y x := by
  unfold Gf.add
  induction x generalizing y with
  | nil => cases y <;> rfl
  | cons a x ih =>
    cases y with
    | nil => rfl
    | cons b y => simp only [List.zipWith_cons_cons]; rw [ih y, Nat.xor_comm]

theorem less_E (c : Nat) (x y : List Nat) : combE [1, c] [x, y] = axpyE y x := by
  unfold combE axpyE
  have h : alikeB [x, y] = (y.length == x.length) := by simp [alikeB, rowAt]
  rw [h]
  by_cases hl : y.length = x.length
  · simp [hl]
  · rw [if_neg (by simp; omega), if_neg hl]

theorem less_L (c : Nat) (x y : List Nat) (hx : ∀ z, z ∈ x → z < 256) : combL [1, c] [x, y] = axpyL c y x := by
  rw [combL_eq]
  unfold axpyL
  have h : alikeB [x, y] = (y.length == x.length) := by simp [alikeB, rowAt]
  rw [h]
  by_cases hl : y.length = x.length
  · rw [if_pos (by simp [hl]), if_pos hl]
    have hr : (rowAt [x, y] 0).length = x.length := rfl
    have hs : (Gf.add (Gf.scale c y) x).length = x.length := by rw [Gf.add_length _ _ (by rw [Gf.scale_length]; exact hl), Gf.scale_length, hl]
    refine ext_nth (by rw [combT_length, hs, hr]) fun j hj => ?_
    rw [combT_length, hr] at hj
    rw [nth_add _ _ _ (by rw [Gf.scale_length]; omega) hj, nth_scale c y j (by omega), nth_eq _ _ (by rw [combT_length, hr]; exact hj)]
    simp only [combT, List.getElem_map, List.getElem_range]
    show (0 ^^^ Gf.mul (nth [1, c] 0) (nth (rowAt [x, y] 0) j)) ^^^ Gf.mul (nth [1, c] 1) (nth (rowAt [x, y] 1) j) = _
    rw [show nth [1, c] 0 = 1 from rfl, show nth [1, c] 1 = c from rfl, show rowAt [x, y] 0 = x from rfl, show rowAt [x, y] 1 = y from rfl, Nat.zero_xor, Gf.one_mul (nth_lt hx j), Nat.xor_comm]
  · rw [if_neg (by simp; omega), if_neg hl]

/-- What Less answers: the error's number, and each part. -/
def lessE (p q p' q' : List Nat) : Int := if p'.length = p.length ∧ q'.length = q.length then 0 else 4
def lessV (c : Nat) (p q p' q' : List Nat) : List Nat := if p'.length = p.length ∧ q'.length = q.length then Gf.add (Gf.scale c p') p else []
def lessD (c : Nat) (p q p' q' : List Nat) : List Nat := if p'.length = p.length ∧ q'.length = q.length then Gf.add (Gf.scale c q') q else []

theorem bytes_one_c (w : World) (c : Nat) (T : TypeId) (k : Nat) (hk : k = w.heap.size) (hc : c < 256) :
    Bytes (w.alloc (.cells #[.int .u8 1, U8 c] T)) (.slice (some ⟨k, 0, none⟩) 2 2) [1, c] := bytes_new2 w 1 c 1 c T k hk rfl rfl (by omega) hc

/-- A combination of two rows by 1 and c, out of new slices. -/
theorem refcomb_pair (c : Nat) (u0 u1 : Value) (x y : List Nat) (w : World) (k0 k : Nat) (hk0 : k0 = w.heap.size) (hk : k = w.heap.size + 1) (hc : c < 256) (hx : Bytes w u0 x) (hy : Bytes w u1 y) (hm : x.length ≤ 10000000) :
    Calls Try.prog 97 #[.slice (some ⟨k0, 0, none⟩) 2 2, .slice (some ⟨k, 0, none⟩) 2 2] ((w.alloc (.cells #[.int .u8 1, U8 c] 5)).alloc (.cells #[u0, u1] 40)) fun e w' =>
      BytesE w (axpyL c y x) (axpyE y x) e w' := by
  subst hk0
  subst hk
  have e1 : Below w.heap.size w (w.alloc (.cells #[.int .u8 1, U8 c] 5)) := (Below.refl _ _).alloc (Nat.le_refl _) _
  have e2 : Below (w.alloc (.cells #[.int .u8 1, U8 c] 5)).heap.size (w.alloc (.cells #[.int .u8 1, U8 c] 5)) ((w.alloc (.cells #[.int .u8 1, U8 c] 5)).alloc (.cells #[u0, u1] 40)) := (Below.refl _ _).alloc (Nat.le_refl _) _
  have hC := (bytes_one_c w c 5 _ rfl hc).below (Nat.le_refl _) e2
  have hR := rows_new2 (w.alloc (.cells #[.int .u8 1, U8 c] 5)) u0 u1 x y 40 (w.heap.size + 1) (by simp) (hx.below (Nat.le_refl _) e1) (hy.below (Nat.le_refl _) e1)
  refine (refcomb_b _ _ _ _ _ (by show x.length ≤ 10000000; omega) hC hR).mono ?_
  rintro e w' ⟨v, he, hv, hb⟩
  rw [less_E] at he
  rw [less_L c x y hx.lt] at hv
  exact ⟨v, he, hv, (e1.alloc (by simp) _).trans (hb.mono (by simp; omega))⟩

/-- Three boxes, one behind the other. -/
theorem three_blocks (w : World) (c1 c2 c3 : Array Value) (T : TypeId) : Below w.heap.size w (((w.alloc (.cells c1 T)).alloc (.cells c2 T)).alloc (.cells c3 T)) ∧
    Blk (((w.alloc (.cells c1 T)).alloc (.cells c2 T)).alloc (.cells c3 T)) w.heap.size c1 T ∧ Blk (((w.alloc (.cells c1 T)).alloc (.cells c2 T)).alloc (.cells c3 T)) (w.heap.size + 1) c2 T ∧
    Blk (((w.alloc (.cells c1 T)).alloc (.cells c2 T)).alloc (.cells c3 T)) (w.heap.size + 1 + 1) c3 T ∧ (((w.alloc (.cells c1 T)).alloc (.cells c2 T)).alloc (.cells c3 T)).heap.size = w.heap.size + 1 + 1 + 1 :=
  ⟨(two_blocks w _ _).alloc (by simp; omega) _, ((Blk.new w c1 T _ rfl).alloc _).alloc _, (Blk.new _ c2 T _ (by simp)).alloc _, Blk.new _ c3 T _ (by simp), by simp⟩

set_option maxHeartbeats 2000000 in
theorem refless_all (c : Nat) (a0 a1 a2 a3 : Option Addr) (n0 n1 n2 n3 c0 c1 c2 c3 : Nat) (p q p' q' : List Nat) (w : World) (hc : c < 256) (hlp : p.length ≤ 10000000) (hlq : q.length ≤ 10000000)
    (h0 : Bytes w (.slice a0 n0 c0) p) (h1 : Bytes w (.slice a1 n1 c1) q) (h2 : Bytes w (.slice a2 n2 c2) p') (h3 : Bytes w (.slice a3 n3 c3) q') (t : Bool)
    (ht : (t = true ∧ p'.length = p.length ∧ q'.length = q.length) ∨ (t = false ∧ ¬ (p'.length = p.length ∧ q'.length = q.length))) :
    Calls Try.prog 89 #[.agg #[.slice a0 n0 c0, .slice a1 n1 c1], U8 c, .agg #[.slice a2 n2 c2, .slice a3 n3 c3]] w (RowsE w (lessV c p q p' q') (lessD c p q p' q') (lessE p q p' q')) := by
  have H0 := Lib.hid h0
  have H1 := Lib.hid h1
  have H2 := Lib.hid h2
  have H3 := Lib.hid h3
  have HT := Lib.hid ht
  clear h0 h1 h2 h3 ht
  go_enter Try.func89, Try.ntmps89
  go_wp2_with fail
  obtain ⟨B3, K1, K2, K3, hs⟩ := three_blocks w #[.slice a0 n0 c0, .slice a1 n1 c1] #[.slice a2 n2 c2, .slice a3 n3 c3] #[.slice none 0 0, .slice none 0 0] 62
  generalize (((w.alloc (.cells #[.slice a0 n0 c0, .slice a1 n1 c1] 62)).alloc (.cells #[.slice a2 n2 c2, .slice a3 n3 c3] 62)).alloc (.cells #[.slice none 0 0, .slice none 0 0] 62)) = W3 at *
  have HS := Lib.hid hs
  have hz3 := B3.size
  clear hs
  refine (refcomb_pair c _ _ p p' W3 _ _ (by rw [HS.out]) (by rw [HS.out]) hc (H0.out.below (Nat.le_refl _) B3) (H2.out.below (Nat.le_refl _) B3) hlp).mono ?_
  rintro e w4 ⟨v4, rfl, hv4, hb4⟩
  have HV4 := Lib.hid hv4
  have B4 := B3.trans (hb4.mono hz3)
  have hz4 := B4.size
  have hx1 : w4.cell? ⟨w.heap.size, 1, none⟩ = some (.slice a1 n1 c1) := (K1.same hb4).cell 1
  have hy1 : w4.cell? ⟨w.heap.size + 1, 1, none⟩ = some (.slice a3 n3 c3) := (K2.same hb4).cell 1
  have HK4 := Lib.hid (K3.same hb4)
  have hz44 := hb4.size
  have hq3 : w.heap.size + 1 + 1 + 1 = W3.heap.size := HS.out.symm
  have hl4 : w.heap.size < w4.heap.size := by omega
  have hl41 : w.heap.size + 1 < w4.heap.size := by omega
  have hl42 : w.heap.size + 1 + 1 < w4.heap.size := by omega
  clear hv4 K1 K2 K3
  go_wp2_with fail
  refine (refcomb_pair c _ _ q q' w4 _ _ rfl rfl hc (H1.out.below (Nat.le_refl _) B4) (H3.out.below (Nat.le_refl _) B4) hlq).mono ?_
  rintro e w5 ⟨v5, rfl, hv5, hb5⟩
  have HV5 := Lib.hid hv5
  have HV4' := Lib.hid (HV4.out.below (Nat.le_refl _) hb5)
  have B5 := B4.trans (hb5.mono hz4)
  have HK5 := Lib.hid (HK4.out.same hb5)
  have hr0 : w5.cell? ⟨w.heap.size + 1 + 1, 0, none⟩ = some (.slice none 0 0) := HK5.out.cell 0
  have hr1 : w5.cell? ⟨w.heap.size + 1 + 1, 1, none⟩ = some (.slice none 0 0) := HK5.out.cell 1
  have hf0 := HK5.out.free 0
  have hf1 := HK5.out.free 1
  obtain ⟨a4, c4, rfl, _⟩ := HV4.out
  obtain ⟨a5, c5, rfl, _⟩ := hv5
  have N5 := no_bytes2 (.slice none 0 0) (.slice none 0 0) (fun n e => by cases e) (fun n e => by cases e)
  rcases HT.out with ⟨rfl, hl1, hl2⟩ | ⟨rfl, hl⟩
  · have L1 := Lib.hid (show axpyL c p' p = lessV c p q p' q' by unfold axpyL lessV; rw [if_pos hl1, if_pos ⟨hl1, hl2⟩])
    have L2 := Lib.hid (show axpyL c q' q = lessD c p q p' q' by unfold axpyL lessD; rw [if_pos hl2, if_pos ⟨hl1, hl2⟩])
    have E1 := Lib.hid (show axpyE p' p = 0 from if_pos hl1)
    have E2 := Lib.hid (show axpyE q' q = 0 from if_pos hl2)
    have E3 := Lib.hid (show lessE p q p' q' = 0 from if_pos ⟨hl1, hl2⟩)
    clear hl1 hl2
    rw [E1.out, E2.out]
    go_wp2_with fail
    have HK6 := HK5.out.set2 (.slice a4 (axpyL c p' p).length c4) (.slice a5 (axpyL c q' q).length c5)
    have e0 := HK6.cell 0
    have e1 := HK6.cell 1
    have G6 : w5.grownBy ((w5.setCell ⟨w.heap.size + 1 + 1, 0, none⟩ (.slice a4 (axpyL c p' p).length c4)).setCell ⟨w.heap.size + 1 + 1, 1, none⟩ (.slice a5 (axpyL c q' q).length c5)) (some (w.heap.size + 1 + 1)) := grown_trans (grown_setCell _ ⟨_, _, _⟩ _) (grown_setCell _ ⟨_, _, _⟩ _)
    rw [E3.out, ← L1.out, ← L2.out]
    exact bodyPost_ret (v := .tuple #[.agg #[.slice a4 (axpyL c p' p).length c4, .slice a5 (axpyL c q' q).length c5], I64 0]) (by simp [results, Try.results89, go_sem, e0, e1]) rfl
      ⟨_, rfl, ⟨_, _, rfl, HV4'.out.other HK5.out N5 G6, HV5.out.other HK5.out N5 G6⟩, (B5.setCell (by show w.heap.size ≤ w.heap.size + 1 + 1; omega) _).setCell (by show w.heap.size ≤ w.heap.size + 1 + 1; omega) _⟩
  · have L1 := Lib.hid (show lessV c p q p' q' = [] from if_neg hl)
    have L2 := Lib.hid (show lessD c p q p' q' = [] from if_neg hl)
    have E3 := Lib.hid (show lessE p q p' q' = 4 from if_neg hl)
    have fin : ∀ W : World, w5.grownBy W (some (w.heap.size + 1 + 1)) → Below w.heap.size w W → RowsE w (lessV c p q p' q') (lessD c p q p' q') (lessE p q p' q') (.returned (.tuple #[.agg #[.slice none 0 0, .slice none 0 0], I64 4])) W := by
      intro W _ hB
      rw [E3.out, L1.out, L2.out]
      exact ⟨_, rfl, ⟨_, _, rfl, Bytes.nil _, Bytes.nil _⟩, hB⟩
    have HFIN := Lib.hid fin
    have HK6 := HK5.out.set2 (.slice none 0 0) (.slice none 0 0)
    have e0 := Lib.hid (HK6.cell 0)
    have e1 := Lib.hid (HK6.cell 1)
    clear fin HK6
    by_cases hl1 : p'.length = p.length
    · have hl2 : ¬ q'.length = q.length := fun h => hl ⟨hl1, h⟩
      have E1 := Lib.hid (show axpyE p' p = 0 from if_pos hl1)
      have E2 := Lib.hid (show axpyE q' q = 4 from if_neg hl2)
      clear hl hl1 hl2
      rw [E1.out, E2.out]
      go_wp2_with fail
      have e0' := e0.out
      have e1' := e1.out
      exact bodyPost_ret (v := .tuple #[.agg #[.slice none 0 0, .slice none 0 0], I64 4]) (by simp [results, Try.results89, go_sem, e0', e1']) rfl
        (HFIN.out _ (grown_trans (grown_setCell _ ⟨_, _, _⟩ _) (grown_setCell _ ⟨_, _, _⟩ _)) ((B5.setCell (by show w.heap.size ≤ w.heap.size + 1 + 1; omega) _).setCell (by show w.heap.size ≤ w.heap.size + 1 + 1; omega) _))
    · have E1 := Lib.hid (show axpyE p' p = 4 from if_neg hl1)
      clear hl hl1
      rw [E1.out]
      go_wp2_with fail
      have e0' := e0.out
      have e1' := e1.out
      exact bodyPost_ret (v := .tuple #[.agg #[.slice none 0 0, .slice none 0 0], I64 4]) (by simp [results, Try.results89, go_sem, e0', e1']) rfl
        (HFIN.out _ (grown_trans (grown_setCell _ ⟨_, _, _⟩ _) (grown_setCell _ ⟨_, _, _⟩ _)) ((B5.setCell (by show w.heap.size ≤ w.heap.size + 1 + 1; omega) _).setCell (by show w.heap.size ≤ w.heap.size + 1 + 1; omega) _))

end Go.Proofs.Ytphdadibfeencaa

/-
  A slice of bytes to which a call appends many at once; a slice of slices to which it appends one.
-/
set_option maxRecDepth 100000
namespace Go.Proofs.Ytphdadibfeencaa
open Go.RowKit

theorem run_append_none {w : World} (t ty e : TypeId) (i : TypeInfo) (size base c : Nat) (ht : Try.prog.underlying t = some (.slice e)) (hi : Try.prog.info? e = some i)
    (v : Value) (n : Nat) (xs : List Value) (hown : w.ownsRow base e size v n xs) :
    (Builtin.append_ #[t, t] ty #[v, .slice none 0 c]).run Try.prog w = .ok v w := by
  rcases hown.2 with ⟨rfl, rfl⟩ | ⟨g, cap, cur, rfl, _, _, hnc, _⟩
  · simp [Builtin.append_, run_underlying ht, sizeOf, typeInfo, hi, Builtin.lenOf, Builtin.firstCells]
  · simp [Builtin.append_, run_underlying ht, sizeOf, typeInfo, hi, Builtin.lenOf, Builtin.firstCells, hnc, storeCells]

theorem wpList_append_none {w : World} {ops : Array Oper} {rest : List Oper} {o : Oper} {a : Act} {Q : Exit → Act → World → Prop} (hgd : o.guard = none) (s x : Operand) (t : TypeId)
    (ho : o.op = .call { callee := .builtin .append, args := #[s, x], argTypes := #[t, t] })
    (base : Nat) (e : TypeId) (i : TypeInfo) (size c : Nat) (ht : Try.prog.underlying t = some (.slice e)) (hi : Try.prog.info? e = some i)
    (v : Value) (n : Nat) (xs : List Value) (hs : a.eval s = v) (hown : w.ownsRow base e size v n xs) (hx : a.eval x = .slice none 0 c)
    (h : wpList Try.prog ops Q rest (a.put o.dst v) w) : wpList Try.prog ops Q (o :: rest) a w := by
  refine wpList_plain hgd fun K hK => ?_
  have hrun := run_append_none (w := w) t o.type e i size base c ht hi v n xs hown
  unfold Oper.wp
  simp [execOp, ho, resolve, invoke, builtin, hs, hx, hrun, Result.andThen]
  exact hK _ _ h

/-- 'append(out, x...)', of bytes. -/
theorem wpList_append_bytes {ops : Array Oper} {rest : List Oper} {o : Oper} {a : Act} {Q : Exit → Act → World → Prop} {w : World} (hgd : o.guard = none) (s x : Operand) (ho : o.op = .call { callee := .builtin .append, args := #[s, x], argTypes := #[40, 40] })
    (B : Nat) (v u : Value) (l r : List Nat) (hs : a.eval s = v) (hx : a.eval x = u) (hown : Owns w B v l) (hr : Bytes w u r) (hB : B ≤ w.heap.size) (hn : l.length + r.length ≤ 281474976710656 / 4)
    (h : ∀ v' w', Owns w' B v' (l ++ r) → w.grownBy w' v.ownBlock → wpList Try.prog ops Q rest (a.put o.dst v') w') :
    wpList Try.prog ops Q (o :: rest) a w := by
  obtain ⟨i0, hi, hz0, hz1, hz2⟩ := info_parts infoByte
  obtain ⟨a1, c1, rfl, h1, h2, h3, h4⟩ := hr
  cases a1 with
  | none =>
    cases r with
    | nil =>
      refine wpList_append_none hgd s x 40 ho B 5 i0 1 c1 Try.underlying40 hi v l.length (l.map U8) hs hown hx ?_
      exact h v w (by rw [List.append_nil]; exact hown) (grown_refl _ _)
    | cons y r =>
      obtain ⟨b, off, e, _⟩ := h4 (by simp)
      exact absurd e (by simp)
  | some ad =>
    refine wpList_append_own _ hgd s x 40 ho B 5 i0 (.int .u8 0) 1 1 Try.underlying40 hi hz0 hz1 hz2 rfl (by decide) v l.length (l.map U8) hs hown
      ad r.length c1 (r.map U8) hx (by simp) ?_ ?_ ?_ ?_ hB ?_
    · intro j y hj
      have hj' : j < r.length := by
        have := (List.getElem?_eq_some_iff.1 hj).1
        simpa using this
      obtain ⟨b, off, e, _, hc⟩ := h4 (by intro e; rw [e] at hj'; simp at hj')
      simp only [Option.some.injEq] at e
      subst e
      rw [show (⟨b, off, none⟩ : Addr).add j = ⟨b, off + j, none⟩ from by unfold Addr.add; split <;> simp_all, hc j hj', nth_eq r j hj']
      simp [hj'] at hj
      rw [← hj]
    · intro y hy
      obtain ⟨z, _, rfl⟩ := List.mem_map.1 hy
      rfl
    · unfold maxLen; omega
    · omega
    · intro v' w' g1 g2 _
      refine h v' w' ?_ g2
      unfold Owns
      simpa using g1

theorem infoRow : (Try.prog.info? 40).map (fun i => (i.zero, i.size, i.bytes)) = some (some (.slice none 0 0), 1, 24) := by kernel_rfl

theorem Owns.shape {w : World} {B : Nat} {v : Value} {l : List Nat} (h : Owns w B v l) : ∃ a n c, v = .slice a n c := by
  rcases h.2 with ⟨rfl, _⟩ | ⟨g, cap, cur, rfl, _⟩
  · exact ⟨_, _, _, rfl⟩
  · exact ⟨_, _, _, rfl⟩

/-- An empty slice over a new block. -/
theorem Owns.empty (w : World) (B : Nat) (hB : B ≤ w.heap.size) : Owns (w.alloc (.cells #[] 5)) B (.slice (some ⟨w.heap.size, 0, none⟩) 0 0) [] :=
  World.ownsRow_lit w #[] 0 hB (by decide) rfl

end Go.Proofs.Ytphdadibfeencaa

/-
  Steps that leave all bytes alone, whatever else they write; a list without bytes that a call appends to; lists of rows (two slices of bytes each).
-/
set_option maxRecDepth 100000
namespace Go.Proofs.Ytphdadibfeencaa
open Go.RowKit

/-- No byte stands in the block. -/
def Loose (w : World) (k : Nat) : Prop := ∀ (i n : Nat), w.cell? ⟨k, i, none⟩ ≠ some (U8 n)

/-- A step that turns only blocks without bytes. -/
structure Soft (w w' : World) : Prop where
  size : w.heap.size ≤ w'.heap.size
  block : ∀ k, k < w.heap.size → w'.heap[k]? = w.heap[k]? ∨ (Loose w k ∧ Loose w' k)

theorem cell_of_heap {w w' : World} {k i : Nat} (h : w'.heap[k]? = w.heap[k]?) : w'.cell? ⟨k, i, none⟩ = w.cell? ⟨k, i, none⟩ := World.cell?_of_block (w := w) h
theorem Loose.of_heap {w w' : World} {k : Nat} (h : w'.heap[k]? = w.heap[k]?) (hl : Loose w k) : Loose w' k := fun i n => by rw [cell_of_heap h]; exact hl i n
theorem Soft.refl (w : World) : Soft w w := ⟨Nat.le_refl _, fun _ _ => .inl rfl⟩
theorem Soft.trans {a b c : World} (h : Soft a b) (k : Soft b c) : Soft a c := by
  refine ⟨Nat.le_trans h.size k.size, fun i hi => ?_⟩
  rcases h.block i hi with h1 | h1
  · rcases k.block i (Nat.lt_of_lt_of_le hi h.size) with h2 | h2
    · exact .inl (h2.trans h1)
    · exact .inr ⟨h2.1.of_heap h1.symm, h2.2⟩
  · rcases k.block i (Nat.lt_of_lt_of_le hi h.size) with h2 | h2
    · exact .inr ⟨h1.1, h1.2.of_heap h2⟩
    · exact .inr ⟨h1.1, h2.2⟩
theorem Soft.of_below {w w' : World} (h : Below w.heap.size w w') : Soft w w' := ⟨h.size, fun k hk => .inl (h.block k hk)⟩
theorem Soft.of_grown {w w' : World} {row : Option Nat} (h : w.grownBy w' row) (hl : ∀ g, row = some g → Loose w g ∧ Loose w' g) : Soft w w' := by
  refine ⟨h.size, fun k hk => ?_⟩
  by_cases hr : some k = row
  · exact .inr (hl k hr.symm)
  · exact .inl (h.block k hk hr)
theorem Loose.of_blk {w : World} {g : Nat} {vs : Array Value} {T : TypeId} (h : Blk w g vs T) (hn : ∀ (i n : Nat), vs[i]? ≠ some (U8 n)) : Loose w g := fun i n => by rw [h.cell]; exact hn i n
theorem Soft.of_box {w w' : World} {g : Nat} {vs vs' : Array Value} {T : TypeId} (hg : w.grownBy w' (some g)) (h : Blk w g vs T) (hn : ∀ (i n : Nat), vs[i]? ≠ some (U8 n)) (h' : Blk w' g vs' T) (hn' : ∀ (i n : Nat), vs'[i]? ≠ some (U8 n)) : Soft w w' :=
  Soft.of_grown hg fun k e => by
    simp only [Option.some.injEq] at e
    subst e; exact ⟨Loose.of_blk h hn, Loose.of_blk h' hn'⟩

theorem Bytes.soft {w w' : World} {v : Value} {l : List Nat} (h : Bytes w v l) (hs : Soft w w') : Bytes w' v l := by
  obtain ⟨a, cap, rfl, h1, h2, h3, h4⟩ := h
  refine ⟨a, cap, rfl, h1, h2, h3, fun hne => ?_⟩
  obtain ⟨b, off, rfl, hlt, hc⟩ := h4 hne
  refine ⟨b, off, rfl, Nat.lt_of_lt_of_le hlt hs.size, fun i hi => ?_⟩
  rcases hs.block b hlt with h5 | h5
  · rw [cell_of_heap h5]; exact hc i hi
  · exact absurd (hc i hi) (h5.1 _ _)
theorem IsRow.soft {w w' : World} {u : Value} {p q : List Nat} (h : IsRow w u p q) (hs : Soft w w') : IsRow w' u p q := by
  obtain ⟨v, d, rfl, hv, hd⟩ := h
  exact ⟨v, d, rfl, hv.soft hs, hd.soft hs⟩

/-! ### Lists without bytes that a call appends to -/

/-- As ownsRow; and no byte stands in its block. -/
def OwnN (w : World) (B : Nat) (T : TypeId) (sz : Nat) (v : Value) (n : Nat) (xs : List Value) : Prop := w.ownsRow B T sz v n xs ∧ ∀ g, v.ownBlock = some g → Loose w g

theorem OwnN.nil (w : World) (B : Nat) (T : TypeId) (sz : Nat) : OwnN w B T sz (.slice none 0 0) 0 [] := ⟨World.ownsRow_nil _ _ _ _, fun g e => by cases e⟩
theorem OwnN.keep {w w' : World} {B : Nat} {T : TypeId} {sz : Nat} {v : Value} {n : Nat} {xs : List Value} {row : Option Nat} (h : OwnN w B T sz v n xs) (hg : w.grownBy w' row) (hne : v.ownBlock = none ∨ v.ownBlock ≠ row) : OwnN w' B T sz v n xs := by
  refine ⟨World.ownsRow.kept h.1 hg hne, fun g e => (h.2 g e).of_heap (hg.block g (World.ownsRow.lt h.1 g e).2 ?_)⟩
  rcases hne with h1 | h1
  · rw [e] at h1; cases h1
  · rw [← e]; exact h1
theorem OwnN.go {w w' : World} {B : Nat} {T : TypeId} {sz : Nat} {v : Value} {n : Nat} {xs : List Value} (h : OwnN w B T sz v n xs) (hb : Below w.heap.size w w') : OwnN w' B T sz v n xs :=
  h.keep (grown_of_below hb none) (by cases hv : v.ownBlock <;> simp)
theorem OwnN.mono {w : World} {B C : Nat} {T : TypeId} {sz : Nat} {v : Value} {n : Nat} {xs : List Value} (h : OwnN w B T sz v n xs) (hC : C ≤ B) : OwnN w C T sz v n xs := by
  refine ⟨⟨h.1.1, ?_⟩, h.2⟩
  rcases h.1.2 with hn | ⟨g, cap, cur, e, hB, rest⟩
  · exact Or.inl hn
  · exact Or.inr ⟨g, cap, cur, e, Nat.le_trans hC hB, rest⟩
theorem OwnN.from {w : World} {B : Nat} {T : TypeId} {sz : Nat} {v : Value} {n : Nat} {xs : List Value} (h : OwnN w B T sz v n xs) : ∀ k, v.ownBlock = some k → B ≤ k := fun k hk => (World.ownsRow.lt h.1 k hk).1

theorem zeroCells_mem {z : Array Value} {n : Nat} {u : Value} (h : u ∈ (Builtin.zeroCells z n).toList) : u ∈ z.toList := by
  unfold Builtin.zeroCells at h
  simp only [Array.toList_map, List.mem_map, Array.toList_range, List.mem_range] at h
  obtain ⟨i, hi, rfl⟩ := h
  have hz : 0 < z.size := by
    rcases Nat.eq_zero_or_pos z.size with h0 | h0
    · rw [h0, Nat.mul_zero] at hi; omega
    · exact h0
  have hm : i % z.size < z.size := Nat.mod_lt _ hz
  rw [getElem!_pos z _ hm]
  exact Array.getElem_mem_toList hm

/-- What an append makes of such a list, and that all bytes stay. -/
theorem run_append_soft {P : Program} (w : World) (B : Nat) (t ty e : TypeId) (i : TypeInfo) (z : Value) (size bytes : Nat) (ht : P.underlying t = some (.slice e)) (hi : P.info? e = some i) (hz : i.zero = some z)
    (hsize : i.size = size) (hby : i.bytes = bytes) (hzs : z.cells.size = size) (hsz : 0 < size)
    (v : Value) (n : Nat) (xs : List Value) (hown : OwnN w B e size v n xs)
    (a : Addr) (m c : Nat) (news : List Value) (hl : news.length = m * size) (hnews : ∀ j u, news[j]? = some u → w.cell? (a.add j) = some u) (h1 : ∀ u ∈ news, u.oneCell' = true)
    (hzn : ∀ u ∈ z.cells.toList, ∀ k : Nat, u ≠ U8 k) (hnn : ∀ u ∈ news, ∀ k : Nat, u ≠ U8 k)
    (h63 : n + m ≤ maxLen) (hbytes : (n + m) * bytes ≤ 140737488355328) (hbase : B ≤ w.heap.size) :
    ∃ v' w', (Builtin.append_ #[t, t] ty #[v, .slice (some a) m c]).run P w = .ok v' w' ∧ OwnN w' B e size v' (n + m) (xs ++ news) ∧ w.grownBy w' v.ownBlock ∧ Soft w w' := by
  obtain ⟨v', w', hr, ho, hg, _⟩ := run_append_own (P := P) w B t ty e i z size bytes ht hi hz hsize hby hzs hsz v n xs hown.1 a m c news hl hnews h1 h63 hbytes hbase
  have key : ∀ g, v'.ownBlock = some g → Loose w' g := by
    subst hsize
    subst hby
    have noX : ∀ {ys : List Value}, (∀ u ∈ ys, ∀ k : Nat, u ≠ U8 k) → ∀ (cs : Array Value), cs.toList = ys → ∀ (W : World) (g : Nat) (fr : Nat × Nat), W.heap[g]? = some (.cells cs e fr) → Loose W g := by
      intro ys hys cs hcs W g fr hW j k hj
      rw [cell_of_row W g j cs e fr hW, ← Array.getElem?_toList, hcs] at hj
      exact hys _ (List.mem_of_getElem? hj) k rfl
    rcases hown.1.2 with ⟨rfl, rfl⟩ | ⟨g0, cap, cur, rfl, hbg, hg0, hnc, hcm, hcs, htake⟩
    · by_cases hm : m = 0
      · subst hm
        have hn : news = [] := List.eq_nil_of_length_eq_zero (by simpa using hl)
        subst hn
        have e2 : (Builtin.append_ #[t, t] ty #[.slice none 0 0, .slice (some a) 0 c]).run P w = .ok (.slice none 0 0) w := by
          simp [Builtin.append_, run_underlying ht, sizeOf, typeInfo, hi, Builtin.lenOf, Builtin.firstCells, loadCells, loadCellsFrom]
        rw [e2] at hr
        simp only [Result.ok.injEq] at hr
        obtain ⟨rfl, rfl⟩ := hr
        intro g hg'; cases hg'
      · have hr2 := run_append_nil (P := P) w t ty e i z ht hi hz a m c news hl hnews (by omega) (by simp only [maxLen] at h63; omega) (by have hb := hbytes; simp only [Nat.zero_add] at hb; omega)
        rw [hr2] at hr
        simp only [Result.ok.injEq] at hr
        obtain ⟨rfl, rfl⟩ := hr
        intro g hg'
        simp only [Value.ownBlock, Option.some.injEq] at hg'
        subst hg'
        refine noX (ys := news ++ (Builtin.zeroCells z.cells (grownCap w m 0 e - m)).toList) ?_ _ (by simp) _ _ (0, 0) (heap_alloc_new w.drew _)
        intro u hu k
        rcases List.mem_append.1 hu with hu | hu
        · exact hnn u hu k
        · exact hzn u (zeroCells_mem hu) k
    · have hlo : Loose w g0 := hown.2 g0 rfl
      have hcur : ∀ u ∈ cur.toList, ∀ k : Nat, u ≠ U8 k := by
        intro u hu k e2
        obtain ⟨j, hj⟩ := List.mem_iff_getElem?.1 hu
        refine hlo j k ?_
        rw [cell_of_row w g0 j cur e (0, 0) hg0, ← Array.getElem?_toList, hj, e2]
      by_cases hroom : n + m ≤ cap
      · have hfit : n * i.size + news.length ≤ cur.size := by rw [hl, hcs, ← Nat.add_mul]; exact Nat.mul_le_mul_right _ hroom
        have hr2 := run_append_room (P := P) w t ty e i ht hi g0 n cap cur hg0 a m c news hl hnews h1 hroom hfit
        rw [hr2] at hr
        simp only [Result.ok.injEq] at hr
        obtain ⟨rfl, rfl⟩ := hr
        intro g hg'
        simp only [Value.ownBlock, Option.some.injEq] at hg'
        subst hg'
        refine noX (ys := cur.toList.take (n * i.size) ++ news ++ cur.toList.drop (n * i.size + news.length)) ?_ _ (by simp) _ _ (0, 0) (setRow_heap w g0 cur _ e _ hg0)
        intro u hu k
        rcases List.mem_append.1 hu with hu | hu
        · rcases List.mem_append.1 hu with hu | hu
          · exact hcur u (List.mem_of_mem_take hu) k
          · exact hnn u hu k
        · exact hcur u (List.mem_of_mem_drop hu) k
      · have holds : ∀ j u, xs[j]? = some u → w.cell? ((⟨g0, 0, none⟩ : Addr).add j) = some u := World.ownsRow.cells hown.1 (g := g0) rfl
        have hr2 := run_append_grow (P := P) w t ty e i z ht hi hz ⟨g0, 0, none⟩ n cap xs hown.1.1 holds a m c news hl hnews (by omega) (by simp only [maxLen] at h63; omega) (growslice_fits (by omega) hbytes)
        rw [hr2] at hr
        simp only [Result.ok.injEq] at hr
        obtain ⟨rfl, rfl⟩ := hr
        intro g hg'
        simp only [Value.ownBlock, Option.some.injEq] at hg'
        subst hg'
        refine noX (ys := xs ++ news ++ (Builtin.zeroCells z.cells (grownCap w (n + m) cap e - (n + m))).toList) ?_ _ (by simp) _ _ (0, 0) (heap_alloc_new w.drew _)
        intro u hu k
        rcases List.mem_append.1 hu with hu | hu
        · rcases List.mem_append.1 hu with hu | hu
          · rw [← htake] at hu; exact hcur u (List.mem_of_mem_take hu) k
          · exact hnn u hu k
        · exact hzn u (zeroCells_mem hu) k
  refine ⟨v', w', hr, ⟨ho, key⟩, hg, Soft.of_grown hg fun g e2 => ⟨hown.2 g e2, ?_⟩⟩
  -- the elder block: where it stays the slice's, it is loose by the above; where it doesn't, it is as it was
  by_cases hv : v'.ownBlock = some g
  · exact key g hv
  · refine (hown.2 g e2).of_heap ?_
    subst hsize
    subst hby
    rcases hown.1.2 with ⟨rfl, rfl⟩ | ⟨g0, cap, cur, rfl, hbg, hg0, hnc, hcm, hcs, htake⟩
    · cases e2
    · simp only [Value.ownBlock, Option.some.injEq] at e2
      subst e2
      by_cases hroom : n + m ≤ cap
      · have hfit : n * i.size + news.length ≤ cur.size := by rw [hl, hcs, ← Nat.add_mul]; exact Nat.mul_le_mul_right _ hroom
        have hr2 := run_append_room (P := P) w t ty e i ht hi g0 n cap cur hg0 a m c news hl hnews h1 hroom hfit
        rw [hr2] at hr
        simp only [Result.ok.injEq] at hr
        exact absurd (by rw [← hr.1]; rfl) hv
      · have holds : ∀ j u, xs[j]? = some u → w.cell? ((⟨g0, 0, none⟩ : Addr).add j) = some u := World.ownsRow.cells hown.1 (g := g0) rfl
        have hr2 := run_append_grow (P := P) w t ty e i z ht hi hz ⟨g0, 0, none⟩ n cap xs hown.1.1 holds a m c news hl hnews (by omega) (by simp only [maxLen] at h63; omega) (growslice_fits (by omega) hbytes)
        rw [hr2] at hr
        simp only [Result.ok.injEq] at hr
        rw [← hr.2]
        exact Below.heap_alloc w.drew _ _ (Array.getElem?_eq_some_iff.1 hg0).1

theorem wpList_append_soft {P : Program} {w : World} {ops : Array Oper} {rest : List Oper} {o : Oper} {a : Act} {Q : Exit → Act → World → Prop} (hgd : o.guard = none) (s x : Operand) (t : TypeId)
    (ho : o.op = .call { callee := .builtin .append, args := #[s, x], argTypes := #[t, t] })
    (B : Nat) (e : TypeId) (i : TypeInfo) (z : Value) (size bytes : Nat) (ht : P.underlying t = some (.slice e)) (hi : P.info? e = some i) (hz : i.zero = some z)
    (hsize : i.size = size) (hby : i.bytes = bytes) (hzs : z.cells.size = size) (hsz : 0 < size)
    (v : Value) (n : Nat) (xs : List Value) (hs : a.eval s = v) (hown : OwnN w B e size v n xs)
    (ad : Addr) (m c : Nat) (news : List Value) (hx : a.eval x = .slice (some ad) m c) (hl : news.length = m * size) (hnews : ∀ j u, news[j]? = some u → w.cell? (ad.add j) = some u) (h1 : ∀ u ∈ news, u.oneCell' = true)
    (hzn : ∀ u ∈ z.cells.toList, ∀ k : Nat, u ≠ U8 k) (hnn : ∀ u ∈ news, ∀ k : Nat, u ≠ U8 k)
    (h63 : n + m ≤ maxLen) (hbytes : (n + m) * bytes ≤ 140737488355328) (hbase : B ≤ w.heap.size)
    (h : ∀ v' w', OwnN w' B e size v' (n + m) (xs ++ news) → w.grownBy w' v.ownBlock → Soft w w' → wpList P ops Q rest (a.put o.dst v') w') : wpList P ops Q (o :: rest) a w := by
  refine wpList_plain hgd fun K hK => ?_
  obtain ⟨v', w', hrun, h2, h3, h4⟩ := run_append_soft (P := P) w B t o.type e i z size bytes ht hi hz hsize hby hzs hsz v n xs hown ad m c news hl hnews h1 hzn hnn h63 hbytes hbase
  unfold Oper.wp
  simp only [execOp, ho, resolve, invoke, builtin, Sem.run_bind, Sem.run_pure, Result.andThen_ok, List.map_toArray, List.map_cons, List.map_nil, hs, hx, hrun]
  exact hK _ _ (h v' w' h2 h3 h4)

end Go.Proofs.Ytphdadibfeencaa
