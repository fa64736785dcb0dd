/- Texts of one seat, laid together: InsVec, GridB, GridC. -/
import Derived.Test.YtphdadibfeencaaGreatSolveHoldsQ11
import Derived.Shelf.Spec.SlicesInsert
import Derived.Laws.CopyOwn
import Derived.Test.YtphdadibfeencaaGreatSolveHoldsQ12
import Derived.Test.YtphdadibfeencaaGreatSolveHoldsQ7
import Derived.Test.YtphdadibfeencaaGreatSolveHoldsQ8
import Derived.Test.YtphdadibfeencaaGreatSolveHoldsQ5

/-
  slices.Insert of one element (Vec): there is room, or there is none, or it comes last.
-/
set_option maxRecDepth 100000
namespace Go.Proofs.YtphdadibfeencaaGreat
open Go.RowKit

theorem infoVec : (Tryz.prog.info? 46).map (fun i => (i.zero, i.size, i.bytes)) = some (some (.agg #[.slice none 0 0, .slice none 0 0]), 2, 48) := by kernel_rfl

set_option maxHeartbeats 2000000 in
/-- There is room: in place. -/
theorem insVec_room (g n cap i vb : Nat) (B : Nat) (xs news : List Value) (w : World) (hown : OwnN w B 46 2 (.slice (some ⟨g, 0, none⟩) n cap) n xs) (hi : i < n) (hroom : n + 1 ≤ cap) (hvb : Blk w vb news.toArray 46) (hne : vb ≠ g) (hl : news.length = 2)
    (h1 : ∀ u ∈ news, u.oneCell' = true) (hnn : ∀ u ∈ news, ∀ k : Nat, u ≠ U8 k) (h1x : ∀ u ∈ xs, u.oneCell' = true) :
    Calls Tryz.prog 67 #[.slice (some ⟨g, 0, none⟩) n cap, .int .i64 (i : Int), .slice (some ⟨vb, 0, none⟩) 1 1] w fun e w' =>
      ∃ v', e = .returned v' ∧ OwnN w' B 46 2 v' (n + 1) (xs.take (i * 2) ++ news ++ xs.drop (i * 2)) ∧ w.grownBy w' (some g) ∧ Soft w w' := by
  have hcap : cap ≤ 9223372036854775807 := by
    rcases hown.1.2 with ⟨e, _⟩ | ⟨g', cap', cur', e, hB, hg', hnc, hcm, hcs, htake⟩
    · cases e
    · simp only [Value.slice.injEq, Option.some.injEq, Addr.mk.injEq, and_true, true_and] at e
      obtain ⟨rfl, rfl⟩ := e
      simpa [maxLen] using hcm
  obtain ⟨cur, hg, hcs, htake⟩ : ∃ cur : Array Value, w.heap[g]? = some (.cells cur 46 (0, 0)) ∧ cur.size = cap * 2 ∧ cur.toList.take (n * 2) = xs := by
    rcases hown.1.2 with ⟨e, _⟩ | ⟨g', cap', cur', e, hB, hg', hnc, hcm, hcs, htake⟩
    · cases e
    · simp only [Value.slice.injEq, Option.some.injEq, Addr.mk.injEq, and_true, true_and] at e
      obtain ⟨rfl, rfl⟩ := e
      exact ⟨cur', hg', hcs, htake⟩
  have hxl : xs.length = n * 2 := hown.1.1
  have hdl : (xs.drop (i * 2)).length = (n - i) * 2 := by rw [List.length_drop, hxl]; omega
  obtain ⟨i0, hi0, hz0, hz1, hz2⟩ := info_parts infoVec
  have hs0 : (Tryz.prog.info? 46).map (·.size) = some 2 := by rw [hi0]; simp [hz1]
  have hso : ∀ w, (Go.sizeOf 46).run Tryz.prog w = .ok 2 w := fun w => by simp [sizeOf, typeInfo, hi0, hz1]
  have hov : ∀ lb cb, (callFunc 82 #[.slice (some ⟨vb, 0, none⟩) 1 1, .slice (some ⟨g, (i + 1) * 2, none⟩) lb cb]).run Tryz.prog w = .ok (.value (.bool false)) w := fun lb cb => by
    rw [run_callFunc_extern Tryz.func82 (by kernel_rfl) (by kernel_rfl) (by kernel_rfl) (e := Extern.SlicesOverlaps.overlaps #[27, 27] #[4]) (by kernel_rfl),
      Lib.run_overlaps_apart w 27 4 46 Tryz.underlying27 2 hso ⟨vb, 0, none⟩ ⟨g, (i + 1) * 2, none⟩ 1 1 lb cb hne 46 46 2 (cap * 2) (by unfold World.shape?; rw [hvb]; simp [hl]) (by unfold World.shape?; rw [hg]; simp [hcs]) (by omega) (hvb.free 0) (hvb.free 2)]
    rfl
  obtain ⟨W1, hW1⟩ : ∃ W1, W1 = w.drew.setRow g (wr cur.toList (i * 2 + 2) (xs.drop (i * 2))).toArray := ⟨_, rfl⟩
  have hfit1 : i * 2 + 2 + (xs.drop (i * 2)).length ≤ cur.size := by rw [hdl, hcs]; omega
  have hcp1 : ∀ ty dc sc, (Builtin.copy_ #[27, 27] ty #[.slice (some ⟨g, (i + 1) * 2, none⟩) (n - i) dc, .slice (some ⟨g, i * 2, none⟩) (n + 1 - i) sc]).run Tryz.prog w.drew = .ok (goInt (n - i : Nat)) W1 := fun ty dc sc => by
    rw [hW1, show (i + 1) * 2 = i * 2 + 2 by omega]
    refine run_copy_rowN w.drew 27 27 ty 46 g (i * 2 + 2) _ dc ⟨g, i * 2, none⟩ _ sc cur 46 (xs.drop (i * 2)) 2 (n - i) Tryz.underlying27 hs0 hg (by simp only [Nat.min_def]; split <;> omega) hdl (fun j v hj => ?_) hfit1 (fun v hv => h1x v (List.mem_of_mem_drop hv))
    rw [row_add, cell_of_row w.drew g _ cur 46 (0, 0) hg, ← Array.getElem?_toList]
    rw [List.getElem?_drop] at hj
    rw [← htake, List.getElem?_take] at hj
    split at hj
    · exact hj
    · cases hj
  have hW1g : W1.heap[g]? = some (.cells (wr cur.toList (i * 2 + 2) (xs.drop (i * 2))).toArray 46 (0, 0)) := by rw [hW1]; exact setRow_heap w.drew g cur _ 46 _ hg
  have hW1v : W1.heap[vb]? = some (.cells news.toArray 46 (0, 0)) := by rw [hW1, setRow_other w.drew g vb _ hne]; exact hvb
  have hwl : (wr cur.toList (i * 2 + 2) (xs.drop (i * 2))).length = cur.toList.length := wr_length (by rw [Array.length_toList]; exact hfit1)
  have hcp2 : ∀ (W : World), W.heap = W1.heap → ∀ ty dc, (Builtin.copy_ #[27, 27] ty #[.slice (some ⟨g, i * 2, none⟩) (n + 1 - i) dc, .slice (some ⟨vb, 0, none⟩) 1 1]).run Tryz.prog W = .ok (goInt (1 : Nat)) (W.setRow g (wr (wr cur.toList (i * 2 + 2) (xs.drop (i * 2))) (i * 2) news).toArray) := fun W hW ty dc => by
    refine run_copy_rowN W 27 27 ty 46 g (i * 2) _ dc ⟨vb, 0, none⟩ _ 1 (wr cur.toList (i * 2 + 2) (xs.drop (i * 2))).toArray 46 news 2 1 Tryz.underlying27 hs0 (by rw [hW]; exact hW1g) (by simp only [Nat.min_def]; split <;> omega) (by rw [hl]) (fun j v hj => ?_) (by simp only [List.size_toArray]; rw [hwl, hl, Array.length_toList]; omega) h1
    rw [row_add, Nat.zero_add, cell_of_row W vb _ news.toArray 46 (0, 0) (by rw [hW]; exact hW1v)]
    simpa using hj
  have hend : wr (wr cur.toList (i * 2 + 2) (xs.drop (i * 2))) (i * 2) news = insd cur.toList (i * 2) news (xs.drop (i * 2)) := by
    have := wr_back (cur := cur.toList) (N := news) (D := xs.drop (i * 2)) (o := i * 2) (by rw [hl, Array.length_toList]; exact hfit1)
    rw [hl] at this; exact this
  have HO := Lib.hid hown
  have HG := Lib.hid hg
  have HE := Lib.hid hend
  have HW := Lib.hid hW1
  have HC2 := Lib.hid hcp2
  have HL := Lib.hid hl
  have HN := Lib.hid hnn
  have mixed : Tryz.prog.follows Departure.mixedOrders = true := by kernel_rfl
  have hz1 : ¬ ((1 : Int) = 0) := by omega
  have hz2' : ¬ ((i : Int) = (n : Int)) := by omega
  have hz3 : ¬ ((cap : Int) < (n : Int) + 1) := by omega
  have hw1 : IntKind.i64.wrap ((i : Int) + 1) = (i : Int) + 1 := by rw [IntKind.wrap_i64]; omega
  have hw2 : IntKind.i64.wrap ((n : Int) + 1) = (n : Int) + 1 := by rw [IntKind.wrap_i64]; omega
  have hb1 : (0 : Int) ≤ (i : Int) + 1 := by omega
  have hin : i ≤ n := by omega
  have htn : ((i : Int) + 1).toNat = i + 1 := by omega
  have htm : ((n : Int) + 1).toNat = n + 1 := by omega
  have hb2 : ¬ (cap = i + 1) := by omega
  have hb3 : (i : Int) ≤ (n : Int) + 1 := by omega
  have hb4 : ¬ (cap = i) := by omega
  clear hown hg hcs htake hxl hdl hs0 hso hfit1 hW1g hW1v hwl hend hz0 hi0 hvb hl h1 hnn h1x hcp2
  clear hW1
  go_enter Tryz.func67, Tryz.ntmps67
  go_wp2_with (simp only [hov])
  go_region_law_o (refine step_copy_runI rfl _ _ 27 27 rfl _ _ (by simp [Act.eval, Act.put]) (by simp [Act.eval, Act.put]) (hcp1 _ _ _) ?_)
  have hcpW := HC2.out W1 rfl
  go_wp2_with (simp only [hcpW])
  go_ret
  have hos : W1.os = w.os ∧ W1.tape = w.tape ∧ W1.output = w.output := by rw [HW.out]; exact ⟨rfl, rfl, rfl⟩
  have hsetset : (W1.setRow g (wr (wr cur.toList (i * 2 + 2) (xs.drop (i * 2))) (i * 2) news).toArray).heap = (w.setRow g (insd cur.toList (i * 2) news (xs.drop (i * 2))).toArray).heap := by
    rw [HW.out, setRow_setRow, HE.out]; rfl
  obtain ⟨r1, r2, r3⟩ := own_insd (w' := W1.setRow g (wr (wr cur.toList (i * 2 + 2) (xs.drop (i * 2))) (i * 2) news).toArray) HO.out HG.out hin hroom HL.out HN.out hsetset hos.1 hos.2.1 hos.2.2
  exact ⟨_, rfl, r1, r2, r3⟩

set_option maxHeartbeats 2000000 in
/-- There is none: a new block. -/
theorem insVec_grow (g n cap i vb : Nat) (B : Nat) (xs news : List Value) (w : World) (hown : OwnN w B 46 2 (.slice (some ⟨g, 0, none⟩) n cap) n xs) (hi : i < n) (hroom : cap < n + 1) (hvb : Blk w vb news.toArray 46) (hl : news.length = 2) (hB : B ≤ w.heap.size) (hn : n ≤ 1000000000000)
    (h1 : ∀ u ∈ news, u.oneCell' = true) (hnn : ∀ u ∈ news, ∀ k : Nat, u ≠ U8 k) (h1x : ∀ u ∈ xs, u.oneCell' = true) :
    Calls Tryz.prog 67 #[.slice (some ⟨g, 0, none⟩) n cap, .int .i64 (i : Int), .slice (some ⟨vb, 0, none⟩) 1 1] w fun e w' =>
      ∃ v', e = .returned v' ∧ OwnN w' B 46 2 v' (n + 1) (xs.take (i * 2) ++ news ++ xs.drop (i * 2)) ∧ w.grownBy w' (some g) ∧ Soft w w' := by
  obtain ⟨cur, hg, hnc, hcs, htake⟩ : ∃ cur : Array Value, w.heap[g]? = some (.cells cur 46 (0, 0)) ∧ n ≤ cap ∧ cur.size = cap * 2 ∧ cur.toList.take (n * 2) = xs := by
    rcases hown.1.2 with ⟨e, _⟩ | ⟨g', cap', cur', e, hB, hg', hnc, hcm, hcs, htake⟩
    · cases e
    · simp only [Value.slice.injEq, Option.some.injEq, Addr.mk.injEq, and_true, true_and] at e
      obtain ⟨rfl, rfl⟩ := e
      exact ⟨cur', hg', hnc, hcs, htake⟩
  have hxl : xs.length = n * 2 := hown.1.1
  have hxc : ∀ (W : World), W.heap[g]? = w.heap[g]? → ∀ j v, xs[j]? = some v → W.cell? ⟨g, j, none⟩ = some v := fun W hW j v hj => by
    rw [cell_of_row W g j cur 46 (0, 0) (by rw [hW]; exact hg), ← Array.getElem?_toList]
    rw [← htake, List.getElem?_take] at hj
    split at hj
    · exact hj
    · cases hj
  have hgl : g < w.heap.size := (Array.getElem?_eq_some_iff.1 hg).1
  have hvl : vb < w.heap.size := hvb.lt
  have hdl : (xs.drop (i * 2)).length = (n - i) * 2 := by rw [List.length_drop, hxl]; omega
  have hil : (xs.take (i * 2)).length = i * 2 := by rw [List.length_take, hxl]; omega
  obtain ⟨i0, hi0, hz0, hz1, hz2⟩ := info_parts infoVec
  have hs0 : (Tryz.prog.info? 46).map (·.size) = some 2 := by rw [hi0]; simp [hz1]
  have hzu : ∀ k : Nat, ∀ u ∈ (Builtin.zeroCells (.agg #[.slice none 0 0, .slice none 0 0] : Value).cells k).toList, ∀ x : Nat, u ≠ U8 x := fun k u hu x => by
    have := zeroCells_mem hu
    simp [Value.cells] at this
    first
      | (subst this; exact slice_ne _ _ _ x)
      | (rcases this with rfl | rfl <;> first | exact slice_ne _ _ _ x | (intro e; cases e))
  have hxu : ∀ u ∈ xs, ∀ k : Nat, u ≠ U8 k := fun u hu k => by
    rw [← htake] at hu
    exact row_of_loose hg (hown.2 g rfl) u (List.mem_of_mem_take hu) k
  obtain ⟨G, hG⟩ : ∃ G, G = grownCap w (n + 1) cap 46 := ⟨_, rfl⟩
  have hGn : n + 1 ≤ G := by rw [hG]; exact grownCap_ge w _ _ _
  have hGm : G ≤ maxLen := by rw [hG]; exact grownCap_le_maxLen w _ _ _ (by unfold maxLen; omega)
  have hG63 : G ≤ 9223372036854775807 := by simpa [maxLen] using hGm
  obtain ⟨row, hrow⟩ : ∃ row : Array Value, row = (xs.take (i * 2)).toArray ++ Builtin.zeroCells (.agg #[.slice none 0 0, .slice none 0 0] : Value).cells (n + 1 - i) ++ Builtin.zeroCells (.agg #[.slice none 0 0, .slice none 0 0] : Value).cells (G - (n + 1)) := ⟨_, rfl⟩
  have hrl : row.size = G * 2 := by
    rw [hrow]
    simp only [Array.size_append, List.size_toArray, hil, Builtin.zeroCells, Array.size_map, Array.size_range]
    simp [Value.cells]
    omega
  have hrl' : row.toList.length = G * 2 := by rw [Array.length_toList]; exact hrl
  have hrt : row.toList.take (i * 2) = xs.take (i * 2) := by
    rw [hrow]
    simp only [Array.toList_append, List.append_assoc]
    rw [List.take_append_of_le_length (by simpa using (Nat.le_of_eq hil.symm)), List.take_of_length_le (by simpa using (Nat.le_of_eq hil))]
  have hru : ∀ u ∈ row.toList, ∀ k : Nat, u ≠ U8 k := fun u hu k => by
    rw [hrow] at hu
    simp only [Array.toList_append, List.mem_append] at hu
    rcases hu with (hu | hu) | hu
    · exact hxu u (List.mem_of_mem_take hu) k
    · exact hzu _ u hu k
    · exact hzu _ u hu k
  obtain ⟨W1, hW1⟩ : ∃ W1, W1 = w.drew.alloc (.cells row 46) := ⟨_, rfl⟩
  have hkk : (n : Int) + 1 - (i : Int) = ((n + 1 - i : Nat) : Int) := by omega
  have hik : i + (n + 1 - i) = n + 1 := by omega
  have hrz : ∀ ty, (Builtin.append_ #[27, 3] ty #[.slice (some ⟨g, 0, none⟩) i cap, .int .i64 ((n : Int) + 1 - (i : Int))]).run Tryz.prog w = .ok (.slice (some ⟨w.heap.size, 0, none⟩) (n + 1) G) W1 := fun ty => by
    have h := Lib.run_append_grow_zeros w 27 3 ty 46 i0 _ .i64 .i64 Tryz.underlying27 Tryz.underlying3 hi0 hz0 (some ⟨g, 0, none⟩) i cap (xs.take (i * 2)) (by rw [hz1]; exact firstCells_take w.drew 2 i _ cap xs n hxl (by omega) (fun j v hj => by rw [row_add, Nat.zero_add]; exact hxc w.drew rfl j v hj))
      (n + 1 - i) (by omega) (by omega) (by omega) (by omega) (by rw [hz2]; omega) (by rw [hz2, hik]; exact growslice_fits (by omega) (by omega))
    rw [hik, ← hG] at h
    rw [hkk, hW1, hrow]
    exact h
  have hW1r : W1.heap[w.heap.size]? = some (.cells row 46 (0, 0)) := by rw [hW1]; exact heap_alloc_new w.drew _
  have hW1o : ∀ k, k < w.heap.size → W1.heap[k]? = w.heap[k]? := fun k hk => by rw [hW1]; exact Below.heap_alloc w.drew _ _ hk
  have hcpA : ∀ ty dc, (Builtin.copy_ #[27, 27] ty #[.slice (some ⟨w.heap.size, i * 2, none⟩) (n + 1 - i) dc, .slice (some ⟨vb, 0, none⟩) 1 1]).run Tryz.prog W1 = .ok (goInt (1 : Nat)) (W1.setRow w.heap.size (wr row.toList (i * 2) news).toArray) := fun ty dc => by
    refine run_copy_rowN W1 27 27 ty 46 w.heap.size (i * 2) _ dc ⟨vb, 0, none⟩ _ 1 row 46 news 2 1 Tryz.underlying27 hs0 hW1r (by simp only [Nat.min_def]; split <;> omega) (by rw [hl]) (fun j v hj => ?_) (by rw [hl, hrl]; omega) h1
    rw [row_add, Nat.zero_add, cell_of_row W1 vb _ news.toArray 46 (0, 0) (by rw [hW1o vb hvl]; exact hvb)]
    simpa using hj
  have hwl : (wr row.toList (i * 2) news).length = row.toList.length := wr_length (by rw [hl, hrl']; omega)
  obtain ⟨W2, hW2⟩ : ∃ W2, W2 = W1.setRow w.heap.size (wr row.toList (i * 2) news).toArray := ⟨_, rfl⟩
  have hW2r : W2.heap[w.heap.size]? = some (.cells (wr row.toList (i * 2) news).toArray 46 (0, 0)) := by rw [hW2]; exact setRow_heap W1 _ row _ 46 _ hW1r
  have hW2o : ∀ k, k < w.heap.size → W2.heap[k]? = w.heap[k]? := fun k hk => by rw [hW2, setRow_other W1 _ k _ (by omega)]; exact hW1o k hk
  rw [← hW2] at hcpA
  have hcpB : ∀ ty dc sc, (Builtin.copy_ #[27, 27] ty #[.slice (some ⟨w.heap.size, (i + 1) * 2, none⟩) (n - i) dc, .slice (some ⟨g, i * 2, none⟩) (n - i) sc]).run Tryz.prog W2.drew = .ok (goInt (n - i : Nat)) (W2.drew.setRow w.heap.size (wr (wr row.toList (i * 2) news) (i * 2 + 2) (xs.drop (i * 2))).toArray) := fun ty dc sc => by
    rw [show (i + 1) * 2 = i * 2 + 2 by omega]
    refine run_copy_rowN W2.drew 27 27 ty 46 w.heap.size (i * 2 + 2) _ dc ⟨g, i * 2, none⟩ _ sc (wr row.toList (i * 2) news).toArray 46 (xs.drop (i * 2)) 2 (n - i) Tryz.underlying27 hs0 hW2r (by simp only [Nat.min_def]; split <;> omega) hdl (fun j v hj => ?_) (by simp only [List.size_toArray]; rw [hwl, hdl, hrl']; omega) (fun v hv => h1x v (List.mem_of_mem_drop hv))
    rw [row_add]
    rw [List.getElem?_drop] at hj
    exact hxc W2.drew (hW2o g hgl) _ v hj
  have hend : wr (wr row.toList (i * 2) news) (i * 2 + 2) (xs.drop (i * 2)) = insd row.toList (i * 2) news (xs.drop (i * 2)) := by
    have := wr_fwd (cur := row.toList) (N := news) (D := xs.drop (i * 2)) (o := i * 2) (by rw [hl, hdl, hrl']; omega)
    rw [hl] at this; exact this
  have hfin : Below w.heap.size w (W2.drew.setRow w.heap.size (wr (wr row.toList (i * 2) news) (i * 2 + 2) (xs.drop (i * 2))).toArray) ∧
      (W2.drew.setRow w.heap.size (wr (wr row.toList (i * 2) news) (i * 2 + 2) (xs.drop (i * 2))).toArray).heap[w.heap.size]? = some (.cells (insd row.toList (i * 2) news (xs.drop (i * 2))).toArray 46 (0, 0)) := by
    refine ⟨below_setRow ?_ (Nat.le_refl _) _, by rw [hend]; exact setRow_heap W2.drew _ _ _ 46 _ hW2r⟩
    have b1 : Below w.heap.size w W1 := by rw [hW1]; exact ((Below.refl _ w).drew).alloc (Nat.le_refl _) _
    have b2 : Below w.heap.size w W2 := by rw [hW2]; exact below_setRow b1 (Nat.le_refl _) _
    exact b2.drew
  have HF := Lib.hid hfin
  have HO := Lib.hid hown
  have HL := Lib.hid hl
  have HN := Lib.hid hnn
  have HRU := Lib.hid hru
  have HRL := Lib.hid hrl
  have HRT := Lib.hid hrt
  have HW := Lib.hid hW2
  have mixed : Tryz.prog.follows Departure.mixedOrders = true := by kernel_rfl
  have hz1 : ¬ ((1 : Int) = 0) := by omega
  have hz2' : ¬ ((i : Int) = (n : Int)) := by omega
  have hz3 : (cap : Int) < (n : Int) + 1 := by omega
  have hw1 : IntKind.i64.wrap ((i : Int) + 1) = (i : Int) + 1 := by rw [IntKind.wrap_i64]; omega
  have hb1 : (0 : Int) ≤ (i : Int) + 1 := by omega
  have hin : i ≤ n := by omega
  have htn : ((i : Int) + 1).toNat = i + 1 := by omega
  have hb2 : ¬ (G = i + 1) := by omega
  have hb3 : (i : Int) ≤ (n : Int) := by omega
  have hb4 : ¬ (G = i) := by omega
  have hb5 : ¬ (cap = i) := by omega
  clear hown hg hcs htake hxl hdl hs0 hend hz0 hi0 hvb hl h1 hnn h1x hW1 hW2 hrl' hrl hrt hru hrow hxc hil hzu hxu hG hkk hik hW1r hW1o hwl hW2r hW2o hfin
  go_enter Tryz.func67, Tryz.ntmps67
  go_wp2_with (first | (at_builtin; refine Lib.wpList_append_run _ rfl _ _ _ _ rfl _ _ rfl rfl _ _ (hrz _) ?_) | simp only [hcpA])
  go_region_law_o (refine step_copy_runI rfl _ _ 27 27 rfl _ _ (by simp [Act.eval, Act.put]) (by simp [Act.eval, Act.put]) (hcpB _ _ _) ?_)
  go_wp2_with fail
  go_ret
  obtain ⟨r1, r2, r3⟩ := own_insnew HO.out hin hB hGn hGm HL.out HN.out HRU.out HRL.out HRT.out HF.out.2 HF.out.1
  exact ⟨_, rfl, by simpa using r1, r2, r3⟩

set_option maxHeartbeats 2000000 in
/-- It comes last. -/
theorem insVec_end (a : Option Addr) (n cap vb : Nat) (B : Nat) (xs news : List Value) (w : World) (hown : OwnN w B 46 2 (.slice a n cap) n xs) (hvb : Blk w vb news.toArray 46) (hl : news.length = 2) (hB : B ≤ w.heap.size) (hn : n ≤ 1000000000000)
    (h1 : ∀ u ∈ news, u.oneCell' = true) (hnn : ∀ u ∈ news, ∀ k : Nat, u ≠ U8 k) :
    Calls Tryz.prog 67 #[.slice a n cap, .int .i64 (n : Int), .slice (some ⟨vb, 0, none⟩) 1 1] w fun e w' =>
      ∃ v', e = .returned v' ∧ OwnN w' B 46 2 v' (n + 1) (xs ++ news) ∧ w.grownBy w' (Value.slice a n cap).ownBlock ∧ Soft w w' := by
  obtain ⟨i0, hi0, hz0, hz1, hz2⟩ := info_parts infoVec
  have hzu : ∀ u ∈ (.agg #[.slice none 0 0, .slice none 0 0] : Value).cells.toList, ∀ x : Nat, u ≠ U8 x := fun u this x => by
    simp [Value.cells] at this
    first
      | (subst this; exact slice_ne _ _ _ x)
      | (rcases this with rfl | rfl <;> first | exact slice_ne _ _ _ x | (intro e; cases e))
  have hnews : ∀ j u, news[j]? = some u → w.cell? ((⟨vb, 0, none⟩ : Addr).add j) = some u := fun j v hj => by
    rw [row_add, Nat.zero_add, cell_of_row w vb _ news.toArray 46 (0, 0) hvb]
    simpa using hj
  have hl' : news.length = 1 * 2 := by rw [hl]
  have hcap : n ≤ cap ∧ cap ≤ 9223372036854775807 := by
    rcases hown.1.2 with ⟨e, h0⟩ | ⟨g', cap', cur', e, hB, hg', hnc, hcm, hcs, htake⟩
    · simp only [Value.slice.injEq] at e
      omega
    · simp only [Value.slice.injEq] at e
      obtain ⟨_, _, rfl⟩ := e
      exact ⟨hnc, by simpa [maxLen] using hcm⟩
  obtain ⟨hnc, hcm⟩ := hcap
  have hmx : n + 1 ≤ maxLen := by unfold maxLen; omega
  have hby : (n + 1) * 48 ≤ 140737488355328 := by omega
  have HO := Lib.hid hown
  have HM := Lib.hid hmx
  have HBY := Lib.hid hby
  have HNW := Lib.hid hnews
  have HL := Lib.hid hl'
  have H1 := Lib.hid h1
  have HN := Lib.hid hnn
  have HZ := Lib.hid hzu
  have hq1 : ¬ ((1 : Int) = 0) := by omega
  have hn0 : (0 : Int) ≤ (n : Int) := Int.natCast_nonneg _
  clear hown hmx hby hnews hl' hl h1 hnn hzu hvb
  rcases hsh : a with _ | ⟨g, off, fr⟩
  · have h0 : n = 0 := by
      rcases HO.out.1.2 with ⟨_, h0⟩ | ⟨g', cap', cur', e, _⟩
      · exact h0
      · rw [hsh] at e; cases e
    subst hsh
    subst h0
    go_enter Tryz.func67, Tryz.ntmps67
    go_wp2_with (at_builtin; refine wpList_append_soft rfl _ _ 27 rfl B 46 i0 (.agg #[.slice none 0 0, .slice none 0 0]) 2 48 Tryz.underlying27 hi0 hz0 hz1 hz2 rfl (by decide) _ 0 xs rfl HO.out ⟨vb, 0, none⟩ 1 1 news rfl HL.out HNW.out H1.out HZ.out HN.out HM.out HBY.out hB (fun v' w' k1 k2 k3 => ?_))
    go_ret
    exact ⟨_, rfl, k1, k2, k3⟩
  · obtain ⟨rfl, rfl⟩ : off = 0 ∧ fr = none := by
      rcases HO.out.1.2 with ⟨e, _⟩ | ⟨g', cap', cur', e, _⟩
      · rw [hsh] at e; cases e
      · rw [hsh] at e
        simp only [Value.slice.injEq, Option.some.injEq, Addr.mk.injEq] at e
        exact ⟨e.1.2.1, e.1.2.2⟩
    subst hsh
    by_cases hcn : cap = n
    · go_enter Tryz.func67, Tryz.ntmps67
      go_wp2_with (at_builtin; refine wpList_append_soft rfl _ _ 27 rfl B 46 i0 (.agg #[.slice none 0 0, .slice none 0 0]) 2 48 Tryz.underlying27 hi0 hz0 hz1 hz2 rfl (by decide) _ n xs rfl HO.out ⟨vb, 0, none⟩ 1 1 news rfl HL.out HNW.out H1.out HZ.out HN.out HM.out HBY.out hB (fun v' w' k1 k2 k3 => ?_))
      go_ret
      exact ⟨_, rfl, k1, k2, k3⟩
    · go_enter Tryz.func67, Tryz.ntmps67
      go_wp2_with (at_builtin; refine wpList_append_soft rfl _ _ 27 rfl B 46 i0 (.agg #[.slice none 0 0, .slice none 0 0]) 2 48 Tryz.underlying27 hi0 hz0 hz1 hz2 rfl (by decide) _ n xs rfl HO.out ⟨vb, 0, none⟩ 1 1 news rfl HL.out HNW.out H1.out HZ.out HN.out HM.out HBY.out hB (fun v' w' k1 k2 k3 => ?_))
      go_ret
      exact ⟨_, rfl, k1, k2, k3⟩

/-- One element put in at a place. -/
theorem insVec_any (v : Value) (n i vb : Nat) (B : Nat) (xs news : List Value) (w : World) (hown : OwnN w B 46 2 v n xs) (hi : i ≤ n) (hvb : Blk w vb news.toArray 46) (hne : v.ownBlock ≠ some vb) (hl : news.length = 2) (hB : B ≤ w.heap.size) (hn : n ≤ 1000000000000)
    (h1 : ∀ u ∈ news, u.oneCell' = true) (hnn : ∀ u ∈ news, ∀ k : Nat, u ≠ U8 k) (h1x : ∀ u ∈ xs, u.oneCell' = true) :
    Calls Tryz.prog 67 #[v, .int .i64 (i : Int), .slice (some ⟨vb, 0, none⟩) 1 1] w fun e w' =>
      ∃ v', e = .returned v' ∧ OwnN w' B 46 2 v' (n + 1) (xs.take (i * 2) ++ news ++ xs.drop (i * 2)) ∧ w.grownBy w' v.ownBlock ∧ Soft w w' := by
  have hsh : ∃ a c, v = .slice a n c := by
    rcases hown.1.2 with ⟨rfl, h0⟩ | ⟨g, cap, cur, rfl, _⟩
    · rw [h0]; exact ⟨_, _, rfl⟩
    · exact ⟨_, _, rfl⟩
  by_cases he : i = n
  · obtain ⟨a, c, rfl⟩ := hsh
    subst he
    have e1 : xs.take (i * 2) = xs := List.take_of_length_le (by rw [hown.1.1]; exact Nat.le_refl _)
    have e2 : xs.drop (i * 2) = [] := List.drop_of_length_le (by rw [hown.1.1]; exact Nat.le_refl _)
    rw [e1, e2, List.append_nil]
    exact insVec_end a i c vb B xs news w hown hvb hl hB hn h1 hnn
  · have hlt : i < n := by omega
    have hown' := hown
    rcases hown.1.2 with ⟨_, h0⟩ | ⟨g, cap, cur, rfl, _⟩
    · omega
    · by_cases hr : n + 1 ≤ cap
      · exact insVec_room g n cap i vb B xs news w hown' hlt hr hvb (fun e => hne (by rw [e]; rfl)) hl h1 hnn h1x
      · exact insVec_grow g n cap i vb B xs news w hown' hlt (by omega) hvb hl hB hn h1 hnn h1x

end Go.Proofs.YtphdadibfeencaaGreat

/-
  Grids in the program (layer 7): the predicate by which a row's place is searched, and lists of rows that are kept.
-/
set_option maxRecDepth 100000
namespace Go.Proofs.YtphdadibfeencaaGreat
open Go.RowKit

set_option maxHeartbeats 1000000 in
theorem redpred_any (bx lx : Nat) (v : Value) (L : List Rw) (i : Nat) (ld : Int) (w : World) (hbx : w.cell? ⟨bx, 0, none⟩ = some v) (hlx : w.cell? ⟨lx, 0, none⟩ = some (.int .i64 ld)) (hL : IsRL w v L) (hi : i < L.length) :
    Calls Tryz.prog 66 #[.int .i64 (i : Int), .pointer (some ⟨bx, 0, none⟩), .pointer (some ⟨lx, 0, none⟩)] w fun e w' => e = .returned (.bool (decide (ld < leadI (rwAt L i).1))) ∧ Below w.heap.size w w' := by
  have HL := Lib.hid hL
  obtain ⟨b, off, c, rfl, _⟩ := hL.addr (by omega)
  obtain ⟨x, y, h1, h2, hb1, hb2⟩ := hL.cells i hi
  have HB1 := Lib.hid hb1
  obtain ⟨xa, xc, rfl, _⟩ := hb1
  have k0 : (0 : Int) ≤ (i : Int) := Int.natCast_nonneg _
  have k1 : (i : Int) < (L.length : Int) := by omega
  clear hL hi hb2
  go_enter Tryz.func66, Tryz.ntmps66
  go_wp2_with fail
  go_quiet ((first | (go_at_call 64; exact quiet_eq (lead_any _ (rwAt L i).1 _ (HB1.out.drewN _)))))
  go_wp2_with fail
  go_ret
  exact ⟨rfl, below_drews _ _⟩

end Go.Proofs.YtphdadibfeencaaGreat

/-
  Lists of rows that a call owns: a row put in by slices.Insert; a row stored in a region that draws its order.
-/
set_option maxRecDepth 100000
namespace Go.Proofs.YtphdadibfeencaaGreat
open Go.RowKit

theorem pairs_take : ∀ (us : List (Value × Value)) (i : Nat), (pairs us).take (i * 2) = pairs (us.take i)
  | [], i => by simp [pairs]
  | u :: us, 0 => by simp [pairs]
  | u :: us, i + 1 => by
    rw [show (i + 1) * 2 = i * 2 + 1 + 1 by omega]
    simp only [pairs, List.take_succ_cons]
    rw [pairs_take us i]
theorem pairs_drop : ∀ (us : List (Value × Value)) (i : Nat), (pairs us).drop (i * 2) = pairs (us.drop i)
  | [], i => by simp [pairs]
  | u :: us, 0 => by simp [pairs]
  | u :: us, i + 1 => by
    rw [show (i + 1) * 2 = i * 2 + 1 + 1 by omega]
    simp only [pairs, List.drop_succ_cons]
    rw [pairs_drop us i]
theorem Each.take {w : World} {us : List (Value × Value)} {L : List Rw} (h : Each w us L) (i : Nat) : Each w (us.take i) (L.take i) := ⟨by simp [h.len], fun j u hu => by
  rw [List.getElem?_take] at hu
  split at hu
  · rename_i hj
    rw [show rwAt (L.take i) j = rwAt L j from by unfold rwAt; rw [List.getD_eq_getElem?_getD, List.getElem?_take, if_pos hj, ← List.getD_eq_getElem?_getD]]
    exact h.row j u hu
  · cases hu⟩
theorem Each.drop {w : World} {us : List (Value × Value)} {L : List Rw} (h : Each w us L) (i : Nat) : Each w (us.drop i) (L.drop i) := ⟨by simp [h.len], fun j u hu => by
  rw [List.getElem?_drop] at hu
  rw [show rwAt (L.drop i) j = rwAt L (i + j) from by unfold rwAt; rw [List.getD_eq_getElem?_getD, List.getElem?_drop, ← List.getD_eq_getElem?_getD]]
  exact h.row _ u hu⟩
theorem Each.cons {w : World} {us : List (Value × Value)} {L : List Rw} {x y : Value} {r : Rw} (h : Each w us L) (hx : Bytes w x r.1) (hy : Bytes w y r.2) : Each w ((x, y) :: us) (r :: L) := ⟨by simp [h.len], fun j u hu => by
  cases j with
  | zero => simp at hu; subst hu; exact ⟨hx, hy⟩
  | succ j => exact h.row j u (by simpa using hu)⟩
/-- Blocks of other elements lie elsewhere. -/
theorem OwnL.ne_box {w : World} {B g : Nat} {T T' : TypeId} {v : Value} {L : List Rw} {vs : Array Value} (h : OwnL w B T v L) (k : Blk w g vs T') (hT : T ≠ T') : v.ownBlock ≠ some g := by
  obtain ⟨us, ⟨⟨_, h2⟩, _⟩, _⟩ := h
  rcases h2 with ⟨rfl, _⟩ | ⟨g', cap, cur, rfl, _, hg, _⟩
  · intro e; cases e
  · intro e
    simp only [Value.ownBlock, Option.some.injEq] at e
    subst e
    unfold Blk at k
    rw [hg] at k
    simp only [Option.some.injEq, Obj.cells.injEq] at k
    exact hT k.2.1

theorem insrow_any (v x y : Value) (L : List Rw) (i vb B : Nat) (r : Rw) (w : World) (hown : OwnL w B 46 v L) (hi : i ≤ L.length) (hvb : Blk w vb #[x, y] 46) (hx : Bytes w x r.1) (hy : Bytes w y r.2) (hne : v.ownBlock ≠ some vb) (hB : B ≤ w.heap.size) (hn : L.length ≤ 1000000000) :
    Calls Tryz.prog 67 #[v, .int .i64 (i : Int), .slice (some ⟨vb, 0, none⟩) 1 1] w fun e w' =>
      ∃ v', e = .returned v' ∧ OwnL w' B 46 v' (L.take i ++ r :: L.drop i) ∧ w.grownBy w' v.ownBlock ∧ Soft w w' := by
  obtain ⟨us, h1, h2⟩ := hown
  have hN : ∀ u ∈ [x, y], (∀ k : Nat, u ≠ U8 k) ∧ u.oneCell' = true := by
    obtain ⟨a, c, rfl, _⟩ := hx
    obtain ⟨a', c', rfl, _⟩ := hy
    intro u hu
    rcases List.mem_cons.1 hu with rfl | hu
    · exact ⟨slice_ne _ _ _, rfl⟩
    · rcases List.mem_cons.1 hu with rfl | hu
      · exact ⟨slice_ne _ _ _, rfl⟩
      · cases hu
  refine (insVec_any v L.length i vb B (pairs us) [x, y] w h1 hi hvb hne rfl hB (by omega) (fun u hu => (hN u hu).2) (fun u hu => (hN u hu).1) (fun u hu => (h2.noU8 u hu).2)).mono ?_
  rintro e w' ⟨v', rfl, k1, k2, k3⟩
  refine ⟨v', rfl, ⟨us.take i ++ (x, y) :: us.drop i, ?_, ?_⟩, k2, k3⟩
  · rw [pairs_append, ← pairs_take, show pairs ((x, y) :: us.drop i) = [x, y] ++ pairs (us.drop i) from rfl, ← pairs_drop]
    rw [show (L.take i ++ r :: L.drop i).length = L.length + 1 by simp; omega, ← List.append_assoc]
    exact k1
  · exact ((h2.take i).append ((h2.drop i).cons hx hy)).soft k3

section
variable {W : World} {g : Nat}
theorem OwnL.he {w w' : World} {c B : Nat} {T : TypeId} {v : Value} {L : List Rw} (hg : ∀ k, v.ownBlock = some k → k < W.heap.size) (h : OwnL w B T v L) (hc : not0 c = true) (hH : He W g c w w') : OwnL w' B T v L := by
  have hs := hH.soft
  unfold He at hH
  rw [if_neg (by simpa [not0] using hc)] at hH
  obtain ⟨g', vs, vs', T', hg', hk, hn, hw, _⟩ := hH
  refine h.other hw hs fun e => ?_
  have := hg g' e
  omega
/-- The store of a row into a list. -/
def TyE.storesL (v : Value) (hg : ∀ k, v.ownBlock = some k → k < W.heap.size) (B : Nat) (T : TypeId) (L L' : List Rw) : Ty (Ce W g) Rb (He W g) :=
  ⟨[], fun _ w => OwnL w B T v L', some 0, not0, fun _ _ _ _ hR h => h.go hR, fun _ hc _ _ _ _ hH h => h.he hg hc hH,
    fun w => OwnL w B T v L, not0, fun _ _ _ hR h => h.go hR, fun _ hc _ _ _ hH h => h.he hg hc hH⟩
end

set_option maxHeartbeats 400000 in
theorem ob_storesL {W : World} {g n cap B k : Nat} {L : List Rw} (hg : ∀ k, (Value.slice (some ⟨g, 0, none⟩) n cap).ownBlock = some k → k < W.heap.size) {a : Act} {w : World} {o : Oper} {Q : Exit → Act → World → Prop} {x y : Operand} {r : Rw} (hop : o.op = .store 46 x y) (hx : a.eval x = .pointer (some ⟨g, k * 2, none⟩)) (hV : IsRow w (a.eval y) r.1 r.2)
    (hk : k < L.length) (hO : OwnL w B 46 (.slice (some ⟨g, 0, none⟩) n cap) L) : Done Tryz.prog (TyE.storesL (W := W) (g := g) (.slice (some ⟨g, 0, none⟩) n cap) hg B 46 L (L.set k r)) Q o a w := by
  obtain ⟨a1, c1, a2, c2, e⟩ := hV.shape
  rw [e] at hV
  obtain ⟨_, _, er, hb1, hb2⟩ := hV
  simp only [Value.agg.injEq, Array.mk.injEq, List.cons.injEq, and_true] at er
  obtain ⟨rfl, rfl⟩ := er
  obtain ⟨k1, k2, k3⟩ := hO.set k hk hb1 hb2
  obtain ⟨b1, d1, b2, d2, e0, e1, _, _⟩ := hO.cells k hk
  have f0 := hO.free (k * 2)
  have f1 := hO.free (k * 2 + 1)
  refine ob_store0 ((w.setCell ⟨g, k * 2, none⟩ (.slice a1 r.1.length c1)).setCell ⟨g, k * 2 + 1, none⟩ (.slice a2 r.2.length c2)) rfl rfl hop hx e ?_ (by unfold He; rw [if_pos rfl]; exact ⟨k3, k2⟩) k1
  clear k1 k2 k3 hO hb1 hb2
  go_simp

end Go.Proofs.YtphdadibfeencaaGreat
