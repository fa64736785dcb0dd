/- Texts of one seat, laid together: InsVec, LaM, LaN. -/
import Derived.Test.YtohfcdgpllghbaaQ16
import Derived.Shelf.Spec.SlicesInsert
import Derived.Laws.CopyOwn
import Derived.Test.YtohfcdgpllghbaaQ15

/-
  slices.Insert of one element (Vec): there is room, or there is none, or it comes last.
-/
set_option maxRecDepth 100000
namespace Go.Proofs.Ytohfcdgpllghbaa
open Go.RowKit

theorem infoVec : (Try.prog.info? 61).map (fun i => (i.zero, i.size, i.bytes)) = some (some (.agg #[.slice none 0 0, .slice none 0 0]), 2, 48) := by kernel_rfl

set_option maxHeartbeats 2000000 in
/-- There is room: in place. -/
theorem insVec_room (g n cap i vb : Nat) (B : Nat) (xs news : List Value) (w : World) (hown : OwnN w B 61 2 (.slice (some ⟨g, 0, none⟩) n cap) n xs) (hi : i < n) (hroom : n + 1 ≤ cap) (hvb : Blk w vb news.toArray 61) (hne : vb ≠ g) (hl : news.length = 2)
    (h1 : ∀ u ∈ news, u.oneCell' = true) (hnn : ∀ u ∈ news, ∀ k : Nat, u ≠ U8 k) (h1x : ∀ u ∈ xs, u.oneCell' = true) :
    Calls Try.prog 86 #[.slice (some ⟨g, 0, none⟩) n cap, .int .i64 (i : Int), .slice (some ⟨vb, 0, none⟩) 1 1] w fun e w' =>
      ∃ v', e = .returned v' ∧ OwnN w' B 61 2 v' (n + 1) (xs.take (i * 2) ++ news ++ xs.drop (i * 2)) ∧ w.grownBy w' (some g) ∧ Soft w w' := by
  have hcap : cap ≤ 9223372036854775807 := by
    rcases hown.1.2 with ⟨e, _⟩ | ⟨g', cap', cur', e, hB, hg', hnc, hcm, hcs, htake⟩
    · cases e
    · simp only [Value.slice.injEq, Option.some.injEq, Addr.mk.injEq, and_true, true_and] at e
      obtain ⟨rfl, rfl⟩ := e
      simpa [maxLen] using hcm
  obtain ⟨cur, hg, hcs, htake⟩ : ∃ cur : Array Value, w.heap[g]? = some (.cells cur 61 (0, 0)) ∧ cur.size = cap * 2 ∧ cur.toList.take (n * 2) = xs := by
    rcases hown.1.2 with ⟨e, _⟩ | ⟨g', cap', cur', e, hB, hg', hnc, hcm, hcs, htake⟩
    · cases e
    · simp only [Value.slice.injEq, Option.some.injEq, Addr.mk.injEq, and_true, true_and] at e
      obtain ⟨rfl, rfl⟩ := e
      exact ⟨cur', hg', hcs, htake⟩
  have hxl : xs.length = n * 2 := hown.1.1
  have hdl : (xs.drop (i * 2)).length = (n - i) * 2 := by rw [List.length_drop, hxl]; omega
  obtain ⟨i0, hi0, hz0, hz1, hz2⟩ := info_parts infoVec
  have hs0 : (Try.prog.info? 61).map (·.size) = some 2 := by rw [hi0]; simp [hz1]
  have hso : ∀ w, (Go.sizeOf 61).run Try.prog w = .ok 2 w := fun w => by simp [sizeOf, typeInfo, hi0, hz1]
  have hov : ∀ lb cb, (callFunc 101 #[.slice (some ⟨vb, 0, none⟩) 1 1, .slice (some ⟨g, (i + 1) * 2, none⟩) lb cb]).run Try.prog w = .ok (.value (.bool false)) w := fun lb cb => by
    rw [run_callFunc_extern Try.func101 (by kernel_rfl) (by kernel_rfl) (by kernel_rfl) (e := Extern.SlicesOverlaps.overlaps #[79, 79] #[4]) (by kernel_rfl),
      Lib.run_overlaps_apart w 79 4 61 Try.underlying79 2 hso ⟨vb, 0, none⟩ ⟨g, (i + 1) * 2, none⟩ 1 1 lb cb hne 61 61 2 (cap * 2) (by unfold World.shape?; rw [hvb]; simp [hl]) (by unfold World.shape?; rw [hg]; simp [hcs]) (by omega) (hvb.free 0) (hvb.free 2)]
    rfl
  obtain ⟨W1, hW1⟩ : ∃ W1, W1 = w.drew.setRow g (wr cur.toList (i * 2 + 2) (xs.drop (i * 2))).toArray := ⟨_, rfl⟩
  have hfit1 : i * 2 + 2 + (xs.drop (i * 2)).length ≤ cur.size := by rw [hdl, hcs]; omega
  have hcp1 : ∀ ty dc sc, (Builtin.copy_ #[79, 79] ty #[.slice (some ⟨g, (i + 1) * 2, none⟩) (n - i) dc, .slice (some ⟨g, i * 2, none⟩) (n + 1 - i) sc]).run Try.prog w.drew = .ok (goInt (n - i : Nat)) W1 := fun ty dc sc => by
    rw [hW1, show (i + 1) * 2 = i * 2 + 2 by omega]
    refine run_copy_rowN w.drew 79 79 ty 61 g (i * 2 + 2) _ dc ⟨g, i * 2, none⟩ _ sc cur 61 (xs.drop (i * 2)) 2 (n - i) Try.underlying79 hs0 hg (by simp only [Nat.min_def]; split <;> omega) hdl (fun j v hj => ?_) hfit1 (fun v hv => h1x v (List.mem_of_mem_drop hv))
    rw [row_add, cell_of_row w.drew g _ cur 61 (0, 0) hg, ← Array.getElem?_toList]
    rw [List.getElem?_drop] at hj
    rw [← htake, List.getElem?_take] at hj
    split at hj
    · exact hj
    · cases hj
  have hW1g : W1.heap[g]? = some (.cells (wr cur.toList (i * 2 + 2) (xs.drop (i * 2))).toArray 61 (0, 0)) := by rw [hW1]; exact setRow_heap w.drew g cur _ 61 _ hg
  have hW1v : W1.heap[vb]? = some (.cells news.toArray 61 (0, 0)) := by rw [hW1, setRow_other w.drew g vb _ hne]; exact hvb
  have hwl : (wr cur.toList (i * 2 + 2) (xs.drop (i * 2))).length = cur.toList.length := wr_length (by rw [Array.length_toList]; exact hfit1)
  have hcp2 : ∀ (W : World), W.heap = W1.heap → ∀ ty dc, (Builtin.copy_ #[79, 79] ty #[.slice (some ⟨g, i * 2, none⟩) (n + 1 - i) dc, .slice (some ⟨vb, 0, none⟩) 1 1]).run Try.prog W = .ok (goInt (1 : Nat)) (W.setRow g (wr (wr cur.toList (i * 2 + 2) (xs.drop (i * 2))) (i * 2) news).toArray) := fun W hW ty dc => by
    refine run_copy_rowN W 79 79 ty 61 g (i * 2) _ dc ⟨vb, 0, none⟩ _ 1 (wr cur.toList (i * 2 + 2) (xs.drop (i * 2))).toArray 61 news 2 1 Try.underlying79 hs0 (by rw [hW]; exact hW1g) (by simp only [Nat.min_def]; split <;> omega) (by rw [hl]) (fun j v hj => ?_) (by simp only [List.size_toArray]; rw [hwl, hl, Array.length_toList]; omega) h1
    rw [row_add, Nat.zero_add, cell_of_row W vb _ news.toArray 61 (0, 0) (by rw [hW]; exact hW1v)]
    simpa using hj
  have hend : wr (wr cur.toList (i * 2 + 2) (xs.drop (i * 2))) (i * 2) news = insd cur.toList (i * 2) news (xs.drop (i * 2)) := by
    have := wr_back (cur := cur.toList) (N := news) (D := xs.drop (i * 2)) (o := i * 2) (by rw [hl, Array.length_toList]; exact hfit1)
    rw [hl] at this; exact this
  have HO := Lib.hid hown
  have HG := Lib.hid hg
  have HE := Lib.hid hend
  have HW := Lib.hid hW1
  have HC2 := Lib.hid hcp2
  have HL := Lib.hid hl
  have HN := Lib.hid hnn
  have mixed : Try.prog.follows Departure.mixedOrders = true := by kernel_rfl
  have hz1 : ¬ ((1 : Int) = 0) := by omega
  have hz2' : ¬ ((i : Int) = (n : Int)) := by omega
  have hz3 : ¬ ((cap : Int) < (n : Int) + 1) := by omega
  have hw1 : IntKind.i64.wrap ((i : Int) + 1) = (i : Int) + 1 := by rw [IntKind.wrap_i64]; omega
  have hw2 : IntKind.i64.wrap ((n : Int) + 1) = (n : Int) + 1 := by rw [IntKind.wrap_i64]; omega
  have hb1 : (0 : Int) ≤ (i : Int) + 1 := by omega
  have hin : i ≤ n := by omega
  have htn : ((i : Int) + 1).toNat = i + 1 := by omega
  have htm : ((n : Int) + 1).toNat = n + 1 := by omega
  have hb2 : ¬ (cap = i + 1) := by omega
  have hb3 : (i : Int) ≤ (n : Int) + 1 := by omega
  have hb4 : ¬ (cap = i) := by omega
  clear hown hg hcs htake hxl hdl hs0 hso hfit1 hW1g hW1v hwl hend hz0 hi0 hvb hl h1 hnn h1x hcp2
  clear hW1
  go_enter Try.func86, Try.ntmps86
  go_wp2_with (simp only [hov])
  go_region_law_o (refine step_copy_runI rfl _ _ 79 79 rfl _ _ (by simp [Act.eval, Act.put]) (by simp [Act.eval, Act.put]) (hcp1 _ _ _) ?_)
  have hcpW := HC2.out W1 rfl
  go_wp2_with (simp only [hcpW])
  go_ret
  have hos : W1.os = w.os ∧ W1.tape = w.tape ∧ W1.output = w.output := by rw [HW.out]; exact ⟨rfl, rfl, rfl⟩
  have hsetset : (W1.setRow g (wr (wr cur.toList (i * 2 + 2) (xs.drop (i * 2))) (i * 2) news).toArray).heap = (w.setRow g (insd cur.toList (i * 2) news (xs.drop (i * 2))).toArray).heap := by
    rw [HW.out, setRow_setRow, HE.out]; rfl
  obtain ⟨r1, r2, r3⟩ := own_insd (w' := W1.setRow g (wr (wr cur.toList (i * 2 + 2) (xs.drop (i * 2))) (i * 2) news).toArray) HO.out HG.out hin hroom HL.out HN.out hsetset hos.1 hos.2.1 hos.2.2
  exact ⟨_, rfl, r1, r2, r3⟩

set_option maxHeartbeats 2000000 in
/-- There is none: a new block. -/
theorem insVec_grow (g n cap i vb : Nat) (B : Nat) (xs news : List Value) (w : World) (hown : OwnN w B 61 2 (.slice (some ⟨g, 0, none⟩) n cap) n xs) (hi : i < n) (hroom : cap < n + 1) (hvb : Blk w vb news.toArray 61) (hl : news.length = 2) (hB : B ≤ w.heap.size) (hn : n ≤ 1000000000000)
    (h1 : ∀ u ∈ news, u.oneCell' = true) (hnn : ∀ u ∈ news, ∀ k : Nat, u ≠ U8 k) (h1x : ∀ u ∈ xs, u.oneCell' = true) :
    Calls Try.prog 86 #[.slice (some ⟨g, 0, none⟩) n cap, .int .i64 (i : Int), .slice (some ⟨vb, 0, none⟩) 1 1] w fun e w' =>
      ∃ v', e = .returned v' ∧ OwnN w' B 61 2 v' (n + 1) (xs.take (i * 2) ++ news ++ xs.drop (i * 2)) ∧ w.grownBy w' (some g) ∧ Soft w w' := by
  obtain ⟨cur, hg, hnc, hcs, htake⟩ : ∃ cur : Array Value, w.heap[g]? = some (.cells cur 61 (0, 0)) ∧ n ≤ cap ∧ cur.size = cap * 2 ∧ cur.toList.take (n * 2) = xs := by
    rcases hown.1.2 with ⟨e, _⟩ | ⟨g', cap', cur', e, hB, hg', hnc, hcm, hcs, htake⟩
    · cases e
    · simp only [Value.slice.injEq, Option.some.injEq, Addr.mk.injEq, and_true, true_and] at e
      obtain ⟨rfl, rfl⟩ := e
      exact ⟨cur', hg', hnc, hcs, htake⟩
  have hxl : xs.length = n * 2 := hown.1.1
  have hxc : ∀ (W : World), W.heap[g]? = w.heap[g]? → ∀ j v, xs[j]? = some v → W.cell? ⟨g, j, none⟩ = some v := fun W hW j v hj => by
    rw [cell_of_row W g j cur 61 (0, 0) (by rw [hW]; exact hg), ← Array.getElem?_toList]
    rw [← htake, List.getElem?_take] at hj
    split at hj
    · exact hj
    · cases hj
  have hgl : g < w.heap.size := (Array.getElem?_eq_some_iff.1 hg).1
  have hvl : vb < w.heap.size := hvb.lt
  have hdl : (xs.drop (i * 2)).length = (n - i) * 2 := by rw [List.length_drop, hxl]; omega
  have hil : (xs.take (i * 2)).length = i * 2 := by rw [List.length_take, hxl]; omega
  obtain ⟨i0, hi0, hz0, hz1, hz2⟩ := info_parts infoVec
  have hs0 : (Try.prog.info? 61).map (·.size) = some 2 := by rw [hi0]; simp [hz1]
  have hzu : ∀ k : Nat, ∀ u ∈ (Builtin.zeroCells (.agg #[.slice none 0 0, .slice none 0 0] : Value).cells k).toList, ∀ x : Nat, u ≠ U8 x := fun k u hu x => by
    have := zeroCells_mem hu
    simp [Value.cells] at this
    first
      | (subst this; exact slice_ne _ _ _ x)
      | (rcases this with rfl | rfl <;> first | exact slice_ne _ _ _ x | (intro e; cases e))
  have hxu : ∀ u ∈ xs, ∀ k : Nat, u ≠ U8 k := fun u hu k => by
    rw [← htake] at hu
    exact row_of_loose hg (hown.2 g rfl) u (List.mem_of_mem_take hu) k
  obtain ⟨G, hG⟩ : ∃ G, G = grownCap w (n + 1) cap 61 := ⟨_, rfl⟩
  have hGn : n + 1 ≤ G := by rw [hG]; exact grownCap_ge w _ _ _
  have hGm : G ≤ maxLen := by rw [hG]; exact grownCap_le_maxLen w _ _ _ (by unfold maxLen; omega)
  have hG63 : G ≤ 9223372036854775807 := by simpa [maxLen] using hGm
  obtain ⟨row, hrow⟩ : ∃ row : Array Value, row = (xs.take (i * 2)).toArray ++ Builtin.zeroCells (.agg #[.slice none 0 0, .slice none 0 0] : Value).cells (n + 1 - i) ++ Builtin.zeroCells (.agg #[.slice none 0 0, .slice none 0 0] : Value).cells (G - (n + 1)) := ⟨_, rfl⟩
  have hrl : row.size = G * 2 := by
    rw [hrow]
    simp only [Array.size_append, List.size_toArray, hil, Builtin.zeroCells, Array.size_map, Array.size_range]
    simp [Value.cells]
    omega
  have hrl' : row.toList.length = G * 2 := by rw [Array.length_toList]; exact hrl
  have hrt : row.toList.take (i * 2) = xs.take (i * 2) := by
    rw [hrow]
    simp only [Array.toList_append, List.append_assoc]
    rw [List.take_append_of_le_length (by simpa using (Nat.le_of_eq hil.symm)), List.take_of_length_le (by simpa using (Nat.le_of_eq hil))]
  have hru : ∀ u ∈ row.toList, ∀ k : Nat, u ≠ U8 k := fun u hu k => by
    rw [hrow] at hu
    simp only [Array.toList_append, List.mem_append] at hu
    rcases hu with (hu | hu) | hu
    · exact hxu u (List.mem_of_mem_take hu) k
    · exact hzu _ u hu k
    · exact hzu _ u hu k
  obtain ⟨W1, hW1⟩ : ∃ W1, W1 = w.drew.alloc (.cells row 61) := ⟨_, rfl⟩
  have hkk : (n : Int) + 1 - (i : Int) = ((n + 1 - i : Nat) : Int) := by omega
  have hik : i + (n + 1 - i) = n + 1 := by omega
  have hrz : ∀ ty, (Builtin.append_ #[79, 3] ty #[.slice (some ⟨g, 0, none⟩) i cap, .int .i64 ((n : Int) + 1 - (i : Int))]).run Try.prog w = .ok (.slice (some ⟨w.heap.size, 0, none⟩) (n + 1) G) W1 := fun ty => by
    have h := Lib.run_append_grow_zeros w 79 3 ty 61 i0 _ .i64 .i64 Try.underlying79 Try.underlying3 hi0 hz0 (some ⟨g, 0, none⟩) i cap (xs.take (i * 2)) (by rw [hz1]; exact firstCells_take w.drew 2 i _ cap xs n hxl (by omega) (fun j v hj => by rw [row_add, Nat.zero_add]; exact hxc w.drew rfl j v hj))
      (n + 1 - i) (by omega) (by omega) (by omega) (by omega) (by rw [hz2]; omega) (by rw [hz2, hik]; exact growslice_fits (by omega) (by omega))
    rw [hik, ← hG] at h
    rw [hkk, hW1, hrow]
    exact h
  have hW1r : W1.heap[w.heap.size]? = some (.cells row 61 (0, 0)) := by rw [hW1]; exact heap_alloc_new w.drew _
  have hW1o : ∀ k, k < w.heap.size → W1.heap[k]? = w.heap[k]? := fun k hk => by rw [hW1]; exact Below.heap_alloc w.drew _ _ hk
  have hcpA : ∀ ty dc, (Builtin.copy_ #[79, 79] ty #[.slice (some ⟨w.heap.size, i * 2, none⟩) (n + 1 - i) dc, .slice (some ⟨vb, 0, none⟩) 1 1]).run Try.prog W1 = .ok (goInt (1 : Nat)) (W1.setRow w.heap.size (wr row.toList (i * 2) news).toArray) := fun ty dc => by
    refine run_copy_rowN W1 79 79 ty 61 w.heap.size (i * 2) _ dc ⟨vb, 0, none⟩ _ 1 row 61 news 2 1 Try.underlying79 hs0 hW1r (by simp only [Nat.min_def]; split <;> omega) (by rw [hl]) (fun j v hj => ?_) (by rw [hl, hrl]; omega) h1
    rw [row_add, Nat.zero_add, cell_of_row W1 vb _ news.toArray 61 (0, 0) (by rw [hW1o vb hvl]; exact hvb)]
    simpa using hj
  have hwl : (wr row.toList (i * 2) news).length = row.toList.length := wr_length (by rw [hl, hrl']; omega)
  obtain ⟨W2, hW2⟩ : ∃ W2, W2 = W1.setRow w.heap.size (wr row.toList (i * 2) news).toArray := ⟨_, rfl⟩
  have hW2r : W2.heap[w.heap.size]? = some (.cells (wr row.toList (i * 2) news).toArray 61 (0, 0)) := by rw [hW2]; exact setRow_heap W1 _ row _ 61 _ hW1r
  have hW2o : ∀ k, k < w.heap.size → W2.heap[k]? = w.heap[k]? := fun k hk => by rw [hW2, setRow_other W1 _ k _ (by omega)]; exact hW1o k hk
  rw [← hW2] at hcpA
  have hcpB : ∀ ty dc sc, (Builtin.copy_ #[79, 79] ty #[.slice (some ⟨w.heap.size, (i + 1) * 2, none⟩) (n - i) dc, .slice (some ⟨g, i * 2, none⟩) (n - i) sc]).run Try.prog W2.drew = .ok (goInt (n - i : Nat)) (W2.drew.setRow w.heap.size (wr (wr row.toList (i * 2) news) (i * 2 + 2) (xs.drop (i * 2))).toArray) := fun ty dc sc => by
    rw [show (i + 1) * 2 = i * 2 + 2 by omega]
    refine run_copy_rowN W2.drew 79 79 ty 61 w.heap.size (i * 2 + 2) _ dc ⟨g, i * 2, none⟩ _ sc (wr row.toList (i * 2) news).toArray 61 (xs.drop (i * 2)) 2 (n - i) Try.underlying79 hs0 hW2r (by simp only [Nat.min_def]; split <;> omega) hdl (fun j v hj => ?_) (by simp only [List.size_toArray]; rw [hwl, hdl, hrl']; omega) (fun v hv => h1x v (List.mem_of_mem_drop hv))
    rw [row_add]
    rw [List.getElem?_drop] at hj
    exact hxc W2.drew (hW2o g hgl) _ v hj
  have hend : wr (wr row.toList (i * 2) news) (i * 2 + 2) (xs.drop (i * 2)) = insd row.toList (i * 2) news (xs.drop (i * 2)) := by
    have := wr_fwd (cur := row.toList) (N := news) (D := xs.drop (i * 2)) (o := i * 2) (by rw [hl, hdl, hrl']; omega)
    rw [hl] at this; exact this
  have hfin : Below w.heap.size w (W2.drew.setRow w.heap.size (wr (wr row.toList (i * 2) news) (i * 2 + 2) (xs.drop (i * 2))).toArray) ∧
      (W2.drew.setRow w.heap.size (wr (wr row.toList (i * 2) news) (i * 2 + 2) (xs.drop (i * 2))).toArray).heap[w.heap.size]? = some (.cells (insd row.toList (i * 2) news (xs.drop (i * 2))).toArray 61 (0, 0)) := by
    refine ⟨below_setRow ?_ (Nat.le_refl _) _, by rw [hend]; exact setRow_heap W2.drew _ _ _ 61 _ hW2r⟩
    have b1 : Below w.heap.size w W1 := by rw [hW1]; exact ((Below.refl _ w).drew).alloc (Nat.le_refl _) _
    have b2 : Below w.heap.size w W2 := by rw [hW2]; exact below_setRow b1 (Nat.le_refl _) _
    exact b2.drew
  have HF := Lib.hid hfin
  have HO := Lib.hid hown
  have HL := Lib.hid hl
  have HN := Lib.hid hnn
  have HRU := Lib.hid hru
  have HRL := Lib.hid hrl
  have HRT := Lib.hid hrt
  have HW := Lib.hid hW2
  have mixed : Try.prog.follows Departure.mixedOrders = true := by kernel_rfl
  have hz1 : ¬ ((1 : Int) = 0) := by omega
  have hz2' : ¬ ((i : Int) = (n : Int)) := by omega
  have hz3 : (cap : Int) < (n : Int) + 1 := by omega
  have hw1 : IntKind.i64.wrap ((i : Int) + 1) = (i : Int) + 1 := by rw [IntKind.wrap_i64]; omega
  have hb1 : (0 : Int) ≤ (i : Int) + 1 := by omega
  have hin : i ≤ n := by omega
  have htn : ((i : Int) + 1).toNat = i + 1 := by omega
  have hb2 : ¬ (G = i + 1) := by omega
  have hb3 : (i : Int) ≤ (n : Int) := by omega
  have hb4 : ¬ (G = i) := by omega
  have hb5 : ¬ (cap = i) := by omega
  clear hown hg hcs htake hxl hdl hs0 hend hz0 hi0 hvb hl h1 hnn h1x hW1 hW2 hrl' hrl hrt hru hrow hxc hil hzu hxu hG hkk hik hW1r hW1o hwl hW2r hW2o hfin
  go_enter Try.func86, Try.ntmps86
  go_wp2_with (first | (at_builtin; refine Lib.wpList_append_run _ rfl _ _ _ _ rfl _ _ rfl rfl _ _ (hrz _) ?_) | simp only [hcpA])
  go_region_law_o (refine step_copy_runI rfl _ _ 79 79 rfl _ _ (by simp [Act.eval, Act.put]) (by simp [Act.eval, Act.put]) (hcpB _ _ _) ?_)
  go_wp2_with fail
  go_ret
  obtain ⟨r1, r2, r3⟩ := own_insnew HO.out hin hB hGn hGm HL.out HN.out HRU.out HRL.out HRT.out HF.out.2 HF.out.1
  exact ⟨_, rfl, by simpa using r1, r2, r3⟩

set_option maxHeartbeats 2000000 in
/-- It comes last. -/
theorem insVec_end (a : Option Addr) (n cap vb : Nat) (B : Nat) (xs news : List Value) (w : World) (hown : OwnN w B 61 2 (.slice a n cap) n xs) (hvb : Blk w vb news.toArray 61) (hl : news.length = 2) (hB : B ≤ w.heap.size) (hn : n ≤ 1000000000000)
    (h1 : ∀ u ∈ news, u.oneCell' = true) (hnn : ∀ u ∈ news, ∀ k : Nat, u ≠ U8 k) :
    Calls Try.prog 86 #[.slice a n cap, .int .i64 (n : Int), .slice (some ⟨vb, 0, none⟩) 1 1] w fun e w' =>
      ∃ v', e = .returned v' ∧ OwnN w' B 61 2 v' (n + 1) (xs ++ news) ∧ w.grownBy w' (Value.slice a n cap).ownBlock ∧ Soft w w' := by
  obtain ⟨i0, hi0, hz0, hz1, hz2⟩ := info_parts infoVec
  have hzu : ∀ u ∈ (.agg #[.slice none 0 0, .slice none 0 0] : Value).cells.toList, ∀ x : Nat, u ≠ U8 x := fun u this x => by
    simp [Value.cells] at this
    first
      | (subst this; exact slice_ne _ _ _ x)
      | (rcases this with rfl | rfl <;> first | exact slice_ne _ _ _ x | (intro e; cases e))
  have hnews : ∀ j u, news[j]? = some u → w.cell? ((⟨vb, 0, none⟩ : Addr).add j) = some u := fun j v hj => by
    rw [row_add, Nat.zero_add, cell_of_row w vb _ news.toArray 61 (0, 0) hvb]
    simpa using hj
  have hl' : news.length = 1 * 2 := by rw [hl]
  have hcap : n ≤ cap ∧ cap ≤ 9223372036854775807 := by
    rcases hown.1.2 with ⟨e, h0⟩ | ⟨g', cap', cur', e, hB, hg', hnc, hcm, hcs, htake⟩
    · simp only [Value.slice.injEq] at e
      omega
    · simp only [Value.slice.injEq] at e
      obtain ⟨_, _, rfl⟩ := e
      exact ⟨hnc, by simpa [maxLen] using hcm⟩
  obtain ⟨hnc, hcm⟩ := hcap
  have hmx : n + 1 ≤ maxLen := by unfold maxLen; omega
  have hby : (n + 1) * 48 ≤ 140737488355328 := by omega
  have HO := Lib.hid hown
  have HM := Lib.hid hmx
  have HBY := Lib.hid hby
  have HNW := Lib.hid hnews
  have HL := Lib.hid hl'
  have H1 := Lib.hid h1
  have HN := Lib.hid hnn
  have HZ := Lib.hid hzu
  have hq1 : ¬ ((1 : Int) = 0) := by omega
  have hn0 : (0 : Int) ≤ (n : Int) := Int.natCast_nonneg _
  clear hown hmx hby hnews hl' hl h1 hnn hzu hvb
  rcases hsh : a with _ | ⟨g, off, fr⟩
  · have h0 : n = 0 := by
      rcases HO.out.1.2 with ⟨_, h0⟩ | ⟨g', cap', cur', e, _⟩
      · exact h0
      · rw [hsh] at e; cases e
    subst hsh
    subst h0
    go_enter Try.func86, Try.ntmps86
    go_wp2_with (at_builtin; refine wpList_append_soft rfl _ _ 79 rfl B 61 i0 (.agg #[.slice none 0 0, .slice none 0 0]) 2 48 Try.underlying79 hi0 hz0 hz1 hz2 rfl (by decide) _ 0 xs rfl HO.out ⟨vb, 0, none⟩ 1 1 news rfl HL.out HNW.out H1.out HZ.out HN.out HM.out HBY.out hB (fun v' w' k1 k2 k3 => ?_))
    go_ret
    exact ⟨_, rfl, k1, k2, k3⟩
  · obtain ⟨rfl, rfl⟩ : off = 0 ∧ fr = none := by
      rcases HO.out.1.2 with ⟨e, _⟩ | ⟨g', cap', cur', e, _⟩
      · rw [hsh] at e; cases e
      · rw [hsh] at e
        simp only [Value.slice.injEq, Option.some.injEq, Addr.mk.injEq] at e
        exact ⟨e.1.2.1, e.1.2.2⟩
    subst hsh
    by_cases hcn : cap = n
    · go_enter Try.func86, Try.ntmps86
      go_wp2_with (at_builtin; refine wpList_append_soft rfl _ _ 79 rfl B 61 i0 (.agg #[.slice none 0 0, .slice none 0 0]) 2 48 Try.underlying79 hi0 hz0 hz1 hz2 rfl (by decide) _ n xs rfl HO.out ⟨vb, 0, none⟩ 1 1 news rfl HL.out HNW.out H1.out HZ.out HN.out HM.out HBY.out hB (fun v' w' k1 k2 k3 => ?_))
      go_ret
      exact ⟨_, rfl, k1, k2, k3⟩
    · go_enter Try.func86, Try.ntmps86
      go_wp2_with (at_builtin; refine wpList_append_soft rfl _ _ 79 rfl B 61 i0 (.agg #[.slice none 0 0, .slice none 0 0]) 2 48 Try.underlying79 hi0 hz0 hz1 hz2 rfl (by decide) _ n xs rfl HO.out ⟨vb, 0, none⟩ 1 1 news rfl HL.out HNW.out H1.out HZ.out HN.out HM.out HBY.out hB (fun v' w' k1 k2 k3 => ?_))
      go_ret
      exact ⟨_, rfl, k1, k2, k3⟩

/-- One element put in at a place. -/
theorem insVec_any (v : Value) (n i vb : Nat) (B : Nat) (xs news : List Value) (w : World) (hown : OwnN w B 61 2 v n xs) (hi : i ≤ n) (hvb : Blk w vb news.toArray 61) (hne : v.ownBlock ≠ some vb) (hl : news.length = 2) (hB : B ≤ w.heap.size) (hn : n ≤ 1000000000000)
    (h1 : ∀ u ∈ news, u.oneCell' = true) (hnn : ∀ u ∈ news, ∀ k : Nat, u ≠ U8 k) (h1x : ∀ u ∈ xs, u.oneCell' = true) :
    Calls Try.prog 86 #[v, .int .i64 (i : Int), .slice (some ⟨vb, 0, none⟩) 1 1] w fun e w' =>
      ∃ v', e = .returned v' ∧ OwnN w' B 61 2 v' (n + 1) (xs.take (i * 2) ++ news ++ xs.drop (i * 2)) ∧ w.grownBy w' v.ownBlock ∧ Soft w w' := by
  have hsh : ∃ a c, v = .slice a n c := by
    rcases hown.1.2 with ⟨rfl, h0⟩ | ⟨g, cap, cur, rfl, _⟩
    · rw [h0]; exact ⟨_, _, rfl⟩
    · exact ⟨_, _, rfl⟩
  by_cases he : i = n
  · obtain ⟨a, c, rfl⟩ := hsh
    subst he
    have e1 : xs.take (i * 2) = xs := List.take_of_length_le (by rw [hown.1.1]; exact Nat.le_refl _)
    have e2 : xs.drop (i * 2) = [] := List.drop_of_length_le (by rw [hown.1.1]; exact Nat.le_refl _)
    rw [e1, e2, List.append_nil]
    exact insVec_end a i c vb B xs news w hown hvb hl hB hn h1 hnn
  · have hlt : i < n := by omega
    have hown' := hown
    rcases hown.1.2 with ⟨_, h0⟩ | ⟨g, cap, cur, rfl, _⟩
    · omega
    · by_cases hr : n + 1 ≤ cap
      · exact insVec_room g n cap i vb B xs news w hown' hlt hr hvb (fun e => hne (by rw [e]; rfl)) hl h1 hnn h1x
      · exact insVec_grow g n cap i vb B xs news w hown' hlt (by omega) hvb hl hB hn h1 hnn h1x

end Go.Proofs.Ytohfcdgpllghbaa

/-
  What the document's answers of layers 7 and 8 reckon, said of spans and ranks: rows put in, and cleared of each other. No program in this text.
-/
set_option maxRecDepth 100000
namespace Go.Proofs.Ytohfcdgpllghbaa
open La

theorem sp_perm {L M : List Vc} (h : ∀ v, v ∈ L ↔ v ∈ M) {x : Vc} : Sp L x ↔ Sp M x := ⟨fun k => k.sub fun v hv => (h v).1 hv, fun k => k.sub fun v hv => (h v).2 hv⟩
theorem put_mem_iff (L : List Rw) (y r : Rw) : r ∈ Ro.put L y ↔ r ∈ y :: L := by
  unfold Ro.put
  rw [List.mem_append, List.mem_cons, List.mem_cons]
  constructor
  · rintro (h | h | h)
    · exact .inr (List.mem_of_mem_take h)
    · exact .inl h
    · exact .inr (List.mem_of_mem_drop h)
  · rintro (h | h)
    · exact .inr (.inl h)
    · rw [← List.take_append_drop (Ro.ahead L y) L] at h
      rcases List.mem_append.1 h with h | h
      · exact .inl h
      · exact .inr (.inr h)
theorem put_map (f : Rw → Vc) (L : List Rw) (y : Rw) {v : Vc} : Sp ((Ro.put L y).map f) v ↔ Sp (f y :: L.map f) v :=
  sp_perm fun u => by
    rw [← List.map_cons, List.mem_map, List.mem_map]
    constructor
    · rintro ⟨r, hr, e⟩; exact ⟨r, (put_mem_iff L y r).1 hr, e⟩
    · rintro ⟨r, hr, e⟩; exact ⟨r, (put_mem_iff L y r).2 hr, e⟩

/-- One of a span with a multiple of what differs from another by the others: the other's span. -/
theorem sp_replace {L : List Vc} {x r : Vc} {c : B} (hc : c ≠ 0) (h : Sp L (va x r)) {v : Vc} : Sp (vs c r :: L) v ↔ Sp (x :: L) v := by
  have up : ∀ {a v : Vc}, Sp L v → Sp (a :: L) v := fun h => h.sub fun y hy => List.mem_cons_of_mem _ hy
  constructor
  · intro k
    refine k.mono fun y hy => ?_
    rcases List.mem_cons.1 hy with rfl | hy
    · exact ((Sp.lin _).of_sum (Sp.mem List.mem_cons_self) (up h)).smul c
    · exact up (Sp.mem hy)
  · intro k
    refine k.mono fun y hy => ?_
    rcases List.mem_cons.1 hy with rfl | hy
    · have hr : Sp (vs c r :: L) r := by
        have := (Sp.mem (List.mem_cons_self (a := vs c r) (l := L))).smul (iv c)
        rwa [vs_vs, iv_mul hc, one_vs] at this
      exact (Sp.lin _).of_sum' hr (up h)
    · exact up (Sp.mem hy)

theorem normC_bt {x : List Nat} : bt (normC x) ≠ 0 := (bt_ne (normC_lt x)).2 normC_ne

/-- A row more: of the vectors' span, always. -/
theorem insert_span1 {k t : Nat} {L : List Rw} (hD : Ro.Dims k t L) {x : Rw} (hx : Ro.Dim k t x) {v : Vc} : Sp ((Ro.insert L x).map f1) v ↔ Sp (f1 x :: L.map f1) v := by
  have hr := Ro.rest_dim hD hx
  have hsp := (rest_span hD hx).2
  unfold Ro.insert
  split
  · rw [put_map, f1_norm hr]
    exact sp_replace normC_bt hsp
  · rename_i hl
    have hz : f1 (Ro.rest L x) = v0 := (fv_zero hr.2.2.1).2 (zeroB_lead.2 fun h => hl (by
      rw [Ro.norm_lead hr]
      have : (Ro.norm (Ro.rest L x)).1.length = (Ro.rest L x).1.length := by show (Gf.scale _ _).length = _; rw [Gf.scale_length]
      rw [this]; exact h))
    rw [hz, va_zero] at hsp
    exact ⟨fun h => h.sub fun y hy => List.mem_cons_of_mem _ hy, fun h => h.mono fun y hy => by
      rcases List.mem_cons.1 hy with rfl | hy
      · exact hsp
      · exact Sp.mem hy⟩
/-- And of the whole rows, where something of the vector is left, or nothing at all. -/
theorem insert_span {k t : Nat} {L : List Rw} (hD : Ro.Dims k t L) {x : Rw} (hx : Ro.Dim k t x) (h0 : zeroB (Ro.rest L x).1 = true → zeroB (Ro.rest L x).2 = true) {v : Vc} : Sp ((Ro.insert L x).map fj) v ↔ Sp (fj x :: L.map fj) v := by
  have hr := Ro.rest_dim hD hx
  have hsp := (rest_span hD hx).1
  unfold Ro.insert
  split
  · rw [put_map, fj_norm hr]
    exact sp_replace normC_bt hsp
  · rename_i hl
    have hz1 : zeroB (Ro.rest L x).1 = true := zeroB_lead.2 fun h => hl (by
      rw [Ro.norm_lead hr]
      have : (Ro.norm (Ro.rest L x)).1.length = (Ro.rest L x).1.length := by show (Gf.scale _ _).length = _; rw [Gf.scale_length]
      rw [this]; exact h)
    have hz : fj (Ro.rest L x) = v0 := (fv_zero hr.oct).2 (by
      have h2 := h0 hz1
      unfold zeroB at hz1 h2 ⊢
      unfold jn
      rw [List.all_append, hz1, h2]; rfl)
    rw [hz, va_zero] at hsp
    exact ⟨fun h => h.sub fun y hy => List.mem_cons_of_mem _ hy, fun h => h.mono fun y hy => by
      rcases List.mem_cons.1 hy with rfl | hy
      · exact hsp
      · exact Sp.mem hy⟩

theorem all_snoc (L : List Rw) (x : Rw) : Ro.all (L ++ [x]) = Ro.insert (Ro.all L) x := by unfold Ro.all; rw [List.foldl_append]; rfl
theorem all_dims {k t : Nat} {L : List Rw} (hD : Ro.Dims k t L) : Ro.Up k t (Ro.all L) := by
  have h := Ro.all_up hD L.length (Nat.le_refl _)
  rwa [List.take_length] at h
theorem sp_snoc {f : Rw → Vc} {L : List Rw} {x : Rw} {v : Vc} : Sp ((L ++ [x]).map f) v ↔ Sp (f x :: L.map f) v := sp_perm fun u => by
  rw [List.map_append, List.mem_append, List.mem_cons]; simp [or_comm]
theorem sp_cons_congr {L M : List Vc} (h : ∀ v, Sp L v ↔ Sp M v) {x v : Vc} : Sp (x :: L) v ↔ Sp (x :: M) v := by
  rw [Sp.cons, Sp.cons]
  constructor <;> rintro ⟨c, w, hw, e⟩
  · exact ⟨c, w, (h w).1 hw, e⟩
  · exact ⟨c, w, (h w).2 hw, e⟩
/-- All put in: the vectors' span. -/
theorem all_span1 {k t : Nat} : ∀ (n : Nat) {L : List Rw}, L.length = n → Ro.Dims k t L → ∀ {v : Vc}, Sp ((Ro.all L).map f1) v ↔ Sp (L.map f1) v
  | 0, L, hn, _, v => by rw [List.length_eq_zero_iff.1 hn]; exact Iff.rfl
  | n + 1, L, hn, hD, v => by
    have hne : L ≠ [] := by intro e; rw [e] at hn; simp at hn
    obtain ⟨M, x, rfl⟩ : ∃ M x, L = M ++ [x] := ⟨L.dropLast, L.getLast hne, (List.dropLast_concat_getLast hne).symm⟩
    have hM : Ro.Dims k t M := fun r hr => hD r (List.mem_append_left _ hr)
    have hx : Ro.Dim k t x := hD x (by simp)
    rw [all_snoc, insert_span1 (all_dims hM).dims hx, sp_snoc]
    exact sp_cons_congr fun v => all_span1 n (by simpa using hn) hM

/-! ### Ranks -/

theorem up_ech1 {k t : Nat} {L : List Rw} (h : Ro.Up k t L) : Ech (L.map f1) := by
  refine ⟨fun e he => ?_, ?_⟩
  · obtain ⟨r, hr, rfl⟩ := List.mem_map.1 he
    exact ⟨_, f1_lead (h.dims r hr) (h.leads r hr)⟩
  · rw [List.pairwise_map]
    refine h.rise.imp_of_mem fun {a b} ha hb hab i hi hj => ?_
    have h1 := hi.unique (f1_lead (h.dims a ha) (h.leads a ha))
    have h2 := hj.unique (f1_lead (h.dims b hb) (h.leads b hb))
    omega
theorem up_ech {k t : Nat} {L : List Rw} (h : Ro.Up k t L) : Ech (L.map fj) := by
  refine ⟨fun e he => ?_, ?_⟩
  · obtain ⟨r, hr, rfl⟩ := List.mem_map.1 he
    exact ⟨_, fj_lead (h.dims r hr) (h.leads r hr)⟩
  · rw [List.pairwise_map]
    refine h.rise.imp_of_mem fun {a b} ha hb hab i hi hj => ?_
    have h1 := hi.unique (fj_lead (h.dims a ha) (h.leads a ha))
    have h2 := hj.unique (fj_lead (h.dims b hb) (h.leads b hb))
    omega
theorem up_rank {k t : Nat} {L : List Rw} (h : Ro.Up k t L) : rk k (Sp (L.map f1)) = L.length := by
  rw [rk_ech (up_ech1 h) fun e he => by
    obtain ⟨r, hr, rfl⟩ := List.mem_map.1 he
    exact (h.dims r hr).short1, List.length_map]
/-- How many rows there are, all put in, is the vectors' rank. -/
theorem all_rank {k t : Nat} {L : List Rw} (hD : Ro.Dims k t L) : (Ro.all L).length = rk k (Sp (L.map f1)) := by
  rw [← up_rank (all_dims hD)]
  exact rk_congr fun v => all_span1 L.length rfl hD

/-- The rank of rows of bytes. -/
noncomputable def rankL (k : Nat) (ll : List (List Nat)) : Nat := rk k (Sp (ll.map fv))
theorem bare_dims {k : Nat} {ll : List (List Nat)} (hO : ∀ r ∈ ll, Oct r) (hk : ∀ r ∈ ll, r.length = k) : Ro.Dims k 0 (Ro.bare ll) := fun x hx => by
  obtain ⟨r, hr, rfl⟩ := List.mem_map.1 hx
  exact ⟨hk r hr, rfl, hO r hr, fun z hz => by cases hz⟩
theorem bare_map (ll : List (List Nat)) : (Ro.bare ll).map f1 = ll.map fv := by unfold Ro.bare; rw [List.map_map]; rfl
theorem refrank_eq {k : Nat} {ll : List (List Nat)} (hO : ∀ r ∈ ll, Oct r) (hk : ∀ r ∈ ll, r.length = k) : (Ro.all (Ro.bare ll)).length = rankL k ll := by
  rw [all_rank (bare_dims hO hk), bare_map]; rfl

/-! ### Rows cleared of each other -/

/-- By rising places, led by a 1, where all others have a 0. -/
structure RedR (k t : Nat) (E : List Rw) : Prop where
  up : Ro.Up k t E
  clear : ∀ i j, i < E.length → j < E.length → i ≠ j → nth (rwAt E i).1 (lead (rwAt E j).1) = 0

theorem map_getElem {f : Rw → Vc} {E : List Rw} {i : Nat} (h : i < (E.map f).length) : (E.map f)[i] = f (rwAt E i) := by
  rw [List.getElem_map, rwAt_eq E i (by simpa using h)]
theorem RedR.red {k t : Nat} {E : List Rw} (h : RedR k t E) : Red (E.map fj) := by
  have hl : ∀ i, i < E.length → Lead (fj (rwAt E i)) (lead (rwAt E i).1) := fun i hi => fj_lead (h.up.dims.at hi) (h.up.leads.at hi)
  have hk : ∀ i, i < E.length → lead (rwAt E i).1 < k := fun i hi => by rw [← (h.up.dims.at hi).1]; exact h.up.leads.at hi
  refine ⟨?_, fun e he => ?_, ?_⟩
  · rw [List.pairwise_map]
    refine h.up.rise.imp_of_mem fun {a b} ha hb hab i j hi hj => ?_
    rw [hi.unique (fj_lead (h.up.dims a ha) (h.up.leads a ha)), hj.unique (fj_lead (h.up.dims b hb) (h.up.leads b hb))]
    exact hab
  · obtain ⟨r, hr, rfl⟩ := List.mem_map.1 he
    have hlr := h.up.leads r hr
    rw [(h.up.dims r hr).1] at hlr
    exact ⟨_, fj_lead (h.up.dims r hr) (h.up.leads r hr), by rw [fj_at (h.up.dims r hr) hlr, h.up.one r hr]; rfl⟩
  · rw [List.pairwise_iff_getElem]
    intro i j hi hj hij m
    have hi' : i < E.length := by simpa using hi
    have hj' : j < E.length := by simpa using hj
    rw [map_getElem hi, map_getElem hj]
    refine ⟨fun hm => ?_, fun hm => ?_⟩
    · rw [hm.unique (hl i hi'), fj_at (h.up.dims.at hj') (hk i hi'), h.clear j i hj' hi' (by omega)]; rfl
    · rw [hm.unique (hl j hj'), fj_at (h.up.dims.at hi') (hk j hj'), h.clear i j hi' hj' (by omega)]; rfl
/-- There is one such list of a span. -/
theorem RedR.eq {k t : Nat} {E F : List Rw} (hE : RedR k t E) (hF : RedR k t F) (h : ∀ v, Sp (E.map fj) v ↔ Sp (F.map fj) v) : E = F := by
  have e := Red.eq hE.red hF.red h
  have hl : E.length = F.length := by have := congrArg List.length e; simpa using this
  apply List.ext_getElem hl
  intro i h1 h2
  rw [← rwAt_eq E i h1, ← rwAt_eq F i h2]
  refine fj_inj (hE.up.dims.at h1) (hF.up.dims.at h2) ?_
  rw [← map_getElem (f := fj) (E := E) (by simpa using h1), ← map_getElem (f := fj) (E := F) (by simpa using h2)]
  simp only [e]

end Go.Proofs.Ytohfcdgpllghbaa

/-
  The document's rows of equations (layer 8) are the reduced rows of their span. No program in this text.
-/
set_option maxRecDepth 100000
namespace Go.Proofs.Ytohfcdgpllghbaa
open La

theorem rwAt_mem_map {f : Rw → Vc} {E : List Rw} {i : Nat} (h : i < E.length) : f (rwAt E i) ∈ E.map f := List.mem_map.2 ⟨_, rwAt_mem h, rfl⟩
theorem mem_map_at {f : Rw → Vc} {E : List Rw} {v : Vc} (h : v ∈ E.map f) : ∃ i, i < E.length ∧ f (rwAt E i) = v := by
  obtain ⟨r, hr, rfl⟩ := List.mem_map.1 h
  obtain ⟨i, hi, rfl⟩ := List.mem_iff_getElem.1 hr
  exact ⟨i, hi, by rw [rwAt_eq E i hi]⟩

/-- Row i less so much of another row: the span stays. -/
theorem set_span {k t c : Nat} {E : List Rw} (hD : Ro.Dims k t E) {i j : Nat} (hi : i < E.length) (hj : j < E.length) (hij : i ≠ j) (hc : c < 256) {v : Vc} : Sp ((E.set i (Ro.less (rwAt E i) c (rwAt E j))).map fj) v ↔ Sp (E.map fj) v := by
  have e := fj_less hc (hD.at hi) (hD.at hj)
  have hl : (E.set i (Ro.less (rwAt E i) c (rwAt E j))).length = E.length := List.length_set
  have hx : Sp (E.map fj) (fj (Ro.less (rwAt E i) c (rwAt E j))) := by
    rw [e]; exact ((Sp.mem (rwAt_mem_map hj)).smul _).add (Sp.mem (rwAt_mem_map hi))
  have hjn : fj (rwAt E j) ∈ (E.set i (Ro.less (rwAt E i) c (rwAt E j))).map fj := by
    have := rwAt_mem_map (f := fj) (E := E.set i (Ro.less (rwAt E i) c (rwAt E j))) (i := j) (by rw [hl]; exact hj)
    rwa [Ro.rwAt_set, if_neg fun h => hij h.1] at this
  have hin : fj (Ro.less (rwAt E i) c (rwAt E j)) ∈ (E.set i (Ro.less (rwAt E i) c (rwAt E j))).map fj := by
    have := rwAt_mem_map (f := fj) (E := E.set i (Ro.less (rwAt E i) c (rwAt E j))) (i := i) (by rw [hl]; exact hi)
    rwa [Ro.rwAt_set, if_pos ⟨rfl, hi⟩] at this
  constructor
  · intro h
    refine h.mono fun y hy => ?_
    obtain ⟨m, hm, rfl⟩ := mem_map_at hy
    rw [hl] at hm
    rw [Ro.rwAt_set]
    split
    · exact hx
    · exact Sp.mem (rwAt_mem_map hm)
  · intro h
    refine h.mono fun y hy => ?_
    obtain ⟨m, hm, rfl⟩ := mem_map_at hy
    by_cases hmi : m = i
    · subst hmi
      have h2 := (Sp.mem hin).add ((Sp.mem hjn).smul (bt c))
      rw [e, va_comm, va_cancel] at h2
      exact h2
    · have := rwAt_mem_map (f := fj) (E := E.set i (Ro.less (rwAt E i) c (rwAt E j))) (i := m) (by rw [hl]; exact hm)
      rw [Ro.rwAt_set, if_neg fun h => hmi h.1.symm] at this
      exact Sp.mem this

/-- What holds of the rows while row i is cleared, up to place k of the others: where each leads, by a 1; the span; the rows ahead are cleared whole. -/
structure Clr (k t : Nat) (E : List Rw) (n m : Nat) (F : List Rw) : Prop where
  fine : Ro.Fine k t F
  len : F.length = E.length
  ld : ∀ i, lead (rwAt F i).1 = lead (rwAt E i).1
  one : ∀ i, i < E.length → nth (rwAt F i).1 (lead (rwAt E i).1) = 1
  done : ∀ i, i < n → i < E.length → ∀ j, j < E.length → j ≠ i → nth (rwAt F i).1 (lead (rwAt E j).1) = 0
  part : n < E.length → ∀ j, j < m → j < E.length → j ≠ n → nth (rwAt F n).1 (lead (rwAt E j).1) = 0
  span : ∀ v, Sp (F.map fj) v ↔ Sp (E.map fj) v

theorem clr_step {k t : Nat} {E : List Rw} (hU : Ro.Up k t E) {n m : Nat} {F : List Rw} (h : Clr k t E n m F) (hn : n < E.length) (hm : m < E.length) : Clr k t E n (m + 1) (Ro.clr1 F n m) := by
  have hnF : n < F.length := by rw [h.len]; exact hn
  have hmF : m < F.length := by rw [h.len]; exact hm
  obtain ⟨hf, hl⟩ := Ro.clr1_fine h.fine hnF hmF
  have hlk : ∀ i, i < E.length → lead (rwAt E i).1 < k := fun i hi => by rw [← (hU.dims.at hi).1]; exact hU.leads.at hi
  have rise : ∀ i j, i < E.length → j < E.length → i < j → lead (rwAt E i).1 < lead (rwAt E j).1 := fun i j hi hj hij => by
    have := List.pairwise_iff_getElem.1 hU.rise i j hi hj hij
    rwa [← rwAt_eq E i hi, ← rwAt_eq E j hj] at this
  by_cases e : m = n
  · have e1 : Ro.clr1 F n m = F := by unfold Ro.clr1; rw [if_pos e]
    rw [e1]
    refine ⟨h.fine, h.len, h.ld, h.one, h.done, fun _ j hj hjE hjn => ?_, h.span⟩
    exact h.part hn j (by omega) hjE hjn
  · have e1 : Ro.clr1 F n m = F.set n (Ro.step (rwAt F n) (rwAt F m)) := by unfold Ro.clr1; rw [if_neg e]
    have hDn := h.fine.dims.at hnF
    have hDm := h.fine.dims.at hmF
    have hlm : lead (rwAt F m).1 = lead (rwAt E m).1 := h.ld m
    -- row n behind the step, place by place
    have hat : ∀ p, p < k → nth (Ro.step (rwAt F n) (rwAt F m)).1 p = Gf.mul (nth (rwAt F n).1 (lead (rwAt E m).1)) (nth (rwAt F m).1 p) ^^^ nth (rwAt F n).1 p := fun p hp => by
      rw [Ro.step_nth hDn hDm hp, hlm]
    have hrow : ∀ i, rwAt (Ro.clr1 F n m) i = if n = i then Ro.step (rwAt F n) (rwAt F m) else rwAt F i := fun i => by
      rw [e1, Ro.rwAt_set]
      by_cases hi : n = i
      · subst hi; rw [if_pos ⟨rfl, hnF⟩, if_pos rfl]
      · rw [if_neg fun h => hi h.1, if_neg hi]
    refine ⟨hf, by rw [Ro.clr1_length]; exact h.len, fun i => by rw [hl i]; exact h.ld i, fun i hi => ?_, fun i hi hiE j hj hji => ?_, fun _ j hj hjE hjn => ?_, fun v => ?_⟩
    · rw [hrow i]
      split
      · rename_i hni
        subst hni
        rw [hat _ (hlk n hn), h.one n hn]
        rcases Nat.lt_or_gt_of_ne e with hlt | hgt
        · have : nth (rwAt F n).1 (lead (rwAt E m).1) = 0 := lead_zero _ _ (by rw [h.ld n]; exact rise m n hm hn hlt)
          rw [this, Gf.zero_mul]; rfl
        · have : nth (rwAt F m).1 (lead (rwAt E n).1) = 0 := lead_zero _ _ (by rw [h.ld m]; exact rise n m hn hm hgt)
          rw [this, Gf.mul_zero]; rfl
      · exact h.one i hi
    · rw [hrow i, if_neg (by omega)]
      exact h.done i hi hiE j hj hji
    · rw [hrow n, if_pos rfl, hat _ (hlk j hjE)]
      by_cases hjm : j = m
      · subst hjm
        rw [h.one j hjE, Gf.mul_one (nth_lt hDn.2.2.1 _), Nat.xor_self]
      · have hjm' : j < m := by omega
        have h1 : nth (rwAt F m).1 (lead (rwAt E j).1) = 0 := lead_zero _ _ (by rw [h.ld m]; exact rise j m hjE hm hjm')
        rw [h1, Gf.mul_zero, h.part hn j hjm' hjE hjn]; rfl
    · rw [e1]
      have hc : nth (rwAt F n).1 (lead (rwAt F m).1) < 256 := nth_lt hDn.2.2.1 _
      exact (set_span h.fine.dims hnF hmF (fun h => e h.symm) hc).trans (h.span v)
theorem clr_row {k t : Nat} {E : List Rw} (hU : Ro.Up k t E) {n : Nat} {F : List Rw} (h : Clr k t E n 0 F) (hn : n < E.length) : ∀ m, m ≤ E.length → Clr k t E n m (Ro.clrK F n m)
  | 0, _ => h
  | m + 1, hm => by rw [Ro.clrK_succ]; exact clr_step hU (clr_row hU h hn m (by omega)) hn (by omega)
theorem clr_all {k t : Nat} {E : List Rw} (hU : Ro.Up k t E) : ∀ n, n ≤ E.length → Clr k t E n 0 (Ro.clrI E n)
  | 0, _ => ⟨hU.fine, rfl, fun _ => rfl, fun i hi => hU.one _ (rwAt_mem hi), fun i hi => by omega, fun _ j hj => by omega, fun _ => Iff.rfl⟩
  | n + 1, hn => by
    have h := clr_row hU (clr_all hU n (by omega)) (by omega) E.length (Nat.le_refl _)
    rw [Ro.clrI_succ, Ro.clrI_length]
    refine ⟨h.fine, h.len, h.ld, h.one, fun i hi hiE j hj hji => ?_, fun _ j hj => by omega, h.span⟩
    by_cases e : i = n
    · subst e; exact h.part (by omega) j hj hj hji
    · exact h.done i (by omega) hiE j hj hji

/-- The document's rows are reduced, and span what the rows that were put in span. -/
theorem rows8_red {k t : Nat} {L : List Rw} (hD : Ro.Dims k t L) : RedR k t (Ro.rows8 L) ∧ ∀ v, Sp ((Ro.rows8 L).map fj) v ↔ Sp ((Ro.all L).map fj) v := by
  have hU := all_dims hD
  have h := clr_all hU (Ro.all L).length (Nat.le_refl _)
  refine ⟨⟨⟨h.fine.dims, h.fine.leads, ?_, fun r hr => ?_⟩, fun i j hi hj hij => ?_⟩, h.span⟩
  · rw [List.pairwise_iff_getElem]
    intro i j hi hj hij
    have hi' : i < (Ro.all L).length := by rw [← h.len]; exact hi
    have hj' : j < (Ro.all L).length := by rw [← h.len]; exact hj
    have := List.pairwise_iff_getElem.1 hU.rise i j hi' hj' hij
    rw [← rwAt_eq _ i hi, ← rwAt_eq _ j hj]
    show lead (rwAt (Ro.clrI (Ro.all L) _) i).1 < lead (rwAt (Ro.clrI (Ro.all L) _) j).1
    rw [h.ld i, h.ld j, rwAt_eq _ i hi', rwAt_eq _ j hj']; exact this
  · obtain ⟨i, hi, rfl⟩ := List.mem_iff_getElem.1 hr
    have hi' : i < (Ro.all L).length := by rw [← h.len]; exact hi
    rw [← rwAt_eq _ i hi]
    show nth (rwAt (Ro.clrI (Ro.all L) _) i).1 (lead (rwAt (Ro.clrI (Ro.all L) _) i).1) = 1
    rw [h.ld i]; exact h.one i hi'
  · have hi' : i < (Ro.all L).length := by rw [← h.len]; exact hi
    have hj' : j < (Ro.all L).length := by rw [← h.len]; exact hj
    show nth (rwAt (Ro.clrI (Ro.all L) _) i).1 (lead (rwAt (Ro.clrI (Ro.all L) _) j).1) = 0
    rw [h.ld j]; exact h.done i hi' hi' j hj' fun e => hij e.symm

/-- What is left has a 0 where reduced rows lead. -/
theorem rest_clear {k t : Nat} {E : List Rw} (h : RedR k t E) {x : Rw} (hx : Ro.Dim k t x) {i : Nat} (hi : i < E.length) : nth (Ro.rest E x).1 (lead (rwAt E i).1) = 0 := by
  have := Ro.rest_zero h.up hx E.length (Nat.le_refl _) i hi
  rwa [List.take_length] at this
/-- It is the one that differs by what the rows span, and is 0 where they lead. -/
theorem rest_one {k t : Nat} {E : List Rw} (h : RedR k t E) {x r : Rw} (hx : Ro.Dim k t x) (hr : Ro.Dim k t r) (hs : Sp (E.map fj) (va (fj x) (fj r))) (h0 : ∀ i, i < E.length → nth r.1 (lead (rwAt E i).1) = 0) : r = Ro.rest E x := by
  have hrest := Ro.rest_dim h.up.dims hx
  refine fj_inj hr hrest (h.red.ech.rest_unique hs (rest_span h.up.dims hx).1 (fun e he i hi => ?_) fun e he i hi => ?_)
  · obtain ⟨j, hj, rfl⟩ := mem_map_at he
    have hk : lead (rwAt E j).1 < k := by rw [← (h.up.dims.at hj).1]; exact h.up.leads.at hj
    rw [hi.unique (fj_lead (h.up.dims.at hj) (h.up.leads.at hj)), fj_at hr hk, h0 j hj]; rfl
  · obtain ⟨j, hj, rfl⟩ := mem_map_at he
    have hk : lead (rwAt E j).1 < k := by rw [← (h.up.dims.at hj).1]; exact h.up.leads.at hj
    rw [hi.unique (fj_lead (h.up.dims.at hj) (h.up.leads.at hj)), fj_at hrest hk, rest_clear h hx hj]; rfl

end Go.Proofs.Ytohfcdgpllghbaa
