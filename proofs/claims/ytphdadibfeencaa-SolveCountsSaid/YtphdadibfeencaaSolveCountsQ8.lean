/- Texts of one seat, laid together: InsLed, GridA, InsVec, GridC, ElimA, SearchPlace. -/
import Derived.Test.YtphdadibfeencaaSolveCountsQ7
import Derived.Shelf.Spec.SlicesInsert
import Derived.Laws.CopyOwn
import Derived.Test.YtphdadibfeencaaSolveCountsQ6
import Derived.BigQuiet
import Derived.Test.YtphdadibfeencaaSolveCountsQ4
import Derived.Test.YtphdadibfeencaaSolveCountsQ5

/-
  slices.Insert of one element (Led): there is room, or there is none, or it comes last.
-/
set_option maxRecDepth 100000
namespace Go.Proofs.Ytphdadibfeencaa
open Go.RowKit

theorem infoLed : (Try.prog.info? 102).map (fun i => (i.zero, i.size, i.bytes)) = some (some (.agg #[.slice none 0 0, .slice none 0 0, .int .i64 0]), 3, 56) := by kernel_rfl

set_option maxHeartbeats 2000000 in
/-- There is room: in place. -/
theorem insLed_room (g n cap i vb : Nat) (B : Nat) (xs news : List Value) (w : World) (hown : OwnN w B 102 3 (.slice (some ⟨g, 0, none⟩) n cap) n xs) (hi : i < n) (hroom : n + 1 ≤ cap) (hvb : Blk w vb news.toArray 102) (hne : vb ≠ g) (hl : news.length = 3)
    (h1 : ∀ u ∈ news, u.oneCell' = true) (hnn : ∀ u ∈ news, ∀ k : Nat, u ≠ U8 k) (h1x : ∀ u ∈ xs, u.oneCell' = true) :
    Calls Try.prog 65 #[.slice (some ⟨g, 0, none⟩) n cap, .int .i64 (i : Int), .slice (some ⟨vb, 0, none⟩) 1 1] w fun e w' =>
      ∃ v', e = .returned v' ∧ OwnN w' B 102 3 v' (n + 1) (xs.take (i * 3) ++ news ++ xs.drop (i * 3)) ∧ w.grownBy w' (some g) ∧ Soft w w' ∧ Near w (.slice (some ⟨g, 0, none⟩) n cap) v' := by
  have hcap : cap ≤ 9223372036854775807 := by
    rcases hown.1.2 with ⟨e, _⟩ | ⟨g', cap', cur', e, hB, hg', hnc, hcm, hcs, htake⟩
    · cases e
    · simp only [Value.slice.injEq, Option.some.injEq, Addr.mk.injEq, and_true, true_and] at e
      obtain ⟨rfl, rfl⟩ := e
      simpa [maxLen] using hcm
  obtain ⟨cur, hg, hcs, htake⟩ : ∃ cur : Array Value, w.heap[g]? = some (.cells cur 102 (0, 0)) ∧ cur.size = cap * 3 ∧ cur.toList.take (n * 3) = xs := by
    rcases hown.1.2 with ⟨e, _⟩ | ⟨g', cap', cur', e, hB, hg', hnc, hcm, hcs, htake⟩
    · cases e
    · simp only [Value.slice.injEq, Option.some.injEq, Addr.mk.injEq, and_true, true_and] at e
      obtain ⟨rfl, rfl⟩ := e
      exact ⟨cur', hg', hcs, htake⟩
  have hxl : xs.length = n * 3 := hown.1.1
  have hdl : (xs.drop (i * 3)).length = (n - i) * 3 := by rw [List.length_drop, hxl]; omega
  obtain ⟨i0, hi0, hz0, hz1, hz2⟩ := info_parts infoLed
  have hs0 : (Try.prog.info? 102).map (·.size) = some 3 := by rw [hi0]; simp [hz1]
  have hso : ∀ w, (Go.sizeOf 102).run Try.prog w = .ok 3 w := fun w => by simp [sizeOf, typeInfo, hi0, hz1]
  have hov : ∀ lb cb, (callFunc 80 #[.slice (some ⟨vb, 0, none⟩) 1 1, .slice (some ⟨g, (i + 1) * 3, none⟩) lb cb]).run Try.prog w = .ok (.value (.bool false)) w := fun lb cb => by
    rw [run_callFunc_extern Try.func80 (by kernel_rfl) (by kernel_rfl) (by kernel_rfl) (e := Extern.SlicesOverlaps.overlaps #[86, 86] #[4]) (by kernel_rfl),
      Lib.run_overlaps_apart w 86 4 102 Try.underlying86 3 hso ⟨vb, 0, none⟩ ⟨g, (i + 1) * 3, none⟩ 1 1 lb cb hne 102 102 3 (cap * 3) (by unfold World.shape?; rw [hvb]; simp [hl]) (by unfold World.shape?; rw [hg]; simp [hcs]) (by omega) (hvb.free 0) (hvb.free 3)]
    rfl
  obtain ⟨W1, hW1⟩ : ∃ W1, W1 = w.drew.setRow g (wr cur.toList (i * 3 + 3) (xs.drop (i * 3))).toArray := ⟨_, rfl⟩
  have hfit1 : i * 3 + 3 + (xs.drop (i * 3)).length ≤ cur.size := by rw [hdl, hcs]; omega
  have hcp1 : ∀ ty dc sc, (Builtin.copy_ #[86, 86] ty #[.slice (some ⟨g, (i + 1) * 3, none⟩) (n - i) dc, .slice (some ⟨g, i * 3, none⟩) (n + 1 - i) sc]).run Try.prog w.drew = .ok (goInt (n - i : Nat)) W1 := fun ty dc sc => by
    rw [hW1, show (i + 1) * 3 = i * 3 + 3 by omega]
    refine run_copy_rowN w.drew 86 86 ty 102 g (i * 3 + 3) _ dc ⟨g, i * 3, none⟩ _ sc cur 102 (xs.drop (i * 3)) 3 (n - i) Try.underlying86 hs0 hg (by simp only [Nat.min_def]; split <;> omega) hdl (fun j v hj => ?_) hfit1 (fun v hv => h1x v (List.mem_of_mem_drop hv))
    rw [row_add, cell_of_row w.drew g _ cur 102 (0, 0) hg, ← Array.getElem?_toList]
    rw [List.getElem?_drop] at hj
    rw [← htake, List.getElem?_take] at hj
    split at hj
    · exact hj
    · cases hj
  have hW1g : W1.heap[g]? = some (.cells (wr cur.toList (i * 3 + 3) (xs.drop (i * 3))).toArray 102 (0, 0)) := by rw [hW1]; exact setRow_heap w.drew g cur _ 102 _ hg
  have hW1v : W1.heap[vb]? = some (.cells news.toArray 102 (0, 0)) := by rw [hW1, setRow_other w.drew g vb _ hne]; exact hvb
  have hwl : (wr cur.toList (i * 3 + 3) (xs.drop (i * 3))).length = cur.toList.length := wr_length (by rw [Array.length_toList]; exact hfit1)
  have hcp2 : ∀ (W : World), W.heap = W1.heap → ∀ ty dc, (Builtin.copy_ #[86, 86] ty #[.slice (some ⟨g, i * 3, none⟩) (n + 1 - i) dc, .slice (some ⟨vb, 0, none⟩) 1 1]).run Try.prog W = .ok (goInt (1 : Nat)) (W.setRow g (wr (wr cur.toList (i * 3 + 3) (xs.drop (i * 3))) (i * 3) news).toArray) := fun W hW ty dc => by
    refine run_copy_rowN W 86 86 ty 102 g (i * 3) _ dc ⟨vb, 0, none⟩ _ 1 (wr cur.toList (i * 3 + 3) (xs.drop (i * 3))).toArray 102 news 3 1 Try.underlying86 hs0 (by rw [hW]; exact hW1g) (by simp only [Nat.min_def]; split <;> omega) (by rw [hl]) (fun j v hj => ?_) (by simp only [List.size_toArray]; rw [hwl, hl, Array.length_toList]; omega) h1
    rw [row_add, Nat.zero_add, cell_of_row W vb _ news.toArray 102 (0, 0) (by rw [hW]; exact hW1v)]
    simpa using hj
  have hend : wr (wr cur.toList (i * 3 + 3) (xs.drop (i * 3))) (i * 3) news = insd cur.toList (i * 3) news (xs.drop (i * 3)) := by
    have := wr_back (cur := cur.toList) (N := news) (D := xs.drop (i * 3)) (o := i * 3) (by rw [hl, Array.length_toList]; exact hfit1)
    rw [hl] at this; exact this
  have HO := Lib.hid hown
  have HG := Lib.hid hg
  have HE := Lib.hid hend
  have HW := Lib.hid hW1
  have HC2 := Lib.hid hcp2
  have HL := Lib.hid hl
  have HN := Lib.hid hnn
  have mixed : Try.prog.follows Departure.mixedOrders = true := by kernel_rfl
  have hz1 : ¬ ((1 : Int) = 0) := by omega
  have hz2' : ¬ ((i : Int) = (n : Int)) := by omega
  have hz3 : ¬ ((cap : Int) < (n : Int) + 1) := by omega
  have hw1 : IntKind.i64.wrap ((i : Int) + 1) = (i : Int) + 1 := by rw [IntKind.wrap_i64]; omega
  have hw2 : IntKind.i64.wrap ((n : Int) + 1) = (n : Int) + 1 := by rw [IntKind.wrap_i64]; omega
  have hb1 : (0 : Int) ≤ (i : Int) + 1 := by omega
  have hin : i ≤ n := by omega
  have htn : ((i : Int) + 1).toNat = i + 1 := by omega
  have htm : ((n : Int) + 1).toNat = n + 1 := by omega
  have hb2 : ¬ (cap = i + 1) := by omega
  have hb3 : (i : Int) ≤ (n : Int) + 1 := by omega
  have hb4 : ¬ (cap = i) := by omega
  clear hown hg hcs htake hxl hdl hs0 hso hfit1 hW1g hW1v hwl hend hz0 hi0 hvb hl h1 hnn h1x hcp2
  clear hW1
  go_enter Try.func65, Try.ntmps65
  go_wp2_with (simp only [hov])
  go_region_law_o (refine step_copy_runI rfl _ _ 86 86 rfl _ _ (by simp [Act.eval, Act.put]) (by simp [Act.eval, Act.put]) (hcp1 _ _ _) ?_)
  have hcpW := HC2.out W1 rfl
  go_wp2_with (simp only [hcpW])
  go_ret
  have hos : W1.os = w.os ∧ W1.tape = w.tape ∧ W1.output = w.output := by rw [HW.out]; exact ⟨rfl, rfl, rfl⟩
  have hsetset : (W1.setRow g (wr (wr cur.toList (i * 3 + 3) (xs.drop (i * 3))) (i * 3) news).toArray).heap = (w.setRow g (insd cur.toList (i * 3) news (xs.drop (i * 3))).toArray).heap := by
    rw [HW.out, setRow_setRow, HE.out]; rfl
  obtain ⟨r1, r2, r3⟩ := own_insd (w' := W1.setRow g (wr (wr cur.toList (i * 3 + 3) (xs.drop (i * 3))) (i * 3) news).toArray) HO.out HG.out hin hroom HL.out HN.out hsetset hos.1 hos.2.1 hos.2.2
  exact ⟨_, rfl, r1, r2, r3, Near.same _ rfl⟩

set_option maxHeartbeats 2000000 in
/-- There is none: a new block. -/
theorem insLed_grow (g n cap i vb : Nat) (B : Nat) (xs news : List Value) (w : World) (hown : OwnN w B 102 3 (.slice (some ⟨g, 0, none⟩) n cap) n xs) (hi : i < n) (hroom : cap < n + 1) (hvb : Blk w vb news.toArray 102) (hl : news.length = 3) (hB : B ≤ w.heap.size) (hn : n ≤ 1000000000000)
    (h1 : ∀ u ∈ news, u.oneCell' = true) (hnn : ∀ u ∈ news, ∀ k : Nat, u ≠ U8 k) (h1x : ∀ u ∈ xs, u.oneCell' = true) :
    Calls Try.prog 65 #[.slice (some ⟨g, 0, none⟩) n cap, .int .i64 (i : Int), .slice (some ⟨vb, 0, none⟩) 1 1] w fun e w' =>
      ∃ v', e = .returned v' ∧ OwnN w' B 102 3 v' (n + 1) (xs.take (i * 3) ++ news ++ xs.drop (i * 3)) ∧ w.grownBy w' (some g) ∧ Soft w w' ∧ Near w (.slice (some ⟨g, 0, none⟩) n cap) v' := by
  obtain ⟨cur, hg, hnc, hcs, htake⟩ : ∃ cur : Array Value, w.heap[g]? = some (.cells cur 102 (0, 0)) ∧ n ≤ cap ∧ cur.size = cap * 3 ∧ cur.toList.take (n * 3) = xs := by
    rcases hown.1.2 with ⟨e, _⟩ | ⟨g', cap', cur', e, hB, hg', hnc, hcm, hcs, htake⟩
    · cases e
    · simp only [Value.slice.injEq, Option.some.injEq, Addr.mk.injEq, and_true, true_and] at e
      obtain ⟨rfl, rfl⟩ := e
      exact ⟨cur', hg', hnc, hcs, htake⟩
  have hxl : xs.length = n * 3 := hown.1.1
  have hxc : ∀ (W : World), W.heap[g]? = w.heap[g]? → ∀ j v, xs[j]? = some v → W.cell? ⟨g, j, none⟩ = some v := fun W hW j v hj => by
    rw [cell_of_row W g j cur 102 (0, 0) (by rw [hW]; exact hg), ← Array.getElem?_toList]
    rw [← htake, List.getElem?_take] at hj
    split at hj
    · exact hj
    · cases hj
  have hgl : g < w.heap.size := (Array.getElem?_eq_some_iff.1 hg).1
  have hvl : vb < w.heap.size := hvb.lt
  have hdl : (xs.drop (i * 3)).length = (n - i) * 3 := by rw [List.length_drop, hxl]; omega
  have hil : (xs.take (i * 3)).length = i * 3 := by rw [List.length_take, hxl]; omega
  obtain ⟨i0, hi0, hz0, hz1, hz2⟩ := info_parts infoLed
  have hs0 : (Try.prog.info? 102).map (·.size) = some 3 := by rw [hi0]; simp [hz1]
  have hzu : ∀ k : Nat, ∀ u ∈ (Builtin.zeroCells (.agg #[.slice none 0 0, .slice none 0 0, .int .i64 0] : Value).cells k).toList, ∀ x : Nat, u ≠ U8 x := fun k u hu x => by
    have := zeroCells_mem hu
    simp [Value.cells] at this
    first
      | (subst this; exact slice_ne _ _ _ x)
      | (rcases this with rfl | rfl <;> first | exact slice_ne _ _ _ x | (intro e; cases e))
  have hxu : ∀ u ∈ xs, ∀ k : Nat, u ≠ U8 k := fun u hu k => by
    rw [← htake] at hu
    exact row_of_loose hg (hown.2 g rfl) u (List.mem_of_mem_take hu) k
  obtain ⟨G, hG⟩ : ∃ G, G = grownCap w (n + 1) cap 102 := ⟨_, rfl⟩
  have hGn : n + 1 ≤ G := by rw [hG]; exact grownCap_ge w _ _ _
  have hGm : G ≤ maxLen := by rw [hG]; exact grownCap_le_maxLen w _ _ _ (by unfold maxLen; omega)
  have hG63 : G ≤ 9223372036854775807 := by simpa [maxLen] using hGm
  obtain ⟨row, hrow⟩ : ∃ row : Array Value, row = (xs.take (i * 3)).toArray ++ Builtin.zeroCells (.agg #[.slice none 0 0, .slice none 0 0, .int .i64 0] : Value).cells (n + 1 - i) ++ Builtin.zeroCells (.agg #[.slice none 0 0, .slice none 0 0, .int .i64 0] : Value).cells (G - (n + 1)) := ⟨_, rfl⟩
  have hrl : row.size = G * 3 := by
    rw [hrow]
    simp only [Array.size_append, List.size_toArray, hil, Builtin.zeroCells, Array.size_map, Array.size_range]
    simp [Value.cells]
    omega
  have hrl' : row.toList.length = G * 3 := by rw [Array.length_toList]; exact hrl
  have hrt : row.toList.take (i * 3) = xs.take (i * 3) := by
    rw [hrow]
    simp only [Array.toList_append, List.append_assoc]
    rw [List.take_append_of_le_length (by simpa using (Nat.le_of_eq hil.symm)), List.take_of_length_le (by simpa using (Nat.le_of_eq hil))]
  have hru : ∀ u ∈ row.toList, ∀ k : Nat, u ≠ U8 k := fun u hu k => by
    rw [hrow] at hu
    simp only [Array.toList_append, List.mem_append] at hu
    rcases hu with (hu | hu) | hu
    · exact hxu u (List.mem_of_mem_take hu) k
    · exact hzu _ u hu k
    · exact hzu _ u hu k
  obtain ⟨W1, hW1⟩ : ∃ W1, W1 = w.drew.alloc (.cells row 102) := ⟨_, rfl⟩
  have hkk : (n : Int) + 1 - (i : Int) = ((n + 1 - i : Nat) : Int) := by omega
  have hik : i + (n + 1 - i) = n + 1 := by omega
  have hrz : ∀ ty, (Builtin.append_ #[86, 3] ty #[.slice (some ⟨g, 0, none⟩) i cap, .int .i64 ((n : Int) + 1 - (i : Int))]).run Try.prog w = .ok (.slice (some ⟨w.heap.size, 0, none⟩) (n + 1) G) W1 := fun ty => by
    have h := Lib.run_append_grow_zeros w 86 3 ty 102 i0 _ .i64 .i64 Try.underlying86 Try.underlying3 hi0 hz0 (some ⟨g, 0, none⟩) i cap (xs.take (i * 3)) (by rw [hz1]; exact firstCells_take w.drew 3 i _ cap xs n hxl (by omega) (fun j v hj => by rw [row_add, Nat.zero_add]; exact hxc w.drew rfl j v hj))
      (n + 1 - i) (by omega) (by omega) (by omega) (by omega) (by rw [hz2]; omega) (by rw [hz2, hik]; exact growslice_fits (by omega) (by omega))
    rw [hik, ← hG] at h
    rw [hkk, hW1, hrow]
    exact h
  have hW1r : W1.heap[w.heap.size]? = some (.cells row 102 (0, 0)) := by rw [hW1]; exact heap_alloc_new w.drew _
  have hW1o : ∀ k, k < w.heap.size → W1.heap[k]? = w.heap[k]? := fun k hk => by rw [hW1]; exact Below.heap_alloc w.drew _ _ hk
  have hcpA : ∀ ty dc, (Builtin.copy_ #[86, 86] ty #[.slice (some ⟨w.heap.size, i * 3, none⟩) (n + 1 - i) dc, .slice (some ⟨vb, 0, none⟩) 1 1]).run Try.prog W1 = .ok (goInt (1 : Nat)) (W1.setRow w.heap.size (wr row.toList (i * 3) news).toArray) := fun ty dc => by
    refine run_copy_rowN W1 86 86 ty 102 w.heap.size (i * 3) _ dc ⟨vb, 0, none⟩ _ 1 row 102 news 3 1 Try.underlying86 hs0 hW1r (by simp only [Nat.min_def]; split <;> omega) (by rw [hl]) (fun j v hj => ?_) (by rw [hl, hrl]; omega) h1
    rw [row_add, Nat.zero_add, cell_of_row W1 vb _ news.toArray 102 (0, 0) (by rw [hW1o vb hvl]; exact hvb)]
    simpa using hj
  have hwl : (wr row.toList (i * 3) news).length = row.toList.length := wr_length (by rw [hl, hrl']; omega)
  obtain ⟨W2, hW2⟩ : ∃ W2, W2 = W1.setRow w.heap.size (wr row.toList (i * 3) news).toArray := ⟨_, rfl⟩
  have hW2r : W2.heap[w.heap.size]? = some (.cells (wr row.toList (i * 3) news).toArray 102 (0, 0)) := by rw [hW2]; exact setRow_heap W1 _ row _ 102 _ hW1r
  have hW2o : ∀ k, k < w.heap.size → W2.heap[k]? = w.heap[k]? := fun k hk => by rw [hW2, setRow_other W1 _ k _ (by omega)]; exact hW1o k hk
  rw [← hW2] at hcpA
  have hcpB : ∀ ty dc sc, (Builtin.copy_ #[86, 86] ty #[.slice (some ⟨w.heap.size, (i + 1) * 3, none⟩) (n - i) dc, .slice (some ⟨g, i * 3, none⟩) (n - i) sc]).run Try.prog W2.drew = .ok (goInt (n - i : Nat)) (W2.drew.setRow w.heap.size (wr (wr row.toList (i * 3) news) (i * 3 + 3) (xs.drop (i * 3))).toArray) := fun ty dc sc => by
    rw [show (i + 1) * 3 = i * 3 + 3 by omega]
    refine run_copy_rowN W2.drew 86 86 ty 102 w.heap.size (i * 3 + 3) _ dc ⟨g, i * 3, none⟩ _ sc (wr row.toList (i * 3) news).toArray 102 (xs.drop (i * 3)) 3 (n - i) Try.underlying86 hs0 hW2r (by simp only [Nat.min_def]; split <;> omega) hdl (fun j v hj => ?_) (by simp only [List.size_toArray]; rw [hwl, hdl, hrl']; omega) (fun v hv => h1x v (List.mem_of_mem_drop hv))
    rw [row_add]
    rw [List.getElem?_drop] at hj
    exact hxc W2.drew (hW2o g hgl) _ v hj
  have hend : wr (wr row.toList (i * 3) news) (i * 3 + 3) (xs.drop (i * 3)) = insd row.toList (i * 3) news (xs.drop (i * 3)) := by
    have := wr_fwd (cur := row.toList) (N := news) (D := xs.drop (i * 3)) (o := i * 3) (by rw [hl, hdl, hrl']; omega)
    rw [hl] at this; exact this
  have hfin : Below w.heap.size w (W2.drew.setRow w.heap.size (wr (wr row.toList (i * 3) news) (i * 3 + 3) (xs.drop (i * 3))).toArray) ∧
      (W2.drew.setRow w.heap.size (wr (wr row.toList (i * 3) news) (i * 3 + 3) (xs.drop (i * 3))).toArray).heap[w.heap.size]? = some (.cells (insd row.toList (i * 3) news (xs.drop (i * 3))).toArray 102 (0, 0)) := by
    refine ⟨below_setRow ?_ (Nat.le_refl _) _, by rw [hend]; exact setRow_heap W2.drew _ _ _ 102 _ hW2r⟩
    have b1 : Below w.heap.size w W1 := by rw [hW1]; exact ((Below.refl _ w).drew).alloc (Nat.le_refl _) _
    have b2 : Below w.heap.size w W2 := by rw [hW2]; exact below_setRow b1 (Nat.le_refl _) _
    exact b2.drew
  have HF := Lib.hid hfin
  have HO := Lib.hid hown
  have HL := Lib.hid hl
  have HN := Lib.hid hnn
  have HRU := Lib.hid hru
  have HRL := Lib.hid hrl
  have HRT := Lib.hid hrt
  have HW := Lib.hid hW2
  have mixed : Try.prog.follows Departure.mixedOrders = true := by kernel_rfl
  have hz1 : ¬ ((1 : Int) = 0) := by omega
  have hz2' : ¬ ((i : Int) = (n : Int)) := by omega
  have hz3 : (cap : Int) < (n : Int) + 1 := by omega
  have hw1 : IntKind.i64.wrap ((i : Int) + 1) = (i : Int) + 1 := by rw [IntKind.wrap_i64]; omega
  have hb1 : (0 : Int) ≤ (i : Int) + 1 := by omega
  have hin : i ≤ n := by omega
  have htn : ((i : Int) + 1).toNat = i + 1 := by omega
  have hb2 : ¬ (G = i + 1) := by omega
  have hb3 : (i : Int) ≤ (n : Int) := by omega
  have hb4 : ¬ (G = i) := by omega
  have hb5 : ¬ (cap = i) := by omega
  clear hown hg hcs htake hxl hdl hs0 hend hz0 hi0 hvb hl h1 hnn h1x hW1 hW2 hrl' hrl hrt hru hrow hxc hil hzu hxu hG hkk hik hW1r hW1o hwl hW2r hW2o hfin
  go_enter Try.func65, Try.ntmps65
  go_wp2_with (first | (at_builtin; refine Lib.wpList_append_run _ rfl _ _ _ _ rfl _ _ rfl rfl _ _ (hrz _) ?_) | simp only [hcpA])
  go_region_law_o (refine step_copy_runI rfl _ _ 86 86 rfl _ _ (by simp [Act.eval, Act.put]) (by simp [Act.eval, Act.put]) (hcpB _ _ _) ?_)
  go_wp2_with fail
  go_ret
  obtain ⟨r1, r2, r3⟩ := own_insnew HO.out hin hB hGn hGm HL.out HN.out HRU.out HRL.out HRT.out HF.out.2 HF.out.1
  exact ⟨_, rfl, by simpa using r1, r2, r3, Near.new _ _ _ _⟩

set_option maxHeartbeats 2000000 in
/-- It comes last. -/
theorem insLed_end (a : Option Addr) (n cap vb : Nat) (B : Nat) (xs news : List Value) (w : World) (hown : OwnN w B 102 3 (.slice a n cap) n xs) (hvb : Blk w vb news.toArray 102) (hl : news.length = 3) (hB : B ≤ w.heap.size) (hn : n ≤ 1000000000000)
    (h1 : ∀ u ∈ news, u.oneCell' = true) (hnn : ∀ u ∈ news, ∀ k : Nat, u ≠ U8 k) :
    Calls Try.prog 65 #[.slice a n cap, .int .i64 (n : Int), .slice (some ⟨vb, 0, none⟩) 1 1] w fun e w' =>
      ∃ v', e = .returned v' ∧ OwnN w' B 102 3 v' (n + 1) (xs ++ news) ∧ w.grownBy w' (Value.slice a n cap).ownBlock ∧ Soft w w' ∧ Near w (.slice a n cap) v' := by
  obtain ⟨i0, hi0, hz0, hz1, hz2⟩ := info_parts infoLed
  have hzu : ∀ u ∈ (.agg #[.slice none 0 0, .slice none 0 0, .int .i64 0] : Value).cells.toList, ∀ x : Nat, u ≠ U8 x := fun u this x => by
    simp [Value.cells] at this
    first
      | (subst this; exact slice_ne _ _ _ x)
      | (rcases this with rfl | rfl <;> first | exact slice_ne _ _ _ x | (intro e; cases e))
  have hnews : ∀ j u, news[j]? = some u → w.cell? ((⟨vb, 0, none⟩ : Addr).add j) = some u := fun j v hj => by
    rw [row_add, Nat.zero_add, cell_of_row w vb _ news.toArray 102 (0, 0) hvb]
    simpa using hj
  have hl' : news.length = 1 * 3 := by rw [hl]
  have hcap : n ≤ cap ∧ cap ≤ 9223372036854775807 := by
    rcases hown.1.2 with ⟨e, h0⟩ | ⟨g', cap', cur', e, hB, hg', hnc, hcm, hcs, htake⟩
    · simp only [Value.slice.injEq] at e
      omega
    · simp only [Value.slice.injEq] at e
      obtain ⟨_, _, rfl⟩ := e
      exact ⟨hnc, by simpa [maxLen] using hcm⟩
  obtain ⟨hnc, hcm⟩ := hcap
  have hmx : n + 1 ≤ maxLen := by unfold maxLen; omega
  have hby : (n + 1) * 56 ≤ 140737488355328 := by omega
  have HO := Lib.hid hown
  have HM := Lib.hid hmx
  have HBY := Lib.hid hby
  have HNW := Lib.hid hnews
  have HL := Lib.hid hl'
  have H1 := Lib.hid h1
  have HN := Lib.hid hnn
  have HZ := Lib.hid hzu
  have hq1 : ¬ ((1 : Int) = 0) := by omega
  have hn0 : (0 : Int) ≤ (n : Int) := Int.natCast_nonneg _
  clear hown hmx hby hnews hl' hl h1 hnn hzu hvb
  rcases hsh : a with _ | ⟨g, off, fr⟩
  · have h0 : n = 0 := by
      rcases HO.out.1.2 with ⟨_, h0⟩ | ⟨g', cap', cur', e, _⟩
      · exact h0
      · rw [hsh] at e; cases e
    subst hsh
    subst h0
    go_enter Try.func65, Try.ntmps65
    go_wp2_with (at_builtin; refine wpList_append_near rfl _ _ 86 rfl B 102 i0 (.agg #[.slice none 0 0, .slice none 0 0, .int .i64 0]) 3 56 Try.underlying86 hi0 hz0 hz1 hz2 rfl (by decide) _ 0 xs rfl HO.out ⟨vb, 0, none⟩ 1 1 news rfl HL.out HNW.out H1.out HZ.out HN.out HM.out HBY.out hB (fun v' w' k1 k2 k3 k4 => ?_))
    go_ret
    exact ⟨_, rfl, k1, k2, k3, k4⟩
  · obtain ⟨rfl, rfl⟩ : off = 0 ∧ fr = none := by
      rcases HO.out.1.2 with ⟨e, _⟩ | ⟨g', cap', cur', e, _⟩
      · rw [hsh] at e; cases e
      · rw [hsh] at e
        simp only [Value.slice.injEq, Option.some.injEq, Addr.mk.injEq] at e
        exact ⟨e.1.2.1, e.1.2.2⟩
    subst hsh
    by_cases hcn : cap = n
    · go_enter Try.func65, Try.ntmps65
      go_wp2_with (at_builtin; refine wpList_append_near rfl _ _ 86 rfl B 102 i0 (.agg #[.slice none 0 0, .slice none 0 0, .int .i64 0]) 3 56 Try.underlying86 hi0 hz0 hz1 hz2 rfl (by decide) _ n xs rfl HO.out ⟨vb, 0, none⟩ 1 1 news rfl HL.out HNW.out H1.out HZ.out HN.out HM.out HBY.out hB (fun v' w' k1 k2 k3 k4 => ?_))
      go_ret
      exact ⟨_, rfl, k1, k2, k3, k4⟩
    · go_enter Try.func65, Try.ntmps65
      go_wp2_with (at_builtin; refine wpList_append_near rfl _ _ 86 rfl B 102 i0 (.agg #[.slice none 0 0, .slice none 0 0, .int .i64 0]) 3 56 Try.underlying86 hi0 hz0 hz1 hz2 rfl (by decide) _ n xs rfl HO.out ⟨vb, 0, none⟩ 1 1 news rfl HL.out HNW.out H1.out HZ.out HN.out HM.out HBY.out hB (fun v' w' k1 k2 k3 k4 => ?_))
      go_ret
      exact ⟨_, rfl, k1, k2, k3, k4⟩

/-- One element put in at a place. -/
theorem insLed_any (v : Value) (n i vb : Nat) (B : Nat) (xs news : List Value) (w : World) (hown : OwnN w B 102 3 v n xs) (hi : i ≤ n) (hvb : Blk w vb news.toArray 102) (hne : v.ownBlock ≠ some vb) (hl : news.length = 3) (hB : B ≤ w.heap.size) (hn : n ≤ 1000000000000)
    (h1 : ∀ u ∈ news, u.oneCell' = true) (hnn : ∀ u ∈ news, ∀ k : Nat, u ≠ U8 k) (h1x : ∀ u ∈ xs, u.oneCell' = true) :
    Calls Try.prog 65 #[v, .int .i64 (i : Int), .slice (some ⟨vb, 0, none⟩) 1 1] w fun e w' =>
      ∃ v', e = .returned v' ∧ OwnN w' B 102 3 v' (n + 1) (xs.take (i * 3) ++ news ++ xs.drop (i * 3)) ∧ w.grownBy w' v.ownBlock ∧ Soft w w' ∧ Near w v v' := by
  have hsh : ∃ a c, v = .slice a n c := by
    rcases hown.1.2 with ⟨rfl, h0⟩ | ⟨g, cap, cur, rfl, _⟩
    · rw [h0]; exact ⟨_, _, rfl⟩
    · exact ⟨_, _, rfl⟩
  by_cases he : i = n
  · obtain ⟨a, c, rfl⟩ := hsh
    subst he
    have e1 : xs.take (i * 3) = xs := List.take_of_length_le (by rw [hown.1.1]; exact Nat.le_refl _)
    have e2 : xs.drop (i * 3) = [] := List.drop_of_length_le (by rw [hown.1.1]; exact Nat.le_refl _)
    rw [e1, e2, List.append_nil]
    exact insLed_end a i c vb B xs news w hown hvb hl hB hn h1 hnn
  · have hlt : i < n := by omega
    have hown' := hown
    rcases hown.1.2 with ⟨_, h0⟩ | ⟨g, cap, cur, rfl, _⟩
    · omega
    · by_cases hr : n + 1 ≤ cap
      · exact insLed_room g n cap i vb B xs news w hown' hlt hr hvb (fun e => hne (by rw [e]; rfl)) hl h1 hnn h1x
      · exact insLed_grow g n cap i vb B xs news w hown' hlt (by omega) hvb hl hB hn h1 hnn h1x

end Go.Proofs.Ytphdadibfeencaa

/-
  Grids in the program (layer 7): 'without', and the predicate by which a row's place is searched.
-/
set_option maxRecDepth 100000
namespace Go.Proofs.Ytphdadibfeencaa
open Go.RowKit
open La

/-- Nothing is taken away where nothing stands. -/
theorem step_same {k t : Nat} {x r : Rw} (hx : Ro.Dim k t x) (hr : Ro.Dim k t r) (h : nth x.1 (lead r.1) = 0) : Ro.step x r = x := by
  refine fj_inj (Ro.step_dim hx hr) hx ?_
  unfold Ro.step
  rw [h, fj_less (by decide) hx hr]
  have : bt 0 = 0 := rfl
  rw [this, zero_vs, v0_va]
theorem step_pair {k t : Nat} {x r : Rw} (hx : Ro.Dim k t x) (hr : Ro.Dim k t r) : Ro.step x r = (Gf.add (Gf.scale (nth x.1 (lead r.1)) r.1) x.1, Gf.add (Gf.scale (nth x.1 (lead r.1)) r.2) x.2) := (Ro.less_dim (nth_lt hx.2.2.1 _) hx hr).2

end Go.Proofs.Ytphdadibfeencaa

/-
  slices.Insert of one element (Vec): there is room, or there is none, or it comes last.
-/
set_option maxRecDepth 100000
namespace Go.Proofs.Ytphdadibfeencaa
open Go.RowKit

theorem infoVec : (Try.prog.info? 52).map (fun i => (i.zero, i.size, i.bytes)) = some (some (.agg #[.slice none 0 0, .slice none 0 0]), 2, 48) := by kernel_rfl

end Go.Proofs.Ytphdadibfeencaa

/-
  Lists of rows that a call owns: a row put in by slices.Insert; a row stored in a region that draws its order.
-/
set_option maxRecDepth 100000
namespace Go.Proofs.Ytphdadibfeencaa
open Go.RowKit

theorem Each.take {w : World} {us : List (Value × Value)} {L : List Rw} (h : Each w us L) (i : Nat) : Each w (us.take i) (L.take i) := ⟨by simp [h.len], fun j u hu => by
  rw [List.getElem?_take] at hu
  split at hu
  · rename_i hj
    rw [show rwAt (L.take i) j = rwAt L j from by unfold rwAt; rw [List.getD_eq_getElem?_getD, List.getElem?_take, if_pos hj, ← List.getD_eq_getElem?_getD]]
    exact h.row j u hu
  · cases hu⟩
theorem Each.drop {w : World} {us : List (Value × Value)} {L : List Rw} (h : Each w us L) (i : Nat) : Each w (us.drop i) (L.drop i) := ⟨by simp [h.len], fun j u hu => by
  rw [List.getElem?_drop] at hu
  rw [show rwAt (L.drop i) j = rwAt L (i + j) from by unfold rwAt; rw [List.getD_eq_getElem?_getD, List.getElem?_drop, ← List.getD_eq_getElem?_getD]]
  exact h.row _ u hu⟩
theorem Each.cons {w : World} {us : List (Value × Value)} {L : List Rw} {x y : Value} {r : Rw} (h : Each w us L) (hx : Bytes w x r.1) (hy : Bytes w y r.2) : Each w ((x, y) :: us) (r :: L) := ⟨by simp [h.len], fun j u hu => by
  cases j with
  | zero => simp at hu; subst hu; exact ⟨hx, hy⟩
  | succ j => exact h.row j u (by simpa using hu)⟩
section
variable {W : World} {g : Nat}
end

end Go.Proofs.Ytphdadibfeencaa

/-
  Systems of equations in the program (layer 8): their lists of rows, three cells each (vector, data, where it leads).
-/
set_option maxRecDepth 100000
namespace Go.Proofs.Ytphdadibfeencaa
open Go.RowKit

/-- The cells of rows and where they lead, one behind the other. -/
def trips : List (Value × Value) → List Rw → List Value
  | u :: us, r :: E => u.1 :: u.2 :: .int .i64 (lead r.1 : Int) :: trips us E
  | _, _ => []
theorem trips_length : ∀ (us : List (Value × Value)) (E : List Rw), us.length = E.length → (trips us E).length = E.length * 3
  | [], [], _ => rfl
  | u :: us, r :: E, h => by
    have := trips_length us E (by simpa using h)
    simp [trips, this]; omega
  | [], r :: E, h => by simp at h
  | u :: us, [], h => by simp at h
theorem trips_append : ∀ (us vs : List (Value × Value)) (E F : List Rw), us.length = E.length → trips (us ++ vs) (E ++ F) = trips us E ++ trips vs F
  | [], vs, [], F, _ => by simp [trips]
  | u :: us, vs, r :: E, F, h => by simp [trips, trips_append us vs E F (by simpa using h)]
  | [], vs, r :: E, F, h => by simp at h
  | u :: us, vs, [], F, h => by simp at h
theorem trips_get : ∀ (us : List (Value × Value)) (E : List Rw) (i : Nat) (u : Value × Value), us.length = E.length → us[i]? = some u →
    (trips us E)[i * 3]? = some u.1 ∧ (trips us E)[i * 3 + 1]? = some u.2 ∧ (trips us E)[i * 3 + 2]? = some (.int .i64 (lead (rwAt E i).1 : Int))
  | [], _, i, u, _, h => by simp at h
  | x :: us, [], _, _, h, _ => by simp at h
  | x :: us, r :: E, 0, u, _, h => by simp at h; subst h; simp [trips, rwAt]
  | x :: us, r :: E, i + 1, u, hl, h => by
    have := trips_get us E i u (by simpa using hl) (by simpa using h)
    rw [show (i + 1) * 3 = i * 3 + 1 + 1 + 1 by omega]
    have e : rwAt (r :: E) (i + 1) = rwAt E i := by simp [rwAt]
    rw [e]
    simpa [trips] using this
theorem trips_take : ∀ (us : List (Value × Value)) (E : List Rw) (i : Nat), us.length = E.length → (trips us E).take (i * 3) = trips (us.take i) (E.take i)
  | [], [], i, _ => by simp [trips]
  | u :: us, r :: E, 0, _ => by simp [trips]
  | u :: us, r :: E, i + 1, h => by
    rw [show (i + 1) * 3 = i * 3 + 1 + 1 + 1 by omega]
    simp only [trips, List.take_succ_cons]
    rw [trips_take us E i (by simpa using h)]
  | [], r :: E, _, h => by simp at h
  | u :: us, [], _, h => by simp at h
theorem trips_drop : ∀ (us : List (Value × Value)) (E : List Rw) (i : Nat), us.length = E.length → (trips us E).drop (i * 3) = trips (us.drop i) (E.drop i)
  | [], [], i, _ => by simp [trips]
  | u :: us, r :: E, 0, _ => by simp [trips]
  | u :: us, r :: E, i + 1, h => by
    rw [show (i + 1) * 3 = i * 3 + 1 + 1 + 1 by omega]
    simp only [trips, List.drop_succ_cons]
    rw [trips_drop us E i (by simpa using h)]
  | [], r :: E, _, h => by simp at h
  | u :: us, [], _, h => by simp at h
theorem trips_set {x y : Value} {r : Rw} : ∀ (us : List (Value × Value)) (E : List Rw) (k : Nat), us.length = E.length → k < us.length → lead r.1 = lead (rwAt E k).1 → ((trips us E).set (k * 3) x).set (k * 3 + 1) y = trips (us.set k (x, y)) (E.set k r)
  | [], _, k, _, h, _ => by simp at h
  | u :: us, [], _, h, _, _ => by simp at h
  | u :: us, s :: E, 0, _, _, h => by
    have e : lead s.1 = lead r.1 := by simpa [rwAt] using h.symm
    simp [trips, e]
  | u :: us, s :: E, k + 1, hl, hk, h => by
    rw [show (k + 1) * 3 = k * 3 + 1 + 1 + 1 by omega, show k * 3 + 1 + 1 + 1 + 1 = (k * 3 + 1) + 1 + 1 + 1 by omega]
    simp only [trips, List.set_cons_succ]
    rw [trips_set us E k (by simpa using hl) (by simpa using hk) (by simpa [rwAt] using h)]
theorem Each.noU8e {w : World} {us : List (Value × Value)} {E : List Rw} (h : Each w us E) : ∀ x ∈ trips us E, (∀ k : Nat, x ≠ U8 k) ∧ x.oneCell' = true := by
  intro x hx
  have hp := h.noU8
  obtain ⟨j, hj⟩ := List.mem_iff_getElem?.1 hx
  have hlt : j < E.length * 3 := by
    rw [← trips_length us E h.len]
    exact (List.getElem?_eq_some_iff.1 hj).1
  have hi : j / 3 < us.length := by rw [h.len]; omega
  obtain ⟨e0, e1, e2⟩ := trips_get us E (j / 3) us[j / 3] h.len (List.getElem?_eq_getElem hi)
  obtain ⟨p0, p1⟩ := pairs_get us (j / 3) us[j / 3] (List.getElem?_eq_getElem hi)
  have h3 : j = j / 3 * 3 ∨ j = j / 3 * 3 + 1 ∨ j = j / 3 * 3 + 2 := by omega
  rcases h3 with h3 | h3 | h3
  · rw [h3, e0] at hj
    cases hj
    exact hp _ (List.mem_of_getElem? p0)
  · rw [h3, e1] at hj
    cases hj
    exact hp _ (List.mem_of_getElem? p1)
  · rw [h3, e2] at hj
    cases hj
    exact ⟨fun k e => (by cases e), rfl⟩

/-- A list of rows that a system owns. -/
def OwnE (w : World) (B : Nat) (v : Value) (E : List Rw) : Prop := ∃ us, OwnN w B 102 3 v E.length (trips us E) ∧ Each w us E

theorem OwnE.nil (w : World) (B : Nat) : OwnE w B (.slice none 0 0) [] := ⟨[], OwnN.nil _ _ _ _, Each.nil _⟩
theorem OwnE.mono {w : World} {B C : Nat} {v : Value} {E : List Rw} (h : OwnE w B v E) (hC : C ≤ B) : OwnE w C v E := by
  obtain ⟨us, h1, h2⟩ := h; exact ⟨us, h1.mono hC, h2⟩
theorem OwnE.go {w w' : World} {B : Nat} {v : Value} {E : List Rw} (h : OwnE w B v E) (hb : Below w.heap.size w w') : OwnE w' B v E := by
  obtain ⟨us, h1, h2⟩ := h; exact ⟨us, h1.go hb, h2.soft (Soft.of_below hb)⟩
theorem OwnE.from {w : World} {B : Nat} {v : Value} {E : List Rw} (h : OwnE w B v E) : ∀ k, v.ownBlock = some k → B ≤ k := by obtain ⟨us, h1, _⟩ := h; exact h1.from
theorem OwnE.lt {w : World} {B : Nat} {v : Value} {E : List Rw} (h : OwnE w B v E) : ∀ k, v.ownBlock = some k → k < w.heap.size := by obtain ⟨us, h1, _⟩ := h; exact fun k hk => (World.ownsRow.lt h1.1 k hk).2
/-- A list depends on its own block alone, and on bytes. -/
theorem OwnN.same {w w' : World} {B sz n : Nat} {T : TypeId} {v : Value} {xs : List Value} (h : OwnN w B T sz v n xs) (hs : ∀ k, v.ownBlock = some k → w'.heap[k]? = w.heap[k]?) : OwnN w' B T sz v n xs := by
  refine ⟨⟨h.1.1, ?_⟩, fun g e => (h.2 g e).of_heap (hs g e)⟩
  rcases h.1.2 with hn | ⟨g, cap, cur, rfl, hb, hgg, rest⟩
  · exact .inl hn
  · exact .inr ⟨g, cap, cur, rfl, hb, by rw [hs g rfl]; exact hgg, rest⟩
theorem OwnE.same {w w' : World} {B : Nat} {v : Value} {E : List Rw} (h : OwnE w B v E) (hs : Soft w w') (he : ∀ k, v.ownBlock = some k → w'.heap[k]? = w.heap[k]?) : OwnE w' B v E := by
  obtain ⟨us, h1, h2⟩ := h; exact ⟨us, h1.same he, h2.soft hs⟩
theorem OwnE.other {w w' : World} {B g : Nat} {v : Value} {E : List Rw} (h : OwnE w B v E) (hg : w.grownBy w' (some g)) (hs : Soft w w') (hne : v.ownBlock ≠ some g) : OwnE w' B v E :=
  h.same hs fun k e => hg.block k (h.lt k e) (by rw [← e]; exact hne)
theorem OwnE.shape {w : World} {B : Nat} {v : Value} {E : List Rw} (h : OwnE w B v E) : ∃ a c, v = .slice a E.length c := by
  obtain ⟨us, ⟨⟨_, h1⟩, _⟩, _⟩ := h
  rcases h1 with ⟨rfl, h0⟩ | ⟨g, cap, cur, rfl, _⟩
  · rw [h0]; exact ⟨_, _, rfl⟩
  · exact ⟨_, _, rfl⟩
theorem OwnE.addr {w : World} {B : Nat} {v : Value} {E : List Rw} (h : OwnE w B v E) (hne : 0 < E.length) : ∃ g c, v = .slice (some ⟨g, 0, none⟩) E.length c ∧ B ≤ g ∧ g < w.heap.size := by
  have h' := h
  obtain ⟨us, ⟨⟨_, h1⟩, _⟩, _⟩ := h
  rcases h1 with ⟨rfl, h0⟩ | ⟨g, cap, cur, rfl, hB, _⟩
  · omega
  · exact ⟨g, cap, rfl, hB, h'.lt g rfl⟩
theorem OwnE.free {w : World} {B g n c : Nat} {E : List Rw} (h : OwnE w B (.slice (some ⟨g, 0, none⟩) n c) E) (j : Nat) : w.frozen? ⟨g, j, none⟩ = false := by
  obtain ⟨a, c', e⟩ := h.shape
  simp only [Value.slice.injEq] at e
  obtain ⟨_, rfl, _⟩ := e
  obtain ⟨us, ⟨h1, _⟩, _⟩ := h
  exact World.ownsRow.frozenAt h1 j
theorem OwnE.cells {w : World} {B g n c : Nat} {E : List Rw} (h : OwnE w B (.slice (some ⟨g, 0, none⟩) n c) E) (k : Nat) (hk : k < E.length) :
    ∃ a b a' b', w.cell? ⟨g, k * 3, none⟩ = some (.slice a (rwAt E k).1.length b) ∧ w.cell? ⟨g, k * 3 + 1, none⟩ = some (.slice a' (rwAt E k).2.length b') ∧ w.cell? ⟨g, k * 3 + 2, none⟩ = some (.int .i64 (lead (rwAt E k).1 : Int)) ∧
      Bytes w (.slice a (rwAt E k).1.length b) (rwAt E k).1 ∧ Bytes w (.slice a' (rwAt E k).2.length b') (rwAt E k).2 := by
  obtain ⟨us, ⟨h1, _⟩, h2⟩ := h
  have hk' : k < us.length := by rw [h2.len]; exact hk
  have hu := List.getElem?_eq_getElem hk'
  obtain ⟨hb1, hb2⟩ := h2.row k us[k] hu
  obtain ⟨e0, e1, e2⟩ := trips_get us E k us[k] h2.len hu
  have c0 := World.ownsRow.cells h1 (g := g) rfl _ _ e0
  have c1 := World.ownsRow.cells h1 (g := g) rfl _ _ e1
  have c2 := World.ownsRow.cells h1 (g := g) rfl _ _ e2
  rw [row_add, Nat.zero_add] at c0 c1 c2
  obtain ⟨xa, xc, ex, _⟩ := id hb1
  obtain ⟨ya, yc, ey, _⟩ := id hb2
  rw [ex] at c0 hb1
  rw [ey] at c1 hb2
  exact ⟨_, _, _, _, c0, c1, c2, hb1, hb2⟩
/-- A row that leads where the one did is stored in its place. -/
theorem OwnE.set {w : World} {B g n cap : Nat} {E : List Rw} (h : OwnE w B (.slice (some ⟨g, 0, none⟩) n cap) E) (k : Nat) (hk : k < E.length) {x y : Value} {r : Rw} (hx : Bytes w x r.1) (hy : Bytes w y r.2) (hld : lead r.1 = lead (rwAt E k).1) :
    OwnE ((w.setCell ⟨g, k * 3, none⟩ x).setCell ⟨g, k * 3 + 1, none⟩ y) B (.slice (some ⟨g, 0, none⟩) n cap) (E.set k r) ∧ Soft w ((w.setCell ⟨g, k * 3, none⟩ x).setCell ⟨g, k * 3 + 1, none⟩ y) ∧
      w.grownBy ((w.setCell ⟨g, k * 3, none⟩ x).setCell ⟨g, k * 3 + 1, none⟩ y) (some g) := by
  obtain ⟨a, c, e⟩ := h.shape
  simp only [Value.slice.injEq] at e
  obtain ⟨_, rfl, _⟩ := e
  obtain ⟨us, h1, h2⟩ := h
  obtain ⟨s1, g1⟩ := World.ownsRow.stored h1.1 (k * 3) x
  obtain ⟨s2, g2⟩ := World.ownsRow.stored s1 (k * 3 + 1) y
  have hg := grown_trans g1 g2
  have nx : ∀ m : Nat, x ≠ U8 m := by obtain ⟨a, c, rfl, _⟩ := hx; exact slice_ne _ _ _
  have ny : ∀ m : Nat, y ≠ U8 m := by obtain ⟨a, c, rfl, _⟩ := hy; exact slice_ne _ _ _
  have hk' : k < us.length := by rw [h2.len]; exact hk
  rw [trips_set us E k h2.len hk' hld] at s2
  obtain ⟨cur, fr, hcur⟩ : ∃ cur fr, w.heap[g]? = some (.cells cur 102 fr) := by
    rcases h1.1.2 with ⟨e, _⟩ | ⟨g', cap', cur, e, _, hgg, _⟩
    · cases e
    · simp only [Value.slice.injEq, Option.some.injEq, Addr.mk.injEq] at e
      obtain ⟨⟨rfl, _⟩, _⟩ := e
      exact ⟨cur, (0, 0), hgg⟩
  have hloose := h1.2 g rfl
  have hl2 : Loose ((w.setCell ⟨g, k * 3, none⟩ x).setCell ⟨g, k * 3 + 1, none⟩ y) g := by
    intro i m
    have e1 : ((w.setCell ⟨g, k * 3, none⟩ x).setCell ⟨g, k * 3 + 1, none⟩ y).heap[g]? = some (.cells ((cur.setIfInBounds (k * 3) x).setIfInBounds (k * 3 + 1) y) 102 fr) := by
      unfold World.setCell
      simp [Array.getElem?_modify, hcur]
    rw [cell_of_row _ g i _ _ fr e1]
    have e2 := hloose i m
    rw [cell_of_row w g i cur 102 fr hcur] at e2
    rw [Array.getElem?_setIfInBounds, Array.getElem?_setIfInBounds]
    intro e3
    split at e3
    · split at e3
      · exact ny m (Option.some.inj e3)
      · cases e3
    · split at e3
      · split at e3
        · exact nx m (Option.some.inj e3)
        · cases e3
      · exact e2 e3
  have hs : Soft w ((w.setCell ⟨g, k * 3, none⟩ x).setCell ⟨g, k * 3 + 1, none⟩ y) := Soft.of_grown hg fun b e => by
    simp only [Option.some.injEq] at e
    subst e; exact ⟨hloose, hl2⟩
  refine ⟨⟨us.set k (x, y), ⟨?_, fun b e => ?_⟩, ⟨by simp [h2.len], fun i u hu => ?_⟩⟩, hs, hg⟩
  · rw [List.length_set]; exact s2
  · simp only [Value.ownBlock, Option.some.injEq] at e
    subst e; exact hl2
  · rw [List.getElem?_set] at hu
    by_cases hki : k = i
    · subst hki
      rw [if_pos rfl, if_pos hk'] at hu
      simp only [Option.some.injEq] at hu
      subst hu
      rw [show rwAt (E.set k r) k = r from by rw [rwAt_eq _ _ (by simpa using hk)]; simp]
      exact ⟨hx.soft hs, hy.soft hs⟩
    · rw [if_neg hki] at hu
      rw [show rwAt (E.set k r) i = rwAt E i from by unfold rwAt; rw [List.getD_eq_getElem?_getD, List.getElem?_set, if_neg hki, ← List.getD_eq_getElem?_getD]]
      have := h2.row i u hu
      exact ⟨this.1.soft hs, this.2.soft hs⟩
/-- Blocks of other elements lie elsewhere. -/
theorem OwnE.ne_box {w : World} {B g : Nat} {T' : TypeId} {v : Value} {E : List Rw} {vs : Array Value} (h : OwnE w B v E) (k : Blk w g vs T') (hT : 102 ≠ T') : v.ownBlock ≠ some g := by
  obtain ⟨us, ⟨⟨_, h2⟩, _⟩, _⟩ := h
  rcases h2 with ⟨rfl, _⟩ | ⟨g', cap, cur, rfl, _, hg, _⟩
  · intro e; cases e
  · intro e
    simp only [Value.ownBlock, Option.some.injEq] at e
    subst e
    unfold Blk at k
    rw [hg] at k
    simp only [Option.some.injEq, Obj.cells.injEq] at k
    exact hT k.2.1
/-- A row put in. -/
theorem insled_any (v x y : Value) (E : List Rw) (i vb B : Nat) (r : Rw) (w : World) (hown : OwnE w B v E) (hi : i ≤ E.length) (hvb : Blk w vb #[x, y, .int .i64 (lead r.1 : Int)] 102) (hx : Bytes w x r.1) (hy : Bytes w y r.2) (hne : v.ownBlock ≠ some vb) (hB : B ≤ w.heap.size) (hn : E.length ≤ 1000000000) :
    Calls Try.prog 65 #[v, .int .i64 (i : Int), .slice (some ⟨vb, 0, none⟩) 1 1] w fun e w' =>
      ∃ v', e = .returned v' ∧ OwnE w' B v' (E.take i ++ r :: E.drop i) ∧ w.grownBy w' v.ownBlock ∧ Soft w w' ∧ Near w v v' := by
  obtain ⟨us, h1, h2⟩ := hown
  have hN : ∀ u ∈ [x, y, .int .i64 (lead r.1 : Int)], (∀ k : Nat, u ≠ U8 k) ∧ u.oneCell' = true := by
    obtain ⟨a, c, rfl, _⟩ := hx
    obtain ⟨a', c', rfl, _⟩ := hy
    intro u hu
    rcases List.mem_cons.1 hu with rfl | hu
    · exact ⟨slice_ne _ _ _, rfl⟩
    · rcases List.mem_cons.1 hu with rfl | hu
      · exact ⟨slice_ne _ _ _, rfl⟩
      · rcases List.mem_cons.1 hu with rfl | hu
        · exact ⟨fun k e => (by cases e), rfl⟩
        · cases hu
  refine (insLed_any v E.length i vb B (trips us E) [x, y, .int .i64 (lead r.1 : Int)] w h1 hi hvb hne rfl hB (by omega) (fun u hu => (hN u hu).2) (fun u hu => (hN u hu).1) (fun u hu => (h2.noU8e u hu).2)).mono ?_
  rintro e w' ⟨v', rfl, k1, k2, k3, k4⟩
  refine ⟨v', rfl, ⟨us.take i ++ (x, y) :: us.drop i, ?_, ?_⟩, k2, k3, k4⟩
  · rw [trips_append _ _ _ _ (by simp [h2.len]), ← trips_take us E i h2.len, show trips ((x, y) :: us.drop i) (r :: E.drop i) = [x, y, .int .i64 (lead r.1 : Int)] ++ trips (us.drop i) (E.drop i) from rfl, ← trips_drop us E i h2.len]
    rw [show (E.take i ++ r :: E.drop i).length = E.length + 1 by simp; omega, ← List.append_assoc]
    exact k1
  · exact ((h2.take i).append ((h2.drop i).cons hx hy)).soft k3

end Go.Proofs.Ytphdadibfeencaa

/-
  sort.Search over a closure of the program (Place), which captures two boxes and turns nothing.
-/
set_option maxRecDepth 100000
namespace Go.Proofs.Ytphdadibfeencaa
open Go.RowKit

/-- What Search answers: a place behind which the predicate holds, and ahead of which it doesn't. -/
def SrchPlace (n : Nat) (p : Nat → Bool) (w : World) (e : Ending) (w' : World) : Prop := ∃ r : Nat, e = .returned (.int .i64 (r : Int)) ∧ r ≤ n ∧ (0 < r → p (r - 1) = false) ∧ (r < n → p r = true) ∧ Below w.heap.size w w'

set_option maxHeartbeats 1000000 in
theorem searchPlace_any (c0 c1 : Value) (n : Nat) (p : Nat → Bool) (w : World) (hn : n ≤ 1000000000000) (hF : ∀ wr, Below w.heap.size w wr → ∀ k : Nat, k < n → Calls Try.prog 83 #[.int .i64 (k : Int), c0, c1] wr fun e w' => e = .returned (.bool (p k)) ∧ Below wr.heap.size wr w') :
    Calls Try.prog 82 #[.int .i64 (n : Int), .func (Fn.func 83) #[] #[c0, c1]] w (SrchPlace n p w) := by
  have HF := Lib.hid hF
  clear hF
  go_enter Try.func82, Try.ntmps82
  go_wp2_with fail
  go_loopw [5, 6] (fun a b wr => ∃ i j : Nat, a = .int .i64 i ∧ b = .int .i64 j ∧ i ≤ j ∧ j ≤ n ∧ (0 < i → p (i - 1) = false) ∧ (j < n → p j = true) ∧ Below w.heap.size w wr) (fun a b _ => (intOf b).toNat - (intOf a).toNat)
  case atStart => exact ⟨0, n, rfl, rfl, by omega, by omega, fun h => absurd h (by omega), fun h => absurd h (by omega), Below.refl _ _⟩
  case round =>
    obtain ⟨i, j, rfl, rfl, hij, hjn, h0, h1, B⟩ := hrel
    have H0 := Lib.hid h0
    have H1 := Lib.hid h1
    clear h0 h1
    by_cases hlt : i < j
    · obtain ⟨m, hm⟩ : ∃ m, m = (i + j) / 2 := ⟨_, rfl⟩
      have hmn : m < n := by omega
      have hw0 : IntKind.i64.wrap ((i : Int) + (j : Int)) = (i : Int) + (j : Int) := by rw [IntKind.wrap_i64]; omega
      have hw1 : IntKind.u64.wrap ((i : Int) + (j : Int)) = ((i + j : Nat) : Int) := by rw [IntKind.wrap_u64]; omega
      have hw2 : IntKind.i64.wrap (((i : Int) + (j : Int)) / 2) = (m : Int) := by rw [IntKind.wrap_i64]; omega
      have hw3 : IntKind.u64.wrap (((i : Int) + (j : Int)) / 2) = (m : Int) := by rw [IntKind.wrap_u64]; omega
      go_wp2_with fail
      have hhf : ((i : Int) + (j : Int)) / 2 = (m : Int) := by omega
      simp only [hhf]
      refine (HF.out wr B m hmn).mono ?_
      rintro e w2 ⟨rfl, hb⟩
      have B2 : Below w.heap.size w w2 := B.trans (hb.mono B.size)
      clear hhf hw0 hw1 hw2 hw3
      cases hp : p m with
      | false =>
        go_wp2_with fail
        go_roundw
        case rel => exact ⟨m + 1, j, by go_num, rfl, by omega, hjn, fun _ => by rw [Nat.add_sub_cancel]; exact hp, H1.out, B2⟩
        case measure => simp [intOf]; omega
      | true =>
        go_wp2_with fail
        go_roundw
        case rel => exact ⟨i, m, by first | rfl | go_num, by first | rfl | go_num, by omega, by omega, H0.out, fun _ => hp, B2⟩
        case measure => simp [intOf]; omega
    · obtain rfl : i = j := by omega
      go_wp2_with fail
      go_ret
      exact ⟨i, rfl, hjn, H0.out, H1.out, B⟩

end Go.Proofs.Ytphdadibfeencaa
