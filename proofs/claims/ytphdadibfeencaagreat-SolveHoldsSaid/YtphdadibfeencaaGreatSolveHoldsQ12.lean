/- Texts of one seat, laid together: InsLed, GridA, SearchRed. -/
import Derived.Test.YtphdadibfeencaaGreatSolveHoldsQ11
import Derived.Shelf.Spec.SlicesInsert
import Derived.Laws.CopyOwn
import Derived.Test.YtphdadibfeencaaGreatSolveHoldsQ9
import Derived.Test.YtphdadibfeencaaGreatSolveHoldsQ10
import Derived.BigQuiet
import Derived.Test.YtphdadibfeencaaGreatSolveHoldsQ5

/-
  slices.Insert of one element (Led): there is room, or there is none, or it comes last.
-/
set_option maxRecDepth 100000
namespace Go.Proofs.YtphdadibfeencaaGreat
open Go.RowKit

theorem infoLed : (Tryz.prog.info? 125).map (fun i => (i.zero, i.size, i.bytes)) = some (some (.agg #[.slice none 0 0, .slice none 0 0, .int .i64 0]), 3, 56) := by kernel_rfl

set_option maxHeartbeats 2000000 in
/-- There is room: in place. -/
theorem insLed_room (g n cap i vb : Nat) (B : Nat) (xs news : List Value) (w : World) (hown : OwnN w B 125 3 (.slice (some ⟨g, 0, none⟩) n cap) n xs) (hi : i < n) (hroom : n + 1 ≤ cap) (hvb : Blk w vb news.toArray 125) (hne : vb ≠ g) (hl : news.length = 3)
    (h1 : ∀ u ∈ news, u.oneCell' = true) (hnn : ∀ u ∈ news, ∀ k : Nat, u ≠ U8 k) (h1x : ∀ u ∈ xs, u.oneCell' = true) :
    Calls Tryz.prog 85 #[.slice (some ⟨g, 0, none⟩) n cap, .int .i64 (i : Int), .slice (some ⟨vb, 0, none⟩) 1 1] w fun e w' =>
      ∃ v', e = .returned v' ∧ OwnN w' B 125 3 v' (n + 1) (xs.take (i * 3) ++ news ++ xs.drop (i * 3)) ∧ w.grownBy w' (some g) ∧ Soft w w' ∧ Near w (.slice (some ⟨g, 0, none⟩) n cap) v' := by
  have hcap : cap ≤ 9223372036854775807 := by
    rcases hown.1.2 with ⟨e, _⟩ | ⟨g', cap', cur', e, hB, hg', hnc, hcm, hcs, htake⟩
    · cases e
    · simp only [Value.slice.injEq, Option.some.injEq, Addr.mk.injEq, and_true, true_and] at e
      obtain ⟨rfl, rfl⟩ := e
      simpa [maxLen] using hcm
  obtain ⟨cur, hg, hcs, htake⟩ : ∃ cur : Array Value, w.heap[g]? = some (.cells cur 125 (0, 0)) ∧ cur.size = cap * 3 ∧ cur.toList.take (n * 3) = xs := by
    rcases hown.1.2 with ⟨e, _⟩ | ⟨g', cap', cur', e, hB, hg', hnc, hcm, hcs, htake⟩
    · cases e
    · simp only [Value.slice.injEq, Option.some.injEq, Addr.mk.injEq, and_true, true_and] at e
      obtain ⟨rfl, rfl⟩ := e
      exact ⟨cur', hg', hcs, htake⟩
  have hxl : xs.length = n * 3 := hown.1.1
  have hdl : (xs.drop (i * 3)).length = (n - i) * 3 := by rw [List.length_drop, hxl]; omega
  obtain ⟨i0, hi0, hz0, hz1, hz2⟩ := info_parts infoLed
  have hs0 : (Tryz.prog.info? 125).map (·.size) = some 3 := by rw [hi0]; simp [hz1]
  have hso : ∀ w, (Go.sizeOf 125).run Tryz.prog w = .ok 3 w := fun w => by simp [sizeOf, typeInfo, hi0, hz1]
  have hov : ∀ lb cb, (callFunc 93 #[.slice (some ⟨vb, 0, none⟩) 1 1, .slice (some ⟨g, (i + 1) * 3, none⟩) lb cb]).run Tryz.prog w = .ok (.value (.bool false)) w := fun lb cb => by
    rw [run_callFunc_extern Tryz.func93 (by kernel_rfl) (by kernel_rfl) (by kernel_rfl) (e := Extern.SlicesOverlaps.overlaps #[108, 108] #[4]) (by kernel_rfl),
      Lib.run_overlaps_apart w 108 4 125 Tryz.underlying108 3 hso ⟨vb, 0, none⟩ ⟨g, (i + 1) * 3, none⟩ 1 1 lb cb hne 125 125 3 (cap * 3) (by unfold World.shape?; rw [hvb]; simp [hl]) (by unfold World.shape?; rw [hg]; simp [hcs]) (by omega) (hvb.free 0) (hvb.free 3)]
    rfl
  obtain ⟨W1, hW1⟩ : ∃ W1, W1 = w.drew.setRow g (wr cur.toList (i * 3 + 3) (xs.drop (i * 3))).toArray := ⟨_, rfl⟩
  have hfit1 : i * 3 + 3 + (xs.drop (i * 3)).length ≤ cur.size := by rw [hdl, hcs]; omega
  have hcp1 : ∀ ty dc sc, (Builtin.copy_ #[108, 108] ty #[.slice (some ⟨g, (i + 1) * 3, none⟩) (n - i) dc, .slice (some ⟨g, i * 3, none⟩) (n + 1 - i) sc]).run Tryz.prog w.drew = .ok (goInt (n - i : Nat)) W1 := fun ty dc sc => by
    rw [hW1, show (i + 1) * 3 = i * 3 + 3 by omega]
    refine run_copy_rowN w.drew 108 108 ty 125 g (i * 3 + 3) _ dc ⟨g, i * 3, none⟩ _ sc cur 125 (xs.drop (i * 3)) 3 (n - i) Tryz.underlying108 hs0 hg (by simp only [Nat.min_def]; split <;> omega) hdl (fun j v hj => ?_) hfit1 (fun v hv => h1x v (List.mem_of_mem_drop hv))
    rw [row_add, cell_of_row w.drew g _ cur 125 (0, 0) hg, ← Array.getElem?_toList]
    rw [List.getElem?_drop] at hj
    rw [← htake, List.getElem?_take] at hj
    split at hj
    · exact hj
    · cases hj
  have hW1g : W1.heap[g]? = some (.cells (wr cur.toList (i * 3 + 3) (xs.drop (i * 3))).toArray 125 (0, 0)) := by rw [hW1]; exact setRow_heap w.drew g cur _ 125 _ hg
  have hW1v : W1.heap[vb]? = some (.cells news.toArray 125 (0, 0)) := by rw [hW1, setRow_other w.drew g vb _ hne]; exact hvb
  have hwl : (wr cur.toList (i * 3 + 3) (xs.drop (i * 3))).length = cur.toList.length := wr_length (by rw [Array.length_toList]; exact hfit1)
  have hcp2 : ∀ (W : World), W.heap = W1.heap → ∀ ty dc, (Builtin.copy_ #[108, 108] ty #[.slice (some ⟨g, i * 3, none⟩) (n + 1 - i) dc, .slice (some ⟨vb, 0, none⟩) 1 1]).run Tryz.prog W = .ok (goInt (1 : Nat)) (W.setRow g (wr (wr cur.toList (i * 3 + 3) (xs.drop (i * 3))) (i * 3) news).toArray) := fun W hW ty dc => by
    refine run_copy_rowN W 108 108 ty 125 g (i * 3) _ dc ⟨vb, 0, none⟩ _ 1 (wr cur.toList (i * 3 + 3) (xs.drop (i * 3))).toArray 125 news 3 1 Tryz.underlying108 hs0 (by rw [hW]; exact hW1g) (by simp only [Nat.min_def]; split <;> omega) (by rw [hl]) (fun j v hj => ?_) (by simp only [List.size_toArray]; rw [hwl, hl, Array.length_toList]; omega) h1
    rw [row_add, Nat.zero_add, cell_of_row W vb _ news.toArray 125 (0, 0) (by rw [hW]; exact hW1v)]
    simpa using hj
  have hend : wr (wr cur.toList (i * 3 + 3) (xs.drop (i * 3))) (i * 3) news = insd cur.toList (i * 3) news (xs.drop (i * 3)) := by
    have := wr_back (cur := cur.toList) (N := news) (D := xs.drop (i * 3)) (o := i * 3) (by rw [hl, Array.length_toList]; exact hfit1)
    rw [hl] at this; exact this
  have HO := Lib.hid hown
  have HG := Lib.hid hg
  have HE := Lib.hid hend
  have HW := Lib.hid hW1
  have HC2 := Lib.hid hcp2
  have HL := Lib.hid hl
  have HN := Lib.hid hnn
  have mixed : Tryz.prog.follows Departure.mixedOrders = true := by kernel_rfl
  have hz1 : ¬ ((1 : Int) = 0) := by omega
  have hz2' : ¬ ((i : Int) = (n : Int)) := by omega
  have hz3 : ¬ ((cap : Int) < (n : Int) + 1) := by omega
  have hw1 : IntKind.i64.wrap ((i : Int) + 1) = (i : Int) + 1 := by rw [IntKind.wrap_i64]; omega
  have hw2 : IntKind.i64.wrap ((n : Int) + 1) = (n : Int) + 1 := by rw [IntKind.wrap_i64]; omega
  have hb1 : (0 : Int) ≤ (i : Int) + 1 := by omega
  have hin : i ≤ n := by omega
  have htn : ((i : Int) + 1).toNat = i + 1 := by omega
  have htm : ((n : Int) + 1).toNat = n + 1 := by omega
  have hb2 : ¬ (cap = i + 1) := by omega
  have hb3 : (i : Int) ≤ (n : Int) + 1 := by omega
  have hb4 : ¬ (cap = i) := by omega
  clear hown hg hcs htake hxl hdl hs0 hso hfit1 hW1g hW1v hwl hend hz0 hi0 hvb hl h1 hnn h1x hcp2
  clear hW1
  go_enter Tryz.func85, Tryz.ntmps85
  go_wp2_with (simp only [hov])
  go_region_law_o (refine step_copy_runI rfl _ _ 108 108 rfl _ _ (by simp [Act.eval, Act.put]) (by simp [Act.eval, Act.put]) (hcp1 _ _ _) ?_)
  have hcpW := HC2.out W1 rfl
  go_wp2_with (simp only [hcpW])
  go_ret
  have hos : W1.os = w.os ∧ W1.tape = w.tape ∧ W1.output = w.output := by rw [HW.out]; exact ⟨rfl, rfl, rfl⟩
  have hsetset : (W1.setRow g (wr (wr cur.toList (i * 3 + 3) (xs.drop (i * 3))) (i * 3) news).toArray).heap = (w.setRow g (insd cur.toList (i * 3) news (xs.drop (i * 3))).toArray).heap := by
    rw [HW.out, setRow_setRow, HE.out]; rfl
  obtain ⟨r1, r2, r3⟩ := own_insd (w' := W1.setRow g (wr (wr cur.toList (i * 3 + 3) (xs.drop (i * 3))) (i * 3) news).toArray) HO.out HG.out hin hroom HL.out HN.out hsetset hos.1 hos.2.1 hos.2.2
  exact ⟨_, rfl, r1, r2, r3, Near.same _ rfl⟩

set_option maxHeartbeats 2000000 in
/-- There is none: a new block. -/
theorem insLed_grow (g n cap i vb : Nat) (B : Nat) (xs news : List Value) (w : World) (hown : OwnN w B 125 3 (.slice (some ⟨g, 0, none⟩) n cap) n xs) (hi : i < n) (hroom : cap < n + 1) (hvb : Blk w vb news.toArray 125) (hl : news.length = 3) (hB : B ≤ w.heap.size) (hn : n ≤ 1000000000000)
    (h1 : ∀ u ∈ news, u.oneCell' = true) (hnn : ∀ u ∈ news, ∀ k : Nat, u ≠ U8 k) (h1x : ∀ u ∈ xs, u.oneCell' = true) :
    Calls Tryz.prog 85 #[.slice (some ⟨g, 0, none⟩) n cap, .int .i64 (i : Int), .slice (some ⟨vb, 0, none⟩) 1 1] w fun e w' =>
      ∃ v', e = .returned v' ∧ OwnN w' B 125 3 v' (n + 1) (xs.take (i * 3) ++ news ++ xs.drop (i * 3)) ∧ w.grownBy w' (some g) ∧ Soft w w' ∧ Near w (.slice (some ⟨g, 0, none⟩) n cap) v' := by
  obtain ⟨cur, hg, hnc, hcs, htake⟩ : ∃ cur : Array Value, w.heap[g]? = some (.cells cur 125 (0, 0)) ∧ n ≤ cap ∧ cur.size = cap * 3 ∧ cur.toList.take (n * 3) = xs := by
    rcases hown.1.2 with ⟨e, _⟩ | ⟨g', cap', cur', e, hB, hg', hnc, hcm, hcs, htake⟩
    · cases e
    · simp only [Value.slice.injEq, Option.some.injEq, Addr.mk.injEq, and_true, true_and] at e
      obtain ⟨rfl, rfl⟩ := e
      exact ⟨cur', hg', hnc, hcs, htake⟩
  have hxl : xs.length = n * 3 := hown.1.1
  have hxc : ∀ (W : World), W.heap[g]? = w.heap[g]? → ∀ j v, xs[j]? = some v → W.cell? ⟨g, j, none⟩ = some v := fun W hW j v hj => by
    rw [cell_of_row W g j cur 125 (0, 0) (by rw [hW]; exact hg), ← Array.getElem?_toList]
    rw [← htake, List.getElem?_take] at hj
    split at hj
    · exact hj
    · cases hj
  have hgl : g < w.heap.size := (Array.getElem?_eq_some_iff.1 hg).1
  have hvl : vb < w.heap.size := hvb.lt
  have hdl : (xs.drop (i * 3)).length = (n - i) * 3 := by rw [List.length_drop, hxl]; omega
  have hil : (xs.take (i * 3)).length = i * 3 := by rw [List.length_take, hxl]; omega
  obtain ⟨i0, hi0, hz0, hz1, hz2⟩ := info_parts infoLed
  have hs0 : (Tryz.prog.info? 125).map (·.size) = some 3 := by rw [hi0]; simp [hz1]
  have hzu : ∀ k : Nat, ∀ u ∈ (Builtin.zeroCells (.agg #[.slice none 0 0, .slice none 0 0, .int .i64 0] : Value).cells k).toList, ∀ x : Nat, u ≠ U8 x := fun k u hu x => by
    have := zeroCells_mem hu
    simp [Value.cells] at this
    first
      | (subst this; exact slice_ne _ _ _ x)
      | (rcases this with rfl | rfl <;> first | exact slice_ne _ _ _ x | (intro e; cases e))
  have hxu : ∀ u ∈ xs, ∀ k : Nat, u ≠ U8 k := fun u hu k => by
    rw [← htake] at hu
    exact row_of_loose hg (hown.2 g rfl) u (List.mem_of_mem_take hu) k
  obtain ⟨G, hG⟩ : ∃ G, G = grownCap w (n + 1) cap 125 := ⟨_, rfl⟩
  have hGn : n + 1 ≤ G := by rw [hG]; exact grownCap_ge w _ _ _
  have hGm : G ≤ maxLen := by rw [hG]; exact grownCap_le_maxLen w _ _ _ (by unfold maxLen; omega)
  have hG63 : G ≤ 9223372036854775807 := by simpa [maxLen] using hGm
  obtain ⟨row, hrow⟩ : ∃ row : Array Value, row = (xs.take (i * 3)).toArray ++ Builtin.zeroCells (.agg #[.slice none 0 0, .slice none 0 0, .int .i64 0] : Value).cells (n + 1 - i) ++ Builtin.zeroCells (.agg #[.slice none 0 0, .slice none 0 0, .int .i64 0] : Value).cells (G - (n + 1)) := ⟨_, rfl⟩
  have hrl : row.size = G * 3 := by
    rw [hrow]
    simp only [Array.size_append, List.size_toArray, hil, Builtin.zeroCells, Array.size_map, Array.size_range]
    simp [Value.cells]
    omega
  have hrl' : row.toList.length = G * 3 := by rw [Array.length_toList]; exact hrl
  have hrt : row.toList.take (i * 3) = xs.take (i * 3) := by
    rw [hrow]
    simp only [Array.toList_append, List.append_assoc]
    rw [List.take_append_of_le_length (by simpa using (Nat.le_of_eq hil.symm)), List.take_of_length_le (by simpa using (Nat.le_of_eq hil))]
  have hru : ∀ u ∈ row.toList, ∀ k : Nat, u ≠ U8 k := fun u hu k => by
    rw [hrow] at hu
    simp only [Array.toList_append, List.mem_append] at hu
    rcases hu with (hu | hu) | hu
    · exact hxu u (List.mem_of_mem_take hu) k
    · exact hzu _ u hu k
    · exact hzu _ u hu k
  obtain ⟨W1, hW1⟩ : ∃ W1, W1 = w.drew.alloc (.cells row 125) := ⟨_, rfl⟩
  have hkk : (n : Int) + 1 - (i : Int) = ((n + 1 - i : Nat) : Int) := by omega
  have hik : i + (n + 1 - i) = n + 1 := by omega
  have hrz : ∀ ty, (Builtin.append_ #[108, 3] ty #[.slice (some ⟨g, 0, none⟩) i cap, .int .i64 ((n : Int) + 1 - (i : Int))]).run Tryz.prog w = .ok (.slice (some ⟨w.heap.size, 0, none⟩) (n + 1) G) W1 := fun ty => by
    have h := Lib.run_append_grow_zeros w 108 3 ty 125 i0 _ .i64 .i64 Tryz.underlying108 Tryz.underlying3 hi0 hz0 (some ⟨g, 0, none⟩) i cap (xs.take (i * 3)) (by rw [hz1]; exact firstCells_take w.drew 3 i _ cap xs n hxl (by omega) (fun j v hj => by rw [row_add, Nat.zero_add]; exact hxc w.drew rfl j v hj))
      (n + 1 - i) (by omega) (by omega) (by omega) (by omega) (by rw [hz2]; omega) (by rw [hz2, hik]; exact growslice_fits (by omega) (by omega))
    rw [hik, ← hG] at h
    rw [hkk, hW1, hrow]
    exact h
  have hW1r : W1.heap[w.heap.size]? = some (.cells row 125 (0, 0)) := by rw [hW1]; exact heap_alloc_new w.drew _
  have hW1o : ∀ k, k < w.heap.size → W1.heap[k]? = w.heap[k]? := fun k hk => by rw [hW1]; exact Below.heap_alloc w.drew _ _ hk
  have hcpA : ∀ ty dc, (Builtin.copy_ #[108, 108] ty #[.slice (some ⟨w.heap.size, i * 3, none⟩) (n + 1 - i) dc, .slice (some ⟨vb, 0, none⟩) 1 1]).run Tryz.prog W1 = .ok (goInt (1 : Nat)) (W1.setRow w.heap.size (wr row.toList (i * 3) news).toArray) := fun ty dc => by
    refine run_copy_rowN W1 108 108 ty 125 w.heap.size (i * 3) _ dc ⟨vb, 0, none⟩ _ 1 row 125 news 3 1 Tryz.underlying108 hs0 hW1r (by simp only [Nat.min_def]; split <;> omega) (by rw [hl]) (fun j v hj => ?_) (by rw [hl, hrl]; omega) h1
    rw [row_add, Nat.zero_add, cell_of_row W1 vb _ news.toArray 125 (0, 0) (by rw [hW1o vb hvl]; exact hvb)]
    simpa using hj
  have hwl : (wr row.toList (i * 3) news).length = row.toList.length := wr_length (by rw [hl, hrl']; omega)
  obtain ⟨W2, hW2⟩ : ∃ W2, W2 = W1.setRow w.heap.size (wr row.toList (i * 3) news).toArray := ⟨_, rfl⟩
  have hW2r : W2.heap[w.heap.size]? = some (.cells (wr row.toList (i * 3) news).toArray 125 (0, 0)) := by rw [hW2]; exact setRow_heap W1 _ row _ 125 _ hW1r
  have hW2o : ∀ k, k < w.heap.size → W2.heap[k]? = w.heap[k]? := fun k hk => by rw [hW2, setRow_other W1 _ k _ (by omega)]; exact hW1o k hk
  rw [← hW2] at hcpA
  have hcpB : ∀ ty dc sc, (Builtin.copy_ #[108, 108] ty #[.slice (some ⟨w.heap.size, (i + 1) * 3, none⟩) (n - i) dc, .slice (some ⟨g, i * 3, none⟩) (n - i) sc]).run Tryz.prog W2.drew = .ok (goInt (n - i : Nat)) (W2.drew.setRow w.heap.size (wr (wr row.toList (i * 3) news) (i * 3 + 3) (xs.drop (i * 3))).toArray) := fun ty dc sc => by
    rw [show (i + 1) * 3 = i * 3 + 3 by omega]
    refine run_copy_rowN W2.drew 108 108 ty 125 w.heap.size (i * 3 + 3) _ dc ⟨g, i * 3, none⟩ _ sc (wr row.toList (i * 3) news).toArray 125 (xs.drop (i * 3)) 3 (n - i) Tryz.underlying108 hs0 hW2r (by simp only [Nat.min_def]; split <;> omega) hdl (fun j v hj => ?_) (by simp only [List.size_toArray]; rw [hwl, hdl, hrl']; omega) (fun v hv => h1x v (List.mem_of_mem_drop hv))
    rw [row_add]
    rw [List.getElem?_drop] at hj
    exact hxc W2.drew (hW2o g hgl) _ v hj
  have hend : wr (wr row.toList (i * 3) news) (i * 3 + 3) (xs.drop (i * 3)) = insd row.toList (i * 3) news (xs.drop (i * 3)) := by
    have := wr_fwd (cur := row.toList) (N := news) (D := xs.drop (i * 3)) (o := i * 3) (by rw [hl, hdl, hrl']; omega)
    rw [hl] at this; exact this
  have hfin : Below w.heap.size w (W2.drew.setRow w.heap.size (wr (wr row.toList (i * 3) news) (i * 3 + 3) (xs.drop (i * 3))).toArray) ∧
      (W2.drew.setRow w.heap.size (wr (wr row.toList (i * 3) news) (i * 3 + 3) (xs.drop (i * 3))).toArray).heap[w.heap.size]? = some (.cells (insd row.toList (i * 3) news (xs.drop (i * 3))).toArray 125 (0, 0)) := by
    refine ⟨below_setRow ?_ (Nat.le_refl _) _, by rw [hend]; exact setRow_heap W2.drew _ _ _ 125 _ hW2r⟩
    have b1 : Below w.heap.size w W1 := by rw [hW1]; exact ((Below.refl _ w).drew).alloc (Nat.le_refl _) _
    have b2 : Below w.heap.size w W2 := by rw [hW2]; exact below_setRow b1 (Nat.le_refl _) _
    exact b2.drew
  have HF := Lib.hid hfin
  have HO := Lib.hid hown
  have HL := Lib.hid hl
  have HN := Lib.hid hnn
  have HRU := Lib.hid hru
  have HRL := Lib.hid hrl
  have HRT := Lib.hid hrt
  have HW := Lib.hid hW2
  have mixed : Tryz.prog.follows Departure.mixedOrders = true := by kernel_rfl
  have hz1 : ¬ ((1 : Int) = 0) := by omega
  have hz2' : ¬ ((i : Int) = (n : Int)) := by omega
  have hz3 : (cap : Int) < (n : Int) + 1 := by omega
  have hw1 : IntKind.i64.wrap ((i : Int) + 1) = (i : Int) + 1 := by rw [IntKind.wrap_i64]; omega
  have hb1 : (0 : Int) ≤ (i : Int) + 1 := by omega
  have hin : i ≤ n := by omega
  have htn : ((i : Int) + 1).toNat = i + 1 := by omega
  have hb2 : ¬ (G = i + 1) := by omega
  have hb3 : (i : Int) ≤ (n : Int) := by omega
  have hb4 : ¬ (G = i) := by omega
  have hb5 : ¬ (cap = i) := by omega
  clear hown hg hcs htake hxl hdl hs0 hend hz0 hi0 hvb hl h1 hnn h1x hW1 hW2 hrl' hrl hrt hru hrow hxc hil hzu hxu hG hkk hik hW1r hW1o hwl hW2r hW2o hfin
  go_enter Tryz.func85, Tryz.ntmps85
  go_wp2_with (first | (at_builtin; refine Lib.wpList_append_run _ rfl _ _ _ _ rfl _ _ rfl rfl _ _ (hrz _) ?_) | simp only [hcpA])
  go_region_law_o (refine step_copy_runI rfl _ _ 108 108 rfl _ _ (by simp [Act.eval, Act.put]) (by simp [Act.eval, Act.put]) (hcpB _ _ _) ?_)
  go_wp2_with fail
  go_ret
  obtain ⟨r1, r2, r3⟩ := own_insnew HO.out hin hB hGn hGm HL.out HN.out HRU.out HRL.out HRT.out HF.out.2 HF.out.1
  exact ⟨_, rfl, by simpa using r1, r2, r3, Near.new _ _ _ _⟩

set_option maxHeartbeats 2000000 in
/-- It comes last. -/
theorem insLed_end (a : Option Addr) (n cap vb : Nat) (B : Nat) (xs news : List Value) (w : World) (hown : OwnN w B 125 3 (.slice a n cap) n xs) (hvb : Blk w vb news.toArray 125) (hl : news.length = 3) (hB : B ≤ w.heap.size) (hn : n ≤ 1000000000000)
    (h1 : ∀ u ∈ news, u.oneCell' = true) (hnn : ∀ u ∈ news, ∀ k : Nat, u ≠ U8 k) :
    Calls Tryz.prog 85 #[.slice a n cap, .int .i64 (n : Int), .slice (some ⟨vb, 0, none⟩) 1 1] w fun e w' =>
      ∃ v', e = .returned v' ∧ OwnN w' B 125 3 v' (n + 1) (xs ++ news) ∧ w.grownBy w' (Value.slice a n cap).ownBlock ∧ Soft w w' ∧ Near w (.slice a n cap) v' := by
  obtain ⟨i0, hi0, hz0, hz1, hz2⟩ := info_parts infoLed
  have hzu : ∀ u ∈ (.agg #[.slice none 0 0, .slice none 0 0, .int .i64 0] : Value).cells.toList, ∀ x : Nat, u ≠ U8 x := fun u this x => by
    simp [Value.cells] at this
    first
      | (subst this; exact slice_ne _ _ _ x)
      | (rcases this with rfl | rfl <;> first | exact slice_ne _ _ _ x | (intro e; cases e))
  have hnews : ∀ j u, news[j]? = some u → w.cell? ((⟨vb, 0, none⟩ : Addr).add j) = some u := fun j v hj => by
    rw [row_add, Nat.zero_add, cell_of_row w vb _ news.toArray 125 (0, 0) hvb]
    simpa using hj
  have hl' : news.length = 1 * 3 := by rw [hl]
  have hcap : n ≤ cap ∧ cap ≤ 9223372036854775807 := by
    rcases hown.1.2 with ⟨e, h0⟩ | ⟨g', cap', cur', e, hB, hg', hnc, hcm, hcs, htake⟩
    · simp only [Value.slice.injEq] at e
      omega
    · simp only [Value.slice.injEq] at e
      obtain ⟨_, _, rfl⟩ := e
      exact ⟨hnc, by simpa [maxLen] using hcm⟩
  obtain ⟨hnc, hcm⟩ := hcap
  have hmx : n + 1 ≤ maxLen := by unfold maxLen; omega
  have hby : (n + 1) * 56 ≤ 140737488355328 := by omega
  have HO := Lib.hid hown
  have HM := Lib.hid hmx
  have HBY := Lib.hid hby
  have HNW := Lib.hid hnews
  have HL := Lib.hid hl'
  have H1 := Lib.hid h1
  have HN := Lib.hid hnn
  have HZ := Lib.hid hzu
  have hq1 : ¬ ((1 : Int) = 0) := by omega
  have hn0 : (0 : Int) ≤ (n : Int) := Int.natCast_nonneg _
  clear hown hmx hby hnews hl' hl h1 hnn hzu hvb
  rcases hsh : a with _ | ⟨g, off, fr⟩
  · have h0 : n = 0 := by
      rcases HO.out.1.2 with ⟨_, h0⟩ | ⟨g', cap', cur', e, _⟩
      · exact h0
      · rw [hsh] at e; cases e
    subst hsh
    subst h0
    go_enter Tryz.func85, Tryz.ntmps85
    go_wp2_with (at_builtin; refine wpList_append_near rfl _ _ 108 rfl B 125 i0 (.agg #[.slice none 0 0, .slice none 0 0, .int .i64 0]) 3 56 Tryz.underlying108 hi0 hz0 hz1 hz2 rfl (by decide) _ 0 xs rfl HO.out ⟨vb, 0, none⟩ 1 1 news rfl HL.out HNW.out H1.out HZ.out HN.out HM.out HBY.out hB (fun v' w' k1 k2 k3 k4 => ?_))
    go_ret
    exact ⟨_, rfl, k1, k2, k3, k4⟩
  · obtain ⟨rfl, rfl⟩ : off = 0 ∧ fr = none := by
      rcases HO.out.1.2 with ⟨e, _⟩ | ⟨g', cap', cur', e, _⟩
      · rw [hsh] at e; cases e
      · rw [hsh] at e
        simp only [Value.slice.injEq, Option.some.injEq, Addr.mk.injEq] at e
        exact ⟨e.1.2.1, e.1.2.2⟩
    subst hsh
    by_cases hcn : cap = n
    · go_enter Tryz.func85, Tryz.ntmps85
      go_wp2_with (at_builtin; refine wpList_append_near rfl _ _ 108 rfl B 125 i0 (.agg #[.slice none 0 0, .slice none 0 0, .int .i64 0]) 3 56 Tryz.underlying108 hi0 hz0 hz1 hz2 rfl (by decide) _ n xs rfl HO.out ⟨vb, 0, none⟩ 1 1 news rfl HL.out HNW.out H1.out HZ.out HN.out HM.out HBY.out hB (fun v' w' k1 k2 k3 k4 => ?_))
      go_ret
      exact ⟨_, rfl, k1, k2, k3, k4⟩
    · go_enter Tryz.func85, Tryz.ntmps85
      go_wp2_with (at_builtin; refine wpList_append_near rfl _ _ 108 rfl B 125 i0 (.agg #[.slice none 0 0, .slice none 0 0, .int .i64 0]) 3 56 Tryz.underlying108 hi0 hz0 hz1 hz2 rfl (by decide) _ n xs rfl HO.out ⟨vb, 0, none⟩ 1 1 news rfl HL.out HNW.out H1.out HZ.out HN.out HM.out HBY.out hB (fun v' w' k1 k2 k3 k4 => ?_))
      go_ret
      exact ⟨_, rfl, k1, k2, k3, k4⟩

/-- One element put in at a place. -/
theorem insLed_any (v : Value) (n i vb : Nat) (B : Nat) (xs news : List Value) (w : World) (hown : OwnN w B 125 3 v n xs) (hi : i ≤ n) (hvb : Blk w vb news.toArray 125) (hne : v.ownBlock ≠ some vb) (hl : news.length = 3) (hB : B ≤ w.heap.size) (hn : n ≤ 1000000000000)
    (h1 : ∀ u ∈ news, u.oneCell' = true) (hnn : ∀ u ∈ news, ∀ k : Nat, u ≠ U8 k) (h1x : ∀ u ∈ xs, u.oneCell' = true) :
    Calls Tryz.prog 85 #[v, .int .i64 (i : Int), .slice (some ⟨vb, 0, none⟩) 1 1] w fun e w' =>
      ∃ v', e = .returned v' ∧ OwnN w' B 125 3 v' (n + 1) (xs.take (i * 3) ++ news ++ xs.drop (i * 3)) ∧ w.grownBy w' v.ownBlock ∧ Soft w w' ∧ Near w v v' := by
  have hsh : ∃ a c, v = .slice a n c := by
    rcases hown.1.2 with ⟨rfl, h0⟩ | ⟨g, cap, cur, rfl, _⟩
    · rw [h0]; exact ⟨_, _, rfl⟩
    · exact ⟨_, _, rfl⟩
  by_cases he : i = n
  · obtain ⟨a, c, rfl⟩ := hsh
    subst he
    have e1 : xs.take (i * 3) = xs := List.take_of_length_le (by rw [hown.1.1]; exact Nat.le_refl _)
    have e2 : xs.drop (i * 3) = [] := List.drop_of_length_le (by rw [hown.1.1]; exact Nat.le_refl _)
    rw [e1, e2, List.append_nil]
    exact insLed_end a i c vb B xs news w hown hvb hl hB hn h1 hnn
  · have hlt : i < n := by omega
    have hown' := hown
    rcases hown.1.2 with ⟨_, h0⟩ | ⟨g, cap, cur, rfl, _⟩
    · omega
    · by_cases hr : n + 1 ≤ cap
      · exact insLed_room g n cap i vb B xs news w hown' hlt hr hvb (fun e => hne (by rw [e]; rfl)) hl h1 hnn h1x
      · exact insLed_grow g n cap i vb B xs news w hown' hlt (by omega) hvb hl hB hn h1 hnn h1x

end Go.Proofs.YtphdadibfeencaaGreat

/-
  Grids in the program (layer 7): 'without', and the predicate by which a row's place is searched.
-/
set_option maxRecDepth 100000
namespace Go.Proofs.YtphdadibfeencaaGreat
open Go.RowKit
open La

/-- Nothing is taken away where nothing stands. -/
theorem step_same {k t : Nat} {x r : Rw} (hx : Ro.Dim k t x) (hr : Ro.Dim k t r) (h : nth x.1 (lead r.1) = 0) : Ro.step x r = x := by
  refine fj_inj (Ro.step_dim hx hr) hx ?_
  unfold Ro.step
  rw [h, fj_less (by decide) hx hr]
  have : bt 0 = 0 := rfl
  rw [this, zero_vs, v0_va]
theorem step_pair {k t : Nat} {x r : Rw} (hx : Ro.Dim k t x) (hr : Ro.Dim k t r) : Ro.step x r = (Gf.add (Gf.scale (nth x.1 (lead r.1)) r.1) x.1, Gf.add (Gf.scale (nth x.1 (lead r.1)) r.2) x.2) := (Ro.less_dim (nth_lt hx.2.2.1 _) hx hr).2

set_option maxHeartbeats 1000000 in
theorem gwithout_any (u v : Value) (x r : Rw) (k t : Nat) (w : World) (hu : IsRow w u x.1 x.2) (hv : IsRow w v r.1 r.2) (hx : Ro.Dim k t x) (hr : Ro.Dim k t r) (hk : k ≤ 10000000) (ht : t ≤ 10000000) (hl : lead r.1 < r.1.length) :
    Calls Tryz.prog 62 #[u, v] w (RowsV w (Ro.step x r).1 (Ro.step x r).2) := by
  obtain ⟨v0, d0, rfl, hp, hq⟩ := hu
  obtain ⟨v1, d1, rfl, hp', hq'⟩ := hv
  have HP := Lib.hid hp
  have HQ := Lib.hid hq
  have HP' := Lib.hid hp'
  have HQ' := Lib.hid hq'
  obtain ⟨a0, c0, rfl, _⟩ := hp
  obtain ⟨a1, c1, rfl, _⟩ := hq
  obtain ⟨a2, c2, rfl, _⟩ := hp'
  obtain ⟨a3, c3, rfl, _⟩ := hq'
  have HLI := Lib.hid (show leadI r.1 = (lead r.1 : Int) from if_pos hl)
  have HAT := Lib.hid (show atI x.1 (lead r.1 : Int) = nth x.1 (lead r.1) by unfold atI; rw [if_pos ⟨by omega, by have := hx.1; have := hr.1; omega⟩]; rfl)
  have HC := nth_lt hx.2.2.1 (lead r.1)
  have HX := Lib.hid hx
  have HR := Lib.hid hr
  have hl1 := hx.1
  have hl2 := hx.2.1
  have hl3 := hr.1
  have hl4 := hr.2.1
  have L1 : r.1.length ≤ 10000000 := by omega
  have L2 : r.2.length ≤ 10000000 := by omega
  have E1 := Lib.hid (show r.1.length = x.1.length by omega)
  have E2 := Lib.hid (show r.2.length = x.2.length by omega)
  clear hx hr hl hl1 hl2 hl3 hl4
  by_cases h0 : nth x.1 (lead r.1) = 0
  · have hb : ((nth x.1 (lead r.1) : Int) == 0) = true := by rw [h0]; rfl
    have HST := Lib.hid (step_same HX.out HR.out h0)
    clear h0
    go_enter Tryz.func62, Tryz.ntmps62
    go_wp2_with fail
    obtain ⟨B, hk1, hk2, hk3, hs⟩ := blocks3 w #[.slice a0 x.1.length c0, .slice a1 x.2.length c1] 46 #[.slice a2 r.1.length c2, .slice a3 r.2.length c3] 46 #[.slice none 0 0, .slice none 0 0] 46
    generalize (((w.alloc (.cells #[.slice a0 x.1.length c0, .slice a1 x.2.length c1] 46)).alloc (.cells #[.slice a2 r.1.length c2, .slice a3 r.2.length c3] 46)).alloc (.cells #[.slice none 0 0, .slice none 0 0] 46)) = W at *
    have K1 := Lib.hid hk1
    have K2 := Lib.hid hk2
    have K3 := Lib.hid hk3
    have HS := Lib.hid hs
    clear hs hk1 hk2 hk3
    replace HP := Lib.hid (HP.out.go B)
    replace HQ := Lib.hid (HQ.out.go B)
    replace HP' := Lib.hid (HP'.out.go B)
    replace HQ' := Lib.hid (HQ'.out.go B)
    have hzW := B.size
    obtain ⟨k10, k11⟩ := K1.out.two
    have k1l := K1.out.lt
    obtain ⟨k20, k21⟩ := K2.out.two
    have k2l := K2.out.lt
    go_quiet ((first | (go_at_call 64; exact quiet_eq (lead_any _ r.1 _ (HP'.out.drewN _))) | (go_at_call 76; rw [HLI.out]; exact quiet_eq (at_any _ x.1 _ _ (HP.out.drewN _)))))
    rw [HAT.out]
    have hdn := below_drews W nq
    replace HP := Lib.hid (HP.out.go hdn)
    replace HQ := Lib.hid (HQ.out.go hdn)
    replace K1 := Lib.hid (K1.out.go hdn)
    replace K3 := Lib.hid (K3.out.go hdn)
    replace B := B.trans (hdn.mono B.size)
    clear hdn k10 k11 k20 k21
    generalize W.drewN nq = W3 at *
    obtain ⟨k10, k11⟩ := K1.out.two
    have k1l := K1.out.lt
    obtain ⟨k30, k31⟩ := K3.out.two
    have k3l := K3.out.lt
    obtain ⟨k3f0, k3f1⟩ := K3.out.fre2
    go_wp2_with fail
    obtain ⟨e0, e1, hB, hS⟩ := store2 K3.out (by omega) B (slice_ne _ _ _) (slice_ne _ _ _) (.slice a0 x.1.length c0) (.slice a1 x.2.length c1)
    exact bodyPost_ret (v := .agg #[.slice a0 x.1.length c0, .slice a1 x.2.length c1]) (by simp [results, Tryz.results62, go_sem, e0, e1]) rfl
      ⟨_, rfl, ⟨_, _, rfl, by rw [HST.out]; exact hS _ _ HP.out, by rw [HST.out]; exact hS _ _ HQ.out⟩, hB⟩
  · have hb : ((nth x.1 (lead r.1) : Int) == 0) = false := beq_eq_false_iff_ne.2 (by omega)
    have HST := Lib.hid (step_pair HX.out HR.out)
    clear h0
    go_enter Tryz.func62, Tryz.ntmps62
    go_wp2_with fail
    obtain ⟨B, hk1, hk2, hk3, hs⟩ := blocks3 w #[.slice a0 x.1.length c0, .slice a1 x.2.length c1] 46 #[.slice a2 r.1.length c2, .slice a3 r.2.length c3] 46 #[.slice none 0 0, .slice none 0 0] 46
    generalize (((w.alloc (.cells #[.slice a0 x.1.length c0, .slice a1 x.2.length c1] 46)).alloc (.cells #[.slice a2 r.1.length c2, .slice a3 r.2.length c3] 46)).alloc (.cells #[.slice none 0 0, .slice none 0 0] 46)) = W at *
    have K1 := Lib.hid hk1
    have K2 := Lib.hid hk2
    have K3 := Lib.hid hk3
    have HS := Lib.hid hs
    clear hs hk1 hk2 hk3
    replace HP := Lib.hid (HP.out.go B)
    replace HQ := Lib.hid (HQ.out.go B)
    replace HP' := Lib.hid (HP'.out.go B)
    replace HQ' := Lib.hid (HQ'.out.go B)
    have hzW := B.size
    obtain ⟨k10, k11⟩ := K1.out.two
    have k1l := K1.out.lt
    obtain ⟨k20, k21⟩ := K2.out.two
    have k2l := K2.out.lt
    go_quiet ((first | (go_at_call 64; exact quiet_eq (lead_any _ r.1 _ (HP'.out.drewN _))) | (go_at_call 76; rw [HLI.out]; exact quiet_eq (at_any _ x.1 _ _ (HP.out.drewN _)))))
    rw [HAT.out]
    have hdn := below_drews W nq
    replace HP := Lib.hid (HP.out.go hdn)
    replace HQ := Lib.hid (HQ.out.go hdn)
    replace HP' := Lib.hid (HP'.out.go hdn)
    replace HQ' := Lib.hid (HQ'.out.go hdn)
    replace K1 := Lib.hid (K1.out.go hdn)
    replace K2 := Lib.hid (K2.out.go hdn)
    replace K3 := Lib.hid (K3.out.go hdn)
    replace B := B.trans (hdn.mono B.size)
    clear hdn k10 k11 k20 k21
    generalize W.drewN nq = W3 at *
    obtain ⟨k10, k11⟩ := K1.out.two
    have k1l := K1.out.lt
    obtain ⟨k20, k21⟩ := K2.out.two
    have k2l := K2.out.lt
    go_wp2_with fail
    refine (vecless_yes _ _ _ _ _ _ _ _ (nth x.1 (lead r.1)) x.1 x.2 r.1 r.2 _ HC HP.out HQ.out HP'.out HQ'.out L1 L2 E1.out E2.out).mono ?_
    rintro e w4 ⟨u4, rfl, hu4, hb⟩
    replace K3 := Lib.hid (K3.out.go hb)
    replace B := B.trans (hb.mono B.size)
    have hzw4 := B.size
    clear hb
    obtain ⟨y0, y1, rfl, V1, V2⟩ := hu4
    have H1 := Lib.hid V1
    have H2 := Lib.hid V2
    obtain ⟨a4, c4, rfl, _⟩ := V1
    obtain ⟨a5, c5, rfl, _⟩ := V2
    obtain ⟨k30, k31⟩ := K3.out.two
    have k3l := K3.out.lt
    obtain ⟨k3f0, k3f1⟩ := K3.out.fre2
    go_wp2_with fail
    obtain ⟨e0, e1, hB, hS⟩ := store2 K3.out (by omega) B (slice_ne _ _ _) (slice_ne _ _ _) (.slice a4 (Gf.add (Gf.scale (nth x.1 (lead r.1)) r.1) x.1).length c4) (.slice a5 (Gf.add (Gf.scale (nth x.1 (lead r.1)) r.2) x.2).length c5)
    have H3 := Lib.hid (hS _ _ H1.out)
    have H4 := Lib.hid (hS _ _ H2.out)
    clear hS k30 k31 k3l k3f0 k3f1
    generalize (w4.setCell ⟨w.heap.size + 1 + 1, 0, none⟩ (.slice a4 (Gf.add (Gf.scale (nth x.1 (lead r.1)) r.1) x.1).length c4)).setCell ⟨w.heap.size + 1 + 1, 1, none⟩ (.slice a5 (Gf.add (Gf.scale (nth x.1 (lead r.1)) r.2) x.2).length c5) = W5 at *
    obtain ⟨hb, hk, hs⟩ := blocks1 W5 #[.slice a4 (Gf.add (Gf.scale (nth x.1 (lead r.1)) r.1) x.1).length c4, .slice a5 (Gf.add (Gf.scale (nth x.1 (lead r.1)) r.2) x.2).length c5] 46
    replace e0 := cell_keep e0 hb
    replace e1 := cell_keep e1 hb
    have hB2 := hB.trans (hb.mono hB.size)
    have G3 := H3.out.go hb
    have G4 := H4.out.go hb
    clear hk hs hb
    generalize W5.alloc (.cells #[.slice a4 (Gf.add (Gf.scale (nth x.1 (lead r.1)) r.1) x.1).length c4, .slice a5 (Gf.add (Gf.scale (nth x.1 (lead r.1)) r.2) x.2).length c5] 46) = W6 at *
    exact bodyPost_ret (v := .agg #[.slice a4 (Gf.add (Gf.scale (nth x.1 (lead r.1)) r.1) x.1).length c4, .slice a5 (Gf.add (Gf.scale (nth x.1 (lead r.1)) r.2) x.2).length c5]) (by simp [results, Tryz.results62, go_sem, e0, e1]) rfl
      ⟨_, rfl, ⟨_, _, rfl, by rw [HST.out]; exact G3, by rw [HST.out]; exact G4⟩, hB2⟩

end Go.Proofs.YtphdadibfeencaaGreat

/-
  sort.Search over a closure of the program (Red), which captures two boxes and turns nothing.
-/
set_option maxRecDepth 100000
namespace Go.Proofs.YtphdadibfeencaaGreat
open Go.RowKit

/-- What Search answers: a place behind which the predicate holds, and ahead of which it doesn't. -/
def SrchRed (n : Nat) (p : Nat → Bool) (w : World) (e : Ending) (w' : World) : Prop := ∃ r : Nat, e = .returned (.int .i64 (r : Int)) ∧ r ≤ n ∧ (0 < r → p (r - 1) = false) ∧ (r < n → p r = true) ∧ Below w.heap.size w w'

set_option maxHeartbeats 1000000 in
theorem searchRed_any (c0 c1 : Value) (n : Nat) (p : Nat → Bool) (w : World) (hn : n ≤ 1000000000000) (hF : ∀ wr, Below w.heap.size w wr → ∀ k : Nat, k < n → Calls Tryz.prog 66 #[.int .i64 (k : Int), c0, c1] wr fun e w' => e = .returned (.bool (p k)) ∧ Below wr.heap.size wr w') :
    Calls Tryz.prog 65 #[.int .i64 (n : Int), .func (Fn.func 66) #[] #[c0, c1]] w (SrchRed n p w) := by
  have HF := Lib.hid hF
  clear hF
  go_enter Tryz.func65, Tryz.ntmps65
  go_wp2_with fail
  go_loopw [5, 6] (fun a b wr => ∃ i j : Nat, a = .int .i64 i ∧ b = .int .i64 j ∧ i ≤ j ∧ j ≤ n ∧ (0 < i → p (i - 1) = false) ∧ (j < n → p j = true) ∧ Below w.heap.size w wr) (fun a b _ => (intOf b).toNat - (intOf a).toNat)
  case atStart => exact ⟨0, n, rfl, rfl, by omega, by omega, fun h => absurd h (by omega), fun h => absurd h (by omega), Below.refl _ _⟩
  case round =>
    obtain ⟨i, j, rfl, rfl, hij, hjn, h0, h1, B⟩ := hrel
    have H0 := Lib.hid h0
    have H1 := Lib.hid h1
    clear h0 h1
    by_cases hlt : i < j
    · obtain ⟨m, hm⟩ : ∃ m, m = (i + j) / 2 := ⟨_, rfl⟩
      have hmn : m < n := by omega
      have hw0 : IntKind.i64.wrap ((i : Int) + (j : Int)) = (i : Int) + (j : Int) := by rw [IntKind.wrap_i64]; omega
      have hw1 : IntKind.u64.wrap ((i : Int) + (j : Int)) = ((i + j : Nat) : Int) := by rw [IntKind.wrap_u64]; omega
      have hw2 : IntKind.i64.wrap (((i : Int) + (j : Int)) / 2) = (m : Int) := by rw [IntKind.wrap_i64]; omega
      have hw3 : IntKind.u64.wrap (((i : Int) + (j : Int)) / 2) = (m : Int) := by rw [IntKind.wrap_u64]; omega
      go_wp2_with fail
      have hhf : ((i : Int) + (j : Int)) / 2 = (m : Int) := by omega
      simp only [hhf]
      refine (HF.out wr B m hmn).mono ?_
      rintro e w2 ⟨rfl, hb⟩
      have B2 : Below w.heap.size w w2 := B.trans (hb.mono B.size)
      clear hhf hw0 hw1 hw2 hw3
      cases hp : p m with
      | false =>
        go_wp2_with fail
        go_roundw
        case rel => exact ⟨m + 1, j, by go_num, rfl, by omega, hjn, fun _ => by rw [Nat.add_sub_cancel]; exact hp, H1.out, B2⟩
        case measure => simp [intOf]; omega
      | true =>
        go_wp2_with fail
        go_roundw
        case rel => exact ⟨i, m, by first | rfl | go_num, by first | rfl | go_num, by omega, by omega, H0.out, fun _ => hp, B2⟩
        case measure => simp [intOf]; omega
    · obtain rfl : i = j := by omega
      go_wp2_with fail
      go_ret
      exact ⟨i, rfl, hjn, H0.out, H1.out, B⟩

end Go.Proofs.YtphdadibfeencaaGreat
