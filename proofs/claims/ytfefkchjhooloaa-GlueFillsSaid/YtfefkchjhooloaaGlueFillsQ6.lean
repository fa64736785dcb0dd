/- Texts of one seat, laid together: Shelf, KeysA, Ints, FillA, FillB. -/
import Derived.Shelf.SlIterI.Nil
import Derived.Shelf.SortM.Plain
import Derived.Shelf.SortM.SortNone
import Derived.Test.YtfefkchjhooloaaProg
import Derived.Test.YtfefkchjhooloaaGlueFillsQ5
import Derived.Test.YtfefkchjhooloaaGlueFillsQ2
import Derived.Test.YtfefkchjhooloaaGlueFillsQ1
import Derived.Test.YtfefkchjhooloaaGlueFillsQ4

/-
  DERIVED: THE SHELF's CONTRACTS AT THIS DUMP, IN PLAIN WORDS (tools/lay-plain.mjs out of 'TryKeys.lean', which tools/lay-shelf.mjs wrote): THE SAME DECLARATIONS UNDER THE SAME NAMES: 'import', 'namespace', 'open', 'def', 'theorem' AND NOTHING ELSE: no command of the shelf's: FOR A HAND-IN. Each laying: the table of numbers ('.._ren') and one theorem, a field a fact of the dump's own or the kernel's comparison; each contract: ONE APPLICATION.
-/
namespace Go.Proofs
open Go.Shelf
def Try.keysA_ren : Go.Shelf.Ren := ⟨fun | 7 => 37 | 10 => 43 | n => n, fun | 23 => 52 | 26 => 3 | 3 => 25 | 28 => 73 | 0 => 0 | 27 => 72 | 33 => 77 | 4 => 4 | n => n, fun | n => n⟩
theorem Try.keysA : Go.Proofs.SlLaysZI.n7 Try.prog Try.keysA_ren := {
  mixed := by kernel_rfl
  f7 := ⟨Try.f37.name, by decide, Try.func37.trans (congrArg some (by kernel_rfl))⟩
  f10 := ⟨Try.f43.name, by decide, Try.func43.trans (congrArg some (by kernel_rfl))⟩
  t0 := Try.underlying0
  a0 := Try.isAgg0
  z0 := Try.sizeOf0
  v0 := Try.zeroValue0
  t4 := Try.underlying4
  a4 := Try.isAgg4
  z4 := Try.sizeOf4
  v4 := Try.zeroValue4
  t23 := Try.underlying52
  a23 := Try.isAgg52
  z23 := Try.sizeOf52
  v23 := Try.zeroValue52
  t26 := Try.underlying3
  a26 := Try.isAgg3
  z26 := Try.sizeOf3
  v26 := Try.zeroValue3
  t27 := Try.underlying72
  a27 := Try.isAgg72
  z27 := Try.sizeOf72
  v27 := Try.zeroValue72
  t28 := Try.underlying73
  a28 := Try.isAgg73
  z28 := Try.sizeOf73
  v28 := Try.zeroValue73
  t33 := Try.underlying77
  a33 := Try.isAgg77
  z33 := Try.sizeOf77
  v33 := Try.zeroValue77 }
def Try.sortedA_ren : Go.Shelf.Ren := ⟨fun | 6 => 36 | 8 => 41 | 9 => 42 | 11 => 46 | 13 => 48 | 12 => 47 | 23 => 59 | 24 => 60 | 14 => 50 | 15 => 51 | 16 => 52 | 17 => 53 | 18 => 54 | 19 => 55 | 20 => 56 | 21 => 57 | 22 => 58 | 25 => 61 | 26 => 62 | 27 => 63 | 28 => 64 | 29 => 65 | 30 => 66 | 31 => 67 | n => n, fun | 26 => 3 | 28 => 73 | 24 => 51 | 0 => 0 | 3 => 3 | 37 => 83 | 48 => 22 | 50 => 96 | 4 => 4 | 40 => 87 | 39 => 86 | 45 => 92 | 5 => 5 | 9 => 9 | 51 => 97 | 55 => 101 | 57 => 103 | 58 => 104 | 33 => 77 | n => n, fun | n => n⟩
theorem Try.sortedA : Go.Proofs.SlLaysZI.n6 Try.prog Try.sortedA_ren := {
  mixed := by kernel_rfl
  f6 := ⟨Try.f36.name, by decide, Try.func36.trans (congrArg some (by kernel_rfl))⟩
  f8 := ⟨Try.f41.name, by decide, Try.func41.trans (congrArg some (by kernel_rfl))⟩
  f11 := ⟨Try.f46.name, by decide, Try.func46.trans (congrArg some (by kernel_rfl))⟩
  t0 := Try.underlying0
  a0 := Try.isAgg0
  z0 := Try.sizeOf0
  v0 := Try.zeroValue0
  t24 := Try.underlying51
  a24 := Try.isAgg51
  z24 := Try.sizeOf51
  v24 := Try.zeroValue51
  t26 := Try.underlying3
  a26 := Try.isAgg3
  z26 := Try.sizeOf3
  v26 := Try.zeroValue3
  t28 := Try.underlying73
  a28 := Try.isAgg73
  z28 := Try.sizeOf73
  v28 := Try.zeroValue73
  i26 := by kernel_rfl }
def Try.sortA_ren : Go.Shelf.Ren := ⟨fun | 5 => 42 | 8 => 48 | 7 => 47 | 19 => 59 | 20 => 60 | 10 => 50 | 11 => 51 | 12 => 52 | 13 => 53 | 14 => 54 | 15 => 55 | 16 => 56 | 17 => 57 | 18 => 58 | 30 => 61 | 31 => 62 | 32 => 63 | 33 => 64 | 34 => 65 | 35 => 66 | 40 => 67 | n => n, fun | 23 => 51 | 25 => 3 | 3 => 3 | 32 => 83 | 22 => 51 | 0 => 0 | 44 => 22 | 46 => 96 | 4 => 4 | 36 => 87 | 35 => 86 | 41 => 92 | 5 => 5 | 9 => 9 | 53 => 97 | 57 => 101 | 63 => 103 | 64 => 104 | n => n, fun | n => n⟩
theorem Try.sortA : Go.Proofs.SlLaysM.n5 Try.prog Try.sortA_ren := {
  mixed := by kernel_rfl
  f5 := ⟨Try.f42.name, by decide, Try.func42.trans (congrArg some (by kernel_rfl))⟩
  f7 := ⟨Try.f47.name, by decide, Try.func47.trans (congrArg some (by kernel_rfl))⟩
  f8 := Try.func48.trans (congrArg some (by kernel_rfl))
  f10 := ⟨Try.f50.name, by decide, Try.func50.trans (congrArg some (by kernel_rfl))⟩
  f11 := ⟨Try.f51.name, by decide, Try.func51.trans (congrArg some (by kernel_rfl))⟩
  f12 := ⟨Try.f52.name, by decide, Try.func52.trans (congrArg some (by kernel_rfl))⟩
  f13 := ⟨Try.f53.name, by decide, Try.func53.trans (congrArg some (by kernel_rfl))⟩
  f14 := ⟨Try.f54.name, by decide, Try.func54.trans (congrArg some (by kernel_rfl))⟩
  f15 := ⟨Try.f55.name, by decide, Try.func55.trans (congrArg some (by kernel_rfl))⟩
  f16 := ⟨Try.f56.name, by decide, Try.func56.trans (congrArg some (by kernel_rfl))⟩
  f17 := ⟨Try.f57.name, by decide, Try.func57.trans (congrArg some (by kernel_rfl))⟩
  f18 := ⟨Try.f58.name, by decide, Try.func58.trans (congrArg some (by kernel_rfl))⟩
  f19 := Try.func59.trans (congrArg some (by kernel_rfl))
  f20 := Try.func60.trans (congrArg some (by kernel_rfl))
  f30 := ⟨Try.f61.name, by decide, Try.func61.trans (congrArg some (by kernel_rfl))⟩
  f31 := Try.func62.trans (congrArg some (by kernel_rfl))
  f32 := Try.func63.trans (congrArg some (by kernel_rfl))
  f33 := ⟨Try.f64.name, by decide, Try.func64.trans (congrArg some (by kernel_rfl))⟩
  f34 := ⟨Try.f65.name, by decide, Try.func65.trans (congrArg some (by kernel_rfl))⟩
  f35 := ⟨Try.f66.name, by decide, Try.func66.trans (congrArg some (by kernel_rfl))⟩
  f40 := ⟨Try.f67.name, by decide, Try.func67.trans (congrArg some (by kernel_rfl))⟩
  t0 := Try.underlying0
  a0 := Try.isAgg0
  z0 := Try.sizeOf0
  v0 := Try.zeroValue0
  t3 := Try.underlying3
  a3 := Try.isAgg3
  z3 := Try.sizeOf3
  v3 := Try.zeroValue3
  t4 := Try.underlying4
  a4 := Try.isAgg4
  z4 := Try.sizeOf4
  v4 := Try.zeroValue4
  t5 := Try.underlying5
  a5 := Try.isAgg5
  z5 := Try.sizeOf5
  v5 := Try.zeroValue5
  t9 := Try.underlying9
  a9 := Try.isAgg9
  z9 := Try.sizeOf9
  v9 := Try.zeroValue9
  t22 := Try.underlying51
  a22 := Try.isAgg51
  z22 := Try.sizeOf51
  v22 := Try.zeroValue51
  t23 := Try.underlying51
  a23 := Try.isAgg51
  z23 := Try.sizeOf51
  v23 := Try.zeroValue51
  t25 := Try.underlying3
  a25 := Try.isAgg3
  z25 := Try.sizeOf3
  v25 := Try.zeroValue3
  t32 := Try.underlying83
  a32 := Try.isAgg83
  z32 := Try.sizeOf83
  v32 := Try.zeroValue83
  t35 := Try.underlying86
  a35 := Try.isAgg86
  z35 := Try.sizeOf86
  v35 := Try.zeroValue86
  t36 := Try.underlying87
  a36 := Try.isAgg87
  z36 := Try.sizeOf87
  v36 := Try.zeroValue87
  t41 := Try.underlying92
  a41 := Try.isAgg92
  z41 := Try.sizeOf92
  v41 := Try.zeroValue92
  t44 := Try.underlying22
  a44 := Try.isAgg22
  z44 := Try.sizeOf22
  v44 := Try.zeroValue22
  t46 := Try.underlying96
  a46 := Try.isAgg96
  z46 := Try.sizeOf96
  v46 := Try.zeroValue96
  t53 := Try.underlying97
  a53 := Try.isAgg97
  z53 := Try.sizeOf97
  v53 := Try.zeroValue97
  t57 := Try.underlying101
  a57 := Try.isAgg101
  z57 := Try.sizeOf101
  v57 := Try.zeroValue101
  t63 := Try.underlying103
  a63 := Try.isAgg103
  z63 := Try.sizeOf103
  v63 := Try.zeroValue103
  t64 := Try.underlying104
  a64 := Try.isAgg104
  z64 := Try.sizeOf104
  v64 := Try.zeroValue104 }
end Go.Proofs

/-
  'slices.Sorted(maps.Keys(m))' of a map from ints that a call made (the library's contracts, laid at this program).
-/
set_option maxRecDepth 100000
namespace Go.Proofs.Ytfefkchjhooloaa
open Go.RowKit Go.Maps Go.Sort Go.Shelf

theorem sorts_here (m : Nat) : AnyZI.SortsIn Try.prog Try.sortedA_ren Fence.wide m :=
  ⟨fun blk off cap ss W hH hblk hsz => callsIn_wide.2 (AnyM.slices_Sort_int Try.sortA blk off cap ss W hH hblk hsz),
   fun p cap W => callsIn_wide.2 (AnyM.slices_Sort_int_none Try.sortA p cap W)⟩
/-- maps.Keys: a function over a box that holds the map. -/
theorem keys_any (mb : Option Nat) (w : World) :
    Calls Try.prog 37 #[.map mb] w fun e w' => e = .returned (.func (.func 43) #[] #[.pointer (some ⟨w.heap.size, 0, none⟩)]) ∧ w' = w.alloc (.cells #[.map mb] 52) :=
  (callsIn_wide (n := 5)).1 (AnyZI.keys_in Try.keysA Fence.wide 5 trivial rfl mb w)
/-- What slices.Sorted answers of it: the keys, rising. -/
def KeysV (w : World) (ps : List (Int × Value)) (e : Ending) (w' : World) : Prop :=
  ∃ (v : Value) (K : List Int), e = .returned v ∧ w'.ownsRow w.heap.size 3 1 v K.length (K.map fun x => .int .i64 x) ∧ K.Pairwise (· < ·) ∧ (∀ x, x ∈ K ↔ hasR ps x = true) ∧ Below w.heap.size w w'
theorem sorted_any (b n : Nat) (ps : List (Int × Value)) (w : World) (hown : w.ownsMap Try.prog 3 heldV b n (putR ps)) (hn : n ≤ 1000000000) :
    Calls Try.prog 36 #[.func (.func 43) #[] #[.pointer (some ⟨w.heap.size, 0, none⟩)]] (w.alloc (.cells #[.map (some b)] 52)) (KeysV (w.alloc (.cells #[.map (some b)] 52)) ps) := by
  have hbl := hown.lt
  have hsz : Maps.size (putR ps) ≤ n := hown.size_le
  have hseq : SeqGives Fence.wide 2 Try.prog 43 #[.pointer (some ⟨w.heap.size, 0, none⟩)] encZ (fun ss => ss.Perm (intKeys (putR ps))) (Maps.size (putR ps)) (w.alloc (.cells #[.map (some b)] 52)) :=
    AnyZI.keys_gives (ρ := Try.keysA_ren) { Try.keysA with } Fence.wide _ trivial rfl (by omega) w.heap.size b n (putR ps) _ (by simp) (by simp) (by
      obtain ⟨es, clock, hb, Ft, hs, hD⟩ := hown
      exact ⟨es, clock, (Below.heap_alloc _ _ b hbl).trans hb, Ft, hs, hD⟩)
  have cS := AnyZI.sorted_in Try.sortedA Fence.wide 5 trivial trivial trivial trivial rfl (by omega) (sorts_here _) (enters_of Try.func42 (by kernel_rfl) rfl) 43 #[.pointer (some ⟨w.heap.size, 0, none⟩)] trivial (enters_of Try.func43 (by kernel_rfl) rfl) _ _ (by unfold maxLen; omega) (by omega) _ hseq
  have cS2 := (callsIn_wide (n := 5)).1 cS
  refine Calls.mono (P := Try.prog) (f := 36) cS2 ?_
  rintro e w' ⟨v, ss, rfl, hS, hrow, _, hb⟩
  obtain ⟨hnd, hmem⟩ := keys_putR hown hS
  obtain ⟨hr, hm⟩ := sort_rising hnd
  refine ⟨v, ss.mergeSort leI, rfl, ?_, hr, fun x => by rw [hm, hmem], hb⟩
  have : (ss.mergeSort leI).length = ss.length := List.length_mergeSort _
  rw [this]
  exact hrow

end Go.Proofs.Ytfefkchjhooloaa

/-
  Slices of ints in memory: what is said of one that is read; one that came in, opened.
-/
set_option maxRecDepth 100000
namespace Go.Proofs.Ytfefkchjhooloaa
open Go.ChangeShapes Go.WideShapes Go.ChangeAt Go.RowKit

/-- The number of a place: by a name of its own, so that the walk leaves it as it is. -/
def nthI (l : List Int) (i : Nat) : Int := l.getD i 0
theorem nthI_eq (l : List Int) (i : Nat) (h : i < l.length) : nthI l i = l[i] := by
  unfold nthI; rw [List.getD_eq_getElem?_getD, List.getElem?_eq_getElem h]; rfl

/-- The value is a slice that reads as these ints. -/
def Ints (w : World) (v : Value) (l : List Int) : Prop :=
  ∃ a cap, v = .slice a l.length cap ∧ l.length ≤ cap ∧ cap ≤ 9223372036854775807 ∧ (∀ x, x ∈ l → -9223372036854775808 ≤ x ∧ x ≤ 9223372036854775807) ∧
    (l ≠ [] → ∃ b off, a = some ⟨b, off, none⟩ ∧ b < w.heap.size ∧ ∀ i, i < l.length → w.cell? ⟨b, off + i, none⟩ = some (.int .i64 (nthI l i)))

theorem Ints.go {w w' : World} {v : Value} {l : List Int} (h : Ints w v l) (hb : Below w.heap.size w w') : Ints w' v l := by
  obtain ⟨a, cap, rfl, h1, h2, h3, h4⟩ := h
  refine ⟨a, cap, rfl, h1, h2, h3, fun hne => ?_⟩
  obtain ⟨b, off, rfl, hlt, hc⟩ := h4 hne
  exact ⟨b, off, rfl, Nat.lt_of_lt_of_le hlt hb.size, fun i hi => by rw [hb.cell (p := ⟨b, off + i, none⟩) (by show b < w.heap.size; omega)]; exact hc i hi⟩

theorem Ints.range {w : World} {v : Value} {l : List Int} (h : Ints w v l) {k : Nat} (hk : k < l.length) : -9223372036854775808 ≤ nthI l k ∧ nthI l k ≤ 9223372036854775807 := by
  obtain ⟨_, _, _, _, _, h3, _⟩ := h
  rw [nthI_eq l k hk]
  exact h3 _ (List.getElem_mem hk)

/-- A slice of ints that came in. -/
theorem open_intl {H : Type} {enc : TypeId × Value → H} {P : Program} {T E : TypeId} (hT : P.underlying T = some (.slice E)) (hE : P.underlying E = some (.int .i64)) (hc : P.cellsOf E = 1) {W : World} {base : Nat} {v : Value} {d : DataW H} {p : List MemPlace}
    (hok : Value.okWide P W .any base T v) (h : DataW.Trod enc P W 0 (fun _ => true) true T v d p) (hlt : ∀ x ∈ p, x.block < W.heap.size) : ∃ l, Ints W v l := by
  obtain ⟨a0, len0, cap0, rfl⟩ := okWide_slice hT hok
  obtain ⟨fuel, hf⟩ := h
  rcases open_ints hT hE hc hf with ⟨hcs, hx⟩ | ⟨a, len, cap, zs, hcs, _, hl, hm, hz, hx, hcell, hwz⟩
  · simp [Value.cells] at hcs
    obtain ⟨rfl, rfl, rfl⟩ := hcs
    exact ⟨[], none, 0, rfl, by simp, by omega, by simp, fun h => absurd rfl h⟩
  · simp [Value.cells] at hcs
    obtain ⟨rfl, rfl, rfl⟩ := hcs
    simp only [Prod.mk.injEq] at hx
    obtain ⟨rfl, rfl⟩ := hx
    simp only [if_true] at hz
    have hlen : (zs.take len0).length = len0 := by simp; omega
    refine ⟨zs.take len0, some a, cap0, by rw [hlen], by rw [hlen]; exact hl, by simpa [maxLen] using hm, fun x hx => int_of (hwz x (List.mem_of_mem_take hx)), fun hne => ?_⟩
    have hl0 : 0 < len0 := by
      cases len0 with
      | zero => simp at hne
      | succ n => omega
    obtain ⟨b, off, spot⟩ := a
    have hspot : spot = none := by simpa [Addr.add] using World.cell?_spot (hcell 0 (by omega))
    subst hspot
    have hbW : b < W.heap.size := hlt (.cell b off) (MemPlace.mem_row.2 ⟨0, by omega, by simp⟩)
    refine ⟨b, off, rfl, hbW, fun i hi => ?_⟩
    rw [hlen] at hi
    have hci := hcell i (by omega)
    rw [add_plain] at hci
    rw [hci, nthI_eq _ _ (by rw [hlen]; exact hi)]
    simp [List.getD_eq_getElem?_getD, List.getElem?_eq_getElem (show i < zs.length by omega)]

end Go.Proofs.Ytfefkchjhooloaa

/-
  Known symbols, by their numbers (package glue): a map's readings; fitByNumber.
-/
set_option maxRecDepth 100000
namespace Go.Proofs.Ytfefkchjhooloaa
open Go.RowKit Go.Maps

/-- A map that the call made: what was put, and how what stands there reads. -/
structure KMap (w : World) (b : Nat) (ps : List (Int × Value)) (f : Int → List Nat) : Prop where
  own : ∃ n, n ≤ 1000000000 ∧ w.ownsMap Try.prog 3 heldV b n (putR ps)
  val : ∀ k, Bytes w (valR ps k) (f k)
  num : ∀ k, hasR ps k = true → -9223372036854775808 ≤ k ∧ k ≤ 9223372036854775807
theorem KMap.go {w w' : World} {b : Nat} {ps : List (Int × Value)} {f : Int → List Nat} (h : KMap w b ps f) (hb : Below w.heap.size w w') : KMap w' b ps f := by
  obtain ⟨⟨n, hn, ho⟩, hv, hr⟩ := h
  exact ⟨⟨n, hn, ho.kept (grown_of_below hb none) (by simp)⟩, fun k => (hv k).go hb, hr⟩
theorem KMap.since {w w' : World} {b : Nat} {ps : List (Int × Value)} {f : Int → List Nat} (h : KMap w b ps f) (hb : Since w w') : KMap w' b ps f := h.go hb
theorem zero_sl (w : World) : (zeroValue 25).run Try.prog w = .ok (.slice none 0 0) w := by kernel_rfl
theorem wf_int {k : Int} (h : -9223372036854775808 ≤ k ∧ k ≤ 9223372036854775807) : (Lit.int .i64 k).wf = true := by
  have h1 : IntKind.i64.min = -9223372036854775808 := rfl
  have h2 : IntKind.i64.max = 9223372036854775807 := rfl
  simp only [Lit.wf, Bool.and_eq_true, decide_eq_true_eq]
  omega
theorem KMap.look {w : World} {b : Nat} {ps : List (Int × Value)} {f : Int → List Nat} (h : KMap w b ps f) {k : Int} (hk : -9223372036854775808 ≤ k ∧ k ≤ 9223372036854775807) :
    ∃ a c, (Instr.lookup 52 (.map (some b)) (.int .i64 k) false).run Try.prog w = .ok (.slice a (f k).length c) w ∧ Bytes w (.slice a (f k).length c) (f k) := by
  obtain ⟨⟨n, hn, ho⟩, hv, hr⟩ := h
  obtain ⟨v, qs, hrun, hR⟩ := ho.lookup (t := 52) (e := 25) (int_keyed Try.underlying3) Try.underlying52 (zero_sl w) (zd := .held (.slice none 0 0)) (zp := []) rfl (keyOf_int_mk Try.underlying3 (wf_int hk))
  rw [atKey_putR] at hR
  simp only [heldV, Option.some.injEq, Prod.mk.injEq, DataW.held.injEq] at hR
  have hb := hv k
  rw [← hR.1] at hb
  obtain ⟨a, c, rfl, _⟩ := id hb
  exact ⟨a, c, hrun, hb⟩

/-- What is wrong with the first numbers of a list. -/
def numE (s k : Int) (f : Int → List Nat) : List Int → Int
  | [] => 0
  | i :: r => if i < 0 ∨ k ≤ i then 2 else if ((f i).length : Int) ≠ s then 4 else numE s k f r
theorem numE_drop {s k : Int} {f : Int → List Nat} {K : List Int} {j : Nat} (hj : j < K.length) : numE s k f (K.drop j) = if nthI K j < 0 ∨ k ≤ nthI K j then 2 else if ((f (nthI K j)).length : Int) ≠ s then 4 else numE s k f (K.drop (j + 1)) := by
  rw [List.drop_eq_getElem_cons hj, nthI_eq K j hj]
  rfl
set_option maxHeartbeats 2000000 in
theorem fitnum_any (l s k n : Int) (v : Value) (K : List Int) (b : Nat) (ps : List (Int × Value)) (f : Int → List Nat) (w : World) (hK : Ints w v K) (hM : KMap w b ps f) :
    Calls Try.prog 38 #[.agg #[.int .i64 l, .int .i64 s, .int .i64 k, .int .u32 n], v, .map (some b)] w fun e w' => e = .returned (.int .i64 (numE s k f K)) ∧ Below w.heap.size w w' := by
  have HK := Lib.hid hK
  have HM := Lib.hid hM
  have hlen : K.length ≤ 9223372036854775807 := by obtain ⟨_, _, _, h1, h2, _⟩ := hK; omega
  obtain ⟨a, c, rfl, _⟩ := hK
  obtain ⟨E, hE⟩ : ∃ E, E = numE s k f K := ⟨_, rfl⟩
  have HE := Lib.hid hE
  rw [← hE]
  clear hM hE
  go_enter Try.func38, Try.ntmps38
  go_wp2_with fail
  obtain ⟨B, hk1, hs⟩ := blocks1 w #[.int .i64 l, .int .i64 s, .int .i64 k, .int .u32 n] 24
  generalize (w.alloc (.cells #[.int .i64 l, .int .i64 s, .int .i64 k, .int .u32 n] 24)) = W at *
  have K1 := Lib.hid hk1
  have HS := Lib.hid hs
  clear hs hk1
  replace HK := Lib.hid (HK.out.go B)
  replace HM := Lib.hid (HM.out.go B)
  have hzW := B.size
  go_loopw [8, 11] (fun _ i wr => ∃ j : Nat, j ≤ K.length ∧ i = .int .i64 j ∧ wr = W ∧ Hid (E = numE s k f (K.drop j))) (fun _ i _ => K.length - (Go.RowKit.intOf i).toNat)
  case atStart => exact ⟨0, by omega, rfl, rfl, by rw [List.drop_zero]; exact HE⟩
  case round =>
    obtain ⟨j, hj, rfl, rfl, HEJ⟩ := hrel
    obtain ⟨p0, p1, p2, p3⟩ := K1.out.four
    have pl := K1.out.lt
    by_cases hlt : j < K.length
    · have HST := Lib.hid (numE_drop (s := s) (k := k) (f := f) hlt)
      have hrng := HK.out.range hlt
      obtain ⟨ab, ao, rfl, hcell⟩ : ∃ ab ao, a = some ⟨ab, ao, none⟩ ∧ wr.cell? ⟨ab, ao + j, none⟩ = some (.int .i64 (nthI K j)) := by
        obtain ⟨a', c', e, _, _, _, h4⟩ := HK.out
        obtain ⟨b', off', rfl, _, hc⟩ := h4 (by intro h; rw [h] at hlt; simp at hlt)
        simp only [Value.slice.injEq] at e
        exact ⟨b', off', e.1, hc j hlt⟩
      obtain ⟨x, hx⟩ : ∃ x, x = nthI K j := ⟨_, rfl⟩
      rw [← hx] at hcell hrng HST
      obtain ⟨ra, rc, hlk, _⟩ := HM.out.look hrng
      have i0 : (0 : Int) ≤ (j : Int) := Int.natCast_nonneg _
      have i1 : (j : Int) < (K.length : Int) := by omega
      clear hx
      by_cases h1 : x < 0
      · have HR := Lib.hid (show E = 2 by rw [HEJ.out, HST.out, if_pos (.inl h1)])
        go_wp2_with fail
        go_ret
        exact ⟨by rw [HR.out]; rfl, B⟩
      · by_cases h2 : k ≤ x
        · have HR := Lib.hid (show E = 2 by rw [HEJ.out, HST.out, if_pos (.inr h2)])
          go_wp2_with fail
          go_ret
          exact ⟨by rw [HR.out]; rfl, B⟩
        · by_cases h3 : ((f x).length : Int) = s
          · have HR := Lib.hid (show E = numE s k f (K.drop (j + 1)) by rw [HEJ.out, HST.out, if_neg (by omega), if_neg (by simp [h3])])
            have hb : (((f x).length : Int) != s) = false := by rw [h3]; simp
            clear h3
            go_wp2_with fail
            go_roundw
            case rel => exact ⟨j + 1, by omega, by go_num, trivial, HR⟩
            case measure => simp [Go.RowKit.intOf]; omega
          · have HR := Lib.hid (show E = 4 by rw [HEJ.out, HST.out, if_neg (by omega), if_pos h3])
            have hb : (((f x).length : Int) != s) = true := by rw [bne_iff_ne]; exact h3
            clear h3
            go_wp2_with fail
            go_ret
            exact ⟨by rw [HR.out]; rfl, B⟩
    · obtain rfl : j = K.length := by omega
      have HR := Lib.hid (show E = 0 by rw [HEJ.out, List.drop_length]; rfl)
      go_wp2_with fail
      go_ret
      exact ⟨by rw [HR.out]; rfl, B⟩

end Go.Proofs.Ytfefkchjhooloaa

/-
  An object as far as its symbols are known (package glue): what is laid, what is told; slices of bools.
-/
set_option maxRecDepth 100000
namespace Go.Proofs.Ytfefkchjhooloaa
open Go.RowKit Go.Maps

/-- The object, with noughts where nothing is known; and where something is. -/
def fillO (l s : Nat) (f : Int → List Nat) (S : List Int) : List Nat := (List.range l).map fun x => if ((x / s : Nat) : Int) ∈ S then nth (f ((x / s : Nat) : Int)) (x % s) else 0
def fillT (l s : Nat) (S : List Int) : List Bool := (List.range l).map fun x => decide (((x / s : Nat) : Int) ∈ S)
def tellT (l s : Nat) (S : List Int) (off t : Nat) : List Bool := (List.range l).map fun x => decide (((x / s : Nat) : Int) ∈ S) || (decide (off ≤ x) && decide (x < off + t))
theorem fillO_length (l s : Nat) (f : Int → List Nat) (S : List Int) : (fillO l s f S).length = l := by simp [fillO]
theorem fillT_length (l s : Nat) (S : List Int) : (fillT l s S).length = l := by simp [fillT]
theorem tellT_length (l s : Nat) (S : List Int) (off t : Nat) : (tellT l s S off t).length = l := by simp [tellT]
theorem fillO_nil (l s : Nat) (f : Int → List Nat) : fillO l s f [] = zeros l := by
  unfold fillO zeros
  simp only [List.not_mem_nil, if_false]
  exact List.map_const' .. |>.trans (by simp)
theorem fillT_nil (l s : Nat) : fillT l s [] = List.replicate l false := by
  unfold fillT
  simp only [List.not_mem_nil, decide_false]
  exact List.map_const' .. |>.trans (by simp)
theorem fillO_lt {f : Int → List Nat} (h : ∀ k, ∀ x, x ∈ f k → x < 256) (l s : Nat) (S : List Int) : ∀ x, x ∈ fillO l s f S → x < 256 := by
  intro x hx
  obtain ⟨y, _, rfl⟩ := List.mem_map.1 hx
  split
  · exact nth_lt (h _) _
  · decide
theorem at_part {i s x : Nat} (h1 : i * s ≤ x) (h2 : x < i * s + s) : x / s = i ∧ x % s = x - i * s := by
  have hs : 0 < s := by omega
  have e : x / s = i := by
    have h3 : i ≤ x / s := (Nat.le_div_iff_mul_le hs).2 h1
    have h4 : x / s < i + 1 := (Nat.div_lt_iff_lt_mul hs).2 (by rw [Nat.succ_mul]; exact h2)
    omega
  have := Nat.div_add_mod x s
  rw [e, Nat.mul_comm] at this
  exact ⟨e, by omega⟩
theorem part_at {i s x : Nat} (hs : 0 < s) (h : x / s = i) : i * s ≤ x ∧ x < i * s + s := by
  subst h
  have h1 := Nat.div_add_mod x s
  have h2 := Nat.mod_lt x hs
  rw [Nat.mul_comm] at h1
  omega
theorem fillO_step {l s i : Nat} {f : Int → List Nat} {S : List Int} (hs : 0 < s) (hf : (f i).length = s) (hi : i * s ≤ l) : layB (fillO l s f S) (i * s) (f i) = fillO l s f (S ++ [(i : Int)]) := by
  apply List.ext_getElem?
  intro x
  unfold layB
  rw [fillO_length, hf]
  by_cases hx : x < l
  · have e0 : ∀ T, (fillO l s f T)[x]? = some (if ((x / s : Nat) : Int) ∈ T then nth (f ((x / s : Nat) : Int)) (x % s) else 0) := fun T => by
      unfold fillO; rw [List.getElem?_map, List.getElem?_range hx]; rfl
    rw [e0]
    by_cases h1 : x < i * s
    · have hne : x / s ≠ i := fun e => by have := part_at hs e; omega
      rw [List.getElem?_append_left (by simp [fillO_length]; omega), List.getElem?_append_left (by simp [fillO_length]; omega), List.getElem?_take, if_pos h1, e0]
      congr 1
      have : ((x / s : Nat) : Int) ∈ S ++ [(i : Int)] ↔ ((x / s : Nat) : Int) ∈ S := by
        rw [List.mem_append, List.mem_singleton]
        constructor
        · rintro (h | h)
          · exact h
          · omega
        · exact .inl
      simp only [this]
    · by_cases h2 : x < i * s + s
      · obtain ⟨e1, e2⟩ := at_part (by omega) h2
        rw [List.getElem?_append_left (by simp [fillO_length]; omega), List.getElem?_append_right (by simp [fillO_length]; omega)]
        rw [List.length_take, fillO_length, Nat.min_eq_left hi, List.getElem?_take, if_pos (by omega), e1, e2, if_pos (by simp)]
        have h3 : x - i * s < (f i).length := by omega
        rw [List.getElem?_eq_getElem h3, nth_eq _ _ h3]
      · have hne : x / s ≠ i := fun e => by have := part_at hs e; omega
        rw [List.getElem?_append_right (by simp [fillO_length]; omega), List.getElem?_drop]
        have e3 : i * s + min s (l - i * s) + (x - (List.take (i * s) (fillO l s f S) ++ List.take (l - i * s) (f ↑i)).length) = x := by
          simp [fillO_length]; omega
        rw [e3, e0]
        congr 1
        have : ((x / s : Nat) : Int) ∈ S ++ [(i : Int)] ↔ ((x / s : Nat) : Int) ∈ S := by
          rw [List.mem_append, List.mem_singleton]
          constructor
          · rintro (h | h)
            · exact h
            · omega
          · exact .inl
        simp only [this]
  · rw [List.getElem?_eq_none (by simp [fillO_length, hf]; omega), List.getElem?_eq_none (by rw [fillO_length]; omega)]
theorem tellT_zero (l s : Nat) (S : List Int) (off : Nat) : tellT l s S off 0 = fillT l s S := by
  unfold tellT fillT
  apply List.map_congr_left
  intro x _
  have : (decide (off ≤ x) && decide (x < off + 0)) = false := by
    rw [Bool.and_eq_false_iff, decide_eq_false_iff_not, decide_eq_false_iff_not]; omega
  rw [this, Bool.or_false]
theorem tellT_set {l s off t : Nat} {S : List Int} (h : off + t < l) : (tellT l s S off t).set (off + t) true = tellT l s S off (t + 1) := by
  apply List.ext_getElem?
  intro x
  rw [List.getElem?_set]
  by_cases hx : x < l
  · have e0 : ∀ u, (tellT l s S off u)[x]? = some (decide (((x / s : Nat) : Int) ∈ S) || (decide (off ≤ x) && decide (x < off + u))) := fun u => by
      unfold tellT; rw [List.getElem?_map, List.getElem?_range hx]; rfl
    rw [e0, e0, tellT_length]
    by_cases he : off + t = x
    · rw [if_pos he, if_pos h]
      have : (decide (off ≤ x) && decide (x < off + (t + 1))) = true := by
        rw [Bool.and_eq_true, decide_eq_true_eq, decide_eq_true_eq]; omega
      rw [this, Bool.or_true]
    · rw [if_neg he]
      have : decide (x < off + t) = decide (x < off + (t + 1)) := decide_eq_decide.2 (by omega)
      rw [this]
  · rw [if_neg (by omega), List.getElem?_eq_none (by rw [tellT_length]; omega), List.getElem?_eq_none (by rw [tellT_length]; omega)]
theorem tellT_all {l s i : Nat} {S : List Int} (hs : 0 < s) (hi : i * s ≤ l) : tellT l s S (i * s) (min s (l - i * s)) = fillT l s (S ++ [(i : Int)]) := by
  unfold tellT fillT
  apply List.map_congr_left
  intro x hx
  have hx := List.mem_range.1 hx
  have : (decide (i * s ≤ x) && decide (x < i * s + min s (l - i * s))) = decide (x / s = i) := by
    rw [← Bool.decide_and]
    refine decide_eq_decide.2 ⟨fun h => (at_part h.1 (by omega)).1, fun h => ?_⟩
    have := part_at hs h
    omega
  rw [this, ← Bool.decide_or]
  refine decide_eq_decide.2 ?_
  rw [List.mem_append, List.mem_singleton]
  exact or_congr Iff.rfl (by omega)
theorem numE_zero {s k : Int} {f : Int → List Nat} : ∀ {K : List Int}, numE s k f K = 0 → ∀ x ∈ K, 0 ≤ x ∧ x < k ∧ ((f x).length : Int) = s
  | [], _, x, hx => by simp at hx
  | i :: r, h, x, hx => by
    unfold numE at h
    split at h
    · cases h
    · split at h
      · cases h
      · rename_i h1 h2
        rcases List.mem_cons.1 hx with rfl | hx
        · exact ⟨by omega, by omega, by simpa using h2⟩
        · exact numE_zero h x hx

/-! Slices of bools. -/
def bolls (t : List Bool) : Array Value := (t.map Value.bool).toArray
def BoolO (w : World) (g : Nat) (t : List Bool) : Prop := Blk w g (bolls t) 4
theorem infoBool : (Try.prog.info? 4).map (fun i => (i.zero, i.size, i.bytes)) = some (some (.bool false), 1, 1) := by kernel_rfl
theorem make_bools (n : Nat) (hn : n ≤ 1000000000) (w : World) :
    (Instr.makeSlice 53 (.int .i64 (n : Int)) (.int .i64 (n : Int))).run Try.prog w = .ok (whole w.heap.size n) (w.alloc (.cells (bolls (List.replicate n false)) 4)) := by
  obtain ⟨i0, hi, hz0, hz1, hz2⟩ := info_parts infoBool
  have h := run_make (P := Try.prog) w 53 4 i0 _ Try.underlying53 hi hz0 .i64 .i64 (n : Int) (n : Int) (by omega) (by omega) (by rw [hz2]; omega) (by omega)
  rw [h]
  simp only [Int.toNat_natCast, hz1, Nat.mul_one]
  congr 3
  apply Array.toList_inj.1
  rw [show (Value.bool false).cells = #[.bool false] from rfl, toList_madeCells_one]
  unfold bolls
  simp
theorem BoolO.go {w w' : World} {g : Nat} {t : List Bool} (h : BoolO w g t) (hb : Below w.heap.size w w') : BoolO w' g t := Blk.go h hb
theorem BoolO.ne {w : World} {g h : Nat} {t : List Bool} {l : List Nat} (k : BoolO w g t) (o : Own w h l) : h ≠ g := by
  intro e
  subst e
  have k' : w.heap[h]? = some (.cells (bolls t) 4) := k
  have o' : w.heap[h]? = some (bytesObj l) := o
  rw [k'] at o'
  simp [bytesObj] at o'
theorem BoolO.set {w : World} {g : Nat} {t : List Bool} (h : BoolO w g t) (k : Nat) (x : Bool) : BoolO (w.setCell ⟨g, k, none⟩ (.bool x)) g (t.set k x) := by
  have := Blk.set h k (.bool x)
  unfold BoolO bolls at *
  rw [List.map_set]
  simpa using this
/-- The value is a slice that reads as these bools. -/
def Bools (w : World) (v : Value) (t : List Bool) : Prop := ∃ a cap, v = .slice a t.length cap ∧ t.length ≤ cap ∧ cap ≤ 9223372036854775807 ∧
    (t ≠ [] → ∃ b off, a = some ⟨b, off, none⟩ ∧ b < w.heap.size ∧ ∀ i, i < t.length → w.cell? ⟨b, off + i, none⟩ = some (.bool (t.getD i false)))
theorem Bools.go {w w' : World} {v : Value} {t : List Bool} (h : Bools w v t) (hb : Below w.heap.size w w') : Bools w' v t := by
  obtain ⟨a, cap, rfl, h1, h2, h4⟩ := h
  refine ⟨a, cap, rfl, h1, h2, fun hne => ?_⟩
  obtain ⟨b, off, rfl, hlt, hc⟩ := h4 hne
  exact ⟨b, off, rfl, Nat.lt_of_lt_of_le hlt hb.size, fun i hi => by rw [hb.cell (p := ⟨b, off + i, none⟩) (by show b < w.heap.size; omega)]; exact hc i hi⟩
theorem Bools.nil (w : World) : Bools w (.slice none 0 0) [] := ⟨none, 0, rfl, Nat.le_refl _, by omega, fun h => absurd rfl h⟩
theorem BoolO.bools {w : World} {g : Nat} {t : List Bool} (h : BoolO w g t) (hm : t.length ≤ 9223372036854775807) : Bools w (whole g t.length) t :=
  ⟨_, t.length, rfl, Nat.le_refl _, hm, fun _ => ⟨g, 0, rfl, Blk.lt h, fun i hi => by
    rw [Nat.zero_add, Blk.cell h i]
    unfold bolls
    rw [List.getElem?_toArray, List.getElem?_map, List.getElem?_eq_getElem hi, List.getD_eq_getElem?_getD, List.getElem?_eq_getElem hi]
    rfl⟩⟩

end Go.Proofs.Ytfefkchjhooloaa
