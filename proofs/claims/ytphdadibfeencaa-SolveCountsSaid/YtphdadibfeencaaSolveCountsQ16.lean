/- Texts of one seat, laid together: LawEightI, SolveG, LawNineB, SoftW. -/
import Derived.Test.YtphdadibfeencaaSolveCountsQ15
import Derived.Test.YtphdadibfeencaaSolveCountsQ11
import Derived.Test.YtphdadibfeencaaSolveCountsQ4
import Derived.Test.YtphdadibfeencaaSolveCountsQ8
import Derived.Test.YtphdadibfeencaaSolveCountsQ13

/-
  The laws of equations (layer 8): ElimSolves.
-/
set_option maxRecDepth 100000
namespace Go.Proofs.Ytphdadibfeencaa
open Go.RowKit

theorem eq_dim {ll : List (List Nat)} {k n : Nat} {w : List Nat} (hkl : ll.length = k) (hw : Oct w) (hl : w.length = k) : Ro.Dim k n (eqOf ll n w) := by subst hkl; exact eqOf_dim hw hl
theorem eq_holds {ll : List (List Nat)} {k n : Nat} {w : List Nat} (hkl : ll.length = k) (hO : OctM ll) (hn : ∀ j, j < ll.length → (rowAt ll j).length = n) (hw : Oct w) (hl : w.length = k) : Holds k n (mat ll) (fj (eqOf ll n w)) := by subst hkl; exact eqOf_holds hO hn hw hl
theorem comb_fit {ll : List (List Nat)} {k n : Nat} {w : List Nat} (hkl : ll.length = k) (hn : ∀ j, j < ll.length → (rowAt ll j).length = n) (h1 : 1 ≤ k) (hl : w.length = k) : combL w ll = combT w ll n ∧ combE w ll = 0 := by subst hkl; exact combL_fit hn h1 hl
theorem fit_at {n : Nat} {S : List (List Nat)} : ∀ j, j < (fitL n S).length → (rowAt (fitL n S) j).length = n := fun j hj => by
  rw [rowAt_eq _ _ hj]; exact fitL_wide n S _ (List.getElem_mem hj)
/-- The equations of vectors. -/
def eqs (ll : List (List Nat)) (n k : Nat) (V : List (List Nat)) : List Rw := V.map fun v => eqOf ll n (fitR k v)
theorem eqs_length (ll : List (List Nat)) (n k : Nat) (V : List (List Nat)) : (eqs ll n k V).length = V.length := by simp [eqs]
theorem eqs_take (ll : List (List Nat)) (n k : Nat) (V : List (List Nat)) {j : Nat} (hj : j < V.length) : eqs ll n k (V.take (j + 1)) = eqs ll n k (V.take j) ++ [eqOf ll n (fitR k (rowAt V j))] := by
  unfold eqs; rw [take_rowAt V j hj, List.map_append]; rfl
theorem eqs_ok {ll : List (List Nat)} {k n : Nat} {V : List (List Nat)} (hkl : ll.length = k) (hO : OctM ll) (hn : ∀ j, j < ll.length → (rowAt ll j).length = n) (hV : OctM V) : ∀ x, x ∈ eqs ll n k V → Ro.Dim k n x ∧ Holds k n (mat ll) (fj x) := by
  intro x hx
  obtain ⟨v, hv, rfl⟩ := List.mem_map.1 hx
  exact ⟨eq_dim hkl (fitR_lt (hV v hv)) (fitR_length _ _), eq_holds hkl hO hn (fitR_lt (hV v hv)) (fitR_length _ _)⟩
end Go.Proofs.Ytphdadibfeencaa

/-
  What equations say together (layer 9): equations that symbols solve. No program in this text.
-/
set_option maxRecDepth 100000
namespace Go.Proofs.Ytphdadibfeencaa
open Go.RowKit

section
variable {k n : Nat} {A : Nat → La.Vc} {X : List Rw}
theorem sol_take (hX : ∀ x, x ∈ X → Ro.Dim k n x ∧ Holds k n A (fj x)) : ∀ j, j ≤ X.length → Sol k n A (Ro.redOf (X.take j)) (X.take j)
  | 0, _ => Sol.nil k n A
  | j + 1, hj => by
    have hx := hX _ (rwAt_mem (show j < X.length by omega))
    rw [Ro.redOf_take X j (by omega), take_rwAt X j (by omega)]
    exact (sol_take hX j (by omega)).put hx.1 hx.2
theorem sol_first (hX : ∀ x, x ∈ X → Ro.Dim k n x ∧ Holds k n A (fj x)) : ∀ j, j ≤ X.length → firstC X j = -1
  | 0, _ => rfl
  | j + 1, hj => by
    have hx := hX _ (rwAt_mem (show j < X.length by omega))
    rw [first_succ, if_neg]
    · exact sol_first hX j (by omega)
    · rintro ⟨h, _⟩
      rcases (sol_take hX j (by omega)).none hx.1 hx.2 with h1 | h1
      · rw [h1.1] at h; cases h
      · rw [h1.1] at h; cases h
theorem sol_rank_le (hX : ∀ x, x ∈ X → Ro.Dim k n x ∧ Holds k n A (fj x)) : (Ro.redOf X).length ≤ k := by
  have h := sol_take hX X.length (Nat.le_refl _)
  rw [List.take_length] at h
  exact h.le
theorem sol_count (hX : ∀ x, x ∈ X → Ro.Dim k n x ∧ Holds k n A (fj x)) : countN k n X = 256 ^ (n * (k - (Ro.redOf X).length)) := by
  unfold countN
  rw [sol_first hX X.length (Nat.le_refl _), if_neg (by decide)]
theorem count_more (hX : ∀ x, x ∈ X → Ro.Dim k n x ∧ Holds k n A (fj x)) (y : Rw) : countN k n (X ++ [y]) ≤ countN k n X := by
  rw [sol_count hX]
  unfold countN
  split
  · exact Nat.zero_le _
  · refine Nat.pow_le_pow_right (by decide) (Nat.mul_le_mul_left n ?_)
    have h1 : (Ro.redOf X).length ≤ (Ro.redOf (X ++ [y])).length := by
      rw [Ro.redOf_snoc]
      unfold Ro.take1
      split
      · exact Nat.le_refl _
      · rw [put_length, Ro.clean_length]; omega
    omega
theorem count_one (hX : ∀ x, x ∈ X → Ro.Dim k n x ∧ Holds k n A (fj x)) : countN k n X = 1 ↔ ((Ro.redOf X).length = k ∨ n = 0) := by
  have hle := sol_rank_le hX
  rw [sol_count hX]
  constructor
  · intro h
    by_cases h1 : n * (k - (Ro.redOf X).length) = 0
    · rcases Nat.mul_eq_zero.1 h1 with h2 | h2
      · exact .inr h2
      · exact .inl (by omega)
    · have : 256 ^ 1 ≤ 256 ^ (n * (k - (Ro.redOf X).length)) := Nat.pow_le_pow_right (by decide) (by omega)
      rw [h] at this; omega
  · rintro (h | h)
    · rw [h, Nat.sub_self, Nat.mul_zero]
    · rw [h, Nat.zero_mul]
end
theorem eqs_holds {ll : List (List Nat)} {k n : Nat} {V : List (List Nat)} (hkl : ll.length = k) (h1 : 1 ≤ k) (hn : ∀ j, j < ll.length → (rowAt ll j).length = n) : holdsL ll (eqs ll n k V) = true := by
  unfold holdsL
  rw [List.all_eq_true]
  intro x hx
  obtain ⟨v, hv, rfl⟩ := List.mem_map.1 hx
  rw [holds_eq]
  have h := comb_fit hkl hn h1 (fitR_length k v)
  show (decide (combE (fitR k v) ll = 0) && decide (combL (fitR k v) ll = combT (fitR k v) ll n)) = true
  rw [h.1, h.2]
  simp

end Go.Proofs.Ytphdadibfeencaa

/-
  The laws of what equations say together (layer 9): the example.
-/
set_option maxRecDepth 100000
namespace Go.Proofs.Ytphdadibfeencaa
open Go.RowKit

theorem count_awake : countN 2 1 [eq1] = 256 := by decide +kernel
theorem dims_awake : Ro.Dims 2 1 [eq1] := fun r hr => by rw [List.mem_singleton.1 hr]; exact dim_1
theorem not_great256 : ¬ Great 256 := by have := pow256 (n := 1) (j := 1) (by decide) (by decide); simpa using this
theorem str_100 : (strOf (Nt.txt 256)).toList == [49, 48, 48] := by decide +kernel
set_option maxHeartbeats 1000000 in
theorem awake9_any (w : World) :
    Calls Try.prog 5 #[] w fun e w' => e = .returned (.bool true) ∧ Below w.heap.size w w' := by
  have HCN := Lib.hid (fun (v : Value) (w : World) (h : IsRL w v [eq1]) => count_yes 2 1 v [eq1] w h (by simp) (by unfold newOk; omega) dims_awake (by decide))
  rw [count_awake] at HCN
  have HGM := Lib.hid not_great256
  go_enter Try.func5, Try.ntmps5
  go_wp2_with fail
  obtain ⟨B, hk1, hk2, hs⟩ := blocks2 w #[.int .u8 1, .int .u8 1] 5 #[.int .u8 3] 5
  generalize ((w.alloc (.cells #[.int .u8 1, .int .u8 1] 5)).alloc (.cells #[.int .u8 3] 5)) = W at *
  have K1 := Lib.hid hk1
  have K2 := Lib.hid hk2
  have HS := Lib.hid hs
  clear hs hk1 hk2
  have hzW := B.size
  have HL1 := Lib.hid (K1.out.bytes2 1 1 rfl rfl (by omega) (by omega))
  have HL2 := Lib.hid (K2.out.bytes1 3 rfl (by omega))
  refine (of_any _ _ [1, 1] [3] _ HL1.out HL2.out (by simp) (by simp)).mono ?_
  rintro e w3 ⟨u3, rfl, hu3, hb⟩
  replace B := B.trans (hb.mono B.size)
  have hzw3 := B.size
  clear hb
  obtain ⟨_, _, rfl, hp, hq⟩ := hu3
  have HP := Lib.hid hp
  have HQ := Lib.hid hq
  obtain ⟨pa, pc, rfl, _⟩ := hp
  obtain ⟨qa, qc, rfl, _⟩ := hq
  clear HL1 HL2 K1 K2 HS
  go_wp2_with fail
  have HL := Lib.hid (IsRL.one (T := 52) (r := eq1) w3.heap.size rfl HP.out HQ.out)
  have hb4 : Below w3.heap.size w3 (w3.alloc (.cells #[.slice pa 2 pc, .slice qa 1 qc] 52)) := (Below.refl _ _).alloc (Nat.le_refl _) _
  replace B := B.trans (hb4.mono B.size)
  have hb4 := B.size
  refine (HCN.out _ _ HL.out).mono ?_
  rintro e w5 ⟨u5, rfl, hu, hb⟩
  have HU5 := Lib.hid hu
  replace B := B.trans (hb.mono B.size)
  obtain ⟨a3, c3, rfl, _⟩ := hu.shape
  clear hb hu HL HP HQ HCN hb4
  generalize (Wt.dg 256).length = l3 at *
  go_upto_region 2 with fail
  obtain ⟨hb, hk, hs⟩ := blocks1 w5 #[.slice a3 l3 c3] 36
  generalize w5.alloc (.cells #[.slice a3 l3 c3] 36) = W4 at *
  have K4 := Lib.hid hk
  replace HU5 := Lib.hid (HU5.out.go hb)
  replace B := B.trans (hb.mono B.size)
  have hzW4 := B.size
  clear hb hk hs
  have h4 : W4.cell? ⟨w5.heap.size, 0, none⟩ = some (.slice a3 l3 c3) := K4.out.cell 0
  have hst := str_100
  go_wp2_with fail
  refine (nattext_any _ 256 W4 (words_small HGM.out) HU5.out).mono ?_
  rintro e w6 ⟨rfl, hb⟩
  replace B := B.trans (hb.mono B.size)
  clear hb h4
  generalize strOf (Nt.txt 256) = S at *
  go_wp2_with fail
  go_ret
  exact ⟨rfl, B⟩

end Go.Proofs.Ytphdadibfeencaa

/-
  Steps that leave all words alone, whatever else they write: as XSoft says of bytes.
-/
set_option maxRecDepth 100000
namespace Go.Proofs.Ytphdadibfeencaa
open Go.RowKit

/-- No byte stands in the block. -/
def LooseW (w : World) (k : Nat) : Prop := ∀ (i n : Nat), w.cell? ⟨k, i, none⟩ ≠ some (U64 n)

/-- A step that turns only blocks without bytes. -/
structure SoftW (w w' : World) : Prop where
  size : w.heap.size ≤ w'.heap.size
  block : ∀ k, k < w.heap.size → w'.heap[k]? = w.heap[k]? ∨ (LooseW w k ∧ LooseW w' k)

theorem LooseW.of_heap {w w' : World} {k : Nat} (h : w'.heap[k]? = w.heap[k]?) (hl : LooseW w k) : LooseW w' k := fun i n => by rw [cell_of_heap h]; exact hl i n
theorem SoftW.of_grown {w w' : World} {row : Option Nat} (h : w.grownBy w' row) (hl : ∀ g, row = some g → LooseW w g ∧ LooseW w' g) : SoftW w w' := by
  refine ⟨h.size, fun k hk => ?_⟩
  by_cases hr : some k = row
  · exact .inr (hl k hr.symm)
  · exact .inl (h.block k hk hr)
def OwnNW (w : World) (B : Nat) (T : TypeId) (sz : Nat) (v : Value) (n : Nat) (xs : List Value) : Prop := w.ownsRow B T sz v n xs ∧ ∀ g, v.ownBlock = some g → LooseW w g

theorem run_append_softW {P : Program} (w : World) (B : Nat) (t ty e : TypeId) (i : TypeInfo) (z : Value) (size bytes : Nat) (ht : P.underlying t = some (.slice e)) (hi : P.info? e = some i) (hz : i.zero = some z)
    (hsize : i.size = size) (hby : i.bytes = bytes) (hzs : z.cells.size = size) (hsz : 0 < size)
    (v : Value) (n : Nat) (xs : List Value) (hown : OwnNW w B e size v n xs)
    (a : Addr) (m c : Nat) (news : List Value) (hl : news.length = m * size) (hnews : ∀ j u, news[j]? = some u → w.cell? (a.add j) = some u) (h1 : ∀ u ∈ news, u.oneCell' = true)
    (hzn : ∀ u ∈ z.cells.toList, ∀ k : Nat, u ≠ U64 k) (hnn : ∀ u ∈ news, ∀ k : Nat, u ≠ U64 k)
    (h63 : n + m ≤ maxLen) (hbytes : (n + m) * bytes ≤ 140737488355328) (hbase : B ≤ w.heap.size) :
    ∃ v' w', (Builtin.append_ #[t, t] ty #[v, .slice (some a) m c]).run P w = .ok v' w' ∧ OwnNW w' B e size v' (n + m) (xs ++ news) ∧ w.grownBy w' v.ownBlock ∧ SoftW w w' := by
  obtain ⟨v', w', hr, ho, hg, _⟩ := run_append_own (P := P) w B t ty e i z size bytes ht hi hz hsize hby hzs hsz v n xs hown.1 a m c news hl hnews h1 h63 hbytes hbase
  have key : ∀ g, v'.ownBlock = some g → LooseW w' g := by
    subst hsize
    subst hby
    have noX : ∀ {ys : List Value}, (∀ u ∈ ys, ∀ k : Nat, u ≠ U64 k) → ∀ (cs : Array Value), cs.toList = ys → ∀ (W : World) (g : Nat) (fr : Nat × Nat), W.heap[g]? = some (.cells cs e fr) → LooseW W g := by
      intro ys hys cs hcs W g fr hW j k hj
      rw [cell_of_row W g j cs e fr hW, ← Array.getElem?_toList, hcs] at hj
      exact hys _ (List.mem_of_getElem? hj) k rfl
    rcases hown.1.2 with ⟨rfl, rfl⟩ | ⟨g0, cap, cur, rfl, hbg, hg0, hnc, hcm, hcs, htake⟩
    · by_cases hm : m = 0
      · subst hm
        have hn : news = [] := List.eq_nil_of_length_eq_zero (by simpa using hl)
        subst hn
        have e2 : (Builtin.append_ #[t, t] ty #[.slice none 0 0, .slice (some a) 0 c]).run P w = .ok (.slice none 0 0) w := by
          simp [Builtin.append_, run_underlying ht, sizeOf, typeInfo, hi, Builtin.lenOf, Builtin.firstCells, loadCells, loadCellsFrom]
        rw [e2] at hr
        simp only [Result.ok.injEq] at hr
        obtain ⟨rfl, rfl⟩ := hr
        intro g hg'; cases hg'
      · have hr2 := run_append_nil (P := P) w t ty e i z ht hi hz a m c news hl hnews (by omega) (by simp only [maxLen] at h63; omega) (by have hb := hbytes; simp only [Nat.zero_add] at hb; omega)
        rw [hr2] at hr
        simp only [Result.ok.injEq] at hr
        obtain ⟨rfl, rfl⟩ := hr
        intro g hg'
        simp only [Value.ownBlock, Option.some.injEq] at hg'
        subst hg'
        refine noX (ys := news ++ (Builtin.zeroCells z.cells (grownCap w m 0 e - m)).toList) ?_ _ (by simp) _ _ (0, 0) (heap_alloc_new w.drew _)
        intro u hu k
        rcases List.mem_append.1 hu with hu | hu
        · exact hnn u hu k
        · exact hzn u (zeroCells_mem hu) k
    · have hlo : LooseW w g0 := hown.2 g0 rfl
      have hcur : ∀ u ∈ cur.toList, ∀ k : Nat, u ≠ U64 k := by
        intro u hu k e2
        obtain ⟨j, hj⟩ := List.mem_iff_getElem?.1 hu
        refine hlo j k ?_
        rw [cell_of_row w g0 j cur e (0, 0) hg0, ← Array.getElem?_toList, hj, e2]
      by_cases hroom : n + m ≤ cap
      · have hfit : n * i.size + news.length ≤ cur.size := by rw [hl, hcs, ← Nat.add_mul]; exact Nat.mul_le_mul_right _ hroom
        have hr2 := run_append_room (P := P) w t ty e i ht hi g0 n cap cur hg0 a m c news hl hnews h1 hroom hfit
        rw [hr2] at hr
        simp only [Result.ok.injEq] at hr
        obtain ⟨rfl, rfl⟩ := hr
        intro g hg'
        simp only [Value.ownBlock, Option.some.injEq] at hg'
        subst hg'
        refine noX (ys := cur.toList.take (n * i.size) ++ news ++ cur.toList.drop (n * i.size + news.length)) ?_ _ (by simp) _ _ (0, 0) (setRow_heap w g0 cur _ e _ hg0)
        intro u hu k
        rcases List.mem_append.1 hu with hu | hu
        · rcases List.mem_append.1 hu with hu | hu
          · exact hcur u (List.mem_of_mem_take hu) k
          · exact hnn u hu k
        · exact hcur u (List.mem_of_mem_drop hu) k
      · have holds : ∀ j u, xs[j]? = some u → w.cell? ((⟨g0, 0, none⟩ : Addr).add j) = some u := World.ownsRow.cells hown.1 (g := g0) rfl
        have hr2 := run_append_grow (P := P) w t ty e i z ht hi hz ⟨g0, 0, none⟩ n cap xs hown.1.1 holds a m c news hl hnews (by omega) (by simp only [maxLen] at h63; omega) (growslice_fits (by omega) hbytes)
        rw [hr2] at hr
        simp only [Result.ok.injEq] at hr
        obtain ⟨rfl, rfl⟩ := hr
        intro g hg'
        simp only [Value.ownBlock, Option.some.injEq] at hg'
        subst hg'
        refine noX (ys := xs ++ news ++ (Builtin.zeroCells z.cells (grownCap w (n + m) cap e - (n + m))).toList) ?_ _ (by simp) _ _ (0, 0) (heap_alloc_new w.drew _)
        intro u hu k
        rcases List.mem_append.1 hu with hu | hu
        · rcases List.mem_append.1 hu with hu | hu
          · rw [← htake] at hu; exact hcur u (List.mem_of_mem_take hu) k
          · exact hnn u hu k
        · exact hzn u (zeroCells_mem hu) k
  refine ⟨v', w', hr, ⟨ho, key⟩, hg, SoftW.of_grown hg fun g e2 => ⟨hown.2 g e2, ?_⟩⟩
  -- the elder block: where it stays the slice's, it is loose by the above; where it doesn't, it is as it was
  by_cases hv : v'.ownBlock = some g
  · exact key g hv
  · refine (hown.2 g e2).of_heap ?_
    subst hsize
    subst hby
    rcases hown.1.2 with ⟨rfl, rfl⟩ | ⟨g0, cap, cur, rfl, hbg, hg0, hnc, hcm, hcs, htake⟩
    · cases e2
    · simp only [Value.ownBlock, Option.some.injEq] at e2
      subst e2
      by_cases hroom : n + m ≤ cap
      · have hfit : n * i.size + news.length ≤ cur.size := by rw [hl, hcs, ← Nat.add_mul]; exact Nat.mul_le_mul_right _ hroom
        have hr2 := run_append_room (P := P) w t ty e i ht hi g0 n cap cur hg0 a m c news hl hnews h1 hroom hfit
        rw [hr2] at hr
        simp only [Result.ok.injEq] at hr
        exact absurd (by rw [← hr.1]; rfl) hv
      · have holds : ∀ j u, xs[j]? = some u → w.cell? ((⟨g0, 0, none⟩ : Addr).add j) = some u := World.ownsRow.cells hown.1 (g := g0) rfl
        have hr2 := run_append_grow (P := P) w t ty e i z ht hi hz ⟨g0, 0, none⟩ n cap xs hown.1.1 holds a m c news hl hnews (by omega) (by simp only [maxLen] at h63; omega) (growslice_fits (by omega) hbytes)
        rw [hr2] at hr
        simp only [Result.ok.injEq] at hr
        rw [← hr.2]
        exact Below.heap_alloc w.drew _ _ (Array.getElem?_eq_some_iff.1 hg0).1

theorem Words.softW {w w' : World} {v : Value} {l : List Nat} (h : Words w v l) (hs : SoftW w w') : Words w' v l := by
  obtain ⟨a, cap, rfl, h1, h2, h3, h4⟩ := h
  refine ⟨a, cap, rfl, h1, h2, h3, fun hne => ?_⟩
  obtain ⟨b, off, rfl, hb, hc⟩ := h4 hne
  refine ⟨b, off, rfl, Nat.lt_of_lt_of_le hb hs.size, fun i hi => ?_⟩
  rcases hs.block b hb with h5 | h5
  · rw [cell_of_heap h5]; exact hc i hi
  · exact absurd (hc i hi) (h5.1 _ _)
theorem IsNat.softW {w w' : World} {u : Value} {n : Nat} (h : IsNat w u n) (hs : SoftW w w') : IsNat w' u n := by
  obtain ⟨v, rfl, h1⟩ := h
  exact ⟨v, rfl, h1.softW hs⟩
/-- The value's own block holds no word. -/
def NoW (w : World) (v : Value) : Prop := ∀ g, v.ownBlock = some g → LooseW w g
theorem NoW.nil (w : World) : NoW w (.slice none 0 0) := fun g e => by cases e
theorem NoW.go {w w' : World} {v : Value} (h : NoW w v) (hlt : ∀ g, v.ownBlock = some g → g < w.heap.size) (hb : Below w.heap.size w w') : NoW w' v := fun g e => (h g e).of_heap (hb.block g (hlt g e))
/-- A list of rows that the call made, whose block holds no word. -/
def OwnLW (w : World) (B : Nat) (T : TypeId) (v : Value) (L : List Rw) : Prop := OwnL w B T v L ∧ NoW w v
theorem OwnLW.go {w w' : World} {B : Nat} {T : TypeId} {v : Value} {L : List Rw} (h : OwnLW w B T v L) (hb : Below w.heap.size w w') : OwnLW w' B T v L := ⟨h.1.go hb, h.2.go h.1.lt hb⟩
/-- 'append(rows, row)', of the program's rows: no word is turned. -/
theorem wpList_append_vrowW {ops : Array Oper} {rest : List Oper} {o : Oper} {a : Act} {Q : Exit → Act → World → Prop} {w : World} (hgd : o.guard = none) (s x : Operand) (ho : o.op = .call { callee := .builtin .append, args := #[s, x], argTypes := #[25, 25] })
    (B g c : Nat) (v x1 y1 : Value) (L : List Rw) (r : Rw) (hs : a.eval s = v) (hx : a.eval x = .slice (some ⟨g, 0, none⟩) 1 c) (hown : OwnL w B 52 v L) (hW : NoW w v) (hk : Blk w g #[x1, y1] 52) (h1 : Bytes w x1 r.1) (h2 : Bytes w y1 r.2) (hB : B ≤ w.heap.size) (hn : L.length ≤ 1000000000)
    (h : ∀ v' w', OwnL w' B 52 v' (L ++ [r]) → w.grownBy w' v.ownBlock → Soft w w' → SoftW w w' → NoW w' v' → wpList Try.prog ops Q rest (a.put o.dst v') w') :
    wpList Try.prog ops Q (o :: rest) a w := by
  obtain ⟨i0, hi, hz0, hz1, hz2⟩ := info_parts infoVec
  obtain ⟨v', w', hrun, o1, g1, s1, _⟩ := run_append_row1 (ty := o.type) Try.underlying25 hi hz0 hz1 hz2 hown hk h1 h2 hB hn
  obtain ⟨us, hu1, hu2⟩ := hown
  have hE : Each w [(x1, y1)] [r] := (Each.nil w).cons h1 h2
  have hsl : ∀ u ∈ pairs [(x1, y1)], ∀ k : Nat, u ≠ U64 k := by
    obtain ⟨a1, c1, rfl, _⟩ := h1
    obtain ⟨a2, c2, rfl, _⟩ := h2
    intro u hu k e
    simp [pairs] at hu
    rcases hu with rfl | rfl <;> cases e
  obtain ⟨v2, w2, hrun2, o2, _, s2⟩ := run_append_softW (P := Try.prog) w B 25 o.type 52 i0 _ 2 48 Try.underlying25 hi hz0 hz1 hz2 rfl (by decide) v L.length (pairs us) ⟨hu1.1, hW⟩ ⟨g, 0, none⟩ 1 c (pairs [(x1, y1)]) (by rw [pairs_length]; rfl)
    (fun j u hj => by
      have hlt := (List.getElem?_eq_some_iff.1 hj).1
      simp [pairs] at hlt
      rw [row_add]
      have : j = 0 ∨ j = 1 := by omega
      rcases this with rfl | rfl
      · simp [pairs] at hj; subst hj; exact hk.cell 0
      · simp [pairs] at hj; subst hj; exact hk.cell 1)
    (fun u hu => (hE.noU8 u hu).2) (fun u hu k e => by simp [Value.cells] at hu; subst hu; cases e) hsl (by unfold maxLen; omega) (by omega) hB
  rw [hrun] at hrun2
  simp only [Result.ok.injEq] at hrun2
  obtain ⟨rfl, rfl⟩ := hrun2
  refine wpList_plain hgd fun K hK => ?_
  unfold Oper.wp
  simp only [execOp, ho, resolve, invoke, builtin, Sem.run_bind, Sem.run_pure, Result.andThen_ok, List.map_toArray, List.map_cons, List.map_nil, hs, hx, hrun]
  exact hK _ _ (h v' w' o1 g1 s1 s2 o2.2)

end Go.Proofs.Ytphdadibfeencaa
