/- Texts of one seat, laid together: SolveB, Words, NatMath, WordMath, MixMath, RefMix, RefNatF, NatLib. -/
import Derived.Test.YtphdadibfeencaaGreatSolveHoldsQ19
import Derived.Test.YtphdadibfeencaaGreatSolveHoldsQ3
import Derived.Test.YtphdadibfeencaaGreatSolveHoldsQ2
import Derived.Test.YtphdadibfeencaaGreatSolveHoldsQ1
import Derived.Test.YtphdadibfeencaaGreatSolveHoldsQ4
import Derived.Deep.DeepCutAuto
import Derived.Test.YtphdadibfeencaaGreatSolveHoldsQ8
import Derived.Laws.OwnMore
import Derived.Deep.AppendLies
import Derived.Shelf.Bits.Mul64
import Derived.Shelf.Spec.BitsCarry
import Derived.Lib.Bytealg
import Derived.Lib.BitFns
import Derived.Lib.Strings
import Derived.Lib.Slices
import Derived.Lib.Small
import Derived.Lib.Walk

/-
  What equations say together (layer 9) in the program: 'Judge'.
-/
set_option maxRecDepth 100000
namespace Go.Proofs.YtphdadibfeencaaGreat
open Go.RowKit

/-- What Judge answers. -/
def VerdictV (w : World) (r c n : Int) (e : Ending) (w' : World) : Prop := e = .returned (.tuple #[.agg #[.int .i64 r, .int .i64 c], .int .i64 n]) ∧ Below w.heap.size w w'
theorem hmf9 (fn : Fn) (first cap : Array Value) (w : World) : (Instr.makeFunc fn first cap).run Tryz.prog w = .ok (.func fn first cap) w := rfl
set_option maxHeartbeats 1000000 in
theorem judge_no (k t : Int) (v : Value) (L : List Rw) (w : World) (hL : IsRL w v L) (h : ¬ newOk k t) :
    Calls Tryz.prog 26 #[.int .i64 k, .int .i64 t, v] w (VerdictV w 0 0 2) := by
  obtain ⟨a, c, rfl⟩ := hL.shape
  have HN := Lib.hid (fun (w : World) => enew_no k t w h)
  clear hL h
  go_enter Tryz.func26, Tryz.ntmps26
  go_wp2_with fail
  obtain ⟨B, hk1, hk2, hk3, hs⟩ := blocks3 w #[.int .i64 k] 3 #[.int .i64 t] 3 #[.int .i64 0, .int .i64 0] 66
  generalize (((w.alloc (.cells #[.int .i64 k] 3)).alloc (.cells #[.int .i64 t] 3)).alloc (.cells #[.int .i64 0, .int .i64 0] 66)) = W at *
  have K1 := Lib.hid hk1
  have K2 := Lib.hid hk2
  have K3 := Lib.hid hk3
  have HS := Lib.hid hs
  clear hs hk1 hk2 hk3
  have hzW := B.size
  refine (HN.out _).mono ?_
  rintro e w1 ⟨rfl, hb⟩
  replace K1 := Lib.hid (K1.out.go hb)
  replace K2 := Lib.hid (K2.out.go hb)
  replace K3 := Lib.hid (K3.out.go hb)
  replace B := B.trans (hb.mono B.size)
  have hzw1 := B.size
  clear hb
  obtain ⟨k30, k31⟩ := K3.out.two
  have k3l := K3.out.lt
  obtain ⟨k3f0, k3f1⟩ := K3.out.fre2
  go_wp2_with fail
  obtain ⟨e0, e1, hB, _⟩ := store2 K3.out (by omega) B (fun n e => by cases e) (fun n e => by cases e) (.int .i64 0) (.int .i64 0)
  exact bodyPost_ret (v := .tuple #[.agg #[.int .i64 0, .int .i64 0], .int .i64 2]) (by simp [results, Tryz.results26, go_sem, e0, e1]) rfl ⟨rfl, hB⟩
theorem fits_dims {k t : Nat} {L : List Rw} (hD : Ro.Dims k t L) : L.all (fitB (k : Int) (t : Int)) = true := by
  rw [List.all_eq_true]
  intro x hx
  unfold fitB
  rw [(hD x hx).1, (hD x hx).2.1]
  simp
set_option maxHeartbeats 4000000 in
theorem judge_yes (k t : Nat) (v : Value) (L : List Rw) (w : World) (hL : IsRL w v L) (hlen : L.length ≤ 1000000) (h : newOk (k : Int) (t : Int)) (hD : Ro.Dims k t L) :
    Calls Tryz.prog 26 #[.int .i64 (k : Int), .int .i64 (t : Int), v] w (VerdictV w ((Ro.redOf L).length : Int) (firstC L L.length) 0) := by
  have HL := Lib.hid hL
  have HL0 := Lib.hid hL
  obtain ⟨a, c, rfl⟩ := hL.shape
  have HN := Lib.hid (fun (w : World) => enew_yes k t w h)
  have HD := Lib.hid hD
  have HF := Lib.hid (fits_dims hD)
  have hk2 : k ≤ 4096 := by unfold newOk at h; omega
  have ht2 : t ≤ 65535 := by unfold newOk at h; omega
  clear hL h hD
  go_enter Tryz.func26, Tryz.ntmps26
  go_wp2_with fail
  obtain ⟨B, hk1, hk2, hk3, hs⟩ := blocks3 w #[.int .i64 (k : Int)] 3 #[.int .i64 (t : Int)] 3 #[.int .i64 0, .int .i64 0] 66
  generalize (((w.alloc (.cells #[.int .i64 (k : Int)] 3)).alloc (.cells #[.int .i64 (t : Int)] 3)).alloc (.cells #[.int .i64 0, .int .i64 0] 66)) = W at *
  have K1 := Lib.hid hk1
  have K2 := Lib.hid hk2
  have K3 := Lib.hid hk3
  have HS := Lib.hid hs
  clear hs hk1 hk2 hk3
  replace HL := Lib.hid (HL.out.go B)
  have hzW := B.size
  have hz := B.size
  refine (HN.out _).mono ?_
  rintro e w1 ⟨gs, rfl, hE, hb⟩
  replace K1 := Lib.hid (K1.out.go hb)
  replace K2 := Lib.hid (K2.out.go hb)
  replace K3 := Lib.hid (K3.out.go hb)
  replace HL := Lib.hid (HL.out.go hb)
  replace B := B.trans (hb.mono B.size)
  have hzw1 := B.size
  clear hb
  have HE := Lib.hid (hE.mono hz)
  clear hE
  have hmf := hmf9
  go_wp2_with fail
  refine (hasRow_any _ _ _ _ (idxJudge_any w.heap.size (w.heap.size + 1) (k : Int) (t : Int) _ L _ K1.out K2.out HL.out (by omega))).mono ?_
  rintro e w2 ⟨rfl, hb⟩
  replace K3 := Lib.hid (K3.out.go hb)
  replace HE := Lib.hid (HE.out.go hb)
  replace B := B.trans (hb.mono B.size)
  have hzw2 := B.size
  clear hb
  rw [HF.out]
  simp only [Bool.not_true]
  clear hmf HL
  go_wp2_with fail
  have HG := Lib.hid HE.out.2.2
  go_loopw [10, 11, 12, 13, 14, 31] (fun cl _ _ _ _ x wr => ∃ (j : Nat) (ve : Value), j ≤ L.length ∧ x = .int .i64 j ∧ cl = .int .i64 (firstC L j) ∧ Below w.heap.size w wr ∧ IsE wr w.heap.size gs ve k t (Ro.redOf (L.take j)) ∧ Blk wr (w.heap.size + 1 + 1) #[.int .i64 0, .int .i64 0] 66) (fun _ _ _ _ _ x _ => L.length - (intOf x).toNat)
  case atStart => exact ⟨0, _, by omega, rfl, rfl, B, HE.out, K3.out⟩
  case round =>
    clear B HE K1 K2 K3 hz hzw1 hzw2
    obtain ⟨j, ve, hj, rfl, rfl, B, hE, hK⟩ := hrel
    have HE := Lib.hid hE
    have KV := Lib.hid hK
    clear hE hK
    by_cases hjl : j < L.length
    · obtain ⟨b, off, c', er, hbl⟩ := HL0.out.addr (by omega)
      simp only [Value.slice.injEq] at er
      obtain ⟨rfl, -, rfl⟩ := er
      obtain ⟨x0, y0, hx0, hy0, hxb, hyb⟩ := (HL0.out.go B).cells j hjl
      have HX := Lib.hid (HD.out.at hjl)
      have HRT := Lib.hid (Ro.redOf_take L j hjl)
      have HRR := Lib.hid (redOf_red HD.out j hj).1
      have HRL := Lib.hid (Ro.redOf_length L j hj)
      have HFS := Lib.hid (first_succ L j)
      obtain ⟨E, hE⟩ : ∃ E, E = Ro.redOf (L.take j) := ⟨_, rfl⟩
      obtain ⟨r, hr⟩ : ∃ r, r = rwAt L j := ⟨_, rfl⟩
      rw [← hE] at HE HRT HRR HRL HFS
      rw [← hr] at hxb hyb HX HRT HFS
      have HXB := Lib.hid hxb
      have HYB := Lib.hid hyb
      obtain ⟨xa, xc, rfl, _⟩ := hxb
      obtain ⟨ya, yc, rfl, _⟩ := hyb
      have j1 : (j : Int) < (L.length : Int) := by omega
      have j0 : (0 : Int) ≤ (j : Int) := Int.natCast_nonneg _
      have hge := first_ge L j
      obtain ⟨f, hf⟩ : ∃ f, f = firstC L j := ⟨_, rfl⟩
      rw [← hf] at HFS hge ⊢
      clear hr hbl hE hf
      go_wp2_with fail
      obtain ⟨hb, hk, hs⟩ := blocks1 wr #[.slice xa r.1.length xc, .slice ya r.2.length yc] 46
      generalize wr.alloc (.cells #[.slice xa r.1.length xc, .slice ya r.2.length yc] 46) = W5 at *
      have KX := Lib.hid hk
      replace HE := Lib.hid (HE.out.go hb)
      replace KV := Lib.hid (KV.out.go hb)
      replace HXB := Lib.hid (HXB.out.go hb)
      replace HYB := Lib.hid (HYB.out.go hb)
      replace B := B.trans (hb.mono B.size)
      have hzW5 := B.size
      clear hb hk hs
      clear hx0 hy0
      have HBV := Lib.hid B
      refine (eput_any gs w.heap.size k t ve _ E r W5 HE.out ⟨_, _, rfl, HXB.out, HYB.out⟩ HRR.out HX.out (by omega) (by omega) (by have := HRL.out; omega)).mono ?_
      rintro e w9 ⟨ve9, rfl, q1, q2, q3⟩
      replace B := q2.under HBV.out HBV.out.size HG.out HE.out.2.1.from
      replace KV := Lib.hid (HE.out.keeps q2 KV.out (by decide) (by decide))
      replace HE := Lib.hid q1
      rw [← HRT.out] at HE
      clear q1 q2 q3 HBV KX HXB HYB HRT HRR
      obtain ⟨m, hm⟩ : ∃ m, m = putC E r := ⟨_, rfl⟩
      rw [← hm] at HFS ⊢
      clear hm
      by_cases h2 : m = 2
      · by_cases h3 : f < 0
        · have HF2 := Lib.hid (show firstC L (j + 1) = (j : Int) by rw [HFS.out, if_pos ⟨h2, h3⟩])
          clear HFS
          go_wp2_with fail
          go_roundw
          case rel => exact ⟨j + 1, _, by omega, by go_num, by rw [HF2.out], B, HE.out, KV.out⟩
          case measure => simp [intOf]; omega
        · have HF2 := Lib.hid (show firstC L (j + 1) = f by rw [HFS.out, if_neg fun h => h3 h.2])
          clear HFS
          go_wp2_with fail
          go_roundw
          case rel => exact ⟨j + 1, _, by omega, by go_num, by rw [HF2.out], B, HE.out, KV.out⟩
          case measure => simp [intOf]; omega
      · have HF2 := Lib.hid (show firstC L (j + 1) = f by rw [HFS.out, if_neg fun h => h2 h.1])
        have h4 : (m == (2 : Int)) = false := by rw [beq_eq_false_iff_ne]; exact h2
        clear HFS
        go_wp2_with fail
        go_roundw
        case rel => exact ⟨j + 1, _, by omega, by go_num, by rw [HF2.out], B, HE.out, KV.out⟩
        case measure => simp [intOf]; omega
    · obtain rfl : j = L.length := by omega
      rw [List.take_length] at HE
      obtain ⟨f, hf⟩ : ∃ f, f = firstC L L.length := ⟨_, rfl⟩
      rw [← hf]
      have HFF := Lib.hid hf
      clear hf
      go_wp2_with fail
      refine (erank_any gs w.heap.size k t ve (Ro.redOf L) _ HE.out).mono ?_
      rintro e w' ⟨rfl, rfl⟩
      obtain ⟨kv0, kv1⟩ := KV.out.two
      have kvl := KV.out.lt
      obtain ⟨kvf0, kvf1⟩ := KV.out.fre2
      go_wp2_with fail
      obtain ⟨e0, e1, hB, _⟩ := store2 KV.out (by omega) B (fun n e => by cases e) (fun n e => by cases e) (.int .i64 ((Ro.redOf L).length : Int)) (.int .i64 f)
      exact bodyPost_ret (v := .tuple #[.agg #[.int .i64 ((Ro.redOf L).length : Int), .int .i64 f], .int .i64 0]) (by simp [results, Tryz.results26, go_sem, e0, e1]) rfl ⟨by rw [HFF.out], hB⟩

end Go.Proofs.YtphdadibfeencaaGreat

/-
  Slices of words of 64 bits in memory: what is said of one that is read, and of a block that a call made itself.
-/
set_option maxRecDepth 100000
namespace Go.Proofs.YtphdadibfeencaaGreat
open Go.RowKit

theorem u64_eq {a : Int} {b : Nat} (h : a = b) : Value.int .u64 a = U64 b := by rw [h]

/-- The value is a slice that reads as these words. -/
def Words (w : World) (v : Value) (l : List Nat) : Prop :=
  ∃ a cap, v = .slice a l.length cap ∧ l.length ≤ cap ∧ cap ≤ 9223372036854775807 ∧ (∀ x, x ∈ l → x < 18446744073709551616) ∧
    (l ≠ [] → ∃ b off, a = some ⟨b, off, none⟩ ∧ b < w.heap.size ∧ ∀ i, i < l.length → w.cell? ⟨b, off + i, none⟩ = some (U64 (nth l i)))

theorem Words.lt {w : World} {v : Value} {l : List Nat} (h : Words w v l) : ∀ x, x ∈ l → x < 18446744073709551616 := by
  obtain ⟨a, cap, _, _, _, h, _⟩ := h; exact h

theorem Words.below {w w' : World} {v : Value} {l : List Nat} {B : Nat} (h : Words w v l) (hB : w.heap.size ≤ B) (hb : Below B w w') : Words w' v l := by
  obtain ⟨a, cap, rfl, h1, h2, h3, h4⟩ := h
  refine ⟨a, cap, rfl, h1, h2, h3, fun hne => ?_⟩
  obtain ⟨b, off, rfl, hlt, hc⟩ := h4 hne
  exact ⟨b, off, rfl, Nat.lt_of_lt_of_le hlt hb.size, fun i hi => by rw [hb.cell (p := ⟨b, off + i, none⟩) (by show b < B; omega)]; exact hc i hi⟩

theorem nth_ltW {l : List Nat} (h : ∀ x, x ∈ l → x < 18446744073709551616) (i : Nat) : nth l i < 18446744073709551616 := by
  unfold nth
  rw [List.getD_eq_getElem?_getD]
  by_cases hi : i < l.length
  · rw [List.getElem?_eq_getElem hi]; exact h _ (List.getElem_mem hi)
  · rw [List.getElem?_eq_none (by omega)]; show 0 < 18446744073709551616; decide

theorem Words.cell {w : World} {b off n cap : Nat} {l : List Nat} (h : Words w (.slice (some ⟨b, off, none⟩) n cap) l) (k : Nat) (hk : k < l.length) : w.cell? ⟨b, off + k, none⟩ = some (U64 (nth l k)) := by
  obtain ⟨a, cap', e, _, _, _, h4⟩ := h
  obtain ⟨b', off', rfl, _, hc⟩ := h4 (by intro h; rw [h] at hk; simp at hk)
  simp only [Value.slice.injEq, Option.some.injEq, Addr.mk.injEq] at e
  obtain ⟨⟨rfl, rfl, _⟩, _, _⟩ := e
  exact hc k hk

/-- A block of words. -/
def wordsObj (l : List Nat) : Obj := .cells (l.map U64).toArray 70

/-- Block g holds these words, and isn't frozen. -/
def OwnW (w : World) (g : Nat) (l : List Nat) : Prop := w.heap[g]? = some (wordsObj l)


theorem OwnW.lt {w : World} {g : Nat} {l : List Nat} (h : OwnW w g l) : g < w.heap.size := (Array.getElem?_eq_some_iff.1 h).1

theorem OwnW.cell {w : World} {g : Nat} {l : List Nat} (h : OwnW w g l) (k : Nat) (hk : k < l.length) : w.cell? ⟨g, k, none⟩ = some (U64 (nth l k)) := by
  rw [cell_of_row w g k _ _ (0, 0) h, nth_eq l k hk]; simp [hk]

theorem OwnW.free {w : World} {g : Nat} {l : List Nat} (h : OwnW w g l) (k : Nat) : w.frozen? ⟨g, k, none⟩ = false := frozen_of_row w g k _ _ h

theorem OwnW.below {w w' : World} {g B : Nat} {l : List Nat} (h : OwnW w g l) (hB : g < B) (hb : Below B w w') : OwnW w' g l := by
  unfold OwnW; rw [hb.block g hB]; exact h

theorem OwnW.new (w : World) (l : List Nat) : OwnW (w.alloc (wordsObj l)) w.heap.size l := heap_alloc_new w _

theorem OwnW.set {w : World} {g : Nat} {l : List Nat} (h : OwnW w g l) (k x : Nat) : OwnW (w.setCell ⟨g, k, none⟩ (U64 x)) g (l.set k x) := by
  unfold OwnW World.setCell
  have e : w.heap[g]? = some (.cells (l.map U64).toArray 70) := h
  simp [Array.getElem?_modify, e, wordsObj, List.map_set]

theorem OwnW.words {w : World} {g : Nat} {l : List Nat} (h : OwnW w g l) (hl : ∀ x, x ∈ l → x < 18446744073709551616) (hm : l.length ≤ 9223372036854775807) : Words w (whole g l.length) l :=
  ⟨_, l.length, rfl, Nat.le_refl _, hm, hl, fun _ => ⟨g, 0, rfl, h.lt, fun i hi => by rw [Nat.zero_add]; exact h.cell i hi⟩⟩

/-- What one row's being written leaves of another slice. -/
theorem Words.grown {w w' : World} {v : Value} {l : List Nat} {row : Option Nat} (h : Words w v l) (hg : w.grownBy w' row) (hne : v.ownBlock = none ∨ v.ownBlock ≠ row) : Words w' v l := by
  obtain ⟨a, cap, rfl, h1, h2, h3, h4⟩ := h
  refine ⟨a, cap, rfl, h1, h2, h3, fun hn => ?_⟩
  obtain ⟨b, off, rfl, hlt, hc⟩ := h4 hn
  have hb : some b ≠ row := by simpa [Value.ownBlock] using hne
  exact ⟨b, off, rfl, Nat.lt_of_lt_of_le hlt hg.size, fun i hi => hg.cell (hc i hi) hb⟩

theorem madeZerosW (n : Nat) : madeCells #[Value.int .u64 0] n = ((List.replicate n 0).map U64).toArray := by
  apply Array.ext
  · simp [size_madeCells]
  · intro i h1 h2
    simp [madeCells, Nat.mod_one]

/-- 'make([]byte, n)': noughts, in a new block. -/
theorem make_words (n : Nat) (hn : n ≤ 35184372088832) (w : World) :
    (Instr.makeSlice 38 (.int .i64 (n : Int)) (.int .i64 (n : Int))).run Tryz.prog w = .ok (whole w.heap.size n) (w.alloc (wordsObj (List.replicate n 0))) := by
  have hi : (Tryz.prog.info? 70).map (fun i => (i.zero, i.size, i.bytes)) = some (some (.int .u64 0), 1, 8) := by kernel_rfl
  obtain ⟨i0, hi, hz0, hz1, hz2⟩ := info_parts hi
  have h := run_make (P := Tryz.prog) w 38 70 i0 (.int .u64 0) Tryz.underlying38 hi hz0 .i64 .i64 n n (by omega) (by omega) (by rw [hz2]; omega) (by omega)
  rw [h, hz1]
  simp only [Int.toNat_natCast, Nat.mul_one]
  show _ = Result.ok (whole w.heap.size n) (w.alloc (.cells _ _))
  rw [← madeZerosW]
  rfl

end Go.Proofs.YtphdadibfeencaaGreat

/-
  Whole numbers as bytes, the lowest first (layer 6), in plain numbers.
-/
set_option maxRecDepth 100000
namespace Go.Proofs.YtphdadibfeencaaGreat
open Go.RowKit

namespace Nt
/-- The number that bytes spell, the lowest first. -/
def val : List Nat → Nat
  | [] => 0
  | x :: l => x + 256 * val l
/-- A number's bytes, the lowest first, and no nought at the end. -/
def dg (n : Nat) : List Nat := if h : n = 0 then [] else n % 256 :: dg (n / 256)
termination_by n
decreasing_by omega

theorem dg_zero : dg 0 = [] := by unfold dg; simp
theorem dg_pos {n : Nat} (h : n ≠ 0) : dg n = n % 256 :: dg (n / 256) := by rw [dg, dif_neg h]
theorem dg_step {n x : Nat} (hx : x < 256) (h : n ≠ 0 ∨ x ≠ 0) : dg (x + 256 * n) = x :: dg n := by
  rw [dg_pos (by omega), show (x + 256 * n) % 256 = x from by omega, show (x + 256 * n) / 256 = n from by omega]
theorem dg_nil {n : Nat} (h : dg n = []) : n = 0 := by
  by_cases hn : n = 0
  · exact hn
  · rw [dg_pos hn] at h; exact absurd h (by simp)
theorem val_dg (n : Nat) : val (dg n) = n := by
  induction n using Nat.strongRecOn with
  | ind n ih =>
    by_cases h : n = 0
    · subst h; rw [dg_zero]; rfl
    · rw [dg_pos h]; show n % 256 + 256 * val (dg (n / 256)) = n
      rw [ih (n / 256) (by omega)]; omega
theorem dg_lt (n : Nat) : ∀ x, x ∈ dg n → x < 256 := by
  induction n using Nat.strongRecOn with
  | ind n ih =>
    by_cases h : n = 0
    · subst h; rw [dg_zero]; intro x hx; simp at hx
    · rw [dg_pos h]; intro x hx
      rcases List.mem_cons.1 hx with rfl | hx
      · omega
      · exact ih (n / 256) (by omega) x hx
/-- No nought at the end. -/
def Tidy (l : List Nat) : Prop := l = [] ∨ nth l (l.length - 1) ≠ 0
theorem nth_cons (x : Nat) (l : List Nat) (i : Nat) : nth (x :: l) (i + 1) = nth l i := rfl
theorem dg_val : ∀ {l : List Nat}, (∀ x, x ∈ l → x < 256) → Tidy l → dg (val l) = l
  | [], _, _ => dg_zero
  | x :: l, hl, ht => by
    have hx := hl x (by simp)
    have h1 : nth (x :: l) ((x :: l).length - 1) ≠ 0 := by rcases ht with h | h; exact absurd h (by simp); exact h
    show dg (x + 256 * val l) = x :: l
    cases l with
    | nil => 
      have h2 : x ≠ 0 := h1
      rw [dg_step hx (.inr h2)]; show x :: dg 0 = _; rw [dg_zero]
    | cons y t =>
      have ih := dg_val (l := y :: t) (fun z hz => hl z (by simp_all)) (.inr h1)
      have hv : val (y :: t) ≠ 0 := by intro h; rw [h, dg_zero] at ih; exact absurd ih (by simp)
      rw [dg_step hx (.inl hv), ih]
theorem dg_tidy (n : Nat) : Tidy (dg n) := by
  induction n using Nat.strongRecOn with
  | ind n ih =>
    by_cases h : n = 0
    · subst h; exact .inl dg_zero
    · rw [dg_pos h]
      refine .inr ?_
      rcases ih (n / 256) (by omega) with h1 | h1
      · have := dg_nil h1
        rw [h1]; show n % 256 ≠ 0; omega
      · by_cases h2 : dg (n / 256) = []
        · have := dg_nil h2
          rw [h2]; show n % 256 ≠ 0; omega
        · have : (dg (n / 256)).length ≠ 0 := by simp [h2]
          rw [List.length_cons, show (dg (n / 256)).length + 1 - 1 = ((dg (n / 256)).length - 1) + 1 from by omega, nth_cons]
          exact h1
theorem val_append (a b : List Nat) : val (a ++ b) = val a + 256 ^ a.length * val b := by
  induction a with
  | nil => simp [val]
  | cons x a ih => 
    show x + 256 * val (a ++ b) = x + 256 * val a + 256 ^ (a.length + 1) * val b
    rw [ih, Nat.pow_succ, Nat.mul_add, ← Nat.mul_assoc, Nat.mul_comm (256 ^ _) 256]; omega
theorem val_lt {l : List Nat} (hl : ∀ x, x ∈ l → x < 256) : val l < 256 ^ l.length := by
  induction l with
  | nil => simp [val]
  | cons x l ih =>
    have h1 := hl x (by simp)
    have h2 := ih (fun y hy => hl y (by simp [hy]))
    show x + 256 * val l < 256 ^ (l.length + 1)
    rw [Nat.pow_succ]; omega
theorem val_take_succ (l : List Nat) (k : Nat) (h : k < l.length) : val (l.take (k + 1)) = val (l.take k) + 256 ^ k * nth l k := by
  rw [take_nth l k h, val_append, List.length_take, Nat.min_eq_left (by omega)]
  simp [val]
theorem dg_length_le {n k : Nat} (h : n < 256 ^ k) : (dg n).length ≤ k := by
  induction k generalizing n with
  | zero => 
    have : n = 0 := by simp at h; exact h
    subst this; rw [dg_zero]; simp
  | succ k ih =>
    by_cases hn : n = 0
    · subst hn; rw [dg_zero]; simp
    · rw [dg_pos hn, List.length_cons]
      have := ih (n := n / 256) (by rw [Nat.pow_succ] at h; omega)
      omega
theorem dg_length_iff {n k : Nat} : (dg n).length ≤ k ↔ n < 256 ^ k := by
  refine ⟨fun h => ?_, dg_length_le⟩
  have h1 := val_lt (dg_lt n)
  rw [val_dg] at h1
  exact Nat.lt_of_lt_of_le h1 (Nat.pow_le_pow_right (by decide) h)
/-- The tidy one of these bytes. -/
def tidied (l : List Nat) : List Nat := dg (val l)
theorem tidied_of_take {l : List Nat} (hl : ∀ x, x ∈ l → x < 256) (k : Nat) (hv : val (l.take k) = val l) (ht : k = 0 ∨ nth l (k - 1) ≠ 0) (hk : k ≤ l.length) : l.take k = tidied l := by
  unfold tidied
  rw [← hv]
  refine (dg_val (fun x hx => hl x (List.mem_of_mem_take hx)) ?_).symm
  rcases ht with rfl | ht
  · exact .inl rfl
  · by_cases h0 : k = 0
    · subst h0; exact .inl rfl
    · refine .inr ?_
      rw [List.length_take, Nat.min_eq_left hk]
      unfold nth at ht ⊢
      rw [List.getD_eq_getElem?_getD] at ht ⊢
      rw [List.getElem?_take_of_lt (by omega)]
      exact ht
theorem val_take_drop0 {l : List Nat} (k : Nat) (hk : k < l.length) (h : nth l k = 0) (hv : val (l.take (k + 1)) = val l) : val (l.take k) = val l := by
  rw [← hv, val_take_succ l k hk, h]; omega

/-! ### Two numbers, byte by byte -/

theorem nth_over (l : List Nat) (i : Nat) (h : l.length ≤ i) : nth l i = 0 := by
  unfold nth; rw [List.getD_eq_getElem?_getD, List.getElem?_eq_none h]; rfl
/-- The number of the first k bytes, with noughts where there are none. -/
def low (l : List Nat) (k : Nat) : Nat := val (l.take k)
theorem low_succ (l : List Nat) (k : Nat) : low l (k + 1) = low l k + 256 ^ k * nth l k := by
  unfold low
  by_cases h : k < l.length
  · exact val_take_succ l k h
  · rw [nth_over l k (by omega), List.take_of_length_le (by omega), List.take_of_length_le (by omega)]; omega
theorem low_all {l : List Nat} {k : Nat} (h : l.length ≤ k) : low l k = val l := by
  unfold low; rw [List.take_of_length_le h]
theorem low_zero (l : List Nat) : low l 0 = 0 := rfl
theorem low_lt {l : List Nat} (hl : ∀ x, x ∈ l → x < 256) (k : Nat) : low l k < 256 ^ k := by
  unfold low
  refine Nat.lt_of_lt_of_le (val_lt fun x hx => hl x (List.mem_of_mem_take hx)) (Nat.pow_le_pow_right (by decide) ?_)
  rw [List.length_take]; omega

/-! ### Which is greater -/

/-! ### Products -/

theorem val_set {o : List Nat} : ∀ {j : Nat}, j < o.length → ∀ d, val (o.set j d) + 256 ^ j * nth o j = val o + 256 ^ j * d := by
  induction o with
  | nil => intro j h; simp at h
  | cons x o ih =>
    intro j h d
    cases j with
    | zero => show d + 256 * val o + 256 ^ 0 * x = x + 256 * val o + 256 ^ 0 * d; simp; omega
    | succ j =>
      have := ih (j := j) (by simpa using h) d
      show x + 256 * val (o.set j d) + 256 ^ (j + 1) * nth o j = x + 256 * val o + 256 ^ (j + 1) * d
      rw [Nat.pow_succ, Nat.mul_comm (256 ^ j) 256, Nat.mul_assoc, Nat.mul_assoc]; omega
theorem val_replicate (n : Nat) : val (List.replicate n 0) = 0 := by
  induction n with
  | zero => rfl
  | succ n ih => rw [List.replicate_succ]; show 0 + 256 * val (List.replicate n 0) = 0; rw [ih]
theorem set_lt {o : List Nat} (h : ∀ x, x ∈ o → x < 256) (j : Nat) {d : Nat} (hd : d < 256) : ∀ x, x ∈ o.set j d → x < 256 := by
  intro x hx
  rcases List.mem_or_eq_of_mem_set hx with h1 | h1
  · exact h x h1
  · omega

/-! ### Texts -/

/-- A digit's character. -/
def chr (d : Nat) : Nat := if d < 10 then 48 + d else 87 + d
theorem chr_lt {d : Nat} (h : d < 16) : chr d < 256 := by unfold chr; split <;> omega
/-- The lowest k digits of a number, the highest first. -/
def fullT (N : Nat) : Nat → List Nat
  | 0 => []
  | k + 1 => chr (N / 16 ^ k % 16) :: fullT N k
theorem fullT_lt (N : Nat) : ∀ k, ∀ x, x ∈ fullT N k → x < 256
  | 0 => by intro x hx; simp [fullT] at hx
  | k + 1 => by
    intro x hx
    rcases List.mem_cons.1 hx with rfl | hx
    · exact chr_lt (Nat.mod_lt _ (by decide))
    · exact fullT_lt N k x hx
theorem fullT_length (N : Nat) : ∀ k, (fullT N k).length = k
  | 0 => rfl
  | k + 1 => by rw [fullT, List.length_cons, fullT_length N k]
end Nt

end Go.Proofs.YtphdadibfeencaaGreat

/-
  Whole numbers as words of 64 bits, the lowest first (layer 6), in plain numbers.
-/
set_option maxRecDepth 100000
namespace Go.Proofs.YtphdadibfeencaaGreat
open Go.RowKit

namespace Wt
/-- The number that bytes spell, the lowest first. -/
def val : List Nat → Nat
  | [] => 0
  | x :: l => x + 18446744073709551616 * val l
/-- A number's bytes, the lowest first, and no nought at the end. -/
def dg (n : Nat) : List Nat := if h : n = 0 then [] else n % 18446744073709551616 :: dg (n / 18446744073709551616)
termination_by n
decreasing_by omega

theorem dg_zero : dg 0 = [] := by unfold dg; simp
theorem dg_pos {n : Nat} (h : n ≠ 0) : dg n = n % 18446744073709551616 :: dg (n / 18446744073709551616) := by rw [dg, dif_neg h]
theorem dg_step {n x : Nat} (hx : x < 18446744073709551616) (h : n ≠ 0 ∨ x ≠ 0) : dg (x + 18446744073709551616 * n) = x :: dg n := by
  rw [dg_pos (by omega), show (x + 18446744073709551616 * n) % 18446744073709551616 = x from by omega, show (x + 18446744073709551616 * n) / 18446744073709551616 = n from by omega]
theorem dg_nil {n : Nat} (h : dg n = []) : n = 0 := by
  by_cases hn : n = 0
  · exact hn
  · rw [dg_pos hn] at h; exact absurd h (by simp)
theorem val_dg (n : Nat) : val (dg n) = n := by
  induction n using Nat.strongRecOn with
  | ind n ih =>
    by_cases h : n = 0
    · subst h; rw [dg_zero]; rfl
    · rw [dg_pos h]; show n % 18446744073709551616 + 18446744073709551616 * val (dg (n / 18446744073709551616)) = n
      rw [ih (n / 18446744073709551616) (by omega)]; omega
theorem dg_lt (n : Nat) : ∀ x, x ∈ dg n → x < 18446744073709551616 := by
  induction n using Nat.strongRecOn with
  | ind n ih =>
    by_cases h : n = 0
    · subst h; rw [dg_zero]; intro x hx; simp at hx
    · rw [dg_pos h]; intro x hx
      rcases List.mem_cons.1 hx with rfl | hx
      · omega
      · exact ih (n / 18446744073709551616) (by omega) x hx
/-- No nought at the end. -/
def Tidy (l : List Nat) : Prop := l = [] ∨ nth l (l.length - 1) ≠ 0
theorem nth_cons (x : Nat) (l : List Nat) (i : Nat) : nth (x :: l) (i + 1) = nth l i := rfl
theorem dg_val : ∀ {l : List Nat}, (∀ x, x ∈ l → x < 18446744073709551616) → Tidy l → dg (val l) = l
  | [], _, _ => dg_zero
  | x :: l, hl, ht => by
    have hx := hl x (by simp)
    have h1 : nth (x :: l) ((x :: l).length - 1) ≠ 0 := by rcases ht with h | h; exact absurd h (by simp); exact h
    show dg (x + 18446744073709551616 * val l) = x :: l
    cases l with
    | nil => 
      have h2 : x ≠ 0 := h1
      rw [dg_step hx (.inr h2)]; show x :: dg 0 = _; rw [dg_zero]
    | cons y t =>
      have ih := dg_val (l := y :: t) (fun z hz => hl z (by simp_all)) (.inr h1)
      have hv : val (y :: t) ≠ 0 := by intro h; rw [h, dg_zero] at ih; exact absurd ih (by simp)
      rw [dg_step hx (.inl hv), ih]
theorem dg_tidy (n : Nat) : Tidy (dg n) := by
  induction n using Nat.strongRecOn with
  | ind n ih =>
    by_cases h : n = 0
    · subst h; exact .inl dg_zero
    · rw [dg_pos h]
      refine .inr ?_
      rcases ih (n / 18446744073709551616) (by omega) with h1 | h1
      · have := dg_nil h1
        rw [h1]; show n % 18446744073709551616 ≠ 0; omega
      · by_cases h2 : dg (n / 18446744073709551616) = []
        · have := dg_nil h2
          rw [h2]; show n % 18446744073709551616 ≠ 0; omega
        · have : (dg (n / 18446744073709551616)).length ≠ 0 := by simp [h2]
          rw [List.length_cons, show (dg (n / 18446744073709551616)).length + 1 - 1 = ((dg (n / 18446744073709551616)).length - 1) + 1 from by omega, nth_cons]
          exact h1
theorem val_append (a b : List Nat) : val (a ++ b) = val a + 18446744073709551616 ^ a.length * val b := by
  induction a with
  | nil => simp [val]
  | cons x a ih => 
    show x + 18446744073709551616 * val (a ++ b) = x + 18446744073709551616 * val a + 18446744073709551616 ^ (a.length + 1) * val b
    rw [ih, Nat.pow_succ, Nat.mul_add, ← Nat.mul_assoc, Nat.mul_comm (18446744073709551616 ^ _) 18446744073709551616]; omega
theorem val_lt {l : List Nat} (hl : ∀ x, x ∈ l → x < 18446744073709551616) : val l < 18446744073709551616 ^ l.length := by
  induction l with
  | nil => simp [val]
  | cons x l ih =>
    have h1 := hl x (by simp)
    have h2 := ih (fun y hy => hl y (by simp [hy]))
    show x + 18446744073709551616 * val l < 18446744073709551616 ^ (l.length + 1)
    rw [Nat.pow_succ]; omega
theorem val_take_succ (l : List Nat) (k : Nat) (h : k < l.length) : val (l.take (k + 1)) = val (l.take k) + 18446744073709551616 ^ k * nth l k := by
  rw [take_nth l k h, val_append, List.length_take, Nat.min_eq_left (by omega)]
  simp [val]
theorem dg_length_le {n k : Nat} (h : n < 18446744073709551616 ^ k) : (dg n).length ≤ k := by
  induction k generalizing n with
  | zero => 
    have : n = 0 := by simp at h; exact h
    subst this; rw [dg_zero]; simp
  | succ k ih =>
    by_cases hn : n = 0
    · subst hn; rw [dg_zero]; simp
    · rw [dg_pos hn, List.length_cons]
      have := ih (n := n / 18446744073709551616) (by rw [Nat.pow_succ] at h; omega)
      omega
theorem dg_length_iff {n k : Nat} : (dg n).length ≤ k ↔ n < 18446744073709551616 ^ k := by
  refine ⟨fun h => ?_, dg_length_le⟩
  have h1 := val_lt (dg_lt n)
  rw [val_dg] at h1
  exact Nat.lt_of_lt_of_le h1 (Nat.pow_le_pow_right (by decide) h)
/-- The tidy one of these bytes. -/
def tidied (l : List Nat) : List Nat := dg (val l)
theorem tidied_of_take {l : List Nat} (hl : ∀ x, x ∈ l → x < 18446744073709551616) (k : Nat) (hv : val (l.take k) = val l) (ht : k = 0 ∨ nth l (k - 1) ≠ 0) (hk : k ≤ l.length) : l.take k = tidied l := by
  unfold tidied
  rw [← hv]
  refine (dg_val (fun x hx => hl x (List.mem_of_mem_take hx)) ?_).symm
  rcases ht with rfl | ht
  · exact .inl rfl
  · by_cases h0 : k = 0
    · subst h0; exact .inl rfl
    · refine .inr ?_
      rw [List.length_take, Nat.min_eq_left hk]
      unfold nth at ht ⊢
      rw [List.getD_eq_getElem?_getD] at ht ⊢
      rw [List.getElem?_take_of_lt (by omega)]
      exact ht
theorem val_take_drop0 {l : List Nat} (k : Nat) (hk : k < l.length) (h : nth l k = 0) (hv : val (l.take (k + 1)) = val l) : val (l.take k) = val l := by
  rw [← hv, val_take_succ l k hk, h]; omega

/-! ### Two numbers, byte by byte -/

theorem nth_over (l : List Nat) (i : Nat) (h : l.length ≤ i) : nth l i = 0 := by
  unfold nth; rw [List.getD_eq_getElem?_getD, List.getElem?_eq_none h]; rfl
/-- The number of the first k bytes, with noughts where there are none. -/
def low (l : List Nat) (k : Nat) : Nat := val (l.take k)
theorem low_succ (l : List Nat) (k : Nat) : low l (k + 1) = low l k + 18446744073709551616 ^ k * nth l k := by
  unfold low
  by_cases h : k < l.length
  · exact val_take_succ l k h
  · rw [nth_over l k (by omega), List.take_of_length_le (by omega), List.take_of_length_le (by omega)]; omega
theorem low_all {l : List Nat} {k : Nat} (h : l.length ≤ k) : low l k = val l := by
  unfold low; rw [List.take_of_length_le h]
theorem low_zero (l : List Nat) : low l 0 = 0 := rfl
theorem low_lt {l : List Nat} (hl : ∀ x, x ∈ l → x < 18446744073709551616) (k : Nat) : low l k < 18446744073709551616 ^ k := by
  unfold low
  refine Nat.lt_of_lt_of_le (val_lt fun x hx => hl x (List.mem_of_mem_take hx)) (Nat.pow_le_pow_right (by decide) ?_)
  rw [List.length_take]; omega

/-! ### Which is greater -/

/-! ### Products -/

theorem val_set {o : List Nat} : ∀ {j : Nat}, j < o.length → ∀ d, val (o.set j d) + 18446744073709551616 ^ j * nth o j = val o + 18446744073709551616 ^ j * d := by
  induction o with
  | nil => intro j h; simp at h
  | cons x o ih =>
    intro j h d
    cases j with
    | zero => show d + 18446744073709551616 * val o + 18446744073709551616 ^ 0 * x = x + 18446744073709551616 * val o + 18446744073709551616 ^ 0 * d; simp; omega
    | succ j =>
      have := ih (j := j) (by simpa using h) d
      show x + 18446744073709551616 * val (o.set j d) + 18446744073709551616 ^ (j + 1) * nth o j = x + 18446744073709551616 * val o + 18446744073709551616 ^ (j + 1) * d
      rw [Nat.pow_succ, Nat.mul_comm (18446744073709551616 ^ j) 18446744073709551616, Nat.mul_assoc, Nat.mul_assoc]; omega
theorem val_replicate (n : Nat) : val (List.replicate n 0) = 0 := by
  induction n with
  | zero => rfl
  | succ n ih => rw [List.replicate_succ]; show 0 + 18446744073709551616 * val (List.replicate n 0) = 0; rw [ih]
theorem set_lt {o : List Nat} (h : ∀ x, x ∈ o → x < 18446744073709551616) (j : Nat) {d : Nat} (hd : d < 18446744073709551616) : ∀ x, x ∈ o.set j d → x < 18446744073709551616 := by
  intro x hx
  rcases List.mem_or_eq_of_mem_set hx with h1 | h1
  · exact h x h1
  · omega

end Wt

end Go.Proofs.YtphdadibfeencaaGreat

/-
  Bytes out of a seed (layer 5), in plain numbers.
-/
set_option maxRecDepth 100000
namespace Go.Proofs.YtphdadibfeencaaGreat
open Go.RowKit

namespace Mx
/-- 2 to the 64. -/
def M : Nat := 18446744073709551616
/-- Combined with itself, so many bits to the right. -/
def sh (z k : Nat) : Nat := z ^^^ (z / 2 ^ k)
/-- The state's step. -/
def step (s : Nat) : Nat := (s + 11400714819323198485) % 18446744073709551616
/-- What a state tells. -/
def mixed (z : Nat) : Nat := sh (sh (sh z 30 * 13787848793156543929 % 18446744073709551616) 27 * 10723151780598845931 % 18446744073709551616) 31
/-! ### Unlike states tell unlike numbers -/

end Mx

end Go.Proofs.YtphdadibfeencaaGreat

/-
  The document's answer for bytes out of a seed (wellspringref05), in the program: 'shifted', 'Next', 'Bytes', 'Put'.
-/
set_option maxRecDepth 100000
namespace Go.Proofs.YtphdadibfeencaaGreat
open Go.RowKit

theorem ret_u64 {a : Int} {b : Nat} (h : a = b) : Ending.returned (.int .u64 a) = .returned (U64 b) := by rw [h]

end Go.Proofs.YtphdadibfeencaaGreat

/-
  The document's answer for numbers (wellspringref06), in the program: 'Parse'.
-/
set_option maxRecDepth 100000
namespace Go.Proofs.YtphdadibfeencaaGreat
open Go.RowKit

namespace Nt
/-- Is the character a digit's? -/
def IsHex (c : Nat) : Prop := (48 ≤ c ∧ c ≤ 57) ∨ (97 ≤ c ∧ c ≤ 102)
instance (c : Nat) : Decidable (IsHex c) := by unfold IsHex; infer_instance
/-- A character's digit. -/
def hv (c : Nat) : Nat := if c ≤ 57 then c - 48 else c - 87
/-- The character number j, counted from the end. -/
def ch (t : List Nat) (j : Nat) : Nat := nth t (t.length - 1 - j)
/-- Is it a number's text? -/
def IsText (t : List Nat) : Prop := t ≠ [] ∧ ¬ (1 < t.length ∧ nth t 0 = 48) ∧ ∀ j, j < t.length → IsHex (ch t j)
instance (t : List Nat) : Decidable (IsText t) := by unfold IsText; infer_instance
end Nt

end Go.Proofs.YtphdadibfeencaaGreat

/-
  What the program's numbers (layer 6) call of the language's library: digits looked for, sums with carry, products of words, lengths in bits, comparisons.
-/
set_option maxRecDepth 100000
namespace Go.Proofs.YtphdadibfeencaaGreat
open Go.RowKit

abbrev figures : Value := .string ⟨#[48, 49, 50, 51, 52, 53, 54, 55, 56, 57, 97, 98, 99, 100, 101, 102]⟩

/-- Sums of words, with carry. -/
theorem run_add (x y c : Nat) (hc : c ≤ 1) (w : World) : (callFunc 88 #[U64 x, U64 y, U64 c]).run Tryz.prog w =
    .ok (.value (.tuple #[U64 ((x + y + c) % 18446744073709551616), U64 ((x + y + c) / 18446744073709551616)])) w := by
  rw [run_callFunc_extern Tryz.func88 (by kernel_rfl) (by kernel_rfl) (by kernel_rfl) (e := add64Entry) (by kernel_rfl), run_add64 x y c (by omega) (by omega) (by omega) (by omega)]
  simp only [Result.andThen]
  congr 5 <;> omega
set_option maxHeartbeats 1000000 in
/-- A product of two words, in two. -/
theorem mul64_any (x y : Nat) (w : World) (hx : x < 18446744073709551616) (hy : y < 18446744073709551616) :
    Calls Tryz.prog 87 #[U64 x, U64 y] w fun e w' => e = .returned (.tuple #[U64 (x * y / 18446744073709551616), U64 (x * y % 18446744073709551616)]) ∧ w = w' := by
  obtain ⟨bd, bt, bw, hhi⟩ := Lib.mul64_hi x y hx hy
  have ba := Lib.half_mul_le (a := x / 4294967296) (b := y / 4294967296) (by omega) (by omega)
  have bb := Lib.half_mul_le (a := x / 4294967296) (b := y % 4294967296) (by omega) (by omega)
  have bc := Lib.half_mul_le (a := x % 4294967296) (b := y / 4294967296) (by omega) (by omega)
  have ba' : x / 4294967296 * (y / 4294967296) < 18446744073709551616 := by omega
  have bb' : x / 4294967296 * (y % 4294967296) < 18446744073709551616 := by omega
  have bc' : x % 4294967296 * (y / 4294967296) < 18446744073709551616 := by omega
  have bh1 : x / 4294967296 * (y / 4294967296) + (x / 4294967296 * (y % 4294967296) + x % 4294967296 * (y % 4294967296) / 4294967296) / 4294967296 < 18446744073709551616 := by omega
  have bh : x / 4294967296 * (y / 4294967296) + (x / 4294967296 * (y % 4294967296) + x % 4294967296 * (y % 4294967296) / 4294967296) / 4294967296 + ((x / 4294967296 * (y % 4294967296) + x % 4294967296 * (y % 4294967296) / 4294967296) % 4294967296 + x % 4294967296 * (y / 4294967296)) / 4294967296 < 18446744073709551616 := by omega
  go_enter Tryz.func87, Tryz.ntmps87
  go_wp2
  simp only [Mul64.maskN x hx, Mul64.maskN y hy, Mul64.divN, Mul64.mulN, Mul64.addN, Mul64.wrapN _ bd, Mul64.wrapN _ bb', Mul64.wrapN _ bt, Mul64.maskN _ bt, Mul64.wrapN _ bc', Mul64.wrapN _ bw, Mul64.wrapN _ ba', Mul64.wrapN _ bh1, Mul64.wrapN _ bh, Mul64.wrapM (x * y)]
  rw [hhi]
  go_ret2
  exact ⟨rfl, rfl⟩

theorem tab8_size : Lib.len8tab.size = 256 := by decide
theorem tab8 (y : Int) (h0 : 0 ≤ y) (h1 : y < 256) (h : y.toNat < Lib.len8tab.size) : ((Lib.len8tab[y.toNat]'h).toNat : Int) = Lib.bitLen y.toNat := by
  rw [← Lib.len8_of y h0 (by omega)]
  unfold Lib.len8
  rw [getElem?_pos Lib.len8tab y.toNat h]
  rfl

theorem len_step (x : Int) (h1 : x ≤ 18446744073709551615) (k : Nat) (hk : k ≤ 56) (y : Int) (hlo : 2 ^ k ≤ x.toNat) (hy : y.toNat = x.toNat / 2 ^ k) (hy0 : 0 ≤ y) (hy1 : y < 256) :
    wrap64 ((k : Int) + wrap64 (Lib.bitLen y.toNat : Int)) = (Lib.bitLen x.toNat : Int) := by
  have l := Lib.bitLen_le8' y hy0 (Int.le_of_lt_add_one hy1)
  have hx : x.toNat < 2 ^ 64 := by
    have hx1 : x.toNat ≤ 18446744073709551615 := by clear hlo hy l; omega
    exact Nat.lt_of_le_of_lt hx1 (by decide)
  have s := Lib.bitLen_shift k x.toNat hlo hx
  rw [← hy] at s
  clear hlo hy hx h1
  generalize Lib.bitLen x.toNat = X at *
  generalize Lib.bitLen y.toNat = Y at *
  subst s
  unfold wrap64
  omega
theorem len_last (x : Int) (h0 : 0 ≤ x) (h1 : x < 256) : wrap64 (wrap64 (Lib.bitLen x.toNat : Int)) = (Lib.bitLen x.toNat : Int) := by
  have l := Lib.bitLen_le8' x h0 (by omega)
  unfold wrap64
  omega

theorem tail56 (x : Int) (h0 : 0 ≤ x) (h1 : x ≤ 18446744073709551615) (hlo : 72057594037927936 ≤ x) (hhi : x / 4294967296 / 65536 / 256 < 256) (h : (x / 4294967296 / 65536 / 256).toNat < Lib.len8tab.size) : wrap64 (56 + wrap64 ((Lib.len8tab[(x / 4294967296 / 65536 / 256).toNat]'h).toNat : Int)) = (Lib.bitLen x.toNat : Int) := by
  rw [tab8 (x / 4294967296 / 65536 / 256) (by omega) hhi]
  exact len_step x h1 56 (by decide) (x / 4294967296 / 65536 / 256) (show 72057594037927936 ≤ x.toNat by omega) (show (x / 4294967296 / 65536 / 256).toNat = x.toNat / 72057594037927936 by omega) (by omega) hhi
theorem tail48 (x : Int) (h0 : 0 ≤ x) (h1 : x ≤ 18446744073709551615) (hlo : 281474976710656 ≤ x) (hhi : x / 4294967296 / 65536 < 256) (h : (x / 4294967296 / 65536).toNat < Lib.len8tab.size) : wrap64 (48 + wrap64 ((Lib.len8tab[(x / 4294967296 / 65536).toNat]'h).toNat : Int)) = (Lib.bitLen x.toNat : Int) := by
  rw [tab8 (x / 4294967296 / 65536) (by omega) hhi]
  exact len_step x h1 48 (by decide) (x / 4294967296 / 65536) (show 281474976710656 ≤ x.toNat by omega) (show (x / 4294967296 / 65536).toNat = x.toNat / 281474976710656 by omega) (by omega) hhi
theorem tail40 (x : Int) (h0 : 0 ≤ x) (h1 : x ≤ 18446744073709551615) (hlo : 1099511627776 ≤ x) (hhi : x / 4294967296 / 256 < 256) (h : (x / 4294967296 / 256).toNat < Lib.len8tab.size) : wrap64 (40 + wrap64 ((Lib.len8tab[(x / 4294967296 / 256).toNat]'h).toNat : Int)) = (Lib.bitLen x.toNat : Int) := by
  rw [tab8 (x / 4294967296 / 256) (by omega) hhi]
  exact len_step x h1 40 (by decide) (x / 4294967296 / 256) (show 1099511627776 ≤ x.toNat by omega) (show (x / 4294967296 / 256).toNat = x.toNat / 1099511627776 by omega) (by omega) hhi
theorem tail32 (x : Int) (h0 : 0 ≤ x) (h1 : x ≤ 18446744073709551615) (hlo : 4294967296 ≤ x) (hhi : x / 4294967296 < 256) (h : (x / 4294967296).toNat < Lib.len8tab.size) : wrap64 (32 + wrap64 ((Lib.len8tab[(x / 4294967296).toNat]'h).toNat : Int)) = (Lib.bitLen x.toNat : Int) := by
  rw [tab8 (x / 4294967296) (by omega) hhi]
  exact len_step x h1 32 (by decide) (x / 4294967296) (show 4294967296 ≤ x.toNat by omega) (show (x / 4294967296).toNat = x.toNat / 4294967296 by omega) (by omega) hhi
theorem tail24 (x : Int) (h0 : 0 ≤ x) (h1 : x ≤ 18446744073709551615) (hlo : 16777216 ≤ x) (hhi : x / 65536 / 256 < 256) (h : (x / 65536 / 256).toNat < Lib.len8tab.size) : wrap64 (24 + wrap64 ((Lib.len8tab[(x / 65536 / 256).toNat]'h).toNat : Int)) = (Lib.bitLen x.toNat : Int) := by
  rw [tab8 (x / 65536 / 256) (by omega) hhi]
  exact len_step x h1 24 (by decide) (x / 65536 / 256) (show 16777216 ≤ x.toNat by omega) (show (x / 65536 / 256).toNat = x.toNat / 16777216 by omega) (by omega) hhi
theorem tail16 (x : Int) (h0 : 0 ≤ x) (h1 : x ≤ 18446744073709551615) (hlo : 65536 ≤ x) (hhi : x / 65536 < 256) (h : (x / 65536).toNat < Lib.len8tab.size) : wrap64 (16 + wrap64 ((Lib.len8tab[(x / 65536).toNat]'h).toNat : Int)) = (Lib.bitLen x.toNat : Int) := by
  rw [tab8 (x / 65536) (by omega) hhi]
  exact len_step x h1 16 (by decide) (x / 65536) (show 65536 ≤ x.toNat by omega) (show (x / 65536).toNat = x.toNat / 65536 by omega) (by omega) hhi
theorem tail8 (x : Int) (h0 : 0 ≤ x) (h1 : x ≤ 18446744073709551615) (hlo : 256 ≤ x) (hhi : x / 256 < 256) (h : (x / 256).toNat < Lib.len8tab.size) : wrap64 (8 + wrap64 ((Lib.len8tab[(x / 256).toNat]'h).toNat : Int)) = (Lib.bitLen x.toNat : Int) := by
  rw [tab8 (x / 256) (by omega) hhi]
  exact len_step x h1 8 (by decide) (x / 256) (show 256 ≤ x.toNat by omega) (show (x / 256).toNat = x.toNat / 256 by omega) (by omega) hhi

set_option maxHeartbeats 4000000 in
/-- How many bits a word needs. -/
theorem len64_any (x : Int) (w : World) (h0 : 0 ≤ x) (h1 : x ≤ 18446744073709551615) :
    Calls Tryz.prog 54 #[.int .u64 x] w fun e w' => e = .returned (.int .i64 (Lib.bitLen x.toNat)) ∧ w = w' := by
  have hs := tab8_size
  go_enter Tryz.func54, Tryz.ntmps54
  go_wp2
  all_goals first
    | (exfalso; omega)
    | (go_ret; refine ⟨congrArg Ending.returned (congrArg (Value.int IntKind.i64) ?_), rfl⟩)
  · exact tail56 x h0 h1 (by omega) (by omega) _
  · exact tail48 x h0 h1 (by omega) (by omega) _
  · exact tail40 x h0 h1 (by omega) (by omega) _
  · exact tail32 x h0 h1 (by omega) (by omega) _
  · exact tail24 x h0 h1 (by omega) (by omega) _
  · exact tail16 x h0 h1 (by omega) (by omega) _
  · exact tail8 x h0 h1 (by omega) (by omega) _
  · rw [tab8 x h0 (by omega)]; exact len_last x h0 (by omega)

theorem ret_i64 {a b : Int} (h : a = b) : Ending.returned (.int .i64 a) = .returned (.int .i64 b) := by rw [h]

end Go.Proofs.YtphdadibfeencaaGreat
