/- Texts of one seat, laid together: RefGridC, RowsM, MonoZ, Linear, VecMath, RefElim. -/
import Derived.Test.YtohfcdgpllghbaaQ12
import Derived.Test.YtohfcdgpllghbaaQ10
import Derived.Test.YtohfcdgpllghbaaQ2
import Derived.Test.YtohfcdgpllghbaaQ11
import Derived.Test.YtohfcdgpllghbaaQ4
import Derived.Test.YtohfcdgpllghbaaQ5
import Derived.Test.YtohfcdgpllghbaaQ8

/-
  The document's answer for grids (wellspringref07), in the program: 'Rank', 'Turned', 'Mul', 'Of', 'Same'.
-/
set_option maxRecDepth 100000
namespace Go.Proofs.Ytohfcdgpllghbaa
open Go.RowKit

namespace Ro
/-- Rows without data. -/
def bare (ll : List (List Nat)) : List Rw := ll.map fun l => (l, [])
theorem put_mem {L : List Rw} {y r : Rw} (h : r ∈ put L y) : r ∈ L ∨ r = y := by
  unfold put at h
  rw [List.mem_append, List.mem_cons] at h
  rcases h with h | rfl | h
  · exact .inl (List.mem_of_mem_take h)
  · exact .inr rfl
  · exact .inl (List.mem_of_mem_drop h)
theorem insert_ok {k t : Nat} {L : List Rw} {x : Rw} (hD : Dims k t L) (hE : Leads L) (hx : Dim k t x) : Dims k t (insert L x) ∧ Leads (insert L x) := by
  have hy := norm_dim (rest_dim hD hx)
  unfold insert
  split
  · rename_i hl
    exact ⟨fun r hr => by
      rcases put_mem hr with h | rfl
      · exact hD r h
      · exact hy, fun r hr => by
      rcases put_mem hr with h | rfl
      · exact hE r h
      · exact hl⟩
  · exact ⟨hD, hE⟩
theorem put_length (L : List Rw) (y : Rw) : (put L y).length = L.length + 1 := by
  unfold put
  have := ahead_le L y
  simp; omega
theorem insert_length (L : List Rw) (x : Rw) : (insert L x).length ≤ L.length + 1 := by
  unfold insert; split
  · rw [put_length]; omega
  · omega
theorem all_take_succ (L : List Rw) (k : Nat) (h : k < L.length) : all (L.take (k + 1)) = insert (all (L.take k)) (rwAt L k) := by
  unfold all
  rw [take_rwAt L k h, List.foldl_append]; rfl
theorem all_ok {k t : Nat} {L : List Rw} (hD : Dims k t L) : ∀ n, n ≤ L.length → Dims k t (all (L.take n)) ∧ Leads (all (L.take n)) ∧ (all (L.take n)).length ≤ n
  | 0, _ => ⟨fun r h => (by cases h), fun r h => (by cases h), Nat.le_refl _⟩
  | n + 1, hn => by
    obtain ⟨h1, h2, h3⟩ := all_ok hD n (by omega)
    rw [all_take_succ L n (by omega)]
    obtain ⟨g1, g2⟩ := insert_ok h1 h2 (hD.at (show n < L.length by omega))
    exact ⟨g1, g2, Nat.le_trans (insert_length _ _) (by omega)⟩
theorem bare_length (ll : List (List Nat)) : (bare ll).length = ll.length := by simp [bare]
theorem bare_at (ll : List (List Nat)) (i : Nat) (h : i < ll.length) : rwAt (bare ll) i = (rowAt ll i, []) := by
  rw [rwAt_eq _ _ (by rw [bare_length]; exact h), rowAt_eq ll i h]; simp [bare]
end Ro

set_option maxHeartbeats 1000000 in
theorem refrank7_some (b off cap k : Nat) (ll : List (List Nat)) (w : World) (hR : IsRows w (.slice (some ⟨b, off, none⟩) ll.length cap) ll) (hD : Ro.Dims k 0 (Ro.bare ll)) (hk : k ≤ 10000000) (hlen : ll.length ≤ 1000000) :
    Calls Try.prog 20 #[.slice (some ⟨b, off, none⟩) ll.length cap] w fun e w' => e = .returned (.int .i64 ((Ro.all (Ro.bare ll)).length : Int)) ∧ Below w.heap.size w w' := by
  have hcap : ll.length ≤ 9223372036854775807 := by omega
  have HR := Lib.hid hR
  have HD := Lib.hid hD
  clear hR hD
  go_enter Try.func20, Try.ntmps20
  go_wp2_with fail
  go_loopw [3, 5, 8] (fun v _ i wr => ∃ n : Nat, n ≤ ll.length ∧ i = .int .i64 n ∧ OwnL0 wr w.heap.size v (Ro.all ((Ro.bare ll).take n)) ∧ Below w.heap.size w wr) (fun _ _ i _ => ll.length - (intOf i).toNat)
  case atStart => exact ⟨0, by omega, rfl, OwnL0.nil _ _, Below.refl _ _⟩
  case round =>
    obtain ⟨n, hn, rfl, hO, B⟩ := hrel
    have HO := Lib.hid hO
    obtain ⟨va, vc, rfl⟩ := hO.1.shape
    clear hO
    by_cases hlt : n < ll.length
    · obtain ⟨u, hu, hB1⟩ := HR.out.at B n hlt
      have HB1 := Lib.hid (hB1.go B)
      obtain ⟨ua, uc, rfl, _⟩ := hB1
      have hz := B.size
      have HAT := Lib.hid (Ro.bare_at ll n hlt)
      have hbl : n < (Ro.bare ll).length := by rw [Ro.bare_length]; exact hlt
      have HOK := Lib.hid (Ro.all_ok HD.out n (by omega))
      have HST := Lib.hid (Ro.all_take_succ (Ro.bare ll) n hbl)
      have HDN := Lib.hid (show Ro.Dim k 0 (rowAt ll n, []) by rw [← HAT.out]; exact HD.out.at hbl)
      rw [HAT.out] at HST
      go_wp2_with fail
      refine (refinsert7_own _ _ _ w.heap.size k 0 (rowAt ll n, []) _ HO.out hz ⟨_, _, rfl, HB1.out, Bytes.nil _⟩ HOK.out.1 HOK.out.2.1 HDN.out hk (by omega) (by have := HOK.out.2.2; omega)).mono ?_
      rintro e w2 ⟨v2, rfl, hO2, hb⟩
      replace B := B.trans (hb.mono B.size)
      have hzw2 := B.size
      clear hb
      rw [← HST.out] at hO2
      have HO2 := Lib.hid hO2
      clear hO2
      go_wp2_with fail
      go_roundw
      case rel => exact ⟨n + 1, by omega, by go_num, HO2.out, B⟩
      case measure => simp [intOf]; omega
    · obtain rfl : n = ll.length := by omega
      have HL := Lib.hid (show (Ro.bare ll).take ll.length = Ro.bare ll by rw [List.take_of_length_le (by rw [Ro.bare_length]; omega)])
      rw [HL.out] at HO
      go_wp2_with fail
      go_ret
      exact ⟨by rw [HL.out]; rfl, B⟩

set_option maxHeartbeats 400000 in
theorem refrank7_empty (a : Option Addr) (cap : Nat) (w : World) :
    Calls Try.prog 20 #[.slice a 0 cap] w fun e w' => e = .returned (.int .i64 0) ∧ Below w.heap.size w w' := by
  go_enter Try.func20, Try.ntmps20
  go_wp2_with fail
  refine wp_loop_rounds 1 ?_
  rw [rounds_succ]
  go_wp2_with fail
  go_ret
  exact ⟨rfl, Below.refl _ _⟩

theorem refrank7_any (v : Value) (k : Nat) (ll : List (List Nat)) (w : World) (hR : IsRows w v ll) (hD : Ro.Dims k 0 (Ro.bare ll)) (hk : k ≤ 10000000) (hlen : ll.length ≤ 1000000) :
    Calls Try.prog 20 #[v] w fun e w' => e = .returned (.int .i64 ((Ro.all (Ro.bare ll)).length : Int)) ∧ Below w.heap.size w w' := by
  have hR0 := hR
  obtain ⟨a, cap, rfl, _, _, h4⟩ := hR
  cases ll with
  | nil => exact refrank7_empty a cap w
  | cons x ll =>
    obtain ⟨b, off, rfl, _⟩ := h4 (by simp)
    exact refrank7_some b off cap k _ w hR0 hD hk hlen

end Go.Proofs.Ytohfcdgpllghbaa

/-
  Lists of slices of bytes that a call makes and appends to.
-/
set_option maxRecDepth 100000
namespace Go.Proofs.Ytohfcdgpllghbaa
open Go.RowKit

/-- Each value reads as its row. -/
structure EachB (w : World) (us : List Value) (ll : List (List Nat)) : Prop where
  len : us.length = ll.length
  row : ∀ i u, us[i]? = some u → Bytes w u (rowAt ll i)
theorem EachB.nil (w : World) : EachB w [] [] := ⟨rfl, fun i u h => by simp at h⟩
theorem EachB.soft {w w' : World} {us : List Value} {ll : List (List Nat)} (h : EachB w us ll) (hs : Soft w w') : EachB w' us ll := ⟨h.len, fun i u hu => (h.row i u hu).soft hs⟩
theorem EachB.append {w : World} {us vs : List Value} {L M : List (List Nat)} (h : EachB w us L) (k : EachB w vs M) : EachB w (us ++ vs) (L ++ M) := by
  refine ⟨by simp [h.len, k.len], fun i u hu => ?_⟩
  by_cases hi : i < us.length
  · rw [List.getElem?_append_left hi] at hu
    have := h.row i u hu
    rw [show rowAt (L ++ M) i = rowAt L i from by unfold rowAt; rw [List.getD_eq_getElem?_getD, List.getElem?_append_left (by rw [← h.len]; exact hi), ← List.getD_eq_getElem?_getD]]
    exact this
  · rw [List.getElem?_append_right (by omega)] at hu
    have := k.row _ u hu
    rw [show rowAt (L ++ M) i = rowAt M (i - us.length) from by unfold rowAt; rw [List.getD_eq_getElem?_getD, List.getElem?_append_right (by rw [← h.len]; omega), ← List.getD_eq_getElem?_getD, h.len]]
    exact this
theorem EachB.one {w : World} {u : Value} {l : List Nat} (h : Bytes w u l) : EachB w [u] [l] := ⟨rfl, fun i v hv => by
  cases i with
  | zero => simp at hv; subst hv; exact h
  | succ i => simp at hv⟩
theorem EachB.noU8 {w : World} {us : List Value} {ll : List (List Nat)} (h : EachB w us ll) : ∀ x ∈ us, (∀ k : Nat, x ≠ U8 k) ∧ x.oneCell' = true := by
  intro x hx
  obtain ⟨i, hi⟩ := List.mem_iff_getElem?.1 hx
  obtain ⟨a, c, rfl, _⟩ := h.row i x hi
  exact ⟨slice_ne _ _ _, rfl⟩

/-- The value is a list of slices of bytes whose block, from B on, the call made itself, or none yet. -/
def OwnM (w : World) (B : Nat) (T : TypeId) (v : Value) (ll : List (List Nat)) : Prop := ∃ us, OwnN w B T 1 v ll.length us ∧ EachB w us ll

theorem OwnM.nil (w : World) (B : Nat) (T : TypeId) : OwnM w B T (.slice none 0 0) [] := ⟨[], OwnN.nil _ _ _ _, EachB.nil _⟩
theorem OwnM.mono {w : World} {B C : Nat} {T : TypeId} {v : Value} {L : List (List Nat)} (h : OwnM w B T v L) (hC : C ≤ B) : OwnM w C T v L := by
  obtain ⟨us, h1, h2⟩ := h; exact ⟨us, h1.mono hC, h2⟩
theorem OwnM.go {w w' : World} {B : Nat} {T : TypeId} {v : Value} {L : List (List Nat)} (h : OwnM w B T v L) (hb : Below w.heap.size w w') : OwnM w' B T v L := by
  obtain ⟨us, h1, h2⟩ := h; exact ⟨us, h1.go hb, h2.soft (Soft.of_below hb)⟩
theorem OwnM.from {w : World} {B : Nat} {T : TypeId} {v : Value} {L : List (List Nat)} (h : OwnM w B T v L) : ∀ k, v.ownBlock = some k → B ≤ k := by obtain ⟨us, h1, _⟩ := h; exact h1.from
theorem OwnM.lt {w : World} {B : Nat} {T : TypeId} {v : Value} {L : List (List Nat)} (h : OwnM w B T v L) : ∀ k, v.ownBlock = some k → k < w.heap.size := by obtain ⟨us, h1, _⟩ := h; exact fun k hk => (World.ownsRow.lt h1.1 k hk).2
theorem OwnM.loose {w : World} {B : Nat} {T : TypeId} {v : Value} {L : List (List Nat)} (h : OwnM w B T v L) : ∀ k, v.ownBlock = some k → Loose w k := by obtain ⟨us, h1, _⟩ := h; exact h1.2
/-- A block that isn't its own was written, and no byte but there. -/
theorem OwnM.other {w w' : World} {B : Nat} {T : TypeId} {v : Value} {L : List (List Nat)} {row : Option Nat} (h : OwnM w B T v L) (hg : w.grownBy w' row) (hs : Soft w w') (hne : v.ownBlock = none ∨ v.ownBlock ≠ row) : OwnM w' B T v L := by
  obtain ⟨us, h1, h2⟩ := h
  exact ⟨us, h1.keep hg hne, h2.soft hs⟩
theorem OwnM.shape {w : World} {B : Nat} {T : TypeId} {v : Value} {L : List (List Nat)} (h : OwnM w B T v L) : ∃ a c, v = .slice a L.length c := by
  obtain ⟨us, ⟨⟨_, h1⟩, _⟩, _⟩ := h
  rcases h1 with ⟨rfl, h0⟩ | ⟨g, cap, cur, rfl, _⟩
  · rw [h0]; exact ⟨_, _, rfl⟩
  · exact ⟨_, _, rfl⟩
theorem rows_add (b o j : Nat) : (⟨b, o, none⟩ : Addr).add j = ⟨b, o + j, none⟩ := by unfold Addr.add; split <;> simp_all
theorem OwnM.rows {w : World} {B : Nat} {T : TypeId} {v : Value} {L : List (List Nat)} (h : OwnM w B T v L) : IsRows w v L := by
  obtain ⟨us, ⟨h1, _⟩, h2⟩ := h
  have h1' := h1
  rcases h1.2 with ⟨rfl, h0⟩ | ⟨g, cap, cur, rfl, hB, hg, hn, hc, hsz, ht⟩
  · have e : L = [] := List.length_eq_zero_iff.1 h0
    subst e
    exact ⟨none, 0, rfl, by simp, by omega, fun h => absurd rfl h⟩
  · refine ⟨_, cap, rfl, hn, by simpa [maxLen] using hc, fun _ => ⟨g, 0, rfl, (Array.getElem?_eq_some_iff.1 hg).1, fun i hi => ?_⟩⟩
    have hi' : i < us.length := by rw [h2.len]; exact hi
    have c1 := World.ownsRow.cells h1' (g := g) rfl _ _ (List.getElem?_eq_getElem hi')
    rw [rows_add] at c1
    exact ⟨us[i], c1, h2.row i us[i] (List.getElem?_eq_getElem hi')⟩

/-- 'out = append(out, u)', of one slice of bytes. -/
theorem wpList_append_m {ops : Array Oper} {rest : List Oper} {o : Oper} {a : Act} {Q : Exit → Act → World → Prop} {w : World} (hgd : o.guard = none) (s x : Operand) (ho : o.op = .call { callee := .builtin .append, args := #[s, x], argTypes := #[22, 22] })
    (B k : Nat) (v u : Value) (ll : List (List Nat)) (l : List Nat) (T : TypeId) (hs : a.eval s = v) (hx : a.eval x = .slice (some ⟨k, 0, none⟩) 1 1) (hk : k = w.heap.size) (hu : Bytes w u l) (hown : OwnM w B 35 v ll) (hB : B ≤ w.heap.size) (hn : ll.length + 1 ≤ 1000000000000)
    (h : ∀ v' w', OwnM w' B 35 v' (ll ++ [l]) → (w.alloc (.cells #[u] T)).grownBy w' v.ownBlock → Soft (w.alloc (.cells #[u] T)) w' → wpList Try.prog ops Q rest (a.put o.dst v') w') :
    wpList Try.prog ops Q (o :: rest) a (w.alloc (.cells #[u] T)) := by
  subst hk
  obtain ⟨i0, hi, hz0, hz1, hz2⟩ := info_parts infoRow
  have hb : Below w.heap.size w (w.alloc (.cells #[u] T)) := (Below.refl _ _).alloc (Nat.le_refl _) _
  obtain ⟨us, h1, h2⟩ := hown
  have hE := (EachB.one hu).soft (Soft.of_below hb)
  refine wpList_append_soft hgd s x 22 ho B 35 i0 (.slice none 0 0) 1 24 Try.underlying22 hi hz0 hz1 hz2 rfl (by decide) v ll.length us hs (h1.go hb)
    ⟨w.heap.size, 0, none⟩ 1 1 [u] hx rfl ?_ (fun y hy => (hE.noU8 y hy).2) (fun y hy => by simp [Value.cells] at hy; subst hy; exact slice_ne _ _ _) (fun y hy => (hE.noU8 y hy).1) ?_ ?_ (Nat.le_trans hB (by simp)) ?_
  · intro j y hj
    match j, hj with
    | 0, hj => simp at hj; subst hj; simp [Addr.add]
  · unfold maxLen; omega
  · omega
  · intro v' w' k1 k2 k3
    refine h v' w' ⟨us ++ [u], ?_, ?_⟩ k2 k3
    · rw [List.length_append]; exact k1
    · exact ((h2.soft (Soft.of_below hb)).append hE).soft k3

end Go.Proofs.Ytohfcdgpllghbaa

/-
  A region that draws its order and makes memory, but writes nothing that was there.
-/
set_option maxRecDepth 100000
namespace Go.Proofs.Ytohfcdgpllghbaa
open Go.RowKit

/-- No step writes. -/
def Hz : Nat → World → World → Prop := fun _ _ _ => False
theorem hCH_z (W : World) : ∀ (c : Nat) w w', Cb W w → Hz c w w' → Cb W w' := fun _ _ _ _ h => h.elim
section
variable {W : World}
/-- Of one temporary, kept where nothing turns. -/
def TyZ.fact (t : Tmp) (F : Value → World → Prop) (h : ∀ v w w', Below w.heap.size w w' → F v w → F v w') : Ty (Cb W) Rb Hz :=
  Ty.one t F (fun v w w' _ hR hF => h v w w' hR hF) (fun _ _ _ _ _ hH _ => hH.elim)
def TyZ.val (t : Tmp) (v : Value) : Ty (Cb W) Rb Hz := Ty.val t v
def TyZ.any : Ty (Cb W) Rb Hz := Ty.any
def TyZ.bytes (t : Tmp) (l : List Nat) : Ty (Cb W) Rb Hz := TyZ.fact t (fun v w => Bytes w v l) fun _ _ _ hb h => h.go hb
def TyZ.bytesE (t : Tmp) (l : List Nat) (n : Int) : Ty (Cb W) Rb Hz := TyZ.fact t (fun v w => ∃ u, v = .tuple #[u, .int .i64 n] ∧ Bytes w u l) fun _ _ _ hb ⟨u, e, h⟩ => ⟨u, e, h.go hb⟩
def TyZ.row (t : Tmp) (p q : List Nat) : Ty (Cb W) Rb Hz := TyZ.fact t (fun v w => IsRow w v p q) fun _ _ _ hb h => h.go hb
def TyZ.rowE (t : Tmp) (p q : List Nat) (n : Int) : Ty (Cb W) Rb Hz := TyZ.fact t (fun v w => ∃ u, v = .tuple #[u, .int .i64 n] ∧ IsRow w u p q) fun _ _ _ hb ⟨u, e, h⟩ => ⟨u, e, h.go hb⟩
def TyZ.rows (t : Tmp) (ll : List (List Nat)) : Ty (Cb W) Rb Hz := TyZ.fact t (fun v w => IsRows w v ll) fun _ _ _ hb h => h.below (Nat.le_refl _) hb
def TyZ.rowsE (t : Tmp) (ll : List (List Nat)) (n : Int) : Ty (Cb W) Rb Hz := TyZ.fact t (fun v w => ∃ u, v = .tuple #[u, .int .i64 n] ∧ IsRows w u ll) fun _ _ _ hb ⟨u, e, h⟩ => ⟨u, e, h.below (Nat.le_refl _) hb⟩
def TyZ.rl (t : Tmp) (L : List Rw) : Ty (Cb W) Rb Hz := TyZ.fact t (fun v w => IsRL w v L) fun _ _ _ hb h => h.go hb
def TyZ.ownm (t : Tmp) (B : Nat) (T : TypeId) (ll : List (List Nat)) : Ty (Cb W) Rb Hz := TyZ.fact t (fun v w => OwnM w B T v ll) fun _ _ _ hb h => h.go hb
end

theorem add_one {x y : Operand} {a c : Int} (h : IntKind.i64.wrap (a + 1) = c) (w : World) : (do eqGuard .add 3 x y (.int .i64 a) (.int .i64 1); binOp .add 3 (.int .i64 a) (.int .i64 1) : Sem Value).run Try.prog w = .ok (.int .i64 c) w := by
  subst h; go_simp
/-- The first m of a list of rows. -/
theorem slice_to {a : Option Addr} {n c m : Nat} (w : World) (h : (m : Int) ≤ (c : Int)) : (Instr.sliceAt 55 (.slice a n c) none (some (.int .i64 (m : Int))) none).run Try.prog w = .ok (.slice a m c) w := by
  have h0 : (0 : Int) ≤ (m : Int) := Int.natCast_nonneg _
  cases a <;> go_simp

end Go.Proofs.Ytohfcdgpllghbaa

/-
  Combinations are linear (P2.3), in plain numbers.
-/
set_option maxRecDepth 100000
namespace Go.Proofs.Ytohfcdgpllghbaa
open Go.RowKit

theorem add_zeros (x : List Nat) : Gf.add (zeros x.length) x = x := by
  refine ext_nth (by rw [Gf.add_length _ _ (by rw [zeros_length]), zeros_length]) fun j hj => ?_
  rw [Gf.add_length _ _ (by rw [zeros_length]), zeros_length] at hj
  rw [nth_add _ _ _ (by rw [zeros_length]; exact hj) hj, nth_eq (zeros _) j (by rw [zeros_length]; exact hj)]
  simp [zeros]

theorem sum2_L {x y : List Nat} (h : x.length = y.length) : sumL [x, y] = Gf.add x y := by
  unfold sumL
  rw [if_pos ⟨by simp [alikeB, rowAt, h], by simp⟩]
  show Gf.add (Gf.add (zeros x.length) x) y = _
  rw [add_zeros]
theorem sum2_E {x y : List Nat} (h : x.length = y.length) : sumE [x, y] = 0 := by
  unfold sumE
  rw [if_pos (by simp [alikeB, rowAt, h])]

theorem combAt_add {a b : List Nat} (ll : List (List Nat)) (i : Nat) (hab : a.length = b.length) (ha : ∀ x, x ∈ a → x < 256) (hb : ∀ x, x ∈ b → x < 256) : ∀ k, k ≤ a.length → combAt (Gf.add a b) ll i k = combAt a ll i k ^^^ combAt b ll i k
  | 0, _ => (Nat.xor_self 0).symm
  | k + 1, hk => by
    show combAt (Gf.add a b) ll i k ^^^ Gf.mul (nth (Gf.add a b) k) (nth (rowAt ll k) i) = _
    rw [combAt_add ll i hab ha hb k (by omega), nth_add a b k (by omega) (by omega), Gf.mul_xor_left (nth_lt ha k) (nth_lt hb k), Gf.xor_four]
    rfl

theorem combAt_scale {a : List Nat} {c : Nat} (ll : List (List Nat)) (i : Nat) (hc : c < 256) (ha : ∀ x, x ∈ a → x < 256) : ∀ k, k ≤ a.length → combAt (Gf.scale c a) ll i k = Gf.mul c (combAt a ll i k)
  | 0, _ => (Gf.mul_zero c).symm
  | k + 1, hk => by
    show combAt (Gf.scale c a) ll i k ^^^ Gf.mul (nth (Gf.scale c a) k) (nth (rowAt ll k) i) = Gf.mul c (combAt a ll i k ^^^ Gf.mul (nth a k) (nth (rowAt ll k) i))
    rw [combAt_scale ll i hc ha k (by omega), nth_scale c a k (by omega), Gf.mul_xor_right, Gf.mul_assoc hc (nth_lt ha k)]

theorem nth_combT (cs : List Nat) (ll : List (List Nat)) (m j : Nat) (h : j < m) : nth (combT cs ll m) j = combAt cs ll j ll.length := by
  rw [nth_eq _ _ (by rw [combT_length]; exact h)]; simp [combT]

theorem combL_of {cs : List Nat} {ll : List (List Nat)} (hl : cs.length = ll.length) (hA : alikeB ll = true) (hn : 1 ≤ ll.length) : combL cs ll = combT cs ll (rowAt ll 0).length := by
  rw [combL_eq, if_pos ⟨hl, hA, by intro h; rw [h] at hn; simp at hn⟩]
theorem combE_of {cs : List Nat} {ll : List (List Nat)} (hl : cs.length = ll.length) (hA : alikeB ll = true) : combE cs ll = 0 := if_pos ⟨hl, hA⟩

theorem linear_add {a b : List Nat} {ll : List (List Nat)} (ha : ∀ x, x ∈ a → x < 256) (hb : ∀ x, x ∈ b → x < 256) (hla : a.length = ll.length) (hlb : b.length = ll.length) (hA : alikeB ll = true) (hn : 1 ≤ ll.length) :
    combL (Gf.add a b) ll = Gf.add (combL a ll) (combL b ll) := by
  have hab : a.length = b.length := by omega
  rw [combL_of hla hA hn, combL_of hlb hA hn, combL_of (by rw [Gf.add_length _ _ hab, hla]) hA hn]
  have hs : (Gf.add (combT a ll (rowAt ll 0).length) (combT b ll (rowAt ll 0).length)).length = (rowAt ll 0).length := by rw [Gf.add_length _ _ (by rw [combT_length, combT_length]), combT_length]
  refine ext_nth (by rw [combT_length, hs]) fun j hj => ?_
  rw [combT_length] at hj
  rw [nth_combT _ _ _ _ hj, nth_add _ _ _ (by rw [combT_length]; exact hj) (by rw [combT_length]; exact hj), nth_combT _ _ _ _ hj, nth_combT _ _ _ _ hj, combAt_add ll j hab ha hb _ (by omega)]

theorem linear_scale {a : List Nat} {c : Nat} {ll : List (List Nat)} (hc : c < 256) (ha : ∀ x, x ∈ a → x < 256) (hla : a.length = ll.length) (hA : alikeB ll = true) (hn : 1 ≤ ll.length) :
    combL (Gf.scale c a) ll = Gf.scale c (combL a ll) := by
  rw [combL_of hla hA hn, combL_of (by rw [Gf.scale_length, hla]) hA hn]
  refine ext_nth (by rw [combT_length, Gf.scale_length, combT_length]) fun j hj => ?_
  rw [combT_length] at hj
  rw [nth_combT _ _ _ _ hj, nth_scale _ _ _ (by rw [combT_length]; exact hj), nth_combT _ _ _ _ hj, combAt_scale ll j hc ha _ (by omega)]

theorem scale_back {c : Nat} {x : List Nat} (hc : c < 256) (h0 : c ≠ 0) (hx : ∀ y, y ∈ x → y < 256) : Gf.scale (Gf.inv c) (Gf.scale c x) = x := by
  refine ext_nth (by rw [Gf.scale_length, Gf.scale_length]) fun j hj => ?_
  rw [Gf.scale_length, Gf.scale_length] at hj
  rw [nth_scale _ _ _ (by rw [Gf.scale_length]; exact hj), nth_scale _ _ _ hj, ← Gf.mul_assoc (Gf.inv_lt c) hc, Gf.inv_mul hc h0, Gf.one_mul (nth_lt hx j)]

end Go.Proofs.Ytohfcdgpllghbaa

/-
  Rows that lead (layer 3), in plain lists.
-/
set_option maxRecDepth 100000
namespace Go.Proofs.Ytohfcdgpllghbaa
open Go.RowKit

theorem lead_scale {c : Nat} {p : List Nat} (hc : c < 256) (h0 : c ≠ 0) (hp : ∀ x, x ∈ p → x < 256) : lead (Gf.scale c p) = lead p := by
  by_cases hl : lead p < p.length
  · refine lead_eq (fun j hj => ?_) (by rw [Gf.scale_length]; exact hl) ?_
    · rw [nth_scale c p j (by omega), lead_zero p j hj, Gf.mul_zero]
    · rw [nth_scale c p _ hl]
      exact Gf.mul_ne hc (nth_lt hp _) h0 (lead_ne p hl)
  · have e : lead p = p.length := by have := lead_le p; omega
    rw [e, ← Gf.scale_length c p]
    refine lead_none fun j hj => ?_
    rw [Gf.scale_length] at hj
    rw [nth_scale c p j hj, lead_zero p j (by omega), Gf.mul_zero]

theorem leadI_scale {c : Nat} {p : List Nat} (hc : c < 256) (h0 : c ≠ 0) (hp : ∀ x, x ∈ p → x < 256) : leadI (Gf.scale c p) = leadI p := by
  unfold leadI; rw [lead_scale hc h0 hp, Gf.scale_length]

theorem normC_ne {p : List Nat} : normC p ≠ 0 := by
  unfold normC
  split
  · rename_i h; exact Gf.inv_ne (lead_ne p h)
  · decide

theorem norm_at {p : List Nat} (hp : ∀ x, x ∈ p → x < 256) (hl : lead p < p.length) : nth (Gf.scale (normC p) p) (lead p) = 1 := by
  rw [nth_scale _ p _ hl]
  unfold normC
  rw [if_pos hl, Gf.inv_mul (nth_lt hp _) (lead_ne p hl)]

theorem norm_norm {p : List Nat} (hp : ∀ x, x ∈ p → x < 256) : normC (Gf.scale (normC p) p) = 1 := by
  have e := lead_scale (normC_lt p) normC_ne hp
  by_cases hl : lead p < p.length
  · rw [normC, e, if_pos (by rw [Gf.scale_length]; exact hl), norm_at hp hl]
    decide +kernel
  · rw [normC, e, if_neg (by rw [Gf.scale_length]; exact hl)]

theorem add_self_back {s x : List Nat} (h : s.length = x.length) : Gf.add s (Gf.add s x) = x := by
  refine ext_nth (by rw [Gf.add_length _ _ (by rw [Gf.add_length _ _ h]), h]) fun j hj => ?_
  rw [Gf.add_length _ _ (by rw [Gf.add_length _ _ h])] at hj
  rw [nth_add _ _ _ hj (by rw [Gf.add_length _ _ h]; exact hj), nth_add _ _ _ hj (by omega), ← Nat.xor_assoc, Nat.xor_self, Nat.zero_xor]

/-- One row less as much of a normed one that leads at the same place: noughts up to there. -/
theorem less_zero {c : Nat} {s x : List Nat} {i : Nat} (hx : ∀ y, y ∈ x → y < 256) (hc : c = nth x i) (hl : s.length = x.length) (hi : i < x.length) (h0 : ∀ j, j < i → nth s j = 0) (h1 : nth s i = 1) (h2 : ∀ j, j < i → nth x j = 0) :
    ∀ j, j < i + 1 → nth (Gf.add (Gf.scale c s) x) j = 0 := by
  intro j hj
  rw [nth_add _ _ _ (by rw [Gf.scale_length]; omega) (by omega), nth_scale c s j (by omega)]
  by_cases h : j < i
  · rw [h0 j h, h2 j h, Gf.mul_zero, Nat.xor_zero]
  · obtain rfl : j = i := by omega
    rw [h1, hc, Gf.mul_one (nth_lt hx _), Nat.xor_self]

theorem lead_more {l : List Nat} {i : Nat} (h : ∀ j, j < i + 1 → nth l j = 0) (hi : i < l.length) : i < lead l := by
  rcases Nat.lt_or_ge i (lead l) with h1 | h1
  · exact h1
  · exact absurd (h _ (by omega)) (lead_ne l (by omega))

theorem zeroB_lead {l : List Nat} : zeroB l = true ↔ ¬ lead l < l.length := by
  have h := zeroB_eq l
  constructor
  · intro hz hl
    rw [hz] at h
    have := of_decide_eq_false h.symm
    exact this ⟨_, hl, lead_ne l hl⟩
  · intro hl
    have e : decide (∃ i, i < l.length ∧ nth l i ≠ 0) = false := by
      rw [decide_eq_false_iff_not]
      rintro ⟨i, hi, hne⟩
      exact hne (lead_zero l i (by omega))
    rw [e] at h
    simpa using h

end Go.Proofs.Ytohfcdgpllghbaa

/-
  The document's answer for equations (wellspringref08), in the program: 'Rows'.
-/
set_option maxRecDepth 100000
namespace Go.Proofs.Ytohfcdgpllghbaa
open Go.RowKit

namespace Ro
/-- Row i, less as much of row k as it has where that leads. -/
def clr1 (E : List Rw) (i k : Nat) : List Rw := if k = i then E else E.set i (step (rwAt E i) (rwAt E k))
def clrK (E : List Rw) (i k : Nat) : List Rw := (List.range k).foldl (fun E k => clr1 E i k) E
def clrI (E : List Rw) (i : Nat) : List Rw := (List.range i).foldl (fun E i => clrK E i E.length) E
/-- The rows of equations: all put in, and each cleared of all others. -/
def rows8 (L : List Rw) : List Rw := clrI (all L) (all L).length

theorem clrK_succ (E : List Rw) (i k : Nat) : clrK E i (k + 1) = clr1 (clrK E i k) i k := by unfold clrK; rw [List.range_succ, List.foldl_append]; rfl
theorem clrI_succ (E : List Rw) (i : Nat) : clrI E (i + 1) = clrK (clrI E i) i (clrI E i).length := by unfold clrI; rw [List.range_succ, List.foldl_append]; rfl
theorem clr1_length (E : List Rw) (i k : Nat) : (clr1 E i k).length = E.length := by unfold clr1; split <;> simp
theorem clrK_length (E : List Rw) (i : Nat) : ∀ k, (clrK E i k).length = E.length
  | 0 => rfl
  | k + 1 => by rw [clrK_succ, clr1_length, clrK_length E i k]
theorem clrI_length (E : List Rw) : ∀ i, (clrI E i).length = E.length
  | 0 => rfl
  | i + 1 => by rw [clrI_succ, clrK_length, clrI_length E i]
theorem rwAt_set {E : List Rw} {i j : Nat} {r : Rw} : rwAt (E.set i r) j = if i = j ∧ j < E.length then r else rwAt E j := by
  unfold rwAt
  rw [List.getD_eq_getElem?_getD, List.getElem?_set]
  by_cases h : i = j
  · subst h
    by_cases hi : i < E.length
    · simp [hi]
    · simp [hi]
  · simp [h, List.getD_eq_getElem?_getD]
/-- A step keeps where the rows lead: the row cleared leads where it did. -/
theorem step_lead {k t : Nat} {x r : Rw} (hx : Dim k t x) (hr : Dim k t r) (hlx : lead x.1 < x.1.length) (hne : lead x.1 ≠ lead r.1) : lead (step x r).1 = lead x.1 := by
  obtain ⟨_, e⟩ := less_dim (nth_lt hx.2.2.1 (lead r.1)) hx hr
  have e1 : (step x r).1 = Gf.add (Gf.scale (nth x.1 (lead r.1)) r.1) x.1 := by unfold step; rw [e]
  have hl : r.1.length = x.1.length := by rw [hr.1, hx.1]
  have hn : ∀ j, j < x.1.length → nth (step x r).1 j = Gf.mul (nth x.1 (lead r.1)) (nth r.1 j) ^^^ nth x.1 j := fun j hj => by
    rw [e1, nth_add _ _ _ (by rw [Gf.scale_length]; omega) hj, nth_scale _ _ _ (by omega)]
  apply lead_eq
  · intro j hj
    rw [hn j (by omega), lead_zero x.1 j hj, Nat.xor_zero]
    by_cases hlt : lead r.1 < lead x.1
    · rw [lead_zero x.1 _ hlt, Gf.zero_mul]
    · rw [lead_zero r.1 j (by omega), Gf.mul_zero]
  · rw [show (step x r).1.length = x.1.length by rw [(step_dim hx hr).1, hx.1]]; exact hlx
  · rw [hn _ hlx]
    by_cases hlt : lead r.1 < lead x.1
    · rw [lead_zero x.1 _ hlt, Gf.zero_mul, Nat.zero_xor]; exact lead_ne x.1 hlx
    · rw [lead_zero r.1 (lead x.1) (by omega), Gf.mul_zero, Nat.zero_xor]; exact lead_ne x.1 hlx
/-- Rows of k and t bytes that lead, no two at one place. -/
structure Fine (k t : Nat) (E : List Rw) : Prop where
  dims : Dims k t E
  leads : Leads E
  apart : ∀ i j, i < E.length → j < E.length → i ≠ j → lead (rwAt E i).1 ≠ lead (rwAt E j).1
theorem dims_of {k t : Nat} {E : List Rw} (h : ∀ i, i < E.length → Dim k t (rwAt E i)) : Dims k t E := fun r hr => by
  obtain ⟨i, hi, rfl⟩ := List.mem_iff_getElem.1 hr
  rw [← rwAt_eq E i hi]; exact h i hi
theorem leads_of {E : List Rw} (h : ∀ i, i < E.length → lead (rwAt E i).1 < (rwAt E i).1.length) : Leads E := fun r hr => by
  obtain ⟨i, hi, rfl⟩ := List.mem_iff_getElem.1 hr
  rw [← rwAt_eq E i hi]; exact h i hi
theorem clr1_fine {k t : Nat} {E : List Rw} (h : Fine k t E) {i j : Nat} (hi : i < E.length) (hj : j < E.length) : Fine k t (clr1 E i j) ∧ ∀ m, lead (rwAt (clr1 E i j) m).1 = lead (rwAt E m).1 := by
  unfold clr1
  split
  · exact ⟨h, fun m => rfl⟩
  · rename_i hij
    have hs := step_dim (h.dims.at hi) (h.dims.at hj)
    have hl := step_lead (h.dims.at hi) (h.dims.at hj) (h.leads.at hi) (h.apart i j hi hj fun e => hij e.symm)
    have hlead : ∀ m, lead (rwAt (E.set i (step (rwAt E i) (rwAt E j))) m).1 = lead (rwAt E m).1 := fun m => by
      rw [rwAt_set]; split
      · rename_i hm; rw [← hm.1]; exact hl
      · rfl
    refine ⟨⟨dims_of fun m hm => ?_, leads_of fun m hm => ?_, fun a b ha hb hab => ?_⟩, hlead⟩
    · rw [List.length_set] at hm
      rw [rwAt_set]; split
      · exact hs
      · exact h.dims.at hm
    · rw [List.length_set] at hm
      rw [hlead m, rwAt_set]; split
      · rename_i e; rw [← e.1, hs.1, ← (h.dims.at hi).1]; exact h.leads.at hi
      · exact h.leads.at hm
    · rw [List.length_set] at ha hb
      rw [hlead a, hlead b]; exact h.apart a b ha hb hab
theorem clrK_fine {k t : Nat} {E : List Rw} (h : Fine k t E) {i : Nat} (hi : i < E.length) : ∀ n, n ≤ E.length → Fine k t (clrK E i n)
  | 0, _ => h
  | n + 1, hn => by
    rw [clrK_succ]
    exact (clr1_fine (clrK_fine h hi n (by omega)) (by rw [clrK_length]; exact hi) (by rw [clrK_length]; omega)).1
theorem clrI_fine {k t : Nat} {E : List Rw} (h : Fine k t E) : ∀ n, n ≤ E.length → Fine k t (clrI E n)
  | 0, _ => h
  | n + 1, hn => by
    rw [clrI_succ]
    exact clrK_fine (clrI_fine h n (by omega)) (by rw [clrI_length]; omega) _ (Nat.le_refl _)

/-! ### Rows put in, one by one: they rise, and lead with a 1 -/

/-- By rising places; each leads with a 1. -/
structure Up (k t : Nat) (L : List Rw) : Prop where
  dims : Dims k t L
  leads : Leads L
  rise : L.Pairwise fun a b => lead a.1 < lead b.1
  one : ∀ r ∈ L, nth r.1 (lead r.1) = 1

theorem Up.nil (k t : Nat) : Up k t [] := ⟨fun r h => (by cases h), fun r h => (by cases h), List.Pairwise.nil, fun r h => (by cases h)⟩
theorem step_nth {k t : Nat} {x r : Rw} (hx : Dim k t x) (hr : Dim k t r) {j : Nat} (hj : j < k) : nth (step x r).1 j = Gf.mul (nth x.1 (lead r.1)) (nth r.1 j) ^^^ nth x.1 j := by
  obtain ⟨_, e⟩ := less_dim (nth_lt hx.2.2.1 (lead r.1)) hx hr
  have e1 : (step x r).1 = Gf.add (Gf.scale (nth x.1 (lead r.1)) r.1) x.1 := by unfold step; rw [e]
  rw [e1, nth_add _ _ _ (by rw [Gf.scale_length, hr.1]; exact hj) (by rw [hx.1]; exact hj), nth_scale _ _ _ (by rw [hr.1]; exact hj)]
/-- What is left has a 0 wherever one of the rows leads. -/
theorem rest_zero {k t : Nat} {L : List Rw} (h : Up k t L) {x : Rw} (hx : Dim k t x) : ∀ n, n ≤ L.length → ∀ i, i < n → nth (rest (L.take n) x).1 (lead (rwAt L i).1) = 0
  | 0, _, i, hi => by omega
  | n + 1, hn, i, hi => by
    have hlt : n < L.length := by omega
    have hd := rest_dim (h.dims.take n) hx
    have hdn := h.dims.at hlt
    have hln : lead (rwAt L i).1 < k := by rw [← (h.dims.at (show i < L.length by omega)).1]; exact h.leads.at (by omega)
    rw [rest_take_succ L x n hlt, step_nth hd hdn hln]
    by_cases e : i = n
    · subst e
      rw [h.one _ (rwAt_mem hlt), Gf.mul_one (nth_lt hd.2.2.1 _), Nat.xor_self]
    · have hlt2 : lead (rwAt L i).1 < lead (rwAt L n).1 := by
        have := List.pairwise_iff_getElem.1 h.rise i n (by omega) hlt (by omega)
        rwa [← rwAt_eq L i (by omega), ← rwAt_eq L n hlt] at this
      rw [lead_zero _ _ hlt2, Gf.mul_zero, Nat.zero_xor]
      exact rest_zero h hx n (by omega) i (by omega)
theorem take_ahead (L : List Rw) (y : Rw) : L.take (ahead L y) = L.takeWhile (fun r => decide (lead r.1 < lead y.1)) ∧ L.drop (ahead L y) = L.dropWhile (fun r => decide (lead r.1 < lead y.1)) := by
  unfold ahead
  induction L with
  | nil => exact ⟨rfl, rfl⟩
  | cons r L ih =>
    by_cases h : lead r.1 < lead y.1
    · rw [List.takeWhile_cons_of_pos (by simpa using h), List.dropWhile_cons_of_pos (by simpa using h), List.length_cons, List.take_succ_cons, List.drop_succ_cons, ih.1, ih.2]
      exact ⟨rfl, rfl⟩
    · rw [List.takeWhile_cons_of_neg (by simpa using h), List.dropWhile_cons_of_neg (by simpa using h)]
      exact ⟨rfl, rfl⟩
theorem takeWhile_lt {L : List Rw} {y r : Rw} (h : r ∈ L.takeWhile (fun r => decide (lead r.1 < lead y.1))) : lead r.1 < lead y.1 := by
  induction L with
  | nil => simp at h
  | cons a L ih =>
    by_cases ha : lead a.1 < lead y.1
    · rw [List.takeWhile_cons_of_pos (by simpa using ha), List.mem_cons] at h
      rcases h with rfl | h
      · exact ha
      · exact ih h
    · rw [List.takeWhile_cons_of_neg (by simpa using ha)] at h; cases h
theorem dropWhile_ge {L : List Rw} (hr : L.Pairwise fun a b => lead a.1 < lead b.1) {y r : Rw} (h : r ∈ L.dropWhile (fun r => decide (lead r.1 < lead y.1))) : lead y.1 ≤ lead r.1 := by
  induction L with
  | nil => simp at h
  | cons a L ih =>
    rw [List.pairwise_cons] at hr
    by_cases ha : lead a.1 < lead y.1
    · rw [List.dropWhile_cons_of_pos (by simpa using ha)] at h
      exact ih hr.2 h
    · rw [List.dropWhile_cons_of_neg (by simpa using ha), List.mem_cons] at h
      rcases h with rfl | h
      · omega
      · have := hr.1 r h; omega
theorem put_up {k t : Nat} {L : List Rw} (h : Up k t L) {y : Rw} (hy : Dim k t y) (hl : lead y.1 < y.1.length) (h1 : nth y.1 (lead y.1) = 1) (hne : ∀ r ∈ L, lead r.1 ≠ lead y.1) : Up k t (put L y) := by
  have hm : ∀ r, r ∈ put L y → r ∈ L ∨ r = y := fun r hr => by
    unfold put at hr
    rw [List.mem_append, List.mem_cons] at hr
    rcases hr with hr | rfl | hr
    · exact .inl (List.mem_of_mem_take hr)
    · exact .inr rfl
    · exact .inl (List.mem_of_mem_drop hr)
  refine ⟨fun r hr => ?_, fun r hr => ?_, ?_, fun r hr => ?_⟩
  · rcases hm r hr with h2 | rfl
    · exact h.dims r h2
    · exact hy
  · rcases hm r hr with h2 | rfl
    · exact h.leads r h2
    · exact hl
  · unfold put
    obtain ⟨e1, e2⟩ := take_ahead L y
    have hsplit := h.rise
    rw [← List.take_append_drop (ahead L y) L, List.pairwise_append] at hsplit
    rw [List.pairwise_append, List.pairwise_cons]
    refine ⟨hsplit.1, ⟨fun z hz => ?_, hsplit.2.1⟩, fun a ha b hb => ?_⟩
    · have h3 := dropWhile_ge h.rise (e2 ▸ hz)
      have h4 := hne z (List.mem_of_mem_drop hz)
      omega
    · rcases List.mem_cons.1 hb with rfl | hb
      · exact takeWhile_lt (e1 ▸ ha)
      · exact hsplit.2.2 a ha b hb
  · rcases hm r hr with h2 | rfl
    · exact h.one r h2
    · exact h1
theorem norm_lead {k t : Nat} {x : Rw} (hx : Dim k t x) : lead (norm x).1 = lead x.1 := lead_scale (normC_lt _) normC_ne hx.2.2.1
theorem insert_up {k t : Nat} {L : List Rw} (h : Up k t L) {x : Rw} (hx : Dim k t x) : Up k t (insert L x) := by
  have hr := rest_dim h.dims hx
  unfold insert
  split
  · rename_i hl
    have hle := norm_lead hr
    have hl' : lead (rest L x).1 < (rest L x).1.length := by
      rw [hle] at hl
      have : (norm (rest L x)).1.length = (rest L x).1.length := by show (Gf.scale _ _).length = _; rw [Gf.scale_length]
      rwa [this] at hl
    refine put_up h (norm_dim hr) hl ?_ fun r hrL => ?_
    · rw [hle]; exact norm_at hr.2.2.1 hl'
    · rw [hle]
      intro e
      obtain ⟨i, hi, rfl⟩ := List.mem_iff_getElem.1 hrL
      have h0 := rest_zero h hx L.length (Nat.le_refl _) i hi
      rw [List.take_length, rwAt_eq L i hi, e] at h0
      exact lead_ne _ hl' h0
  · exact h
theorem all_up {k t : Nat} {L : List Rw} (hD : Dims k t L) : ∀ n, n ≤ L.length → Up k t (all (L.take n))
  | 0, _ => Up.nil k t
  | n + 1, hn => by rw [all_take_succ L n (by omega)]; exact insert_up (all_up hD n (by omega)) (hD.at (by omega))
theorem Up.fine {k t : Nat} {L : List Rw} (h : Up k t L) : Fine k t L := ⟨h.dims, h.leads, fun i j hi hj hij => by
  rcases Nat.lt_or_gt_of_ne hij with hlt | hlt
  · have := List.pairwise_iff_getElem.1 h.rise i j hi hj hlt
    rw [← rwAt_eq L i hi, ← rwAt_eq L j hj] at this; omega
  · have := List.pairwise_iff_getElem.1 h.rise j i hj hi hlt
    rw [← rwAt_eq L i hi, ← rwAt_eq L j hj] at this; omega⟩
theorem all_fine {k t : Nat} {L : List Rw} (hD : Dims k t L) : Fine k t (all L) := by
  have h := all_up hD L.length (Nat.le_refl _)
  rw [List.take_length] at h
  exact h.fine
theorem all_length_le (L : List Rw) : ∀ n, n ≤ L.length → (all (L.take n)).length ≤ n
  | 0, _ => Nat.le_refl _
  | n + 1, hn => by rw [all_take_succ L n (by omega)]; exact Nat.le_trans (insert_length _ _) (by have := all_length_le L n (by omega); omega)
end Ro

/-- A row out of a list of rows. -/
theorem load_refrow_at {w : World} {g k : Nat} {x y : Value} (h0 : w.cell? ⟨g, k, none⟩ = some x) (h1 : w.cell? ⟨g, k + 1, none⟩ = some y) : (Instr.loadAt 68 (.pointer (some ⟨g, k, none⟩))).run Try.prog w = .ok (.agg #[x, y]) w := by
  go_simp

end Go.Proofs.Ytohfcdgpllghbaa
