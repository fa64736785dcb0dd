/- Texts of one seat, laid together: RefOne, Frame, LawOne, LawOneC, KernA, Mat, KernB, Grow. -/
import Derived.Test.YtphdadibfeencaaGreatSolveHoldsQ1
import Derived.ProofKit
import Derived.OpenShut
import Derived.Deep.Slices

/-
  The document's answer for bytes (wellspringref01), in the program: it answers the same plain product.
-/
set_option maxRecDepth 100000
namespace Go.Proofs.YtphdadibfeencaaGreat
open Go.RowKit

/-- A uint64 out of a number. -/
abbrev U64 (n : Nat) : Value := .int .u64 (n : Int)

namespace Gf
theorem clK_lt {a : Nat} (ha : a < 256) (b : Nat) : ∀ k, k ≤ 8 → clK a b k < 32768
  | 0, _ => show 0 < 32768 by decide
  | k + 1, hk => by
    simp only [clK]
    refine Nat.xor_lt_two_pow (n := 15) (clK_lt ha b k (by omega)) ?_
    split
    · have h : ∀ k : Fin 8, ∀ a : Fin 256, a.1 <<< k.1 < 2 ^ 15 := by decide +kernel
      exact h ⟨k, by omega⟩ ⟨a, ha⟩
    · decide

/-- Some places taken away, from the greatest on. -/
def redK (s : Nat) : Nat → Nat
  | 0 => s
  | n + 1 => redStep (redK s n) (14 - n)

theorem redK_lt {s : Nat} (hs : s < 32768) : ∀ n, n ≤ 7 → redK s n < 32768
  | 0, _ => hs
  | n + 1, hn => by
    simp only [redK, redStep]
    refine Nat.xor_lt_two_pow (n := 15) (redK_lt hs n (by omega)) ?_
    split
    · have h : ∀ k : Fin 7, 285 <<< (14 - k.1 - 8) < 2 ^ 15 := by decide +kernel
      exact h ⟨n, by omega⟩
    · decide

theorem redK_red (s : Nat) : redK s 7 = red s := rfl
end Gf

theorem tmod_bit (b k : Nat) : (((b : Int) / 2 ^ k).tmod 2 == 1) = b.testBit k := by
  have e : ((b : Int) / 2 ^ k) = ((b / 2 ^ k : Nat) : Int) := by simp
  rw [e, Nat.testBit_eq_decide_div_mod_eq, Int.tmod_eq_emod_of_nonneg (Int.natCast_nonneg _)]
  generalize b / 2 ^ k = q
  rw [Bool.eq_iff_iff]; simp; omega

theorem shl_u64 (a k : Nat) (h : a <<< k < 18446744073709551616) : IntKind.u64.wrap ((a : Int) * 2 ^ k) = ((a <<< k : Nat) : Int) := by
  have e : ((a : Int) * 2 ^ k) = ((a <<< k : Nat) : Int) := by rw [Nat.shiftLeft_eq]; simp
  rw [e]
  have h2 : IntKind.u64.wrap ((a <<< k : Nat) : Int) = ((a <<< k : Nat) : Int) % 18446744073709551616 := by simp [IntKind.wrap, IntKind.bits, IntKind.signed]
  rw [h2]; exact Int.emod_eq_of_lt (Int.natCast_nonneg _) (Int.ofNat_lt.2 h)

theorem shl_small (a k : Nat) (ha : a < 256) (hk : k < 8) : a <<< k < 18446744073709551616 := by
  have h : ∀ k : Fin 8, ∀ a : Fin 256, a.1 <<< k.1 < 18446744073709551616 := by decide +kernel
  exact h ⟨k, hk⟩ ⟨a, ha⟩

theorem cl_spell (a b k : Nat) (ha : a < 256) (hk : k < 8) (hbit : b.testBit k = true) :
    bits BinOp.xor IntKind.u64 (Gf.clK a b k : Int) (IntKind.u64.wrap ((a : Int) * 2 ^ k)) = (Gf.clK a b (k + 1) : Int) := by
  have h1 := Gf.clK_lt ha b k (by omega)
  rw [shl_u64 _ _ (shl_small a k ha hk), u64_xor_nat _ _ (by omega) (shl_small a k ha hk)]
  simp only [Gf.clK]; rw [if_pos hbit]

theorem cl_skip (a b k : Nat) (hbit : b.testBit k = false) : Gf.clK a b (k + 1) = Gf.clK a b k := by
  simp only [Gf.clK]; rw [hbit]; simp

theorem red_spell (s n : Nat) (hs : s < 32768) (hn : n < 7) (hbit : (Gf.redK s n).testBit (14 - n) = true) :
    bits BinOp.xor IntKind.u64 (Gf.redK s n : Int) (IntKind.u64.wrap (285 * 2 ^ (14 - n - 8))) = (Gf.redK s (n + 1) : Int) := by
  have h1 := Gf.redK_lt hs n (by omega)
  have h2 : (285 : Nat) <<< (14 - n - 8) < 18446744073709551616 := by
    have h : ∀ k : Fin 7, (285 : Nat) <<< (14 - k.1 - 8) < 18446744073709551616 := by decide +kernel
    exact h ⟨n, hn⟩
  have e := shl_u64 285 (14 - n - 8) h2
  have e' : IntKind.u64.wrap (285 * 2 ^ (14 - n - 8)) = ((285 <<< (14 - n - 8) : Nat) : Int) := e
  rw [e', u64_xor_nat _ _ (by omega) h2]
  simp only [Gf.redK, Gf.redStep]; rw [if_pos hbit]

theorem red_skip (s n : Nat) (hbit : (Gf.redK s n).testBit (14 - n) = false) : Gf.redK s (n + 1) = Gf.redK s n := by
  simp only [Gf.redK, Gf.redStep]; rw [hbit]; simp

set_option maxHeartbeats 400000 in
theorem refmul_any (a b : Nat) (w : World) (ha : a < 256) :
    Calls Tryz.prog 37 #[U8 a, U8 b] w fun e w' => e = .returned (U8 (Gf.mul a b)) ∧ w = w' := by
  go_enter Tryz.func37, Tryz.ntmps37
  go_wp2_with fail
  go_loop [5, 6] (fun s i => ∃ k : Nat, k ≤ 8 ∧ i = .int .i64 k ∧ s = U64 (Gf.clK a b k)) (fun _ i => 8 - (intOf i).toNat)
  case atStart => exact ⟨0, by omega, rfl, rfl⟩
  case round =>
    obtain ⟨k, hk, rfl, rfl⟩ := hrel
    by_cases hlt : k < 8
    · have ht := tmod_bit b k
      cases hbit : b.testBit k
      · rw [hbit] at ht
        have HS := Lib.hid (cl_skip a b k hbit)
        clear hbit
        go_wp2_with fail
        go_round
        case rel => exact ⟨k + 1, by omega, by go_num, by rw [HS.out]⟩
        case measure => simp [intOf]; omega
      · rw [hbit] at ht
        have HS := Lib.hid (cl_spell a b k ha hlt hbit)
        clear hbit
        go_wp2_with fail
        go_round
        case rel => exact ⟨k + 1, by omega, by go_num, by rw [HS.out]⟩
        case measure => simp [intOf]; omega
    · obtain rfl : k = 8 := by omega
      clear hk hlt
      have hs := Gf.clK_lt ha b 8 (by omega)
      have HM := Lib.hid (Gf.red_mul ha b)
      have hm := Gf.mul_lt ha b
      generalize Gf.clK a b 8 = s0 at hs HM
      go_wp2_with fail
      go_loop [5, 7] (fun s i => ∃ k : Nat, k ≤ 7 ∧ i = .int .i64 (14 - (k : Int)) ∧ s = U64 (Gf.redK s0 k)) (fun _ i => (intOf i).toNat)
      case atStart => exact ⟨0, by omega, rfl, rfl⟩
      case round =>
        obtain ⟨k, hk, rfl, rfl⟩ := hrel
        by_cases hlt : k < 7
        · have ht := tmod_bit (Gf.redK s0 k) (14 - k)
          cases hbit : (Gf.redK s0 k).testBit (14 - k)
          · rw [hbit] at ht
            have HS := Lib.hid (red_skip s0 k hbit)
            clear hbit
            go_wp2_with fail
            go_round
            case rel => exact ⟨k + 1, by omega, by go_num, by rw [HS.out]⟩
            case measure => simp [intOf]; omega
          · rw [hbit] at ht
            have HS := Lib.hid (red_spell s0 k hs hlt hbit)
            clear hbit
            go_wp2_with fail
            go_round
            case rel => exact ⟨k + 1, by omega, by go_num, by rw [HS.out]⟩
            case measure => simp [intOf]; omega
        · obtain rfl : k = 7 := by omega
          have HR := Lib.hid (Gf.redK_red s0)
          go_wp2_with fail
          go_ret
          exact ⟨ret_u8 (by rw [HR.out, HM.out]; exact Int.emod_eq_of_lt (Int.natCast_nonneg _) (by omega)), rfl⟩

set_option maxHeartbeats 400000 in
theorem refinv_any (a : Nat) (w : World) (ha : a < 256) :
    Calls Tryz.prog 68 #[U8 a] w fun e w' => e = .returned (U8 (Gf.inv a)) ∧ w = w' := by
  go_enter Tryz.func68, Tryz.ntmps68
  go_wp2_with fail
  go_loop [3] (fun i => ∃ k : Nat, 1 ≤ k ∧ k ≤ 256 ∧ i = .int .i64 k ∧ ∀ j, 1 ≤ j → j < k → Gf.mul a j ≠ 1) (fun i => 256 - (intOf i).toNat)
  case atStart => exact ⟨1, by omega, by omega, rfl, fun j h1 h2 => by omega⟩
  case round =>
    obtain ⟨k, hk1, hk, rfl, hno⟩ := hrel
    have HN := Lib.hid hno
    clear hno
    by_cases hlt : k < 256
    · by_cases h1 : Gf.mul a k = 1
      · have hb : ((Gf.mul a k : Int) == 1) = true := by rw [h1]; rfl
        have HI : Hid (k = Gf.inv a) := Lib.hid (by
          have h0 : a ≠ 0 := fun h => by rw [h, Gf.zero_mul] at h1; omega
          exact Gf.mul_cancel ha hlt (Gf.inv_lt a) h0 (by rw [h1, Gf.mul_inv ha h0]))
        clear h1
        go_wp2_with fail
        refine (refmul_any _ _ _ ha).mono ?_
        rintro e w' ⟨rfl, rfl⟩
        go_wp2_with fail
        go_ret
        exact ⟨by rw [← HI.out]; rfl, rfl⟩
      · have hb : ((Gf.mul a k : Int) == 1) = false := beq_eq_false_iff_ne.2 (by omega)
        have H1 := Lib.hid h1
        clear h1
        go_wp2_with fail
        refine (refmul_any _ _ _ ha).mono ?_
        rintro e w' ⟨rfl, rfl⟩
        go_wp2_with fail
        go_round
        case rel => exact ⟨k + 1, by omega, by omega, by go_num, fun j h1 h2 => by
          by_cases hj : j = k
          · rw [hj]; exact H1.out
          · exact HN.out j h1 (by omega)⟩
        case measure => simp [intOf]; omega
    · have h0 : Hid (Gf.inv a = 0) := Lib.hid (by
        by_cases h : a = 0
        · rw [h]; rfl
        · exact absurd (Gf.mul_inv ha h) (HN.out _ (Nat.pos_of_ne_zero (Gf.inv_ne h)) (by have := Gf.inv_lt a; omega)))
      go_wp2_with fail
      go_ret
      exact ⟨by rw [h0.out]; rfl, rfl⟩

end Go.Proofs.YtphdadibfeencaaGreat

/-
  What the statements' frames share: arguments read behind the call as before, where below the heap's old size nothing has turned; a slice of bytes that came in, opened.
-/
set_option maxRecDepth 100000
namespace Go.Proofs.YtphdadibfeencaaGreat
open Go.ChangeShapes Go.WideShapes Go.ChangeAt Go.RowKit

theorem own : ownKnob Tryz.prog.godebug = none := by kernel_rfl
theorem laidOut : laidOutB Tryz.prog = true := by kernel_rfl

theorem Below.trodAll {H : Type} {enc : TypeId × Value → H} {P : Program} (hl : laidOutB P = true) {W W' : World} (hb : Below W.heap.size W W') :
    ∀ {ts : List TypeId} {vs : List Value} {ds : List (DataW H)} {ps : List MemPlace}, (∀ t ∈ ts, P.readableRec t = true ∧ t < P.types.size) →
      DataW.TrodAll enc P W 0 (fun _ => true) true ts vs ds ps → (∀ x ∈ ps, x.block < W.heap.size) → DataW.TrodAll enc P W' 0 (fun b => decide (b < W.heap.size)) true ts vs ds ps
  | [], [], [], _, _, h, _ => h
  | t :: ts, v :: vs, d :: ds, _, ht, ⟨p, q, h1, h2, e⟩, hlt =>
    ⟨p, q, Go.RowKit.Below.trod hl (ht t (by simp)).1 (ht t (by simp)).2 h1 hb (fun x hx => hlt x (by rw [e]; exact List.mem_append_left _ hx)),
      Below.trodAll hl hb (fun t' h' => ht t' (by simp [h'])) h2 (fun x hx => hlt x (by rw [e]; exact List.mem_append_right _ hx)), e⟩
  | [], _ :: _, _, _, _, h, _ => h.elim
  | [], [], _ :: _, _, _, h, _ => h.elim
  | _ :: _, [], _, _, _, h, _ => h.elim
  | _ :: _, _ :: _, [], _, _, h, _ => h.elim

/-- A byte that came in. -/
theorem byte_of {x : Int} (h : (Lit.int .u8 x).wf = true) : ∃ n : Nat, x = (n : Int) ∧ n < 256 := by
  have h1 : IntKind.u8.min = 0 := rfl
  have h2 : IntKind.u8.max = 255 := rfl
  simp only [Lit.wf, Bool.and_eq_true, decide_eq_true_eq] at h
  exact ⟨x.toNat, by omega, by omega⟩

/-- A slice of bytes, read. -/
theorem bytes_of_trod {H : Type} {enc : TypeId × Value → H} {P : Program} {T E : TypeId} (hT : P.underlying T = some (.slice E)) (hE : P.underlying E = some (.int .u8)) (hc : P.cellsOf E = 1) {W : World} {v : Value} {x : DataW H × List MemPlace} {fuel : Nat}
    (hf : DataW.trod enc P W 0 (fun _ => true) true fuel T [v] = some x) (hlt : ∀ y ∈ x.2, y.block < W.heap.size) : ∃ l, Bytes W v l := by
  rcases open_ints hT hE hc hf with ⟨hcs, hx⟩ | ⟨a, len, cap, zs, hcs, _, hl, hm, hz, hx, hcell, hwz⟩
  · simp only [List.cons.injEq, and_true] at hcs
    subst hcs
    exact ⟨[], none, 0, rfl, by simp, by omega, by simp, fun h => absurd rfl h⟩
  · simp only [List.cons.injEq, and_true] at hcs
    subst hcs
    subst hx
    simp only [if_true] at hz
    have hlen : ((zs.take len).map Int.toNat).length = len := by simp; omega
    have h2 : ∀ n ∈ zs, 0 ≤ n ∧ n < 256 := fun n hn => by
      obtain ⟨m, rfl, hm⟩ := byte_of (hwz n hn); omega
    refine ⟨(zs.take len).map Int.toNat, some a, cap, by rw [hlen], by rw [hlen]; exact hl, by simpa [maxLen] using hm, fun x hx => ?_, fun hne => ?_⟩
    · obtain ⟨n, hn, rfl⟩ := List.mem_map.1 hx
      have := h2 n (List.mem_of_mem_take hn); omega
    · have hl0 : 0 < len := by
        cases len with
        | zero => simp at hne
        | succ n => omega
      obtain ⟨b, off, spot⟩ := a
      have hspot : spot = none := by simpa [Addr.add] using World.cell?_spot (hcell 0 (by omega))
      subst hspot
      have hbW : b < W.heap.size := hlt (.cell b off) (MemPlace.mem_row.2 ⟨0, by omega, by simp⟩)
      refine ⟨b, off, rfl, hbW, fun i hi => ?_⟩
      rw [hlen] at hi
      have hci := hcell i (by omega)
      rw [add_plain] at hci
      rw [hci]
      have hn : nth ((zs.take len).map Int.toNat) i = (zs.getD i 0).toNat := by
        rw [nth_eq _ _ (by rw [hlen]; exact hi)]
        simp [List.getD_eq_getElem?_getD, List.getElem?_eq_getElem (show i < zs.length by omega)]
      have h3 := (h2 (zs.getD i 0) (by rw [List.getD_eq_getElem?_getD, List.getElem?_eq_getElem (show i < zs.length by omega)]; exact List.getElem_mem _)).1
      rw [hn]
      show some (Value.int .u8 (zs.getD i 0)) = some (Value.int .u8 ((zs.getD i 0).toNat : Int))
      rw [Int.toNat_of_nonneg h3]

/-- A slice of bytes that came in. -/
theorem open_bytes {H : Type} {enc : TypeId × Value → H} {P : Program} {T E : TypeId} (hT : P.underlying T = some (.slice E)) (hE : P.underlying E = some (.int .u8)) (hc : P.cellsOf E = 1) {W : World} {base : Nat} {v : Value} {d : DataW H} {p : List MemPlace}
    (hok : Value.okWide P W .any base T v) (h : DataW.Trod enc P W 0 (fun _ => true) true T v d p) (hlt : ∀ x ∈ p, x.block < W.heap.size) : ∃ l, Bytes W v l := by
  obtain ⟨a0, len, cap, rfl⟩ := okWide_slice hT hok
  obtain ⟨fuel, hf⟩ := h
  exact bytes_of_trod hT hE hc hf hlt

end Go.Proofs.YtphdadibfeencaaGreat

/-
  The statements of layer 1 (field), walked: what they go through answers the plain product, which is a field's.
-/
set_option maxRecDepth 100000
namespace Go.Proofs.YtphdadibfeencaaGreat
open Go.RowKit

theorem mul2 (a b : Nat) (T : TypeId) (k : Nat) (w : World) (hk : k = w.heap.size) (ha : a < 256) (hb : b < 256) :
    Calls Tryz.prog 58 #[.slice (some ⟨k, 0, none⟩) 2 2] (w.alloc (.cells #[U8 a, U8 b] T)) fun e w' => e = .returned (U8 (Gf.mul a b)) ∧ w.alloc (.cells #[U8 a, U8 b] T) = w' := by
  subst hk
  have h := mul_any _ [a, b] _ (bytes_new w [a, b] T (by simp [ha, hb]) (by simp))
  rw [show Gf.prod [a, b] = Gf.mul a b from Gf.prod_cons ha [b]] at h
  exact h

theorem add2 (a b : Nat) (T : TypeId) (k : Nat) (w : World) (hk : k = w.heap.size) (ha : a < 256) (hb : b < 256) :
    Calls Tryz.prog 57 #[.slice (some ⟨k, 0, none⟩) 2 2] (w.alloc (.cells #[U8 a, U8 b] T)) fun e w' => e = .returned (U8 (a ^^^ b)) ∧ w.alloc (.cells #[U8 a, U8 b] T) = w' := by
  subst hk
  have h := add_any _ [a, b] _ (bytes_new w [a, b] T (by simp [ha, hb]) (by simp))
  rw [show Gf.sum [a, b] = a ^^^ b from by simp [Gf.sum]] at h
  exact h

namespace Gf
end Gf

end Go.Proofs.YtphdadibfeencaaGreat

/-
  The statements of layer 1 (field), walked: parts, powers of 2, and a field's laws.
-/
set_option maxRecDepth 100000
namespace Go.Proofs.YtphdadibfeencaaGreat
open Go.RowKit

theorem mul2b (a b : Nat) (T : TypeId) (k : Nat) (w w0 : World) (hk : k = w.heap.size) (ha : a < 256) (hb : b < 256) (h0 : Below w0.heap.size w0 w) :
    Calls Tryz.prog 58 #[.slice (some ⟨k, 0, none⟩) 2 2] (w.alloc (.cells #[U8 a, U8 b] T)) fun e w' => e = .returned (U8 (Gf.mul a b)) ∧ Below w0.heap.size w0 w' :=
  (mul2 a b T k w hk ha hb).mono fun _ _ h => ⟨h.1, h.2 ▸ h0.alloc h0.size _⟩

theorem add2b (a b : Nat) (T : TypeId) (k : Nat) (w w0 : World) (hk : k = w.heap.size) (ha : a < 256) (hb : b < 256) (h0 : Below w0.heap.size w0 w) :
    Calls Tryz.prog 57 #[.slice (some ⟨k, 0, none⟩) 2 2] (w.alloc (.cells #[U8 a, U8 b] T)) fun e w' => e = .returned (U8 (a ^^^ b)) ∧ Below w0.heap.size w0 w' :=
  (add2 a b T k w hk ha hb).mono fun _ _ h => ⟨h.1, h.2 ▸ h0.alloc h0.size _⟩

end Go.Proofs.YtphdadibfeencaaGreat

/-
  Many bytes at once (layer 2) in the program: 'Scale', 'addTo'.
-/
set_option maxRecDepth 100000
namespace Go.Proofs.YtphdadibfeencaaGreat
open Go.RowKit

/-- The answer is a new block of these bytes, and of what was there nothing has turned. -/
def NewRow (w : World) (l : List Nat) (e : Ending) (w' : World) : Prop :=
  ∃ g, e = .returned (whole g l.length) ∧ w.heap.size ≤ g ∧ Own w' g l ∧ Below w.heap.size w w'

namespace Gf
/-- Each byte times c. -/
def scale (c : Nat) (l : List Nat) : List Nat := l.map (mul c)
theorem scale_length (c : Nat) (l : List Nat) : (scale c l).length = l.length := by simp [scale]
theorem scale_lt {c : Nat} (hc : c < 256) (l : List Nat) : ∀ x, x ∈ scale c l → x < 256 := by
  intro x hx
  obtain ⟨y, _, rfl⟩ := List.mem_map.1 hx
  exact mul_lt hc y
theorem scale_take (c : Nat) (l : List Nat) (k : Nat) (hk : k < l.length) : scale c (l.take (k + 1)) = scale c (l.take k) ++ [mul c (nth l k)] := by
  rw [take_nth l k hk]; simp [scale]
end Gf

/-- So much of the row is done, the rest is noughts. -/
def part (done : List Nat) (n : Nat) : List Nat := done ++ List.replicate (n - done.length) 0

theorem part_length (done : List Nat) (n : Nat) (h : done.length ≤ n) : (part done n).length = n := by simp [part]; omega
theorem part_all (done : List Nat) (n : Nat) (h : done.length = n) : part done n = done := by simp [part, h]
theorem part_set (done : List Nat) (n x : Nat) (h : done.length < n) : (part done n).set done.length x = part (done ++ [x]) n := by
  unfold part
  obtain ⟨m, hm⟩ : ∃ m, n - done.length = m + 1 := ⟨n - done.length - 1, by omega⟩
  rw [hm, List.set_append_right _ _ (Nat.le_refl _), Nat.sub_self, List.replicate_succ, List.set_cons_zero]
  simp only [List.length_append, List.length_cons, List.length_nil, List.append_assoc, List.cons_append, List.nil_append]
  rw [show n - (done.length + (0 + 1)) = m from by omega]

theorem mul2w (a b : Nat) (T : TypeId) (k : Nat) (w : World) (hk : k = w.heap.size) (ha : a < 256) (hb : b < 256) :
    Calls Tryz.prog 58 #[.slice (some ⟨k, 0, none⟩) 2 2] (w.alloc (.cells #[U8 a, U8 b] T)) fun e w' => e = .returned (U8 (Gf.mul a b)) ∧ Below w.heap.size w w' :=
  mul2b a b T k w w hk ha hb (Below.refl _ _)
theorem add2w (a b : Nat) (T : TypeId) (k : Nat) (w : World) (hk : k = w.heap.size) (ha : a < 256) (hb : b < 256) :
    Calls Tryz.prog 57 #[.slice (some ⟨k, 0, none⟩) 2 2] (w.alloc (.cells #[U8 a, U8 b] T)) fun e w' => e = .returned (U8 (a ^^^ b)) ∧ Below w.heap.size w w' :=
  add2b a b T k w w hk ha hb (Below.refl _ _)

set_option maxHeartbeats 400000 in
theorem scale_empty (c : Nat) (a : Option Addr) (cap : Nat) (w : World) :
    Calls Tryz.prog 36 #[U8 c, .slice a 0 cap] w (NewRow w []) := by
  have hmk : ∀ w : World, (Instr.makeSlice 23 (.int .i64 0) (.int .i64 0)).run Tryz.prog w = .ok (whole w.heap.size 0) (w.alloc (bytesObj [])) := fun w => make_bytes 0 (by omega) w
  go_enter Tryz.func36, Tryz.ntmps36
  go_wp2
  refine wp_loop_rounds 1 ?_
  rw [rounds_succ]
  go_wp2
  go_ret
  exact ⟨w.heap.size, rfl, Nat.le_refl _, Own.new w [], (Below.refl _ _).alloc (Nat.le_refl _) _⟩

set_option maxHeartbeats 400000 in
theorem scale_some (c b off cap : Nat) (l : List Nat) (w : World) (hc : c < 256) (hn : l.length ≤ 281474976710656) (hB : Bytes w (.slice (some ⟨b, off, none⟩) l.length cap) l) :
    Calls Tryz.prog 36 #[U8 c, .slice (some ⟨b, off, none⟩) l.length cap] w (NewRow w (Gf.scale c l)) := by
  have hmk := make_bytes l.length hn
  have HB := Lib.hid hB
  clear hB
  go_enter Tryz.func36, Tryz.ntmps36
  go_wp2
  clear hmk
  go_loopw [6, 7, 13] (fun _ _ i wr => ∃ k : Nat, k ≤ l.length ∧ i = .int .i64 k ∧ Own wr w.heap.size (part (Gf.scale c (l.take k)) l.length) ∧ Below w.heap.size w wr) (fun _ _ i _ => l.length - (intOf i).toNat)
  case atStart => exact ⟨0, by omega, rfl, Own.new w _, (Below.refl _ _).alloc (Nat.le_refl _) _⟩
  case round =>
    obtain ⟨k, hk, rfl, hown, hbel⟩ := hrel
    have HO := Lib.hid hown
    clear hown
    by_cases hlt : k < l.length
    · have hBr := HB.out.below (Nat.le_refl _) hbel
      have hcell := hBr.cell k hlt
      have x1 := nth_lt hBr.lt k
      clear hBr
      go_wp2_with fail
      refine (mul2w _ _ _ _ _ rfl hc x1).mono ?_
      rintro e w1 ⟨rfl, hb1⟩
      have hown1 := HO.out.below HO.out.lt hb1
      have hcell1 := hown1.cell k (by rw [part_length _ _ (by rw [Gf.scale_length]; simp; omega)]; exact hlt)
      have hfr := hown1.free k
      have HO1 := Lib.hid hown1
      clear hown1
      go_wp2_with fail
      refine ⟨⟨k + 1, by omega, by go_num, ?_, (hbel.trans (hb1.mono hbel.size)).setCell (Nat.le_refl _) _⟩, by simp [intOf]; omega⟩
      have h := HO1.out.set k (Gf.mul c (nth l k))
      have hd : (Gf.scale c (l.take k)).length = k := by rw [Gf.scale_length]; simp; omega
      have e := part_set (Gf.scale c (l.take k)) l.length (Gf.mul c (nth l k)) (by omega)
      rw [hd] at e
      rw [e, ← Gf.scale_take c l k hlt] at h
      exact h
    · have HT : Hid (l.take k = l) := Lib.hid (List.take_of_length_le (by omega))
      go_wp2_with fail
      go_ret
      refine ⟨w.heap.size, by rw [Gf.scale_length]; rfl, Nat.le_refl _, ?_, hbel⟩
      have h := HO.out
      rw [HT.out, part_all _ _ (Gf.scale_length c l)] at h
      exact h

theorem scale_any (c : Nat) (v : Value) (l : List Nat) (w : World) (hc : c < 256) (hn : l.length ≤ 281474976710656) (hB : Bytes w v l) :
    Calls Tryz.prog 36 #[U8 c, v] w (NewRow w (Gf.scale c l)) := by
  have hB0 := hB
  obtain ⟨a, cap, rfl, h1, h2, h3, h4⟩ := hB
  cases l with
  | nil => exact scale_empty c a cap w
  | cons x l =>
    obtain ⟨b, off, rfl, _, _⟩ := h4 (by simp)
    exact scale_some c b off cap _ w hc hn hB0

namespace Gf
/-- Two rows, added. -/
def add (s r : List Nat) : List Nat := List.zipWith (· ^^^ ·) s r
theorem add_length (s r : List Nat) (h : s.length = r.length) : (add s r).length = s.length := by simp [add, h]
theorem add_lt {s r : List Nat} (hs : ∀ x, x ∈ s → x < 256) (hr : ∀ x, x ∈ r → x < 256) : ∀ x, x ∈ add s r → x < 256 := by
  intro x hx
  unfold add at hx
  obtain ⟨i, hi, rfl⟩ := List.getElem_of_mem hx
  simp only [List.getElem_zipWith]
  exact xor_lt (hs _ (List.getElem_mem _)) (hr _ (List.getElem_mem _))
/-- The first k places are added already. -/
def addTo (s r : List Nat) (k : Nat) : List Nat := add (s.take k) (r.take k) ++ s.drop k
theorem addTo_length (s r : List Nat) (k : Nat) (h : s.length = r.length) : (addTo s r k).length = s.length := by simp [addTo, add, h]; omega
theorem addTo_zero (s r : List Nat) : addTo s r 0 = s := by simp [addTo, add]
theorem addTo_all (s r : List Nat) (k : Nat) (h : s.length = r.length) (hk : r.length ≤ k) : addTo s r k = add s r := by
  unfold addTo
  rw [List.take_of_length_le (by omega), List.take_of_length_le hk, List.drop_eq_nil_of_le (by omega), List.append_nil]
theorem addTo_nth (s r : List Nat) (k : Nat) (h : s.length = r.length) (hk : k < s.length) : nth (addTo s r k) k = nth s k := by
  rw [nth_eq _ _ (by rw [addTo_length s r k h]; exact hk), nth_eq s k hk]
  unfold addTo add
  rw [List.getElem_append_right (by simp; omega)]
  simp [h, show k - min k r.length = 0 by omega]
theorem addTo_step (s r : List Nat) (k : Nat) (h : s.length = r.length) (hk : k < s.length) : (addTo s r k).set k (nth s k ^^^ nth r k) = addTo s r (k + 1) := by
  have hl : (add (s.take k) (r.take k)).length = k := by simp [add]; omega
  unfold addTo
  rw [List.set_append_right _ _ (by omega), hl, Nat.sub_self, take_nth s k hk, take_nth r k (by omega)]
  rw [List.drop_eq_getElem_cons hk, List.set_cons_zero]
  unfold add
  rw [List.zipWith_append (by simp; omega)]
  simp
end Gf

set_option maxHeartbeats 400000 in
theorem addTo_empty (g n : Nat) (a : Option Addr) (cap : Nat) (w : World) :
    Calls Tryz.prog 35 #[whole g n, .slice a 0 cap] w fun e w' => e = .returned (.tuple #[]) ∧ w = w' := by
  go_enter Tryz.func35, Tryz.ntmps35
  go_wp2
  refine wp_loop_rounds 1 ?_
  rw [rounds_succ]
  go_wp2
  go_end0
  exact ⟨rfl, rfl⟩

/-- What addTo leaves: the block holds the sums, and of all others nothing has turned. -/
def Added (w : World) (g : Nat) (l : List Nat) (e : Ending) (w' : World) : Prop := e = .returned (.tuple #[]) ∧ Own w' g l ∧ w.grownBy w' (some g)

set_option maxHeartbeats 400000 in
theorem addTo_some (g b off cap : Nat) (s r : List Nat) (w : World) (hs : ∀ x, x ∈ s → x < 256) (hm : s.length ≤ 9223372036854775807) (hO : Own w g s) (hne : b ≠ g) (hB : Bytes w (.slice (some ⟨b, off, none⟩) r.length cap) r) (hl : s.length = r.length) :
    Calls Tryz.prog 35 #[whole g s.length, .slice (some ⟨b, off, none⟩) r.length cap] w (Added w g (Gf.add s r)) := by
  have HB := Lib.hid hB
  have HO := Lib.hid hO
  have HS := Lib.hid hs
  have HL := Lib.hid hl
  have hle : r.length ≤ s.length := by omega
  clear hB hO hs hl
  go_enter Tryz.func35, Tryz.ntmps35
  go_wp2
  go_loopw [4, 5, 8] (fun _ _ i wr => ∃ k : Nat, k ≤ r.length ∧ i = .int .i64 k ∧ Own wr g (Gf.addTo s r k) ∧ w.grownBy wr (some g)) (fun _ _ i _ => r.length - (intOf i).toNat)
  case atStart => exact ⟨0, by omega, rfl, by rw [Gf.addTo_zero]; exact HO.out, grown_refl _ _⟩
  case round =>
    obtain ⟨k, hk, rfl, hown, hgr⟩ := hrel
    have HOw := Lib.hid hown
    clear hown
    by_cases hlt : k < r.length
    · have hBr := HB.out.grown hgr (Or.inr (by simpa [Value.ownBlock] using hne))
      have hcell := hBr.cell k hlt
      have x1 := nth_lt hBr.lt k
      have x2 := nth_lt HS.out k
      have hcell0 := HOw.out.cell k (by rw [Gf.addTo_length s r k HL.out]; omega)
      rw [Gf.addTo_nth s r k HL.out (by omega)] at hcell0
      clear hBr
      go_wp2_with fail
      refine (add2w _ _ _ _ _ rfl x2 x1).mono ?_
      rintro e w1 ⟨rfl, hb1⟩
      have hown1 := HOw.out.below HOw.out.lt hb1
      have hcell1 := hown1.cell k (by rw [Gf.addTo_length s r k HL.out]; omega)
      have hfr := hown1.free k
      have HO1 := Lib.hid hown1
      clear hown1
      go_wp2_with fail
      refine ⟨⟨k + 1, by omega, by go_num, ?_, grown_trans (grown_trans hgr (grown_of_below hb1 _)) (grown_setCell _ ⟨g, k, none⟩ _)⟩, by simp [intOf]; omega⟩
      have h := HO1.out.set k (nth s k ^^^ nth r k)
      rw [Gf.addTo_step s r k HL.out (by omega)] at h
      exact h
    · go_wp2_with fail
      go_end0
      refine ⟨rfl, ?_, hgr⟩
      have h := HOw.out
      rw [Gf.addTo_all s r k HL.out (by omega)] at h
      exact h

theorem addTo_any (g n : Nat) (v : Value) (s r : List Nat) (w : World) (hn : s.length = n) (hs : ∀ x, x ∈ s → x < 256) (hm : n ≤ 9223372036854775807) (hO : Own w g s) (hne : r ≠ [] → v.ownBlock ≠ some g) (hB : Bytes w v r) (hl : n = r.length) :
    Calls Tryz.prog 35 #[whole g n, v] w (Added w g (Gf.add s r)) := by
  subst hn
  have hB0 := hB
  obtain ⟨a, cap, rfl, h1, h2, h3, h4⟩ := hB
  cases r with
  | nil =>
    have e : s = [] := List.length_eq_zero_iff.1 hl
    subst e
    exact (addTo_empty g 0 a cap w).mono fun _ _ h => ⟨h.1, h.2 ▸ hO, h.2 ▸ grown_refl _ _⟩
  | cons x r =>
    obtain ⟨b, off, rfl, _, _⟩ := h4 (by simp)
    exact addTo_some g b off cap s _ w hs hm hO (by simpa [Value.ownBlock] using hne (by simp)) hB0 hl

end Go.Proofs.YtphdadibfeencaaGreat

/-
  Slices of slices of bytes in memory: what is said of one that is read; one that came in, opened.
-/
set_option maxRecDepth 100000
namespace Go.Proofs.YtphdadibfeencaaGreat
open Go.ChangeShapes Go.WideShapes Go.ChangeAt Go.RowKit

/-- The row of a place: by a name of its own, so that the walk leaves it as it is. -/
def rowAt (ll : List (List Nat)) (i : Nat) : List Nat := ll.getD i []

/-- The value is a slice of slices that reads as these rows. -/
def IsRows (w : World) (v : Value) (ll : List (List Nat)) : Prop :=
  ∃ a cap, v = .slice a ll.length cap ∧ ll.length ≤ cap ∧ cap ≤ 9223372036854775807 ∧
    (ll ≠ [] → ∃ b off, a = some ⟨b, off, none⟩ ∧ b < w.heap.size ∧ ∀ i, i < ll.length → ∃ u, w.cell? ⟨b, off + i, none⟩ = some u ∧ Bytes w u (rowAt ll i))

theorem IsRows.below {w w' : World} {v : Value} {ll : List (List Nat)} {B : Nat} (h : IsRows w v ll) (hB : w.heap.size ≤ B) (hb : Below B w w') : IsRows w' v ll := by
  obtain ⟨a, cap, rfl, h1, h2, h4⟩ := h
  refine ⟨a, cap, rfl, h1, h2, fun hne => ?_⟩
  obtain ⟨b, off, rfl, hlt, hc⟩ := h4 hne
  refine ⟨b, off, rfl, Nat.lt_of_lt_of_le hlt hb.size, fun i hi => ?_⟩
  obtain ⟨u, hu, hu2⟩ := hc i hi
  exact ⟨u, by rw [hb.cell (p := ⟨b, off + i, none⟩) (by show b < B; omega)]; exact hu, hu2.below hB hb⟩
theorem IsRows.go {w w' : World} {v : Value} {ll : List (List Nat)} (h : IsRows w v ll) (hb : Below w.heap.size w w') : IsRows w' v ll := h.below (Nat.le_refl _) hb

theorem IsRows.cell {w : World} {b off n cap : Nat} {ll : List (List Nat)} (h : IsRows w (.slice (some ⟨b, off, none⟩) n cap) ll) (k : Nat) (hk : k < ll.length) : ∃ u, w.cell? ⟨b, off + k, none⟩ = some u ∧ Bytes w u (rowAt ll k) := by
  obtain ⟨a, cap', e, _, _, h4⟩ := h
  obtain ⟨b', off', rfl, _, hc⟩ := h4 (by intro h; rw [h] at hk; simp at hk)
  simp only [Value.slice.injEq, Option.some.injEq, Addr.mk.injEq] at e
  obtain ⟨⟨rfl, rfl, _⟩, _, _⟩ := e
  exact hc k hk

/-- A row's value is still there, where nothing below has turned. -/
theorem IsRows.at {w w' : World} {b off n cap : Nat} {ll : List (List Nat)} (h : IsRows w (.slice (some ⟨b, off, none⟩) n cap) ll) (hb : Below w.heap.size w w') (k : Nat) (hk : k < ll.length) : ∃ u, w'.cell? ⟨b, off + k, none⟩ = some u ∧ Bytes w u (rowAt ll k) := by
  obtain ⟨u, hu, hB⟩ := h.cell k hk
  exact ⟨u, by rw [hb.cell (p := ⟨b, off + k, none⟩) (World.block_lt_of_cell? w _ hu)]; exact hu, hB⟩

theorem rowAt_eq (ll : List (List Nat)) (i : Nat) (h : i < ll.length) : rowAt ll i = ll[i] := by
  unfold rowAt; rw [List.getD_eq_getElem?_getD, List.getElem?_eq_getElem h]; rfl
theorem take_rowAt (ll : List (List Nat)) (k : Nat) (h : k < ll.length) : ll.take (k + 1) = ll.take k ++ [rowAt ll k] := by
  rw [List.take_succ_eq_append_getElem h, rowAt_eq ll k h]

end Go.Proofs.YtphdadibfeencaaGreat

/-
  Many bytes at once (layer 2) in the program: are rows alike? ('alike', its closure, and the library's IndexFunc and ContainsFunc over it).
-/
set_option maxRecDepth 100000
namespace Go.Proofs.YtphdadibfeencaaGreat
open Go.RowKit

/-- Has each row the length of the first? -/
def alikeB (ll : List (List Nat)) : Bool := ll.all fun r => r.length == (rowAt ll 0).length

set_option maxHeartbeats 400000 in
theorem alike1_any (bx b off n cap n0 n1 c0 c1 : Nat) (a0 a1 : Option Addr) (w : World) (hn : 1 ≤ n) (hbx : w.cell? ⟨bx, 0, none⟩ = some (.slice (some ⟨b, off, none⟩) n cap)) (h0 : w.cell? ⟨b, off, none⟩ = some (.slice a0 n0 c0)) :
    Calls Tryz.prog 56 #[.slice a1 n1 c1, .pointer (some ⟨bx, 0, none⟩)] w fun e w' => e = .returned (.bool ((n1 : Int) != (n0 : Int))) ∧ w = w' := by
  go_enter Tryz.func56, Tryz.ntmps56
  go_wp2_with fail
  go_ret
  exact ⟨rfl, rfl⟩

/-- A place was found, or none: which, it doesn't say. -/
def Found (t : Bool) (w : World) (e : Ending) (w' : World) : Prop := ∃ r : Int, e = .returned (.int .i64 r) ∧ decide (0 ≤ r) = t ∧ w = w'

/-- The first length, and whether another row has another one. -/
theorem alikeB_eq (ll : List (List Nat)) : (!alikeB ll) = decide (∃ i, i < ll.length ∧ (rowAt ll i).length ≠ (rowAt ll 0).length) := by
  rw [Bool.eq_iff_iff]
  simp only [alikeB, Bool.not_eq_true', List.all_eq_false, beq_iff_eq, decide_eq_true_eq]
  constructor
  · rintro ⟨x, hx, hne⟩
    obtain ⟨i, hi, rfl⟩ := List.getElem_of_mem hx
    exact ⟨i, hi, by rw [rowAt_eq ll i hi]; exact hne⟩
  · rintro ⟨i, hi, hne⟩
    exact ⟨ll[i], List.getElem_mem hi, by rw [rowAt_eq ll i hi] at hne; exact hne⟩

set_option maxHeartbeats 400000 in
theorem idxAlike_any (bx b off cap : Nat) (ll : List (List Nat)) (w : World) (hn : 1 ≤ ll.length) (hbx : w.cell? ⟨bx, 0, none⟩ = some (.slice (some ⟨b, off, none⟩) ll.length cap)) (hR : IsRows w (.slice (some ⟨b, off, none⟩) ll.length cap) ll) :
    Calls Tryz.prog 59 #[.slice (some ⟨b, off, none⟩) ll.length cap, .func (Fn.func 56) #[] #[.pointer (some ⟨bx, 0, none⟩)]] w (Found (!alikeB ll) w) := by
  have hcap : ll.length ≤ 9223372036854775807 := by obtain ⟨_, _, _, h1, h2, _⟩ := hR; omega
  have HR := Lib.hid hR
  have HA := Lib.hid (alikeB_eq ll)
  obtain ⟨u0, hu0, hB0⟩ := hR.cell 0 (by omega)
  obtain ⟨a0, c0, rfl, _⟩ := hB0
  rw [Nat.add_zero] at hu0
  clear hR
  go_enter Tryz.func59, Tryz.ntmps59
  go_wp2
  go_loop [5, 8] (fun _ i => ∃ k : Nat, k ≤ ll.length ∧ i = .int .i64 k ∧ ∀ j, j < k → (rowAt ll j).length = (rowAt ll 0).length) (fun _ i => ll.length - (intOf i).toNat)
  case atStart => exact ⟨0, by omega, rfl, fun j hj => by omega⟩
  case round =>
    obtain ⟨k, hk, rfl, hno⟩ := hrel
    have HN := Lib.hid hno
    clear hno
    by_cases hlt : k < ll.length
    · obtain ⟨u, hu, hB⟩ := HR.out.cell k hlt
      obtain ⟨a1, c1, rfl, _⟩ := hB
      by_cases hq : (rowAt ll k).length = (rowAt ll 0).length
      · have hb : (((rowAt ll k).length : Int) != ((rowAt ll 0).length : Int)) = false := by rw [hq]; simp
        have HQ := Lib.hid hq
        clear hq
        go_wp2_with fail
        refine (alike1_any _ _ _ _ _ _ _ _ _ _ _ _ hn hbx hu0).mono ?_
        rintro e w' ⟨rfl, rfl⟩
        rw [hb]
        go_wp2_with fail
        go_round
        case rel => exact ⟨k + 1, by omega, by go_num, fun j hj => by
          by_cases h : j = k
          · rw [h]; exact HQ.out
          · exact HN.out j (by omega)⟩
        case measure => simp [intOf]; omega
      · have hb : (((rowAt ll k).length : Int) != ((rowAt ll 0).length : Int)) = true := by rw [bne_iff_ne]; omega
        have HF : Hid ((!alikeB ll) = true) := Lib.hid (by rw [HA.out, decide_eq_true_eq]; exact ⟨k, hlt, hq⟩)
        clear hq
        go_wp2_with fail
        refine (alike1_any _ _ _ _ _ _ _ _ _ _ _ _ hn hbx hu0).mono ?_
        rintro e w' ⟨rfl, rfl⟩
        rw [hb]
        go_wp2_with fail
        go_ret
        exact ⟨k, rfl, by rw [HF.out]; simp, rfl⟩
    · have HF : Hid ((!alikeB ll) = false) := Lib.hid (by
        rw [HA.out, decide_eq_false_iff_not]
        rintro ⟨i, hi, hne⟩
        exact hne (HN.out i (by omega)))
      go_wp2_with fail
      go_ret
      exact ⟨-1, rfl, by rw [HF.out]; decide, rfl⟩

set_option maxHeartbeats 400000 in
theorem idxAlike_empty (f : Value) (a : Option Addr) (cap : Nat) (w : World) :
    Calls Tryz.prog 59 #[.slice a 0 cap, f] w (Found false w) := by
  go_enter Tryz.func59, Tryz.ntmps59
  go_wp2
  refine wp_loop_rounds 1 ?_
  rw [rounds_succ]
  go_wp2
  go_ret
  exact ⟨-1, rfl, rfl, rfl⟩

set_option maxHeartbeats 400000 in
theorem hasAlike_any (v f : Value) (t : Bool) (w : World) (h : Calls Tryz.prog 59 #[v, f] w (Found t w)) :
    Calls Tryz.prog 39 #[v, f] w fun e w' => e = .returned (.bool t) ∧ w = w' := by
  have H := Lib.hid h
  clear h
  go_enter Tryz.func39, Tryz.ntmps39
  go_wp2_with fail
  refine H.out.mono ?_
  rintro e w' ⟨r, rfl, ht, rfl⟩
  go_wp2_with fail
  go_ret
  exact ⟨rfl, rfl⟩

set_option maxHeartbeats 400000 in
theorem alike_some (b off cap : Nat) (ll : List (List Nat)) (w : World) (hn : 1 ≤ ll.length) (hR : IsRows w (.slice (some ⟨b, off, none⟩) ll.length cap) ll) :
    Calls Tryz.prog 33 #[.slice (some ⟨b, off, none⟩) ll.length cap] w fun e w' => e = .returned (.bool (alikeB ll)) ∧ Below w.heap.size w w' := by
  have hmf : ∀ (fn : Fn) (first cap : Array Value) (w : World), (Instr.makeFunc fn first cap).run Tryz.prog w = .ok (.func fn first cap) w := fun _ _ _ _ => rfl
  have HR := Lib.hid hR
  clear hR
  go_enter Tryz.func33, Tryz.ntmps33
  go_wp2_with fail
  have hb1 : Below w.heap.size w (w.alloc (.cells #[.slice (some ⟨b, off, none⟩) ll.length cap] 22)) := (Below.refl _ _).alloc (Nat.le_refl _) _
  refine (hasAlike_any _ _ _ _ (idxAlike_any w.heap.size b off cap ll _ hn (by rw [World.cell?_alloc_at _ _ _ _ rfl]; rfl) (HR.out.below (Nat.le_refl _) hb1))).mono ?_
  rintro e w' ⟨rfl, rfl⟩
  go_wp2_with fail
  go_ret
  exact ⟨by simp, hb1⟩

set_option maxHeartbeats 400000 in
theorem alike_empty (a : Option Addr) (cap : Nat) (w : World) :
    Calls Tryz.prog 33 #[.slice a 0 cap] w fun e w' => e = .returned (.bool true) ∧ Below w.heap.size w w' := by
  have hmf : ∀ (fn : Fn) (first cap : Array Value) (w : World), (Instr.makeFunc fn first cap).run Tryz.prog w = .ok (.func fn first cap) w := fun _ _ _ _ => rfl
  go_enter Tryz.func33, Tryz.ntmps33
  go_wp2_with fail
  have hb1 : Below w.heap.size w (w.alloc (.cells #[.slice a 0 cap] 22)) := (Below.refl _ _).alloc (Nat.le_refl _) _
  refine (hasAlike_any _ _ _ _ (idxAlike_empty _ _ _ _)).mono ?_
  rintro e w' ⟨rfl, rfl⟩
  go_wp2_with fail
  go_ret
  exact ⟨rfl, hb1⟩

theorem alike_any (v : Value) (ll : List (List Nat)) (w : World) (hR : IsRows w v ll) :
    Calls Tryz.prog 33 #[v] w fun e w' => e = .returned (.bool (alikeB ll)) ∧ Below w.heap.size w w' := by
  have hR0 := hR
  obtain ⟨a, cap, rfl, h1, h2, h4⟩ := hR
  cases ll with
  | nil => exact alike_empty a cap w
  | cons x ll =>
    obtain ⟨b, off, rfl, _, _⟩ := h4 (by simp)
    exact alike_some b off cap _ w (by simp) hR0

end Go.Proofs.YtphdadibfeencaaGreat

/-
  A slice of bytes that a call appends to, byte by byte.
-/
set_option maxRecDepth 100000
namespace Go.Proofs.YtphdadibfeencaaGreat
open Go.RowKit

/-- The value is no slice yet, or one whose block, from B on, the call made itself. -/
def Owns (w : World) (B : Nat) (v : Value) (l : List Nat) : Prop := w.ownsRow B 5 1 v l.length (l.map U8)

theorem Owns.nil (w : World) (B : Nat) : Owns w B (.slice none 0 0) [] := World.ownsRow_nil _ _ _ _

theorem Owns.bytes {w : World} {B : Nat} {v : Value} {l : List Nat} (h : Owns w B v l) (hl : ∀ x, x ∈ l → x < 256) : Bytes w v l := by
  rcases h.2 with ⟨rfl, h0⟩ | ⟨g, cap, cur, rfl, hB, hg, hn, hc, hsz, ht⟩
  · have e : l = [] := List.length_eq_zero_iff.1 h0
    subst e
    exact ⟨none, 0, rfl, by simp, by omega, by simp, fun h => absurd rfl h⟩
  · refine ⟨some ⟨g, 0, none⟩, cap, rfl, hn, by simpa [maxLen] using hc, hl, fun _ => ⟨g, 0, rfl, (Array.getElem?_eq_some_iff.1 hg).1, fun i hi => ?_⟩⟩
    have h1 := World.ownsRow.cells h (g := g) rfl i (U8 (nth l i)) (by rw [nth_eq l i hi]; simp [hi])
    rw [show (⟨g, 0, none⟩ : Addr).add i = ⟨g, i, none⟩ from by unfold Addr.add; split <;> simp_all] at h1
    rw [Nat.zero_add]; exact h1

theorem Owns.below {w w' : World} {B C : Nat} {v : Value} {l : List Nat} (h : Owns w B v l) (hC : w.heap.size ≤ C) (hb : Below C w w') : Owns w' B v l :=
  h.kept (row := none) ⟨hb.os, hb.tape, hb.output, hb.size, fun k hk _ => hb.block k (by omega)⟩ (by cases hv : v.ownBlock <;> simp)

theorem Owns.from {w : World} {B : Nat} {v : Value} {l : List Nat} (h : Owns w B v l) : ∀ k, v.ownBlock = some k → B ≤ k := fun k hk => (World.ownsRow.lt h k hk).1

theorem Owns.mono {w : World} {B C : Nat} {v : Value} {l : List Nat} (h : Owns w B v l) (hC : C ≤ B) : Owns w C v l := by
  refine ⟨h.1, ?_⟩
  rcases h.2 with hn | ⟨g, cap, cur, e, hB, rest⟩
  · exact Or.inl hn
  · exact Or.inr ⟨g, cap, cur, e, Nat.le_trans hC hB, rest⟩

theorem infoByte : (Tryz.prog.info? 5).map (fun i => (i.zero, i.size, i.bytes)) = some (some (.int .u8 0), 1, 1) := by kernel_rfl

/-- 'out = append(out, y)', of one byte. -/
theorem wpList_append_byte {ops : Array Oper} {rest : List Oper} {o : Oper} {a : Act} {Q : Exit → Act → World → Prop} {w : World} (hgd : o.guard = none) (s x : Operand) (ho : o.op = .call { callee := .builtin .append, args := #[s, x], argTypes := #[23, 23] })
    (B k : Nat) (v : Value) (l : List Nat) (y : Nat) (T : TypeId) (hs : a.eval s = v) (hx : a.eval x = .slice (some ⟨k, 0, none⟩) 1 1) (hk : k = w.heap.size) (hown : Owns w B v l) (hB : B ≤ w.heap.size) (hn : l.length + 1 ≤ 281474976710656 / 4)
    (h : ∀ v' w', Owns w' B v' (l ++ [y]) → w.grownBy w' v.ownBlock → wpList Tryz.prog ops Q rest (a.put o.dst v') w') :
    wpList Tryz.prog ops Q (o :: rest) a (w.alloc (.cells #[U8 y] T)) := by
  subst hk
  obtain ⟨i0, hi, hz0, hz1, hz2⟩ := info_parts infoByte
  refine wpList_append_own _ hgd s x 23 ho B 5 i0 (.int .u8 0) 1 1 Tryz.underlying23 hi hz0 hz1 hz2 rfl (by decide) v l.length (l.map U8) hs (World.ownsRow.alloc hown _)
    ⟨w.heap.size, 0, none⟩ 1 1 [U8 y] hx rfl ?_ ?_ ?_ ?_ ?_ ?_
  · intro j u hj
    match j, hj with
    | 0, hj => simp at hj; subst hj; simp [Addr.add]
  · intro u hu; simp at hu; subst hu; rfl
  · unfold maxLen; omega
  · omega
  · simp; omega
  · intro v' w' h1 h2 _
    refine h v' w' ?_ (grown_trans (World.grownBy_alloc w _ _) h2)
    unfold Owns
    simpa using h1

/-- The answer is a slice that the call grew itself, or none. -/
def GrownRow (w : World) (l : List Nat) (e : Ending) (w' : World) : Prop := ∃ v, e = .returned v ∧ Owns w' w.heap.size v l ∧ Below w.heap.size w w'
/-- The answer reads as these bytes; of what was there nothing has turned. -/
def BytesV (w : World) (l : List Nat) (e : Ending) (w' : World) : Prop := ∃ v, e = .returned v ∧ Bytes w' v l ∧ Below w.heap.size w w'

/-- The same, and an error's number. -/
def BytesE (w : World) (l : List Nat) (err : Int) (e : Ending) (w' : World) : Prop := ∃ v, e = .returned (.tuple #[v, .int .i64 err]) ∧ Bytes w' v l ∧ Below w.heap.size w w'
theorem Bytes.nil (w : World) : Bytes w (.slice none 0 0) [] := ⟨none, 0, rfl, by simp, by omega, by simp, fun h => absurd rfl h⟩

end Go.Proofs.YtphdadibfeencaaGreat
