/-
  The statements of layer 1 (field), walked: parts, powers of 2, and a field's laws.
-/
import Derived.Test.YtgjjkiebfekkjaaLawOne
set_option maxRecDepth 100000
namespace Go.Proofs.Ytgjjkiebfekkjaa
open Go.RowKit

theorem rem255_small (k : Nat) (h : k < 255) : rem255 (k : Int) = k := by unfold rem255; omega

theorem mul2b (a b : Nat) (T : TypeId) (k : Nat) (w w0 : World) (hk : k = w.heap.size) (ha : a < 256) (hb : b < 256) (h0 : Below w0.heap.size w0 w) :
    Calls Try.prog 41 #[.slice (some ⟨k, 0, none⟩) 2 2] (w.alloc (.cells #[U8 a, U8 b] T)) fun e w' => e = .returned (U8 (Gf.mul a b)) ∧ Below w0.heap.size w0 w' :=
  (mul2 a b T k w hk ha hb).mono fun _ _ h => ⟨h.1, h.2 ▸ h0.alloc h0.size _⟩

theorem add2b (a b : Nat) (T : TypeId) (k : Nat) (w w0 : World) (hk : k = w.heap.size) (ha : a < 256) (hb : b < 256) (h0 : Below w0.heap.size w0 w) :
    Calls Try.prog 43 #[.slice (some ⟨k, 0, none⟩) 2 2] (w.alloc (.cells #[U8 a, U8 b] T)) fun e w' => e = .returned (U8 (a ^^^ b)) ∧ Below w0.heap.size w0 w' :=
  (add2 a b T k w hk ha hb).mono fun _ _ h => ⟨h.1, h.2 ▸ h0.alloc h0.size _⟩

theorem mul3b (a b c : Nat) (T : TypeId) (k : Nat) (w w0 : World) (hk : k = w.heap.size) (ha : a < 256) (hb : b < 256) (hc : c < 256) (h0 : Below w0.heap.size w0 w) :
    Calls Try.prog 41 #[.slice (some ⟨k, 0, none⟩) 3 3] (w.alloc (.cells #[U8 a, U8 b, U8 c] T)) fun e w' => e = .returned (U8 (Gf.mul (Gf.mul a b) c)) ∧ Below w0.heap.size w0 w' :=
  (mul3 a b c T k w hk ha hb hc).mono fun _ _ h => ⟨h.1, h.2 ▸ h0.alloc h0.size _⟩

theorem mul2c (x y : Int) (a b c : Nat) (T : TypeId) (k : Nat) (w w0 : World) (hk : k = w.heap.size) (hx : x = a) (hy : y = b) (ha : a < 256) (hb : b < 256) (hc : Gf.mul a b = c) (h0 : Below w0.heap.size w0 w) :
    Calls Try.prog 41 #[.slice (some ⟨k, 0, none⟩) 2 2] (w.alloc (.cells #[.int .u8 x, .int .u8 y] T)) fun e w' => e = .returned (U8 c) ∧ Below w0.heap.size w0 w' := by
  subst hx; subst hy; subst hc
  exact mul2b a b T k w w0 hk ha hb h0

theorem add2_lit (x y : Int) (a b c : Nat) (T : TypeId) (k : Nat) (w w0 : World) (hk : k = w.heap.size) (hx : x = a) (hy : y = b) (ha : a < 256) (hb : b < 256) (hc : a ^^^ b = c) (h0 : Below w0.heap.size w0 w) :
    Calls Try.prog 43 #[.slice (some ⟨k, 0, none⟩) 2 2] (w.alloc (.cells #[.int .u8 x, .int .u8 y] T)) fun e w' => e = .returned (U8 c) ∧ Below w0.heap.size w0 w' := by
  subst hx; subst hy; subst hc
  exact add2b a b T k w w0 hk ha hb h0

end Go.Proofs.Ytgjjkiebfekkjaa
