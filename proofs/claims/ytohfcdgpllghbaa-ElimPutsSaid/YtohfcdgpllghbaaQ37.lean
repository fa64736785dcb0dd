/- Texts of one seat, laid together: LawEightH. -/
import Derived.Test.YtohfcdgpllghbaaQ36

/-
  The laws of equations (layer 8): ElimPuts, all of it.
-/
set_option maxRecDepth 100000
namespace Go.Proofs.Ytohfcdgpllghbaa
open Go.RowKit

theorem elimPuts_walk (k t : Int) (v : Value) (L : List Rw) (i : Int) (w : World) (k0 : -9223372036854775808 ≤ k) (k1 : k ≤ 9223372036854775807) (t0 : -9223372036854775808 ≤ t) (t1 : t ≤ 9223372036854775807) (hL : IsRL w v L) (_i0 : -9223372036854775808 ≤ i) (_i1 : i ≤ 9223372036854775807) :
    Calls Try.prog 6 #[.int .i64 k, .int .i64 t, v, .int .i64 i] w fun e w' => e = .returned (.bool true) ∧ Below w.heap.size w w' := by
  cases hf : few8 L with
  | false => exact elimPuts_out k t i v L w hL hf
  | true =>
    by_cases hn : newOk k t
    · obtain ⟨n1, n2, n3, n4⟩ := id hn
      obtain ⟨a, rfl⟩ : ∃ a : Nat, k = (a : Int) := ⟨k.toNat, by omega⟩
      obtain ⟨b, rfl⟩ : ∃ b : Nat, t = (b : Int) := ⟨t.toNat, by omega⟩
      by_cases ha : 20 < a
      · exact elimPuts_big a b i v L w hL hf hn (.inl ha)
      · by_cases hb : 20 < b
        · exact elimPuts_big a b i v L w hL hf hn (.inr ⟨by omega, hb⟩)
        · exact elimPuts_loop a b i v L w hL hf (by omega) (by omega) (by omega)
    · exact elimPuts_bad k t i v L w hL hf hn

end Go.Proofs.Ytohfcdgpllghbaa
