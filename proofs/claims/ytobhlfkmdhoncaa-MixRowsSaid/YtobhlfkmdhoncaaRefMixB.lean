/-
  The document's answer for bytes out of a seed (wellspringref05), in the program: 'Put'.
-/
import Derived.Test.YtobhlfkmdhoncaaRefMix
import Derived.Test.YtobhlfkmdhoncaaLawTwo
set_option maxRecDepth 100000
namespace Go.Proofs.Ytobhlfkmdhoncaa
open Go.RowKit

/-- A slice of one byte over a new block. -/
theorem Owns.single (w : World) (B y : Nat) (hB : B ≤ w.heap.size) : Owns (w.alloc (.cells #[U8 y] 5)) B (.slice (some ⟨w.heap.size, 0, none⟩) 1 1) [y] :=
  World.ownsRow_lit w #[U8 y] 1 hB (by decide) rfl

/-- The lowest k bytes of a number, the highest first. -/
def putB (s : Nat) : Nat → List Nat
  | 0 => []
  | k + 1 => s / 256 ^ k % 256 :: putB s k
theorem putB_length (s : Nat) : ∀ k, (putB s k).length = k
  | 0 => rfl
  | k + 1 => by rw [putB, List.length_cons, putB_length s k]
theorem putB_lt (s : Nat) : ∀ k, ∀ x, x ∈ putB s k → x < 256
  | 0 => by intro x hx; simp [putB] at hx
  | k + 1 => by
    intro x hx
    rcases List.mem_cons.1 hx with rfl | hx
    · exact Nat.mod_lt _ (by decide)
    · exact putB_lt s k x hx

set_option maxHeartbeats 400000 in
theorem refput_any (s : Nat) (w : World) (hs : s < 18446744073709551616) :
    Calls Try.prog 22 #[U64 s] w (BytesV w (putB s 8)) := by
  have HN := Lib.hid hs
  have HQ := Lib.hid (fun k => (show IntKind.u64.wrap (((s / 256 ^ k : Nat) : Int) / 256) = ((s / 256 ^ (k + 1) : Nat) : Int) by
    rw [quot_spell (Nat.lt_of_le_of_lt (Nat.div_le_self _ _) hs), Nat.pow_succ, ← Nat.div_div_eq_div_mul]))
  have H0 := Lib.hid (show s / 256 ^ 0 = s by simp)
  clear hs
  go_enter Try.func22, Try.ntmps22
  go_wp2_with fail
  go_loopw [0, 3, 4] (fun x v i wr => ∃ k : Nat, k ≤ 8 ∧ i = .int .i64 k ∧ x = U64 (s / 256 ^ k) ∧ Owns wr w.heap.size v (putB s k) ∧ Below w.heap.size w wr) (fun _ _ i _ => 8 - (intOf i).toNat)
  case atStart => exact ⟨0, by omega, rfl, by rw [H0.out], Owns.nil _ _, Below.refl _ _⟩
  case round =>
    obtain ⟨k, hk, rfl, rfl, hown, hbel⟩ := hrel
    have HO := Lib.hid hown
    have HS := Lib.hid hown.shape
    clear hown
    have hz := hbel.size
    by_cases hk8 : k < 8
    · have HQk := Lib.hid (HQ.out k)
      have HL := Lib.hid (putB_length s k)
      have HLT := Lib.hid (putB_lt s k)
      have HP := Lib.hid (show putB s (k + 1) = s / 256 ^ k % 256 :: putB s k from rfl)
      obtain ⟨x, hx⟩ : ∃ x, x = s / 256 ^ k := ⟨_, rfl⟩
      rw [← hx] at HQk HP ⊢
      obtain ⟨y, hy⟩ : ∃ y : Nat, y = x % 256 := ⟨_, rfl⟩
      rw [← hy] at HP
      have hyI : (x : Int) % 256 = (y : Int) := by omega
      have hy1 : y < 256 := by omega
      have hkI : (k : Int) < 8 := by omega
      have HK := Lib.hid hk8
      have hba : Below w.heap.size w (wr.alloc (.cells #[U8 y] 5)) := hbel.alloc hz _
      have HBA := Lib.hid (hba)
      have HB := Lib.hid ((HO.out.below (Nat.le_refl _) ((Below.refl _ _).alloc (Nat.le_refl _) (.cells #[U8 y] 5))).bytes HLT.out)
      clear hx hy hk hk8 hba
      go_wp2_with (at_builtin; refine wpList_append_bytes rfl (.tmp 12) (.tmp 13) rfl w.heap.size _ _ [y] (putB s k) rfl rfl (Owns.single wr w.heap.size y hz) HB.out ?c1 ?c2 ?_)
      case c1 => have := HBA.out.size; simp; omega
      case c2 => rw [HL.out]; have := HK.out; simp; omega
      intro v' w2 hown2 hgr
      have HO2 := Lib.hid hown2
      have HG2 := Lib.hid (below_grown HBA.out hgr HBA.out.size hz)
      clear hown2 hgr
      go_wp2_with fail
      have hh := HK.out
      exact ⟨⟨k + 1, by omega, by go_num, by rw [HQk.out], by rw [HP.out]; exact HO2.out, HG2.out⟩, by simp [intOf]; omega⟩
    · obtain rfl : k = 8 := by omega
      go_wp2_with fail
      go_ret
      exact ⟨_, rfl, HO.out.bytes (putB_lt s 8), hbel⟩

end Go.Proofs.Ytobhlfkmdhoncaa
