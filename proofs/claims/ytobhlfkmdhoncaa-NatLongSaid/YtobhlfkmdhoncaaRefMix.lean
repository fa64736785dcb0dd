/-
  The document's answer for bytes out of a seed (wellspringref05), in the program: 'shifted', 'Next', 'Bytes', 'Put'.
-/
import Derived.Test.YtobhlfkmdhoncaaMixMath
import Derived.Test.YtobhlfkmdhoncaaRefOne
import Derived.Test.YtobhlfkmdhoncaaBlk
import Derived.Test.YtobhlfkmdhoncaaGrow
import Derived.Test.YtobhlfkmdhoncaaGrowS
import Derived.Deep.DeepCutAuto
set_option maxRecDepth 100000
namespace Go.Proofs.Ytobhlfkmdhoncaa
open Go.RowKit

theorem ret_u64 {a : Int} {b : Nat} (h : a = b) : Ending.returned (.int .u64 a) = .returned (U64 b) := by rw [h]

theorem sh_spell {z k : Nat} (hz : z < 18446744073709551616) : Go.bits BinOp.xor IntKind.u64 (z : Int) ((z / 2 ^ k : Nat) : Int) = (Mx.sh z k : Int) := by
  rw [u64_xor_nat _ _ hz (Nat.lt_of_le_of_lt (Nat.div_le_self _ _) hz)]; rfl

theorem half_spell {z : Nat} (hz : z < 18446744073709551616) (j : Nat) : IntKind.u64.wrap (((z / 2 ^ j : Nat) : Int) / 2) = ((z / 2 ^ (j + 1) : Nat) : Int) := by
  have h := Nat.lt_of_le_of_lt (Nat.div_le_self z (2 ^ j)) hz
  rw [IntKind.wrap_u64, Nat.pow_succ, ← Nat.div_div_eq_div_mul]
  generalize z / 2 ^ j = x at h ⊢
  omega

set_option maxHeartbeats 400000 in
theorem shifted5_any (z k : Nat) (w : World) (hz : z < 18446744073709551616) (hk : k ≤ 64) :
    Calls Try.prog 44 #[U64 z, .int .i64 k] w fun e w' => e = .returned (U64 (Mx.sh z k)) ∧ w = w' := by
  have HS := Lib.hid (sh_spell (k := k) hz)
  go_enter Try.func44, Try.ntmps44
  go_wp2_with fail
  go_loop [5, 6] (fun x i => ∃ j : Nat, j ≤ k ∧ i = .int .i64 j ∧ x = U64 (z / 2 ^ j)) (fun _ i => k - (intOf i).toNat)
  case atStart => exact ⟨0, by omega, rfl, by simp⟩
  case round =>
    obtain ⟨j, hj, rfl, rfl⟩ := hrel
    by_cases hlt : j < k
    · have HD := Lib.hid (show IntKind.u64.wrap (((z / 2 ^ j : Nat) : Int) / 2) = ((z / 2 ^ (j + 1) : Nat) : Int) from half_spell hz j)
      obtain ⟨x, hx⟩ : ∃ x, x = z / 2 ^ j := ⟨_, rfl⟩
      rw [← hx] at HD ⊢
      clear hx
      go_wp2_with fail
      go_round
      case rel => exact ⟨j + 1, by omega, by go_num, by rw [HD.out]⟩
      case measure => simp [intOf]; omega
    · obtain rfl : j = k := by omega
      obtain ⟨x, hx⟩ : ∃ x, x = z / 2 ^ j := ⟨_, rfl⟩
      rw [← hx] at HS ⊢
      clear hx
      go_wp2_with fail
      go_ret
      exact ⟨ret_u64 HS.out, rfl⟩

set_option maxHeartbeats 400000 in
theorem refnext_any (s : Nat) (w : World) :
    Calls Try.prog 15 #[U64 s] w fun e w' => e = .returned (.tuple #[U64 (Mx.step s), U64 (Mx.mixed (Mx.step s))]) ∧ w = w' := by
  have h1 := Mx.step_lt s
  obtain ⟨z, hz⟩ : ∃ z, z = Mx.step s := ⟨_, rfl⟩
  have HZ := Lib.hid (show IntKind.u64.wrap ((s : Int) + 11400714819323198485) = (z : Int) by rw [IntKind.wrap_u64, hz]; unfold Mx.step; omega)
  rw [← hz] at h1 ⊢
  clear hz
  obtain ⟨y, hy⟩ : ∃ y, y = Mx.sh z 30 * 13787848793156543929 % 18446744073709551616 := ⟨_, rfl⟩
  have h2 : y < 18446744073709551616 := by rw [hy]; exact Nat.mod_lt _ (by decide)
  obtain ⟨x, hx⟩ : ∃ x, x = Mx.sh y 27 * 10723151780598845931 % 18446744073709551616 := ⟨_, rfl⟩
  have h3 : x < 18446744073709551616 := by rw [hx]; exact Nat.mod_lt _ (by decide)
  have HY := Lib.hid (show IntKind.u64.wrap ((Mx.sh z 30 : Int) * 13787848793156543929) = (y : Int) by rw [IntKind.wrap_u64, hy]; omega)
  have HX := Lib.hid (show IntKind.u64.wrap ((Mx.sh y 27 : Int) * 10723151780598845931) = (x : Int) by rw [IntKind.wrap_u64, hx]; omega)
  have HM := Lib.hid (show Mx.sh x 31 = Mx.mixed z by rw [hx, hy]; rfl)
  clear hy hx
  have b1 := Mx.sh_lt h1 30
  have b2 := Mx.sh_lt h2 27
  go_enter Try.func15, Try.ntmps15
  go_wp2_with fail
  rw [HZ.out]
  refine (shifted5_any z 30 _ h1 (by decide)).mono ?_
  rintro e w' ⟨rfl, rfl⟩
  go_wp2_with fail
  rw [HY.out]
  refine (shifted5_any y 27 _ h2 (by decide)).mono ?_
  rintro e w' ⟨rfl, rfl⟩
  go_wp2_with fail
  rw [HX.out]
  refine (shifted5_any x 31 _ h3 (by decide)).mono ?_
  rintro e w' ⟨rfl, rfl⟩
  rw [HM.out]
  go_wp2_with fail
  go_ret2
  exact ⟨rfl, rfl⟩

/-- What Bytes answers: the state behind, and the bytes. -/
def stN (s : Nat) (n : Int) : Nat := Mx.st s ((n.toNat + 7) / 8)

theorem quot_spell {x : Nat} (hx : x < 18446744073709551616) : IntKind.u64.wrap ((x : Int) / 256) = ((x / 256 : Nat) : Int) := by rw [IntKind.wrap_u64]; omega

def BytesSt (w : World) (s : Nat) (l : List Nat) (e : Ending) (w' : World) : Prop := ∃ v, e = .returned (.tuple #[U64 s, v]) ∧ Owns w' w.heap.size v l ∧ Below w.heap.size w w'

/-- A slice's length. -/
def lenV : Value → Nat
  | .slice _ n _ => n
  | _ => 0

theorem Owns.shape' {w : World} {B : Nat} {v : Value} {l : List Nat} (h : Owns w B v l) : ∃ a c, v = .slice a l.length c := by
  rcases h.2 with ⟨rfl, h0⟩ | ⟨g, cap, cur, rfl, _⟩
  · exact ⟨none, 0, by rw [h0]⟩
  · exact ⟨_, _, rfl⟩

theorem bytesL_min_succ {s a N : Nat} (h : a < N) : Mx.bytesL s (min (a + 1) N) = Mx.bytesL s (min a N) ++ [Mx.gen s a] := by
  rw [Nat.min_eq_left (by omega), Nat.min_eq_left (by omega), Mx.bytesL_succ]

set_option maxHeartbeats 2000000 in
theorem refbytes_any (s : Nat) (n : Int) (w : World) (hs : s < 18446744073709551616) (hn : n ≤ 1000000) :
    Calls Try.prog 17 #[U64 s, .int .i64 n] w (BytesSt w (stN s n) (Mx.bytesL s n.toNat)) := by
  obtain ⟨N, hN⟩ : ∃ N, N = n.toNat := ⟨_, rfl⟩
  have HR := Lib.hid (show ∀ m : Nat, N ≤ 8 * m → (m = 0 ∨ 8 * m < N + 8) → Mx.st s m = stN s n from fun m h1 h2 => by
    unfold stN; rw [← hN]; congr 1; omega)
  rw [← hN]
  have hNm : N ≤ 1000000 := by omega
  have hNI : (N : Int) = n ∨ (N = 0 ∧ n < 0) := by omega
  clear hN
  have HSTL := Lib.hid (fun m => Mx.st_lt hs m)
  have HLEN := Lib.hid (Mx.bytesL_length s)
  have HMIN := Lib.hid (fun a => bytesL_min_succ (s := s) (a := a) (N := N))
  have HGEN := Lib.hid (show ∀ m j, j < 8 → Mx.gen s (8 * m + j) = Mx.mixed (Mx.step (Mx.st s m)) / 256 ^ j % 256 from fun m j hj => Mx.gen_at s m j hj)
  have HSUC := Lib.hid (show ∀ m, Mx.step (Mx.st s m) = Mx.st s (m + 1) from fun _ => rfl)
  have HNIL := Lib.hid (show Mx.bytesL s 0 = [] from rfl)
  have HST0 := Lib.hid (show Mx.st s 0 = s from rfl)
  obtain ⟨S9, hS9⟩ : ∃ S9, S9 = stN s n := ⟨_, rfl⟩
  rw [← hS9] at HR ⊢
  clear hS9
  generalize Mx.bytesL s = L at *
  generalize Mx.st s = f at *
  generalize Mx.gen s = g at *
  clear hs
  go_enter Try.func17, Try.ntmps17
  go_wp2_with fail
  go_loopw [0, 6, 7, 8, 9] (fun t v _ _ _ wr => ∃ m : Nat, (m = 0 ∨ 8 * m < N + 8) ∧ t = U64 (f m) ∧ Owns wr w.heap.size v (L (min (8 * m) N)) ∧ Below w.heap.size w wr) (fun _ v _ _ _ _ => N - lenV v)
  case atStart => exact ⟨0, by omega, by rw [HST0.out], by rw [Nat.mul_zero, Nat.zero_min, HNIL.out]; exact Owns.nil w _, Below.refl _ _⟩
  case round =>
    obtain ⟨m, hm, rfl, hown, hbel⟩ := hrel
    have HO := Lib.hid hown
    obtain ⟨va, vc, rfl⟩ := hown.shape'
    clear hown
    rw [HLEN.out] at HO ⊢
    have hst := HSTL.out m
    have hzr := hbel.size
    by_cases hlt : 8 * m < N
    · have hc : ((min (8 * m) N : Nat) : Int) < n := by omega
      have HST := Lib.hid (HSUC.out m)
      have hml := Mx.mixed_lt (Mx.step (f m))
      have HG := Lib.hid (HGEN.out m)
      obtain ⟨q, hq⟩ : ∃ q, q = f m := ⟨_, rfl⟩
      rw [← hq] at HST HG hst hml ⊢
      clear hq
      have HX := Lib.hid (show Mx.mixed (Mx.step q) = Mx.mixed (Mx.step q) from rfl)
      obtain ⟨X, hX⟩ : ∃ X, X = Mx.mixed (Mx.step q) := ⟨_, rfl⟩
      replace HX := Lib.hid hX.symm
      rw [← hX] at HG hml
      clear hX
      obtain ⟨b, hb⟩ : ∃ b : Nat, b = min (8 * m) N := ⟨_, rfl⟩
      have hb8 : b = 8 * m := by omega
      rw [← hb] at hc HO ⊢
      have HB8 := Lib.hid hb8
      have hbN : b < N := by omega
      clear hb hb8
      obtain ⟨wo, hwo⟩ : ∃ wo : World, wo = wr := ⟨_, rfl⟩
      subst hwo
      go_wp2_with fail
      refine (refnext_any q _).mono ?_
      rintro e w' ⟨rfl, rfl⟩
      rw [HX.out, HST.out]
      obtain ⟨S1, hS1⟩ : ∃ S1, S1 = f (m + 1) := ⟨_, rfl⟩
      rw [← hS1]
      have HS1 := Lib.hid hS1
      have HML := Lib.hid hml
      have HCN := Lib.hid (show ∀ c : Nat, (c : Int) < n ↔ c < N from fun c => by omega)
      have HLT := Lib.hid hlt
      have HNM := Lib.hid (And.intro hNm hNI)
      have HM8 := Lib.hid hm
      clear hml hst hS1 hn hNm hNI hm hlt
      go_wp2_with fail
      go_loopw [6, 8, 9] (fun v x i wr => ∃ j : Nat, j ≤ 8 ∧ i = .int .i64 j ∧ x = U64 (X / 256 ^ j) ∧ Owns wr w.heap.size v (L (min (b + j) N)) ∧ Below w.heap.size w wr) (fun _ _ i _ => 8 - (intOf i).toNat)
      case atStart => exact ⟨0, by omega, rfl, by simp, by rw [Nat.add_zero, Nat.min_eq_left (by omega)]; exact HO.out, hbel⟩
      case round =>
        obtain ⟨j, hj, rfl, rfl, hown, hbel2⟩ := hrel
        have HO2 := Lib.hid hown
        obtain ⟨va2, vc2, rfl⟩ := hown.shape'
        clear hown
        rw [HLEN.out] at HO2 ⊢
        have hz2 := hbel2.size
        by_cases hj8 : j < 8
        · have HQ := Lib.hid (show IntKind.u64.wrap (((X / 256 ^ j : Nat) : Int) / 256) = ((X / 256 ^ (j + 1) : Nat) : Int) by
            rw [quot_spell (Nat.lt_of_le_of_lt (Nat.div_le_self _ _) HML.out), Nat.pow_succ, ← Nat.div_div_eq_div_mul])
          have HGJ := Lib.hid (show g (b + j) = X / 256 ^ j % 256 by rw [HB8.out]; exact HG.out j hj8)
          obtain ⟨x, hx⟩ : ∃ x, x = X / 256 ^ j := ⟨_, rfl⟩
          have HX1 := Lib.hid (show x < 18446744073709551616 by rw [hx]; exact Nat.lt_of_le_of_lt (Nat.div_le_self _ _) HML.out)
          rw [← hx] at HQ HGJ ⊢
          clear hx
          by_cases hc2 : b + j < N
          · have HBS := Lib.hid (HMIN.out (b + j) hc2)
            have hmb : min (b + j) N = b + j := by omega
            have hcI : ((b + j : Nat) : Int) < n := (HCN.out _).2 hc2
            rw [hmb] at HO2 HBS ⊢
            obtain ⟨y, hy⟩ : ∃ y : Nat, y = x % 256 := ⟨_, rfl⟩
            have hyI : (x : Int) % 256 = (y : Int) := by omega
            have hy1 : y < 256 := by omega
            have HY := Lib.hid (show L (min (b + j + 1) N) = L (b + j) ++ [y] by rw [HBS.out, HGJ.out, hy])
            clear hy hmb
            have hjI : (j : Int) < 8 := by omega
            have HJ := Lib.hid (And.intro hj hj8)
            have HCC := Lib.hid hc2
            have HDN := Lib.hid (show b + j < N from hc2)
            have HYD := Lib.hid (show L (min (b + (j + 1)) N) = L (b + j) ++ [y] by rw [← Nat.add_assoc]; exact HY.out)
            clear hj hj8 hc2 hbN HY HBS HCC HGJ
            generalize b + j = d at *
            go_wp2_with (at_builtin; refine wpList_append_byte rfl (.tmp 28) (.tmp 32) rfl w.heap.size wr.heap.size _ _ y 5 rfl rfl rfl HO2.out ?c1 ?c2 ?_)
            case c1 => exact hz2
            case c2 => rw [HLEN.out]; have := HNM.out.1; have := HDN.out; omega
            intro v' w2 hown2 hgr
            have HO3 := Lib.hid hown2
            have HG3 := Lib.hid (hbel2.grown hgr hz2 HO2.out.from)
            clear hown2 hgr
            go_wp2_with fail
            have h1 := HJ.out
            exact ⟨⟨j + 1, by omega, by go_num, by rw [HQ.out], by rw [HYD.out]; exact HO3.out, HG3.out⟩, by simp [intOf]; omega⟩
          · have hmb : min (b + j) N = N := by omega
            have hmb2 : min (b + (j + 1)) N = N := by omega
            have hcI : ¬ ((N : Nat) : Int) < n := fun h => absurd ((HCN.out _).1 h) (by omega)
            rw [hmb] at HO2 ⊢
            have HM2 := Lib.hid hmb2
            have hjI : (j : Int) < 8 := by omega
            have HJ := Lib.hid (And.intro hj hj8)
            clear hmb hmb2 hc2 hj hj8
            go_wp2_with fail
            have h1 := HJ.out
            exact ⟨⟨j + 1, by omega, by go_num, by rw [HQ.out], by rw [HM2.out]; exact HO2.out, hbel2⟩, by simp [intOf]; omega⟩
        · obtain rfl : j = 8 := by omega
          go_wp2_with fail
          have e8 : b + 8 = 8 * (m + 1) := by have := HB8.out; omega
          refine ⟨⟨m + 1, by omega, by rw [HS1.out], by rw [← e8]; exact HO2.out, hbel2⟩, ?_⟩
          show N - min (b + 8) N < N - b
          omega
    · have hc : ¬ ((min (8 * m) N : Nat) : Int) < n := by omega
      have hmN : min (8 * m) N = N := by omega
      rw [hmN] at HO hc ⊢
      have HF := Lib.hid (HR.out m (by omega) hm)
      clear hmN
      go_wp2_with fail
      go_ret2
      exact ⟨_, by rw [HF.out]; rfl, HO.out, hbel⟩

end Go.Proofs.Ytobhlfkmdhoncaa
