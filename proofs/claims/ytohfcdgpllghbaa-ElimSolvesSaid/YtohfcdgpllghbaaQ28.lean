/- Texts of one seat, laid together: LawSevenE, MonoI. -/
import Derived.Test.YtohfcdgpllghbaaQ27
import Derived.Test.YtohfcdgpllghbaaQ21

/-
  The laws of grids (layer 7): what GridRanks asks of rows. No program in this text.
-/
set_option maxRecDepth 100000
namespace Go.Proofs.Ytohfcdgpllghbaa
open La

theorem turned_turned {A : List (List Nat)} {m : Nat} (hk : ∀ r ∈ A, r.length = m) : turnedL (turnedL A m) A.length = A := by
  refine ext_rowAt (turnedL_length _ _) fun i hi => ?_
  rw [turnedL_length] at hi
  rw [turnedL_at _ hi]
  refine ext_nth (by rw [colL_length, turnedL_length, wide_at hk i hi]) fun j hj => ?_
  rw [colL_length, turnedL_length] at hj
  rw [nth_colL, if_pos (by rw [turnedL_length]; exact hj), turnedL_at A hj, nth_colL, if_pos hi]
theorem turned_rank {A : List (List Nat)} {m : Nat} (hk : ∀ r ∈ A, r.length = m) : rankL A.length (turnedL A m) = rankL m A := rank_turned (wide_at hk)
theorem turned_wide (A : List (List Nat)) (m : Nat) : ∀ r ∈ turnedL A m, r.length = A.length := fun r hr => by
  obtain ⟨i, _, rfl⟩ := List.mem_map.1 hr
  exact colL_length A i
theorem rank_height {A : List (List Nat)} {m : Nat} (hk : ∀ r ∈ A, r.length = m) : rankL m A ≤ A.length := by
  rw [← turned_rank hk]; exact rankL_le _ _
theorem mulL_wide (A C : List (List Nat)) (k : Nat) : ∀ r ∈ mulL A C k, r.length = k := fun r hr => by
  obtain ⟨x, _, rfl⟩ := List.mem_map.1 hr
  exact combT_length _ _ _
theorem short_all {n : Nat} {A : List (List Nat)} (hn : A.length = n) (hk : ∀ r ∈ A, r.length = n) {i : Nat} (hi : i < n) : Short n (mat A i) := mat_short (wide_at hk) (by omega)
section
variable {n : Nat} {A : List (List Nat)} (hn : A.length = n) (hO : OctM A) (hk : ∀ r ∈ A, r.length = n) (h : rankL n A = n)
include hn hO hk h
theorem mm_inv {i : Nat} (hi : i < n) : mm (mat A) (mat (invL A)) n i = idn n i := by
  subst hn
  exact inv_right hO hk (invL_full hO hk h) hi
theorem short_inv {i : Nat} (hi : i < n) : Short n (mat (invL A) i) := mat_short (wide_at (invL_wide hn hO hk)) (by rw [invL_length hn hO hk h]; exact hi)
theorem invL_rank : rankL n (invL A) = n := by
  have hr := (full_of_mm (fun i hi => short_all hn hk hi) (fun i hi => short_inv hn hO hk h hi) (fun i hi => mm_inv hn hO hk h hi)).2
  rw [rankL_mat, invL_length hn hO hk h]
  exact hr
theorem invL_back : invL (invL A) = A := by
  have l1 := invL_length hn hO hk h
  have o1 := invL_oct hn hO hk
  have w1 := invL_wide hn hO hk
  have r1 := invL_rank hn hO hk h
  have l2 := invL_length l1 o1 w1 r1
  refine ext_mat (n := n) (invL_oct l1 o1 w1) hO (by rw [l2, hn]) (wide_at (invL_wide l1 o1 w1)) (wide_at hk) fun i hi => ?_
  rw [l2] at hi
  exact inverse_back (fun i hi => short_all hn hk hi) (fun i hi => mm_inv hn hO hk h hi) (fun i hi => mm_inv l1 o1 w1 r1 hi) hi
end
theorem det_spell {m r d : Nat} (h : d ≠ 0 ↔ r = m) : (((r : Int) == (m : Int)) != ((d : Int) != 0)) = false := by
  by_cases e : r = m
  · have h1 : ((r : Int) == (m : Int)) = true := beq_iff_eq.2 (by omega)
    have h2 : ((d : Int) != 0) = true := by rw [bne_iff_ne]; have := h.2 e; omega
    rw [h1, h2]; rfl
  · have h1 : ((r : Int) == (m : Int)) = false := beq_eq_false_iff_ne.2 (by omega)
    have h2 : ((d : Int) != 0) = false := by
      rw [bne_eq_false_iff_eq]
      have : ¬ d ≠ 0 := fun hd => e (h.1 hd)
      omega
    rw [h1, h2]; rfl

end Go.Proofs.Ytohfcdgpllghbaa

/-
  A region in any order: operations whose guard's own operation is not carried out.
-/
set_option maxRecDepth 100000
namespace Go.Proofs.Ytohfcdgpllghbaa
open Go.RowKit

theorem unyielded_of {ops : Array Oper} {a : Act} {g : Nat} {t : Tmp} (hd : (ops[g]?).bind (·.dst) = some t) (h : a.eval (.tmp t) = undef) : yielded ops a.tmps g = none := by
  unfold yielded
  rw [hd]
  simp only [Act.eval] at h
  rcases Nat.lt_or_ge t a.tmps.size with hl | hl
  · simp [hl] at h
    simp [hl, h, undef]
  · simp [hl]
theorem unwanted_none {o : Oper} {y : Nat → Option Bool} {g : Nat} {b : Bool} (h : o.guard = some (g, b)) (hy : y g = none) : ¬ Region.wanted o y = true := by simp [Region.wanted, h, hy]

end Go.Proofs.Ytohfcdgpllghbaa
