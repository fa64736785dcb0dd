/-
  The laws of bytes out of a seed (layer 5): asked for in any way.
-/
import Derived.Test.YtobhlfkmdhoncaaLawFiveC
import Derived.Test.YtobhlfkmdhoncaaInts
set_option maxRecDepth 100000
namespace Go.Proofs.Ytobhlfkmdhoncaa
open Go.RowKit

theorem bytes_mixst (s N : Nat) : stN s (N : Int) = Mx.st s ((N + 7) / 8) := by unfold stN; simp
theorem stN_lt {s : Nat} (hs : s < 18446744073709551616) (n : Int) : stN s n < 18446744073709551616 := Mx.st_lt hs _

set_option maxHeartbeats 400000 in
theorem mixtells_many (s n cap : Nat) (a : Option Addr) (w : World) (h : 40 < n) :
    Calls Try.prog 3 #[U64 s, .slice a n cap] w (Yea w) := by
  have B : Below w.heap.size w w := Below.refl _ _
  go_enter Try.func3, Try.ntmps3
  go_wp2_with fail
  refine (awake5_any _).mono ?_
  rintro e w1 ⟨rfl, hb⟩
  replace B := B.trans (hb.mono B.size)
  have hzw1 := B.size
  clear hb
  go_wp2_with fail
  go_ret
  exact ⟨rfl, B⟩

set_option maxHeartbeats 2000000 in
theorem mixtells_some (s b off cap : Nat) (l : List Int) (w : World) (hs : s < 18446744073709551616) (hB : Ints w (.slice (some ⟨b, off, none⟩) l.length cap) l) (hl : l.length ≤ 40) :
    Calls Try.prog 3 #[U64 s, .slice (some ⟨b, off, none⟩) l.length cap] w (Yea w) := by
  have B : Below w.heap.size w w := Below.refl _ _
  have HB := Lib.hid hB
  have HS := Lib.hid hs
  clear hs hB
  go_enter Try.func3, Try.ntmps3
  go_wp2_with fail
  refine (awake5_any _).mono ?_
  rintro e w1 ⟨rfl, hb⟩
  replace B := B.trans (hb.mono B.size)
  have hzw1 := B.size
  clear hb
  go_wp2_with fail
  refine (mixmake_any s _).mono ?_
  rintro e w2 ⟨⟨rfl, hk⟩, hb⟩
  replace B := B.trans (hb.mono B.size)
  have hzw2 := B.size
  clear hb
  have K := Lib.hid hk
  clear hk
  obtain ⟨g, hg⟩ : ∃ g, g = w1.heap.size := ⟨_, rfl⟩
  rw [← hg] at K ⊢
  have hgw : w.heap.size ≤ g := by omega
  clear hg
  go_wp2_with fail
  go_loopw [6, 8, 9, 10, 11, 12, 13, 14, 15, 26] (fun t _ _ _ _ _ _ _ _ i wr => ∃ k q : Nat, k ≤ l.length ∧ i = .int .i64 k ∧ t = U64 q ∧ q < 18446744073709551616 ∧ Blk wr g #[U64 q] 69 ∧ Below w.heap.size w wr) (fun _ _ _ _ _ _ _ _ _ i _ => l.length - (intOf i).toNat)
  case atStart => exact ⟨0, s, by omega, rfl, rfl, HS.out, K.out, B⟩
  case round =>
    obtain ⟨k, q, hk, rfl, rfl, hq, hkk, B⟩ := hrel
    replace K := Lib.hid hkk
    have HQ := Lib.hid hq
    have hzr := B.size
    clear hkk hq
    by_cases hlt : k < l.length
    · obtain ⟨hr1, hr2⟩ := HB.out.range hlt
      have hu : wr.cell? ⟨b, off + k, none⟩ = some (.int .i64 (nthI l k)) := (HB.out.go B).cell k hlt
      obtain ⟨n, hn⟩ : ∃ n, n = nthI l k := ⟨_, rfl⟩
      rw [← hn] at hr1 hr2 hu
      clear hn
      obtain ⟨wo, hwo⟩ : ∃ wo : World, wo = wr := ⟨_, rfl⟩
      subst hwo
      rcases (show (500 < n ∧ n ≤ 65536) ∨ 65536 < n ∨ n < 0 ∨ (0 ≤ n ∧ n ≤ 500) by omega) with h | h | h | h
      · obtain ⟨hb1, hb2⟩ := h
        go_wp2_with fail
        go_ret
        exact ⟨rfl, B⟩
      · have HNO := Lib.hid (show n < 0 ∨ (0 ≤ n ∧ 65536 < n) from .inr ⟨by omega, h⟩)
        have h2 : 500 < n := by omega
        have h3 : ¬ n < 0 := by omega
        go_wp2_with fail
        have hgl := K.out.lt
        refine (mixclone_any g q _ K.out).mono ?_
        rintro e wA ⟨⟨rfl, hk⟩, hb⟩
        replace K := Lib.hid (K.out.go hb)
        replace B := B.trans (hb.mono B.size)
        have hzwA := B.size
        clear hb
        have KC := Lib.hid hk
        clear hk
        obtain ⟨gc, hgc⟩ : ∃ gc, gc = wo.heap.size := ⟨_, rfl⟩
        rw [← hgc] at KC hgl ⊢
        have hgcw : w.heap.size ≤ gc := by omega
        clear hgc
        go_wp2_with fail
        refine (mixnext_any gc q _ KC.out).mono ?_
        rintro e wB ⟨rfl, h2, h3⟩
        replace K := Lib.hid (K.out.grown h3 (by simp; omega))
        have B2 := below_grown B h3 B.size hgcw
        clear h2 h3 B KC
        by_cases h5 : n % 5 = 0
        · have h5b : (n % 5 == 0) = true := by rw [h5]; rfl
          have HQ2 := Lib.hid (Mx.step_lt q)
          clear h5
          go_wp2_with fail
          refine (refnext_any q _).mono ?_
          rintro e w' ⟨rfl, rfl⟩
          go_wp2_with fail
          refine (mixnext_any g q _ K.out).mono ?_
          rintro e wC ⟨rfl, h2, h3⟩
          replace K := Lib.hid h2
          have B3 := below_grown B2 h3 B2.size hgw
          clear h2 h3 B2 HQ
          have HQ := HQ2
          clear HQ2
          go_wp2_with fail
          obtain ⟨q2, hq2⟩ : ∃ q2, q2 = Mx.step q := ⟨_, rfl⟩
          rw [← hq2] at K HQ ⊢
          clear hq2
          refine (mixbytes_no g n _ HNO.out).mono ?_
          rintro e w' ⟨rfl, rfl⟩
          go_wp2_with fail
          exact ⟨⟨k + 1, _, by omega, by go_num, rfl, HQ.out, K.out, B3⟩, by simp [intOf]; omega⟩
        · have h5b : (n % 5 == 0) = false := by rw [beq_eq_false_iff_ne]; exact h5
          clear h5
          have B3 := B2
          clear B2
          go_wp2_with fail
          refine (mixbytes_no g n _ HNO.out).mono ?_
          rintro e w' ⟨rfl, rfl⟩
          go_wp2_with fail
          exact ⟨⟨k + 1, _, by omega, by go_num, rfl, HQ.out, K.out, B3⟩, by simp [intOf]; omega⟩
      · have HNO := Lib.hid (show n < 0 ∨ (0 ≤ n ∧ 65536 < n) from .inl h)
        have h2 : n ≤ 500 := by omega
        go_wp2_with fail
        have hgl := K.out.lt
        refine (mixclone_any g q _ K.out).mono ?_
        rintro e wA ⟨⟨rfl, hk⟩, hb⟩
        replace K := Lib.hid (K.out.go hb)
        replace B := B.trans (hb.mono B.size)
        have hzwA := B.size
        clear hb
        have KC := Lib.hid hk
        clear hk
        obtain ⟨gc, hgc⟩ : ∃ gc, gc = wo.heap.size := ⟨_, rfl⟩
        rw [← hgc] at KC hgl ⊢
        have hgcw : w.heap.size ≤ gc := by omega
        clear hgc
        go_wp2_with fail
        refine (mixnext_any gc q _ KC.out).mono ?_
        rintro e wB ⟨rfl, h2, h3⟩
        replace K := Lib.hid (K.out.grown h3 (by simp; omega))
        have B2 := below_grown B h3 B.size hgcw
        clear h2 h3 B KC
        by_cases h5 : n.tmod 5 = 0
        · have h5b : (n.tmod 5 == 0) = true := by rw [h5]; rfl
          have HQ2 := Lib.hid (Mx.step_lt q)
          clear h5
          go_wp2_with fail
          refine (refnext_any q _).mono ?_
          rintro e w' ⟨rfl, rfl⟩
          go_wp2_with fail
          refine (mixnext_any g q _ K.out).mono ?_
          rintro e wC ⟨rfl, h2, h3⟩
          replace K := Lib.hid h2
          have B3 := below_grown B2 h3 B2.size hgw
          clear h2 h3 B2 HQ
          have HQ := HQ2
          clear HQ2
          go_wp2_with fail
          obtain ⟨q2, hq2⟩ : ∃ q2, q2 = Mx.step q := ⟨_, rfl⟩
          rw [← hq2] at K HQ ⊢
          clear hq2
          refine (mixbytes_no g n _ HNO.out).mono ?_
          rintro e w' ⟨rfl, rfl⟩
          go_wp2_with fail
          exact ⟨⟨k + 1, _, by omega, by go_num, rfl, HQ.out, K.out, B3⟩, by simp [intOf]; omega⟩
        · have h5b : (n.tmod 5 == 0) = false := by rw [beq_eq_false_iff_ne]; exact h5
          clear h5
          have B3 := B2
          clear B2
          go_wp2_with fail
          refine (mixbytes_no g n _ HNO.out).mono ?_
          rintro e w' ⟨rfl, rfl⟩
          go_wp2_with fail
          exact ⟨⟨k + 1, _, by omega, by go_num, rfl, HQ.out, K.out, B3⟩, by simp [intOf]; omega⟩
      · obtain ⟨N, rfl⟩ := Int.eq_ofNat_of_zero_le h.1
        have hN5 : N ≤ 500 := by omega
        have h3 : ¬ (N : Int) < 0 := by omega
        have h4 : ¬ 65536 < (N : Int) := by omega
        clear h hr1 hr2
        have h2 : (N : Int) ≤ 500 := by omega
        go_wp2_with fail
        have hgl := K.out.lt
        refine (mixclone_any g q _ K.out).mono ?_
        rintro e wA ⟨⟨rfl, hk⟩, hb⟩
        replace K := Lib.hid (K.out.go hb)
        replace B := B.trans (hb.mono B.size)
        have hzwA := B.size
        clear hb
        have KC := Lib.hid hk
        clear hk
        obtain ⟨gc, hgc⟩ : ∃ gc, gc = wo.heap.size := ⟨_, rfl⟩
        rw [← hgc] at KC hgl ⊢
        have hgcw : w.heap.size ≤ gc := by omega
        clear hgc
        go_wp2_with fail
        refine (mixnext_any gc q _ KC.out).mono ?_
        rintro e wB ⟨rfl, h2, h3⟩
        replace K := Lib.hid (K.out.grown h3 (by simp; omega))
        have B2 := below_grown B h3 B.size hgcw
        clear h2 h3 B KC
        by_cases h5 : (N : Int) % 5 = 0
        · have h5b : ((N : Int) % 5 == 0) = true := by rw [h5]; rfl
          have HQ2 := Lib.hid (Mx.step_lt q)
          clear h5
          go_wp2_with fail
          refine (refnext_any q _).mono ?_
          rintro e w' ⟨rfl, rfl⟩
          go_wp2_with fail
          refine (mixnext_any g q _ K.out).mono ?_
          rintro e wC ⟨rfl, h2, h3⟩
          replace K := Lib.hid h2
          have B3 := below_grown B2 h3 B2.size hgw
          clear h2 h3 B2 HQ
          have HQ := HQ2
          clear HQ2
          go_wp2_with fail
          obtain ⟨q2, hq2⟩ : ∃ q2, q2 = Mx.step q := ⟨_, rfl⟩
          rw [← hq2] at K HQ ⊢
          clear hq2
          refine (mixbytes_ok g _ N _ K.out (by omega)).mono ?_
          rintro e wD ⟨rfl, h1, h2, h3'⟩
          have HR := Lib.hid (h1.bytes (Mx.bytesL_lt _ N) (by rw [Mx.bytesL_length]; omega))
          rw [Mx.bytesL_length] at HR
          replace K := Lib.hid h2
          have B := below_grown B3 h3' B3.size hgw
          clear h1 h2 h3' B3
          go_wp2_with fail
          refine (refbytes_any _ N _ HQ.out (by omega)).mono ?_
          rintro e wE ⟨u, rfl, hou, hb⟩
          have HU := Lib.hid (hou.bytes (Mx.bytesL_lt _ _))
          rw [Int.toNat_natCast] at HU
          replace K := Lib.hid (K.out.go hb)
          replace HR := Lib.hid (HR.out.go hb)
          have B4 := B.trans (hb.mono B.size)
          have HL := Lib.hid (stN_lt HQ.out N)
          clear hou hb B
          go_wp2_with fail
          refine (same_any _ _ _ _ _ HR.out HU.out).mono ?_
          rintro e wF ⟨rfl, hb⟩
          rw [decide_eq_true rfl]
          replace K := Lib.hid (K.out.go hb)
          have B5 := B4.trans (hb.mono B4.size)
          clear hb HR HU B4
          go_wp2_with fail
          refine ⟨⟨k + 1, _, by omega, by go_num, rfl, HL.out, ?_, B5⟩, by simp [intOf]; omega⟩
          rw [bytes_mixst]
          exact K.out
        · have h5b : ((N : Int) % 5 == 0) = false := by rw [beq_eq_false_iff_ne]; exact h5
          clear h5
          have B3 := B2
          clear B2
          go_wp2_with fail
          refine (mixbytes_ok g _ N _ K.out (by omega)).mono ?_
          rintro e wD ⟨rfl, h1, h2, h3'⟩
          have HR := Lib.hid (h1.bytes (Mx.bytesL_lt _ N) (by rw [Mx.bytesL_length]; omega))
          rw [Mx.bytesL_length] at HR
          replace K := Lib.hid h2
          have B := below_grown B3 h3' B3.size hgw
          clear h1 h2 h3' B3
          go_wp2_with fail
          refine (refbytes_any _ N _ HQ.out (by omega)).mono ?_
          rintro e wE ⟨u, rfl, hou, hb⟩
          have HU := Lib.hid (hou.bytes (Mx.bytesL_lt _ _))
          rw [Int.toNat_natCast] at HU
          replace K := Lib.hid (K.out.go hb)
          replace HR := Lib.hid (HR.out.go hb)
          have B4 := B.trans (hb.mono B.size)
          have HL := Lib.hid (stN_lt HQ.out N)
          clear hou hb B
          go_wp2_with fail
          refine (same_any _ _ _ _ _ HR.out HU.out).mono ?_
          rintro e wF ⟨rfl, hb⟩
          rw [decide_eq_true rfl]
          replace K := Lib.hid (K.out.go hb)
          have B5 := B4.trans (hb.mono B4.size)
          clear hb HR HU B4
          go_wp2_with fail
          refine ⟨⟨k + 1, _, by omega, by go_num, rfl, HL.out, ?_, B5⟩, by simp [intOf]; omega⟩
          rw [bytes_mixst]
          exact K.out
    · obtain rfl : k = l.length := by omega
      go_wp2_with fail
      go_ret
      exact ⟨rfl, B⟩

set_option maxHeartbeats 400000 in
theorem mixtells_none (s cap : Nat) (a : Option Addr) (w : World) :
    Calls Try.prog 3 #[U64 s, .slice a 0 cap] w (Yea w) := by
  have B : Below w.heap.size w w := Below.refl _ _
  go_enter Try.func3, Try.ntmps3
  go_wp2_with fail
  refine (awake5_any _).mono ?_
  rintro e w1 ⟨rfl, hb⟩
  replace B := B.trans (hb.mono B.size)
  have hzw1 := B.size
  clear hb
  go_wp2_with fail
  refine (mixmake_any s _).mono ?_
  rintro e w2 ⟨⟨rfl, hk⟩, hb⟩
  replace B := B.trans (hb.mono B.size)
  have hzw2 := B.size
  clear hb
  clear hk
  go_wp2_with fail
  refine wp_loop_rounds 1 ?_
  rw [rounds_succ]
  go_wp2_with fail
  go_ret
  exact ⟨rfl, B⟩

theorem mixtells_any (s : Nat) (v : Value) (l : List Int) (w : World) (hs : s < 18446744073709551616) (h : Ints w v l) :
    Calls Try.prog 3 #[U64 s, v] w (Yea w) := by
  have h0 := h
  obtain ⟨a, cap, rfl, h1, h2, _, h4⟩ := h
  by_cases hn : 40 < l.length
  · exact mixtells_many s l.length cap a w hn
  · by_cases hne : l = []
    · subst hne; exact mixtells_none s cap a w
    · obtain ⟨b, off, rfl, _, _⟩ := h4 hne
      exact mixtells_some s b off cap l w hs h0 (by omega)

end Go.Proofs.Ytobhlfkmdhoncaa
