/-
  The document's answer for numbers (wellspringref06), in the program: 'Text'.
-/
import Derived.Test.YtobhlfkmdhoncaaRefNat
import Derived.Test.YtobhlfkmdhoncaaLibBytes
set_option maxRecDepth 100000
namespace Go.Proofs.Ytobhlfkmdhoncaa
open Go.RowKit

theorem strOf_append (a b : List Nat) : strOf a ++ strOf b = strOf (a ++ b) := by
  have e : ∀ x y : ByteArray, x.data.toList = y.data.toList → x = y := by
    intro x y h
    cases x; cases y
    simp only [ByteArray.mk.injEq]
    exact Array.toList_inj.1 h
  apply e
  rw [ByteArray.data_append, Array.toList_append]
  unfold strOf
  rw [strOfNums_data, strOfNums_data, strOfNums_data]
  simp

theorem text_next (N m d : Nat) (h : N / 16 ^ m % 16 = d) : strOf [Nt.chr d] ++ strOf (Nt.fullT N m) = strOf (Nt.fullT N (m + 1)) := by
  rw [strOf_append, ← h]; rfl

theorem convert_one (w : World) (c : Nat) (hc : c < 256) : (convert 31 9 (.slice (some ⟨w.heap.size, 0, none⟩) 1 1)).run Try.prog (w.alloc (.cells #[U8 c] 5)) = .ok (.string (strOf [c])) (w.alloc (.cells #[U8 c] 5)) :=
  convert_bytes (bytes_new w [c] 5 (by simpa using hc) (by simp))

theorem strOf_size (l : List Nat) : (strOf l).size = l.length := by unfold strOf; rw [strOfNums_size, List.length_map]

theorem strOf_isEmpty (l : List Nat) : (strOf l).toList.isEmpty = l.isEmpty := by
  rw [ByteArray.toList_eq]
  unfold strOf
  rw [strOfNums_data]
  cases l <;> rfl

theorem strOf_first {c : Nat} {l : List Nat} (hc : c < 256) {S : ByteArray} (hS : S = strOf (c :: l)) (h : 0 < S.size) : (S[0]'h).toNat = c := by
  subst hS
  show (UInt8.ofNat (Int.ofNat c).toNat).toNat = c
  simp
  omega

theorem strOf_tail (c : Nat) (l : List Nat) : (strOf (c :: l)).extract 1 (l.length + 1) = strOf l := by
  have e : ∀ x y : ByteArray, x.data.toList = y.data.toList → x = y := by
    intro x y h
    cases x; cases y
    simp only [ByteArray.mk.injEq]
    exact Array.toList_inj.1 h
  apply e
  rw [ByteArray.data_extract, Array.toList_extract]
  unfold strOf
  rw [strOfNums_data, strOfNums_data]
  simp
  exact List.take_of_length_le (by simp)

theorem strOf_nil : strOf [] = ByteArray.empty := rfl

set_option maxHeartbeats 1000000 in
theorem reftext_any (v : Value) (l : List Nat) (w : World) (hn : l.length ≤ 1000000) (h0 : Bytes w v l) :
    Calls Try.prog 29 #[v] w fun e w' => e = .returned (.string (strOf (Nt.hexT (Nt.val l) (2 * l.length)))) ∧ Below w.heap.size w w' := by
  have HA := Lib.hid h0
  obtain ⟨pa, ca, rfl, _, _, _, h4⟩ := h0
  have HPA := Lib.hid (show ∀ i, i < l.length → ∃ b off, pa = some ⟨b, off, none⟩ from fun i hi => by
    obtain ⟨b, off, e, _⟩ := h4 (by intro h; rw [h] at hi; simp at hi)
    exact ⟨b, off, e⟩)
  clear h4
  obtain ⟨N, hN⟩ : ∃ N, N = Nt.val l := ⟨_, rfl⟩
  have HEV := Lib.hid (fun i => Nt.digit_even HA.out.lt i)
  have HOD := Lib.hid (fun i => Nt.digit_odd HA.out.lt i)
  have HAL := Lib.hid (fun k => nth_lt HA.out.lt k)
  rw [← hN] at HEV HOD ⊢
  clear hN
  have HTE := Lib.hid (show Nt.hexT N (2 * l.length) = if Nt.strip (Nt.fullT N (2 * l.length)) = [] then [48] else Nt.strip (Nt.fullT N (2 * l.length)) from rfl)
  obtain ⟨R, hR⟩ : ∃ R, R = Nt.hexT N (2 * l.length) := ⟨_, rfl⟩
  rw [← hR] at HTE ⊢
  clear hR
  go_enter Try.func29, Try.ntmps29
  go_wp2_with fail
  go_loopw [3, 4, 5, 6] (fun s i _ _ wr => ∃ n : Nat, n ≤ l.length ∧ i = .int .i64 n ∧ s = .string (strOf (Nt.fullT N (2 * n))) ∧ Below w.heap.size w wr) (fun _ i _ _ _ => l.length - (intOf i).toNat)
  case atStart => exact ⟨0, by omega, rfl, rfl, Below.refl _ _⟩
  case round =>
    obtain ⟨n, hk, rfl, rfl, hbel⟩ := hrel
    by_cases hlt : n < l.length
    · obtain ⟨ba, off, rfl⟩ := HPA.out n hlt
      have HLT := Lib.hid hlt
      have x1 := HAL.out n
      obtain ⟨x, hx⟩ : ∃ x, x = nth l n := ⟨_, rfl⟩
      have HX := Lib.hid hx.symm
      rw [← hx] at x1
      have HE := Lib.hid (HEV.out n)
      have HO := Lib.hid (HOD.out n)
      rw [← hx] at HE HO
      clear hx
      obtain ⟨S0, hS0⟩ : ∃ S0, S0 = strOf (Nt.fullT N (2 * n)) := ⟨_, rfl⟩
      rw [← hS0]
      have HS0 := Lib.hid hS0
      clear hS0
      obtain ⟨wo, hwo⟩ : ∃ wo : World, wo = wr := ⟨_, rfl⟩
      subst hwo
      go_wp2_with fail
      go_loopw [3, 5, 6] (fun s t _ wr => ∃ k : Nat, k ≤ 2 ∧ t = .int .i64 k ∧ s = .string (strOf (Nt.fullT N (2 * n + k))) ∧ Below w.heap.size w wr) (fun _ t _ _ => 2 - (intOf t).toNat)
      case atStart => exact ⟨0, by omega, rfl, by rw [HS0.out]; rfl, hbel⟩
      case round =>
        obtain ⟨k, hk2, rfl, rfl, hbel2⟩ := hrel
        have hz := hbel2.size
        by_cases hlt2 : k < 2
        · have hcell : wr.cell? ⟨ba, off + n, none⟩ = some (U8 x) := by rw [← HX.out]; exact (HA.out.below (Nat.le_refl _) hbel2).cell n HLT.out
          have n0 : (0 : Int) ≤ (n : Int) := Int.natCast_nonneg _
          rcases (show k = 0 ∨ k = 1 by omega) with rfl | rfl
          · obtain ⟨d, hd⟩ : ∃ d, d = x % 16 := ⟨_, rfl⟩
            have HN := Lib.hid (text_next N (2 * n + 0) d (by rw [hd]; exact HE.out))
            have hdI : (x : Int) % 16 = (d : Int) := by omega
            have hd1 : d < 16 := by omega
            have HSZ := Lib.hid (show (strOf (Nt.fullT N (2 * n + 0))).size ≤ 2000002 by rw [strOf_size, Nt.fullT_length]; have := HLT.out; omega)
            obtain ⟨S, hS⟩ : ∃ S, S = strOf (Nt.fullT N (2 * n + 0)) := ⟨_, rfl⟩
            rw [← hS] at HN HSZ ⊢
            clear hd hS
            have hcv := convert_one wr (Nt.chr d) (Nt.chr_lt hd1)
            by_cases hd10 : d < 10
            · skip
              rw [Nt.chr_small hd10] at hcv HN
              obtain ⟨c, hc⟩ : ∃ c, c = 48 + d := ⟨_, rfl⟩
              rw [← hc] at hcv HN
              have hcI : (48 : Int) + d = (c : Int) := by omega
              have hc1 : c < 256 := by omega
              have hdI10 : (d : Int) < 10 := by omega
              have hsz : ¬ 9223372036854775807 < (strOf [c]).size + S.size := by rw [strOf_size, List.length_singleton]; have := HSZ.out; omega
              clear hc hd10
              go_wp2_with fail
              exact ⟨⟨1, by omega, rfl, by rw [HN.out], hbel2.alloc hz _⟩, by decide⟩
            · skip
              rw [Nt.chr_great hd10] at hcv HN
              obtain ⟨c, hc⟩ : ∃ c, c = 87 + d := ⟨_, rfl⟩
              rw [← hc] at hcv HN
              have hcI : (97 : Int) + d - 10 = (c : Int) := by omega
              have hc1 : c < 256 := by omega
              have hdI10 : ¬ (d : Int) < 10 := by omega
              have hsz : ¬ 9223372036854775807 < (strOf [c]).size + S.size := by rw [strOf_size, List.length_singleton]; have := HSZ.out; omega
              clear hc hd10
              go_wp2_with fail
              exact ⟨⟨1, by omega, rfl, by rw [HN.out], hbel2.alloc hz _⟩, by decide⟩
          · obtain ⟨d, hd⟩ : ∃ d, d = x / 16 := ⟨_, rfl⟩
            have HN := Lib.hid (text_next N (2 * n + 1) d (by rw [hd]; exact HO.out))
            have hdI : (x : Int) / 16 = (d : Int) := by omega
            have hd1 : d < 16 := by omega
            have HSZ := Lib.hid (show (strOf (Nt.fullT N (2 * n + 1))).size ≤ 2000002 by rw [strOf_size, Nt.fullT_length]; have := HLT.out; omega)
            obtain ⟨S, hS⟩ : ∃ S, S = strOf (Nt.fullT N (2 * n + 1)) := ⟨_, rfl⟩
            rw [← hS] at HN HSZ ⊢
            clear hd hS
            have hcv := convert_one wr (Nt.chr d) (Nt.chr_lt hd1)
            by_cases hd10 : d < 10
            · skip
              rw [Nt.chr_small hd10] at hcv HN
              obtain ⟨c, hc⟩ : ∃ c, c = 48 + d := ⟨_, rfl⟩
              rw [← hc] at hcv HN
              have hcI : (48 : Int) + d = (c : Int) := by omega
              have hc1 : c < 256 := by omega
              have hdI10 : (d : Int) < 10 := by omega
              have hsz : ¬ 9223372036854775807 < (strOf [c]).size + S.size := by rw [strOf_size, List.length_singleton]; have := HSZ.out; omega
              clear hc hd10
              go_wp2_with fail
              exact ⟨⟨2, by omega, rfl, by rw [HN.out], hbel2.alloc hz _⟩, by decide⟩
            · skip
              rw [Nt.chr_great hd10] at hcv HN
              obtain ⟨c, hc⟩ : ∃ c, c = 87 + d := ⟨_, rfl⟩
              rw [← hc] at hcv HN
              have hcI : (97 : Int) + d - 10 = (c : Int) := by omega
              have hc1 : c < 256 := by omega
              have hdI10 : ¬ (d : Int) < 10 := by omega
              have hsz : ¬ 9223372036854775807 < (strOf [c]).size + S.size := by rw [strOf_size, List.length_singleton]; have := HSZ.out; omega
              clear hc hd10
              go_wp2_with fail
              exact ⟨⟨2, by omega, rfl, by rw [HN.out], hbel2.alloc hz _⟩, by decide⟩
        · obtain rfl : k = 2 := by omega
          go_wp2_with fail
          have hh := HLT.out
          exact ⟨⟨n + 1, by omega, by go_num, rfl, hbel2⟩, by simp [intOf]; omega⟩
    · obtain rfl : n = l.length := by omega
      have HF := Lib.hid (Nt.fullT_lt N (2 * l.length))
      have HSZ := Lib.hid (Nt.fullT_length N (2 * l.length))
      generalize Nt.fullT N (2 * l.length) = F at *
      go_wp2_with fail
      go_loopw [3] (fun s wr => ∃ t : List Nat, s = .string (strOf t) ∧ (∀ x, x ∈ t → x < 256) ∧ t.length ≤ 2000000 ∧ Nt.strip t = Nt.strip F ∧ Below w.heap.size w wr) (fun s _ => match s with | .string b => b.size | _ => 0)
      case atStart => exact ⟨F, rfl, HF.out, by rw [HSZ.out]; omega, rfl, hbel⟩
      case round =>
        obtain ⟨t, rfl, ht, htl, hst, hbel2⟩ := hrel
        have HT := Lib.hid ht
        have HST := Lib.hid hst
        clear ht hst
        match t with
        | [] =>
          have hs0 : (strOf []).size = 0 := strOf_size []
          have he0 : (strOf []).toList.isEmpty = true := strOf_isEmpty []
          have HR := Lib.hid (show R = [48] by rw [HTE.out, ← HST.out]; rfl)
          go_wp2_with fail
          go_ret
          exact ⟨by rw [HR.out]; rfl, hbel2⟩
        | [c] =>
          have hs1 : (strOf [c]).size = 1 := strOf_size [c]
          have he1 : (strOf [c]).toList.isEmpty = false := strOf_isEmpty [c]
          have HR := Lib.hid (show R = [c] by rw [HTE.out, ← HST.out]; rfl)
          go_wp2_with fail
          go_ret
          exact ⟨by rw [HR.out]; rfl, hbel2⟩
        | c :: d :: t =>
          have hs2 : (strOf (c :: d :: t)).size = t.length + 2 := strOf_size _
          have he2 : (strOf (c :: d :: t)).toList.isEmpty = false := strOf_isEmpty _
          have hc1 : c < 256 := HT.out c (by simp)
          have h0 : 0 < (strOf (c :: d :: t)).size := by rw [hs2]; omega
          have HFI := Lib.hid (strOf_first hc1 rfl h0)
          by_cases hc48 : c = 48
          · have HT2 := Lib.hid (show Nt.strip (d :: t) = Nt.strip F by rw [← HST.out, Nt.strip_go hc48])
            have HX := Lib.hid (strOf_tail c (d :: t))
            have HS3 := Lib.hid (strOf_size (d :: t))
            generalize strOf (c :: d :: t) = S at *
            have hb : (((S[0]'h0).toNat : Int) == 48) = true := by rw [HFI.out, hc48]; rfl
            have HTL := Lib.hid htl
            clear hc48 htl
            go_wp2_with fail
            refine ⟨⟨d :: t, by rw [← HX.out]; rfl, fun x hx => HT.out x (by simp_all), by have := HTL.out; simp at this ⊢; omega, HT2.out, hbel2⟩, ?_⟩
            show (S.extract 1 (t.length + 2)).size < S.size
            rw [show S.extract 1 (t.length + 2) = strOf (d :: t) from HX.out, HS3.out, hs2]
            simp
          · have HR := Lib.hid (show R = c :: d :: t by rw [HTE.out, ← HST.out, Nt.strip_stop hc48]; rfl)
            have HSS := Lib.hid (show strOf (c :: d :: t) = strOf (c :: d :: t) from rfl)
            obtain ⟨S, hS⟩ : ∃ S, S = strOf (c :: d :: t) := ⟨_, rfl⟩
            replace HSS := Lib.hid hS
            rw [← hS] at hs2 he2 ⊢
            have h0' : 0 < S.size := by rw [hs2]; omega
            have hb : (((S[0]'h0').toNat : Int) == 48) = false := by rw [strOf_first hc1 hS h0', beq_eq_false_iff_ne]; omega
            clear hS hc48 h0 HFI
            go_wp2_with fail
            go_ret
            exact ⟨by rw [HR.out, ← HSS.out]; rfl, hbel2⟩

end Go.Proofs.Ytobhlfkmdhoncaa
