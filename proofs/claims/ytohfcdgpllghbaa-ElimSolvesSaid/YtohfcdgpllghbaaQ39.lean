/- Texts of one seat, laid together: LawEightI. -/
import Derived.Test.YtohfcdgpllghbaaQ36
import Derived.Test.YtohfcdgpllghbaaQ38
import Derived.Test.YtohfcdgpllghbaaQ25

/-
  The laws of equations (layer 8): ElimSolves.
-/
set_option maxRecDepth 100000
namespace Go.Proofs.Ytohfcdgpllghbaa
open Go.RowKit

set_option maxHeartbeats 2000000 in
theorem elimSolves_out (v0 v1 : Value) (S V : List (List Nat)) (x : Nat) (w : World) (h0 : IsRows w v0 S) (h1 : IsRows w v1 V) (hb : S.length < 1 ∨ (1 ≤ S.length ∧ 20 < S.length) ∨ (1 ≤ S.length ∧ S.length ≤ 20 ∧ 30 < V.length)) :
    Calls Try.prog 7 #[v0, v1, U8 x] w fun e w' => e = .returned (.bool true) ∧ Below w.heap.size w w' := by
  obtain ⟨a0, c0, rfl⟩ := h0.shape
  obtain ⟨a1, c1, rfl⟩ := h1.shape
  clear h0 h1
  rcases hb with h | ⟨h, h'⟩ | ⟨h, h', h''⟩
  · have m1 : (S.length : Int) < 1 := by omega
    clear h
    go_enter Try.func7, Try.ntmps7
    go_wp2_with fail
    have B : Below w.heap.size w w := Below.refl _ _
    refine (awake8_any _).mono ?_
    rintro e w1 ⟨rfl, hb⟩
    replace B := B.trans (hb.mono B.size)
    have hzw1 := B.size
    clear hb
    go_wp2_with fail
    go_ret
    exact ⟨rfl, B⟩
  · have m1 : ¬ (S.length : Int) < 1 := by omega
    have m2 : (20 : Int) < (S.length : Int) := by omega
    clear h h'
    go_enter Try.func7, Try.ntmps7
    go_wp2_with fail
    have B : Below w.heap.size w w := Below.refl _ _
    refine (awake8_any _).mono ?_
    rintro e w1 ⟨rfl, hb⟩
    replace B := B.trans (hb.mono B.size)
    have hzw1 := B.size
    clear hb
    go_wp2_with fail
    go_ret
    exact ⟨rfl, B⟩
  · have m1 : ¬ (S.length : Int) < 1 := by omega
    have m2 : ¬ (20 : Int) < (S.length : Int) := by omega
    have m3 : (30 : Int) < (V.length : Int) := by omega
    clear h h' h''
    go_enter Try.func7, Try.ntmps7
    go_wp2_with fail
    have B : Below w.heap.size w w := Below.refl _ _
    refine (awake8_any _).mono ?_
    rintro e w1 ⟨rfl, hb⟩
    replace B := B.trans (hb.mono B.size)
    have hzw1 := B.size
    clear hb
    go_wp2_with fail
    go_ret
    exact ⟨rfl, B⟩

theorem eq_dim {ll : List (List Nat)} {k n : Nat} {w : List Nat} (hkl : ll.length = k) (hw : Oct w) (hl : w.length = k) : Ro.Dim k n (eqOf ll n w) := by subst hkl; exact eqOf_dim hw hl
theorem eq_holds {ll : List (List Nat)} {k n : Nat} {w : List Nat} (hkl : ll.length = k) (hO : OctM ll) (hn : ∀ j, j < ll.length → (rowAt ll j).length = n) (hw : Oct w) (hl : w.length = k) : Holds k n (mat ll) (fj (eqOf ll n w)) := by subst hkl; exact eqOf_holds hO hn hw hl
theorem sol_full {ll : List (List Nat)} {k n : Nat} {E L : List Rw} (hkl : ll.length = k) (hO : OctM ll) (hn : ∀ j, j < ll.length → (rowAt ll j).length = n) (h : Sol k n (mat ll) E L) (hl : E.length = k) : dataM E = ll := by subst hkl; exact h.full hO hn hl
theorem comb_fit {ll : List (List Nat)} {k n : Nat} {w : List Nat} (hkl : ll.length = k) (hn : ∀ j, j < ll.length → (rowAt ll j).length = n) (h1 : 1 ≤ k) (hl : w.length = k) : combL w ll = combT w ll n ∧ combE w ll = 0 := by subst hkl; exact combL_fit hn h1 hl
theorem fit_at {n : Nat} {S : List (List Nat)} : ∀ j, j < (fitL n S).length → (rowAt (fitL n S) j).length = n := fun j hj => by
  rw [rowAt_eq _ _ hj]; exact fitL_wide n S _ (List.getElem_mem hj)
/-- The equations of vectors. -/
def eqs (ll : List (List Nat)) (n k : Nat) (V : List (List Nat)) : List Rw := V.map fun v => eqOf ll n (fitR k v)
theorem eqs_length (ll : List (List Nat)) (n k : Nat) (V : List (List Nat)) : (eqs ll n k V).length = V.length := by simp [eqs]
theorem eqs_take (ll : List (List Nat)) (n k : Nat) (V : List (List Nat)) {j : Nat} (hj : j < V.length) : eqs ll n k (V.take (j + 1)) = eqs ll n k (V.take j) ++ [eqOf ll n (fitR k (rowAt V j))] := by
  unfold eqs; rw [take_rowAt V j hj, List.map_append]; rfl
theorem eqs_fst (ll : List (List Nat)) (n k : Nat) (V : List (List Nat)) : (eqs ll n k V).map (fun x => x.1) = fitL k V := by
  unfold eqs fitL; rw [List.map_map]; rfl
theorem ofE_fit {k : Nat} {V : List (List Nat)} (hk : k ≤ 20) (hV : V.length ≤ 30) : ofE (k : Int) (fitL k V) = 0 := by
  unfold ofE
  have h1 : (fitL k V).length ≤ 30 := by rw [fitL_length]; exact hV
  have h2 : ((fitL k V).length : Int) * (k : Int) ≤ 30 * 20 := by
    have : (fitL k V).length * k ≤ 30 * 20 := Nat.mul_le_mul h1 hk
    have e : ((fitL k V).length : Int) * (k : Int) = (((fitL k V).length * k : Nat) : Int) := by simp
    rw [e]; omega
  rw [if_neg (by omega), if_neg (by omega), if_pos]
  intro i hi
  rw [fit_at i hi]

theorem load_grid8 {w : World} {g : Nat} {x y : Value} {T : TypeId} (h : Blk w g #[x, y] T) : (Instr.loadAt 26 (.pointer (some ⟨g, 0, none⟩))).run Try.prog w = .ok (.agg #[x, y]) w := by
  obtain ⟨k0, k1⟩ := h.two
  go_simp
theorem eqs_ok {ll : List (List Nat)} {k n : Nat} {V : List (List Nat)} (hkl : ll.length = k) (hO : OctM ll) (hn : ∀ j, j < ll.length → (rowAt ll j).length = n) (hV : OctM V) : ∀ x, x ∈ eqs ll n k V → Ro.Dim k n x ∧ Holds k n (mat ll) (fj x) := by
  intro x hx
  obtain ⟨v, hv, rfl⟩ := List.mem_map.1 hx
  exact ⟨eq_dim hkl (fitR_lt (hV v hv)) (fitR_length _ _), eq_holds hkl hO hn (fitR_lt (hV v hv)) (fitR_length _ _)⟩
theorem drop_rev (X : List Rw) {q : Nat} (h : q < X.length) : (X.drop q).reverse = (X.drop (q + 1)).reverse ++ [rwAt X q] := by
  rw [List.drop_eq_getElem_cons h, List.reverse_cons, rwAt_eq X q h]
theorem len_rows8 (ad : Option Addr) (n c : Nat) (w : World) : (Builtin.len_ #[22] 22 #[.slice ad n c]).run Try.prog w = .ok (.int .i64 n) w := by go_simp
/-- The world has so many blocks. -/
def Tall (s : Nat) (w : World) : Prop := s ≤ w.heap.size
theorem Tall.go {s : Nat} {w w' : World} (h : Tall s w) (hb : Below w.heap.size w w') : Tall s w' := Nat.le_trans h hb.size

set_option maxHeartbeats 4000000 in
theorem elimSolves_some (v0 v1 : Value) (S V : List (List Nat)) (x : Nat) (w : World) (hx : x < 256) (h0 : IsRows w v0 S) (h1 : IsRows w v1 V) (hs1 : 1 ≤ S.length) (hs2 : S.length ≤ 20) (hv : V.length ≤ 30) :
    Calls Try.prog 7 #[v0, v1, U8 x] w fun e w' => e = .returned (.bool true) ∧ Below w.heap.size w w' := by
  have H0 := Lib.hid h0
  have H1 := Lib.hid h1
  obtain ⟨a0, c0, rfl⟩ := h0.shape
  obtain ⟨a1, c1, rfl⟩ := h1.shape
  have HO0 := Lib.hid (show OctM S from h0.oct)
  have HO1 := Lib.hid (show OctM V from h1.oct)
  obtain ⟨n, hn⟩ : ∃ n, n = x % 21 := ⟨_, rfl⟩
  have hn21 : n < 21 := by omega
  have hnn : (x : Int) % 21 = (n : Int) := by omega
  have hmb := make_bytes n (by omega)
  have hmk := make_bytes S.length (by omega)
  have m1 : ¬ (S.length : Int) < 1 := by omega
  have m2 : ¬ (20 : Int) < (S.length : Int) := by omega
  have m3 : ¬ (30 : Int) < (V.length : Int) := by omega
  have HNW := Lib.hid (fun (w : World) => enew_yes S.length n w (by unfold newOk; omega))
  clear h0 h1 hn
  go_enter Try.func7, Try.ntmps7
  go_wp2_with fail
  have B : Below w.heap.size w w := Below.refl _ _
  refine (awake8_any _).mono ?_
  rintro e w1 ⟨rfl, hb⟩
  replace B := B.trans (hb.mono B.size)
  have hzw1 := B.size
  clear hb
  go_wp2_with fail
  simp only [hnn]
  go_loopw [9, 11, 12, 58] (fun o _ _ i wr => ∃ j : Nat, j ≤ S.length ∧ i = .int .i64 j ∧ Below w.heap.size w wr ∧ OwnM wr w.heap.size 35 o (fitL n (S.take j))) (fun _ _ _ i _ => S.length - (intOf i).toNat)
  case atStart => exact ⟨0, by omega, rfl, B, OwnM.nil _ _ _⟩
  case round =>
    clear B hzw1
    obtain ⟨j, hj, rfl, B, hO⟩ := hrel
    have HM := Lib.hid hO
    obtain ⟨oa, oc, rfl⟩ := hO.shape
    have HFL := Lib.hid (show (fitL n (S.take j)).length = j by rw [fitL_length, List.length_take, Nat.min_eq_left hj])
    obtain ⟨L, hL⟩ : ∃ L, L = fitL n (S.take j) := ⟨_, rfl⟩
    rw [← hL] at HM HFL
    simp only [← hL]
    have HLQ := Lib.hid hL
    clear hO hL
    by_cases hlt : j < S.length
    · obtain ⟨b, off, u, rfl, hu, hBr⟩ := H0.out.row B j hlt
      have HBR := Lib.hid (hBr.below (Nat.le_refl _) ((Below.refl _ _).alloc (Nat.le_refl _) (bytesObj (List.replicate n 0))))
      have HBO := Lib.hid hBr.lt
      obtain ⟨ra, rc, rfl, _⟩ := hBr
      have k0 : (0 : Int) ≤ (j : Int) := Int.natCast_nonneg _
      have k1 : (j : Int) < (S.length : Int) := by omega
      obtain ⟨W2, hcp, hO2, hgr⟩ := copy_fit (m := n) (Own.new wr (zeros n)) HBR.out
      have hBW : Below wr.heap.size wr W2 := below_grown ((Below.refl _ _).alloc (Nat.le_refl _) (bytesObj (zeros n))) hgr (by simp) (Nat.le_refl _)
      have HBW := Lib.hid hBW
      have HBY := Lib.hid (hO2.bytes (fitR_lt HBO.out) (by rw [fitR_length]; omega))
      rw [fitR_length] at HBY
      have HM2 := Lib.hid (HM.out.go hBW)
      have hz := B.size
      have hz2 := hBW.size
      have HB2 := Lib.hid (B.trans (hBW.mono hz))
      have hcp2 : ∀ ty, (Builtin.copy_ #[35, 35] ty #[whole wr.heap.size n, .slice ra (rowAt S j).length rc]).run Try.prog (wr.alloc (bytesObj (List.replicate n 0))) = .ok (goInt ((min (rowAt S j).length n : Nat) : Int)) W2 := hcp
      have hb1 : Below W2.heap.size W2 (W2.alloc (.cells #[whole wr.heap.size n] 35)) := (Below.refl _ _).alloc (Nat.le_refl _) _
      have HST := Lib.hid (show fitL n (S.take (j + 1)) = L ++ [fitR n (rowAt S j)] by rw [fitL_take hlt, HLQ.out])
      clear hBW hO2 hgr hcp
      go_wp2_with (at_builtin; refine wpList_append_m rfl (.tmp 67) (.tmp 69) rfl w.heap.size W2.heap.size _ _ L (fitR n (rowAt S j)) 35 rfl rfl rfl HBY.out HM2.out ?c3 ?c4 ?_)
      case c3 => omega
      case c4 => rw [HFL.out]; omega
      intro v' w2 hown2 hgr2 hs2
      rw [← HST.out] at hown2
      have HOW := Lib.hid hown2
      have HB3 := Lib.hid (below_grownO (HB2.out.trans (hb1.mono HB2.out.size)) hgr2 (Nat.le_trans HB2.out.size hb1.size) (fun g e => HM2.out.from g e))
      clear hown2 hgr2 hs2
      go_wp2_with fail
      go_roundw
      case rel => exact ⟨j + 1, by omega, by go_num, HB3.out, HOW.out⟩
      case measure => simp [intOf]; omega
    · obtain rfl : j = S.length := by omega
      rw [List.take_length] at HLQ
      have hz := B.size
      obtain ⟨k, hk⟩ : ∃ k, k = S.length := ⟨_, rfl⟩
      have HWT := Lib.hid (show ∀ q, q < L.length → (rowAt L q).length = n by rw [HLQ.out]; exact fit_at)
      have HLO := Lib.hid (show OctM L by rw [HLQ.out]; exact fitL_oct HO0.out)
      have HLK := Lib.hid (show L.length = k by rw [hk]; exact HFL.out)
      have hk1 : 1 ≤ k := by omega
      have hk2 : k ≤ 20 := by omega
      rw [← hk] at hmk HNW m1 m2 ⊢
      clear HFL HLQ hk hs1 hs2 HO0 H0 hmb
      have HMK := Lib.hid hmk
      clear hmk
      go_wp2_with fail
      refine (HNW.out _).mono ?_
      rintro e w2 ⟨gs, rfl, hE, hb⟩
      replace HM := Lib.hid (HM.out.go hb)
      replace B := B.trans (hb.mono B.size)
      have hzw2 := B.size
      clear hb
      have HGS := Lib.hid (show gs < w2.heap.size from hE.1.lt)
      have HE := Lib.hid (hE.mono hz)
      clear hE
      go_wp2_with fail
      refine (HNW.out _).mono ?_
      rintro e w3 ⟨gu, rfl, hU, hb⟩
      replace HM := Lib.hid (HM.out.go hb)
      replace HE := Lib.hid (HE.out.go hb)
      replace B := B.trans (hb.mono B.size)
      have hzw3 := B.size
      clear hb
      have HGG := Lib.hid (show gs ≠ gu by have := HGS.out; have := hU.2.2; omega)
      have HU := Lib.hid (hU.mono (show w.heap.size ≤ w2.heap.size from hzw2))
      have HG := Lib.hid HE.out.2.2
      have HGUW := Lib.hid HU.out.2.2
      have HMB := Lib.hid HM.out.lt
      clear hU HGS HNW
      go_wp2_with fail
      obtain ⟨s3, hs3⟩ : ∃ s3 : Nat, s3 = w3.heap.size := ⟨_, rfl⟩
      have HS3 := Lib.hid (show w.heap.size ≤ s3 by rw [hs3]; exact B.size)
      rw [← hs3] at HMB
      have HS3' := Lib.hid (Nat.le_of_eq hs3)
      clear hs3
      go_loopw [17, 18, 20, 21, 22, 23, 24, 25, 26, 27, 28, 92] (fun lv vv _ _ _ _ _ _ _ _ _ x wr => ∃ (j : Nat) (E : List Rw) (ve : Value), j ≤ V.length ∧ x = .int .i64 j ∧ Below w.heap.size w wr ∧ s3 ≤ wr.heap.size ∧ OwnM wr w.heap.size 35 (.slice oa L.length oc) L ∧ OwnL wr w.heap.size 61 lv (eqs L n k (V.take j)) ∧ OwnM wr s3 35 vv (fitL k (V.take j)) ∧ IsE wr w.heap.size gs ve k n E ∧ Sol k n (mat L) E (eqs L n k (V.take j)) ∧ IsE wr w.heap.size gu (.slice none 0 0) k n []) (fun _ _ _ _ _ _ _ _ _ _ _ x _ => V.length - (intOf x).toNat)
      case atStart => exact ⟨0, [], _, by omega, rfl, B, HS3'.out, HM.out, OwnL.nil _ _ _, OwnM.nil _ _ _, HE.out, Sol.nil k n (mat L), HU.out⟩
      case round =>
        clear B HM HE HU hz hzw2 hzw3
        obtain ⟨j, E, ve, hj, rfl, B, hsz, hM, hLV, hVV, hE, hS, hU⟩ := hrel
        have HSZ := Lib.hid hsz
        have HM := Lib.hid hM
        have HLV := Lib.hid hLV
        have HVV := Lib.hid hVV
        have HE := Lib.hid hE
        have HS := Lib.hid hS
        have HU := Lib.hid hU
        obtain ⟨la, lc, rfl⟩ := hLV.shape
        obtain ⟨va, vc, rfl⟩ := hVV.shape
        have hle := hS.le
        have hl1 : (eqs L n k (V.take j)).length = j := by rw [eqs_length, List.length_take, Nat.min_eq_left hj]
        have hl2 : (fitL k (V.take j)).length = j := by rw [fitL_length, List.length_take, Nat.min_eq_left hj]
        have HL1 := Lib.hid hl1
        have HL2 := Lib.hid hl2
        clear hsz hM hLV hVV hE hS hU hl1 hl2
        by_cases hlt : j < V.length
        · obtain ⟨X, hX⟩ : ∃ X, X = eqs L n k (V.take j) := ⟨_, rfl⟩
          obtain ⟨Y, hY⟩ : ∃ Y, Y = fitL k (V.take j) := ⟨_, rfl⟩
          obtain ⟨q, hq⟩ : ∃ q, q = fitR k (rowAt V j) := ⟨_, rfl⟩
          have HX1 := Lib.hid (show eqs L n k (V.take (j + 1)) = X ++ [eqOf L n q] by rw [hX, hq]; exact eqs_take L n k V hlt)
          have HY1 := Lib.hid (show fitL k (V.take (j + 1)) = Y ++ [q] by rw [hY, hq]; exact fitL_take hlt)
          rw [← hX] at HLV HS HL1
          rw [← hY] at HVV HL2
          simp only [← hX, ← hY]
          obtain ⟨b, off, u, rfl, hu, hBr⟩ := H1.out.row B j hlt
          have HBR := Lib.hid (hBr.below (Nat.le_refl _) ((Below.refl _ _).alloc (Nat.le_refl _) (bytesObj (List.replicate k 0))))
          have HBO := Lib.hid hBr.lt
          obtain ⟨ra, rc, rfl, _⟩ := hBr
          have k0 : (0 : Int) ≤ (j : Int) := Int.natCast_nonneg _
          have k1 : (j : Int) < (V.length : Int) := by omega
          obtain ⟨W2, hcp, hO2, hgr⟩ := copy_fit (m := k) (Own.new wr (zeros k)) HBR.out
          have hBW : Below wr.heap.size wr W2 := below_grown ((Below.refl _ _).alloc (Nat.le_refl _) (bytesObj (zeros k))) hgr (by simp) (Nat.le_refl _)
          have HBW := Lib.hid hBW
          have HBY := Lib.hid (hO2.bytes (fitR_lt HBO.out) (by rw [fitR_length]; omega))
          rw [fitR_length] at HBY
          rw [← hq] at HBY hO2
          have HQO := Lib.hid (show Oct q by rw [hq]; exact fitR_lt HBO.out)
          have HQL := Lib.hid (show q.length = k by rw [hq]; exact fitR_length _ _)
          replace HM := Lib.hid (HM.out.go hBW)
          replace HLV := Lib.hid (HLV.out.go hBW)
          replace HVV := Lib.hid (HVV.out.go hBW)
          replace HE := Lib.hid (HE.out.go hBW)
          replace HU := Lib.hid (HU.out.go hBW)
          have hz := B.size
          have hz2 := hBW.size
          replace B := B.trans (hBW.mono hz)
          have hcp2 : ∀ ty, (Builtin.copy_ #[35, 35] ty #[whole wr.heap.size k, .slice ra (rowAt V j).length rc]).run Try.prog (wr.alloc (bytesObj (List.replicate k 0))) = .ok (goInt ((min (rowAt V j).length k : Nat) : Int)) W2 := hcp
          obtain ⟨gq, hgq⟩ : ∃ gq : Nat, gq = wr.heap.size := ⟨_, rfl⟩
          have hmk := HMK.out
          clear hBW hO2 hgr hcp hX hY hq HBW HBR HBO
          go_wp2_with fail
          clear hmk hcp2 hu
          rw [← hgq] at HBY
          simp only [← hgq]
          have HT := Lib.hid (show Tall s3 W2 by have := HSZ.out; unfold Tall; omega)
          clear hgq hz2 HSZ
          have hzz := B.size
          refine (comb_any _ _ q L _ (by rw [HWT.out 0 (by have := HLK.out; omega)]; omega) HBY.out HM.out.rows).mono ?_
          rintro e w4 ⟨u4, rfl, hu4, hb⟩
          replace HBY := Lib.hid (HBY.out.go hb)
          replace HM := Lib.hid (HM.out.go hb)
          replace HLV := Lib.hid (HLV.out.go hb)
          replace HVV := Lib.hid (HVV.out.go hb)
          replace HE := Lib.hid (HE.out.go hb)
          replace HU := Lib.hid (HU.out.go hb)
          replace HT := Lib.hid (HT.out.go hb)
          replace B := B.trans (hb.mono B.size)
          have hzw4 := B.size
          clear hb
          rw [(comb_fit HLK.out HWT.out hk1 HQL.out).1] at hu4
          rw [(comb_fit HLK.out HWT.out hk1 HQL.out).2]
          have hd4 : Bytes w4 u4 (combT q L n) := hu4.bytes (combT_lt HQO.out L n) (by rw [combT_length]; omega)
          have HD4 := Lib.hid hd4
          obtain ⟨da, dc, rfl, _⟩ := hd4
          clear hu4
          go_wp2_with fail
          refine (of_any _ _ q (combT q L n) _ HBY.out HD4.out (by rw [HQL.out]; omega) (by rw [combT_length]; omega)).mono ?_
          rintro e w5 ⟨u5, rfl, hu5, hb⟩
          replace HBY := Lib.hid (HBY.out.go hb)
          replace HD4 := Lib.hid (HD4.out.go hb)
          replace HM := Lib.hid (HM.out.go hb)
          replace HLV := Lib.hid (HLV.out.go hb)
          replace HVV := Lib.hid (HVV.out.go hb)
          replace HE := Lib.hid (HE.out.go hb)
          replace HU := Lib.hid (HU.out.go hb)
          replace HT := Lib.hid (HT.out.go hb)
          replace B := B.trans (hb.mono B.size)
          have hzw5 := B.size
          clear hb
          obtain ⟨_, _, rfl, hp5, hq5⟩ := hu5
          have HP5 := Lib.hid hp5
          have HQ5 := Lib.hid hq5
          obtain ⟨pa, pc, rfl, _⟩ := hp5
          obtain ⟨qa, qc, rfl, _⟩ := hq5
          have hsz5 := B.size
          go_wp2_with (at_builtin; refine wpList_append_vrows rfl (.tmp 109) (.tmp 113) rfl w.heap.size _ _ X [eqOf L n q] rfl rfl (HLV.out.go ((Below.refl _ _).alloc (Nat.le_refl _) _)) (IsRL.one w5.heap.size rfl HP5.out HQ5.out) ?c1 ?c2 ?_)
          case c1 => simp; omega
          case c2 => have := HL1.out; simp; omega
          intro v6 w6 ho6 hg6 hs6
          have hb5 : Below w5.heap.size w5 (w5.alloc (.cells #[.slice pa q.length pc, .slice qa (combT q L n).length qc] 61)) := (Below.refl _ _).alloc (Nat.le_refl _) _
          replace B := below_grownO (B.trans (hb5.mono hsz5)) hg6 (Nat.le_trans hsz5 hb5.size) HLV.out.from
          have hsz6 := B.size
          have HLVG := Lib.hid (HLV.out.go hb5)
          replace HT := Lib.hid (show Tall s3 w6 from Nat.le_trans (HT.out.go hb5) hg6.size)
          replace HBY := Lib.hid ((HBY.out.go hb5).soft hs6)
          replace HD4 := Lib.hid ((HD4.out.go hb5).soft hs6)
          replace HM := Lib.hid ((HM.out.go hb5).keepO hg6 hs6 ((HM.out.go hb5).typed.apart HLVG.out.typed (by decide)))
          replace HVV := Lib.hid ((HVV.out.go hb5).keepO hg6 hs6 ((HVV.out.go hb5).typed.apart HLVG.out.typed (by decide)))
          replace HE := Lib.hid ((HE.out.go hb5).keepO hg6 hs6 (HLVG.out.typed.box (HE.out.go hb5).1 (by decide)) ((HE.out.go hb5).2.1.typed.apart HLVG.out.typed (by decide)))
          replace HU := Lib.hid ((HU.out.go hb5).keepO hg6 hs6 (HLVG.out.typed.box (HU.out.go hb5).1 (by decide)) ((HU.out.go hb5).2.1.typed.apart HLVG.out.typed (by decide)))
          replace HLV := Lib.hid ho6
          clear ho6 hg6 hs6 hb5 HLVG HP5 HQ5 hsz5
          obtain ⟨l6, d6, e6⟩ := HLV.out.shape
          rw [List.length_append, List.length_singleton] at e6
          subst e6
          go_wp2_with (at_builtin; refine wpList_append_m rfl (.tmp 115) (.tmp 117) rfl s3 w6.heap.size _ _ Y q 35 rfl rfl rfl HBY.out HVV.out HT.out ?c4 ?_)
          case c4 => have := HL2.out; omega
          intro v7 w7 ho7 hg7 hs7
          have hb6 : Below w6.heap.size w6 (w6.alloc (.cells #[whole gq k] 35)) := (Below.refl _ _).alloc (Nat.le_refl _) _
          replace B := below_grownO (B.trans (hb6.mono hsz6)) hg7 (Nat.le_trans hsz6 hb6.size) (fun b e => Nat.le_trans HS3.out (HVV.out.from b e))
          have HVVG := Lib.hid (HVV.out.go hb6)
          have hsz7 := B.size
          replace HT := Lib.hid (show Tall s3 w7 from Nat.le_trans (HT.out.go hb6) hg7.size)
          replace HBY := Lib.hid ((HBY.out.go hb6).soft hs7)
          replace HD4 := Lib.hid ((HD4.out.go hb6).soft hs7)
          replace HM := Lib.hid ((HM.out.go hb6).keepO hg7 hs7 (fun b e e' => by have := HMB.out b e; have := HVV.out.from b e'; omega))
          replace HLV := Lib.hid ((HLV.out.go hb6).keepO hg7 hs7 ((HLV.out.go hb6).typed.apart HVVG.out.typed (by decide)))
          replace HE := Lib.hid ((HE.out.go hb6).keepO hg7 hs7 (HVVG.out.typed.box (HE.out.go hb6).1 (by decide)) ((HE.out.go hb6).2.1.typed.apart HVVG.out.typed (by decide)))
          replace HU := Lib.hid ((HU.out.go hb6).keepO hg7 hs7 (HVVG.out.typed.box (HU.out.go hb6).1 (by decide)) ((HU.out.go hb6).2.1.typed.apart HVVG.out.typed (by decide)))
          replace HVV := Lib.hid ho7
          clear ho7 hg7 hs7 hb6 HVVG hsz6
          obtain ⟨l7, d7, e7⟩ := HVV.out.shape
          rw [List.length_append, List.length_singleton] at e7
          subst e7
          go_wp2_with fail
          refine (erank_any gs w.heap.size k n ve E _ HE.out).mono ?_
          rintro e w' ⟨rfl, rfl⟩
          go_wp2_with fail
          refine (of_any _ _ q (combT q L n) _ HBY.out HD4.out (by rw [HQL.out]; omega) (by rw [combT_length]; omega)).mono ?_
          rintro e w8 ⟨u8, rfl, hu8, hb⟩
          replace HM := Lib.hid (HM.out.go hb)
          replace HLV := Lib.hid (HLV.out.go hb)
          replace HVV := Lib.hid (HVV.out.go hb)
          replace HE := Lib.hid (HE.out.go hb)
          replace HU := Lib.hid (HU.out.go hb)
          replace HT := Lib.hid (HT.out.go hb)
          replace B := B.trans (hb.mono B.size)
          have hzw8 := B.size
          clear hb
          have HU8 := Lib.hid hu8
          clear hu8 HBY HD4
          go_wp2_with fail
          have HXD := Lib.hid (eq_dim (n := n) HLK.out HQO.out HQL.out)
          have HXH := Lib.hid (eq_holds HLK.out HLO.out HWT.out HQO.out HQL.out)
          refine (eput_any gs w.heap.size k n ve u8 E (eqOf L n q) w8 HE.out HU8.out HS.out.red HXD.out (by omega) (by omega) (by omega)).mono ?_
          rintro e w9 ⟨ve9, rfl, q1, q2, q3⟩
          replace B := q2.under B B.size HG.out HE.out.2.1.from
          have hsz9 := B.size
          replace HT := Lib.hid (show Tall s3 w9 from Nat.le_trans HT.out q2.size)
          replace HM := Lib.hid (HE.out.keepsM q2 HM.out (by decide) (by decide))
          replace HLV := Lib.hid (HE.out.keepsL q2 HLV.out (by decide) (by decide))
          replace HVV := Lib.hid (HE.out.keepsM q2 HVV.out (by decide) (by decide))
          replace HU := Lib.hid (HU.out.beside HE.out q2 (fun e => HGG.out e.symm) (fun b e => by cases e))
          replace HE := Lib.hid q1
          have HS2 := Lib.hid (HS.out.put HXD.out HXH.out)
          have HPC := Lib.hid (HS.out.none HXD.out HXH.out)
          obtain ⟨E2, hE2⟩ : ∃ y, y = Ro.take1 E (eqOf L n q) := ⟨_, rfl⟩
          obtain ⟨m0, hm0⟩ : ∃ y, y = putC E (eqOf L n q) := ⟨_, rfl⟩
          rw [← hE2] at HE HS2 HPC
          rw [← hm0] at HPC
          simp only [← hm0]
          clear q1 q2 q3 HU8 hE2 hm0
          go_wp2_with fail
          have HE0 := Lib.hid (show ofE (k : Int) (Y ++ [q]) = 0 by rw [← HY1.out]; exact ofE_fit hk2 (by simp; omega))
          have hyl : (Y ++ [q]).length = Y.length + 1 := by simp
          refine (gof_any _ (k : Int) (Y ++ [q]) _ HVV.out.rows (by have := HL2.out; omega)).mono ?_
          rintro e w10 ⟨u10, rfl, hu10, hb⟩
          replace HM := Lib.hid (HM.out.go hb)
          replace HLV := Lib.hid (HLV.out.go hb)
          replace HVV := Lib.hid (HVV.out.go hb)
          replace HE := Lib.hid (HE.out.go hb)
          replace HU := Lib.hid (HU.out.go hb)
          replace HT := Lib.hid (HT.out.go hb)
          replace B := B.trans (hb.mono B.size)
          have hzw10 := B.size
          clear hb
          rw [HE0.out]
          have hu10' : IsGrid w10 u10 k (Y ++ [q]) := by
            replace hu10 := hu10.grid
            unfold ofM ofL at hu10
            rwa [HE0.out, if_pos rfl, if_pos rfl] at hu10
          obtain ⟨a10, c10, e10, hq10⟩ := hu10'
          rw [hyl] at e10 hq10
          subst e10
          have hig : IsGrid w10 (.agg #[.int .i64 (k : Int), .slice a10 (Y.length + 1) c10]) k (Y ++ [q]) := ⟨a10, c10, by rw [hyl], by rw [hyl]; exact hq10⟩
          have HIG := Lib.hid hig
          have HYO := Lib.hid (show OctM (Y ++ [q]) by rw [← HY1.out]; exact fitL_oct (fun r hr => HO1.out r (List.mem_of_mem_take hr)))
          have HYW := Lib.hid (show ∀ r ∈ Y ++ [q], r.length = k by rw [← HY1.out]; exact fitL_wide k _)
          have HRN := Lib.hid (show ((E2.length : Int) != (rankL k (Y ++ [q]) : Int)) = false by
            have h := HS2.out.rank
            rw [← HX1.out, eqs_fst, HY1.out] at h
            rw [h]; simp)
          have HAD := Lib.hid (show IntKind.i64.wrap ((E.length : Int) + 1) = (E.length : Int) + 1 by rw [IntKind.wrap_i64]; omega)
          clear hu10 hq10 hig hyl
          go_wp2_with fail
          obtain ⟨gm, hgm⟩ : ∃ gm : Nat, gm = w10.heap.size := ⟨_, rfl⟩
          obtain ⟨hb, hk, hs⟩ := blocks1 w10 #[.int .i64 (k : Int), .slice a10 (Y.length + 1) c10] 26
          generalize w10.alloc (.cells #[.int .i64 (k : Int), .slice a10 (Y.length + 1) c10] 26) = W11 at *
          have KG := Lib.hid hk
          replace HM := Lib.hid (HM.out.go hb)
          replace HLV := Lib.hid (HLV.out.go hb)
          replace HVV := Lib.hid (HVV.out.go hb)
          replace HE := Lib.hid (HE.out.go hb)
          replace HU := Lib.hid (HU.out.go hb)
          replace HT := Lib.hid (HT.out.go hb)
          replace HIG := Lib.hid (HIG.out.go hb)
          replace B := B.trans (hb.mono B.size)
          have hzW11 := B.size
          clear hb hk hs
          rw [← hgm] at KG
          simp only [← hgm]
          clear hgm
          rcases HPC.out with ⟨e1, e2⟩ | ⟨e1, e2⟩
          · rw [e1]
            clear e1
            refine wp_region_mono (C := Cb W11) (R := Rb) (H := Hz) [TyZ.val 135 (I64 0), TyZ.val 136 (.bool false), TyZ.val 137 (.bool false), TyZ.val 138 (I64 0), TyZ.val 139 (.bool false), TyZ.val 140 (.bool false), TyZ.val 141 (.bool false), TyZ.val 142 (.int .i64 0), TyZ.val 143 (.bool false), TyZ.val 144 (.bool false), TyZ.val 145 (.bool false), TyZ.val 146 (.pointer (some ⟨gs, 0, none⟩)), TyZ.val 147 (.int .i64 (E2.length : Int)), TyZ.val 148 (.agg #[.int .i64 (k : Int), .slice a10 (Y.length + 1) c10]), TyZ.val 149 (.int .i64 (rankL k (Y ++ [q]) : Int)), TyZ.val 150 (.bool false), TyZ.val 151 (.bool false), TyZ.val 152 (.bool false), TyZ.val 153 (.int .i64 0), TyZ.val 154 (.bool true), TyZ.val 155 (.pointer (some ⟨gs, 0, none⟩)), TyZ.val 156 (.int .i64 (E2.length : Int)), TyZ.val 157 (.int .i64 (E.length : Int)), TyZ.val 158 (.int .i64 ((E.length : Int) + 1)), TyZ.val 159 (.bool true), TyZ.val 160 (.bool false), TyZ.val 161 (.bool false)] (by kernel_rfl) (hC_b W11) (hCH_z W11) (drew_b W11) ⟨trivial, trivial, trivial, trivial, trivial, trivial, trivial, trivial, trivial, trivial, trivial, trivial, trivial, trivial, trivial, trivial, trivial, trivial, trivial, trivial, trivial, trivial, trivial, trivial, trivial, trivial, trivial, trivial⟩ (by kernel_rfl) ?_ ?_
            · refine ⟨?_, ?_, ?_, ?_, ?_, ?_, ?_, ?_, ?_, ?_, ?_, ?_, ?_, ?_, ?_, ?_, ?_, ?_, ?_, ?_, ?_, ?_, ?_, ?_, ?_, ?_, ?_, trivial⟩
              · intro ac wc hC hsz hfr hd hpr
                have d26 : ac.eval (.tmp 26) = I64 0 := hfr 26 rfl
                rw [if_pos (wanted_none rfl)]
                exact ob_copy rfl rfl rfl (Nat.lt_of_lt_of_eq (by decide : 135 < 238) hsz.symm) (Or.inl rfl) (Below.refl _ _) d26
              · intro ac wc hC hsz hfr hd hpr
                have d135 : ac.eval (.tmp 135) = I64 0 := hd 0 rfl
                rw [if_pos (wanted_none rfl)]
                exact ob_bin _ rfl rfl rfl (Nat.lt_of_lt_of_eq (by decide : 136 < 238) hsz.symm) rfl d135 rfl (neq_err rfl) (Below.refl _ _) rfl
              · intro ac wc hC hsz hfr hd hpr
                have d136 : ac.eval (.tmp 136) = (.bool false) := hd 1 rfl
                rw [if_pos (wanted_none rfl)]
                exact ob_copy rfl rfl rfl (Nat.lt_of_lt_of_eq (by decide : 137 < 238) hsz.symm) (Or.inl rfl) (Below.refl _ _) d136
              · intro ac wc hC hsz hfr hd hpr
                have d137 : ac.eval (.tmp 137) = (.bool false) := hd 2 rfl
                have d28 : ac.eval (.tmp 28) = I64 0 := hfr 28 rfl
                rw [if_pos (wanted_some rfl (yielded_of rfl d137))]
                exact ob_copy rfl rfl rfl (Nat.lt_of_lt_of_eq (by decide : 138 < 238) hsz.symm) (Or.inl rfl) (Below.refl _ _) d28
              · intro ac wc hC hsz hfr hd hpr
                have d137 : ac.eval (.tmp 137) = (.bool false) := hd 2 rfl
                have d138 : ac.eval (.tmp 138) = I64 0 := hd 3 rfl
                rw [if_pos (wanted_some rfl (yielded_of rfl d137))]
                exact ob_bin _ rfl rfl rfl (Nat.lt_of_lt_of_eq (by decide : 139 < 238) hsz.symm) rfl d138 rfl (neq_err rfl) (Below.refl _ _) rfl
              · intro ac wc hC hsz hfr hd hpr
                have d137 : ac.eval (.tmp 137) = (.bool false) := hd 2 rfl
                have d139 : ac.eval (.tmp 139) = (.bool false) := hd 4 rfl
                rw [if_pos (wanted_none rfl)]
                exact ob_pick rfl rfl rfl (Nat.lt_of_lt_of_eq (by decide : 140 < 238) hsz.symm) rfl d137 (Below.refl _ _) d139
              · intro ac wc hC hsz hfr hd hpr
                have d140 : ac.eval (.tmp 140) = (.bool false) := hd 5 rfl
                rw [if_pos (wanted_none rfl)]
                exact ob_copy rfl rfl rfl (Nat.lt_of_lt_of_eq (by decide : 141 < 238) hsz.symm) (Or.inl rfl) (Below.refl _ _) d140
              · intro ac wc hC hsz hfr hd hpr
                have d141 : ac.eval (.tmp 141) = (.bool false) := hd 6 rfl
                have d25 : ac.eval (.tmp 25) = (.int .i64 0) := hfr 25 rfl
                rw [if_pos (wanted_some rfl (yielded_of rfl d141))]
                exact ob_copy rfl rfl rfl (Nat.lt_of_lt_of_eq (by decide : 142 < 238) hsz.symm) (Or.inl rfl) (Below.refl _ _) d25
              · intro ac wc hC hsz hfr hd hpr
                have d141 : ac.eval (.tmp 141) = (.bool false) := hd 6 rfl
                have d142 : ac.eval (.tmp 142) = (.int .i64 0) := hd 7 rfl
                rw [if_pos (wanted_some rfl (yielded_of rfl d141))]
                exact ob_bin _ rfl rfl rfl (Nat.lt_of_lt_of_eq (by decide : 143 < 238) hsz.symm) rfl d142 rfl (eql_int rfl) (Below.refl _ _) rfl
              · intro ac wc hC hsz hfr hd hpr
                have d141 : ac.eval (.tmp 141) = (.bool false) := hd 6 rfl
                have d143 : ac.eval (.tmp 143) = (.bool false) := hd 8 rfl
                rw [if_pos (wanted_none rfl)]
                exact ob_pick rfl rfl rfl (Nat.lt_of_lt_of_eq (by decide : 144 < 238) hsz.symm) rfl d141 (Below.refl _ _) d143
              · intro ac wc hC hsz hfr hd hpr
                have d144 : ac.eval (.tmp 144) = (.bool false) := hd 9 rfl
                rw [if_pos (wanted_none rfl)]
                exact ob_copy rfl rfl rfl (Nat.lt_of_lt_of_eq (by decide : 145 < 238) hsz.symm) (Or.inl rfl) (Below.refl _ _) d144
              · intro ac wc hC hsz hfr hd hpr
                have d145 : ac.eval (.tmp 145) = (.bool false) := hd 10 rfl
                have d13 : ac.eval (.tmp 13) = (.pointer (some ⟨gs, 0, none⟩)) := hfr 13 rfl
                rw [if_pos (wanted_some rfl (yielded_of rfl d145))]
                exact ob_copy rfl rfl rfl (Nat.lt_of_lt_of_eq (by decide : 146 < 238) hsz.symm) (Or.inl rfl) (Below.refl _ _) d13
              · intro ac wc hC hsz hfr hd hpr
                have d145 : ac.eval (.tmp 145) = (.bool false) := hd 10 rfl
                have d146 : ac.eval (.tmp 146) = (.pointer (some ⟨gs, 0, none⟩)) := hd 11 rfl
                rw [if_pos (wanted_some rfl (yielded_of rfl d145))]
                refine ob_call rfl rfl rfl (Nat.lt_of_lt_of_eq (by decide : 147 < 238) hsz.symm) rfl (enter_of Try.func44 (by kernel_rfl) rfl) ?_
                show Calls Try.prog 44 #[ac.eval (.tmp 146)] wc _
                rw [d146]
                exact (erank_any gs w.heap.size k n ve9 E2 wc (HE.out.go hC)).mono fun _ _ ⟨he, hw⟩ => ⟨_, he, rfl, hw ▸ Below.refl _ _⟩
              · intro ac wc hC hsz hfr hd hpr
                have d145 : ac.eval (.tmp 145) = (.bool false) := hd 10 rfl
                have d27 : ac.eval (.tmp 27) = (.pointer (some ⟨gm, 0, none⟩)) := hfr 27 rfl
                rw [if_pos (wanted_some rfl (yielded_of rfl d145))]
                exact ob_load _ rfl rfl rfl (Nat.lt_of_lt_of_eq (by decide : 148 < 238) hsz.symm) rfl d27 (load_grid8 (KG.out.go hC)) (Below.refl _ _) rfl
              · intro ac wc hC hsz hfr hd hpr
                have d145 : ac.eval (.tmp 145) = (.bool false) := hd 10 rfl
                have d148 : ac.eval (.tmp 148) = (.agg #[.int .i64 (k : Int), .slice a10 (Y.length + 1) c10]) := hd 13 rfl
                rw [if_pos (wanted_some rfl (yielded_of rfl d145))]
                refine ob_call rfl rfl rfl (Nat.lt_of_lt_of_eq (by decide : 149 < 238) hsz.symm) rfl (enter_of Try.func21 (by kernel_rfl) rfl) ?_
                show Calls Try.prog 21 #[ac.eval (.tmp 148)] wc _
                rw [d148]
                exact (rank_any _ k k (Y ++ [q]) wc (HIG.out.go hC) HYO.out HYW.out (by omega) (by have := HL2.out; simp; omega)).mono fun _ _ ⟨he, hb⟩ => ⟨_, he, rfl, hb⟩
              · intro ac wc hC hsz hfr hd hpr
                have d145 : ac.eval (.tmp 145) = (.bool false) := hd 10 rfl
                have d147 : ac.eval (.tmp 147) = (.int .i64 (E2.length : Int)) := hd 12 rfl
                have d149 : ac.eval (.tmp 149) = (.int .i64 (rankL k (Y ++ [q]) : Int)) := hd 14 rfl
                rw [if_pos (wanted_some rfl (yielded_of rfl d145))]
                exact ob_bin _ rfl rfl rfl (Nat.lt_of_lt_of_eq (by decide : 150 < 238) hsz.symm) rfl d147 d149 (neq_int HRN.out) (Below.refl _ _) rfl
              · intro ac wc hC hsz hfr hd hpr
                have d145 : ac.eval (.tmp 145) = (.bool false) := hd 10 rfl
                have d150 : ac.eval (.tmp 150) = (.bool false) := hd 15 rfl
                rw [if_pos (wanted_none rfl)]
                exact ob_pick rfl rfl rfl (Nat.lt_of_lt_of_eq (by decide : 151 < 238) hsz.symm) rfl d145 (Below.refl _ _) d150
              · intro ac wc hC hsz hfr hd hpr
                have d151 : ac.eval (.tmp 151) = (.bool false) := hd 16 rfl
                rw [if_pos (wanted_none rfl)]
                exact ob_copy rfl rfl rfl (Nat.lt_of_lt_of_eq (by decide : 152 < 238) hsz.symm) (Or.inl rfl) (Below.refl _ _) d151
              · intro ac wc hC hsz hfr hd hpr
                have d152 : ac.eval (.tmp 152) = (.bool false) := hd 17 rfl
                have d25 : ac.eval (.tmp 25) = (.int .i64 0) := hfr 25 rfl
                rw [if_pos (wanted_some rfl (yielded_of rfl d152))]
                exact ob_copy rfl rfl rfl (Nat.lt_of_lt_of_eq (by decide : 153 < 238) hsz.symm) (Or.inl rfl) (Below.refl _ _) d25
              · intro ac wc hC hsz hfr hd hpr
                have d152 : ac.eval (.tmp 152) = (.bool false) := hd 17 rfl
                have d153 : ac.eval (.tmp 153) = (.int .i64 0) := hd 18 rfl
                rw [if_pos (wanted_some rfl (yielded_of rfl d152))]
                exact ob_bin _ rfl rfl rfl (Nat.lt_of_lt_of_eq (by decide : 154 < 238) hsz.symm) rfl d153 rfl (eql_int rfl) (Below.refl _ _) rfl
              · intro ac wc hC hsz hfr hd hpr
                have d152 : ac.eval (.tmp 152) = (.bool false) := hd 17 rfl
                have d13 : ac.eval (.tmp 13) = (.pointer (some ⟨gs, 0, none⟩)) := hfr 13 rfl
                rw [if_pos (wanted_some rfl (yielded_of rfl d152))]
                exact ob_copy rfl rfl rfl (Nat.lt_of_lt_of_eq (by decide : 155 < 238) hsz.symm) (Or.inl rfl) (Below.refl _ _) d13
              · intro ac wc hC hsz hfr hd hpr
                have d152 : ac.eval (.tmp 152) = (.bool false) := hd 17 rfl
                have d155 : ac.eval (.tmp 155) = (.pointer (some ⟨gs, 0, none⟩)) := hd 20 rfl
                rw [if_pos (wanted_some rfl (yielded_of rfl d152))]
                refine ob_call rfl rfl rfl (Nat.lt_of_lt_of_eq (by decide : 156 < 238) hsz.symm) rfl (enter_of Try.func44 (by kernel_rfl) rfl) ?_
                show Calls Try.prog 44 #[ac.eval (.tmp 155)] wc _
                rw [d155]
                exact (erank_any gs w.heap.size k n ve9 E2 wc (HE.out.go hC)).mono fun _ _ ⟨he, hw⟩ => ⟨_, he, rfl, hw ▸ Below.refl _ _⟩
              · intro ac wc hC hsz hfr hd hpr
                have d152 : ac.eval (.tmp 152) = (.bool false) := hd 17 rfl
                have d24 : ac.eval (.tmp 24) = (.int .i64 (E.length : Int)) := hfr 24 rfl
                rw [if_pos (wanted_some rfl (yielded_of rfl d152))]
                exact ob_copy rfl rfl rfl (Nat.lt_of_lt_of_eq (by decide : 157 < 238) hsz.symm) (Or.inl rfl) (Below.refl _ _) d24
              · intro ac wc hC hsz hfr hd hpr
                have d152 : ac.eval (.tmp 152) = (.bool false) := hd 17 rfl
                have d157 : ac.eval (.tmp 157) = (.int .i64 (E.length : Int)) := hd 22 rfl
                rw [if_pos (wanted_some rfl (yielded_of rfl d152))]
                exact ob_bin _ rfl rfl rfl (Nat.lt_of_lt_of_eq (by decide : 158 < 238) hsz.symm) rfl d157 rfl (add_one HAD.out) (Below.refl _ _) rfl
              · intro ac wc hC hsz hfr hd hpr
                have d152 : ac.eval (.tmp 152) = (.bool false) := hd 17 rfl
                have d156 : ac.eval (.tmp 156) = (.int .i64 (E2.length : Int)) := hd 21 rfl
                have d158 : ac.eval (.tmp 158) = (.int .i64 ((E.length : Int) + 1)) := hd 23 rfl
                rw [if_pos (wanted_some rfl (yielded_of rfl d152))]
                exact ob_bin _ rfl rfl rfl (Nat.lt_of_lt_of_eq (by decide : 159 < 238) hsz.symm) rfl d156 d158 (eql_int (by rw [e2]; simp)) (Below.refl _ _) rfl
              · intro ac wc hC hsz hfr hd hpr
                have d152 : ac.eval (.tmp 152) = (.bool false) := hd 17 rfl
                have d154 : ac.eval (.tmp 154) = (.bool true) := hd 19 rfl
                have d159 : ac.eval (.tmp 159) = (.bool true) := hd 24 rfl
                rw [if_pos (wanted_some rfl (yielded_of rfl d152))]
                exact ob_bin _ rfl rfl rfl (Nat.lt_of_lt_of_eq (by decide : 160 < 238) hsz.symm) rfl d154 d159 (neq_bool rfl) (Below.refl _ _) rfl
              · intro ac wc hC hsz hfr hd hpr
                have d152 : ac.eval (.tmp 152) = (.bool false) := hd 17 rfl
                have d160 : ac.eval (.tmp 160) = (.bool false) := hd 25 rfl
                rw [if_pos (wanted_none rfl)]
                exact ob_pick rfl rfl rfl (Nat.lt_of_lt_of_eq (by decide : 161 < 238) hsz.symm) rfl d152 (Below.refl _ _) d160
            intro a' W12 hC hdef hsz hfr hd
            have e135 : a'.eval (.tmp 135) = I64 0 := hd 0 (by decide)
            have e136 : a'.eval (.tmp 136) = (.bool false) := hd 1 (by decide)
            have e137 : a'.eval (.tmp 137) = (.bool false) := hd 2 (by decide)
            have e138 : a'.eval (.tmp 138) = I64 0 := hd 3 (by decide)
            have e139 : a'.eval (.tmp 139) = (.bool false) := hd 4 (by decide)
            have e140 : a'.eval (.tmp 140) = (.bool false) := hd 5 (by decide)
            have e141 : a'.eval (.tmp 141) = (.bool false) := hd 6 (by decide)
            have e142 : a'.eval (.tmp 142) = (.int .i64 0) := hd 7 (by decide)
            have e143 : a'.eval (.tmp 143) = (.bool false) := hd 8 (by decide)
            have e144 : a'.eval (.tmp 144) = (.bool false) := hd 9 (by decide)
            have e145 : a'.eval (.tmp 145) = (.bool false) := hd 10 (by decide)
            have e146 : a'.eval (.tmp 146) = (.pointer (some ⟨gs, 0, none⟩)) := hd 11 (by decide)
            have e147 : a'.eval (.tmp 147) = (.int .i64 (E2.length : Int)) := hd 12 (by decide)
            have e148 : a'.eval (.tmp 148) = (.agg #[.int .i64 (k : Int), .slice a10 (Y.length + 1) c10]) := hd 13 (by decide)
            have e149 : a'.eval (.tmp 149) = (.int .i64 (rankL k (Y ++ [q]) : Int)) := hd 14 (by decide)
            have e150 : a'.eval (.tmp 150) = (.bool false) := hd 15 (by decide)
            have e151 : a'.eval (.tmp 151) = (.bool false) := hd 16 (by decide)
            have e152 : a'.eval (.tmp 152) = (.bool false) := hd 17 (by decide)
            have e153 : a'.eval (.tmp 153) = (.int .i64 0) := hd 18 (by decide)
            have e154 : a'.eval (.tmp 154) = (.bool true) := hd 19 (by decide)
            have e155 : a'.eval (.tmp 155) = (.pointer (some ⟨gs, 0, none⟩)) := hd 20 (by decide)
            have e156 : a'.eval (.tmp 156) = (.int .i64 (E2.length : Int)) := hd 21 (by decide)
            have e157 : a'.eval (.tmp 157) = (.int .i64 (E.length : Int)) := hd 22 (by decide)
            have e158 : a'.eval (.tmp 158) = (.int .i64 ((E.length : Int) + 1)) := hd 23 (by decide)
            have e159 : a'.eval (.tmp 159) = (.bool true) := hd 24 (by decide)
            have e160 : a'.eval (.tmp 160) = (.bool false) := hd 25 (by decide)
            have e161 : a'.eval (.tmp 161) = (.bool false) := hd 26 (by decide)
            have hact := act_puts hdef hsz hfr
            simp only [dstsOf, List.filterMap, putAll, Act.put, List.setIfInBounds_toArray, List.set_cons_succ, List.set_cons_zero, e135, e136, e137, e138, e139, e140, e141, e142, e143, e144, e145, e146, e147, e148, e149, e150, e151, e152, e153, e154, e155, e156, e157, e158, e159, e160, e161] at hact
            clear hd hfr hsz hdef e135 e136 e137 e138 e139 e140 e141 e142 e143 e144 e145 e146 e147 e148 e149 e150 e151 e152 e153 e154 e155 e156 e157 e158 e159 e160 e161
            subst hact
            replace HM := Lib.hid (HM.out.go hC)
            replace HLV := Lib.hid (HLV.out.go hC)
            replace HVV := Lib.hid (HVV.out.go hC)
            replace HE := Lib.hid (HE.out.go hC)
            replace HU := Lib.hid (HU.out.go hC)
            replace HT := Lib.hid (HT.out.go hC)
            replace B := B.trans (hC.mono B.size)
            go_wp2_with fail
            go_roundw
            case rel => exact ⟨j + 1, E2, ve9, by omega, by go_num, B, HT.out, HM.out, by rw [HX1.out]; exact HLV.out, by rw [HY1.out]; exact HVV.out, HE.out, by rw [HX1.out]; exact HS2.out, HU.out⟩
            case measure => simp [intOf]; omega
          · rw [e1]
            clear e1
            refine wp_region_mono (C := Cb W11) (R := Rb) (H := Hz) [TyZ.val 135 (I64 0), TyZ.val 136 (.bool false), TyZ.val 137 (.bool false), TyZ.val 138 (I64 0), TyZ.val 139 (.bool false), TyZ.val 140 (.bool false), TyZ.val 141 (.bool false), TyZ.val 142 (.int .i64 1), TyZ.val 143 (.bool false), TyZ.val 144 (.bool false), TyZ.val 145 (.bool false), TyZ.val 146 (.pointer (some ⟨gs, 0, none⟩)), TyZ.val 147 (.int .i64 (E2.length : Int)), TyZ.val 148 (.agg #[.int .i64 (k : Int), .slice a10 (Y.length + 1) c10]), TyZ.val 149 (.int .i64 (rankL k (Y ++ [q]) : Int)), TyZ.val 150 (.bool false), TyZ.val 151 (.bool false), TyZ.val 152 (.bool false), TyZ.val 153 (.int .i64 1), TyZ.val 154 (.bool false), TyZ.val 155 (.pointer (some ⟨gs, 0, none⟩)), TyZ.val 156 (.int .i64 (E2.length : Int)), TyZ.val 157 (.int .i64 (E.length : Int)), TyZ.val 158 (.int .i64 ((E.length : Int) + 1)), TyZ.val 159 (.bool false), TyZ.val 160 (.bool false), TyZ.val 161 (.bool false)] (by kernel_rfl) (hC_b W11) (hCH_z W11) (drew_b W11) ⟨trivial, trivial, trivial, trivial, trivial, trivial, trivial, trivial, trivial, trivial, trivial, trivial, trivial, trivial, trivial, trivial, trivial, trivial, trivial, trivial, trivial, trivial, trivial, trivial, trivial, trivial, trivial, trivial⟩ (by kernel_rfl) ?_ ?_
            · refine ⟨?_, ?_, ?_, ?_, ?_, ?_, ?_, ?_, ?_, ?_, ?_, ?_, ?_, ?_, ?_, ?_, ?_, ?_, ?_, ?_, ?_, ?_, ?_, ?_, ?_, ?_, ?_, trivial⟩
              · intro ac wc hC hsz hfr hd hpr
                have d26 : ac.eval (.tmp 26) = I64 0 := hfr 26 rfl
                rw [if_pos (wanted_none rfl)]
                exact ob_copy rfl rfl rfl (Nat.lt_of_lt_of_eq (by decide : 135 < 238) hsz.symm) (Or.inl rfl) (Below.refl _ _) d26
              · intro ac wc hC hsz hfr hd hpr
                have d135 : ac.eval (.tmp 135) = I64 0 := hd 0 rfl
                rw [if_pos (wanted_none rfl)]
                exact ob_bin _ rfl rfl rfl (Nat.lt_of_lt_of_eq (by decide : 136 < 238) hsz.symm) rfl d135 rfl (neq_err rfl) (Below.refl _ _) rfl
              · intro ac wc hC hsz hfr hd hpr
                have d136 : ac.eval (.tmp 136) = (.bool false) := hd 1 rfl
                rw [if_pos (wanted_none rfl)]
                exact ob_copy rfl rfl rfl (Nat.lt_of_lt_of_eq (by decide : 137 < 238) hsz.symm) (Or.inl rfl) (Below.refl _ _) d136
              · intro ac wc hC hsz hfr hd hpr
                have d137 : ac.eval (.tmp 137) = (.bool false) := hd 2 rfl
                have d28 : ac.eval (.tmp 28) = I64 0 := hfr 28 rfl
                rw [if_pos (wanted_some rfl (yielded_of rfl d137))]
                exact ob_copy rfl rfl rfl (Nat.lt_of_lt_of_eq (by decide : 138 < 238) hsz.symm) (Or.inl rfl) (Below.refl _ _) d28
              · intro ac wc hC hsz hfr hd hpr
                have d137 : ac.eval (.tmp 137) = (.bool false) := hd 2 rfl
                have d138 : ac.eval (.tmp 138) = I64 0 := hd 3 rfl
                rw [if_pos (wanted_some rfl (yielded_of rfl d137))]
                exact ob_bin _ rfl rfl rfl (Nat.lt_of_lt_of_eq (by decide : 139 < 238) hsz.symm) rfl d138 rfl (neq_err rfl) (Below.refl _ _) rfl
              · intro ac wc hC hsz hfr hd hpr
                have d137 : ac.eval (.tmp 137) = (.bool false) := hd 2 rfl
                have d139 : ac.eval (.tmp 139) = (.bool false) := hd 4 rfl
                rw [if_pos (wanted_none rfl)]
                exact ob_pick rfl rfl rfl (Nat.lt_of_lt_of_eq (by decide : 140 < 238) hsz.symm) rfl d137 (Below.refl _ _) d139
              · intro ac wc hC hsz hfr hd hpr
                have d140 : ac.eval (.tmp 140) = (.bool false) := hd 5 rfl
                rw [if_pos (wanted_none rfl)]
                exact ob_copy rfl rfl rfl (Nat.lt_of_lt_of_eq (by decide : 141 < 238) hsz.symm) (Or.inl rfl) (Below.refl _ _) d140
              · intro ac wc hC hsz hfr hd hpr
                have d141 : ac.eval (.tmp 141) = (.bool false) := hd 6 rfl
                have d25 : ac.eval (.tmp 25) = (.int .i64 1) := hfr 25 rfl
                rw [if_pos (wanted_some rfl (yielded_of rfl d141))]
                exact ob_copy rfl rfl rfl (Nat.lt_of_lt_of_eq (by decide : 142 < 238) hsz.symm) (Or.inl rfl) (Below.refl _ _) d25
              · intro ac wc hC hsz hfr hd hpr
                have d141 : ac.eval (.tmp 141) = (.bool false) := hd 6 rfl
                have d142 : ac.eval (.tmp 142) = (.int .i64 1) := hd 7 rfl
                rw [if_pos (wanted_some rfl (yielded_of rfl d141))]
                exact ob_bin _ rfl rfl rfl (Nat.lt_of_lt_of_eq (by decide : 143 < 238) hsz.symm) rfl d142 rfl (eql_int rfl) (Below.refl _ _) rfl
              · intro ac wc hC hsz hfr hd hpr
                have d141 : ac.eval (.tmp 141) = (.bool false) := hd 6 rfl
                have d143 : ac.eval (.tmp 143) = (.bool false) := hd 8 rfl
                rw [if_pos (wanted_none rfl)]
                exact ob_pick rfl rfl rfl (Nat.lt_of_lt_of_eq (by decide : 144 < 238) hsz.symm) rfl d141 (Below.refl _ _) d143
              · intro ac wc hC hsz hfr hd hpr
                have d144 : ac.eval (.tmp 144) = (.bool false) := hd 9 rfl
                rw [if_pos (wanted_none rfl)]
                exact ob_copy rfl rfl rfl (Nat.lt_of_lt_of_eq (by decide : 145 < 238) hsz.symm) (Or.inl rfl) (Below.refl _ _) d144
              · intro ac wc hC hsz hfr hd hpr
                have d145 : ac.eval (.tmp 145) = (.bool false) := hd 10 rfl
                have d13 : ac.eval (.tmp 13) = (.pointer (some ⟨gs, 0, none⟩)) := hfr 13 rfl
                rw [if_pos (wanted_some rfl (yielded_of rfl d145))]
                exact ob_copy rfl rfl rfl (Nat.lt_of_lt_of_eq (by decide : 146 < 238) hsz.symm) (Or.inl rfl) (Below.refl _ _) d13
              · intro ac wc hC hsz hfr hd hpr
                have d145 : ac.eval (.tmp 145) = (.bool false) := hd 10 rfl
                have d146 : ac.eval (.tmp 146) = (.pointer (some ⟨gs, 0, none⟩)) := hd 11 rfl
                rw [if_pos (wanted_some rfl (yielded_of rfl d145))]
                refine ob_call rfl rfl rfl (Nat.lt_of_lt_of_eq (by decide : 147 < 238) hsz.symm) rfl (enter_of Try.func44 (by kernel_rfl) rfl) ?_
                show Calls Try.prog 44 #[ac.eval (.tmp 146)] wc _
                rw [d146]
                exact (erank_any gs w.heap.size k n ve9 E2 wc (HE.out.go hC)).mono fun _ _ ⟨he, hw⟩ => ⟨_, he, rfl, hw ▸ Below.refl _ _⟩
              · intro ac wc hC hsz hfr hd hpr
                have d145 : ac.eval (.tmp 145) = (.bool false) := hd 10 rfl
                have d27 : ac.eval (.tmp 27) = (.pointer (some ⟨gm, 0, none⟩)) := hfr 27 rfl
                rw [if_pos (wanted_some rfl (yielded_of rfl d145))]
                exact ob_load _ rfl rfl rfl (Nat.lt_of_lt_of_eq (by decide : 148 < 238) hsz.symm) rfl d27 (load_grid8 (KG.out.go hC)) (Below.refl _ _) rfl
              · intro ac wc hC hsz hfr hd hpr
                have d145 : ac.eval (.tmp 145) = (.bool false) := hd 10 rfl
                have d148 : ac.eval (.tmp 148) = (.agg #[.int .i64 (k : Int), .slice a10 (Y.length + 1) c10]) := hd 13 rfl
                rw [if_pos (wanted_some rfl (yielded_of rfl d145))]
                refine ob_call rfl rfl rfl (Nat.lt_of_lt_of_eq (by decide : 149 < 238) hsz.symm) rfl (enter_of Try.func21 (by kernel_rfl) rfl) ?_
                show Calls Try.prog 21 #[ac.eval (.tmp 148)] wc _
                rw [d148]
                exact (rank_any _ k k (Y ++ [q]) wc (HIG.out.go hC) HYO.out HYW.out (by omega) (by have := HL2.out; simp; omega)).mono fun _ _ ⟨he, hb⟩ => ⟨_, he, rfl, hb⟩
              · intro ac wc hC hsz hfr hd hpr
                have d145 : ac.eval (.tmp 145) = (.bool false) := hd 10 rfl
                have d147 : ac.eval (.tmp 147) = (.int .i64 (E2.length : Int)) := hd 12 rfl
                have d149 : ac.eval (.tmp 149) = (.int .i64 (rankL k (Y ++ [q]) : Int)) := hd 14 rfl
                rw [if_pos (wanted_some rfl (yielded_of rfl d145))]
                exact ob_bin _ rfl rfl rfl (Nat.lt_of_lt_of_eq (by decide : 150 < 238) hsz.symm) rfl d147 d149 (neq_int HRN.out) (Below.refl _ _) rfl
              · intro ac wc hC hsz hfr hd hpr
                have d145 : ac.eval (.tmp 145) = (.bool false) := hd 10 rfl
                have d150 : ac.eval (.tmp 150) = (.bool false) := hd 15 rfl
                rw [if_pos (wanted_none rfl)]
                exact ob_pick rfl rfl rfl (Nat.lt_of_lt_of_eq (by decide : 151 < 238) hsz.symm) rfl d145 (Below.refl _ _) d150
              · intro ac wc hC hsz hfr hd hpr
                have d151 : ac.eval (.tmp 151) = (.bool false) := hd 16 rfl
                rw [if_pos (wanted_none rfl)]
                exact ob_copy rfl rfl rfl (Nat.lt_of_lt_of_eq (by decide : 152 < 238) hsz.symm) (Or.inl rfl) (Below.refl _ _) d151
              · intro ac wc hC hsz hfr hd hpr
                have d152 : ac.eval (.tmp 152) = (.bool false) := hd 17 rfl
                have d25 : ac.eval (.tmp 25) = (.int .i64 1) := hfr 25 rfl
                rw [if_pos (wanted_some rfl (yielded_of rfl d152))]
                exact ob_copy rfl rfl rfl (Nat.lt_of_lt_of_eq (by decide : 153 < 238) hsz.symm) (Or.inl rfl) (Below.refl _ _) d25
              · intro ac wc hC hsz hfr hd hpr
                have d152 : ac.eval (.tmp 152) = (.bool false) := hd 17 rfl
                have d153 : ac.eval (.tmp 153) = (.int .i64 1) := hd 18 rfl
                rw [if_pos (wanted_some rfl (yielded_of rfl d152))]
                exact ob_bin _ rfl rfl rfl (Nat.lt_of_lt_of_eq (by decide : 154 < 238) hsz.symm) rfl d153 rfl (eql_int rfl) (Below.refl _ _) rfl
              · intro ac wc hC hsz hfr hd hpr
                have d152 : ac.eval (.tmp 152) = (.bool false) := hd 17 rfl
                have d13 : ac.eval (.tmp 13) = (.pointer (some ⟨gs, 0, none⟩)) := hfr 13 rfl
                rw [if_pos (wanted_some rfl (yielded_of rfl d152))]
                exact ob_copy rfl rfl rfl (Nat.lt_of_lt_of_eq (by decide : 155 < 238) hsz.symm) (Or.inl rfl) (Below.refl _ _) d13
              · intro ac wc hC hsz hfr hd hpr
                have d152 : ac.eval (.tmp 152) = (.bool false) := hd 17 rfl
                have d155 : ac.eval (.tmp 155) = (.pointer (some ⟨gs, 0, none⟩)) := hd 20 rfl
                rw [if_pos (wanted_some rfl (yielded_of rfl d152))]
                refine ob_call rfl rfl rfl (Nat.lt_of_lt_of_eq (by decide : 156 < 238) hsz.symm) rfl (enter_of Try.func44 (by kernel_rfl) rfl) ?_
                show Calls Try.prog 44 #[ac.eval (.tmp 155)] wc _
                rw [d155]
                exact (erank_any gs w.heap.size k n ve9 E2 wc (HE.out.go hC)).mono fun _ _ ⟨he, hw⟩ => ⟨_, he, rfl, hw ▸ Below.refl _ _⟩
              · intro ac wc hC hsz hfr hd hpr
                have d152 : ac.eval (.tmp 152) = (.bool false) := hd 17 rfl
                have d24 : ac.eval (.tmp 24) = (.int .i64 (E.length : Int)) := hfr 24 rfl
                rw [if_pos (wanted_some rfl (yielded_of rfl d152))]
                exact ob_copy rfl rfl rfl (Nat.lt_of_lt_of_eq (by decide : 157 < 238) hsz.symm) (Or.inl rfl) (Below.refl _ _) d24
              · intro ac wc hC hsz hfr hd hpr
                have d152 : ac.eval (.tmp 152) = (.bool false) := hd 17 rfl
                have d157 : ac.eval (.tmp 157) = (.int .i64 (E.length : Int)) := hd 22 rfl
                rw [if_pos (wanted_some rfl (yielded_of rfl d152))]
                exact ob_bin _ rfl rfl rfl (Nat.lt_of_lt_of_eq (by decide : 158 < 238) hsz.symm) rfl d157 rfl (add_one HAD.out) (Below.refl _ _) rfl
              · intro ac wc hC hsz hfr hd hpr
                have d152 : ac.eval (.tmp 152) = (.bool false) := hd 17 rfl
                have d156 : ac.eval (.tmp 156) = (.int .i64 (E2.length : Int)) := hd 21 rfl
                have d158 : ac.eval (.tmp 158) = (.int .i64 ((E.length : Int) + 1)) := hd 23 rfl
                rw [if_pos (wanted_some rfl (yielded_of rfl d152))]
                exact ob_bin _ rfl rfl rfl (Nat.lt_of_lt_of_eq (by decide : 159 < 238) hsz.symm) rfl d156 d158 (eql_int (by rw [e2]; exact beq_eq_false_iff_ne.2 (by omega))) (Below.refl _ _) rfl
              · intro ac wc hC hsz hfr hd hpr
                have d152 : ac.eval (.tmp 152) = (.bool false) := hd 17 rfl
                have d154 : ac.eval (.tmp 154) = (.bool false) := hd 19 rfl
                have d159 : ac.eval (.tmp 159) = (.bool false) := hd 24 rfl
                rw [if_pos (wanted_some rfl (yielded_of rfl d152))]
                exact ob_bin _ rfl rfl rfl (Nat.lt_of_lt_of_eq (by decide : 160 < 238) hsz.symm) rfl d154 d159 (neq_bool rfl) (Below.refl _ _) rfl
              · intro ac wc hC hsz hfr hd hpr
                have d152 : ac.eval (.tmp 152) = (.bool false) := hd 17 rfl
                have d160 : ac.eval (.tmp 160) = (.bool false) := hd 25 rfl
                rw [if_pos (wanted_none rfl)]
                exact ob_pick rfl rfl rfl (Nat.lt_of_lt_of_eq (by decide : 161 < 238) hsz.symm) rfl d152 (Below.refl _ _) d160
            intro a' W12 hC hdef hsz hfr hd
            have e135 : a'.eval (.tmp 135) = I64 0 := hd 0 (by decide)
            have e136 : a'.eval (.tmp 136) = (.bool false) := hd 1 (by decide)
            have e137 : a'.eval (.tmp 137) = (.bool false) := hd 2 (by decide)
            have e138 : a'.eval (.tmp 138) = I64 0 := hd 3 (by decide)
            have e139 : a'.eval (.tmp 139) = (.bool false) := hd 4 (by decide)
            have e140 : a'.eval (.tmp 140) = (.bool false) := hd 5 (by decide)
            have e141 : a'.eval (.tmp 141) = (.bool false) := hd 6 (by decide)
            have e142 : a'.eval (.tmp 142) = (.int .i64 1) := hd 7 (by decide)
            have e143 : a'.eval (.tmp 143) = (.bool false) := hd 8 (by decide)
            have e144 : a'.eval (.tmp 144) = (.bool false) := hd 9 (by decide)
            have e145 : a'.eval (.tmp 145) = (.bool false) := hd 10 (by decide)
            have e146 : a'.eval (.tmp 146) = (.pointer (some ⟨gs, 0, none⟩)) := hd 11 (by decide)
            have e147 : a'.eval (.tmp 147) = (.int .i64 (E2.length : Int)) := hd 12 (by decide)
            have e148 : a'.eval (.tmp 148) = (.agg #[.int .i64 (k : Int), .slice a10 (Y.length + 1) c10]) := hd 13 (by decide)
            have e149 : a'.eval (.tmp 149) = (.int .i64 (rankL k (Y ++ [q]) : Int)) := hd 14 (by decide)
            have e150 : a'.eval (.tmp 150) = (.bool false) := hd 15 (by decide)
            have e151 : a'.eval (.tmp 151) = (.bool false) := hd 16 (by decide)
            have e152 : a'.eval (.tmp 152) = (.bool false) := hd 17 (by decide)
            have e153 : a'.eval (.tmp 153) = (.int .i64 1) := hd 18 (by decide)
            have e154 : a'.eval (.tmp 154) = (.bool false) := hd 19 (by decide)
            have e155 : a'.eval (.tmp 155) = (.pointer (some ⟨gs, 0, none⟩)) := hd 20 (by decide)
            have e156 : a'.eval (.tmp 156) = (.int .i64 (E2.length : Int)) := hd 21 (by decide)
            have e157 : a'.eval (.tmp 157) = (.int .i64 (E.length : Int)) := hd 22 (by decide)
            have e158 : a'.eval (.tmp 158) = (.int .i64 ((E.length : Int) + 1)) := hd 23 (by decide)
            have e159 : a'.eval (.tmp 159) = (.bool false) := hd 24 (by decide)
            have e160 : a'.eval (.tmp 160) = (.bool false) := hd 25 (by decide)
            have e161 : a'.eval (.tmp 161) = (.bool false) := hd 26 (by decide)
            have hact := act_puts hdef hsz hfr
            simp only [dstsOf, List.filterMap, putAll, Act.put, List.setIfInBounds_toArray, List.set_cons_succ, List.set_cons_zero, e135, e136, e137, e138, e139, e140, e141, e142, e143, e144, e145, e146, e147, e148, e149, e150, e151, e152, e153, e154, e155, e156, e157, e158, e159, e160, e161] at hact
            clear hd hfr hsz hdef e135 e136 e137 e138 e139 e140 e141 e142 e143 e144 e145 e146 e147 e148 e149 e150 e151 e152 e153 e154 e155 e156 e157 e158 e159 e160 e161
            subst hact
            replace HM := Lib.hid (HM.out.go hC)
            replace HLV := Lib.hid (HLV.out.go hC)
            replace HVV := Lib.hid (HVV.out.go hC)
            replace HE := Lib.hid (HE.out.go hC)
            replace HU := Lib.hid (HU.out.go hC)
            replace HT := Lib.hid (HT.out.go hC)
            replace B := B.trans (hC.mono B.size)
            go_wp2_with fail
            go_roundw
            case rel => exact ⟨j + 1, E2, ve9, by omega, by go_num, B, HT.out, HM.out, by rw [HX1.out]; exact HLV.out, by rw [HY1.out]; exact HVV.out, HE.out, by rw [HX1.out]; exact HS2.out, HU.out⟩
            case measure => simp [intOf]; omega
        · obtain rfl : j = V.length := by omega
          rw [List.take_length] at HLV HVV HS HL1 HL2
          rw [List.take_length]
          obtain ⟨X, hX⟩ : ∃ X, X = eqs L n k V := ⟨_, rfl⟩
          have HXK := Lib.hid (show ∀ x, x ∈ X → Ro.Dim k n x ∧ Holds k n (mat L) (fj x) by rw [hX]; exact eqs_ok HLK.out HLO.out HWT.out HO1.out)
          rw [← hX] at HLV HS HL1
          simp only [← hX]
          have hxl := HL1.out
          have hzz := B.size
          have w1 : IntKind.i64.wrap ((V.length : Int) - 1) = (V.length : Int) - 1 := by rw [IntKind.wrap_i64]; omega
          rw [hxl] at HLV ⊢
          clear hX HVV HL2 HSZ HMB HMK HO1 H1 hxl
          go_wp2_with fail
          clear w1
          go_loopw [29] (fun i wr => ∃ (q : Nat) (F : List Rw) (vu : Value), q ≤ V.length ∧ i = .int .i64 ((q : Int) - 1) ∧ Below w.heap.size w wr ∧ OwnM wr w.heap.size 35 (.slice oa L.length oc) L ∧ OwnL wr w.heap.size 61 (.slice la V.length lc) X ∧ IsE wr w.heap.size gs ve k n E ∧ IsE wr w.heap.size gu vu k n F ∧ Sol k n (mat L) F (X.drop q).reverse ∧ (∀ b, vu.ownBlock = some b → ve.ownBlock ≠ some b)) (fun i _ => (intOf i + 1).toNat)
          case atStart => exact ⟨V.length, [], _, by omega, rfl, B, HM.out, HLV.out, HE.out, HU.out, by rw [← HL1.out, List.drop_length]; exact Sol.nil k n (mat L), fun b e => by cases e⟩
          case round =>
            clear B HM HLV HE HU hzz
            obtain ⟨q, F, vu, hq, rfl, B, hM, hLV, hE, hU, hF, hap⟩ := hrel
            have HM := Lib.hid hM
            have HLV := Lib.hid hLV
            have HE := Lib.hid hE
            have HU := Lib.hid hU
            have HF := Lib.hid hF
            have HAP := Lib.hid hap
            have hfk := hF.le
            clear hM hLV hE hU hF hap
            have hzz := B.size
            cases q with
            | succ q =>
              have e1 : ((q + 1 : Nat) : Int) - 1 = (q : Int) := by omega
              rw [e1]
              obtain ⟨bl, cl, er, hBl, hbl⟩ := HLV.out.addr (by have := HL1.out; omega)
              simp only [Value.slice.injEq] at er
              obtain ⟨rfl, -, rfl⟩ := er
              obtain ⟨xa, xc, ya, yc, hc0, hc1, hp, hq2⟩ := HLV.out.cells q (by have := HL1.out; omega)
              have HP := Lib.hid hp
              have HQ := Lib.hid hq2
              have j1 : (q : Int) < (V.length : Int) := by omega
              have j0 : (0 : Int) ≤ (q : Int) := Int.natCast_nonneg _
              have HXQ := Lib.hid (HXK.out _ (rwAt_mem (show q < X.length by have := HL1.out; omega)))
              have w2 : IntKind.i64.wrap ((q : Int) - 1) = (q : Int) - 1 := by rw [IntKind.wrap_i64]; omega
              clear hp hq2 e1
              go_wp2_with fail
              refine (eput_any gu w.heap.size k n vu _ F (rwAt X q) wr HU.out ⟨_, _, rfl, HP.out, HQ.out⟩ HF.out.red HXQ.out.1 (by omega) (by omega) (by omega)).mono ?_
              rintro e w9 ⟨vu9, rfl, q1, q2, q3⟩
              have B9 := q2.under B B.size HGUW.out HU.out.2.1.from
              have HM9 := Lib.hid (HU.out.keepsM q2 HM.out (by decide) (by decide))
              have HLV9 := Lib.hid (HU.out.keepsL q2 HLV.out (by decide) (by decide))
              have HE9 := Lib.hid (HE.out.beside HU.out q2 HGG.out (fun b e e' => HAP.out b e' e))
              have HU9 := Lib.hid q1
              have HF9 := Lib.hid (show Sol k n (mat L) (Ro.take1 F (rwAt X q)) (X.drop q).reverse by rw [drop_rev X (by have := HL1.out; omega)]; exact HF.out.put HXQ.out.1 HXQ.out.2)
              have HAP9 := Lib.hid (show ∀ b, vu9.ownBlock = some b → ve.ownBlock ≠ some b from fun b e e' => by
                rcases q3 with h | h
                · rw [h] at e; exact HAP.out b e e'
                · have h1 := h b e
                  have h2 := HE.out.2.1.lt b e'
                  omega)
              clear q1 q2 q3 hc0 hc1
              go_wp2_with fail
              go_roundw
              case rel => exact ⟨q, Ro.take1 F (rwAt X q), vu9, by omega, by go_num, B9, HM9.out, HLV9.out, HE9.out, HU9.out, HF9.out, HAP9.out⟩
              case measure => simp [intOf]
            | zero =>
              have e1 : ((0 : Nat) : Int) - 1 = -1 := by omega
              rw [e1]
              have hEF : E = F := HS.out.same HF.out fun x => by rw [List.drop_zero, List.mem_reverse]
              subst hEF
              clear e1 HF hfk HAP
              go_wp2_with fail
              refine (erows_any gs w.heap.size k n ve E _ HE.out HS.out.red.up.dims (by omega) (by omega) (by omega)).mono ?_
              rintro e w20 ⟨u20, rfl, hu20, hb⟩
              replace HM := Lib.hid (HM.out.go hb)
              replace HE := Lib.hid (HE.out.go hb)
              replace HU := Lib.hid (HU.out.go hb)
              replace B := B.trans (hb.mono B.size)
              have hzw20 := B.size
              clear hb
              have HA := Lib.hid hu20.list
              obtain ⟨aa, ac9, rfl⟩ := hu20.shape
              clear hu20
              go_wp2_with fail
              refine (erows_any gu w.heap.size k n vu E _ HU.out HS.out.red.up.dims (by omega) (by omega) (by omega)).mono ?_
              rintro e w21 ⟨u21, rfl, hu21, hb⟩
              replace HM := Lib.hid (HM.out.go hb)
              replace HE := Lib.hid (HE.out.go hb)
              replace HA := Lib.hid (HA.out.go hb)
              replace B := B.trans (hb.mono B.size)
              have hzw21 := B.size
              clear hb
              have HB := Lib.hid hu21.list
              obtain ⟨ba, bc, rfl⟩ := hu21.shape
              clear hu21 HU
              go_wp2_with fail
              obtain ⟨wa, hwa⟩ : ∃ wa : World, wa = w21 := ⟨_, rfl⟩
              go_loopw [32, 187] (fun _ x wr => ∃ m : Nat, m ≤ E.length ∧ x = .int .i64 m ∧ Below w.heap.size w wr ∧ OwnM wr w.heap.size 35 (.slice oa L.length oc) L ∧ IsE wr w.heap.size gs ve k n E ∧ IsRL wr (.slice aa E.length ac9) E ∧ IsRL wr (.slice ba E.length bc) E) (fun _ x _ => E.length - (intOf x).toNat)
              case atStart => exact ⟨0, by omega, rfl, B, HM.out, HE.out, HA.out, HB.out⟩
              case round =>
                clear B HM HE HA HB hzz
                obtain ⟨m, hm, rfl, B, hM, hE, hA, hB⟩ := hrel
                have HM := Lib.hid hM
                have HE := Lib.hid hE
                have HA := Lib.hid hA
                have HB := Lib.hid hB
                clear hM hE hA hB hwa
                have hzz := B.size
                by_cases hml : m < E.length
                · obtain ⟨ab, ao, c', er, _⟩ := HA.out.addr (by omega)
                  simp only [Value.slice.injEq] at er
                  obtain ⟨rfl, -, rfl⟩ := er
                  obtain ⟨bb, bo, c', er, _⟩ := HB.out.addr (by omega)
                  simp only [Value.slice.injEq] at er
                  obtain ⟨rfl, -, rfl⟩ := er
                  obtain ⟨x0, x1, hx0, hx1, hp0, hp1⟩ := HA.out.cells m hml
                  obtain ⟨y0, y1, hy0, hy1, hq0, hq1⟩ := HB.out.cells m hml
                  have HX0 := Lib.hid hx0
                  have HX1 := Lib.hid hx1
                  have HY0 := Lib.hid hy0
                  have HY1 := Lib.hid hy1
                  have HP0 := Lib.hid hp0
                  have HP1 := Lib.hid hp1
                  have HQ0 := Lib.hid hq0
                  have HQ1 := Lib.hid hq1
                  have j1 : (m : Int) < (E.length : Int) := by omega
                  have j0 : (0 : Int) ≤ (m : Int) := Int.natCast_nonneg _
                  clear hx0 hx1 hy0 hy1 hp0 hp1 hq0 hq1
                  go_wp2_with fail
                  refine wp_region_mono (C := Cb wr) (R := Rb) (H := Hz) [TyZ.val 190 (.slice (some ⟨ab, ao, none⟩) E.length ac9), TyZ.val 191 (.int .i64 (m : Int)), TyZ.val 192 (.pointer (some ⟨ab, ao + m * 2, none⟩)), TyZ.row 193 (rwAt E m).1 (rwAt E m).2, TyZ.val 194 (.slice (some ⟨bb, bo, none⟩) E.length bc), TyZ.val 195 (.int .i64 (m : Int)), TyZ.val 196 (.pointer (some ⟨bb, bo + m * 2, none⟩)), TyZ.row 197 (rwAt E m).1 (rwAt E m).2, TyZ.val 198 (.bool true), TyZ.val 199 (.bool false)] (by kernel_rfl) (hC_b wr) (hCH_z wr) (drew_b wr) ⟨trivial, trivial, trivial, trivial, trivial, trivial, trivial, trivial, trivial, trivial, trivial⟩ (by kernel_rfl) ?_ ?_
                  · refine ⟨?_, ?_, ?_, ?_, ?_, ?_, ?_, ?_, ?_, ?_, trivial⟩
                    · intro ac wc hC hsz hfr hd hpr
                      have d30 : ac.eval (.tmp 30) = (.slice (some ⟨ab, ao, none⟩) E.length ac9) := hfr 30 rfl
                      rw [if_pos (wanted_none rfl)]
                      exact ob_copy rfl rfl rfl (Nat.lt_of_lt_of_eq (by decide : 190 < 238) hsz.symm) (Or.inl rfl) (Below.refl _ _) d30
                    · intro ac wc hC hsz hfr hd hpr
                      have d32 : ac.eval (.tmp 32) = (.int .i64 (m : Int)) := hfr 32 rfl
                      rw [if_pos (wanted_none rfl)]
                      exact ob_copy rfl rfl rfl (Nat.lt_of_lt_of_eq (by decide : 191 < 238) hsz.symm) (Or.inl rfl) (Below.refl _ _) d32
                    · intro ac wc hC hsz hfr hd hpr
                      have d190 : ac.eval (.tmp 190) = (.slice (some ⟨ab, ao, none⟩) E.length ac9) := hd 0 rfl
                      have d191 : ac.eval (.tmp 191) = (.int .i64 (m : Int)) := hd 1 rfl
                      rw [if_pos (wanted_none rfl)]
                      exact ob_index _ rfl rfl rfl (Nat.lt_of_lt_of_eq (by decide : 192 < 238) hsz.symm) rfl d190 d191 (by go_simp) (Below.refl _ _) rfl
                    · intro ac wc hC hsz hfr hd hpr
                      have d192 : ac.eval (.tmp 192) = (.pointer (some ⟨ab, ao + m * 2, none⟩)) := hd 2 rfl
                      rw [if_pos (wanted_none rfl)]
                      exact ob_load _ rfl rfl rfl (Nat.lt_of_lt_of_eq (by decide : 193 < 238) hsz.symm) rfl d192 (load_vecrow_at (cell_keep HX0.out hC) (cell_keep HX1.out hC)) (Below.refl _ _) (⟨_, _, rfl, HP0.out.go hC, HP1.out.go hC⟩)
                    · intro ac wc hC hsz hfr hd hpr
                      have d31 : ac.eval (.tmp 31) = (.slice (some ⟨bb, bo, none⟩) E.length bc) := hfr 31 rfl
                      rw [if_pos (wanted_none rfl)]
                      exact ob_copy rfl rfl rfl (Nat.lt_of_lt_of_eq (by decide : 194 < 238) hsz.symm) (Or.inl rfl) (Below.refl _ _) d31
                    · intro ac wc hC hsz hfr hd hpr
                      have d32 : ac.eval (.tmp 32) = (.int .i64 (m : Int)) := hfr 32 rfl
                      rw [if_pos (wanted_none rfl)]
                      exact ob_copy rfl rfl rfl (Nat.lt_of_lt_of_eq (by decide : 195 < 238) hsz.symm) (Or.inl rfl) (Below.refl _ _) d32
                    · intro ac wc hC hsz hfr hd hpr
                      have d194 : ac.eval (.tmp 194) = (.slice (some ⟨bb, bo, none⟩) E.length bc) := hd 4 rfl
                      have d195 : ac.eval (.tmp 195) = (.int .i64 (m : Int)) := hd 5 rfl
                      rw [if_pos (wanted_none rfl)]
                      exact ob_index _ rfl rfl rfl (Nat.lt_of_lt_of_eq (by decide : 196 < 238) hsz.symm) rfl d194 d195 (by go_simp) (Below.refl _ _) rfl
                    · intro ac wc hC hsz hfr hd hpr
                      have d196 : ac.eval (.tmp 196) = (.pointer (some ⟨bb, bo + m * 2, none⟩)) := hd 6 rfl
                      rw [if_pos (wanted_none rfl)]
                      exact ob_load _ rfl rfl rfl (Nat.lt_of_lt_of_eq (by decide : 197 < 238) hsz.symm) rfl d196 (load_vecrow_at (cell_keep HY0.out hC) (cell_keep HY1.out hC)) (Below.refl _ _) (⟨_, _, rfl, HQ0.out.go hC, HQ1.out.go hC⟩)
                    · intro ac wc hC hsz hfr hd hpr
                      have d193 : IsRow wc (ac.eval (.tmp 193)) (rwAt E m).1 (rwAt E m).2 := hd 3 rfl
                      have d197 : IsRow wc (ac.eval (.tmp 197)) (rwAt E m).1 (rwAt E m).2 := hd 7 rfl
                      rw [if_pos (wanted_none rfl)]
                      refine ob_call rfl rfl rfl (Nat.lt_of_lt_of_eq (by decide : 198 < 238) hsz.symm) rfl (enter_of Try.func52 (by kernel_rfl) rfl) ?_
                      show Calls Try.prog 52 #[ac.eval (.tmp 193), ac.eval (.tmp 197)] wc _
                      exact (vecsame_yes _ _ _ _ wc d193 d197).mono fun _ _ ⟨he, hb⟩ => ⟨_, he, rfl, hb⟩
                    · intro ac wc hC hsz hfr hd hpr
                      have d198 : ac.eval (.tmp 198) = (.bool true) := hd 8 rfl
                      rw [if_pos (wanted_none rfl)]
                      exact ob_not rfl rfl rfl (Nat.lt_of_lt_of_eq (by decide : 199 < 238) hsz.symm) rfl d198 (Below.refl _ _) rfl
                  intro a' W40 hC hdef hsz hfr hd
                  have e190 : a'.eval (.tmp 190) = (.slice (some ⟨ab, ao, none⟩) E.length ac9) := hd 0 (by decide)
                  have e191 : a'.eval (.tmp 191) = (.int .i64 (m : Int)) := hd 1 (by decide)
                  have e192 : a'.eval (.tmp 192) = (.pointer (some ⟨ab, ao + m * 2, none⟩)) := hd 2 (by decide)
                  obtain ⟨x193, e193, r193⟩ : ∃ xq_, a'.eval (.tmp 193) = xq_ ∧ IsRow W40 (xq_) (rwAt E m).1 (rwAt E m).2 := ⟨_, rfl, hd 3 (by decide)⟩
                  replace r193 := Lib.hid r193
                  have e194 : a'.eval (.tmp 194) = (.slice (some ⟨bb, bo, none⟩) E.length bc) := hd 4 (by decide)
                  have e195 : a'.eval (.tmp 195) = (.int .i64 (m : Int)) := hd 5 (by decide)
                  have e196 : a'.eval (.tmp 196) = (.pointer (some ⟨bb, bo + m * 2, none⟩)) := hd 6 (by decide)
                  obtain ⟨x197, e197, r197⟩ : ∃ xq_, a'.eval (.tmp 197) = xq_ ∧ IsRow W40 (xq_) (rwAt E m).1 (rwAt E m).2 := ⟨_, rfl, hd 7 (by decide)⟩
                  replace r197 := Lib.hid r197
                  have e198 : a'.eval (.tmp 198) = (.bool true) := hd 8 (by decide)
                  have e199 : a'.eval (.tmp 199) = (.bool false) := hd 9 (by decide)
                  have hact := act_puts hdef hsz hfr
                  simp only [dstsOf, List.filterMap, putAll, Act.put, List.setIfInBounds_toArray, List.set_cons_succ, List.set_cons_zero, e190, e191, e192, e193, e194, e195, e196, e197, e198, e199] at hact
                  clear hd hfr hsz hdef e190 e191 e192 e193 e194 e195 e196 e197 e198 e199
                  subst hact
                  replace HM := Lib.hid (HM.out.go hC)
                  replace HE := Lib.hid (HE.out.go hC)
                  replace HA := Lib.hid (HA.out.go hC)
                  replace HB := Lib.hid (HB.out.go hC)
                  replace B := B.trans (hC.mono B.size)
                  go_wp2_with fail
                  go_roundw
                  case rel => exact ⟨m + 1, by omega, by go_num, B, HM.out, HE.out, HA.out, HB.out⟩
                  case measure => simp [intOf]; omega
                · obtain rfl : m = E.length := by omega
                  clear HA HB
                  by_cases hek : E.length < k
                  · have hek2 : (E.length : Int) < (k : Int) := by omega
                    have HEK := Lib.hid hek
                    clear hek
                    go_wp2_with fail
                    refine (esolve_pending gs w.heap.size k n ve E _ HE.out HEK.out).mono ?_
                    rintro e w50 ⟨rfl, hb⟩
                    replace HE := Lib.hid (HE.out.go hb)
                    replace B := B.trans (hb.mono B.size)
                    have hzw50 := B.size
                    clear hb
                    go_wp2_with fail
                    refine (erank_any gs w.heap.size k n ve E _ HE.out).mono ?_
                    rintro e w' ⟨rfl, rfl⟩
                    go_wp2_with fail
                    go_ret
                    exact ⟨rfl, B⟩
                  · have hekk : E.length = k := by omega
                    have hek2 : ¬ (E.length : Int) < (k : Int) := by omega
                    have HD := Lib.hid (sol_full HLK.out HLO.out HWT.out HS.out hekk)
                    have HKK := Lib.hid hekk
                    clear hek hekk
                    go_wp2_with fail
                    refine (esolve_any gs w.heap.size k n ve E _ HE.out HS.out.red.up.dims (by have := HKK.out; omega) (by omega) (by omega)).mono ?_
                    rintro e w50 ⟨u50, rfl, hu50, hb⟩
                    replace HE := Lib.hid (HE.out.go hb)
                    replace HM := Lib.hid (HM.out.go hb)
                    replace B := B.trans (hb.mono B.size)
                    have hzw50 := B.size
                    clear hb
                    rw [HD.out] at hu50
                    obtain ⟨ga, gc, rfl⟩ := hu50.shape
                    have HR := Lib.hid hu50.rows
                    clear hu50
                    go_wp2_with fail
                    refine (erank_any gs w.heap.size k n ve E _ HE.out).mono ?_
                    rintro e w' ⟨rfl, rfl⟩
                    have HF := Lib.hid HM.out.rows
                    clear HE HM
                    go_wp2_with fail
                    obtain ⟨wb, hwb⟩ : ∃ wb : World, wb = w50 := ⟨_, rfl⟩
                    go_loopw [35, 214] (fun _ x wr => ∃ m : Nat, m ≤ L.length ∧ x = .int .i64 m ∧ Below w.heap.size w wr ∧ IsRows wr (.slice oa L.length oc) L ∧ IsRows wr (.slice ga L.length gc) L) (fun _ x _ => L.length - (intOf x).toNat)
                    case atStart => exact ⟨0, by omega, rfl, B, HF.out, HR.out⟩
                    case round =>
                      clear B HF HR hzz
                      obtain ⟨m, hm, rfl, B, hF, hR⟩ := hrel
                      have HF := Lib.hid hF
                      have HR := Lib.hid hR
                      clear hF hR hwb
                      have hzz := B.size
                      by_cases hml : m < L.length
                      · obtain ⟨fb, fo, fu, rfl, hfu, hfb⟩ := HF.out.row0 (Below.refl _ _) m hml
                        obtain ⟨rb, ro, ru, rfl, hru, hrb⟩ := HR.out.row0 (Below.refl _ _) m hml
                        have HFU := Lib.hid hfu
                        have HFB := Lib.hid hfb
                        have HRU := Lib.hid hru
                        have HRB := Lib.hid hrb
                        have j1 : (m : Int) < (L.length : Int) := by omega
                        have hlb : L.length ≤ 20 := by rw [HLK.out]; exact hk2
                        have j0 : (0 : Int) ≤ (m : Int) := Int.natCast_nonneg _
                        have HNK := Lib.hid (show ((L.length : Int) != (k : Int)) = false by rw [HLK.out]; simp)
                        clear hfu hfb hru hrb
                        go_wp2_with fail
                        refine wp_region_mono (C := Cb wr) (R := Rb) (H := Hz) [TyZ.val 217 (I64 0), TyZ.val 218 (.bool false), TyZ.val 219 (.bool false), TyZ.val 220 (.slice (some ⟨rb, ro, none⟩) L.length gc), TyZ.val 221 (.int .i64 (L.length : Int)), TyZ.val 222 (.int .i64 (k : Int)), TyZ.val 223 (.bool false), TyZ.val 224 (.bool false), TyZ.val 225 (.bool false), TyZ.val 226 (.slice (some ⟨rb, ro, none⟩) L.length gc), TyZ.val 227 (.int .i64 (m : Int)), TyZ.val 228 (.pointer (some ⟨rb, ro + m, none⟩)), TyZ.bytes 229 (rowAt L m), TyZ.val 230 (.slice (some ⟨fb, fo, none⟩) L.length oc), TyZ.val 231 (.int .i64 (m : Int)), TyZ.val 232 (.pointer (some ⟨fb, fo + m, none⟩)), TyZ.bytes 233 (rowAt L m), TyZ.val 234 (.bool true), TyZ.val 235 (.bool false), TyZ.val 236 (.bool false)] (by kernel_rfl) (hC_b wr) (hCH_z wr) (drew_b wr) ⟨trivial, trivial, trivial, trivial, trivial, trivial, trivial, trivial, trivial, trivial, trivial, trivial, trivial, trivial, trivial, trivial, trivial, trivial, trivial, trivial, trivial⟩ (by kernel_rfl) ?_ ?_
                        · refine ⟨?_, ?_, ?_, ?_, ?_, ?_, ?_, ?_, ?_, ?_, ?_, ?_, ?_, ?_, ?_, ?_, ?_, ?_, ?_, ?_, trivial⟩
                          · intro ac wc hC hsz hfr hd hpr
                            have d34 : ac.eval (.tmp 34) = I64 0 := hfr 34 rfl
                            rw [if_pos (wanted_none rfl)]
                            exact ob_copy rfl rfl rfl (Nat.lt_of_lt_of_eq (by decide : 217 < 238) hsz.symm) (Or.inl rfl) (Below.refl _ _) d34
                          · intro ac wc hC hsz hfr hd hpr
                            have d217 : ac.eval (.tmp 217) = I64 0 := hd 0 rfl
                            rw [if_pos (wanted_none rfl)]
                            exact ob_bin _ rfl rfl rfl (Nat.lt_of_lt_of_eq (by decide : 218 < 238) hsz.symm) rfl d217 rfl (neq_err rfl) (Below.refl _ _) rfl
                          · intro ac wc hC hsz hfr hd hpr
                            have d218 : ac.eval (.tmp 218) = (.bool false) := hd 1 rfl
                            rw [if_pos (wanted_none rfl)]
                            exact ob_copy rfl rfl rfl (Nat.lt_of_lt_of_eq (by decide : 219 < 238) hsz.symm) (Or.inl rfl) (Below.refl _ _) d218
                          · intro ac wc hC hsz hfr hd hpr
                            have d219 : ac.eval (.tmp 219) = (.bool false) := hd 2 rfl
                            have d33 : ac.eval (.tmp 33) = (.slice (some ⟨rb, ro, none⟩) L.length gc) := hfr 33 rfl
                            rw [if_pos (wanted_some rfl (yielded_of rfl d219))]
                            exact ob_copy rfl rfl rfl (Nat.lt_of_lt_of_eq (by decide : 220 < 238) hsz.symm) (Or.inl rfl) (Below.refl _ _) d33
                          · intro ac wc hC hsz hfr hd hpr
                            have d219 : ac.eval (.tmp 219) = (.bool false) := hd 2 rfl
                            have d220 : ac.eval (.tmp 220) = (.slice (some ⟨rb, ro, none⟩) L.length gc) := hd 3 rfl
                            rw [if_pos (wanted_some rfl (yielded_of rfl d219))]
                            exact ob_len rfl rfl rfl (Nat.lt_of_lt_of_eq (by decide : 221 < 238) hsz.symm) rfl d220 (len_rows8 _ _ _) (Below.refl _ _) rfl
                          · intro ac wc hC hsz hfr hd hpr
                            have d219 : ac.eval (.tmp 219) = (.bool false) := hd 2 rfl
                            have d7 : ac.eval (.tmp 7) = (.int .i64 (k : Int)) := hfr 7 rfl
                            rw [if_pos (wanted_some rfl (yielded_of rfl d219))]
                            exact ob_copy rfl rfl rfl (Nat.lt_of_lt_of_eq (by decide : 222 < 238) hsz.symm) (Or.inl rfl) (Below.refl _ _) d7
                          · intro ac wc hC hsz hfr hd hpr
                            have d219 : ac.eval (.tmp 219) = (.bool false) := hd 2 rfl
                            have d221 : ac.eval (.tmp 221) = (.int .i64 (L.length : Int)) := hd 4 rfl
                            have d222 : ac.eval (.tmp 222) = (.int .i64 (k : Int)) := hd 5 rfl
                            rw [if_pos (wanted_some rfl (yielded_of rfl d219))]
                            exact ob_bin _ rfl rfl rfl (Nat.lt_of_lt_of_eq (by decide : 223 < 238) hsz.symm) rfl d221 d222 (neq_int HNK.out) (Below.refl _ _) rfl
                          · intro ac wc hC hsz hfr hd hpr
                            have d219 : ac.eval (.tmp 219) = (.bool false) := hd 2 rfl
                            have d223 : ac.eval (.tmp 223) = (.bool false) := hd 6 rfl
                            rw [if_pos (wanted_none rfl)]
                            exact ob_pick rfl rfl rfl (Nat.lt_of_lt_of_eq (by decide : 224 < 238) hsz.symm) rfl d219 (Below.refl _ _) d223
                          · intro ac wc hC hsz hfr hd hpr
                            have d224 : ac.eval (.tmp 224) = (.bool false) := hd 7 rfl
                            rw [if_pos (wanted_none rfl)]
                            exact ob_copy rfl rfl rfl (Nat.lt_of_lt_of_eq (by decide : 225 < 238) hsz.symm) (Or.inl rfl) (Below.refl _ _) d224
                          · intro ac wc hC hsz hfr hd hpr
                            have d225 : ac.eval (.tmp 225) = (.bool false) := hd 8 rfl
                            have d33 : ac.eval (.tmp 33) = (.slice (some ⟨rb, ro, none⟩) L.length gc) := hfr 33 rfl
                            rw [if_pos (wanted_some rfl (yielded_of rfl d225))]
                            exact ob_copy rfl rfl rfl (Nat.lt_of_lt_of_eq (by decide : 226 < 238) hsz.symm) (Or.inl rfl) (Below.refl _ _) d33
                          · intro ac wc hC hsz hfr hd hpr
                            have d225 : ac.eval (.tmp 225) = (.bool false) := hd 8 rfl
                            have d35 : ac.eval (.tmp 35) = (.int .i64 (m : Int)) := hfr 35 rfl
                            rw [if_pos (wanted_some rfl (yielded_of rfl d225))]
                            exact ob_copy rfl rfl rfl (Nat.lt_of_lt_of_eq (by decide : 227 < 238) hsz.symm) (Or.inl rfl) (Below.refl _ _) d35
                          · intro ac wc hC hsz hfr hd hpr
                            have d225 : ac.eval (.tmp 225) = (.bool false) := hd 8 rfl
                            have d226 : ac.eval (.tmp 226) = (.slice (some ⟨rb, ro, none⟩) L.length gc) := hd 9 rfl
                            have d227 : ac.eval (.tmp 227) = (.int .i64 (m : Int)) := hd 10 rfl
                            rw [if_pos (wanted_some rfl (yielded_of rfl d225))]
                            exact ob_index _ rfl rfl rfl (Nat.lt_of_lt_of_eq (by decide : 228 < 238) hsz.symm) rfl d226 d227 (by go_simp) (Below.refl _ _) rfl
                          · intro ac wc hC hsz hfr hd hpr
                            have d225 : ac.eval (.tmp 225) = (.bool false) := hd 8 rfl
                            have d228 : ac.eval (.tmp 228) = (.pointer (some ⟨rb, ro + m, none⟩)) := hd 11 rfl
                            rw [if_pos (wanted_some rfl (yielded_of rfl d225))]
                            exact ob_load _ rfl rfl rfl (Nat.lt_of_lt_of_eq (by decide : 229 < 238) hsz.symm) rfl d228 (load_bytes (cell_keep HRU.out hC)) (Below.refl _ _) (HRB.out.go hC)
                          · intro ac wc hC hsz hfr hd hpr
                            have d225 : ac.eval (.tmp 225) = (.bool false) := hd 8 rfl
                            have d9 : ac.eval (.tmp 9) = (.slice (some ⟨fb, fo, none⟩) L.length oc) := hfr 9 rfl
                            rw [if_pos (wanted_some rfl (yielded_of rfl d225))]
                            exact ob_copy rfl rfl rfl (Nat.lt_of_lt_of_eq (by decide : 230 < 238) hsz.symm) (Or.inl rfl) (Below.refl _ _) d9
                          · intro ac wc hC hsz hfr hd hpr
                            have d225 : ac.eval (.tmp 225) = (.bool false) := hd 8 rfl
                            have d35 : ac.eval (.tmp 35) = (.int .i64 (m : Int)) := hfr 35 rfl
                            rw [if_pos (wanted_some rfl (yielded_of rfl d225))]
                            exact ob_copy rfl rfl rfl (Nat.lt_of_lt_of_eq (by decide : 231 < 238) hsz.symm) (Or.inl rfl) (Below.refl _ _) d35
                          · intro ac wc hC hsz hfr hd hpr
                            have d225 : ac.eval (.tmp 225) = (.bool false) := hd 8 rfl
                            have d230 : ac.eval (.tmp 230) = (.slice (some ⟨fb, fo, none⟩) L.length oc) := hd 13 rfl
                            have d231 : ac.eval (.tmp 231) = (.int .i64 (m : Int)) := hd 14 rfl
                            rw [if_pos (wanted_some rfl (yielded_of rfl d225))]
                            exact ob_index _ rfl rfl rfl (Nat.lt_of_lt_of_eq (by decide : 232 < 238) hsz.symm) rfl d230 d231 (by go_simp) (Below.refl _ _) rfl
                          · intro ac wc hC hsz hfr hd hpr
                            have d225 : ac.eval (.tmp 225) = (.bool false) := hd 8 rfl
                            have d232 : ac.eval (.tmp 232) = (.pointer (some ⟨fb, fo + m, none⟩)) := hd 15 rfl
                            rw [if_pos (wanted_some rfl (yielded_of rfl d225))]
                            exact ob_load _ rfl rfl rfl (Nat.lt_of_lt_of_eq (by decide : 233 < 238) hsz.symm) rfl d232 (load_bytes (cell_keep HFU.out hC)) (Below.refl _ _) (HFB.out.go hC)
                          · intro ac wc hC hsz hfr hd hpr
                            have d225 : ac.eval (.tmp 225) = (.bool false) := hd 8 rfl
                            have d229 : Bytes wc (ac.eval (.tmp 229)) (rowAt L m) := hd 12 rfl
                            have d233 : Bytes wc (ac.eval (.tmp 233)) (rowAt L m) := hd 16 rfl
                            rw [if_pos (wanted_some rfl (yielded_of rfl d225))]
                            refine ob_call rfl rfl rfl (Nat.lt_of_lt_of_eq (by decide : 234 < 238) hsz.symm) rfl (enter_of Try.func48 (by kernel_rfl) rfl) ?_
                            show Calls Try.prog 48 #[ac.eval (.tmp 229), ac.eval (.tmp 233)] wc _
                            exact (same_yes _ _ (rowAt L m) wc d229 d233).mono fun _ _ ⟨he, hb⟩ => ⟨_, he, rfl, hb⟩
                          · intro ac wc hC hsz hfr hd hpr
                            have d225 : ac.eval (.tmp 225) = (.bool false) := hd 8 rfl
                            have d234 : ac.eval (.tmp 234) = (.bool true) := hd 17 rfl
                            rw [if_pos (wanted_some rfl (yielded_of rfl d225))]
                            exact ob_not rfl rfl rfl (Nat.lt_of_lt_of_eq (by decide : 235 < 238) hsz.symm) rfl d234 (Below.refl _ _) rfl
                          · intro ac wc hC hsz hfr hd hpr
                            have d225 : ac.eval (.tmp 225) = (.bool false) := hd 8 rfl
                            have d235 : ac.eval (.tmp 235) = (.bool false) := hd 18 rfl
                            rw [if_pos (wanted_none rfl)]
                            exact ob_pick rfl rfl rfl (Nat.lt_of_lt_of_eq (by decide : 236 < 238) hsz.symm) rfl d225 (Below.refl _ _) d235
                        intro a' W60 hC hdef hsz hfr hd
                        have e217 : a'.eval (.tmp 217) = I64 0 := hd 0 (by decide)
                        have e218 : a'.eval (.tmp 218) = (.bool false) := hd 1 (by decide)
                        have e219 : a'.eval (.tmp 219) = (.bool false) := hd 2 (by decide)
                        have e220 : a'.eval (.tmp 220) = (.slice (some ⟨rb, ro, none⟩) L.length gc) := hd 3 (by decide)
                        have e221 : a'.eval (.tmp 221) = (.int .i64 (L.length : Int)) := hd 4 (by decide)
                        have e222 : a'.eval (.tmp 222) = (.int .i64 (k : Int)) := hd 5 (by decide)
                        have e223 : a'.eval (.tmp 223) = (.bool false) := hd 6 (by decide)
                        have e224 : a'.eval (.tmp 224) = (.bool false) := hd 7 (by decide)
                        have e225 : a'.eval (.tmp 225) = (.bool false) := hd 8 (by decide)
                        have e226 : a'.eval (.tmp 226) = (.slice (some ⟨rb, ro, none⟩) L.length gc) := hd 9 (by decide)
                        have e227 : a'.eval (.tmp 227) = (.int .i64 (m : Int)) := hd 10 (by decide)
                        have e228 : a'.eval (.tmp 228) = (.pointer (some ⟨rb, ro + m, none⟩)) := hd 11 (by decide)
                        obtain ⟨x229, e229, r229⟩ : ∃ xq_, a'.eval (.tmp 229) = xq_ ∧ Bytes W60 (xq_) (rowAt L m) := ⟨_, rfl, hd 12 (by decide)⟩
                        replace r229 := Lib.hid r229
                        have e230 : a'.eval (.tmp 230) = (.slice (some ⟨fb, fo, none⟩) L.length oc) := hd 13 (by decide)
                        have e231 : a'.eval (.tmp 231) = (.int .i64 (m : Int)) := hd 14 (by decide)
                        have e232 : a'.eval (.tmp 232) = (.pointer (some ⟨fb, fo + m, none⟩)) := hd 15 (by decide)
                        obtain ⟨x233, e233, r233⟩ : ∃ xq_, a'.eval (.tmp 233) = xq_ ∧ Bytes W60 (xq_) (rowAt L m) := ⟨_, rfl, hd 16 (by decide)⟩
                        replace r233 := Lib.hid r233
                        have e234 : a'.eval (.tmp 234) = (.bool true) := hd 17 (by decide)
                        have e235 : a'.eval (.tmp 235) = (.bool false) := hd 18 (by decide)
                        have e236 : a'.eval (.tmp 236) = (.bool false) := hd 19 (by decide)
                        have hact := act_puts hdef hsz hfr
                        simp only [dstsOf, List.filterMap, putAll, Act.put, List.setIfInBounds_toArray, List.set_cons_succ, List.set_cons_zero, e217, e218, e219, e220, e221, e222, e223, e224, e225, e226, e227, e228, e229, e230, e231, e232, e233, e234, e235, e236] at hact
                        clear hd hfr hsz hdef e217 e218 e219 e220 e221 e222 e223 e224 e225 e226 e227 e228 e229 e230 e231 e232 e233 e234 e235 e236
                        subst hact
                        replace HF := Lib.hid (HF.out.go hC)
                        replace HR := Lib.hid (HR.out.go hC)
                        replace B := B.trans (hC.mono B.size)
                        go_wp2_with fail
                        go_roundw
                        case rel => exact ⟨m + 1, by omega, by go_num, B, HF.out, HR.out⟩
                        case measure => simp [intOf]; omega
                      · obtain rfl : m = L.length := by omega
                        go_wp2_with fail
                        go_ret
                        exact ⟨rfl, B⟩

theorem elimSolves_walk (v0 : Value) (S : List (List Nat)) (v1 : Value) (V : List (List Nat)) (x : Nat) (w : World) (h0 : IsRows w v0 S) (h1 : IsRows w v1 V) (hx : x < 256) :
    Calls Try.prog 7 #[v0, v1, U8 x] w fun e w' => e = .returned (.bool true) ∧ Below w.heap.size w w' := by
  by_cases hs1 : 1 ≤ S.length
  · by_cases hs2 : S.length ≤ 20
    · by_cases hv : V.length ≤ 30
      · exact elimSolves_some v0 v1 S V x w hx h0 h1 hs1 hs2 hv
      · exact elimSolves_out v0 v1 S V x w h0 h1 (.inr (.inr ⟨hs1, hs2, by omega⟩))
    · exact elimSolves_out v0 v1 S V x w h0 h1 (.inr (.inl ⟨hs1, by omega⟩))
  · exact elimSolves_out v0 v1 S V x w h0 h1 (.inl (by omega))

end Go.Proofs.Ytohfcdgpllghbaa
