/- Texts of one seat, laid together: LawTwelveD. -/
import Derived.Test.YtfefkchjhooloaaGlueBackQ7
import Derived.StillTailTactics

/-
  The laws of glue (layer 12): GlueBack: some symbols, put into a map; an object that was cut, joined, and filled.
-/
set_option maxRecDepth 100000
namespace Go.Proofs.Ytfefkchjhooloaa
open Go.RowKit Go.Maps

/-- What was put, the newest first. -/
def psL (U : Nat → Value) (wl : List Nat) (k j : Nat) : List (Int × Value) := ((wl.take j).map fun c => (((c % k : Nat) : Int), U (c % k))).reverse
theorem psL_zero (U : Nat → Value) (wl : List Nat) (k : Nat) : psL U wl k 0 = [] := by simp [psL]
theorem psL_succ {U : Nat → Value} {wl : List Nat} {k j : Nat} (hj : j < wl.length) : psL U wl k (j + 1) = (((nth wl j % k : Nat) : Int), U (nth wl j % k)) :: psL U wl k j := by
  unfold psL
  rw [List.take_succ_eq_append_getElem hj, List.map_append, List.reverse_append, nth_eq wl j hj]
  rfl
theorem psL_mem {U : Nat → Value} {wl : List Nat} {k j : Nat} (hk : 1 ≤ k) : ∀ p ∈ psL U wl k j, 0 ≤ p.1 ∧ p.1 < (k : Int) ∧ p.2 = U p.1.toNat := by
  intro p hp
  unfold psL at hp
  rw [List.mem_reverse, List.mem_map] at hp
  obtain ⟨c, _, rfl⟩ := hp
  have h1 : c % k < k := Nat.mod_lt _ hk
  exact ⟨Int.natCast_nonneg _, Int.ofNat_lt.2 h1, by show U (c % k) = U ((c % k : Nat) : Int).toNat; rw [Int.toNat_natCast]⟩
theorem valR_same {U : Nat → Value} (k : Int) : ∀ {ps : List (Int × Value)}, (∀ p ∈ ps, p.2 = U p.1.toNat) → valR ps k = if hasR ps k = true then U k.toNat else .slice none 0 0
  | [], _ => rfl
  | p :: r, h => by
    unfold valR hasR
    rw [List.any_cons]
    by_cases e : p.1 = k
    · rw [if_pos e, if_pos (by rw [e]; simp), h p (by simp), e]
    · rw [if_neg e, valR_same k (fun q hq => h q (by simp [hq])), beq_eq_false_iff_ne.2 e]
      rfl
theorem hasR_mem {ps : List (Int × Value)} {k : Int} (h : hasR ps k = true) : ∃ p ∈ ps, p.1 = k := by
  unfold hasR at h
  rw [List.any_eq_true] at h
  obtain ⟨p, hp, e⟩ := h
  exact ⟨p, hp, by simpa using e⟩
/-- How the symbols of the map read. -/
def rowF (R : List (List Nat)) (ps : List (Int × Value)) (k : Int) : List Nat := if hasR ps k = true then rowAt R k.toNat else []
theorem kmap_of {w : World} {b n k : Nat} {U : Nat → Value} {R : List (List Nat)} {ps : List (Int × Value)} (hn : n ≤ 1000000000) (ho : w.ownsMap Try.prog 3 heldV b n (putR ps)) (hk : k ≤ 4096) (hps : ∀ p ∈ ps, 0 ≤ p.1 ∧ p.1 < (k : Int) ∧ p.2 = U p.1.toNat)
    (hU : ∀ i, i < k → Bytes w (U i) (rowAt R i)) : KMap w b ps (rowF R ps) := by
  refine ⟨⟨n, hn, ho⟩, fun x => ?_, fun x hx => ?_⟩
  · rw [valR_same x (fun p hp => (hps p hp).2.2)]
    unfold rowF
    by_cases h : hasR ps x = true
    · obtain ⟨p, hp, e⟩ := hasR_mem h
      obtain ⟨h1, h2, _⟩ := hps p hp
      rw [if_pos h, if_pos h]
      exact hU _ (by omega)
    · rw [if_neg h, if_neg h]
      exact Bytes.nil _
  · obtain ⟨p, hp, e⟩ := hasR_mem hx
    obtain ⟨h1, h2, _⟩ := hps p hp
    omega
theorem numE_ok {s k : Int} {f : Int → List Nat} : ∀ {K : List Int}, (∀ x ∈ K, 0 ≤ x ∧ x < k ∧ ((f x).length : Int) = s) → numE s k f K = 0
  | [], _ => rfl
  | i :: r, h => by
    obtain ⟨h1, h2, h3⟩ := h i (by simp)
    unfold numE
    rw [if_neg (by omega), if_neg (by simp [h3])]
    exact numE_ok (fun x hx => h x (by simp [hx]))

theorem KMap.look_ok {w : World} {b : Nat} {ps : List (Int × Value)} {f : Int → List Nat} (h : KMap w b ps f) {k : Int} (hk : -9223372036854775808 ≤ k ∧ k ≤ 9223372036854775807) :
    ∃ v, (Instr.lookup 52 (.map (some b)) (.int .i64 k) true).run Try.prog w = .ok (.tuple #[v, .bool (hasR ps k)]) w := by
  obtain ⟨⟨n, hn, ho⟩, hv, hr⟩ := h
  obtain ⟨v, qs, hrun, _⟩ := ho.look_ok (t := 52) (e := 25) (int_keyed Try.underlying3) Try.underlying52 (zero_sl w) (zd := .held (.slice none 0 0)) (zp := []) rfl (keyOf_int_mk Try.underlying3 (wf_int hk))
  rw [has_putR] at hrun
  exact ⟨v, hrun⟩
theorem fill_back {o : List Nat} {s k : Nat} {ps : List (Int × Value)} {K : List Int} (h : Made11 o s k) (hK : KeysOf ps K) (hps : ∀ x, hasR ps x = true → 0 ≤ x ∧ x < (k : Int)) :
    fillE (o.length : Int) (s : Int) (k : Int) (rowF (cutL o s k) ps) K = 0 ∧ (fillS (o.length : Int) (s : Int) (k : Int) (rowF (cutL o s k) ps) K).length = o.length ∧ (fillB (o.length : Int) (s : Int) (k : Int) (rowF (cutL o s k) ps) K).length = o.length ∧
    ∀ q, q < o.length → (fillB (o.length : Int) (s : Int) (k : Int) (rowF (cutL o s k) ps) K).getD q false = hasR ps ((q / s : Nat) : Int) ∧ nth (fillS (o.length : Int) (s : Int) (k : Int) (rowF (cutL o s k) ps) K) q = if hasR ps ((q / s : Nat) : Int) = true then nth o q else 0 := by
  have hz : numE (s : Int) (k : Int) (rowF (cutL o s k) ps) K = 0 := numE_ok fun x hx => by
    have h1 := (hK.2 x).1 hx
    obtain ⟨h2, h3⟩ := hps x h1
    refine ⟨h2, h3, ?_⟩
    unfold rowF
    rw [if_pos h1, cutL_row _ (by rw [cutL_length]; omega)]
  have he : fillE (o.length : Int) (s : Int) (k : Int) (rowF (cutL o s k) ps) K = 0 := by unfold fillE; rw [if_pos h.ok, hz]
  have hS : fillS (o.length : Int) (s : Int) (k : Int) (rowF (cutL o s k) ps) K = fillO o.length s (rowF (cutL o s k) ps) K := by unfold fillS; rw [if_pos he]; rfl
  have hB : fillB (o.length : Int) (s : Int) (k : Int) (rowF (cutL o s k) ps) K = fillT o.length s K := by unfold fillB; rw [if_pos he]; rfl
  rw [hS, hB]
  refine ⟨he, fillO_length _ _ _ _, fillT_length _ _ _, fun q hq => ⟨?_, ?_⟩⟩
  · rw [List.getD_eq_getElem?_getD]
    unfold fillT
    rw [List.getElem?_map, List.getElem?_range hq]
    show decide (((q / s : Nat) : Int) ∈ K) = _
    rw [← Bool.coe_iff_coe, decide_eq_true_eq, hK.2]
  · rw [nth_eq _ _ (by rw [fillO_length]; exact hq)]
    unfold fillO
    rw [List.getElem_map, List.getElem_range]
    by_cases hh : hasR ps ((q / s : Nat) : Int) = true
    · rw [if_pos ((hK.2 _).2 hh), if_pos hh]
      unfold rowF
      rw [if_pos hh, Int.toNat_natCast]
      exact cutL_nth h.s1 (by have := h.room; omega)
    · rw [if_neg (fun hm => hh ((hK.2 _).1 hm)), if_neg hh]
theorem spr_in {o : List Nat} {s k p : Nat} (h : Made11 o s k) (hp : p < o.length) : sprE (o.length : Int) (s : Int) (k : Int) (p : Int) = 0 ∧ sprI (o.length : Int) (s : Int) (k : Int) (p : Int) = ((p / s : Nat) : Int) ∧ sprK (o.length : Int) (s : Int) (k : Int) (p : Int) = ((p % s : Nat) : Int) := by
  have he : sprE (o.length : Int) (s : Int) (k : Int) (p : Int) = 0 := by unfold sprE; rw [if_pos h.ok, if_neg (by omega)]
  refine ⟨he, ?_, ?_⟩
  · unfold sprI; rw [if_pos he]; rfl
  · unfold sprK; rw [if_pos he]; rfl
set_option maxHeartbeats 4000000 in
theorem glueBack_main (v v3 : Value) (o wl : List Nat) (s' k' : Nat) (n : Nat) (w : World) (ho : Bytes w v o) (hw : Bytes w v3 wl) (hwl : wl.length ≤ 100) (hM : Made11 o s' k')
    (hOF : ∀ w, Calls Try.prog 14 #[.int .i64 (o.length : Int), .int .i64 (s' : Int), .int .u32 (n : Int)] w (PlanE w o.length s' k' n 0)) :
    Calls Try.prog 7 #[v, .int .i64 s', .int .u32 (n : Int), v3] w fun e w' => e = .returned (.bool true) ∧ Below w.heap.size w w' := by
  have HM := Lib.hid hM
  have hback := cut_back hM
  have hall := cut_all hM
  obtain ⟨m1, m2, m3, m4, m5, m6, m7⟩ := hM
  obtain ⟨R, hR⟩ : ∃ R, R = cutL o s' k' := ⟨_, rfl⟩
  rw [← hR] at hback hall
  have HC := Lib.hid (fun v w ho => cutCut_any (o.length : Int) (s' : Int) (k' : Int) (n : Int) v o w (by omega) (by omega) (by omega) ho)
  have hce : cutE (o.length : Int) (s' : Int) (k' : Int) o = 0 := by unfold cutE; rw [if_pos m1, if_pos rfl]
  have hcs : cutS (o.length : Int) (s' : Int) (k' : Int) o = R := by unfold cutS; rw [if_pos hce, hR]; rfl
  rw [hce, hcs] at HC
  have HJ := Lib.hid (fun v w hr => join_any (o.length : Int) (s' : Int) (k' : Int) (n : Int) v R w (by omega) (by omega) (by omega) hr)
  have HCL := Lib.hid (fun v w hr => clean_any (o.length : Int) (s' : Int) (k' : Int) (n : Int) v R w (by omega) (by omega) (by omega) hr)
  rw [hall, hback.1] at HJ
  rw [hback.2] at HCL
  have HLL := Lib.hid (show R.length = k' by rw [hR]; exact cutL_length _ _ _)
  have HRW := Lib.hid (show ∀ i, i < k' → (rowAt R i).length = s' by rw [hR]; intro i hi; exact cutL_row i (by rw [cutL_length]; exact hi))
  have HNT := Lib.hid (show ∀ q, q < o.length → nth (rowAt R (q / s')) (q % s') = nth o q by
    intro q hq; rw [hR]; exact cutL_nth m4 (by omega))
  have HNK := Lib.hid (show ∀ q, q < o.length → q / s' < k' by
    intro q hq; exact Nat.div_lt_of_lt_mul (by rw [Nat.mul_comm]; omega))
  have HSP := Lib.hid (fun p w => spread_any (o.length : Int) (s' : Int) (k' : Int) (n : Int) p w (by omega) (by omega) (by omega))
  have HFI := Lib.hid (fun b ps f w hM => fill_any (o.length : Int) (s' : Int) (k' : Int) (n : Int) b ps f w (by omega) (by omega) (by omega) hM)
  have HOF := Lib.hid hOF
  unfold PlanE planV at HOF
  have HO := Lib.hid ho
  have HW := Lib.hid hw
  obtain ⟨a, c, rfl, _⟩ := ho
  obtain ⟨a3, c3, rfl, _⟩ := hw
  have hb1 : ¬ (2000 : Int) < (o.length : Int) := by omega
  have hb2 : ¬ (2000 : Int) < (s' : Int) := by omega
  have hb3 : ¬ (100 : Int) < (wl.length : Int) := by omega
  have hmm := @run_makeMap Try.prog
  have HR0 := Lib.hid hR
  clear hce hcs hOF hR m7 hback hall m1
  go_enter Try.func7, Try.ntmps7
  go_wp2_with fail
  have B : Below w.heap.size w w := Below.refl _ _
  refine (awake12_any _).mono ?_
  rintro e w1 ⟨rfl, hb⟩
  replace HO := Lib.hid (HO.out.go hb)
  replace HW := Lib.hid (HW.out.go hb)
  replace B := B.trans (hb.mono B.size)
  have hzw1 := B.size
  clear hb
  go_wp2_with fail
  refine (HOF.out _).mono ?_
  rintro e w2 ⟨rfl, hb⟩
  replace HO := Lib.hid (HO.out.go hb)
  replace HW := Lib.hid (HW.out.go hb)
  replace B := B.trans (hb.mono B.size)
  have hzw2 := B.size
  clear hb
  go_wp2_with fail
  obtain ⟨hb, hk, hs⟩ := blocks1 w2 #[.int .i64 (o.length : Int), .int .i64 (s' : Int), .int .i64 (k' : Int), .int .u32 (n : Int)] 24
  generalize w2.alloc (.cells #[.int .i64 (o.length : Int), .int .i64 (s' : Int), .int .i64 (k' : Int), .int .u32 (n : Int)] 24) = W3 at *
  have K1 := Lib.hid hk
  replace HO := Lib.hid (HO.out.go hb)
  replace HW := Lib.hid (HW.out.go hb)
  replace B := B.trans (hb.mono B.size)
  have hzW3 := B.size
  clear hb hk hs
  obtain ⟨p0, p1, p2, p3⟩ := K1.out.four
  have pl := K1.out.lt
  go_wp2_with fail
  clear p0 p1 p2 p3 pl
  obtain ⟨g1, hg1⟩ : ∃ g1 : Nat, g1 = w2.heap.size := ⟨_, rfl⟩
  rw [← hg1] at K1
  simp only [← hg1]
  clear hg1
  refine (HC.out _ _ HO.out).mono ?_
  rintro e w4 ⟨u4, rfl, hu4, hb⟩
  replace K1 := Lib.hid (K1.out.go hb)
  replace HO := Lib.hid (HO.out.go hb)
  replace HW := Lib.hid (HW.out.go hb)
  replace B := B.trans (hb.mono B.size)
  have hzw4 := B.size
  clear hb
  obtain ⟨ua, uc, rfl⟩ := hu4.shape
  have HU := Lib.hid hu4.rows
  simp only [HLL.out]
  rw [HLL.out] at HU
  clear hu4
  obtain ⟨p0, p1, p2, p3⟩ := K1.out.four
  have pl := K1.out.lt
  go_wp2_with fail
  clear p0 p1 p2 p3 pl
  refine (HJ.out _ _ HU.out).mono ?_
  rintro e w5 ⟨u5, rfl, hu5, hb⟩
  replace K1 := Lib.hid (K1.out.go hb)
  replace HO := Lib.hid (HO.out.go hb)
  replace HW := Lib.hid (HW.out.go hb)
  replace HU := Lib.hid (HU.out.go hb)
  replace B := B.trans (hb.mono B.size)
  have hzw5 := B.size
  clear hb
  have HX := Lib.hid hu5
  obtain ⟨xa, xc, rfl, _⟩ := hu5
  obtain ⟨p0, p1, p2, p3⟩ := K1.out.four
  have pl := K1.out.lt
  go_wp2_with fail
  clear p0 p1 p2 p3 pl
  refine (same_self _ _ o _ HX.out HO.out).mono ?_
  rintro e w6 ⟨rfl, hb⟩
  replace K1 := Lib.hid (K1.out.go hb)
  replace HO := Lib.hid (HO.out.go hb)
  replace HW := Lib.hid (HW.out.go hb)
  replace HU := Lib.hid (HU.out.go hb)
  replace B := B.trans (hb.mono B.size)
  have hzw6 := B.size
  clear hb
  obtain ⟨p0, p1, p2, p3⟩ := K1.out.four
  have pl := K1.out.lt
  go_wp2_with fail
  clear p0 p1 p2 p3 pl
  refine (HCL.out _ _ HU.out).mono ?_
  rintro e w7 ⟨rfl, hb⟩
  replace K1 := Lib.hid (K1.out.go hb)
  replace HO := Lib.hid (HO.out.go hb)
  replace HW := Lib.hid (HW.out.go hb)
  replace HU := Lib.hid (HU.out.go hb)
  replace B := B.trans (hb.mono B.size)
  have hzw7 := B.size
  clear hb
  go_wp2_with fail
  obtain ⟨U, ub, uo, rfl, hUC⟩ : ∃ (U : Nat → Value) (ub uo : Nat), ua = some ⟨ub, uo, none⟩ ∧ ∀ i, i < k' → w7.cell? ⟨ub, uo + i, none⟩ = some (U i) ∧ Bytes w7 (U i) (rowAt R i) := by
    obtain ⟨a', cap, e, _, _, h4⟩ := HU.out
    obtain ⟨b', off', ha, _, hc⟩ := h4 (by intro h; have := HLL.out; rw [h] at this; simp at this; omega)
    simp only [Value.slice.injEq] at e
    refine ⟨fun i => (w7.cell? ⟨b', off' + i, none⟩).getD (.slice none 0 0), b', off', e.1.trans ha, fun i hi => ?_⟩
    obtain ⟨u, hu, hb⟩ := hc i (by rw [HLL.out]; exact hi)
    have e2 : (w7.cell? ⟨b', off' + i, none⟩).getD (.slice none 0 0) = u := by rw [hu]; rfl
    show _ = some ((w7.cell? ⟨b', off' + i, none⟩).getD (.slice none 0 0)) ∧ Bytes w7 ((w7.cell? ⟨b', off' + i, none⟩).getD (.slice none 0 0)) (rowAt R i)
    rw [e2]
    exact ⟨hu, hb⟩
  have HUC := Lib.hid hUC
  have hm0 : (w7.alloc (.map #[] 0)).ownsMap Try.prog 3 heldV w7.heap.size 0 (.map []) := World.ownsMap_made _ _ _ _
  have hs0 : Since w7 (w7.alloc (.map #[] 0)) := (Below.refl _ _).alloc (Nat.le_refl _) _
  generalize w7.alloc (.map #[] 0) = W8 at *
  obtain ⟨gm, hgm⟩ : ∃ gm : Nat, gm = w7.heap.size := ⟨_, rfl⟩
  have HGM := Lib.hid hgm
  rw [← hgm] at hm0
  simp only [← hgm]
  have HM0 := Lib.hid hm0
  have HS0 := Lib.hid hs0
  clear hgm hm0 hs0 hmm hUC
  go_loopw [16, 92] (fun _ i wr => ∃ j : Nat, j ≤ wl.length ∧ i = .int .i64 j ∧ Since w7 wr ∧ wr.ownsMap Try.prog 3 heldV gm j (putR (psL U wl k' j))) (fun _ i _ => wl.length - (intOf i).toNat)
  case atStart => exact ⟨0, by omega, rfl, HS0.out, by rw [psL_zero]; exact HM0.out⟩
  case round =>
    clear HS0 HM0
    obtain ⟨j, hj, rfl, hS, hown⟩ := hrel
    have HSJ := Lib.hid hS
    have HOJ := Lib.hid hown
    clear hS hown
    by_cases hlt : j < wl.length
    · obtain ⟨wb, wo, rfl, hcw⟩ := (HW.out.since HSJ.out).at j hlt
      obtain ⟨c', hc'⟩ : ∃ c', c' = nth wl j := ⟨_, rfl⟩
      have hc256 : c' < 256 := by rw [hc']; exact nth_lt HW.out.lt j
      obtain ⟨q, hq⟩ : ∃ q, q = c' % k' := ⟨_, rfl⟩
      have HQ := Lib.hid (show q < k' by rw [hq]; exact Nat.mod_lt _ (by omega))
      have HST := Lib.hid (show psL U wl k' (j + 1) = ((q : Int), U q) :: psL U wl k' j by rw [psL_succ hlt, hq, hc'])
      rw [← hc'] at hcw
      have hqi : (c' : Int) % (k' : Int) = (q : Int) := by rw [hq]; rfl
      have hcu : wr.cell? ⟨ub, uo + q, none⟩ = some (U q) := cell_keep (HUC.out q HQ.out).1 HSJ.out
      obtain ⟨u, hu⟩ : ∃ u, u = U q := ⟨_, rfl⟩
      rw [← hu] at hcu HST
      obtain ⟨ra, rc, rfl⟩ : ∃ ra rc, u = .slice ra (rowAt R q).length rc := by
        obtain ⟨ra, rc, e, _⟩ := (HUC.out q HQ.out).2
        exact ⟨ra, rc, by rw [hu, e]⟩
      have j0 : (0 : Int) ≤ (j : Int) := Int.natCast_nonneg _
      have j1 : (j : Int) < (wl.length : Int) := by omega
      have q0 : (0 : Int) ≤ (q : Int) := Int.natCast_nonneg _
      have q1 : (q : Int) < (k' : Int) := by have := HQ.out; omega
      have hz2 : ¬ (k' : Int) = 0 := by omega
      have hz3 : ((k' : Int) == 0) = false := beq_eq_false_iff_ne.2 (by omega)
      have hz4 : ¬ k' = 0 := by omega
      have hqt : (IntKind.i64.wrap (c' : Int)).tmod (k' : Int) = (q : Int) := by
        rw [show IntKind.i64.wrap (c' : Int) = (c' : Int) by rw [IntKind.wrap_i64]; omega, hq]; rfl
      clear hc' hq hu hqi
      go_wp2_with fail
      go_still_tail 14, (by kernel_rfl)
      have hdr : ∀ x : World, x.drew = { heap := x.heap, tape := x.tape, drawn := x.drawn + 1, os := x.os, output := x.output } := fun _ => rfl
      rw [← hdr wr]
      have HSD := Lib.hid (show Since w7 wr.drew from Below.trans HSJ.out ((below_drews wr 1).mono (Below.size HSJ.out)))
      have HOD := Lib.hid (show wr.drew.ownsMap Try.prog 3 heldV gm j (putR (psL U wl k' j)) from HOJ.out.drew)
      clear hdr hcw hcu
      generalize wr.drew = wd at *
      refine wpList_mapUpdate_own wd rfl (.tmp 96) (.tmp 101) (.tmp 109) 52 rfl 3 25 (int_keyed Try.underlying3) Try.underlying52 heldV gm j _ rfl HOD.out (by unfold maxLen; omega) (.int .i64 (q : Int)) (.slice ra (rowAt R q).length rc) (.int .i64 (q : Int)) rfl rfl (keyOf_int_mk Try.underlying3 (wf_int (by omega))) (.held (.slice ra (rowAt R q).length rc)) [] rfl ?_
      intro w9 ho9 hg9
      have HO9 := Lib.hid (show w9.ownsMap Try.prog 3 heldV gm (j + 1) (putR (psL U wl k' (j + 1))) by rw [HST.out]; exact ho9)
      have HS9 := Lib.hid (show Since w7 w9 from Below.grown HSD.out hg9 (Below.size HSD.out) (fun b e => by cases e; have := HGM.out; omega))
      clear ho9 hg9
      go_wp2_with fail
      go_roundw
      case rel => exact ⟨j + 1, by omega, by go_num, HS9.out, HO9.out⟩
      case measure => simp [intOf]; omega
    · obtain rfl : j = wl.length := by omega
      obtain ⟨ps, hps⟩ : ∃ ps, ps = psL U wl k' wl.length := ⟨_, rfl⟩
      rw [← hps] at HOJ
      have hmem : ∀ p ∈ ps, 0 ≤ p.1 ∧ p.1 < (k' : Int) ∧ p.2 = U p.1.toNat := by rw [hps]; exact psL_mem m3
      have HKM := Lib.hid (kmap_of (R := R) (by omega) HOJ.out m2 hmem (fun i hi => (HUC.out i hi).2.since HSJ.out))
      have HHAS := Lib.hid (show ∀ x, hasR ps x = true → 0 ≤ x ∧ x < (k' : Int) from fun x hx => by
        obtain ⟨p, hp, e⟩ := hasR_mem hx
        obtain ⟨h1, h2, _⟩ := hmem p hp
        omega)
      replace B := B.trans (HSJ.out.mono B.size)
      have K2 := Lib.hid (K1.out.go HSJ.out)
      have HO2 := Lib.hid (HO.out.since HSJ.out)
      obtain ⟨p0, p1, p2, p3⟩ := K2.out.four
      have pl := K2.out.lt
      clear K1 HO HW HU HUC HSJ hmem hps HOJ HGM
      go_wp2_with fail
      clear p0 p1 p2 p3 pl
      have HFX := Lib.hid (HFI.out gm ps (rowF R ps) wr HKM.out)
      refine HFX.out.mono ?_
      rintro e w10 ⟨K, u, v, hKO, rfl, hu, hv, hb⟩
      obtain ⟨f1, f2, f3, f4⟩ := fill_back HM.out hKO HHAS.out
      rw [← HR0.out] at f1 f2 f3 f4
      rw [f1]
      obtain ⟨O, hO⟩ : ∃ O, O = fillS (o.length : Int) (s' : Int) (k' : Int) (rowF R ps) K := ⟨_, rfl⟩
      obtain ⟨T, hT⟩ : ∃ T, T = fillB (o.length : Int) (s' : Int) (k' : Int) (rowF R ps) K := ⟨_, rfl⟩
      rw [← hO] at f2 f4 hu
      rw [← hT] at f3 f4 hv
      have HU9 := Lib.hid hu
      have HV9 := Lib.hid hv
      have HF4 := Lib.hid f4
      have HOL := Lib.hid f2
      have HTL := Lib.hid f3
      have HKM2 := Lib.hid (HKM.out.go hb)
      replace K2 := Lib.hid (K2.out.go hb)
      replace HO2 := Lib.hid (HO2.out.go hb)
      replace B := B.trans (hb.mono B.size)
      obtain ⟨xa9, xc9, rfl, _⟩ := hu
      obtain ⟨ya9, yc9, rfl, _⟩ := hv
      simp only [HOL.out, HTL.out]
      rw [HOL.out] at HU9
      rw [HTL.out] at HV9
      clear f1 f2 f3 f4 hO hT hKO hb HFX HKM HHAS
      go_wp2_with fail
      go_loopw [20, 21, 22, 23, 24, 25, 136] (fun _ _ _ _ _ _ i wr => ∃ p : Nat, p ≤ o.length ∧ i = .int .i64 p ∧ Since w10 wr) (fun _ _ _ _ _ _ i _ => o.length - (intOf i).toNat)
      case atStart => exact ⟨0, by omega, rfl, Below.refl _ _⟩
      case round =>
        obtain ⟨p, hp, rfl, hS⟩ := hrel
        have HSP9 := Lib.hid hS
        have K3 := Lib.hid (K2.out.go hS)
        obtain ⟨p0, p1, p2, p3⟩ := K3.out.four
        have pl := K3.out.lt
        clear hS
        by_cases hpl : p < o.length
        · obtain ⟨s1, s2, s3⟩ := spr_in HM.out hpl
          have HSQ := Lib.hid (HSP.out (p : Int) wr)
          rw [s1, s2, s3] at HSQ
          have i0 : (0 : Int) ≤ (p : Int) := Int.natCast_nonneg _
          have i1 : (p : Int) < (o.length : Int) := by omega
          obtain ⟨I, hI⟩ : ∃ I, I = p / s' := ⟨_, rfl⟩
          obtain ⟨J, hJ⟩ : ∃ J, J = p % s' := ⟨_, rfl⟩
          have hI9 : I ≤ 2000 := by
            have : p / s' ≤ p := Nat.div_le_self _ _
            omega
          obtain ⟨t1, t2⟩ := HF4.out p hpl
          rw [← hI] at t1 t2
          rw [← hI, ← hJ] at HSQ
          have HT1 := Lib.hid t1
          have HT2 := Lib.hid t2
          clear s1 s2 s3 hI hJ t1 t2
          go_wp2_with fail
          clear p0 p1 p2 p3 pl
          replace B := B.trans (HSP9.out.mono B.size)
          refine (HSQ.out).mono ?_
          rintro e w11 ⟨rfl, hb⟩
          replace HSP9 := Lib.hid (HSP9.out.go hb)
          replace B := B.trans (hb.mono B.size)
          have hzw11 := B.size
          clear hb
          obtain ⟨v9, hlk⟩ := (HKM2.out.since HSP9.out).look_ok (k := (I : Int)) (by omega)
          obtain ⟨yb, yo, rfl, cT⟩ : ∃ yb yo, ya9 = some ⟨yb, yo, none⟩ ∧ w11.cell? ⟨yb, yo + p, none⟩ = some (.bool (T.getD p false)) := by
            obtain ⟨a', cap', e, _, _, h4⟩ := HV9.out.go HSP9.out
            obtain ⟨b', off', rfl, _, hc⟩ := h4 (by intro h; have := HTL.out; rw [h] at this; simp at this; omega)
            simp only [Value.slice.injEq] at e
            exact ⟨b', off', e.1, hc p (by rw [HTL.out]; exact hpl)⟩
          obtain ⟨xb, xo, rfl, cS⟩ := (HU9.out.since HSP9.out).at p (by rw [HOL.out]; exact hpl)
          obtain ⟨ob, oo, rfl, cO⟩ := (HO2.out.since HSP9.out).at p hpl
          rw [HT1.out] at cT
          rw [HT2.out] at cS
          obtain ⟨y, hy⟩ : ∃ y, y = nth o p := ⟨_, rfl⟩
          rw [← hy] at cS cO
          obtain ⟨h, hh⟩ : ∃ h, h = hasR ps (I : Int) := ⟨_, rfl⟩
          rw [← hh] at cT cS hlk
          clear hy hh
          cases h with
          | true =>
            rw [if_pos rfl] at cS
            go_wp2_with fail
            go_quiet (fail)
            have HS12 := Lib.hid (show Since w10 (w11.drewN nq) from Below.trans HSP9.out ((below_drews w11 nq).mono (Below.size HSP9.out)))
            clear cT cS cO hlk
            generalize w11.drewN nq = w12 at *
            go_wp2_with fail
            go_roundw
            case rel => exact ⟨p + 1, by omega, by go_num, HS12.out⟩
            case measure => simp [intOf]; omega
          | false =>
            rw [if_neg (by decide)] at cS
            go_wp2_with fail
            go_quiet (fail)
            have HS12 := Lib.hid (show Since w10 (w11.drewN nq) from Below.trans HSP9.out ((below_drews w11 nq).mono (Below.size HSP9.out)))
            clear cT cS cO hlk
            generalize w11.drewN nq = w12 at *
            go_wp2_with fail
            go_roundw
            case rel => exact ⟨p + 1, by omega, by go_num, HS12.out⟩
            case measure => simp [intOf]; omega
        · obtain rfl : p = o.length := by omega
          go_wp2_with fail
          go_ret
          exact ⟨rfl, B.trans (HSP9.out.mono B.size)⟩

theorem glueBack_walk (v : Value) (o : List Nat) (s : Int) (n : Nat) (v3 : Value) (wl : List Nat) (w : World) (ho : Bytes w v o) (hs0 : -9223372036854775808 ≤ s) (hs9 : s ≤ 9223372036854775807) (_ : n < 4294967296) (hw : Bytes w v3 wl) :
    Calls Try.prog 7 #[v, .int .i64 s, .int .u32 (n : Int), v3] w fun e w' => e = .returned (.bool true) ∧ Below w.heap.size w w' := by
  by_cases hb : 2000 < o.length ∨ (o.length ≤ 2000 ∧ 2000 < s) ∨ (o.length ≤ 2000 ∧ s ≤ 2000 ∧ 100 < wl.length) ∨ (o.length ≤ 2000 ∧ s < 1 ∧ wl.length ≤ 100)
  · exact glueBack_early v v3 o wl s n w ho hw hs0 hs9 hb
  · obtain ⟨s', rfl⟩ : ∃ s' : Nat, s = s' := ⟨s.toNat, by omega⟩
    have ho2 : o.length ≤ 2000 := by omega
    have hs1 : 1 ≤ s' := by omega
    have hs2 : s' ≤ 2000 := by omega
    have hwl : wl.length ≤ 100 := by omega
    have hc := of_made ho2 hs1 hs2
    obtain ⟨q1, q2, q3, q4, q5, q6, q7⟩ := check_ok10 hc
    obtain ⟨k', hk⟩ : ∃ k' : Nat, needI (o.length : Int) (s' : Int) = k' := ⟨(needI (o.length : Int) (s' : Int)).toNat, by omega⟩
    rw [hk] at hc q4 q5 q7
    refine glueBack_main v v3 o wl s' k' n w ho hw hwl ⟨hc, by omega, by omega, hs1, hs2, ho2, by rw [← Int.natCast_mul] at q7; omega⟩ fun w => ?_
    have h := of10_any (o.length : Int) (s' : Int) (n : Int) w (by omega) (by omega) (by omega)
    rw [hk, hc] at h
    exact h

end Go.Proofs.Ytfefkchjhooloaa
