/-
  The program's numbers (layer 6): 'folded', 'Add', 'Mul'.
-/
import Derived.Test.YtobhlfkmdhoncaaNatG
set_option maxRecDepth 100000
namespace Go.Proofs.Ytobhlfkmdhoncaa
open Go.RowKit

/-- Is the number too great? -/
def Great (n : Nat) : Prop := 512 < (Wt.dg n).length
instance (n : Nat) : Decidable (Great n) := by unfold Great; infer_instance
/-- One number behind the other; none from the first on that is too great. -/
def foldG (op : Nat → Nat → Nat) (a : Nat) : List Nat → Option Nat
  | [] => some a
  | x :: l => if Great (op a x) then none else foldG op (op a x) l
theorem foldG_snoc (op : Nat → Nat → Nat) (x : Nat) : ∀ (l : List Nat) (a : Nat), foldG op a (l ++ [x]) = (foldG op a l).bind fun v => if Great (op v x) then none else some (op v x)
  | [], a => by simp only [List.nil_append, foldG, Option.bind_some]
  | y :: l, a => by
    simp only [List.cons_append, foldG]
    split
    · rfl
    · exact foldG_snoc op x l _
theorem foldG_none {op : Nat → Nat → Nat} {a : Nat} {l : List Nat} {k : Nat} (h : foldG op a (l.take k) = none) : foldG op a l = none := by
  have e : ∀ (l r : List Nat) (a : Nat), foldG op a l = none → foldG op a (l ++ r) = none := by
    intro l
    induction l with
    | nil => intro r a h; simp [foldG] at h
    | cons y l ih =>
      intro r a h
      simp only [foldG, List.cons_append] at h ⊢
      split
      · rfl
      · rename_i hg
        rw [if_neg hg] at h
        exact ih r _ h
  rw [← List.take_append_drop k l]
  exact e _ _ _ h

/-- The value is a slice of numbers of the program's. -/
def IsNats (w : World) (v : Value) (ns : List Nat) : Prop :=
  ∃ a cap, v = .slice a ns.length cap ∧ ns.length ≤ cap ∧ cap ≤ 9223372036854775807 ∧ (ns ≠ [] → ∃ b off, a = some ⟨b, off, none⟩ ∧ b < w.heap.size ∧ ∀ i, i < ns.length → ∃ u, w.cell? ⟨b, off + i, none⟩ = some u ∧ IsNat w (.agg #[u]) (nth ns i))
theorem IsNats.go {w w' : World} {v : Value} {ns : List Nat} (h : IsNats w v ns) (hb : Below w.heap.size w w') : IsNats w' v ns := by
  obtain ⟨a, cap, rfl, h1, h2, h4⟩ := h
  refine ⟨a, cap, rfl, h1, h2, fun hne => ?_⟩
  obtain ⟨b, off, rfl, hlt, hc⟩ := h4 hne
  refine ⟨b, off, rfl, Nat.lt_of_lt_of_le hlt hb.size, fun i hi => ?_⟩
  obtain ⟨u, hu, hn⟩ := hc i hi
  exact ⟨u, cell_keep hu hb, hn.go hb⟩
theorem IsNats.at {w : World} {b off n cap : Nat} {ns : List Nat} (h : IsNats w (.slice (some ⟨b, off, none⟩) n cap) ns) (k : Nat) (hk : k < ns.length) : ∃ a c, w.cell? ⟨b, off + k, none⟩ = some (.slice a (Wt.dg (nth ns k)).length c) ∧ IsNat w (.agg #[.slice a (Wt.dg (nth ns k)).length c]) (nth ns k) := by
  obtain ⟨a, cap', e, _, _, h4⟩ := h
  obtain ⟨b', off', rfl, _, hc⟩ := h4 (by intro h; rw [h] at hk; simp at hk)
  simp only [Value.slice.injEq, Option.some.injEq, Addr.mk.injEq] at e
  obtain ⟨⟨rfl, rfl, _⟩, _, _⟩ := e
  obtain ⟨u, hu, hn⟩ := hc k hk
  obtain ⟨a, c, e, hw, _⟩ := hn.shape
  simp only [Value.agg.injEq, Array.mk.injEq, List.cons.injEq, and_true] at e
  subst e
  exact ⟨a, c, hu, ⟨_, rfl, hw⟩⟩

/-- A number whose words lie elsewhere than a box that is written. -/
theorem IsNat.box {w : World} {u : Value} {m g : Nat} {a : Option Addr} {n c : Nat} {T : TypeId} (h : IsNat w u m) (k : Blk w g #[.slice a n c] T) {w' : World} (hg : w.grownBy w' (some g)) : IsNat w' u m := by
  obtain ⟨v, e, h⟩ := h
  exact ⟨v, e, h.other k (no_words1 a n c) hg⟩

/-- What a list of numbers comes to: the number, and the error's. -/
def foldN (r : Option Nat) : Nat := r.getD 0
def foldE (r : Option Nat) : Int := if r.isSome then 0 else 16

theorem small_of {n : Nat} (h : ¬ Great n) : (Wt.dg n).length ≤ 512 := by unfold Great at h; omega

set_option maxHeartbeats 2000000 in
theorem foldplus_some (u : Value) (a0 : Nat) (b off cap : Nat) (ns : List Nat) (w : World) (h0 : ¬ Great a0) (hns : ∀ i, i < ns.length → ¬ Great (nth ns i)) (hU : IsNat w u a0) (hV : IsNats w (.slice (some ⟨b, off, none⟩) ns.length cap) ns) :
    Calls Try.prog 52 #[u, .func (Fn.func 53) #[] #[], .slice (some ⟨b, off, none⟩) ns.length cap] w (NatE w (foldN (foldG (· + ·) a0 ns)) (foldE (foldG (· + ·) a0 ns))) := by
  have HU := Lib.hid hU
  have HV := Lib.hid hV
  have hcap : ns.length ≤ 9223372036854775807 := by obtain ⟨_, _, _, h1, h2, _⟩ := hV; omega
  obtain ⟨pa, ca, rfl, _⟩ := hU.shape
  have HNS := Lib.hid hns
  have HSN := Lib.hid (fun k h => foldG_snoc (· + ·) (nth ns k) (ns.take k) a0 |>.symm.trans (by rw [← take_nth ns k h]))
  have HNO := Lib.hid (fun k h => foldG_none (op := (· + ·)) (a := a0) (l := ns) (k := k) h)
  have HGR := Lib.hid h0
  clear hU hV hns
  have HSM := Lib.hid (show ∀ v, ¬ Great v → (Wt.dg v).length ≤ 100000 from fun v h => Nat.le_trans (small_of h) (by decide))
  generalize hml : (Wt.dg a0).length = ml at *
  have HML := Lib.hid hml
  clear hml h0
  go_enter Try.func52, Try.ntmps52
  go_upto_region 2 with fail
  obtain ⟨B, hk1, hk2, hk3, hs⟩ := blocks3 w #[.slice pa ml ca] 47 #[.slice none 0 0] 47 #[.slice pa ml ca] 47
  generalize (((w.alloc (.cells #[.slice pa ml ca] 47)).alloc (.cells #[.slice none 0 0] 47)).alloc (.cells #[.slice pa ml ca] 47)) = W at *
  have K1 := Lib.hid hk1
  have K2 := Lib.hid hk2
  have K3 := Lib.hid hk3
  have HS := Lib.hid hs
  clear hs hk1 hk2 hk3
  replace HU := Lib.hid (HU.out.go B)
  have hzW := B.size
  go_wp2_with fail
  go_loopw [10, 14] (fun _ i wr => ∃ (k v : Nat) (a : Option Addr) (c : Nat), k ≤ ns.length ∧ i = .int .i64 k ∧ foldG (· + ·) a0 (ns.take k) = some v ∧ ¬ Great v ∧ Blk wr (w.heap.size + 1 + 1) #[.slice a (Wt.dg v).length c] 47 ∧ IsNat wr (.agg #[.slice a (Wt.dg v).length c]) v ∧ Blk wr (w.heap.size + 1) #[.slice none 0 0] 47 ∧ Below w.heap.size w wr) (fun _ i _ => ns.length - (intOf i).toNat)
  case atStart => exact ⟨0, a0, pa, ca, by omega, rfl, rfl, HGR.out, by rw [HML.out]; exact K3.out, by rw [HML.out]; exact HU.out, K2.out, B⟩
  case round =>
    obtain ⟨k, v, a, c, hk, rfl, hf, hg, hk8, hv, hk6, B⟩ := hrel
    have HF := Lib.hid hf
    have HG := Lib.hid hg
    have HK8 := Lib.hid hk8
    have HVV := Lib.hid hv
    have HK6 := Lib.hid hk6
    clear hf hg hk8 hv hk6
    by_cases hlt : k < ns.length
    · obtain ⟨ax, cx, hcx, hnx⟩ := (HV.out.go B).at k hlt
      have HX := Lib.hid hnx
      have HS2 := Lib.hid (HSN.out k hlt)
      have HGX := Lib.hid (HNS.out k hlt)
      have HKL := Lib.hid hlt
      clear hnx
      generalize nth ns k = x at *
      generalize hln : (Wt.dg v).length = ln at *
      generalize hlx : (Wt.dg x).length = lx at *
      clear hln hlx
      go_upto_region 5 with fail
      obtain ⟨hb, hk, hs⟩ := blocks1 wr #[.slice ax lx cx] 47
      generalize wr.alloc (.cells #[.slice ax lx cx] 47) = W5 at *
      have K10 := Lib.hid hk
      replace HX := Lib.hid (HX.out.go hb)
      replace HK8 := Lib.hid (HK8.out.go hb)
      replace HVV := Lib.hid (HVV.out.go hb)
      replace HK6 := Lib.hid (HK6.out.go hb)
      replace B := B.trans (hb.mono B.size)
      have hzW5 := B.size
      clear hb hk hs
      have k80 : W5.cell? ⟨w.heap.size + 1 + 1, 0, none⟩ = some (.slice a ln c) := HK8.out.cell 0
      have k100 : W5.cell? ⟨wr.heap.size, 0, none⟩ = some (.slice ax lx cx) := K10.out.cell 0
      go_wp2_with fail
      refine (plus_any _ _ v x W5 (HSM.out _ HG.out) (HSM.out _ HGX.out) HVV.out HX.out).mono ?_
      rintro e w6 ⟨u6, rfl, hu, hb⟩
      obtain ⟨a6, c6, rfl, hw6, _⟩ := hu.shape
      have k8 := HK8.out.go hb
      have h80 : w6.cell? ⟨w.heap.size + 1 + 1, 0, none⟩ = some (.slice a ln c) := k8.cell 0
      have h8f := k8.free 0
      have hgs := grown_setCell w6 ⟨w.heap.size + 1 + 1, 0, none⟩ (.slice a6 (Wt.dg (v + x)).length c6)
      have HN6 := Lib.hid (hu.box k8 hgs)
      have HK86 := Lib.hid (k8.set 0 (.slice a6 (Wt.dg (v + x)).length c6))
      have HK66 := Lib.hid ((HK6.out.go hb).grown hgs (by simp))
      have B6 := (B.trans (hb.mono B.size)).setCell (p := ⟨w.heap.size + 1 + 1, 0, none⟩) (show w.heap.size ≤ w.heap.size + 1 + 1 by omega) (.slice a6 (Wt.dg (v + x)).length c6)
      have HTG := Lib.hid (fun W h => toogreat_any (.agg #[.slice a6 (Wt.dg (v + x)).length c6]) (v + x) W h)
      have HLG := Lib.hid (show decide (512 < ((Wt.dg (v + x)).length : Int)) = decide (Great (v + x)) from decide_eq_decide.2 ⟨fun h => by unfold Great; omega, fun h => by unfold Great at h; omega⟩)
      have HKX := Lib.hid (show IsNat (w6.setCell ⟨w.heap.size + 1 + 1, 0, none⟩ (.slice a6 (Wt.dg (v + x)).length c6)) (.agg #[.slice a6 (Wt.dg (v + x)).length c6]) (v + x) from HN6.out)
      rw [HF.out] at HS2
      have HS3 := Lib.hid (show foldG (· + ·) a0 (ns.take (k + 1)) = if Great (v + x) then none else some (v + x) from HS2.out.symm)
      rw [HLG.out] at HTG
      clear hu hw6 hb k8 k80 k100 HS2 HLG
      generalize hsum : v + x = sm at *
      generalize hl6 : (Wt.dg sm).length = l6 at *
      have HL6 := Lib.hid hl6
      have e80 : (w6.setCell ⟨w.heap.size + 1 + 1, 0, none⟩ (.slice a6 l6 c6)).cell? ⟨w.heap.size + 1 + 1, 0, none⟩ = some (.slice a6 l6 c6) := HK86.out.cell 0
      clear hsum hl6 hgs
      go_wp2_with fail
      generalize w6.setCell ⟨w.heap.size + 1 + 1, 0, none⟩ (.slice a6 l6 c6) = w7 at *
      refine (HTG.out w7 HKX.out).mono ?_
      rintro e w8 ⟨rfl, hb⟩
      by_cases hgr : Great sm
      · have hd : decide (Great sm) = true := decide_eq_true hgr
        have HR := Lib.hid (show foldG (· + ·) a0 ns = none from HNO.out (k + 1) (by rw [HS3.out, if_pos hgr]))
        rw [hd]
        have k6 := HK66.out.go hb
        have hf6 := k6.free 0
        have h60 : w8.cell? ⟨w.heap.size + 1, 0, none⟩ = some (.slice none 0 0) := k6.cell 0
        have B8 := B6.trans (hb.mono B6.size)
        have k60 : ∀ u, (w8.setCell ⟨w.heap.size + 1, 0, none⟩ u).cell? ⟨w.heap.size + 1, 0, none⟩ = some u := fun u => (k6.set 0 u).cell 0
        clear hb hgr hd k6
        go_wp2_with fail
        rw [HR.out]
        exact bodyPost_ret (v := .tuple #[.agg #[.slice none 0 0], I64 16]) (by simp [results, Try.results52, go_sem, k60]) rfl ⟨_, rfl, nat_zero _, B8.setCell (by show w.heap.size ≤ w.heap.size + 1; omega) _⟩
      · have hd : decide (Great sm) = false := decide_eq_false hgr
        rw [hd]
        have HK88 := Lib.hid (HK86.out.go hb)
        have HN8 := Lib.hid (HKX.out.go hb)
        have HK68 := Lib.hid (HK66.out.go hb)
        have B8 := Lib.hid (B6.trans (hb.mono B6.size))
        have HNG := Lib.hid hgr
        clear hb hgr hd B6
        go_wp2_with fail
        have h9 := HKL.out
        refine ⟨⟨k + 1, sm, a6, c6, h9, by go_num, by rw [HS3.out, if_neg HNG.out], HNG.out, by rw [HL6.out]; exact HK88.out, by rw [HL6.out]; exact HN8.out, HK68.out, B8.out⟩, by simp [intOf]; omega⟩
    · obtain rfl : k = ns.length := by omega
      have HR := Lib.hid (show foldG (· + ·) a0 ns = some v by have h := HF.out; rw [List.take_length] at h; exact h)
      have h80 : wr.cell? ⟨w.heap.size + 1 + 1, 0, none⟩ = some (.slice a (Wt.dg v).length c) := HK8.out.cell 0
      have hf6 := HK6.out.free 0
      have h60 : wr.cell? ⟨w.heap.size + 1, 0, none⟩ = some (.slice none 0 0) := HK6.out.cell 0
      have hgs := grown_setCell wr ⟨w.heap.size + 1, 0, none⟩ (.slice a (Wt.dg v).length c)
      have HN8 := Lib.hid (HVV.out.box HK6.out hgs)
      have HKE := Lib.hid ((HK6.out.set 0 (.slice a (Wt.dg v).length c)).cell 0)
      clear hgs
      generalize (Wt.dg v).length = lv at *
      go_wp2_with fail
      rw [HR.out]
      exact bodyPost_ret (v := .tuple #[.agg #[.slice a lv c], I64 0]) (by have h := HKE.out; simp at h; simp [results, Try.results52, go_sem, h]) rfl ⟨_, rfl, HN8.out, B.setCell (by show w.heap.size ≤ w.heap.size + 1; omega) _⟩

set_option maxHeartbeats 2000000 in
theorem foldtimes_some (u : Value) (a0 : Nat) (b off cap : Nat) (ns : List Nat) (w : World) (h0 : ¬ Great a0) (hns : ∀ i, i < ns.length → ¬ Great (nth ns i)) (hU : IsNat w u a0) (hV : IsNats w (.slice (some ⟨b, off, none⟩) ns.length cap) ns) :
    Calls Try.prog 52 #[u, .func (Fn.func 54) #[] #[], .slice (some ⟨b, off, none⟩) ns.length cap] w (NatE w (foldN (foldG (· * ·) a0 ns)) (foldE (foldG (· * ·) a0 ns))) := by
  have HU := Lib.hid hU
  have HV := Lib.hid hV
  have hcap : ns.length ≤ 9223372036854775807 := by obtain ⟨_, _, _, h1, h2, _⟩ := hV; omega
  obtain ⟨pa, ca, rfl, _⟩ := hU.shape
  have HNS := Lib.hid hns
  have HSN := Lib.hid (fun k h => foldG_snoc (· * ·) (nth ns k) (ns.take k) a0 |>.symm.trans (by rw [← take_nth ns k h]))
  have HNO := Lib.hid (fun k h => foldG_none (op := (· * ·)) (a := a0) (l := ns) (k := k) h)
  have HGR := Lib.hid h0
  clear hU hV hns
  have HSM := Lib.hid (show ∀ v, ¬ Great v → (Wt.dg v).length ≤ 100000 from fun v h => Nat.le_trans (small_of h) (by decide))
  generalize hml : (Wt.dg a0).length = ml at *
  have HML := Lib.hid hml
  clear hml h0
  go_enter Try.func52, Try.ntmps52
  go_upto_region 2 with fail
  obtain ⟨B, hk1, hk2, hk3, hs⟩ := blocks3 w #[.slice pa ml ca] 47 #[.slice none 0 0] 47 #[.slice pa ml ca] 47
  generalize (((w.alloc (.cells #[.slice pa ml ca] 47)).alloc (.cells #[.slice none 0 0] 47)).alloc (.cells #[.slice pa ml ca] 47)) = W at *
  have K1 := Lib.hid hk1
  have K2 := Lib.hid hk2
  have K3 := Lib.hid hk3
  have HS := Lib.hid hs
  clear hs hk1 hk2 hk3
  replace HU := Lib.hid (HU.out.go B)
  have hzW := B.size
  go_wp2_with fail
  go_loopw [10, 14] (fun _ i wr => ∃ (k v : Nat) (a : Option Addr) (c : Nat), k ≤ ns.length ∧ i = .int .i64 k ∧ foldG (· * ·) a0 (ns.take k) = some v ∧ ¬ Great v ∧ Blk wr (w.heap.size + 1 + 1) #[.slice a (Wt.dg v).length c] 47 ∧ IsNat wr (.agg #[.slice a (Wt.dg v).length c]) v ∧ Blk wr (w.heap.size + 1) #[.slice none 0 0] 47 ∧ Below w.heap.size w wr) (fun _ i _ => ns.length - (intOf i).toNat)
  case atStart => exact ⟨0, a0, pa, ca, by omega, rfl, rfl, HGR.out, by rw [HML.out]; exact K3.out, by rw [HML.out]; exact HU.out, K2.out, B⟩
  case round =>
    obtain ⟨k, v, a, c, hk, rfl, hf, hg, hk8, hv, hk6, B⟩ := hrel
    have HF := Lib.hid hf
    have HG := Lib.hid hg
    have HK8 := Lib.hid hk8
    have HVV := Lib.hid hv
    have HK6 := Lib.hid hk6
    clear hf hg hk8 hv hk6
    by_cases hlt : k < ns.length
    · obtain ⟨ax, cx, hcx, hnx⟩ := (HV.out.go B).at k hlt
      have HX := Lib.hid hnx
      have HS2 := Lib.hid (HSN.out k hlt)
      have HGX := Lib.hid (HNS.out k hlt)
      have HKL := Lib.hid hlt
      clear hnx
      generalize nth ns k = x at *
      generalize hln : (Wt.dg v).length = ln at *
      generalize hlx : (Wt.dg x).length = lx at *
      clear hln hlx
      go_upto_region 5 with fail
      obtain ⟨hb, hk, hs⟩ := blocks1 wr #[.slice ax lx cx] 47
      generalize wr.alloc (.cells #[.slice ax lx cx] 47) = W5 at *
      have K10 := Lib.hid hk
      replace HX := Lib.hid (HX.out.go hb)
      replace HK8 := Lib.hid (HK8.out.go hb)
      replace HVV := Lib.hid (HVV.out.go hb)
      replace HK6 := Lib.hid (HK6.out.go hb)
      replace B := B.trans (hb.mono B.size)
      have hzW5 := B.size
      clear hb hk hs
      have k80 : W5.cell? ⟨w.heap.size + 1 + 1, 0, none⟩ = some (.slice a ln c) := HK8.out.cell 0
      have k100 : W5.cell? ⟨wr.heap.size, 0, none⟩ = some (.slice ax lx cx) := K10.out.cell 0
      go_wp2_with fail
      refine (nattimes_any _ _ v x W5 (HSM.out _ HG.out) (HSM.out _ HGX.out) HVV.out HX.out).mono ?_
      rintro e w6 ⟨u6, rfl, hu, hb⟩
      obtain ⟨a6, c6, rfl, hw6, _⟩ := hu.shape
      have k8 := HK8.out.go hb
      have h80 : w6.cell? ⟨w.heap.size + 1 + 1, 0, none⟩ = some (.slice a ln c) := k8.cell 0
      have h8f := k8.free 0
      have hgs := grown_setCell w6 ⟨w.heap.size + 1 + 1, 0, none⟩ (.slice a6 (Wt.dg (v * x)).length c6)
      have HN6 := Lib.hid (hu.box k8 hgs)
      have HK86 := Lib.hid (k8.set 0 (.slice a6 (Wt.dg (v * x)).length c6))
      have HK66 := Lib.hid ((HK6.out.go hb).grown hgs (by simp))
      have B6 := (B.trans (hb.mono B.size)).setCell (p := ⟨w.heap.size + 1 + 1, 0, none⟩) (show w.heap.size ≤ w.heap.size + 1 + 1 by omega) (.slice a6 (Wt.dg (v * x)).length c6)
      have HTG := Lib.hid (fun W h => toogreat_any (.agg #[.slice a6 (Wt.dg (v * x)).length c6]) (v * x) W h)
      have HLG := Lib.hid (show decide (512 < ((Wt.dg (v * x)).length : Int)) = decide (Great (v * x)) from decide_eq_decide.2 ⟨fun h => by unfold Great; omega, fun h => by unfold Great at h; omega⟩)
      have HKX := Lib.hid (show IsNat (w6.setCell ⟨w.heap.size + 1 + 1, 0, none⟩ (.slice a6 (Wt.dg (v * x)).length c6)) (.agg #[.slice a6 (Wt.dg (v * x)).length c6]) (v * x) from HN6.out)
      rw [HF.out] at HS2
      have HS3 := Lib.hid (show foldG (· * ·) a0 (ns.take (k + 1)) = if Great (v * x) then none else some (v * x) from HS2.out.symm)
      rw [HLG.out] at HTG
      clear hu hw6 hb k8 k80 k100 HS2 HLG
      generalize hsum : v * x = sm at *
      generalize hl6 : (Wt.dg sm).length = l6 at *
      have HL6 := Lib.hid hl6
      have e80 : (w6.setCell ⟨w.heap.size + 1 + 1, 0, none⟩ (.slice a6 l6 c6)).cell? ⟨w.heap.size + 1 + 1, 0, none⟩ = some (.slice a6 l6 c6) := HK86.out.cell 0
      clear hsum hl6 hgs
      go_wp2_with fail
      generalize w6.setCell ⟨w.heap.size + 1 + 1, 0, none⟩ (.slice a6 l6 c6) = w7 at *
      refine (HTG.out w7 HKX.out).mono ?_
      rintro e w8 ⟨rfl, hb⟩
      by_cases hgr : Great sm
      · have hd : decide (Great sm) = true := decide_eq_true hgr
        have HR := Lib.hid (show foldG (· * ·) a0 ns = none from HNO.out (k + 1) (by rw [HS3.out, if_pos hgr]))
        rw [hd]
        have k6 := HK66.out.go hb
        have hf6 := k6.free 0
        have h60 : w8.cell? ⟨w.heap.size + 1, 0, none⟩ = some (.slice none 0 0) := k6.cell 0
        have B8 := B6.trans (hb.mono B6.size)
        have k60 : ∀ u, (w8.setCell ⟨w.heap.size + 1, 0, none⟩ u).cell? ⟨w.heap.size + 1, 0, none⟩ = some u := fun u => (k6.set 0 u).cell 0
        clear hb hgr hd k6
        go_wp2_with fail
        rw [HR.out]
        exact bodyPost_ret (v := .tuple #[.agg #[.slice none 0 0], I64 16]) (by simp [results, Try.results52, go_sem, k60]) rfl ⟨_, rfl, nat_zero _, B8.setCell (by show w.heap.size ≤ w.heap.size + 1; omega) _⟩
      · have hd : decide (Great sm) = false := decide_eq_false hgr
        rw [hd]
        have HK88 := Lib.hid (HK86.out.go hb)
        have HN8 := Lib.hid (HKX.out.go hb)
        have HK68 := Lib.hid (HK66.out.go hb)
        have B8 := Lib.hid (B6.trans (hb.mono B6.size))
        have HNG := Lib.hid hgr
        clear hb hgr hd B6
        go_wp2_with fail
        have h9 := HKL.out
        refine ⟨⟨k + 1, sm, a6, c6, h9, by go_num, by rw [HS3.out, if_neg HNG.out], HNG.out, by rw [HL6.out]; exact HK88.out, by rw [HL6.out]; exact HN8.out, HK68.out, B8.out⟩, by simp [intOf]; omega⟩
    · obtain rfl : k = ns.length := by omega
      have HR := Lib.hid (show foldG (· * ·) a0 ns = some v by have h := HF.out; rw [List.take_length] at h; exact h)
      have h80 : wr.cell? ⟨w.heap.size + 1 + 1, 0, none⟩ = some (.slice a (Wt.dg v).length c) := HK8.out.cell 0
      have hf6 := HK6.out.free 0
      have h60 : wr.cell? ⟨w.heap.size + 1, 0, none⟩ = some (.slice none 0 0) := HK6.out.cell 0
      have hgs := grown_setCell wr ⟨w.heap.size + 1, 0, none⟩ (.slice a (Wt.dg v).length c)
      have HN8 := Lib.hid (HVV.out.box HK6.out hgs)
      have HKE := Lib.hid ((HK6.out.set 0 (.slice a (Wt.dg v).length c)).cell 0)
      clear hgs
      generalize (Wt.dg v).length = lv at *
      go_wp2_with fail
      rw [HR.out]
      exact bodyPost_ret (v := .tuple #[.agg #[.slice a lv c], I64 0]) (by have h := HKE.out; simp at h; simp [results, Try.results52, go_sem, h]) rfl ⟨_, rfl, HN8.out, B.setCell (by show w.heap.size ≤ w.heap.size + 1; omega) _⟩

set_option maxHeartbeats 400000 in
theorem foldplus_none (u : Value) (a0 cap : Nat) (a : Option Addr) (w : World) (hU : IsNat w u a0) :
    Calls Try.prog 52 #[u, .func (Fn.func 53) #[] #[], .slice a 0 cap] w (NatE w a0 0) := by
  have HU := Lib.hid hU
  obtain ⟨pa, ca, rfl, _⟩ := hU.shape
  clear hU
  generalize (Wt.dg a0).length = ml at *
  go_enter Try.func52, Try.ntmps52
  go_upto_region 2 with fail
  obtain ⟨B, hk1, hk2, hk3, hs⟩ := blocks3 w #[.slice pa ml ca] 47 #[.slice none 0 0] 47 #[.slice pa ml ca] 47
  generalize (((w.alloc (.cells #[.slice pa ml ca] 47)).alloc (.cells #[.slice none 0 0] 47)).alloc (.cells #[.slice pa ml ca] 47)) = W at *
  have K1 := Lib.hid hk1
  have K2 := Lib.hid hk2
  have K3 := Lib.hid hk3
  have HS := Lib.hid hs
  clear hs hk1 hk2 hk3
  replace HU := Lib.hid (HU.out.go B)
  have hzW := B.size
  go_wp2_with fail
  refine wp_loop_rounds 1 ?_
  rw [rounds_succ]
  have h80 : W.cell? ⟨w.heap.size + 1 + 1, 0, none⟩ = some (.slice pa ml ca) := K3.out.cell 0
  have hf6 := K2.out.free 0
  have h60 : W.cell? ⟨w.heap.size + 1, 0, none⟩ = some (.slice none 0 0) := K2.out.cell 0
  have HN8 := Lib.hid (HU.out.box K2.out (grown_setCell W ⟨w.heap.size + 1, 0, none⟩ (.slice pa ml ca)))
  have HKE := Lib.hid ((K2.out.set 0 (.slice pa ml ca)).cell 0)
  go_wp2_with fail
  exact bodyPost_ret (v := .tuple #[.agg #[.slice pa ml ca], I64 0]) (by have h := HKE.out; simp at h; simp [results, Try.results52, go_sem, h]) rfl ⟨_, rfl, HN8.out, B.setCell (by show w.heap.size ≤ w.heap.size + 1; omega) _⟩

set_option maxHeartbeats 400000 in
theorem foldtimes_none (u : Value) (a0 cap : Nat) (a : Option Addr) (w : World) (hU : IsNat w u a0) :
    Calls Try.prog 52 #[u, .func (Fn.func 54) #[] #[], .slice a 0 cap] w (NatE w a0 0) := by
  have HU := Lib.hid hU
  obtain ⟨pa, ca, rfl, _⟩ := hU.shape
  clear hU
  generalize (Wt.dg a0).length = ml at *
  go_enter Try.func52, Try.ntmps52
  go_upto_region 2 with fail
  obtain ⟨B, hk1, hk2, hk3, hs⟩ := blocks3 w #[.slice pa ml ca] 47 #[.slice none 0 0] 47 #[.slice pa ml ca] 47
  generalize (((w.alloc (.cells #[.slice pa ml ca] 47)).alloc (.cells #[.slice none 0 0] 47)).alloc (.cells #[.slice pa ml ca] 47)) = W at *
  have K1 := Lib.hid hk1
  have K2 := Lib.hid hk2
  have K3 := Lib.hid hk3
  have HS := Lib.hid hs
  clear hs hk1 hk2 hk3
  replace HU := Lib.hid (HU.out.go B)
  have hzW := B.size
  go_wp2_with fail
  refine wp_loop_rounds 1 ?_
  rw [rounds_succ]
  have h80 : W.cell? ⟨w.heap.size + 1 + 1, 0, none⟩ = some (.slice pa ml ca) := K3.out.cell 0
  have hf6 := K2.out.free 0
  have h60 : W.cell? ⟨w.heap.size + 1, 0, none⟩ = some (.slice none 0 0) := K2.out.cell 0
  have HN8 := Lib.hid (HU.out.box K2.out (grown_setCell W ⟨w.heap.size + 1, 0, none⟩ (.slice pa ml ca)))
  have HKE := Lib.hid ((K2.out.set 0 (.slice pa ml ca)).cell 0)
  go_wp2_with fail
  exact bodyPost_ret (v := .tuple #[.agg #[.slice pa ml ca], I64 0]) (by have h := HKE.out; simp at h; simp [results, Try.results52, go_sem, h]) rfl ⟨_, rfl, HN8.out, B.setCell (by show w.heap.size ≤ w.heap.size + 1; omega) _⟩

theorem foldplus_any (u v : Value) (a0 : Nat) (ns : List Nat) (w : World) (h0 : ¬ Great a0) (hns : ∀ i, i < ns.length → ¬ Great (nth ns i)) (hU : IsNat w u a0) (hV : IsNats w v ns) :
    Calls Try.prog 52 #[u, .func (Fn.func 53) #[] #[], v] w (NatE w (foldN (foldG (· + ·) a0 ns)) (foldE (foldG (· + ·) a0 ns))) := by
  have hV0 := hV
  obtain ⟨a, cap, rfl, _, _, h4⟩ := hV
  cases ns with
  | nil => exact foldplus_none u a0 cap a w hU
  | cons n ns =>
    obtain ⟨b, off, rfl, _⟩ := h4 (by simp)
    exact foldplus_some u a0 b off cap _ w h0 hns hU hV0

theorem foldtimes_any (u v : Value) (a0 : Nat) (ns : List Nat) (w : World) (h0 : ¬ Great a0) (hns : ∀ i, i < ns.length → ¬ Great (nth ns i)) (hU : IsNat w u a0) (hV : IsNats w v ns) :
    Calls Try.prog 52 #[u, .func (Fn.func 54) #[] #[], v] w (NatE w (foldN (foldG (· * ·) a0 ns)) (foldE (foldG (· * ·) a0 ns))) := by
  have hV0 := hV
  obtain ⟨a, cap, rfl, _, _, h4⟩ := hV
  cases ns with
  | nil => exact foldtimes_none u a0 cap a w hU
  | cons n ns =>
    obtain ⟨b, off, rfl, _⟩ := h4 (by simp)
    exact foldtimes_some u a0 b off cap _ w h0 hns hU hV0

theorem dg_small {n : Nat} (h : n < 18446744073709551616 ^ 512) : ¬ Great n := by
  have := Wt.dg_length_le (n := n) (k := 512) h
  unfold Great; omega

theorem not_great_small {n : Nat} (h : n < 18446744073709551616) : ¬ Great n := by
  have := Wt.dg_length_le (n := n) (k := 1) (by simpa using h)
  unfold Great; omega

end Go.Proofs.Ytobhlfkmdhoncaa
