/- Texts of one seat, laid together: Mono, MonoB, MonoC, RefGridC, RefGridD, RefGridE, RefGlue, PlanA. -/
import Derived.Test.YtfefkchjhooloaaRows
import Derived.Orders
import Derived.Below
import Derived.WalkKit
import Derived.Test.YtfefkchjhooloaaGlueFillsQ1
import Derived.Test.YtfefkchjhooloaaGlueFillsQ2

/-
  A region that draws its order, told by what each operation yields: a predicate on the value and the world, which stays where no one turns what was there. Each operation is looked at once, in whatever world of a class, behind those alone that it waits for.
-/
set_option maxRecDepth 100000
namespace Go.Proofs.Ytfefkchjhooloaa
open Go.RowKit

section
variable {P : Program} {C : World → Prop} {R : World → World → Prop} {H : Nat → World → World → Prop}

/-- What is said of an operation: behind it, of which temporaries, and what (F); how it steps (softly, or as one of the numbered kinds); which kinds of others' steps leave standing what is said; and what holds ahead of it (Pre), and which kinds leave that. -/
structure Ty (C : World → Prop) (R : World → World → Prop) (H : Nat → World → World → Prop) where
  S : List Tmp
  F : List Value → World → Prop
  kind : Option Nat
  ok : Nat → Bool
  up : ∀ vs w w', C w → R w w' → F vs w → F vs w'
  upH : ∀ c, ok c = true → ∀ vs w w', C w → H c w w' → F vs w → F vs w'
  Pre : World → Prop
  okP : Nat → Bool
  preUp : ∀ w w', C w → R w w' → Pre w → Pre w'
  preH : ∀ c, okP c = true → ∀ w w', C w → H c w w' → Pre w → Pre w'

/-- Nothing is said. -/
def Ty.any : Ty C R H := ⟨[], fun _ _ => True, none, fun _ => true, fun _ _ _ _ _ _ => trivial, fun _ _ _ _ _ _ _ _ => trivial, fun _ => True, fun _ => true, fun _ _ _ _ _ => trivial, fun _ _ _ _ _ _ _ => trivial⟩
/-- Of one temporary. -/
def Ty.one (t : Tmp) (F : Value → World → Prop) (up : ∀ v w w', C w → R w w' → F v w → F v w') (upH : ∀ c v w w', C w → H c w w' → F v w → F v w') : Ty C R H :=
  ⟨[t], fun vs w => F (vs.headD undef) w, none, fun _ => true, fun _ _ _ h1 h2 h3 => up _ _ _ h1 h2 h3, fun _ _ _ _ _ h1 h2 h3 => upH _ _ _ _ h1 h2 h3, fun _ => True, fun _ => true, fun _ _ _ _ _ => trivial, fun _ _ _ _ _ _ _ => trivial⟩
/-- It is this value. -/
def Ty.val (t : Tmp) (v : Value) : Ty C R H := Ty.one t (fun u _ => u = v) (fun _ _ _ _ _ h => h) (fun _ _ _ _ _ _ h => h)
def tyAt (Ts : List (Ty C R H)) (k : Nat) : Ty C R H := Ts.getD k Ty.any
/-- The step of one operation. -/
def stepR (T : Ty C R H) (w w' : World) : Prop := match T.kind with
  | none => R w w'
  | some c => H c w w'

def depsOf (o : Oper) : List Nat := (o.after.toList.filter fun e => Region.binds .any e).map (·.on)
def dstsOf (l : List Oper) : List Tmp := l.filterMap (·.dst)

/-- What holds behind the operations that have come up. -/
structure Inv (C : World → Prop) (R : World → World → Prop) (H : Nat → World → World → Prop) (l : List Oper) (Ts : List (Ty C R H)) (a0 : Act) (listed : Array Bool) (a : Act) (w : World) : Prop where
  size : listed.size = l.length
  cls : C w
  defers : a.defers = a0.defers
  tmps : a.tmps.size = a0.tmps.size
  frame : ∀ t, (∀ (i : Nat) (o : Oper), l[i]? = some o → listed.getD i false = true → o.dst ≠ some t) → a.eval (.tmp t) = a0.eval (.tmp t)
  closed : ∀ (k : Nat) (o : Oper), l[k]? = some o → listed.getD k false = true → ∀ d, d ∈ depsOf o → listed.getD d false = true
  holds : ∀ k, listed.getD k false = true → (tyAt Ts k).F ((tyAt Ts k).S.map fun t => a.eval (.tmp t)) w
  ahead : ∀ k, k < l.length → listed.getD k false = false → (tyAt Ts k).Pre w

/-- The temporary is as it was ahead of the region, where operation k comes up: whoever has it for its own waits for k. -/
def keepsB (l : List Oper) (k : Nat) (t : Tmp) : Bool := l.all fun o => o.dst != some t || (depsOf o).contains k

/-- What is to be shown of a wanted operation. -/
def Done (P : Program) (T : Ty C R H) (Q : Exit → Act → World → Prop) (o : Oper) (a : Act) (w : World) : Prop :=
  o.wp P a w (fun a' w' => ∃ v, a' = a.put o.dst v ∧ stepR T w w' ∧ T.F (T.S.map fun t => (a.put o.dst v).eval (.tmp t)) w') Q

/-- What is to be shown of one operation. -/
def Ob (P : Program) (C : World → Prop) (R : World → World → Prop) (H : Nat → World → World → Prop) (l : List Oper) (Ts : List (Ty C R H)) (a0 : Act) (Q : Exit → Act → World → Prop) (k : Nat) (o : Oper) : Prop :=
  ∀ (a : Act) (w : World), C w → a.tmps.size = a0.tmps.size → (∀ t, keepsB l k t = true → a.eval (.tmp t) = a0.eval (.tmp t)) →
    (∀ d, (depsOf o).contains d = true → (tyAt Ts d).F ((tyAt Ts d).S.map fun t => a.eval (.tmp t)) w) → (tyAt Ts k).Pre w →
    if Region.wanted o (yielded l.toArray a.tmps) then Done P (tyAt Ts k) Q o a w
    else stepR (tyAt Ts k) w w ∧ (tyAt Ts k).F ((tyAt Ts k).S.map fun t => (a.put o.dst undef).eval (.tmp t)) w

def Obs (P : Program) (C : World → Prop) (R : World → World → Prop) (H : Nat → World → World → Prop) (l : List Oper) (Ts : List (Ty C R H)) (a0 : Act) (Q : Exit → Act → World → Prop) : Nat → List Oper → Prop
  | _, [] => True
  | k, o :: r => Ob P C R H l Ts a0 Q k o ∧ Obs P C R H l Ts a0 Q (k + 1) r

/-- What a region's types say of themselves. -/
structure Sign where
  S : List Tmp
  kind : Option Nat
  ok : Nat → Bool
  okP : Nat → Bool
def Ty.sign (T : Ty C R H) : Sign := ⟨T.S, T.kind, T.ok, T.okP⟩
def sgAt (gs : List Sign) (k : Nat) : Sign := gs.getD k ⟨[], none, fun _ => true, fun _ => true⟩

/-- Two of a region's operations, k and another one i: whoever writes what k speaks of is waited for; who steps as a kind that k's fact doesn't bear is waited for; who steps as a kind that k's premise doesn't bear waits for k. -/
def pairB (gs : List Sign) (i k : Nat) (oi ok : Oper) : Bool :=
  (match oi.dst with
    | none => true
    | some t => !(sgAt gs k).S.contains t || (depsOf ok).contains i) &&
  (match (sgAt gs i).kind with
    | none => true
    | some c => ((sgAt gs k).ok c || (depsOf ok).contains i) && ((sgAt gs k).okP c || (depsOf oi).contains k))

/-- The region's form: each waits for those alone that stand ahead of it. -/
def tidyB (l : List Oper) (gs : List Sign) : Bool :=
  (List.range l.length).all fun k => match l[k]? with
    | none => true
    | some o => (depsOf o).all (fun d => decide (d < k)) &&
      (List.range l.length).all fun i => i == k || match l[i]? with
        | none => true
        | some oi => pairB gs i k oi o

theorem eval_put_ne {a : Act} {dst : Option Tmp} {v : Value} {t : Tmp} (h : dst ≠ some t) : (a.put dst v).eval (.tmp t) = a.eval (.tmp t) :=
  Act.eval_put fun d hd e => by
    have : t = d := by injection e
    exact h (by rw [hd, this])

theorem eval_put_eq {a : Act} {t : Tmp} {v : Value} (h : t < a.tmps.size) : (a.put (some t) v).eval (.tmp t) = v := by
  simp [Act.eval, Act.put, h]

theorem getD_set_self {listed : Array Bool} {i : Nat} (h : i < listed.size) : (listed.setIfInBounds i true).getD i false = true := by simp [h]

theorem tyAt_sign (Ts : List (Ty C R H)) (k : Nat) : (tyAt Ts k).sign = sgAt (Ts.map Ty.sign) k := by
  unfold tyAt sgAt
  rw [List.getD_eq_getElem?_getD, List.getD_eq_getElem?_getD, List.getElem?_map]
  cases Ts[k]? <;> rfl

theorem tidy_deps {l : List Oper} {gs : List Sign} (h : tidyB l gs = true) {k : Nat} {o : Oper} (hk : l[k]? = some o) : ∀ d, d ∈ depsOf o → d < k := by
  intro d hd
  have hT := List.all_eq_true.1 h k (List.mem_range.2 (List.getElem?_eq_some_iff.1 hk).1)
  rw [hk] at hT
  simp only [Bool.and_eq_true] at hT
  exact of_decide_eq_true (List.all_eq_true.1 hT.1 d hd)

theorem tidy_pair {l : List Oper} {gs : List Sign} (h : tidyB l gs = true) {i k : Nat} {oi ok : Oper} (hi : l[i]? = some oi) (hk : l[k]? = some ok) (hne : i ≠ k) : pairB gs i k oi ok = true := by
  have hT := List.all_eq_true.1 h k (List.mem_range.2 (List.getElem?_eq_some_iff.1 hk).1)
  rw [hk] at hT
  simp only [Bool.and_eq_true] at hT
  have hT2 := List.all_eq_true.1 hT.2 i (List.mem_range.2 (List.getElem?_eq_some_iff.1 hi).1)
  rw [hi] at hT2
  simpa [hne] using hT2

theorem Obs.at {l : List Oper} {Ts : List (Ty C R H)} {a0 : Act} {Q : Exit → Act → World → Prop} : ∀ {r : List Oper} {n k : Nat} {o : Oper}, Obs P C R H l Ts a0 Q n r → r[k]? = some o → Ob P C R H l Ts a0 Q (n + k) o
  | [], _, _, _, _, h => by simp at h
  | x :: r, n, 0, o, h, e => by simp at e; subst e; exact h.1
  | x :: r, n, k + 1, o, h, e => by
    have := Obs.at (r := r) (n := n + 1) (k := k) h.2 (by simpa using e)
    rwa [show n + 1 + k = n + (k + 1) from by omega] at this

/-- One operation carried out keeps what holds. -/
theorem Inv.step {l : List Oper} {Ts : List (Ty C R H)} {a0 : Act} {Q : Exit → Act → World → Prop} (hC : ∀ w w', C w → R w w' → C w') (hCH : ∀ c w w', C w → H c w w' → C w') (ht : tidyB l (Ts.map Ty.sign) = true)
    {listed : Array Bool} {a : Act} {w : World} (h : Inv C R H l Ts a0 listed a w) {i : Nat} {o : Oper} (hi : l[i]? = some o) (hr : i ∈ Region.ready .any l.toArray listed) (hob : Ob P C R H l Ts a0 Q i o) :
    wpOp P l.toArray Q i (fun a' w' => Inv C R H l Ts a0 (listed.setIfInBounds i true) a' w') a w := by
  obtain ⟨hun, o', ho', hall⟩ := mem_ready.1 hr
  have hio : l.toArray[i]? = some o := by simpa using hi
  obtain rfl : o' = o := by rw [hio] at ho'; exact (Option.some.inj ho').symm
  have hlt : i < l.length := (List.getElem?_eq_some_iff.1 hi).1
  have hdeps : ∀ d, d ∈ depsOf o' → listed.getD d false = true := by
    intro d hd
    simp only [depsOf, List.mem_map, List.mem_filter] at hd
    obtain ⟨e, ⟨he, hb⟩, rfl⟩ := hd
    exact hall e (by simpa using he) hb
  have hils : i < listed.size := by rw [h.size]; exact hlt
  have huni : listed.getD i false = false := by simpa [hils] using hun
  have hstep : ∀ w', stepR (tyAt Ts i) w w' → C w' := by
    intro w' hs
    unfold stepR at hs
    split at hs
    · exact hC _ _ h.cls hs
    · exact hCH _ _ _ h.cls hs
  have hup : ∀ w', stepR (tyAt Ts i) w w' → ∀ k ok, l[k]? = some ok → listed.getD k false = true → i ≠ k → ∀ vs, (tyAt Ts k).F vs w → (tyAt Ts k).F vs w' := by
    intro w' hs k ok hk hlk hik vs hF
    unfold stepR at hs
    split at hs
    · exact (tyAt Ts k).up _ _ _ h.cls hs hF
    · rename_i c hc
      refine (tyAt Ts k).upH c ?_ _ _ _ h.cls hs hF
      have hp := tidy_pair ht hi hk hik
      unfold pairB at hp
      rw [← tyAt_sign, ← tyAt_sign] at hp
      simp only [Ty.sign, hc, Bool.and_eq_true, Bool.or_eq_true] at hp
      rcases hp.2.1 with h1 | h1
      · exact h1
      · have := h.closed k ok hk hlk i (by simpa using h1)
        rw [huni] at this; cases this
  have hpre : ∀ w', stepR (tyAt Ts i) w w' → ∀ k ok, l[k]? = some ok → listed.getD k false = false → i ≠ k → (tyAt Ts k).Pre w → (tyAt Ts k).Pre w' := by
    intro w' hs k ok hk hlk hik hF
    unfold stepR at hs
    split at hs
    · exact (tyAt Ts k).preUp _ _ h.cls hs hF
    · rename_i c hc
      refine (tyAt Ts k).preH c ?_ _ _ h.cls hs hF
      have hp := tidy_pair ht hi hk hik
      unfold pairB at hp
      rw [← tyAt_sign, ← tyAt_sign] at hp
      simp only [Ty.sign, hc, Bool.and_eq_true, Bool.or_eq_true] at hp
      rcases hp.2.2 with h1 | h1
      · exact h1
      · have := hdeps k (by simpa using h1)
        rw [hlk] at this; cases this
  have hput : ∀ (v : Value) (w' : World), stepR (tyAt Ts i) w w' → (tyAt Ts i).F ((tyAt Ts i).S.map fun t => (a.put o'.dst v).eval (.tmp t)) w' → Inv C R H l Ts a0 (listed.setIfInBounds i true) (a.put o'.dst v) w' := by
    intro v w' hR hF
    refine ⟨by simpa using h.size, hstep _ hR, ?_, ?_, ?_, ?_, ?_, ?_⟩
    · cases o'.dst <;> exact h.defers
    · rw [← h.tmps]; cases o'.dst <;> simp [Act.put]
    · intro t hnt
      have hit : o'.dst ≠ some t := hnt i o' hi (getD_set_self hils)
      rw [eval_put_ne hit]
      exact h.frame t fun j oj hj hlj => hnt j oj hj (getD_set_true hlj)
    · intro k ok hk hlk d hd
      by_cases hki : i = k
      · subst hki
        obtain rfl : ok = o' := by rw [hi] at hk; exact (Option.some.inj hk).symm
        exact getD_set_true (hdeps d hd)
      · rw [getD_set_ne false hki] at hlk
        exact getD_set_true (h.closed k ok hk hlk d hd)
    · intro k hlk
      by_cases hki : i = k
      · subst hki; exact hF
      · rw [getD_set_ne false hki] at hlk
        have hold := h.holds k hlk
        have hkl : k < l.length := by
          rcases Nat.lt_or_ge k l.length with h' | h'
          · exact h'
          · rw [← h.size] at h'; simp [Array.getElem?_eq_none h'] at hlk
        have e : ((tyAt Ts k).S.map fun t => (a.put o'.dst v).eval (.tmp t)) = (tyAt Ts k).S.map fun t => a.eval (.tmp t) := by
          refine List.map_congr_left fun t htS => ?_
          refine eval_put_ne fun hd => ?_
          have hp := tidy_pair ht hi (List.getElem?_eq_getElem hkl) hki
          unfold pairB at hp
          rw [← tyAt_sign] at hp
          simp only [Ty.sign, hd, Bool.and_eq_true, Bool.or_eq_true] at hp
          have hc : (tyAt Ts k).S.contains t = true := List.contains_iff_mem.2 htS
          rw [hc] at hp
          have h2 := h.closed k _ (List.getElem?_eq_getElem hkl) hlk i (by simpa using hp.1)
          rw [huni] at h2; cases h2
        rw [e]
        exact hup _ hR k _ (List.getElem?_eq_getElem hkl) hlk hki _ hold
    · intro k hkl hlk
      by_cases hki : i = k
      · subst hki
        rw [getD_set_self hils] at hlk; cases hlk
      · rw [getD_set_ne false hki] at hlk
        exact hpre _ hR k _ (List.getElem?_eq_getElem hkl) hlk hki (h.ahead k hkl hlk)
  unfold wpOp
  simp only [hio]
  have hO := hob a w h.cls h.tmps (fun t ht' => h.frame t fun j oj hj hlj => by
    have h1 := List.all_eq_true.1 ht' oj (List.mem_of_getElem? hj)
    simp only [Bool.or_eq_true, bne_iff_ne] at h1
    rcases h1 with h1 | h1
    · exact h1
    · have := h.closed j oj hj hlj i (by simpa using h1)
      rw [huni] at this; cases this) (fun d hd => h.holds d (hdeps d (by simpa using hd))) (h.ahead i hlt huni)
  by_cases hw : Region.wanted o' (yielded l.toArray a.tmps) = true
  · rw [if_pos hw] at hO ⊢
    refine .inl (Oper.wp_mono (fun a' w' hx => ?_) hO)
    obtain ⟨v, rfl, hR, hF⟩ := hx
    exact hput v w' hR hF
  · rw [if_neg hw] at hO ⊢
    exact hput undef w hO.1 hO.2

theorem count_pos {listed : Array Bool} {i : Nat} (h : i < listed.size) (hu : listed.getD i false = false) : 0 < listed.toList.count false := by
  refine List.count_pos_iff.2 ?_
  have : listed[i]? = some (listed[i]) := Array.getElem?_eq_getElem h
  simp [this] at hu
  rw [← hu]
  exact Array.getElem_mem_toList h

theorem count_set {listed : Array Bool} {i : Nat} (h : i < listed.size) (hu : listed.getD i false = false) : (listed.setIfInBounds i true).toList.count false + 1 = listed.toList.count false := by
  have hp := count_pos h hu
  have : listed[i]? = some (listed[i]) := Array.getElem?_eq_getElem h
  simp [this] at hu
  have hl : i < listed.toList.length := by simpa using h
  have e : listed.toList[i]'hl = false := by simpa using hu
  rw [Array.toList_setIfInBounds, List.count_set hl, e]
  have h1 : (false == false) = true := rfl
  have h2 : (true == false) = false := rfl
  rw [h1, h2]
  rw [if_pos rfl, if_neg (by decide)]
  omega

theorem Inv.wpAny {l : List Oper} {Ts : List (Ty C R H)} {a0 : Act} {Q : Exit → Act → World → Prop} (hC : ∀ w w', C w → R w w' → C w') (hCH : ∀ c w w', C w → H c w w' → C w') (ht : tidyB l (Ts.map Ty.sign) = true) (hobs : Obs P C R H l Ts a0 Q 0 l)
    (hend : ∀ (a : Act) (w : World), C w → a.defers = a0.defers → a.tmps.size = a0.tmps.size → (∀ t, (dstsOf l).contains t = false → a.eval (.tmp t) = a0.eval (.tmp t)) →
      (∀ k, k < l.length → (tyAt Ts k).F ((tyAt Ts k).S.map fun t => a.eval (.tmp t)) w) → Q .normal a w) :
    ∀ (fuel : Nat) (listed : Array Bool) (a : Act) (w : World), listed.toList.count false ≤ fuel → Inv C R H l Ts a0 listed a w → Go.wpAny P .any l.toArray Q fuel listed a w := by
  have hdone : ∀ (listed : Array Bool) (a : Act) (w : World), Inv C R H l Ts a0 listed a w → Region.ready .any l.toArray listed = [] → Q .normal a w := by
    intro listed a w h hr
    have hall : ∀ n k, k < n → k < l.length → listed.getD k false = true := by
      intro n
      induction n with
      | zero => intro k hk _; omega
      | succ n ih =>
        intro k hk hkl
        by_cases hkn : k < n
        · exact ih k hkn hkl
        · obtain rfl : k = n := by omega
          cases hb : listed.getD k false with
          | true => rfl
          | false =>
            exfalso
            have hin : k ∈ Region.ready .any l.toArray listed := by
              rw [mem_ready]
              have hk' : k < listed.size := by rw [h.size]; exact hkl
              refine ⟨by simpa [hk'] using hb, l[k], by simp [hkl], fun e he hbd => ?_⟩
              have hd : e.on ∈ depsOf l[k] := List.mem_map.2 ⟨e, List.mem_filter.2 ⟨by simpa using he, hbd⟩, rfl⟩
              have := tidy_deps ht (List.getElem?_eq_getElem hkl) _ hd
              exact ih _ this (by omega)
            rw [hr] at hin
            cases hin
    exact hend a w h.cls h.defers h.tmps (fun t ht' => h.frame t fun j oj hj _ e => by
      have h1 : t ∈ dstsOf l := List.mem_filterMap.2 ⟨oj, List.mem_of_getElem? hj, e⟩
      have h2 : (dstsOf l).contains t = true := List.contains_iff_mem.2 h1
      rw [ht'] at h2; cases h2) (fun k hk => h.holds k (hall (k + 1) k (by omega) hk))
  intro fuel
  induction fuel with
  | zero =>
    intro listed a w hc h
    have hr : Region.ready .any l.toArray listed = [] := by
      rw [List.eq_nil_iff_forall_not_mem]
      intro i hi
      have hu := (mem_ready.1 hi).1
      obtain ⟨_, o, ho, _⟩ := mem_ready.1 hi
      have hlt : i < listed.size := by rw [h.size]; have := (Array.getElem?_eq_some_iff.1 ho).1; simpa using this
      have := count_pos hlt (by simpa [hlt] using hu)
      omega
    exact ⟨hr, hdone listed a w h hr⟩
  | succ fuel ih =>
    intro listed a w hc h
    refine ⟨fun hr => hdone listed a w h hr, fun i hi => ?_⟩
    have hu := (mem_ready.1 hi).1
    obtain ⟨_, o, ho, _⟩ := mem_ready.1 hi
    have hlt : i < l.length := by have := (Array.getElem?_eq_some_iff.1 ho).1; simpa using this
    have hio : l[i]? = some o := by simpa using ho
    have hob := Obs.at hobs hio
    rw [Nat.zero_add] at hob
    have hl' : i < listed.size := by rw [h.size]; exact hlt
    refine wpOp_mono (fun a' w' h' => ih _ a' w' ?_ h') (h.step hC hCH ht hio hi hob)
    have := count_set hl' (by simpa [hl'] using hu)
    omega

/-- What holds ahead of all. -/
def allPre : List (Ty C R H) → World → Prop
  | [], _ => True
  | T :: r, w => T.Pre w ∧ allPre r w
theorem allPre.at : ∀ {Ts : List (Ty C R H)} {w : World}, allPre Ts w → ∀ k, (tyAt Ts k).Pre w
  | [], _, _, _ => trivial
  | _ :: _, _, h, 0 => h.1
  | _ :: r, _, h, k + 1 => allPre.at (Ts := r) h.2 k

/-- THE RULE: a region that draws its order. -/
theorem wp_region_mono {id : Nat} {l : List Oper} {a : Act} {w : World} {Q : Exit → Act → World → Prop} (Ts : List (Ty C R H)) (hm : P.follows .mixedOrders = true) (hC : ∀ w w', C w → R w w' → C w') (hCH : ∀ c w w', C w → H c w w' → C w')
    (h0 : C w.drew) (hp : allPre Ts w.drew) (ht : tidyB l (Ts.map Ty.sign) = true) (hobs : Obs P C R H l Ts a Q 0 l)
    (hend : ∀ (a' : Act) (w' : World), C w' → a'.defers = a.defers → a'.tmps.size = a.tmps.size → (∀ t, (dstsOf l).contains t = false → a'.eval (.tmp t) = a.eval (.tmp t)) →
      (∀ k, k < l.length → (tyAt Ts k).F ((tyAt Ts k).S.map fun t => a'.eval (.tmp t)) w') → Q .normal a' w') :
    (Code.region id l.toArray true).wp P Q a w := by
  refine wp_region_any hm (Inv.wpAny hC hCH ht hobs hend _ _ _ _ ?_ ⟨by simp, h0, rfl, rfl, fun t _ => rfl, ?_, ?_, fun k _ _ => hp.at k⟩)
  · simp
  · intro k o hk hl
    rcases Nat.lt_or_ge k l.length with h | h
    · simp [h] at hl
    · simp [h] at hl
  · intro k hl
    rcases Nat.lt_or_ge k l.length with h | h
    · simp [h] at hl
    · simp [h] at hl

/-! ### The frame behind -/

theorem act_ext {a b : Act} (hd : a.defers = b.defers) (hs : a.tmps.size = b.tmps.size) (h : ∀ t, a.eval (.tmp t) = b.eval (.tmp t)) : a = b := by
  obtain ⟨x, d⟩ := a
  obtain ⟨y, e⟩ := b
  simp only at hd hs
  subst hd
  have : x = y := by
    apply Array.ext hs
    intro i h1 h2
    have := h i
    simpa [Act.eval, h1, h2] using this
  rw [this]

def putAll (a' : Act) : List Tmp → Act → Act
  | [], a => a
  | t :: r, a => putAll a' r (a.put (some t) (a'.eval (.tmp t)))

theorem putAll_size (a' : Act) : ∀ (ts : List Tmp) (a : Act), (putAll a' ts a).tmps.size = a.tmps.size
  | [], _ => rfl
  | t :: r, a => by unfold putAll; rw [putAll_size a' r]; simp [Act.put]
theorem putAll_defers (a' : Act) : ∀ (ts : List Tmp) (a : Act), (putAll a' ts a).defers = a.defers
  | [], _ => rfl
  | t :: r, a => by unfold putAll; rw [putAll_defers a' r]; rfl
theorem putAll_eval (a' : Act) : ∀ (ts : List Tmp) (a : Act) (t : Tmp), t < a.tmps.size → (a.eval (.tmp t) = a'.eval (.tmp t) ∨ t ∈ ts) → (putAll a' ts a).eval (.tmp t) = a'.eval (.tmp t)
  | [], a, t, _, h => by
    rcases h with h | h
    · exact h
    · cases h
  | x :: r, a, t, hl, h => by
    unfold putAll
    refine putAll_eval a' r _ t (by simpa [Act.put] using hl) ?_
    by_cases hx : x = t
    · subst hx; left; exact eval_put_eq hl
    · rcases h with h | h
      · left; rw [eval_put_ne (by simpa using hx)]; exact h
      · right
        rcases List.mem_cons.1 h with h1 | h1
        · exact absurd h1.symm hx
        · exact h1

/-- The frame behind a region: what was there, and what its operations left in their temporaries. -/
theorem act_puts {l : List Oper} {a a' : Act} (hdef : a'.defers = a.defers) (hsz : a'.tmps.size = a.tmps.size) (hfr : ∀ t, (dstsOf l).contains t = false → a'.eval (.tmp t) = a.eval (.tmp t)) : a' = putAll a' (dstsOf l) a := by
  refine act_ext (by rw [putAll_defers, hdef]) (by rw [putAll_size, hsz]) fun t => ?_
  by_cases hl : t < a.tmps.size
  · symm
    refine putAll_eval a' _ a t hl ?_
    by_cases hc : (dstsOf l).contains t = true
    · right; simpa using hc
    · left; exact (hfr t (by simpa using hc)).symm
  · have h1 : a'.eval (.tmp t) = undef := by simp [Act.eval, hsz, hl]
    have h2 : (putAll a' (dstsOf l) a).eval (.tmp t) = undef := by simp [Act.eval, putAll_size, hl]
    rw [h1, h2]

/-! ### One operation -/

theorem wanted_none {o : Oper} {y : Nat → Option Bool} (h : o.guard = none) : Region.wanted o y = true := by simp [Region.wanted, h]
/-- What enters. -/
theorem enter_of {f : FuncId} {fn : Func} {c : Code} (hf : P.funcs[f]? = some fn) (hname : (fn.name == "runtime.NumGoroutine") = false) (hb : fn.body = some c) (args : Array Value) (w : World) :
    (callFunc f args).run P w = .ok (.enter f args) w := by
  have h1 : fn.name ≠ "runtime.NumGoroutine" := by simpa using hname
  simp [callFunc, hf, h1, hb, mark]

variable {a : Act} {w : World} {o : Oper} {Q : Exit → Act → World → Prop}

/-- An operation that yields a value, in its own temporary. -/
theorem ob_value {T : Ty C R H} {t : Tmp} (v : Value) (w1 : World) (hS : T.S = [t]) (hh : T.kind = none) (hd : o.dst = some t) (hlt : t < a.tmps.size)
    (hrun : (execOp a.eval o).run P w = .ok (.value v) w1) (hR : R w w1) (hF : T.F [v] w1) : Done P T Q o a w := by
  unfold Done Oper.wp
  rw [hrun]
  refine ⟨v, rfl, by unfold stepR; rw [hh]; exact hR, ?_⟩
  rw [hS, List.map_cons, List.map_nil, hd, eval_put_eq hlt]
  exact hF

/-- A call. -/
theorem ob_call {T : Ty C R H} {t : Tmp} {f : FuncId} {args : Array Operand} {ats : Array TypeId} (hS : T.S = [t]) (hh : T.kind = none) (hd : o.dst = some t) (hlt : t < a.tmps.size)
    (hop : o.op = .call { callee := .value (.func f), args := args, argTypes := ats }) (hen : ∀ (vs : Array Value) (w : World), (callFunc f vs).run P w = .ok (.enter f vs) w)
    (hc : Calls P f (args.toList.map a.eval).toArray w fun e w' => ∃ v, e = .returned v ∧ T.F [v] w' ∧ R w w') : Done P T Q o a w := by
  have e0 : args.map a.eval = (args.toList.map a.eval).toArray := by rw [← Array.toList_map, Array.toArray_toList]
  have hrun : (execOp a.eval o).run P w = .ok (.enter f (args.toList.map a.eval).toArray) w := by
    rw [← e0]
    simp [execOp, hop, resolve, invoke, Act.eval, Deferred.ofValue, hen]
  unfold Done Oper.wp
  rw [hrun]
  refine hc.mono ?_
  rintro e w' ⟨v, rfl, hF, hR⟩
  refine ⟨v, rfl, by unfold stepR; rw [hh]; exact hR, ?_⟩
  rw [hS, List.map_cons, List.map_nil, hd, eval_put_eq hlt]
  exact hF

/-- A copy. -/
theorem ob_copy {T : Ty C R H} {t : Tmp} {x : Operand} (hS : T.S = [t]) (hh : T.kind = none) (hd : o.dst = some t) (hlt : t < a.tmps.size) (hop : o.op = .move x ∨ o.op = .assign x) (hR : R w w) (hF : T.F [a.eval x] w) : Done P T Q o a w := by
  refine ob_value (a.eval x) w hS hh hd hlt ?_ hR hF
  rcases hop with h | h <;> simp [execOp, h]

/-- A load. -/
theorem ob_load {T : Ty C R H} {t : Tmp} {x : Operand} {E : TypeId} {p : Value} (v : Value) (hS : T.S = [t]) (hh : T.kind = none) (hd : o.dst = some t) (hlt : t < a.tmps.size) (hop : o.op = .load E x) (hx : a.eval x = p)
    (hrun : (Instr.loadAt E p).run P w = .ok v w) (hR : R w w) (hF : T.F [v] w) : Done P T Q o a w := by
  refine ob_value v w hS hh hd hlt ?_ hR hF
  simp [execOp, hop, hx, hrun]

/-- A part of a tuple. -/
theorem ob_extract {T : Ty C R H} {t : Tmp} {x : Operand} {i : Nat} {p : Value} (v : Value) (hS : T.S = [t]) (hh : T.kind = none) (hd : o.dst = some t) (hlt : t < a.tmps.size) (hop : o.op = .extract x i) (hx : a.eval x = p)
    (hrun : ∀ w, (Instr.extract p i).run P w = .ok v w) (hR : R w w) (hF : T.F [v] w) : Done P T Q o a w := by
  refine ob_value v w hS hh hd hlt ?_ hR hF
  simp [execOp, hop, hx, hrun]

/-- An operator of two. -/
theorem ob_bin {T : Ty C R H} {t : Tmp} {x y : Operand} {op : BinOp} {E E' : TypeId} {p q : Value} (v : Value) (hS : T.S = [t]) (hh : T.kind = none) (hd : o.dst = some t) (hlt : t < a.tmps.size) (hop : o.op = .binOp op E x y E') (hx : a.eval x = p) (hy : a.eval y = q)
    (hrun : ∀ w, (do eqGuard op E x y p q; binOp op E p q : Sem Value).run P w = .ok v w) (hR : R w w) (hF : T.F [v] w) : Done P T Q o a w := by
  refine ob_value v w hS hh hd hlt ?_ hR hF
  have := hrun w
  simp only [execOp, hop, hx, hy]
  rw [Sem.run_bind, this]
  rfl

end

end Go.Proofs.Ytfefkchjhooloaa

/-
  What is said of operations in a region that draws its order: slices of bytes, rows, boxes.
-/
set_option maxRecDepth 100000
namespace Go.Proofs.Ytfefkchjhooloaa
open Go.RowKit

/-- The worlds behind W in which of what was there nothing has turned. -/
abbrev Cb (W : World) : World → Prop := fun w => Below W.heap.size W w
/-- A step that turns nothing of what is there. -/
abbrev Rb : World → World → Prop := fun w w' => Below w.heap.size w w'
/-- No bytes are among them. -/
def NoU8 (vs : Array Value) : Prop := ∀ (i n : Nat), vs[i]? ≠ some (U8 n)
/-- A step that writes a box which was made behind W, and holds no bytes. -/
def Hb (W : World) (w w' : World) : Prop := ∃ g vs vs' T, W.heap.size ≤ g ∧ Blk w g vs T ∧ NoU8 vs ∧ w.grownBy w' (some g) ∧ Blk w' g vs' T ∧ vs'.size = vs.size ∧ NoU8 vs'

theorem hC_b (W : World) : ∀ w w', Cb W w → Rb w w' → Cb W w' := fun _ _ h h' => h.trans (h'.mono h.size)
theorem hCH_b (W : World) : ∀ (_ : Nat) w w', Cb W w → Hb W w w' → Cb W w' := fun _ _ _ h ⟨_, _, _, _, hg, _, _, hw, _⟩ => below_grown h hw h.size hg
theorem drew_b (W : World) : Cb W W.drew := (Below.refl _ _).drew

variable {W : World}

end Go.Proofs.Ytfefkchjhooloaa

/-
  What the plain operations of a region answer: comparisons, loads, lengths.
-/
set_option maxRecDepth 100000
namespace Go.Proofs.Ytfefkchjhooloaa
open Go.RowKit

theorem load_bytes {w : World} {g k : Nat} {v : Value} (h : w.cell? ⟨g, k, none⟩ = some v) : (Instr.loadAt 25 (.pointer (some ⟨g, k, none⟩))).run Try.prog w = .ok v w := by
  go_simp
theorem load_int {w : World} {g k : Nat} {v : Value} (h : w.cell? ⟨g, k, none⟩ = some v) : (Instr.loadAt 3 (.pointer (some ⟨g, k, none⟩))).run Try.prog w = .ok v w := by
  go_simp

section
variable {P : Program} {C : World → Prop} {R : World → World → Prop} {H : Nat → World → World → Prop} {a : Act} {w : World} {o : Oper} {Q : Exit → Act → World → Prop}
/-- A field's address. -/
theorem ob_field {T : Ty C R H} {t : Tmp} {x : Operand} {E i : Nat} {p : Value} (v : Value) (hS : T.S = [t]) (hh : T.kind = none) (hd : o.dst = some t) (hlt : t < a.tmps.size) (hop : o.op = .fieldAddr E x i) (hx : a.eval x = p)
    (hrun : ∀ w, (Instr.fieldAt E p i).run P w = .ok v w) (hR : R w w) (hF : T.F [v] w) : Done P T Q o a w := by
  refine ob_value v w hS hh hd hlt ?_ hR hF
  simp [execOp, hop, hx, hrun]
/-- An element's address. -/
theorem ob_index {T : Ty C R H} {t : Tmp} {x y : Operand} {E : TypeId} {p q : Value} (v : Value) (hS : T.S = [t]) (hh : T.kind = none) (hd : o.dst = some t) (hlt : t < a.tmps.size) (hop : o.op = .indexAddr E x y) (hx : a.eval x = p) (hy : a.eval y = q)
    (hrun : (Instr.indexAt E p q).run P w = .ok v w) (hR : R w w) (hF : T.F [v] w) : Done P T Q o a w := by
  refine ob_value v w hS hh hd hlt ?_ hR hF
  simp [execOp, hop, hx, hy, hrun]
/-- A slice of a slice, up to a place. -/
theorem ob_sliceTo {T : Ty C R H} {t : Tmp} {x y : Operand} {E : TypeId} {p q : Value} (v : Value) (hS : T.S = [t]) (hh : T.kind = none) (hd : o.dst = some t) (hlt : t < a.tmps.size) (hop : o.op = .slice E x none (some y) none) (hx : a.eval x = p) (hy : a.eval y = q)
    (hrun : (Instr.sliceAt E p none (some q) none).run P w = .ok v w) (hR : R w w) (hF : T.F [v] w) : Done P T Q o a w := by
  refine ob_value v w hS hh hd hlt ?_ hR hF
  simp [execOp, hop, hx, hy, hrun]
end

end Go.Proofs.Ytfefkchjhooloaa

/-
  The document's answer for grids (wellspringref07), in the program: 'Rank', 'Turned', 'Mul', 'Of', 'Same'.
-/
set_option maxRecDepth 100000
namespace Go.Proofs.Ytfefkchjhooloaa
open Go.RowKit

namespace Ro
/-- Rows without data. -/
def bare (ll : List (List Nat)) : List Rw := ll.map fun l => (l, [])
end Ro

end Go.Proofs.Ytfefkchjhooloaa

/-
  The document's answer for grids (wellspringref07), in the program: 'Of', 'Same', 'Turned'.
-/
set_option maxRecDepth 100000
namespace Go.Proofs.Ytfefkchjhooloaa
open Go.RowKit

/-- A row of whatever slice of slices, at a world behind; its address. -/
theorem IsRows.row {w w' : World} {a : Option Addr} {n c : Nat} {ll : List (List Nat)} (h : IsRows w (.slice a n c) ll) (hb : Below w.heap.size w w') (k : Nat) (hk : k < ll.length) : ∃ b off u, a = some ⟨b, off, none⟩ ∧ w'.cell? ⟨b, off + k, none⟩ = some u ∧ Bytes w' u (rowAt ll k) := by
  have h0 := h
  obtain ⟨a', cap, e, _, _, h4⟩ := h
  simp only [Value.slice.injEq] at e
  obtain ⟨rfl, rfl, rfl⟩ := e
  obtain ⟨b, off, rfl, _, _⟩ := h4 (by intro e; rw [e] at hk; simp at hk)
  obtain ⟨u, hu, hB⟩ := h0.at hb k hk
  exact ⟨b, off, u, rfl, hu, hB.go hb⟩
theorem IsRows.shape {w : World} {v : Value} {ll : List (List Nat)} (h : IsRows w v ll) : ∃ a c, v = .slice a ll.length c := by obtain ⟨a, cap, rfl, _⟩ := h; exact ⟨a, cap, rfl⟩
end Go.Proofs.Ytfefkchjhooloaa

/-
  The document's answer for grids (wellspringref07), in the program: 'Turned', 'Mul'.
-/
set_option maxRecDepth 100000
namespace Go.Proofs.Ytfefkchjhooloaa
open Go.RowKit

/-- Rows of bytes. -/
def OctM (ll : List (List Nat)) : Prop := ∀ r ∈ ll, ∀ x, x ∈ r → x < 256
theorem IsRows.oct {w : World} {v : Value} {ll : List (List Nat)} (h : IsRows w v ll) : OctM ll := by
  obtain ⟨a, cap, rfl, _, _, h4⟩ := h
  intro r hr x hx
  obtain ⟨i, hi, rfl⟩ := List.mem_iff_getElem.1 hr
  obtain ⟨b, off, _, _, hc⟩ := h4 (by intro e; rw [e] at hi; simp at hi)
  obtain ⟨u, _, hB⟩ := hc i hi
  rw [rowAt_eq ll i hi] at hB
  exact hB.lt x hx
end Go.Proofs.Ytfefkchjhooloaa

/-
  The document's answer for objects that are joined (wellspringref12), in the program: 'All'.
-/
set_option maxRecDepth 100000
namespace Go.Proofs.Ytfefkchjhooloaa
open Go.RowKit

/-- One behind the other. -/
def joinL (ll : List (List Nat)) : List Nat := ll.flatten
def allE (l s k : Int) (ll : List (List Nat)) : Int := if checkE l s k = 0 then (if (ll.length : Int) = k then (if ∀ i, i < ll.length → ((rowAt ll i).length : Int) = s then 0 else 4) else 5) else checkE l s k
def allL (l s k : Int) (ll : List (List Nat)) : List Nat := if allE l s k ll = 0 then joinL ll else []
theorem all_of {l s k : Int} {ll : List (List Nat)} : (checkE l s k ≠ 0 → allE l s k ll = checkE l s k ∧ allL l s k ll = []) ∧ (checkE l s k = 0 → (ll.length : Int) ≠ k → allE l s k ll = 5 ∧ allL l s k ll = []) ∧
    (checkE l s k = 0 → (ll.length : Int) = k → (∃ i, i < ll.length ∧ ((rowAt ll i).length : Int) ≠ s) → allE l s k ll = 4 ∧ allL l s k ll = []) ∧ (checkE l s k = 0 → (ll.length : Int) = k → (∀ i, i < ll.length → ((rowAt ll i).length : Int) = s) → allE l s k ll = 0 ∧ allL l s k ll = joinL ll) := by
  refine ⟨fun h => ?_, fun h h' => ?_, fun h h' h'' => ?_, fun h h' h'' => ?_⟩
  · have e : allE l s k ll = checkE l s k := by unfold allE; rw [if_neg h]
    exact ⟨e, by unfold allL; rw [e, if_neg h]⟩
  · have e : allE l s k ll = 5 := by unfold allE; rw [if_pos h, if_neg h']
    exact ⟨e, by unfold allL; rw [e, if_neg (by decide)]⟩
  · have e : allE l s k ll = 4 := by
      unfold allE; rw [if_pos h, if_pos h', if_neg fun q => ?_]
      obtain ⟨i, hi, hne⟩ := h''
      exact hne (q i hi)
    exact ⟨e, by unfold allL; rw [e, if_neg (by decide)]⟩
  · have e : allE l s k ll = 0 := by unfold allE; rw [if_pos h, if_pos h', if_pos h'']
    exact ⟨e, by unfold allL; rw [e, if_pos rfl]⟩
theorem joinL_take (ll : List (List Nat)) {j : Nat} (hj : j < ll.length) : joinL (ll.take (j + 1)) = joinL (ll.take j) ++ rowAt ll j := by
  unfold joinL; rw [take_rowAt ll j hj, List.flatten_append]; simp
theorem joinL_len {ll : List (List Nat)} {s : Nat} : ∀ j, j ≤ ll.length → (∀ i, i < j → (rowAt ll i).length = s) → (joinL (ll.take j)).length = j * s
  | 0, _, _ => by simp [joinL]
  | j + 1, hj, h => by rw [joinL_take ll (by omega), List.length_append, joinL_len j (by omega) (fun i hi => h i (by omega)), h j (by omega), Nat.succ_mul]
end Go.Proofs.Ytfefkchjhooloaa

/-
  Plans in the program (layer 10): 'need', 'Check'.
-/
set_option maxRecDepth 100000
namespace Go.Proofs.Ytfefkchjhooloaa
open Go.RowKit

/-- How many symbols a length needs, however many. -/
def needT (l s : Nat) : Nat := if l ≤ s then 1 else (l - 1) / s + 1
theorem needT_eq {l s : Nat} (hs : 1 ≤ s) : needT l s = max 1 (l / s + if 0 < l % s then 1 else 0) := by
  unfold needT
  by_cases h : l ≤ s
  · rw [if_pos h]
    by_cases h1 : l = s
    · subst h1; rw [Nat.div_self (by omega), Nat.mod_self]; rfl
    · rw [Nat.div_eq_of_lt (by omega), Nat.mod_eq_of_lt (by omega)]
      split <;> rfl
  · rw [if_neg h]
    have h1 := Nat.div_add_mod l s
    have h2 := Nat.mod_lt l (show 0 < s by omega)
    have h4 : 1 ≤ l / s := (Nat.le_div_iff_mul_le (by omega)).2 (by omega)
    by_cases h3 : 0 < l % s
    · rw [if_pos h3]
      have e : (l - 1) / s = l / s := by
        obtain ⟨q, hq⟩ : ∃ q, q = l / s := ⟨_, rfl⟩
        obtain ⟨r, hr⟩ : ∃ r, r = l % s := ⟨_, rfl⟩
        rw [← hq, ← hr] at h1
        rw [← hr] at h2 h3
        have : l - 1 = s * q + (r - 1) := by omega
        rw [this, Nat.mul_add_div (by omega), Nat.div_eq_of_lt (by omega), ← hq]; omega
      rw [e]; omega
    · rw [if_neg h3]
      have e : (l - 1) / s = l / s - 1 := by
        obtain ⟨q, hq⟩ : ∃ q, l / s = q + 1 := ⟨l / s - 1, by omega⟩
        have h5 : l = s * (q + 1) := by rw [← hq]; omega
        have h6 : s * (q + 1) = s * q + s := Nat.mul_succ s q
        have : l - 1 = s * q + (s - 1) := by omega
        rw [this, Nat.mul_add_div (by omega), Nat.div_eq_of_lt (by omega), hq]; omega
      rw [e]; omega
theorem needT_many {l s : Nat} (hs : 1 ≤ s) : 4096 < needT l s ↔ 4096 < needsN l s := by
  unfold needT needsN
  by_cases h : l ≤ s
  · rw [if_pos h, if_pos h]
  · rw [if_neg h, if_neg h]
    by_cases h2 : 4097 * s < l
    · rw [if_pos h2]
      have : 4097 ≤ (l - 1) / s := (Nat.le_div_iff_mul_le (by omega)).2 (by omega)
      omega
    · rw [if_neg h2]
theorem needT_few {l s : Nat} (hs : 1 ≤ s) (h : ¬ 4096 < needT l s) : needT l s = needsN l s := by
  unfold needT needsN at *
  by_cases h1 : l ≤ s
  · rw [if_pos h1, if_pos h1]
  · rw [if_neg h1] at h
    rw [if_neg h1, if_neg h1, if_neg]
    intro h2
    have : 4097 ≤ (l - 1) / s := (Nat.le_div_iff_mul_le (by omega)).2 (by omega)
    omega
/-- What need answers. -/
def needI (l s : Int) : Int := if s < 1 then 0 else if l < 0 then 1 else (needT l.toNat s.toNat : Int)
set_option maxHeartbeats 1000000 in
theorem need_pos (l s : Nat) (w : World) (hl : l ≤ 9223372036854775807) (hs : 1 ≤ s) (hs2 : s ≤ 9223372036854775807) :
    Calls Try.prog 30 #[.int .i64 (l : Int), .int .i64 (s : Int)] w fun e w' => e = .returned (.int .i64 (needT l s : Int)) ∧ w = w' := by
  have HE := Lib.hid (needT_eq (l := l) hs)
  obtain ⟨q, hq⟩ : ∃ q, q = l / s := ⟨_, rfl⟩
  obtain ⟨r, hr⟩ : ∃ r, r = l % s := ⟨_, rfl⟩
  have HQR := Lib.hid (show q * s + r = l by rw [hq, hr, Nat.mul_comm]; exact Nat.div_add_mod l s)
  rw [← hq, ← hr] at HE
  have hq1 : q ≤ l := by rw [hq]; exact Nat.div_le_self _ _
  have hqi : (l : Int) / (s : Int) = (q : Int) := by rw [hq]; rfl
  have hri : (l : Int) % (s : Int) = (r : Int) := by rw [hr]; rfl
  have hm : ¬ (s : Int) < 1 := by omega
  have hs0 : ¬ s = 0 := by omega
  have hrs : r < s := by rw [hr]; exact Nat.mod_lt _ (by omega)
  clear hq hr
  by_cases h : 0 < r
  · have HE2 := Lib.hid (show (needT l s : Int) = max 1 ((q : Int) + 1) by rw [HE.out, if_pos h]; omega)
    have h1 : (0 : Int) < (r : Int) := by omega
    have hq2 : q < 9223372036854775807 := by
      have : q * s + r ≤ l := by have := HQR.out; omega
      have : q ≤ q * s := Nat.le_mul_of_pos_right q (by omega)
      omega
    clear h HE
    go_enter Try.func30, Try.ntmps30
    go_wp2_with fail
    all_goals go_ret
    all_goals refine ⟨congrArg (fun z : Int => Ending.returned (.int .i64 z)) ?_, rfl⟩
    all_goals (rw [HE2.out]; try omega)
  · have HE2 := Lib.hid (show (needT l s : Int) = max 1 (q : Int) by rw [HE.out, if_neg h]; omega)
    have h1 : ¬ (0 : Int) < (r : Int) := by omega
    clear h HE
    go_enter Try.func30, Try.ntmps30
    go_wp2_with fail
    all_goals go_ret
    all_goals refine ⟨congrArg (fun z : Int => Ending.returned (.int .i64 z)) ?_, rfl⟩
    all_goals (rw [HE2.out]; try omega)
theorem need_none (l s : Int) (w : World) (hs : s < 1) :
    Calls Try.prog 30 #[.int .i64 l, .int .i64 s] w fun e w' => e = .returned (.int .i64 0) ∧ w = w' := by
  go_enter Try.func30, Try.ntmps30
  go_wp2_with fail
  go_ret
  exact ⟨rfl, rfl⟩
set_option maxHeartbeats 1000000 in
theorem need_neg (l : Int) (s : Nat) (w : World) (hl0 : -9223372036854775808 ≤ l) (hl : l < 0) (hs : 1 ≤ s) (hs2 : s ≤ 9223372036854775807) :
    Calls Try.prog 30 #[.int .i64 l, .int .i64 (s : Int)] w fun e w' => e = .returned (.int .i64 1) ∧ w = w' := by
  obtain ⟨m, rfl⟩ : ∃ m : Nat, l = -(m : Int) := ⟨l.natAbs, by omega⟩
  have hm0 : 1 ≤ m := by omega
  have hm : ¬ (s : Int) < 1 := by omega
  have hs0 : ¬ s = 0 := by omega
  obtain ⟨q, hq⟩ : ∃ q, q = m / s := ⟨_, rfl⟩
  have hqm : q ≤ m := by rw [hq]; exact Nat.div_le_self _ _
  have hqi : (m : Int) / (s : Int) = (q : Int) := by rw [hq]; rfl
  clear hq
  go_enter Try.func30, Try.ntmps30
  go_wp2_with fail
  all_goals go_ret
  all_goals refine ⟨congrArg (fun z : Int => Ending.returned (.int .i64 z)) ?_, rfl⟩
  all_goals omega
theorem need_any (l s : Int) (w : World) (hl0 : -9223372036854775808 ≤ l) (hl : l ≤ 9223372036854775807) (hs2 : s ≤ 9223372036854775807) :
    Calls Try.prog 30 #[.int .i64 l, .int .i64 s] w fun e w' => e = .returned (.int .i64 (needI l s)) ∧ w = w' := by
  unfold needI
  by_cases h : s < 1
  · rw [if_pos h]; exact need_none l s w h
  · rw [if_neg h]
    obtain ⟨s', rfl⟩ : ∃ s' : Nat, s = s' := ⟨s.toNat, by omega⟩
    by_cases h2 : l < 0
    · rw [if_pos h2]; exact need_neg l s' w hl0 h2 (by omega) (by omega)
    · rw [if_neg h2]
      obtain ⟨l', rfl⟩ : ∃ l' : Nat, l = l' := ⟨l.toNat, by omega⟩
      exact need_pos l' s' w (by omega) (by omega) (by omega)

/-- The program's code for a plan is the document's. -/
theorem check_spell (l s k : Int) : checkE l s k = if l < 0 then 2 else if s < 1 ∨ 65535 < s then 4 else if 4096 < needI l s then 5 else if k = needI l s then 0 else 14 := by
  unfold checkE needI
  by_cases h1 : l < 0
  · rw [if_pos h1, if_pos h1]
  · rw [if_neg h1, if_neg h1]
    by_cases h2 : s < 1 ∨ 65535 < s
    · rw [if_pos h2, if_pos h2]
    · have hs : 1 ≤ s.toNat := by omega
      have hm := needT_many (l := l.toNat) hs
      rw [if_neg h2, if_neg h2, if_neg (show ¬ s < 1 by omega), if_neg h1]
      by_cases h3 : 4096 < needT l.toNat s.toNat
      · rw [if_pos (hm.1 h3), if_pos (by omega)]
      · rw [if_neg (fun h => h3 (hm.2 h)), if_neg (show ¬ (4096 : Int) < (needT l.toNat s.toNat : Int) by omega), needT_few hs h3]
set_option maxHeartbeats 1000000 in
theorem check_any (l s k n : Int) (w : World) (hl0 : -9223372036854775808 ≤ l) (hl : l ≤ 9223372036854775807) (hs2 : s ≤ 9223372036854775807) :
    Calls Try.prog 31 #[.agg #[.int .i64 l, .int .i64 s, .int .i64 k, .int .u32 n]] w fun e w' => e = .returned (.int .i64 (checkE l s k)) ∧ Below w.heap.size w w' := by
  have hsp := check_spell l s k
  have HN := Lib.hid (fun w => need_any l s w hl0 hl hs2)
  obtain ⟨m, hm⟩ : ∃ m, m = needI l s := ⟨_, rfl⟩
  rw [← hm] at hsp HN
  clear hm
  by_cases h1 : l < 0
  · have HC := Lib.hid (show checkE l s k = 2 by rw [hsp, if_pos h1])
    clear hsp
    go_enter Try.func31, Try.ntmps31
    go_wp2_with fail
    go_ret
    exact ⟨by rw [HC.out]; rfl, (Below.refl _ _).alloc (Nat.le_refl _) _⟩
  · rw [if_neg h1] at hsp
    by_cases h2 : s < 1
    · have HC := Lib.hid (show checkE l s k = 4 by rw [hsp, if_pos (.inl h2)])
      clear hsp
      go_enter Try.func31, Try.ntmps31
      go_wp2_with fail
      go_ret
      exact ⟨by rw [HC.out]; rfl, (Below.refl _ _).alloc (Nat.le_refl _) _⟩
    · by_cases h3 : 65535 < s
      · have HC := Lib.hid (show checkE l s k = 4 by rw [hsp, if_pos (.inr h3)])
        clear hsp
        go_enter Try.func31, Try.ntmps31
        go_wp2_with fail
        go_ret
        exact ⟨by rw [HC.out]; rfl, (Below.refl _ _).alloc (Nat.le_refl _) _⟩
      · rw [if_neg (by omega)] at hsp
        by_cases h4 : 4096 < m
        · have HC := Lib.hid (show checkE l s k = 5 by rw [hsp, if_pos h4])
          clear hsp
          go_enter Try.func31, Try.ntmps31
          go_wp2_with fail
          refine (HN.out _).mono ?_
          rintro e w' ⟨rfl, rfl⟩
          go_wp2_with fail
          go_ret
          exact ⟨by rw [HC.out]; rfl, (Below.refl _ _).alloc (Nat.le_refl _) _⟩
        · rw [if_neg h4] at hsp
          by_cases h5 : k = m
          · have HC := Lib.hid (show checkE l s k = 0 by rw [hsp, if_pos h5])
            have h6 : (k != m) = false := by rw [h5]; simp
            clear hsp h5
            go_enter Try.func31, Try.ntmps31
            go_wp2_with fail
            refine (HN.out _).mono ?_
            rintro e w' ⟨rfl, rfl⟩
            go_wp2_with fail
            go_ret
            exact ⟨by rw [HC.out]; rfl, (Below.refl _ _).alloc (Nat.le_refl _) _⟩
          · have HC := Lib.hid (show checkE l s k = 14 by rw [hsp, if_neg h5])
            have h6 : (k != m) = true := by rw [bne_iff_ne]; exact h5
            clear hsp
            go_enter Try.func31, Try.ntmps31
            go_wp2_with fail
            refine (HN.out _).mono ?_
            rintro e w' ⟨rfl, rfl⟩
            go_wp2_with fail
            go_ret
            exact ⟨by rw [HC.out]; rfl, (Below.refl _ _).alloc (Nat.le_refl _) _⟩

end Go.Proofs.Ytfefkchjhooloaa
